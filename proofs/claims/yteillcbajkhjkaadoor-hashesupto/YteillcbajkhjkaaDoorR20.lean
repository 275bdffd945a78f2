import Derived.Test.YteillcbajkhjkaaDoorR19
import Derived.Test.YteillcbajkhjkaaDoorSh
namespace Go.Proofs.YteillcbajkhjkaaDoor
open Go.RowKit
attribute [local go_sem ↓] Go.wp_at_zero Go.wp_at_succ

/-- The greatest power of 2 below n. -/
def spl (n : Nat) : Nat := 2 ^ Nat.log2 (n - 1)
theorem spl_of {n j : Nat} (h1 : 2 ^ j < n) (h2 : n ≤ 2 * 2 ^ j) : spl n = 2 ^ j := by
  unfold spl
  have h0 : 0 < 2 ^ j := Nat.two_pow_pos j
  have h3 : Nat.log2 (n - 1) = j := (Nat.log2_eq_iff (by omega)).2 ⟨by omega, by rw [Nat.pow_succ]; omega⟩
  rw [h3]
theorem spl_lt {n : Nat} (h : 2 ≤ n) : spl n < n := by
  have := Nat.log2_self_le (n := n - 1) (by omega)
  unfold spl; omega
theorem spl_pos (n : Nat) : 0 < spl n := Nat.two_pow_pos _
theorem spl_ge {n : Nat} (h : 2 ≤ n) : n ≤ 2 * spl n := by
  have := Nat.lt_log2_self (n := n - 1)
  unfold spl
  rw [Nat.pow_succ] at this; omega

set_option maxHeartbeats 400000 in
theorem splitRef_any (n : Nat) (w : World) (h2 : 2 ≤ n) (hn : n ≤ 1099511627776) :
    Calls Tryd.prog 32 #[.int .i64 (n : Int)] w fun e w' => e = .returned (.int .i64 ((spl n : Nat) : Int)) ∧ w' = w := by
  go_enter Tryd.func32, Tryd.ntmps32
  try go_wp2
  go_loopw [3] (fun k wr => ∃ j p : Nat, p = 2 ^ j ∧ p < n ∧ 0 < p ∧ k = .int .i64 (p : Int) ∧ wr = w) (fun k _ => n - (intOf k).toNat)
  case atStart => exact ⟨0, 1, rfl, by omega, by omega, rfl, rfl⟩
  case round =>
    obtain ⟨j, p, hp, hpn, hp0, rfl, rfl⟩ := hrel
    have HP : Hid (p = 2 ^ j) := hp
    clear hp
    by_cases h : 2 * p < n
    · go_wp2
      go_roundw
      case rel => exact ⟨j + 1, 2 * p, by rw [HP.out, Nat.pow_succ]; omega, h, by omega, by go_num, trivial⟩
      case measure => simp [intOf]; omega
    · have HS : Hid (spl n = p) := by
        show _ = _
        have hp := HP.out
        rw [hp] at hpn h
        rw [spl_of (n := n) (j := j) (by omega) (by omega), hp]
      go_wp2
      go_ret
      rw [HS.out]
      exact ⟨rfl, rfl⟩

theorem bitLenAux_log (f : Nat) : ∀ x, x ≠ 0 → x < 2 ^ f → Lib.bitLenAux f x = Nat.log2 x + 1 := by
  induction f with
  | zero => intro x h0 h1; simp at h1; omega
  | succ f ih =>
    intro x h0 h1
    rw [Lib.bitLenAux, if_neg h0]
    by_cases h2 : x / 2 = 0
    · have hx : x = 1 := by omega
      subst hx
      rw [h2]
      cases f <;> rfl
    · rw [ih (x / 2) h2 (by rw [Nat.pow_succ] at h1; omega)]
      conv => rhs; rw [Nat.log2_def]
      rw [if_pos (by omega)]
      omega
theorem bitLen_spl {n : Nat} (h : 2 ≤ n) (hn : n ≤ 1099511627776) : Lib.bitLen (n - 1) = Nat.log2 (n - 1) + 1 :=
  bitLenAux_log 64 _ (by omega) (by omega)

set_option maxHeartbeats 400000 in
theorem treeSplit_any (n : Nat) (w : World) (h2 : 2 ≤ n) (hn : n ≤ 1099511627776) :
    Calls Tryd.prog 39 #[.int .i64 (n : Int)] w fun e w' => e = .returned (.int .i64 ((spl n : Nat) : Int)) ∧ w' = w := by
  have hL := fun wx => bits_Len ((n : Int) - 1) wx (by omega) (by omega)
  have e1 : ((n : Int) - 1).toNat = n - 1 := by omega
  have hlog : Nat.log2 (n - 1) < 41 := (Nat.log2_lt (by omega)).2 (by omega)
  rw [e1, bitLen_spl h2 hn] at hL
  have HS : Hid (spl n = 2 ^ Nat.log2 (n - 1)) := rfl
  generalize Nat.log2 (n - 1) = g at *
  go_enter Tryd.func39, Tryd.ntmps39
  go_wp2_with (go_at_call 47; refine (hL _).mono ?_; rintro e w' ⟨rfl, rfl⟩)
  go_ret
  rw [HS.out]
  refine ⟨?_, rfl⟩
  have hp : (2 : Nat) ^ g < 2 ^ 41 := Nat.pow_lt_pow_right (by omega) hlog
  have hz : wrap64 (2 ^ g) = ((2 ^ g : Nat) : Int) := by
    rw [show ((2 : Int) ^ g) = ((2 ^ g : Nat) : Int) by simp]
    generalize (2 : Nat) ^ g = p at *
    exact IntWalk.wrap64_in _ ⟨by omega, by omega⟩
  rw [hz]
  rfl
end Go.Proofs.YteillcbajkhjkaaDoor
