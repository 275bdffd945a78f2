import Derived.Test.YteillcbajkhjkaaDoorR1
namespace Go.Proofs.YteillcbajkhjkaaDoor
open Go.RowKit
attribute [local go_sem ↓] Go.wp_at_zero Go.wp_at_succ

set_option maxHeartbeats 400000 in
theorem not_any (x : Nat) (w : World) (hx : x < 4294967296) :
    Calls Tryd.prog 49 #[.int .i64 (x : Int)] w fun e w' => e = .returned (.int .i64 ((4294967295 - x : Nat) : Int)) ∧ w' = w := by
  go_enter Tryd.func49, Tryd.ntmps49
  go_wp2
  go_ret
  exact ret_i64 (by omega) rfl

theorem int_i64 {a b : Int} (h : a = b) : Value.int .i64 a = .int .i64 b := by rw [h]
/-- A hexadecimal digit's value. -/
def digit (c : Nat) : Nat := if 97 ≤ c then c - 97 + 10 else c - 48
/-- The first k of eight digits. -/
def hexK (l : List Nat) (i : Nat) : Nat → Nat
  | 0 => 0
  | k + 1 => 16 * hexK l i k + digit (l.getD (8 * i + k) 0)
def isHex (l : List Nat) : Prop := ∀ i, 48 ≤ l.getD i 48 ∧ l.getD i 48 ≤ 57 ∨ 97 ≤ l.getD i 48 ∧ l.getD i 48 ≤ 102
theorem digit_lt {c : Nat} (h : 48 ≤ c ∧ c ≤ 57 ∨ 97 ≤ c ∧ c ≤ 102) : digit c < 16 := by unfold digit; split <;> omega

theorem byte_at (s : ByteArray) (i : Nat) (h : i < s.size) : (s[i].toNat : Nat) = (bts s).getD i 0 := by
  rw [List.getD_eq_getElem?_getD]
  simp [bts, h]
  rfl

set_option maxRecDepth 100000 in
set_option maxHeartbeats 400000 in
theorem word_any (s : ByteArray) (i : Nat) (w : World) (hs : 8 * i + 8 ≤ s.size) (hsz : s.size < 1000000) (hx : isHex (bts s)) :
    Calls Tryd.prog 40 #[.string s, .int .i64 (i : Int)] w fun e w' => e = .returned (.int .i64 (hexK (bts s) i 8 : Int)) ∧ w' = w := by
  go_enter Tryd.func40, Tryd.ntmps40
  go_wp2
  go_loop [5, 6] (fun n k => ∃ j : Nat, j ≤ 8 ∧ k = .int .i64 j ∧ n = .int .i64 (hexK (bts s) i j : Int) ∧ hexK (bts s) i j < 16 ^ j) (fun _ k => 8 - (intOf k).toNat)
  case atStart => exact ⟨0, by omega, rfl, rfl, by simp [hexK]⟩
  case round =>
    obtain ⟨j, hj, rfl, rfl, hb⟩ := hrel
    by_cases hlt : j < 8
    · have hb2 : hexK (bts s) i j < 268435456 := Nat.lt_of_lt_of_le hb (show 16 ^ j ≤ 16 ^ 7 from Nat.pow_le_pow_right (by omega) (by omega))
      have hi : 8 * i + j < s.size := by omega
      have hc := hx (8 * i + j)
      have hg : (bts s).getD (8 * i + j) 48 = (bts s).getD (8 * i + j) 0 := by
        rw [List.getD_eq_getElem?_getD, List.getD_eq_getElem?_getD, List.getElem?_eq_getElem (by simpa using hi)]
        rfl
      rw [hg, ← byte_at s _ hi] at hc
      have HN : Hid (hexK (bts s) i (j + 1) = 16 * hexK (bts s) i j + digit (s[8 * i + j].toNat)) := by
        show _ = _
        rw [byte_at s _ hi]; rfl
      have HB : Hid (hexK (bts s) i (j + 1) < 16 ^ (j + 1)) := by
        show _ < _
        rw [HN.out, Nat.pow_succ]
        have := digit_lt hc
        omega
      generalize hexK (bts s) i j = q at *
      by_cases h97 : 97 ≤ s[8 * i + j].toNat
      · have HD : Hid (digit (s[8 * i + j].toNat) = s[8 * i + j].toNat - 97 + 10) := by show _ = _; simp [digit, h97]
        go_wp2
        refine ⟨⟨j + 1, by omega, by go_num, ?_, HB.out⟩, by simp [intOf]; omega⟩
        rw [HN.out, HD.out]
        exact int_i64 (by omega)
      · have HD : Hid (digit (s[8 * i + j].toNat) = s[8 * i + j].toNat - 48) := by show _ = _; simp [digit, h97]
        go_wp2
        refine ⟨⟨j + 1, by omega, by go_num, ?_, HB.out⟩, by simp [intOf]; omega⟩
        rw [HN.out, HD.out]
        exact int_i64 (by omega)
    · have hj8 : j = 8 := by omega
      subst hj8
      go_wp2
      go_ret
      exact ⟨rfl, rfl⟩
end Go.Proofs.YteillcbajkhjkaaDoor
