import Derived.Test.YtlhohmlpcgbliaaDoorZQ3
import Derived.Deep.LoopGhost
namespace Go.Proofs.YtlhohmlpcgbliaaDoor
set_option maxRecDepth 100000
open Go.RowKit
attribute [local go_sem ↓] Go.wp_at_zero Go.wp_at_succ

theorem cl_l' (f : Nat) {p q x : ByteArray} {i l : Nat} {r : List ByteArray} (h0 : l ≠ 0) (hi : i % 2 = 1) : cl (f + 1) p q i l (x :: r) = cl f (nodeS x p) (nodeS x q) (i / 2) (l / 2) r := by
  simp only [cl]
  rw [if_neg h0, if_pos hi]
theorem cl_r' (f : Nat) {p q x : ByteArray} {i l : Nat} {r : List ByteArray} (h0 : l ≠ 0) (hi : i % 2 = 0) (hil : i < l) : cl (f + 1) p q i l (x :: r) = cl f p (nodeS q x) (i / 2) (l / 2) r := by
  simp only [cl]
  rw [if_neg h0, if_neg (by omega), if_pos hil]
theorem cl_s' (f : Nat) {p q : ByteArray} {i l : Nat} {r : List ByteArray} (h0 : l ≠ 0) (hi : i % 2 = 0) (hil : ¬ i < l) : cl (f + 1) p q i l r = cl f p q (i / 2) (l / 2) r := by
  simp only [cl]
  rw [if_neg h0, if_neg (by omega), if_neg hil]
theorem cl_l {p q x : ByteArray} {i l : Nat} {r : List ByteArray} (h0 : l ≠ 0) (hl : l < 1099511627776) (hi : i % 2 = 1) : cl 40 p q i l (x :: r) = cl 40 (nodeS x p) (nodeS x q) (i / 2) (l / 2) r :=
  (cl_l' 39 h0 hi).trans (cl_fuel 39 40 _ _ _ _ _ (by omega) (by omega))
theorem cl_r {p q x : ByteArray} {i l : Nat} {r : List ByteArray} (h0 : l ≠ 0) (hl : l < 1099511627776) (hi : i % 2 = 0) (hil : i < l) : cl 40 p q i l (x :: r) = cl 40 p (nodeS q x) (i / 2) (l / 2) r :=
  (cl_r' 39 h0 hi hil).trans (cl_fuel 39 40 _ _ _ _ _ (by omega) (by omega))
theorem cl_s {p q : ByteArray} {i l : Nat} {r : List ByteArray} (h0 : l ≠ 0) (hl : l < 1099511627776) (hi : i % 2 = 0) (hil : ¬ i < l) : cl 40 p q i l r = cl 40 p q (i / 2) (l / 2) r :=
  (cl_s' 39 h0 hi hil).trans (cl_fuel 39 40 _ _ _ _ _ (by omega) (by omega))

theorem half64 (a : Nat) (h : a < 1099511627776) : Value.int .i64 (wrap64 ((a : Int) / 2)) = .int .i64 ((a / 2 : Nat) : Int) := by
  rw [IntWalk.wrap64_in _ ⟨by omega, by omega⟩]
  rfl

/-- What a call of climb gives. -/
def ClimbAs (r : Option (ByteArray × ByteArray)) (w : World) (e : Ending) (w' : World) : Prop :=
  ∃ a b ok, e = .returned (.tuple #[.string a, .string b, .bool ok]) ∧ r.isSome = ok ∧ (∀ x, r = some x → a = x.1 ∧ b = x.2) ∧ Below w.heap.size w w'

set_option maxHeartbeats 1000000 in
set_option maxRecDepth 100000 in
theorem climb_big (start : ByteArray) (i l : Nat) (v : Value) (ss : List ByteArray) (w : World) (hil : i ≤ l) (hl : l < 1099511627776) (hs : start.size < 144115188075855872) (hv : Lst w v ss) (hf : FewB ss) (ht : Table w) (hg : 2 < w.heap.size) :
    Calls Tryd.prog 89 #[.string start, .int .i64 (i : Int), .int .i64 (l : Int), v] w (ClimbAs (cl 40 start start i l ss) w) := by
  obtain ⟨p, c, rfl, hc, hcell⟩ := hv
  have HC : Aside (∀ (j : Nat) s, ss[j]? = some s → ∃ b o, p = some ⟨b, o, none⟩ ∧ w.cell? ⟨b, o + j, none⟩ = some (.string s)) := hcell
  have HF : Aside (FewB ss) := hf
  have HT : Aside (Table w) := ht
  have HI : Aside (i ≤ l ∧ l < 1099511627776 ∧ start.size < 144115188075855872) := ⟨hil, hl, hs⟩
  generalize hR : cl 40 start start i l ss = R
  have HR : Aside (cl 40 start start i l ss = R) := hR
  clear hcell hf ht hR hil hl hs
  have hn := HF.out.1
  go_enter Tryd.func89, Tryd.ntmps89
  go_wp2
  go_step3
  go_wp2
  go_step3
  go_wp2
  go_loopg [1, 2, 8, 9, 11, 22] ss.length (fun g s1 s2 s8 s9 s11 s22 wr => ∃ (k a b : Nat) (x y : ByteArray), k + g = ss.length ∧ s1 = .int .i64 (a : Int) ∧ s2 = .int .i64 (b : Int) ∧ s8 = .string x ∧ s9 = .string y ∧ s11 = .int .i64 (g : Int) ∧ s22 = .int .i64 (k : Int) ∧
    Aside (cl 40 x y a b (ss.drop k) = R ∧ a ≤ b ∧ b < 1099511627776 ∧ x.size < 144115188075855872 ∧ y.size < 144115188075855872) ∧ Below w.heap.size w wr)
  case atStart => exact ⟨0, i, l, start, start, by omega, rfl, rfl, rfl, rfl, rfl, rfl, ⟨by simpa using HR.out, HI.out.1, HI.out.2.1, HI.out.2.2, HI.out.2.2⟩, Below.refl _ _⟩
  case round =>
    obtain ⟨k, a, b, x, y, hkg, rfl, rfl, rfl, rfl, rfl, rfl, HS, hbx⟩ := hrel
    cases gk with
    | zero =>
      have hkz : ¬ ((k : Int) < (ss.length : Int)) := by omega
      have HD : Aside (ss.drop k = []) := List.drop_eq_nil_of_le (by omega)
      by_cases hb0 : b = 0
      · subst hb0
        go_wp2
        try rw [Exit.noGoto_ret]
        go_ret3
        have hR := HS.out.1
        rw [HD.out, cl_zero, if_pos rfl] at hR
        subst hR
        exact ⟨x, y, true, rfl, rfl, (fun z h => by cases h; exact ⟨rfl, rfl⟩), hbx⟩
      · have hb1 : ((b : Int) == 0) = false := by simp; omega
        go_wp2
        try rw [Exit.noGoto_ret]
        go_ret3
        have hR := HS.out.1
        rw [HD.out, cl_short 40 x y a b HS.out.2.1 (by omega) (by have := HS.out.2.2.1; omega)] at hR
        subst hR
        exact ⟨x, y, false, rfl, rfl, (fun z h => by cases h), hbx⟩
    | succ g =>
      have hkz : (k : Int) < (ss.length : Int) := by omega
      obtain ⟨s, hs⟩ : ∃ s, ss[k]? = some s := ⟨_, List.getElem?_eq_getElem (by omega)⟩
      obtain ⟨bb, oo, rfl, hc0⟩ := HC.out k s hs
      have hcx : wr.cell? ⟨bb, oo + k, none⟩ = some (.string s) := by rw [hbx.cell (World.block_lt_of_cell? _ _ hc0)]; exact hc0
      have HD : Aside (ss.drop k = s :: ss.drop (k + 1)) := by
        obtain ⟨h1, h2⟩ := List.getElem?_eq_some_iff.1 hs
        show ss.drop k = _
        rw [← h2]; exact List.drop_eq_getElem_cons h1
      have hss : s.size ≤ 140737488355328 := HF.out.2 s (List.mem_of_getElem? hs)
      have HX : Aside (w.cell? ⟨bb, oo + k, none⟩ = some (.string s) ∧ ss[k]? = some s) := ⟨hc0, hs⟩
      clear hc0 hs
      go_wp2
      go_loopg [1, 2, 8, 9, 11] b (fun g2 s1 s2 s8 s9 s11 wy => ∃ (a2 b2 : Nat), b2 ≤ g2 ∧ s1 = .int .i64 (a2 : Int) ∧ s2 = .int .i64 (b2 : Int) ∧ s8 = .string x ∧ s9 = .string y ∧ s11 = .int .i64 ((g + 1 : Nat) : Int) ∧ wy = wr ∧
        Aside (cl 40 x y a2 b2 (ss.drop k) = R ∧ a2 ≤ b2 ∧ b2 < 1099511627776 ∧ x.size < 144115188075855872 ∧ y.size < 144115188075855872))
      case atStart => exact ⟨a, b, Nat.le_refl _, rfl, rfl, rfl, rfl, rfl, rfl, HS.out⟩
      case round =>
        obtain ⟨a2, b2, hbg, rfl, rfl, rfl, rfl, rfl, rfl, HS2⟩ := hrel
        clear HS
        by_cases hb0 : b2 = 0
        · subst hb0
          have hg1 : ((g : Int) + 1 == 0) = false := by simp; omega
          go_wp2
          try rw [Exit.noGoto_ret]
          go_ret3
          have hR := HS2.out.1
          rw [HD.out, cl_zero, if_neg (by simp)] at hR
          subst hR
          exact ⟨x, y, false, rfl, rfl, (fun z h => by cases h), hbx⟩
        · have hb1 : ((b2 : Int) == 0) = false := by simp; omega
          have HB0 : Aside (b2 ≠ 0) := hb0
          clear hb0
          by_cases hodd : a2 % 2 = 1
          · have ho : ((a2 : Int) % 2 == 1) = true := by simp; omega
            have h1 := treeNode_any s x wr (by omega) (by have := HS2.out.2.2.2.1; omega) (table_at hbx hg HT.out) (Nat.lt_of_lt_of_le hg hbx.size)
            go_wp2_with (go_at_call_of 59 (Value.string x); refine h1.mono ?_; rintro e w1 ⟨rfl, hb2⟩)
            clear h1
            have h2 := treeNode_any s y w1 (by omega) (by have := HS2.out.2.2.2.2; omega) (table_at hb2 (Nat.lt_of_lt_of_le hg hbx.size) (table_at hbx hg HT.out)) (Nat.lt_of_lt_of_le hg (Nat.le_trans hbx.size hb2.size))
            refine h2.mono ?_
            rintro e w2 ⟨rfl, hb3⟩
            clear h2
            go_wp2
            go_roundg g
            case measure => omega
            case rel =>
              obtain ⟨hR, h1, h2, h3, h4⟩ := HS2.out
              have hbb := hb2.trans (hb3.mono hb2.size)
              refine ⟨k + 1, a2 / 2, b2 / 2, nodeS s x, nodeS s y, by omega, half64 a2 (by omega), half64 b2 h2, rfl, rfl, rfl, by go_num, ⟨?_, by omega, by omega, by rw [nodeS_size]; omega, by rw [nodeS_size]; omega⟩, hbx.trans (hbb.mono hbx.size)⟩
              rw [HD.out, cl_l HB0.out h2 hodd] at hR
              exact hR
          · have ho : ((a2 : Int) % 2 == 1) = false := by simp; omega
            by_cases hlt : a2 < b2
            · have h1 := treeNode_any y s wr (by have := HS2.out.2.2.2.2; omega) (by omega) (table_at hbx hg HT.out) (Nat.lt_of_lt_of_le hg hbx.size)
              go_wp2_with (go_at_call 59; refine h1.mono ?_; rintro e w1 ⟨rfl, hb2⟩)
              go_roundg g
              case measure => omega
              case rel =>
                obtain ⟨hR, h1, h2, h3, h4⟩ := HS2.out
                refine ⟨k + 1, a2 / 2, b2 / 2, x, nodeS y s, by omega, half64 a2 (by omega), half64 b2 h2, rfl, rfl, rfl, by go_num, ⟨?_, by omega, by omega, h3, by rw [nodeS_size]; omega⟩, hbx.trans (hb2.mono hbx.size)⟩
                rw [HD.out, cl_r HB0.out h2 (by omega) hlt] at hR
                exact hR
            · go_wp2
              go_roundg (b2 / 2)
              case measure => have := HB0.out; omega
              case rel =>
                obtain ⟨hR, h1, h2, h3, h4⟩ := HS2.out
                refine ⟨a2 / 2, b2 / 2, Nat.le_refl _, half64 a2 (by omega), half64 b2 h2, rfl, rfl, rfl, rfl, ⟨?_, by omega, by omega, h3, h4⟩⟩
                rw [cl_s HB0.out h2 (by omega) hlt] at hR
                exact hR

end Go.Proofs.YtlhohmlpcgbliaaDoor
