import Derived.Test.YtlhohmlpcgbliabGreatDoorZQ3
import Derived.Deep.LoopGhost
import Derived.Test.YtlhohmlpcgbliabGreatDoorZX14
namespace Go.Proofs.YtlhohmlpcgbliabGreatDoor
set_option maxRecDepth 100000
open Go.RowKit
attribute [local go_sem ↓] Go.wp_at_zero Go.wp_at_succ

theorem cl_l' (f : Nat) {p q x : ByteArray} {i l : Nat} {r : List ByteArray} (h0 : l ≠ 0) (hi : i % 2 = 1) : cl (f + 1) p q i l (x :: r) = cl f (nodeS x p) (nodeS x q) (i / 2) (l / 2) r := by
  simp only [cl]
  rw [if_neg h0, if_pos hi]
theorem cl_r' (f : Nat) {p q x : ByteArray} {i l : Nat} {r : List ByteArray} (h0 : l ≠ 0) (hi : i % 2 = 0) (hil : i < l) : cl (f + 1) p q i l (x :: r) = cl f p (nodeS q x) (i / 2) (l / 2) r := by
  simp only [cl]
  rw [if_neg h0, if_neg (by omega), if_pos hil]
theorem cl_s' (f : Nat) {p q : ByteArray} {i l : Nat} {r : List ByteArray} (h0 : l ≠ 0) (hi : i % 2 = 0) (hil : ¬ i < l) : cl (f + 1) p q i l r = cl f p q (i / 2) (l / 2) r := by
  simp only [cl]
  rw [if_neg h0, if_neg (by omega), if_neg hil]
theorem cl_l {p q x : ByteArray} {i l : Nat} {r : List ByteArray} (h0 : l ≠ 0) (hl : l < 1099511627776) (hi : i % 2 = 1) : cl 40 p q i l (x :: r) = cl 40 (nodeS x p) (nodeS x q) (i / 2) (l / 2) r :=
  (cl_l' 39 h0 hi).trans (cl_fuel 39 40 _ _ _ _ _ (by omega) (by omega))
theorem cl_r {p q x : ByteArray} {i l : Nat} {r : List ByteArray} (h0 : l ≠ 0) (hl : l < 1099511627776) (hi : i % 2 = 0) (hil : i < l) : cl 40 p q i l (x :: r) = cl 40 p (nodeS q x) (i / 2) (l / 2) r :=
  (cl_r' 39 h0 hi hil).trans (cl_fuel 39 40 _ _ _ _ _ (by omega) (by omega))
theorem cl_s {p q : ByteArray} {i l : Nat} {r : List ByteArray} (h0 : l ≠ 0) (hl : l < 1099511627776) (hi : i % 2 = 0) (hil : ¬ i < l) : cl 40 p q i l r = cl 40 p q (i / 2) (l / 2) r :=
  (cl_s' 39 h0 hi hil).trans (cl_fuel 39 40 _ _ _ _ _ (by omega) (by omega))

theorem half64 (a : Nat) (h : a < 1099511627776) : Value.int .i64 (wrap64 ((a : Int) / 2)) = .int .i64 ((a / 2 : Nat) : Int) := by
  rw [IntWalk.wrap64_in _ ⟨by omega, by omega⟩]
  rfl

/-- What a call of climb gives. -/
def ClimbAs (r : Option (ByteArray × ByteArray)) (w : World) (e : Ending) (w' : World) : Prop :=
  ∃ a b ok, e = .returned (.tuple #[.string a, .string b, .bool ok]) ∧ r.isSome = ok ∧ (∀ x, r = some x → a = x.1 ∧ b = x.2) ∧ Below w.heap.size w w'

set_option maxHeartbeats 1000000 in
set_option maxRecDepth 100000 in
theorem climb_big (start : ByteArray) (i l : Nat) (v : Value) (ss : List ByteArray) (w : World) (hil : i ≤ l) (hl : l < 1099511627776) (hs : start.size < 144115188075855872) (hv : Lst w v ss) (hf : FewB ss) (ht : Table w) (hg : 2 < w.heap.size) :
    Calls Tryz.prog 54 #[.string start, .int .i64 (i : Int), .int .i64 (l : Int), v] w (ClimbAs (cl 40 start start i l ss) w) := by
  obtain ⟨p, c, rfl, hc, hcell⟩ := hv
  have HC : Aside (∀ (j : Nat) s, ss[j]? = some s → ∃ b o, p = some ⟨b, o, none⟩ ∧ w.cell? ⟨b, o + j, none⟩ = some (.string s)) := hcell
  have HF : Aside (FewB ss) := hf
  have HT : Aside (Table w) := ht
  have HI : Aside (i ≤ l ∧ l < 1099511627776 ∧ start.size < 144115188075855872) := ⟨hil, hl, hs⟩
  generalize hR : cl 40 start start i l ss = R
  have HR : Aside (cl 40 start start i l ss = R) := hR
  clear hcell hf ht hR hil hl hs
  have hn := HF.out.1
  go_enter Tryz.func54, Tryz.ntmps54
  go_wp2
  go_step3
  go_wp2
  go_step3
  go_wp2
  go_loopg [1, 2, 8, 9, 11, 22] ss.length (fun g s1 s2 s8 s9 s11 s22 wr => ∃ (k a b : Nat) (x y : ByteArray), k + g = ss.length ∧ s1 = .int .i64 (a : Int) ∧ s2 = .int .i64 (b : Int) ∧ s8 = .string x ∧ s9 = .string y ∧ s11 = .int .i64 (g : Int) ∧ s22 = .int .i64 (k : Int) ∧
    Aside (cl 40 x y a b (ss.drop k) = R ∧ a ≤ b ∧ b < 1099511627776 ∧ x.size < 144115188075855872 ∧ y.size < 144115188075855872) ∧ Below w.heap.size w wr)
  case atStart => exact ⟨0, i, l, start, start, by omega, rfl, rfl, rfl, rfl, rfl, rfl, ⟨by simpa using HR.out, HI.out.1, HI.out.2.1, HI.out.2.2, HI.out.2.2⟩, Below.refl _ _⟩
  case round =>
    obtain ⟨k, a, b, x, y, hkg, rfl, rfl, rfl, rfl, rfl, rfl, HS, hbx⟩ := hrel
    cases gk with
    | zero =>
      have hkz : ¬ ((k : Int) < (ss.length : Int)) := by omega
      have HD : Aside (ss.drop k = []) := List.drop_eq_nil_of_le (by omega)
      by_cases hb0 : b = 0
      · subst hb0
        go_wp2
        try rw [Exit.noGoto_ret]
        go_ret3
        have hR := HS.out.1
        rw [HD.out, cl_zero, if_pos rfl] at hR
        subst hR
        exact ⟨x, y, true, rfl, rfl, (fun z h => by cases h; exact ⟨rfl, rfl⟩), hbx⟩
      · have hb1 : ((b : Int) == 0) = false := by simp; omega
        go_wp2
        try rw [Exit.noGoto_ret]
        go_ret3
        have hR := HS.out.1
        rw [HD.out, cl_short 40 x y a b HS.out.2.1 (by omega) (by have := HS.out.2.2.1; omega)] at hR
        subst hR
        exact ⟨x, y, false, rfl, rfl, (fun z h => by cases h), hbx⟩
    | succ g =>
      have hkz : (k : Int) < (ss.length : Int) := by omega
      obtain ⟨s, hs⟩ : ∃ s, ss[k]? = some s := ⟨_, List.getElem?_eq_getElem (by omega)⟩
      obtain ⟨bb, oo, rfl, hc0⟩ := HC.out k s hs
      have hcx : wr.cell? ⟨bb, oo + k, none⟩ = some (.string s) := by rw [hbx.cell (World.block_lt_of_cell? _ _ hc0)]; exact hc0
      have HD : Aside (ss.drop k = s :: ss.drop (k + 1)) := by
        obtain ⟨h1, h2⟩ := List.getElem?_eq_some_iff.1 hs
        show ss.drop k = _
        rw [← h2]; exact List.drop_eq_getElem_cons h1
      have hss : s.size ≤ 140737488355328 := HF.out.2 s (List.mem_of_getElem? hs)
      have HX : Aside (w.cell? ⟨bb, oo + k, none⟩ = some (.string s) ∧ ss[k]? = some s) := ⟨hc0, hs⟩
      clear hc0 hs
      go_wp2
      go_loopg [1, 2, 8, 9, 11] b (fun g2 s1 s2 s8 s9 s11 wy => ∃ (a2 b2 : Nat), b2 ≤ g2 ∧ s1 = .int .i64 (a2 : Int) ∧ s2 = .int .i64 (b2 : Int) ∧ s8 = .string x ∧ s9 = .string y ∧ s11 = .int .i64 ((g + 1 : Nat) : Int) ∧ wy = wr ∧
        Aside (cl 40 x y a2 b2 (ss.drop k) = R ∧ a2 ≤ b2 ∧ b2 < 1099511627776 ∧ x.size < 144115188075855872 ∧ y.size < 144115188075855872))
      case atStart => exact ⟨a, b, Nat.le_refl _, rfl, rfl, rfl, rfl, rfl, rfl, HS.out⟩
      case round =>
        obtain ⟨a2, b2, hbg, rfl, rfl, rfl, rfl, rfl, rfl, HS2⟩ := hrel
        clear HS
        by_cases hb0 : b2 = 0
        · subst hb0
          have hg1 : ((g : Int) + 1 == 0) = false := by simp; omega
          go_wp2
          try rw [Exit.noGoto_ret]
          go_ret3
          have hR := HS2.out.1
          rw [HD.out, cl_zero, if_neg (by simp)] at hR
          subst hR
          exact ⟨x, y, false, rfl, rfl, (fun z h => by cases h), hbx⟩
        · have hb1 : ((b2 : Int) == 0) = false := by simp; omega
          have HB0 : Aside (b2 ≠ 0) := hb0
          clear hb0
          by_cases hodd : a2 % 2 = 1
          · have ho : ((a2 : Int) % 2 == 1) = true := by simp; omega
            have h1 := treeNode_any s x wr (by omega) (by have := HS2.out.2.2.2.1; omega) (table_at hbx hg HT.out) (Nat.lt_of_lt_of_le hg hbx.size)
            go_wp2_with (go_at_call_of 27 (Value.string x); refine h1.mono ?_; rintro e w1 ⟨rfl, hb2⟩)
            clear h1
            have h2 := treeNode_any s y w1 (by omega) (by have := HS2.out.2.2.2.2; omega) (table_at hb2 (Nat.lt_of_lt_of_le hg hbx.size) (table_at hbx hg HT.out)) (Nat.lt_of_lt_of_le hg (Nat.le_trans hbx.size hb2.size))
            refine h2.mono ?_
            rintro e w2 ⟨rfl, hb3⟩
            clear h2
            go_wp2
            go_roundg g
            case measure => omega
            case rel =>
              obtain ⟨hR, h1, h2, h3, h4⟩ := HS2.out
              have hbb := hb2.trans (hb3.mono hb2.size)
              refine ⟨k + 1, a2 / 2, b2 / 2, nodeS s x, nodeS s y, by omega, half64 a2 (by omega), half64 b2 h2, rfl, rfl, rfl, by go_num, ⟨?_, by omega, by omega, by rw [nodeS_size]; omega, by rw [nodeS_size]; omega⟩, hbx.trans (hbb.mono hbx.size)⟩
              rw [HD.out, cl_l HB0.out h2 hodd] at hR
              exact hR
          · have ho : ((a2 : Int) % 2 == 1) = false := by simp; omega
            by_cases hlt : a2 < b2
            · have h1 := treeNode_any y s wr (by have := HS2.out.2.2.2.2; omega) (by omega) (table_at hbx hg HT.out) (Nat.lt_of_lt_of_le hg hbx.size)
              go_wp2_with (go_at_call 27; refine h1.mono ?_; rintro e w1 ⟨rfl, hb2⟩)
              go_roundg g
              case measure => omega
              case rel =>
                obtain ⟨hR, h1, h2, h3, h4⟩ := HS2.out
                refine ⟨k + 1, a2 / 2, b2 / 2, x, nodeS y s, by omega, half64 a2 (by omega), half64 b2 h2, rfl, rfl, rfl, by go_num, ⟨?_, by omega, by omega, h3, by rw [nodeS_size]; omega⟩, hbx.trans (hb2.mono hbx.size)⟩
                rw [HD.out, cl_r HB0.out h2 (by omega) hlt] at hR
                exact hR
            · go_wp2
              go_roundg (b2 / 2)
              case measure => have := HB0.out; omega
              case rel =>
                obtain ⟨hR, h1, h2, h3, h4⟩ := HS2.out
                refine ⟨a2 / 2, b2 / 2, Nat.le_refl _, half64 a2 (by omega), half64 b2 h2, rfl, rfl, rfl, rfl, ⟨?_, by omega, by omega, h3, h4⟩⟩
                rw [cl_s HB0.out h2 (by omega) hlt] at hR
                exact hR

theorem climb_any (start : ByteArray) (i l : Nat) (v : Value) (ss : List ByteArray) (w : World) (hil : i ≤ l) (hl : l < 1099511627776) (hs : start.size < 40000000000) (hv : Lst w v ss) (hf : Few ss) (ht : Table w) (hg : 2 < w.heap.size) :
    Calls Tryz.prog 54 #[.string start, .int .i64 (i : Int), .int .i64 (l : Int), v] w (ClimbAs (cl 40 start start i l ss) w) := climb_big start i l v ss w hil hl (by omega) hv hf.big ht hg
end Go.Proofs.YtlhohmlpcgbliabGreatDoor
namespace Go.Proofs.YtlhohmlpcgbliabGreatDoor
set_option maxRecDepth 100000
open Go.RowKit
attribute [local go_sem ↓] Go.wp_at_zero Go.wp_at_succ

set_option maxHeartbeats 400000 in
theorem inclTree_low (leaf root : ByteArray) (i n : Int) (v : Value) (w : World) (h : i < 0) :
    Calls Tryz.prog 31 #[.string leaf, .int .i64 i, .int .i64 n, v, .string root] w fun e w' => e = .returned (.bool false) ∧ w' = w := by
  go_enter Tryz.func31, Tryz.ntmps31
  go_wp2
  go_ret
  exact ⟨rfl, rfl⟩
set_option maxHeartbeats 400000 in
theorem inclTree_high (leaf root : ByteArray) (i n : Int) (v : Value) (w : World) (h0 : 0 ≤ i) (h : n ≤ i) :
    Calls Tryz.prog 31 #[.string leaf, .int .i64 i, .int .i64 n, v, .string root] w fun e w' => e = .returned (.bool false) ∧ w' = w := by
  go_enter Tryz.func31, Tryz.ntmps31
  go_wp2
  go_ret
  exact ⟨rfl, rfl⟩
set_option maxHeartbeats 400000 in
theorem inclTree_great (leaf root : ByteArray) (i n : Int) (v : Value) (w : World) (h0 : 0 ≤ i) (h1 : i < n) (h : 1099511627776 < n) :
    Calls Tryz.prog 31 #[.string leaf, .int .i64 i, .int .i64 n, v, .string root] w fun e w' => e = .returned (.bool false) ∧ w' = w := by
  go_enter Tryz.func31, Tryz.ntmps31
  go_wp2
  go_ret
  exact ⟨rfl, rfl⟩
set_option maxHeartbeats 400000 in
theorem inclTree_mid (leaf root : ByteArray) (i n : Int) (v : Value) (w : World) (r : Option (ByteArray × ByteArray)) (h0 : 0 ≤ i) (h1 : i < n) (h : n ≤ 1099511627776)
  (hs : Calls Tryz.prog 54 #[.string leaf, .int .i64 i, .int .i64 (n - 1), v] w (ClimbAs r w)) :
    Calls Tryz.prog 31 #[.string leaf, .int .i64 i, .int .i64 n, v, .string root] w fun e w' => e = .returned (.bool (decide (r.map (·.2) = some root))) ∧ Below w.heap.size w w' := by
  cases r with
  | none =>
    go_enter Tryz.func31, Tryz.ntmps31
    go_wp2_with (go_at_call 54; refine hs.mono ?_; rintro e w' ⟨x, y, ok, rfl, ho, hv, hb⟩; obtain rfl : false = ok := ho)
    go_ret
    exact ⟨rfl, hb⟩
  | some q =>
    obtain ⟨a, b⟩ := q
    go_enter Tryz.func31, Tryz.ntmps31
    go_wp2_with (go_at_call 54; refine hs.mono ?_; rintro e w' ⟨x, y, ok, rfl, ho, hv, hb⟩; obtain rfl : true = ok := ho; obtain ⟨rfl, rfl⟩ := hv _ rfl; clear hv)
    go_ret
    exact ⟨by simp [eqs], hb⟩

theorem inclTree_big (leaf root : ByteArray) (i n : Int) (v : Value) (ss : List ByteArray) (w : World) (hl : leaf.size ≤ 140737488355328) (hv : Lst w v ss) (hf : FewB ss) (ht : Table w) (hg : 2 < w.heap.size) :
    Calls Tryz.prog 31 #[.string leaf, .int .i64 i, .int .i64 n, v, .string root] w fun e w' => e = .returned (.bool (inclB leaf i n ss root)) ∧ Below w.heap.size w w' := by
  unfold inclB
  by_cases h0 : 0 ≤ i
  · by_cases h1 : i < n
    · by_cases h2 : n ≤ 1099511627776
      · obtain ⟨a, rfl⟩ := Int.eq_ofNat_of_zero_le h0
        obtain ⟨b, rfl⟩ := Int.eq_ofNat_of_zero_le (show 0 ≤ n by omega)
        have hs := climb_big leaf a (b - 1) v ss w (by omega) (by omega) (by omega) hv hf ht hg
        rw [Int.natCast_sub (show 1 ≤ b by omega)] at hs
        refine (inclTree_mid leaf root a b _ w _ h0 h1 h2 hs).mono fun e w' ⟨he, hb⟩ => ⟨?_, hb⟩
        rw [he, decide_eq_true (show (0 : Int) ≤ a ∧ (a : Int) < b ∧ (b : Int) ≤ 1099511627776 from ⟨h0, h1, h2⟩)]
        simp
      · refine (inclTree_great leaf root i n v w h0 h1 (by omega)).mono fun e w' ⟨he, hb⟩ => ⟨?_, by rw [hb]; exact Below.refl _ _⟩
        rw [he, decide_eq_false (by omega)]; rfl
    · refine (inclTree_high leaf root i n v w h0 (by omega)).mono fun e w' ⟨he, hb⟩ => ⟨?_, by rw [hb]; exact Below.refl _ _⟩
      rw [he, decide_eq_false (by omega)]; rfl
  · refine (inclTree_low leaf root i n v w (by omega)).mono fun e w' ⟨he, hb⟩ => ⟨?_, by rw [hb]; exact Below.refl _ _⟩
    rw [he, decide_eq_false (by omega)]; rfl

set_option maxHeartbeats 400000 in
theorem incl_big (leaf root : ByteArray) (i n : Int) (v : Value) (ss : List ByteArray) (w : World) (hl : leaf.size ≤ 140737488355328) (hv : Lst w v ss) (hf : FewB ss) (ht : Table w) (hg : 2 < w.heap.size) :
    Calls Tryz.prog 19 #[.string leaf, .int .i64 i, .int .i64 n, v, .string root] w fun e w' => e = .returned (.bool (inclB leaf i n ss root)) ∧ Below w.heap.size w w' := by
  have h1 := inclTree_big leaf root i n v ss w hl hv hf ht hg
  clear hv hf
  go_enter Tryz.func19, Tryz.ntmps19
  go_wp2_with (go_at_call 31; refine h1.mono ?_; rintro e w' ⟨rfl, hb⟩)
  go_ret
  exact ⟨rfl, hb⟩

theorem incl_any (leaf root : ByteArray) (i n : Int) (v : Value) (ss : List ByteArray) (w : World) (hl : leaf.size ≤ 1048576) (hv : Lst w v ss) (hf : Few ss) (ht : Table w) (hg : 2 < w.heap.size) :
    Calls Tryz.prog 19 #[.string leaf, .int .i64 i, .int .i64 n, v, .string root] w fun e w' => e = .returned (.bool (inclB leaf i n ss root)) ∧ Below w.heap.size w w' := incl_big leaf root i n v ss w (by omega) hv hf.big ht hg
end Go.Proofs.YtlhohmlpcgbliabGreatDoor
namespace Go.Proofs.YtlhohmlpcgbliabGreatDoor
set_option maxRecDepth 100000
open Go.RowKit
attribute [local go_sem ↓] Go.wp_at_zero Go.wp_at_succ

set_option maxHeartbeats 400000 in
theorem extTree_low (old root : ByteArray) (m n : Int) (v : Value) (w : World) (h : m < 1) :
    Calls Tryz.prog 32 #[.int .i64 m, .int .i64 n, .string old, .string root, v] w fun e w' => e = .returned (.bool false) ∧ w' = w := by
  go_enter Tryz.func32, Tryz.ntmps32
  go_wp2
  go_ret
  exact ⟨rfl, rfl⟩
set_option maxHeartbeats 400000 in
theorem extTree_high (old root : ByteArray) (m n : Int) (v : Value) (w : World) (h0 : 1 ≤ m) (h : n < m) :
    Calls Tryz.prog 32 #[.int .i64 m, .int .i64 n, .string old, .string root, v] w fun e w' => e = .returned (.bool false) ∧ w' = w := by
  go_enter Tryz.func32, Tryz.ntmps32
  go_wp2
  go_ret
  exact ⟨rfl, rfl⟩
set_option maxHeartbeats 400000 in
theorem extTree_great (old root : ByteArray) (m n : Int) (v : Value) (w : World) (h0 : 1 ≤ m) (h1 : m ≤ n) (h : 1099511627776 < n) :
    Calls Tryz.prog 32 #[.int .i64 m, .int .i64 n, .string old, .string root, v] w fun e w' => e = .returned (.bool false) ∧ w' = w := by
  go_enter Tryz.func32, Tryz.ntmps32
  go_wp2
  go_ret
  exact ⟨rfl, rfl⟩
set_option maxHeartbeats 400000 in
theorem extTree_full (old root : ByteArray) (m k c : Nat) (p : Option Addr) (w : World) (h0 : 1 ≤ m) (h : m ≤ 1099511627776) :
    Calls Tryz.prog 32 #[.int .i64 (m : Int), .int .i64 (m : Int), .string old, .string root, .slice p k c] w fun e w' => e = .returned (.bool (decide (k = 0) && decide (old = root))) ∧ w' = w := by
  cases k with
  | zero =>
    go_enter Tryz.func32, Tryz.ntmps32
    go_wp2
    go_ret
    exact ⟨by simp [eqs], rfl⟩
  | succ k =>
    have h1 : ((k : Int) + 1 == 0) = false := by simp; omega
    go_enter Tryz.func32, Tryz.ntmps32
    go_wp2
    go_ret
    exact ⟨rfl, rfl⟩

set_option maxHeartbeats 400000 in
theorem extTree_a (old root : ByteArray) (m n h : Nat) (v : Value) (w : World) (r : Option (ByteArray × ByteArray)) (h0 : 1 ≤ m) (h1 : m < n) (h2 : n ≤ 1099511627776) (hh : h < 64) (hat : ((m : Int) - 1) / 2 ^ h ≤ 0)
  (hz : ∀ wx, (∃ d, wx = w.drewN d) → Calls Tryz.prog 55 #[.int .u64 (m : Int)] wx fun e w' => e = .returned (.int .i64 (h : Int)) ∧ w' = wx)
  (hs : ∀ wx, (∃ d, wx = w.drewN d) → Calls Tryz.prog 54 #[.string old, .int .i64 (((m : Int) - 1) / 2 ^ h), .int .i64 (((n : Int) - 1) / 2 ^ h), v] wx (ClimbAs r wx)) :
    Calls Tryz.prog 32 #[.int .i64 (m : Int), .int .i64 (n : Int), .string old, .string root, v] w fun e w' => e = .returned (.bool (decide (r = some (old, root)))) ∧ Below w.heap.size w w' := by
  have hne := eqI m n (by omega)
  have hz0 := hz w ⟨0, rfl⟩
  clear hz
  cases r with
  | none =>
    go_enter Tryz.func32, Tryz.ntmps32
    go_wp2_with (go_at_call 55; refine hz0.mono ?_; rintro e w0 ⟨rfl, hw0⟩; rw [hw0]; clear hw0)
    go_quiet (fail)
    have HW : w.drewN nq = w.drewN nq := rfl
    have HB : Aside (∀ {w' : World}, Below (w.drewN nq).heap.size (w.drewN nq) w' → Below w.heap.size w w') := fun hb => (Below.drewN' (Below.refl _ _) nq).trans hb
    go_wp2_with (go_at_call 54; refine (hs _ ⟨_, HW⟩).mono ?_; rintro e w' ⟨x, y, ok, rfl, ho, hv, hb⟩; obtain rfl : false = ok := ho)
    go_ret
    exact ⟨rfl, HB.out hb⟩
  | some q =>
    obtain ⟨a, b⟩ := q
    by_cases ha : a = old
    · subst ha
      go_enter Tryz.func32, Tryz.ntmps32
      go_wp2_with (go_at_call 55; refine hz0.mono ?_; rintro e w0 ⟨rfl, hw0⟩; rw [hw0]; clear hw0)
      go_quiet (fail)
      have HW : w.drewN nq = w.drewN nq := rfl
      have HB : Aside (∀ {w' : World}, Below (w.drewN nq).heap.size (w.drewN nq) w' → Below w.heap.size w w') := fun hb => (Below.drewN' (Below.refl _ _) nq).trans hb
      go_wp2_with (go_at_call 54; refine (hs _ ⟨_, HW⟩).mono ?_; rintro e w' ⟨x, y, ok, rfl, ho, hv, hb⟩; obtain rfl : true = ok := ho; obtain ⟨rfl, rfl⟩ := hv _ rfl; clear hv)
      go_ret
      exact ⟨by simp [eqs], HB.out hb⟩
    · have hE : (a.toList == old.toList) = false := by rw [eqs, decide_eq_false ha]
      have ha' : Hid (¬ a = old) := ha
      clear ha
      go_enter Tryz.func32, Tryz.ntmps32
      go_wp2_with (go_at_call 55; refine hz0.mono ?_; rintro e w0 ⟨rfl, hw0⟩; rw [hw0]; clear hw0)
      go_quiet (fail)
      have HW : w.drewN nq = w.drewN nq := rfl
      have HB : Aside (∀ {w' : World}, Below (w.drewN nq).heap.size (w.drewN nq) w' → Below w.heap.size w w') := fun hb => (Below.drewN' (Below.refl _ _) nq).trans hb
      go_wp2_with (go_at_call 54; refine (hs _ ⟨_, HW⟩).mono ?_; rintro e w' ⟨x, y, ok, rfl, ho, hv, hb⟩; obtain rfl : true = ok := ho; obtain ⟨rfl, rfl⟩ := hv _ rfl; clear hv)
      go_ret
      exact ⟨by simp [ha'.out], HB.out hb⟩

set_option maxHeartbeats 400000 in
theorem extTree_b (old root : ByteArray) (m n h c : Nat) (p : Option Addr) (w : World) (h0 : 1 ≤ m) (h1 : m < n) (h2 : n ≤ 1099511627776) (hh : h < 64) (hat : 0 < ((m : Int) - 1) / 2 ^ h)
  (hz : ∀ wx, (∃ d, wx = w.drewN d) → Calls Tryz.prog 55 #[.int .u64 (m : Int)] wx fun e w' => e = .returned (.int .i64 (h : Int)) ∧ w' = wx) :
    Calls Tryz.prog 32 #[.int .i64 (m : Int), .int .i64 (n : Int), .string old, .string root, .slice p 0 c] w fun e w' => e = .returned (.bool false) ∧ Below w.heap.size w w' := by
  have hne := eqI m n (by omega)
  have hz0 := hz w ⟨0, rfl⟩
  clear hz
  go_enter Tryz.func32, Tryz.ntmps32
  go_wp2_with (go_at_call 55; refine hz0.mono ?_; rintro e w0 ⟨rfl, hw0⟩; rw [hw0]; clear hw0)
  go_quiet (fail)
  go_wp2
  go_ret
  exact ⟨rfl, Below.drewN' (Below.refl _ _) _⟩
end Go.Proofs.YtlhohmlpcgbliabGreatDoor
namespace Go.Proofs.YtlhohmlpcgbliabGreatDoor
set_option maxRecDepth 100000
open Go.RowKit
attribute [local go_sem ↓] Go.wp_at_zero Go.wp_at_succ

set_option maxHeartbeats 400000 in
theorem extTree_c (old root s : ByteArray) (m n h k c g o : Nat) (v : Value) (w : World) (r : Option (ByteArray × ByteArray)) (h0 : 1 ≤ m) (h1 : m < n) (h2 : n ≤ 1099511627776) (hh : h < 64) (hat : 0 < ((m : Int) - 1) / 2 ^ h) (hx : w.cell? ⟨g, o, none⟩ = some (.string s))
  (hsl : ∀ wx, (Instr.sliceAt 22 (.slice (some ⟨g, o, none⟩) (k + 1) c) (some (.int .i64 1)) none none).run Tryz.prog wx = .ok v wx)
  (hz : ∀ wx, (∃ d, wx = w.drewN d) → Calls Tryz.prog 55 #[.int .u64 (m : Int)] wx fun e w' => e = .returned (.int .i64 (h : Int)) ∧ w' = wx)
  (hs : ∀ wx, (∃ d, wx = w.drewN d) → Calls Tryz.prog 54 #[.string s, .int .i64 (((m : Int) - 1) / 2 ^ h), .int .i64 (((n : Int) - 1) / 2 ^ h), v] wx (ClimbAs r wx)) :
    Calls Tryz.prog 32 #[.int .i64 (m : Int), .int .i64 (n : Int), .string old, .string root, .slice (some ⟨g, o, none⟩) (k + 1) c] w fun e w' => e = .returned (.bool (decide (r = some (old, root)))) ∧ Below w.heap.size w w' := by
  have hne := eqI m n (by omega)
  have hz0 := hz w ⟨0, rfl⟩
  have hk0 : ((k : Int) + 1 == 0) = false := by simp; omega
  clear hz
  cases r with
  | none =>
    go_enter Tryz.func32, Tryz.ntmps32
    go_wp2_with (go_at_call 55; refine hz0.mono ?_; rintro e w0 ⟨rfl, hw0⟩; rw [hw0]; clear hw0)
    go_quiet (fail)
    revert nq
    intro d1
    go_wp2
    go_quiet (fail)
    have HW : (w.drewN d1).drewN nq = w.drewN (d1 + nq) := World.drewN_drewN ..
    rw [HW]
    have HB : Aside (∀ {w' : World}, Below (w.drewN (d1 + nq)).heap.size (w.drewN (d1 + nq)) w' → Below w.heap.size w w') := fun hb => (Below.drewN' (Below.refl _ _) (d1 + nq)).trans hb
    have hs1 := hs _ ⟨d1 + nq, rfl⟩
    clear hs HW
    go_wp2_with (go_at_call 54; refine hs1.mono ?_; rintro e w' ⟨x, y, ok, rfl, ho, hv, hb⟩; obtain rfl : false = ok := ho)
    go_ret
    exact ⟨rfl, HB.out hb⟩
  | some q =>
    obtain ⟨a, b⟩ := q
    by_cases ha : a = old
    · subst ha
      go_enter Tryz.func32, Tryz.ntmps32
      go_wp2_with (go_at_call 55; refine hz0.mono ?_; rintro e w0 ⟨rfl, hw0⟩; rw [hw0]; clear hw0)
      go_quiet (fail)
      revert nq
      intro d1
      go_wp2
      go_quiet (fail)
      have HW : (w.drewN d1).drewN nq = w.drewN (d1 + nq) := World.drewN_drewN ..
      rw [HW]
      have HB : Aside (∀ {w' : World}, Below (w.drewN (d1 + nq)).heap.size (w.drewN (d1 + nq)) w' → Below w.heap.size w w') := fun hb => (Below.drewN' (Below.refl _ _) (d1 + nq)).trans hb
      have hs1 := hs _ ⟨d1 + nq, rfl⟩
      clear hs HW
      go_wp2_with (go_at_call 54; refine hs1.mono ?_; rintro e w' ⟨x, y, ok, rfl, ho, hv, hb⟩; obtain rfl : true = ok := ho; obtain ⟨rfl, rfl⟩ := hv _ rfl; clear hv)
      go_ret
      exact ⟨by simp [eqs], HB.out hb⟩
    · have hE : (a.toList == old.toList) = false := by rw [eqs, decide_eq_false ha]
      have ha' : Hid (¬ a = old) := ha
      clear ha
      go_enter Tryz.func32, Tryz.ntmps32
      go_wp2_with (go_at_call 55; refine hz0.mono ?_; rintro e w0 ⟨rfl, hw0⟩; rw [hw0]; clear hw0)
      go_quiet (fail)
      revert nq
      intro d1
      go_wp2
      go_quiet (fail)
      have HW : (w.drewN d1).drewN nq = w.drewN (d1 + nq) := World.drewN_drewN ..
      rw [HW]
      have HB : Aside (∀ {w' : World}, Below (w.drewN (d1 + nq)).heap.size (w.drewN (d1 + nq)) w' → Below w.heap.size w w') := fun hb => (Below.drewN' (Below.refl _ _) (d1 + nq)).trans hb
      have hs1 := hs _ ⟨d1 + nq, rfl⟩
      clear hs HW
      go_wp2_with (go_at_call 54; refine hs1.mono ?_; rintro e w' ⟨x, y, ok, rfl, ho, hv, hb⟩; obtain rfl : true = ok := ho; obtain ⟨rfl, rfl⟩ := hv _ rfl; clear hv)
      go_ret
      exact ⟨by simp [ha'.out], HB.out hb⟩
end Go.Proofs.YtlhohmlpcgbliabGreatDoor
namespace Go.Proofs.YtlhohmlpcgbliabGreatDoor
set_option maxRecDepth 100000
open Go.RowKit
attribute [local go_sem ↓] Go.wp_at_zero Go.wp_at_succ

theorem slice_tail (w : World) (g o k c : Nat) (hc : k + 1 ≤ c) : (Instr.sliceAt 22 (.slice (some ⟨g, o, none⟩) (k + 1) c) (some (.int .i64 1)) none none).run Tryz.prog w = .ok (.slice (some (if c = 1 then ⟨g, o, none⟩ else ⟨g, o + 1, none⟩)) k (c - 1)) w := by
  rw [run_sliceAt_slice w 22 _ _ _ _ (by kernel_rfl), run_slice_l w 22 _ _ _ (by kernel_rfl) .i64 1 (by omega) (by omega)]
  by_cases h : c = 1
  · subst h
    simp [sliced, go_sem]
  · simp [sliced, go_sem, Addr.add, h]

theorem Lst.tail {w : World} {g o c : Nat} {s : ByteArray} {r : List ByteArray} (h : Lst w (.slice (some ⟨g, o, none⟩) (r.length + 1) c) (s :: r)) : Lst w (.slice (some (if c = 1 then ⟨g, o, none⟩ else ⟨g, o + 1, none⟩)) r.length (c - 1)) r := by
  obtain ⟨p, c', e, hc, h2⟩ := h
  injection e with e1 e2 e3
  subst e3
  simp only [List.length_cons] at hc
  refine ⟨_, _, rfl, by omega, fun j x hx => ?_⟩
  have hj : j < r.length := (List.getElem?_eq_some_iff.1 hx).1
  obtain ⟨b, o', e4, h4⟩ := h2 (j + 1) x (by simpa using hx)
  rw [← e1] at e4
  injection e4 with e4
  injection e4 with e5 e6
  subst e5; subst e6
  rw [if_neg (by omega)]
  exact ⟨_, _, rfl, by rw [show o + 1 + j = o + (j + 1) by omega]; exact h4⟩

theorem Lst.drewN {w : World} {v : Value} {ss : List ByteArray} (h : Lst w v ss) (d : Nat) : Lst (w.drewN d) v ss := h.below (Below.drewN' (Below.refl _ _) d)

theorem odd_at (a h q : Nat) (ha : a = 2 ^ h * (2 * q + 1)) : ((a : Int) - 1) / 2 ^ h = ((2 * q : Nat) : Int) := by
  have hp := Nat.two_pow_pos h
  have e1 : a - 1 = 2 ^ h * (2 * q) + (2 ^ h - 1) := by rw [ha, Nat.mul_add, Nat.mul_one]; omega
  have e2 : (a - 1) / 2 ^ h = 2 * q := by rw [e1, Nat.mul_add_div hp, Nat.div_eq_of_lt (by omega)]; omega
  have h1 : 1 ≤ a := by rw [ha]; exact Nat.mul_pos hp (by omega)
  rw [← e2, Int.natCast_ediv, Int.natCast_sub h1]
  simp
theorem last_at (n h : Nat) (hn : 1 ≤ n) : ((n : Int) - 1) / 2 ^ h = (((n - 1) / 2 ^ h : Nat) : Int) := by
  rw [Int.natCast_ediv, Int.natCast_sub hn]
  simp

theorem extTree_mid (old root : ByteArray) (m n : Nat) (v : Value) (ss : List ByteArray) (w : World) (h0 : 1 ≤ m) (h1 : m < n) (h2 : n ≤ 1099511627776) (hl : old.size ≤ 1048576) (hv : Lst w v ss) (hf : Few ss) (ht : Table w) (hg : 2 < w.heap.size) (hT : TabAt 1 Lib.deBruijn64tab w) :
    Calls Tryz.prog 32 #[.int .i64 (m : Int), .int .i64 (n : Int), .string old, .string root, v] w fun e w' => e = .returned (.bool (decide (boR old ss.reverse m n true = some (old, root)))) ∧ Below w.heap.size w w' := by
  obtain ⟨q, hq, hh⟩ := Lib.ctzFrom_spec 64 m (by omega) (by omega)
  have hz : ∀ wx, (∃ d, wx = w.drewN d) → Calls Tryz.prog 55 #[.int .u64 (m : Int)] wx fun e w' => e = .returned (.int .i64 ((Lib.ctzFrom 64 m : Nat) : Int)) ∧ w' = wx := by
    rintro wx ⟨d, rfl⟩
    have := bits_TrailingZeros m (by omega) (w.drewN d) (fun _ j hj => by rw [World.cell?_drewN]; exact hT j hj)
    rw [Lib.ctz, if_neg (by omega)] at this
    exact this
  generalize Lib.ctzFrom 64 m = h at *
  have hb := boR_cl old ss.reverse h q m n 40 true hq h1 (by omega)
  rw [List.reverse_reverse] at hb
  have e1 := odd_at m h q hq
  have e2 := last_at n h (by omega)
  have hp := Nat.two_pow_pos h
  have hla : 2 * q + 1 ≤ (n - 1) / 2 ^ h := (Nat.le_div_iff_mul_le hp).2 (by rw [Nat.mul_comm (2 * q + 1), ← hq]; omega)
  have hlb : (n - 1) / 2 ^ h ≤ n - 1 := Nat.div_le_self _ _
  have hcl : ∀ (st : ByteArray) (u : Value) (rr : List ByteArray), st.size ≤ 1048576 → Lst w u rr → Few rr → ∀ wx, (∃ d, wx = w.drewN d) → Calls Tryz.prog 54 #[.string st, .int .i64 (((m : Int) - 1) / 2 ^ h), .int .i64 (((n : Int) - 1) / 2 ^ h), u] wx (ClimbAs (cl 40 st st (2 * q) ((n - 1) / 2 ^ h) rr) wx) := by
    rintro st u rr hst hu hrr wx ⟨d, rfl⟩
    rw [e1, e2]
    exact climb_any st (2 * q) ((n - 1) / 2 ^ h) u rr (w.drewN d) (by omega) (by omega) (by omega) (hu.drewN d) hrr (fun j hj => by rw [World.cell?_drewN]; exact ht j hj) hg
  by_cases hq0 : q = 0
  · rw [hb, hq0]
    rw [hq0] at hcl
    refine extTree_a old root m n h v w _ h0 h1 h2 hh (by rw [e1, hq0]; decide) hz ?_
    simpa [St] using hcl old v ss hl hv hf
  · rw [hb, decide_eq_false hq0]
    have hat : 0 < ((m : Int) - 1) / 2 ^ h := by rw [e1]; omega
    obtain ⟨p, c, rfl, hc, hcell⟩ := id hv
    cases ss with
    | nil => simpa [St] using extTree_b old root m n h c p w h0 h1 h2 hh hat hz
    | cons s r =>
      obtain ⟨b, o, rfl, hx⟩ := hcell 0 s rfl
      simp only [List.length_cons] at hc hv ⊢
      have hr : Few r := ⟨by have := hf.1; simp at this; omega, fun x hx => hf.2 x (List.mem_cons_of_mem _ hx)⟩
      have := extTree_c old root s m n h r.length c b o _ w (cl 40 s s (2 * q) ((n - 1) / 2 ^ h) r) h0 h1 h2 hh hat hx (fun wx => slice_tail wx b o r.length c hc) hz (hcl s _ r (hf.2 s (List.mem_cons_self ..)) hv.tail hr)
      simpa [St] using this

theorem extTree_any (old root : ByteArray) (m n : Int) (v : Value) (ss : List ByteArray) (w : World) (hl : old.size ≤ 1048576) (hv : Lst w v ss) (hf : Few ss) (ht : Table w) (hg : 2 < w.heap.size) (hT : TabAt 1 Lib.deBruijn64tab w) :
    Calls Tryz.prog 32 #[.int .i64 m, .int .i64 n, .string old, .string root, v] w fun e w' => e = .returned (.bool (extB m n old root ss)) ∧ Below w.heap.size w w' := by
  unfold extB
  by_cases h0 : 1 ≤ m
  · by_cases h1 : m ≤ n
    · by_cases h2 : n ≤ 1099511627776
      · rw [decide_eq_true (show 1 ≤ m ∧ m ≤ n ∧ n ≤ 1099511627776 from ⟨h0, h1, h2⟩), Bool.true_and]
        obtain ⟨a, rfl⟩ := Int.eq_ofNat_of_zero_le (show 0 ≤ m by omega)
        obtain ⟨b, rfl⟩ := Int.eq_ofNat_of_zero_le (show 0 ≤ n by omega)
        simp only [Int.toNat_natCast]
        by_cases he : a = b
        · subst he
          obtain ⟨p, c, rfl, hc, hcell⟩ := hv
          refine (extTree_full old root a ss.length c p w (by omega) (by omega)).mono fun e w' ⟨he, hb⟩ => ⟨?_, by rw [hb]; exact Below.refl _ _⟩
          rw [he]
          cases ss with
          | nil => simp [boR_full old 40 a true, St, cl_zero]
          | cons s r => simp [boR_full old 40 a true, St, cl_zero]
        · exact extTree_mid old root a b v ss w (by omega) (by omega) (by omega) hl hv hf ht hg hT
      · refine (extTree_great old root m n v w h0 h1 (by omega)).mono fun e w' ⟨he, hb⟩ => ⟨?_, by rw [hb]; exact Below.refl _ _⟩
        rw [he, decide_eq_false (by omega)]; rfl
    · refine (extTree_high old root m n v w h0 (by omega)).mono fun e w' ⟨he, hb⟩ => ⟨?_, by rw [hb]; exact Below.refl _ _⟩
      rw [he, decide_eq_false (by omega)]; rfl
  · refine (extTree_low old root m n v w (by omega)).mono fun e w' ⟨he, hb⟩ => ⟨?_, by rw [hb]; exact Below.refl _ _⟩
    rw [he, decide_eq_false (by omega)]; rfl

set_option maxHeartbeats 400000 in
theorem ext_any (old root : ByteArray) (m n : Int) (v : Value) (ss : List ByteArray) (w : World) (hl : old.size ≤ 1048576) (hv : Lst w v ss) (hf : Few ss) (ht : Table w) (hg : 2 < w.heap.size) (hT : TabAt 1 Lib.deBruijn64tab w) :
    Calls Tryz.prog 20 #[.int .i64 m, .int .i64 n, .string old, .string root, v] w fun e w' => e = .returned (.bool (extB m n old root ss)) ∧ Below w.heap.size w w' := by
  have h1 := extTree_any old root m n v ss w hl hv hf ht hg hT
  clear hv hf hT
  go_enter Tryz.func20, Tryz.ntmps20
  go_wp2_with (go_at_call 32; refine h1.mono ?_; rintro e w' ⟨rfl, hb⟩)
  go_ret
  exact ⟨rfl, hb⟩
end Go.Proofs.YtlhohmlpcgbliabGreatDoor
namespace Go.Proofs.YtlhohmlpcgbliabGreatDoor
set_option maxRecDepth 100000
open Go.RowKit
attribute [local go_sem ↓] Go.wp_at_zero Go.wp_at_succ

/-- The call gives this, and turns nothing old. -/
def RetB (w : World) (f : FuncId) (args : Array Value) (v : Value) : Prop := Calls Tryz.prog f args w fun e w' => e = .returned v ∧ Below w.heap.size w w'

theorem lst_one (w : World) (s : ByteArray) : Lst (w.alloc (.cells #[.string s] 9)) (.slice (some ⟨w.heap.size, 0, none⟩) 1 1) [s] := by
  refine ⟨_, _, rfl, Nat.le_refl _, fun j x hx => ?_⟩
  have hB := Blk.new w 9 [.string s]
  cases j with
  | zero =>
    have : x = s := by simpa using hx.symm
    subst this
    exact ⟨_, _, rfl, by rw [hB.cell]; rfl⟩
  | succ j => simp at hx

set_option maxRecDepth 100000 in
set_option maxHeartbeats 1000000 in
theorem checks_walk (leaf root old z : ByteArray) (i n m : Int) (v : Value) (w : World) (x y u : Bool)
  (hr : Calls Tryz.prog 9 #[v] w fun e w' => ∃ r, e = .returned r ∧ Below w.heap.size w w' ∧ Aside (∀ wy, Below w'.heap.size w' wy →
    RetB wy 19 #[.string leaf, .int .i64 i, .int .i64 n, r, .string root] (.bool x) ∧ RetB wy 20 #[.int .i64 m, .int .i64 n, .string old, .string root, r] (.bool y) ∧ RetB wy 11 #[r, v] (.bool true)))
  (hN : Aside (∀ wx, RetB wx 14 #[.string leaf, .string root] (.string z)))
  (H : Aside (∀ wx, Below w.heap.size w wx → ∀ l, Lst wx l [root] → RetB wx 19 #[.string leaf, .int .i64 0, .int .i64 2, l, .string z] (.bool true) ∧ RetB wx 20 #[.int .i64 1, .int .i64 2, .string leaf, .string z, l] (.bool true) ∧
    RetB wx 19 #[.string leaf, .int .i64 0, .int .i64 2, l, .string root] (.bool u) ∧ RetB wx 33 #[.string leaf, .int .i64 0, .int .i64 2, l, .string root] (.bool u)))
  (HV : Aside (∀ wx, Below w.heap.size w wx → RetB wx 33 #[.string leaf, .int .i64 i, .int .i64 n, v, .string root] (.bool x) ∧ RetB wx 34 #[.int .i64 m, .int .i64 n, .string old, .string root, v] (.bool y))) :
    Calls Tryz.prog 22 #[.string leaf, .int .i64 i, .int .i64 n, v, .string root, .int .i64 m, .string old] w fun e w' => e = .returned (.bool true) ∧ Below w.heap.size w w' := by
  go_enter Tryz.func22, Tryz.ntmps22
  go_wp2_with fail
  refine hr.mono ?_
  rintro e w1 ⟨r, rfl, b1, hR⟩
  clear hr
  go_wp2_with fail
  refine (show Calls _ _ _ _ _ from (hR.out w1 (Below.refl _ _)).1).mono ?_
  rintro e w2 ⟨rfl, b2⟩
  go_wp2_with fail
  refine (show Calls _ _ _ _ _ from (hR.out w2 b2).2.1).mono ?_
  rintro e w3 ⟨rfl, b3⟩
  have c3 : Aside (Below w1.heap.size w1 w3) := b2.trans (b3.mono b2.size)
  clear b2 b3
  go_wp2_with fail
  refine (show Calls _ _ _ _ _ from (hR.out w3 c3.out).2.2).mono ?_
  rintro e w4 ⟨rfl, b4⟩
  have c4 : Aside (Below w.heap.size w w4) := b1.trans ((c3.out.trans (b4.mono c3.out.size)).mono b1.size)
  clear b1 b4 c3 hR
  go_wp2_with fail
  have d4 : Aside (Below w.heap.size w (w4.alloc (.cells #[.string root] 9)) ∧ Lst (w4.alloc (.cells #[.string root] 9)) (.slice (some ⟨w4.heap.size, 0, none⟩) 1 1) [root]) := ⟨c4.out.alloc c4.out.size _, lst_one w4 root⟩
  generalize w4.alloc (.cells #[.string root] 9) = w4a at *
  refine (show Calls _ _ _ _ _ from hN.out w4a).mono ?_
  rintro e w5 ⟨rfl, b5⟩
  have d5 : Aside (Below w.heap.size w w5 ∧ Lst w5 (.slice (some ⟨w4.heap.size, 0, none⟩) 1 1) [root]) := ⟨d4.out.1.trans (b5.mono d4.out.1.size), d4.out.2.below b5⟩
  clear b5 d4
  go_wp2_with fail
  refine (show Calls _ _ _ _ _ from (H.out w5 d5.out.1 _ d5.out.2).1).mono ?_
  rintro e w6 ⟨rfl, b6⟩
  have c6 : Aside (Below w.heap.size w w6) := d5.out.1.trans (b6.mono d5.out.1.size)
  clear b6 d5
  go_wp2_with fail
  refine (show Calls _ _ _ _ _ from hN.out w6).mono ?_
  rintro e w7 ⟨rfl, b7⟩
  have d7 : Aside (Below w.heap.size w (w7.alloc (.cells #[.string root] 9)) ∧ Lst (w7.alloc (.cells #[.string root] 9)) (.slice (some ⟨w7.heap.size, 0, none⟩) 1 1) [root]) :=
    ⟨(c6.out.trans (b7.mono c6.out.size)).alloc (c6.out.trans (b7.mono c6.out.size)).size _, lst_one w7 root⟩
  clear b7 c6
  go_wp2_with fail
  refine (show Calls _ _ _ _ _ from (H.out _ d7.out.1 _ d7.out.2).2.1).mono ?_
  rintro e w8 ⟨rfl, b8⟩
  have c8 : Aside (Below w.heap.size w w8) := d7.out.1.trans (b8.mono d7.out.1.size)
  clear b8 d7
  have d8 : Aside (Below w.heap.size w (w8.alloc (.cells #[.string root] 9)) ∧ Lst (w8.alloc (.cells #[.string root] 9)) (.slice (some ⟨w8.heap.size, 0, none⟩) 1 1) [root]) := ⟨c8.out.alloc c8.out.size _, lst_one w8 root⟩
  go_wp2_with fail
  refine (show Calls _ _ _ _ _ from (H.out _ d8.out.1 _ d8.out.2).2.2.1).mono ?_
  rintro e w9 ⟨rfl, b9⟩
  have c9 : Aside (Below w.heap.size w w9) := d8.out.1.trans (b9.mono d8.out.1.size)
  clear b9 d8 c8
  have d9 : Aside (Below w.heap.size w (w9.alloc (.cells #[.string root] 9)) ∧ Lst (w9.alloc (.cells #[.string root] 9)) (.slice (some ⟨w9.heap.size, 0, none⟩) 1 1) [root]) := ⟨c9.out.alloc c9.out.size _, lst_one w9 root⟩
  go_wp2_with fail
  refine (show Calls _ _ _ _ _ from (H.out _ d9.out.1 _ d9.out.2).2.2.2).mono ?_
  rintro e w10 ⟨rfl, b10⟩
  have c10 : Aside (Below w.heap.size w w10) := d9.out.1.trans (b10.mono d9.out.1.size)
  clear b10 d9 c9
  go_wp2_with fail
  refine (show Calls _ _ _ _ _ from (HV.out w10 c10.out).1).mono ?_
  rintro e w11 ⟨rfl, b11⟩
  have c11 : Aside (Below w.heap.size w w11) := c10.out.trans (b11.mono c10.out.size)
  clear b11 c10
  go_wp2_with fail
  refine (show Calls _ _ _ _ _ from (HV.out w11 c11.out).2).mono ?_
  rintro e w12 ⟨rfl, b12⟩
  have c12 : Aside (Below w.heap.size w w12) := c11.out.trans (b12.mono c11.out.size)
  clear b12 c11
  go_wp2_with fail
  go_ret
  exact ⟨by simp, c12.out⟩
end Go.Proofs.YtlhohmlpcgbliabGreatDoor
namespace Go.Proofs.YtlhohmlpcgbliabGreatDoor
set_option maxRecDepth 100000
open Go.RowKit

theorem tabAt_below {g : Nat} {tab : List Nat} {w w' : World} (hb : Below w.heap.size w w') (h : TabAt g tab w) : TabAt g tab w' := fun j hj => by
  rw [hb.cell (World.block_lt_of_cell? _ _ (h j hj))]; exact h j hj

theorem few_one (s : ByteArray) (h : s.size ≤ 1048576) : Few [s] := ⟨by simp, fun x hx => by
  have : x = s := by simpa using hx
  rw [this]; exact h⟩

theorem incl_two (leaf root : ByteArray) : inclB leaf 0 2 [root] (nodeS leaf root) = true := by
  have h : cl 40 leaf leaf 0 1 [root] = some (leaf, nodeS leaf root) := by
    rw [cl_r (by omega) (by omega) (by omega) (by omega)]
    exact cl_zero 40 leaf (nodeS leaf root) 0 []
  unfold inclB
  simp [h]

theorem ext_two (leaf root : ByteArray) : extB 1 2 leaf (nodeS leaf root) [root] = true := by
  have h2 : spl 2 = 1 := rfl
  unfold extB
  simp [boR, h2]

/-- What roomy makes of a list reads as it, behind whatever turns nothing old. -/
theorem roomy_lst (v : Value) (ss : List ByteArray) (w : World) (hS : ArgS w v ss) (hf : Few ss) :
    Calls Tryz.prog 9 #[v] w fun e w' => ∃ r, e = .returned r ∧ Below w.heap.size w w' ∧ ∀ wy, Below w'.heap.size w' wy → Lst wy r ss ∧ RetB wy 11 #[r, v] (.bool true) := by
  rcases hS with ⟨rfl, rfl⟩ | ⟨a, c, rfl, h⟩
  · refine (roomy_nil w).mono ?_
    rintro e w' ⟨rfl, rfl⟩
    refine ⟨_, rfl, Below.refl _ _, fun wy hy => ⟨⟨_, _, rfl, Nat.le_refl _, fun j s hs => by simp at hs⟩, (whole_nil wy).mono ?_⟩⟩
    rintro e w'' ⟨rfl, rfl⟩
    exact ⟨rfl, Below.refl _ _⟩
  · have hS : ArgS w (.slice (some a) ss.length c) ss := .inr ⟨a, c, rfl, h⟩
    refine (roomy_some a c ss w (by have := hf.1; omega) h).mono ?_
    rintro e w' ⟨rfl, hB, hb⟩
    refine ⟨_, rfl, hb, fun wy hy => ?_⟩
    have hBy := hB.below hy hB.lt
    refine ⟨⟨_, _, rfl, by omega, fun j s hs => ⟨_, _, rfl, by rw [Nat.zero_add, hBy.cell]; exact roomL_low ss j s hs⟩⟩, (whole_some a w.heap.size c ss wy (by have := hf.1; omega) (hS.strs.below (hb.trans (hy.mono hb.size))) hBy).mono ?_⟩
    rintro e w'' ⟨rfl, d, rfl⟩
    exact ⟨rfl, Below.drewN' (Below.refl _ _) d⟩

theorem checks_any (leaf root old : ByteArray) (i n m : Int) (v : Value) (ss : List ByteArray) (w : World) (h1 : leaf.size ≤ 1048576) (h2 : root.size ≤ 1048576) (h3 : old.size ≤ 1048576) (hS : ArgS w v ss) (hL : Lst w v ss) (hf : Few ss)
  (ht : Table w) (hg : 2 < w.heap.size) (hT : TabAt 1 Lib.deBruijn64tab w) :
    Calls Tryz.prog 22 #[.string leaf, .int .i64 i, .int .i64 n, v, .string root, .int .i64 m, .string old] w fun e w' => e = .returned (.bool true) ∧ Below w.heap.size w w' := by
  have T := fun {wx : World} (hx : Below w.heap.size w wx) => And.intro (table_at hx hg ht) (And.intro (Nat.lt_of_lt_of_le hg hx.size) (tabAt_below hx hT))
  refine checks_walk leaf root old (nodeS leaf root) i n m v w (inclB leaf i n ss root) (extB m n old root ss) (inclB leaf 0 2 [root] root) ?_ ?_ ?_ ?_
  · refine (roomy_lst v ss w hS hf).mono ?_
    rintro e w' ⟨r, rfl, hb, hr⟩
    refine ⟨r, rfl, hb, fun wy hy => ?_⟩
    have hx := hb.trans (hy.mono hb.size)
    obtain ⟨hl, hw⟩ := hr wy hy
    exact ⟨incl_any leaf root i n r ss wy h1 hl hf (T hx).1 (T hx).2.1, ext_any old root m n r ss wy h3 hl hf (T hx).1 (T hx).2.1 (T hx).2.2, hw⟩
  · exact fun wx => nodeRef_any leaf root wx (by omega) (by omega)
  · intro wx hx l hl
    have f1 := few_one root h2
    have q1 := incl_any leaf (nodeS leaf root) 0 2 l [root] wx h1 hl f1 (T hx).1 (T hx).2.1
    have q2 := ext_any leaf (nodeS leaf root) 1 2 l [root] wx h1 hl f1 (T hx).1 (T hx).2.1 (T hx).2.2
    rw [incl_two] at q1
    rw [ext_two] at q2
    exact ⟨q1, q2, incl_any leaf root 0 2 l [root] wx h1 hl f1 (T hx).1 (T hx).2.1, inclRef_any leaf root 0 2 l [root] wx h1 hl f1⟩
  · intro wx hx
    exact ⟨inclRef_any leaf root i n v ss wx h1 (hL.below hx) hf, extRef_any old root m n v ss wx h3 (hL.below hx) hf⟩
end Go.Proofs.YtlhohmlpcgbliabGreatDoor
namespace Go.Proofs.YtlhohmlpcgbliabGreatDoor
set_option maxRecDepth 100000

/-- What shows that the i-th is among these. -/
def incF : Nat → Nat → List ByteArray → List ByteArray
  | 0, _, _ => []
  | f + 1, i, l => if l.length < 2 then [] else if i < spl l.length then incF f i (l.take (spl l.length)) ++ [mth (l.drop (spl l.length))]
    else incF f (i - spl l.length) (l.drop (spl l.length)) ++ [mth (l.take (spl l.length))]
/-- What shows that these begin with the first m of them. -/
def conF : Nat → Nat → List ByteArray → Bool → List ByteArray
  | 0, _, _, _ => []
  | f + 1, m, l, all => if m = l.length then (if all then [] else [mth l]) else if m ≤ spl l.length then conF f m (l.take (spl l.length)) all ++ [mth (l.drop (spl l.length))]
    else conF f (m - spl l.length) (l.drop (spl l.length)) false ++ [mth (l.take (spl l.length))]

theorem incF_shR : ∀ (f i : Nat) (l : List ByteArray) (leaf : ByteArray), l.length ≤ f → l[i]? = some leaf → shR leaf (incF f i l).reverse i l.length = some (mth l) := by
  intro f
  induction f with
  | zero =>
    intro i l leaf h1 h2
    have := (List.getElem?_eq_some_iff.1 h2).1
    omega
  | succ f ih =>
    intro i l leaf h1 h2
    have hi := (List.getElem?_eq_some_iff.1 h2).1
    simp only [incF]
    by_cases hl : l.length < 2
    · rw [if_pos hl]
      match l, hl, hi, h2 with
      | [], _, hi, _ => simp at hi
      | [s], _, hi, h2 =>
        have hi0 : i = 0 := by simpa using hi
        subst hi0
        have : s = leaf := by simpa using h2
        subst this
        simp [shR, mth_one]
      | _ :: _ :: _, hl, _, _ => exact absurd hl (by simp only [List.length_cons]; omega)
    · rw [if_neg hl]
      have h3 := spl_lt (n := l.length) (by omega)
      have h4 := spl_pos l.length
      have hn1 : ¬ l.length = 1 := by omega
      by_cases h5 : i < spl l.length
      · rw [if_pos h5, List.reverse_append, List.reverse_singleton, List.singleton_append]
        simp only [shR]
        rw [if_neg hn1, if_pos h5]
        have := ih i (l.take (spl l.length)) leaf (by rw [List.length_take]; omega) (by rw [List.getElem?_take_of_lt h5]; exact h2)
        rw [List.length_take, Nat.min_eq_left (by omega)] at this
        rw [this, mth_two (l := l) (by omega)]; rfl
      · rw [if_neg h5, List.reverse_append, List.reverse_singleton, List.singleton_append]
        simp only [shR]
        rw [if_neg hn1, if_neg h5]
        have := ih (i - spl l.length) (l.drop (spl l.length)) leaf (by rw [List.length_drop]; omega) (by rw [List.getElem?_drop, show spl l.length + (i - spl l.length) = i by omega]; exact h2)
        rw [List.length_drop] at this
        rw [this, mth_two (l := l) (by omega)]; rfl

theorem spl_mid {m n : Nat} (h1 : spl n < m) (h2 : m ≤ n) (hn : 2 ≤ n) : spl m = spl n := by
  obtain ⟨j, hj⟩ := spl_pow n
  have := spl_ge hn
  rw [hj] at h1 this ⊢
  exact spl_of h1 (by omega)

theorem conF_boR (old : ByteArray) : ∀ (f m : Nat) (l : List ByteArray) (all : Bool), l.length ≤ f → 1 ≤ m → m ≤ l.length → (all = true → old = mth (l.take m)) → boR old (conF f m l all).reverse m l.length all = some (mth (l.take m), mth l) := by
  intro f
  induction f with
  | zero => intro m l all h1 h2 h3 _; omega
  | succ f ih =>
    intro m l all h1 h2 h3 ho
    simp only [conF]
    by_cases hm : m = l.length
    · rw [if_pos hm]
      subst hm
      rw [List.take_length]
      cases all with
      | true =>
        have := ho rfl
        rw [List.take_length] at this
        simp [boR, this]
      | false => simp [boR]
    · rw [if_neg hm]
      have h5 := spl_lt (n := l.length) (by omega)
      have h6 := spl_pos l.length
      by_cases h7 : m ≤ spl l.length
      · rw [if_pos h7, List.reverse_append, List.reverse_singleton, List.singleton_append]
        simp only [boR]
        rw [if_neg hm, if_pos h7]
        have e1 : (l.take (spl l.length)).take m = l.take m := by rw [List.take_take, Nat.min_eq_left h7]
        have := ih m (l.take (spl l.length)) all (by rw [List.length_take]; omega) h2 (by rw [List.length_take]; omega) (by rw [e1]; exact ho)
        rw [e1, List.length_take, Nat.min_eq_left (by omega)] at this
        rw [this, mth_two (l := l) (by omega)]; rfl
      · rw [if_neg h7, List.reverse_append, List.reverse_singleton, List.singleton_append]
        simp only [boR]
        rw [if_neg hm, if_neg h7]
        have := ih (m - spl l.length) (l.drop (spl l.length)) false (by rw [List.length_drop]; omega) (by omega) (by rw [List.length_drop]; omega) (fun h => by cases h)
        rw [List.length_drop] at this
        have hlm : (l.take m).length = m := by rw [List.length_take]; omega
        have e2 : mth (l.take m) = nodeS (mth (l.take (spl l.length))) (mth ((l.drop (spl l.length)).take (m - spl l.length))) := by
          rw [mth_two (l := l.take m) (by omega), hlm, spl_mid (by omega) h3 (by omega), List.take_take, Nat.min_eq_left (by omega), List.drop_take]
        rw [this, e2, mth_two (l := l) (by omega)]; rfl

theorem incl_right (l : List ByteArray) (i : Nat) (leaf : ByteArray) (h : l[i]? = some leaf) (hn : l.length ≤ 1099511627776) : inclB leaf i l.length (incF l.length i l) (mth l) = true := by
  have hi := (List.getElem?_eq_some_iff.1 h).1
  have h1 := incF_shR l.length i l leaf (Nat.le_refl _) h
  rw [cl_shR leaf i l.length _ hi hn] at h1
  unfold inclB
  simp only [Int.toNat_natCast, h1, decide_true, Bool.and_true]
  exact decide_eq_true ⟨by omega, by omega, by omega⟩
theorem ext_right (l : List ByteArray) (m : Nat) (h1 : 1 ≤ m) (h2 : m ≤ l.length) (hn : l.length ≤ 1099511627776) : extB m l.length (mth (l.take m)) (mth l) (conF l.length m l true) = true := by
  have h := conF_boR (mth (l.take m)) l.length m l true (Nat.le_refl _) h1 h2 (fun _ => rfl)
  unfold extB
  simp only [Int.toNat_natCast, h, decide_true, Bool.and_true]
  exact decide_eq_true ⟨by omega, by omega, by omega⟩

theorem incF_size : ∀ (f i : Nat) (l : List ByteArray), (∀ s ∈ l, s.size ≤ 1048576) → ∀ s ∈ incF f i l, s.size ≤ 1048576 := by
  intro f
  induction f with
  | zero => intro i l _ s hs; simp [incF] at hs
  | succ f ih =>
    intro i l hl s hs
    simp only [incF] at hs
    have hm : ∀ q : List ByteArray, (∀ s ∈ q, s.size ≤ 1048576) → (mth q).size ≤ 1048576 := fun q hq => by
      have := mth_size (N := 1048577) (fun s hs => by have := hq s hs; omega) (by omega); omega
    split at hs
    · simp at hs
    · split at hs
      · rcases List.mem_append.1 hs with h | h
        · exact ih _ _ (fun s hs => hl s (List.mem_of_mem_take hs)) s h
        · rw [List.mem_singleton.1 h]; exact hm _ (fun s hs => hl s (List.mem_of_mem_drop hs))
      · rcases List.mem_append.1 hs with h | h
        · exact ih _ _ (fun s hs => hl s (List.mem_of_mem_drop hs)) s h
        · rw [List.mem_singleton.1 h]; exact hm _ (fun s hs => hl s (List.mem_of_mem_take hs))
theorem conF_size : ∀ (f m : Nat) (l : List ByteArray) (all : Bool), (∀ s ∈ l, s.size ≤ 1048576) → ∀ s ∈ conF f m l all, s.size ≤ 1048576 := by
  intro f
  induction f with
  | zero => intro m l all _ s hs; simp [conF] at hs
  | succ f ih =>
    intro m l all hl s hs
    simp only [conF] at hs
    have hm : ∀ q : List ByteArray, (∀ s ∈ q, s.size ≤ 1048576) → (mth q).size ≤ 1048576 := fun q hq => by
      have := mth_size (N := 1048577) (fun s hs => by have := hq s hs; omega) (by omega); omega
    split at hs
    · split at hs
      · simp at hs
      · rw [List.mem_singleton.1 hs]; exact hm _ hl
    · split at hs
      · rcases List.mem_append.1 hs with h | h
        · exact ih _ _ _ (fun s hs => hl s (List.mem_of_mem_take hs)) s h
        · rw [List.mem_singleton.1 h]; exact hm _ (fun s hs => hl s (List.mem_of_mem_drop hs))
      · rcases List.mem_append.1 hs with h | h
        · exact ih _ _ _ (fun s hs => hl s (List.mem_of_mem_drop hs)) s h
        · rw [List.mem_singleton.1 h]; exact hm _ (fun s hs => hl s (List.mem_of_mem_take hs))
theorem incF_length : ∀ (f i : Nat) (l : List ByteArray), (incF f i l).length ≤ f := by
  intro f
  induction f with
  | zero => intro i l; simp [incF]
  | succ f ih =>
    intro i l
    simp only [incF]
    split
    · simp
    · split
      · simpa using ih _ _
      · simpa using ih _ _
theorem conF_length : ∀ (f m : Nat) (l : List ByteArray) (all : Bool), (conF f m l all).length ≤ f := by
  intro f
  induction f with
  | zero => intro m l all; simp [conF]
  | succ f ih =>
    intro m l all
    simp only [conF]
    split
    · split <;> simp
    · split
      · simpa using ih _ _ _
      · simpa using ih _ _ _
end Go.Proofs.YtlhohmlpcgbliabGreatDoor
namespace Go.Proofs.YtlhohmlpcgbliabGreatDoor
set_option maxRecDepth 100000
open Go.RowKit
attribute [local go_sem ↓] Go.wp_at_zero Go.wp_at_succ

/-- The call gives a list of its own, of these texts. -/
def GivesRow (w : World) (f : FuncId) (args : Array Value) (ss : List ByteArray) : Prop := Calls Tryz.prog f args w fun e w' => ∃ v, e = .returned v ∧ Row w' w.heap.size 9 v (strv ss) ∧ Below w.heap.size w w'

set_option maxHeartbeats 400000 in
theorem inclusion_none (i k c : Nat) (p : Option Addr) (w : World) (hk : k < 2) : GivesRow w 17 #[.int .i64 (i : Int), .slice p k c] [] := by
  unfold GivesRow
  go_enter Tryz.func17, Tryz.ntmps17
  go_wp2
  go_ret
  exact ⟨_, rfl, World.ownsRow_nil _ _ _ _, Below.refl _ _⟩

set_option maxRecDepth 100000 in
set_option maxHeartbeats 1000000 in
theorem inclusion_left (i b o c n : Nat) (xs : List ByteArray) (y : ByteArray) (w : World) (h2 : 2 ≤ n) (hn : n ≤ 1099511627776) (hc : n ≤ c) (hi : i < spl n) (hxl : xs.length ≤ 1048576)
  (hrec : GivesRow w 17 #[.int .i64 (i : Int), .slice (some ⟨b, o, none⟩) (spl n) c] xs)
  (hroot : Gives w 15 #[.slice (some ⟨b, o + spl n, none⟩) (n - spl n) (c - spl n)] y) :
    GivesRow w 17 #[.int .i64 (i : Int), .slice (some ⟨b, o, none⟩) n c] (xs ++ [y]) := by
  unfold GivesRow
  have hsp := fun wx => splitRef_any n wx h2 hn
  have hlt := spl_lt h2
  generalize spl n = k at *
  have hs1 := fun wx => slice_h wx b o n c k (by omega)
  have hs2 := fun wx => slice_l wx b o n c k hlt hc
  have hn2 : ¬ ((n : Int) < 2) := by omega
  have HX : Aside (strv xs ++ [.string y] = strv (xs ++ [y])) := by show _ = _; simp [strv]
  have hxl2 : (strv xs).length ≤ 1048576 := by rw [strv_length]; exact hxl
  have hrec' : Calls Tryz.prog 17 #[.int .i64 (i : Int), .slice (some ⟨b, o, none⟩) k c] w fun e w' => ∃ v, e = .returned v ∧ Row w' w.heap.size 9 v (strv xs) ∧ Below w.heap.size w w' := hrec
  clear hrec hxl
  generalize hxs : strv xs = zs at *
  clear hxs
  go_enter Tryz.func17, Tryz.ntmps17
  go_wp2_with (first | (go_at_call 30; refine (hsp _).mono ?_; rintro e w0 ⟨rfl, hw0⟩; rw [hw0]; clear hw0) | (go_at_call 17; refine hrec'.mono ?_; rintro e w1 ⟨v, rfl, hrow, hb⟩) | (go_at_call 15; refine (hroot _ hb).mono ?_; rintro e w2 ⟨rfl, hb2⟩) | (at_builtin; refine wpList_app elem_string rfl Tryz.underlying22 (by rfl) (.tmp 22) (.tmp 27) (by rfl) w.heap.size _ zs (by rfl) ((hrow.below hb2 (Nat.le_refl _)).alloc _) _ 1 1 [.string y] (by rfl) rfl (Blk.new _ 9 _) ?h1 ?hl ?hb ?hbs (w0 := w) ((hb.trans (hb2.mono hb.size)).alloc (Nat.le_trans hb.size hb2.size) _) (Nat.le_refl _) ?_))
  case h1 => intro u hu; simp at hu; subst hu; rfl
  case hl => omega
  case hb => omega
  case hbs => have := hb.size; have := hb2.size; simp; omega
  intro v' w' hv' _ hb'
  rw [HX.out] at hv'
  go_wp2
  go_ret
  exact ⟨_, rfl, hv', hb'⟩
set_option maxRecDepth 100000 in
set_option maxHeartbeats 1000000 in
theorem inclusion_right (i b o c n : Nat) (xs : List ByteArray) (y : ByteArray) (w : World) (h2 : 2 ≤ n) (hn : n ≤ 1099511627776) (hc : n ≤ c) (hi : spl n ≤ i) (hin : i < n) (hxl : xs.length ≤ 1048576)
  (hrec : GivesRow w 17 #[.int .i64 ((i - spl n : Nat) : Int), .slice (some ⟨b, o + spl n, none⟩) (n - spl n) (c - spl n)] xs)
  (hroot : Gives w 15 #[.slice (some ⟨b, o, none⟩) (spl n) c] y) :
    GivesRow w 17 #[.int .i64 (i : Int), .slice (some ⟨b, o, none⟩) n c] (xs ++ [y]) := by
  unfold GivesRow
  have hsp := fun wx => splitRef_any n wx h2 hn
  have hlt := spl_lt h2
  generalize spl n = k at *
  have hs1 := fun wx => slice_h wx b o n c k (by omega)
  have hs2 := fun wx => slice_l wx b o n c k hlt hc
  have hn2 : ¬ ((n : Int) < 2) := by omega
  have HX : Aside (strv xs ++ [.string y] = strv (xs ++ [y])) := by show _ = _; simp [strv]
  have hxl2 : (strv xs).length ≤ 1048576 := by rw [strv_length]; exact hxl
  have hrec' : Calls Tryz.prog 17 #[.int .i64 ((i : Int) - (k : Int)), .slice (some ⟨b, o + k, none⟩) (n - k) (c - k)] w fun e w' => ∃ v, e = .returned v ∧ Row w' w.heap.size 9 v (strv xs) ∧ Below w.heap.size w w' := by rw [← Int.natCast_sub hi]; exact hrec
  clear hrec hxl
  generalize hxs : strv xs = zs at *
  clear hxs
  go_enter Tryz.func17, Tryz.ntmps17
  go_wp2_with (first | (go_at_call 30; refine (hsp _).mono ?_; rintro e w0 ⟨rfl, hw0⟩; rw [hw0]; clear hw0) | (go_at_call 17; refine hrec'.mono ?_; rintro e w1 ⟨v, rfl, hrow, hb⟩) | (go_at_call 15; refine (hroot _ hb).mono ?_; rintro e w2 ⟨rfl, hb2⟩) | (at_builtin; refine wpList_app elem_string rfl Tryz.underlying22 (by rfl) (.tmp 36) (.tmp 41) (by rfl) w.heap.size _ zs (by rfl) ((hrow.below hb2 (Nat.le_refl _)).alloc _) _ 1 1 [.string y] (by rfl) rfl (Blk.new _ 9 _) ?h1 ?hl ?hb ?hbs (w0 := w) ((hb.trans (hb2.mono hb.size)).alloc (Nat.le_trans hb.size hb2.size) _) (Nat.le_refl _) ?_))
  case h1 => intro u hu; simp at hu; subst hu; rfl
  case hl => omega
  case hb => omega
  case hbs => have := hb.size; have := hb2.size; simp; omega
  intro v' w' hv' _ hb'
  rw [HX.out] at hv'
  go_wp2
  go_ret
  exact ⟨_, rfl, hv', hb'⟩

theorem gives_root (b o c : Nat) (l : List ByteArray) (w : World) (hc : l.length ≤ c) (hn : l.length ≤ 1048576) (hS : SA w b o l) (hz : ∀ s ∈ l, s.size ≤ 1048576) : Gives w 15 #[.slice (some ⟨b, o, none⟩) l.length c] (mth l) := fun wx hx =>
  rootRef_any l b o c wx hc (by omega) (hS.below hx) (fun s hs => by have := hz s hs; omega)

theorem inclusion_any : ∀ (N i : Nat) (l : List ByteArray) (b o c : Nat) (w : World), l.length ≤ N → N ≤ 1048576 → l.length ≤ c → i < l.length → SA w b o l → (∀ s ∈ l, s.size ≤ 1048576) →
    GivesRow w 17 #[.int .i64 (i : Int), .slice (some ⟨b, o, none⟩) l.length c] (incF N i l) := by
  intro N
  induction N with
  | zero => intro i l b o c w h1 _ _ h2; omega
  | succ N ih =>
    intro i l b o c w h1 hN hc hi hS hz
    simp only [incF]
    by_cases h2 : l.length < 2
    · rw [if_pos h2]
      exact inclusion_none i l.length c _ w h2
    · rw [if_neg h2]
      have h3 := spl_lt (n := l.length) (by omega)
      have h4 := spl_pos l.length
      have hlt : (l.take (spl l.length)).length = spl l.length := by rw [List.length_take]; omega
      have hld : (l.drop (spl l.length)).length = l.length - spl l.length := List.length_drop
      have g1 := gives_root b o c (l.take (spl l.length)) w (by omega) (by omega) (hS.take _) (fun s hs => hz s (List.mem_of_mem_take hs))
      have g2 := gives_root b (o + spl l.length) (c - spl l.length) (l.drop (spl l.length)) w (by omega) (by omega) (hS.drop _) (fun s hs => hz s (List.mem_of_mem_drop hs))
      rw [hlt] at g1
      rw [hld] at g2
      by_cases h5 : i < spl l.length
      · rw [if_pos h5]
        have q := ih i (l.take (spl l.length)) b o c w (by omega) (by omega) (by omega) (by omega) (hS.take _) (fun s hs => hz s (List.mem_of_mem_take hs))
        rw [hlt] at q
        exact inclusion_left i b o c l.length _ _ w (by omega) (by omega) hc h5 (Nat.le_trans (incF_length N _ _) (by omega)) q g2
      · rw [if_neg h5]
        have q := ih (i - spl l.length) (l.drop (spl l.length)) b (o + spl l.length) (c - spl l.length) w (by omega) (by omega) (by omega) (by omega) (hS.drop _) (fun s hs => hz s (List.mem_of_mem_drop hs))
        rw [hld] at q
        exact inclusion_right i b o c l.length _ _ w (by omega) (by omega) hc (by omega) hi (Nat.le_trans (incF_length N _ _) (by omega)) q g1
end Go.Proofs.YtlhohmlpcgbliabGreatDoor
namespace Go.Proofs.YtlhohmlpcgbliabGreatDoor
set_option maxRecDepth 100000
open Go.RowKit
attribute [local go_sem ↓] Go.wp_at_zero Go.wp_at_succ

set_option maxHeartbeats 400000 in
theorem consistency_all (n c : Nat) (p : Option Addr) (w : World) : GivesRow w 18 #[.int .i64 (n : Int), .slice p n c, .bool true] [] := by
  unfold GivesRow
  go_enter Tryz.func18, Tryz.ntmps18
  go_wp2
  go_ret
  exact ⟨_, rfl, World.ownsRow_nil _ _ _ _, Below.refl _ _⟩

set_option maxHeartbeats 400000 in
theorem consistency_one (n b o c : Nat) (y : ByteArray) (w : World) (hroot : Gives w 15 #[.slice (some ⟨b, o, none⟩) n c] y) : GivesRow w 18 #[.int .i64 (n : Int), .slice (some ⟨b, o, none⟩) n c, .bool false] [y] := by
  unfold GivesRow
  have hr := hroot w (Below.refl _ _)
  clear hroot
  go_enter Tryz.func18, Tryz.ntmps18
  go_wp2_with (go_at_call 15; refine hr.mono ?_; rintro e w2 ⟨rfl, hb2⟩)
  go_ret
  exact ⟨_, rfl, Row.lit' w2 w.heap.size 9 [.string y] 1 rfl hb2.size (by unfold maxLen; omega), hb2.alloc hb2.size _⟩

set_option maxRecDepth 100000 in
set_option maxHeartbeats 1000000 in
theorem consistency_left (i b o c n : Nat) (all : Bool) (xs : List ByteArray) (y : ByteArray) (w : World) (h2 : 2 ≤ n) (hn : n ≤ 1099511627776) (hc : n ≤ c) (hin : i ≠ n) (hi : i ≤ spl n) (hxl : xs.length ≤ 1048576)
  (hrec : GivesRow w 18 #[.int .i64 (i : Int), .slice (some ⟨b, o, none⟩) (spl n) c, .bool all] xs)
  (hroot : Gives w 15 #[.slice (some ⟨b, o + spl n, none⟩) (n - spl n) (c - spl n)] y) :
    GivesRow w 18 #[.int .i64 (i : Int), .slice (some ⟨b, o, none⟩) n c, .bool all] (xs ++ [y]) := by
  unfold GivesRow
  have hsp := fun wx => splitRef_any n wx h2 hn
  have hlt := spl_lt h2
  generalize spl n = k at *
  have hs1 := fun wx => slice_h wx b o n c k (by omega)
  have hs2 := fun wx => slice_l wx b o n c k hlt hc
  have hne := eqI i n hin
  have HX : Aside (strv xs ++ [.string y] = strv (xs ++ [y])) := by show _ = _; simp [strv]
  have hxl2 : (strv xs).length ≤ 1048576 := by rw [strv_length]; exact hxl
  have hrec' : Calls Tryz.prog 18 #[.int .i64 (i : Int), .slice (some ⟨b, o, none⟩) k c, .bool all] w fun e w' => ∃ v, e = .returned v ∧ Row w' w.heap.size 9 v (strv xs) ∧ Below w.heap.size w w' := hrec
  clear hrec hxl
  generalize hxs : strv xs = zs at *
  clear hxs
  go_enter Tryz.func18, Tryz.ntmps18
  go_wp2_with (first | (go_at_call 30; refine (hsp _).mono ?_; rintro e w0 ⟨rfl, hw0⟩; rw [hw0]; clear hw0) | (go_at_call 18; refine hrec'.mono ?_; rintro e w1 ⟨v, rfl, hrow, hb⟩) | (go_at_call 15; refine (hroot _ hb).mono ?_; rintro e w2 ⟨rfl, hb2⟩) | (at_builtin; refine wpList_app elem_string rfl Tryz.underlying22 (by rfl) (.tmp 30) (.tmp 35) (by rfl) w.heap.size _ zs (by rfl) ((hrow.below hb2 (Nat.le_refl _)).alloc _) _ 1 1 [.string y] (by rfl) rfl (Blk.new _ 9 _) ?h1 ?hl ?hb ?hbs (w0 := w) ((hb.trans (hb2.mono hb.size)).alloc (Nat.le_trans hb.size hb2.size) _) (Nat.le_refl _) ?_))
  case h1 => intro u hu; simp at hu; subst hu; rfl
  case hl => omega
  case hb => omega
  case hbs => have := hb.size; have := hb2.size; simp; omega
  intro v' w' hv' _ hb'
  rw [HX.out] at hv'
  go_wp2
  go_ret
  exact ⟨_, rfl, hv', hb'⟩
set_option maxRecDepth 100000 in
set_option maxHeartbeats 1000000 in
theorem consistency_right (i b o c n : Nat) (all : Bool) (xs : List ByteArray) (y : ByteArray) (w : World) (h2 : 2 ≤ n) (hn : n ≤ 1099511627776) (hc : n ≤ c) (hi : spl n < i) (hin : i < n) (hxl : xs.length ≤ 1048576)
  (hrec : GivesRow w 18 #[.int .i64 ((i - spl n : Nat) : Int), .slice (some ⟨b, o + spl n, none⟩) (n - spl n) (c - spl n), .bool false] xs)
  (hroot : Gives w 15 #[.slice (some ⟨b, o, none⟩) (spl n) c] y) :
    GivesRow w 18 #[.int .i64 (i : Int), .slice (some ⟨b, o, none⟩) n c, .bool all] (xs ++ [y]) := by
  unfold GivesRow
  have hsp := fun wx => splitRef_any n wx h2 hn
  have hlt := spl_lt h2
  generalize spl n = k at *
  have hs1 := fun wx => slice_h wx b o n c k (by omega)
  have hs2 := fun wx => slice_l wx b o n c k hlt hc
  have hne := eqI i n (by omega)
  have HX : Aside (strv xs ++ [.string y] = strv (xs ++ [y])) := by show _ = _; simp [strv]
  have hxl2 : (strv xs).length ≤ 1048576 := by rw [strv_length]; exact hxl
  have hrec' : Calls Tryz.prog 18 #[.int .i64 ((i : Int) - (k : Int)), .slice (some ⟨b, o + k, none⟩) (n - k) (c - k), .bool false] w fun e w' => ∃ v, e = .returned v ∧ Row w' w.heap.size 9 v (strv xs) ∧ Below w.heap.size w w' := by rw [← Int.natCast_sub (Nat.le_of_lt hi)]; exact hrec
  clear hrec hxl
  generalize hxs : strv xs = zs at *
  clear hxs
  go_enter Tryz.func18, Tryz.ntmps18
  go_wp2_with (first | (go_at_call 30; refine (hsp _).mono ?_; rintro e w0 ⟨rfl, hw0⟩; rw [hw0]; clear hw0) | (go_at_call 18; refine hrec'.mono ?_; rintro e w1 ⟨v, rfl, hrow, hb⟩) | (go_at_call 15; refine (hroot _ hb).mono ?_; rintro e w2 ⟨rfl, hb2⟩) | (at_builtin; refine wpList_app elem_string rfl Tryz.underlying22 (by rfl) (.tmp 44) (.tmp 49) (by rfl) w.heap.size _ zs (by rfl) ((hrow.below hb2 (Nat.le_refl _)).alloc _) _ 1 1 [.string y] (by rfl) rfl (Blk.new _ 9 _) ?h1 ?hl ?hb ?hbs (w0 := w) ((hb.trans (hb2.mono hb.size)).alloc (Nat.le_trans hb.size hb2.size) _) (Nat.le_refl _) ?_))
  case h1 => intro u hu; simp at hu; subst hu; rfl
  case hl => omega
  case hb => omega
  case hbs => have := hb.size; have := hb2.size; simp; omega
  intro v' w' hv' _ hb'
  rw [HX.out] at hv'
  go_wp2
  go_ret
  exact ⟨_, rfl, hv', hb'⟩

theorem consistency_any : ∀ (N m : Nat) (l : List ByteArray) (all : Bool) (b o c : Nat) (w : World), l.length ≤ N → N ≤ 1048576 → l.length ≤ c → 1 ≤ m → m ≤ l.length → SA w b o l → (∀ s ∈ l, s.size ≤ 1048576) →
    GivesRow w 18 #[.int .i64 (m : Int), .slice (some ⟨b, o, none⟩) l.length c, .bool all] (conF N m l all) := by
  intro N
  induction N with
  | zero => intro m l all b o c w h1 _ _ h2 h3; omega
  | succ N ih =>
    intro m l all b o c w h1 hN hc hm1 hm hS hz
    simp only [conF]
    by_cases h2 : m = l.length
    · rw [if_pos h2, h2]
      cases all with
      | true => exact consistency_all l.length c _ w
      | false => exact consistency_one l.length b o c _ w (gives_root b o c l w hc (by omega) hS hz)
    · rw [if_neg h2]
      have h3 := spl_lt (n := l.length) (by omega)
      have h4 := spl_pos l.length
      have hlt : (l.take (spl l.length)).length = spl l.length := by rw [List.length_take]; omega
      have hld : (l.drop (spl l.length)).length = l.length - spl l.length := List.length_drop
      have g1 := gives_root b o c (l.take (spl l.length)) w (by omega) (by omega) (hS.take _) (fun s hs => hz s (List.mem_of_mem_take hs))
      have g2 := gives_root b (o + spl l.length) (c - spl l.length) (l.drop (spl l.length)) w (by omega) (by omega) (hS.drop _) (fun s hs => hz s (List.mem_of_mem_drop hs))
      rw [hlt] at g1
      rw [hld] at g2
      by_cases h5 : m ≤ spl l.length
      · rw [if_pos h5]
        have q := ih m (l.take (spl l.length)) all b o c w (by omega) (by omega) (by omega) hm1 (by omega) (hS.take _) (fun s hs => hz s (List.mem_of_mem_take hs))
        rw [hlt] at q
        exact consistency_left m b o c l.length all _ _ w (by omega) (by omega) hc h2 h5 (Nat.le_trans (conF_length N _ _ _) (by omega)) q g2
      · rw [if_neg h5]
        have q := ih (m - spl l.length) (l.drop (spl l.length)) false b (o + spl l.length) (c - spl l.length) w (by omega) (by omega) (by omega) (by omega) (by omega) (hS.drop _) (fun s hs => hz s (List.mem_of_mem_drop hs))
        rw [hld] at q
        exact consistency_right m b o c l.length all _ _ w (by omega) (by omega) hc (by omega) (by omega) (Nat.le_trans (conF_length N _ _ _) (by omega)) q g1
end Go.Proofs.YtlhohmlpcgbliabGreatDoor
