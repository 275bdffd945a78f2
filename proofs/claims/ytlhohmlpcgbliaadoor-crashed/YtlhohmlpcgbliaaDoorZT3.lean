import Derived.Test.YtlhohmlpcgbliaaDoorProg
import Derived.Shelf.Spec.TrailingZeros
import Derived.Test.YtlhohmlpcgbliaaDoorZQ4
namespace Go.Proofs.YtlhohmlpcgbliaaDoor
open Go.Shelf
end Go.Proofs.YtlhohmlpcgbliaaDoor
namespace Go.Proofs.YtlhohmlpcgbliaaDoor
set_option maxRecDepth 100000
open Go.RowKit
attribute [local go_sem ↓] Go.wp_at_zero Go.wp_at_succ

set_option maxHeartbeats 400000 in
theorem inclTree_low (leaf root : ByteArray) (i n : Int) (v : Value) (w : World) (h : i < 0) :
    Calls Tryd.prog 63 #[.string leaf, .int .i64 i, .int .i64 n, v, .string root] w fun e w' => e = .returned (.bool false) ∧ w' = w := by
  go_enter Tryd.func63, Tryd.ntmps63
  go_wp2
  go_ret
  exact ⟨rfl, rfl⟩
set_option maxHeartbeats 400000 in
theorem inclTree_high (leaf root : ByteArray) (i n : Int) (v : Value) (w : World) (h0 : 0 ≤ i) (h : n ≤ i) :
    Calls Tryd.prog 63 #[.string leaf, .int .i64 i, .int .i64 n, v, .string root] w fun e w' => e = .returned (.bool false) ∧ w' = w := by
  go_enter Tryd.func63, Tryd.ntmps63
  go_wp2
  go_ret
  exact ⟨rfl, rfl⟩
set_option maxHeartbeats 400000 in
theorem inclTree_great (leaf root : ByteArray) (i n : Int) (v : Value) (w : World) (h0 : 0 ≤ i) (h1 : i < n) (h : 1099511627776 < n) :
    Calls Tryd.prog 63 #[.string leaf, .int .i64 i, .int .i64 n, v, .string root] w fun e w' => e = .returned (.bool false) ∧ w' = w := by
  go_enter Tryd.func63, Tryd.ntmps63
  go_wp2
  go_ret
  exact ⟨rfl, rfl⟩
set_option maxHeartbeats 400000 in
theorem inclTree_mid (leaf root : ByteArray) (i n : Int) (v : Value) (w : World) (r : Option (ByteArray × ByteArray)) (h0 : 0 ≤ i) (h1 : i < n) (h : n ≤ 1099511627776)
  (hs : Calls Tryd.prog 89 #[.string leaf, .int .i64 i, .int .i64 (n - 1), v] w (ClimbAs r w)) :
    Calls Tryd.prog 63 #[.string leaf, .int .i64 i, .int .i64 n, v, .string root] w fun e w' => e = .returned (.bool (decide (r.map (·.2) = some root))) ∧ Below w.heap.size w w' := by
  cases r with
  | none =>
    go_enter Tryd.func63, Tryd.ntmps63
    go_wp2_with (go_at_call 89; refine hs.mono ?_; rintro e w' ⟨x, y, ok, rfl, ho, hv, hb⟩; obtain rfl : false = ok := ho)
    go_ret
    exact ⟨rfl, hb⟩
  | some q =>
    obtain ⟨a, b⟩ := q
    go_enter Tryd.func63, Tryd.ntmps63
    go_wp2_with (go_at_call 89; refine hs.mono ?_; rintro e w' ⟨x, y, ok, rfl, ho, hv, hb⟩; obtain rfl : true = ok := ho; obtain ⟨rfl, rfl⟩ := hv _ rfl; clear hv)
    go_ret
    exact ⟨by simp [eqs], hb⟩

theorem inclTree_big (leaf root : ByteArray) (i n : Int) (v : Value) (ss : List ByteArray) (w : World) (hl : leaf.size ≤ 140737488355328) (hv : Lst w v ss) (hf : FewB ss) (ht : Table w) (hg : 2 < w.heap.size) :
    Calls Tryd.prog 63 #[.string leaf, .int .i64 i, .int .i64 n, v, .string root] w fun e w' => e = .returned (.bool (inclB leaf i n ss root)) ∧ Below w.heap.size w w' := by
  unfold inclB
  by_cases h0 : 0 ≤ i
  · by_cases h1 : i < n
    · by_cases h2 : n ≤ 1099511627776
      · obtain ⟨a, rfl⟩ := Int.eq_ofNat_of_zero_le h0
        obtain ⟨b, rfl⟩ := Int.eq_ofNat_of_zero_le (show 0 ≤ n by omega)
        have hs := climb_big leaf a (b - 1) v ss w (by omega) (by omega) (by omega) hv hf ht hg
        rw [Int.natCast_sub (show 1 ≤ b by omega)] at hs
        refine (inclTree_mid leaf root a b _ w _ h0 h1 h2 hs).mono fun e w' ⟨he, hb⟩ => ⟨?_, hb⟩
        rw [he, decide_eq_true (show (0 : Int) ≤ a ∧ (a : Int) < b ∧ (b : Int) ≤ 1099511627776 from ⟨h0, h1, h2⟩)]
        simp
      · refine (inclTree_great leaf root i n v w h0 h1 (by omega)).mono fun e w' ⟨he, hb⟩ => ⟨?_, by rw [hb]; exact Below.refl _ _⟩
        rw [he, decide_eq_false (by omega)]; rfl
    · refine (inclTree_high leaf root i n v w h0 (by omega)).mono fun e w' ⟨he, hb⟩ => ⟨?_, by rw [hb]; exact Below.refl _ _⟩
      rw [he, decide_eq_false (by omega)]; rfl
  · refine (inclTree_low leaf root i n v w (by omega)).mono fun e w' ⟨he, hb⟩ => ⟨?_, by rw [hb]; exact Below.refl _ _⟩
    rw [he, decide_eq_false (by omega)]; rfl

set_option maxHeartbeats 400000 in
theorem incl_big (leaf root : ByteArray) (i n : Int) (v : Value) (ss : List ByteArray) (w : World) (hl : leaf.size ≤ 140737488355328) (hv : Lst w v ss) (hf : FewB ss) (ht : Table w) (hg : 2 < w.heap.size) :
    Calls Tryd.prog 23 #[.string leaf, .int .i64 i, .int .i64 n, v, .string root] w fun e w' => e = .returned (.bool (inclB leaf i n ss root)) ∧ Below w.heap.size w w' := by
  have h1 := inclTree_big leaf root i n v ss w hl hv hf ht hg
  clear hv hf
  go_enter Tryd.func23, Tryd.ntmps23
  go_wp2_with (go_at_call 63; refine h1.mono ?_; rintro e w' ⟨rfl, hb⟩)
  go_ret
  exact ⟨rfl, hb⟩

end Go.Proofs.YtlhohmlpcgbliaaDoor
namespace Go.Proofs.YtlhohmlpcgbliaaDoor
set_option maxRecDepth 100000
open Go.RowKit
attribute [local go_sem ↓] Go.wp_at_zero Go.wp_at_succ

end Go.Proofs.YtlhohmlpcgbliaaDoor
namespace Go.Proofs.YtlhohmlpcgbliaaDoor
set_option maxRecDepth 100000
open Go.RowKit
attribute [local go_sem ↓] Go.wp_at_zero Go.wp_at_succ

end Go.Proofs.YtlhohmlpcgbliaaDoor
namespace Go.Proofs.YtlhohmlpcgbliaaDoor
set_option maxRecDepth 100000
open Go.RowKit
attribute [local go_sem ↓] Go.wp_at_zero Go.wp_at_succ

theorem Lst.tail {w : World} {g o c : Nat} {s : ByteArray} {r : List ByteArray} (h : Lst w (.slice (some ⟨g, o, none⟩) (r.length + 1) c) (s :: r)) : Lst w (.slice (some (if c = 1 then ⟨g, o, none⟩ else ⟨g, o + 1, none⟩)) r.length (c - 1)) r := by
  obtain ⟨p, c', e, hc, h2⟩ := h
  injection e with e1 e2 e3
  subst e3
  simp only [List.length_cons] at hc
  refine ⟨_, _, rfl, by omega, fun j x hx => ?_⟩
  have hj : j < r.length := (List.getElem?_eq_some_iff.1 hx).1
  obtain ⟨b, o', e4, h4⟩ := h2 (j + 1) x (by simpa using hx)
  rw [← e1] at e4
  injection e4 with e4
  injection e4 with e5 e6
  subst e5; subst e6
  rw [if_neg (by omega)]
  exact ⟨_, _, rfl, by rw [show o + 1 + j = o + (j + 1) by omega]; exact h4⟩

theorem Lst.drewN {w : World} {v : Value} {ss : List ByteArray} (h : Lst w v ss) (d : Nat) : Lst (w.drewN d) v ss := h.below (Below.drewN' (Below.refl _ _) d)

end Go.Proofs.YtlhohmlpcgbliaaDoor
namespace Go.Proofs.YtlhohmlpcgbliaaDoor
set_option maxRecDepth 100000
open Go.RowKit
attribute [local go_sem ↓] Go.wp_at_zero Go.wp_at_succ

end Go.Proofs.YtlhohmlpcgbliaaDoor
namespace Go.Proofs.YtlhohmlpcgbliaaDoor
set_option maxRecDepth 100000
open Go.RowKit

end Go.Proofs.YtlhohmlpcgbliaaDoor
namespace Go.Proofs.YtlhohmlpcgbliaaDoor
set_option maxRecDepth 100000

/-- What shows that the i-th is among these. -/
def incF : Nat → Nat → List ByteArray → List ByteArray
  | 0, _, _ => []
  | f + 1, i, l => if l.length < 2 then [] else if i < spl l.length then incF f i (l.take (spl l.length)) ++ [mth (l.drop (spl l.length))]
    else incF f (i - spl l.length) (l.drop (spl l.length)) ++ [mth (l.take (spl l.length))]
theorem incF_shR : ∀ (f i : Nat) (l : List ByteArray) (leaf : ByteArray), l.length ≤ f → l[i]? = some leaf → shR leaf (incF f i l).reverse i l.length = some (mth l) := by
  intro f
  induction f with
  | zero =>
    intro i l leaf h1 h2
    have := (List.getElem?_eq_some_iff.1 h2).1
    omega
  | succ f ih =>
    intro i l leaf h1 h2
    have hi := (List.getElem?_eq_some_iff.1 h2).1
    simp only [incF]
    by_cases hl : l.length < 2
    · rw [if_pos hl]
      match l, hl, hi, h2 with
      | [], _, hi, _ => simp at hi
      | [s], _, hi, h2 =>
        have hi0 : i = 0 := by simpa using hi
        subst hi0
        have : s = leaf := by simpa using h2
        subst this
        simp [shR, mth_one]
      | _ :: _ :: _, hl, _, _ => exact absurd hl (by simp only [List.length_cons]; omega)
    · rw [if_neg hl]
      have h3 := spl_lt (n := l.length) (by omega)
      have h4 := spl_pos l.length
      have hn1 : ¬ l.length = 1 := by omega
      by_cases h5 : i < spl l.length
      · rw [if_pos h5, List.reverse_append, List.reverse_singleton, List.singleton_append]
        simp only [shR]
        rw [if_neg hn1, if_pos h5]
        have := ih i (l.take (spl l.length)) leaf (by rw [List.length_take]; omega) (by rw [List.getElem?_take_of_lt h5]; exact h2)
        rw [List.length_take, Nat.min_eq_left (by omega)] at this
        rw [this, mth_two (l := l) (by omega)]; rfl
      · rw [if_neg h5, List.reverse_append, List.reverse_singleton, List.singleton_append]
        simp only [shR]
        rw [if_neg hn1, if_neg h5]
        have := ih (i - spl l.length) (l.drop (spl l.length)) leaf (by rw [List.length_drop]; omega) (by rw [List.getElem?_drop, show spl l.length + (i - spl l.length) = i by omega]; exact h2)
        rw [List.length_drop] at this
        rw [this, mth_two (l := l) (by omega)]; rfl

theorem incl_right (l : List ByteArray) (i : Nat) (leaf : ByteArray) (h : l[i]? = some leaf) (hn : l.length ≤ 1099511627776) : inclB leaf i l.length (incF l.length i l) (mth l) = true := by
  have hi := (List.getElem?_eq_some_iff.1 h).1
  have h1 := incF_shR l.length i l leaf (Nat.le_refl _) h
  rw [cl_shR leaf i l.length _ hi hn] at h1
  unfold inclB
  simp only [Int.toNat_natCast, h1, decide_true, Bool.and_true]
  exact decide_eq_true ⟨by omega, by omega, by omega⟩
theorem incF_size : ∀ (f i : Nat) (l : List ByteArray), (∀ s ∈ l, s.size ≤ 1048576) → ∀ s ∈ incF f i l, s.size ≤ 1048576 := by
  intro f
  induction f with
  | zero => intro i l _ s hs; simp [incF] at hs
  | succ f ih =>
    intro i l hl s hs
    simp only [incF] at hs
    have hm : ∀ q : List ByteArray, (∀ s ∈ q, s.size ≤ 1048576) → (mth q).size ≤ 1048576 := fun q hq => by
      have := mth_size (N := 1048577) (fun s hs => by have := hq s hs; omega) (by omega); omega
    split at hs
    · simp at hs
    · split at hs
      · rcases List.mem_append.1 hs with h | h
        · exact ih _ _ (fun s hs => hl s (List.mem_of_mem_take hs)) s h
        · rw [List.mem_singleton.1 h]; exact hm _ (fun s hs => hl s (List.mem_of_mem_drop hs))
      · rcases List.mem_append.1 hs with h | h
        · exact ih _ _ (fun s hs => hl s (List.mem_of_mem_drop hs)) s h
        · rw [List.mem_singleton.1 h]; exact hm _ (fun s hs => hl s (List.mem_of_mem_take hs))
theorem incF_length : ∀ (f i : Nat) (l : List ByteArray), (incF f i l).length ≤ f := by
  intro f
  induction f with
  | zero => intro i l; simp [incF]
  | succ f ih =>
    intro i l
    simp only [incF]
    split
    · simp
    · split
      · simpa using ih _ _
      · simpa using ih _ _
end Go.Proofs.YtlhohmlpcgbliaaDoor
namespace Go.Proofs.YtlhohmlpcgbliaaDoor
set_option maxRecDepth 100000
open Go.RowKit
attribute [local go_sem ↓] Go.wp_at_zero Go.wp_at_succ

/-- The call gives a list of its own, of these texts. -/
def GivesRow (w : World) (f : FuncId) (args : Array Value) (ss : List ByteArray) : Prop := Calls Tryd.prog f args w fun e w' => ∃ v, e = .returned v ∧ Row w' w.heap.size 9 v (strv ss) ∧ Below w.heap.size w w'

end Go.Proofs.YtlhohmlpcgbliaaDoor
namespace Go.Proofs.YtlhohmlpcgbliaaDoor
set_option maxRecDepth 100000
open Go.RowKit
attribute [local go_sem ↓] Go.wp_at_zero Go.wp_at_succ

end Go.Proofs.YtlhohmlpcgbliaaDoor
