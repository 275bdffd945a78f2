import Derived.Test.YtlhohmlpcgbliaaGreatDoorProg
import Derived.Shelf.Spec.TrailingZeros
import Derived.Test.YtlhohmlpcgbliaaGreatDoorZQ4
namespace Go.Proofs.YtlhohmlpcgbliaaGreatDoor
open Go.Shelf
end Go.Proofs.YtlhohmlpcgbliaaGreatDoor
namespace Go.Proofs.YtlhohmlpcgbliaaGreatDoor
set_option maxRecDepth 100000
open Go.RowKit
attribute [local go_sem ↓] Go.wp_at_zero Go.wp_at_succ

end Go.Proofs.YtlhohmlpcgbliaaGreatDoor
namespace Go.Proofs.YtlhohmlpcgbliaaGreatDoor
set_option maxRecDepth 100000
open Go.RowKit
attribute [local go_sem ↓] Go.wp_at_zero Go.wp_at_succ

end Go.Proofs.YtlhohmlpcgbliaaGreatDoor
namespace Go.Proofs.YtlhohmlpcgbliaaGreatDoor
set_option maxRecDepth 100000
open Go.RowKit
attribute [local go_sem ↓] Go.wp_at_zero Go.wp_at_succ

end Go.Proofs.YtlhohmlpcgbliaaGreatDoor
namespace Go.Proofs.YtlhohmlpcgbliaaGreatDoor
set_option maxRecDepth 100000
open Go.RowKit
attribute [local go_sem ↓] Go.wp_at_zero Go.wp_at_succ

theorem Lst.tail {w : World} {g o c : Nat} {s : ByteArray} {r : List ByteArray} (h : Lst w (.slice (some ⟨g, o, none⟩) (r.length + 1) c) (s :: r)) : Lst w (.slice (some (if c = 1 then ⟨g, o, none⟩ else ⟨g, o + 1, none⟩)) r.length (c - 1)) r := by
  obtain ⟨p, c', e, hc, h2⟩ := h
  injection e with e1 e2 e3
  subst e3
  simp only [List.length_cons] at hc
  refine ⟨_, _, rfl, by omega, fun j x hx => ?_⟩
  have hj : j < r.length := (List.getElem?_eq_some_iff.1 hx).1
  obtain ⟨b, o', e4, h4⟩ := h2 (j + 1) x (by simpa using hx)
  rw [← e1] at e4
  injection e4 with e4
  injection e4 with e5 e6
  subst e5; subst e6
  rw [if_neg (by omega)]
  exact ⟨_, _, rfl, by rw [show o + 1 + j = o + (j + 1) by omega]; exact h4⟩

theorem Lst.drewN {w : World} {v : Value} {ss : List ByteArray} (h : Lst w v ss) (d : Nat) : Lst (w.drewN d) v ss := h.below (Below.drewN' (Below.refl _ _) d)

end Go.Proofs.YtlhohmlpcgbliaaGreatDoor
namespace Go.Proofs.YtlhohmlpcgbliaaGreatDoor
set_option maxRecDepth 100000
open Go.RowKit
attribute [local go_sem ↓] Go.wp_at_zero Go.wp_at_succ

end Go.Proofs.YtlhohmlpcgbliaaGreatDoor
namespace Go.Proofs.YtlhohmlpcgbliaaGreatDoor
set_option maxRecDepth 100000
open Go.RowKit

end Go.Proofs.YtlhohmlpcgbliaaGreatDoor
namespace Go.Proofs.YtlhohmlpcgbliaaGreatDoor
set_option maxRecDepth 100000

/-- What shows that the i-th is among these. -/
def incF : Nat → Nat → List ByteArray → List ByteArray
  | 0, _, _ => []
  | f + 1, i, l => if l.length < 2 then [] else if i < spl l.length then incF f i (l.take (spl l.length)) ++ [mth (l.drop (spl l.length))]
    else incF f (i - spl l.length) (l.drop (spl l.length)) ++ [mth (l.take (spl l.length))]
/-- What shows that these begin with the first m of them. -/
def conF : Nat → Nat → List ByteArray → Bool → List ByteArray
  | 0, _, _, _ => []
  | f + 1, m, l, all => if m = l.length then (if all then [] else [mth l]) else if m ≤ spl l.length then conF f m (l.take (spl l.length)) all ++ [mth (l.drop (spl l.length))]
    else conF f (m - spl l.length) (l.drop (spl l.length)) false ++ [mth (l.take (spl l.length))]

theorem incF_length : ∀ (f i : Nat) (l : List ByteArray), (incF f i l).length ≤ f := by
  intro f
  induction f with
  | zero => intro i l; simp [incF]
  | succ f ih =>
    intro i l
    simp only [incF]
    split
    · simp
    · split
      · simpa using ih _ _
      · simpa using ih _ _
theorem conF_length : ∀ (f m : Nat) (l : List ByteArray) (all : Bool), (conF f m l all).length ≤ f := by
  intro f
  induction f with
  | zero => intro m l all; simp [conF]
  | succ f ih =>
    intro m l all
    simp only [conF]
    split
    · split <;> simp
    · split
      · simpa using ih _ _ _
      · simpa using ih _ _ _
end Go.Proofs.YtlhohmlpcgbliaaGreatDoor
namespace Go.Proofs.YtlhohmlpcgbliaaGreatDoor
set_option maxRecDepth 100000
open Go.RowKit
attribute [local go_sem ↓] Go.wp_at_zero Go.wp_at_succ

/-- The call gives a list of its own, of these texts. -/
def GivesRow (w : World) (f : FuncId) (args : Array Value) (ss : List ByteArray) : Prop := Calls Tryz.prog f args w fun e w' => ∃ v, e = .returned v ∧ Row w' w.heap.size 9 v (strv ss) ∧ Below w.heap.size w w'

set_option maxHeartbeats 400000 in
theorem inclusion_none (i k c : Nat) (p : Option Addr) (w : World) (hk : k < 2) : GivesRow w 41 #[.int .i64 (i : Int), .slice p k c] [] := by
  unfold GivesRow
  go_enter Tryz.func41, Tryz.ntmps41
  go_wp2
  go_ret
  exact ⟨_, rfl, World.ownsRow_nil _ _ _ _, Below.refl _ _⟩

set_option maxRecDepth 100000 in
set_option maxHeartbeats 1000000 in
theorem inclusion_left (i b o c n : Nat) (xs : List ByteArray) (y : ByteArray) (w : World) (h2 : 2 ≤ n) (hn : n ≤ 1099511627776) (hc : n ≤ c) (hi : i < spl n) (hxl : xs.length ≤ 1048576)
  (hrec : GivesRow w 41 #[.int .i64 (i : Int), .slice (some ⟨b, o, none⟩) (spl n) c] xs)
  (hroot : Gives w 36 #[.slice (some ⟨b, o + spl n, none⟩) (n - spl n) (c - spl n)] y) :
    GivesRow w 41 #[.int .i64 (i : Int), .slice (some ⟨b, o, none⟩) n c] (xs ++ [y]) := by
  unfold GivesRow
  have hsp := fun wx => splitRef_any n wx h2 hn
  have hlt := spl_lt h2
  generalize spl n = k at *
  have hs1 := fun wx => slice_h wx b o n c k (by omega)
  have hs2 := fun wx => slice_l wx b o n c k hlt hc
  have hn2 : ¬ ((n : Int) < 2) := by omega
  have HX : Aside (strv xs ++ [.string y] = strv (xs ++ [y])) := by show _ = _; simp [strv]
  have hxl2 : (strv xs).length ≤ 1048576 := by rw [strv_length]; exact hxl
  have hrec' : Calls Tryz.prog 41 #[.int .i64 (i : Int), .slice (some ⟨b, o, none⟩) k c] w fun e w' => ∃ v, e = .returned v ∧ Row w' w.heap.size 9 v (strv xs) ∧ Below w.heap.size w w' := hrec
  clear hrec hxl
  generalize hxs : strv xs = zs at *
  clear hxs
  go_enter Tryz.func41, Tryz.ntmps41
  go_wp2_with (first | (go_at_call 63; refine (hsp _).mono ?_; rintro e w0 ⟨rfl, hw0⟩; rw [hw0]; clear hw0) | (go_at_call 41; refine hrec'.mono ?_; rintro e w1 ⟨v, rfl, hrow, hb⟩) | (go_at_call 36; refine (hroot _ hb).mono ?_; rintro e w2 ⟨rfl, hb2⟩) | (at_builtin; refine wpList_app elem_string rfl Tryz.underlying32 (by rfl) (.tmp 22) (.tmp 27) (by rfl) w.heap.size _ zs (by rfl) ((hrow.below hb2 (Nat.le_refl _)).alloc _) _ 1 1 [.string y] (by rfl) rfl (Blk.new _ 9 _) ?h1 ?hl ?hb ?hbs (w0 := w) ((hb.trans (hb2.mono hb.size)).alloc (Nat.le_trans hb.size hb2.size) _) (Nat.le_refl _) ?_))
  case h1 => intro u hu; simp at hu; subst hu; rfl
  case hl => omega
  case hb => omega
  case hbs => have := hb.size; have := hb2.size; simp; omega
  intro v' w' hv' _ hb'
  rw [HX.out] at hv'
  go_wp2
  go_ret
  exact ⟨_, rfl, hv', hb'⟩
set_option maxRecDepth 100000 in
set_option maxHeartbeats 1000000 in
theorem inclusion_right (i b o c n : Nat) (xs : List ByteArray) (y : ByteArray) (w : World) (h2 : 2 ≤ n) (hn : n ≤ 1099511627776) (hc : n ≤ c) (hi : spl n ≤ i) (hin : i < n) (hxl : xs.length ≤ 1048576)
  (hrec : GivesRow w 41 #[.int .i64 ((i - spl n : Nat) : Int), .slice (some ⟨b, o + spl n, none⟩) (n - spl n) (c - spl n)] xs)
  (hroot : Gives w 36 #[.slice (some ⟨b, o, none⟩) (spl n) c] y) :
    GivesRow w 41 #[.int .i64 (i : Int), .slice (some ⟨b, o, none⟩) n c] (xs ++ [y]) := by
  unfold GivesRow
  have hsp := fun wx => splitRef_any n wx h2 hn
  have hlt := spl_lt h2
  generalize spl n = k at *
  have hs1 := fun wx => slice_h wx b o n c k (by omega)
  have hs2 := fun wx => slice_l wx b o n c k hlt hc
  have hn2 : ¬ ((n : Int) < 2) := by omega
  have HX : Aside (strv xs ++ [.string y] = strv (xs ++ [y])) := by show _ = _; simp [strv]
  have hxl2 : (strv xs).length ≤ 1048576 := by rw [strv_length]; exact hxl
  have hrec' : Calls Tryz.prog 41 #[.int .i64 ((i : Int) - (k : Int)), .slice (some ⟨b, o + k, none⟩) (n - k) (c - k)] w fun e w' => ∃ v, e = .returned v ∧ Row w' w.heap.size 9 v (strv xs) ∧ Below w.heap.size w w' := by rw [← Int.natCast_sub hi]; exact hrec
  clear hrec hxl
  generalize hxs : strv xs = zs at *
  clear hxs
  go_enter Tryz.func41, Tryz.ntmps41
  go_wp2_with (first | (go_at_call 63; refine (hsp _).mono ?_; rintro e w0 ⟨rfl, hw0⟩; rw [hw0]; clear hw0) | (go_at_call 41; refine hrec'.mono ?_; rintro e w1 ⟨v, rfl, hrow, hb⟩) | (go_at_call 36; refine (hroot _ hb).mono ?_; rintro e w2 ⟨rfl, hb2⟩) | (at_builtin; refine wpList_app elem_string rfl Tryz.underlying32 (by rfl) (.tmp 36) (.tmp 41) (by rfl) w.heap.size _ zs (by rfl) ((hrow.below hb2 (Nat.le_refl _)).alloc _) _ 1 1 [.string y] (by rfl) rfl (Blk.new _ 9 _) ?h1 ?hl ?hb ?hbs (w0 := w) ((hb.trans (hb2.mono hb.size)).alloc (Nat.le_trans hb.size hb2.size) _) (Nat.le_refl _) ?_))
  case h1 => intro u hu; simp at hu; subst hu; rfl
  case hl => omega
  case hb => omega
  case hbs => have := hb.size; have := hb2.size; simp; omega
  intro v' w' hv' _ hb'
  rw [HX.out] at hv'
  go_wp2
  go_ret
  exact ⟨_, rfl, hv', hb'⟩

theorem gives_root (b o c : Nat) (l : List ByteArray) (w : World) (hc : l.length ≤ c) (hn : l.length ≤ 1048576) (hS : SA w b o l) (hz : ∀ s ∈ l, s.size ≤ 1048576) : Gives w 36 #[.slice (some ⟨b, o, none⟩) l.length c] (mth l) := fun wx hx =>
  rootRef_any l b o c wx hc (by omega) (hS.below hx) (fun s hs => by have := hz s hs; omega)

theorem inclusion_any : ∀ (N i : Nat) (l : List ByteArray) (b o c : Nat) (w : World), l.length ≤ N → N ≤ 1048576 → l.length ≤ c → i < l.length → SA w b o l → (∀ s ∈ l, s.size ≤ 1048576) →
    GivesRow w 41 #[.int .i64 (i : Int), .slice (some ⟨b, o, none⟩) l.length c] (incF N i l) := by
  intro N
  induction N with
  | zero => intro i l b o c w h1 _ _ h2; omega
  | succ N ih =>
    intro i l b o c w h1 hN hc hi hS hz
    simp only [incF]
    by_cases h2 : l.length < 2
    · rw [if_pos h2]
      exact inclusion_none i l.length c _ w h2
    · rw [if_neg h2]
      have h3 := spl_lt (n := l.length) (by omega)
      have h4 := spl_pos l.length
      have hlt : (l.take (spl l.length)).length = spl l.length := by rw [List.length_take]; omega
      have hld : (l.drop (spl l.length)).length = l.length - spl l.length := List.length_drop
      have g1 := gives_root b o c (l.take (spl l.length)) w (by omega) (by omega) (hS.take _) (fun s hs => hz s (List.mem_of_mem_take hs))
      have g2 := gives_root b (o + spl l.length) (c - spl l.length) (l.drop (spl l.length)) w (by omega) (by omega) (hS.drop _) (fun s hs => hz s (List.mem_of_mem_drop hs))
      rw [hlt] at g1
      rw [hld] at g2
      by_cases h5 : i < spl l.length
      · rw [if_pos h5]
        have q := ih i (l.take (spl l.length)) b o c w (by omega) (by omega) (by omega) (by omega) (hS.take _) (fun s hs => hz s (List.mem_of_mem_take hs))
        rw [hlt] at q
        exact inclusion_left i b o c l.length _ _ w (by omega) (by omega) hc h5 (Nat.le_trans (incF_length N _ _) (by omega)) q g2
      · rw [if_neg h5]
        have q := ih (i - spl l.length) (l.drop (spl l.length)) b (o + spl l.length) (c - spl l.length) w (by omega) (by omega) (by omega) (by omega) (hS.drop _) (fun s hs => hz s (List.mem_of_mem_drop hs))
        rw [hld] at q
        exact inclusion_right i b o c l.length _ _ w (by omega) (by omega) hc (by omega) hi (Nat.le_trans (incF_length N _ _) (by omega)) q g1
end Go.Proofs.YtlhohmlpcgbliaaGreatDoor
namespace Go.Proofs.YtlhohmlpcgbliaaGreatDoor
set_option maxRecDepth 100000
open Go.RowKit
attribute [local go_sem ↓] Go.wp_at_zero Go.wp_at_succ

set_option maxHeartbeats 400000 in
theorem consistency_all (n c : Nat) (p : Option Addr) (w : World) : GivesRow w 43 #[.int .i64 (n : Int), .slice p n c, .bool true] [] := by
  unfold GivesRow
  go_enter Tryz.func43, Tryz.ntmps43
  go_wp2
  go_ret
  exact ⟨_, rfl, World.ownsRow_nil _ _ _ _, Below.refl _ _⟩

set_option maxHeartbeats 400000 in
theorem consistency_one (n b o c : Nat) (y : ByteArray) (w : World) (hroot : Gives w 36 #[.slice (some ⟨b, o, none⟩) n c] y) : GivesRow w 43 #[.int .i64 (n : Int), .slice (some ⟨b, o, none⟩) n c, .bool false] [y] := by
  unfold GivesRow
  have hr := hroot w (Below.refl _ _)
  clear hroot
  go_enter Tryz.func43, Tryz.ntmps43
  go_wp2_with (go_at_call 36; refine hr.mono ?_; rintro e w2 ⟨rfl, hb2⟩)
  go_ret
  exact ⟨_, rfl, Row.lit' w2 w.heap.size 9 [.string y] 1 rfl hb2.size (by unfold maxLen; omega), hb2.alloc hb2.size _⟩

set_option maxRecDepth 100000 in
set_option maxHeartbeats 1000000 in
theorem consistency_left (i b o c n : Nat) (all : Bool) (xs : List ByteArray) (y : ByteArray) (w : World) (h2 : 2 ≤ n) (hn : n ≤ 1099511627776) (hc : n ≤ c) (hin : i ≠ n) (hi : i ≤ spl n) (hxl : xs.length ≤ 1048576)
  (hrec : GivesRow w 43 #[.int .i64 (i : Int), .slice (some ⟨b, o, none⟩) (spl n) c, .bool all] xs)
  (hroot : Gives w 36 #[.slice (some ⟨b, o + spl n, none⟩) (n - spl n) (c - spl n)] y) :
    GivesRow w 43 #[.int .i64 (i : Int), .slice (some ⟨b, o, none⟩) n c, .bool all] (xs ++ [y]) := by
  unfold GivesRow
  have hsp := fun wx => splitRef_any n wx h2 hn
  have hlt := spl_lt h2
  generalize spl n = k at *
  have hs1 := fun wx => slice_h wx b o n c k (by omega)
  have hs2 := fun wx => slice_l wx b o n c k hlt hc
  have hne := eqI i n hin
  have HX : Aside (strv xs ++ [.string y] = strv (xs ++ [y])) := by show _ = _; simp [strv]
  have hxl2 : (strv xs).length ≤ 1048576 := by rw [strv_length]; exact hxl
  have hrec' : Calls Tryz.prog 43 #[.int .i64 (i : Int), .slice (some ⟨b, o, none⟩) k c, .bool all] w fun e w' => ∃ v, e = .returned v ∧ Row w' w.heap.size 9 v (strv xs) ∧ Below w.heap.size w w' := hrec
  clear hrec hxl
  generalize hxs : strv xs = zs at *
  clear hxs
  go_enter Tryz.func43, Tryz.ntmps43
  go_wp2_with (first | (go_at_call 63; refine (hsp _).mono ?_; rintro e w0 ⟨rfl, hw0⟩; rw [hw0]; clear hw0) | (go_at_call 43; refine hrec'.mono ?_; rintro e w1 ⟨v, rfl, hrow, hb⟩) | (go_at_call 36; refine (hroot _ hb).mono ?_; rintro e w2 ⟨rfl, hb2⟩) | (at_builtin; refine wpList_app elem_string rfl Tryz.underlying32 (by rfl) (.tmp 30) (.tmp 35) (by rfl) w.heap.size _ zs (by rfl) ((hrow.below hb2 (Nat.le_refl _)).alloc _) _ 1 1 [.string y] (by rfl) rfl (Blk.new _ 9 _) ?h1 ?hl ?hb ?hbs (w0 := w) ((hb.trans (hb2.mono hb.size)).alloc (Nat.le_trans hb.size hb2.size) _) (Nat.le_refl _) ?_))
  case h1 => intro u hu; simp at hu; subst hu; rfl
  case hl => omega
  case hb => omega
  case hbs => have := hb.size; have := hb2.size; simp; omega
  intro v' w' hv' _ hb'
  rw [HX.out] at hv'
  go_wp2
  go_ret
  exact ⟨_, rfl, hv', hb'⟩
set_option maxRecDepth 100000 in
set_option maxHeartbeats 1000000 in
theorem consistency_right (i b o c n : Nat) (all : Bool) (xs : List ByteArray) (y : ByteArray) (w : World) (h2 : 2 ≤ n) (hn : n ≤ 1099511627776) (hc : n ≤ c) (hi : spl n < i) (hin : i < n) (hxl : xs.length ≤ 1048576)
  (hrec : GivesRow w 43 #[.int .i64 ((i - spl n : Nat) : Int), .slice (some ⟨b, o + spl n, none⟩) (n - spl n) (c - spl n), .bool false] xs)
  (hroot : Gives w 36 #[.slice (some ⟨b, o, none⟩) (spl n) c] y) :
    GivesRow w 43 #[.int .i64 (i : Int), .slice (some ⟨b, o, none⟩) n c, .bool all] (xs ++ [y]) := by
  unfold GivesRow
  have hsp := fun wx => splitRef_any n wx h2 hn
  have hlt := spl_lt h2
  generalize spl n = k at *
  have hs1 := fun wx => slice_h wx b o n c k (by omega)
  have hs2 := fun wx => slice_l wx b o n c k hlt hc
  have hne := eqI i n (by omega)
  have HX : Aside (strv xs ++ [.string y] = strv (xs ++ [y])) := by show _ = _; simp [strv]
  have hxl2 : (strv xs).length ≤ 1048576 := by rw [strv_length]; exact hxl
  have hrec' : Calls Tryz.prog 43 #[.int .i64 ((i : Int) - (k : Int)), .slice (some ⟨b, o + k, none⟩) (n - k) (c - k), .bool false] w fun e w' => ∃ v, e = .returned v ∧ Row w' w.heap.size 9 v (strv xs) ∧ Below w.heap.size w w' := by rw [← Int.natCast_sub (Nat.le_of_lt hi)]; exact hrec
  clear hrec hxl
  generalize hxs : strv xs = zs at *
  clear hxs
  go_enter Tryz.func43, Tryz.ntmps43
  go_wp2_with (first | (go_at_call 63; refine (hsp _).mono ?_; rintro e w0 ⟨rfl, hw0⟩; rw [hw0]; clear hw0) | (go_at_call 43; refine hrec'.mono ?_; rintro e w1 ⟨v, rfl, hrow, hb⟩) | (go_at_call 36; refine (hroot _ hb).mono ?_; rintro e w2 ⟨rfl, hb2⟩) | (at_builtin; refine wpList_app elem_string rfl Tryz.underlying32 (by rfl) (.tmp 44) (.tmp 49) (by rfl) w.heap.size _ zs (by rfl) ((hrow.below hb2 (Nat.le_refl _)).alloc _) _ 1 1 [.string y] (by rfl) rfl (Blk.new _ 9 _) ?h1 ?hl ?hb ?hbs (w0 := w) ((hb.trans (hb2.mono hb.size)).alloc (Nat.le_trans hb.size hb2.size) _) (Nat.le_refl _) ?_))
  case h1 => intro u hu; simp at hu; subst hu; rfl
  case hl => omega
  case hb => omega
  case hbs => have := hb.size; have := hb2.size; simp; omega
  intro v' w' hv' _ hb'
  rw [HX.out] at hv'
  go_wp2
  go_ret
  exact ⟨_, rfl, hv', hb'⟩

theorem consistency_any : ∀ (N m : Nat) (l : List ByteArray) (all : Bool) (b o c : Nat) (w : World), l.length ≤ N → N ≤ 1048576 → l.length ≤ c → 1 ≤ m → m ≤ l.length → SA w b o l → (∀ s ∈ l, s.size ≤ 1048576) →
    GivesRow w 43 #[.int .i64 (m : Int), .slice (some ⟨b, o, none⟩) l.length c, .bool all] (conF N m l all) := by
  intro N
  induction N with
  | zero => intro m l all b o c w h1 _ _ h2 h3; omega
  | succ N ih =>
    intro m l all b o c w h1 hN hc hm1 hm hS hz
    simp only [conF]
    by_cases h2 : m = l.length
    · rw [if_pos h2, h2]
      cases all with
      | true => exact consistency_all l.length c _ w
      | false => exact consistency_one l.length b o c _ w (gives_root b o c l w hc (by omega) hS hz)
    · rw [if_neg h2]
      have h3 := spl_lt (n := l.length) (by omega)
      have h4 := spl_pos l.length
      have hlt : (l.take (spl l.length)).length = spl l.length := by rw [List.length_take]; omega
      have hld : (l.drop (spl l.length)).length = l.length - spl l.length := List.length_drop
      have g1 := gives_root b o c (l.take (spl l.length)) w (by omega) (by omega) (hS.take _) (fun s hs => hz s (List.mem_of_mem_take hs))
      have g2 := gives_root b (o + spl l.length) (c - spl l.length) (l.drop (spl l.length)) w (by omega) (by omega) (hS.drop _) (fun s hs => hz s (List.mem_of_mem_drop hs))
      rw [hlt] at g1
      rw [hld] at g2
      by_cases h5 : m ≤ spl l.length
      · rw [if_pos h5]
        have q := ih m (l.take (spl l.length)) all b o c w (by omega) (by omega) (by omega) hm1 (by omega) (hS.take _) (fun s hs => hz s (List.mem_of_mem_take hs))
        rw [hlt] at q
        exact consistency_left m b o c l.length all _ _ w (by omega) (by omega) hc h2 h5 (Nat.le_trans (conF_length N _ _ _) (by omega)) q g2
      · rw [if_neg h5]
        have q := ih (m - spl l.length) (l.drop (spl l.length)) false b (o + spl l.length) (c - spl l.length) w (by omega) (by omega) (by omega) (by omega) (by omega) (hS.drop _) (fun s hs => hz s (List.mem_of_mem_drop hs))
        rw [hld] at q
        exact consistency_right m b o c l.length all _ _ w (by omega) (by omega) hc (by omega) (by omega) (Nat.le_trans (conF_length N _ _ _) (by omega)) q g1
end Go.Proofs.YtlhohmlpcgbliaaGreatDoor
