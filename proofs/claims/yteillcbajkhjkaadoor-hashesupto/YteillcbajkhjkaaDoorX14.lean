import Derived.Test.YteillcbajkhjkaaDoorX13
namespace Go.Proofs.YteillcbajkhjkaaDoor
open Go.RowKit
attribute [local go_sem ↓] Go.wp_at_zero Go.wp_at_succ

/-- The hash of these bytes, as a text. -/
def shaS (l : List Nat) : ByteArray := strOf (Sha.sha l)
theorem shaS_of {h : ByteArray} {l : List Nat} (e : bts h = Sha.sha l) : h = shaS l := by rw [shaS, ← e, strOf_bts]
theorem out_ok {s : Sha.St} (h : s.ok) : Sha.bytesOk (Sha.out s) := outK_ok s h 8 (Nat.le_refl _)
theorem sha_ok (l : List Nat) : Sha.bytesOk (Sha.sha l) := out_ok (Sha.mixAll_ok _ _ _ Sha.init_ok)
theorem bts_shaS (l : List Nat) : bts (shaS l) = Sha.sha l := bts_strOf (sha_ok l)
theorem sha_length (l : List Nat) : (Sha.sha l).length = 32 := rfl
theorem shaS_size (l : List Nat) : (shaS l).size = 32 := by rw [← bts_length, bts_shaS, sha_length]
def leafS (s : ByteArray) : ByteArray := shaS (0 :: bts s)
def nodeS (a b : ByteArray) : ByteArray := shaS (1 :: (bts a ++ bts b))

theorem strs_two (w : World) (a b : ByteArray) : Strs (w.alloc (.cells #[.string a, .string b] 9)) (.slice (some ⟨w.heap.size, 0, none⟩) 2 2) [a, b] := by
  refine ⟨some ⟨w.heap.size, 0, none⟩, 2, rfl, fun i s hs => ⟨w.heap.size, 0, rfl, ?_⟩⟩
  rw [(Blk.new w 9 [.string a, .string b]).cell]
  match i with
  | 0 => simp at hs; simp [hs]
  | 1 => simp at hs; simp [hs]
  | k + 2 => simp at hs
theorem strs_three (w : World) (a b c : ByteArray) : Strs (w.alloc (.cells #[.string a, .string b, .string c] 9)) (.slice (some ⟨w.heap.size, 0, none⟩) 3 3) [a, b, c] := by
  refine ⟨some ⟨w.heap.size, 0, none⟩, 3, rfl, fun i s hs => ⟨w.heap.size, 0, rfl, ?_⟩⟩
  rw [(Blk.new w 9 [.string a, .string b, .string c]).cell]
  match i with
  | 0 => simp at hs; simp [hs]
  | 1 => simp at hs; simp [hs]
  | 2 => simp at hs; simp [hs]
  | k + 3 => simp at hs

set_option maxHeartbeats 400000 in
theorem treeLeaf_any (s : ByteArray) (w : World) (hs : s.size < 288230376151711744) (ht : Table w) (hg : 2 < w.heap.size) :
    Calls Tryd.prog 28 #[.string s] w fun e w' => e = .returned (.string (leafS s)) ∧ Below w.heap.size w w' := by
  have hb : Below w.heap.size w (w.alloc (.cells #[.string ⟨#[0]⟩, .string s] 9)) := (Below.refl _ _).alloc (Nat.le_refl _) _
  have ht2 : Table (w.alloc (.cells #[.string ⟨#[0]⟩, .string s] 9)) := table_kept (Kept.of_below (b := w.heap.size) hb) hg (by omega) ht
  go_enter Tryd.func28, Tryd.ntmps28
  go_wp2_with fail
  refine (of_any _ [⟨#[0]⟩, s] _ (strs_two w _ _) ?_ ?_ ht2 (Nat.lt_of_lt_of_le hg hb.size)).mono ?_
  · have h1 : (⟨#[0]⟩ : ByteArray).size = 1 := rfl
    simp [flat, h1]; omega
  · simp
  rintro e w' ⟨h, rfl, hh, hb'⟩
  have HE : h = leafS s := shaS_of (by rw [hh]; simp [flat]; rfl)
  subst HE
  go_wp2_with fail
  go_ret
  exact ⟨rfl, hb.trans (hb'.mono hb.size)⟩

set_option maxHeartbeats 400000 in
theorem treeNode_any (a b : ByteArray) (w : World) (ha : a.size < 144115188075855872) (hbs : b.size < 144115188075855872) (ht : Table w) (hg : 2 < w.heap.size) :
    Calls Tryd.prog 29 #[.string a, .string b] w fun e w' => e = .returned (.string (nodeS a b)) ∧ Below w.heap.size w w' := by
  have hb : Below w.heap.size w (w.alloc (.cells #[.string ⟨#[1]⟩, .string a, .string b] 9)) := (Below.refl _ _).alloc (Nat.le_refl _) _
  have ht2 : Table (w.alloc (.cells #[.string ⟨#[1]⟩, .string a, .string b] 9)) := table_kept (Kept.of_below (b := w.heap.size) hb) hg (by omega) ht
  go_enter Tryd.func29, Tryd.ntmps29
  go_wp2_with fail
  refine (of_any _ [⟨#[1]⟩, a, b] _ (strs_three w _ _ _) ?_ ?_ ht2 (Nat.lt_of_lt_of_le hg hb.size)).mono ?_
  · have h1 : (⟨#[1]⟩ : ByteArray).size = 1 := rfl
    simp [flat, h1]; omega
  · simp
  rintro e w' ⟨h, rfl, hh, hb'⟩
  have HE : h = nodeS a b := shaS_of (by rw [hh]; simp [flat]; rfl)
  subst HE
  go_wp2_with fail
  go_ret
  exact ⟨rfl, hb.trans (hb'.mono hb.size)⟩

set_option maxHeartbeats 400000 in
theorem groveLeaf_any (s : ByteArray) (w : World) (hs : s.size < 288230376151711744) (ht : Table w) (hg : 2 < w.heap.size) :
    Calls Tryd.prog 7 #[.string s] w fun e w' => e = .returned (.string (leafS s)) ∧ Below w.heap.size w w' := by
  go_enter Tryd.func7, Tryd.ntmps7
  go_wp2_with fail
  refine (treeLeaf_any s _ hs ht hg).mono ?_
  rintro e w' ⟨rfl, hb⟩
  go_wp2_with fail
  go_ret
  exact ⟨rfl, hb⟩
set_option maxHeartbeats 400000 in
theorem groveNode_any (a b : ByteArray) (w : World) (ha : a.size < 144115188075855872) (hbs : b.size < 144115188075855872) (ht : Table w) (hg : 2 < w.heap.size) :
    Calls Tryd.prog 8 #[.string a, .string b] w fun e w' => e = .returned (.string (nodeS a b)) ∧ Below w.heap.size w w' := by
  go_enter Tryd.func8, Tryd.ntmps8
  go_wp2_with fail
  refine (treeNode_any a b _ ha hbs ht hg).mono ?_
  rintro e w' ⟨rfl, hb⟩
  go_wp2_with fail
  go_ret
  exact ⟨rfl, hb⟩
end Go.Proofs.YteillcbajkhjkaaDoor
