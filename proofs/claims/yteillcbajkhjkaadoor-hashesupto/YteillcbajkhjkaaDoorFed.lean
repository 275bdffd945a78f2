import Derived.Test.YteillcbajkhjkaaDoorSha
namespace Go.Proofs.YteillcbajkhjkaaDoor.Sha

theorem mixAll_succ (k : Nat) (s : St) (l : List Nat) : mixAll (k + 1) s l = mix (mixAll k s l) ((l.drop (64 * k)).take 64) := by
  induction k generalizing s l with
  | zero => simp [mixAll]
  | succ k ih =>
    rw [mixAll, ih, mixAll, List.drop_drop]
    congr 3
    omega
theorem mixAll_append (k : Nat) (s : St) (l r : List Nat) (h : 64 * k ≤ l.length) : mixAll k s (l ++ r) = mixAll k s l := by
  induction k generalizing s l with
  | zero => rfl
  | succ k ih =>
    rw [mixAll, mixAll, List.take_append_of_le_length (by omega), List.drop_append_of_le_length (by omega), ih _ _ (by simp; omega)]
theorem mixAll_ok (k : Nat) (s : St) (l : List Nat) (h : s.ok) : (mixAll k s l).ok := by
  cases k with
  | zero => exact h
  | succ k => rw [mixAll_succ]; exact mix_ok _ _

/-- The block bl holds what of l has not been worked in. -/
def Held (l bl : List Nat) : Prop := bl.length = 64 ∧ bytesOk bl ∧ bl.take (l.length % 64) = l.drop (64 * (l.length / 64))
/-- The eight numbers behind l. -/
def behind (l : List Nat) : St := mixAll (l.length / 64) init l
theorem behind_ok (l : List Nat) : (behind l).ok := mixAll_ok _ _ _ init_ok

/-- A block into which r goes at f. -/
def put (bl : List Nat) (f : Nat) (r : List Nat) : List Nat := bl.take f ++ (r ++ bl.drop (f + r.length))

theorem bytesOk_append {a b : List Nat} (ha : bytesOk a) (hb : bytesOk b) : bytesOk (a ++ b) := by
  intro i
  rw [List.getD_eq_getElem?_getD, List.getElem?_append]
  split
  · simpa [List.getD_eq_getElem?_getD] using ha i
  · simpa [List.getD_eq_getElem?_getD] using hb (i - a.length)
theorem bytesOk_take {a : List Nat} (ha : bytesOk a) (n : Nat) : bytesOk (a.take n) := by
  intro i
  rw [List.getD_eq_getElem?_getD, List.getElem?_take]
  split
  · simpa [List.getD_eq_getElem?_getD] using ha i
  · simp
theorem bytesOk_drop {a : List Nat} (ha : bytesOk a) (n : Nat) : bytesOk (a.drop n) := by
  intro i
  rw [List.getD_eq_getElem?_getD, List.getElem?_drop]
  simpa [List.getD_eq_getElem?_getD] using ha (n + i)
theorem bytesOk_replicate (n x : Nat) (h : x < 256) : bytesOk (List.replicate n x) := by
  intro i
  rw [List.getD_eq_getElem?_getD, List.getElem?_replicate]
  split
  · simpa using h
  · simp
theorem put_length (bl r : List Nat) (f : Nat) (h : f + r.length ≤ bl.length) : (put bl f r).length = bl.length := by
  simp [put]; omega
theorem put_ok {bl r : List Nat} (hb : bytesOk bl) (hr : bytesOk r) (f : Nat) : bytesOk (put bl f r) :=
  bytesOk_append (bytesOk_take hb _) (bytesOk_append hr (bytesOk_drop hb _))

theorem put_take (bl r : List Nat) (f : Nat) (h : f + r.length ≤ bl.length) : (put bl f r).take (f + r.length) = bl.take f ++ r := by
  rw [put, ← List.append_assoc, List.take_left' (by simp; omega)]

theorem feed_part {l bl r : List Nat} (h : Held l bl) (hr : bytesOk r) (hlt : l.length % 64 + r.length < 64) :
    Held (l ++ r) (put bl (l.length % 64) r) ∧ behind (l ++ r) = behind l ∧ (l ++ r).length % 64 = l.length % 64 + r.length := by
  obtain ⟨h1, h2, h3⟩ := h
  have e1 : (l ++ r).length % 64 = l.length % 64 + r.length := by simp; omega
  have e2 : (l ++ r).length / 64 = l.length / 64 := by simp; omega
  refine ⟨⟨by rw [put_length _ _ _ (by omega), h1], put_ok h2 hr _, ?_⟩, ?_, e1⟩
  · rw [e1, e2, put_take _ _ _ (by omega), h3, List.drop_append_of_le_length (by omega)]
  · rw [behind, behind, e2, mixAll_append _ _ _ _ (by omega)]
theorem feed_full {l bl r : List Nat} (h : Held l bl) (hr : bytesOk r) (he : l.length % 64 + r.length = 64) :
    Held (l ++ r) (put bl (l.length % 64) r) ∧ behind (l ++ r) = mix (behind l) (put bl (l.length % 64) r) ∧ (l ++ r).length % 64 = 0 := by
  obtain ⟨h1, h2, h3⟩ := h
  have e1 : (l ++ r).length % 64 = 0 := by simp; omega
  have e2 : (l ++ r).length / 64 = l.length / 64 + 1 := by simp; omega
  have e3 : put bl (l.length % 64) r = l.drop (64 * (l.length / 64)) ++ r := by
    have e4 : bl.drop (l.length % 64 + r.length) = [] := List.drop_eq_nil_of_le (by omega)
    rw [put, h3, e4, List.append_nil]
  refine ⟨⟨by rw [put_length _ _ _ (by omega), h1], put_ok h2 hr _, ?_⟩, ?_, e1⟩
  · rw [e1, e2, List.take_zero, List.drop_eq_nil_of_le (by simp; omega)]
  · rw [behind, behind, e2, mixAll_succ, mixAll_append _ _ _ _ (by omega), List.drop_append_of_le_length (by omega), e3, List.take_of_length_le]
    simp
    omega
theorem held_nil : Held [] (List.replicate 64 0) := ⟨by simp, bytesOk_replicate _ _ (by omega), by simp⟩
theorem behind_nil : behind [] = init := rfl

end Go.Proofs.YteillcbajkhjkaaDoor.Sha
