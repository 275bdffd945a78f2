import Derived.WalkKit
import Derived.Deep.QuietTactic
import Derived.Deep.MidRow
namespace Go.Proofs.YtlhohmlpcgbliabGreatDoor
open Go.RowKit

/-- Block b holds these values; none of its cells is frozen. -/
def Blk (w : World) (b : Nat) (t : TypeId) (cs : List Value) : Prop := w.heap[b]? = some (.cells cs.toArray t (0, 0))

theorem Blk.lt {w : World} {b : Nat} {t : TypeId} {cs : List Value} (h : Blk w b t cs) : b < w.heap.size := by
  unfold Blk at h
  exact (Array.getElem?_eq_some_iff.1 h).1

theorem Blk.cell {w : World} {b : Nat} {t : TypeId} {cs : List Value} (h : Blk w b t cs) (i : Nat) : w.cell? ⟨b, i, none⟩ = cs[i]? := by
  unfold Blk at h
  simp [World.cell?, h]

theorem Blk.frozen {w : World} {b : Nat} {t : TypeId} {cs : List Value} (h : Blk w b t cs) (i : Nat) : w.frozen? ⟨b, i, none⟩ = false := by
  unfold Blk at h
  simp [World.frozen?, h]

theorem Blk.set {w : World} {b : Nat} {t : TypeId} {cs : List Value} (h : Blk w b t cs) (i : Nat) (v : Value) : Blk (w.setCell ⟨b, i, none⟩ v) b t (cs.set i v) := by
  unfold Blk at *
  simp [World.setCell, Array.getElem?_modify, h]

theorem Blk.set_other {w : World} {b : Nat} {t : TypeId} {cs : List Value} (h : Blk w b t cs) (a : Addr) (v : Value) (hne : b ≠ a.block) : Blk (w.setCell a v) b t cs := by
  unfold Blk at *
  rw [Below.heap_setCell _ _ _ _ hne]; exact h

theorem Blk.alloc {w : World} {b : Nat} {t : TypeId} {cs : List Value} (h : Blk w b t cs) (o : Obj) : Blk (w.alloc o) b t cs := by
  have := h.lt
  unfold Blk at *
  rw [Below.heap_alloc _ _ _ this]; exact h

theorem Blk.new (w : World) (t : TypeId) (cs : List Value) : Blk (w.alloc (.cells cs.toArray t)) w.heap.size t cs := by
  unfold Blk
  show (w.heap.push _)[w.heap.size]? = _
  simp

theorem Blk.below {w w' : World} {B b : Nat} {t : TypeId} {cs : List Value} (h : Blk w b t cs) (hb : Below B w w') (hlt : b < B) : Blk w' b t cs := by
  unfold Blk at *
  rw [hb.block b hlt]; exact h

theorem Blk.drewN {w : World} {b : Nat} {t : TypeId} {cs : List Value} (h : Blk w b t cs) (n : Nat) : Blk (w.drewN n) b t cs := h

theorem Blk.eq {w : World} {b : Nat} {t : TypeId} {cs ds : List Value} (h : Blk w b t cs) (e : cs = ds) : Blk w b t ds := e ▸ h

/-- All blocks below B but b are as they were. -/
structure Kept (B b : Nat) (w w' : World) : Prop where
  os : w'.os = w.os
  tape : w'.tape = w.tape
  output : w'.output = w.output
  size : w.heap.size ≤ w'.heap.size
  block : ∀ k, k < B → k ≠ b → w'.heap[k]? = w.heap[k]?

theorem Kept.refl (B b : Nat) (w : World) : Kept B b w w := ⟨rfl, rfl, rfl, Nat.le_refl _, fun _ _ _ => rfl⟩
theorem Kept.trans {B b : Nat} {w1 w2 w3 : World} (h : Kept B b w1 w2) (k : Kept B b w2 w3) : Kept B b w1 w3 :=
  ⟨k.os.trans h.os, k.tape.trans h.tape, k.output.trans h.output, Nat.le_trans h.size k.size, fun i hi hn => (k.block i hi hn).trans (h.block i hi hn)⟩
theorem Kept.mono {B B' b : Nat} {w w' : World} (h : Kept B b w w') (hB : B' ≤ B) : Kept B' b w w' := ⟨h.os, h.tape, h.output, h.size, fun k hk hn => h.block k (Nat.lt_of_lt_of_le hk hB) hn⟩
theorem Kept.of_below {B b : Nat} {w w' : World} (h : Below B w w') : Kept B b w w' := ⟨h.os, h.tape, h.output, h.size, fun k hk _ => h.block k hk⟩
theorem Kept.below {B b : Nat} {w w' : World} (h : Kept B b w w') {B' : Nat} (hB : B' ≤ B) (hb : B' ≤ b) : Below B' w w' := ⟨h.os, h.tape, h.output, h.size, fun k hk => h.block k (by omega) (by omega)⟩
theorem Kept.setCell {B b : Nat} {a w : World} (h : Kept B b a w) (p : Addr) (hp : p.block = b ∨ B ≤ p.block) (u : Value) : Kept B b a (w.setCell p u) :=
  h.trans ⟨rfl, rfl, rfl, by simp [World.setCell], fun k hk hn => Below.heap_setCell _ _ _ _ (by omega)⟩
theorem Kept.alloc {B b : Nat} {a w : World} (h : Kept B b a w) (hB : B ≤ w.heap.size) (o : Obj) : Kept B b a (w.alloc o) :=
  h.trans ⟨rfl, rfl, rfl, by simp, fun k hk _ => Below.heap_alloc _ _ _ (by omega)⟩
theorem Kept.drewN {B b : Nat} {a w : World} (h : Kept B b a w) (n : Nat) : Kept B b a (w.drewN n) := ⟨h.os, h.tape, h.output, h.size, h.block⟩
theorem Below.drewN' {B : Nat} {a w : World} (h : Below B a w) (n : Nat) : Below B a (w.drewN n) := ⟨h.os, h.tape, h.output, h.size, h.block⟩
theorem Blk.kept {w w' : World} {B b c : Nat} {t : TypeId} {cs : List Value} (h : Blk w b t cs) (hb : Kept B c w w') (hlt : b < B) (hn : b ≠ c) : Blk w' b t cs := by
  unfold Blk at *
  rw [hb.block b hlt hn]; exact h

/-- Many cells at once. -/
def setL (cs : List Value) (o : Nat) : List Value → List Value
  | [] => cs
  | v :: r => setL (cs.set o v) (o + 1) r
theorem setL_eq (cs : List Value) (o : Nat) (vs : List Value) (h : o + vs.length ≤ cs.length) : setL cs o vs = cs.take o ++ (vs ++ cs.drop (o + vs.length)) := by
  induction vs generalizing cs o with
  | nil => simp [setL]
  | cons v r ih =>
    simp only [List.length_cons] at h
    rw [setL, ih _ _ (by simp; omega), List.take_set, List.drop_set]
    have h1 : List.take (o + 1) cs = List.take o cs ++ [cs[o]] := List.take_succ_eq_append_getElem (by omega)
    have h2 : (List.take (o + 1) cs).set o v = List.take o cs ++ [v] := by
      rw [h1, List.set_append_right _ _ (by simp; omega)]
      simp [show min o cs.length = o by omega]
    rw [h2, if_pos (by omega)]
    simp [Nat.add_assoc, Nat.add_comm 1]
theorem Blk.setCells {w : World} {b : Nat} {t : TypeId} {cs : List Value} (h : Blk w b t cs) (o : Nat) (vs : List Value) : Blk (w.setCells b o vs) b t (setL cs o vs) := by
  induction vs generalizing w cs o with
  | nil => exact h
  | cons v r ih => exact ih (h.set o v) (o + 1)
theorem Blk.setCells_other {w : World} {b : Nat} {t : TypeId} {cs : List Value} (h : Blk w b t cs) (b' o : Nat) (vs : List Value) (hne : b ≠ b') : Blk (w.setCells b' o vs) b t cs := by
  induction vs generalizing w o with
  | nil => exact h
  | cons v r ih => exact ih (h.set_other _ _ hne) (o + 1)
theorem Below.setCells {B : Nat} {a w : World} (h : Below B a w) (b o : Nat) (hp : B ≤ b) (vs : List Value) : Below B a (w.setCells b o vs) := by
  induction vs generalizing w o with
  | nil => exact h
  | cons v r ih => exact ih (h.setCell hp v) (o + 1)
theorem Kept.setCells {B b : Nat} {a w : World} (h : Kept B b a w) (b' o : Nat) (hp : b' = b ∨ B ≤ b') (vs : List Value) : Kept B b a (w.setCells b' o vs) := by
  induction vs generalizing w o with
  | nil => exact h
  | cons v r ih => exact ih (h.setCell _ hp v) (o + 1)
theorem size_setCells (w : World) (b o : Nat) (vs : List Value) : (w.setCells b o vs).heap.size = w.heap.size := by
  induction vs generalizing w o with
  | nil => rfl
  | cons v r ih => rw [World.setCells, ih]; simp [World.setCell]
theorem Blk.range {w : World} {b : Nat} {t : TypeId} {cs : List Value} (h : Blk w b t cs) : w.rangeAt b 0 cs := fun j v hv => by
  rw [Nat.zero_add, h.cell]; exact hv
theorem Blk.there {w : World} {b : Nat} {t : TypeId} {cs : List Value} (h : Blk w b t cs) (o n : Nat) (hn : o + n ≤ cs.length) : w.there b o n := fun j hj =>
  ⟨by rw [h.cell, List.getElem?_eq_getElem (by omega)]; rfl, h.frozen _⟩
theorem cell_set_off (w : World) (b i j : Nat) (v : Value) (h : ¬ i = j) : (w.setCell ⟨b, i, none⟩ v).cell? ⟨b, j, none⟩ = w.cell? ⟨b, j, none⟩ :=
  World.cell?_setCell_other _ _ _ _ (by intro e; injection e; omega)

/-- Numbers as values. -/
def u32s (l : List Nat) : List Value := l.map fun (x : Nat) => Value.int .u32 (x : Int)
def u8s (l : List Nat) : List Value := l.map fun (x : Nat) => Value.int .u8 (x : Int)
def ints (l : List Nat) : List Value := l.map fun (x : Nat) => Value.int .i64 (x : Int)
theorem u32s_get (l : List Nat) (i : Nat) (h : i < l.length) : (u32s l)[i]? = some (.int .u32 ((l.getD i 0 : Nat) : Int)) := by
  simp [u32s, h]
theorem u8s_get (l : List Nat) (i : Nat) (h : i < l.length) : (u8s l)[i]? = some (.int .u8 ((l.getD i 0 : Nat) : Int)) := by
  simp [u8s, h]
theorem ints_get (l : List Nat) (i : Nat) (h : i < l.length) : (ints l)[i]? = some (.int .i64 ((l.getD i 0 : Nat) : Int)) := by
  simp [ints, h]
theorem u32s_set (l : List Nat) (i x : Nat) : (u32s l).set i (.int .u32 (x : Int)) = u32s (l.set i x) := by simp [u32s, List.map_set]
theorem u8s_set (l : List Nat) (i x : Nat) : (u8s l).set i (.int .u8 (x : Int)) = u8s (l.set i x) := by simp [u8s, List.map_set]
@[simp] theorem u32s_length (l : List Nat) : (u32s l).length = l.length := by simp [u32s]
@[simp] theorem u8s_length (l : List Nat) : (u8s l).length = l.length := by simp [u8s]
@[simp] theorem ints_length (l : List Nat) : (ints l).length = l.length := by simp [ints]

theorem u32s_one (l : List Nat) : ∀ v ∈ u32s l, v.oneCell' = true := by
  intro v hv
  obtain ⟨x, _, rfl⟩ := List.mem_map.1 hv
  rfl

/-- The cells of a message in the making. -/
def msg (s : List Nat) (bl : List Nat) (filled len : Int) : List Value := u32s s ++ (u8s bl ++ [.int .i64 filled, .int .u64 len])

theorem msg_word {s bl : List Nat} {fi le : Int} (hs : s.length = 8) (i : Nat) (hi : i < 8) : (msg s bl fi le)[i]? = some (.int .u32 ((s.getD i 0 : Nat) : Int)) := by
  unfold msg
  rw [List.getElem?_append_left (by simp; omega), u32s_get _ _ (by omega)]
theorem msg_byte {s bl : List Nat} {fi le : Int} (hs : s.length = 8) (i : Nat) (hi : i < bl.length) : (msg s bl fi le)[8 + i]? = some (.int .u8 ((bl.getD i 0 : Nat) : Int)) := by
  unfold msg
  rw [List.getElem?_append_right (by simp; omega), u32s_length, hs, show 8 + i - 8 = i by omega, List.getElem?_append_left (by simpa using hi), u8s_get _ _ hi]
theorem msg_filled {s bl : List Nat} {fi le : Int} (hs : s.length = 8) (hb : bl.length = 64) : (msg s bl fi le)[72]? = some (.int .i64 fi) := by
  unfold msg
  rw [List.getElem?_append_right (by simp; omega), List.getElem?_append_right (by simp; omega)]
  simp [hs, hb]
theorem msg_len {s bl : List Nat} {fi le : Int} (hs : s.length = 8) (hb : bl.length = 64) : (msg s bl fi le)[73]? = some (.int .u64 le) := by
  unfold msg
  rw [List.getElem?_append_right (by simp; omega), List.getElem?_append_right (by simp; omega)]
  simp [hs, hb]
theorem msg_set_word {s bl : List Nat} {fi le : Int} (hs : s.length = 8) (i x : Nat) (hi : i < 8) : (msg s bl fi le).set i (.int .u32 (x : Int)) = msg (s.set i x) bl fi le := by
  unfold msg
  rw [List.set_append_left _ _ (by simp; omega), u32s_set]
theorem msg_set_byte {s bl : List Nat} {fi le : Int} (hs : s.length = 8) (i x : Nat) (hi : i < bl.length) : (msg s bl fi le).set (8 + i) (.int .u8 (x : Int)) = msg s (bl.set i x) fi le := by
  unfold msg
  rw [List.set_append_right _ _ (by simp; omega), u32s_length, hs, show 8 + i - 8 = i by omega, List.set_append_left _ _ (by simpa using hi), u8s_set]
theorem msg_set_filled {s bl : List Nat} {fi le : Int} (hs : s.length = 8) (hb : bl.length = 64) (x : Int) : (msg s bl fi le).set 72 (.int .i64 x) = msg s bl x le := by
  unfold msg
  rw [List.set_append_right _ _ (by simp; omega), List.set_append_right _ _ (by simp; omega)]
  simp [hs, hb]
theorem msg_set_len {s bl : List Nat} {fi le : Int} (hs : s.length = 8) (hb : bl.length = 64) (x : Int) : (msg s bl fi le).set 73 (.int .u64 x) = msg s bl fi x := by
  unfold msg
  rw [List.set_append_right _ _ (by simp; omega), List.set_append_right _ _ (by simp; omega)]
  simp [hs, hb]
end Go.Proofs.YtlhohmlpcgbliabGreatDoor
