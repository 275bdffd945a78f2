import Derived.Test.YteillcbajkhjkaaDoorR25
import Derived.Laws.MakeOwn
import Derived.Laws.IdiomCopy
namespace Go.Proofs.YteillcbajkhjkaaDoor
open Go.RowKit
attribute [local go_sem ↓] Go.wp_at_zero Go.wp_at_succ

/-- A list of texts as it is handed in. -/
def ArgS (w : World) (v : Value) (ss : List ByteArray) : Prop :=
  (v = .slice none 0 0 ∧ ss = []) ∨ ∃ a c, v = .slice (some a) ss.length c ∧ ∀ (i : Nat) s, ss[i]? = some s → w.cell? (a.add i) = some (.string s)
theorem ArgS.strs {w : World} {v : Value} {ss : List ByteArray} (h : ArgS w v ss) : Strs w v ss := by
  rcases h with ⟨rfl, rfl⟩ | ⟨a, c, rfl, h⟩
  · exact ⟨none, 0, rfl, fun i s hs => by simp at hs⟩
  · refine ⟨some a, c, rfl, fun i s hs => ?_⟩
    have hi : i < ss.length := (List.getElem?_eq_some_iff.1 hs).1
    have h0 := h 0 _ (List.getElem?_eq_getElem (by omega))
    obtain ⟨b, o, sp⟩ := a
    have hsp : sp = none := by
      simp only [Addr.add, if_true, World.cell?] at h0
      split at h0
      · cases sp with
        | none => rfl
        | some x => simp at h0
      · cases h0
    subst hsp
    refine ⟨b, o, rfl, ?_⟩
    have := h i s hs
    rw [Addr.add_mid] at this
    exact this

theorem made_str (m : Nat) : madeCells (Value.string ⟨#[]⟩).cells m = (strv (List.replicate m ⟨#[]⟩)).toArray := by
  apply Array.ext
  · simp [madeCells]
  · intro i h1 h2
    simp [madeCells, strv, Value.cells, Nat.mod_one]
theorem makeStr (w : World) (m : Nat) (hm : m ≤ 1099511627776) : (Instr.makeSlice 22 (.int .i64 (m : Int)) (.int .i64 (m : Int))).run Tryd.prog w = .ok (.slice (some ⟨w.heap.size, 0, none⟩) m m) (w.alloc (.cells (strv (List.replicate m ⟨#[]⟩)).toArray 9)) := by
  obtain ⟨i, hi, hiz, his, hib⟩ := elem_string
  rw [run_make (P := Tryd.prog) w 22 9 i _ Tryd.underlying22 hi hiz .i64 .i64 (m : Int) (m : Int) (by omega) (Int.le_refl _) (by rw [hib]; omega) (by omega)]
  rw [his, Int.toNat_natCast, Nat.mul_one, made_str]

theorem copyStr (w : World) (g m n c : Nat) (xs ss : List ByteArray) (a : Addr) (ty : TypeId) (hB : Blk w g 9 (strv xs)) (hm : xs.length = m) (hn : ss.length = n) (hnm : n ≤ m) (hs : ∀ (i : Nat) s, ss[i]? = some s → w.cell? (a.add i) = some (.string s)) :
    (Builtin.copy_ #[22, 22] ty #[.slice (some ⟨g, 0, none⟩) m m, .slice (some a) n c]).run Tryd.prog w = .ok (goInt n) (w.setCells g 0 (strv ss)) := by
  have := run_copy_cells (P := Tryd.prog) w 22 22 ty 9 g 0 m m a n c (strv ss) Tryd.underlying22 (by kernel_rfl) (by rw [strv_length, hn]; exact (Nat.min_eq_left hnm).symm) ?_ ?_ ?_ ?_
  · rw [this, strv_length, hn]
  · intro j v hv
    simp only [strv, List.getElem?_map, Option.map_eq_some_iff] at hv
    obtain ⟨s, h1, rfl⟩ := hv
    exact hs j s h1
  · intro j hj
    rw [hB.cell, List.getElem?_eq_getElem (by rw [strv_length] at *; omega)]
    rfl
  · intro j _
    exact hB.frozen _
  · intro v hv
    obtain ⟨s, _, rfl⟩ := List.mem_map.1 hv
    rfl

theorem eqnil_none (w : World) : (binOp .eql 22 (.slice none 0 0) (.slice none 0 0)).run Tryd.prog w = .ok (.bool true) w := by kernel_rfl
theorem eqnil_some (w : World) (a : Addr) (n c : Nat) : (binOp .eql 22 (.slice (some a) n c) (.slice none 0 0)).run Tryd.prog w = .ok (.bool false) w := by kernel_rfl
def beyond : ByteArray := ⟨#[98, 101, 121, 111, 110, 100]⟩
/-- What roomy's row holds when j places behind the list are filled. -/
def roomL (ss : List ByteArray) (j : Nat) : List ByteArray := ss ++ (List.replicate j beyond ++ List.replicate (8 - j) ⟨#[]⟩)
theorem roomL_length (ss : List ByteArray) (j : Nat) (h : j ≤ 8) : (roomL ss j).length = ss.length + 8 := by simp [roomL]; omega
theorem roomL_set (ss : List ByteArray) (j : Nat) (h : j < 8) : (strv (roomL ss j)).set (ss.length + j) (.string beyond) = strv (roomL ss (j + 1)) := by
  have h1 : 8 - j = (8 - (j + 1)) + 1 := by omega
  simp only [roomL, strv, List.map_append, List.map_replicate]
  rw [List.set_append_right _ _ (by simp), List.set_append_right _ _ (by simp), h1, List.replicate_succ]
  simp [List.replicate_succ', show 8 - (j + 1) = 7 - j by omega]
theorem room_start (ss : List ByteArray) : setL (strv (List.replicate (ss.length + 8) ⟨#[]⟩)) 0 (strv ss) = strv (roomL ss 0) := by
  rw [setL_eq _ _ _ (by simp)]
  simp [strv, roomL]

set_option maxRecDepth 100000 in
set_option maxHeartbeats 1000000 in
theorem roomy_nil (w : World) : Calls Tryd.prog 9 #[.slice none 0 0] w fun e w' => e = .returned (.slice none 0 0) ∧ w' = w := by
  have hq := eqnil_none
  go_enter Tryd.func9, Tryd.ntmps9
  go_wp2
  go_ret
  exact ⟨rfl, rfl⟩

set_option maxRecDepth 100000 in
set_option maxHeartbeats 1000000 in
theorem roomy_some (a : Addr) (c : Nat) (ss : List ByteArray) (w : World) (hn : ss.length ≤ 100000000000) (hs : ∀ (i : Nat) s, ss[i]? = some s → w.cell? (a.add i) = some (.string s)) :
    Calls Tryd.prog 9 #[.slice (some a) ss.length c] w fun e w' => e = .returned (.slice (some ⟨w.heap.size, 0, none⟩) ss.length (ss.length + 8)) ∧ Blk w' w.heap.size 9 (strv (roomL ss 8)) ∧ Below w.heap.size w w' := by
  have hq := fun wx => eqnil_some wx a ss.length c
  have e1 : Hid (((ss.length : Int) + 8) = ((ss.length + 8 : Nat) : Int)) := by show _ = _; omega
  have hmk : ∀ wx : World, (Instr.makeSlice 22 (.int .i64 ((ss.length : Int) + 8)) (.int .i64 ((ss.length : Int) + 8))).run Tryd.prog wx = .ok (.slice (some ⟨wx.heap.size, 0, none⟩) (ss.length + 8) (ss.length + 8)) (wx.alloc (.cells (strv (List.replicate (ss.length + 8) ⟨#[]⟩)).toArray 9)) := fun wx => by
    rw [e1.out]; exact makeStr wx (ss.length + 8) (by omega)
  have hB0 := Blk.new w 9 (strv (List.replicate (ss.length + 8) ⟨#[]⟩))
  have hb0 : Below w.heap.size w (w.alloc (.cells (strv (List.replicate (ss.length + 8) ⟨#[]⟩)).toArray 9)) := (Below.refl _ _).alloc (Nat.le_refl _) _
  have hcp := fun ty => copyStr _ w.heap.size (ss.length + 8) ss.length c _ ss a ty hB0 (by simp) rfl (by omega) (fun i s h => by
    have h1 := hs i s h
    rw [hb0.cell (World.block_lt_of_cell? _ _ h1)]
    exact h1)
  have hB1 := hB0.setCells 0 (strv ss)
  have hb1 := Below.setCells hb0 w.heap.size 0 (Nat.le_refl _) (strv ss)
  rw [room_start] at hB1
  generalize hw1 : ((w.alloc (.cells (strv (List.replicate (ss.length + 8) ⟨#[]⟩)).toArray 9)).setCells w.heap.size 0 (strv ss)) = w1 at *
  clear hB0 hb0 hw1 hs
  go_enter Tryd.func9, Tryd.ntmps9
  go_wp2_with fail
  go_loopw [5] (fun i wr => ∃ j : Nat, j ≤ 8 ∧ i = .int .i64 (ss.length + j : Nat) ∧ Blk wr w.heap.size 9 (strv (roomL ss j)) ∧ Below w.heap.size w wr) (fun i _ => ss.length + 8 - (intOf i).toNat)
  case atStart => exact ⟨0, by omega, rfl, hB1, hb1⟩
  case round =>
    obtain ⟨j, hj, rfl, hB, hb⟩ := hrel
    clear hB1 hb1 hmk hcp
    by_cases h8 : j < 8
    · have hc := hB.cell (ss.length + j)
      rw [List.getElem?_eq_getElem (by rw [strv_length, roomL_length _ _ hj]; omega)] at hc
      have hf := hB.frozen (ss.length + j)
      have HB := (hB.set (ss.length + j) (.string beyond)).eq (roomL_set ss j h8)
      have Hb : Below w.heap.size w (wr.setCell ⟨w.heap.size, ss.length + j, none⟩ (.string beyond)) := hb.setCell (Nat.le_refl _) _
      go_wp2
      exact ⟨⟨j + 1, h8, by go_num, HB, Hb⟩, by simp [intOf]; omega⟩
    · have hk8 : j = 8 := by omega
      subst hk8
      go_wp2
      go_ret
      exact ⟨rfl, hB, hb⟩
end Go.Proofs.YteillcbajkhjkaaDoor
