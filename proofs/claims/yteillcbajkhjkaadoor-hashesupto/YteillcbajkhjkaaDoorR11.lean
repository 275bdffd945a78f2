import Derived.Test.YteillcbajkhjkaaDoorR10
import Derived.Lib.ConvBytes
namespace Go.Proofs.YteillcbajkhjkaaDoor
open Go.RowKit
attribute [local go_sem ↓] Go.wp_at_zero Go.wp_at_succ

/-- A slice of bytes of the call's own; its row may bear the mark of a conversion behind its end. -/
def RowM (w : World) (base : Nat) (v : Value) (l : List Nat) : Prop :=
  ∃ g cap cur fr, v = .slice (some ⟨g, 0, none⟩) l.length cap ∧ base ≤ g ∧ w.heap[g]? = some (.cells cur 5 fr) ∧ (fr = (0, 0) ∨ cur.size ≤ fr.1) ∧ l.length ≤ cap ∧ cap = cur.size ∧ cap ≤ maxLen ∧ cur.toList.take l.length = u8s l

theorem RowM.alloc {w : World} {base : Nat} {v : Value} {l : List Nat} (h : RowM w base v l) (o : Obj) : RowM (w.alloc o) base v l := by
  obtain ⟨g, cap, cur, fr, h1, h2, h3, r⟩ := h
  exact ⟨g, cap, cur, fr, h1, h2, by rw [Below.heap_alloc _ _ _ (Array.getElem?_eq_some_iff.1 h3).1]; exact h3, r⟩

/-- '[]byte(s)'. -/
theorem rowM_of_string (w : World) (base : Nat) (s : ByteArray) (hb : base ≤ w.heap.size) (hs : s.size ≤ 1000000000000) :
    RowM (Lib.bytesWorld w 5 s) base (.slice (some ⟨w.heap.size, 0, none⟩) s.size (grownCap w s.size 0 5)) (bts s) := by
  have hge := grownCap_ge w s.size 0 5
  have hcm : grownCap w s.size 0 5 ≤ maxLen := grownCap_le_maxLen w s.size 0 5 (by unfold maxLen; omega)
  have hsz : (Lib.bytesCells w 5 s).size = grownCap w s.size 0 5 := by
    simp [Lib.bytesCells]
    have : s.data.size = s.size := rfl
    omega
  refine ⟨w.heap.size, grownCap w s.size 0 5, Lib.bytesCells w 5 s, ((Lib.bytesCells w 5 s).size, (Lib.bytesCells w 5 s).size + 1), ?_, hb, Lib.bytesWorld_at_new _ _ _, Or.inr (Nat.le_refl _), ?_, hsz.symm, hcm, ?_⟩
  · rw [bts_length]
  · rw [bts_length]; exact hge
  · rw [bts_length]
    unfold Lib.bytesCells
    rw [Array.toList_append, List.take_left' (by simp)]
    simp [u8s, bts]

/-- An append of one byte. -/
theorem run_app_byte (w : World) (base : Nat) (v : Value) (l : List Nat) (hown : RowM w base v l) (x g0 c : Nat) (ty : TypeId) (hg0 : Blk w g0 5 [.int .u8 (x : Int)]) (hlen : l.length < 1000000000000) (hbase : base ≤ w.heap.size) :
    ∃ v' w', (Builtin.append_ #[52, 52] ty #[v, .slice (some ⟨g0, 0, none⟩) 1 c]).run Tryd.prog w = .ok v' w' ∧ RowM w' base v' (l ++ [x]) ∧ (∀ B w0, Below B w0 w → B ≤ base → Below B w0 w') := by
  obtain ⟨i, hi, hiz, his, hib⟩ := elem_u8
  obtain ⟨g, cap, cur, fr, rfl, hb, hh, hfr, hlc, hcs, hcm, htk⟩ := hown
  have hnw : ∀ j u, [Value.int .u8 (x : Int)][j]? = some u → w.cell? ((⟨g0, 0, none⟩ : Addr).add j) = some u := by
    intro j u hu
    rw [Addr.add_mid, Nat.zero_add, hg0.cell]
    exact hu
  have ht := Tryd.underlying52
  by_cases hroom : l.length + 1 ≤ cap
  · have hcell : (w.cell? ⟨g, l.length, none⟩).isSome = true := by
      simp [World.cell?, hh]
      omega
    have hfz : w.frozen? ⟨g, l.length, none⟩ = false := by
      simp only [World.frozen?, hh]
      rcases hfr with rfl | hfr
      · simp
      · obtain ⟨lo, hi⟩ := fr
        simp at hfr ⊢
        omega
    have hst := run_storeCells_cells (P := Tryd.prog) g l.length [Value.int .u8 (x : Int)] 0 w (by simpa using hcell) (by simpa using hfz) (by simp [Value.oneCell'])
    have hf := run_firstCells_some (P := Tryd.prog) w i.size 1 ⟨g0, 0, none⟩ 1 c [Value.int .u8 (x : Int)] (by rw [his]; rfl) hnw
    rw [his] at hf
    rw [Nat.add_zero] at hst
    refine ⟨.slice (some ⟨g, 0, none⟩) (l.length + 1) cap, w.setCells g l.length [.int .u8 (x : Int)], ?_, ?_, ?_⟩
    · simp [Builtin.append_, run_underlying ht, sizeOf, typeInfo, hi, his, Builtin.lenOf, hroom, hf, Addr.add_lit, hst]
    · refine ⟨g, cap, cur.setIfInBounds l.length (.int .u8 (x : Int)), fr, by simp, hb, ?_, ?_, by simpa using hroom, by simpa using hcs, hcm, ?_⟩
      · simp [World.setCells, World.setCell, Array.getElem?_modify, hh]
      · simpa using hfr
      · rw [Array.toList_setIfInBounds, List.length_append, List.length_singleton, u8s_append]
        have hlt : l.length < cur.toList.length := by simp; omega
        rw [List.take_succ_eq_append_getElem (by simpa using hlt), List.take_set, List.set_eq_of_length_le (by simp; omega), htk]
        simp [u8s]
    · intro B w0 hB hBb
      exact hB.setCell (Nat.le_trans hBb hb) _
  · have holds : ∀ j u, (u8s l)[j]? = some u → w.cell? ((⟨g, 0, none⟩ : Addr).add j) = some u := by
      intro j u hu
      have hj : j < l.length := by simpa using (List.getElem?_eq_some_iff.1 hu).1
      rw [Addr.add_mid, Nat.zero_add]
      have hx : (u8s l)[j]? = cur.toList[j]? := by rw [← htk, List.getElem?_take_of_lt hj]
      simp [World.cell?, hh]
      rw [← hu, hx]
      simp
    have hr := run_append_grow (P := Tryd.prog) w 52 ty 5 i (.int .u8 0) ht hi hiz ⟨g, 0, none⟩ l.length cap (u8s l) (by rw [his]; simp) holds ⟨g0, 0, none⟩ 1 c [.int .u8 (x : Int)] (by rw [his]; rfl) hnw (by omega) (by omega) (growslice_fits (by omega) (by rw [hib]; omega))
    have hge := grownCap_ge w (l.length + 1) cap 5
    refine ⟨_, _, hr, ?_, ?_⟩
    · refine ⟨w.heap.size, grownCap w (l.length + 1) cap 5, _, (0, 0), by simp, hbase, heap_alloc_new w.drew _, Or.inl rfl, by simpa using hge, ?_, grownCap_le_maxLen w _ _ _ (by unfold maxLen; omega), ?_⟩
      · simp [size_zeroCells, Value.cells]
        omega
      · simp only [Array.toList_append, List.length_append, List.length_singleton, u8s_append]
        rw [List.take_left' (by simp)]
        simp [u8s]
    · intro B w0 hB hBb
      exact (hB.drew).alloc (Nat.le_trans hBb hbase) _
end Go.Proofs.YteillcbajkhjkaaDoor
