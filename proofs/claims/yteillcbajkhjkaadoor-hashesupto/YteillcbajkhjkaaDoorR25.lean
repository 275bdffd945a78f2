import Derived.Test.YteillcbajkhjkaaDoorR24
namespace Go.Proofs.YteillcbajkhjkaaDoor
open Go.RowKit
attribute [local go_sem ↓] Go.wp_at_zero Go.wp_at_succ

/-- Texts as cells. -/
def strv (ss : List ByteArray) : List Value := ss.map .string
@[simp] theorem strv_length (ss : List ByteArray) : (strv ss).length = ss.length := by simp [strv]
theorem strv_append (a b : List ByteArray) : strv (a ++ b) = strv a ++ strv b := by simp [strv]

theorem Strs.nil_or {w : World} {v : Value} {ss : List ByteArray} (h : Strs w v ss) (h0 : 0 < ss.length) : ∃ b o c, v = .slice (some ⟨b, o, none⟩) ss.length c ∧ SA w b o ss := by
  obtain ⟨a, c, rfl, h2⟩ := h
  obtain ⟨g, off, rfl, _⟩ := h2 0 _ (List.getElem?_eq_getElem h0)
  refine ⟨g, off, c, rfl, fun i s hs => ?_⟩
  obtain ⟨g', off', e, hc⟩ := h2 i s hs
  cases e
  exact hc

theorem SA.of_row {w : World} {base g n cap : Nat} {ss : List ByteArray} (h : Row w base 9 (.slice (some ⟨g, 0, none⟩) n cap) (strv ss)) (h0 : 0 < ss.length) : SA w g 0 ss := by
  obtain ⟨g', cap', hv, _, _, _, hc, _⟩ := h.form (by rw [strv_length]; exact h0)
  injection hv with e1
  injection e1 with e1
  injection e1 with e1
  subst e1
  intro i s hs
  have hi : i < ss.length := (List.getElem?_eq_some_iff.1 hs).1
  rw [Nat.zero_add, hc i (by rw [strv_length]; exact hi)]
  simp [strv, hs]

set_option maxRecDepth 100000 in
set_option maxHeartbeats 1000000 in
theorem leaves_any (v : Value) (ss : List ByteArray) (w : World) (hS : Strs w v ss) (hn : ss.length < 100000000000) (hz : ∀ s ∈ ss, s.size < 40000000000) :
    Calls Tryd.prog 12 #[v] w fun e w' => ∃ v', e = .returned v' ∧ Row w' w.heap.size 9 v' (strv (ss.map leafS)) ∧ Below w.heap.size w w' := by
  obtain ⟨a, c, rfl, hcells⟩ := hS
  have HC : Hid (∀ (i : Nat) s, ss[i]? = some s → ∃ g off, a = some ⟨g, off, none⟩ ∧ w.cell? ⟨g, off + i, none⟩ = some (.string s)) := hcells
  clear hcells
  go_enter Tryd.func12, Tryd.ntmps12
  try go_wp2
  go_loopw [3, 4] (fun v i wr => ∃ k : Nat, k ≤ ss.length ∧ i = .int .i64 k ∧ Row wr w.heap.size 9 v (strv ((ss.take k).map leafS)) ∧ Below w.heap.size w wr) (fun _ i _ => ss.length - (intOf i).toNat)
  case atStart => exact ⟨0, by omega, rfl, World.ownsRow_nil _ _ _ _, Below.refl _ _⟩
  case round =>
    obtain ⟨k, hk, rfl, hrow, hb⟩ := hrel
    by_cases h8 : k < ss.length
    · obtain ⟨s, hs⟩ : ∃ s, ss[k]? = some s := ⟨_, List.getElem?_eq_getElem h8⟩
      obtain ⟨g, off, rfl, hcell⟩ := HC.out k s hs
      have hcell' : wr.cell? ⟨g, off + k, none⟩ = some (.string s) := by
        rw [hb.cell (World.block_lt_of_cell? _ _ hcell)]; exact hcell
      have hsz : s.size < 40000000000 := hz s (List.mem_of_getElem? hs)
      have hlf := leafRef_any s wr (by omega)
      have HN : Hid (strv ((ss.take k).map leafS) ++ [.string (leafS s)] = strv ((ss.take (k + 1)).map leafS)) := by
        show _ = _
        have hgk : ss[k] = s := (List.getElem?_eq_some_iff.1 hs).2
        rw [List.take_succ_eq_append_getElem h8, List.map_append, strv_append, hgk]; rfl
      have hxl : (strv ((ss.take k).map leafS)).length = k := by rw [strv_length, List.length_map, List.length_take]; omega
      have hsz0 := hb.size
      clear hcell
      generalize hxs : strv ((ss.take k).map leafS) = xs at *
      clear hxs hs
      go_wp2_with (first | (go_at_call 13; refine hlf.mono ?_; rintro e w1 ⟨rfl, hb1⟩) | (at_builtin; refine wpList_app elem_string rfl Tryd.underlying22 (by rfl) (.tmp 17) (.tmp 19) (by rfl) w.heap.size _ xs (by rfl) ((hrow.below hb1 (Nat.le_refl _)).alloc _) _ 1 1 [.string (leafS s)] (by rfl) rfl (Blk.new _ 9 _) ?h1 ?hl ?hb ?hbs (w0 := w) ((hb.trans (hb1.mono hsz0)).alloc (Nat.le_trans hsz0 hb1.size) _) (Nat.le_refl _) ?_))
      case h1 => intro u hu; simp at hu; subst hu; rfl
      case hl => omega
      case hb => omega
      case hbs => have := hb1.size; simp; omega
      intro v' w' hv' _ hb'
      rw [HN.out] at hv'
      go_wp2
      go_roundw
      case rel => exact ⟨k + 1, by omega, by go_num, hv', hb'⟩
      case measure => simp [intOf]; omega
    · have hk8 : k = ss.length := by omega
      subst hk8
      rw [List.take_length] at hrow
      go_wp2
      go_ret
      exact ⟨_, rfl, hrow, hb⟩
end Go.Proofs.YteillcbajkhjkaaDoor
