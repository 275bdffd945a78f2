import Derived.Test.YteillcbajkhjkaaDoorX11
namespace Go.Proofs.YteillcbajkhjkaaDoor
open Go.RowKit
attribute [local go_sem ↓] Go.wp_at_zero Go.wp_at_succ

/-- The slice v reads the texts ps. -/
def Strs (w : World) (v : Value) (ps : List ByteArray) : Prop :=
  ∃ a c, v = .slice a ps.length c ∧ ∀ i s, ps[i]? = some s → ∃ g off, a = some ⟨g, off, none⟩ ∧ w.cell? ⟨g, off + i, none⟩ = some (.string s)
theorem Strs.below {w w' : World} {v : Value} {ps : List ByteArray} (h : Strs w v ps) (hb : Below w.heap.size w w') : Strs w' v ps := by
  obtain ⟨a, c, h1, h2⟩ := h
  refine ⟨a, c, h1, fun i s hs => ?_⟩
  obtain ⟨g, off, h3, h4⟩ := h2 i s hs
  exact ⟨g, off, h3, by rw [hb.cell (World.block_lt_of_cell? _ _ h4)]; exact h4⟩

/-- The bytes of all of them, one behind the other. -/
def flat (ps : List ByteArray) : List Nat := ps.flatMap bts
theorem flat_take (ps : List ByteArray) (k : Nat) (s : ByteArray) (h : ps[k]? = some s) : flat (ps.take (k + 1)) = flat (ps.take k) ++ bts s := by
  have hk : k < ps.length := (List.getElem?_eq_some_iff.1 h).1
  unfold flat
  rw [List.take_succ_eq_append_getElem hk, List.flatMap_append]
  have : ps[k] = s := (List.getElem?_eq_some_iff.1 h).2
  simp [this]
theorem flat_length_le (ps : List ByteArray) (k : Nat) : (flat (ps.take k)).length ≤ (flat ps).length := by
  unfold flat
  conv => rhs; rw [← List.take_append_drop k ps, List.flatMap_append]
  simp

theorem info63 : (Tryd.prog.info? 63).map (·.size) = some 74 := by kernel_rfl

noncomputable def ofB0 : Code := ((Tryd.f38.body.bind (findBlock 0)).getD .skip)

set_option maxRecDepth 100000 in
set_option maxHeartbeats 1000000 in
theorem ofB0_wp {c0 c1 c2 c4 c5 c6 c7 c11 c12 c13 c14 c15 c16 c17 c18 : Value} (b : Nat) (v : Value) (ps : List ByteArray) (w : World) (Q : Exit → Act → World → Prop) (hp : Strs w v ps) (hf : Fed w b [] 0) (hlen : (flat ps).length < 576460752303423488) (hpl : ps.length < 9223372036854775807) (ht : Table w) (hg : 2 < w.heap.size) (hb : b ≠ 2) (hpb : ∀ (i : Nat) (s : ByteArray), ps[i]? = some s → ∀ a c, v = .slice (some a) ps.length c → a.block ≠ b)
  (hQ : ∀ (u5 u10 u11 u12 u13 u14 u15 u16 : Value) (w' : World), Kept w.heap.size b w w' → Fed w' b (flat ps) ((flat ps).length : Int) → Q (.exit 0) ⟨#[c0, c1, c2, .pointer (some ⟨b, 0, none⟩), c4, u5, c6, c7, v, .int .i64 (ps.length : Int), u10, u11, u12, u13, u14, u15, u16, c17, c18], []⟩ w') :
  Code.wp Tryd.prog ofB0 Q ⟨#[c0, c1, c2, .pointer (some ⟨b, 0, none⟩), c4, c5, c6, c7, v, .int .i64 (ps.length : Int), .int .i64 0, c11, c12, c13, c14, c15, c16, c17, c18], []⟩ w := by
  obtain ⟨a, c, rfl, hps⟩ := hp
  conv => arg 2; whnf
  try go_wp2
  go_loopw [10] (fun i wr => ∃ k : Nat, k ≤ ps.length ∧ i = .int .i64 k ∧ Kept w.heap.size b w wr ∧ Fed wr b (flat (ps.take k)) ((flat (ps.take k)).length : Int)) (fun i _ => ps.length - (intOf i).toNat)
  case atStart => exact ⟨0, by omega, rfl, Kept.refl _ _ _, hf⟩
  case round =>
    obtain ⟨k, hk, rfl, hkp, hfd⟩ := hrel
    by_cases hlt : k < ps.length
    · obtain ⟨g, off, rfl, hc⟩ := hps k ps[k] (List.getElem?_eq_getElem hlt)
      have hgb : g ≠ b := hpb k ps[k] (List.getElem?_eq_getElem hlt) _ _ rfl
      have hgl : g < w.heap.size := World.block_lt_of_cell? _ _ hc
      have hcr : wr.cell? ⟨g, off + k, none⟩ = some (.string ps[k]) := by
        rw [World.cell?_of_block (w := w) (a := ⟨g, off + k, none⟩) (hkp.block g hgl hgb)]; exact hc
      have HT : Hid (flat (ps.take (k + 1)) = flat (ps.take k) ++ bts ps[k]) := flat_take ps k _ (List.getElem?_eq_getElem hlt)
      have HL : Hid ((flat (ps.take k)).length + (ps[k]).size < 4611686018427387904) := by
        show _ < _
        have h1 := flat_length_le ps (k + 1)
        rw [HT.out, List.length_append, bts_length] at h1
        omega
      have HR : Hid (Table wr) := table_kept hkp hg hb ht
      have HG : Hid (2 < wr.heap.size) := Nat.lt_of_lt_of_le hg hkp.size
      generalize ps[k] = p at *
      clear hc hQ hf hps ht
      go_wp2_with fail
      refine (add_any b _ p _ hfd HL.out HR.out HG.out hb).mono ?_
      rintro e w2 ⟨rfl, hk2, hf2⟩
      go_wp2_with fail
      refine ⟨⟨k + 1, by omega, by go_num, hkp.trans (hk2.mono hkp.size), ?_⟩, by simp [intOf]; omega⟩
      rw [HT.out]
      exact hf2
    · have hk4 : k = ps.length := by omega
      subst hk4
      rw [List.take_length] at hfd
      go_wp2
      exact hQ _ _ _ _ _ _ _ _ _ hkp hfd
end Go.Proofs.YteillcbajkhjkaaDoor
