import Derived.Test.YtlhohmlpcgbliabGreatDoorProg
import Derived.Shelf.Pu.Clone
import Derived.Test.YtlhohmlpcgbliabGreatDoorZG2
namespace Go.Proofs.YtlhohmlpcgbliabGreatDoor
open Go.Shelf
def lays25_ren : Go.Shelf.Ren := ⟨fun | 25 => 110 | n => n, fun | 0 => 0 | 3 => 3 | 4 => 4 | 5 => 5 | 9 => 9 | 37 => 78 | 47 => 159 | n => n, fun | n => n⟩
theorem lays25 : Go.Proofs.LaysPu.n25 Tryz.prog lays25_ren := {
  mixed := by kernel_rfl
  f25 := Tryz.func110.trans (congrArg some (by kernel_rfl))
  t0 := Tryz.underlying0
  a0 := Tryz.isAgg0
  z0 := Tryz.sizeOf0
  v0 := Tryz.zeroValue0
  i0 := by kernel_rfl
  t3 := Tryz.underlying3
  a3 := Tryz.isAgg3
  z3 := Tryz.sizeOf3
  v3 := Tryz.zeroValue3
  i3 := by kernel_rfl
  t4 := Tryz.underlying4
  a4 := Tryz.isAgg4
  z4 := Tryz.sizeOf4
  v4 := Tryz.zeroValue4
  i4 := by kernel_rfl
  t5 := Tryz.underlying5
  a5 := Tryz.isAgg5
  z5 := Tryz.sizeOf5
  v5 := Tryz.zeroValue5
  i5 := by kernel_rfl
  t9 := Tryz.underlying9
  a9 := Tryz.isAgg9
  z9 := Tryz.sizeOf9
  v9 := Tryz.zeroValue9
  i9 := by kernel_rfl
  t37 := Tryz.underlying78
  a37 := Tryz.isAgg78
  z37 := Tryz.sizeOf78
  v37 := Tryz.zeroValue78
  i37 := by kernel_rfl
  t47 := Tryz.underlying159
  a47 := Tryz.isAgg159
  z47 := Tryz.sizeOf159
  v47 := Tryz.zeroValue159
  i47 := by kernel_rfl }
theorem lite_Clone (s : ByteArray) (w : World) (h : s.size ≤ 281474976710656) :
    Calls Tryz.prog 110 #[.string s] w fun e w' => e = .returned (.string s) ∧ Go.RowKit.Below w.heap.size w w' := AnyPu.stringslite_Clone lays25 s w h
end Go.Proofs.YtlhohmlpcgbliabGreatDoor
namespace Go.Proofs.YtlhohmlpcgbliabGreatDoor
set_option maxRecDepth 100000
open Go.RowKit
attribute [local go_sem ↓] Go.wp_at_zero Go.wp_at_succ

set_option maxHeartbeats 400000 in
theorem clone_any (s : ByteArray) (w : World) (h : s.size ≤ 281474976710656) : Calls Tryz.prog 91 #[.string s] w fun e w' => e = .returned (.string s) ∧ Below w.heap.size w w' := by
  have hc := lite_Clone s w h
  go_enter Tryz.func91, Tryz.ntmps91
  go_wp2_with fail
  refine hc.mono ?_
  rintro e w1 ⟨rfl, hb1⟩
  go_wp2
  go_ret
  exact ⟨rfl, hb1⟩
theorem buildSlice1 (w : World) (s : ByteArray) : (Instr.buildSlice 22 1 #[(0, .string s)]).run Tryz.prog w = .ok (.slice (some ⟨w.heap.size, 0, none⟩) 1 1) (w.alloc (.cells #[.string s] 9)) := by kernel_rfl
theorem storeStrs (w : World) (b o : Nat) (u : Value) (p : Option Addr) (n c : Nat) (h : w.cell? ⟨b, o, none⟩ = some u) (hf : w.frozen? ⟨b, o, none⟩ = false) : (Instr.storeAt 22 (.pointer (some ⟨b, o, none⟩)) (.slice p n c)).run Tryz.prog w = .ok () (w.setCell ⟨b, o, none⟩ (.slice p n c)) := by
  simp [go_sem, h, hf]

set_option maxHeartbeats 4000000 in
theorem sbR19_wp {c1 c2 c3 c4 c5 c6 c7 c8 c9 c10 c11 c13 c14 c15 c16 c17 c18 c19 c20 c21 c22 c23 c24 c25 c26 c27 c28 c29 c30 c31 c32 c33 c34 c35 c36 c37 c38 c39 c40 c41 c42 c43 c44 c45 c46 c47 c48 c49 c50 c51 c52 c53 c54 c55 c56 c57 c58 c59 c60 c61 c62 c63 c64 c65 c66 c67 : Value} (a b : Nat) (s : ByteArray) (fv wv : Value) (D : Dk) (W : List ByteArray) (w : World) (Q : Exit → Act → World → Prop) (h : LogAt w a b fv wv D W) (hs : s.size ≤ 281474976710656) (hW : W.length < 1000000)
    (hQ : ∀ (u56 u57 u58 u59 u60 u61 u62 u63 u64 u65 u66 : Value) (wv' : Value) (w' : World), LogAt w' a b fv wv' D (W ++ [s]) → FrL a b fv.ownBlock wv.ownBlock fv.ownBlock wv'.ownBlock w w' → Q .normal ⟨#[.pointer (some ⟨a, 0, none⟩), c1, c2, c3, c4, c5, c6, c7, c8, c9, c10, c11, .string s, c13, c14, c15, c16, c17, c18, c19, c20, c21, c22, c23, c24, c25, c26, c27, c28, c29, c30, c31, c32, c33, c34, c35, c36, c37, c38, c39, c40, c41, c42, c43, c44, c45, c46, c47, c48, c49, c50, c51, c52, c53, c54, c55, u56, u57, u58, u59, u60, u61, u62, u63, u64, u65, u66, c67], []⟩ w') :
    Code.wp Tryz.prog (rgn Tryz.f62 19) Q ⟨#[.pointer (some ⟨a, 0, none⟩), c1, c2, c3, c4, c5, c6, c7, c8, c9, c10, c11, .string s, c13, c14, c15, c16, c17, c18, c19, c20, c21, c22, c23, c24, c25, c26, c27, c28, c29, c30, c31, c32, c33, c34, c35, c36, c37, c38, c39, c40, c41, c42, c43, c44, c45, c46, c47, c48, c49, c50, c51, c52, c53, c54, c55, c56, c57, c58, c59, c60, c61, c62, c63, c64, c65, c66, c67], []⟩ w := by
  obtain ⟨p, cap, hwv⟩ := h.wv
  have hc1 := h.blk.cell 1
  simp only [List.getElem?_cons_zero, List.getElem?_cons_succ] at hc1
  have hC : (fun wx : World => wx.cell? ⟨a, 1, none⟩ = some wv) w.drew := hc1
  have hlt := h.blk.lt
  conv => arg 2; whnf
  refine wp_region_z 11 (fun wx : World => wx.cell? ⟨a, 1, none⟩ = some wv) (by kernel_rfl) ?_
  refine wpAnyZ_pure (k := 0) (v := .pointer (some ⟨a, 0, none⟩)) (by rfl) (by kernel_rfl) (by kernel_rfl) (by kernel_rfl) (by rfl) (some 56) (by rfl) (by kernel_rfl) hC (fun _ _ => by kernel_rfl) ?_
  simp only [Act.put, List.setIfInBounds_toArray, List.set_cons_succ, List.set_cons_zero]
  refine wpAnyZ_pure (k := 1) (v := .pointer (some ⟨a, 0, none⟩)) (by rfl) (by kernel_rfl) (by kernel_rfl) (by kernel_rfl) (by rfl) (some 57) (by rfl) (by kernel_rfl) hC (fun _ _ => by kernel_rfl) ?_
  simp only [Act.put, List.setIfInBounds_toArray, List.set_cons_succ, List.set_cons_zero]
  refine wpAnyZ_pure (k := 2) (v := .pointer (some ⟨a, 0, none⟩)) (by rfl) (by kernel_rfl) (by kernel_rfl) (by kernel_rfl) (by rfl) (some 58) (by rfl) (by kernel_rfl) hC (fun _ _ => by kernel_rfl) ?_
  simp only [Act.put, List.setIfInBounds_toArray, List.set_cons_succ, List.set_cons_zero]
  refine wpAnyZ_pure (k := 3) (v := .pointer (some ⟨a, 1, none⟩)) (by rfl) (by kernel_rfl) (by kernel_rfl) (by kernel_rfl) (by rfl) (some 59) (by rfl) (by kernel_rfl) hC (fun _ _ => by kernel_rfl) ?_
  simp only [Act.put, List.setIfInBounds_toArray, List.set_cons_succ, List.set_cons_zero]
  refine wpAnyZ_pure (k := 4) (v := wv) (by rfl) (by kernel_rfl) (by kernel_rfl) (by kernel_rfl) (by rfl) (some 60) (by rfl) (by kernel_rfl) hC (fun wx hx => by rw [hwv]; exact exec_ld (by rfl) (by rfl) (loadStrs wx a 1 _ _ _ (by rw [← hwv]; exact hx))) ?_
  simp only [Act.put, List.setIfInBounds_toArray, List.set_cons_succ, List.set_cons_zero]
  refine wpAnyZ_pure (k := 5) (v := .string s) (by rfl) (by kernel_rfl) (by kernel_rfl) (by kernel_rfl) (by rfl) (some 61) (by rfl) (by kernel_rfl) hC (fun _ _ => by kernel_rfl) ?_
  simp only [Act.put, List.setIfInBounds_toArray, List.set_cons_succ, List.set_cons_zero]
  have hb0 : Below w.heap.size w w.drew := (Below.refl w.heap.size w).drew
  refine wpAnyZ_call (i := 6) (f := 91) (vs := #[.string s]) (by kernel_rfl) (by rfl) (by rfl) (some 62) (by rfl) (by kernel_rfl) ((clone_any s _ hs).mono ?_)
  rintro e w1 ⟨rfl, hb1⟩
  have hw1 : Below w.heap.size w w1 := hb0.trans hb1
  have hCb : ∀ wx, Below w.heap.size w wx → wx.cell? ⟨a, 1, none⟩ = some wv := fun wx hx => by rw [hx.cell (p := ⟨a, 1, none⟩) hlt]; exact hc1
  refine ⟨_, rfl, fun _ => hCb w1 hw1, ?_⟩
  simp only [Act.put, List.setIfInBounds_toArray, List.set_cons_succ, List.set_cons_zero]
  have hb2 : Below w1.heap.size w1 (w1.alloc (.cells #[.string s] 9)) := (Below.refl _ _).alloc (Nat.le_refl _) _
  have hw2 := hw1.trans (hb2.mono hw1.size)
  have hN2 : Blk (w1.alloc (.cells #[.string s] 9)) w1.heap.size 9 [.string s] := Blk.new w1 _ _
  refine wpAnyZ_val (i := 7) (v := .slice (some ⟨w1.heap.size, 0, none⟩) 1 1) (by kernel_rfl) (by rfl) (by rfl) (some 63) (by rfl) (exec_buildSlice (by rfl) (by kernel_rfl) (buildSlice1 w1 s)) (fun _ => hCb _ hw2) ?_
  simp only [Act.put, List.setIfInBounds_toArray, List.set_cons_succ, List.set_cons_zero]
  have hs1 := hw1.size
  generalize w1.alloc (.cells #[.string s] 9) = w2 at *
  have h2 := h.below hw2
  obtain ⟨it, hi, hiz, his, hib⟩ := elem_string
  refine wpAnyZ_op (i := 8) (by kernel_rfl) (by rfl) (by rfl) ?_
  refine wp_append_lies w2 (.tmp 60) (.tmp 63) 22 (by rfl) 0 9 it _ 1 16 Tryz.underlying22 hi hiz his hib rfl (by omega) wv (strv W).length (strv W) (by rfl) h2.row ⟨w1.heap.size, 0, none⟩ 1 1 [.string s] (by rfl) rfl ?_ ?_ (by omega) (by unfold maxLen; rw [strv_length]; omega) (by rw [strv_length]; omega) (Nat.zero_le _) w2.heap.size rfl ?_
  · intro j u hu
    rw [Addr.add_mid, Nat.zero_add, hN2.cell]
    exact hu
  · intro u hu
    simp at hu
    subst hu
    rfl
  intro g cap2 w3 hown hgr hg hlt3
  rw [strv_length] at hown
  have hdl := h.disk.lt
  have e1 : strv W ++ [.string s] = strv (W ++ [s]) := by simp [strv]
  rw [e1] at hown
  have hla2 : a < w2.heap.size := Nat.lt_of_lt_of_le hlt hw2.size
  have hA3 : Blk w3 a 63 [.pointer (some ⟨b, 0, none⟩), wv] := by
    unfold Blk
    rw [hgr.block a hla2 (Ne.symm h.wa)]
    exact h2.blk
  have hga : g ≠ a := by
    rcases hg with e | e
    · intro e2; subst e2; exact h.wa e
    · omega
  have hgb : g ≠ b := by
    rcases hg with e | e
    · intro e2; subst e2; exact h.wb e
    · have := hw2.size; omega
  have hgf : fv.ownBlock ≠ some g := by
    rcases hg with e | e
    · exact h.wf g e
    · intro e2
      have := (h.disk.row.lt g e2).2
      have := hw2.size
      omega
  have hD3 : DiskAt w3 b fv D := by
    refine ⟨h.disk.ok, ?_, ?_, h.disk.apart⟩
    · unfold Blk
      rw [hgr.block b (Nat.lt_of_lt_of_le hdl hw2.size) (Ne.symm h.wb)]
      exact h2.disk.blk
    · refine h2.disk.row.kept hgr ?_
      cases hq : fv.ownBlock with
      | none => exact .inl rfl
      | some k =>
        refine .inr (fun e => ?_)
        exact h.wf k e.symm hq
  have hc3 : w3.cell? ⟨a, 1, none⟩ = some wv := by rw [hA3.cell]; rfl
  refine ⟨fun _ => hc3, ?_⟩
  simp only [Act.put, List.setIfInBounds_toArray]
  refine wpAnyZ_val (i := 9) (v := .pointer (some ⟨a, 0, none⟩)) (w' := w3) (by kernel_rfl) (by rfl) (by rfl) (some 65) (by rfl) (by kernel_rfl) (fun _ => hc3) ?_
  simp only [Act.put]
  refine wpAnyZ_val (i := 10) (v := .pointer (some ⟨a, 1, none⟩)) (w' := w3) (by kernel_rfl) (by rfl) (by rfl) (some 66) (by rfl) (by kernel_rfl) (fun _ => hc3) ?_
  simp only [Act.put]
  refine wpAnyZ_skip (i := 11) (w' := w3.setCell ⟨a, 1, none⟩ (.slice (some ⟨g, 0, none⟩) (W.length + 1) cap2)) (by kernel_rfl) (by rfl) (by rfl) (by rfl) (exec_store (by rfl) (by rfl) (by rw [strv_length]; rfl) (storeStrs w3 a 1 wv _ _ _ hc3 (hA3.frozen _))) (fun e => absurd rfl e) ?_
  refine wpAnyZ_done (by kernel_rfl) ?_
  refine NoPanic.normal ?_
  have hll : (strv (W ++ [s])).length = W.length + 1 := by rw [strv_length, List.length_append]; rfl
  refine hQ _ _ _ _ _ _ _ _ _ _ _ (.slice (some ⟨g, 0, none⟩) (W.length + 1) cap2) _ ⟨⟨hD3.ok, hD3.blk.set_other _ _ (Ne.symm h.ab), ownsRow_setCell_other hD3.row h.fa _, hD3.apart⟩, (hA3.set 1 _).eq rfl, ?_, h.ab, h.fa, ?_, ?_, ?_⟩ ⟨?_, ?_, ?_, ?_, ?_, .inr (.inl rfl), ?_⟩
  · unfold Row
    rw [hll]
    exact ownsRow_setCell_other hown (by simp [Value.ownBlock]; exact hga) _
  · simp [Value.ownBlock]; exact hga
  · simp [Value.ownBlock]; exact hgb
  · intro k hk
    simp [Value.ownBlock] at hk
    subst hk
    exact hgf
  · exact hgr.os.trans hw2.os
  · exact hgr.tape.trans hw2.tape
  · exact hgr.output.trans hw2.output
  · have := hw2.size
    have := hgr.size
    simp [World.setCell]
    omega
  · intro k hk hka _ _ hkw
    exact (Below.heap_setCell _ _ _ _ hka).trans ((hgr.block k (Nat.lt_of_lt_of_le hk hw2.size) (Ne.symm hkw)).trans (hw2.block k hk))
  · rcases hg with e | e
    · exact .inr (.inl e.symm)
    · exact .inr (.inr ⟨g, rfl, by have := hw2.size; omega⟩)

theorem FrL.sa {w w' : World} {a b cb o : Nat} {g h g' h' : Option Nat} {ss : List ByteArray} (hS : SA w cb o ss) (r : FrL a b g h g' h' w w') (hl : cb < w.heap.size) (ha : cb ≠ a) (hb : cb ≠ b) (hg : g ≠ some cb) (hh : h ≠ some cb) : SA w' cb o ss := fun i s hs => by
  rw [World.cell?_of_block (r.block cb hl ha hb hg hh)]; exact hS i s hs

set_option maxHeartbeats 4000000 in
theorem submit_ok {w : World} {a b : Nat} {fv wv : Value} {D : Dk} {W : List ByteArray} (h : LogAt w a b fv wv D W) (hf : D.failed = false) (hz1 : D.read 1 = zer) (cb co cc : Nat) (ss : List ByteArray) (hS : SA w cb co ss) (hcb : cb < w.heap.size) (ha : cb ≠ a) (hb : cb ≠ b) (hgf : fv.ownBlock ≠ some cb) (hgw : wv.ownBlock ≠ some cb)
    (hz : ∀ s ∈ ss, s.size ≤ 40) (hq : W.length + ss.length ≤ 12) (hn : D.ckN + (W.length + ss.length) ≤ 64) :
    Calls Tryz.prog 62 #[.pointer (some ⟨a, 0, none⟩), .slice (some ⟨cb, co, none⟩) ss.length cc] w fun e w' => e = .returned (.int .i64 0) ∧ ∃ wv', LogAt w' a b fv wv' D (W ++ ss) ∧ FrL a b fv.ownBlock wv.ownBlock fv.ownBlock wv'.ownBlock w w' := by
  have hrf := refused_ok h hf hz1
  clear hz1 hf
  go_enter Tryz.func62, Tryz.ntmps62
  go_wp2_with fail
  refine hrf.mono ?_
  rintro e w1 ⟨rfl, hb1⟩
  clear hrf
  have h1 := h.below hb1
  have hS1 := hS.below hb1
  have hs1 := hb1.size
  have HS : Hid (SA w1 cb co ss) := hS1
  clear hS hS1
  go_wp2_with fail
  go_loopw [20] (fun v wr => ∃ k : Nat, k ≤ ss.length ∧ v = .int .i64 (k : Int) ∧ wr = w1) (fun v _ => ss.length - (intOf v).toNat)
  case atStart => exact ⟨0, by omega, rfl, rfl⟩
  case round =>
    obtain ⟨k, hk, rfl, rfl⟩ := hrel
    by_cases h8 : k < ss.length
    · obtain ⟨s, hs⟩ : ∃ s, ss[k]? = some s := ⟨_, List.getElem?_eq_getElem h8⟩
      have hcell := HS.out k s hs
      have hsz : s.size ≤ 40 := hz s (List.mem_of_getElem? hs)
      have hsz' : ¬ (s.size : Int) > 40 := by omega
      clear hs
      go_wp2
      go_roundw
      case rel => exact ⟨k + 1, by omega, by go_num, trivial⟩
      case measure => simp [intOf]; omega
    · have hk8 : k = ss.length := by omega
      subst hk8
      have hc0 := h1.blk.cell 0
      have hc1 := h1.blk.cell 1
      simp only [List.getElem?_cons_zero, List.getElem?_cons_succ] at hc0 hc1
      obtain ⟨p, cap, hwv⟩ := h1.wv
      rw [hwv] at hc1
      have hck := storeCk_any b fv D wr h1.disk
      unfold stV at hck
      have hq1 : ¬ ((W.length : Int) + (ss.length : Int)) > 12 := by omega
      have hq2 : ¬ ((D.ckN : Int) + ((W.length : Int) + (ss.length : Int))) > 64 := by omega
      generalize strOf D.ckR = rt at *
      have hS1 := HS.out
      go_wp2_with fail
      refine hck.mono ?_
      rintro e w2 ⟨rfl, hb2⟩
      have h2 := h1.below hb2
      have hS2 := hS1.below hb2
      have R2 : FrL a b fv.ownBlock wv.ownBlock fv.ownBlock wv.ownBlock w w2 := (FrL.of_below hb1).trans (FrL.of_below hb2)
      have hcl : cb < w2.heap.size := by have := hb2.size; omega
      clear hck hc0 hc1 hwv h1 hS1 HS
      have H2 : Hid (SA w2 cb co ss) := hS2
      clear hS2
      go_wp2_with fail
      go_loopw [52] (fun v wq => ∃ (k : Nat) (wv' : Value), k ≤ ss.length ∧ v = .int .i64 (k : Int) ∧ LogAt wq a b fv wv' D (W ++ ss.take k) ∧ FrL a b fv.ownBlock wv.ownBlock fv.ownBlock wv'.ownBlock w2 wq) (fun v _ => ss.length - (intOf v).toNat)
      case atStart => exact ⟨0, wv, by omega, rfl, by simpa using h2, FrL.refl _ _ _ _ _⟩
      case round =>
        obtain ⟨k, wv', hk, rfl, hL, hR⟩ := hrel
        clear h2
        by_cases h8 : k < ss.length
        · obtain ⟨s, hs⟩ : ∃ s, ss[k]? = some s := ⟨_, List.getElem?_eq_getElem h8⟩
          have hcell := FrL.sa H2.out hR hcl ha hb hgf hgw k s hs
          have hsz : s.size ≤ 40 := hz s (List.mem_of_getElem? hs)
          have HT : Hid (W ++ ss.take k ++ [s] = W ++ ss.take (k + 1)) := by
            show _ = _
            have hgk : ss[k] = s := (List.getElem?_eq_some_iff.1 hs).2
            rw [List.take_succ_eq_append_getElem h8, hgk, List.append_assoc]
          have hwl : (W ++ ss.take k).length < 1000000 := by simp; omega
          clear hs
          go_wp2_with fail
          refine sbR19_wp a b s fv wv' D (W ++ ss.take k) _ _ hL (by omega) hwl ?_
          intro u56 u57 u58 u59 u60 u61 u62 u63 u64 u65 u66 wv2 w3 hL3 hR3
          rw [HT.out] at hL3
          have hRR := hR.trans hR3
          go_wp2
          go_roundw
          case rel => exact ⟨k + 1, wv2, by omega, by go_num, hL3, hRR⟩
          case measure => simp [intOf]; omega
        · have hk8 : k = ss.length := by omega
          subst hk8
          rw [List.take_length] at hL
          go_wp2
          go_ret
          exact ⟨rfl, wv', hL, R2.trans hR⟩
end Go.Proofs.YtlhohmlpcgbliabGreatDoor
namespace Go.Proofs.YtlhohmlpcgbliabGreatDoor
set_option maxRecDepth 100000
open Go.RowKit
attribute [local go_sem ↓] Go.wp_at_zero Go.wp_at_succ

/-- Bytes, sector by sector. -/
def secs : Nat → List Nat → List (List Nat)
  | 0, _ => []
  | n + 1, l => l.take 128 :: secs n (l.drop 128)
theorem secs_length (n : Nat) : ∀ l, (secs n l).length = n := by
  induction n with
  | zero => intro l; rfl
  | succ n ih => intro l; simp [secs, ih]
theorem secs_flat (n : Nat) : ∀ l : List Nat, l.length = n * 128 → (secs n l).flatten = l := by
  induction n with
  | zero => intro l h; simp at h; subst h; rfl
  | succ n ih =>
    intro l h
    rw [secs, List.flatten_cons, ih _ (by rw [List.length_drop]; omega), List.take_append_drop]
theorem secs_len (n : Nat) : ∀ l : List Nat, l.length = n * 128 → ∀ s ∈ secs n l, s.length = 128 := by
  induction n with
  | zero => intro l _ s hs; simp [secs] at hs
  | succ n ih =>
    intro l h s hs
    rw [secs] at hs
    rcases List.mem_cons.1 hs with rfl | h1
    · rw [List.length_take]; omega
    · exact ih _ (by rw [List.length_drop]; omega) s h1
theorem secs_byt (n : Nat) : ∀ l : List Nat, (∀ x ∈ l, x < 256) → ∀ s ∈ secs n l, ∀ x ∈ s, x < 256 := by
  induction n with
  | zero => intro l _ s hs; simp [secs] at hs
  | succ n ih =>
    intro l h s hs
    rw [secs] at hs
    rcases List.mem_cons.1 hs with rfl | h1
    · intro x hx; exact h x (List.mem_of_mem_take hx)
    · exact ih _ (fun x hx => h x (List.mem_of_mem_drop hx)) s h1
theorem secs_of_flat (n : Nat) : ∀ L : List (List Nat), L.length = n → (∀ s ∈ L, s.length = 128) → secs n L.flatten = L := by
  induction n with
  | zero => intro L h _; rw [List.eq_nil_of_length_eq_zero h]; rfl
  | succ n ih =>
    intro L h hs
    cases L with
    | nil => simp at h
    | cons s r =>
      have h1 := hs s (List.mem_cons_self ..)
      rw [secs, List.flatten_cons, List.take_append_of_le_length (by omega), List.take_of_length_le (by omega), List.drop_append_of_le_length (by omega), List.drop_eq_nil_of_le (by omega), List.nil_append,
        ih r (by simpa using h) (fun x hx => hs x (List.mem_cons_of_mem _ hx))]
/-- A disk of these bytes, as it is opened. -/
def Dk.of (l : List Nat) : Dk := { las := secs 200 l, fre := [], acts := 0, set := false, left := 0, keep := 0, failed := false }
theorem Dk.of_ok {l : List Nat} (hl : l.length = 25600) (hb : ∀ x ∈ l, x < 256) : (Dk.of l).ok :=
  ⟨secs_length 200 l, fun s hs => ⟨secs_len 200 l hl s hs, secs_byt 200 l hb s hs⟩, fun x hx => by simp [Dk.of] at hx, by simp [Dk.of]⟩
theorem Dk.of_cells {l : List Nat} (hl : l.length = 25600) : (Dk.of l).cells (.slice none 0 0) = u8s l ++ [.slice none 0 0, .int .i64 0, .bool false, .int .i64 0, .int .i64 0, .bool false] := by
  unfold Dk.cells Dk.of
  simp only
  rw [secs_flat 200 l hl]
theorem zeroDisk : Tryz.zeroCells95 = (u8s (List.replicate 25600 0) ++ [.slice none 0 0, .int .i64 0, .bool false, .int .i64 0, .int .i64 0, .bool false] : List Value).toArray := by kernel_rfl
theorem diskNew (w : World) : DiskAt (w.alloc (.cells Tryz.zeroCells95 95)) w.heap.size (.slice none 0 0) (Dk.of (List.replicate 25600 0)) := by
  refine ⟨Dk.of_ok (by rw [List.length_replicate]) (fun x hx => by rw [(List.mem_replicate.1 hx).2]; omega), ?_, World.ownsRow_nil _ _ _ _, by simp [Value.ownBlock]⟩
  rw [Dk.of_cells (by rw [List.length_replicate])]
  have := Blk.newA w 95 Tryz.zeroCells95
  rw [zeroDisk] at this ⊢
  exact this
/-- The cells when k sectors are filled. -/
def opC (l : List Nat) (k : Nat) : List Value := u8s (l.take (k * 128) ++ List.replicate (25600 - k * 128) 0) ++ [.slice none 0 0, .int .i64 0, .bool false, .int .i64 0, .int .i64 0, .bool false]
theorem opC_len {l : List Nat} (hl : l.length = 25600) {k : Nat} (hk : k ≤ 200) : (opC l k).length = 25606 := by
  unfold opC
  rw [List.length_append, u8s_length, List.length_append, List.length_take, List.length_replicate, hl]
  simp only [List.length_cons, List.length_nil]
  omega
theorem opC_put {l : List Nat} (hl : l.length = 25600) {k : Nat} (hk : k < 200) : setL (opC l k) (k * 128) (u8s ((l.drop (k * 128)).take 128)) = opC l (k + 1) := by
  have h1 : ((l.drop (k * 128)).take 128).length = 128 := by rw [List.length_take, List.length_drop, hl]; omega
  have e : l.take ((k + 1) * 128) = l.take (k * 128) ++ (l.drop (k * 128)).take 128 := by rw [show (k + 1) * 128 = k * 128 + 128 by omega, List.take_add]
  rw [setL_eq _ _ _ (by rw [opC_len hl (by omega), u8s_length, h1]; omega), u8s_length, h1]
  unfold opC
  rw [e]
  have hA : (u8s (l.take (k * 128))).length = k * 128 := by rw [u8s_length, List.length_take, hl]; omega
  generalize (l.drop (k * 128)).take 128 = X at *
  generalize l.take (k * 128) = Y at *
  simp only [u8s_append, List.append_assoc]
  rw [List.take_append_of_le_length (by omega), List.take_of_length_le (by omega), List.drop_append, List.drop_eq_nil_of_le (by omega), List.nil_append, hA, show k * 128 + 128 - k * 128 = 128 by omega,
    List.drop_append_of_le_length (by rw [u8s_length, List.length_replicate]; omega), ← u8s_drop, List.drop_replicate, show 25600 - k * 128 - 128 = 25600 - (k + 1) * 128 by omega]

theorem exec_ix {P : Program} {o : Oper} {a : Act} {w : World} {t : TypeId} {x y : Operand} {v1 v2 u : Value} (ho : o.op = .indexAddr t x y) (hx : a.eval x = v1) (hy : a.eval y = v2) (hr : (Instr.indexAt t v1 v2).run P w = .ok u w) : (execOp a.eval o).run P w = .ok (.value u) w := by
  unfold execOp
  simp only [ho, hx, hy, Sem.run_bind, hr, Result.andThen_ok, Sem.run_pure]
theorem exec_copy {P : Program} {o : Oper} {a : Act} {w w' : World} {t1 t2 : TypeId} {x y : Operand} {v1 v2 u : Value} (ho : o.op = .call { callee := .builtin .copy, args := #[x, y], argTypes := #[t1, t2] }) (hx : a.eval x = v1) (hy : a.eval y = v2) (hr : (Builtin.copy_ #[t1, t2] o.type #[v1, v2]).run P w = .ok u w') : (execOp a.eval o).run P w = .ok (.value u) w' := by
  unfold execOp
  simp only [ho, resolve, invoke, builtin, Sem.run_bind, Sem.run_pure, Result.andThen_ok, List.map_toArray, List.map_cons, List.map_nil, hx, hy, hr]
theorem ixSec (w : World) (b k : Nat) (hk : k < 200) : (Instr.indexAt 90 (.pointer (some ⟨b, 0, none⟩)) (.int .i64 (k : Int))).run Tryz.prog w = .ok (.pointer (some ⟨b, k * 128, none⟩)) w := by
  have h : (k : Int) < 200 := by omega
  simp [go_sem, h]
theorem sliceAt_sec_all (w : World) (b off : Nat) : (Instr.sliceAt 89 (.pointer (some ⟨b, off, none⟩)) none none none).run Tryz.prog w = .ok (.slice (some ⟨b, off, none⟩) 128 128) w := by
  rw [run_sliceAt_array_all w 89 ⟨b, off, none⟩ Tryz.underlying89, elemSec, size5, arrSec]
  rfl
theorem mul_run (k : Nat) (w : World) (hk : k < 1000) : (binOp .mul 3 (.int .i64 (k : Int)) (.int .i64 128)).run Tryz.prog w = .ok (.int .i64 ((k * 128 : Nat) : Int)) w := by
  have h : IntKind.i64.wrap ((k : Int) * 128) = (k : Int) * 128 := IntWalk.i64_in _ ⟨by omega, by omega⟩
  simp [go_sem]
  exact h
theorem sliceStr (w : World) (s : ByteArray) (k : Nat) (hk : k ≤ s.size) : (Instr.sliceAt 9 (.string s) (some (.int .i64 (k : Int))) none none).run Tryz.prog w = .ok (.string (s.extract k s.size)) w := by
  have h1 : (k : Int) ≤ (s.size : Int) := by omega
  simp [go_sem, h1]

set_option maxHeartbeats 2000000 in
theorem opR7_wp {c1 c2 c3 c6 c7 c8 c9 c10 c11 c12 c13 c14 c15 c16 c17 c18 c19 c20 c21 c22 c23 c24 c25 c26 : Value} (b k : Nat) (s : ByteArray) (w : World) (Q : Exit → Act → World → Prop) (hs : s.size = 25600) (hk : k < 200) (hth : w.there b (k * 128) 128)
    (hQ : ∀ (u14 u15 u16 u17 u18 u19 u20 u21 u22 u23 u24 : Value), Q .normal ⟨#[.string s, c1, c2, c3, .pointer (some ⟨b, 0, none⟩), .int .i64 (k : Int), c6, c7, c8, c9, c10, c11, c12, c13, u14, u15, u16, u17, u18, u19, u20, u21, u22, u23, u24, c25, c26], []⟩ ((w.drewN 1).setCells b (k * 128) (u8s (((bts s).drop (k * 128)).take 128)))) :
    Code.wp Tryz.prog (rgn Tryz.f59 7) Q ⟨#[.string s, c1, c2, c3, .pointer (some ⟨b, 0, none⟩), .int .i64 (k : Int), c6, c7, c8, c9, c10, c11, c12, c13, c14, c15, c16, c17, c18, c19, c20, c21, c22, c23, c24, c25, c26], []⟩ w := by
  have hS0 : (fun _ : World => True) w.drew := trivial
  have hex : bts (s.extract (k * 128) s.size) = (bts s).drop (k * 128) := by
    rw [bts_extract, List.take_of_length_le (by simp)]
  have hlen : ((bts s).drop (k * 128)).length = 25600 - k * 128 := by rw [List.length_drop, bts_length, hs]
  conv => arg 2; whnf
  refine wp_region_s (fun _ : World => True) (by kernel_rfl) ?_
  refine wpS_pure (k := 0) (v := .pointer (some ⟨b, 0, none⟩)) (by rfl) (by kernel_rfl) (by kernel_rfl) (by kernel_rfl) (by rfl) (some 14) (by rfl) hS0 (fun _ _ => by kernel_rfl) ?_
  simp only [Act.put, List.setIfInBounds_toArray, List.set_cons_succ, List.set_cons_zero]
  refine wpS_pure (k := 1) (v := .int .i64 (k : Int)) (by rfl) (by kernel_rfl) (by kernel_rfl) (by kernel_rfl) (by rfl) (some 15) (by rfl) hS0 (fun _ _ => by kernel_rfl) ?_
  simp only [Act.put, List.setIfInBounds_toArray, List.set_cons_succ, List.set_cons_zero]
  refine wpS_pure (k := 2) (v := .pointer (some ⟨b, 0, none⟩)) (by rfl) (by kernel_rfl) (by kernel_rfl) (by kernel_rfl) (by rfl) (some 16) (by rfl) hS0 (fun _ _ => by kernel_rfl) ?_
  simp only [Act.put, List.setIfInBounds_toArray, List.set_cons_succ, List.set_cons_zero]
  refine wpS_pure (k := 3) (v := .pointer (some ⟨b, 0, none⟩)) (by rfl) (by kernel_rfl) (by kernel_rfl) (by kernel_rfl) (by rfl) (some 17) (by rfl) hS0 (fun _ _ => by kernel_rfl) ?_
  simp only [Act.put, List.setIfInBounds_toArray, List.set_cons_succ, List.set_cons_zero]
  refine wpS_pure (k := 4) (v := .pointer (some ⟨b, k * 128, none⟩)) (by rfl) (by kernel_rfl) (by kernel_rfl) (by kernel_rfl) (by rfl) (some 18) (by rfl) hS0 (fun wx _ => exec_ix (by rfl) (by rfl) (by rfl) (ixSec wx b k hk)) ?_
  simp only [Act.put, List.setIfInBounds_toArray, List.set_cons_succ, List.set_cons_zero]
  refine wpS_pure (k := 5) (v := .slice (some ⟨b, k * 128, none⟩) 128 128) (by rfl) (by kernel_rfl) (by kernel_rfl) (by kernel_rfl) (by rfl) (some 19) (by rfl) hS0 (fun wx _ => exec_slice (by rfl) (by rfl) (by rfl) (by rfl) (by rfl) (sliceAt_sec_all wx b (k * 128))) ?_
  simp only [Act.put, List.setIfInBounds_toArray, List.set_cons_succ, List.set_cons_zero]
  refine wpS_pure (k := 6) (v := .string s) (by rfl) (by kernel_rfl) (by kernel_rfl) (by kernel_rfl) (by rfl) (some 20) (by rfl) hS0 (fun _ _ => by kernel_rfl) ?_
  simp only [Act.put, List.setIfInBounds_toArray, List.set_cons_succ, List.set_cons_zero]
  refine wpS_pure (k := 7) (v := .int .i64 (k : Int)) (by rfl) (by kernel_rfl) (by kernel_rfl) (by kernel_rfl) (by rfl) (some 21) (by rfl) hS0 (fun _ _ => by kernel_rfl) ?_
  simp only [Act.put, List.setIfInBounds_toArray, List.set_cons_succ, List.set_cons_zero]
  refine wpS_pure (k := 8) (v := .int .i64 ((k * 128 : Nat) : Int)) (by rfl) (by kernel_rfl) (by kernel_rfl) (by kernel_rfl) (by rfl) (some 22) (by rfl) hS0 (fun wx _ => exec_bop (by rfl) (by rfl) (by rfl) (by kernel_rfl) (mul_run k wx (by omega))) ?_
  simp only [Act.put, List.setIfInBounds_toArray, List.set_cons_succ, List.set_cons_zero]
  refine wpS_pure (k := 9) (v := .string (s.extract (k * 128) s.size)) (by rfl) (by kernel_rfl) (by kernel_rfl) (by kernel_rfl) (by rfl) (some 23) (by rfl) hS0 (fun wx _ => exec_slice (by rfl) (by rfl) (by rfl) (by rfl) (by rfl) (sliceStr wx s (k * 128) (by omega))) ?_
  simp only [Act.put, List.setIfInBounds_toArray, List.set_cons_succ, List.set_cons_zero]
  have hsz : (s.extract (k * 128) s.size).size = 25600 - k * 128 := by rw [← bts_length, hex, hlen]
  have hcp := run_copy_string w.drew b (k * 128) 128 128 (s.extract (k * 128) s.size) 3 128 (by rw [hsz, Nat.min_eq_right (by omega)]) hth
  rw [hex] at hcp
  refine wpS_one (i := 10) (by kernel_rfl) (opS_val (v := .int .i64 128) (w' := w.drew.setCells b (k * 128) (u8s (((bts s).drop (k * 128)).take 128))) (by rfl) (by rfl) (some 24) (by rfl) (exec_copy (by rfl) (by rfl) (by rfl) hcp) ⟨trivial, ?_⟩)
  refine wpAnyH_done (by kernel_rfl) ?_ _
  refine NoPanic.normal ?_
  exact hQ _ _ _ _ _ _ _ _ _ _ _

set_option maxHeartbeats 2000000 in
theorem open_any (s : ByteArray) (w : World) (hs : s.size = 25600) :
    Calls Tryz.prog 59 #[.string s] w fun e w' => e = .returned (.tuple #[.pointer (some ⟨w.heap.size, 0, none⟩), .bool true]) ∧ DiskAt w' w.heap.size (.slice none 0 0) (Dk.of (bts s)) ∧ Below w.heap.size w w' := by
  have hl : (bts s).length = 25600 := by rw [bts_length]; exact hs
  have hb0 : Below w.heap.size w (w.alloc (.cells Tryz.zeroCells95 95)) := (Below.refl _ _).alloc (Nat.le_refl _) _
  have hB0 : Blk (w.alloc (.cells Tryz.zeroCells95 95)) w.heap.size 95 (opC (bts s) 0) := by
    have := Blk.newA w 95 Tryz.zeroCells95
    refine this.eq ?_
    rw [zeroDisk]
    unfold opC
    rw [Nat.zero_mul, List.take_zero, List.nil_append]
  have hbd : ∀ wx, (Instr.build 95 #[]).run Tryz.prog wx = .ok (.agg Tryz.zeroCells95) wx := fun wx => run_build wx 95 _ _ (by kernel_rfl)
  have hne : ¬ ((s.size : Int) ≠ 25600) := by omega
  go_enter Tryz.func59, Tryz.ntmps59
  go_wp2_with fail
  go_loopw [11] (fun v wr => ∃ k : Nat, k ≤ 200 ∧ v = .int .i64 (k : Int) ∧ Blk wr w.heap.size 95 (opC (bts s) k) ∧ Below w.heap.size w wr) (fun v _ => 200 - (intOf v).toNat)
  case atStart => exact ⟨0, by omega, rfl, hB0, hb0⟩
  case round =>
    obtain ⟨k, hk, rfl, hB, hb⟩ := hrel
    clear hB0 hb0 hbd
    by_cases h8 : k < 200
    · have h8' : (k : Int) < 200 := by omega
      have hth := hB.there (k * 128) 128 (by rw [opC_len hl hk]; omega)
      have HB := ((hB.drewN 1).setCells (k * 128) (u8s (((bts s).drop (k * 128)).take 128))).eq (opC_put hl h8)
      have Hb := Below.setCells (Below.drewN' hb 1) w.heap.size (k * 128) (Nat.le_refl _) (u8s (((bts s).drop (k * 128)).take 128))
      go_wp2_with fail
      refine opR7_wp w.heap.size k s _ _ hs h8 hth ?_
      intro u14 u15 u16 u17 u18 u19 u20 u21 u22 u23 u24
      generalize (wr.drewN 1).setCells w.heap.size (k * 128) (u8s (((bts s).drop (k * 128)).take 128)) = w3 at *
      go_wp2
      go_roundw
      case rel => exact ⟨k + 1, by omega, by go_num, HB, Hb⟩
      case measure => simp [intOf]; omega
    · have hk8 : k = 200 := by omega
      subst hk8
      have HD : DiskAt wr w.heap.size (.slice none 0 0) (Dk.of (bts s)) := by
        refine ⟨Dk.of_ok hl (bts_byte s), hB.eq ?_, World.ownsRow_nil _ _ _ _, by simp [Value.ownBlock]⟩
        rw [Dk.of_cells hl]
        unfold opC
        rw [List.take_of_length_le (by omega), Nat.sub_self, List.replicate_zero, List.append_nil]
      go_wp2
      go_ret2
      exact ⟨rfl, HD, hb⟩
end Go.Proofs.YtlhohmlpcgbliabGreatDoor
namespace Go.Proofs.YtlhohmlpcgbliabGreatDoor
set_option maxRecDepth 100000
open Go.RowKit
attribute [local go_sem ↓] Go.wp_at_zero Go.wp_at_succ

theorem infoLas : (Tryz.prog.info? 90).map (·.size) = some 25600 := by kernel_rfl
theorem index_las (w : World) (l : List Nat) (k : Nat) (hk : k < 200) : (Instr.index 90 (.agg (u8s l).toArray) (.int .i64 (k : Int))).run Tryz.prog w = .ok (.agg (u8s ((l.drop (k * 128)).take 128)).toArray) w := by
  simp [Instr.index, asIntOf, run_underlying Tryz.underlying90, Go.part, hk]
  rw [u8s_take, u8s_drop]
theorem infoByte : ∃ i, Tryz.prog.info? 5 = some i ∧ i.zero = some (.int .u8 0) ∧ i.size = 1 ∧ i.bytes = 1 := by
  have h : (Tryz.prog.info? 5).map (fun i => (i.zero, i.size, i.bytes)) = some (some (.int .u8 0), 1, 1) := by kernel_rfl
  cases hq : Tryz.prog.info? 5 with
  | none => simp [hq] at h
  | some i => simp [hq] at h; exact ⟨i, rfl, h.1, h.2.1, h.2.2⟩

set_option maxHeartbeats 2000000 in
theorem bytes_any (b : Nat) (fv : Value) (D : Dk) (w : World) (h : DiskAt w b fv D) :
    Calls Tryz.prog 60 #[.pointer (some ⟨b, 0, none⟩)] w fun e w' => e = .returned (.string (strOf D.las.flatten)) ∧ Below w.heap.size w w' := by
  have hfl := h.ok.flat
  have hrg : w.rangeAt b 0 (u8s D.las.flatten) := by
    have := h.blk.part 0 25600
    unfold Dk.cells at this
    rw [List.drop_zero, List.take_append_of_le_length (by rw [u8s_length]; omega), List.take_of_length_le (by rw [u8s_length]; omega)] at this
    exact this
  generalize D.las.flatten = l at *
  obtain ⟨it, hi, hiz, his, hib⟩ := infoByte
  obtain ⟨w0, hmk, hrow0, hgr0⟩ := run_make_own (P := Tryz.prog) w w.heap.size 78 5 it _ 1 Tryz.underlying78 hi hiz his .i64 .i64 25600 (by rw [hib]; omega) (by unfold maxLen; omega) (Nat.le_refl _)
  have hmk' : (Instr.makeSlice 78 (.int .i64 0) (.int .i64 25600)).run Tryz.prog w = .ok (.slice (some ⟨w.heap.size, 0, none⟩) 0 25600) w0 := hmk
  clear hmk
  have hb0 : Below w.heap.size w w0 := ⟨hgr0.os, hgr0.tape, hgr0.output, hgr0.size, fun k hk => hgr0.block k hk (by simp)⟩
  have hd0 := h.below hb0
  have hrg0 : w0.rangeAt b 0 (u8s l) := fun j v hv => by
    rw [hb0.cell (p := ⟨b, 0 + j, none⟩) h.lt]; exact hrg j v hv
  have hsz : Tryz.zeroCells89.toList.length = 128 := by rw [zeroSec]; simp
  go_enter Tryz.func60, Tryz.ntmps60
  go_wp2_with (first | ((with_reducible refine wpList_load_mid ?_ 90 (.tmp 9) ?_ b 0 ?_ (u8s l) _ hrg0 Tryz.underlying90 ?_ ?_ ?_); rfl; rfl; rfl; rfl; (rw [u8s_length, hfl]; exact infoLas)))
  have HF : Hid (l.length = 25600) := hfl
  clear hfl hrg hrg0 hmk' h hd0
  generalize hA : (u8s l).toArray = arr at *
  have HA : Hid ((u8s l).toArray = arr) := hA
  clear hA
  go_loopw [3, 11] (fun u v wr => ∃ k : Nat, k ≤ 200 ∧ v = .int .i64 (k : Int) ∧ Row wr w.heap.size 5 u (u8s (l.take (k * 128))) ∧ Below w.heap.size w wr) (fun _ v _ => 200 - (intOf v).toNat)
  case atStart => exact ⟨0, by omega, rfl, by rw [Nat.zero_mul, List.take_zero]; exact hrow0, hb0⟩
  case round =>
    obtain ⟨k, hk, rfl, hrow, hb⟩ := hrel
    clear hrow0 hb0 hgr0
    by_cases h8 : k < 200
    · have h8' : (k : Int) < 200 := by omega
      have hix := fun wx => index_las wx l k h8
      rw [HA.out] at hix
      have hsl : ((l.drop (k * 128)).take 128).length = 128 := by rw [List.length_take, List.length_drop, HF.out]; omega
      have HX : Hid (u8s (l.take (k * 128)) ++ u8s ((l.drop (k * 128)).take 128) = u8s (l.take ((k + 1) * 128))) := by
        show _ = _
        rw [← u8s_append, show (k + 1) * 128 = k * 128 + 128 by omega, List.take_add]
      have hxl : (u8s (l.take (k * 128))).length = k * 128 := by rw [u8s_length, List.length_take, HF.out]; omega
      generalize (l.drop (k * 128)).take 128 = s at *
      generalize u8s (l.take (k * 128)) = xs at *
      have hB2 := Blk.newA wr 89 Tryz.zeroCells89
      have hth := hB2.there 0 128 (by omega)
      have hB3 := hB2.fill (u8s s) (by simp [hsl, hsz])
      have hbb : Below wr.heap.size wr ((wr.alloc (.cells Tryz.zeroCells89 89)).setCells wr.heap.size 0 (u8s s)) := Below.setCells ((Below.refl _ _).alloc (Nat.le_refl _) _) _ _ (Nat.le_refl _) _
      have hb2 := hb.trans (hbb.mono hb.size)
      have hrow2 := hrow.below hbb (Nat.le_refl _)
      have hall := fun wx => sliceAt_sec_all wx wr.heap.size 0
      clear hB2 hrow
      go_wp2_with (first | ((with_reducible refine stSec ?_ (.tmp 5) (.tmp 13) ?_ wr.heap.size 0 s ?_ ?_ hth hsl ?_); rfl; rfl; rfl; rfl) | (at_builtin; refine wpList_append_own _ (by rfl) (.tmp 14) (.tmp 15) 78 (by rfl) w.heap.size 5 it _ 1 1 Tryz.underlying78 hi hiz his hib rfl (by omega) _ xs.length xs (by rfl) hrow2 ⟨wr.heap.size, 0, none⟩ 128 128 (u8s s) (by rfl) ?h1 ?h2 (u8s_one _) ?h3 ?h4 ?h5 ?_))
      case h1 => rw [u8s_length, hsl]
      case h2 =>
        intro j u hu
        rw [Addr.add_mid, Nat.zero_add, hB3.cell]
        exact hu
      case h3 => unfold maxLen; omega
      case h4 => omega
      case h5 => have := hb2.size; omega
      intro v' w' hv' hgr _
      have hb3 : Below w.heap.size w w' := hb2.grown hgr (Nat.le_refl _ |> fun h => Nat.le_trans h hb2.size) (fun k hk => (hrow2.lt k hk).1)
      have hv2 : Row w' w.heap.size 5 v' (u8s (l.take ((k + 1) * 128))) := by
        rw [← HX.out]
        unfold Row
        rw [List.length_append, u8s_length, hsl, hxl]
        exact hv'
      go_wp2
      go_roundw
      case rel => exact ⟨k + 1, by omega, by go_num, hv2, hb3⟩
      case measure => simp [intOf]; omega
    · have hk8 : k = 200 := by omega
      subst hk8
      rw [List.take_of_length_le (by rw [HF.out]; omega)] at hrow
      have hcv := convert_row hrow
      go_wp2
      go_ret
      exact ⟨rfl, hb⟩
end Go.Proofs.YtlhohmlpcgbliabGreatDoor
namespace Go.Proofs.YtlhohmlpcgbliabGreatDoor
set_option maxRecDepth 100000
open Go.RowKit
attribute [local go_sem ↓] Go.wp_at_zero Go.wp_at_succ

/-- A new disk's bytes, with the checkpoint of no entries. -/
def Dk.fresh : Dk := Dk.of ((((Dk.of (List.replicate 25600 0)).write 0 (ckSec 0 (bts (shaS [])))).flush).las.flatten)
theorem infoSto : (Tryz.prog.info? 60).map (·.size) = some 1 := by kernel_rfl
theorem Dk.of_flat (D : Dk) (h : D.ok) : Dk.of D.las.flatten = { D with fre := [], acts := 0, set := false, left := 0, keep := 0, failed := false } := by
  unfold Dk.of
  rw [secs_of_flat 200 D.las h.las (fun s hs => (h.sec s hs).len)]
theorem flat_byt {D : Dk} (h : D.ok) : ∀ x ∈ D.las.flatten, x < 256 := by
  intro x hx
  obtain ⟨s, hs, hx2⟩ := List.mem_flatten.1 hx
  exact (h.sec s hs).byt x hx2
theorem bts_flat {D : Dk} (h : D.ok) : bts (strOf D.las.flatten) = D.las.flatten := bts_strOf (byt_ok (flat_byt h))

set_option maxHeartbeats 2000000 in
theorem storeNew_any (w : World) (ht : Table w) (hg : 2 < w.heap.size) :
    Calls Tryz.prog 35 #[] w fun e w' => ∃ b, e = .returned (stV b) ∧ w.heap.size ≤ b ∧ DiskAt w' b (.slice none 0 0) Dk.fresh ∧ Below w.heap.size w w' := by
  have hb0 : Below w.heap.size w (w.alloc (.cells #[.pointer none] 60)) := (Below.refl _ _).alloc (Nat.le_refl _) _
  have hB0 : Blk (w.alloc (.cells #[.pointer none] 60)) w.heap.size 60 [.pointer none] := Blk.new w _ _
  have hs0 : (w.alloc (.cells #[.pointer none] 60)).heap.size = w.heap.size + 1 := by simp
  have hbd : ∀ wx, (Instr.build 95 #[]).run Tryz.prog wx = .ok (.agg Tryz.zeroCells95) wx := fun wx => run_build wx 95 _ _ (by kernel_rfl)
  have hd1 := diskNew (w.alloc (.cells #[.pointer none] 60))
  have hb1 : Below (w.alloc (.cells #[.pointer none] 60)).heap.size (w.alloc (.cells #[.pointer none] 60)) ((w.alloc (.cells #[.pointer none] 60)).alloc (.cells Tryz.zeroCells95 95)) := (Below.refl _ _).alloc (Nat.le_refl _) _
  rw [hs0] at hd1
  go_enter Tryz.func35, Tryz.ntmps35
  go_wp2_with fail
  have hB1 := hB0.alloc (.cells Tryz.zeroCells95 95)
  have hw1 := hb0.trans (hb1.mono hb0.size)
  clear hbd hB0 hb0 hb1
  generalize Tryz.zeroCells95 = zz at *
  generalize (w.alloc (.cells #[.pointer none] 60)).alloc (.cells zz 95) = w1 at *
  have ht1 := table_at hw1 hg ht
  have hg1 := Nat.lt_of_lt_of_le hg hw1.size
  refine (treeJoin_nil none 0 w1 ht1 hg1).mono ?_
  rintro e w2 ⟨rfl, hb2⟩
  have hd2 := hd1.below hb2
  have hw2 := hw1.trans (hb2.mono hw1.size)
  have hB2 := hB1.below hb2 hB1.lt
  have hsh := shaS_size []
  have hwc : Calls Tryz.prog 58 #[.pointer (some ⟨w.heap.size + 1, 0, none⟩), .int .i64 0, .string (shaS [])] w2 fun e w' => e = .returned (.tuple #[]) ∧ ∃ fv', DiskAt w' (w.heap.size + 1) fv' ((Dk.of (List.replicate 25600 0)).write 0 (ckSec 0 (bts (shaS [])))).flush ∧ Fr (w.heap.size + 1) (Value.slice none 0 0).ownBlock fv'.ownBlock w2 w' := writeCheckpoint_any (w.heap.size + 1) 0 (shaS []) _ _ w2 hd2 (by omega) (by omega) (by simp [Dk.of])
  have HFR : Hid (Dk.fresh = Dk.of (((Dk.of (List.replicate 25600 0)).write 0 (ckSec 0 (bts (shaS [])))).flush).las.flatten) := rfl
  generalize ((Dk.of (List.replicate 25600 0)).write 0 (ckSec 0 (bts (shaS [])))).flush = E at *
  generalize shaS [] = hh at *
  clear hd1 hB1
  go_wp2_with fail
  refine hwc.mono ?_
  rintro e w3 ⟨rfl, fv3, hd3, r3⟩
  have hB3 := r3.blk hB2 (by omega) (by simp [Value.ownBlock])
  have hw3 : Below w.heap.size w w3 := by
    refine hw2.trans (r3.to_below hw2.size (by omega) (fun k hk => by simp [Value.ownBlock] at hk))
  have hby := bytes_any (w.heap.size + 1) fv3 E w3 hd3
  have hop := fun wx => open_any (strOf E.las.flatten) wx (by rw [strOf_size (flat_byt hd3.ok), hd3.ok.flat])
  rw [bts_flat hd3.ok, ← HFR.out] at hop
  generalize strOf E.las.flatten = bs at *
  clear hwc
  go_wp2_with fail
  refine hby.mono ?_
  rintro e w4 ⟨rfl, hb4⟩
  have hw4 := hw3.trans (hb4.mono hw3.size)
  have hB4 := hB3.below hb4 hB3.lt
  go_wp2_with fail
  refine (hop w4).mono ?_
  rintro e w5 ⟨rfl, hd5, hb5⟩
  have hw5 := hw4.trans (hb5.mono hw4.size)
  have hB5 := hB4.below hb5 hB4.lt
  have hc0 := hB5.cell 0
  have hf0 := hB5.frozen 0
  simp only [List.getElem?_cons_zero] at hc0
  have HB := hB5.set 0 (.pointer (some ⟨w4.heap.size, 0, none⟩))
  simp only [List.set_cons_zero] at HB
  have Hb : Below w.heap.size w (w5.setCell ⟨w.heap.size, 0, none⟩ (.pointer (some ⟨w4.heap.size, 0, none⟩))) := hw5.setCell (Nat.le_refl _) _
  have hl4 : w.heap.size + 1 ≤ w4.heap.size := Nat.lt_of_lt_of_le hB3.lt hb4.size
  have hd6 : DiskAt (w5.setCell ⟨w.heap.size, 0, none⟩ (.pointer (some ⟨w4.heap.size, 0, none⟩))) w4.heap.size (.slice none 0 0) Dk.fresh := ⟨hd5.ok, hd5.blk.set_other _ _ (by simp only; omega), ownsRow_setCell_other hd5.row (by simp [Value.ownBlock]) _, hd5.apart⟩
  go_wp2_with fail
  exact bodyPost_ret (results_cell Tryz.results35 (by rfl) HB.range Tryz.underlying60 rfl infoSto) rfl ⟨w4.heap.size, rfl, by omega, hd6, Hb⟩

set_option maxHeartbeats 2000000 in
theorem groveNew_any (w : World) (ht : Table w) (hg : 2 < w.heap.size) :
    Calls Tryz.prog 23 #[] w fun e w' => ∃ a b, e = .returned (.pointer (some ⟨a, 0, none⟩)) ∧ w.heap.size ≤ a ∧ w.heap.size ≤ b ∧ LogAt w' a b (.slice none 0 0) (.slice none 0 0) Dk.fresh [] ∧ Below w.heap.size w w' := by
  have hsn := storeNew_any w ht hg
  unfold stV at hsn
  go_enter Tryz.func23, Tryz.ntmps23
  go_wp2_with fail
  refine hsn.mono ?_
  rintro e w1 ⟨b, rfl, hb, hd, hb1⟩
  have hA : Blk (w1.alloc (.cells #[.pointer (some ⟨b, 0, none⟩), .slice none 0 0] 63)) w1.heap.size 63 [.pointer (some ⟨b, 0, none⟩), .slice none 0 0] := Blk.new w1 _ _
  have hlt := hd.lt
  have hd2 := hd.alloc (.cells #[.pointer (some ⟨b, 0, none⟩), .slice none 0 0] 63)
  go_wp2
  go_ret
  exact ⟨w1.heap.size, b, rfl, hb1.size, hb, ⟨hd2, hA, World.ownsRow_nil _ _ _ _, by omega, by simp [Value.ownBlock], by simp [Value.ownBlock], by simp [Value.ownBlock], fun k hk => by simp [Value.ownBlock] at hk⟩, hb1.alloc hb1.size _⟩
end Go.Proofs.YtlhohmlpcgbliabGreatDoor
namespace Go.Proofs.YtlhohmlpcgbliabGreatDoor
open Go.RowKit

/-- No script, and it has not failed. -/
structure Dk.nf (D : Dk) : Prop where
  set : D.set = false
  failed : D.failed = false
theorem Dk.nf.trip {D : Dk} (h : D.nf) : D.trip = D := by simp [Dk.trip, Dk.trips, h.set]
theorem Dk.nf.goes {D : Dk} (h : D.nf) : D.goes = true := by simp [Dk.goes, h.trip, h.failed]
theorem Dk.nf.act {D : Dk} (h : D.nf) : D.act = D.tick := by simp [Dk.act, h.trip, h.failed]
/-- The sectors that were written since the last flush. -/
def Dk.keys (D : Dk) : List Nat := D.fre.map (·.1)
theorem Dk.nf.write {D : Dk} (h : D.nf) (i : Nat) (s : List Nat) : (D.write i s).nf ∧ (D.write i s).keys = D.keys ++ [i] ∧ (D.write i s).las = D.las := by
  have e : D.write i s = { D.tick with fre := D.fre ++ [(i, s)] } := by
    unfold Dk.write
    rw [if_pos h.goes, h.act]; rfl
  rw [e]
  exact ⟨⟨h.set, h.failed⟩, by simp [Dk.keys], rfl⟩
theorem Dk.nf.write_read {D : Dk} (h : D.nf) (i : Nat) (s : List Nat) (hi : i ∉ D.keys) (j : Nat) : (D.write i s).read j = if j = i then s else D.read j := by
  have e : D.write i s = { D.tick with fre := D.fre ++ [(i, s)] } := by
    unfold Dk.write
    rw [if_pos h.goes, h.act]; rfl
  rw [e]
  unfold Dk.read
  simp only [List.find?_append]
  by_cases hj : j = i
  · subst hj
    have hn : (D.fre.find? fun x => x.1 == j) = none := by
      rw [List.find?_eq_none]
      intro x hx
      simp only [beq_iff_eq]
      intro e2
      exact hi (by rw [← e2]; exact List.mem_map.2 ⟨x, hx, rfl⟩)
    rw [hn]
    simp
  · rw [if_neg hj]
    have : ([(i, s)].find? fun x : Nat × List Nat => x.1 == j) = none := by
      have hb : (i == j) = false := by simpa using fun e => hj e.symm
      simp [hb]
    rw [this]
    cases D.fre.find? fun x => x.1 == j <;> rfl
theorem putL_get (f : List (Nat × List Nat)) : ∀ (l : List (List Nat)) (j : Nat), (f.map (·.1)).Nodup → j < l.length → (putL f l).getD j [] = ((f.find? fun x => x.1 == j).map (·.2)).getD (l.getD j []) := by
  induction f with
  | nil => intro l j _ _; rfl
  | cons x r ih =>
    intro l j hn hj
    rw [List.map_cons, List.nodup_cons] at hn
    rw [putL, List.foldl_cons]
    have := ih (l.set x.1 x.2) j hn.2 (by simpa using hj)
    rw [putL] at this
    rw [this, List.find?_cons]
    by_cases hx : x.1 = j
    · have hnone : (r.find? fun y => y.1 == j) = none := by
        rw [List.find?_eq_none]
        intro y hy
        simp only [beq_iff_eq]
        intro e2
        exact hn.1 (by rw [hx, ← e2]; exact List.mem_map.2 ⟨y, hy, rfl⟩)
      rw [hnone]
      subst hx
      simp [List.getD_eq_getElem?_getD, hj]
    · have : (x.1 == j) = false := by simpa using hx
      rw [this]
      simp only [List.getD_eq_getElem?_getD, List.getElem?_set]
      rw [if_neg hx]
theorem Dk.nf.flush {D : Dk} (h : D.nf) : D.flush.nf ∧ D.flush.fre = [] := by
  have e : D.flush = { D.tick with las := putL D.fre D.las, fre := [] } := by
    unfold Dk.flush
    rw [if_pos h.goes, h.act]; rfl
  rw [e]
  exact ⟨⟨h.set, h.failed⟩, rfl⟩
theorem Dk.nf.flush_read {D : Dk} (h : D.nf) (hok : D.ok) (hn : D.keys.Nodup) (j : Nat) (hj : j < 200) : D.flush.read j = D.read j := by
  have e : D.flush = { D.tick with las := putL D.fre D.las, fre := [] } := by
    unfold Dk.flush
    rw [if_pos h.goes, h.act]; rfl
  rw [e]
  have := putL_get D.fre D.las j hn (by rw [hok.las]; exact hj)
  unfold Dk.read
  simp only [List.find?_nil, Option.map_none, Option.getD_none]
  exact this

/-- What a slot holds when this was put into it. -/
def pad (each : Nat) (c : List Nat) : List Nat := c ++ List.replicate (128 / each - c.length) 0
theorem slot_put {s : List Nat} (hs : s.length = 128) {each : Nat} (he : each = 3 ∨ each = 4) (i : Nat) {c : List Nat} (hc : c.length ≤ 128 / each) (k : Nat) : slotL (putSlot s each i c) each k = if k % each = i % each then pad each c else slotL s each k := by
  have hb : ∀ m, m % each * (128 / each) + 128 / each ≤ 128 := by
    intro m
    rcases he with rfl | rfl <;> omega
  have hp : (pad each c).length = 128 / each := by simp [pad]; omega
  have hput : putSlot s each i c = s.take (i % each * (128 / each)) ++ (pad each c ++ s.drop (i % each * (128 / each) + 128 / each)) := by
    unfold putSlot pad
    rw [List.append_assoc]
  unfold slotL
  rw [hput]
  by_cases hk : k % each = i % each
  · rw [if_pos hk, hk]
    have hl : (s.take (i % each * (128 / each))).length = i % each * (128 / each) := by have := hb i; rw [List.length_take]; omega
    rw [List.drop_append_of_le_length (by omega), List.drop_eq_nil_of_le (by omega), List.nil_append, List.take_append_of_le_length (by omega), List.take_of_length_le (by omega)]
  · rw [if_neg hk]
    have h1 := hb i
    have h2 := hb k
    have hlt : k % each * (128 / each) + 128 / each ≤ i % each * (128 / each) ∨ i % each * (128 / each) + 128 / each ≤ k % each * (128 / each) := by
      rcases he with rfl | rfl <;> omega
    generalize i % each * (128 / each) = o at *
    generalize k % each * (128 / each) = q at *
    generalize 128 / each = z at *
    apply List.ext_getElem?
    intro m
    simp only [List.getElem?_take, List.getElem?_drop]
    split
    · rename_i hm
      rcases hlt with h3 | h3
      · rw [List.getElem?_append_left (by rw [List.length_take]; omega), List.getElem?_take, if_pos (by omega)]
      · rw [List.getElem?_append_right (by rw [List.length_take]; omega), List.length_take, Nat.min_eq_left (by omega), List.getElem?_append_right (by omega), hp, List.getElem?_drop]
        congr 1
        omega
    · rfl
/-- What a sector holds when the slots from i on were filled, as far as they stand in it. -/
theorem slot_fill {each : Nat} (he : each = 3 ∨ each = 4) (cs : List (List Nat)) : ∀ {s : List Nat} (i : Nat), s.length = 128 → (∀ c ∈ cs, c.length ≤ 128 / each) → i % each + cs.length ≤ each → ∀ k, k / each = i / each → slotL (fillS each s i cs) each k = if i ≤ k ∧ k < i + cs.length then pad each (cs.getD (k - i) []) else slotL s each k := by
  induction cs with
  | nil =>
    intro s i _ _ _ k _
    rw [fillS, if_neg (by simp only [List.length_nil]; omega)]
  | cons c r ih =>
    intro s i hs hc hl k hk
    have h1 := hc c (List.mem_cons_self ..)
    simp only [List.length_cons] at hl
    rw [fillS]
    by_cases hr : r = []
    · subst hr
      rw [fillS, slot_put hs he i h1]
      by_cases hki : k = i
      · subst hki
        rw [if_pos rfl, if_pos (by simp)]
        simp
      · have hm : ¬ k % each = i % each := by
          intro e
          apply hki
          rw [← Nat.div_add_mod k each, ← Nat.div_add_mod i each, hk, e]
        rw [if_neg hm, if_neg (by simp; omega)]
    · have hr1 : 1 ≤ r.length := by
        cases r with
        | nil => exact absurd rfl hr
        | cons _ _ => simp
      have hdm : (i + 1) / each = i / each ∧ (i + 1) % each = i % each + 1 := by
        rcases he with rfl | rfl <;> omega
      rw [ih (i + 1) (putSlot_len hs he h1) (fun c hc2 => hc c (List.mem_cons_of_mem _ hc2)) (by omega) k (by rw [hk, hdm.1]), slot_put hs he i h1]
      by_cases hki : k = i
      · subst hki
        rw [if_neg (by omega), if_pos rfl, if_pos (by simp)]
        simp
      · have hm : ¬ k % each = i % each := by
          intro e
          apply hki
          rw [← Nat.div_add_mod k each, ← Nat.div_add_mod i each, hk, e]
        rw [if_neg hm]
        by_cases hin : i + 1 ≤ k ∧ k < i + 1 + r.length
        · rw [if_pos hin, if_pos (by simp; omega)]
          obtain ⟨d, hd⟩ : ∃ d, k - i = d + 1 := ⟨k - i - 1, by omega⟩
          rw [hd, List.getD_cons_succ]
          congr 2
          omega
        · rw [if_neg hin, if_neg (by simp; omega)]
end Go.Proofs.YtlhohmlpcgbliabGreatDoor
namespace Go.Proofs.YtlhohmlpcgbliabGreatDoor
open Go.RowKit

/-- What a row of slots is behind a write. -/
structure Wrote (start each i : Nat) (cs : List (List Nat)) (D R : Dk) : Prop where
  nf : R.nf
  ok : R.ok
  nd : R.keys.Nodup
  keys : ∀ x ∈ R.keys, x ∈ D.keys ∨ (cs ≠ [] ∧ start + i / each ≤ x ∧ x ≤ start + (i + cs.length - 1) / each)
  slot : ∀ k, R.slot start each k = if i ≤ k ∧ k < i + cs.length then pad each (cs.getD (k - i) []) else D.slot start each k
  read : ∀ j, (cs = [] ∨ j < start + i / each ∨ start + (i + cs.length - 1) / each < j) → R.read j = D.read j
  fre : R.fre.length ≤ D.fre.length + cs.length

theorem wrF_spec {start each : Nat} (he : each = 3 ∨ each = 4) : ∀ (f : Nat) (D : Dk) (i : Nat) (cs : List (List Nat)), cs.length ≤ f → D.nf → D.ok → D.keys.Nodup → (∀ x ∈ D.keys, x < start + i / each ∨ start + (i + cs.length - 1) / each < x) →
    (∀ c ∈ cs, c.length ≤ 128 / each ∧ ∀ x ∈ c, x < 256) → start + (i + cs.length) / each < 200 → D.fre.length + cs.length < 1000000 → Wrote start each i cs D (wrF start each f D i cs) := by
  intro f
  induction f with
  | zero =>
    intro D i cs hf hnf hok hnd hk hc hst hfe
    have hcs : cs = [] := List.eq_nil_of_length_eq_zero (by omega)
    subst hcs
    rw [wrF_nil]
    exact ⟨hnf, hok, hnd, fun x hx => .inl hx, fun k => by rw [if_neg (by simp only [List.length_nil]; omega)], fun _ _ => rfl, by simp⟩
  | succ f ih =>
    intro D i cs hf hnf hok hnd hk hc hst hfe
    by_cases hcs : cs = []
    · subst hcs
      rw [wrF_nil]
      exact ⟨hnf, hok, hnd, fun x hx => .inl hx, fun k => by rw [if_neg (by simp only [List.length_nil]; omega)], fun _ _ => rfl, by simp⟩
    · have hlen : 0 < cs.length := by
        cases cs with
        | nil => exact absurd rfl hcs
        | cons _ _ => simp
      have ht0 : 0 < takes each i cs.length ∧ takes each i cs.length ≤ cs.length ∧ i % each + takes each i cs.length ≤ each ∧ (takes each i cs.length < cs.length → (i + takes each i cs.length) / each = i / each + 1) := by
        unfold takes
        rcases he with rfl | rfl <;> omega
      rw [wrF, if_neg (by omega)]
      generalize takes each i cs.length = t at *
      obtain ⟨ht0, ht1, ht2, ht3⟩ := ht0
      have hat : start + i / each < 200 := by
        rcases he with rfl | rfl <;> omega
      have hle : i / each ≤ (i + cs.length - 1) / each := Nat.div_le_div_right (by omega)
      have hnew : start + i / each ∉ D.keys := fun hx => by
        rcases hk _ hx with h1 | h1 <;> omega
      have hsec := hok.read hat
      have hfs : Sec (fillS each (D.read (start + i / each)) i (cs.take t)) := fillS_sec he _ hsec (fun c h1 => hc c (List.mem_of_mem_take h1))
      have hw := hnf.write (start + i / each) (fillS each (D.read (start + i / each)) i (cs.take t))
      have hwr := hnf.write_read (start + i / each) (fillS each (D.read (start + i / each)) i (cs.take t)) hnew
      have hok1 := hok.write hat hfs (by omega)
      have hfl := Dk.write_len D (start + i / each) (fillS each (D.read (start + i / each)) i (cs.take t))
      have hlt : (cs.take t).length = t := by rw [List.length_take]; omega
      have hsl : ∀ k, (D.write (start + i / each) (fillS each (D.read (start + i / each)) i (cs.take t))).slot start each k = if i ≤ k ∧ k < i + t then pad each (cs.getD (k - i) []) else D.slot start each k := by
        intro k
        unfold Dk.slot
        rw [hwr]
        by_cases hq : k / each = i / each
        · rw [if_pos (by rw [hq]), hq, slot_fill he (cs.take t) i hsec.len (fun c h1 => (hc c (List.mem_of_mem_take h1)).1) (by omega) k hq, hlt]
          by_cases hin : i ≤ k ∧ k < i + t
          · rw [if_pos hin, if_pos hin]
            congr 1
            rw [List.getD_eq_getElem?_getD, List.getD_eq_getElem?_getD, List.getElem?_take, if_pos (by omega)]
          · rw [if_neg hin, if_neg hin]
        · rw [if_neg (by omega), if_neg]
          intro hin
          apply hq
          rcases he with rfl | rfl <;> omega
      generalize D.write (start + i / each) (fillS each (D.read (start + i / each)) i (cs.take t)) = D1 at *
      obtain ⟨hnf1, hkeys1, _⟩ := hw
      have hnd1 : D1.keys.Nodup := by
        rw [hkeys1, List.nodup_append]
        refine ⟨hnd, by simp, ?_⟩
        intro a ha b hb
        simp at hb
        subst hb
        intro e
        subst e
        exact hnew ha
      by_cases hrest : t = cs.length
      · have hd : cs.drop t = [] := List.drop_eq_nil_of_le (by omega)
        rw [hd, wrF_nil]
        refine ⟨hnf1, hok1, hnd1, ?_, ?_, ?_, by omega⟩
        · intro x hx
          rw [hkeys1] at hx
          rcases List.mem_append.1 hx with h1 | h1
          · exact .inl h1
          · simp at h1
            subst h1
            exact .inr ⟨hcs, Nat.le_refl _, by omega⟩
        · intro k
          rw [hsl, hrest]
        · intro j hj
          rw [hwr, if_neg]
          rcases hj with h1 | h1 | h1
          · exact absurd h1 hcs
          · omega
          · omega
      · have hlt2 : t < cs.length := by omega
        have hdv := ht3 hlt2
        have hdl : (cs.drop t).length = cs.length - t := List.length_drop ..
        have hend : i + t + (cs.length - t) = i + cs.length := by omega
        have hW := ih D1 (i + t) (cs.drop t) (by omega) hnf1 hok1 hnd1 (by
          intro x hx
          rw [hkeys1] at hx
          rw [hdl, hend, hdv]
          rcases List.mem_append.1 hx with h1 | h1
          · rcases hk x h1 with h2 | h2
            · exact .inl (by omega)
            · exact .inr h2
          · simp at h1
            exact .inl (by omega)) (fun c h1 => hc c (List.mem_of_mem_drop h1)) (by rw [hdl, hend]; exact hst) (by rw [hdl]; omega)
        have hdne : cs.drop t ≠ [] := by
          intro e
          rw [e] at hdl
          simp at hdl
          omega
        refine ⟨hW.nf, hW.ok, hW.nd, ?_, ?_, ?_, ?_⟩
        · intro x hx
          rcases hW.keys x hx with h1 | ⟨_, h2, h3⟩
          · rw [hkeys1] at h1
            rcases List.mem_append.1 h1 with h4 | h4
            · exact .inl h4
            · simp at h4
              subst h4
              exact .inr ⟨hcs, Nat.le_refl _, by omega⟩
          · rw [hdl, hend] at h3
            exact .inr ⟨hcs, by omega, h3⟩
        · intro k
          rw [hW.slot, hsl, hdl]
          by_cases h1 : i + t ≤ k ∧ k < i + t + (cs.length - t)
          · rw [if_pos h1, if_pos (by omega)]
            congr 1
            rw [List.getD_eq_getElem?_getD, List.getD_eq_getElem?_getD, List.getElem?_drop]
            congr 2
            omega
          · rw [if_neg h1]
            by_cases h2 : i ≤ k ∧ k < i + t
            · rw [if_pos h2, if_pos (by omega)]
            · rw [if_neg h2, if_neg (by omega)]
        · intro j hj
          rw [hW.read j, hwr, if_neg]
          · rcases hj with h1 | h1 | h1
            · exact absurd h1 hcs
            · omega
            · omega
          · rw [hdl, hend]
            rcases hj with h1 | h1 | h1
            · exact absurd h1 hcs
            · exact .inr (.inl (by omega))
            · exact .inr (.inr h1)
        · have := hW.fre
          rw [hdl] at this
          omega
theorem rowWrite_spec {start each : Nat} (he : each = 3 ∨ each = 4) (D : Dk) (i : Nat) (cs : List (List Nat)) (hnf : D.nf) (hok : D.ok) (hnd : D.keys.Nodup) (hk : ∀ x ∈ D.keys, x < start + i / each ∨ start + (i + cs.length - 1) / each < x)
    (hc : ∀ c ∈ cs, c.length ≤ 128 / each ∧ ∀ x ∈ c, x < 256) (hst : start + (i + cs.length) / each < 200) (hfe : D.fre.length + cs.length < 1000000) : Wrote start each i cs D (D.rowWrite start each i cs) :=
  wrF_spec he cs.length D i cs (Nat.le_refl _) hnf hok hnd hk hc hst hfe
end Go.Proofs.YtlhohmlpcgbliabGreatDoor
namespace Go.Proofs.YtlhohmlpcgbliabGreatDoor
open Go.RowKit

theorem four_pow (l : Nat) : 4 ^ l = 2 ^ (2 * l) := by rw [Nat.pow_mul]
theorem mth_split {l : List ByteArray} {j : Nat} (h : l.length = 2 * 2 ^ j) : mth l = nodeS (mth (l.take (2 ^ j))) (mth (l.drop (2 ^ j))) := by
  have hp : 0 < 2 ^ j := Nat.two_pow_pos j
  rw [mth_two (by omega), spl_of (j := j) (by omega) (by omega)]
/-- A tree of four equal ones. -/
theorem mth_four {l : List ByteArray} {j : Nat} (h : l.length = 4 * 2 ^ j) : mth l = mth [mth (l.take (2 ^ j)), mth ((l.drop (2 ^ j)).take (2 ^ j)), mth ((l.drop (2 * 2 ^ j)).take (2 ^ j)), mth ((l.drop (3 * 2 ^ j)).take (2 ^ j))] := by
  have e1 : 2 ^ (j + 1) = 2 * 2 ^ j := by rw [Nat.pow_succ]; omega
  rw [mth_split (j := j + 1) (by rw [e1]; omega), e1]
  rw [mth_split (l := l.take (2 * 2 ^ j)) (j := j) (by rw [List.length_take]; omega), mth_split (l := l.drop (2 * 2 ^ j)) (j := j) (by rw [List.length_drop]; omega)]
  rw [mth_split (j := 1) (by rfl : [mth (l.take (2 ^ j)), mth ((l.drop (2 ^ j)).take (2 ^ j)), mth ((l.drop (2 * 2 ^ j)).take (2 ^ j)), mth ((l.drop (3 * 2 ^ j)).take (2 ^ j))].length = 2 * 2 ^ 1)]
  have t2 : ∀ a b : ByteArray, mth [a, b] = nodeS a b := fun a b => by
    rw [mth_split (j := 0) (by rfl)]
    show nodeS (mth [a]) (mth [b]) = _
    rw [mth_one, mth_one]
  show _ = nodeS (mth [_, _]) (mth [_, _])
  rw [t2, t2, List.take_take, Nat.min_eq_left (by omega), List.drop_take, List.drop_drop]
  have e2 : 2 * 2 ^ j - 2 ^ j = 2 ^ j := by omega
  have e3 : 2 * 2 ^ j + 2 ^ j = 3 * 2 ^ j := by omega
  rw [e2, e3]
  congr 2
  rw [List.take_of_length_le]
  rw [List.length_drop]
  omega
theorem levF_spec (f : Nat) : ∀ n, 1 ≤ n → n ≤ f → n = 4 ^ (levF f n).1 * (levF f n).2 := by
  induction f with
  | zero => intro n h1 h2; omega
  | succ f ih =>
    intro n h1 h2
    unfold levF
    split
    · rename_i h4
      have := ih (n / 4) (by omega) (by omega)
      simp only
      rw [Nat.pow_succ, Nat.mul_right_comm, ← this]
      omega
    · simp
theorem lev_spec {n : Nat} (h : 1 ≤ n) : n = 4 ^ (lev n).1 * (lev n).2 := levF_spec n n h (Nat.le_refl _)

/-- The tiles of level l hold the hashes of the trees of the first n. -/
def Tiled (D : Dk) (L : List ByteArray) (n l : Nat) : Prop := ∀ i, (i + 1) * 4 ^ l ≤ n → D.slot (tileAt l).1 4 i = bts (mth ((L.drop (i * 4 ^ l)).take (4 ^ l)))
theorem span_mth {D : Dk} {L : List ByteArray} {n : Nat} (ht : ∀ l, Tiled D L n l) (hn : n ≤ L.length) : ∀ (N m a j : Nat), m ≤ N → m ≤ 2 ^ j → 2 ^ j ∣ a → a + m ≤ n → D.span a m = mth ((L.drop a).take m) := by
  intro N
  induction N with
  | zero =>
    intro m a j h0 _ _ _
    obtain rfl : m = 0 := by omega
    rw [Dk.span_zero, List.take_zero, mth_nil]
  | succ N ih =>
    intro m a j hm hj hd ha
    by_cases h0 : m = 0
    · subst h0
      rw [Dk.span_zero, List.take_zero, mth_nil]
    · by_cases hv : (lev m).2 = 1
      · rw [Dk.span_tile D a m h0 hv]
        have hs := lev_spec (n := m) (by omega)
        rw [hv, Nat.mul_one] at hs
        have hdm : m ∣ a := by
          rw [hs, four_pow]
          refine Nat.dvd_trans ?_ hd
          apply Nat.pow_dvd_pow
          rw [hs, four_pow] at hj
          exact (Nat.pow_le_pow_iff_right (by omega)).1 hj
        have hq : a / m * m = a := Nat.div_mul_cancel hdm
        have := ht (lev m).1 (a / m) (by rw [← hs, Nat.add_mul, hq]; omega)
        rw [this, strOf_bts, ← hs, hq]
      · obtain ⟨hm2, hsp⟩ := Dk.span_two D a m h0 hv
        rw [hsp]
        have hlt := spl_lt hm2
        have hge := spl_ge hm2
        have hpw : spl m = 2 ^ Nat.log2 (m - 1) := rfl
        have hlj : Nat.log2 (m - 1) ≤ j := by
          have h1 : 2 ^ Nat.log2 (m - 1) < 2 ^ (j + 1) := by
            rw [← hpw, Nat.pow_succ]; omega
          have := (Nat.pow_lt_pow_iff_right (by omega : 1 < 2)).1 h1
          omega
        have hda : spl m ∣ a := Nat.dvd_trans (by rw [hpw]; exact Nat.pow_dvd_pow _ hlj) hd
        have hll : ((L.drop a).take m).length = m := by rw [List.length_take, List.length_drop]; omega
        rw [ih (spl m) a (Nat.log2 (m - 1)) (by omega) (by rw [hpw]; exact Nat.le_refl _) (by rw [← hpw]; exact hda) (by omega),
          ih (m - spl m) (a + spl m) (Nat.log2 (m - 1)) (by omega) (by rw [← hpw]; omega) (by rw [← hpw]; exact Nat.dvd_add hda (Nat.dvd_refl _)) (by omega),
          mth_two (l := (L.drop a).take m) (by omega), hll, List.take_take, Nat.min_eq_left (by omega), List.drop_take, List.drop_drop]

theorem hashB_mth {D : Dk} {E : List ByteArray} {n : Nat} (hE : ∀ i s, E[i]? = some s → i < n → unpL (D.slot 6 3 i) = some (bts s)) (hn : n ≤ E.length) : ∀ (l i : Nat), (∀ k, k < l → Tiled D (E.map leafS) n k) → (i + 1) * 4 ^ l ≤ n → D.hashB l i = mth (((E.map leafS).drop (i * 4 ^ l)).take (4 ^ l)) := by
  intro l i ht hi
  cases l with
  | zero =>
    simp only [Nat.pow_zero, Nat.mul_one] at hi ⊢
    obtain ⟨s, hs⟩ : ∃ s, E[i]? = some s := ⟨_, List.getElem?_eq_getElem (by omega)⟩
    rw [Dk.hashB, hE i s hs (by omega), Option.getD_some, strOf_bts]
    have : ((E.map leafS).drop i).take 1 = [leafS s] := by
      rw [List.take_one, List.head?_drop, List.getElem?_map, hs]; rfl
    rw [this, mth_one]
  | succ l =>
    have hp : 4 ^ (l + 1) = 4 * 4 ^ l := by rw [Nat.pow_succ]; omega
    have hc : ∀ j, j < 4 → strOf (D.slot (tileAt l).1 4 (4 * i + j)) = mth (((E.map leafS).drop ((4 * i + j) * 4 ^ l)).take (4 ^ l)) := by
      intro j hj
      have h1 : (4 * i + j + 1) * 4 ^ l ≤ (i + 1) * 4 ^ (l + 1) := by
        rw [hp, show (i + 1) * (4 * 4 ^ l) = ((i + 1) * 4) * 4 ^ l by rw [Nat.mul_assoc]]
        exact Nat.mul_le_mul_right _ (by omega)
      rw [ht l (by omega) (4 * i + j) (by omega), strOf_bts]
    rw [Dk.hashB]
    have hr : (List.range 4).map (fun j => strOf (D.slot (tileAt l).1 4 (4 * i + j))) = [strOf (D.slot (tileAt l).1 4 (4 * i + 0)), strOf (D.slot (tileAt l).1 4 (4 * i + 1)), strOf (D.slot (tileAt l).1 4 (4 * i + 2)), strOf (D.slot (tileAt l).1 4 (4 * i + 3))] := rfl
    rw [hr, hc 0 (by omega), hc 1 (by omega), hc 2 (by omega), hc 3 (by omega)]
    have hlen : (((E.map leafS).drop (i * 4 ^ (l + 1))).take (4 ^ (l + 1))).length = 4 * 2 ^ (2 * l) := by
      have h2 : (i + 1) * 4 ^ (l + 1) = i * 4 ^ (l + 1) + 4 ^ (l + 1) := Nat.succ_mul _ _
      rw [List.length_take, List.length_drop, List.length_map, ← four_pow, ← hp]
      omega
    rw [mth_four hlen, ← four_pow]
    have hx : ∀ j, j < 4 → (((E.map leafS).drop (i * 4 ^ (l + 1))).take (4 ^ (l + 1))).drop (j * 4 ^ l) = ((E.map leafS).drop ((4 * i + j) * 4 ^ l)).take (4 ^ (l + 1) - j * 4 ^ l) := by
      intro j _
      rw [List.drop_take, List.drop_drop]
      congr 2
      rw [hp, Nat.add_mul, Nat.mul_comm i, Nat.mul_assoc, Nat.mul_comm (4 ^ l) i, ← Nat.mul_assoc]
    have hx0 := hx 0 (by omega)
    have hx1 := hx 1 (by omega)
    have hx2 := hx 2 (by omega)
    have hx3 := hx 3 (by omega)
    rw [Nat.zero_mul, List.drop_zero] at hx0
    rw [Nat.one_mul] at hx1
    rw [hx1, hx2, hx3, hx0, List.take_take, List.take_take, List.take_take, List.take_take, hp]
    rw [Nat.min_eq_left (by omega), Nat.min_eq_left (by omega), Nat.min_eq_left (by omega), Nat.min_eq_left (by omega)]
end Go.Proofs.YtlhohmlpcgbliabGreatDoor
namespace Go.Proofs.YtlhohmlpcgbliabGreatDoor
open Go.RowKit

theorem tileAt_step (l : Nat) : (tileAt l).1 ≤ (tileAt (l + 1)).1 := by rw [tileAt]; exact Nat.le_add_right _ _
theorem tileAt_mono {k l : Nat} (h : k ≤ l) : (tileAt k).1 ≤ (tileAt l).1 := by
  induction h with
  | refl => exact Nat.le_refl _
  | step _ ih => exact Nat.le_trans ih (tileAt_step _)
theorem tile_sec {k i : Nat} (h : (i + 1) * 4 ^ k ≤ 64) : (tileAt k).1 + i / 4 < (tileAt (k + 1)).1 := by
  match k, h with
  | 0, h => rw [show tileAt 0 = (28, 64) from rfl, show tileAt (0 + 1) = (44, 16) from rfl]; simp at *; omega
  | 1, h => rw [show tileAt 1 = (44, 16) from rfl, show tileAt (1 + 1) = (48, 4) from rfl]; simp at *; omega
  | 2, h => rw [show tileAt 2 = (48, 4) from rfl, show tileAt (2 + 1) = (49, 1) from rfl]; simp at *; omega
  | 3, h => rw [show tileAt 3 = (49, 1) from rfl, show tileAt (3 + 1) = (50, 0) from rfl]; simp at *; omega
  | k + 4, h =>
    have h1 : 4 ^ 4 ≤ 4 ^ (k + 4) := Nat.pow_le_pow_right (by omega) (by omega)
    have h2 : 4 ^ (k + 4) ≤ (i + 1) * 4 ^ (k + 4) := Nat.le_mul_of_pos_left _ (by omega)
    have h3 : (4 : Nat) ^ 4 = 256 := rfl
    omega
theorem tile_low (l : Nat) : 28 ≤ (tileAt l).1 := tileAt_mono (Nat.zero_le l)
theorem slot_of_read {D R : Dk} {start each k : Nat} (h : R.read (start + k / each) = D.read (start + k / each)) : R.slot start each k = D.slot start each k := by
  unfold Dk.slot
  rw [h]

/-- What the tiles' growing leaves. -/
structure Grown (D R : Dk) (L : List ByteArray) (n : Nat) : Prop where
  nf : R.nf
  ok : R.ok
  nd : R.keys.Nodup
  keys : ∀ x ∈ R.keys, x ∈ D.keys ∨ 28 ≤ x
  tiled : ∀ k, Tiled R L n k
  read : ∀ j, j < 28 → R.read j = D.read j
  fre : R.fre.length < 1000000

theorem grwF_spec {E : List ByteArray} {first n : Nat} (_hfn : first ≤ n) (hn : n ≤ 64) (hnE : n ≤ E.length) : ∀ (f l : Nat) (D : Dk), D.nf → D.ok → D.keys.Nodup → (∀ x ∈ D.keys, x < (tileAt l).1) → (∀ i s, E[i]? = some s → i < n → unpL (D.slot 6 3 i) = some (bts s)) →
    (∀ k, k < l → Tiled D (E.map leafS) n k) → (∀ k, l ≤ k → Tiled D (E.map leafS) first k) → n / 4 ^ l ≤ f → D.fre.length + f * 100 < 900000 → Grown D (grwF f D first n l (4 ^ l)) (E.map leafS) n := by
  intro f
  induction f with
  | zero =>
    intro l D hnf hok hnd hk hE hlo hhi hf hfe
    refine ⟨hnf, hok, hnd, fun x hx => .inl hx, fun k i hi => ?_, fun _ _ => rfl, by show D.fre.length < 1000000; omega⟩
    by_cases hkl : k < l
    · exact hlo k hkl i hi
    · exfalso
      have h1 : n < 4 ^ l := by
        have hp : 0 < 4 ^ l := Nat.pow_pos (by omega)
        exact (Nat.div_eq_zero_iff_lt hp).1 (Nat.eq_zero_of_le_zero hf)
      have h2 : 4 ^ l ≤ 4 ^ k := Nat.pow_le_pow_right (by omega) (by omega)
      have h3 : 4 ^ k ≤ (i + 1) * 4 ^ k := Nat.le_mul_of_pos_left _ (by omega)
      omega
  | succ f ih =>
    intro l D hnf hok hnd hk hE hlo hhi hf hfe
    have hp : 0 < 4 ^ l := Nat.pow_pos (by omega)
    rw [grwF]
    by_cases hc : first / 4 ^ l < n / 4 ^ l
    · rw [if_pos hc]
      have hT := (tileAt_le l).1
      have hq1 : n / 4 ^ l ≤ n := Nat.div_le_self _ _
      have hqm : ∀ i, i < n / 4 ^ l → (i + 1) * 4 ^ l ≤ n := fun i hi => by
        have h1 : (i + 1) * 4 ^ l ≤ n / 4 ^ l * 4 ^ l := Nat.mul_le_mul_right _ hi
        have h2 := Nat.div_mul_le_self n (4 ^ l)
        omega
      have hqf : ∀ i, i < first / 4 ^ l → (i + 1) * 4 ^ l ≤ first := fun i hi => by
        have h1 : (i + 1) * 4 ^ l ≤ first / 4 ^ l * 4 ^ l := Nat.mul_le_mul_right _ hi
        have h2 := Nat.div_mul_le_self first (4 ^ l)
        omega
      have hqi : ∀ i, (i + 1) * 4 ^ l ≤ n → i < n / 4 ^ l := fun i hi => (Nat.le_div_iff_mul_le hp).2 hi
      have hlen : ((D.hashes l (first / 4 ^ l) (n / 4 ^ l)).map bts).length = n / 4 ^ l - first / 4 ^ l := by simp [Dk.hashes]
      have hf4 : n / 4 ^ (l + 1) ≤ f := by
        rw [Nat.pow_succ, ← Nat.div_div_eq_div_mul]
        generalize n / 4 ^ l = q at *
        omega
      have hcs : ∀ j, j < n / 4 ^ l - first / 4 ^ l → ((D.hashes l (first / 4 ^ l) (n / 4 ^ l)).map bts).getD j [] = bts (D.hashB l (first / 4 ^ l + j)) := by
        intro j hj
        rw [List.getD_eq_getElem?_getD, Dk.hashes, List.map_map, List.getElem?_map, List.getElem?_range hj]
        rfl
      have hcc : ∀ c ∈ (D.hashes l (first / 4 ^ l) (n / 4 ^ l)).map bts, c.length = 32 ∧ ∀ x ∈ c, x < 256 := by
        intro c h1
        obtain ⟨y, h2, rfl⟩ := List.mem_map.1 h1
        obtain ⟨j, _, rfl⟩ := List.mem_map.1 h2
        exact ⟨by rw [bts_length, hashB_size], bts_byte _⟩
      have hlast := tile_sec (k := l) (i := n / 4 ^ l - 1) (by rw [Nat.sub_add_cancel (Nat.lt_of_le_of_lt (Nat.zero_le _) hc)]; exact Nat.le_trans (Nat.div_mul_le_self n (4 ^ l)) hn)
      have hB : ∀ i, first / 4 ^ l ≤ i → i < n / 4 ^ l → D.hashB l i = mth (((E.map leafS).drop (i * 4 ^ l)).take (4 ^ l)) := fun i _ hi => hashB_mth hE hnE l i hlo (hqm i hi)
      generalize (D.hashes l (first / 4 ^ l) (n / 4 ^ l)).map bts = cs at *
      generalize hg0 : first / 4 ^ l = q0 at *
      generalize hg1 : n / 4 ^ l = q1 at *
      have hW := rowWrite_spec (start := (tileAt l).1) (each := 4) (.inr rfl) D q0 cs hnf hok hnd (fun x hx => .inl (by have := hk x hx; omega)) (fun c h1 => ⟨by rw [(hcc c h1).1]; decide, (hcc c h1).2⟩) (by rw [hlen]; omega) (by rw [hlen]; omega)
      generalize D.rowWrite (tileAt l).1 4 q0 cs = R1 at *
      have hrow : ∀ i, i < q1 → R1.slot (tileAt l).1 4 i = if q0 ≤ i then bts (D.hashB l i) else D.slot (tileAt l).1 4 i := by
        intro i hi
        rw [hW.slot, hlen]
        by_cases h1 : q0 ≤ i
        · rw [if_pos (by omega), if_pos h1, hcs _ (by omega), show q0 + (i - q0) = i by omega]
          unfold pad
          rw [bts_length, hashB_size]
          simp
        · rw [if_neg (by omega), if_neg h1]
      have hne : cs ≠ [] := by intro e; rw [e] at hlen; simp at hlen; omega
      have hlowr : ∀ j, j < (tileAt l).1 → R1.read j = D.read j := fun j hj => hW.read j (.inr (.inl (by omega)))
      have hhighr : ∀ j, (tileAt (l + 1)).1 ≤ j → R1.read j = D.read j := fun j hj => hW.read j (.inr (.inr (by rw [hlen, show q0 + (q1 - q0) - 1 = q1 - 1 by omega]; omega)))
      have hstep := tileAt_step l
      have hlw := tile_low l
      rw [show 4 ^ l * 4 = 4 ^ (l + 1) from (Nat.pow_succ ..).symm]
      have hfre := hW.fre
      rw [hlen] at hfre
      have hG := ih (l + 1) R1 hW.nf hW.ok hW.nd ?_ ?_ ?_ ?_ hf4 (by omega)
      · refine ⟨hG.nf, hG.ok, hG.nd, ?_, hG.tiled, ?_, hG.fre⟩
        · intro x hx
          rcases hG.keys x hx with h1 | h1
          · rcases hW.keys x h1 with h2 | ⟨_, h2, _⟩
            · exact .inl h2
            · exact .inr (by omega)
          · exact .inr h1
        · intro j hj
          rw [hG.read j hj, hlowr j (by omega)]
      · intro x hx
        rcases hW.keys x hx with h1 | ⟨_, _, h3⟩
        · have := hk x h1; omega
        · rw [hlen, show q0 + (q1 - q0) - 1 = q1 - 1 by omega] at h3
          omega
      · intro i s hs hi
        rw [slot_of_read (hlowr _ (by omega))]
        exact hE i s hs hi
      · intro k hkl i hi
        by_cases hk2 : k = l
        · subst hk2
          have hiq := hqi i hi
          rw [hrow i hiq]
          by_cases h1 : q0 ≤ i
          · rw [if_pos h1, hB i h1 hiq]
          · rw [if_neg h1]
            exact hhi k (Nat.le_refl _) i (hqf i (by omega))
        · have hkl2 : k < l := by omega
          have h1 := tile_sec (k := k) (i := i) (by omega)
          have h2 := tileAt_mono (k := k + 1) (l := l) (by omega)
          rw [slot_of_read (hlowr _ (by omega))]
          exact hlo k hkl2 i hi
      · intro k hkl i hi
        have h2 := tileAt_mono (k := l + 1) (l := k) hkl
        rw [slot_of_read (hhighr _ (by omega))]
        exact hhi k (by omega) i hi
    · rw [if_neg hc]
      refine ⟨hnf, hok, hnd, fun x hx => .inl hx, fun k i hi => ?_, fun _ _ => rfl, by omega⟩
      by_cases hkl : k < l
      · exact hlo k hkl i hi
      · refine hhi k (by omega) i ?_
        have hpk : 0 < 4 ^ k := Nat.pow_pos (by omega)
        have h1 : i + 1 ≤ n / 4 ^ k := (Nat.le_div_iff_mul_le hpk).2 hi
        have h2 : n / 4 ^ k ≤ first / 4 ^ k := by
          have e : 4 ^ k = 4 ^ l * 4 ^ (k - l) := by rw [← Nat.pow_add, Nat.add_sub_cancel' (by omega)]
          rw [e, ← Nat.div_div_eq_div_mul, ← Nat.div_div_eq_div_mul]
          exact Nat.div_le_div_right (by omega)
        exact (Nat.le_div_iff_mul_le hpk).1 (by omega)
theorem grow_spec {E : List ByteArray} {first n : Nat} (hfn : first ≤ n) (hn : n ≤ 64) (hnE : n ≤ E.length) (D : Dk) (hnf : D.nf) (hok : D.ok) (hnd : D.keys.Nodup) (hk : ∀ x ∈ D.keys, x < 28) (hE : ∀ i s, E[i]? = some s → i < n → unpL (D.slot 6 3 i) = some (bts s))
    (hT : ∀ k, Tiled D (E.map leafS) first k) (hfe : D.fre.length < 800000) : Grown D (D.grow first n) (E.map leafS) n :=
  grwF_spec hfn hn hnE n 0 D hnf hok hnd hk hE (fun k hk => by omega) (fun k _ => hT k) (by simp) (by omega)

/-- The disk holds the log of these entries; nothing is pending. -/
structure Holds (D : Dk) (E : List ByteArray) : Prop where
  nf : D.nf
  ok : D.ok
  fre : D.fre = []
  len : E.length ≤ 64
  siz : ∀ s ∈ E, s.size ≤ 40
  ck : D.read 0 = ckSec E.length (bts (mth (E.map leafS)))
  jn : D.read 1 = zer
  ent : ∀ i s, E[i]? = some s → unpL (D.slot 6 3 i) = some (bts s)
  til : ∀ k, Tiled D (E.map leafS) E.length k
theorem mth32 {E : List ByteArray} : (mth (E.map leafS)).size = 32 := by
  by_cases h : 2 ≤ (E.map leafS).length
  · rw [mth_two h, nodeS_size]
  · match E, h with
    | [], _ => rw [List.map_nil, mth_nil, shaS_size]
    | [s], _ => rw [List.map_cons, List.map_nil, mth_one, leafS_size]
    | _ :: _ :: _, h => simp at h
theorem ck_n {n : Nat} {r : List Nat} (hr : r.length = 32) : (ckSec n r).getD 16 0 = n ∧ ((ckSec n r).drop 17).take 32 = r := by
  have e : ckSec n r = markC ++ (n :: (r ++ List.replicate (128 - (markC ++ n :: r).length) 0)) := by
    unfold ckSec secOf
    rw [List.append_assoc, List.cons_append]
  have hm : markC.length = 16 := rfl
  rw [e]
  refine ⟨?_, ?_⟩
  · rw [List.getD_eq_getElem?_getD, List.getElem?_append_right (by omega), hm]
    rfl
  · rw [List.drop_append, List.drop_eq_nil_of_le (by omega), List.nil_append, hm, show 17 - 16 = 0 + 1 from rfl, List.drop_succ_cons, List.drop_zero, List.take_append_of_le_length (by omega), List.take_of_length_le (by omega)]
theorem Holds.ckN {D : Dk} {E : List ByteArray} (h : Holds D E) : D.ckN = E.length := by
  unfold Dk.ckN
  rw [h.ck]
  exact (ck_n (by rw [bts_length, mth32])).1
theorem Holds.ckR {D : Dk} {E : List ByteArray} (h : Holds D E) : D.ckR = bts (mth (E.map leafS)) := by
  unfold Dk.ckR
  rw [h.ck]
  exact (ck_n (by rw [bts_length, mth32])).2
theorem Holds.entry {D : Dk} {E : List ByteArray} (h : Holds D E) {i : Nat} {s : ByteArray} (hs : E[i]? = some s) : D.entry i = s := by
  unfold Dk.entry
  rw [h.ent i s hs, Option.getD_some, strOf_bts]
theorem unp_pad {s : ByteArray} (h : s.size ≤ 40) : unpL (pad 3 (bts (packS s))) = some (bts s) := by
  have hb : bts (packS s) = s.size :: bts s := by
    unfold packS
    refine bts_strOf (byt_ok ?_)
    intro x hx
    rcases List.mem_cons.1 hx with rfl | h3
    · omega
    · exact bts_byte s x h3
  unfold pad unpL
  rw [hb, List.cons_append, List.getD_cons_zero, if_pos h, List.drop_succ_cons, List.drop_zero, List.take_append_of_le_length (by simp), List.take_of_length_le (by simp)]
end Go.Proofs.YtlhohmlpcgbliabGreatDoor
namespace Go.Proofs.YtlhohmlpcgbliabGreatDoor
open Go.RowKit

theorem keys_nil {D : Dk} (h : D.fre = []) : D.keys = [] := by simp [Dk.keys, h]
/-- A sector that is written and flushed. -/
theorem put_one {D : Dk} (hnf : D.nf) (hok : D.ok) (hf : D.fre = []) {i : Nat} {s : List Nat} (hi : i < 200) (hs : Sec s) : (D.write i s).flush.nf ∧ (D.write i s).flush.ok ∧ (D.write i s).flush.fre = [] ∧ ∀ j, j < 200 → (D.write i s).flush.read j = if j = i then s else D.read j := by
  have hw := hnf.write i s
  have hk := keys_nil hf
  have hok1 := hok.write hi hs (by rw [hf]; simp)
  have hnd : (D.write i s).keys.Nodup := by rw [hw.2.1, hk]; simp
  refine ⟨hw.1.flush.1, hok1.flush, hw.1.flush.2, fun j hj => ?_⟩
  rw [hw.1.flush_read hok1 hnd j hj, hnf.write_read i s (by rw [hk]; simp)]
theorem packs_ok {W : List ByteArray} (hz : ∀ s ∈ W, s.size ≤ 40) : ∀ c ∈ packs W, c.length ≤ 128 / 3 ∧ ∀ x ∈ c, x < 256 := by
  intro c hc
  obtain ⟨y, hy, rfl⟩ := List.mem_map.1 hc
  obtain ⟨s, hs, rfl⟩ := List.mem_map.1 hy
  have := packS_size (hz s hs)
  exact ⟨by rw [bts_length]; show _ ≤ 42; omega, bts_byte _⟩
theorem packs_get {W : List ByteArray} {i : Nat} {s : ByteArray} (h : W[i]? = some s) : (packs W).getD i [] = bts (packS s) := by
  unfold packs
  rw [List.getD_eq_getElem?_getD, List.getElem?_map, List.getElem?_map, h]
  rfl
theorem drop_app {L M : List ByteArray} {a m : Nat} (h : a + m ≤ L.length) : ((L ++ M).drop a).take m = (L.drop a).take m := by
  rw [List.drop_append_of_le_length (by omega), List.take_append_of_le_length (by rw [List.length_drop]; omega)]

/-- The journal is written: all but sectors 1 to 5 is as it was. -/
theorem jwrite_spec {D : Dk} (hnf : D.nf) (hok : D.ok) (hf : D.fre = []) {n : Nat} {W : List ByteArray} (hn : n < 256) (hW : W.length ≤ 12) (hz : ∀ s ∈ W, s.size ≤ 40) : (D.jwrite n W).nf ∧ (D.jwrite n W).ok ∧ (D.jwrite n W).fre = [] ∧ ∀ j, j < 200 → (j = 0 ∨ 6 ≤ j) → (D.jwrite n W).read j = D.read j := by
  have hk := keys_nil hf
  have hr := rowWrite_spec (start := 2) (each := 3) (.inl rfl) D 0 (packs W) hnf hok (by rw [hk]; simp) (by rw [hk]; simp) (packs_ok hz) (by rw [packs_len]; omega) (by rw [hf, packs_len]; simp; omega)
  have hfl := hr.nf.flush
  have hp := put_one hfl.1 hr.ok.flush hfl.2 (i := 1) (s := hdSec n W.length) (by omega) (hdSec_sec hn (by omega))
  refine ⟨hp.1, hp.2.1, hp.2.2.1, fun j hj h0 => ?_⟩
  show (((D.rowWrite 2 3 0 (packs W)).flush.write 1 (hdSec n W.length)).flush).read j = _
  rw [hp.2.2.2 j hj, if_neg (by omega), hr.nf.flush_read hr.ok hr.nd j hj]
  apply hr.read
  rw [packs_len]
  by_cases hw0 : W.length = 0
  · exact .inl (List.eq_nil_of_length_eq_zero (by rw [packs_len]; exact hw0))
  · right
    omega

theorem zer_sec : Sec zer := ⟨by simp [zer], fun x hx => by rw [(List.mem_replicate.1 hx).2]; omega⟩
/-- What waits is in the log. -/
theorem add_spec {D : Dk} {E W : List ByteArray} (h : Holds D E) (hW : W.length ≤ 12) (hz : ∀ s ∈ W, s.size ≤ 40) (hl : E.length + W.length ≤ 64) : Holds (D.add W) (E ++ W) := by
  have hn := h.ckN
  unfold Dk.add
  rw [hn]
  obtain ⟨jnf, jok, jfre, jread⟩ := jwrite_spec h.nf h.ok h.fre (n := E.length) (W := W) (by omega) hW hz
  have hj0 : (D.jwrite E.length W).ckN = E.length := by
    unfold Dk.ckN at hn ⊢
    rw [jread 0 (by omega) (.inl rfl)]
    exact hn
  unfold Dk.endJ
  rw [if_pos hj0]
  have jent : ∀ i s, E[i]? = some s → unpL ((D.jwrite E.length W).slot 6 3 i) = some (bts s) := fun i s hs => by
    have hi : i < E.length := (List.getElem?_eq_some_iff.1 hs).1
    rw [slot_of_read (jread _ (by omega) (.inr (by omega)))]
    exact h.ent i s hs
  have jtil : ∀ k, Tiled (D.jwrite E.length W) (E.map leafS) E.length k := fun k i hi => by
    have h1 := tile_sec (k := k) (i := i) (by omega)
    have h2 := (tileAt_le (k + 1)).1
    have h3 := tile_low k
    rw [slot_of_read (jread _ (by omega) (.inr (by omega)))]
    exact h.til k i hi
  generalize D.jwrite E.length W = D4 at *
  have hk4 := keys_nil jfre
  have hr := rowWrite_spec (start := 6) (each := 3) (.inl rfl) D4 E.length (packs W) jnf jok (by rw [hk4]; simp) (by rw [hk4]; simp) (packs_ok hz) (by rw [packs_len]; omega) (by rw [jfre, packs_len]; simp; omega)
  have hEW : (E ++ W).length = E.length + W.length := List.length_append
  have rent : ∀ i s, (E ++ W)[i]? = some s → i < E.length + W.length → unpL ((D4.rowWrite 6 3 E.length (packs W)).slot 6 3 i) = some (bts s) := by
    intro i s hs hi
    rw [hr.slot, packs_len]
    by_cases h1 : i < E.length
    · rw [List.getElem?_append_left h1] at hs
      rw [if_neg (by omega)]
      exact jent i s hs
    · rw [List.getElem?_append_right (by omega)] at hs
      rw [if_pos (by omega), packs_get hs]
      exact unp_pad (hz s (List.mem_of_getElem? hs))
  have rread : ∀ j, (j < 6 ∨ 28 ≤ j) → (D4.rowWrite 6 3 E.length (packs W)).read j = D4.read j := fun j hj => by
    apply hr.read
    rw [packs_len]
    by_cases hw0 : W.length = 0
    · exact .inl (List.eq_nil_of_length_eq_zero (by rw [packs_len]; exact hw0))
    · right
      omega
  have rtil : ∀ k, Tiled (D4.rowWrite 6 3 E.length (packs W)) ((E ++ W).map leafS) E.length k := fun k i hi => by
    have h3 := tile_low k
    rw [slot_of_read (rread _ (.inr (by omega))), jtil k i hi, List.map_append, drop_app]
    have : (i + 1) * 4 ^ k = i * 4 ^ k + 4 ^ k := Nat.succ_mul _ _
    rw [List.length_map]
    omega
  have rkeys : ∀ x ∈ (D4.rowWrite 6 3 E.length (packs W)).keys, x < 28 := fun x hx => by
    rcases hr.keys x hx with h1 | ⟨hne, _, h3⟩
    · rw [hk4] at h1; simp at h1
    · rw [packs_len] at h3
      have : 0 < W.length := by
        rw [← packs_len]
        cases hq : packs W with
        | nil => exact absurd hq hne
        | cons _ _ => simp
      omega
  have hfre := hr.fre
  rw [jfre, packs_len] at hfre
  have hg := grow_spec (E := E ++ W) (first := E.length) (n := E.length + W.length) (by omega) hl (by rw [hEW]; exact Nat.le_refl _) _ hr.nf hr.ok hr.nd rkeys rent rtil (by simp at hfre; omega)
  unfold Dk.put
  generalize D4.rowWrite 6 3 E.length (packs W) = D5 at *
  generalize D5.grow E.length (E.length + W.length) = D6 at *
  have hfl := hg.nf.flush
  have hok7 := hg.ok.flush
  have hrd7 := hg.nf.flush_read hg.ok hg.nd
  generalize D6.flush = D7 at *
  have til7 : ∀ k, Tiled D7 ((E ++ W).map leafS) (E.length + W.length) k := fun k i hi => by
    have h1 := tile_sec (k := k) (i := i) (by omega)
    have h2 := (tileAt_le (k + 1)).1
    rw [slot_of_read (hrd7 _ (by omega))]
    exact hg.tiled k i hi
  have hroot : D7.span 0 (E.length + W.length) = mth ((E ++ W).map leafS) := by
    rw [span_mth til7 (by rw [List.length_map, hEW]; exact Nat.le_refl _) (E.length + W.length) (E.length + W.length) 0 6 (Nat.le_refl _) (by show _ ≤ 64; exact hl) (Nat.dvd_zero _) (by omega), List.drop_zero, List.take_of_length_le (by rw [List.length_map, hEW]; exact Nat.le_refl _)]
  have low7 : ∀ j, j < 28 → D7.read j = D5.read j := fun j hj => by rw [hrd7 j (by omega), hg.read j hj]
  unfold Dk.ckp
  rw [hroot]
  have h32 := mth32 (E := E ++ W)
  have hp8 := put_one hfl.1 hok7 hfl.2 (i := 0) (s := ckSec (E.length + W.length) (bts (mth ((E ++ W).map leafS)))) (by omega) (ckSec_sec (by omega) (by omega))
  generalize (D7.write 0 (ckSec (E.length + W.length) (bts (mth ((E ++ W).map leafS))))).flush = D8 at *
  unfold Dk.rmJ
  have hp9 := put_one hp8.1 hp8.2.1 hp8.2.2.1 (i := 1) (s := zer) (by omega) zer_sec
  generalize (D8.write 1 zer).flush = D9 at *
  have hi9 : ∀ j, 2 ≤ j → j < 200 → D9.read j = D7.read j := fun j h1 h2 => by
    rw [hp9.2.2.2 j h2, if_neg (by omega), hp8.2.2.2 j h2, if_neg (by omega)]
  refine ⟨hp9.1, hp9.2.1, hp9.2.2.1, by rw [hEW]; exact hl, ?_, ?_, ?_, ?_, ?_⟩
  · intro s hs
    rcases List.mem_append.1 hs with h1 | h1
    · exact h.siz s h1
    · exact hz s h1
  · rw [hp9.2.2.2 0 (by omega), if_neg (by omega), hp8.2.2.2 0 (by omega), if_pos rfl, hEW]
  · rw [hp9.2.2.2 1 (by omega), if_pos rfl]
  · intro i s hs
    have hi : i < E.length + W.length := by rw [← hEW]; exact (List.getElem?_eq_some_iff.1 hs).1
    rw [slot_of_read (hi9 _ (by omega) (by omega)), slot_of_read (low7 _ (by omega))]
    exact rent i s hs hi
  · intro k i hi
    rw [hEW] at hi
    have h1 := tile_sec (k := k) (i := i) (by omega)
    have h2 := (tileAt_le (k + 1)).1
    have h3 := tile_low k
    rw [slot_of_read (hi9 _ (by omega) (by omega))]
    exact til7 k i hi
end Go.Proofs.YtlhohmlpcgbliabGreatDoor
namespace Go.Proofs.YtlhohmlpcgbliabGreatDoor
open Go.RowKit

theorem secs_zero (n : Nat) : secs n (List.replicate (n * 128) 0) = List.replicate n (List.replicate 128 0) := by
  induction n with
  | zero => rfl
  | succ n ih =>
    rw [secs, List.take_replicate, List.drop_replicate, show (n + 1) * 128 - 128 = n * 128 by omega, ih, Nat.min_eq_left (by omega)]
    exact (List.replicate_succ ..).symm
theorem zero_ok : (Dk.of (List.replicate 25600 0)).ok := Dk.of_ok (by rw [List.length_replicate]) (fun x hx => by rw [(List.mem_replicate.1 hx).2]; omega)
theorem zero_read {j : Nat} (hj : j < 200) : (Dk.of (List.replicate 25600 0)).read j = zer := by
  unfold Dk.read Dk.of
  simp only [List.find?_nil, Option.map_none, Option.getD_none]
  have := secs_zero 200
  rw [show 200 * 128 = 25600 from rfl] at this
  rw [this, List.getD_eq_getElem?_getD, List.getElem?_replicate, if_pos hj]
  rfl
theorem fresh_holds : Holds Dk.fresh [] := by
  have hz : (Dk.of (List.replicate 25600 0)).nf := ⟨rfl, rfl⟩
  have h32 : (shaS []).size = 32 := shaS_size []
  obtain ⟨p1, p2, p3, p4⟩ := put_one hz zero_ok (by rfl) (i := 0) (s := ckSec 0 (bts (shaS []))) (by omega) (ckSec_sec (by omega) (by omega))
  unfold Dk.fresh
  rw [Dk.of_flat _ p2]
  generalize ((Dk.of (List.replicate 25600 0)).write 0 (ckSec 0 (bts (shaS [])))).flush = F at *
  have hr : ∀ j, ({ F with fre := [], acts := 0, set := false, left := 0, keep := 0, failed := false } : Dk).read j = F.read j := by
    intro j
    unfold Dk.read
    rw [p3]
  refine ⟨⟨rfl, rfl⟩, ⟨p2.las, p2.sec, fun x hx => by simp at hx, by simp⟩, rfl, by simp, fun s hs => by simp at hs, ?_, ?_, fun i s hs => by simp at hs, ?_⟩
  · rw [hr, p4 0 (by omega), if_pos rfl, List.map_nil, mth_nil]; rfl
  · rw [hr, p4 1 (by omega), if_neg (by omega), zero_read (by omega)]
  · intro k i hi
    have : 0 < (i + 1) * 4 ^ k := Nat.mul_pos (by omega) (Nat.pow_pos (by omega))
    exact absurd hi (by simp only [List.length_nil]; omega)
end Go.Proofs.YtlhohmlpcgbliabGreatDoor
