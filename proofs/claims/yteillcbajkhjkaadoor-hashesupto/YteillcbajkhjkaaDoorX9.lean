import Derived.Test.YteillcbajkhjkaaDoorX8
namespace Go.Proofs.YteillcbajkhjkaaDoor
open Go.RowKit
attribute [local go_sem ↓] Go.wp_at_zero Go.wp_at_succ

set_option maxRecDepth 100000 in
set_option maxHeartbeats 1000000 in
theorem add_any (b : Nat) (l : List Nat) (part : ByteArray) (w : World) (hf : Fed w b l (l.length : Int)) (hlen : l.length + part.size < 4611686018427387904) (ht : Table w) (hg : 2 < w.heap.size) (hb : b ≠ 2) :
    Calls Tryd.prog 44 #[.pointer (some ⟨b, 0, none⟩), .string part] w fun e w' => e = .returned (.tuple #[]) ∧ Kept w.heap.size b w w' ∧ Fed w' b (l ++ bts part) ((l ++ bts part).length : Int) := by
  obtain ⟨bl, hh, hm⟩ := hf
  have hl8 : (Sha.behind l).list.length = 8 := rfl
  have k73 := hm.cell 73
  rw [msg_len hl8 hh.1] at k73
  have f73 := hm.frozen 73
  have HF : Hid (Fed (w.setCell ⟨b, 73, none⟩ (.int .u64 ((l.length : Int) + (part.size : Int)))) b l ((l.length : Int) + (part.size : Int))) := ⟨bl, hh, (hm.set 73 _).eq (msg_set_len hl8 hh.1 _)⟩
  have HK : Hid (Kept w.heap.size b w (w.setCell ⟨b, 73, none⟩ (.int .u64 ((l.length : Int) + (part.size : Int))))) := by
    show Kept _ _ _ _
    exact (Kept.refl _ _ _).setCell ⟨b, 73, none⟩ (Or.inl rfl) _
  have HT : Hid (Table (w.setCell ⟨b, 73, none⟩ (.int .u64 ((l.length : Int) + (part.size : Int))))) := table_kept HK.out hg hb ht
  have HG : Hid (2 < (w.setCell ⟨b, 73, none⟩ (.int .u64 ((l.length : Int) + (part.size : Int)))).heap.size) := Nat.lt_of_lt_of_le hg HK.out.size
  clear hh hm ht
  go_enter Tryd.func44, Tryd.ntmps44
  go_wp2
  refine addB0_wp b l part _ _ _ HF.out (by omega) HT.out HG.out hb ?_
  intro u1 u4 u15 u16 u17 u18 u19 u20 u21 u22 u23 u24 u25 u26 u27 u28 u29 u30 u31 u32 u33 u34 u35 u36 u37 u38 u39 u40 u41 u42 u43 u44 u45 u46 u47 u48 w2 hk2 hf2
  simp only [Exit.inBlock, if_true]
  go_end0
  refine ⟨rfl, HK.out.trans (hk2.mono HK.out.size), ?_⟩
  rw [List.length_append, bts_length]
  exact hf2

noncomputable def padR0 : Code := ((Tryd.f45.body.bind (findRegion 0)).getD .skip)
noncomputable def padR1 : Code := ((Tryd.f45.body.bind (findRegion 1)).getD .skip)
noncomputable def padB0 : Code := ((Tryd.f45.body.bind (findBlock 0)).getD .skip)

theorem zero5 (w : World) : (zeroValue 5).run Tryd.prog w = .ok (.int .u8 0) w := by kernel_rfl
theorem run_clear (w : World) (b o n c : Nat) (ty : TypeId) (hn : 0 < n) (ht : w.there b o n) :
    (Builtin.clear_ #[52] ty #[.slice (some ⟨b, o, none⟩) n c]).run Tryd.prog w = .ok (.tuple #[]) (w.setCells b o (u8s (List.replicate n 0))) := by
  have := Lib.run_clear_slice (P := Tryd.prog) w 52 5 ty (.int .u8 0) Tryd.underlying52 zero5 rfl rfl b o n c hn (fun j hj => (ht j hj).1) (fun j hj => (ht j hj).2)
  rw [this]
  simp [u8s]
theorem run_clear0 (w : World) (b o c : Nat) (ty : TypeId) :
    (Builtin.clear_ #[52] ty #[.slice (some ⟨b, o, none⟩) 0 c]).run Tryd.prog w = .ok (.tuple #[]) w := by
  simp [Builtin.clear_, run_underlying Tryd.underlying52]

/-- The last j bytes of the length, written from the end on. -/
def tailK (base : List Nat) (n : Nat) : Nat → List Nat
  | 0 => base
  | j + 1 => (tailK base n j).set (63 - j) (n / 256 ^ j % 256)
theorem tailK_length (base : List Nat) (n j : Nat) : (tailK base n j).length = base.length := by
  induction j with
  | zero => rfl
  | succ j ih => simp [tailK, ih]
theorem tailK_ok {base : List Nat} (h : Sha.bytesOk base) (n j : Nat) : Sha.bytesOk (tailK base n j) := by
  induction j with
  | zero => exact h
  | succ j ih =>
    intro i
    rw [tailK, List.getD_eq_getElem?_getD, List.getElem?_set]
    have := ih i
    rw [List.getD_eq_getElem?_getD] at this
    split
    · split
      · simpa using Nat.mod_lt _ (by omega)
      · simp
    · exact this
theorem tailK_eight (base : List Nat) (n : Nat) (h : base.length = 64) : tailK base n 8 = base.take 56 ++ Sha.be8 n := by
  have hd : (base.drop 56).length = 8 := by simp [h]
  obtain ⟨x0, x1, x2, x3, x4, x5, x6, x7, hx⟩ : ∃ x0 x1 x2 x3 x4 x5 x6 x7, base.drop 56 = [x0, x1, x2, x3, x4, x5, x6, x7] := by
    match hq : base.drop 56, hd with
    | [x0, x1, x2, x3, x4, x5, x6, x7], _ => exact ⟨x0, x1, x2, x3, x4, x5, x6, x7, rfl⟩
  have hb : base = base.take 56 ++ [x0, x1, x2, x3, x4, x5, x6, x7] := by rw [← hx, List.take_append_drop]
  have hl : (base.take 56).length = 56 := by simp [h]
  generalize base.take 56 = a at *
  subst hb
  simp only [tailK]
  simp [List.set_append_right, hl, Sha.be8]

set_option maxRecDepth 100000 in
set_option maxHeartbeats 1000000 in
theorem padB0_wp {c1 c4 c5 c6 c7 c8 c9 c10 c11 c12 c13 c14 c15 c16 c17 c18 c19 c20 c21 c22 c23 c24 c25 c26 c27 c28 c29 c30 c31 c32 c33 c34 c35 c36 c37 c38 c39 c40 c41 c42 c43 c44 c45 c46 c47 c48 c49 c50 c51 : Value} (b n : Nat) (s base : List Nat) (fi le : Int) (w : World) (Q : Exit → Act → World → Prop) (hn : n < 18446744073709551616) (hs : s.length = 8) (h64 : base.length = 64) (hm : Blk w b 63 (msg s base fi le))
  (hQ : ∀ (u2 u3 u37 u38 u39 u40 u41 u42 u43 u44 u45 u46 u47 u48 u49 : Value) (w' : World), Kept w.heap.size b w w' → Blk w' b 63 (msg s (tailK base n 8) fi le) → Q (.exit 0) ⟨#[.pointer (some ⟨b, 0, none⟩), c1, u2, u3, c4, c5, c6, c7, c8, c9, c10, c11, c12, c13, c14, c15, c16, c17, c18, c19, c20, c21, c22, c23, c24, c25, c26, c27, c28, c29, c30, c31, c32, c33, c34, c35, c36, u37, u38, u39, u40, u41, u42, u43, u44, u45, u46, u47, u48, u49, c50, c51], []⟩ w') :
  Code.wp Tryd.prog padB0 Q ⟨#[.pointer (some ⟨b, 0, none⟩), c1, .int .u64 (n : Int), .int .i64 63, c4, c5, c6, c7, c8, c9, c10, c11, c12, c13, c14, c15, c16, c17, c18, c19, c20, c21, c22, c23, c24, c25, c26, c27, c28, c29, c30, c31, c32, c33, c34, c35, c36, c37, c38, c39, c40, c41, c42, c43, c44, c45, c46, c47, c48, c49, c50, c51], []⟩ w := by
  conv => arg 2; whnf
  try go_wp2
  go_loopw [2, 3] (fun q i wr => ∃ j : Nat, j ≤ 8 ∧ i = .int .i64 (63 - (j : Int)) ∧ q = .int .u64 ((n / 256 ^ j : Nat) : Int) ∧ Kept w.heap.size b w wr ∧ Blk wr b 63 (msg s (tailK base n j) fi le)) (fun _ i _ => (intOf i).toNat - 55)
  case atStart => exact ⟨0, by omega, rfl, by simp, Kept.refl _ _ _, hm⟩
  case round =>
    obtain ⟨j, hj, rfl, rfl, hk, hb⟩ := hrel
    have hlen : (tailK base n j).length = 64 := by rw [tailK_length]; exact h64
    by_cases h0 : j < 8
    · have hc := hb.cell (8 + (63 - j))
      rw [msg_byte hs _ (by omega)] at hc
      have hf := hb.frozen (8 + (63 - j))
      have HS : ∀ x : Nat, Hid (Blk (wr.setCell ⟨b, 8 + (63 - j), none⟩ (.int .u8 (x : Int))) b 63 (msg s ((tailK base n j).set (63 - j) x) fi le)) := fun x =>
        (hb.set _ _).eq (msg_set_byte hs _ x (by omega))
      have HK : ∀ v, Hid (Kept w.heap.size b w (wr.setCell ⟨b, 8 + (63 - j), none⟩ v)) := fun v => by
        show Kept _ _ _ _
        exact hk.setCell _ (Or.inl rfl) _
      have HN : Hid (tailK base n (j + 1) = (tailK base n j).set (63 - j) (n / 256 ^ j % 256)) := rfl
      have hq : n / 256 ^ j < 18446744073709551616 := Nat.lt_of_le_of_lt (Nat.div_le_self _ _) hn
      have HQ : Hid (n / 256 ^ (j + 1) = n / 256 ^ j / 256) := by show _ = _; rw [Nat.pow_succ, Nat.div_div_eq_div_mul]
      generalize n / 256 ^ j = q at *
      generalize (tailK base n j).getD (63 - j) 0 = old at *
      have ij : (63 - (j : Int)).toNat = 63 - j := by omega
      have i0 : (0 : Int) ≤ 63 - (j : Int) := by omega
      have i1 : 63 - (j : Int) < 64 := by omega
      clear hQ hm hb hk
      go_wp2
      have e : (q : Int) % 256 = ((q % 256 : Nat) : Int) := by omega
      rw [e]
      refine ⟨⟨j + 1, by omega, by go_num, ?_, HK _, ?_⟩, by simp [intOf]; omega⟩
      · rw [HQ.out]; simp
      · rw [HN.out]; exact HS _
    · have hj8 : j = 8 := by omega
      subst hj8
      go_wp2
      exact hQ _ _ _ _ _ _ _ _ _ _ _ _ _ _ _ _ hk hb

theorem sliceAt_end (w : World) (b off : Nat) :
    (Instr.sliceAt 60 (.pointer (some ⟨b, off, none⟩)) (some (.int .i64 64)) none none).run Tryd.prog w = .ok (.slice (some ⟨b, off, none⟩) 0 0) w := by
  rw [run_sliceAt_array_l w 60 ⟨b, off, none⟩ Tryd.underlying60 .i64 64 (by omega) (by rw [arr64]; omega), elem64, size5, arr64]
  rfl

set_option maxRecDepth 100000 in
set_option maxHeartbeats 1000000 in
theorem padR0_wp {c1 c2 c3 c4 c5 c6 c7 c8 c9 c10 c11 c12 c13 c14 c15 c16 c17 c18 c19 c20 c21 c22 c23 c24 c25 c26 c27 c28 c29 c30 c31 c32 c33 c34 c35 c36 c37 c38 c39 c40 c41 c42 c43 c44 c45 c46 c47 c48 c49 c50 c51 : Value} (b f : Nat) (s bl : List Nat) (le : Int) (w : World) (Q : Exit → Act → World → Prop) (hf : f < 64) (hs : s.length = 8) (h64 : bl.length = 64) (hm : Blk w b 63 (msg s bl (f : Int) le))
  (hQ : ∀ (u4 u5 u6 u7 u8 u9 u10 u11 : Value) (w' : World), Kept w.heap.size b w w' → Blk w' b 63 (msg s (bl.set f 128) (f : Int) le) → Q .normal ⟨#[.pointer (some ⟨b, 0, none⟩), c1, c2, c3, u4, u5, u6, u7, u8, u9, u10, u11, c12, c13, c14, c15, c16, c17, c18, c19, c20, c21, c22, c23, c24, c25, c26, c27, c28, c29, c30, c31, c32, c33, c34, c35, c36, c37, c38, c39, c40, c41, c42, c43, c44, c45, c46, c47, c48, c49, c50, c51], []⟩ w') :
  Code.wp Tryd.prog padR0 Q ⟨#[.pointer (some ⟨b, 0, none⟩), c1, c2, c3, c4, c5, c6, c7, c8, c9, c10, c11, c12, c13, c14, c15, c16, c17, c18, c19, c20, c21, c22, c23, c24, c25, c26, c27, c28, c29, c30, c31, c32, c33, c34, c35, c36, c37, c38, c39, c40, c41, c42, c43, c44, c45, c46, c47, c48, c49, c50, c51], []⟩ w := by
  conv => arg 2; whnf
  have k72 := hm.cell 72
  rw [msg_filled hs h64] at k72
  have hc := hm.cell (8 + f)
  rw [msg_byte hs _ (by omega)] at hc
  have hfz := hm.frozen (8 + f)
  have HS : Hid (Blk (w.setCell ⟨b, 8 + f, none⟩ (.int .u8 128)) b 63 (msg s (bl.set f 128) (f : Int) le)) := (hm.set _ _).eq (msg_set_byte hs _ 128 (by omega))
  have HK : Hid (Kept w.heap.size b w (w.setCell ⟨b, 8 + f, none⟩ (.int .u8 128))) := by
    show Kept _ _ _ _
    exact (Kept.refl _ _ _).setCell ⟨b, 8 + f, none⟩ (Or.inl rfl) _
  generalize bl.getD f 0 = old at *
  have i0 : (0 : Int) ≤ (f : Int) := by omega
  have i1 : (f : Int) < 64 := by omega
  clear hm
  try go_wp2
  go_region
  exact hQ _ _ _ _ _ _ _ _ _ (HK.out.drewN 1) (HS.out.drewN 1)

set_option maxRecDepth 100000 in
set_option maxHeartbeats 1000000 in
theorem padR1_wp {c1 c2 c3 c4 c5 c6 c7 c8 c9 c10 c11 c12 c13 c14 c15 c16 c17 c18 c19 c20 c21 c22 c23 c24 c25 c26 c27 c28 c29 c30 c31 c32 c33 c34 c35 c36 c37 c38 c39 c40 c41 c42 c43 c44 c45 c46 c47 c48 c49 c50 c51 : Value} (b f : Nat) (s bl : List Nat) (le : Int) (w : World) (Q : Exit → Act → World → Prop) (hf : f < 64) (hs : s.length = 8) (h64 : bl.length = 64) (hm : Blk w b 63 (msg s bl (f : Int) le))
  (hQ : ∀ (u12 u13 u14 u15 u16 u17 u18 u19 u20 : Value) (w' : World), Kept w.heap.size b w w' → Blk w' b 63 (msg s (Sha.put bl (f + 1) (List.replicate (63 - f) 0)) (f : Int) le) → Q .normal ⟨#[.pointer (some ⟨b, 0, none⟩), c1, c2, c3, c4, c5, c6, c7, c8, c9, c10, c11, u12, u13, u14, u15, u16, u17, u18, u19, u20, c21, c22, c23, c24, c25, c26, c27, c28, c29, c30, c31, c32, c33, c34, c35, c36, c37, c38, c39, c40, c41, c42, c43, c44, c45, c46, c47, c48, c49, c50, c51], []⟩ w') :
  Code.wp Tryd.prog padR1 Q ⟨#[.pointer (some ⟨b, 0, none⟩), c1, c2, c3, c4, c5, c6, c7, c8, c9, c10, c11, c12, c13, c14, c15, c16, c17, c18, c19, c20, c21, c22, c23, c24, c25, c26, c27, c28, c29, c30, c31, c32, c33, c34, c35, c36, c37, c38, c39, c40, c41, c42, c43, c44, c45, c46, c47, c48, c49, c50, c51], []⟩ w := by
  conv => arg 2; whnf
  have k72 := hm.cell 72
  rw [msg_filled hs h64] at k72
  have hlenm : (msg s bl (f : Int) le).length = 74 := by simp [msg, hs, h64]
  have i0 : (0 : Int) ≤ (f : Int) := by omega
  have i1 : (f : Int) < 64 := by omega
  by_cases h63 : f = 63
  · subst h63
    have hsl := fun wx => sliceAt_end wx b 8
    have hcl := fun wx ty => run_clear0 wx b 8 0 ty
    have HM : Hid (Blk w b 63 (msg s (Sha.put bl (63 + 1) (List.replicate (63 - 63) 0)) ((63 : Nat) : Int) le)) := hm.eq (by simp [Sha.put, ← h64])
    clear hm
    try go_wp2
    go_region
    exact hQ _ _ _ _ _ _ _ _ _ _ ((Kept.refl _ _ _).drewN 1) (HM.out.drewN 1)
  · have hsl := fun wx => sliceAt_from wx b 8 ((f : Int) + 1) (by omega) (by omega)
    have e1 : ((f : Int) + 1).toNat = f + 1 := by omega
    rw [e1] at hsl
    have e2 : 64 - (f + 1) = 63 - f := by omega
    rw [e2] at hsl
    have hth : w.drew.there b (8 + (f + 1)) (63 - f) := (hm.drewN 1).there _ _ (by rw [hlenm]; omega)
    have hcl := fun ty => run_clear w.drew b (8 + (f + 1)) (63 - f) (63 - f) ty (by omega) hth
    have HM : Hid (Blk (w.drew.setCells b (8 + (f + 1)) (u8s (List.replicate (63 - f) 0))) b 63 (msg s (Sha.put bl (f + 1) (List.replicate (63 - f) 0)) (f : Int) le)) :=
      ((hm.drewN 1).setCells _ _).eq (msg_put hs h64 _ (by simp; omega))
    clear e1 e2
    have HK : Hid (Kept w.heap.size b w (w.drew.setCells b (8 + (f + 1)) (u8s (List.replicate (63 - f) 0)))) := by
      show Kept _ _ _ _
      exact ((Kept.refl _ _ _).drewN 1).setCells _ _ (Or.inl rfl) _
    clear hm hth
    try go_wp2
    go_region
    exact hQ _ _ _ _ _ _ _ _ _ _ HK.out HM.out
end Go.Proofs.YteillcbajkhjkaaDoor
