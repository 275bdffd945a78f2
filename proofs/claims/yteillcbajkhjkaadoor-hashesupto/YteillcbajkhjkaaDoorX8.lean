import Derived.Test.YteillcbajkhjkaaDoorX7
namespace Go.Proofs.YteillcbajkhjkaaDoor
open Go.RowKit
attribute [local go_sem ↓] Go.wp_at_zero Go.wp_at_succ

noncomputable def addB0 : Code := ((Tryd.f44.body.bind (findBlock 0)).getD .skip)

theorem table_kept {w w2 : World} {B b : Nat} (hk : Kept B b w w2) (hg : 2 < B) (hb : b ≠ 2) (ht : Table w) : Table w2 := fun i hi => by
  rw [World.cell?_of_block (w := w) (a := ⟨2, i, none⟩) (hk.block 2 hg (Ne.symm hb))]
  exact ht i hi

theorem fed_full {w : World} {b f : Nat} {ld bl r : List Nat} {len : Int} (hf : f = ld.length % 64) (hh : Sha.Held ld bl) (hr : Sha.bytesOk r) (he : f + r.length = 64)
    (hm : Blk w b 63 (msg (Sha.mix (Sha.behind ld) (Sha.put bl f r)).list (Sha.put bl f r) 0 len)) : Fed w b (ld ++ r) len := by
  subst hf
  obtain ⟨h1, h2, h3⟩ := Sha.feed_full hh hr he
  refine ⟨_, h1, ?_⟩
  rw [h2, h3]
  exact hm
theorem fed_part {w : World} {b f : Nat} {ld bl r : List Nat} {len : Int} (hf : f = ld.length % 64) (hh : Sha.Held ld bl) (hr : Sha.bytesOk r) (hlt : f + r.length < 64)
    (hm : Blk w b 63 (msg (Sha.behind ld).list (Sha.put bl f r) ((f : Int) + (r.length : Int)) len)) : Fed w b (ld ++ r) len := by
  subst hf
  obtain ⟨h1, h2, h3⟩ := Sha.feed_part hh hr hlt
  refine ⟨_, h1, ?_⟩
  rw [h2, h3]
  exact hm

set_option maxRecDepth 100000 in
set_option maxHeartbeats 1000000 in
theorem addB0_wp {c2 c3 c4 c5 c6 c7 c8 c9 c10 c11 c12 c13 c14 c15 c16 c17 c18 c19 c20 c21 c22 c23 c24 c25 c26 c27 c28 c29 c30 c31 c32 c33 c34 c35 c36 c37 c38 c39 c40 c41 c42 c43 c44 c45 c46 c47 c48 : Value} (b : Nat) (l : List Nat) (part : ByteArray) (len : Int) (w : World) (Q : Exit → Act → World → Prop) (hf : Fed w b l len) (hsz : part.size < 4611686018427387904) (ht : Table w) (hg : 2 < w.heap.size) (hb : b ≠ 2)
  (hQ : ∀ (u1 u4 u15 u16 u17 u18 u19 u20 u21 u22 u23 u24 u25 u26 u27 u28 u29 u30 u31 u32 u33 u34 u35 u36 u37 u38 u39 u40 u41 u42 u43 u44 u45 u46 u47 u48 : Value) (w' : World), Kept w.heap.size b w w' → Fed w' b (l ++ bts part) len → Q (.exit 0) ⟨#[.pointer (some ⟨b, 0, none⟩), u1, c2, c3, u4, c5, c6, c7, c8, c9, c10, c11, c12, c13, c14, u15, u16, u17, u18, u19, u20, u21, u22, u23, u24, u25, u26, u27, u28, u29, u30, u31, u32, u33, u34, u35, u36, u37, u38, u39, u40, u41, u42, u43, u44, u45, u46, u47, u48], []⟩ w') :
  Code.wp Tryd.prog addB0 Q ⟨#[.pointer (some ⟨b, 0, none⟩), .string part, c2, c3, c4, c5, c6, c7, c8, c9, c10, c11, c12, c13, c14, c15, c16, c17, c18, c19, c20, c21, c22, c23, c24, c25, c26, c27, c28, c29, c30, c31, c32, c33, c34, c35, c36, c37, c38, c39, c40, c41, c42, c43, c44, c45, c46, c47, c48], []⟩ w := by
  conv => arg 2; whnf
  try go_wp2
  go_loopw [1] (fun p wr => ∃ (rest : ByteArray) (done : List Nat), p = .string rest ∧ bts part = done ++ bts rest ∧ rest.size ≤ part.size ∧ Kept w.heap.size b w wr ∧ Fed wr b (l ++ done) len) (fun p _ => strLen p)
  case atStart => exact ⟨part, [], rfl, rfl, Nat.le_refl _, Kept.refl _ _ _, by simpa using hf⟩
  case round =>
    obtain ⟨rest, done, rfl, hd, hle, hk, bl, hh, hm⟩ := hrel
    by_cases h0 : 0 < rest.size
    · have htr := table_kept hk hg hb ht
      have hgr : 2 < wr.heap.size := Nat.lt_of_lt_of_le hg hk.size
      have HD : Hid (bts part = done ++ bts rest) := hd
      generalize hl : l ++ done = ld at *
      have HL : Hid (l ++ done = ld) := hl
      clear hl hd
      have h64 := hh.1
      have hl8 : (Sha.behind ld).list.length = 8 := rfl
      have k72 := hm.cell 72
      rw [msg_filled hl8 h64] at k72
      have f72 := hm.frozen 72
      have hflt : ld.length % 64 < 64 := Nat.mod_lt _ (by omega)
      obtain ⟨f, hfe⟩ : ∃ f, f = ld.length % 64 := ⟨_, rfl⟩
      obtain ⟨t, hte⟩ : ∃ t, t = min rest.size (64 - f) := ⟨_, rfl⟩
      rw [← hfe] at k72 hflt hm
      have hsl := fun wx => sliceAt_from wx b 8 (f : Int) (by omega) (by omega)
      rw [Int.toNat_natCast] at hsl
      have hlenm : (msg (Sha.behind ld).list bl (f : Int) len).length = 74 := by simp [msg, hl8, h64]
      have hth : wr.drew.there b (8 + f) t := (hm.drewN 1).there _ _ (by rw [hlenm]; omega)
      have hcp := fun ty => run_copy_string wr.drew b (8 + f) (64 - f) (64 - f) rest ty t hte hth
      have ht0 : 0 < t := by omega
      have htr' : t ≤ rest.size := by omega
      have htf : f + t ≤ 64 := by omega
      have HF : Hid (f = ld.length % 64) := hfe
      have HT : Hid (t = min rest.size (64 - f)) := hte
      have HH : Hid (Sha.Held ld bl) := hh
      have HTb : Hid (Table w) := ht
      clear hQ hth hlenm hf ht hfe hte hh
      go_wp2
      go_region
      have hm2 : Blk (wr.drew.setCells b (8 + f) (u8s (List.take t (bts rest)))) b 63 (msg (Sha.behind ld).list (Sha.put bl f (List.take t (bts rest))) (f : Int) len) :=
        ((hm.drewN 1).setCells (8 + f) _).eq (msg_put hl8 h64 f (by simp; omega))
      have hk2 : Kept w.heap.size b w (wr.drew.setCells b (8 + f) (u8s (List.take t (bts rest)))) := (hk.drewN 1).setCells _ _ (Or.inl rfl) _
      have hz2 : (wr.drew.setCells b (8 + f) (u8s (List.take t (bts rest)))).heap.size = wr.heap.size := size_setCells _ _ _ _
      generalize wr.drew.setCells b (8 + f) (u8s (List.take t (bts rest))) = w2 at *
      have h64' : (Sha.put bl f (List.take t (bts rest))).length = 64 := by rw [Sha.put_length _ _ _ (by simp; omega)]; exact h64
      have hr : Sha.bytesOk (List.take t (bts rest)) := Sha.bytesOk_take (bts_ok rest) t
      have hrl : (List.take t (bts rest)).length = t := by simp; omega
      have HR : Hid (bts (rest.extract t rest.size) = List.drop t (bts rest)) := by
        show bts _ = _
        rw [bts_extract, List.take_of_length_le (by simp)]
      have HRT : Hid (bts rest = List.take t (bts rest) ++ bts (rest.extract t rest.size)) := by
        show _ = _
        rw [HR.out, List.take_append_drop]
      have HE : Hid ((rest.extract t rest.size).size = rest.size - t) := by
        show _ = _
        simp
      generalize List.take t (bts rest) = r at *
      have k72' := hm2.cell 72
      rw [msg_filled hl8 h64'] at k72'
      have f72' := hm2.frozen 72
      clear hcp hsl k72 f72 hm hk
      by_cases hfull : f + t = 64
      · have hb1 : (((f : Int) + (t : Int)) == 64) = true := by rw [beq_iff_eq]; omega
        have hm3 := (hm2.set 72 (.int .i64 ((f : Int) + (t : Int)))).eq (msg_set_filled hl8 h64' _)
        have hk3 : Kept w.heap.size b w (w2.setCell ⟨b, 72, none⟩ (.int .i64 ((f : Int) + (t : Int)))) := hk2.setCell _ (Or.inl rfl) _
        have hg3 : 2 < (w2.setCell ⟨b, 72, none⟩ (.int .i64 ((f : Int) + (t : Int)))).heap.size := Nat.lt_of_lt_of_le hg hk3.size
        have HM3 : Hid _ := hm3
        have HK3 : Hid _ := hk3
        have HG3 : Hid _ := hg3
        clear hm3 hk3 hg3
        go_wp2_with fail
        refine (mix_any b (Sha.behind ld) (Sha.put bl f r) ((f : Int) + (t : Int)) len _ (Sha.behind_ok ld) h64' (Sha.put_ok HH.out.2.1 hr f) HM3.out (table_kept HK3.out hg hb HTb.out) HG3.out).mono ?_
        rintro e w4 ⟨rfl, hk4, hm4⟩
        have k4 := hm4.cell 72
        rw [msg_filled rfl h64'] at k4
        have f4 := hm4.frozen 72
        have HM5 : Hid _ := (hm4.set 72 (.int .i64 0)).eq (msg_set_filled rfl h64' 0)
        have HK5 : Hid (Kept w.heap.size b w (w4.setCell ⟨b, 72, none⟩ (.int .i64 0))) := (HK3.out.trans (hk4.mono HK3.out.size)).setCell _ (Or.inl rfl) _
        clear hm4 hk4 hm2 hk2 HM3 HK3 HG3
        go_wp2
        refine ⟨⟨rest.extract t rest.size, done ++ r, rfl, ?_, ?_, HK5.out, ?_⟩, ?_⟩
        · rw [HD.out, List.append_assoc, ← HRT.out]
        · rw [HE.out]; omega
        · rw [← List.append_assoc, HL.out]
          exact fed_full HF.out HH.out hr (by rw [hrl]; exact hfull) HM5.out
        · show (rest.extract t rest.size).size < rest.size
          rw [HE.out]; omega
      · have hb1 : (((f : Int) + (t : Int)) == 64) = false := by rw [beq_eq_false_iff_ne]; omega
        have HM3 : Hid _ := (hm2.set 72 (.int .i64 ((f : Int) + (t : Int)))).eq (msg_set_filled hl8 h64' _)
        have HK3 : Hid (Kept w.heap.size b w (w2.setCell ⟨b, 72, none⟩ (.int .i64 ((f : Int) + (t : Int))))) := hk2.setCell _ (Or.inl rfl) _
        clear hm2 hk2
        go_wp2_with fail
        refine ⟨⟨rest.extract t rest.size, done ++ r, rfl, ?_, ?_, HK3.out, ?_⟩, ?_⟩
        · rw [HD.out, List.append_assoc, ← HRT.out]
        · rw [HE.out]; omega
        · rw [← List.append_assoc, HL.out]
          exact fed_part HF.out HH.out hr (by rw [hrl]; omega) (by rw [hrl]; exact HM3.out)
        · show (rest.extract t rest.size).size < rest.size
          rw [HE.out]; omega
    · have hr0 : bts rest = [] := List.eq_nil_of_length_eq_zero (by rw [bts_length]; omega)
      rw [hr0, List.append_nil] at hd
      go_wp2
      subst hd
      exact hQ _ _ _ _ _ _ _ _ _ _ _ _ _ _ _ _ _ _ _ _ _ _ _ _ _ _ _ _ _ _ _ _ _ _ _ _ _ hk ⟨bl, hh, hm⟩
end Go.Proofs.YteillcbajkhjkaaDoor
