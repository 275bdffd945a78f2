import Derived.Test.YtlhohmlpcgbliabGreatDoorZFed
import Derived.Lib.SliceRun
namespace Go.Proofs.YtlhohmlpcgbliabGreatDoor
open Go.RowKit
attribute [local go_sem ↓] Go.wp_at_zero Go.wp_at_succ

/-- A string's bytes as numbers. -/
def bts (s : ByteArray) : List Nat := s.data.toList.map (·.toNat)
@[simp] theorem bts_length (s : ByteArray) : (bts s).length = s.size := by simp [bts]
theorem bts_ok (s : ByteArray) : Sha.bytesOk (bts s) := by
  intro i
  rw [List.getD_eq_getElem?_getD]
  simp only [bts, List.getElem?_map]
  cases h : s.data.toList[i]? with
  | none => simp
  | some x => simpa using x.toNat_lt
theorem bts_extract (s : ByteArray) (a b : Nat) : bts (s.extract a b) = ((bts s).drop a).take (b - a) := by
  simp [bts, ByteArray.data_extract, List.extract_eq_drop_take', List.map_take, List.map_drop]

theorem info5 : (Tryz.prog.info? 5).map (·.size) = some 1 := by kernel_rfl
theorem u8s_one (l : List Nat) : ∀ v ∈ u8s l, v.oneCell' = true := by
  intro v hv
  obtain ⟨x, _, rfl⟩ := List.mem_map.1 hv
  rfl

theorem run_copy_string (w : World) (b o dLen dCap : Nat) (s : ByteArray) (ty : TypeId) (n : Nat) (hn : n = min s.size dLen) (ht : w.there b o n) :
    (Builtin.copy_ #[78, 9] ty #[.slice (some ⟨b, o, none⟩) dLen dCap, .string s]).run Tryz.prog w = .ok (.int .i64 (n : Int)) (w.setCells b o (u8s ((bts s).take n))) := by
  have hc : List.take n (List.map (fun b => Value.int .u8 ((b.toNat : Nat) : Int)) s.data.toList) = u8s ((bts s).take n) := by
    simp only [bts, u8s, List.map_take, List.map_map]
    rfl
  have hl : (u8s ((bts s).take n)).length = n := by simp; omega
  have hst := run_storeCells_cells (P := Tryz.prog) b o (u8s ((bts s).take n)) 0 w (by rw [hl]; simpa using fun j hj => (ht j hj).1) (by rw [hl]; simpa using fun j hj => (ht j hj).2) (u8s_one _)
  have hm : Nat.min s.size dLen = n := hn.symm
  cases hq : (Tryz.prog.info? 5) with
  | none => have := info5; simp [hq] at this
  | some i =>
    rw [Nat.add_zero] at hst
    simp [Builtin.copy_, run_underlying Tryz.underlying78, Builtin.lenOf, Builtin.firstCells, sizeOf, typeInfo, hq, hm, hc, hst, goInt]

theorem u8s_append (a b : List Nat) : u8s (a ++ b) = u8s a ++ u8s b := by simp [u8s]
theorem u8s_take (a : List Nat) (n : Nat) : u8s (a.take n) = (u8s a).take n := by simp [u8s]
theorem u8s_drop (a : List Nat) (n : Nat) : u8s (a.drop n) = (u8s a).drop n := by simp [u8s]
theorem msg_put {s bl r : List Nat} {fi le : Int} (hs : s.length = 8) (hb : bl.length = 64) (f : Nat) (hf : f + r.length ≤ 64) : setL (msg s bl fi le) (8 + f) (u8s r) = msg s (Sha.put bl f r) fi le := by
  rw [setL_eq _ _ _ (by simp [msg, hs, hb]; omega)]
  unfold msg Sha.put
  rw [List.take_append, List.drop_append, List.take_append, List.drop_append]
  simp only [u32s_length, u8s_length, hs, hb, u8s_append, u8s_take, u8s_drop]
  have e5 : List.drop (8 + f + r.length) (u32s s) = [] := List.drop_eq_nil_of_le (by simp [hs]; omega)
  rw [List.take_of_length_le (by simp [hs]), e5, show 8 + f - 8 = f by omega, show f - 64 = 0 by omega, show 8 + f + r.length - 8 = f + r.length by omega, show f + r.length - 64 = 0 by omega]
  simp

set_option maxRecDepth 100000 in
theorem sliceAt_from (w : World) (b off : Nat) (l : Int) (h0 : 0 ≤ l) (h3 : l < 64) :
    (Instr.sliceAt 116 (.pointer (some ⟨b, off, none⟩)) (some (.int .i64 l)) none none).run Tryz.prog w = .ok (.slice (some ⟨b, off + l.toNat, none⟩) (64 - l.toNat) (64 - l.toNat)) w := by
  rw [run_sliceAt_array_l w 116 ⟨b, off, none⟩ Tryz.underlying116 .i64 l h0 (by rw [arr64]; exact Int.le_of_lt h3), elem64, size5, arr64]
  simp only [slicedAt, Result.andThen]
  rw [if_neg (by omega)]
  simp [Addr.add]

/-- The message at b has taken in l; its length says len. -/
def Fed (w : World) (b : Nat) (l : List Nat) (len : Int) : Prop :=
  ∃ bl, Sha.Held l bl ∧ Blk w b 119 (msg (Sha.behind l).list bl ((l.length % 64 : Nat) : Int) len)

def strLen : Value → Nat
  | .string s => s.size
  | _ => 0


end Go.Proofs.YtlhohmlpcgbliabGreatDoor
namespace Go.Proofs.YtlhohmlpcgbliabGreatDoor
open Go.RowKit
attribute [local go_sem ↓] Go.wp_at_zero Go.wp_at_succ


theorem table_kept {w w2 : World} {B b : Nat} (hk : Kept B b w w2) (hg : 2 < B) (hb : b ≠ 2) (ht : Table w) : Table w2 := fun i hi => by
  rw [World.cell?_of_block (w := w) (a := ⟨2, i, none⟩) (hk.block 2 hg (Ne.symm hb))]
  exact ht i hi

theorem fed_full {w : World} {b f : Nat} {ld bl r : List Nat} {len : Int} (hf : f = ld.length % 64) (hh : Sha.Held ld bl) (hr : Sha.bytesOk r) (he : f + r.length = 64)
    (hm : Blk w b 119 (msg (Sha.mix (Sha.behind ld) (Sha.put bl f r)).list (Sha.put bl f r) 0 len)) : Fed w b (ld ++ r) len := by
  subst hf
  obtain ⟨h1, h2, h3⟩ := Sha.feed_full hh hr he
  refine ⟨_, h1, ?_⟩
  rw [h2, h3]
  exact hm
theorem fed_part {w : World} {b f : Nat} {ld bl r : List Nat} {len : Int} (hf : f = ld.length % 64) (hh : Sha.Held ld bl) (hr : Sha.bytesOk r) (hlt : f + r.length < 64)
    (hm : Blk w b 119 (msg (Sha.behind ld).list (Sha.put bl f r) ((f : Int) + (r.length : Int)) len)) : Fed w b (ld ++ r) len := by
  subst hf
  obtain ⟨h1, h2, h3⟩ := Sha.feed_part hh hr hlt
  refine ⟨_, h1, ?_⟩
  rw [h2, h3]
  exact hm

set_option maxRecDepth 100000 in
set_option maxHeartbeats 1000000 in
theorem addB0_wp {c2 c3 c4 c5 c6 c7 c8 c9 c10 c11 c12 c13 c14 c15 c16 c17 c18 c19 c20 c21 c22 c23 c24 c25 c26 c27 c28 c29 c30 c31 c32 c33 c34 c35 c36 c37 c38 c39 c40 c41 c42 c43 c44 c45 c46 c47 c48 : Value} (b : Nat) (l : List Nat) (part : ByteArray) (len : Int) (w : World) (Q : Exit → Act → World → Prop) (hf : Fed w b l len) (hsz : part.size < 4611686018427387904) (ht : Table w) (hg : 2 < w.heap.size) (hb : b ≠ 2)
  (hQ : ∀ (u1 u4 u15 u16 u17 u18 u19 u20 u21 u22 u23 u24 u25 u26 u27 u28 u29 u30 u31 u32 u33 u34 u35 u36 u37 u38 u39 u40 u41 u42 u43 u44 u45 u46 u47 u48 : Value) (w' : World), Kept w.heap.size b w w' → Fed w' b (l ++ bts part) len → Q (.exit 0) ⟨#[.pointer (some ⟨b, 0, none⟩), u1, c2, c3, u4, c5, c6, c7, c8, c9, c10, c11, c12, c13, c14, u15, u16, u17, u18, u19, u20, u21, u22, u23, u24, u25, u26, u27, u28, u29, u30, u31, u32, u33, u34, u35, u36, u37, u38, u39, u40, u41, u42, u43, u44, u45, u46, u47, u48], []⟩ w') :
  Code.wp Tryz.prog (blc Tryz.f77 0) Q ⟨#[.pointer (some ⟨b, 0, none⟩), .string part, c2, c3, c4, c5, c6, c7, c8, c9, c10, c11, c12, c13, c14, c15, c16, c17, c18, c19, c20, c21, c22, c23, c24, c25, c26, c27, c28, c29, c30, c31, c32, c33, c34, c35, c36, c37, c38, c39, c40, c41, c42, c43, c44, c45, c46, c47, c48], []⟩ w := by
  conv => arg 2; whnf
  try go_wp2
  go_loopw [1] (fun p wr => ∃ (rest : ByteArray) (done : List Nat), p = .string rest ∧ bts part = done ++ bts rest ∧ rest.size ≤ part.size ∧ Kept w.heap.size b w wr ∧ Fed wr b (l ++ done) len) (fun p _ => strLen p)
  case atStart => exact ⟨part, [], rfl, rfl, Nat.le_refl _, Kept.refl _ _ _, by simpa using hf⟩
  case round =>
    obtain ⟨rest, done, rfl, hd, hle, hk, bl, hh, hm⟩ := hrel
    by_cases h0 : 0 < rest.size
    · have htr := table_kept hk hg hb ht
      have hgr : 2 < wr.heap.size := Nat.lt_of_lt_of_le hg hk.size
      have HD : Hid (bts part = done ++ bts rest) := hd
      generalize hl : l ++ done = ld at *
      have HL : Hid (l ++ done = ld) := hl
      clear hl hd
      have h64 := hh.1
      have hl8 : (Sha.behind ld).list.length = 8 := rfl
      have k72 := hm.cell 72
      rw [msg_filled hl8 h64] at k72
      have f72 := hm.frozen 72
      have hflt : ld.length % 64 < 64 := Nat.mod_lt _ (by omega)
      obtain ⟨f, hfe⟩ : ∃ f, f = ld.length % 64 := ⟨_, rfl⟩
      obtain ⟨t, hte⟩ : ∃ t, t = min rest.size (64 - f) := ⟨_, rfl⟩
      rw [← hfe] at k72 hflt hm
      have hsl := fun wx => sliceAt_from wx b 8 (f : Int) (by omega) (by omega)
      rw [Int.toNat_natCast] at hsl
      have hlenm : (msg (Sha.behind ld).list bl (f : Int) len).length = 74 := by simp [msg, hl8, h64]
      have hth : wr.drew.there b (8 + f) t := (hm.drewN 1).there _ _ (by rw [hlenm]; omega)
      have hcp := fun ty => run_copy_string wr.drew b (8 + f) (64 - f) (64 - f) rest ty t hte hth
      have ht0 : 0 < t := by omega
      have htr' : t ≤ rest.size := by omega
      have htf : f + t ≤ 64 := by omega
      have HF : Hid (f = ld.length % 64) := hfe
      have HT : Hid (t = min rest.size (64 - f)) := hte
      have HH : Hid (Sha.Held ld bl) := hh
      have HTb : Hid (Table w) := ht
      clear hQ hth hlenm hf ht hfe hte hh
      go_wp2
      go_region
      have hm2 : Blk (wr.drew.setCells b (8 + f) (u8s (List.take t (bts rest)))) b 119 (msg (Sha.behind ld).list (Sha.put bl f (List.take t (bts rest))) (f : Int) len) :=
        ((hm.drewN 1).setCells (8 + f) _).eq (msg_put hl8 h64 f (by simp; omega))
      have hk2 : Kept w.heap.size b w (wr.drew.setCells b (8 + f) (u8s (List.take t (bts rest)))) := (hk.drewN 1).setCells _ _ (Or.inl rfl) _
      have hz2 : (wr.drew.setCells b (8 + f) (u8s (List.take t (bts rest)))).heap.size = wr.heap.size := size_setCells _ _ _ _
      generalize wr.drew.setCells b (8 + f) (u8s (List.take t (bts rest))) = w2 at *
      have h64' : (Sha.put bl f (List.take t (bts rest))).length = 64 := by rw [Sha.put_length _ _ _ (by simp; omega)]; exact h64
      have hr : Sha.bytesOk (List.take t (bts rest)) := Sha.bytesOk_take (bts_ok rest) t
      have hrl : (List.take t (bts rest)).length = t := by simp; omega
      have HR : Hid (bts (rest.extract t rest.size) = List.drop t (bts rest)) := by
        show bts _ = _
        rw [bts_extract, List.take_of_length_le (by simp)]
      have HRT : Hid (bts rest = List.take t (bts rest) ++ bts (rest.extract t rest.size)) := by
        show _ = _
        rw [HR.out, List.take_append_drop]
      have HE : Hid ((rest.extract t rest.size).size = rest.size - t) := by
        show _ = _
        simp
      generalize List.take t (bts rest) = r at *
      have k72' := hm2.cell 72
      rw [msg_filled hl8 h64'] at k72'
      have f72' := hm2.frozen 72
      clear hcp hsl k72 f72 hm hk
      by_cases hfull : f + t = 64
      · have hb1 : (((f : Int) + (t : Int)) == 64) = true := by rw [beq_iff_eq]; omega
        have hm3 := (hm2.set 72 (.int .i64 ((f : Int) + (t : Int)))).eq (msg_set_filled hl8 h64' _)
        have hk3 : Kept w.heap.size b w (w2.setCell ⟨b, 72, none⟩ (.int .i64 ((f : Int) + (t : Int)))) := hk2.setCell _ (Or.inl rfl) _
        have hg3 : 2 < (w2.setCell ⟨b, 72, none⟩ (.int .i64 ((f : Int) + (t : Int)))).heap.size := Nat.lt_of_lt_of_le hg hk3.size
        have HM3 : Hid _ := hm3
        have HK3 : Hid _ := hk3
        have HG3 : Hid _ := hg3
        clear hm3 hk3 hg3
        go_wp2_with fail
        refine (mix_any b (Sha.behind ld) (Sha.put bl f r) ((f : Int) + (t : Int)) len _ (Sha.behind_ok ld) h64' (Sha.put_ok HH.out.2.1 hr f) HM3.out (table_kept HK3.out hg hb HTb.out) HG3.out).mono ?_
        rintro e w4 ⟨rfl, hk4, hm4⟩
        have k4 := hm4.cell 72
        rw [msg_filled rfl h64'] at k4
        have f4 := hm4.frozen 72
        have HM5 : Hid _ := (hm4.set 72 (.int .i64 0)).eq (msg_set_filled rfl h64' 0)
        have HK5 : Hid (Kept w.heap.size b w (w4.setCell ⟨b, 72, none⟩ (.int .i64 0))) := (HK3.out.trans (hk4.mono HK3.out.size)).setCell _ (Or.inl rfl) _
        clear hm4 hk4 hm2 hk2 HM3 HK3 HG3
        go_wp2
        refine ⟨⟨rest.extract t rest.size, done ++ r, rfl, ?_, ?_, HK5.out, ?_⟩, ?_⟩
        · rw [HD.out, List.append_assoc, ← HRT.out]
        · rw [HE.out]; omega
        · rw [← List.append_assoc, HL.out]
          exact fed_full HF.out HH.out hr (by rw [hrl]; exact hfull) HM5.out
        · show (rest.extract t rest.size).size < rest.size
          rw [HE.out]; omega
      · have hb1 : (((f : Int) + (t : Int)) == 64) = false := by rw [beq_eq_false_iff_ne]; omega
        have HM3 : Hid _ := (hm2.set 72 (.int .i64 ((f : Int) + (t : Int)))).eq (msg_set_filled hl8 h64' _)
        have HK3 : Hid (Kept w.heap.size b w (w2.setCell ⟨b, 72, none⟩ (.int .i64 ((f : Int) + (t : Int))))) := hk2.setCell _ (Or.inl rfl) _
        clear hm2 hk2
        go_wp2_with fail
        refine ⟨⟨rest.extract t rest.size, done ++ r, rfl, ?_, ?_, HK3.out, ?_⟩, ?_⟩
        · rw [HD.out, List.append_assoc, ← HRT.out]
        · rw [HE.out]; omega
        · rw [← List.append_assoc, HL.out]
          exact fed_part HF.out HH.out hr (by rw [hrl]; omega) (by rw [hrl]; exact HM3.out)
        · show (rest.extract t rest.size).size < rest.size
          rw [HE.out]; omega
    · have hr0 : bts rest = [] := List.eq_nil_of_length_eq_zero (by rw [bts_length]; omega)
      rw [hr0, List.append_nil] at hd
      go_wp2
      subst hd
      exact hQ _ _ _ _ _ _ _ _ _ _ _ _ _ _ _ _ _ _ _ _ _ _ _ _ _ _ _ _ _ _ _ _ _ _ _ _ _ hk ⟨bl, hh, hm⟩
end Go.Proofs.YtlhohmlpcgbliabGreatDoor
namespace Go.Proofs.YtlhohmlpcgbliabGreatDoor
open Go.RowKit
attribute [local go_sem ↓] Go.wp_at_zero Go.wp_at_succ

set_option maxRecDepth 100000 in
set_option maxHeartbeats 1000000 in
theorem add_any (b : Nat) (l : List Nat) (part : ByteArray) (w : World) (hf : Fed w b l (l.length : Int)) (hlen : l.length + part.size < 4611686018427387904) (ht : Table w) (hg : 2 < w.heap.size) (hb : b ≠ 2) :
    Calls Tryz.prog 77 #[.pointer (some ⟨b, 0, none⟩), .string part] w fun e w' => e = .returned (.tuple #[]) ∧ Kept w.heap.size b w w' ∧ Fed w' b (l ++ bts part) ((l ++ bts part).length : Int) := by
  obtain ⟨bl, hh, hm⟩ := hf
  have hl8 : (Sha.behind l).list.length = 8 := rfl
  have k73 := hm.cell 73
  rw [msg_len hl8 hh.1] at k73
  have f73 := hm.frozen 73
  have HF : Hid (Fed (w.setCell ⟨b, 73, none⟩ (.int .u64 ((l.length : Int) + (part.size : Int)))) b l ((l.length : Int) + (part.size : Int))) := ⟨bl, hh, (hm.set 73 _).eq (msg_set_len hl8 hh.1 _)⟩
  have HK : Hid (Kept w.heap.size b w (w.setCell ⟨b, 73, none⟩ (.int .u64 ((l.length : Int) + (part.size : Int))))) := by
    show Kept _ _ _ _
    exact (Kept.refl _ _ _).setCell ⟨b, 73, none⟩ (Or.inl rfl) _
  have HT : Hid (Table (w.setCell ⟨b, 73, none⟩ (.int .u64 ((l.length : Int) + (part.size : Int))))) := table_kept HK.out hg hb ht
  have HG : Hid (2 < (w.setCell ⟨b, 73, none⟩ (.int .u64 ((l.length : Int) + (part.size : Int)))).heap.size) := Nat.lt_of_lt_of_le hg HK.out.size
  clear hh hm ht
  go_enter Tryz.func77, Tryz.ntmps77
  go_wp2
  refine addB0_wp b l part _ _ _ HF.out (by omega) HT.out HG.out hb ?_
  intro u1 u4 u15 u16 u17 u18 u19 u20 u21 u22 u23 u24 u25 u26 u27 u28 u29 u30 u31 u32 u33 u34 u35 u36 u37 u38 u39 u40 u41 u42 u43 u44 u45 u46 u47 u48 w2 hk2 hf2
  simp only [Exit.inBlock, if_true]
  go_end0
  refine ⟨rfl, HK.out.trans (hk2.mono HK.out.size), ?_⟩
  rw [List.length_append, bts_length]
  exact hf2


theorem zero5 (w : World) : (zeroValue 5).run Tryz.prog w = .ok (.int .u8 0) w := by kernel_rfl
theorem run_clear (w : World) (b o n c : Nat) (ty : TypeId) (hn : 0 < n) (ht : w.there b o n) :
    (Builtin.clear_ #[78] ty #[.slice (some ⟨b, o, none⟩) n c]).run Tryz.prog w = .ok (.tuple #[]) (w.setCells b o (u8s (List.replicate n 0))) := by
  have := Lib.run_clear_slice (P := Tryz.prog) w 78 5 ty (.int .u8 0) Tryz.underlying78 zero5 rfl rfl b o n c hn (fun j hj => (ht j hj).1) (fun j hj => (ht j hj).2)
  rw [this]
  simp [u8s]
theorem run_clear0 (w : World) (b o c : Nat) (ty : TypeId) :
    (Builtin.clear_ #[78] ty #[.slice (some ⟨b, o, none⟩) 0 c]).run Tryz.prog w = .ok (.tuple #[]) w := by
  simp [Builtin.clear_, run_underlying Tryz.underlying78]

/-- The last j bytes of the length, written from the end on. -/
def tailK (base : List Nat) (n : Nat) : Nat → List Nat
  | 0 => base
  | j + 1 => (tailK base n j).set (63 - j) (n / 256 ^ j % 256)
theorem tailK_length (base : List Nat) (n j : Nat) : (tailK base n j).length = base.length := by
  induction j with
  | zero => rfl
  | succ j ih => simp [tailK, ih]
theorem tailK_eight (base : List Nat) (n : Nat) (h : base.length = 64) : tailK base n 8 = base.take 56 ++ Sha.be8 n := by
  have hd : (base.drop 56).length = 8 := by simp [h]
  obtain ⟨x0, x1, x2, x3, x4, x5, x6, x7, hx⟩ : ∃ x0 x1 x2 x3 x4 x5 x6 x7, base.drop 56 = [x0, x1, x2, x3, x4, x5, x6, x7] := by
    match hq : base.drop 56, hd with
    | [x0, x1, x2, x3, x4, x5, x6, x7], _ => exact ⟨x0, x1, x2, x3, x4, x5, x6, x7, rfl⟩
  have hb : base = base.take 56 ++ [x0, x1, x2, x3, x4, x5, x6, x7] := by rw [← hx, List.take_append_drop]
  have hl : (base.take 56).length = 56 := by simp [h]
  generalize base.take 56 = a at *
  subst hb
  simp only [tailK]
  simp [List.set_append_right, hl, Sha.be8]

set_option maxRecDepth 100000 in
set_option maxHeartbeats 1000000 in
theorem padB0_wp {c1 c4 c5 c6 c7 c8 c9 c10 c11 c12 c13 c14 c15 c16 c17 c18 c19 c20 c21 c22 c23 c24 c25 c26 c27 c28 c29 c30 c31 c32 c33 c34 c35 c36 c37 c38 c39 c40 c41 c42 c43 c44 c45 c46 c47 c48 c49 c50 c51 : Value} (b n : Nat) (s base : List Nat) (fi le : Int) (w : World) (Q : Exit → Act → World → Prop) (hn : n < 18446744073709551616) (hs : s.length = 8) (h64 : base.length = 64) (hm : Blk w b 119 (msg s base fi le))
  (hQ : ∀ (u2 u3 u37 u38 u39 u40 u41 u42 u43 u44 u45 u46 u47 u48 u49 : Value) (w' : World), Kept w.heap.size b w w' → Blk w' b 119 (msg s (tailK base n 8) fi le) → Q (.exit 0) ⟨#[.pointer (some ⟨b, 0, none⟩), c1, u2, u3, c4, c5, c6, c7, c8, c9, c10, c11, c12, c13, c14, c15, c16, c17, c18, c19, c20, c21, c22, c23, c24, c25, c26, c27, c28, c29, c30, c31, c32, c33, c34, c35, c36, u37, u38, u39, u40, u41, u42, u43, u44, u45, u46, u47, u48, u49, c50, c51], []⟩ w') :
  Code.wp Tryz.prog (blc Tryz.f78 0) Q ⟨#[.pointer (some ⟨b, 0, none⟩), c1, .int .u64 (n : Int), .int .i64 63, c4, c5, c6, c7, c8, c9, c10, c11, c12, c13, c14, c15, c16, c17, c18, c19, c20, c21, c22, c23, c24, c25, c26, c27, c28, c29, c30, c31, c32, c33, c34, c35, c36, c37, c38, c39, c40, c41, c42, c43, c44, c45, c46, c47, c48, c49, c50, c51], []⟩ w := by
  conv => arg 2; whnf
  try go_wp2
  go_loopw [2, 3] (fun q i wr => ∃ j : Nat, j ≤ 8 ∧ i = .int .i64 (63 - (j : Int)) ∧ q = .int .u64 ((n / 256 ^ j : Nat) : Int) ∧ Kept w.heap.size b w wr ∧ Blk wr b 119 (msg s (tailK base n j) fi le)) (fun _ i _ => (intOf i).toNat - 55)
  case atStart => exact ⟨0, by omega, rfl, by simp, Kept.refl _ _ _, hm⟩
  case round =>
    obtain ⟨j, hj, rfl, rfl, hk, hb⟩ := hrel
    have hlen : (tailK base n j).length = 64 := by rw [tailK_length]; exact h64
    by_cases h0 : j < 8
    · have hc := hb.cell (8 + (63 - j))
      rw [msg_byte hs _ (by omega)] at hc
      have hf := hb.frozen (8 + (63 - j))
      have HS : ∀ x : Nat, Hid (Blk (wr.setCell ⟨b, 8 + (63 - j), none⟩ (.int .u8 (x : Int))) b 119 (msg s ((tailK base n j).set (63 - j) x) fi le)) := fun x =>
        (hb.set _ _).eq (msg_set_byte hs _ x (by omega))
      have HK : ∀ v, Hid (Kept w.heap.size b w (wr.setCell ⟨b, 8 + (63 - j), none⟩ v)) := fun v => by
        show Kept _ _ _ _
        exact hk.setCell _ (Or.inl rfl) _
      have HN : Hid (tailK base n (j + 1) = (tailK base n j).set (63 - j) (n / 256 ^ j % 256)) := rfl
      have hq : n / 256 ^ j < 18446744073709551616 := Nat.lt_of_le_of_lt (Nat.div_le_self _ _) hn
      have HQ : Hid (n / 256 ^ (j + 1) = n / 256 ^ j / 256) := by show _ = _; rw [Nat.pow_succ, Nat.div_div_eq_div_mul]
      generalize n / 256 ^ j = q at *
      generalize (tailK base n j).getD (63 - j) 0 = old at *
      have ij : (63 - (j : Int)).toNat = 63 - j := by omega
      have i0 : (0 : Int) ≤ 63 - (j : Int) := by omega
      have i1 : 63 - (j : Int) < 64 := by omega
      clear hQ hm hb hk
      go_wp2
      have e : (q : Int) % 256 = ((q % 256 : Nat) : Int) := by omega
      rw [e]
      refine ⟨⟨j + 1, by omega, by go_num, ?_, HK _, ?_⟩, by simp [intOf]; omega⟩
      · rw [HQ.out]; simp
      · rw [HN.out]; exact HS _
    · have hj8 : j = 8 := by omega
      subst hj8
      go_wp2
      exact hQ _ _ _ _ _ _ _ _ _ _ _ _ _ _ _ _ hk hb

set_option maxRecDepth 100000 in
theorem sliceAt_end (w : World) (b off : Nat) :
    (Instr.sliceAt 116 (.pointer (some ⟨b, off, none⟩)) (some (.int .i64 64)) none none).run Tryz.prog w = .ok (.slice (some ⟨b, off, none⟩) 0 0) w := by
  rw [run_sliceAt_array_l w 116 ⟨b, off, none⟩ Tryz.underlying116 .i64 64 (by omega) (by rw [arr64]; omega), elem64, size5, arr64]
  rfl

set_option maxRecDepth 100000 in
set_option maxHeartbeats 1000000 in
theorem padR0_wp {c1 c2 c3 c4 c5 c6 c7 c8 c9 c10 c11 c12 c13 c14 c15 c16 c17 c18 c19 c20 c21 c22 c23 c24 c25 c26 c27 c28 c29 c30 c31 c32 c33 c34 c35 c36 c37 c38 c39 c40 c41 c42 c43 c44 c45 c46 c47 c48 c49 c50 c51 : Value} (b f : Nat) (s bl : List Nat) (le : Int) (w : World) (Q : Exit → Act → World → Prop) (hf : f < 64) (hs : s.length = 8) (h64 : bl.length = 64) (hm : Blk w b 119 (msg s bl (f : Int) le))
  (hQ : ∀ (u4 u5 u6 u7 u8 u9 u10 u11 : Value) (w' : World), Kept w.heap.size b w w' → Blk w' b 119 (msg s (bl.set f 128) (f : Int) le) → Q .normal ⟨#[.pointer (some ⟨b, 0, none⟩), c1, c2, c3, u4, u5, u6, u7, u8, u9, u10, u11, c12, c13, c14, c15, c16, c17, c18, c19, c20, c21, c22, c23, c24, c25, c26, c27, c28, c29, c30, c31, c32, c33, c34, c35, c36, c37, c38, c39, c40, c41, c42, c43, c44, c45, c46, c47, c48, c49, c50, c51], []⟩ w') :
  Code.wp Tryz.prog (rgn Tryz.f78 0) Q ⟨#[.pointer (some ⟨b, 0, none⟩), c1, c2, c3, c4, c5, c6, c7, c8, c9, c10, c11, c12, c13, c14, c15, c16, c17, c18, c19, c20, c21, c22, c23, c24, c25, c26, c27, c28, c29, c30, c31, c32, c33, c34, c35, c36, c37, c38, c39, c40, c41, c42, c43, c44, c45, c46, c47, c48, c49, c50, c51], []⟩ w := by
  conv => arg 2; whnf
  have k72 := hm.cell 72
  rw [msg_filled hs h64] at k72
  have hc := hm.cell (8 + f)
  rw [msg_byte hs _ (by omega)] at hc
  have hfz := hm.frozen (8 + f)
  have HS : Hid (Blk (w.setCell ⟨b, 8 + f, none⟩ (.int .u8 128)) b 119 (msg s (bl.set f 128) (f : Int) le)) := (hm.set _ _).eq (msg_set_byte hs _ 128 (by omega))
  have HK : Hid (Kept w.heap.size b w (w.setCell ⟨b, 8 + f, none⟩ (.int .u8 128))) := by
    show Kept _ _ _ _
    exact (Kept.refl _ _ _).setCell ⟨b, 8 + f, none⟩ (Or.inl rfl) _
  generalize bl.getD f 0 = old at *
  have i0 : (0 : Int) ≤ (f : Int) := by omega
  have i1 : (f : Int) < 64 := by omega
  clear hm
  try go_wp2
  go_region
  exact hQ _ _ _ _ _ _ _ _ _ (HK.out.drewN 1) (HS.out.drewN 1)

set_option maxRecDepth 100000 in
set_option maxHeartbeats 1000000 in
theorem padR1_wp {c1 c2 c3 c4 c5 c6 c7 c8 c9 c10 c11 c12 c13 c14 c15 c16 c17 c18 c19 c20 c21 c22 c23 c24 c25 c26 c27 c28 c29 c30 c31 c32 c33 c34 c35 c36 c37 c38 c39 c40 c41 c42 c43 c44 c45 c46 c47 c48 c49 c50 c51 : Value} (b f : Nat) (s bl : List Nat) (le : Int) (w : World) (Q : Exit → Act → World → Prop) (hf : f < 64) (hs : s.length = 8) (h64 : bl.length = 64) (hm : Blk w b 119 (msg s bl (f : Int) le))
  (hQ : ∀ (u12 u13 u14 u15 u16 u17 u18 u19 u20 : Value) (w' : World), Kept w.heap.size b w w' → Blk w' b 119 (msg s (Sha.put bl (f + 1) (List.replicate (63 - f) 0)) (f : Int) le) → Q .normal ⟨#[.pointer (some ⟨b, 0, none⟩), c1, c2, c3, c4, c5, c6, c7, c8, c9, c10, c11, u12, u13, u14, u15, u16, u17, u18, u19, u20, c21, c22, c23, c24, c25, c26, c27, c28, c29, c30, c31, c32, c33, c34, c35, c36, c37, c38, c39, c40, c41, c42, c43, c44, c45, c46, c47, c48, c49, c50, c51], []⟩ w') :
  Code.wp Tryz.prog (rgn Tryz.f78 1) Q ⟨#[.pointer (some ⟨b, 0, none⟩), c1, c2, c3, c4, c5, c6, c7, c8, c9, c10, c11, c12, c13, c14, c15, c16, c17, c18, c19, c20, c21, c22, c23, c24, c25, c26, c27, c28, c29, c30, c31, c32, c33, c34, c35, c36, c37, c38, c39, c40, c41, c42, c43, c44, c45, c46, c47, c48, c49, c50, c51], []⟩ w := by
  conv => arg 2; whnf
  have k72 := hm.cell 72
  rw [msg_filled hs h64] at k72
  have hlenm : (msg s bl (f : Int) le).length = 74 := by simp [msg, hs, h64]
  have i0 : (0 : Int) ≤ (f : Int) := by omega
  have i1 : (f : Int) < 64 := by omega
  by_cases h63 : f = 63
  · subst h63
    have hsl := fun wx => sliceAt_end wx b 8
    have hcl := fun wx ty => run_clear0 wx b 8 0 ty
    have HM : Hid (Blk w b 119 (msg s (Sha.put bl (63 + 1) (List.replicate (63 - 63) 0)) ((63 : Nat) : Int) le)) := hm.eq (by simp [Sha.put, ← h64])
    clear hm
    try go_wp2
    go_region
    exact hQ _ _ _ _ _ _ _ _ _ _ ((Kept.refl _ _ _).drewN 1) (HM.out.drewN 1)
  · have hsl := fun wx => sliceAt_from wx b 8 ((f : Int) + 1) (by omega) (by omega)
    have e1 : ((f : Int) + 1).toNat = f + 1 := by omega
    rw [e1] at hsl
    have e2 : 64 - (f + 1) = 63 - f := by omega
    rw [e2] at hsl
    have hth : w.drew.there b (8 + (f + 1)) (63 - f) := (hm.drewN 1).there _ _ (by rw [hlenm]; omega)
    have hcl := fun ty => run_clear w.drew b (8 + (f + 1)) (63 - f) (63 - f) ty (by omega) hth
    have HM : Hid (Blk (w.drew.setCells b (8 + (f + 1)) (u8s (List.replicate (63 - f) 0))) b 119 (msg s (Sha.put bl (f + 1) (List.replicate (63 - f) 0)) (f : Int) le)) :=
      ((hm.drewN 1).setCells _ _).eq (msg_put hs h64 _ (by simp; omega))
    clear e1 e2
    have HK : Hid (Kept w.heap.size b w (w.drew.setCells b (8 + (f + 1)) (u8s (List.replicate (63 - f) 0)))) := by
      show Kept _ _ _ _
      exact ((Kept.refl _ _ _).drewN 1).setCells _ _ (Or.inl rfl) _
    clear hm hth
    try go_wp2
    go_region
    exact hQ _ _ _ _ _ _ _ _ _ _ HK.out HM.out
end Go.Proofs.YtlhohmlpcgbliabGreatDoor
namespace Go.Proofs.YtlhohmlpcgbliabGreatDoor
open Go.RowKit
attribute [local go_sem ↓] Go.wp_at_zero Go.wp_at_succ

namespace Sha
theorem set_take (bl : List Nat) (f x : Nat) (h : f < bl.length) : (bl.set f x).take (f + 1) = bl.take f ++ [x] := by
  rw [List.take_succ_eq_append_getElem (by simpa using h), List.take_set, List.set_eq_of_length_le (by simp; omega)]
  simp
theorem marked (bl : List Nat) (f : Nat) (h : bl.length = 64) (hf : f < 64) : put (bl.set f 128) (f + 1) (List.replicate (63 - f) 0) = bl.take f ++ 128 :: List.replicate (63 - f) 0 := by
  have e : (bl.set f 128).drop (f + 1 + (List.replicate (63 - f) 0).length) = [] := List.drop_eq_nil_of_le (by simp; omega)
  rw [put, set_take _ _ _ (by omega), e, List.append_nil, List.append_assoc]
  rfl
theorem put_all (bl r : List Nat) (f : Nat) (h : bl.length = 64) (hf : f + r.length = 64) : put bl f r = bl.take f ++ r := by
  have e : bl.drop (f + r.length) = [] := List.drop_eq_nil_of_le (by omega)
  rw [put, e, List.append_nil]
theorem be8_length (n : Nat) : (be8 n).length = 8 := rfl
theorem be8_ok (n : Nat) : bytesOk (be8 n) := by
  intro i
  match i with
  | 0 | 1 | 2 | 3 | 4 | 5 | 6 | 7 => exact Nat.mod_lt _ (by omega)
  | k + 8 => show List.getD [] k 0 < _; simp
theorem cons_ok {x : Nat} {l : List Nat} (hx : x < 256) (hl : bytesOk l) : bytesOk (x :: l) := by
  intro i
  match i with
  | 0 => exact hx
  | k + 1 => exact hl k
theorem pad_short {l bl : List Nat} (h : Held l bl) (hf : l.length % 64 < 56) :
    behind (pad l) = mix (behind l) ((put (bl.set (l.length % 64) 128) (l.length % 64 + 1) (List.replicate (63 - l.length % 64) 0)).take 56 ++ be8 (8 * l.length)) := by
  have h64 := h.1
  have hz : zeros l.length = 55 - l.length % 64 := by unfold zeros; omega
  have hr : bytesOk (128 :: (List.replicate (55 - l.length % 64) 0 ++ be8 (8 * l.length))) :=
    cons_ok (by omega) (bytesOk_append (bytesOk_replicate _ _ (by omega)) (be8_ok _))
  have he : l.length % 64 + (128 :: (List.replicate (55 - l.length % 64) 0 ++ be8 (8 * l.length))).length = 64 := by simp [be8_length]; omega
  rw [pad, hz, (feed_full h hr he).2.1, marked _ _ h64 (by omega), put_all _ _ _ h64 he]
  congr 1
  rw [List.take_append, List.take_take, show min 56 (l.length % 64) = l.length % 64 by omega, List.append_assoc]
  congr 1
  rw [List.length_take, show 56 - min (l.length % 64) bl.length = 55 - l.length % 64 + 1 by omega, List.take_succ_cons, List.take_replicate, show min (55 - l.length % 64) (63 - l.length % 64) = 55 - l.length % 64 by omega]
  rfl
theorem pad_long {l bl : List Nat} (h : Held l bl) (hf : 56 ≤ l.length % 64) :
    behind (pad l) = mix (mix (behind l) (put (bl.set (l.length % 64) 128) (l.length % 64 + 1) (List.replicate (63 - l.length % 64) 0))) (List.replicate 56 0 ++ be8 (8 * l.length)) := by
  have h64 := h.1
  have hlt : l.length % 64 < 64 := Nat.mod_lt _ (by omega)
  have hz : zeros l.length = 63 - l.length % 64 + 56 := by unfold zeros; omega
  have hr : bytesOk (128 :: List.replicate (63 - l.length % 64) 0) := cons_ok (by omega) (bytesOk_replicate _ _ (by omega))
  have he : l.length % 64 + (128 :: List.replicate (63 - l.length % 64) 0).length = 64 := by simp; omega
  obtain ⟨a1, a2, a3⟩ := feed_full h hr he
  have hr2 : bytesOk (List.replicate 56 0 ++ be8 (8 * l.length)) := bytesOk_append (bytesOk_replicate _ _ (by omega)) (be8_ok _)
  have he2 : (l ++ (128 :: List.replicate (63 - l.length % 64) 0)).length % 64 + (List.replicate 56 0 ++ be8 (8 * l.length)).length = 64 := by rw [a3]; simp [be8_length]
  have b2 := (feed_full a1 hr2 he2).2.1
  have hp : pad l = (l ++ (128 :: List.replicate (63 - l.length % 64) 0)) ++ (List.replicate 56 0 ++ be8 (8 * l.length)) := by
    rw [pad, hz, ← List.replicate_append_replicate]
    simp
  have e6 := put_all _ _ _ a1.1 he2
  rw [hp, b2, e6, a3, List.take_zero, List.nil_append, a2, put_all _ _ _ h64 he, marked _ _ h64 hlt]
end Sha

set_option maxRecDepth 100000 in
theorem sliceAt_all (w : World) (b off : Nat) :
    (Instr.sliceAt 116 (.pointer (some ⟨b, off, none⟩)) none none none).run Tryz.prog w = .ok (.slice (some ⟨b, off, none⟩) 64 64) w := by
  rw [run_sliceAt_array_all w 116 ⟨b, off, none⟩ Tryz.underlying116, elem64, size5, arr64]
  rfl

/-- The block behind the mark. -/
def markedBlock (bl : List Nat) (f : Nat) : List Nat := Sha.put (bl.set f 128) (f + 1) (List.replicate (63 - f) 0)
theorem markedBlock_ok {bl : List Nat} {f : Nat} (h64 : bl.length = 64) (hbo : Sha.bytesOk bl) (hf : f < 64) : Sha.bytesOk (markedBlock bl f) := by
  rw [markedBlock, Sha.marked _ _ h64 hf]
  exact Sha.bytesOk_append (Sha.bytesOk_take hbo _) (Sha.cons_ok (by omega) (Sha.bytesOk_replicate _ _ (by omega)))
theorem markedBlock_length {bl : List Nat} {f : Nat} (h64 : bl.length = 64) (hf : f < 64) : (markedBlock bl f).length = 64 := by
  rw [markedBlock, Sha.put_length _ _ _ (by simp; omega)]; simpa using h64

set_option maxRecDepth 100000 in
set_option maxHeartbeats 1000000 in
theorem pad_short_walk (b f n : Nat) (s : Sha.St) (bl : List Nat) (w : World) (hok : s.ok) (h64 : bl.length = 64) (hbo : Sha.bytesOk bl) (hf : f < 56) (hn : n < 576460752303423488) (hm : Blk w b 119 (msg s.list bl (f : Int) (n : Int))) (ht : Table w) (hg : 2 < w.heap.size) (hb : b ≠ 2) :
    Calls Tryz.prog 78 #[.pointer (some ⟨b, 0, none⟩)] w fun e w' => e = .returned (.tuple #[]) ∧ Kept w.heap.size b w w' ∧ ∃ bl' fi le, bl'.length = 64 ∧ Blk w' b 119 (msg (Sha.mix s ((markedBlock bl f).take 56 ++ Sha.be8 (8 * n))).list bl' fi le) := by
  have hl8 : s.list.length = 8 := rfl
  have hb1 := markedBlock_ok h64 hbo (show f < 64 by omega)
  have hl1 := markedBlock_length h64 (show f < 64 by omega)
  go_enter Tryz.func78, Tryz.ntmps78
  go_wp2_with fail
  refine padR0_wp b f s.list bl _ _ _ (by omega) hl8 h64 hm ?_
  intro u4 u5 u6 u7 u8 u9 u10 u11 w1 hk1 hm1
  go_wp2_with fail
  refine padR1_wp b f s.list _ _ _ _ (by omega) hl8 (by simpa using h64) hm1 ?_
  intro u12 u13 u14 u15 u16 u17 u18 u19 u20 w2 hk2 hm2
  have hk : Kept w.heap.size b w w2 := hk1.trans (hk2.mono hk1.size)
  have hm2' : Blk w2 b 119 (msg s.list (markedBlock bl f) (f : Int) (n : Int)) := hm2
  have k72 := hm2'.cell 72
  rw [msg_filled hl8 hl1] at k72
  have k73 := hm2'.cell 73
  rw [msg_len hl8 hl1] at k73
  have HE : Hid ((n : Int) * 8 = ((8 * n : Nat) : Int)) := by show _ = _; omega
  clear hm1 hk1 hm hk2 hm2
  generalize hmb : markedBlock bl f = mb at *
  have HMB : Hid (markedBlock bl f = mb) := hmb
  clear hmb
  go_wp2_with fail
  rw [HE.out]
  refine padB0_wp b (8 * n) s.list mb _ _ _ _ (by omega) hl8 hl1 hm2' ?_
  intro u2 u3 u37 u38 u39 u40 u41 u42 u43 u44 u45 u46 u47 u48 u49 w3 hk3 hm3
  rw [tailK_eight _ _ hl1] at hm3
  have hk4 : Kept w.heap.size b w w3 := hk.trans (hk3.mono hk.size)
  have ht4 := table_kept hk4 hg hb ht
  have hg4 : 2 < w3.heap.size := Nat.lt_of_lt_of_le hg hk4.size
  simp only [Exit.inBlock, if_true]
  go_wp2_with fail
  refine (mix_any b s _ _ _ _ hok (by simp [hl1, Sha.be8_length]) (Sha.bytesOk_append (Sha.bytesOk_take hb1 _) (Sha.be8_ok _)) hm3 ht4 hg4).mono ?_
  rintro e w5 ⟨rfl, hk5, hm5⟩
  go_wp2_with fail
  go_end0
  rw [HMB.out]
  exact ⟨rfl, hk4.trans (hk5.mono hk4.size), _, _, _, by simp [hl1, Sha.be8_length], hm5⟩

set_option maxRecDepth 100000 in
set_option maxHeartbeats 1000000 in
theorem pad_long_walk (b f n : Nat) (s : Sha.St) (bl : List Nat) (w : World) (hok : s.ok) (h64 : bl.length = 64) (hbo : Sha.bytesOk bl) (hf : f < 64) (hf2 : 56 ≤ f) (hn : n < 576460752303423488) (hm : Blk w b 119 (msg s.list bl (f : Int) (n : Int))) (ht : Table w) (hg : 2 < w.heap.size) (hb : b ≠ 2) :
    Calls Tryz.prog 78 #[.pointer (some ⟨b, 0, none⟩)] w fun e w' => e = .returned (.tuple #[]) ∧ Kept w.heap.size b w w' ∧ ∃ bl' fi le, bl'.length = 64 ∧ Blk w' b 119 (msg (Sha.mix (Sha.mix s (markedBlock bl f)) (List.replicate 56 0 ++ Sha.be8 (8 * n))).list bl' fi le) := by
  have hl8 : s.list.length = 8 := rfl
  have hb1 := markedBlock_ok h64 hbo (show f < 64 by omega)
  have hl1 := markedBlock_length h64 (show f < 64 by omega)
  go_enter Tryz.func78, Tryz.ntmps78
  go_wp2_with fail
  refine padR0_wp b f s.list bl _ _ _ (by omega) hl8 h64 hm ?_
  intro u4 u5 u6 u7 u8 u9 u10 u11 w1 hk1 hm1
  go_wp2_with fail
  refine padR1_wp b f s.list _ _ _ _ (by omega) hl8 (by simpa using h64) hm1 ?_
  intro u12 u13 u14 u15 u16 u17 u18 u19 u20 w2 hk2 hm2
  have hk : Kept w.heap.size b w w2 := hk1.trans (hk2.mono hk1.size)
  have hm2' : Blk w2 b 119 (msg s.list (markedBlock bl f) (f : Int) (n : Int)) := hm2
  have k72 := hm2'.cell 72
  rw [msg_filled hl8 hl1] at k72
  have ht2 := table_kept hk hg hb ht
  have hg2 : 2 < w2.heap.size := Nat.lt_of_lt_of_le hg hk.size
  have HE : Hid ((n : Int) * 8 = ((8 * n : Nat) : Int)) := by show _ = _; omega
  clear hm1 hk1 hm hk2 hm2
  generalize hmb : markedBlock bl f = mb at *
  have HMB : Hid (markedBlock bl f = mb) := hmb
  clear hmb
  go_wp2_with fail
  refine (mix_any b s _ _ _ _ hok hl1 hb1 hm2' ht2 hg2).mono ?_
  rintro e w3 ⟨rfl, hk3, hm3⟩
  clear hm2' k72
  have hk4 : Kept w.heap.size b w w3 := hk.trans (hk3.mono hk.size)
  clear hk3 hk
  have hok3 : (Sha.mix s mb).ok := Sha.mix_ok _ _
  generalize hs3 : Sha.mix s mb = s3 at *
  have HS3 : Hid (Sha.mix s mb = s3) := hs3
  clear hs3
  have hl3 : s3.list.length = 8 := rfl
  have hsl := fun wx => sliceAt_all wx b 8
  have hth : w3.there b 8 64 := hm3.there _ _ (by simp [msg, hl3, hl1])
  have hcl := fun ty => run_clear w3 b 8 64 64 ty (by omega) hth
  have hm4 := (hm3.setCells 8 (u8s (List.replicate 64 0))).eq (msg_put hl3 hl1 0 (by simp))
  have hz : Sha.put mb 0 (List.replicate 64 0) = List.replicate 64 0 := by rw [Sha.put_all _ _ _ hl1 (by simp)]; simp
  rw [hz] at hm4
  have hk5 : Kept w.heap.size b w (w3.setCells b 8 (u8s (List.replicate 64 0))) := hk4.setCells _ _ (Or.inl rfl) _
  have k73 := hm4.cell 73
  rw [msg_len hl3 (by simp)] at k73
  clear hz hth hm3 hk4
  generalize hw4 : w3.setCells b 8 (u8s (List.replicate 64 0)) = w4 at *
  go_wp2_with fail
  rw [HE.out]
  refine padB0_wp b (8 * n) s3.list (List.replicate 64 0) _ _ _ _ (by omega) hl3 (by simp) hm4 ?_
  intro u2 u3 u37 u38 u39 u40 u41 u42 u43 u44 u45 u46 u47 u48 u49 w6 hk6 hm6
  rw [tailK_eight _ _ (by simp), List.take_replicate, show min 56 64 = 56 by omega] at hm6
  have hk7 : Kept w.heap.size b w w6 := hk5.trans (hk6.mono hk5.size)
  have ht7 := table_kept hk7 hg hb ht
  have hg7 : 2 < w6.heap.size := Nat.lt_of_lt_of_le hg hk7.size
  simp only [Exit.inBlock, if_true]
  go_wp2_with fail
  refine (mix_any b s3 _ _ _ _ hok3 (by simp [Sha.be8_length]) (Sha.bytesOk_append (Sha.bytesOk_replicate _ _ (by omega)) (Sha.be8_ok _)) hm6 ht7 hg7).mono ?_
  rintro e w8 ⟨rfl, hk8, hm8⟩
  go_wp2_with fail
  go_end0
  rw [HMB.out, HS3.out]
  exact ⟨rfl, hk7.trans (hk8.mono hk7.size), _, _, _, by simp [Sha.be8_length], hm8⟩

theorem pad_any (b : Nat) (l : List Nat) (w : World) (hf : Fed w b l (l.length : Int)) (hlen : l.length < 576460752303423488) (ht : Table w) (hg : 2 < w.heap.size) (hb : b ≠ 2) :
    Calls Tryz.prog 78 #[.pointer (some ⟨b, 0, none⟩)] w fun e w' => e = .returned (.tuple #[]) ∧ Kept w.heap.size b w w' ∧ ∃ bl fi le, bl.length = 64 ∧ Blk w' b 119 (msg (Sha.behind (Sha.pad l)).list bl fi le) := by
  obtain ⟨bl, hh, hm⟩ := hf
  by_cases hs : l.length % 64 < 56
  · rw [Sha.pad_short hh hs]
    exact pad_short_walk b (l.length % 64) l.length (Sha.behind l) bl w (Sha.behind_ok l) hh.1 hh.2.1 hs hlen hm ht hg hb
  · rw [Sha.pad_long hh (by omega)]
    exact pad_long_walk b (l.length % 64) l.length (Sha.behind l) bl w (Sha.behind_ok l) hh.1 hh.2.1 (Nat.mod_lt _ (by omega)) (by omega) hlen hm ht hg hb
end Go.Proofs.YtlhohmlpcgbliabGreatDoor
