import Derived.Test.YteillcbajkhjkaaDoorX9
namespace Go.Proofs.YteillcbajkhjkaaDoor
open Go.RowKit
attribute [local go_sem ↓] Go.wp_at_zero Go.wp_at_succ

namespace Sha
theorem set_take (bl : List Nat) (f x : Nat) (h : f < bl.length) : (bl.set f x).take (f + 1) = bl.take f ++ [x] := by
  rw [List.take_succ_eq_append_getElem (by simpa using h), List.take_set, List.set_eq_of_length_le (by simp; omega)]
  simp
theorem marked (bl : List Nat) (f : Nat) (h : bl.length = 64) (hf : f < 64) : put (bl.set f 128) (f + 1) (List.replicate (63 - f) 0) = bl.take f ++ 128 :: List.replicate (63 - f) 0 := by
  have e : (bl.set f 128).drop (f + 1 + (List.replicate (63 - f) 0).length) = [] := List.drop_eq_nil_of_le (by simp; omega)
  rw [put, set_take _ _ _ (by omega), e, List.append_nil, List.append_assoc]
  rfl
theorem put_all (bl r : List Nat) (f : Nat) (h : bl.length = 64) (hf : f + r.length = 64) : put bl f r = bl.take f ++ r := by
  have e : bl.drop (f + r.length) = [] := List.drop_eq_nil_of_le (by omega)
  rw [put, e, List.append_nil]
theorem be8_length (n : Nat) : (be8 n).length = 8 := rfl
theorem be8_ok (n : Nat) : bytesOk (be8 n) := by
  intro i
  match i with
  | 0 | 1 | 2 | 3 | 4 | 5 | 6 | 7 => exact Nat.mod_lt _ (by omega)
  | k + 8 => show List.getD [] k 0 < _; simp
theorem cons_ok {x : Nat} {l : List Nat} (hx : x < 256) (hl : bytesOk l) : bytesOk (x :: l) := by
  intro i
  match i with
  | 0 => exact hx
  | k + 1 => exact hl k
theorem pad_short {l bl : List Nat} (h : Held l bl) (hf : l.length % 64 < 56) :
    behind (pad l) = mix (behind l) ((put (bl.set (l.length % 64) 128) (l.length % 64 + 1) (List.replicate (63 - l.length % 64) 0)).take 56 ++ be8 (8 * l.length)) := by
  have h64 := h.1
  have hz : zeros l.length = 55 - l.length % 64 := by unfold zeros; omega
  have hr : bytesOk (128 :: (List.replicate (55 - l.length % 64) 0 ++ be8 (8 * l.length))) :=
    cons_ok (by omega) (bytesOk_append (bytesOk_replicate _ _ (by omega)) (be8_ok _))
  have he : l.length % 64 + (128 :: (List.replicate (55 - l.length % 64) 0 ++ be8 (8 * l.length))).length = 64 := by simp [be8_length]; omega
  rw [pad, hz, (feed_full h hr he).2.1, marked _ _ h64 (by omega), put_all _ _ _ h64 he]
  congr 1
  rw [List.take_append, List.take_take, show min 56 (l.length % 64) = l.length % 64 by omega, List.append_assoc]
  congr 1
  rw [List.length_take, show 56 - min (l.length % 64) bl.length = 55 - l.length % 64 + 1 by omega, List.take_succ_cons, List.take_replicate, show min (55 - l.length % 64) (63 - l.length % 64) = 55 - l.length % 64 by omega]
  rfl
theorem pad_long {l bl : List Nat} (h : Held l bl) (hf : 56 ≤ l.length % 64) :
    behind (pad l) = mix (mix (behind l) (put (bl.set (l.length % 64) 128) (l.length % 64 + 1) (List.replicate (63 - l.length % 64) 0))) (List.replicate 56 0 ++ be8 (8 * l.length)) := by
  have h64 := h.1
  have hlt : l.length % 64 < 64 := Nat.mod_lt _ (by omega)
  have hz : zeros l.length = 63 - l.length % 64 + 56 := by unfold zeros; omega
  have hr : bytesOk (128 :: List.replicate (63 - l.length % 64) 0) := cons_ok (by omega) (bytesOk_replicate _ _ (by omega))
  have he : l.length % 64 + (128 :: List.replicate (63 - l.length % 64) 0).length = 64 := by simp; omega
  obtain ⟨a1, a2, a3⟩ := feed_full h hr he
  have hr2 : bytesOk (List.replicate 56 0 ++ be8 (8 * l.length)) := bytesOk_append (bytesOk_replicate _ _ (by omega)) (be8_ok _)
  have he2 : (l ++ (128 :: List.replicate (63 - l.length % 64) 0)).length % 64 + (List.replicate 56 0 ++ be8 (8 * l.length)).length = 64 := by rw [a3]; simp [be8_length]
  have b2 := (feed_full a1 hr2 he2).2.1
  have hp : pad l = (l ++ (128 :: List.replicate (63 - l.length % 64) 0)) ++ (List.replicate 56 0 ++ be8 (8 * l.length)) := by
    rw [pad, hz, ← List.replicate_append_replicate]
    simp
  have e6 := put_all _ _ _ a1.1 he2
  rw [hp, b2, e6, a3, List.take_zero, List.nil_append, a2, put_all _ _ _ h64 he, marked _ _ h64 hlt]
end Sha

theorem sliceAt_all (w : World) (b off : Nat) :
    (Instr.sliceAt 60 (.pointer (some ⟨b, off, none⟩)) none none none).run Tryd.prog w = .ok (.slice (some ⟨b, off, none⟩) 64 64) w := by
  rw [run_sliceAt_array_all w 60 ⟨b, off, none⟩ Tryd.underlying60, elem64, size5, arr64]
  rfl

/-- The block behind the mark. -/
def markedBlock (bl : List Nat) (f : Nat) : List Nat := Sha.put (bl.set f 128) (f + 1) (List.replicate (63 - f) 0)
theorem markedBlock_ok {bl : List Nat} {f : Nat} (h64 : bl.length = 64) (hbo : Sha.bytesOk bl) (hf : f < 64) : Sha.bytesOk (markedBlock bl f) := by
  rw [markedBlock, Sha.marked _ _ h64 hf]
  exact Sha.bytesOk_append (Sha.bytesOk_take hbo _) (Sha.cons_ok (by omega) (Sha.bytesOk_replicate _ _ (by omega)))
theorem markedBlock_length {bl : List Nat} {f : Nat} (h64 : bl.length = 64) (hf : f < 64) : (markedBlock bl f).length = 64 := by
  rw [markedBlock, Sha.put_length _ _ _ (by simp; omega)]; simpa using h64

set_option maxRecDepth 100000 in
set_option maxHeartbeats 1000000 in
theorem pad_short_walk (b f n : Nat) (s : Sha.St) (bl : List Nat) (w : World) (hok : s.ok) (h64 : bl.length = 64) (hbo : Sha.bytesOk bl) (hf : f < 56) (hn : n < 576460752303423488) (hm : Blk w b 63 (msg s.list bl (f : Int) (n : Int))) (ht : Table w) (hg : 2 < w.heap.size) (hb : b ≠ 2) :
    Calls Tryd.prog 45 #[.pointer (some ⟨b, 0, none⟩)] w fun e w' => e = .returned (.tuple #[]) ∧ Kept w.heap.size b w w' ∧ ∃ bl' fi le, bl'.length = 64 ∧ Blk w' b 63 (msg (Sha.mix s ((markedBlock bl f).take 56 ++ Sha.be8 (8 * n))).list bl' fi le) := by
  have hl8 : s.list.length = 8 := rfl
  have hb1 := markedBlock_ok h64 hbo (show f < 64 by omega)
  have hl1 := markedBlock_length h64 (show f < 64 by omega)
  go_enter Tryd.func45, Tryd.ntmps45
  go_wp2_with fail
  refine padR0_wp b f s.list bl _ _ _ (by omega) hl8 h64 hm ?_
  intro u4 u5 u6 u7 u8 u9 u10 u11 w1 hk1 hm1
  go_wp2_with fail
  refine padR1_wp b f s.list _ _ _ _ (by omega) hl8 (by simpa using h64) hm1 ?_
  intro u12 u13 u14 u15 u16 u17 u18 u19 u20 w2 hk2 hm2
  have hk : Kept w.heap.size b w w2 := hk1.trans (hk2.mono hk1.size)
  have hm2' : Blk w2 b 63 (msg s.list (markedBlock bl f) (f : Int) (n : Int)) := hm2
  have k72 := hm2'.cell 72
  rw [msg_filled hl8 hl1] at k72
  have k73 := hm2'.cell 73
  rw [msg_len hl8 hl1] at k73
  have HE : Hid ((n : Int) * 8 = ((8 * n : Nat) : Int)) := by show _ = _; omega
  clear hm1 hk1 hm hk2 hm2
  generalize hmb : markedBlock bl f = mb at *
  have HMB : Hid (markedBlock bl f = mb) := hmb
  clear hmb
  go_wp2_with fail
  rw [HE.out]
  refine padB0_wp b (8 * n) s.list mb _ _ _ _ (by omega) hl8 hl1 hm2' ?_
  intro u2 u3 u37 u38 u39 u40 u41 u42 u43 u44 u45 u46 u47 u48 u49 w3 hk3 hm3
  rw [tailK_eight _ _ hl1] at hm3
  have hk4 : Kept w.heap.size b w w3 := hk.trans (hk3.mono hk.size)
  have ht4 := table_kept hk4 hg hb ht
  have hg4 : 2 < w3.heap.size := Nat.lt_of_lt_of_le hg hk4.size
  simp only [Exit.inBlock, if_true]
  go_wp2_with fail
  refine (mix_any b s _ _ _ _ hok (by simp [hl1, Sha.be8_length]) (Sha.bytesOk_append (Sha.bytesOk_take hb1 _) (Sha.be8_ok _)) hm3 ht4 hg4).mono ?_
  rintro e w5 ⟨rfl, hk5, hm5⟩
  go_wp2_with fail
  go_end0
  rw [HMB.out]
  exact ⟨rfl, hk4.trans (hk5.mono hk4.size), _, _, _, by simp [hl1, Sha.be8_length], hm5⟩

set_option maxRecDepth 100000 in
set_option maxHeartbeats 1000000 in
theorem pad_long_walk (b f n : Nat) (s : Sha.St) (bl : List Nat) (w : World) (hok : s.ok) (h64 : bl.length = 64) (hbo : Sha.bytesOk bl) (hf : f < 64) (hf2 : 56 ≤ f) (hn : n < 576460752303423488) (hm : Blk w b 63 (msg s.list bl (f : Int) (n : Int))) (ht : Table w) (hg : 2 < w.heap.size) (hb : b ≠ 2) :
    Calls Tryd.prog 45 #[.pointer (some ⟨b, 0, none⟩)] w fun e w' => e = .returned (.tuple #[]) ∧ Kept w.heap.size b w w' ∧ ∃ bl' fi le, bl'.length = 64 ∧ Blk w' b 63 (msg (Sha.mix (Sha.mix s (markedBlock bl f)) (List.replicate 56 0 ++ Sha.be8 (8 * n))).list bl' fi le) := by
  have hl8 : s.list.length = 8 := rfl
  have hb1 := markedBlock_ok h64 hbo (show f < 64 by omega)
  have hl1 := markedBlock_length h64 (show f < 64 by omega)
  go_enter Tryd.func45, Tryd.ntmps45
  go_wp2_with fail
  refine padR0_wp b f s.list bl _ _ _ (by omega) hl8 h64 hm ?_
  intro u4 u5 u6 u7 u8 u9 u10 u11 w1 hk1 hm1
  go_wp2_with fail
  refine padR1_wp b f s.list _ _ _ _ (by omega) hl8 (by simpa using h64) hm1 ?_
  intro u12 u13 u14 u15 u16 u17 u18 u19 u20 w2 hk2 hm2
  have hk : Kept w.heap.size b w w2 := hk1.trans (hk2.mono hk1.size)
  have hm2' : Blk w2 b 63 (msg s.list (markedBlock bl f) (f : Int) (n : Int)) := hm2
  have k72 := hm2'.cell 72
  rw [msg_filled hl8 hl1] at k72
  have ht2 := table_kept hk hg hb ht
  have hg2 : 2 < w2.heap.size := Nat.lt_of_lt_of_le hg hk.size
  have HE : Hid ((n : Int) * 8 = ((8 * n : Nat) : Int)) := by show _ = _; omega
  clear hm1 hk1 hm hk2 hm2
  generalize hmb : markedBlock bl f = mb at *
  have HMB : Hid (markedBlock bl f = mb) := hmb
  clear hmb
  go_wp2_with fail
  refine (mix_any b s _ _ _ _ hok hl1 hb1 hm2' ht2 hg2).mono ?_
  rintro e w3 ⟨rfl, hk3, hm3⟩
  clear hm2' k72
  have hk4 : Kept w.heap.size b w w3 := hk.trans (hk3.mono hk.size)
  clear hk3 hk
  have hok3 : (Sha.mix s mb).ok := Sha.mix_ok _ _
  generalize hs3 : Sha.mix s mb = s3 at *
  have HS3 : Hid (Sha.mix s mb = s3) := hs3
  clear hs3
  have hl3 : s3.list.length = 8 := rfl
  have hsl := fun wx => sliceAt_all wx b 8
  have hth : w3.there b 8 64 := hm3.there _ _ (by simp [msg, hl3, hl1])
  have hcl := fun ty => run_clear w3 b 8 64 64 ty (by omega) hth
  have hm4 := (hm3.setCells 8 (u8s (List.replicate 64 0))).eq (msg_put hl3 hl1 0 (by simp))
  have hz : Sha.put mb 0 (List.replicate 64 0) = List.replicate 64 0 := by rw [Sha.put_all _ _ _ hl1 (by simp)]; simp
  rw [hz] at hm4
  have hk5 : Kept w.heap.size b w (w3.setCells b 8 (u8s (List.replicate 64 0))) := hk4.setCells _ _ (Or.inl rfl) _
  have k73 := hm4.cell 73
  rw [msg_len hl3 (by simp)] at k73
  clear hz hth hm3 hk4
  generalize hw4 : w3.setCells b 8 (u8s (List.replicate 64 0)) = w4 at *
  go_wp2_with fail
  rw [HE.out]
  refine padB0_wp b (8 * n) s3.list (List.replicate 64 0) _ _ _ _ (by omega) hl3 (by simp) hm4 ?_
  intro u2 u3 u37 u38 u39 u40 u41 u42 u43 u44 u45 u46 u47 u48 u49 w6 hk6 hm6
  rw [tailK_eight _ _ (by simp), List.take_replicate, show min 56 64 = 56 by omega] at hm6
  have hk7 : Kept w.heap.size b w w6 := hk5.trans (hk6.mono hk5.size)
  have ht7 := table_kept hk7 hg hb ht
  have hg7 : 2 < w6.heap.size := Nat.lt_of_lt_of_le hg hk7.size
  simp only [Exit.inBlock, if_true]
  go_wp2_with fail
  refine (mix_any b s3 _ _ _ _ hok3 (by simp [Sha.be8_length]) (Sha.bytesOk_append (Sha.bytesOk_replicate _ _ (by omega)) (Sha.be8_ok _)) hm6 ht7 hg7).mono ?_
  rintro e w8 ⟨rfl, hk8, hm8⟩
  go_wp2_with fail
  go_end0
  rw [HMB.out, HS3.out]
  exact ⟨rfl, hk7.trans (hk8.mono hk7.size), _, _, _, by simp [Sha.be8_length], hm8⟩

theorem pad_any (b : Nat) (l : List Nat) (w : World) (hf : Fed w b l (l.length : Int)) (hlen : l.length < 576460752303423488) (ht : Table w) (hg : 2 < w.heap.size) (hb : b ≠ 2) :
    Calls Tryd.prog 45 #[.pointer (some ⟨b, 0, none⟩)] w fun e w' => e = .returned (.tuple #[]) ∧ Kept w.heap.size b w w' ∧ ∃ bl fi le, bl.length = 64 ∧ Blk w' b 63 (msg (Sha.behind (Sha.pad l)).list bl fi le) := by
  obtain ⟨bl, hh, hm⟩ := hf
  by_cases hs : l.length % 64 < 56
  · rw [Sha.pad_short hh hs]
    exact pad_short_walk b (l.length % 64) l.length (Sha.behind l) bl w (Sha.behind_ok l) hh.1 hh.2.1 hs hlen hm ht hg hb
  · rw [Sha.pad_long hh (by omega)]
    exact pad_long_walk b (l.length % 64) l.length (Sha.behind l) bl w (Sha.behind_ok l) hh.1 hh.2.1 (Nat.mod_lt _ (by omega)) (by omega) hlen hm ht hg hb
end Go.Proofs.YteillcbajkhjkaaDoor
