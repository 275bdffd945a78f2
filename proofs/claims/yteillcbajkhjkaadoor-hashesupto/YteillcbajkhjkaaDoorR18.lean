import Derived.Test.YteillcbajkhjkaaDoorR17
namespace Go.Proofs.YteillcbajkhjkaaDoor
open Go.RowKit
attribute [local go_sem ↓] Go.wp_at_zero Go.wp_at_succ

theorem pad_eq (l : List Nat) : (l ++ 128 :: List.replicate (Sha.zeros l.length) 0) ++ Sha.be8 (8 * l.length) = Sha.pad l := by simp [Sha.pad]

set_option maxRecDepth 100000 in
set_option maxHeartbeats 4000000 in
theorem hashRef_any (s : ByteArray) (w : World) (hs : s.size < 99999999999) :
    Calls Tryd.prog 31 #[.string s] w fun e w' => e = .returned (.string (shaS (bts s))) ∧ Below w.heap.size w w' := by
  have hcv := fun wx => Lib.run_convert_string_bytes (P := Tryd.prog) wx 9 52 5 s Tryd.underlying9 Tryd.underlying52 Tryd.underlying5
  have hrow0 := rowM_of_string w w.heap.size s (Nat.le_refl _) (by omega)
  have hb0 := below_bytes w s
  have hz0 : Hid (w.heap.size ≤ (Lib.bytesWorld w 5 s).heap.size) := hb0.size
  have e8 : Hid ((8 : Int) * (s.size : Int) = ((8 * s.size : Nat) : Int)) := by show _ = _; omega
  have hl : (bts s).length = s.size := bts_length s
  have HL : Hid ((bts s).length = s.size) := hl
  have HP : Hid (Sha.pad (bts s) = (bts s ++ 128 :: List.replicate (Sha.zeros (bts s).length) 0) ++ Sha.be8 (8 * s.size)) := by
    show _ = _
    rw [← pad_eq, hl]
  have HPO : Hid (bts (strOf (Sha.pad (bts s))) = Sha.pad (bts s)) := bts_strOf (pad_ok s)
  have HPL : Hid ((Sha.pad (bts s)).length = 64 * ((Sha.pad (bts s)).length / 64)) := pad_len (bts s)
  have HPE := pad_le (bts s)
  have hln : (bts s ++ 128 :: List.replicate (Sha.zeros (bts s).length) 0).length < 200000000000 := by
    have : Sha.zeros (bts s).length < 64 := Nat.mod_lt _ (by omega)
    simp only [List.length_append, List.length_cons, List.length_replicate]
    omega
  rw [hl] at HPE
  have HPE' : Hid ((Sha.pad (bts s)).length / 64 < 10000000000) := by show _ < _; omega
  have HLN : Hid ((bts s ++ 128 :: List.replicate (Sha.zeros (bts s).length) 0).length < 200000000000) := hln
  clear hl HPE hln
  go_enter Tryd.func31, Tryd.ntmps31
  go_wp2_with (at_builtin; refine wpList_appbyte (by rfl) (.tmp 17) (.tmp 18) (by rfl) w.heap.size _ (bts s) (by rfl) (hrow0.alloc _) 128 _ 1 (by rfl) (Blk.new _ 5 _) (by rw [HL.out]; omega) (by have := hz0.out; simp; omega) (w0 := w) (hb0.alloc hz0.out _) (Nat.le_refl _) ?_)
  intro v1 w1 hr1 hb1
  obtain ⟨g1, cp1, rfl⟩ := hr1.form
  clear hcv hrow0 hb0 hz0
  rw [e8.out]
  go_wp2_with fail
  refine hshB0_wp (bts s) _ w.heap.size w1 w _ (by rw [HL.out]; omega) hr1 (Nat.le_refl _) hb1 ?_
  intro u20 u21 u22 u23 u24 u25 u26 v2 w2 hr2 hb2
  simp only [Exit.inBlock, if_true]
  clear hr1 hb1
  go_wp2_with fail
  refine hshB2_wp (8 * s.size) _ _ w.heap.size w2 w _ (by omega) HLN.out hr2 (Nat.le_refl _) hb2 ?_
  intro u5 u6 u27 u28 u29 u30 u31 u32 u33 u34 u35 u36 u37 u38 u39 u40 u41 u42 v3 w3 hr3 hb3
  simp only [Exit.inBlock, if_true]
  rw [← HP.out] at hr3
  have hcv3 := convert_rowM hr3
  clear hr2 hb2 hr3
  go_wp2_with fail
  refine hshB4_wp w3 _ ?_
  intro u9 u45 u46 u47 u48 u49 u50 u51 u52 u53 v4 w4 hr4 hb4
  simp only [Exit.inBlock, if_true]
  obtain ⟨g4, c4, hv4, _⟩ := hr4.form (by rw [ints_length]; exact Nat.zero_lt_succ 7)
  obtain rfl : v4 = .slice (some ⟨g4, 0, none⟩) 8 c4 := hv4
  obtain ⟨hI4, hg4⟩ := IntsAt.of_row hr4 (by exact Nat.zero_lt_succ 7)
  have hb5 : Below w.heap.size w w4 := hb3.trans (hb4.mono hb3.size)
  clear hr4 hb3 hb4 hcv3
  go_wp2_with fail
  refine hshB6_wp (strOf (Sha.pad (bts s))) ((Sha.pad (bts s)).length / 64) g4 c4 w4 _ (by rw [← bts_length, HPO.out]; exact HPL.out) HPE'.out hI4 hg4 ?_
  intro u10 u54 u55 u56 u57 u58 u59 u60 u61 u62 u63 u64 u65 u66 u67 g5 c5 w5 hI5 hg5 hb6
  simp only [Exit.inBlock, if_true]
  rw [HPO.out] at hI5
  have hb7 : Below w.heap.size w w5 := hb5.trans (hb6.mono hb5.size)
  clear hI4 hg4 hb5 hb6
  go_wp2_with fail
  refine hshB8_wp (Sha.mixAll ((Sha.pad (bts s)).length / 64) Sha.init (Sha.pad (bts s))) g5 c5 w5 _ (mixAll_ok Sha.init_ok _ _) hI5 hg5 ?_
  intro u12 u68 u69 u70 u71 u72 u73 u74 u75 u76 u77 u78 u79 u80 u81 u82 u83 u84 u85 u86 u87 u88 u89 u90 u91 u92 u93 u94 u95 u96 u97 u98 u99 u100 v6 w6 hr6 hb8
  simp only [Exit.inBlock, if_true]
  have hcv6 := convert_row hr6
  have hb9 : Below w.heap.size w w6 := hb7.trans (hb8.mono hb7.size)
  have HE : Hid (strOf (Sha.out (Sha.mixAll ((Sha.pad (bts s)).length / 64) Sha.init (Sha.pad (bts s)))) = shaS (bts s)) := rfl
  rw [HE.out] at hcv6
  clear hI5 hr6 hb7 hb8
  go_wp2_with fail
  go_ret
  exact ⟨rfl, hb9⟩
end Go.Proofs.YteillcbajkhjkaaDoor
