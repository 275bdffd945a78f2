import Derived.Test.YteillcbajkhjkaaDoorX5
namespace Go.Proofs.YteillcbajkhjkaaDoor
open Go.RowKit
attribute [local go_sem ↓] Go.wp_at_zero Go.wp_at_succ

set_option maxRecDepth 100000 in
theorem z64 : (u32s (List.replicate 64 0)).toArray = (#[.int .u32 0, .int .u32 0, .int .u32 0, .int .u32 0, .int .u32 0, .int .u32 0, .int .u32 0, .int .u32 0, .int .u32 0, .int .u32 0, .int .u32 0, .int .u32 0, .int .u32 0, .int .u32 0, .int .u32 0, .int .u32 0, .int .u32 0, .int .u32 0, .int .u32 0, .int .u32 0, .int .u32 0, .int .u32 0, .int .u32 0, .int .u32 0, .int .u32 0, .int .u32 0, .int .u32 0, .int .u32 0, .int .u32 0, .int .u32 0, .int .u32 0, .int .u32 0, .int .u32 0, .int .u32 0, .int .u32 0, .int .u32 0, .int .u32 0, .int .u32 0, .int .u32 0, .int .u32 0, .int .u32 0, .int .u32 0, .int .u32 0, .int .u32 0, .int .u32 0, .int .u32 0, .int .u32 0, .int .u32 0, .int .u32 0, .int .u32 0, .int .u32 0, .int .u32 0, .int .u32 0, .int .u32 0, .int .u32 0, .int .u32 0, .int .u32 0, .int .u32 0, .int .u32 0, .int .u32 0, .int .u32 0, .int .u32 0, .int .u32 0, .int .u32 0] : Array Value) := by rfl

theorem table_below {w w2 : World} {B : Nat} (hb : Below B w w2) (hg : 2 < B) (ht : Table w) (n : Nat) : Table (w2.drewN n) := fun i hi => by
  rw [World.cell?_drewN, hb.cell (p := ⟨2, i, none⟩) hg]
  exact ht i hi

set_option maxRecDepth 100000 in
set_option maxHeartbeats 1000000 in
theorem mix_any (b : Nat) (s : Sha.St) (bl : List Nat) (fi le : Int) (w : World) (hok : s.ok) (hbl : bl.length = 64) (hbo : Sha.bytesOk bl) (hm : Blk w b 63 (msg s.list bl fi le)) (ht : Table w) (hg : 2 < w.heap.size) :
    Calls Tryd.prog 52 #[.pointer (some ⟨b, 0, none⟩)] w fun e w' => e = .returned (.tuple #[]) ∧ Kept w.heap.size b w w' ∧ Blk w' b 63 (msg (Sha.mix s bl).list bl fi le) := by
  have hlt := hm.lt
  have hl8 : s.list.length = 8 := rfl
  go_enter Tryd.func52, Tryd.ntmps52
  have hi' : (Tryd.prog.info? 70).map (·.size) = some (u32s (Sha.sched bl 64)).toArray.size := by rw [List.size_toArray, u32s_length, Sha.sched_length]; exact info64
  go_wp2_with fail
  refine (schedule_any b s.list bl fi le _ hl8 hbl hbo hm).mono ?_
  rintro e w1 ⟨rfl, hb1⟩
  have hone := all_oneCell_toArray (u32s_one (Sha.sched bl 64))
  have hsz : (u32s (Sha.sched bl 64)).toArray.size = 64 := by rw [List.size_toArray, u32s_length, Sha.sched_length]
  have hz := Blk.new w1 70 (u32s (List.replicate 64 0))
  rw [z64] at hz
  generalize hA : (u32s (Sha.sched bl 64)).toArray = arr at *
  have HA : Hid ((u32s (Sha.sched bl 64)).toArray = arr) := hA
  clear hA
  have hth := hz.there 0 arr.size (by rw [hsz]; simp)
  go_wp2_with (refine wpList_store_mid (by rfl) 70 (.tmp 2) (.tmp 18) (by rfl) w1.heap.size 0 arr (by rfl) (by rfl) hth hi' hone ?_)
  have hm2 : Blk ((w1.alloc (.cells (u32s (List.replicate 64 0)).toArray 70)).setCells w1.heap.size 0 arr.toList) b 63 (msg s.list bl fi le) :=
    ((hm.below hb1 hlt).alloc _).setCells_other _ _ _ (by have := hb1.size; omega)
  have hs2 : Blk ((w1.alloc (.cells (u32s (List.replicate 64 0)).toArray 70)).setCells w1.heap.size 0 arr.toList) w1.heap.size 70 (u32s (Sha.sched bl 64)) :=
    ((Blk.new w1 70 (u32s (List.replicate 64 0))).setCells 0 arr.toList).eq (by
      rw [← HA.out, setL_eq _ _ _ (by simp [Sha.sched_length])]; simp [Sha.sched_length])
  have hb2 : Below w.heap.size w ((w1.alloc (.cells (u32s (List.replicate 64 0)).toArray 70)).setCells w1.heap.size 0 arr.toList) :=
    Below.setCells (hb1.alloc hb1.size _) _ _ hb1.size _
  rw [← z64]
  generalize ((w1.alloc (.cells (u32s (List.replicate 64 0)).toArray 70)).setCells w1.heap.size 0 arr.toList) = w2 at *
  simp only [Act.put]
  have c0 : w2.cell? ⟨b, 0, none⟩ = some (.int .u32 (s.a : Int)) := by rw [hm2.cell]; rfl
  have c1 : w2.cell? ⟨b, 1, none⟩ = some (.int .u32 (s.b : Int)) := by rw [hm2.cell]; rfl
  have c2 : w2.cell? ⟨b, 2, none⟩ = some (.int .u32 (s.c : Int)) := by rw [hm2.cell]; rfl
  have c3 : w2.cell? ⟨b, 3, none⟩ = some (.int .u32 (s.d : Int)) := by rw [hm2.cell]; rfl
  refine mixR1_wp b _ _ _ _ _ _ c0 c1 c2 c3 ?_
  intro u19 u20 u21 u22 u23 u24 u25 u26 u27 u28 u29 u30 u31 u32 u33 u34 u35 u36 u37 u38 n1
  clear c0 c1 c2 c3
  go_wp2_with fail
  have c0 : (w2.drewN n1).cell? ⟨b, 4, none⟩ = some (.int .u32 (s.e : Int)) := by rw [(hm2.drewN n1).cell]; rfl
  have c1 : (w2.drewN n1).cell? ⟨b, 5, none⟩ = some (.int .u32 (s.f : Int)) := by rw [(hm2.drewN n1).cell]; rfl
  have c2 : (w2.drewN n1).cell? ⟨b, 6, none⟩ = some (.int .u32 (s.g : Int)) := by rw [(hm2.drewN n1).cell]; rfl
  have c3 : (w2.drewN n1).cell? ⟨b, 7, none⟩ = some (.int .u32 (s.h : Int)) := by rw [(hm2.drewN n1).cell]; rfl
  refine mixR2_wp b _ _ _ _ _ _ c0 c1 c2 c3 ?_
  intro u39 u40 u41 u42 u43 u44 u45 u46 u47 u48 u49 u50 u51 u52 u53 u54 u55 u56 u57 u58 n2
  clear c0 c1 c2 c3
  have hi : (Tryd.prog.info? 70).map (·.size) = some (u32s (Sha.sched bl 64)).length := by rw [u32s_length, Sha.sched_length]; exact info64
  have hs3 := (hs2.drewN (n1 + n2)).range
  have hm3 := hm2.drewN (n1 + n2)
  have hb3 := Below.drewN' hb2 (n1 + n2)
  have ht3 : Table (w2.drewN (n1 + n2)) := table_below hb2 hg ht _
  rw [World.drewN_drewN]
  generalize w2.drewN (n1 + n2) = w3 at *
  go_wp2_with (refine wpList_load_mid (by rfl) 70 (.tmp 2) (by rfl) w1.heap.size 0 (by rfl) (u32s (Sha.sched bl 64)) _ hs3 Tryd.underlying70 rfl hi ?_)
  clear hs3 hi hs2 hm2 hb2 hth hone hi' hsz hz HA
  refine mixB0_wp s (Sha.sched bl 64) _ _ hok (Sha.sched_length _ _) (Sha.sched_lt hbo 64) ht3 ?_
  intro u11 u12 u13 u14 u60 u61 u62 u63 u64 u65 u66 u67 u68 u69 u70 u71 u72 u73 u74 u75 u76 u77 u78 u79 u80 u81 u82 u83 u84 u85 u86 u87 u88 u89 u90 u91 u92 u93 u94 u95 u96 u97 u98 u99 u100 u101 u102 u103 u104 u105 u106 u107 u108 u109 u110 u111 u112 u113 u114 u115 u116 u117 u118 u119 u120 u121 n3
  have hm4 := hm3.drewN n3
  have hb4 := Below.drewN' hb3 n3
  have hro := Sha.rounds_ok hok (Sha.sched bl 64) 64
  have HM : Hid (Sha.mix s bl = Sha.add s (Sha.rounds s (Sha.sched bl 64) 64)) := rfl
  generalize Sha.rounds s (Sha.sched bl 64) 64 = r at *
  generalize w3.drewN n3 = w4 at *
  simp only [Exit.inBlock, Exit.then]
  go_wp2
  refine mixB2_wp b s r bl fi le _ _ hok hro hm4 ?_
  intro u15 u16 u131 u132 u133 u134 u135 u136 u137 u138 u139 u140 u141 u142 u143 u144 u145 u146 w5 hk5 hb5
  simp only [Exit.inBlock, if_true]
  go_end0
  exact ⟨rfl, (Kept.of_below hb4).trans (hk5.mono hb4.size), by rw [HM.out]; exact hb5⟩
end Go.Proofs.YteillcbajkhjkaaDoor
