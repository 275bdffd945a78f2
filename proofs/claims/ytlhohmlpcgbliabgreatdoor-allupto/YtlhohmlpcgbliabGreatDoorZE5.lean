import Derived.Test.YtlhohmlpcgbliabGreatDoorZD6
import Derived.Deep.AppendLies
import Derived.Test.YtlhohmlpcgbliabGreatDoorZR9
import Derived.Test.YtlhohmlpcgbliabGreatDoorZX14
import Derived.Test.YtlhohmlpcgbliabGreatDoorZQ3
namespace Go.Proofs.YtlhohmlpcgbliabGreatDoor
set_option maxRecDepth 100000
open Go.RowKit
attribute [local go_sem ↓] Go.wp_at_zero Go.wp_at_succ

theorem DiskAt.own_lt {w : World} {b : Nat} {fv : Value} {D : Dk} (h : DiskAt w b fv D) : fv.ownBlock ≠ some w.heap.size := fun e => by
  have := (h.row.lt _ e).2
  omega
theorem Fr.grown {w w' : World} (b : Nat) {fv : Value} (hg : w.grownBy w' fv.ownBlock) : Fr b fv.ownBlock fv.ownBlock w w' :=
  ⟨hg.os, hg.tape, hg.output, hg.size, fun k hk _ hne => hg.block k hk (Ne.symm hne), .inr (.inl rfl)⟩

set_option maxHeartbeats 2000000 in
theorem wrR2_wp {c2 c3 c4 c6 c7 c8 c9 c10 c11 c12 c13 c14 c15 c16 c17 c18 c19 : Value} (b lb i : Nat) (fv : Value) (E : Dk) (s : List Nat) (w : World) (Q : Exit → Act → World → Prop) (h : DiskAt w b fv E) (hok : ({ E with fre := E.fre ++ [(i, s)] } : Dk).ok) (hB : Blk w lb 89 (u8s s)) (hs : s.length = 128) (hlb : fv.ownBlock ≠ some lb) (hne : lb ≠ b)
    (hQ : ∀ (u8 u9 u10 u11 u12 u13 u14 u15 u16 u17 u18 u19 : Value) (fv' : Value) (w' : World), DiskAt w' b fv' { E with fre := E.fre ++ [(i, s)] } → Fr b fv.ownBlock fv'.ownBlock w w' → Q .normal ⟨#[.pointer (some ⟨b, 0, none⟩), .int .i64 (i : Int), c2, c3, c4, .pointer (some ⟨lb, 0, none⟩), c6, c7, u8, u9, u10, u11, u12, u13, u14, u15, u16, u17, u18, u19], []⟩ w') :
    Code.wp Tryz.prog (rgn Tryz.f85 2) Q ⟨#[.pointer (some ⟨b, 0, none⟩), .int .i64 (i : Int), c2, c3, c4, .pointer (some ⟨lb, 0, none⟩), c6, c7, c8, c9, c10, c11, c12, c13, c14, c15, c16, c17, c18, c19], []⟩ w := by
  obtain ⟨p, cap, hfv⟩ := h.fv
  have c0 := h.cell 0
  simp only [List.getElem?_cons_zero, Nat.add_zero] at c0
  have hC : (fun wx : World => wx.cell? ⟨b, 25600, none⟩ = some fv ∧ wx.rangeAt lb 0 (u8s s)) w.drew := ⟨c0, hB.range⟩
  have hlt := h.lt
  have hltB := hB.lt
  conv => arg 2; whnf
  refine wp_region_z 12 (fun wx : World => wx.cell? ⟨b, 25600, none⟩ = some fv ∧ wx.rangeAt lb 0 (u8s s)) (by kernel_rfl) ?_
  refine wpAnyZ_pure (k := 0) (v := .pointer (some ⟨b, 0, none⟩)) (by rfl) (by kernel_rfl) (by kernel_rfl) (by kernel_rfl) (by rfl) (some 8) (by rfl) (by kernel_rfl) hC (fun _ _ => by kernel_rfl) ?_
  simp only [Act.put, List.setIfInBounds_toArray, List.set_cons_succ, List.set_cons_zero]
  refine wpAnyZ_pure (k := 1) (v := .pointer (some ⟨b, 0, none⟩)) (by rfl) (by kernel_rfl) (by kernel_rfl) (by kernel_rfl) (by rfl) (some 9) (by rfl) (by kernel_rfl) hC (fun _ _ => by kernel_rfl) ?_
  simp only [Act.put, List.setIfInBounds_toArray, List.set_cons_succ, List.set_cons_zero]
  refine wpAnyZ_pure (k := 2) (v := .pointer (some ⟨b, 0, none⟩)) (by rfl) (by kernel_rfl) (by kernel_rfl) (by kernel_rfl) (by rfl) (some 10) (by rfl) (by kernel_rfl) hC (fun _ _ => by kernel_rfl) ?_
  simp only [Act.put, List.setIfInBounds_toArray, List.set_cons_succ, List.set_cons_zero]
  refine wpAnyZ_pure (k := 3) (v := .pointer (some ⟨b, 25600, none⟩)) (by rfl) (by kernel_rfl) (by kernel_rfl) (by kernel_rfl) (by rfl) (some 11) (by rfl) (by kernel_rfl) hC (fun _ _ => by kernel_rfl) ?_
  simp only [Act.put, List.setIfInBounds_toArray, List.set_cons_succ, List.set_cons_zero]
  refine wpAnyZ_pure (k := 4) (v := fv) (by rfl) (by kernel_rfl) (by kernel_rfl) (by kernel_rfl) (by rfl) (some 12) (by rfl) (by kernel_rfl) hC (fun wx hx => exec_ld (by rfl) (by rfl) (loadSl wx b 25600 fv p _ cap hfv hx.1)) ?_
  simp only [Act.put, List.setIfInBounds_toArray, List.set_cons_succ, List.set_cons_zero]
  refine wpAnyZ_pure (k := 5) (v := .int .i64 (i : Int)) (by rfl) (by kernel_rfl) (by kernel_rfl) (by kernel_rfl) (by rfl) (some 13) (by rfl) (by kernel_rfl) hC (fun _ _ => by kernel_rfl) ?_
  simp only [Act.put, List.setIfInBounds_toArray, List.set_cons_succ, List.set_cons_zero]
  refine wpAnyZ_pure (k := 6) (v := .agg (u8s s).toArray) (by rfl) (by kernel_rfl) (by kernel_rfl) (by kernel_rfl) (by rfl) (some 14) (by rfl) (by kernel_rfl) hC (fun wx hx => exec_ld (by rfl) (by rfl) (loadSec hx.2 hs)) ?_
  simp only [Act.put, List.setIfInBounds_toArray, List.set_cons_succ, List.set_cons_zero]
  refine wpAnyZ_pure (k := 7) (v := .agg (Value.int .i64 (i : Int) :: u8s s).toArray) (by rfl) (by kernel_rfl) (by kernel_rfl) (by kernel_rfl) (by rfl) (some 15) (by rfl) (by kernel_rfl) hC (fun wx _ => exec_build (by rfl) (by kernel_rfl) (buildWr wx i s hs)) ?_
  simp only [Act.put, List.setIfInBounds_toArray, List.set_cons_succ, List.set_cons_zero]
  have hb1 : Below w.heap.size w.drew (w.drew.alloc (.cells (Value.int .i64 (i : Int) :: u8s s).toArray 141)) := (Below.refl w.heap.size w.drew).alloc (Nat.le_refl _) _
  have h1 : DiskAt (w.drew.alloc (.cells (Value.int .i64 (i : Int) :: u8s s).toArray 141)) b fv E := (h.drewN 1).below hb1
  have hB1 : Blk (w.drew.alloc (.cells (Value.int .i64 (i : Int) :: u8s s).toArray 141)) lb 89 (u8s s) := (hB.drewN 1).below hb1 hltB
  have hN1 : Blk (w.drew.alloc (.cells (Value.int .i64 (i : Int) :: u8s s).toArray 141)) w.heap.size 141 (.int .i64 (i : Int) :: u8s s) := Blk.new w.drew _ _
  have hfv1 : fv.ownBlock ≠ some w.heap.size := h.own_lt
  have r1 : Fr b fv.ownBlock fv.ownBlock w (w.drew.alloc (.cells (Value.int .i64 (i : Int) :: u8s s).toArray 141)) := Fr.of_below ((Below.refl w.heap.size w).drew.trans hb1)
  have hC1 : (w.drew.alloc (.cells (Value.int .i64 (i : Int) :: u8s s).toArray 141)).cell? ⟨b, 25600, none⟩ = some fv ∧ (w.drew.alloc (.cells (Value.int .i64 (i : Int) :: u8s s).toArray 141)).rangeAt lb 0 (u8s s) := by
    have c := h1.cell 0
    simp only [List.getElem?_cons_zero, Nat.add_zero] at c
    exact ⟨c, hB1.range⟩
  refine wpAnyZ_val (i := 8) (v := .slice (some ⟨w.heap.size, 0, none⟩) 1 1) (w' := w.drew.alloc (.cells (Value.int .i64 (i : Int) :: u8s s).toArray 141)) (by kernel_rfl) (by rfl) (by rfl) (some 16) (by rfl) (exec_buildSlice (by rfl) (by kernel_rfl) (buildSliceWr w.drew _ (by simp [hs]))) (fun _ => hC1) ?_
  simp only [Act.put, List.setIfInBounds_toArray, List.set_cons_succ, List.set_cons_zero]
  have hsz1 : w.heap.size < (w.drew.alloc (.cells (Value.int .i64 (i : Int) :: u8s s).toArray 141)).heap.size := by simp
  generalize w.drew.alloc (.cells (Value.int .i64 (i : Int) :: u8s s).toArray 141) = w1 at *
  obtain ⟨it, hi, hiz, his, hib⟩ := infoWr3
  have hfew := h.ok.few
  refine wpAnyZ_op (i := 9) (by kernel_rfl) (by rfl) (by rfl) ?_
  refine wp_append_lies w1 (.tmp 12) (.tmp 16) 91 (by rfl) 0 141 it _ 129 136 Tryz.underlying91 hi hiz his hib Tryz.zeroCells141_size (by omega) fv E.fre.length (flatW E.fre) (by rfl) h1.row ⟨w.heap.size, 0, none⟩ 1 1 (.int .i64 (i : Int) :: u8s s) (by rfl) (by simp [hs]) ?_ ?_ (by omega) (by unfold maxLen; omega) (by omega) (Nat.zero_le _) w1.heap.size rfl ?_
  · intro j u hu
    rw [Addr.add_mid, Nat.zero_add, hN1.cell]
    exact hu
  · intro u hu
    rcases List.mem_cons.1 hu with rfl | h2
    · rfl
    · exact u8s_one _ u h2
  intro g cap2 w2 hown hgr hg hlt2
  have r2 : Fr b fv.ownBlock fv.ownBlock w1 w2 := Fr.grown b hgr
  have hD2 : Blk w2 b 95 (E.cells fv) := by
    unfold Blk
    rw [hgr.block b (Nat.lt_of_lt_of_le hlt r1.size) (Ne.symm h.apart)]
    exact h1.blk
  have hB2 := r2.blk hB1 hne hlb
  have c2 : w2.cell? ⟨b, 25600, none⟩ = some fv := by rw [hD2.cell, h.ok.tail fv 0]; rfl
  have hgb : g ≠ b := by
    rcases hg with e | e
    · intro e2; subst e2; exact h.apart e
    · have := r1.size; omega
  refine ⟨fun _ => ⟨c2, hB2.range⟩, ?_⟩
  simp only [Act.put, List.setIfInBounds_toArray]
  refine wpAnyZ_val (i := 10) (v := .pointer (some ⟨b, 0, none⟩)) (w' := w2) (by kernel_rfl) (by rfl) (by rfl) (some 18) (by rfl) (by kernel_rfl) (fun _ => ⟨c2, hB2.range⟩) ?_
  simp only [Act.put]
  refine wpAnyZ_val (i := 11) (v := .pointer (some ⟨b, 25600, none⟩)) (w' := w2) (by kernel_rfl) (by rfl) (by rfl) (some 19) (by rfl) (by kernel_rfl) (fun _ => ⟨c2, hB2.range⟩) ?_
  simp only [Act.put]
  refine wpAnyZ_skip (i := 12) (w' := w2.setCell ⟨b, 25600, none⟩ (.slice (some ⟨g, 0, none⟩) (E.fre.length + 1) cap2)) (by kernel_rfl) (by rfl) (by rfl) (by rfl) (exec_store (by rfl) (by rfl) (by rfl) (storeSl w2 b 25600 fv _ _ _ c2 (hD2.frozen _))) (fun e => absurd rfl e) ?_
  refine wpAnyZ_done (by kernel_rfl) ?_
  refine NoPanic.normal ?_
  have R := r1.trans r2
  have hob : (Value.slice (some ⟨g, 0, none⟩) (E.fre.length + 1) cap2).ownBlock = some g := rfl
  refine hQ _ _ _ _ _ _ _ _ _ _ _ _ (.slice (some ⟨g, 0, none⟩) (E.fre.length + 1) cap2) _ ⟨hok, (hD2.set (25600 + 0) _).eq ?_, ?_, ?_⟩ ⟨R.os, R.tape, R.output, by simpa [World.setCell] using R.size, fun k hk hb hg => (Below.heap_setCell _ _ _ _ hb).trans (R.block k hk hb hg), ?_⟩
  · rw [h.ok.setTail]; rfl
  · rw [List.length_append, ← flatW_snoc]
    exact ownsRow_setCell_other hown (by rw [hob]; simpa using hgb) _
  · rw [hob]; simpa using hgb
  · rw [hob]
    rcases hg with e | e
    · exact .inr (.inl e.symm)
    · exact .inr (.inr ⟨g, rfl, by have := r1.size; omega⟩)

set_option maxHeartbeats 2000000 in
theorem write_any (b : Nat) (fv : Value) (D : Dk) (i : Nat) (s : List Nat) (w : World) (h : DiskAt w b fv D) (hi : i < 200) (hs : Sec s) (hfew : D.fre.length < 1000000) :
    Calls Tryz.prog 85 #[.pointer (some ⟨b, 0, none⟩), .int .i64 (i : Int), .agg (u8s s).toArray] w fun e w' => e = .returned (.tuple #[]) ∧ ∃ fv', DiskAt w' b fv' (D.write i s) ∧ Fr b fv.ownBlock fv'.ownBlock w w' := by
  have hb0 : Below w.heap.size w (w.alloc (.cells (u8s s).toArray 89)) := (Below.refl _ _).alloc (Nat.le_refl _) _
  have hB0 := Blk.new w 89 (u8s s)
  have h0 := h.below hb0
  have hlt := h.lt
  have hokw := h.ok.write hi hs hfew
  have hown := h.own_lt
  have hsl := hs.len
  have ha := act_any b fv D _ h0
  have r0 : Fr b fv.ownBlock fv.ownBlock w (w.alloc (.cells (u8s s).toArray 89)) := Fr.of_below hb0
  clear h h0
  by_cases hg : D.goes = true
  · rw [hg] at ha
    have HG : Hid (D.write i s = { D.act with fre := D.act.fre ++ [(i, s)] }) := by
      show _ = _
      simp [Dk.write, hg]
    have HO : Hid (D.write i s).ok := hokw
    clear hg hokw
    generalize hA : (u8s s).toArray = arr at *
    have HA : Hid ((u8s s).toArray = arr) := hA
    clear hA
    go_enter Tryz.func85, Tryz.ntmps85
    go_wp2_with fail
    refine ha.mono ?_
    rintro e w1 ⟨rfl, fv1, h1, r1⟩
    clear ha
    have hB1 := r1.blk hB0 (by omega) hown
    have hown1 := r1.apart (c := w.heap.size) (by simp) hown
    have r01 := r0.trans r1
    go_wp2_with fail
    have HO' := HO.out
    rw [HG.out] at HO'
    refine wrR2_wp b w.heap.size i fv1 D.act s w1 _ h1 HO' hB1 hsl hown1 (by omega) ?_
    intro u8 u9 u10 u11 u12 u13 u14 u15 u16 u17 u18 u19 fv2 w2 h2 r2
    go_wp2
    go_end0
    exact ⟨rfl, fv2, by rw [HG.out]; exact h2, r01.trans r2⟩
  · have hg' : D.goes = false := by simpa using hg
    rw [hg'] at ha
    have HG : Hid (D.write i s = D.act) := by
      show _ = _
      simp [Dk.write, hg']
    clear hg hokw hg'
    generalize (u8s s).toArray = arr at *
    go_enter Tryz.func85, Tryz.ntmps85
    go_wp2_with fail
    refine ha.mono ?_
    rintro e w1 ⟨rfl, fv1, h1, r1⟩
    go_wp2
    go_end0
    exact ⟨rfl, fv1, by rw [HG.out]; exact h1, r0.trans r1⟩
end Go.Proofs.YtlhohmlpcgbliabGreatDoor
namespace Go.Proofs.YtlhohmlpcgbliabGreatDoor
set_option maxRecDepth 100000
open Go.RowKit
attribute [local go_sem ↓] Go.wp_at_zero Go.wp_at_succ

theorem arrSec : Tryz.prog.arrayLen 89 = 128 := by kernel_rfl
theorem elemSec : Tryz.prog.elem 89 = 5 := by kernel_rfl
theorem sliceAt_sec (w : World) (b off : Nat) (l h : Int) (h0 : 0 ≤ l) (h1 : l ≤ h) (h2 : h ≤ 128) (h3 : l < 128) :
    (Instr.sliceAt 89 (.pointer (some ⟨b, off, none⟩)) (some (.int .i64 l)) (some (.int .i64 h)) none).run Tryz.prog w = .ok (.slice (some ⟨b, off + l.toNat, none⟩) (h.toNat - l.toNat) (128 - l.toNat)) w := by
  rw [run_sliceAt_array_lh w 89 ⟨b, off, none⟩ Tryz.underlying89 .i64 .i64 l h h0 h1 (by rw [arrSec]; exact h2), elemSec, size5, arrSec]
  simp only [slicedAt, Result.andThen]
  rw [if_neg (by omega)]
  simp [Addr.add]
/-- A row: where it starts, how many slots a sector has. -/
def rowV (start each : Nat) : Value := .agg #[.int .i64 (start : Int), .int .i64 (each : Int)]
theorem infoRow : (Tryz.prog.info? 129).map (·.size) = some 2 := by kernel_rfl

set_option maxHeartbeats 400000 in
theorem slot_any (start each sb i : Nat) (w : World) (he : each = 3 ∨ each = 4) (hi : i < 100000) :
    Calls Tryz.prog 114 #[rowV start each, .pointer (some ⟨sb, 0, none⟩), .int .i64 (i : Int)] w fun e w' => e = .returned (.slice (some ⟨sb, i % each * (128 / each), none⟩) (128 / each) (128 - i % each * (128 / each))) ∧ Below w.heap.size w w' := by
  have hb0 : Below w.heap.size w (w.alloc (.cells #[.int .i64 (start : Int), .int .i64 (each : Int)] 129)) := (Below.refl _ _).alloc (Nat.le_refl _) _
  rcases he with rfl | rfl
  · have hsl := fun wx => sliceAt_sec wx sb 0 ((i : Int) % 3 * 42) ((i : Int) % 3 * 42 + 42) (by omega) (by omega) (by omega) (by omega)
    have e1 : ((i : Int) % 3 * 42).toNat = i % 3 * 42 := by omega
    have e2 : ((i : Int) % 3 * 42 + 42).toNat = i % 3 * 42 + 42 := by omega
    rw [e1, e2, Nat.zero_add, Nat.add_sub_cancel_left] at hsl
    clear e1 e2
    unfold rowV
    go_enter Tryz.func114, Tryz.ntmps114
    go_wp2
    go_ret
    exact ⟨rfl, hb0⟩
  · have hsl := fun wx => sliceAt_sec wx sb 0 ((i : Int) % 4 * 32) ((i : Int) % 4 * 32 + 32) (by omega) (by omega) (by omega) (by omega)
    have e1 : ((i : Int) % 4 * 32).toNat = i % 4 * 32 := by omega
    have e2 : ((i : Int) % 4 * 32 + 32).toNat = i % 4 * 32 + 32 := by omega
    rw [e1, e2, Nat.zero_add, Nat.add_sub_cancel_left] at hsl
    clear e1 e2
    unfold rowV
    go_enter Tryz.func114, Tryz.ntmps114
    go_wp2
    go_ret
    exact ⟨rfl, hb0⟩

theorem convert_range {w : World} {b o cap : Nat} {l : List Nat} (h : w.rangeAt b o (u8s l)) : (convert 78 9 (.slice (some ⟨b, o, none⟩) l.length cap)).run Tryz.prog w = .ok (.string (strOf l)) w := by
  refine run_convert_bytes_arg w 78 5 Tryz.underlying78 Tryz.underlying5 b o l.length cap (l.map fun (x : Nat) => (x : Int)) (by simp) ?_ 9 Tryz.underlying9
  intro i hi
  have := h i _ (u8s_get l i hi)
  rw [this]
  simp [hi]

/-- One byte. -/
def numS (n : Nat) : ByteArray := strOf [n]
set_option maxHeartbeats 400000 in
theorem number_any (n : Nat) (w : World) (hn : n < 256) : Calls Tryz.prog 108 #[.int .i64 (n : Int)] w fun e w' => e = .returned (.string (numS n)) ∧ Below w.heap.size w w' := by
  have hcv : (convert 78 9 (.slice (some ⟨w.heap.size, 0, none⟩) 1 1)).run Tryz.prog (w.alloc (.cells #[.int .u8 (n : Int)] 5)) = .ok (.string (numS n)) (w.alloc (.cells #[.int .u8 (n : Int)] 5)) :=
    convert_range (l := [n]) (Blk.new w 5 (u8s [n])).range
  have hb0 : Below w.heap.size w (w.alloc (.cells #[.int .u8 (n : Int)] 5)) := (Below.refl _ _).alloc (Nat.le_refl _) _
  go_enter Tryz.func108, Tryz.ntmps108
  go_wp2
  go_ret
  exact ⟨rfl, hb0⟩

set_option maxHeartbeats 400000 in
theorem added_any (w : World) : Calls Tryz.prog 124 #[] w fun e w' => e = .returned (rowV 2 3) ∧ Below w.heap.size w w' := by
  go_enter Tryz.func124, Tryz.ntmps124
  go_wp2
  exact bodyPost_ret (results_cell Tryz.results124 (by rfl) (Blk.new w 129 [.int .i64 2, .int .i64 3]).range Tryz.underlying129 rfl infoRow) rfl ⟨rfl, (Below.refl _ _).alloc (Nat.le_refl _) _⟩
set_option maxHeartbeats 400000 in
theorem bundles_any (w : World) : Calls Tryz.prog 96 #[] w fun e w' => e = .returned (rowV 6 3) ∧ Below w.heap.size w w' := by
  go_enter Tryz.func96, Tryz.ntmps96
  go_wp2
  exact bodyPost_ret (results_cell Tryz.results96 (by rfl) (Blk.new w 129 [.int .i64 6, .int .i64 3]).range Tryz.underlying129 rfl infoRow) rfl ⟨rfl, (Below.refl _ _).alloc (Nat.le_refl _) _⟩
/-- Where the tiles of a level start, and how many trees there may be. -/
def tileAt : Nat → Nat × Nat
  | 0 => (28, 64)
  | l + 1 => ((tileAt l).1 + ((tileAt l).2 + 3) / 4, (tileAt l).2 / 4)
theorem tileAt_le (l : Nat) : (tileAt l).1 ≤ 50 ∧ (tileAt l).2 ≤ 64 := by
  match l with
  | 0 => decide
  | 1 => decide
  | 2 => decide
  | 3 => decide
  | l + 4 =>
    have h : ∀ k, tileAt (k + 4) = (50, 0) := by
      intro k
      induction k with
      | zero => decide
      | succ k ih => rw [show k + 1 + 4 = (k + 4) + 1 by omega, tileAt, ih]; rfl
    rw [h]; decide
set_option maxHeartbeats 1000000 in
theorem tiles_any (l : Nat) (w : World) (hl : l < 1000) : Calls Tryz.prog 116 #[.int .i64 (l : Int)] w fun e w' => e = .returned (rowV (tileAt l).1 4) ∧ Below w.heap.size w w' := by
  have hb0 : Below w.heap.size w (w.alloc (.cells #[.int .i64 0, .int .i64 0] 129)) := (Below.refl _ _).alloc (Nat.le_refl _) _
  have hB0 : Blk (w.alloc (.cells #[.int .i64 0, .int .i64 0] 129)) w.heap.size 129 [.int .i64 0, .int .i64 0] := Blk.new w _ _
  go_enter Tryz.func116, Tryz.ntmps116
  try go_wp2
  go_loopw [3, 4, 6] (fun s t v wr => ∃ k : Nat, k ≤ l ∧ v = .int .i64 (k : Int) ∧ s = .int .i64 ((tileAt k).1 : Int) ∧ t = .int .i64 ((tileAt k).2 : Int) ∧ Blk wr w.heap.size 129 [.int .i64 0, .int .i64 0] ∧ Below w.heap.size w wr) (fun _ _ v _ => l - (intOf v).toNat)
  case atStart => exact ⟨0, by omega, rfl, rfl, rfl, hB0, hb0⟩
  case round =>
    obtain ⟨k, hk, rfl, rfl, rfl, hB, hb⟩ := hrel
    clear hB0 hb0
    have hle := tileAt_le k
    have HT : Hid (tileAt (k + 1) = ((tileAt k).1 + ((tileAt k).2 + 3) / 4, (tileAt k).2 / 4)) := rfl
    by_cases h8 : k < l
    · generalize tileAt k = p at *
      obtain ⟨p1, p2⟩ := p
      simp only at *
      go_wp2
      go_roundw
      case rel => exact ⟨k + 1, by omega, by go_num, by rw [HT.out]; go_num, by rw [HT.out]; go_num, hB, hb⟩
      case measure => simp [intOf]; omega
    · have hk8 : k = l := by omega
      subst hk8
      have c0 := hB.cell 0
      have c1 := hB.cell 1
      have f0 := hB.frozen 0
      have f1 := hB.frozen 1
      simp only [List.getElem?_cons_succ, List.getElem?_cons_zero] at c0 c1
      have HB := (hB.set 0 (.int .i64 ((tileAt k).1 : Int))).set 1 (.int .i64 4)
      simp only [List.set_cons_succ, List.set_cons_zero] at HB
      have Hb : Below w.heap.size w ((wr.setCell ⟨w.heap.size, 0, none⟩ (.int .i64 ((tileAt k).1 : Int))).setCell ⟨w.heap.size, 1, none⟩ (.int .i64 4)) := (hb.setCell (Nat.le_refl _) _).setCell (Nat.le_refl _) _
      go_wp2
      exact bodyPost_ret (results_cell Tryz.results116 (by rfl) HB.range Tryz.underlying129 rfl infoRow) rfl ⟨rfl, Hb⟩
end Go.Proofs.YtlhohmlpcgbliabGreatDoor
namespace Go.Proofs.YtlhohmlpcgbliabGreatDoor

section
variable {P : Program} {ops : Array Oper} {Q : Exit → Act → World → Prop} {S : World → Prop}
/-- A region that draws its order, walked under a condition S that holds throughout. -/
theorem wp_region_s {id : Nat} {l : List Oper} {a : Act} {w : World} (S : World → Prop) (hm : P.follows .mixedOrders = true)
    (h : wpAnyH P .any l.toArray (NoPanic Q) S l.length (Array.replicate l.length false) a w.drew) : (Code.region id l.toArray true).wp P Q a w := by
  refine wp_region_noPanic (wp_region_held (S := S) hm ?_)
  simpa using h
theorem wpS_pure {k fuel : Nat} {o : Oper} {v : Value} {listed : Array Bool} {a : Act} {w : World} (h0 : ops[k]? = some o) (hs : Region.noSelect ops = true) (hf : Region.free .any ops listed k = true)
    (hr : (Region.ready .any ops listed).contains k = true) (hgd : o.guard = none) (d : Option Nat) (hd : o.dst = d) (hS : S w) (hv : ∀ wx, S wx → (execOp a.eval o).run P wx = .ok (.value v) wx)
    (h : wpAnyH P .any ops (NoPanic Q) S fuel (listed.setIfInBounds k true) (a.put d v) w) : wpAnyH P .any ops (NoPanic Q) S (fuel + 1) listed a w :=
  wpAnyH_take h0 hs hf hr (fun c a w hq => by cases hq) (.inl ⟨by simp [Region.wanted, hgd], hv⟩) hS (by rw [hd]; exact h)
theorem wpS_one {i fuel : Nat} {listed : Array Bool} {a : Act} {w : World} (hr : Region.ready .any ops listed = [i])
    (h : wpOp P ops Q i (fun a' w' => S w' ∧ wpAnyH P .any ops Q S fuel (listed.setIfInBounds i true) a' w') a w) : wpAnyH P .any ops Q S (fuel + 1) listed a w := by
  refine wpAnyH_all hr (by simp) ?_
  intro k hk
  simp at hk
  subst hk
  exact h
theorem wpS_two {i j fuel : Nat} {listed : Array Bool} {a : Act} {w : World} (hr : Region.ready .any ops listed = [i, j])
    (h : wpOp P ops Q i (fun a' w' => S w' ∧ wpAnyH P .any ops Q S fuel (listed.setIfInBounds i true) a' w') a w)
    (h2 : wpOp P ops Q j (fun a' w' => S w' ∧ wpAnyH P .any ops Q S fuel (listed.setIfInBounds j true) a' w') a w) : wpAnyH P .any ops Q S (fuel + 1) listed a w := by
  refine wpAnyH_all hr (by simp) ?_
  intro k hk
  simp at hk
  rcases hk with rfl | rfl
  · exact h
  · exact h2
theorem opS_val {i : Nat} {o : Oper} {a : Act} {w w' : World} {v : Value} {K : Act → World → Prop} (hi : ops[i]? = some o) (hgd : o.guard = none) (d : Option Nat) (hd : o.dst = d)
    (hv : (execOp a.eval o).run P w = .ok (.value v) w') (h : K (a.put d v) w') : wpOp P ops Q i K a w := by
  unfold wpOp
  have hw : Region.wanted o (yielded ops a.tmps) = true := by simp [Region.wanted, hgd]
  simp only [hi, hw, if_true]
  refine .inl ?_
  unfold Oper.wp
  rw [hv]
  rw [← hd] at h
  exact h
theorem opS_skip {i : Nat} {o : Oper} {a : Act} {w w' : World} {K : Act → World → Prop} (hi : ops[i]? = some o) (hgd : o.guard = none) (hd : o.dst = none)
    (hx : (execOp a.eval o).run P w = .ok .skip w') (h : K a w') : wpOp P ops Q i K a w := by
  unfold wpOp
  have hw : Region.wanted o (yielded ops a.tmps) = true := by simp [Region.wanted, hgd]
  simp only [hi, hw, if_true]
  refine .inl ?_
  unfold Oper.wp
  rw [hx]
  have e : a.put o.dst undef = a := by rw [hd]; rfl
  simp only [Oper.upon]
  rw [e]
  exact h
theorem opS_call {i : Nat} {o : Oper} {a : Act} {w : World} {f : FuncId} {vs : Array Value} {K : Act → World → Prop} (hi : ops[i]? = some o) (hgd : o.guard = none) (d : Option Nat) (hd : o.dst = d)
    (hx : (execOp a.eval o).run P w = .ok (.enter f vs) w) (hc : Calls P f vs w fun e w' => ∃ v, e = .returned v ∧ K (a.put d v) w') : wpOp P ops Q i K a w := by
  unfold wpOp
  have hw : Region.wanted o (yielded ops a.tmps) = true := by simp [Region.wanted, hgd]
  simp only [hi, hw, if_true]
  refine .inl ?_
  unfold Oper.wp
  rw [hx, Oper.upon_enter]
  refine hc.mono ?_
  rintro e w' ⟨v, rfl, h⟩
  rw [← hd] at h
  exact h
end
end Go.Proofs.YtlhohmlpcgbliabGreatDoor
namespace Go.Proofs.YtlhohmlpcgbliabGreatDoor
set_option maxRecDepth 100000
open Go.RowKit
attribute [local go_sem ↓] Go.wp_at_zero Go.wp_at_succ

theorem exec_bop {P : Program} {o : Oper} {a : Act} {w : World} {op : BinOp} {t t2 : TypeId} {x y : Operand} {v1 v2 u : Value} (ho : o.op = .binOp op t x y t2) (hx : a.eval x = v1) (hy : a.eval y = v2) (hg : (eqGuard op t x y v1 v2).run P w = .ok () w) (hr : (binOp op t v1 v2).run P w = .ok u w) : (execOp a.eval o).run P w = .ok (.value u) w := by
  unfold execOp
  simp only [ho, hx, hy]
  simp [hg, hr]
theorem quo_run (i e : Nat) (w : World) (he : e = 3 ∨ e = 4) (hi : i < 100000) : (binOp .quo 3 (.int .i64 (i : Int)) (.int .i64 (e : Int))).run Tryz.prog w = .ok (.int .i64 ((i / e : Nat) : Int)) w := by
  rcases he with rfl | rfl
  · have h : IntKind.i64.wrap ((i : Int) / 3) = (i : Int) / 3 := IntWalk.i64_in _ ⟨by omega, by omega⟩
    simp [go_sem]
    exact h
  · have h : IntKind.i64.wrap ((i : Int) / 4) = (i : Int) / 4 := IntWalk.i64_in _ ⟨by omega, by omega⟩
    simp [go_sem]
    exact h
theorem add_run (i e : Nat) (w : World) (hi : i < 100000) (he : e < 100000) : (binOp .add 3 (.int .i64 (i : Int)) (.int .i64 (e : Int))).run Tryz.prog w = .ok (.int .i64 ((i + e : Nat) : Int)) w := by
  have h : IntKind.i64.wrap ((i : Int) + (e : Int)) = (i : Int) + (e : Int) := IntWalk.i64_in _ ⟨by omega, by omega⟩
  simp [go_sem]
  exact h
theorem loadInt (w : World) (b o : Nat) (x : Int) (h : w.cell? ⟨b, o, none⟩ = some (.int .i64 x)) : (Instr.loadAt 3 (.pointer (some ⟨b, o, none⟩))).run Tryz.prog w = .ok (.int .i64 x) w := by
  simp [go_sem, h]
theorem allocSec {o : Oper} {a : Act} (w : World) (ho : o.op = .alloc 89) : (execOp a.eval o).run Tryz.prog w = .ok (.value (.pointer (some ⟨w.heap.size, 0, none⟩))) (w.alloc (.cells Tryz.zeroCells89 89)) := by
  unfold execOp
  simp only [ho]
  simp [go_sem, Tryz.zeroValue89]

set_option maxHeartbeats 2000000 in
theorem rdR1_wp {c0 c4 c5 c6 c7 c8 c9 c10 c11 c12 c13 c14 c15 c16 c17 c18 c19 c20 : Value} (b rb i start each : Nat) (fv : Value) (D : Dk) (w : World) (Q : Exit → Act → World → Prop) (h : DiskAt w b fv D) (hr0 : w.cell? ⟨rb, 0, none⟩ = some (.int .i64 (start : Int))) (hr1 : w.cell? ⟨rb, 1, none⟩ = some (.int .i64 (each : Int)))
    (he : each = 3 ∨ each = 4) (hi : i < 10000) (hst : start + i / each < 200)
    (hQ : ∀ (u8 u9 u10 u11 u12 u13 u14 u15 u16 : Value) (lb : Nat) (w' : World), Blk w' lb 89 (u8s (D.read (start + i / each))) → Below w.heap.size w w' → w.heap.size ≤ lb → Q .normal ⟨#[c0, .pointer (some ⟨b, 0, none⟩), .int .i64 (i : Int), .pointer (some ⟨rb, 0, none⟩), c4, c5, c6, .pointer (some ⟨lb, 0, none⟩), u8, u9, u10, u11, u12, u13, u14, u15, u16, c17, c18, c19, c20], []⟩ w') :
    Code.wp Tryz.prog (rgn Tryz.f97 1) Q ⟨#[c0, .pointer (some ⟨b, 0, none⟩), .int .i64 (i : Int), .pointer (some ⟨rb, 0, none⟩), c4, c5, c6, c7, c8, c9, c10, c11, c12, c13, c14, c15, c16, c17, c18, c19, c20], []⟩ w := by
  have hlr : rb < w.heap.size := World.block_lt_of_cell? _ _ hr0
  have hst1 : start < 100000 := Nat.lt_of_le_of_lt (Nat.le_add_right _ _) (Nat.lt_of_lt_of_le hst (by omega))
  have hst2 : i / each < 100000 := Nat.lt_of_le_of_lt (Nat.le_add_left _ _) (Nat.lt_of_lt_of_le hst (by omega))
  have hS : (fun wx : World => Below w.heap.size w wx) w.drew := (Below.refl w.heap.size w).drew
  have hsec := (h.ok.read hst)
  have hread : ∀ wx, Below w.heap.size w wx → Calls Tryz.prog 113 #[.pointer (some ⟨b, 0, none⟩), .int .i64 ((start + i / each : Nat) : Int)] wx fun e w' => e = .returned (.agg (u8s (D.read (start + i / each))).toArray) ∧ Below wx.heap.size wx w' :=
    fun wx hx => read_any b fv D (start + i / each) wx (h.below hx) hst
  generalize hsd : D.read (start + i / each) = s at *
  have hsl := hsec.len
  have hz : Tryz.zeroCells89.toList.length = 128 := by rw [zeroSec]; simp
  conv => arg 2; whnf
  refine wp_region_s (fun wx : World => Below w.heap.size w wx) (by kernel_rfl) ?_
  refine wpS_pure (k := 0) (v := .pointer (some ⟨b, 0, none⟩)) (by rfl) (by kernel_rfl) (by kernel_rfl) (by kernel_rfl) (by rfl) (some 8) (by rfl) hS (fun _ _ => by kernel_rfl) ?_
  simp only [Act.put, List.setIfInBounds_toArray, List.set_cons_succ, List.set_cons_zero]
  refine wpS_pure (k := 1) (v := .pointer (some ⟨rb, 0, none⟩)) (by rfl) (by kernel_rfl) (by kernel_rfl) (by kernel_rfl) (by rfl) (some 9) (by rfl) hS (fun _ _ => by kernel_rfl) ?_
  simp only [Act.put, List.setIfInBounds_toArray, List.set_cons_succ, List.set_cons_zero]
  refine wpS_pure (k := 2) (v := .int .i64 (start : Int)) (by rfl) (by kernel_rfl) (by kernel_rfl) (by kernel_rfl) (by rfl) (some 10) (by rfl) hS (fun wx hx => exec_ld (by rfl) (by rfl) (loadInt wx rb 0 _ (by rw [hx.cell (p := ⟨rb, 0, none⟩) hlr]; exact hr0))) ?_
  simp only [Act.put, List.setIfInBounds_toArray, List.set_cons_succ, List.set_cons_zero]
  refine wpS_pure (k := 3) (v := .int .i64 (i : Int)) (by rfl) (by kernel_rfl) (by kernel_rfl) (by kernel_rfl) (by rfl) (some 11) (by rfl) hS (fun _ _ => by kernel_rfl) ?_
  simp only [Act.put, List.setIfInBounds_toArray, List.set_cons_succ, List.set_cons_zero]
  refine wpS_pure (k := 4) (v := .pointer (some ⟨rb, 1, none⟩)) (by rfl) (by kernel_rfl) (by kernel_rfl) (by kernel_rfl) (by rfl) (some 12) (by rfl) hS (fun _ _ => by kernel_rfl) ?_
  simp only [Act.put, List.setIfInBounds_toArray, List.set_cons_succ, List.set_cons_zero]
  refine wpS_pure (k := 5) (v := .int .i64 (each : Int)) (by rfl) (by kernel_rfl) (by kernel_rfl) (by kernel_rfl) (by rfl) (some 13) (by rfl) hS (fun wx hx => exec_ld (by rfl) (by rfl) (loadInt wx rb 1 _ (by rw [hx.cell (p := ⟨rb, 1, none⟩) hlr]; exact hr1))) ?_
  simp only [Act.put, List.setIfInBounds_toArray, List.set_cons_succ, List.set_cons_zero]
  refine wpS_pure (k := 6) (v := .int .i64 ((i / each : Nat) : Int)) (by rfl) (by kernel_rfl) (by kernel_rfl) (by kernel_rfl) (by rfl) (some 14) (by rfl) hS (fun wx _ => exec_bop (by rfl) (by rfl) (by rfl) (by kernel_rfl) (quo_run i each wx he (by omega))) ?_
  simp only [Act.put, List.setIfInBounds_toArray, List.set_cons_succ, List.set_cons_zero]
  refine wpS_pure (k := 7) (v := .int .i64 ((start + i / each : Nat) : Int)) (by rfl) (by kernel_rfl) (by kernel_rfl) (by kernel_rfl) (by rfl) (some 15) (by rfl) hS (fun wx _ => exec_bop (by rfl) (by rfl) (by rfl) (by kernel_rfl) (add_run start (i / each) wx hst1 hst2)) ?_
  simp only [Act.put, List.setIfInBounds_toArray, List.set_cons_succ, List.set_cons_zero]
  have hb0 : Below w.heap.size w w.drew := hS
  refine wpS_two (i := 8) (j := 9) (by kernel_rfl) ?_ ?_
  · refine opS_call (f := 113) (vs := #[.pointer (some ⟨b, 0, none⟩), .int .i64 ((start + i / each : Nat) : Int)]) (by rfl) (by rfl) (some 16) (by rfl) (by kernel_rfl) ((hread _ hb0).mono ?_)
    rintro e w1 ⟨rfl, hb1⟩
    have hb1' : Below w.heap.size w w1 := hb0.trans (hb1.mono hb0.size)
    refine ⟨_, rfl, hb1', ?_⟩
    simp only [Act.put, List.setIfInBounds_toArray, List.set_cons_succ, List.set_cons_zero]
    have hB := Blk.newA w1 89 Tryz.zeroCells89
    have hb2 : Below w.heap.size w (w1.alloc (.cells Tryz.zeroCells89 89)) := hb1'.alloc hb1'.size _
    refine wpS_one (i := 9) (by kernel_rfl) (opS_val (by rfl) (by rfl) (some 7) (by rfl) (allocSec w1 (by rfl)) ⟨hb2, ?_⟩)
    simp only [Act.put, List.setIfInBounds_toArray, List.set_cons_succ, List.set_cons_zero]
    have hB3 := hB.fill (u8s s) (by simp [hsl, hz])
    have hb3 := Below.setCells hb2 w1.heap.size 0 hb1'.size (u8s s)
    refine wpS_one (i := 10) (by kernel_rfl) (opS_skip (by rfl) (by rfl) (by rfl) (exec_store (by rfl) (by rfl) (by rfl) (storeSec (hB.there 0 128 (by omega)) hsl)) ⟨hb3, ?_⟩)
    refine wpAnyH_done (by kernel_rfl) ?_ _
    refine NoPanic.normal ?_
    exact hQ _ _ _ _ _ _ _ _ _ _ _ hB3 hb3 hb1'.size
  · have hB := Blk.newA w.drew 89 Tryz.zeroCells89
    have hb2 : Below w.heap.size w (w.drew.alloc (.cells Tryz.zeroCells89 89)) := hb0.alloc hb0.size _
    refine opS_val (by rfl) (by rfl) (some 7) (by rfl) (allocSec w.drew (by rfl)) ⟨hb2, ?_⟩
    simp only [Act.put, List.setIfInBounds_toArray, List.set_cons_succ, List.set_cons_zero]
    refine wpS_one (i := 8) (by kernel_rfl) (opS_call (f := 113) (vs := #[.pointer (some ⟨b, 0, none⟩), .int .i64 ((start + i / each : Nat) : Int)]) (by rfl) (by rfl) (some 16) (by rfl) (by kernel_rfl) ((hread _ hb2).mono ?_))
    rintro e w1 ⟨rfl, hb1⟩
    have hb1' : Below w.heap.size w w1 := hb2.trans (hb1.mono hb2.size)
    refine ⟨_, rfl, hb1', ?_⟩
    simp only [Act.put, List.setIfInBounds_toArray, List.set_cons_succ, List.set_cons_zero]
    have hB1 := hB.below hb1 hB.lt
    have hB3 := hB1.fill (u8s s) (by simp [hsl, hz])
    have hb3 := Below.setCells hb1' w.drew.heap.size 0 (Nat.le_refl _) (u8s s)
    refine wpS_one (i := 10) (by kernel_rfl) (opS_skip (by rfl) (by rfl) (by rfl) (exec_store (by rfl) (by rfl) (by rfl) (storeSec (hB1.there 0 128 (by omega)) hsl)) ⟨hb3, ?_⟩)
    refine wpAnyH_done (by kernel_rfl) ?_ _
    refine NoPanic.normal ?_
    exact hQ _ _ _ _ _ _ _ _ _ _ _ hB3 hb3 (Nat.le_refl _)

/-- What slot i of a row holds. -/
def slotL (s : List Nat) (each i : Nat) : List Nat := (s.drop (i % each * (128 / each))).take (128 / each)
def Dk.slot (D : Dk) (start each i : Nat) : List Nat := slotL (D.read (start + i / each)) each i
theorem slotL_length {s : List Nat} {each : Nat} (i : Nat) (hs : s.length = 128) (he : each = 3 ∨ each = 4) : (slotL s each i).length = 128 / each := by
  rcases he with rfl | rfl
  · simp [slotL, hs]; omega
  · simp [slotL, hs]; omega

set_option maxHeartbeats 1000000 in
theorem rowRead_any (b i start each : Nat) (fv : Value) (D : Dk) (w : World) (h : DiskAt w b fv D) (he : each = 3 ∨ each = 4) (hi : i < 10000) (hst : start + i / each < 200) :
    Calls Tryz.prog 97 #[rowV start each, .pointer (some ⟨b, 0, none⟩), .int .i64 (i : Int)] w fun e w' => e = .returned (.string (strOf (D.slot start each i))) ∧ Below w.heap.size w w' := by
  have hb0 : Below w.heap.size w (w.alloc (.cells #[.int .i64 (start : Int), .int .i64 (each : Int)] 129)) := (Below.refl _ _).alloc (Nat.le_refl _) _
  have hB0 : Blk (w.alloc (.cells #[.int .i64 (start : Int), .int .i64 (each : Int)] 129)) w.heap.size 129 [.int .i64 (start : Int), .int .i64 (each : Int)] := Blk.new w _ _
  have h1 := h.below hb0
  have hsz := (h.ok.read hst).len
  have HS : Hid (D.slot start each i = slotL (D.read (start + i / each)) each i) := rfl
  unfold rowV
  go_enter Tryz.func97, Tryz.ntmps97
  go_wp2_with fail
  have hlt0 := hB0.lt
  generalize w.alloc (.cells #[.int .i64 (start : Int), .int .i64 (each : Int)] 129) = w0 at *
  refine rdR1_wp b w.heap.size i start each fv D w0 _ h1 (by rw [hB0.cell]; rfl) (by rw [hB0.cell]; rfl) he hi hst ?_
  intro u8 u9 u10 u11 u12 u13 u14 u15 u16 lb w1 hB1 hb1 hlb
  generalize D.read (start + i / each) = s at *
  have hr0 := hB0.below hb1 hlt0
  have hc0 := hr0.cell 0
  have hc1 := hr0.cell 1
  simp only [List.getElem?_cons_succ, List.getElem?_cons_zero] at hc0 hc1
  have hsl := slot_any start each lb i w1 he (by omega)
  unfold rowV at hsl
  go_wp2_with fail
  refine hsl.mono ?_
  rintro e w2 ⟨rfl, hb2⟩
  have hB2 := hB1.below hb2 hB1.lt
  have hl := slotL_length i hsz he
  have hrg : w2.rangeAt lb (i % each * (128 / each)) (u8s (slotL s each i)) := by
    have := hB2.part (i % each * (128 / each)) (128 / each)
    unfold slotL
    rw [u8s_take, u8s_drop]
    exact this
  have hcv := convert_range (cap := 128 - i % each * (128 / each)) hrg
  rw [hl] at hcv
  go_wp2
  go_ret
  exact ⟨by rw [HS.out]; rfl, hb0.trans ((hb1.trans (hb2.mono hb1.size)).mono hb0.size)⟩
end Go.Proofs.YtlhohmlpcgbliabGreatDoor
namespace Go.Proofs.YtlhohmlpcgbliabGreatDoor
set_option maxRecDepth 100000
open Go.RowKit
attribute [local go_sem ↓] Go.wp_at_zero Go.wp_at_succ

theorem byt_ok {l : List Nat} (h : ∀ x ∈ l, x < 256) : Sha.bytesOk l := by
  intro i
  rw [List.getD_eq_getElem?_getD]
  cases hq : l[i]? with
  | none => simp
  | some x => exact h x (List.mem_of_getElem? hq)
theorem strOf_size {l : List Nat} (h : ∀ x ∈ l, x < 256) : (strOf l).size = l.length := by
  rw [← bts_length, bts_strOf (byt_ok h)]
theorem strOf_extract {l : List Nat} (h : ∀ x ∈ l, x < 256) (a b : Nat) : (strOf l).extract a b = strOf ((l.drop a).take (b - a)) := by
  apply bts_inj
  rw [bts_extract, bts_strOf (byt_ok h), bts_strOf (byt_ok fun x hx => h x (List.mem_of_mem_drop (List.mem_of_mem_take hx)))]
theorem bts_byte (s : ByteArray) : ∀ x ∈ bts s, x < 256 := by
  intro x hx
  obtain ⟨i, hi⟩ := List.mem_iff_getElem?.1 hx
  have := bts_ok s i
  rw [List.getD_eq_getElem?_getD, hi] at this
  exact this

/-- The entry in a slot. -/
def unpL (l : List Nat) : Option (List Nat) := if l.getD 0 0 ≤ 40 then some ((l.drop 1).take (l.getD 0 0)) else none

theorem index_st (w : World) (l : List Nat) (h : ∀ x ∈ l, x < 256) (i : Nat) (hi : i < l.length) : (Instr.index 9 (.string (strOf l)) (.int .i64 (i : Int))).run Tryz.prog w = .ok (.int .u8 ((l.getD i 0 : Nat) : Int)) w := by
  have hb : (bts (strOf l))[i]? = some (l.getD i 0) := by rw [bts_strOf (byt_ok h), List.getD_eq_getElem?_getD, List.getElem?_eq_getElem hi]; rfl
  have hs := strOf_size h
  have hx : (strOf l)[i]? = some ((strOf l)[i]'(by omega)) := by simp [hs, hi]
  have hv : ((strOf l)[i]'(by omega)).toNat = l.getD i 0 := by
    simp only [bts, List.getElem?_map] at hb
    have : (strOf l).data.toList[i]? = some ((strOf l)[i]'(by omega)) := by
      simp only [Array.getElem?_toList]
      exact hx
    rw [this] at hb
    simpa using hb
  simp [Instr.index, asIntOf, run_underlying Tryz.underlying9, hx, hv]

set_option maxHeartbeats 400000 in
theorem unpacked_any (l : List Nat) (w : World) (hl : 41 ≤ l.length) (h : ∀ x ∈ l, x < 256) :
    Calls Tryz.prog 95 #[.string (strOf l)] w fun e w' => e = .returned (.tuple #[.string (strOf ((unpL l).getD [])), .bool (unpL l).isSome]) ∧ w' = w := by
  have hix : ∀ wx, (Instr.index 9 (.string (strOf l)) (.int .i64 0)).run Tryz.prog wx = .ok (.int .u8 ((l.getD 0 0 : Nat) : Int)) wx := fun wx => index_st wx l h 0 (by omega)
  have hn : l.getD 0 0 < 256 := byt_ok h 0
  have HU : Hid (unpL l = if l.getD 0 0 ≤ 40 then some ((l.drop 1).take (l.getD 0 0)) else none) := rfl
  have HX := strOf_extract h 1 (1 + l.getD 0 0)
  have hsz := strOf_size h
  have e0 : strOf [] = (⟨#[]⟩ : ByteArray) := rfl
  rw [Nat.add_sub_cancel_left] at HX
  generalize l.getD 0 0 = n at *
  generalize strOf l = s at *
  go_enter Tryz.func95, Tryz.ntmps95
  by_cases h40 : n ≤ 40
  · have h1 : ¬ (n : Int) > 40 := by omega
    go_wp2
    go_ret2
    rw [HU.out, if_pos h40]
    refine ⟨?_, rfl⟩
    simp
  · have h1 : (n : Int) > 40 := by omega
    go_wp2
    go_ret2
    rw [HU.out, if_neg h40]
    exact ⟨rfl, rfl⟩
end Go.Proofs.YtlhohmlpcgbliabGreatDoor
namespace Go.Proofs.YtlhohmlpcgbliabGreatDoor
set_option maxRecDepth 100000
open Go.RowKit
attribute [local go_sem ↓] Go.wp_at_zero Go.wp_at_succ

def levF : Nat → Nat → Nat × Nat
  | 0, n => (0, n)
  | f + 1, n => if n % 4 = 0 then ((levF f (n / 4)).1 + 1, (levF f (n / 4)).2) else (0, n)
/-- How often 4 divides n, and what is left. -/
def lev (n : Nat) : Nat × Nat := levF n n
theorem levF_le (f : Nat) : ∀ n, (levF f n).1 ≤ f := by
  induction f with
  | zero => intro n; exact Nat.le_refl _
  | succ f ih =>
    intro n
    unfold levF
    split
    · have := ih (n / 4); simp only; omega
    · exact Nat.zero_le _

set_option maxHeartbeats 1000000 in
theorem levelOf_any (n : Nat) (w : World) (h1 : 1 ≤ n) (hn : n < 100000) :
    Calls Tryz.prog 115 #[.int .i64 (n : Int)] w fun e w' => e = .returned (.tuple #[.int .i64 ((lev n).1 : Int), .bool (decide ((lev n).2 = 1))]) ∧ w' = w := by
  go_enter Tryz.func115, Tryz.ntmps115
  try go_wp2
  go_loopw [0, 2] (fun u v wr => ∃ f m k : Nat, 1 ≤ m ∧ m ≤ f ∧ f ≤ n ∧ k + f ≤ n ∧ u = .int .i64 (m : Int) ∧ v = .int .i64 (k : Int) ∧ lev n = (k + (levF f m).1, (levF f m).2) ∧ wr = w) (fun u _ _ => (intOf u).toNat)
  case atStart => exact ⟨n, n, 0, h1, Nat.le_refl _, Nat.le_refl _, by omega, rfl, rfl, by simp [lev], rfl⟩
  case round =>
    obtain ⟨f, m, k, hm, hmf, hfn, hkf, rfl, rfl, hlev, rfl⟩ := hrel
    obtain ⟨f, rfl⟩ : ∃ g, f = g + 1 := ⟨f - 1, by omega⟩
    have HL : Hid (lev n = (k + (levF (f + 1) m).1, (levF (f + 1) m).2)) := hlev
    clear hlev
    by_cases h4 : m % 4 = 0
    · have h4' : (m : Int) % 4 = 0 := by omega
      have HL2 : Hid (lev n = ((k + 1) + (levF f (m / 4)).1, (levF f (m / 4)).2)) := by
        show _ = _
        rw [HL.out, levF, if_pos h4]
        simp only
        congr 1
        omega
      go_wp2
      go_roundw
      case rel => exact ⟨f, m / 4, k + 1, by omega, by omega, by omega, by omega, by go_num, by go_num, HL2.out, trivial⟩
      case measure => simp [intOf]; omega
    · have h4' : ¬ (m : Int) % 4 = 0 := by omega
      have HL2 : Hid (lev n = (k, m)) := by
        show _ = _
        rw [HL.out, levF, if_neg h4]
        simp
      go_wp2
      go_ret2
      rw [HL2.out]
      refine ⟨?_, rfl⟩
      by_cases hm1 : m = 1
      · subst hm1; simp
      · have : ¬ (m : Int) = 1 := by omega
        simp [hm1, this]

/-- What stands at a sector's start; the rest is empty. -/
def secOf (l : List Nat) : List Nat := l ++ List.replicate (128 - l.length) 0
theorem secOf_len {l : List Nat} (h : l.length ≤ 128) : (secOf l).length = 128 := by simp [secOf]; omega
theorem secOf_sec {l : List Nat} (h : l.length ≤ 128) (hb : ∀ x ∈ l, x < 256) : Sec (secOf l) := by
  refine ⟨secOf_len h, fun x hx => ?_⟩
  rcases List.mem_append.1 hx with h1 | h1
  · exact hb x h1
  · rw [(List.mem_replicate.1 h1).2]; omega
theorem secOf_put (l p : List Nat) (h : l.length + p.length ≤ 128) : setL (u8s (secOf l)) l.length (u8s p) = u8s (secOf (l ++ p)) := by
  rw [setL_eq _ _ _ (by rw [u8s_length, u8s_length, secOf_len (by omega)]; exact h)]
  unfold secOf
  simp only [u8s_append, u8s_length]
  rw [List.take_append_of_le_length (by simp), List.take_of_length_le (by simp), List.drop_append, List.drop_eq_nil_of_le (by simp)]
  simp only [u8s_length, List.nil_append, List.append_assoc, List.append_cancel_left_eq]
  have e : l.length + p.length - l.length = p.length := by omega
  rw [e, ← u8s_drop, List.drop_replicate, List.length_append]
  congr 2
  omega
theorem sliceAt_sec_from (w : World) (b off : Nat) (l : Int) (h0 : 0 ≤ l) (h3 : l < 128) :
    (Instr.sliceAt 89 (.pointer (some ⟨b, off, none⟩)) (some (.int .i64 l)) none none).run Tryz.prog w = .ok (.slice (some ⟨b, off + l.toNat, none⟩) (128 - l.toNat) (128 - l.toNat)) w := by
  rw [run_sliceAt_array_l w 89 ⟨b, off, none⟩ Tryz.underlying89 .i64 l h0 (by rw [arrSec]; exact Int.le_of_lt h3), elemSec, size5, arrSec]
  simp only [slicedAt, Result.andThen]
  rw [if_neg (by omega)]
  simp [Addr.add]
theorem flat_take_le (ps : List ByteArray) (k : Nat) : (flat (ps.take k)).length ≤ (flat ps).length := by
  conv => rhs; rw [← List.take_append_drop k ps]
  unfold flat
  rw [List.flatMap_append, List.length_append]
  omega

set_option maxHeartbeats 1000000 in
theorem sectorOf_any (v : Value) (ps : List ByteArray) (w : World) (hS : Strs w v ps) (hlen : (flat ps).length < 128) (hpl : ps.length < 1000) :
    Calls Tryz.prog 107 #[v] w fun e w' => e = .returned (.agg (u8s (secOf (flat ps))).toArray) ∧ Below w.heap.size w w' := by
  obtain ⟨a, c, rfl, hcells⟩ := hS
  have HC : Hid (∀ (i : Nat) s, ps[i]? = some s → ∃ g off, a = some ⟨g, off, none⟩ ∧ w.cell? ⟨g, off + i, none⟩ = some (.string s)) := hcells
  clear hcells
  have hb0 : Below w.heap.size w ((w.alloc (.cells Tryz.zeroCells89 89)).alloc (.cells Tryz.zeroCells89 89)) := ((Below.refl _ _).alloc (Nat.le_refl _) _).alloc (by simp) _
  have hA0 : Blk ((w.alloc (.cells Tryz.zeroCells89 89)).alloc (.cells Tryz.zeroCells89 89)) w.heap.size 89 (u8s (List.replicate 128 0)) := by
    have := (Blk.newA w 89 Tryz.zeroCells89).alloc (.cells Tryz.zeroCells89 89)
    exact this.eq (by rw [zeroSec])
  have hB0 : Blk ((w.alloc (.cells Tryz.zeroCells89 89)).alloc (.cells Tryz.zeroCells89 89)) (w.heap.size + 1) 89 (u8s (secOf [])) := by
    have := Blk.newA (w.alloc (.cells Tryz.zeroCells89 89)) 89 Tryz.zeroCells89
    rw [World.size_alloc] at this
    exact this.eq (by rw [zeroSec]; rfl)
  go_enter Tryz.func107, Tryz.ntmps107
  go_wp2_with fail
  go_loopw [4, 9] (fun u v wr => ∃ k : Nat, k ≤ ps.length ∧ v = .int .i64 (k : Int) ∧ u = .int .i64 ((flat (ps.take k)).length : Int) ∧ Blk wr w.heap.size 89 (u8s (List.replicate 128 0)) ∧ Blk wr (w.heap.size + 1) 89 (u8s (secOf (flat (ps.take k)))) ∧ Below w.heap.size w wr) (fun _ v _ => ps.length - (intOf v).toNat)
  case atStart => exact ⟨0, by omega, rfl, rfl, hA0, hB0, hb0⟩
  case round =>
    obtain ⟨k, hk, rfl, rfl, hA, hB, hb⟩ := hrel
    clear hA0 hB0 hb0
    by_cases h8 : k < ps.length
    · obtain ⟨s, hs⟩ : ∃ s, ps[k]? = some s := ⟨_, List.getElem?_eq_getElem h8⟩
      obtain ⟨g, off, rfl, hcell⟩ := HC.out k s hs
      have hcell' : wr.cell? ⟨g, off + k, none⟩ = some (.string s) := by
        rw [hb.cell (World.block_lt_of_cell? _ _ hcell)]; exact hcell
      have hft := flat_take ps k s hs
      have hle := flat_take_le ps (k + 1)
      have HF : Hid (flat (ps.take (k + 1)) = flat (ps.take k) ++ bts s) := hft
      rw [hft, List.length_append, bts_length] at hle
      clear hft hcell hs
      have hF0 : (flat (ps.take k)).length < 128 := by omega
      have hput := secOf_put (flat (ps.take k)) (bts s) (by rw [bts_length]; omega)
      generalize flat (ps.take k) = l at *
      have hsl := fun wx => sliceAt_sec_from wx (w.heap.size + 1) 0 (l.length : Int) (by omega) (by omega)
      rw [Int.toNat_natCast, Nat.zero_add] at hsl
      have hth := hB.there l.length s.size (by rw [u8s_length, secOf_len (by omega)]; omega)
      have hcp := fun ty => run_copy_string wr (w.heap.size + 1) l.length (128 - l.length) (128 - l.length) s ty s.size (by rw [Nat.min_eq_left (by omega)]) hth
      have HB := (hB.setCells l.length (u8s (bts s))).eq hput
      have HA := hA.setCells_other (w.heap.size + 1) l.length (u8s (bts s)) (by omega)
      have Hb := Below.setCells hb (w.heap.size + 1) l.length (by omega) (u8s (bts s))
      rw [List.take_of_length_le (by simp)] at hcp
      clear hput hth
      go_wp2
      go_roundw
      case rel => exact ⟨k + 1, by omega, by go_num, by rw [HF.out, List.length_append, bts_length]; go_num, HA, by rw [HF.out]; exact HB, Hb⟩
      case measure => simp [intOf]; omega
    · have hk8 : k = ps.length := by omega
      subst hk8
      rw [List.take_length] at hB
      have hsl := secOf_len (l := flat ps) (by omega)
      generalize hgs : secOf (flat ps) = s at *
      have HR : Hid (secOf (flat ps) = s) := hgs
      clear hgs
      have hA2 := hA.fill (u8s s) (by simp [hsl])
      have hb2 := Below.setCells hb w.heap.size 0 (Nat.le_refl _) (u8s s)
      go_wp2_with (first | ((with_reducible refine ldSec ?_ (.tmp 3) ?_ (w.heap.size + 1) 0 ?_ s hB.range hsl ?_); rfl; rfl; rfl) | ((with_reducible refine stSec ?_ (.tmp 2) (.tmp 20) ?_ w.heap.size 0 s ?_ ?_ (hA.there 0 128 (by simp)) hsl ?_); rfl; rfl; rfl; rfl))
      exact bodyPost_ret (results_cell Tryz.results107 (by rfl) hA2.range Tryz.underlying89 rfl (by rw [u8s_length, hsl]; exact infoSec)) rfl ⟨by rw [HR.out], hb2⟩
end Go.Proofs.YtlhohmlpcgbliabGreatDoor
namespace Go.Proofs.YtlhohmlpcgbliabGreatDoor
set_option maxRecDepth 100000
open Go.RowKit
attribute [local go_sem ↓] Go.wp_at_zero Go.wp_at_succ

def markC : List Nat := [103, 114, 111, 118, 101, 32, 99, 104, 101, 99, 107, 112, 111, 105, 110, 116]
def markJ : List Nat := [103, 114, 111, 118, 101, 32, 106, 111, 117, 114, 110, 97, 108]
/-- The checkpoint's sector. -/
def ckSec (n : Nat) (r : List Nat) : List Nat := secOf (markC ++ n :: r)
def hdSec (f n : Nat) : List Nat := secOf (markJ ++ [f, n])
theorem bts_numS {n : Nat} (hn : n < 256) : bts (numS n) = [n] := bts_strOf (byt_ok (by simpa using hn))
theorem numS_size {n : Nat} (hn : n < 256) : (numS n).size = 1 := by rw [← bts_length, bts_numS hn]; rfl

set_option maxHeartbeats 1000000 in
theorem checkpoint_any (n : Nat) (r : ByteArray) (w : World) (hn : n < 256) (hr : r.size ≤ 100) :
    Calls Tryz.prog 86 #[.int .i64 (n : Int), .string r] w fun e w' => e = .returned (.agg (u8s (ckSec n (bts r))).toArray) ∧ Below w.heap.size w w' := by
  have hb0 : Below w.heap.size w (w.alloc (.cells Tryz.zeroCells89 89)) := (Below.refl _ _).alloc (Nat.le_refl _) _
  have hB0 := Blk.newA w 89 Tryz.zeroCells89
  have hz : Tryz.zeroCells89.toList.length = 128 := by rw [zeroSec]; simp
  have hnum := number_any n (w.alloc (.cells Tryz.zeroCells89 89)) hn
  have hlt0 := hB0.lt
  have hbn := bts_numS hn
  go_enter Tryz.func86, Tryz.ntmps86
  go_wp2_with fail
  refine hnum.mono ?_
  rintro e w1 ⟨rfl, hb1⟩
  generalize (w.alloc (.cells Tryz.zeroCells89 89)) = w0 at *
  have hB1 := hB0.below hb1 hlt0
  have hb1' := hb0.trans (hb1.mono hb0.size)
  have hlt1 := hB1.lt
  generalize numS n = ns at *
  go_wp2_with fail
  have hst := strs_three w1 ⟨#[103, 114, 111, 118, 101, 32, 99, 104, 101, 99, 107, 112, 111, 105, 110, 116]⟩ ns r
  have hfl : flat [⟨#[103, 114, 111, 118, 101, 32, 99, 104, 101, 99, 107, 112, 111, 105, 110, 116]⟩, ns, r] = markC ++ n :: bts r := by
    simp only [flat, List.flatMap_cons, List.flatMap_nil, hbn]
    simp; rfl
  have hb2 : Below w1.heap.size w1 (w1.alloc (.cells #[.string ⟨#[103, 114, 111, 118, 101, 32, 99, 104, 101, 99, 107, 112, 111, 105, 110, 116]⟩, .string ns, .string r] 9)) := (Below.refl _ _).alloc (Nat.le_refl _) _
  have hso := sectorOf_any _ _ _ hst (by rw [hfl]; simp [markC]; omega) (by simp)
  rw [hfl] at hso
  have hsl := secOf_len (l := markC ++ n :: bts r) (by simp [markC]; omega)
  have HR : Hid (ckSec n (bts r) = secOf (markC ++ n :: bts r)) := rfl
  generalize secOf (markC ++ n :: bts r) = s at *
  refine hso.mono ?_
  rintro e w3 ⟨rfl, hb3⟩
  have hB3 := (hB1.below hb2 hlt1).below hb3 (Nat.lt_of_lt_of_le hlt1 hb2.size)
  have hb3' := hb1'.trans (hb2.trans (hb3.mono hb2.size) |>.mono hb1'.size)
  have hA2 := hB3.fill (u8s s) (by simp [hsl, hz])
  have hb4 := Below.setCells hb3' w.heap.size 0 (Nat.le_refl _) (u8s s)
  go_wp2_with (first | ((with_reducible refine stSec ?_ (.tmp 4) (.tmp 9) ?_ w.heap.size 0 s ?_ ?_ (hB3.there 0 128 (by omega)) hsl ?_); rfl; rfl; rfl; rfl))
  exact bodyPost_ret (results_cell Tryz.results86 (by rfl) hA2.range Tryz.underlying89 rfl (by rw [u8s_length, hsl]; exact infoSec)) rfl ⟨by rw [HR.out], hb4⟩
theorem ckSec_sec {n : Nat} {r : ByteArray} (hn : n < 256) (hr : r.size ≤ 100) : Sec (ckSec n (bts r)) := by
  refine secOf_sec (by simp [markC]; omega) ?_
  intro x hx
  rcases List.mem_append.1 hx with h1 | h1
  · have : ∀ y ∈ markC, y < 256 := by decide
    exact this x h1
  · rcases List.mem_cons.1 h1 with rfl | h2
    · exact hn
    · exact bts_byte r x h2
theorem Dk.write_len (D : Dk) (i : Nat) (s : List Nat) : (D.write i s).fre.length ≤ D.fre.length + 1 := by
  unfold Dk.write Dk.act Dk.trip Dk.tick Dk.fail
  split <;> split <;> split <;> simp

set_option maxHeartbeats 1000000 in
theorem writeCheckpoint_any (b n : Nat) (r : ByteArray) (fv : Value) (D : Dk) (w : World) (h : DiskAt w b fv D) (hn : n < 256) (hr : r.size ≤ 100) (hf : D.fre.length < 1000000) :
    Calls Tryz.prog 58 #[.pointer (some ⟨b, 0, none⟩), .int .i64 (n : Int), .string r] w fun e w' => e = .returned (.tuple #[]) ∧ ∃ fv', DiskAt w' b fv' (D.write 0 (ckSec n (bts r))).flush ∧ Fr b fv.ownBlock fv'.ownBlock w w' := by
  have hc := checkpoint_any n r w hn hr
  have hsec := ckSec_sec hn hr
  go_enter Tryz.func58, Tryz.ntmps58
  generalize ckSec n (bts r) = s at *
  go_wp2_with fail
  refine hc.mono ?_
  rintro e w1 ⟨rfl, hb1⟩
  have h1 := h.below hb1
  have hw := write_any b fv D 0 s w1 h1 (by omega) hsec hf
  generalize (u8s s).toArray = arr at *
  go_wp2_with fail
  refine hw.mono ?_
  rintro e w2 ⟨rfl, fv2, h2, r2⟩
  go_wp2_with fail
  refine (flush_any b fv2 _ w2 h2).mono ?_
  rintro e w3 ⟨rfl, fv3, h3, r3⟩
  go_wp2
  go_end0
  exact ⟨rfl, fv3, h3, ((Fr.of_below hb1).trans r2).trans r3⟩

def Dk.ckN (D : Dk) : Nat := (D.read 0).getD 16 0
def Dk.ckR (D : Dk) : List Nat := ((D.read 0).drop 17).take 32
set_option maxHeartbeats 1000000 in
theorem readCheckpoint_any (b : Nat) (fv : Value) (D : Dk) (w : World) (h : DiskAt w b fv D) :
    Calls Tryz.prog 94 #[.pointer (some ⟨b, 0, none⟩)] w fun e w' => e = .returned (.tuple #[.int .i64 (D.ckN : Int), .string (strOf D.ckR)]) ∧ Below w.heap.size w w' := by
  have hrd : Calls Tryz.prog 113 #[.pointer (some ⟨b, 0, none⟩), .int .i64 0] w fun e w' => e = .returned (.agg (u8s (D.read 0)).toArray) ∧ Below w.heap.size w w' := read_any b fv D 0 w h (by omega)
  have hsec := h.ok.read (i := 0) (by omega)
  have HN : Hid (D.ckN = (D.read 0).getD 16 0 ∧ D.ckR = ((D.read 0).drop 17).take 32) := ⟨rfl, rfl⟩
  have hz : Tryz.zeroCells89.toList.length = 128 := by rw [zeroSec]; simp
  go_enter Tryz.func94, Tryz.ntmps94
  generalize D.read 0 = s at *
  have hsl := hsec.len
  go_wp2_with fail
  refine hrd.mono ?_
  rintro e w1 ⟨rfl, hb1⟩
  have hb2 : Below w.heap.size w (w1.alloc (.cells Tryz.zeroCells89 89)) := hb1.alloc hb1.size _
  have hB := Blk.newA w1 89 Tryz.zeroCells89
  have hB3 := hB.fill (u8s s) (by simp [hsl, hz])
  have hb3 := Below.setCells hb2 w1.heap.size 0 hb1.size (u8s s)
  go_wp2_with (first | ((with_reducible refine stSec ?_ (.tmp 4) (.tmp 7) ?_ w1.heap.size 0 s ?_ ?_ (hB.there 0 128 (by omega)) hsl ?_); rfl; rfl; rfl; rfl))
  generalize (w1.alloc (.cells Tryz.zeroCells89 89)).setCells w1.heap.size 0 (u8s s) = w3 at *
  have c16 : w3.cell? ⟨w1.heap.size, 16, none⟩ = some (.int .u8 ((s.getD 16 0 : Nat) : Int)) := by rw [hB3.cell, u8s_get s 16 (by omega)]
  have hlt : s.getD 16 0 < 256 := byt_ok hsec.byt 16
  have hsl2 := fun wx => sliceAt_sec wx w1.heap.size 0 17 49 (by omega) (by omega) (by omega) (by omega)
  have hrg : w3.rangeAt w1.heap.size 17 (u8s ((s.drop 17).take 32)) := by
    have := hB3.part 17 32
    rw [u8s_take, u8s_drop]
    exact this
  have hcl : ((s.drop 17).take 32).length = 32 := by simp [hsl]
  have hcv := fun m => convert_range (w := w3.drewN m) (cap := 111) hrg
  rw [hcl] at hcv
  generalize s.getD 16 0 = x at *
  generalize (s.drop 17).take 32 = y at *
  go_quiet (fail)
  go_wp2
  go_ret2
  rw [HN.out.1, HN.out.2]
  exact ⟨rfl, Below.drewN' hb3 nq⟩

/-- An entry as it stands in a slot. -/
def packS (e : ByteArray) : ByteArray := strOf (e.size :: bts e)
theorem packS_eq {e : ByteArray} (h : e.size < 256) : numS e.size ++ e = packS e := by
  apply bts_inj
  have h1 : bts (numS e.size ++ e) = bts (numS e.size) ++ bts e := by simp [bts, ByteArray.data_append]
  have h2 : ∀ x ∈ e.size :: bts e, x < 256 := by
    intro x hx
    rcases List.mem_cons.1 hx with rfl | h3
    · exact h
    · exact bts_byte e x h3
  rw [h1, bts_numS h, packS, bts_strOf (byt_ok h2)]; rfl
def pkL (ss : List ByteArray) (k : Nat) : List ByteArray := (ss.take k).map packS ++ List.replicate (ss.length - k) ⟨#[]⟩
theorem pkL_length (ss : List ByteArray) (k : Nat) (h : k ≤ ss.length) : (pkL ss k).length = ss.length := by simp [pkL]; omega
theorem pkL_zero (ss : List ByteArray) : pkL ss 0 = List.replicate ss.length ⟨#[]⟩ := by simp [pkL]
theorem pkL_all (ss : List ByteArray) : pkL ss ss.length = ss.map packS := by simp [pkL]
theorem pkL_set (ss : List ByteArray) (k : Nat) (s : ByteArray) (h : k < ss.length) (hs : ss[k]? = some s) : (strv (pkL ss k)).set k (.string (packS s)) = strv (pkL ss (k + 1)) := by
  have h1 : ss.length - k = (ss.length - (k + 1)) + 1 := by omega
  have hgk : ss[k] = s := (List.getElem?_eq_some_iff.1 hs).2
  have hl : ((ss.take k).map fun x => Value.string (packS x)).length = k := by simp; omega
  simp only [pkL, strv, List.map_append, List.map_replicate, List.map_map, Function.comp_def]
  rw [List.set_append_right _ _ (by rw [hl]; omega), hl, Nat.sub_self, h1, List.replicate_succ, List.set_cons_zero, List.take_succ_eq_append_getElem h, List.map_append, hgk]
  simp

set_option maxHeartbeats 1000000 in
theorem packed_any (v : Value) (ss : List ByteArray) (w : World) (hS : Strs w v ss) (hn : ss.length ≤ 1000) (hz : ∀ s ∈ ss, s.size ≤ 40) :
    Calls Tryz.prog 126 #[v] w fun e w' => e = .returned (.slice (some ⟨w.heap.size, 0, none⟩) ss.length ss.length) ∧ Blk w' w.heap.size 9 (strv (ss.map packS)) ∧ Below w.heap.size w w' := by
  obtain ⟨a, c, rfl, hcells⟩ := hS
  have HC : Hid (∀ (i : Nat) s, ss[i]? = some s → ∃ g off, a = some ⟨g, off, none⟩ ∧ w.cell? ⟨g, off + i, none⟩ = some (.string s)) := hcells
  clear hcells
  have hmk := fun wx => makeStr wx ss.length (by omega)
  have hB0 := Blk.new w 9 (strv (List.replicate ss.length ⟨#[]⟩))
  have hb0 : Below w.heap.size w (w.alloc (.cells (strv (List.replicate ss.length ⟨#[]⟩)).toArray 9)) := (Below.refl _ _).alloc (Nat.le_refl _) _
  go_enter Tryz.func126, Tryz.ntmps126
  go_wp2_with fail
  go_loopw [11] (fun i wr => ∃ k : Nat, k ≤ ss.length ∧ i = .int .i64 (k : Nat) ∧ Blk wr w.heap.size 9 (strv (pkL ss k)) ∧ Below w.heap.size w wr) (fun i _ => ss.length - (intOf i).toNat)
  case atStart => exact ⟨0, by omega, rfl, by rw [pkL_zero]; exact hB0, hb0⟩
  case round =>
    obtain ⟨k, hk, rfl, hB, hb⟩ := hrel
    clear hB0 hb0 hmk
    by_cases h8 : k < ss.length
    · obtain ⟨s, hs⟩ : ∃ s, ss[k]? = some s := ⟨_, List.getElem?_eq_getElem h8⟩
      obtain ⟨g, off, rfl, hcell⟩ := HC.out k s hs
      have hcell' : wr.cell? ⟨g, off + k, none⟩ = some (.string s) := by
        rw [hb.cell (World.block_lt_of_cell? _ _ hcell)]; exact hcell
      have hsz : s.size ≤ 40 := hz s (List.mem_of_getElem? hs)
      have hnum := number_any s.size wr (by omega)
      clear hcell
      have HH : Hid ((strv (pkL ss k)).set k (.string (packS s)) = strv (pkL ss (k + 1))) := pkL_set ss k s h8 hs
      have HP := packS_eq (e := s) (by omega)
      have hns := numS_size (n := s.size) (by omega)
      have hlt := hB.lt
      go_wp2_with fail
      refine hnum.mono ?_
      rintro e w1 ⟨rfl, hb1⟩
      have hB1 := hB.below hb1 hlt
      have hc := hB1.cell k
      rw [List.getElem?_eq_getElem (by rw [strv_length, pkL_length _ _ hk]; exact h8)] at hc
      have hf := hB1.frozen k
      have HB := (hB1.set k (.string (packS s))).eq HH.out
      have Hb : Below w.heap.size w (w1.setCell ⟨w.heap.size, k, none⟩ (.string (packS s))) := (hb.trans (hb1.mono hb.size)).setCell (Nat.le_refl _) _
      have hadd := fun wx => run_string_add_sum (P := Tryz.prog) wx (numS s.size) s (by omega)
      rw [HP] at hadd
      generalize numS s.size = ns at *
      generalize packS s = ps at *
      go_wp2
      exact ⟨⟨k + 1, h8, by go_num, HB, Hb⟩, by simp [intOf]; omega⟩
    · have hk8 : k = ss.length := by omega
      subst hk8
      rw [pkL_all] at hB
      go_wp2
      go_ret
      exact ⟨rfl, hB, hb⟩
end Go.Proofs.YtlhohmlpcgbliabGreatDoor
