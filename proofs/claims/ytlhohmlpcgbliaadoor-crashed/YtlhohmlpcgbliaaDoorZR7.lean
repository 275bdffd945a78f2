import Derived.Test.YtlhohmlpcgbliaaDoorZD6
import Derived.Deep.AppendLies
import Derived.Test.YtlhohmlpcgbliaaDoorZHQ
import Derived.Test.YtlhohmlpcgbliaaDoorZX14
import Derived.Test.YtlhohmlpcgbliaaDoorZD2
namespace Go.Proofs.YtlhohmlpcgbliaaDoor
set_option maxRecDepth 100000
open Go.RowKit
attribute [local go_sem ↓] Go.wp_at_zero Go.wp_at_succ

theorem DiskAt.own_lt {w : World} {b : Nat} {fv : Value} {D : Dk} (h : DiskAt w b fv D) : fv.ownBlock ≠ some w.heap.size := fun e => by
  have := (h.row.lt _ e).2
  omega
theorem Fr.grown {w w' : World} (b : Nat) {fv : Value} (hg : w.grownBy w' fv.ownBlock) : Fr b fv.ownBlock fv.ownBlock w w' :=
  ⟨hg.os, hg.tape, hg.output, hg.size, fun k hk _ hne => hg.block k hk (Ne.symm hne), .inr (.inl rfl)⟩

set_option maxHeartbeats 2000000 in
theorem wrR2_wp {c2 c3 c4 c6 c7 c8 c9 c10 c11 c12 c13 c14 c15 c16 c17 c18 c19 : Value} (b lb i : Nat) (fv : Value) (E : Dk) (s : List Nat) (w : World) (Q : Exit → Act → World → Prop) (h : DiskAt w b fv E) (hok : ({ E with fre := E.fre ++ [(i, s)] } : Dk).ok) (hB : Blk w lb 130 (u8s s)) (hs : s.length = 128) (hlb : fv.ownBlock ≠ some lb) (hne : lb ≠ b)
    (hQ : ∀ (u8 u9 u10 u11 u12 u13 u14 u15 u16 u17 u18 u19 : Value) (fv' : Value) (w' : World), DiskAt w' b fv' { E with fre := E.fre ++ [(i, s)] } → Fr b fv.ownBlock fv'.ownBlock w w' → Q .normal ⟨#[.pointer (some ⟨b, 0, none⟩), .int .i64 (i : Int), c2, c3, c4, .pointer (some ⟨lb, 0, none⟩), c6, c7, u8, u9, u10, u11, u12, u13, u14, u15, u16, u17, u18, u19], []⟩ w') :
    Code.wp Tryd.prog (rgn Tryd.f124 2) Q ⟨#[.pointer (some ⟨b, 0, none⟩), .int .i64 (i : Int), c2, c3, c4, .pointer (some ⟨lb, 0, none⟩), c6, c7, c8, c9, c10, c11, c12, c13, c14, c15, c16, c17, c18, c19], []⟩ w := by
  obtain ⟨p, cap, hfv⟩ := h.fv
  have c0 := h.cell 0
  simp only [List.getElem?_cons_zero, Nat.add_zero] at c0
  have hC : (fun wx : World => wx.cell? ⟨b, 25600, none⟩ = some fv ∧ wx.rangeAt lb 0 (u8s s)) w.drew := ⟨c0, hB.range⟩
  have hlt := h.lt
  have hltB := hB.lt
  conv => arg 2; whnf
  refine wp_region_z 12 (fun wx : World => wx.cell? ⟨b, 25600, none⟩ = some fv ∧ wx.rangeAt lb 0 (u8s s)) (by kernel_rfl) ?_
  refine wpAnyZ_pure (k := 0) (v := .pointer (some ⟨b, 0, none⟩)) (by rfl) (by kernel_rfl) (by kernel_rfl) (by kernel_rfl) (by rfl) (some 8) (by rfl) (by kernel_rfl) hC (fun _ _ => by kernel_rfl) ?_
  simp only [Act.put, List.setIfInBounds_toArray, List.set_cons_succ, List.set_cons_zero]
  refine wpAnyZ_pure (k := 1) (v := .pointer (some ⟨b, 0, none⟩)) (by rfl) (by kernel_rfl) (by kernel_rfl) (by kernel_rfl) (by rfl) (some 9) (by rfl) (by kernel_rfl) hC (fun _ _ => by kernel_rfl) ?_
  simp only [Act.put, List.setIfInBounds_toArray, List.set_cons_succ, List.set_cons_zero]
  refine wpAnyZ_pure (k := 2) (v := .pointer (some ⟨b, 0, none⟩)) (by rfl) (by kernel_rfl) (by kernel_rfl) (by kernel_rfl) (by rfl) (some 10) (by rfl) (by kernel_rfl) hC (fun _ _ => by kernel_rfl) ?_
  simp only [Act.put, List.setIfInBounds_toArray, List.set_cons_succ, List.set_cons_zero]
  refine wpAnyZ_pure (k := 3) (v := .pointer (some ⟨b, 25600, none⟩)) (by rfl) (by kernel_rfl) (by kernel_rfl) (by kernel_rfl) (by rfl) (some 11) (by rfl) (by kernel_rfl) hC (fun _ _ => by kernel_rfl) ?_
  simp only [Act.put, List.setIfInBounds_toArray, List.set_cons_succ, List.set_cons_zero]
  refine wpAnyZ_pure (k := 4) (v := fv) (by rfl) (by kernel_rfl) (by kernel_rfl) (by kernel_rfl) (by rfl) (some 12) (by rfl) (by kernel_rfl) hC (fun wx hx => exec_ld (by rfl) (by rfl) (loadSl wx b 25600 fv p _ cap hfv hx.1)) ?_
  simp only [Act.put, List.setIfInBounds_toArray, List.set_cons_succ, List.set_cons_zero]
  refine wpAnyZ_pure (k := 5) (v := .int .i64 (i : Int)) (by rfl) (by kernel_rfl) (by kernel_rfl) (by kernel_rfl) (by rfl) (some 13) (by rfl) (by kernel_rfl) hC (fun _ _ => by kernel_rfl) ?_
  simp only [Act.put, List.setIfInBounds_toArray, List.set_cons_succ, List.set_cons_zero]
  refine wpAnyZ_pure (k := 6) (v := .agg (u8s s).toArray) (by rfl) (by kernel_rfl) (by kernel_rfl) (by kernel_rfl) (by rfl) (some 14) (by rfl) (by kernel_rfl) hC (fun wx hx => exec_ld (by rfl) (by rfl) (loadSec hx.2 hs)) ?_
  simp only [Act.put, List.setIfInBounds_toArray, List.set_cons_succ, List.set_cons_zero]
  refine wpAnyZ_pure (k := 7) (v := .agg (Value.int .i64 (i : Int) :: u8s s).toArray) (by rfl) (by kernel_rfl) (by kernel_rfl) (by kernel_rfl) (by rfl) (some 15) (by rfl) (by kernel_rfl) hC (fun wx _ => exec_build (by rfl) (by kernel_rfl) (buildWr wx i s hs)) ?_
  simp only [Act.put, List.setIfInBounds_toArray, List.set_cons_succ, List.set_cons_zero]
  have hb1 : Below w.heap.size w.drew (w.drew.alloc (.cells (Value.int .i64 (i : Int) :: u8s s).toArray 169)) := (Below.refl w.heap.size w.drew).alloc (Nat.le_refl _) _
  have h1 : DiskAt (w.drew.alloc (.cells (Value.int .i64 (i : Int) :: u8s s).toArray 169)) b fv E := (h.drewN 1).below hb1
  have hB1 : Blk (w.drew.alloc (.cells (Value.int .i64 (i : Int) :: u8s s).toArray 169)) lb 130 (u8s s) := (hB.drewN 1).below hb1 hltB
  have hN1 : Blk (w.drew.alloc (.cells (Value.int .i64 (i : Int) :: u8s s).toArray 169)) w.heap.size 169 (.int .i64 (i : Int) :: u8s s) := Blk.new w.drew _ _
  have hfv1 : fv.ownBlock ≠ some w.heap.size := h.own_lt
  have r1 : Fr b fv.ownBlock fv.ownBlock w (w.drew.alloc (.cells (Value.int .i64 (i : Int) :: u8s s).toArray 169)) := Fr.of_below ((Below.refl w.heap.size w).drew.trans hb1)
  have hC1 : (w.drew.alloc (.cells (Value.int .i64 (i : Int) :: u8s s).toArray 169)).cell? ⟨b, 25600, none⟩ = some fv ∧ (w.drew.alloc (.cells (Value.int .i64 (i : Int) :: u8s s).toArray 169)).rangeAt lb 0 (u8s s) := by
    have c := h1.cell 0
    simp only [List.getElem?_cons_zero, Nat.add_zero] at c
    exact ⟨c, hB1.range⟩
  refine wpAnyZ_val (i := 8) (v := .slice (some ⟨w.heap.size, 0, none⟩) 1 1) (w' := w.drew.alloc (.cells (Value.int .i64 (i : Int) :: u8s s).toArray 169)) (by kernel_rfl) (by rfl) (by rfl) (some 16) (by rfl) (exec_buildSlice (by rfl) (by kernel_rfl) (buildSliceWr w.drew _ (by simp [hs]))) (fun _ => hC1) ?_
  simp only [Act.put, List.setIfInBounds_toArray, List.set_cons_succ, List.set_cons_zero]
  have hsz1 : w.heap.size < (w.drew.alloc (.cells (Value.int .i64 (i : Int) :: u8s s).toArray 169)).heap.size := by simp
  generalize w.drew.alloc (.cells (Value.int .i64 (i : Int) :: u8s s).toArray 169) = w1 at *
  obtain ⟨it, hi, hiz, his, hib⟩ := infoWr3
  have hfew := h.ok.few
  refine wpAnyZ_op (i := 9) (by kernel_rfl) (by rfl) (by rfl) ?_
  refine wp_append_lies w1 (.tmp 12) (.tmp 16) 132 (by rfl) 0 169 it _ 129 136 Tryd.underlying132 hi hiz his hib Tryd.zeroCells169_size (by omega) fv E.fre.length (flatW E.fre) (by rfl) h1.row ⟨w.heap.size, 0, none⟩ 1 1 (.int .i64 (i : Int) :: u8s s) (by rfl) (by simp [hs]) ?_ ?_ (by omega) (by unfold maxLen; omega) (by omega) (Nat.zero_le _) w1.heap.size rfl ?_
  · intro j u hu
    rw [Addr.add_mid, Nat.zero_add, hN1.cell]
    exact hu
  · intro u hu
    rcases List.mem_cons.1 hu with rfl | h2
    · rfl
    · exact u8s_one _ u h2
  intro g cap2 w2 hown hgr hg hlt2
  have r2 : Fr b fv.ownBlock fv.ownBlock w1 w2 := Fr.grown b hgr
  have hD2 : Blk w2 b 136 (E.cells fv) := by
    unfold Blk
    rw [hgr.block b (Nat.lt_of_lt_of_le hlt r1.size) (Ne.symm h.apart)]
    exact h1.blk
  have hB2 := r2.blk hB1 hne hlb
  have c2 : w2.cell? ⟨b, 25600, none⟩ = some fv := by rw [hD2.cell, h.ok.tail fv 0]; rfl
  have hgb : g ≠ b := by
    rcases hg with e | e
    · intro e2; subst e2; exact h.apart e
    · have := r1.size; omega
  refine ⟨fun _ => ⟨c2, hB2.range⟩, ?_⟩
  simp only [Act.put, List.setIfInBounds_toArray]
  refine wpAnyZ_val (i := 10) (v := .pointer (some ⟨b, 0, none⟩)) (w' := w2) (by kernel_rfl) (by rfl) (by rfl) (some 18) (by rfl) (by kernel_rfl) (fun _ => ⟨c2, hB2.range⟩) ?_
  simp only [Act.put]
  refine wpAnyZ_val (i := 11) (v := .pointer (some ⟨b, 25600, none⟩)) (w' := w2) (by kernel_rfl) (by rfl) (by rfl) (some 19) (by rfl) (by kernel_rfl) (fun _ => ⟨c2, hB2.range⟩) ?_
  simp only [Act.put]
  refine wpAnyZ_skip (i := 12) (w' := w2.setCell ⟨b, 25600, none⟩ (.slice (some ⟨g, 0, none⟩) (E.fre.length + 1) cap2)) (by kernel_rfl) (by rfl) (by rfl) (by rfl) (exec_store (by rfl) (by rfl) (by rfl) (storeSl w2 b 25600 fv _ _ _ c2 (hD2.frozen _))) (fun e => absurd rfl e) ?_
  refine wpAnyZ_done (by kernel_rfl) ?_
  refine NoPanic.normal ?_
  have R := r1.trans r2
  have hob : (Value.slice (some ⟨g, 0, none⟩) (E.fre.length + 1) cap2).ownBlock = some g := rfl
  refine hQ _ _ _ _ _ _ _ _ _ _ _ _ (.slice (some ⟨g, 0, none⟩) (E.fre.length + 1) cap2) _ ⟨hok, (hD2.set (25600 + 0) _).eq ?_, ?_, ?_⟩ ⟨R.os, R.tape, R.output, by simpa [World.setCell] using R.size, fun k hk hb hg => (Below.heap_setCell _ _ _ _ hb).trans (R.block k hk hb hg), ?_⟩
  · rw [h.ok.setTail]; rfl
  · rw [List.length_append, ← flatW_snoc]
    exact ownsRow_setCell_other hown (by rw [hob]; simpa using hgb) _
  · rw [hob]; simpa using hgb
  · rw [hob]
    rcases hg with e | e
    · exact .inr (.inl e.symm)
    · exact .inr (.inr ⟨g, rfl, by have := r1.size; omega⟩)

set_option maxHeartbeats 2000000 in
theorem write_any (b : Nat) (fv : Value) (D : Dk) (i : Nat) (s : List Nat) (w : World) (h : DiskAt w b fv D) (hi : i < 200) (hs : Sec s) (hfew : D.fre.length < 1000000) :
    Calls Tryd.prog 124 #[.pointer (some ⟨b, 0, none⟩), .int .i64 (i : Int), .agg (u8s s).toArray] w fun e w' => e = .returned (.tuple #[]) ∧ ∃ fv', DiskAt w' b fv' (D.write i s) ∧ Fr b fv.ownBlock fv'.ownBlock w w' := by
  have hb0 : Below w.heap.size w (w.alloc (.cells (u8s s).toArray 130)) := (Below.refl _ _).alloc (Nat.le_refl _) _
  have hB0 := Blk.new w 130 (u8s s)
  have h0 := h.below hb0
  have hlt := h.lt
  have hokw := h.ok.write hi hs hfew
  have hown := h.own_lt
  have hsl := hs.len
  have ha := act_any b fv D _ h0
  have r0 : Fr b fv.ownBlock fv.ownBlock w (w.alloc (.cells (u8s s).toArray 130)) := Fr.of_below hb0
  clear h h0
  by_cases hg : D.goes = true
  · rw [hg] at ha
    have HG : Hid (D.write i s = { D.act with fre := D.act.fre ++ [(i, s)] }) := by
      show _ = _
      simp [Dk.write, hg]
    have HO : Hid (D.write i s).ok := hokw
    clear hg hokw
    generalize hA : (u8s s).toArray = arr at *
    have HA : Hid ((u8s s).toArray = arr) := hA
    clear hA
    go_enter Tryd.func124, Tryd.ntmps124
    go_wp2_with fail
    refine ha.mono ?_
    rintro e w1 ⟨rfl, fv1, h1, r1⟩
    clear ha
    have hB1 := r1.blk hB0 (by omega) hown
    have hown1 := r1.apart (c := w.heap.size) (by simp) hown
    have r01 := r0.trans r1
    go_wp2_with fail
    have HO' := HO.out
    rw [HG.out] at HO'
    refine wrR2_wp b w.heap.size i fv1 D.act s w1 _ h1 HO' hB1 hsl hown1 (by omega) ?_
    intro u8 u9 u10 u11 u12 u13 u14 u15 u16 u17 u18 u19 fv2 w2 h2 r2
    go_wp2
    go_end0
    exact ⟨rfl, fv2, by rw [HG.out]; exact h2, r01.trans r2⟩
  · have hg' : D.goes = false := by simpa using hg
    rw [hg'] at ha
    have HG : Hid (D.write i s = D.act) := by
      show _ = _
      simp [Dk.write, hg']
    clear hg hokw hg'
    generalize (u8s s).toArray = arr at *
    go_enter Tryd.func124, Tryd.ntmps124
    go_wp2_with fail
    refine ha.mono ?_
    rintro e w1 ⟨rfl, fv1, h1, r1⟩
    go_wp2
    go_end0
    exact ⟨rfl, fv1, by rw [HG.out]; exact h1, r0.trans r1⟩
end Go.Proofs.YtlhohmlpcgbliaaDoor
namespace Go.Proofs.YtlhohmlpcgbliaaDoor
set_option maxRecDepth 100000
open Go.RowKit
attribute [local go_sem ↓] Go.wp_at_zero Go.wp_at_succ

theorem arrSec : Tryd.prog.arrayLen 130 = 128 := by kernel_rfl
theorem elemSec : Tryd.prog.elem 130 = 5 := by kernel_rfl
theorem sliceAt_sec (w : World) (b off : Nat) (l h : Int) (h0 : 0 ≤ l) (h1 : l ≤ h) (h2 : h ≤ 128) (h3 : l < 128) :
    (Instr.sliceAt 130 (.pointer (some ⟨b, off, none⟩)) (some (.int .i64 l)) (some (.int .i64 h)) none).run Tryd.prog w = .ok (.slice (some ⟨b, off + l.toNat, none⟩) (h.toNat - l.toNat) (128 - l.toNat)) w := by
  rw [run_sliceAt_array_lh w 130 ⟨b, off, none⟩ Tryd.underlying130 .i64 .i64 l h h0 h1 (by rw [arrSec]; exact h2), elemSec, size5, arrSec]
  simp only [slicedAt, Result.andThen]
  rw [if_neg (by omega)]
  simp [Addr.add]
/-- A row: where it starts, how many slots a sector has. -/
def rowV (start each : Nat) : Value := .agg #[.int .i64 (start : Int), .int .i64 (each : Int)]
theorem infoRow : (Tryd.prog.info? 119).map (·.size) = some 2 := by kernel_rfl

set_option maxHeartbeats 400000 in
theorem slot_any (start each sb i : Nat) (w : World) (he : each = 3 ∨ each = 4) (hi : i < 100000) :
    Calls Tryd.prog 117 #[rowV start each, .pointer (some ⟨sb, 0, none⟩), .int .i64 (i : Int)] w fun e w' => e = .returned (.slice (some ⟨sb, i % each * (128 / each), none⟩) (128 / each) (128 - i % each * (128 / each))) ∧ Below w.heap.size w w' := by
  have hb0 : Below w.heap.size w (w.alloc (.cells #[.int .i64 (start : Int), .int .i64 (each : Int)] 119)) := (Below.refl _ _).alloc (Nat.le_refl _) _
  rcases he with rfl | rfl
  · have hsl := fun wx => sliceAt_sec wx sb 0 ((i : Int) % 3 * 42) ((i : Int) % 3 * 42 + 42) (by omega) (by omega) (by omega) (by omega)
    have e1 : ((i : Int) % 3 * 42).toNat = i % 3 * 42 := by omega
    have e2 : ((i : Int) % 3 * 42 + 42).toNat = i % 3 * 42 + 42 := by omega
    rw [e1, e2, Nat.zero_add, Nat.add_sub_cancel_left] at hsl
    clear e1 e2
    unfold rowV
    go_enter Tryd.func117, Tryd.ntmps117
    go_wp2
    go_ret
    exact ⟨rfl, hb0⟩
  · have hsl := fun wx => sliceAt_sec wx sb 0 ((i : Int) % 4 * 32) ((i : Int) % 4 * 32 + 32) (by omega) (by omega) (by omega) (by omega)
    have e1 : ((i : Int) % 4 * 32).toNat = i % 4 * 32 := by omega
    have e2 : ((i : Int) % 4 * 32 + 32).toNat = i % 4 * 32 + 32 := by omega
    rw [e1, e2, Nat.zero_add, Nat.add_sub_cancel_left] at hsl
    clear e1 e2
    unfold rowV
    go_enter Tryd.func117, Tryd.ntmps117
    go_wp2
    go_ret
    exact ⟨rfl, hb0⟩

theorem convert_range {w : World} {b o cap : Nat} {l : List Nat} (h : w.rangeAt b o (u8s l)) : (convert 82 9 (.slice (some ⟨b, o, none⟩) l.length cap)).run Tryd.prog w = .ok (.string (strOf l)) w := by
  refine run_convert_bytes_arg w 82 5 Tryd.underlying82 Tryd.underlying5 b o l.length cap (l.map fun (x : Nat) => (x : Int)) (by simp) ?_ 9 Tryd.underlying9
  intro i hi
  have := h i _ (u8s_get l i hi)
  rw [this]
  simp [hi]

/-- One byte. -/
def numS (n : Nat) : ByteArray := strOf [n]
set_option maxHeartbeats 400000 in
theorem number_any (n : Nat) (w : World) (hn : n < 256) : Calls Tryd.prog 134 #[.int .i64 (n : Int)] w fun e w' => e = .returned (.string (numS n)) ∧ Below w.heap.size w w' := by
  have hcv : (convert 82 9 (.slice (some ⟨w.heap.size, 0, none⟩) 1 1)).run Tryd.prog (w.alloc (.cells #[.int .u8 (n : Int)] 5)) = .ok (.string (numS n)) (w.alloc (.cells #[.int .u8 (n : Int)] 5)) :=
    convert_range (l := [n]) (Blk.new w 5 (u8s [n])).range
  have hb0 : Below w.heap.size w (w.alloc (.cells #[.int .u8 (n : Int)] 5)) := (Below.refl _ _).alloc (Nat.le_refl _) _
  go_enter Tryd.func134, Tryd.ntmps134
  go_wp2
  go_ret
  exact ⟨rfl, hb0⟩

set_option maxHeartbeats 400000 in
theorem added_any (w : World) : Calls Tryd.prog 120 #[] w fun e w' => e = .returned (rowV 2 3) ∧ Below w.heap.size w w' := by
  go_enter Tryd.func120, Tryd.ntmps120
  go_wp2
  exact bodyPost_ret (results_cell Tryd.results120 (by rfl) (Blk.new w 119 [.int .i64 2, .int .i64 3]).range Tryd.underlying119 rfl infoRow) rfl ⟨rfl, (Below.refl _ _).alloc (Nat.le_refl _) _⟩
set_option maxHeartbeats 400000 in
theorem bundles_any (w : World) : Calls Tryd.prog 95 #[] w fun e w' => e = .returned (rowV 6 3) ∧ Below w.heap.size w w' := by
  go_enter Tryd.func95, Tryd.ntmps95
  go_wp2
  exact bodyPost_ret (results_cell Tryd.results95 (by rfl) (Blk.new w 119 [.int .i64 6, .int .i64 3]).range Tryd.underlying119 rfl infoRow) rfl ⟨rfl, (Below.refl _ _).alloc (Nat.le_refl _) _⟩
/-- Where the tiles of a level start, and how many trees there may be. -/
def tileAt : Nat → Nat × Nat
  | 0 => (28, 64)
  | l + 1 => ((tileAt l).1 + ((tileAt l).2 + 3) / 4, (tileAt l).2 / 4)
theorem tileAt_le (l : Nat) : (tileAt l).1 ≤ 50 ∧ (tileAt l).2 ≤ 64 := by
  match l with
  | 0 => decide
  | 1 => decide
  | 2 => decide
  | 3 => decide
  | l + 4 =>
    have h : ∀ k, tileAt (k + 4) = (50, 0) := by
      intro k
      induction k with
      | zero => decide
      | succ k ih => rw [show k + 1 + 4 = (k + 4) + 1 by omega, tileAt, ih]; rfl
    rw [h]; decide
set_option maxHeartbeats 1000000 in
theorem tiles_any (l : Nat) (w : World) (hl : l < 1000) : Calls Tryd.prog 119 #[.int .i64 (l : Int)] w fun e w' => e = .returned (rowV (tileAt l).1 4) ∧ Below w.heap.size w w' := by
  have hb0 : Below w.heap.size w (w.alloc (.cells #[.int .i64 0, .int .i64 0] 119)) := (Below.refl _ _).alloc (Nat.le_refl _) _
  have hB0 : Blk (w.alloc (.cells #[.int .i64 0, .int .i64 0] 119)) w.heap.size 119 [.int .i64 0, .int .i64 0] := Blk.new w _ _
  go_enter Tryd.func119, Tryd.ntmps119
  try go_wp2
  go_loopw [3, 4, 6] (fun s t v wr => ∃ k : Nat, k ≤ l ∧ v = .int .i64 (k : Int) ∧ s = .int .i64 ((tileAt k).1 : Int) ∧ t = .int .i64 ((tileAt k).2 : Int) ∧ Blk wr w.heap.size 119 [.int .i64 0, .int .i64 0] ∧ Below w.heap.size w wr) (fun _ _ v _ => l - (intOf v).toNat)
  case atStart => exact ⟨0, by omega, rfl, rfl, rfl, hB0, hb0⟩
  case round =>
    obtain ⟨k, hk, rfl, rfl, rfl, hB, hb⟩ := hrel
    clear hB0 hb0
    have hle := tileAt_le k
    have HT : Hid (tileAt (k + 1) = ((tileAt k).1 + ((tileAt k).2 + 3) / 4, (tileAt k).2 / 4)) := rfl
    by_cases h8 : k < l
    · generalize tileAt k = p at *
      obtain ⟨p1, p2⟩ := p
      simp only at *
      go_wp2
      go_roundw
      case rel => exact ⟨k + 1, by omega, by go_num, by rw [HT.out]; go_num, by rw [HT.out]; go_num, hB, hb⟩
      case measure => simp [intOf]; omega
    · have hk8 : k = l := by omega
      subst hk8
      have c0 := hB.cell 0
      have c1 := hB.cell 1
      have f0 := hB.frozen 0
      have f1 := hB.frozen 1
      simp only [List.getElem?_cons_succ, List.getElem?_cons_zero] at c0 c1
      have HB := (hB.set 0 (.int .i64 ((tileAt k).1 : Int))).set 1 (.int .i64 4)
      simp only [List.set_cons_succ, List.set_cons_zero] at HB
      have Hb : Below w.heap.size w ((wr.setCell ⟨w.heap.size, 0, none⟩ (.int .i64 ((tileAt k).1 : Int))).setCell ⟨w.heap.size, 1, none⟩ (.int .i64 4)) := (hb.setCell (Nat.le_refl _) _).setCell (Nat.le_refl _) _
      go_wp2
      exact bodyPost_ret (results_cell Tryd.results119 (by rfl) HB.range Tryd.underlying119 rfl infoRow) rfl ⟨rfl, Hb⟩
end Go.Proofs.YtlhohmlpcgbliaaDoor
namespace Go.Proofs.YtlhohmlpcgbliaaDoor

section
variable {P : Program} {ops : Array Oper} {Q : Exit → Act → World → Prop} {S : World → Prop}
/-- A region that draws its order, walked under a condition S that holds throughout. -/
theorem wp_region_s {id : Nat} {l : List Oper} {a : Act} {w : World} (S : World → Prop) (hm : P.follows .mixedOrders = true)
    (h : wpAnyH P .any l.toArray (NoPanic Q) S l.length (Array.replicate l.length false) a w.drew) : (Code.region id l.toArray true).wp P Q a w := by
  refine wp_region_noPanic (wp_region_held (S := S) hm ?_)
  simpa using h
theorem wpS_pure {k fuel : Nat} {o : Oper} {v : Value} {listed : Array Bool} {a : Act} {w : World} (h0 : ops[k]? = some o) (hs : Region.noSelect ops = true) (hf : Region.free .any ops listed k = true)
    (hr : (Region.ready .any ops listed).contains k = true) (hgd : o.guard = none) (d : Option Nat) (hd : o.dst = d) (hS : S w) (hv : ∀ wx, S wx → (execOp a.eval o).run P wx = .ok (.value v) wx)
    (h : wpAnyH P .any ops (NoPanic Q) S fuel (listed.setIfInBounds k true) (a.put d v) w) : wpAnyH P .any ops (NoPanic Q) S (fuel + 1) listed a w :=
  wpAnyH_take h0 hs hf hr (fun c a w hq => by cases hq) (.inl ⟨by simp [Region.wanted, hgd], hv⟩) hS (by rw [hd]; exact h)
theorem wpS_one {i fuel : Nat} {listed : Array Bool} {a : Act} {w : World} (hr : Region.ready .any ops listed = [i])
    (h : wpOp P ops Q i (fun a' w' => S w' ∧ wpAnyH P .any ops Q S fuel (listed.setIfInBounds i true) a' w') a w) : wpAnyH P .any ops Q S (fuel + 1) listed a w := by
  refine wpAnyH_all hr (by simp) ?_
  intro k hk
  simp at hk
  subst hk
  exact h
theorem wpS_two {i j fuel : Nat} {listed : Array Bool} {a : Act} {w : World} (hr : Region.ready .any ops listed = [i, j])
    (h : wpOp P ops Q i (fun a' w' => S w' ∧ wpAnyH P .any ops Q S fuel (listed.setIfInBounds i true) a' w') a w)
    (h2 : wpOp P ops Q j (fun a' w' => S w' ∧ wpAnyH P .any ops Q S fuel (listed.setIfInBounds j true) a' w') a w) : wpAnyH P .any ops Q S (fuel + 1) listed a w := by
  refine wpAnyH_all hr (by simp) ?_
  intro k hk
  simp at hk
  rcases hk with rfl | rfl
  · exact h
  · exact h2
theorem opS_val {i : Nat} {o : Oper} {a : Act} {w w' : World} {v : Value} {K : Act → World → Prop} (hi : ops[i]? = some o) (hgd : o.guard = none) (d : Option Nat) (hd : o.dst = d)
    (hv : (execOp a.eval o).run P w = .ok (.value v) w') (h : K (a.put d v) w') : wpOp P ops Q i K a w := by
  unfold wpOp
  have hw : Region.wanted o (yielded ops a.tmps) = true := by simp [Region.wanted, hgd]
  simp only [hi, hw, if_true]
  refine .inl ?_
  unfold Oper.wp
  rw [hv]
  rw [← hd] at h
  exact h
theorem opS_skip {i : Nat} {o : Oper} {a : Act} {w w' : World} {K : Act → World → Prop} (hi : ops[i]? = some o) (hgd : o.guard = none) (hd : o.dst = none)
    (hx : (execOp a.eval o).run P w = .ok .skip w') (h : K a w') : wpOp P ops Q i K a w := by
  unfold wpOp
  have hw : Region.wanted o (yielded ops a.tmps) = true := by simp [Region.wanted, hgd]
  simp only [hi, hw, if_true]
  refine .inl ?_
  unfold Oper.wp
  rw [hx]
  have e : a.put o.dst undef = a := by rw [hd]; rfl
  simp only [Oper.upon]
  rw [e]
  exact h
theorem opS_call {i : Nat} {o : Oper} {a : Act} {w : World} {f : FuncId} {vs : Array Value} {K : Act → World → Prop} (hi : ops[i]? = some o) (hgd : o.guard = none) (d : Option Nat) (hd : o.dst = d)
    (hx : (execOp a.eval o).run P w = .ok (.enter f vs) w) (hc : Calls P f vs w fun e w' => ∃ v, e = .returned v ∧ K (a.put d v) w') : wpOp P ops Q i K a w := by
  unfold wpOp
  have hw : Region.wanted o (yielded ops a.tmps) = true := by simp [Region.wanted, hgd]
  simp only [hi, hw, if_true]
  refine .inl ?_
  unfold Oper.wp
  rw [hx, Oper.upon_enter]
  refine hc.mono ?_
  rintro e w' ⟨v, rfl, h⟩
  rw [← hd] at h
  exact h
end
end Go.Proofs.YtlhohmlpcgbliaaDoor
namespace Go.Proofs.YtlhohmlpcgbliaaDoor
set_option maxRecDepth 100000
open Go.RowKit
attribute [local go_sem ↓] Go.wp_at_zero Go.wp_at_succ

theorem exec_bop {P : Program} {o : Oper} {a : Act} {w : World} {op : BinOp} {t t2 : TypeId} {x y : Operand} {v1 v2 u : Value} (ho : o.op = .binOp op t x y t2) (hx : a.eval x = v1) (hy : a.eval y = v2) (hg : (eqGuard op t x y v1 v2).run P w = .ok () w) (hr : (binOp op t v1 v2).run P w = .ok u w) : (execOp a.eval o).run P w = .ok (.value u) w := by
  unfold execOp
  simp only [ho, hx, hy]
  simp [hg, hr]
theorem quo_run (i e : Nat) (w : World) (he : e = 3 ∨ e = 4) (hi : i < 100000) : (binOp .quo 3 (.int .i64 (i : Int)) (.int .i64 (e : Int))).run Tryd.prog w = .ok (.int .i64 ((i / e : Nat) : Int)) w := by
  rcases he with rfl | rfl
  · have h : IntKind.i64.wrap ((i : Int) / 3) = (i : Int) / 3 := IntWalk.i64_in _ ⟨by omega, by omega⟩
    simp [go_sem]
    exact h
  · have h : IntKind.i64.wrap ((i : Int) / 4) = (i : Int) / 4 := IntWalk.i64_in _ ⟨by omega, by omega⟩
    simp [go_sem]
    exact h
theorem add_run (i e : Nat) (w : World) (hi : i < 100000) (he : e < 100000) : (binOp .add 3 (.int .i64 (i : Int)) (.int .i64 (e : Int))).run Tryd.prog w = .ok (.int .i64 ((i + e : Nat) : Int)) w := by
  have h : IntKind.i64.wrap ((i : Int) + (e : Int)) = (i : Int) + (e : Int) := IntWalk.i64_in _ ⟨by omega, by omega⟩
  simp [go_sem]
  exact h
theorem loadInt (w : World) (b o : Nat) (x : Int) (h : w.cell? ⟨b, o, none⟩ = some (.int .i64 x)) : (Instr.loadAt 3 (.pointer (some ⟨b, o, none⟩))).run Tryd.prog w = .ok (.int .i64 x) w := by
  simp [go_sem, h]
theorem allocSec {o : Oper} {a : Act} (w : World) (ho : o.op = .alloc 130) : (execOp a.eval o).run Tryd.prog w = .ok (.value (.pointer (some ⟨w.heap.size, 0, none⟩))) (w.alloc (.cells Tryd.zeroCells130 130)) := by
  unfold execOp
  simp only [ho]
  simp [go_sem, Tryd.zeroValue130]

set_option maxHeartbeats 2000000 in
theorem rdR1_wp {c0 c4 c5 c6 c7 c8 c9 c10 c11 c12 c13 c14 c15 c16 c17 c18 c19 c20 : Value} (b rb i start each : Nat) (fv : Value) (D : Dk) (w : World) (Q : Exit → Act → World → Prop) (h : DiskAt w b fv D) (hr0 : w.cell? ⟨rb, 0, none⟩ = some (.int .i64 (start : Int))) (hr1 : w.cell? ⟨rb, 1, none⟩ = some (.int .i64 (each : Int)))
    (he : each = 3 ∨ each = 4) (hi : i < 10000) (hst : start + i / each < 200)
    (hQ : ∀ (u8 u9 u10 u11 u12 u13 u14 u15 u16 : Value) (lb : Nat) (w' : World), Blk w' lb 130 (u8s (D.read (start + i / each))) → Below w.heap.size w w' → w.heap.size ≤ lb → Q .normal ⟨#[c0, .pointer (some ⟨b, 0, none⟩), .int .i64 (i : Int), .pointer (some ⟨rb, 0, none⟩), c4, c5, c6, .pointer (some ⟨lb, 0, none⟩), u8, u9, u10, u11, u12, u13, u14, u15, u16, c17, c18, c19, c20], []⟩ w') :
    Code.wp Tryd.prog (rgn Tryd.f96 1) Q ⟨#[c0, .pointer (some ⟨b, 0, none⟩), .int .i64 (i : Int), .pointer (some ⟨rb, 0, none⟩), c4, c5, c6, c7, c8, c9, c10, c11, c12, c13, c14, c15, c16, c17, c18, c19, c20], []⟩ w := by
  have hlr : rb < w.heap.size := World.block_lt_of_cell? _ _ hr0
  have hst1 : start < 100000 := Nat.lt_of_le_of_lt (Nat.le_add_right _ _) (Nat.lt_of_lt_of_le hst (by omega))
  have hst2 : i / each < 100000 := Nat.lt_of_le_of_lt (Nat.le_add_left _ _) (Nat.lt_of_lt_of_le hst (by omega))
  have hS : (fun wx : World => Below w.heap.size w wx) w.drew := (Below.refl w.heap.size w).drew
  have hsec := (h.ok.read hst)
  have hread : ∀ wx, Below w.heap.size w wx → Calls Tryd.prog 116 #[.pointer (some ⟨b, 0, none⟩), .int .i64 ((start + i / each : Nat) : Int)] wx fun e w' => e = .returned (.agg (u8s (D.read (start + i / each))).toArray) ∧ Below wx.heap.size wx w' :=
    fun wx hx => read_any b fv D (start + i / each) wx (h.below hx) hst
  generalize hsd : D.read (start + i / each) = s at *
  have hsl := hsec.len
  have hz : Tryd.zeroCells130.toList.length = 128 := by rw [zeroSec]; simp
  conv => arg 2; whnf
  refine wp_region_s (fun wx : World => Below w.heap.size w wx) (by kernel_rfl) ?_
  refine wpS_pure (k := 0) (v := .pointer (some ⟨b, 0, none⟩)) (by rfl) (by kernel_rfl) (by kernel_rfl) (by kernel_rfl) (by rfl) (some 8) (by rfl) hS (fun _ _ => by kernel_rfl) ?_
  simp only [Act.put, List.setIfInBounds_toArray, List.set_cons_succ, List.set_cons_zero]
  refine wpS_pure (k := 1) (v := .pointer (some ⟨rb, 0, none⟩)) (by rfl) (by kernel_rfl) (by kernel_rfl) (by kernel_rfl) (by rfl) (some 9) (by rfl) hS (fun _ _ => by kernel_rfl) ?_
  simp only [Act.put, List.setIfInBounds_toArray, List.set_cons_succ, List.set_cons_zero]
  refine wpS_pure (k := 2) (v := .int .i64 (start : Int)) (by rfl) (by kernel_rfl) (by kernel_rfl) (by kernel_rfl) (by rfl) (some 10) (by rfl) hS (fun wx hx => exec_ld (by rfl) (by rfl) (loadInt wx rb 0 _ (by rw [hx.cell (p := ⟨rb, 0, none⟩) hlr]; exact hr0))) ?_
  simp only [Act.put, List.setIfInBounds_toArray, List.set_cons_succ, List.set_cons_zero]
  refine wpS_pure (k := 3) (v := .int .i64 (i : Int)) (by rfl) (by kernel_rfl) (by kernel_rfl) (by kernel_rfl) (by rfl) (some 11) (by rfl) hS (fun _ _ => by kernel_rfl) ?_
  simp only [Act.put, List.setIfInBounds_toArray, List.set_cons_succ, List.set_cons_zero]
  refine wpS_pure (k := 4) (v := .pointer (some ⟨rb, 1, none⟩)) (by rfl) (by kernel_rfl) (by kernel_rfl) (by kernel_rfl) (by rfl) (some 12) (by rfl) hS (fun _ _ => by kernel_rfl) ?_
  simp only [Act.put, List.setIfInBounds_toArray, List.set_cons_succ, List.set_cons_zero]
  refine wpS_pure (k := 5) (v := .int .i64 (each : Int)) (by rfl) (by kernel_rfl) (by kernel_rfl) (by kernel_rfl) (by rfl) (some 13) (by rfl) hS (fun wx hx => exec_ld (by rfl) (by rfl) (loadInt wx rb 1 _ (by rw [hx.cell (p := ⟨rb, 1, none⟩) hlr]; exact hr1))) ?_
  simp only [Act.put, List.setIfInBounds_toArray, List.set_cons_succ, List.set_cons_zero]
  refine wpS_pure (k := 6) (v := .int .i64 ((i / each : Nat) : Int)) (by rfl) (by kernel_rfl) (by kernel_rfl) (by kernel_rfl) (by rfl) (some 14) (by rfl) hS (fun wx _ => exec_bop (by rfl) (by rfl) (by rfl) (by kernel_rfl) (quo_run i each wx he (by omega))) ?_
  simp only [Act.put, List.setIfInBounds_toArray, List.set_cons_succ, List.set_cons_zero]
  refine wpS_pure (k := 7) (v := .int .i64 ((start + i / each : Nat) : Int)) (by rfl) (by kernel_rfl) (by kernel_rfl) (by kernel_rfl) (by rfl) (some 15) (by rfl) hS (fun wx _ => exec_bop (by rfl) (by rfl) (by rfl) (by kernel_rfl) (add_run start (i / each) wx hst1 hst2)) ?_
  simp only [Act.put, List.setIfInBounds_toArray, List.set_cons_succ, List.set_cons_zero]
  have hb0 : Below w.heap.size w w.drew := hS
  refine wpS_two (i := 8) (j := 9) (by kernel_rfl) ?_ ?_
  · refine opS_call (f := 116) (vs := #[.pointer (some ⟨b, 0, none⟩), .int .i64 ((start + i / each : Nat) : Int)]) (by rfl) (by rfl) (some 16) (by rfl) (by kernel_rfl) ((hread _ hb0).mono ?_)
    rintro e w1 ⟨rfl, hb1⟩
    have hb1' : Below w.heap.size w w1 := hb0.trans (hb1.mono hb0.size)
    refine ⟨_, rfl, hb1', ?_⟩
    simp only [Act.put, List.setIfInBounds_toArray, List.set_cons_succ, List.set_cons_zero]
    have hB := Blk.newA w1 130 Tryd.zeroCells130
    have hb2 : Below w.heap.size w (w1.alloc (.cells Tryd.zeroCells130 130)) := hb1'.alloc hb1'.size _
    refine wpS_one (i := 9) (by kernel_rfl) (opS_val (by rfl) (by rfl) (some 7) (by rfl) (allocSec w1 (by rfl)) ⟨hb2, ?_⟩)
    simp only [Act.put, List.setIfInBounds_toArray, List.set_cons_succ, List.set_cons_zero]
    have hB3 := hB.fill (u8s s) (by simp [hsl, hz])
    have hb3 := Below.setCells hb2 w1.heap.size 0 hb1'.size (u8s s)
    refine wpS_one (i := 10) (by kernel_rfl) (opS_skip (by rfl) (by rfl) (by rfl) (exec_store (by rfl) (by rfl) (by rfl) (storeSec (hB.there 0 128 (by omega)) hsl)) ⟨hb3, ?_⟩)
    refine wpAnyH_done (by kernel_rfl) ?_ _
    refine NoPanic.normal ?_
    exact hQ _ _ _ _ _ _ _ _ _ _ _ hB3 hb3 hb1'.size
  · have hB := Blk.newA w.drew 130 Tryd.zeroCells130
    have hb2 : Below w.heap.size w (w.drew.alloc (.cells Tryd.zeroCells130 130)) := hb0.alloc hb0.size _
    refine opS_val (by rfl) (by rfl) (some 7) (by rfl) (allocSec w.drew (by rfl)) ⟨hb2, ?_⟩
    simp only [Act.put, List.setIfInBounds_toArray, List.set_cons_succ, List.set_cons_zero]
    refine wpS_one (i := 8) (by kernel_rfl) (opS_call (f := 116) (vs := #[.pointer (some ⟨b, 0, none⟩), .int .i64 ((start + i / each : Nat) : Int)]) (by rfl) (by rfl) (some 16) (by rfl) (by kernel_rfl) ((hread _ hb2).mono ?_))
    rintro e w1 ⟨rfl, hb1⟩
    have hb1' : Below w.heap.size w w1 := hb2.trans (hb1.mono hb2.size)
    refine ⟨_, rfl, hb1', ?_⟩
    simp only [Act.put, List.setIfInBounds_toArray, List.set_cons_succ, List.set_cons_zero]
    have hB1 := hB.below hb1 hB.lt
    have hB3 := hB1.fill (u8s s) (by simp [hsl, hz])
    have hb3 := Below.setCells hb1' w.drew.heap.size 0 (Nat.le_refl _) (u8s s)
    refine wpS_one (i := 10) (by kernel_rfl) (opS_skip (by rfl) (by rfl) (by rfl) (exec_store (by rfl) (by rfl) (by rfl) (storeSec (hB1.there 0 128 (by omega)) hsl)) ⟨hb3, ?_⟩)
    refine wpAnyH_done (by kernel_rfl) ?_ _
    refine NoPanic.normal ?_
    exact hQ _ _ _ _ _ _ _ _ _ _ _ hB3 hb3 (Nat.le_refl _)

/-- What slot i of a row holds. -/
def slotL (s : List Nat) (each i : Nat) : List Nat := (s.drop (i % each * (128 / each))).take (128 / each)
def Dk.slot (D : Dk) (start each i : Nat) : List Nat := slotL (D.read (start + i / each)) each i
theorem slotL_length {s : List Nat} {each : Nat} (i : Nat) (hs : s.length = 128) (he : each = 3 ∨ each = 4) : (slotL s each i).length = 128 / each := by
  rcases he with rfl | rfl
  · simp [slotL, hs]; omega
  · simp [slotL, hs]; omega

set_option maxHeartbeats 1000000 in
theorem rowRead_any (b i start each : Nat) (fv : Value) (D : Dk) (w : World) (h : DiskAt w b fv D) (he : each = 3 ∨ each = 4) (hi : i < 10000) (hst : start + i / each < 200) :
    Calls Tryd.prog 96 #[rowV start each, .pointer (some ⟨b, 0, none⟩), .int .i64 (i : Int)] w fun e w' => e = .returned (.string (strOf (D.slot start each i))) ∧ Below w.heap.size w w' := by
  have hb0 : Below w.heap.size w (w.alloc (.cells #[.int .i64 (start : Int), .int .i64 (each : Int)] 119)) := (Below.refl _ _).alloc (Nat.le_refl _) _
  have hB0 : Blk (w.alloc (.cells #[.int .i64 (start : Int), .int .i64 (each : Int)] 119)) w.heap.size 119 [.int .i64 (start : Int), .int .i64 (each : Int)] := Blk.new w _ _
  have h1 := h.below hb0
  have hsz := (h.ok.read hst).len
  have HS : Hid (D.slot start each i = slotL (D.read (start + i / each)) each i) := rfl
  unfold rowV
  go_enter Tryd.func96, Tryd.ntmps96
  go_wp2_with fail
  have hlt0 := hB0.lt
  generalize w.alloc (.cells #[.int .i64 (start : Int), .int .i64 (each : Int)] 119) = w0 at *
  refine rdR1_wp b w.heap.size i start each fv D w0 _ h1 (by rw [hB0.cell]; rfl) (by rw [hB0.cell]; rfl) he hi hst ?_
  intro u8 u9 u10 u11 u12 u13 u14 u15 u16 lb w1 hB1 hb1 hlb
  generalize D.read (start + i / each) = s at *
  have hr0 := hB0.below hb1 hlt0
  have hc0 := hr0.cell 0
  have hc1 := hr0.cell 1
  simp only [List.getElem?_cons_succ, List.getElem?_cons_zero] at hc0 hc1
  have hsl := slot_any start each lb i w1 he (by omega)
  unfold rowV at hsl
  go_wp2_with fail
  refine hsl.mono ?_
  rintro e w2 ⟨rfl, hb2⟩
  have hB2 := hB1.below hb2 hB1.lt
  have hl := slotL_length i hsz he
  have hrg : w2.rangeAt lb (i % each * (128 / each)) (u8s (slotL s each i)) := by
    have := hB2.part (i % each * (128 / each)) (128 / each)
    unfold slotL
    rw [u8s_take, u8s_drop]
    exact this
  have hcv := convert_range (cap := 128 - i % each * (128 / each)) hrg
  rw [hl] at hcv
  go_wp2
  go_ret
  exact ⟨by rw [HS.out]; rfl, hb0.trans ((hb1.trans (hb2.mono hb1.size)).mono hb0.size)⟩
end Go.Proofs.YtlhohmlpcgbliaaDoor
namespace Go.Proofs.YtlhohmlpcgbliaaDoor
set_option maxRecDepth 100000
open Go.RowKit
attribute [local go_sem ↓] Go.wp_at_zero Go.wp_at_succ

theorem byt_ok {l : List Nat} (h : ∀ x ∈ l, x < 256) : Sha.bytesOk l := by
  intro i
  rw [List.getD_eq_getElem?_getD]
  cases hq : l[i]? with
  | none => simp
  | some x => exact h x (List.mem_of_getElem? hq)
theorem strOf_size {l : List Nat} (h : ∀ x ∈ l, x < 256) : (strOf l).size = l.length := by
  rw [← bts_length, bts_strOf (byt_ok h)]
theorem strOf_inj {a b : List Nat} (ha : ∀ x ∈ a, x < 256) (hb : ∀ x ∈ b, x < 256) (h : strOf a = strOf b) : a = b := by
  rw [← bts_strOf (byt_ok ha), ← bts_strOf (byt_ok hb), h]
theorem strOf_extract {l : List Nat} (h : ∀ x ∈ l, x < 256) (a b : Nat) : (strOf l).extract a b = strOf ((l.drop a).take (b - a)) := by
  apply bts_inj
  rw [bts_extract, bts_strOf (byt_ok h), bts_strOf (byt_ok fun x hx => h x (List.mem_of_mem_drop (List.mem_of_mem_take hx)))]
theorem bts_byte (s : ByteArray) : ∀ x ∈ bts s, x < 256 := by
  intro x hx
  obtain ⟨i, hi⟩ := List.mem_iff_getElem?.1 hx
  have := bts_ok s i
  rw [List.getD_eq_getElem?_getD, hi] at this
  exact this

/-- The entry in a slot. -/
def unpL (l : List Nat) : Option (List Nat) := if l.getD 0 0 ≤ 40 then some ((l.drop 1).take (l.getD 0 0)) else none

theorem index_st (w : World) (l : List Nat) (h : ∀ x ∈ l, x < 256) (i : Nat) (hi : i < l.length) : (Instr.index 9 (.string (strOf l)) (.int .i64 (i : Int))).run Tryd.prog w = .ok (.int .u8 ((l.getD i 0 : Nat) : Int)) w := by
  have hb : (bts (strOf l))[i]? = some (l.getD i 0) := by rw [bts_strOf (byt_ok h), List.getD_eq_getElem?_getD, List.getElem?_eq_getElem hi]; rfl
  have hs := strOf_size h
  have hx : (strOf l)[i]? = some ((strOf l)[i]'(by omega)) := by simp [hs, hi]
  have hv : ((strOf l)[i]'(by omega)).toNat = l.getD i 0 := by
    simp only [bts, List.getElem?_map] at hb
    have : (strOf l).data.toList[i]? = some ((strOf l)[i]'(by omega)) := by
      simp only [Array.getElem?_toList]
      exact hx
    rw [this] at hb
    simpa using hb
  simp [Instr.index, asIntOf, run_underlying Tryd.underlying9, hx, hv]

set_option maxHeartbeats 400000 in
theorem unpacked_any (l : List Nat) (w : World) (hl : 41 ≤ l.length) (h : ∀ x ∈ l, x < 256) :
    Calls Tryd.prog 94 #[.string (strOf l)] w fun e w' => e = .returned (.tuple #[.string (strOf ((unpL l).getD [])), .bool (unpL l).isSome]) ∧ w' = w := by
  have hix : ∀ wx, (Instr.index 9 (.string (strOf l)) (.int .i64 0)).run Tryd.prog wx = .ok (.int .u8 ((l.getD 0 0 : Nat) : Int)) wx := fun wx => index_st wx l h 0 (by omega)
  have hn : l.getD 0 0 < 256 := byt_ok h 0
  have HU : Hid (unpL l = if l.getD 0 0 ≤ 40 then some ((l.drop 1).take (l.getD 0 0)) else none) := rfl
  have HX := strOf_extract h 1 (1 + l.getD 0 0)
  have hsz := strOf_size h
  have e0 : strOf [] = (⟨#[]⟩ : ByteArray) := rfl
  rw [Nat.add_sub_cancel_left] at HX
  generalize l.getD 0 0 = n at *
  generalize strOf l = s at *
  go_enter Tryd.func94, Tryd.ntmps94
  by_cases h40 : n ≤ 40
  · have h1 : ¬ (n : Int) > 40 := by omega
    go_wp2
    go_ret2
    rw [HU.out, if_pos h40]
    refine ⟨?_, rfl⟩
    simp
  · have h1 : (n : Int) > 40 := by omega
    go_wp2
    go_ret2
    rw [HU.out, if_neg h40]
    exact ⟨rfl, rfl⟩
end Go.Proofs.YtlhohmlpcgbliaaDoor
namespace Go.Proofs.YtlhohmlpcgbliaaDoor
set_option maxRecDepth 100000
open Go.RowKit
attribute [local go_sem ↓] Go.wp_at_zero Go.wp_at_succ

def levF : Nat → Nat → Nat × Nat
  | 0, n => (0, n)
  | f + 1, n => if n % 4 = 0 then ((levF f (n / 4)).1 + 1, (levF f (n / 4)).2) else (0, n)
/-- How often 4 divides n, and what is left. -/
def lev (n : Nat) : Nat × Nat := levF n n
theorem levF_le (f : Nat) : ∀ n, (levF f n).1 ≤ f := by
  induction f with
  | zero => intro n; exact Nat.le_refl _
  | succ f ih =>
    intro n
    unfold levF
    split
    · have := ih (n / 4); simp only; omega
    · exact Nat.zero_le _

set_option maxHeartbeats 1000000 in
theorem levelOf_any (n : Nat) (w : World) (h1 : 1 ≤ n) (hn : n < 100000) :
    Calls Tryd.prog 118 #[.int .i64 (n : Int)] w fun e w' => e = .returned (.tuple #[.int .i64 ((lev n).1 : Int), .bool (decide ((lev n).2 = 1))]) ∧ w' = w := by
  go_enter Tryd.func118, Tryd.ntmps118
  try go_wp2
  go_loopw [0, 2] (fun u v wr => ∃ f m k : Nat, 1 ≤ m ∧ m ≤ f ∧ f ≤ n ∧ k + f ≤ n ∧ u = .int .i64 (m : Int) ∧ v = .int .i64 (k : Int) ∧ lev n = (k + (levF f m).1, (levF f m).2) ∧ wr = w) (fun u _ _ => (intOf u).toNat)
  case atStart => exact ⟨n, n, 0, h1, Nat.le_refl _, Nat.le_refl _, by omega, rfl, rfl, by simp [lev], rfl⟩
  case round =>
    obtain ⟨f, m, k, hm, hmf, hfn, hkf, rfl, rfl, hlev, rfl⟩ := hrel
    obtain ⟨f, rfl⟩ : ∃ g, f = g + 1 := ⟨f - 1, by omega⟩
    have HL : Hid (lev n = (k + (levF (f + 1) m).1, (levF (f + 1) m).2)) := hlev
    clear hlev
    by_cases h4 : m % 4 = 0
    · have h4' : (m : Int) % 4 = 0 := by omega
      have HL2 : Hid (lev n = ((k + 1) + (levF f (m / 4)).1, (levF f (m / 4)).2)) := by
        show _ = _
        rw [HL.out, levF, if_pos h4]
        simp only
        congr 1
        omega
      go_wp2
      go_roundw
      case rel => exact ⟨f, m / 4, k + 1, by omega, by omega, by omega, by omega, by go_num, by go_num, HL2.out, trivial⟩
      case measure => simp [intOf]; omega
    · have h4' : ¬ (m : Int) % 4 = 0 := by omega
      have HL2 : Hid (lev n = (k, m)) := by
        show _ = _
        rw [HL.out, levF, if_neg h4]
        simp
      go_wp2
      go_ret2
      rw [HL2.out]
      refine ⟨?_, rfl⟩
      by_cases hm1 : m = 1
      · subst hm1; simp
      · have : ¬ (m : Int) = 1 := by omega
        simp [hm1, this]

/-- What stands at a sector's start; the rest is empty. -/
def secOf (l : List Nat) : List Nat := l ++ List.replicate (128 - l.length) 0
theorem secOf_len {l : List Nat} (h : l.length ≤ 128) : (secOf l).length = 128 := by simp [secOf]; omega
theorem secOf_sec {l : List Nat} (h : l.length ≤ 128) (hb : ∀ x ∈ l, x < 256) : Sec (secOf l) := by
  refine ⟨secOf_len h, fun x hx => ?_⟩
  rcases List.mem_append.1 hx with h1 | h1
  · exact hb x h1
  · rw [(List.mem_replicate.1 h1).2]; omega
theorem secOf_put (l p : List Nat) (h : l.length + p.length ≤ 128) : setL (u8s (secOf l)) l.length (u8s p) = u8s (secOf (l ++ p)) := by
  rw [setL_eq _ _ _ (by rw [u8s_length, u8s_length, secOf_len (by omega)]; exact h)]
  unfold secOf
  simp only [u8s_append, u8s_length]
  rw [List.take_append_of_le_length (by simp), List.take_of_length_le (by simp), List.drop_append, List.drop_eq_nil_of_le (by simp)]
  simp only [u8s_length, List.nil_append, List.append_assoc, List.append_cancel_left_eq]
  have e : l.length + p.length - l.length = p.length := by omega
  rw [e, ← u8s_drop, List.drop_replicate, List.length_append]
  congr 2
  omega
theorem sliceAt_sec_from (w : World) (b off : Nat) (l : Int) (h0 : 0 ≤ l) (h3 : l < 128) :
    (Instr.sliceAt 130 (.pointer (some ⟨b, off, none⟩)) (some (.int .i64 l)) none none).run Tryd.prog w = .ok (.slice (some ⟨b, off + l.toNat, none⟩) (128 - l.toNat) (128 - l.toNat)) w := by
  rw [run_sliceAt_array_l w 130 ⟨b, off, none⟩ Tryd.underlying130 .i64 l h0 (by rw [arrSec]; exact Int.le_of_lt h3), elemSec, size5, arrSec]
  simp only [slicedAt, Result.andThen]
  rw [if_neg (by omega)]
  simp [Addr.add]
theorem flat_take_le (ps : List ByteArray) (k : Nat) : (flat (ps.take k)).length ≤ (flat ps).length := by
  conv => rhs; rw [← List.take_append_drop k ps]
  unfold flat
  rw [List.flatMap_append, List.length_append]
  omega

set_option maxHeartbeats 1000000 in
theorem sectorOf_any (v : Value) (ps : List ByteArray) (w : World) (hS : Strs w v ps) (hlen : (flat ps).length < 128) (hpl : ps.length < 1000) :
    Calls Tryd.prog 136 #[v] w fun e w' => e = .returned (.agg (u8s (secOf (flat ps))).toArray) ∧ Below w.heap.size w w' := by
  obtain ⟨a, c, rfl, hcells⟩ := hS
  have HC : Hid (∀ (i : Nat) s, ps[i]? = some s → ∃ g off, a = some ⟨g, off, none⟩ ∧ w.cell? ⟨g, off + i, none⟩ = some (.string s)) := hcells
  clear hcells
  have hb0 : Below w.heap.size w ((w.alloc (.cells Tryd.zeroCells130 130)).alloc (.cells Tryd.zeroCells130 130)) := ((Below.refl _ _).alloc (Nat.le_refl _) _).alloc (by simp) _
  have hA0 : Blk ((w.alloc (.cells Tryd.zeroCells130 130)).alloc (.cells Tryd.zeroCells130 130)) w.heap.size 130 (u8s (List.replicate 128 0)) := by
    have := (Blk.newA w 130 Tryd.zeroCells130).alloc (.cells Tryd.zeroCells130 130)
    exact this.eq (by rw [zeroSec])
  have hB0 : Blk ((w.alloc (.cells Tryd.zeroCells130 130)).alloc (.cells Tryd.zeroCells130 130)) (w.heap.size + 1) 130 (u8s (secOf [])) := by
    have := Blk.newA (w.alloc (.cells Tryd.zeroCells130 130)) 130 Tryd.zeroCells130
    rw [World.size_alloc] at this
    exact this.eq (by rw [zeroSec]; rfl)
  go_enter Tryd.func136, Tryd.ntmps136
  go_wp2_with fail
  go_loopw [4, 9] (fun u v wr => ∃ k : Nat, k ≤ ps.length ∧ v = .int .i64 (k : Int) ∧ u = .int .i64 ((flat (ps.take k)).length : Int) ∧ Blk wr w.heap.size 130 (u8s (List.replicate 128 0)) ∧ Blk wr (w.heap.size + 1) 130 (u8s (secOf (flat (ps.take k)))) ∧ Below w.heap.size w wr) (fun _ v _ => ps.length - (intOf v).toNat)
  case atStart => exact ⟨0, by omega, rfl, rfl, hA0, hB0, hb0⟩
  case round =>
    obtain ⟨k, hk, rfl, rfl, hA, hB, hb⟩ := hrel
    clear hA0 hB0 hb0
    by_cases h8 : k < ps.length
    · obtain ⟨s, hs⟩ : ∃ s, ps[k]? = some s := ⟨_, List.getElem?_eq_getElem h8⟩
      obtain ⟨g, off, rfl, hcell⟩ := HC.out k s hs
      have hcell' : wr.cell? ⟨g, off + k, none⟩ = some (.string s) := by
        rw [hb.cell (World.block_lt_of_cell? _ _ hcell)]; exact hcell
      have hft := flat_take ps k s hs
      have hle := flat_take_le ps (k + 1)
      have HF : Hid (flat (ps.take (k + 1)) = flat (ps.take k) ++ bts s) := hft
      rw [hft, List.length_append, bts_length] at hle
      clear hft hcell hs
      have hF0 : (flat (ps.take k)).length < 128 := by omega
      have hput := secOf_put (flat (ps.take k)) (bts s) (by rw [bts_length]; omega)
      generalize flat (ps.take k) = l at *
      have hsl := fun wx => sliceAt_sec_from wx (w.heap.size + 1) 0 (l.length : Int) (by omega) (by omega)
      rw [Int.toNat_natCast, Nat.zero_add] at hsl
      have hth := hB.there l.length s.size (by rw [u8s_length, secOf_len (by omega)]; omega)
      have hcp := fun ty => run_copy_string wr (w.heap.size + 1) l.length (128 - l.length) (128 - l.length) s ty s.size (by rw [Nat.min_eq_left (by omega)]) hth
      have HB := (hB.setCells l.length (u8s (bts s))).eq hput
      have HA := hA.setCells_other (w.heap.size + 1) l.length (u8s (bts s)) (by omega)
      have Hb := Below.setCells hb (w.heap.size + 1) l.length (by omega) (u8s (bts s))
      rw [List.take_of_length_le (by simp)] at hcp
      clear hput hth
      go_wp2
      go_roundw
      case rel => exact ⟨k + 1, by omega, by go_num, by rw [HF.out, List.length_append, bts_length]; go_num, HA, by rw [HF.out]; exact HB, Hb⟩
      case measure => simp [intOf]; omega
    · have hk8 : k = ps.length := by omega
      subst hk8
      rw [List.take_length] at hB
      have hsl := secOf_len (l := flat ps) (by omega)
      generalize hgs : secOf (flat ps) = s at *
      have HR : Hid (secOf (flat ps) = s) := hgs
      clear hgs
      have hA2 := hA.fill (u8s s) (by simp [hsl])
      have hb2 := Below.setCells hb w.heap.size 0 (Nat.le_refl _) (u8s s)
      go_wp2_with (first | ((with_reducible refine ldSec ?_ (.tmp 3) ?_ (w.heap.size + 1) 0 ?_ s hB.range hsl ?_); rfl; rfl; rfl) | ((with_reducible refine stSec ?_ (.tmp 2) (.tmp 20) ?_ w.heap.size 0 s ?_ ?_ (hA.there 0 128 (by simp)) hsl ?_); rfl; rfl; rfl; rfl))
      exact bodyPost_ret (results_cell Tryd.results136 (by rfl) hA2.range Tryd.underlying130 rfl (by rw [u8s_length, hsl]; exact infoSec)) rfl ⟨by rw [HR.out], hb2⟩
end Go.Proofs.YtlhohmlpcgbliaaDoor
namespace Go.Proofs.YtlhohmlpcgbliaaDoor
set_option maxRecDepth 100000
open Go.RowKit
attribute [local go_sem ↓] Go.wp_at_zero Go.wp_at_succ

set_option maxHeartbeats 400000 in
theorem not_any (x : Nat) (w : World) (hx : x < 4294967296) :
    Calls Tryd.prog 112 #[.int .i64 (x : Int)] w fun e w' => e = .returned (.int .i64 ((4294967295 - x : Nat) : Int)) ∧ w' = w := by
  go_enter Tryd.func112, Tryd.ntmps112
  go_wp2
  go_ret
  exact ret_i64 (by omega) rfl

theorem int_i64 {a b : Int} (h : a = b) : Value.int .i64 a = .int .i64 b := by rw [h]
/-- A hexadecimal digit's value. -/
def digit (c : Nat) : Nat := if 97 ≤ c then c - 97 + 10 else c - 48
/-- The first k of eight digits. -/
def hexK (l : List Nat) (i : Nat) : Nat → Nat
  | 0 => 0
  | k + 1 => 16 * hexK l i k + digit (l.getD (8 * i + k) 0)
def isHex (l : List Nat) : Prop := ∀ i, 48 ≤ l.getD i 48 ∧ l.getD i 48 ≤ 57 ∨ 97 ≤ l.getD i 48 ∧ l.getD i 48 ≤ 102
theorem digit_lt {c : Nat} (h : 48 ≤ c ∧ c ≤ 57 ∨ 97 ≤ c ∧ c ≤ 102) : digit c < 16 := by unfold digit; split <;> omega

theorem byte_at (s : ByteArray) (i : Nat) (h : i < s.size) : (s[i].toNat : Nat) = (bts s).getD i 0 := by
  rw [List.getD_eq_getElem?_getD]
  simp [bts, h]
  rfl

set_option maxRecDepth 100000 in
set_option maxHeartbeats 400000 in
theorem word_any (s : ByteArray) (i : Nat) (w : World) (hs : 8 * i + 8 ≤ s.size) (hsz : s.size < 1000000) (hx : isHex (bts s)) :
    Calls Tryd.prog 87 #[.string s, .int .i64 (i : Int)] w fun e w' => e = .returned (.int .i64 (hexK (bts s) i 8 : Int)) ∧ w' = w := by
  go_enter Tryd.func87, Tryd.ntmps87
  go_wp2
  go_loop [5, 6] (fun n k => ∃ j : Nat, j ≤ 8 ∧ k = .int .i64 j ∧ n = .int .i64 (hexK (bts s) i j : Int) ∧ hexK (bts s) i j < 16 ^ j) (fun _ k => 8 - (intOf k).toNat)
  case atStart => exact ⟨0, by omega, rfl, rfl, by simp [hexK]⟩
  case round =>
    obtain ⟨j, hj, rfl, rfl, hb⟩ := hrel
    by_cases hlt : j < 8
    · have hb2 : hexK (bts s) i j < 268435456 := Nat.lt_of_lt_of_le hb (show 16 ^ j ≤ 16 ^ 7 from Nat.pow_le_pow_right (by omega) (by omega))
      have hi : 8 * i + j < s.size := by omega
      have hc := hx (8 * i + j)
      have hg : (bts s).getD (8 * i + j) 48 = (bts s).getD (8 * i + j) 0 := by
        rw [List.getD_eq_getElem?_getD, List.getD_eq_getElem?_getD, List.getElem?_eq_getElem (by simpa using hi)]
        rfl
      rw [hg, ← byte_at s _ hi] at hc
      have HN : Hid (hexK (bts s) i (j + 1) = 16 * hexK (bts s) i j + digit (s[8 * i + j].toNat)) := by
        show _ = _
        rw [byte_at s _ hi]; rfl
      have HB : Hid (hexK (bts s) i (j + 1) < 16 ^ (j + 1)) := by
        show _ < _
        rw [HN.out, Nat.pow_succ]
        have := digit_lt hc
        omega
      generalize hexK (bts s) i j = q at *
      by_cases h97 : 97 ≤ s[8 * i + j].toNat
      · have HD : Hid (digit (s[8 * i + j].toNat) = s[8 * i + j].toNat - 97 + 10) := by show _ = _; simp [digit, h97]
        go_wp2
        refine ⟨⟨j + 1, by omega, by go_num, ?_, HB.out⟩, by simp [intOf]; omega⟩
        rw [HN.out, HD.out]
        exact int_i64 (by omega)
      · have HD : Hid (digit (s[8 * i + j].toNat) = s[8 * i + j].toNat - 48) := by show _ = _; simp [digit, h97]
        go_wp2
        refine ⟨⟨j + 1, by omega, by go_num, ?_, HB.out⟩, by simp [intOf]; omega⟩
        rw [HN.out, HD.out]
        exact int_i64 (by omega)
    · have hj8 : j = 8 := by omega
      subst hj8
      go_wp2
      go_ret
      exact ⟨rfl, rfl⟩
end Go.Proofs.YtlhohmlpcgbliaaDoor
namespace Go.Proofs.YtlhohmlpcgbliaaDoor
set_option maxRecDepth 100000
open Go.RowKit
attribute [local go_sem ↓] Go.wp_at_zero Go.wp_at_succ

theorem exec_append {P : Program} {o : Oper} {a : Act} {w w' : World} {s x : Operand} {t : TypeId} {v1 v2 u : Value} (ho : o.op = .call { callee := .builtin .append, args := #[s, x], argTypes := #[t, t] }) (hs : a.eval s = v1) (hx : a.eval x = v2)
    (hr : (Builtin.append_ #[t, t] o.type #[v1, v2]).run P w = .ok u w') : (execOp a.eval o).run P w = .ok (.value u) w' := by
  unfold execOp
  simp only [ho, resolve, invoke, builtin, Sem.run_bind, Sem.run_pure, Result.andThen_ok, List.map_toArray, List.map_cons, List.map_nil, hs, hx, hr]

/-- An append, where it comes up alone. -/
theorem wpAnyH_app {e t : TypeId} {z : Value} {bytes : Nat} (hel : Elem e z bytes) (hz : z.cells.size = 1) (ht : Tryd.prog.underlying t = some (.slice e))
    {w w0 : World} {B i fuel : Nat} {ops : Array Oper} {o : Oper} {a : Act} {listed : Array Bool} {Q : Exit → Act → World → Prop} {S : World → Prop} (hrd : Region.ready .any ops listed = [i]) (hi : ops[i]? = some o) (hgd : o.guard = none) (s x : Operand)
    (ho : o.op = .call { callee := .builtin .append, args := #[s, x], argTypes := #[t, t] }) (base : Nat) (v : Value) (xs : List Value) (hs : a.eval s = v) (hown : Row w base e v xs)
    (g0 m c : Nat) (news : List Value) (hx : a.eval x = .slice (some ⟨g0, 0, none⟩) m c) (hm : news.length = m) (hm0 : 0 < m) (hnews : Blk w g0 e news) (h1 : ∀ u ∈ news, u.oneCell' = true)
    (hlen : xs.length + m ≤ 1000000000000) (hby : bytes ≤ 16) (hbase : base ≤ w.heap.size) (hB : Below B w0 w) (hBb : B ≤ base)
    (h : ∀ g cap w', Row w' base e (.slice (some ⟨g, 0, none⟩) (xs.length + m) cap) (xs ++ news) → w.grownBy w' v.ownBlock → (∀ g1 c1 j, v = .slice (some ⟨g1, 0, none⟩) xs.length c1 → j < xs.length → w'.cell? ⟨g1, j, none⟩ = w.cell? ⟨g1, j, none⟩) → Below B w0 w' →
      S w' ∧ wpAnyH Tryd.prog .any ops Q S fuel (listed.setIfInBounds i true) (a.put o.dst (.slice (some ⟨g, 0, none⟩) (xs.length + m) cap)) w') :
    wpAnyH Tryd.prog .any ops Q S (fuel + 1) listed a w := by
  obtain ⟨g, cap, w', hr, h2, h3, h4⟩ := run_app hel hz ht o.type w base v xs hown g0 m c news hm hm0 hnews h1 hlen hby hbase
  have h5 : Below B w0 w' := hB.grown h3 (Nat.le_trans hBb hbase) (fun k hk => Nat.le_trans hBb (hown.lt k hk).1)
  obtain ⟨h6, h7⟩ := h g cap w' h2 h3 h4 h5
  exact wpAnyH_val hrd hi hgd (exec_append ho hs hx hr) h6 h7

/-- A load of one cell, in a head that only reads. -/
theorem wpQuiet_load {P : Program} {ops : Array Oper} {C : World → Prop} {Q : Act → Prop} {rest : List Oper} {o : Oper} {a : Act} (hgd : o.guard = none) (ty : TypeId) (x : Operand) (ho : o.op = .load ty x) (ad : Addr) (v : Value) (hx : a.eval x = .pointer (some ad))
    (hc : ∀ w, C w → (Instr.loadAt ty (.pointer (some ad))).run P w = .ok v w) (h : wpQuiet P ops C Q rest (a.put o.dst v)) : wpQuiet P ops C Q (o :: rest) a := by
  refine wpQuiet_step fun K hK => ?_
  rw [if_pos (by simp [Region.wanted, hgd])]
  refine ⟨v, fun w hw => ?_, hK _ h⟩
  unfold Oper.quietAt execOp
  simp only [ho, hx, Sem.run_bind, hc w hw, Result.andThen_ok, Sem.run_pure]
  exact ⟨rfl, rfl⟩
theorem load_int (w : World) (b o : Nat) (x : Int) (h : w.cell? ⟨b, o, none⟩ = some (.int .i64 x)) : (Instr.loadAt 3 (.pointer (some ⟨b, o, none⟩))).run Tryd.prog w = .ok (.int .i64 x) w := by
  simp [go_sem, h]


theorem index_str (w : World) (s : ByteArray) (i : Nat) (z : Int) (hz : z = (i : Int)) (hi : i < s.size) :
    (Instr.index 9 (.string s) (.int .i64 z)).run Tryd.prog w = .ok (.int .u8 (((bts s).getD i 0 : Nat) : Int)) w := by
  subst hz
  have h1 : s[i]? = some s[i] := by simp [hi]
  simp [Instr.index, asIntOf, run_underlying Tryd.underlying9, h1]
  rw [byte_at s i hi, List.getD_eq_getElem?_getD]

theorem wr_id {z : Int} (h0 : 0 ≤ z) (h1 : z < 9223372036854775808) : IntKind.i64.wrap z = z := by rw [IntKind.wrap_i64]; omega

theorem ints_append (a b : List Nat) : ints (a ++ b) = ints a ++ ints b := by simp [ints]

set_option maxRecDepth 100000 in
set_option maxHeartbeats 1000000 in
theorem blkR6_wp {c0 c2 c3 c4 c7 c8 c9 c10 c11 c12 c13 c14 c15 c16 c17 c18 c19 c20 c21 c22 c23 c24 c25 c26 c27 c28 c29 c30 c31 c32 c33 c34 c35 c36 c37 c38 c39 c40 c41 c42 c43 c44 c45 c46 c47 c48 c49 c50 c51 c52 c53 c54 c55 c56 c57 c58 c59 c60 c61 c62 c63 c64 c65 c66 c67 c68 c69 c70 c71 c72 c73 c74 c75 c76 c77 c78 c79 c80 c81 c82 c83 c84 c85 c86 c87 c88 c89 c90 c91 c92 c93 c94 c95 c96 c97 c98 c99 c100 c101 c102 c103 c104 c105 c106 c107 c108 c109 c110 c111 c112 c113 c114 c115 c116 c117 c118 c119 c120 c121 c122 c123 c124 c125 c126 c127 c128 c129 c130 c131 c132 c133 c134 c135 c136 c137 c138 c139 c140 c141 c142 c143 c144 c145 c146 c147 c148 c149 c150 c151 c152 c153 c154 c155 c156 c157 c158 c159 c160 c161 c162 c163 c164 c165 c166 c167 c168 c169 c170 c171 c172 c173 c174 c175 c176 c177 c178 c179 c180 c181 c182 c183 c184 c185 c186 c187 c188 c189 c190 c191 c192 c193 c194 c195 c196 c197 c198 c199 c200 c201 c202 c203 c204 c205 c206 c207 c208 c209 c210 c211 c212 c213 c214 c215 c216 c217 c218 c219 c220 c221 c222 : Value} (s : ByteArray) (v : Value) (xs : List Value) (k base : Nat) (w w0 : World) (Q : Exit → Act → World → Prop) (hs : s.size = 64) (hk : k < 16) (hrow : Row w base 3 v xs) (hxs : xs.length ≤ 64) (hbase : base ≤ w.heap.size) (hbw : Below base w0 w)
  (hQ : ∀ (u27 u28 u29 u30 u31 u32 u33 u34 u35 u36 u37 u38 u39 u40 u41 u42 u43 u44 u45 u46 u47 u48 u49 u50 u51 u52 u53 u54 u55 u56 u57 u58 : Value) (v' : Value) (w' : World), Row w' base 3 v' (xs ++ [.int .i64 (Sha.be4 (bts s) k : Int)]) → Below base w0 w' → Q .normal ⟨#[c0, .string s, c2, c3, c4, v', .int .i64 (k : Int), c7, c8, c9, c10, c11, c12, c13, c14, c15, c16, c17, c18, c19, c20, c21, c22, c23, c24, c25, c26, u27, u28, u29, u30, u31, u32, u33, u34, u35, u36, u37, u38, u39, u40, u41, u42, u43, u44, u45, u46, u47, u48, u49, u50, u51, u52, u53, u54, u55, u56, u57, u58, c59, c60, c61, c62, c63, c64, c65, c66, c67, c68, c69, c70, c71, c72, c73, c74, c75, c76, c77, c78, c79, c80, c81, c82, c83, c84, c85, c86, c87, c88, c89, c90, c91, c92, c93, c94, c95, c96, c97, c98, c99, c100, c101, c102, c103, c104, c105, c106, c107, c108, c109, c110, c111, c112, c113, c114, c115, c116, c117, c118, c119, c120, c121, c122, c123, c124, c125, c126, c127, c128, c129, c130, c131, c132, c133, c134, c135, c136, c137, c138, c139, c140, c141, c142, c143, c144, c145, c146, c147, c148, c149, c150, c151, c152, c153, c154, c155, c156, c157, c158, c159, c160, c161, c162, c163, c164, c165, c166, c167, c168, c169, c170, c171, c172, c173, c174, c175, c176, c177, c178, c179, c180, c181, c182, c183, c184, c185, c186, c187, c188, c189, c190, c191, c192, c193, c194, c195, c196, c197, c198, c199, c200, c201, c202, c203, c204, c205, c206, c207, c208, c209, c210, c211, c212, c213, c214, c215, c216, c217, c218, c219, c220, c221, c222], []⟩ w') :
  Code.wp Tryd.prog (rgn Tryd.f88 6) Q ⟨#[c0, .string s, c2, c3, c4, v, .int .i64 (k : Int), c7, c8, c9, c10, c11, c12, c13, c14, c15, c16, c17, c18, c19, c20, c21, c22, c23, c24, c25, c26, c27, c28, c29, c30, c31, c32, c33, c34, c35, c36, c37, c38, c39, c40, c41, c42, c43, c44, c45, c46, c47, c48, c49, c50, c51, c52, c53, c54, c55, c56, c57, c58, c59, c60, c61, c62, c63, c64, c65, c66, c67, c68, c69, c70, c71, c72, c73, c74, c75, c76, c77, c78, c79, c80, c81, c82, c83, c84, c85, c86, c87, c88, c89, c90, c91, c92, c93, c94, c95, c96, c97, c98, c99, c100, c101, c102, c103, c104, c105, c106, c107, c108, c109, c110, c111, c112, c113, c114, c115, c116, c117, c118, c119, c120, c121, c122, c123, c124, c125, c126, c127, c128, c129, c130, c131, c132, c133, c134, c135, c136, c137, c138, c139, c140, c141, c142, c143, c144, c145, c146, c147, c148, c149, c150, c151, c152, c153, c154, c155, c156, c157, c158, c159, c160, c161, c162, c163, c164, c165, c166, c167, c168, c169, c170, c171, c172, c173, c174, c175, c176, c177, c178, c179, c180, c181, c182, c183, c184, c185, c186, c187, c188, c189, c190, c191, c192, c193, c194, c195, c196, c197, c198, c199, c200, c201, c202, c203, c204, c205, c206, c207, c208, c209, c210, c211, c212, c213, c214, c215, c216, c217, c218, c219, c220, c221, c222], []⟩ w := by
  conv => arg 2; whnf
  have b0 : 4 * k < s.size := by omega
  have b1 : 4 * k + 1 < s.size := by omega
  have b2 : 4 * k + 2 < s.size := by omega
  have b3 : 4 * k + 3 < s.size := by omega
  have i0 : (0 : Int) ≤ (k : Int) := by omega
  have i1 : (k : Int) < 16 := by omega
  have x0 := fun wx => index_str wx s (4 * k) (4 * (k : Int)) (by omega) b0
  have x1 := fun wx => index_str wx s (4 * k + 1) (4 * (k : Int) + 1) (by omega) b1
  have x2 := fun wx => index_str wx s (4 * k + 2) (4 * (k : Int) + 2) (by omega) b2
  have x3 := fun wx => index_str wx s (4 * k + 3) (4 * (k : Int) + 3) (by omega) b3
  have l0 := bts_ok s (4 * k)
  have l1 := bts_ok s (4 * k + 1)
  have l2 := bts_ok s (4 * k + 2)
  have l3 := bts_ok s (4 * k + 3)
  have HB : Hid (Sha.be4 (bts s) k = (((bts s).getD (4 * k) 0 * 256 + (bts s).getD (4 * k + 1) 0) * 256 + (bts s).getD (4 * k + 2) 0) * 256 + (bts s).getD (4 * k + 3) 0) := rfl
  generalize (bts s).getD (4 * k) 0 = y0 at *
  generalize (bts s).getD (4 * k + 1) 0 = y1 at *
  generalize (bts s).getD (4 * k + 2) 0 = y2 at *
  generalize (bts s).getD (4 * k + 3) 0 = y3 at *
  clear b0 b1 b2 b3 hs
  refine wp_region_head (S := fun _ => True) (n := 30) (by kernel_rfl) (by kernel_rfl) (by kernel_rfl) (by simp) trivial ?_
  simp only [List.take_succ_cons, List.take_zero]
  repeat (go_big_quiet_step (fail))
  refine wpQuiet_nil ?_
  refine wpAnyH_val (i := 30) (v := .slice (some ⟨w.heap.size, 0, none⟩) 1 1) (w' := (w.alloc (.cells #[.int .i64 ((((y0 : Int) * 256 + y1) * 256 + y2) * 256 + y3)] 3)).drew) (by kernel_rfl) (by rfl) (by rfl) (by kernel_rfl) trivial ?_
  refine wpAnyH_app elem_int rfl Tryd.underlying32 (i := 31) (by kernel_rfl) (by rfl) (by rfl) (.tmp 27) (.tmp 57) (by rfl) base v xs (by rfl) ((hrow.alloc _).drewN 1) w.heap.size 1 1 [.int .i64 ((((y0 : Int) * 256 + y1) * 256 + y2) * 256 + y3)] (by rfl) rfl (by omega) ((Blk.new w 3 _).drewN 1) (by simp [Value.oneCell']) (by omega) (by omega) (by simp; omega) (w0 := w0) (B := base) (Below.drewN' (hbw.alloc hbase _) 1) (Nat.le_refl _) ?_
  intro g cap w' hrow' _ _ hb'
  refine ⟨trivial, ?_⟩
  refine wpAnyH_val (i := 32) (v := .slice (some ⟨g, 0, none⟩) (xs.length + 1) cap) (w' := w') (by kernel_rfl) (by rfl) (by rfl) (by kernel_rfl) trivial ?_
  refine wpAnyH_done (by kernel_rfl) ?_ _
  refine NoPanic.normal ?_
  simp only [Act.put]
  refine hQ _ _ _ _ _ _ _ _ _ _ _ _ _ _ _ _ _ _ _ _ _ _ _ _ _ _ _ _ _ _ _ _ _ _ (hrow'.eq ?_) hb'
  rw [HB.out]
  simp
end Go.Proofs.YtlhohmlpcgbliaaDoor
namespace Go.Proofs.YtlhohmlpcgbliaaDoor
set_option maxRecDepth 100000
open Go.RowKit
attribute [local go_sem ↓] Go.wp_at_zero Go.wp_at_succ

/-- These cells hold these values. -/
def Cells (l : List (Addr × Value)) (w : World) : Prop := ∀ p ∈ l, w.cell? p.1 = some p.2
theorem Cells.two {a b : Addr} {x y : Value} {w : World} (h1 : w.cell? a = some x) (h2 : w.cell? b = some y) : Cells [(a, x), (b, y)] w := by
  intro p hp
  simp at hp
  rcases hp with rfl | rfl <;> assumption
theorem Cells.get {l : List (Addr × Value)} {w : World} (h : Cells l w) (a : Addr) (x : Value) (hm : (a, x) ∈ l) : w.cell? a = some x := h _ hm

set_option maxRecDepth 100000 in
set_option maxHeartbeats 1000000 in
theorem blkR11_wp {c0 c1 c2 c3 c4 c7 c8 c11 c12 c13 c14 c15 c16 c17 c18 c19 c20 c21 c22 c23 c24 c25 c26 c27 c28 c29 c30 c31 c32 c33 c34 c35 c36 c37 c38 c39 c40 c41 c42 c43 c44 c45 c46 c47 c48 c49 c50 c51 c52 c53 c54 c55 c56 c57 c58 c59 c60 c61 c62 c63 c64 c65 c66 c67 c68 c69 c70 c71 c72 c73 c74 c75 c76 c77 c78 c79 c80 c81 c82 c83 c84 c85 c86 c87 c88 c89 c90 c91 c92 c93 c94 c95 c96 c97 c98 c99 c100 c101 c102 c103 c104 c105 c106 c107 c108 c109 c110 c111 c112 c113 c114 c115 c116 c117 c118 c119 c120 c121 c122 c123 c124 c125 c126 c127 c128 c129 c130 c131 c132 c133 c134 c135 c136 c137 c138 c139 c140 c141 c142 c143 c144 c145 c146 c147 c148 c149 c150 c151 c152 c153 c154 c155 c156 c157 c158 c159 c160 c161 c162 c163 c164 c165 c166 c167 c168 c169 c170 c171 c172 c173 c174 c175 c176 c177 c178 c179 c180 c181 c182 c183 c184 c185 c186 c187 c188 c189 c190 c191 c192 c193 c194 c195 c196 c197 c198 c199 c200 c201 c202 c203 c204 c205 c206 c207 c208 c209 c210 c211 c212 c213 c214 c215 c216 c217 c218 c219 c220 c221 c222 : Value} (g cap k x16 x7 p q base : Nat) (xs : List Value) (w w0 : World) (Q : Exit → Act → World → Prop) (hk : 16 ≤ k) (hk2 : k < 64) (hlx : xs.length = k) (l16 : x16 < 4294967296) (l7 : x7 < 4294967296) (lp : p < 4294967296) (lq : q < 4294967296)
  (hrow : Row w base 3 (.slice (some ⟨g, 0, none⟩) k cap) xs) (e16 : w.cell? ⟨g, k - 16, none⟩ = some (.int .i64 (x16 : Int))) (e7 : w.cell? ⟨g, k - 7, none⟩ = some (.int .i64 (x7 : Int))) (hbase : base ≤ w.heap.size) (hbw : Below base w0 w) (hg : g < w.heap.size)
  (hQ : ∀ (u85 u86 u87 u88 u89 u90 u91 u92 u93 u94 u95 u96 u97 u98 u99 u100 u101 u102 u103 : Value) (v' : Value) (w' : World), Row w' base 3 v' (xs ++ [.int .i64 (((x16 + p + x7 + q) % 4294967296 : Nat) : Int)]) → Below base w0 w' → Q .normal ⟨#[c0, c1, c2, c3, c4, v', .int .i64 (k : Int), c7, c8, .int .i64 (p : Int), .int .i64 (q : Int), c11, c12, c13, c14, c15, c16, c17, c18, c19, c20, c21, c22, c23, c24, c25, c26, c27, c28, c29, c30, c31, c32, c33, c34, c35, c36, c37, c38, c39, c40, c41, c42, c43, c44, c45, c46, c47, c48, c49, c50, c51, c52, c53, c54, c55, c56, c57, c58, c59, c60, c61, c62, c63, c64, c65, c66, c67, c68, c69, c70, c71, c72, c73, c74, c75, c76, c77, c78, c79, c80, c81, c82, c83, c84, u85, u86, u87, u88, u89, u90, u91, u92, u93, u94, u95, u96, u97, u98, u99, u100, u101, u102, u103, c104, c105, c106, c107, c108, c109, c110, c111, c112, c113, c114, c115, c116, c117, c118, c119, c120, c121, c122, c123, c124, c125, c126, c127, c128, c129, c130, c131, c132, c133, c134, c135, c136, c137, c138, c139, c140, c141, c142, c143, c144, c145, c146, c147, c148, c149, c150, c151, c152, c153, c154, c155, c156, c157, c158, c159, c160, c161, c162, c163, c164, c165, c166, c167, c168, c169, c170, c171, c172, c173, c174, c175, c176, c177, c178, c179, c180, c181, c182, c183, c184, c185, c186, c187, c188, c189, c190, c191, c192, c193, c194, c195, c196, c197, c198, c199, c200, c201, c202, c203, c204, c205, c206, c207, c208, c209, c210, c211, c212, c213, c214, c215, c216, c217, c218, c219, c220, c221, c222], []⟩ w') :
  Code.wp Tryd.prog (rgn Tryd.f88 11) Q ⟨#[c0, c1, c2, c3, c4, .slice (some ⟨g, 0, none⟩) k cap, .int .i64 (k : Int), c7, c8, .int .i64 (p : Int), .int .i64 (q : Int), c11, c12, c13, c14, c15, c16, c17, c18, c19, c20, c21, c22, c23, c24, c25, c26, c27, c28, c29, c30, c31, c32, c33, c34, c35, c36, c37, c38, c39, c40, c41, c42, c43, c44, c45, c46, c47, c48, c49, c50, c51, c52, c53, c54, c55, c56, c57, c58, c59, c60, c61, c62, c63, c64, c65, c66, c67, c68, c69, c70, c71, c72, c73, c74, c75, c76, c77, c78, c79, c80, c81, c82, c83, c84, c85, c86, c87, c88, c89, c90, c91, c92, c93, c94, c95, c96, c97, c98, c99, c100, c101, c102, c103, c104, c105, c106, c107, c108, c109, c110, c111, c112, c113, c114, c115, c116, c117, c118, c119, c120, c121, c122, c123, c124, c125, c126, c127, c128, c129, c130, c131, c132, c133, c134, c135, c136, c137, c138, c139, c140, c141, c142, c143, c144, c145, c146, c147, c148, c149, c150, c151, c152, c153, c154, c155, c156, c157, c158, c159, c160, c161, c162, c163, c164, c165, c166, c167, c168, c169, c170, c171, c172, c173, c174, c175, c176, c177, c178, c179, c180, c181, c182, c183, c184, c185, c186, c187, c188, c189, c190, c191, c192, c193, c194, c195, c196, c197, c198, c199, c200, c201, c202, c203, c204, c205, c206, c207, c208, c209, c210, c211, c212, c213, c214, c215, c216, c217, c218, c219, c220, c221, c222], []⟩ w := by
  conv => arg 2; whnf
  have i0 : (16 : Int) ≤ (k : Int) := by omega
  have i1 : (k : Int) < 64 := by omega
  have HV : Hid (((x16 : Int) + p + x7 + q) % 4294967296 = (((x16 + p + x7 + q) % 4294967296 : Nat) : Int)) := by show _ = _; omega
  refine wp_region_head (S := Cells [(⟨g, k - 16, none⟩, .int .i64 (x16 : Int)), (⟨g, k - 7, none⟩, .int .i64 (x7 : Int))]) (n := 17) (by kernel_rfl) (by kernel_rfl) (by kernel_rfl) (by simp) (Cells.two e16 e7) ?_
  simp only [List.take_succ_cons, List.take_zero]
  iterate 5 (refine wpQuiet_pure (by rfl) ?_; go_big_quiet_step (fail); refine wpQuiet_nil ?_; show wpQuiet _ _ _ _ _ _)
  refine wpQuiet_load (by rfl) 3 (.tmp 89) (by rfl) ⟨g, k - 16, none⟩ (.int .i64 (x16 : Int)) (by rfl) (fun w hw => load_int w _ _ _ (hw.get _ _ (by simp))) ?_
  simp only [Act.put, List.setIfInBounds_toArray, List.set_cons_succ, List.set_cons_zero]
  iterate 6 (refine wpQuiet_pure (by rfl) ?_; go_big_quiet_step (fail); refine wpQuiet_nil ?_; show wpQuiet _ _ _ _ _ _)
  refine wpQuiet_load (by rfl) 3 (.tmp 96) (by rfl) ⟨g, k - 7, none⟩ (.int .i64 (x7 : Int)) (by rfl) (fun w hw => load_int w _ _ _ (hw.get _ _ (by simp))) ?_
  simp only [Act.put, List.setIfInBounds_toArray, List.set_cons_succ, List.set_cons_zero]
  iterate 4 (refine wpQuiet_pure (by rfl) ?_; go_big_quiet_step (fail); refine wpQuiet_nil ?_; show wpQuiet _ _ _ _ _ _)
  refine wpQuiet_nil ?_
  refine wpAnyH_val (i := 17) (v := .slice (some ⟨w.heap.size, 0, none⟩) 1 1) (w' := (w.alloc (.cells #[.int .i64 (((x16 : Int) + p + x7 + q) % 4294967296)] 3)).drew) (by kernel_rfl) (by rfl) (by rfl) (by kernel_rfl) (Cells.two ((World.cell?_of_block (Below.heap_alloc _ _ _ hg)).trans e16) ((World.cell?_of_block (Below.heap_alloc _ _ _ hg)).trans e7)) ?_
  refine wpAnyH_app elem_int rfl Tryd.underlying32 (i := 18) (by kernel_rfl) (by rfl) (by rfl) (.tmp 85) (.tmp 102) (by rfl) base (.slice (some ⟨g, 0, none⟩) k cap) xs (by rfl) ((hrow.alloc _).drewN 1) w.heap.size 1 1 [.int .i64 (((x16 : Int) + p + x7 + q) % 4294967296)] (by rfl) rfl (by omega) ((Blk.new w 3 _).drewN 1) (by simp [Value.oneCell']) (by omega) (by omega) (by simp; omega) (w0 := w0) (B := base) (Below.drewN' (hbw.alloc hbase _) 1) (Nat.le_refl _) ?_
  intro g' cap' w' hrow' _ hkeep hb'
  have s16 : w'.cell? ⟨g, k - 16, none⟩ = some (.int .i64 (x16 : Int)) := (hkeep g cap (k - 16) (by rw [hlx]) (by omega)).trans ((World.cell?_of_block (Below.heap_alloc _ _ _ hg)).trans e16)
  have s7 : w'.cell? ⟨g, k - 7, none⟩ = some (.int .i64 (x7 : Int)) := (hkeep g cap (k - 7) (by rw [hlx]) (by omega)).trans ((World.cell?_of_block (Below.heap_alloc _ _ _ hg)).trans e7)
  refine ⟨Cells.two s16 s7, ?_⟩
  refine wpAnyH_val (i := 19) (v := .slice (some ⟨g', 0, none⟩) (xs.length + 1) cap') (w' := w') (by kernel_rfl) (by rfl) (by rfl) (by kernel_rfl) (Cells.two s16 s7) ?_
  refine wpAnyH_done (by kernel_rfl) ?_ _
  refine NoPanic.normal ?_
  simp only [Act.put]
  rw [HV.out] at hrow'
  exact hQ _ _ _ _ _ _ _ _ _ _ _ _ _ _ _ _ _ _ _ _ _ hrow' hb'
end Go.Proofs.YtlhohmlpcgbliaaDoor
namespace Go.Proofs.YtlhohmlpcgbliaaDoor
set_option maxRecDepth 100000
open Go.RowKit
attribute [local go_sem ↓] Go.wp_at_zero Go.wp_at_succ

theorem i64_xor_nat (a b : Nat) (ha : a < 4294967296) (hb : b < 4294967296) : bits .xor .i64 (a : Int) (b : Int) = ((a ^^^ b : Nat) : Int) := by
  have hx := Sha.xor_lt ha hb
  show IntKind.i64.wrap ((BitVec.ofInt 64 (a : Int) ^^^ BitVec.ofInt 64 (b : Int)).toNat : Int) = _
  rw [BitVec.toNat_xor, ofInt_u64 a (by omega), ofInt_u64 b (by omega), IntKind.wrap_i64]
  omega
theorem i64_and_nat (a b : Nat) (ha : a < 4294967296) (hb : b < 4294967296) : bits .and .i64 (a : Int) (b : Int) = ((a &&& b : Nat) : Int) := by
  have hx := Sha.and_lt (a := a) hb
  show IntKind.i64.wrap ((BitVec.ofInt 64 (a : Int) &&& BitVec.ofInt 64 (b : Int)).toNat : Int) = _
  rw [BitVec.toNat_and, ofInt_u64 a (by omega), ofInt_u64 b (by omega), IntKind.wrap_i64]
  omega
theorem ss0_ref (x : Nat) (hx : x < 4294967296) : bits .xor .i64 (bits .xor .i64 (Sha.rotr x 7 : Int) (Sha.rotr x 18 : Int)) ((x : Int) / 8) = (Sha.ss0 x : Int) := by
  have a1 := Sha.rotr_lt x 7 hx (by omega)
  have a2 := Sha.rotr_lt x 18 hx (by omega)
  have e : (x : Int) / 8 = ((x / 8 : Nat) : Int) := by simp
  rw [e, i64_xor_nat _ _ a1 a2, i64_xor_nat _ _ (Sha.xor_lt a1 a2) (by omega)]; rfl
theorem ss1_ref (x : Nat) (hx : x < 4294967296) : bits .xor .i64 (bits .xor .i64 (Sha.rotr x 17 : Int) (Sha.rotr x 19 : Int)) ((x : Int) / 1024) = (Sha.ss1 x : Int) := by
  have a1 := Sha.rotr_lt x 17 hx (by omega)
  have a2 := Sha.rotr_lt x 19 hx (by omega)
  have e : (x : Int) / 1024 = ((x / 1024 : Nat) : Int) := by simp
  rw [e, i64_xor_nat _ _ a1 a2, i64_xor_nat _ _ (Sha.xor_lt a1 a2) (by omega)]; rfl
theorem bs1_ref (x : Nat) (hx : x < 4294967296) : bits .xor .i64 (bits .xor .i64 (Sha.rotr x 6 : Int) (Sha.rotr x 11 : Int)) (Sha.rotr x 25 : Int) = (Sha.bs1 x : Int) := by
  have a1 := Sha.rotr_lt x 6 hx (by omega)
  have a2 := Sha.rotr_lt x 11 hx (by omega)
  have a3 := Sha.rotr_lt x 25 hx (by omega)
  rw [i64_xor_nat _ _ a1 a2, i64_xor_nat _ _ (Sha.xor_lt a1 a2) a3]; rfl
theorem bs0_ref (x : Nat) (hx : x < 4294967296) : bits .xor .i64 (bits .xor .i64 (Sha.rotr x 2 : Int) (Sha.rotr x 13 : Int)) (Sha.rotr x 22 : Int) = (Sha.bs0 x : Int) := by
  have a1 := Sha.rotr_lt x 2 hx (by omega)
  have a2 := Sha.rotr_lt x 13 hx (by omega)
  have a3 := Sha.rotr_lt x 22 hx (by omega)
  rw [i64_xor_nat _ _ a1 a2, i64_xor_nat _ _ (Sha.xor_lt a1 a2) a3]; rfl
theorem ch_ref (e f g : Nat) (he : e < 4294967296) (hf : f < 4294967296) (hg : g < 4294967296) :
    bits .xor .i64 (bits .and .i64 (e : Int) (f : Int)) (bits .and .i64 ((4294967295 - e : Nat) : Int) (g : Int)) = (Sha.ch e f g : Int) := by
  rw [i64_and_nat _ _ he hf, i64_and_nat _ _ (by omega) hg, i64_xor_nat _ _ (Sha.and_lt hf) (Sha.and_lt hg)]; rfl
theorem maj_ref (a b c : Nat) (ha : a < 4294967296) (hb : b < 4294967296) (hc : c < 4294967296) :
    bits .xor .i64 (bits .xor .i64 (bits .and .i64 (a : Int) (b : Int)) (bits .and .i64 (a : Int) (c : Int))) (bits .and .i64 (b : Int) (c : Int)) = (Sha.maj a b c : Int) := by
  rw [i64_and_nat _ _ ha hb, i64_and_nat _ _ ha hc, i64_and_nat _ _ hb hc, i64_xor_nat _ _ (Sha.and_lt hb) (Sha.and_lt hc), i64_xor_nat _ _ (Sha.xor_lt (Sha.and_lt hb) (Sha.and_lt hc)) (Sha.and_lt hc)]; rfl

set_option maxRecDepth 100000 in
set_option maxHeartbeats 2000000 in
theorem blkB0_wp {c0 c2 c3 c4 c7 c8 c9 c10 c11 c12 c13 c14 c15 c16 c17 c18 c19 c20 c21 c22 c23 c24 c25 c26 c27 c28 c29 c30 c31 c32 c33 c34 c35 c36 c37 c38 c39 c40 c41 c42 c43 c44 c45 c46 c47 c48 c49 c50 c51 c52 c53 c54 c55 c56 c57 c58 c59 c60 c61 c62 c63 c64 c65 c66 c67 c68 c69 c70 c71 c72 c73 c74 c75 c76 c77 c78 c79 c80 c81 c82 c83 c84 c85 c86 c87 c88 c89 c90 c91 c92 c93 c94 c95 c96 c97 c98 c99 c100 c101 c102 c103 c104 c105 c106 c107 c108 c109 c110 c111 c112 c113 c114 c115 c116 c117 c118 c119 c120 c121 c122 c123 c124 c125 c126 c127 c128 c129 c130 c131 c132 c133 c134 c135 c136 c137 c138 c139 c140 c141 c142 c143 c144 c145 c146 c147 c148 c149 c150 c151 c152 c153 c154 c155 c156 c157 c158 c159 c160 c161 c162 c163 c164 c165 c166 c167 c168 c169 c170 c171 c172 c173 c174 c175 c176 c177 c178 c179 c180 c181 c182 c183 c184 c185 c186 c187 c188 c189 c190 c191 c192 c193 c194 c195 c196 c197 c198 c199 c200 c201 c202 c203 c204 c205 c206 c207 c208 c209 c210 c211 c212 c213 c214 c215 c216 c217 c218 c219 c220 c221 c222 : Value} (s : ByteArray) (base : Nat) (w w0 : World) (Q : Exit → Act → World → Prop) (hs : s.size = 64) (hb0 : base ≤ w0.heap.size) (hbw : Below base w0 w)
  (hQ : ∀ (u6 u7 u8 u9 u10 u21 u22 u23 u24 u25 u26 u27 u28 u29 u30 u31 u32 u33 u34 u35 u36 u37 u38 u39 u40 u41 u42 u43 u44 u45 u46 u47 u48 u49 u50 u51 u52 u53 u54 u55 u56 u57 u58 u59 u60 u61 u62 u63 u64 u65 u66 u67 u68 u69 u70 u71 u72 u73 u74 u75 u76 u77 u78 u79 u80 u81 u82 u83 u84 u85 u86 u87 u88 u89 u90 u91 u92 u93 u94 u95 u96 u97 u98 u99 u100 u101 u102 u103 : Value) (v' : Value) (w' : World), Row w' base 3 v' (ints (Sha.sched (bts s) 64)) → Below base w0 w' → Q (.exit 0) ⟨#[c0, .string s, c2, c3, c4, v', u6, u7, u8, u9, u10, c11, c12, c13, c14, c15, c16, c17, c18, c19, c20, u21, u22, u23, u24, u25, u26, u27, u28, u29, u30, u31, u32, u33, u34, u35, u36, u37, u38, u39, u40, u41, u42, u43, u44, u45, u46, u47, u48, u49, u50, u51, u52, u53, u54, u55, u56, u57, u58, u59, u60, u61, u62, u63, u64, u65, u66, u67, u68, u69, u70, u71, u72, u73, u74, u75, u76, u77, u78, u79, u80, u81, u82, u83, u84, u85, u86, u87, u88, u89, u90, u91, u92, u93, u94, u95, u96, u97, u98, u99, u100, u101, u102, u103, c104, c105, c106, c107, c108, c109, c110, c111, c112, c113, c114, c115, c116, c117, c118, c119, c120, c121, c122, c123, c124, c125, c126, c127, c128, c129, c130, c131, c132, c133, c134, c135, c136, c137, c138, c139, c140, c141, c142, c143, c144, c145, c146, c147, c148, c149, c150, c151, c152, c153, c154, c155, c156, c157, c158, c159, c160, c161, c162, c163, c164, c165, c166, c167, c168, c169, c170, c171, c172, c173, c174, c175, c176, c177, c178, c179, c180, c181, c182, c183, c184, c185, c186, c187, c188, c189, c190, c191, c192, c193, c194, c195, c196, c197, c198, c199, c200, c201, c202, c203, c204, c205, c206, c207, c208, c209, c210, c211, c212, c213, c214, c215, c216, c217, c218, c219, c220, c221, c222], []⟩ w') :
  Code.wp Tryd.prog (blc Tryd.f88 0) Q ⟨#[c0, .string s, c2, c3, c4, .slice none 0 0, .int .i64 0, c7, c8, c9, c10, c11, c12, c13, c14, c15, c16, c17, c18, c19, c20, c21, c22, c23, c24, c25, c26, c27, c28, c29, c30, c31, c32, c33, c34, c35, c36, c37, c38, c39, c40, c41, c42, c43, c44, c45, c46, c47, c48, c49, c50, c51, c52, c53, c54, c55, c56, c57, c58, c59, c60, c61, c62, c63, c64, c65, c66, c67, c68, c69, c70, c71, c72, c73, c74, c75, c76, c77, c78, c79, c80, c81, c82, c83, c84, c85, c86, c87, c88, c89, c90, c91, c92, c93, c94, c95, c96, c97, c98, c99, c100, c101, c102, c103, c104, c105, c106, c107, c108, c109, c110, c111, c112, c113, c114, c115, c116, c117, c118, c119, c120, c121, c122, c123, c124, c125, c126, c127, c128, c129, c130, c131, c132, c133, c134, c135, c136, c137, c138, c139, c140, c141, c142, c143, c144, c145, c146, c147, c148, c149, c150, c151, c152, c153, c154, c155, c156, c157, c158, c159, c160, c161, c162, c163, c164, c165, c166, c167, c168, c169, c170, c171, c172, c173, c174, c175, c176, c177, c178, c179, c180, c181, c182, c183, c184, c185, c186, c187, c188, c189, c190, c191, c192, c193, c194, c195, c196, c197, c198, c199, c200, c201, c202, c203, c204, c205, c206, c207, c208, c209, c210, c211, c212, c213, c214, c215, c216, c217, c218, c219, c220, c221, c222], []⟩ w := by
  conv => arg 2; whnf
  try go_wp2
  go_loopw [5, 6] (fun v i wr => ∃ k : Nat, k ≤ 64 ∧ i = .int .i64 k ∧ Row wr base 3 v (ints (Sha.sched (bts s) k)) ∧ Below base w0 wr) (fun _ i _ => 64 - (intOf i).toNat)
  case atStart => exact ⟨0, by omega, rfl, World.ownsRow_nil _ _ _ _, hbw⟩
  case round =>
    obtain ⟨k, hk, rfl, hrow, hb⟩ := hrel
    have hbs : base ≤ wr.heap.size := Nat.le_trans hb0 hb.size
    have hbo := bts_ok s
    have hln : (ints (Sha.sched (bts s) k)).length = k := by rw [ints_length, Sha.sched_length]
    by_cases h64 : k < 64
    · by_cases h16 : k < 16
      · go_wp2_with fail
        refine blkR6_wp s _ (ints (Sha.sched (bts s) k)) k base _ w0 _ hs h16 hrow (by omega) hbs hb ?_
        intro u27 u28 u29 u30 u31 u32 u33 u34 u35 u36 u37 u38 u39 u40 u41 u42 u43 u44 u45 u46 u47 u48 u49 u50 u51 u52 u53 u54 u55 u56 u57 u58 v' w' hrow' hb'
        go_wp2_with fail
        refine ⟨⟨k + 1, by omega, by go_num, hrow'.eq ?_, hb'⟩, by simp [intOf]; omega⟩
        rw [Sha.sched, if_pos h16, ints_append]
        rfl
      · obtain ⟨g, cap, hv, hgb, hnc, hcm, hcell, hgl, hfz⟩ := hrow.form (by rw [hln]; omega)
        rw [hln] at hcell hnc hv
        subst hv
        have hc : ∀ j, j < k → wr.cell? ⟨g, j, none⟩ = some (.int .i64 (((Sha.sched (bts s) k).getD j 0 : Nat) : Int)) := fun j hj => by
          rw [hcell j hj, ints_get _ _ (by rw [Sha.sched_length]; exact hj)]
        have hl := Sha.sched_lt hbo k
        have e2 := hc (k - 2) (by omega)
        have e15 := hc (k - 15) (by omega)
        have e7 := hc (k - 7) (by omega)
        have e16 := hc (k - 16) (by omega)
        have l2 := hl (k - 2)
        have l15 := hl (k - 15)
        have l7 := hl (k - 7)
        have l16 := hl (k - 16)
        have HN : Hid (Sha.next (Sha.sched (bts s) k) k = ((Sha.sched (bts s) k).getD (k - 16) 0 + Sha.ss0 ((Sha.sched (bts s) k).getD (k - 15) 0) + (Sha.sched (bts s) k).getD (k - 7) 0 + Sha.ss1 ((Sha.sched (bts s) k).getD (k - 2) 0)) % 4294967296) := rfl
        generalize (Sha.sched (bts s) k).getD (k - 2) 0 = x2 at *
        generalize (Sha.sched (bts s) k).getD (k - 15) 0 = x15 at *
        generalize (Sha.sched (bts s) k).getD (k - 7) 0 = x7 at *
        generalize (Sha.sched (bts s) k).getD (k - 16) 0 = x16 at *
        have HR : Hid _ := hrow
        have HB : Hid _ := hb
        clear hc hl hcell hrow hb hQ hbw hfz
        have i16 : (16 : Int) ≤ (k : Int) := by omega
        go_wp2_with fail
        refine (turn_any x15 7 _ l15 (by simp [isTurn])).mono ?_
        rintro e w1 ⟨rfl, m1, rfl⟩
        go_wp2_with fail
        refine (turn_any x15 18 _ l15 (by simp [isTurn])).mono ?_
        rintro e w1 ⟨rfl, m2, rfl⟩
        go_wp2_with fail
        refine (turn_any x2 17 _ l2 (by simp [isTurn])).mono ?_
        rintro e w1 ⟨rfl, m3, rfl⟩
        go_wp2_with fail
        refine (turn_any x2 19 _ l2 (by simp [isTurn])).mono ?_
        rintro e w1 ⟨rfl, m4, rfl⟩
        go_wp2_with fail
        rw [ss0_ref x15 l15, ss1_ref x2 l2]
        refine blkR11_wp g cap k x16 x7 (Sha.ss0 x15) (Sha.ss1 x2) base (ints (Sha.sched (bts s) k)) _ w0 _ (by omega) h64 hln l16 l7 (Sha.ss0_lt _ l15) (Sha.ss1_lt _ l2) (Row.drewN (v := .slice (some ⟨g, 0, none⟩) k cap) HR.out _) e16 e7 hbs (Below.drewN' HB.out _) hgl ?_
        intro u85 u86 u87 u88 u89 u90 u91 u92 u93 u94 u95 u96 u97 u98 u99 u100 u101 u102 u103 v' w' hrow' hb'
        go_wp2_with fail
        refine ⟨⟨k + 1, by omega, by go_num, hrow'.eq ?_, hb'⟩, by simp [intOf]; omega⟩
        rw [Sha.sched, if_neg h16, ints_append, HN.out]
        rfl
    · have hk4 : k = 64 := by omega
      subst hk4
      go_wp2
      exact hQ _ _ _ _ _ _ _ _ _ _ _ _ _ _ _ _ _ _ _ _ _ _ _ _ _ _ _ _ _ _ _ _ _ _ _ _ _ _ _ _ _ _ _ _ _ _ _ _ _ _ _ _ _ _ _ _ _ _ _ _ _ _ _ _ _ _ _ _ _ _ _ _ _ _ _ _ _ _ _ _ _ _ _ _ _ _ _ _ _ _ hrow hb
end Go.Proofs.YtlhohmlpcgbliaaDoor
namespace Go.Proofs.YtlhohmlpcgbliaaDoor
set_option maxRecDepth 100000
open Go.RowKit

/-- The two texts of digits. -/
def keysL : List UInt8 := [52, 50, 56, 97, 50, 102, 57, 56, 55, 49, 51, 55, 52, 52, 57, 49, 98, 53, 99, 48, 102, 98, 99, 102, 101, 57, 98, 53, 100, 98, 97, 53, 51, 57, 53, 54, 99, 50, 53, 98, 53, 57, 102, 49, 49, 49, 102, 49, 57, 50, 51, 102, 56, 50, 97, 52, 97, 98, 49, 99, 53, 101, 100, 53, 100, 56, 48, 55, 97, 97, 57, 56, 49, 50, 56, 51, 53, 98, 48, 49, 50, 52, 51, 49, 56, 53, 98, 101, 53, 53, 48, 99, 55, 100, 99, 51, 55, 50, 98, 101, 53, 100, 55, 52, 56, 48, 100, 101, 98, 49, 102, 101, 57, 98, 100, 99, 48, 54, 97, 55, 99, 49, 57, 98, 102, 49, 55, 52, 101, 52, 57, 98, 54, 57, 99, 49, 101, 102, 98, 101, 52, 55, 56, 54, 48, 102, 99, 49, 57, 100, 99, 54, 50, 52, 48, 99, 97, 49, 99, 99, 50, 100, 101, 57, 50, 99, 54, 102, 52, 97, 55, 52, 56, 52, 97, 97, 53, 99, 98, 48, 97, 57, 100, 99, 55, 54, 102, 57, 56, 56, 100, 97, 57, 56, 51, 101, 53, 49, 53, 50, 97, 56, 51, 49, 99, 54, 54, 100, 98, 48, 48, 51, 50, 55, 99, 56, 98, 102, 53, 57, 55, 102, 99, 55, 99, 54, 101, 48, 48, 98, 102, 51, 100, 53, 97, 55, 57, 49, 52, 55, 48, 54, 99, 97, 54, 51, 53, 49, 49, 52, 50, 57, 50, 57, 54, 55, 50, 55, 98, 55, 48, 97, 56, 53, 50, 101, 49, 98, 50, 49, 51, 56, 52, 100, 50, 99, 54, 100, 102, 99, 53, 51, 51, 56, 48, 100, 49, 51, 54, 53, 48, 97, 55, 51, 53, 52, 55, 54, 54, 97, 48, 97, 98, 98, 56, 49, 99, 50, 99, 57, 50, 101, 57, 50, 55, 50, 50, 99, 56, 53, 97, 50, 98, 102, 101, 56, 97, 49, 97, 56, 49, 97, 54, 54, 52, 98, 99, 50, 52, 98, 56, 98, 55, 48, 99, 55, 54, 99, 53, 49, 97, 51, 100, 49, 57, 50, 101, 56, 49, 57, 100, 54, 57, 57, 48, 54, 50, 52, 102, 52, 48, 101, 51, 53, 56, 53, 49, 48, 54, 97, 97, 48, 55, 48, 49, 57, 97, 52, 99, 49, 49, 54, 49, 101, 51, 55, 54, 99, 48, 56, 50, 55, 52, 56, 55, 55, 52, 99, 51, 52, 98, 48, 98, 99, 98, 53, 51, 57, 49, 99, 48, 99, 98, 51, 52, 101, 100, 56, 97, 97, 52, 97, 53, 98, 57, 99, 99, 97, 52, 102, 54, 56, 50, 101, 54, 102, 102, 51, 55, 52, 56, 102, 56, 50, 101, 101, 55, 56, 97, 53, 54, 51, 54, 102, 56, 52, 99, 56, 55, 56, 49, 52, 56, 99, 99, 55, 48, 50, 48, 56, 57, 48, 98, 101, 102, 102, 102, 97, 97, 52, 53, 48, 54, 99, 101, 98, 98, 101, 102, 57, 97, 51, 102, 55, 99, 54, 55, 49, 55, 56, 102, 50]
def firstL : List UInt8 := [54, 97, 48, 57, 101, 54, 54, 55, 98, 98, 54, 55, 97, 101, 56, 53, 51, 99, 54, 101, 102, 51, 55, 50, 97, 53, 52, 102, 102, 53, 51, 97, 53, 49, 48, 101, 53, 50, 55, 102, 57, 98, 48, 53, 54, 56, 56, 99, 49, 102, 56, 51, 100, 57, 97, 98, 53, 98, 101, 48, 99, 100, 49, 57]
def keysB : ByteArray := ⟨keysL.toArray⟩
def firstB : ByteArray := ⟨firstL.toArray⟩
theorem keysB_size : keysB.size = 512 := by decide +kernel
theorem firstB_size : firstB.size = 64 := by decide +kernel
theorem isHex_of {s : ByteArray} (h : (bts s).all (fun c => (48 ≤ c && c ≤ 57) || (97 ≤ c && c ≤ 102)) = true) : isHex (bts s) := by
  intro i
  rw [List.getD_eq_getElem?_getD]
  cases hq : (bts s)[i]? with
  | none => simp
  | some x =>
    have := List.all_eq_true.1 h x (List.mem_of_getElem? hq)
    simpa using this
theorem keysB_hex : isHex (bts keysB) := isHex_of (by decide +kernel)
theorem firstB_hex : isHex (bts firstB) := isHex_of (by decide +kernel)
theorem keysB_val (k : Nat) (h : k < 64) : hexK (bts keysB) k 8 = Sha.keys.getD k 0 := by
  have : ∀ j : Fin 64, hexK (bts keysB) j.val 8 = Sha.keys.getD j.val 0 := by decide +kernel
  exact this ⟨k, h⟩
theorem firstB_val (k : Nat) (h : k < 8) : hexK (bts firstB) k 8 = Sha.init.list.getD k 0 := by
  have : ∀ j : Fin 8, hexK (bts firstB) j.val 8 = Sha.init.list.getD j.val 0 := by decide +kernel
  exact this ⟨k, h⟩
theorem word_keys (k : Nat) (w : World) (h : k < 64) (s : ByteArray) (hs : s = keysB) :
    Calls Tryd.prog 87 #[.string s, .int .i64 (k : Int)] w fun e w' => e = .returned (.int .i64 (Sha.keys.getD k 0 : Int)) ∧ w' = w := by
  subst hs
  rw [← keysB_val k h]
  exact word_any keysB k w (by rw [keysB_size]; omega) (by rw [keysB_size]; omega) keysB_hex
theorem word_first (k : Nat) (w : World) (h : k < 8) (s : ByteArray) (hs : s = firstB) :
    Calls Tryd.prog 87 #[.string s, .int .i64 (k : Int)] w fun e w' => e = .returned (.int .i64 (Sha.init.list.getD k 0 : Int)) ∧ w' = w := by
  subst hs
  rw [← firstB_val k h]
  exact word_any firstB k w (by rw [firstB_size]; omega) (by rw [firstB_size]; omega) firstB_hex

end Go.Proofs.YtlhohmlpcgbliaaDoor
namespace Go.Proofs.YtlhohmlpcgbliaaDoor
set_option maxRecDepth 100000
open Go.RowKit
attribute [local go_sem ↓] Go.wp_at_zero Go.wp_at_succ


set_option maxRecDepth 100000 in
set_option maxHeartbeats 1000000 in
theorem blkR18_wp {c0 c1 c2 c3 c4 c5 c6 c7 c8 c9 c10 c12 c13 c15 c16 c17 c18 c19 c20 c21 c22 c23 c24 c25 c26 c27 c28 c29 c30 c31 c32 c33 c34 c35 c36 c37 c38 c39 c40 c41 c42 c43 c44 c45 c46 c47 c48 c49 c50 c51 c52 c53 c54 c55 c56 c57 c58 c59 c60 c61 c62 c63 c64 c65 c66 c67 c68 c69 c70 c71 c72 c73 c74 c75 c76 c77 c78 c79 c80 c81 c82 c83 c84 c85 c86 c87 c88 c89 c90 c91 c92 c93 c94 c95 c96 c97 c98 c99 c100 c101 c102 c103 c104 c105 c106 c107 c108 c109 c110 c111 c112 c113 c114 c115 c116 c117 c118 c119 c120 c121 c122 c123 c124 c125 c126 c127 c128 c129 c130 c131 c132 c133 c134 c135 c136 c137 c138 c139 c140 c141 c142 c143 c144 c145 c146 c147 c148 c149 c150 c151 c152 c153 c154 c155 c156 c157 c158 c159 c160 c161 c162 c163 c164 c165 c166 c167 c168 c169 c170 c171 c172 c173 c174 c175 c176 c177 c178 c179 c180 c181 c182 c183 c184 c185 c186 c187 c188 c189 c190 c191 c192 c193 c194 c195 c196 c197 c198 c199 c200 c201 c202 c203 c204 c205 c206 c207 c208 c209 c210 c211 c212 c213 c214 c215 c216 c217 c218 c219 c220 c221 c222 : Value} (gv cv e f g : Nat) (w : World) (Q : Exit → Act → World → Prop) (he : e < 4294967296) (hf : f < 4294967296) (hg : g < 4294967296)
  (k5 : w.cell? ⟨gv, 5, none⟩ = some (.int .i64 (f : Int))) (k6 : w.cell? ⟨gv, 6, none⟩ = some (.int .i64 (g : Int)))
  (hQ : ∀ (u117 u118 u119 u120 u121 u122 u123 u124 u125 u126 u127 u128 : Value) (n : Nat), Q .normal ⟨#[c0, c1, c2, c3, c4, c5, c6, c7, c8, c9, c10, .slice (some ⟨gv, 0, none⟩) 8 cv, c12, c13, .int .i64 (e : Int), .int .i64 (Sha.ch e f g : Int), c16, c17, c18, c19, c20, c21, c22, c23, c24, c25, c26, c27, c28, c29, c30, c31, c32, c33, c34, c35, c36, c37, c38, c39, c40, c41, c42, c43, c44, c45, c46, c47, c48, c49, c50, c51, c52, c53, c54, c55, c56, c57, c58, c59, c60, c61, c62, c63, c64, c65, c66, c67, c68, c69, c70, c71, c72, c73, c74, c75, c76, c77, c78, c79, c80, c81, c82, c83, c84, c85, c86, c87, c88, c89, c90, c91, c92, c93, c94, c95, c96, c97, c98, c99, c100, c101, c102, c103, c104, c105, c106, c107, c108, c109, c110, c111, c112, c113, c114, c115, c116, u117, u118, u119, u120, u121, u122, u123, u124, u125, u126, u127, u128, c129, c130, c131, c132, c133, c134, c135, c136, c137, c138, c139, c140, c141, c142, c143, c144, c145, c146, c147, c148, c149, c150, c151, c152, c153, c154, c155, c156, c157, c158, c159, c160, c161, c162, c163, c164, c165, c166, c167, c168, c169, c170, c171, c172, c173, c174, c175, c176, c177, c178, c179, c180, c181, c182, c183, c184, c185, c186, c187, c188, c189, c190, c191, c192, c193, c194, c195, c196, c197, c198, c199, c200, c201, c202, c203, c204, c205, c206, c207, c208, c209, c210, c211, c212, c213, c214, c215, c216, c217, c218, c219, c220, c221, c222], []⟩ (w.drewN n)) :
  Code.wp Tryd.prog (rgn Tryd.f88 18) Q ⟨#[c0, c1, c2, c3, c4, c5, c6, c7, c8, c9, c10, .slice (some ⟨gv, 0, none⟩) 8 cv, c12, c13, .int .i64 (e : Int), c15, c16, c17, c18, c19, c20, c21, c22, c23, c24, c25, c26, c27, c28, c29, c30, c31, c32, c33, c34, c35, c36, c37, c38, c39, c40, c41, c42, c43, c44, c45, c46, c47, c48, c49, c50, c51, c52, c53, c54, c55, c56, c57, c58, c59, c60, c61, c62, c63, c64, c65, c66, c67, c68, c69, c70, c71, c72, c73, c74, c75, c76, c77, c78, c79, c80, c81, c82, c83, c84, c85, c86, c87, c88, c89, c90, c91, c92, c93, c94, c95, c96, c97, c98, c99, c100, c101, c102, c103, c104, c105, c106, c107, c108, c109, c110, c111, c112, c113, c114, c115, c116, c117, c118, c119, c120, c121, c122, c123, c124, c125, c126, c127, c128, c129, c130, c131, c132, c133, c134, c135, c136, c137, c138, c139, c140, c141, c142, c143, c144, c145, c146, c147, c148, c149, c150, c151, c152, c153, c154, c155, c156, c157, c158, c159, c160, c161, c162, c163, c164, c165, c166, c167, c168, c169, c170, c171, c172, c173, c174, c175, c176, c177, c178, c179, c180, c181, c182, c183, c184, c185, c186, c187, c188, c189, c190, c191, c192, c193, c194, c195, c196, c197, c198, c199, c200, c201, c202, c203, c204, c205, c206, c207, c208, c209, c210, c211, c212, c213, c214, c215, c216, c217, c218, c219, c220, c221, c222], []⟩ w := by
  conv => arg 2; whnf
  have HC := ch_ref e f g he hf hg
  go_quiet ((go_at_call 112; exact Calls.quiet_of_same (not_any _ _ he)))
  exact hQ _ _ _ _ _ _ _ _ _ _ _ _ _

set_option maxRecDepth 100000 in
set_option maxHeartbeats 1000000 in
theorem blkR19_wp {c0 c1 c2 c3 c4 c5 c6 c7 c8 c9 c10 c12 c14 c15 c16 c17 c18 c19 c20 c21 c22 c23 c24 c25 c26 c27 c28 c29 c30 c31 c32 c33 c34 c35 c36 c37 c38 c39 c40 c41 c42 c43 c44 c45 c46 c47 c48 c49 c50 c51 c52 c53 c54 c55 c56 c57 c58 c59 c60 c61 c62 c63 c64 c65 c66 c67 c68 c69 c70 c71 c72 c73 c74 c75 c76 c77 c78 c79 c80 c81 c82 c83 c84 c85 c86 c87 c88 c89 c90 c91 c92 c93 c94 c95 c96 c97 c98 c99 c100 c101 c102 c103 c104 c105 c106 c107 c108 c109 c110 c111 c112 c113 c114 c115 c116 c117 c118 c119 c120 c121 c122 c123 c124 c125 c126 c127 c128 c129 c130 c131 c132 c133 c134 c135 c136 c137 c138 c139 c140 c141 c142 c143 c144 c145 c146 c147 c148 c149 c150 c151 c152 c153 c154 c155 c156 c157 c158 c159 c160 c161 c162 c163 c164 c165 c166 c167 c168 c169 c170 c171 c172 c173 c174 c175 c176 c177 c178 c179 c180 c181 c182 c183 c184 c185 c186 c187 c188 c189 c190 c191 c192 c193 c194 c195 c196 c197 c198 c199 c200 c201 c202 c203 c204 c205 c206 c207 c208 c209 c210 c211 c212 c213 c214 c215 c216 c217 c218 c219 c220 c221 c222 : Value} (gv cv a b c : Nat) (w : World) (Q : Exit → Act → World → Prop) (ha : a < 4294967296) (hb : b < 4294967296) (hc : c < 4294967296)
  (k1 : w.cell? ⟨gv, 1, none⟩ = some (.int .i64 (b : Int))) (k2 : w.cell? ⟨gv, 2, none⟩ = some (.int .i64 (c : Int)))
  (hQ : ∀ (u129 u130 u131 u132 u133 u134 u135 u136 u137 u138 u139 u140 u141 u142 u143 u144 u145 u146 u147 : Value) (n : Nat), Q .normal ⟨#[c0, c1, c2, c3, c4, c5, c6, c7, c8, c9, c10, .slice (some ⟨gv, 0, none⟩) 8 cv, c12, .int .i64 (a : Int), c14, c15, .int .i64 (Sha.maj a b c : Int), c17, c18, c19, c20, c21, c22, c23, c24, c25, c26, c27, c28, c29, c30, c31, c32, c33, c34, c35, c36, c37, c38, c39, c40, c41, c42, c43, c44, c45, c46, c47, c48, c49, c50, c51, c52, c53, c54, c55, c56, c57, c58, c59, c60, c61, c62, c63, c64, c65, c66, c67, c68, c69, c70, c71, c72, c73, c74, c75, c76, c77, c78, c79, c80, c81, c82, c83, c84, c85, c86, c87, c88, c89, c90, c91, c92, c93, c94, c95, c96, c97, c98, c99, c100, c101, c102, c103, c104, c105, c106, c107, c108, c109, c110, c111, c112, c113, c114, c115, c116, c117, c118, c119, c120, c121, c122, c123, c124, c125, c126, c127, c128, u129, u130, u131, u132, u133, u134, u135, u136, u137, u138, u139, u140, u141, u142, u143, u144, u145, u146, u147, c148, c149, c150, c151, c152, c153, c154, c155, c156, c157, c158, c159, c160, c161, c162, c163, c164, c165, c166, c167, c168, c169, c170, c171, c172, c173, c174, c175, c176, c177, c178, c179, c180, c181, c182, c183, c184, c185, c186, c187, c188, c189, c190, c191, c192, c193, c194, c195, c196, c197, c198, c199, c200, c201, c202, c203, c204, c205, c206, c207, c208, c209, c210, c211, c212, c213, c214, c215, c216, c217, c218, c219, c220, c221, c222], []⟩ (w.drewN n)) :
  Code.wp Tryd.prog (rgn Tryd.f88 19) Q ⟨#[c0, c1, c2, c3, c4, c5, c6, c7, c8, c9, c10, .slice (some ⟨gv, 0, none⟩) 8 cv, c12, .int .i64 (a : Int), c14, c15, c16, c17, c18, c19, c20, c21, c22, c23, c24, c25, c26, c27, c28, c29, c30, c31, c32, c33, c34, c35, c36, c37, c38, c39, c40, c41, c42, c43, c44, c45, c46, c47, c48, c49, c50, c51, c52, c53, c54, c55, c56, c57, c58, c59, c60, c61, c62, c63, c64, c65, c66, c67, c68, c69, c70, c71, c72, c73, c74, c75, c76, c77, c78, c79, c80, c81, c82, c83, c84, c85, c86, c87, c88, c89, c90, c91, c92, c93, c94, c95, c96, c97, c98, c99, c100, c101, c102, c103, c104, c105, c106, c107, c108, c109, c110, c111, c112, c113, c114, c115, c116, c117, c118, c119, c120, c121, c122, c123, c124, c125, c126, c127, c128, c129, c130, c131, c132, c133, c134, c135, c136, c137, c138, c139, c140, c141, c142, c143, c144, c145, c146, c147, c148, c149, c150, c151, c152, c153, c154, c155, c156, c157, c158, c159, c160, c161, c162, c163, c164, c165, c166, c167, c168, c169, c170, c171, c172, c173, c174, c175, c176, c177, c178, c179, c180, c181, c182, c183, c184, c185, c186, c187, c188, c189, c190, c191, c192, c193, c194, c195, c196, c197, c198, c199, c200, c201, c202, c203, c204, c205, c206, c207, c208, c209, c210, c211, c212, c213, c214, c215, c216, c217, c218, c219, c220, c221, c222], []⟩ w := by
  conv => arg 2; whnf
  have HM := maj_ref a b c ha hb hc
  go_quiet (fail)
  exact hQ _ _ _ _ _ _ _ _ _ _ _ _ _ _ _ _ _ _ _ _

set_option maxRecDepth 100000 in
set_option maxHeartbeats 1000000 in
theorem blkR20_wp {c0 c1 c2 c3 c4 c6 c7 c8 c9 c10 c13 c16 c17 c18 c19 c20 c21 c22 c23 c24 c25 c26 c27 c28 c29 c30 c31 c32 c33 c34 c35 c36 c37 c38 c39 c40 c41 c42 c43 c44 c45 c46 c47 c48 c49 c50 c51 c52 c53 c54 c55 c56 c57 c58 c59 c60 c61 c62 c63 c64 c65 c66 c67 c68 c69 c70 c71 c72 c73 c74 c75 c76 c77 c78 c79 c80 c81 c82 c83 c84 c85 c86 c87 c88 c89 c90 c91 c92 c93 c94 c95 c96 c97 c98 c99 c100 c101 c102 c103 c104 c105 c106 c107 c108 c109 c110 c111 c112 c113 c114 c115 c116 c117 c118 c119 c120 c121 c122 c123 c124 c125 c126 c127 c128 c129 c130 c131 c132 c133 c134 c135 c136 c137 c138 c139 c140 c141 c142 c143 c144 c145 c146 c147 c148 c149 c150 c151 c152 c153 c154 c155 c156 c157 c158 c159 c160 c161 c162 c163 c164 c165 c166 c167 c168 c169 c170 c171 c172 c173 c174 c175 c176 c177 c178 c179 c180 c181 c182 c183 c184 c185 c186 c187 c188 c189 c190 c191 c192 c193 c194 c195 c196 c197 c198 c199 c200 c201 c202 c203 c204 c205 c206 c207 c208 c209 c210 c211 c212 c213 c214 c215 c216 c217 c218 c219 c220 c221 c222 : Value} (gv cv gw cw k e x h wk : Nat) (w : World) (Q : Exit → Act → World → Prop) (hk : k < 64) (he : e < 4294967296) (hx : x < 4294967296) (hh : h < 4294967296) (hwk : wk < 4294967296)
  (k7 : w.cell? ⟨gv, 7, none⟩ = some (.int .i64 (h : Int))) (kw : w.cell? ⟨gw, k, none⟩ = some (.int .i64 (wk : Int)))
  (hQ : ∀ (u148 u149 u150 u151 u152 u153 u154 u155 u156 u157 u158 u159 u160 u161 u162 u163 u164 u165 u166 u167 u168 u169 : Value) (n : Nat), Q .normal ⟨#[c0, c1, c2, c3, c4, .slice (some ⟨gw, 0, none⟩) 64 cw, c6, c7, c8, c9, c10, .slice (some ⟨gv, 0, none⟩) 8 cv, .int .i64 (k : Int), c13, .int .i64 (e : Int), .int .i64 (x : Int), c16, .int .i64 ((h + Sha.bs1 e + x + Sha.keys.getD k 0 + wk : Nat) : Int), c18, c19, c20, c21, c22, c23, c24, c25, c26, c27, c28, c29, c30, c31, c32, c33, c34, c35, c36, c37, c38, c39, c40, c41, c42, c43, c44, c45, c46, c47, c48, c49, c50, c51, c52, c53, c54, c55, c56, c57, c58, c59, c60, c61, c62, c63, c64, c65, c66, c67, c68, c69, c70, c71, c72, c73, c74, c75, c76, c77, c78, c79, c80, c81, c82, c83, c84, c85, c86, c87, c88, c89, c90, c91, c92, c93, c94, c95, c96, c97, c98, c99, c100, c101, c102, c103, c104, c105, c106, c107, c108, c109, c110, c111, c112, c113, c114, c115, c116, c117, c118, c119, c120, c121, c122, c123, c124, c125, c126, c127, c128, c129, c130, c131, c132, c133, c134, c135, c136, c137, c138, c139, c140, c141, c142, c143, c144, c145, c146, c147, u148, u149, u150, u151, u152, u153, u154, u155, u156, u157, u158, u159, u160, u161, u162, u163, u164, u165, u166, u167, u168, u169, c170, c171, c172, c173, c174, c175, c176, c177, c178, c179, c180, c181, c182, c183, c184, c185, c186, c187, c188, c189, c190, c191, c192, c193, c194, c195, c196, c197, c198, c199, c200, c201, c202, c203, c204, c205, c206, c207, c208, c209, c210, c211, c212, c213, c214, c215, c216, c217, c218, c219, c220, c221, c222], []⟩ (w.drewN n)) :
  Code.wp Tryd.prog (rgn Tryd.f88 20) Q ⟨#[c0, c1, c2, c3, c4, .slice (some ⟨gw, 0, none⟩) 64 cw, c6, c7, c8, c9, c10, .slice (some ⟨gv, 0, none⟩) 8 cv, .int .i64 (k : Int), c13, .int .i64 (e : Int), .int .i64 (x : Int), c16, c17, c18, c19, c20, c21, c22, c23, c24, c25, c26, c27, c28, c29, c30, c31, c32, c33, c34, c35, c36, c37, c38, c39, c40, c41, c42, c43, c44, c45, c46, c47, c48, c49, c50, c51, c52, c53, c54, c55, c56, c57, c58, c59, c60, c61, c62, c63, c64, c65, c66, c67, c68, c69, c70, c71, c72, c73, c74, c75, c76, c77, c78, c79, c80, c81, c82, c83, c84, c85, c86, c87, c88, c89, c90, c91, c92, c93, c94, c95, c96, c97, c98, c99, c100, c101, c102, c103, c104, c105, c106, c107, c108, c109, c110, c111, c112, c113, c114, c115, c116, c117, c118, c119, c120, c121, c122, c123, c124, c125, c126, c127, c128, c129, c130, c131, c132, c133, c134, c135, c136, c137, c138, c139, c140, c141, c142, c143, c144, c145, c146, c147, c148, c149, c150, c151, c152, c153, c154, c155, c156, c157, c158, c159, c160, c161, c162, c163, c164, c165, c166, c167, c168, c169, c170, c171, c172, c173, c174, c175, c176, c177, c178, c179, c180, c181, c182, c183, c184, c185, c186, c187, c188, c189, c190, c191, c192, c193, c194, c195, c196, c197, c198, c199, c200, c201, c202, c203, c204, c205, c206, c207, c208, c209, c210, c211, c212, c213, c214, c215, c216, c217, c218, c219, c220, c221, c222], []⟩ w := by
  conv => arg 2; whnf
  have HB := bs1_ref e he
  have lk := Sha.keys_lt k
  have lb := Sha.bs1_lt e he
  have i0 : (0 : Int) ≤ (k : Int) := by omega
  have i1 : (k : Int) < 64 := by omega
  have hwd := fun wx s hs => word_keys k wx hk s hs
  have HK : Hid (IntKind.i64.wrap (IntKind.i64.wrap (IntKind.i64.wrap (IntKind.i64.wrap ((h : Int) + (Sha.bs1 e : Int)) + (x : Int)) + (Sha.keys.getD k 0 : Int)) + (wk : Int)) = ((h + Sha.bs1 e + x + Sha.keys.getD k 0 + wk : Nat) : Int)) := by
    show _ = _
    generalize Sha.keys.getD k 0 = key at *
    generalize Sha.bs1 e = b1 at *
    rw [wr_id (z := (h : Int) + b1) (by omega) (by omega), wr_id (z := (h : Int) + b1 + x) (by omega) (by omega), wr_id (z := (h : Int) + b1 + x + key) (by omega) (by omega), wr_id (z := (h : Int) + b1 + x + key + wk) (by omega) (by omega)]
    omega
  generalize Sha.keys.getD k 0 = key at *
  go_quiet ((first | (go_at_call 111; exact Calls.quiet_of (turn_any _ _ _ he (by simp [isTurn]))) | (go_at_call 87; exact Calls.quiet_of_same (hwd _ _ (by kernel_rfl)))))
  rw [HK.out]
  exact hQ _ _ _ _ _ _ _ _ _ _ _ _ _ _ _ _ _ _ _ _ _ _ _

theorem Cells.of {l : List (Addr × Value)} {w : World} (h : ∀ p ∈ l, w.cell? p.1 = some p.2) : Cells l w := h
theorem Cells.alloc {l : List (Addr × Value)} {w : World} (h : Cells l w) (o : Obj) : Cells l ((w.alloc o).drewN 1) := by
  intro p hp
  have hc := h p hp
  rw [World.cell?_drewN, ← hc]
  exact World.cell?_of_block (Below.heap_alloc _ _ _ (World.block_lt_of_cell? _ _ hc))

set_option maxRecDepth 100000 in
set_option maxHeartbeats 1000000 in
theorem blkR22_wp {c0 c1 c2 c3 c4 c5 c6 c7 c8 c9 c10 c12 c15 c16 c19 c20 c21 c22 c23 c24 c25 c26 c27 c28 c29 c30 c31 c32 c33 c34 c35 c36 c37 c38 c39 c40 c41 c42 c43 c44 c45 c46 c47 c48 c49 c50 c51 c52 c53 c54 c55 c56 c57 c58 c59 c60 c61 c62 c63 c64 c65 c66 c67 c68 c69 c70 c71 c72 c73 c74 c75 c76 c77 c78 c79 c80 c81 c82 c83 c84 c85 c86 c87 c88 c89 c90 c91 c92 c93 c94 c95 c96 c97 c98 c99 c100 c101 c102 c103 c104 c105 c106 c107 c108 c109 c110 c111 c112 c113 c114 c115 c116 c117 c118 c119 c120 c121 c122 c123 c124 c125 c126 c127 c128 c129 c130 c131 c132 c133 c134 c135 c136 c137 c138 c139 c140 c141 c142 c143 c144 c145 c146 c147 c148 c149 c150 c151 c152 c153 c154 c155 c156 c157 c158 c159 c160 c161 c162 c163 c164 c165 c166 c167 c168 c169 c170 c171 c172 c173 c174 c175 c176 c177 c178 c179 c180 c181 c182 c183 c184 c185 c186 c187 c188 c189 c190 c191 c192 c193 c194 c195 c196 c197 c198 c199 c200 c201 c202 c203 c204 c205 c206 c207 c208 c209 c210 c211 c212 c213 c214 c215 c216 c217 c218 c219 c220 c221 c222 : Value} (gv cv a b c d e f g t u : Nat) (w : World) (Q : Exit → Act → World → Prop) (ht : t < 4294967296000) (hu : u < 4294967296000) (hd : d < 4294967296)
  (hcs : Cells [(⟨gv, 1, none⟩, .int .i64 (b : Int)), (⟨gv, 2, none⟩, .int .i64 (c : Int)), (⟨gv, 3, none⟩, .int .i64 (d : Int)), (⟨gv, 5, none⟩, .int .i64 (f : Int)), (⟨gv, 6, none⟩, .int .i64 (g : Int))] w)
  (hQ : ∀ (u180 u181 u182 u183 u184 u185 u186 u187 u188 u189 u190 u191 u192 u193 u194 u195 u196 u197 u198 u199 u200 u201 u202 u203 u204 : Value), Q .normal ⟨#[c0, c1, c2, c3, c4, c5, c6, c7, c8, c9, c10, .slice (some ⟨w.heap.size, 0, none⟩) 8 8, c12, .int .i64 (a : Int), .int .i64 (e : Int), c15, c16, .int .i64 (t : Int), .int .i64 (u : Int), c19, c20, c21, c22, c23, c24, c25, c26, c27, c28, c29, c30, c31, c32, c33, c34, c35, c36, c37, c38, c39, c40, c41, c42, c43, c44, c45, c46, c47, c48, c49, c50, c51, c52, c53, c54, c55, c56, c57, c58, c59, c60, c61, c62, c63, c64, c65, c66, c67, c68, c69, c70, c71, c72, c73, c74, c75, c76, c77, c78, c79, c80, c81, c82, c83, c84, c85, c86, c87, c88, c89, c90, c91, c92, c93, c94, c95, c96, c97, c98, c99, c100, c101, c102, c103, c104, c105, c106, c107, c108, c109, c110, c111, c112, c113, c114, c115, c116, c117, c118, c119, c120, c121, c122, c123, c124, c125, c126, c127, c128, c129, c130, c131, c132, c133, c134, c135, c136, c137, c138, c139, c140, c141, c142, c143, c144, c145, c146, c147, c148, c149, c150, c151, c152, c153, c154, c155, c156, c157, c158, c159, c160, c161, c162, c163, c164, c165, c166, c167, c168, c169, c170, c171, c172, c173, c174, c175, c176, c177, c178, c179, u180, u181, u182, u183, u184, u185, u186, u187, u188, u189, u190, u191, u192, u193, u194, u195, u196, u197, u198, u199, u200, u201, u202, u203, u204, c205, c206, c207, c208, c209, c210, c211, c212, c213, c214, c215, c216, c217, c218, c219, c220, c221, c222], []⟩ ((w.alloc (.cells (ints [(t + u) % 4294967296, a, b, c, (d + t) % 4294967296, e, f, g]).toArray 3)).drewN 1)) :
  Code.wp Tryd.prog (rgn Tryd.f88 22) Q ⟨#[c0, c1, c2, c3, c4, c5, c6, c7, c8, c9, c10, .slice (some ⟨gv, 0, none⟩) 8 cv, c12, .int .i64 (a : Int), .int .i64 (e : Int), c15, c16, .int .i64 (t : Int), .int .i64 (u : Int), c19, c20, c21, c22, c23, c24, c25, c26, c27, c28, c29, c30, c31, c32, c33, c34, c35, c36, c37, c38, c39, c40, c41, c42, c43, c44, c45, c46, c47, c48, c49, c50, c51, c52, c53, c54, c55, c56, c57, c58, c59, c60, c61, c62, c63, c64, c65, c66, c67, c68, c69, c70, c71, c72, c73, c74, c75, c76, c77, c78, c79, c80, c81, c82, c83, c84, c85, c86, c87, c88, c89, c90, c91, c92, c93, c94, c95, c96, c97, c98, c99, c100, c101, c102, c103, c104, c105, c106, c107, c108, c109, c110, c111, c112, c113, c114, c115, c116, c117, c118, c119, c120, c121, c122, c123, c124, c125, c126, c127, c128, c129, c130, c131, c132, c133, c134, c135, c136, c137, c138, c139, c140, c141, c142, c143, c144, c145, c146, c147, c148, c149, c150, c151, c152, c153, c154, c155, c156, c157, c158, c159, c160, c161, c162, c163, c164, c165, c166, c167, c168, c169, c170, c171, c172, c173, c174, c175, c176, c177, c178, c179, c180, c181, c182, c183, c184, c185, c186, c187, c188, c189, c190, c191, c192, c193, c194, c195, c196, c197, c198, c199, c200, c201, c202, c203, c204, c205, c206, c207, c208, c209, c210, c211, c212, c213, c214, c215, c216, c217, c218, c219, c220, c221, c222], []⟩ w := by
  conv => arg 2; whnf
  refine wp_region_head (S := Cells [(⟨gv, 1, none⟩, .int .i64 (b : Int)), (⟨gv, 2, none⟩, .int .i64 (c : Int)), (⟨gv, 3, none⟩, .int .i64 (d : Int)), (⟨gv, 5, none⟩, .int .i64 (f : Int)), (⟨gv, 6, none⟩, .int .i64 (g : Int))]) (n := 24) (by kernel_rfl) (by kernel_rfl) (by kernel_rfl) (by simp) hcs ?_
  simp only [List.take_succ_cons, List.take_zero]
  iterate 7 (refine wpQuiet_pure (by rfl) ?_; go_big_quiet_step (fail); refine wpQuiet_nil ?_; show wpQuiet _ _ _ _ _ _)
  refine wpQuiet_load (by rfl) 3 (.tmp 186) (by rfl) ⟨gv, 1, none⟩ (.int .i64 (b : Int)) (by rfl) (fun w hw => load_int w _ _ _ (hw.get _ _ (by simp))) ?_
  simp only [Act.put, List.setIfInBounds_toArray, List.set_cons_succ, List.set_cons_zero]
  iterate 2 (refine wpQuiet_pure (by rfl) ?_; go_big_quiet_step (fail); refine wpQuiet_nil ?_; show wpQuiet _ _ _ _ _ _)
  refine wpQuiet_load (by rfl) 3 (.tmp 189) (by rfl) ⟨gv, 2, none⟩ (.int .i64 (c : Int)) (by rfl) (fun w hw => load_int w _ _ _ (hw.get _ _ (by simp))) ?_
  simp only [Act.put, List.setIfInBounds_toArray, List.set_cons_succ, List.set_cons_zero]
  iterate 2 (refine wpQuiet_pure (by rfl) ?_; go_big_quiet_step (fail); refine wpQuiet_nil ?_; show wpQuiet _ _ _ _ _ _)
  refine wpQuiet_load (by rfl) 3 (.tmp 192) (by rfl) ⟨gv, 3, none⟩ (.int .i64 (d : Int)) (by rfl) (fun w hw => load_int w _ _ _ (hw.get _ _ (by simp))) ?_
  simp only [Act.put, List.setIfInBounds_toArray, List.set_cons_succ, List.set_cons_zero]
  iterate 6 (refine wpQuiet_pure (by rfl) ?_; go_big_quiet_step (fail); refine wpQuiet_nil ?_; show wpQuiet _ _ _ _ _ _)
  refine wpQuiet_load (by rfl) 3 (.tmp 199) (by rfl) ⟨gv, 5, none⟩ (.int .i64 (f : Int)) (by rfl) (fun w hw => load_int w _ _ _ (hw.get _ _ (by simp))) ?_
  simp only [Act.put, List.setIfInBounds_toArray, List.set_cons_succ, List.set_cons_zero]
  iterate 2 (refine wpQuiet_pure (by rfl) ?_; go_big_quiet_step (fail); refine wpQuiet_nil ?_; show wpQuiet _ _ _ _ _ _)
  refine wpQuiet_load (by rfl) 3 (.tmp 202) (by rfl) ⟨gv, 6, none⟩ (.int .i64 (g : Int)) (by rfl) (fun w hw => load_int w _ _ _ (hw.get _ _ (by simp))) ?_
  simp only [Act.put, List.setIfInBounds_toArray, List.set_cons_succ, List.set_cons_zero]
  refine wpQuiet_nil ?_
  have e1 : ((t : Int) + u) % 4294967296 = (((t + u) % 4294967296 : Nat) : Int) := by omega
  have e2 : ((d : Int) + t) % 4294967296 = (((d + t) % 4294967296 : Nat) : Int) := by omega
  rw [e1, e2]
  refine wpAnyH_val (i := 24) (v := .slice (some ⟨w.heap.size, 0, none⟩) 8 8) (w' := (w.alloc (.cells (ints [(t + u) % 4294967296, a, b, c, (d + t) % 4294967296, e, f, g]).toArray 3)).drewN 1) (by kernel_rfl) (by rfl) (by rfl) (by kernel_rfl) (hcs.alloc _) ?_
  refine wpAnyH_val (i := 25) (v := .slice (some ⟨w.heap.size, 0, none⟩) 8 8) (w' := (w.alloc (.cells (ints [(t + u) % 4294967296, a, b, c, (d + t) % 4294967296, e, f, g]).toArray 3)).drewN 1) (by kernel_rfl) (by rfl) (by rfl) (by kernel_rfl) (hcs.alloc _) ?_
  refine wpAnyH_done (by kernel_rfl) ?_ _
  refine NoPanic.normal ?_
  simp only [Act.put]
  exact hQ _ _ _ _ _ _ _ _ _ _ _ _ _ _ _ _ _ _ _ _ _ _ _ _ _
end Go.Proofs.YtlhohmlpcgbliaaDoor
