import Derived.Test.YtlhohmlpcgbliabGreatDoorZD2
import Derived.StillTailTactics
namespace Go.Proofs.YtlhohmlpcgbliabGreatDoor
set_option maxRecDepth 100000
open Go.RowKit
attribute [local go_sem ↓] Go.wp_at_zero Go.wp_at_succ

theorem failL_snoc (keep : Int) (x : Nat × List Nat) (f : List (Nat × List Nat)) : ∀ (i : Nat) (l : List (List Nat)), failL keep i (f ++ [x]) l = if kept keep (i + f.length) then (failL keep i f l).set x.1 x.2 else failL keep i f l := by
  induction f with
  | nil => intro i l; simp [failL]
  | cons y r ih =>
    intro i l
    rw [List.cons_append, failL, ih, failL, List.length_cons, show i + 1 + r.length = i + (r.length + 1) by omega]
theorem putL_snoc (x : Nat × List Nat) (f : List (Nat × List Nat)) (l : List (List Nat)) : putL (f ++ [x]) l = (putL f l).set x.1 x.2 := by
  simp [putL, List.foldl_append]
/-- The disk when its i-th writes below k have been gone through. -/
def Dk.failK (D : Dk) (k : Nat) : Dk := { D with las := failL D.keep 0 (D.fre.take k) D.las, failed := true }
def Dk.putK (D : Dk) (k : Nat) : Dk := { D with las := putL (D.fre.take k) D.las }
theorem Dk.failK_succ {D : Dk} {k : Nat} {x : Nat × List Nat} (h : D.fre[k]? = some x) : D.failK (k + 1) = if kept D.keep k then { D.failK k with las := (D.failK k).las.set x.1 x.2 } else D.failK k := by
  have hlt := (List.getElem?_eq_some_iff.1 h).1
  have hx : D.fre[k] = x := (List.getElem?_eq_some_iff.1 h).2
  unfold Dk.failK
  rw [List.take_succ_eq_append_getElem hlt, failL_snoc, hx, Nat.zero_add, List.length_take, Nat.min_eq_left (by omega)]
  split <;> rfl
theorem Dk.putK_succ {D : Dk} {k : Nat} {x : Nat × List Nat} (h : D.fre[k]? = some x) : D.putK (k + 1) = { D.putK k with las := (D.putK k).las.set x.1 x.2 } := by
  have hlt := (List.getElem?_eq_some_iff.1 h).1
  have hx : D.fre[k] = x := (List.getElem?_eq_some_iff.1 h).2
  unfold Dk.putK
  rw [List.take_succ_eq_append_getElem hlt, putL_snoc, hx]
theorem Dk.failK_all (D : Dk) : { D.failK D.fre.length with fre := [] } = D.fail := by
  unfold Dk.failK Dk.fail
  rw [List.take_length]

theorem loadSec {w : World} {b o : Nat} {s : List Nat} (hr : w.rangeAt b o (u8s s)) (hs : s.length = 128) : (Instr.loadAt 89 (.pointer (some ⟨b, o, none⟩))).run Tryz.prog w = .ok (.agg (u8s s).toArray) w :=
  run_loadAt_mid w b o 89 (u8s s) _ hr Tryz.underlying89 rfl (by rw [u8s_length, hs]; exact infoSec)
theorem storeSec {w : World} {b o : Nat} {s : List Nat} (ht : w.there b o 128) (hs : s.length = 128) : (Instr.storeAt 89 (.pointer (some ⟨b, o, none⟩)) (.agg (u8s s).toArray)).run Tryz.prog w = .ok () (w.setCells b o (u8s s)) :=
  run_storeAt_mid w b o 89 (u8s s).toArray (by rw [List.size_toArray, u8s_length, hs]; exact ht) (by rw [List.size_toArray, u8s_length, hs]; exact infoSec) (all_oneCell_toArray (u8s_one _))
theorem Fr.drewN {b : Nat} {g g' : Option Nat} {w w' : World} (h : Fr b g g' w w') (n : Nat) : Fr b g g' w (w'.drewN n) := ⟨h.os, h.tape, h.output, h.size, h.block, h.own⟩
theorem stillLd {ops : Array Oper} {rest : List Oper} {op : Oper} {a : Act} {w : World} {Q : Act → Prop} (hgd : op.guard = none) (ty : TypeId) (x : Operand) (ho : op.op = .load ty x) (b o : Nat) (hx : a.eval x = .pointer (some ⟨b, o, none⟩)) (v : Value)
    (hr : (Instr.loadAt ty (.pointer (some ⟨b, o, none⟩))).run Tryz.prog w = .ok v w) (h : wpStill Tryz.prog ops w Q rest (a.put op.dst v)) : wpStill Tryz.prog ops w Q (op :: rest) a := by
  simp only [wpStill]
  rw [if_pos (by simp [Region.wanted, hgd])]
  unfold Oper.still execOp
  simp only [ho, hx, Sem.run_bind, hr, Result.andThen_ok, Sem.run_pure, Oper.stillUpon_value]
  exact h

set_option maxHeartbeats 1000000 in
theorem fail_any (b : Nat) (fv : Value) (D : Dk) (w : World) (h : DiskAt w b fv D) :
    Calls Tryz.prog 123 #[.pointer (some ⟨b, 0, none⟩)] w fun e w' => e = .returned (.tuple #[]) ∧ DiskAt w' b (.slice none 0 0) D.fail ∧ Fr b fv.ownBlock none w w' := by
  obtain ⟨p, cap, hfv⟩ := h.fv
  have c5 := h.cell 5
  simp only [List.getElem?_cons_succ, List.getElem?_cons_zero] at c5
  have f5 := h.blk.frozen (25600 + 5)
  have h1 : DiskAt (w.setCell ⟨b, 25600 + 5, none⟩ (.bool true)) b fv (D.failK 0) := h.put 5 _ fv _ ⟨h.ok.las, h.ok.sec, h.ok.fre, h.ok.few⟩ rfl rfl rfl rfl
  have r1 : Fr b fv.ownBlock fv.ownBlock w (w.setCell ⟨b, 25600 + 5, none⟩ (.bool true)) := Fr.setCell _ _ _ _ _ _ (.inr rfl)
  have c0 := h1.cell 0
  simp only [List.getElem?_cons_zero, Nat.add_zero] at c0
  rw [hfv] at c0
  have hfew := h.ok.few
  have HD : Hid (DiskAt w b fv D) := h
  have HF : Hid (fv = .slice p D.fre.length cap) := hfv
  clear h hfv
  simp only [Nat.reduceAdd] at *
  go_enter Tryz.func123, Tryz.ntmps123
  go_wp2_with fail
  go_loopw [12] (fun v wr => ∃ k : Nat, k ≤ D.fre.length ∧ v = .int .i64 (k : Int) ∧ DiskAt wr b fv (D.failK k) ∧ Fr b fv.ownBlock fv.ownBlock w wr) (fun v _ => D.fre.length - (intOf v).toNat)
  case atStart => exact ⟨0, by omega, rfl, h1, r1⟩
  case round =>
    obtain ⟨k, hk, rfl, hd, hr⟩ := hrel
    clear h1 r1 c0 c5 f5
    by_cases h8 : k < D.fre.length
    · obtain ⟨x, hx⟩ : ∃ x, D.fre[k]? = some x := ⟨_, List.getElem?_eq_getElem h8⟩
      obtain ⟨g, cap', e, hg, hgb, hr0⟩ := hd.fresh (by show 0 < D.fre.length; omega)
      rw [HF.out] at e
      injection e with e1 e2 e3
      subst e1 e3
      clear e2
      have hxs := HD.out.ok.fre x (List.mem_of_getElem? hx)
      have hx2 := hxs.2.len
      have hr0 := hr0 k x hx
      have HX : Hid (D.fre[k]? = some x) := hx
      have HS := Dk.failK_succ hx
      have HS' : Hid (D.failK (k + 1) = if kept D.keep k then { D.failK k with las := (D.failK k).las.set x.1 x.2 } else D.failK k) := HS
      clear hx HS
      obtain ⟨n, s⟩ := x
      simp only at hxs hr0 hx2 HS'
      have hB2 : Blk (wr.alloc (.cells Tryz.zeroCells141 141)) wr.heap.size 141 Tryz.zeroCells141.toList := Blk.newA wr _ _
      have hzw : Tryz.zeroCells141.toList.length = 129 := by rw [Array.length_toList]; exact Tryz.zeroCells141_size
      have hth := hB2.there 0 129 (by omega)
      have hB3 := hB2.fill (.int .i64 (n : Int) :: u8s s) (by simp [hx2, hzw])
      have hbb : Below wr.heap.size wr ((wr.alloc (.cells Tryz.zeroCells141 141)).setCells wr.heap.size 0 (.int .i64 (n : Int) :: u8s s)) := Below.setCells ((Below.refl _ _).alloc (Nat.le_refl _) _) _ _ (Nat.le_refl _) _
      have hd2 := hd.below hbb
      have r2 := hr.trans (Fr.of_below hbb)
      clear hB2 hzw
      have c1 : ((wr.alloc (.cells Tryz.zeroCells141 141)).setCells wr.heap.size 0 (.int .i64 (n : Int) :: u8s s)).cell? ⟨wr.heap.size, 0, none⟩ = some (.int .i64 (n : Int)) := by rw [hB3.cell]; rfl
      have hrs : ((wr.alloc (.cells Tryz.zeroCells141 141)).setCells wr.heap.size 0 (.int .i64 (n : Int) :: u8s s)).rangeAt wr.heap.size 1 (u8s s) := fun j v hv => by rw [hB3.cell, Nat.add_comm, List.getElem?_cons_succ]; exact hv
      have c4 := hd2.cell 4
      simp only [List.getElem?_cons_succ, List.getElem?_cons_zero, Nat.reduceAdd] at c4
      have e4 : (D.failK k).keep = D.keep := rfl
      rw [e4] at c4
      have hth3 := hd2.blk.there (n * 128) 128 (by rw [hd2.ok.cells_len]; omega)
      have hn : n < 200 := hxs.1
      have hn' : (n : Int) < 200 := by omega
      by_cases hkp : kept D.keep k = true
      · rw [hkp, if_pos rfl] at HS'
        simp only [kept, Bool.and_eq_true, decide_eq_true_eq] at hkp
        obtain ⟨h63, hbit⟩ := hkp
        have h63' : (k : Int) < 63 := by omega
        go_wp2_with (first | ((with_reducible refine ldWr ?_ (.tmp 15) ?_ g (k * 129) ?_ n s hr0 hx2 ?_); rfl; rfl; rfl) | ((with_reducible refine stWr ?_ (.tmp 3) (.tmp 16) ?_ wr.heap.size 0 n s ?_ ?_ hth hx2 ?_); rfl; rfl; rfl; rfl))
        generalize ((wr.alloc (.cells Tryz.zeroCells141 141)).setCells wr.heap.size 0 (.int .i64 (n : Int) :: u8s s)) = w2 at *
        have hd3 := (hd2.drewN 1).putSec n hn s hxs.2
        have r3 := (r2.drewN 1).trans (Fr.setCells b fv.ownBlock (u8s s) (w2.drewN 1) (n * 128))
        refine wp_region_still_tail 8 (by kernel_rfl) (by kernel_rfl) ?_
        simp only [List.take_succ_cons, List.take_zero, List.drop_succ_cons, List.drop_zero]
        repeat still_step
        refine stillLd (by rfl) 89 (.tmp 33) (by rfl) wr.heap.size 1 (by rfl) (.agg (u8s s).toArray) (loadSec hrs hx2) ?_
        repeat still_step
        refine wpStill_nil ?_
        refine stSec (by rfl) (.tmp 37) (.tmp 34) (by rfl) b (n * 128) s (by rfl) (by rfl) hth3 hx2 ?_
        have hw3 : ({ w2 with drawn := w2.drawn + 1 } : World).setCells b (n * 128) (u8s s) = (w2.drewN 1).setCells b (n * 128) (u8s s) := rfl
        rw [hw3]
        generalize (w2.drewN 1).setCells b (n * 128) (u8s s) = w3 at *
        go_wp2
        go_roundw
        case rel => exact ⟨k + 1, by omega, by go_num, by rw [HS'.out]; exact hd3, r3⟩
        case measure => simp [intOf]; omega
      · rw [if_neg hkp] at HS'
        by_cases h63 : k < 63
        · have h63' : (k : Int) < 63 := by omega
          have hbit : (bits .and .i64 (D.keep / 2 ^ k) 1 == 1) = false := by simpa [kept, h63] using hkp
          go_wp2_with (first | ((with_reducible refine ldWr ?_ (.tmp 15) ?_ g (k * 129) ?_ n s hr0 hx2 ?_); rfl; rfl; rfl) | ((with_reducible refine stWr ?_ (.tmp 3) (.tmp 16) ?_ wr.heap.size 0 n s ?_ ?_ hth hx2 ?_); rfl; rfl; rfl; rfl))
          go_roundw
          case rel => exact ⟨k + 1, by omega, by go_num, by rw [HS'.out]; exact hd2, r2⟩
          case measure => simp [intOf]; omega
        · have h63' : ¬ (k : Int) < 63 := by omega
          go_wp2_with (first | ((with_reducible refine ldWr ?_ (.tmp 15) ?_ g (k * 129) ?_ n s hr0 hx2 ?_); rfl; rfl; rfl) | ((with_reducible refine stWr ?_ (.tmp 3) (.tmp 16) ?_ wr.heap.size 0 n s ?_ ?_ hth hx2 ?_); rfl; rfl; rfl; rfl))
          go_roundw
          case rel => exact ⟨k + 1, by omega, by go_num, by rw [HS'.out]; exact hd2, r2⟩
          case measure => simp [intOf]; omega
    · have hk8 : k = D.fre.length := by omega
      subst hk8
      have hd3 := hd.empty
      have r3 := hr.trans (Fr.setCell b fv.ownBlock none wr 25600 (.slice none 0 0) (.inl rfl))
      rw [Dk.failK_all] at hd3
      have c0 := hd.cell 0
      have f0 := hd.blk.frozen 25600
      simp only [List.getElem?_cons_zero, Nat.add_zero] at c0
      go_wp2
      go_end0
      exact ⟨rfl, hd3, r3⟩
end Go.Proofs.YtlhohmlpcgbliabGreatDoor
namespace Go.Proofs.YtlhohmlpcgbliabGreatDoor
set_option maxRecDepth 100000
open Go.RowKit
attribute [local go_sem ↓] Go.wp_at_zero Go.wp_at_succ

theorem Dk.ok.ticked {D : Dk} (h : D.ok) (l a : Int) : ({ D with left := l, acts := a } : Dk).ok := ⟨h.las, h.sec, h.fre, h.few⟩

set_option maxHeartbeats 1000000 in
theorem act_any (b : Nat) (fv : Value) (D : Dk) (w : World) (h : DiskAt w b fv D) :
    Calls Tryz.prog 106 #[.pointer (some ⟨b, 0, none⟩)] w fun e w' => e = .returned (.bool D.goes) ∧ ∃ fv', DiskAt w' b fv' D.act ∧ Fr b fv.ownBlock fv'.ownBlock w w' := by
  have c1 := h.cell 1
  have c2 := h.cell 2
  have c3 := h.cell 3
  have c5 := h.cell 5
  simp only [List.getElem?_cons_succ, List.getElem?_cons_zero, Nat.reduceAdd] at c1 c2 c3 c5
  by_cases ht : D.trips = true
  · have HG : Hid (D.goes = false ∧ D.act = D.fail) := by
      have e : D.trip = D.fail := by simp [Dk.trip, ht]
      have e2 : D.fail.failed = true := rfl
      refine ⟨by simp [Dk.goes, e, e2], by simp [Dk.act, e, e2]⟩
    simp only [Dk.trips, Bool.and_eq_true, beq_iff_eq, Bool.not_eq_true'] at ht
    obtain ⟨h1, h2, h3⟩ := ht
    rw [h1] at c2
    rw [h2] at c3
    rw [h3] at c5
    have hf := fail_any b fv D w h
    go_enter Tryz.func106, Tryz.ntmps106
    go_wp2_with fail
    refine hf.mono ?_
    rintro e w1 ⟨rfl, hd1, r1⟩
    have d5 := hd1.cell 5
    have e5 : D.fail.failed = true := rfl
    simp only [List.getElem?_cons_succ, List.getElem?_cons_zero, Nat.reduceAdd, e5] at d5
    clear c1 c2 c3 c5 h1 h2 h3 e5
    go_wp2
    go_ret
    exact ⟨by rw [HG.out.1]; rfl, .slice none 0 0, by rw [HG.out.2]; exact hd1, r1⟩
  · have e0 : D.trip = D := by simp [Dk.trip, ht]
    by_cases hfl : D.failed = true
    · have HG : Hid (D.goes = false ∧ D.act = D) := ⟨by simp [Dk.goes, e0, hfl], by simp [Dk.act, e0, hfl]⟩
      rw [hfl] at c5
      have HD : Hid (DiskAt w b fv D) := h
      clear h ht e0 hfl c1
      generalize D.set = st at *
      generalize D.left = lf at *
      go_enter Tryz.func106, Tryz.ntmps106
      cases st <;> by_cases hz : lf = 0
      all_goals
        (try subst hz)
        go_wp2
        go_ret
        exact ⟨by rw [HG.out.1]; rfl, _, by rw [HG.out.2]; exact HD.out, Fr.refl _ _ _⟩
    · have hfl' : D.failed = false := by simpa using hfl
      have HG : Hid (D.goes = true ∧ D.act = D.tick) := ⟨by simp [Dk.goes, e0, hfl'], by simp [Dk.act, e0, hfl']⟩
      have hno : D.set = false ∨ (D.set = true ∧ ¬ D.left = 0) := by
        cases hs : D.set
        · exact .inl rfl
        · refine .inr ⟨rfl, fun hl => ht ?_⟩
          simp [Dk.trips, hs, hl, hfl']
      rw [hfl'] at c5
      have hd1 : DiskAt (w.setCell ⟨b, 25600 + 3, none⟩ (.int .i64 (wrap64 (D.left - 1)))) b fv { D with left := wrap64 (D.left - 1) } := h.put 3 _ fv _ (h.ok.ticked _ _) rfl rfl rfl rfl
      have hd2 : DiskAt ((w.setCell ⟨b, 25600 + 3, none⟩ (.int .i64 (wrap64 (D.left - 1)))).setCell ⟨b, 25600 + 1, none⟩ (.int .i64 (wrap64 (D.acts + 1)))) b fv D.tick := hd1.put 1 _ fv _ (h.ok.tick) rfl rfl rfl rfl
      have r2 : Fr b fv.ownBlock fv.ownBlock w ((w.setCell ⟨b, 25600 + 3, none⟩ (.int .i64 (wrap64 (D.left - 1)))).setCell ⟨b, 25600 + 1, none⟩ (.int .i64 (wrap64 (D.acts + 1)))) :=
        (Fr.setCell b _ fv.ownBlock w _ _ (.inr rfl)).trans (Fr.setCell b _ fv.ownBlock _ _ _ (.inr rfl))
      have f3 := h.blk.frozen 25603
      have d1 := hd1.cell 1
      have g1 := hd1.blk.frozen 25601
      simp only [List.getElem?_cons_succ, List.getElem?_cons_zero, Nat.reduceAdd] at d1 hd2 r2 g1
      clear h hd1 ht e0 hfl hfl' c1
      generalize D.set = st at *
      go_enter Tryz.func106, Tryz.ntmps106
      rcases hno with rfl | ⟨rfl, hz⟩
      · go_wp2
        go_ret
        exact ⟨by rw [HG.out.1]; rfl, _, by rw [HG.out.2]; exact hd2, r2⟩
      · go_wp2
        go_ret
        exact ⟨by rw [HG.out.1]; rfl, _, by rw [HG.out.2]; exact hd2, r2⟩
end Go.Proofs.YtlhohmlpcgbliabGreatDoor
namespace Go.Proofs.YtlhohmlpcgbliabGreatDoor
set_option maxRecDepth 100000
open Go.RowKit
attribute [local go_sem ↓] Go.wp_at_zero Go.wp_at_succ

theorem Dk.putK_zero (D : Dk) : D.putK 0 = D := by simp [Dk.putK, putL]
theorem Dk.putK_all (D : Dk) : { D.putK D.fre.length with fre := [] } = { D with las := putL D.fre D.las, fre := [] } := by
  unfold Dk.putK
  rw [List.take_length]

set_option maxHeartbeats 1000000 in
theorem flush_any (b : Nat) (fv : Value) (D : Dk) (w : World) (h : DiskAt w b fv D) :
    Calls Tryz.prog 87 #[.pointer (some ⟨b, 0, none⟩)] w fun e w' => e = .returned (.tuple #[]) ∧ ∃ fv', DiskAt w' b fv' D.flush ∧ Fr b fv.ownBlock fv'.ownBlock w w' := by
  have ha := act_any b fv D w h
  by_cases hg : D.goes = true
  · rw [hg] at ha
    have HG : Hid (D.flush = { D.act with las := putL D.act.fre D.act.las, fre := [] }) := by
      show _ = _
      simp [Dk.flush, hg]
    clear h hg
    go_enter Tryz.func87, Tryz.ntmps87
    go_wp2_with fail
    refine ha.mono ?_
    rintro e w1 ⟨rfl, fv1, h1, r1⟩
    clear ha
    generalize D.act = E at *
    obtain ⟨p, cap, hfv⟩ := h1.fv
    have c0 := h1.cell 0
    simp only [List.getElem?_cons_zero, Nat.add_zero] at c0
    rw [hfv] at c0
    have hfew := h1.ok.few
    have HD : Hid (DiskAt w1 b fv1 E) := h1
    have HF : Hid (fv1 = .slice p E.fre.length cap) := hfv
    have HR : Hid (Fr b fv.ownBlock fv1.ownBlock w w1) := r1
    clear h1 hfv r1
    go_wp2_with fail
    go_loopw [11] (fun v wr => ∃ k : Nat, k ≤ E.fre.length ∧ v = .int .i64 (k : Int) ∧ DiskAt wr b fv1 (E.putK k) ∧ Fr b fv1.ownBlock fv1.ownBlock w1 wr) (fun v _ => E.fre.length - (intOf v).toNat)
    case atStart => exact ⟨0, by omega, rfl, by rw [Dk.putK_zero]; exact HD.out, Fr.refl _ _ _⟩
    case round =>
      obtain ⟨k, hk, rfl, hd, hr⟩ := hrel
      clear c0
      by_cases h8 : k < E.fre.length
      · obtain ⟨x, hx⟩ : ∃ x, E.fre[k]? = some x := ⟨_, List.getElem?_eq_getElem h8⟩
        obtain ⟨g, cap', e, hg, hgb, hr0⟩ := hd.fresh (by show 0 < E.fre.length; omega)
        rw [HF.out] at e
        injection e with e1 e2 e3
        subst e1 e3
        clear e2
        have hxs := HD.out.ok.fre x (List.mem_of_getElem? hx)
        have hx2 := hxs.2.len
        have hr0 := hr0 k x hx
        have HS' : Hid (E.putK (k + 1) = { E.putK k with las := (E.putK k).las.set x.1 x.2 }) := Dk.putK_succ hx
        clear hx
        obtain ⟨n, s⟩ := x
        simp only at hxs hr0 hx2 HS'
        have hB2 : Blk (wr.alloc (.cells Tryz.zeroCells141 141)) wr.heap.size 141 Tryz.zeroCells141.toList := Blk.newA wr _ _
        have hzw : Tryz.zeroCells141.toList.length = 129 := by rw [Array.length_toList]; exact Tryz.zeroCells141_size
        have hth := hB2.there 0 129 (by omega)
        have hB3 := hB2.fill (.int .i64 (n : Int) :: u8s s) (by simp [hx2, hzw])
        have hbb : Below wr.heap.size wr ((wr.alloc (.cells Tryz.zeroCells141 141)).setCells wr.heap.size 0 (.int .i64 (n : Int) :: u8s s)) := Below.setCells ((Below.refl _ _).alloc (Nat.le_refl _) _) _ _ (Nat.le_refl _) _
        have hd2 := hd.below hbb
        have r2 := hr.trans (Fr.of_below hbb)
        clear hB2 hzw
        have c1 : ((wr.alloc (.cells Tryz.zeroCells141 141)).setCells wr.heap.size 0 (.int .i64 (n : Int) :: u8s s)).cell? ⟨wr.heap.size, 0, none⟩ = some (.int .i64 (n : Int)) := by rw [hB3.cell]; rfl
        have hrs : ((wr.alloc (.cells Tryz.zeroCells141 141)).setCells wr.heap.size 0 (.int .i64 (n : Int) :: u8s s)).rangeAt wr.heap.size 1 (u8s s) := fun j v hv => by rw [hB3.cell, Nat.add_comm, List.getElem?_cons_succ]; exact hv
        have hth3 := hd2.blk.there (n * 128) 128 (by rw [hd2.ok.cells_len]; omega)
        have hn : n < 200 := hxs.1
        have hn' : (n : Int) < 200 := by omega
        go_wp2_with (first | ((with_reducible refine ldWr ?_ (.tmp 13) ?_ g (k * 129) ?_ n s hr0 hx2 ?_); rfl; rfl; rfl) | ((with_reducible refine stWr ?_ (.tmp 3) (.tmp 14) ?_ wr.heap.size 0 n s ?_ ?_ hth hx2 ?_); rfl; rfl; rfl; rfl))
        generalize ((wr.alloc (.cells Tryz.zeroCells141 141)).setCells wr.heap.size 0 (.int .i64 (n : Int) :: u8s s)) = w2 at *
        have hd3 := (hd2.drewN 1).putSec n hn s hxs.2
        have r3 := (r2.drewN 1).trans (Fr.setCells b fv1.ownBlock (u8s s) (w2.drewN 1) (n * 128))
        refine wp_region_still_tail 8 (by kernel_rfl) (by kernel_rfl) ?_
        simp only [List.take_succ_cons, List.take_zero, List.drop_succ_cons, List.drop_zero]
        repeat still_step
        refine stillLd (by rfl) 89 (.tmp 18) (by rfl) wr.heap.size 1 (by rfl) (.agg (u8s s).toArray) (loadSec hrs hx2) ?_
        repeat still_step
        refine wpStill_nil ?_
        refine stSec (by rfl) (.tmp 22) (.tmp 19) (by rfl) b (n * 128) s (by rfl) (by rfl) hth3 hx2 ?_
        have hw3 : ({ w2 with drawn := w2.drawn + 1 } : World).setCells b (n * 128) (u8s s) = (w2.drewN 1).setCells b (n * 128) (u8s s) := rfl
        rw [hw3]
        generalize (w2.drewN 1).setCells b (n * 128) (u8s s) = w3 at *
        go_wp2
        go_roundw
        case rel => exact ⟨k + 1, by omega, by go_num, by rw [HS'.out]; exact hd3, r3⟩
        case measure => simp [intOf]; omega
      · have hk8 : k = E.fre.length := by omega
        subst hk8
        have hd3 := hd.empty
        have r3 := hr.trans (Fr.setCell b fv1.ownBlock none wr 25600 (.slice none 0 0) (.inl rfl))
        rw [Dk.putK_all] at hd3
        have c0 := hd.cell 0
        have f0 := hd.blk.frozen 25600
        simp only [List.getElem?_cons_zero, Nat.add_zero] at c0
        go_wp2
        go_end0
        exact ⟨rfl, .slice none 0 0, by rw [HG.out]; exact hd3, HR.out.trans r3⟩
  · have hg' : D.goes = false := by simpa using hg
    rw [hg'] at ha
    have HG : Hid (D.flush = D.act) := by
      show _ = _
      simp [Dk.flush, hg']
    clear h hg hg'
    go_enter Tryz.func87, Tryz.ntmps87
    go_wp2_with fail
    refine ha.mono ?_
    rintro e w1 ⟨rfl, fv1, h1, r1⟩
    go_wp2
    go_end0
    exact ⟨rfl, fv1, by rw [HG.out]; exact h1, r1⟩
end Go.Proofs.YtlhohmlpcgbliabGreatDoor
