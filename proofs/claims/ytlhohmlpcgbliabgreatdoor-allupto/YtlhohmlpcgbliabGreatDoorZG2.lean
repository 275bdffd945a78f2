import Derived.Test.YtlhohmlpcgbliabGreatDoorZF7
import Derived.ChangeKeysEq
import Derived.Laws.StructEq
namespace Go.Proofs.YtlhohmlpcgbliabGreatDoor
open Go.RowKit
attribute [local go_sem ↓] Go.wp_at_zero Go.wp_at_succ

theorem part_u8 (w : World) (s : List Nat) (i : Nat) (hi : i < s.length) : (Go.part 5 (u8s s).toArray i).run Tryz.prog w = .ok (.int .u8 ((s.getD i 0 : Nat) : Int)) w := by
  have h := u8s_get s i hi
  have h2 : (u8s s).toArray[i]? = some (.int .u8 ((s.getD i 0 : Nat) : Int)) := by simpa using h
  simp [Go.part, isAgg, run_underlying Tryz.underlying5, h2]
theorem eq_u8 (w : World) (d a b : Nat) : (Op.equalIn (d + 1) 5 (.int .u8 (a : Int)) (.int .u8 (b : Int))).run Tryz.prog w = .ok (decide (a = b)) w := by
  simp only [Op.equalIn, Sem.run_bind, run_underlying Tryz.underlying5, Result.andThen_ok]
  simp
  by_cases h : a = b <;> simp [h] <;> omega
theorem items_u8 (w : World) (d : Nat) (s t : List Nat) : ∀ (is : List Nat), (∀ i ∈ is, i < s.length ∧ i < t.length) → (Op.eqItems (d + 1) 5 1 (u8s s).toArray (u8s t).toArray is).run Tryz.prog w = .ok (is.all fun i => decide (s.getD i 0 = t.getD i 0)) w := by
  intro is
  induction is with
  | nil => intro _; simp [Op.eqItems]
  | cons i r ih =>
    intro h
    have hi := h i (List.mem_cons_self ..)
    have := ih (fun j hj => h j (List.mem_cons_of_mem _ hj))
    simp only [Op.eqItems, Sem.run_bind, Nat.mul_one, part_u8 w s i hi.1, part_u8 w t i hi.2, Result.andThen_ok, eq_u8, List.all_cons]
    generalize s.getD i 0 = a
    generalize t.getD i 0 = b
    by_cases hq : a = b
    · simp only [hq, decide_true, Bool.not_true, Bool.true_and]
      exact this
    · simp [hq]
theorem range_all {s t : List Nat} (hs : s.length = 128) (ht : t.length = 128) : ((List.range 128).all fun i => decide (s.getD i 0 = t.getD i 0)) = decide (s = t) := by
  by_cases h : s = t
  · subst h; simp
  · simp only [h, decide_false]
    rw [List.all_eq_false]
    refine Classical.byContradiction fun hn => h ?_
    apply List.ext_getElem?
    intro i
    by_cases hi : i < 128
    · have : s.getD i 0 = t.getD i 0 := Classical.byContradiction fun h2 => hn ⟨i, by simpa using hi, by simpa using h2⟩
      rw [List.getD_eq_getElem?_getD, List.getD_eq_getElem?_getD, List.getElem?_eq_getElem (by omega), List.getElem?_eq_getElem (by omega)] at this
      rw [List.getElem?_eq_getElem (by omega), List.getElem?_eq_getElem (by omega)]
      simpa using this
    · rw [List.getElem?_eq_none (by omega), List.getElem?_eq_none (by omega)]
theorem eql_sec (w : World) {s t : List Nat} (hs : s.length = 128) (ht : t.length = 128) : (binOp .eql 89 (.agg (u8s s).toArray) (.agg (u8s t).toArray)).run Tryz.prog w = .ok (.bool (decide (s = t))) w := by
  have hi : ∃ i, Tryz.prog.info? 5 = some i := by
    cases hq : Tryz.prog.info? 5 with
    | none => have := info5; simp [hq] at this
    | some i => exact ⟨i, rfl⟩
  obtain ⟨i, hi⟩ := hi
  rw [run_eql_struct, run_equalIn_array w 9999 _ _ Tryz.underlying89 hi, cells5, items_u8 w 9998 s t _ (fun j hj => by have := List.mem_range.1 hj; omega), range_all hs ht]
  rfl
theorem eqlSec {ops : Array Oper} {rest : List Oper} {op : Oper} {a : Act} {w : World} {Q : Exit → Act → World → Prop} (hgd : op.guard = none) (x y : Operand) (ho : op.op = .binOp .eql 89 x y 89) (s t : List Nat) (xs ys : Array Value) (hx : a.eval x = .agg xs) (hy : a.eval y = .agg ys) (hxs : xs = (u8s s).toArray) (hys : ys = (u8s t).toArray) (hs : s.length = 128) (ht : t.length = 128)
    (h : wpList Tryz.prog ops Q rest (a.put op.dst (.bool (decide (s = t)))) w) : wpList Tryz.prog ops Q (op :: rest) a w := by
  subst hxs hys
  refine wpList_plain hgd fun _ hK => ?_
  have hv := exec_bop (P := Tryz.prog) (w := w) ho hx hy (run_eqGuard_agg w .eql 89 x y _ _ (by kernel_rfl)) (eql_sec w hs ht)
  unfold Oper.wp
  rw [hv]
  exact hK _ _ h

theorem results_ct {P : Program} {fn : Func} {p q : Tmp} {ty : TypeId} (h : fn.results = #[.cell p ty, .tmp q]) {tmps : Array Value} {w : World} {b : Nat} {v : Value} (hp : tmps.getD p undef = .pointer (some ⟨b, 0, none⟩)) (hq : tmps.getD q undef = v) {cs : List Value} {d : TypeDesc} (hc : w.rangeAt b 0 cs)
    (hu : P.underlying ty = some d) (hd : d.isRow = true) (hi : (P.info? ty).map (·.size) = some cs.length) : (results fn tmps).run P w = .ok (.tuple #[.agg cs.toArray, v]) w := by
  rw [Array.getD_eq_getD_getElem?] at hp hq
  simp only [results, h]
  simp [hp, hq, asAddr, run_loadVar_mid w b 0 ty cs d hc hu hd hi]
set_option maxHeartbeats 2000000 in
theorem readJournal_none (b : Nat) (fv : Value) (D : Dk) (w : World) (h : DiskAt w b fv D) (hz : D.read 1 = zer) :
    Calls Tryz.prog 117 #[.pointer (some ⟨b, 0, none⟩)] w fun e w' => e = .returned (.tuple #[.agg #[.int .i64 0, .slice none 0 0], .bool false]) ∧ Below w.heap.size w w' := by
  have hb0 : Below w.heap.size w (w.alloc (.cells #[.int .i64 0, .slice none 0 0] 144)) := (Below.refl _ _).alloc (Nat.le_refl _) _
  have hJ0 : Blk (w.alloc (.cells #[.int .i64 0, .slice none 0 0] 144)) w.heap.size 144 [.int .i64 0, .slice none 0 0] := Blk.new w _ _
  have hrd : Calls Tryz.prog 113 #[.pointer (some ⟨b, 0, none⟩), .int .i64 1] (w.alloc (.cells #[.int .i64 0, .slice none 0 0] 144)) fun e w' => e = .returned (.agg (u8s (D.read 1)).toArray) ∧ Below (w.alloc (.cells #[.int .i64 0, .slice none 0 0] 144)).heap.size (w.alloc (.cells #[.int .i64 0, .slice none 0 0] 144)) w' := read_any b fv D 1 _ (h.below hb0) (by omega)
  rw [hz] at hrd
  have hsl : zer.length = 128 := by simp [zer]
  have hzz : Tryz.zeroCells89 = (u8s zer).toArray := zeroSec
  have hzl : Tryz.zeroCells89.toList.length = 128 := by rw [zeroSec]; simp
  have hbd : ∀ wx, (Instr.build 89 #[]).run Tryz.prog wx = .ok (.agg Tryz.zeroCells89) wx := fun wx => run_build wx 89 _ _ (by kernel_rfl)
  go_enter Tryz.func117, Tryz.ntmps117
  go_wp2_with fail
  have hs0 : w.heap.size < (w.alloc (.cells #[.int .i64 0, .slice none 0 0] 144)).heap.size := by simp
  generalize w.alloc (.cells #[.int .i64 0, .slice none 0 0] 144) = w0 at *
  refine hrd.mono ?_
  rintro e w1 ⟨rfl, hb1⟩
  have hb2 : Below w0.heap.size w0 (w1.alloc (.cells Tryz.zeroCells89 89)) := hb1.alloc hb1.size _
  have hB := Blk.newA w1 89 Tryz.zeroCells89
  clear hz
  generalize zer = s at *
  have hB3 := hB.fill (u8s s) (by simp [hsl, hzl])
  have hb3 := Below.setCells hb2 w1.heap.size 0 hb1.size (u8s s)
  have hJ3 := hJ0.below hb3 hJ0.lt
  have HZ : Hid (Tryz.zeroCells89 = (u8s s).toArray) := hzz
  clear hzz
  have hth := hB.there 0 128 (by omega)
  have hrg := hB3.range
  have HA : Hid ((u8s s).toArray = (u8s s).toArray) := rfl
  go_wp2_with (first | ((with_reducible refine stSec ?_ (.tmp 4) (.tmp 8) ?_ w1.heap.size 0 s ?_ ?_ hth hsl ?_); rfl; rfl; rfl; rfl) | ((with_reducible refine ldSec ?_ (.tmp 4) ?_ w1.heap.size 0 ?_ s hrg hsl ?_); rfl; rfl; rfl; show Go.Shut _))
  try unfold Go.Shut
  clear hth hrg
  generalize (w1.alloc (.cells Tryz.zeroCells89 89)).setCells w1.heap.size 0 (u8s s) = w3 at *
  clear hB3 hB hb2
  generalize hqa : (u8s s).toArray = arr at *
  clear HA
  refine .inl ?_
  refine eqlSec (by rfl) (.tmp 9) (.tmp 10) (by rfl) s s arr Tryz.zeroCells89 (by rfl) (by rfl) hqa.symm (HZ.out.trans hqa.symm) hsl hsl ?_
  have hd : decide (s = s) = true := by simp
  rw [hd]
  refine wpList_nil ?_
  clear hqa HZ hbd hzl hd
  generalize Tryz.zeroCells89 = zz at *
  have hc0 := hJ3.cell 0
  have hc1 := hJ3.cell 1
  have hf0 := hJ3.frozen 0
  have hf1 := hJ3.frozen 1
  simp only [List.getElem?_cons_zero, List.getElem?_cons_succ] at hc0 hc1
  have HJ := (hJ3.set 0 (.int .i64 0)).set 1 (.slice none 0 0)
  simp only [List.set_cons_zero, List.set_cons_succ] at HJ
  have Hb : Below w.heap.size w ((w3.setCell ⟨w.heap.size, 0, none⟩ (.int .i64 0)).setCell ⟨w.heap.size, 1, none⟩ (.slice none 0 0)) := ((hb0.trans (hb3.mono hb0.size)).setCell (Nat.le_refl _) _).setCell (Nat.le_refl _) _
  have hc1' : (w3.setCell ⟨w.heap.size, 0, none⟩ (.int .i64 0)).cell? ⟨w.heap.size, 1, none⟩ = some (.slice none 0 0) := by rw [cell_set_off _ _ _ _ _ (by omega)]; exact hc1
  have hf1' := (hJ3.set 0 (.int .i64 0)).frozen 1
  go_wp2_with fail
  exact bodyPost_ret (results_ct Tryz.results117 (by rfl) (by rfl) HJ.range Tryz.underlying144 rfl infoJ) rfl ⟨rfl, Hb⟩
end Go.Proofs.YtlhohmlpcgbliabGreatDoor
namespace Go.Proofs.YtlhohmlpcgbliabGreatDoor
open Go.RowKit
attribute [local go_sem ↓] Go.wp_at_zero Go.wp_at_succ

set_option maxHeartbeats 1000000 in
theorem pending_none (b : Nat) (fv : Value) (D : Dk) (w : World) (h : DiskAt w b fv D) (hz : D.read 1 = zer) :
    Calls Tryz.prog 109 #[stV b] w fun e w' => e = .returned (.bool false) ∧ Below w.heap.size w w' := by
  have hb0 : Below w.heap.size w (w.alloc (.cells #[.pointer (some ⟨b, 0, none⟩)] 60)) := (Below.refl _ _).alloc (Nat.le_refl _) _
  have hB0 : Blk (w.alloc (.cells #[.pointer (some ⟨b, 0, none⟩)] 60)) w.heap.size 60 [.pointer (some ⟨b, 0, none⟩)] := Blk.new w _ _
  have hc := hB0.cell 0
  simp only [List.getElem?_cons_zero] at hc
  have hrj := readJournal_none b fv D _ (h.below hb0) hz
  unfold stV
  go_enter Tryz.func109, Tryz.ntmps109
  go_wp2_with fail
  generalize w.alloc (.cells #[.pointer (some ⟨b, 0, none⟩)] 60) = w0 at *
  refine hrj.mono ?_
  rintro e w1 ⟨rfl, hb1⟩
  have hb1' := hb0.trans (hb1.mono hb0.size)
  clear hrj hc hz
  go_wp2
  go_ret
  exact ⟨rfl, hb1'.alloc hb1'.size _⟩
/-- A log: its disk, what waits (the entries' texts). -/
structure LogAt (w : World) (a b : Nat) (fv wv : Value) (D : Dk) (W : List ByteArray) : Prop where
  disk : DiskAt w b fv D
  blk : Blk w a 63 [.pointer (some ⟨b, 0, none⟩), wv]
  row : Row w 0 9 wv (strv W)
  ab : a ≠ b
  fa : fv.ownBlock ≠ some a
  wa : wv.ownBlock ≠ some a
  wb : wv.ownBlock ≠ some b
  wf : ∀ k, wv.ownBlock = some k → fv.ownBlock ≠ some k
theorem LogAt.below {w w' : World} {a b : Nat} {fv wv : Value} {D : Dk} {W : List ByteArray} (h : LogAt w a b fv wv D W) (hb : Below w.heap.size w w') : LogAt w' a b fv wv D W :=
  ⟨h.disk.below hb, h.blk.below hb h.blk.lt, h.row.below hb (Nat.le_refl _), h.ab, h.fa, h.wa, h.wb, h.wf⟩

set_option maxHeartbeats 1000000 in
theorem none_any {w : World} {a b : Nat} {fv wv : Value} {D : Dk} {W : List ByteArray} (h : LogAt w a b fv wv D W) : Calls Tryz.prog 88 #[.pointer (some ⟨a, 0, none⟩)] w fun e w' => e = .returned (.bool false) ∧ w' = w := by
  have hc := h.blk.cell 0
  simp only [List.getElem?_cons_zero] at hc
  go_enter Tryz.func88, Tryz.ntmps88
  go_wp2
  go_ret
  exact ⟨rfl, rfl⟩
set_option maxHeartbeats 1000000 in
theorem down_any {w : World} {a b : Nat} {fv wv : Value} {D : Dk} {W : List ByteArray} (h : LogAt w a b fv wv D W) : Calls Tryz.prog 66 #[.pointer (some ⟨a, 0, none⟩)] w fun e w' => e = .returned (.bool D.failed) ∧ w' = w := by
  have hc := h.blk.cell 0
  simp only [List.getElem?_cons_zero] at hc
  have hn := none_any h
  have hf := failed_any b fv D w h.disk
  go_enter Tryz.func66, Tryz.ntmps66
  go_wp2_with fail
  refine hn.mono ?_
  rintro e w1 ⟨rfl, rfl⟩
  go_wp2_with fail
  refine hf.mono ?_
  rintro e w1 ⟨rfl, rfl⟩
  go_wp2
  go_ret
  exact ⟨rfl, rfl⟩
set_option maxHeartbeats 1000000 in
theorem refused_ok {w : World} {a b : Nat} {fv wv : Value} {D : Dk} {W : List ByteArray} (h : LogAt w a b fv wv D W) (hf : D.failed = false) (hz : D.read 1 = zer) : Calls Tryz.prog 90 #[.pointer (some ⟨a, 0, none⟩)] w fun e w' => e = .returned (.int .i64 0) ∧ Below w.heap.size w w' := by
  have hc := h.blk.cell 0
  simp only [List.getElem?_cons_zero] at hc
  have hd := down_any h
  rw [hf] at hd
  have hp := pending_none b fv D w h.disk hz
  unfold stV at hp
  go_enter Tryz.func90, Tryz.ntmps90
  go_wp2_with fail
  refine hd.mono ?_
  rintro e w1 ⟨rfl, rfl⟩
  clear hz hf
  go_wp2_with fail
  refine hp.mono ?_
  rintro e w2 ⟨rfl, hb2⟩
  go_wp2
  go_ret
  exact ⟨rfl, hb2⟩
set_option maxHeartbeats 1000000 in
theorem logCk_ok {w : World} {a b : Nat} {fv wv : Value} {D : Dk} {W : List ByteArray} (h : LogAt w a b fv wv D W) (hf : D.failed = false) : Calls Tryz.prog 38 #[.pointer (some ⟨a, 0, none⟩)] w fun e w' => e = .returned (.tuple #[.int .i64 (D.ckN : Int), .string (strOf D.ckR), .int .i64 0]) ∧ Below w.heap.size w w' := by
  have hc := h.blk.cell 0
  simp only [List.getElem?_cons_zero] at hc
  have hd := down_any h
  rw [hf] at hd
  have hp := storeCk_any b fv D w h.disk
  unfold stV at hp
  go_enter Tryz.func38, Tryz.ntmps38
  go_wp2_with fail
  refine hd.mono ?_
  rintro e w1 ⟨rfl, rfl⟩
  clear hf
  go_wp2_with fail
  refine hp.mono ?_
  rintro e w2 ⟨rfl, hb2⟩
  go_wp2
  go_ret3
  exact ⟨rfl, hb2⟩
end Go.Proofs.YtlhohmlpcgbliabGreatDoor
namespace Go.Proofs.YtlhohmlpcgbliabGreatDoor
set_option maxRecDepth 100000
open Go.RowKit
attribute [local go_sem ↓] Go.wp_at_zero Go.wp_at_succ

theorem loadPtr (w : World) (b o : Nat) (a : Addr) (h : w.cell? ⟨b, o, none⟩ = some (.pointer (some a))) : (Instr.loadAt 58 (.pointer (some ⟨b, o, none⟩))).run Tryz.prog w = .ok (.pointer (some a)) w := by
  simp [go_sem, h]
set_option maxHeartbeats 2000000 in
theorem seR1_wp {c0 c3 c4 c5 c6 c7 c8 c9 c10 c11 c12 c13 c14 c15 c16 : Value} (b sb i : Nat) (fv : Value) (D : Dk) (w : World) (Q : Exit → Act → World → Prop) (h : DiskAt w b fv D) (hs : w.cell? ⟨sb, 0, none⟩ = some (.pointer (some ⟨b, 0, none⟩))) (hi : i < 100)
    (hQ : ∀ (u6 u7 u8 u9 u10 u11 u12 u13 u14 u15 : Value) (w' : World), Below w.heap.size w w' → Q .normal ⟨#[c0, .int .i64 (i : Int), .pointer (some ⟨sb, 0, none⟩), c3, c4, .string (D.entry i), u6, u7, u8, u9, u10, u11, u12, u13, u14, u15, c16], []⟩ w') :
    Code.wp Tryz.prog (rgn Tryz.f68 1) Q ⟨#[c0, .int .i64 (i : Int), .pointer (some ⟨sb, 0, none⟩), c3, c4, c5, c6, c7, c8, c9, c10, c11, c12, c13, c14, c15, c16], []⟩ w := by
  have hS : (fun wx : World => Below w.heap.size w wx) w.drew := (Below.refl w.heap.size w).drew
  have hlt : sb < w.heap.size := World.block_lt_of_cell? _ _ hs
  have hsl := slot_len h.ok (start := 6) (each := 3) (i := i) (by omega) (by omega)
  have hsb := slot_byt h.ok (start := 6) (each := 3) (i := i) (by omega)
  have hrd : ∀ wx, Below w.heap.size w wx → Calls Tryz.prog 97 #[rowV 6 3, .pointer (some ⟨b, 0, none⟩), .int .i64 (i : Int)] wx fun e w' => e = .returned (.string (strOf (D.slot 6 3 i))) ∧ Below wx.heap.size wx w' :=
    fun wx hx => rowRead_any b i 6 3 fv D wx (h.below hx) (by omega) (by omega) (by omega)
  have hun := fun wx => unpacked_any (D.slot 6 3 i) wx (by rw [hsl]; omega) hsb
  have HE : D.entry i = strOf ((unpL (D.slot 6 3 i)).getD []) := rfl
  rw [← HE] at hun
  generalize D.entry i = x at *
  generalize (unpL (D.slot 6 3 i)).isSome = ok at *
  generalize strOf (D.slot 6 3 i) = y at *
  conv => arg 2; whnf
  refine wp_region_s (fun wx : World => Below w.heap.size w wx) (by kernel_rfl) ?_
  refine wpS_pure (k := 1) (v := .pointer (some ⟨sb, 0, none⟩)) (by rfl) (by kernel_rfl) (by kernel_rfl) (by kernel_rfl) (by rfl) (some 9) (by rfl) hS (fun _ _ => by kernel_rfl) ?_
  simp only [Act.put, List.setIfInBounds_toArray, List.set_cons_succ, List.set_cons_zero]
  refine wpS_pure (k := 2) (v := .pointer (some ⟨b, 0, none⟩)) (by rfl) (by kernel_rfl) (by kernel_rfl) (by kernel_rfl) (by rfl) (some 10) (by rfl) hS (fun wx hx => exec_ld (by rfl) (by rfl) (loadPtr wx sb 0 _ (by rw [hx.cell (p := ⟨sb, 0, none⟩) hlt]; exact hs))) ?_
  simp only [Act.put, List.setIfInBounds_toArray, List.set_cons_succ, List.set_cons_zero]
  refine wpS_pure (k := 3) (v := .int .i64 (i : Int)) (by rfl) (by kernel_rfl) (by kernel_rfl) (by kernel_rfl) (by rfl) (some 11) (by rfl) hS (fun _ _ => by kernel_rfl) ?_
  simp only [Act.put, List.setIfInBounds_toArray, List.set_cons_succ, List.set_cons_zero]
  refine wpS_one (i := 0) (by kernel_rfl) (opS_call (f := 96) (vs := #[]) (by rfl) (by rfl) (some 8) (by rfl) (by kernel_rfl) ((bundles_any w.drew).mono ?_))
  rintro e w1 ⟨rfl, hb1⟩
  have hw1 : Below w.heap.size w w1 := (Below.refl w.heap.size w).drew.trans hb1
  refine ⟨_, rfl, hw1, ?_⟩
  simp only [Act.put, List.setIfInBounds_toArray, List.set_cons_succ, List.set_cons_zero]
  refine wpS_one (i := 4) (by kernel_rfl) (opS_call (f := 97) (vs := #[rowV 6 3, .pointer (some ⟨b, 0, none⟩), .int .i64 (i : Int)]) (by rfl) (by rfl) (some 12) (by rfl) (by kernel_rfl) ((hrd w1 hw1).mono ?_))
  rintro e w2 ⟨rfl, hb2⟩
  have hw2 := hw1.trans (hb2.mono hw1.size)
  refine ⟨_, rfl, hw2, ?_⟩
  simp only [Act.put, List.setIfInBounds_toArray, List.set_cons_succ, List.set_cons_zero]
  refine wpS_one (i := 5) (by kernel_rfl) (opS_call (f := 95) (vs := #[.string y]) (by rfl) (by rfl) (some 13) (by rfl) (by kernel_rfl) ((hun w2).mono ?_))
  rintro e w3 ⟨rfl, rfl⟩
  refine ⟨_, rfl, hw2, ?_⟩
  simp only [Act.put, List.setIfInBounds_toArray, List.set_cons_succ, List.set_cons_zero]
  refine wpS_pure (k := 6) (v := .tuple #[.string x, .bool ok]) (by rfl) (by kernel_rfl) (by kernel_rfl) (by kernel_rfl) (by rfl) (some 7) (by rfl) hw2 (fun _ _ => by kernel_rfl) ?_
  simp only [Act.put, List.setIfInBounds_toArray, List.set_cons_succ, List.set_cons_zero]
  refine wpS_pure (k := 7) (v := .string x) (by rfl) (by kernel_rfl) (by kernel_rfl) (by kernel_rfl) (by rfl) (some 14) (by rfl) hw2 (fun _ _ => by kernel_rfl) ?_
  simp only [Act.put, List.setIfInBounds_toArray, List.set_cons_succ, List.set_cons_zero]
  refine wpS_pure (k := 8) (v := .bool ok) (by rfl) (by kernel_rfl) (by kernel_rfl) (by kernel_rfl) (by rfl) (some 15) (by rfl) hw2 (fun _ _ => by kernel_rfl) ?_
  simp only [Act.put, List.setIfInBounds_toArray, List.set_cons_succ, List.set_cons_zero]
  refine wpS_pure (k := 9) (v := .string x) (by rfl) (by kernel_rfl) (by kernel_rfl) (by kernel_rfl) (by rfl) (some 5) (by rfl) hw2 (fun _ _ => by kernel_rfl) ?_
  simp only [Act.put, List.setIfInBounds_toArray, List.set_cons_succ, List.set_cons_zero]
  refine wpS_pure (k := 10) (v := .bool ok) (by rfl) (by kernel_rfl) (by kernel_rfl) (by kernel_rfl) (by rfl) (some 6) (by rfl) hw2 (fun _ _ => by kernel_rfl) ?_
  simp only [Act.put, List.setIfInBounds_toArray, List.set_cons_succ, List.set_cons_zero]
  refine wpAnyH_done (by kernel_rfl) ?_ _
  refine NoPanic.normal ?_
  exact hQ _ _ _ _ _ _ _ _ _ _ _ hw2

set_option maxHeartbeats 1000000 in
theorem storeEntry_any (b i : Nat) (fv : Value) (D : Dk) (w : World) (h : DiskAt w b fv D) (hi : i < 100) :
    Calls Tryz.prog 68 #[stV b, .int .i64 (i : Int)] w fun e w' => e = .returned (.string (D.entry i)) ∧ Below w.heap.size w w' := by
  have hb0 : Below w.heap.size w (w.alloc (.cells #[.pointer (some ⟨b, 0, none⟩)] 60)) := (Below.refl _ _).alloc (Nat.le_refl _) _
  have hB0 : Blk (w.alloc (.cells #[.pointer (some ⟨b, 0, none⟩)] 60)) w.heap.size 60 [.pointer (some ⟨b, 0, none⟩)] := Blk.new w _ _
  have hc := hB0.cell 0
  simp only [List.getElem?_cons_zero] at hc
  have h0 := h.below hb0
  unfold stV
  go_enter Tryz.func68, Tryz.ntmps68
  go_wp2_with fail
  generalize w.alloc (.cells #[.pointer (some ⟨b, 0, none⟩)] 60) = w0 at *
  refine seR1_wp b w.heap.size i fv D w0 _ h0 hc hi ?_
  intro u6 u7 u8 u9 u10 u11 u12 u13 u14 u15 w1 hb1
  go_wp2
  go_ret
  exact ⟨rfl, hb0.trans (hb1.mono hb0.size)⟩

set_option maxHeartbeats 1000000 in
theorem logEntry_ok {w : World} {a b : Nat} {fv wv : Value} {D : Dk} {W : List ByteArray} (h : LogAt w a b fv wv D W) (hf : D.failed = false) (i : Nat) (hi : i < D.ckN) (hi9 : i < 100) : Calls Tryz.prog 40 #[.pointer (some ⟨a, 0, none⟩), .int .i64 (i : Int)] w fun e w' => e = .returned (.tuple #[.string (D.entry i), .int .i64 0]) ∧ Below w.heap.size w w' := by
  have hk := logCk_ok h hf
  have hen := fun wx (hx : Below w.heap.size w wx) => storeEntry_any b i fv D wx (h.disk.below hx) hi9
  have hlg := fun wx (hx : Below w.heap.size w wx) => (h.below hx).blk.cell 0
  have hge : ¬ (i : Int) ≥ (D.ckN : Int) := by omega
  have hge2 : (i : Int) < (D.ckN : Int) := by omega
  unfold stV at hen
  clear hi hf
  generalize strOf D.ckR = rt at *
  generalize D.ckN = n at *
  go_enter Tryz.func40, Tryz.ntmps40
  go_wp2_with fail
  refine hk.mono ?_
  rintro e w1 ⟨rfl, hb1⟩
  have hc := hlg w1 hb1
  simp only [List.getElem?_cons_zero] at hc
  go_wp2_with fail
  refine (hen w1 hb1).mono ?_
  rintro e w2 ⟨rfl, hb2⟩
  go_wp2
  go_ret2
  exact ⟨rfl, hb1.trans (hb2.mono hb1.size)⟩
set_option maxHeartbeats 1000000 in
theorem logEntry_range {w : World} {a b : Nat} {fv wv : Value} {D : Dk} {W : List ByteArray} (h : LogAt w a b fv wv D W) (hf : D.failed = false) (i : Int) (hi : i < 0 ∨ (D.ckN : Int) ≤ i) : Calls Tryz.prog 40 #[.pointer (some ⟨a, 0, none⟩), .int .i64 i] w fun e w' => e = .returned (.tuple #[.string ⟨#[]⟩, .int .i64 8]) ∧ Below w.heap.size w w' := by
  have hk := logCk_ok h hf
  clear hf
  generalize strOf D.ckR = rt at *
  generalize (D.ckN : Int) = n at *
  go_enter Tryz.func40, Tryz.ntmps40
  go_wp2_with fail
  refine hk.mono ?_
  rintro e w1 ⟨rfl, hb1⟩
  by_cases h0 : i < 0
  · go_wp2
    go_ret2
    exact ⟨rfl, hb1⟩
  · have hn : n ≤ i := by omega
    go_wp2
    go_ret2
    exact ⟨rfl, hb1⟩
end Go.Proofs.YtlhohmlpcgbliabGreatDoor
namespace Go.Proofs.YtlhohmlpcgbliabGreatDoor
set_option maxRecDepth 100000
open Go.RowKit
attribute [local go_sem ↓] Go.wp_at_zero Go.wp_at_succ

theorem loadSto (w : World) (a b : Nat) (h : w.cell? ⟨a, 0, none⟩ = some (.pointer (some ⟨b, 0, none⟩))) : (Instr.loadAt 60 (.pointer (some ⟨a, 0, none⟩))).run Tryz.prog w = .ok (stV b) w := by
  refine run_loadAt_mid (P := Tryz.prog) w a 0 60 [.pointer (some ⟨b, 0, none⟩)] _ (fun j v hv => ?_) Tryz.underlying60 rfl (by kernel_rfl)
  match j, hv with
  | 0, hv => rw [Nat.add_zero, h]; exact hv
  | j + 1, hv => simp at hv

set_option maxHeartbeats 2000000 in
theorem flR5_wp {c1 c2 c3 c4 c5 c6 c7 c8 c9 c10 c11 c12 c13 c14 c15 c16 c17 c18 c19 c20 c21 c22 c23 c24 c25 c26 c27 c28 c29 c30 c31 c32 c33 c34 c35 c36 c37 c38 c39 c40 : Value} (a b cb cc : Nat) (W : List ByteArray) (fv : Value) (D : Dk) (w : World) (Q : Exit → Act → World → Prop) (h : DiskAt w b fv D) (h0 : w.cell? ⟨a, 0, none⟩ = some (.pointer (some ⟨b, 0, none⟩))) (h1 : w.cell? ⟨a, 1, none⟩ = some (.slice (some ⟨cb, 0, none⟩) W.length cc)) (hab : a ≠ b) (hfa : fv.ownBlock ≠ some a)
    (hS : SA w cb 0 W) (hcb : cb < w.heap.size) (hne : cb ≠ b) (hap : fv.ownBlock ≠ some cb) (hz : ∀ s ∈ W, s.size ≤ 40) (hl : D.ckN + W.length ≤ 76) (hfe : D.fre.length < 700000) (he : Env w b fv.ownBlock)
    (hQ : ∀ (u18 u19 u20 u21 u22 u23 u24 u25 u26 : Value) (fv' : Value) (w' : World), DiskAt w' b fv' (D.add W) → Fr b fv.ownBlock fv'.ownBlock w w' → Q .normal ⟨#[.pointer (some ⟨a, 0, none⟩), c1, c2, c3, c4, c5, c6, c7, c8, c9, c10, c11, c12, c13, c14, c15, c16, c17, u18, u19, u20, u21, u22, u23, u24, u25, u26, c27, c28, c29, c30, c31, c32, c33, c34, c35, c36, c37, c38, c39, c40], []⟩ w') :
    Code.wp Tryz.prog (rgn Tryz.f64 5) Q ⟨#[.pointer (some ⟨a, 0, none⟩), c1, c2, c3, c4, c5, c6, c7, c8, c9, c10, c11, c12, c13, c14, c15, c16, c17, c18, c19, c20, c21, c22, c23, c24, c25, c26, c27, c28, c29, c30, c31, c32, c33, c34, c35, c36, c37, c38, c39, c40], []⟩ w := by
  have hS0 : (fun wx : World => wx.cell? ⟨a, 0, none⟩ = some (.pointer (some ⟨b, 0, none⟩)) ∧ wx.cell? ⟨a, 1, none⟩ = some (.slice (some ⟨cb, 0, none⟩) W.length cc)) w.drew := ⟨h0, h1⟩
  have hla : a < w.heap.size := World.block_lt_of_cell? _ _ h0
  conv => arg 2; whnf
  refine wp_region_s (fun wx : World => wx.cell? ⟨a, 0, none⟩ = some (.pointer (some ⟨b, 0, none⟩)) ∧ wx.cell? ⟨a, 1, none⟩ = some (.slice (some ⟨cb, 0, none⟩) W.length cc)) (by kernel_rfl) ?_
  refine wpS_pure (k := 0) (v := .pointer (some ⟨a, 0, none⟩)) (by rfl) (by kernel_rfl) (by kernel_rfl) (by kernel_rfl) (by rfl) (some 18) (by rfl) hS0 (fun _ _ => by kernel_rfl) ?_
  simp only [Act.put, List.setIfInBounds_toArray, List.set_cons_succ, List.set_cons_zero]
  refine wpS_pure (k := 1) (v := .pointer (some ⟨a, 0, none⟩)) (by rfl) (by kernel_rfl) (by kernel_rfl) (by kernel_rfl) (by rfl) (some 19) (by rfl) hS0 (fun _ _ => by kernel_rfl) ?_
  simp only [Act.put, List.setIfInBounds_toArray, List.set_cons_succ, List.set_cons_zero]
  refine wpS_pure (k := 2) (v := .pointer (some ⟨a, 0, none⟩)) (by rfl) (by kernel_rfl) (by kernel_rfl) (by kernel_rfl) (by rfl) (some 20) (by rfl) hS0 (fun _ _ => by kernel_rfl) ?_
  simp only [Act.put, List.setIfInBounds_toArray, List.set_cons_succ, List.set_cons_zero]
  refine wpS_pure (k := 3) (v := stV b) (by rfl) (by kernel_rfl) (by kernel_rfl) (by kernel_rfl) (by rfl) (some 21) (by rfl) hS0 (fun wx hx => exec_ld (by rfl) (by rfl) (loadSto wx a b hx.1)) ?_
  simp only [Act.put, List.setIfInBounds_toArray, List.set_cons_succ, List.set_cons_zero]
  refine wpS_pure (k := 4) (v := .pointer (some ⟨a, 0, none⟩)) (by rfl) (by kernel_rfl) (by kernel_rfl) (by kernel_rfl) (by rfl) (some 22) (by rfl) hS0 (fun _ _ => by kernel_rfl) ?_
  simp only [Act.put, List.setIfInBounds_toArray, List.set_cons_succ, List.set_cons_zero]
  refine wpS_pure (k := 5) (v := .pointer (some ⟨a, 0, none⟩)) (by rfl) (by kernel_rfl) (by kernel_rfl) (by kernel_rfl) (by rfl) (some 23) (by rfl) hS0 (fun _ _ => by kernel_rfl) ?_
  simp only [Act.put, List.setIfInBounds_toArray, List.set_cons_succ, List.set_cons_zero]
  refine wpS_pure (k := 6) (v := .pointer (some ⟨a, 1, none⟩)) (by rfl) (by kernel_rfl) (by kernel_rfl) (by kernel_rfl) (by rfl) (some 24) (by rfl) hS0 (fun _ _ => by kernel_rfl) ?_
  simp only [Act.put, List.setIfInBounds_toArray, List.set_cons_succ, List.set_cons_zero]
  refine wpS_pure (k := 7) (v := .slice (some ⟨cb, 0, none⟩) W.length cc) (by rfl) (by kernel_rfl) (by kernel_rfl) (by kernel_rfl) (by rfl) (some 25) (by rfl) hS0 (fun wx hx => exec_ld (by rfl) (by rfl) (loadStrs wx a 1 _ _ _ hx.2)) ?_
  simp only [Act.put, List.setIfInBounds_toArray, List.set_cons_succ, List.set_cons_zero]
  have hd := add_any' b cb 0 cc W fv D w.drew (h.drewN 1) hS hcb hne hap hz hl hfe (he.drewN 1)
  refine wpS_one (i := 8) (by kernel_rfl) (opS_call (f := 92) (vs := #[stV b, .slice (some ⟨cb, 0, none⟩) W.length cc]) (by rfl) (by rfl) (some 26) (by rfl) (by kernel_rfl) (hd.mono ?_))
  rintro e w1 ⟨rfl, fv1, hd1, r1⟩
  refine ⟨_, rfl, ⟨by rw [World.cell?_of_block (a := ⟨a, 0, none⟩) (r1.block a hla hab hfa)]; exact h0, by rw [World.cell?_of_block (a := ⟨a, 1, none⟩) (r1.block a hla hab hfa)]; exact h1⟩, ?_⟩
  simp only [Act.put, List.setIfInBounds_toArray, List.set_cons_succ, List.set_cons_zero]
  refine wpAnyH_done (by kernel_rfl) ?_ _
  refine NoPanic.normal ?_
  exact hQ _ _ _ _ _ _ _ _ _ fv1 w1 hd1 ((Fr.of_below (Below.refl w.heap.size w).drew).trans r1)

/-- All but the log's own blocks are as they were. -/
structure FrL (a b : Nat) (g h g' h' : Option Nat) (w w' : World) : Prop where
  os : w'.os = w.os
  tape : w'.tape = w.tape
  output : w'.output = w.output
  size : w.heap.size ≤ w'.heap.size
  block : ∀ k, k < w.heap.size → k ≠ a → k ≠ b → g ≠ some k → h ≠ some k → w'.heap[k]? = w.heap[k]?
  own : g' = none ∨ g' = g ∨ ∃ k, g' = some k ∧ w.heap.size ≤ k
  own2 : h' = none ∨ h' = h ∨ ∃ k, h' = some k ∧ w.heap.size ≤ k
theorem FrL.refl (a b : Nat) (g h : Option Nat) (w : World) : FrL a b g h g h w w := ⟨rfl, rfl, rfl, Nat.le_refl _, fun _ _ _ _ _ _ => rfl, .inr (.inl rfl), .inr (.inl rfl)⟩
theorem FrL.trans {a b : Nat} {g h g1 h1 g2 h2 : Option Nat} {w w1 w2 : World} (r : FrL a b g h g1 h1 w w1) (k : FrL a b g1 h1 g2 h2 w1 w2) : FrL a b g h g2 h2 w w2 := by
  have ap : ∀ {x x' : Option Nat} {i : Nat}, (x' = none ∨ x' = x ∨ ∃ k, x' = some k ∧ w.heap.size ≤ k) → i < w.heap.size → x ≠ some i → x' ≠ some i := by
    intro x x' i hx hi hn
    rcases hx with e | e | ⟨j, e, hj⟩
    · rw [e]; simp
    · rw [e]; exact hn
    · rw [e]; simp; omega
  have up : ∀ {x x1 x2 : Option Nat}, (x1 = none ∨ x1 = x ∨ ∃ k, x1 = some k ∧ w.heap.size ≤ k) → (x2 = none ∨ x2 = x1 ∨ ∃ k, x2 = some k ∧ w1.heap.size ≤ k) → (x2 = none ∨ x2 = x ∨ ∃ k, x2 = some k ∧ w.heap.size ≤ k) := by
    intro x x1 x2 h1 h2
    rcases h2 with e | e | ⟨j, e, hj⟩
    · exact .inl e
    · rw [e]; exact h1
    · exact .inr (.inr ⟨j, e, Nat.le_trans r.size hj⟩)
  exact ⟨k.os.trans r.os, k.tape.trans r.tape, k.output.trans r.output, Nat.le_trans r.size k.size, fun i hi ha hb hg hh => (k.block i (Nat.lt_of_lt_of_le hi r.size) ha hb (ap r.own hi hg) (ap r.own2 hi hh)).trans (r.block i hi ha hb hg hh), up r.own k.own, up r.own2 k.own2⟩
theorem FrL.of_below {a b : Nat} {g h : Option Nat} {w w' : World} (r : Below w.heap.size w w') : FrL a b g h g h w w' := ⟨r.os, r.tape, r.output, r.size, fun k hk _ _ _ _ => r.block k hk, .inr (.inl rfl), .inr (.inl rfl)⟩
theorem FrL.of_fr {a b : Nat} {g g' h : Option Nat} {w w' : World} (r : Fr b g g' w w') : FrL a b g h g' h w w' := ⟨r.os, r.tape, r.output, r.size, fun k hk _ hb hg _ => r.block k hk hb hg, r.own, .inr (.inl rfl)⟩
/-- The log behind a change of its disk. -/
theorem LogAt.fr {w w' : World} {a b : Nat} {fv fv' wv : Value} {D D' : Dk} {W : List ByteArray} (h : LogAt w a b fv wv D W) (r : Fr b fv.ownBlock fv'.ownBlock w w') (hd : DiskAt w' b fv' D') : LogAt w' a b fv' wv D' W := by
  have hlw : ∀ k, wv.ownBlock = some k → k < w.heap.size := fun k hk => (h.row.lt k hk).2
  refine ⟨hd, r.blk h.blk h.ab h.fa, ?_, h.ab, r.apart h.blk.lt h.fa, h.wa, h.wb, fun k hk => r.apart (hlw k hk) (h.wf k hk)⟩
  obtain ⟨h1, h2⟩ := h.row
  refine ⟨h1, ?_⟩
  rcases h2 with h0 | ⟨g, cap, cur, hv, hbg, hg, rr⟩
  · exact Or.inl h0
  · have hog : wv.ownBlock = some g := by rw [hv]; rfl
    exact Or.inr ⟨g, cap, cur, hv, hbg, by rw [r.block g (hlw g hog) (fun e => h.wb (by rw [hog, e])) (h.wf g hog)]; exact hg, rr⟩

theorem LogAt.wv {w : World} {a b : Nat} {fv wv : Value} {D : Dk} {W : List ByteArray} (h : LogAt w a b fv wv D W) : ∃ p cap, wv = .slice p W.length cap := by
  obtain ⟨h1, h2⟩ := h.row
  rw [strv_length] at h2
  rcases h2 with ⟨rfl, hn⟩ | ⟨g, cap, cur, rfl, hb, hg, hn, hm, hs, ht⟩
  · exact ⟨none, 0, by rw [hn]⟩
  · exact ⟨_, cap, rfl⟩
theorem LogAt.wrow {w : World} {a b : Nat} {fv wv : Value} {D : Dk} {W : List ByteArray} (h : LogAt w a b fv wv D W) (h0 : 0 < W.length) : ∃ g cap, wv = .slice (some ⟨g, 0, none⟩) W.length cap ∧ W.length ≤ cap ∧ g < w.heap.size ∧ SA w g 0 W := by
  obtain ⟨g, cap, hv, _, hcap, _, _, hlt, _⟩ := Row.form h.row (by rw [strv_length]; exact h0)
  rw [strv_length] at hv hcap
  have hr := h.row
  rw [hv] at hr
  exact ⟨g, cap, hv, hcap, hlt, SA.of_row hr h0⟩
/-- What waits is let go. -/
theorem LogAt.let {w : World} {a b : Nat} {fv wv : Value} {D : Dk} {W : List ByteArray} (h : LogAt w a b fv wv D W) : LogAt (w.setCell ⟨a, 1, none⟩ (.slice none 0 0)) a b fv (.slice none 0 0) D [] ∧ FrL a b fv.ownBlock wv.ownBlock fv.ownBlock none w (w.setCell ⟨a, 1, none⟩ (.slice none 0 0)) := by
  refine ⟨⟨⟨h.disk.ok, h.disk.blk.set_other _ _ (Ne.symm h.ab), ownsRow_setCell_other h.disk.row h.fa _, h.disk.apart⟩, (h.blk.set 1 (.slice none 0 0)).eq rfl, World.ownsRow_nil _ _ _ _, h.ab, h.fa, by simp [Value.ownBlock], by simp [Value.ownBlock], fun k hk => by simp [Value.ownBlock] at hk⟩, ?_⟩
  exact ⟨rfl, rfl, rfl, by simp [World.setCell], fun k _ hk _ _ _ => Below.heap_setCell _ _ _ _ hk, .inr (.inl rfl), .inl rfl⟩
def Dk.flushed (D : Dk) (W : List ByteArray) : Dk := if W.length = 0 then D else D.add W

set_option maxHeartbeats 2000000 in
theorem logFlush_any {w : World} {a b : Nat} {fv wv : Value} {D : Dk} {W : List ByteArray} (h : LogAt w a b fv wv D W) (hf : D.failed = false) (hz1 : D.read 1 = zer) (hz : ∀ s ∈ W, s.size ≤ 40) (hl : D.ckN + W.length ≤ 76) (hfe : D.fre.length < 700000) (he : Env w b fv.ownBlock) (hok : (D.flushed W).failed = false) :
    Calls Tryz.prog 64 #[.pointer (some ⟨a, 0, none⟩)] w fun e w' => e = .returned (.tuple #[.int .i64 ((D.flushed W).ckN : Int), .int .i64 0]) ∧ ∃ fv', LogAt w' a b fv' (.slice none 0 0) (D.flushed W) [] ∧ FrL a b fv.ownBlock wv.ownBlock fv'.ownBlock none w w' := by
  have hrf := refused_ok h hf hz1
  have HD : Hid (D.flushed W = if W.length = 0 then D else D.add W) := rfl
  clear hz1 hf
  go_enter Tryz.func64, Tryz.ntmps64
  go_wp2_with fail
  refine hrf.mono ?_
  rintro e w1 ⟨rfl, hb1⟩
  clear hrf
  have h1 := h.below hb1
  have he1 := he.below hb1
  have R1 : FrL a b fv.ownBlock wv.ownBlock fv.ownBlock wv.ownBlock w w1 := FrL.of_below hb1
  have hc0 := h1.blk.cell 0
  have hc1 := h1.blk.cell 1
  simp only [List.getElem?_cons_zero, List.getElem?_cons_succ] at hc0 hc1
  obtain ⟨p, cap, hwv⟩ := h1.wv
  rw [hwv] at hc1
  by_cases hw : W.length = 0
  · rw [if_pos hw] at HD
    have h2 := h1
    rw [← HD.out] at h2
    have R2 := R1
    rw [hw] at hc1
    have hdn := down_any h2
    rw [hok] at hdn
    have hL := h2.let
    have hck := storeCk_any b fv (D.flushed W) _ hL.1.disk
    have hcb := hL.1.blk.cell 0
    simp only [List.getElem?_cons_zero] at hcb
    have hcw := h2.blk.cell 1
    have hfw := h2.blk.frozen 1
    simp only [List.getElem?_cons_zero, List.getElem?_cons_succ] at hcw
    unfold stV at hck
    clear hok HD hc0 hw hwv
    generalize strOf (D.flushed W).ckR = rt at *
    go_wp2_with fail
    refine hdn.mono ?_
    rintro e w3 ⟨rfl, rfl⟩
    go_wp2_with fail
    refine hck.mono ?_
    rintro e w4 ⟨rfl, hb4⟩
    go_wp2
    go_ret2
    exact ⟨rfl, fv, hL.1.below hb4, (R2.trans hL.2).trans (FrL.of_below hb4)⟩
  · rw [if_neg hw] at HD
    obtain ⟨g, cap, hwv2, hcap, hgl, hSA⟩ := h1.wrow (by omega)
    have hgo : wv.ownBlock = some g := by rw [hwv2]; rfl
    have hw' : (0 : Int) < (W.length : Int) := by omega
    rw [← hwv, hwv2] at hc1
    go_wp2_with fail
    refine flR5_wp a b g cap W fv D w1 _ h1.disk hc0 hc1 h1.ab h1.fa hSA hgl (fun e => h1.wb (by rw [hgo, e])) (h1.wf g hgo) hz hl hfe he1 ?_
    intro u18 u19 u20 u21 u22 u23 u24 u25 u26 fv2 w2 hd2 r2
    rw [← HD.out] at hd2
    have h2 := h1.fr r2 hd2
    have R2 := R1.trans (FrL.of_fr r2)
    clear hSA hw hwv hwv2 hgo hd2 hw'
    have hdn := down_any h2
    rw [hok] at hdn
    have hL := h2.let
    have hck := storeCk_any b fv2 (D.flushed W) _ hL.1.disk
    have hcb := hL.1.blk.cell 0
    simp only [List.getElem?_cons_zero] at hcb
    have hcw := h2.blk.cell 1
    have hfw := h2.blk.frozen 1
    simp only [List.getElem?_cons_zero, List.getElem?_cons_succ] at hcw
    unfold stV at hck
    clear hok HD hc0 hc1
    generalize strOf (D.flushed W).ckR = rt at *
    go_wp2_with fail
    refine hdn.mono ?_
    rintro e w3 ⟨rfl, rfl⟩
    go_wp2_with fail
    refine hck.mono ?_
    rintro e w4 ⟨rfl, hb4⟩
    go_wp2
    go_ret2
    exact ⟨rfl, fv2, hL.1.below hb4, (R2.trans hL.2).trans (FrL.of_below hb4)⟩
end Go.Proofs.YtlhohmlpcgbliabGreatDoor
