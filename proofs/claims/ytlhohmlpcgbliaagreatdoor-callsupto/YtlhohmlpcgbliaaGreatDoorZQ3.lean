import Derived.Test.YtlhohmlpcgbliaaGreatDoorZR25
import Derived.Laws.MakeOwn
import Derived.Laws.IdiomCopy
namespace Go.Proofs.YtlhohmlpcgbliaaGreatDoor
set_option maxRecDepth 100000
open Go.RowKit
attribute [local go_sem ↓] Go.wp_at_zero Go.wp_at_succ

/-- A list of texts as it is handed in. -/
def ArgS (w : World) (v : Value) (ss : List ByteArray) : Prop :=
  (v = .slice none 0 0 ∧ ss = []) ∨ ∃ a c, v = .slice (some a) ss.length c ∧ ∀ (i : Nat) s, ss[i]? = some s → w.cell? (a.add i) = some (.string s)
theorem ArgS.strs {w : World} {v : Value} {ss : List ByteArray} (h : ArgS w v ss) : Strs w v ss := by
  rcases h with ⟨rfl, rfl⟩ | ⟨a, c, rfl, h⟩
  · exact ⟨none, 0, rfl, fun i s hs => by simp at hs⟩
  · refine ⟨some a, c, rfl, fun i s hs => ?_⟩
    have hi : i < ss.length := (List.getElem?_eq_some_iff.1 hs).1
    have h0 := h 0 _ (List.getElem?_eq_getElem (by omega))
    obtain ⟨b, o, sp⟩ := a
    have hsp : sp = none := by
      simp only [Addr.add, if_true, World.cell?] at h0
      split at h0
      · cases sp with
        | none => rfl
        | some x => simp at h0
      · cases h0
    subst hsp
    refine ⟨b, o, rfl, ?_⟩
    have := h i s hs
    rw [Addr.add_mid] at this
    exact this

theorem made_str (m : Nat) : madeCells (Value.string ⟨#[]⟩).cells m = (strv (List.replicate m ⟨#[]⟩)).toArray := by
  apply Array.ext
  · simp [madeCells]
  · intro i h1 h2
    simp [madeCells, strv, Value.cells, Nat.mod_one]
theorem makeStr (w : World) (m : Nat) (hm : m ≤ 1099511627776) : (Instr.makeSlice 32 (.int .i64 (m : Int)) (.int .i64 (m : Int))).run Tryz.prog w = .ok (.slice (some ⟨w.heap.size, 0, none⟩) m m) (w.alloc (.cells (strv (List.replicate m ⟨#[]⟩)).toArray 9)) := by
  obtain ⟨i, hi, hiz, his, hib⟩ := elem_string
  rw [run_make (P := Tryz.prog) w 32 9 i _ Tryz.underlying32 hi hiz .i64 .i64 (m : Int) (m : Int) (by omega) (Int.le_refl _) (by rw [hib]; omega) (by omega)]
  rw [his, Int.toNat_natCast, Nat.mul_one, made_str]

theorem copyStr (w : World) (g m n c : Nat) (xs ss : List ByteArray) (a : Addr) (ty : TypeId) (hB : Blk w g 9 (strv xs)) (hm : xs.length = m) (hn : ss.length = n) (hnm : n ≤ m) (hs : ∀ (i : Nat) s, ss[i]? = some s → w.cell? (a.add i) = some (.string s)) :
    (Builtin.copy_ #[32, 32] ty #[.slice (some ⟨g, 0, none⟩) m m, .slice (some a) n c]).run Tryz.prog w = .ok (goInt n) (w.setCells g 0 (strv ss)) := by
  have := run_copy_cells (P := Tryz.prog) w 32 32 ty 9 g 0 m m a n c (strv ss) Tryz.underlying32 (by kernel_rfl) (by rw [strv_length, hn]; exact (Nat.min_eq_left hnm).symm) ?_ ?_ ?_ ?_
  · rw [this, strv_length, hn]
  · intro j v hv
    simp only [strv, List.getElem?_map, Option.map_eq_some_iff] at hv
    obtain ⟨s, h1, rfl⟩ := hv
    exact hs j s h1
  · intro j hj
    rw [hB.cell, List.getElem?_eq_getElem (by rw [strv_length] at *; omega)]
    rfl
  · intro j _
    exact hB.frozen _
  · intro v hv
    obtain ⟨s, _, rfl⟩ := List.mem_map.1 hv
    rfl

theorem eqnil_none (w : World) : (binOp .eql 32 (.slice none 0 0) (.slice none 0 0)).run Tryz.prog w = .ok (.bool true) w := by kernel_rfl
theorem eqnil_some (w : World) (a : Addr) (n c : Nat) : (binOp .eql 32 (.slice (some a) n c) (.slice none 0 0)).run Tryz.prog w = .ok (.bool false) w := by kernel_rfl
def beyond : ByteArray := ⟨#[98, 101, 121, 111, 110, 100]⟩
/-- What roomy's row holds when j places behind the list are filled. -/
def roomL (ss : List ByteArray) (j : Nat) : List ByteArray := ss ++ (List.replicate j beyond ++ List.replicate (8 - j) ⟨#[]⟩)
theorem roomL_length (ss : List ByteArray) (j : Nat) (h : j ≤ 8) : (roomL ss j).length = ss.length + 8 := by simp [roomL]; omega
theorem roomL_set (ss : List ByteArray) (j : Nat) (h : j < 8) : (strv (roomL ss j)).set (ss.length + j) (.string beyond) = strv (roomL ss (j + 1)) := by
  have h1 : 8 - j = (8 - (j + 1)) + 1 := by omega
  simp only [roomL, strv, List.map_append, List.map_replicate]
  rw [List.set_append_right _ _ (by simp), List.set_append_right _ _ (by simp), h1, List.replicate_succ]
  simp [List.replicate_succ', show 8 - (j + 1) = 7 - j by omega]
theorem room_start (ss : List ByteArray) : setL (strv (List.replicate (ss.length + 8) ⟨#[]⟩)) 0 (strv ss) = strv (roomL ss 0) := by
  rw [setL_eq _ _ _ (by simp)]
  simp [strv, roomL]

set_option maxRecDepth 100000 in
set_option maxHeartbeats 1000000 in
theorem roomy_nil (w : World) : Calls Tryz.prog 27 #[.slice none 0 0] w fun e w' => e = .returned (.slice none 0 0) ∧ w' = w := by
  have hq := eqnil_none
  go_enter Tryz.func27, Tryz.ntmps27
  go_wp2
  go_ret
  exact ⟨rfl, rfl⟩

set_option maxRecDepth 100000 in
set_option maxHeartbeats 1000000 in
theorem roomy_some (a : Addr) (c : Nat) (ss : List ByteArray) (w : World) (hn : ss.length ≤ 100000000000) (hs : ∀ (i : Nat) s, ss[i]? = some s → w.cell? (a.add i) = some (.string s)) :
    Calls Tryz.prog 27 #[.slice (some a) ss.length c] w fun e w' => e = .returned (.slice (some ⟨w.heap.size, 0, none⟩) ss.length (ss.length + 8)) ∧ Blk w' w.heap.size 9 (strv (roomL ss 8)) ∧ Below w.heap.size w w' := by
  have hq := fun wx => eqnil_some wx a ss.length c
  have e1 : Hid (((ss.length : Int) + 8) = ((ss.length + 8 : Nat) : Int)) := by show _ = _; omega
  have hmk : ∀ wx : World, (Instr.makeSlice 32 (.int .i64 ((ss.length : Int) + 8)) (.int .i64 ((ss.length : Int) + 8))).run Tryz.prog wx = .ok (.slice (some ⟨wx.heap.size, 0, none⟩) (ss.length + 8) (ss.length + 8)) (wx.alloc (.cells (strv (List.replicate (ss.length + 8) ⟨#[]⟩)).toArray 9)) := fun wx => by
    rw [e1.out]; exact makeStr wx (ss.length + 8) (by omega)
  have hB0 := Blk.new w 9 (strv (List.replicate (ss.length + 8) ⟨#[]⟩))
  have hb0 : Below w.heap.size w (w.alloc (.cells (strv (List.replicate (ss.length + 8) ⟨#[]⟩)).toArray 9)) := (Below.refl _ _).alloc (Nat.le_refl _) _
  have hcp := fun ty => copyStr _ w.heap.size (ss.length + 8) ss.length c _ ss a ty hB0 (by simp) rfl (by omega) (fun i s h => by
    have h1 := hs i s h
    rw [hb0.cell (World.block_lt_of_cell? _ _ h1)]
    exact h1)
  have hB1 := hB0.setCells 0 (strv ss)
  have hb1 := Below.setCells hb0 w.heap.size 0 (Nat.le_refl _) (strv ss)
  rw [room_start] at hB1
  generalize hw1 : ((w.alloc (.cells (strv (List.replicate (ss.length + 8) ⟨#[]⟩)).toArray 9)).setCells w.heap.size 0 (strv ss)) = w1 at *
  clear hB0 hb0 hw1 hs
  go_enter Tryz.func27, Tryz.ntmps27
  go_wp2_with fail
  go_loopw [5] (fun i wr => ∃ j : Nat, j ≤ 8 ∧ i = .int .i64 (ss.length + j : Nat) ∧ Blk wr w.heap.size 9 (strv (roomL ss j)) ∧ Below w.heap.size w wr) (fun i _ => ss.length + 8 - (intOf i).toNat)
  case atStart => exact ⟨0, by omega, rfl, hB1, hb1⟩
  case round =>
    obtain ⟨j, hj, rfl, hB, hb⟩ := hrel
    clear hB1 hb1 hmk hcp
    by_cases h8 : j < 8
    · have hc := hB.cell (ss.length + j)
      rw [List.getElem?_eq_getElem (by rw [strv_length, roomL_length _ _ hj]; omega)] at hc
      have hf := hB.frozen (ss.length + j)
      have HB := (hB.set (ss.length + j) (.string beyond)).eq (roomL_set ss j h8)
      have Hb : Below w.heap.size w (wr.setCell ⟨w.heap.size, ss.length + j, none⟩ (.string beyond)) := hb.setCell (Nat.le_refl _) _
      go_wp2
      exact ⟨⟨j + 1, h8, by go_num, HB, Hb⟩, by simp [intOf]; omega⟩
    · have hk8 : j = 8 := by omega
      subst hk8
      go_wp2
      go_ret
      exact ⟨rfl, hB, hb⟩
end Go.Proofs.YtlhohmlpcgbliaaGreatDoor
namespace Go.Proofs.YtlhohmlpcgbliaaGreatDoor
set_option maxRecDepth 100000
open Go.RowKit
attribute [local go_sem ↓] Go.wp_at_zero Go.wp_at_succ

section
variable {P : Program} {ops : Array Oper} {Q : Act → Prop} {S : World → Prop} {o : Oper} {rest : List Oper} {a : Act}
/-- An operation that only reads, where it is wanted. -/
theorem wpQuiet_yes {v : Value} (hw : Region.wanted o (yielded ops a.tmps) = true) (d : Option Nat) (hd : o.dst = d) (hv : ∀ w, S w → (execOp a.eval o).run P w = .ok (.value v) w) (h : wpQuiet P ops S Q rest (a.put d v)) : wpQuiet P ops S Q (o :: rest) a := by
  refine wpQuiet_step fun K hK => ?_
  rw [if_pos hw]
  refine ⟨v, fun w hs => ?_, hK _ (by rw [hd]; exact h)⟩
  unfold Oper.quietAt
  rw [hv w hs]
  exact ⟨rfl, rfl⟩
/-- .. and where it is not. -/
theorem wpQuiet_no (hw : (!Region.wanted o (yielded ops a.tmps)) = true) (d : Option Nat) (hd : o.dst = d) (h : wpQuiet P ops S Q rest (a.put d undef)) : wpQuiet P ops S Q (o :: rest) a := by
  refine wpQuiet_step fun K hK => ?_
  rw [if_neg (by simpa using hw)]
  exact hK _ (by rw [hd]; exact h)
/-- What is left of a drawn region, shut, so that nothing unfolds it. -/
structure WQ (P : Program) (ops : Array Oper) (S : World → Prop) (Q : Act → Prop) (rest : List Oper) (a : Act) : Prop where
  out : wpQuiet P ops S Q rest a
theorem WQ.yes {v : Value} (hw : Region.wanted o (yielded ops a.tmps) = true) (d : Option Nat) (hd : o.dst = d) (hv : ∀ w, S w → (execOp a.eval o).run P w = .ok (.value v) w) (h : WQ P ops S Q rest (a.put d v)) : WQ P ops S Q (o :: rest) a := ⟨wpQuiet_yes hw d hd hv h.out⟩
theorem WQ.no (hw : (!Region.wanted o (yielded ops a.tmps)) = true) (d : Option Nat) (hd : o.dst = d) (h : WQ P ops S Q rest (a.put d undef)) : WQ P ops S Q (o :: rest) a := ⟨wpQuiet_no hw d hd h.out⟩
theorem WQ.nil (h : Q a) : WQ P ops S Q [] a := ⟨wpQuiet_nil h⟩
theorem exec_bin {w : World} {op : BinOp} {t t2 : TypeId} {x y : Operand} {v1 v2 u : Value} (ho : o.op = .binOp op t x y t2) (hx : a.eval x = v1) (hy : a.eval y = v2) (hg : (eqGuard op t x y v1 v2).run P w = .ok () w) (hr : (binOp op t v1 v2).run P w = .ok u w) : (execOp a.eval o).run P w = .ok (.value u) w := by
  unfold execOp
  simp only [ho, hx, hy, Sem.run_bind, hg, hr, Result.andThen_ok, Sem.run_pure]
theorem exec_ia {w : World} {t : TypeId} {x y : Operand} {v1 v2 u : Value} (ho : o.op = .indexAddr t x y) (hx : a.eval x = v1) (hy : a.eval y = v2) (hr : (Instr.indexAt t v1 v2).run P w = .ok u w) : (execOp a.eval o).run P w = .ok (.value u) w := by
  unfold execOp
  simp only [ho, hx, hy, Sem.run_bind, hr, Result.andThen_ok, Sem.run_pure]
theorem exec_load {w : World} {t : TypeId} {x : Operand} {v u : Value} (ho : o.op = .load t x) (hx : a.eval x = v) (hr : (Instr.loadAt t v).run P w = .ok u w) : (execOp a.eval o).run P w = .ok (.value u) w := by
  unfold execOp
  simp only [ho, hx, Sem.run_bind, hr, Result.andThen_ok, Sem.run_pure]
end
theorem lss_true (w : World) (x y : Nat) (h : x < y) : (binOp .lss 3 (.int .i64 (x : Int)) (.int .i64 (y : Int))).run Tryz.prog w = .ok (.bool true) w := by simp [go_sem, h]
theorem lss_false (w : World) (x y : Nat) (h : y ≤ x) : (binOp .lss 3 (.int .i64 (x : Int)) (.int .i64 (y : Int))).run Tryz.prog w = .ok (.bool false) w := by simp [go_sem]; omega
theorem geq_false (w : World) (x y : Nat) (h : x < y) : (binOp .geq 3 (.int .i64 (x : Int)) (.int .i64 (y : Int))).run Tryz.prog w = .ok (.bool false) w := by simp [go_sem]; omega
theorem geq_true (w : World) (x y : Nat) (h : y ≤ x) : (binOp .geq 3 (.int .i64 (x : Int)) (.int .i64 (y : Int))).run Tryz.prog w = .ok (.bool true) w := by simp [go_sem, h]
theorem neq_self (w : World) (s : ByteArray) : (binOp .neq 9 (.string s) (.string s)).run Tryz.prog w = .ok (.bool false) w := by simp [go_sem]
theorem index_row (w : World) (b o n c k : Nat) (h : k < n) : (Instr.indexAt 32 (.slice (some ⟨b, o, none⟩) n c) (.int .i64 (k : Int))).run Tryz.prog w = .ok (.pointer (some ⟨b, o + k, none⟩)) w := by
  have h1 : (k : Int) < (n : Int) := by omega
  simp [go_sem, h1]
theorem cell_drew {w wx : World} {a : Addr} {x : Value} (hx : ∃ n, wx = w.drewN n) (h : w.cell? a = some x) : wx.cell? a = some x := by
  obtain ⟨n, rfl⟩ := hx
  rw [World.cell?_drewN]; exact h


set_option maxRecDepth 100000 in
set_option maxHeartbeats 1000000 in
theorem whole_nil (w : World) : Calls Tryz.prog 31 #[.slice none 0 0, .slice none 0 0] w fun e w' => e = .returned (.bool true) ∧ w' = w := by
  have hq := eqnil_none
  go_enter Tryz.func31, Tryz.ntmps31
  go_wp2
  go_ret
  exact ⟨rfl, rfl⟩

end Go.Proofs.YtlhohmlpcgbliaaGreatDoor
namespace Go.Proofs.YtlhohmlpcgbliaaGreatDoor
set_option maxRecDepth 100000
open Go.RowKit
attribute [local go_sem ↓] Go.wp_at_zero Go.wp_at_succ

set_option maxRecDepth 100000 in
set_option maxHeartbeats 200000 in
theorem whR8_low {c0 c2 c3 c4 c8 c9 c10 c11 c12 c13 c14 c15 c16 c17 c18 c19 c20 c21 c22 c23 c24 c25 c26 c27 c28 c29 c30 c31 c32 c33 c34 c35 c36 c37 c38 c39 c40 c41 c42 c43 c44 c45 c46 c47 c48 c49 : Value} (g m n c b o k : Nat) (s : ByteArray) (w : World) (Q : Exit → Act → World → Prop) (hk : k < n) (hm : n ≤ m)
  (h1 : w.cell? ⟨g, k, none⟩ = some (.string s)) (h2 : w.cell? ⟨b, o + k, none⟩ = some (.string s))
  (hQ : ∀ (u24 u25 u26 u27 u28 u29 u30 u31 u32 u33 u34 u35 u36 u37 u38 u39 u40 u41 u42 u43 u44 u45 u46 u47 u48 : Value) (d : Nat), Q .normal ⟨#[c0, .slice (some ⟨b, o, none⟩) n c, c2, c3, c4, .int .i64 (n : Int), .slice (some ⟨g, 0, none⟩) m m, .int .i64 (k : Int), c8, c9, c10, c11, c12, c13, c14, c15, c16, c17, c18, c19, c20, c21, c22, c23, u24, u25, u26, u27, u28, u29, u30, u31, u32, u33, u34, u35, u36, u37, u38, u39, u40, u41, u42, u43, u44, u45, u46, u47, u48, .bool false], []⟩ (w.drewN d)) :
  Code.wp Tryz.prog (rgn Tryz.f31 8) Q ⟨#[c0, .slice (some ⟨b, o, none⟩) n c, c2, c3, c4, .int .i64 (n : Int), .slice (some ⟨g, 0, none⟩) m m, .int .i64 (k : Int), c8, c9, c10, c11, c12, c13, c14, c15, c16, c17, c18, c19, c20, c21, c22, c23, c24, c25, c26, c27, c28, c29, c30, c31, c32, c33, c34, c35, c36, c37, c38, c39, c40, c41, c42, c43, c44, c45, c46, c47, c48, c49], []⟩ w := by
  conv => arg 2; whnf
  refine wp_region_quiet_lit (by kernel_rfl) (by kernel_rfl) (WQ.out ?_)
  refine WQ.yes (v := .int .i64 (k : Int)) (by kernel_rfl) (some 24) (by rfl) (fun wx hx => by kernel_rfl) ?_
  simp only [Act.put, List.setIfInBounds_toArray, List.set_cons_succ, List.set_cons_zero]
  refine WQ.yes (v := .int .i64 (n : Int)) (by kernel_rfl) (some 25) (by rfl) (fun wx hx => by kernel_rfl) ?_
  simp only [Act.put, List.setIfInBounds_toArray, List.set_cons_succ, List.set_cons_zero]
  refine WQ.yes (v := .bool true) (by kernel_rfl) (some 26) (by rfl) (fun wx hx => exec_bin (by rfl) (by rfl) (by rfl) (by kernel_rfl) (lss_true wx k n hk)) ?_
  simp only [Act.put, List.setIfInBounds_toArray, List.set_cons_succ, List.set_cons_zero]
  refine WQ.yes (v := .bool true) (by kernel_rfl) (some 27) (by rfl) (fun wx hx => by kernel_rfl) ?_
  simp only [Act.put, List.setIfInBounds_toArray, List.set_cons_succ, List.set_cons_zero]
  refine WQ.yes (v := .slice (some ⟨g, 0, none⟩) m m) (by kernel_rfl) (some 28) (by rfl) (fun wx hx => by kernel_rfl) ?_
  simp only [Act.put, List.setIfInBounds_toArray, List.set_cons_succ, List.set_cons_zero]
  refine WQ.yes (v := .int .i64 (k : Int)) (by kernel_rfl) (some 29) (by rfl) (fun wx hx => by kernel_rfl) ?_
  simp only [Act.put, List.setIfInBounds_toArray, List.set_cons_succ, List.set_cons_zero]
  refine WQ.yes (v := .pointer (some ⟨g, 0 + k, none⟩)) (by kernel_rfl) (some 30) (by rfl) (fun wx hx => exec_ia (by rfl) (by rfl) (by rfl) (index_row wx g 0 m m k (by omega))) ?_
  simp only [Act.put, List.setIfInBounds_toArray, List.set_cons_succ, List.set_cons_zero]
  refine WQ.yes (v := .string s) (by kernel_rfl) (some 31) (by rfl) (fun wx hx => exec_load (by rfl) (by rfl) (load_str wx _ _ _ (cell_drew hx (by rw [Nat.zero_add]; exact h1)))) ?_
  simp only [Act.put, List.setIfInBounds_toArray, List.set_cons_succ, List.set_cons_zero]
  refine WQ.yes (v := .slice (some ⟨b, o, none⟩) n c) (by kernel_rfl) (some 32) (by rfl) (fun wx hx => by kernel_rfl) ?_
  simp only [Act.put, List.setIfInBounds_toArray, List.set_cons_succ, List.set_cons_zero]
  refine WQ.yes (v := .int .i64 (k : Int)) (by kernel_rfl) (some 33) (by rfl) (fun wx hx => by kernel_rfl) ?_
  simp only [Act.put, List.setIfInBounds_toArray, List.set_cons_succ, List.set_cons_zero]
  refine WQ.yes (v := .pointer (some ⟨b, o + k, none⟩)) (by kernel_rfl) (some 34) (by rfl) (fun wx hx => exec_ia (by rfl) (by rfl) (by rfl) (index_row wx b o n c k hk)) ?_
  simp only [Act.put, List.setIfInBounds_toArray, List.set_cons_succ, List.set_cons_zero]
  refine WQ.yes (v := .string s) (by kernel_rfl) (some 35) (by rfl) (fun wx hx => exec_load (by rfl) (by rfl) (load_str wx _ _ _ (cell_drew hx h2))) ?_
  simp only [Act.put, List.setIfInBounds_toArray, List.set_cons_succ, List.set_cons_zero]
  refine WQ.yes (v := .bool false) (by kernel_rfl) (some 36) (by rfl) (fun wx hx => exec_bin (by rfl) (by rfl) (by rfl) (by kernel_rfl) (neq_self wx s)) ?_
  simp only [Act.put, List.setIfInBounds_toArray, List.set_cons_succ, List.set_cons_zero]
  refine WQ.yes (v := .bool false) (by kernel_rfl) (some 37) (by rfl) (fun wx hx => by kernel_rfl) ?_
  simp only [Act.put, List.setIfInBounds_toArray, List.set_cons_succ, List.set_cons_zero]
  refine WQ.yes (v := .bool false) (by kernel_rfl) (some 38) (by rfl) (fun wx hx => by kernel_rfl) ?_
  simp only [Act.put, List.setIfInBounds_toArray, List.set_cons_succ, List.set_cons_zero]
  refine WQ.yes (v := .int .i64 (k : Int)) (by kernel_rfl) (some 39) (by rfl) (fun wx hx => by kernel_rfl) ?_
  simp only [Act.put, List.setIfInBounds_toArray, List.set_cons_succ, List.set_cons_zero]
  refine WQ.yes (v := .int .i64 (n : Int)) (by kernel_rfl) (some 40) (by rfl) (fun wx hx => by kernel_rfl) ?_
  simp only [Act.put, List.setIfInBounds_toArray, List.set_cons_succ, List.set_cons_zero]
  refine WQ.yes (v := .bool false) (by kernel_rfl) (some 41) (by rfl) (fun wx hx => exec_bin (by rfl) (by rfl) (by rfl) (by kernel_rfl) (geq_false wx k n hk)) ?_
  simp only [Act.put, List.setIfInBounds_toArray, List.set_cons_succ, List.set_cons_zero]
  refine WQ.yes (v := .bool false) (by kernel_rfl) (some 42) (by rfl) (fun wx hx => by kernel_rfl) ?_
  simp only [Act.put, List.setIfInBounds_toArray, List.set_cons_succ, List.set_cons_zero]
  refine WQ.no (by kernel_rfl) (some 43) (by rfl) ?_
  simp only [Act.put, List.setIfInBounds_toArray, List.set_cons_succ, List.set_cons_zero]
  refine WQ.no (by kernel_rfl) (some 44) (by rfl) ?_
  simp only [Act.put, List.setIfInBounds_toArray, List.set_cons_succ, List.set_cons_zero]
  refine WQ.no (by kernel_rfl) (some 45) (by rfl) ?_
  simp only [Act.put, List.setIfInBounds_toArray, List.set_cons_succ, List.set_cons_zero]
  refine WQ.no (by kernel_rfl) (some 46) (by rfl) ?_
  simp only [Act.put, List.setIfInBounds_toArray, List.set_cons_succ, List.set_cons_zero]
  refine WQ.no (by kernel_rfl) (some 47) (by rfl) ?_
  simp only [Act.put, List.setIfInBounds_toArray, List.set_cons_succ, List.set_cons_zero]
  refine WQ.yes (v := .bool false) (by kernel_rfl) (some 48) (by rfl) (fun wx hx => by kernel_rfl) ?_
  simp only [Act.put, List.setIfInBounds_toArray, List.set_cons_succ, List.set_cons_zero]
  refine WQ.yes (v := .bool false) (by kernel_rfl) (some 49) (by rfl) (fun wx hx => by kernel_rfl) ?_
  simp only [Act.put, List.setIfInBounds_toArray, List.set_cons_succ, List.set_cons_zero]
  refine WQ.nil ?_
  rintro _ ⟨d, rfl⟩
  exact hQ _ _ _ _ _ _ _ _ _ _ _ _ _ _ _ _ _ _ _ _ _ _ _ _ _ _

set_option maxRecDepth 100000 in
set_option maxHeartbeats 200000 in
theorem whR8_high {c0 c2 c3 c4 c8 c9 c10 c11 c12 c13 c14 c15 c16 c17 c18 c19 c20 c21 c22 c23 c24 c25 c26 c27 c28 c29 c30 c31 c32 c33 c34 c35 c36 c37 c38 c39 c40 c41 c42 c43 c44 c45 c46 c47 c48 c49 : Value} (g m n k : Nat) (v1 : Value) (w : World) (Q : Exit → Act → World → Prop) (hk : n ≤ k) (hm : k < m)
  (h1 : w.cell? ⟨g, k, none⟩ = some (.string beyond))
  (hQ : ∀ (u24 u25 u26 u27 u28 u29 u30 u31 u32 u33 u34 u35 u36 u37 u38 u39 u40 u41 u42 u43 u44 u45 u46 u47 u48 : Value) (d : Nat), Q .normal ⟨#[c0, v1, c2, c3, c4, .int .i64 (n : Int), .slice (some ⟨g, 0, none⟩) m m, .int .i64 (k : Int), c8, c9, c10, c11, c12, c13, c14, c15, c16, c17, c18, c19, c20, c21, c22, c23, u24, u25, u26, u27, u28, u29, u30, u31, u32, u33, u34, u35, u36, u37, u38, u39, u40, u41, u42, u43, u44, u45, u46, u47, u48, .bool false], []⟩ (w.drewN d)) :
  Code.wp Tryz.prog (rgn Tryz.f31 8) Q ⟨#[c0, v1, c2, c3, c4, .int .i64 (n : Int), .slice (some ⟨g, 0, none⟩) m m, .int .i64 (k : Int), c8, c9, c10, c11, c12, c13, c14, c15, c16, c17, c18, c19, c20, c21, c22, c23, c24, c25, c26, c27, c28, c29, c30, c31, c32, c33, c34, c35, c36, c37, c38, c39, c40, c41, c42, c43, c44, c45, c46, c47, c48, c49], []⟩ w := by
  conv => arg 2; whnf
  refine wp_region_quiet_lit (by kernel_rfl) (by kernel_rfl) (WQ.out ?_)
  refine WQ.yes (v := .int .i64 (k : Int)) (by kernel_rfl) (some 24) (by rfl) (fun wx hx => by kernel_rfl) ?_
  simp only [Act.put, List.setIfInBounds_toArray, List.set_cons_succ, List.set_cons_zero]
  refine WQ.yes (v := .int .i64 (n : Int)) (by kernel_rfl) (some 25) (by rfl) (fun wx hx => by kernel_rfl) ?_
  simp only [Act.put, List.setIfInBounds_toArray, List.set_cons_succ, List.set_cons_zero]
  refine WQ.yes (v := .bool false) (by kernel_rfl) (some 26) (by rfl) (fun wx hx => exec_bin (by rfl) (by rfl) (by rfl) (by kernel_rfl) (lss_false wx k n hk)) ?_
  simp only [Act.put, List.setIfInBounds_toArray, List.set_cons_succ, List.set_cons_zero]
  refine WQ.yes (v := .bool false) (by kernel_rfl) (some 27) (by rfl) (fun wx hx => by kernel_rfl) ?_
  simp only [Act.put, List.setIfInBounds_toArray, List.set_cons_succ, List.set_cons_zero]
  refine WQ.no (by kernel_rfl) (some 28) (by rfl) ?_
  simp only [Act.put, List.setIfInBounds_toArray, List.set_cons_succ, List.set_cons_zero]
  refine WQ.no (by kernel_rfl) (some 29) (by rfl) ?_
  simp only [Act.put, List.setIfInBounds_toArray, List.set_cons_succ, List.set_cons_zero]
  refine WQ.no (by kernel_rfl) (some 30) (by rfl) ?_
  simp only [Act.put, List.setIfInBounds_toArray, List.set_cons_succ, List.set_cons_zero]
  refine WQ.no (by kernel_rfl) (some 31) (by rfl) ?_
  simp only [Act.put, List.setIfInBounds_toArray, List.set_cons_succ, List.set_cons_zero]
  refine WQ.no (by kernel_rfl) (some 32) (by rfl) ?_
  simp only [Act.put, List.setIfInBounds_toArray, List.set_cons_succ, List.set_cons_zero]
  refine WQ.no (by kernel_rfl) (some 33) (by rfl) ?_
  simp only [Act.put, List.setIfInBounds_toArray, List.set_cons_succ, List.set_cons_zero]
  refine WQ.no (by kernel_rfl) (some 34) (by rfl) ?_
  simp only [Act.put, List.setIfInBounds_toArray, List.set_cons_succ, List.set_cons_zero]
  refine WQ.no (by kernel_rfl) (some 35) (by rfl) ?_
  simp only [Act.put, List.setIfInBounds_toArray, List.set_cons_succ, List.set_cons_zero]
  refine WQ.no (by kernel_rfl) (some 36) (by rfl) ?_
  simp only [Act.put, List.setIfInBounds_toArray, List.set_cons_succ, List.set_cons_zero]
  refine WQ.yes (v := .bool false) (by kernel_rfl) (some 37) (by rfl) (fun wx hx => by kernel_rfl) ?_
  simp only [Act.put, List.setIfInBounds_toArray, List.set_cons_succ, List.set_cons_zero]
  refine WQ.yes (v := .bool false) (by kernel_rfl) (some 38) (by rfl) (fun wx hx => by kernel_rfl) ?_
  simp only [Act.put, List.setIfInBounds_toArray, List.set_cons_succ, List.set_cons_zero]
  refine WQ.yes (v := .int .i64 (k : Int)) (by kernel_rfl) (some 39) (by rfl) (fun wx hx => by kernel_rfl) ?_
  simp only [Act.put, List.setIfInBounds_toArray, List.set_cons_succ, List.set_cons_zero]
  refine WQ.yes (v := .int .i64 (n : Int)) (by kernel_rfl) (some 40) (by rfl) (fun wx hx => by kernel_rfl) ?_
  simp only [Act.put, List.setIfInBounds_toArray, List.set_cons_succ, List.set_cons_zero]
  refine WQ.yes (v := .bool true) (by kernel_rfl) (some 41) (by rfl) (fun wx hx => exec_bin (by rfl) (by rfl) (by rfl) (by kernel_rfl) (geq_true wx k n hk)) ?_
  simp only [Act.put, List.setIfInBounds_toArray, List.set_cons_succ, List.set_cons_zero]
  refine WQ.yes (v := .bool true) (by kernel_rfl) (some 42) (by rfl) (fun wx hx => by kernel_rfl) ?_
  simp only [Act.put, List.setIfInBounds_toArray, List.set_cons_succ, List.set_cons_zero]
  refine WQ.yes (v := .slice (some ⟨g, 0, none⟩) m m) (by kernel_rfl) (some 43) (by rfl) (fun wx hx => by kernel_rfl) ?_
  simp only [Act.put, List.setIfInBounds_toArray, List.set_cons_succ, List.set_cons_zero]
  refine WQ.yes (v := .int .i64 (k : Int)) (by kernel_rfl) (some 44) (by rfl) (fun wx hx => by kernel_rfl) ?_
  simp only [Act.put, List.setIfInBounds_toArray, List.set_cons_succ, List.set_cons_zero]
  refine WQ.yes (v := .pointer (some ⟨g, 0 + k, none⟩)) (by kernel_rfl) (some 45) (by rfl) (fun wx hx => exec_ia (by rfl) (by rfl) (by rfl) (index_row wx g 0 m m k hm)) ?_
  simp only [Act.put, List.setIfInBounds_toArray, List.set_cons_succ, List.set_cons_zero]
  refine WQ.yes (v := .string beyond) (by kernel_rfl) (some 46) (by rfl) (fun wx hx => exec_load (by rfl) (by rfl) (load_str wx _ _ _ (cell_drew hx (by rw [Nat.zero_add]; exact h1)))) ?_
  simp only [Act.put, List.setIfInBounds_toArray, List.set_cons_succ, List.set_cons_zero]
  refine WQ.yes (v := .bool false) (by kernel_rfl) (some 47) (by rfl) (fun wx hx => exec_bin (by rfl) (by rfl) (by rfl) (by kernel_rfl) (neq_self wx beyond)) ?_
  simp only [Act.put, List.setIfInBounds_toArray, List.set_cons_succ, List.set_cons_zero]
  refine WQ.yes (v := .bool false) (by kernel_rfl) (some 48) (by rfl) (fun wx hx => by kernel_rfl) ?_
  simp only [Act.put, List.setIfInBounds_toArray, List.set_cons_succ, List.set_cons_zero]
  refine WQ.yes (v := .bool false) (by kernel_rfl) (some 49) (by rfl) (fun wx hx => by kernel_rfl) ?_
  simp only [Act.put, List.setIfInBounds_toArray, List.set_cons_succ, List.set_cons_zero]
  refine WQ.nil ?_
  rintro _ ⟨d, rfl⟩
  exact hQ _ _ _ _ _ _ _ _ _ _ _ _ _ _ _ _ _ _ _ _ _ _ _ _ _ _
end Go.Proofs.YtlhohmlpcgbliaaGreatDoor
namespace Go.Proofs.YtlhohmlpcgbliaaGreatDoor
set_option maxRecDepth 100000
open Go.RowKit
attribute [local go_sem ↓] Go.wp_at_zero Go.wp_at_succ

theorem roomL_low (ss : List ByteArray) (k : Nat) (s : ByteArray) (h : ss[k]? = some s) : (strv (roomL ss 8))[k]? = some (.string s) := by
  have hk : k < ss.length := (List.getElem?_eq_some_iff.1 h).1
  simp only [strv, roomL, List.getElem?_map]
  rw [List.getElem?_append_left hk, h]; rfl
theorem roomL_high (ss : List ByteArray) (k : Nat) (h1 : ss.length ≤ k) (h2 : k < ss.length + 8) : (strv (roomL ss 8))[k]? = some (.string beyond) := by
  simp only [strv, roomL, List.getElem?_map]
  rw [List.getElem?_append_right h1, List.getElem?_append_left (by simp; omega), List.getElem?_replicate, if_pos (by omega)]; rfl

set_option maxRecDepth 100000 in
set_option maxHeartbeats 1000000 in
theorem whole_some (a : Addr) (g c : Nat) (ss : List ByteArray) (w : World) (hn : ss.length ≤ 100000000000) (hS : Strs w (.slice (some a) ss.length c) ss) (hB : Blk w g 9 (strv (roomL ss 8))) :
    Calls Tryz.prog 31 #[.slice (some ⟨g, 0, none⟩) ss.length (ss.length + 8), .slice (some a) ss.length c] w fun e w' => e = .returned (.bool true) ∧ ∃ d, w' = w.drewN d := by
  have hq := fun wx => eqnil_some wx a ss.length c
  have e1 : Hid (((ss.length : Int) + 8) = ((ss.length + 8 : Nat) : Int)) := by show _ = _; omega
  have hsl : ∀ wx : World, (Instr.sliceAt 32 (.slice (some ⟨g, 0, none⟩) ss.length (ss.length + 8)) none (some (.int .i64 ((ss.length : Int) + 8))) none).run Tryz.prog wx = .ok (.slice (some ⟨g, 0, none⟩) (ss.length + 8) (ss.length + 8)) wx := fun wx => by
    rw [e1.out]; exact slice_h wx g 0 ss.length (ss.length + 8) (ss.length + 8) (Nat.le_refl _)
  go_enter Tryz.func31, Tryz.ntmps31
  go_wp2_with fail
  go_loopw [7] (fun i wr => ∃ k d : Nat, k ≤ ss.length + 8 ∧ i = .int .i64 (k : Int) ∧ wr = w.drewN d) (fun i _ => ss.length + 8 - (intOf i).toNat)
  case atStart => exact ⟨0, 0, by omega, rfl, rfl⟩
  case round =>
    obtain ⟨k, d, hk, rfl, rfl⟩ := hrel
    clear hq hsl
    by_cases h8 : k < ss.length + 8
    · by_cases hlo : k < ss.length
      · obtain ⟨s, hs⟩ : ∃ s, ss[k]? = some s := ⟨_, List.getElem?_eq_getElem hlo⟩
        obtain ⟨a', c', hv, hc⟩ := hS
        obtain ⟨b, o, ha, hcell⟩ := hc k s hs
        injection hv with hv1 hv2 hv3
        rw [← hv1] at ha
        injection ha with ha
        subst ha
        have h1 : (w.drewN d).cell? ⟨g, k, none⟩ = some (.string s) := by rw [World.cell?_drewN, hB.cell]; exact roomL_low ss k s hs
        have h2 : (w.drewN d).cell? ⟨b, o + k, none⟩ = some (.string s) := by rw [World.cell?_drewN]; exact hcell
        clear hc hv2 hv3 hs hcell
        go_wp2_with fail
        refine whR8_low g (ss.length + 8) ss.length c b o k s _ _ hlo (by omega) h1 h2 ?_
        intro u24 u25 u26 u27 u28 u29 u30 u31 u32 u33 u34 u35 u36 u37 u38 u39 u40 u41 u42 u43 u44 u45 u46 u47 u48 d'
        go_wp2
        exact ⟨⟨k + 1, d + d', h8, by go_num, rfl⟩, by simp [intOf]; omega⟩
      · have h1 : (w.drewN d).cell? ⟨g, k, none⟩ = some (.string beyond) := by rw [World.cell?_drewN, hB.cell]; exact roomL_high ss k (by omega) h8
        go_wp2_with fail
        refine whR8_high g (ss.length + 8) ss.length k _ _ _ (by omega) h8 h1 ?_
        intro u24 u25 u26 u27 u28 u29 u30 u31 u32 u33 u34 u35 u36 u37 u38 u39 u40 u41 u42 u43 u44 u45 u46 u47 u48 d'
        go_wp2
        exact ⟨⟨k + 1, d + d', h8, by go_num, rfl⟩, by simp [intOf]; omega⟩
    · have hk8 : k = ss.length + 8 := by omega
      subst hk8
      go_wp2
      go_ret
      exact ⟨rfl, d, rfl⟩
end Go.Proofs.YtlhohmlpcgbliaaGreatDoor
namespace Go.Proofs.YtlhohmlpcgbliaaGreatDoor
set_option maxRecDepth 100000
open Go.RowKit
attribute [local go_sem ↓] Go.wp_at_zero Go.wp_at_succ

end Go.Proofs.YtlhohmlpcgbliaaGreatDoor
namespace Go.Proofs.YtlhohmlpcgbliaaGreatDoor
set_option maxRecDepth 100000
open Go.RowKit
attribute [local go_sem ↓] Go.wp_at_zero Go.wp_at_succ

end Go.Proofs.YtlhohmlpcgbliaaGreatDoor
namespace Go.Proofs.YtlhohmlpcgbliaaGreatDoor
set_option maxRecDepth 100000
open Go.RowKit

theorem Row.shape {w : World} {base : Nat} {e : TypeId} {v : Value} {xs : List Value} (h : Row w base e v xs) : ∃ p c, v = .slice p xs.length c := by
  obtain ⟨h1, h2⟩ := h
  rcases h2 with ⟨hv, h0⟩ | ⟨g, cap, cur, rfl, _⟩
  · exact ⟨_, _, by rw [hv, h0]⟩
  · exact ⟨_, _, rfl⟩

theorem ref_side (v : Value) (ss : List ByteArray) (w : World) (hS : Strs w v ss) (hn : ss.length ≤ 1048576) (hz : ∀ s ∈ ss, s.size ≤ 1048576) :
    Calls Tryz.prog 37 #[v] w fun e w' => ∃ l, e = .returned l ∧ Below w.heap.size w w' ∧ ∀ wy, Below w'.heap.size w' wy → Calls Tryz.prog 36 #[l] wy fun e w'' => e = .returned (.string (mth (ss.map leafS))) ∧ Below wy.heap.size wy w'' := by
  refine (leaves_any v ss w hS (by omega) (fun s h => by have := hz s h; omega)).mono ?_
  rintro e w' ⟨l, rfl, hR, hb⟩
  refine ⟨l, rfl, hb, fun wy hy => ?_⟩
  by_cases h0 : 0 < ss.length
  · obtain ⟨g, cap, hv, _, hc, _⟩ := hR.form (by simpa using h0)
    subst hv
    have hA : SA wy g 0 (ss.map leafS) := (SA.of_row hR (by simpa using h0)).below hy
    have := rootRef_any (ss.map leafS) g 0 cap wy (by simpa using hc) (by simp; omega) hA (fun s hs => by
      obtain ⟨t, _, rfl⟩ := List.mem_map.1 hs
      rw [leafS_size]; omega)
    simpa using this
  · obtain rfl : ss = [] := List.eq_nil_of_length_eq_zero (by omega)
    obtain ⟨p, c, rfl⟩ := hR.shape
    rw [List.map_nil, mth_nil]
    exact rootRef_nil p c wy

end Go.Proofs.YtlhohmlpcgbliaaGreatDoor
namespace Go.Proofs.YtlhohmlpcgbliaaGreatDoor
set_option maxRecDepth 100000
open Go.RowKit
attribute [local go_sem ↓] Go.wp_at_zero Go.wp_at_succ

end Go.Proofs.YtlhohmlpcgbliaaGreatDoor
namespace Go.Proofs.YtlhohmlpcgbliaaGreatDoor
set_option maxRecDepth 100000
open Go.RowKit
attribute [local go_sem ↓] Go.wp_at_zero Go.wp_at_succ

theorem eqI (m n : Nat) (h : m ≠ n) : ((m : Int) == (n : Int)) = false := by simp; omega

end Go.Proofs.YtlhohmlpcgbliaaGreatDoor
namespace Go.Proofs.YtlhohmlpcgbliaaGreatDoor
set_option maxRecDepth 100000
open Go.RowKit
attribute [local go_sem ↓] Go.wp_at_zero Go.wp_at_succ

/-- The slice v reads the texts ss, and has room for them. -/
def Lst (w : World) (v : Value) (ss : List ByteArray) : Prop :=
  ∃ p c, v = .slice p ss.length c ∧ ss.length ≤ c ∧ ∀ (j : Nat) s, ss[j]? = some s → ∃ b o, p = some ⟨b, o, none⟩ ∧ w.cell? ⟨b, o + j, none⟩ = some (.string s)
theorem Lst.below {w w' : World} {v : Value} {ss : List ByteArray} (h : Lst w v ss) (hb : Below w.heap.size w w') : Lst w' v ss := by
  obtain ⟨p, c, h1, hc, h2⟩ := h
  refine ⟨p, c, h1, hc, fun i s hs => ?_⟩
  obtain ⟨g, off, h3, h4⟩ := h2 i s hs
  exact ⟨g, off, h3, by rw [hb.cell (World.block_lt_of_cell? _ _ h4)]; exact h4⟩

theorem eqs (x y : ByteArray) : (x.toList == y.toList) = decide (x = y) := by
  rw [ByteArray.toList_eq, ByteArray.toList_eq]
  by_cases h : x = y
  · subst h; simp
  · rw [decide_eq_false h, beq_eq_false_iff_ne]
    intro e
    apply h
    cases x; cases y
    simp only [ByteArray.mk.injEq]
    exact Array.toList_inj.1 e

/-- A list's texts are few and short enough. -/
def Few (ss : List ByteArray) : Prop := ss.length ≤ 1048576 ∧ ∀ s ∈ ss, s.size ≤ 1048576
end Go.Proofs.YtlhohmlpcgbliaaGreatDoor
