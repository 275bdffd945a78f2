import Derived.Test.YtlhohmlpcgbliabGreatDoorZR25
import Derived.Laws.MakeOwn
import Derived.Laws.IdiomCopy
namespace Go.Proofs.YtlhohmlpcgbliabGreatDoor
set_option maxRecDepth 100000
open Go.RowKit
attribute [local go_sem ↓] Go.wp_at_zero Go.wp_at_succ

/-- A list of texts as it is handed in. -/
def ArgS (w : World) (v : Value) (ss : List ByteArray) : Prop :=
  (v = .slice none 0 0 ∧ ss = []) ∨ ∃ a c, v = .slice (some a) ss.length c ∧ ∀ (i : Nat) s, ss[i]? = some s → w.cell? (a.add i) = some (.string s)
theorem ArgS.strs {w : World} {v : Value} {ss : List ByteArray} (h : ArgS w v ss) : Strs w v ss := by
  rcases h with ⟨rfl, rfl⟩ | ⟨a, c, rfl, h⟩
  · exact ⟨none, 0, rfl, fun i s hs => by simp at hs⟩
  · refine ⟨some a, c, rfl, fun i s hs => ?_⟩
    have hi : i < ss.length := (List.getElem?_eq_some_iff.1 hs).1
    have h0 := h 0 _ (List.getElem?_eq_getElem (by omega))
    obtain ⟨b, o, sp⟩ := a
    have hsp : sp = none := by
      simp only [Addr.add, if_true, World.cell?] at h0
      split at h0
      · cases sp with
        | none => rfl
        | some x => simp at h0
      · cases h0
    subst hsp
    refine ⟨b, o, rfl, ?_⟩
    have := h i s hs
    rw [Addr.add_mid] at this
    exact this

theorem made_str (m : Nat) : madeCells (Value.string ⟨#[]⟩).cells m = (strv (List.replicate m ⟨#[]⟩)).toArray := by
  apply Array.ext
  · simp [madeCells]
  · intro i h1 h2
    simp [madeCells, strv, Value.cells, Nat.mod_one]
theorem makeStr (w : World) (m : Nat) (hm : m ≤ 1099511627776) : (Instr.makeSlice 22 (.int .i64 (m : Int)) (.int .i64 (m : Int))).run Tryz.prog w = .ok (.slice (some ⟨w.heap.size, 0, none⟩) m m) (w.alloc (.cells (strv (List.replicate m ⟨#[]⟩)).toArray 9)) := by
  obtain ⟨i, hi, hiz, his, hib⟩ := elem_string
  rw [run_make (P := Tryz.prog) w 22 9 i _ Tryz.underlying22 hi hiz .i64 .i64 (m : Int) (m : Int) (by omega) (Int.le_refl _) (by rw [hib]; omega) (by omega)]
  rw [his, Int.toNat_natCast, Nat.mul_one, made_str]

theorem copyStr (w : World) (g m n c : Nat) (xs ss : List ByteArray) (a : Addr) (ty : TypeId) (hB : Blk w g 9 (strv xs)) (hm : xs.length = m) (hn : ss.length = n) (hnm : n ≤ m) (hs : ∀ (i : Nat) s, ss[i]? = some s → w.cell? (a.add i) = some (.string s)) :
    (Builtin.copy_ #[22, 22] ty #[.slice (some ⟨g, 0, none⟩) m m, .slice (some a) n c]).run Tryz.prog w = .ok (goInt n) (w.setCells g 0 (strv ss)) := by
  have := run_copy_cells (P := Tryz.prog) w 22 22 ty 9 g 0 m m a n c (strv ss) Tryz.underlying22 (by kernel_rfl) (by rw [strv_length, hn]; exact (Nat.min_eq_left hnm).symm) ?_ ?_ ?_ ?_
  · rw [this, strv_length, hn]
  · intro j v hv
    simp only [strv, List.getElem?_map, Option.map_eq_some_iff] at hv
    obtain ⟨s, h1, rfl⟩ := hv
    exact hs j s h1
  · intro j hj
    rw [hB.cell, List.getElem?_eq_getElem (by rw [strv_length] at *; omega)]
    rfl
  · intro j _
    exact hB.frozen _
  · intro v hv
    obtain ⟨s, _, rfl⟩ := List.mem_map.1 hv
    rfl

theorem eqnil_none (w : World) : (binOp .eql 22 (.slice none 0 0) (.slice none 0 0)).run Tryz.prog w = .ok (.bool true) w := by kernel_rfl
theorem eqnil_some (w : World) (a : Addr) (n c : Nat) : (binOp .eql 22 (.slice (some a) n c) (.slice none 0 0)).run Tryz.prog w = .ok (.bool false) w := by kernel_rfl
def beyond : ByteArray := ⟨#[98, 101, 121, 111, 110, 100]⟩
/-- What roomy's row holds when j places behind the list are filled. -/
def roomL (ss : List ByteArray) (j : Nat) : List ByteArray := ss ++ (List.replicate j beyond ++ List.replicate (8 - j) ⟨#[]⟩)
theorem roomL_length (ss : List ByteArray) (j : Nat) (h : j ≤ 8) : (roomL ss j).length = ss.length + 8 := by simp [roomL]; omega
theorem roomL_set (ss : List ByteArray) (j : Nat) (h : j < 8) : (strv (roomL ss j)).set (ss.length + j) (.string beyond) = strv (roomL ss (j + 1)) := by
  have h1 : 8 - j = (8 - (j + 1)) + 1 := by omega
  simp only [roomL, strv, List.map_append, List.map_replicate]
  rw [List.set_append_right _ _ (by simp), List.set_append_right _ _ (by simp), h1, List.replicate_succ]
  simp [List.replicate_succ', show 8 - (j + 1) = 7 - j by omega]
theorem room_start (ss : List ByteArray) : setL (strv (List.replicate (ss.length + 8) ⟨#[]⟩)) 0 (strv ss) = strv (roomL ss 0) := by
  rw [setL_eq _ _ _ (by simp)]
  simp [strv, roomL]

set_option maxRecDepth 100000 in
set_option maxHeartbeats 1000000 in
theorem roomy_nil (w : World) : Calls Tryz.prog 9 #[.slice none 0 0] w fun e w' => e = .returned (.slice none 0 0) ∧ w' = w := by
  have hq := eqnil_none
  go_enter Tryz.func9, Tryz.ntmps9
  go_wp2
  go_ret
  exact ⟨rfl, rfl⟩

set_option maxRecDepth 100000 in
set_option maxHeartbeats 1000000 in
theorem roomy_some (a : Addr) (c : Nat) (ss : List ByteArray) (w : World) (hn : ss.length ≤ 100000000000) (hs : ∀ (i : Nat) s, ss[i]? = some s → w.cell? (a.add i) = some (.string s)) :
    Calls Tryz.prog 9 #[.slice (some a) ss.length c] w fun e w' => e = .returned (.slice (some ⟨w.heap.size, 0, none⟩) ss.length (ss.length + 8)) ∧ Blk w' w.heap.size 9 (strv (roomL ss 8)) ∧ Below w.heap.size w w' := by
  have hq := fun wx => eqnil_some wx a ss.length c
  have e1 : Hid (((ss.length : Int) + 8) = ((ss.length + 8 : Nat) : Int)) := by show _ = _; omega
  have hmk : ∀ wx : World, (Instr.makeSlice 22 (.int .i64 ((ss.length : Int) + 8)) (.int .i64 ((ss.length : Int) + 8))).run Tryz.prog wx = .ok (.slice (some ⟨wx.heap.size, 0, none⟩) (ss.length + 8) (ss.length + 8)) (wx.alloc (.cells (strv (List.replicate (ss.length + 8) ⟨#[]⟩)).toArray 9)) := fun wx => by
    rw [e1.out]; exact makeStr wx (ss.length + 8) (by omega)
  have hB0 := Blk.new w 9 (strv (List.replicate (ss.length + 8) ⟨#[]⟩))
  have hb0 : Below w.heap.size w (w.alloc (.cells (strv (List.replicate (ss.length + 8) ⟨#[]⟩)).toArray 9)) := (Below.refl _ _).alloc (Nat.le_refl _) _
  have hcp := fun ty => copyStr _ w.heap.size (ss.length + 8) ss.length c _ ss a ty hB0 (by simp) rfl (by omega) (fun i s h => by
    have h1 := hs i s h
    rw [hb0.cell (World.block_lt_of_cell? _ _ h1)]
    exact h1)
  have hB1 := hB0.setCells 0 (strv ss)
  have hb1 := Below.setCells hb0 w.heap.size 0 (Nat.le_refl _) (strv ss)
  rw [room_start] at hB1
  generalize hw1 : ((w.alloc (.cells (strv (List.replicate (ss.length + 8) ⟨#[]⟩)).toArray 9)).setCells w.heap.size 0 (strv ss)) = w1 at *
  clear hB0 hb0 hw1 hs
  go_enter Tryz.func9, Tryz.ntmps9
  go_wp2_with fail
  go_loopw [5] (fun i wr => ∃ j : Nat, j ≤ 8 ∧ i = .int .i64 (ss.length + j : Nat) ∧ Blk wr w.heap.size 9 (strv (roomL ss j)) ∧ Below w.heap.size w wr) (fun i _ => ss.length + 8 - (intOf i).toNat)
  case atStart => exact ⟨0, by omega, rfl, hB1, hb1⟩
  case round =>
    obtain ⟨j, hj, rfl, hB, hb⟩ := hrel
    clear hB1 hb1 hmk hcp
    by_cases h8 : j < 8
    · have hc := hB.cell (ss.length + j)
      rw [List.getElem?_eq_getElem (by rw [strv_length, roomL_length _ _ hj]; omega)] at hc
      have hf := hB.frozen (ss.length + j)
      have HB := (hB.set (ss.length + j) (.string beyond)).eq (roomL_set ss j h8)
      have Hb : Below w.heap.size w (wr.setCell ⟨w.heap.size, ss.length + j, none⟩ (.string beyond)) := hb.setCell (Nat.le_refl _) _
      go_wp2
      exact ⟨⟨j + 1, h8, by go_num, HB, Hb⟩, by simp [intOf]; omega⟩
    · have hk8 : j = 8 := by omega
      subst hk8
      go_wp2
      go_ret
      exact ⟨rfl, hB, hb⟩
end Go.Proofs.YtlhohmlpcgbliabGreatDoor
namespace Go.Proofs.YtlhohmlpcgbliabGreatDoor
set_option maxRecDepth 100000
open Go.RowKit
attribute [local go_sem ↓] Go.wp_at_zero Go.wp_at_succ

section
variable {P : Program} {ops : Array Oper} {Q : Act → Prop} {S : World → Prop} {o : Oper} {rest : List Oper} {a : Act}
/-- An operation that only reads, where it is wanted. -/
theorem wpQuiet_yes {v : Value} (hw : Region.wanted o (yielded ops a.tmps) = true) (d : Option Nat) (hd : o.dst = d) (hv : ∀ w, S w → (execOp a.eval o).run P w = .ok (.value v) w) (h : wpQuiet P ops S Q rest (a.put d v)) : wpQuiet P ops S Q (o :: rest) a := by
  refine wpQuiet_step fun K hK => ?_
  rw [if_pos hw]
  refine ⟨v, fun w hs => ?_, hK _ (by rw [hd]; exact h)⟩
  unfold Oper.quietAt
  rw [hv w hs]
  exact ⟨rfl, rfl⟩
/-- .. and where it is not. -/
theorem wpQuiet_no (hw : (!Region.wanted o (yielded ops a.tmps)) = true) (d : Option Nat) (hd : o.dst = d) (h : wpQuiet P ops S Q rest (a.put d undef)) : wpQuiet P ops S Q (o :: rest) a := by
  refine wpQuiet_step fun K hK => ?_
  rw [if_neg (by simpa using hw)]
  exact hK _ (by rw [hd]; exact h)
/-- What is left of a drawn region, shut, so that nothing unfolds it. -/
structure WQ (P : Program) (ops : Array Oper) (S : World → Prop) (Q : Act → Prop) (rest : List Oper) (a : Act) : Prop where
  out : wpQuiet P ops S Q rest a
theorem WQ.yes {v : Value} (hw : Region.wanted o (yielded ops a.tmps) = true) (d : Option Nat) (hd : o.dst = d) (hv : ∀ w, S w → (execOp a.eval o).run P w = .ok (.value v) w) (h : WQ P ops S Q rest (a.put d v)) : WQ P ops S Q (o :: rest) a := ⟨wpQuiet_yes hw d hd hv h.out⟩
theorem WQ.no (hw : (!Region.wanted o (yielded ops a.tmps)) = true) (d : Option Nat) (hd : o.dst = d) (h : WQ P ops S Q rest (a.put d undef)) : WQ P ops S Q (o :: rest) a := ⟨wpQuiet_no hw d hd h.out⟩
theorem WQ.nil (h : Q a) : WQ P ops S Q [] a := ⟨wpQuiet_nil h⟩
theorem exec_bin {w : World} {op : BinOp} {t t2 : TypeId} {x y : Operand} {v1 v2 u : Value} (ho : o.op = .binOp op t x y t2) (hx : a.eval x = v1) (hy : a.eval y = v2) (hg : (eqGuard op t x y v1 v2).run P w = .ok () w) (hr : (binOp op t v1 v2).run P w = .ok u w) : (execOp a.eval o).run P w = .ok (.value u) w := by
  unfold execOp
  simp only [ho, hx, hy, Sem.run_bind, hg, hr, Result.andThen_ok, Sem.run_pure]
theorem exec_ia {w : World} {t : TypeId} {x y : Operand} {v1 v2 u : Value} (ho : o.op = .indexAddr t x y) (hx : a.eval x = v1) (hy : a.eval y = v2) (hr : (Instr.indexAt t v1 v2).run P w = .ok u w) : (execOp a.eval o).run P w = .ok (.value u) w := by
  unfold execOp
  simp only [ho, hx, hy, Sem.run_bind, hr, Result.andThen_ok, Sem.run_pure]
theorem exec_load {w : World} {t : TypeId} {x : Operand} {v u : Value} (ho : o.op = .load t x) (hx : a.eval x = v) (hr : (Instr.loadAt t v).run P w = .ok u w) : (execOp a.eval o).run P w = .ok (.value u) w := by
  unfold execOp
  simp only [ho, hx, Sem.run_bind, hr, Result.andThen_ok, Sem.run_pure]
end
theorem lss_true (w : World) (x y : Nat) (h : x < y) : (binOp .lss 3 (.int .i64 (x : Int)) (.int .i64 (y : Int))).run Tryz.prog w = .ok (.bool true) w := by simp [go_sem, h]
theorem lss_false (w : World) (x y : Nat) (h : y ≤ x) : (binOp .lss 3 (.int .i64 (x : Int)) (.int .i64 (y : Int))).run Tryz.prog w = .ok (.bool false) w := by simp [go_sem]; omega
theorem geq_false (w : World) (x y : Nat) (h : x < y) : (binOp .geq 3 (.int .i64 (x : Int)) (.int .i64 (y : Int))).run Tryz.prog w = .ok (.bool false) w := by simp [go_sem]; omega
theorem geq_true (w : World) (x y : Nat) (h : y ≤ x) : (binOp .geq 3 (.int .i64 (x : Int)) (.int .i64 (y : Int))).run Tryz.prog w = .ok (.bool true) w := by simp [go_sem, h]
theorem neq_self (w : World) (s : ByteArray) : (binOp .neq 9 (.string s) (.string s)).run Tryz.prog w = .ok (.bool false) w := by simp [go_sem]
theorem index_row (w : World) (b o n c k : Nat) (h : k < n) : (Instr.indexAt 22 (.slice (some ⟨b, o, none⟩) n c) (.int .i64 (k : Int))).run Tryz.prog w = .ok (.pointer (some ⟨b, o + k, none⟩)) w := by
  have h1 : (k : Int) < (n : Int) := by omega
  simp [go_sem, h1]
theorem cell_drew {w wx : World} {a : Addr} {x : Value} (hx : ∃ n, wx = w.drewN n) (h : w.cell? a = some x) : wx.cell? a = some x := by
  obtain ⟨n, rfl⟩ := hx
  rw [World.cell?_drewN]; exact h


set_option maxRecDepth 100000 in
set_option maxHeartbeats 1000000 in
theorem whole_nil (w : World) : Calls Tryz.prog 11 #[.slice none 0 0, .slice none 0 0] w fun e w' => e = .returned (.bool true) ∧ w' = w := by
  have hq := eqnil_none
  go_enter Tryz.func11, Tryz.ntmps11
  go_wp2
  go_ret
  exact ⟨rfl, rfl⟩

end Go.Proofs.YtlhohmlpcgbliabGreatDoor
namespace Go.Proofs.YtlhohmlpcgbliabGreatDoor
set_option maxRecDepth 100000
open Go.RowKit
attribute [local go_sem ↓] Go.wp_at_zero Go.wp_at_succ

set_option maxRecDepth 100000 in
set_option maxHeartbeats 200000 in
theorem whR8_low {c0 c2 c3 c4 c8 c9 c10 c11 c12 c13 c14 c15 c16 c17 c18 c19 c20 c21 c22 c23 c24 c25 c26 c27 c28 c29 c30 c31 c32 c33 c34 c35 c36 c37 c38 c39 c40 c41 c42 c43 c44 c45 c46 c47 c48 c49 : Value} (g m n c b o k : Nat) (s : ByteArray) (w : World) (Q : Exit → Act → World → Prop) (hk : k < n) (hm : n ≤ m)
  (h1 : w.cell? ⟨g, k, none⟩ = some (.string s)) (h2 : w.cell? ⟨b, o + k, none⟩ = some (.string s))
  (hQ : ∀ (u24 u25 u26 u27 u28 u29 u30 u31 u32 u33 u34 u35 u36 u37 u38 u39 u40 u41 u42 u43 u44 u45 u46 u47 u48 : Value) (d : Nat), Q .normal ⟨#[c0, .slice (some ⟨b, o, none⟩) n c, c2, c3, c4, .int .i64 (n : Int), .slice (some ⟨g, 0, none⟩) m m, .int .i64 (k : Int), c8, c9, c10, c11, c12, c13, c14, c15, c16, c17, c18, c19, c20, c21, c22, c23, u24, u25, u26, u27, u28, u29, u30, u31, u32, u33, u34, u35, u36, u37, u38, u39, u40, u41, u42, u43, u44, u45, u46, u47, u48, .bool false], []⟩ (w.drewN d)) :
  Code.wp Tryz.prog (rgn Tryz.f11 8) Q ⟨#[c0, .slice (some ⟨b, o, none⟩) n c, c2, c3, c4, .int .i64 (n : Int), .slice (some ⟨g, 0, none⟩) m m, .int .i64 (k : Int), c8, c9, c10, c11, c12, c13, c14, c15, c16, c17, c18, c19, c20, c21, c22, c23, c24, c25, c26, c27, c28, c29, c30, c31, c32, c33, c34, c35, c36, c37, c38, c39, c40, c41, c42, c43, c44, c45, c46, c47, c48, c49], []⟩ w := by
  conv => arg 2; whnf
  refine wp_region_quiet_lit (by kernel_rfl) (by kernel_rfl) (WQ.out ?_)
  refine WQ.yes (v := .int .i64 (k : Int)) (by kernel_rfl) (some 24) (by rfl) (fun wx hx => by kernel_rfl) ?_
  simp only [Act.put, List.setIfInBounds_toArray, List.set_cons_succ, List.set_cons_zero]
  refine WQ.yes (v := .int .i64 (n : Int)) (by kernel_rfl) (some 25) (by rfl) (fun wx hx => by kernel_rfl) ?_
  simp only [Act.put, List.setIfInBounds_toArray, List.set_cons_succ, List.set_cons_zero]
  refine WQ.yes (v := .bool true) (by kernel_rfl) (some 26) (by rfl) (fun wx hx => exec_bin (by rfl) (by rfl) (by rfl) (by kernel_rfl) (lss_true wx k n hk)) ?_
  simp only [Act.put, List.setIfInBounds_toArray, List.set_cons_succ, List.set_cons_zero]
  refine WQ.yes (v := .bool true) (by kernel_rfl) (some 27) (by rfl) (fun wx hx => by kernel_rfl) ?_
  simp only [Act.put, List.setIfInBounds_toArray, List.set_cons_succ, List.set_cons_zero]
  refine WQ.yes (v := .slice (some ⟨g, 0, none⟩) m m) (by kernel_rfl) (some 28) (by rfl) (fun wx hx => by kernel_rfl) ?_
  simp only [Act.put, List.setIfInBounds_toArray, List.set_cons_succ, List.set_cons_zero]
  refine WQ.yes (v := .int .i64 (k : Int)) (by kernel_rfl) (some 29) (by rfl) (fun wx hx => by kernel_rfl) ?_
  simp only [Act.put, List.setIfInBounds_toArray, List.set_cons_succ, List.set_cons_zero]
  refine WQ.yes (v := .pointer (some ⟨g, 0 + k, none⟩)) (by kernel_rfl) (some 30) (by rfl) (fun wx hx => exec_ia (by rfl) (by rfl) (by rfl) (index_row wx g 0 m m k (by omega))) ?_
  simp only [Act.put, List.setIfInBounds_toArray, List.set_cons_succ, List.set_cons_zero]
  refine WQ.yes (v := .string s) (by kernel_rfl) (some 31) (by rfl) (fun wx hx => exec_load (by rfl) (by rfl) (load_str wx _ _ _ (cell_drew hx (by rw [Nat.zero_add]; exact h1)))) ?_
  simp only [Act.put, List.setIfInBounds_toArray, List.set_cons_succ, List.set_cons_zero]
  refine WQ.yes (v := .slice (some ⟨b, o, none⟩) n c) (by kernel_rfl) (some 32) (by rfl) (fun wx hx => by kernel_rfl) ?_
  simp only [Act.put, List.setIfInBounds_toArray, List.set_cons_succ, List.set_cons_zero]
  refine WQ.yes (v := .int .i64 (k : Int)) (by kernel_rfl) (some 33) (by rfl) (fun wx hx => by kernel_rfl) ?_
  simp only [Act.put, List.setIfInBounds_toArray, List.set_cons_succ, List.set_cons_zero]
  refine WQ.yes (v := .pointer (some ⟨b, o + k, none⟩)) (by kernel_rfl) (some 34) (by rfl) (fun wx hx => exec_ia (by rfl) (by rfl) (by rfl) (index_row wx b o n c k hk)) ?_
  simp only [Act.put, List.setIfInBounds_toArray, List.set_cons_succ, List.set_cons_zero]
  refine WQ.yes (v := .string s) (by kernel_rfl) (some 35) (by rfl) (fun wx hx => exec_load (by rfl) (by rfl) (load_str wx _ _ _ (cell_drew hx h2))) ?_
  simp only [Act.put, List.setIfInBounds_toArray, List.set_cons_succ, List.set_cons_zero]
  refine WQ.yes (v := .bool false) (by kernel_rfl) (some 36) (by rfl) (fun wx hx => exec_bin (by rfl) (by rfl) (by rfl) (by kernel_rfl) (neq_self wx s)) ?_
  simp only [Act.put, List.setIfInBounds_toArray, List.set_cons_succ, List.set_cons_zero]
  refine WQ.yes (v := .bool false) (by kernel_rfl) (some 37) (by rfl) (fun wx hx => by kernel_rfl) ?_
  simp only [Act.put, List.setIfInBounds_toArray, List.set_cons_succ, List.set_cons_zero]
  refine WQ.yes (v := .bool false) (by kernel_rfl) (some 38) (by rfl) (fun wx hx => by kernel_rfl) ?_
  simp only [Act.put, List.setIfInBounds_toArray, List.set_cons_succ, List.set_cons_zero]
  refine WQ.yes (v := .int .i64 (k : Int)) (by kernel_rfl) (some 39) (by rfl) (fun wx hx => by kernel_rfl) ?_
  simp only [Act.put, List.setIfInBounds_toArray, List.set_cons_succ, List.set_cons_zero]
  refine WQ.yes (v := .int .i64 (n : Int)) (by kernel_rfl) (some 40) (by rfl) (fun wx hx => by kernel_rfl) ?_
  simp only [Act.put, List.setIfInBounds_toArray, List.set_cons_succ, List.set_cons_zero]
  refine WQ.yes (v := .bool false) (by kernel_rfl) (some 41) (by rfl) (fun wx hx => exec_bin (by rfl) (by rfl) (by rfl) (by kernel_rfl) (geq_false wx k n hk)) ?_
  simp only [Act.put, List.setIfInBounds_toArray, List.set_cons_succ, List.set_cons_zero]
  refine WQ.yes (v := .bool false) (by kernel_rfl) (some 42) (by rfl) (fun wx hx => by kernel_rfl) ?_
  simp only [Act.put, List.setIfInBounds_toArray, List.set_cons_succ, List.set_cons_zero]
  refine WQ.no (by kernel_rfl) (some 43) (by rfl) ?_
  simp only [Act.put, List.setIfInBounds_toArray, List.set_cons_succ, List.set_cons_zero]
  refine WQ.no (by kernel_rfl) (some 44) (by rfl) ?_
  simp only [Act.put, List.setIfInBounds_toArray, List.set_cons_succ, List.set_cons_zero]
  refine WQ.no (by kernel_rfl) (some 45) (by rfl) ?_
  simp only [Act.put, List.setIfInBounds_toArray, List.set_cons_succ, List.set_cons_zero]
  refine WQ.no (by kernel_rfl) (some 46) (by rfl) ?_
  simp only [Act.put, List.setIfInBounds_toArray, List.set_cons_succ, List.set_cons_zero]
  refine WQ.no (by kernel_rfl) (some 47) (by rfl) ?_
  simp only [Act.put, List.setIfInBounds_toArray, List.set_cons_succ, List.set_cons_zero]
  refine WQ.yes (v := .bool false) (by kernel_rfl) (some 48) (by rfl) (fun wx hx => by kernel_rfl) ?_
  simp only [Act.put, List.setIfInBounds_toArray, List.set_cons_succ, List.set_cons_zero]
  refine WQ.yes (v := .bool false) (by kernel_rfl) (some 49) (by rfl) (fun wx hx => by kernel_rfl) ?_
  simp only [Act.put, List.setIfInBounds_toArray, List.set_cons_succ, List.set_cons_zero]
  refine WQ.nil ?_
  rintro _ ⟨d, rfl⟩
  exact hQ _ _ _ _ _ _ _ _ _ _ _ _ _ _ _ _ _ _ _ _ _ _ _ _ _ _

set_option maxRecDepth 100000 in
set_option maxHeartbeats 200000 in
theorem whR8_high {c0 c2 c3 c4 c8 c9 c10 c11 c12 c13 c14 c15 c16 c17 c18 c19 c20 c21 c22 c23 c24 c25 c26 c27 c28 c29 c30 c31 c32 c33 c34 c35 c36 c37 c38 c39 c40 c41 c42 c43 c44 c45 c46 c47 c48 c49 : Value} (g m n k : Nat) (v1 : Value) (w : World) (Q : Exit → Act → World → Prop) (hk : n ≤ k) (hm : k < m)
  (h1 : w.cell? ⟨g, k, none⟩ = some (.string beyond))
  (hQ : ∀ (u24 u25 u26 u27 u28 u29 u30 u31 u32 u33 u34 u35 u36 u37 u38 u39 u40 u41 u42 u43 u44 u45 u46 u47 u48 : Value) (d : Nat), Q .normal ⟨#[c0, v1, c2, c3, c4, .int .i64 (n : Int), .slice (some ⟨g, 0, none⟩) m m, .int .i64 (k : Int), c8, c9, c10, c11, c12, c13, c14, c15, c16, c17, c18, c19, c20, c21, c22, c23, u24, u25, u26, u27, u28, u29, u30, u31, u32, u33, u34, u35, u36, u37, u38, u39, u40, u41, u42, u43, u44, u45, u46, u47, u48, .bool false], []⟩ (w.drewN d)) :
  Code.wp Tryz.prog (rgn Tryz.f11 8) Q ⟨#[c0, v1, c2, c3, c4, .int .i64 (n : Int), .slice (some ⟨g, 0, none⟩) m m, .int .i64 (k : Int), c8, c9, c10, c11, c12, c13, c14, c15, c16, c17, c18, c19, c20, c21, c22, c23, c24, c25, c26, c27, c28, c29, c30, c31, c32, c33, c34, c35, c36, c37, c38, c39, c40, c41, c42, c43, c44, c45, c46, c47, c48, c49], []⟩ w := by
  conv => arg 2; whnf
  refine wp_region_quiet_lit (by kernel_rfl) (by kernel_rfl) (WQ.out ?_)
  refine WQ.yes (v := .int .i64 (k : Int)) (by kernel_rfl) (some 24) (by rfl) (fun wx hx => by kernel_rfl) ?_
  simp only [Act.put, List.setIfInBounds_toArray, List.set_cons_succ, List.set_cons_zero]
  refine WQ.yes (v := .int .i64 (n : Int)) (by kernel_rfl) (some 25) (by rfl) (fun wx hx => by kernel_rfl) ?_
  simp only [Act.put, List.setIfInBounds_toArray, List.set_cons_succ, List.set_cons_zero]
  refine WQ.yes (v := .bool false) (by kernel_rfl) (some 26) (by rfl) (fun wx hx => exec_bin (by rfl) (by rfl) (by rfl) (by kernel_rfl) (lss_false wx k n hk)) ?_
  simp only [Act.put, List.setIfInBounds_toArray, List.set_cons_succ, List.set_cons_zero]
  refine WQ.yes (v := .bool false) (by kernel_rfl) (some 27) (by rfl) (fun wx hx => by kernel_rfl) ?_
  simp only [Act.put, List.setIfInBounds_toArray, List.set_cons_succ, List.set_cons_zero]
  refine WQ.no (by kernel_rfl) (some 28) (by rfl) ?_
  simp only [Act.put, List.setIfInBounds_toArray, List.set_cons_succ, List.set_cons_zero]
  refine WQ.no (by kernel_rfl) (some 29) (by rfl) ?_
  simp only [Act.put, List.setIfInBounds_toArray, List.set_cons_succ, List.set_cons_zero]
  refine WQ.no (by kernel_rfl) (some 30) (by rfl) ?_
  simp only [Act.put, List.setIfInBounds_toArray, List.set_cons_succ, List.set_cons_zero]
  refine WQ.no (by kernel_rfl) (some 31) (by rfl) ?_
  simp only [Act.put, List.setIfInBounds_toArray, List.set_cons_succ, List.set_cons_zero]
  refine WQ.no (by kernel_rfl) (some 32) (by rfl) ?_
  simp only [Act.put, List.setIfInBounds_toArray, List.set_cons_succ, List.set_cons_zero]
  refine WQ.no (by kernel_rfl) (some 33) (by rfl) ?_
  simp only [Act.put, List.setIfInBounds_toArray, List.set_cons_succ, List.set_cons_zero]
  refine WQ.no (by kernel_rfl) (some 34) (by rfl) ?_
  simp only [Act.put, List.setIfInBounds_toArray, List.set_cons_succ, List.set_cons_zero]
  refine WQ.no (by kernel_rfl) (some 35) (by rfl) ?_
  simp only [Act.put, List.setIfInBounds_toArray, List.set_cons_succ, List.set_cons_zero]
  refine WQ.no (by kernel_rfl) (some 36) (by rfl) ?_
  simp only [Act.put, List.setIfInBounds_toArray, List.set_cons_succ, List.set_cons_zero]
  refine WQ.yes (v := .bool false) (by kernel_rfl) (some 37) (by rfl) (fun wx hx => by kernel_rfl) ?_
  simp only [Act.put, List.setIfInBounds_toArray, List.set_cons_succ, List.set_cons_zero]
  refine WQ.yes (v := .bool false) (by kernel_rfl) (some 38) (by rfl) (fun wx hx => by kernel_rfl) ?_
  simp only [Act.put, List.setIfInBounds_toArray, List.set_cons_succ, List.set_cons_zero]
  refine WQ.yes (v := .int .i64 (k : Int)) (by kernel_rfl) (some 39) (by rfl) (fun wx hx => by kernel_rfl) ?_
  simp only [Act.put, List.setIfInBounds_toArray, List.set_cons_succ, List.set_cons_zero]
  refine WQ.yes (v := .int .i64 (n : Int)) (by kernel_rfl) (some 40) (by rfl) (fun wx hx => by kernel_rfl) ?_
  simp only [Act.put, List.setIfInBounds_toArray, List.set_cons_succ, List.set_cons_zero]
  refine WQ.yes (v := .bool true) (by kernel_rfl) (some 41) (by rfl) (fun wx hx => exec_bin (by rfl) (by rfl) (by rfl) (by kernel_rfl) (geq_true wx k n hk)) ?_
  simp only [Act.put, List.setIfInBounds_toArray, List.set_cons_succ, List.set_cons_zero]
  refine WQ.yes (v := .bool true) (by kernel_rfl) (some 42) (by rfl) (fun wx hx => by kernel_rfl) ?_
  simp only [Act.put, List.setIfInBounds_toArray, List.set_cons_succ, List.set_cons_zero]
  refine WQ.yes (v := .slice (some ⟨g, 0, none⟩) m m) (by kernel_rfl) (some 43) (by rfl) (fun wx hx => by kernel_rfl) ?_
  simp only [Act.put, List.setIfInBounds_toArray, List.set_cons_succ, List.set_cons_zero]
  refine WQ.yes (v := .int .i64 (k : Int)) (by kernel_rfl) (some 44) (by rfl) (fun wx hx => by kernel_rfl) ?_
  simp only [Act.put, List.setIfInBounds_toArray, List.set_cons_succ, List.set_cons_zero]
  refine WQ.yes (v := .pointer (some ⟨g, 0 + k, none⟩)) (by kernel_rfl) (some 45) (by rfl) (fun wx hx => exec_ia (by rfl) (by rfl) (by rfl) (index_row wx g 0 m m k hm)) ?_
  simp only [Act.put, List.setIfInBounds_toArray, List.set_cons_succ, List.set_cons_zero]
  refine WQ.yes (v := .string beyond) (by kernel_rfl) (some 46) (by rfl) (fun wx hx => exec_load (by rfl) (by rfl) (load_str wx _ _ _ (cell_drew hx (by rw [Nat.zero_add]; exact h1)))) ?_
  simp only [Act.put, List.setIfInBounds_toArray, List.set_cons_succ, List.set_cons_zero]
  refine WQ.yes (v := .bool false) (by kernel_rfl) (some 47) (by rfl) (fun wx hx => exec_bin (by rfl) (by rfl) (by rfl) (by kernel_rfl) (neq_self wx beyond)) ?_
  simp only [Act.put, List.setIfInBounds_toArray, List.set_cons_succ, List.set_cons_zero]
  refine WQ.yes (v := .bool false) (by kernel_rfl) (some 48) (by rfl) (fun wx hx => by kernel_rfl) ?_
  simp only [Act.put, List.setIfInBounds_toArray, List.set_cons_succ, List.set_cons_zero]
  refine WQ.yes (v := .bool false) (by kernel_rfl) (some 49) (by rfl) (fun wx hx => by kernel_rfl) ?_
  simp only [Act.put, List.setIfInBounds_toArray, List.set_cons_succ, List.set_cons_zero]
  refine WQ.nil ?_
  rintro _ ⟨d, rfl⟩
  exact hQ _ _ _ _ _ _ _ _ _ _ _ _ _ _ _ _ _ _ _ _ _ _ _ _ _ _
end Go.Proofs.YtlhohmlpcgbliabGreatDoor
namespace Go.Proofs.YtlhohmlpcgbliabGreatDoor
set_option maxRecDepth 100000
open Go.RowKit
attribute [local go_sem ↓] Go.wp_at_zero Go.wp_at_succ

theorem roomL_low (ss : List ByteArray) (k : Nat) (s : ByteArray) (h : ss[k]? = some s) : (strv (roomL ss 8))[k]? = some (.string s) := by
  have hk : k < ss.length := (List.getElem?_eq_some_iff.1 h).1
  simp only [strv, roomL, List.getElem?_map]
  rw [List.getElem?_append_left hk, h]; rfl
theorem roomL_high (ss : List ByteArray) (k : Nat) (h1 : ss.length ≤ k) (h2 : k < ss.length + 8) : (strv (roomL ss 8))[k]? = some (.string beyond) := by
  simp only [strv, roomL, List.getElem?_map]
  rw [List.getElem?_append_right h1, List.getElem?_append_left (by simp; omega), List.getElem?_replicate, if_pos (by omega)]; rfl

set_option maxRecDepth 100000 in
set_option maxHeartbeats 1000000 in
theorem whole_some (a : Addr) (g c : Nat) (ss : List ByteArray) (w : World) (hn : ss.length ≤ 100000000000) (hS : Strs w (.slice (some a) ss.length c) ss) (hB : Blk w g 9 (strv (roomL ss 8))) :
    Calls Tryz.prog 11 #[.slice (some ⟨g, 0, none⟩) ss.length (ss.length + 8), .slice (some a) ss.length c] w fun e w' => e = .returned (.bool true) ∧ ∃ d, w' = w.drewN d := by
  have hq := fun wx => eqnil_some wx a ss.length c
  have e1 : Hid (((ss.length : Int) + 8) = ((ss.length + 8 : Nat) : Int)) := by show _ = _; omega
  have hsl : ∀ wx : World, (Instr.sliceAt 22 (.slice (some ⟨g, 0, none⟩) ss.length (ss.length + 8)) none (some (.int .i64 ((ss.length : Int) + 8))) none).run Tryz.prog wx = .ok (.slice (some ⟨g, 0, none⟩) (ss.length + 8) (ss.length + 8)) wx := fun wx => by
    rw [e1.out]; exact slice_h wx g 0 ss.length (ss.length + 8) (ss.length + 8) (Nat.le_refl _)
  go_enter Tryz.func11, Tryz.ntmps11
  go_wp2_with fail
  go_loopw [7] (fun i wr => ∃ k d : Nat, k ≤ ss.length + 8 ∧ i = .int .i64 (k : Int) ∧ wr = w.drewN d) (fun i _ => ss.length + 8 - (intOf i).toNat)
  case atStart => exact ⟨0, 0, by omega, rfl, rfl⟩
  case round =>
    obtain ⟨k, d, hk, rfl, rfl⟩ := hrel
    clear hq hsl
    by_cases h8 : k < ss.length + 8
    · by_cases hlo : k < ss.length
      · obtain ⟨s, hs⟩ : ∃ s, ss[k]? = some s := ⟨_, List.getElem?_eq_getElem hlo⟩
        obtain ⟨a', c', hv, hc⟩ := hS
        obtain ⟨b, o, ha, hcell⟩ := hc k s hs
        injection hv with hv1 hv2 hv3
        rw [← hv1] at ha
        injection ha with ha
        subst ha
        have h1 : (w.drewN d).cell? ⟨g, k, none⟩ = some (.string s) := by rw [World.cell?_drewN, hB.cell]; exact roomL_low ss k s hs
        have h2 : (w.drewN d).cell? ⟨b, o + k, none⟩ = some (.string s) := by rw [World.cell?_drewN]; exact hcell
        clear hc hv2 hv3 hs hcell
        go_wp2_with fail
        refine whR8_low g (ss.length + 8) ss.length c b o k s _ _ hlo (by omega) h1 h2 ?_
        intro u24 u25 u26 u27 u28 u29 u30 u31 u32 u33 u34 u35 u36 u37 u38 u39 u40 u41 u42 u43 u44 u45 u46 u47 u48 d'
        go_wp2
        exact ⟨⟨k + 1, d + d', h8, by go_num, rfl⟩, by simp [intOf]; omega⟩
      · have h1 : (w.drewN d).cell? ⟨g, k, none⟩ = some (.string beyond) := by rw [World.cell?_drewN, hB.cell]; exact roomL_high ss k (by omega) h8
        go_wp2_with fail
        refine whR8_high g (ss.length + 8) ss.length k _ _ _ (by omega) h8 h1 ?_
        intro u24 u25 u26 u27 u28 u29 u30 u31 u32 u33 u34 u35 u36 u37 u38 u39 u40 u41 u42 u43 u44 u45 u46 u47 u48 d'
        go_wp2
        exact ⟨⟨k + 1, d + d', h8, by go_num, rfl⟩, by simp [intOf]; omega⟩
    · have hk8 : k = ss.length + 8 := by omega
      subst hk8
      go_wp2
      go_ret
      exact ⟨rfl, d, rfl⟩
end Go.Proofs.YtlhohmlpcgbliabGreatDoor
namespace Go.Proofs.YtlhohmlpcgbliabGreatDoor
set_option maxRecDepth 100000
open Go.RowKit
attribute [local go_sem ↓] Go.wp_at_zero Go.wp_at_succ

/-- What is asked of a value that roomy made. -/
def ROK (w : World) (v r : Value) (z : ByteArray) : Prop := ∀ wy, Below w.heap.size w wy →
  (Calls Tryz.prog 10 #[r] wy fun e w' => e = .returned (.string z) ∧ Below wy.heap.size wy w') ∧ (Calls Tryz.prog 11 #[r, v] wy fun e w' => e = .returned (.bool true) ∧ Below wy.heap.size wy w')

set_option maxRecDepth 100000 in
set_option maxHeartbeats 1000000 in
theorem hashes_walk (sa sb z : ByteArray) (v : Value) (w : World) (ha : sa.size < 40000000000) (hb : sb.size < 40000000000) (ht : Table w) (hg : 2 < w.heap.size)
  (hr : ∀ wx, Below w.heap.size w wx → Calls Tryz.prog 9 #[v] wx fun e w' => ∃ r, e = .returned r ∧ Below wx.heap.size wx w' ∧ ROK w' v r z)
  (hl : ∀ wx, Below w.heap.size w wx → Calls Tryz.prog 12 #[v] wx fun e w' => ∃ l, e = .returned l ∧ Below wx.heap.size wx w' ∧ ∀ wy, Below w'.heap.size w' wy → Calls Tryz.prog 15 #[l] wy fun e w'' => e = .returned (.string z) ∧ Below wy.heap.size wy w'') :
    Calls Tryz.prog 4 #[.string sa, .string sb, v] w fun e w' => e = .returned (.bool true) ∧ Below w.heap.size w w' := by
  have h1 := groveLeaf_any sa w (by omega) ht hg
  have h2 := fun wx (hx : Below w.heap.size w wx) => groveNode_any sa sb wx (by omega) (by omega) (table_at hx hg ht) (Nat.lt_of_lt_of_le hg hx.size)
  have h6 := fun wx => leafRef_any sa wx (by omega)
  have h7 := fun wx => nodeRef_any sa sb wx ha hb
  go_enter Tryz.func4, Tryz.ntmps4
  go_wp2_with (go_at_call 7; refine h1.mono ?_; rintro e w1 ⟨rfl, b1⟩)
  go_wp2_with (go_at_call 8; refine (h2 w1 b1).mono ?_; rintro e w2 ⟨rfl, b2⟩)
  have c2 : Below w.heap.size w w2 := b1.trans (b2.mono b1.size)
  go_wp2_with (go_at_call 9; refine (hr w2 c2).mono ?_; rintro e w3 ⟨r, rfl, b3, hR⟩)
  have c3 : Below w.heap.size w w3 := c2.trans (b3.mono c2.size)
  go_wp2_with (go_at_call 10; refine (hR w3 (Below.refl _ _)).1.mono ?_; rintro e w4 ⟨rfl, b4⟩)
  have c4 : Below w.heap.size w w4 := c3.trans (b4.mono c3.size)
  go_wp2_with (go_at_call 11; refine (hR w4 b4).2.mono ?_; rintro e w5 ⟨rfl, b5⟩)
  have c5 : Below w.heap.size w w5 := c4.trans (b5.mono c4.size)
  go_wp2_with (go_at_call 12; refine (hl w5 c5).mono ?_; rintro e w6 ⟨l, rfl, b6, hL⟩)
  have c6 : Below w.heap.size w w6 := c5.trans (b6.mono c5.size)
  clear h1 h2 hr hl hR b1 b2 b3 b4 b5 c2 c3 c4 c5
  go_wp2_with (go_at_call 13; refine (h6 w6).mono ?_; rintro e w7 ⟨rfl, b7⟩)
  go_wp2_with (go_at_call 14; refine (h7 w7).mono ?_; rintro e w8 ⟨rfl, b8⟩)
  have d8 : Below w6.heap.size w6 w8 := b7.trans (b8.mono b7.size)
  go_wp2_with (go_at_call 15; refine (hL w8 d8).mono ?_; rintro e w9 ⟨rfl, b9⟩)
  have d9 : Below w.heap.size w w9 := c6.trans ((d8.trans (b9.mono d8.size)).mono c6.size)
  go_wp2
  go_ret
  exact ⟨rfl, d9⟩
end Go.Proofs.YtlhohmlpcgbliabGreatDoor
namespace Go.Proofs.YtlhohmlpcgbliabGreatDoor
set_option maxRecDepth 100000
open Go.RowKit
attribute [local go_sem ↓] Go.wp_at_zero Go.wp_at_succ

/-- The first k places hold the leaves. -/
def lvL (ss : List ByteArray) (k : Nat) : List ByteArray := (ss.take k).map leafS ++ List.replicate (ss.length - k) ⟨#[]⟩
theorem lvL_length (ss : List ByteArray) (k : Nat) (h : k ≤ ss.length) : (lvL ss k).length = ss.length := by simp [lvL]; omega
theorem lvL_zero (ss : List ByteArray) : lvL ss 0 = List.replicate ss.length ⟨#[]⟩ := by simp [lvL]
theorem lvL_all (ss : List ByteArray) : lvL ss ss.length = ss.map leafS := by simp [lvL]
theorem lvL_set (ss : List ByteArray) (k : Nat) (s : ByteArray) (h : k < ss.length) (hs : ss[k]? = some s) : (strv (lvL ss k)).set k (.string (leafS s)) = strv (lvL ss (k + 1)) := by
  have h1 : ss.length - k = (ss.length - (k + 1)) + 1 := by omega
  have hgk : ss[k] = s := (List.getElem?_eq_some_iff.1 hs).2
  have hl : ((ss.take k).map fun x => Value.string (leafS x)).length = k := by simp; omega
  simp only [lvL, strv, List.map_append, List.map_replicate, List.map_map, Function.comp_def]
  rw [List.set_append_right _ _ (by rw [hl]; omega), hl, Nat.sub_self, h1, List.replicate_succ, List.set_cons_zero, List.take_succ_eq_append_getElem h, List.map_append, hgk]
  simp

set_option maxRecDepth 100000 in
set_option maxHeartbeats 1000000 in
theorem treeRoot_any (ss : List ByteArray) (b o c : Nat) (w : World) (hn : ss.length ≤ 1099511627776) (hS : SA w b o ss) (hz : ∀ s ∈ ss, s.size < 40000000000) (ht : Table w) (hg : 2 < w.heap.size) :
    Calls Tryz.prog 28 #[.slice (some ⟨b, o, none⟩) ss.length c] w fun e w' => e = .returned (.string (mth (ss.map leafS))) ∧ Below w.heap.size w w' := by
  have hmk := fun wx => makeStr wx ss.length hn
  have hB0 := Blk.new w 9 (strv (List.replicate ss.length ⟨#[]⟩))
  have hb0 : Below w.heap.size w (w.alloc (.cells (strv (List.replicate ss.length ⟨#[]⟩)).toArray 9)) := (Below.refl _ _).alloc (Nat.le_refl _) _
  have HS : Hid (SA w b o ss) := hS
  clear hS
  go_enter Tryz.func28, Tryz.ntmps28
  go_wp2_with fail
  go_loopw [11] (fun i wr => ∃ k : Nat, k ≤ ss.length ∧ i = .int .i64 (k : Nat) ∧ Blk wr w.heap.size 9 (strv (lvL ss k)) ∧ Below w.heap.size w wr) (fun i _ => ss.length - (intOf i).toNat)
  case atStart => exact ⟨0, by omega, rfl, by rw [lvL_zero]; exact hB0, hb0⟩
  case round =>
    obtain ⟨k, hk, rfl, hB, hb⟩ := hrel
    clear hB0 hb0 hmk
    have htr := table_at hb hg ht
    have hgr : 2 < wr.heap.size := Nat.lt_of_lt_of_le hg hb.size
    by_cases h8 : k < ss.length
    · obtain ⟨s, hs⟩ : ∃ s, ss[k]? = some s := ⟨_, List.getElem?_eq_getElem h8⟩
      have hcell := HS.out k s hs
      have hcell' : wr.cell? ⟨b, o + k, none⟩ = some (.string s) := by
        rw [hb.cell (World.block_lt_of_cell? _ _ hcell)]; exact hcell
      have hsz : s.size < 40000000000 := hz s (List.mem_of_getElem? hs)
      have hlf := treeLeaf_any s wr (by omega) htr hgr
      clear hcell
      have HSet := lvL_set ss k s h8 hs
      have HH : Hid ((strv (lvL ss k)).set k (.string (leafS s)) = strv (lvL ss (k + 1))) := HSet
      clear HSet
      have hlt := hB.lt
      go_wp2_with fail
      refine hlf.mono ?_
      rintro e w1 ⟨rfl, hb1⟩
      have hB1 := hB.below hb1 hlt
      have hc := hB1.cell k
      rw [List.getElem?_eq_getElem (by rw [strv_length, lvL_length _ _ hk]; exact h8)] at hc
      have hf := hB1.frozen k
      have HB := (hB1.set k (.string (leafS s))).eq HH.out
      have Hb : Below w.heap.size w (w1.setCell ⟨w.heap.size, k, none⟩ (.string (leafS s))) := (hb.trans (hb1.mono hb.size)).setCell (Nat.le_refl _) _
      go_wp2
      exact ⟨⟨k + 1, h8, by go_num, HB, Hb⟩, by simp [intOf]; omega⟩
    · have hk8 : k = ss.length := by omega
      subst hk8
      rw [lvL_all] at hB
      have hSA : SA wr w.heap.size 0 (ss.map leafS) := fun i s hs => by
        rw [Nat.zero_add, hB.cell]
        simp only [strv, List.getElem?_map] at *
        rw [hs]; rfl
      have hj := treeJoin_any (ss.map leafS) w.heap.size 0 ss.length wr (by simp) (by simpa using hn) hSA (fun s hs => by
        obtain ⟨x, _, rfl⟩ := List.mem_map.1 hs
        rw [leafS_size]; omega) htr hgr
      rw [List.length_map] at hj
      go_wp2_with fail
      refine hj.mono ?_
      rintro e w1 ⟨rfl, hb1⟩
      go_wp2
      go_ret
      exact ⟨rfl, hb.trans (hb1.mono hb.size)⟩

set_option maxHeartbeats 400000 in
theorem treeRoot_nil (p : Option Addr) (c : Nat) (w : World) (ht : Table w) (hg : 2 < w.heap.size) : Calls Tryz.prog 28 #[.slice p 0 c] w fun e w' => e = .returned (.string (shaS [])) ∧ Below w.heap.size w w' := by
  have hmk := makeStr w 0 (by omega)
  have hb0 : Below w.heap.size w (w.alloc (.cells (strv (List.replicate 0 ⟨#[]⟩)).toArray 9)) := (Below.refl _ _).alloc (Nat.le_refl _) _
  generalize hw1 : (w.alloc (.cells (strv (List.replicate 0 ⟨#[]⟩)).toArray 9)) = w1 at *
  have hj := treeJoin_nil (some ⟨w.heap.size, 0, none⟩) 0 w1 (table_at hb0 hg ht) (Nat.lt_of_lt_of_le hg hb0.size)
  go_enter Tryz.func28, Tryz.ntmps28
  have hmk' : (Instr.makeSlice 22 (.int .i64 0) (.int .i64 0)).run Tryz.prog w = .ok (.slice (some ⟨w.heap.size, 0, none⟩) 0 0) w1 := by
    try rw [hw1] at hmk
    exact hmk
  clear hmk hw1
  go_wp2_with fail
  go_loopw [11] (fun i wr => i = .int .i64 0 ∧ wr = w1) (fun _ _ => 0)
  case atStart => exact ⟨rfl, rfl⟩
  case round =>
    obtain ⟨rfl, rfl⟩ := hrel
    go_wp2_with fail
    refine hj.mono ?_
    rintro e w2 ⟨rfl, hb1⟩
    go_wp2
    go_ret
    exact ⟨rfl, hb0.trans (hb1.mono hb0.size)⟩

set_option maxHeartbeats 400000 in
/-- grove.Root. -/
theorem groveRoot_any (ss : List ByteArray) (b o c : Nat) (w : World) (_hc : ss.length ≤ c) (hn : ss.length ≤ 1099511627776) (hS : SA w b o ss) (hz : ∀ s ∈ ss, s.size < 40000000000) (ht : Table w) (hg : 2 < w.heap.size) :
    Calls Tryz.prog 10 #[.slice (some ⟨b, o, none⟩) ss.length c] w fun e w' => e = .returned (.string (mth (ss.map leafS))) ∧ Below w.heap.size w w' := by
  have h1 := treeRoot_any ss b o c w hn hS hz ht hg
  go_enter Tryz.func10, Tryz.ntmps10
  go_wp2_with (go_at_call 28; refine h1.mono ?_; rintro e w' ⟨rfl, hb⟩)
  go_ret
  exact ⟨rfl, hb⟩
set_option maxHeartbeats 400000 in
theorem groveRoot_nil (p : Option Addr) (c : Nat) (w : World) (ht : Table w) (hg : 2 < w.heap.size) :
    Calls Tryz.prog 10 #[.slice p 0 c] w fun e w' => e = .returned (.string (shaS [])) ∧ Below w.heap.size w w' := by
  have h1 := treeRoot_nil p c w ht hg
  go_enter Tryz.func10, Tryz.ntmps10
  go_wp2_with (go_at_call 28; refine h1.mono ?_; rintro e w' ⟨rfl, hb⟩)
  go_ret
  exact ⟨rfl, hb⟩
end Go.Proofs.YtlhohmlpcgbliabGreatDoor
namespace Go.Proofs.YtlhohmlpcgbliabGreatDoor
set_option maxRecDepth 100000
open Go.RowKit

theorem Row.shape {w : World} {base : Nat} {e : TypeId} {v : Value} {xs : List Value} (h : Row w base e v xs) : ∃ p c, v = .slice p xs.length c := by
  obtain ⟨h1, h2⟩ := h
  rcases h2 with ⟨hv, h0⟩ | ⟨g, cap, cur, rfl, _⟩
  · exact ⟨_, _, by rw [hv, h0]⟩
  · exact ⟨_, _, rfl⟩

theorem ref_side (v : Value) (ss : List ByteArray) (w : World) (hS : Strs w v ss) (hn : ss.length ≤ 1048576) (hz : ∀ s ∈ ss, s.size ≤ 1048576) :
    Calls Tryz.prog 12 #[v] w fun e w' => ∃ l, e = .returned l ∧ Below w.heap.size w w' ∧ ∀ wy, Below w'.heap.size w' wy → Calls Tryz.prog 15 #[l] wy fun e w'' => e = .returned (.string (mth (ss.map leafS))) ∧ Below wy.heap.size wy w'' := by
  refine (leaves_any v ss w hS (by omega) (fun s h => by have := hz s h; omega)).mono ?_
  rintro e w' ⟨l, rfl, hR, hb⟩
  refine ⟨l, rfl, hb, fun wy hy => ?_⟩
  by_cases h0 : 0 < ss.length
  · obtain ⟨g, cap, hv, _, hc, _⟩ := hR.form (by simpa using h0)
    subst hv
    have hA : SA wy g 0 (ss.map leafS) := (SA.of_row hR (by simpa using h0)).below hy
    have := rootRef_any (ss.map leafS) g 0 cap wy (by simpa using hc) (by simp; omega) hA (fun s hs => by
      obtain ⟨t, _, rfl⟩ := List.mem_map.1 hs
      rw [leafS_size]; omega)
    simpa using this
  · obtain rfl : ss = [] := List.eq_nil_of_length_eq_zero (by omega)
    obtain ⟨p, c, rfl⟩ := hR.shape
    rw [List.map_nil, mth_nil]
    exact rootRef_nil p c wy

theorem hashes_any (sa sb : ByteArray) (v : Value) (ss : List ByteArray) (w : World) (ha : sa.size ≤ 1048576) (hb : sb.size ≤ 1048576) (hS : ArgS w v ss) (hn : ss.length ≤ 1048576) (hz : ∀ s ∈ ss, s.size ≤ 1048576) (ht : Table w) (hg : 2 < w.heap.size) :
    Calls Tryz.prog 4 #[.string sa, .string sb, v] w fun e w' => e = .returned (.bool true) ∧ Below w.heap.size w w' := by
  refine hashes_walk sa sb (mth (ss.map leafS)) v w (by omega) (by omega) ht hg ?_ (fun wx hx => ref_side v ss wx (hS.strs.below hx) hn hz)
  intro wx hx
  have htx := table_at hx hg ht
  have hgx : 2 < wx.heap.size := Nat.lt_of_lt_of_le hg hx.size
  rcases hS with ⟨rfl, rfl⟩ | ⟨a, c, rfl, h⟩
  · refine (roomy_nil wx).mono ?_
    rintro e w' ⟨rfl, rfl⟩
    refine ⟨_, rfl, Below.refl _ _, fun wy hy => ⟨?_, ?_⟩⟩
    · rw [List.map_nil, mth_nil]
      exact groveRoot_nil _ _ _ (table_at hy hgx htx) (Nat.lt_of_lt_of_le hgx hy.size)
    · refine (whole_nil wy).mono ?_
      rintro e w'' ⟨rfl, rfl⟩
      exact ⟨rfl, Below.refl _ _⟩
  · have hS : ArgS w (.slice (some a) ss.length c) ss := .inr ⟨a, c, rfl, h⟩
    have hsx := hS.strs.below hx
    refine (roomy_some a c ss wx (by omega) (fun i s hs => by rw [hx.cell (World.block_lt_of_cell? _ _ (h i s hs))]; exact h i s hs)).mono ?_
    rintro e w' ⟨rfl, hB, hb'⟩
    refine ⟨_, rfl, hb', fun wy hy => ?_⟩
    have hBy := hB.below hy hB.lt
    have hsz : wx.heap.size ≤ wy.heap.size := Nat.le_trans hb'.size hy.size
    have hxy : Below wx.heap.size wx wy := hb'.trans (hy.mono hb'.size)
    refine ⟨?_, ?_⟩
    · exact groveRoot_any ss wx.heap.size 0 (ss.length + 8) wy (by omega) (by omega) (fun i s hs => by rw [Nat.zero_add, hBy.cell]; exact roomL_low ss i s hs) (fun s hs => by have := hz s hs; omega) (table_at hxy hgx htx) (Nat.lt_of_lt_of_le hgx hsz)
    · refine (whole_some a wx.heap.size c ss wy (by omega) (hsx.below hxy) hBy).mono ?_
      rintro e w'' ⟨rfl, d, rfl⟩
      exact ⟨rfl, Below.drewN' (Below.refl _ _) d⟩
end Go.Proofs.YtlhohmlpcgbliabGreatDoor
namespace Go.Proofs.YtlhohmlpcgbliabGreatDoor
set_option maxRecDepth 100000
open Go.RowKit
attribute [local go_sem ↓] Go.wp_at_zero Go.wp_at_succ

/-- What a call of shown gives. -/
def ShowsAs (r : Option ByteArray) (w : World) (e : Ending) (w' : World) : Prop :=
  ∃ h ok, e = .returned (.tuple #[.string h, .bool ok]) ∧ h.size < 40000000000 ∧ r.isSome = ok ∧ (∀ x, r = some x → h = x) ∧ Below w.heap.size w w'

set_option maxHeartbeats 400000 in
theorem shown_one (leaf : ByteArray) (p : Option Addr) (c k i : Nat) (w : World) (hl : leaf.size < 40000000000) :
    Calls Tryz.prog 56 #[.string leaf, .int .i64 (i : Int), .int .i64 1, .slice p k c] w (ShowsAs (if k = 0 then some leaf else none) w) := by
  cases k with
  | zero =>
    go_enter Tryz.func56, Tryz.ntmps56
    go_wp2
    go_ret2
    exact ⟨leaf, true, by simp, hl, rfl, fun x h => by simpa using h, Below.refl _ _⟩
  | succ k =>
    go_enter Tryz.func56, Tryz.ntmps56
    go_wp2
    go_ret2
    exact ⟨leaf, false, (by simp; omega), hl, by simp, (fun x h => by simp at h), Below.refl _ _⟩

set_option maxHeartbeats 400000 in
theorem shown_none (leaf : ByteArray) (p : Option Addr) (c i n : Nat) (w : World) (hn : 2 ≤ n) :
    Calls Tryz.prog 56 #[.string leaf, .int .i64 (i : Int), .int .i64 (n : Int), .slice p 0 c] w (ShowsAs none w) := by
  have h1 : ((n : Int) == 1) = false := by simp; omega
  go_enter Tryz.func56, Tryz.ntmps56
  go_wp2
  go_ret2
  exact ⟨_, _, rfl, by decide, rfl, (fun x h => by cases h), Below.refl _ _⟩

set_option maxHeartbeats 400000 in
theorem shown_left (leaf x : ByteArray) (b o c k i n : Nat) (w : World) (r : Option ByteArray) (hn : 2 ≤ n) (hn2 : n ≤ 1099511627776) (hi : i < spl n) (hc : k + 1 ≤ c) (hk : k < 1000000000) (hx : w.cell? ⟨b, o + k, none⟩ = some (.string x)) (hxs : x.size < 40000000000)
  (hrec : Calls Tryz.prog 56 #[.string leaf, .int .i64 (i : Int), .int .i64 ((spl n : Nat) : Int), .slice (some ⟨b, o, none⟩) k c] w (ShowsAs r w)) :
    Calls Tryz.prog 56 #[.string leaf, .int .i64 (i : Int), .int .i64 (n : Int), .slice (some ⟨b, o, none⟩) (k + 1) c] w (ShowsAs (r.map fun h => nodeS h x) w) := by
  have hsp := fun wx => splitRef_any n wx hn hn2
  have hlt := spl_lt hn
  generalize spl n = q at *
  have h1 : ((n : Int) == 1) = false := by simp; omega
  have hsl := fun wx => slice_h wx b o (k + 1) c k (by omega)
  go_enter Tryz.func56, Tryz.ntmps56
  go_wp2_with (first | (go_at_call 30; refine (hsp _).mono ?_; rintro e w' ⟨rfl, rfl⟩) | (go_at_call 56; refine hrec.mono ?_; rintro e w' ⟨h, ok, rfl, hs, ho, hv, hb⟩) | (go_at_call 14; refine (nodeRef_any h x _ hs hxs).mono ?_; rintro e w'' ⟨rfl, hb2⟩))
  go_ret2
  refine ⟨_, _, rfl, by rw [nodeS_size]; decide, by rw [Option.isSome_map]; exact ho, fun y hy => ?_, hb.trans (hb2.mono hb.size)⟩
  obtain ⟨z, hz, rfl⟩ := Option.map_eq_some_iff.1 hy
  rw [hv z hz]

set_option maxHeartbeats 400000 in
theorem shown_right (leaf x : ByteArray) (b o c k i n : Nat) (w : World) (r : Option ByteArray) (hn : 2 ≤ n) (hn2 : n ≤ 1099511627776) (hin : i < n) (hi : spl n ≤ i) (hc : k + 1 ≤ c) (hk : k < 1000000000) (hx : w.cell? ⟨b, o + k, none⟩ = some (.string x)) (hxs : x.size < 40000000000)
  (hrec : Calls Tryz.prog 56 #[.string leaf, .int .i64 ((i - spl n : Nat) : Int), .int .i64 ((n - spl n : Nat) : Int), .slice (some ⟨b, o, none⟩) k c] w (ShowsAs r w)) :
    Calls Tryz.prog 56 #[.string leaf, .int .i64 (i : Int), .int .i64 (n : Int), .slice (some ⟨b, o, none⟩) (k + 1) c] w (ShowsAs (r.map fun h => nodeS x h) w) := by
  have hsp := fun wx => splitRef_any n wx hn hn2
  have hlt := spl_lt hn
  generalize spl n = q at *
  rw [Int.natCast_sub hi, Int.natCast_sub (Nat.le_of_lt hlt)] at hrec
  have h1 : ((n : Int) == 1) = false := by simp; omega
  have hsl := fun wx => slice_h wx b o (k + 1) c k (by omega)
  go_enter Tryz.func56, Tryz.ntmps56
  go_wp2_with (first | (go_at_call 30; refine (hsp _).mono ?_; rintro e w' ⟨rfl, rfl⟩) | (go_at_call 56; refine hrec.mono ?_; rintro e w' ⟨h, ok, rfl, hs, ho, hv, hb⟩) | (go_at_call 14; refine (nodeRef_any x h _ hxs hs).mono ?_; rintro e w'' ⟨rfl, hb2⟩))
  go_ret2
  refine ⟨_, _, rfl, by rw [nodeS_size]; decide, by rw [Option.isSome_map]; exact ho, fun y hy => ?_, hb.trans (hb2.mono hb.size)⟩
  obtain ⟨z, hz, rfl⟩ := Option.map_eq_some_iff.1 hy
  rw [hv z hz]

theorem shown_any (leaf : ByteArray) (hl : leaf.size < 40000000000) : ∀ (rl : List ByteArray) (p : Option Addr) (c i n : Nat) (w : World), i < n → n ≤ 1099511627776 → rl.length ≤ c → rl.length < 1000000000 → (∀ s ∈ rl, s.size < 40000000000) →
    (∀ (j : Nat) s, rl.reverse[j]? = some s → ∃ b o, p = some ⟨b, o, none⟩ ∧ w.cell? ⟨b, o + j, none⟩ = some (.string s)) →
    Calls Tryz.prog 56 #[.string leaf, .int .i64 (i : Int), .int .i64 (n : Int), .slice p rl.length c] w (ShowsAs (shR leaf rl i n) w) := by
  intro rl
  induction rl with
  | nil =>
    intro p c i n w hi hn _ _ _ _
    by_cases h1 : n = 1
    · subst h1
      exact shown_one leaf p c 0 i w hl
    · simp only [shR, if_neg h1]
      exact shown_none leaf p c i n w (by omega)
  | cons x r ih =>
    intro p c i n w hi hn hc hk hz hp
    by_cases h1 : n = 1
    · subst h1
      exact shown_one leaf p c (r.length + 1) i w hl
    · simp only [List.length_cons] at hc hk ⊢
      obtain ⟨b, o, rfl, hx⟩ := hp r.length x (by simp)
      have hp' : ∀ (j : Nat) s, r.reverse[j]? = some s → ∃ b' o', some (⟨b, o, none⟩ : Addr) = some ⟨b', o', none⟩ ∧ w.cell? ⟨b', o' + j, none⟩ = some (.string s) := fun j s hs => hp j s (by
        rw [List.reverse_cons, List.getElem?_append_left (List.getElem?_eq_some_iff.1 hs).1]; exact hs)
      have hz' : ∀ s ∈ r, s.size < 40000000000 := fun s hs => hz s (List.mem_cons_of_mem _ hs)
      have hxs := hz x (List.mem_cons_self ..)
      have hl2 := spl_lt (n := n) (by omega)
      simp only [shR, if_neg h1]
      by_cases h2 : i < spl n
      · rw [if_pos h2]
        exact shown_left leaf x b o c r.length i n w _ (by omega) hn h2 hc (by omega) hx hxs (ih (some ⟨b, o, none⟩) c i (spl n) w h2 (by omega) (by omega) (by omega) hz' hp')
      · rw [if_neg h2]
        exact shown_right leaf x b o c r.length i n w _ (by omega) hn hi (by omega) hc (by omega) hx hxs (ih (some ⟨b, o, none⟩) c (i - spl n) (n - spl n) w (by omega) (by omega) (by omega) (by omega) hz' hp')
end Go.Proofs.YtlhohmlpcgbliabGreatDoor
namespace Go.Proofs.YtlhohmlpcgbliabGreatDoor
set_option maxRecDepth 100000
open Go.RowKit
attribute [local go_sem ↓] Go.wp_at_zero Go.wp_at_succ

/-- What a call of both gives. -/
def BothAs (r : Option (ByteArray × ByteArray)) (w : World) (e : Ending) (w' : World) : Prop :=
  ∃ a b ok, e = .returned (.tuple #[.string a, .string b, .bool ok]) ∧ a.size < 40000000000 ∧ b.size < 40000000000 ∧ r.isSome = ok ∧ (∀ x, r = some x → a = x.1 ∧ b = x.2) ∧ Below w.heap.size w w'

theorem eqI (m n : Nat) (h : m ≠ n) : ((m : Int) == (n : Int)) = false := by simp; omega

set_option maxHeartbeats 400000 in
theorem both_all (old : ByteArray) (p : Option Addr) (c k m : Nat) (w : World) (hl : old.size < 40000000000) :
    Calls Tryz.prog 57 #[.int .i64 (m : Int), .int .i64 (m : Int), .bool true, .string old, .slice p k c] w (BothAs (if k = 0 then some (old, old) else none) w) := by
  cases k with
  | zero =>
    go_enter Tryz.func57, Tryz.ntmps57
    go_wp2
    go_ret3
    exact ⟨old, old, true, by simp, hl, hl, rfl, (fun x h => by cases h; exact ⟨rfl, rfl⟩), Below.refl _ _⟩
  | succ k =>
    go_enter Tryz.func57, Tryz.ntmps57
    go_wp2
    go_ret3
    exact ⟨old, old, false, (by simp; omega), hl, hl, by simp, (fun x h => by simp at h), Below.refl _ _⟩

set_option maxHeartbeats 400000 in
theorem both_one (old x : ByteArray) (b o c m : Nat) (w : World) (hx : w.cell? ⟨b, o, none⟩ = some (.string x)) (hl : x.size < 40000000000) :
    Calls Tryz.prog 57 #[.int .i64 (m : Int), .int .i64 (m : Int), .bool false, .string old, .slice (some ⟨b, o, none⟩) 1 c] w (BothAs (some (x, x)) w) := by
  go_enter Tryz.func57, Tryz.ntmps57
  go_wp2
  go_quiet (fail)
  go_wp2
  go_ret3
  exact ⟨x, x, true, rfl, hl, hl, rfl, (fun y h => by cases h; exact ⟨rfl, rfl⟩), Below.drewN' (Below.refl _ _) _⟩

set_option maxHeartbeats 400000 in
theorem both_not (old : ByteArray) (p : Option Addr) (c k m : Nat) (w : World) (hk : k ≠ 1) :
    Calls Tryz.prog 57 #[.int .i64 (m : Int), .int .i64 (m : Int), .bool false, .string old, .slice p k c] w (BothAs none w) := by
  have h1 : ((k : Int) != 1) = true := by simp; omega
  go_enter Tryz.func57, Tryz.ntmps57
  go_wp2
  go_ret3
  exact ⟨_, _, false, rfl, by decide, by decide, rfl, (fun y h => by cases h), Below.refl _ _⟩

set_option maxHeartbeats 400000 in
theorem both_none (old : ByteArray) (p : Option Addr) (c m n : Nat) (all : Bool) (w : World) (hn : m ≠ n) :
    Calls Tryz.prog 57 #[.int .i64 (m : Int), .int .i64 (n : Int), .bool all, .string old, .slice p 0 c] w (BothAs none w) := by
  have h1 := eqI m n hn
  go_enter Tryz.func57, Tryz.ntmps57
  go_wp2
  go_ret3
  exact ⟨_, _, false, rfl, by decide, by decide, rfl, (fun y h => by cases h), Below.refl _ _⟩

set_option maxHeartbeats 400000 in
theorem both_left (old x : ByteArray) (b o c k m n : Nat) (all : Bool) (w : World) (r : Option (ByteArray × ByteArray)) (hmn : m ≠ n) (hn : 2 ≤ n) (hn2 : n ≤ 1099511627776) (hm : m ≤ spl n) (hc : k + 1 ≤ c) (hk : k < 1000000000) (hx : w.cell? ⟨b, o + k, none⟩ = some (.string x)) (hxs : x.size < 40000000000)
  (hrec : Calls Tryz.prog 57 #[.int .i64 (m : Int), .int .i64 ((spl n : Nat) : Int), .bool all, .string old, .slice (some ⟨b, o, none⟩) k c] w (BothAs r w)) :
    Calls Tryz.prog 57 #[.int .i64 (m : Int), .int .i64 (n : Int), .bool all, .string old, .slice (some ⟨b, o, none⟩) (k + 1) c] w (BothAs (r.map fun q => (q.1, nodeS q.2 x)) w) := by
  have hsp := fun wx => splitRef_any n wx hn hn2
  have hlt := spl_lt hn
  generalize spl n = q at *
  have h1 := eqI m n hmn
  have hsl := fun wx => slice_h wx b o (k + 1) c k (by omega)
  go_enter Tryz.func57, Tryz.ntmps57
  go_wp2_with (first | (go_at_call 30; refine (hsp _).mono ?_; rintro e w' ⟨rfl, rfl⟩) | (go_at_call 57; refine hrec.mono ?_; rintro e w' ⟨s, t, ok, rfl, hs, ht, ho, hv, hb⟩) | (go_at_call 14; refine (nodeRef_any t x _ ht hxs).mono ?_; rintro e w'' ⟨rfl, hb2⟩))
  go_ret3
  refine ⟨_, _, _, rfl, hs, by rw [nodeS_size]; decide, by rw [Option.isSome_map]; exact ho, fun y hy => ?_, hb.trans (hb2.mono hb.size)⟩
  obtain ⟨z, hz, rfl⟩ := Option.map_eq_some_iff.1 hy
  obtain ⟨rfl, rfl⟩ := hv z hz
  exact ⟨rfl, rfl⟩

set_option maxHeartbeats 400000 in
theorem both_right (old x : ByteArray) (b o c k m n : Nat) (all : Bool) (w : World) (r : Option (ByteArray × ByteArray)) (hmn : m < n) (hn : 2 ≤ n) (hn2 : n ≤ 1099511627776) (hm : spl n < m) (hc : k + 1 ≤ c) (hk : k < 1000000000) (hx : w.cell? ⟨b, o + k, none⟩ = some (.string x)) (hxs : x.size < 40000000000)
  (hrec : Calls Tryz.prog 57 #[.int .i64 ((m - spl n : Nat) : Int), .int .i64 ((n - spl n : Nat) : Int), .bool false, .string old, .slice (some ⟨b, o, none⟩) k c] w (BothAs r w)) :
    Calls Tryz.prog 57 #[.int .i64 (m : Int), .int .i64 (n : Int), .bool all, .string old, .slice (some ⟨b, o, none⟩) (k + 1) c] w (BothAs (r.map fun q => (nodeS x q.1, nodeS x q.2)) w) := by
  have hsp := fun wx => splitRef_any n wx hn hn2
  have hlt := spl_lt hn
  generalize spl n = q at *
  have h1 := eqI m n (by omega)
  rw [Int.natCast_sub (Nat.le_of_lt hm), Int.natCast_sub (Nat.le_of_lt hlt)] at hrec
  have hsl := fun wx => slice_h wx b o (k + 1) c k (by omega)
  go_enter Tryz.func57, Tryz.ntmps57
  go_wp2_with (first | (go_at_call 30; refine (hsp _).mono ?_; rintro e w' ⟨rfl, rfl⟩) | (go_at_call 57; refine hrec.mono ?_; rintro e w' ⟨s, t, ok, rfl, hs, ht, ho, hv, hb⟩) | (go_at_call_of 14 (Value.string s); refine (nodeRef_any x s _ hxs hs).mono ?_; rintro e w2 ⟨rfl, hb2⟩))
  refine (nodeRef_any x t _ hxs ht).mono ?_
  rintro e w3 ⟨rfl, hb3⟩
  go_wp2
  go_ret3
  have hb4 := hb.trans (hb2.mono hb.size)
  refine ⟨_, _, _, rfl, by rw [nodeS_size]; decide, by rw [nodeS_size]; decide, by rw [Option.isSome_map]; exact ho, fun y hy => ?_, hb4.trans (hb3.mono hb4.size)⟩
  obtain ⟨z, hz, rfl⟩ := Option.map_eq_some_iff.1 hy
  obtain ⟨rfl, rfl⟩ := hv z hz
  exact ⟨rfl, rfl⟩

theorem both_any (old : ByteArray) (hl : old.size < 40000000000) : ∀ (rl : List ByteArray) (p : Option Addr) (c m n : Nat) (all : Bool) (w : World), 1 ≤ m → m ≤ n → n ≤ 1099511627776 → rl.length ≤ c → rl.length < 1000000000 → (∀ s ∈ rl, s.size < 40000000000) →
    (∀ (j : Nat) s, rl.reverse[j]? = some s → ∃ b o, p = some ⟨b, o, none⟩ ∧ w.cell? ⟨b, o + j, none⟩ = some (.string s)) →
    Calls Tryz.prog 57 #[.int .i64 (m : Int), .int .i64 (n : Int), .bool all, .string old, .slice p rl.length c] w (BothAs (boR old rl m n all) w) := by
  intro rl
  induction rl with
  | nil =>
    intro p c m n all w hm1 hmn hn _ _ _ _
    by_cases h1 : m = n
    · subst h1
      cases all with
      | true => simpa [boR] using both_all old p c 0 m w hl
      | false => simpa [boR] using both_not old p c 0 m w (by omega)
    · simp only [boR, if_neg h1]
      exact both_none old p c m n all w h1
  | cons x r ih =>
    intro p c m n all w hm1 hmn hn hc hk hz hp
    simp only [List.length_cons] at hc hk ⊢
    obtain ⟨b, o, rfl, hx⟩ := hp r.length x (by simp)
    have hxs := hz x (List.mem_cons_self ..)
    by_cases h1 : m = n
    · subst h1
      cases all with
      | true => simpa [boR] using both_all old (some ⟨b, o, none⟩) c (r.length + 1) m w hl
      | false =>
        by_cases hr : r = []
        · subst hr
          simpa [boR] using both_one old x b o c m w (by simpa using hx) hxs
        · have := List.length_pos_iff.2 hr
          simpa [boR, hr] using both_not old (some ⟨b, o, none⟩) c (r.length + 1) m w (by omega)
    · have hp' : ∀ (j : Nat) s, r.reverse[j]? = some s → ∃ b' o', some (⟨b, o, none⟩ : Addr) = some ⟨b', o', none⟩ ∧ w.cell? ⟨b', o' + j, none⟩ = some (.string s) := fun j s hs => hp j s (by
        rw [List.reverse_cons, List.getElem?_append_left (List.getElem?_eq_some_iff.1 hs).1]; exact hs)
      have hz' : ∀ s ∈ r, s.size < 40000000000 := fun s hs => hz s (List.mem_cons_of_mem _ hs)
      have hl2 := spl_lt (n := n) (by omega)
      simp only [boR, if_neg h1]
      by_cases h2 : m ≤ spl n
      · rw [if_pos h2]
        exact both_left old x b o c r.length m n all w _ h1 (by omega) hn h2 hc (by omega) hx hxs (ih (some ⟨b, o, none⟩) c m (spl n) all w hm1 h2 (by omega) (by omega) (by omega) hz' hp')
      · rw [if_neg h2]
        exact both_right old x b o c r.length m n all w _ (by omega) (by omega) hn (by omega) hc (by omega) hx hxs (ih (some ⟨b, o, none⟩) c (m - spl n) (n - spl n) false w (by omega) (by omega) (by omega) (by omega) (by omega) hz' hp')
end Go.Proofs.YtlhohmlpcgbliabGreatDoor
namespace Go.Proofs.YtlhohmlpcgbliabGreatDoor
set_option maxRecDepth 100000
open Go.RowKit
attribute [local go_sem ↓] Go.wp_at_zero Go.wp_at_succ

/-- The slice v reads the texts ss, and has room for them. -/
def Lst (w : World) (v : Value) (ss : List ByteArray) : Prop :=
  ∃ p c, v = .slice p ss.length c ∧ ss.length ≤ c ∧ ∀ (j : Nat) s, ss[j]? = some s → ∃ b o, p = some ⟨b, o, none⟩ ∧ w.cell? ⟨b, o + j, none⟩ = some (.string s)
theorem Lst.below {w w' : World} {v : Value} {ss : List ByteArray} (h : Lst w v ss) (hb : Below w.heap.size w w') : Lst w' v ss := by
  obtain ⟨p, c, h1, hc, h2⟩ := h
  refine ⟨p, c, h1, hc, fun i s hs => ?_⟩
  obtain ⟨g, off, h3, h4⟩ := h2 i s hs
  exact ⟨g, off, h3, by rw [hb.cell (World.block_lt_of_cell? _ _ h4)]; exact h4⟩

/-- What Included must answer. -/
def inclB (leaf : ByteArray) (i n : Int) (ss : List ByteArray) (root : ByteArray) : Bool :=
  decide (0 ≤ i ∧ i < n ∧ n ≤ 1099511627776) && decide ((cl 40 leaf leaf i.toNat (n.toNat - 1) ss).map (·.2) = some root)
/-- What Extends must answer. -/
def extB (m n : Int) (old root : ByteArray) (ss : List ByteArray) : Bool :=
  decide (1 ≤ m ∧ m ≤ n ∧ n ≤ 1099511627776) && decide (boR old ss.reverse m.toNat n.toNat true = some (old, root))

theorem eqs (x y : ByteArray) : (x.toList == y.toList) = decide (x = y) := by
  rw [ByteArray.toList_eq, ByteArray.toList_eq]
  by_cases h : x = y
  · subst h; simp
  · rw [decide_eq_false h, beq_eq_false_iff_ne]
    intro e
    apply h
    cases x; cases y
    simp only [ByteArray.mk.injEq]
    exact Array.toList_inj.1 e

/-- A list's texts are few and short enough. -/
def Few (ss : List ByteArray) : Prop := ss.length ≤ 1048576 ∧ ∀ s ∈ ss, s.size ≤ 1048576
/-- .. for what joins no texts. -/
def FewB (ss : List ByteArray) : Prop := ss.length ≤ 140737488355328 ∧ ∀ s ∈ ss, s.size ≤ 140737488355328
theorem Few.big {ss : List ByteArray} (h : Few ss) : FewB ss := ⟨by have := h.1; omega, fun s hs => by have := h.2 s hs; omega⟩

set_option maxHeartbeats 400000 in
theorem inclRef_low (leaf root : ByteArray) (i n : Int) (v : Value) (w : World) (h : i < 0) :
    Calls Tryz.prog 33 #[.string leaf, .int .i64 i, .int .i64 n, v, .string root] w fun e w' => e = .returned (.bool false) ∧ w' = w := by
  go_enter Tryz.func33, Tryz.ntmps33
  go_wp2
  go_ret
  exact ⟨rfl, rfl⟩
set_option maxHeartbeats 400000 in
theorem inclRef_high (leaf root : ByteArray) (i n : Int) (v : Value) (w : World) (h0 : 0 ≤ i) (h : n ≤ i) :
    Calls Tryz.prog 33 #[.string leaf, .int .i64 i, .int .i64 n, v, .string root] w fun e w' => e = .returned (.bool false) ∧ w' = w := by
  go_enter Tryz.func33, Tryz.ntmps33
  go_wp2
  go_ret
  exact ⟨rfl, rfl⟩
set_option maxHeartbeats 400000 in
theorem inclRef_great (leaf root : ByteArray) (i n : Int) (v : Value) (w : World) (h0 : 0 ≤ i) (h1 : i < n) (h : 1099511627776 < n) :
    Calls Tryz.prog 33 #[.string leaf, .int .i64 i, .int .i64 n, v, .string root] w fun e w' => e = .returned (.bool false) ∧ w' = w := by
  go_enter Tryz.func33, Tryz.ntmps33
  go_wp2
  go_ret
  exact ⟨rfl, rfl⟩
set_option maxHeartbeats 400000 in
theorem inclRef_mid (leaf root : ByteArray) (i n : Int) (v : Value) (w : World) (r : Option ByteArray) (h0 : 0 ≤ i) (h1 : i < n) (h : n ≤ 1099511627776)
  (hs : Calls Tryz.prog 56 #[.string leaf, .int .i64 i, .int .i64 n, v] w (ShowsAs r w)) :
    Calls Tryz.prog 33 #[.string leaf, .int .i64 i, .int .i64 n, v, .string root] w fun e w' => e = .returned (.bool (decide (r = some root))) ∧ Below w.heap.size w w' := by
  cases r with
  | none =>
    go_enter Tryz.func33, Tryz.ntmps33
    go_wp2_with (go_at_call 56; refine hs.mono ?_; rintro e w' ⟨x, ok, rfl, hs, ho, hv, hb⟩; obtain rfl : false = ok := ho)
    go_ret
    exact ⟨rfl, hb⟩
  | some y =>
    go_enter Tryz.func33, Tryz.ntmps33
    go_wp2_with (go_at_call 56; refine hs.mono ?_; rintro e w' ⟨x, ok, rfl, hs, ho, hv, hb⟩; obtain rfl : true = ok := ho; obtain rfl := hv y rfl; clear hv)
    go_ret
    exact ⟨by simp [eqs], hb⟩

theorem cl_shR (leaf : ByteArray) (i n : Nat) (ss : List ByteArray) (h1 : i < n) (h2 : n ≤ 1099511627776) : shR leaf ss.reverse i n = (cl 40 leaf leaf i (n - 1) ss).map (·.2) := by
  have := shR_cl leaf ss.reverse i n 40 h1 (by omega)
  rwa [List.reverse_reverse] at this

theorem inclRef_any (leaf root : ByteArray) (i n : Int) (v : Value) (ss : List ByteArray) (w : World) (hl : leaf.size ≤ 1048576) (hv : Lst w v ss) (hf : Few ss) :
    Calls Tryz.prog 33 #[.string leaf, .int .i64 i, .int .i64 n, v, .string root] w fun e w' => e = .returned (.bool (inclB leaf i n ss root)) ∧ Below w.heap.size w w' := by
  unfold inclB
  by_cases h0 : 0 ≤ i
  · by_cases h1 : i < n
    · by_cases h2 : n ≤ 1099511627776
      · obtain ⟨p, c, rfl, hc, hcell⟩ := hv
        obtain ⟨a, rfl⟩ := Int.eq_ofNat_of_zero_le h0
        obtain ⟨b, rfl⟩ := Int.eq_ofNat_of_zero_le (show 0 ≤ n by omega)
        have hs := shown_any leaf (by omega) ss.reverse p c a b w (by omega) (by omega) (by simpa using hc) (by simp; have := hf.1; omega) (fun s h => by have := hf.2 s (List.mem_reverse.1 h); omega) (by simpa using hcell)
        rw [cl_shR leaf a b ss (by omega) (by omega), List.length_reverse] at hs
        refine (inclRef_mid leaf root a b _ w _ h0 h1 h2 hs).mono fun e w' ⟨he, hb⟩ => ⟨?_, hb⟩
        rw [he, decide_eq_true (show (0 : Int) ≤ a ∧ (a : Int) < b ∧ (b : Int) ≤ 1099511627776 from ⟨h0, h1, h2⟩)]
        simp
      · refine (inclRef_great leaf root i n v w h0 h1 (by omega)).mono fun e w' ⟨he, hb⟩ => ⟨?_, by rw [hb]; exact Below.refl _ _⟩
        rw [he, decide_eq_false (by omega)]; rfl
    · refine (inclRef_high leaf root i n v w h0 (by omega)).mono fun e w' ⟨he, hb⟩ => ⟨?_, by rw [hb]; exact Below.refl _ _⟩
      rw [he, decide_eq_false (by omega)]; rfl
  · refine (inclRef_low leaf root i n v w (by omega)).mono fun e w' ⟨he, hb⟩ => ⟨?_, by rw [hb]; exact Below.refl _ _⟩
    rw [he, decide_eq_false (by omega)]; rfl

set_option maxHeartbeats 400000 in
theorem extRef_low (old root : ByteArray) (m n : Int) (v : Value) (w : World) (h : m < 1) :
    Calls Tryz.prog 34 #[.int .i64 m, .int .i64 n, .string old, .string root, v] w fun e w' => e = .returned (.bool false) ∧ w' = w := by
  go_enter Tryz.func34, Tryz.ntmps34
  go_wp2
  go_ret
  exact ⟨rfl, rfl⟩
set_option maxHeartbeats 400000 in
theorem extRef_high (old root : ByteArray) (m n : Int) (v : Value) (w : World) (h0 : 1 ≤ m) (h : n < m) :
    Calls Tryz.prog 34 #[.int .i64 m, .int .i64 n, .string old, .string root, v] w fun e w' => e = .returned (.bool false) ∧ w' = w := by
  go_enter Tryz.func34, Tryz.ntmps34
  go_wp2
  go_ret
  exact ⟨rfl, rfl⟩
set_option maxHeartbeats 400000 in
theorem extRef_great (old root : ByteArray) (m n : Int) (v : Value) (w : World) (h0 : 1 ≤ m) (h1 : m ≤ n) (h : 1099511627776 < n) :
    Calls Tryz.prog 34 #[.int .i64 m, .int .i64 n, .string old, .string root, v] w fun e w' => e = .returned (.bool false) ∧ w' = w := by
  go_enter Tryz.func34, Tryz.ntmps34
  go_wp2
  go_ret
  exact ⟨rfl, rfl⟩
set_option maxHeartbeats 400000 in
theorem extRef_mid (old root : ByteArray) (m n : Int) (v : Value) (w : World) (r : Option (ByteArray × ByteArray)) (h0 : 1 ≤ m) (h1 : m ≤ n) (h : n ≤ 1099511627776)
  (hs : Calls Tryz.prog 57 #[.int .i64 m, .int .i64 n, .bool true, .string old, v] w (BothAs r w)) :
    Calls Tryz.prog 34 #[.int .i64 m, .int .i64 n, .string old, .string root, v] w fun e w' => e = .returned (.bool (decide (r = some (old, root)))) ∧ Below w.heap.size w w' := by
  cases r with
  | none =>
    go_enter Tryz.func34, Tryz.ntmps34
    go_wp2_with (go_at_call 57; refine hs.mono ?_; rintro e w' ⟨x, y, ok, rfl, hs, ht, ho, hv, hb⟩; obtain rfl : false = ok := ho)
    go_ret
    exact ⟨rfl, hb⟩
  | some q =>
    obtain ⟨a, b⟩ := q
    by_cases ha : a = old
    · subst ha
      go_enter Tryz.func34, Tryz.ntmps34
      go_wp2_with (go_at_call 57; refine hs.mono ?_; rintro e w' ⟨x, y, ok, rfl, hs, ht, ho, hv, hb⟩; obtain rfl : true = ok := ho; obtain ⟨rfl, rfl⟩ := hv _ rfl; clear hv)
      go_ret
      exact ⟨by simp [eqs], hb⟩
    · have hE : (a.toList == old.toList) = false := by rw [eqs, decide_eq_false ha]
      have ha' : Hid (¬ a = old) := ha
      clear ha
      go_enter Tryz.func34, Tryz.ntmps34
      go_wp2_with (go_at_call 57; refine hs.mono ?_; rintro e w' ⟨x, y, ok, rfl, hs, ht, ho, hv, hb⟩; obtain rfl : true = ok := ho; obtain ⟨rfl, rfl⟩ := hv _ rfl; clear hv)
      go_ret
      exact ⟨by simp [ha'.out], hb⟩

theorem extRef_any (old root : ByteArray) (m n : Int) (v : Value) (ss : List ByteArray) (w : World) (hl : old.size ≤ 1048576) (hv : Lst w v ss) (hf : Few ss) :
    Calls Tryz.prog 34 #[.int .i64 m, .int .i64 n, .string old, .string root, v] w fun e w' => e = .returned (.bool (extB m n old root ss)) ∧ Below w.heap.size w w' := by
  unfold extB
  by_cases h0 : 1 ≤ m
  · by_cases h1 : m ≤ n
    · by_cases h2 : n ≤ 1099511627776
      · obtain ⟨p, c, rfl, hc, hcell⟩ := hv
        obtain ⟨a, rfl⟩ := Int.eq_ofNat_of_zero_le (show 0 ≤ m by omega)
        obtain ⟨b, rfl⟩ := Int.eq_ofNat_of_zero_le (show 0 ≤ n by omega)
        have hs := both_any old (by omega) ss.reverse p c a b true w (by omega) (by omega) (by omega) (by simpa using hc) (by simp; have := hf.1; omega) (fun s h => by have := hf.2 s (List.mem_reverse.1 h); omega) (by simpa using hcell)
        rw [List.length_reverse] at hs
        refine (extRef_mid old root a b _ w _ h0 h1 h2 hs).mono fun e w' ⟨he, hb⟩ => ⟨?_, hb⟩
        rw [he, decide_eq_true (show (1 : Int) ≤ a ∧ (a : Int) ≤ b ∧ (b : Int) ≤ 1099511627776 from ⟨h0, h1, h2⟩)]
        simp
      · refine (extRef_great old root m n v w h0 h1 (by omega)).mono fun e w' ⟨he, hb⟩ => ⟨?_, by rw [hb]; exact Below.refl _ _⟩
        rw [he, decide_eq_false (by omega)]; rfl
    · refine (extRef_high old root m n v w h0 (by omega)).mono fun e w' ⟨he, hb⟩ => ⟨?_, by rw [hb]; exact Below.refl _ _⟩
      rw [he, decide_eq_false (by omega)]; rfl
  · refine (extRef_low old root m n v w (by omega)).mono fun e w' ⟨he, hb⟩ => ⟨?_, by rw [hb]; exact Below.refl _ _⟩
    rw [he, decide_eq_false (by omega)]; rfl
end Go.Proofs.YtlhohmlpcgbliabGreatDoor
