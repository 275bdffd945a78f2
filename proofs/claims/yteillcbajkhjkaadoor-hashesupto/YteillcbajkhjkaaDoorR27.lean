import Derived.Test.YteillcbajkhjkaaDoorR26
namespace Go.Proofs.YteillcbajkhjkaaDoor
open Go.RowKit
attribute [local go_sem ↓] Go.wp_at_zero Go.wp_at_succ

section
variable {P : Program} {ops : Array Oper} {Q : Act → Prop} {S : World → Prop} {o : Oper} {rest : List Oper} {a : Act}
/-- An operation that only reads, where it is wanted. -/
theorem wpQuiet_yes {v : Value} (hw : Region.wanted o (yielded ops a.tmps) = true) (d : Option Nat) (hd : o.dst = d) (hv : ∀ w, S w → (execOp a.eval o).run P w = .ok (.value v) w) (h : wpQuiet P ops S Q rest (a.put d v)) : wpQuiet P ops S Q (o :: rest) a := by
  refine wpQuiet_step fun K hK => ?_
  rw [if_pos hw]
  refine ⟨v, fun w hs => ?_, hK _ (by rw [hd]; exact h)⟩
  unfold Oper.quietAt
  rw [hv w hs]
  exact ⟨rfl, rfl⟩
/-- .. and where it is not. -/
theorem wpQuiet_no (hw : (!Region.wanted o (yielded ops a.tmps)) = true) (d : Option Nat) (hd : o.dst = d) (h : wpQuiet P ops S Q rest (a.put d undef)) : wpQuiet P ops S Q (o :: rest) a := by
  refine wpQuiet_step fun K hK => ?_
  rw [if_neg (by simpa using hw)]
  exact hK _ (by rw [hd]; exact h)
/-- What is left of a drawn region, shut, so that nothing unfolds it. -/
structure WQ (P : Program) (ops : Array Oper) (S : World → Prop) (Q : Act → Prop) (rest : List Oper) (a : Act) : Prop where
  out : wpQuiet P ops S Q rest a
theorem WQ.yes {v : Value} (hw : Region.wanted o (yielded ops a.tmps) = true) (d : Option Nat) (hd : o.dst = d) (hv : ∀ w, S w → (execOp a.eval o).run P w = .ok (.value v) w) (h : WQ P ops S Q rest (a.put d v)) : WQ P ops S Q (o :: rest) a := ⟨wpQuiet_yes hw d hd hv h.out⟩
theorem WQ.no (hw : (!Region.wanted o (yielded ops a.tmps)) = true) (d : Option Nat) (hd : o.dst = d) (h : WQ P ops S Q rest (a.put d undef)) : WQ P ops S Q (o :: rest) a := ⟨wpQuiet_no hw d hd h.out⟩
theorem WQ.nil (h : Q a) : WQ P ops S Q [] a := ⟨wpQuiet_nil h⟩
theorem exec_bin {w : World} {op : BinOp} {t t2 : TypeId} {x y : Operand} {v1 v2 u : Value} (ho : o.op = .binOp op t x y t2) (hx : a.eval x = v1) (hy : a.eval y = v2) (hg : (eqGuard op t x y v1 v2).run P w = .ok () w) (hr : (binOp op t v1 v2).run P w = .ok u w) : (execOp a.eval o).run P w = .ok (.value u) w := by
  unfold execOp
  simp only [ho, hx, hy, Sem.run_bind, hg, hr, Result.andThen_ok, Sem.run_pure]
theorem exec_ia {w : World} {t : TypeId} {x y : Operand} {v1 v2 u : Value} (ho : o.op = .indexAddr t x y) (hx : a.eval x = v1) (hy : a.eval y = v2) (hr : (Instr.indexAt t v1 v2).run P w = .ok u w) : (execOp a.eval o).run P w = .ok (.value u) w := by
  unfold execOp
  simp only [ho, hx, hy, Sem.run_bind, hr, Result.andThen_ok, Sem.run_pure]
theorem exec_load {w : World} {t : TypeId} {x : Operand} {v u : Value} (ho : o.op = .load t x) (hx : a.eval x = v) (hr : (Instr.loadAt t v).run P w = .ok u w) : (execOp a.eval o).run P w = .ok (.value u) w := by
  unfold execOp
  simp only [ho, hx, Sem.run_bind, hr, Result.andThen_ok, Sem.run_pure]
end
theorem lss_true (w : World) (x y : Nat) (h : x < y) : (binOp .lss 3 (.int .i64 (x : Int)) (.int .i64 (y : Int))).run Tryd.prog w = .ok (.bool true) w := by simp [go_sem, h]
theorem lss_false (w : World) (x y : Nat) (h : y ≤ x) : (binOp .lss 3 (.int .i64 (x : Int)) (.int .i64 (y : Int))).run Tryd.prog w = .ok (.bool false) w := by simp [go_sem]; omega
theorem geq_false (w : World) (x y : Nat) (h : x < y) : (binOp .geq 3 (.int .i64 (x : Int)) (.int .i64 (y : Int))).run Tryd.prog w = .ok (.bool false) w := by simp [go_sem]; omega
theorem geq_true (w : World) (x y : Nat) (h : y ≤ x) : (binOp .geq 3 (.int .i64 (x : Int)) (.int .i64 (y : Int))).run Tryd.prog w = .ok (.bool true) w := by simp [go_sem, h]
theorem neq_self (w : World) (s : ByteArray) : (binOp .neq 9 (.string s) (.string s)).run Tryd.prog w = .ok (.bool false) w := by simp [go_sem]
theorem index_row (w : World) (b o n c k : Nat) (h : k < n) : (Instr.indexAt 22 (.slice (some ⟨b, o, none⟩) n c) (.int .i64 (k : Int))).run Tryd.prog w = .ok (.pointer (some ⟨b, o + k, none⟩)) w := by
  have h1 : (k : Int) < (n : Int) := by omega
  simp [go_sem, h1]
theorem cell_drew {w wx : World} {a : Addr} {x : Value} (hx : ∃ n, wx = w.drewN n) (h : w.cell? a = some x) : wx.cell? a = some x := by
  obtain ⟨n, rfl⟩ := hx
  rw [World.cell?_drewN]; exact h

noncomputable def whR8 : Code := ((Tryd.f11.body.bind (findRegion 8)).getD .skip)

set_option maxRecDepth 100000 in
set_option maxHeartbeats 1000000 in
theorem whole_nil (w : World) : Calls Tryd.prog 11 #[.slice none 0 0, .slice none 0 0] w fun e w' => e = .returned (.bool true) ∧ w' = w := by
  have hq := eqnil_none
  go_enter Tryd.func11, Tryd.ntmps11
  go_wp2
  go_ret
  exact ⟨rfl, rfl⟩

end Go.Proofs.YteillcbajkhjkaaDoor
