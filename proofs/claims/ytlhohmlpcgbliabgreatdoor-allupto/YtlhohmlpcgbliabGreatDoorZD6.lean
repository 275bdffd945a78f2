import Derived.Test.YtlhohmlpcgbliabGreatDoorZR9
import Derived.StillTail
import Derived.Test.YtlhohmlpcgbliabGreatDoorZD5
namespace Go.Proofs.YtlhohmlpcgbliabGreatDoor

section
variable {P : Program} {ops : Array Oper} {Q : Exit → Act → World → Prop} {C : World → Prop} {z : Nat}
/-- Whatever order is picked from here on; behind every operation but z C holds. -/
def wpAnyZ (P : Program) (ops : Array Oper) (Q : Exit → Act → World → Prop) (C : World → Prop) (z : Nat) : Nat → Array Bool → Act → World → Prop
  | 0, listed, a, w => Region.ready .any ops listed = [] ∧ Q .normal a w
  | fuel + 1, listed, a, w => (Region.ready .any ops listed = [] → Q .normal a w) ∧ ∀ i ∈ Region.ready .any ops listed, wpOp P ops Q i (fun a' w' => (i ≠ z → C w') ∧ wpAnyZ P ops Q C z fuel (listed.setIfInBounds i true) a' w') a w
theorem wpAny_of_Z : ∀ (fuel : Nat) (listed : Array Bool) (a : Act) (w : World), wpAnyZ P ops Q C z fuel listed a w → wpAny P .any ops Q fuel listed a w
  | 0, _, _, _, h => h
  | fuel + 1, _, _, _, h => ⟨h.1, fun i hi => wpOp_mono (fun a' w' h' => wpAny_of_Z fuel _ a' w' h'.2) (h.2 i hi)⟩
theorem wpAnyZ_first {i : Nat} {oi : Oper} {v : Value} (hi : ops[i]? = some oi) (hsel : ∀ (j : Nat) (o : Oper) cs b, ops[j]? = some o → o.op ≠ .select cs b)
    (hQ : ∀ c a w, Q (.panic c) (a.put oi.dst v) w → Q (.panic c) a w) (hwz : Region.waitsFor .any ops z i = true) :
    ∀ (fuel : Nat) (listed : Array Bool) (a : Act) (w : World),
      (∀ j oj, ops[j]? = some oj → j ≠ i → listed.getD j true = false → (∀ e ∈ oj.after, Region.binds .any e = true → e.on ≠ i) → oi.apart ops oj = true) →
      i ∈ Region.ready .any ops listed → YieldsIf P ops C oi v a → C w →
      wpAnyZ P ops Q C z fuel (listed.setIfInBounds i true) (a.put oi.dst v) w → wpAnyZ P ops Q C z (fuel + 1) listed a w := by
  intro fuel
  induction fuel with
  | zero =>
    intro listed a w _ hr hy hS H
    refine ⟨fun h => (by rw [h] at hr; cases hr), fun j hj => ?_⟩
    by_cases hji : j = i
    · subst hji; exact hy.wpOp hi hS ⟨fun _ => hS, H⟩
    · have := ready_mono hj hji
      rw [H.1] at this
      cases this
  | succ fuel ih =>
    intro listed a w hfree hr hy hS H
    refine ⟨fun h => (by rw [h] at hr; cases hr), fun j hj => ?_⟩
    by_cases hji : j = i
    · subst hji; exact hy.wpOp hi hS ⟨fun _ => hS, H⟩
    · have h1 := H.2 j (ready_mono hj hji)
      obtain ⟨hjun, oj, hoj, hall⟩ := mem_ready.1 hj
      have hnot : ∀ e ∈ oj.after, Region.binds .any e = true → e.on ≠ i := fun e he hb heq => by
        have h1 := hall e he hb
        have h0 := (mem_ready.1 hr).1
        rw [heq] at h1
        rcases Nat.lt_or_ge i listed.size with h' | h'
        · simp [h'] at h0 h1; rw [h0] at h1; cases h1
        · simp [Array.getElem?_eq_none h'] at h1
      have hjz : j ≠ z := fun e => by
        subst e
        obtain ⟨oz, hoz, e, he, hb, hon⟩ := Region.waitsFor_spec hwz
        rw [hoj] at hoz
        cases hoz
        exact hnot e he hb hon
      have h2 := wpOp_putIf hoj (hfree j oj hoj hji hjun hnot) (fun cs b => hsel i oi cs b hi) (fun cs b => hsel j oj cs b hoj) hQ hy h1
      have hfree' : ∀ k ok, ops[k]? = some ok → k ≠ i → (listed.setIfInBounds j true).getD k true = false →
          (∀ e ∈ ok.after, Region.binds .any e = true → e.on ≠ i) → oi.apart ops ok = true := fun k ok hk hki hun hno => by
        refine hfree k ok hk hki ?_ hno
        by_cases hjk : j = k
        · subst hjk; exact hjun
        · rw [getD_set_ne true hjk] at hun; exact hun
      refine wpOp_mono (fun a' w' h3 => ⟨h3.2.1, ih (listed.setIfInBounds j true) a' w' hfree' (ready_mono hr (Ne.symm hji)) h3.1 (h3.2.1 hjz) ?_⟩) h2
      rw [Array.setIfInBounds_comm _ _ hji]
      exact h3.2.2

/-- A region that draws its order, walked from its start. -/
theorem wp_region_z {id : Nat} (z : Nat) {l : List Oper} {a : Act} {w : World} (C : World → Prop) (hm : P.follows .mixedOrders = true)
    (h : wpAnyZ P l.toArray (NoPanic Q) C z l.length (Array.replicate l.length false) a w.drew) : (Code.region id l.toArray true).wp P Q a w := by
  refine wp_region_noPanic (Go.wp_region_any hm ?_)
  refine wpAny_of_Z (C := C) (z := z) _ _ _ _ ?_
  simpa using h
/-- An operation that yields its value in every world that meets C, and for which z waits, may be taken first. -/
theorem wpAnyZ_pure {k fuel : Nat} {o : Oper} {v : Value} {listed : Array Bool} {a : Act} {w : World} (h0 : ops[k]? = some o) (hs : Region.noSelect ops = true) (hf : Region.free .any ops listed k = true)
    (hr : (Region.ready .any ops listed).contains k = true) (hgd : o.guard = none) (d : Option Nat) (hd : o.dst = d) (hwz : Region.waitsFor .any ops z k = true) (hC : C w) (hv : ∀ wx, C wx → (execOp a.eval o).run P wx = .ok (.value v) wx)
    (h : wpAnyZ P ops (NoPanic Q) C z fuel (listed.setIfInBounds k true) (a.put d v) w) : wpAnyZ P ops (NoPanic Q) C z (fuel + 1) listed a w :=
  wpAnyZ_first h0 (Region.noSelect_spec hs) (fun c a w hq => by cases hq) hwz fuel listed a w (Region.free_spec h0 hf) (by simpa using hr) (.inl ⟨by simp [Region.wanted, hgd], hv⟩) hC (by rw [hd]; exact h)

/-- The next operation comes up alone. -/
theorem wpAnyZ_op {i fuel : Nat} {o : Oper} {listed : Array Bool} {a : Act} {w : World} (hr : Region.ready .any ops listed = [i]) (hi : ops[i]? = some o) (hgd : o.guard = none)
    (h : o.wp P a w (fun a' w' => (i ≠ z → C w') ∧ wpAnyZ P ops Q C z fuel (listed.setIfInBounds i true) a' w') Q) : wpAnyZ P ops Q C z (fuel + 1) listed a w := by
  refine ⟨fun h0 => (by rw [hr] at h0; cases h0), fun j hj => ?_⟩
  rw [hr] at hj
  simp at hj
  subst hj
  unfold wpOp
  have hw : Region.wanted o (yielded ops a.tmps) = true := by simp [Region.wanted, hgd]
  simp only [hi, hw, if_true]
  exact .inl h
theorem wpAnyZ_val {i fuel : Nat} {o : Oper} {listed : Array Bool} {a : Act} {w w' : World} {v : Value} (hr : Region.ready .any ops listed = [i]) (hi : ops[i]? = some o) (hgd : o.guard = none) (d : Option Nat) (hd : o.dst = d)
    (hv : (execOp a.eval o).run P w = .ok (.value v) w') (hS : i ≠ z → C w') (h : wpAnyZ P ops Q C z fuel (listed.setIfInBounds i true) (a.put d v) w') : wpAnyZ P ops Q C z (fuel + 1) listed a w := by
  refine wpAnyZ_op hr hi hgd ?_
  unfold Oper.wp
  rw [hv]
  rw [← hd] at h
  exact ⟨hS, h⟩
theorem wpAnyZ_skip {i fuel : Nat} {o : Oper} {listed : Array Bool} {a : Act} {w w' : World} (hr : Region.ready .any ops listed = [i]) (hi : ops[i]? = some o) (hgd : o.guard = none) (hd : o.dst = none)
    (hx : (execOp a.eval o).run P w = .ok .skip w') (hS : i ≠ z → C w') (h : wpAnyZ P ops Q C z fuel (listed.setIfInBounds i true) a w') : wpAnyZ P ops Q C z (fuel + 1) listed a w := by
  refine wpAnyZ_op hr hi hgd ?_
  unfold Oper.wp
  rw [hx]
  have e : a.put o.dst undef = a := by rw [hd]; rfl
  simp only [Oper.upon]
  rw [e]
  exact ⟨hS, h⟩
theorem wpAnyZ_done {fuel : Nat} {listed : Array Bool} {a : Act} {w : World} (hr : Region.ready .any ops listed = []) (h : Q .normal a w) : wpAnyZ P ops Q C z fuel listed a w := by
  cases fuel with
  | zero => exact ⟨hr, h⟩
  | succ f => exact ⟨fun _ => h, fun i hi => by rw [hr] at hi; cases hi⟩
end
end Go.Proofs.YtlhohmlpcgbliabGreatDoor
namespace Go.Proofs.YtlhohmlpcgbliabGreatDoor
set_option maxRecDepth 100000
open Go.RowKit
attribute [local go_sem ↓] Go.wp_at_zero Go.wp_at_succ

theorem foldl_put (off : Nat) : ∀ (l : List Value) (k : Nat) (cells : Array Value), ((l.zipIdx k).foldl (fun cs (x : Value × Nat) => cs.setIfInBounds (off + x.2) x.1) cells).toList = setL cells.toList (off + k) l := by
  intro l
  induction l with
  | nil => intro k cells; rfl
  | cons v r ih =>
    intro k cells
    rw [List.zipIdx_cons, List.foldl_cons, ih, setL]
    simp [Nat.add_assoc]
theorem fill_put (off : Nat) (vs : List Value) (cells : Array Value) : vs.toArray.zipIdx.foldl (fun cs (x : Value × Nat) => cs.setIfInBounds (off + x.2) x.1) cells = (setL cells.toList off vs).toArray := by
  apply Array.toList_inj.1
  rw [← Array.foldl_toList]
  simpa using foldl_put off vs 0 cells
theorem zeroWr : Tryz.zeroCells141 = (Value.int .i64 0 :: u8s (List.replicate 128 0)).toArray := by kernel_rfl
theorem buildWr (w : World) (n : Int) (s : List Nat) (hs : s.length = 128) : (Instr.build 141 #[(0, .int .i64 n), (1, .agg (u8s s).toArray)]).run Tryz.prog w = .ok (.agg (Value.int .i64 n :: u8s s).toArray) w := by
  refine run_build w 141 _ _ ?_
  have hb : ∀ parts, Tryz.prog.built 141 parts = Instr.fill ((#[(0, 1), (1, 128)] : Array (Nat × Nat))[·]?) Tryz.zeroCells141 parts := fun parts => by kernel_rfl
  rw [hb, zeroWr]
  have h1 : (u8s s).toArray.size = 128 := by simp [hs]
  have e1 : Instr.fill ((#[(0, 1), (1, 128)] : Array (Nat × Nat))[·]?) (Value.int .i64 0 :: u8s (List.replicate 128 0)).toArray [(0, .int .i64 n), (1, .agg (u8s s).toArray)] =
      some ((u8s s).toArray.zipIdx.foldl (fun cs (x : Value × Nat) => cs.setIfInBounds (1 + x.2) x.1) (Value.int .i64 n :: u8s (List.replicate 128 0)).toArray) := by
    simp [Instr.fill, Value.cells, hs]
  rw [e1, fill_put]
  congr 2
  rw [setL_eq _ _ _ (by simp [hs])]
  simp [hs]
theorem buildSliceWr (w : World) (cs : List Value) (hs : cs.length = 129) : (Instr.buildSlice 91 1 #[(0, .agg cs.toArray)]).run Tryz.prog w = .ok (.slice (some ⟨w.heap.size, 0, none⟩) 1 1) (w.alloc (.cells cs.toArray 141)) := by
  have e1 : ∀ f : Nat → Value, Instr.fill (fun i => some (i * 129, 129)) ((Array.range 129).map f) [(0, .agg cs.toArray)] = some cs.toArray := by
    intro f
    have e : Instr.fill (fun i => some (i * 129, 129)) ((Array.range 129).map f) [(0, .agg cs.toArray)] = some (cs.toArray.zipIdx.foldl (fun cs (x : Value × Nat) => cs.setIfInBounds (0 + x.2) x.1) ((Array.range 129).map f)) := by
      simp [Instr.fill, Value.cells, hs]
    rw [e, fill_put, setL_eq _ _ _ (by simp [hs]), List.take_zero, List.nil_append, List.drop_eq_nil_of_le (by simp [hs]), List.append_nil]
  simp [Instr.buildSlice, run_underlying Tryz.underlying91, Tryz.zeroValue141, Value.cells, e1, newRow]

theorem infoWr3 : ∃ i, Tryz.prog.info? 141 = some i ∧ i.zero = some (.agg Tryz.zeroCells141) ∧ i.size = 129 ∧ i.bytes = 136 := by
  have h : (Tryz.prog.info? 141).map (fun i => (i.zero, i.size, i.bytes)) = some (some (.agg Tryz.zeroCells141), 129, 136) := by kernel_rfl
  cases hq : Tryz.prog.info? 141 with
  | none => simp [hq] at h
  | some i => simp [hq] at h; exact ⟨i, rfl, h.1, h.2.1, h.2.2⟩
theorem flatW_snoc (f : List (Nat × List Nat)) (n : Nat) (s : List Nat) : flatW f ++ (.int .i64 (n : Int) :: u8s s) = flatW (f ++ [(n, s)]) := by simp [flatW]
theorem exec_ld {P : Program} {o : Oper} {a : Act} {w : World} {t : TypeId} {x : Operand} {v u : Value} (ho : o.op = .load t x) (hx : a.eval x = v) (hr : (Instr.loadAt t v).run P w = .ok u w) : (execOp a.eval o).run P w = .ok (.value u) w := by
  unfold execOp
  simp only [ho, hx, Sem.run_bind, hr, Result.andThen_ok, Sem.run_pure]
theorem exec_build {P : Program} {o : Oper} {a : Act} {w : World} {t : TypeId} {ps : Array (Nat × Operand)} {vs : Array (Nat × Value)} {u : Value} (ho : o.op = .build t ps) (hx : ps.map (fun x => (x.1, a.eval x.2)) = vs) (hr : (Instr.build t vs).run P w = .ok u w) : (execOp a.eval o).run P w = .ok (.value u) w := by
  unfold execOp
  subst hx
  simp only [ho]
  simp [hr]
theorem exec_buildSlice {P : Program} {o : Oper} {a : Act} {w w' : World} {t : TypeId} {n : Nat} {ps : Array (Nat × Operand)} {vs : Array (Nat × Value)} {u : Value} (ho : o.op = .buildSlice t n ps) (hx : ps.map (fun x => (x.1, a.eval x.2)) = vs) (hr : (Instr.buildSlice t n vs).run P w = .ok u w') : (execOp a.eval o).run P w = .ok (.value u) w' := by
  unfold execOp
  subst hx
  simp only [ho]
  simp [hr]
theorem exec_store {P : Program} {o : Oper} {a : Act} {w w' : World} {t : TypeId} {x y : Operand} {v u : Value} (ho : o.op = .store t x y) (hx : a.eval x = v) (hy : a.eval y = u) (hr : (Instr.storeAt t v u).run P w = .ok () w') : (execOp a.eval o).run P w = .ok .skip w' := by
  unfold execOp
  simp only [ho, hx, hy]
  simp [hr]
theorem loadSl (w : World) (b o : Nat) (v : Value) (p : Option Addr) (n c : Nat) (hv : v = .slice p n c) (h : w.cell? ⟨b, o, none⟩ = some v) : (Instr.loadAt 91 (.pointer (some ⟨b, o, none⟩))).run Tryz.prog w = .ok v w := by
  subst hv
  simp [go_sem, h]
theorem storeSl (w : World) (b o : Nat) (u : Value) (p : Option Addr) (n c : Nat) (h : w.cell? ⟨b, o, none⟩ = some u) (hf : w.frozen? ⟨b, o, none⟩ = false) : (Instr.storeAt 91 (.pointer (some ⟨b, o, none⟩)) (.slice p n c)).run Tryz.prog w = .ok () (w.setCell ⟨b, o, none⟩ (.slice p n c)) := by
  simp [go_sem, h, hf]
end Go.Proofs.YtlhohmlpcgbliabGreatDoor
