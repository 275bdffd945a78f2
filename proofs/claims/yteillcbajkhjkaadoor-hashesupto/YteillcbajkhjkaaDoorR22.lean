import Derived.Test.YteillcbajkhjkaaDoorR21
namespace Go.Proofs.YteillcbajkhjkaaDoor
open Go.RowKit
attribute [local go_sem ↓] Go.wp_at_zero Go.wp_at_succ

theorem exec_slice {P : Program} {o : Oper} {a : Act} {w : World} {t : TypeId} {x : Operand} {lo hi mx : Option Operand} {v u : Value} {l h m : Option Value} (ho : o.op = .slice t x lo hi mx) (hx : a.eval x = v) (hl : lo.map a.eval = l) (hh : hi.map a.eval = h) (hmm : mx.map a.eval = m)
    (hr : (Instr.sliceAt t v l h m).run P w = .ok u w) : (execOp a.eval o).run P w = .ok (.value u) w := by
  unfold execOp
  simp only [ho, hx, hl, hh, hmm, Sem.run_bind, hr, Result.andThen_ok, Sem.run_pure]

/-- What a part's call gives, in every world that has grown out of w. -/
def Gives (w : World) (f : FuncId) (vs : Array Value) (x : ByteArray) : Prop := ∀ wx, Below w.heap.size w wx → Calls Tryd.prog f vs wx fun e w' => e = .returned (.string x) ∧ Below wx.heap.size wx w'

set_option maxRecDepth 100000 in
set_option maxHeartbeats 1000000 in
theorem rtR6_wp {c1 c4 c5 c6 c7 c8 c9 c10 c11 c12 c13 c14 c15 c16 c17 c18 c19 c20 c21 c22 c23 c24 c25 : Value} (b o n c k : Nat) (v2 : Value) (x y z : ByteArray) (w : World) (Q : Exit → Act → World → Prop) (hk : k < n) (hc : n ≤ c)
  (h1 : Gives w 15 #[.slice (some ⟨b, o, none⟩) k c] x) (h2 : Gives w 15 #[.slice (some ⟨b, o + k, none⟩) (n - k) (c - k)] y) (h3 : Gives w 14 #[.string x, .string y] z)
  (hQ : ∀ (u17 u18 u19 u20 u21 u22 u23 u24 u25 : Value) (w' : World), Below w.heap.size w w' → Q .normal ⟨#[.slice (some ⟨b, o, none⟩) n c, c1, .string z, .int .i64 (k : Int), c4, c5, c6, c7, c8, c9, c10, c11, c12, c13, c14, c15, c16, u17, u18, u19, u20, u21, u22, u23, u24, u25], []⟩ w') :
  Code.wp Tryd.prog rtR6 Q ⟨#[.slice (some ⟨b, o, none⟩) n c, c1, v2, .int .i64 (k : Int), c4, c5, c6, c7, c8, c9, c10, c11, c12, c13, c14, c15, c16, c17, c18, c19, c20, c21, c22, c23, c24, c25], []⟩ w := by
  conv => arg 2; whnf
  refine wp_region_any (by kernel_rfl) ?_
  refine wpAnyH_pure (k := 0) (v := .slice (some ⟨b, o, none⟩) n c) (by rfl) (by kernel_rfl) (by kernel_rfl) (by kernel_rfl) (by rfl) (some 17) (by rfl) (fun _ => by kernel_rfl) ?_
  simp only [Act.put, List.setIfInBounds_toArray, List.set_cons_succ, List.set_cons_zero]
  refine wpAnyH_pure (k := 1) (v := .int .i64 (k : Int)) (by rfl) (by kernel_rfl) (by kernel_rfl) (by kernel_rfl) (by rfl) (some 18) (by rfl) (fun _ => by kernel_rfl) ?_
  simp only [Act.put, List.setIfInBounds_toArray, List.set_cons_succ, List.set_cons_zero]
  refine wpAnyH_pure (k := 2) (v := .slice (some ⟨b, o, none⟩) k c) (by rfl) (by kernel_rfl) (by kernel_rfl) (by kernel_rfl) (by rfl) (some 19) (by rfl) (fun wx => exec_slice (by rfl) (by rfl) (by rfl) (by rfl) (by rfl) (slice_h wx b o n c k (by omega))) ?_
  simp only [Act.put, List.setIfInBounds_toArray, List.set_cons_succ, List.set_cons_zero]
  refine wpAnyH_pure (k := 4) (v := .slice (some ⟨b, o, none⟩) n c) (by rfl) (by kernel_rfl) (by kernel_rfl) (by kernel_rfl) (by rfl) (some 21) (by rfl) (fun _ => by kernel_rfl) ?_
  simp only [Act.put, List.setIfInBounds_toArray, List.set_cons_succ, List.set_cons_zero]
  refine wpAnyH_pure (k := 5) (v := .int .i64 (k : Int)) (by rfl) (by kernel_rfl) (by kernel_rfl) (by kernel_rfl) (by rfl) (some 22) (by rfl) (fun _ => by kernel_rfl) ?_
  simp only [Act.put, List.setIfInBounds_toArray, List.set_cons_succ, List.set_cons_zero]
  refine wpAnyH_pure (k := 6) (v := .slice (some ⟨b, o + k, none⟩) (n - k) (c - k)) (by rfl) (by kernel_rfl) (by kernel_rfl) (by kernel_rfl) (by rfl) (some 23) (by rfl) (fun wx => exec_slice (by rfl) (by rfl) (by rfl) (by rfl) (by rfl) (slice_l wx b o n c k hk hc)) ?_
  simp only [Act.put, List.setIfInBounds_toArray, List.set_cons_succ, List.set_cons_zero]
  have hb0 : Below w.heap.size w w.drew := (Below.refl _ _).drew
  refine wpAnyH_call (i := 3) (f := 15) (vs := #[.slice (some ⟨b, o, none⟩) k c]) (by kernel_rfl) (by rfl) (by rfl) (some 20) (by rfl) (by kernel_rfl) ((h1 _ hb0).mono ?_)
  rintro e w1 ⟨rfl, hb1⟩
  refine ⟨_, rfl, ?_⟩
  simp only [Act.put, List.setIfInBounds_toArray, List.set_cons_succ, List.set_cons_zero]
  have hb2 : Below w.heap.size w w1 := hb0.trans (hb1.mono hb0.size)
  refine wpAnyH_call (i := 7) (f := 15) (vs := #[.slice (some ⟨b, o + k, none⟩) (n - k) (c - k)]) (by kernel_rfl) (by rfl) (by rfl) (some 24) (by rfl) (by kernel_rfl) ((h2 _ hb2).mono ?_)
  rintro e w2 ⟨rfl, hb3⟩
  refine ⟨_, rfl, ?_⟩
  simp only [Act.put, List.setIfInBounds_toArray, List.set_cons_succ, List.set_cons_zero]
  have hb4 : Below w.heap.size w w2 := hb2.trans (hb3.mono hb2.size)
  refine wpAnyH_call (i := 8) (f := 14) (vs := #[.string x, .string y]) (by kernel_rfl) (by rfl) (by rfl) (some 25) (by rfl) (by kernel_rfl) ((h3 _ hb4).mono ?_)
  rintro e w3 ⟨rfl, hb5⟩
  refine ⟨_, rfl, ?_⟩
  simp only [Act.put, List.setIfInBounds_toArray, List.set_cons_succ, List.set_cons_zero]
  have hb6 : Below w.heap.size w w3 := hb4.trans (hb5.mono hb4.size)
  refine wpAnyH_put (i := 9) (v := .string z) (by kernel_rfl) (by rfl) (by rfl) (some 2) (by rfl) (by kernel_rfl) ?_
  simp only [Act.put, List.setIfInBounds_toArray, List.set_cons_succ, List.set_cons_zero]
  refine wpAnyH_done (by kernel_rfl) ?_ _
  refine NoPanic.normal ?_
  exact hQ _ _ _ _ _ _ _ _ _ _ hb6
end Go.Proofs.YteillcbajkhjkaaDoor
