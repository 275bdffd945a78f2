import Derived.Test.YtlhohmlpcgbliaaDoorZV6
import Derived.Laws.StructEq
import Derived.Test.YtlhohmlpcgbliaaDoorZV1
namespace Go.Proofs.YtlhohmlpcgbliaaDoor
set_option maxRecDepth 100000
open Go.RowKit
attribute [local go_sem ↓] Go.wp_at_zero Go.wp_at_succ

theorem load_node (w : World) (r o : Nat) (x y : Value) (h0 : w.cell? ⟨r, o, none⟩ = some x) (h1 : w.cell? ⟨r, o + 1, none⟩ = some y) : (Instr.loadAt 42 (.pointer (some ⟨r, o, none⟩))).run Tryd.prog w = .ok (.agg #[x, y]) w := by
  refine run_loadAt_mid (P := Tryd.prog) w r o 42 [x, y] _ (fun j v hv => ?_) Tryd.underlying42 rfl (by kernel_rfl)
  match j, hv with
  | 0, hv => rw [Nat.add_zero, h0]; exact hv
  | 1, hv => rw [h1]; exact hv
  | j + 2, hv => simp at hv

theorem index_node (w : World) (b n c k : Nat) (h : k < n) : (Instr.indexAt 39 (.slice (some ⟨b, 0, none⟩) n c) (.int .i64 (k : Int))).run Tryd.prog w = .ok (.pointer (some ⟨b, k * 2, none⟩)) w := by
  have h1 : (k : Int) < (n : Int) := by omega
  simp [go_sem, h1]

theorem neq_node (w : World) (x y p q : ByteArray) : (binOp .neq 42 (.agg #[.string x, .string y]) (.agg #[.string p, .string q])).run Tryd.prog w = .ok (.bool (!decide (x = p ∧ y = q))) w := by
  simp [go_sem, eqs]
  by_cases h1 : x = p <;> by_cases h2 : y = q <;> simp [h1, h2]

section
variable {P : Program} {ops : Array Oper} {Q : Exit → Act → World → Prop} {S : World → Prop}
theorem wp_region_anyS {id : Nat} {l : List Oper} {a : Act} {w : World} (hm : P.follows .mixedOrders = true)
    (h : wpAnyH P .any l.toArray (NoPanic Q) S l.length (Array.replicate l.length false) a w.drew) : (Code.region id l.toArray true).wp P Q a w := by
  refine wp_region_noPanic (wp_region_held (S := S) hm ?_)
  simpa using h
theorem wpAnyS_pure {k fuel : Nat} {o : Oper} {v : Value} {listed : Array Bool} {a : Act} {w : World} (h0 : ops[k]? = some o) (hs : Region.noSelect ops = true) (hf : Region.free .any ops listed k = true)
    (hr : (Region.ready .any ops listed).contains k = true) (hgd : o.guard = none) (d : Option Nat) (hd : o.dst = d) (hS : S w) (hv : ∀ wx, S wx → (execOp a.eval o).run P wx = .ok (.value v) wx)
    (h : wpAnyH P .any ops (NoPanic Q) S fuel (listed.setIfInBounds k true) (a.put d v) w) : wpAnyH P .any ops (NoPanic Q) S (fuel + 1) listed a w :=
  wpAnyH_take h0 hs hf hr (fun c a w hq => by cases hq) (.inl ⟨by simp [Region.wanted, hgd], hv⟩) hS (by rw [hd]; exact h)
theorem wpAnyS_call {i fuel : Nat} {o : Oper} {listed : Array Bool} {a : Act} {w : World} {f : FuncId} {vs : Array Value} (hr : Region.ready .any ops listed = [i]) (hi : ops[i]? = some o) (hgd : o.guard = none) (d : Option Nat) (hd : o.dst = d)
    (hx : (execOp a.eval o).run P w = .ok (.enter f vs) w)
    (hc : Calls P f vs w fun e w' => ∃ v, e = .returned v ∧ S w' ∧ wpAnyH P .any ops Q S fuel (listed.setIfInBounds i true) (a.put d v) w') : wpAnyH P .any ops Q S (fuel + 1) listed a w := by
  refine wpAnyH_all hr (by simp) ?_
  intro j hj
  simp at hj
  subst hj
  unfold wpOp
  have hw : Region.wanted o (yielded ops a.tmps) = true := by simp [Region.wanted, hgd]
  simp only [hi, hw, if_true]
  refine .inl ?_
  unfold Oper.wp
  rw [hx, Oper.upon_enter]
  refine hc.mono ?_
  rintro e w' ⟨v, rfl, hS, h⟩
  rw [← hd] at h
  exact ⟨hS, h⟩
theorem wpAnyS_put {i fuel : Nat} {o : Oper} {listed : Array Bool} {a : Act} {w : World} {v : Value} (hr : Region.ready .any ops listed = [i]) (hi : ops[i]? = some o) (hgd : o.guard = none) (d : Option Nat) (hd : o.dst = d) (hS : S w)
    (hv : (execOp a.eval o).run P w = .ok (.value v) w) (h : wpAnyH P .any ops Q S fuel (listed.setIfInBounds i true) (a.put d v) w) : wpAnyH P .any ops Q S (fuel + 1) listed a w :=
  wpAnyH_val hr hi hgd hv hS (by rw [hd]; exact h)
end


set_option maxRecDepth 100000 in
set_option maxHeartbeats 1000000 in
theorem bdR19_wp {c0 c1 c2 c3 c4 c5 c6 c7 c8 c9 c10 c11 c12 c13 c14 c15 c16 c20 c21 c22 c23 c24 c25 c26 c27 c28 c29 c30 c31 c32 c33 c34 c35 c36 c37 c38 c39 c40 c41 c42 c43 c44 c45 c46 c47 c48 c49 c50 c51 c52 c53 c54 c55 c56 c57 c58 c59 c60 c61 c62 c63 c64 c65 c66 c67 c68 c69 c70 c71 c72 c73 c74 c75 c76 c77 c78 c79 c80 c81 c82 c83 c84 c85 c86 c87 c88 c89 c90 c91 c92 c93 c94 c95 c96 c97 c98 c99 c100 c101 c102 c103 c104 c105 c106 c107 c108 c109 c110 c111 c112 c113 c114 c115 c116 c117 c118 c119 : Value} (g n cap k r : Nat) (x y p q : ByteArray) (w : World) (Q : Exit → Act → World → Prop) (hk : k < n)
  (hx : w.cell? ⟨r, 0, none⟩ = some (.string x)) (hy : w.cell? ⟨r, 1, none⟩ = some (.string y)) (hp : w.cell? ⟨g, k * 2, none⟩ = some (.string p)) (hq : w.cell? ⟨g, k * 2 + 1, none⟩ = some (.string q))
  (hQ : ∀ (u87 u88 u89 u90 u91 : Value) (d : Nat), Q .normal ⟨#[c0, c1, c2, c3, c4, c5, c6, c7, c8, c9, c10, c11, c12, c13, c14, c15, c16, .slice (some ⟨g, 0, none⟩) n cap, .int .i64 (k : Int), .pointer (some ⟨r, 0, none⟩), c20, c21, c22, c23, c24, c25, c26, c27, c28, c29, c30, c31, c32, c33, c34, c35, c36, c37, c38, c39, c40, c41, c42, c43, c44, c45, c46, c47, c48, c49, c50, c51, c52, c53, c54, c55, c56, c57, c58, c59, c60, c61, c62, c63, c64, c65, c66, c67, c68, c69, c70, c71, c72, c73, c74, c75, c76, c77, c78, c79, c80, c81, c82, c83, c84, c85, c86, u87, u88, u89, u90, u91, .bool (!decide (x = p ∧ y = q)), c93, c94, c95, c96, c97, c98, c99, c100, c101, c102, c103, c104, c105, c106, c107, c108, c109, c110, c111, c112, c113, c114, c115, c116, c117, c118, c119], []⟩ (w.drewN d)) :
  Code.wp Tryd.prog (rgn Tryd.f6 19) Q ⟨#[c0, c1, c2, c3, c4, c5, c6, c7, c8, c9, c10, c11, c12, c13, c14, c15, c16, .slice (some ⟨g, 0, none⟩) n cap, .int .i64 (k : Int), .pointer (some ⟨r, 0, none⟩), c20, c21, c22, c23, c24, c25, c26, c27, c28, c29, c30, c31, c32, c33, c34, c35, c36, c37, c38, c39, c40, c41, c42, c43, c44, c45, c46, c47, c48, c49, c50, c51, c52, c53, c54, c55, c56, c57, c58, c59, c60, c61, c62, c63, c64, c65, c66, c67, c68, c69, c70, c71, c72, c73, c74, c75, c76, c77, c78, c79, c80, c81, c82, c83, c84, c85, c86, c87, c88, c89, c90, c91, c92, c93, c94, c95, c96, c97, c98, c99, c100, c101, c102, c103, c104, c105, c106, c107, c108, c109, c110, c111, c112, c113, c114, c115, c116, c117, c118, c119], []⟩ w := by
  conv => arg 2; whnf
  refine wp_region_quiet_lit (by kernel_rfl) (by kernel_rfl) (WQ.out ?_)
  refine WQ.yes (v := .agg #[.string x, .string y]) (by kernel_rfl) (some 87) (by rfl) (fun wx hxx => exec_load (by rfl) (by rfl) (load_node wx r 0 _ _ (cell_drew hxx hx) (cell_drew hxx hy))) ?_
  simp only [Act.put, List.setIfInBounds_toArray, List.set_cons_succ, List.set_cons_zero]
  refine WQ.yes (v := .slice (some ⟨g, 0, none⟩) n cap) (by kernel_rfl) (some 88) (by rfl) (fun wx hxx => by kernel_rfl) ?_
  simp only [Act.put, List.setIfInBounds_toArray, List.set_cons_succ, List.set_cons_zero]
  refine WQ.yes (v := .int .i64 (k : Int)) (by kernel_rfl) (some 89) (by rfl) (fun wx hxx => by kernel_rfl) ?_
  simp only [Act.put, List.setIfInBounds_toArray, List.set_cons_succ, List.set_cons_zero]
  refine WQ.yes (v := .pointer (some ⟨g, k * 2, none⟩)) (by kernel_rfl) (some 90) (by rfl) (fun wx hxx => exec_ia (by rfl) (by rfl) (by rfl) (index_node wx g n cap k hk)) ?_
  simp only [Act.put, List.setIfInBounds_toArray, List.set_cons_succ, List.set_cons_zero]
  refine WQ.yes (v := .agg #[.string p, .string q]) (by kernel_rfl) (some 91) (by rfl) (fun wx hxx => exec_load (by rfl) (by rfl) (load_node wx g (k * 2) _ _ (cell_drew hxx hp) (cell_drew hxx hq))) ?_
  simp only [Act.put, List.setIfInBounds_toArray, List.set_cons_succ, List.set_cons_zero]
  refine WQ.yes (v := .bool (!decide (x = p ∧ y = q))) (by kernel_rfl) (some 92) (by rfl) (fun wx hxx => exec_bin (by rfl) (by rfl) (by rfl) (by kernel_rfl) (neq_node wx x y p q)) ?_
  simp only [Act.put, List.setIfInBounds_toArray, List.set_cons_succ, List.set_cons_zero]
  refine WQ.nil ?_
  rintro _ ⟨d, rfl⟩
  exact hQ _ _ _ _ _ _
end Go.Proofs.YtlhohmlpcgbliaaDoor
namespace Go.Proofs.YtlhohmlpcgbliaaDoor
set_option maxRecDepth 100000
open Go.RowKit
attribute [local go_sem ↓] Go.wp_at_zero Go.wp_at_succ

theorem eql_self (w : World) (s : ByteArray) : (binOp .eql 9 (.string s) (.string s)).run Tryd.prog w = .ok (.bool true) w := by simp [go_sem]

set_option maxRecDepth 100000 in
set_option maxHeartbeats 1000000 in
theorem bdR20_wp {c0 c1 c2 c3 c4 c5 c6 c7 c8 c9 c11 c12 c13 c14 c15 c16 c20 c21 c22 c23 c24 c25 c26 c27 c28 c29 c30 c31 c32 c33 c34 c35 c36 c37 c38 c39 c40 c41 c42 c43 c44 c45 c46 c47 c48 c49 c50 c51 c52 c53 c54 c55 c56 c57 c58 c59 c60 c61 c62 c63 c64 c65 c66 c67 c68 c69 c70 c71 c72 c73 c74 c75 c76 c77 c78 c79 c80 c81 c82 c83 c84 c85 c86 c87 c88 c89 c90 c91 c92 c93 c94 c95 c96 c97 c98 c99 c100 c101 c102 c103 c104 c105 c106 c107 c108 c109 c110 c111 c112 c113 c114 c115 c116 c117 c118 c119 : Value} (g n cap k r : Nat) (v10 : Value) (x y p q z : ByteArray) (w : World) (Q : Exit → Act → World → Prop) (hk : k < n)
  (hx : w.cell? ⟨r, 0, none⟩ = some (.string x)) (hy : w.cell? ⟨r, 1, none⟩ = some (.string y)) (hp : w.cell? ⟨g, k * 2, none⟩ = some (.string p)) (hq : w.cell? ⟨g, k * 2 + 1, none⟩ = some (.string q))
  (h1 : Gives w 15 #[.string x, .string y] z) (h2 : Gives w 15 #[.string p, .string q] z)
  (hQ : ∀ (u93 u94 u95 u96 u97 u98 u99 u100 u101 u102 u103 u104 u105 u106 u107 u108 u109 : Value) (w' : World), Below w.heap.size w w' → Q .normal ⟨#[c0, c1, c2, c3, c4, c5, c6, c7, c8, c9, .bool true, c11, c12, c13, c14, c15, c16, .slice (some ⟨g, 0, none⟩) n cap, .int .i64 (k : Int), .pointer (some ⟨r, 0, none⟩), c20, c21, c22, c23, c24, c25, c26, c27, c28, c29, c30, c31, c32, c33, c34, c35, c36, c37, c38, c39, c40, c41, c42, c43, c44, c45, c46, c47, c48, c49, c50, c51, c52, c53, c54, c55, c56, c57, c58, c59, c60, c61, c62, c63, c64, c65, c66, c67, c68, c69, c70, c71, c72, c73, c74, c75, c76, c77, c78, c79, c80, c81, c82, c83, c84, c85, c86, c87, c88, c89, c90, c91, c92, u93, u94, u95, u96, u97, u98, u99, u100, u101, u102, u103, u104, u105, u106, u107, u108, u109, c110, c111, c112, c113, c114, c115, c116, c117, c118, c119], []⟩ w') :
  Code.wp Tryd.prog (rgn Tryd.f6 20) Q ⟨#[c0, c1, c2, c3, c4, c5, c6, c7, c8, c9, v10, c11, c12, c13, c14, c15, c16, .slice (some ⟨g, 0, none⟩) n cap, .int .i64 (k : Int), .pointer (some ⟨r, 0, none⟩), c20, c21, c22, c23, c24, c25, c26, c27, c28, c29, c30, c31, c32, c33, c34, c35, c36, c37, c38, c39, c40, c41, c42, c43, c44, c45, c46, c47, c48, c49, c50, c51, c52, c53, c54, c55, c56, c57, c58, c59, c60, c61, c62, c63, c64, c65, c66, c67, c68, c69, c70, c71, c72, c73, c74, c75, c76, c77, c78, c79, c80, c81, c82, c83, c84, c85, c86, c87, c88, c89, c90, c91, c92, c93, c94, c95, c96, c97, c98, c99, c100, c101, c102, c103, c104, c105, c106, c107, c108, c109, c110, c111, c112, c113, c114, c115, c116, c117, c118, c119], []⟩ w := by
  conv => arg 2; whnf
  have hb0 : Below w.heap.size w w.drew := (Below.refl _ _).drew
  refine wp_region_anyS (S := fun wx => Below w.heap.size w wx) (by kernel_rfl) ?_
  refine wpAnyS_pure (k := 0) (v := .pointer (some ⟨r, 0, none⟩)) (by rfl) (by kernel_rfl) (by kernel_rfl) (by kernel_rfl) (by rfl) (some 93) (by rfl) hb0 (fun _ _ => by kernel_rfl) ?_
  simp only [Act.put, List.setIfInBounds_toArray, List.set_cons_succ, List.set_cons_zero]
  refine wpAnyS_pure (k := 1) (v := .string x) (by rfl) (by kernel_rfl) (by kernel_rfl) (by kernel_rfl) (by rfl) (some 94) (by rfl) hb0 (fun wx hwx => exec_load (by rfl) (by rfl) (load_str wx _ _ _ (by rw [hwx.cell (World.block_lt_of_cell? _ _ hx)]; exact hx))) ?_
  simp only [Act.put, List.setIfInBounds_toArray, List.set_cons_succ, List.set_cons_zero]
  refine wpAnyS_pure (k := 2) (v := .pointer (some ⟨r, 1, none⟩)) (by rfl) (by kernel_rfl) (by kernel_rfl) (by kernel_rfl) (by rfl) (some 95) (by rfl) hb0 (fun _ _ => by kernel_rfl) ?_
  simp only [Act.put, List.setIfInBounds_toArray, List.set_cons_succ, List.set_cons_zero]
  refine wpAnyS_pure (k := 3) (v := .string y) (by rfl) (by kernel_rfl) (by kernel_rfl) (by kernel_rfl) (by rfl) (some 96) (by rfl) hb0 (fun wx hwx => exec_load (by rfl) (by rfl) (load_str wx _ _ _ (by rw [hwx.cell (World.block_lt_of_cell? _ _ hy)]; exact hy))) ?_
  simp only [Act.put, List.setIfInBounds_toArray, List.set_cons_succ, List.set_cons_zero]
  refine wpAnyS_pure (k := 5) (v := .slice (some ⟨g, 0, none⟩) n cap) (by rfl) (by kernel_rfl) (by kernel_rfl) (by kernel_rfl) (by rfl) (some 98) (by rfl) hb0 (fun _ _ => by kernel_rfl) ?_
  simp only [Act.put, List.setIfInBounds_toArray, List.set_cons_succ, List.set_cons_zero]
  refine wpAnyS_pure (k := 6) (v := .int .i64 (k : Int)) (by rfl) (by kernel_rfl) (by kernel_rfl) (by kernel_rfl) (by rfl) (some 99) (by rfl) hb0 (fun _ _ => by kernel_rfl) ?_
  simp only [Act.put, List.setIfInBounds_toArray, List.set_cons_succ, List.set_cons_zero]
  refine wpAnyS_pure (k := 7) (v := .pointer (some ⟨g, k * 2, none⟩)) (by rfl) (by kernel_rfl) (by kernel_rfl) (by kernel_rfl) (by rfl) (some 100) (by rfl) hb0 (fun wx _ => exec_ia (by rfl) (by rfl) (by rfl) (index_node wx g n cap k hk)) ?_
  simp only [Act.put, List.setIfInBounds_toArray, List.set_cons_succ, List.set_cons_zero]
  refine wpAnyS_pure (k := 8) (v := .pointer (some ⟨g, k * 2, none⟩)) (by rfl) (by kernel_rfl) (by kernel_rfl) (by kernel_rfl) (by rfl) (some 101) (by rfl) hb0 (fun _ _ => by kernel_rfl) ?_
  simp only [Act.put, List.setIfInBounds_toArray, List.set_cons_succ, List.set_cons_zero]
  refine wpAnyS_pure (k := 9) (v := .string p) (by rfl) (by kernel_rfl) (by kernel_rfl) (by kernel_rfl) (by rfl) (some 102) (by rfl) hb0 (fun wx hwx => exec_load (by rfl) (by rfl) (load_str wx _ _ _ (by rw [hwx.cell (World.block_lt_of_cell? _ _ hp)]; exact hp))) ?_
  simp only [Act.put, List.setIfInBounds_toArray, List.set_cons_succ, List.set_cons_zero]
  refine wpAnyS_pure (k := 10) (v := .slice (some ⟨g, 0, none⟩) n cap) (by rfl) (by kernel_rfl) (by kernel_rfl) (by kernel_rfl) (by rfl) (some 103) (by rfl) hb0 (fun _ _ => by kernel_rfl) ?_
  simp only [Act.put, List.setIfInBounds_toArray, List.set_cons_succ, List.set_cons_zero]
  refine wpAnyS_pure (k := 11) (v := .int .i64 (k : Int)) (by rfl) (by kernel_rfl) (by kernel_rfl) (by kernel_rfl) (by rfl) (some 104) (by rfl) hb0 (fun _ _ => by kernel_rfl) ?_
  simp only [Act.put, List.setIfInBounds_toArray, List.set_cons_succ, List.set_cons_zero]
  refine wpAnyS_pure (k := 12) (v := .pointer (some ⟨g, k * 2, none⟩)) (by rfl) (by kernel_rfl) (by kernel_rfl) (by kernel_rfl) (by rfl) (some 105) (by rfl) hb0 (fun wx _ => exec_ia (by rfl) (by rfl) (by rfl) (index_node wx g n cap k hk)) ?_
  simp only [Act.put, List.setIfInBounds_toArray, List.set_cons_succ, List.set_cons_zero]
  refine wpAnyS_pure (k := 13) (v := .pointer (some ⟨g, k * 2 + 1, none⟩)) (by rfl) (by kernel_rfl) (by kernel_rfl) (by kernel_rfl) (by rfl) (some 106) (by rfl) hb0 (fun _ _ => by kernel_rfl) ?_
  simp only [Act.put, List.setIfInBounds_toArray, List.set_cons_succ, List.set_cons_zero]
  refine wpAnyS_pure (k := 14) (v := .string q) (by rfl) (by kernel_rfl) (by kernel_rfl) (by kernel_rfl) (by rfl) (some 107) (by rfl) hb0 (fun wx hwx => exec_load (by rfl) (by rfl) (load_str wx _ _ _ (by rw [hwx.cell (World.block_lt_of_cell? _ _ hq)]; exact hq))) ?_
  simp only [Act.put, List.setIfInBounds_toArray, List.set_cons_succ, List.set_cons_zero]
  refine wpAnyS_call (i := 4) (f := 15) (vs := #[.string x, .string y]) (by kernel_rfl) (by rfl) (by rfl) (some 97) (by rfl) (by kernel_rfl) ((h1 _ hb0).mono ?_)
  rintro e w1 ⟨rfl, hb1⟩
  have hb2 : Below w.heap.size w w1 := hb0.trans (hb1.mono hb0.size)
  refine ⟨_, rfl, hb2, ?_⟩
  simp only [Act.put, List.setIfInBounds_toArray, List.set_cons_succ, List.set_cons_zero]
  refine wpAnyS_call (i := 15) (f := 15) (vs := #[.string p, .string q]) (by kernel_rfl) (by rfl) (by rfl) (some 108) (by rfl) (by kernel_rfl) ((h2 _ hb2).mono ?_)
  rintro e w2 ⟨rfl, hb3⟩
  have hb4 : Below w.heap.size w w2 := hb2.trans (hb3.mono hb2.size)
  refine ⟨_, rfl, hb4, ?_⟩
  simp only [Act.put, List.setIfInBounds_toArray, List.set_cons_succ, List.set_cons_zero]
  refine wpAnyS_put (i := 16) (v := .bool true) (by kernel_rfl) (by rfl) (by rfl) (some 109) (by rfl) hb4 (exec_bin (by rfl) (by rfl) (by rfl) (by kernel_rfl) (eql_self _ z)) ?_
  simp only [Act.put, List.setIfInBounds_toArray, List.set_cons_succ, List.set_cons_zero]
  refine wpAnyS_put (i := 17) (v := .bool true) (by kernel_rfl) (by rfl) (by rfl) (some 10) (by rfl) hb4 (by kernel_rfl) ?_
  simp only [Act.put, List.setIfInBounds_toArray, List.set_cons_succ, List.set_cons_zero]
  refine wpAnyH_done (by kernel_rfl) ?_ _
  refine NoPanic.normal ?_
  exact hQ _ _ _ _ _ _ _ _ _ _ _ _ _ _ _ _ _ _ hb4
end Go.Proofs.YtlhohmlpcgbliaaDoor
namespace Go.Proofs.YtlhohmlpcgbliaaDoor
set_option maxRecDepth 100000
open Go.RowKit
attribute [local go_sem ↓] Go.wp_at_zero Go.wp_at_succ

set_option maxHeartbeats 400000 in
theorem pickK_any (c : Int) (n : Nat) (w : World) (h1 : -9223372036854775808 ≤ c) (h2 : c ≤ 9223372036854775807) (hn : 1 ≤ n) (hn2 : n ≤ 1000000000000) :
    Calls Tryd.prog 32 #[.int .i64 c, .int .i64 (n : Int)] w fun e w' => e = .returned (.int .i64 (pickV c n : Nat)) ∧ w' = w := by
  have hz : ((n : Int) == 0) = false := by simp; omega
  by_cases hc : c < 0
  · have HP : Aside (-((c + 1).tmod (n : Int)) = ((pickV c n : Nat) : Int)) := by
      show _ = _
      rw [← Int.neg_tmod, Int.tmod_eq_emod_of_nonneg (by omega), pickV, if_pos hc, Int.natCast_emod, Int.toNat_of_nonneg (by omega)]
    go_enter Tryd.func32, Tryd.ntmps32
    go_wp2
    go_ret
    rw [← HP.out]
    exact ⟨rfl, rfl⟩
  · have HP : Aside (c % (n : Int) = ((pickV c n : Nat) : Int)) := by
      show _ = _
      rw [pickV, if_neg hc, Int.natCast_emod, Int.toNat_of_nonneg (by omega)]
    go_enter Tryd.func32, Tryd.ntmps32
    go_wp2
    go_ret
    rw [← HP.out]
    exact ⟨rfl, rfl⟩


theorem flat2_get : ∀ (ps : List (ByteArray × ByteArray)) (k : Nat) (a b : ByteArray), ps[k]? = some (a, b) → (flat2 ps)[k * 2]? = some (.string a) ∧ (flat2 ps)[k * 2 + 1]? = some (.string b) := by
  intro ps
  induction ps with
  | nil => intro k a b h; simp at h
  | cons p r ih =>
    intro k a b h
    have e : flat2 (p :: r) = .string p.1 :: .string p.2 :: flat2 r := rfl
    rw [e]
    cases k with
    | zero =>
      have : p = (a, b) := by simpa using h
      subst this
      exact ⟨rfl, rfl⟩
    | succ k =>
      have := ih k a b (by simpa using h)
      rw [show (k + 1) * 2 = k * 2 + 1 + 1 by omega, show k * 2 + 1 + 1 + 1 = (k * 2 + 1) + 1 + 1 by omega]
      simpa using this

theorem Row2.form {w : World} {base : Nat} {v : Value} {ps : List (ByteArray × ByteArray)} (h : Row2 w base v ps) (h0 : 0 < ps.length) :
    ∃ g cap, v = .slice (some ⟨g, 0, none⟩) ps.length cap ∧ base ≤ g ∧ g < w.heap.size ∧ ∀ k a b, ps[k]? = some (a, b) → w.cell? ⟨g, k * 2, none⟩ = some (.string a) ∧ w.cell? ⟨g, k * 2 + 1, none⟩ = some (.string b) := by
  obtain ⟨h1, h2⟩ := h
  rcases h2 with ⟨_, h3⟩ | ⟨g, cap, cur, rfl, hb, hg, hn, hm, hs, ht⟩
  · omega
  · refine ⟨g, cap, rfl, hb, (Array.getElem?_eq_some_iff.1 hg).1, fun k a b hk => ?_⟩
    have hk1 : k < ps.length := (List.getElem?_eq_some_iff.1 hk).1
    obtain ⟨e1, e2⟩ := flat2_get ps k a b hk
    rw [← ht, List.getElem?_take_of_lt (by omega)] at e1 e2
    constructor
    · simp [World.cell?, hg] at e1 ⊢; exact e1
    · simp [World.cell?, hg] at e2 ⊢; exact e2

/-- Where nothing of the way is left, the leaf is right. -/
theorem way_end (leaf e : ByteArray) (i : Nat) (l list : List ByteArray) (hn : l.length ≤ 1099511627776) (hi : i < l.length) (he : l[i]? = some e) (hc : (cl 40 leaf leaf i (l.length - 1) list).map (·.2) = some (rt l)) (hw : cw 40 leaf i (l.length - 1) list = []) : leaf = leafS e := by
  by_cases h2 : 2 ≤ l.length
  · rcases way_step leaf (rt l) i l.length list hi h2 hn hc with ⟨_, l2, x, b, _, _, _, h⟩ | ⟨_, l2, x, b, _, _, _, h⟩
    · rw [hw] at h; simp at h
    · rw [hw] at h; simp at h
  · have h1 : l.length = 1 := by omega
    match l, h1, hi, he, hc with
    | [s], _, hi, he, hc =>
      have hi0 : i = 0 := by simpa using hi
      subst hi0
      have : s = e := by simpa using he
      subst this
      rw [show [s].length - 1 = 0 by rfl, cl_zero] at hc
      by_cases hl : list = []
      · rw [if_pos hl] at hc
        have : leaf = rt [s] := by simpa using hc
        rw [this]
        unfold rt
        rw [List.map_cons, List.map_nil, mth_one]
      · rw [if_neg hl] at hc; cases hc

/-- One step down: what stands in the way's last node, and what is left when it is the tree's own. -/
theorem way_down (leaf : ByteArray) (i : Nat) (l list : List ByteArray) (way : List (ByteArray × ByteArray)) (G : Nat) (hn : l.length ≤ 1099511627776) (hi : i < l.length) (hc : (cl 40 leaf leaf i (l.length - 1) list).map (·.2) = some (rt l)) (hw : way.take (G + 1) = cw 40 leaf i (l.length - 1) list) (hG : G < way.length) :
    2 ≤ l.length ∧ ∃ p q, way[G]? = some (p, q) ∧ nodeS p q = rt l ∧ (rt (l.take (spl l.length)) = p ∧ rt (l.drop (spl l.length)) = q → ∃ list',
      (i < spl l.length → (cl 40 leaf leaf i ((l.take (spl l.length)).length - 1) list').map (·.2) = some (rt (l.take (spl l.length))) ∧ way.take G = cw 40 leaf i ((l.take (spl l.length)).length - 1) list') ∧
      (¬ i < spl l.length → (cl 40 leaf leaf (i - spl l.length) ((l.drop (spl l.length)).length - 1) list').map (·.2) = some (rt (l.drop (spl l.length))) ∧ way.take G = cw 40 leaf (i - spl l.length) ((l.drop (spl l.length)).length - 1) list')) := by
  have hlen : (cw 40 leaf i (l.length - 1) list).length = G + 1 := by rw [← hw, List.length_take]; omega
  have h2 : 2 ≤ l.length := by
    apply Nat.le_of_not_lt
    intro h
    have : l.length - 1 = 0 := by omega
    rw [this, cw_zero] at hlen
    simp at hlen
  refine ⟨h2, ?_⟩
  have h3 := spl_lt (n := l.length) h2
  have hlt : (l.take (spl l.length)).length = spl l.length := by rw [List.length_take]; omega
  have hld : (l.drop (spl l.length)).length = l.length - spl l.length := List.length_drop
  have key : ∀ (sub : List (ByteArray × ByteArray)) (pq : ByteArray × ByteArray), cw 40 leaf i (l.length - 1) list = sub ++ [pq] → way[G]? = some pq ∧ way.take G = sub := by
    intro sub pq h
    rw [h] at hlen hw
    have hs : sub.length = G := by simpa using hlen
    constructor
    · have : (way.take (G + 1))[G]? = some pq := by rw [hw, List.getElem?_append_right (by omega), hs, Nat.sub_self]; rfl
      rwa [List.getElem?_take_of_lt (by omega)] at this
    · have := congrArg (List.take G) hw
      rw [List.take_take, Nat.min_eq_left (by omega), List.take_left' hs] at this
      exact this
  rcases way_step leaf (rt l) i l.length list hi h2 hn hc with ⟨hik, l2, x, b, _, hr, hcl, hcw⟩ | ⟨hik, l2, x, b, _, hr, hcl, hcw⟩
  · obtain ⟨k1, k2⟩ := key _ _ hcw
    refine ⟨b, x, k1, hr.symm, fun ⟨e1, _⟩ => ⟨l2, fun _ => ?_, fun h => absurd hik h⟩⟩
    rw [hlt, e1]
    exact ⟨hcl, k2⟩
  · obtain ⟨k1, k2⟩ := key _ _ hcw
    refine ⟨x, b, k1, hr.symm, fun ⟨_, e2⟩ => ⟨l2, fun h => absurd h (by omega), fun _ => ?_⟩⟩
    rw [hld, e2]
    exact ⟨hcl, k2⟩
end Go.Proofs.YtlhohmlpcgbliaaDoor
namespace Go.Proofs.YtlhohmlpcgbliaaDoor
set_option maxRecDepth 100000
open Go.RowKit
attribute [local go_sem ↓] Go.wp_at_zero Go.wp_at_succ

def sX : ByteArray := ⟨#[120]⟩
def sLast : ByteArray := ⟨#[108, 97, 115, 116]⟩
theorem incl_self (x : ByteArray) : inclB x 0 1 [] x = true := by
  have h : cl 40 x x 0 0 [] = some (x, x) := cl_zero 40 x x 0 []
  unfold inclB
  simp [h]

theorem cw_length : ∀ (f : Nat) (h : ByteArray) (i last : Nat) (l : List ByteArray), (cw f h i last l).length ≤ f := by
  intro f
  induction f with
  | zero => intro h i last l; simp [cw]
  | succ f ih =>
    intro h i last l
    simp only [cw]
    split
    · simp
    · split
      · cases l with
        | nil => exact Nat.le_succ_of_le (ih _ _ _ _)
        | cons x r => simpa using ih _ _ _ _
      · split
        · cases l with
          | nil => exact Nat.le_succ_of_le (ih _ _ _ _)
          | cons x r => simpa using ih _ _ _ _
        · exact Nat.le_succ_of_le (ih _ _ _ _)

theorem rt_size (l : List ByteArray) : (rt l).size ≤ 1048576 := by
  have := mth_size (l := l.map leafS) (N := 33) (fun s hs => by obtain ⟨t, _, rfl⟩ := List.mem_map.1 hs; rw [leafS_size]; omega) (by omega)
  unfold rt; omega
theorem cw_size : ∀ (f : Nat) (h : ByteArray) (i last : Nat) (l : List ByteArray), h.size ≤ 140737488355328 → (∀ s ∈ l, s.size ≤ 140737488355328) → ∀ pq ∈ cw f h i last l, pq.1.size ≤ 140737488355328 ∧ pq.2.size ≤ 140737488355328 := by
  intro f
  induction f with
  | zero => intro h i last l _ _ pq hp; simp [cw] at hp
  | succ f ih =>
    intro h i last l hh hl pq hp
    simp only [cw] at hp
    have hns : ∀ a b : ByteArray, (nodeS a b).size ≤ 140737488355328 := fun a b => by rw [nodeS_size]; omega
    split at hp
    · simp at hp
    · split at hp
      · cases l with
        | nil => exact ih _ _ _ _ hh (fun s hs => by simp at hs) pq hp
        | cons x r =>
          rcases List.mem_cons.1 hp with rfl | hp
          · exact ⟨hl x (List.mem_cons_self ..), hh⟩
          · exact ih _ _ _ _ (hns _ _) (fun s hs => hl s (List.mem_cons_of_mem _ hs)) pq hp
      · split at hp
        · cases l with
          | nil => exact ih _ _ _ _ hh (fun s hs => by simp at hs) pq hp
          | cons x r =>
            rcases List.mem_cons.1 hp with rfl | hp
            · exact ⟨hh, hl x (List.mem_cons_self ..)⟩
            · exact ih _ _ _ _ (hns _ _) (fun s hs => hl s (List.mem_cons_of_mem _ hs)) pq hp
        · exact ih _ _ _ _ hh hl pq hp

set_option maxRecDepth 100000 in
set_option maxHeartbeats 1000000 in
theorem bound_walk (v vl : Value) (ss ls : List ByteArray) (ri rn : Int) (leaf : ByteArray) (w : World) (hS : Strs w v ss) (hn : ss.length ≤ 140737488355328) (hz : ∀ s ∈ ss, s.size ≤ 140737488355328) (hL : Lst w vl ls) (hF : FewB ls) (hlf : leaf.size ≤ 140737488355328)
  (hri : -9223372036854775808 ≤ ri ∧ ri ≤ 9223372036854775807) (hrn : -9223372036854775808 ≤ rn ∧ rn ≤ 9223372036854775807) (ht : Table w) (hg : 2 < w.heap.size) :
    Calls Tryd.prog 6 #[v, .int .i64 ri, .int .i64 rn, .string leaf, vl] w fun e w' => e = .returned (.bool true) ∧ Below w.heap.size w w' := by
  have HT : Aside (Table w ∧ 2 < w.heap.size ∧ Lst w vl ls ∧ FewB ls ∧ Strs w v ss ∧ ∀ s ∈ ss, s.size ≤ 140737488355328) := ⟨ht, hg, hL, hF, hS, hz⟩
  clear ht hg hL hF hS hz
  have g1 : Calls Tryd.prog 14 #[.string ⟨#[120]⟩] w fun e w' => e = .returned (.string (leafS sX)) ∧ Below w.heap.size w w' := groveLeaf_any sX w (by decide) HT.out.1 HT.out.2.1
  have hx32 : (leafS sX).size = 32 := leafS_size _
  generalize leafS sX = lx at *
  go_enter Tryd.func6, Tryd.ntmps6
  go_wp2_with fail
  refine g1.mono ?_
  rintro e w1 ⟨rfl, b1⟩
  clear g1
  have g2 := incl_any lx lx 0 1 (.slice none 0 0) [] w1 (by omega) ⟨_, _, rfl, Nat.le_refl _, fun j s hs => by simp at hs⟩ ⟨by simp, fun s hs => by simp at hs⟩ (table_at b1 HT.out.2.1 HT.out.1) (Nat.lt_of_lt_of_le HT.out.2.1 b1.size)
  rw [incl_self] at g2
  go_wp2_with fail
  refine g2.mono ?_
  rintro e w2 ⟨rfl, b2⟩
  clear g2
  have B2 : Aside (Below w.heap.size w w2) := b1.trans (b2.mono b1.size)
  clear b1 b2
  have g3 := entries_any v ss w2 (HT.out.2.2.2.2.1.below B2.out) hn HT.out.2.2.2.2.2
  go_wp2_with fail
  refine g3.mono ?_
  rintro e w3 ⟨v', ts, rfl, hrow, hl64, htz, b3⟩
  clear g3
  have B3 : Aside (Below w.heap.size w w3) := B2.out.trans (b3.mono B2.out.size)
  have HX : Aside (strv ts ++ [.string sLast] = strv (ts ++ [sLast])) := by show _ = _; simp [strv]
  have hxl : (strv ts).length ≤ 64 := by rw [strv_length]; exact hl64
  have hsz2 := B2.out.size
  have hsz3 := b3.size
  generalize hxs : strv ts = xs at *
  clear hxs
  go_wp2_with (at_builtin; refine wpList_app elem_string rfl Tryd.underlying22 (by rfl) (.tmp 34) (.tmp 35) (by rfl) w2.heap.size _ xs (by rfl) (hrow.alloc _) _ 1 1 [.string sLast] (by rfl) rfl (Blk.new _ 9 _) ?h1 ?hl ?hb ?hbs (w0 := w) (B := w.heap.size) (B3.out.alloc B3.out.size _) hsz2 ?_)
  case h1 => intro u hu; simp at hu; subst hu; rfl
  case hl => omega
  case hb => omega
  case hbs => simp; omega
  intro vL w4 hrow4 _ b4
  rw [HX.out] at hrow4
  have hl1 : (ts ++ [sLast]).length = ts.length + 1 := by simp
  obtain ⟨g, cap, rfl, hgb, hcap, _, _, hglt, _⟩ := hrow4.form (by rw [strv_length]; omega)
  rw [strv_length] at hcap hrow4 ⊢
  have HA : Aside (SA w4 g 0 (ts ++ [sLast]) ∧ Below w.heap.size w w4 ∧ g < w4.heap.size ∧ ∀ s ∈ ts ++ [sLast], s.size ≤ 1048576) := by
    refine ⟨SA.of_row hrow4 (by omega), b4, hglt, fun s hs => ?_⟩
    rcases List.mem_append.1 hs with h | h
    · exact htz s h
    · rw [List.mem_singleton.1 h]; decide
  clear hrow hrow4 b3 b4 B2 B3 HX hxl hsz2 hsz3 htz hgb hglt
  have hlen : (ts ++ [sLast]).length ≤ 65 := by omega
  have hlen1 : 1 ≤ (ts ++ [sLast]).length := by omega
  generalize ts ++ [sLast] = fs at *
  clear hl64 hl1
  go_wp2_with fail
  refine (pickK_any rn fs.length w4 hrn.1 hrn.2 hlen1 (by omega)).mono ?_
  rintro e w' ⟨rfl, hw'⟩
  rw [hw']
  clear hw'
  have hx0 := pickV_lt rn fs.length hlen1
  generalize pickV rn fs.length = x0 at *
  go_wp2_with fail
  generalize hN : (1 + (x0 : Int)) = nI at *
  obtain ⟨N, rfl⟩ : ∃ N : Nat, nI = (N : Int) := ⟨x0 + 1, by omega⟩
  have hN1 : 1 ≤ N := by omega
  have hN2 : N ≤ fs.length := by omega
  clear hN hx0
  refine (pickK_any ri N w4 hri.1 hri.2 hN1 (by omega)).mono ?_
  rintro e w' ⟨rfl, hw'⟩
  rw [hw']
  clear hw'
  have hx1 := pickV_lt ri N hN1
  generalize pickV ri N = i at *
  have hs1 := fun wx => slice_h wx g 0 fs.length cap N (by omega)
  have hlN : (fs.take N).length = N := by rw [List.length_take]; omega
  have HA2 : Aside (SA w4 g 0 (fs.take N) ∧ Below w.heap.size w w4 ∧ g < w4.heap.size ∧ ∀ s ∈ fs.take N, s.size ≤ 1048576) := ⟨HA.out.1.take N, HA.out.2.1, HA.out.2.2.1, fun s hs => HA.out.2.2.2 s (List.mem_of_mem_take hs)⟩
  have hcap2 : N ≤ cap := by omega
  have hN65 : N ≤ 65 := by omega
  go_wp2_with fail
  clear hs1 HA hlen hlen1 hcap hN2
  obtain ⟨us, hus⟩ : ∃ us, us = fs.take N := ⟨_, rfl⟩
  rw [← hus] at hlN HA2
  clear hus
  have g4 := gives_rt g 0 cap us w4 (by omega) (by omega) HA2.out.1 HA2.out.2.2.2 (table_at HA2.out.2.1 HT.out.2.1 HT.out.1) (Nat.lt_of_lt_of_le HT.out.2.1 HA2.out.2.1.size) w4 (Below.refl _ _)
  rw [hlN] at g4
  refine g4.mono ?_
  rintro e w5 ⟨rfl, b5⟩
  clear g4
  have B5 : Aside (Below w.heap.size w w5 ∧ SA w5 g 0 us ∧ g < w5.heap.size) := ⟨HA2.out.2.1.trans (b5.mono HA2.out.2.1.size), HA2.out.1.below b5, Nat.lt_of_lt_of_le HA2.out.2.2.1 b5.size⟩
  have HZ : Aside (∀ s ∈ us, s.size ≤ 1048576) := HA2.out.2.2.2
  clear b5 HA2
  have g5 := incl_big leaf (rt us) i N vl ls w5 hlf (HT.out.2.2.1.below B5.out.1) HT.out.2.2.2.1 (table_at B5.out.1 HT.out.2.1 HT.out.1) (Nat.lt_of_lt_of_le HT.out.2.1 B5.out.1.size)
  go_wp2_with fail
  refine g5.mono ?_
  rintro e w6 ⟨rfl, b6⟩
  clear g5
  obtain ⟨en, hen⟩ : ∃ en, us[i]? = some en := ⟨_, List.getElem?_eq_getElem (by omega)⟩
  have B6 : Aside (Below w.heap.size w w6 ∧ SA w6 g 0 us ∧ g < w6.heap.size) := ⟨B5.out.1.trans (b6.mono B5.out.1.size), B5.out.2.1.below b6, Nat.lt_of_lt_of_le B5.out.2.2 b6.size⟩
  clear b6 B5
  have hce : w6.cell? ⟨g, i, none⟩ = some (.string en) := by have := B6.out.2.1 i en hen; rwa [Nat.zero_add] at this
  have g6 := groveLeaf_any en w6 (by have := HZ.out en (List.mem_of_getElem? hen); omega) (table_at B6.out.1 HT.out.2.1 HT.out.1) (Nat.lt_of_lt_of_le HT.out.2.1 B6.out.1.size)
  go_wp2_with fail
  refine g6.mono ?_
  rintro e w7 ⟨rfl, b7⟩
  clear g6 hce
  have B7 : Aside (Below w.heap.size w w7 ∧ SA w7 g 0 us ∧ g < w7.heap.size) := ⟨B6.out.1.trans (b7.mono B6.out.1.size), B6.out.2.1.below b7, Nat.lt_of_lt_of_le B6.out.2.2 b7.size⟩
  clear b7 B6
  by_cases hok : inclB leaf i N ls (rt us) = true
  · by_cases hlr : leaf = leafS en
    · have hE : (leaf.toList == (leafS en).toList) = true := by rw [eqs]; exact decide_eq_true hlr
      clear hlr
      go_wp2_with fail
      go_ret
      exact ⟨by simp, B7.out.1⟩
    · have hE : (leaf.toList == (leafS en).toList) = false := by rw [eqs]; exact decide_eq_false hlr
      have HLR : Aside (leaf ≠ leafS en ∧ us[i]? = some en) := ⟨hlr, hen⟩
      clear hlr hen
      have HC : Aside ((cl 40 leaf leaf i (N - 1) ls).map (·.2) = some (rt us)) := by
        unfold inclB at hok
        simp only [Bool.and_eq_true, decide_eq_true_eq, Int.toNat_natCast] at hok
        exact hok.2
      have g7 := claimed_any leaf i N vl ls w7 hN1 (by omega) hx1 (by omega) (HT.out.2.2.1.below B7.out.1) HT.out.2.2.2.1 (table_at B7.out.1 HT.out.2.1 HT.out.1) (Nat.lt_of_lt_of_le HT.out.2.1 B7.out.1.size)
      have HCW : Aside ((cw 40 leaf i (N - 1) ls).length ≤ 40 ∧ cw 40 leaf i (N - 1) ls ≠ []) := by
        refine ⟨cw_length _ _ _ _ _, fun h => HLR.out.1 ?_⟩
        exact way_end leaf en i us ls (by omega) (by omega) HLR.out.2 (by rw [hlN]; exact HC.out) (by rw [hlN]; exact h)
      obtain ⟨wy, hwy⟩ : ∃ wy, wy = cw 40 leaf i (N - 1) ls := ⟨_, rfl⟩
      have HWY : Aside (wy = cw 40 leaf i (N - 1) ls) := hwy
      rw [← hwy] at g7 HCW
      clear hwy
      obtain ⟨K, hK⟩ : ∃ K, wy.length = K + 1 := ⟨wy.length - 1, by have := List.length_pos_iff.2 HCW.out.2; omega⟩
      have hK40 : K ≤ 39 := by have := HCW.out.1; omega
      go_wp2_with fail
      refine g7.mono ?_
      rintro e w8 ⟨vW, rfl, hrowW, b8⟩
      clear g7
      obtain ⟨gW, capW, rfl, _, hgW, hWc⟩ := hrowW.form (by omega)
      rw [hK]
      have H8 : Aside (Below w.heap.size w w8 ∧ SA w8 g 0 us ∧ ∀ k a b, wy[k]? = some (a, b) → w8.cell? ⟨gW, k * 2, none⟩ = some (.string a) ∧ w8.cell? ⟨gW, k * 2 + 1, none⟩ = some (.string b)) := ⟨B7.out.1.trans (b8.mono B7.out.1.size), B7.out.2.1.below b8, hWc⟩
      clear hrowW b8 hgW hWc B7
      go_wp2_with fail
      go_loopg [1, 13, 18] (K + 1) (fun G s1 s13 s18 wr => ∃ (i' o' c' : Nat) (l' list' : List ByteArray), s1 = .int .i64 (i' : Int) ∧ s13 = .slice (some ⟨g, o', none⟩) l'.length c' ∧ s18 = .int .i64 ((G : Int) - 1) ∧ l'.length ≤ c' ∧ i' < l'.length ∧ l'.length ≤ 65 ∧ G ≤ K + 1 ∧
        Aside (SA w8 g o' l' ∧ (cl 40 leaf leaf i' (l'.length - 1) list').map (·.2) = some (rt l') ∧ wy.take G = cw 40 leaf i' (l'.length - 1) list' ∧ l'[i']? = some en ∧ (∀ s ∈ l', s.size ≤ 1048576) ∧ Below w8.heap.size w8 wr))
      case atStart =>
        refine ⟨i, 0, cap, us, ls, rfl, by rw [hlN], by go_num, by omega, by omega, by omega, Nat.le_refl _, ⟨H8.out.2.1, by rw [hlN]; exact HC.out, ?_, HLR.out.2, HZ.out, Below.refl _ _⟩⟩
        rw [hlN, ← hK, List.take_length]
        exact HWY.out
      case round =>
        obtain ⟨i', o', c', l', list', rfl, rfl, rfl, hlc, hil, hl65, hGK, HS⟩ := hrel
        cases gk with
        | zero =>
          obtain ⟨_, k2, k3, k4, _, _⟩ := HS.out
          exact absurd (way_end leaf en i' l' list' (by omega) hil k4 k2 (by rw [← k3, List.take_zero])) HLR.out.1
        | succ G =>
          rw [show (((G + 1 : Nat) : Int) - 1) = (G : Int) by omega]
          obtain ⟨h2l, p, q, hpq, hnode, hnext⟩ := way_down leaf i' l' list' wy G (by omega) hil HS.out.2.1 HS.out.2.2.1 (by omega)
          have HN : Aside (wy[G]? = some (p, q) ∧ nodeS p q = rt l') := ⟨hpq, hnode⟩
          have HNX : Aside (rt (l'.take (spl l'.length)) = p ∧ rt (l'.drop (spl l'.length)) = q → ∃ list',
            (i' < spl l'.length → (cl 40 leaf leaf i' ((l'.take (spl l'.length)).length - 1) list').map (·.2) = some (rt (l'.take (spl l'.length))) ∧ wy.take G = cw 40 leaf i' ((l'.take (spl l'.length)).length - 1) list') ∧
            (¬ i' < spl l'.length → (cl 40 leaf leaf (i' - spl l'.length) ((l'.drop (spl l'.length)).length - 1) list').map (·.2) = some (rt (l'.drop (spl l'.length))) ∧ wy.take G = cw 40 leaf (i' - spl l'.length) ((l'.drop (spl l'.length)).length - 1) list')) := hnext
          clear hpq hnode hnext
          have HB : Aside (Below w.heap.size w wr) := H8.out.1.trans (HS.out.2.2.2.2.2.mono H8.out.1.size)
          have g8 := at_any g o' c' i' l' wr h2l (by omega) hlc (HS.out.1.below HS.out.2.2.2.2.2) HS.out.2.2.2.2.1 (table_at HB.out HT.out.2.1 HT.out.1) (Nat.lt_of_lt_of_le HT.out.2.1 HB.out.size)
          go_wp2_with fail
          have hsp := spl_lt (n := l'.length) h2l
          obtain ⟨xa, hxa⟩ : ∃ xa, xa = rt (l'.take (spl l'.length)) := ⟨_, rfl⟩
          obtain ⟨xb, hxb⟩ : ∃ xb, xb = rt (l'.drop (spl l'.length)) := ⟨_, rfl⟩
          rw [← hxa, ← hxb] at g8
          have HXA : Aside (xa = rt (l'.take (spl l'.length)) ∧ xb = rt (l'.drop (spl l'.length))) := ⟨hxa, hxb⟩
          clear hxa hxb
          have HZX : Aside (xa.size ≤ 1048576 ∧ xb.size ≤ 1048576 ∧ p.size ≤ 140737488355328 ∧ q.size ≤ 140737488355328) := by
            have hpq := cw_size 40 leaf i (N - 1) ls hlf HT.out.2.2.2.1.2 (p, q) (by rw [← HWY.out]; exact List.mem_of_getElem? HN.out.1)
            refine ⟨?_, ?_, hpq.1, hpq.2⟩
            · rw [HXA.out.1]; exact rt_size _
            · rw [HXA.out.2]; exact rt_size _
          by_cases his : i' < spl l'.length
          · rw [decide_eq_true his] at g8
            have hsl := fun wx => slice_h wx g o' l'.length c' (spl l'.length) (by omega)
            refine g8.mono ?_
            rintro e w9 ⟨rfl, b9⟩
            clear g8
            have HW : Aside (Blk (w9.alloc (.cells #[.string xa, .string xb] 42)) w9.heap.size 42 [.string xa, .string xb] ∧ Below w8.heap.size w8 (w9.alloc (.cells #[.string xa, .string xb] 42))) := by
              have hb := HS.out.2.2.2.2.2
              have hb9 := hb.trans (b9.mono hb.size)
              exact ⟨Blk.new w9 42 [.string xa, .string xb], hb9.alloc hb9.size _⟩
            go_wp2_with fail
            generalize w9.alloc (.cells #[.string xa, .string xb] 42) = w10 at *
            have hcx : w10.cell? ⟨w9.heap.size, 0, none⟩ = some (.string xa) := by rw [HW.out.1.cell]; rfl
            have hcy : w10.cell? ⟨w9.heap.size, 1, none⟩ = some (.string xb) := by rw [HW.out.1.cell]; rfl
            have hcp : w10.cell? ⟨gW, G * 2, none⟩ = some (.string p) := by
              have := (H8.out.2.2 G p q HN.out.1).1
              rw [HW.out.2.cell (World.block_lt_of_cell? _ _ this)]; exact this
            have hcq : w10.cell? ⟨gW, G * 2 + 1, none⟩ = some (.string q) := by
              have := (H8.out.2.2 G p q HN.out.1).2
              rw [HW.out.2.cell (World.block_lt_of_cell? _ _ this)]; exact this
            refine bdR19_wp gW (K + 1) capW G w9.heap.size xa xb p q w10 _ (by omega) hcx hcy hcp hcq ?_
            intro u87 u88 u89 u90 u91 d
            have HWZ : Aside (Below w8.heap.size w8 (w10.drewN d)) := Below.drewN' HW.out.2 d
            by_cases heq : xa = p ∧ xb = q
            · rw [decide_eq_true heq]
              clear hcx hcy hcp hcq
              go_wp2_with fail
              go_roundg G
              case measure => omega
              case rel =>
                obtain ⟨k1, k2, k3, k4, k5, k6⟩ := HS.out
                obtain ⟨list2, hA, _⟩ := HNX.out (by rw [← HXA.out.1, ← HXA.out.2]; exact heq)
                obtain ⟨j1, j2⟩ := hA his
                have hlt : (l'.take (spl l'.length)).length = spl l'.length := by rw [List.length_take]; omega
                refine ⟨i', o', c', l'.take (spl l'.length), list2, rfl, by rw [hlt], by go_num, by omega, by omega, by omega, by omega, ⟨k1.take _, j1, j2, by rw [List.getElem?_take_of_lt his]; exact k4, fun s hs => k5 s (List.mem_of_mem_take hs), HWZ.out⟩⟩
            · rw [decide_eq_false heq]
              go_wp2_with fail
              have HB9 : Aside (Below w.heap.size w (w10.drewN d)) := H8.out.1.trans (HWZ.out.mono H8.out.1.size)
              have n1 : Gives (w10.drewN d) 15 #[.string xa, .string xb] (rt l') := fun wx hx => by
                have hbx := HB9.out.trans (hx.mono HB9.out.size)
                have := groveNode_any xa xb wx (by have := HZX.out.1; omega) (by have := HZX.out.2.1; omega) (table_at hbx HT.out.2.1 HT.out.1) (Nat.lt_of_lt_of_le HT.out.2.1 hbx.size)
                rw [HXA.out.1, HXA.out.2, ← rt_two h2l] at this
                rw [HXA.out.1, HXA.out.2]
                exact this
              have n2 : Gives (w10.drewN d) 15 #[.string p, .string q] (rt l') := fun wx hx => by
                have hbx := HB9.out.trans (hx.mono HB9.out.size)
                have := groveNode_any p q wx (by have := HZX.out.2.2.1; omega) (by have := HZX.out.2.2.2; omega) (table_at hbx HT.out.2.1 HT.out.1) (Nat.lt_of_lt_of_le HT.out.2.1 hbx.size)
                rw [HN.out.2] at this
                exact this
              refine bdR20_wp gW (K + 1) capW G w9.heap.size _ xa xb p q (rt l') (w10.drewN d) _ (by omega) hcx hcy hcp hcq n1 n2 ?_
              intro u93 u94 u95 u96 u97 u98 u99 u100 u101 u102 u103 u104 u105 u106 u107 u108 u109 w11 hb11
              go_wp2_with fail
              go_ret
              exact ⟨rfl, HB9.out.trans (hb11.mono HB9.out.size)⟩
          · rw [decide_eq_false his] at g8
            have hsl := fun wx => slice_l wx g o' l'.length c' (spl l'.length) hsp hlc
            refine g8.mono ?_
            rintro e w9 ⟨rfl, b9⟩
            clear g8
            have HW : Aside (Blk (w9.alloc (.cells #[.string xa, .string xb] 42)) w9.heap.size 42 [.string xa, .string xb] ∧ Below w8.heap.size w8 (w9.alloc (.cells #[.string xa, .string xb] 42))) := by
              have hb := HS.out.2.2.2.2.2
              have hb9 := hb.trans (b9.mono hb.size)
              exact ⟨Blk.new w9 42 [.string xa, .string xb], hb9.alloc hb9.size _⟩
            go_wp2_with fail
            generalize w9.alloc (.cells #[.string xa, .string xb] 42) = w10 at *
            have hcx : w10.cell? ⟨w9.heap.size, 0, none⟩ = some (.string xa) := by rw [HW.out.1.cell]; rfl
            have hcy : w10.cell? ⟨w9.heap.size, 1, none⟩ = some (.string xb) := by rw [HW.out.1.cell]; rfl
            have hcp : w10.cell? ⟨gW, G * 2, none⟩ = some (.string p) := by
              have := (H8.out.2.2 G p q HN.out.1).1
              rw [HW.out.2.cell (World.block_lt_of_cell? _ _ this)]; exact this
            have hcq : w10.cell? ⟨gW, G * 2 + 1, none⟩ = some (.string q) := by
              have := (H8.out.2.2 G p q HN.out.1).2
              rw [HW.out.2.cell (World.block_lt_of_cell? _ _ this)]; exact this
            refine bdR19_wp gW (K + 1) capW G w9.heap.size xa xb p q w10 _ (by omega) hcx hcy hcp hcq ?_
            intro u87 u88 u89 u90 u91 d
            have HWZ : Aside (Below w8.heap.size w8 (w10.drewN d)) := Below.drewN' HW.out.2 d
            by_cases heq : xa = p ∧ xb = q
            · rw [decide_eq_true heq]
              clear hcx hcy hcp hcq
              go_wp2_with fail
              go_roundg G
              case measure => omega
              case rel =>
                obtain ⟨k1, k2, k3, k4, k5, k6⟩ := HS.out
                obtain ⟨list2, _, hA⟩ := HNX.out (by rw [← HXA.out.1, ← HXA.out.2]; exact heq)
                obtain ⟨j1, j2⟩ := hA his
                have hld : (l'.drop (spl l'.length)).length = l'.length - spl l'.length := List.length_drop
                refine ⟨i' - spl l'.length, o' + spl l'.length, c' - spl l'.length, l'.drop (spl l'.length), list2, by rw [Int.natCast_sub (by omega)], by rw [hld], by go_num, by omega, by omega, by omega, by omega, ⟨k1.drop _, j1, j2, by rw [List.getElem?_drop, show spl l'.length + (i' - spl l'.length) = i' by omega]; exact k4, fun s hs => k5 s (List.mem_of_mem_drop hs), HWZ.out⟩⟩
            · rw [decide_eq_false heq]
              go_wp2_with fail
              have HB9 : Aside (Below w.heap.size w (w10.drewN d)) := H8.out.1.trans (HWZ.out.mono H8.out.1.size)
              have n1 : Gives (w10.drewN d) 15 #[.string xa, .string xb] (rt l') := fun wx hx => by
                have hbx := HB9.out.trans (hx.mono HB9.out.size)
                have := groveNode_any xa xb wx (by have := HZX.out.1; omega) (by have := HZX.out.2.1; omega) (table_at hbx HT.out.2.1 HT.out.1) (Nat.lt_of_lt_of_le HT.out.2.1 hbx.size)
                rw [HXA.out.1, HXA.out.2, ← rt_two h2l] at this
                rw [HXA.out.1, HXA.out.2]
                exact this
              have n2 : Gives (w10.drewN d) 15 #[.string p, .string q] (rt l') := fun wx hx => by
                have hbx := HB9.out.trans (hx.mono HB9.out.size)
                have := groveNode_any p q wx (by have := HZX.out.2.2.1; omega) (by have := HZX.out.2.2.2; omega) (table_at hbx HT.out.2.1 HT.out.1) (Nat.lt_of_lt_of_le HT.out.2.1 hbx.size)
                rw [HN.out.2] at this
                exact this
              refine bdR20_wp gW (K + 1) capW G w9.heap.size _ xa xb p q (rt l') (w10.drewN d) _ (by omega) hcx hcy hcp hcq n1 n2 ?_
              intro u93 u94 u95 u96 u97 u98 u99 u100 u101 u102 u103 u104 u105 u106 u107 u108 u109 w11 hb11
              go_wp2_with fail
              go_ret
              exact ⟨rfl, HB9.out.trans (hb11.mono HB9.out.size)⟩
  · have hok' : inclB leaf i N ls (rt us) = false := by simpa using hok
    rw [hok']
    clear hok hok'
    go_wp2_with fail
    go_ret
    exact ⟨by simp, B7.out.1⟩
end Go.Proofs.YtlhohmlpcgbliaaDoor
namespace Go.Proofs.YtlhohmlpcgbliaaDoor
set_option maxRecDepth 100000
open Go.RowKit
attribute [local go_sem ↓] Go.wp_at_zero Go.wp_at_succ

theorem RawI.below {w w' : World} {v : Value} (h : RawI w v) (hb : Below w.heap.size w w') : RawI w' v := by
  obtain ⟨p, n, c, rfl, h⟩ := h
  refine ⟨p, n, c, rfl, fun i hi => ?_⟩
  obtain ⟨b, o, z, e, hc, h1, h2⟩ := h i hi
  exact ⟨b, o, z, e, by rw [hb.cell (World.block_lt_of_cell? _ _ hc)]; exact hc, h1, h2⟩

set_option maxHeartbeats 1000000 in
theorem told_walk (v gv : Value) (ss : List ByteArray) (w : World) (hS : Strs w v ss) (hn : ss.length ≤ 140737488355328) (hz : ∀ s ∈ ss, s.size ≤ 140737488355328) (hR : RawI w gv) (ht : Table w) (hg : 2 < w.heap.size) :
    Calls Tryd.prog 7 #[v, gv] w fun e w' => e = .returned (.bool true) ∧ Below w.heap.size w w' := by
  have HT : Aside (Table w ∧ 2 < w.heap.size ∧ RawI w gv) := ⟨ht, hg, hR⟩
  clear ht hg hR
  have g3 := entriesE_any v ss w hS hn hz
  go_enter Tryd.func7, Tryd.ntmps7
  go_wp2_with fail
  refine g3.mono ?_
  rintro e w3 ⟨v', ts, rfl, hrow, hl64, htz, b3⟩
  clear g3 hS hz
  have B3 : Aside (Below w.heap.size w w3) := b3
  have HX : Aside (strv ts ++ [.string sLast] = strv (ts ++ [sLast])) := by show _ = _; simp [strv]
  have hxl : (strv ts).length ≤ 64 := by rw [strv_length]; exact hl64
  have hsz3 := b3.size
  generalize hxs : strv ts = xs at *
  clear hxs
  go_wp2_with (at_builtin; refine wpList_app elem_string rfl Tryd.underlying22 (by rfl) (.tmp 17) (.tmp 18) (by rfl) w.heap.size _ xs (by rfl) (hrow.alloc _) _ 1 1 [.string sLast] (by rfl) rfl (Blk.new _ 9 _) ?h1 ?hl ?hb ?hbs (w0 := w) (B := w.heap.size) (B3.out.alloc B3.out.size _) (Nat.le_refl _) ?_)
  case h1 => intro u hu; simp at hu; subst hu; rfl
  case hl => omega
  case hb => omega
  case hbs => simp; omega
  intro vL w4 hrow4 _ b4
  rw [HX.out] at hrow4
  have hl1 : (ts ++ [sLast]).length = ts.length + 1 := by simp
  obtain ⟨g, cap, rfl, hgb, hcap, _, _, hglt, _⟩ := hrow4.form (by rw [strv_length]; omega)
  rw [strv_length] at hcap hrow4 ⊢
  have HA : Aside (SA w4 g 0 (ts ++ [sLast]) ∧ g < w4.heap.size ∧ ∀ s ∈ ts ++ [sLast], s.size ≤ 40) := by
    refine ⟨SA.of_row hrow4 (by omega), hglt, fun s hs => ?_⟩
    rcases List.mem_append.1 hs with h | h
    · exact htz s h
    · rw [List.mem_singleton.1 h]; decide
  have B4 : Aside (Below w.heap.size w w4) := b4
  clear hrow hrow4 b3 b4 B3 HX hxl hsz3 htz hgb hglt
  have hlen : (ts ++ [sLast]).length ≤ 65 := by omega
  have hlen1 : 1 ≤ (ts ++ [sLast]).length := by omega
  generalize ts ++ [sLast] = fs at *
  clear hl64 hl1
  generalize hml : fs.length = n at *
  by_cases hn64 : n > 64
  · have hn64' : (n : Int) > 64 := by omega
    have h1 : ((1 : Nat) : Int) = 1 := rfl
    have hsl := fun wx => slice_l wx g 0 n cap 1 (by omega) hcap
    rw [h1] at hsl
    obtain ⟨us, hus⟩ : ∃ us, us = fs.drop 1 := ⟨_, rfl⟩
    have hmu : us.length = n - 1 := by rw [hus, List.length_drop, hml]
    have HS : Aside (SA w4 g (0 + 1) us ∧ g < w4.heap.size ∧ us.length ≤ cap - 1 ∧ us.length ≤ 64 ∧ ∀ s ∈ us, s.size ≤ 40) := ⟨hus ▸ HA.out.1.drop 1, HA.out.2.1, by omega, by omega, fun s hs => HA.out.2.2 s (by rw [hus] at hs; exact List.mem_of_mem_drop hs)⟩
    go_wp2_with fail
    clear hus HA hsl
    generalize hm0 : n - 1 = m at *
    clear hml hcap
    rw [Nat.zero_add] at HS
    generalize hcu : cap - 1 = cu at HS ⊢
    clear hcu
    generalize hog : 1 = og at HS ⊢
    clear hog
    have hm1 : 1 ≤ m := by omega
    have hm64 : m ≤ 64 := by omega
    clear hm0
    have g5 := grown_any g og cu gv us w4 HS.out.1 HS.out.2.1 HS.out.2.2.1 HS.out.2.2.2.1 HS.out.2.2.2.2 (HT.out.2.2.below B4.out) (table_at B4.out HT.out.2.1 HT.out.1) (Nat.lt_of_lt_of_le HT.out.2.1 B4.out.size)
    rw [hmu] at g5
    go_wp2_with fail

    refine g5.mono ?_
    rintro e w5 ⟨a, b, fv, D, rfl, hL, hH, b5, ha, hb, hfo⟩
    clear g5 ha hb hfo
    have hck := logCk_ok hL hH.nf.failed
    rw [hH.ckN, hH.ckR, strOf_bts, hmu] at hck
    have B5 : Aside (Below w.heap.size w w5 ∧ SA w5 g og us) := ⟨B4.out.trans (b5.mono B4.out.size), HS.out.1.below b5⟩
    have HG : Aside (∀ wx, Below w5.heap.size w5 wx → Calls Tryd.prog 17 #[.slice (some ⟨g, og, none⟩) m cu] wx fun e w' => e = .returned (.string (mth (us.map leafS))) ∧ Below wx.heap.size wx w') := by
      intro wx hx
      have hB := B5.out.1.trans (hx.mono B5.out.1.size)
      have h := groveRoot_any us g og cu wx HS.out.2.2.1 (by omega) (B5.out.2.below hx) (fun s hs => by have := HS.out.2.2.2.2 s hs; omega) (table_at hB HT.out.2.1 HT.out.1) (Nat.lt_of_lt_of_le HT.out.2.1 hB.size)
      rw [hmu] at h
      exact h
    have hr32 : (mth (us.map leafS)).size = 32 := mth32
    have HD : Aside (LogAt w5 a b fv (.slice none 0 0) D [] ∧ Holds D us) := ⟨hL, hH⟩
    clear hL hH b5
    generalize mth (us.map leafS) = rt at *
    have hrt : (rt.toList == rt.toList) = true := by rw [eqs]; exact decide_eq_true rfl
    go_wp2_with fail
    refine hck.mono ?_
    rintro e w6 ⟨rfl, b6⟩
    have g7 := HG.out w6 b6
    clear hck
    go_wp2_with fail
    refine g7.mono ?_
    rintro e w7 ⟨rfl, b7⟩
    have B7 : Aside (Below w5.heap.size w5 w7) := b6.trans (b7.mono b6.size)
    clear g7 b6 b7 HG
    go_wp2_with fail
    go_loopw [10] (fun i wr => ∃ k : Nat, k ≤ m ∧ i = .int .i64 (k : Int) ∧ Aside (Below w5.heap.size w5 wr)) (fun i _ => m - (intOf i).toNat)
    case atStart => exact ⟨0, by omega, rfl, B7⟩
    case round =>
      obtain ⟨k, hk, rfl, B8⟩ := hrel
      by_cases hkm : k < m
      · obtain ⟨s, hs⟩ : ∃ s, us[k]? = some s := ⟨_, List.getElem?_eq_getElem (by omega)⟩
        have g9 := logEntry_ok (HD.out.1.below B8.out) HD.out.2.nf.failed k (by rw [HD.out.2.ckN]; omega) (by omega)
        rw [HD.out.2.entry hs] at g9
        have HSk : Aside (w5.cell? ⟨g, og + k, none⟩ = some (.string s)) := B5.out.2 k s hs
        have hst : (s.toList == s.toList) = true := by rw [eqs]; exact decide_eq_true rfl
        clear hs
        go_wp2_with fail
        refine g9.mono ?_
        rintro e w9 ⟨rfl, b9⟩
        clear g9
        have B9 : Aside (Below w5.heap.size w5 w9) := B8.out.trans (b9.mono B8.out.size)
        have hcell : w9.cell? ⟨g, og + k, none⟩ = some (.string s) := by rw [B9.out.cell (World.block_lt_of_cell? _ _ HSk.out)]; exact HSk.out
        clear b9
        go_wp2
        go_roundw
        case rel => exact ⟨k + 1, by omega, by go_num, B9⟩
        case measure => simp [intOf]; omega
      · have hkm' : k = m := by omega
        subst hkm'
        have g9 := logEntry_range (HD.out.1.below B8.out) HD.out.2.nf.failed (k : Int) (.inr (by rw [HD.out.2.ckN]; omega))
        go_wp2_with fail
        refine g9.mono ?_
        rintro e w9 ⟨rfl, b9⟩
        clear g9
        have B9 : Aside (Below w.heap.size w w9) := B5.out.1.trans ((B8.out.trans (b9.mono B8.out.size)).mono B5.out.1.size)
        clear b9
        go_wp2
        go_ret
        exact ⟨by simp, B9.out⟩
  · have hn64' : ¬ (n : Int) > 64 := by omega
    have HS : Aside (SA w4 g 0 fs ∧ g < w4.heap.size ∧ fs.length ≤ cap ∧ fs.length ≤ 64 ∧ ∀ s ∈ fs, s.size ≤ 40) := ⟨HA.out.1, HA.out.2.1, by omega, by omega, HA.out.2.2⟩
    have hmu := hml
    go_wp2_with fail
    clear HA hml hcap
    obtain ⟨us, hus⟩ : ∃ us, us = fs := ⟨_, rfl⟩
    rw [← hus] at HS hmu
    generalize hm0 : n = m at *
    generalize hog : 0 = og at HS ⊢
    clear hog
    generalize cap = cu at *
    have hm1 : 1 ≤ m := by omega
    have hm64 : m ≤ 64 := by omega
    clear hm0
    have g5 := grown_any g og cu gv us w4 HS.out.1 HS.out.2.1 HS.out.2.2.1 HS.out.2.2.2.1 HS.out.2.2.2.2 (HT.out.2.2.below B4.out) (table_at B4.out HT.out.2.1 HT.out.1) (Nat.lt_of_lt_of_le HT.out.2.1 B4.out.size)
    rw [hmu] at g5
    go_wp2_with fail

    refine g5.mono ?_
    rintro e w5 ⟨a, b, fv, D, rfl, hL, hH, b5, ha, hb, hfo⟩
    clear g5 ha hb hfo
    have hck := logCk_ok hL hH.nf.failed
    rw [hH.ckN, hH.ckR, strOf_bts, hmu] at hck
    have B5 : Aside (Below w.heap.size w w5 ∧ SA w5 g og us) := ⟨B4.out.trans (b5.mono B4.out.size), HS.out.1.below b5⟩
    have HG : Aside (∀ wx, Below w5.heap.size w5 wx → Calls Tryd.prog 17 #[.slice (some ⟨g, og, none⟩) m cu] wx fun e w' => e = .returned (.string (mth (us.map leafS))) ∧ Below wx.heap.size wx w') := by
      intro wx hx
      have hB := B5.out.1.trans (hx.mono B5.out.1.size)
      have h := groveRoot_any us g og cu wx HS.out.2.2.1 (by omega) (B5.out.2.below hx) (fun s hs => by have := HS.out.2.2.2.2 s hs; omega) (table_at hB HT.out.2.1 HT.out.1) (Nat.lt_of_lt_of_le HT.out.2.1 hB.size)
      rw [hmu] at h
      exact h
    have hr32 : (mth (us.map leafS)).size = 32 := mth32
    have HD : Aside (LogAt w5 a b fv (.slice none 0 0) D [] ∧ Holds D us) := ⟨hL, hH⟩
    clear hL hH b5
    generalize mth (us.map leafS) = rt at *
    have hrt : (rt.toList == rt.toList) = true := by rw [eqs]; exact decide_eq_true rfl
    go_wp2_with fail
    refine hck.mono ?_
    rintro e w6 ⟨rfl, b6⟩
    have g7 := HG.out w6 b6
    clear hck
    go_wp2_with fail
    refine g7.mono ?_
    rintro e w7 ⟨rfl, b7⟩
    have B7 : Aside (Below w5.heap.size w5 w7) := b6.trans (b7.mono b6.size)
    clear g7 b6 b7 HG
    go_wp2_with fail
    go_loopw [10] (fun i wr => ∃ k : Nat, k ≤ m ∧ i = .int .i64 (k : Int) ∧ Aside (Below w5.heap.size w5 wr)) (fun i _ => m - (intOf i).toNat)
    case atStart => exact ⟨0, by omega, rfl, B7⟩
    case round =>
      obtain ⟨k, hk, rfl, B8⟩ := hrel
      by_cases hkm : k < m
      · obtain ⟨s, hs⟩ : ∃ s, us[k]? = some s := ⟨_, List.getElem?_eq_getElem (by omega)⟩
        have g9 := logEntry_ok (HD.out.1.below B8.out) HD.out.2.nf.failed k (by rw [HD.out.2.ckN]; omega) (by omega)
        rw [HD.out.2.entry hs] at g9
        have HSk : Aside (w5.cell? ⟨g, og + k, none⟩ = some (.string s)) := B5.out.2 k s hs
        have hst : (s.toList == s.toList) = true := by rw [eqs]; exact decide_eq_true rfl
        clear hs
        go_wp2_with fail
        refine g9.mono ?_
        rintro e w9 ⟨rfl, b9⟩
        clear g9
        have B9 : Aside (Below w5.heap.size w5 w9) := B8.out.trans (b9.mono B8.out.size)
        have hcell : w9.cell? ⟨g, og + k, none⟩ = some (.string s) := by rw [B9.out.cell (World.block_lt_of_cell? _ _ HSk.out)]; exact HSk.out
        clear b9
        go_wp2
        go_roundw
        case rel => exact ⟨k + 1, by omega, by go_num, B9⟩
        case measure => simp [intOf]; omega
      · have hkm' : k = m := by omega
        subst hkm'
        have g9 := logEntry_range (HD.out.1.below B8.out) HD.out.2.nf.failed (k : Int) (.inr (by rw [HD.out.2.ckN]; omega))
        go_wp2_with fail
        refine g9.mono ?_
        rintro e w9 ⟨rfl, b9⟩
        clear g9
        have B9 : Aside (Below w.heap.size w w9) := B5.out.1.trans ((B8.out.trans (b9.mono B8.out.size)).mono B5.out.1.size)
        clear b9
        go_wp2
        go_ret
        exact ⟨by simp, B9.out⟩
end Go.Proofs.YtlhohmlpcgbliaaDoor
namespace Go.Proofs.YtlhohmlpcgbliaaDoor
set_option maxRecDepth 100000
open Go.RowKit
attribute [local go_sem ↓] Go.wp_at_zero Go.wp_at_succ

/-- The store's method, bound to it. -/
def spanV (b : Nat) : Value := .func (.func 72) #[stV b] #[]

set_option maxHeartbeats 1000000 in
theorem storeSpan_any (b a n : Nat) (fv : Value) (D : Dk) (w : World) (h : DiskAt w b fv D) (ha : a + n < 500) (ht : Table w) (hg : 2 < w.heap.size) :
    Calls Tryd.prog 72 #[stV b, .int .i64 (a : Int), .int .i64 ((a + n : Nat) : Int)] w fun e w' => e = .returned (.string (D.span a n)) ∧ Below w.heap.size w w' := by
  have hb0 : Below w.heap.size w (w.alloc (.cells #[.pointer (some ⟨b, 0, none⟩)] 97)) := (Below.refl _ _).alloc (Nat.le_refl _) _
  have hB0 : Blk (w.alloc (.cells #[.pointer (some ⟨b, 0, none⟩)] 97)) w.heap.size 97 [.pointer (some ⟨b, 0, none⟩)] := Blk.new w _ _
  have hc := hB0.cell 0
  simp only [List.getElem?_cons_zero] at hc
  have hck := span_any b a n fv D _ (h.below hb0) ha (table_at hb0 hg ht) (Nat.lt_of_lt_of_le hg hb0.size)
  unfold stV
  generalize ((a + n : Nat) : Int) = tt at *
  go_enter Tryd.func72, Tryd.ntmps72
  go_wp2_with fail
  generalize w.alloc (.cells #[.pointer (some ⟨b, 0, none⟩)] 97) = w0 at *
  refine hck.mono ?_
  rintro e w1 ⟨rfl, hb1⟩
  go_wp2
  go_ret
  exact ⟨rfl, hb0.trans (hb1.mono hb0.size)⟩

theorem gives_span (b a n : Nat) (fv : Value) (D : Dk) (w : World) (h : DiskAt w b fv D) (ha : a + n < 500) (ht : Table w) (hg : 2 < w.heap.size) : Gives w 72 #[stV b, .int .i64 (a : Int), .int .i64 ((a + n : Nat) : Int)] (D.span a n) := fun wx hx =>
  storeSpan_any b a n fv D wx (h.below hx) ha (table_at hx hg ht) (Nat.lt_of_lt_of_le hg hx.size)

set_option maxHeartbeats 400000 in
theorem be_none (i a : Nat) (F : Value) (w : World) : GivesRow w 97 #[.int .i64 (i : Int), .int .i64 (a : Int), .int .i64 ((a + 1 : Nat) : Int), F] [] := by
  unfold GivesRow
  have e0 : ((a + 1 : Nat) : Int) - (a : Int) = 1 := by omega
  generalize ((a + 1 : Nat) : Int) = tt at *
  go_enter Tryd.func97, Tryd.ntmps97
  go_wp2
  go_ret
  exact ⟨_, rfl, World.ownsRow_nil _ _ _ _, Below.refl _ _⟩

set_option maxHeartbeats 1000000 in
theorem be_left (i a m : Nat) (S : Value) (xs : List ByteArray) (y : ByteArray) (w : World) (h2 : 2 ≤ m) (hm : a + m < 500) (hi5 : i < 500) (hi : i < a + spl m) (hxl : xs.length ≤ 1048576)
  (hrec : GivesRow w 97 #[.int .i64 (i : Int), .int .i64 (a : Int), .int .i64 ((a : Int) + ((spl m : Nat) : Int)), .func (.func 72) #[S] #[]] xs)
  (hspan : Gives w 72 #[S, .int .i64 ((a : Int) + ((spl m : Nat) : Int)), .int .i64 ((a + m : Nat) : Int)] y) :
    GivesRow w 97 #[.int .i64 (i : Int), .int .i64 (a : Int), .int .i64 ((a + m : Nat) : Int), .func (.func 72) #[S] #[]] (xs ++ [y]) := by
  unfold GivesRow
  have hsp := treeSplit_any m w h2 (by omega)
  have hlt := spl_lt h2
  have e0 : ((a + m : Nat) : Int) - (a : Int) = (m : Int) := by omega
  have h1' : ¬ (m : Int) = 1 := by omega
  generalize spl m = k at *
  have hi' : (i : Int) < (a : Int) + (k : Int) := by omega
  have HX : Aside (strv xs ++ [.string y] = strv (xs ++ [y])) := by show _ = _; simp [strv]
  have hxl2 : (strv xs).length ≤ 1048576 := by rw [strv_length]; exact hxl
  have htt : ((a + m : Nat) : Int) < 500 := by omega
  have htt0 : 0 ≤ ((a + m : Nat) : Int) := by omega
  generalize ((a + m : Nat) : Int) = tt at *
  unfold GivesRow at hrec
  clear hxl hi
  generalize hxs : strv xs = zs at *
  clear hxs
  go_enter Tryd.func97, Tryd.ntmps97
  go_wp2_with fail
  refine hsp.mono ?_
  rintro e w0 ⟨rfl, rfl⟩
  go_wp2_with fail
  refine hrec.mono ?_
  rintro e w1 ⟨v, rfl, hrow, hb⟩
  go_wp2_with fail
  refine (hspan _ hb).mono ?_
  rintro e w2 ⟨rfl, hb2⟩
  have hrow2 := hrow.below hb2 (Nat.le_refl _)
  have hb3 := hb.trans (hb2.mono hb.size)
  clear hrow hrec hspan hsp
  go_wp2_with (at_builtin; refine wpList_app elem_string rfl Tryd.underlying22 (by rfl) (.tmp 27) (.tmp 32) (by rfl) w0.heap.size _ zs (by rfl) (hrow2.alloc _) _ 1 1 [.string y] (by rfl) rfl (Blk.new _ 9 _) ?h1 ?hl ?hb ?hbs (w0 := w0) (hb3.alloc hb3.size _) (Nat.le_refl _) ?_)
  case h1 => intro u hu; simp at hu; subst hu; rfl
  case hl => omega
  case hb => omega
  case hbs => have := hb3.size; simp; omega
  intro v' w' hv' _ hb'
  rw [HX.out] at hv'
  go_wp2
  go_ret
  exact ⟨_, rfl, hv', hb'⟩

set_option maxHeartbeats 1000000 in
theorem be_right (i a m : Nat) (S : Value) (xs : List ByteArray) (y : ByteArray) (w : World) (h2 : 2 ≤ m) (hm : a + m < 500) (hi5 : i < 500) (hi : a + spl m ≤ i) (hxl : xs.length ≤ 1048576)
  (hrec : GivesRow w 97 #[.int .i64 (i : Int), .int .i64 ((a : Int) + ((spl m : Nat) : Int)), .int .i64 ((a + m : Nat) : Int), .func (.func 72) #[S] #[]] xs)
  (hspan : Gives w 72 #[S, .int .i64 (a : Int), .int .i64 ((a : Int) + ((spl m : Nat) : Int))] y) :
    GivesRow w 97 #[.int .i64 (i : Int), .int .i64 (a : Int), .int .i64 ((a + m : Nat) : Int), .func (.func 72) #[S] #[]] (xs ++ [y]) := by
  unfold GivesRow
  have hsp := treeSplit_any m w h2 (by omega)
  have hlt := spl_lt h2
  have e0 : ((a + m : Nat) : Int) - (a : Int) = (m : Int) := by omega
  have h1' : ¬ (m : Int) = 1 := by omega
  generalize spl m = k at *
  have hi' : ¬ (i : Int) < (a : Int) + (k : Int) := by omega
  have HX : Aside (strv xs ++ [.string y] = strv (xs ++ [y])) := by show _ = _; simp [strv]
  have hxl2 : (strv xs).length ≤ 1048576 := by rw [strv_length]; exact hxl
  have htt : ((a + m : Nat) : Int) < 500 := by omega
  have htt0 : 0 ≤ ((a + m : Nat) : Int) := by omega
  generalize ((a + m : Nat) : Int) = tt at *
  unfold GivesRow at hrec
  clear hxl hi
  generalize hxs : strv xs = zs at *
  clear hxs
  go_enter Tryd.func97, Tryd.ntmps97
  go_wp2_with fail
  refine hsp.mono ?_
  rintro e w0 ⟨rfl, rfl⟩
  go_wp2_with fail
  refine hrec.mono ?_
  rintro e w1 ⟨v, rfl, hrow, hb⟩
  go_wp2_with fail
  refine (hspan _ hb).mono ?_
  rintro e w2 ⟨rfl, hb2⟩
  have hrow2 := hrow.below hb2 (Nat.le_refl _)
  have hb3 := hb.trans (hb2.mono hb.size)
  clear hrow hrec hspan hsp
  go_wp2_with (at_builtin; refine wpList_app elem_string rfl Tryd.underlying22 (by rfl) (.tmp 38) (.tmp 43) (by rfl) w0.heap.size _ zs (by rfl) (hrow2.alloc _) _ 1 1 [.string y] (by rfl) rfl (Blk.new _ 9 _) ?h1 ?hl ?hb ?hbs (w0 := w0) (hb3.alloc hb3.size _) (Nat.le_refl _) ?_)
  case h1 => intro u hu; simp at hu; subst hu; rfl
  case hl => omega
  case hb => omega
  case hbs => have := hb3.size; simp; omega
  intro v' w' hv' _ hb'
  rw [HX.out] at hv'
  go_wp2
  go_ret
  exact ⟨_, rfl, hv', hb'⟩
end Go.Proofs.YtlhohmlpcgbliaaDoor
namespace Go.Proofs.YtlhohmlpcgbliaaDoor
set_option maxRecDepth 100000
open Go.RowKit
attribute [local go_sem ↓] Go.wp_at_zero Go.wp_at_succ

set_option maxHeartbeats 400000 in
theorem bs_none (i : Nat) (F : Value) (w : World) : GivesRow w 99 #[.int .i64 (i : Int), .int .i64 0, .int .i64 (i : Int), F] [] := by
  unfold GivesRow
  go_enter Tryd.func99, Tryd.ntmps99
  go_wp2
  go_ret
  exact ⟨_, rfl, World.ownsRow_nil _ _ _ _, Below.refl _ _⟩

set_option maxHeartbeats 1000000 in
theorem bs_one (i a : Nat) (S : Value) (y : ByteArray) (w : World) (ha : a ≠ 0) (hspan : Gives w 72 #[S, .int .i64 (a : Int), .int .i64 (i : Int)] y) : GivesRow w 99 #[.int .i64 (i : Int), .int .i64 (a : Int), .int .i64 (i : Int), .func (.func 72) #[S] #[]] [y] := by
  unfold GivesRow
  have ha' : ¬ (a : Int) = 0 := by omega
  go_enter Tryd.func99, Tryd.ntmps99
  go_wp2_with fail
  refine (hspan _ (Below.refl _ _)).mono ?_
  rintro e w2 ⟨rfl, hb2⟩
  go_wp2
  go_ret
  refine ⟨_, rfl, ?_, hb2.alloc hb2.size _⟩
  exact Row.lit' _ _ 9 [.string y] 1 rfl hb2.size (by decide)

set_option maxHeartbeats 1000000 in
theorem bs_left (i a m : Nat) (S : Value) (xs : List ByteArray) (y : ByteArray) (w : World) (h2 : 2 ≤ m) (hm : a + m < 500) (hi5 : i < 500) (hi : i ≤ a + spl m) (hxl : xs.length ≤ 1048576)
  (hrec : GivesRow w 99 #[.int .i64 (i : Int), .int .i64 (a : Int), .int .i64 ((a : Int) + ((spl m : Nat) : Int)), .func (.func 72) #[S] #[]] xs)
  (hspan : Gives w 72 #[S, .int .i64 ((a : Int) + ((spl m : Nat) : Int)), .int .i64 ((a + m : Nat) : Int)] y) :
    GivesRow w 99 #[.int .i64 (i : Int), .int .i64 (a : Int), .int .i64 ((a + m : Nat) : Int), .func (.func 72) #[S] #[]] (xs ++ [y]) := by
  unfold GivesRow
  have hsp := treeSplit_any m w h2 (by omega)
  have hlt := spl_lt h2
  have e0 : ((a + m : Nat) : Int) - (a : Int) = (m : Int) := by omega
  have h1' : ¬ (m : Int) = 1 := by omega
  have hne' : ¬ (i : Int) = ((a + m : Nat) : Int) := by omega
  generalize spl m = k at *
  have hi' : (i : Int) ≤ (a : Int) + (k : Int) := by omega
  have HX : Aside (strv xs ++ [.string y] = strv (xs ++ [y])) := by show _ = _; simp [strv]
  have hxl2 : (strv xs).length ≤ 1048576 := by rw [strv_length]; exact hxl
  have htt : ((a + m : Nat) : Int) < 500 := by omega
  have htt0 : 0 ≤ ((a + m : Nat) : Int) := by omega
  generalize ((a + m : Nat) : Int) = tt at *
  unfold GivesRow at hrec
  clear hxl hi
  generalize hxs : strv xs = zs at *
  clear hxs
  go_enter Tryd.func99, Tryd.ntmps99
  go_wp2_with fail
  refine hsp.mono ?_
  rintro e w0 ⟨rfl, rfl⟩
  go_wp2_with fail
  refine hrec.mono ?_
  rintro e w1 ⟨v, rfl, hrow, hb⟩
  go_wp2_with fail
  refine (hspan _ hb).mono ?_
  rintro e w2 ⟨rfl, hb2⟩
  have hrow2 := hrow.below hb2 (Nat.le_refl _)
  have hb3 := hb.trans (hb2.mono hb.size)
  clear hrow hrec hspan hsp
  go_wp2_with (at_builtin; refine wpList_app elem_string rfl Tryd.underlying22 (by rfl) (.tmp 38) (.tmp 43) (by rfl) w0.heap.size _ zs (by rfl) (hrow2.alloc _) _ 1 1 [.string y] (by rfl) rfl (Blk.new _ 9 _) ?h1 ?hl ?hb ?hbs (w0 := w0) (hb3.alloc hb3.size _) (Nat.le_refl _) ?_)
  case h1 => intro u hu; simp at hu; subst hu; rfl
  case hl => omega
  case hb => omega
  case hbs => have := hb3.size; simp; omega
  intro v' w' hv' _ hb'
  rw [HX.out] at hv'
  go_wp2
  go_ret
  exact ⟨_, rfl, hv', hb'⟩

set_option maxHeartbeats 1000000 in
theorem bs_right (i a m : Nat) (S : Value) (xs : List ByteArray) (y : ByteArray) (w : World) (h2 : 2 ≤ m) (hm : a + m < 500) (hi5 : i < 500) (hi : a + spl m < i) (hne : i ≠ a + m) (hxl : xs.length ≤ 1048576)
  (hrec : GivesRow w 99 #[.int .i64 (i : Int), .int .i64 ((a : Int) + ((spl m : Nat) : Int)), .int .i64 ((a + m : Nat) : Int), .func (.func 72) #[S] #[]] xs)
  (hspan : Gives w 72 #[S, .int .i64 (a : Int), .int .i64 ((a : Int) + ((spl m : Nat) : Int))] y) :
    GivesRow w 99 #[.int .i64 (i : Int), .int .i64 (a : Int), .int .i64 ((a + m : Nat) : Int), .func (.func 72) #[S] #[]] (xs ++ [y]) := by
  unfold GivesRow
  have hsp := treeSplit_any m w h2 (by omega)
  have hlt := spl_lt h2
  have e0 : ((a + m : Nat) : Int) - (a : Int) = (m : Int) := by omega
  have h1' : ¬ (m : Int) = 1 := by omega
  have hne' : ¬ (i : Int) = ((a + m : Nat) : Int) := by omega
  generalize spl m = k at *
  have hi' : ¬ (i : Int) ≤ (a : Int) + (k : Int) := by omega
  have HX : Aside (strv xs ++ [.string y] = strv (xs ++ [y])) := by show _ = _; simp [strv]
  have hxl2 : (strv xs).length ≤ 1048576 := by rw [strv_length]; exact hxl
  have htt : ((a + m : Nat) : Int) < 500 := by omega
  have htt0 : 0 ≤ ((a + m : Nat) : Int) := by omega
  generalize ((a + m : Nat) : Int) = tt at *
  unfold GivesRow at hrec
  clear hxl hi
  generalize hxs : strv xs = zs at *
  clear hxs
  go_enter Tryd.func99, Tryd.ntmps99
  go_wp2_with fail
  refine hsp.mono ?_
  rintro e w0 ⟨rfl, rfl⟩
  go_wp2_with fail
  refine hrec.mono ?_
  rintro e w1 ⟨v, rfl, hrow, hb⟩
  go_wp2_with fail
  refine (hspan _ hb).mono ?_
  rintro e w2 ⟨rfl, hb2⟩
  have hrow2 := hrow.below hb2 (Nat.le_refl _)
  have hb3 := hb.trans (hb2.mono hb.size)
  clear hrow hrec hspan hsp
  go_wp2_with (at_builtin; refine wpList_app elem_string rfl Tryd.underlying22 (by rfl) (.tmp 49) (.tmp 54) (by rfl) w0.heap.size _ zs (by rfl) (hrow2.alloc _) _ 1 1 [.string y] (by rfl) rfl (Blk.new _ 9 _) ?h1 ?hl ?hb ?hbs (w0 := w0) (hb3.alloc hb3.size _) (Nat.le_refl _) ?_)
  case h1 => intro u hu; simp at hu; subst hu; rfl
  case hl => omega
  case hb => omega
  case hbs => have := hb3.size; simp; omega
  intro v' w' hv' _ hb'
  rw [HX.out] at hv'
  go_wp2
  go_ret
  exact ⟨_, rfl, hv', hb'⟩
end Go.Proofs.YtlhohmlpcgbliaaDoor
namespace Go.Proofs.YtlhohmlpcgbliaaDoor
set_option maxRecDepth 100000
open Go.RowKit

/-- Where a part of a log's tree is cut. -/
theorem cut_facts {m a j : Nat} (h2 : 2 ≤ m) (hj : m ≤ 2 ^ j) (hd : 2 ^ j ∣ a) : ∃ h, spl m = 2 ^ h ∧ 2 ^ h ∣ a ∧ 2 ^ h ∣ a + spl m ∧ m - spl m ≤ 2 ^ h ∧ spl m < m ∧ 0 < spl m := by
  obtain ⟨h, hs⟩ := spl_pow m
  have h3 := spl_lt h2
  have h4 := spl_ge h2
  rw [hs] at h3 h4
  have h5 : h < j := (Nat.pow_lt_pow_iff_right (a := 2) (by omega)).1 (by omega)
  have h6 : 2 ^ h ∣ a := Nat.dvd_trans (Nat.pow_dvd_pow 2 (by omega)) hd
  refine ⟨h, hs, h6, ?_, by omega, by omega, spl_pos m⟩
  rw [hs]
  exact Nat.dvd_add h6 (Nat.dvd_refl _)

theorem sub_take {L : List ByteArray} {a m k : Nat} (h : k ≤ m) : ((L.drop a).take m).take k = (L.drop a).take k := by rw [List.take_take, Nat.min_eq_left h]
theorem sub_drop {L : List ByteArray} {a m k : Nat} : ((L.drop a).take m).drop k = (L.drop (a + k)).take (m - k) := by rw [List.drop_take, List.drop_drop]
theorem sub_len {L : List ByteArray} {a m : Nat} (h : a + m ≤ L.length) : ((L.drop a).take m).length = m := by rw [List.length_take, List.length_drop]; omega

theorem beside_inc {E : List ByteArray} {D : Dk} {b : Nat} {fv : Value} (hH : Holds D E) : ∀ (N i a m j : Nat) (w : World), DiskAt w b fv D → Table w → 2 < w.heap.size → m ≤ N → N ≤ 64 → 1 ≤ m → m ≤ 2 ^ j → 2 ^ j ∣ a → a + m ≤ E.length → a ≤ i → i < a + m →
    GivesRow w 97 #[.int .i64 (i : Int), .int .i64 (a : Int), .int .i64 ((a + m : Nat) : Int), spanV b] (incF N (i - a) (((E.map leafS).drop a).take m)) := by
  intro N
  have hL : (E.map leafS).length = E.length := List.length_map _
  have hE := hH.len
  have hspan := fun (m a j : Nat) (h1 : m ≤ 2 ^ j) (h2 : 2 ^ j ∣ a) (h3 : a + m ≤ E.length) => span_mth hH.til (by rw [hL]; exact Nat.le_refl _) m m a j (Nat.le_refl _) h1 h2 h3
  induction N with
  | zero => intro i a m j w _ _ _ h1 _ h2; omega
  | succ N ih =>
    intro i a m j w hD ht hg hm hN h1 hj hd ham hai him
    have hl := sub_len (L := E.map leafS) (a := a) (m := m) (by omega)
    simp only [incF, hl]
    by_cases h2 : m < 2
    · rw [if_pos h2]
      obtain rfl : m = 1 := by omega
      exact be_none i a _ w
    · rw [if_neg h2]
      obtain ⟨h, hs, hd1, hd2, hle, hlt, hpos⟩ := cut_facts (by omega) hj hd
      rw [sub_take (by omega), sub_drop]
      have gl := gives_span b a (spl m) fv D w hD (by omega) ht hg
      have gr := gives_span b (a + spl m) (m - spl m) fv D w hD (by omega) ht hg
      rw [hspan (spl m) a h (by omega) hd1 (by omega)] at gl
      rw [hspan (m - spl m) (a + spl m) h hle hd2 (by omega)] at gr
      rw [show a + spl m + (m - spl m) = a + m by omega] at gr
      by_cases h5 : i < a + spl m
      · rw [if_pos (by omega)]
        have q := ih i a (spl m) h w hD ht hg (by omega) (by omega) (by omega) (by omega) hd1 (by omega) hai h5
        rw [Int.natCast_add] at q gr
        exact be_left i a m (stV b) _ _ w (by omega) (by omega) (by omega) h5 (Nat.le_trans (incF_length N _ _) (by omega)) q gr
      · rw [if_neg (by omega)]
        have q := ih i (a + spl m) (m - spl m) h w hD ht hg (by omega) (by omega) (by omega) hle hd2 (by omega) (by omega) (by omega)
        rw [show a + spl m + (m - spl m) = a + m by omega, show i - (a + spl m) = i - a - spl m by omega] at q
        rw [Int.natCast_add] at q gl
        exact be_right i a m (stV b) _ _ w (by omega) (by omega) (by omega) (by omega) (Nat.le_trans (incF_length N _ _) (by omega)) q gl

theorem beside_con {E : List ByteArray} {D : Dk} {b : Nat} {fv : Value} (hH : Holds D E) : ∀ (N i a m j : Nat) (w : World), DiskAt w b fv D → Table w → 2 < w.heap.size → m ≤ N → N ≤ 64 → 1 ≤ m → m ≤ 2 ^ j → 2 ^ j ∣ a → a + m ≤ E.length → a < i → i ≤ a + m →
    GivesRow w 99 #[.int .i64 (i : Int), .int .i64 (a : Int), .int .i64 ((a + m : Nat) : Int), spanV b] (conF N (i - a) (((E.map leafS).drop a).take m) (decide (a = 0))) := by
  intro N
  have hL : (E.map leafS).length = E.length := List.length_map _
  have hE := hH.len
  have hspan := fun (m a j : Nat) (h1 : m ≤ 2 ^ j) (h2 : 2 ^ j ∣ a) (h3 : a + m ≤ E.length) => span_mth hH.til (by rw [hL]; exact Nat.le_refl _) m m a j (Nat.le_refl _) h1 h2 h3
  induction N with
  | zero => intro i a m j w _ _ _ h1 _ h2; omega
  | succ N ih =>
    intro i a m j w hD ht hg hm hN h1 hj hd ham hai him
    have hl := sub_len (L := E.map leafS) (a := a) (m := m) (by omega)
    simp only [conF, hl]
    by_cases h2 : i = a + m
    · rw [if_pos (by omega)]
      by_cases h0 : a = 0
      · subst h0
        rw [if_pos (by simp)]
        rw [← h2]
        exact bs_none i _ w
      · rw [if_neg (by simpa using h0)]
        have g := gives_span b a m fv D w hD (by omega) ht hg
        rw [hspan m a j hj hd ham] at g
        rw [← h2] at g ⊢
        exact bs_one i a (stV b) _ w h0 g
    · rw [if_neg (by omega)]
      obtain ⟨h, hs, hd1, hd2, hle, hlt, hpos⟩ := cut_facts (m := m) (by omega) hj hd
      rw [sub_take (by omega), sub_drop]
      have gl := gives_span b a (spl m) fv D w hD (by omega) ht hg
      have gr := gives_span b (a + spl m) (m - spl m) fv D w hD (by omega) ht hg
      rw [hspan (spl m) a h (by omega) hd1 (by omega)] at gl
      rw [hspan (m - spl m) (a + spl m) h hle hd2 (by omega)] at gr
      rw [show a + spl m + (m - spl m) = a + m by omega] at gr
      by_cases h5 : i ≤ a + spl m
      · rw [if_pos (by omega)]
        have q := ih i a (spl m) h w hD ht hg (by omega) (by omega) (by omega) (by omega) hd1 (by omega) hai h5
        rw [Int.natCast_add] at q gr
        exact bs_left i a m (stV b) _ _ w (by omega) (by omega) (by omega) h5 (Nat.le_trans (conF_length N _ _ _) (by omega)) q gr
      · rw [if_neg (by omega)]
        have q := ih i (a + spl m) (m - spl m) h w hD ht hg (by omega) (by omega) (by omega) hle hd2 (by omega) (by omega) (by omega)
        rw [show a + spl m + (m - spl m) = a + m by omega, show i - (a + spl m) = i - a - spl m by omega, show decide (a + spl m = 0) = false from decide_eq_false (by omega)] at q
        rw [Int.natCast_add] at q gl
        exact bs_right i a m (stV b) _ _ w (by omega) (by omega) (by omega) (by omega) h2 (Nat.le_trans (conF_length N _ _ _) (by omega)) q gl
end Go.Proofs.YtlhohmlpcgbliaaDoor
namespace Go.Proofs.YtlhohmlpcgbliaaDoor
set_option maxRecDepth 100000
open Go.RowKit
attribute [local go_sem ↓] Go.wp_at_zero Go.wp_at_succ


set_option maxHeartbeats 1000000 in
theorem treeInclusion (i n : Nat) (F : Value) (xs : List ByteArray) (w : World) (h : GivesRow w 97 #[.int .i64 (i : Int), .int .i64 0, .int .i64 (n : Int), F] xs) : GivesRow w 71 #[.int .i64 (i : Int), .int .i64 (n : Int), F] xs := by
  unfold GivesRow at *
  go_enter Tryd.func71, Tryd.ntmps71
  go_wp2_with fail
  refine h.mono ?_
  rintro e w1 ⟨v, rfl, hr, hb⟩
  go_wp2
  go_ret
  exact ⟨_, rfl, hr, hb⟩

set_option maxHeartbeats 1000000 in
theorem logInclusion_ok {w : World} {a b : Nat} {fv wv : Value} {D : Dk} {W E : List ByteArray} (h : LogAt w a b fv wv D W) (hH : Holds D E) (ht : Table w) (hg : 2 < w.heap.size) (i n : Nat) (hn : n ≤ E.length) (hi : i < n) : Calls Tryd.prog 38 #[.pointer (some ⟨a, 0, none⟩), .int .i64 (i : Int), .int .i64 (n : Int)] w fun e w' => ∃ v, e = .returned (.tuple #[v, .int .i64 0]) ∧ Row w' w.heap.size 9 v (strv (incF n i ((E.map leafS).take n))) ∧ Below w.heap.size w w' := by
  have hk := logCk_ok h hH.nf.failed
  rw [hH.ckN] at hk
  have hE := hH.len
  have hlg := fun wx (hx : Below w.heap.size w wx) => (h.below hx).blk.cell 0
  have hin : Aside (∀ wx, Below w.heap.size w wx → GivesRow wx 71 #[.int .i64 (i : Int), .int .i64 (n : Int), spanV b] (incF n i ((E.map leafS).take n))) := fun wx hx => by
    refine treeInclusion i n _ _ wx ?_
    have q := beside_inc hH n i 0 n 6 wx (h.below hx).disk (table_at hx hg ht) (Nat.lt_of_lt_of_le hg hx.size) (Nat.le_refl _) (by omega) (by omega) (by omega) (Nat.dvd_zero _) (by omega) (by omega) (by omega)
    rw [Nat.sub_zero, List.drop_zero, Nat.zero_add] at q
    exact q
  unfold spanV stV at hin
  have hmf : ∀ (fn : Fn) (first cap : Array Value) (w : World), (Instr.makeFunc fn first cap).run Tryd.prog w = .ok (.func fn first cap) w := fun _ _ _ _ => rfl
  have hi1 : ¬ (i : Int) < 0 := by omega
  have hi2 : ¬ (i : Int) ≥ (n : Int) := by omega
  generalize incF n i ((E.map leafS).take n) = xs at *
  generalize strOf D.ckR = rt at *
  have hnE : ¬ (n : Int) > (E.length : Int) := by omega
  generalize (E.length : Int) = al at *
  go_enter Tryd.func38, Tryd.ntmps38
  go_wp2_with fail
  refine hk.mono ?_
  rintro e w1 ⟨rfl, hb1⟩
  have hc := hlg w1 hb1
  simp only [List.getElem?_cons_zero] at hc
  have hin1 := hin.out w1 hb1
  unfold GivesRow at hin1
  clear hk hlg
  go_wp2_with fail
  refine hin1.mono ?_
  rintro e w2 ⟨v, rfl, hr, hb2⟩
  have hr2 := hr.mono hb1.size
  clear hin1 hr
  go_wp2
  go_ret2
  exact ⟨_, rfl, hr2, hb1.trans (hb2.mono hb1.size)⟩

set_option maxHeartbeats 1000000 in
theorem treeConsistency (i n : Nat) (F : Value) (xs : List ByteArray) (w : World) (h : GivesRow w 99 #[.int .i64 (i : Int), .int .i64 0, .int .i64 (n : Int), F] xs) : GivesRow w 73 #[.int .i64 (i : Int), .int .i64 (n : Int), F] xs := by
  unfold GivesRow at *
  go_enter Tryd.func73, Tryd.ntmps73
  go_wp2_with fail
  refine h.mono ?_
  rintro e w1 ⟨v, rfl, hr, hb⟩
  go_wp2
  go_ret
  exact ⟨_, rfl, hr, hb⟩

set_option maxHeartbeats 1000000 in
theorem logConsistency_ok {w : World} {a b : Nat} {fv wv : Value} {D : Dk} {W E : List ByteArray} (h : LogAt w a b fv wv D W) (hH : Holds D E) (ht : Table w) (hg : 2 < w.heap.size) (i n : Nat) (hn : n ≤ E.length) (hi1 : 1 ≤ i) (hi : i ≤ n) : Calls Tryd.prog 39 #[.pointer (some ⟨a, 0, none⟩), .int .i64 (i : Int), .int .i64 (n : Int)] w fun e w' => ∃ v, e = .returned (.tuple #[v, .int .i64 0]) ∧ Row w' w.heap.size 9 v (strv (conF n i ((E.map leafS).take n) true)) ∧ Below w.heap.size w w' := by
  have hk := logCk_ok h hH.nf.failed
  rw [hH.ckN] at hk
  have hE := hH.len
  have hlg := fun wx (hx : Below w.heap.size w wx) => (h.below hx).blk.cell 0
  have hin : Aside (∀ wx, Below w.heap.size w wx → GivesRow wx 73 #[.int .i64 (i : Int), .int .i64 (n : Int), spanV b] (conF n i ((E.map leafS).take n) true)) := fun wx hx => by
    refine treeConsistency i n _ _ wx ?_
    have q := beside_con hH n i 0 n 6 wx (h.below hx).disk (table_at hx hg ht) (Nat.lt_of_lt_of_le hg hx.size) (Nat.le_refl _) (by omega) (by omega) (by omega) (Nat.dvd_zero _) (by omega) (by omega) (by omega)
    rw [Nat.sub_zero, List.drop_zero, Nat.zero_add] at q
    exact q
  unfold spanV stV at hin
  have hmf : ∀ (fn : Fn) (first cap : Array Value) (w : World), (Instr.makeFunc fn first cap).run Tryd.prog w = .ok (.func fn first cap) w := fun _ _ _ _ => rfl
  have hi1 : ¬ (i : Int) < 1 := by omega
  have hi2 : ¬ (i : Int) > (n : Int) := by omega
  generalize conF n i ((E.map leafS).take n) true = xs at *
  generalize strOf D.ckR = rt at *
  have hnE : ¬ (n : Int) > (E.length : Int) := by omega
  generalize (E.length : Int) = al at *
  go_enter Tryd.func39, Tryd.ntmps39
  go_wp2_with fail
  refine hk.mono ?_
  rintro e w1 ⟨rfl, hb1⟩
  have hc := hlg w1 hb1
  simp only [List.getElem?_cons_zero] at hc
  have hin1 := hin.out w1 hb1
  unfold GivesRow at hin1
  clear hk hlg
  go_wp2_with fail
  refine hin1.mono ?_
  rintro e w2 ⟨v, rfl, hr, hb2⟩
  have hr2 := hr.mono hb1.size
  clear hin1 hr
  go_wp2
  go_ret2
  exact ⟨_, rfl, hr2, hb1.trans (hb2.mono hb1.size)⟩
end Go.Proofs.YtlhohmlpcgbliaaDoor
namespace Go.Proofs.YtlhohmlpcgbliaaDoor
set_option maxRecDepth 100000
open Go.RowKit
attribute [local go_sem ↓] Go.wp_at_zero Go.wp_at_succ

theorem extTreeB_mid (old root : ByteArray) (m n : Nat) (v : Value) (ss : List ByteArray) (w : World) (h0 : 1 ≤ m) (h1 : m < n) (h2 : n ≤ 1099511627776) (hl : old.size ≤ 140737488355328) (hv : Lst w v ss) (hf : FewB ss) (ht : Table w) (hg : 2 < w.heap.size) (hT : TabAt 1 Lib.deBruijn64tab w) :
    Calls Tryd.prog 64 #[.int .i64 (m : Int), .int .i64 (n : Int), .string old, .string root, v] w fun e w' => e = .returned (.bool (decide (boR old ss.reverse m n true = some (old, root)))) ∧ Below w.heap.size w w' := by
  obtain ⟨q, hq, hh⟩ := Lib.ctzFrom_spec 64 m (by omega) (by omega)
  have hz : ∀ wx, (∃ d, wx = w.drewN d) → Calls Tryd.prog 90 #[.int .u64 (m : Int)] wx fun e w' => e = .returned (.int .i64 ((Lib.ctzFrom 64 m : Nat) : Int)) ∧ w' = wx := by
    rintro wx ⟨d, rfl⟩
    have := bits_TrailingZeros m (by omega) (w.drewN d) (fun _ j hj => by rw [World.cell?_drewN]; exact hT j hj)
    rw [Lib.ctz, if_neg (by omega)] at this
    exact this
  generalize Lib.ctzFrom 64 m = h at *
  have hb := boR_cl old ss.reverse h q m n 40 true hq h1 (by omega)
  rw [List.reverse_reverse] at hb
  have e1 := odd_at m h q hq
  have e2 := last_at n h (by omega)
  have hp := Nat.two_pow_pos h
  have hla : 2 * q + 1 ≤ (n - 1) / 2 ^ h := (Nat.le_div_iff_mul_le hp).2 (by rw [Nat.mul_comm (2 * q + 1), ← hq]; omega)
  have hlb : (n - 1) / 2 ^ h ≤ n - 1 := Nat.div_le_self _ _
  have hcl : ∀ (st : ByteArray) (u : Value) (rr : List ByteArray), st.size ≤ 140737488355328 → Lst w u rr → FewB rr → ∀ wx, (∃ d, wx = w.drewN d) → Calls Tryd.prog 89 #[.string st, .int .i64 (((m : Int) - 1) / 2 ^ h), .int .i64 (((n : Int) - 1) / 2 ^ h), u] wx (ClimbAs (cl 40 st st (2 * q) ((n - 1) / 2 ^ h) rr) wx) := by
    rintro st u rr hst hu hrr wx ⟨d, rfl⟩
    rw [e1, e2]
    exact climb_big st (2 * q) ((n - 1) / 2 ^ h) u rr (w.drewN d) (by omega) (by omega) (by omega) (hu.drewN d) hrr (fun j hj => by rw [World.cell?_drewN]; exact ht j hj) hg
  by_cases hq0 : q = 0
  · rw [hb, hq0]
    rw [hq0] at hcl
    refine extTree_a old root m n h v w _ h0 h1 h2 hh (by rw [e1, hq0]; decide) hz ?_
    simpa [St] using hcl old v ss hl hv hf
  · rw [hb, decide_eq_false hq0]
    have hat : 0 < ((m : Int) - 1) / 2 ^ h := by rw [e1]; omega
    obtain ⟨p, c, rfl, hc, hcell⟩ := id hv
    cases ss with
    | nil => simpa [St] using extTree_b old root m n h c p w h0 h1 h2 hh hat hz
    | cons s r =>
      obtain ⟨b, o, rfl, hx⟩ := hcell 0 s rfl
      simp only [List.length_cons] at hc hv ⊢
      have hr : FewB r := ⟨by have := hf.1; simp at this; omega, fun x hx => hf.2 x (List.mem_cons_of_mem _ hx)⟩
      have := extTree_c old root s m n h r.length c b o _ w (cl 40 s s (2 * q) ((n - 1) / 2 ^ h) r) h0 h1 h2 hh hat hx (fun wx => slice_tail wx b o r.length c hc) hz (hcl s _ r (hf.2 s (List.mem_cons_self ..)) hv.tail hr)
      simpa [St] using this

theorem extTreeB_any (old root : ByteArray) (m n : Int) (v : Value) (ss : List ByteArray) (w : World) (hl : old.size ≤ 140737488355328) (hv : Lst w v ss) (hf : FewB ss) (ht : Table w) (hg : 2 < w.heap.size) (hT : TabAt 1 Lib.deBruijn64tab w) :
    Calls Tryd.prog 64 #[.int .i64 m, .int .i64 n, .string old, .string root, v] w fun e w' => e = .returned (.bool (extB m n old root ss)) ∧ Below w.heap.size w w' := by
  unfold extB
  by_cases h0 : 1 ≤ m
  · by_cases h1 : m ≤ n
    · by_cases h2 : n ≤ 1099511627776
      · rw [decide_eq_true (show 1 ≤ m ∧ m ≤ n ∧ n ≤ 1099511627776 from ⟨h0, h1, h2⟩), Bool.true_and]
        obtain ⟨a, rfl⟩ := Int.eq_ofNat_of_zero_le (show 0 ≤ m by omega)
        obtain ⟨b, rfl⟩ := Int.eq_ofNat_of_zero_le (show 0 ≤ n by omega)
        simp only [Int.toNat_natCast]
        by_cases he : a = b
        · subst he
          obtain ⟨p, c, rfl, hc, hcell⟩ := hv
          refine (extTree_full old root a ss.length c p w (by omega) (by omega)).mono fun e w' ⟨he, hb⟩ => ⟨?_, by rw [hb]; exact Below.refl _ _⟩
          rw [he]
          cases ss with
          | nil => simp [boR_full old 40 a true, St, cl_zero]
          | cons s r => simp [boR_full old 40 a true, St, cl_zero]
        · exact extTreeB_mid old root a b v ss w (by omega) (by omega) (by omega) hl hv hf ht hg hT
      · refine (extTree_great old root m n v w h0 h1 (by omega)).mono fun e w' ⟨he, hb⟩ => ⟨?_, by rw [hb]; exact Below.refl _ _⟩
        rw [he, decide_eq_false (by omega)]; rfl
    · refine (extTree_high old root m n v w h0 (by omega)).mono fun e w' ⟨he, hb⟩ => ⟨?_, by rw [hb]; exact Below.refl _ _⟩
      rw [he, decide_eq_false (by omega)]; rfl
  · refine (extTree_low old root m n v w (by omega)).mono fun e w' ⟨he, hb⟩ => ⟨?_, by rw [hb]; exact Below.refl _ _⟩
    rw [he, decide_eq_false (by omega)]; rfl

set_option maxHeartbeats 400000 in
theorem ext_big (old root : ByteArray) (m n : Int) (v : Value) (ss : List ByteArray) (w : World) (hl : old.size ≤ 140737488355328) (hv : Lst w v ss) (hf : FewB ss) (ht : Table w) (hg : 2 < w.heap.size) (hT : TabAt 1 Lib.deBruijn64tab w) :
    Calls Tryd.prog 24 #[.int .i64 m, .int .i64 n, .string old, .string root, v] w fun e w' => e = .returned (.bool (extB m n old root ss)) ∧ Below w.heap.size w w' := by
  have h1 := extTreeB_any old root m n v ss w hl hv hf ht hg hT
  clear hv hf hT
  go_enter Tryd.func24, Tryd.ntmps24
  go_wp2_with (go_at_call 64; refine h1.mono ?_; rintro e w' ⟨rfl, hb⟩)
  go_ret
  exact ⟨rfl, hb⟩

theorem cl_more (x : ByteArray) : ∀ (f : Nat) (p w : ByteArray) (i last : Nat) (l : List ByteArray) (r : ByteArray × ByteArray), cl f p w i last l = some r → cl f p w i last (l ++ [x]) = none := by
  intro f
  induction f with
  | zero =>
    intro p w i last l r h
    simp [cl]
  | succ f ih =>
    intro p w i last l r h
    simp only [cl] at h ⊢
    split
    · simp
    · rename_i h0
      rw [if_neg h0] at h
      split
      · rename_i h1
        rw [if_pos h1] at h
        cases l with
        | nil => simp at h
        | cons y l => simpa using ih _ _ _ _ _ _ h
      · rename_i h1
        rw [if_neg h1] at h
        split
        · rename_i h2
          rw [if_pos h2] at h
          cases l with
          | nil => simp at h
          | cons y l => simpa using ih _ _ _ _ _ _ h
        · rename_i h2
          rw [if_neg h2] at h
          exact ih _ _ _ _ _ _ h

theorem incl_more {leaf r r' x : ByteArray} {i n : Int} {l : List ByteArray} (h : inclB leaf i n l r = true) : inclB leaf i n (l ++ [x]) r' = false := by
  unfold inclB at *
  simp only [Bool.and_eq_true, decide_eq_true_eq, Option.map_eq_some_iff] at h
  obtain ⟨_, q, hq, _⟩ := h
  rw [cl_more x _ _ _ _ _ _ _ hq]
  simp

theorem incl_other {leaf r r' : ByteArray} {i n : Int} {l : List ByteArray} (h : inclB leaf i n l r = true) (hr : r' ≠ r) : inclB leaf i n l r' = false := by
  unfold inclB at *
  simp only [Bool.and_eq_true, decide_eq_true_eq] at h
  rw [h.2]
  simp only [Bool.and_eq_false_iff, decide_eq_false_iff_not]
  exact .inr fun e => hr (Option.some.inj e).symm

theorem ext_other {old r r' : ByteArray} {m n : Int} {l : List ByteArray} (h : extB m n old r l = true) (hr : r' ≠ r) : extB m n old r' l = false := by
  unfold extB at *
  simp only [Bool.and_eq_true, decide_eq_true_eq] at h
  rw [h.2]
  simp only [Bool.and_eq_false_iff, decide_eq_false_iff_not]
  exact .inr fun e => hr (Prod.mk.inj (Option.some.inj e)).2.symm

theorem conF_boR_np (x : ByteArray) : ∀ (f m : Nat) (l : List ByteArray), l.length ≤ f → 1 ≤ m → m < l.length → (∀ h, m ≠ 2 ^ h) → boR x (conF f m l true).reverse m l.length true = some (mth (l.take m), mth l) := by
  intro f
  induction f with
  | zero => intro m l h1 h2 h3 _; omega
  | succ f ih =>
    intro m l h1 h2 h3 hp
    simp only [conF]
    have hm : ¬ m = l.length := by omega
    rw [if_neg hm]
    have h5 := spl_lt (n := l.length) (by omega)
    have h6 := spl_pos l.length
    by_cases h7 : m ≤ spl l.length
    · rw [if_pos h7, List.reverse_append, List.reverse_singleton, List.singleton_append]
      simp only [boR]
      rw [if_neg hm, if_pos h7]
      have h8 : m ≠ spl l.length := by obtain ⟨h, e⟩ := spl_pow l.length; rw [e]; exact hp h
      have e1 : (l.take (spl l.length)).take m = l.take m := by rw [List.take_take, Nat.min_eq_left h7]
      have := ih m (l.take (spl l.length)) (by rw [List.length_take]; omega) h2 (by rw [List.length_take]; omega) hp
      rw [e1, List.length_take, Nat.min_eq_left (by omega)] at this
      rw [this, mth_two (l := l) (by omega)]; rfl
    · rw [if_neg h7, List.reverse_append, List.reverse_singleton, List.singleton_append]
      simp only [boR]
      rw [if_neg hm, if_neg h7]
      have := conF_boR x f (m - spl l.length) (l.drop (spl l.length)) false (by rw [List.length_drop]; omega) (by omega) (by rw [List.length_drop]; omega) (fun h => by cases h)
      rw [List.length_drop] at this
      have hlm : (l.take m).length = m := by rw [List.length_take]; omega
      have e2 : mth (l.take m) = nodeS (mth (l.take (spl l.length))) (mth ((l.drop (spl l.length)).take (m - spl l.length))) := by
        rw [mth_two (l := l.take m) (by omega), hlm, spl_mid (n := l.length) (by omega) (by omega) (by omega), List.take_take, Nat.min_eq_left (by omega), List.drop_take]
      rw [this, e2, mth_two (l := l) (by omega)]; rfl

theorem not_pow {m : Nat} (h : m &&& (m - 1) ≠ 0) : ∀ k, m ≠ 2 ^ k := by
  intro k e
  apply h
  rw [e, Nat.and_two_pow_sub_one_eq_mod, Nat.mod_self]

theorem ext_old {l : List ByteArray} {m : Nat} {x : ByteArray} (h1 : 1 ≤ m) (h2 : m < l.length) (hp : m &&& (m - 1) ≠ 0) (hx : x ≠ mth (l.take m)) : extB m l.length x (mth l) (conF l.length m l true) = false := by
  have h := conF_boR_np x l.length m l (Nat.le_refl _) h1 h2 (not_pow hp)
  unfold extB
  simp only [Int.toNat_natCast, h, Bool.and_eq_false_iff, decide_eq_false_iff_not]
  exact .inr fun e => hx (Prod.mk.inj (Option.some.inj e)).1.symm
end Go.Proofs.YtlhohmlpcgbliaaDoor
