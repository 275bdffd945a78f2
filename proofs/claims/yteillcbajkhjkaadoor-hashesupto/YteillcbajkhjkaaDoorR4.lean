import Derived.Test.YteillcbajkhjkaaDoorR3
namespace Go.Proofs.YteillcbajkhjkaaDoor
open Go.RowKit
attribute [local go_sem ↓] Go.wp_at_zero Go.wp_at_succ

/-- These cells hold these values. -/
def Cells (l : List (Addr × Value)) (w : World) : Prop := ∀ p ∈ l, w.cell? p.1 = some p.2
theorem Cells.two {a b : Addr} {x y : Value} {w : World} (h1 : w.cell? a = some x) (h2 : w.cell? b = some y) : Cells [(a, x), (b, y)] w := by
  intro p hp
  simp at hp
  rcases hp with rfl | rfl <;> assumption
theorem Cells.get {l : List (Addr × Value)} {w : World} (h : Cells l w) (a : Addr) (x : Value) (hm : (a, x) ∈ l) : w.cell? a = some x := h _ hm

set_option maxRecDepth 100000 in
set_option maxHeartbeats 1000000 in
theorem blkR11_wp {c0 c1 c2 c3 c4 c7 c8 c11 c12 c13 c14 c15 c16 c17 c18 c19 c20 c21 c22 c23 c24 c25 c26 c27 c28 c29 c30 c31 c32 c33 c34 c35 c36 c37 c38 c39 c40 c41 c42 c43 c44 c45 c46 c47 c48 c49 c50 c51 c52 c53 c54 c55 c56 c57 c58 c59 c60 c61 c62 c63 c64 c65 c66 c67 c68 c69 c70 c71 c72 c73 c74 c75 c76 c77 c78 c79 c80 c81 c82 c83 c84 c85 c86 c87 c88 c89 c90 c91 c92 c93 c94 c95 c96 c97 c98 c99 c100 c101 c102 c103 c104 c105 c106 c107 c108 c109 c110 c111 c112 c113 c114 c115 c116 c117 c118 c119 c120 c121 c122 c123 c124 c125 c126 c127 c128 c129 c130 c131 c132 c133 c134 c135 c136 c137 c138 c139 c140 c141 c142 c143 c144 c145 c146 c147 c148 c149 c150 c151 c152 c153 c154 c155 c156 c157 c158 c159 c160 c161 c162 c163 c164 c165 c166 c167 c168 c169 c170 c171 c172 c173 c174 c175 c176 c177 c178 c179 c180 c181 c182 c183 c184 c185 c186 c187 c188 c189 c190 c191 c192 c193 c194 c195 c196 c197 c198 c199 c200 c201 c202 c203 c204 c205 c206 c207 c208 c209 c210 c211 c212 c213 c214 c215 c216 c217 c218 c219 c220 c221 c222 : Value} (g cap k x16 x7 p q base : Nat) (xs : List Value) (w w0 : World) (Q : Exit → Act → World → Prop) (hk : 16 ≤ k) (hk2 : k < 64) (hlx : xs.length = k) (l16 : x16 < 4294967296) (l7 : x7 < 4294967296) (lp : p < 4294967296) (lq : q < 4294967296)
  (hrow : Row w base 3 (.slice (some ⟨g, 0, none⟩) k cap) xs) (e16 : w.cell? ⟨g, k - 16, none⟩ = some (.int .i64 (x16 : Int))) (e7 : w.cell? ⟨g, k - 7, none⟩ = some (.int .i64 (x7 : Int))) (hbase : base ≤ w.heap.size) (hbw : Below base w0 w) (hg : g < w.heap.size)
  (hQ : ∀ (u85 u86 u87 u88 u89 u90 u91 u92 u93 u94 u95 u96 u97 u98 u99 u100 u101 u102 u103 : Value) (v' : Value) (w' : World), Row w' base 3 v' (xs ++ [.int .i64 (((x16 + p + x7 + q) % 4294967296 : Nat) : Int)]) → Below base w0 w' → Q .normal ⟨#[c0, c1, c2, c3, c4, v', .int .i64 (k : Int), c7, c8, .int .i64 (p : Int), .int .i64 (q : Int), c11, c12, c13, c14, c15, c16, c17, c18, c19, c20, c21, c22, c23, c24, c25, c26, c27, c28, c29, c30, c31, c32, c33, c34, c35, c36, c37, c38, c39, c40, c41, c42, c43, c44, c45, c46, c47, c48, c49, c50, c51, c52, c53, c54, c55, c56, c57, c58, c59, c60, c61, c62, c63, c64, c65, c66, c67, c68, c69, c70, c71, c72, c73, c74, c75, c76, c77, c78, c79, c80, c81, c82, c83, c84, u85, u86, u87, u88, u89, u90, u91, u92, u93, u94, u95, u96, u97, u98, u99, u100, u101, u102, u103, c104, c105, c106, c107, c108, c109, c110, c111, c112, c113, c114, c115, c116, c117, c118, c119, c120, c121, c122, c123, c124, c125, c126, c127, c128, c129, c130, c131, c132, c133, c134, c135, c136, c137, c138, c139, c140, c141, c142, c143, c144, c145, c146, c147, c148, c149, c150, c151, c152, c153, c154, c155, c156, c157, c158, c159, c160, c161, c162, c163, c164, c165, c166, c167, c168, c169, c170, c171, c172, c173, c174, c175, c176, c177, c178, c179, c180, c181, c182, c183, c184, c185, c186, c187, c188, c189, c190, c191, c192, c193, c194, c195, c196, c197, c198, c199, c200, c201, c202, c203, c204, c205, c206, c207, c208, c209, c210, c211, c212, c213, c214, c215, c216, c217, c218, c219, c220, c221, c222], []⟩ w') :
  Code.wp Tryd.prog blkR11 Q ⟨#[c0, c1, c2, c3, c4, .slice (some ⟨g, 0, none⟩) k cap, .int .i64 (k : Int), c7, c8, .int .i64 (p : Int), .int .i64 (q : Int), c11, c12, c13, c14, c15, c16, c17, c18, c19, c20, c21, c22, c23, c24, c25, c26, c27, c28, c29, c30, c31, c32, c33, c34, c35, c36, c37, c38, c39, c40, c41, c42, c43, c44, c45, c46, c47, c48, c49, c50, c51, c52, c53, c54, c55, c56, c57, c58, c59, c60, c61, c62, c63, c64, c65, c66, c67, c68, c69, c70, c71, c72, c73, c74, c75, c76, c77, c78, c79, c80, c81, c82, c83, c84, c85, c86, c87, c88, c89, c90, c91, c92, c93, c94, c95, c96, c97, c98, c99, c100, c101, c102, c103, c104, c105, c106, c107, c108, c109, c110, c111, c112, c113, c114, c115, c116, c117, c118, c119, c120, c121, c122, c123, c124, c125, c126, c127, c128, c129, c130, c131, c132, c133, c134, c135, c136, c137, c138, c139, c140, c141, c142, c143, c144, c145, c146, c147, c148, c149, c150, c151, c152, c153, c154, c155, c156, c157, c158, c159, c160, c161, c162, c163, c164, c165, c166, c167, c168, c169, c170, c171, c172, c173, c174, c175, c176, c177, c178, c179, c180, c181, c182, c183, c184, c185, c186, c187, c188, c189, c190, c191, c192, c193, c194, c195, c196, c197, c198, c199, c200, c201, c202, c203, c204, c205, c206, c207, c208, c209, c210, c211, c212, c213, c214, c215, c216, c217, c218, c219, c220, c221, c222], []⟩ w := by
  conv => arg 2; whnf
  have i0 : (16 : Int) ≤ (k : Int) := by omega
  have i1 : (k : Int) < 64 := by omega
  have HV : Hid (((x16 : Int) + p + x7 + q) % 4294967296 = (((x16 + p + x7 + q) % 4294967296 : Nat) : Int)) := by show _ = _; omega
  refine wp_region_head (S := Cells [(⟨g, k - 16, none⟩, .int .i64 (x16 : Int)), (⟨g, k - 7, none⟩, .int .i64 (x7 : Int))]) (n := 17) (by kernel_rfl) (by kernel_rfl) (by kernel_rfl) (by simp) (Cells.two e16 e7) ?_
  simp only [List.take_succ_cons, List.take_zero]
  iterate 5 (refine wpQuiet_pure (by rfl) ?_; go_big_quiet_step (fail); refine wpQuiet_nil ?_; show wpQuiet _ _ _ _ _ _)
  refine wpQuiet_load (by rfl) 3 (.tmp 89) (by rfl) ⟨g, k - 16, none⟩ (.int .i64 (x16 : Int)) (by rfl) (fun w hw => load_int w _ _ _ (hw.get _ _ (by simp))) ?_
  simp only [Act.put, List.setIfInBounds_toArray, List.set_cons_succ, List.set_cons_zero]
  iterate 6 (refine wpQuiet_pure (by rfl) ?_; go_big_quiet_step (fail); refine wpQuiet_nil ?_; show wpQuiet _ _ _ _ _ _)
  refine wpQuiet_load (by rfl) 3 (.tmp 96) (by rfl) ⟨g, k - 7, none⟩ (.int .i64 (x7 : Int)) (by rfl) (fun w hw => load_int w _ _ _ (hw.get _ _ (by simp))) ?_
  simp only [Act.put, List.setIfInBounds_toArray, List.set_cons_succ, List.set_cons_zero]
  iterate 4 (refine wpQuiet_pure (by rfl) ?_; go_big_quiet_step (fail); refine wpQuiet_nil ?_; show wpQuiet _ _ _ _ _ _)
  refine wpQuiet_nil ?_
  refine wpAnyH_val (i := 17) (v := .slice (some ⟨w.heap.size, 0, none⟩) 1 1) (w' := (w.alloc (.cells #[.int .i64 (((x16 : Int) + p + x7 + q) % 4294967296)] 3)).drew) (by kernel_rfl) (by rfl) (by rfl) (by kernel_rfl) (Cells.two ((World.cell?_of_block (Below.heap_alloc _ _ _ hg)).trans e16) ((World.cell?_of_block (Below.heap_alloc _ _ _ hg)).trans e7)) ?_
  refine wpAnyH_app elem_int rfl Tryd.underlying32 (i := 18) (by kernel_rfl) (by rfl) (by rfl) (.tmp 85) (.tmp 102) (by rfl) base (.slice (some ⟨g, 0, none⟩) k cap) xs (by rfl) ((hrow.alloc _).drewN 1) w.heap.size 1 1 [.int .i64 (((x16 : Int) + p + x7 + q) % 4294967296)] (by rfl) rfl (by omega) ((Blk.new w 3 _).drewN 1) (by simp [Value.oneCell']) (by omega) (by omega) (by simp; omega) (w0 := w0) (B := base) (Below.drewN' (hbw.alloc hbase _) 1) (Nat.le_refl _) ?_
  intro g' cap' w' hrow' _ hkeep hb'
  have s16 : w'.cell? ⟨g, k - 16, none⟩ = some (.int .i64 (x16 : Int)) := (hkeep g cap (k - 16) (by rw [hlx]) (by omega)).trans ((World.cell?_of_block (Below.heap_alloc _ _ _ hg)).trans e16)
  have s7 : w'.cell? ⟨g, k - 7, none⟩ = some (.int .i64 (x7 : Int)) := (hkeep g cap (k - 7) (by rw [hlx]) (by omega)).trans ((World.cell?_of_block (Below.heap_alloc _ _ _ hg)).trans e7)
  refine ⟨Cells.two s16 s7, ?_⟩
  refine wpAnyH_val (i := 19) (v := .slice (some ⟨g', 0, none⟩) (xs.length + 1) cap') (w' := w') (by kernel_rfl) (by rfl) (by rfl) (by kernel_rfl) (Cells.two s16 s7) ?_
  refine wpAnyH_done (by kernel_rfl) ?_ _
  refine NoPanic.normal ?_
  simp only [Act.put]
  rw [HV.out] at hrow'
  exact hQ _ _ _ _ _ _ _ _ _ _ _ _ _ _ _ _ _ _ _ _ _ hrow' hb'
end Go.Proofs.YteillcbajkhjkaaDoor
