import Derived.Test.YteillcbajkhjkaaDoorR8
namespace Go.Proofs.YteillcbajkhjkaaDoor
open Go.RowKit
attribute [local go_sem ↓] Go.wp_at_zero Go.wp_at_succ

noncomputable def blkB4 : Code := ((Tryd.f41.body.bind (findBlock 4)).getD .skip)
noncomputable def blkR27 : Code := ((Tryd.f41.body.bind (findRegion 27)).getD .skip)

/-- A cell outside the row that was appended to. -/
theorem grown_cell {w w' : World} {base : Nat} {e : TypeId} {v : Value} {xs : List Value} {a : Addr} {x : Value} (hown : Row w base e v xs) (hg : w.grownBy w' v.ownBlock) (hc : w.cell? a = some x) (ha : a.block < base) : w'.cell? a = some x :=
  hg.cell hc (fun h => by have := (hown.lt a.block h.symm).1; omega)

set_option maxRecDepth 100000 in
set_option maxHeartbeats 1000000 in
theorem blkR27_wp {c1 c2 c3 c4 c5 c6 c7 c8 c9 c10 c12 c13 c14 c15 c16 c17 c18 c21 c22 c23 c24 c25 c26 c27 c28 c29 c30 c31 c32 c33 c34 c35 c36 c37 c38 c39 c40 c41 c42 c43 c44 c45 c46 c47 c48 c49 c50 c51 c52 c53 c54 c55 c56 c57 c58 c59 c60 c61 c62 c63 c64 c65 c66 c67 c68 c69 c70 c71 c72 c73 c74 c75 c76 c77 c78 c79 c80 c81 c82 c83 c84 c85 c86 c87 c88 c89 c90 c91 c92 c93 c94 c95 c96 c97 c98 c99 c100 c101 c102 c103 c104 c105 c106 c107 c108 c109 c110 c111 c112 c113 c114 c115 c116 c117 c118 c119 c120 c121 c122 c123 c124 c125 c126 c127 c128 c129 c130 c131 c132 c133 c134 c135 c136 c137 c138 c139 c140 c141 c142 c143 c144 c145 c146 c147 c148 c149 c150 c151 c152 c153 c154 c155 c156 c157 c158 c159 c160 c161 c162 c163 c164 c165 c166 c167 c168 c169 c170 c171 c172 c173 c174 c175 c176 c177 c178 c179 c180 c181 c182 c183 c184 c185 c186 c187 c188 c189 c190 c191 c192 c193 c194 c195 c196 c197 c198 c199 c200 c201 c202 c203 c204 c205 c206 c207 c208 c209 c210 c211 c212 c213 c214 c215 c216 c217 c218 c219 c220 c221 c222 : Value} (gh ch g c k x y base : Nat) (v : Value) (xs : List Value) (w w0 : World) (Q : Exit → Act → World → Prop) (hk : k < 8) (lx : x < 4294967296) (ly : y < 4294967296) (hxs : xs.length ≤ 8)
  (hrow : Row w base 3 v xs) (ex : w.cell? ⟨gh, k, none⟩ = some (.int .i64 (x : Int))) (ey : w.cell? ⟨g, k, none⟩ = some (.int .i64 (y : Int))) (hbase : base ≤ w.heap.size) (hbw : Below base w0 w) (hgh : gh < base) (hg : g < base)
  (hQ : ∀ (u209 u210 u211 u212 u213 u214 u215 u216 u217 u218 u219 u220 u221 : Value) (v' : Value) (w' : World), Row w' base 3 v' (xs ++ [.int .i64 (((x + y) % 4294967296 : Nat) : Int)]) → Below base w0 w' → Q .normal ⟨#[.slice (some ⟨gh, 0, none⟩) 8 ch, c1, c2, c3, c4, c5, c6, c7, c8, c9, c10, .slice (some ⟨g, 0, none⟩) 8 c, c12, c13, c14, c15, c16, c17, c18, v', .int .i64 (k : Int), c21, c22, c23, c24, c25, c26, c27, c28, c29, c30, c31, c32, c33, c34, c35, c36, c37, c38, c39, c40, c41, c42, c43, c44, c45, c46, c47, c48, c49, c50, c51, c52, c53, c54, c55, c56, c57, c58, c59, c60, c61, c62, c63, c64, c65, c66, c67, c68, c69, c70, c71, c72, c73, c74, c75, c76, c77, c78, c79, c80, c81, c82, c83, c84, c85, c86, c87, c88, c89, c90, c91, c92, c93, c94, c95, c96, c97, c98, c99, c100, c101, c102, c103, c104, c105, c106, c107, c108, c109, c110, c111, c112, c113, c114, c115, c116, c117, c118, c119, c120, c121, c122, c123, c124, c125, c126, c127, c128, c129, c130, c131, c132, c133, c134, c135, c136, c137, c138, c139, c140, c141, c142, c143, c144, c145, c146, c147, c148, c149, c150, c151, c152, c153, c154, c155, c156, c157, c158, c159, c160, c161, c162, c163, c164, c165, c166, c167, c168, c169, c170, c171, c172, c173, c174, c175, c176, c177, c178, c179, c180, c181, c182, c183, c184, c185, c186, c187, c188, c189, c190, c191, c192, c193, c194, c195, c196, c197, c198, c199, c200, c201, c202, c203, c204, c205, c206, c207, c208, u209, u210, u211, u212, u213, u214, u215, u216, u217, u218, u219, u220, u221, c222], []⟩ w') :
  Code.wp Tryd.prog blkR27 Q ⟨#[.slice (some ⟨gh, 0, none⟩) 8 ch, c1, c2, c3, c4, c5, c6, c7, c8, c9, c10, .slice (some ⟨g, 0, none⟩) 8 c, c12, c13, c14, c15, c16, c17, c18, v, .int .i64 (k : Int), c21, c22, c23, c24, c25, c26, c27, c28, c29, c30, c31, c32, c33, c34, c35, c36, c37, c38, c39, c40, c41, c42, c43, c44, c45, c46, c47, c48, c49, c50, c51, c52, c53, c54, c55, c56, c57, c58, c59, c60, c61, c62, c63, c64, c65, c66, c67, c68, c69, c70, c71, c72, c73, c74, c75, c76, c77, c78, c79, c80, c81, c82, c83, c84, c85, c86, c87, c88, c89, c90, c91, c92, c93, c94, c95, c96, c97, c98, c99, c100, c101, c102, c103, c104, c105, c106, c107, c108, c109, c110, c111, c112, c113, c114, c115, c116, c117, c118, c119, c120, c121, c122, c123, c124, c125, c126, c127, c128, c129, c130, c131, c132, c133, c134, c135, c136, c137, c138, c139, c140, c141, c142, c143, c144, c145, c146, c147, c148, c149, c150, c151, c152, c153, c154, c155, c156, c157, c158, c159, c160, c161, c162, c163, c164, c165, c166, c167, c168, c169, c170, c171, c172, c173, c174, c175, c176, c177, c178, c179, c180, c181, c182, c183, c184, c185, c186, c187, c188, c189, c190, c191, c192, c193, c194, c195, c196, c197, c198, c199, c200, c201, c202, c203, c204, c205, c206, c207, c208, c209, c210, c211, c212, c213, c214, c215, c216, c217, c218, c219, c220, c221, c222], []⟩ w := by
  conv => arg 2; whnf
  have i0 : (0 : Int) ≤ (k : Int) := by omega
  have i1 : (k : Int) < 8 := by omega
  have HV : Hid (((x : Int) + y) % 4294967296 = (((x + y) % 4294967296 : Nat) : Int)) := by show _ = _; omega
  have hS := Cells.two ex ey
  refine wp_region_head (S := Cells [(⟨gh, k, none⟩, .int .i64 (x : Int)), (⟨g, k, none⟩, .int .i64 (y : Int))]) (n := 11) (by kernel_rfl) (by kernel_rfl) (by kernel_rfl) (by simp) hS ?_
  simp only [List.take_succ_cons, List.take_zero]
  iterate 4 (refine wpQuiet_pure (by rfl) ?_; go_big_quiet_step (fail); refine wpQuiet_nil ?_; show wpQuiet _ _ _ _ _ _)
  refine wpQuiet_load (by rfl) 3 (.tmp 212) (by rfl) ⟨gh, k, none⟩ (.int .i64 (x : Int)) (by rfl) (fun w hw => load_int w _ _ _ (hw.get _ _ (by simp))) ?_
  simp only [Act.put, List.setIfInBounds_toArray, List.set_cons_succ, List.set_cons_zero]
  iterate 3 (refine wpQuiet_pure (by rfl) ?_; go_big_quiet_step (fail); refine wpQuiet_nil ?_; show wpQuiet _ _ _ _ _ _)
  refine wpQuiet_load (by rfl) 3 (.tmp 216) (by rfl) ⟨g, k, none⟩ (.int .i64 (y : Int)) (by rfl) (fun w hw => load_int w _ _ _ (hw.get _ _ (by simp))) ?_
  simp only [Act.put, List.setIfInBounds_toArray, List.set_cons_succ, List.set_cons_zero]
  iterate 2 (refine wpQuiet_pure (by rfl) ?_; go_big_quiet_step (fail); refine wpQuiet_nil ?_; show wpQuiet _ _ _ _ _ _)
  refine wpQuiet_nil ?_
  rw [HV.out]
  refine wpAnyH_val (i := 11) (v := .slice (some ⟨w.heap.size, 0, none⟩) 1 1) (w' := (w.alloc (.cells #[.int .i64 (((x + y) % 4294967296 : Nat) : Int)] 3)).drewN 1) (by kernel_rfl) (by rfl) (by rfl) (by kernel_rfl) (hS.alloc _) ?_
  refine wpAnyH_app elem_int rfl Tryd.underlying32 (i := 12) (by kernel_rfl) (by rfl) (by rfl) (.tmp 209) (.tmp 220) (by rfl) base v xs (by rfl) ((hrow.alloc _).drewN 1) w.heap.size 1 1 [.int .i64 (((x + y) % 4294967296 : Nat) : Int)] (by rfl) rfl (by omega) ((Blk.new w 3 _).drewN 1) (by simp [Value.oneCell']) (by omega) (by omega) (by simp; omega) (w0 := w0) (B := base) (Below.drewN' (hbw.alloc hbase _) 1) (Nat.le_refl _) ?_
  intro g' cap' w' hrow' hgrow _ hb'
  have hS1 := hS.alloc (.cells #[.int .i64 (((x + y) % 4294967296 : Nat) : Int)] 3)
  have sx : w'.cell? ⟨gh, k, none⟩ = some (.int .i64 (x : Int)) := grown_cell ((hrow.alloc _).drewN 1) hgrow (hS1.get _ _ (by simp)) hgh
  have sy : w'.cell? ⟨g, k, none⟩ = some (.int .i64 (y : Int)) := grown_cell ((hrow.alloc _).drewN 1) hgrow (hS1.get _ _ (by simp)) hg
  refine ⟨Cells.two sx sy, ?_⟩
  refine wpAnyH_val (i := 13) (v := .slice (some ⟨g', 0, none⟩) (xs.length + 1) cap') (w' := w') (by kernel_rfl) (by rfl) (by rfl) (by kernel_rfl) (Cells.two sx sy) ?_
  refine wpAnyH_done (by kernel_rfl) ?_ _
  refine NoPanic.normal ?_
  simp only [Act.put]
  exact hQ _ _ _ _ _ _ _ _ _ _ _ _ _ _ _ hrow' hb'

theorem addK_take (s t : Sha.St) (k : Nat) (hk : k < 8) : (Sha.add s t).list.take (k + 1) = (Sha.add s t).list.take k ++ [(s.list.getD k 0 + t.list.getD k 0) % 4294967296] := by
  match k, hk with
  | 0, _ => rfl
  | 1, _ => rfl
  | 2, _ => rfl
  | 3, _ => rfl
  | 4, _ => rfl
  | 5, _ => rfl
  | 6, _ => rfl
  | 7, _ => rfl

set_option maxRecDepth 100000 in
set_option maxHeartbeats 2000000 in
theorem blkB4_wp {c1 c2 c3 c4 c5 c6 c7 c8 c9 c10 c12 c13 c14 c15 c16 c17 c18 c21 c22 c23 c24 c25 c26 c27 c28 c29 c30 c31 c32 c33 c34 c35 c36 c37 c38 c39 c40 c41 c42 c43 c44 c45 c46 c47 c48 c49 c50 c51 c52 c53 c54 c55 c56 c57 c58 c59 c60 c61 c62 c63 c64 c65 c66 c67 c68 c69 c70 c71 c72 c73 c74 c75 c76 c77 c78 c79 c80 c81 c82 c83 c84 c85 c86 c87 c88 c89 c90 c91 c92 c93 c94 c95 c96 c97 c98 c99 c100 c101 c102 c103 c104 c105 c106 c107 c108 c109 c110 c111 c112 c113 c114 c115 c116 c117 c118 c119 c120 c121 c122 c123 c124 c125 c126 c127 c128 c129 c130 c131 c132 c133 c134 c135 c136 c137 c138 c139 c140 c141 c142 c143 c144 c145 c146 c147 c148 c149 c150 c151 c152 c153 c154 c155 c156 c157 c158 c159 c160 c161 c162 c163 c164 c165 c166 c167 c168 c169 c170 c171 c172 c173 c174 c175 c176 c177 c178 c179 c180 c181 c182 c183 c184 c185 c186 c187 c188 c189 c190 c191 c192 c193 c194 c195 c196 c197 c198 c199 c200 c201 c202 c203 c204 c205 c206 c207 c208 c209 c210 c211 c212 c213 c214 c215 c216 c217 c218 c219 c220 c221 c222 : Value} (s t : Sha.St) (gh ch g c : Nat) (w : World) (Q : Exit → Act → World → Prop) (hs : s.ok) (ht : t.ok) (hH : IntsAt w gh s.list) (hgh : gh < w.heap.size) (hV : IntsAt w g t.list) (hg : g < w.heap.size)
  (hQ : ∀ (u20 u205 u206 u207 u208 u209 u210 u211 u212 u213 u214 u215 u216 u217 u218 u219 u220 u221 : Value) (v' : Value) (w' : World), Row w' w.heap.size 3 v' (ints (Sha.add s t).list) → Below w.heap.size w w' → Q (.exit 4) ⟨#[.slice (some ⟨gh, 0, none⟩) 8 ch, c1, c2, c3, c4, c5, c6, c7, c8, c9, c10, .slice (some ⟨g, 0, none⟩) 8 c, c12, c13, c14, c15, c16, c17, c18, v', u20, c21, c22, c23, c24, c25, c26, c27, c28, c29, c30, c31, c32, c33, c34, c35, c36, c37, c38, c39, c40, c41, c42, c43, c44, c45, c46, c47, c48, c49, c50, c51, c52, c53, c54, c55, c56, c57, c58, c59, c60, c61, c62, c63, c64, c65, c66, c67, c68, c69, c70, c71, c72, c73, c74, c75, c76, c77, c78, c79, c80, c81, c82, c83, c84, c85, c86, c87, c88, c89, c90, c91, c92, c93, c94, c95, c96, c97, c98, c99, c100, c101, c102, c103, c104, c105, c106, c107, c108, c109, c110, c111, c112, c113, c114, c115, c116, c117, c118, c119, c120, c121, c122, c123, c124, c125, c126, c127, c128, c129, c130, c131, c132, c133, c134, c135, c136, c137, c138, c139, c140, c141, c142, c143, c144, c145, c146, c147, c148, c149, c150, c151, c152, c153, c154, c155, c156, c157, c158, c159, c160, c161, c162, c163, c164, c165, c166, c167, c168, c169, c170, c171, c172, c173, c174, c175, c176, c177, c178, c179, c180, c181, c182, c183, c184, c185, c186, c187, c188, c189, c190, c191, c192, c193, c194, c195, c196, c197, c198, c199, c200, c201, c202, c203, c204, u205, u206, u207, u208, u209, u210, u211, u212, u213, u214, u215, u216, u217, u218, u219, u220, u221, c222], []⟩ w') :
  Code.wp Tryd.prog blkB4 Q ⟨#[.slice (some ⟨gh, 0, none⟩) 8 ch, c1, c2, c3, c4, c5, c6, c7, c8, c9, c10, .slice (some ⟨g, 0, none⟩) 8 c, c12, c13, c14, c15, c16, c17, c18, .slice none 0 0, .int .i64 0, c21, c22, c23, c24, c25, c26, c27, c28, c29, c30, c31, c32, c33, c34, c35, c36, c37, c38, c39, c40, c41, c42, c43, c44, c45, c46, c47, c48, c49, c50, c51, c52, c53, c54, c55, c56, c57, c58, c59, c60, c61, c62, c63, c64, c65, c66, c67, c68, c69, c70, c71, c72, c73, c74, c75, c76, c77, c78, c79, c80, c81, c82, c83, c84, c85, c86, c87, c88, c89, c90, c91, c92, c93, c94, c95, c96, c97, c98, c99, c100, c101, c102, c103, c104, c105, c106, c107, c108, c109, c110, c111, c112, c113, c114, c115, c116, c117, c118, c119, c120, c121, c122, c123, c124, c125, c126, c127, c128, c129, c130, c131, c132, c133, c134, c135, c136, c137, c138, c139, c140, c141, c142, c143, c144, c145, c146, c147, c148, c149, c150, c151, c152, c153, c154, c155, c156, c157, c158, c159, c160, c161, c162, c163, c164, c165, c166, c167, c168, c169, c170, c171, c172, c173, c174, c175, c176, c177, c178, c179, c180, c181, c182, c183, c184, c185, c186, c187, c188, c189, c190, c191, c192, c193, c194, c195, c196, c197, c198, c199, c200, c201, c202, c203, c204, c205, c206, c207, c208, c209, c210, c211, c212, c213, c214, c215, c216, c217, c218, c219, c220, c221, c222], []⟩ w := by
  conv => arg 2; whnf
  try go_wp2
  go_loopw [19, 20] (fun v i wr => ∃ k : Nat, k ≤ 8 ∧ i = .int .i64 k ∧ Row wr w.heap.size 3 v (ints ((Sha.add s t).list.take k)) ∧ Below w.heap.size w wr) (fun _ i _ => 8 - (intOf i).toNat)
  case atStart => exact ⟨0, by omega, rfl, World.ownsRow_nil _ _ _ _, Below.refl _ _⟩
  case round =>
    obtain ⟨k, hk, rfl, hrow, hb⟩ := hrel
    by_cases h8 : k < 8
    · have ex := hH.below hb hgh k h8
      have ey := hV.below hb hg k h8
      have lx := St.ok_get hs k
      have ly := St.ok_get ht k
      have HN : Hid (ints ((Sha.add s t).list.take (k + 1)) = ints ((Sha.add s t).list.take k) ++ [.int .i64 (((s.list.getD k 0 + t.list.getD k 0) % 4294967296 : Nat) : Int)]) := by
        show _ = _
        rw [addK_take s t k h8, ints_append]; rfl
      have hxl : (ints ((Sha.add s t).list.take k)).length ≤ 8 := by rw [ints_length, List.length_take]; omega
      generalize s.list.getD k 0 = x at *
      generalize t.list.getD k 0 = y at *
      have HB : Hid (Below w.heap.size w wr) := hb
      have HS : Hid (w.heap.size ≤ wr.heap.size) := hb.size
      clear hQ hH hV hb
      go_wp2_with fail
      refine blkR27_wp gh ch g c k x y w.heap.size _ _ _ w _ h8 lx ly hxl hrow ex ey HS.out HB.out hgh hg ?_
      intro u209 u210 u211 u212 u213 u214 u215 u216 u217 u218 u219 u220 u221 v' w' hrow' hb'
      simp only [Exit.inBlock]
      go_wp2_with fail
      refine ⟨⟨k + 1, by omega, by go_num, ?_, hb'⟩, by simp [intOf]; omega⟩
      rw [HN.out]
      exact hrow'
    · have hk8 : k = 8 := by omega
      subst hk8
      go_wp2
      exact hQ _ _ _ _ _ _ _ _ _ _ _ _ _ _ _ _ _ _ _ _ hrow hb
end Go.Proofs.YteillcbajkhjkaaDoor
