import Derived.Test.YteillcbajkhjkaaDoorR2
import Derived.Test.YteillcbajkhjkaaDoorHQ
namespace Go.Proofs.YteillcbajkhjkaaDoor
open Go.RowKit
attribute [local go_sem ↓] Go.wp_at_zero Go.wp_at_succ

theorem exec_append {P : Program} {o : Oper} {a : Act} {w w' : World} {s x : Operand} {t : TypeId} {v1 v2 u : Value} (ho : o.op = .call { callee := .builtin .append, args := #[s, x], argTypes := #[t, t] }) (hs : a.eval s = v1) (hx : a.eval x = v2)
    (hr : (Builtin.append_ #[t, t] o.type #[v1, v2]).run P w = .ok u w') : (execOp a.eval o).run P w = .ok (.value u) w' := by
  unfold execOp
  simp only [ho, resolve, invoke, builtin, Sem.run_bind, Sem.run_pure, Result.andThen_ok, List.map_toArray, List.map_cons, List.map_nil, hs, hx, hr]

/-- An append, where it comes up alone. -/
theorem wpAnyH_app {e t : TypeId} {z : Value} {bytes : Nat} (hel : Elem e z bytes) (hz : z.cells.size = 1) (ht : Tryd.prog.underlying t = some (.slice e))
    {w w0 : World} {B i fuel : Nat} {ops : Array Oper} {o : Oper} {a : Act} {listed : Array Bool} {Q : Exit → Act → World → Prop} {S : World → Prop} (hrd : Region.ready .any ops listed = [i]) (hi : ops[i]? = some o) (hgd : o.guard = none) (s x : Operand)
    (ho : o.op = .call { callee := .builtin .append, args := #[s, x], argTypes := #[t, t] }) (base : Nat) (v : Value) (xs : List Value) (hs : a.eval s = v) (hown : Row w base e v xs)
    (g0 m c : Nat) (news : List Value) (hx : a.eval x = .slice (some ⟨g0, 0, none⟩) m c) (hm : news.length = m) (hm0 : 0 < m) (hnews : Blk w g0 e news) (h1 : ∀ u ∈ news, u.oneCell' = true)
    (hlen : xs.length + m ≤ 1000000000000) (hby : bytes ≤ 16) (hbase : base ≤ w.heap.size) (hB : Below B w0 w) (hBb : B ≤ base)
    (h : ∀ g cap w', Row w' base e (.slice (some ⟨g, 0, none⟩) (xs.length + m) cap) (xs ++ news) → w.grownBy w' v.ownBlock → (∀ g1 c1 j, v = .slice (some ⟨g1, 0, none⟩) xs.length c1 → j < xs.length → w'.cell? ⟨g1, j, none⟩ = w.cell? ⟨g1, j, none⟩) → Below B w0 w' →
      S w' ∧ wpAnyH Tryd.prog .any ops Q S fuel (listed.setIfInBounds i true) (a.put o.dst (.slice (some ⟨g, 0, none⟩) (xs.length + m) cap)) w') :
    wpAnyH Tryd.prog .any ops Q S (fuel + 1) listed a w := by
  obtain ⟨g, cap, w', hr, h2, h3, h4⟩ := run_app hel hz ht o.type w base v xs hown g0 m c news hm hm0 hnews h1 hlen hby hbase
  have h5 : Below B w0 w' := hB.grown h3 (Nat.le_trans hBb hbase) (fun k hk => Nat.le_trans hBb (hown.lt k hk).1)
  obtain ⟨h6, h7⟩ := h g cap w' h2 h3 h4 h5
  exact wpAnyH_val hrd hi hgd (exec_append ho hs hx hr) h6 h7

/-- A load of one cell, in a head that only reads. -/
theorem wpQuiet_load {P : Program} {ops : Array Oper} {C : World → Prop} {Q : Act → Prop} {rest : List Oper} {o : Oper} {a : Act} (hgd : o.guard = none) (ty : TypeId) (x : Operand) (ho : o.op = .load ty x) (ad : Addr) (v : Value) (hx : a.eval x = .pointer (some ad))
    (hc : ∀ w, C w → (Instr.loadAt ty (.pointer (some ad))).run P w = .ok v w) (h : wpQuiet P ops C Q rest (a.put o.dst v)) : wpQuiet P ops C Q (o :: rest) a := by
  refine wpQuiet_step fun K hK => ?_
  rw [if_pos (by simp [Region.wanted, hgd])]
  refine ⟨v, fun w hw => ?_, hK _ h⟩
  unfold Oper.quietAt execOp
  simp only [ho, hx, Sem.run_bind, hc w hw, Result.andThen_ok, Sem.run_pure]
  exact ⟨rfl, rfl⟩
theorem load_int (w : World) (b o : Nat) (x : Int) (h : w.cell? ⟨b, o, none⟩ = some (.int .i64 x)) : (Instr.loadAt 3 (.pointer (some ⟨b, o, none⟩))).run Tryd.prog w = .ok (.int .i64 x) w := by
  simp [go_sem, h]

noncomputable def blkB0 : Code := ((Tryd.f41.body.bind (findBlock 0)).getD .skip)
noncomputable def blkR6 : Code := ((Tryd.f41.body.bind (findRegion 6)).getD .skip)
noncomputable def blkR11 : Code := ((Tryd.f41.body.bind (findRegion 11)).getD .skip)

theorem index_str (w : World) (s : ByteArray) (i : Nat) (z : Int) (hz : z = (i : Int)) (hi : i < s.size) :
    (Instr.index 9 (.string s) (.int .i64 z)).run Tryd.prog w = .ok (.int .u8 (((bts s).getD i 0 : Nat) : Int)) w := by
  subst hz
  have h1 : s[i]? = some s[i] := by simp [hi]
  simp [Instr.index, asIntOf, run_underlying Tryd.underlying9, h1]
  rw [byte_at s i hi, List.getD_eq_getElem?_getD]

theorem wr_id {z : Int} (h0 : 0 ≤ z) (h1 : z < 9223372036854775808) : IntKind.i64.wrap z = z := by rw [IntKind.wrap_i64]; omega

theorem ints_append (a b : List Nat) : ints (a ++ b) = ints a ++ ints b := by simp [ints]

set_option maxRecDepth 100000 in
set_option maxHeartbeats 1000000 in
theorem blkR6_wp {c0 c2 c3 c4 c7 c8 c9 c10 c11 c12 c13 c14 c15 c16 c17 c18 c19 c20 c21 c22 c23 c24 c25 c26 c27 c28 c29 c30 c31 c32 c33 c34 c35 c36 c37 c38 c39 c40 c41 c42 c43 c44 c45 c46 c47 c48 c49 c50 c51 c52 c53 c54 c55 c56 c57 c58 c59 c60 c61 c62 c63 c64 c65 c66 c67 c68 c69 c70 c71 c72 c73 c74 c75 c76 c77 c78 c79 c80 c81 c82 c83 c84 c85 c86 c87 c88 c89 c90 c91 c92 c93 c94 c95 c96 c97 c98 c99 c100 c101 c102 c103 c104 c105 c106 c107 c108 c109 c110 c111 c112 c113 c114 c115 c116 c117 c118 c119 c120 c121 c122 c123 c124 c125 c126 c127 c128 c129 c130 c131 c132 c133 c134 c135 c136 c137 c138 c139 c140 c141 c142 c143 c144 c145 c146 c147 c148 c149 c150 c151 c152 c153 c154 c155 c156 c157 c158 c159 c160 c161 c162 c163 c164 c165 c166 c167 c168 c169 c170 c171 c172 c173 c174 c175 c176 c177 c178 c179 c180 c181 c182 c183 c184 c185 c186 c187 c188 c189 c190 c191 c192 c193 c194 c195 c196 c197 c198 c199 c200 c201 c202 c203 c204 c205 c206 c207 c208 c209 c210 c211 c212 c213 c214 c215 c216 c217 c218 c219 c220 c221 c222 : Value} (s : ByteArray) (v : Value) (xs : List Value) (k base : Nat) (w w0 : World) (Q : Exit → Act → World → Prop) (hs : s.size = 64) (hk : k < 16) (hrow : Row w base 3 v xs) (hxs : xs.length ≤ 64) (hbase : base ≤ w.heap.size) (hbw : Below base w0 w)
  (hQ : ∀ (u27 u28 u29 u30 u31 u32 u33 u34 u35 u36 u37 u38 u39 u40 u41 u42 u43 u44 u45 u46 u47 u48 u49 u50 u51 u52 u53 u54 u55 u56 u57 u58 : Value) (v' : Value) (w' : World), Row w' base 3 v' (xs ++ [.int .i64 (Sha.be4 (bts s) k : Int)]) → Below base w0 w' → Q .normal ⟨#[c0, .string s, c2, c3, c4, v', .int .i64 (k : Int), c7, c8, c9, c10, c11, c12, c13, c14, c15, c16, c17, c18, c19, c20, c21, c22, c23, c24, c25, c26, u27, u28, u29, u30, u31, u32, u33, u34, u35, u36, u37, u38, u39, u40, u41, u42, u43, u44, u45, u46, u47, u48, u49, u50, u51, u52, u53, u54, u55, u56, u57, u58, c59, c60, c61, c62, c63, c64, c65, c66, c67, c68, c69, c70, c71, c72, c73, c74, c75, c76, c77, c78, c79, c80, c81, c82, c83, c84, c85, c86, c87, c88, c89, c90, c91, c92, c93, c94, c95, c96, c97, c98, c99, c100, c101, c102, c103, c104, c105, c106, c107, c108, c109, c110, c111, c112, c113, c114, c115, c116, c117, c118, c119, c120, c121, c122, c123, c124, c125, c126, c127, c128, c129, c130, c131, c132, c133, c134, c135, c136, c137, c138, c139, c140, c141, c142, c143, c144, c145, c146, c147, c148, c149, c150, c151, c152, c153, c154, c155, c156, c157, c158, c159, c160, c161, c162, c163, c164, c165, c166, c167, c168, c169, c170, c171, c172, c173, c174, c175, c176, c177, c178, c179, c180, c181, c182, c183, c184, c185, c186, c187, c188, c189, c190, c191, c192, c193, c194, c195, c196, c197, c198, c199, c200, c201, c202, c203, c204, c205, c206, c207, c208, c209, c210, c211, c212, c213, c214, c215, c216, c217, c218, c219, c220, c221, c222], []⟩ w') :
  Code.wp Tryd.prog blkR6 Q ⟨#[c0, .string s, c2, c3, c4, v, .int .i64 (k : Int), c7, c8, c9, c10, c11, c12, c13, c14, c15, c16, c17, c18, c19, c20, c21, c22, c23, c24, c25, c26, c27, c28, c29, c30, c31, c32, c33, c34, c35, c36, c37, c38, c39, c40, c41, c42, c43, c44, c45, c46, c47, c48, c49, c50, c51, c52, c53, c54, c55, c56, c57, c58, c59, c60, c61, c62, c63, c64, c65, c66, c67, c68, c69, c70, c71, c72, c73, c74, c75, c76, c77, c78, c79, c80, c81, c82, c83, c84, c85, c86, c87, c88, c89, c90, c91, c92, c93, c94, c95, c96, c97, c98, c99, c100, c101, c102, c103, c104, c105, c106, c107, c108, c109, c110, c111, c112, c113, c114, c115, c116, c117, c118, c119, c120, c121, c122, c123, c124, c125, c126, c127, c128, c129, c130, c131, c132, c133, c134, c135, c136, c137, c138, c139, c140, c141, c142, c143, c144, c145, c146, c147, c148, c149, c150, c151, c152, c153, c154, c155, c156, c157, c158, c159, c160, c161, c162, c163, c164, c165, c166, c167, c168, c169, c170, c171, c172, c173, c174, c175, c176, c177, c178, c179, c180, c181, c182, c183, c184, c185, c186, c187, c188, c189, c190, c191, c192, c193, c194, c195, c196, c197, c198, c199, c200, c201, c202, c203, c204, c205, c206, c207, c208, c209, c210, c211, c212, c213, c214, c215, c216, c217, c218, c219, c220, c221, c222], []⟩ w := by
  conv => arg 2; whnf
  have b0 : 4 * k < s.size := by omega
  have b1 : 4 * k + 1 < s.size := by omega
  have b2 : 4 * k + 2 < s.size := by omega
  have b3 : 4 * k + 3 < s.size := by omega
  have i0 : (0 : Int) ≤ (k : Int) := by omega
  have i1 : (k : Int) < 16 := by omega
  have x0 := fun wx => index_str wx s (4 * k) (4 * (k : Int)) (by omega) b0
  have x1 := fun wx => index_str wx s (4 * k + 1) (4 * (k : Int) + 1) (by omega) b1
  have x2 := fun wx => index_str wx s (4 * k + 2) (4 * (k : Int) + 2) (by omega) b2
  have x3 := fun wx => index_str wx s (4 * k + 3) (4 * (k : Int) + 3) (by omega) b3
  have l0 := bts_ok s (4 * k)
  have l1 := bts_ok s (4 * k + 1)
  have l2 := bts_ok s (4 * k + 2)
  have l3 := bts_ok s (4 * k + 3)
  have HB : Hid (Sha.be4 (bts s) k = (((bts s).getD (4 * k) 0 * 256 + (bts s).getD (4 * k + 1) 0) * 256 + (bts s).getD (4 * k + 2) 0) * 256 + (bts s).getD (4 * k + 3) 0) := rfl
  generalize (bts s).getD (4 * k) 0 = y0 at *
  generalize (bts s).getD (4 * k + 1) 0 = y1 at *
  generalize (bts s).getD (4 * k + 2) 0 = y2 at *
  generalize (bts s).getD (4 * k + 3) 0 = y3 at *
  clear b0 b1 b2 b3 hs
  refine wp_region_head (S := fun _ => True) (n := 30) (by kernel_rfl) (by kernel_rfl) (by kernel_rfl) (by simp) trivial ?_
  simp only [List.take_succ_cons, List.take_zero]
  repeat (go_big_quiet_step (fail))
  refine wpQuiet_nil ?_
  refine wpAnyH_val (i := 30) (v := .slice (some ⟨w.heap.size, 0, none⟩) 1 1) (w' := (w.alloc (.cells #[.int .i64 ((((y0 : Int) * 256 + y1) * 256 + y2) * 256 + y3)] 3)).drew) (by kernel_rfl) (by rfl) (by rfl) (by kernel_rfl) trivial ?_
  refine wpAnyH_app elem_int rfl Tryd.underlying32 (i := 31) (by kernel_rfl) (by rfl) (by rfl) (.tmp 27) (.tmp 57) (by rfl) base v xs (by rfl) ((hrow.alloc _).drewN 1) w.heap.size 1 1 [.int .i64 ((((y0 : Int) * 256 + y1) * 256 + y2) * 256 + y3)] (by rfl) rfl (by omega) ((Blk.new w 3 _).drewN 1) (by simp [Value.oneCell']) (by omega) (by omega) (by simp; omega) (w0 := w0) (B := base) (Below.drewN' (hbw.alloc hbase _) 1) (Nat.le_refl _) ?_
  intro g cap w' hrow' _ _ hb'
  refine ⟨trivial, ?_⟩
  refine wpAnyH_val (i := 32) (v := .slice (some ⟨g, 0, none⟩) (xs.length + 1) cap) (w' := w') (by kernel_rfl) (by rfl) (by rfl) (by kernel_rfl) trivial ?_
  refine wpAnyH_done (by kernel_rfl) ?_ _
  refine NoPanic.normal ?_
  simp only [Act.put]
  refine hQ _ _ _ _ _ _ _ _ _ _ _ _ _ _ _ _ _ _ _ _ _ _ _ _ _ _ _ _ _ _ _ _ _ _ (hrow'.eq ?_) hb'
  rw [HB.out]
  simp
end Go.Proofs.YteillcbajkhjkaaDoor
