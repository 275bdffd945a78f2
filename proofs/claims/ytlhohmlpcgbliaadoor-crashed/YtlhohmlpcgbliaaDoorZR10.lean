import Derived.Test.YtlhohmlpcgbliaaDoorZR7
namespace Go.Proofs.YtlhohmlpcgbliaaDoor
set_option maxRecDepth 100000
open Go.RowKit
attribute [local go_sem ↓] Go.wp_at_zero Go.wp_at_succ


/-- A block's first cells hold these numbers. -/
def IntsAt (w : World) (g : Nat) (l : List Nat) : Prop := ∀ j, j < l.length → w.cell? ⟨g, j, none⟩ = some (.int .i64 ((l.getD j 0 : Nat) : Int))
theorem IntsAt.below {w w' : World} {g B : Nat} {l : List Nat} (h : IntsAt w g l) (hb : Below B w w') (hg : g < B) : IntsAt w' g l := fun j hj => by
  rw [hb.cell (p := ⟨g, j, none⟩) hg]; exact h j hj
theorem IntsAt.new (w : World) (l : List Nat) (e : TypeId) : IntsAt (w.alloc (.cells (ints l).toArray e)) w.heap.size l := fun j hj => by
  rw [(Blk.new w e (ints l)).cell, ints_get _ _ hj]

theorem usum (x y : Nat) (hx : x < 4294967296) (hy : y < 4294967296) : wrap64 ((x : Int) + (y : Int)) = ((x + y : Nat) : Int) := by
  rw [IntWalk.wrap64_in _ ⟨by omega, by omega⟩]; omega
theorem usum_lt (x y : Nat) (hx : x < 4294967296) (hy : y < 4294967296) : x + y < 4294967296000 := by omega
theorem tsum_lt (h b c k w : Nat) (h1 : h < 4294967296) (h2 : b < 4294967296) (h3 : c < 4294967296) (h4 : k < 4294967296) (h5 : w < 4294967296) : h + b + c + k + w < 4294967296000 := by omega
theorem step_list (r : Sha.St) (key wk : Nat) : (Sha.step r key wk).list = [(r.h + Sha.bs1 r.e + Sha.ch r.e r.f r.g + key + wk + (Sha.bs0 r.a + Sha.maj r.a r.b r.c)) % 4294967296, r.a, r.b, r.c, (r.d + (r.h + Sha.bs1 r.e + Sha.ch r.e r.f r.g + key + wk)) % 4294967296, r.e, r.f, r.g] := rfl

set_option maxRecDepth 100000 in
set_option maxHeartbeats 2000000 in
theorem blkB2_wp {c0 c1 c2 c3 c4 c6 c7 c8 c9 c10 c13 c14 c15 c16 c17 c18 c19 c20 c21 c22 c23 c24 c25 c26 c27 c28 c29 c30 c31 c32 c33 c34 c35 c36 c37 c38 c39 c40 c41 c42 c43 c44 c45 c46 c47 c48 c49 c50 c51 c52 c53 c54 c55 c56 c57 c58 c59 c60 c61 c62 c63 c64 c65 c66 c67 c68 c69 c70 c71 c72 c73 c74 c75 c76 c77 c78 c79 c80 c81 c82 c83 c84 c85 c86 c87 c88 c89 c90 c91 c92 c93 c94 c95 c96 c97 c98 c99 c100 c101 c102 c103 c104 c105 c106 c107 c108 c109 c110 c111 c112 c113 c114 c115 c116 c117 c118 c119 c120 c121 c122 c123 c124 c125 c126 c127 c128 c129 c130 c131 c132 c133 c134 c135 c136 c137 c138 c139 c140 c141 c142 c143 c144 c145 c146 c147 c148 c149 c150 c151 c152 c153 c154 c155 c156 c157 c158 c159 c160 c161 c162 c163 c164 c165 c166 c167 c168 c169 c170 c171 c172 c173 c174 c175 c176 c177 c178 c179 c180 c181 c182 c183 c184 c185 c186 c187 c188 c189 c190 c191 c192 c193 c194 c195 c196 c197 c198 c199 c200 c201 c202 c203 c204 c205 c206 c207 c208 c209 c210 c211 c212 c213 c214 c215 c216 c217 c218 c219 c220 c221 c222 : Value} (st : Sha.St) (ws : List Nat) (gw cw gv cv : Nat) (w : World) (Q : Exit → Act → World → Prop) (hok : st.ok) (hwl : ws.length = 64) (hws : ∀ i, ws.getD i 0 < 4294967296) (hW : IntsAt w gw ws) (hgw : gw < w.heap.size) (hV : IntsAt w gv st.list) (hgv : gv < w.heap.size)
  (hQ : ∀ (u12 u13 u14 u15 u16 u17 u18 u107 u108 u109 u110 u111 u112 u113 u114 u115 u116 u117 u118 u119 u120 u121 u122 u123 u124 u125 u126 u127 u128 u129 u130 u131 u132 u133 u134 u135 u136 u137 u138 u139 u140 u141 u142 u143 u144 u145 u146 u147 u148 u149 u150 u151 u152 u153 u154 u155 u156 u157 u158 u159 u160 u161 u162 u163 u164 u165 u166 u167 u168 u169 u170 u171 u172 u173 u174 u175 u176 u177 u178 u179 u180 u181 u182 u183 u184 u185 u186 u187 u188 u189 u190 u191 u192 u193 u194 u195 u196 u197 u198 u199 u200 u201 u202 u203 u204 : Value) (g' c' : Nat) (w' : World), IntsAt w' g' (Sha.rounds st ws 64).list → g' < w'.heap.size → Below w.heap.size w w' → Q (.exit 2) ⟨#[c0, c1, c2, c3, c4, .slice (some ⟨gw, 0, none⟩) 64 cw, c6, c7, c8, c9, c10, .slice (some ⟨g', 0, none⟩) 8 c', u12, u13, u14, u15, u16, u17, u18, c19, c20, c21, c22, c23, c24, c25, c26, c27, c28, c29, c30, c31, c32, c33, c34, c35, c36, c37, c38, c39, c40, c41, c42, c43, c44, c45, c46, c47, c48, c49, c50, c51, c52, c53, c54, c55, c56, c57, c58, c59, c60, c61, c62, c63, c64, c65, c66, c67, c68, c69, c70, c71, c72, c73, c74, c75, c76, c77, c78, c79, c80, c81, c82, c83, c84, c85, c86, c87, c88, c89, c90, c91, c92, c93, c94, c95, c96, c97, c98, c99, c100, c101, c102, c103, c104, c105, c106, u107, u108, u109, u110, u111, u112, u113, u114, u115, u116, u117, u118, u119, u120, u121, u122, u123, u124, u125, u126, u127, u128, u129, u130, u131, u132, u133, u134, u135, u136, u137, u138, u139, u140, u141, u142, u143, u144, u145, u146, u147, u148, u149, u150, u151, u152, u153, u154, u155, u156, u157, u158, u159, u160, u161, u162, u163, u164, u165, u166, u167, u168, u169, u170, u171, u172, u173, u174, u175, u176, u177, u178, u179, u180, u181, u182, u183, u184, u185, u186, u187, u188, u189, u190, u191, u192, u193, u194, u195, u196, u197, u198, u199, u200, u201, u202, u203, u204, c205, c206, c207, c208, c209, c210, c211, c212, c213, c214, c215, c216, c217, c218, c219, c220, c221, c222], []⟩ w') :
  Code.wp Tryd.prog (blc Tryd.f88 2) Q ⟨#[c0, c1, c2, c3, c4, .slice (some ⟨gw, 0, none⟩) 64 cw, c6, c7, c8, c9, c10, .slice (some ⟨gv, 0, none⟩) 8 cv, .int .i64 0, c13, c14, c15, c16, c17, c18, c19, c20, c21, c22, c23, c24, c25, c26, c27, c28, c29, c30, c31, c32, c33, c34, c35, c36, c37, c38, c39, c40, c41, c42, c43, c44, c45, c46, c47, c48, c49, c50, c51, c52, c53, c54, c55, c56, c57, c58, c59, c60, c61, c62, c63, c64, c65, c66, c67, c68, c69, c70, c71, c72, c73, c74, c75, c76, c77, c78, c79, c80, c81, c82, c83, c84, c85, c86, c87, c88, c89, c90, c91, c92, c93, c94, c95, c96, c97, c98, c99, c100, c101, c102, c103, c104, c105, c106, c107, c108, c109, c110, c111, c112, c113, c114, c115, c116, c117, c118, c119, c120, c121, c122, c123, c124, c125, c126, c127, c128, c129, c130, c131, c132, c133, c134, c135, c136, c137, c138, c139, c140, c141, c142, c143, c144, c145, c146, c147, c148, c149, c150, c151, c152, c153, c154, c155, c156, c157, c158, c159, c160, c161, c162, c163, c164, c165, c166, c167, c168, c169, c170, c171, c172, c173, c174, c175, c176, c177, c178, c179, c180, c181, c182, c183, c184, c185, c186, c187, c188, c189, c190, c191, c192, c193, c194, c195, c196, c197, c198, c199, c200, c201, c202, c203, c204, c205, c206, c207, c208, c209, c210, c211, c212, c213, c214, c215, c216, c217, c218, c219, c220, c221, c222], []⟩ w := by
  conv => arg 2; whnf
  try go_wp2
  go_loopw [11, 12] (fun v i wr => ∃ k g c : Nat, k ≤ 64 ∧ i = .int .i64 k ∧ v = .slice (some ⟨g, 0, none⟩) 8 c ∧ IntsAt wr g (Sha.rounds st ws k).list ∧ g < wr.heap.size ∧ Below w.heap.size w wr) (fun _ i _ => 64 - (intOf i).toNat)
  case atStart => exact ⟨0, gv, cv, by omega, rfl, rfl, hV, hgv, Below.refl _ _⟩
  case round =>
    obtain ⟨k, g, c, hk, rfl, rfl, hI, hg, hb⟩ := hrel
    by_cases h64 : k < 64
    · have kw := hW.below hb hgw k (by omega)
      have lw := hws k
      obtain ⟨o1, o2, o3, o4, o5, o6, o7, o8⟩ := Sha.rounds_ok hok ws k
      have k0 := hI 0 (by show 0 < 8; omega)
      have k1 := hI 1 (by show 1 < 8; omega)
      have k2 := hI 2 (by show 2 < 8; omega)
      have k3 := hI 3 (by show 3 < 8; omega)
      have k4 := hI 4 (by show 4 < 8; omega)
      have k5 := hI 5 (by show 5 < 8; omega)
      have k6 := hI 6 (by show 6 < 8; omega)
      have k7 := hI 7 (by show 7 < 8; omega)
      have HN : Hid ((Sha.rounds st ws (k + 1)).list = (Sha.step (Sha.rounds st ws k) (Sha.keys.getD k 0) (ws.getD k 0)).list) := rfl
      generalize ws.getD k 0 = wk at *
      generalize Sha.rounds st ws k = r at *
      change wr.cell? _ = some (.int .i64 (r.a : Int)) at k0
      change wr.cell? _ = some (.int .i64 (r.b : Int)) at k1
      change wr.cell? _ = some (.int .i64 (r.c : Int)) at k2
      change wr.cell? _ = some (.int .i64 (r.d : Int)) at k3
      change wr.cell? _ = some (.int .i64 (r.e : Int)) at k4
      change wr.cell? _ = some (.int .i64 (r.f : Int)) at k5
      change wr.cell? _ = some (.int .i64 (r.g : Int)) at k6
      change wr.cell? _ = some (.int .i64 (r.h : Int)) at k7
      have HB : Hid (Below w.heap.size w wr) := hb
      clear hI hQ hW hb hV hws
      go_wp2_with fail
      refine blkR18_wp g c r.e r.f r.g _ _ o5 o6 o7 k5 k6 ?_
      intro u117 u118 u119 u120 u121 u122 u123 u124 u125 u126 u127 u128 n1
      go_wp2_with fail
      refine blkR19_wp g c r.a r.b r.c _ _ o1 o2 o3 k1 k2 ?_
      intro u129 u130 u131 u132 u133 u134 u135 u136 u137 u138 u139 u140 u141 u142 u143 u144 u145 u146 u147 n2
      go_wp2_with fail
      refine blkR20_wp g c gw cw k r.e (Sha.ch r.e r.f r.g) r.h wk _ _ h64 o5 (Sha.ch_lt _ _ _ o6 o7) o8 lw k7 kw ?_
      intro u148 u149 u150 u151 u152 u153 u154 u155 u156 u157 u158 u159 u160 u161 u162 u163 u164 u165 u166 u167 u168 u169 n3
      go_wp2_with fail
      refine (turn_any r.a 2 _ o1 (by simp [isTurn])).mono ?_
      rintro e w1 ⟨rfl, m1, rfl⟩
      go_wp2_with fail
      refine (turn_any r.a 13 _ o1 (by simp [isTurn])).mono ?_
      rintro e w1 ⟨rfl, m2, rfl⟩
      go_wp2_with fail
      refine (turn_any r.a 22 _ o1 (by simp [isTurn])).mono ?_
      rintro e w1 ⟨rfl, m3, rfl⟩
      go_wp2_with fail
      rw [bs0_ref r.a o1]
      rw [usum _ _ (Sha.bs0_lt r.a o1) (Sha.maj_lt r.a r.b r.c o2 o3)]
      refine blkR22_wp g c r.a r.b r.c r.d r.e r.f r.g _ _ _ _ (tsum_lt _ _ _ _ _ o8 (Sha.bs1_lt r.e o5) (Sha.ch_lt r.e r.f r.g o6 o7) (Sha.keys_lt k) lw) (usum_lt _ _ (Sha.bs0_lt r.a o1) (Sha.maj_lt r.a r.b r.c o2 o3)) o4 (Cells.of (by intro p hp; simp at hp; rcases hp with rfl | rfl | rfl | rfl | rfl <;> assumption)) ?_
      intro u180 u181 u182 u183 u184 u185 u186 u187 u188 u189 u190 u191 u192 u193 u194 u195 u196 u197 u198 u199 u200 u201 u202 u203 u204
      have hbn := Below.drewN' ((Below.drewN' HB.out (n1 + n2 + n3 + m1 + m2 + m3)).alloc HB.out.size (.cells (ints (Sha.step r (Sha.keys.getD k 0) wk).list).toArray 3)) 1
      have hin := IntsAt.new (wr.drewN (n1 + n2 + n3 + m1 + m2 + m3)) (Sha.step r (Sha.keys.getD k 0) wk).list 3
      rw [step_list] at hbn hin
      have hsz : (wr.drewN (n1 + n2 + n3 + m1 + m2 + m3)).heap.size < ((wr.drewN (n1 + n2 + n3 + m1 + m2 + m3)).alloc (.cells (ints [(r.h + Sha.bs1 r.e + Sha.ch r.e r.f r.g + Sha.keys.getD k 0 + wk + (Sha.bs0 r.a + Sha.maj r.a r.b r.c)) % 4294967296, r.a, r.b, r.c, (r.d + (r.h + Sha.bs1 r.e + Sha.ch r.e r.f r.g + Sha.keys.getD k 0 + wk)) % 4294967296, r.e, r.f, r.g]).toArray 3)).heap.size := by simp
      rw [← step_list] at hbn hin hsz ⊢
      have HBN : Hid _ := hbn
      have HIN : Hid _ := hin
      have HSZ : Hid _ := hsz
      clear hbn hin hsz
      simp only [Exit.inBlock]
      go_wp2_with fail
      have hk' : Sha.keys[k]?.getD 0 = Sha.keys.getD k 0 := rfl
      rw [hk']
      refine ⟨⟨k + 1, (wr.drewN (n1 + n2 + n3 + m1 + m2 + m3)).heap.size, 8, by omega, by go_num, rfl, ?_, HSZ.out, HBN.out⟩, by simp [intOf]; omega⟩
      rw [HN.out]
      exact HIN.out
    · have hk4 : k = 64 := by omega
      subst hk4
      go_wp2
      exact hQ _ _ _ _ _ _ _ _ _ _ _ _ _ _ _ _ _ _ _ _ _ _ _ _ _ _ _ _ _ _ _ _ _ _ _ _ _ _ _ _ _ _ _ _ _ _ _ _ _ _ _ _ _ _ _ _ _ _ _ _ _ _ _ _ _ _ _ _ _ _ _ _ _ _ _ _ _ _ _ _ _ _ _ _ _ _ _ _ _ _ _ _ _ _ _ _ _ _ _ _ _ _ _ _ _ g c _ hI hg hb
end Go.Proofs.YtlhohmlpcgbliaaDoor
namespace Go.Proofs.YtlhohmlpcgbliaaDoor
set_option maxRecDepth 100000
open Go.RowKit
attribute [local go_sem ↓] Go.wp_at_zero Go.wp_at_succ


/-- A cell outside the row that was appended to. -/
theorem grown_cell {w w' : World} {base : Nat} {e : TypeId} {v : Value} {xs : List Value} {a : Addr} {x : Value} (hown : Row w base e v xs) (hg : w.grownBy w' v.ownBlock) (hc : w.cell? a = some x) (ha : a.block < base) : w'.cell? a = some x :=
  hg.cell hc (fun h => by have := (hown.lt a.block h.symm).1; omega)

set_option maxRecDepth 100000 in
set_option maxHeartbeats 1000000 in
theorem blkR27_wp {c1 c2 c3 c4 c5 c6 c7 c8 c9 c10 c12 c13 c14 c15 c16 c17 c18 c21 c22 c23 c24 c25 c26 c27 c28 c29 c30 c31 c32 c33 c34 c35 c36 c37 c38 c39 c40 c41 c42 c43 c44 c45 c46 c47 c48 c49 c50 c51 c52 c53 c54 c55 c56 c57 c58 c59 c60 c61 c62 c63 c64 c65 c66 c67 c68 c69 c70 c71 c72 c73 c74 c75 c76 c77 c78 c79 c80 c81 c82 c83 c84 c85 c86 c87 c88 c89 c90 c91 c92 c93 c94 c95 c96 c97 c98 c99 c100 c101 c102 c103 c104 c105 c106 c107 c108 c109 c110 c111 c112 c113 c114 c115 c116 c117 c118 c119 c120 c121 c122 c123 c124 c125 c126 c127 c128 c129 c130 c131 c132 c133 c134 c135 c136 c137 c138 c139 c140 c141 c142 c143 c144 c145 c146 c147 c148 c149 c150 c151 c152 c153 c154 c155 c156 c157 c158 c159 c160 c161 c162 c163 c164 c165 c166 c167 c168 c169 c170 c171 c172 c173 c174 c175 c176 c177 c178 c179 c180 c181 c182 c183 c184 c185 c186 c187 c188 c189 c190 c191 c192 c193 c194 c195 c196 c197 c198 c199 c200 c201 c202 c203 c204 c205 c206 c207 c208 c209 c210 c211 c212 c213 c214 c215 c216 c217 c218 c219 c220 c221 c222 : Value} (gh ch g c k x y base : Nat) (v : Value) (xs : List Value) (w w0 : World) (Q : Exit → Act → World → Prop) (hk : k < 8) (lx : x < 4294967296) (ly : y < 4294967296) (hxs : xs.length ≤ 8)
  (hrow : Row w base 3 v xs) (ex : w.cell? ⟨gh, k, none⟩ = some (.int .i64 (x : Int))) (ey : w.cell? ⟨g, k, none⟩ = some (.int .i64 (y : Int))) (hbase : base ≤ w.heap.size) (hbw : Below base w0 w) (hgh : gh < base) (hg : g < base)
  (hQ : ∀ (u209 u210 u211 u212 u213 u214 u215 u216 u217 u218 u219 u220 u221 : Value) (v' : Value) (w' : World), Row w' base 3 v' (xs ++ [.int .i64 (((x + y) % 4294967296 : Nat) : Int)]) → Below base w0 w' → Q .normal ⟨#[.slice (some ⟨gh, 0, none⟩) 8 ch, c1, c2, c3, c4, c5, c6, c7, c8, c9, c10, .slice (some ⟨g, 0, none⟩) 8 c, c12, c13, c14, c15, c16, c17, c18, v', .int .i64 (k : Int), c21, c22, c23, c24, c25, c26, c27, c28, c29, c30, c31, c32, c33, c34, c35, c36, c37, c38, c39, c40, c41, c42, c43, c44, c45, c46, c47, c48, c49, c50, c51, c52, c53, c54, c55, c56, c57, c58, c59, c60, c61, c62, c63, c64, c65, c66, c67, c68, c69, c70, c71, c72, c73, c74, c75, c76, c77, c78, c79, c80, c81, c82, c83, c84, c85, c86, c87, c88, c89, c90, c91, c92, c93, c94, c95, c96, c97, c98, c99, c100, c101, c102, c103, c104, c105, c106, c107, c108, c109, c110, c111, c112, c113, c114, c115, c116, c117, c118, c119, c120, c121, c122, c123, c124, c125, c126, c127, c128, c129, c130, c131, c132, c133, c134, c135, c136, c137, c138, c139, c140, c141, c142, c143, c144, c145, c146, c147, c148, c149, c150, c151, c152, c153, c154, c155, c156, c157, c158, c159, c160, c161, c162, c163, c164, c165, c166, c167, c168, c169, c170, c171, c172, c173, c174, c175, c176, c177, c178, c179, c180, c181, c182, c183, c184, c185, c186, c187, c188, c189, c190, c191, c192, c193, c194, c195, c196, c197, c198, c199, c200, c201, c202, c203, c204, c205, c206, c207, c208, u209, u210, u211, u212, u213, u214, u215, u216, u217, u218, u219, u220, u221, c222], []⟩ w') :
  Code.wp Tryd.prog (rgn Tryd.f88 27) Q ⟨#[.slice (some ⟨gh, 0, none⟩) 8 ch, c1, c2, c3, c4, c5, c6, c7, c8, c9, c10, .slice (some ⟨g, 0, none⟩) 8 c, c12, c13, c14, c15, c16, c17, c18, v, .int .i64 (k : Int), c21, c22, c23, c24, c25, c26, c27, c28, c29, c30, c31, c32, c33, c34, c35, c36, c37, c38, c39, c40, c41, c42, c43, c44, c45, c46, c47, c48, c49, c50, c51, c52, c53, c54, c55, c56, c57, c58, c59, c60, c61, c62, c63, c64, c65, c66, c67, c68, c69, c70, c71, c72, c73, c74, c75, c76, c77, c78, c79, c80, c81, c82, c83, c84, c85, c86, c87, c88, c89, c90, c91, c92, c93, c94, c95, c96, c97, c98, c99, c100, c101, c102, c103, c104, c105, c106, c107, c108, c109, c110, c111, c112, c113, c114, c115, c116, c117, c118, c119, c120, c121, c122, c123, c124, c125, c126, c127, c128, c129, c130, c131, c132, c133, c134, c135, c136, c137, c138, c139, c140, c141, c142, c143, c144, c145, c146, c147, c148, c149, c150, c151, c152, c153, c154, c155, c156, c157, c158, c159, c160, c161, c162, c163, c164, c165, c166, c167, c168, c169, c170, c171, c172, c173, c174, c175, c176, c177, c178, c179, c180, c181, c182, c183, c184, c185, c186, c187, c188, c189, c190, c191, c192, c193, c194, c195, c196, c197, c198, c199, c200, c201, c202, c203, c204, c205, c206, c207, c208, c209, c210, c211, c212, c213, c214, c215, c216, c217, c218, c219, c220, c221, c222], []⟩ w := by
  conv => arg 2; whnf
  have i0 : (0 : Int) ≤ (k : Int) := by omega
  have i1 : (k : Int) < 8 := by omega
  have HV : Hid (((x : Int) + y) % 4294967296 = (((x + y) % 4294967296 : Nat) : Int)) := by show _ = _; omega
  have hS := Cells.two ex ey
  refine wp_region_head (S := Cells [(⟨gh, k, none⟩, .int .i64 (x : Int)), (⟨g, k, none⟩, .int .i64 (y : Int))]) (n := 11) (by kernel_rfl) (by kernel_rfl) (by kernel_rfl) (by simp) hS ?_
  simp only [List.take_succ_cons, List.take_zero]
  iterate 4 (refine wpQuiet_pure (by rfl) ?_; go_big_quiet_step (fail); refine wpQuiet_nil ?_; show wpQuiet _ _ _ _ _ _)
  refine wpQuiet_load (by rfl) 3 (.tmp 212) (by rfl) ⟨gh, k, none⟩ (.int .i64 (x : Int)) (by rfl) (fun w hw => load_int w _ _ _ (hw.get _ _ (by simp))) ?_
  simp only [Act.put, List.setIfInBounds_toArray, List.set_cons_succ, List.set_cons_zero]
  iterate 3 (refine wpQuiet_pure (by rfl) ?_; go_big_quiet_step (fail); refine wpQuiet_nil ?_; show wpQuiet _ _ _ _ _ _)
  refine wpQuiet_load (by rfl) 3 (.tmp 216) (by rfl) ⟨g, k, none⟩ (.int .i64 (y : Int)) (by rfl) (fun w hw => load_int w _ _ _ (hw.get _ _ (by simp))) ?_
  simp only [Act.put, List.setIfInBounds_toArray, List.set_cons_succ, List.set_cons_zero]
  iterate 2 (refine wpQuiet_pure (by rfl) ?_; go_big_quiet_step (fail); refine wpQuiet_nil ?_; show wpQuiet _ _ _ _ _ _)
  refine wpQuiet_nil ?_
  rw [HV.out]
  refine wpAnyH_val (i := 11) (v := .slice (some ⟨w.heap.size, 0, none⟩) 1 1) (w' := (w.alloc (.cells #[.int .i64 (((x + y) % 4294967296 : Nat) : Int)] 3)).drewN 1) (by kernel_rfl) (by rfl) (by rfl) (by kernel_rfl) (hS.alloc _) ?_
  refine wpAnyH_app elem_int rfl Tryd.underlying32 (i := 12) (by kernel_rfl) (by rfl) (by rfl) (.tmp 209) (.tmp 220) (by rfl) base v xs (by rfl) ((hrow.alloc _).drewN 1) w.heap.size 1 1 [.int .i64 (((x + y) % 4294967296 : Nat) : Int)] (by rfl) rfl (by omega) ((Blk.new w 3 _).drewN 1) (by simp [Value.oneCell']) (by omega) (by omega) (by simp; omega) (w0 := w0) (B := base) (Below.drewN' (hbw.alloc hbase _) 1) (Nat.le_refl _) ?_
  intro g' cap' w' hrow' hgrow _ hb'
  have hS1 := hS.alloc (.cells #[.int .i64 (((x + y) % 4294967296 : Nat) : Int)] 3)
  have sx : w'.cell? ⟨gh, k, none⟩ = some (.int .i64 (x : Int)) := grown_cell ((hrow.alloc _).drewN 1) hgrow (hS1.get _ _ (by simp)) hgh
  have sy : w'.cell? ⟨g, k, none⟩ = some (.int .i64 (y : Int)) := grown_cell ((hrow.alloc _).drewN 1) hgrow (hS1.get _ _ (by simp)) hg
  refine ⟨Cells.two sx sy, ?_⟩
  refine wpAnyH_val (i := 13) (v := .slice (some ⟨g', 0, none⟩) (xs.length + 1) cap') (w' := w') (by kernel_rfl) (by rfl) (by rfl) (by kernel_rfl) (Cells.two sx sy) ?_
  refine wpAnyH_done (by kernel_rfl) ?_ _
  refine NoPanic.normal ?_
  simp only [Act.put]
  exact hQ _ _ _ _ _ _ _ _ _ _ _ _ _ _ _ hrow' hb'

theorem addK_take (s t : Sha.St) (k : Nat) (hk : k < 8) : (Sha.add s t).list.take (k + 1) = (Sha.add s t).list.take k ++ [(s.list.getD k 0 + t.list.getD k 0) % 4294967296] := by
  match k, hk with
  | 0, _ => rfl
  | 1, _ => rfl
  | 2, _ => rfl
  | 3, _ => rfl
  | 4, _ => rfl
  | 5, _ => rfl
  | 6, _ => rfl
  | 7, _ => rfl

set_option maxRecDepth 100000 in
set_option maxHeartbeats 2000000 in
theorem blkB4_wp {c1 c2 c3 c4 c5 c6 c7 c8 c9 c10 c12 c13 c14 c15 c16 c17 c18 c21 c22 c23 c24 c25 c26 c27 c28 c29 c30 c31 c32 c33 c34 c35 c36 c37 c38 c39 c40 c41 c42 c43 c44 c45 c46 c47 c48 c49 c50 c51 c52 c53 c54 c55 c56 c57 c58 c59 c60 c61 c62 c63 c64 c65 c66 c67 c68 c69 c70 c71 c72 c73 c74 c75 c76 c77 c78 c79 c80 c81 c82 c83 c84 c85 c86 c87 c88 c89 c90 c91 c92 c93 c94 c95 c96 c97 c98 c99 c100 c101 c102 c103 c104 c105 c106 c107 c108 c109 c110 c111 c112 c113 c114 c115 c116 c117 c118 c119 c120 c121 c122 c123 c124 c125 c126 c127 c128 c129 c130 c131 c132 c133 c134 c135 c136 c137 c138 c139 c140 c141 c142 c143 c144 c145 c146 c147 c148 c149 c150 c151 c152 c153 c154 c155 c156 c157 c158 c159 c160 c161 c162 c163 c164 c165 c166 c167 c168 c169 c170 c171 c172 c173 c174 c175 c176 c177 c178 c179 c180 c181 c182 c183 c184 c185 c186 c187 c188 c189 c190 c191 c192 c193 c194 c195 c196 c197 c198 c199 c200 c201 c202 c203 c204 c205 c206 c207 c208 c209 c210 c211 c212 c213 c214 c215 c216 c217 c218 c219 c220 c221 c222 : Value} (s t : Sha.St) (gh ch g c : Nat) (w : World) (Q : Exit → Act → World → Prop) (hs : s.ok) (ht : t.ok) (hH : IntsAt w gh s.list) (hgh : gh < w.heap.size) (hV : IntsAt w g t.list) (hg : g < w.heap.size)
  (hQ : ∀ (u20 u205 u206 u207 u208 u209 u210 u211 u212 u213 u214 u215 u216 u217 u218 u219 u220 u221 : Value) (v' : Value) (w' : World), Row w' w.heap.size 3 v' (ints (Sha.add s t).list) → Below w.heap.size w w' → Q (.exit 4) ⟨#[.slice (some ⟨gh, 0, none⟩) 8 ch, c1, c2, c3, c4, c5, c6, c7, c8, c9, c10, .slice (some ⟨g, 0, none⟩) 8 c, c12, c13, c14, c15, c16, c17, c18, v', u20, c21, c22, c23, c24, c25, c26, c27, c28, c29, c30, c31, c32, c33, c34, c35, c36, c37, c38, c39, c40, c41, c42, c43, c44, c45, c46, c47, c48, c49, c50, c51, c52, c53, c54, c55, c56, c57, c58, c59, c60, c61, c62, c63, c64, c65, c66, c67, c68, c69, c70, c71, c72, c73, c74, c75, c76, c77, c78, c79, c80, c81, c82, c83, c84, c85, c86, c87, c88, c89, c90, c91, c92, c93, c94, c95, c96, c97, c98, c99, c100, c101, c102, c103, c104, c105, c106, c107, c108, c109, c110, c111, c112, c113, c114, c115, c116, c117, c118, c119, c120, c121, c122, c123, c124, c125, c126, c127, c128, c129, c130, c131, c132, c133, c134, c135, c136, c137, c138, c139, c140, c141, c142, c143, c144, c145, c146, c147, c148, c149, c150, c151, c152, c153, c154, c155, c156, c157, c158, c159, c160, c161, c162, c163, c164, c165, c166, c167, c168, c169, c170, c171, c172, c173, c174, c175, c176, c177, c178, c179, c180, c181, c182, c183, c184, c185, c186, c187, c188, c189, c190, c191, c192, c193, c194, c195, c196, c197, c198, c199, c200, c201, c202, c203, c204, u205, u206, u207, u208, u209, u210, u211, u212, u213, u214, u215, u216, u217, u218, u219, u220, u221, c222], []⟩ w') :
  Code.wp Tryd.prog (blc Tryd.f88 4) Q ⟨#[.slice (some ⟨gh, 0, none⟩) 8 ch, c1, c2, c3, c4, c5, c6, c7, c8, c9, c10, .slice (some ⟨g, 0, none⟩) 8 c, c12, c13, c14, c15, c16, c17, c18, .slice none 0 0, .int .i64 0, c21, c22, c23, c24, c25, c26, c27, c28, c29, c30, c31, c32, c33, c34, c35, c36, c37, c38, c39, c40, c41, c42, c43, c44, c45, c46, c47, c48, c49, c50, c51, c52, c53, c54, c55, c56, c57, c58, c59, c60, c61, c62, c63, c64, c65, c66, c67, c68, c69, c70, c71, c72, c73, c74, c75, c76, c77, c78, c79, c80, c81, c82, c83, c84, c85, c86, c87, c88, c89, c90, c91, c92, c93, c94, c95, c96, c97, c98, c99, c100, c101, c102, c103, c104, c105, c106, c107, c108, c109, c110, c111, c112, c113, c114, c115, c116, c117, c118, c119, c120, c121, c122, c123, c124, c125, c126, c127, c128, c129, c130, c131, c132, c133, c134, c135, c136, c137, c138, c139, c140, c141, c142, c143, c144, c145, c146, c147, c148, c149, c150, c151, c152, c153, c154, c155, c156, c157, c158, c159, c160, c161, c162, c163, c164, c165, c166, c167, c168, c169, c170, c171, c172, c173, c174, c175, c176, c177, c178, c179, c180, c181, c182, c183, c184, c185, c186, c187, c188, c189, c190, c191, c192, c193, c194, c195, c196, c197, c198, c199, c200, c201, c202, c203, c204, c205, c206, c207, c208, c209, c210, c211, c212, c213, c214, c215, c216, c217, c218, c219, c220, c221, c222], []⟩ w := by
  conv => arg 2; whnf
  try go_wp2
  go_loopw [19, 20] (fun v i wr => ∃ k : Nat, k ≤ 8 ∧ i = .int .i64 k ∧ Row wr w.heap.size 3 v (ints ((Sha.add s t).list.take k)) ∧ Below w.heap.size w wr) (fun _ i _ => 8 - (intOf i).toNat)
  case atStart => exact ⟨0, by omega, rfl, World.ownsRow_nil _ _ _ _, Below.refl _ _⟩
  case round =>
    obtain ⟨k, hk, rfl, hrow, hb⟩ := hrel
    by_cases h8 : k < 8
    · have ex := hH.below hb hgh k h8
      have ey := hV.below hb hg k h8
      have lx := St.ok_get hs k
      have ly := St.ok_get ht k
      have HN : Hid (ints ((Sha.add s t).list.take (k + 1)) = ints ((Sha.add s t).list.take k) ++ [.int .i64 (((s.list.getD k 0 + t.list.getD k 0) % 4294967296 : Nat) : Int)]) := by
        show _ = _
        rw [addK_take s t k h8, ints_append]; rfl
      have hxl : (ints ((Sha.add s t).list.take k)).length ≤ 8 := by rw [ints_length, List.length_take]; omega
      generalize s.list.getD k 0 = x at *
      generalize t.list.getD k 0 = y at *
      have HB : Hid (Below w.heap.size w wr) := hb
      have HS : Hid (w.heap.size ≤ wr.heap.size) := hb.size
      clear hQ hH hV hb
      go_wp2_with fail
      refine blkR27_wp gh ch g c k x y w.heap.size _ _ _ w _ h8 lx ly hxl hrow ex ey HS.out HB.out hgh hg ?_
      intro u209 u210 u211 u212 u213 u214 u215 u216 u217 u218 u219 u220 u221 v' w' hrow' hb'
      simp only [Exit.inBlock]
      go_wp2_with fail
      refine ⟨⟨k + 1, by omega, by go_num, ?_, hb'⟩, by simp [intOf]; omega⟩
      rw [HN.out]
      exact hrow'
    · have hk8 : k = 8 := by omega
      subst hk8
      go_wp2
      exact hQ _ _ _ _ _ _ _ _ _ _ _ _ _ _ _ _ _ _ _ _ hrow hb
end Go.Proofs.YtlhohmlpcgbliaaDoor
namespace Go.Proofs.YtlhohmlpcgbliaaDoor
set_option maxRecDepth 100000
open Go.RowKit
attribute [local go_sem ↓] Go.wp_at_zero Go.wp_at_succ

/-- An append of a slice's elements onto a slice of the call's own. -/
theorem wpList_appfrom {e t : TypeId} {z : Value} {bytes : Nat} (hel : Elem e z bytes) (hz : z.cells.size = 1) (ht : Tryd.prog.underlying t = some (.slice e))
    {w w0 : World} {B : Nat} {ops : Array Oper} {rest : List Oper} {o : Oper} {a : Act} {Q : Exit → Act → World → Prop} (hgd : o.guard = none) (s x : Operand)
    (ho : o.op = .call { callee := .builtin .append, args := #[s, x], argTypes := #[t, t] }) (base : Nat) (v : Value) (xs : List Value) (hs : a.eval s = v) (hown : Row w base e v xs)
    (g m c : Nat) (news : List Value) (hx : a.eval x = .slice (some ⟨g, 0, none⟩) m c) (hm : news.length = m) (hm0 : 0 < m) (hnews : ∀ j u, news[j]? = some u → w.cell? ⟨g, j, none⟩ = some u) (h1 : ∀ u ∈ news, u.oneCell' = true)
    (hlen : xs.length + m ≤ 1000000000000) (hby : bytes ≤ 16) (hbase : base ≤ w.heap.size) (hB : Below B w0 w) (hBb : B ≤ base)
    (h : ∀ g' cap' w', Row w' base e (.slice (some ⟨g', 0, none⟩) (xs.length + m) cap') (xs ++ news) → Below B w0 w' → wpList Tryd.prog ops Q rest (a.put o.dst (.slice (some ⟨g', 0, none⟩) (xs.length + m) cap')) w') : wpList Tryd.prog ops Q (o :: rest) a w := by
  obtain ⟨i, hi, hiz, his, hib⟩ := hel
  have hb : (xs.length + m) * bytes ≤ 140737488355328 := Nat.le_trans (Nat.mul_le_mul hlen hby) (by omega)
  refine wpList_append_own w hgd s x t ho base e i z 1 bytes ht hi hiz his hib hz (by omega) v xs.length xs hs hown ⟨g, 0, none⟩ m c news hx (by omega) ?_ h1 (by unfold maxLen; omega) hb hbase ?_
  · intro j u hu
    rw [Addr.add_mid, Nat.zero_add]
    exact hnews j u hu
  · intro v' w' h2 h3 _
    have hrow : Row w' base e v' (xs ++ news) := by
      unfold Row
      rw [List.length_append, hm]
      exact h2
    obtain ⟨g', cap', hv, _⟩ := hrow.form (by rw [List.length_append]; omega)
    rw [List.length_append, hm] at hv
    subst hv
    exact h g' cap' w' hrow (hB.grown h3 (Nat.le_trans hBb hbase) (fun k hk => Nat.le_trans hBb (hown.lt k hk).1))

theorem IntsAt.of_row {w : World} {base g n cap : Nat} {l : List Nat} (h : Row w base 3 (.slice (some ⟨g, 0, none⟩) n cap) (ints l)) (hl : 0 < l.length) : IntsAt w g l ∧ g < w.heap.size := by
  obtain ⟨g', cap', hv, _, _, _, hc, hlt, _⟩ := h.form (by rw [ints_length]; exact hl)
  injection hv with e1
  injection e1 with e1
  injection e1 with e1
  subst e1
  refine ⟨fun j hj => ?_, hlt⟩
  rw [hc j (by rw [ints_length]; exact hj), ints_get _ _ hj]

theorem ints_one (l : List Nat) : ∀ v ∈ ints l, v.oneCell' = true := by
  intro v hv
  obtain ⟨x, _, rfl⟩ := List.mem_map.1 hv
  rfl

set_option maxRecDepth 100000 in
set_option maxHeartbeats 2000000 in
theorem block_any (gh ch : Nat) (st : Sha.St) (s : ByteArray) (w : World) (hok : st.ok) (hs : s.size = 64) (hH : IntsAt w gh st.list) (hgh : gh < w.heap.size) :
    Calls Tryd.prog 88 #[.slice (some ⟨gh, 0, none⟩) 8 ch, .string s] w fun e w' => ∃ v, e = .returned v ∧ Row w' w.heap.size 3 v (ints (Sha.mix st (bts s)).list) ∧ Below w.heap.size w w' := by
  go_enter Tryd.func88, Tryd.ntmps88
  go_wp2_with fail
  refine blkB0_wp s w.heap.size _ w _ hs (Nat.le_refl _) (Below.refl _ _) ?_
  intro u6 u7 u8 u9 u10 u21 u22 u23 u24 u25 u26 u27 u28 u29 u30 u31 u32 u33 u34 u35 u36 u37 u38 u39 u40 u41 u42 u43 u44 u45 u46 u47 u48 u49 u50 u51 u52 u53 u54 u55 u56 u57 u58 u59 u60 u61 u62 u63 u64 u65 u66 u67 u68 u69 u70 u71 u72 u73 u74 u75 u76 u77 u78 u79 u80 u81 u82 u83 u84 u85 u86 u87 u88 u89 u90 u91 u92 u93 u94 u95 u96 u97 u98 u99 u100 u101 u102 u103 vw w1 hrow1 hb1
  have hl64 : (ints (Sha.sched (bts s) 64)).length = 64 := by rw [ints_length, Sha.sched_length]
  obtain ⟨gw, cw, hv, hgb, hnc, hcm, hcell, hgl, hfz⟩ := hrow1.form (by rw [hl64]; omega)
  rw [hl64] at hv
  subst hv
  obtain ⟨hW, hgw⟩ := IntsAt.of_row hrow1 (by rw [Sha.sched_length]; omega)
  have hH1 := hH.below hb1 hgh
  clear hcell hfz hrow1 hgb hnc hcm
  simp only [Exit.inBlock, if_true]
  have hsz1 := hb1.size
  have hr0 : Row (w1.alloc (.cells #[] 3)) w1.heap.size 3 (.slice (some ⟨w1.heap.size, 0, none⟩) 0 0) [] := Row.lit' w1 _ _ [] 0 rfl (Nat.le_refl _) (by omega)
  have hb0 : Below w1.heap.size w1 (w1.alloc (.cells #[] 3)) := (Below.refl _ _).alloc (Nat.le_refl _) _
  have hn0 : ∀ (j : Nat) u, (ints st.list)[j]? = some u → (w1.alloc (.cells #[] 3)).cell? ⟨gh, j, none⟩ = some u := by
    intro j u hu
    have hj : j < st.list.length := by simpa using (List.getElem?_eq_some_iff.1 hu).1
    rw [ints_get _ _ hj] at hu
    rw [← hu]
    exact hH1.below hb0 (by omega) j hj
  go_wp2_with (at_builtin; refine wpList_appfrom elem_int rfl Tryd.underlying32 (by rfl) (.tmp 104) (.tmp 105) (by rfl) w1.heap.size (.slice (some ⟨w1.heap.size, 0, none⟩) 0 0) [] (by rfl) hr0 gh 8 ch (ints st.list) (by rfl) rfl (by omega) hn0 (ints_one _) (by simp) (by omega) (by simp) (w0 := w1) hb0 (Nat.le_refl _) ?_)
  intro gv cv w2 hrow2 hb2
  obtain ⟨hV2, hgv2⟩ := IntsAt.of_row (l := st.list) hrow2 (by show 0 < 8; omega)
  have hW2 := hW.below hb2 hgw
  have hgw2 : gw < w2.heap.size := Nat.lt_of_lt_of_le hgw hb2.size
  have hH2 := hH1.below hb2 (Nat.lt_of_lt_of_le hgh hsz1)
  have hbw2 : Below w.heap.size w w2 := hb1.trans (hb2.mono hsz1)
  clear hrow2 hr0 hb0 hn0 hW hH1 hH hb2 hb1
  go_wp2_with fail
  refine blkB2_wp st (Sha.sched (bts s) 64) gw cw gv cv w2 _ hok (Sha.sched_length _ _) (Sha.sched_lt (bts_ok s) 64) hW2 hgw2 hV2 hgv2 ?_
  intro u12 u13 u14 u15 u16 u17 u18 u107 u108 u109 u110 u111 u112 u113 u114 u115 u116 u117 u118 u119 u120 u121 u122 u123 u124 u125 u126 u127 u128 u129 u130 u131 u132 u133 u134 u135 u136 u137 u138 u139 u140 u141 u142 u143 u144 u145 u146 u147 u148 u149 u150 u151 u152 u153 u154 u155 u156 u157 u158 u159 u160 u161 u162 u163 u164 u165 u166 u167 u168 u169 u170 u171 u172 u173 u174 u175 u176 u177 u178 u179 u180 u181 u182 u183 u184 u185 u186 u187 u188 u189 u190 u191 u192 u193 u194 u195 u196 u197 u198 u199 u200 u201 u202 u203 u204 g3 c3 w3 hI3 hg3 hb3
  simp only [Exit.inBlock, if_true]
  have hbw3 : Below w.heap.size w w3 := hbw2.trans (hb3.mono hbw2.size)
  have hH3 := hH2.below hb3 (Nat.lt_of_lt_of_le hgh hbw2.size)
  have hro := Sha.rounds_ok hok (Sha.sched (bts s) 64) 64
  have HM : Hid (Sha.mix st (bts s) = Sha.add st (Sha.rounds st (Sha.sched (bts s) 64) 64)) := rfl
  generalize Sha.rounds st (Sha.sched (bts s) 64) 64 = r at *
  clear hW2 hV2 hH2 hbw2 hb3
  go_wp2_with fail
  refine blkB4_wp st r gh ch g3 c3 w3 _ hok hro hH3 (Nat.lt_of_lt_of_le hgh hbw3.size) hI3 hg3 ?_
  intro u20 u205 u206 u207 u208 u209 u210 u211 u212 u213 u214 u215 u216 u217 u218 u219 u220 u221 v4 w4 hrow4 hb4
  simp only [Exit.inBlock, if_true]
  have hbw4 : Below w.heap.size w w4 := hbw3.trans (hb4.mono hbw3.size)
  have hrw : Row w4 w.heap.size 3 v4 (ints (Sha.add st r).list) := hrow4.mono hbw3.size
  clear hrow4 hI3 hH3
  go_wp2_with fail
  go_ret
  rw [HM.out]
  exact ⟨v4, rfl, hrw, hbw4⟩
end Go.Proofs.YtlhohmlpcgbliaaDoor
