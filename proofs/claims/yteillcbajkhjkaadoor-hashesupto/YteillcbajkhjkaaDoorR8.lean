import Derived.Test.YteillcbajkhjkaaDoorR7
namespace Go.Proofs.YteillcbajkhjkaaDoor
open Go.RowKit
attribute [local go_sem ↓] Go.wp_at_zero Go.wp_at_succ

noncomputable def blkB2 : Code := ((Tryd.f41.body.bind (findBlock 2)).getD .skip)

/-- A block's first cells hold these numbers. -/
def IntsAt (w : World) (g : Nat) (l : List Nat) : Prop := ∀ j, j < l.length → w.cell? ⟨g, j, none⟩ = some (.int .i64 ((l.getD j 0 : Nat) : Int))
theorem IntsAt.below {w w' : World} {g B : Nat} {l : List Nat} (h : IntsAt w g l) (hb : Below B w w') (hg : g < B) : IntsAt w' g l := fun j hj => by
  rw [hb.cell (p := ⟨g, j, none⟩) hg]; exact h j hj
theorem IntsAt.new (w : World) (l : List Nat) (e : TypeId) : IntsAt (w.alloc (.cells (ints l).toArray e)) w.heap.size l := fun j hj => by
  rw [(Blk.new w e (ints l)).cell, ints_get _ _ hj]

theorem usum (x y : Nat) (hx : x < 4294967296) (hy : y < 4294967296) : wrap64 ((x : Int) + (y : Int)) = ((x + y : Nat) : Int) := by
  rw [IntWalk.wrap64_in _ ⟨by omega, by omega⟩]; omega
theorem usum_lt (x y : Nat) (hx : x < 4294967296) (hy : y < 4294967296) : x + y < 4294967296000 := by omega
theorem tsum_lt (h b c k w : Nat) (h1 : h < 4294967296) (h2 : b < 4294967296) (h3 : c < 4294967296) (h4 : k < 4294967296) (h5 : w < 4294967296) : h + b + c + k + w < 4294967296000 := by omega
theorem step_list (r : Sha.St) (key wk : Nat) : (Sha.step r key wk).list = [(r.h + Sha.bs1 r.e + Sha.ch r.e r.f r.g + key + wk + (Sha.bs0 r.a + Sha.maj r.a r.b r.c)) % 4294967296, r.a, r.b, r.c, (r.d + (r.h + Sha.bs1 r.e + Sha.ch r.e r.f r.g + key + wk)) % 4294967296, r.e, r.f, r.g] := rfl

set_option maxRecDepth 100000 in
set_option maxHeartbeats 2000000 in
theorem blkB2_wp {c0 c1 c2 c3 c4 c6 c7 c8 c9 c10 c13 c14 c15 c16 c17 c18 c19 c20 c21 c22 c23 c24 c25 c26 c27 c28 c29 c30 c31 c32 c33 c34 c35 c36 c37 c38 c39 c40 c41 c42 c43 c44 c45 c46 c47 c48 c49 c50 c51 c52 c53 c54 c55 c56 c57 c58 c59 c60 c61 c62 c63 c64 c65 c66 c67 c68 c69 c70 c71 c72 c73 c74 c75 c76 c77 c78 c79 c80 c81 c82 c83 c84 c85 c86 c87 c88 c89 c90 c91 c92 c93 c94 c95 c96 c97 c98 c99 c100 c101 c102 c103 c104 c105 c106 c107 c108 c109 c110 c111 c112 c113 c114 c115 c116 c117 c118 c119 c120 c121 c122 c123 c124 c125 c126 c127 c128 c129 c130 c131 c132 c133 c134 c135 c136 c137 c138 c139 c140 c141 c142 c143 c144 c145 c146 c147 c148 c149 c150 c151 c152 c153 c154 c155 c156 c157 c158 c159 c160 c161 c162 c163 c164 c165 c166 c167 c168 c169 c170 c171 c172 c173 c174 c175 c176 c177 c178 c179 c180 c181 c182 c183 c184 c185 c186 c187 c188 c189 c190 c191 c192 c193 c194 c195 c196 c197 c198 c199 c200 c201 c202 c203 c204 c205 c206 c207 c208 c209 c210 c211 c212 c213 c214 c215 c216 c217 c218 c219 c220 c221 c222 : Value} (st : Sha.St) (ws : List Nat) (gw cw gv cv : Nat) (w : World) (Q : Exit → Act → World → Prop) (hok : st.ok) (hwl : ws.length = 64) (hws : ∀ i, ws.getD i 0 < 4294967296) (hW : IntsAt w gw ws) (hgw : gw < w.heap.size) (hV : IntsAt w gv st.list) (hgv : gv < w.heap.size)
  (hQ : ∀ (u12 u13 u14 u15 u16 u17 u18 u107 u108 u109 u110 u111 u112 u113 u114 u115 u116 u117 u118 u119 u120 u121 u122 u123 u124 u125 u126 u127 u128 u129 u130 u131 u132 u133 u134 u135 u136 u137 u138 u139 u140 u141 u142 u143 u144 u145 u146 u147 u148 u149 u150 u151 u152 u153 u154 u155 u156 u157 u158 u159 u160 u161 u162 u163 u164 u165 u166 u167 u168 u169 u170 u171 u172 u173 u174 u175 u176 u177 u178 u179 u180 u181 u182 u183 u184 u185 u186 u187 u188 u189 u190 u191 u192 u193 u194 u195 u196 u197 u198 u199 u200 u201 u202 u203 u204 : Value) (g' c' : Nat) (w' : World), IntsAt w' g' (Sha.rounds st ws 64).list → g' < w'.heap.size → Below w.heap.size w w' → Q (.exit 2) ⟨#[c0, c1, c2, c3, c4, .slice (some ⟨gw, 0, none⟩) 64 cw, c6, c7, c8, c9, c10, .slice (some ⟨g', 0, none⟩) 8 c', u12, u13, u14, u15, u16, u17, u18, c19, c20, c21, c22, c23, c24, c25, c26, c27, c28, c29, c30, c31, c32, c33, c34, c35, c36, c37, c38, c39, c40, c41, c42, c43, c44, c45, c46, c47, c48, c49, c50, c51, c52, c53, c54, c55, c56, c57, c58, c59, c60, c61, c62, c63, c64, c65, c66, c67, c68, c69, c70, c71, c72, c73, c74, c75, c76, c77, c78, c79, c80, c81, c82, c83, c84, c85, c86, c87, c88, c89, c90, c91, c92, c93, c94, c95, c96, c97, c98, c99, c100, c101, c102, c103, c104, c105, c106, u107, u108, u109, u110, u111, u112, u113, u114, u115, u116, u117, u118, u119, u120, u121, u122, u123, u124, u125, u126, u127, u128, u129, u130, u131, u132, u133, u134, u135, u136, u137, u138, u139, u140, u141, u142, u143, u144, u145, u146, u147, u148, u149, u150, u151, u152, u153, u154, u155, u156, u157, u158, u159, u160, u161, u162, u163, u164, u165, u166, u167, u168, u169, u170, u171, u172, u173, u174, u175, u176, u177, u178, u179, u180, u181, u182, u183, u184, u185, u186, u187, u188, u189, u190, u191, u192, u193, u194, u195, u196, u197, u198, u199, u200, u201, u202, u203, u204, c205, c206, c207, c208, c209, c210, c211, c212, c213, c214, c215, c216, c217, c218, c219, c220, c221, c222], []⟩ w') :
  Code.wp Tryd.prog blkB2 Q ⟨#[c0, c1, c2, c3, c4, .slice (some ⟨gw, 0, none⟩) 64 cw, c6, c7, c8, c9, c10, .slice (some ⟨gv, 0, none⟩) 8 cv, .int .i64 0, c13, c14, c15, c16, c17, c18, c19, c20, c21, c22, c23, c24, c25, c26, c27, c28, c29, c30, c31, c32, c33, c34, c35, c36, c37, c38, c39, c40, c41, c42, c43, c44, c45, c46, c47, c48, c49, c50, c51, c52, c53, c54, c55, c56, c57, c58, c59, c60, c61, c62, c63, c64, c65, c66, c67, c68, c69, c70, c71, c72, c73, c74, c75, c76, c77, c78, c79, c80, c81, c82, c83, c84, c85, c86, c87, c88, c89, c90, c91, c92, c93, c94, c95, c96, c97, c98, c99, c100, c101, c102, c103, c104, c105, c106, c107, c108, c109, c110, c111, c112, c113, c114, c115, c116, c117, c118, c119, c120, c121, c122, c123, c124, c125, c126, c127, c128, c129, c130, c131, c132, c133, c134, c135, c136, c137, c138, c139, c140, c141, c142, c143, c144, c145, c146, c147, c148, c149, c150, c151, c152, c153, c154, c155, c156, c157, c158, c159, c160, c161, c162, c163, c164, c165, c166, c167, c168, c169, c170, c171, c172, c173, c174, c175, c176, c177, c178, c179, c180, c181, c182, c183, c184, c185, c186, c187, c188, c189, c190, c191, c192, c193, c194, c195, c196, c197, c198, c199, c200, c201, c202, c203, c204, c205, c206, c207, c208, c209, c210, c211, c212, c213, c214, c215, c216, c217, c218, c219, c220, c221, c222], []⟩ w := by
  conv => arg 2; whnf
  try go_wp2
  go_loopw [11, 12] (fun v i wr => ∃ k g c : Nat, k ≤ 64 ∧ i = .int .i64 k ∧ v = .slice (some ⟨g, 0, none⟩) 8 c ∧ IntsAt wr g (Sha.rounds st ws k).list ∧ g < wr.heap.size ∧ Below w.heap.size w wr) (fun _ i _ => 64 - (intOf i).toNat)
  case atStart => exact ⟨0, gv, cv, by omega, rfl, rfl, hV, hgv, Below.refl _ _⟩
  case round =>
    obtain ⟨k, g, c, hk, rfl, rfl, hI, hg, hb⟩ := hrel
    by_cases h64 : k < 64
    · have kw := hW.below hb hgw k (by omega)
      have lw := hws k
      obtain ⟨o1, o2, o3, o4, o5, o6, o7, o8⟩ := Sha.rounds_ok hok ws k
      have k0 := hI 0 (by show 0 < 8; omega)
      have k1 := hI 1 (by show 1 < 8; omega)
      have k2 := hI 2 (by show 2 < 8; omega)
      have k3 := hI 3 (by show 3 < 8; omega)
      have k4 := hI 4 (by show 4 < 8; omega)
      have k5 := hI 5 (by show 5 < 8; omega)
      have k6 := hI 6 (by show 6 < 8; omega)
      have k7 := hI 7 (by show 7 < 8; omega)
      have HN : Hid ((Sha.rounds st ws (k + 1)).list = (Sha.step (Sha.rounds st ws k) (Sha.keys.getD k 0) (ws.getD k 0)).list) := rfl
      generalize ws.getD k 0 = wk at *
      generalize Sha.rounds st ws k = r at *
      change wr.cell? _ = some (.int .i64 (r.a : Int)) at k0
      change wr.cell? _ = some (.int .i64 (r.b : Int)) at k1
      change wr.cell? _ = some (.int .i64 (r.c : Int)) at k2
      change wr.cell? _ = some (.int .i64 (r.d : Int)) at k3
      change wr.cell? _ = some (.int .i64 (r.e : Int)) at k4
      change wr.cell? _ = some (.int .i64 (r.f : Int)) at k5
      change wr.cell? _ = some (.int .i64 (r.g : Int)) at k6
      change wr.cell? _ = some (.int .i64 (r.h : Int)) at k7
      have HB : Hid (Below w.heap.size w wr) := hb
      clear hI hQ hW hb hV hws
      go_wp2_with fail
      refine blkR18_wp g c r.e r.f r.g _ _ o5 o6 o7 k5 k6 ?_
      intro u117 u118 u119 u120 u121 u122 u123 u124 u125 u126 u127 u128 n1
      go_wp2_with fail
      refine blkR19_wp g c r.a r.b r.c _ _ o1 o2 o3 k1 k2 ?_
      intro u129 u130 u131 u132 u133 u134 u135 u136 u137 u138 u139 u140 u141 u142 u143 u144 u145 u146 u147 n2
      go_wp2_with fail
      refine blkR20_wp g c gw cw k r.e (Sha.ch r.e r.f r.g) r.h wk _ _ h64 o5 (Sha.ch_lt _ _ _ o6 o7) o8 lw k7 kw ?_
      intro u148 u149 u150 u151 u152 u153 u154 u155 u156 u157 u158 u159 u160 u161 u162 u163 u164 u165 u166 u167 u168 u169 n3
      go_wp2_with fail
      refine (turn_any r.a 2 _ o1 (by simp [isTurn])).mono ?_
      rintro e w1 ⟨rfl, m1, rfl⟩
      go_wp2_with fail
      refine (turn_any r.a 13 _ o1 (by simp [isTurn])).mono ?_
      rintro e w1 ⟨rfl, m2, rfl⟩
      go_wp2_with fail
      refine (turn_any r.a 22 _ o1 (by simp [isTurn])).mono ?_
      rintro e w1 ⟨rfl, m3, rfl⟩
      go_wp2_with fail
      rw [bs0_ref r.a o1]
      rw [usum _ _ (Sha.bs0_lt r.a o1) (Sha.maj_lt r.a r.b r.c o2 o3)]
      refine blkR22_wp g c r.a r.b r.c r.d r.e r.f r.g _ _ _ _ (tsum_lt _ _ _ _ _ o8 (Sha.bs1_lt r.e o5) (Sha.ch_lt r.e r.f r.g o6 o7) (Sha.keys_lt k) lw) (usum_lt _ _ (Sha.bs0_lt r.a o1) (Sha.maj_lt r.a r.b r.c o2 o3)) o4 (Cells.of (by intro p hp; simp at hp; rcases hp with rfl | rfl | rfl | rfl | rfl <;> assumption)) ?_
      intro u180 u181 u182 u183 u184 u185 u186 u187 u188 u189 u190 u191 u192 u193 u194 u195 u196 u197 u198 u199 u200 u201 u202 u203 u204
      have hbn := Below.drewN' ((Below.drewN' HB.out (n1 + n2 + n3 + m1 + m2 + m3)).alloc HB.out.size (.cells (ints (Sha.step r (Sha.keys.getD k 0) wk).list).toArray 3)) 1
      have hin := IntsAt.new (wr.drewN (n1 + n2 + n3 + m1 + m2 + m3)) (Sha.step r (Sha.keys.getD k 0) wk).list 3
      rw [step_list] at hbn hin
      have hsz : (wr.drewN (n1 + n2 + n3 + m1 + m2 + m3)).heap.size < ((wr.drewN (n1 + n2 + n3 + m1 + m2 + m3)).alloc (.cells (ints [(r.h + Sha.bs1 r.e + Sha.ch r.e r.f r.g + Sha.keys.getD k 0 + wk + (Sha.bs0 r.a + Sha.maj r.a r.b r.c)) % 4294967296, r.a, r.b, r.c, (r.d + (r.h + Sha.bs1 r.e + Sha.ch r.e r.f r.g + Sha.keys.getD k 0 + wk)) % 4294967296, r.e, r.f, r.g]).toArray 3)).heap.size := by simp
      rw [← step_list] at hbn hin hsz ⊢
      have HBN : Hid _ := hbn
      have HIN : Hid _ := hin
      have HSZ : Hid _ := hsz
      clear hbn hin hsz
      simp only [Exit.inBlock]
      go_wp2_with fail
      have hk' : Sha.keys[k]?.getD 0 = Sha.keys.getD k 0 := rfl
      rw [hk']
      refine ⟨⟨k + 1, (wr.drewN (n1 + n2 + n3 + m1 + m2 + m3)).heap.size, 8, by omega, by go_num, rfl, ?_, HSZ.out, HBN.out⟩, by simp [intOf]; omega⟩
      rw [HN.out]
      exact HIN.out
    · have hk4 : k = 64 := by omega
      subst hk4
      go_wp2
      exact hQ _ _ _ _ _ _ _ _ _ _ _ _ _ _ _ _ _ _ _ _ _ _ _ _ _ _ _ _ _ _ _ _ _ _ _ _ _ _ _ _ _ _ _ _ _ _ _ _ _ _ _ _ _ _ _ _ _ _ _ _ _ _ _ _ _ _ _ _ _ _ _ _ _ _ _ _ _ _ _ _ _ _ _ _ _ _ _ _ _ _ _ _ _ _ _ _ _ _ _ _ _ _ _ _ _ g c _ hI hg hb
end Go.Proofs.YteillcbajkhjkaaDoor
