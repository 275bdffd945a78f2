import Derived.Test.YteillcbajkhjkaaDoorR4
namespace Go.Proofs.YteillcbajkhjkaaDoor
open Go.RowKit
attribute [local go_sem ↓] Go.wp_at_zero Go.wp_at_succ

theorem i64_xor_nat (a b : Nat) (ha : a < 4294967296) (hb : b < 4294967296) : bits .xor .i64 (a : Int) (b : Int) = ((a ^^^ b : Nat) : Int) := by
  have hx := Sha.xor_lt ha hb
  show IntKind.i64.wrap ((BitVec.ofInt 64 (a : Int) ^^^ BitVec.ofInt 64 (b : Int)).toNat : Int) = _
  rw [BitVec.toNat_xor, ofInt_u64 a (by omega), ofInt_u64 b (by omega), IntKind.wrap_i64]
  omega
theorem i64_and_nat (a b : Nat) (ha : a < 4294967296) (hb : b < 4294967296) : bits .and .i64 (a : Int) (b : Int) = ((a &&& b : Nat) : Int) := by
  have hx := Sha.and_lt (a := a) hb
  show IntKind.i64.wrap ((BitVec.ofInt 64 (a : Int) &&& BitVec.ofInt 64 (b : Int)).toNat : Int) = _
  rw [BitVec.toNat_and, ofInt_u64 a (by omega), ofInt_u64 b (by omega), IntKind.wrap_i64]
  omega
theorem ss0_ref (x : Nat) (hx : x < 4294967296) : bits .xor .i64 (bits .xor .i64 (Sha.rotr x 7 : Int) (Sha.rotr x 18 : Int)) ((x : Int) / 8) = (Sha.ss0 x : Int) := by
  have a1 := Sha.rotr_lt x 7 hx (by omega)
  have a2 := Sha.rotr_lt x 18 hx (by omega)
  have e : (x : Int) / 8 = ((x / 8 : Nat) : Int) := by simp
  rw [e, i64_xor_nat _ _ a1 a2, i64_xor_nat _ _ (Sha.xor_lt a1 a2) (by omega)]; rfl
theorem ss1_ref (x : Nat) (hx : x < 4294967296) : bits .xor .i64 (bits .xor .i64 (Sha.rotr x 17 : Int) (Sha.rotr x 19 : Int)) ((x : Int) / 1024) = (Sha.ss1 x : Int) := by
  have a1 := Sha.rotr_lt x 17 hx (by omega)
  have a2 := Sha.rotr_lt x 19 hx (by omega)
  have e : (x : Int) / 1024 = ((x / 1024 : Nat) : Int) := by simp
  rw [e, i64_xor_nat _ _ a1 a2, i64_xor_nat _ _ (Sha.xor_lt a1 a2) (by omega)]; rfl
theorem bs1_ref (x : Nat) (hx : x < 4294967296) : bits .xor .i64 (bits .xor .i64 (Sha.rotr x 6 : Int) (Sha.rotr x 11 : Int)) (Sha.rotr x 25 : Int) = (Sha.bs1 x : Int) := by
  have a1 := Sha.rotr_lt x 6 hx (by omega)
  have a2 := Sha.rotr_lt x 11 hx (by omega)
  have a3 := Sha.rotr_lt x 25 hx (by omega)
  rw [i64_xor_nat _ _ a1 a2, i64_xor_nat _ _ (Sha.xor_lt a1 a2) a3]; rfl
theorem bs0_ref (x : Nat) (hx : x < 4294967296) : bits .xor .i64 (bits .xor .i64 (Sha.rotr x 2 : Int) (Sha.rotr x 13 : Int)) (Sha.rotr x 22 : Int) = (Sha.bs0 x : Int) := by
  have a1 := Sha.rotr_lt x 2 hx (by omega)
  have a2 := Sha.rotr_lt x 13 hx (by omega)
  have a3 := Sha.rotr_lt x 22 hx (by omega)
  rw [i64_xor_nat _ _ a1 a2, i64_xor_nat _ _ (Sha.xor_lt a1 a2) a3]; rfl
theorem ch_ref (e f g : Nat) (he : e < 4294967296) (hf : f < 4294967296) (hg : g < 4294967296) :
    bits .xor .i64 (bits .and .i64 (e : Int) (f : Int)) (bits .and .i64 ((4294967295 - e : Nat) : Int) (g : Int)) = (Sha.ch e f g : Int) := by
  rw [i64_and_nat _ _ he hf, i64_and_nat _ _ (by omega) hg, i64_xor_nat _ _ (Sha.and_lt hf) (Sha.and_lt hg)]; rfl
theorem maj_ref (a b c : Nat) (ha : a < 4294967296) (hb : b < 4294967296) (hc : c < 4294967296) :
    bits .xor .i64 (bits .xor .i64 (bits .and .i64 (a : Int) (b : Int)) (bits .and .i64 (a : Int) (c : Int))) (bits .and .i64 (b : Int) (c : Int)) = (Sha.maj a b c : Int) := by
  rw [i64_and_nat _ _ ha hb, i64_and_nat _ _ ha hc, i64_and_nat _ _ hb hc, i64_xor_nat _ _ (Sha.and_lt hb) (Sha.and_lt hc), i64_xor_nat _ _ (Sha.xor_lt (Sha.and_lt hb) (Sha.and_lt hc)) (Sha.and_lt hc)]; rfl

set_option maxRecDepth 100000 in
set_option maxHeartbeats 2000000 in
theorem blkB0_wp {c0 c2 c3 c4 c7 c8 c9 c10 c11 c12 c13 c14 c15 c16 c17 c18 c19 c20 c21 c22 c23 c24 c25 c26 c27 c28 c29 c30 c31 c32 c33 c34 c35 c36 c37 c38 c39 c40 c41 c42 c43 c44 c45 c46 c47 c48 c49 c50 c51 c52 c53 c54 c55 c56 c57 c58 c59 c60 c61 c62 c63 c64 c65 c66 c67 c68 c69 c70 c71 c72 c73 c74 c75 c76 c77 c78 c79 c80 c81 c82 c83 c84 c85 c86 c87 c88 c89 c90 c91 c92 c93 c94 c95 c96 c97 c98 c99 c100 c101 c102 c103 c104 c105 c106 c107 c108 c109 c110 c111 c112 c113 c114 c115 c116 c117 c118 c119 c120 c121 c122 c123 c124 c125 c126 c127 c128 c129 c130 c131 c132 c133 c134 c135 c136 c137 c138 c139 c140 c141 c142 c143 c144 c145 c146 c147 c148 c149 c150 c151 c152 c153 c154 c155 c156 c157 c158 c159 c160 c161 c162 c163 c164 c165 c166 c167 c168 c169 c170 c171 c172 c173 c174 c175 c176 c177 c178 c179 c180 c181 c182 c183 c184 c185 c186 c187 c188 c189 c190 c191 c192 c193 c194 c195 c196 c197 c198 c199 c200 c201 c202 c203 c204 c205 c206 c207 c208 c209 c210 c211 c212 c213 c214 c215 c216 c217 c218 c219 c220 c221 c222 : Value} (s : ByteArray) (base : Nat) (w w0 : World) (Q : Exit → Act → World → Prop) (hs : s.size = 64) (hb0 : base ≤ w0.heap.size) (hbw : Below base w0 w)
  (hQ : ∀ (u6 u7 u8 u9 u10 u21 u22 u23 u24 u25 u26 u27 u28 u29 u30 u31 u32 u33 u34 u35 u36 u37 u38 u39 u40 u41 u42 u43 u44 u45 u46 u47 u48 u49 u50 u51 u52 u53 u54 u55 u56 u57 u58 u59 u60 u61 u62 u63 u64 u65 u66 u67 u68 u69 u70 u71 u72 u73 u74 u75 u76 u77 u78 u79 u80 u81 u82 u83 u84 u85 u86 u87 u88 u89 u90 u91 u92 u93 u94 u95 u96 u97 u98 u99 u100 u101 u102 u103 : Value) (v' : Value) (w' : World), Row w' base 3 v' (ints (Sha.sched (bts s) 64)) → Below base w0 w' → Q (.exit 0) ⟨#[c0, .string s, c2, c3, c4, v', u6, u7, u8, u9, u10, c11, c12, c13, c14, c15, c16, c17, c18, c19, c20, u21, u22, u23, u24, u25, u26, u27, u28, u29, u30, u31, u32, u33, u34, u35, u36, u37, u38, u39, u40, u41, u42, u43, u44, u45, u46, u47, u48, u49, u50, u51, u52, u53, u54, u55, u56, u57, u58, u59, u60, u61, u62, u63, u64, u65, u66, u67, u68, u69, u70, u71, u72, u73, u74, u75, u76, u77, u78, u79, u80, u81, u82, u83, u84, u85, u86, u87, u88, u89, u90, u91, u92, u93, u94, u95, u96, u97, u98, u99, u100, u101, u102, u103, c104, c105, c106, c107, c108, c109, c110, c111, c112, c113, c114, c115, c116, c117, c118, c119, c120, c121, c122, c123, c124, c125, c126, c127, c128, c129, c130, c131, c132, c133, c134, c135, c136, c137, c138, c139, c140, c141, c142, c143, c144, c145, c146, c147, c148, c149, c150, c151, c152, c153, c154, c155, c156, c157, c158, c159, c160, c161, c162, c163, c164, c165, c166, c167, c168, c169, c170, c171, c172, c173, c174, c175, c176, c177, c178, c179, c180, c181, c182, c183, c184, c185, c186, c187, c188, c189, c190, c191, c192, c193, c194, c195, c196, c197, c198, c199, c200, c201, c202, c203, c204, c205, c206, c207, c208, c209, c210, c211, c212, c213, c214, c215, c216, c217, c218, c219, c220, c221, c222], []⟩ w') :
  Code.wp Tryd.prog blkB0 Q ⟨#[c0, .string s, c2, c3, c4, .slice none 0 0, .int .i64 0, c7, c8, c9, c10, c11, c12, c13, c14, c15, c16, c17, c18, c19, c20, c21, c22, c23, c24, c25, c26, c27, c28, c29, c30, c31, c32, c33, c34, c35, c36, c37, c38, c39, c40, c41, c42, c43, c44, c45, c46, c47, c48, c49, c50, c51, c52, c53, c54, c55, c56, c57, c58, c59, c60, c61, c62, c63, c64, c65, c66, c67, c68, c69, c70, c71, c72, c73, c74, c75, c76, c77, c78, c79, c80, c81, c82, c83, c84, c85, c86, c87, c88, c89, c90, c91, c92, c93, c94, c95, c96, c97, c98, c99, c100, c101, c102, c103, c104, c105, c106, c107, c108, c109, c110, c111, c112, c113, c114, c115, c116, c117, c118, c119, c120, c121, c122, c123, c124, c125, c126, c127, c128, c129, c130, c131, c132, c133, c134, c135, c136, c137, c138, c139, c140, c141, c142, c143, c144, c145, c146, c147, c148, c149, c150, c151, c152, c153, c154, c155, c156, c157, c158, c159, c160, c161, c162, c163, c164, c165, c166, c167, c168, c169, c170, c171, c172, c173, c174, c175, c176, c177, c178, c179, c180, c181, c182, c183, c184, c185, c186, c187, c188, c189, c190, c191, c192, c193, c194, c195, c196, c197, c198, c199, c200, c201, c202, c203, c204, c205, c206, c207, c208, c209, c210, c211, c212, c213, c214, c215, c216, c217, c218, c219, c220, c221, c222], []⟩ w := by
  conv => arg 2; whnf
  try go_wp2
  go_loopw [5, 6] (fun v i wr => ∃ k : Nat, k ≤ 64 ∧ i = .int .i64 k ∧ Row wr base 3 v (ints (Sha.sched (bts s) k)) ∧ Below base w0 wr) (fun _ i _ => 64 - (intOf i).toNat)
  case atStart => exact ⟨0, by omega, rfl, World.ownsRow_nil _ _ _ _, hbw⟩
  case round =>
    obtain ⟨k, hk, rfl, hrow, hb⟩ := hrel
    have hbs : base ≤ wr.heap.size := Nat.le_trans hb0 hb.size
    have hbo := bts_ok s
    have hln : (ints (Sha.sched (bts s) k)).length = k := by rw [ints_length, Sha.sched_length]
    by_cases h64 : k < 64
    · by_cases h16 : k < 16
      · go_wp2_with fail
        refine blkR6_wp s _ (ints (Sha.sched (bts s) k)) k base _ w0 _ hs h16 hrow (by omega) hbs hb ?_
        intro u27 u28 u29 u30 u31 u32 u33 u34 u35 u36 u37 u38 u39 u40 u41 u42 u43 u44 u45 u46 u47 u48 u49 u50 u51 u52 u53 u54 u55 u56 u57 u58 v' w' hrow' hb'
        go_wp2_with fail
        refine ⟨⟨k + 1, by omega, by go_num, hrow'.eq ?_, hb'⟩, by simp [intOf]; omega⟩
        rw [Sha.sched, if_pos h16, ints_append]
        rfl
      · obtain ⟨g, cap, hv, hgb, hnc, hcm, hcell, hgl, hfz⟩ := hrow.form (by rw [hln]; omega)
        rw [hln] at hcell hnc hv
        subst hv
        have hc : ∀ j, j < k → wr.cell? ⟨g, j, none⟩ = some (.int .i64 (((Sha.sched (bts s) k).getD j 0 : Nat) : Int)) := fun j hj => by
          rw [hcell j hj, ints_get _ _ (by rw [Sha.sched_length]; exact hj)]
        have hl := Sha.sched_lt hbo k
        have e2 := hc (k - 2) (by omega)
        have e15 := hc (k - 15) (by omega)
        have e7 := hc (k - 7) (by omega)
        have e16 := hc (k - 16) (by omega)
        have l2 := hl (k - 2)
        have l15 := hl (k - 15)
        have l7 := hl (k - 7)
        have l16 := hl (k - 16)
        have HN : Hid (Sha.next (Sha.sched (bts s) k) k = ((Sha.sched (bts s) k).getD (k - 16) 0 + Sha.ss0 ((Sha.sched (bts s) k).getD (k - 15) 0) + (Sha.sched (bts s) k).getD (k - 7) 0 + Sha.ss1 ((Sha.sched (bts s) k).getD (k - 2) 0)) % 4294967296) := rfl
        generalize (Sha.sched (bts s) k).getD (k - 2) 0 = x2 at *
        generalize (Sha.sched (bts s) k).getD (k - 15) 0 = x15 at *
        generalize (Sha.sched (bts s) k).getD (k - 7) 0 = x7 at *
        generalize (Sha.sched (bts s) k).getD (k - 16) 0 = x16 at *
        have HR : Hid _ := hrow
        have HB : Hid _ := hb
        clear hc hl hcell hrow hb hQ hbw hfz
        have i16 : (16 : Int) ≤ (k : Int) := by omega
        go_wp2_with fail
        refine (turn_any x15 7 _ l15 (by simp [isTurn])).mono ?_
        rintro e w1 ⟨rfl, m1, rfl⟩
        go_wp2_with fail
        refine (turn_any x15 18 _ l15 (by simp [isTurn])).mono ?_
        rintro e w1 ⟨rfl, m2, rfl⟩
        go_wp2_with fail
        refine (turn_any x2 17 _ l2 (by simp [isTurn])).mono ?_
        rintro e w1 ⟨rfl, m3, rfl⟩
        go_wp2_with fail
        refine (turn_any x2 19 _ l2 (by simp [isTurn])).mono ?_
        rintro e w1 ⟨rfl, m4, rfl⟩
        go_wp2_with fail
        rw [ss0_ref x15 l15, ss1_ref x2 l2]
        refine blkR11_wp g cap k x16 x7 (Sha.ss0 x15) (Sha.ss1 x2) base (ints (Sha.sched (bts s) k)) _ w0 _ (by omega) h64 hln l16 l7 (Sha.ss0_lt _ l15) (Sha.ss1_lt _ l2) (Row.drewN (v := .slice (some ⟨g, 0, none⟩) k cap) HR.out _) e16 e7 hbs (Below.drewN' HB.out _) hgl ?_
        intro u85 u86 u87 u88 u89 u90 u91 u92 u93 u94 u95 u96 u97 u98 u99 u100 u101 u102 u103 v' w' hrow' hb'
        go_wp2_with fail
        refine ⟨⟨k + 1, by omega, by go_num, hrow'.eq ?_, hb'⟩, by simp [intOf]; omega⟩
        rw [Sha.sched, if_neg h16, ints_append, HN.out]
        rfl
    · have hk4 : k = 64 := by omega
      subst hk4
      go_wp2
      exact hQ _ _ _ _ _ _ _ _ _ _ _ _ _ _ _ _ _ _ _ _ _ _ _ _ _ _ _ _ _ _ _ _ _ _ _ _ _ _ _ _ _ _ _ _ _ _ _ _ _ _ _ _ _ _ _ _ _ _ _ _ _ _ _ _ _ _ _ _ _ _ _ _ _ _ _ _ _ _ _ _ _ _ _ _ _ _ _ _ _ _ hrow hb
end Go.Proofs.YteillcbajkhjkaaDoor
