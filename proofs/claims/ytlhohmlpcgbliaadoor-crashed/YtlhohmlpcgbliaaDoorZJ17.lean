import Derived.Test.YtlhohmlpcgbliaaDoorZJ13
namespace Go.Proofs.YtlhohmlpcgbliaaDoor
set_option maxRecDepth 100000
open Go.RowKit
attribute [local go_sem ↓] Go.wp_at_zero Go.wp_at_succ

/-- What a Flush leaves whose disk is to fail behind k acts. -/
theorem crash_of {C : Dk} {E W : List ByteArray} (h : Holds C E) (h0 : 0 < W.length) (hW : W.length ≤ 11) (hz : ∀ s ∈ W, s.size ≤ 40) (hE : E.length ≤ 52) {Y : Dk} (hL : Like Y C) (hf : Y.failed = false) (hs : Y.set = true) (k : Nat) (hk : Y.left = k) (hkn : k ≤ (adA C W).length) (ha : 0 ≤ Y.acts) (ha2 : Y.acts ≤ 1000000) :
    ∃ (er : Int) (d : Nat), ((Y.add W).failed = true ∧ er = 3 ∧ k < (adA C W).length ∨ (Y.add W).failed = false ∧ er = 0 ∧ k = (adA C W).length) ∧ (Y.add W).acts = Y.acts + (k : Int) ∧ d = k ∧ (Holds (Dk.of (Y.add W).las.flatten) E ∨ Cr2 E W (Dk.of (Y.add W).las.flatten)) ∧ (er = 3 ∨ (er = 0 ∧ Holds (Dk.of (Y.add W).las.flatten) (E ++ W))) := by
  have hb := adA_len (R := C) (ss := W) (by rw [h.ckN]; omega)
  by_cases hlt : k < (adA C W).length
  · obtain ⟨h1, h2, h3, h4⟩ := script_out h hL hf hs W (by omega) k hk hlt ha ha2
    refine ⟨3, k, .inl ⟨h1, rfl, hlt⟩, h2, rfl, ?_, .inl rfl⟩
    rw [h4]
    exact add_safe h (by omega) hz (by omega) k Y.keep
  · have hke : k = (adA C W).length := by omega
    obtain ⟨h1, h2, h3, h4, h5, h6⟩ := script_in h hL hf hs W (by omega) (by rw [hk]; omega) (by rw [hk]; omega) ha ha2
    have hA := (add_spec h (W := W) (by omega) hz (by omega)).again
    rw [← h6.las] at hA
    exact ⟨0, k, .inr ⟨h1, rfl, hke⟩, by rw [h4, hke], rfl, .inr (.inr (.inr hA)), .inr ⟨rfl, hA⟩⟩

set_option maxHeartbeats 16000000 in
theorem cr13_wp {c0 c1 c2 c3 c5 c6 c7 c9 c10 c15 c16 c17 c18 c19 c20 c21 c22 c23 c24 c25 c26 c27 c28 c29 c30 c31 c32 c33 c34 c35 c36 c37 c38 c39 c40 c41 c42 c43 c44 c45 c46 c47 c48 c49 c50 c51 c52 c53 c54 c55 c56 c57 c58 c59 c60 c61 c62 c63 c64 c65 c66 c67 c68 c69 c70 c71 c72 c73 c74 c75 c76 c77 c78 c79 c80 c81 c82 c83 c84 c85 c86 c87 c88 c89 c90 c91 c92 c93 c94 c95 c96 c97 c98 c99 c100 c101 c102 c103 c104 c105 c106 c107 c108 c109 c110 c111 c112 c113 c114 c115 c116 c117 c118 c119 c120 c121 c122 c123 c124 c125 c126 c127 c128 c129 c130 c131 c132 c133 c134 c135 c136 c137 c138 c139 c140 c141 c142 c143 c144 c145 c146 c147 c148 c149 c150 c151 c152 c153 c154 c155 c156 c157 c158 c159 c160 c161 c162 c163 c164 c165 c166 c167 c168 c169 c170 c171 c172 c173 c174 c175 c176 c177 c178 c179 c180 c181 c182 c183 c184 c185 c186 c187 c188 c189 c190 c191 c192 c193 c194 c195 c196 c197 c198 c199 c200 c201 c202 c203 c204 c205 c206 c207 c208 c209 c210 c211 c212 c213 c214 c215 c216 c217 c218 c219 c220 c221 c222 c223 c224 c225 c226 c227 c228 c229 c230 c231 c232 c233 c234 c235 c236 c237 c238 c239 c240 c241 c242 c243 c244 c245 c246 c247 c248 : Value} (a b : Nat) (fv : Value) (D : Dk) {E W : List ByteArray} (vo vn vf : Value) (cb co cc fb base : Nat) (f1 f2 : Int) (wB B w : World)
    (hL : LogAt w a b fv (.slice none 0 0) D []) (hH : Holds D E) (hac : 0 ≤ D.acts) (hac2 : D.acts ≤ 1000000) (hoB : ∀ j, Own a b fv.ownBlock none j → B.heap.size ≤ j) (hob : ∀ j, Own a b fv.ownBlock none j → j < base) (hrow : Row w base 9 vn (strv (E ++ W)))
    (h0 : 0 < W.length) (hW : W.length ≤ 11) (hE : E.length ≤ 52) (hz : ∀ s ∈ W, s.size ≤ 40) (ho : LS B vo E) (hSA : SA B cb co W) (hcb : cb < B.heap.size) (hR : RawF B vf) (hc1 : B.cell? ⟨fb, 0, none⟩ = some (.int .i64 f1)) (hc2 : B.cell? ⟨fb, 1, none⟩ = some (.int .i64 f2)) (hf1 : -9223372036854775808 ≤ f1 ∧ f1 ≤ 9223372036854775807)
    (hbw : Below B.heap.size B w) (hB : Below wB.heap.size wB B) (ht : Table B) (hg : 2 < B.heap.size) :
    Code.wp Tryd.prog (sfxD Tryd.f12 13) (crQ wB) ⟨#[c0, c1, c2, c3, vf, c5, c6, c7, .pointer (some ⟨fb, 0, none⟩), c9, c10, vo, .slice (some ⟨cb, co, none⟩) W.length cc, .pointer (some ⟨a, 0, none⟩), vn, c15, c16, c17, c18, c19, c20, c21, c22, c23, c24, c25, c26, c27, c28, c29, c30, c31, c32, c33, c34, c35, c36, c37, c38, c39, c40, c41, c42, c43, c44, c45, c46, c47, c48, c49, c50, c51, c52, c53, c54, c55, c56, c57, c58, c59, c60, c61, c62, c63, c64, c65, c66, c67, c68, c69, c70, c71, c72, c73, c74, c75, c76, c77, c78, c79, c80, c81, c82, c83, c84, c85, c86, c87, c88, c89, c90, c91, c92, c93, c94, c95, c96, c97, c98, c99, c100, c101, c102, c103, c104, c105, c106, c107, c108, c109, c110, c111, c112, c113, c114, c115, c116, c117, c118, c119, c120, c121, c122, c123, c124, c125, c126, c127, c128, c129, c130, c131, c132, c133, c134, c135, c136, c137, c138, c139, c140, c141, c142, c143, c144, c145, c146, c147, c148, c149, c150, c151, c152, c153, c154, c155, c156, c157, c158, c159, c160, c161, c162, c163, c164, c165, c166, c167, c168, c169, c170, c171, c172, c173, c174, c175, c176, c177, c178, c179, c180, c181, c182, c183, c184, c185, c186, c187, c188, c189, c190, c191, c192, c193, c194, c195, c196, c197, c198, c199, c200, c201, c202, c203, c204, c205, c206, c207, c208, c209, c210, c211, c212, c213, c214, c215, c216, c217, c218, c219, c220, c221, c222, c223, c224, c225, c226, c227, c228, c229, c230, c231, c232, c233, c234, c235, c236, c237, c238, c239, c240, c241, c242, c243, c244, c245, c246, c247, c248], []⟩ w := by
  conv => arg 2; whnf
  generalize hQ : crQ wB = Q
  have HQ : Aside (crQ wB = Q) := hQ
  clear hQ
  have T : Aside (∀ wx, Below B.heap.size B wx → Table wx ∧ 2 < wx.heap.size) := fun wx hx => ⟨table_at hx hg ht, Nat.lt_of_lt_of_le hg hx.size⟩
  have HC : Aside (∀ wx, Below B.heap.size B wx → wx.cell? ⟨fb, 0, none⟩ = some (.int .i64 f1) ∧ wx.cell? ⟨fb, 1, none⟩ = some (.int .i64 f2)) := fun wx hx => ⟨by rw [hx.cell (World.block_lt_of_cell? _ _ hc1)]; exact hc1, by rw [hx.cell (World.block_lt_of_cell? _ _ hc2)]; exact hc2⟩
  have HK0 : Aside (LgK B w (Own a b fv.ownBlock none) w a D []) := ⟨hbw, Nat.le_refl _, fun _ _ _ => rfl, b, fv, .slice none 0 0, hL, hoB, fun j hj => .inl hj⟩
  have hlas : (Dk.of D.las.flatten).las = D.las := (Same.of hH.nf hH.ok hH.fre).las.symm
  have hC := hH.again
  have hLk : Like D (Dk.of D.las.flatten) := ⟨hlas.symm, hH.fre⟩
  have g1 := Lg.copied hL hC (T.out w hbw).1 (T.out w hbw).2
  have hCa : (Dk.of D.las.flatten).acts = 0 := rfl
  generalize Dk.of D.las.flatten = C at *
  have hA := add_spec hC (W := W) (by omega) hz (by omega)
  have hna := nf_add_acts hC.nf W (by rw [hC.ckN]; omega) (by omega) (by omega)
  rw [hCa, Int.zero_add] at hna
  have hn2 := (adA_len (R := C) (ss := W) (by rw [hC.ckN]; omega)).2
  have hlen : (E ++ W).length = E.length + W.length := List.length_append
  obtain ⟨pn, cn, hvn⟩ := row_slice hrow
  rw [hlen] at hvn
  subst hvn
  have HCR : Aside (∀ (k : Nat) (keep : Int), k ≤ (adA C W).length → ∃ (er : Int) (d : Nat), (((D.script (k : Int) keep).add W).failed = true ∧ er = 3 ∧ k < (adA C W).length ∨ ((D.script (k : Int) keep).add W).failed = false ∧ er = 0 ∧ k = (adA C W).length) ∧ ((D.script (k : Int) keep).add W).acts = D.acts + (k : Int) ∧ d = k ∧ (Holds (Dk.of ((D.script (k : Int) keep).add W).las.flatten) E ∨ Cr2 E W (Dk.of ((D.script (k : Int) keep).add W).las.flatten)) ∧ (er = 3 ∨ (er = 0 ∧ Holds (Dk.of ((D.script (k : Int) keep).add W).las.flatten) (E ++ W)))) := fun k keep hk => crash_of hC h0 hW hz hE (Y := D.script (k : Int) keep) ⟨hLk.las, hLk.fre⟩ hH.nf.failed rfl k rfl hk hac hac2
  have HG : Aside (Holds D E ∧ Holds C E ∧ Holds (C.add W) (E ++ W) ∧ (C.add W).acts = (adA C W).length ∧ 0 < W.length ∧ W.length ≤ 11 ∧ E.length ≤ 52 ∧ (∀ s ∈ W, s.size ≤ 40)) := ⟨hH, hC, hA, hna, h0, hW, hE, hz⟩
  have HS : Aside (SA B cb co W ∧ cb < B.heap.size ∧ LS B vo E ∧ RawF B vf ∧ Below wB.heap.size wB B ∧ Below B.heap.size B w ∧ Table B ∧ 2 < B.heap.size) := ⟨hSA, hcb, ho, hR, hB, hbw, ht, hg⟩
  have HR : Aside (Row w base 9 (.slice pn (E.length + W.length) cn) (strv (E ++ W)) ∧ (∀ j, Own a b fv.ownBlock none j → j < base) ∧ (∀ j, Own a b fv.ownBlock none j → B.heap.size ≤ j)) := ⟨hrow, hob, hoB⟩
  have HAC : Aside (0 ≤ D.acts ∧ D.acts ≤ 1000000) := ⟨hac, hac2⟩
  clear hL hH hac hac2 hoB hob hrow hz ho hSA hcb hR hc1 hc2 hbw hB ht hg hlas hC hLk hCa hA hna hlen
  generalize (adA C W).length = n at *
  generalize hda : D.acts = ac at *
  have HDA : Aside (D.acts = ac) := hda
  clear hda
  go_wp2_with fail
  refine g1.mono ?_
  rintro e w1 ⟨a1, rfl, h1⟩
  clear g1
  have g2 := h1.submitS HG.out.2.1.nf.failed HG.out.2.1.jn cb co cc W ((HS.out.1.below HS.out.2.2.2.2.2.1).below h1.bel) (Nat.lt_of_lt_of_le HS.out.2.1 HS.out.2.2.2.2.2.1.size) HG.out.2.2.2.2.2.2.2 (by omega) (by rw [HG.out.2.1.ckN]; omega)
  clear h1
  go_wp2_with fail
  refine g2.mono ?_
  rintro e w2 ⟨rfl, h2⟩
  clear g2
  have g3 := h2.flush HG.out.2.1.nf.failed HG.out.2.1.jn HG.out.2.2.2.2.2.2.2 (by rw [HG.out.2.1.ckN]; omega) HG.out.2.1.fre h0 HG.out.2.2.1.nf.failed (T.out w HS.out.2.2.2.2.2.1).1 (T.out w HS.out.2.2.2.2.2.1).2
  rw [HG.out.2.2.1.ckN, List.length_append] at g3
  clear h2
  go_wp2_with fail
  refine g3.mono ?_
  rintro e w3 ⟨rfl, h3⟩
  clear g3
  have g4 := h3.acts
  rw [HG.out.2.2.2.1] at g4
  go_wp2_with fail
  refine g4.mono ?_
  rintro e w4 ⟨rfl, rfl⟩
  clear g4
  obtain ⟨b3, fv3, wv3, hL3, _⟩ := h3.ex
  have B3 : Aside (Below w.heap.size w w4 ∧ Below B.heap.size B w4) := ⟨h3.bel, HS.out.2.2.2.2.2.1.trans (h3.bel.mono HS.out.2.2.2.2.2.1.size)⟩
  have g5 := is_true hL3 HG.out.2.2.1.one _ (LS.below (LS.of_row HR.out.1) h3.bel) (T.out w4 B3.out.2).1 (T.out w4 B3.out.2).2
  clear hL3 h3
  go_wp2_with fail
  rename_i K hK K1 hK1
  have HK : Aside (∀ a w, _ → K a w) := hK
  clear hK
  refine g5.mono ?_
  rintro e w5 ⟨rfl, b5⟩
  have H5 : Aside (LgK B w (Own a b fv.ownBlock none) w5 a D []) := HK0.out.below (B3.out.1.trans (b5.mono B3.out.1.size))
  clear g5 b5 B3 HK0
  have hnn : ¬ ((E.length : Int) + (W.length : Int) ≠ (E.length : Int) + (W.length : Int)) := by simp
  go_wp2
  refine HK.out _ _ ?_
  clear HK
  refine wp_seq_k ?_
  intro K4 hK4
  have HK4 : Aside (∀ a w, _ → K4 a w) := hK4
  clear hK4
  go_wp2
  refine HK4.out _ _ ?_
  clear HK4 hnn
  have g6 := H5.out.submitS HG.out.1.nf.failed HG.out.1.jn cb co cc W (HS.out.1.below H5.out.bel) (Nat.lt_of_lt_of_le HS.out.2.1 HS.out.2.2.2.2.2.1.size) (fun e => by have := HR.out.2.2 cb e; have := HS.out.2.1; omega) HG.out.2.2.2.2.2.2.2 (by omega) (by rw [HG.out.1.ckN]; omega)
  clear H5
  go_wp2_with fail
  refine g6.mono ?_
  rintro e w6 ⟨rfl, h6⟩
  clear g6
  have hcell := (HC.out w6 h6.bel).1
  have hpk : Calls Tryd.prog 32 #[.int .i64 f1, .int .i64 ((n : Int) + 1)] w6 fun e w' => e = .returned (.int .i64 (pickV f1 (n + 1) : Nat)) ∧ w' = w6 := pickG_any f1 (n + 1) w6 hf1.1 hf1.2 (by omega) (by omega)
  have hkm : pickV f1 (n + 1) ≤ n := Nat.le_of_lt_succ (pickV_lt f1 (n + 1) (by omega))
  generalize pickV f1 (n + 1) = k at *
  have H6 : Aside (LgK B w (Own a b fv.ownBlock none) w6 a D W) := h6
  clear h6
  go_wp2_with fail
  refine hpk.mono ?_
  rintro e w7 ⟨rfl, rfl⟩
  clear hpk hcell
  have g8 := H6.out.acts
  rw [HDA.out] at g8
  go_wp2_with fail
  refine g8.mono ?_
  rintro e w8 ⟨rfl, rfl⟩
  clear g8
  obtain ⟨m, hm⟩ : ∃ m, k / 2 = m := ⟨_, rfl⟩
  have hdv : (k : Int).tdiv 2 = (m : Int) := by
    rw [Int.tdiv_eq_ediv_of_nonneg (by omega)]
    omega
  have hdw : (k : Int) / 2 = (m : Int) := by omega
  clear hm
  have g9 := H6.out.fail HG.out.1.nf.failed m (-1)
  have hDf : (D.script (m : Int) (-1)).failed = false := HG.out.1.nf.failed
  have hss : (D.script (m : Int) (-1)).script (k : Int) f2 = D.script (k : Int) f2 := rfl
  generalize D.script (m : Int) (-1) = D1 at *
  have HSS : Aside (D1.failed = false ∧ D1.script (k : Int) f2 = D.script (k : Int) f2) := ⟨hDf, hss⟩
  clear hDf hss
  go_wp2_with fail
  refine g9.mono ?_
  rintro e w9 ⟨rfl, h9⟩
  clear g9 H6 hdv hdw
  have hcell := (HC.out w9 h9.bel).2
  have g10 := h9.fail HSS.out.1 k f2
  rw [HSS.out.2] at g10
  have hyr : (D.script (k : Int) f2).read 1 = zer := HG.out.1.jn
  have hyn : (D.script (k : Int) f2).ckN = E.length := HG.out.1.ckN
  have hyf : (D.script (k : Int) f2).fre = [] := HG.out.1.fre
  have hyd : (D.script (k : Int) f2).failed = false := HG.out.1.nf.failed
  obtain ⟨er, d, hcase, hacts, _, hX, her⟩ := HCR.out k f2 hkm
  clear h9 HCR HSS
  generalize D.script (k : Int) f2 = Y at *
  have HY : Aside (Y.read 1 = zer ∧ Y.ckN = E.length ∧ Y.fre = [] ∧ Y.failed = false ∧ (Y.add W).acts = ac + (k : Int) ∧ (Holds (Dk.of (Y.add W).las.flatten) E ∨ Cr2 E W (Dk.of (Y.add W).las.flatten)) ∧ (er = 3 ∨ (er = 0 ∧ Holds (Dk.of (Y.add W).las.flatten) (E ++ W)))) := ⟨hyr, hyn, hyf, hyd, hacts, hX, her⟩
  have hso : (Dk.of (Y.add W).las.flatten).sound := by
    rcases hX with h | h
    · exact h.one.sound (.inl h.jn)
    · obtain ⟨H, h1, h2, _⟩ := (recP_new h0 (by omega) HG.out.2.2.2.2.2.2.2 (by omega)).hold _ h
      exact h1.sound h2
  have hfr : Fresh (Dk.of (Y.add W).las.flatten) := by
    refine Fresh.of ?_
    rcases hX with h | h
    · exact h.ok
    · obtain ⟨H, h1, _⟩ := (recP_new h0 (by omega) HG.out.2.2.2.2.2.2.2 (by omega)).hold _ h
      exact h1.ok
  have HSO : Aside ((Dk.of (Y.add W).las.flatten).sound ∧ Fresh (Dk.of (Y.add W).las.flatten)) := ⟨hso, hfr⟩
  clear hyr hyn hyf hyd hacts hX her hso hfr
  go_wp2_with fail
  refine g10.mono ?_
  rintro e w10 ⟨rfl, h10⟩
  clear g10 hcell
  have hdk : ac + (k : Int) - ac = (k : Int) := by omega
  rcases hcase with ⟨hc1, rfl, hc3⟩ | ⟨hc1, rfl, rfl⟩
  · have g11 := h10.flush_down HY.out.2.2.2.1 HY.out.1 HG.out.2.2.2.2.2.2.2 (by rw [HY.out.2.1]; omega) HY.out.2.2.1 h0 hc1 HS.out.2.2.2.2.2.2.1 HS.out.2.2.2.2.2.2.2
    have HF : Aside ((Y.add W).failed = true) := hc1
    clear hc1 h10
    go_wp2_with fail
    refine g11.mono ?_
    rintro e w11 ⟨q, rfl, h11⟩
    clear g11
    have g12 := h11.acts
    rw [HY.out.2.2.2.2.1] at g12
    go_wp2_with fail
    refine g12.mono ?_
    rintro e w12 ⟨rfl, rfl⟩
    clear g12
    have g13 := obeys_in k n w12 hc3
    go_wp2_with fail
    refine g13.mono ?_
    rintro e w13 ⟨rfl, rfl⟩
    clear g13
    obtain ⟨bx, fx, wx, hLx, _⟩ := h11.ex
    have g14 := down_true hLx HF.out W.length rfl
    have H11 : Aside (LgK B w (Own a b fv.ownBlock none) w13 a (Y.add W) W) := h11
    clear h11 hLx
    go_wp2_with fail
    refine g14.mono ?_
    rintro e w14 ⟨rfl, b14⟩
    have H14 : Aside (LgK B w (Own a b fv.ownBlock none) w14 a (Y.add W) W) := H11.out.below b14
    clear g14 b14 H11
    obtain ⟨by', fy, wy, hLy, _⟩ := H14.out.ex
    have g15 := Lg.copied1 hLy HSO.out.1 (T.out w14 H14.out.bel).1 (T.out w14 H14.out.bel).2
    clear hLy
    generalize Dk.of (Y.add W).las.flatten = X at *
    go_wp2_with fail
    rename_i K hK K1 hK1
    have HK : Aside (∀ a w, _ → K a w) := hK
    clear hK
    refine g15.mono ?_
    rintro e w15 ⟨a15, rfl, h15⟩
    have H15 : Aside (Lg w14 w15 a15 X []) := h15
    clear g15 h15
    go_wp2
    refine HK.out _ _ ?_
    clear HK
    refine wp_seq_k ?_
    intro K4 hK4
    have HK4 : Aside (∀ a w, _ → K4 a w) := hK4
    clear hK4
    go_wp2
    refine HK4.out _ _ ?_
    rw [← HQ.out]
    have hBz := H14.out.bel
    exact cr33_of a15 X vo _ vf 3 wB w14 w15 HY.out.2.2.2.2.2.1 (.inl rfl) h0 hW hE HG.out.2.2.2.2.2.2.2 H15.out HSO.out.2 (HS.out.2.2.1.below hBz) (LS.of_row (H14.out.row HR.out.1 HR.out.2.1)) (HS.out.2.2.2.1.below hBz) (HS.out.2.2.2.2.1.trans (hBz.mono HS.out.2.2.2.2.1.size)) (T.out w14 hBz).1 (T.out w14 hBz).2
  · have g11 := h10.flush HY.out.2.2.2.1 HY.out.1 HG.out.2.2.2.2.2.2.2 (by rw [HY.out.2.1]; omega) HY.out.2.2.1 h0 hc1 HS.out.2.2.2.2.2.2.1 HS.out.2.2.2.2.2.2.2
    clear hc1 h10
    go_wp2_with fail
    refine g11.mono ?_
    rintro e w11 ⟨q, rfl, h11⟩
    clear g11
    have g12 := h11.acts
    rw [HY.out.2.2.2.2.1] at g12
    go_wp2_with fail
    refine g12.mono ?_
    rintro e w12 ⟨rfl, rfl⟩
    clear g12
    have g13 := obeys_end k w12
    go_wp2_with fail
    refine g13.mono ?_
    rintro e w13 ⟨rfl, rfl⟩
    clear g13
    have H14 : Aside (LgK B w (Own a b fv.ownBlock none) w13 a (Y.add W) []) := h11
    clear h11
    obtain ⟨by', fy, wy, hLy, _⟩ := H14.out.ex
    have g15 := Lg.copied1 hLy HSO.out.1 (T.out w13 H14.out.bel).1 (T.out w13 H14.out.bel).2
    clear hLy
    generalize Dk.of (Y.add W).las.flatten = X at *
    go_wp2_with fail
    rename_i K hK K1 hK1
    have HK : Aside (∀ a w, _ → K a w) := hK
    clear hK
    refine g15.mono ?_
    rintro e w15 ⟨a15, rfl, h15⟩
    have H15 : Aside (Lg w13 w15 a15 X []) := h15
    clear g15 h15
    go_wp2
    refine HK.out _ _ ?_
    clear HK
    refine wp_seq_k ?_
    intro K4 hK4
    have HK4 : Aside (∀ a w, _ → K4 a w) := hK4
    clear hK4
    go_wp2
    refine HK4.out _ _ ?_
    rw [← HQ.out]
    have hBz := H14.out.bel
    exact cr33_of a15 X vo _ vf 0 wB w13 w15 HY.out.2.2.2.2.2.1 (HY.out.2.2.2.2.2.2.elim (fun h => by omega) (fun h => .inr ⟨rfl, h.2⟩)) h0 hW hE HG.out.2.2.2.2.2.2.2 H15.out HSO.out.2 (HS.out.2.2.1.below hBz) (LS.of_row (H14.out.row HR.out.1 HR.out.2.1)) (HS.out.2.2.2.1.below hBz) (HS.out.2.2.2.2.1.trans (hBz.mono HS.out.2.2.2.2.1.size)) (T.out w13 hBz).1 (T.out w13 hBz).2
end Go.Proofs.YtlhohmlpcgbliaaDoor
namespace Go.Proofs.YtlhohmlpcgbliaaDoor
set_option maxRecDepth 100000
open Go.RowKit
attribute [local go_sem ↓] Go.wp_at_zero Go.wp_at_succ

theorem groF_acts {g : Nat → Nat} (hg : ∀ k, g k ≤ 12) : ∀ (f k : Nat) (D : Dk) (l E : List ByteArray), Holds D E → E.length + l.length ≤ 64 → (∀ s ∈ l, s.size ≤ 40) → 0 ≤ D.acts → D.acts + 10000 * (f : Int) ≤ 1000000 → 0 ≤ (groF g f k D l).acts ∧ (groF g f k D l).acts ≤ D.acts + 10000 * (f : Int) := by
  intro f
  induction f with
  | zero => intro k D l E _ _ _ h0 _; exact ⟨h0, by show D.acts ≤ _; omega⟩
  | succ f ih =>
    intro k D l E hH hl hz h0 h1
    rw [groF]
    split
    · exact ⟨h0, by omega⟩
    · have hgk := hg k
      have hlen : (l.take (min (g k) l.length)).length ≤ 12 := by rw [List.length_take]; omega
      have hz2 : ∀ s ∈ l.take (min (g k) l.length), s.size ≤ 40 := fun s hs => hz s (List.mem_of_mem_take hs)
      have hle : E.length + (l.take (min (g k) l.length)).length ≤ 64 := by rw [List.length_take]; omega
      have hA := add_spec hH hlen hz2 hle
      have ha := nf_add_acts hH.nf (l.take (min (g k) l.length)) (by rw [hH.ckN]; omega) h0 (by omega)
      have hb := (adA_len (R := D) (ss := l.take (min (g k) l.length)) (by rw [hH.ckN]; omega)).2
      have h9 := ih (k + 1) (D.add (l.take (min (g k) l.length))) (l.drop (min (g k) l.length)) _ hA (by rw [List.length_append, List.length_take, List.length_drop]; omega) (fun s hs => hz s (List.mem_of_mem_drop hs)) (by rw [ha]; omega) (by rw [ha]; omega)
      rw [ha] at h9
      exact ⟨h9.1, by omega⟩
theorem RawG.le {w : World} {gv : Value} {g : Nat → Nat} (h : RawG w gv g) : ∀ k, g k ≤ 12 := by
  obtain ⟨p, rn, rc, _, h1, h2⟩ := h
  intro k
  by_cases hk : k < rn
  · obtain ⟨gb, go', cv, _, _, _, _, h3⟩ := h1 k hk
    have := pickV_lt cv 12 (by omega)
    omega
  · rw [h2 k (by omega)]; exact Nat.le_refl _
set_option maxHeartbeats 1000000 in
theorem grownNilG (gv : Value) (w : World) (ht : Table w) (hg : 2 < w.heap.size) :
    Calls Tryd.prog 35 #[.slice none 0 0, gv] w fun e w' => ∃ (a b : Nat), e = .returned (.pointer (some ⟨a, 0, none⟩)) ∧ LogAt w' a b (.slice none 0 0) (.slice none 0 0) Dk.fresh [] ∧ Below w.heap.size w w' ∧ w.heap.size ≤ a ∧ w.heap.size ≤ b := by
  have hnew := groveNew_any w ht hg
  go_enter Tryd.func35, Tryd.ntmps35
  go_wp2_with fail
  refine hnew.mono ?_
  rintro e w1 ⟨a, b, rfl, ha, hb, hL1, hb1⟩
  clear hnew
  go_wp2_with fail
  go_loopw [0, 6] (fun l _ wr => l = .slice none 0 0 ∧ wr = w1) (fun _ _ _ => 0)
  case atStart => exact ⟨rfl, rfl⟩
  case round =>
    obtain ⟨rfl, rfl⟩ := hrel
    go_wp2
    go_ret
    exact ⟨a, b, rfl, hL1, hb1, ha, hb⟩
theorem grownLG (v gv : Value) (ts : List ByteArray) (w : World) (hS : LS w v ts) (hl : ts.length ≤ 52) (hz : ∀ s ∈ ts, s.size ≤ 40) (hR : RawI w gv) (ht : Table w) (hg : 2 < w.heap.size) :
    Calls Tryd.prog 35 #[v, gv] w fun e w' => ∃ (a b : Nat) (fv : Value) (D : Dk), e = .returned (.pointer (some ⟨a, 0, none⟩)) ∧ LogAt w' a b fv (.slice none 0 0) D [] ∧ Holds D ts ∧ Below w.heap.size w w' ∧ w.heap.size ≤ a ∧ w.heap.size ≤ b ∧ (∀ k, fv.ownBlock = some k → w.heap.size ≤ k) ∧ 0 ≤ D.acts ∧ D.acts ≤ 1000000 := by
  rcases hS with ⟨rfl, rfl⟩ | ⟨cb, co, cc, rfl, hSA, hcb, hcc⟩
  · refine (grownNilG gv w ht hg).mono ?_
    rintro e w' ⟨a, b, rfl, hL, hb, ha, hbb⟩
    exact ⟨a, b, _, _, rfl, hL, fresh_holds, hb, ha, hbb, fun k hk => by simp [Value.ownBlock] at hk, Int.le_refl _, by show (0 : Int) ≤ _; omega⟩
  · obtain ⟨g, hG⟩ := hR.groups
    refine (grownG_any cb co cc gv ts w hSA hcb hcc (by omega) hz g hG ht hg).mono ?_
    rintro e w' ⟨a, b, fv, D, rfl, hL, hH, hD, hb, ha, hbb, hf⟩
    have h1 := groF_acts hG.le ts.length 0 Dk.fresh ts [] fresh_holds (by simp; omega) hz (Int.le_refl _) (by show (0 : Int) + _ ≤ _; omega)
    rw [← hD] at h1
    have h2 : D.acts ≤ 0 + 10000 * (ts.length : Int) := h1.2
    exact ⟨a, b, fv, D, rfl, hL, hH, hb, ha, hbb, hf, h1.1, by omega⟩

set_option maxHeartbeats 8000000 in
theorem cr7_wp {c0 c2 c3 c5 c6 c7 c9 c10 c13 c14 c15 c16 c17 c18 c19 c20 c21 c22 c23 c24 c25 c26 c27 c28 c29 c30 c31 c32 c33 c34 c35 c36 c37 c38 c39 c40 c41 c42 c43 c44 c45 c46 c47 c48 c49 c50 c51 c52 c53 c54 c55 c56 c57 c58 c59 c60 c61 c62 c63 c64 c65 c66 c67 c68 c69 c70 c71 c72 c73 c74 c75 c76 c77 c78 c79 c80 c81 c82 c83 c84 c85 c86 c87 c88 c89 c90 c91 c92 c93 c94 c95 c96 c97 c98 c99 c100 c101 c102 c103 c104 c105 c106 c107 c108 c109 c110 c111 c112 c113 c114 c115 c116 c117 c118 c119 c120 c121 c122 c123 c124 c125 c126 c127 c128 c129 c130 c131 c132 c133 c134 c135 c136 c137 c138 c139 c140 c141 c142 c143 c144 c145 c146 c147 c148 c149 c150 c151 c152 c153 c154 c155 c156 c157 c158 c159 c160 c161 c162 c163 c164 c165 c166 c167 c168 c169 c170 c171 c172 c173 c174 c175 c176 c177 c178 c179 c180 c181 c182 c183 c184 c185 c186 c187 c188 c189 c190 c191 c192 c193 c194 c195 c196 c197 c198 c199 c200 c201 c202 c203 c204 c205 c206 c207 c208 c209 c210 c211 c212 c213 c214 c215 c216 c217 c218 c219 c220 c221 c222 c223 c224 c225 c226 c227 c228 c229 c230 c231 c232 c233 c234 c235 c236 c237 c238 c239 c240 c241 c242 c243 c244 c245 c246 c247 c248 : Value} {E W : List ByteArray} (vo gv vf : Value) (cb co cc fb : Nat) (f1 f2 : Int) (wB w : World) (h0 : 0 < W.length) (hW : W.length ≤ 11) (hE : E.length ≤ 52) (hzE : ∀ s ∈ E, s.size ≤ 40) (hz : ∀ s ∈ W, s.size ≤ 40) (ho : LS w vo E) (hSA : SA w cb co W) (hcb : cb < w.heap.size) (hcc : W.length ≤ cc) (hG : RawI w gv) (hR : RawF w vf) (hc1 : w.cell? ⟨fb, 0, none⟩ = some (.int .i64 f1)) (hc2 : w.cell? ⟨fb, 1, none⟩ = some (.int .i64 f2)) (hf1 : -9223372036854775808 ≤ f1 ∧ f1 ≤ 9223372036854775807)
    (hB : Below wB.heap.size wB w) (ht : Table w) (hg : 2 < w.heap.size) :
    Code.wp Tryd.prog (sfxD Tryd.f12 7) (crQ wB) ⟨#[c0, gv, c2, c3, vf, c5, c6, c7, .pointer (some ⟨fb, 0, none⟩), c9, c10, vo, .slice (some ⟨cb, co, none⟩) W.length cc, c13, c14, c15, c16, c17, c18, c19, c20, c21, c22, c23, c24, c25, c26, c27, c28, c29, c30, c31, c32, c33, c34, c35, c36, c37, c38, c39, c40, c41, c42, c43, c44, c45, c46, c47, c48, c49, c50, c51, c52, c53, c54, c55, c56, c57, c58, c59, c60, c61, c62, c63, c64, c65, c66, c67, c68, c69, c70, c71, c72, c73, c74, c75, c76, c77, c78, c79, c80, c81, c82, c83, c84, c85, c86, c87, c88, c89, c90, c91, c92, c93, c94, c95, c96, c97, c98, c99, c100, c101, c102, c103, c104, c105, c106, c107, c108, c109, c110, c111, c112, c113, c114, c115, c116, c117, c118, c119, c120, c121, c122, c123, c124, c125, c126, c127, c128, c129, c130, c131, c132, c133, c134, c135, c136, c137, c138, c139, c140, c141, c142, c143, c144, c145, c146, c147, c148, c149, c150, c151, c152, c153, c154, c155, c156, c157, c158, c159, c160, c161, c162, c163, c164, c165, c166, c167, c168, c169, c170, c171, c172, c173, c174, c175, c176, c177, c178, c179, c180, c181, c182, c183, c184, c185, c186, c187, c188, c189, c190, c191, c192, c193, c194, c195, c196, c197, c198, c199, c200, c201, c202, c203, c204, c205, c206, c207, c208, c209, c210, c211, c212, c213, c214, c215, c216, c217, c218, c219, c220, c221, c222, c223, c224, c225, c226, c227, c228, c229, c230, c231, c232, c233, c234, c235, c236, c237, c238, c239, c240, c241, c242, c243, c244, c245, c246, c247, c248], []⟩ w := by
  conv => arg 2; whnf
  generalize hQ : crQ wB = Q
  have HQ : Aside (crQ wB = Q) := hQ
  clear hQ
  have g1 := grownLG vo gv E w ho hE hzE hG ht hg
  have HG : Aside (LS w vo E ∧ SA w cb co W ∧ cb < w.heap.size ∧ RawF w vf ∧ w.cell? ⟨fb, 0, none⟩ = some (.int .i64 f1) ∧ w.cell? ⟨fb, 1, none⟩ = some (.int .i64 f2) ∧ (-9223372036854775808 ≤ f1 ∧ f1 ≤ 9223372036854775807) ∧ Below wB.heap.size wB w ∧ Table w ∧ 2 < w.heap.size ∧ (∀ s ∈ W, s.size ≤ 40) ∧ W.length ≤ cc) := ⟨ho, hSA, hcb, hR, hc1, hc2, hf1, hB, ht, hg, hz, hcc⟩
  clear ho hSA hcb hcc hG hR hc1 hc2 hf1 hB ht hg hz hzE
  go_wp2_with fail
  rename_i K hK K1 hK1
  have HK : Aside (∀ a w, _ → K a w) := hK
  clear hK
  refine g1.mono ?_
  rintro e w1 ⟨a, b, fv, D, rfl, hL, hH, b1, ha, hb, hf, hac, hac2⟩
  have HL : Aside (LogAt w1 a b fv (.slice none 0 0) D [] ∧ Holds D E ∧ Below w.heap.size w w1 ∧ 0 ≤ D.acts ∧ D.acts ≤ 1000000 ∧ ∀ j, Own a b fv.ownBlock none j → w.heap.size ≤ j) := ⟨hL, hH, b1, hac, hac2, fun j hj => by
    rcases hj with e | e | e | e
    · rw [e]; exact ha
    · rw [e]; exact hb
    · exact hf j e
    · cases e⟩
  clear g1 hL hH b1 ha hb hf hac hac2
  go_wp2
  refine HK.out _ _ ?_
  clear HK
  refine wp_seq_k ?_
  intro K4 hK4
  have HK4 : Aside (∀ a w, _ → K4 a w) := hK4
  clear hK4
  go_wp2
  refine HK4.out _ _ ?_
  clear HK4
  refine wp_seq_k ?_
  intro K4 hK4
  have HK4 : Aside (∀ a w, _ → K4 a w) := hK4
  clear hK4
  go_wp2
  refine HK4.out _ _ ?_
  clear HK4
  refine wp_seq_k ?_
  intro K4 hK4
  have HK4 : Aside (∀ a w, _ → K4 a w) := hK4
  clear hK4
  have hLS := HG.out.1.below HL.out.2.2.1
  have hr0 : Row w1 w1.heap.size 9 (.slice none 0 0) (strv []) := World.ownsRow_nil _ _ _ _
  have hb0 : Below w1.heap.size w1 w1 := Below.refl _ _
  go_wp2_with (at_builtin; refine wpList_appLS (by rfl) (.tmp 61) (.tmp 62) (by rfl) w1.heap.size _ vo [] E (by rfl) hr0 (by rfl) hLS ?hl ?hb (w0 := w1) (B := w1.heap.size) hb0 (Nat.le_refl _) ?_)
  case hl => simp; omega
  case hb => exact Nat.le_refl _
  intro v2 w2 hr2 hb2
  have hr2' : Row w2 w1.heap.size 9 v2 (strv E) := hr2
  clear hLS hr0 hb0 hr2
  have H2 : Aside (Row w2 w1.heap.size 9 v2 (strv E) ∧ Below w1.heap.size w1 w2) := ⟨hr2', hb2⟩
  clear hr2' hb2
  go_wp2
  refine HK4.out _ _ ?_
  clear HK4
  refine wp_seq_k ?_
  intro K4 hK4
  have HK4 : Aside (∀ a w, _ → K4 a w) := hK4
  clear hK4
  have hb2 := H2.out.2
  have hr2 := H2.out.1
  have hbw : Below w.heap.size w w2 := HL.out.2.2.1.trans (hb2.mono HL.out.2.2.1.size)
  have hLS : LS w2 (.slice (some ⟨cb, co, none⟩) W.length cc) W := .inr ⟨cb, co, cc, rfl, HG.out.2.1.below hbw, Nat.lt_of_lt_of_le HG.out.2.2.1 hbw.size, HG.out.2.2.2.2.2.2.2.2.2.2.2⟩
  go_wp2_with (at_builtin; refine wpList_appLS (by rfl) (.tmp 64) (.tmp 65) (by rfl) w1.heap.size _ _ E W (by rfl) hr2 (by rfl) hLS ?hl2 ?hb2 (w0 := w1) (B := w1.heap.size) hb2 (Nat.le_refl _) ?_)
  case hl2 => omega
  case hb2 => exact hb2.size
  intro v3 w3 hr3 hb3
  have H3 : Aside (Row w3 w1.heap.size 9 v3 (strv (E ++ W)) ∧ Below w1.heap.size w1 w3) := ⟨hr3, hb3⟩
  clear hb2 hr2 hbw hLS hr3 hb3 H2
  go_wp2
  refine HK4.out _ _ ?_
  clear HK4
  rw [← HQ.out]
  have hL3 := HL.out.1.below H3.out.2
  exact cr13_wp a b fv D vo v3 vf cb co cc fb w1.heap.size f1 f2 wB w w3 hL3 HL.out.2.1 HL.out.2.2.2.1 HL.out.2.2.2.2.1 HL.out.2.2.2.2.2 HL.out.1.lt H3.out.1 h0 hW hE HG.out.2.2.2.2.2.2.2.2.2.2.1 HG.out.1 HG.out.2.1 HG.out.2.2.1 HG.out.2.2.2.1 HG.out.2.2.2.2.1 HG.out.2.2.2.2.2.1 HG.out.2.2.2.2.2.2.1 (HL.out.2.2.1.trans (H3.out.2.mono HL.out.2.2.1.size)) HG.out.2.2.2.2.2.2.2.1 HG.out.2.2.2.2.2.2.2.2.1 HG.out.2.2.2.2.2.2.2.2.2.1
end Go.Proofs.YtlhohmlpcgbliaaDoor
namespace Go.Proofs.YtlhohmlpcgbliaaDoor
set_option maxRecDepth 100000
open Go.RowKit
attribute [local go_sem ↓] Go.wp_at_zero Go.wp_at_succ


theorem row_sliceK {w : World} {base : Nat} {v : Value} {ss : List ByteArray} (h : Row w base 9 v (strv ss)) (h0 : 0 < ss.length) : ∃ g cap, v = .slice (some ⟨g, 0, none⟩) ss.length cap ∧ ss.length ≤ cap ∧ SA w g 0 ss := by
  obtain ⟨g, cap, rfl, h2, h3, h4, hc, _⟩ := h.form (by rw [strv_length]; exact h0)
  rw [strv_length] at h h3
  exact ⟨g, cap, by rw [strv_length], by omega, SA.of_row h h0⟩

set_option maxHeartbeats 8000000 in
theorem cr4_wp {c0 c3 c5 c6 c7 c9 c10 c12 c13 c14 c15 c16 c17 c18 c19 c20 c21 c22 c23 c24 c25 c26 c27 c28 c29 c30 c31 c32 c33 c34 c35 c36 c37 c38 c39 c40 c41 c42 c43 c44 c45 c46 c47 c48 c49 c50 c51 c52 c53 c54 c55 c56 c57 c58 c59 c60 c61 c62 c63 c64 c65 c66 c67 c68 c69 c70 c71 c72 c73 c74 c75 c76 c77 c78 c79 c80 c81 c82 c83 c84 c85 c86 c87 c88 c89 c90 c91 c92 c93 c94 c95 c96 c97 c98 c99 c100 c101 c102 c103 c104 c105 c106 c107 c108 c109 c110 c111 c112 c113 c114 c115 c116 c117 c118 c119 c120 c121 c122 c123 c124 c125 c126 c127 c128 c129 c130 c131 c132 c133 c134 c135 c136 c137 c138 c139 c140 c141 c142 c143 c144 c145 c146 c147 c148 c149 c150 c151 c152 c153 c154 c155 c156 c157 c158 c159 c160 c161 c162 c163 c164 c165 c166 c167 c168 c169 c170 c171 c172 c173 c174 c175 c176 c177 c178 c179 c180 c181 c182 c183 c184 c185 c186 c187 c188 c189 c190 c191 c192 c193 c194 c195 c196 c197 c198 c199 c200 c201 c202 c203 c204 c205 c206 c207 c208 c209 c210 c211 c212 c213 c214 c215 c216 c217 c218 c219 c220 c221 c222 c223 c224 c225 c226 c227 c228 c229 c230 c231 c232 c233 c234 c235 c236 c237 c238 c239 c240 c241 c242 c243 c244 c245 c246 c247 c248 : Value} {E : List ByteArray} (vo gv vf vm : Value) (ms : List ByteArray) (fb : Nat) (f1 f2 : Int) (wB w : World) (hE : E.length ≤ 52) (hzE : ∀ s ∈ E, s.size ≤ 40) (ho : LS w vo E) (hM : Strs w vm ms) (hmn : ms.length ≤ 140737488355328) (hmz : ∀ s ∈ ms, s.size ≤ 140737488355328) (hG : RawI w gv) (hR : RawF w vf) (hc1 : w.cell? ⟨fb, 0, none⟩ = some (.int .i64 f1)) (hc2 : w.cell? ⟨fb, 1, none⟩ = some (.int .i64 f2)) (hf1 : -9223372036854775808 ≤ f1 ∧ f1 ≤ 9223372036854775807)
    (hB : Below wB.heap.size wB w) (ht : Table w) (hg : 2 < w.heap.size) :
    Code.wp Tryd.prog (sfxD Tryd.f12 4) (crQ wB) ⟨#[c0, gv, vm, c3, vf, c5, c6, c7, .pointer (some ⟨fb, 0, none⟩), c9, c10, vo, c12, c13, c14, c15, c16, c17, c18, c19, c20, c21, c22, c23, c24, c25, c26, c27, c28, c29, c30, c31, c32, c33, c34, c35, c36, c37, c38, c39, c40, c41, c42, c43, c44, c45, c46, c47, c48, c49, c50, c51, c52, c53, c54, c55, c56, c57, c58, c59, c60, c61, c62, c63, c64, c65, c66, c67, c68, c69, c70, c71, c72, c73, c74, c75, c76, c77, c78, c79, c80, c81, c82, c83, c84, c85, c86, c87, c88, c89, c90, c91, c92, c93, c94, c95, c96, c97, c98, c99, c100, c101, c102, c103, c104, c105, c106, c107, c108, c109, c110, c111, c112, c113, c114, c115, c116, c117, c118, c119, c120, c121, c122, c123, c124, c125, c126, c127, c128, c129, c130, c131, c132, c133, c134, c135, c136, c137, c138, c139, c140, c141, c142, c143, c144, c145, c146, c147, c148, c149, c150, c151, c152, c153, c154, c155, c156, c157, c158, c159, c160, c161, c162, c163, c164, c165, c166, c167, c168, c169, c170, c171, c172, c173, c174, c175, c176, c177, c178, c179, c180, c181, c182, c183, c184, c185, c186, c187, c188, c189, c190, c191, c192, c193, c194, c195, c196, c197, c198, c199, c200, c201, c202, c203, c204, c205, c206, c207, c208, c209, c210, c211, c212, c213, c214, c215, c216, c217, c218, c219, c220, c221, c222, c223, c224, c225, c226, c227, c228, c229, c230, c231, c232, c233, c234, c235, c236, c237, c238, c239, c240, c241, c242, c243, c244, c245, c246, c247, c248], []⟩ w := by
  conv => arg 2; whnf
  generalize hQ : crQ wB = Q
  have HQ : Aside (crQ wB = Q) := hQ
  clear hQ
  have g1 := entriesE_any vm ms w hM hmn hmz
  have HG : Aside (LS w vo E ∧ RawI w gv ∧ RawF w vf ∧ w.cell? ⟨fb, 0, none⟩ = some (.int .i64 f1) ∧ w.cell? ⟨fb, 1, none⟩ = some (.int .i64 f2) ∧ (-9223372036854775808 ≤ f1 ∧ f1 ≤ 9223372036854775807) ∧ Below wB.heap.size wB w ∧ Table w ∧ 2 < w.heap.size ∧ (∀ s ∈ E, s.size ≤ 40)) := ⟨ho, hG, hR, hc1, hc2, hf1, hB, ht, hg, hzE⟩
  clear ho hM hmn hmz hG hR hc1 hc2 hf1 hB ht hg hzE
  have FIN : Aside (∀ {c0 c2 c3 c5 c6 c7 c9 c10 c13 c14 c15 c16 c17 c18 c19 c20 c21 c22 c23 c24 c25 c26 c27 c28 c29 c30 c31 c32 c33 c34 c35 c36 c37 c38 c39 c40 c41 c42 c43 c44 c45 c46 c47 c48 c49 c50 c51 c52 c53 c54 c55 c56 c57 c58 c59 c60 c61 c62 c63 c64 c65 c66 c67 c68 c69 c70 c71 c72 c73 c74 c75 c76 c77 c78 c79 c80 c81 c82 c83 c84 c85 c86 c87 c88 c89 c90 c91 c92 c93 c94 c95 c96 c97 c98 c99 c100 c101 c102 c103 c104 c105 c106 c107 c108 c109 c110 c111 c112 c113 c114 c115 c116 c117 c118 c119 c120 c121 c122 c123 c124 c125 c126 c127 c128 c129 c130 c131 c132 c133 c134 c135 c136 c137 c138 c139 c140 c141 c142 c143 c144 c145 c146 c147 c148 c149 c150 c151 c152 c153 c154 c155 c156 c157 c158 c159 c160 c161 c162 c163 c164 c165 c166 c167 c168 c169 c170 c171 c172 c173 c174 c175 c176 c177 c178 c179 c180 c181 c182 c183 c184 c185 c186 c187 c188 c189 c190 c191 c192 c193 c194 c195 c196 c197 c198 c199 c200 c201 c202 c203 c204 c205 c206 c207 c208 c209 c210 c211 c212 c213 c214 c215 c216 c217 c218 c219 c220 c221 c222 c223 c224 c225 c226 c227 c228 c229 c230 c231 c232 c233 c234 c235 c236 c237 c238 c239 c240 c241 c242 c243 c244 c245 c246 c247 c248 : Value} (w' : World) (W : List ByteArray) (cb co cc l : Nat), W.length = l → Below w.heap.size w w' → 0 < W.length → W.length ≤ 11 → (∀ s ∈ W, s.size ≤ 40) → SA w' cb co W → cb < w'.heap.size → W.length ≤ cc → Code.wp Tryd.prog (sfxD Tryd.f12 7) (crQ wB) ⟨#[c0, gv, c2, c3, vf, c5, c6, c7, .pointer (some ⟨fb, 0, none⟩), c9, c10, vo, .slice (some ⟨cb, co, none⟩) l cc, c13, c14, c15, c16, c17, c18, c19, c20, c21, c22, c23, c24, c25, c26, c27, c28, c29, c30, c31, c32, c33, c34, c35, c36, c37, c38, c39, c40, c41, c42, c43, c44, c45, c46, c47, c48, c49, c50, c51, c52, c53, c54, c55, c56, c57, c58, c59, c60, c61, c62, c63, c64, c65, c66, c67, c68, c69, c70, c71, c72, c73, c74, c75, c76, c77, c78, c79, c80, c81, c82, c83, c84, c85, c86, c87, c88, c89, c90, c91, c92, c93, c94, c95, c96, c97, c98, c99, c100, c101, c102, c103, c104, c105, c106, c107, c108, c109, c110, c111, c112, c113, c114, c115, c116, c117, c118, c119, c120, c121, c122, c123, c124, c125, c126, c127, c128, c129, c130, c131, c132, c133, c134, c135, c136, c137, c138, c139, c140, c141, c142, c143, c144, c145, c146, c147, c148, c149, c150, c151, c152, c153, c154, c155, c156, c157, c158, c159, c160, c161, c162, c163, c164, c165, c166, c167, c168, c169, c170, c171, c172, c173, c174, c175, c176, c177, c178, c179, c180, c181, c182, c183, c184, c185, c186, c187, c188, c189, c190, c191, c192, c193, c194, c195, c196, c197, c198, c199, c200, c201, c202, c203, c204, c205, c206, c207, c208, c209, c210, c211, c212, c213, c214, c215, c216, c217, c218, c219, c220, c221, c222, c223, c224, c225, c226, c227, c228, c229, c230, c231, c232, c233, c234, c235, c236, c237, c238, c239, c240, c241, c242, c243, c244, c245, c246, c247, c248], []⟩ w') := by
    intro c0 c2 c3 c5 c6 c7 c9 c10 c13 c14 c15 c16 c17 c18 c19 c20 c21 c22 c23 c24 c25 c26 c27 c28 c29 c30 c31 c32 c33 c34 c35 c36 c37 c38 c39 c40 c41 c42 c43 c44 c45 c46 c47 c48 c49 c50 c51 c52 c53 c54 c55 c56 c57 c58 c59 c60 c61 c62 c63 c64 c65 c66 c67 c68 c69 c70 c71 c72 c73 c74 c75 c76 c77 c78 c79 c80 c81 c82 c83 c84 c85 c86 c87 c88 c89 c90 c91 c92 c93 c94 c95 c96 c97 c98 c99 c100 c101 c102 c103 c104 c105 c106 c107 c108 c109 c110 c111 c112 c113 c114 c115 c116 c117 c118 c119 c120 c121 c122 c123 c124 c125 c126 c127 c128 c129 c130 c131 c132 c133 c134 c135 c136 c137 c138 c139 c140 c141 c142 c143 c144 c145 c146 c147 c148 c149 c150 c151 c152 c153 c154 c155 c156 c157 c158 c159 c160 c161 c162 c163 c164 c165 c166 c167 c168 c169 c170 c171 c172 c173 c174 c175 c176 c177 c178 c179 c180 c181 c182 c183 c184 c185 c186 c187 c188 c189 c190 c191 c192 c193 c194 c195 c196 c197 c198 c199 c200 c201 c202 c203 c204 c205 c206 c207 c208 c209 c210 c211 c212 c213 c214 c215 c216 c217 c218 c219 c220 c221 c222 c223 c224 c225 c226 c227 c228 c229 c230 c231 c232 c233 c234 c235 c236 c237 c238 c239 c240 c241 c242 c243 c244 c245 c246 c247 c248 w' W cb co cc l hl hb h0 hW hz hS hcb hcc
    subst hl
    exact cr7_wp vo gv vf cb co cc fb f1 f2 wB w' h0 hW hE HG.out.2.2.2.2.2.2.2.2.2 hz (HG.out.1.below hb) hS hcb hcc (HG.out.2.1.below hb) (HG.out.2.2.1.below hb) (by rw [hb.cell (World.block_lt_of_cell? _ _ HG.out.2.2.2.1)]; exact HG.out.2.2.2.1) (by rw [hb.cell (World.block_lt_of_cell? _ _ HG.out.2.2.2.2.1)]; exact HG.out.2.2.2.2.1) HG.out.2.2.2.2.2.1 (HG.out.2.2.2.2.2.2.1.trans (hb.mono HG.out.2.2.2.2.2.2.1.size)) (table_at hb HG.out.2.2.2.2.2.2.2.2.1 HG.out.2.2.2.2.2.2.2.1) (Nat.lt_of_lt_of_le HG.out.2.2.2.2.2.2.2.2.1 hb.size)
  go_wp2_with fail
  rename_i K hK K1 hK1
  have HK : Aside (∀ a w, _ → K a w) := hK
  clear hK
  refine g1.mono ?_
  rintro e w1 ⟨v1, ts, rfl, hrow, hl64, htz, b1⟩
  clear g1
  have hB5 : Blk (w1.alloc (.cells #[.string ⟨#[108, 97, 115, 116]⟩] 9)) w1.heap.size 9 [.string ⟨#[108, 97, 115, 116]⟩] := Blk.new w1 9 [.string ⟨#[108, 97, 115, 116]⟩]
  have hLS : LS (w1.alloc (.cells #[.string ⟨#[108, 97, 115, 116]⟩] 9)) (.slice (some ⟨w1.heap.size, 0, none⟩) 1 1) [⟨#[108, 97, 115, 116]⟩] := .inr ⟨w1.heap.size, 0, 1, rfl, SA.of_blk (ss := [⟨#[108, 97, 115, 116]⟩]) hB5, hB5.lt, by simp⟩
  have hb5 : Below w.heap.size w (w1.alloc (.cells #[.string ⟨#[108, 97, 115, 116]⟩] 9)) := b1.alloc b1.size _
  have hr5 := hrow.alloc (.cells #[.string ⟨#[108, 97, 115, 116]⟩] 9)
  clear hrow hB5
  dsimp only
  go_wp2_with (at_builtin; (refine wpList_appLS (by rfl) (.tmp 48) (.tmp 49) (by rfl) w.heap.size _ _ ts [⟨#[108, 97, 115, 116]⟩] (by rfl) hr5 (by rfl) hLS ?hl2 ?hb2 (w0 := w) (B := w.heap.size) hb5 (Nat.le_refl _) ?_))
  case hl2 => simp; omega
  case hb2 => exact hb5.size
  intro v2 w2 hr2 hb2
  clear hLS hb5 hr5 b1
  have hl2 : (ts ++ [(⟨#[108, 97, 115, 116]⟩ : ByteArray)]).length = ts.length + 1 := by simp
  have hz2 : ∀ s ∈ ts ++ [(⟨#[108, 97, 115, 116]⟩ : ByteArray)], s.size ≤ 40 := by
    intro s hs
    rcases List.mem_append.1 hs with h | h
    · exact htz s h
    · rw [List.mem_singleton.1 h]; decide
  generalize ts ++ [(⟨#[108, 97, 115, 116]⟩ : ByteArray)] = us at *
  obtain ⟨g, cap, rfl, hcap, hSA⟩ := row_sliceK hr2 (by omega)
  have hgl : g < w2.heap.size := World.block_lt_of_cell? _ _ (hSA 0 _ (List.getElem?_eq_getElem (by omega)))
  have H2 : Aside (Below w.heap.size w w2 ∧ SA w2 g 0 us ∧ g < w2.heap.size ∧ us.length ≤ cap ∧ ∀ s ∈ us, s.size ≤ 40) := ⟨hb2, hSA, hgl, hcap, hz2⟩
  clear hr2 hb2 hSA hgl hz2 htz
  generalize hul : us.length = m at *
  have HU : Aside (us.length = m) := hul
  have hm0 : 0 < m := by omega
  clear hul hl2
  go_wp2
  refine HK.out _ _ ?_
  clear HK
  refine wp_seq_k ?_
  intro K4 hK4
  have HK4 : Aside (∀ a w, _ → K4 a w) := hK4
  clear hK4
  by_cases h11 : 11 < m
  · have h11' : (11 : Int) < (m : Int) := by omega
    have hsl : ∀ wx, (Instr.sliceAt 22 (.slice (some ⟨g, 0, none⟩) m cap) none (some (.int .i64 11)) none).run Tryd.prog wx = .ok (.slice (some ⟨g, 0, none⟩) 11 cap) wx := fun wx => slice_h wx g 0 m cap 11 (by omega)
    go_wp2
    refine HK4.out _ _ ?_
    rw [← HQ.out]
    have ht : (us.take 11).length = 11 := by rw [List.length_take, HU.out]; omega
    exact FIN.out w2 (us.take 11) g 0 cap 11 ht H2.out.1 (by omega) (by omega) (fun s hs => H2.out.2.2.2.2 s (List.mem_of_mem_take hs)) (H2.out.2.1.take 11) H2.out.2.2.1 (by omega)
  · have h11' : ¬ (11 : Int) < (m : Int) := by omega
    go_wp2
    refine HK4.out _ _ ?_
    rw [← HQ.out]
    exact FIN.out w2 us g 0 cap m HU.out H2.out.1 (by rw [HU.out]; omega) (by rw [HU.out]; omega) H2.out.2.2.2.2 H2.out.2.1 H2.out.2.2.1 (by rw [HU.out]; exact H2.out.2.2.2.1)
end Go.Proofs.YtlhohmlpcgbliaaDoor
namespace Go.Proofs.YtlhohmlpcgbliaaDoor
set_option maxRecDepth 100000
open Go.RowKit
attribute [local go_sem ↓] Go.wp_at_zero Go.wp_at_succ

set_option maxHeartbeats 4000000 in
theorem crashed_walk (v gv vm vf : Value) (ss ms : List ByteArray) (f1 f2 : Int) (w : World) (hS : Strs w v ss) (hn : ss.length ≤ 140737488355328) (hz : ∀ s ∈ ss, s.size ≤ 140737488355328) (hM : Strs w vm ms) (hmn : ms.length ≤ 140737488355328) (hmz : ∀ s ∈ ms, s.size ≤ 140737488355328) (hG : RawI w gv) (hR : RawF w vf) (hf1 : -9223372036854775808 ≤ f1 ∧ f1 ≤ 9223372036854775807) (ht : Table w) (hg : 2 < w.heap.size) :
    Calls Tryd.prog 12 #[v, gv, vm, .agg #[.int .i64 f1, .int .i64 f2], vf] w fun e w' => e = .returned (.bool true) ∧ Below w.heap.size w w' := by
  have hbx : Below w.heap.size w (w.alloc (.cells #[.int .i64 f1, .int .i64 f2] 73)) := (Below.refl _ _).alloc (Nat.le_refl _) _
  have hBx : Blk (w.alloc (.cells #[.int .i64 f1, .int .i64 f2] 73)) w.heap.size 73 [.int .i64 f1, .int .i64 f2] := Blk.new w 73 [.int .i64 f1, .int .i64 f2]
  have g3 := entriesE_any v ss _ (hS.below hbx) hn hz
  have HT : Aside (Below w.heap.size w (w.alloc (.cells #[.int .i64 f1, .int .i64 f2] 73)) ∧ (w.alloc (.cells #[.int .i64 f1, .int .i64 f2] 73)).cell? ⟨w.heap.size, 0, none⟩ = some (.int .i64 f1) ∧ (w.alloc (.cells #[.int .i64 f1, .int .i64 f2] 73)).cell? ⟨w.heap.size, 1, none⟩ = some (.int .i64 f2) ∧ Strs w vm ms ∧ RawI w gv ∧ RawF w vf ∧ Table w ∧ 2 < w.heap.size ∧ ms.length ≤ 140737488355328 ∧ (∀ s ∈ ms, s.size ≤ 140737488355328) ∧ (-9223372036854775808 ≤ f1 ∧ f1 ≤ 9223372036854775807)) := ⟨hbx, hBx.cell 0, hBx.cell 1, hM, hG, hR, ht, hg, hmn, hmz, hf1⟩
  clear hS hM hG hR ht hg hmn hmz hf1 hbx hBx hn hz
  go_enter Tryd.func12, Tryd.ntmps12
  go_wp2_with fail
  rename_i K hK K1 hK1
  have HK : Aside (∀ a w, _ → K a w) := hK
  clear hK
  generalize w.alloc (.cells #[.int .i64 f1, .int .i64 f2] 73) = w0 at *
  refine g3.mono ?_
  rintro e w3 ⟨v', ts, rfl, hrow, hl64, htz, b3⟩
  clear g3
  have hb3 := HT.out.1.trans (b3.mono HT.out.1.size)
  have FIN : Aside (∀ {c0 c3 c5 c6 c7 c9 c10 c12 c13 c14 c15 c16 c17 c18 c19 c20 c21 c22 c23 c24 c25 c26 c27 c28 c29 c30 c31 c32 c33 c34 c35 c36 c37 c38 c39 c40 c41 c42 c43 c44 c45 c46 c47 c48 c49 c50 c51 c52 c53 c54 c55 c56 c57 c58 c59 c60 c61 c62 c63 c64 c65 c66 c67 c68 c69 c70 c71 c72 c73 c74 c75 c76 c77 c78 c79 c80 c81 c82 c83 c84 c85 c86 c87 c88 c89 c90 c91 c92 c93 c94 c95 c96 c97 c98 c99 c100 c101 c102 c103 c104 c105 c106 c107 c108 c109 c110 c111 c112 c113 c114 c115 c116 c117 c118 c119 c120 c121 c122 c123 c124 c125 c126 c127 c128 c129 c130 c131 c132 c133 c134 c135 c136 c137 c138 c139 c140 c141 c142 c143 c144 c145 c146 c147 c148 c149 c150 c151 c152 c153 c154 c155 c156 c157 c158 c159 c160 c161 c162 c163 c164 c165 c166 c167 c168 c169 c170 c171 c172 c173 c174 c175 c176 c177 c178 c179 c180 c181 c182 c183 c184 c185 c186 c187 c188 c189 c190 c191 c192 c193 c194 c195 c196 c197 c198 c199 c200 c201 c202 c203 c204 c205 c206 c207 c208 c209 c210 c211 c212 c213 c214 c215 c216 c217 c218 c219 c220 c221 c222 c223 c224 c225 c226 c227 c228 c229 c230 c231 c232 c233 c234 c235 c236 c237 c238 c239 c240 c241 c242 c243 c244 c245 c246 c247 c248 : Value} (E : List ByteArray) (vo : Value), LS w3 vo E → E.length ≤ 52 → (∀ s ∈ E, s.size ≤ 40) → Code.wp Tryd.prog (sfxD Tryd.f12 4) (crQ w) ⟨#[c0, gv, vm, c3, vf, c5, c6, c7, .pointer (some ⟨w.heap.size, 0, none⟩), c9, c10, vo, c12, c13, c14, c15, c16, c17, c18, c19, c20, c21, c22, c23, c24, c25, c26, c27, c28, c29, c30, c31, c32, c33, c34, c35, c36, c37, c38, c39, c40, c41, c42, c43, c44, c45, c46, c47, c48, c49, c50, c51, c52, c53, c54, c55, c56, c57, c58, c59, c60, c61, c62, c63, c64, c65, c66, c67, c68, c69, c70, c71, c72, c73, c74, c75, c76, c77, c78, c79, c80, c81, c82, c83, c84, c85, c86, c87, c88, c89, c90, c91, c92, c93, c94, c95, c96, c97, c98, c99, c100, c101, c102, c103, c104, c105, c106, c107, c108, c109, c110, c111, c112, c113, c114, c115, c116, c117, c118, c119, c120, c121, c122, c123, c124, c125, c126, c127, c128, c129, c130, c131, c132, c133, c134, c135, c136, c137, c138, c139, c140, c141, c142, c143, c144, c145, c146, c147, c148, c149, c150, c151, c152, c153, c154, c155, c156, c157, c158, c159, c160, c161, c162, c163, c164, c165, c166, c167, c168, c169, c170, c171, c172, c173, c174, c175, c176, c177, c178, c179, c180, c181, c182, c183, c184, c185, c186, c187, c188, c189, c190, c191, c192, c193, c194, c195, c196, c197, c198, c199, c200, c201, c202, c203, c204, c205, c206, c207, c208, c209, c210, c211, c212, c213, c214, c215, c216, c217, c218, c219, c220, c221, c222, c223, c224, c225, c226, c227, c228, c229, c230, c231, c232, c233, c234, c235, c236, c237, c238, c239, c240, c241, c242, c243, c244, c245, c246, c247, c248], []⟩ w3) := by
    intro c0 c3 c5 c6 c7 c9 c10 c12 c13 c14 c15 c16 c17 c18 c19 c20 c21 c22 c23 c24 c25 c26 c27 c28 c29 c30 c31 c32 c33 c34 c35 c36 c37 c38 c39 c40 c41 c42 c43 c44 c45 c46 c47 c48 c49 c50 c51 c52 c53 c54 c55 c56 c57 c58 c59 c60 c61 c62 c63 c64 c65 c66 c67 c68 c69 c70 c71 c72 c73 c74 c75 c76 c77 c78 c79 c80 c81 c82 c83 c84 c85 c86 c87 c88 c89 c90 c91 c92 c93 c94 c95 c96 c97 c98 c99 c100 c101 c102 c103 c104 c105 c106 c107 c108 c109 c110 c111 c112 c113 c114 c115 c116 c117 c118 c119 c120 c121 c122 c123 c124 c125 c126 c127 c128 c129 c130 c131 c132 c133 c134 c135 c136 c137 c138 c139 c140 c141 c142 c143 c144 c145 c146 c147 c148 c149 c150 c151 c152 c153 c154 c155 c156 c157 c158 c159 c160 c161 c162 c163 c164 c165 c166 c167 c168 c169 c170 c171 c172 c173 c174 c175 c176 c177 c178 c179 c180 c181 c182 c183 c184 c185 c186 c187 c188 c189 c190 c191 c192 c193 c194 c195 c196 c197 c198 c199 c200 c201 c202 c203 c204 c205 c206 c207 c208 c209 c210 c211 c212 c213 c214 c215 c216 c217 c218 c219 c220 c221 c222 c223 c224 c225 c226 c227 c228 c229 c230 c231 c232 c233 c234 c235 c236 c237 c238 c239 c240 c241 c242 c243 c244 c245 c246 c247 c248 E vo ho hE hzE
    exact cr4_wp vo gv vf vm ms w.heap.size f1 f2 w w3 hE hzE ho (HT.out.2.2.2.1.below hb3) HT.out.2.2.2.2.2.2.2.2.1 HT.out.2.2.2.2.2.2.2.2.2.1 (HT.out.2.2.2.2.1.below hb3) (HT.out.2.2.2.2.2.1.below hb3) (by rw [b3.cell (World.block_lt_of_cell? _ _ HT.out.2.1)]; exact HT.out.2.1) (by rw [b3.cell (World.block_lt_of_cell? _ _ HT.out.2.2.1)]; exact HT.out.2.2.1) HT.out.2.2.2.2.2.2.2.2.2.2 hb3 (table_at hb3 HT.out.2.2.2.2.2.2.2.1 HT.out.2.2.2.2.2.2.1) (Nat.lt_of_lt_of_le HT.out.2.2.2.2.2.2.2.1 hb3.size)
  have B3 : Aside (LS w3 v' ts ∧ ∀ s ∈ ts, s.size ≤ 40) := ⟨LS.of_row hrow, htz⟩
  clear b3 hb3 hrow htz HT
  dsimp only
  go_wp2
  refine HK.out _ _ ?_
  refine wp_seq_k ?_
  intro K4 hK4
  have HK4 : Aside (∀ a w, _ → K4 a w) := hK4
  clear hK4 HK
  by_cases hn52 : ts.length > 52
  · have hls := B3.out.1
    rcases hls with ⟨_, h0⟩ | ⟨g, o, cap, rfl, hSA, hgl, hcap⟩
    · rw [h0] at hn52; simp at hn52
    · have hn52' : (ts.length : Int) > 52 := by omega
      have hsl : ∀ wx, (Instr.sliceAt 22 (.slice (some ⟨g, o, none⟩) ts.length cap) none (some (.int .i64 52)) none).run Tryd.prog wx = .ok (.slice (some ⟨g, o, none⟩) 52 cap) wx := fun wx => slice_h wx g o ts.length cap 52 (by omega)
      have HS : Aside (LS w3 (.slice (some ⟨g, o, none⟩) 52 cap) (ts.take 52)) := by
        right
        refine ⟨g, o, cap, ?_, hSA.take 52, hgl, ?_⟩
        · rw [List.length_take, Nat.min_eq_left (by omega)]
        · rw [List.length_take]; omega
      clear hSA hgl hcap
      go_wp2
      refine HK4.out _ _ ?_
      exact FIN.out (ts.take 52) _ HS.out (by rw [List.length_take]; omega) (fun s hs => B3.out.2 s (List.mem_of_mem_take hs))
  · have hn52' : ¬ (ts.length : Int) > 52 := by omega
    have hls := B3.out.1
    rcases hls with ⟨rfl, h0⟩ | ⟨g, o, cap, rfl, hSA, hgl, hcap⟩
    · go_wp2
      refine HK4.out _ _ ?_
      exact FIN.out ts _ B3.out.1 (by omega) B3.out.2
    · clear hSA hgl hcap
      go_wp2
      refine HK4.out _ _ ?_
      exact FIN.out ts _ B3.out.1 (by omega) B3.out.2
end Go.Proofs.YtlhohmlpcgbliaaDoor
