import Derived.Test.YtlhohmlpcgbliaaDoorZN12
namespace Go.Proofs.YtlhohmlpcgbliaaDoor
set_option maxRecDepth 100000
open Go.RowKit
attribute [local go_sem ↓] Go.wp_at_zero Go.wp_at_succ

set_option maxHeartbeats 4000000 in
theorem singles_any {V : Nat → List (List Nat)} {Lk : List (List Nat)} {X : List (Nat × List Nat)} {k f : Nat} (p : SiP V Lk X k f) (a cb co cc fb fo fc : Nat) (w : World) (hS : SA w fb fo (fulL V k))
    (hF : ∀ wx, Below w.heap.size w wx → ∀ keep : Int, Calls Tryd.prog 47 #[.pointer (some ⟨a, 0, none⟩), .slice (some ⟨cb, co, none⟩) 1 cc, .int .i64 (k : Int), .int .i64 keep] wx fun e w' => e = .returned (.string (btx (failL keep 0 X Lk))) ∧ Below wx.heap.size wx w') :
    Calls Tryd.prog 49 #[.pointer (some ⟨a, 0, none⟩), .slice (some ⟨cb, co, none⟩) 1 cc, .slice (some ⟨fb, fo, none⟩) (k + 1) fc, .string (btx Lk)] w fun e w' => e = .returned (.bool true) ∧ Below w.heap.size w w' := by
  have hk60 := p.k60
  have zl := p.sl.size
  have HP : Aside (SiP V Lk X k f ∧ SA w fb fo (fulL V k)) := ⟨p, hS⟩
  have HF : Aside (∀ wx, Below w.heap.size w wx → ∀ keep : Int, Calls Tryd.prog 47 #[.pointer (some ⟨a, 0, none⟩), .slice (some ⟨cb, co, none⟩) 1 cc, .int .i64 (k : Int), .int .i64 keep] wx fun e w' => e = .returned (.string (btx (failL keep 0 X Lk))) ∧ Below wx.heap.size wx w') := hF
  clear p hS hF
  have HQ : Aside (siQ w = bodyPost Tryd.prog Tryd.f49 fun e w' => e = .returned (.bool true) ∧ Below w.heap.size w w') := rfl
  go_enter Tryd.func49, Tryd.ntmps49
  go_wp2_with fail
  rename_i K hK
  have HK : Aside (∀ a w, _ → K a w) := hK
  clear hK
  go_loopw [10, 11] (fun u j' wr => ∃ j : Nat, j ≤ k ∧ j' = .int .i64 (j : Int) ∧ Aside (Row wr w.heap.size 3 u (intv (ordL Lk (X.drop (j - f)))) ∧ Below w.heap.size w wr)) (fun _ j' _ => (intOf j').toNat)
  case atStart =>
    refine ⟨k, Nat.le_refl _, rfl, ?_, Below.refl _ _⟩
    rw [List.drop_eq_nil_of_le (by rw [HP.out.1.xl]; exact Nat.le_refl _)]
    exact World.ownsRow_nil _ _ _ _
  case round =>
    obtain ⟨j, hjk, rfl, HR⟩ := hrel
    by_cases hj0 : j = 0
    · subst hj0
      go_wp2
      refine HK.out _ _ ?_
      have h1 := HR.out.1
      rw [Nat.zero_sub, List.drop_zero] at h1
      exact si16_wp HP.out.1 a cb co cc fb fo fc _ w wr HP.out.2 HF.out h1 HR.out.2
    · obtain ⟨j', rfl⟩ : ∃ j', j = j' + 1 := ⟨j - 1, by omega⟩
      have hj1 : (0 : Int) < ((j' + 1 : Nat) : Int) := by omega
      go_wp2_with fail
      go_loopw [10, 12] (fun u i' wy => ∃ i : Nat, i ≤ 200 ∧ i' = .int .i64 (i : Int) ∧ Aside (Row wy w.heap.size 3 u (intv (ordJ Lk X f (j' + 1) i)) ∧ Below w.heap.size w wy)) (fun _ i' _ => 200 - (intOf i').toNat)
      case atStart => exact ⟨0, by omega, rfl, by rw [ordJ_zero]; exact HR.out.1, HR.out.2⟩
      case round =>
        obtain ⟨i, hi, rfl, HY⟩ := hrel
        by_cases h200 : i < 200
        · have h200' : (i : Int) < 200 := by omega
          refine wp_seq_k ?_
          intro K1 hK1
          have HK1 : Aside (∀ a w, _ → K1 a w) := hK1
          clear hK1
          go_wp2
          refine HK1.out _ _ ?_
          clear HK1
          refine wp_seq_k ?_
          intro K2 hK2
          have HK2 : Aside (∀ a w, _ → K2 a w) := hK2
          clear hK2
          refine wp_block ?_
          refine si9_wp HP.out.1 fb fo fc j' i _ w _ _ hjk h200 HP.out.2 HY.out.1 HY.out.2 ?_
          intro u13 u14 u35 u36 u37 u38 u39 u40 u41 u42 u43 u44 u45 u46 u47 u48 u49 u50 u51 u52 u53 u54 u55 u56 u57 u58 u59 u60 u61 u62 u63 u64 u65 u66 u67 u68 u69 u70 u71 u72 u73 u74 u75 u76 u77 u78 u79 u80 u81 v' w' hr' hb'
          have H2 : Aside (Row w' w.heap.size 3 v' (intv (ordJ Lk X f (j' + 1) (i + 1))) ∧ Below w.heap.size w w') := ⟨hr', hb'⟩
          clear hr' hb'
          refine HK2.out _ _ ?_
          clear HK2
          go_wp2
          go_roundw
          case rel =>
            (repeat apply Exists.intro)
            exact ⟨⟨i + 1, by omega, by go_num, H2⟩, rfl⟩
          case measure => simp [intOf]; omega
        · have h200' : ¬ (i : Int) < 200 := by omega
          have hi2 : i = 200 := by omega
          have HE := HY.out.1
          rw [hi2, ordJ_end HP.out.1 hjk, show j' + 1 - 1 - f = j' - f by omega] at HE
          have H2 : Aside (Row _ w.heap.size 3 _ (intv (ordL Lk (X.drop (j' - f)))) ∧ Below w.heap.size w _) := ⟨HE, HY.out.2⟩
          clear HE
          go_wp2
          go_roundw
          case rel => exact ⟨j', by omega, rfl, H2⟩
          case measure => simp [intOf]
end Go.Proofs.YtlhohmlpcgbliaaDoor
namespace Go.Proofs.YtlhohmlpcgbliaaDoor
set_option maxRecDepth 100000
open Go.RowKit
attribute [local go_sem ↓] Go.wp_at_zero Go.wp_at_succ

section
variable {n : Nat} {act : Nat → Option (Nat × List Nat)} {L V : Nat → List (List Nat)} {F : Nat → List (Nat × List Nat)}
theorem Acts.keys (A : Acts n act L V F) : ∀ k, k ≤ n → ∀ x ∈ F k, x.1 < 200 ∧ Sec x.2 := by
  intro k
  induction k with
  | zero => intro _ x hx; rw [A.f0] at hx; simp at hx
  | succ k ih =>
    intro hk x hx
    cases ha : act k with
    | none => rw [(A.fl k (by omega) ha).1] at hx; simp at hx
    | some y =>
      have h := A.wr k y (by omega) ha
      rw [h.1] at hx
      rcases List.mem_append.1 hx with h1 | h1
      · exact ih (by omega) x h1
      · rw [List.mem_singleton.1 h1]; exact ⟨h.2.2.2.1, h.2.2.2.2⟩
theorem Acts.few_loose (A : Acts n act L V F) : ∀ k, k ≤ n → (F k).length ≤ k := by
  intro k hk
  obtain ⟨f, _, _, _, h, _⟩ := A.flush k hk
  omega
/-- What singles is told of. -/
theorem Acts.sip (A : Acts n act L V F) {k : Nat} (hk : k ≤ n) : ∃ f, SiP V (L k) (F k) k f ∧ L k = V f ∧ (f = 0 ∨ V f = V (f - 1)) := by
  obtain ⟨f, h1, h2, h3, h4, h5⟩ := A.flush k hk
  have hf := A.few
  exact ⟨f, ⟨h1, by omega, h4, A.nd k hk, A.keys k hk, A.sl k hk, fun j hj => A.sv j (by omega), A.mid hk h1 h3 h4 h5⟩, h3, h2⟩
/-- Each sector is as some act left it. -/
theorem Acts.each (A : Acts n act L V F) {k : Nat} (hk : k ≤ n) (keep : Int) : ∀ i, i < 200 → ∃ j, j < k + 1 ∧ secS ((fulL V k).getD j ⟨#[]⟩) i = secS (btx (failL keep 0 (F k) (L k))) i := by
  intro i hi
  obtain ⟨f, p, hL, _⟩ := A.sip hk
  have hsf : SecL (failL keep 0 (F k) (L k)) := failL_secL (A.sl k hk) (fun x hx => (A.keys k hk x hx).2)
  have hg : ∀ j, j ≤ k → (fulL V k).getD j ⟨#[]⟩ = btx (V j) := fun j hj => by rw [List.getD_eq_getElem?_getD, fulL_get V hj]; rfl
  rcases failL_get keep (F k) 0 (L k) i (fun x hx => by rw [(A.sl k hk).len]; exact (A.keys k hk x hx).1) with h | ⟨x, hx, h1, h2⟩
  · have hfk := p.fk
    refine ⟨f, by omega, ?_⟩
    rw [hg f hfk, sec_iff (A.sv f (by omega)) hsf hi, h, hL]
  · obtain ⟨q, hq⟩ := List.getElem?_of_mem hx
    have hql := (List.getElem?_eq_some_iff.1 hq).1
    have hxl := p.xl
    have hfk := p.fk
    refine ⟨f + (q + 1), by omega, ?_⟩
    have hm := p.mid (q + 1) (by omega)
    have hxq : (F k)[q] = x := (List.getElem?_eq_some_iff.1 hq).2
    rw [hg _ (by omega), sec_iff (A.sv _ (by omega)) hsf hi, h2, hm, List.take_succ_eq_append_getElem hql, hxq, putL_snoc, ← h1]
    exact set_same (by rw [putL_length, (A.sl k hk).len]; exact (A.keys k hk x hx).1)
end
/-- Found so far: the disk with nothing kept is as behind a flush. -/
def fndB (V : Nat → List (List Nat)) (l : List (List Nat)) : Nat → Bool
  | 0 => decide (btx (V 0) = btx l)
  | j + 1 => fndB V l j || (decide (btx (V (j + 1)) = btx l) && decide (btx (V (j + 1)) = btx (V j)))
theorem fndB_mono {V : Nat → List (List Nat)} {l : List (List Nat)} {j : Nat} (h : fndB V l j = true) : ∀ m, j ≤ m → fndB V l m = true := by
  intro m hm
  induction hm with
  | refl => exact h
  | step _ ih => rw [fndB, ih]; rfl
theorem fndB_of {V : Nat → List (List Nat)} {l : List (List Nat)} {f k : Nat} (hl : l = V f) (hf : f = 0 ∨ V f = V (f - 1)) (hk : f ≤ k) : fndB V l k = true := by
  refine fndB_mono (j := f) ?_ k hk
  cases f with
  | zero => rw [fndB, hl]; simp
  | succ f =>
    rcases hf with h | h
    · omega
    · rw [fndB, hl, ← show V (f + 1) = V f from h]
      simp

set_option maxHeartbeats 4000000 in
theorem di28_wp {c0 c1 c2 c3 c4 c5 c6 c7 c8 c9 c10 c11 c14 c15 c16 c18 c20 c21 c22 c23 c24 c25 c26 c27 c28 c29 c30 c31 c32 c33 c34 c35 c36 c37 c38 c39 c40 c41 c42 c43 c44 c45 c46 c47 c48 c49 c50 c51 c52 c53 c54 c55 c56 c57 c58 c59 c60 c61 c62 c63 c64 c65 c66 c67 c68 c69 c70 c71 c72 c73 c74 c75 c76 c77 c78 c79 c80 c81 c82 c83 c84 c85 c86 c87 c88 c89 c90 c91 c92 c93 c94 c95 c96 c97 c98 c99 c100 c101 c102 c103 c104 c105 c106 c107 c108 c109 c110 c111 c112 c113 c114 c115 c116 c117 c118 c119 c120 c121 c122 c123 c124 c125 c126 c127 c128 c129 c130 c131 c132 c133 c134 c135 c136 c137 c138 c139 c140 c141 c142 c143 c144 c145 c146 c147 c148 c149 c150 c151 c152 c153 c154 c155 c156 c157 c158 c159 c160 c161 c162 c163 c164 c165 c166 c167 c168 c169 c170 c171 c172 c173 c174 c175 c176 c177 c178 c179 c180 c181 c182 c183 c184 c185 c186 c187 c188 c189 c190 c191 c192 c193 c194 c195 c196 c197 c198 c199 c200 c201 c202 c203 c204 c205 c206 c207 c208 c209 c210 c211 c212 c213 c214 c215 c216 c217 c218 c219 : Value} (g cap n a1 : Nat) (b0 bn : ByteArray) (w : World) (Q : Exit → Act → World → Prop) (h0 : w.cell? ⟨g, 0 + 0, none⟩ = some (.string b0)) (h1 : w.cell? ⟨g, 0 + (n + 1), none⟩ = some (.string bn)) (h2 : w.cell? ⟨g, 0 + n, none⟩ = some (.string bn)) (hn : n < 1000)
    (hT : ∀ wx, Below w.heap.size w wx → Calls Tryd.prog 44 #[.pointer (some ⟨a1, 0, none⟩)] wx fun e w' => e = .returned (.string bn) ∧ Below wx.heap.size wx w')
    (hQ : ∀ (u117 u118 u119 u120 u121 u122 u123 u124 u125 u126 u127 u128 u129 u130 u131 u132 u133 u134 u135 u136 u137 u138 u139 u140 u141 : Value) (w' : World), Below w.heap.size w w' → Q .normal ⟨#[c0, c1, c2, c3, c4, c5, c6, c7, c8, c9, c10, c11, .string b0, .pointer (some ⟨a1, 0, none⟩), c14, c15, c16, .int .i64 ((n + 1 : Nat) : Int), c18, .slice (some ⟨g, 0, none⟩) (n + 2) cap, c20, c21, c22, c23, c24, c25, c26, c27, c28, c29, c30, c31, c32, c33, c34, c35, c36, c37, c38, c39, c40, c41, c42, c43, c44, c45, c46, c47, c48, c49, c50, c51, c52, c53, c54, c55, c56, c57, c58, c59, c60, c61, c62, c63, c64, c65, c66, c67, c68, c69, c70, c71, c72, c73, c74, c75, c76, c77, c78, c79, c80, c81, c82, c83, c84, c85, c86, c87, c88, c89, c90, c91, c92, c93, c94, c95, c96, c97, c98, c99, c100, c101, c102, c103, c104, c105, c106, c107, c108, c109, c110, c111, c112, c113, c114, c115, c116, u117, u118, u119, u120, u121, u122, u123, u124, u125, u126, u127, u128, u129, u130, u131, u132, u133, u134, u135, u136, u137, u138, u139, u140, u141, .bool false, c143, c144, c145, c146, c147, c148, c149, c150, c151, c152, c153, c154, c155, c156, c157, c158, c159, c160, c161, c162, c163, c164, c165, c166, c167, c168, c169, c170, c171, c172, c173, c174, c175, c176, c177, c178, c179, c180, c181, c182, c183, c184, c185, c186, c187, c188, c189, c190, c191, c192, c193, c194, c195, c196, c197, c198, c199, c200, c201, c202, c203, c204, c205, c206, c207, c208, c209, c210, c211, c212, c213, c214, c215, c216, c217, c218, c219], []⟩ w') :
    Code.wp Tryd.prog (rgn Tryd.f10 28) Q ⟨#[c0, c1, c2, c3, c4, c5, c6, c7, c8, c9, c10, c11, .string b0, .pointer (some ⟨a1, 0, none⟩), c14, c15, c16, .int .i64 ((n + 1 : Nat) : Int), c18, .slice (some ⟨g, 0, none⟩) (n + 2) cap, c20, c21, c22, c23, c24, c25, c26, c27, c28, c29, c30, c31, c32, c33, c34, c35, c36, c37, c38, c39, c40, c41, c42, c43, c44, c45, c46, c47, c48, c49, c50, c51, c52, c53, c54, c55, c56, c57, c58, c59, c60, c61, c62, c63, c64, c65, c66, c67, c68, c69, c70, c71, c72, c73, c74, c75, c76, c77, c78, c79, c80, c81, c82, c83, c84, c85, c86, c87, c88, c89, c90, c91, c92, c93, c94, c95, c96, c97, c98, c99, c100, c101, c102, c103, c104, c105, c106, c107, c108, c109, c110, c111, c112, c113, c114, c115, c116, c117, c118, c119, c120, c121, c122, c123, c124, c125, c126, c127, c128, c129, c130, c131, c132, c133, c134, c135, c136, c137, c138, c139, c140, c141, c142, c143, c144, c145, c146, c147, c148, c149, c150, c151, c152, c153, c154, c155, c156, c157, c158, c159, c160, c161, c162, c163, c164, c165, c166, c167, c168, c169, c170, c171, c172, c173, c174, c175, c176, c177, c178, c179, c180, c181, c182, c183, c184, c185, c186, c187, c188, c189, c190, c191, c192, c193, c194, c195, c196, c197, c198, c199, c200, c201, c202, c203, c204, c205, c206, c207, c208, c209, c210, c211, c212, c213, c214, c215, c216, c217, c218, c219], []⟩ w := by
  have hS : (fun wx : World => Below w.heap.size w wx) w.drew := (Below.refl w.heap.size w).drew
  have hlt : g < w.heap.size := World.block_lt_of_cell? _ _ h0
  have f1 : (!decide (b0 = b0)) = false := by simp
  have f2 : (!decide (bn = bn)) = false := by simp
  conv => arg 2; whnf
  refine wp_region_s (fun wx : World => Below w.heap.size w wx) (by kernel_rfl) ?_
  refine wpS_pure (k := 0) (v := .slice (some ⟨g, 0, none⟩) (n + 2) cap) (by rfl) (by kernel_rfl) (by kernel_rfl) (by kernel_rfl) (by rfl) (some 117) (by rfl) hS (fun _ _ => by kernel_rfl) ?_
  simp only [Act.put, List.setIfInBounds_toArray, List.set_cons_succ, List.set_cons_zero]
  refine wpS_pure (k := 1) (v := .pointer (some ⟨g, 0 + 0, none⟩)) (by rfl) (by kernel_rfl) (by kernel_rfl) (by kernel_rfl) (by rfl) (some 118) (by rfl) hS (fun wx _ => exec_ix (by rfl) (by rfl) (by rfl) (ixStr wx g 0 (n + 2) cap 0 (by omega))) ?_
  simp only [Act.put, List.setIfInBounds_toArray, List.set_cons_succ, List.set_cons_zero]
  refine wpS_pure (k := 2) (v := .string b0) (by rfl) (by kernel_rfl) (by kernel_rfl) (by kernel_rfl) (by rfl) (some 119) (by rfl) hS (fun wx hx => exec_ld (by rfl) (by rfl) (loadStr1 wx g _ _ (by rw [hx.cell (p := ⟨g, 0 + 0, none⟩) hlt]; exact h0))) ?_
  simp only [Act.put, List.setIfInBounds_toArray, List.set_cons_succ, List.set_cons_zero]
  refine wpS_pure (k := 3) (v := .string b0) (by rfl) (by kernel_rfl) (by kernel_rfl) (by kernel_rfl) (by rfl) (some 120) (by rfl) hS (fun _ _ => by kernel_rfl) ?_
  simp only [Act.put, List.setIfInBounds_toArray, List.set_cons_succ, List.set_cons_zero]
  refine wpS_pure (k := 4) (v := .bool false) (by rfl) (by kernel_rfl) (by kernel_rfl) (by kernel_rfl) (by rfl) (some 121) (by rfl) hS (fun wx _ => exec_bop (by rfl) (by rfl) (by rfl) (by kernel_rfl) (neq_str _ _ f1 wx)) ?_
  simp only [Act.put, List.setIfInBounds_toArray, List.set_cons_succ, List.set_cons_zero]
  refine wpS_pure (k := 5) (v := .bool false) (by rfl) (by kernel_rfl) (by kernel_rfl) (by kernel_rfl) (by rfl) (some 122) (by rfl) hS (fun _ _ => by kernel_rfl) ?_
  simp only [Act.put, List.setIfInBounds_toArray, List.set_cons_succ, List.set_cons_zero]
  refine wpS_w (k := 6) (v := .slice (some ⟨g, 0, none⟩) (n + 2) cap) (by rfl) (by kernel_rfl) (by kernel_rfl) (by kernel_rfl) (by kernel_rfl) (some 123) (by rfl) hS (fun _ _ => by kernel_rfl) ?_
  simp only [Act.put, List.setIfInBounds_toArray, List.set_cons_succ, List.set_cons_zero]
  refine wpS_w (k := 7) (v := .int .i64 ((n + 1 : Nat) : Int)) (by rfl) (by kernel_rfl) (by kernel_rfl) (by kernel_rfl) (by kernel_rfl) (some 124) (by rfl) hS (fun _ _ => by kernel_rfl) ?_
  simp only [Act.put, List.setIfInBounds_toArray, List.set_cons_succ, List.set_cons_zero]
  refine wpS_w (k := 8) (v := .pointer (some ⟨g, 0 + (n + 1), none⟩)) (by rfl) (by kernel_rfl) (by kernel_rfl) (by kernel_rfl) (by kernel_rfl) (some 125) (by rfl) hS (fun wx _ => exec_ix (by rfl) (by rfl) (by rfl) (ixStr wx g 0 (n + 2) cap (n + 1) (by omega))) ?_
  simp only [Act.put, List.setIfInBounds_toArray, List.set_cons_succ, List.set_cons_zero]
  refine wpS_w (k := 9) (v := .string bn) (by rfl) (by kernel_rfl) (by kernel_rfl) (by kernel_rfl) (by kernel_rfl) (some 126) (by rfl) hS (fun wx hx => exec_ld (by rfl) (by rfl) (loadStr1 wx g _ _ (by rw [hx.cell (p := ⟨g, 0 + (n + 1), none⟩) hlt]; exact h1))) ?_
  simp only [Act.put, List.setIfInBounds_toArray, List.set_cons_succ, List.set_cons_zero]
  refine wpS_w (k := 10) (v := .pointer (some ⟨a1, 0, none⟩)) (by rfl) (by kernel_rfl) (by kernel_rfl) (by kernel_rfl) (by kernel_rfl) (some 127) (by rfl) hS (fun _ _ => by kernel_rfl) ?_
  simp only [Act.put, List.setIfInBounds_toArray, List.set_cons_succ, List.set_cons_zero]
  have hb0 : Below w.heap.size w w.drew := hS
  refine wpS_one (i := 11) (by kernel_rfl) (opS_callW (f := 44) (vs := #[.pointer (some ⟨a1, 0, none⟩)]) (by rfl) (by kernel_rfl) (some 128) (by rfl) (by kernel_rfl) ((hT w.drew hb0).mono ?_))
  rintro e w1 ⟨rfl, hb1⟩
  have hS1 : Below w.heap.size w w1 := hb0.trans (hb1.mono hb0.size)
  refine ⟨_, rfl, hS1, ?_⟩
  simp only [Act.put, List.setIfInBounds_toArray, List.set_cons_succ, List.set_cons_zero]
  refine wpS_w (k := 12) (v := .bool false) (by rfl) (by kernel_rfl) (by kernel_rfl) (by kernel_rfl) (by kernel_rfl) (some 129) (by rfl) hS1 (fun wx _ => exec_bop (by rfl) (by rfl) (by rfl) (by kernel_rfl) (neq_str _ _ f2 wx)) ?_
  simp only [Act.put, List.setIfInBounds_toArray, List.set_cons_succ, List.set_cons_zero]
  refine wpS_pure (k := 13) (v := .bool false) (by rfl) (by kernel_rfl) (by kernel_rfl) (by kernel_rfl) (by rfl) (some 130) (by rfl) hS1 (fun _ _ => by kernel_rfl) ?_
  simp only [Act.put, List.setIfInBounds_toArray, List.set_cons_succ, List.set_cons_zero]
  refine wpS_pure (k := 14) (v := .bool false) (by rfl) (by kernel_rfl) (by kernel_rfl) (by kernel_rfl) (by rfl) (some 131) (by rfl) hS1 (fun _ _ => by kernel_rfl) ?_
  simp only [Act.put, List.setIfInBounds_toArray, List.set_cons_succ, List.set_cons_zero]
  refine wpS_w (k := 15) (v := .slice (some ⟨g, 0, none⟩) (n + 2) cap) (by rfl) (by kernel_rfl) (by kernel_rfl) (by kernel_rfl) (by kernel_rfl) (some 132) (by rfl) hS1 (fun _ _ => by kernel_rfl) ?_
  simp only [Act.put, List.setIfInBounds_toArray, List.set_cons_succ, List.set_cons_zero]
  refine wpS_w (k := 16) (v := .int .i64 ((n + 1 : Nat) : Int)) (by rfl) (by kernel_rfl) (by kernel_rfl) (by kernel_rfl) (by kernel_rfl) (some 133) (by rfl) hS1 (fun _ _ => by kernel_rfl) ?_
  simp only [Act.put, List.setIfInBounds_toArray, List.set_cons_succ, List.set_cons_zero]
  refine wpS_w (k := 17) (v := .int .i64 (n : Int)) (by rfl) (by kernel_rfl) (by kernel_rfl) (by kernel_rfl) (by kernel_rfl) (some 134) (by rfl) hS1 (fun wx _ => exec_bop (by rfl) (by rfl) (by rfl) (by kernel_rfl) (sub_one n (by omega) wx)) ?_
  simp only [Act.put, List.setIfInBounds_toArray, List.set_cons_succ, List.set_cons_zero]
  refine wpS_w (k := 18) (v := .pointer (some ⟨g, 0 + n, none⟩)) (by rfl) (by kernel_rfl) (by kernel_rfl) (by kernel_rfl) (by kernel_rfl) (some 135) (by rfl) hS1 (fun wx _ => exec_ix (by rfl) (by rfl) (by rfl) (ixStr wx g 0 (n + 2) cap n (by omega))) ?_
  simp only [Act.put, List.setIfInBounds_toArray, List.set_cons_succ, List.set_cons_zero]
  refine wpS_w (k := 19) (v := .string bn) (by rfl) (by kernel_rfl) (by kernel_rfl) (by kernel_rfl) (by kernel_rfl) (some 136) (by rfl) hS1 (fun wx hx => exec_ld (by rfl) (by rfl) (loadStr1 wx g _ _ (by rw [hx.cell (p := ⟨g, 0 + n, none⟩) hlt]; exact h2))) ?_
  simp only [Act.put, List.setIfInBounds_toArray, List.set_cons_succ, List.set_cons_zero]
  refine wpS_w (k := 20) (v := .slice (some ⟨g, 0, none⟩) (n + 2) cap) (by rfl) (by kernel_rfl) (by kernel_rfl) (by kernel_rfl) (by kernel_rfl) (some 137) (by rfl) hS1 (fun _ _ => by kernel_rfl) ?_
  simp only [Act.put, List.setIfInBounds_toArray, List.set_cons_succ, List.set_cons_zero]
  refine wpS_w (k := 21) (v := .int .i64 ((n + 1 : Nat) : Int)) (by rfl) (by kernel_rfl) (by kernel_rfl) (by kernel_rfl) (by kernel_rfl) (some 138) (by rfl) hS1 (fun _ _ => by kernel_rfl) ?_
  simp only [Act.put, List.setIfInBounds_toArray, List.set_cons_succ, List.set_cons_zero]
  refine wpS_w (k := 22) (v := .pointer (some ⟨g, 0 + (n + 1), none⟩)) (by rfl) (by kernel_rfl) (by kernel_rfl) (by kernel_rfl) (by kernel_rfl) (some 139) (by rfl) hS1 (fun wx _ => exec_ix (by rfl) (by rfl) (by rfl) (ixStr wx g 0 (n + 2) cap (n + 1) (by omega))) ?_
  simp only [Act.put, List.setIfInBounds_toArray, List.set_cons_succ, List.set_cons_zero]
  refine wpS_w (k := 23) (v := .string bn) (by rfl) (by kernel_rfl) (by kernel_rfl) (by kernel_rfl) (by kernel_rfl) (some 140) (by rfl) hS1 (fun wx hx => exec_ld (by rfl) (by rfl) (loadStr1 wx g _ _ (by rw [hx.cell (p := ⟨g, 0 + (n + 1), none⟩) hlt]; exact h1))) ?_
  simp only [Act.put, List.setIfInBounds_toArray, List.set_cons_succ, List.set_cons_zero]
  refine wpS_w (k := 24) (v := .bool false) (by rfl) (by kernel_rfl) (by kernel_rfl) (by kernel_rfl) (by kernel_rfl) (some 141) (by rfl) hS1 (fun wx _ => exec_bop (by rfl) (by rfl) (by rfl) (by kernel_rfl) (neq_str _ _ f2 wx)) ?_
  simp only [Act.put, List.setIfInBounds_toArray, List.set_cons_succ, List.set_cons_zero]
  refine wpS_pure (k := 25) (v := .bool false) (by rfl) (by kernel_rfl) (by kernel_rfl) (by kernel_rfl) (by rfl) (some 142) (by rfl) hS1 (fun _ _ => by kernel_rfl) ?_
  simp only [Act.put, List.setIfInBounds_toArray, List.set_cons_succ, List.set_cons_zero]
  refine wpAnyH_done (by kernel_rfl) ?_ _
  refine NoPanic.normal ?_
  exact hQ _ _ _ _ _ _ _ _ _ _ _ _ _ _ _ _ _ _ _ _ _ _ _ _ _ w1 hS1
end Go.Proofs.YtlhohmlpcgbliaaDoor
namespace Go.Proofs.YtlhohmlpcgbliaaDoor
set_option maxRecDepth 100000
open Go.RowKit
attribute [local go_sem ↓] Go.wp_at_zero Go.wp_at_succ

def diQ (w0 : World) : Exit → Act → World → Prop := bodyPost Tryd.prog Tryd.f10 fun e w' => e = .returned (.bool true) ∧ Below w0.heap.size w0 w'

theorem fulL_len (V : Nat → List (List Nat)) (k : Nat) : (fulL V k).length = k + 1 := by simp [fulL]
theorem fulL_take (V : Nat → List (List Nat)) {k n : Nat} (h : k ≤ n) : (fulL V n).take (k + 1) = fulL V k := by
  unfold fulL
  rw [← List.map_take, List.take_range, Nat.min_eq_left (by omega)]

/-- What Disk's calls of failed answer. -/
structure DiC (w0 : World) (n : Nat) (act : Nat → Option (Nat × List Nat)) (L V : Nat → List (List Nat)) (F : Nat → List (Nat × List Nat)) (a cb co cc : Nat) : Prop where
  ac : Acts n act L V F
  fa : ∀ wx, Below w0.heap.size w0 wx → ∀ (j : Nat) (keep : Int), j ≤ n → Calls Tryd.prog 47 #[.pointer (some ⟨a, 0, none⟩), .slice (some ⟨cb, co, none⟩) 1 cc, .int .i64 (j : Int), .int .i64 keep] wx fun e w' => e = .returned (.string (btx (failL keep 0 (F j) (L j)))) ∧ Below wx.heap.size wx w'

section
variable {n : Nat} {act : Nat → Option (Nat × List Nat)} {L V : Nat → List (List Nat)} {F : Nat → List (Nat × List Nat)} {a cb co cc : Nat} {w0 : World}
theorem DiC.zf (C : DiC w0 n act L V F a cb co cc) {k : Nat} (hk : k ≤ n) (keep : Int) : (btx (failL keep 0 (F k) (L k))).size = 25600 := (failL_secL (C.ac.sl k hk) (fun x hx => (C.ac.keys k hk x hx).2)).size

set_option maxHeartbeats 2000000 in
theorem di40_wp {c0 c1 c2 c3 c4 c5 c6 c7 c8 c9 c12 c13 c14 c15 c16 c17 c18 c20 c21 c26 c27 c28 c29 c30 c31 c32 c33 c34 c35 c36 c37 c38 c39 c40 c41 c42 c43 c44 c45 c46 c47 c48 c49 c50 c51 c52 c53 c54 c55 c56 c57 c58 c59 c60 c61 c62 c63 c64 c65 c66 c67 c68 c69 c70 c71 c72 c73 c74 c75 c76 c77 c78 c79 c80 c81 c82 c83 c84 c85 c86 c87 c88 c89 c90 c91 c92 c93 c94 c95 c96 c97 c98 c99 c100 c101 c102 c103 c104 c105 c106 c107 c108 c109 c110 c111 c112 c113 c114 c115 c116 c117 c118 c119 c120 c121 c122 c123 c124 c125 c126 c127 c128 c129 c130 c131 c132 c133 c134 c135 c136 c137 c138 c139 c140 c141 c142 c143 c144 c145 c146 c147 c148 c149 c150 c151 c152 c153 c154 c155 c156 c157 c158 c159 c160 c161 c162 c163 c164 c165 c166 c167 c168 c169 c170 c171 c172 c173 c174 c175 c176 c177 c178 c179 c180 c181 c182 c183 c184 c185 c186 c187 c188 c189 c190 c191 c192 c193 c194 c195 c196 c197 c198 c199 c200 c201 c202 c203 c204 c205 c206 c207 c208 c209 c210 c211 c212 c213 c214 c215 c216 c217 c218 c219 : Value} (g o cap k : Nat) (keep : Int) (wB w : World) (C : DiC w0 n act L V F a cb co cc) (hS : SA w0 g o (fulL V n)) (hk : k ≤ n) (hcap : n + 1 ≤ cap) (hb : Below w0.heap.size w0 w) (hB : Below wB.heap.size wB w0) :
    Code.wp Tryd.prog (sfxD Tryd.f10 40) (diQ wB) ⟨#[c0, c1, c2, c3, c4, c5, c6, c7, c8, c9, .pointer (some ⟨a, 0, none⟩), .slice (some ⟨cb, co, none⟩) 1 cc, c12, c13, c14, c15, c16, c17, c18, .slice (some ⟨g, o, none⟩) (n + 1) cap, c20, c21, .int .i64 (k : Int), .string (btx (L k)), .string (btx (failL keep 0 (F k) (L k))), .bool true, c26, c27, c28, c29, c30, c31, c32, c33, c34, c35, c36, c37, c38, c39, c40, c41, c42, c43, c44, c45, c46, c47, c48, c49, c50, c51, c52, c53, c54, c55, c56, c57, c58, c59, c60, c61, c62, c63, c64, c65, c66, c67, c68, c69, c70, c71, c72, c73, c74, c75, c76, c77, c78, c79, c80, c81, c82, c83, c84, c85, c86, c87, c88, c89, c90, c91, c92, c93, c94, c95, c96, c97, c98, c99, c100, c101, c102, c103, c104, c105, c106, c107, c108, c109, c110, c111, c112, c113, c114, c115, c116, c117, c118, c119, c120, c121, c122, c123, c124, c125, c126, c127, c128, c129, c130, c131, c132, c133, c134, c135, c136, c137, c138, c139, c140, c141, c142, c143, c144, c145, c146, c147, c148, c149, c150, c151, c152, c153, c154, c155, c156, c157, c158, c159, c160, c161, c162, c163, c164, c165, c166, c167, c168, c169, c170, c171, c172, c173, c174, c175, c176, c177, c178, c179, c180, c181, c182, c183, c184, c185, c186, c187, c188, c189, c190, c191, c192, c193, c194, c195, c196, c197, c198, c199, c200, c201, c202, c203, c204, c205, c206, c207, c208, c209, c210, c211, c212, c213, c214, c215, c216, c217, c218, c219], []⟩ w := by
  conv => arg 2; whnf
  generalize hQ : diQ wB = Q
  have HQ : Aside (diQ wB = Q) := hQ
  clear hQ
  have hn60 := C.ac.few
  have hSk : SA w g o (fulL V k) := by rw [← fulL_take V hk]; exact (hS.below hb).take _
  obtain ⟨f, p, _, _⟩ := C.ac.sip hk
  have g1 := each_any (btx (failL keep 0 (F k) (L k))) g o cap (fulL V k) w (C.zf hk keep) hSk (fun s hs => by
    obtain ⟨j, hj, rfl⟩ := List.mem_map.1 hs
    exact (C.ac.sv j (by have := List.mem_range.1 hj; omega)).size) (by rw [fulL_len]; omega) (fun i hi => by rw [fulL_len]; exact C.ac.each hk keep i hi)
  rw [fulL_len] at g1
  have HG : Aside (∀ wx, Below w.heap.size w wx → Calls Tryd.prog 49 #[.pointer (some ⟨a, 0, none⟩), .slice (some ⟨cb, co, none⟩) 1 cc, .slice (some ⟨g, o, none⟩) (k + 1) cap, .string (btx (L k))] wx fun e w' => e = .returned (.bool true) ∧ Below wx.heap.size wx w') := fun wx hx => by
    have hx0 := hb.trans (hx.mono hb.size)
    exact singles_any p a cb co cc g o cap wx (hSk.below hx) (fun wy hy kp => C.fa wy (hx0.trans (hy.mono hx0.size)) k kp hk)
  have HB : Aside (Below wB.heap.size wB w) := hB.trans (hb.mono hB.size)
  have hsl : ∀ wx, (Instr.sliceAt 22 (.slice (some ⟨g, o, none⟩) (n + 1) cap) none (some (.int .i64 ((k : Int) + 1))) none).run Tryd.prog wx = .ok (.slice (some ⟨g, o, none⟩) (k + 1) cap) wx := fun wx => by
    have h1 := slice_h wx g o (n + 1) cap (k + 1) (by omega)
    rw [Int.natCast_add] at h1
    exact h1
  clear C hS hSk p hb hB
  generalize btx (failL keep 0 (F k) (L k)) = bo at *
  generalize btx (L k) = bl at *
  go_wp2_with fail
  refine g1.mono ?_
  rintro e w1 ⟨rfl, b1⟩
  have g2 := HG.out w1 b1
  have HB1 : Aside (Below wB.heap.size wB w1) := HB.out.trans (b1.mono HB.out.size)
  clear g1 b1
  go_wp2_with fail
  refine g2.mono ?_
  rintro e w2 ⟨rfl, b2⟩
  have HB2 : Aside (Below wB.heap.size wB w2) := HB1.out.trans (b2.mono HB1.out.size)
  clear g2 b2
  go_wp2
  rw [← HQ.out]
  unfold diQ
  go_ret
  exact ⟨rfl, HB2.out⟩

set_option maxHeartbeats 4000000 in
theorem di35_wp {c0 c1 c2 c3 c4 c5 c6 c7 c8 c9 c12 c13 c14 c15 c16 c17 c18 c20 c21 c25 c26 c27 c28 c29 c30 c31 c32 c33 c34 c35 c36 c37 c38 c39 c40 c41 c42 c43 c44 c45 c46 c47 c48 c49 c50 c51 c52 c53 c54 c55 c56 c57 c58 c59 c60 c61 c62 c63 c64 c65 c66 c67 c68 c69 c70 c71 c72 c73 c74 c75 c76 c77 c78 c79 c80 c81 c82 c83 c84 c85 c86 c87 c88 c89 c90 c91 c92 c93 c94 c95 c96 c97 c98 c99 c100 c101 c102 c103 c104 c105 c106 c107 c108 c109 c110 c111 c112 c113 c114 c115 c116 c117 c118 c119 c120 c121 c122 c123 c124 c125 c126 c127 c128 c129 c130 c131 c132 c133 c134 c135 c136 c137 c138 c139 c140 c141 c142 c143 c144 c145 c146 c147 c148 c149 c150 c151 c152 c153 c154 c155 c156 c157 c158 c159 c160 c161 c162 c163 c164 c165 c166 c167 c168 c169 c170 c171 c172 c173 c174 c175 c176 c177 c178 c179 c180 c181 c182 c183 c184 c185 c186 c187 c188 c189 c190 c191 c192 c193 c194 c195 c196 c197 c198 c199 c200 c201 c202 c203 c204 c205 c206 c207 c208 c209 c210 c211 c212 c213 c214 c215 c216 c217 c218 c219 : Value} (g o cap k : Nat) (keep : Int) (wB w : World) (C : DiC w0 n act L V F a cb co cc) (hS : SA w0 g o (fulL V n)) (hk : k ≤ n) (hcap : n + 1 ≤ cap) (hb : Below w0.heap.size w0 w) (hB : Below wB.heap.size wB w0) :
    Code.wp Tryd.prog (sfxD Tryd.f10 35) (diQ wB) ⟨#[c0, c1, c2, c3, c4, c5, c6, c7, c8, c9, .pointer (some ⟨a, 0, none⟩), .slice (some ⟨cb, co, none⟩) 1 cc, c12, c13, c14, c15, c16, c17, c18, .slice (some ⟨g, o, none⟩) (n + 1) cap, c20, c21, .int .i64 (k : Int), .string (btx (L k)), .string (btx (failL keep 0 (F k) (L k))), c25, c26, c27, c28, c29, c30, c31, c32, c33, c34, c35, c36, c37, c38, c39, c40, c41, c42, c43, c44, c45, c46, c47, c48, c49, c50, c51, c52, c53, c54, c55, c56, c57, c58, c59, c60, c61, c62, c63, c64, c65, c66, c67, c68, c69, c70, c71, c72, c73, c74, c75, c76, c77, c78, c79, c80, c81, c82, c83, c84, c85, c86, c87, c88, c89, c90, c91, c92, c93, c94, c95, c96, c97, c98, c99, c100, c101, c102, c103, c104, c105, c106, c107, c108, c109, c110, c111, c112, c113, c114, c115, c116, c117, c118, c119, c120, c121, c122, c123, c124, c125, c126, c127, c128, c129, c130, c131, c132, c133, c134, c135, c136, c137, c138, c139, c140, c141, c142, c143, c144, c145, c146, c147, c148, c149, c150, c151, c152, c153, c154, c155, c156, c157, c158, c159, c160, c161, c162, c163, c164, c165, c166, c167, c168, c169, c170, c171, c172, c173, c174, c175, c176, c177, c178, c179, c180, c181, c182, c183, c184, c185, c186, c187, c188, c189, c190, c191, c192, c193, c194, c195, c196, c197, c198, c199, c200, c201, c202, c203, c204, c205, c206, c207, c208, c209, c210, c211, c212, c213, c214, c215, c216, c217, c218, c219], []⟩ w := by
  conv => arg 2; whnf
  have hn60 := C.ac.few
  have HX : Aside (DiC w0 n act L V F a cb co cc ∧ SA w0 g o (fulL V n) ∧ Below w0.heap.size w0 w ∧ Below wB.heap.size wB w0) := ⟨C, hS, hb, hB⟩
  have HE : Aside (fndB V (L k) k = true) := by
    obtain ⟨f, p, h1, h2⟩ := C.ac.sip hk
    exact fndB_of h1 h2 p.fk
  have h0 : w.cell? ⟨g, o, none⟩ = some (.string (btx (V 0))) := (hS.below hb) 0 _ (fulL_get V (Nat.zero_le _))
  have hyb : ((btx (V 0)).toList == (btx (L k)).toList) = fndB V (L k) 0 := by rw [eqs]; rfl
  have HF : Aside (∀ m, fndB V (L k) (m + 1) = (fndB V (L k) m || (decide (btx (V (m + 1)) = btx (L k)) && decide (btx (V (m + 1)) = btx (V m))))) := fun _ => rfl
  clear C hS hb hB
  generalize hd0 : fndB V (L k) 0 = d0 at *
  have HD0 : Aside (fndB V (L k) 0 = d0) := hd0
  clear hd0
  generalize hQ : diQ wB = Q
  have HQ : Aside (diQ wB = Q) := hQ
  clear hQ
  go_wp2_with fail
  rename_i K hK
  have HK : Aside (∀ a w, _ → K a w) := hK
  clear hK
  go_loopw [25, 26] (fun u v wr => ∃ (j : Nat) (d : Bool), 1 ≤ j ∧ j ≤ k + 1 ∧ u = .bool d ∧ v = .int .i64 (j : Int) ∧ Aside (d = fndB V (L k) (j - 1)) ∧ Aside (Below w0.heap.size w0 wr)) (fun _ v _ => k + 1 - (intOf v).toNat)
  case atStart => exact ⟨1, d0, by omega, by omega, rfl, rfl, HD0.out.symm, HX.out.2.2.1⟩
  case round =>
    obtain ⟨j, d, hj1, hj2, rfl, rfl, HI, HB⟩ := hrel
    by_cases hjk : j ≤ k
    · have hjk' : (j : Int) ≤ (k : Int) := by omega
      obtain ⟨m, hm⟩ : ∃ m, j = m + 1 := ⟨j - 1, by omega⟩
      have e0 : (j : Int) - 1 = (m : Int) := by omega
      have HM : Aside (j - 1 = m) := by show _ = _; omega
      have hc1 : wr.cell? ⟨g, o + j, none⟩ = some (.string (btx (V j))) := (HX.out.2.1.below HB.out) j _ (fulL_get V (by omega))
      have hc2 : wr.cell? ⟨g, o + m, none⟩ = some (.string (btx (V m))) := (HX.out.2.1.below HB.out) m _ (fulL_get V (by omega))
      have HN : Aside (fndB V (L k) (j + 1 - 1) = (d || (decide (btx (V j) = btx (L k)) && decide (btx (V j) = btx (V m))))) := by
        show _ = _
        rw [HI.out, HM.out, show j + 1 - 1 = m + 1 by omega, HF.out, hm]
      have hmk : m ≤ k := by omega
      clear hm HI HM
      generalize btx (V j) = bj at *
      generalize btx (V m) = bm at *
      generalize btx (L k) = bl at *
      cases d with
      | true =>
        have HN2 : Aside (fndB V (L k) (j + 1 - 1) = true) := by show _ = _; rw [HN.out]; rfl
        clear hc1 hc2 HN
        go_wp2_with fail
        go_quiet (fail)
        go_wp2
        go_roundw
        case rel => exact ⟨j + 1, true, by omega, by omega, rfl, by go_num, HN2.out.symm, Below.drewN' HB.out _⟩
        case measure => simp [intOf]; omega
      | false =>
        by_cases h1 : bj = bl
        · have hy1 : (bj.toList == bl.toList) = true := by rw [eqs]; exact decide_eq_true h1
          by_cases h2 : bj = bm
          · have hy2 : (bj.toList == bm.toList) = true := by rw [eqs]; exact decide_eq_true h2
            have HN2 : Aside (fndB V (L k) (j + 1 - 1) = true) := by show _ = _; rw [HN.out, decide_eq_true h1, decide_eq_true h2]; rfl
            clear h1 h2 HN
            go_wp2_with fail
            go_quiet (fail)
            go_wp2
            go_roundw
            case rel => exact ⟨j + 1, true, by omega, by omega, rfl, by go_num, HN2.out.symm, Below.drewN' HB.out _⟩
            case measure => simp [intOf]; omega
          · have hy2 : (bj.toList == bm.toList) = false := by rw [eqs]; exact decide_eq_false h2
            have HN2 : Aside (fndB V (L k) (j + 1 - 1) = false) := by show _ = _; rw [HN.out, decide_eq_true h1, decide_eq_false h2]; rfl
            clear h1 h2 HN
            go_wp2_with fail
            go_quiet (fail)
            go_wp2
            go_roundw
            case rel => exact ⟨j + 1, false, by omega, by omega, rfl, by go_num, HN2.out.symm, Below.drewN' HB.out _⟩
            case measure => simp [intOf]; omega
        · have hy1 : (bj.toList == bl.toList) = false := by rw [eqs]; exact decide_eq_false h1
          have HN2 : Aside (fndB V (L k) (j + 1 - 1) = false) := by show _ = _; rw [HN.out, decide_eq_false h1]; rfl
          clear h1 HN
          go_wp2_with fail
          go_quiet (fail)
          go_wp2
          go_roundw
          case rel => exact ⟨j + 1, false, by omega, by omega, rfl, by go_num, HN2.out.symm, Below.drewN' HB.out _⟩
          case measure => simp [intOf]; omega
    · have hjk' : ¬ (j : Int) ≤ (k : Int) := by omega
      have hd : d = true := by rw [HI.out, show j - 1 = k by omega, HE.out]
      subst hd
      go_wp2
      refine HK.out _ _ ?_
      rw [← HQ.out]
      exact di40_wp g o cap k keep wB wr HX.out.1 HX.out.2.1 hk hcap HB.out HX.out.2.2.2

set_option maxHeartbeats 4000000 in
theorem di30_wp {c0 c1 c4 c5 c6 c7 c8 c9 c13 c14 c15 c16 c18 c20 c21 c22 c23 c24 c25 c26 c27 c28 c29 c30 c31 c32 c33 c34 c35 c36 c37 c38 c39 c40 c41 c42 c43 c44 c45 c46 c47 c48 c49 c50 c51 c52 c53 c54 c55 c56 c57 c58 c59 c60 c61 c62 c63 c64 c65 c66 c67 c68 c69 c70 c71 c72 c73 c74 c75 c76 c77 c78 c79 c80 c81 c82 c83 c84 c85 c86 c87 c88 c89 c90 c91 c92 c93 c94 c95 c96 c97 c98 c99 c100 c101 c102 c103 c104 c105 c106 c107 c108 c109 c110 c111 c112 c113 c114 c115 c116 c117 c118 c119 c120 c121 c122 c123 c124 c125 c126 c127 c128 c129 c130 c131 c132 c133 c134 c135 c136 c137 c138 c139 c140 c141 c142 c143 c144 c145 c146 c147 c148 c149 c150 c151 c152 c153 c154 c155 c156 c157 c158 c159 c160 c161 c162 c163 c164 c165 c166 c167 c168 c169 c170 c171 c172 c173 c174 c175 c176 c177 c178 c179 c180 c181 c182 c183 c184 c185 c186 c187 c188 c189 c190 c191 c192 c193 c194 c195 c196 c197 c198 c199 c200 c201 c202 c203 c204 c205 c206 c207 c208 c209 c210 c211 c212 c213 c214 c215 c216 c217 c218 c219 : Value} (g o cap : Nat) (after keep : Int) (wB w : World) (C : DiC w0 n act L V F a cb co cc) (hS : SA w0 g o (fulL V n)) (hcap : n + 1 ≤ cap) (hb : Below w0.heap.size w0 w) (hB : Below wB.heap.size wB w0) (ha1 : -9223372036854775808 ≤ after) (ha2 : after ≤ 9223372036854775807) :
    Code.wp Tryd.prog (sfxD Tryd.f10 30) (diQ wB) ⟨#[c0, c1, .int .i64 after, .int .i64 keep, c4, c5, c6, c7, c8, c9, .pointer (some ⟨a, 0, none⟩), .slice (some ⟨cb, co, none⟩) 1 cc, .string (btx (V 0)), c13, c14, c15, c16, .int .i64 (n : Int), c18, .slice (some ⟨g, o, none⟩) (n + 1) cap, c20, c21, c22, c23, c24, c25, c26, c27, c28, c29, c30, c31, c32, c33, c34, c35, c36, c37, c38, c39, c40, c41, c42, c43, c44, c45, c46, c47, c48, c49, c50, c51, c52, c53, c54, c55, c56, c57, c58, c59, c60, c61, c62, c63, c64, c65, c66, c67, c68, c69, c70, c71, c72, c73, c74, c75, c76, c77, c78, c79, c80, c81, c82, c83, c84, c85, c86, c87, c88, c89, c90, c91, c92, c93, c94, c95, c96, c97, c98, c99, c100, c101, c102, c103, c104, c105, c106, c107, c108, c109, c110, c111, c112, c113, c114, c115, c116, c117, c118, c119, c120, c121, c122, c123, c124, c125, c126, c127, c128, c129, c130, c131, c132, c133, c134, c135, c136, c137, c138, c139, c140, c141, c142, c143, c144, c145, c146, c147, c148, c149, c150, c151, c152, c153, c154, c155, c156, c157, c158, c159, c160, c161, c162, c163, c164, c165, c166, c167, c168, c169, c170, c171, c172, c173, c174, c175, c176, c177, c178, c179, c180, c181, c182, c183, c184, c185, c186, c187, c188, c189, c190, c191, c192, c193, c194, c195, c196, c197, c198, c199, c200, c201, c202, c203, c204, c205, c206, c207, c208, c209, c210, c211, c212, c213, c214, c215, c216, c217, c218, c219], []⟩ w := by
  conv => arg 2; whnf
  have hn60 := C.ac.few
  generalize hQ : diQ wB = Q
  have HQ : Aside (diQ wB = Q) := hQ
  clear hQ
  have hpk : Calls Tryd.prog 32 #[.int .i64 after, .int .i64 ((n : Int) + 1)] w fun e w' => e = .returned (.int .i64 (pickV after (n + 1) : Nat)) ∧ w' = w := pickG_any after (n + 1) w ha1 ha2 (by omega) (by omega)
  have hkm : pickV after (n + 1) ≤ n := Nat.le_of_lt_succ (pickV_lt after (n + 1) (by omega))
  generalize pickV after (n + 1) = k at *
  have z0 := (C.ac.sv 0 (Nat.zero_le _)).size
  have zl := (C.ac.sl k hkm).size
  have zf := C.zf hkm keep
  have HX : Aside (DiC w0 n act L V F a cb co cc ∧ SA w0 g o (fulL V n) ∧ Below w0.heap.size w0 w ∧ Below wB.heap.size wB w0) := ⟨C, hS, hb, hB⟩
  have H0 : Aside (∀ wx, Below w0.heap.size w0 wx → Calls Tryd.prog 47 #[.pointer (some ⟨a, 0, none⟩), .slice (some ⟨cb, co, none⟩) 1 cc, .int .i64 (k : Int), .int .i64 0] wx fun e w' => e = .returned (.string (btx (L k))) ∧ Below wx.heap.size wx w') := fun wx hx => by
    have h1 := C.fa wx hx k 0 hkm
    rw [failL_none] at h1
    exact h1
  clear C hS hb hB ha1 ha2
  go_wp2_with fail
  refine hpk.mono ?_
  rintro e w1 ⟨rfl, rfl⟩
  clear hpk
  have g1 := H0.out w1 HX.out.2.2.1
  go_wp2_with fail
  refine g1.mono ?_
  rintro e w2 ⟨rfl, b2⟩
  have HB2 : Aside (Below w0.heap.size w0 w2) := HX.out.2.2.1.trans (b2.mono HX.out.2.2.1.size)
  clear g1 b2
  have g2 := HX.out.1.fa w2 HB2.out k keep hkm
  go_wp2_with fail
  rename_i K hK K1 hK1
  have HK : Aside (∀ a w, _ → K a w) := hK
  clear hK
  refine g2.mono ?_
  rintro e w3 ⟨rfl, b3⟩
  have HB3 : Aside (Below w0.heap.size w0 w3) := HB2.out.trans (b3.mono HB2.out.size)
  clear g2 b3
  have HZ : Aside ((btx (V 0)).size = 25600 ∧ (btx (L k)).size = 25600 ∧ (btx (failL keep 0 (F k) (L k))).size = 25600) := ⟨z0, zl, zf⟩
  clear z0 zl zf
  go_wp2
  refine HK.out _ _ ?_
  clear HK
  refine wp_seq_k ?_
  intro K4 hK4
  have HK4 : Aside (∀ a w, _ → K4 a w) := hK4
  clear hK4
  have z0 := HZ.out.1
  have zl := HZ.out.2.1
  have zf := HZ.out.2.2
  go_wp2
  refine HK4.out _ _ ?_
  rw [← HQ.out]
  exact di35_wp g o cap k keep wB w3 HX.out.1 HX.out.2.1 hkm hcap HB3.out HX.out.2.2.2
end
end Go.Proofs.YtlhohmlpcgbliaaDoor
namespace Go.Proofs.YtlhohmlpcgbliaaDoor
set_option maxRecDepth 100000
open Go.RowKit
attribute [local go_sem ↓] Go.wp_at_zero Go.wp_at_succ

/-- The bytes behind the first acts. -/
def allL (V : Nat → List (List Nat)) (j : Nat) : List ByteArray := (List.range j).map fun j => btx (V j)
theorem allL_len (V : Nat → List (List Nat)) (j : Nat) : (allL V j).length = j := by simp [allL]
theorem allL_succ (V : Nat → List (List Nat)) (j : Nat) : strv (allL V j) ++ [.string (btx (V j))] = strv (allL V (j + 1)) := by
  unfold allL
  rw [List.range_succ, List.map_append, strv_append]
  rfl
theorem row_sliceG {w : World} {base : Nat} {v : Value} {ss : List ByteArray} (h : Row w base 9 v (strv ss)) (h0 : 0 < ss.length) : ∃ g cap, v = .slice (some ⟨g, 0, none⟩) ss.length cap ∧ ss.length ≤ cap ∧ SA w g 0 ss := by
  obtain ⟨g, cap, rfl, h2, h3, h4, hc, _⟩ := h.form (by rw [strv_length]; exact h0)
  rw [strv_length] at h h3
  exact ⟨g, cap, by rw [strv_length], by omega, SA.of_row h h0⟩

section
variable {n : Nat} {act : Nat → Option (Nat × List Nat)} {L V : Nat → List (List Nat)} {F : Nat → List (Nat × List Nat)} {a cb co cc : Nat}
theorem DiC.below {w0 w1 : World} (C : DiC w0 n act L V F a cb co cc) (h : Below w0.heap.size w0 w1) : DiC w1 n act L V F a cb co cc := ⟨C.ac, fun wx hx => C.fa wx (h.trans (hx.mono h.size))⟩

set_option maxHeartbeats 8000000 in
theorem di18_wp {c0 c1 c4 c5 c6 c7 c8 c9 c14 c15 c16 c18 c19 c20 c21 c22 c23 c24 c25 c26 c27 c28 c29 c30 c31 c32 c33 c34 c35 c36 c37 c38 c39 c40 c41 c42 c43 c44 c45 c46 c47 c48 c49 c50 c51 c52 c53 c54 c55 c56 c57 c58 c59 c60 c61 c62 c63 c64 c65 c66 c67 c68 c69 c70 c71 c72 c73 c74 c75 c76 c77 c78 c79 c80 c81 c82 c83 c84 c85 c86 c87 c88 c89 c90 c91 c92 c93 c94 c95 c96 c97 c98 c99 c100 c101 c102 c103 c104 c105 c106 c107 c108 c109 c110 c111 c112 c113 c114 c115 c116 c117 c118 c119 c120 c121 c122 c123 c124 c125 c126 c127 c128 c129 c130 c131 c132 c133 c134 c135 c136 c137 c138 c139 c140 c141 c142 c143 c144 c145 c146 c147 c148 c149 c150 c151 c152 c153 c154 c155 c156 c157 c158 c159 c160 c161 c162 c163 c164 c165 c166 c167 c168 c169 c170 c171 c172 c173 c174 c175 c176 c177 c178 c179 c180 c181 c182 c183 c184 c185 c186 c187 c188 c189 c190 c191 c192 c193 c194 c195 c196 c197 c198 c199 c200 c201 c202 c203 c204 c205 c206 c207 c208 c209 c210 c211 c212 c213 c214 c215 c216 c217 c218 c219 : Value} (after keep : Int) (a1 : Nat) (wB w : World) (C : DiC w n act L V F a cb co cc) (hT : ∀ wx, Below w.heap.size w wx → Calls Tryd.prog 44 #[.pointer (some ⟨a1, 0, none⟩)] wx fun e w' => e = .returned (.string (btx (V n))) ∧ Below wx.heap.size wx w') (hB : Below wB.heap.size wB w) (ha1 : -9223372036854775808 ≤ after) (ha2 : after ≤ 9223372036854775807) :
    Code.wp Tryd.prog (sfxD Tryd.f10 18) (diQ wB) ⟨#[c0, c1, .int .i64 after, .int .i64 keep, c4, c5, c6, c7, c8, c9, .pointer (some ⟨a, 0, none⟩), .slice (some ⟨cb, co, none⟩) 1 cc, .string (btx (V 0)), .pointer (some ⟨a1, 0, none⟩), c14, c15, c16, .int .i64 (n : Int), c18, c19, c20, c21, c22, c23, c24, c25, c26, c27, c28, c29, c30, c31, c32, c33, c34, c35, c36, c37, c38, c39, c40, c41, c42, c43, c44, c45, c46, c47, c48, c49, c50, c51, c52, c53, c54, c55, c56, c57, c58, c59, c60, c61, c62, c63, c64, c65, c66, c67, c68, c69, c70, c71, c72, c73, c74, c75, c76, c77, c78, c79, c80, c81, c82, c83, c84, c85, c86, c87, c88, c89, c90, c91, c92, c93, c94, c95, c96, c97, c98, c99, c100, c101, c102, c103, c104, c105, c106, c107, c108, c109, c110, c111, c112, c113, c114, c115, c116, c117, c118, c119, c120, c121, c122, c123, c124, c125, c126, c127, c128, c129, c130, c131, c132, c133, c134, c135, c136, c137, c138, c139, c140, c141, c142, c143, c144, c145, c146, c147, c148, c149, c150, c151, c152, c153, c154, c155, c156, c157, c158, c159, c160, c161, c162, c163, c164, c165, c166, c167, c168, c169, c170, c171, c172, c173, c174, c175, c176, c177, c178, c179, c180, c181, c182, c183, c184, c185, c186, c187, c188, c189, c190, c191, c192, c193, c194, c195, c196, c197, c198, c199, c200, c201, c202, c203, c204, c205, c206, c207, c208, c209, c210, c211, c212, c213, c214, c215, c216, c217, c218, c219], []⟩ w := by
  conv => arg 2; whnf
  have hn60 := C.ac.few
  generalize hQ : diQ wB = Q
  have HQ : Aside (diQ wB = Q) := hQ
  clear hQ
  have HX : Aside (DiC w n act L V F a cb co cc ∧ (∀ wx, Below w.heap.size w wx → Calls Tryd.prog 44 #[.pointer (some ⟨a1, 0, none⟩)] wx fun e w' => e = .returned (.string (btx (V n))) ∧ Below wx.heap.size wx w') ∧ Below wB.heap.size wB w ∧ -9223372036854775808 ≤ after ∧ after ≤ 9223372036854775807) := ⟨C, hT, hB, ha1, ha2⟩
  have z0 := (C.ac.sv 0 (Nat.zero_le _)).size
  have H0 : Aside (∀ j, j ≤ n → ∀ wx, Below w.heap.size w wx → Calls Tryd.prog 47 #[.pointer (some ⟨a, 0, none⟩), .slice (some ⟨cb, co, none⟩) 1 cc, .int .i64 (j : Int), .int .i64 (-1)] wx fun e w' => e = .returned (.string (btx (V j))) ∧ Below wx.heap.size wx w') := fun j hj wx hx => by
    have h1 := C.fa wx hx j (-1) hj
    rw [failL_all _ _ _ (by have := C.ac.few_loose j hj; omega), ← C.ac.v j hj] at h1
    exact h1
  have HZ : Aside (∀ j, j ≤ n → (btx (V j)).size = 25600) := fun j hj => (C.ac.sv j hj).size
  have HD : Aside (∀ j, j < n → dif (btx (V j)) (btx (V (j + 1))) 200 ≤ 1) := fun j hj => by
    have h1 := C.ac.near hj (btx (V j))
    rw [dif_self] at h1
    exact h1
  have hp := C.ac.pos
  clear C hT hB ha1 ha2
  go_wp2_with fail
  rename_i K hK
  have HK : Aside (∀ a w, _ → K a w) := hK
  clear hK
  go_loopw [19, 20] (fun u j' wr => ∃ j : Nat, j ≤ n + 1 ∧ j' = .int .i64 (j : Int) ∧ Aside (Row wr w.heap.size 9 u (strv (allL V j)) ∧ Below w.heap.size w wr)) (fun _ j' _ => n + 1 - (intOf j').toNat)
  case atStart => exact ⟨0, by omega, rfl, World.ownsRow_nil _ _ _ _, Below.refl _ _⟩
  case round =>
    obtain ⟨j, hj, rfl, HR⟩ := hrel
    by_cases hjn : j ≤ n
    · have hjn' : (j : Int) ≤ (n : Int) := by omega
      have hfa := H0.out j hjn wr HR.out.2
      have zj := HZ.out j hjn
      have HN : Aside (strv (allL V j) ++ [.string (btx (V j))] = strv (allL V (j + 1))) := allL_succ V j
      have hxl : (strv (allL V j)).length = j := by rw [strv_length, allL_len]
      generalize hxs : strv (allL V j) = xs at *
      have HRx : Aside (Row wr w.heap.size 9 _ xs ∧ Below w.heap.size w wr) := HR
      clear hxs
      go_wp2_with fail
      refine hfa.mono ?_
      rintro e w1 ⟨rfl, hb1⟩
      have hb := HR.out.2
      have hrow := HR.out.1
      have hsz0 := hb.size
      clear hfa
      go_wp2_with (first | (at_builtin; refine wpList_app elem_string rfl Tryd.underlying22 (by rfl) (.tmp 101) (.tmp 103) (by rfl) w.heap.size _ xs (by rfl) ((hrow.below hb1 (Nat.le_refl _)).alloc _) _ 1 1 [.string (btx (V j))] (by rfl) rfl (Blk.new _ 9 _) ?h1 ?hl ?hb ?hbs (w0 := w) ((hb.trans (hb1.mono hsz0)).alloc (Nat.le_trans hsz0 hb1.size) _) (Nat.le_refl _) ?_))
      case h1 => intro u hu; simp at hu; subst hu; rfl
      case hl => omega
      case hb => omega
      case hbs => have := hb1.size; simp; omega
      intro v' w' hv' _ hb'
      rw [HN.out] at hv'
      have H1 : Aside (Row w' w.heap.size 9 v' (strv (allL V (j + 1))) ∧ Below w.heap.size w w') := ⟨hv', hb'⟩
      clear hb hrow hsz0 hb1 HRx HR
      obtain ⟨g, cap, rfl, hcap, hSA⟩ := row_sliceG hv' (by rw [allL_len]; omega)
      rw [allL_len] at hcap
      clear hv' hb' hcap hxl
      rw [allL_len] at *
      by_cases hj0 : j = 0
      · subst hj0
        clear hSA
        go_wp2
        go_roundw
        case rel => exact ⟨1, by omega, by go_num, H1⟩
        case measure => simp [intOf]
      · obtain ⟨m, hm⟩ : ∃ m, j = m + 1 := ⟨j - 1, by omega⟩
        have hj0' : (0 : Int) < (j : Int) := by omega
        have e0 : (j : Int) - 1 = (m : Int) := by omega
        have hm1 : (m : Int) < (j : Int) + 1 := by omega
        have hc := hSA m (btx (V m)) (by unfold allL; rw [List.getElem?_map, List.getElem?_range (by omega)]; rfl)
        rw [Nat.zero_add] at hc
        have hdi := differ_any (btx (V m)) (btx (V j)) w' (HZ.out m (by omega)) zj
        have hd1 : dif (btx (V m)) (btx (V j)) 200 ≤ 1 := by rw [hm]; exact HD.out m (by omega)
        generalize dif (btx (V m)) (btx (V j)) 200 = d at *
        have hd1' : ¬ (1 : Int) < (d : Int) := by omega
        clear hSA hm
        go_wp2_with fail
        refine hdi.mono ?_
        rintro e w2 ⟨rfl, hb2⟩
        have H2 : Aside (Row w2 w.heap.size 9 _ (strv (allL V (j + 1))) ∧ Below w.heap.size w w2) := ⟨H1.out.1.below hb2 (Nat.le_refl _), H1.out.2.trans (hb2.mono H1.out.2.size)⟩
        clear hdi hc hb2
        go_wp2
        go_roundw
        case rel => exact ⟨j + 1, by omega, by go_num, H2⟩
        case measure => simp [intOf]; omega
    · have hjn' : ¬ (j : Int) ≤ (n : Int) := by omega
      have hj1 : j = n + 1 := by omega
      have hrow := HR.out.1
      rw [hj1] at hrow
      obtain ⟨g, cap, hv, hcap, hSA⟩ := row_sliceG hrow (by rw [allL_len]; omega)
      rw [allL_len] at hv hcap
      have HS : Aside (SA wr g 0 (fulL V n) ∧ Below w.heap.size w wr) := ⟨hSA, HR.out.2⟩
      clear hrow hSA HR
      subst hv
      go_wp2
      refine HK.out _ _ ?_
      clear HK hjn' hjn hj
      obtain ⟨m, rfl⟩ : ∃ m, n = m + 1 := ⟨n - 1, by omega⟩
      refine wp_seq_k ?_
      intro K4 hK4
      have HK4 : Aside (∀ a w, _ → K4 a w) := hK4
      clear hK4
      have hT2 : ∀ wx, Below wr.heap.size wr wx → Calls Tryd.prog 44 #[.pointer (some ⟨a1, 0, none⟩)] wx fun e w' => e = .returned (.string (btx (V (m + 1)))) ∧ Below wx.heap.size wx w' := fun wx hx => HX.out.2.1 wx (HS.out.2.trans (hx.mono HS.out.2.size))
      have c0 := HS.out.1 0 _ (fulL_get V (Nat.zero_le _))
      have c1 := HS.out.1 (m + 1) _ (fulL_get V (Nat.le_refl _))
      have c2 := HS.out.1 m _ (fulL_get V (Nat.le_succ _))
      have e1 : btx (V m) = btx (V (m + 1)) := by
        have := HX.out.1.ac.end'.1
        rw [show m + 1 - 1 = m from rfl] at this
        rw [this]
      rw [e1] at c2
      have HCC : Aside (wr.cell? ⟨g, 0 + 0, none⟩ = some (.string (btx (V 0))) ∧ wr.cell? ⟨g, 0 + (m + 1), none⟩ = some (.string (btx (V (m + 1)))) ∧ wr.cell? ⟨g, 0 + m, none⟩ = some (.string (btx (V (m + 1))))) := ⟨c0, c1, c2⟩
      have HT2 : Aside (∀ wx, Below wr.heap.size wr wx → Calls Tryd.prog 44 #[.pointer (some ⟨a1, 0, none⟩)] wx fun e w' => e = .returned (.string (btx (V (m + 1)))) ∧ Below wx.heap.size wx w') := hT2
      clear c0 c1 c2 e1 hT2 hj1
      go_wp2_with fail
      refine di28_wp g cap m a1 (btx (V 0)) (btx (V (m + 1))) wr _ HCC.out.1 HCC.out.2.1 HCC.out.2.2 (by omega) HT2.out ?_
      intro u117 u118 u119 u120 u121 u122 u123 u124 u125 u126 u127 u128 u129 u130 u131 u132 u133 u134 u135 u136 u137 u138 u139 u140 u141 w' hb'
      have HB' : Aside (Below wr.heap.size wr w') := hb'
      clear hb'
      go_wp2
      refine HK4.out _ _ ?_
      rw [← HQ.out]
      exact di30_wp g 0 cap after keep wB w' (HX.out.1.below HS.out.2) HS.out.1 hcap HB'.out (HX.out.2.2.1.trans (HS.out.2.mono HX.out.2.2.1.size)) HX.out.2.2.2.1 HX.out.2.2.2.2
end
end Go.Proofs.YtlhohmlpcgbliaaDoor
namespace Go.Proofs.YtlhohmlpcgbliaaDoor
set_option maxRecDepth 100000
open Go.RowKit
attribute [local go_sem ↓] Go.wp_at_zero Go.wp_at_succ

/-- What Disk's numbers are. -/
structure DisP (C : Dk) (E : List ByteArray) (t : ByteArray) (n : Nat) (act : Nat → Option (Nat × List Nat)) (L V : Nat → List (List Nat)) (F : Nat → List (Nat × List Nat)) : Prop where
  ac : Acts n act L V F
  v0 : btx (V 0) = strOf C.las.flatten
  vn : btx (V n) = strOf (C.add [t]).las.flatten
  fb : ∀ j, j ≤ n → ∀ keep, strOf (C.fby t j keep).flatten = btx (failL keep 0 (F j) (L j))
  acts : (C.add [t]).acts = n
  d1 : 1 ≤ dif (btx (V 0)) (btx (V n)) 200
  d2 : dif (btx (V 0)) (btx (V n)) 200 ≤ n - 1
  h0 : Holds C E
  h1 : Holds (C.add [t]) (E ++ [t])
theorem disP {C : Dk} {E : List ByteArray} {t : ByteArray} (h : Holds C E) (hl : E.length ≤ 20) (ht : t.size ≤ 40) (ha : C.acts = 0) : ∃ n act L V F, DisP C E t n act L V F := by
  have A := add_acts h hl ht
  have hA := add_spec h (W := [t]) (by simp) (fun s hs => by rw [List.mem_singleton.1 hs]; exact ht) (by simp; omega)
  have e0 : putL (stg C t 0).fre (stg C t 0).las = C.las := by
    show putL C.fre C.las = C.las
    rw [h.fre]; rfl
  have en : putL (stg C t (adA C [t]).length).fre (stg C t (adA C [t]).length).las = (C.add [t]).las := by
    rw [stg_end h t, hA.fre]; rfl
  have hne : secS (btx C.las) 0 ≠ secS (btx (C.add [t]).las) 0 := by
    intro e
    rw [sec_iff h.ok.secL hA.ok.secL (by omega)] at e
    have r1 : C.read 0 = C.las.getD 0 [] := by unfold Dk.read; rw [h.fre]; rfl
    have r2 : (C.add [t]).read 0 = (C.add [t]).las.getD 0 [] := by unfold Dk.read; rw [hA.fre]; rfl
    have k1 := h.ckN
    have k2 := hA.ckN
    unfold Dk.ckN at k1 k2
    rw [r1, e, ← r2, k2, List.length_append] at k1
    simp at k1
  have hac := nf_add_acts h.nf [t] (by rw [h.ckN]; simp; omega) (by omega) (by omega)
  rw [ha, Int.zero_add] at hac
  have hp := A.pos
  have hfar := A.far ((adA C [t]).length - 1) (by omega)
  rw [← A.end'.1] at hfar
  simp only [e0, en] at hfar
  refine ⟨_, _, _, _, _, A, ?_, ?_, ?_, hac, ?_, ?_, h, hA⟩
  · simp only [e0]; rfl
  · simp only [en]; rfl
  · intro j hj keep
    rw [fby_eq h hl ht ha hj keep]; rfl
  · simp only [e0, en]; exact dif_pos hne 200 (by omega)
  · simp only [e0, en]; exact hfar

set_option maxHeartbeats 8000000 in
theorem di4_wp {c0 c4 c5 c6 c7 c8 c10 c11 c12 c13 c14 c15 c16 c17 c18 c19 c20 c21 c22 c23 c24 c25 c26 c27 c28 c29 c30 c31 c32 c33 c34 c35 c36 c37 c38 c39 c40 c41 c42 c43 c44 c45 c46 c47 c48 c49 c50 c51 c52 c53 c54 c55 c56 c57 c58 c59 c60 c61 c62 c63 c64 c65 c66 c67 c68 c69 c70 c71 c72 c73 c74 c75 c76 c77 c78 c79 c80 c81 c82 c83 c84 c85 c86 c87 c88 c89 c90 c91 c92 c93 c94 c95 c96 c97 c98 c99 c100 c101 c102 c103 c104 c105 c106 c107 c108 c109 c110 c111 c112 c113 c114 c115 c116 c117 c118 c119 c120 c121 c122 c123 c124 c125 c126 c127 c128 c129 c130 c131 c132 c133 c134 c135 c136 c137 c138 c139 c140 c141 c142 c143 c144 c145 c146 c147 c148 c149 c150 c151 c152 c153 c154 c155 c156 c157 c158 c159 c160 c161 c162 c163 c164 c165 c166 c167 c168 c169 c170 c171 c172 c173 c174 c175 c176 c177 c178 c179 c180 c181 c182 c183 c184 c185 c186 c187 c188 c189 c190 c191 c192 c193 c194 c195 c196 c197 c198 c199 c200 c201 c202 c203 c204 c205 c206 c207 c208 c209 c210 c211 c212 c213 c214 c215 c216 c217 c218 c219 : Value} (one : ByteArray) (after keep : Int) (v : Value) (us : List ByteArray) (wB w : World) (hS : LS w v us) (hl : us.length ≤ 20) (hz : ∀ s ∈ us, s.size ≤ 40) (hb : Below wB.heap.size wB w) (ho1 : one.size ≤ 140737488355328) (ha1 : -9223372036854775808 ≤ after) (ha2 : after ≤ 9223372036854775807) (ht : Table wB) (hg : 2 < wB.heap.size) :
    Code.wp Tryd.prog (sfxD Tryd.f10 4) (diQ wB) ⟨#[c0, .string one, .int .i64 after, .int .i64 keep, c4, c5, c6, c7, c8, v, c10, c11, c12, c13, c14, c15, c16, c17, c18, c19, c20, c21, c22, c23, c24, c25, c26, c27, c28, c29, c30, c31, c32, c33, c34, c35, c36, c37, c38, c39, c40, c41, c42, c43, c44, c45, c46, c47, c48, c49, c50, c51, c52, c53, c54, c55, c56, c57, c58, c59, c60, c61, c62, c63, c64, c65, c66, c67, c68, c69, c70, c71, c72, c73, c74, c75, c76, c77, c78, c79, c80, c81, c82, c83, c84, c85, c86, c87, c88, c89, c90, c91, c92, c93, c94, c95, c96, c97, c98, c99, c100, c101, c102, c103, c104, c105, c106, c107, c108, c109, c110, c111, c112, c113, c114, c115, c116, c117, c118, c119, c120, c121, c122, c123, c124, c125, c126, c127, c128, c129, c130, c131, c132, c133, c134, c135, c136, c137, c138, c139, c140, c141, c142, c143, c144, c145, c146, c147, c148, c149, c150, c151, c152, c153, c154, c155, c156, c157, c158, c159, c160, c161, c162, c163, c164, c165, c166, c167, c168, c169, c170, c171, c172, c173, c174, c175, c176, c177, c178, c179, c180, c181, c182, c183, c184, c185, c186, c187, c188, c189, c190, c191, c192, c193, c194, c195, c196, c197, c198, c199, c200, c201, c202, c203, c204, c205, c206, c207, c208, c209, c210, c211, c212, c213, c214, c215, c216, c217, c218, c219], []⟩ w := by
  conv => arg 2; whnf
  generalize hQ : diQ wB = Q
  have HQ : Aside (diQ wB = Q) := hQ
  clear hQ
  have T : Aside (∀ wx, Below wB.heap.size wB wx → Table wx ∧ 2 < wx.heap.size) := fun wx hx => ⟨table_at hx hg ht, Nat.lt_of_lt_of_le hg hx.size⟩
  have C1 : Aside (∀ wx, Calls Tryd.prog 41 #[.string one] wx fun e w' => e = .returned (.string (cutS one)) ∧ w' = wx) := fun wx => cutS_any one wx ho1
  have s1 := cutS_size one
  generalize cutS one = t at *
  have HA : Aside (-9223372036854775808 ≤ after ∧ after ≤ 9223372036854775807) := ⟨ha1, ha2⟩
  have g5 := grownL_any v us w hS (by omega) hz (T.out w hb).1 (T.out w hb).2
  clear hS hz ht hg ho1 ha1 ha2
  go_wp2_with fail
  refine g5.mono ?_
  rintro e w5 ⟨a, b, fv, D, rfl, hL, hH, b5, ha, hb', hfo⟩
  clear g5 ha hb' hfo
  have hB5 := hb.trans (b5.mono hb.size)
  have hal : Below w5.heap.size w5 (w5.alloc (.cells #[.string t] 9)) := (Below.refl _ _).alloc (Nat.le_refl _) _
  have hBk : Blk (w5.alloc (.cells #[.string t] 9)) w5.heap.size 9 [.string t] := Blk.new w5 9 [.string t]
  have HD : Aside (LogAt (w5.alloc (.cells #[.string t] 9)) a b fv (.slice none 0 0) D [] ∧ Below wB.heap.size wB (w5.alloc (.cells #[.string t] 9)) ∧ SA (w5.alloc (.cells #[.string t] 9)) w5.heap.size 0 [t] ∧ w5.heap.size < (w5.alloc (.cells #[.string t] 9)).heap.size) := ⟨hL.below hal, hB5.trans (hal.mono hB5.size), SA.of_blk (ss := [t]) hBk, hBk.lt⟩
  have hlas : (Dk.of D.las.flatten).las = D.las := (Same.of hH.nf hH.ok hH.fre).las.symm
  obtain ⟨n, act, L, V, F, P⟩ := disP (C := Dk.of D.las.flatten) (t := t) hH.again hl s1 rfl
  have HFB : Aside (∀ (w : World), LogAt w a b fv (.slice none 0 0) D [] → ∀ (cb co cc : Nat), SA w cb co [t] → cb < w.heap.size → ∀ (j : Nat) (keep : Int), Table w → 2 < w.heap.size → Calls Tryd.prog 47 #[.pointer (some ⟨a, 0, none⟩), .slice (some ⟨cb, co, none⟩) 1 cc, .int .i64 (j : Int), .int .i64 keep] w fun e w' => e = .returned (.string (strOf ((Dk.of D.las.flatten).fby t j keep).flatten)) ∧ Below w.heap.size w w') := fun w hLw cb co cc hSA hcb j keep ht hg => failed_fby hLw hH.again (by omega) cb co cc t hSA hcb s1 j keep ht hg
  have HCP : Aside (∀ (w : World), LogAt w a b fv (.slice none 0 0) D [] → Table w → 2 < w.heap.size → Calls Tryd.prog 43 #[.pointer (some ⟨a, 0, none⟩)] w fun e w' => ∃ a', e = .returned (.pointer (some ⟨a', 0, none⟩)) ∧ Lg w w' a' (Dk.of D.las.flatten) []) := fun w hLw ht hg => Lg.copied hLw hH.again ht hg
  clear hL hH b5 hb hB5 hal hBk
  generalize Dk.of D.las.flatten = C at *
  have HL : Aside (C.las = D.las) := hlas
  have HP : Aside (DisP C us t n act L V F) := P
  have hn60 := P.ac.few
  have hn2 := P.ac.pos
  have hd1 := P.d1
  have hd2 := P.d2
  have z0 := (P.ac.sv 0 (by omega)).size
  have zn := (P.ac.sv n (by omega)).size
  clear P hlas
  go_wp2_with fail
  refine (C1.out w5).mono ?_
  rintro e w5' ⟨rfl, rfl⟩
  clear C1
  go_wp2_with fail
  generalize w5'.alloc (.cells #[.string t] 9) = w6 at *
  generalize w5'.heap.size = cb at *
  have g8 := logBytes_any HD.out.1
  rw [← HL.out, ← HP.out.v0] at g8
  refine g8.mono ?_
  rintro e w7 ⟨rfl, b7⟩
  clear g8
  have hB7 := HD.out.2.1.trans (b7.mono HD.out.2.1.size)
  have H7 : Aside (LogAt w7 a b fv (.slice none 0 0) D [] ∧ Below wB.heap.size wB w7 ∧ SA w7 cb 0 [t] ∧ cb < w7.heap.size) := ⟨HD.out.1.below b7, hB7, HD.out.2.2.1.below b7, Nat.lt_of_lt_of_le HD.out.2.2.2 b7.size⟩
  clear b7 HD hB7
  have g9 := HCP.out w7 H7.out.1 (T.out w7 H7.out.2.1).1 (T.out w7 H7.out.2.1).2
  clear HCP
  go_wp2_with fail
  refine g9.mono ?_
  rintro e w8 ⟨a1, rfl, h8⟩
  clear g9
  have g10 : Calls Tryd.prog 40 #[.pointer (some ⟨a1, 0, none⟩), .slice (some ⟨cb, 0, none⟩) 1 1] w8 fun e w' => e = .returned (.int .i64 0) ∧ Lg w7 w' a1 C [t] := h8.submitS HP.out.h0.nf.failed HP.out.h0.jn cb 0 1 [t] (H7.out.2.2.1.below h8.bel) H7.out.2.2.2 (fun s hs => by rw [List.mem_singleton.1 hs]; exact s1) (by simp) (by rw [HP.out.h0.ckN]; simp; omega)
  clear h8
  go_wp2_with fail
  refine g10.mono ?_
  rintro e w9 ⟨rfl, h9⟩
  clear g10
  have g11 := h9.flush HP.out.h0.nf.failed HP.out.h0.jn (fun s hs => by rw [List.mem_singleton.1 hs]; exact s1) (by rw [HP.out.h0.ckN]; simp; omega) HP.out.h0.fre (by simp) HP.out.h1.nf.failed (T.out w7 H7.out.2.1).1 (T.out w7 H7.out.2.1).2
  clear h9
  generalize ((C.add [t]).ckN : Int) = q1 at *
  go_wp2_with fail
  refine g11.mono ?_
  rintro e w10 ⟨rfl, h10⟩
  clear g11
  have g12 := h10.acts
  rw [HP.out.acts] at g12
  go_wp2_with fail
  refine g12.mono ?_
  rintro e w11 ⟨rfl, rfl⟩
  clear g12
  have g13 := h10.bytes
  rw [← HP.out.vn] at g13
  clear h10
  go_wp2_with fail
  refine g13.mono ?_
  rintro e w12 ⟨rfl, h12⟩
  clear g13
  have g14 := differ_any (btx (V 0)) (btx (V n)) w12 z0 zn
  generalize dif (btx (V 0)) (btx (V n)) 200 = d at *
  go_wp2_with fail
  rename_i K hK K1 hK1
  have HK : Aside (∀ a w, _ → K a w) := hK
  clear hK
  refine g14.mono ?_
  rintro e w13 ⟨rfl, b13⟩
  clear g14
  have hT : ∀ wx, Below w13.heap.size w13 wx → Calls Tryd.prog 44 #[.pointer (some ⟨a1, 0, none⟩)] wx fun e w' => e = .returned (.string (btx (V n))) ∧ Below wx.heap.size wx w' := fun wx hx => by
    rw [HP.out.vn]
    obtain ⟨b', fv', wv', hL', _⟩ := (h12.below (b13.trans (hx.mono b13.size))).ex
    exact logBytes_any hL'
  have hb713 := h12.bel.trans (b13.mono h12.bel.size)
  have hC : DiC w13 n act L V F a cb 0 1 := ⟨HP.out.ac, fun wx hx j kp hj => by
    have h1 := hb713.trans (hx.mono hb713.size)
    have h2 := H7.out.2.1.trans (h1.mono H7.out.2.1.size)
    rw [← HP.out.fb j hj kp]
    exact HFB.out wx (H7.out.1.below h1) cb 0 1 (H7.out.2.2.1.below h1) (Nat.lt_of_lt_of_le H7.out.2.2.2 h1.size) j kp (T.out wx h2).1 (T.out wx h2).2⟩
  have HX : Aside (DiC w13 n act L V F a cb 0 1 ∧ (∀ wx, Below w13.heap.size w13 wx → Calls Tryd.prog 44 #[.pointer (some ⟨a1, 0, none⟩)] wx fun e w' => e = .returned (.string (btx (V n))) ∧ Below wx.heap.size wx w') ∧ Below wB.heap.size wB w13) := ⟨hC, hT, H7.out.2.1.trans (hb713.mono H7.out.2.1.size)⟩
  clear hT hC hb713 h12 b13 z0 zn HFB H7 HP
  go_wp2
  refine HK.out _ _ ?_
  clear HK
  refine wp_seq_k ?_
  intro K4 hK4
  have HK4 : Aside (∀ a w, _ → K4 a w) := hK4
  clear hK4
  obtain ⟨m, hm⟩ : ∃ m, n = m + 1 := ⟨n - 1, by omega⟩
  have e1 : (n : Int) - 1 = (m : Int) := by omega
  have f1 : ¬ (n : Int) < 2 := by omega
  have f2 : ¬ (500 : Int) < (n : Int) := by omega
  have f3 : ¬ (d : Int) < 1 := by omega
  have f4 : ¬ (m : Int) < (d : Int) := by omega
  clear hm
  go_wp2
  refine HK4.out _ _ ?_
  rw [← HQ.out]
  exact di18_wp after keep a1 wB w13 HX.out.1 HX.out.2.1 HX.out.2.2 HA.out.1 HA.out.2

set_option maxHeartbeats 1000000 in
theorem disk_walk (v : Value) (ss : List ByteArray) (one : ByteArray) (after keep : Int) (w : World) (hS : Strs w v ss) (hn : ss.length ≤ 140737488355328) (hz : ∀ s ∈ ss, s.size ≤ 140737488355328) (ho1 : one.size ≤ 140737488355328) (ha1 : -9223372036854775808 ≤ after) (ha2 : after ≤ 9223372036854775807) (ht : Table w) (hg : 2 < w.heap.size) :
    Calls Tryd.prog 10 #[v, .string one, .int .i64 after, .int .i64 keep] w fun e w' => e = .returned (.bool true) ∧ Below w.heap.size w w' := by
  have HT : Aside (Table w ∧ 2 < w.heap.size ∧ one.size ≤ 140737488355328 ∧ -9223372036854775808 ≤ after ∧ after ≤ 9223372036854775807) := ⟨ht, hg, ho1, ha1, ha2⟩
  clear ht hg ho1 ha1 ha2
  have g3 := entriesE_any v ss w hS hn hz
  go_enter Tryd.func10, Tryd.ntmps10
  go_wp2_with fail
  rename_i K hK K1 hK1
  have HK : Aside (∀ a w, _ → K a w) := hK
  clear hK
  refine g3.mono ?_
  rintro e w3 ⟨v', ts, rfl, hrow, hl64, htz, b3⟩
  clear g3 hS hz
  have B3 : Aside (Below w.heap.size w w3 ∧ LS w3 v' ts ∧ ∀ s ∈ ts, s.size ≤ 40) := ⟨b3, LS.of_row hrow, htz⟩
  clear b3 hrow htz
  go_wp2
  refine HK.out _ _ ?_
  refine wp_seq_k ?_
  intro K4 hK4
  have HK4 : Aside (∀ a w, _ → K4 a w) := hK4
  clear hK4 HK
  by_cases hn20 : ts.length > 20
  · have hls := B3.out.2.1
    rcases hls with ⟨_, h0⟩ | ⟨g, o, cap, rfl, hSA, hgl, hcap⟩
    · rw [h0] at hn20; simp at hn20
    · have hn20' : (ts.length : Int) > 20 := by omega
      have hsl : ∀ wx, (Instr.sliceAt 22 (.slice (some ⟨g, o, none⟩) ts.length cap) none (some (.int .i64 20)) none).run Tryd.prog wx = .ok (.slice (some ⟨g, o, none⟩) 20 cap) wx := fun wx => slice_h wx g o ts.length cap 20 (by omega)
      have HS : Aside (LS w3 (.slice (some ⟨g, o, none⟩) 20 cap) (ts.take 20)) := by
        right
        refine ⟨g, o, cap, ?_, hSA.take 20, hgl, ?_⟩
        · rw [List.length_take, Nat.min_eq_left (by omega)]
        · rw [List.length_take]; omega
      clear hSA hgl hcap
      go_wp2
      refine HK4.out _ _ ?_
      exact di4_wp one after keep _ (ts.take 20) w w3 HS.out (by rw [List.length_take]; omega) (fun s hs => B3.out.2.2 s (List.mem_of_mem_take hs)) B3.out.1 HT.out.2.2.1 HT.out.2.2.2.1 HT.out.2.2.2.2 HT.out.1 HT.out.2.1
  · have hn20' : ¬ (ts.length : Int) > 20 := by omega
    have hls := B3.out.2.1
    rcases hls with ⟨rfl, h0⟩ | ⟨g, o, cap, rfl, hSA, hgl, hcap⟩
    · go_wp2
      refine HK4.out _ _ ?_
      exact di4_wp one after keep _ ts w w3 B3.out.2.1 (by omega) B3.out.2.2 B3.out.1 HT.out.2.2.1 HT.out.2.2.2.1 HT.out.2.2.2.2 HT.out.1 HT.out.2.1
    · clear hSA hgl hcap
      go_wp2
      refine HK4.out _ _ ?_
      exact di4_wp one after keep _ ts w w3 B3.out.2.1 (by omega) B3.out.2.2 B3.out.1 HT.out.2.2.1 HT.out.2.2.2.1 HT.out.2.2.2.2 HT.out.1 HT.out.2.1
end Go.Proofs.YtlhohmlpcgbliaaDoor
