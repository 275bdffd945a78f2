import Derived.Test.YtlhohmlpcgbliabGreatDoorZY11
namespace Go.Proofs.YtlhohmlpcgbliabGreatDoor
set_option maxRecDepth 100000
open Go.RowKit
attribute [local go_sem ↓] Go.wp_at_zero Go.wp_at_succ

/-- What an append to the lists asks. -/
theorem wp_push {B w : World} {gm : Nat} {P R : Nat → Option AS} {N : Nat → Int} {T : List (List Value)} {av : Value} {col : Nat → Nat} (G : GA B w gm P R N T av col) {l g h i : Value} {mk : ByteArray} (hl : ∀ u, u = l ∨ u = g ∨ u = h ∨ u = i → MK w u mk ∧ ∀ j, u.ownBlock = some j → j < w.heap.size ∧ col j = 4) (hT : T.length ≤ 2000000)
    {o : Oper} {a : Act} {K : Act → World → Prop} {Q : Exit → Act → World → Prop} (s x : Operand) (ho : o.op = .call { callee := .builtin .append, args := #[s, x], argTypes := #[47, 47] }) (hs : a.eval s = av) (b : Nat) (hx : a.eval x = .slice (some ⟨b, 0, none⟩) 1 1) (hB : Blk w b 74 [l, g, h, i, .string mk])
    (hh : ∀ av' w2, (∃ p c, av' = .slice p (T.length + 1) c) → w2.cell? ⟨gm, 6, none⟩ = some av → w2.frozen? ⟨gm, 6, none⟩ = false → GA B (w2.setCell ⟨gm, 6, none⟩ av') gm P R N (T ++ [[l, g, h, i, .string mk]]) av' (cut4 (ncol col w.heap.size 2)) → K (a.put o.dst av') w2) : o.wp Tryz.prog a w K Q := by
  obtain ⟨it, hi, hiz, his, hib⟩ := elem_texts
  have hone : ∀ u ∈ [l, g, h, i, Value.string mk], u.oneCell' = true := by
    intro u hu
    simp only [List.mem_cons, List.not_mem_nil, or_false] at hu
    have hsl : ∀ v, MK w v mk → v.oneCell' = true := fun v hv => by
      obtain ⟨p, n, c, rfl, _⟩ := hv
      rfl
    rcases hu with rfl | rfl | rfl | rfl | rfl
    · exact hsl _ (hl _ (.inl rfl)).1
    · exact hsl _ (hl _ (.inr (.inl rfl))).1
    · exact hsl _ (hl _ (.inr (.inr (.inl rfl)))).1
    · exact hsl _ (hl _ (.inr (.inr (.inr rfl)))).1
    · rfl
  refine wp_append_lies w s x 47 ho 0 74 it _ 5 112 Tryz.underlying47 hi hiz his hib rfl (by omega) av T.length T.flatten hs G.row ⟨b, 0, none⟩ 1 1 [l, g, h, i, .string mk] hx (by simp) (fun j u hu => by rw [Addr.add_mid, Nat.zero_add, hB.cell]; exact hu) hone (by omega) (by unfold maxLen; omega) (by omega) (Nat.zero_le _) w.heap.size rfl ?_
  intro g2 cap w2 hrow hgr hg _
  have hne : some gm ≠ av.ownBlock := fun e => by
    have := G.avc gm e.symm
    rw [G.gmc] at this
    omega
  have hbk := hgr.block gm G.gl hne
  refine hh _ w2 ⟨_, _, rfl⟩ (by rw [World.cell?_of_block (a := ⟨gm, 6, none⟩) hbk]; exact G.ca) (by rw [World.frozen?_of_block (a := ⟨gm, 6, none⟩) hbk]; exact G.frozen 6) (G.push hl hrow hgr ?_)
  rcases hg with e | e
  · exact .inl e.symm
  · exact .inr (by rw [e]; rfl)
set_option maxHeartbeats 4000000 in
theorem gsR6_wp {c1 c2 c4 c5 c6 c7 c8 c10 c11 c12 c13 c14 c15 c16 c17 c18 c19 c20 c21 c22 c23 c24 c25 c26 c27 c28 c29 c30 c31 c32 c33 c34 c35 c36 c37 c38 c39 c40 c41 c42 c43 c44 c45 c46 c47 c48 c49 c50 c51 c52 c53 c54 c55 c56 c57 c58 c59 c60 c61 c62 c63 c64 c65 c66 c67 c68 c69 c70 c71 c72 c73 : Value} {B : World} {P R : Nat → Option AS} {N : Nat → Int} {T : List (List Value)} {av : Value} {col : Nat → Nat} (gm n : Nat) (r : Value) (ss : List ByteArray) (w : World) (Q : Exit → Act → World → Prop) (G : GA B w gm P R N T av col) (hr : Row w 0 9 r (strv ss)) (hrc : ∀ j, r.ownBlock = some j → j < w.heap.size ∧ col j = 4) (hl : ss.length ≤ 1000000000) (hn : n < 100000000) (hT : T.length ≤ 2000000)
    (hQ : ∀ (u45 u46 u47 u48 u49 u50 u51 u52 u53 u54 u55 u56 : Value) (t : List Value) (av' : Value) (col' : Nat → Nat) (w' : World), GA B w' gm P R N (T ++ [t]) av' col' → Q .normal ⟨#[.pointer (some ⟨gm, 0, none⟩), c1, c2, .int .i64 (n : Int), c4, c5, c6, c7, c8, r, c10, c11, c12, c13, c14, c15, c16, c17, c18, c19, c20, c21, c22, c23, c24, c25, c26, c27, c28, c29, c30, c31, c32, c33, c34, c35, c36, c37, c38, c39, c40, c41, c42, c43, c44, u45, u46, u47, u48, u49, u50, u51, u52, u53, u54, u55, u56, c57, c58, c59, c60, c61, c62, c63, c64, c65, c66, c67, c68, c69, c70, c71, c72, c73], []⟩ w') :
    Code.wp Tryz.prog (rgn Tryz.f36 6) Q ⟨#[.pointer (some ⟨gm, 0, none⟩), c1, c2, .int .i64 (n : Int), c4, c5, c6, c7, c8, r, c10, c11, c12, c13, c14, c15, c16, c17, c18, c19, c20, c21, c22, c23, c24, c25, c26, c27, c28, c29, c30, c31, c32, c33, c34, c35, c36, c37, c38, c39, c40, c41, c42, c43, c44, c45, c46, c47, c48, c49, c50, c51, c52, c53, c54, c55, c56, c57, c58, c59, c60, c61, c62, c63, c64, c65, c66, c67, c68, c69, c70, c71, c72, c73], []⟩ w := by
  obtain ⟨pv, cv, hpv⟩ := G.shp
  have hca := G.ca
  rw [hpv] at hca
  have hS : (fun wx : World => wx.cell? ⟨gm, 6, none⟩ = some (.slice pv T.length cv)) w.drew := hca
  have hb0 : Below w.heap.size w w.drew := (Below.refl w.heap.size w).drew
  have G0 := G.below hb0 4
  have hrc0 : ∀ j, r.ownBlock = some j → j < w.drew.heap.size ∧ ncol col w.heap.size 4 j = 4 := fun j hj => ⟨(hrc j hj).1, by rw [ncol_old (hrc j hj).1]; exact (hrc j hj).2⟩
  have hr0 : Row w.drew 0 9 r (strv ss) := hr.below hb0 (Nat.le_refl _)
  conv => arg 2; whnf
  refine wp_region_z 12 (fun wx : World => wx.cell? ⟨gm, 6, none⟩ = some (.slice pv T.length cv)) (by kernel_rfl) ?_
  refine wpAnyZ_pure (k := 0) (v := .pointer (some ⟨gm, 0, none⟩)) (by rfl) (by kernel_rfl) (by kernel_rfl) (by kernel_rfl) (by rfl) (some 45) (by rfl) (by kernel_rfl) hS (fun wx hx => by kernel_rfl) ?_
  simp only [Act.put, List.setIfInBounds_toArray, List.set_cons_succ, List.set_cons_zero]
  refine wpAnyZ_pure (k := 1) (v := .pointer (some ⟨gm, 0, none⟩)) (by rfl) (by kernel_rfl) (by kernel_rfl) (by kernel_rfl) (by rfl) (some 46) (by rfl) (by kernel_rfl) hS (fun wx hx => by kernel_rfl) ?_
  simp only [Act.put, List.setIfInBounds_toArray, List.set_cons_succ, List.set_cons_zero]
  refine wpAnyZ_pure (k := 2) (v := .pointer (some ⟨gm, 0, none⟩)) (by rfl) (by kernel_rfl) (by kernel_rfl) (by kernel_rfl) (by rfl) (some 47) (by rfl) (by kernel_rfl) hS (fun wx hx => by kernel_rfl) ?_
  simp only [Act.put, List.setIfInBounds_toArray, List.set_cons_succ, List.set_cons_zero]
  refine wpAnyZ_pure (k := 3) (v := .pointer (some ⟨gm, 6, none⟩)) (by rfl) (by kernel_rfl) (by kernel_rfl) (by kernel_rfl) (by rfl) (some 48) (by rfl) (by kernel_rfl) hS (fun wx hx => by kernel_rfl) ?_
  simp only [Act.put, List.setIfInBounds_toArray, List.set_cons_succ, List.set_cons_zero]
  refine wpAnyZ_pure (k := 4) (v := .slice pv T.length cv) (by rfl) (by kernel_rfl) (by kernel_rfl) (by kernel_rfl) (by rfl) (some 49) (by rfl) (by kernel_rfl) hS (fun wx hx => exec_ld (by rfl) (by rfl) (loadTx wx gm 6 _ _ _ hx)) ?_
  simp only [Act.put, List.setIfInBounds_toArray, List.set_cons_succ, List.set_cons_zero]
  refine wpAnyZ_pure (k := 5) (v := r) (by rfl) (by kernel_rfl) (by kernel_rfl) (by kernel_rfl) (by rfl) (some 50) (by rfl) (by kernel_rfl) hS (fun wx hx => by kernel_rfl) ?_
  simp only [Act.put, List.setIfInBounds_toArray, List.set_cons_succ, List.set_cons_zero]
  refine wpAnyZ_pure (k := 6) (v := .int .i64 (n : Int)) (by rfl) (by kernel_rfl) (by kernel_rfl) (by kernel_rfl) (by rfl) (some 51) (by rfl) (by kernel_rfl) hS (fun wx hx => by kernel_rfl) ?_
  simp only [Act.put, List.setIfInBounds_toArray, List.set_cons_succ, List.set_cons_zero]
  refine wpAnyZ_call (i := 7) (f := 45) (vs := #[r, .int .i64 (n : Int)]) (by kernel_rfl) (by rfl) (by rfl) (some 52) (by rfl) (by kernel_rfl) ((kept_any r ss n _ hr0 hl hn).mono ?_)
  rintro e w1 ⟨v1, v2, v3, mk, rfl, m0, m1, m2, m3, hgr, ho⟩
  obtain ⟨p0, n0, d0, rfl, -⟩ := id m0
  obtain ⟨p1, n1, d1, rfl, -⟩ := id m1
  obtain ⟨p2, n2, d2, rfl, -⟩ := id m2
  obtain ⟨p3, n3, d3, rfl, -⟩ := id m3
  obtain ⟨G2, hl2⟩ := G0.kept hrc0 m0 m1 m2 m3 hgr ho (.cells #[.slice p0 n0 d0, .slice p1 n1 d1, .slice p2 n2 d2, .slice p3 n3 d3, .string mk] 74)
  have hca2 := G2.ca
  have hca1 : w1.cell? ⟨gm, 6, none⟩ = some (.slice pv T.length cv) := by
    rw [hpv] at hca2
    rw [← hca2]
    refine (World.cell?_of_block (a := ⟨gm, 6, none⟩) ?_).symm
    exact Below.heap_alloc _ _ _ (Nat.lt_of_lt_of_le G.gl hgr.size)
  refine ⟨_, rfl, fun _ => hca1, ?_⟩
  simp only [Act.put, List.setIfInBounds_toArray, List.set_cons_succ, List.set_cons_zero]
  have hB2 : Blk (w1.alloc (.cells #[.slice p0 n0 d0, .slice p1 n1 d1, .slice p2 n2 d2, .slice p3 n3 d3, .string mk] 74)) w1.heap.size 74 [.slice p0 n0 d0, .slice p1 n1 d1, .slice p2 n2 d2, .slice p3 n3 d3, .string mk] := Blk.new w1 _ _
  refine wpAnyZ_val (i := 8) (v := .slice (some ⟨w1.heap.size, 0, none⟩) 1 1) (by kernel_rfl) (by rfl) (by rfl) (some 53) (by rfl) (exec_buildSlice (by rfl) (by kernel_rfl) (buildTx w1 p0 p1 p2 p3 n0 n1 n2 n3 d0 d1 d2 d3 mk)) (fun _ => by rw [hpv] at hca2; exact hca2) ?_
  simp only [Act.put, List.setIfInBounds_toArray, List.set_cons_succ, List.set_cons_zero]
  refine wpAnyZ_op (i := 9) (by kernel_rfl) (by rfl) (by rfl) ?_
  refine wp_push G2 hl2 hT (.tmp 49) (.tmp 53) (by rfl) (by rw [hpv]; rfl) w1.heap.size (by rfl) hB2 ?_
  intro av' w3 hav hc3 hf3 G3
  obtain ⟨pa, ca, rfl⟩ := hav
  rw [hpv] at hc3
  refine ⟨fun _ => hc3, ?_⟩
  simp only [Act.put, List.setIfInBounds_toArray]
  refine wpAnyZ_val (i := 10) (v := .pointer (some ⟨gm, 0, none⟩)) (w' := w3) (by kernel_rfl) (by rfl) (by rfl) (some 55) (by rfl) (by kernel_rfl) (fun _ => hc3) ?_
  simp only [Act.put]
  refine wpAnyZ_val (i := 11) (v := .pointer (some ⟨gm, 6, none⟩)) (w' := w3) (by kernel_rfl) (by rfl) (by rfl) (some 56) (by rfl) (by kernel_rfl) (fun _ => hc3) ?_
  simp only [Act.put]
  refine wpAnyZ_skip (i := 12) (w' := w3.setCell ⟨gm, 6, none⟩ (.slice pa (T.length + 1) ca)) (by kernel_rfl) (by rfl) (by rfl) (by rfl) (exec_store (by rfl) (by rfl) (by rfl) (storeTx w3 gm 6 _ _ _ _ hc3 hf3)) (fun e => absurd rfl e) ?_
  refine wpAnyZ_done (by kernel_rfl) ?_
  refine NoPanic.normal ?_
  exact hQ _ _ _ _ _ _ _ _ _ _ _ _ _ _ _ _ G3
end Go.Proofs.YtlhohmlpcgbliabGreatDoor
namespace Go.Proofs.YtlhohmlpcgbliabGreatDoor
set_option maxRecDepth 100000
open Go.RowKit
attribute [local go_sem ↓] Go.wp_at_zero Go.wp_at_succ

section
variable {B w : World} {gm : Nat} {P R : Nat → Option AS} {N : Nat → Int} {T : List (List Value)} {av : Value} {col : Nat → Nat}
theorem GA.xq (G : GA B w gm P R N T av col) {k : Nat} (hk : k < 3) : ∃ q, w.cell? ⟨gm, k, none⟩ = some (.pointer q) := by
  obtain ⟨v, hv⟩ := G.cx hk
  rcases G.xcase hk hv with ⟨rfl, _⟩ | ⟨x, p, rfl, _⟩
  · exact ⟨_, hv⟩
  · exact ⟨_, hv⟩
theorem GA.yq (G : GA B w gm P R N T av col) {k : Nat} (hk : k < 3) : ∃ q, w.cell? ⟨gm, 3 + k, none⟩ = some (.pointer q) := by
  obtain ⟨v, hv⟩ := G.cy hk
  rcases G.ycase hk hv with ⟨rfl, _⟩ | ⟨x, rfl, _⟩
  · exact ⟨_, hv⟩
  · exact ⟨_, hv⟩
end
theorem idxX (w : World) (gm k : Nat) (hk : k < 3) : (Instr.indexAt 44 (.pointer (some ⟨gm, 0, none⟩)) (.int .i64 (k : Int))).run Tryz.prog w = .ok (.pointer (some ⟨gm, k, none⟩)) w := by
  obtain rfl | rfl | rfl : k = 0 ∨ k = 1 ∨ k = 2 := by omega
  · kernel_rfl
  · kernel_rfl
  · kernel_rfl
theorem idxY (w : World) (gm k : Nat) (hk : k < 3) : (Instr.indexAt 46 (.pointer (some ⟨gm, 3, none⟩)) (.int .i64 (k : Int))).run Tryz.prog w = .ok (.pointer (some ⟨gm, 3 + k, none⟩)) w := by
  obtain rfl | rfl | rfl : k = 0 ∨ k = 1 ∨ k = 2 := by omega
  · kernel_rfl
  · kernel_rfl
  · kernel_rfl
theorem loadX (w : World) (b o : Nat) (q : Option Addr) (h : w.cell? ⟨b, o, none⟩ = some (.pointer q)) : (Instr.loadAt 43 (.pointer (some ⟨b, o, none⟩))).run Tryz.prog w = .ok (.pointer q) w := by
  simp [go_sem, h]
theorem loadY (w : World) (b o : Nat) (q : Option Addr) (h : w.cell? ⟨b, o, none⟩ = some (.pointer q)) : (Instr.loadAt 45 (.pointer (some ⟨b, o, none⟩))).run Tryz.prog w = .ok (.pointer q) w := by
  simp [go_sem, h]

set_option maxHeartbeats 2000000 in
theorem gsR4_wp {c1 c3 c4 c6 c7 c8 c9 c10 c11 c12 c13 c14 c15 c16 c17 c18 c19 c20 c21 c22 c23 c24 c25 c26 c27 c28 c29 c30 c31 c32 c33 c34 c35 c36 c37 c38 c39 c40 c41 c42 c43 c44 c45 c46 c47 c48 c49 c50 c51 c52 c53 c54 c55 c56 c57 c58 c59 c60 c61 c62 c63 c64 c65 c66 c67 c68 c69 c70 c71 c72 c73 : Value} (gm ob k nl cl : Nat) (q pl : Option Addr) (f : Int) (w : World) (Q : Exit → Act → World → Prop) (Post : World → Prop) (hk : k < 3) (h1 : w.cell? ⟨gm, 3 + k, none⟩ = some (.pointer q)) (h2 : w.cell? ⟨ob, 4, none⟩ = some (.slice pl nl cl))
    (hc : Calls Tryz.prog 63 #[.pointer q, .slice pl nl cl] w.drew fun e w' => e = .returned (.int .i64 f) ∧ w'.cell? ⟨gm, 3 + k, none⟩ = some (.pointer q) ∧ w'.cell? ⟨ob, 4, none⟩ = some (.slice pl nl cl) ∧ Post w')
    (hQ : ∀ (u32 u33 u34 u35 u36 u37 u38 u39 u40 : Value) (w' : World), Post w' → Q .normal ⟨#[.pointer (some ⟨gm, 0, none⟩), c1, .int .i64 (k : Int), c3, c4, .pointer (some ⟨ob, 0, none⟩), c6, c7, c8, c9, c10, c11, .int .i64 f, c13, c14, c15, c16, c17, c18, c19, c20, c21, c22, c23, c24, c25, c26, c27, c28, c29, c30, c31, u32, u33, u34, u35, u36, u37, u38, u39, u40, c41, c42, c43, c44, c45, c46, c47, c48, c49, c50, c51, c52, c53, c54, c55, c56, c57, c58, c59, c60, c61, c62, c63, c64, c65, c66, c67, c68, c69, c70, c71, c72, c73], []⟩ w') :
    Code.wp Tryz.prog (rgn Tryz.f36 4) Q ⟨#[.pointer (some ⟨gm, 0, none⟩), c1, .int .i64 (k : Int), c3, c4, .pointer (some ⟨ob, 0, none⟩), c6, c7, c8, c9, c10, c11, c12, c13, c14, c15, c16, c17, c18, c19, c20, c21, c22, c23, c24, c25, c26, c27, c28, c29, c30, c31, c32, c33, c34, c35, c36, c37, c38, c39, c40, c41, c42, c43, c44, c45, c46, c47, c48, c49, c50, c51, c52, c53, c54, c55, c56, c57, c58, c59, c60, c61, c62, c63, c64, c65, c66, c67, c68, c69, c70, c71, c72, c73], []⟩ w := by
  have hS : (fun wx : World => wx.cell? ⟨gm, 3 + k, none⟩ = some (.pointer q) ∧ wx.cell? ⟨ob, 4, none⟩ = some (.slice pl nl cl)) w.drew := ⟨h1, h2⟩
  conv => arg 2; whnf
  refine wp_region_s (fun wx : World => wx.cell? ⟨gm, 3 + k, none⟩ = some (.pointer q) ∧ wx.cell? ⟨ob, 4, none⟩ = some (.slice pl nl cl)) (by kernel_rfl) ?_
  refine wpS_pure (k := 0) (v := .pointer (some ⟨gm, 0, none⟩)) (by rfl) (by kernel_rfl) (by kernel_rfl) (by kernel_rfl) (by rfl) (some 32) (by rfl) hS (fun wx hx => by kernel_rfl) ?_
  simp only [Act.put, List.setIfInBounds_toArray, List.set_cons_succ, List.set_cons_zero]
  refine wpS_pure (k := 1) (v := .int .i64 (k : Int)) (by rfl) (by kernel_rfl) (by kernel_rfl) (by kernel_rfl) (by rfl) (some 33) (by rfl) hS (fun wx hx => by kernel_rfl) ?_
  simp only [Act.put, List.setIfInBounds_toArray, List.set_cons_succ, List.set_cons_zero]
  refine wpS_pure (k := 2) (v := .pointer (some ⟨gm, 0, none⟩)) (by rfl) (by kernel_rfl) (by kernel_rfl) (by kernel_rfl) (by rfl) (some 34) (by rfl) hS (fun wx hx => by kernel_rfl) ?_
  simp only [Act.put, List.setIfInBounds_toArray, List.set_cons_succ, List.set_cons_zero]
  refine wpS_pure (k := 3) (v := .pointer (some ⟨gm, 3, none⟩)) (by rfl) (by kernel_rfl) (by kernel_rfl) (by kernel_rfl) (by rfl) (some 35) (by rfl) hS (fun wx hx => by kernel_rfl) ?_
  simp only [Act.put, List.setIfInBounds_toArray, List.set_cons_succ, List.set_cons_zero]
  refine wpS_pure (k := 4) (v := .pointer (some ⟨gm, 3 + k, none⟩)) (by rfl) (by kernel_rfl) (by kernel_rfl) (by kernel_rfl) (by rfl) (some 36) (by rfl) hS (fun wx hx => exec_ia (by rfl) (by rfl) (by rfl) (idxY wx gm k hk)) ?_
  simp only [Act.put, List.setIfInBounds_toArray, List.set_cons_succ, List.set_cons_zero]
  refine wpS_pure (k := 5) (v := .pointer q) (by rfl) (by kernel_rfl) (by kernel_rfl) (by kernel_rfl) (by rfl) (some 37) (by rfl) hS (fun wx hx => exec_ld (by rfl) (by rfl) (loadY wx gm _ _ hx.1)) ?_
  simp only [Act.put, List.setIfInBounds_toArray, List.set_cons_succ, List.set_cons_zero]
  refine wpS_pure (k := 6) (v := .pointer (some ⟨ob, 4, none⟩)) (by rfl) (by kernel_rfl) (by kernel_rfl) (by kernel_rfl) (by rfl) (some 38) (by rfl) hS (fun wx hx => by kernel_rfl) ?_
  simp only [Act.put, List.setIfInBounds_toArray, List.set_cons_succ, List.set_cons_zero]
  refine wpS_pure (k := 7) (v := .slice pl nl cl) (by rfl) (by kernel_rfl) (by kernel_rfl) (by kernel_rfl) (by rfl) (some 39) (by rfl) hS (fun wx hx => exec_ld (by rfl) (by rfl) (loadStrs wx ob 4 _ _ _ hx.2)) ?_
  simp only [Act.put, List.setIfInBounds_toArray, List.set_cons_succ, List.set_cons_zero]
  refine wpS_one (i := 8) (by kernel_rfl) (opS_call (f := 63) (vs := #[.pointer q, .slice pl nl cl]) (by rfl) (by rfl) (some 40) (by rfl) (by kernel_rfl) (hc.mono ?_))
  rintro e w1 ⟨rfl, k1, k2, hP⟩
  have hS1 : w1.cell? ⟨gm, 3 + k, none⟩ = some (.pointer q) ∧ w1.cell? ⟨ob, 4, none⟩ = some (.slice pl nl cl) := ⟨k1, k2⟩
  refine ⟨_, rfl, hS1, ?_⟩
  simp only [Act.put, List.setIfInBounds_toArray, List.set_cons_succ, List.set_cons_zero]
  refine wpS_pure (k := 9) (v := .int .i64 f) (by rfl) (by kernel_rfl) (by kernel_rfl) (by kernel_rfl) (by rfl) (some 12) (by rfl) hS1 (fun wx hx => by kernel_rfl) ?_
  simp only [Act.put, List.setIfInBounds_toArray, List.set_cons_succ, List.set_cons_zero]
  refine wpAnyH_done (by kernel_rfl) ?_ _
  refine NoPanic.normal ?_
  exact hQ _ _ _ _ _ _ _ _ _ w1 hP

theorem ArgS.shape {w : World} {v : Value} {ss : List ByteArray} (h : ArgS w v ss) : ∃ p c, v = .slice p ss.length c := by
  rcases h with ⟨h1, h2⟩ | ⟨a, c, h1, _⟩
  · exact ⟨none, 0, by rw [h1, h2]; rfl⟩
  · exact ⟨_, _, h1⟩
theorem ArgS.keep {w w' : World} {v : Value} {ss : List ByteArray} (h : ArgS w v ss) (hb : ss ≠ [] → ∀ k, v.ownBlock = some k → k < w.heap.size → w'.heap[k]? = w.heap[k]?) : ArgS w' v ss := by
  rcases h with h | ⟨a, c, h1, h2⟩
  · exact .inl h
  · refine .inr ⟨a, c, h1, fun i s hs => ?_⟩
    have hc := h2 i s hs
    have hlt := World.block_lt_of_cell? _ _ hc
    have hab := addr_add_block a i
    have hbb : w'.heap[(a.add i).block]? = w.heap[(a.add i).block]? := by
      rw [hab] at hlt ⊢
      exact hb (fun e => by rw [e] at hs; simp at hs) a.block (by rw [h1]; rfl) hlt
    rw [World.cell?_of_block hbb]
    exact hc
/-- A list that is handed in, its copy with room, and the call's block: they are no log's. -/
structure SU (w : World) (col : Nat → Nat) (ob : Nat) (r L : Value) (ss : List ByteArray) : Prop where
  rm : RM w r L ss
  rc : ∀ j, r.ownBlock = some j → j < w.heap.size ∧ col j = 4
  lc : ss ≠ [] → ∀ j, L.ownBlock = some j → j < w.heap.size ∧ col j = 0
  ol : ob < w.heap.size
  oc : col ob = 0
  oL : w.cell? ⟨ob, 4, none⟩ = some L
theorem SU.chg {w w' : World} {col : Nat → Nat} {ob : Nat} {r L : Value} {ss : List ByteArray} (h : SU w col ob r L ss) {c : Nat} (hc : Chg col c w w') (h0 : c ≠ 0) (h4 : c ≠ 4) (c' : Nat) : SU w' (ncol col w.heap.size c') ob r L ss := by
  refine ⟨h.rm.keep (fun k hk hl => hc.block k hl (by rw [(h.rc k hk).2]; omega)) (fun hne k hk hl => hc.block k hl (by rw [(h.lc hne k hk).2]; omega)), fun j hj => ⟨Nat.lt_of_lt_of_le (h.rc j hj).1 hc.size, by rw [ncol_old (h.rc j hj).1]; exact (h.rc j hj).2⟩, fun hne j hj => ⟨Nat.lt_of_lt_of_le (h.lc hne j hj).1 hc.size, by rw [ncol_old (h.lc hne j hj).1]; exact (h.lc hne j hj).2⟩, Nat.lt_of_lt_of_le h.ol hc.size, by rw [ncol_old h.ol]; exact h.oc, ?_⟩
  rw [World.cell?_of_block (a := ⟨ob, 4, none⟩) (hc.block ob h.ol (by rw [h.oc]; omega))]
  exact h.oL
/-- The value of a call, and its block. -/
def callV (kind on a b : Int) (L : Value) : Value := .agg #[.int .i64 kind, .int .i64 on, .int .i64 a, .int .i64 b, L]

set_option maxHeartbeats 4000000 in
theorem gsubmit_any {B w : World} {gm : Nat} {A : Nat → Option AS} {N : Nat → Int} {T : List (List Value)} {av : Value} {col : Nat → Nat} (G : GA B w gm A A N T av col) {k : Nat} (hk : k < 3) (kind on a b : Int) (L : Value) (ss : List ByteArray) (hL : ArgS w L ss) (hLc : ss ≠ [] → ∀ j, L.ownBlock = some j → j < w.heap.size ∧ col j = 0) (hss : ss.length ≤ 1000000000) (n : Nat) (hn : n < 100000000) (hT : T.length ≤ 2000000) :
    Calls Tryz.prog 36 #[.pointer (some ⟨gm, 0, none⟩), callV kind on a b L, .int .i64 (k : Int), .int .i64 (n : Int)] w fun e w' => e = .returned (.bool true) ∧ Done B gm T w' := by
  have hf := G.fine hk
  obtain ⟨pl, cl, hpl⟩ := hL.shape
  have hki : (k : Int) < 3 := by omega
  have hB0 : Blk (w.alloc (.cells #[.int .i64 kind, .int .i64 on, .int .i64 a, .int .i64 b, L] 55)) w.heap.size 55 [.int .i64 kind, .int .i64 on, .int .i64 a, .int .i64 b, L] := Blk.new w _ _
  have hb0 : Below w.heap.size w (w.alloc (.cells #[.int .i64 kind, .int .i64 on, .int .i64 a, .int .i64 b, L] 55)) := (Below.refl _ _).alloc (Nat.le_refl _) _
  have G0 := G.below hb0 0
  have hA0 : ArgS (w.alloc (.cells #[.int .i64 kind, .int .i64 on, .int .i64 a, .int .i64 b, L] 55)) L ss := hL.keep fun _ j hj hlt => hb0.block j hlt
  have hLc0 : ss ≠ [] → ∀ j, L.ownBlock = some j → j < (w.alloc (.cells #[.int .i64 kind, .int .i64 on, .int .i64 a, .int .i64 b, L] 55)).heap.size ∧ ncol col w.heap.size 0 j = 0 := fun hne j hj => ⟨Nat.lt_of_lt_of_le (hLc hne j hj).1 hb0.size, by rw [ncol_old (hLc hne j hj).1]; exact (hLc hne j hj).2⟩
  have hoc0 : ncol col w.heap.size 0 w.heap.size = 0 := ncol_new (Nat.le_refl _)
  have hkc4 := hB0.cell 4
  simp only [List.getElem?_cons_zero, List.getElem?_cons_succ] at hkc4
  subst hpl
  unfold callV
  clear G hL hLc hb0
  generalize ncol col w.heap.size 0 = col0 at *
  go_enter Tryz.func36, Tryz.ntmps36
  go_wp2_with fail
  generalize w.alloc (.cells #[.int .i64 kind, .int .i64 on, .int .i64 a, .int .i64 b, .slice pl ss.length cl] 55) = w0 at *
  refine (roomy_rm _ ss w0 hA0 hss).mono ?_
  rintro e w1 ⟨r, rfl, hRM, hb1, hro⟩
  dsimp only
  have G1 := G0.below hb1 4
  have U1 : SU w1 (ncol col0 w0.heap.size 4) w.heap.size r (.slice pl ss.length cl) ss := ⟨hRM, fun j hj => by
      have h1 := ((hRM.row hss).lt j hj).2
      exact ⟨h1, ncol_new (hro j hj)⟩, fun hne j hj => ⟨Nat.lt_of_lt_of_le (hLc0 hne j hj).1 hb1.size, by rw [ncol_old (hLc0 hne j hj).1]; exact (hLc0 hne j hj).2⟩, Nat.lt_of_lt_of_le hB0.lt hb1.size, by rw [ncol_old hB0.lt]; exact hoc0, by rw [hb1.cell (p := ⟨w.heap.size, 4, none⟩) hB0.lt]; exact hkc4⟩
  clear hRM hb1 hro G0 hA0 hLc0 hB0 hoc0 hkc4
  generalize ncol col0 w0.heap.size 4 = col1 at *
  generalize w.heap.size = ob at *
  obtain ⟨q1, hq1⟩ := G1.xq hk
  have hix := fun wx => idxX wx gm k hk
  go_wp2_with fail
  refine (G1.acts hk hq1).mono ?_
  rintro e w1' ⟨rfl, rfl⟩
  go_wp2_with fail
  refine (G1.submit hk hq1 (row_strs (U1.rm.row hss)) (by omega) (fun j hj => by rw [(U1.rc j hj).2]; omega)).mono ?_
  rintro e w2 ⟨rfl, hC2, G2⟩
  have U2 := U1.chg hC2 (by omega) (by omega) (10 + k)
  clear G1 U1 hq1 hC2
  generalize ncol col1 w1'.heap.size (10 + k) = col2 at *
  obtain ⟨q2, hq2⟩ := G2.yq hk
  have hbd : Below w2.heap.size w2 w2.drew := (Below.refl w2.heap.size w2).drew
  have G2d := G2.below hbd 0
  have U2d := U2.chg (c := 7) (Chg.of_below hbd) (by omega) (by omega) 0
  go_wp2_with fail
  refine gsR4_wp gm ob k ss.length cl q2 pl (subA (A k) ss) w2 _ (fun w' => ∃ col3, GA B w' gm (upd A k (subP ss (A k))) (upd A k (subP ss (A k))) N T av col3 ∧ SU w' col3 ob r (.slice pl ss.length cl) ss) hk hq2 U2.oL ?_ ?_
  · refine (G2d.refSubmit hk (v := .pointer q2) hq2 hf U2d.rm.args.strs hss).mono ?_
    rintro e w' ⟨rfl, hC, G3⟩
    have U3 := U2d.chg hC (by omega) (by omega) (20 + k)
    refine ⟨rfl, ?_, U3.oL, _, G3, U3⟩
    rw [World.cell?_of_block (a := ⟨gm, 3 + k, none⟩) (hC.block gm G2d.gl (by rw [G2d.gmc]; omega))]
    exact hq2
  · intro u32 u33 u34 u35 u36 u37 u38 u39 u40 w3 ⟨col3, G3, U3⟩
    clear G2 U2 hq2 hbd G2d U2d
    have hoL := U3.oL
    go_wp2_with fail
    refine (U3.rm.whole hss).mono ?_
    rintro e w4 ⟨rfl, hb4⟩
    have G4 := G3.below hb4 0
    have U4 := U3.chg (c := 7) (Chg.of_below hb4) (by omega) (by omega) 0
    clear G3 U3 hb4 hoL
    go_wp2_with fail
    refine gsR6_wp gm n r ss w4 _ G4 (U4.rm.row hss) U4.rc hss hn hT ?_
    intro u45 u46 u47 u48 u49 u50 u51 u52 u53 u54 u55 u56 t av' col' w5 G5
    clear G4 U4
    obtain ⟨q5, hq5⟩ := G5.xq hk
    generalize subA (A k) ss = ans at *
    go_wp2_with fail
    refine (G5.acts hk hq5).mono ?_
    rintro e w6 ⟨rfl, rfl⟩
    go_wp2
    go_ret
    exact ⟨rfl, _, _, _, _, _, G5, by simp⟩
end Go.Proofs.YtlhohmlpcgbliabGreatDoor
namespace Go.Proofs.YtlhohmlpcgbliabGreatDoor
set_option maxRecDepth 100000
open Go.RowKit
attribute [local go_sem ↓] Go.wp_at_zero Go.wp_at_succ

set_option maxHeartbeats 4000000 in
theorem gflush_any {B w : World} {gm : Nat} {A : Nat → Option AS} {N : Nat → Int} {T : List (List Value)} {av : Value} {col : Nat → Nat} (G : GA B w gm A A N T av col) {k : Nat} (hk : k < 3) (ht : Table B) (hg : 2 < B.heap.size) :
    Calls Tryz.prog 37 #[.pointer (some ⟨gm, 0, none⟩), .int .i64 (k : Int)] w fun e w' => e = .returned (.bool true) ∧ Done B gm T w' := by
  have hf := G.fine hk
  have hki : (k : Int) < 3 := by omega
  obtain ⟨q1, hq1⟩ := G.xq hk
  obtain ⟨q0, hq0⟩ := G.yq hk
  have hix := fun wx => idxX wx gm k hk
  have hiy := fun wx => idxY wx gm k hk
  have hyc := G.ycase hk hq0
  have HA := KA.hid (G.acts hk hq1)
  go_enter Tryz.func37, Tryz.ntmps37
  go_wp2_with fail
  refine HA.out.mono ?_
  rintro e w1 ⟨rfl, rfl⟩
  clear HA
  rcases hyc with ⟨e0, -⟩ | ⟨y, e0, hp, hy, -, -⟩
  · rw [e0] at hq0
    clear e0
    go_wp2_with fail
    refine (G.flush hk ht hg hq1).mono ?_
    rintro e w2 ⟨rfl, hC2, n', hn', G2⟩
    clear hq1 hC2 hn'
    obtain ⟨q2, hq2⟩ := G2.yq hk
    obtain ⟨q3, hq3⟩ := G2.xq hk
    generalize ncol col w1.heap.size (10 + k) = col2 at *
    go_wp2_with fail
    refine (G2.refFlush hk hq2 hf).mono ?_
    rintro e w3 ⟨rfl, hC3, G3⟩
    obtain ⟨q4, hq4⟩ := G3.xq hk
    generalize (fluA (A k)).1 = x1 at *
    generalize (fluA (A k)).2 = x2 at *
    clear hq2 hq3 hC3
    go_wp2
    go_ret
    exact ⟨rfl, _, _, _, _, _, G3, by simp⟩
  · rw [e0] at hq0
    clear e0
    have hcu := hy.blk.cell 1
    simp only [List.getElem?_cons_zero, List.getElem?_cons_succ] at hcu
    obtain ⟨pu, cu, hpu, -, -, -⟩ := rowY_slice hy.ur
    rw [hpu] at hcu
    by_cases h0 : y.W = []
    · rw [h0, List.length_nil] at hcu
      have HP := KA.hid (And.intro hp h0)
      clear hp h0 hpu hy
      go_wp2_with fail
      refine (G.flush hk ht hg hq1).mono ?_
      rintro e w2 ⟨rfl, hC2, n', hn', G2⟩
      have hidle := hn' _ HP.out.1 HP.out.2
      clear hq1 hC2 hn'
      obtain ⟨q2, hq2⟩ := G2.yq hk
      obtain ⟨q3, hq3⟩ := G2.xq hk
      generalize ncol col w1.heap.size (10 + k) = col2 at *
      go_wp2_with fail
      refine (G2.refFlush hk hq2 hf).mono ?_
      rintro e w3 ⟨rfl, hC3, G3⟩
      obtain ⟨q4, hq4⟩ := G3.xq hk
      generalize (fluA (A k)).1 = x1 at *
      generalize (fluA (A k)).2 = x2 at *
      clear hq2 hq3 hC3
      have hac := G3.acts hk hq4
      rw [updI_same, hidle] at hac
      go_wp2_with fail
      refine hac.mono ?_
      rintro e w4 ⟨rfl, rfl⟩
      clear hac
      go_wp2
      go_ret
      exact ⟨rfl, _, _, _, _, _, G3, by simp⟩
    · have hne : ¬ y.W.length = 0 := fun e => h0 (List.length_eq_zero_iff.1 e)
      clear h0 hp hpu hy
      generalize y.W.length = m at *
      have hm0 : ((m : Int) == 0) = false := by simp; omega
      go_wp2_with fail
      refine (G.flush hk ht hg hq1).mono ?_
      rintro e w2 ⟨rfl, hC2, n', hn', G2⟩
      clear hq1 hC2 hn'
      obtain ⟨q2, hq2⟩ := G2.yq hk
      obtain ⟨q3, hq3⟩ := G2.xq hk
      generalize ncol col w1.heap.size (10 + k) = col2 at *
      go_wp2_with fail
      refine (G2.refFlush hk hq2 hf).mono ?_
      rintro e w3 ⟨rfl, hC3, G3⟩
      obtain ⟨q4, hq4⟩ := G3.xq hk
      generalize (fluA (A k)).1 = x1 at *
      generalize (fluA (A k)).2 = x2 at *
      clear hq2 hq3 hC3
      go_wp2
      go_ret
      exact ⟨rfl, _, _, _, _, _, G3, by simp⟩
end Go.Proofs.YtlhohmlpcgbliabGreatDoor
namespace Go.Proofs.YtlhohmlpcgbliabGreatDoor
set_option maxRecDepth 100000
open Go.RowKit
attribute [local go_sem ↓] Go.wp_at_zero Go.wp_at_succ

theorem sub_neg (p : Nat) (hp : p < 1000) (w : World) : (binOp .sub 3 (.int .i64 (-1)) (.int .i64 (p : Int))).run Tryz.prog w = .ok (.int .i64 (-1 - (p : Int))) w := by
  have h : IntKind.i64.wrap (-1 - (p : Int)) = -1 - (p : Int) := IntWalk.i64_in _ ⟨by omega, by omega⟩
  simp only [go_sem]
  simp
  simpa using h
theorem loadI (w : World) (b o : Nat) (x : Int) (h : w.cell? ⟨b, o, none⟩ = some (.int .i64 x)) : (Instr.loadAt 3 (.pointer (some ⟨b, o, none⟩))).run Tryz.prog w = .ok (.int .i64 x) w := by
  simp [go_sem, h]

set_option maxHeartbeats 2000000 in
theorem goR24_wp {c1 c3 c5 c6 c7 c8 c9 c10 c11 c12 c13 c14 c15 c16 c17 c18 c19 c20 c21 c22 c23 c24 c25 c26 c27 c28 c29 c30 c31 c32 c33 c34 c35 c36 c37 c38 c39 c40 c41 c42 c43 c44 c45 c46 c47 c48 c49 c50 c51 c52 c53 c54 c55 c56 c57 c58 c59 c60 c61 c62 c63 c64 c65 c66 c67 c68 c69 c70 c71 c72 c73 c74 c75 c76 c77 c78 c79 c80 c81 c82 c83 c84 c85 c86 c87 c88 c89 c90 c91 c92 c93 c94 c95 c96 c97 c98 c99 c100 c101 c102 c103 c104 c105 c106 c107 c108 c109 c110 c111 c112 c113 c114 c115 c116 c117 c118 c119 c120 c121 c122 c123 c124 c125 c126 c127 c128 c129 c130 c131 c132 c133 c134 c135 c136 c137 c138 c139 c140 c141 c142 c143 c144 c145 c146 : Value} (gm ob k : Nat) (q : Option Addr) (a b ans : Int) (w : World) (Q : Exit → Act → World → Prop) (hk : k < 3) (ha1 : -9223372036854775808 ≤ a) (ha2 : a ≤ 9223372036854775807) (h1 : w.cell? ⟨gm, k, none⟩ = some (.pointer q)) (h2 : w.cell? ⟨ob, 2, none⟩ = some (.int .i64 a)) (h3 : w.cell? ⟨ob, 3, none⟩ = some (.int .i64 b))
    (hc : ∀ x : Int, x < 0 → Calls Tryz.prog 76 #[.pointer q, .int .i64 x, .int .i64 b] w.drew fun e w' => e = .returned (.int .i64 ans) ∧ w' = w.drew)
    (hQ : ∀ (u129 u130 u131 u132 u133 u134 u135 u136 u137 u138 u139 u140 u141 : Value), Q .normal ⟨#[.pointer (some ⟨gm, 0, none⟩), c1, .int .i64 (k : Int), c3, .pointer (some ⟨ob, 0, none⟩), c5, c6, c7, c8, c9, c10, c11, c12, c13, .int .i64 ans, c15, c16, c17, c18, c19, c20, c21, c22, c23, c24, c25, c26, c27, c28, c29, c30, c31, c32, c33, c34, c35, c36, c37, c38, c39, c40, c41, c42, c43, c44, c45, c46, c47, c48, c49, c50, c51, c52, c53, c54, c55, c56, c57, c58, c59, c60, c61, c62, c63, c64, c65, c66, c67, c68, c69, c70, c71, c72, c73, c74, c75, c76, c77, c78, c79, c80, c81, c82, c83, c84, c85, c86, c87, c88, c89, c90, c91, c92, c93, c94, c95, c96, c97, c98, c99, c100, c101, c102, c103, c104, c105, c106, c107, c108, c109, c110, c111, c112, c113, c114, c115, c116, c117, c118, c119, c120, c121, c122, c123, c124, c125, c126, c127, c128, u129, u130, u131, u132, u133, u134, u135, u136, u137, u138, u139, u140, u141, c142, c143, c144, c145, c146], []⟩ w.drew) :
    Code.wp Tryz.prog (rgn Tryz.f48 24) Q ⟨#[.pointer (some ⟨gm, 0, none⟩), c1, .int .i64 (k : Int), c3, .pointer (some ⟨ob, 0, none⟩), c5, c6, c7, c8, c9, c10, c11, c12, c13, c14, c15, c16, c17, c18, c19, c20, c21, c22, c23, c24, c25, c26, c27, c28, c29, c30, c31, c32, c33, c34, c35, c36, c37, c38, c39, c40, c41, c42, c43, c44, c45, c46, c47, c48, c49, c50, c51, c52, c53, c54, c55, c56, c57, c58, c59, c60, c61, c62, c63, c64, c65, c66, c67, c68, c69, c70, c71, c72, c73, c74, c75, c76, c77, c78, c79, c80, c81, c82, c83, c84, c85, c86, c87, c88, c89, c90, c91, c92, c93, c94, c95, c96, c97, c98, c99, c100, c101, c102, c103, c104, c105, c106, c107, c108, c109, c110, c111, c112, c113, c114, c115, c116, c117, c118, c119, c120, c121, c122, c123, c124, c125, c126, c127, c128, c129, c130, c131, c132, c133, c134, c135, c136, c137, c138, c139, c140, c141, c142, c143, c144, c145, c146], []⟩ w := by
  have hS : (fun wx : World => wx.cell? ⟨gm, k, none⟩ = some (.pointer q) ∧ wx.cell? ⟨ob, 2, none⟩ = some (.int .i64 a) ∧ wx.cell? ⟨ob, 3, none⟩ = some (.int .i64 b)) w.drew := ⟨h1, h2, h3⟩
  have hpl := pickV_lt a 1000 (by omega)
  conv => arg 2; whnf
  refine wp_region_s (fun wx : World => wx.cell? ⟨gm, k, none⟩ = some (.pointer q) ∧ wx.cell? ⟨ob, 2, none⟩ = some (.int .i64 a) ∧ wx.cell? ⟨ob, 3, none⟩ = some (.int .i64 b)) (by kernel_rfl) ?_
  refine wpS_pure (k := 0) (v := .pointer (some ⟨gm, 0, none⟩)) (by rfl) (by kernel_rfl) (by kernel_rfl) (by kernel_rfl) (by rfl) (some 129) (by rfl) hS (fun wx hx => by kernel_rfl) ?_
  simp only [Act.put, List.setIfInBounds_toArray, List.set_cons_succ, List.set_cons_zero]
  refine wpS_pure (k := 1) (v := .int .i64 (k : Int)) (by rfl) (by kernel_rfl) (by kernel_rfl) (by kernel_rfl) (by rfl) (some 130) (by rfl) hS (fun wx hx => by kernel_rfl) ?_
  simp only [Act.put, List.setIfInBounds_toArray, List.set_cons_succ, List.set_cons_zero]
  refine wpS_pure (k := 2) (v := .pointer (some ⟨gm, 0, none⟩)) (by rfl) (by kernel_rfl) (by kernel_rfl) (by kernel_rfl) (by rfl) (some 131) (by rfl) hS (fun wx hx => by kernel_rfl) ?_
  simp only [Act.put, List.setIfInBounds_toArray, List.set_cons_succ, List.set_cons_zero]
  refine wpS_pure (k := 3) (v := .pointer (some ⟨gm, 0, none⟩)) (by rfl) (by kernel_rfl) (by kernel_rfl) (by kernel_rfl) (by rfl) (some 132) (by rfl) hS (fun wx hx => by kernel_rfl) ?_
  simp only [Act.put, List.setIfInBounds_toArray, List.set_cons_succ, List.set_cons_zero]
  refine wpS_pure (k := 4) (v := .pointer (some ⟨gm, k, none⟩)) (by rfl) (by kernel_rfl) (by kernel_rfl) (by kernel_rfl) (by rfl) (some 133) (by rfl) hS (fun wx hx => exec_ia (by rfl) (by rfl) (by rfl) (idxX wx gm k hk)) ?_
  simp only [Act.put, List.setIfInBounds_toArray, List.set_cons_succ, List.set_cons_zero]
  refine wpS_pure (k := 5) (v := .pointer q) (by rfl) (by kernel_rfl) (by kernel_rfl) (by kernel_rfl) (by rfl) (some 134) (by rfl) hS (fun wx hx => exec_ld (by rfl) (by rfl) (loadX wx gm _ _ hx.1)) ?_
  simp only [Act.put, List.setIfInBounds_toArray, List.set_cons_succ, List.set_cons_zero]
  refine wpS_pure (k := 6) (v := .pointer (some ⟨ob, 2, none⟩)) (by rfl) (by kernel_rfl) (by kernel_rfl) (by kernel_rfl) (by rfl) (some 135) (by rfl) hS (fun wx hx => by kernel_rfl) ?_
  simp only [Act.put, List.setIfInBounds_toArray, List.set_cons_succ, List.set_cons_zero]
  refine wpS_pure (k := 7) (v := .int .i64 a) (by rfl) (by kernel_rfl) (by kernel_rfl) (by kernel_rfl) (by rfl) (some 136) (by rfl) hS (fun wx hx => exec_ld (by rfl) (by rfl) (loadI wx ob 2 _ hx.2.1)) ?_
  simp only [Act.put, List.setIfInBounds_toArray, List.set_cons_succ, List.set_cons_zero]
  refine wpS_pure (k := 10) (v := .pointer (some ⟨ob, 3, none⟩)) (by rfl) (by kernel_rfl) (by kernel_rfl) (by kernel_rfl) (by rfl) (some 139) (by rfl) hS (fun wx hx => by kernel_rfl) ?_
  simp only [Act.put, List.setIfInBounds_toArray, List.set_cons_succ, List.set_cons_zero]
  refine wpS_pure (k := 11) (v := .int .i64 b) (by rfl) (by kernel_rfl) (by kernel_rfl) (by kernel_rfl) (by rfl) (some 140) (by rfl) hS (fun wx hx => exec_ld (by rfl) (by rfl) (loadI wx ob 3 _ hx.2.2)) ?_
  simp only [Act.put, List.setIfInBounds_toArray, List.set_cons_succ, List.set_cons_zero]
  refine wpS_one (i := 8) (by kernel_rfl) (opS_call (f := 16) (vs := #[.int .i64 a, .int .i64 1000]) (by rfl) (by rfl) (some 137) (by rfl) (by kernel_rfl) ((pick_any a 1000 w.drew ha1 ha2 (by omega) (by omega)).mono ?_))
  rintro e w1 ⟨rfl, rfl⟩
  refine ⟨_, rfl, hS, ?_⟩
  simp only [Act.put, List.setIfInBounds_toArray, List.set_cons_succ, List.set_cons_zero]
  generalize pickV a 1000 = p at *
  refine wpS_pure (k := 9) (v := .int .i64 (-1 - (p : Int))) (by rfl) (by kernel_rfl) (by kernel_rfl) (by kernel_rfl) (by rfl) (some 138) (by rfl) hS (fun wx hx => exec_bop (by rfl) (by rfl) (by rfl) (by kernel_rfl) (sub_neg p hpl wx)) ?_
  simp only [Act.put, List.setIfInBounds_toArray, List.set_cons_succ, List.set_cons_zero]
  refine wpS_one (i := 12) (by kernel_rfl) (opS_call (f := 76) (vs := #[.pointer q, .int .i64 (-1 - (p : Int)), .int .i64 b]) (by rfl) (by rfl) (some 141) (by rfl) (by kernel_rfl) ((hc (-1 - (p : Int)) (by omega)).mono ?_))
  rintro e w1 ⟨rfl, rfl⟩
  refine ⟨_, rfl, hS, ?_⟩
  simp only [Act.put, List.setIfInBounds_toArray, List.set_cons_succ, List.set_cons_zero]
  refine wpS_pure (k := 13) (v := .int .i64 ans) (by rfl) (by kernel_rfl) (by kernel_rfl) (by kernel_rfl) (by rfl) (some 14) (by rfl) hS (fun wx hx => by kernel_rfl) ?_
  simp only [Act.put, List.setIfInBounds_toArray, List.set_cons_succ, List.set_cons_zero]
  refine wpAnyH_done (by kernel_rfl) ?_ _
  refine NoPanic.normal ?_
  exact hQ _ _ _ _ _ _ _ _ _ _ _ _ _

/-- A log is opened on a copy of bytes. -/
theorem open_xs (s : ByteArray) (E : List ByteArray) (w : World) (hs : s.size = 25600) (hH : Holds (Dk.of (bts s)) E) (ht : Table w) (hg : 2 < w.heap.size) :
    Calls Tryz.prog 75 #[.string s] w fun e w' => ∃ x : XS, e = .returned (.tuple #[.pointer (some ⟨x.a, 0, none⟩), .int .i64 0]) ∧ x.at w' ∧ (∀ j, x.own j → w.heap.size ≤ j) ∧ Holds x.D E ∧ x.W = [] ∧ x.D.acts = 0 ∧ Below w.heap.size w w' := by
  refine (groveOpen_ok s E w hs hH ht hg).mono ?_
  rintro e w' ⟨a, b, rfl, ha, hb, hL, hbl⟩
  refine ⟨⟨a, b, .slice none 0 0, .slice none 0 0, Dk.of (bts s), []⟩, rfl, hL, fun j hj => ?_, hH, rfl, rfl, hbl⟩
  rcases hj with e | e | e | e
  · rw [e]; exact ha
  · rw [e]; exact hb
  · simp [Value.ownBlock] at e
  · simp [Value.ownBlock] at e
section
variable {B w : World} {gm : Nat} {P R : Nat → Option AS} {N : Nat → Int} {T : List (List Value)} {av : Value} {col : Nat → Nat}
/-- A log takes its place in a game. -/
theorem GA.setX {w' : World} (G : GA B w gm P R N T av col) {k : Nat} (hk : k < 3) (hb : Below w.heap.size w w') (x : XS) (hx : x.at w') (hn : ∀ j, x.own j → w.heap.size ≤ j) (p : AS) (n : Int) (hr : RelX (some x) (some p) n) :
    GA B (w'.setCell ⟨gm, k, none⟩ (.pointer (some ⟨x.a, 0, none⟩))) gm (upd P k (some p)) R (updI N k n) T av (ncol col w.heap.size (10 + k)) := by
  obtain ⟨X, Y, h1, h2, h3⟩ := G
  refine ⟨_, Y, h1.setX hk hb x hx hn, fun j hj => ?_, h3⟩
  by_cases ej : j = k
  · subst ej
    rw [upd_same, upd_same, updI_same]
    exact hr
  · rw [upd_other _ _ _ _ ej, upd_other _ _ _ _ ej, updI_other _ _ _ _ ej]
    exact h2 j hj
theorem GA.setY {w' : World} (G : GA B w gm P R N T av col) {k : Nat} (hk : k < 3) (hb : Below w.heap.size w w') (y : YS) (hy : y.at w') (hn : ∀ j, y.own j → w.heap.size ≤ j) :
    GA B (w'.setCell ⟨gm, 3 + k, none⟩ (.pointer (some ⟨y.r, 0, none⟩))) gm P (upd R k (some (y.E, y.W))) N T av (ncol col w.heap.size (20 + k)) := by
  obtain ⟨X, Y, h1, h2, h3⟩ := G
  refine ⟨X, _, h1.setY hk hb y hy hn, h2, fun j hj => ?_⟩
  by_cases ej : j = k
  · subst ej
    rw [upd_same, upd_same]
    exact ⟨rfl, rfl⟩
  · rw [upd_other _ _ _ _ ej, upd_other _ _ _ _ ej]
    exact h3 j hj
end

set_option maxHeartbeats 4000000 in
/-- A step with the disk, of a nil log. -/
theorem gother_none {B w : World} {gm : Nat} {A : Nat → Option AS} {N : Nat → Int} {T : List (List Value)} {av : Value} {col : Nat → Nat} (G : GA B w gm A A N T av col) {k : Nat} (hk : k < 3) (hp : A k = none) (kind on a b : Int) (ha1 : -9223372036854775808 ≤ a) (ha2 : a ≤ 9223372036854775807) (pl : Option Addr) (nl cl : Nat) :
    Calls Tryz.prog 48 #[.pointer (some ⟨gm, 0, none⟩), callV kind on a b (.slice pl nl cl), .int .i64 (k : Int)] w fun e w' => e = .returned (.bool true) ∧ Done B gm T w' := by
  have hki : (k : Int) < 3 := by omega
  have hB0 : Blk (w.alloc (.cells #[.int .i64 kind, .int .i64 on, .int .i64 a, .int .i64 b, .slice pl nl cl] 55)) w.heap.size 55 [.int .i64 kind, .int .i64 on, .int .i64 a, .int .i64 b, .slice pl nl cl] := Blk.new w _ _
  have hb0 : Below w.heap.size w (w.alloc (.cells #[.int .i64 kind, .int .i64 on, .int .i64 a, .int .i64 b, .slice pl nl cl] 55)) := (Below.refl _ _).alloc (Nat.le_refl _) _
  have G0 := G.below hb0 0
  have c0 := hB0.cell 0
  have c2 := hB0.cell 2
  have c3 := hB0.cell 3
  simp only [List.getElem?_cons_zero, List.getElem?_cons_succ] at c0 c2 c3
  have hix := fun wx => idxX wx gm k hk
  have hiy := fun wx => idxY wx gm k hk
  unfold callV
  clear G hb0
  obtain ⟨q1, hq1⟩ := G0.xq hk
  obtain ⟨q0, hq0⟩ := G0.yq hk
  obtain ⟨hn0, rfl⟩ : N k = 0 ∧ q1 = none := by
    rcases G0.xcase hk hq1 with ⟨e, _, h0⟩ | ⟨x, p, _, hp', _⟩
    · injection e with e
      exact ⟨h0, e⟩
    · rw [hp] at hp'; cases hp'
  obtain rfl : q0 = none := by
    rcases G0.ycase hk hq0 with ⟨e, _⟩ | ⟨y, _, hp', _⟩
    · injection e
    · rw [hp] at hp'; cases hp'
  have hac := G0.acts hk hq1
  rw [hn0] at hac
  generalize ncol col w.heap.size 0 = col0 at *
  have HG := KA.hid (And.intro G0 (And.intro hp hn0))
  clear G0 hp hn0
  go_enter Tryz.func48, Tryz.ntmps48
  go_wp2_with fail
  generalize w.alloc (.cells #[.int .i64 kind, .int .i64 on, .int .i64 a, .int .i64 b, .slice pl nl cl] 55) = w0 at *
  refine hac.mono ?_
  rintro e w1 ⟨rfl, rfl⟩
  clear hac hB0
  by_cases k7 : kind = 7
  · subst k7
    go_wp2_with fail
    refine (nilWaiting_any w1).mono ?_
    rintro e w2 ⟨rfl, rfl⟩
    go_wp2
    go_ret
    exact ⟨rfl, _, _, _, _, _, HG.out.1, by simp⟩
  by_cases k8 : kind = 8
  · subst k8
    clear k7
    go_wp2_with fail
    refine (nilRecover_any w1).mono ?_
    rintro e w2 ⟨rfl, rfl⟩
    go_wp2
    go_ret
    exact ⟨rfl, _, _, _, _, _, HG.out.1, by simp⟩
  by_cases k9 : kind = 9
  · subst k9
    clear k7 k8
    go_wp2_with fail
    refine (nilBytes_any w1).mono ?_
    rintro e w2 ⟨rfl, rfl⟩
    have hcv := Lib.run_convert_string_bytes (P := Tryz.prog) w2 9 78 5 ⟨#[]⟩ Tryz.underlying9 Tryz.underlying78 Tryz.underlying5
    have hb2 : Below w2.heap.size w2 (Lib.bytesWorld w2 5 ⟨#[]⟩) := below_bytes w2 ⟨#[]⟩
    have hz0 : (⟨#[]⟩ : ByteArray).size = 0 := rfl
    rw [hz0] at hcv
    generalize Lib.bytesWorld w2 5 ⟨#[]⟩ = w3 at *
    generalize grownCap w2 0 0 5 = cap at *
    clear hz0
    go_wp2
    go_ret
    exact ⟨rfl, _, _, _, _, _, HG.out.1.below hb2 0, by simp⟩
  by_cases k10 : kind = 10
  · subst k10
    clear k7 k8 k9
    go_wp2_with fail
    refine goR24_wp gm w.heap.size k none a b 3 w1 _ hk ha1 ha2 hq1 c2 c3 (fun x _ => nilFail_any x b w1.drew) ?_
    intro u129 u130 u131 u132 u133 u134 u135 u136 u137 u138 u139 u140 u141
    go_wp2
    go_ret
    exact ⟨rfl, _, _, _, _, _, HG.out.1.below ((Below.refl w1.heap.size w1).drew) 0, by simp⟩
  go_wp2
  go_ret
  exact ⟨rfl, _, _, _, _, _, HG.out.1, by simp⟩
end Go.Proofs.YtlhohmlpcgbliabGreatDoor
namespace Go.Proofs.YtlhohmlpcgbliabGreatDoor
set_option maxRecDepth 100000
open Go.RowKit
attribute [local go_sem ↓] Go.wp_at_zero Go.wp_at_succ

set_option maxHeartbeats 8000000 in
/-- A step with the disk, of a log. -/
theorem gother_some {B w : World} {gm : Nat} {A : Nat → Option AS} {N : Nat → Int} {T : List (List Value)} {av : Value} {col : Nat → Nat} (G : GA B w gm A A N T av col) {k : Nat} (hk : k < 3) (ht : Table B) (hg : 2 < B.heap.size) (p : AS) (hp : A k = some p) (kind on a b : Int) (ha1 : -9223372036854775808 ≤ a) (ha2 : a ≤ 9223372036854775807) (pl : Option Addr) (nl cl : Nat) :
    Calls Tryz.prog 48 #[.pointer (some ⟨gm, 0, none⟩), callV kind on a b (.slice pl nl cl), .int .i64 (k : Int)] w fun e w' => e = .returned (.bool true) ∧ Done B gm T w' := by
  have hki : (k : Int) < 3 := by omega
  have hB0 : Blk (w.alloc (.cells #[.int .i64 kind, .int .i64 on, .int .i64 a, .int .i64 b, .slice pl nl cl] 55)) w.heap.size 55 [.int .i64 kind, .int .i64 on, .int .i64 a, .int .i64 b, .slice pl nl cl] := Blk.new w _ _
  have hb0 : Below w.heap.size w (w.alloc (.cells #[.int .i64 kind, .int .i64 on, .int .i64 a, .int .i64 b, .slice pl nl cl] 55)) := (Below.refl _ _).alloc (Nat.le_refl _) _
  have G0 := G.below hb0 0
  have c0 := hB0.cell 0
  have c2 := hB0.cell 2
  have c3 := hB0.cell 3
  simp only [List.getElem?_cons_zero, List.getElem?_cons_succ] at c0 c2 c3
  have hix := fun wx => idxX wx gm k hk
  have hiy := fun wx => idxY wx gm k hk
  unfold callV
  clear G hb0
  obtain ⟨q1, hq1⟩ := G0.xq hk
  obtain ⟨q0, hq0⟩ := G0.yq hk
  obtain ⟨y, e0, hp', hy⟩ : ∃ y : YS, q0 = some ⟨y.r, 0, none⟩ ∧ p = (y.E, y.W) ∧ y.at (w.alloc (.cells #[.int .i64 kind, .int .i64 on, .int .i64 a, .int .i64 b, .slice pl nl cl] 55)) := by
    rcases G0.ycase hk hq0 with ⟨_, h0⟩ | ⟨y, e, hp', hy, _⟩
    · rw [hp] at h0; cases h0
    · injection e with e
      rw [hp] at hp'
      injection hp' with hp'
      exact ⟨y, e, hp', hy⟩
  subst e0
  have hcu := hy.blk.cell 1
  simp only [List.getElem?_cons_zero, List.getElem?_cons_succ] at hcu
  obtain ⟨pu, cu, hpu, -, -, -⟩ := rowY_slice hy.ur
  rw [hpu] at hcu
  have hwl : p.2.length = y.W.length := by rw [hp']
  rw [← hwl] at hcu
  have hac := G0.acts hk hq1
  generalize ncol col w.heap.size 0 = col0 at *
  have HG := KA.hid (And.intro G0 hp)
  clear G0 hp hpu hy hwl hp'
  generalize y.r = yr at *
  go_enter Tryz.func48, Tryz.ntmps48
  go_wp2_with fail
  generalize w.alloc (.cells #[.int .i64 kind, .int .i64 on, .int .i64 a, .int .i64 b, .slice pl nl cl] 55) = w0 at *
  refine hac.mono ?_
  rintro e w1 ⟨rfl, rfl⟩
  clear hac hB0
  by_cases k7 : kind = 7
  · subst k7
    have hwa := HG.out.1.waiting hk hq1
    rw [HG.out.2] at hwa
    unfold waiA at hwa
    go_wp2_with fail
    refine hwa.mono ?_
    rintro e w2 ⟨rfl, rfl⟩
    clear hwa
    go_wp2
    go_ret
    exact ⟨rfl, _, _, _, _, _, HG.out.1, by simp⟩
  by_cases k8 : kind = 8
  · subst k8
    clear k7
    have hre := HG.out.1.recover hk ht hg hq1
    rw [HG.out.2] at hre
    unfold recA at hre
    go_wp2_with fail
    refine hre.mono ?_
    rintro e w2 ⟨rfl, hC2, G2⟩
    clear hre hC2 hq1 hq0 hcu
    obtain ⟨q2, hq2⟩ := G2.xq hk
    go_wp2_with fail
    refine (G2.acts hk hq2).mono ?_
    rintro e w3 ⟨rfl, rfl⟩
    go_wp2
    go_ret
    exact ⟨rfl, _, _, _, _, _, G2, by simp⟩
  by_cases k9 : kind = 9
  · subst k9
    clear k7 k8
    go_wp2_with fail
    refine (HG.out.1.bytes hk hq1).mono ?_
    rintro e w2 ⟨s, rfl, hb2, -, hs⟩
    obtain ⟨hs1, hs2⟩ := hs p HG.out.2
    have hcv := Lib.run_convert_string_bytes (P := Tryz.prog) w2 9 78 5 s Tryz.underlying9 Tryz.underlying78 Tryz.underlying5
    have hb3 : Below w2.heap.size w2 (Lib.bytesWorld w2 5 s) := below_bytes w2 s
    have hcb := convert_range (cap := grownCap w2 s.size 0 5) (bytes_range w2 s)
    rw [bts_length, strOf_bts] at hcb
    rw [hs1] at hcv hcb
    generalize grownCap w2 25600 0 5 = cap at *
    generalize Lib.bytesWorld w2 5 s = w3 at *
    have G2 := HG.out.1.below hb2 0
    have G3 := G2.below hb3 0
    have hbB := G3.bel
    have hop := open_xs s p.1 w3 hs1 hs2 (table_at hbB hg ht) (Nat.lt_of_lt_of_le hg hbB.size)
    have H3 := KA.hid G3
    clear hs hs1 hs2 hb2 hb3 G2 G3 hbB hq1 hq0 hcu c0 c2 c3
    go_wp2_with fail
    refine hop.mono ?_
    rintro e w4 ⟨x, rfl, hx, hxo, hxH, hxW, hxa, hb4⟩
    have hxac := logActs_any hx
    rw [hxa] at hxac
    clear hop hcv hcb
    have hf4 := HG.out.1.fine hk
    obtain ⟨f1, f2, f3, f4, f5⟩ := hf4.ok p HG.out.2
    go_wp2_with fail
    refine hxac.mono ?_
    rintro e w5 ⟨rfl, rfl⟩
    clear hxac
    have G5 := H3.out.below hb4 0
    obtain ⟨q5, hq5⟩ := G5.xq hk
    have hfz := G5.frozen k
    by_cases h0 : p.2.length = 0
    · have hp2 : p.2 = [] := List.length_eq_zero_iff.1 h0
      have G6 := H3.out.setX hk hb4 x hx hxo p 0 ⟨hxH, by rw [hxW, hp2], f3, f4, f5, hxa⟩
      rw [upd_id A k HG.out.2] at G6
      have H6 := KA.hid G6
      clear G6 G5 hx hxo hxH hxW hxa hb4 hp2 f1 f2 f3 f4 f5 hf4
      rw [h0]
      generalize x.a = xa at *
      go_wp2
      go_ret
      exact ⟨rfl, _, _, _, _, _, H6.out, by simp⟩
    · have h0' : ((p.2.length : Int) == 0) = false := by rw [beq_eq_false_iff_ne]; omega
      clear hx hxo hxH hxW hxa hb4 f1 f2 f3 f4 f5 hf4 h0
      generalize x.a = xa at *
      generalize p.2.length = m at *
      go_wp2
      go_ret
      exact ⟨rfl, _, _, _, _, _, G5, by simp⟩
  by_cases k10 : kind = 10
  · subst k10
    clear k7 k8 k9
    have hbd : Below w1.heap.size w1 w1.drew := (Below.refl w1.heap.size w1).drew
    have Gd := HG.out.1.below hbd 0
    have hfa := fun x (hx : x < 0) => Gd.fail hk (v := .pointer q1) hq1 x b hx
    rw [HG.out.2] at hfa
    unfold faiA at hfa
    go_wp2_with fail
    refine goR24_wp gm w.heap.size k q1 a b 1 w1 _ hk ha1 ha2 hq1 c2 c3 hfa ?_
    intro u129 u130 u131 u132 u133 u134 u135 u136 u137 u138 u139 u140 u141
    clear hfa
    go_wp2
    go_ret
    exact ⟨rfl, _, _, _, _, _, Gd, by simp⟩
  go_wp2
  go_ret
  exact ⟨rfl, _, _, _, _, _, HG.out.1, by simp⟩
end Go.Proofs.YtlhohmlpcgbliabGreatDoor
