import Derived.Test.YteillcbajkhjkaaDoorR27
namespace Go.Proofs.YteillcbajkhjkaaDoor
open Go.RowKit
attribute [local go_sem ↓] Go.wp_at_zero Go.wp_at_succ

set_option maxRecDepth 100000 in
set_option maxHeartbeats 200000 in
theorem whR8_low {c0 c2 c3 c4 c8 c9 c10 c11 c12 c13 c14 c15 c16 c17 c18 c19 c20 c21 c22 c23 c24 c25 c26 c27 c28 c29 c30 c31 c32 c33 c34 c35 c36 c37 c38 c39 c40 c41 c42 c43 c44 c45 c46 c47 c48 c49 : Value} (g m n c b o k : Nat) (s : ByteArray) (w : World) (Q : Exit → Act → World → Prop) (hk : k < n) (hm : n ≤ m)
  (h1 : w.cell? ⟨g, k, none⟩ = some (.string s)) (h2 : w.cell? ⟨b, o + k, none⟩ = some (.string s))
  (hQ : ∀ (u24 u25 u26 u27 u28 u29 u30 u31 u32 u33 u34 u35 u36 u37 u38 u39 u40 u41 u42 u43 u44 u45 u46 u47 u48 : Value) (d : Nat), Q .normal ⟨#[c0, .slice (some ⟨b, o, none⟩) n c, c2, c3, c4, .int .i64 (n : Int), .slice (some ⟨g, 0, none⟩) m m, .int .i64 (k : Int), c8, c9, c10, c11, c12, c13, c14, c15, c16, c17, c18, c19, c20, c21, c22, c23, u24, u25, u26, u27, u28, u29, u30, u31, u32, u33, u34, u35, u36, u37, u38, u39, u40, u41, u42, u43, u44, u45, u46, u47, u48, .bool false], []⟩ (w.drewN d)) :
  Code.wp Tryd.prog whR8 Q ⟨#[c0, .slice (some ⟨b, o, none⟩) n c, c2, c3, c4, .int .i64 (n : Int), .slice (some ⟨g, 0, none⟩) m m, .int .i64 (k : Int), c8, c9, c10, c11, c12, c13, c14, c15, c16, c17, c18, c19, c20, c21, c22, c23, c24, c25, c26, c27, c28, c29, c30, c31, c32, c33, c34, c35, c36, c37, c38, c39, c40, c41, c42, c43, c44, c45, c46, c47, c48, c49], []⟩ w := by
  conv => arg 2; whnf
  refine wp_region_quiet_lit (by kernel_rfl) (by kernel_rfl) (WQ.out ?_)
  refine WQ.yes (v := .int .i64 (k : Int)) (by kernel_rfl) (some 24) (by rfl) (fun wx hx => by kernel_rfl) ?_
  simp only [Act.put, List.setIfInBounds_toArray, List.set_cons_succ, List.set_cons_zero]
  refine WQ.yes (v := .int .i64 (n : Int)) (by kernel_rfl) (some 25) (by rfl) (fun wx hx => by kernel_rfl) ?_
  simp only [Act.put, List.setIfInBounds_toArray, List.set_cons_succ, List.set_cons_zero]
  refine WQ.yes (v := .bool true) (by kernel_rfl) (some 26) (by rfl) (fun wx hx => exec_bin (by rfl) (by rfl) (by rfl) (by kernel_rfl) (lss_true wx k n hk)) ?_
  simp only [Act.put, List.setIfInBounds_toArray, List.set_cons_succ, List.set_cons_zero]
  refine WQ.yes (v := .bool true) (by kernel_rfl) (some 27) (by rfl) (fun wx hx => by kernel_rfl) ?_
  simp only [Act.put, List.setIfInBounds_toArray, List.set_cons_succ, List.set_cons_zero]
  refine WQ.yes (v := .slice (some ⟨g, 0, none⟩) m m) (by kernel_rfl) (some 28) (by rfl) (fun wx hx => by kernel_rfl) ?_
  simp only [Act.put, List.setIfInBounds_toArray, List.set_cons_succ, List.set_cons_zero]
  refine WQ.yes (v := .int .i64 (k : Int)) (by kernel_rfl) (some 29) (by rfl) (fun wx hx => by kernel_rfl) ?_
  simp only [Act.put, List.setIfInBounds_toArray, List.set_cons_succ, List.set_cons_zero]
  refine WQ.yes (v := .pointer (some ⟨g, 0 + k, none⟩)) (by kernel_rfl) (some 30) (by rfl) (fun wx hx => exec_ia (by rfl) (by rfl) (by rfl) (index_row wx g 0 m m k (by omega))) ?_
  simp only [Act.put, List.setIfInBounds_toArray, List.set_cons_succ, List.set_cons_zero]
  refine WQ.yes (v := .string s) (by kernel_rfl) (some 31) (by rfl) (fun wx hx => exec_load (by rfl) (by rfl) (load_str wx _ _ _ (cell_drew hx (by rw [Nat.zero_add]; exact h1)))) ?_
  simp only [Act.put, List.setIfInBounds_toArray, List.set_cons_succ, List.set_cons_zero]
  refine WQ.yes (v := .slice (some ⟨b, o, none⟩) n c) (by kernel_rfl) (some 32) (by rfl) (fun wx hx => by kernel_rfl) ?_
  simp only [Act.put, List.setIfInBounds_toArray, List.set_cons_succ, List.set_cons_zero]
  refine WQ.yes (v := .int .i64 (k : Int)) (by kernel_rfl) (some 33) (by rfl) (fun wx hx => by kernel_rfl) ?_
  simp only [Act.put, List.setIfInBounds_toArray, List.set_cons_succ, List.set_cons_zero]
  refine WQ.yes (v := .pointer (some ⟨b, o + k, none⟩)) (by kernel_rfl) (some 34) (by rfl) (fun wx hx => exec_ia (by rfl) (by rfl) (by rfl) (index_row wx b o n c k hk)) ?_
  simp only [Act.put, List.setIfInBounds_toArray, List.set_cons_succ, List.set_cons_zero]
  refine WQ.yes (v := .string s) (by kernel_rfl) (some 35) (by rfl) (fun wx hx => exec_load (by rfl) (by rfl) (load_str wx _ _ _ (cell_drew hx h2))) ?_
  simp only [Act.put, List.setIfInBounds_toArray, List.set_cons_succ, List.set_cons_zero]
  refine WQ.yes (v := .bool false) (by kernel_rfl) (some 36) (by rfl) (fun wx hx => exec_bin (by rfl) (by rfl) (by rfl) (by kernel_rfl) (neq_self wx s)) ?_
  simp only [Act.put, List.setIfInBounds_toArray, List.set_cons_succ, List.set_cons_zero]
  refine WQ.yes (v := .bool false) (by kernel_rfl) (some 37) (by rfl) (fun wx hx => by kernel_rfl) ?_
  simp only [Act.put, List.setIfInBounds_toArray, List.set_cons_succ, List.set_cons_zero]
  refine WQ.yes (v := .bool false) (by kernel_rfl) (some 38) (by rfl) (fun wx hx => by kernel_rfl) ?_
  simp only [Act.put, List.setIfInBounds_toArray, List.set_cons_succ, List.set_cons_zero]
  refine WQ.yes (v := .int .i64 (k : Int)) (by kernel_rfl) (some 39) (by rfl) (fun wx hx => by kernel_rfl) ?_
  simp only [Act.put, List.setIfInBounds_toArray, List.set_cons_succ, List.set_cons_zero]
  refine WQ.yes (v := .int .i64 (n : Int)) (by kernel_rfl) (some 40) (by rfl) (fun wx hx => by kernel_rfl) ?_
  simp only [Act.put, List.setIfInBounds_toArray, List.set_cons_succ, List.set_cons_zero]
  refine WQ.yes (v := .bool false) (by kernel_rfl) (some 41) (by rfl) (fun wx hx => exec_bin (by rfl) (by rfl) (by rfl) (by kernel_rfl) (geq_false wx k n hk)) ?_
  simp only [Act.put, List.setIfInBounds_toArray, List.set_cons_succ, List.set_cons_zero]
  refine WQ.yes (v := .bool false) (by kernel_rfl) (some 42) (by rfl) (fun wx hx => by kernel_rfl) ?_
  simp only [Act.put, List.setIfInBounds_toArray, List.set_cons_succ, List.set_cons_zero]
  refine WQ.no (by kernel_rfl) (some 43) (by rfl) ?_
  simp only [Act.put, List.setIfInBounds_toArray, List.set_cons_succ, List.set_cons_zero]
  refine WQ.no (by kernel_rfl) (some 44) (by rfl) ?_
  simp only [Act.put, List.setIfInBounds_toArray, List.set_cons_succ, List.set_cons_zero]
  refine WQ.no (by kernel_rfl) (some 45) (by rfl) ?_
  simp only [Act.put, List.setIfInBounds_toArray, List.set_cons_succ, List.set_cons_zero]
  refine WQ.no (by kernel_rfl) (some 46) (by rfl) ?_
  simp only [Act.put, List.setIfInBounds_toArray, List.set_cons_succ, List.set_cons_zero]
  refine WQ.no (by kernel_rfl) (some 47) (by rfl) ?_
  simp only [Act.put, List.setIfInBounds_toArray, List.set_cons_succ, List.set_cons_zero]
  refine WQ.yes (v := .bool false) (by kernel_rfl) (some 48) (by rfl) (fun wx hx => by kernel_rfl) ?_
  simp only [Act.put, List.setIfInBounds_toArray, List.set_cons_succ, List.set_cons_zero]
  refine WQ.yes (v := .bool false) (by kernel_rfl) (some 49) (by rfl) (fun wx hx => by kernel_rfl) ?_
  simp only [Act.put, List.setIfInBounds_toArray, List.set_cons_succ, List.set_cons_zero]
  refine WQ.nil ?_
  rintro _ ⟨d, rfl⟩
  exact hQ _ _ _ _ _ _ _ _ _ _ _ _ _ _ _ _ _ _ _ _ _ _ _ _ _ _

set_option maxRecDepth 100000 in
set_option maxHeartbeats 200000 in
theorem whR8_high {c0 c2 c3 c4 c8 c9 c10 c11 c12 c13 c14 c15 c16 c17 c18 c19 c20 c21 c22 c23 c24 c25 c26 c27 c28 c29 c30 c31 c32 c33 c34 c35 c36 c37 c38 c39 c40 c41 c42 c43 c44 c45 c46 c47 c48 c49 : Value} (g m n k : Nat) (v1 : Value) (w : World) (Q : Exit → Act → World → Prop) (hk : n ≤ k) (hm : k < m)
  (h1 : w.cell? ⟨g, k, none⟩ = some (.string beyond))
  (hQ : ∀ (u24 u25 u26 u27 u28 u29 u30 u31 u32 u33 u34 u35 u36 u37 u38 u39 u40 u41 u42 u43 u44 u45 u46 u47 u48 : Value) (d : Nat), Q .normal ⟨#[c0, v1, c2, c3, c4, .int .i64 (n : Int), .slice (some ⟨g, 0, none⟩) m m, .int .i64 (k : Int), c8, c9, c10, c11, c12, c13, c14, c15, c16, c17, c18, c19, c20, c21, c22, c23, u24, u25, u26, u27, u28, u29, u30, u31, u32, u33, u34, u35, u36, u37, u38, u39, u40, u41, u42, u43, u44, u45, u46, u47, u48, .bool false], []⟩ (w.drewN d)) :
  Code.wp Tryd.prog whR8 Q ⟨#[c0, v1, c2, c3, c4, .int .i64 (n : Int), .slice (some ⟨g, 0, none⟩) m m, .int .i64 (k : Int), c8, c9, c10, c11, c12, c13, c14, c15, c16, c17, c18, c19, c20, c21, c22, c23, c24, c25, c26, c27, c28, c29, c30, c31, c32, c33, c34, c35, c36, c37, c38, c39, c40, c41, c42, c43, c44, c45, c46, c47, c48, c49], []⟩ w := by
  conv => arg 2; whnf
  refine wp_region_quiet_lit (by kernel_rfl) (by kernel_rfl) (WQ.out ?_)
  refine WQ.yes (v := .int .i64 (k : Int)) (by kernel_rfl) (some 24) (by rfl) (fun wx hx => by kernel_rfl) ?_
  simp only [Act.put, List.setIfInBounds_toArray, List.set_cons_succ, List.set_cons_zero]
  refine WQ.yes (v := .int .i64 (n : Int)) (by kernel_rfl) (some 25) (by rfl) (fun wx hx => by kernel_rfl) ?_
  simp only [Act.put, List.setIfInBounds_toArray, List.set_cons_succ, List.set_cons_zero]
  refine WQ.yes (v := .bool false) (by kernel_rfl) (some 26) (by rfl) (fun wx hx => exec_bin (by rfl) (by rfl) (by rfl) (by kernel_rfl) (lss_false wx k n hk)) ?_
  simp only [Act.put, List.setIfInBounds_toArray, List.set_cons_succ, List.set_cons_zero]
  refine WQ.yes (v := .bool false) (by kernel_rfl) (some 27) (by rfl) (fun wx hx => by kernel_rfl) ?_
  simp only [Act.put, List.setIfInBounds_toArray, List.set_cons_succ, List.set_cons_zero]
  refine WQ.no (by kernel_rfl) (some 28) (by rfl) ?_
  simp only [Act.put, List.setIfInBounds_toArray, List.set_cons_succ, List.set_cons_zero]
  refine WQ.no (by kernel_rfl) (some 29) (by rfl) ?_
  simp only [Act.put, List.setIfInBounds_toArray, List.set_cons_succ, List.set_cons_zero]
  refine WQ.no (by kernel_rfl) (some 30) (by rfl) ?_
  simp only [Act.put, List.setIfInBounds_toArray, List.set_cons_succ, List.set_cons_zero]
  refine WQ.no (by kernel_rfl) (some 31) (by rfl) ?_
  simp only [Act.put, List.setIfInBounds_toArray, List.set_cons_succ, List.set_cons_zero]
  refine WQ.no (by kernel_rfl) (some 32) (by rfl) ?_
  simp only [Act.put, List.setIfInBounds_toArray, List.set_cons_succ, List.set_cons_zero]
  refine WQ.no (by kernel_rfl) (some 33) (by rfl) ?_
  simp only [Act.put, List.setIfInBounds_toArray, List.set_cons_succ, List.set_cons_zero]
  refine WQ.no (by kernel_rfl) (some 34) (by rfl) ?_
  simp only [Act.put, List.setIfInBounds_toArray, List.set_cons_succ, List.set_cons_zero]
  refine WQ.no (by kernel_rfl) (some 35) (by rfl) ?_
  simp only [Act.put, List.setIfInBounds_toArray, List.set_cons_succ, List.set_cons_zero]
  refine WQ.no (by kernel_rfl) (some 36) (by rfl) ?_
  simp only [Act.put, List.setIfInBounds_toArray, List.set_cons_succ, List.set_cons_zero]
  refine WQ.yes (v := .bool false) (by kernel_rfl) (some 37) (by rfl) (fun wx hx => by kernel_rfl) ?_
  simp only [Act.put, List.setIfInBounds_toArray, List.set_cons_succ, List.set_cons_zero]
  refine WQ.yes (v := .bool false) (by kernel_rfl) (some 38) (by rfl) (fun wx hx => by kernel_rfl) ?_
  simp only [Act.put, List.setIfInBounds_toArray, List.set_cons_succ, List.set_cons_zero]
  refine WQ.yes (v := .int .i64 (k : Int)) (by kernel_rfl) (some 39) (by rfl) (fun wx hx => by kernel_rfl) ?_
  simp only [Act.put, List.setIfInBounds_toArray, List.set_cons_succ, List.set_cons_zero]
  refine WQ.yes (v := .int .i64 (n : Int)) (by kernel_rfl) (some 40) (by rfl) (fun wx hx => by kernel_rfl) ?_
  simp only [Act.put, List.setIfInBounds_toArray, List.set_cons_succ, List.set_cons_zero]
  refine WQ.yes (v := .bool true) (by kernel_rfl) (some 41) (by rfl) (fun wx hx => exec_bin (by rfl) (by rfl) (by rfl) (by kernel_rfl) (geq_true wx k n hk)) ?_
  simp only [Act.put, List.setIfInBounds_toArray, List.set_cons_succ, List.set_cons_zero]
  refine WQ.yes (v := .bool true) (by kernel_rfl) (some 42) (by rfl) (fun wx hx => by kernel_rfl) ?_
  simp only [Act.put, List.setIfInBounds_toArray, List.set_cons_succ, List.set_cons_zero]
  refine WQ.yes (v := .slice (some ⟨g, 0, none⟩) m m) (by kernel_rfl) (some 43) (by rfl) (fun wx hx => by kernel_rfl) ?_
  simp only [Act.put, List.setIfInBounds_toArray, List.set_cons_succ, List.set_cons_zero]
  refine WQ.yes (v := .int .i64 (k : Int)) (by kernel_rfl) (some 44) (by rfl) (fun wx hx => by kernel_rfl) ?_
  simp only [Act.put, List.setIfInBounds_toArray, List.set_cons_succ, List.set_cons_zero]
  refine WQ.yes (v := .pointer (some ⟨g, 0 + k, none⟩)) (by kernel_rfl) (some 45) (by rfl) (fun wx hx => exec_ia (by rfl) (by rfl) (by rfl) (index_row wx g 0 m m k hm)) ?_
  simp only [Act.put, List.setIfInBounds_toArray, List.set_cons_succ, List.set_cons_zero]
  refine WQ.yes (v := .string beyond) (by kernel_rfl) (some 46) (by rfl) (fun wx hx => exec_load (by rfl) (by rfl) (load_str wx _ _ _ (cell_drew hx (by rw [Nat.zero_add]; exact h1)))) ?_
  simp only [Act.put, List.setIfInBounds_toArray, List.set_cons_succ, List.set_cons_zero]
  refine WQ.yes (v := .bool false) (by kernel_rfl) (some 47) (by rfl) (fun wx hx => exec_bin (by rfl) (by rfl) (by rfl) (by kernel_rfl) (neq_self wx beyond)) ?_
  simp only [Act.put, List.setIfInBounds_toArray, List.set_cons_succ, List.set_cons_zero]
  refine WQ.yes (v := .bool false) (by kernel_rfl) (some 48) (by rfl) (fun wx hx => by kernel_rfl) ?_
  simp only [Act.put, List.setIfInBounds_toArray, List.set_cons_succ, List.set_cons_zero]
  refine WQ.yes (v := .bool false) (by kernel_rfl) (some 49) (by rfl) (fun wx hx => by kernel_rfl) ?_
  simp only [Act.put, List.setIfInBounds_toArray, List.set_cons_succ, List.set_cons_zero]
  refine WQ.nil ?_
  rintro _ ⟨d, rfl⟩
  exact hQ _ _ _ _ _ _ _ _ _ _ _ _ _ _ _ _ _ _ _ _ _ _ _ _ _ _
end Go.Proofs.YteillcbajkhjkaaDoor
