import Derived.Test.YteillcbajkhjkaaDoorR15
namespace Go.Proofs.YteillcbajkhjkaaDoor
open Go.RowKit
attribute [local go_sem ↓] Go.wp_at_zero Go.wp_at_succ

theorem Cells.one {a : Addr} {x : Value} {w : World} (h : w.cell? a = some x) : Cells [(a, x)] w := by
  intro p hp
  simp at hp
  subst hp
  exact h

set_option maxRecDepth 100000 in
set_option maxHeartbeats 1000000 in
theorem hshR24_wp {c0 c1 c2 c3 c4 c5 c6 c7 c9 c10 c13 c14 c15 c16 c17 c18 c19 c20 c21 c22 c23 c24 c25 c26 c27 c28 c29 c30 c31 c32 c33 c34 c35 c36 c37 c38 c39 c40 c41 c42 c43 c44 c45 c46 c47 c48 c49 c50 c51 c52 c53 c54 c55 c56 c57 c58 c59 c60 c61 c62 c63 c64 c65 c66 c67 c68 c69 c70 c71 c72 c73 c74 c75 c76 c77 c78 c79 c80 c81 c82 c83 c84 c85 c86 c87 c88 c89 c90 c91 c92 c93 c94 c95 c96 c97 c98 c99 c100 c101 c102 : Value} (g c k x base : Nat) (v : Value) (xs : List Value) (w w0 : World) (Q : Exit → Act → World → Prop) (hk : k < 8) (lx : x < 4294967296) (hxs : xs.length ≤ 32)
  (hrow : Row w base 5 v xs) (ex : w.cell? ⟨g, k, none⟩ = some (.int .i64 (x : Int))) (hbase : base ≤ w.heap.size) (hbw : Below base w0 w) (hg : g < base)
  (hQ : ∀ (u72 u73 u74 u75 u76 u77 u78 u79 u80 u81 u82 u83 u84 u85 u86 u87 u88 u89 u90 u91 u92 u93 u94 u95 u96 u97 u98 u99 u100 : Value) (v' : Value) (w' : World), Row w' base 5 v' (xs ++ u8s (outW x)) → Below base w0 w' → Q .normal ⟨#[c0, c1, c2, c3, c4, c5, c6, c7, .slice (some ⟨g, 0, none⟩) 8 c, c9, c10, v', .int .i64 (k : Int), c13, c14, c15, c16, c17, c18, c19, c20, c21, c22, c23, c24, c25, c26, c27, c28, c29, c30, c31, c32, c33, c34, c35, c36, c37, c38, c39, c40, c41, c42, c43, c44, c45, c46, c47, c48, c49, c50, c51, c52, c53, c54, c55, c56, c57, c58, c59, c60, c61, c62, c63, c64, c65, c66, c67, c68, c69, c70, c71, u72, u73, u74, u75, u76, u77, u78, u79, u80, u81, u82, u83, u84, u85, u86, u87, u88, u89, u90, u91, u92, u93, u94, u95, u96, u97, u98, u99, u100, c101, c102], []⟩ w') :
  Code.wp Tryd.prog hshR24 Q ⟨#[c0, c1, c2, c3, c4, c5, c6, c7, .slice (some ⟨g, 0, none⟩) 8 c, c9, c10, v, .int .i64 (k : Int), c13, c14, c15, c16, c17, c18, c19, c20, c21, c22, c23, c24, c25, c26, c27, c28, c29, c30, c31, c32, c33, c34, c35, c36, c37, c38, c39, c40, c41, c42, c43, c44, c45, c46, c47, c48, c49, c50, c51, c52, c53, c54, c55, c56, c57, c58, c59, c60, c61, c62, c63, c64, c65, c66, c67, c68, c69, c70, c71, c72, c73, c74, c75, c76, c77, c78, c79, c80, c81, c82, c83, c84, c85, c86, c87, c88, c89, c90, c91, c92, c93, c94, c95, c96, c97, c98, c99, c100, c101, c102], []⟩ w := by
  conv => arg 2; whnf
  have i0 : (0 : Int) ≤ (k : Int) := by omega
  have i1 : (k : Int) < 8 := by omega
  have hS := Cells.one ex
  have HV : Hid (u8s (outW x) = [.int .u8 ((x : Int) / 16777216), .int .u8 ((x : Int) / 65536 % 256), .int .u8 ((x : Int) / 256 % 256), .int .u8 ((x : Int) % 256)]) := by show _ = _; simp [u8s, outW]
  have x0 : (0 : Int) ≤ (x : Int) := by omega
  have x1 : (x : Int) < 4294967296 := by omega
  refine wp_region_head (S := Cells [(⟨g, k, none⟩, .int .i64 (x : Int))]) (n := 27) (by kernel_rfl) (by kernel_rfl) (by kernel_rfl) (by simp) hS ?_
  simp only [List.take_succ_cons, List.take_zero]
  iterate 4 (refine wpQuiet_pure (by rfl) ?_; go_big_quiet_step (fail); refine wpQuiet_nil ?_; show wpQuiet _ _ _ _ _ _)
  refine wpQuiet_load (by rfl) 3 (.tmp 75) (by rfl) ⟨g, k, none⟩ (.int .i64 (x : Int)) (by rfl) (fun w hw => load_int w _ _ _ (hw.get _ _ (by simp))) ?_
  simp only [Act.put, List.setIfInBounds_toArray, List.set_cons_succ, List.set_cons_zero]
  iterate 5 (refine wpQuiet_pure (by rfl) ?_; go_big_quiet_step (fail); refine wpQuiet_nil ?_; show wpQuiet _ _ _ _ _ _)
  refine wpQuiet_load (by rfl) 3 (.tmp 81) (by rfl) ⟨g, k, none⟩ (.int .i64 (x : Int)) (by rfl) (fun w hw => load_int w _ _ _ (hw.get _ _ (by simp))) ?_
  simp only [Act.put, List.setIfInBounds_toArray, List.set_cons_succ, List.set_cons_zero]
  iterate 6 (refine wpQuiet_pure (by rfl) ?_; go_big_quiet_step (fail); refine wpQuiet_nil ?_; show wpQuiet _ _ _ _ _ _)
  refine wpQuiet_load (by rfl) 3 (.tmp 88) (by rfl) ⟨g, k, none⟩ (.int .i64 (x : Int)) (by rfl) (fun w hw => load_int w _ _ _ (hw.get _ _ (by simp))) ?_
  simp only [Act.put, List.setIfInBounds_toArray, List.set_cons_succ, List.set_cons_zero]
  iterate 6 (refine wpQuiet_pure (by rfl) ?_; go_big_quiet_step (fail); refine wpQuiet_nil ?_; show wpQuiet _ _ _ _ _ _)
  refine wpQuiet_load (by rfl) 3 (.tmp 95) (by rfl) ⟨g, k, none⟩ (.int .i64 (x : Int)) (by rfl) (fun w hw => load_int w _ _ _ (hw.get _ _ (by simp))) ?_
  simp only [Act.put, List.setIfInBounds_toArray, List.set_cons_succ, List.set_cons_zero]
  iterate 2 (refine wpQuiet_pure (by rfl) ?_; go_big_quiet_step (fail); refine wpQuiet_nil ?_; show wpQuiet _ _ _ _ _ _)
  refine wpQuiet_nil ?_
  refine wpAnyH_val (i := 27) (v := .slice (some ⟨w.heap.size, 0, none⟩) 4 4) (w' := (w.alloc (.cells #[.int .u8 ((x : Int) / 16777216), .int .u8 ((x : Int) / 65536 % 256), .int .u8 ((x : Int) / 256 % 256), .int .u8 ((x : Int) % 256)] 5)).drewN 1) (by kernel_rfl) (by rfl) (by rfl) (by kernel_rfl) (hS.alloc _) ?_
  refine wpAnyH_app elem_u8 rfl Tryd.underlying52 (i := 28) (by kernel_rfl) (by rfl) (by rfl) (.tmp 72) (.tmp 99) (by rfl) base v xs (by rfl) ((hrow.alloc _).drewN 1) w.heap.size 4 4 [.int .u8 ((x : Int) / 16777216), .int .u8 ((x : Int) / 65536 % 256), .int .u8 ((x : Int) / 256 % 256), .int .u8 ((x : Int) % 256)] (by rfl) rfl (by omega) ((Blk.new w 5 _).drewN 1) (by simp [Value.oneCell']) (by omega) (by omega) (by simp; omega) (w0 := w0) (B := base) (Below.drewN' (hbw.alloc hbase _) 1) (Nat.le_refl _) ?_
  intro g' cap' w' hrow' hgrow _ hb'
  have hS1 := hS.alloc (.cells #[.int .u8 ((x : Int) / 16777216), .int .u8 ((x : Int) / 65536 % 256), .int .u8 ((x : Int) / 256 % 256), .int .u8 ((x : Int) % 256)] 5)
  have sx : w'.cell? ⟨g, k, none⟩ = some (.int .i64 (x : Int)) := grown_cell ((hrow.alloc _).drewN 1) hgrow (hS1.get _ _ (by simp)) hg
  refine ⟨Cells.one sx, ?_⟩
  refine wpAnyH_val (i := 29) (v := .slice (some ⟨g', 0, none⟩) (xs.length + 4) cap') (w' := w') (by kernel_rfl) (by rfl) (by rfl) (by kernel_rfl) (Cells.one sx) ?_
  refine wpAnyH_done (by kernel_rfl) ?_ _
  refine NoPanic.normal ?_
  simp only [Act.put]
  rw [HV.out] at hQ
  exact hQ _ _ _ _ _ _ _ _ _ _ _ _ _ _ _ _ _ _ _ _ _ _ _ _ _ _ _ _ _ _ _ hrow' hb'
end Go.Proofs.YteillcbajkhjkaaDoor
