import Derived.Test.YteillcbajkhjkaaDoorR13
namespace Go.Proofs.YteillcbajkhjkaaDoor
open Go.RowKit
attribute [local go_sem ↓] Go.wp_at_zero Go.wp_at_succ

noncomputable def hshB8 : Code := hshB 8
noncomputable def hshR24 : Code := ((Tryd.f31.body.bind (findRegion 24)).getD .skip)

theorem initK_take (k : Nat) (hk : k < 8) : Sha.init.list.take (k + 1) = Sha.init.list.take k ++ [Sha.init.list.getD k 0] := by
  match k, hk with
  | 0, _ => rfl
  | 1, _ => rfl
  | 2, _ => rfl
  | 3, _ => rfl
  | 4, _ => rfl
  | 5, _ => rfl
  | 6, _ => rfl
  | 7, _ => rfl

set_option maxRecDepth 100000 in
set_option maxHeartbeats 4000000 in
theorem hshB4_wp {c0 c1 c2 c3 c4 c5 c6 c7 c10 c11 c12 c13 c14 c15 c16 c17 c18 c19 c20 c21 c22 c23 c24 c25 c26 c27 c28 c29 c30 c31 c32 c33 c34 c35 c36 c37 c38 c39 c40 c41 c42 c43 c44 c45 c46 c47 c48 c49 c50 c51 c52 c53 c54 c55 c56 c57 c58 c59 c60 c61 c62 c63 c64 c65 c66 c67 c68 c69 c70 c71 c72 c73 c74 c75 c76 c77 c78 c79 c80 c81 c82 c83 c84 c85 c86 c87 c88 c89 c90 c91 c92 c93 c94 c95 c96 c97 c98 c99 c100 c101 c102 : Value} (w : World) (Q : Exit → Act → World → Prop)
  (hQ : ∀ (u9 u45 u46 u47 u48 u49 u50 u51 u52 u53 : Value) (v' : Value) (w' : World), Row w' w.heap.size 3 v' (ints Sha.init.list) → Below w.heap.size w w' → Q (.exit 4) ⟨#[c0, c1, c2, c3, c4, c5, c6, c7, v', u9, c10, c11, c12, c13, c14, c15, c16, c17, c18, c19, c20, c21, c22, c23, c24, c25, c26, c27, c28, c29, c30, c31, c32, c33, c34, c35, c36, c37, c38, c39, c40, c41, c42, c43, c44, u45, u46, u47, u48, u49, u50, u51, u52, u53, c54, c55, c56, c57, c58, c59, c60, c61, c62, c63, c64, c65, c66, c67, c68, c69, c70, c71, c72, c73, c74, c75, c76, c77, c78, c79, c80, c81, c82, c83, c84, c85, c86, c87, c88, c89, c90, c91, c92, c93, c94, c95, c96, c97, c98, c99, c100, c101, c102], []⟩ w') :
  Code.wp Tryd.prog hshB4 Q ⟨#[c0, c1, c2, c3, c4, c5, c6, c7, .slice none 0 0, .int .i64 0, c10, c11, c12, c13, c14, c15, c16, c17, c18, c19, c20, c21, c22, c23, c24, c25, c26, c27, c28, c29, c30, c31, c32, c33, c34, c35, c36, c37, c38, c39, c40, c41, c42, c43, c44, c45, c46, c47, c48, c49, c50, c51, c52, c53, c54, c55, c56, c57, c58, c59, c60, c61, c62, c63, c64, c65, c66, c67, c68, c69, c70, c71, c72, c73, c74, c75, c76, c77, c78, c79, c80, c81, c82, c83, c84, c85, c86, c87, c88, c89, c90, c91, c92, c93, c94, c95, c96, c97, c98, c99, c100, c101, c102], []⟩ w := by
  conv => arg 2; whnf
  try go_wp2
  go_loopw [8, 9] (fun v i wr => ∃ k : Nat, k ≤ 8 ∧ i = .int .i64 k ∧ Row wr w.heap.size 3 v (ints (Sha.init.list.take k)) ∧ Below w.heap.size w wr) (fun _ i _ => 8 - (intOf i).toNat)
  case atStart => exact ⟨0, by omega, rfl, World.ownsRow_nil _ _ _ _, Below.refl _ _⟩
  case round =>
    obtain ⟨k, hk, rfl, hrow, hb⟩ := hrel
    by_cases h8 : k < 8
    · have hwd := fun wx s hs => word_first k wx h8 s hs
      have HN : Hid (ints (Sha.init.list.take k) ++ [.int .i64 ((Sha.init.list.getD k 0 : Nat) : Int)] = ints (Sha.init.list.take (k + 1))) := by
        show _ = _
        rw [initK_take k h8, ints_append]; rfl
      have hxl : (ints (Sha.init.list.take k)).length ≤ 8 := by rw [ints_length, List.length_take]; omega
      have hsz := hb.size
      generalize Sha.init.list.getD k 0 = x at *
      generalize hxs : ints (Sha.init.list.take k) = xs at *
      clear hxs hQ
      go_wp2_with (first | (go_at_call 40; refine (hwd _ _ (by kernel_rfl)).mono ?_; rintro e w' ⟨rfl, rfl⟩) | (at_builtin; refine wpList_app elem_int rfl Tryd.underlying32 (by rfl) (.tmp 49) (.tmp 52) (by rfl) w.heap.size _ xs (by rfl) (hrow.alloc _) _ 1 1 [.int .i64 (x : Int)] (by rfl) rfl (Blk.new _ 3 _) ?h1 ?hl ?hb ?hbs (w0 := w) (hb.alloc hsz _) (Nat.le_refl _) ?_))
      case h1 => intro u hu; simp at hu; subst hu; rfl
      case hl => omega
      case hb => omega
      case hbs => simp; omega
      intro v' w' hv' _ hb'
      rw [HN.out] at hv'
      go_wp2
      go_roundw
      case rel => exact ⟨k + 1, by omega, by go_num, hv', hb'⟩
      case measure => simp [intOf]; omega
    · have hk8 : k = 8 := by omega
      subst hk8
      go_wp2
      exact hQ _ _ _ _ _ _ _ _ _ _ _ _ hrow hb
end Go.Proofs.YteillcbajkhjkaaDoor
