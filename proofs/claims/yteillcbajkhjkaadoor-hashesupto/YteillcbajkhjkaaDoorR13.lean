import Derived.Test.YteillcbajkhjkaaDoorR12
namespace Go.Proofs.YteillcbajkhjkaaDoor
open Go.RowKit
attribute [local go_sem ↓] Go.wp_at_zero Go.wp_at_succ

noncomputable def hshB4 : Code := hshB 4
noncomputable def hshB6 : Code := hshB 6

theorem be8_take (n k : Nat) (hk : k < 8) : (Sha.be8 n).take (k + 1) = (Sha.be8 n).take k ++ [(Sha.be8 n).getD k 0] := by
  match k, hk with
  | 0, _ => rfl
  | 1, _ => rfl
  | 2, _ => rfl
  | 3, _ => rfl
  | 4, _ => rfl
  | 5, _ => rfl
  | 6, _ => rfl
  | 7, _ => rfl

theorem byte_of (n p : Nat) (hn : n < 9000000000000000000) : (wrap64 ((n : Int) / (p : Int))).tmod 256 % 256 = ((n / p % 256 : Nat) : Int) := by
  have h1 : ((n : Int) / (p : Int)) = ((n / p : Nat) : Int) := by simp
  rw [h1]
  have h2 : n / p ≤ n := Nat.div_le_self _ _
  generalize n / p = q at *
  rw [IntWalk.wrap64_in _ ⟨by omega, by omega⟩, Int.tmod_eq_emod_of_nonneg (by omega)]
  omega

set_option maxRecDepth 100000 in
set_option maxHeartbeats 4000000 in
theorem hshB2_wp {c0 c1 c2 c6 c7 c8 c9 c10 c11 c12 c13 c14 c15 c16 c17 c18 c19 c20 c21 c22 c23 c24 c25 c26 c27 c28 c29 c30 c31 c32 c33 c34 c35 c36 c37 c38 c39 c40 c41 c42 c43 c44 c45 c46 c47 c48 c49 c50 c51 c52 c53 c54 c55 c56 c57 c58 c59 c60 c61 c62 c63 c64 c65 c66 c67 c68 c69 c70 c71 c72 c73 c74 c75 c76 c77 c78 c79 c80 c81 c82 c83 c84 c85 c86 c87 c88 c89 c90 c91 c92 c93 c94 c95 c96 c97 c98 c99 c100 c101 c102 : Value} (n : Nat) (l0 : List Nat) (v : Value) (base : Nat) (w w0 : World) (Q : Exit → Act → World → Prop) (hn : n < 9000000000000000000) (hl : l0.length < 200000000000) (hrow : RowM w base v l0) (hb0 : base ≤ w0.heap.size) (hbw : Below base w0 w)
  (hQ : ∀ (u5 u6 u27 u28 u29 u30 u31 u32 u33 u34 u35 u36 u37 u38 u39 u40 u41 u42 : Value) (v' : Value) (w' : World), RowM w' base v' (l0 ++ Sha.be8 n) → Below base w0 w' → Q (.exit 2) ⟨#[c0, c1, c2, .int .i64 (n : Int), v', u5, u6, c7, c8, c9, c10, c11, c12, c13, c14, c15, c16, c17, c18, c19, c20, c21, c22, c23, c24, c25, c26, u27, u28, u29, u30, u31, u32, u33, u34, u35, u36, u37, u38, u39, u40, u41, u42, c43, c44, c45, c46, c47, c48, c49, c50, c51, c52, c53, c54, c55, c56, c57, c58, c59, c60, c61, c62, c63, c64, c65, c66, c67, c68, c69, c70, c71, c72, c73, c74, c75, c76, c77, c78, c79, c80, c81, c82, c83, c84, c85, c86, c87, c88, c89, c90, c91, c92, c93, c94, c95, c96, c97, c98, c99, c100, c101, c102], []⟩ w') :
  Code.wp Tryd.prog hshB2 Q ⟨#[c0, c1, c2, .int .i64 (n : Int), v, .int .i64 0, c6, c7, c8, c9, c10, c11, c12, c13, c14, c15, c16, c17, c18, c19, c20, c21, c22, c23, c24, c25, c26, c27, c28, c29, c30, c31, c32, c33, c34, c35, c36, c37, c38, c39, c40, c41, c42, c43, c44, c45, c46, c47, c48, c49, c50, c51, c52, c53, c54, c55, c56, c57, c58, c59, c60, c61, c62, c63, c64, c65, c66, c67, c68, c69, c70, c71, c72, c73, c74, c75, c76, c77, c78, c79, c80, c81, c82, c83, c84, c85, c86, c87, c88, c89, c90, c91, c92, c93, c94, c95, c96, c97, c98, c99, c100, c101, c102], []⟩ w := by
  conv => arg 2; whnf
  try go_wp2
  go_loopw [4, 5] (fun v i wr => ∃ k : Nat, k ≤ 8 ∧ i = .int .i64 k ∧ RowM wr base v (l0 ++ (Sha.be8 n).take k) ∧ Below base w0 wr) (fun _ i _ => 8 - (intOf i).toNat)
  case atStart => exact ⟨0, by omega, rfl, by simpa using hrow, hbw⟩
  case round =>
    obtain ⟨k, hk, rfl, hr, hb⟩ := hrel
    obtain ⟨g, cap, rfl⟩ := hr.form
    by_cases h8 : k < 8
    · have hbs : base ≤ wr.heap.size := Nat.le_trans hb0 hb.size
      have HX : Hid ((l0 ++ (Sha.be8 n).take k) ++ [(Sha.be8 n).getD k 0] = l0 ++ (Sha.be8 n).take (k + 1)) := by
        show _ = _
        rw [be8_take n k h8, List.append_assoc]
      have HLN : Hid ((l0 ++ (Sha.be8 n).take k).length < 1000000000000) := by show _ < _; simp; omega
      have HP : Hid (∃ p : Nat, IntKind.i64.wrap (2 ^ (8 * (7 - (k : Int))).toNat) = (p : Int) ∧ 0 < p ∧ n / p % 256 = (Sha.be8 n).getD k 0) := by
        show ∃ p : Nat, _
        match k, h8 with
        | 0, _ => exact ⟨72057594037927936, by decide, by omega, rfl⟩
        | 1, _ => exact ⟨281474976710656, by decide, by omega, rfl⟩
        | 2, _ => exact ⟨1099511627776, by decide, by omega, rfl⟩
        | 3, _ => exact ⟨4294967296, by decide, by omega, rfl⟩
        | 4, _ => exact ⟨16777216, by decide, by omega, rfl⟩
        | 5, _ => exact ⟨65536, by decide, by omega, rfl⟩
        | 6, _ => exact ⟨256, by decide, by omega, rfl⟩
        | 7, _ => exact ⟨1, by decide, by omega, by simp [Sha.be8]⟩
      obtain ⟨p, hp, hp0, hpv⟩ := HP.out
      have HPV : Hid (n / p % 256 = (Sha.be8 n).getD k 0) := hpv
      clear hrow hbw hQ hl hpv HP
      generalize hdd : (Sha.be8 n).getD k 0 = d at *
      clear hdd
      generalize hlj : l0 ++ (Sha.be8 n).take k = lj at *
      clear hlj
      have hLj : lj.length < 1000000000000 := HLN.out
      generalize hL : lj.length = L at *
      have HLE : Hid (lj.length = L) := hL
      clear hL
      have hbv : (wrap64 ((n : Int) / (p : Int))).tmod 256 % 256 = ((d : Nat) : Int) := by rw [byte_of n p hn, HPV.out]
      have HBV : Hid ((wrap64 ((n : Int) / (p : Int))).tmod 256 % 256 = ((d : Nat) : Int)) := hbv
      clear hbv
      have hblk : Blk (wr.alloc (.cells #[.int .u8 ((wrap64 ((n : Int) / (p : Int))).tmod 256 % 256)] 5)) wr.heap.size 5 [.int .u8 ((d : Nat) : Int)] := by
        rw [HBV.out]
        exact Blk.new wr 5 _
      go_wp2_with (at_builtin; refine wpList_appbyte (by rfl) (.tmp 35) (.tmp 41) (by rfl) base _ lj (by rfl) (hr.alloc _) d wr.heap.size 1 (by rfl) hblk (by rw [HLE.out]; exact hLj) (by simp; omega) (w0 := w0) (hb.alloc hbs _) (Nat.le_refl _) ?_)
      intro v' w' hr' hb'
      rw [HX.out] at hr'
      clear hblk
      go_wp2
      go_roundw
      case rel => exact ⟨k + 1, by omega, rfl, hr', hb'⟩
      case measure => simp [intOf]; omega
    · have hk8 : k = 8 := by omega
      subst hk8
      go_wp2
      exact hQ _ _ _ _ _ _ _ _ _ _ _ _ _ _ _ _ _ _ _ _ hr hb
end Go.Proofs.YteillcbajkhjkaaDoor
