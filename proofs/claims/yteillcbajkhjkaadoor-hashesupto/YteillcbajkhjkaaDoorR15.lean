import Derived.Test.YteillcbajkhjkaaDoorR14
namespace Go.Proofs.YteillcbajkhjkaaDoor
open Go.RowKit
attribute [local go_sem ↓] Go.wp_at_zero Go.wp_at_succ

theorem mixAll_ok {s : Sha.St} (h : s.ok) (k : Nat) (l : List Nat) : (Sha.mixAll k s l).ok := by
  induction k with
  | zero => exact h
  | succ k ih => rw [Sha.mixAll_succ]; exact Sha.mix_ok _ _

set_option maxRecDepth 100000 in
set_option maxHeartbeats 4000000 in
theorem hshB6_wp {c0 c1 c2 c3 c4 c5 c6 c9 c11 c12 c13 c14 c15 c16 c17 c18 c19 c20 c21 c22 c23 c24 c25 c26 c27 c28 c29 c30 c31 c32 c33 c34 c35 c36 c37 c38 c39 c40 c41 c42 c43 c44 c45 c46 c47 c48 c49 c50 c51 c52 c53 c54 c55 c56 c57 c58 c59 c60 c61 c62 c63 c64 c65 c66 c67 c68 c69 c70 c71 c72 c73 c74 c75 c76 c77 c78 c79 c80 c81 c82 c83 c84 c85 c86 c87 c88 c89 c90 c91 c92 c93 c94 c95 c96 c97 c98 c99 c100 c101 c102 : Value} (t : ByteArray) (m : Nat) (g c : Nat) (w : World) (Q : Exit → Act → World → Prop) (ht : t.size = 64 * m) (hm : m < 10000000000) (hI : IntsAt w g Sha.init.list) (hg : g < w.heap.size)
  (hQ : ∀ (u10 u54 u55 u56 u57 u58 u59 u60 u61 u62 u63 u64 u65 u66 u67 : Value) (g' c' : Nat) (w' : World), IntsAt w' g' (Sha.mixAll m Sha.init (bts t)).list → g' < w'.heap.size → Below w.heap.size w w' → Q (.exit 6) ⟨#[c0, c1, c2, c3, c4, c5, c6, .string t, .slice (some ⟨g', 0, none⟩) 8 c', c9, u10, c11, c12, c13, c14, c15, c16, c17, c18, c19, c20, c21, c22, c23, c24, c25, c26, c27, c28, c29, c30, c31, c32, c33, c34, c35, c36, c37, c38, c39, c40, c41, c42, c43, c44, c45, c46, c47, c48, c49, c50, c51, c52, c53, u54, u55, u56, u57, u58, u59, u60, u61, u62, u63, u64, u65, u66, u67, c68, c69, c70, c71, c72, c73, c74, c75, c76, c77, c78, c79, c80, c81, c82, c83, c84, c85, c86, c87, c88, c89, c90, c91, c92, c93, c94, c95, c96, c97, c98, c99, c100, c101, c102], []⟩ w') :
  Code.wp Tryd.prog hshB6 Q ⟨#[c0, c1, c2, c3, c4, c5, c6, .string t, .slice (some ⟨g, 0, none⟩) 8 c, c9, .int .i64 0, c11, c12, c13, c14, c15, c16, c17, c18, c19, c20, c21, c22, c23, c24, c25, c26, c27, c28, c29, c30, c31, c32, c33, c34, c35, c36, c37, c38, c39, c40, c41, c42, c43, c44, c45, c46, c47, c48, c49, c50, c51, c52, c53, c54, c55, c56, c57, c58, c59, c60, c61, c62, c63, c64, c65, c66, c67, c68, c69, c70, c71, c72, c73, c74, c75, c76, c77, c78, c79, c80, c81, c82, c83, c84, c85, c86, c87, c88, c89, c90, c91, c92, c93, c94, c95, c96, c97, c98, c99, c100, c101, c102], []⟩ w := by
  conv => arg 2; whnf
  try go_wp2
  go_loopw [8, 10] (fun v i wr => ∃ k g c : Nat, k ≤ m ∧ i = .int .i64 (64 * k : Nat) ∧ v = .slice (some ⟨g, 0, none⟩) 8 c ∧ IntsAt wr g (Sha.mixAll k Sha.init (bts t)).list ∧ g < wr.heap.size ∧ Below w.heap.size w wr) (fun _ i _ => 64 * m - (intOf i).toNat)
  case atStart => exact ⟨0, g, c, by omega, rfl, rfl, hI, hg, Below.refl _ _⟩
  case round =>
    obtain ⟨k, g1, c1, hk, rfl, rfl, hI1, hg1, hb⟩ := hrel
    clear hI hg
    by_cases h8 : k < m
    · have hsl : 64 * k + 64 ≤ t.size := by omega
      have hsz : (t.extract (64 * k) (64 * k + 64)).size = 64 := by simp; omega
      have hbk := fun wx h1 h2 => block_any g1 c1 (Sha.mixAll k Sha.init (bts t)) (t.extract (64 * k) (64 * k + 64)) wx (mixAll_ok Sha.init_ok k _) hsz h1 h2
      have HN : Hid (Sha.mix (Sha.mixAll k Sha.init (bts t)) (bts (t.extract (64 * k) (64 * k + 64))) = Sha.mixAll (k + 1) Sha.init (bts t)) := by
        show _ = _
        rw [Sha.mixAll_succ, bts_extract]
        congr 2; omega
      have HK : Hid (k + 1 ≤ m) := h8
      clear hQ
      go_wp2_with (go_at_call 41; refine (hbk _ hI1 hg1).mono ?_; rintro e w' ⟨v, rfl, hr, hb2⟩)
      obtain ⟨g2, c2, hv, hgb, _⟩ := hr.form (by rw [ints_length]; exact Nat.zero_lt_succ 7)
      obtain rfl : v = .slice (some ⟨g2, 0, none⟩) 8 c2 := hv
      obtain ⟨hI2, hg2⟩ := IntsAt.of_row hr (by exact Nat.zero_lt_succ 7)
      rw [HN.out] at hI2
      have hb3 : Below w.heap.size w w' := hb.trans (hb2.mono hb.size)
      clear hr hgb hI1 hg1 hb2 hb hbk
      go_wp2
      go_roundw
      case rel => exact ⟨k + 1, g2, c2, HK.out, by go_num, rfl, hI2, hg2, hb3⟩
      case measure => simp [intOf]; omega
    · have hk8 : k = m := by omega
      subst hk8
      go_wp2
      exact hQ _ _ _ _ _ _ _ _ _ _ _ _ _ _ _ _ _ _ hI1 hg1 hb
end Go.Proofs.YteillcbajkhjkaaDoor
