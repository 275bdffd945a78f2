import Derived.Test.YteillcbajkhjkaaDoorR11
namespace Go.Proofs.YteillcbajkhjkaaDoor
open Go.RowKit
attribute [local go_sem ↓] Go.wp_at_zero Go.wp_at_succ

theorem wpList_appbyte {w w0 : World} {B : Nat} {ops : Array Oper} {rest : List Oper} {o : Oper} {a : Act} {Q : Exit → Act → World → Prop} (hgd : o.guard = none) (s x : Operand)
    (ho : o.op = .call { callee := .builtin .append, args := #[s, x], argTypes := #[52, 52] }) (base : Nat) (v : Value) (l : List Nat) (hs : a.eval s = v) (hown : RowM w base v l)
    (y g0 c : Nat) (hx : a.eval x = .slice (some ⟨g0, 0, none⟩) 1 c) (hg0 : Blk w g0 5 [.int .u8 (y : Int)]) (hlen : l.length < 1000000000000) (hbase : base ≤ w.heap.size) (hB : Below B w0 w) (hBb : B ≤ base)
    (h : ∀ v' w', RowM w' base v' (l ++ [y]) → Below B w0 w' → wpList Tryd.prog ops Q rest (a.put o.dst v') w') : wpList Tryd.prog ops Q (o :: rest) a w := by
  obtain ⟨v', w', hr, h1, h2⟩ := run_app_byte w base v l hown y g0 c o.type hg0 hlen hbase
  refine wpList_plain hgd fun K hK => ?_
  unfold Oper.wp
  rw [exec_append ho hs hx hr]
  exact hK _ _ (h v' w' h1 (h2 B w0 hB hBb))

def sLen : Value → Nat
  | .slice _ n _ => n
  | _ => 0
theorem RowM.form {w : World} {base : Nat} {v : Value} {l : List Nat} (h : RowM w base v l) : ∃ g cap, v = .slice (some ⟨g, 0, none⟩) l.length cap := by
  obtain ⟨g, cap, _, _, h1, _⟩ := h
  exact ⟨g, cap, h1⟩

noncomputable def hshB (n : Nat) : Code := ((Tryd.f31.body.bind (findBlock n)).getD .skip)
noncomputable def hshB0 : Code := hshB 0
noncomputable def hshB2 : Code := hshB 2

theorem zeros_eq (n j : Nat) (h : j ≤ Sha.zeros n) : ((n + 1 + j) % 64 = 56) ↔ j = Sha.zeros n := by unfold Sha.zeros at *; omega
theorem bne_of {a b : Int} (h : a ≠ b) : (a != b) = true := by simpa using h
theorem bne_not {a b : Int} (h : a = b) : (a != b) = false := by simpa using h

set_option maxRecDepth 100000 in
set_option maxHeartbeats 1000000 in
theorem hshB0_wp {c0 c1 c2 c3 c5 c6 c7 c8 c9 c10 c11 c12 c13 c14 c15 c16 c17 c18 c19 c20 c21 c22 c23 c24 c25 c26 c27 c28 c29 c30 c31 c32 c33 c34 c35 c36 c37 c38 c39 c40 c41 c42 c43 c44 c45 c46 c47 c48 c49 c50 c51 c52 c53 c54 c55 c56 c57 c58 c59 c60 c61 c62 c63 c64 c65 c66 c67 c68 c69 c70 c71 c72 c73 c74 c75 c76 c77 c78 c79 c80 c81 c82 c83 c84 c85 c86 c87 c88 c89 c90 c91 c92 c93 c94 c95 c96 c97 c98 c99 c100 c101 c102 : Value} (l0 : List Nat) (v : Value) (base : Nat) (w w0 : World) (Q : Exit → Act → World → Prop) (hl : l0.length < 100000000000) (hrow : RowM w base v (l0 ++ [128])) (hb0 : base ≤ w0.heap.size) (hbw : Below base w0 w)
  (hQ : ∀ (u20 u21 u22 u23 u24 u25 u26 : Value) (v' : Value) (w' : World), RowM w' base v' (l0 ++ 128 :: List.replicate (Sha.zeros l0.length) 0) → Below base w0 w' → Q (.exit 0) ⟨#[c0, c1, c2, c3, v', c5, c6, c7, c8, c9, c10, c11, c12, c13, c14, c15, c16, c17, c18, c19, u20, u21, u22, u23, u24, u25, u26, c27, c28, c29, c30, c31, c32, c33, c34, c35, c36, c37, c38, c39, c40, c41, c42, c43, c44, c45, c46, c47, c48, c49, c50, c51, c52, c53, c54, c55, c56, c57, c58, c59, c60, c61, c62, c63, c64, c65, c66, c67, c68, c69, c70, c71, c72, c73, c74, c75, c76, c77, c78, c79, c80, c81, c82, c83, c84, c85, c86, c87, c88, c89, c90, c91, c92, c93, c94, c95, c96, c97, c98, c99, c100, c101, c102], []⟩ w') :
  Code.wp Tryd.prog hshB0 Q ⟨#[c0, c1, c2, c3, v, c5, c6, c7, c8, c9, c10, c11, c12, c13, c14, c15, c16, c17, c18, c19, c20, c21, c22, c23, c24, c25, c26, c27, c28, c29, c30, c31, c32, c33, c34, c35, c36, c37, c38, c39, c40, c41, c42, c43, c44, c45, c46, c47, c48, c49, c50, c51, c52, c53, c54, c55, c56, c57, c58, c59, c60, c61, c62, c63, c64, c65, c66, c67, c68, c69, c70, c71, c72, c73, c74, c75, c76, c77, c78, c79, c80, c81, c82, c83, c84, c85, c86, c87, c88, c89, c90, c91, c92, c93, c94, c95, c96, c97, c98, c99, c100, c101, c102], []⟩ w := by
  conv => arg 2; whnf
  try go_wp2
  go_loopw [4] (fun v wr => ∃ j : Nat, j ≤ Sha.zeros l0.length ∧ RowM wr base v (l0 ++ 128 :: List.replicate j 0) ∧ Below base w0 wr) (fun v _ => l0.length + 1 + Sha.zeros l0.length - sLen v)
  case atStart => exact ⟨0, by omega, hrow, hbw⟩
  case round =>
    obtain ⟨j, hj, hr, hb⟩ := hrel
    obtain ⟨g, cap, rfl⟩ := hr.form
    have hbs : base ≤ wr.heap.size := Nat.le_trans hb0 hb.size
    have hln : (l0 ++ 128 :: List.replicate j 0).length = l0.length + 1 + j := by simp; omega
    have hzl : Sha.zeros l0.length < 64 := Nat.mod_lt _ (by omega)
    have hze := zeros_eq l0.length j hj
    rw [hln]
    rw [hln] at hr
    by_cases h0 : j = Sha.zeros l0.length
    · have hbn : ((((l0.length + 1 + j : Nat) : Int) % 64) != 56) = false := bne_not (by have := hze.2 h0; omega)
      subst h0
      clear hrow hbw
      generalize l0.length + 1 + Sha.zeros l0.length = L at *
      go_wp2
      exact hQ _ _ _ _ _ _ _ _ _ hr hb
    · have hbn : ((((l0.length + 1 + j : Nat) : Int) % 64) != 56) = true := bne_of (fun e => h0 (hze.1 (by omega)))
      have HL : Hid (l0.length + 1 + j < 200000000000) := by show _ < _; omega
      have hLL : l0.length + 1 + j < 200000000000 := HL.out
      have HM : Hid (l0.length + 1 + Sha.zeros l0.length - (l0.length + 1 + j + 1) < l0.length + 1 + Sha.zeros l0.length - (l0.length + 1 + j)) := by show _ < _; omega
      have HX : Hid ((l0 ++ 128 :: List.replicate j 0) ++ [0] = l0 ++ 128 :: List.replicate (j + 1) 0) := by
        show _ = _
        rw [List.replicate_succ']; simp
      have HJ : Hid (j + 1 ≤ Sha.zeros l0.length) := by show _ ≤ _; omega
      have HLN : Hid ((l0 ++ 128 :: List.replicate j 0).length < 1000000000000) := by show _ < _; rw [hln]; omega
      clear hrow hbw hQ hze hzl hl hj h0
      generalize hL : l0.length + 1 + j = L at *
      have HLE : Hid (l0.length + 1 + j = L) := hL
      clear hL hln
      generalize l0 ++ 128 :: List.replicate j 0 = lj at *
      go_wp2_with (at_builtin; refine wpList_appbyte (by rfl) (.tmp 24) (.tmp 25) (by rfl) base _ lj (by rfl) (hr.alloc _) 0 wr.heap.size 1 (by rfl) (Blk.new wr 5 _) HLN.out (by simp; omega) (w0 := w0) (hb.alloc hbs _) (Nat.le_refl _) ?_)
      intro v' w' hr' hb'
      rw [HX.out] at hr'
      obtain ⟨g', cap', hv'⟩ := hr'.form
      go_wp2
      go_roundw
      case rel => exact ⟨j + 1, HJ.out, hr', hb'⟩
      case measure =>
        rw [hv']
        show _ - (l0 ++ 128 :: List.replicate (j + 1) 0).length < _ - L
        have e1 : (l0 ++ 128 :: List.replicate (j + 1) 0).length = l0.length + 1 + j + 1 := by simp; omega
        rw [e1, HLE.out]
        exact HM.out
end Go.Proofs.YteillcbajkhjkaaDoor
