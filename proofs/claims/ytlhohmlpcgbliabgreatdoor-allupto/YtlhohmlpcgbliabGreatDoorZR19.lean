import Derived.Test.YtlhohmlpcgbliabGreatDoorZR10
import Derived.Lib.ConvBytes
namespace Go.Proofs.YtlhohmlpcgbliabGreatDoor
set_option maxRecDepth 100000
open Go.RowKit
attribute [local go_sem ↓] Go.wp_at_zero Go.wp_at_succ

/-- A slice of bytes of the call's own; its row may bear the mark of a conversion behind its end. -/
def RowM (w : World) (base : Nat) (v : Value) (l : List Nat) : Prop :=
  ∃ g cap cur fr, v = .slice (some ⟨g, 0, none⟩) l.length cap ∧ base ≤ g ∧ w.heap[g]? = some (.cells cur 5 fr) ∧ (fr = (0, 0) ∨ cur.size ≤ fr.1) ∧ l.length ≤ cap ∧ cap = cur.size ∧ cap ≤ maxLen ∧ cur.toList.take l.length = u8s l

theorem RowM.alloc {w : World} {base : Nat} {v : Value} {l : List Nat} (h : RowM w base v l) (o : Obj) : RowM (w.alloc o) base v l := by
  obtain ⟨g, cap, cur, fr, h1, h2, h3, r⟩ := h
  exact ⟨g, cap, cur, fr, h1, h2, by rw [Below.heap_alloc _ _ _ (Array.getElem?_eq_some_iff.1 h3).1]; exact h3, r⟩

/-- '[]byte(s)'. -/
theorem rowM_of_string (w : World) (base : Nat) (s : ByteArray) (hb : base ≤ w.heap.size) (hs : s.size ≤ 1000000000000) :
    RowM (Lib.bytesWorld w 5 s) base (.slice (some ⟨w.heap.size, 0, none⟩) s.size (grownCap w s.size 0 5)) (bts s) := by
  have hge := grownCap_ge w s.size 0 5
  have hcm : grownCap w s.size 0 5 ≤ maxLen := grownCap_le_maxLen w s.size 0 5 (by unfold maxLen; omega)
  have hsz : (Lib.bytesCells w 5 s).size = grownCap w s.size 0 5 := by
    simp [Lib.bytesCells]
    have : s.data.size = s.size := rfl
    omega
  refine ⟨w.heap.size, grownCap w s.size 0 5, Lib.bytesCells w 5 s, ((Lib.bytesCells w 5 s).size, (Lib.bytesCells w 5 s).size + 1), ?_, hb, Lib.bytesWorld_at_new _ _ _, Or.inr (Nat.le_refl _), ?_, hsz.symm, hcm, ?_⟩
  · rw [bts_length]
  · rw [bts_length]; exact hge
  · rw [bts_length]
    unfold Lib.bytesCells
    rw [Array.toList_append, List.take_left' (by simp)]
    simp [u8s, bts]

/-- An append of one byte. -/
theorem run_app_byte (w : World) (base : Nat) (v : Value) (l : List Nat) (hown : RowM w base v l) (x g0 c : Nat) (ty : TypeId) (hg0 : Blk w g0 5 [.int .u8 (x : Int)]) (hlen : l.length < 1000000000000) (hbase : base ≤ w.heap.size) :
    ∃ v' w', (Builtin.append_ #[78, 78] ty #[v, .slice (some ⟨g0, 0, none⟩) 1 c]).run Tryz.prog w = .ok v' w' ∧ RowM w' base v' (l ++ [x]) ∧ (∀ B w0, Below B w0 w → B ≤ base → Below B w0 w') := by
  obtain ⟨i, hi, hiz, his, hib⟩ := elem_u8
  obtain ⟨g, cap, cur, fr, rfl, hb, hh, hfr, hlc, hcs, hcm, htk⟩ := hown
  have hnw : ∀ j u, [Value.int .u8 (x : Int)][j]? = some u → w.cell? ((⟨g0, 0, none⟩ : Addr).add j) = some u := by
    intro j u hu
    rw [Addr.add_mid, Nat.zero_add, hg0.cell]
    exact hu
  have ht := Tryz.underlying78
  by_cases hroom : l.length + 1 ≤ cap
  · have hcell : (w.cell? ⟨g, l.length, none⟩).isSome = true := by
      simp [World.cell?, hh]
      omega
    have hfz : w.frozen? ⟨g, l.length, none⟩ = false := by
      simp only [World.frozen?, hh]
      rcases hfr with rfl | hfr
      · simp
      · obtain ⟨lo, hi⟩ := fr
        simp at hfr ⊢
        omega
    have hst := run_storeCells_cells (P := Tryz.prog) g l.length [Value.int .u8 (x : Int)] 0 w (by simpa using hcell) (by simpa using hfz) (by simp [Value.oneCell'])
    have hf := run_firstCells_some (P := Tryz.prog) w i.size 1 ⟨g0, 0, none⟩ 1 c [Value.int .u8 (x : Int)] (by rw [his]; rfl) hnw
    rw [his] at hf
    rw [Nat.add_zero] at hst
    refine ⟨.slice (some ⟨g, 0, none⟩) (l.length + 1) cap, w.setCells g l.length [.int .u8 (x : Int)], ?_, ?_, ?_⟩
    · simp [Builtin.append_, run_underlying ht, sizeOf, typeInfo, hi, his, Builtin.lenOf, hroom, hf, Addr.add_lit, hst]
    · refine ⟨g, cap, cur.setIfInBounds l.length (.int .u8 (x : Int)), fr, by simp, hb, ?_, ?_, by simpa using hroom, by simpa using hcs, hcm, ?_⟩
      · simp [World.setCells, World.setCell, Array.getElem?_modify, hh]
      · simpa using hfr
      · rw [Array.toList_setIfInBounds, List.length_append, List.length_singleton, u8s_append]
        have hlt : l.length < cur.toList.length := by simp; omega
        rw [List.take_succ_eq_append_getElem (by simpa using hlt), List.take_set, List.set_eq_of_length_le (by simp; omega), htk]
        simp [u8s]
    · intro B w0 hB hBb
      exact hB.setCell (Nat.le_trans hBb hb) _
  · have holds : ∀ j u, (u8s l)[j]? = some u → w.cell? ((⟨g, 0, none⟩ : Addr).add j) = some u := by
      intro j u hu
      have hj : j < l.length := by simpa using (List.getElem?_eq_some_iff.1 hu).1
      rw [Addr.add_mid, Nat.zero_add]
      have hx : (u8s l)[j]? = cur.toList[j]? := by rw [← htk, List.getElem?_take_of_lt hj]
      simp [World.cell?, hh]
      rw [← hu, hx]
      simp
    have hr := run_append_grow (P := Tryz.prog) w 78 ty 5 i (.int .u8 0) ht hi hiz ⟨g, 0, none⟩ l.length cap (u8s l) (by rw [his]; simp) holds ⟨g0, 0, none⟩ 1 c [.int .u8 (x : Int)] (by rw [his]; rfl) hnw (by omega) (by omega) (growslice_fits (by omega) (by rw [hib]; omega))
    have hge := grownCap_ge w (l.length + 1) cap 5
    refine ⟨_, _, hr, ?_, ?_⟩
    · refine ⟨w.heap.size, grownCap w (l.length + 1) cap 5, _, (0, 0), by simp, hbase, heap_alloc_new w.drew _, Or.inl rfl, by simpa using hge, ?_, grownCap_le_maxLen w _ _ _ (by unfold maxLen; omega), ?_⟩
      · simp [size_zeroCells, Value.cells]
        omega
      · simp only [Array.toList_append, List.length_append, List.length_singleton, u8s_append]
        rw [List.take_left' (by simp)]
        simp [u8s]
    · intro B w0 hB hBb
      exact (hB.drew).alloc (Nat.le_trans hBb hbase) _
end Go.Proofs.YtlhohmlpcgbliabGreatDoor
namespace Go.Proofs.YtlhohmlpcgbliabGreatDoor
set_option maxRecDepth 100000
open Go.RowKit
attribute [local go_sem ↓] Go.wp_at_zero Go.wp_at_succ

theorem wpList_appbyte {w w0 : World} {B : Nat} {ops : Array Oper} {rest : List Oper} {o : Oper} {a : Act} {Q : Exit → Act → World → Prop} (hgd : o.guard = none) (s x : Operand)
    (ho : o.op = .call { callee := .builtin .append, args := #[s, x], argTypes := #[78, 78] }) (base : Nat) (v : Value) (l : List Nat) (hs : a.eval s = v) (hown : RowM w base v l)
    (y g0 c : Nat) (hx : a.eval x = .slice (some ⟨g0, 0, none⟩) 1 c) (hg0 : Blk w g0 5 [.int .u8 (y : Int)]) (hlen : l.length < 1000000000000) (hbase : base ≤ w.heap.size) (hB : Below B w0 w) (hBb : B ≤ base)
    (h : ∀ v' w', RowM w' base v' (l ++ [y]) → Below B w0 w' → wpList Tryz.prog ops Q rest (a.put o.dst v') w') : wpList Tryz.prog ops Q (o :: rest) a w := by
  obtain ⟨v', w', hr, h1, h2⟩ := run_app_byte w base v l hown y g0 c o.type hg0 hlen hbase
  refine wpList_plain hgd fun K hK => ?_
  unfold Oper.wp
  rw [exec_append ho hs hx hr]
  exact hK _ _ (h v' w' h1 (h2 B w0 hB hBb))

def sLen : Value → Nat
  | .slice _ n _ => n
  | _ => 0
theorem RowM.form {w : World} {base : Nat} {v : Value} {l : List Nat} (h : RowM w base v l) : ∃ g cap, v = .slice (some ⟨g, 0, none⟩) l.length cap := by
  obtain ⟨g, cap, _, _, h1, _⟩ := h
  exact ⟨g, cap, h1⟩


theorem zeros_eq (n j : Nat) (h : j ≤ Sha.zeros n) : ((n + 1 + j) % 64 = 56) ↔ j = Sha.zeros n := by unfold Sha.zeros at *; omega
theorem bne_of {a b : Int} (h : a ≠ b) : (a != b) = true := by simpa using h
theorem bne_not {a b : Int} (h : a = b) : (a != b) = false := by simpa using h

set_option maxRecDepth 100000 in
set_option maxHeartbeats 1000000 in
theorem hshB0_wp {c0 c1 c2 c3 c5 c6 c7 c8 c9 c10 c11 c12 c13 c14 c15 c16 c17 c18 c19 c20 c21 c22 c23 c24 c25 c26 c27 c28 c29 c30 c31 c32 c33 c34 c35 c36 c37 c38 c39 c40 c41 c42 c43 c44 c45 c46 c47 c48 c49 c50 c51 c52 c53 c54 c55 c56 c57 c58 c59 c60 c61 c62 c63 c64 c65 c66 c67 c68 c69 c70 c71 c72 c73 c74 c75 c76 c77 c78 c79 c80 c81 c82 c83 c84 c85 c86 c87 c88 c89 c90 c91 c92 c93 c94 c95 c96 c97 c98 c99 c100 c101 c102 : Value} (l0 : List Nat) (v : Value) (base : Nat) (w w0 : World) (Q : Exit → Act → World → Prop) (hl : l0.length < 100000000000) (hrow : RowM w base v (l0 ++ [128])) (hb0 : base ≤ w0.heap.size) (hbw : Below base w0 w)
  (hQ : ∀ (u20 u21 u22 u23 u24 u25 u26 : Value) (v' : Value) (w' : World), RowM w' base v' (l0 ++ 128 :: List.replicate (Sha.zeros l0.length) 0) → Below base w0 w' → Q (.exit 0) ⟨#[c0, c1, c2, c3, v', c5, c6, c7, c8, c9, c10, c11, c12, c13, c14, c15, c16, c17, c18, c19, u20, u21, u22, u23, u24, u25, u26, c27, c28, c29, c30, c31, c32, c33, c34, c35, c36, c37, c38, c39, c40, c41, c42, c43, c44, c45, c46, c47, c48, c49, c50, c51, c52, c53, c54, c55, c56, c57, c58, c59, c60, c61, c62, c63, c64, c65, c66, c67, c68, c69, c70, c71, c72, c73, c74, c75, c76, c77, c78, c79, c80, c81, c82, c83, c84, c85, c86, c87, c88, c89, c90, c91, c92, c93, c94, c95, c96, c97, c98, c99, c100, c101, c102], []⟩ w') :
  Code.wp Tryz.prog (blc Tryz.f29 0) Q ⟨#[c0, c1, c2, c3, v, c5, c6, c7, c8, c9, c10, c11, c12, c13, c14, c15, c16, c17, c18, c19, c20, c21, c22, c23, c24, c25, c26, c27, c28, c29, c30, c31, c32, c33, c34, c35, c36, c37, c38, c39, c40, c41, c42, c43, c44, c45, c46, c47, c48, c49, c50, c51, c52, c53, c54, c55, c56, c57, c58, c59, c60, c61, c62, c63, c64, c65, c66, c67, c68, c69, c70, c71, c72, c73, c74, c75, c76, c77, c78, c79, c80, c81, c82, c83, c84, c85, c86, c87, c88, c89, c90, c91, c92, c93, c94, c95, c96, c97, c98, c99, c100, c101, c102], []⟩ w := by
  conv => arg 2; whnf
  try go_wp2
  go_loopw [4] (fun v wr => ∃ j : Nat, j ≤ Sha.zeros l0.length ∧ RowM wr base v (l0 ++ 128 :: List.replicate j 0) ∧ Below base w0 wr) (fun v _ => l0.length + 1 + Sha.zeros l0.length - sLen v)
  case atStart => exact ⟨0, by omega, hrow, hbw⟩
  case round =>
    obtain ⟨j, hj, hr, hb⟩ := hrel
    obtain ⟨g, cap, rfl⟩ := hr.form
    have hbs : base ≤ wr.heap.size := Nat.le_trans hb0 hb.size
    have hln : (l0 ++ 128 :: List.replicate j 0).length = l0.length + 1 + j := by simp; omega
    have hzl : Sha.zeros l0.length < 64 := Nat.mod_lt _ (by omega)
    have hze := zeros_eq l0.length j hj
    rw [hln]
    rw [hln] at hr
    by_cases h0 : j = Sha.zeros l0.length
    · have hbn : ((((l0.length + 1 + j : Nat) : Int) % 64) != 56) = false := bne_not (by have := hze.2 h0; omega)
      subst h0
      clear hrow hbw
      generalize l0.length + 1 + Sha.zeros l0.length = L at *
      go_wp2
      exact hQ _ _ _ _ _ _ _ _ _ hr hb
    · have hbn : ((((l0.length + 1 + j : Nat) : Int) % 64) != 56) = true := bne_of (fun e => h0 (hze.1 (by omega)))
      have HL : Hid (l0.length + 1 + j < 200000000000) := by show _ < _; omega
      have hLL : l0.length + 1 + j < 200000000000 := HL.out
      have HM : Hid (l0.length + 1 + Sha.zeros l0.length - (l0.length + 1 + j + 1) < l0.length + 1 + Sha.zeros l0.length - (l0.length + 1 + j)) := by show _ < _; omega
      have HX : Hid ((l0 ++ 128 :: List.replicate j 0) ++ [0] = l0 ++ 128 :: List.replicate (j + 1) 0) := by
        show _ = _
        rw [List.replicate_succ']; simp
      have HJ : Hid (j + 1 ≤ Sha.zeros l0.length) := by show _ ≤ _; omega
      have HLN : Hid ((l0 ++ 128 :: List.replicate j 0).length < 1000000000000) := by show _ < _; rw [hln]; omega
      clear hrow hbw hQ hze hzl hl hj h0
      generalize hL : l0.length + 1 + j = L at *
      have HLE : Hid (l0.length + 1 + j = L) := hL
      clear hL hln
      generalize l0 ++ 128 :: List.replicate j 0 = lj at *
      go_wp2_with (at_builtin; refine wpList_appbyte (by rfl) (.tmp 24) (.tmp 25) (by rfl) base _ lj (by rfl) (hr.alloc _) 0 wr.heap.size 1 (by rfl) (Blk.new wr 5 _) HLN.out (by simp; omega) (w0 := w0) (hb.alloc hbs _) (Nat.le_refl _) ?_)
      intro v' w' hr' hb'
      rw [HX.out] at hr'
      obtain ⟨g', cap', hv'⟩ := hr'.form
      go_wp2
      go_roundw
      case rel => exact ⟨j + 1, HJ.out, hr', hb'⟩
      case measure =>
        rw [hv']
        show _ - (l0 ++ 128 :: List.replicate (j + 1) 0).length < _ - L
        have e1 : (l0 ++ 128 :: List.replicate (j + 1) 0).length = l0.length + 1 + j + 1 := by simp; omega
        rw [e1, HLE.out]
        exact HM.out
end Go.Proofs.YtlhohmlpcgbliabGreatDoor
namespace Go.Proofs.YtlhohmlpcgbliabGreatDoor
set_option maxRecDepth 100000
open Go.RowKit
attribute [local go_sem ↓] Go.wp_at_zero Go.wp_at_succ


theorem be8_take (n k : Nat) (hk : k < 8) : (Sha.be8 n).take (k + 1) = (Sha.be8 n).take k ++ [(Sha.be8 n).getD k 0] := by
  match k, hk with
  | 0, _ => rfl
  | 1, _ => rfl
  | 2, _ => rfl
  | 3, _ => rfl
  | 4, _ => rfl
  | 5, _ => rfl
  | 6, _ => rfl
  | 7, _ => rfl

theorem byte_of (n p : Nat) (hn : n < 9000000000000000000) : (wrap64 ((n : Int) / (p : Int))).tmod 256 % 256 = ((n / p % 256 : Nat) : Int) := by
  have h1 : ((n : Int) / (p : Int)) = ((n / p : Nat) : Int) := by simp
  rw [h1]
  have h2 : n / p ≤ n := Nat.div_le_self _ _
  generalize n / p = q at *
  rw [IntWalk.wrap64_in _ ⟨by omega, by omega⟩, Int.tmod_eq_emod_of_nonneg (by omega)]
  omega

set_option maxRecDepth 100000 in
set_option maxHeartbeats 4000000 in
theorem hshB2_wp {c0 c1 c2 c6 c7 c8 c9 c10 c11 c12 c13 c14 c15 c16 c17 c18 c19 c20 c21 c22 c23 c24 c25 c26 c27 c28 c29 c30 c31 c32 c33 c34 c35 c36 c37 c38 c39 c40 c41 c42 c43 c44 c45 c46 c47 c48 c49 c50 c51 c52 c53 c54 c55 c56 c57 c58 c59 c60 c61 c62 c63 c64 c65 c66 c67 c68 c69 c70 c71 c72 c73 c74 c75 c76 c77 c78 c79 c80 c81 c82 c83 c84 c85 c86 c87 c88 c89 c90 c91 c92 c93 c94 c95 c96 c97 c98 c99 c100 c101 c102 : Value} (n : Nat) (l0 : List Nat) (v : Value) (base : Nat) (w w0 : World) (Q : Exit → Act → World → Prop) (hn : n < 9000000000000000000) (hl : l0.length < 200000000000) (hrow : RowM w base v l0) (hb0 : base ≤ w0.heap.size) (hbw : Below base w0 w)
  (hQ : ∀ (u5 u6 u27 u28 u29 u30 u31 u32 u33 u34 u35 u36 u37 u38 u39 u40 u41 u42 : Value) (v' : Value) (w' : World), RowM w' base v' (l0 ++ Sha.be8 n) → Below base w0 w' → Q (.exit 2) ⟨#[c0, c1, c2, .int .i64 (n : Int), v', u5, u6, c7, c8, c9, c10, c11, c12, c13, c14, c15, c16, c17, c18, c19, c20, c21, c22, c23, c24, c25, c26, u27, u28, u29, u30, u31, u32, u33, u34, u35, u36, u37, u38, u39, u40, u41, u42, c43, c44, c45, c46, c47, c48, c49, c50, c51, c52, c53, c54, c55, c56, c57, c58, c59, c60, c61, c62, c63, c64, c65, c66, c67, c68, c69, c70, c71, c72, c73, c74, c75, c76, c77, c78, c79, c80, c81, c82, c83, c84, c85, c86, c87, c88, c89, c90, c91, c92, c93, c94, c95, c96, c97, c98, c99, c100, c101, c102], []⟩ w') :
  Code.wp Tryz.prog (blc Tryz.f29 2) Q ⟨#[c0, c1, c2, .int .i64 (n : Int), v, .int .i64 0, c6, c7, c8, c9, c10, c11, c12, c13, c14, c15, c16, c17, c18, c19, c20, c21, c22, c23, c24, c25, c26, c27, c28, c29, c30, c31, c32, c33, c34, c35, c36, c37, c38, c39, c40, c41, c42, c43, c44, c45, c46, c47, c48, c49, c50, c51, c52, c53, c54, c55, c56, c57, c58, c59, c60, c61, c62, c63, c64, c65, c66, c67, c68, c69, c70, c71, c72, c73, c74, c75, c76, c77, c78, c79, c80, c81, c82, c83, c84, c85, c86, c87, c88, c89, c90, c91, c92, c93, c94, c95, c96, c97, c98, c99, c100, c101, c102], []⟩ w := by
  conv => arg 2; whnf
  try go_wp2
  go_loopw [4, 5] (fun v i wr => ∃ k : Nat, k ≤ 8 ∧ i = .int .i64 k ∧ RowM wr base v (l0 ++ (Sha.be8 n).take k) ∧ Below base w0 wr) (fun _ i _ => 8 - (intOf i).toNat)
  case atStart => exact ⟨0, by omega, rfl, by simpa using hrow, hbw⟩
  case round =>
    obtain ⟨k, hk, rfl, hr, hb⟩ := hrel
    obtain ⟨g, cap, rfl⟩ := hr.form
    by_cases h8 : k < 8
    · have hbs : base ≤ wr.heap.size := Nat.le_trans hb0 hb.size
      have HX : Hid ((l0 ++ (Sha.be8 n).take k) ++ [(Sha.be8 n).getD k 0] = l0 ++ (Sha.be8 n).take (k + 1)) := by
        show _ = _
        rw [be8_take n k h8, List.append_assoc]
      have HLN : Hid ((l0 ++ (Sha.be8 n).take k).length < 1000000000000) := by show _ < _; simp; omega
      have HP : Hid (∃ p : Nat, IntKind.i64.wrap (2 ^ (8 * (7 - (k : Int))).toNat) = (p : Int) ∧ 0 < p ∧ n / p % 256 = (Sha.be8 n).getD k 0) := by
        show ∃ p : Nat, _
        match k, h8 with
        | 0, _ => exact ⟨72057594037927936, by decide, by omega, rfl⟩
        | 1, _ => exact ⟨281474976710656, by decide, by omega, rfl⟩
        | 2, _ => exact ⟨1099511627776, by decide, by omega, rfl⟩
        | 3, _ => exact ⟨4294967296, by decide, by omega, rfl⟩
        | 4, _ => exact ⟨16777216, by decide, by omega, rfl⟩
        | 5, _ => exact ⟨65536, by decide, by omega, rfl⟩
        | 6, _ => exact ⟨256, by decide, by omega, rfl⟩
        | 7, _ => exact ⟨1, by decide, by omega, by simp [Sha.be8]⟩
      obtain ⟨p, hp, hp0, hpv⟩ := HP.out
      have HPV : Hid (n / p % 256 = (Sha.be8 n).getD k 0) := hpv
      clear hrow hbw hQ hl hpv HP
      generalize hdd : (Sha.be8 n).getD k 0 = d at *
      clear hdd
      generalize hlj : l0 ++ (Sha.be8 n).take k = lj at *
      clear hlj
      have hLj : lj.length < 1000000000000 := HLN.out
      generalize hL : lj.length = L at *
      have HLE : Hid (lj.length = L) := hL
      clear hL
      have hbv : (wrap64 ((n : Int) / (p : Int))).tmod 256 % 256 = ((d : Nat) : Int) := by rw [byte_of n p hn, HPV.out]
      have HBV : Hid ((wrap64 ((n : Int) / (p : Int))).tmod 256 % 256 = ((d : Nat) : Int)) := hbv
      clear hbv
      have hblk : Blk (wr.alloc (.cells #[.int .u8 ((wrap64 ((n : Int) / (p : Int))).tmod 256 % 256)] 5)) wr.heap.size 5 [.int .u8 ((d : Nat) : Int)] := by
        rw [HBV.out]
        exact Blk.new wr 5 _
      go_wp2_with (at_builtin; refine wpList_appbyte (by rfl) (.tmp 35) (.tmp 41) (by rfl) base _ lj (by rfl) (hr.alloc _) d wr.heap.size 1 (by rfl) hblk (by rw [HLE.out]; exact hLj) (by simp; omega) (w0 := w0) (hb.alloc hbs _) (Nat.le_refl _) ?_)
      intro v' w' hr' hb'
      rw [HX.out] at hr'
      clear hblk
      go_wp2
      go_roundw
      case rel => exact ⟨k + 1, by omega, rfl, hr', hb'⟩
      case measure => simp [intOf]; omega
    · have hk8 : k = 8 := by omega
      subst hk8
      go_wp2
      exact hQ _ _ _ _ _ _ _ _ _ _ _ _ _ _ _ _ _ _ _ _ hr hb
end Go.Proofs.YtlhohmlpcgbliabGreatDoor
namespace Go.Proofs.YtlhohmlpcgbliabGreatDoor
set_option maxRecDepth 100000
open Go.RowKit
attribute [local go_sem ↓] Go.wp_at_zero Go.wp_at_succ


theorem initK_take (k : Nat) (hk : k < 8) : Sha.init.list.take (k + 1) = Sha.init.list.take k ++ [Sha.init.list.getD k 0] := by
  match k, hk with
  | 0, _ => rfl
  | 1, _ => rfl
  | 2, _ => rfl
  | 3, _ => rfl
  | 4, _ => rfl
  | 5, _ => rfl
  | 6, _ => rfl
  | 7, _ => rfl

set_option maxRecDepth 100000 in
set_option maxHeartbeats 4000000 in
theorem hshB4_wp {c0 c1 c2 c3 c4 c5 c6 c7 c10 c11 c12 c13 c14 c15 c16 c17 c18 c19 c20 c21 c22 c23 c24 c25 c26 c27 c28 c29 c30 c31 c32 c33 c34 c35 c36 c37 c38 c39 c40 c41 c42 c43 c44 c45 c46 c47 c48 c49 c50 c51 c52 c53 c54 c55 c56 c57 c58 c59 c60 c61 c62 c63 c64 c65 c66 c67 c68 c69 c70 c71 c72 c73 c74 c75 c76 c77 c78 c79 c80 c81 c82 c83 c84 c85 c86 c87 c88 c89 c90 c91 c92 c93 c94 c95 c96 c97 c98 c99 c100 c101 c102 : Value} (w : World) (Q : Exit → Act → World → Prop)
  (hQ : ∀ (u9 u45 u46 u47 u48 u49 u50 u51 u52 u53 : Value) (v' : Value) (w' : World), Row w' w.heap.size 3 v' (ints Sha.init.list) → Below w.heap.size w w' → Q (.exit 4) ⟨#[c0, c1, c2, c3, c4, c5, c6, c7, v', u9, c10, c11, c12, c13, c14, c15, c16, c17, c18, c19, c20, c21, c22, c23, c24, c25, c26, c27, c28, c29, c30, c31, c32, c33, c34, c35, c36, c37, c38, c39, c40, c41, c42, c43, c44, u45, u46, u47, u48, u49, u50, u51, u52, u53, c54, c55, c56, c57, c58, c59, c60, c61, c62, c63, c64, c65, c66, c67, c68, c69, c70, c71, c72, c73, c74, c75, c76, c77, c78, c79, c80, c81, c82, c83, c84, c85, c86, c87, c88, c89, c90, c91, c92, c93, c94, c95, c96, c97, c98, c99, c100, c101, c102], []⟩ w') :
  Code.wp Tryz.prog (blc Tryz.f29 4) Q ⟨#[c0, c1, c2, c3, c4, c5, c6, c7, .slice none 0 0, .int .i64 0, c10, c11, c12, c13, c14, c15, c16, c17, c18, c19, c20, c21, c22, c23, c24, c25, c26, c27, c28, c29, c30, c31, c32, c33, c34, c35, c36, c37, c38, c39, c40, c41, c42, c43, c44, c45, c46, c47, c48, c49, c50, c51, c52, c53, c54, c55, c56, c57, c58, c59, c60, c61, c62, c63, c64, c65, c66, c67, c68, c69, c70, c71, c72, c73, c74, c75, c76, c77, c78, c79, c80, c81, c82, c83, c84, c85, c86, c87, c88, c89, c90, c91, c92, c93, c94, c95, c96, c97, c98, c99, c100, c101, c102], []⟩ w := by
  conv => arg 2; whnf
  try go_wp2
  go_loopw [8, 9] (fun v i wr => ∃ k : Nat, k ≤ 8 ∧ i = .int .i64 k ∧ Row wr w.heap.size 3 v (ints (Sha.init.list.take k)) ∧ Below w.heap.size w wr) (fun _ i _ => 8 - (intOf i).toNat)
  case atStart => exact ⟨0, by omega, rfl, World.ownsRow_nil _ _ _ _, Below.refl _ _⟩
  case round =>
    obtain ⟨k, hk, rfl, hrow, hb⟩ := hrel
    by_cases h8 : k < 8
    · have hwd := fun wx s hs => word_first k wx h8 s hs
      have HN : Hid (ints (Sha.init.list.take k) ++ [.int .i64 ((Sha.init.list.getD k 0 : Nat) : Int)] = ints (Sha.init.list.take (k + 1))) := by
        show _ = _
        rw [initK_take k h8, ints_append]; rfl
      have hxl : (ints (Sha.init.list.take k)).length ≤ 8 := by rw [ints_length, List.length_take]; omega
      have hsz := hb.size
      generalize Sha.init.list.getD k 0 = x at *
      generalize hxs : ints (Sha.init.list.take k) = xs at *
      clear hxs hQ
      go_wp2_with (first | (go_at_call 52; refine (hwd _ _ (by kernel_rfl)).mono ?_; rintro e w' ⟨rfl, rfl⟩) | (at_builtin; refine wpList_app elem_int rfl Tryz.underlying23 (by rfl) (.tmp 49) (.tmp 52) (by rfl) w.heap.size _ xs (by rfl) (hrow.alloc _) _ 1 1 [.int .i64 (x : Int)] (by rfl) rfl (Blk.new _ 3 _) ?h1 ?hl ?hb ?hbs (w0 := w) (hb.alloc hsz _) (Nat.le_refl _) ?_))
      case h1 => intro u hu; simp at hu; subst hu; rfl
      case hl => omega
      case hb => omega
      case hbs => simp; omega
      intro v' w' hv' _ hb'
      rw [HN.out] at hv'
      go_wp2
      go_roundw
      case rel => exact ⟨k + 1, by omega, by go_num, hv', hb'⟩
      case measure => simp [intOf]; omega
    · have hk8 : k = 8 := by omega
      subst hk8
      go_wp2
      exact hQ _ _ _ _ _ _ _ _ _ _ _ _ hrow hb
end Go.Proofs.YtlhohmlpcgbliabGreatDoor
namespace Go.Proofs.YtlhohmlpcgbliabGreatDoor
set_option maxRecDepth 100000
open Go.RowKit
attribute [local go_sem ↓] Go.wp_at_zero Go.wp_at_succ

theorem mixAll_ok {s : Sha.St} (h : s.ok) (k : Nat) (l : List Nat) : (Sha.mixAll k s l).ok := by
  induction k with
  | zero => exact h
  | succ k ih => rw [Sha.mixAll_succ]; exact Sha.mix_ok _ _

set_option maxRecDepth 100000 in
set_option maxHeartbeats 4000000 in
theorem hshB6_wp {c0 c1 c2 c3 c4 c5 c6 c9 c11 c12 c13 c14 c15 c16 c17 c18 c19 c20 c21 c22 c23 c24 c25 c26 c27 c28 c29 c30 c31 c32 c33 c34 c35 c36 c37 c38 c39 c40 c41 c42 c43 c44 c45 c46 c47 c48 c49 c50 c51 c52 c53 c54 c55 c56 c57 c58 c59 c60 c61 c62 c63 c64 c65 c66 c67 c68 c69 c70 c71 c72 c73 c74 c75 c76 c77 c78 c79 c80 c81 c82 c83 c84 c85 c86 c87 c88 c89 c90 c91 c92 c93 c94 c95 c96 c97 c98 c99 c100 c101 c102 : Value} (t : ByteArray) (m : Nat) (g c : Nat) (w : World) (Q : Exit → Act → World → Prop) (ht : t.size = 64 * m) (hm : m < 10000000000) (hI : IntsAt w g Sha.init.list) (hg : g < w.heap.size)
  (hQ : ∀ (u10 u54 u55 u56 u57 u58 u59 u60 u61 u62 u63 u64 u65 u66 u67 : Value) (g' c' : Nat) (w' : World), IntsAt w' g' (Sha.mixAll m Sha.init (bts t)).list → g' < w'.heap.size → Below w.heap.size w w' → Q (.exit 6) ⟨#[c0, c1, c2, c3, c4, c5, c6, .string t, .slice (some ⟨g', 0, none⟩) 8 c', c9, u10, c11, c12, c13, c14, c15, c16, c17, c18, c19, c20, c21, c22, c23, c24, c25, c26, c27, c28, c29, c30, c31, c32, c33, c34, c35, c36, c37, c38, c39, c40, c41, c42, c43, c44, c45, c46, c47, c48, c49, c50, c51, c52, c53, u54, u55, u56, u57, u58, u59, u60, u61, u62, u63, u64, u65, u66, u67, c68, c69, c70, c71, c72, c73, c74, c75, c76, c77, c78, c79, c80, c81, c82, c83, c84, c85, c86, c87, c88, c89, c90, c91, c92, c93, c94, c95, c96, c97, c98, c99, c100, c101, c102], []⟩ w') :
  Code.wp Tryz.prog (blc Tryz.f29 6) Q ⟨#[c0, c1, c2, c3, c4, c5, c6, .string t, .slice (some ⟨g, 0, none⟩) 8 c, c9, .int .i64 0, c11, c12, c13, c14, c15, c16, c17, c18, c19, c20, c21, c22, c23, c24, c25, c26, c27, c28, c29, c30, c31, c32, c33, c34, c35, c36, c37, c38, c39, c40, c41, c42, c43, c44, c45, c46, c47, c48, c49, c50, c51, c52, c53, c54, c55, c56, c57, c58, c59, c60, c61, c62, c63, c64, c65, c66, c67, c68, c69, c70, c71, c72, c73, c74, c75, c76, c77, c78, c79, c80, c81, c82, c83, c84, c85, c86, c87, c88, c89, c90, c91, c92, c93, c94, c95, c96, c97, c98, c99, c100, c101, c102], []⟩ w := by
  conv => arg 2; whnf
  try go_wp2
  go_loopw [8, 10] (fun v i wr => ∃ k g c : Nat, k ≤ m ∧ i = .int .i64 (64 * k : Nat) ∧ v = .slice (some ⟨g, 0, none⟩) 8 c ∧ IntsAt wr g (Sha.mixAll k Sha.init (bts t)).list ∧ g < wr.heap.size ∧ Below w.heap.size w wr) (fun _ i _ => 64 * m - (intOf i).toNat)
  case atStart => exact ⟨0, g, c, by omega, rfl, rfl, hI, hg, Below.refl _ _⟩
  case round =>
    obtain ⟨k, g1, c1, hk, rfl, rfl, hI1, hg1, hb⟩ := hrel
    clear hI hg
    by_cases h8 : k < m
    · have hsl : 64 * k + 64 ≤ t.size := by omega
      have hsz : (t.extract (64 * k) (64 * k + 64)).size = 64 := by simp; omega
      have hbk := fun wx h1 h2 => block_any g1 c1 (Sha.mixAll k Sha.init (bts t)) (t.extract (64 * k) (64 * k + 64)) wx (mixAll_ok Sha.init_ok k _) hsz h1 h2
      have HN : Hid (Sha.mix (Sha.mixAll k Sha.init (bts t)) (bts (t.extract (64 * k) (64 * k + 64))) = Sha.mixAll (k + 1) Sha.init (bts t)) := by
        show _ = _
        rw [Sha.mixAll_succ, bts_extract]
        congr 2; omega
      have HK : Hid (k + 1 ≤ m) := h8
      clear hQ
      go_wp2_with (go_at_call 53; refine (hbk _ hI1 hg1).mono ?_; rintro e w' ⟨v, rfl, hr, hb2⟩)
      obtain ⟨g2, c2, hv, hgb, _⟩ := hr.form (by rw [ints_length]; exact Nat.zero_lt_succ 7)
      obtain rfl : v = .slice (some ⟨g2, 0, none⟩) 8 c2 := hv
      obtain ⟨hI2, hg2⟩ := IntsAt.of_row hr (by exact Nat.zero_lt_succ 7)
      rw [HN.out] at hI2
      have hb3 : Below w.heap.size w w' := hb.trans (hb2.mono hb.size)
      clear hr hgb hI1 hg1 hb2 hb hbk
      go_wp2
      go_roundw
      case rel => exact ⟨k + 1, g2, c2, HK.out, by go_num, rfl, hI2, hg2, hb3⟩
      case measure => simp [intOf]; omega
    · have hk8 : k = m := by omega
      subst hk8
      go_wp2
      exact hQ _ _ _ _ _ _ _ _ _ _ _ _ _ _ _ _ _ _ hI1 hg1 hb
end Go.Proofs.YtlhohmlpcgbliabGreatDoor
namespace Go.Proofs.YtlhohmlpcgbliabGreatDoor
set_option maxRecDepth 100000
open Go.RowKit
attribute [local go_sem ↓] Go.wp_at_zero Go.wp_at_succ

theorem Cells.one {a : Addr} {x : Value} {w : World} (h : w.cell? a = some x) : Cells [(a, x)] w := by
  intro p hp
  simp at hp
  subst hp
  exact h

set_option maxRecDepth 100000 in
set_option maxHeartbeats 1000000 in
theorem hshR24_wp {c0 c1 c2 c3 c4 c5 c6 c7 c9 c10 c13 c14 c15 c16 c17 c18 c19 c20 c21 c22 c23 c24 c25 c26 c27 c28 c29 c30 c31 c32 c33 c34 c35 c36 c37 c38 c39 c40 c41 c42 c43 c44 c45 c46 c47 c48 c49 c50 c51 c52 c53 c54 c55 c56 c57 c58 c59 c60 c61 c62 c63 c64 c65 c66 c67 c68 c69 c70 c71 c72 c73 c74 c75 c76 c77 c78 c79 c80 c81 c82 c83 c84 c85 c86 c87 c88 c89 c90 c91 c92 c93 c94 c95 c96 c97 c98 c99 c100 c101 c102 : Value} (g c k x base : Nat) (v : Value) (xs : List Value) (w w0 : World) (Q : Exit → Act → World → Prop) (hk : k < 8) (lx : x < 4294967296) (hxs : xs.length ≤ 32)
  (hrow : Row w base 5 v xs) (ex : w.cell? ⟨g, k, none⟩ = some (.int .i64 (x : Int))) (hbase : base ≤ w.heap.size) (hbw : Below base w0 w) (hg : g < base)
  (hQ : ∀ (u72 u73 u74 u75 u76 u77 u78 u79 u80 u81 u82 u83 u84 u85 u86 u87 u88 u89 u90 u91 u92 u93 u94 u95 u96 u97 u98 u99 u100 : Value) (v' : Value) (w' : World), Row w' base 5 v' (xs ++ u8s (outW x)) → Below base w0 w' → Q .normal ⟨#[c0, c1, c2, c3, c4, c5, c6, c7, .slice (some ⟨g, 0, none⟩) 8 c, c9, c10, v', .int .i64 (k : Int), c13, c14, c15, c16, c17, c18, c19, c20, c21, c22, c23, c24, c25, c26, c27, c28, c29, c30, c31, c32, c33, c34, c35, c36, c37, c38, c39, c40, c41, c42, c43, c44, c45, c46, c47, c48, c49, c50, c51, c52, c53, c54, c55, c56, c57, c58, c59, c60, c61, c62, c63, c64, c65, c66, c67, c68, c69, c70, c71, u72, u73, u74, u75, u76, u77, u78, u79, u80, u81, u82, u83, u84, u85, u86, u87, u88, u89, u90, u91, u92, u93, u94, u95, u96, u97, u98, u99, u100, c101, c102], []⟩ w') :
  Code.wp Tryz.prog (rgn Tryz.f29 24) Q ⟨#[c0, c1, c2, c3, c4, c5, c6, c7, .slice (some ⟨g, 0, none⟩) 8 c, c9, c10, v, .int .i64 (k : Int), c13, c14, c15, c16, c17, c18, c19, c20, c21, c22, c23, c24, c25, c26, c27, c28, c29, c30, c31, c32, c33, c34, c35, c36, c37, c38, c39, c40, c41, c42, c43, c44, c45, c46, c47, c48, c49, c50, c51, c52, c53, c54, c55, c56, c57, c58, c59, c60, c61, c62, c63, c64, c65, c66, c67, c68, c69, c70, c71, c72, c73, c74, c75, c76, c77, c78, c79, c80, c81, c82, c83, c84, c85, c86, c87, c88, c89, c90, c91, c92, c93, c94, c95, c96, c97, c98, c99, c100, c101, c102], []⟩ w := by
  conv => arg 2; whnf
  have i0 : (0 : Int) ≤ (k : Int) := by omega
  have i1 : (k : Int) < 8 := by omega
  have hS := Cells.one ex
  have HV : Hid (u8s (outW x) = [.int .u8 ((x : Int) / 16777216), .int .u8 ((x : Int) / 65536 % 256), .int .u8 ((x : Int) / 256 % 256), .int .u8 ((x : Int) % 256)]) := by show _ = _; simp [u8s, outW]
  have x0 : (0 : Int) ≤ (x : Int) := by omega
  have x1 : (x : Int) < 4294967296 := by omega
  refine wp_region_head (S := Cells [(⟨g, k, none⟩, .int .i64 (x : Int))]) (n := 27) (by kernel_rfl) (by kernel_rfl) (by kernel_rfl) (by simp) hS ?_
  simp only [List.take_succ_cons, List.take_zero]
  iterate 4 (refine wpQuiet_pure (by rfl) ?_; go_big_quiet_step (fail); refine wpQuiet_nil ?_; show wpQuiet _ _ _ _ _ _)
  refine wpQuiet_load (by rfl) 3 (.tmp 75) (by rfl) ⟨g, k, none⟩ (.int .i64 (x : Int)) (by rfl) (fun w hw => load_int w _ _ _ (hw.get _ _ (by simp))) ?_
  simp only [Act.put, List.setIfInBounds_toArray, List.set_cons_succ, List.set_cons_zero]
  iterate 5 (refine wpQuiet_pure (by rfl) ?_; go_big_quiet_step (fail); refine wpQuiet_nil ?_; show wpQuiet _ _ _ _ _ _)
  refine wpQuiet_load (by rfl) 3 (.tmp 81) (by rfl) ⟨g, k, none⟩ (.int .i64 (x : Int)) (by rfl) (fun w hw => load_int w _ _ _ (hw.get _ _ (by simp))) ?_
  simp only [Act.put, List.setIfInBounds_toArray, List.set_cons_succ, List.set_cons_zero]
  iterate 6 (refine wpQuiet_pure (by rfl) ?_; go_big_quiet_step (fail); refine wpQuiet_nil ?_; show wpQuiet _ _ _ _ _ _)
  refine wpQuiet_load (by rfl) 3 (.tmp 88) (by rfl) ⟨g, k, none⟩ (.int .i64 (x : Int)) (by rfl) (fun w hw => load_int w _ _ _ (hw.get _ _ (by simp))) ?_
  simp only [Act.put, List.setIfInBounds_toArray, List.set_cons_succ, List.set_cons_zero]
  iterate 6 (refine wpQuiet_pure (by rfl) ?_; go_big_quiet_step (fail); refine wpQuiet_nil ?_; show wpQuiet _ _ _ _ _ _)
  refine wpQuiet_load (by rfl) 3 (.tmp 95) (by rfl) ⟨g, k, none⟩ (.int .i64 (x : Int)) (by rfl) (fun w hw => load_int w _ _ _ (hw.get _ _ (by simp))) ?_
  simp only [Act.put, List.setIfInBounds_toArray, List.set_cons_succ, List.set_cons_zero]
  iterate 2 (refine wpQuiet_pure (by rfl) ?_; go_big_quiet_step (fail); refine wpQuiet_nil ?_; show wpQuiet _ _ _ _ _ _)
  refine wpQuiet_nil ?_
  refine wpAnyH_val (i := 27) (v := .slice (some ⟨w.heap.size, 0, none⟩) 4 4) (w' := (w.alloc (.cells #[.int .u8 ((x : Int) / 16777216), .int .u8 ((x : Int) / 65536 % 256), .int .u8 ((x : Int) / 256 % 256), .int .u8 ((x : Int) % 256)] 5)).drewN 1) (by kernel_rfl) (by rfl) (by rfl) (by kernel_rfl) (hS.alloc _) ?_
  refine wpAnyH_app elem_u8 rfl Tryz.underlying78 (i := 28) (by kernel_rfl) (by rfl) (by rfl) (.tmp 72) (.tmp 99) (by rfl) base v xs (by rfl) ((hrow.alloc _).drewN 1) w.heap.size 4 4 [.int .u8 ((x : Int) / 16777216), .int .u8 ((x : Int) / 65536 % 256), .int .u8 ((x : Int) / 256 % 256), .int .u8 ((x : Int) % 256)] (by rfl) rfl (by omega) ((Blk.new w 5 _).drewN 1) (by simp [Value.oneCell']) (by omega) (by omega) (by simp; omega) (w0 := w0) (B := base) (Below.drewN' (hbw.alloc hbase _) 1) (Nat.le_refl _) ?_
  intro g' cap' w' hrow' hgrow _ hb'
  have hS1 := hS.alloc (.cells #[.int .u8 ((x : Int) / 16777216), .int .u8 ((x : Int) / 65536 % 256), .int .u8 ((x : Int) / 256 % 256), .int .u8 ((x : Int) % 256)] 5)
  have sx : w'.cell? ⟨g, k, none⟩ = some (.int .i64 (x : Int)) := grown_cell ((hrow.alloc _).drewN 1) hgrow (hS1.get _ _ (by simp)) hg
  refine ⟨Cells.one sx, ?_⟩
  refine wpAnyH_val (i := 29) (v := .slice (some ⟨g', 0, none⟩) (xs.length + 4) cap') (w' := w') (by kernel_rfl) (by rfl) (by rfl) (by kernel_rfl) (Cells.one sx) ?_
  refine wpAnyH_done (by kernel_rfl) ?_ _
  refine NoPanic.normal ?_
  simp only [Act.put]
  rw [HV.out] at hQ
  exact hQ _ _ _ _ _ _ _ _ _ _ _ _ _ _ _ _ _ _ _ _ _ _ _ _ _ _ _ _ _ _ _ hrow' hb'
end Go.Proofs.YtlhohmlpcgbliabGreatDoor
namespace Go.Proofs.YtlhohmlpcgbliabGreatDoor
set_option maxRecDepth 100000
open Go.RowKit
attribute [local go_sem ↓] Go.wp_at_zero Go.wp_at_succ

set_option maxRecDepth 100000 in
set_option maxHeartbeats 4000000 in
theorem hshB8_wp {c0 c1 c2 c3 c4 c5 c6 c7 c9 c10 c13 c14 c15 c16 c17 c18 c19 c20 c21 c22 c23 c24 c25 c26 c27 c28 c29 c30 c31 c32 c33 c34 c35 c36 c37 c38 c39 c40 c41 c42 c43 c44 c45 c46 c47 c48 c49 c50 c51 c52 c53 c54 c55 c56 c57 c58 c59 c60 c61 c62 c63 c64 c65 c66 c67 c68 c69 c70 c71 c72 c73 c74 c75 c76 c77 c78 c79 c80 c81 c82 c83 c84 c85 c86 c87 c88 c89 c90 c91 c92 c93 c94 c95 c96 c97 c98 c99 c100 c101 c102 : Value} (s : Sha.St) (g c : Nat) (w : World) (Q : Exit → Act → World → Prop) (hs : s.ok) (hI : IntsAt w g s.list) (hg : g < w.heap.size)
  (hQ : ∀ (u12 u68 u69 u70 u71 u72 u73 u74 u75 u76 u77 u78 u79 u80 u81 u82 u83 u84 u85 u86 u87 u88 u89 u90 u91 u92 u93 u94 u95 u96 u97 u98 u99 u100 : Value) (v' : Value) (w' : World), Row w' w.heap.size 5 v' (u8s (Sha.out s)) → Below w.heap.size w w' → Q (.exit 8) ⟨#[c0, c1, c2, c3, c4, c5, c6, c7, .slice (some ⟨g, 0, none⟩) 8 c, c9, c10, v', u12, c13, c14, c15, c16, c17, c18, c19, c20, c21, c22, c23, c24, c25, c26, c27, c28, c29, c30, c31, c32, c33, c34, c35, c36, c37, c38, c39, c40, c41, c42, c43, c44, c45, c46, c47, c48, c49, c50, c51, c52, c53, c54, c55, c56, c57, c58, c59, c60, c61, c62, c63, c64, c65, c66, c67, u68, u69, u70, u71, u72, u73, u74, u75, u76, u77, u78, u79, u80, u81, u82, u83, u84, u85, u86, u87, u88, u89, u90, u91, u92, u93, u94, u95, u96, u97, u98, u99, u100, c101, c102], []⟩ w') :
  Code.wp Tryz.prog (blc Tryz.f29 8) Q ⟨#[c0, c1, c2, c3, c4, c5, c6, c7, .slice (some ⟨g, 0, none⟩) 8 c, c9, c10, .slice none 0 0, .int .i64 0, c13, c14, c15, c16, c17, c18, c19, c20, c21, c22, c23, c24, c25, c26, c27, c28, c29, c30, c31, c32, c33, c34, c35, c36, c37, c38, c39, c40, c41, c42, c43, c44, c45, c46, c47, c48, c49, c50, c51, c52, c53, c54, c55, c56, c57, c58, c59, c60, c61, c62, c63, c64, c65, c66, c67, c68, c69, c70, c71, c72, c73, c74, c75, c76, c77, c78, c79, c80, c81, c82, c83, c84, c85, c86, c87, c88, c89, c90, c91, c92, c93, c94, c95, c96, c97, c98, c99, c100, c101, c102], []⟩ w := by
  conv => arg 2; whnf
  try go_wp2
  go_loopw [11, 12] (fun v i wr => ∃ k : Nat, k ≤ 8 ∧ i = .int .i64 k ∧ Row wr w.heap.size 5 v (u8s (outK s.list k)) ∧ Below w.heap.size w wr) (fun _ i _ => 8 - (intOf i).toNat)
  case atStart => exact ⟨0, by omega, rfl, World.ownsRow_nil _ _ _ _, Below.refl _ _⟩
  case round =>
    obtain ⟨k, hk, rfl, hrow, hb⟩ := hrel
    by_cases h8 : k < 8
    · have ex := hI.below hb hg k h8
      have lx := St.ok_get hs k
      have HN : Hid (u8s (outK s.list k) ++ u8s (outW (s.list.getD k 0)) = u8s (outK s.list (k + 1))) := by
        show _ = _
        rw [outK_succ s.list k h8, u8s_append]
      have hxl : (u8s (outK s.list k)).length ≤ 32 := by
        rw [u8s_length, outK_length _ _ (by show k ≤ 8; omega)]; omega
      generalize s.list.getD k 0 = x at *
      have HB : Hid (Below w.heap.size w wr) := hb
      have HS : Hid (w.heap.size ≤ wr.heap.size) := hb.size
      clear hQ hI hb
      go_wp2_with fail
      refine hshR24_wp g c k x w.heap.size _ _ _ w _ h8 lx hxl hrow ex HS.out HB.out hg ?_
      intro u72 u73 u74 u75 u76 u77 u78 u79 u80 u81 u82 u83 u84 u85 u86 u87 u88 u89 u90 u91 u92 u93 u94 u95 u96 u97 u98 u99 u100 v' w' hrow' hb'
      simp only [Exit.inBlock]
      go_wp2_with fail
      refine ⟨⟨k + 1, by omega, by go_num, ?_, hb'⟩, by simp [intOf]; omega⟩
      rw [← HN.out]
      exact hrow'
    · have hk8 : k = 8 := by omega
      subst hk8
      go_wp2
      exact hQ _ _ _ _ _ _ _ _ _ _ _ _ _ _ _ _ _ _ _ _ _ _ _ _ _ _ _ _ _ _ _ _ _ _ _ _ hrow hb

theorem convert_rowM {w : World} {base : Nat} {v : Value} {l : List Nat} (h : RowM w base v l) : (convert 78 9 v).run Tryz.prog w = .ok (.string (strOf l)) w := by
  obtain ⟨g, cap, cur, fr, rfl, _, hg, _, hn, hc, _, ht⟩ := h
  refine run_convert_bytes_arg w 78 5 Tryz.underlying78 Tryz.underlying5 g 0 l.length cap (l.map fun (x : Nat) => (x : Int)) (by simp) ?_ 9 Tryz.underlying9
  intro i hi
  have hx : cur.toList[i]? = (u8s l)[i]? := by
    rw [← ht, List.getElem?_take_of_lt (by simpa using hi)]
  rw [u8s_get l i hi] at hx
  simp only [World.cell?, hg, Nat.zero_add]
  simp at hx ⊢
  rw [hx]
  simp [hi]

theorem pad_len (l : List Nat) : (Sha.pad l).length = 64 * ((Sha.pad l).length / 64) := by
  have : (Sha.pad l).length = l.length + 1 + Sha.zeros l.length + 8 := by simp [Sha.pad, Sha.be8]; omega
  rw [this]
  unfold Sha.zeros
  omega
theorem pad_le (l : List Nat) : (Sha.pad l).length ≤ l.length + 73 := by
  have : (Sha.pad l).length = l.length + 1 + Sha.zeros l.length + 8 := by simp [Sha.pad, Sha.be8]; omega
  rw [this]
  unfold Sha.zeros
  omega
theorem pad_ok (s : ByteArray) : Sha.bytesOk (Sha.pad (bts s)) :=
  Sha.bytesOk_append (bts_ok s) (Sha.cons_ok (by omega) (Sha.bytesOk_append (Sha.bytesOk_replicate _ _ (by omega)) (Sha.be8_ok _)))
theorem below_bytes (w : World) (s : ByteArray) : Below w.heap.size w (Lib.bytesWorld w 5 s) :=
  ⟨rfl, rfl, rfl, by rw [Lib.bytesWorld_size]; omega, fun k hk => Lib.bytesWorld_at_old w _ s k hk⟩
end Go.Proofs.YtlhohmlpcgbliabGreatDoor
namespace Go.Proofs.YtlhohmlpcgbliabGreatDoor
set_option maxRecDepth 100000
open Go.RowKit
attribute [local go_sem ↓] Go.wp_at_zero Go.wp_at_succ

theorem pad_eq (l : List Nat) : (l ++ 128 :: List.replicate (Sha.zeros l.length) 0) ++ Sha.be8 (8 * l.length) = Sha.pad l := by simp [Sha.pad]

set_option maxRecDepth 100000 in
set_option maxHeartbeats 4000000 in
theorem hashRef_any (s : ByteArray) (w : World) (hs : s.size < 99999999999) :
    Calls Tryz.prog 29 #[.string s] w fun e w' => e = .returned (.string (shaS (bts s))) ∧ Below w.heap.size w w' := by
  have hcv := fun wx => Lib.run_convert_string_bytes (P := Tryz.prog) wx 9 78 5 s Tryz.underlying9 Tryz.underlying78 Tryz.underlying5
  have hrow0 := rowM_of_string w w.heap.size s (Nat.le_refl _) (by omega)
  have hb0 := below_bytes w s
  have hz0 : Hid (w.heap.size ≤ (Lib.bytesWorld w 5 s).heap.size) := hb0.size
  have e8 : Hid ((8 : Int) * (s.size : Int) = ((8 * s.size : Nat) : Int)) := by show _ = _; omega
  have hl : (bts s).length = s.size := bts_length s
  have HL : Hid ((bts s).length = s.size) := hl
  have HP : Hid (Sha.pad (bts s) = (bts s ++ 128 :: List.replicate (Sha.zeros (bts s).length) 0) ++ Sha.be8 (8 * s.size)) := by
    show _ = _
    rw [← pad_eq, hl]
  have HPO : Hid (bts (strOf (Sha.pad (bts s))) = Sha.pad (bts s)) := bts_strOf (pad_ok s)
  have HPL : Hid ((Sha.pad (bts s)).length = 64 * ((Sha.pad (bts s)).length / 64)) := pad_len (bts s)
  have HPE := pad_le (bts s)
  have hln : (bts s ++ 128 :: List.replicate (Sha.zeros (bts s).length) 0).length < 200000000000 := by
    have : Sha.zeros (bts s).length < 64 := Nat.mod_lt _ (by omega)
    simp only [List.length_append, List.length_cons, List.length_replicate]
    omega
  rw [hl] at HPE
  have HPE' : Hid ((Sha.pad (bts s)).length / 64 < 10000000000) := by show _ < _; omega
  have HLN : Hid ((bts s ++ 128 :: List.replicate (Sha.zeros (bts s).length) 0).length < 200000000000) := hln
  clear hl HPE hln
  go_enter Tryz.func29, Tryz.ntmps29
  go_wp2_with (at_builtin; refine wpList_appbyte (by rfl) (.tmp 17) (.tmp 18) (by rfl) w.heap.size _ (bts s) (by rfl) (hrow0.alloc _) 128 _ 1 (by rfl) (Blk.new _ 5 _) (by rw [HL.out]; omega) (by have := hz0.out; simp; omega) (w0 := w) (hb0.alloc hz0.out _) (Nat.le_refl _) ?_)
  intro v1 w1 hr1 hb1
  obtain ⟨g1, cp1, rfl⟩ := hr1.form
  clear hcv hrow0 hb0 hz0
  rw [e8.out]
  go_wp2_with fail
  refine hshB0_wp (bts s) _ w.heap.size w1 w _ (by rw [HL.out]; omega) hr1 (Nat.le_refl _) hb1 ?_
  intro u20 u21 u22 u23 u24 u25 u26 v2 w2 hr2 hb2
  simp only [Exit.inBlock, if_true]
  clear hr1 hb1
  go_wp2_with fail
  refine hshB2_wp (8 * s.size) _ _ w.heap.size w2 w _ (by omega) HLN.out hr2 (Nat.le_refl _) hb2 ?_
  intro u5 u6 u27 u28 u29 u30 u31 u32 u33 u34 u35 u36 u37 u38 u39 u40 u41 u42 v3 w3 hr3 hb3
  simp only [Exit.inBlock, if_true]
  rw [← HP.out] at hr3
  have hcv3 := convert_rowM hr3
  clear hr2 hb2 hr3
  go_wp2_with fail
  refine hshB4_wp w3 _ ?_
  intro u9 u45 u46 u47 u48 u49 u50 u51 u52 u53 v4 w4 hr4 hb4
  simp only [Exit.inBlock, if_true]
  obtain ⟨g4, c4, hv4, _⟩ := hr4.form (by rw [ints_length]; exact Nat.zero_lt_succ 7)
  obtain rfl : v4 = .slice (some ⟨g4, 0, none⟩) 8 c4 := hv4
  obtain ⟨hI4, hg4⟩ := IntsAt.of_row hr4 (by exact Nat.zero_lt_succ 7)
  have hb5 : Below w.heap.size w w4 := hb3.trans (hb4.mono hb3.size)
  clear hr4 hb3 hb4 hcv3
  go_wp2_with fail
  refine hshB6_wp (strOf (Sha.pad (bts s))) ((Sha.pad (bts s)).length / 64) g4 c4 w4 _ (by rw [← bts_length, HPO.out]; exact HPL.out) HPE'.out hI4 hg4 ?_
  intro u10 u54 u55 u56 u57 u58 u59 u60 u61 u62 u63 u64 u65 u66 u67 g5 c5 w5 hI5 hg5 hb6
  simp only [Exit.inBlock, if_true]
  rw [HPO.out] at hI5
  have hb7 : Below w.heap.size w w5 := hb5.trans (hb6.mono hb5.size)
  clear hI4 hg4 hb5 hb6
  go_wp2_with fail
  refine hshB8_wp (Sha.mixAll ((Sha.pad (bts s)).length / 64) Sha.init (Sha.pad (bts s))) g5 c5 w5 _ (mixAll_ok Sha.init_ok _ _) hI5 hg5 ?_
  intro u12 u68 u69 u70 u71 u72 u73 u74 u75 u76 u77 u78 u79 u80 u81 u82 u83 u84 u85 u86 u87 u88 u89 u90 u91 u92 u93 u94 u95 u96 u97 u98 u99 u100 v6 w6 hr6 hb8
  simp only [Exit.inBlock, if_true]
  have hcv6 := convert_row hr6
  have hb9 : Below w.heap.size w w6 := hb7.trans (hb8.mono hb7.size)
  have HE : Hid (strOf (Sha.out (Sha.mixAll ((Sha.pad (bts s)).length / 64) Sha.init (Sha.pad (bts s)))) = shaS (bts s)) := rfl
  rw [HE.out] at hcv6
  clear hI5 hr6 hb7 hb8
  go_wp2_with fail
  go_ret
  exact ⟨rfl, hb9⟩
end Go.Proofs.YtlhohmlpcgbliabGreatDoor
namespace Go.Proofs.YtlhohmlpcgbliabGreatDoor
set_option maxRecDepth 100000
open Go.RowKit
attribute [local go_sem ↓] Go.wp_at_zero Go.wp_at_succ

theorem bts_append (a b : ByteArray) : bts (a ++ b) = bts a ++ bts b := by simp [bts]

set_option maxHeartbeats 400000 in
theorem leafRef_any (s : ByteArray) (w : World) (hs : s.size < 90000000000) :
    Calls Tryz.prog 13 #[.string s] w fun e w' => e = .returned (.string (leafS s)) ∧ Below w.heap.size w w' := by
  have hz : ((⟨#[0]⟩ : ByteArray) ++ s).size < 99999999999 := by
    have h1 : (⟨#[0]⟩ : ByteArray).size = 1 := rfl
    rw [ByteArray.size_append, h1]; omega
  have HE : Hid (shaS (bts ((⟨#[0]⟩ : ByteArray) ++ s)) = leafS s) := by
    show _ = _
    rw [bts_append]; rfl
  go_enter Tryz.func13, Tryz.ntmps13
  go_wp2_with (go_at_call 29; refine (hashRef_any _ _ hz).mono ?_; rintro e w' ⟨rfl, hb⟩)
  rw [HE.out]
  go_wp2_with fail
  go_ret
  exact ⟨rfl, hb⟩

set_option maxHeartbeats 400000 in
theorem nodeRef_any (a b : ByteArray) (w : World) (ha : a.size < 40000000000) (hbz : b.size < 40000000000) :
    Calls Tryz.prog 14 #[.string a, .string b] w fun e w' => e = .returned (.string (nodeS a b)) ∧ Below w.heap.size w w' := by
  have hz : ((⟨#[1]⟩ : ByteArray) ++ a ++ b).size < 99999999999 := by
    have h1 : (⟨#[1]⟩ : ByteArray).size = 1 := rfl
    rw [ByteArray.size_append, ByteArray.size_append, h1]; omega
  have HE : Hid (shaS (bts ((⟨#[1]⟩ : ByteArray) ++ a ++ b)) = nodeS a b) := by
    show _ = _
    rw [bts_append, bts_append, List.append_assoc]; rfl
  go_enter Tryz.func14, Tryz.ntmps14
  go_wp2_with (go_at_call 29; refine (hashRef_any _ _ hz).mono ?_; rintro e w' ⟨rfl, hb⟩)
  rw [HE.out]
  go_wp2_with fail
  go_ret
  exact ⟨rfl, hb⟩
end Go.Proofs.YtlhohmlpcgbliabGreatDoor
