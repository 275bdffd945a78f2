import Derived.Test.YteillcbajkhjkaaDoorX4
namespace Go.Proofs.YteillcbajkhjkaaDoor
open Go.RowKit
attribute [local go_sem ↓] Go.wp_at_zero Go.wp_at_succ

/-- The first k of the eight sums. -/
def addK (s t : List Nat) : Nat → List Nat
  | 0 => s
  | k + 1 => (addK s t k).set k ((s.getD k 0 + t.getD k 0) % 4294967296)
theorem addK_length (s t : List Nat) (k : Nat) : (addK s t k).length = s.length := by
  induction k with
  | zero => rfl
  | succ k ih => simp [addK, ih]
theorem addK_get (s t : List Nat) (k i : Nat) (h : k ≤ i) : (addK s t k).getD i 0 = s.getD i 0 := by
  induction k with
  | zero => rfl
  | succ k ih =>
    rw [addK, List.getD_eq_getElem?_getD, List.getElem?_set_ne (by omega), ← List.getD_eq_getElem?_getD, ih (by omega)]
theorem addK_eight (s t : Sha.St) : addK s.list t.list 8 = (Sha.add s t).list := rfl
theorem St.ok_get {s : Sha.St} (h : s.ok) (i : Nat) : s.list.getD i 0 < 4294967296 := by
  obtain ⟨h1, h2, h3, h4, h5, h6, h7, h8⟩ := h
  match i with
  | 0 => exact h1
  | 1 => exact h2
  | 2 => exact h3
  | 3 => exact h4
  | 4 => exact h5
  | 5 => exact h6
  | 6 => exact h7
  | 7 => exact h8
  | n + 8 => show List.getD [] n 0 < _; simp

set_option maxRecDepth 100000 in
set_option maxHeartbeats 1000000 in
theorem mixB2_wp {c1 c2 c3 c4 c5 c6 c7 c8 c9 c10 c11 c12 c13 c14 c15 c16 c17 c18 c19 c20 c21 c22 c23 c24 c25 c26 c27 c28 c29 c30 c31 c32 c33 c34 c35 c36 c37 c38 c39 c40 c41 c42 c43 c44 c45 c46 c47 c48 c49 c50 c51 c52 c53 c54 c55 c56 c57 c58 c59 c60 c61 c62 c63 c64 c65 c66 c67 c68 c69 c70 c71 c72 c73 c74 c75 c76 c77 c78 c79 c80 c81 c82 c83 c84 c85 c86 c87 c88 c89 c90 c91 c92 c93 c94 c95 c96 c97 c98 c99 c100 c101 c102 c103 c104 c105 c106 c107 c108 c109 c110 c111 c112 c113 c114 c115 c116 c117 c118 c119 c120 c121 c122 c123 c124 c125 c126 c127 c128 c129 c132 c133 c134 c135 c136 c137 c138 c139 c140 c141 c142 c143 c144 c145 c146 : Value} (b : Nat) (s t : Sha.St) (bl : List Nat) (fi le : Int) (w : World) (Q : Exit → Act → World → Prop) (hs : s.ok) (ht : t.ok) (hm : Blk w b 63 (msg s.list bl fi le))
  (hQ : ∀ (u15 u16 u131 u132 u133 u134 u135 u136 u137 u138 u139 u140 u141 u142 u143 u144 u145 u146 : Value) (w' : World), Kept w.heap.size b w w' → Blk w' b 63 (msg (Sha.add s t).list bl fi le) → Q (.exit 2) ⟨#[.pointer (some ⟨b, 0, none⟩), c1, c2, c3, c4, c5, c6, c7, c8, c9, c10, c11, c12, c13, c14, u15, u16, c17, c18, c19, c20, c21, c22, c23, c24, c25, c26, c27, c28, c29, c30, c31, c32, c33, c34, c35, c36, c37, c38, c39, c40, c41, c42, c43, c44, c45, c46, c47, c48, c49, c50, c51, c52, c53, c54, c55, c56, c57, c58, c59, c60, c61, c62, c63, c64, c65, c66, c67, c68, c69, c70, c71, c72, c73, c74, c75, c76, c77, c78, c79, c80, c81, c82, c83, c84, c85, c86, c87, c88, c89, c90, c91, c92, c93, c94, c95, c96, c97, c98, c99, c100, c101, c102, c103, c104, c105, c106, c107, c108, c109, c110, c111, c112, c113, c114, c115, c116, c117, c118, c119, c120, c121, c122, c123, c124, c125, c126, c127, c128, c129, .agg (u32s t.list).toArray, u131, u132, u133, u134, u135, u136, u137, u138, u139, u140, u141, u142, u143, u144, u145, u146], []⟩ w') :
  Code.wp Tryd.prog mixB2 Q ⟨#[.pointer (some ⟨b, 0, none⟩), c1, c2, c3, c4, c5, c6, c7, c8, c9, c10, c11, c12, c13, c14, c15, c16, c17, c18, c19, c20, c21, c22, c23, c24, c25, c26, c27, c28, c29, c30, c31, c32, c33, c34, c35, c36, c37, c38, c39, c40, c41, c42, c43, c44, c45, c46, c47, c48, c49, c50, c51, c52, c53, c54, c55, c56, c57, c58, c59, c60, c61, c62, c63, c64, c65, c66, c67, c68, c69, c70, c71, c72, c73, c74, c75, c76, c77, c78, c79, c80, c81, c82, c83, c84, c85, c86, c87, c88, c89, c90, c91, c92, c93, c94, c95, c96, c97, c98, c99, c100, c101, c102, c103, c104, c105, c106, c107, c108, c109, c110, c111, c112, c113, c114, c115, c116, c117, c118, c119, c120, c121, c122, c123, c124, c125, c126, c127, c128, c129, .agg (u32s t.list).toArray, .int .i64 0, c132, c133, c134, c135, c136, c137, c138, c139, c140, c141, c142, c143, c144, c145, c146], []⟩ w := by
  conv => arg 2; whnf
  try go_wp2
  go_loopw [131] (fun i wr => ∃ k : Nat, k ≤ 8 ∧ i = .int .i64 k ∧ Kept w.heap.size b w wr ∧ Blk wr b 63 (msg (addK s.list t.list k) bl fi le)) (fun i _ => 8 - (intOf i).toNat)
  case atStart => exact ⟨0, by omega, rfl, Kept.refl _ _ _, hm⟩
  case round =>
    obtain ⟨k, hk, rfl, hkp, hb⟩ := hrel
    have hlen : (addK s.list t.list k).length = 8 := addK_length _ _ _
    by_cases hlt : k < 8
    · have hix := fun wx => index_u32s wx 59 8 Tryd.underlying59 t.list rfl k hlt
      have hc := hb.cell k
      rw [msg_word hlen k hlt, addK_get _ _ _ _ (Nat.le_refl _)] at hc
      have hf := hb.frozen k
      have l1 := St.ok_get hs k
      have l2 := St.ok_get ht k
      have HS : ∀ x : Nat, Hid (Blk (wr.setCell ⟨b, k, none⟩ (.int .u32 (x : Int))) b 63 (msg ((addK s.list t.list k).set k x) bl fi le)) := fun x =>
        (hb.set k _).eq (msg_set_word hlen k x hlt)
      have HK : ∀ v, Hid (Kept w.heap.size b w (wr.setCell ⟨b, k, none⟩ v)) := fun v => hkp.setCell _ (Or.inl rfl) _
      have HN : Hid (addK s.list t.list (k + 1) = (addK s.list t.list k).set k ((s.list.getD k 0 + t.list.getD k 0) % 4294967296)) := rfl
      generalize s.list.getD k 0 = x at *
      generalize t.list.getD k 0 = y at *
      have jk : (k : Int) < 8 := by omega
      have ik : (0 : Int) ≤ (k : Int) := by omega
      clear hQ hm hb hkp
      go_wp2
      go_region
      all_goals go_wp2
      go_roundw
      case rel =>
        have e : ((x : Int) + y) % 4294967296 = (((x + y) % 4294967296 : Nat) : Int) := by omega
        rw [e]
        refine ⟨k + 1, by omega, by go_num, (HK _).out.drewN 1, ?_⟩
        rw [HN.out]
        exact (HS _).out.drewN 1
      case measure => simp [intOf]; omega
    · have hk4 : k = 8 := by omega
      subst hk4
      go_wp2
      exact hQ _ _ _ _ _ _ _ _ _ _ _ _ _ _ _ _ _ _ _ hkp hb
end Go.Proofs.YteillcbajkhjkaaDoor
