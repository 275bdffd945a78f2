import Derived.Test.YteillcbajkhjkaaDoorX3
namespace Go.Proofs.YteillcbajkhjkaaDoor
open Go.RowKit
attribute [local go_sem ↓] Go.wp_at_zero Go.wp_at_succ

/-- The table of the rounds' constants, where the program keeps it. -/
def Table (w : World) : Prop := ∀ i, i < 64 → w.cell? ⟨2, i, none⟩ = some (.int .u32 ((Sha.keys.getD i 0 : Nat) : Int))

theorem arr64w : Tryd.prog.arrayLen 70 = 64 := by kernel_rfl
theorem size58 (w : World) : (sizeOf 58).run Tryd.prog w = .ok 1 w := by kernel_rfl
theorem agg58 (w : World) : (isAgg 58).run Tryd.prog w = .ok false w := by kernel_rfl

theorem index_u32s (w : World) (t n : Nat) (ht : Tryd.prog.underlying t = some (.array n 58)) (l : List Nat) (hl : l.length = n) (i : Nat) (hi : i < n) :
    (Instr.index t (.agg (u32s l).toArray) (.int .i64 (i : Int))).run Tryd.prog w = .ok (.int .u32 ((l.getD i 0 : Nat) : Int)) w := by
  have h1 : (u32s l)[i]? = some (.int .u32 ((l[i]?.getD 0 : Nat) : Int)) := by
    rw [u32s_get l i (by omega), List.getD_eq_getElem?_getD]
  simp [Instr.index, asIntOf, run_underlying ht, hi, Go.part, h1]

theorem bs1_val (e : Nat) (he : e < 4294967296) : bits .xor .u32 (bits .xor .u32 (Sha.rotr e 6 : Int) (Sha.rotr e 11 : Int)) (Sha.rotr e 25 : Int) = (Sha.bs1 e : Int) := by
  have a1 := Sha.rotr_lt e 6 he (by omega)
  have a2 := Sha.rotr_lt e 11 he (by omega)
  have a3 := Sha.rotr_lt e 25 he (by omega)
  rw [u32_xor_nat _ _ a1 a2, u32_xor_nat _ _ (Sha.xor_lt a1 a2) a3]; rfl
theorem bs0_val (e : Nat) (he : e < 4294967296) : bits .xor .u32 (bits .xor .u32 (Sha.rotr e 2 : Int) (Sha.rotr e 13 : Int)) (Sha.rotr e 22 : Int) = (Sha.bs0 e : Int) := by
  have a1 := Sha.rotr_lt e 2 he (by omega)
  have a2 := Sha.rotr_lt e 13 he (by omega)
  have a3 := Sha.rotr_lt e 22 he (by omega)
  rw [u32_xor_nat _ _ a1 a2, u32_xor_nat _ _ (Sha.xor_lt a1 a2) a3]; rfl
theorem xor_ones (e : Nat) (he : e < 4294967296) : 4294967295 ^^^ e = 4294967295 - e := by
  apply Nat.eq_of_testBit_eq
  intro i
  have h1 : (4294967295 - e) = 2 ^ 32 - (e + 1) := by omega
  rw [h1, Nat.testBit_two_pow_sub_succ (by omega : e < 2 ^ 32), Nat.testBit_xor, show (4294967295 : Nat) = 2 ^ 32 - 1 by decide, Nat.testBit_two_pow_sub_one]
  by_cases hi : i < 32
  · simp [hi]
  · have : e.testBit i = false := Nat.testBit_lt_two_pow (Nat.lt_of_lt_of_le he (by
      have : 2 ^ 32 ≤ 2 ^ i := Nat.pow_le_pow_right (by omega) (by omega)
      simpa using this))
    simp [hi, this]
theorem ch_val (e f g : Nat) (he : e < 4294967296) (hf : f < 4294967296) (hg : g < 4294967296) :
    bits .xor .u32 (bits .and .u32 (e : Int) (f : Int)) (bits .and .u32 (bits .xor .u32 (if IntKind.u32.signed = true then -1 else IntKind.u32.max) (e : Int)) (g : Int)) = (Sha.ch e f g : Int) := by
  have e0 : (if IntKind.u32.signed = true then -1 else IntKind.u32.max : Int) = ((4294967295 : Nat) : Int) := by decide
  rw [e0, u32_xor_nat _ _ (by omega) he, u32_and_nat _ _ he hf, xor_ones e he, u32_and_nat _ _ (by omega) hg, u32_xor_nat _ _ (Sha.and_lt hf) (Sha.and_lt hg)]; rfl
theorem maj_val (a b c : Nat) (ha : a < 4294967296) (hb : b < 4294967296) (hc : c < 4294967296) :
    bits .xor .u32 (bits .xor .u32 (bits .and .u32 (a : Int) (b : Int)) (bits .and .u32 (a : Int) (c : Int))) (bits .and .u32 (b : Int) (c : Int)) = (Sha.maj a b c : Int) := by
  rw [u32_and_nat _ _ ha hb, u32_and_nat _ _ ha hc, u32_and_nat _ _ hb hc, u32_xor_nat _ _ (Sha.and_lt hb) (Sha.and_lt hc), u32_xor_nat _ _ (Sha.xor_lt (Sha.and_lt hb) (Sha.and_lt hc)) (Sha.and_lt hc)]; rfl
theorem step_a (r : Sha.St) (key wk : Nat) : ((((r.h : Int) + Sha.bs1 r.e + Sha.ch r.e r.f r.g + key + wk) % 4294967296 + ((Sha.bs0 r.a : Int) + Sha.maj r.a r.b r.c) % 4294967296) % 4294967296) = ((Sha.step r key wk).a : Int) := by
  simp only [Sha.step]; omega
theorem step_e (r : Sha.St) (key wk : Nat) : (((r.d : Int) + ((r.h : Int) + Sha.bs1 r.e + Sha.ch r.e r.f r.g + key + wk) % 4294967296) % 4294967296) = ((Sha.step r key wk).e : Int) := by
  simp only [Sha.step]; omega
theorem int_u32 {a b : Int} (h : a = b) : Value.int .u32 a = .int .u32 b := by rw [h]

set_option maxRecDepth 100000 in
set_option maxHeartbeats 1000000 in
theorem mixB0_wp {c0 c1 c2 c11 c12 c13 c14 c15 c16 c17 c18 c19 c20 c21 c22 c23 c24 c25 c26 c27 c28 c29 c30 c31 c32 c33 c34 c35 c36 c37 c38 c39 c40 c41 c42 c43 c44 c45 c46 c47 c48 c49 c50 c51 c52 c53 c54 c55 c56 c57 c58 c61 c62 c63 c64 c65 c66 c67 c68 c69 c70 c71 c72 c73 c74 c75 c76 c77 c78 c79 c80 c81 c82 c83 c84 c85 c86 c87 c88 c89 c90 c91 c92 c93 c94 c95 c96 c97 c98 c99 c100 c101 c102 c103 c104 c105 c106 c107 c108 c109 c110 c111 c112 c113 c114 c115 c116 c117 c118 c119 c120 c121 c122 c123 c124 c125 c126 c127 c128 c129 c130 c131 c132 c133 c134 c135 c136 c137 c138 c139 c140 c141 c142 c143 c144 c145 c146 : Value} (s : Sha.St) (ws : List Nat) (w : World) (Q : Exit → Act → World → Prop) (hok : s.ok) (hlen : ws.length = 64) (hws : ∀ i, ws.getD i 0 < 4294967296) (ht : Table w)
  (hQ : ∀ (u11 u12 u13 u14 u60 u61 u62 u63 u64 u65 u66 u67 u68 u69 u70 u71 u72 u73 u74 u75 u76 u77 u78 u79 u80 u81 u82 u83 u84 u85 u86 u87 u88 u89 u90 u91 u92 u93 u94 u95 u96 u97 u98 u99 u100 u101 u102 u103 u104 u105 u106 u107 u108 u109 u110 u111 u112 u113 u114 u115 u116 u117 u118 u119 u120 u121 : Value) (n : Nat), Q (.exit 0) ⟨#[c0, c1, c2, .int .u32 ((Sha.rounds s ws 64).a : Int), .int .u32 ((Sha.rounds s ws 64).b : Int), .int .u32 ((Sha.rounds s ws 64).c : Int), .int .u32 ((Sha.rounds s ws 64).d : Int), .int .u32 ((Sha.rounds s ws 64).e : Int), .int .u32 ((Sha.rounds s ws 64).f : Int), .int .u32 ((Sha.rounds s ws 64).g : Int), .int .u32 ((Sha.rounds s ws 64).h : Int), u11, u12, u13, u14, c15, c16, c17, c18, c19, c20, c21, c22, c23, c24, c25, c26, c27, c28, c29, c30, c31, c32, c33, c34, c35, c36, c37, c38, c39, c40, c41, c42, c43, c44, c45, c46, c47, c48, c49, c50, c51, c52, c53, c54, c55, c56, c57, c58, .agg (u32s ws).toArray, u60, u61, u62, u63, u64, u65, u66, u67, u68, u69, u70, u71, u72, u73, u74, u75, u76, u77, u78, u79, u80, u81, u82, u83, u84, u85, u86, u87, u88, u89, u90, u91, u92, u93, u94, u95, u96, u97, u98, u99, u100, u101, u102, u103, u104, u105, u106, u107, u108, u109, u110, u111, u112, u113, u114, u115, u116, u117, u118, u119, u120, u121, c122, c123, c124, c125, c126, c127, c128, c129, c130, c131, c132, c133, c134, c135, c136, c137, c138, c139, c140, c141, c142, c143, c144, c145, c146], []⟩ (w.drewN n)) :
  Code.wp Tryd.prog mixB0 Q ⟨#[c0, c1, c2, .int .u32 (s.a : Int), .int .u32 (s.b : Int), .int .u32 (s.c : Int), .int .u32 (s.d : Int), .int .u32 (s.e : Int), .int .u32 (s.f : Int), .int .u32 (s.g : Int), .int .u32 (s.h : Int), c11, c12, c13, c14, c15, c16, c17, c18, c19, c20, c21, c22, c23, c24, c25, c26, c27, c28, c29, c30, c31, c32, c33, c34, c35, c36, c37, c38, c39, c40, c41, c42, c43, c44, c45, c46, c47, c48, c49, c50, c51, c52, c53, c54, c55, c56, c57, c58, .agg (u32s ws).toArray, .int .i64 0, c61, c62, c63, c64, c65, c66, c67, c68, c69, c70, c71, c72, c73, c74, c75, c76, c77, c78, c79, c80, c81, c82, c83, c84, c85, c86, c87, c88, c89, c90, c91, c92, c93, c94, c95, c96, c97, c98, c99, c100, c101, c102, c103, c104, c105, c106, c107, c108, c109, c110, c111, c112, c113, c114, c115, c116, c117, c118, c119, c120, c121, c122, c123, c124, c125, c126, c127, c128, c129, c130, c131, c132, c133, c134, c135, c136, c137, c138, c139, c140, c141, c142, c143, c144, c145, c146], []⟩ w := by
  conv => arg 2; whnf
  try go_wp2
  go_loopw [3, 4, 5, 6, 7, 8, 9, 10, 60] (fun a b c d e f g h i wr => ∃ k n : Nat, k ≤ 64 ∧ i = .int .i64 k ∧ wr = w.drewN n ∧ a = .int .u32 ((Sha.rounds s ws k).a : Int) ∧ b = .int .u32 ((Sha.rounds s ws k).b : Int) ∧ c = .int .u32 ((Sha.rounds s ws k).c : Int) ∧ d = .int .u32 ((Sha.rounds s ws k).d : Int) ∧ e = .int .u32 ((Sha.rounds s ws k).e : Int) ∧ f = .int .u32 ((Sha.rounds s ws k).f : Int) ∧ g = .int .u32 ((Sha.rounds s ws k).g : Int) ∧ h = .int .u32 ((Sha.rounds s ws k).h : Int)) (fun _ _ _ _ _ _ _ _ i _ => 64 - (intOf i).toNat)
  case atStart => exact ⟨0, 0, by omega, rfl, rfl, rfl, rfl, rfl, rfl, rfl, rfl, rfl, rfl⟩
  case round =>
    obtain ⟨k, n, hk, rfl, rfl, rfl, rfl, rfl, rfl, rfl, rfl, rfl, rfl⟩ := hrel
    by_cases hlt : k < 64
    · obtain ⟨o1, o2, o3, o4, o5, o6, o7, o8⟩ := Sha.rounds_ok hok ws k
      have HN : Hid (Sha.rounds s ws (k + 1) = Sha.step (Sha.rounds s ws k) (Sha.keys.getD k 0) (ws.getD k 0)) := rfl
      have hix := fun wx => index_u32s wx 70 64 Tryd.underlying70 ws hlen k hlt
      have hkey : (w.drewN n).cell? ⟨2, k, none⟩ = some (.int .u32 ((Sha.keys.getD k 0 : Nat) : Int)) := ht k hlt
      have HW : Hid (∃ m, w.drewN n = w.drewN m) := ⟨n, rfl⟩
      have k1 := Sha.keys_lt k
      have k2 := hws k
      generalize Sha.keys.getD k 0 = key at *
      generalize ws.getD k 0 = wk at *
      generalize Sha.rounds s ws k = r at *
      have jk : (k : Int) < 64 := by omega
      have ik : (0 : Int) ≤ (k : Int) := by omega
      clear ht hQ
      generalize w.drewN n = wn at *
      go_wp2
      go_quiet ((go_at_call 56; exact Calls.quiet_of_same (turned_any _ _ _ (by assumption) (by simp [isTurn]))))
      go_wp2_with (go_at_call 56; refine (turned_any _ _ _ (by assumption) (by simp [isTurn])).mono ?_; rintro e w' ⟨rfl, rfl⟩)
      go_roundw
      case rel =>
        rw [bs1_val r.e o5, bs0_val r.a o1, ch_val r.e r.f r.g o5 o6 o7, maj_val r.a r.b r.c o1 o2 o3, step_a r key wk, step_e r key wk]
        obtain ⟨m, hm⟩ := HW.out
        refine ⟨k + 1, m + nq, by omega, by go_num, by rw [hm, World.drewN_drewN], ?_⟩
        rw [HN.out]
        exact ⟨rfl, rfl, rfl, rfl, rfl, rfl, rfl, rfl⟩
      case measure => simp [intOf]; omega
    · have hk4 : k = 64 := by omega
      subst hk4
      go_wp2
      apply hQ
end Go.Proofs.YteillcbajkhjkaaDoor
