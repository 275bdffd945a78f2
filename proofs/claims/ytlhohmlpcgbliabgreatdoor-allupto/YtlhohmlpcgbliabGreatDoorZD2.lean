import Derived.Test.YtlhohmlpcgbliabGreatDoorZT3
import Derived.Deep.AppendLies
import Derived.Test.YtlhohmlpcgbliabGreatDoorZX14
import Derived.Test.YtlhohmlpcgbliabGreatDoorZQ3
import Derived.Test.YtlhohmlpcgbliabGreatDoorZX12
import Derived.Test.YtlhohmlpcgbliabGreatDoorZR2
namespace Go.Proofs.YtlhohmlpcgbliabGreatDoor
set_option maxRecDepth 100000
open Go.RowKit
attribute [local go_sem ↓] Go.wp_at_zero Go.wp_at_succ

/-- Which of n things the number c speaks of. -/
def pickV (c : Int) (n : Nat) : Nat := (if c < 0 then -(c + 1) else c).toNat % n
theorem pickV_lt (c : Int) (n : Nat) (h : 1 ≤ n) : pickV c n < n := Nat.mod_lt _ h

set_option maxHeartbeats 400000 in
theorem pick_any (c : Int) (n : Nat) (w : World) (h1 : -9223372036854775808 ≤ c) (h2 : c ≤ 9223372036854775807) (hn : 1 ≤ n) (hn2 : n ≤ 1000000000000) :
    Calls Tryz.prog 16 #[.int .i64 c, .int .i64 (n : Int)] w fun e w' => e = .returned (.int .i64 (pickV c n : Nat)) ∧ w' = w := by
  have hz : ((n : Int) == 0) = false := by simp; omega
  by_cases hc : c < 0
  · have HP : Aside (-((c + 1).tmod (n : Int)) = ((pickV c n : Nat) : Int)) := by
      show _ = _
      rw [← Int.neg_tmod, Int.tmod_eq_emod_of_nonneg (by omega), pickV, if_pos hc, Int.natCast_emod, Int.toNat_of_nonneg (by omega)]
    go_enter Tryz.func16, Tryz.ntmps16
    go_wp2
    go_ret
    rw [← HP.out]
    exact ⟨rfl, rfl⟩
  · have HP : Aside (c % (n : Int) = ((pickV c n : Nat) : Int)) := by
      show _ = _
      rw [pickV, if_neg hc, Int.natCast_emod, Int.toNat_of_nonneg (by omega)]
    go_enter Tryz.func16, Tryz.ntmps16
    go_wp2
    go_ret
    rw [← HP.out]
    exact ⟨rfl, rfl⟩

/-- An append onto a slice of the call's own, and where the new slice lies. -/
theorem wpList_app2 {e t : TypeId} {z : Value} {bytes : Nat} (hel : Elem e z bytes) (hz : z.cells.size = 1) (ht : Tryz.prog.underlying t = some (.slice e))
    {w w0 : World} {B : Nat} {ops : Array Oper} {rest : List Oper} {o : Oper} {a : Act} {Q : Exit → Act → World → Prop} (hgd : o.guard = none) (s x : Operand)
    (ho : o.op = .call { callee := .builtin .append, args := #[s, x], argTypes := #[t, t] }) (base : Nat) (v : Value) (xs : List Value) (hs : a.eval s = v) (hown : Row w base e v xs)
    (g m c : Nat) (news : List Value) (hx : a.eval x = .slice (some ⟨g, 0, none⟩) m c) (hm : news.length = m) (hm0 : 0 < m) (hnews : Blk w g e news) (h1 : ∀ u ∈ news, u.oneCell' = true)
    (hlen : xs.length + m ≤ 1000000000000) (hby : bytes ≤ 16) (hbase : base ≤ w.heap.size) (hB : Below B w0 w) (hBb : B ≤ base)
    (h : ∀ g' cap w', Row w' base e (.slice (some ⟨g', 0, none⟩) (xs.length + m) cap) (xs ++ news) → w.grownBy w' v.ownBlock → (v.ownBlock = some g' ∨ g' = w.heap.size) → Below B w0 w' → wpList Tryz.prog ops Q rest (a.put o.dst (.slice (some ⟨g', 0, none⟩) (xs.length + m) cap)) w') : wpList Tryz.prog ops Q (o :: rest) a w := by
  obtain ⟨i, hi, hiz, his, hib⟩ := hel
  have hb : (xs.length + m) * bytes ≤ 140737488355328 := Nat.le_trans (Nat.mul_le_mul hlen hby) (by omega)
  refine wpList_append_lies w hgd s x t ho base e i z 1 bytes ht hi hiz his hib hz (by omega) v xs.length xs hs hown ⟨g, 0, none⟩ m c news hx (by omega) ?_ h1 hm0 (by unfold maxLen; omega) hb hbase _ rfl ?_
  · intro j u hu
    have hlt : j < news.length := (List.getElem?_eq_some_iff.1 hu).1
    rw [Addr.add_mid, Nat.zero_add, hnews.cell]
    exact hu
  · intro g' cap w' h2 h3 h4 _
    refine h g' cap w' ?_ h3 h4 (hB.grown h3 (Nat.le_trans hBb hbase) (fun k hk => Nat.le_trans hBb (hown.lt k hk).1))
    unfold Row
    rw [List.length_append, hm]
    exact h2

/-- A list that the law may hand on: it reads as an argument does, and has room. -/
def LA (w : World) (v : Value) (ss : List ByteArray) : Prop := ArgS w v ss ∧ Lst w v ss
theorem LA.of_block {w : World} {g cap : Nat} {ss : List ByteArray} (hc : ss.length ≤ cap) (h : ∀ (j : Nat) s, ss[j]? = some s → w.cell? ⟨g, j, none⟩ = some (.string s)) : LA w (.slice (some ⟨g, 0, none⟩) ss.length cap) ss :=
  ⟨.inr ⟨_, _, rfl, fun j s hs => by rw [Addr.add_mid, Nat.zero_add]; exact h j s hs⟩, ⟨_, _, rfl, hc, fun j s hs => ⟨_, _, rfl, by rw [Nat.zero_add]; exact h j s hs⟩⟩⟩
theorem LA.nil (w : World) : LA w (.slice none 0 0) [] := ⟨.inl ⟨rfl, rfl⟩, ⟨_, _, rfl, Nat.le_refl _, fun j s hs => by simp at hs⟩⟩
theorem LA.of_row {w : World} {base : Nat} {v : Value} {ss : List ByteArray} (h : Row w base 9 v (strv ss)) : LA w v ss := by
  obtain ⟨h1, h2⟩ := h
  rcases h2 with ⟨rfl, h0⟩ | ⟨g, cap, cur, rfl, hb, hg, hn, hm, hs, ht⟩
  · have : ss = [] := List.eq_nil_of_length_eq_zero (by simpa using h0)
    subst this
    exact LA.nil w
  · rw [strv_length] at hn ht ⊢
    refine LA.of_block hn fun j s hj => ?_
    have hlt : j < ss.length := (List.getElem?_eq_some_iff.1 hj).1
    have : (strv ss)[j]? = cur.toList[j]? := by rw [← ht, List.getElem?_take_of_lt (by omega)]
    have hv : cur.toList[j]? = some (.string s) := by rw [← this, strv, List.getElem?_map, hj]; rfl
    simp [World.cell?, hg] at hv ⊢
    exact hv
theorem LA.below {w w' : World} {v : Value} {ss : List ByteArray} (h : LA w v ss) (hb : Below w.heap.size w w') : LA w' v ss := by
  refine ⟨?_, h.2.below hb⟩
  rcases h.1 with h1 | ⟨a, c, h1, h2⟩
  · exact .inl h1
  · exact .inr ⟨a, c, h1, fun i s hs => by rw [hb.cell (World.block_lt_of_cell? _ _ (h2 i s hs))]; exact h2 i s hs⟩
end Go.Proofs.YtlhohmlpcgbliabGreatDoor
namespace Go.Proofs.YtlhohmlpcgbliabGreatDoor
set_option maxRecDepth 100000
open Go.RowKit
attribute [local go_sem ↓] Go.wp_at_zero Go.wp_at_succ

theorem results_tmp5 {fn : Func} {a b c d e : Tmp} (h : fn.results = #[.tmp a, .tmp b, .tmp c, .tmp d, .tmp e]) (tmps : Array Value) (P : Program) (w : World) :
    (results fn tmps).run P w = .ok (.tuple #[tmps.getD a undef, tmps.getD b undef, tmps.getD c undef, tmps.getD d undef, tmps.getD e undef]) w := by
  simp [results, h]

/-- What a call of bent gives. -/
def BentAs (B : Nat) (w : World) (e : Ending) (w' : World) : Prop :=
  ∃ (p q : Value) (i n m : Int) (ps qs : List ByteArray), e = .returned (.tuple #[p, q, .int .i64 i, .int .i64 n, .int .i64 m]) ∧ LA w' p ps ∧ LA w' q qs ∧ Few ps ∧ Few qs ∧ Below B w w'

set_option maxHeartbeats 400000 in
theorem bent_num (p q : Value) (ps qs : List ByteArray) (other : ByteArray) (rb ro rn rc r i n m B : Nat) (k : Int) (w : World) (hp : Aside (LA w p ps ∧ LA w q qs ∧ Few ps ∧ Few qs)) (hr : 3 ≤ r) (hr2 : r < 7) (hk : w.cell? ⟨rb, ro + 3, none⟩ = some (.int .i64 k)) (hrn : 4 ≤ rn)
  (hi : i ≤ 1000) (hn : n ≤ 1000) (hm : m ≤ 1000) (hpk : Calls Tryz.prog 16 #[.int .i64 k, .int .i64 7] w fun e w' => e = .returned (.int .i64 (r : Int)) ∧ w' = w) :
    Calls Tryz.prog 21 #[p, q, .slice (some ⟨rb, ro, none⟩) rn rc, .string other, .int .i64 (i : Int), .int .i64 (n : Int), .int .i64 (m : Int)] w (BentAs B w) := by
  have h : r = 3 ∨ r = 4 ∨ r = 5 ∨ r = 6 := by omega
  rcases h with rfl | rfl | rfl | rfl
  · go_enter Tryz.func21, Tryz.ntmps21
    go_wp2_with (go_at_call 16; refine hpk.mono ?_; rintro e w' ⟨rfl, rfl⟩)
    refine bodyPost_ret (results_tmp5 rfl _ _ _) rfl ?_
    exact ⟨_, _, _, _, _, _, _, rfl, hp.out.1, hp.out.2.1, hp.out.2.2.1, hp.out.2.2.2, Below.refl _ _⟩
  · go_enter Tryz.func21, Tryz.ntmps21
    go_wp2_with (go_at_call 16; refine hpk.mono ?_; rintro e w' ⟨rfl, rfl⟩)
    refine bodyPost_ret (results_tmp5 rfl _ _ _) rfl ?_
    exact ⟨_, _, _, _, _, _, _, rfl, hp.out.1, hp.out.2.1, hp.out.2.2.1, hp.out.2.2.2, Below.refl _ _⟩
  · go_enter Tryz.func21, Tryz.ntmps21
    go_wp2_with (go_at_call 16; refine hpk.mono ?_; rintro e w' ⟨rfl, rfl⟩)
    refine bodyPost_ret (results_tmp5 rfl _ _ _) rfl ?_
    exact ⟨_, _, _, _, _, _, _, rfl, hp.out.1, hp.out.2.1, hp.out.2.2.1, hp.out.2.2.2, Below.refl _ _⟩
  · go_enter Tryz.func21, Tryz.ntmps21
    go_wp2_with (go_at_call 16; refine hpk.mono ?_; rintro e w' ⟨rfl, rfl⟩)
    refine bodyPost_ret (results_tmp5 rfl _ _ _) rfl ?_
    exact ⟨_, _, _, _, _, _, _, rfl, hp.out.1, hp.out.2.1, hp.out.2.2.1, hp.out.2.2.2, Below.refl _ _⟩
end Go.Proofs.YtlhohmlpcgbliabGreatDoor
namespace Go.Proofs.YtlhohmlpcgbliabGreatDoor
set_option maxRecDepth 100000
open Go.RowKit
attribute [local go_sem ↓] Go.wp_at_zero Go.wp_at_succ

/-- A list of the law's own, and what is left of it without its last. -/
def Cut (p p' : Value) : Prop := (∃ pp cc, p = .slice pp 0 cc ∧ p' = p) ∨ ∃ g a cap, p = .slice (some ⟨g, 0, none⟩) (a + 1) cap ∧ p' = .slice (some ⟨g, 0, none⟩) a cap ∧ a + 1 ≤ cap ∧ a < 1000000

set_option maxHeartbeats 1000000 in
theorem bent_cut (p q p' q' : Value) (ps qs : List ByteArray) (other : ByteArray) (rb ro rn rc i n m B : Nat) (k : Int) (w : World) (hcp : Cut p p') (hcq : Cut q q') (hp : Aside (LA w p' ps ∧ LA w q' qs ∧ Few ps ∧ Few qs)) (hk : w.cell? ⟨rb, ro + 3, none⟩ = some (.int .i64 k)) (hrn : 4 ≤ rn)
  (hpk : Calls Tryz.prog 16 #[.int .i64 k, .int .i64 7] w fun e w' => e = .returned (.int .i64 1) ∧ w' = w) :
    Calls Tryz.prog 21 #[p, q, .slice (some ⟨rb, ro, none⟩) rn rc, .string other, .int .i64 (i : Int), .int .i64 (n : Int), .int .i64 (m : Int)] w (BentAs B w) := by
  rcases hcp with ⟨pp, cc, rfl, rfl⟩ | ⟨g, a, cap, rfl, rfl, hc, ha⟩
  · rcases hcq with ⟨pp2, cc2, rfl, rfl⟩ | ⟨g2, a2, cap2, rfl, rfl, hc2, ha2⟩
    · go_enter Tryz.func21, Tryz.ntmps21
      go_wp2_with (go_at_call 16; refine hpk.mono ?_; rintro e w' ⟨rfl, rfl⟩)
      refine bodyPost_ret (results_tmp5 rfl _ _ _) rfl ?_
      exact ⟨_, _, _, _, _, _, _, rfl, hp.out.1, hp.out.2.1, hp.out.2.2.1, hp.out.2.2.2, Below.refl _ _⟩
    · have hs2 := fun wx => slice_h wx g2 0 (a2 + 1) cap2 a2 (by omega)
      go_enter Tryz.func21, Tryz.ntmps21
      go_wp2_with (go_at_call 16; refine hpk.mono ?_; rintro e w' ⟨rfl, rfl⟩)
      refine bodyPost_ret (results_tmp5 rfl _ _ _) rfl ?_
      exact ⟨_, _, _, _, _, _, _, rfl, hp.out.1, hp.out.2.1, hp.out.2.2.1, hp.out.2.2.2, Below.refl _ _⟩
  · have hs1 := fun wx => slice_h wx g 0 (a + 1) cap a (by omega)
    rcases hcq with ⟨pp2, cc2, rfl, rfl⟩ | ⟨g2, a2, cap2, rfl, rfl, hc2, ha2⟩
    · go_enter Tryz.func21, Tryz.ntmps21
      go_wp2_with (go_at_call 16; refine hpk.mono ?_; rintro e w' ⟨rfl, rfl⟩)
      refine bodyPost_ret (results_tmp5 rfl _ _ _) rfl ?_
      exact ⟨_, _, _, _, _, _, _, rfl, hp.out.1, hp.out.2.1, hp.out.2.2.1, hp.out.2.2.2, Below.refl _ _⟩
    · have hs2 := fun wx => slice_h wx g2 0 (a2 + 1) cap2 a2 (by omega)
      go_enter Tryz.func21, Tryz.ntmps21
      go_wp2_with (go_at_call 16; refine hpk.mono ?_; rintro e w' ⟨rfl, rfl⟩)
      refine bodyPost_ret (results_tmp5 rfl _ _ _) rfl ?_
      exact ⟨_, _, _, _, _, _, _, rfl, hp.out.1, hp.out.2.1, hp.out.2.2.1, hp.out.2.2.2, Below.refl _ _⟩
end Go.Proofs.YtlhohmlpcgbliabGreatDoor
namespace Go.Proofs.YtlhohmlpcgbliabGreatDoor
set_option maxRecDepth 100000
open Go.RowKit
attribute [local go_sem ↓] Go.wp_at_zero Go.wp_at_succ

theorem tdiv7 (k : Int) (h1 : -9223372036854775808 ≤ k) (h2 : k ≤ 9223372036854775807) : -9223372036854775808 ≤ k.tdiv 7 ∧ k.tdiv 7 ≤ 9223372036854775807 := by
  by_cases h : 0 ≤ k
  · rw [Int.tdiv_eq_ediv_of_nonneg h]; omega
  · have e : k.tdiv 7 = -((-k) / 7) := by rw [← Int.tdiv_eq_ediv_of_nonneg (by omega), Int.neg_tdiv, Int.neg_neg]
    rw [e]; omega

set_option maxHeartbeats 1000000 in
theorem bent_put (other : ByteArray) (g a cap g2 a2 cap2 x x2 rb ro rn rc i n m B : Nat) (ps qs : List ByteArray) (k : Int) (w : World)
  (hx : x < a + 1) (hx2 : x2 < a2 + 1) (u u2 : Value) (hc : w.cell? ⟨g, x, none⟩ = some u) (hf : w.frozen? ⟨g, x, none⟩ = false) (hc2 : (w.setCell ⟨g, x, none⟩ (.string other)).cell? ⟨g2, x2, none⟩ = some u2) (hf2 : (w.setCell ⟨g, x, none⟩ (.string other)).frozen? ⟨g2, x2, none⟩ = false)
  (hp : Aside (LA ((w.setCell ⟨g, x, none⟩ (.string other)).setCell ⟨g2, x2, none⟩ (.string other)) (.slice (some ⟨g, 0, none⟩) (a + 1) cap) ps ∧ LA ((w.setCell ⟨g, x, none⟩ (.string other)).setCell ⟨g2, x2, none⟩ (.string other)) (.slice (some ⟨g2, 0, none⟩) (a2 + 1) cap2) qs ∧ Few ps ∧ Few qs ∧ Below B w ((w.setCell ⟨g, x, none⟩ (.string other)).setCell ⟨g2, x2, none⟩ (.string other))))
  (hk : w.cell? ⟨rb, ro + 3, none⟩ = some (.int .i64 k)) (hrn : 4 ≤ rn)
  (hpk : Calls Tryz.prog 16 #[.int .i64 k, .int .i64 7] w fun e w' => e = .returned (.int .i64 2) ∧ w' = w)
  (hp1 : Calls Tryz.prog 16 #[.int .i64 (wrap64 (k.tdiv 7)), .int .i64 ((a : Int) + 1)] w fun e w' => e = .returned (.int .i64 (x : Int)) ∧ w' = w)
  (hp2 : Calls Tryz.prog 16 #[.int .i64 (wrap64 (k.tdiv 7)), .int .i64 ((a2 : Int) + 1)] (w.setCell ⟨g, x, none⟩ (.string other)) fun e w' => e = .returned (.int .i64 (x2 : Int)) ∧ w' = w.setCell ⟨g, x, none⟩ (.string other)) :
    Calls Tryz.prog 21 #[.slice (some ⟨g, 0, none⟩) (a + 1) cap, .slice (some ⟨g2, 0, none⟩) (a2 + 1) cap2, .slice (some ⟨rb, ro, none⟩) rn rc, .string other, .int .i64 (i : Int), .int .i64 (n : Int), .int .i64 (m : Int)] w (BentAs B w) := by
  go_enter Tryz.func21, Tryz.ntmps21
  go_wp2_with fail
  refine hpk.mono ?_
  rintro e w' ⟨rfl, hw'⟩
  rw [hw']
  clear hw' hpk
  go_wp2_with fail
  refine hp1.mono ?_
  rintro e w' ⟨rfl, hw'⟩
  rw [hw']
  clear hw' hp1
  go_wp2_with fail
  generalize w.setCell ⟨g, x, none⟩ (.string other) = w1 at *
  refine hp2.mono ?_
  rintro e w' ⟨rfl, hw'⟩
  rw [hw']
  clear hw' hp2
  go_wp2_with fail
  refine bodyPost_ret (results_tmp5 rfl _ _ _) rfl ?_
  exact ⟨_, _, _, _, _, _, _, rfl, hp.out.1, hp.out.2.1, hp.out.2.2.1, hp.out.2.2.2.1, hp.out.2.2.2.2⟩
end Go.Proofs.YtlhohmlpcgbliabGreatDoor
namespace Go.Proofs.YtlhohmlpcgbliabGreatDoor
set_option maxRecDepth 100000
open Go.RowKit
attribute [local go_sem ↓] Go.wp_at_zero Go.wp_at_succ

set_option maxHeartbeats 1000000 in
theorem bent_put_none (other : ByteArray) (pp pp2 : Option Addr) (cc cc2 rb ro rn rc i n m B : Nat) (ps qs : List ByteArray) (k : Int) (w : World)
  (hp : Aside (LA w (.slice pp 0 cc) ps ∧ LA w (.slice pp2 0 cc2) qs ∧ Few ps ∧ Few qs)) (hk : w.cell? ⟨rb, ro + 3, none⟩ = some (.int .i64 k)) (hrn : 4 ≤ rn)
  (hpk : Calls Tryz.prog 16 #[.int .i64 k, .int .i64 7] w fun e w' => e = .returned (.int .i64 2) ∧ w' = w) :
    Calls Tryz.prog 21 #[.slice pp 0 cc, .slice pp2 0 cc2, .slice (some ⟨rb, ro, none⟩) rn rc, .string other, .int .i64 (i : Int), .int .i64 (n : Int), .int .i64 (m : Int)] w (BentAs B w) := by
  go_enter Tryz.func21, Tryz.ntmps21
  go_wp2_with fail
  refine hpk.mono ?_
  rintro e w' ⟨rfl, hw'⟩
  rw [hw']
  clear hw' hpk
  go_wp2_with fail
  refine bodyPost_ret (results_tmp5 rfl _ _ _) rfl ?_
  exact ⟨_, _, _, _, _, _, _, rfl, hp.out.1, hp.out.2.1, hp.out.2.2.1, hp.out.2.2.2, Below.refl _ _⟩

set_option maxHeartbeats 1000000 in
theorem bent_put_p (other : ByteArray) (pp2 : Option Addr) (g a cap cc2 x rb ro rn rc i n m B : Nat) (ps qs : List ByteArray) (k : Int) (w : World)
  (hx : x < a + 1) (u : Value) (hc : w.cell? ⟨g, x, none⟩ = some u) (hf : w.frozen? ⟨g, x, none⟩ = false)
  (hp : Aside (LA (w.setCell ⟨g, x, none⟩ (.string other)) (.slice (some ⟨g, 0, none⟩) (a + 1) cap) ps ∧ LA (w.setCell ⟨g, x, none⟩ (.string other)) (.slice pp2 0 cc2) qs ∧ Few ps ∧ Few qs ∧ Below B w (w.setCell ⟨g, x, none⟩ (.string other))))
  (hk : w.cell? ⟨rb, ro + 3, none⟩ = some (.int .i64 k)) (hrn : 4 ≤ rn)
  (hpk : Calls Tryz.prog 16 #[.int .i64 k, .int .i64 7] w fun e w' => e = .returned (.int .i64 2) ∧ w' = w)
  (hp1 : Calls Tryz.prog 16 #[.int .i64 (wrap64 (k.tdiv 7)), .int .i64 ((a : Int) + 1)] w fun e w' => e = .returned (.int .i64 (x : Int)) ∧ w' = w) :
    Calls Tryz.prog 21 #[.slice (some ⟨g, 0, none⟩) (a + 1) cap, .slice pp2 0 cc2, .slice (some ⟨rb, ro, none⟩) rn rc, .string other, .int .i64 (i : Int), .int .i64 (n : Int), .int .i64 (m : Int)] w (BentAs B w) := by
  go_enter Tryz.func21, Tryz.ntmps21
  go_wp2_with fail
  refine hpk.mono ?_
  rintro e w' ⟨rfl, hw'⟩
  rw [hw']
  clear hw' hpk
  go_wp2_with fail
  refine hp1.mono ?_
  rintro e w' ⟨rfl, hw'⟩
  rw [hw']
  clear hw' hp1
  go_wp2_with fail
  refine bodyPost_ret (results_tmp5 rfl _ _ _) rfl ?_
  exact ⟨_, _, _, _, _, _, _, rfl, hp.out.1, hp.out.2.1, hp.out.2.2.1, hp.out.2.2.2.1, hp.out.2.2.2.2⟩

set_option maxHeartbeats 1000000 in
theorem bent_put_q (other : ByteArray) (pp : Option Addr) (g a cap cc x rb ro rn rc i n m B : Nat) (ps qs : List ByteArray) (k : Int) (w : World)
  (hx : x < a + 1) (u : Value) (hc : w.cell? ⟨g, x, none⟩ = some u) (hf : w.frozen? ⟨g, x, none⟩ = false)
  (hp : Aside (LA (w.setCell ⟨g, x, none⟩ (.string other)) (.slice pp 0 cc) ps ∧ LA (w.setCell ⟨g, x, none⟩ (.string other)) (.slice (some ⟨g, 0, none⟩) (a + 1) cap) qs ∧ Few ps ∧ Few qs ∧ Below B w (w.setCell ⟨g, x, none⟩ (.string other))))
  (hk : w.cell? ⟨rb, ro + 3, none⟩ = some (.int .i64 k)) (hrn : 4 ≤ rn)
  (hpk : Calls Tryz.prog 16 #[.int .i64 k, .int .i64 7] w fun e w' => e = .returned (.int .i64 2) ∧ w' = w)
  (hp1 : Calls Tryz.prog 16 #[.int .i64 (wrap64 (k.tdiv 7)), .int .i64 ((a : Int) + 1)] w fun e w' => e = .returned (.int .i64 (x : Int)) ∧ w' = w) :
    Calls Tryz.prog 21 #[.slice pp 0 cc, .slice (some ⟨g, 0, none⟩) (a + 1) cap, .slice (some ⟨rb, ro, none⟩) rn rc, .string other, .int .i64 (i : Int), .int .i64 (n : Int), .int .i64 (m : Int)] w (BentAs B w) := by
  go_enter Tryz.func21, Tryz.ntmps21
  go_wp2_with fail
  refine hpk.mono ?_
  rintro e w' ⟨rfl, hw'⟩
  rw [hw']
  clear hw' hpk
  go_wp2_with fail
  refine hp1.mono ?_
  rintro e w' ⟨rfl, hw'⟩
  rw [hw']
  clear hw' hp1
  go_wp2_with fail
  refine bodyPost_ret (results_tmp5 rfl _ _ _) rfl ?_
  exact ⟨_, _, _, _, _, _, _, rfl, hp.out.1, hp.out.2.1, hp.out.2.2.1, hp.out.2.2.2.1, hp.out.2.2.2.2⟩
end Go.Proofs.YtlhohmlpcgbliabGreatDoor
namespace Go.Proofs.YtlhohmlpcgbliabGreatDoor
set_option maxRecDepth 100000
open Go.RowKit
attribute [local go_sem ↓] Go.wp_at_zero Go.wp_at_succ

theorem Few.app {ss : List ByteArray} {s : ByteArray} (h : ss.length ≤ 1000) (hz : ∀ x ∈ ss, x.size ≤ 1048576) (hs : s.size ≤ 1048576) : Few (ss ++ [s]) := by
  refine ⟨by simp; omega, fun x hx => ?_⟩
  rcases List.mem_append.1 hx with h | h
  · exact hz x h
  · rw [List.mem_singleton.1 h]; exact hs
theorem strv_app (ss : List ByteArray) (s : ByteArray) : strv ss ++ [.string s] = strv (ss ++ [s]) := by simp [strv]

set_option maxRecDepth 100000 in
set_option maxHeartbeats 1000000 in
theorem bent_app (p q : Value) (ps qs : List ByteArray) (other : ByteArray) (rb ro rn rc i n m B B2 : Nat) (k : Int) (w : World) (hB : B ≤ B2) (hB2 : B2 ≤ w.heap.size) (hp : Row w B 9 p (strv ps)) (hq : Row w B2 9 q (strv qs)) (hsep : ∀ g, p.ownBlock = some g → g < B2)
  (hl1 : ps.length ≤ 1000) (hl2 : qs.length ≤ 1000) (hz1 : ∀ x ∈ ps, x.size ≤ 1048576) (hz2 : ∀ x ∈ qs, x.size ≤ 1048576) (hos : other.size ≤ 1048576)
  (hk : w.cell? ⟨rb, ro + 3, none⟩ = some (.int .i64 k)) (hrn : 4 ≤ rn)
  (hpk : Calls Tryz.prog 16 #[.int .i64 k, .int .i64 7] w fun e w' => e = .returned (.int .i64 0) ∧ w' = w) :
    Calls Tryz.prog 21 #[p, q, .slice (some ⟨rb, ro, none⟩) rn rc, .string other, .int .i64 (i : Int), .int .i64 (n : Int), .int .i64 (m : Int)] w (BentAs B w) := by
  have HF : Aside (Few (ps ++ [other]) ∧ Few (qs ++ [other])) := ⟨Few.app hl1 hz1 hos, Few.app hl2 hz2 hos⟩
  have HX : Aside (strv ps ++ [.string other] = strv (ps ++ [other]) ∧ strv qs ++ [.string other] = strv (qs ++ [other])) := ⟨strv_app _ _, strv_app _ _⟩
  have hx1 : (strv ps).length ≤ 1000 := by rw [strv_length]; exact hl1
  have hx2 : (strv qs).length ≤ 1000 := by rw [strv_length]; exact hl2
  clear hz1 hz2 hl1 hl2
  generalize strv ps = zs at *
  generalize strv qs = ys at *
  have HP : Aside (Row w B 9 p zs ∧ Row w B2 9 q ys ∧ ∀ g, p.ownBlock = some g → g < B2) := ⟨hp, hq, hsep⟩
  clear hp hq hsep
  go_enter Tryz.func21, Tryz.ntmps21
  go_wp2_with fail
  refine hpk.mono ?_
  rintro e w' ⟨rfl, hw'⟩
  rw [hw']
  clear hw' hpk
  go_wp2_with (at_builtin; refine wpList_app2 elem_string rfl Tryz.underlying22 (by rfl) (.tmp 29) (.tmp 31) (by rfl) B _ zs (by rfl) (HP.out.1.alloc _) _ 1 1 [.string other] (by rfl) rfl (by decide) (Blk.new _ 9 _) ?h1 ?hl ?hb ?hbs (w0 := w) ((Below.refl _ _).alloc (show B ≤ w.heap.size by omega) _) (Nat.le_refl _) ?_)
  case h1 => intro u hu; simp at hu; subst hu; rfl
  case hl => omega
  case hb => omega
  case hbs => simp; omega
  intro g1 cap1 w1 hr1 hg1 hat1 hb1
  have hs1 := hb1.size
  have HQ : Aside (Row w1 B2 9 q ys ∧ q.ownBlock ≠ some g1) := by
    obtain ⟨hp, hq, hsep⟩ := HP.out
    refine ⟨World.ownsRow.kept (hq.alloc _) hg1 ?_, ?_⟩
    · cases hqb : q.ownBlock with
      | none => exact .inl rfl
      | some gq =>
        right
        intro e
        have h1 := hsep gq e.symm
        have h2 := (World.ownsRow.lt hq gq hqb).1
        omega
    · intro e
      have h2 := World.ownsRow.lt hq g1 e
      rcases hat1 with h | h
      · have h1 := hsep g1 h
        omega
      · omega
  have HR : Aside (Row w1 B 9 (.slice (some ⟨g1, 0, none⟩) (zs.length + 1) cap1) (zs ++ [.string other]) ∧ Below B w w1) := ⟨hr1, hb1⟩
  clear hr1 hb1 hg1 hat1 HP
  go_wp2_with (at_builtin; refine wpList_app2 elem_string rfl Tryz.underlying22 (by rfl) (.tmp 33) (.tmp 35) (by rfl) B2 _ ys (by rfl) (HQ.out.1.alloc _) _ 1 1 [.string other] (by rfl) rfl (by decide) (Blk.new _ 9 _) ?h1 ?hl ?hb ?hbs (w0 := w) (HR.out.2.alloc (show B ≤ w1.heap.size by omega) _) hB ?_)
  case h1 => intro u hu; simp at hu; subst hu; rfl
  case hl => omega
  case hb => omega
  case hbs => simp; omega
  intro g2 cap2 w2 hr2 hg2 hat2 hb2
  have HS : Aside (LA w2 (.slice (some ⟨g1, 0, none⟩) (zs.length + 1) cap1) (ps ++ [other]) ∧ LA w2 (.slice (some ⟨g2, 0, none⟩) (ys.length + 1) cap2) (qs ++ [other]) ∧ Below B w w2) := by
    refine ⟨LA.of_row (base := B) ?_, LA.of_row (base := B2) ?_, hb2⟩
    · rw [← HX.out.1]
      exact World.ownsRow.kept (HR.out.1.alloc _) hg2 (.inr (fun e => HQ.out.2 e.symm))
    · rw [← HX.out.2]
      exact hr2
  clear hr2 hg2 hat2 hb2 HR HQ HX
  go_wp2_with fail
  refine bodyPost_ret (results_tmp5 rfl _ _ _) rfl ?_
  exact ⟨_, _, _, _, _, _, _, rfl, HS.out.1, HS.out.2.1, HF.out.1, HF.out.2, HS.out.2.2⟩
end Go.Proofs.YtlhohmlpcgbliabGreatDoor
namespace Go.Proofs.YtlhohmlpcgbliabGreatDoor
set_option maxRecDepth 100000
open Go.RowKit

theorem Row.blk {w : World} {base : Nat} {e : TypeId} {v : Value} {xs : List Value} (h : Row w base e v xs) (h0 : 0 < xs.length) :
    ∃ g cap cs, v = .slice (some ⟨g, 0, none⟩) xs.length cap ∧ base ≤ g ∧ Blk w g e cs ∧ xs.length ≤ cap ∧ cs.take xs.length = xs ∧ cs.length = cap := by
  obtain ⟨h1, h2⟩ := h
  rcases h2 with ⟨_, h3⟩ | ⟨g, cap, cur, rfl, hb, hg, hn, hm, hs, ht⟩
  · omega
  · exact ⟨g, cap, cur.toList, rfl, hb, by unfold Blk; rw [Array.toArray_toList]; exact hg, hn, (by rw [Nat.mul_one] at ht; exact ht), by rw [Array.length_toList]; omega⟩

theorem LA.of_blk {w : World} {g cap : Nat} {cs : List Value} {ss : List ByteArray} (hB : Blk w g 9 cs) (hc : ss.length ≤ cap) (ht : cs.take ss.length = strv ss) : LA w (.slice (some ⟨g, 0, none⟩) ss.length cap) ss := by
  refine LA.of_block hc fun j s hj => ?_
  have hlt : j < ss.length := (List.getElem?_eq_some_iff.1 hj).1
  rw [hB.cell, ← List.getElem?_take_of_lt (l := cs) hlt, ht, strv, List.getElem?_map, hj]
  rfl

/-- A list of nothing reads so in every world. -/
theorem LA.empty {w : World} {v : Value} (h : LA w v []) (w' : World) : LA w' v [] := by
  obtain ⟨h1, p, c, h2, h3, _⟩ := h
  refine ⟨?_, ⟨p, c, h2, h3, fun j s hs => by simp at hs⟩⟩
  rcases h1 with h1 | ⟨a, c', h1, _⟩
  · exact .inl h1
  · exact .inr ⟨a, c', h1, fun j s hs => by simp at hs⟩

theorem strv_set (ss : List ByteArray) (x : Nat) (s : ByteArray) : strv (ss.set x s) = (strv ss).set x (.string s) := by simp [strv, List.map_set]

theorem Few.of {ss : List ByteArray} (h : ss.length ≤ 1000) (hz : ∀ x ∈ ss, x.size ≤ 1048576) : Few ss := ⟨by omega, hz⟩
theorem Few.set {ss : List ByteArray} {s : ByteArray} {x : Nat} (h : ss.length ≤ 1000) (hz : ∀ x ∈ ss, x.size ≤ 1048576) (hs : s.size ≤ 1048576) : Few (ss.set x s) := by
  refine ⟨by simp; omega, fun y hy => ?_⟩
  rcases List.mem_or_eq_of_mem_set hy with h | h
  · exact hz y h
  · rw [h]; exact hs
theorem Few.take {ss : List ByteArray} {x : Nat} (h : ss.length ≤ 1000) (hz : ∀ x ∈ ss, x.size ≤ 1048576) : Few (ss.take x) := ⟨by simp; omega, fun y hy => hz y (List.mem_of_mem_take hy)⟩

/-- A list of the law's own, ready for the cut. -/
theorem cut_of {w : World} {base : Nat} {p : Value} {ps : List ByteArray} (h : Row w base 9 p (strv ps)) (hl : ps.length ≤ 1000) : ∃ p', Cut p p' ∧ LA w p' (ps.take (ps.length - 1)) := by
  by_cases h0 : 0 < ps.length
  · obtain ⟨g, cap, cs, rfl, hb, hB, hc, ht, _⟩ := h.blk (by rw [strv_length]; exact h0)
    rw [strv_length] at hc ht ⊢
    obtain ⟨a, ha⟩ : ∃ a, ps.length = a + 1 := ⟨ps.length - 1, by omega⟩
    have hla : (ps.take a).length = a := by rw [List.length_take]; omega
    refine ⟨.slice (some ⟨g, 0, none⟩) a cap, .inr ⟨g, a, cap, by rw [ha], rfl, by omega, by omega⟩, ?_⟩
    rw [show ps.length - 1 = a by omega]
    have := LA.of_blk (cap := cap) (ss := ps.take a) hB (by omega) (by
      rw [hla, strv, List.map_take]
      have : cs.take a = (cs.take ps.length).take a := by rw [List.take_take, Nat.min_eq_left (by omega)]
      rw [this, ht, strv])
    rwa [hla] at this
  · have : ps = [] := List.eq_nil_of_length_eq_zero (by omega)
    subst this
    obtain ⟨pp, cc, rfl⟩ := h.shape
    exact ⟨_, .inl ⟨pp, cc, rfl, rfl⟩, LA.of_row h⟩

theorem bent_any (p q : Value) (ps qs : List ByteArray) (other : ByteArray) (rb ro rn rc i n m B B2 : Nat) (k : Int) (w : World) (hB : B ≤ B2) (hB2 : B2 ≤ w.heap.size) (hp : Row w B 9 p (strv ps)) (hq : Row w B2 9 q (strv qs)) (hsep : ∀ g, p.ownBlock = some g → g < B2)
  (hl1 : ps.length ≤ 1000) (hl2 : qs.length ≤ 1000) (hz1 : ∀ x ∈ ps, x.size ≤ 1048576) (hz2 : ∀ x ∈ qs, x.size ≤ 1048576) (hos : other.size ≤ 1048576)
  (hk : w.cell? ⟨rb, ro + 3, none⟩ = some (.int .i64 k)) (hrn : 4 ≤ rn) (hk1 : -9223372036854775808 ≤ k) (hk2 : k ≤ 9223372036854775807) (hi : i ≤ 1000) (hn : n ≤ 1000) (hm : m ≤ 1000) :
    Calls Tryz.prog 21 #[p, q, .slice (some ⟨rb, ro, none⟩) rn rc, .string other, .int .i64 (i : Int), .int .i64 (n : Int), .int .i64 (m : Int)] w (BentAs B w) := by
  have hr := pickV_lt k 7 (by omega)
  have hpk : ∀ wx, Calls Tryz.prog 16 #[.int .i64 k, .int .i64 7] wx fun e w' => e = .returned (.int .i64 (pickV k 7 : Nat)) ∧ w' = wx := fun wx => pick_any k 7 wx hk1 hk2 (by omega) (by omega)
  generalize pickV k 7 = r at *
  have f1 := Few.of hl1 hz1
  have f2 := Few.of hl2 hz2
  by_cases h3 : 3 ≤ r
  · exact bent_num p q ps qs other rb ro rn rc r i n m B k w ⟨LA.of_row hp, LA.of_row hq, f1, f2⟩ h3 hr hk hrn hi hn hm (hpk w)
  · have h : r = 0 ∨ r = 1 ∨ r = 2 := by omega
    rcases h with rfl | rfl | rfl
    · exact bent_app p q ps qs other rb ro rn rc i n m B B2 k w hB hB2 hp hq hsep hl1 hl2 hz1 hz2 hos hk hrn (hpk w)
    · obtain ⟨p', hc1, hA1⟩ := cut_of hp hl1
      obtain ⟨q', hc2, hA2⟩ := cut_of hq hl2
      exact bent_cut p q p' q' _ _ other rb ro rn rc i n m B k w hc1 hc2 ⟨hA1, hA2, Few.take hl1 hz1, Few.take hl2 hz2⟩ hk hrn (hpk w)
    · have hd := tdiv7 k hk1 hk2
      have hw7 : wrap64 (k.tdiv 7) = k.tdiv 7 := IntWalk.wrap64_in _ ⟨by omega, by omega⟩
      have hpx : ∀ (a : Nat) wx, a ≤ 1000 → Calls Tryz.prog 16 #[.int .i64 (wrap64 (k.tdiv 7)), .int .i64 ((a : Int) + 1)] wx fun e w' => e = .returned (.int .i64 (pickV (k.tdiv 7) (a + 1) : Nat)) ∧ w' = wx := fun a wx ha => by
        have := pick_any (k.tdiv 7) (a + 1) wx hd.1 hd.2 (by omega) (by omega)
        rw [hw7]
        exact this
      by_cases hp0 : 0 < ps.length
      · obtain ⟨g, cap, cs, rfl, hb, hBk, hc, ht, hcl⟩ := hp.blk (by rw [strv_length]; exact hp0)
        rw [strv_length] at hc ht hsep ⊢
        obtain ⟨a, ha⟩ : ∃ a, ps.length = a + 1 := ⟨ps.length - 1, by omega⟩
        have hx := pickV_lt (k.tdiv 7) (a + 1) (by omega)
        have hx1 := hpx a w (by omega)
        generalize pickV (k.tdiv 7) (a + 1) = x at *
        have hcx : w.cell? ⟨g, x, none⟩ = some cs[x] := by rw [hBk.cell]; exact List.getElem?_eq_getElem (by omega)
        have hS := hBk.set x (.string other)
        have hts : (cs.set x (.string other)).take (ps.set x other).length = strv (ps.set x other) := by rw [List.length_set, List.take_set, ht, strv_set]
        by_cases hq0 : 0 < qs.length
        · obtain ⟨g2, cap2, cs2, rfl, hb2, hBk2, hc2, ht2, hcl2⟩ := hq.blk (by rw [strv_length]; exact hq0)
          rw [strv_length] at hc2 ht2
          rw [strv_length qs]
          have hgg : g < B2 := hsep g rfl
          obtain ⟨a2, ha2⟩ : ∃ a2, qs.length = a2 + 1 := ⟨qs.length - 1, by omega⟩
          have hx2 := pickV_lt (k.tdiv 7) (a2 + 1) (by omega)
          have hx12 := hpx a2 (w.setCell ⟨g, x, none⟩ (.string other)) (by omega)
          generalize pickV (k.tdiv 7) (a2 + 1) = x2 at *
          have hBk2' := hBk2.set_other ⟨g, x, none⟩ (.string other) (show g2 ≠ g by omega)
          have hS2 := hBk2'.set x2 (.string other)
          have hS1 := hS.set_other ⟨g2, x2, none⟩ (.string other) (show g ≠ g2 by omega)
          have hts2 : (cs2.set x2 (.string other)).take (qs.set x2 other).length = strv (qs.set x2 other) := by rw [List.length_set, List.take_set, ht2, strv_set]
          have L1 := LA.of_blk (cap := cap) hS1 (by rw [List.length_set]; exact hc) hts
          have L2 := LA.of_blk (cap := cap2) hS2 (by rw [List.length_set]; exact hc2) hts2
          rw [List.length_set] at L1 L2
          rw [ha] at L1 ⊢
          rw [ha2] at L2 ⊢
          refine bent_put other g a cap g2 a2 cap2 x x2 rb ro rn rc i n m B _ _ k w hx hx2 _ cs2[x2] hcx (hBk.frozen _) (by rw [hBk2'.cell]; exact List.getElem?_eq_getElem (by omega)) (hBk2'.frozen _) ⟨L1, L2, Few.set hl1 hz1 hos, Few.set hl2 hz2 hos, ?_⟩ hk hrn (hpk w) hx1 hx12
          exact ((Below.refl B w).setCell hb _).setCell (show B ≤ g2 by omega) _
        · have : qs = [] := List.eq_nil_of_length_eq_zero (by omega)
          subst this
          obtain ⟨pp2, cc2, rfl⟩ := hq.shape
          have L1 := LA.of_blk (cap := cap) hS (by rw [List.length_set]; exact hc) hts
          rw [List.length_set] at L1
          rw [ha] at L1 ⊢
          refine bent_put_p other pp2 g a cap cc2 x rb ro rn rc i n m B _ [] k w hx _ hcx (hBk.frozen _) ⟨L1, ?_, Few.set hl1 hz1 hos, f2, (Below.refl B w).setCell hb _⟩ hk hrn (hpk w) hx1
          exact (LA.of_row hq).empty _
      · have : ps = [] := List.eq_nil_of_length_eq_zero (by omega)
        subst this
        obtain ⟨pp, cc, rfl⟩ := hp.shape
        by_cases hq0 : 0 < qs.length
        · obtain ⟨g2, cap2, cs2, rfl, hb2, hBk2, hc2, ht2, hcl2⟩ := hq.blk (by rw [strv_length]; exact hq0)
          rw [strv_length] at hc2 ht2
          rw [strv_length qs]
          obtain ⟨a2, ha2⟩ : ∃ a2, qs.length = a2 + 1 := ⟨qs.length - 1, by omega⟩
          have hx2 := pickV_lt (k.tdiv 7) (a2 + 1) (by omega)
          have hx12 := hpx a2 w (by omega)
          generalize pickV (k.tdiv 7) (a2 + 1) = x2 at *
          have hS2 := hBk2.set x2 (.string other)
          have hts2 : (cs2.set x2 (.string other)).take (qs.set x2 other).length = strv (qs.set x2 other) := by rw [List.length_set, List.take_set, ht2, strv_set]
          have L2 := LA.of_blk (cap := cap2) hS2 (by rw [List.length_set]; exact hc2) hts2
          rw [List.length_set] at L2
          rw [ha2] at L2 ⊢
          refine bent_put_q other pp g2 a2 cap2 cc x2 rb ro rn rc i n m B [] _ k w hx2 cs2[x2] (by rw [hBk2.cell]; exact List.getElem?_eq_getElem (by omega)) (hBk2.frozen _) ⟨?_, L2, f1, Few.set hl2 hz2 hos, (Below.refl B w).setCell (show B ≤ g2 by omega) _⟩ hk hrn (hpk w) hx12
          exact (LA.of_row hp).empty _
        · have : qs = [] := List.eq_nil_of_length_eq_zero (by omega)
          subst this
          obtain ⟨pp2, cc2, rfl⟩ := hq.shape
          exact bent_put_none other pp pp2 cc cc2 rb ro rn rc i n m B [] [] k w ⟨LA.of_row hp, LA.of_row hq, f1, f2⟩ hk hrn (hpk w)
end Go.Proofs.YtlhohmlpcgbliabGreatDoor
namespace Go.Proofs.YtlhohmlpcgbliabGreatDoor
set_option maxRecDepth 100000
open Go.RowKit
attribute [local go_sem ↓] Go.wp_at_zero Go.wp_at_succ

set_option maxRecDepth 100000 in
set_option maxHeartbeats 1000000 in
theorem paths_short (v : Value) (pr : Option Addr) (rn rc L : Nat) (other : ByteArray) (w : World) (hs : rn < 4 ∨ L = 0 ∨ 200 < L) (hL : L ≤ 1048576) (ho : other.size ≤ 1048576) (ht : Table w) (hg : 2 < w.heap.size)
  (hLv : Calls Tryz.prog 12 #[v] w fun e w' => ∃ p c, e = .returned (.slice p L c) ∧ Below w.heap.size w w') :
    Calls Tryz.prog 5 #[v, .slice pr rn rc, .string other] w fun e w' => e = .returned (.bool true) ∧ Below w.heap.size w w' := by
  have HT : Aside (Table w ∧ 2 < w.heap.size) := ⟨ht, hg⟩
  clear ht hg
  have h1 : rn < 4 ∨ (4 ≤ rn ∧ L = 0) ∨ (4 ≤ rn ∧ 200 < L) := by omega
  clear hs
  rcases h1 with h1 | ⟨h1, rfl⟩ | ⟨h1, h2⟩
  · go_enter Tryz.func5, Tryz.ntmps5
    go_wp2_with fail
    refine hLv.mono ?_
    rintro e w1 ⟨p, c, rfl, b1⟩
    clear hLv
    go_wp2_with fail
    refine (groveLeaf_any other w1 (by omega) (table_at b1 HT.out.2 HT.out.1) (Nat.lt_of_lt_of_le HT.out.2 b1.size)).mono ?_
    rintro e w2 ⟨rfl, b2⟩
    go_wp2_with fail
    refine (leafRef_any other w2 (by omega)).mono ?_
    rintro e w3 ⟨rfl, b3⟩
    go_wp2_with fail
    go_ret
    have b4 := b1.trans (b2.mono b1.size)
    exact ⟨by simp, b4.trans (b3.mono b4.size)⟩
  · go_enter Tryz.func5, Tryz.ntmps5
    go_wp2_with fail
    refine hLv.mono ?_
    rintro e w1 ⟨p, c, rfl, b1⟩
    clear hLv
    go_wp2_with fail
    refine (groveLeaf_any other w1 (by omega) (table_at b1 HT.out.2 HT.out.1) (Nat.lt_of_lt_of_le HT.out.2 b1.size)).mono ?_
    rintro e w2 ⟨rfl, b2⟩
    go_wp2_with fail
    refine (leafRef_any other w2 (by omega)).mono ?_
    rintro e w3 ⟨rfl, b3⟩
    go_wp2_with fail
    go_ret
    have b4 := b1.trans (b2.mono b1.size)
    exact ⟨by simp, b4.trans (b3.mono b4.size)⟩
  · have h3 : ((L : Int) == 0) = false := by simp; omega
    go_enter Tryz.func5, Tryz.ntmps5
    go_wp2_with fail
    refine hLv.mono ?_
    rintro e w1 ⟨p, c, rfl, b1⟩
    clear hLv
    go_wp2_with fail
    refine (groveLeaf_any other w1 (by omega) (table_at b1 HT.out.2 HT.out.1) (Nat.lt_of_lt_of_le HT.out.2 b1.size)).mono ?_
    rintro e w2 ⟨rfl, b2⟩
    go_wp2_with fail
    refine (leafRef_any other w2 (by omega)).mono ?_
    rintro e w3 ⟨rfl, b3⟩
    go_wp2_with fail
    go_ret
    have b4 := b1.trans (b2.mono b1.size)
    exact ⟨by simp, b4.trans (b3.mono b4.size)⟩
end Go.Proofs.YtlhohmlpcgbliabGreatDoor
namespace Go.Proofs.YtlhohmlpcgbliabGreatDoor
set_option maxRecDepth 100000
open Go.RowKit
attribute [local go_sem ↓] Go.wp_at_zero Go.wp_at_succ

set_option maxRecDepth 100000 in
set_option maxHeartbeats 1000000 in
theorem paths_long (v : Value) (rb ro rn rc : Nat) (c0 c1 c2 c3 : Int) (ls : List ByteArray) (other : ByteArray) (w : World) (hrn : 4 ≤ rn) (hL1 : 1 ≤ ls.length) (hL2 : ls.length ≤ 200) (hos : other.size ≤ 1048576) (hls : ∀ s ∈ ls, s.size ≤ 1048576)
  (hc0 : w.cell? ⟨rb, ro, none⟩ = some (.int .i64 c0)) (hc1 : w.cell? ⟨rb, ro + 1, none⟩ = some (.int .i64 c1)) (hc2 : w.cell? ⟨rb, ro + 2, none⟩ = some (.int .i64 c2)) (hc3 : w.cell? ⟨rb, ro + 3, none⟩ = some (.int .i64 c3))
  (hr : Aside (∀ c, c = c0 ∨ c = c1 ∨ c = c2 ∨ c = c3 → -9223372036854775808 ≤ c ∧ c ≤ 9223372036854775807))
  (ht : Table w) (hg : 2 < w.heap.size) (hT : TabAt 1 Lib.deBruijn64tab w)
  (hLv : Calls Tryz.prog 12 #[v] w fun e w' => ∃ v', e = .returned v' ∧ Row w' w.heap.size 9 v' (strv ls) ∧ Below w.heap.size w w') :
    Calls Tryz.prog 5 #[v, .slice (some ⟨rb, ro, none⟩) rn rc, .string other] w fun e w' => e = .returned (.bool true) ∧ Below w.heap.size w w' := by
  have HT : Aside (Table w ∧ 2 < w.heap.size ∧ TabAt 1 Lib.deBruijn64tab w) := ⟨ht, hg, hT⟩
  have HC : Aside (w.cell? ⟨rb, ro, none⟩ = some (.int .i64 c0) ∧ w.cell? ⟨rb, ro + 1, none⟩ = some (.int .i64 c1) ∧ w.cell? ⟨rb, ro + 2, none⟩ = some (.int .i64 c2) ∧ w.cell? ⟨rb, ro + 3, none⟩ = some (.int .i64 c3)) := ⟨hc0, hc1, hc2, hc3⟩
  have HL : Aside (∀ s ∈ ls, s.size ≤ 1048576) := hls
  clear ht hg hT hc0 hc1 hc2 hc3 hls
  have h3 : ((ls.length : Int) == 0) = false := by rw [beq_eq_false_iff_ne]; omega
  go_enter Tryz.func5, Tryz.ntmps5
  go_wp2_with fail
  refine hLv.mono ?_
  rintro e w1 ⟨v', rfl, hrow, b1⟩
  clear hLv
  obtain ⟨g, cap, rfl, hgb, hcap, _, _, hglt, _⟩ := hrow.form (by rw [strv_length]; exact hL1)
  rw [strv_length] at hcap hrow ⊢
  have HA : Aside (SA w1 g 0 ls ∧ Below w.heap.size w w1 ∧ w.heap.size ≤ g ∧ g < w1.heap.size) := ⟨SA.of_row hrow hL1, b1, hgb, hglt⟩
  have hd : ∀ {a : Addr} {x : Value}, w.cell? a = some x → w1.cell? a = some x := fun h => by rw [b1.cell (World.block_lt_of_cell? _ _ h)]; exact h
  have d0 := hd HC.out.1
  have d1 := hd HC.out.2.1
  have d2 := hd HC.out.2.2.1
  have d3 := hd HC.out.2.2.2
  clear hrow b1 hgb hglt hd
  go_wp2_with fail
  refine (pick_any c0 ls.length w1 (hr.out c0 (by simp)).1 (hr.out c0 (by simp)).2 hL1 (by omega)).mono ?_
  rintro e w' ⟨rfl, hw'⟩
  rw [hw']
  clear hw'
  have hx0 := pickV_lt c0 ls.length hL1
  generalize pickV c0 ls.length = x0 at *
  go_wp2_with fail
  generalize hN : (1 + (x0 : Int)) = nI at *
  obtain ⟨N, rfl⟩ : ∃ N : Nat, nI = (N : Int) := ⟨x0 + 1, by omega⟩
  have hN1 : 1 ≤ N := by omega
  have hN2 : N ≤ ls.length := by omega
  clear hN hx0
  refine (pick_any c1 N w1 (hr.out c1 (by simp)).1 (hr.out c1 (by simp)).2 hN1 (by omega)).mono ?_
  rintro e w' ⟨rfl, hw'⟩
  rw [hw']
  clear hw'
  have hx1 := pickV_lt c1 N hN1
  generalize pickV c1 N = x1 at *
  go_wp2_with fail
  refine (pick_any c2 N w1 (hr.out c2 (by simp)).1 (hr.out c2 (by simp)).2 hN1 (by omega)).mono ?_
  rintro e w' ⟨rfl, hw'⟩
  rw [hw']
  clear hw'
  have hx2 := pickV_lt c2 N hN1
  generalize pickV c2 N = x2 at *
  have hs1 := fun wx => slice_h wx g 0 ls.length cap N (by omega)
  go_wp2_with fail
  generalize hM : (1 + (x2 : Int)) = mI at *
  obtain ⟨M, rfl⟩ : ∃ M : Nat, mI = (M : Int) := ⟨x2 + 1, by omega⟩
  have hM1 : 1 ≤ M := by omega
  have hM2 : M ≤ N := by omega
  clear hM hx2
  have hlN : (ls.take N).length = N := by rw [List.length_take]; omega
  have hlM : (ls.take M).length = M := by rw [List.length_take]; omega
  have HN : Aside ((ls.take N).length = N ∧ (ls.take M).length = M) := ⟨hlN, hlM⟩
  clear hlN hlM
  have g1 := gives_root g 0 cap (ls.take N) w1 (by have := HN.out.1; omega) (by have := HN.out.1; omega) (HA.out.1.take _) (fun s hs => HL.out s (List.mem_of_mem_take hs)) w1 (Below.refl _ _)
  have g2 := gives_root g 0 cap (ls.take M) w1 (by have := HN.out.2; omega) (by have := HN.out.2; omega) (HA.out.1.take _) (fun s hs => HL.out s (List.mem_of_mem_take hs))
  rw [HN.out.1] at g1
  rw [HN.out.2] at g2
  have HR : Aside ((mth (ls.take N)).size ≤ 1048576 ∧ (mth (ls.take M)).size ≤ 1048576) := by
    have hm : ∀ q : List ByteArray, (∀ s ∈ q, s.size ≤ 1048576) → (mth q).size ≤ 1048576 := fun q hq => by
      have := mth_size (N := 1048577) (fun s hs => by have := hq s hs; omega) (by omega); omega
    exact ⟨hm _ (fun s hs => HL.out s (List.mem_of_mem_take hs)), hm _ (fun s hs => HL.out s (List.mem_of_mem_take hs))⟩
  have HE : Aside ((∀ leaf, ls[x1]? = some leaf → inclB leaf x1 N (incF N x1 (ls.take N)) (mth (ls.take N)) = true) ∧ extB M N (mth (ls.take M)) (mth (ls.take N)) (conF N M (ls.take N) true) = true) := by
    refine ⟨fun leaf hl => ?_, ?_⟩
    · have := incl_right (ls.take N) x1 leaf (by rw [List.getElem?_take_of_lt hx1]; exact hl) (by have := HN.out.1; omega)
      rwa [HN.out.1] at this
    · have := ext_right (ls.take N) M hM1 (by have := HN.out.1; omega) (by have := HN.out.1; omega)
      rwa [HN.out.1, List.take_take, Nat.min_eq_left hM2] at this
  generalize mth (ls.take N) = R0 at *
  generalize mth (ls.take M) = O0 at *
  refine g1.mono ?_
  rintro e w2 ⟨rfl, b2⟩
  clear g1
  have hs2 := fun wx => slice_h wx g 0 ls.length cap M (by omega)
  go_wp2_with fail
  refine (g2 w2 b2).mono ?_
  rintro e w3 ⟨rfl, b3⟩
  clear g2
  have HA3 : Aside (SA w3 g 0 ls ∧ Below w.heap.size w w3 ∧ g < w3.heap.size) := by
    obtain ⟨h1, h2, h3, h4⟩ := HA.out
    have b := b2.trans (b3.mono b2.size)
    exact ⟨h1.below b, h2.trans (b.mono h2.size), Nat.lt_of_lt_of_le h4 b.size⟩
  clear HA b2 b3
  have g3 : GivesRow w3 17 #[.int .i64 (x1 : Int), .slice (some ⟨g, 0, none⟩) N cap] (incF N x1 (ls.take N)) := by
    have := inclusion_any N x1 (ls.take N) g 0 cap w3 (by have := HN.out.1; omega) (by omega) (by have := HN.out.1; omega) (by have := HN.out.1; omega) (HA3.out.1.take _) (fun s hs => HL.out s (List.mem_of_mem_take hs))
    rwa [HN.out.1] at this
  go_wp2_with fail
  refine (show Calls _ _ _ _ _ from g3).mono ?_
  rintro e w4 ⟨vp, rfl, rowp, b4⟩
  clear g3
  have HA4 : Aside (SA w4 g 0 ls ∧ Below w.heap.size w w4) := ⟨HA3.out.1.below b4, HA3.out.2.1.trans (b4.mono HA3.out.2.1.size)⟩
  have g4 : GivesRow w4 18 #[.int .i64 (M : Int), .slice (some ⟨g, 0, none⟩) N cap, .bool true] (conF N M (ls.take N) true) := by
    have := consistency_any N M (ls.take N) true g 0 cap w4 (by have := HN.out.1; omega) (by omega) (by have := HN.out.1; omega) hM1 (by have := HN.out.1; omega) (HA4.out.1.take _) (fun s hs => HL.out s (List.mem_of_mem_take hs))
    rwa [HN.out.1] at this
  have HP : Aside (((incF N x1 (ls.take N)).length ≤ 1000 ∧ (∀ s ∈ incF N x1 (ls.take N), s.size ≤ 1048576)) ∧ (conF N M (ls.take N) true).length ≤ 1000 ∧ ∀ s ∈ conF N M (ls.take N) true, s.size ≤ 1048576) := by
    refine ⟨⟨Nat.le_trans (incF_length N _ _) (by omega), ?_⟩, Nat.le_trans (conF_length N _ _ _) (by omega), ?_⟩
    · exact incF_size N x1 (ls.take N) (fun s hs => HL.out s (List.mem_of_mem_take hs))
    · exact conF_size N M (ls.take N) true (fun s hs => HL.out s (List.mem_of_mem_take hs))
  generalize incF N x1 (ls.take N) = ps at *
  generalize conF N M (ls.take N) true = qs at *
  have HRp : Aside (Row w4 w3.heap.size 9 vp (strv ps) ∧ Below w3.heap.size w3 w4) := ⟨rowp, b4⟩
  clear rowp b4
  go_wp2_with fail
  refine (show Calls _ _ _ _ _ from g4).mono ?_
  rintro e w5 ⟨vq, rfl, rowq, b5⟩
  clear g4
  obtain ⟨leaf, hleaf⟩ : ∃ leaf, ls[x1]? = some leaf := ⟨_, List.getElem?_eq_getElem (by omega)⟩
  obtain ⟨l0, hl0⟩ : ∃ l0, ls[0]? = some l0 := ⟨_, List.getElem?_eq_getElem (by omega)⟩
  have HA5 : Aside (SA w5 g 0 ls ∧ Below w.heap.size w w5) := ⟨HA4.out.1.below b5, HA4.out.2.trans (b5.mono HA4.out.2.size)⟩
  have hcl : w5.cell? ⟨g, x1, none⟩ = some (.string leaf) := by have := HA5.out.1 x1 leaf hleaf; rwa [Nat.zero_add] at this
  have HRq : Aside (Row w5 w3.heap.size 9 vp (strv ps) ∧ Row w5 w4.heap.size 9 vq (strv qs) ∧ w3.heap.size ≤ w4.heap.size ∧ w4.heap.size ≤ w5.heap.size ∧ ∀ k, vp.ownBlock = some k → k < w4.heap.size) :=
    ⟨HRp.out.1.below b5 (Nat.le_refl _), rowq, HRp.out.2.size, b5.size, fun k hk => (World.ownsRow.lt HRp.out.1 k hk).2⟩
  have HF : Aside (leaf.size ≤ 1048576 ∧ l0.size ≤ 1048576 ∧ ls[0]? = some l0 ∧ inclB leaf x1 N ps R0 = true) := ⟨HL.out _ (List.mem_of_getElem? hleaf), HL.out _ (List.mem_of_getElem? hl0), hl0, HE.out.1 leaf hleaf⟩
  clear rowq b5 HA4 HRp hleaf hl0
  have g5 := incl_any leaf R0 x1 N vp ps w5 HF.out.1 (LA.of_row HRq.out.1).2 (Few.of HP.out.1.1 HP.out.1.2) (table_at HA5.out.2 HT.out.2.1 HT.out.1) (Nat.lt_of_lt_of_le HT.out.2.1 HA5.out.2.size)
  rw [HF.out.2.2.2] at g5
  go_wp2_with fail
  refine g5.mono ?_
  rintro e w6 ⟨rfl, b6⟩
  clear g5 hcl
  have HA6 : Aside (SA w6 g 0 ls ∧ Below w.heap.size w w6) := ⟨HA5.out.1.below b6, HA5.out.2.trans (b6.mono HA5.out.2.size)⟩
  have HR6 : Aside (Row w6 w3.heap.size 9 vp (strv ps) ∧ Row w6 w4.heap.size 9 vq (strv qs) ∧ w3.heap.size ≤ w4.heap.size ∧ w4.heap.size ≤ w6.heap.size ∧ ∀ k, vp.ownBlock = some k → k < w4.heap.size) :=
    ⟨HRq.out.1.below b6 (Nat.le_refl _), HRq.out.2.1.below b6 (Nat.le_refl _), HRq.out.2.2.1, Nat.le_trans HRq.out.2.2.2.1 b6.size, HRq.out.2.2.2.2⟩
  clear b6 HA5 HRq
  have g6 := ext_any O0 R0 M N vq qs w6 HR.out.2 (LA.of_row HR6.out.2.1).2 (Few.of HP.out.2.1 HP.out.2.2) (table_at HA6.out.2 HT.out.2.1 HT.out.1) (Nat.lt_of_lt_of_le HT.out.2.1 HA6.out.2.size) (tabAt_below HA6.out.2 HT.out.2.2)
  rw [HE.out.2] at g6
  go_wp2_with fail
  refine g6.mono ?_
  rintro e w7 ⟨rfl, b7⟩
  clear g6
  have HA7 : Aside (SA w7 g 0 ls ∧ Below w.heap.size w w7) := ⟨HA6.out.1.below b7, HA6.out.2.trans (b7.mono HA6.out.2.size)⟩
  have HR7 : Aside (Row w7 w3.heap.size 9 vp (strv ps) ∧ Row w7 w4.heap.size 9 vq (strv qs) ∧ w3.heap.size ≤ w4.heap.size ∧ w4.heap.size ≤ w7.heap.size ∧ ∀ k, vp.ownBlock = some k → k < w4.heap.size) :=
    ⟨HR6.out.1.below b7 (Nat.le_refl _), HR6.out.2.1.below b7 (Nat.le_refl _), HR6.out.2.2.1, Nat.le_trans HR6.out.2.2.2.1 b7.size, HR6.out.2.2.2.2⟩
  clear b7 HA6 HR6
  have g7 := bent_any vp vq ps qs other rb ro rn rc x1 N M w3.heap.size w4.heap.size c3 w7 HR7.out.2.2.1 HR7.out.2.2.2.1 HR7.out.1 HR7.out.2.1 HR7.out.2.2.2.2 HP.out.1.1 HP.out.2.1 HP.out.1.2 HP.out.2.2 hos
    (by rw [HA7.out.2.cell (World.block_lt_of_cell? _ _ HC.out.2.2.2)]; exact HC.out.2.2.2) hrn (hr.out c3 (by simp)).1 (hr.out c3 (by simp)).2 (by omega) (by omega) (by omega)
  go_wp2_with fail
  refine g7.mono ?_
  rintro e w8 ⟨vp', vq', i', n', m', ps', qs', rfl, la1, la2, f1, f2, b8⟩
  clear g7
  have HA8 : Aside (Below w.heap.size w w8 ∧ LA w8 vp' ps' ∧ LA w8 vq' qs' ∧ Few ps' ∧ Few qs' ∧ w8.cell? ⟨g, 0, none⟩ = some (.string l0)) := by
    refine ⟨HA7.out.2.trans (b8.mono HA3.out.2.1.size), la1, la2, f1, f2, ?_⟩
    rw [b8.cell (show g < w3.heap.size from HA3.out.2.2)]
    exact HA7.out.1 0 l0 HF.out.2.2.1
  clear la1 la2 f1 f2 b8 HA7 HR7 HA3 HE HP
  have hc8 := HA8.out.2.2.2.2.2
  have g8 := checks_any l0 R0 O0 i' n' m' vp' ps' w8 HF.out.2.1 HR.out.1 HR.out.2 HA8.out.2.1.1 HA8.out.2.1.2 HA8.out.2.2.2.1 (table_at HA8.out.1 HT.out.2.1 HT.out.1) (Nat.lt_of_lt_of_le HT.out.2.1 HA8.out.1.size) (tabAt_below HA8.out.1 HT.out.2.2)
  go_wp2_with fail
  refine g8.mono ?_
  rintro e w9 ⟨rfl, b9⟩
  clear g8
  have hc9 : w9.cell? ⟨g, 0, none⟩ = some (.string l0) := by rw [b9.cell (World.block_lt_of_cell? _ _ hc8)]; exact hc8
  have HA9 : Aside (Below w.heap.size w w9 ∧ LA w9 vp' ps' ∧ LA w9 vq' qs' ∧ Few ps' ∧ Few qs') := ⟨HA8.out.1.trans (b9.mono HA8.out.1.size), HA8.out.2.1.below b9, HA8.out.2.2.1.below b9, HA8.out.2.2.2.1, HA8.out.2.2.2.2.1⟩
  clear b9 HA8 hc8
  have g9 := checks_any l0 R0 O0 i' n' m' vq' qs' w9 HF.out.2.1 HR.out.1 HR.out.2 HA9.out.2.2.1.1 HA9.out.2.2.1.2 HA9.out.2.2.2.2 (table_at HA9.out.1 HT.out.2.1 HT.out.1) (Nat.lt_of_lt_of_le HT.out.2.1 HA9.out.1.size) (tabAt_below HA9.out.1 HT.out.2.2)
  go_wp2_with fail
  refine g9.mono ?_
  rintro e w10 ⟨rfl, b10⟩
  clear g9 hc9
  have HA10 : Aside (Below w.heap.size w w10 ∧ LA w10 vp' ps' ∧ Few ps') := ⟨HA9.out.1.trans (b10.mono HA9.out.1.size), HA9.out.2.1.below b10, HA9.out.2.2.2.1⟩
  clear b10 HA9
  have g10 := checks_any other R0 R0 i' n' m' vp' ps' w10 hos HR.out.1 HR.out.1 HA10.out.2.1.1 HA10.out.2.1.2 HA10.out.2.2 (table_at HA10.out.1 HT.out.2.1 HT.out.1) (Nat.lt_of_lt_of_le HT.out.2.1 HA10.out.1.size) (tabAt_below HA10.out.1 HT.out.2.2)
  go_wp2_with fail
  refine g10.mono ?_
  rintro e w11 ⟨rfl, b11⟩
  clear g10
  go_wp2_with fail
  go_ret
  exact ⟨rfl, HA10.out.1.trans (b11.mono HA10.out.1.size)⟩
end Go.Proofs.YtlhohmlpcgbliabGreatDoor
namespace Go.Proofs.YtlhohmlpcgbliabGreatDoor
set_option maxRecDepth 100000
open Go.RowKit

/-- What the list of raw numbers is: so many, in cells. -/
def RawI (w : World) (v : Value) : Prop := ∃ p rn rc, v = .slice p rn rc ∧ ∀ i, i < rn → ∃ b o c, p = some ⟨b, o, none⟩ ∧ w.cell? ⟨b, o + i, none⟩ = some (.int .i64 c) ∧ -9223372036854775808 ≤ c ∧ c ≤ 9223372036854775807

theorem paths_any (v raw : Value) (ss : List ByteArray) (other : ByteArray) (w : World) (hS : Strs w v ss) (hn : ss.length ≤ 1048576) (hz : ∀ s ∈ ss, s.size ≤ 1048576) (hR : RawI w raw) (ho : other.size ≤ 1048576)
  (ht : Table w) (hg : 2 < w.heap.size) (hT : TabAt 1 Lib.deBruijn64tab w) :
    Calls Tryz.prog 5 #[v, raw, .string other] w fun e w' => e = .returned (.bool true) ∧ Below w.heap.size w w' := by
  have hLv := leaves_any v ss w hS (by omega) (fun s hs => by have := hz s hs; omega)
  have hll : (ss.map leafS).length = ss.length := List.length_map ..
  obtain ⟨p, rn, rc, rfl, hcell⟩ := hR
  by_cases h : rn < 4 ∨ ss.length = 0 ∨ 200 < ss.length
  · refine paths_short v p rn rc ss.length other w h hn ho ht hg (hLv.mono ?_)
    rintro e w' ⟨v', rfl, hrow, hb⟩
    obtain ⟨q, c, rfl⟩ := hrow.shape
    exact ⟨q, c, by rw [strv_length, hll], hb⟩
  · have h4 : 4 ≤ rn := by omega
    obtain ⟨b, o, c0, rfl, d0, l0, u0⟩ := hcell 0 (by omega)
    obtain ⟨b1, o1, c1, e1, d1, l1, u1⟩ := hcell 1 (by omega)
    obtain ⟨b2, o2, c2, e2, d2, l2, u2⟩ := hcell 2 (by omega)
    obtain ⟨b3, o3, c3, e3, d3, l3, u3⟩ := hcell 3 (by omega)
    cases e1; cases e2; cases e3
    refine paths_long v b o rn rc c0 c1 c2 c3 (ss.map leafS) other w h4 (by omega) (by omega) ho ?_ d0 d1 d2 d3 ?_ ht hg hT hLv
    · intro s hs
      obtain ⟨t, _, rfl⟩ := List.mem_map.1 hs
      rw [leafS_size]; omega
    · rintro c (rfl | rfl | rfl | rfl)
      · exact ⟨l0, u0⟩
      · exact ⟨l1, u1⟩
      · exact ⟨l2, u2⟩
      · exact ⟨l3, u3⟩
end Go.Proofs.YtlhohmlpcgbliabGreatDoor
namespace Go.Proofs.YtlhohmlpcgbliabGreatDoor
set_option maxRecDepth 100000
open Go.ChangeShapes Go.WideShapes Go.ChangeAt Go.RowKit

theorem spot_none {w : World} {a : Addr} {v : Value} (h0 : w.cell? (a.add 0) = some v) : a.spot = none := by
  obtain ⟨b, o, sp⟩ := a
  simp only [Addr.add, if_true, World.cell?] at h0
  split at h0
  · cases sp with
    | none => rfl
    | some x => simp at h0
  · cases h0

/-- An argument that is a list of numbers. -/
theorem arg_ints {H : Type} {enc : TypeId × Value → H} {W : World} {base : Nat} {v : Value} {d : DataW H} {p : List MemPlace} (hv : Value.okWide Tryz.prog W .any base 23 v)
    (h : DataW.Trod enc Tryz.prog W 0 (fun _ => true) true 23 v d p) : RawI W v := by
  obtain ⟨a, len, cap, rfl⟩ := okWide_slice Tryz.underlying23 hv
  obtain ⟨fuel, hf⟩ := h
  rcases Deep.open_slice1 Tryz.underlying23 (by kernel_rfl) hf with ⟨hc, hx⟩ | ⟨a', len', cap', m, n, V, D, Pl, hc, _, hl, _, hm, hx, hcell⟩
  · simp only [Value.cells, List.cons.injEq, and_true] at hc
    exact ⟨_, _, _, hc, fun i hi => by omega⟩
  · simp only [Value.cells, List.cons.injEq, and_true] at hc
    have hlm : len' ≤ m := by rw [hm]; split <;> omega
    refine ⟨_, _, _, hc, fun i hi => ?_⟩
    obtain ⟨h1, h2⟩ := hcell i (by omega)
    obtain ⟨z, hz, _, hwf⟩ := DataW.trod_int Tryz.underlying3 h2
    have hV : V i = .int .i64 z := by simpa using hz
    have hs := spot_none (hcell 0 (by omega)).1
    obtain ⟨b, o, sp⟩ := a'
    obtain rfl : sp = none := hs
    rw [Addr.add_mid, hV] at h1
    simp only [Lit.wf, Bool.and_eq_true, decide_eq_true_eq] at hwf
    exact ⟨b, o, z, rfl, h1, hwf.1, hwf.2⟩
end Go.Proofs.YtlhohmlpcgbliabGreatDoor
namespace Go.Proofs.YtlhohmlpcgbliabGreatDoor
set_option maxRecDepth 100000
open Go.RowKit
attribute [local go_sem ↓] Go.wp_at_zero Go.wp_at_succ

/-- A list that reads as its mark. -/
def MK (w : World) (v : Value) (mk : ByteArray) : Prop := ∃ p n c, v = .slice p n c ∧ n ≤ 1000000000000 ∧ ∀ i, i < n → ∃ b o, p = some ⟨b, o, none⟩ ∧ w.cell? ⟨b, o + i, none⟩ = some (.string mk)

set_option maxHeartbeats 1000000 in
theorem marked_any (v : Value) (mk : ByteArray) (w : World) (h : MK w v mk) : Calls Tryz.prog 49 #[v, .string mk] w fun e w' => e = .returned (.bool true) ∧ w' = w := by
  obtain ⟨p, n, c, rfl, hn, hC⟩ := h
  have HC : Hid (∀ i, i < n → ∃ b o, p = some ⟨b, o, none⟩ ∧ w.cell? ⟨b, o + i, none⟩ = some (.string mk)) := hC
  clear hC
  go_enter Tryz.func49, Tryz.ntmps49
  try go_wp2
  go_loopw [5] (fun v wr => ∃ k : Nat, k ≤ n ∧ v = .int .i64 (k : Int) ∧ wr = w) (fun v _ => n - (intOf v).toNat)
  case atStart => exact ⟨0, by omega, rfl, rfl⟩
  case round =>
    obtain ⟨k, hk, rfl, rfl⟩ := hrel
    by_cases h8 : k < n
    · obtain ⟨b, o, rfl, hcell⟩ := HC.out k h8
      go_wp2
      go_roundw
      case rel => exact ⟨k + 1, by omega, by go_num, trivial⟩
      case measure => simp [intOf]; omega
    · have hk8 : k = n := by omega
      subst hk8
      go_wp2
      go_ret
      exact ⟨rfl, rfl⟩

set_option maxHeartbeats 400000 in
theorem sameR6_wp {c2 c3 c4 c6 c7 c8 c9 c10 c11 c12 c13 c14 c15 c16 c17 c18 c19 c20 c21 c22 c23 c24 c25 : Value} (b o dx b2 o2 dy n k : Nat) (s : ByteArray) (w : World) (Q : Exit → Act → World → Prop) (hk : k < n) (h1 : w.cell? ⟨b, o + k, none⟩ = some (.string s)) (h2 : w.cell? ⟨b2, o2 + k, none⟩ = some (.string s))
    (hQ : ∀ (u17 u18 u19 u20 u21 u22 u23 u24 : Value) (d : Nat), Q .normal ⟨#[.slice (some ⟨b, o, none⟩) n dx, .slice (some ⟨b2, o2, none⟩) n dy, c2, c3, c4, .int .i64 (k : Int), c6, c7, c8, c9, c10, c11, c12, c13, c14, c15, c16, u17, u18, u19, u20, u21, u22, u23, u24, .bool false], []⟩ (w.drewN d)) :
    Code.wp Tryz.prog (rgn Tryz.f44 6) Q ⟨#[.slice (some ⟨b, o, none⟩) n dx, .slice (some ⟨b2, o2, none⟩) n dy, c2, c3, c4, .int .i64 (k : Int), c6, c7, c8, c9, c10, c11, c12, c13, c14, c15, c16, c17, c18, c19, c20, c21, c22, c23, c24, c25], []⟩ w := by
  conv => arg 2; whnf
  refine wp_region_quiet_lit (by kernel_rfl) (by kernel_rfl) (WQ.out ?_)
  refine WQ.yes (v := .slice (some ⟨b, o, none⟩) n dx) (by kernel_rfl) (some 17) (by rfl) (fun wx hx => by kernel_rfl) ?_
  simp only [Act.put, List.setIfInBounds_toArray, List.set_cons_succ, List.set_cons_zero]
  refine WQ.yes (v := .int .i64 (k : Int)) (by kernel_rfl) (some 18) (by rfl) (fun wx hx => by kernel_rfl) ?_
  simp only [Act.put, List.setIfInBounds_toArray, List.set_cons_succ, List.set_cons_zero]
  refine WQ.yes (v := .pointer (some ⟨b, o + k, none⟩)) (by kernel_rfl) (some 19) (by rfl) (fun wx hx => exec_ia (by rfl) (by rfl) (by rfl) (index_row wx b o n dx k hk)) ?_
  simp only [Act.put, List.setIfInBounds_toArray, List.set_cons_succ, List.set_cons_zero]
  refine WQ.yes (v := .string s) (by kernel_rfl) (some 20) (by rfl) (fun wx hx => exec_load (by rfl) (by rfl) (load_str wx _ _ _ (cell_drew hx h1))) ?_
  simp only [Act.put, List.setIfInBounds_toArray, List.set_cons_succ, List.set_cons_zero]
  refine WQ.yes (v := .slice (some ⟨b2, o2, none⟩) n dy) (by kernel_rfl) (some 21) (by rfl) (fun wx hx => by kernel_rfl) ?_
  simp only [Act.put, List.setIfInBounds_toArray, List.set_cons_succ, List.set_cons_zero]
  refine WQ.yes (v := .int .i64 (k : Int)) (by kernel_rfl) (some 22) (by rfl) (fun wx hx => by kernel_rfl) ?_
  simp only [Act.put, List.setIfInBounds_toArray, List.set_cons_succ, List.set_cons_zero]
  refine WQ.yes (v := .pointer (some ⟨b2, o2 + k, none⟩)) (by kernel_rfl) (some 23) (by rfl) (fun wx hx => exec_ia (by rfl) (by rfl) (by rfl) (index_row wx b2 o2 n dy k hk)) ?_
  simp only [Act.put, List.setIfInBounds_toArray, List.set_cons_succ, List.set_cons_zero]
  refine WQ.yes (v := .string s) (by kernel_rfl) (some 24) (by rfl) (fun wx hx => exec_load (by rfl) (by rfl) (load_str wx _ _ _ (cell_drew hx h2))) ?_
  simp only [Act.put, List.setIfInBounds_toArray, List.set_cons_succ, List.set_cons_zero]
  refine WQ.yes (v := .bool false) (by kernel_rfl) (some 25) (by rfl) (fun wx hx => exec_bin (by rfl) (by rfl) (by rfl) (by kernel_rfl) (neq_self wx s)) ?_
  simp only [Act.put, List.setIfInBounds_toArray, List.set_cons_succ, List.set_cons_zero]
  refine WQ.nil ?_
  rintro _ ⟨d, rfl⟩
  exact hQ _ _ _ _ _ _ _ _ _

set_option maxHeartbeats 1000000 in
theorem same_any (va vb : Value) (ss : List ByteArray) (w : World) (hn : ss.length ≤ 1000000000000) (ha : Strs w va ss) (hb : Strs w vb ss) : Calls Tryz.prog 44 #[va, vb] w fun e w' => e = .returned (.bool true) ∧ Below w.heap.size w w' := by
  obtain ⟨p, c, rfl, h1⟩ := ha
  obtain ⟨p2, c2, rfl, h2⟩ := hb
  have HC : Hid ((∀ (i : Nat) s, ss[i]? = some s → ∃ g off, p = some ⟨g, off, none⟩ ∧ w.cell? ⟨g, off + i, none⟩ = some (.string s)) ∧ (∀ (i : Nat) s, ss[i]? = some s → ∃ g off, p2 = some ⟨g, off, none⟩ ∧ w.cell? ⟨g, off + i, none⟩ = some (.string s))) := ⟨h1, h2⟩
  clear h1 h2
  go_enter Tryz.func44, Tryz.ntmps44
  try go_wp2
  go_loopw [5] (fun v wr => ∃ k : Nat, k ≤ ss.length ∧ v = .int .i64 (k : Int) ∧ Below w.heap.size w wr) (fun v _ => ss.length - (intOf v).toNat)
  case atStart => exact ⟨0, by omega, rfl, Below.refl _ _⟩
  case round =>
    obtain ⟨k, hk, rfl, hbw⟩ := hrel
    by_cases h8 : k < ss.length
    · obtain ⟨s, hs⟩ : ∃ s, ss[k]? = some s := ⟨_, List.getElem?_eq_getElem h8⟩
      obtain ⟨g, off, rfl, hc1⟩ := HC.out.1 k s hs
      obtain ⟨g2, off2, rfl, hc2⟩ := HC.out.2 k s hs
      have hd1 : wr.cell? ⟨g, off + k, none⟩ = some (.string s) := by rw [hbw.cell (World.block_lt_of_cell? _ _ hc1)]; exact hc1
      have hd2 : wr.cell? ⟨g2, off2 + k, none⟩ = some (.string s) := by rw [hbw.cell (World.block_lt_of_cell? _ _ hc2)]; exact hc2
      clear hs hc1 hc2
      go_wp2_with fail
      refine sameR6_wp g off c g2 off2 c2 ss.length k s wr _ h8 hd1 hd2 ?_
      intro u17 u18 u19 u20 u21 u22 u23 u24 d
      go_wp2
      go_roundw
      case rel => exact ⟨k + 1, by omega, by go_num, Below.drewN' hbw d⟩
      case measure => simp [intOf]; omega
    · have hk8 : k = ss.length := by omega
      subst hk8
      go_wp2
      go_ret
      exact ⟨rfl, hbw⟩
end Go.Proofs.YtlhohmlpcgbliabGreatDoor
namespace Go.Proofs.YtlhohmlpcgbliabGreatDoor
set_option maxRecDepth 100000
open Go.RowKit

/-- A sector's bytes. -/
structure Sec (s : List Nat) : Prop where
  len : s.length = 128
  byt : ∀ x ∈ s, x < 256
/-- A disk: its sectors as they last, what was written since, the acts, the script. -/
structure Dk where
  las : List (List Nat)
  fre : List (Nat × List Nat)
  acts : Int
  set : Bool
  left : Int
  keep : Int
  failed : Bool
structure Dk.ok (D : Dk) : Prop where
  las : D.las.length = 200
  sec : ∀ s ∈ D.las, Sec s
  fre : ∀ x ∈ D.fre, x.1 < 200 ∧ Sec x.2
  few : D.fre.length ≤ 1000000
/-- Does the i-th write last? -/
def kept (keep : Int) (i : Nat) : Bool := decide (i < 63) && (bits .and .i64 (keep / 2 ^ i) 1 == 1)
def failL (keep : Int) : Nat → List (Nat × List Nat) → List (List Nat) → List (List Nat)
  | _, [], l => l
  | i, x :: r, l => failL keep (i + 1) r (if kept keep i then l.set x.1 x.2 else l)
def putL (f : List (Nat × List Nat)) (l : List (List Nat)) : List (List Nat) := f.foldl (fun l x => l.set x.1 x.2) l
def Dk.fail (D : Dk) : Dk := { D with las := failL D.keep 0 D.fre D.las, fre := [], failed := true }
def Dk.trips (D : Dk) : Bool := D.set && (D.left == 0 && !D.failed)
def Dk.trip (D : Dk) : Dk := if D.trips then D.fail else D
def Dk.tick (D : Dk) : Dk := { D with left := wrap64 (D.left - 1), acts := wrap64 (D.acts + 1) }
/-- The disk behind one act's start. -/
def Dk.act (D : Dk) : Dk := if D.trip.failed then D.trip else D.trip.tick
def Dk.goes (D : Dk) : Bool := !D.trip.failed
def Dk.write (D : Dk) (at' : Nat) (s : List Nat) : Dk := if D.goes then { D.act with fre := D.act.fre ++ [(at', s)] } else D.act
def Dk.flush (D : Dk) : Dk := if D.goes then { D.act with las := putL D.act.fre D.act.las, fre := [] } else D.act
def Dk.read (D : Dk) (at' : Nat) : List Nat := ((D.fre.find? fun x => x.1 == at').map (·.2)).getD (D.las.getD at' [])

theorem failL_length (keep : Int) (f : List (Nat × List Nat)) : ∀ (i : Nat) (l : List (List Nat)), (failL keep i f l).length = l.length := by
  induction f with
  | nil => intro i l; rfl
  | cons x r ih => intro i l; rw [failL, ih]; split <;> simp
theorem failL_sec (keep : Int) (f : List (Nat × List Nat)) : ∀ (i : Nat) (l : List (List Nat)), (∀ s ∈ l, Sec s) → (∀ x ∈ f, Sec x.2) → ∀ s ∈ failL keep i f l, Sec s := by
  induction f with
  | nil => intro i l h _; exact h
  | cons x r ih =>
    intro i l h hf
    rw [failL]
    refine ih _ _ ?_ (fun y hy => hf y (List.mem_cons_of_mem _ hy))
    intro s hs
    split at hs
    · rcases List.mem_or_eq_of_mem_set hs with h1 | rfl
      · exact h s h1
      · exact hf x (List.mem_cons_self ..)
    · exact h s hs
theorem putL_length (f : List (Nat × List Nat)) : ∀ (l : List (List Nat)), (putL f l).length = l.length := by
  induction f with
  | nil => intro l; rfl
  | cons x r ih => intro l; rw [putL, List.foldl_cons]; exact (ih _).trans (by simp)
theorem putL_sec (f : List (Nat × List Nat)) : ∀ (l : List (List Nat)), (∀ s ∈ l, Sec s) → (∀ x ∈ f, Sec x.2) → ∀ s ∈ putL f l, Sec s := by
  induction f with
  | nil => intro l h _; exact h
  | cons x r ih =>
    intro l h hf
    rw [putL, List.foldl_cons]
    refine ih _ ?_ (fun y hy => hf y (List.mem_cons_of_mem _ hy))
    intro s hs
    rcases List.mem_or_eq_of_mem_set hs with h1 | rfl
    · exact h s h1
    · exact hf x (List.mem_cons_self ..)
theorem Dk.ok.fail {D : Dk} (h : D.ok) : D.fail.ok :=
  ⟨by simp [Dk.fail, failL_length, h.las], failL_sec _ _ _ _ h.sec (fun x hx => (h.fre x hx).2), fun x hx => by simp [Dk.fail] at hx, by simp [Dk.fail]⟩
theorem Dk.ok.trip {D : Dk} (h : D.ok) : D.trip.ok := by
  unfold Dk.trip; split
  · exact h.fail
  · exact h
theorem Dk.ok.tick {D : Dk} (h : D.ok) : D.tick.ok := ⟨h.las, h.sec, h.fre, h.few⟩
theorem Dk.ok.act {D : Dk} (h : D.ok) : D.act.ok := by
  unfold Dk.act; split
  · exact h.trip
  · exact h.trip.tick
theorem Dk.ok.flush {D : Dk} (h : D.ok) : D.flush.ok := by
  unfold Dk.flush; split
  · exact ⟨by simp [putL_length, h.act.las], putL_sec _ _ h.act.sec (fun x hx => (h.act.fre x hx).2), fun x hx => by simp at hx, by simp⟩
  · exact h.act
theorem Dk.ok.write {D : Dk} (h : D.ok) {i : Nat} {s : List Nat} (hi : i < 200) (hs : Sec s) (hf : D.fre.length < 1000000) : (D.write i s).ok := by
  have hl : D.act.fre.length ≤ D.fre.length := by
    unfold Dk.act Dk.trip Dk.tick Dk.fail
    split <;> split <;> simp
  unfold Dk.write; split
  · refine ⟨h.act.las, h.act.sec, fun x hx => ?_, by simp; omega⟩
    rcases List.mem_append.1 hx with h1 | h1
    · exact h.act.fre x h1
    · rw [List.mem_singleton] at h1; subst h1; exact ⟨hi, hs⟩
  · exact h.act
theorem Dk.ok.read {D : Dk} (h : D.ok) {i : Nat} (hi : i < 200) : Sec (D.read i) := by
  unfold Dk.read
  cases hq : D.fre.find? fun x => x.1 == i with
  | none =>
    have h1 := h.las
    simp only [Option.map_none, Option.getD_none]
    rw [List.getD_eq_getElem?_getD, List.getElem?_eq_getElem (by omega)]
    exact h.sec _ (List.getElem_mem _)
  | some x => exact (h.fre x (List.mem_of_find?_eq_some hq)).2

/-- Lists of one length, side by side. -/
theorem flat_length {l : List (List Nat)} (h : ∀ s ∈ l, s.length = 128) : l.flatten.length = l.length * 128 := by
  induction l with
  | nil => rfl
  | cons s r ih =>
    rw [List.flatten_cons, List.length_append, ih (fun x hx => h x (List.mem_cons_of_mem _ hx)), h s (List.mem_cons_self ..), List.length_cons]; omega
theorem flat_part {l : List (List Nat)} (h : ∀ s ∈ l, s.length = 128) : ∀ i, i < l.length → (l.flatten.drop (i * 128)).take 128 = l.getD i [] := by
  induction l with
  | nil => intro i hi; simp at hi
  | cons s r ih =>
    intro i hi
    have hs := h s (List.mem_cons_self ..)
    cases i with
    | zero => simp [← hs]
    | succ i =>
      rw [List.flatten_cons, List.drop_append, List.drop_eq_nil_of_le (by omega), List.nil_append, hs, show (i + 1) * 128 - 128 = i * 128 by omega, List.getD_cons_succ]
      exact ih (fun x hx => h x (List.mem_cons_of_mem _ hx)) i (by simpa using hi)
theorem flat_set {l : List (List Nat)} (h : ∀ s ∈ l, s.length = 128) (c : List Nat) : ∀ i, i < l.length → l.flatten.take (i * 128) ++ (c ++ l.flatten.drop (i * 128 + 128)) = (l.set i c).flatten := by
  induction l with
  | nil => intro i hi; simp at hi
  | cons s r ih =>
    intro i hi
    have hs := h s (List.mem_cons_self ..)
    cases i with
    | zero =>
      rw [List.flatten_cons, List.set_cons_zero, List.flatten_cons, List.drop_append, List.drop_eq_nil_of_le (by omega)]
      simp [hs]
    | succ i =>
      rw [List.set_cons_succ, List.flatten_cons, List.flatten_cons, ← ih (fun x hx => h x (List.mem_cons_of_mem _ hx)) i (by simpa using hi), List.take_append, List.drop_append, List.take_of_length_le (by omega), List.drop_eq_nil_of_le (by omega), hs,
        show (i + 1) * 128 - 128 = i * 128 by omega, show (i + 1) * 128 + 128 - 128 = i * 128 + 128 by omega]
      simp

/-- The cells of a disk. -/
def Dk.cells (D : Dk) (fv : Value) : List Value := u8s D.las.flatten ++ [fv, .int .i64 D.acts, .bool D.set, .int .i64 D.left, .int .i64 D.keep, .bool D.failed]
theorem Dk.ok.flat {D : Dk} (h : D.ok) : D.las.flatten.length = 25600 := by
  rw [flat_length (fun s hs => (h.sec s hs).len), h.las]
theorem Dk.ok.cells_len {D : Dk} (h : D.ok) (fv : Value) : (D.cells fv).length = 25606 := by
  simp only [Dk.cells, List.length_append, u8s_length, h.flat]; rfl
theorem Dk.ok.tail {D : Dk} (h : D.ok) (fv : Value) (k : Nat) : (D.cells fv)[25600 + k]? = [fv, .int .i64 D.acts, .bool D.set, .int .i64 D.left, .int .i64 D.keep, .bool D.failed][k]? := by
  unfold Dk.cells
  rw [List.getElem?_append_right (by simp [h.flat]), u8s_length, h.flat, Nat.add_sub_cancel_left]
theorem Dk.ok.setTail {D : Dk} (h : D.ok) (fv : Value) (k : Nat) (v : Value) : (D.cells fv).set (25600 + k) v = u8s D.las.flatten ++ ([fv, .int .i64 D.acts, .bool D.set, .int .i64 D.left, .int .i64 D.keep, .bool D.failed] : List Value).set k v := by
  unfold Dk.cells
  rw [List.set_append_right _ _ (by simp [h.flat]), u8s_length, h.flat, Nat.add_sub_cancel_left]
theorem Dk.ok.part {D : Dk} (h : D.ok) (fv : Value) (i : Nat) (hi : i < 200) : ((D.cells fv).drop (i * 128)).take 128 = u8s (D.las.getD i []) := by
  rw [← flat_part (fun s hs => (h.sec s hs).len) i (by rw [h.las]; exact hi)]
  unfold Dk.cells
  rw [List.drop_append_of_le_length (by simp [h.flat]; omega), List.take_append_of_le_length (by simp [h.flat]; omega)]
  simp [u8s, List.map_take, List.map_drop]
theorem Dk.ok.setSec {D : Dk} (h : D.ok) (fv : Value) (i : Nat) (hi : i < 200) (c : List Nat) (hc : c.length = 128) : setL (D.cells fv) (i * 128) (u8s c) = ({ D with las := D.las.set i c } : Dk).cells fv := by
  rw [setL_eq _ _ _ (by rw [h.cells_len, u8s_length, hc]; omega)]
  unfold Dk.cells
  simp only
  rw [← flat_set (fun s hs => (h.sec s hs).len) c i (by rw [h.las]; exact hi), List.take_append_of_le_length (by simp [h.flat]; omega), List.drop_append_of_le_length (by simp [h.flat, hc]; omega), u8s_length, hc]
  simp [u8s, List.map_take, List.map_drop]

/-- Writes, cell by cell. -/
def flatW (f : List (Nat × List Nat)) : List Value := f.flatMap fun x => .int .i64 (x.1 : Int) :: u8s x.2
theorem flatW_part (f : List (Nat × List Nat)) (h : ∀ x ∈ f, x.2.length = 128) : ∀ i x, f[i]? = some x → ((flatW f).drop (i * 129)).take 129 = .int .i64 (x.1 : Int) :: u8s x.2 := by
  induction f with
  | nil => intro i x hi; simp at hi
  | cons y r ih =>
    intro i x hi
    have hy := h y (List.mem_cons_self ..)
    have hl : (Value.int .i64 (y.1 : Int) :: u8s y.2).length = 129 := by simp [hy]
    rw [flatW, List.flatMap_cons]
    cases i with
    | zero =>
      simp only [List.getElem?_cons_zero, Option.some.injEq] at hi
      subst hi
      rw [Nat.zero_mul, List.drop_zero, List.take_append_of_le_length (by omega), List.take_of_length_le (by omega)]
    | succ i =>
      rw [List.drop_append, List.drop_eq_nil_of_le (by omega), List.nil_append, hl, show (i + 1) * 129 - 129 = i * 129 by omega]
      exact ih (fun z hz => h z (List.mem_cons_of_mem _ hz)) i x (by simpa using hi)

theorem ownsRow_below' {w w' : World} {base : Nat} {e : TypeId} {size : Nat} {v : Value} {n : Nat} {xs : List Value} (h : w.ownsRow base e size v n xs) (hb : Below w.heap.size w w') : w'.ownsRow base e size v n xs := by
  obtain ⟨h1, h2⟩ := h
  refine ⟨h1, ?_⟩
  rcases h2 with h0 | ⟨g, cap, cur, hv, hbg, hg, r⟩
  · exact Or.inl h0
  · have : g < w.heap.size := (Array.getElem?_eq_some_iff.1 hg).1
    exact Or.inr ⟨g, cap, cur, hv, hbg, by rw [hb.block g (by omega)]; exact hg, r⟩

/-- The disk D lies at b; the writes that do not last yet lie where fv says. -/
structure DiskAt (w : World) (b : Nat) (fv : Value) (D : Dk) : Prop where
  ok : D.ok
  blk : Blk w b 95 (D.cells fv)
  row : w.ownsRow 0 141 129 fv D.fre.length (flatW D.fre)
  apart : fv.ownBlock ≠ some b

/-- All but the disk's own blocks are as they were. -/
structure Fr (b : Nat) (g g' : Option Nat) (w w' : World) : Prop where
  os : w'.os = w.os
  tape : w'.tape = w.tape
  output : w'.output = w.output
  size : w.heap.size ≤ w'.heap.size
  block : ∀ k, k < w.heap.size → k ≠ b → g ≠ some k → w'.heap[k]? = w.heap[k]?
  own : g' = none ∨ g' = g ∨ ∃ k, g' = some k ∧ w.heap.size ≤ k
theorem Fr.refl (b : Nat) (g : Option Nat) (w : World) : Fr b g g w w := ⟨rfl, rfl, rfl, Nat.le_refl _, fun _ _ _ _ => rfl, .inr (.inl rfl)⟩
theorem Fr.trans {b : Nat} {g g1 g2 : Option Nat} {w w1 w2 : World} (h : Fr b g g1 w w1) (k : Fr b g1 g2 w1 w2) : Fr b g g2 w w2 := by
  refine ⟨k.os.trans h.os, k.tape.trans h.tape, k.output.trans h.output, Nat.le_trans h.size k.size, fun i hi hb hg => ?_, ?_⟩
  · refine (k.block i (Nat.lt_of_lt_of_le hi h.size) hb ?_).trans (h.block i hi hb hg)
    rcases h.own with e | e | ⟨j, e, hj⟩
    · rw [e]; simp
    · rw [e]; exact hg
    · rw [e]; simp; omega
  · rcases k.own with e | e | ⟨j, e, hj⟩
    · exact .inl e
    · rw [e]; exact h.own
    · exact .inr (.inr ⟨j, e, Nat.le_trans h.size hj⟩)
theorem Fr.of_below {b : Nat} {g : Option Nat} {w w' : World} (h : Below w.heap.size w w') : Fr b g g w w' := ⟨h.os, h.tape, h.output, h.size, fun k hk _ _ => h.block k hk, .inr (.inl rfl)⟩
theorem Fr.to_below {b : Nat} {g g' : Option Nat} {w w' : World} {B : Nat} (h : Fr b g g' w w') (hB : B ≤ w.heap.size) (hb : B ≤ b) (hg : ∀ k, g = some k → B ≤ k) : Below B w w' :=
  ⟨h.os, h.tape, h.output, h.size, fun k hk => h.block k (by omega) (by omega) (fun e => by have := hg k e; omega)⟩
theorem Fr.blk {b : Nat} {g g' : Option Nat} {w w' : World} (h : Fr b g g' w w') {c : Nat} {t : TypeId} {cs : List Value} (hc : Blk w c t cs) (hb : c ≠ b) (hg : g ≠ some c) : Blk w' c t cs := by
  have := hc.lt
  unfold Blk at *
  rw [h.block c this hb hg]; exact hc
theorem Fr.apart {b : Nat} {g g' : Option Nat} {w w' : World} (h : Fr b g g' w w') {c : Nat} (hc : c < w.heap.size) (hg : g ≠ some c) : g' ≠ some c := by
  rcases h.own with e | e | ⟨j, e, hj⟩
  · rw [e]; simp
  · rw [e]; exact hg
  · rw [e]; simp; omega
theorem DiskAt.lt {w : World} {b : Nat} {fv : Value} {D : Dk} (h : DiskAt w b fv D) : b < w.heap.size := h.blk.lt
theorem DiskAt.below {w w' : World} {b : Nat} {fv : Value} {D : Dk} (h : DiskAt w b fv D) (hb : Below w.heap.size w w') : DiskAt w' b fv D :=
  ⟨h.ok, h.blk.below hb h.lt, ownsRow_below' h.row hb, h.apart⟩
theorem DiskAt.drewN {w : World} {b : Nat} {fv : Value} {D : Dk} (h : DiskAt w b fv D) (n : Nat) : DiskAt (w.drewN n) b fv D := ⟨h.ok, h.blk, h.row, h.apart⟩
theorem DiskAt.alloc {w : World} {b : Nat} {fv : Value} {D : Dk} (h : DiskAt w b fv D) (o : Obj) : DiskAt (w.alloc o) b fv D := h.below ((Below.refl _ _).alloc (Nat.le_refl _) o)
theorem DiskAt.cell {w : World} {b : Nat} {fv : Value} {D : Dk} (h : DiskAt w b fv D) (k : Nat) : w.cell? ⟨b, 25600 + k, none⟩ = [fv, .int .i64 D.acts, .bool D.set, .int .i64 D.left, .int .i64 D.keep, .bool D.failed][k]? := by
  rw [h.blk.cell, h.ok.tail]
/-- The disk's own cell is written. -/
theorem DiskAt.put {w : World} {b : Nat} {fv : Value} {D : Dk} (h : DiskAt w b fv D) (k : Nat) (v fv' : Value) (D' : Dk) (hok : D'.ok) (hl : D'.las = D.las) (hf : fv' = fv) (hfr : D'.fre = D.fre) (hk : ([fv, .int .i64 D.acts, .bool D.set, .int .i64 D.left, .int .i64 D.keep, .bool D.failed] : List Value).set k v = [fv', .int .i64 D'.acts, .bool D'.set, .int .i64 D'.left, .int .i64 D'.keep, .bool D'.failed]) :
    DiskAt (w.setCell ⟨b, 25600 + k, none⟩ v) b fv' D' := by
  subst hf
  refine ⟨hok, (h.blk.set (25600 + k) v).eq ?_, ?_, h.apart⟩
  · rw [h.ok.setTail, hk, Dk.cells, hl]
  · rw [hfr]; exact ownsRow_setCell_other h.row h.apart v
/-- What does not last yet is let go. -/
theorem DiskAt.empty {w : World} {b : Nat} {fv : Value} {D : Dk} (h : DiskAt w b fv D) : DiskAt (w.setCell ⟨b, 25600, none⟩ (.slice none 0 0)) b (.slice none 0 0) { D with fre := [] } := by
  refine ⟨⟨h.ok.las, h.ok.sec, fun x hx => by simp at hx, by simp⟩, (h.blk.set (25600 + 0) _).eq ?_, World.ownsRow_nil _ _ _ _, by simp [Value.ownBlock]⟩
  rw [h.ok.setTail]; rfl
theorem Fr.setCell (b : Nat) (g g' : Option Nat) (w : World) (o : Nat) (v : Value) (hg : g' = none ∨ g' = g) : Fr b g g' w (w.setCell ⟨b, o, none⟩ v) :=
  ⟨rfl, rfl, rfl, by simp [World.setCell], fun k _ hk _ => Below.heap_setCell _ _ _ _ hk, hg.elim .inl (fun h => .inr (.inl h))⟩
theorem Fr.setCells (b : Nat) (g : Option Nat) (vs : List Value) : ∀ (w : World) (o : Nat), Fr b g g w (w.setCells b o vs) := by
  induction vs with
  | nil => intro w o; exact Fr.refl _ _ _
  | cons v r ih => intro w o; exact (Fr.setCell b g g w o v (.inr rfl)).trans (ih _ _)
theorem ownsRow_setCells_other {base : Nat} {e : TypeId} {size : Nat} {v : Value} {n : Nat} {xs : List Value} {b : Nat} (hb : v.ownBlock ≠ some b) (vs : List Value) : ∀ (w : World) (o : Nat), w.ownsRow base e size v n xs → (w.setCells b o vs).ownsRow base e size v n xs := by
  induction vs with
  | nil => intro w o h; exact h
  | cons u r ih => intro w o h; exact ih _ _ (ownsRow_setCell_other h hb u)
/-- A sector lasts now. -/
theorem DiskAt.putSec {w : World} {b : Nat} {fv : Value} {D : Dk} (h : DiskAt w b fv D) (i : Nat) (hi : i < 200) (c : List Nat) (hc : Sec c) : DiskAt (w.setCells b (i * 128) (u8s c)) b fv { D with las := D.las.set i c } := by
  refine ⟨⟨by simp [h.ok.las], ?_, h.ok.fre, h.ok.few⟩, (h.blk.setCells (i * 128) (u8s c)).eq (h.ok.setSec fv i hi c hc.len), ownsRow_setCells_other h.apart _ _ _ h.row, h.apart⟩
  intro s hs
  rcases List.mem_or_eq_of_mem_set hs with h1 | rfl
  · exact h.ok.sec s h1
  · exact hc
end Go.Proofs.YtlhohmlpcgbliabGreatDoor
namespace Go.Proofs.YtlhohmlpcgbliabGreatDoor
set_option maxRecDepth 100000
open Go.RowKit
attribute [local go_sem ↓] Go.wp_at_zero Go.wp_at_succ

theorem infoSec : (Tryz.prog.info? 89).map (·.size) = some 128 := by kernel_rfl
theorem infoWr : (Tryz.prog.info? 141).map (·.size) = some 129 := by kernel_rfl
theorem zeroSec : Tryz.zeroCells89 = (u8s (List.replicate 128 0)).toArray := by kernel_rfl
theorem Blk.part {w : World} {b : Nat} {t : TypeId} {cs : List Value} (h : Blk w b t cs) (o n : Nat) : w.rangeAt b o ((cs.drop o).take n) := fun j v hv => by
  rw [h.cell]
  rw [List.getElem?_take] at hv
  split at hv
  · rw [List.getElem?_drop] at hv; exact hv
  · cases hv
theorem Blk.newA (w : World) (t : TypeId) (cs : Array Value) : Blk (w.alloc (.cells cs t)) w.heap.size t cs.toList := Blk.new w t cs.toList
theorem DiskAt.sec {w : World} {b : Nat} {fv : Value} {D : Dk} (h : DiskAt w b fv D) (i : Nat) (hi : i < 200) : w.rangeAt b (i * 128) (u8s (D.las.getD i [])) := by
  rw [← h.ok.part fv i hi]; exact h.blk.part _ _
/-- Where the writes lie. -/
theorem DiskAt.fresh {w : World} {b : Nat} {fv : Value} {D : Dk} (h : DiskAt w b fv D) (h0 : 0 < D.fre.length) : ∃ g cap, fv = .slice (some ⟨g, 0, none⟩) D.fre.length cap ∧ g < w.heap.size ∧ g ≠ b ∧ ∀ i x, D.fre[i]? = some x → w.rangeAt g (i * 129) (.int .i64 (x.1 : Int) :: u8s x.2) := by
  obtain ⟨h1, h2⟩ := h.row
  rcases h2 with ⟨_, hn⟩ | ⟨g, cap, cur, rfl, hb, hg, hn, hm, hs, ht⟩
  · omega
  · refine ⟨g, cap, rfl, (Array.getElem?_eq_some_iff.1 hg).1, fun e => h.apart (by rw [e]; rfl), fun i x hx => ?_⟩
    have hl := h1
    rw [← flatW_part D.fre (fun x hx => (h.ok.fre x hx).2.len) i x hx]
    intro j v hv
    have hv' : (flatW D.fre)[i * 129 + j]? = some v := by
      rw [List.getElem?_take] at hv
      split at hv
      · rw [List.getElem?_drop] at hv; exact hv
      · cases hv
    rw [← ht, List.getElem?_take] at hv'
    split at hv'
    · simp only [World.cell?, hg]
      simpa using hv'
    · cases hv'
theorem DiskAt.fv {w : World} {b : Nat} {fv : Value} {D : Dk} (h : DiskAt w b fv D) : ∃ p cap, fv = .slice p D.fre.length cap := by
  obtain ⟨h1, h2⟩ := h.row
  rcases h2 with ⟨rfl, hn⟩ | ⟨g, cap, cur, rfl, hb, hg, hn, hm, hs, ht⟩
  · exact ⟨none, 0, by rw [hn]⟩
  · exact ⟨_, cap, rfl⟩

section
variable {ops : Array Oper} {rest : List Oper} {op : Oper} {a : Act} {w : World} {Q : Exit → Act → World → Prop}
theorem ldSec (hgd : op.guard = none) (x : Operand) (ho : op.op = .load 89 x) (b o : Nat) (hx : a.eval x = .pointer (some ⟨b, o, none⟩)) (s : List Nat) (hr : w.rangeAt b o (u8s s)) (hs : s.length = 128)
    (h : wpList Tryz.prog ops Q rest (a.put op.dst (.agg (u8s s).toArray)) w) : wpList Tryz.prog ops Q (op :: rest) a w :=
  wpList_load_mid hgd 89 x ho b o hx (u8s s) _ hr Tryz.underlying89 rfl (by rw [u8s_length, hs]; exact infoSec) h
theorem stSec (hgd : op.guard = none) (x y : Operand) (ho : op.op = .store 89 x y) (b o : Nat) (s : List Nat) (hx : a.eval x = .pointer (some ⟨b, o, none⟩)) (hy : a.eval y = .agg (u8s s).toArray) (ht : w.there b o 128) (hs : s.length = 128)
    (h : wpList Tryz.prog ops Q rest (a.put op.dst undef) (w.setCells b o (u8s s))) : wpList Tryz.prog ops Q (op :: rest) a w :=
  wpList_store_mid hgd 89 x y ho b o (u8s s).toArray hx hy (by rw [List.size_toArray, u8s_length, hs]; exact ht) (by rw [List.size_toArray, u8s_length, hs]; exact infoSec) (all_oneCell_toArray (u8s_one _)) h
theorem ldWr (hgd : op.guard = none) (x : Operand) (ho : op.op = .load 141 x) (b o : Nat) (hx : a.eval x = .pointer (some ⟨b, o, none⟩)) (n : Nat) (s : List Nat) (hr : w.rangeAt b o (.int .i64 (n : Int) :: u8s s)) (hs : s.length = 128)
    (h : wpList Tryz.prog ops Q rest (a.put op.dst (.agg (Value.int .i64 (n : Int) :: u8s s).toArray)) w) : wpList Tryz.prog ops Q (op :: rest) a w :=
  wpList_load_mid hgd 141 x ho b o hx (.int .i64 (n : Int) :: u8s s) _ hr Tryz.underlying141 rfl (by rw [List.length_cons, u8s_length, hs]; exact infoWr) h
theorem stWr (hgd : op.guard = none) (x y : Operand) (ho : op.op = .store 141 x y) (b o : Nat) (n : Nat) (s : List Nat) (hx : a.eval x = .pointer (some ⟨b, o, none⟩)) (hy : a.eval y = .agg (Value.int .i64 (n : Int) :: u8s s).toArray) (ht : w.there b o 129) (hs : s.length = 128)
    (h : wpList Tryz.prog ops Q rest (a.put op.dst undef) (w.setCells b o (.int .i64 (n : Int) :: u8s s))) : wpList Tryz.prog ops Q (op :: rest) a w :=
  wpList_store_mid hgd 141 x y ho b o (Value.int .i64 (n : Int) :: u8s s).toArray hx hy (by rw [List.size_toArray, List.length_cons, u8s_length, hs]; exact ht) (by rw [List.size_toArray, List.length_cons, u8s_length, hs]; exact infoWr)
    (all_oneCell_toArray (by intro v hv; rcases List.mem_cons.1 hv with rfl | h1; · rfl
                             · exact u8s_one _ v h1)) h
end
/-- A block of its own that was filled whole. -/
theorem Blk.fill {w : World} {b : Nat} {t : TypeId} {cs : List Value} (h : Blk w b t cs) (vs : List Value) (hl : vs.length = cs.length) : Blk (w.setCells b 0 vs) b t vs :=
  (h.setCells 0 vs).eq (by rw [setL_eq _ _ _ (by omega), List.take_zero, List.nil_append, List.drop_eq_nil_of_le (by omega), List.append_nil])

theorem find_none {f : List (Nat × List Nat)} {i k : Nat} (h : ∀ j x, j < k → f[j]? = some x → x.1 ≠ i) (hk : k = f.length) : (f.find? fun x => x.1 == i) = none := by
  rw [List.find?_eq_none]
  intro x hx
  obtain ⟨j, hj⟩ := List.mem_iff_getElem?.1 hx
  simp only [beq_iff_eq]
  exact h j x (by rw [hk]; exact (List.getElem?_eq_some_iff.1 hj).1) hj
theorem find_some {f : List (Nat × List Nat)} {i k : Nat} {x : Nat × List Nat} (h : ∀ j x, j < k → f[j]? = some x → x.1 ≠ i) (hk : f[k]? = some x) (hx : x.1 = i) : (f.find? fun x => x.1 == i) = some x := by
  rw [List.find?_eq_some_iff_getElem]
  have hlt := (List.getElem?_eq_some_iff.1 hk).1
  refine ⟨by simpa using hx, k, hlt, (List.getElem?_eq_some_iff.1 hk).2, fun j hj => ?_⟩
  simpa using h j _ hj (List.getElem?_eq_getElem (by omega))

set_option maxHeartbeats 1000000 in
theorem read_any (b : Nat) (fv : Value) (D : Dk) (i : Nat) (w : World) (h : DiskAt w b fv D) (hi : i < 200) :
    Calls Tryz.prog 113 #[.pointer (some ⟨b, 0, none⟩), .int .i64 (i : Int)] w fun e w' => e = .returned (.agg (u8s (D.read i)).toArray) ∧ Below w.heap.size w w' := by
  have hlt := h.lt
  obtain ⟨p, cap, hfv⟩ := h.fv
  have c0 := h.cell 0
  simp only [List.getElem?_cons_zero, Nat.add_zero] at c0
  rw [hfv] at c0
  have HD : Hid (DiskAt w b fv D) := h
  have HF : Hid (fv = .slice p D.fre.length cap) := hfv
  clear h hfv
  have hb0 : Below w.heap.size w (w.alloc (.cells Tryz.zeroCells89 89)) := (Below.refl _ _).alloc (Nat.le_refl _) _
  have hB0 := Blk.newA w 89 Tryz.zeroCells89
  have c0' : (w.alloc (.cells Tryz.zeroCells89 89)).cell? ⟨b, 25600, none⟩ = some (.slice p D.fre.length cap) := by rw [hb0.cell hlt]; exact c0
  go_enter Tryz.func113, Tryz.ntmps113
  go_wp2_with fail
  go_loopw [12] (fun v wr => ∃ k : Nat, k ≤ D.fre.length ∧ v = .int .i64 (k : Int) ∧ Below w.heap.size w wr ∧ Blk wr w.heap.size 89 Tryz.zeroCells89.toList ∧ (∀ j x, j < k → D.fre[j]? = some x → x.1 ≠ i)) (fun v _ => D.fre.length - (intOf v).toNat)
  case atStart => exact ⟨0, by omega, rfl, hb0, hB0, fun j x hj _ => by omega⟩
  case round =>
    obtain ⟨k, hk, rfl, hb, hB, hno⟩ := hrel
    clear hb0 hB0 c0' c0
    have HN : Hid (∀ j x, j < k → D.fre[j]? = some x → x.1 ≠ i) := hno
    clear hno
    have hzl : Tryz.zeroCells89.toList.length = 128 := by rw [zeroSec]; simp
    by_cases h8 : k < D.fre.length
    · obtain ⟨x, hx⟩ : ∃ x, D.fre[k]? = some x := ⟨_, List.getElem?_eq_getElem h8⟩
      obtain ⟨g, cap', e, hg, hgb, hr⟩ := HD.out.fresh (by omega)
      rw [HF.out] at e
      injection e with e1 e2 e3
      subst e1 e3
      have hxs := HD.out.ok.fre x (List.mem_of_getElem? hx)
      have hr0 : wr.rangeAt g (k * 129) (.int .i64 (x.1 : Int) :: u8s x.2) := fun j v hv => by
        have := hr k x hx j v hv
        rw [hb.cell hg]; exact this
      have hx2 := hxs.2.len
      have HX : Hid (D.fre[k]? = some x) := hx
      clear hx hr
      have hltB := hB.lt
      have hfew := HD.out.ok.few
      obtain ⟨n, s⟩ := x
      simp only at hxs hr0 hx2
      have hB2 : Blk (wr.alloc (.cells Tryz.zeroCells141 141)) wr.heap.size 141 Tryz.zeroCells141.toList := Blk.newA wr _ _
      have hzw : Tryz.zeroCells141.toList.length = 129 := by rw [Array.length_toList]; exact Tryz.zeroCells141_size
      have hth := hB2.there 0 129 (by omega)
      have hB3 := hB2.fill (.int .i64 (n : Int) :: u8s s) (by simp [hx2, hzw])
      have hBz := (hB.alloc (.cells Tryz.zeroCells141 141)).setCells_other wr.heap.size 0 (.int .i64 (n : Int) :: u8s s) (by omega)
      have hbb : Below w.heap.size w ((wr.alloc (.cells Tryz.zeroCells141 141)).setCells wr.heap.size 0 (.int .i64 (n : Int) :: u8s s)) := Below.setCells (hb.alloc hb.size _) _ _ hb.size _
      clear hB hB2 hzw
      have c1 : ((wr.alloc (.cells Tryz.zeroCells141 141)).setCells wr.heap.size 0 (.int .i64 (n : Int) :: u8s s)).cell? ⟨wr.heap.size, 0, none⟩ = some (.int .i64 (n : Int)) := by rw [hB3.cell]; rfl
      have hrs : ((wr.alloc (.cells Tryz.zeroCells141 141)).setCells wr.heap.size 0 (.int .i64 (n : Int) :: u8s s)).rangeAt wr.heap.size 1 (u8s s) := fun j v hv => by rw [hB3.cell, Nat.add_comm, List.getElem?_cons_succ]; exact hv
      by_cases hq : n = i
      · subst hq
        have hth2 := hBz.there 0 128 (by omega)
        have hB4 := hBz.fill (u8s s) (by simp [hx2, hzl])
        have hb4 := Below.setCells hbb w.heap.size 0 (Nat.le_refl _) (u8s s)
        have HR : D.read n = s := by
          unfold Dk.read
          rw [find_some HN.out HX.out rfl]; rfl
        go_wp2_with (first | refine ldWr (by rfl) (.tmp 14) (by rfl) g (k * 129) (by rfl) n s hr0 hx2 ?_ | refine stWr (by rfl) (.tmp 6) (.tmp 15) (by rfl) wr.heap.size 0 n s (by rfl) (by rfl) hth hx2 ?_ | refine ldSec (by rfl) (.tmp 20) (by rfl) wr.heap.size 1 (by rfl) s hrs hx2 ?_ | refine stSec (by rfl) (.tmp 4) (.tmp 21) (by rfl) w.heap.size 0 s (by rfl) (by rfl) hth2 hx2 ?_)
        refine bodyPost_ret (results_cell Tryz.results113 (by rfl) hB4.range Tryz.underlying89 rfl (by rw [u8s_length, hx2]; exact infoSec)) rfl ⟨rfl, hb4⟩
      · have hq' : ¬ ((n : Int) = (i : Int)) := by omega
        go_wp2_with (first | refine ldWr (by rfl) (.tmp 14) (by rfl) g (k * 129) (by rfl) n s hr0 hx2 ?_ | refine stWr (by rfl) (.tmp 6) (.tmp 15) (by rfl) wr.heap.size 0 n s (by rfl) (by rfl) hth hx2 ?_)
        go_roundw
        case rel =>
          refine ⟨k + 1, by omega, by go_num, hbb, hBz, fun j x hj hx => ?_⟩
          by_cases hjk : j = k
          · subst hjk
            rw [HX.out] at hx
            cases hx
            exact hq
          · exact HN.out j x (by omega) hx
        case measure => simp [intOf]; omega
    · have hk8 : k = D.fre.length := by omega
      have HR : D.read i = D.las.getD i [] := by
        unfold Dk.read
        rw [find_none HN.out hk8]; rfl
      subst hk8
      have hDs := (HD.out.below hb).sec i hi
      have hs : (D.las.getD i []).length = 128 := by
        have := (HD.out.ok.read hi).len
        rw [HR] at this; exact this
      have hth2 := hB.there 0 128 (by omega)
      have hB4 := hB.fill (u8s (D.las.getD i [])) (by simp only [u8s_length]; omega)
      have hb4 := Below.setCells hb w.heap.size 0 (Nat.le_refl _) (u8s (D.las.getD i []))
      have HR' : Hid (D.read i = D.las.getD i []) := HR
      clear HR
      generalize hgs : D.las.getD i [] = s at *
      go_wp2_with (first | refine ldSec (by rfl) (.tmp 27) (by rfl) b (i * 128) (by rfl) s hDs hs ?_ | refine stSec (by rfl) (.tmp 4) (.tmp 28) (by rfl) w.heap.size 0 s (by rfl) (by rfl) hth2 hs ?_)
      exact bodyPost_ret (results_cell Tryz.results113 (by rfl) hB4.range Tryz.underlying89 rfl (by rw [u8s_length, hs]; exact infoSec)) rfl ⟨by rw [HR'.out], hb4⟩
end Go.Proofs.YtlhohmlpcgbliabGreatDoor
