import Derived.Test.YtlhohmlpcgbliaaDoorZT3
import Derived.Deep.AppendLies
import Derived.Test.YtlhohmlpcgbliaaDoorZH6
namespace Go.Proofs.YtlhohmlpcgbliaaDoor
set_option maxRecDepth 100000
open Go.RowKit
attribute [local go_sem ↓] Go.wp_at_zero Go.wp_at_succ

/-- Which of n things the number c speaks of. -/
def pickV (c : Int) (n : Nat) : Nat := (if c < 0 then -(c + 1) else c).toNat % n
theorem pickV_lt (c : Int) (n : Nat) (h : 1 ≤ n) : pickV c n < n := Nat.mod_lt _ h

set_option maxHeartbeats 400000 in
theorem pick_any (c : Int) (n : Nat) (w : World) (h1 : -9223372036854775808 ≤ c) (h2 : c ≤ 9223372036854775807) (hn : 1 ≤ n) (hn2 : n ≤ 1000000000000) :
    Calls Tryd.prog 27 #[.int .i64 c, .int .i64 (n : Int)] w fun e w' => e = .returned (.int .i64 (pickV c n : Nat)) ∧ w' = w := by
  have hz : ((n : Int) == 0) = false := by simp; omega
  by_cases hc : c < 0
  · have HP : Aside (-((c + 1).tmod (n : Int)) = ((pickV c n : Nat) : Int)) := by
      show _ = _
      rw [← Int.neg_tmod, Int.tmod_eq_emod_of_nonneg (by omega), pickV, if_pos hc, Int.natCast_emod, Int.toNat_of_nonneg (by omega)]
    go_enter Tryd.func27, Tryd.ntmps27
    go_wp2
    go_ret
    rw [← HP.out]
    exact ⟨rfl, rfl⟩
  · have HP : Aside (c % (n : Int) = ((pickV c n : Nat) : Int)) := by
      show _ = _
      rw [pickV, if_neg hc, Int.natCast_emod, Int.toNat_of_nonneg (by omega)]
    go_enter Tryd.func27, Tryd.ntmps27
    go_wp2
    go_ret
    rw [← HP.out]
    exact ⟨rfl, rfl⟩

/-- An append onto a slice of the call's own, and where the new slice lies. -/
theorem wpList_app2 {e t : TypeId} {z : Value} {bytes : Nat} (hel : Elem e z bytes) (hz : z.cells.size = 1) (ht : Tryd.prog.underlying t = some (.slice e))
    {w w0 : World} {B : Nat} {ops : Array Oper} {rest : List Oper} {o : Oper} {a : Act} {Q : Exit → Act → World → Prop} (hgd : o.guard = none) (s x : Operand)
    (ho : o.op = .call { callee := .builtin .append, args := #[s, x], argTypes := #[t, t] }) (base : Nat) (v : Value) (xs : List Value) (hs : a.eval s = v) (hown : Row w base e v xs)
    (g m c : Nat) (news : List Value) (hx : a.eval x = .slice (some ⟨g, 0, none⟩) m c) (hm : news.length = m) (hm0 : 0 < m) (hnews : Blk w g e news) (h1 : ∀ u ∈ news, u.oneCell' = true)
    (hlen : xs.length + m ≤ 1000000000000) (hby : bytes ≤ 16) (hbase : base ≤ w.heap.size) (hB : Below B w0 w) (hBb : B ≤ base)
    (h : ∀ g' cap w', Row w' base e (.slice (some ⟨g', 0, none⟩) (xs.length + m) cap) (xs ++ news) → w.grownBy w' v.ownBlock → (v.ownBlock = some g' ∨ g' = w.heap.size) → Below B w0 w' → wpList Tryd.prog ops Q rest (a.put o.dst (.slice (some ⟨g', 0, none⟩) (xs.length + m) cap)) w') : wpList Tryd.prog ops Q (o :: rest) a w := by
  obtain ⟨i, hi, hiz, his, hib⟩ := hel
  have hb : (xs.length + m) * bytes ≤ 140737488355328 := Nat.le_trans (Nat.mul_le_mul hlen hby) (by omega)
  refine wpList_append_lies w hgd s x t ho base e i z 1 bytes ht hi hiz his hib hz (by omega) v xs.length xs hs hown ⟨g, 0, none⟩ m c news hx (by omega) ?_ h1 hm0 (by unfold maxLen; omega) hb hbase _ rfl ?_
  · intro j u hu
    have hlt : j < news.length := (List.getElem?_eq_some_iff.1 hu).1
    rw [Addr.add_mid, Nat.zero_add, hnews.cell]
    exact hu
  · intro g' cap w' h2 h3 h4 _
    refine h g' cap w' ?_ h3 h4 (hB.grown h3 (Nat.le_trans hBb hbase) (fun k hk => Nat.le_trans hBb (hown.lt k hk).1))
    unfold Row
    rw [List.length_append, hm]
    exact h2

/-- A list that the law may hand on: it reads as an argument does, and has room. -/
def LA (w : World) (v : Value) (ss : List ByteArray) : Prop := ArgS w v ss ∧ Lst w v ss
theorem LA.of_block {w : World} {g cap : Nat} {ss : List ByteArray} (hc : ss.length ≤ cap) (h : ∀ (j : Nat) s, ss[j]? = some s → w.cell? ⟨g, j, none⟩ = some (.string s)) : LA w (.slice (some ⟨g, 0, none⟩) ss.length cap) ss :=
  ⟨.inr ⟨_, _, rfl, fun j s hs => by rw [Addr.add_mid, Nat.zero_add]; exact h j s hs⟩, ⟨_, _, rfl, hc, fun j s hs => ⟨_, _, rfl, by rw [Nat.zero_add]; exact h j s hs⟩⟩⟩
theorem LA.nil (w : World) : LA w (.slice none 0 0) [] := ⟨.inl ⟨rfl, rfl⟩, ⟨_, _, rfl, Nat.le_refl _, fun j s hs => by simp at hs⟩⟩
theorem LA.of_row {w : World} {base : Nat} {v : Value} {ss : List ByteArray} (h : Row w base 9 v (strv ss)) : LA w v ss := by
  obtain ⟨h1, h2⟩ := h
  rcases h2 with ⟨rfl, h0⟩ | ⟨g, cap, cur, rfl, hb, hg, hn, hm, hs, ht⟩
  · have : ss = [] := List.eq_nil_of_length_eq_zero (by simpa using h0)
    subst this
    exact LA.nil w
  · rw [strv_length] at hn ht ⊢
    refine LA.of_block hn fun j s hj => ?_
    have hlt : j < ss.length := (List.getElem?_eq_some_iff.1 hj).1
    have : (strv ss)[j]? = cur.toList[j]? := by rw [← ht, List.getElem?_take_of_lt (by omega)]
    have hv : cur.toList[j]? = some (.string s) := by rw [← this, strv, List.getElem?_map, hj]; rfl
    simp [World.cell?, hg] at hv ⊢
    exact hv
theorem LA.below {w w' : World} {v : Value} {ss : List ByteArray} (h : LA w v ss) (hb : Below w.heap.size w w') : LA w' v ss := by
  refine ⟨?_, h.2.below hb⟩
  rcases h.1 with h1 | ⟨a, c, h1, h2⟩
  · exact .inl h1
  · exact .inr ⟨a, c, h1, fun i s hs => by rw [hb.cell (World.block_lt_of_cell? _ _ (h2 i s hs))]; exact h2 i s hs⟩
end Go.Proofs.YtlhohmlpcgbliaaDoor
namespace Go.Proofs.YtlhohmlpcgbliaaDoor
set_option maxRecDepth 100000
open Go.RowKit
attribute [local go_sem ↓] Go.wp_at_zero Go.wp_at_succ

theorem results_tmp5 {fn : Func} {a b c d e : Tmp} (h : fn.results = #[.tmp a, .tmp b, .tmp c, .tmp d, .tmp e]) (tmps : Array Value) (P : Program) (w : World) :
    (results fn tmps).run P w = .ok (.tuple #[tmps.getD a undef, tmps.getD b undef, tmps.getD c undef, tmps.getD d undef, tmps.getD e undef]) w := by
  simp [results, h]

/-- What a call of bent gives. -/
def BentAs (B : Nat) (w : World) (e : Ending) (w' : World) : Prop :=
  ∃ (p q : Value) (i n m : Int) (ps qs : List ByteArray), e = .returned (.tuple #[p, q, .int .i64 i, .int .i64 n, .int .i64 m]) ∧ LA w' p ps ∧ LA w' q qs ∧ Few ps ∧ Few qs ∧ Below B w w'

set_option maxHeartbeats 400000 in
theorem bent_num (p q : Value) (ps qs : List ByteArray) (other : ByteArray) (rb ro rn rc r i n m B : Nat) (k : Int) (w : World) (hp : Aside (LA w p ps ∧ LA w q qs ∧ Few ps ∧ Few qs)) (hr : 3 ≤ r) (hr2 : r < 7) (hk : w.cell? ⟨rb, ro + 3, none⟩ = some (.int .i64 k)) (hrn : 4 ≤ rn)
  (hi : i ≤ 1000) (hn : n ≤ 1000) (hm : m ≤ 1000) (hpk : Calls Tryd.prog 27 #[.int .i64 k, .int .i64 7] w fun e w' => e = .returned (.int .i64 (r : Int)) ∧ w' = w) :
    Calls Tryd.prog 30 #[p, q, .slice (some ⟨rb, ro, none⟩) rn rc, .string other, .int .i64 (i : Int), .int .i64 (n : Int), .int .i64 (m : Int)] w (BentAs B w) := by
  have h : r = 3 ∨ r = 4 ∨ r = 5 ∨ r = 6 := by omega
  rcases h with rfl | rfl | rfl | rfl
  · go_enter Tryd.func30, Tryd.ntmps30
    go_wp2_with (go_at_call 27; refine hpk.mono ?_; rintro e w' ⟨rfl, rfl⟩)
    refine bodyPost_ret (results_tmp5 rfl _ _ _) rfl ?_
    exact ⟨_, _, _, _, _, _, _, rfl, hp.out.1, hp.out.2.1, hp.out.2.2.1, hp.out.2.2.2, Below.refl _ _⟩
  · go_enter Tryd.func30, Tryd.ntmps30
    go_wp2_with (go_at_call 27; refine hpk.mono ?_; rintro e w' ⟨rfl, rfl⟩)
    refine bodyPost_ret (results_tmp5 rfl _ _ _) rfl ?_
    exact ⟨_, _, _, _, _, _, _, rfl, hp.out.1, hp.out.2.1, hp.out.2.2.1, hp.out.2.2.2, Below.refl _ _⟩
  · go_enter Tryd.func30, Tryd.ntmps30
    go_wp2_with (go_at_call 27; refine hpk.mono ?_; rintro e w' ⟨rfl, rfl⟩)
    refine bodyPost_ret (results_tmp5 rfl _ _ _) rfl ?_
    exact ⟨_, _, _, _, _, _, _, rfl, hp.out.1, hp.out.2.1, hp.out.2.2.1, hp.out.2.2.2, Below.refl _ _⟩
  · go_enter Tryd.func30, Tryd.ntmps30
    go_wp2_with (go_at_call 27; refine hpk.mono ?_; rintro e w' ⟨rfl, rfl⟩)
    refine bodyPost_ret (results_tmp5 rfl _ _ _) rfl ?_
    exact ⟨_, _, _, _, _, _, _, rfl, hp.out.1, hp.out.2.1, hp.out.2.2.1, hp.out.2.2.2, Below.refl _ _⟩
end Go.Proofs.YtlhohmlpcgbliaaDoor
namespace Go.Proofs.YtlhohmlpcgbliaaDoor
set_option maxRecDepth 100000
open Go.RowKit
attribute [local go_sem ↓] Go.wp_at_zero Go.wp_at_succ

/-- A list of the law's own, and what is left of it without its last. -/
def Cut (p p' : Value) : Prop := (∃ pp cc, p = .slice pp 0 cc ∧ p' = p) ∨ ∃ g a cap, p = .slice (some ⟨g, 0, none⟩) (a + 1) cap ∧ p' = .slice (some ⟨g, 0, none⟩) a cap ∧ a + 1 ≤ cap ∧ a < 1000000

set_option maxHeartbeats 1000000 in
theorem bent_cut (p q p' q' : Value) (ps qs : List ByteArray) (other : ByteArray) (rb ro rn rc i n m B : Nat) (k : Int) (w : World) (hcp : Cut p p') (hcq : Cut q q') (hp : Aside (LA w p' ps ∧ LA w q' qs ∧ Few ps ∧ Few qs)) (hk : w.cell? ⟨rb, ro + 3, none⟩ = some (.int .i64 k)) (hrn : 4 ≤ rn)
  (hpk : Calls Tryd.prog 27 #[.int .i64 k, .int .i64 7] w fun e w' => e = .returned (.int .i64 1) ∧ w' = w) :
    Calls Tryd.prog 30 #[p, q, .slice (some ⟨rb, ro, none⟩) rn rc, .string other, .int .i64 (i : Int), .int .i64 (n : Int), .int .i64 (m : Int)] w (BentAs B w) := by
  rcases hcp with ⟨pp, cc, rfl, rfl⟩ | ⟨g, a, cap, rfl, rfl, hc, ha⟩
  · rcases hcq with ⟨pp2, cc2, rfl, rfl⟩ | ⟨g2, a2, cap2, rfl, rfl, hc2, ha2⟩
    · go_enter Tryd.func30, Tryd.ntmps30
      go_wp2_with (go_at_call 27; refine hpk.mono ?_; rintro e w' ⟨rfl, rfl⟩)
      refine bodyPost_ret (results_tmp5 rfl _ _ _) rfl ?_
      exact ⟨_, _, _, _, _, _, _, rfl, hp.out.1, hp.out.2.1, hp.out.2.2.1, hp.out.2.2.2, Below.refl _ _⟩
    · have hs2 := fun wx => slice_h wx g2 0 (a2 + 1) cap2 a2 (by omega)
      go_enter Tryd.func30, Tryd.ntmps30
      go_wp2_with (go_at_call 27; refine hpk.mono ?_; rintro e w' ⟨rfl, rfl⟩)
      refine bodyPost_ret (results_tmp5 rfl _ _ _) rfl ?_
      exact ⟨_, _, _, _, _, _, _, rfl, hp.out.1, hp.out.2.1, hp.out.2.2.1, hp.out.2.2.2, Below.refl _ _⟩
  · have hs1 := fun wx => slice_h wx g 0 (a + 1) cap a (by omega)
    rcases hcq with ⟨pp2, cc2, rfl, rfl⟩ | ⟨g2, a2, cap2, rfl, rfl, hc2, ha2⟩
    · go_enter Tryd.func30, Tryd.ntmps30
      go_wp2_with (go_at_call 27; refine hpk.mono ?_; rintro e w' ⟨rfl, rfl⟩)
      refine bodyPost_ret (results_tmp5 rfl _ _ _) rfl ?_
      exact ⟨_, _, _, _, _, _, _, rfl, hp.out.1, hp.out.2.1, hp.out.2.2.1, hp.out.2.2.2, Below.refl _ _⟩
    · have hs2 := fun wx => slice_h wx g2 0 (a2 + 1) cap2 a2 (by omega)
      go_enter Tryd.func30, Tryd.ntmps30
      go_wp2_with (go_at_call 27; refine hpk.mono ?_; rintro e w' ⟨rfl, rfl⟩)
      refine bodyPost_ret (results_tmp5 rfl _ _ _) rfl ?_
      exact ⟨_, _, _, _, _, _, _, rfl, hp.out.1, hp.out.2.1, hp.out.2.2.1, hp.out.2.2.2, Below.refl _ _⟩
end Go.Proofs.YtlhohmlpcgbliaaDoor
namespace Go.Proofs.YtlhohmlpcgbliaaDoor
set_option maxRecDepth 100000
open Go.RowKit
attribute [local go_sem ↓] Go.wp_at_zero Go.wp_at_succ

theorem tdiv7 (k : Int) (h1 : -9223372036854775808 ≤ k) (h2 : k ≤ 9223372036854775807) : -9223372036854775808 ≤ k.tdiv 7 ∧ k.tdiv 7 ≤ 9223372036854775807 := by
  by_cases h : 0 ≤ k
  · rw [Int.tdiv_eq_ediv_of_nonneg h]; omega
  · have e : k.tdiv 7 = -((-k) / 7) := by rw [← Int.tdiv_eq_ediv_of_nonneg (by omega), Int.neg_tdiv, Int.neg_neg]
    rw [e]; omega

set_option maxHeartbeats 1000000 in
theorem bent_put (other : ByteArray) (g a cap g2 a2 cap2 x x2 rb ro rn rc i n m B : Nat) (ps qs : List ByteArray) (k : Int) (w : World)
  (hx : x < a + 1) (hx2 : x2 < a2 + 1) (u u2 : Value) (hc : w.cell? ⟨g, x, none⟩ = some u) (hf : w.frozen? ⟨g, x, none⟩ = false) (hc2 : (w.setCell ⟨g, x, none⟩ (.string other)).cell? ⟨g2, x2, none⟩ = some u2) (hf2 : (w.setCell ⟨g, x, none⟩ (.string other)).frozen? ⟨g2, x2, none⟩ = false)
  (hp : Aside (LA ((w.setCell ⟨g, x, none⟩ (.string other)).setCell ⟨g2, x2, none⟩ (.string other)) (.slice (some ⟨g, 0, none⟩) (a + 1) cap) ps ∧ LA ((w.setCell ⟨g, x, none⟩ (.string other)).setCell ⟨g2, x2, none⟩ (.string other)) (.slice (some ⟨g2, 0, none⟩) (a2 + 1) cap2) qs ∧ Few ps ∧ Few qs ∧ Below B w ((w.setCell ⟨g, x, none⟩ (.string other)).setCell ⟨g2, x2, none⟩ (.string other))))
  (hk : w.cell? ⟨rb, ro + 3, none⟩ = some (.int .i64 k)) (hrn : 4 ≤ rn)
  (hpk : Calls Tryd.prog 27 #[.int .i64 k, .int .i64 7] w fun e w' => e = .returned (.int .i64 2) ∧ w' = w)
  (hp1 : Calls Tryd.prog 27 #[.int .i64 (wrap64 (k.tdiv 7)), .int .i64 ((a : Int) + 1)] w fun e w' => e = .returned (.int .i64 (x : Int)) ∧ w' = w)
  (hp2 : Calls Tryd.prog 27 #[.int .i64 (wrap64 (k.tdiv 7)), .int .i64 ((a2 : Int) + 1)] (w.setCell ⟨g, x, none⟩ (.string other)) fun e w' => e = .returned (.int .i64 (x2 : Int)) ∧ w' = w.setCell ⟨g, x, none⟩ (.string other)) :
    Calls Tryd.prog 30 #[.slice (some ⟨g, 0, none⟩) (a + 1) cap, .slice (some ⟨g2, 0, none⟩) (a2 + 1) cap2, .slice (some ⟨rb, ro, none⟩) rn rc, .string other, .int .i64 (i : Int), .int .i64 (n : Int), .int .i64 (m : Int)] w (BentAs B w) := by
  go_enter Tryd.func30, Tryd.ntmps30
  go_wp2_with fail
  refine hpk.mono ?_
  rintro e w' ⟨rfl, hw'⟩
  rw [hw']
  clear hw' hpk
  go_wp2_with fail
  refine hp1.mono ?_
  rintro e w' ⟨rfl, hw'⟩
  rw [hw']
  clear hw' hp1
  go_wp2_with fail
  generalize w.setCell ⟨g, x, none⟩ (.string other) = w1 at *
  refine hp2.mono ?_
  rintro e w' ⟨rfl, hw'⟩
  rw [hw']
  clear hw' hp2
  go_wp2_with fail
  refine bodyPost_ret (results_tmp5 rfl _ _ _) rfl ?_
  exact ⟨_, _, _, _, _, _, _, rfl, hp.out.1, hp.out.2.1, hp.out.2.2.1, hp.out.2.2.2.1, hp.out.2.2.2.2⟩
end Go.Proofs.YtlhohmlpcgbliaaDoor
namespace Go.Proofs.YtlhohmlpcgbliaaDoor
set_option maxRecDepth 100000
open Go.RowKit
attribute [local go_sem ↓] Go.wp_at_zero Go.wp_at_succ

set_option maxHeartbeats 1000000 in
theorem bent_put_none (other : ByteArray) (pp pp2 : Option Addr) (cc cc2 rb ro rn rc i n m B : Nat) (ps qs : List ByteArray) (k : Int) (w : World)
  (hp : Aside (LA w (.slice pp 0 cc) ps ∧ LA w (.slice pp2 0 cc2) qs ∧ Few ps ∧ Few qs)) (hk : w.cell? ⟨rb, ro + 3, none⟩ = some (.int .i64 k)) (hrn : 4 ≤ rn)
  (hpk : Calls Tryd.prog 27 #[.int .i64 k, .int .i64 7] w fun e w' => e = .returned (.int .i64 2) ∧ w' = w) :
    Calls Tryd.prog 30 #[.slice pp 0 cc, .slice pp2 0 cc2, .slice (some ⟨rb, ro, none⟩) rn rc, .string other, .int .i64 (i : Int), .int .i64 (n : Int), .int .i64 (m : Int)] w (BentAs B w) := by
  go_enter Tryd.func30, Tryd.ntmps30
  go_wp2_with fail
  refine hpk.mono ?_
  rintro e w' ⟨rfl, hw'⟩
  rw [hw']
  clear hw' hpk
  go_wp2_with fail
  refine bodyPost_ret (results_tmp5 rfl _ _ _) rfl ?_
  exact ⟨_, _, _, _, _, _, _, rfl, hp.out.1, hp.out.2.1, hp.out.2.2.1, hp.out.2.2.2, Below.refl _ _⟩

set_option maxHeartbeats 1000000 in
theorem bent_put_p (other : ByteArray) (pp2 : Option Addr) (g a cap cc2 x rb ro rn rc i n m B : Nat) (ps qs : List ByteArray) (k : Int) (w : World)
  (hx : x < a + 1) (u : Value) (hc : w.cell? ⟨g, x, none⟩ = some u) (hf : w.frozen? ⟨g, x, none⟩ = false)
  (hp : Aside (LA (w.setCell ⟨g, x, none⟩ (.string other)) (.slice (some ⟨g, 0, none⟩) (a + 1) cap) ps ∧ LA (w.setCell ⟨g, x, none⟩ (.string other)) (.slice pp2 0 cc2) qs ∧ Few ps ∧ Few qs ∧ Below B w (w.setCell ⟨g, x, none⟩ (.string other))))
  (hk : w.cell? ⟨rb, ro + 3, none⟩ = some (.int .i64 k)) (hrn : 4 ≤ rn)
  (hpk : Calls Tryd.prog 27 #[.int .i64 k, .int .i64 7] w fun e w' => e = .returned (.int .i64 2) ∧ w' = w)
  (hp1 : Calls Tryd.prog 27 #[.int .i64 (wrap64 (k.tdiv 7)), .int .i64 ((a : Int) + 1)] w fun e w' => e = .returned (.int .i64 (x : Int)) ∧ w' = w) :
    Calls Tryd.prog 30 #[.slice (some ⟨g, 0, none⟩) (a + 1) cap, .slice pp2 0 cc2, .slice (some ⟨rb, ro, none⟩) rn rc, .string other, .int .i64 (i : Int), .int .i64 (n : Int), .int .i64 (m : Int)] w (BentAs B w) := by
  go_enter Tryd.func30, Tryd.ntmps30
  go_wp2_with fail
  refine hpk.mono ?_
  rintro e w' ⟨rfl, hw'⟩
  rw [hw']
  clear hw' hpk
  go_wp2_with fail
  refine hp1.mono ?_
  rintro e w' ⟨rfl, hw'⟩
  rw [hw']
  clear hw' hp1
  go_wp2_with fail
  refine bodyPost_ret (results_tmp5 rfl _ _ _) rfl ?_
  exact ⟨_, _, _, _, _, _, _, rfl, hp.out.1, hp.out.2.1, hp.out.2.2.1, hp.out.2.2.2.1, hp.out.2.2.2.2⟩

set_option maxHeartbeats 1000000 in
theorem bent_put_q (other : ByteArray) (pp : Option Addr) (g a cap cc x rb ro rn rc i n m B : Nat) (ps qs : List ByteArray) (k : Int) (w : World)
  (hx : x < a + 1) (u : Value) (hc : w.cell? ⟨g, x, none⟩ = some u) (hf : w.frozen? ⟨g, x, none⟩ = false)
  (hp : Aside (LA (w.setCell ⟨g, x, none⟩ (.string other)) (.slice pp 0 cc) ps ∧ LA (w.setCell ⟨g, x, none⟩ (.string other)) (.slice (some ⟨g, 0, none⟩) (a + 1) cap) qs ∧ Few ps ∧ Few qs ∧ Below B w (w.setCell ⟨g, x, none⟩ (.string other))))
  (hk : w.cell? ⟨rb, ro + 3, none⟩ = some (.int .i64 k)) (hrn : 4 ≤ rn)
  (hpk : Calls Tryd.prog 27 #[.int .i64 k, .int .i64 7] w fun e w' => e = .returned (.int .i64 2) ∧ w' = w)
  (hp1 : Calls Tryd.prog 27 #[.int .i64 (wrap64 (k.tdiv 7)), .int .i64 ((a : Int) + 1)] w fun e w' => e = .returned (.int .i64 (x : Int)) ∧ w' = w) :
    Calls Tryd.prog 30 #[.slice pp 0 cc, .slice (some ⟨g, 0, none⟩) (a + 1) cap, .slice (some ⟨rb, ro, none⟩) rn rc, .string other, .int .i64 (i : Int), .int .i64 (n : Int), .int .i64 (m : Int)] w (BentAs B w) := by
  go_enter Tryd.func30, Tryd.ntmps30
  go_wp2_with fail
  refine hpk.mono ?_
  rintro e w' ⟨rfl, hw'⟩
  rw [hw']
  clear hw' hpk
  go_wp2_with fail
  refine hp1.mono ?_
  rintro e w' ⟨rfl, hw'⟩
  rw [hw']
  clear hw' hp1
  go_wp2_with fail
  refine bodyPost_ret (results_tmp5 rfl _ _ _) rfl ?_
  exact ⟨_, _, _, _, _, _, _, rfl, hp.out.1, hp.out.2.1, hp.out.2.2.1, hp.out.2.2.2.1, hp.out.2.2.2.2⟩
end Go.Proofs.YtlhohmlpcgbliaaDoor
namespace Go.Proofs.YtlhohmlpcgbliaaDoor
set_option maxRecDepth 100000
open Go.RowKit
attribute [local go_sem ↓] Go.wp_at_zero Go.wp_at_succ

theorem Few.app {ss : List ByteArray} {s : ByteArray} (h : ss.length ≤ 1000) (hz : ∀ x ∈ ss, x.size ≤ 1048576) (hs : s.size ≤ 1048576) : Few (ss ++ [s]) := by
  refine ⟨by simp; omega, fun x hx => ?_⟩
  rcases List.mem_append.1 hx with h | h
  · exact hz x h
  · rw [List.mem_singleton.1 h]; exact hs
theorem strv_app (ss : List ByteArray) (s : ByteArray) : strv ss ++ [.string s] = strv (ss ++ [s]) := by simp [strv]

set_option maxRecDepth 100000 in
set_option maxHeartbeats 1000000 in
theorem bent_app (p q : Value) (ps qs : List ByteArray) (other : ByteArray) (rb ro rn rc i n m B B2 : Nat) (k : Int) (w : World) (hB : B ≤ B2) (hB2 : B2 ≤ w.heap.size) (hp : Row w B 9 p (strv ps)) (hq : Row w B2 9 q (strv qs)) (hsep : ∀ g, p.ownBlock = some g → g < B2)
  (hl1 : ps.length ≤ 1000) (hl2 : qs.length ≤ 1000) (hz1 : ∀ x ∈ ps, x.size ≤ 1048576) (hz2 : ∀ x ∈ qs, x.size ≤ 1048576) (hos : other.size ≤ 1048576)
  (hk : w.cell? ⟨rb, ro + 3, none⟩ = some (.int .i64 k)) (hrn : 4 ≤ rn)
  (hpk : Calls Tryd.prog 27 #[.int .i64 k, .int .i64 7] w fun e w' => e = .returned (.int .i64 0) ∧ w' = w) :
    Calls Tryd.prog 30 #[p, q, .slice (some ⟨rb, ro, none⟩) rn rc, .string other, .int .i64 (i : Int), .int .i64 (n : Int), .int .i64 (m : Int)] w (BentAs B w) := by
  have HF : Aside (Few (ps ++ [other]) ∧ Few (qs ++ [other])) := ⟨Few.app hl1 hz1 hos, Few.app hl2 hz2 hos⟩
  have HX : Aside (strv ps ++ [.string other] = strv (ps ++ [other]) ∧ strv qs ++ [.string other] = strv (qs ++ [other])) := ⟨strv_app _ _, strv_app _ _⟩
  have hx1 : (strv ps).length ≤ 1000 := by rw [strv_length]; exact hl1
  have hx2 : (strv qs).length ≤ 1000 := by rw [strv_length]; exact hl2
  clear hz1 hz2 hl1 hl2
  generalize strv ps = zs at *
  generalize strv qs = ys at *
  have HP : Aside (Row w B 9 p zs ∧ Row w B2 9 q ys ∧ ∀ g, p.ownBlock = some g → g < B2) := ⟨hp, hq, hsep⟩
  clear hp hq hsep
  go_enter Tryd.func30, Tryd.ntmps30
  go_wp2_with fail
  refine hpk.mono ?_
  rintro e w' ⟨rfl, hw'⟩
  rw [hw']
  clear hw' hpk
  go_wp2_with (at_builtin; refine wpList_app2 elem_string rfl Tryd.underlying22 (by rfl) (.tmp 29) (.tmp 31) (by rfl) B _ zs (by rfl) (HP.out.1.alloc _) _ 1 1 [.string other] (by rfl) rfl (by decide) (Blk.new _ 9 _) ?h1 ?hl ?hb ?hbs (w0 := w) ((Below.refl _ _).alloc (show B ≤ w.heap.size by omega) _) (Nat.le_refl _) ?_)
  case h1 => intro u hu; simp at hu; subst hu; rfl
  case hl => omega
  case hb => omega
  case hbs => simp; omega
  intro g1 cap1 w1 hr1 hg1 hat1 hb1
  have hs1 := hb1.size
  have HQ : Aside (Row w1 B2 9 q ys ∧ q.ownBlock ≠ some g1) := by
    obtain ⟨hp, hq, hsep⟩ := HP.out
    refine ⟨World.ownsRow.kept (hq.alloc _) hg1 ?_, ?_⟩
    · cases hqb : q.ownBlock with
      | none => exact .inl rfl
      | some gq =>
        right
        intro e
        have h1 := hsep gq e.symm
        have h2 := (World.ownsRow.lt hq gq hqb).1
        omega
    · intro e
      have h2 := World.ownsRow.lt hq g1 e
      rcases hat1 with h | h
      · have h1 := hsep g1 h
        omega
      · omega
  have HR : Aside (Row w1 B 9 (.slice (some ⟨g1, 0, none⟩) (zs.length + 1) cap1) (zs ++ [.string other]) ∧ Below B w w1) := ⟨hr1, hb1⟩
  clear hr1 hb1 hg1 hat1 HP
  go_wp2_with (at_builtin; refine wpList_app2 elem_string rfl Tryd.underlying22 (by rfl) (.tmp 33) (.tmp 35) (by rfl) B2 _ ys (by rfl) (HQ.out.1.alloc _) _ 1 1 [.string other] (by rfl) rfl (by decide) (Blk.new _ 9 _) ?h1 ?hl ?hb ?hbs (w0 := w) (HR.out.2.alloc (show B ≤ w1.heap.size by omega) _) hB ?_)
  case h1 => intro u hu; simp at hu; subst hu; rfl
  case hl => omega
  case hb => omega
  case hbs => simp; omega
  intro g2 cap2 w2 hr2 hg2 hat2 hb2
  have HS : Aside (LA w2 (.slice (some ⟨g1, 0, none⟩) (zs.length + 1) cap1) (ps ++ [other]) ∧ LA w2 (.slice (some ⟨g2, 0, none⟩) (ys.length + 1) cap2) (qs ++ [other]) ∧ Below B w w2) := by
    refine ⟨LA.of_row (base := B) ?_, LA.of_row (base := B2) ?_, hb2⟩
    · rw [← HX.out.1]
      exact World.ownsRow.kept (HR.out.1.alloc _) hg2 (.inr (fun e => HQ.out.2 e.symm))
    · rw [← HX.out.2]
      exact hr2
  clear hr2 hg2 hat2 hb2 HR HQ HX
  go_wp2_with fail
  refine bodyPost_ret (results_tmp5 rfl _ _ _) rfl ?_
  exact ⟨_, _, _, _, _, _, _, rfl, HS.out.1, HS.out.2.1, HF.out.1, HF.out.2, HS.out.2.2⟩
end Go.Proofs.YtlhohmlpcgbliaaDoor
namespace Go.Proofs.YtlhohmlpcgbliaaDoor
set_option maxRecDepth 100000
open Go.RowKit

theorem Row.blk {w : World} {base : Nat} {e : TypeId} {v : Value} {xs : List Value} (h : Row w base e v xs) (h0 : 0 < xs.length) :
    ∃ g cap cs, v = .slice (some ⟨g, 0, none⟩) xs.length cap ∧ base ≤ g ∧ Blk w g e cs ∧ xs.length ≤ cap ∧ cs.take xs.length = xs ∧ cs.length = cap := by
  obtain ⟨h1, h2⟩ := h
  rcases h2 with ⟨_, h3⟩ | ⟨g, cap, cur, rfl, hb, hg, hn, hm, hs, ht⟩
  · omega
  · exact ⟨g, cap, cur.toList, rfl, hb, by unfold Blk; rw [Array.toArray_toList]; exact hg, hn, (by rw [Nat.mul_one] at ht; exact ht), by rw [Array.length_toList]; omega⟩

theorem LA.of_blk {w : World} {g cap : Nat} {cs : List Value} {ss : List ByteArray} (hB : Blk w g 9 cs) (hc : ss.length ≤ cap) (ht : cs.take ss.length = strv ss) : LA w (.slice (some ⟨g, 0, none⟩) ss.length cap) ss := by
  refine LA.of_block hc fun j s hj => ?_
  have hlt : j < ss.length := (List.getElem?_eq_some_iff.1 hj).1
  rw [hB.cell, ← List.getElem?_take_of_lt (l := cs) hlt, ht, strv, List.getElem?_map, hj]
  rfl

/-- A list of nothing reads so in every world. -/
theorem LA.empty {w : World} {v : Value} (h : LA w v []) (w' : World) : LA w' v [] := by
  obtain ⟨h1, p, c, h2, h3, _⟩ := h
  refine ⟨?_, ⟨p, c, h2, h3, fun j s hs => by simp at hs⟩⟩
  rcases h1 with h1 | ⟨a, c', h1, _⟩
  · exact .inl h1
  · exact .inr ⟨a, c', h1, fun j s hs => by simp at hs⟩

theorem strv_set (ss : List ByteArray) (x : Nat) (s : ByteArray) : strv (ss.set x s) = (strv ss).set x (.string s) := by simp [strv, List.map_set]

theorem Few.of {ss : List ByteArray} (h : ss.length ≤ 1000) (hz : ∀ x ∈ ss, x.size ≤ 1048576) : Few ss := ⟨by omega, hz⟩
theorem Few.set {ss : List ByteArray} {s : ByteArray} {x : Nat} (h : ss.length ≤ 1000) (hz : ∀ x ∈ ss, x.size ≤ 1048576) (hs : s.size ≤ 1048576) : Few (ss.set x s) := by
  refine ⟨by simp; omega, fun y hy => ?_⟩
  rcases List.mem_or_eq_of_mem_set hy with h | h
  · exact hz y h
  · rw [h]; exact hs
theorem Few.take {ss : List ByteArray} {x : Nat} (h : ss.length ≤ 1000) (hz : ∀ x ∈ ss, x.size ≤ 1048576) : Few (ss.take x) := ⟨by simp; omega, fun y hy => hz y (List.mem_of_mem_take hy)⟩

/-- A list of the law's own, ready for the cut. -/
theorem cut_of {w : World} {base : Nat} {p : Value} {ps : List ByteArray} (h : Row w base 9 p (strv ps)) (hl : ps.length ≤ 1000) : ∃ p', Cut p p' ∧ LA w p' (ps.take (ps.length - 1)) := by
  by_cases h0 : 0 < ps.length
  · obtain ⟨g, cap, cs, rfl, hb, hB, hc, ht, _⟩ := h.blk (by rw [strv_length]; exact h0)
    rw [strv_length] at hc ht ⊢
    obtain ⟨a, ha⟩ : ∃ a, ps.length = a + 1 := ⟨ps.length - 1, by omega⟩
    have hla : (ps.take a).length = a := by rw [List.length_take]; omega
    refine ⟨.slice (some ⟨g, 0, none⟩) a cap, .inr ⟨g, a, cap, by rw [ha], rfl, by omega, by omega⟩, ?_⟩
    rw [show ps.length - 1 = a by omega]
    have := LA.of_blk (cap := cap) (ss := ps.take a) hB (by omega) (by
      rw [hla, strv, List.map_take]
      have : cs.take a = (cs.take ps.length).take a := by rw [List.take_take, Nat.min_eq_left (by omega)]
      rw [this, ht, strv])
    rwa [hla] at this
  · have : ps = [] := List.eq_nil_of_length_eq_zero (by omega)
    subst this
    obtain ⟨pp, cc, rfl⟩ := h.shape
    exact ⟨_, .inl ⟨pp, cc, rfl, rfl⟩, LA.of_row h⟩

theorem bent_any (p q : Value) (ps qs : List ByteArray) (other : ByteArray) (rb ro rn rc i n m B B2 : Nat) (k : Int) (w : World) (hB : B ≤ B2) (hB2 : B2 ≤ w.heap.size) (hp : Row w B 9 p (strv ps)) (hq : Row w B2 9 q (strv qs)) (hsep : ∀ g, p.ownBlock = some g → g < B2)
  (hl1 : ps.length ≤ 1000) (hl2 : qs.length ≤ 1000) (hz1 : ∀ x ∈ ps, x.size ≤ 1048576) (hz2 : ∀ x ∈ qs, x.size ≤ 1048576) (hos : other.size ≤ 1048576)
  (hk : w.cell? ⟨rb, ro + 3, none⟩ = some (.int .i64 k)) (hrn : 4 ≤ rn) (hk1 : -9223372036854775808 ≤ k) (hk2 : k ≤ 9223372036854775807) (hi : i ≤ 1000) (hn : n ≤ 1000) (hm : m ≤ 1000) :
    Calls Tryd.prog 30 #[p, q, .slice (some ⟨rb, ro, none⟩) rn rc, .string other, .int .i64 (i : Int), .int .i64 (n : Int), .int .i64 (m : Int)] w (BentAs B w) := by
  have hr := pickV_lt k 7 (by omega)
  have hpk : ∀ wx, Calls Tryd.prog 27 #[.int .i64 k, .int .i64 7] wx fun e w' => e = .returned (.int .i64 (pickV k 7 : Nat)) ∧ w' = wx := fun wx => pick_any k 7 wx hk1 hk2 (by omega) (by omega)
  generalize pickV k 7 = r at *
  have f1 := Few.of hl1 hz1
  have f2 := Few.of hl2 hz2
  by_cases h3 : 3 ≤ r
  · exact bent_num p q ps qs other rb ro rn rc r i n m B k w ⟨LA.of_row hp, LA.of_row hq, f1, f2⟩ h3 hr hk hrn hi hn hm (hpk w)
  · have h : r = 0 ∨ r = 1 ∨ r = 2 := by omega
    rcases h with rfl | rfl | rfl
    · exact bent_app p q ps qs other rb ro rn rc i n m B B2 k w hB hB2 hp hq hsep hl1 hl2 hz1 hz2 hos hk hrn (hpk w)
    · obtain ⟨p', hc1, hA1⟩ := cut_of hp hl1
      obtain ⟨q', hc2, hA2⟩ := cut_of hq hl2
      exact bent_cut p q p' q' _ _ other rb ro rn rc i n m B k w hc1 hc2 ⟨hA1, hA2, Few.take hl1 hz1, Few.take hl2 hz2⟩ hk hrn (hpk w)
    · have hd := tdiv7 k hk1 hk2
      have hw7 : wrap64 (k.tdiv 7) = k.tdiv 7 := IntWalk.wrap64_in _ ⟨by omega, by omega⟩
      have hpx : ∀ (a : Nat) wx, a ≤ 1000 → Calls Tryd.prog 27 #[.int .i64 (wrap64 (k.tdiv 7)), .int .i64 ((a : Int) + 1)] wx fun e w' => e = .returned (.int .i64 (pickV (k.tdiv 7) (a + 1) : Nat)) ∧ w' = wx := fun a wx ha => by
        have := pick_any (k.tdiv 7) (a + 1) wx hd.1 hd.2 (by omega) (by omega)
        rw [hw7]
        exact this
      by_cases hp0 : 0 < ps.length
      · obtain ⟨g, cap, cs, rfl, hb, hBk, hc, ht, hcl⟩ := hp.blk (by rw [strv_length]; exact hp0)
        rw [strv_length] at hc ht hsep ⊢
        obtain ⟨a, ha⟩ : ∃ a, ps.length = a + 1 := ⟨ps.length - 1, by omega⟩
        have hx := pickV_lt (k.tdiv 7) (a + 1) (by omega)
        have hx1 := hpx a w (by omega)
        generalize pickV (k.tdiv 7) (a + 1) = x at *
        have hcx : w.cell? ⟨g, x, none⟩ = some cs[x] := by rw [hBk.cell]; exact List.getElem?_eq_getElem (by omega)
        have hS := hBk.set x (.string other)
        have hts : (cs.set x (.string other)).take (ps.set x other).length = strv (ps.set x other) := by rw [List.length_set, List.take_set, ht, strv_set]
        by_cases hq0 : 0 < qs.length
        · obtain ⟨g2, cap2, cs2, rfl, hb2, hBk2, hc2, ht2, hcl2⟩ := hq.blk (by rw [strv_length]; exact hq0)
          rw [strv_length] at hc2 ht2
          rw [strv_length qs]
          have hgg : g < B2 := hsep g rfl
          obtain ⟨a2, ha2⟩ : ∃ a2, qs.length = a2 + 1 := ⟨qs.length - 1, by omega⟩
          have hx2 := pickV_lt (k.tdiv 7) (a2 + 1) (by omega)
          have hx12 := hpx a2 (w.setCell ⟨g, x, none⟩ (.string other)) (by omega)
          generalize pickV (k.tdiv 7) (a2 + 1) = x2 at *
          have hBk2' := hBk2.set_other ⟨g, x, none⟩ (.string other) (show g2 ≠ g by omega)
          have hS2 := hBk2'.set x2 (.string other)
          have hS1 := hS.set_other ⟨g2, x2, none⟩ (.string other) (show g ≠ g2 by omega)
          have hts2 : (cs2.set x2 (.string other)).take (qs.set x2 other).length = strv (qs.set x2 other) := by rw [List.length_set, List.take_set, ht2, strv_set]
          have L1 := LA.of_blk (cap := cap) hS1 (by rw [List.length_set]; exact hc) hts
          have L2 := LA.of_blk (cap := cap2) hS2 (by rw [List.length_set]; exact hc2) hts2
          rw [List.length_set] at L1 L2
          rw [ha] at L1 ⊢
          rw [ha2] at L2 ⊢
          refine bent_put other g a cap g2 a2 cap2 x x2 rb ro rn rc i n m B _ _ k w hx hx2 _ cs2[x2] hcx (hBk.frozen _) (by rw [hBk2'.cell]; exact List.getElem?_eq_getElem (by omega)) (hBk2'.frozen _) ⟨L1, L2, Few.set hl1 hz1 hos, Few.set hl2 hz2 hos, ?_⟩ hk hrn (hpk w) hx1 hx12
          exact ((Below.refl B w).setCell hb _).setCell (show B ≤ g2 by omega) _
        · have : qs = [] := List.eq_nil_of_length_eq_zero (by omega)
          subst this
          obtain ⟨pp2, cc2, rfl⟩ := hq.shape
          have L1 := LA.of_blk (cap := cap) hS (by rw [List.length_set]; exact hc) hts
          rw [List.length_set] at L1
          rw [ha] at L1 ⊢
          refine bent_put_p other pp2 g a cap cc2 x rb ro rn rc i n m B _ [] k w hx _ hcx (hBk.frozen _) ⟨L1, ?_, Few.set hl1 hz1 hos, f2, (Below.refl B w).setCell hb _⟩ hk hrn (hpk w) hx1
          exact (LA.of_row hq).empty _
      · have : ps = [] := List.eq_nil_of_length_eq_zero (by omega)
        subst this
        obtain ⟨pp, cc, rfl⟩ := hp.shape
        by_cases hq0 : 0 < qs.length
        · obtain ⟨g2, cap2, cs2, rfl, hb2, hBk2, hc2, ht2, hcl2⟩ := hq.blk (by rw [strv_length]; exact hq0)
          rw [strv_length] at hc2 ht2
          rw [strv_length qs]
          obtain ⟨a2, ha2⟩ : ∃ a2, qs.length = a2 + 1 := ⟨qs.length - 1, by omega⟩
          have hx2 := pickV_lt (k.tdiv 7) (a2 + 1) (by omega)
          have hx12 := hpx a2 w (by omega)
          generalize pickV (k.tdiv 7) (a2 + 1) = x2 at *
          have hS2 := hBk2.set x2 (.string other)
          have hts2 : (cs2.set x2 (.string other)).take (qs.set x2 other).length = strv (qs.set x2 other) := by rw [List.length_set, List.take_set, ht2, strv_set]
          have L2 := LA.of_blk (cap := cap2) hS2 (by rw [List.length_set]; exact hc2) hts2
          rw [List.length_set] at L2
          rw [ha2] at L2 ⊢
          refine bent_put_q other pp g2 a2 cap2 cc x2 rb ro rn rc i n m B [] _ k w hx2 cs2[x2] (by rw [hBk2.cell]; exact List.getElem?_eq_getElem (by omega)) (hBk2.frozen _) ⟨?_, L2, f1, Few.set hl2 hz2 hos, (Below.refl B w).setCell (show B ≤ g2 by omega) _⟩ hk hrn (hpk w) hx12
          exact (LA.of_row hp).empty _
        · have : qs = [] := List.eq_nil_of_length_eq_zero (by omega)
          subst this
          obtain ⟨pp2, cc2, rfl⟩ := hq.shape
          exact bent_put_none other pp pp2 cc cc2 rb ro rn rc i n m B [] [] k w ⟨LA.of_row hp, LA.of_row hq, f1, f2⟩ hk hrn (hpk w)
end Go.Proofs.YtlhohmlpcgbliaaDoor
namespace Go.Proofs.YtlhohmlpcgbliaaDoor
set_option maxRecDepth 100000
open Go.RowKit
attribute [local go_sem ↓] Go.wp_at_zero Go.wp_at_succ

set_option maxRecDepth 100000 in
set_option maxHeartbeats 1000000 in
theorem paths_short (v : Value) (pr : Option Addr) (rn rc L : Nat) (other : ByteArray) (w : World) (hs : rn < 4 ∨ L = 0 ∨ 200 < L) (hL : L ≤ 1048576) (ho : other.size ≤ 1048576) (ht : Table w) (hg : 2 < w.heap.size)
  (hLv : Calls Tryd.prog 19 #[v] w fun e w' => ∃ p c, e = .returned (.slice p L c) ∧ Below w.heap.size w w') :
    Calls Tryd.prog 5 #[v, .slice pr rn rc, .string other] w fun e w' => e = .returned (.bool true) ∧ Below w.heap.size w w' := by
  have HT : Aside (Table w ∧ 2 < w.heap.size) := ⟨ht, hg⟩
  clear ht hg
  have h1 : rn < 4 ∨ (4 ≤ rn ∧ L = 0) ∨ (4 ≤ rn ∧ 200 < L) := by omega
  clear hs
  rcases h1 with h1 | ⟨h1, rfl⟩ | ⟨h1, h2⟩
  · go_enter Tryd.func5, Tryd.ntmps5
    go_wp2_with fail
    refine hLv.mono ?_
    rintro e w1 ⟨p, c, rfl, b1⟩
    clear hLv
    go_wp2_with fail
    refine (groveLeaf_any other w1 (by omega) (table_at b1 HT.out.2 HT.out.1) (Nat.lt_of_lt_of_le HT.out.2 b1.size)).mono ?_
    rintro e w2 ⟨rfl, b2⟩
    go_wp2_with fail
    refine (leafRef_any other w2 (by omega)).mono ?_
    rintro e w3 ⟨rfl, b3⟩
    go_wp2_with fail
    go_ret
    have b4 := b1.trans (b2.mono b1.size)
    exact ⟨by simp, b4.trans (b3.mono b4.size)⟩
  · go_enter Tryd.func5, Tryd.ntmps5
    go_wp2_with fail
    refine hLv.mono ?_
    rintro e w1 ⟨p, c, rfl, b1⟩
    clear hLv
    go_wp2_with fail
    refine (groveLeaf_any other w1 (by omega) (table_at b1 HT.out.2 HT.out.1) (Nat.lt_of_lt_of_le HT.out.2 b1.size)).mono ?_
    rintro e w2 ⟨rfl, b2⟩
    go_wp2_with fail
    refine (leafRef_any other w2 (by omega)).mono ?_
    rintro e w3 ⟨rfl, b3⟩
    go_wp2_with fail
    go_ret
    have b4 := b1.trans (b2.mono b1.size)
    exact ⟨by simp, b4.trans (b3.mono b4.size)⟩
  · have h3 : ((L : Int) == 0) = false := by simp; omega
    go_enter Tryd.func5, Tryd.ntmps5
    go_wp2_with fail
    refine hLv.mono ?_
    rintro e w1 ⟨p, c, rfl, b1⟩
    clear hLv
    go_wp2_with fail
    refine (groveLeaf_any other w1 (by omega) (table_at b1 HT.out.2 HT.out.1) (Nat.lt_of_lt_of_le HT.out.2 b1.size)).mono ?_
    rintro e w2 ⟨rfl, b2⟩
    go_wp2_with fail
    refine (leafRef_any other w2 (by omega)).mono ?_
    rintro e w3 ⟨rfl, b3⟩
    go_wp2_with fail
    go_ret
    have b4 := b1.trans (b2.mono b1.size)
    exact ⟨by simp, b4.trans (b3.mono b4.size)⟩
end Go.Proofs.YtlhohmlpcgbliaaDoor
namespace Go.Proofs.YtlhohmlpcgbliaaDoor
set_option maxRecDepth 100000
open Go.RowKit
attribute [local go_sem ↓] Go.wp_at_zero Go.wp_at_succ

set_option maxRecDepth 100000 in
set_option maxHeartbeats 1000000 in
theorem paths_long (v : Value) (rb ro rn rc : Nat) (c0 c1 c2 c3 : Int) (ls : List ByteArray) (other : ByteArray) (w : World) (hrn : 4 ≤ rn) (hL1 : 1 ≤ ls.length) (hL2 : ls.length ≤ 200) (hos : other.size ≤ 1048576) (hls : ∀ s ∈ ls, s.size ≤ 1048576)
  (hc0 : w.cell? ⟨rb, ro, none⟩ = some (.int .i64 c0)) (hc1 : w.cell? ⟨rb, ro + 1, none⟩ = some (.int .i64 c1)) (hc2 : w.cell? ⟨rb, ro + 2, none⟩ = some (.int .i64 c2)) (hc3 : w.cell? ⟨rb, ro + 3, none⟩ = some (.int .i64 c3))
  (hr : Aside (∀ c, c = c0 ∨ c = c1 ∨ c = c2 ∨ c = c3 → -9223372036854775808 ≤ c ∧ c ≤ 9223372036854775807))
  (ht : Table w) (hg : 2 < w.heap.size) (hT : TabAt 1 Lib.deBruijn64tab w)
  (hLv : Calls Tryd.prog 19 #[v] w fun e w' => ∃ v', e = .returned v' ∧ Row w' w.heap.size 9 v' (strv ls) ∧ Below w.heap.size w w') :
    Calls Tryd.prog 5 #[v, .slice (some ⟨rb, ro, none⟩) rn rc, .string other] w fun e w' => e = .returned (.bool true) ∧ Below w.heap.size w w' := by
  have HT : Aside (Table w ∧ 2 < w.heap.size ∧ TabAt 1 Lib.deBruijn64tab w) := ⟨ht, hg, hT⟩
  have HC : Aside (w.cell? ⟨rb, ro, none⟩ = some (.int .i64 c0) ∧ w.cell? ⟨rb, ro + 1, none⟩ = some (.int .i64 c1) ∧ w.cell? ⟨rb, ro + 2, none⟩ = some (.int .i64 c2) ∧ w.cell? ⟨rb, ro + 3, none⟩ = some (.int .i64 c3)) := ⟨hc0, hc1, hc2, hc3⟩
  have HL : Aside (∀ s ∈ ls, s.size ≤ 1048576) := hls
  clear ht hg hT hc0 hc1 hc2 hc3 hls
  have h3 : ((ls.length : Int) == 0) = false := by rw [beq_eq_false_iff_ne]; omega
  go_enter Tryd.func5, Tryd.ntmps5
  go_wp2_with fail
  refine hLv.mono ?_
  rintro e w1 ⟨v', rfl, hrow, b1⟩
  clear hLv
  obtain ⟨g, cap, rfl, hgb, hcap, _, _, hglt, _⟩ := hrow.form (by rw [strv_length]; exact hL1)
  rw [strv_length] at hcap hrow ⊢
  have HA : Aside (SA w1 g 0 ls ∧ Below w.heap.size w w1 ∧ w.heap.size ≤ g ∧ g < w1.heap.size) := ⟨SA.of_row hrow hL1, b1, hgb, hglt⟩
  have hd : ∀ {a : Addr} {x : Value}, w.cell? a = some x → w1.cell? a = some x := fun h => by rw [b1.cell (World.block_lt_of_cell? _ _ h)]; exact h
  have d0 := hd HC.out.1
  have d1 := hd HC.out.2.1
  have d2 := hd HC.out.2.2.1
  have d3 := hd HC.out.2.2.2
  clear hrow b1 hgb hglt hd
  go_wp2_with fail
  refine (pick_any c0 ls.length w1 (hr.out c0 (by simp)).1 (hr.out c0 (by simp)).2 hL1 (by omega)).mono ?_
  rintro e w' ⟨rfl, hw'⟩
  rw [hw']
  clear hw'
  have hx0 := pickV_lt c0 ls.length hL1
  generalize pickV c0 ls.length = x0 at *
  go_wp2_with fail
  generalize hN : (1 + (x0 : Int)) = nI at *
  obtain ⟨N, rfl⟩ : ∃ N : Nat, nI = (N : Int) := ⟨x0 + 1, by omega⟩
  have hN1 : 1 ≤ N := by omega
  have hN2 : N ≤ ls.length := by omega
  clear hN hx0
  refine (pick_any c1 N w1 (hr.out c1 (by simp)).1 (hr.out c1 (by simp)).2 hN1 (by omega)).mono ?_
  rintro e w' ⟨rfl, hw'⟩
  rw [hw']
  clear hw'
  have hx1 := pickV_lt c1 N hN1
  generalize pickV c1 N = x1 at *
  go_wp2_with fail
  refine (pick_any c2 N w1 (hr.out c2 (by simp)).1 (hr.out c2 (by simp)).2 hN1 (by omega)).mono ?_
  rintro e w' ⟨rfl, hw'⟩
  rw [hw']
  clear hw'
  have hx2 := pickV_lt c2 N hN1
  generalize pickV c2 N = x2 at *
  have hs1 := fun wx => slice_h wx g 0 ls.length cap N (by omega)
  go_wp2_with fail
  generalize hM : (1 + (x2 : Int)) = mI at *
  obtain ⟨M, rfl⟩ : ∃ M : Nat, mI = (M : Int) := ⟨x2 + 1, by omega⟩
  have hM1 : 1 ≤ M := by omega
  have hM2 : M ≤ N := by omega
  clear hM hx2
  have hlN : (ls.take N).length = N := by rw [List.length_take]; omega
  have hlM : (ls.take M).length = M := by rw [List.length_take]; omega
  have HN : Aside ((ls.take N).length = N ∧ (ls.take M).length = M) := ⟨hlN, hlM⟩
  clear hlN hlM
  have g1 := gives_root g 0 cap (ls.take N) w1 (by have := HN.out.1; omega) (by have := HN.out.1; omega) (HA.out.1.take _) (fun s hs => HL.out s (List.mem_of_mem_take hs)) w1 (Below.refl _ _)
  have g2 := gives_root g 0 cap (ls.take M) w1 (by have := HN.out.2; omega) (by have := HN.out.2; omega) (HA.out.1.take _) (fun s hs => HL.out s (List.mem_of_mem_take hs))
  rw [HN.out.1] at g1
  rw [HN.out.2] at g2
  have HR : Aside ((mth (ls.take N)).size ≤ 1048576 ∧ (mth (ls.take M)).size ≤ 1048576) := by
    have hm : ∀ q : List ByteArray, (∀ s ∈ q, s.size ≤ 1048576) → (mth q).size ≤ 1048576 := fun q hq => by
      have := mth_size (N := 1048577) (fun s hs => by have := hq s hs; omega) (by omega); omega
    exact ⟨hm _ (fun s hs => HL.out s (List.mem_of_mem_take hs)), hm _ (fun s hs => HL.out s (List.mem_of_mem_take hs))⟩
  have HE : Aside ((∀ leaf, ls[x1]? = some leaf → inclB leaf x1 N (incF N x1 (ls.take N)) (mth (ls.take N)) = true) ∧ extB M N (mth (ls.take M)) (mth (ls.take N)) (conF N M (ls.take N) true) = true) := by
    refine ⟨fun leaf hl => ?_, ?_⟩
    · have := incl_right (ls.take N) x1 leaf (by rw [List.getElem?_take_of_lt hx1]; exact hl) (by have := HN.out.1; omega)
      rwa [HN.out.1] at this
    · have := ext_right (ls.take N) M hM1 (by have := HN.out.1; omega) (by have := HN.out.1; omega)
      rwa [HN.out.1, List.take_take, Nat.min_eq_left hM2] at this
  generalize mth (ls.take N) = R0 at *
  generalize mth (ls.take M) = O0 at *
  refine g1.mono ?_
  rintro e w2 ⟨rfl, b2⟩
  clear g1
  have hs2 := fun wx => slice_h wx g 0 ls.length cap M (by omega)
  go_wp2_with fail
  refine (g2 w2 b2).mono ?_
  rintro e w3 ⟨rfl, b3⟩
  clear g2
  have HA3 : Aside (SA w3 g 0 ls ∧ Below w.heap.size w w3 ∧ g < w3.heap.size) := by
    obtain ⟨h1, h2, h3, h4⟩ := HA.out
    have b := b2.trans (b3.mono b2.size)
    exact ⟨h1.below b, h2.trans (b.mono h2.size), Nat.lt_of_lt_of_le h4 b.size⟩
  clear HA b2 b3
  have g3 : GivesRow w3 28 #[.int .i64 (x1 : Int), .slice (some ⟨g, 0, none⟩) N cap] (incF N x1 (ls.take N)) := by
    have := inclusion_any N x1 (ls.take N) g 0 cap w3 (by have := HN.out.1; omega) (by omega) (by have := HN.out.1; omega) (by have := HN.out.1; omega) (HA3.out.1.take _) (fun s hs => HL.out s (List.mem_of_mem_take hs))
    rwa [HN.out.1] at this
  go_wp2_with fail
  refine (show Calls _ _ _ _ _ from g3).mono ?_
  rintro e w4 ⟨vp, rfl, rowp, b4⟩
  clear g3
  have HA4 : Aside (SA w4 g 0 ls ∧ Below w.heap.size w w4) := ⟨HA3.out.1.below b4, HA3.out.2.1.trans (b4.mono HA3.out.2.1.size)⟩
  have g4 : GivesRow w4 29 #[.int .i64 (M : Int), .slice (some ⟨g, 0, none⟩) N cap, .bool true] (conF N M (ls.take N) true) := by
    have := consistency_any N M (ls.take N) true g 0 cap w4 (by have := HN.out.1; omega) (by omega) (by have := HN.out.1; omega) hM1 (by have := HN.out.1; omega) (HA4.out.1.take _) (fun s hs => HL.out s (List.mem_of_mem_take hs))
    rwa [HN.out.1] at this
  have HP : Aside (((incF N x1 (ls.take N)).length ≤ 1000 ∧ (∀ s ∈ incF N x1 (ls.take N), s.size ≤ 1048576)) ∧ (conF N M (ls.take N) true).length ≤ 1000 ∧ ∀ s ∈ conF N M (ls.take N) true, s.size ≤ 1048576) := by
    refine ⟨⟨Nat.le_trans (incF_length N _ _) (by omega), ?_⟩, Nat.le_trans (conF_length N _ _ _) (by omega), ?_⟩
    · exact incF_size N x1 (ls.take N) (fun s hs => HL.out s (List.mem_of_mem_take hs))
    · exact conF_size N M (ls.take N) true (fun s hs => HL.out s (List.mem_of_mem_take hs))
  generalize incF N x1 (ls.take N) = ps at *
  generalize conF N M (ls.take N) true = qs at *
  have HRp : Aside (Row w4 w3.heap.size 9 vp (strv ps) ∧ Below w3.heap.size w3 w4) := ⟨rowp, b4⟩
  clear rowp b4
  go_wp2_with fail
  refine (show Calls _ _ _ _ _ from g4).mono ?_
  rintro e w5 ⟨vq, rfl, rowq, b5⟩
  clear g4
  obtain ⟨leaf, hleaf⟩ : ∃ leaf, ls[x1]? = some leaf := ⟨_, List.getElem?_eq_getElem (by omega)⟩
  obtain ⟨l0, hl0⟩ : ∃ l0, ls[0]? = some l0 := ⟨_, List.getElem?_eq_getElem (by omega)⟩
  have HA5 : Aside (SA w5 g 0 ls ∧ Below w.heap.size w w5) := ⟨HA4.out.1.below b5, HA4.out.2.trans (b5.mono HA4.out.2.size)⟩
  have hcl : w5.cell? ⟨g, x1, none⟩ = some (.string leaf) := by have := HA5.out.1 x1 leaf hleaf; rwa [Nat.zero_add] at this
  have HRq : Aside (Row w5 w3.heap.size 9 vp (strv ps) ∧ Row w5 w4.heap.size 9 vq (strv qs) ∧ w3.heap.size ≤ w4.heap.size ∧ w4.heap.size ≤ w5.heap.size ∧ ∀ k, vp.ownBlock = some k → k < w4.heap.size) :=
    ⟨HRp.out.1.below b5 (Nat.le_refl _), rowq, HRp.out.2.size, b5.size, fun k hk => (World.ownsRow.lt HRp.out.1 k hk).2⟩
  have HF : Aside (leaf.size ≤ 1048576 ∧ l0.size ≤ 1048576 ∧ ls[0]? = some l0 ∧ inclB leaf x1 N ps R0 = true) := ⟨HL.out _ (List.mem_of_getElem? hleaf), HL.out _ (List.mem_of_getElem? hl0), hl0, HE.out.1 leaf hleaf⟩
  clear rowq b5 HA4 HRp hleaf hl0
  have g5 := incl_any leaf R0 x1 N vp ps w5 HF.out.1 (LA.of_row HRq.out.1).2 (Few.of HP.out.1.1 HP.out.1.2) (table_at HA5.out.2 HT.out.2.1 HT.out.1) (Nat.lt_of_lt_of_le HT.out.2.1 HA5.out.2.size)
  rw [HF.out.2.2.2] at g5
  go_wp2_with fail
  refine g5.mono ?_
  rintro e w6 ⟨rfl, b6⟩
  clear g5 hcl
  have HA6 : Aside (SA w6 g 0 ls ∧ Below w.heap.size w w6) := ⟨HA5.out.1.below b6, HA5.out.2.trans (b6.mono HA5.out.2.size)⟩
  have HR6 : Aside (Row w6 w3.heap.size 9 vp (strv ps) ∧ Row w6 w4.heap.size 9 vq (strv qs) ∧ w3.heap.size ≤ w4.heap.size ∧ w4.heap.size ≤ w6.heap.size ∧ ∀ k, vp.ownBlock = some k → k < w4.heap.size) :=
    ⟨HRq.out.1.below b6 (Nat.le_refl _), HRq.out.2.1.below b6 (Nat.le_refl _), HRq.out.2.2.1, Nat.le_trans HRq.out.2.2.2.1 b6.size, HRq.out.2.2.2.2⟩
  clear b6 HA5 HRq
  have g6 := ext_any O0 R0 M N vq qs w6 HR.out.2 (LA.of_row HR6.out.2.1).2 (Few.of HP.out.2.1 HP.out.2.2) (table_at HA6.out.2 HT.out.2.1 HT.out.1) (Nat.lt_of_lt_of_le HT.out.2.1 HA6.out.2.size) (tabAt_below HA6.out.2 HT.out.2.2)
  rw [HE.out.2] at g6
  go_wp2_with fail
  refine g6.mono ?_
  rintro e w7 ⟨rfl, b7⟩
  clear g6
  have HA7 : Aside (SA w7 g 0 ls ∧ Below w.heap.size w w7) := ⟨HA6.out.1.below b7, HA6.out.2.trans (b7.mono HA6.out.2.size)⟩
  have HR7 : Aside (Row w7 w3.heap.size 9 vp (strv ps) ∧ Row w7 w4.heap.size 9 vq (strv qs) ∧ w3.heap.size ≤ w4.heap.size ∧ w4.heap.size ≤ w7.heap.size ∧ ∀ k, vp.ownBlock = some k → k < w4.heap.size) :=
    ⟨HR6.out.1.below b7 (Nat.le_refl _), HR6.out.2.1.below b7 (Nat.le_refl _), HR6.out.2.2.1, Nat.le_trans HR6.out.2.2.2.1 b7.size, HR6.out.2.2.2.2⟩
  clear b7 HA6 HR6
  have g7 := bent_any vp vq ps qs other rb ro rn rc x1 N M w3.heap.size w4.heap.size c3 w7 HR7.out.2.2.1 HR7.out.2.2.2.1 HR7.out.1 HR7.out.2.1 HR7.out.2.2.2.2 HP.out.1.1 HP.out.2.1 HP.out.1.2 HP.out.2.2 hos
    (by rw [HA7.out.2.cell (World.block_lt_of_cell? _ _ HC.out.2.2.2)]; exact HC.out.2.2.2) hrn (hr.out c3 (by simp)).1 (hr.out c3 (by simp)).2 (by omega) (by omega) (by omega)
  go_wp2_with fail
  refine g7.mono ?_
  rintro e w8 ⟨vp', vq', i', n', m', ps', qs', rfl, la1, la2, f1, f2, b8⟩
  clear g7
  have HA8 : Aside (Below w.heap.size w w8 ∧ LA w8 vp' ps' ∧ LA w8 vq' qs' ∧ Few ps' ∧ Few qs' ∧ w8.cell? ⟨g, 0, none⟩ = some (.string l0)) := by
    refine ⟨HA7.out.2.trans (b8.mono HA3.out.2.1.size), la1, la2, f1, f2, ?_⟩
    rw [b8.cell (show g < w3.heap.size from HA3.out.2.2)]
    exact HA7.out.1 0 l0 HF.out.2.2.1
  clear la1 la2 f1 f2 b8 HA7 HR7 HA3 HE HP
  have hc8 := HA8.out.2.2.2.2.2
  have g8 := checks_any l0 R0 O0 i' n' m' vp' ps' w8 HF.out.2.1 HR.out.1 HR.out.2 HA8.out.2.1.1 HA8.out.2.1.2 HA8.out.2.2.2.1 (table_at HA8.out.1 HT.out.2.1 HT.out.1) (Nat.lt_of_lt_of_le HT.out.2.1 HA8.out.1.size) (tabAt_below HA8.out.1 HT.out.2.2)
  go_wp2_with fail
  refine g8.mono ?_
  rintro e w9 ⟨rfl, b9⟩
  clear g8
  have hc9 : w9.cell? ⟨g, 0, none⟩ = some (.string l0) := by rw [b9.cell (World.block_lt_of_cell? _ _ hc8)]; exact hc8
  have HA9 : Aside (Below w.heap.size w w9 ∧ LA w9 vp' ps' ∧ LA w9 vq' qs' ∧ Few ps' ∧ Few qs') := ⟨HA8.out.1.trans (b9.mono HA8.out.1.size), HA8.out.2.1.below b9, HA8.out.2.2.1.below b9, HA8.out.2.2.2.1, HA8.out.2.2.2.2.1⟩
  clear b9 HA8 hc8
  have g9 := checks_any l0 R0 O0 i' n' m' vq' qs' w9 HF.out.2.1 HR.out.1 HR.out.2 HA9.out.2.2.1.1 HA9.out.2.2.1.2 HA9.out.2.2.2.2 (table_at HA9.out.1 HT.out.2.1 HT.out.1) (Nat.lt_of_lt_of_le HT.out.2.1 HA9.out.1.size) (tabAt_below HA9.out.1 HT.out.2.2)
  go_wp2_with fail
  refine g9.mono ?_
  rintro e w10 ⟨rfl, b10⟩
  clear g9 hc9
  have HA10 : Aside (Below w.heap.size w w10 ∧ LA w10 vp' ps' ∧ Few ps') := ⟨HA9.out.1.trans (b10.mono HA9.out.1.size), HA9.out.2.1.below b10, HA9.out.2.2.2.1⟩
  clear b10 HA9
  have g10 := checks_any other R0 R0 i' n' m' vp' ps' w10 hos HR.out.1 HR.out.1 HA10.out.2.1.1 HA10.out.2.1.2 HA10.out.2.2 (table_at HA10.out.1 HT.out.2.1 HT.out.1) (Nat.lt_of_lt_of_le HT.out.2.1 HA10.out.1.size) (tabAt_below HA10.out.1 HT.out.2.2)
  go_wp2_with fail
  refine g10.mono ?_
  rintro e w11 ⟨rfl, b11⟩
  clear g10
  go_wp2_with fail
  go_ret
  exact ⟨rfl, HA10.out.1.trans (b11.mono HA10.out.1.size)⟩
end Go.Proofs.YtlhohmlpcgbliaaDoor
namespace Go.Proofs.YtlhohmlpcgbliaaDoor
set_option maxRecDepth 100000
open Go.RowKit

/-- What the list of raw numbers is: so many, in cells. -/
def RawI (w : World) (v : Value) : Prop := ∃ p rn rc, v = .slice p rn rc ∧ ∀ i, i < rn → ∃ b o c, p = some ⟨b, o, none⟩ ∧ w.cell? ⟨b, o + i, none⟩ = some (.int .i64 c) ∧ -9223372036854775808 ≤ c ∧ c ≤ 9223372036854775807

theorem paths_any (v raw : Value) (ss : List ByteArray) (other : ByteArray) (w : World) (hS : Strs w v ss) (hn : ss.length ≤ 1048576) (hz : ∀ s ∈ ss, s.size ≤ 1048576) (hR : RawI w raw) (ho : other.size ≤ 1048576)
  (ht : Table w) (hg : 2 < w.heap.size) (hT : TabAt 1 Lib.deBruijn64tab w) :
    Calls Tryd.prog 5 #[v, raw, .string other] w fun e w' => e = .returned (.bool true) ∧ Below w.heap.size w w' := by
  have hLv := leaves_any v ss w hS (by omega) (fun s hs => by have := hz s hs; omega)
  have hll : (ss.map leafS).length = ss.length := List.length_map ..
  obtain ⟨p, rn, rc, rfl, hcell⟩ := hR
  by_cases h : rn < 4 ∨ ss.length = 0 ∨ 200 < ss.length
  · refine paths_short v p rn rc ss.length other w h hn ho ht hg (hLv.mono ?_)
    rintro e w' ⟨v', rfl, hrow, hb⟩
    obtain ⟨q, c, rfl⟩ := hrow.shape
    exact ⟨q, c, by rw [strv_length, hll], hb⟩
  · have h4 : 4 ≤ rn := by omega
    obtain ⟨b, o, c0, rfl, d0, l0, u0⟩ := hcell 0 (by omega)
    obtain ⟨b1, o1, c1, e1, d1, l1, u1⟩ := hcell 1 (by omega)
    obtain ⟨b2, o2, c2, e2, d2, l2, u2⟩ := hcell 2 (by omega)
    obtain ⟨b3, o3, c3, e3, d3, l3, u3⟩ := hcell 3 (by omega)
    cases e1; cases e2; cases e3
    refine paths_long v b o rn rc c0 c1 c2 c3 (ss.map leafS) other w h4 (by omega) (by omega) ho ?_ d0 d1 d2 d3 ?_ ht hg hT hLv
    · intro s hs
      obtain ⟨t, _, rfl⟩ := List.mem_map.1 hs
      rw [leafS_size]; omega
    · rintro c (rfl | rfl | rfl | rfl)
      · exact ⟨l0, u0⟩
      · exact ⟨l1, u1⟩
      · exact ⟨l2, u2⟩
      · exact ⟨l3, u3⟩
end Go.Proofs.YtlhohmlpcgbliaaDoor
namespace Go.Proofs.YtlhohmlpcgbliaaDoor
set_option maxRecDepth 100000
open Go.RowKit
attribute [local go_sem ↓] Go.wp_at_zero Go.wp_at_succ

set_option maxHeartbeats 400000 in
theorem cutE_any (s : ByteArray) (w : World) (hs : s.size ≤ 140737488355328) : Calls Tryd.prog 41 #[.string s] w fun e w' => ∃ t, e = .returned (.string t) ∧ t.size ≤ 40 ∧ w' = w := by
  by_cases h : s.size ≤ 40
  · go_enter Tryd.func41, Tryd.ntmps41
    go_wp2
    go_ret
    exact ⟨s, rfl, by omega, rfl⟩
  · go_enter Tryd.func41, Tryd.ntmps41
    go_wp2
    go_ret
    exact ⟨_, rfl, by rw [ByteArray.size_extract]; omega, rfl⟩

set_option maxRecDepth 100000 in
set_option maxHeartbeats 1000000 in
theorem entriesE_any (v : Value) (ss : List ByteArray) (w : World) (hS : Strs w v ss) (hn : ss.length ≤ 140737488355328) (hz : ∀ s ∈ ss, s.size ≤ 140737488355328) :
    Calls Tryd.prog 31 #[v] w fun e w' => ∃ v' ts, e = .returned v' ∧ Row w' w.heap.size 9 v' (strv ts) ∧ ts.length ≤ 64 ∧ (∀ s ∈ ts, s.size ≤ 40) ∧ Below w.heap.size w w' := by
  obtain ⟨a, c, rfl, hcells⟩ := hS
  have HC : Hid (∀ (i : Nat) s, ss[i]? = some s → ∃ g off, a = some ⟨g, off, none⟩ ∧ w.cell? ⟨g, off + i, none⟩ = some (.string s)) := hcells
  have HZ : Hid (∀ s ∈ ss, s.size ≤ 140737488355328) := hz
  clear hcells hz
  go_enter Tryd.func31, Tryd.ntmps31
  try go_wp2
  go_loopw [3, 4] (fun v i wr => ∃ (k : Nat) (ts : List ByteArray), k ≤ ss.length ∧ k ≤ 64 ∧ i = .int .i64 k ∧ Row wr w.heap.size 9 v (strv ts) ∧ Hid (ts.length = k ∧ ∀ s ∈ ts, s.size ≤ 40) ∧ Below w.heap.size w wr) (fun _ i _ => ss.length - (intOf i).toNat)
  case atStart => exact ⟨0, [], by omega, by omega, rfl, World.ownsRow_nil _ _ _ _, ⟨rfl, fun s hs => by simp at hs⟩, Below.refl _ _⟩
  case round =>
    obtain ⟨k, ts, hk, hk64, rfl, hrow, HTs, hb⟩ := hrel
    by_cases h8 : k < ss.length
    · by_cases h9 : k < 64
      · obtain ⟨s, hs⟩ : ∃ s, ss[k]? = some s := ⟨_, List.getElem?_eq_getElem h8⟩
        obtain ⟨g, off, rfl, hcell⟩ := HC.out k s hs
        have hcell' : wr.cell? ⟨g, off + k, none⟩ = some (.string s) := by
          rw [hb.cell (World.block_lt_of_cell? _ _ hcell)]; exact hcell
        have hcu := cutE_any s wr (HZ.out s (List.mem_of_getElem? hs))
        have hxl : (strv ts).length = k := by rw [strv_length]; exact HTs.out.1
        have HN : Hid (∀ t, strv ts ++ [.string t] = strv (ts ++ [t])) := fun t => by simp [strv]
        have hsz0 := hb.size
        clear hcell hs
        generalize strv ts = xs at *
        go_wp2_with (first | (go_at_call 41; refine hcu.mono ?_; rintro e w1 ⟨t, rfl, htz, hw1⟩; rw [hw1]; clear hw1) | (at_builtin; refine wpList_app elem_string rfl Tryd.underlying22 (by rfl) (.tmp 15) (.tmp 21) (by rfl) w.heap.size _ xs (by rfl) (hrow.alloc _) _ 1 1 [.string t] (by rfl) rfl (Blk.new _ 9 _) ?h1 ?hl ?hb ?hbs (w0 := w) (hb.alloc hsz0 _) (Nat.le_refl _) ?_))
        case h1 => intro u hu; simp at hu; subst hu; rfl
        case hl => omega
        case hb => omega
        case hbs => simp; omega
        intro v' w' hv' _ hb'
        rw [HN.out t] at hv'
        go_wp2
        go_roundw
        case rel => exact ⟨k + 1, ts ++ [t], by omega, by omega, by go_num, hv', ⟨by rw [List.length_append, HTs.out.1]; rfl, fun x hx => by
          rcases List.mem_append.1 hx with h | h
          · exact HTs.out.2 x h
          · rw [List.mem_singleton.1 h]; exact htz⟩, hb'⟩
        case measure => simp [intOf]; omega
      · have hk8 : k = 64 := by omega
        subst hk8
        go_wp2
        go_ret
        exact ⟨_, ts, rfl, hrow, by rw [HTs.out.1]; omega, HTs.out.2, hb⟩
    · have hk8 : k = ss.length := by omega
      subst hk8
      go_wp2
      go_ret
      exact ⟨_, ts, rfl, hrow, by rw [HTs.out.1]; exact hk64, HTs.out.2, hb⟩
set_option maxHeartbeats 400000 in
theorem pickG_any (c : Int) (n : Nat) (w : World) (h1 : -9223372036854775808 ≤ c) (h2 : c ≤ 9223372036854775807) (hn : 1 ≤ n) (hn2 : n ≤ 1000000000000) :
    Calls Tryd.prog 32 #[.int .i64 c, .int .i64 (n : Int)] w fun e w' => e = .returned (.int .i64 (pickV c n : Nat)) ∧ w' = w := by
  have hz : ((n : Int) == 0) = false := by simp; omega
  by_cases hc : c < 0
  · have HP : Aside (-((c + 1).tmod (n : Int)) = ((pickV c n : Nat) : Int)) := by
      show _ = _
      rw [← Int.neg_tmod, Int.tmod_eq_emod_of_nonneg (by omega), pickV, if_pos hc, Int.natCast_emod, Int.toNat_of_nonneg (by omega)]
    go_enter Tryd.func32, Tryd.ntmps32
    go_wp2
    go_ret
    rw [← HP.out]
    exact ⟨rfl, rfl⟩
  · have HP : Aside (c % (n : Int) = ((pickV c n : Nat) : Int)) := by
      show _ = _
      rw [pickV, if_neg hc, Int.natCast_emod, Int.toNat_of_nonneg (by omega)]
    go_enter Tryd.func32, Tryd.ntmps32
    go_wp2
    go_ret
    rw [← HP.out]
    exact ⟨rfl, rfl⟩


/-- What the log's own blocks leave alone: all that was there before it. -/
theorem FrL.below {a b : Nat} {g h g' h' : Option Nat} {w w1 w2 : World} (hb : Below w.heap.size w w1) (r : FrL a b g h g' h' w1 w2) (ha : w.heap.size ≤ a) (hbb : w.heap.size ≤ b) (hg : ∀ k, g = some k → w.heap.size ≤ k) (hh : ∀ k, h = some k → w.heap.size ≤ k) : Below w.heap.size w w2 ∧ (∀ k, g' = some k → w.heap.size ≤ k) ∧ (∀ k, h' = some k → w.heap.size ≤ k) := by
  refine ⟨⟨r.os.trans hb.os, r.tape.trans hb.tape, r.output.trans hb.output, Nat.le_trans hb.size r.size, fun k hk => ?_⟩, ?_, ?_⟩
  · exact (r.block k (Nat.lt_of_lt_of_le hk hb.size) (by omega) (by omega) (fun e => by have := hg k e; omega) (fun e => by have := hh k e; omega)).trans (hb.block k hk)
  · intro k hk
    rcases r.own with e | e | ⟨j, e, hj⟩
    · rw [e] at hk; cases hk
    · rw [e] at hk; exact hg k hk
    · rw [e] at hk; cases hk; exact Nat.le_trans hb.size hj
  · intro k hk
    rcases r.own2 with e | e | ⟨j, e, hj⟩
    · rw [e] at hk; cases hk
    · rw [e] at hk; exact hh k hk
    · rw [e] at hk; cases hk; exact Nat.le_trans hb.size hj
theorem env_of {w w1 : World} {b : Nat} {g : Option Nat} (ht : Table w) (hg : 2 < w.heap.size) (hb : Below w.heap.size w w1) (hbb : w.heap.size ≤ b) (ho : ∀ k, g = some k → w.heap.size ≤ k) : Env w1 b g :=
  ⟨table_at hb hg ht, Nat.lt_of_lt_of_le hg hb.size, by omega, fun e => by have := ho _ e; omega⟩
end Go.Proofs.YtlhohmlpcgbliaaDoor
namespace Go.Proofs.YtlhohmlpcgbliaaDoor
set_option maxRecDepth 100000
open Go.RowKit
attribute [local go_sem ↓] Go.wp_at_zero Go.wp_at_succ

set_option maxHeartbeats 8000000 in
theorem grown_any (cb co cc : Nat) (gv : Value) (ts : List ByteArray) (w : World) (hS0 : SA w cb co ts) (hcb : cb < w.heap.size) (hcc : ts.length ≤ cc) (hl64 : ts.length ≤ 64) (hz : ∀ s ∈ ts, s.size ≤ 40) (hR : RawI w gv) (ht : Table w) (hg : 2 < w.heap.size) :
    Calls Tryd.prog 35 #[.slice (some ⟨cb, co, none⟩) ts.length cc, gv] w fun e w' => ∃ (a b : Nat) (fv : Value) (D : Dk), e = .returned (.pointer (some ⟨a, 0, none⟩)) ∧ LogAt w' a b fv (.slice none 0 0) D [] ∧ Holds D ts ∧ Below w.heap.size w w' ∧ w.heap.size ≤ a ∧ w.heap.size ≤ b ∧ (∀ k, fv.ownBlock = some k → w.heap.size ≤ k) := by
  obtain ⟨p, rn, rc, rfl, hraw⟩ := hR
  have hnew := groveNew_any w ht hg
  go_enter Tryd.func35, Tryd.ntmps35
  go_wp2_with fail
  refine hnew.mono ?_
  rintro e w1 ⟨a, b, rfl, ha, hb, hL1, hb1⟩
  clear hnew
  go_wp2_with fail
  go_loopw [0, 6] (fun l u wr => ∃ (d o c kk : Nat) (fv : Value) (D : Dk), d ≤ ts.length ∧ kk ≤ d ∧ ts.length - d ≤ c ∧ l = .slice (some ⟨cb, o, none⟩) (ts.length - d) c ∧ u = .int .i64 (kk : Int) ∧ SA wr cb o (ts.drop d) ∧ LogAt wr a b fv (.slice none 0 0) D [] ∧ Holds D (ts.take d) ∧ Below w.heap.size w wr ∧ (∀ k, fv.ownBlock = some k → w.heap.size ≤ k)) (fun l _ _ => sliceLen l)
  case atStart => exact ⟨0, co, cc, 0, _, _, by omega, by omega, by simpa using hcc, by simp, rfl, by simpa using hS0.below hb1, hL1, by simpa using fresh_holds, hb1, fun k hk => by simp [Value.ownBlock] at hk⟩
  case round =>
    obtain ⟨d, o, c, kk, fv, D, hd, hkd, hrc, rfl, rfl, hS, hL, hH, hbw, hfo⟩ := hrel
    clear hL1 hb1
    have hN := hH.ckN
    rw [List.length_take, Nat.min_eq_left hd] at hN
    generalize hreq : ts.length - d = r at *
    by_cases h0 : r = 0
    · have hdd : d = ts.length := by omega
      subst hdd
      rw [List.take_length] at hH
      subst h0
      go_wp2
      go_ret
      exact ⟨a, b, fv, D, rfl, hL, hH, hbw, ha, hb, hfo⟩
    · have h0' : (0 : Int) < (r : Int) := by omega
      by_cases hk : kk < rn
      · obtain ⟨gb, go', cv, rfl, hcell, hc1, hc2⟩ := hraw kk hk
        have hcell' : wr.cell? ⟨gb, go' + kk, none⟩ = some (.int .i64 cv) := by
          rw [hbw.cell (World.block_lt_of_cell? _ _ hcell)]; exact hcell
        have hpk : Calls Tryd.prog 32 #[.int .i64 cv, .int .i64 12] wr fun e w' => e = .returned (.int .i64 (pickV cv 12 : Nat)) ∧ w' = wr := pickG_any cv 12 wr hc1 hc2 (by omega) (by omega)
        have hpl := pickV_lt cv 12 (by omega)
        have hk' : (kk : Int) < (rn : Int) := by omega
        clear hcell
        generalize pickV cv 12 = pv at *
        by_cases hn : 1 + pv > r
        · have hn' : (1 + (pv : Int)) > (r : Int) := by omega
          have hnI : ((r : Nat) : Int) = (r : Int) := by omega
          have hsh : ∀ wx, (Instr.sliceAt 22 (.slice (some ⟨cb, o, none⟩) r c) none (some (.int .i64 ((r : Int)))) none).run Tryd.prog wx = .ok (.slice (some ⟨cb, o, none⟩) (r) c) wx := fun wx => by
            rw [← hnI]; exact slice_h wx cb o r c (r) (by omega)
          have hst : ∀ wx, (Instr.sliceAt 22 (.slice (some ⟨cb, o, none⟩) r c) (some (.int .i64 ((r : Int)))) none none).run Tryd.prog wx = .ok (.slice (some ⟨cb, if c = r then o else o + (r), none⟩) (r - (r)) (c - (r))) wx := fun wx => by
            rw [← hnI]; exact slice_tl wx cb o r c (r) (by omega) hrc
          have ho7 : r < r → (if c = r then o else o + (r)) = o + (r) := fun h => by rw [if_neg (by omega)]
          generalize (if c = r then o else o + (r)) = o7 at *
          have hlen : ((ts.drop d).take (r)).length = r := by rw [List.length_take, List.length_drop]; omega
          have hck := logCk_ok hL hH.nf.failed
          rw [hN] at hck
          generalize strOf D.ckR = rt at *
          go_wp2_with fail
          refine hpk.mono ?_
          rintro e w1' ⟨rfl, rfl⟩
          go_wp2_with fail
          refine hck.mono ?_
          rintro e w2 ⟨rfl, hb2⟩
          have hL2 := hL.below hb2
          have hbw2 := hbw.trans (hb2.mono hbw.size)
          have hS2 := hS.below hb2
          have hsub := submit_ok hL2 hH.nf.failed hH.jn cb o c ((ts.drop d).take (r)) (hS2.take _) (by have := hbw2.size; omega) (by omega) (by omega) (fun e => by have := hfo _ e; omega) (by simp [Value.ownBlock]) (fun s hs => hz s (List.mem_of_mem_drop (List.mem_of_mem_take hs))) (by rw [hlen]; simp <;> omega) (by rw [hlen, hN]; simp; omega)
          rw [hlen, List.nil_append] at hsub
          go_wp2_with fail
          refine hsub.mono ?_
          rintro e w3 ⟨rfl, wv3, hL3, hR3⟩
          clear hsub hck
          obtain ⟨hbw3, hfo3, hwo3⟩ := FrL.below hbw2 hR3 ha hb hfo (fun k hk => by simp [Value.ownBlock] at hk)
          have hz3 : ∀ s ∈ (ts.drop d).take (r), s.size ≤ 40 := fun s hs => hz s (List.mem_of_mem_drop (List.mem_of_mem_take hs))
          have hfd : D.flushed ((ts.drop d).take (r)) = D.add ((ts.drop d).take (r)) := by
            unfold Dk.flushed
            rw [if_neg (by rw [hlen]; omega)]
          have hH4 := add_spec hH (W := (ts.drop d).take (r)) (by rw [hlen]; omega) hz3 (by rw [hlen, List.length_take]; omega)
          have htk : ts.take d ++ (ts.drop d).take (r) = ts.take (d + (r)) := (List.take_add ..).symm
          rw [htk] at hH4
          have hN4 := hH4.ckN
          rw [List.length_take, Nat.min_eq_left (by omega)] at hN4
          have hfl := logFlush_any hL3 hH.nf.failed hH.jn hz3 (by rw [hlen, hN]; omega) (by rw [hH.fre]; simp) (env_of ht hg hbw3 hb hfo3) (by rw [hfd]; exact hH4.nf.failed)
          rw [hfd, hN4] at hfl
          have hcI : ((d + (r) : Nat) : Int) = (d : Int) + ((r : Int)) := by omega
          rw [hcI] at hfl
          generalize D.add ((ts.drop d).take (r)) = D4 at *
          go_wp2_with fail
          refine hfl.mono ?_
          rintro e w4 ⟨rfl, fv4, hL4, hR4⟩
          clear hfl
          obtain ⟨hbw4, hfo4, _⟩ := FrL.below hbw3 hR4 ha hb hfo3 hwo3
          have hS4 : SA w4 cb o7 (ts.drop (d + (r))) := by
            have hS0 : SA w4 cb o (ts.drop d) := fun i s hs => by
              have h9 := hS i s hs
              have h8 : w.cell? ⟨cb, o + i, none⟩ = some (.string s) := by rw [← hbw.cell (p := ⟨cb, o + i, none⟩) hcb]; exact h9
              rw [hbw4.cell (p := ⟨cb, o + i, none⟩) hcb]; exact h8
            by_cases hjr : r < r
            · rw [ho7 hjr]
              have := hS0.drop (r)
              rw [List.drop_drop] at this
              exact this
            · rw [List.drop_eq_nil_of_le (by omega)]
              intro i s hs
              simp at hs
          have hmj : r - (r) < r := by omega
          clear hS hL hL2 hL3 hR3 hR4 hS2
          go_wp2
          go_roundw
          case rel => exact ⟨d + (r), o7, c - (r), kk + 1, fv4, D4, by omega, by omega, by omega, by congr 1; omega, by go_num, hS4, hL4, hH4, hbw4, hfo4⟩
          case measure => simpa [sliceLen] using hmj
        · have hn' : ¬ (1 + (pv : Int)) > (r : Int) := by omega
          have hnI : ((1 + pv : Nat) : Int) = 1 + (pv : Int) := by omega
          have hsh : ∀ wx, (Instr.sliceAt 22 (.slice (some ⟨cb, o, none⟩) r c) none (some (.int .i64 (1 + (pv : Int)))) none).run Tryd.prog wx = .ok (.slice (some ⟨cb, o, none⟩) (1 + pv) c) wx := fun wx => by
            rw [← hnI]; exact slice_h wx cb o r c (1 + pv) (by omega)
          have hst : ∀ wx, (Instr.sliceAt 22 (.slice (some ⟨cb, o, none⟩) r c) (some (.int .i64 (1 + (pv : Int)))) none none).run Tryd.prog wx = .ok (.slice (some ⟨cb, if c = 1 + pv then o else o + (1 + pv), none⟩) (r - (1 + pv)) (c - (1 + pv))) wx := fun wx => by
            rw [← hnI]; exact slice_tl wx cb o r c (1 + pv) (by omega) hrc
          have ho7 : 1 + pv < r → (if c = 1 + pv then o else o + (1 + pv)) = o + (1 + pv) := fun h => by rw [if_neg (by omega)]
          generalize (if c = 1 + pv then o else o + (1 + pv)) = o7 at *
          have hlen : ((ts.drop d).take (1 + pv)).length = 1 + pv := by rw [List.length_take, List.length_drop]; omega
          have hck := logCk_ok hL hH.nf.failed
          rw [hN] at hck
          generalize strOf D.ckR = rt at *
          go_wp2_with fail
          refine hpk.mono ?_
          rintro e w1' ⟨rfl, rfl⟩
          go_wp2_with fail
          refine hck.mono ?_
          rintro e w2 ⟨rfl, hb2⟩
          have hL2 := hL.below hb2
          have hbw2 := hbw.trans (hb2.mono hbw.size)
          have hS2 := hS.below hb2
          have hsub := submit_ok hL2 hH.nf.failed hH.jn cb o c ((ts.drop d).take (1 + pv)) (hS2.take _) (by have := hbw2.size; omega) (by omega) (by omega) (fun e => by have := hfo _ e; omega) (by simp [Value.ownBlock]) (fun s hs => hz s (List.mem_of_mem_drop (List.mem_of_mem_take hs))) (by rw [hlen]; simp <;> omega) (by rw [hlen, hN]; simp; omega)
          rw [hlen, List.nil_append] at hsub
          go_wp2_with fail
          refine hsub.mono ?_
          rintro e w3 ⟨rfl, wv3, hL3, hR3⟩
          clear hsub hck
          obtain ⟨hbw3, hfo3, hwo3⟩ := FrL.below hbw2 hR3 ha hb hfo (fun k hk => by simp [Value.ownBlock] at hk)
          have hz3 : ∀ s ∈ (ts.drop d).take (1 + pv), s.size ≤ 40 := fun s hs => hz s (List.mem_of_mem_drop (List.mem_of_mem_take hs))
          have hfd : D.flushed ((ts.drop d).take (1 + pv)) = D.add ((ts.drop d).take (1 + pv)) := by
            unfold Dk.flushed
            rw [if_neg (by rw [hlen]; omega)]
          have hH4 := add_spec hH (W := (ts.drop d).take (1 + pv)) (by rw [hlen]; omega) hz3 (by rw [hlen, List.length_take]; omega)
          have htk : ts.take d ++ (ts.drop d).take (1 + pv) = ts.take (d + (1 + pv)) := (List.take_add ..).symm
          rw [htk] at hH4
          have hN4 := hH4.ckN
          rw [List.length_take, Nat.min_eq_left (by omega)] at hN4
          have hfl := logFlush_any hL3 hH.nf.failed hH.jn hz3 (by rw [hlen, hN]; omega) (by rw [hH.fre]; simp) (env_of ht hg hbw3 hb hfo3) (by rw [hfd]; exact hH4.nf.failed)
          rw [hfd, hN4] at hfl
          have hcI : ((d + (1 + pv) : Nat) : Int) = (d : Int) + (1 + (pv : Int)) := by omega
          rw [hcI] at hfl
          generalize D.add ((ts.drop d).take (1 + pv)) = D4 at *
          go_wp2_with fail
          refine hfl.mono ?_
          rintro e w4 ⟨rfl, fv4, hL4, hR4⟩
          clear hfl
          obtain ⟨hbw4, hfo4, _⟩ := FrL.below hbw3 hR4 ha hb hfo3 hwo3
          have hS4 : SA w4 cb o7 (ts.drop (d + (1 + pv))) := by
            have hS0 : SA w4 cb o (ts.drop d) := fun i s hs => by
              have h9 := hS i s hs
              have h8 : w.cell? ⟨cb, o + i, none⟩ = some (.string s) := by rw [← hbw.cell (p := ⟨cb, o + i, none⟩) hcb]; exact h9
              rw [hbw4.cell (p := ⟨cb, o + i, none⟩) hcb]; exact h8
            by_cases hjr : 1 + pv < r
            · rw [ho7 hjr]
              have := hS0.drop (1 + pv)
              rw [List.drop_drop] at this
              exact this
            · rw [List.drop_eq_nil_of_le (by omega)]
              intro i s hs
              simp at hs
          have hmj : r - (1 + pv) < r := by omega
          clear hS hL hL2 hL3 hR3 hR4 hS2
          go_wp2
          go_roundw
          case rel => exact ⟨d + (1 + pv), o7, c - (1 + pv), kk + 1, fv4, D4, by omega, by omega, by omega, by congr 1; omega, by go_num, hS4, hL4, hH4, hbw4, hfo4⟩
          case measure => simpa [sliceLen] using hmj
      · have hk' : ¬ (kk : Int) < (rn : Int) := by omega
        by_cases hn : 12 > r
        · have hn' : (12 : Int) > (r : Int) := by omega
          have hnI : ((r : Nat) : Int) = (r : Int) := by omega
          have hsh : ∀ wx, (Instr.sliceAt 22 (.slice (some ⟨cb, o, none⟩) r c) none (some (.int .i64 ((r : Int)))) none).run Tryd.prog wx = .ok (.slice (some ⟨cb, o, none⟩) (r) c) wx := fun wx => by
            rw [← hnI]; exact slice_h wx cb o r c (r) (by omega)
          have hst : ∀ wx, (Instr.sliceAt 22 (.slice (some ⟨cb, o, none⟩) r c) (some (.int .i64 ((r : Int)))) none none).run Tryd.prog wx = .ok (.slice (some ⟨cb, if c = r then o else o + (r), none⟩) (r - (r)) (c - (r))) wx := fun wx => by
            rw [← hnI]; exact slice_tl wx cb o r c (r) (by omega) hrc
          have ho7 : r < r → (if c = r then o else o + (r)) = o + (r) := fun h => by rw [if_neg (by omega)]
          generalize (if c = r then o else o + (r)) = o7 at *
          have hlen : ((ts.drop d).take (r)).length = r := by rw [List.length_take, List.length_drop]; omega
          have hck := logCk_ok hL hH.nf.failed
          rw [hN] at hck
          generalize strOf D.ckR = rt at *
          go_wp2_with fail
          refine hck.mono ?_
          rintro e w2 ⟨rfl, hb2⟩
          have hL2 := hL.below hb2
          have hbw2 := hbw.trans (hb2.mono hbw.size)
          have hS2 := hS.below hb2
          have hsub := submit_ok hL2 hH.nf.failed hH.jn cb o c ((ts.drop d).take (r)) (hS2.take _) (by have := hbw2.size; omega) (by omega) (by omega) (fun e => by have := hfo _ e; omega) (by simp [Value.ownBlock]) (fun s hs => hz s (List.mem_of_mem_drop (List.mem_of_mem_take hs))) (by rw [hlen]; simp <;> omega) (by rw [hlen, hN]; simp; omega)
          rw [hlen, List.nil_append] at hsub
          go_wp2_with fail
          refine hsub.mono ?_
          rintro e w3 ⟨rfl, wv3, hL3, hR3⟩
          clear hsub hck
          obtain ⟨hbw3, hfo3, hwo3⟩ := FrL.below hbw2 hR3 ha hb hfo (fun k hk => by simp [Value.ownBlock] at hk)
          have hz3 : ∀ s ∈ (ts.drop d).take (r), s.size ≤ 40 := fun s hs => hz s (List.mem_of_mem_drop (List.mem_of_mem_take hs))
          have hfd : D.flushed ((ts.drop d).take (r)) = D.add ((ts.drop d).take (r)) := by
            unfold Dk.flushed
            rw [if_neg (by rw [hlen]; omega)]
          have hH4 := add_spec hH (W := (ts.drop d).take (r)) (by rw [hlen]; omega) hz3 (by rw [hlen, List.length_take]; omega)
          have htk : ts.take d ++ (ts.drop d).take (r) = ts.take (d + (r)) := (List.take_add ..).symm
          rw [htk] at hH4
          have hN4 := hH4.ckN
          rw [List.length_take, Nat.min_eq_left (by omega)] at hN4
          have hfl := logFlush_any hL3 hH.nf.failed hH.jn hz3 (by rw [hlen, hN]; omega) (by rw [hH.fre]; simp) (env_of ht hg hbw3 hb hfo3) (by rw [hfd]; exact hH4.nf.failed)
          rw [hfd, hN4] at hfl
          have hcI : ((d + (r) : Nat) : Int) = (d : Int) + ((r : Int)) := by omega
          rw [hcI] at hfl
          generalize D.add ((ts.drop d).take (r)) = D4 at *
          go_wp2_with fail
          refine hfl.mono ?_
          rintro e w4 ⟨rfl, fv4, hL4, hR4⟩
          clear hfl
          obtain ⟨hbw4, hfo4, _⟩ := FrL.below hbw3 hR4 ha hb hfo3 hwo3
          have hS4 : SA w4 cb o7 (ts.drop (d + (r))) := by
            have hS0 : SA w4 cb o (ts.drop d) := fun i s hs => by
              have h9 := hS i s hs
              have h8 : w.cell? ⟨cb, o + i, none⟩ = some (.string s) := by rw [← hbw.cell (p := ⟨cb, o + i, none⟩) hcb]; exact h9
              rw [hbw4.cell (p := ⟨cb, o + i, none⟩) hcb]; exact h8
            by_cases hjr : r < r
            · rw [ho7 hjr]
              have := hS0.drop (r)
              rw [List.drop_drop] at this
              exact this
            · rw [List.drop_eq_nil_of_le (by omega)]
              intro i s hs
              simp at hs
          have hmj : r - (r) < r := by omega
          clear hS hL hL2 hL3 hR3 hR4 hS2
          go_wp2
          go_roundw
          case rel => exact ⟨d + (r), o7, c - (r), kk + 1, fv4, D4, by omega, by omega, by omega, by congr 1; omega, by go_num, hS4, hL4, hH4, hbw4, hfo4⟩
          case measure => simpa [sliceLen] using hmj
        · have hn' : ¬ (12 : Int) > (r : Int) := by omega
          have hnI : ((12 : Nat) : Int) = 12 := by omega
          have hsh : ∀ wx, (Instr.sliceAt 22 (.slice (some ⟨cb, o, none⟩) r c) none (some (.int .i64 (12))) none).run Tryd.prog wx = .ok (.slice (some ⟨cb, o, none⟩) (12) c) wx := fun wx => by
            rw [← hnI]; exact slice_h wx cb o r c (12) (by omega)
          have hst : ∀ wx, (Instr.sliceAt 22 (.slice (some ⟨cb, o, none⟩) r c) (some (.int .i64 (12))) none none).run Tryd.prog wx = .ok (.slice (some ⟨cb, if c = 12 then o else o + (12), none⟩) (r - (12)) (c - (12))) wx := fun wx => by
            rw [← hnI]; exact slice_tl wx cb o r c (12) (by omega) hrc
          have ho7 : 12 < r → (if c = 12 then o else o + (12)) = o + (12) := fun h => by rw [if_neg (by omega)]
          generalize (if c = 12 then o else o + (12)) = o7 at *
          have hlen : ((ts.drop d).take (12)).length = 12 := by rw [List.length_take, List.length_drop]; omega
          have hck := logCk_ok hL hH.nf.failed
          rw [hN] at hck
          generalize strOf D.ckR = rt at *
          go_wp2_with fail
          refine hck.mono ?_
          rintro e w2 ⟨rfl, hb2⟩
          have hL2 := hL.below hb2
          have hbw2 := hbw.trans (hb2.mono hbw.size)
          have hS2 := hS.below hb2
          have hsub := submit_ok hL2 hH.nf.failed hH.jn cb o c ((ts.drop d).take (12)) (hS2.take _) (by have := hbw2.size; omega) (by omega) (by omega) (fun e => by have := hfo _ e; omega) (by simp [Value.ownBlock]) (fun s hs => hz s (List.mem_of_mem_drop (List.mem_of_mem_take hs))) (by rw [hlen]; simp <;> omega) (by rw [hlen, hN]; simp; omega)
          rw [hlen, List.nil_append] at hsub
          go_wp2_with fail
          refine hsub.mono ?_
          rintro e w3 ⟨rfl, wv3, hL3, hR3⟩
          clear hsub hck
          obtain ⟨hbw3, hfo3, hwo3⟩ := FrL.below hbw2 hR3 ha hb hfo (fun k hk => by simp [Value.ownBlock] at hk)
          have hz3 : ∀ s ∈ (ts.drop d).take (12), s.size ≤ 40 := fun s hs => hz s (List.mem_of_mem_drop (List.mem_of_mem_take hs))
          have hfd : D.flushed ((ts.drop d).take (12)) = D.add ((ts.drop d).take (12)) := by
            unfold Dk.flushed
            rw [if_neg (by rw [hlen]; omega)]
          have hH4 := add_spec hH (W := (ts.drop d).take (12)) (by rw [hlen]; omega) hz3 (by rw [hlen, List.length_take]; omega)
          have htk : ts.take d ++ (ts.drop d).take (12) = ts.take (d + (12)) := (List.take_add ..).symm
          rw [htk] at hH4
          have hN4 := hH4.ckN
          rw [List.length_take, Nat.min_eq_left (by omega)] at hN4
          have hfl := logFlush_any hL3 hH.nf.failed hH.jn hz3 (by rw [hlen, hN]; omega) (by rw [hH.fre]; simp) (env_of ht hg hbw3 hb hfo3) (by rw [hfd]; exact hH4.nf.failed)
          rw [hfd, hN4] at hfl
          have hcI : ((d + (12) : Nat) : Int) = (d : Int) + (12) := by omega
          rw [hcI] at hfl
          generalize D.add ((ts.drop d).take (12)) = D4 at *
          go_wp2_with fail
          refine hfl.mono ?_
          rintro e w4 ⟨rfl, fv4, hL4, hR4⟩
          clear hfl
          obtain ⟨hbw4, hfo4, _⟩ := FrL.below hbw3 hR4 ha hb hfo3 hwo3
          have hS4 : SA w4 cb o7 (ts.drop (d + (12))) := by
            have hS0 : SA w4 cb o (ts.drop d) := fun i s hs => by
              have h9 := hS i s hs
              have h8 : w.cell? ⟨cb, o + i, none⟩ = some (.string s) := by rw [← hbw.cell (p := ⟨cb, o + i, none⟩) hcb]; exact h9
              rw [hbw4.cell (p := ⟨cb, o + i, none⟩) hcb]; exact h8
            by_cases hjr : 12 < r
            · rw [ho7 hjr]
              have := hS0.drop (12)
              rw [List.drop_drop] at this
              exact this
            · rw [List.drop_eq_nil_of_le (by omega)]
              intro i s hs
              simp at hs
          have hmj : r - (12) < r := by omega
          clear hS hL hL2 hL3 hR3 hR4 hS2
          go_wp2
          go_roundw
          case rel => exact ⟨d + (12), o7, c - (12), kk + 1, fv4, D4, by omega, by omega, by omega, by congr 1; omega, by go_num, hS4, hL4, hH4, hbw4, hfo4⟩
          case measure => simpa [sliceLen] using hmj
end Go.Proofs.YtlhohmlpcgbliaaDoor
namespace Go.Proofs.YtlhohmlpcgbliaaDoor
set_option maxRecDepth 100000

/-- The nodes that a list claims, from the leaf on. -/
def cw : Nat → ByteArray → Nat → Nat → List ByteArray → List (ByteArray × ByteArray)
  | 0, _, _, _, _ => []
  | f + 1, h, i, last, l =>
    if last = 0 then []
    else if i % 2 = 1 then (match l with
      | [] => cw f h (i / 2) (last / 2) []
      | x :: r => (x, h) :: cw f (nodeS x h) (i / 2) (last / 2) r)
    else if i < last then (match l with
      | [] => cw f h (i / 2) (last / 2) []
      | x :: r => (h, x) :: cw f (nodeS h x) (i / 2) (last / 2) r)
    else cw f h (i / 2) (last / 2) l

theorem cw_zero (f : Nat) (h : ByteArray) (i : Nat) (l : List ByteArray) : cw f h i 0 l = [] := by
  cases f <;> simp [cw]

theorem cw_fuel : ∀ (f g : Nat) (h : ByteArray) (i last : Nat) (l : List ByteArray), last < 2 ^ f → last < 2 ^ g → cw f h i last l = cw g h i last l := by
  intro f
  induction f with
  | zero =>
    intro g h i last l h1 _
    obtain rfl : last = 0 := by simpa using h1
    rw [cw_zero, cw_zero]
  | succ f ih =>
    intro g h i last l h1 h2
    cases g with
    | zero =>
      obtain rfl : last = 0 := by simpa using h2
      rw [cw_zero, cw_zero]
    | succ g =>
      have h3 : last / 2 < 2 ^ f := by rw [Nat.pow_succ] at h1; omega
      have h4 : last / 2 < 2 ^ g := by rw [Nat.pow_succ] at h2; omega
      simp only [cw]
      cases l with
      | nil => simp only [ih g h (i / 2) (last / 2) [] h3 h4]
      | cons x r => simp only [ih g _ (i / 2) (last / 2) _ h3 h4]

theorem cw_left : ∀ (h f : Nat) (p w : ByteArray) (i last : Nat) (l : List ByteArray) (x a b : ByteArray), i < 2 ^ h → 2 ^ h ≤ last → last < 2 * 2 ^ h → h < f → cl f p w i (2 ^ h - 1) l = some (a, b) →
    cw f w i last (l ++ [x]) = cw f w i (2 ^ h - 1) l ++ [(b, x)] := by
  intro h
  induction h with
  | zero =>
    intro f p w i last l x a b h1 h2 h3 hf hc
    obtain ⟨f, rfl⟩ : ∃ g, f = g + 1 := ⟨f - 1, by omega⟩
    have e1 : i = 0 := by omega
    have e2 : last = 1 := by omega
    subst e1; subst e2
    rw [show 2 ^ 0 - 1 = 0 by rfl, cl_zero] at hc
    by_cases hl : l = []
    · subst hl
      simp only [if_true, Option.some.injEq, Prod.mk.injEq] at hc
      obtain ⟨rfl, rfl⟩ := hc
      simp [cw, cw_zero]
    · rw [if_neg hl] at hc; cases hc
  | succ h ih =>
    intro f p w i last l x a b h1 h2 h3 hf hc
    obtain ⟨f, rfl⟩ : ∃ g, f = g + 1 := ⟨f - 1, by omega⟩
    have hp := Nat.two_pow_pos h
    rw [Nat.pow_succ] at h1 h2 h3 hc ⊢
    have e3 : (2 ^ h * 2 - 1) / 2 = 2 ^ h - 1 := by omega
    simp only [cl] at hc
    simp only [cw]
    rw [if_neg (show ¬ 2 ^ h * 2 - 1 = 0 by omega), e3] at hc
    rw [if_neg (show ¬ last = 0 by omega), if_neg (show ¬ 2 ^ h * 2 - 1 = 0 by omega), e3]
    by_cases h4 : i % 2 = 1
    · rw [if_pos h4] at hc
      rw [if_pos h4, if_pos h4]
      cases l with
      | nil => cases hc
      | cons y r => simpa using ih f _ _ (i / 2) (last / 2) r x a b (by omega) (by omega) (by omega) (by omega) hc
    · rw [if_neg h4, if_pos (show i < 2 ^ h * 2 - 1 by omega)] at hc
      rw [if_neg h4, if_neg h4, if_pos (show i < last by omega), if_pos (show i < 2 ^ h * 2 - 1 by omega)]
      cases l with
      | nil => cases hc
      | cons y r => simpa using ih f _ _ (i / 2) (last / 2) r x a b (by omega) (by omega) (by omega) (by omega) hc

theorem cw_right : ∀ (h f : Nat) (p w : ByteArray) (i last : Nat) (l : List ByteArray) (x a b : ByteArray), i ≤ last → last < 2 ^ h → h < f → cl f p w i last l = some (a, b) →
    cw f w (2 ^ h + i) (2 ^ h + last) (l ++ [x]) = cw f w i last l ++ [(x, b)] := by
  intro h
  induction h with
  | zero =>
    intro f p w i last l x a b h1 h2 hf hc
    obtain ⟨f, rfl⟩ : ∃ g, f = g + 1 := ⟨f - 1, by omega⟩
    have e2 : last = 0 := by omega
    have e1 : i = 0 := by omega
    subst e1; subst e2
    rw [cl_zero] at hc
    by_cases hl : l = []
    · subst hl
      simp only [if_true, Option.some.injEq, Prod.mk.injEq] at hc
      obtain ⟨rfl, rfl⟩ := hc
      simp [cw, cw_zero]
    · rw [if_neg hl] at hc; cases hc
  | succ h ih =>
    intro f p w i last l x a b h1 h2 hf hc
    obtain ⟨f, rfl⟩ : ∃ g, f = g + 1 := ⟨f - 1, by omega⟩
    have hp := Nat.two_pow_pos h
    rw [Nat.pow_succ] at h2 ⊢
    have e1 : (2 ^ h * 2 + i) / 2 = 2 ^ h + i / 2 := by omega
    have e2 : (2 ^ h * 2 + last) / 2 = 2 ^ h + last / 2 := by omega
    have e3 : (2 ^ h * 2 + i) % 2 = i % 2 := by omega
    by_cases h0 : last = 0
    · obtain rfl : i = 0 := by omega
      subst h0
      rw [cl_zero] at hc
      have := ih f p w 0 0 l x a b (Nat.le_refl _) hp (by omega) (by rw [cl_zero]; exact hc)
      simp only [Nat.add_zero, cw_zero] at this ⊢
      simp only [cw]
      rw [if_neg (show ¬ 2 ^ h * 2 = 0 by omega), if_neg (show ¬ (2 ^ h * 2) % 2 = 1 by omega), if_neg (by omega), show 2 ^ h * 2 / 2 = 2 ^ h by omega]
      exact this
    · simp only [cl] at hc
      simp only [cw]
      rw [if_neg h0] at hc
      rw [if_neg (show ¬ 2 ^ h * 2 + last = 0 by omega), if_neg h0, e1, e2, e3]
      by_cases h4 : i % 2 = 1
      · rw [if_pos h4] at hc
        rw [if_pos h4, if_pos h4]
        cases l with
        | nil => cases hc
        | cons y r => simpa using ih f _ _ (i / 2) (last / 2) r x a b (by omega) (by omega) (by omega) hc
      · rw [if_neg h4] at hc
        rw [if_neg h4, if_neg h4]
        by_cases h5 : i < last
        · rw [if_pos h5] at hc
          rw [if_pos (show 2 ^ h * 2 + i < 2 ^ h * 2 + last by omega), if_pos h5]
          cases l with
          | nil => cases hc
          | cons y r => simpa using ih f _ _ (i / 2) (last / 2) r x a b (by omega) (by omega) (by omega) hc
        · rw [if_neg h5] at hc
          rw [if_neg (show ¬ 2 ^ h * 2 + i < 2 ^ h * 2 + last by omega), if_neg h5]
          exact ih f p w (i / 2) (last / 2) l x a b (by omega) (by omega) (by omega) hc

/-- A way through two or more: the last of the list stands beside the half that i lies in. -/
theorem way_step (leaf root : ByteArray) (i n : Nat) (list : List ByteArray) (hi : i < n) (hn : 2 ≤ n) (hn2 : n ≤ 1099511627776) (h : (cl 40 leaf leaf i (n - 1) list).map (·.2) = some root) :
    (i < spl n ∧ ∃ l x b, list = l ++ [x] ∧ root = nodeS b x ∧ (cl 40 leaf leaf i (spl n - 1) l).map (·.2) = some b ∧ cw 40 leaf i (n - 1) list = cw 40 leaf i (spl n - 1) l ++ [(b, x)]) ∨
    (spl n ≤ i ∧ ∃ l x b, list = l ++ [x] ∧ root = nodeS x b ∧ (cl 40 leaf leaf (i - spl n) (n - spl n - 1) l).map (·.2) = some b ∧ cw 40 leaf i (n - 1) list = cw 40 leaf (i - spl n) (n - spl n - 1) l ++ [(x, b)]) := by
  have hl := spl_lt (n := n) hn
  have hg := spl_ge (n := n) hn
  obtain ⟨H, hH⟩ := spl_pow n
  rw [hH] at hl hg ⊢
  have hHf : H < 40 := by
    apply Nat.lt_of_not_le
    intro hle
    have := Nat.pow_le_pow_right (n := 2) (by omega) hle
    omega
  have hne : list ≠ [] := by
    rintro rfl
    rw [cl_short 40 leaf leaf i (n - 1) (by omega) (by omega) (by omega)] at h
    cases h
  obtain ⟨l, x, rfl⟩ : ∃ l x, list = l ++ [x] := ⟨list.dropLast, list.getLast hne, (List.dropLast_concat_getLast hne).symm⟩
  by_cases hik : i < 2 ^ H
  · left
    refine ⟨hik, l, x, ?_⟩
    rw [cl_left H 40 leaf leaf i (n - 1) l x hik (by omega) (by omega) hHf] at h
    cases hc : cl 40 leaf leaf i (2 ^ H - 1) l with
    | none => rw [hc] at h; cases h
    | some ab =>
      rw [hc] at h
      refine ⟨ab.2, rfl, ?_, rfl, cw_left H 40 leaf leaf i (n - 1) l x ab.1 ab.2 hik (by omega) (by omega) hHf hc⟩
      simpa using h.symm
  · right
    refine ⟨by omega, l, x, ?_⟩
    have e1 : i = 2 ^ H + (i - 2 ^ H) := by omega
    have e2 : n - 1 = 2 ^ H + (n - 2 ^ H - 1) := by omega
    have hcr := cl_right H 40 leaf leaf (i - 2 ^ H) (n - 2 ^ H - 1) l x (by omega) (by omega) hHf
    rw [← e1, ← e2] at hcr
    rw [hcr] at h
    cases hc : cl 40 leaf leaf (i - 2 ^ H) (n - 2 ^ H - 1) l with
    | none => rw [hc] at h; cases h
    | some ab =>
      rw [hc] at h
      have hcw := cw_right H 40 leaf leaf (i - 2 ^ H) (n - 2 ^ H - 1) l x ab.1 ab.2 (by omega) (by omega) hHf hc
      rw [← e1, ← e2] at hcw
      refine ⟨ab.2, rfl, ?_, rfl, hcw⟩
      simpa using h.symm
end Go.Proofs.YtlhohmlpcgbliaaDoor
