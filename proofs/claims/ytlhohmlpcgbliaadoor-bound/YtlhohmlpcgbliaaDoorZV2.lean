import Derived.Test.YtlhohmlpcgbliaaDoorZT3
import Derived.Deep.AppendLies
namespace Go.Proofs.YtlhohmlpcgbliaaDoor
set_option maxRecDepth 100000
open Go.RowKit
attribute [local go_sem ↓] Go.wp_at_zero Go.wp_at_succ

/-- Which of n things the number c speaks of. -/
def pickV (c : Int) (n : Nat) : Nat := (if c < 0 then -(c + 1) else c).toNat % n
theorem pickV_lt (c : Int) (n : Nat) (h : 1 ≤ n) : pickV c n < n := Nat.mod_lt _ h

set_option maxHeartbeats 400000 in
theorem pick_any (c : Int) (n : Nat) (w : World) (h1 : -9223372036854775808 ≤ c) (h2 : c ≤ 9223372036854775807) (hn : 1 ≤ n) (hn2 : n ≤ 1000000000000) :
    Calls Tryd.prog 27 #[.int .i64 c, .int .i64 (n : Int)] w fun e w' => e = .returned (.int .i64 (pickV c n : Nat)) ∧ w' = w := by
  have hz : ((n : Int) == 0) = false := by simp; omega
  by_cases hc : c < 0
  · have HP : Aside (-((c + 1).tmod (n : Int)) = ((pickV c n : Nat) : Int)) := by
      show _ = _
      rw [← Int.neg_tmod, Int.tmod_eq_emod_of_nonneg (by omega), pickV, if_pos hc, Int.natCast_emod, Int.toNat_of_nonneg (by omega)]
    go_enter Tryd.func27, Tryd.ntmps27
    go_wp2
    go_ret
    rw [← HP.out]
    exact ⟨rfl, rfl⟩
  · have HP : Aside (c % (n : Int) = ((pickV c n : Nat) : Int)) := by
      show _ = _
      rw [pickV, if_neg hc, Int.natCast_emod, Int.toNat_of_nonneg (by omega)]
    go_enter Tryd.func27, Tryd.ntmps27
    go_wp2
    go_ret
    rw [← HP.out]
    exact ⟨rfl, rfl⟩

/-- An append onto a slice of the call's own, and where the new slice lies. -/
theorem wpList_app2 {e t : TypeId} {z : Value} {bytes : Nat} (hel : Elem e z bytes) (hz : z.cells.size = 1) (ht : Tryd.prog.underlying t = some (.slice e))
    {w w0 : World} {B : Nat} {ops : Array Oper} {rest : List Oper} {o : Oper} {a : Act} {Q : Exit → Act → World → Prop} (hgd : o.guard = none) (s x : Operand)
    (ho : o.op = .call { callee := .builtin .append, args := #[s, x], argTypes := #[t, t] }) (base : Nat) (v : Value) (xs : List Value) (hs : a.eval s = v) (hown : Row w base e v xs)
    (g m c : Nat) (news : List Value) (hx : a.eval x = .slice (some ⟨g, 0, none⟩) m c) (hm : news.length = m) (hm0 : 0 < m) (hnews : Blk w g e news) (h1 : ∀ u ∈ news, u.oneCell' = true)
    (hlen : xs.length + m ≤ 1000000000000) (hby : bytes ≤ 16) (hbase : base ≤ w.heap.size) (hB : Below B w0 w) (hBb : B ≤ base)
    (h : ∀ g' cap w', Row w' base e (.slice (some ⟨g', 0, none⟩) (xs.length + m) cap) (xs ++ news) → w.grownBy w' v.ownBlock → (v.ownBlock = some g' ∨ g' = w.heap.size) → Below B w0 w' → wpList Tryd.prog ops Q rest (a.put o.dst (.slice (some ⟨g', 0, none⟩) (xs.length + m) cap)) w') : wpList Tryd.prog ops Q (o :: rest) a w := by
  obtain ⟨i, hi, hiz, his, hib⟩ := hel
  have hb : (xs.length + m) * bytes ≤ 140737488355328 := Nat.le_trans (Nat.mul_le_mul hlen hby) (by omega)
  refine wpList_append_lies w hgd s x t ho base e i z 1 bytes ht hi hiz his hib hz (by omega) v xs.length xs hs hown ⟨g, 0, none⟩ m c news hx (by omega) ?_ h1 hm0 (by unfold maxLen; omega) hb hbase _ rfl ?_
  · intro j u hu
    have hlt : j < news.length := (List.getElem?_eq_some_iff.1 hu).1
    rw [Addr.add_mid, Nat.zero_add, hnews.cell]
    exact hu
  · intro g' cap w' h2 h3 h4 _
    refine h g' cap w' ?_ h3 h4 (hB.grown h3 (Nat.le_trans hBb hbase) (fun k hk => Nat.le_trans hBb (hown.lt k hk).1))
    unfold Row
    rw [List.length_append, hm]
    exact h2

/-- A list that the law may hand on: it reads as an argument does, and has room. -/
def LA (w : World) (v : Value) (ss : List ByteArray) : Prop := ArgS w v ss ∧ Lst w v ss
theorem LA.of_block {w : World} {g cap : Nat} {ss : List ByteArray} (hc : ss.length ≤ cap) (h : ∀ (j : Nat) s, ss[j]? = some s → w.cell? ⟨g, j, none⟩ = some (.string s)) : LA w (.slice (some ⟨g, 0, none⟩) ss.length cap) ss :=
  ⟨.inr ⟨_, _, rfl, fun j s hs => by rw [Addr.add_mid, Nat.zero_add]; exact h j s hs⟩, ⟨_, _, rfl, hc, fun j s hs => ⟨_, _, rfl, by rw [Nat.zero_add]; exact h j s hs⟩⟩⟩
theorem LA.nil (w : World) : LA w (.slice none 0 0) [] := ⟨.inl ⟨rfl, rfl⟩, ⟨_, _, rfl, Nat.le_refl _, fun j s hs => by simp at hs⟩⟩
theorem LA.of_row {w : World} {base : Nat} {v : Value} {ss : List ByteArray} (h : Row w base 9 v (strv ss)) : LA w v ss := by
  obtain ⟨h1, h2⟩ := h
  rcases h2 with ⟨rfl, h0⟩ | ⟨g, cap, cur, rfl, hb, hg, hn, hm, hs, ht⟩
  · have : ss = [] := List.eq_nil_of_length_eq_zero (by simpa using h0)
    subst this
    exact LA.nil w
  · rw [strv_length] at hn ht ⊢
    refine LA.of_block hn fun j s hj => ?_
    have hlt : j < ss.length := (List.getElem?_eq_some_iff.1 hj).1
    have : (strv ss)[j]? = cur.toList[j]? := by rw [← ht, List.getElem?_take_of_lt (by omega)]
    have hv : cur.toList[j]? = some (.string s) := by rw [← this, strv, List.getElem?_map, hj]; rfl
    simp [World.cell?, hg] at hv ⊢
    exact hv
theorem LA.below {w w' : World} {v : Value} {ss : List ByteArray} (h : LA w v ss) (hb : Below w.heap.size w w') : LA w' v ss := by
  refine ⟨?_, h.2.below hb⟩
  rcases h.1 with h1 | ⟨a, c, h1, h2⟩
  · exact .inl h1
  · exact .inr ⟨a, c, h1, fun i s hs => by rw [hb.cell (World.block_lt_of_cell? _ _ (h2 i s hs))]; exact h2 i s hs⟩
end Go.Proofs.YtlhohmlpcgbliaaDoor
namespace Go.Proofs.YtlhohmlpcgbliaaDoor
set_option maxRecDepth 100000
open Go.RowKit
attribute [local go_sem ↓] Go.wp_at_zero Go.wp_at_succ

set_option maxHeartbeats 400000 in
theorem cut_any (s : ByteArray) (w : World) (hs : s.size ≤ 140737488355328) : Calls Tryd.prog 41 #[.string s] w fun e w' => ∃ t, e = .returned (.string t) ∧ t.size ≤ 1048576 ∧ w' = w := by
  by_cases h : s.size ≤ 40
  · go_enter Tryd.func41, Tryd.ntmps41
    go_wp2
    go_ret
    exact ⟨s, rfl, by omega, rfl⟩
  · go_enter Tryd.func41, Tryd.ntmps41
    go_wp2
    go_ret
    exact ⟨_, rfl, by rw [ByteArray.size_extract]; omega, rfl⟩

set_option maxRecDepth 100000 in
set_option maxHeartbeats 1000000 in
theorem entries_any (v : Value) (ss : List ByteArray) (w : World) (hS : Strs w v ss) (hn : ss.length ≤ 140737488355328) (hz : ∀ s ∈ ss, s.size ≤ 140737488355328) :
    Calls Tryd.prog 31 #[v] w fun e w' => ∃ v' ts, e = .returned v' ∧ Row w' w.heap.size 9 v' (strv ts) ∧ ts.length ≤ 64 ∧ (∀ s ∈ ts, s.size ≤ 1048576) ∧ Below w.heap.size w w' := by
  obtain ⟨a, c, rfl, hcells⟩ := hS
  have HC : Hid (∀ (i : Nat) s, ss[i]? = some s → ∃ g off, a = some ⟨g, off, none⟩ ∧ w.cell? ⟨g, off + i, none⟩ = some (.string s)) := hcells
  have HZ : Hid (∀ s ∈ ss, s.size ≤ 140737488355328) := hz
  clear hcells hz
  go_enter Tryd.func31, Tryd.ntmps31
  try go_wp2
  go_loopw [3, 4] (fun v i wr => ∃ (k : Nat) (ts : List ByteArray), k ≤ ss.length ∧ k ≤ 64 ∧ i = .int .i64 k ∧ Row wr w.heap.size 9 v (strv ts) ∧ Hid (ts.length = k ∧ ∀ s ∈ ts, s.size ≤ 1048576) ∧ Below w.heap.size w wr) (fun _ i _ => ss.length - (intOf i).toNat)
  case atStart => exact ⟨0, [], by omega, by omega, rfl, World.ownsRow_nil _ _ _ _, ⟨rfl, fun s hs => by simp at hs⟩, Below.refl _ _⟩
  case round =>
    obtain ⟨k, ts, hk, hk64, rfl, hrow, HTs, hb⟩ := hrel
    by_cases h8 : k < ss.length
    · by_cases h9 : k < 64
      · obtain ⟨s, hs⟩ : ∃ s, ss[k]? = some s := ⟨_, List.getElem?_eq_getElem h8⟩
        obtain ⟨g, off, rfl, hcell⟩ := HC.out k s hs
        have hcell' : wr.cell? ⟨g, off + k, none⟩ = some (.string s) := by
          rw [hb.cell (World.block_lt_of_cell? _ _ hcell)]; exact hcell
        have hcu := cut_any s wr (HZ.out s (List.mem_of_getElem? hs))
        have hxl : (strv ts).length = k := by rw [strv_length]; exact HTs.out.1
        have HN : Hid (∀ t, strv ts ++ [.string t] = strv (ts ++ [t])) := fun t => by simp [strv]
        have hsz0 := hb.size
        clear hcell hs
        generalize strv ts = xs at *
        go_wp2_with (first | (go_at_call 41; refine hcu.mono ?_; rintro e w1 ⟨t, rfl, htz, hw1⟩; rw [hw1]; clear hw1) | (at_builtin; refine wpList_app elem_string rfl Tryd.underlying22 (by rfl) (.tmp 15) (.tmp 21) (by rfl) w.heap.size _ xs (by rfl) (hrow.alloc _) _ 1 1 [.string t] (by rfl) rfl (Blk.new _ 9 _) ?h1 ?hl ?hb ?hbs (w0 := w) (hb.alloc hsz0 _) (Nat.le_refl _) ?_))
        case h1 => intro u hu; simp at hu; subst hu; rfl
        case hl => omega
        case hb => omega
        case hbs => simp; omega
        intro v' w' hv' _ hb'
        rw [HN.out t] at hv'
        go_wp2
        go_roundw
        case rel => exact ⟨k + 1, ts ++ [t], by omega, by omega, by go_num, hv', ⟨by rw [List.length_append, HTs.out.1]; rfl, fun x hx => by
          rcases List.mem_append.1 hx with h | h
          · exact HTs.out.2 x h
          · rw [List.mem_singleton.1 h]; exact htz⟩, hb'⟩
        case measure => simp [intOf]; omega
      · have hk8 : k = 64 := by omega
        subst hk8
        go_wp2
        go_ret
        exact ⟨_, ts, rfl, hrow, by rw [HTs.out.1]; omega, HTs.out.2, hb⟩
    · have hk8 : k = ss.length := by omega
      subst hk8
      go_wp2
      go_ret
      exact ⟨_, ts, rfl, hrow, by rw [HTs.out.1]; exact hk64, HTs.out.2, hb⟩
end Go.Proofs.YtlhohmlpcgbliaaDoor
