import Derived.Test.YtlhohmlpcgbliaaDoorZT3
import Derived.Deep.AppendLies
import Derived.Test.YtlhohmlpcgbliaaDoorZH6
namespace Go.Proofs.YtlhohmlpcgbliaaDoor
set_option maxRecDepth 100000
open Go.RowKit
attribute [local go_sem ↓] Go.wp_at_zero Go.wp_at_succ

/-- Which of n things the number c speaks of. -/
def pickV (c : Int) (n : Nat) : Nat := (if c < 0 then -(c + 1) else c).toNat % n
theorem pickV_lt (c : Int) (n : Nat) (h : 1 ≤ n) : pickV c n < n := Nat.mod_lt _ h

/-- A list that the law may hand on: it reads as an argument does, and has room. -/
def LA (w : World) (v : Value) (ss : List ByteArray) : Prop := ArgS w v ss ∧ Lst w v ss
theorem LA.of_block {w : World} {g cap : Nat} {ss : List ByteArray} (hc : ss.length ≤ cap) (h : ∀ (j : Nat) s, ss[j]? = some s → w.cell? ⟨g, j, none⟩ = some (.string s)) : LA w (.slice (some ⟨g, 0, none⟩) ss.length cap) ss :=
  ⟨.inr ⟨_, _, rfl, fun j s hs => by rw [Addr.add_mid, Nat.zero_add]; exact h j s hs⟩, ⟨_, _, rfl, hc, fun j s hs => ⟨_, _, rfl, by rw [Nat.zero_add]; exact h j s hs⟩⟩⟩
theorem LA.nil (w : World) : LA w (.slice none 0 0) [] := ⟨.inl ⟨rfl, rfl⟩, ⟨_, _, rfl, Nat.le_refl _, fun j s hs => by simp at hs⟩⟩
theorem LA.of_row {w : World} {base : Nat} {v : Value} {ss : List ByteArray} (h : Row w base 9 v (strv ss)) : LA w v ss := by
  obtain ⟨h1, h2⟩ := h
  rcases h2 with ⟨rfl, h0⟩ | ⟨g, cap, cur, rfl, hb, hg, hn, hm, hs, ht⟩
  · have : ss = [] := List.eq_nil_of_length_eq_zero (by simpa using h0)
    subst this
    exact LA.nil w
  · rw [strv_length] at hn ht ⊢
    refine LA.of_block hn fun j s hj => ?_
    have hlt : j < ss.length := (List.getElem?_eq_some_iff.1 hj).1
    have : (strv ss)[j]? = cur.toList[j]? := by rw [← ht, List.getElem?_take_of_lt (by omega)]
    have hv : cur.toList[j]? = some (.string s) := by rw [← this, strv, List.getElem?_map, hj]; rfl
    simp [World.cell?, hg] at hv ⊢
    exact hv
theorem LA.below {w w' : World} {v : Value} {ss : List ByteArray} (h : LA w v ss) (hb : Below w.heap.size w w') : LA w' v ss := by
  refine ⟨?_, h.2.below hb⟩
  rcases h.1 with h1 | ⟨a, c, h1, h2⟩
  · exact .inl h1
  · exact .inr ⟨a, c, h1, fun i s hs => by rw [hb.cell (World.block_lt_of_cell? _ _ (h2 i s hs))]; exact h2 i s hs⟩
end Go.Proofs.YtlhohmlpcgbliaaDoor
namespace Go.Proofs.YtlhohmlpcgbliaaDoor
set_option maxRecDepth 100000
open Go.RowKit
attribute [local go_sem ↓] Go.wp_at_zero Go.wp_at_succ

end Go.Proofs.YtlhohmlpcgbliaaDoor
namespace Go.Proofs.YtlhohmlpcgbliaaDoor
set_option maxRecDepth 100000
open Go.RowKit
attribute [local go_sem ↓] Go.wp_at_zero Go.wp_at_succ

end Go.Proofs.YtlhohmlpcgbliaaDoor
namespace Go.Proofs.YtlhohmlpcgbliaaDoor
set_option maxRecDepth 100000
open Go.RowKit
attribute [local go_sem ↓] Go.wp_at_zero Go.wp_at_succ

end Go.Proofs.YtlhohmlpcgbliaaDoor
namespace Go.Proofs.YtlhohmlpcgbliaaDoor
set_option maxRecDepth 100000
open Go.RowKit
attribute [local go_sem ↓] Go.wp_at_zero Go.wp_at_succ

end Go.Proofs.YtlhohmlpcgbliaaDoor
namespace Go.Proofs.YtlhohmlpcgbliaaDoor
set_option maxRecDepth 100000
open Go.RowKit
attribute [local go_sem ↓] Go.wp_at_zero Go.wp_at_succ

end Go.Proofs.YtlhohmlpcgbliaaDoor
namespace Go.Proofs.YtlhohmlpcgbliaaDoor
set_option maxRecDepth 100000
open Go.RowKit

theorem Row.blk {w : World} {base : Nat} {e : TypeId} {v : Value} {xs : List Value} (h : Row w base e v xs) (h0 : 0 < xs.length) :
    ∃ g cap cs, v = .slice (some ⟨g, 0, none⟩) xs.length cap ∧ base ≤ g ∧ Blk w g e cs ∧ xs.length ≤ cap ∧ cs.take xs.length = xs ∧ cs.length = cap := by
  obtain ⟨h1, h2⟩ := h
  rcases h2 with ⟨_, h3⟩ | ⟨g, cap, cur, rfl, hb, hg, hn, hm, hs, ht⟩
  · omega
  · exact ⟨g, cap, cur.toList, rfl, hb, by unfold Blk; rw [Array.toArray_toList]; exact hg, hn, (by rw [Nat.mul_one] at ht; exact ht), by rw [Array.length_toList]; omega⟩

theorem LA.of_blk {w : World} {g cap : Nat} {cs : List Value} {ss : List ByteArray} (hB : Blk w g 9 cs) (hc : ss.length ≤ cap) (ht : cs.take ss.length = strv ss) : LA w (.slice (some ⟨g, 0, none⟩) ss.length cap) ss := by
  refine LA.of_block hc fun j s hj => ?_
  have hlt : j < ss.length := (List.getElem?_eq_some_iff.1 hj).1
  rw [hB.cell, ← List.getElem?_take_of_lt (l := cs) hlt, ht, strv, List.getElem?_map, hj]
  rfl

/-- A list of nothing reads so in every world. -/
theorem LA.empty {w : World} {v : Value} (h : LA w v []) (w' : World) : LA w' v [] := by
  obtain ⟨h1, p, c, h2, h3, _⟩ := h
  refine ⟨?_, ⟨p, c, h2, h3, fun j s hs => by simp at hs⟩⟩
  rcases h1 with h1 | ⟨a, c', h1, _⟩
  · exact .inl h1
  · exact .inr ⟨a, c', h1, fun j s hs => by simp at hs⟩

theorem Few.of {ss : List ByteArray} (h : ss.length ≤ 1000) (hz : ∀ x ∈ ss, x.size ≤ 1048576) : Few ss := ⟨by omega, hz⟩
theorem Few.set {ss : List ByteArray} {s : ByteArray} {x : Nat} (h : ss.length ≤ 1000) (hz : ∀ x ∈ ss, x.size ≤ 1048576) (hs : s.size ≤ 1048576) : Few (ss.set x s) := by
  refine ⟨by simp; omega, fun y hy => ?_⟩
  rcases List.mem_or_eq_of_mem_set hy with h | h
  · exact hz y h
  · rw [h]; exact hs
theorem Few.take {ss : List ByteArray} {x : Nat} (h : ss.length ≤ 1000) (hz : ∀ x ∈ ss, x.size ≤ 1048576) : Few (ss.take x) := ⟨by simp; omega, fun y hy => hz y (List.mem_of_mem_take hy)⟩

end Go.Proofs.YtlhohmlpcgbliaaDoor
namespace Go.Proofs.YtlhohmlpcgbliaaDoor
set_option maxRecDepth 100000
open Go.RowKit
attribute [local go_sem ↓] Go.wp_at_zero Go.wp_at_succ

end Go.Proofs.YtlhohmlpcgbliaaDoor
namespace Go.Proofs.YtlhohmlpcgbliaaDoor
set_option maxRecDepth 100000
open Go.RowKit
attribute [local go_sem ↓] Go.wp_at_zero Go.wp_at_succ

end Go.Proofs.YtlhohmlpcgbliaaDoor
namespace Go.Proofs.YtlhohmlpcgbliaaDoor
set_option maxRecDepth 100000
open Go.RowKit

/-- What the list of raw numbers is: so many, in cells. -/
def RawI (w : World) (v : Value) : Prop := ∃ p rn rc, v = .slice p rn rc ∧ ∀ i, i < rn → ∃ b o c, p = some ⟨b, o, none⟩ ∧ w.cell? ⟨b, o + i, none⟩ = some (.int .i64 c) ∧ -9223372036854775808 ≤ c ∧ c ≤ 9223372036854775807

end Go.Proofs.YtlhohmlpcgbliaaDoor
namespace Go.Proofs.YtlhohmlpcgbliaaDoor
set_option maxRecDepth 100000
open Go.RowKit
attribute [local go_sem ↓] Go.wp_at_zero Go.wp_at_succ

set_option maxHeartbeats 400000 in
theorem cutE_any (s : ByteArray) (w : World) (hs : s.size ≤ 140737488355328) : Calls Tryd.prog 41 #[.string s] w fun e w' => ∃ t, e = .returned (.string t) ∧ t.size ≤ 40 ∧ w' = w := by
  by_cases h : s.size ≤ 40
  · go_enter Tryd.func41, Tryd.ntmps41
    go_wp2
    go_ret
    exact ⟨s, rfl, by omega, rfl⟩
  · go_enter Tryd.func41, Tryd.ntmps41
    go_wp2
    go_ret
    exact ⟨_, rfl, by rw [ByteArray.size_extract]; omega, rfl⟩

set_option maxRecDepth 100000 in
set_option maxHeartbeats 1000000 in
theorem entriesE_any (v : Value) (ss : List ByteArray) (w : World) (hS : Strs w v ss) (hn : ss.length ≤ 140737488355328) (hz : ∀ s ∈ ss, s.size ≤ 140737488355328) :
    Calls Tryd.prog 31 #[v] w fun e w' => ∃ v' ts, e = .returned v' ∧ Row w' w.heap.size 9 v' (strv ts) ∧ ts.length ≤ 64 ∧ (∀ s ∈ ts, s.size ≤ 40) ∧ Below w.heap.size w w' := by
  obtain ⟨a, c, rfl, hcells⟩ := hS
  have HC : Hid (∀ (i : Nat) s, ss[i]? = some s → ∃ g off, a = some ⟨g, off, none⟩ ∧ w.cell? ⟨g, off + i, none⟩ = some (.string s)) := hcells
  have HZ : Hid (∀ s ∈ ss, s.size ≤ 140737488355328) := hz
  clear hcells hz
  go_enter Tryd.func31, Tryd.ntmps31
  try go_wp2
  go_loopw [3, 4] (fun v i wr => ∃ (k : Nat) (ts : List ByteArray), k ≤ ss.length ∧ k ≤ 64 ∧ i = .int .i64 k ∧ Row wr w.heap.size 9 v (strv ts) ∧ Hid (ts.length = k ∧ ∀ s ∈ ts, s.size ≤ 40) ∧ Below w.heap.size w wr) (fun _ i _ => ss.length - (intOf i).toNat)
  case atStart => exact ⟨0, [], by omega, by omega, rfl, World.ownsRow_nil _ _ _ _, ⟨rfl, fun s hs => by simp at hs⟩, Below.refl _ _⟩
  case round =>
    obtain ⟨k, ts, hk, hk64, rfl, hrow, HTs, hb⟩ := hrel
    by_cases h8 : k < ss.length
    · by_cases h9 : k < 64
      · obtain ⟨s, hs⟩ : ∃ s, ss[k]? = some s := ⟨_, List.getElem?_eq_getElem h8⟩
        obtain ⟨g, off, rfl, hcell⟩ := HC.out k s hs
        have hcell' : wr.cell? ⟨g, off + k, none⟩ = some (.string s) := by
          rw [hb.cell (World.block_lt_of_cell? _ _ hcell)]; exact hcell
        have hcu := cutE_any s wr (HZ.out s (List.mem_of_getElem? hs))
        have hxl : (strv ts).length = k := by rw [strv_length]; exact HTs.out.1
        have HN : Hid (∀ t, strv ts ++ [.string t] = strv (ts ++ [t])) := fun t => by simp [strv]
        have hsz0 := hb.size
        clear hcell hs
        generalize strv ts = xs at *
        go_wp2_with (first | (go_at_call 41; refine hcu.mono ?_; rintro e w1 ⟨t, rfl, htz, hw1⟩; rw [hw1]; clear hw1) | (at_builtin; refine wpList_app elem_string rfl Tryd.underlying22 (by rfl) (.tmp 15) (.tmp 21) (by rfl) w.heap.size _ xs (by rfl) (hrow.alloc _) _ 1 1 [.string t] (by rfl) rfl (Blk.new _ 9 _) ?h1 ?hl ?hb ?hbs (w0 := w) (hb.alloc hsz0 _) (Nat.le_refl _) ?_))
        case h1 => intro u hu; simp at hu; subst hu; rfl
        case hl => omega
        case hb => omega
        case hbs => simp; omega
        intro v' w' hv' _ hb'
        rw [HN.out t] at hv'
        go_wp2
        go_roundw
        case rel => exact ⟨k + 1, ts ++ [t], by omega, by omega, by go_num, hv', ⟨by rw [List.length_append, HTs.out.1]; rfl, fun x hx => by
          rcases List.mem_append.1 hx with h | h
          · exact HTs.out.2 x h
          · rw [List.mem_singleton.1 h]; exact htz⟩, hb'⟩
        case measure => simp [intOf]; omega
      · have hk8 : k = 64 := by omega
        subst hk8
        go_wp2
        go_ret
        exact ⟨_, ts, rfl, hrow, by rw [HTs.out.1]; omega, HTs.out.2, hb⟩
    · have hk8 : k = ss.length := by omega
      subst hk8
      go_wp2
      go_ret
      exact ⟨_, ts, rfl, hrow, by rw [HTs.out.1]; exact hk64, HTs.out.2, hb⟩
set_option maxHeartbeats 400000 in
theorem pickG_any (c : Int) (n : Nat) (w : World) (h1 : -9223372036854775808 ≤ c) (h2 : c ≤ 9223372036854775807) (hn : 1 ≤ n) (hn2 : n ≤ 1000000000000) :
    Calls Tryd.prog 32 #[.int .i64 c, .int .i64 (n : Int)] w fun e w' => e = .returned (.int .i64 (pickV c n : Nat)) ∧ w' = w := by
  have hz : ((n : Int) == 0) = false := by simp; omega
  by_cases hc : c < 0
  · have HP : Aside (-((c + 1).tmod (n : Int)) = ((pickV c n : Nat) : Int)) := by
      show _ = _
      rw [← Int.neg_tmod, Int.tmod_eq_emod_of_nonneg (by omega), pickV, if_pos hc, Int.natCast_emod, Int.toNat_of_nonneg (by omega)]
    go_enter Tryd.func32, Tryd.ntmps32
    go_wp2
    go_ret
    rw [← HP.out]
    exact ⟨rfl, rfl⟩
  · have HP : Aside (c % (n : Int) = ((pickV c n : Nat) : Int)) := by
      show _ = _
      rw [pickV, if_neg hc, Int.natCast_emod, Int.toNat_of_nonneg (by omega)]
    go_enter Tryd.func32, Tryd.ntmps32
    go_wp2
    go_ret
    rw [← HP.out]
    exact ⟨rfl, rfl⟩


/-- What the log's own blocks leave alone: all that was there before it. -/
theorem FrL.below {a b : Nat} {g h g' h' : Option Nat} {w w1 w2 : World} (hb : Below w.heap.size w w1) (r : FrL a b g h g' h' w1 w2) (ha : w.heap.size ≤ a) (hbb : w.heap.size ≤ b) (hg : ∀ k, g = some k → w.heap.size ≤ k) (hh : ∀ k, h = some k → w.heap.size ≤ k) : Below w.heap.size w w2 ∧ (∀ k, g' = some k → w.heap.size ≤ k) ∧ (∀ k, h' = some k → w.heap.size ≤ k) := by
  refine ⟨⟨r.os.trans hb.os, r.tape.trans hb.tape, r.output.trans hb.output, Nat.le_trans hb.size r.size, fun k hk => ?_⟩, ?_, ?_⟩
  · exact (r.block k (Nat.lt_of_lt_of_le hk hb.size) (by omega) (by omega) (fun e => by have := hg k e; omega) (fun e => by have := hh k e; omega)).trans (hb.block k hk)
  · intro k hk
    rcases r.own with e | e | ⟨j, e, hj⟩
    · rw [e] at hk; cases hk
    · rw [e] at hk; exact hg k hk
    · rw [e] at hk; cases hk; exact Nat.le_trans hb.size hj
  · intro k hk
    rcases r.own2 with e | e | ⟨j, e, hj⟩
    · rw [e] at hk; cases hk
    · rw [e] at hk; exact hh k hk
    · rw [e] at hk; cases hk; exact Nat.le_trans hb.size hj
theorem env_of {w w1 : World} {b : Nat} {g : Option Nat} (ht : Table w) (hg : 2 < w.heap.size) (hb : Below w.heap.size w w1) (hbb : w.heap.size ≤ b) (ho : ∀ k, g = some k → w.heap.size ≤ k) : Env w1 b g :=
  ⟨table_at hb hg ht, Nat.lt_of_lt_of_le hg hb.size, by omega, fun e => by have := ho _ e; omega⟩
end Go.Proofs.YtlhohmlpcgbliaaDoor
namespace Go.Proofs.YtlhohmlpcgbliaaDoor
set_option maxRecDepth 100000
open Go.RowKit
attribute [local go_sem ↓] Go.wp_at_zero Go.wp_at_succ

end Go.Proofs.YtlhohmlpcgbliaaDoor
namespace Go.Proofs.YtlhohmlpcgbliaaDoor
set_option maxRecDepth 100000

end Go.Proofs.YtlhohmlpcgbliaaDoor
namespace Go.Proofs.YtlhohmlpcgbliaaDoor
set_option maxRecDepth 100000
open Go.RowKit
attribute [local go_sem ↓] Go.wp_at_zero Go.wp_at_succ

end Go.Proofs.YtlhohmlpcgbliaaDoor
