import Derived.Test.YtlhohmlpcgbliaaGreatDoorZT9
import Derived.Test.YtlhohmlpcgbliaaGreatDoorZT3
import Derived.Test.YtlhohmlpcgbliaaGreatDoorZD2
namespace Go.Proofs.YtlhohmlpcgbliaaGreatDoor
set_option maxRecDepth 100000
open Go.RowKit

theorem Row.blk {w : World} {base : Nat} {e : TypeId} {v : Value} {xs : List Value} (h : Row w base e v xs) (h0 : 0 < xs.length) :
    ∃ g cap cs, v = .slice (some ⟨g, 0, none⟩) xs.length cap ∧ base ≤ g ∧ Blk w g e cs ∧ xs.length ≤ cap ∧ cs.take xs.length = xs ∧ cs.length = cap := by
  obtain ⟨h1, h2⟩ := h
  rcases h2 with ⟨_, h3⟩ | ⟨g, cap, cur, rfl, hb, hg, hn, hm, hs, ht⟩
  · omega
  · exact ⟨g, cap, cur.toList, rfl, hb, by unfold Blk; rw [Array.toArray_toList]; exact hg, hn, (by rw [Nat.mul_one] at ht; exact ht), by rw [Array.length_toList]; omega⟩

theorem LA.of_blk {w : World} {g cap : Nat} {cs : List Value} {ss : List ByteArray} (hB : Blk w g 9 cs) (hc : ss.length ≤ cap) (ht : cs.take ss.length = strv ss) : LA w (.slice (some ⟨g, 0, none⟩) ss.length cap) ss := by
  refine LA.of_block hc fun j s hj => ?_
  have hlt : j < ss.length := (List.getElem?_eq_some_iff.1 hj).1
  rw [hB.cell, ← List.getElem?_take_of_lt (l := cs) hlt, ht, strv, List.getElem?_map, hj]
  rfl

/-- A list of nothing reads so in every world. -/
theorem LA.empty {w : World} {v : Value} (h : LA w v []) (w' : World) : LA w' v [] := by
  obtain ⟨h1, p, c, h2, h3, _⟩ := h
  refine ⟨?_, ⟨p, c, h2, h3, fun j s hs => by simp at hs⟩⟩
  rcases h1 with h1 | ⟨a, c', h1, _⟩
  · exact .inl h1
  · exact .inr ⟨a, c', h1, fun j s hs => by simp at hs⟩

theorem Few.of {ss : List ByteArray} (h : ss.length ≤ 1000) (hz : ∀ x ∈ ss, x.size ≤ 1048576) : Few ss := ⟨by omega, hz⟩
theorem Few.set {ss : List ByteArray} {s : ByteArray} {x : Nat} (h : ss.length ≤ 1000) (hz : ∀ x ∈ ss, x.size ≤ 1048576) (hs : s.size ≤ 1048576) : Few (ss.set x s) := by
  refine ⟨by simp; omega, fun y hy => ?_⟩
  rcases List.mem_or_eq_of_mem_set hy with h | h
  · exact hz y h
  · rw [h]; exact hs
theorem Few.take {ss : List ByteArray} {x : Nat} (h : ss.length ≤ 1000) (hz : ∀ x ∈ ss, x.size ≤ 1048576) : Few (ss.take x) := ⟨by simp; omega, fun y hy => hz y (List.mem_of_mem_take hy)⟩

end Go.Proofs.YtlhohmlpcgbliaaGreatDoor
namespace Go.Proofs.YtlhohmlpcgbliaaGreatDoor
set_option maxRecDepth 100000
open Go.RowKit
attribute [local go_sem ↓] Go.wp_at_zero Go.wp_at_succ

end Go.Proofs.YtlhohmlpcgbliaaGreatDoor
namespace Go.Proofs.YtlhohmlpcgbliaaGreatDoor
set_option maxRecDepth 100000
open Go.RowKit
attribute [local go_sem ↓] Go.wp_at_zero Go.wp_at_succ

end Go.Proofs.YtlhohmlpcgbliaaGreatDoor
namespace Go.Proofs.YtlhohmlpcgbliaaGreatDoor
set_option maxRecDepth 100000
open Go.RowKit

/-- What the list of raw numbers is: so many, in cells. -/
def RawI (w : World) (v : Value) : Prop := ∃ p rn rc, v = .slice p rn rc ∧ ∀ i, i < rn → ∃ b o c, p = some ⟨b, o, none⟩ ∧ w.cell? ⟨b, o + i, none⟩ = some (.int .i64 c) ∧ -9223372036854775808 ≤ c ∧ c ≤ 9223372036854775807

end Go.Proofs.YtlhohmlpcgbliaaGreatDoor
namespace Go.Proofs.YtlhohmlpcgbliaaGreatDoor
set_option maxRecDepth 100000
open Go.RowKit
attribute [local go_sem ↓] Go.wp_at_zero Go.wp_at_succ

/-- What the log's own blocks leave alone: all that was there before it. -/
theorem FrL.below {a b : Nat} {g h g' h' : Option Nat} {w w1 w2 : World} (hb : Below w.heap.size w w1) (r : FrL a b g h g' h' w1 w2) (ha : w.heap.size ≤ a) (hbb : w.heap.size ≤ b) (hg : ∀ k, g = some k → w.heap.size ≤ k) (hh : ∀ k, h = some k → w.heap.size ≤ k) : Below w.heap.size w w2 ∧ (∀ k, g' = some k → w.heap.size ≤ k) ∧ (∀ k, h' = some k → w.heap.size ≤ k) := by
  refine ⟨⟨r.os.trans hb.os, r.tape.trans hb.tape, r.output.trans hb.output, Nat.le_trans hb.size r.size, fun k hk => ?_⟩, ?_, ?_⟩
  · exact (r.block k (Nat.lt_of_lt_of_le hk hb.size) (by omega) (by omega) (fun e => by have := hg k e; omega) (fun e => by have := hh k e; omega)).trans (hb.block k hk)
  · intro k hk
    rcases r.own with e | e | ⟨j, e, hj⟩
    · rw [e] at hk; cases hk
    · rw [e] at hk; exact hg k hk
    · rw [e] at hk; cases hk; exact Nat.le_trans hb.size hj
  · intro k hk
    rcases r.own2 with e | e | ⟨j, e, hj⟩
    · rw [e] at hk; cases hk
    · rw [e] at hk; exact hh k hk
    · rw [e] at hk; cases hk; exact Nat.le_trans hb.size hj
theorem env_of {w w1 : World} {b : Nat} {g : Option Nat} (ht : Table w) (hg : 0 < w.heap.size) (hb : Below w.heap.size w w1) (hbb : w.heap.size ≤ b) (ho : ∀ k, g = some k → w.heap.size ≤ k) : Env w1 b g :=
  ⟨table_at hb hg ht, Nat.lt_of_lt_of_le hg hb.size, by omega, fun e => by have := ho _ e; omega⟩
end Go.Proofs.YtlhohmlpcgbliaaGreatDoor
namespace Go.Proofs.YtlhohmlpcgbliaaGreatDoor
set_option maxRecDepth 100000
open Go.RowKit
attribute [local go_sem ↓] Go.wp_at_zero Go.wp_at_succ

end Go.Proofs.YtlhohmlpcgbliaaGreatDoor
namespace Go.Proofs.YtlhohmlpcgbliaaGreatDoor
set_option maxRecDepth 100000

/-- The nodes that a list claims, from the leaf on. -/
def cw : Nat → ByteArray → Nat → Nat → List ByteArray → List (ByteArray × ByteArray)
  | 0, _, _, _, _ => []
  | f + 1, h, i, last, l =>
    if last = 0 then []
    else if i % 2 = 1 then (match l with
      | [] => cw f h (i / 2) (last / 2) []
      | x :: r => (x, h) :: cw f (nodeS x h) (i / 2) (last / 2) r)
    else if i < last then (match l with
      | [] => cw f h (i / 2) (last / 2) []
      | x :: r => (h, x) :: cw f (nodeS h x) (i / 2) (last / 2) r)
    else cw f h (i / 2) (last / 2) l

end Go.Proofs.YtlhohmlpcgbliaaGreatDoor
namespace Go.Proofs.YtlhohmlpcgbliaaGreatDoor
set_option maxRecDepth 100000
open Go.RowKit
attribute [local go_sem ↓] Go.wp_at_zero Go.wp_at_succ

end Go.Proofs.YtlhohmlpcgbliaaGreatDoor
