import Derived.Test.YtlhohmlpcgbliabGreatDoorZH6
import Derived.Test.YtlhohmlpcgbliabGreatDoorZD2
import Derived.Test.YtlhohmlpcgbliabGreatDoorZT3
namespace Go.Proofs.YtlhohmlpcgbliabGreatDoor
set_option maxRecDepth 100000
open Go.RowKit
attribute [local go_sem ↓] Go.wp_at_zero Go.wp_at_succ

/-- What the log's own blocks leave alone: all that was there before it. -/
theorem FrL.below {a b : Nat} {g h g' h' : Option Nat} {w w1 w2 : World} (hb : Below w.heap.size w w1) (r : FrL a b g h g' h' w1 w2) (ha : w.heap.size ≤ a) (hbb : w.heap.size ≤ b) (hg : ∀ k, g = some k → w.heap.size ≤ k) (hh : ∀ k, h = some k → w.heap.size ≤ k) : Below w.heap.size w w2 ∧ (∀ k, g' = some k → w.heap.size ≤ k) ∧ (∀ k, h' = some k → w.heap.size ≤ k) := by
  refine ⟨⟨r.os.trans hb.os, r.tape.trans hb.tape, r.output.trans hb.output, Nat.le_trans hb.size r.size, fun k hk => ?_⟩, ?_, ?_⟩
  · exact (r.block k (Nat.lt_of_lt_of_le hk hb.size) (by omega) (by omega) (fun e => by have := hg k e; omega) (fun e => by have := hh k e; omega)).trans (hb.block k hk)
  · intro k hk
    rcases r.own with e | e | ⟨j, e, hj⟩
    · rw [e] at hk; cases hk
    · rw [e] at hk; exact hg k hk
    · rw [e] at hk; cases hk; exact Nat.le_trans hb.size hj
  · intro k hk
    rcases r.own2 with e | e | ⟨j, e, hj⟩
    · rw [e] at hk; cases hk
    · rw [e] at hk; exact hh k hk
    · rw [e] at hk; cases hk; exact Nat.le_trans hb.size hj
theorem env_of {w w1 : World} {b : Nat} {g : Option Nat} (ht : Table w) (hg : 2 < w.heap.size) (hb : Below w.heap.size w w1) (hbb : w.heap.size ≤ b) (ho : ∀ k, g = some k → w.heap.size ≤ k) : Env w1 b g :=
  ⟨table_at hb hg ht, Nat.lt_of_lt_of_le hg hb.size, by omega, fun e => by have := ho _ e; omega⟩
end Go.Proofs.YtlhohmlpcgbliabGreatDoor
namespace Go.Proofs.YtlhohmlpcgbliabGreatDoor
set_option maxRecDepth 100000
open Go.RowKit
attribute [local go_sem ↓] Go.wp_at_zero Go.wp_at_succ

end Go.Proofs.YtlhohmlpcgbliabGreatDoor
namespace Go.Proofs.YtlhohmlpcgbliabGreatDoor
set_option maxRecDepth 100000

/-- The nodes that a list claims, from the leaf on. -/
def cw : Nat → ByteArray → Nat → Nat → List ByteArray → List (ByteArray × ByteArray)
  | 0, _, _, _, _ => []
  | f + 1, h, i, last, l =>
    if last = 0 then []
    else if i % 2 = 1 then (match l with
      | [] => cw f h (i / 2) (last / 2) []
      | x :: r => (x, h) :: cw f (nodeS x h) (i / 2) (last / 2) r)
    else if i < last then (match l with
      | [] => cw f h (i / 2) (last / 2) []
      | x :: r => (h, x) :: cw f (nodeS h x) (i / 2) (last / 2) r)
    else cw f h (i / 2) (last / 2) l

end Go.Proofs.YtlhohmlpcgbliabGreatDoor
namespace Go.Proofs.YtlhohmlpcgbliabGreatDoor
set_option maxRecDepth 100000
open Go.RowKit
attribute [local go_sem ↓] Go.wp_at_zero Go.wp_at_succ

end Go.Proofs.YtlhohmlpcgbliabGreatDoor
