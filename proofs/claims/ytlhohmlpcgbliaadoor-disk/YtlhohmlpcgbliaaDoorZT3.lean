import Derived.Test.YtlhohmlpcgbliaaDoorProg
import Derived.Shelf.Spec.TrailingZeros
import Derived.Test.YtlhohmlpcgbliaaDoorZQ4
namespace Go.Proofs.YtlhohmlpcgbliaaDoor
open Go.Shelf
end Go.Proofs.YtlhohmlpcgbliaaDoor
namespace Go.Proofs.YtlhohmlpcgbliaaDoor
set_option maxRecDepth 100000
open Go.RowKit
attribute [local go_sem ↓] Go.wp_at_zero Go.wp_at_succ

end Go.Proofs.YtlhohmlpcgbliaaDoor
namespace Go.Proofs.YtlhohmlpcgbliaaDoor
set_option maxRecDepth 100000
open Go.RowKit
attribute [local go_sem ↓] Go.wp_at_zero Go.wp_at_succ

end Go.Proofs.YtlhohmlpcgbliaaDoor
namespace Go.Proofs.YtlhohmlpcgbliaaDoor
set_option maxRecDepth 100000
open Go.RowKit
attribute [local go_sem ↓] Go.wp_at_zero Go.wp_at_succ

end Go.Proofs.YtlhohmlpcgbliaaDoor
namespace Go.Proofs.YtlhohmlpcgbliaaDoor
set_option maxRecDepth 100000
open Go.RowKit
attribute [local go_sem ↓] Go.wp_at_zero Go.wp_at_succ

theorem Lst.tail {w : World} {g o c : Nat} {s : ByteArray} {r : List ByteArray} (h : Lst w (.slice (some ⟨g, o, none⟩) (r.length + 1) c) (s :: r)) : Lst w (.slice (some (if c = 1 then ⟨g, o, none⟩ else ⟨g, o + 1, none⟩)) r.length (c - 1)) r := by
  obtain ⟨p, c', e, hc, h2⟩ := h
  injection e with e1 e2 e3
  subst e3
  simp only [List.length_cons] at hc
  refine ⟨_, _, rfl, by omega, fun j x hx => ?_⟩
  have hj : j < r.length := (List.getElem?_eq_some_iff.1 hx).1
  obtain ⟨b, o', e4, h4⟩ := h2 (j + 1) x (by simpa using hx)
  rw [← e1] at e4
  injection e4 with e4
  injection e4 with e5 e6
  subst e5; subst e6
  rw [if_neg (by omega)]
  exact ⟨_, _, rfl, by rw [show o + 1 + j = o + (j + 1) by omega]; exact h4⟩

theorem Lst.drewN {w : World} {v : Value} {ss : List ByteArray} (h : Lst w v ss) (d : Nat) : Lst (w.drewN d) v ss := h.below (Below.drewN' (Below.refl _ _) d)

end Go.Proofs.YtlhohmlpcgbliaaDoor
namespace Go.Proofs.YtlhohmlpcgbliaaDoor
set_option maxRecDepth 100000
open Go.RowKit
attribute [local go_sem ↓] Go.wp_at_zero Go.wp_at_succ

end Go.Proofs.YtlhohmlpcgbliaaDoor
namespace Go.Proofs.YtlhohmlpcgbliaaDoor
set_option maxRecDepth 100000
open Go.RowKit

end Go.Proofs.YtlhohmlpcgbliaaDoor
namespace Go.Proofs.YtlhohmlpcgbliaaDoor
set_option maxRecDepth 100000

end Go.Proofs.YtlhohmlpcgbliaaDoor
namespace Go.Proofs.YtlhohmlpcgbliaaDoor
set_option maxRecDepth 100000
open Go.RowKit
attribute [local go_sem ↓] Go.wp_at_zero Go.wp_at_succ

end Go.Proofs.YtlhohmlpcgbliaaDoor
namespace Go.Proofs.YtlhohmlpcgbliaaDoor
set_option maxRecDepth 100000
open Go.RowKit
attribute [local go_sem ↓] Go.wp_at_zero Go.wp_at_succ

end Go.Proofs.YtlhohmlpcgbliaaDoor
