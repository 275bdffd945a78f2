import Derived.Test.YtlhohmlpcgbliaaDoorZV2
import Derived.Deep.LoopGhost
import Derived.Test.YtlhohmlpcgbliaaDoorZF3
namespace Go.Proofs.YtlhohmlpcgbliaaDoor
set_option maxRecDepth 100000
open Go.RowKit
attribute [local go_sem ↓] Go.wp_at_zero Go.wp_at_succ

/-- Pairs of texts, cell by cell. -/
def flat2 (ps : List (ByteArray × ByteArray)) : List Value := ps.flatMap fun p => [.string p.1, .string p.2]
/-- A list of pairs of the call's own. -/
def Row2 (w : World) (base : Nat) (v : Value) (ps : List (ByteArray × ByteArray)) : Prop := w.ownsRow base 42 2 v ps.length (flat2 ps)
end Go.Proofs.YtlhohmlpcgbliaaDoor
namespace Go.Proofs.YtlhohmlpcgbliaaDoor
set_option maxRecDepth 100000
open Go.RowKit
attribute [local go_sem ↓] Go.wp_at_zero Go.wp_at_succ

theorem Row2.below {w w' : World} {base B : Nat} {v : Value} {ps : List (ByteArray × ByteArray)} (h : Row2 w base v ps) (hb : Below B w w') (hB : w.heap.size ≤ B) : Row2 w' base v ps := by
  obtain ⟨h1, h2⟩ := h
  refine ⟨h1, ?_⟩
  rcases h2 with h2 | ⟨g, cap, cur, hv, hbs, hg, h3⟩
  · exact .inl h2
  · refine .inr ⟨g, cap, cur, hv, hbs, ?_, h3⟩
    rw [hb.block g (Nat.lt_of_lt_of_le (Array.getElem?_eq_some_iff.1 hg).1 hB)]; exact hg

end Go.Proofs.YtlhohmlpcgbliaaDoor
namespace Go.Proofs.YtlhohmlpcgbliaaDoor
set_option maxRecDepth 100000
open Go.RowKit
attribute [local go_sem ↓] Go.wp_at_zero Go.wp_at_succ

section
variable {P : Program} {ops : Array Oper} {Q : Exit → Act → World → Prop}
end


end Go.Proofs.YtlhohmlpcgbliaaDoor
namespace Go.Proofs.YtlhohmlpcgbliaaDoor
set_option maxRecDepth 100000
open Go.RowKit
attribute [local go_sem ↓] Go.wp_at_zero Go.wp_at_succ

/-- The hash of the tree of these entries. -/
def rt (l : List ByteArray) : ByteArray := mth (l.map leafS)
end Go.Proofs.YtlhohmlpcgbliaaDoor
