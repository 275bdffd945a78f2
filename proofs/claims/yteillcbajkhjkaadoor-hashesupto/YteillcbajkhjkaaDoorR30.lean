import Derived.Test.YteillcbajkhjkaaDoorR29
namespace Go.Proofs.YteillcbajkhjkaaDoor
open Go.RowKit
attribute [local go_sem ↓] Go.wp_at_zero Go.wp_at_succ

/-- What is asked of a value that roomy made. -/
def ROK (w : World) (v r : Value) (z : ByteArray) : Prop := ∀ wy, Below w.heap.size w wy →
  (Calls Tryd.prog 10 #[r] wy fun e w' => e = .returned (.string z) ∧ Below wy.heap.size wy w') ∧ (Calls Tryd.prog 11 #[r, v] wy fun e w' => e = .returned (.bool true) ∧ Below wy.heap.size wy w')

set_option maxRecDepth 100000 in
set_option maxHeartbeats 1000000 in
theorem hashes_walk (sa sb z : ByteArray) (v : Value) (w : World) (ha : sa.size < 40000000000) (hb : sb.size < 40000000000) (ht : Table w) (hg : 2 < w.heap.size)
  (hr : ∀ wx, Below w.heap.size w wx → Calls Tryd.prog 9 #[v] wx fun e w' => ∃ r, e = .returned r ∧ Below wx.heap.size wx w' ∧ ROK w' v r z)
  (hl : ∀ wx, Below w.heap.size w wx → Calls Tryd.prog 12 #[v] wx fun e w' => ∃ l, e = .returned l ∧ Below wx.heap.size wx w' ∧ ∀ wy, Below w'.heap.size w' wy → Calls Tryd.prog 15 #[l] wy fun e w'' => e = .returned (.string z) ∧ Below wy.heap.size wy w'') :
    Calls Tryd.prog 3 #[.string sa, .string sb, v] w fun e w' => e = .returned (.bool true) ∧ Below w.heap.size w w' := by
  have h1 := groveLeaf_any sa w (by omega) ht hg
  have h2 := fun wx (hx : Below w.heap.size w wx) => groveNode_any sa sb wx (by omega) (by omega) (table_at hx hg ht) (Nat.lt_of_lt_of_le hg hx.size)
  have h6 := fun wx => leafRef_any sa wx (by omega)
  have h7 := fun wx => nodeRef_any sa sb wx ha hb
  go_enter Tryd.func3, Tryd.ntmps3
  go_wp2_with (go_at_call 7; refine h1.mono ?_; rintro e w1 ⟨rfl, b1⟩)
  go_wp2_with (go_at_call 8; refine (h2 w1 b1).mono ?_; rintro e w2 ⟨rfl, b2⟩)
  have c2 : Below w.heap.size w w2 := b1.trans (b2.mono b1.size)
  go_wp2_with (go_at_call 9; refine (hr w2 c2).mono ?_; rintro e w3 ⟨r, rfl, b3, hR⟩)
  have c3 : Below w.heap.size w w3 := c2.trans (b3.mono c2.size)
  go_wp2_with (go_at_call 10; refine (hR w3 (Below.refl _ _)).1.mono ?_; rintro e w4 ⟨rfl, b4⟩)
  have c4 : Below w.heap.size w w4 := c3.trans (b4.mono c3.size)
  go_wp2_with (go_at_call 11; refine (hR w4 b4).2.mono ?_; rintro e w5 ⟨rfl, b5⟩)
  have c5 : Below w.heap.size w w5 := c4.trans (b5.mono c4.size)
  go_wp2_with (go_at_call 12; refine (hl w5 c5).mono ?_; rintro e w6 ⟨l, rfl, b6, hL⟩)
  have c6 : Below w.heap.size w w6 := c5.trans (b6.mono c5.size)
  clear h1 h2 hr hl hR b1 b2 b3 b4 b5 c2 c3 c4 c5
  go_wp2_with (go_at_call 13; refine (h6 w6).mono ?_; rintro e w7 ⟨rfl, b7⟩)
  go_wp2_with (go_at_call 14; refine (h7 w7).mono ?_; rintro e w8 ⟨rfl, b8⟩)
  have d8 : Below w6.heap.size w6 w8 := b7.trans (b8.mono b7.size)
  go_wp2_with (go_at_call 15; refine (hL w8 d8).mono ?_; rintro e w9 ⟨rfl, b9⟩)
  have d9 : Below w.heap.size w w9 := c6.trans ((d8.trans (b9.mono d8.size)).mono c6.size)
  go_wp2
  go_ret
  exact ⟨rfl, d9⟩
end Go.Proofs.YteillcbajkhjkaaDoor
