import Derived.Test.YteillcbajkhjkaaDoorR30
namespace Go.Proofs.YteillcbajkhjkaaDoor
open Go.RowKit

theorem Row.shape {w : World} {base : Nat} {e : TypeId} {v : Value} {xs : List Value} (h : Row w base e v xs) : ∃ p c, v = .slice p xs.length c := by
  obtain ⟨h1, h2⟩ := h
  rcases h2 with ⟨hv, h0⟩ | ⟨g, cap, cur, rfl, _⟩
  · exact ⟨_, _, by rw [hv, h0]⟩
  · exact ⟨_, _, rfl⟩

theorem ref_side (v : Value) (ss : List ByteArray) (w : World) (hS : Strs w v ss) (hn : ss.length ≤ 1048576) (hz : ∀ s ∈ ss, s.size ≤ 1048576) :
    Calls Tryd.prog 12 #[v] w fun e w' => ∃ l, e = .returned l ∧ Below w.heap.size w w' ∧ ∀ wy, Below w'.heap.size w' wy → Calls Tryd.prog 15 #[l] wy fun e w'' => e = .returned (.string (mth (ss.map leafS))) ∧ Below wy.heap.size wy w'' := by
  refine (leaves_any v ss w hS (by omega) (fun s h => by have := hz s h; omega)).mono ?_
  rintro e w' ⟨l, rfl, hR, hb⟩
  refine ⟨l, rfl, hb, fun wy hy => ?_⟩
  by_cases h0 : 0 < ss.length
  · obtain ⟨g, cap, hv, _, hc, _⟩ := hR.form (by simpa using h0)
    subst hv
    have hA : SA wy g 0 (ss.map leafS) := (SA.of_row hR (by simpa using h0)).below hy
    have := rootRef_any (ss.map leafS) g 0 cap wy (by simpa using hc) (by simp; omega) hA (fun s hs => by
      obtain ⟨t, _, rfl⟩ := List.mem_map.1 hs
      rw [leafS_size]; omega)
    simpa using this
  · obtain rfl : ss = [] := List.eq_nil_of_length_eq_zero (by omega)
    obtain ⟨p, c, rfl⟩ := hR.shape
    rw [List.map_nil, mth_nil]
    exact rootRef_nil p c wy

theorem hashes_any (sa sb : ByteArray) (v : Value) (ss : List ByteArray) (w : World) (ha : sa.size ≤ 1048576) (hb : sb.size ≤ 1048576) (hS : ArgS w v ss) (hn : ss.length ≤ 1048576) (hz : ∀ s ∈ ss, s.size ≤ 1048576) (ht : Table w) (hg : 2 < w.heap.size) :
    Calls Tryd.prog 3 #[.string sa, .string sb, v] w fun e w' => e = .returned (.bool true) ∧ Below w.heap.size w w' := by
  refine hashes_walk sa sb (mth (ss.map leafS)) v w (by omega) (by omega) ht hg ?_ (fun wx hx => ref_side v ss wx (hS.strs.below hx) hn hz)
  intro wx hx
  have htx := table_at hx hg ht
  have hgx : 2 < wx.heap.size := Nat.lt_of_lt_of_le hg hx.size
  rcases hS with ⟨rfl, rfl⟩ | ⟨a, c, rfl, h⟩
  · refine (roomy_nil wx).mono ?_
    rintro e w' ⟨rfl, rfl⟩
    refine ⟨_, rfl, Below.refl _ _, fun wy hy => ⟨?_, ?_⟩⟩
    · rw [List.map_nil, mth_nil]
      exact groveRoot_nil _ _ _ (table_at hy hgx htx) (Nat.lt_of_lt_of_le hgx hy.size)
    · refine (whole_nil wy).mono ?_
      rintro e w'' ⟨rfl, rfl⟩
      exact ⟨rfl, Below.refl _ _⟩
  · have hS : ArgS w (.slice (some a) ss.length c) ss := .inr ⟨a, c, rfl, h⟩
    have hsx := hS.strs.below hx
    refine (roomy_some a c ss wx (by omega) (fun i s hs => by rw [hx.cell (World.block_lt_of_cell? _ _ (h i s hs))]; exact h i s hs)).mono ?_
    rintro e w' ⟨rfl, hB, hb'⟩
    refine ⟨_, rfl, hb', fun wy hy => ?_⟩
    have hBy := hB.below hy hB.lt
    have hsz : wx.heap.size ≤ wy.heap.size := Nat.le_trans hb'.size hy.size
    have hxy : Below wx.heap.size wx wy := hb'.trans (hy.mono hb'.size)
    refine ⟨?_, ?_⟩
    · exact groveRoot_any ss wx.heap.size 0 (ss.length + 8) wy (by omega) (by omega) (fun i s hs => by rw [Nat.zero_add, hBy.cell]; exact roomL_low ss i s hs) (fun s hs => by have := hz s hs; omega) (table_at hxy hgx htx) (Nat.lt_of_lt_of_le hgx hsz)
    · refine (whole_some a wx.heap.size c ss wy (by omega) (hsx.below hxy) hBy).mono ?_
      rintro e w'' ⟨rfl, d, rfl⟩
      exact ⟨rfl, Below.drewN' (Below.refl _ _) d⟩
end Go.Proofs.YteillcbajkhjkaaDoor
