import Derived.Test.YteillcbajkhjkaaDoorR23
namespace Go.Proofs.YteillcbajkhjkaaDoor
open Go.RowKit
attribute [local go_sem ↓] Go.wp_at_zero Go.wp_at_succ

theorem table_at {w w' : World} (hb : Below w.heap.size w w') (hg : 2 < w.heap.size) (ht : Table w) : Table w' := table_kept (Kept.of_below (b := w.heap.size) hb) hg (by omega) ht

set_option maxHeartbeats 400000 in
theorem treeRoot_nil (p : Option Addr) (c : Nat) (w : World) (ht : Table w) (hg : 2 < w.heap.size) : Calls Tryd.prog 30 #[.slice p 0 c] w fun e w' => e = .returned (.string (shaS [])) ∧ Below w.heap.size w w' := by
  have hst : Strs w (.slice none 0 0) [] := ⟨none, 0, rfl, fun i s hs => by simp at hs⟩
  have hc := of_any _ [] w hst (by simp [flat]) (by simp) ht hg
  go_enter Tryd.func30, Tryd.ntmps30
  go_wp2_with (go_at_call 38; refine hc.mono ?_; rintro e w' ⟨h, rfl, hh, hb⟩)
  obtain rfl : h = shaS [] := shaS_of hh
  go_ret
  exact ⟨rfl, hb⟩

set_option maxHeartbeats 400000 in
theorem treeRoot_one (b o c : Nat) (s : ByteArray) (w : World) (hs : w.cell? ⟨b, o, none⟩ = some (.string s)) (hz : s.size < 288230376151711744) (ht : Table w) (hg : 2 < w.heap.size) : Calls Tryd.prog 30 #[.slice (some ⟨b, o, none⟩) 1 c] w fun e w' => e = .returned (.string (leafS s)) ∧ Below w.heap.size w w' := by
  have hc := treeLeaf_any s w hz ht hg
  go_enter Tryd.func30, Tryd.ntmps30
  go_wp2_with (go_at_call 28; refine hc.mono ?_; rintro e w' ⟨rfl, hb⟩)
  go_ret
  exact ⟨rfl, hb⟩

set_option maxHeartbeats 400000 in
theorem treeRoot_step (b o n c : Nat) (x y z : ByteArray) (w : World) (h2 : 2 ≤ n) (hn : n ≤ 1099511627776) (hc : n ≤ c)
  (h1 : Gives w 30 #[.slice (some ⟨b, o, none⟩) (spl n) c] x) (hh2 : Gives w 30 #[.slice (some ⟨b, o + spl n, none⟩) (n - spl n) (c - spl n)] y) (h3 : Gives w 29 #[.string x, .string y] z) :
    Calls Tryd.prog 30 #[.slice (some ⟨b, o, none⟩) n c] w fun e w' => e = .returned (.string z) ∧ Below w.heap.size w w' := by
  have hsp := fun wx => treeSplit_any n wx h2 hn
  have hlt := spl_lt h2
  generalize spl n = k at *
  go_enter Tryd.func30, Tryd.ntmps30
  go_wp2_with (go_at_call 39; refine (hsp _).mono ?_; rintro e w' ⟨rfl, rfl⟩)
  refine trR7_wp b o n c k _ x y z _ _ hlt hc h1 hh2 h3 ?_
  intro u18 u19 u20 u21 u22 u23 u24 u25 u26 w2 hb
  go_wp2_with fail
  go_ret
  exact ⟨rfl, hb⟩

theorem treeRoot_all (N : Nat) : ∀ (ss : List ByteArray) (b o c : Nat) (w : World), ss.length ≤ N → ss.length ≤ c → ss.length ≤ 1099511627776 → SA w b o ss → (∀ s ∈ ss, s.size < 40000000000) → Table w → 2 < w.heap.size →
    Calls Tryd.prog 30 #[.slice (some ⟨b, o, none⟩) ss.length c] w fun e w' => e = .returned (.string (mth (ss.map leafS))) ∧ Below w.heap.size w w' := by
  induction N with
  | zero =>
    intro ss b o c w h0 hc hn hS hz ht hg
    obtain rfl : ss = [] := List.eq_nil_of_length_eq_zero (by omega)
    rw [List.map_nil, mth_nil]
    exact treeRoot_nil _ _ _ ht hg
  | succ N ih =>
    intro ss b o c w h0 hc hn hS hz ht hg
    by_cases h2 : 2 ≤ ss.length
    · have hlt := spl_lt h2
      have hp := spl_pos ss.length
      have hl1 : (ss.take (spl ss.length)).length = spl ss.length := by rw [List.length_take]; omega
      have hl2 : (ss.drop (spl ss.length)).length = ss.length - spl ss.length := List.length_drop ..
      have hz1 : ∀ s ∈ ss.take (spl ss.length), s.size < 40000000000 := fun s hs => hz s (List.mem_of_mem_take hs)
      have hz2 : ∀ s ∈ ss.drop (spl ss.length), s.size < 40000000000 := fun s hs => hz s (List.mem_of_mem_drop hs)
      have hm : ∀ l : List ByteArray, ∀ s ∈ l.map leafS, s.size < 144115188075855872 := fun l s hs => by
        obtain ⟨x, _, rfl⟩ := List.mem_map.1 hs
        rw [leafS_size]; omega
      rw [mth_two (by simpa using h2), List.length_map, ← List.map_take, ← List.map_drop]
      refine treeRoot_step b o ss.length c (mth ((ss.take (spl ss.length)).map leafS)) (mth ((ss.drop (spl ss.length)).map leafS)) _ w h2 hn hc ?_ ?_ ?_
      · intro wx hb
        have := ih (ss.take (spl ss.length)) b o c wx (by omega) (by omega) (by omega) ((hS.below hb).take _) hz1 (table_at hb hg ht) (Nat.lt_of_lt_of_le hg hb.size)
        rw [hl1] at this
        exact this
      · intro wx hb
        have := ih (ss.drop (spl ss.length)) b (o + spl ss.length) (c - spl ss.length) wx (by omega) (by omega) (by omega) ((hS.below hb).drop _) hz2 (table_at hb hg ht) (Nat.lt_of_lt_of_le hg hb.size)
        rw [hl2] at this
        exact this
      · intro wx hb
        exact treeNode_any _ _ wx (mth_size (hm _) (by omega)) (mth_size (hm _) (by omega)) (table_at hb hg ht) (Nat.lt_of_lt_of_le hg hb.size)
    · match ss, h2 with
      | [], _ => rw [List.map_nil, mth_nil]; exact treeRoot_nil _ _ _ ht hg
      | [s], _ =>
        rw [List.map_cons, List.map_nil, mth_one]
        have := hz s (by simp)
        exact treeRoot_one b o c s w (hS 0 s rfl) (by omega) ht hg
      | _ :: _ :: _, h2 => simp at h2

set_option maxHeartbeats 400000 in
/-- grove.Root. -/
theorem groveRoot_any (ss : List ByteArray) (b o c : Nat) (w : World) (hc : ss.length ≤ c) (hn : ss.length ≤ 1099511627776) (hS : SA w b o ss) (hz : ∀ s ∈ ss, s.size < 40000000000) (ht : Table w) (hg : 2 < w.heap.size) :
    Calls Tryd.prog 10 #[.slice (some ⟨b, o, none⟩) ss.length c] w fun e w' => e = .returned (.string (mth (ss.map leafS))) ∧ Below w.heap.size w w' := by
  have h1 := treeRoot_all ss.length ss b o c w (Nat.le_refl _) hc hn hS hz ht hg
  go_enter Tryd.func10, Tryd.ntmps10
  go_wp2_with (go_at_call 30; refine h1.mono ?_; rintro e w' ⟨rfl, hb⟩)
  go_ret
  exact ⟨rfl, hb⟩
set_option maxHeartbeats 400000 in
theorem groveRoot_nil (p : Option Addr) (c : Nat) (w : World) (ht : Table w) (hg : 2 < w.heap.size) :
    Calls Tryd.prog 10 #[.slice p 0 c] w fun e w' => e = .returned (.string (shaS [])) ∧ Below w.heap.size w w' := by
  have h1 := treeRoot_nil p c w ht hg
  go_enter Tryd.func10, Tryd.ntmps10
  go_wp2_with (go_at_call 30; refine h1.mono ?_; rintro e w' ⟨rfl, hb⟩)
  go_ret
  exact ⟨rfl, hb⟩
end Go.Proofs.YteillcbajkhjkaaDoor
