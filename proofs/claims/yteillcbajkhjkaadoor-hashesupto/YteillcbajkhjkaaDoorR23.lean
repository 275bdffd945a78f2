import Derived.Test.YteillcbajkhjkaaDoorR22
namespace Go.Proofs.YteillcbajkhjkaaDoor
open Go.RowKit
attribute [local go_sem ↓] Go.wp_at_zero Go.wp_at_succ

noncomputable def trR7 : Code := ((Tryd.f30.body.bind (findRegion 7)).getD .skip)

set_option maxRecDepth 100000 in
set_option maxHeartbeats 1000000 in
theorem trR7_wp {c1 c4 c5 c6 c7 c8 c9 c10 c11 c12 c13 c14 c15 c16 c17 c18 c19 c20 c21 c22 c23 c24 c25 c26 : Value} (b o n c k : Nat) (v2 : Value) (x y z : ByteArray) (w : World) (Q : Exit → Act → World → Prop) (hk : k < n) (hc : n ≤ c)
  (h1 : Gives w 30 #[.slice (some ⟨b, o, none⟩) k c] x) (h2 : Gives w 30 #[.slice (some ⟨b, o + k, none⟩) (n - k) (c - k)] y) (h3 : Gives w 29 #[.string x, .string y] z)
  (hQ : ∀ (u18 u19 u20 u21 u22 u23 u24 u25 u26 : Value) (w' : World), Below w.heap.size w w' → Q .normal ⟨#[.slice (some ⟨b, o, none⟩) n c, c1, .string z, .int .i64 (k : Int), c4, c5, c6, c7, c8, c9, c10, c11, c12, c13, c14, c15, c16, c17, u18, u19, u20, u21, u22, u23, u24, u25, u26], []⟩ w') :
  Code.wp Tryd.prog trR7 Q ⟨#[.slice (some ⟨b, o, none⟩) n c, c1, v2, .int .i64 (k : Int), c4, c5, c6, c7, c8, c9, c10, c11, c12, c13, c14, c15, c16, c17, c18, c19, c20, c21, c22, c23, c24, c25, c26], []⟩ w := by
  conv => arg 2; whnf
  refine wp_region_any (by kernel_rfl) ?_
  refine wpAnyH_pure (k := 0) (v := .slice (some ⟨b, o, none⟩) n c) (by rfl) (by kernel_rfl) (by kernel_rfl) (by kernel_rfl) (by rfl) (some 18) (by rfl) (fun _ => by kernel_rfl) ?_
  simp only [Act.put, List.setIfInBounds_toArray, List.set_cons_succ, List.set_cons_zero]
  refine wpAnyH_pure (k := 1) (v := .int .i64 (k : Int)) (by rfl) (by kernel_rfl) (by kernel_rfl) (by kernel_rfl) (by rfl) (some 19) (by rfl) (fun _ => by kernel_rfl) ?_
  simp only [Act.put, List.setIfInBounds_toArray, List.set_cons_succ, List.set_cons_zero]
  refine wpAnyH_pure (k := 2) (v := .slice (some ⟨b, o, none⟩) k c) (by rfl) (by kernel_rfl) (by kernel_rfl) (by kernel_rfl) (by rfl) (some 20) (by rfl) (fun wx => exec_slice (by rfl) (by rfl) (by rfl) (by rfl) (by rfl) (slice_h wx b o n c k (by omega))) ?_
  simp only [Act.put, List.setIfInBounds_toArray, List.set_cons_succ, List.set_cons_zero]
  refine wpAnyH_pure (k := 4) (v := .slice (some ⟨b, o, none⟩) n c) (by rfl) (by kernel_rfl) (by kernel_rfl) (by kernel_rfl) (by rfl) (some 22) (by rfl) (fun _ => by kernel_rfl) ?_
  simp only [Act.put, List.setIfInBounds_toArray, List.set_cons_succ, List.set_cons_zero]
  refine wpAnyH_pure (k := 5) (v := .int .i64 (k : Int)) (by rfl) (by kernel_rfl) (by kernel_rfl) (by kernel_rfl) (by rfl) (some 23) (by rfl) (fun _ => by kernel_rfl) ?_
  simp only [Act.put, List.setIfInBounds_toArray, List.set_cons_succ, List.set_cons_zero]
  refine wpAnyH_pure (k := 6) (v := .slice (some ⟨b, o + k, none⟩) (n - k) (c - k)) (by rfl) (by kernel_rfl) (by kernel_rfl) (by kernel_rfl) (by rfl) (some 24) (by rfl) (fun wx => exec_slice (by rfl) (by rfl) (by rfl) (by rfl) (by rfl) (slice_l wx b o n c k hk hc)) ?_
  simp only [Act.put, List.setIfInBounds_toArray, List.set_cons_succ, List.set_cons_zero]
  have hb0 : Below w.heap.size w w.drew := (Below.refl _ _).drew
  refine wpAnyH_call (i := 3) (f := 30) (vs := #[.slice (some ⟨b, o, none⟩) k c]) (by kernel_rfl) (by rfl) (by rfl) (some 21) (by rfl) (by kernel_rfl) ((h1 _ hb0).mono ?_)
  rintro e w1 ⟨rfl, hb1⟩
  refine ⟨_, rfl, ?_⟩
  simp only [Act.put, List.setIfInBounds_toArray, List.set_cons_succ, List.set_cons_zero]
  have hb2 : Below w.heap.size w w1 := hb0.trans (hb1.mono hb0.size)
  refine wpAnyH_call (i := 7) (f := 30) (vs := #[.slice (some ⟨b, o + k, none⟩) (n - k) (c - k)]) (by kernel_rfl) (by rfl) (by rfl) (some 25) (by rfl) (by kernel_rfl) ((h2 _ hb2).mono ?_)
  rintro e w2 ⟨rfl, hb3⟩
  refine ⟨_, rfl, ?_⟩
  simp only [Act.put, List.setIfInBounds_toArray, List.set_cons_succ, List.set_cons_zero]
  have hb4 : Below w.heap.size w w2 := hb2.trans (hb3.mono hb2.size)
  refine wpAnyH_call (i := 8) (f := 29) (vs := #[.string x, .string y]) (by kernel_rfl) (by rfl) (by rfl) (some 26) (by rfl) (by kernel_rfl) ((h3 _ hb4).mono ?_)
  rintro e w3 ⟨rfl, hb5⟩
  refine ⟨_, rfl, ?_⟩
  simp only [Act.put, List.setIfInBounds_toArray, List.set_cons_succ, List.set_cons_zero]
  have hb6 : Below w.heap.size w w3 := hb4.trans (hb5.mono hb4.size)
  refine wpAnyH_put (i := 9) (v := .string z) (by kernel_rfl) (by rfl) (by rfl) (some 2) (by rfl) (by kernel_rfl) ?_
  simp only [Act.put, List.setIfInBounds_toArray, List.set_cons_succ, List.set_cons_zero]
  refine wpAnyH_done (by kernel_rfl) ?_ _
  refine NoPanic.normal ?_
  exact hQ _ _ _ _ _ _ _ _ _ _ hb6

theorem load_str (w : World) (b o : Nat) (x : ByteArray) (h : w.cell? ⟨b, o, none⟩ = some (.string x)) : (Instr.loadAt 9 (.pointer (some ⟨b, o, none⟩))).run Tryd.prog w = .ok (.string x) w := by
  simp [go_sem, h]

set_option maxHeartbeats 400000 in
theorem rootRef_nil (p : Option Addr) (c : Nat) (w : World) : Calls Tryd.prog 15 #[.slice p 0 c] w fun e w' => e = .returned (.string (shaS [])) ∧ Below w.heap.size w w' := by
  go_enter Tryd.func15, Tryd.ntmps15
  go_wp2_with (go_at_call 31; refine (hashRef_any _ _ (by decide)).mono ?_; rintro e w' ⟨rfl, hb⟩)
  go_ret
  exact ⟨rfl, hb⟩

set_option maxHeartbeats 400000 in
theorem rootRef_one (b o c : Nat) (s : ByteArray) (w : World) (hs : w.cell? ⟨b, o, none⟩ = some (.string s)) : Calls Tryd.prog 15 #[.slice (some ⟨b, o, none⟩) 1 c] w fun e w' => e = .returned (.string s) ∧ Below w.heap.size w w' := by
  go_enter Tryd.func15, Tryd.ntmps15
  go_wp2
  go_ret
  exact ⟨rfl, Below.refl _ _⟩

set_option maxHeartbeats 400000 in
theorem rootRef_step (b o n c : Nat) (x y z : ByteArray) (w : World) (h2 : 2 ≤ n) (hn : n ≤ 1099511627776) (hc : n ≤ c)
  (h1 : Gives w 15 #[.slice (some ⟨b, o, none⟩) (spl n) c] x) (hh2 : Gives w 15 #[.slice (some ⟨b, o + spl n, none⟩) (n - spl n) (c - spl n)] y) (h3 : Gives w 14 #[.string x, .string y] z) :
    Calls Tryd.prog 15 #[.slice (some ⟨b, o, none⟩) n c] w fun e w' => e = .returned (.string z) ∧ Below w.heap.size w w' := by
  have hsp := fun wx => splitRef_any n wx h2 hn
  have hlt := spl_lt h2
  generalize spl n = k at *
  go_enter Tryd.func15, Tryd.ntmps15
  go_wp2_with (go_at_call 32; refine (hsp _).mono ?_; rintro e w' ⟨rfl, rfl⟩)
  refine rtR6_wp b o n c k _ x y z _ _ hlt hc h1 hh2 h3 ?_
  intro u17 u18 u19 u20 u21 u22 u23 u24 u25 w2 hb
  go_wp2_with fail
  go_ret
  exact ⟨rfl, hb⟩

theorem rootRef_all (N : Nat) : ∀ (ss : List ByteArray) (b o c : Nat) (w : World), ss.length ≤ N → ss.length ≤ c → ss.length ≤ 1099511627776 → SA w b o ss → (∀ s ∈ ss, s.size < 40000000000) →
    Calls Tryd.prog 15 #[.slice (some ⟨b, o, none⟩) ss.length c] w fun e w' => e = .returned (.string (mth ss)) ∧ Below w.heap.size w w' := by
  induction N with
  | zero =>
    intro ss b o c w h0 hc hn hS hz
    obtain rfl : ss = [] := List.eq_nil_of_length_eq_zero (by omega)
    rw [mth_nil]
    exact rootRef_nil _ _ _
  | succ N ih =>
    intro ss b o c w h0 hc hn hS hz
    by_cases h2 : 2 ≤ ss.length
    · have hlt := spl_lt h2
      have hp := spl_pos ss.length
      have hl1 : (ss.take (spl ss.length)).length = spl ss.length := by rw [List.length_take]; omega
      have hl2 : (ss.drop (spl ss.length)).length = ss.length - spl ss.length := List.length_drop ..
      have hz1 : ∀ s ∈ ss.take (spl ss.length), s.size < 40000000000 := fun s hs => hz s (List.mem_of_mem_take hs)
      have hz2 : ∀ s ∈ ss.drop (spl ss.length), s.size < 40000000000 := fun s hs => hz s (List.mem_of_mem_drop hs)
      rw [mth_two h2]
      refine rootRef_step b o ss.length c (mth (ss.take (spl ss.length))) (mth (ss.drop (spl ss.length))) _ w h2 hn hc ?_ ?_ ?_
      · intro wx hb
        have := ih (ss.take (spl ss.length)) b o c wx (by omega) (by omega) (by omega) ((hS.below hb).take _) hz1
        rw [hl1] at this
        exact this
      · intro wx hb
        have := ih (ss.drop (spl ss.length)) b (o + spl ss.length) (c - spl ss.length) wx (by omega) (by omega) (by omega) ((hS.below hb).drop _) hz2
        rw [hl2] at this
        exact this
      · intro wx hb
        exact nodeRef_any _ _ wx (mth_size hz1 (by omega)) (mth_size hz2 (by omega))
    · match ss, h2 with
      | [], _ => rw [mth_nil]; exact rootRef_nil _ _ _
      | [s], _ => rw [mth_one]; exact rootRef_one b o c s w (hS 0 s rfl)
      | _ :: _ :: _, h2 => simp at h2

/-- groveref.Root. -/
theorem rootRef_any (ss : List ByteArray) (b o c : Nat) (w : World) (hc : ss.length ≤ c) (hn : ss.length ≤ 1099511627776) (hS : SA w b o ss) (hz : ∀ s ∈ ss, s.size < 40000000000) :
    Calls Tryd.prog 15 #[.slice (some ⟨b, o, none⟩) ss.length c] w fun e w' => e = .returned (.string (mth ss)) ∧ Below w.heap.size w w' :=
  rootRef_all ss.length ss b o c w (Nat.le_refl _) hc hn hS hz
end Go.Proofs.YteillcbajkhjkaaDoor
