import Derived.Test.YtlhohmlpcgbliaaDoorZV6
import Derived.Laws.StructEq
import Derived.Test.YtlhohmlpcgbliaaDoorZV2
import Derived.Test.YtlhohmlpcgbliaaDoorZQ3
namespace Go.Proofs.YtlhohmlpcgbliaaDoor
set_option maxRecDepth 100000
open Go.RowKit
attribute [local go_sem ↓] Go.wp_at_zero Go.wp_at_succ

section
variable {P : Program} {ops : Array Oper} {Q : Exit → Act → World → Prop} {S : World → Prop}
end


end Go.Proofs.YtlhohmlpcgbliaaDoor
namespace Go.Proofs.YtlhohmlpcgbliaaDoor
set_option maxRecDepth 100000
open Go.RowKit
attribute [local go_sem ↓] Go.wp_at_zero Go.wp_at_succ

end Go.Proofs.YtlhohmlpcgbliaaDoor
namespace Go.Proofs.YtlhohmlpcgbliaaDoor
set_option maxRecDepth 100000
open Go.RowKit
attribute [local go_sem ↓] Go.wp_at_zero Go.wp_at_succ

theorem flat2_get : ∀ (ps : List (ByteArray × ByteArray)) (k : Nat) (a b : ByteArray), ps[k]? = some (a, b) → (flat2 ps)[k * 2]? = some (.string a) ∧ (flat2 ps)[k * 2 + 1]? = some (.string b) := by
  intro ps
  induction ps with
  | nil => intro k a b h; simp at h
  | cons p r ih =>
    intro k a b h
    have e : flat2 (p :: r) = .string p.1 :: .string p.2 :: flat2 r := rfl
    rw [e]
    cases k with
    | zero =>
      have : p = (a, b) := by simpa using h
      subst this
      exact ⟨rfl, rfl⟩
    | succ k =>
      have := ih k a b (by simpa using h)
      rw [show (k + 1) * 2 = k * 2 + 1 + 1 by omega, show k * 2 + 1 + 1 + 1 = (k * 2 + 1) + 1 + 1 by omega]
      simpa using this

theorem Row2.form {w : World} {base : Nat} {v : Value} {ps : List (ByteArray × ByteArray)} (h : Row2 w base v ps) (h0 : 0 < ps.length) :
    ∃ g cap, v = .slice (some ⟨g, 0, none⟩) ps.length cap ∧ base ≤ g ∧ g < w.heap.size ∧ ∀ k a b, ps[k]? = some (a, b) → w.cell? ⟨g, k * 2, none⟩ = some (.string a) ∧ w.cell? ⟨g, k * 2 + 1, none⟩ = some (.string b) := by
  obtain ⟨h1, h2⟩ := h
  rcases h2 with ⟨_, h3⟩ | ⟨g, cap, cur, rfl, hb, hg, hn, hm, hs, ht⟩
  · omega
  · refine ⟨g, cap, rfl, hb, (Array.getElem?_eq_some_iff.1 hg).1, fun k a b hk => ?_⟩
    have hk1 : k < ps.length := (List.getElem?_eq_some_iff.1 hk).1
    obtain ⟨e1, e2⟩ := flat2_get ps k a b hk
    rw [← ht, List.getElem?_take_of_lt (by omega)] at e1 e2
    constructor
    · simp [World.cell?, hg] at e1 ⊢; exact e1
    · simp [World.cell?, hg] at e2 ⊢; exact e2

end Go.Proofs.YtlhohmlpcgbliaaDoor
namespace Go.Proofs.YtlhohmlpcgbliaaDoor
set_option maxRecDepth 100000
open Go.RowKit
attribute [local go_sem ↓] Go.wp_at_zero Go.wp_at_succ

end Go.Proofs.YtlhohmlpcgbliaaDoor
namespace Go.Proofs.YtlhohmlpcgbliaaDoor
set_option maxRecDepth 100000
open Go.RowKit
attribute [local go_sem ↓] Go.wp_at_zero Go.wp_at_succ

theorem RawI.below {w w' : World} {v : Value} (h : RawI w v) (hb : Below w.heap.size w w') : RawI w' v := by
  obtain ⟨p, n, c, rfl, h⟩ := h
  refine ⟨p, n, c, rfl, fun i hi => ?_⟩
  obtain ⟨b, o, z, e, hc, h1, h2⟩ := h i hi
  exact ⟨b, o, z, e, by rw [hb.cell (World.block_lt_of_cell? _ _ hc)]; exact hc, h1, h2⟩

end Go.Proofs.YtlhohmlpcgbliaaDoor
namespace Go.Proofs.YtlhohmlpcgbliaaDoor
set_option maxRecDepth 100000
open Go.RowKit
attribute [local go_sem ↓] Go.wp_at_zero Go.wp_at_succ

/-- A list of raw numbers, and the group sizes that they tell. -/
def RawG (w : World) (gv : Value) (g : Nat → Nat) : Prop := ∃ p rn rc, gv = .slice p rn rc ∧ (∀ k, k < rn → ∃ gb go' cv, p = some ⟨gb, go', none⟩ ∧ w.cell? ⟨gb, go' + k, none⟩ = some (.int .i64 cv) ∧ -9223372036854775808 ≤ cv ∧ cv ≤ 9223372036854775807 ∧ g k = 1 + pickV cv 12) ∧ ∀ k, rn ≤ k → g k = 12
theorem RawI.groups {w : World} {gv : Value} (h : RawI w gv) : ∃ g, RawG w gv g := by
  obtain ⟨p, rn, rc, rfl, hraw⟩ := h
  have hc : ∀ k, ∃ m : Nat, (∀ _ : k < rn, ∃ gb go' cv, p = some ⟨gb, go', none⟩ ∧ w.cell? ⟨gb, go' + k, none⟩ = some (.int .i64 cv) ∧ -9223372036854775808 ≤ cv ∧ cv ≤ 9223372036854775807 ∧ m = 1 + pickV cv 12) ∧ (rn ≤ k → m = 12) := by
    intro k
    by_cases hk : k < rn
    · obtain ⟨gb, go', cv, h1, h2, h3, h4⟩ := hraw k hk
      exact ⟨1 + pickV cv 12, fun _ => ⟨gb, go', cv, h1, h2, h3, h4, rfl⟩, fun h => by omega⟩
    · exact ⟨12, fun h => absurd h hk, fun _ => rfl⟩
  exact ⟨fun k => (hc k).choose, p, rn, rc, rfl, fun k hk => (hc k).choose_spec.1 hk, fun k hk => (hc k).choose_spec.2 hk⟩
theorem RawG.below {w w' : World} {v : Value} {g : Nat → Nat} (h : RawG w v g) (hb : Below w.heap.size w w') : RawG w' v g := by
  obtain ⟨p, rn, rc, rfl, hraw, hg⟩ := h
  refine ⟨p, rn, rc, rfl, fun k hk => ?_, hg⟩
  obtain ⟨gb, go', cv, h1, h2, h3⟩ := hraw k hk
  exact ⟨gb, go', cv, h1, by rw [hb.cell (World.block_lt_of_cell? _ _ h2)]; exact h2, h3⟩

set_option maxHeartbeats 8000000 in
theorem grownG_any (cb co cc : Nat) (gv : Value) (ts : List ByteArray) (w : World) (hS0 : SA w cb co ts) (hcb : cb < w.heap.size) (hcc : ts.length ≤ cc) (hl64 : ts.length ≤ 64) (hz : ∀ s ∈ ts, s.size ≤ 40) (g : Nat → Nat) (hR : RawG w gv g) (ht : Table w) (hg : 2 < w.heap.size) :
    Calls Tryd.prog 35 #[.slice (some ⟨cb, co, none⟩) ts.length cc, gv] w fun e w' => ∃ (a b : Nat) (fv : Value) (D : Dk), e = .returned (.pointer (some ⟨a, 0, none⟩)) ∧ LogAt w' a b fv (.slice none 0 0) D [] ∧ Holds D ts ∧ D = groF g ts.length 0 Dk.fresh ts ∧ Below w.heap.size w w' ∧ w.heap.size ≤ a ∧ w.heap.size ≤ b ∧ (∀ k, fv.ownBlock = some k → w.heap.size ≤ k) := by
  obtain ⟨p, rn, rc, rfl, hraw, hgt⟩ := hR
  have HG0 : Hid (groF g ts.length 0 Dk.fresh ts = groF g ts.length 0 Dk.fresh ts) := rfl
  generalize hT : groF g ts.length 0 Dk.fresh ts = T at HG0 ⊢
  have HT : Hid (groF g ts.length 0 Dk.fresh ts = T) := hT
  clear hT HG0
  have hnew := groveNew_any w ht hg
  go_enter Tryd.func35, Tryd.ntmps35
  go_wp2_with fail
  refine hnew.mono ?_
  rintro e w1 ⟨a, b, rfl, ha, hb, hL1, hb1⟩
  clear hnew
  go_wp2_with fail
  go_loopw [0, 6] (fun l u wr => ∃ (d o c kk : Nat) (fv : Value) (D : Dk), d ≤ ts.length ∧ kk ≤ d ∧ ts.length - d ≤ c ∧ l = .slice (some ⟨cb, o, none⟩) (ts.length - d) c ∧ u = .int .i64 (kk : Int) ∧ SA wr cb o (ts.drop d) ∧ LogAt wr a b fv (.slice none 0 0) D [] ∧ Holds D (ts.take d) ∧ Hid (groF g (ts.length - kk) kk D (ts.drop d) = T) ∧ Below w.heap.size w wr ∧ (∀ k, fv.ownBlock = some k → w.heap.size ≤ k)) (fun l _ _ => sliceLen l)
  case atStart => exact ⟨0, co, cc, 0, _, _, by omega, by omega, by simpa using hcc, by simp, rfl, by simpa using hS0.below hb1, hL1, by simpa using fresh_holds, (by have := HT.out; show _ = _; simpa using this), hb1, fun k hk => by simp [Value.ownBlock] at hk⟩
  case round =>
    obtain ⟨d, o, c, kk, fv, D, hd, hkd, hrc, rfl, rfl, hS, hL, hH, HGk, hbw, hfo⟩ := hrel
    clear hL1 hb1
    have hN := hH.ckN
    rw [List.length_take, Nat.min_eq_left hd] at hN
    generalize hreq : ts.length - d = r at *
    by_cases h0 : r = 0
    · have hdd : d = ts.length := by omega
      subst hdd
      rw [List.take_length] at hH
      subst h0
      go_wp2
      go_ret
      exact ⟨a, b, fv, D, rfl, hL, hH, (by have := HGk.out; rw [List.drop_eq_nil_of_le (Nat.le_refl _), groF_nil] at this; exact this), hbw, ha, hb, hfo⟩
    · have h0' : (0 : Int) < (r : Int) := by omega
      by_cases hk : kk < rn
      · obtain ⟨gb, go', cv, rfl, hcell, hc1, hc2, hgk⟩ := hraw kk hk
        have HK : Hid (g kk = 1 + pickV cv 12) := hgk
        clear hgk
        have hcell' : wr.cell? ⟨gb, go' + kk, none⟩ = some (.int .i64 cv) := by
          rw [hbw.cell (World.block_lt_of_cell? _ _ hcell)]; exact hcell
        have hpk : Calls Tryd.prog 32 #[.int .i64 cv, .int .i64 12] wr fun e w' => e = .returned (.int .i64 (pickV cv 12 : Nat)) ∧ w' = wr := pickG_any cv 12 wr hc1 hc2 (by omega) (by omega)
        have hpl := pickV_lt cv 12 (by omega)
        have hk' : (kk : Int) < (rn : Int) := by omega
        clear hcell
        generalize pickV cv 12 = pv at *
        by_cases hn : 1 + pv > r
        · have hn' : (1 + (pv : Int)) > (r : Int) := by omega
          have hnI : ((r : Nat) : Int) = (r : Int) := by omega
          have hsh : ∀ wx, (Instr.sliceAt 22 (.slice (some ⟨cb, o, none⟩) r c) none (some (.int .i64 ((r : Int)))) none).run Tryd.prog wx = .ok (.slice (some ⟨cb, o, none⟩) (r) c) wx := fun wx => by
            rw [← hnI]; exact slice_h wx cb o r c (r) (by omega)
          have hst : ∀ wx, (Instr.sliceAt 22 (.slice (some ⟨cb, o, none⟩) r c) (some (.int .i64 ((r : Int)))) none none).run Tryd.prog wx = .ok (.slice (some ⟨cb, if c = r then o else o + (r), none⟩) (r - (r)) (c - (r))) wx := fun wx => by
            rw [← hnI]; exact slice_tl wx cb o r c (r) (by omega) hrc
          have ho7 : r < r → (if c = r then o else o + (r)) = o + (r) := fun h => by rw [if_neg (by omega)]
          generalize (if c = r then o else o + (r)) = o7 at *
          have hlen : ((ts.drop d).take (r)).length = r := by rw [List.length_take, List.length_drop]; omega
          have hck := logCk_ok hL hH.nf.failed
          rw [hN] at hck
          generalize strOf D.ckR = rt at *
          go_wp2_with fail
          refine hpk.mono ?_
          rintro e w1' ⟨rfl, rfl⟩
          go_wp2_with fail
          refine hck.mono ?_
          rintro e w2 ⟨rfl, hb2⟩
          have hL2 := hL.below hb2
          have hbw2 := hbw.trans (hb2.mono hbw.size)
          have hS2 := hS.below hb2
          have hsub := submit_ok hL2 hH.nf.failed hH.jn cb o c ((ts.drop d).take (r)) (hS2.take _) (by have := hbw2.size; omega) (by omega) (by omega) (fun e => by have := hfo _ e; omega) (by simp [Value.ownBlock]) (fun s hs => hz s (List.mem_of_mem_drop (List.mem_of_mem_take hs))) (by rw [hlen]; simp <;> omega) (by rw [hlen, hN]; simp; omega)
          rw [hlen, List.nil_append] at hsub
          go_wp2_with fail
          refine hsub.mono ?_
          rintro e w3 ⟨rfl, wv3, hL3, hR3⟩
          clear hsub hck
          obtain ⟨hbw3, hfo3, hwo3⟩ := FrL.below hbw2 hR3 ha hb hfo (fun k hk => by simp [Value.ownBlock] at hk)
          have hz3 : ∀ s ∈ (ts.drop d).take (r), s.size ≤ 40 := fun s hs => hz s (List.mem_of_mem_drop (List.mem_of_mem_take hs))
          have hfd : D.flushed ((ts.drop d).take (r)) = D.add ((ts.drop d).take (r)) := by
            unfold Dk.flushed
            rw [if_neg (by rw [hlen]; omega)]
          have hH4 := add_spec hH (W := (ts.drop d).take (r)) (by rw [hlen]; omega) hz3 (by rw [hlen, List.length_take]; omega)
          have htk : ts.take d ++ (ts.drop d).take (r) = ts.take (d + (r)) := (List.take_add ..).symm
          rw [htk] at hH4
          have hN4 := hH4.ckN
          rw [List.length_take, Nat.min_eq_left (by omega)] at hN4
          have hfl := logFlush_any hL3 hH.nf.failed hH.jn hz3 (by rw [hlen, hN]; omega) (by rw [hH.fre]; simp) (env_of ht hg hbw3 hb hfo3) (by rw [hfd]; exact hH4.nf.failed)
          rw [hfd, hN4] at hfl
          have hcI : ((d + (r) : Nat) : Int) = (d : Int) + ((r : Int)) := by omega
          rw [hcI] at hfl
          have HG4 : Hid (groF g (ts.length - (kk + 1)) (kk + 1) (D.add ((ts.drop d).take (r))) (ts.drop (d + (r))) = T) := by
            have h1 := HGk.out
            have h2 := HK.out
            rw [groF_step hkd (by omega) (n := r) (by rw [h2]; omega)] at h1
            exact h1
          generalize D.add ((ts.drop d).take (r)) = D4 at *
          go_wp2_with fail
          refine hfl.mono ?_
          rintro e w4 ⟨rfl, fv4, hL4, hR4⟩
          clear hfl
          obtain ⟨hbw4, hfo4, _⟩ := FrL.below hbw3 hR4 ha hb hfo3 hwo3
          have hS4 : SA w4 cb o7 (ts.drop (d + (r))) := by
            have hS0 : SA w4 cb o (ts.drop d) := fun i s hs => by
              have h9 := hS i s hs
              have h8 : w.cell? ⟨cb, o + i, none⟩ = some (.string s) := by rw [← hbw.cell (p := ⟨cb, o + i, none⟩) hcb]; exact h9
              rw [hbw4.cell (p := ⟨cb, o + i, none⟩) hcb]; exact h8
            by_cases hjr : r < r
            · rw [ho7 hjr]
              have := hS0.drop (r)
              rw [List.drop_drop] at this
              exact this
            · rw [List.drop_eq_nil_of_le (by omega)]
              intro i s hs
              simp at hs
          have hmj : r - (r) < r := by omega
          clear hS hL hL2 hL3 hR3 hR4 hS2
          go_wp2
          go_roundw
          case rel => exact ⟨d + (r), o7, c - (r), kk + 1, fv4, D4, by omega, by omega, by omega, by congr 1; omega, by go_num, hS4, hL4, hH4, HG4, hbw4, hfo4⟩
          case measure => simpa [sliceLen] using hmj
        · have hn' : ¬ (1 + (pv : Int)) > (r : Int) := by omega
          have hnI : ((1 + pv : Nat) : Int) = 1 + (pv : Int) := by omega
          have hsh : ∀ wx, (Instr.sliceAt 22 (.slice (some ⟨cb, o, none⟩) r c) none (some (.int .i64 (1 + (pv : Int)))) none).run Tryd.prog wx = .ok (.slice (some ⟨cb, o, none⟩) (1 + pv) c) wx := fun wx => by
            rw [← hnI]; exact slice_h wx cb o r c (1 + pv) (by omega)
          have hst : ∀ wx, (Instr.sliceAt 22 (.slice (some ⟨cb, o, none⟩) r c) (some (.int .i64 (1 + (pv : Int)))) none none).run Tryd.prog wx = .ok (.slice (some ⟨cb, if c = 1 + pv then o else o + (1 + pv), none⟩) (r - (1 + pv)) (c - (1 + pv))) wx := fun wx => by
            rw [← hnI]; exact slice_tl wx cb o r c (1 + pv) (by omega) hrc
          have ho7 : 1 + pv < r → (if c = 1 + pv then o else o + (1 + pv)) = o + (1 + pv) := fun h => by rw [if_neg (by omega)]
          generalize (if c = 1 + pv then o else o + (1 + pv)) = o7 at *
          have hlen : ((ts.drop d).take (1 + pv)).length = 1 + pv := by rw [List.length_take, List.length_drop]; omega
          have hck := logCk_ok hL hH.nf.failed
          rw [hN] at hck
          generalize strOf D.ckR = rt at *
          go_wp2_with fail
          refine hpk.mono ?_
          rintro e w1' ⟨rfl, rfl⟩
          go_wp2_with fail
          refine hck.mono ?_
          rintro e w2 ⟨rfl, hb2⟩
          have hL2 := hL.below hb2
          have hbw2 := hbw.trans (hb2.mono hbw.size)
          have hS2 := hS.below hb2
          have hsub := submit_ok hL2 hH.nf.failed hH.jn cb o c ((ts.drop d).take (1 + pv)) (hS2.take _) (by have := hbw2.size; omega) (by omega) (by omega) (fun e => by have := hfo _ e; omega) (by simp [Value.ownBlock]) (fun s hs => hz s (List.mem_of_mem_drop (List.mem_of_mem_take hs))) (by rw [hlen]; simp <;> omega) (by rw [hlen, hN]; simp; omega)
          rw [hlen, List.nil_append] at hsub
          go_wp2_with fail
          refine hsub.mono ?_
          rintro e w3 ⟨rfl, wv3, hL3, hR3⟩
          clear hsub hck
          obtain ⟨hbw3, hfo3, hwo3⟩ := FrL.below hbw2 hR3 ha hb hfo (fun k hk => by simp [Value.ownBlock] at hk)
          have hz3 : ∀ s ∈ (ts.drop d).take (1 + pv), s.size ≤ 40 := fun s hs => hz s (List.mem_of_mem_drop (List.mem_of_mem_take hs))
          have hfd : D.flushed ((ts.drop d).take (1 + pv)) = D.add ((ts.drop d).take (1 + pv)) := by
            unfold Dk.flushed
            rw [if_neg (by rw [hlen]; omega)]
          have hH4 := add_spec hH (W := (ts.drop d).take (1 + pv)) (by rw [hlen]; omega) hz3 (by rw [hlen, List.length_take]; omega)
          have htk : ts.take d ++ (ts.drop d).take (1 + pv) = ts.take (d + (1 + pv)) := (List.take_add ..).symm
          rw [htk] at hH4
          have hN4 := hH4.ckN
          rw [List.length_take, Nat.min_eq_left (by omega)] at hN4
          have hfl := logFlush_any hL3 hH.nf.failed hH.jn hz3 (by rw [hlen, hN]; omega) (by rw [hH.fre]; simp) (env_of ht hg hbw3 hb hfo3) (by rw [hfd]; exact hH4.nf.failed)
          rw [hfd, hN4] at hfl
          have hcI : ((d + (1 + pv) : Nat) : Int) = (d : Int) + (1 + (pv : Int)) := by omega
          rw [hcI] at hfl
          have HG4 : Hid (groF g (ts.length - (kk + 1)) (kk + 1) (D.add ((ts.drop d).take (1 + pv))) (ts.drop (d + (1 + pv))) = T) := by
            have h1 := HGk.out
            have h2 := HK.out
            rw [groF_step hkd (by omega) (n := 1 + pv) (by rw [h2]; omega)] at h1
            exact h1
          generalize D.add ((ts.drop d).take (1 + pv)) = D4 at *
          go_wp2_with fail
          refine hfl.mono ?_
          rintro e w4 ⟨rfl, fv4, hL4, hR4⟩
          clear hfl
          obtain ⟨hbw4, hfo4, _⟩ := FrL.below hbw3 hR4 ha hb hfo3 hwo3
          have hS4 : SA w4 cb o7 (ts.drop (d + (1 + pv))) := by
            have hS0 : SA w4 cb o (ts.drop d) := fun i s hs => by
              have h9 := hS i s hs
              have h8 : w.cell? ⟨cb, o + i, none⟩ = some (.string s) := by rw [← hbw.cell (p := ⟨cb, o + i, none⟩) hcb]; exact h9
              rw [hbw4.cell (p := ⟨cb, o + i, none⟩) hcb]; exact h8
            by_cases hjr : 1 + pv < r
            · rw [ho7 hjr]
              have := hS0.drop (1 + pv)
              rw [List.drop_drop] at this
              exact this
            · rw [List.drop_eq_nil_of_le (by omega)]
              intro i s hs
              simp at hs
          have hmj : r - (1 + pv) < r := by omega
          clear hS hL hL2 hL3 hR3 hR4 hS2
          go_wp2
          go_roundw
          case rel => exact ⟨d + (1 + pv), o7, c - (1 + pv), kk + 1, fv4, D4, by omega, by omega, by omega, by congr 1; omega, by go_num, hS4, hL4, hH4, HG4, hbw4, hfo4⟩
          case measure => simpa [sliceLen] using hmj
      · have hk' : ¬ (kk : Int) < (rn : Int) := by omega
        have HK : Hid (g kk = 12) := hgt kk (by omega)
        by_cases hn : 12 > r
        · have hn' : (12 : Int) > (r : Int) := by omega
          have hnI : ((r : Nat) : Int) = (r : Int) := by omega
          have hsh : ∀ wx, (Instr.sliceAt 22 (.slice (some ⟨cb, o, none⟩) r c) none (some (.int .i64 ((r : Int)))) none).run Tryd.prog wx = .ok (.slice (some ⟨cb, o, none⟩) (r) c) wx := fun wx => by
            rw [← hnI]; exact slice_h wx cb o r c (r) (by omega)
          have hst : ∀ wx, (Instr.sliceAt 22 (.slice (some ⟨cb, o, none⟩) r c) (some (.int .i64 ((r : Int)))) none none).run Tryd.prog wx = .ok (.slice (some ⟨cb, if c = r then o else o + (r), none⟩) (r - (r)) (c - (r))) wx := fun wx => by
            rw [← hnI]; exact slice_tl wx cb o r c (r) (by omega) hrc
          have ho7 : r < r → (if c = r then o else o + (r)) = o + (r) := fun h => by rw [if_neg (by omega)]
          generalize (if c = r then o else o + (r)) = o7 at *
          have hlen : ((ts.drop d).take (r)).length = r := by rw [List.length_take, List.length_drop]; omega
          have hck := logCk_ok hL hH.nf.failed
          rw [hN] at hck
          generalize strOf D.ckR = rt at *
          go_wp2_with fail
          refine hck.mono ?_
          rintro e w2 ⟨rfl, hb2⟩
          have hL2 := hL.below hb2
          have hbw2 := hbw.trans (hb2.mono hbw.size)
          have hS2 := hS.below hb2
          have hsub := submit_ok hL2 hH.nf.failed hH.jn cb o c ((ts.drop d).take (r)) (hS2.take _) (by have := hbw2.size; omega) (by omega) (by omega) (fun e => by have := hfo _ e; omega) (by simp [Value.ownBlock]) (fun s hs => hz s (List.mem_of_mem_drop (List.mem_of_mem_take hs))) (by rw [hlen]; simp <;> omega) (by rw [hlen, hN]; simp; omega)
          rw [hlen, List.nil_append] at hsub
          go_wp2_with fail
          refine hsub.mono ?_
          rintro e w3 ⟨rfl, wv3, hL3, hR3⟩
          clear hsub hck
          obtain ⟨hbw3, hfo3, hwo3⟩ := FrL.below hbw2 hR3 ha hb hfo (fun k hk => by simp [Value.ownBlock] at hk)
          have hz3 : ∀ s ∈ (ts.drop d).take (r), s.size ≤ 40 := fun s hs => hz s (List.mem_of_mem_drop (List.mem_of_mem_take hs))
          have hfd : D.flushed ((ts.drop d).take (r)) = D.add ((ts.drop d).take (r)) := by
            unfold Dk.flushed
            rw [if_neg (by rw [hlen]; omega)]
          have hH4 := add_spec hH (W := (ts.drop d).take (r)) (by rw [hlen]; omega) hz3 (by rw [hlen, List.length_take]; omega)
          have htk : ts.take d ++ (ts.drop d).take (r) = ts.take (d + (r)) := (List.take_add ..).symm
          rw [htk] at hH4
          have hN4 := hH4.ckN
          rw [List.length_take, Nat.min_eq_left (by omega)] at hN4
          have hfl := logFlush_any hL3 hH.nf.failed hH.jn hz3 (by rw [hlen, hN]; omega) (by rw [hH.fre]; simp) (env_of ht hg hbw3 hb hfo3) (by rw [hfd]; exact hH4.nf.failed)
          rw [hfd, hN4] at hfl
          have hcI : ((d + (r) : Nat) : Int) = (d : Int) + ((r : Int)) := by omega
          rw [hcI] at hfl
          have HG4 : Hid (groF g (ts.length - (kk + 1)) (kk + 1) (D.add ((ts.drop d).take (r))) (ts.drop (d + (r))) = T) := by
            have h1 := HGk.out
            have h2 := HK.out
            rw [groF_step hkd (by omega) (n := r) (by rw [h2]; omega)] at h1
            exact h1
          generalize D.add ((ts.drop d).take (r)) = D4 at *
          go_wp2_with fail
          refine hfl.mono ?_
          rintro e w4 ⟨rfl, fv4, hL4, hR4⟩
          clear hfl
          obtain ⟨hbw4, hfo4, _⟩ := FrL.below hbw3 hR4 ha hb hfo3 hwo3
          have hS4 : SA w4 cb o7 (ts.drop (d + (r))) := by
            have hS0 : SA w4 cb o (ts.drop d) := fun i s hs => by
              have h9 := hS i s hs
              have h8 : w.cell? ⟨cb, o + i, none⟩ = some (.string s) := by rw [← hbw.cell (p := ⟨cb, o + i, none⟩) hcb]; exact h9
              rw [hbw4.cell (p := ⟨cb, o + i, none⟩) hcb]; exact h8
            by_cases hjr : r < r
            · rw [ho7 hjr]
              have := hS0.drop (r)
              rw [List.drop_drop] at this
              exact this
            · rw [List.drop_eq_nil_of_le (by omega)]
              intro i s hs
              simp at hs
          have hmj : r - (r) < r := by omega
          clear hS hL hL2 hL3 hR3 hR4 hS2
          go_wp2
          go_roundw
          case rel => exact ⟨d + (r), o7, c - (r), kk + 1, fv4, D4, by omega, by omega, by omega, by congr 1; omega, by go_num, hS4, hL4, hH4, HG4, hbw4, hfo4⟩
          case measure => simpa [sliceLen] using hmj
        · have hn' : ¬ (12 : Int) > (r : Int) := by omega
          have hnI : ((12 : Nat) : Int) = 12 := by omega
          have hsh : ∀ wx, (Instr.sliceAt 22 (.slice (some ⟨cb, o, none⟩) r c) none (some (.int .i64 (12))) none).run Tryd.prog wx = .ok (.slice (some ⟨cb, o, none⟩) (12) c) wx := fun wx => by
            rw [← hnI]; exact slice_h wx cb o r c (12) (by omega)
          have hst : ∀ wx, (Instr.sliceAt 22 (.slice (some ⟨cb, o, none⟩) r c) (some (.int .i64 (12))) none none).run Tryd.prog wx = .ok (.slice (some ⟨cb, if c = 12 then o else o + (12), none⟩) (r - (12)) (c - (12))) wx := fun wx => by
            rw [← hnI]; exact slice_tl wx cb o r c (12) (by omega) hrc
          have ho7 : 12 < r → (if c = 12 then o else o + (12)) = o + (12) := fun h => by rw [if_neg (by omega)]
          generalize (if c = 12 then o else o + (12)) = o7 at *
          have hlen : ((ts.drop d).take (12)).length = 12 := by rw [List.length_take, List.length_drop]; omega
          have hck := logCk_ok hL hH.nf.failed
          rw [hN] at hck
          generalize strOf D.ckR = rt at *
          go_wp2_with fail
          refine hck.mono ?_
          rintro e w2 ⟨rfl, hb2⟩
          have hL2 := hL.below hb2
          have hbw2 := hbw.trans (hb2.mono hbw.size)
          have hS2 := hS.below hb2
          have hsub := submit_ok hL2 hH.nf.failed hH.jn cb o c ((ts.drop d).take (12)) (hS2.take _) (by have := hbw2.size; omega) (by omega) (by omega) (fun e => by have := hfo _ e; omega) (by simp [Value.ownBlock]) (fun s hs => hz s (List.mem_of_mem_drop (List.mem_of_mem_take hs))) (by rw [hlen]; simp <;> omega) (by rw [hlen, hN]; simp; omega)
          rw [hlen, List.nil_append] at hsub
          go_wp2_with fail
          refine hsub.mono ?_
          rintro e w3 ⟨rfl, wv3, hL3, hR3⟩
          clear hsub hck
          obtain ⟨hbw3, hfo3, hwo3⟩ := FrL.below hbw2 hR3 ha hb hfo (fun k hk => by simp [Value.ownBlock] at hk)
          have hz3 : ∀ s ∈ (ts.drop d).take (12), s.size ≤ 40 := fun s hs => hz s (List.mem_of_mem_drop (List.mem_of_mem_take hs))
          have hfd : D.flushed ((ts.drop d).take (12)) = D.add ((ts.drop d).take (12)) := by
            unfold Dk.flushed
            rw [if_neg (by rw [hlen]; omega)]
          have hH4 := add_spec hH (W := (ts.drop d).take (12)) (by rw [hlen]; omega) hz3 (by rw [hlen, List.length_take]; omega)
          have htk : ts.take d ++ (ts.drop d).take (12) = ts.take (d + (12)) := (List.take_add ..).symm
          rw [htk] at hH4
          have hN4 := hH4.ckN
          rw [List.length_take, Nat.min_eq_left (by omega)] at hN4
          have hfl := logFlush_any hL3 hH.nf.failed hH.jn hz3 (by rw [hlen, hN]; omega) (by rw [hH.fre]; simp) (env_of ht hg hbw3 hb hfo3) (by rw [hfd]; exact hH4.nf.failed)
          rw [hfd, hN4] at hfl
          have hcI : ((d + (12) : Nat) : Int) = (d : Int) + (12) := by omega
          rw [hcI] at hfl
          have HG4 : Hid (groF g (ts.length - (kk + 1)) (kk + 1) (D.add ((ts.drop d).take (12))) (ts.drop (d + (12))) = T) := by
            have h1 := HGk.out
            have h2 := HK.out
            rw [groF_step hkd (by omega) (n := 12) (by rw [h2]; omega)] at h1
            exact h1
          generalize D.add ((ts.drop d).take (12)) = D4 at *
          go_wp2_with fail
          refine hfl.mono ?_
          rintro e w4 ⟨rfl, fv4, hL4, hR4⟩
          clear hfl
          obtain ⟨hbw4, hfo4, _⟩ := FrL.below hbw3 hR4 ha hb hfo3 hwo3
          have hS4 : SA w4 cb o7 (ts.drop (d + (12))) := by
            have hS0 : SA w4 cb o (ts.drop d) := fun i s hs => by
              have h9 := hS i s hs
              have h8 : w.cell? ⟨cb, o + i, none⟩ = some (.string s) := by rw [← hbw.cell (p := ⟨cb, o + i, none⟩) hcb]; exact h9
              rw [hbw4.cell (p := ⟨cb, o + i, none⟩) hcb]; exact h8
            by_cases hjr : 12 < r
            · rw [ho7 hjr]
              have := hS0.drop (12)
              rw [List.drop_drop] at this
              exact this
            · rw [List.drop_eq_nil_of_le (by omega)]
              intro i s hs
              simp at hs
          have hmj : r - (12) < r := by omega
          clear hS hL hL2 hL3 hR3 hR4 hS2
          go_wp2
          go_roundw
          case rel => exact ⟨d + (12), o7, c - (12), kk + 1, fv4, D4, by omega, by omega, by omega, by congr 1; omega, by go_num, hS4, hL4, hH4, HG4, hbw4, hfo4⟩
          case measure => simpa [sliceLen] using hmj

end Go.Proofs.YtlhohmlpcgbliaaDoor
namespace Go.Proofs.YtlhohmlpcgbliaaDoor
set_option maxRecDepth 100000
open Go.RowKit
attribute [local go_sem ↓] Go.wp_at_zero Go.wp_at_succ

/-- The store's method, bound to it. -/
def spanV (b : Nat) : Value := .func (.func 72) #[stV b] #[]

set_option maxHeartbeats 1000000 in
theorem storeSpan_any (b a n : Nat) (fv : Value) (D : Dk) (w : World) (h : DiskAt w b fv D) (ha : a + n < 500) (ht : Table w) (hg : 2 < w.heap.size) :
    Calls Tryd.prog 72 #[stV b, .int .i64 (a : Int), .int .i64 ((a + n : Nat) : Int)] w fun e w' => e = .returned (.string (D.span a n)) ∧ Below w.heap.size w w' := by
  have hb0 : Below w.heap.size w (w.alloc (.cells #[.pointer (some ⟨b, 0, none⟩)] 97)) := (Below.refl _ _).alloc (Nat.le_refl _) _
  have hB0 : Blk (w.alloc (.cells #[.pointer (some ⟨b, 0, none⟩)] 97)) w.heap.size 97 [.pointer (some ⟨b, 0, none⟩)] := Blk.new w _ _
  have hc := hB0.cell 0
  simp only [List.getElem?_cons_zero] at hc
  have hck := span_any b a n fv D _ (h.below hb0) ha (table_at hb0 hg ht) (Nat.lt_of_lt_of_le hg hb0.size)
  unfold stV
  generalize ((a + n : Nat) : Int) = tt at *
  go_enter Tryd.func72, Tryd.ntmps72
  go_wp2_with fail
  generalize w.alloc (.cells #[.pointer (some ⟨b, 0, none⟩)] 97) = w0 at *
  refine hck.mono ?_
  rintro e w1 ⟨rfl, hb1⟩
  go_wp2
  go_ret
  exact ⟨rfl, hb0.trans (hb1.mono hb0.size)⟩

theorem gives_span (b a n : Nat) (fv : Value) (D : Dk) (w : World) (h : DiskAt w b fv D) (ha : a + n < 500) (ht : Table w) (hg : 2 < w.heap.size) : Gives w 72 #[stV b, .int .i64 (a : Int), .int .i64 ((a + n : Nat) : Int)] (D.span a n) := fun wx hx =>
  storeSpan_any b a n fv D wx (h.below hx) ha (table_at hx hg ht) (Nat.lt_of_lt_of_le hg hx.size)

set_option maxHeartbeats 400000 in
theorem be_none (i a : Nat) (F : Value) (w : World) : GivesRow w 97 #[.int .i64 (i : Int), .int .i64 (a : Int), .int .i64 ((a + 1 : Nat) : Int), F] [] := by
  unfold GivesRow
  have e0 : ((a + 1 : Nat) : Int) - (a : Int) = 1 := by omega
  generalize ((a + 1 : Nat) : Int) = tt at *
  go_enter Tryd.func97, Tryd.ntmps97
  go_wp2
  go_ret
  exact ⟨_, rfl, World.ownsRow_nil _ _ _ _, Below.refl _ _⟩

set_option maxHeartbeats 1000000 in
theorem be_left (i a m : Nat) (S : Value) (xs : List ByteArray) (y : ByteArray) (w : World) (h2 : 2 ≤ m) (hm : a + m < 500) (hi5 : i < 500) (hi : i < a + spl m) (hxl : xs.length ≤ 1048576)
  (hrec : GivesRow w 97 #[.int .i64 (i : Int), .int .i64 (a : Int), .int .i64 ((a : Int) + ((spl m : Nat) : Int)), .func (.func 72) #[S] #[]] xs)
  (hspan : Gives w 72 #[S, .int .i64 ((a : Int) + ((spl m : Nat) : Int)), .int .i64 ((a + m : Nat) : Int)] y) :
    GivesRow w 97 #[.int .i64 (i : Int), .int .i64 (a : Int), .int .i64 ((a + m : Nat) : Int), .func (.func 72) #[S] #[]] (xs ++ [y]) := by
  unfold GivesRow
  have hsp := treeSplit_any m w h2 (by omega)
  have hlt := spl_lt h2
  have e0 : ((a + m : Nat) : Int) - (a : Int) = (m : Int) := by omega
  have h1' : ¬ (m : Int) = 1 := by omega
  generalize spl m = k at *
  have hi' : (i : Int) < (a : Int) + (k : Int) := by omega
  have HX : Aside (strv xs ++ [.string y] = strv (xs ++ [y])) := by show _ = _; simp [strv]
  have hxl2 : (strv xs).length ≤ 1048576 := by rw [strv_length]; exact hxl
  have htt : ((a + m : Nat) : Int) < 500 := by omega
  have htt0 : 0 ≤ ((a + m : Nat) : Int) := by omega
  generalize ((a + m : Nat) : Int) = tt at *
  unfold GivesRow at hrec
  clear hxl hi
  generalize hxs : strv xs = zs at *
  clear hxs
  go_enter Tryd.func97, Tryd.ntmps97
  go_wp2_with fail
  refine hsp.mono ?_
  rintro e w0 ⟨rfl, rfl⟩
  go_wp2_with fail
  refine hrec.mono ?_
  rintro e w1 ⟨v, rfl, hrow, hb⟩
  go_wp2_with fail
  refine (hspan _ hb).mono ?_
  rintro e w2 ⟨rfl, hb2⟩
  have hrow2 := hrow.below hb2 (Nat.le_refl _)
  have hb3 := hb.trans (hb2.mono hb.size)
  clear hrow hrec hspan hsp
  go_wp2_with (at_builtin; refine wpList_app elem_string rfl Tryd.underlying22 (by rfl) (.tmp 27) (.tmp 32) (by rfl) w0.heap.size _ zs (by rfl) (hrow2.alloc _) _ 1 1 [.string y] (by rfl) rfl (Blk.new _ 9 _) ?h1 ?hl ?hb ?hbs (w0 := w0) (hb3.alloc hb3.size _) (Nat.le_refl _) ?_)
  case h1 => intro u hu; simp at hu; subst hu; rfl
  case hl => omega
  case hb => omega
  case hbs => have := hb3.size; simp; omega
  intro v' w' hv' _ hb'
  rw [HX.out] at hv'
  go_wp2
  go_ret
  exact ⟨_, rfl, hv', hb'⟩

set_option maxHeartbeats 1000000 in
theorem be_right (i a m : Nat) (S : Value) (xs : List ByteArray) (y : ByteArray) (w : World) (h2 : 2 ≤ m) (hm : a + m < 500) (hi5 : i < 500) (hi : a + spl m ≤ i) (hxl : xs.length ≤ 1048576)
  (hrec : GivesRow w 97 #[.int .i64 (i : Int), .int .i64 ((a : Int) + ((spl m : Nat) : Int)), .int .i64 ((a + m : Nat) : Int), .func (.func 72) #[S] #[]] xs)
  (hspan : Gives w 72 #[S, .int .i64 (a : Int), .int .i64 ((a : Int) + ((spl m : Nat) : Int))] y) :
    GivesRow w 97 #[.int .i64 (i : Int), .int .i64 (a : Int), .int .i64 ((a + m : Nat) : Int), .func (.func 72) #[S] #[]] (xs ++ [y]) := by
  unfold GivesRow
  have hsp := treeSplit_any m w h2 (by omega)
  have hlt := spl_lt h2
  have e0 : ((a + m : Nat) : Int) - (a : Int) = (m : Int) := by omega
  have h1' : ¬ (m : Int) = 1 := by omega
  generalize spl m = k at *
  have hi' : ¬ (i : Int) < (a : Int) + (k : Int) := by omega
  have HX : Aside (strv xs ++ [.string y] = strv (xs ++ [y])) := by show _ = _; simp [strv]
  have hxl2 : (strv xs).length ≤ 1048576 := by rw [strv_length]; exact hxl
  have htt : ((a + m : Nat) : Int) < 500 := by omega
  have htt0 : 0 ≤ ((a + m : Nat) : Int) := by omega
  generalize ((a + m : Nat) : Int) = tt at *
  unfold GivesRow at hrec
  clear hxl hi
  generalize hxs : strv xs = zs at *
  clear hxs
  go_enter Tryd.func97, Tryd.ntmps97
  go_wp2_with fail
  refine hsp.mono ?_
  rintro e w0 ⟨rfl, rfl⟩
  go_wp2_with fail
  refine hrec.mono ?_
  rintro e w1 ⟨v, rfl, hrow, hb⟩
  go_wp2_with fail
  refine (hspan _ hb).mono ?_
  rintro e w2 ⟨rfl, hb2⟩
  have hrow2 := hrow.below hb2 (Nat.le_refl _)
  have hb3 := hb.trans (hb2.mono hb.size)
  clear hrow hrec hspan hsp
  go_wp2_with (at_builtin; refine wpList_app elem_string rfl Tryd.underlying22 (by rfl) (.tmp 38) (.tmp 43) (by rfl) w0.heap.size _ zs (by rfl) (hrow2.alloc _) _ 1 1 [.string y] (by rfl) rfl (Blk.new _ 9 _) ?h1 ?hl ?hb ?hbs (w0 := w0) (hb3.alloc hb3.size _) (Nat.le_refl _) ?_)
  case h1 => intro u hu; simp at hu; subst hu; rfl
  case hl => omega
  case hb => omega
  case hbs => have := hb3.size; simp; omega
  intro v' w' hv' _ hb'
  rw [HX.out] at hv'
  go_wp2
  go_ret
  exact ⟨_, rfl, hv', hb'⟩
end Go.Proofs.YtlhohmlpcgbliaaDoor
namespace Go.Proofs.YtlhohmlpcgbliaaDoor
set_option maxRecDepth 100000
open Go.RowKit
attribute [local go_sem ↓] Go.wp_at_zero Go.wp_at_succ

end Go.Proofs.YtlhohmlpcgbliaaDoor
namespace Go.Proofs.YtlhohmlpcgbliaaDoor
set_option maxRecDepth 100000
open Go.RowKit

/-- Where a part of a log's tree is cut. -/
theorem cut_facts {m a j : Nat} (h2 : 2 ≤ m) (hj : m ≤ 2 ^ j) (hd : 2 ^ j ∣ a) : ∃ h, spl m = 2 ^ h ∧ 2 ^ h ∣ a ∧ 2 ^ h ∣ a + spl m ∧ m - spl m ≤ 2 ^ h ∧ spl m < m ∧ 0 < spl m := by
  obtain ⟨h, hs⟩ := spl_pow m
  have h3 := spl_lt h2
  have h4 := spl_ge h2
  rw [hs] at h3 h4
  have h5 : h < j := (Nat.pow_lt_pow_iff_right (a := 2) (by omega)).1 (by omega)
  have h6 : 2 ^ h ∣ a := Nat.dvd_trans (Nat.pow_dvd_pow 2 (by omega)) hd
  refine ⟨h, hs, h6, ?_, by omega, by omega, spl_pos m⟩
  rw [hs]
  exact Nat.dvd_add h6 (Nat.dvd_refl _)

theorem sub_take {L : List ByteArray} {a m k : Nat} (h : k ≤ m) : ((L.drop a).take m).take k = (L.drop a).take k := by rw [List.take_take, Nat.min_eq_left h]
theorem sub_drop {L : List ByteArray} {a m k : Nat} : ((L.drop a).take m).drop k = (L.drop (a + k)).take (m - k) := by rw [List.drop_take, List.drop_drop]
theorem sub_len {L : List ByteArray} {a m : Nat} (h : a + m ≤ L.length) : ((L.drop a).take m).length = m := by rw [List.length_take, List.length_drop]; omega

end Go.Proofs.YtlhohmlpcgbliaaDoor
namespace Go.Proofs.YtlhohmlpcgbliaaDoor
set_option maxRecDepth 100000
open Go.RowKit
attribute [local go_sem ↓] Go.wp_at_zero Go.wp_at_succ


set_option maxHeartbeats 1000000 in
theorem treeInclusion (i n : Nat) (F : Value) (xs : List ByteArray) (w : World) (h : GivesRow w 97 #[.int .i64 (i : Int), .int .i64 0, .int .i64 (n : Int), F] xs) : GivesRow w 71 #[.int .i64 (i : Int), .int .i64 (n : Int), F] xs := by
  unfold GivesRow at *
  go_enter Tryd.func71, Tryd.ntmps71
  go_wp2_with fail
  refine h.mono ?_
  rintro e w1 ⟨v, rfl, hr, hb⟩
  go_wp2
  go_ret
  exact ⟨_, rfl, hr, hb⟩

end Go.Proofs.YtlhohmlpcgbliaaDoor
namespace Go.Proofs.YtlhohmlpcgbliaaDoor
set_option maxRecDepth 100000
open Go.RowKit
attribute [local go_sem ↓] Go.wp_at_zero Go.wp_at_succ

end Go.Proofs.YtlhohmlpcgbliaaDoor
namespace Go.Proofs.YtlhohmlpcgbliaaDoor
set_option maxRecDepth 100000
open Go.RowKit
attribute [local go_sem ↓] Go.wp_at_zero Go.wp_at_succ

/-- Included answers so of every such list. -/
def InclAs (w0 : World) (leaf root : ByteArray) (i n : Nat) (l : List ByteArray) (r : Bool) : Prop := ∀ wx v, Below w0.heap.size w0 wx → Lst wx v l → Calls Tryd.prog 23 #[.string leaf, .int .i64 (i : Int), .int .i64 (n : Int), v, .string root] wx fun e w' => e = .returned (.bool r) ∧ Below wx.heap.size wx w'

/-- Extends answers so of every such list. -/
def ExtAs (w0 : World) (old root : ByteArray) (m n : Nat) (l : List ByteArray) (r : Bool) : Prop := ∀ wx v, Below w0.heap.size w0 wx → Lst wx v l → Calls Tryd.prog 24 #[.int .i64 (m : Int), .int .i64 (n : Int), .string old, .string root, v] wx fun e w' => e = .returned (.bool r) ∧ Below wx.heap.size wx w'

/-- What the rest of Shown hangs on. -/
structure ShH (w0 w : World) (i m n : Nat) (leaf root old other : ByteArray) (pv qv : Value) (P L : List ByteArray) (B : Bool) (base : Nat) : Prop where
  row : Row w base 9 pv (strv P)
  lq : Lst w qv L
  b0 : w0.heap.size ≤ base
  bw : base ≤ w.heap.size
  len : P.length ≤ 64
  m1 : 1 ≤ m
  mn : m ≤ n
  n64 : n ≤ 64
  bel : Below w0.heap.size w0 w
  inc : InclAs w0 leaf root i n (P ++ [other]) false
  inc2 : other ≠ root → InclAs w0 leaf other i n P false
  ext2 : other ≠ root → ExtAs w0 old other m n L false
  ext3 : ExtAs w0 other root m n L B
  np : other ≠ old → B = true → m ≠ n → m &&& (m - 1) = 0

theorem ShH.below {w0 w w' : World} {i m n : Nat} {leaf root old other : ByteArray} {pv qv : Value} {P L : List ByteArray} {B : Bool} {base : Nat} (h : ShH w0 w i m n leaf root old other pv qv P L B base) (hb : Below w.heap.size w w') : ShH w0 w' i m n leaf root old other pv qv P L B base :=
  ⟨h.row.below hb (Nat.le_refl _), h.lq.below hb, h.b0, Nat.le_trans h.bw hb.size, h.len, h.m1, h.mn, h.n64, h.bel.trans (hb.mono h.bel.size), h.inc, h.inc2, h.ext2, h.ext3, h.np⟩


end Go.Proofs.YtlhohmlpcgbliaaDoor
namespace Go.Proofs.YtlhohmlpcgbliaaDoor
set_option maxRecDepth 100000
open Go.RowKit
attribute [local go_sem ↓] Go.wp_at_zero Go.wp_at_succ

end Go.Proofs.YtlhohmlpcgbliaaDoor
namespace Go.Proofs.YtlhohmlpcgbliaaDoor
set_option maxRecDepth 100000
open Go.RowKit
attribute [local go_sem ↓] Go.wp_at_zero Go.wp_at_succ

end Go.Proofs.YtlhohmlpcgbliaaDoor
namespace Go.Proofs.YtlhohmlpcgbliaaDoor
set_option maxRecDepth 100000
open Go.RowKit
attribute [local go_sem ↓] Go.wp_at_zero Go.wp_at_succ

set_option maxHeartbeats 1000000 in
theorem fits_none (b : Nat) (n : Int) (fv : Value) (D : Dk) (w : World) (h : DiskAt w b fv D) (hz : D.read 1 = zer) :
    Calls Tryd.prog 130 #[.pointer (some ⟨b, 0, none⟩), .int .i64 n] w fun e w' => e = .returned (.bool true) ∧ Below w.heap.size w w' := by
  have hrj := readJournal_none b fv D w h hz
  clear hz
  go_enter Tryd.func130, Tryd.ntmps130
  go_wp2_with fail
  refine hrj.mono ?_
  rintro e w1 ⟨rfl, hb1⟩
  go_wp2
  go_ret
  exact ⟨rfl, hb1.alloc hb1.size _⟩
end Go.Proofs.YtlhohmlpcgbliaaDoor
namespace Go.Proofs.YtlhohmlpcgbliaaDoor
set_option maxRecDepth 100000
open Go.RowKit
attribute [local go_sem ↓] Go.wp_at_zero Go.wp_at_succ

set_option maxHeartbeats 1000000 in
theorem logBytes_any {w : World} {a b : Nat} {fv wv : Value} {D : Dk} {W : List ByteArray} (h : LogAt w a b fv wv D W) : Calls Tryd.prog 44 #[.pointer (some ⟨a, 0, none⟩)] w fun e w' => e = .returned (.string (strOf D.las.flatten)) ∧ Below w.heap.size w w' := by
  have hc := h.blk.cell 0
  simp only [List.getElem?_cons_zero] at hc
  have hd := none_any h
  have hp := bytes_any b fv D w h.disk
  generalize strOf D.las.flatten = s at *
  go_enter Tryd.func44, Tryd.ntmps44
  go_wp2_with fail
  refine hd.mono ?_
  rintro e w1 ⟨rfl, rfl⟩
  go_wp2_with fail
  refine hp.mono ?_
  rintro e w2 ⟨rfl, hb2⟩
  go_wp2
  go_ret
  exact ⟨rfl, hb2⟩
set_option maxHeartbeats 1000000 in
theorem logActs_any {w : World} {a b : Nat} {fv wv : Value} {D : Dk} {W : List ByteArray} (h : LogAt w a b fv wv D W) : Calls Tryd.prog 45 #[.pointer (some ⟨a, 0, none⟩)] w fun e w' => e = .returned (.int .i64 D.acts) ∧ w' = w := by
  have hc := h.blk.cell 0
  simp only [List.getElem?_cons_zero] at hc
  have hd := none_any h
  have hp := acts_any b fv D w h.disk
  generalize D.acts = s at *
  go_enter Tryd.func45, Tryd.ntmps45
  go_wp2_with fail
  refine hd.mono ?_
  rintro e w1 ⟨rfl, rfl⟩
  go_wp2_with fail
  refine hp.mono ?_
  rintro e w2 ⟨rfl, rfl⟩
  go_wp2
  go_ret
  exact ⟨rfl, rfl⟩
end Go.Proofs.YtlhohmlpcgbliaaDoor
namespace Go.Proofs.YtlhohmlpcgbliaaDoor
set_option maxRecDepth 100000
open Go.RowKit
attribute [local go_sem ↓] Go.wp_at_zero Go.wp_at_succ

set_option maxHeartbeats 2000000 in
theorem logFlush_down {w : World} {a b : Nat} {fv wv : Value} {D : Dk} {W : List ByteArray} (h : LogAt w a b fv wv D W) (hf : D.failed = false) (hz1 : D.read 1 = zer) (hz : ∀ s ∈ W, s.size ≤ 40) (hl : D.ckN + W.length ≤ 76) (hfe : D.fre.length < 700000) (he : Env w b fv.ownBlock) (hw0 : 0 < W.length) (hok : (D.add W).failed = true) :
    Calls Tryd.prog 42 #[.pointer (some ⟨a, 0, none⟩)] w fun e w' => e = .returned (.tuple #[.int .i64 0, .int .i64 3]) ∧ ∃ fv', LogAt w' a b fv' wv (D.add W) W ∧ FrL a b fv.ownBlock wv.ownBlock fv'.ownBlock wv.ownBlock w w' := by
  have hrf := refused_ok h hf hz1
  clear hz1 hf
  go_enter Tryd.func42, Tryd.ntmps42
  go_wp2_with fail
  refine hrf.mono ?_
  rintro e w1 ⟨rfl, hb1⟩
  clear hrf
  have h1 := h.below hb1
  have he1 := he.below hb1
  have R1 : FrL a b fv.ownBlock wv.ownBlock fv.ownBlock wv.ownBlock w w1 := FrL.of_below hb1
  have hc0 := h1.blk.cell 0
  have hc1 := h1.blk.cell 1
  simp only [List.getElem?_cons_zero, List.getElem?_cons_succ] at hc0 hc1
  obtain ⟨p, cap, hwv⟩ := h1.wv
  rw [hwv] at hc1
  obtain ⟨g, cap, hwv2, hcap, hgl, hSA⟩ := h1.wrow (by omega)
  have hgo : wv.ownBlock = some g := by rw [hwv2]; rfl
  have hw' : (0 : Int) < (W.length : Int) := by omega
  rw [← hwv, hwv2] at hc1
  go_wp2_with fail
  refine flR5_wp a b g cap W fv D w1 _ h1.disk hc0 hc1 h1.ab h1.fa hSA hgl (fun e => h1.wb (by rw [hgo, e])) (h1.wf g hgo) hz hl hfe he1 ?_
  intro u18 u19 u20 u21 u22 u23 u24 u25 u26 fv2 w2 hd2 r2
  have h2 := h1.fr r2 hd2
  have R2 := R1.trans (FrL.of_fr r2)
  clear hSA hwv hwv2 hgo hd2 hw'
  have hdn := down_any h2
  rw [hok] at hdn
  clear hok hc0 hc1
  go_wp2_with fail
  refine hdn.mono ?_
  rintro e w3 ⟨rfl, rfl⟩
  go_wp2
  go_ret2
  exact ⟨rfl, fv2, h2, R2⟩

/-- The disk with a script. -/
def Dk.script (D : Dk) (after keep : Int) : Dk := { D with set := true, left := after, keep := keep }
end Go.Proofs.YtlhohmlpcgbliaaDoor
namespace Go.Proofs.YtlhohmlpcgbliaaDoor
set_option maxRecDepth 100000
open Go.RowKit

/-- A row of one's own lies as it lay where its block has not changed. -/
theorem ownsRow_kept {w w' : World} {t : TypeId} {m n : Nat} {v : Value} {xs : List Value} (h : w.ownsRow 0 t m v n xs) (hb : ∀ k, v.ownBlock = some k → k < w.heap.size → w'.heap[k]? = w.heap[k]?) : w'.ownsRow 0 t m v n xs := by
  obtain ⟨h1, h2⟩ := h
  refine ⟨h1, ?_⟩
  rcases h2 with h0 | ⟨g, cap, cur, hv, hbg, hg, rr⟩
  · exact Or.inl h0
  · have hog : v.ownBlock = some g := by rw [hv]; rfl
    have hgl : g < w.heap.size := (Array.getElem?_eq_some_iff.1 hg).1
    exact Or.inr ⟨g, cap, cur, hv, hbg, by rw [hb g hog hgl]; exact hg, rr⟩
/-- A log's blocks. -/
def Own (a b : Nat) (g h : Option Nat) (k : Nat) : Prop := k = a ∨ k = b ∨ g = some k ∨ h = some k
/-- Two logs have no block in common. -/
def Dis (a b : Nat) (g h : Option Nat) (a' b' : Nat) (g' h' : Option Nat) : Prop := ∀ k, Own a b g h k → ¬ Own a' b' g' h' k
theorem Dis.symm {a b : Nat} {g h : Option Nat} {a' b' : Nat} {g' h' : Option Nat} (d : Dis a b g h a' b' g' h') : Dis a' b' g' h' a b g h := fun k h1 h2 => d k h2 h1
theorem LogAt.lt {w : World} {a b : Nat} {fv wv : Value} {D : Dk} {W : List ByteArray} (h : LogAt w a b fv wv D W) : ∀ k, Own a b fv.ownBlock wv.ownBlock k → k < w.heap.size := by
  intro k hk
  rcases hk with rfl | rfl | e | e
  · exact h.blk.lt
  · exact h.disk.lt
  · exact (h.disk.row.lt k e).2
  · exact (h.row.lt k e).2
/-- A log stays as it is, whatever another one does. -/
theorem LogAt.other {w w' : World} {a b : Nat} {fv wv : Value} {D : Dk} {W : List ByteArray} (h : LogAt w a b fv wv D W) {a' b' : Nat} {g h2 g' h2' : Option Nat} (r : FrL a' b' g h2 g' h2' w w') (hd : Dis a b fv.ownBlock wv.ownBlock a' b' g h2) : LogAt w' a b fv wv D W := by
  have hk : ∀ k, Own a b fv.ownBlock wv.ownBlock k → w'.heap[k]? = w.heap[k]? := by
    intro k ho
    have hn := hd k ho
    exact r.block k (h.lt k ho) (fun e => hn (.inl e)) (fun e => hn (.inr (.inl e))) (fun e => hn (.inr (.inr (.inl e)))) (fun e => hn (.inr (.inr (.inr e))))
  refine ⟨⟨h.disk.ok, ?_, ownsRow_kept h.disk.row (fun k e _ => hk k (.inr (.inr (.inl e)))), h.disk.apart⟩, ?_, ownsRow_kept h.row (fun k e _ => hk k (.inr (.inr (.inr e)))), h.ab, h.fa, h.wa, h.wb, h.wf⟩
  · have := h.disk.blk
    unfold Blk at *
    rw [hk b (.inr (.inl rfl))]; exact this
  · have := h.blk
    unfold Blk at *
    rw [hk a (.inl rfl)]; exact this
/-- What another log has taken anew is not this log's. -/
theorem Dis.step {w w' : World} {a b : Nat} {g h g1 h1 : Option Nat} {a' b' : Nat} {g' h' : Option Nat} (d : Dis a b g h a' b' g' h') (r : FrL a b g h g1 h1 w w') (hl : ∀ k, Own a' b' g' h' k → k < w.heap.size) : Dis a b g1 h1 a' b' g' h' := by
  intro k h0 h2
  have hlt := hl k h2
  rcases h0 with e | e | e | e
  · exact d k (.inl e) h2
  · exact d k (.inr (.inl e)) h2
  · rcases r.own with e1 | e1 | ⟨j, e1, hj⟩
    · rw [e1] at e; cases e
    · rw [e1] at e; exact d k (.inr (.inr (.inl e))) h2
    · rw [e1] at e; cases e; omega
  · rcases r.own2 with e1 | e1 | ⟨j, e1, hj⟩
    · rw [e1] at e; cases e
    · rw [e1] at e; exact d k (.inr (.inr (.inr e))) h2
    · rw [e1] at e; cases e; omega
/-- A new log shares no block with one that was there. -/
theorem Dis.new {n : Nat} {a b a' b' : Nat} {g' h' : Option Nat} (ha : n ≤ a) (hb : n ≤ b) (hl : ∀ k, Own a' b' g' h' k → k < n) : Dis a b none none a' b' g' h' := by
  intro k h0 h2
  have := hl k h2
  rcases h0 with e | e | e | e
  · omega
  · omega
  · cases e
  · cases e
end Go.Proofs.YtlhohmlpcgbliaaDoor
