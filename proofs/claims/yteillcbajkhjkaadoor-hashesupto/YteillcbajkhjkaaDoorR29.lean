import Derived.Test.YteillcbajkhjkaaDoorR28
namespace Go.Proofs.YteillcbajkhjkaaDoor
open Go.RowKit
attribute [local go_sem ↓] Go.wp_at_zero Go.wp_at_succ

theorem roomL_low (ss : List ByteArray) (k : Nat) (s : ByteArray) (h : ss[k]? = some s) : (strv (roomL ss 8))[k]? = some (.string s) := by
  have hk : k < ss.length := (List.getElem?_eq_some_iff.1 h).1
  simp only [strv, roomL, List.getElem?_map]
  rw [List.getElem?_append_left hk, h]; rfl
theorem roomL_high (ss : List ByteArray) (k : Nat) (h1 : ss.length ≤ k) (h2 : k < ss.length + 8) : (strv (roomL ss 8))[k]? = some (.string beyond) := by
  simp only [strv, roomL, List.getElem?_map]
  rw [List.getElem?_append_right h1, List.getElem?_append_left (by simp; omega), List.getElem?_replicate, if_pos (by omega)]; rfl

set_option maxRecDepth 100000 in
set_option maxHeartbeats 1000000 in
theorem whole_some (a : Addr) (g c : Nat) (ss : List ByteArray) (w : World) (hn : ss.length ≤ 100000000000) (hS : Strs w (.slice (some a) ss.length c) ss) (hB : Blk w g 9 (strv (roomL ss 8))) :
    Calls Tryd.prog 11 #[.slice (some ⟨g, 0, none⟩) ss.length (ss.length + 8), .slice (some a) ss.length c] w fun e w' => e = .returned (.bool true) ∧ ∃ d, w' = w.drewN d := by
  have hq := fun wx => eqnil_some wx a ss.length c
  have e1 : Hid (((ss.length : Int) + 8) = ((ss.length + 8 : Nat) : Int)) := by show _ = _; omega
  have hsl : ∀ wx : World, (Instr.sliceAt 22 (.slice (some ⟨g, 0, none⟩) ss.length (ss.length + 8)) none (some (.int .i64 ((ss.length : Int) + 8))) none).run Tryd.prog wx = .ok (.slice (some ⟨g, 0, none⟩) (ss.length + 8) (ss.length + 8)) wx := fun wx => by
    rw [e1.out]; exact slice_h wx g 0 ss.length (ss.length + 8) (ss.length + 8) (Nat.le_refl _)
  go_enter Tryd.func11, Tryd.ntmps11
  go_wp2_with fail
  go_loopw [7] (fun i wr => ∃ k d : Nat, k ≤ ss.length + 8 ∧ i = .int .i64 (k : Int) ∧ wr = w.drewN d) (fun i _ => ss.length + 8 - (intOf i).toNat)
  case atStart => exact ⟨0, 0, by omega, rfl, rfl⟩
  case round =>
    obtain ⟨k, d, hk, rfl, rfl⟩ := hrel
    clear hq hsl
    by_cases h8 : k < ss.length + 8
    · by_cases hlo : k < ss.length
      · obtain ⟨s, hs⟩ : ∃ s, ss[k]? = some s := ⟨_, List.getElem?_eq_getElem hlo⟩
        obtain ⟨a', c', hv, hc⟩ := hS
        obtain ⟨b, o, ha, hcell⟩ := hc k s hs
        injection hv with hv1 hv2 hv3
        rw [← hv1] at ha
        injection ha with ha
        subst ha
        have h1 : (w.drewN d).cell? ⟨g, k, none⟩ = some (.string s) := by rw [World.cell?_drewN, hB.cell]; exact roomL_low ss k s hs
        have h2 : (w.drewN d).cell? ⟨b, o + k, none⟩ = some (.string s) := by rw [World.cell?_drewN]; exact hcell
        clear hc hv2 hv3 hs hcell
        go_wp2_with fail
        refine whR8_low g (ss.length + 8) ss.length c b o k s _ _ hlo (by omega) h1 h2 ?_
        intro u24 u25 u26 u27 u28 u29 u30 u31 u32 u33 u34 u35 u36 u37 u38 u39 u40 u41 u42 u43 u44 u45 u46 u47 u48 d'
        go_wp2
        exact ⟨⟨k + 1, d + d', h8, by go_num, rfl⟩, by simp [intOf]; omega⟩
      · have h1 : (w.drewN d).cell? ⟨g, k, none⟩ = some (.string beyond) := by rw [World.cell?_drewN, hB.cell]; exact roomL_high ss k (by omega) h8
        go_wp2_with fail
        refine whR8_high g (ss.length + 8) ss.length k _ _ _ (by omega) h8 h1 ?_
        intro u24 u25 u26 u27 u28 u29 u30 u31 u32 u33 u34 u35 u36 u37 u38 u39 u40 u41 u42 u43 u44 u45 u46 u47 u48 d'
        go_wp2
        exact ⟨⟨k + 1, d + d', h8, by go_num, rfl⟩, by simp [intOf]; omega⟩
    · have hk8 : k = ss.length + 8 := by omega
      subst hk8
      go_wp2
      go_ret
      exact ⟨rfl, d, rfl⟩
end Go.Proofs.YteillcbajkhjkaaDoor
