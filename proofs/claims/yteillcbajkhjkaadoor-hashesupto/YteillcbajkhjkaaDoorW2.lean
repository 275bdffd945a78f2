import Derived.Test.YteillcbajkhjkaaDoorW1
import Derived.Test.YteillcbajkhjkaaDoorWd
import Derived.Deep.RegionHeld3
import Derived.Deep.DrawnRows
namespace Go.Proofs.YteillcbajkhjkaaDoor
open Go.RowKit
attribute [local go_sem ↓] Go.wp_at_zero Go.wp_at_succ

theorem info64 : (Tryd.prog.info? 70).map (·.size) = some 64 := by kernel_rfl
theorem arr64 : Tryd.prog.arrayLen 60 = 64 := by kernel_rfl
theorem elem64 : Tryd.prog.elem 60 = 5 := by kernel_rfl
theorem cells5 : Tryd.prog.cellsOf 5 = 1 := by kernel_rfl
theorem size5 (w : World) : (sizeOf 5).run Tryd.prog w = .ok 1 w := by kernel_rfl

theorem sliceAt_block (w : World) (b off : Nat) (l h : Int) (h0 : 0 ≤ l) (h1 : l ≤ h) (h2 : h ≤ 64) (h3 : l < 64) :
    (Instr.sliceAt 60 (.pointer (some ⟨b, off, none⟩)) (some (.int .i64 l)) (some (.int .i64 h)) none).run Tryd.prog w = .ok (.slice (some ⟨b, off + l.toNat, none⟩) (h.toNat - l.toNat) (64 - l.toNat)) w := by
  rw [run_sliceAt_array_lh w 60 ⟨b, off, none⟩ Tryd.underlying60 .i64 .i64 l h h0 h1 (by rw [arr64]; exact h2), elem64, size5, arr64]
  simp only [slicedAt, Result.andThen]
  rw [if_neg (by omega)]
  simp [Addr.add]

/-- The first j bytes of word k. -/
def part (bl : List Nat) (k : Nat) : Nat → Nat
  | 0 => 0
  | j + 1 => part bl k j * 256 + bl.getD (4 * k + j) 0
theorem part_lt {bl : List Nat} (h : Sha.bytesOk bl) (k j : Nat) : part bl k j < 256 ^ j := by
  induction j with
  | zero => simp [part]
  | succ j ih =>
    have := h (4 * k + j)
    simp only [part, Nat.pow_succ]
    omega
theorem part_four (bl : List Nat) (k : Nat) : part bl k 4 = Sha.be4 bl k := by
  simp [part, Sha.be4]
theorem or_byte (x y : Nat) (hx : x < 16777216) (hy : y < 256) : bits .or .u32 ((x : Int) * 256) (y : Int) = ((x * 256 + y : Nat) : Int) := by
  have h1 : (x : Int) * 256 = ((x * 256 : Nat) : Int) := by simp
  rw [h1, u32_or_nat _ _ (by omega) (by omega)]
  rw [show x * 256 = 2 ^ 8 * x by omega, ← Nat.two_pow_add_eq_or_of_lt (by omega)]

theorem next_val (x16 x15 x7 x2 : Nat) (_h16 : x16 < 4294967296) (h15 : x15 < 4294967296) (_h7 : x7 < 4294967296) (h2 : x2 < 4294967296) :
    (((((x7 : Int) + x16) % 4294967296 + bits .xor .u32 (bits .xor .u32 (Sha.rotr x2 17 : Int) (Sha.rotr x2 19 : Int)) ((x2 : Int) / 1024)) % 4294967296 + bits .xor .u32 (bits .xor .u32 (Sha.rotr x15 7 : Int) (Sha.rotr x15 18 : Int)) ((x15 : Int) / 8)) % 4294967296)
      = (((x16 + Sha.ss0 x15 + x7 + Sha.ss1 x2) % 4294967296 : Nat) : Int) := by
  have a1 := Sha.rotr_lt x2 17 h2 (by omega)
  have a2 := Sha.rotr_lt x2 19 h2 (by omega)
  have a3 := Sha.rotr_lt x15 7 h15 (by omega)
  have a4 := Sha.rotr_lt x15 18 h15 (by omega)
  have e1 : (x2 : Int) / 1024 = ((x2 / 1024 : Nat) : Int) := by simp
  have e2 : (x15 : Int) / 8 = ((x15 / 8 : Nat) : Int) := by simp
  rw [e1, e2, u32_xor_nat _ _ a1 a2, u32_xor_nat _ _ a3 a4, u32_xor_nat _ _ (Sha.xor_lt a1 a2) (by omega), u32_xor_nat _ _ (Sha.xor_lt a3 a4) (by omega)]
  have b1 : Sha.rotr x2 17 ^^^ Sha.rotr x2 19 ^^^ x2 / 1024 = Sha.ss1 x2 := rfl
  have b2 : Sha.rotr x15 7 ^^^ Sha.rotr x15 18 ^^^ x15 / 8 = Sha.ss0 x15 := rfl
  rw [b1, b2]
  omega

theorem results_cell {P : Program} {fn : Func} {p : Tmp} {ty : TypeId} (h : fn.results = #[.cell p ty]) {tmps : Array Value} {w : World} {b : Nat} (hp : tmps.getD p undef = .pointer (some ⟨b, 0, none⟩)) {cs : List Value} {d : TypeDesc} (hc : w.rangeAt b 0 cs)
    (hu : P.underlying ty = some d) (hd : d.isRow = true) (hi : (P.info? ty).map (·.size) = some cs.length) : (results fn tmps).run P w = .ok (.agg cs.toArray) w := by
  rw [Array.getD_eq_getD_getElem?] at hp
  simp only [results, h]
  simp [hp, asAddr, run_loadVar_mid w b 0 ty cs d hc hu hd hi]

theorem sched_row (bl : List Nat) (k i : Nat) (hi : i < k) : (Sha.sched bl k ++ List.replicate (64 - k) 0).getD i 0 = (Sha.sched bl k).getD i 0 := by
  rw [List.getD_eq_getElem?_getD, List.getD_eq_getElem?_getD, List.getElem?_append_left (by simpa [Sha.sched_length] using hi)]

set_option maxHeartbeats 1000000 in
theorem schedule_any (b : Nat) (s bl : List Nat) (fi le : Int) (w : World) (hs : s.length = 8) (hbl : bl.length = 64) (hbo : Sha.bytesOk bl) (hm : Blk w b 63 (msg s bl fi le)) :
    Calls Tryd.prog 55 #[.pointer (some ⟨b, 0, none⟩)] w fun e w' => e = .returned (.agg (u32s (Sha.sched bl 64)).toArray) ∧ Below w.heap.size w w' := by
  have hlt := hm.lt
  go_enter Tryd.func55, Tryd.ntmps55
  go_wp2
  go_loopw [10] (fun i wr => ∃ k : Nat, k ≤ 16 ∧ i = .int .i64 k ∧ Below w.heap.size w wr ∧ wr.heap.size = w.heap.size + 2 ∧ Blk wr (w.heap.size + 1) 70 (u32s (Sha.sched bl k ++ List.replicate (64 - k) 0)) ∧ Blk wr w.heap.size 70 (u32s (List.replicate 64 0))) (fun i _ => 16 - (intOf i).toNat)
  case atStart =>
    refine ⟨0, by omega, rfl, ((Below.refl _ _).alloc (Nat.le_refl _) _).alloc (by simp) _, by simp, ?_, ?_⟩
    · have h := Blk.new (w.alloc (.cells (u32s (List.replicate 64 0)).toArray 70)) 70 (u32s (List.replicate 64 0))
      rw [World.size_alloc] at h
      exact h
    · exact (Blk.new w 70 (u32s (List.replicate 64 0))).alloc _
  case round =>
    obtain ⟨k, hk, rfl, hbw, hsz, hw1, hw0⟩ := hrel
    by_cases hk16 : k < 16
    · have hsl := fun wx => sliceAt_block wx b 8 (4 * (k : Int)) (4 * (k : Int) + 4) (by omega) (by omega) (by omega) (by omega)
      have e1 : (4 * (k : Int)).toNat = 4 * k := by omega
      have e2 : (4 * (k : Int) + 4).toNat - 4 * k = 4 := by omega
      simp only [e1, e2] at hsl
      clear e1 e2
      go_wp2
      go_loopw [23] (fun i wr => ∃ j : Nat, j ≤ 4 ∧ i = .int .i64 j ∧ Below w.heap.size w wr ∧ wr.heap.size = w.heap.size + 2 ∧ Blk wr (w.heap.size + 1) 70 (u32s (Sha.sched bl k ++ part bl k j :: List.replicate (63 - k) 0)) ∧ Blk wr w.heap.size 70 (u32s (List.replicate 64 0))) (fun i _ => 4 - (intOf i).toNat)
      case atStart => exact ⟨0, by omega, rfl, hbw, hsz, hw1.eq (by rw [show 64 - k = 63 - k + 1 by omega, List.replicate_succ]; rfl), hw0⟩
      case round =>
        clear hw1 hw0 hbw hsz
        obtain ⟨j, hj, rfl, hbw, hsz, hw1, hw0⟩ := hrel
        by_cases hjl : j < 4
        · have hmr := hm.below hbw hlt
          have hc := hmr.cell (8 + (4 * k + j))
          rw [msg_byte hs _ (by omega), ← Nat.add_assoc] at hc
          have hd := hw1.cell k
          have hp : part bl k j < 16777216 := Nat.lt_of_lt_of_le (part_lt hbo k j) (show 256 ^ j ≤ 256 ^ 3 from Nat.pow_le_pow_right (by omega) (by omega))
          rw [u32s_get _ _ (by simp [Sha.sched_length])] at hd
          have e3 : (Sha.sched bl k ++ part bl k j :: List.replicate (63 - k) 0).getD k 0 = part bl k j := by
            rw [List.getD_eq_getElem?_getD, List.getElem?_append_right (by simp [Sha.sched_length])]
            simp [Sha.sched_length]
          rw [e3] at hd
          have hf := hw1.frozen k
          have hy := hbo (4 * k + j)
          have HN : Hid (part bl k (j + 1) = part bl k j * 256 + bl.getD (4 * k + j) 0) := rfl
          have HS : ∀ x : Nat, Hid (Blk (wr.setCell ⟨w.heap.size + 1, k, none⟩ (.int .u32 (x : Int))) (w.heap.size + 1) 70 (u32s (Sha.sched bl k ++ x :: List.replicate (63 - k) 0))) := fun x =>
            (hw1.set k _).eq (by rw [u32s_set, List.set_append_right _ _ (by simp [Sha.sched_length])]; simp [Sha.sched_length])
          have H0 : ∀ v, Hid (Blk (wr.setCell ⟨w.heap.size + 1, k, none⟩ v) w.heap.size 70 (u32s (List.replicate 64 0))) := fun v => hw0.set_other _ _ (by simp)
          have HB : ∀ v, Hid (Below w.heap.size w (wr.setCell ⟨w.heap.size + 1, k, none⟩ v)) := fun v => hbw.setCell (by simp) _
          generalize part bl k j = P at *
          generalize bl.getD (4 * k + j) 0 = y at *
          clear hw1 e3 hm hmr hw0 hbw
          go_wp2
          go_roundw
          case rel =>
            rw [or_byte P y hp hy, ← HN.out]
            exact ⟨j + 1, by omega, by go_num, HB _, by simpa [World.setCell] using hsz, HS _, H0 _⟩
          case measure => simp [intOf]; omega
        · have hj4 : j = 4 := by omega
          subst hj4
          go_wp2
          refine ⟨⟨k + 1, by omega, by go_num, hbw, hsz, hw1.eq ?_, hw0⟩, by simp [intOf]; omega⟩
          rw [part_four, Sha.sched, if_pos hk16, List.append_assoc, show 64 - (k + 1) = 63 - k by omega]
          rfl
    · have HK : Hid (k = 16) := by show k = 16; omega
      go_wp2
      go_loopw [7] (fun i wr => ∃ k : Nat, 16 ≤ k ∧ k ≤ 64 ∧ i = .int .i64 k ∧ Below w.heap.size w wr ∧ wr.heap.size = w.heap.size + 2 ∧ Blk wr (w.heap.size + 1) 70 (u32s (Sha.sched bl k ++ List.replicate (64 - k) 0)) ∧ Blk wr w.heap.size 70 (u32s (List.replicate 64 0))) (fun i _ => 64 - (intOf i).toNat)
      case atStart => exact ⟨16, by omega, by omega, rfl, hbw, hsz, by have := HK.out; subst this; exact hw1, hw0⟩
      case round =>
        clear hw1 hw0 hbw hsz
        obtain ⟨k, hk16, hk, rfl, hbw, hsz, hw1, hw0⟩ := hrel
        by_cases hk64 : k < 64
        · have hcell : ∀ i, i < k → wr.cell? ⟨w.heap.size + 1, i, none⟩ = some (.int .u32 (((Sha.sched bl k).getD i 0 : Nat) : Int)) := fun i hi => by
            rw [hw1.cell, u32s_get _ _ (by simp [Sha.sched_length]; omega), sched_row bl k i hi]
          have hl := Sha.sched_lt hbo k
          have c2 := hcell (k - 2) (by omega)
          have c15 := hcell (k - 15) (by omega)
          have c7 := hcell (k - 7) (by omega)
          have c16 := hcell (k - 16) (by omega)
          have l2 := hl (k - 2)
          have l15 := hl (k - 15)
          have l7 := hl (k - 7)
          have l16 := hl (k - 16)
          have hf := hw1.frozen k
          have hck : wr.cell? ⟨w.heap.size + 1, k, none⟩ = some (.int .u32 0) := by
            rw [hw1.cell, u32s_get _ _ (by simp [Sha.sched_length]; omega), List.getD_eq_getElem?_getD, List.getElem?_append_right (by simp [Sha.sched_length])]
            simp [Sha.sched_length, show 0 < 64 - k by omega]
          generalize hx2 : (Sha.sched bl k).getD (k - 2) 0 = x2 at *
          generalize hx15 : (Sha.sched bl k).getD (k - 15) 0 = x15 at *
          generalize hx7 : (Sha.sched bl k).getD (k - 7) 0 = x7 at *
          generalize hx16 : (Sha.sched bl k).getD (k - 16) 0 = x16 at *
          have HN : Hid (Sha.next (Sha.sched bl k) k = (x16 + Sha.ss0 x15 + x7 + Sha.ss1 x2) % 4294967296) := by
            subst hx16 hx15 hx7 hx2; rfl
          have HS : ∀ m : Nat, ∀ x : Nat, Hid (Blk ((wr.drewN m).setCell ⟨w.heap.size + 1, k, none⟩ (.int .u32 (x : Int))) (w.heap.size + 1) 70 (u32s ((Sha.sched bl k ++ [x]) ++ List.replicate (64 - (k + 1)) 0))) := fun m x =>
            ((hw1.drewN m).set k _).eq (by rw [u32s_set, List.set_append_right _ _ (by simp [Sha.sched_length]), show 64 - k = 64 - (k + 1) + 1 by omega, List.replicate_succ]; simp [Sha.sched_length])
          have H0 : ∀ m : Nat, ∀ v, Hid (Blk ((wr.drewN m).setCell ⟨w.heap.size + 1, k, none⟩ v) w.heap.size 70 (u32s (List.replicate 64 0))) := fun m v => (hw0.drewN m).set_other _ _ (by simp)
          have HB : ∀ m : Nat, ∀ v, Hid (Below w.heap.size w ((wr.drewN m).setCell ⟨w.heap.size + 1, k, none⟩ v)) := fun m v => (Below.drewN' hbw m).setCell (by simp) _
          clear hcell hl hw1 hw0 hbw hm hx2 hx15 hx7 hx16
          go_wp2
          go_quiet (fail)
          go_wp2
          have i7 : (0 : Int) ≤ (k : Int) - 7 := by omega
          have j7 : (k : Int) - 7 < 64 := by omega
          have t7 : ((k : Int) - 7).toNat = k - 7 := by omega
          have v7 : IntKind.i64.wrap ((k : Int) - 7) = (k : Int) - 7 := by rw [IntKind.wrap_i64]; omega
          have i16 : (0 : Int) ≤ (k : Int) - 16 := by omega
          have j16 : (k : Int) - 16 < 64 := by omega
          have t16 : ((k : Int) - 16).toNat = k - 16 := by omega
          have v16 : IntKind.i64.wrap ((k : Int) - 16) = (k : Int) - 16 := by rw [IntKind.wrap_i64]; omega
          have ik : (0 : Int) ≤ (k : Int) := by omega
          have k7 : (7 : Int) ≤ (k : Int) := by omega
          have k16 : (16 : Int) ≤ (k : Int) := by omega
          have n7 : ¬ k = k - 7 := by omega
          have n16 : ¬ k = k - 16 := by omega
          have n7' : ¬ k - 7 = k := by omega
          have n16' : ¬ k - 16 = k := by omega
          have jk : (k : Int) < 64 := by omega
          go_region_held3 (fun w' => w'.cell? ⟨w.heap.size + 1, k - 7, none⟩ = some (.int .u32 (x7 : Int)) ∧ w'.cell? ⟨w.heap.size + 1, k - 16, none⟩ = some (.int .u32 (x16 : Int))) (first | exact ⟨c7, c16⟩ | exact ⟨(cell_set_off _ _ _ _ _ n7).trans c7, (cell_set_off _ _ _ _ _ n16).trans c16⟩) ((go_at_call 56; refine (turned_any _ _ _ (by assumption) (by simp [isTurn])).mono ?_; rintro e w' ⟨rfl, rfl⟩))
          all_goals go_wp2
          go_roundw
          case rel =>
            rw [next_val x16 x15 x7 x2 l16 l15 l7 l2, ← HN.out]
            have e : Sha.sched bl k ++ [Sha.next (Sha.sched bl k) k] = Sha.sched bl (k + 1) := by rw [Sha.sched, if_neg (by omega)]
            have h1 := HS (nq + 1) (Sha.next (Sha.sched bl k) k)
            rw [e] at h1
            exact ⟨k + 1, by omega, by omega, by go_num, HB _ _, by simpa [World.setCell] using hsz, h1, H0 _ _⟩
          case measure => simp [intOf]; omega
        · have hk4 : k = 64 := by omega
          subst hk4
          have hw1' := hw1.eq (show _ = u32s (Sha.sched bl 64) by simp)
          have hi : (Tryd.prog.info? 70).map (·.size) = some (u32s (Sha.sched bl 64)).length := by rw [u32s_length, Sha.sched_length]; exact info64
          have hi' : (Tryd.prog.info? 70).map (·.size) = some (u32s (Sha.sched bl 64)).toArray.size := by rw [List.size_toArray]; exact hi
          go_wp2_with (first | refine wpList_load_mid (by rfl) 70 (.tmp 3) (by rfl) (w.heap.size + 1) 0 (by rfl) (u32s (Sha.sched bl 64)) _ hw1'.range Tryd.underlying70 rfl hi ?_ | refine wpList_store_mid (by rfl) 70 (.tmp 2) (.tmp 79) (by rfl) w.heap.size 0 (u32s (Sha.sched bl 64)).toArray (by rfl) (by rfl) (hw0.there 0 _ (by simp [Sha.sched_length])) hi' (all_oneCell_toArray (u32s_one _)) ?_)
          have hw2 := (hw0.setCells 0 (u32s (Sha.sched bl 64))).eq (show _ = u32s (Sha.sched bl 64) by rw [setL_eq _ _ _ (by simp [Sha.sched_length])]; simp [Sha.sched_length])
          exact bodyPost_ret (results_cell Tryd.results55 (by rfl) hw2.range Tryd.underlying70 rfl hi) rfl ⟨rfl, Below.setCells hbw _ _ (Nat.le_refl _) _⟩
end Go.Proofs.YteillcbajkhjkaaDoor
