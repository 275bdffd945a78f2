import Derived.Test.YtlhohmlpcgbliabGreatDoorZW1
import Derived.Test.YtlhohmlpcgbliabGreatDoorZWd
import Derived.Deep.RegionHeld3
import Derived.Deep.DrawnRows
import Derived.Test.YtlhohmlpcgbliabGreatDoorZSha
namespace Go.Proofs.YtlhohmlpcgbliabGreatDoor
open Go.RowKit
attribute [local go_sem ↓] Go.wp_at_zero Go.wp_at_succ

theorem info64 : (Tryz.prog.info? 156).map (·.size) = some 64 := by kernel_rfl
theorem arr64 : Tryz.prog.arrayLen 116 = 64 := by kernel_rfl
theorem elem64 : Tryz.prog.elem 116 = 5 := by kernel_rfl
theorem cells5 : Tryz.prog.cellsOf 5 = 1 := by kernel_rfl
theorem size5 (w : World) : (sizeOf 5).run Tryz.prog w = .ok 1 w := by kernel_rfl

set_option maxRecDepth 100000 in
theorem sliceAt_block (w : World) (b off : Nat) (l h : Int) (h0 : 0 ≤ l) (h1 : l ≤ h) (h2 : h ≤ 64) (h3 : l < 64) :
    (Instr.sliceAt 116 (.pointer (some ⟨b, off, none⟩)) (some (.int .i64 l)) (some (.int .i64 h)) none).run Tryz.prog w = .ok (.slice (some ⟨b, off + l.toNat, none⟩) (h.toNat - l.toNat) (64 - l.toNat)) w := by
  rw [run_sliceAt_array_lh w 116 ⟨b, off, none⟩ Tryz.underlying116 .i64 .i64 l h h0 h1 (by rw [arr64]; exact h2), elem64, size5, arr64]
  simp only [slicedAt, Result.andThen]
  rw [if_neg (by omega)]
  simp [Addr.add]

/-- The first j bytes of word k. -/
def part (bl : List Nat) (k : Nat) : Nat → Nat
  | 0 => 0
  | j + 1 => part bl k j * 256 + bl.getD (4 * k + j) 0
theorem part_lt {bl : List Nat} (h : Sha.bytesOk bl) (k j : Nat) : part bl k j < 256 ^ j := by
  induction j with
  | zero => simp [part]
  | succ j ih =>
    have := h (4 * k + j)
    simp only [part, Nat.pow_succ]
    omega
theorem part_four (bl : List Nat) (k : Nat) : part bl k 4 = Sha.be4 bl k := by
  simp [part, Sha.be4]
theorem or_byte (x y : Nat) (hx : x < 16777216) (hy : y < 256) : bits .or .u32 ((x : Int) * 256) (y : Int) = ((x * 256 + y : Nat) : Int) := by
  have h1 : (x : Int) * 256 = ((x * 256 : Nat) : Int) := by simp
  rw [h1, u32_or_nat _ _ (by omega) (by omega)]
  rw [show x * 256 = 2 ^ 8 * x by omega, ← Nat.two_pow_add_eq_or_of_lt (by omega)]

theorem next_val (x16 x15 x7 x2 : Nat) (_h16 : x16 < 4294967296) (h15 : x15 < 4294967296) (_h7 : x7 < 4294967296) (h2 : x2 < 4294967296) :
    (((((x7 : Int) + x16) % 4294967296 + bits .xor .u32 (bits .xor .u32 (Sha.rotr x2 17 : Int) (Sha.rotr x2 19 : Int)) ((x2 : Int) / 1024)) % 4294967296 + bits .xor .u32 (bits .xor .u32 (Sha.rotr x15 7 : Int) (Sha.rotr x15 18 : Int)) ((x15 : Int) / 8)) % 4294967296)
      = (((x16 + Sha.ss0 x15 + x7 + Sha.ss1 x2) % 4294967296 : Nat) : Int) := by
  have a1 := Sha.rotr_lt x2 17 h2 (by omega)
  have a2 := Sha.rotr_lt x2 19 h2 (by omega)
  have a3 := Sha.rotr_lt x15 7 h15 (by omega)
  have a4 := Sha.rotr_lt x15 18 h15 (by omega)
  have e1 : (x2 : Int) / 1024 = ((x2 / 1024 : Nat) : Int) := by simp
  have e2 : (x15 : Int) / 8 = ((x15 / 8 : Nat) : Int) := by simp
  rw [e1, e2, u32_xor_nat _ _ a1 a2, u32_xor_nat _ _ a3 a4, u32_xor_nat _ _ (Sha.xor_lt a1 a2) (by omega), u32_xor_nat _ _ (Sha.xor_lt a3 a4) (by omega)]
  have b1 : Sha.rotr x2 17 ^^^ Sha.rotr x2 19 ^^^ x2 / 1024 = Sha.ss1 x2 := rfl
  have b2 : Sha.rotr x15 7 ^^^ Sha.rotr x15 18 ^^^ x15 / 8 = Sha.ss0 x15 := rfl
  rw [b1, b2]
  omega

theorem results_cell {P : Program} {fn : Func} {p : Tmp} {ty : TypeId} (h : fn.results = #[.cell p ty]) {tmps : Array Value} {w : World} {b : Nat} (hp : tmps.getD p undef = .pointer (some ⟨b, 0, none⟩)) {cs : List Value} {d : TypeDesc} (hc : w.rangeAt b 0 cs)
    (hu : P.underlying ty = some d) (hd : d.isRow = true) (hi : (P.info? ty).map (·.size) = some cs.length) : (results fn tmps).run P w = .ok (.agg cs.toArray) w := by
  rw [Array.getD_eq_getD_getElem?] at hp
  simp only [results, h]
  simp [hp, asAddr, run_loadVar_mid w b 0 ty cs d hc hu hd hi]

theorem sched_row (bl : List Nat) (k i : Nat) (hi : i < k) : (Sha.sched bl k ++ List.replicate (64 - k) 0).getD i 0 = (Sha.sched bl k).getD i 0 := by
  rw [List.getD_eq_getElem?_getD, List.getD_eq_getElem?_getD, List.getElem?_append_left (by simpa [Sha.sched_length] using hi)]

set_option maxHeartbeats 1000000 in
theorem schedule_any (b : Nat) (s bl : List Nat) (fi le : Int) (w : World) (hs : s.length = 8) (hbl : bl.length = 64) (hbo : Sha.bytesOk bl) (hm : Blk w b 119 (msg s bl fi le)) :
    Calls Tryz.prog 119 #[.pointer (some ⟨b, 0, none⟩)] w fun e w' => e = .returned (.agg (u32s (Sha.sched bl 64)).toArray) ∧ Below w.heap.size w w' := by
  have hlt := hm.lt
  go_enter Tryz.func119, Tryz.ntmps119
  go_wp2
  go_loopw [10] (fun i wr => ∃ k : Nat, k ≤ 16 ∧ i = .int .i64 k ∧ Below w.heap.size w wr ∧ wr.heap.size = w.heap.size + 2 ∧ Blk wr (w.heap.size + 1) 156 (u32s (Sha.sched bl k ++ List.replicate (64 - k) 0)) ∧ Blk wr w.heap.size 156 (u32s (List.replicate 64 0))) (fun i _ => 16 - (intOf i).toNat)
  case atStart =>
    refine ⟨0, by omega, rfl, ((Below.refl _ _).alloc (Nat.le_refl _) _).alloc (by simp) _, by simp, ?_, ?_⟩
    · have h := Blk.new (w.alloc (.cells (u32s (List.replicate 64 0)).toArray 156)) 156 (u32s (List.replicate 64 0))
      rw [World.size_alloc] at h
      exact h
    · exact (Blk.new w 156 (u32s (List.replicate 64 0))).alloc _
  case round =>
    obtain ⟨k, hk, rfl, hbw, hsz, hw1, hw0⟩ := hrel
    by_cases hk16 : k < 16
    · have hsl := fun wx => sliceAt_block wx b 8 (4 * (k : Int)) (4 * (k : Int) + 4) (by omega) (by omega) (by omega) (by omega)
      have e1 : (4 * (k : Int)).toNat = 4 * k := by omega
      have e2 : (4 * (k : Int) + 4).toNat - 4 * k = 4 := by omega
      simp only [e1, e2] at hsl
      clear e1 e2
      go_wp2
      go_loopw [23] (fun i wr => ∃ j : Nat, j ≤ 4 ∧ i = .int .i64 j ∧ Below w.heap.size w wr ∧ wr.heap.size = w.heap.size + 2 ∧ Blk wr (w.heap.size + 1) 156 (u32s (Sha.sched bl k ++ part bl k j :: List.replicate (63 - k) 0)) ∧ Blk wr w.heap.size 156 (u32s (List.replicate 64 0))) (fun i _ => 4 - (intOf i).toNat)
      case atStart => exact ⟨0, by omega, rfl, hbw, hsz, hw1.eq (by rw [show 64 - k = 63 - k + 1 by omega, List.replicate_succ]; rfl), hw0⟩
      case round =>
        clear hw1 hw0 hbw hsz
        obtain ⟨j, hj, rfl, hbw, hsz, hw1, hw0⟩ := hrel
        by_cases hjl : j < 4
        · have hmr := hm.below hbw hlt
          have hc := hmr.cell (8 + (4 * k + j))
          rw [msg_byte hs _ (by omega), ← Nat.add_assoc] at hc
          have hd := hw1.cell k
          have hp : part bl k j < 16777216 := Nat.lt_of_lt_of_le (part_lt hbo k j) (show 256 ^ j ≤ 256 ^ 3 from Nat.pow_le_pow_right (by omega) (by omega))
          rw [u32s_get _ _ (by simp [Sha.sched_length])] at hd
          have e3 : (Sha.sched bl k ++ part bl k j :: List.replicate (63 - k) 0).getD k 0 = part bl k j := by
            rw [List.getD_eq_getElem?_getD, List.getElem?_append_right (by simp [Sha.sched_length])]
            simp [Sha.sched_length]
          rw [e3] at hd
          have hf := hw1.frozen k
          have hy := hbo (4 * k + j)
          have HN : Hid (part bl k (j + 1) = part bl k j * 256 + bl.getD (4 * k + j) 0) := rfl
          have HS : ∀ x : Nat, Hid (Blk (wr.setCell ⟨w.heap.size + 1, k, none⟩ (.int .u32 (x : Int))) (w.heap.size + 1) 156 (u32s (Sha.sched bl k ++ x :: List.replicate (63 - k) 0))) := fun x =>
            (hw1.set k _).eq (by rw [u32s_set, List.set_append_right _ _ (by simp [Sha.sched_length])]; simp [Sha.sched_length])
          have H0 : ∀ v, Hid (Blk (wr.setCell ⟨w.heap.size + 1, k, none⟩ v) w.heap.size 156 (u32s (List.replicate 64 0))) := fun v => hw0.set_other _ _ (by simp)
          have HB : ∀ v, Hid (Below w.heap.size w (wr.setCell ⟨w.heap.size + 1, k, none⟩ v)) := fun v => hbw.setCell (by simp) _
          generalize part bl k j = P at *
          generalize bl.getD (4 * k + j) 0 = y at *
          clear hw1 e3 hm hmr hw0 hbw
          go_wp2
          go_roundw
          case rel =>
            rw [or_byte P y hp hy, ← HN.out]
            exact ⟨j + 1, by omega, by go_num, HB _, by simpa [World.setCell] using hsz, HS _, H0 _⟩
          case measure => simp [intOf]; omega
        · have hj4 : j = 4 := by omega
          subst hj4
          go_wp2
          refine ⟨⟨k + 1, by omega, by go_num, hbw, hsz, hw1.eq ?_, hw0⟩, by simp [intOf]; omega⟩
          rw [part_four, Sha.sched, if_pos hk16, List.append_assoc, show 64 - (k + 1) = 63 - k by omega]
          rfl
    · have HK : Hid (k = 16) := by show k = 16; omega
      go_wp2
      go_loopw [7] (fun i wr => ∃ k : Nat, 16 ≤ k ∧ k ≤ 64 ∧ i = .int .i64 k ∧ Below w.heap.size w wr ∧ wr.heap.size = w.heap.size + 2 ∧ Blk wr (w.heap.size + 1) 156 (u32s (Sha.sched bl k ++ List.replicate (64 - k) 0)) ∧ Blk wr w.heap.size 156 (u32s (List.replicate 64 0))) (fun i _ => 64 - (intOf i).toNat)
      case atStart => exact ⟨16, by omega, by omega, rfl, hbw, hsz, by have := HK.out; subst this; exact hw1, hw0⟩
      case round =>
        clear hw1 hw0 hbw hsz
        obtain ⟨k, hk16, hk, rfl, hbw, hsz, hw1, hw0⟩ := hrel
        by_cases hk64 : k < 64
        · have hcell : ∀ i, i < k → wr.cell? ⟨w.heap.size + 1, i, none⟩ = some (.int .u32 (((Sha.sched bl k).getD i 0 : Nat) : Int)) := fun i hi => by
            rw [hw1.cell, u32s_get _ _ (by simp [Sha.sched_length]; omega), sched_row bl k i hi]
          have hl := Sha.sched_lt hbo k
          have c2 := hcell (k - 2) (by omega)
          have c15 := hcell (k - 15) (by omega)
          have c7 := hcell (k - 7) (by omega)
          have c16 := hcell (k - 16) (by omega)
          have l2 := hl (k - 2)
          have l15 := hl (k - 15)
          have l7 := hl (k - 7)
          have l16 := hl (k - 16)
          have hf := hw1.frozen k
          have hck : wr.cell? ⟨w.heap.size + 1, k, none⟩ = some (.int .u32 0) := by
            rw [hw1.cell, u32s_get _ _ (by simp [Sha.sched_length]; omega), List.getD_eq_getElem?_getD, List.getElem?_append_right (by simp [Sha.sched_length])]
            simp [Sha.sched_length, show 0 < 64 - k by omega]
          generalize hx2 : (Sha.sched bl k).getD (k - 2) 0 = x2 at *
          generalize hx15 : (Sha.sched bl k).getD (k - 15) 0 = x15 at *
          generalize hx7 : (Sha.sched bl k).getD (k - 7) 0 = x7 at *
          generalize hx16 : (Sha.sched bl k).getD (k - 16) 0 = x16 at *
          have HN : Hid (Sha.next (Sha.sched bl k) k = (x16 + Sha.ss0 x15 + x7 + Sha.ss1 x2) % 4294967296) := by
            subst hx16 hx15 hx7 hx2; rfl
          have HS : ∀ m : Nat, ∀ x : Nat, Hid (Blk ((wr.drewN m).setCell ⟨w.heap.size + 1, k, none⟩ (.int .u32 (x : Int))) (w.heap.size + 1) 156 (u32s ((Sha.sched bl k ++ [x]) ++ List.replicate (64 - (k + 1)) 0))) := fun m x =>
            ((hw1.drewN m).set k _).eq (by rw [u32s_set, List.set_append_right _ _ (by simp [Sha.sched_length]), show 64 - k = 64 - (k + 1) + 1 by omega, List.replicate_succ]; simp [Sha.sched_length])
          have H0 : ∀ m : Nat, ∀ v, Hid (Blk ((wr.drewN m).setCell ⟨w.heap.size + 1, k, none⟩ v) w.heap.size 156 (u32s (List.replicate 64 0))) := fun m v => (hw0.drewN m).set_other _ _ (by simp)
          have HB : ∀ m : Nat, ∀ v, Hid (Below w.heap.size w ((wr.drewN m).setCell ⟨w.heap.size + 1, k, none⟩ v)) := fun m v => (Below.drewN' hbw m).setCell (by simp) _
          clear hcell hl hw1 hw0 hbw hm hx2 hx15 hx7 hx16
          go_wp2
          go_quiet (fail)
          go_wp2
          have i7 : (0 : Int) ≤ (k : Int) - 7 := by omega
          have j7 : (k : Int) - 7 < 64 := by omega
          have t7 : ((k : Int) - 7).toNat = k - 7 := by omega
          have v7 : IntKind.i64.wrap ((k : Int) - 7) = (k : Int) - 7 := by rw [IntKind.wrap_i64]; omega
          have i16 : (0 : Int) ≤ (k : Int) - 16 := by omega
          have j16 : (k : Int) - 16 < 64 := by omega
          have t16 : ((k : Int) - 16).toNat = k - 16 := by omega
          have v16 : IntKind.i64.wrap ((k : Int) - 16) = (k : Int) - 16 := by rw [IntKind.wrap_i64]; omega
          have ik : (0 : Int) ≤ (k : Int) := by omega
          have k7 : (7 : Int) ≤ (k : Int) := by omega
          have k16 : (16 : Int) ≤ (k : Int) := by omega
          have n7 : ¬ k = k - 7 := by omega
          have n16 : ¬ k = k - 16 := by omega
          have n7' : ¬ k - 7 = k := by omega
          have n16' : ¬ k - 16 = k := by omega
          have jk : (k : Int) < 64 := by omega
          go_region_held3 (fun w' => w'.cell? ⟨w.heap.size + 1, k - 7, none⟩ = some (.int .u32 (x7 : Int)) ∧ w'.cell? ⟨w.heap.size + 1, k - 16, none⟩ = some (.int .u32 (x16 : Int))) (first | exact ⟨c7, c16⟩ | exact ⟨(cell_set_off _ _ _ _ _ n7).trans c7, (cell_set_off _ _ _ _ _ n16).trans c16⟩) ((go_at_call 120; refine (turned_any _ _ _ (by assumption) (by simp [isTurn])).mono ?_; rintro e w' ⟨rfl, rfl⟩))
          all_goals go_wp2
          go_roundw
          case rel =>
            rw [next_val x16 x15 x7 x2 l16 l15 l7 l2, ← HN.out]
            have e : Sha.sched bl k ++ [Sha.next (Sha.sched bl k) k] = Sha.sched bl (k + 1) := by rw [Sha.sched, if_neg (by omega)]
            have h1 := HS (nq + 1) (Sha.next (Sha.sched bl k) k)
            rw [e] at h1
            exact ⟨k + 1, by omega, by omega, by go_num, HB _ _, by simpa [World.setCell] using hsz, h1, H0 _ _⟩
          case measure => simp [intOf]; omega
        · have hk4 : k = 64 := by omega
          subst hk4
          have hw1' := hw1.eq (show _ = u32s (Sha.sched bl 64) by simp)
          have hi : (Tryz.prog.info? 156).map (·.size) = some (u32s (Sha.sched bl 64)).length := by rw [u32s_length, Sha.sched_length]; exact info64
          have hi' : (Tryz.prog.info? 156).map (·.size) = some (u32s (Sha.sched bl 64)).toArray.size := by rw [List.size_toArray]; exact hi
          go_wp2_with (first | refine wpList_load_mid (by rfl) 156 (.tmp 3) (by rfl) (w.heap.size + 1) 0 (by rfl) (u32s (Sha.sched bl 64)) _ hw1'.range Tryz.underlying156 rfl hi ?_ | refine wpList_store_mid (by rfl) 156 (.tmp 2) (.tmp 79) (by rfl) w.heap.size 0 (u32s (Sha.sched bl 64)).toArray (by rfl) (by rfl) (hw0.there 0 _ (by simp [Sha.sched_length])) hi' (all_oneCell_toArray (u32s_one _)) ?_)
          have hw2 := (hw0.setCells 0 (u32s (Sha.sched bl 64))).eq (show _ = u32s (Sha.sched bl 64) by rw [setL_eq _ _ _ (by simp [Sha.sched_length])]; simp [Sha.sched_length])
          exact bodyPost_ret (results_cell Tryz.results119 (by rfl) hw2.range Tryz.underlying156 rfl hi) rfl ⟨rfl, Below.setCells hbw _ _ (Nat.le_refl _) _⟩
end Go.Proofs.YtlhohmlpcgbliabGreatDoor
namespace Go.Proofs.YtlhohmlpcgbliabGreatDoor
open Go.RowKit
attribute [local go_sem ↓] Go.wp_at_zero Go.wp_at_succ

def findRegion (n : Nat) : Code → Option Code
  | .region id ops d => if id == n then some (.region id ops d) else none
  | .seq a b => match findRegion n a with
    | some c => some c
    | none => findRegion n b
  | .cond _ a b => match findRegion n a with
    | some c => some c
    | none => findRegion n b
  | .block _ c => findRegion n c
  | .loop c => findRegion n c
  | .scope c => findRegion n c
  | _ => none
def findBlock (n : Nat) : Code → Option Code
  | .seq a b => match findBlock n a with
    | some c => some c
    | none => findBlock n b
  | .cond _ a b => match findBlock n a with
    | some c => some c
    | none => findBlock n b
  | .block id c => if id == n then some c else findBlock n c
  | .loop c => findBlock n c
  | .scope c => findBlock n c
  | _ => none
/-- A region, or a block, of a function's code. -/
def rgn (f : Func) (n : Nat) : Code := (f.body.bind (findRegion n)).getD .skip
def blc (f : Func) (n : Nat) : Code := (f.body.bind (findBlock n)).getD .skip


set_option maxRecDepth 100000 in
set_option maxHeartbeats 1000000 in
theorem mixR1_wp {c1 c2 c3 c4 c5 c6 c7 c8 c9 c10 c11 c12 c13 c14 c15 c16 c17 c18 c19 c20 c21 c22 c23 c24 c25 c26 c27 c28 c29 c30 c31 c32 c33 c34 c35 c36 c37 c38 c39 c40 c41 c42 c43 c44 c45 c46 c47 c48 c49 c50 c51 c52 c53 c54 c55 c56 c57 c58 c59 c60 c61 c62 c63 c64 c65 c66 c67 c68 c69 c70 c71 c72 c73 c74 c75 c76 c77 c78 c79 c80 c81 c82 c83 c84 c85 c86 c87 c88 c89 c90 c91 c92 c93 c94 c95 c96 c97 c98 c99 c100 c101 c102 c103 c104 c105 c106 c107 c108 c109 c110 c111 c112 c113 c114 c115 c116 c117 c118 c119 c120 c121 c122 c123 c124 c125 c126 c127 c128 c129 c130 c131 c132 c133 c134 c135 c136 c137 c138 c139 c140 c141 c142 c143 c144 c145 c146 : Value} (b : Nat) (x0 x1 x2 x3 : Int) (w : World) (Q : Exit → Act → World → Prop)
  (k0 : w.cell? ⟨b, 0, none⟩ = some (.int .u32 x0)) (k1 : w.cell? ⟨b, 1, none⟩ = some (.int .u32 x1)) (k2 : w.cell? ⟨b, 2, none⟩ = some (.int .u32 x2)) (k3 : w.cell? ⟨b, 3, none⟩ = some (.int .u32 x3))
  (hQ : ∀ (u19 u20 u21 u22 u23 u24 u25 u26 u27 u28 u29 u30 u31 u32 u33 u34 u35 u36 u37 u38 : Value) (n : Nat), Q .normal ⟨#[.pointer (some ⟨b, 0, none⟩), c1, c2, .int .u32 x0, .int .u32 x1, .int .u32 x2, .int .u32 x3, c7, c8, c9, c10, c11, c12, c13, c14, c15, c16, c17, c18, u19, u20, u21, u22, u23, u24, u25, u26, u27, u28, u29, u30, u31, u32, u33, u34, u35, u36, u37, u38, c39, c40, c41, c42, c43, c44, c45, c46, c47, c48, c49, c50, c51, c52, c53, c54, c55, c56, c57, c58, c59, c60, c61, c62, c63, c64, c65, c66, c67, c68, c69, c70, c71, c72, c73, c74, c75, c76, c77, c78, c79, c80, c81, c82, c83, c84, c85, c86, c87, c88, c89, c90, c91, c92, c93, c94, c95, c96, c97, c98, c99, c100, c101, c102, c103, c104, c105, c106, c107, c108, c109, c110, c111, c112, c113, c114, c115, c116, c117, c118, c119, c120, c121, c122, c123, c124, c125, c126, c127, c128, c129, c130, c131, c132, c133, c134, c135, c136, c137, c138, c139, c140, c141, c142, c143, c144, c145, c146], []⟩ (w.drewN n)) :
  Code.wp Tryz.prog (rgn Tryz.f104 1) Q ⟨#[.pointer (some ⟨b, 0, none⟩), c1, c2, c3, c4, c5, c6, c7, c8, c9, c10, c11, c12, c13, c14, c15, c16, c17, c18, c19, c20, c21, c22, c23, c24, c25, c26, c27, c28, c29, c30, c31, c32, c33, c34, c35, c36, c37, c38, c39, c40, c41, c42, c43, c44, c45, c46, c47, c48, c49, c50, c51, c52, c53, c54, c55, c56, c57, c58, c59, c60, c61, c62, c63, c64, c65, c66, c67, c68, c69, c70, c71, c72, c73, c74, c75, c76, c77, c78, c79, c80, c81, c82, c83, c84, c85, c86, c87, c88, c89, c90, c91, c92, c93, c94, c95, c96, c97, c98, c99, c100, c101, c102, c103, c104, c105, c106, c107, c108, c109, c110, c111, c112, c113, c114, c115, c116, c117, c118, c119, c120, c121, c122, c123, c124, c125, c126, c127, c128, c129, c130, c131, c132, c133, c134, c135, c136, c137, c138, c139, c140, c141, c142, c143, c144, c145, c146], []⟩ w := by
  conv => arg 2; whnf
  go_quiet (fail)
  apply hQ

set_option maxRecDepth 100000 in
set_option maxHeartbeats 1000000 in
theorem mixR2_wp {c1 c2 c3 c4 c5 c6 c7 c8 c9 c10 c11 c12 c13 c14 c15 c16 c17 c18 c19 c20 c21 c22 c23 c24 c25 c26 c27 c28 c29 c30 c31 c32 c33 c34 c35 c36 c37 c38 c39 c40 c41 c42 c43 c44 c45 c46 c47 c48 c49 c50 c51 c52 c53 c54 c55 c56 c57 c58 c59 c60 c61 c62 c63 c64 c65 c66 c67 c68 c69 c70 c71 c72 c73 c74 c75 c76 c77 c78 c79 c80 c81 c82 c83 c84 c85 c86 c87 c88 c89 c90 c91 c92 c93 c94 c95 c96 c97 c98 c99 c100 c101 c102 c103 c104 c105 c106 c107 c108 c109 c110 c111 c112 c113 c114 c115 c116 c117 c118 c119 c120 c121 c122 c123 c124 c125 c126 c127 c128 c129 c130 c131 c132 c133 c134 c135 c136 c137 c138 c139 c140 c141 c142 c143 c144 c145 c146 : Value} (b : Nat) (x0 x1 x2 x3 : Int) (w : World) (Q : Exit → Act → World → Prop)
  (k0 : w.cell? ⟨b, 4, none⟩ = some (.int .u32 x0)) (k1 : w.cell? ⟨b, 5, none⟩ = some (.int .u32 x1)) (k2 : w.cell? ⟨b, 6, none⟩ = some (.int .u32 x2)) (k3 : w.cell? ⟨b, 7, none⟩ = some (.int .u32 x3))
  (hQ : ∀ (u39 u40 u41 u42 u43 u44 u45 u46 u47 u48 u49 u50 u51 u52 u53 u54 u55 u56 u57 u58 : Value) (n : Nat), Q .normal ⟨#[.pointer (some ⟨b, 0, none⟩), c1, c2, c3, c4, c5, c6, .int .u32 x0, .int .u32 x1, .int .u32 x2, .int .u32 x3, c11, c12, c13, c14, c15, c16, c17, c18, c19, c20, c21, c22, c23, c24, c25, c26, c27, c28, c29, c30, c31, c32, c33, c34, c35, c36, c37, c38, u39, u40, u41, u42, u43, u44, u45, u46, u47, u48, u49, u50, u51, u52, u53, u54, u55, u56, u57, u58, c59, c60, c61, c62, c63, c64, c65, c66, c67, c68, c69, c70, c71, c72, c73, c74, c75, c76, c77, c78, c79, c80, c81, c82, c83, c84, c85, c86, c87, c88, c89, c90, c91, c92, c93, c94, c95, c96, c97, c98, c99, c100, c101, c102, c103, c104, c105, c106, c107, c108, c109, c110, c111, c112, c113, c114, c115, c116, c117, c118, c119, c120, c121, c122, c123, c124, c125, c126, c127, c128, c129, c130, c131, c132, c133, c134, c135, c136, c137, c138, c139, c140, c141, c142, c143, c144, c145, c146], []⟩ (w.drewN n)) :
  Code.wp Tryz.prog (rgn Tryz.f104 2) Q ⟨#[.pointer (some ⟨b, 0, none⟩), c1, c2, c3, c4, c5, c6, c7, c8, c9, c10, c11, c12, c13, c14, c15, c16, c17, c18, c19, c20, c21, c22, c23, c24, c25, c26, c27, c28, c29, c30, c31, c32, c33, c34, c35, c36, c37, c38, c39, c40, c41, c42, c43, c44, c45, c46, c47, c48, c49, c50, c51, c52, c53, c54, c55, c56, c57, c58, c59, c60, c61, c62, c63, c64, c65, c66, c67, c68, c69, c70, c71, c72, c73, c74, c75, c76, c77, c78, c79, c80, c81, c82, c83, c84, c85, c86, c87, c88, c89, c90, c91, c92, c93, c94, c95, c96, c97, c98, c99, c100, c101, c102, c103, c104, c105, c106, c107, c108, c109, c110, c111, c112, c113, c114, c115, c116, c117, c118, c119, c120, c121, c122, c123, c124, c125, c126, c127, c128, c129, c130, c131, c132, c133, c134, c135, c136, c137, c138, c139, c140, c141, c142, c143, c144, c145, c146], []⟩ w := by
  conv => arg 2; whnf
  go_quiet (fail)
  apply hQ
end Go.Proofs.YtlhohmlpcgbliabGreatDoor
namespace Go.Proofs.YtlhohmlpcgbliabGreatDoor
open Go.RowKit
attribute [local go_sem ↓] Go.wp_at_zero Go.wp_at_succ

/-- The table of the rounds' constants, where the program keeps it. -/
def Table (w : World) : Prop := ∀ i, i < 64 → w.cell? ⟨2, i, none⟩ = some (.int .u32 ((Sha.keys.getD i 0 : Nat) : Int))

theorem index_u32s (w : World) (t n : Nat) (ht : Tryz.prog.underlying t = some (.array n 114)) (l : List Nat) (hl : l.length = n) (i : Nat) (hi : i < n) :
    (Instr.index t (.agg (u32s l).toArray) (.int .i64 (i : Int))).run Tryz.prog w = .ok (.int .u32 ((l.getD i 0 : Nat) : Int)) w := by
  have h1 : (u32s l)[i]? = some (.int .u32 ((l[i]?.getD 0 : Nat) : Int)) := by
    rw [u32s_get l i (by omega), List.getD_eq_getElem?_getD]
  simp [Instr.index, asIntOf, run_underlying ht, hi, Go.part, h1]

theorem bs1_val (e : Nat) (he : e < 4294967296) : bits .xor .u32 (bits .xor .u32 (Sha.rotr e 6 : Int) (Sha.rotr e 11 : Int)) (Sha.rotr e 25 : Int) = (Sha.bs1 e : Int) := by
  have a1 := Sha.rotr_lt e 6 he (by omega)
  have a2 := Sha.rotr_lt e 11 he (by omega)
  have a3 := Sha.rotr_lt e 25 he (by omega)
  rw [u32_xor_nat _ _ a1 a2, u32_xor_nat _ _ (Sha.xor_lt a1 a2) a3]; rfl
theorem bs0_val (e : Nat) (he : e < 4294967296) : bits .xor .u32 (bits .xor .u32 (Sha.rotr e 2 : Int) (Sha.rotr e 13 : Int)) (Sha.rotr e 22 : Int) = (Sha.bs0 e : Int) := by
  have a1 := Sha.rotr_lt e 2 he (by omega)
  have a2 := Sha.rotr_lt e 13 he (by omega)
  have a3 := Sha.rotr_lt e 22 he (by omega)
  rw [u32_xor_nat _ _ a1 a2, u32_xor_nat _ _ (Sha.xor_lt a1 a2) a3]; rfl
theorem xor_ones (e : Nat) (he : e < 4294967296) : 4294967295 ^^^ e = 4294967295 - e := by
  apply Nat.eq_of_testBit_eq
  intro i
  have h1 : (4294967295 - e) = 2 ^ 32 - (e + 1) := by omega
  rw [h1, Nat.testBit_two_pow_sub_succ (by omega : e < 2 ^ 32), Nat.testBit_xor, show (4294967295 : Nat) = 2 ^ 32 - 1 by decide, Nat.testBit_two_pow_sub_one]
  by_cases hi : i < 32
  · simp [hi]
  · have : e.testBit i = false := Nat.testBit_lt_two_pow (Nat.lt_of_lt_of_le he (by
      have : 2 ^ 32 ≤ 2 ^ i := Nat.pow_le_pow_right (by omega) (by omega)
      simpa using this))
    simp [hi, this]
theorem ch_val (e f g : Nat) (he : e < 4294967296) (hf : f < 4294967296) (hg : g < 4294967296) :
    bits .xor .u32 (bits .and .u32 (e : Int) (f : Int)) (bits .and .u32 (bits .xor .u32 (if IntKind.u32.signed = true then -1 else IntKind.u32.max) (e : Int)) (g : Int)) = (Sha.ch e f g : Int) := by
  have e0 : (if IntKind.u32.signed = true then -1 else IntKind.u32.max : Int) = ((4294967295 : Nat) : Int) := by decide
  rw [e0, u32_xor_nat _ _ (by omega) he, u32_and_nat _ _ he hf, xor_ones e he, u32_and_nat _ _ (by omega) hg, u32_xor_nat _ _ (Sha.and_lt hf) (Sha.and_lt hg)]; rfl
theorem maj_val (a b c : Nat) (ha : a < 4294967296) (hb : b < 4294967296) (hc : c < 4294967296) :
    bits .xor .u32 (bits .xor .u32 (bits .and .u32 (a : Int) (b : Int)) (bits .and .u32 (a : Int) (c : Int))) (bits .and .u32 (b : Int) (c : Int)) = (Sha.maj a b c : Int) := by
  rw [u32_and_nat _ _ ha hb, u32_and_nat _ _ ha hc, u32_and_nat _ _ hb hc, u32_xor_nat _ _ (Sha.and_lt hb) (Sha.and_lt hc), u32_xor_nat _ _ (Sha.xor_lt (Sha.and_lt hb) (Sha.and_lt hc)) (Sha.and_lt hc)]; rfl
theorem step_a (r : Sha.St) (key wk : Nat) : ((((r.h : Int) + Sha.bs1 r.e + Sha.ch r.e r.f r.g + key + wk) % 4294967296 + ((Sha.bs0 r.a : Int) + Sha.maj r.a r.b r.c) % 4294967296) % 4294967296) = ((Sha.step r key wk).a : Int) := by
  simp only [Sha.step]; omega
theorem step_e (r : Sha.St) (key wk : Nat) : (((r.d : Int) + ((r.h : Int) + Sha.bs1 r.e + Sha.ch r.e r.f r.g + key + wk) % 4294967296) % 4294967296) = ((Sha.step r key wk).e : Int) := by
  simp only [Sha.step]; omega
set_option maxRecDepth 100000 in
set_option maxHeartbeats 1000000 in
theorem mixB0_wp {c0 c1 c2 c11 c12 c13 c14 c15 c16 c17 c18 c19 c20 c21 c22 c23 c24 c25 c26 c27 c28 c29 c30 c31 c32 c33 c34 c35 c36 c37 c38 c39 c40 c41 c42 c43 c44 c45 c46 c47 c48 c49 c50 c51 c52 c53 c54 c55 c56 c57 c58 c61 c62 c63 c64 c65 c66 c67 c68 c69 c70 c71 c72 c73 c74 c75 c76 c77 c78 c79 c80 c81 c82 c83 c84 c85 c86 c87 c88 c89 c90 c91 c92 c93 c94 c95 c96 c97 c98 c99 c100 c101 c102 c103 c104 c105 c106 c107 c108 c109 c110 c111 c112 c113 c114 c115 c116 c117 c118 c119 c120 c121 c122 c123 c124 c125 c126 c127 c128 c129 c130 c131 c132 c133 c134 c135 c136 c137 c138 c139 c140 c141 c142 c143 c144 c145 c146 : Value} (s : Sha.St) (ws : List Nat) (w : World) (Q : Exit → Act → World → Prop) (hok : s.ok) (hlen : ws.length = 64) (hws : ∀ i, ws.getD i 0 < 4294967296) (ht : Table w)
  (hQ : ∀ (u11 u12 u13 u14 u60 u61 u62 u63 u64 u65 u66 u67 u68 u69 u70 u71 u72 u73 u74 u75 u76 u77 u78 u79 u80 u81 u82 u83 u84 u85 u86 u87 u88 u89 u90 u91 u92 u93 u94 u95 u96 u97 u98 u99 u100 u101 u102 u103 u104 u105 u106 u107 u108 u109 u110 u111 u112 u113 u114 u115 u116 u117 u118 u119 u120 u121 : Value) (n : Nat), Q (.exit 0) ⟨#[c0, c1, c2, .int .u32 ((Sha.rounds s ws 64).a : Int), .int .u32 ((Sha.rounds s ws 64).b : Int), .int .u32 ((Sha.rounds s ws 64).c : Int), .int .u32 ((Sha.rounds s ws 64).d : Int), .int .u32 ((Sha.rounds s ws 64).e : Int), .int .u32 ((Sha.rounds s ws 64).f : Int), .int .u32 ((Sha.rounds s ws 64).g : Int), .int .u32 ((Sha.rounds s ws 64).h : Int), u11, u12, u13, u14, c15, c16, c17, c18, c19, c20, c21, c22, c23, c24, c25, c26, c27, c28, c29, c30, c31, c32, c33, c34, c35, c36, c37, c38, c39, c40, c41, c42, c43, c44, c45, c46, c47, c48, c49, c50, c51, c52, c53, c54, c55, c56, c57, c58, .agg (u32s ws).toArray, u60, u61, u62, u63, u64, u65, u66, u67, u68, u69, u70, u71, u72, u73, u74, u75, u76, u77, u78, u79, u80, u81, u82, u83, u84, u85, u86, u87, u88, u89, u90, u91, u92, u93, u94, u95, u96, u97, u98, u99, u100, u101, u102, u103, u104, u105, u106, u107, u108, u109, u110, u111, u112, u113, u114, u115, u116, u117, u118, u119, u120, u121, c122, c123, c124, c125, c126, c127, c128, c129, c130, c131, c132, c133, c134, c135, c136, c137, c138, c139, c140, c141, c142, c143, c144, c145, c146], []⟩ (w.drewN n)) :
  Code.wp Tryz.prog (blc Tryz.f104 0) Q ⟨#[c0, c1, c2, .int .u32 (s.a : Int), .int .u32 (s.b : Int), .int .u32 (s.c : Int), .int .u32 (s.d : Int), .int .u32 (s.e : Int), .int .u32 (s.f : Int), .int .u32 (s.g : Int), .int .u32 (s.h : Int), c11, c12, c13, c14, c15, c16, c17, c18, c19, c20, c21, c22, c23, c24, c25, c26, c27, c28, c29, c30, c31, c32, c33, c34, c35, c36, c37, c38, c39, c40, c41, c42, c43, c44, c45, c46, c47, c48, c49, c50, c51, c52, c53, c54, c55, c56, c57, c58, .agg (u32s ws).toArray, .int .i64 0, c61, c62, c63, c64, c65, c66, c67, c68, c69, c70, c71, c72, c73, c74, c75, c76, c77, c78, c79, c80, c81, c82, c83, c84, c85, c86, c87, c88, c89, c90, c91, c92, c93, c94, c95, c96, c97, c98, c99, c100, c101, c102, c103, c104, c105, c106, c107, c108, c109, c110, c111, c112, c113, c114, c115, c116, c117, c118, c119, c120, c121, c122, c123, c124, c125, c126, c127, c128, c129, c130, c131, c132, c133, c134, c135, c136, c137, c138, c139, c140, c141, c142, c143, c144, c145, c146], []⟩ w := by
  conv => arg 2; whnf
  try go_wp2
  go_loopw [3, 4, 5, 6, 7, 8, 9, 10, 60] (fun a b c d e f g h i wr => ∃ k n : Nat, k ≤ 64 ∧ i = .int .i64 k ∧ wr = w.drewN n ∧ a = .int .u32 ((Sha.rounds s ws k).a : Int) ∧ b = .int .u32 ((Sha.rounds s ws k).b : Int) ∧ c = .int .u32 ((Sha.rounds s ws k).c : Int) ∧ d = .int .u32 ((Sha.rounds s ws k).d : Int) ∧ e = .int .u32 ((Sha.rounds s ws k).e : Int) ∧ f = .int .u32 ((Sha.rounds s ws k).f : Int) ∧ g = .int .u32 ((Sha.rounds s ws k).g : Int) ∧ h = .int .u32 ((Sha.rounds s ws k).h : Int)) (fun _ _ _ _ _ _ _ _ i _ => 64 - (intOf i).toNat)
  case atStart => exact ⟨0, 0, by omega, rfl, rfl, rfl, rfl, rfl, rfl, rfl, rfl, rfl, rfl⟩
  case round =>
    obtain ⟨k, n, hk, rfl, rfl, rfl, rfl, rfl, rfl, rfl, rfl, rfl, rfl⟩ := hrel
    by_cases hlt : k < 64
    · obtain ⟨o1, o2, o3, o4, o5, o6, o7, o8⟩ := Sha.rounds_ok hok ws k
      have HN : Hid (Sha.rounds s ws (k + 1) = Sha.step (Sha.rounds s ws k) (Sha.keys.getD k 0) (ws.getD k 0)) := rfl
      have hix := fun wx => index_u32s wx 156 64 Tryz.underlying156 ws hlen k hlt
      have hkey : (w.drewN n).cell? ⟨2, k, none⟩ = some (.int .u32 ((Sha.keys.getD k 0 : Nat) : Int)) := ht k hlt
      have HW : Hid (∃ m, w.drewN n = w.drewN m) := ⟨n, rfl⟩
      have k1 := Sha.keys_lt k
      have k2 := hws k
      generalize Sha.keys.getD k 0 = key at *
      generalize ws.getD k 0 = wk at *
      generalize Sha.rounds s ws k = r at *
      have jk : (k : Int) < 64 := by omega
      have ik : (0 : Int) ≤ (k : Int) := by omega
      clear ht hQ
      generalize w.drewN n = wn at *
      go_wp2
      go_quiet ((go_at_call 120; exact Calls.quiet_of_same (turned_any _ _ _ (by assumption) (by simp [isTurn]))))
      go_wp2_with (go_at_call 120; refine (turned_any _ _ _ (by assumption) (by simp [isTurn])).mono ?_; rintro e w' ⟨rfl, rfl⟩)
      go_roundw
      case rel =>
        rw [bs1_val r.e o5, bs0_val r.a o1, ch_val r.e r.f r.g o5 o6 o7, maj_val r.a r.b r.c o1 o2 o3, step_a r key wk, step_e r key wk]
        obtain ⟨m, hm⟩ := HW.out
        refine ⟨k + 1, m + nq, by omega, by go_num, by rw [hm, World.drewN_drewN], ?_⟩
        rw [HN.out]
        exact ⟨rfl, rfl, rfl, rfl, rfl, rfl, rfl, rfl⟩
      case measure => simp [intOf]; omega
    · have hk4 : k = 64 := by omega
      subst hk4
      go_wp2
      apply hQ
end Go.Proofs.YtlhohmlpcgbliabGreatDoor
namespace Go.Proofs.YtlhohmlpcgbliabGreatDoor
open Go.RowKit
attribute [local go_sem ↓] Go.wp_at_zero Go.wp_at_succ

/-- The first k of the eight sums. -/
def addK (s t : List Nat) : Nat → List Nat
  | 0 => s
  | k + 1 => (addK s t k).set k ((s.getD k 0 + t.getD k 0) % 4294967296)
theorem addK_length (s t : List Nat) (k : Nat) : (addK s t k).length = s.length := by
  induction k with
  | zero => rfl
  | succ k ih => simp [addK, ih]
theorem addK_get (s t : List Nat) (k i : Nat) (h : k ≤ i) : (addK s t k).getD i 0 = s.getD i 0 := by
  induction k with
  | zero => rfl
  | succ k ih =>
    rw [addK, List.getD_eq_getElem?_getD, List.getElem?_set_ne (by omega), ← List.getD_eq_getElem?_getD, ih (by omega)]
theorem St.ok_get {s : Sha.St} (h : s.ok) (i : Nat) : s.list.getD i 0 < 4294967296 := by
  obtain ⟨h1, h2, h3, h4, h5, h6, h7, h8⟩ := h
  match i with
  | 0 => exact h1
  | 1 => exact h2
  | 2 => exact h3
  | 3 => exact h4
  | 4 => exact h5
  | 5 => exact h6
  | 6 => exact h7
  | 7 => exact h8
  | n + 8 => show List.getD [] n 0 < _; simp

set_option maxRecDepth 100000 in
set_option maxHeartbeats 1000000 in
theorem mixB2_wp {c1 c2 c3 c4 c5 c6 c7 c8 c9 c10 c11 c12 c13 c14 c15 c16 c17 c18 c19 c20 c21 c22 c23 c24 c25 c26 c27 c28 c29 c30 c31 c32 c33 c34 c35 c36 c37 c38 c39 c40 c41 c42 c43 c44 c45 c46 c47 c48 c49 c50 c51 c52 c53 c54 c55 c56 c57 c58 c59 c60 c61 c62 c63 c64 c65 c66 c67 c68 c69 c70 c71 c72 c73 c74 c75 c76 c77 c78 c79 c80 c81 c82 c83 c84 c85 c86 c87 c88 c89 c90 c91 c92 c93 c94 c95 c96 c97 c98 c99 c100 c101 c102 c103 c104 c105 c106 c107 c108 c109 c110 c111 c112 c113 c114 c115 c116 c117 c118 c119 c120 c121 c122 c123 c124 c125 c126 c127 c128 c129 c132 c133 c134 c135 c136 c137 c138 c139 c140 c141 c142 c143 c144 c145 c146 : Value} (b : Nat) (s t : Sha.St) (bl : List Nat) (fi le : Int) (w : World) (Q : Exit → Act → World → Prop) (hs : s.ok) (ht : t.ok) (hm : Blk w b 119 (msg s.list bl fi le))
  (hQ : ∀ (u15 u16 u131 u132 u133 u134 u135 u136 u137 u138 u139 u140 u141 u142 u143 u144 u145 u146 : Value) (w' : World), Kept w.heap.size b w w' → Blk w' b 119 (msg (Sha.add s t).list bl fi le) → Q (.exit 2) ⟨#[.pointer (some ⟨b, 0, none⟩), c1, c2, c3, c4, c5, c6, c7, c8, c9, c10, c11, c12, c13, c14, u15, u16, c17, c18, c19, c20, c21, c22, c23, c24, c25, c26, c27, c28, c29, c30, c31, c32, c33, c34, c35, c36, c37, c38, c39, c40, c41, c42, c43, c44, c45, c46, c47, c48, c49, c50, c51, c52, c53, c54, c55, c56, c57, c58, c59, c60, c61, c62, c63, c64, c65, c66, c67, c68, c69, c70, c71, c72, c73, c74, c75, c76, c77, c78, c79, c80, c81, c82, c83, c84, c85, c86, c87, c88, c89, c90, c91, c92, c93, c94, c95, c96, c97, c98, c99, c100, c101, c102, c103, c104, c105, c106, c107, c108, c109, c110, c111, c112, c113, c114, c115, c116, c117, c118, c119, c120, c121, c122, c123, c124, c125, c126, c127, c128, c129, .agg (u32s t.list).toArray, u131, u132, u133, u134, u135, u136, u137, u138, u139, u140, u141, u142, u143, u144, u145, u146], []⟩ w') :
  Code.wp Tryz.prog (blc Tryz.f104 2) Q ⟨#[.pointer (some ⟨b, 0, none⟩), c1, c2, c3, c4, c5, c6, c7, c8, c9, c10, c11, c12, c13, c14, c15, c16, c17, c18, c19, c20, c21, c22, c23, c24, c25, c26, c27, c28, c29, c30, c31, c32, c33, c34, c35, c36, c37, c38, c39, c40, c41, c42, c43, c44, c45, c46, c47, c48, c49, c50, c51, c52, c53, c54, c55, c56, c57, c58, c59, c60, c61, c62, c63, c64, c65, c66, c67, c68, c69, c70, c71, c72, c73, c74, c75, c76, c77, c78, c79, c80, c81, c82, c83, c84, c85, c86, c87, c88, c89, c90, c91, c92, c93, c94, c95, c96, c97, c98, c99, c100, c101, c102, c103, c104, c105, c106, c107, c108, c109, c110, c111, c112, c113, c114, c115, c116, c117, c118, c119, c120, c121, c122, c123, c124, c125, c126, c127, c128, c129, .agg (u32s t.list).toArray, .int .i64 0, c132, c133, c134, c135, c136, c137, c138, c139, c140, c141, c142, c143, c144, c145, c146], []⟩ w := by
  conv => arg 2; whnf
  try go_wp2
  go_loopw [131] (fun i wr => ∃ k : Nat, k ≤ 8 ∧ i = .int .i64 k ∧ Kept w.heap.size b w wr ∧ Blk wr b 119 (msg (addK s.list t.list k) bl fi le)) (fun i _ => 8 - (intOf i).toNat)
  case atStart => exact ⟨0, by omega, rfl, Kept.refl _ _ _, hm⟩
  case round =>
    obtain ⟨k, hk, rfl, hkp, hb⟩ := hrel
    have hlen : (addK s.list t.list k).length = 8 := addK_length _ _ _
    by_cases hlt : k < 8
    · have hix := fun wx => index_u32s wx 115 8 Tryz.underlying115 t.list rfl k hlt
      have hc := hb.cell k
      rw [msg_word hlen k hlt, addK_get _ _ _ _ (Nat.le_refl _)] at hc
      have hf := hb.frozen k
      have l1 := St.ok_get hs k
      have l2 := St.ok_get ht k
      have HS : ∀ x : Nat, Hid (Blk (wr.setCell ⟨b, k, none⟩ (.int .u32 (x : Int))) b 119 (msg ((addK s.list t.list k).set k x) bl fi le)) := fun x =>
        (hb.set k _).eq (msg_set_word hlen k x hlt)
      have HK : ∀ v, Hid (Kept w.heap.size b w (wr.setCell ⟨b, k, none⟩ v)) := fun v => hkp.setCell _ (Or.inl rfl) _
      have HN : Hid (addK s.list t.list (k + 1) = (addK s.list t.list k).set k ((s.list.getD k 0 + t.list.getD k 0) % 4294967296)) := rfl
      generalize s.list.getD k 0 = x at *
      generalize t.list.getD k 0 = y at *
      have jk : (k : Int) < 8 := by omega
      have ik : (0 : Int) ≤ (k : Int) := by omega
      clear hQ hm hb hkp
      go_wp2
      go_region
      all_goals go_wp2
      go_roundw
      case rel =>
        have e : ((x : Int) + y) % 4294967296 = (((x + y) % 4294967296 : Nat) : Int) := by omega
        rw [e]
        refine ⟨k + 1, by omega, by go_num, (HK _).out.drewN 1, ?_⟩
        rw [HN.out]
        exact (HS _).out.drewN 1
      case measure => simp [intOf]; omega
    · have hk4 : k = 8 := by omega
      subst hk4
      go_wp2
      exact hQ _ _ _ _ _ _ _ _ _ _ _ _ _ _ _ _ _ _ _ hkp hb
end Go.Proofs.YtlhohmlpcgbliabGreatDoor
namespace Go.Proofs.YtlhohmlpcgbliabGreatDoor
open Go.RowKit
attribute [local go_sem ↓] Go.wp_at_zero Go.wp_at_succ

set_option maxRecDepth 100000 in
theorem z64 : (u32s (List.replicate 64 0)).toArray = (#[.int .u32 0, .int .u32 0, .int .u32 0, .int .u32 0, .int .u32 0, .int .u32 0, .int .u32 0, .int .u32 0, .int .u32 0, .int .u32 0, .int .u32 0, .int .u32 0, .int .u32 0, .int .u32 0, .int .u32 0, .int .u32 0, .int .u32 0, .int .u32 0, .int .u32 0, .int .u32 0, .int .u32 0, .int .u32 0, .int .u32 0, .int .u32 0, .int .u32 0, .int .u32 0, .int .u32 0, .int .u32 0, .int .u32 0, .int .u32 0, .int .u32 0, .int .u32 0, .int .u32 0, .int .u32 0, .int .u32 0, .int .u32 0, .int .u32 0, .int .u32 0, .int .u32 0, .int .u32 0, .int .u32 0, .int .u32 0, .int .u32 0, .int .u32 0, .int .u32 0, .int .u32 0, .int .u32 0, .int .u32 0, .int .u32 0, .int .u32 0, .int .u32 0, .int .u32 0, .int .u32 0, .int .u32 0, .int .u32 0, .int .u32 0, .int .u32 0, .int .u32 0, .int .u32 0, .int .u32 0, .int .u32 0, .int .u32 0, .int .u32 0, .int .u32 0] : Array Value) := by rfl

theorem table_below {w w2 : World} {B : Nat} (hb : Below B w w2) (hg : 2 < B) (ht : Table w) (n : Nat) : Table (w2.drewN n) := fun i hi => by
  rw [World.cell?_drewN, hb.cell (p := ⟨2, i, none⟩) hg]
  exact ht i hi

set_option maxRecDepth 100000 in
set_option maxHeartbeats 1000000 in
theorem mix_any (b : Nat) (s : Sha.St) (bl : List Nat) (fi le : Int) (w : World) (hok : s.ok) (hbl : bl.length = 64) (hbo : Sha.bytesOk bl) (hm : Blk w b 119 (msg s.list bl fi le)) (ht : Table w) (hg : 2 < w.heap.size) :
    Calls Tryz.prog 104 #[.pointer (some ⟨b, 0, none⟩)] w fun e w' => e = .returned (.tuple #[]) ∧ Kept w.heap.size b w w' ∧ Blk w' b 119 (msg (Sha.mix s bl).list bl fi le) := by
  have hlt := hm.lt
  have hl8 : s.list.length = 8 := rfl
  go_enter Tryz.func104, Tryz.ntmps104
  have hi' : (Tryz.prog.info? 156).map (·.size) = some (u32s (Sha.sched bl 64)).toArray.size := by rw [List.size_toArray, u32s_length, Sha.sched_length]; exact info64
  go_wp2_with fail
  refine (schedule_any b s.list bl fi le _ hl8 hbl hbo hm).mono ?_
  rintro e w1 ⟨rfl, hb1⟩
  have hone := all_oneCell_toArray (u32s_one (Sha.sched bl 64))
  have hsz : (u32s (Sha.sched bl 64)).toArray.size = 64 := by rw [List.size_toArray, u32s_length, Sha.sched_length]
  have hz := Blk.new w1 156 (u32s (List.replicate 64 0))
  rw [z64] at hz
  generalize hA : (u32s (Sha.sched bl 64)).toArray = arr at *
  have HA : Hid ((u32s (Sha.sched bl 64)).toArray = arr) := hA
  clear hA
  have hth := hz.there 0 arr.size (by rw [hsz]; simp)
  go_wp2_with (refine wpList_store_mid (by rfl) 156 (.tmp 2) (.tmp 18) (by rfl) w1.heap.size 0 arr (by rfl) (by rfl) hth hi' hone ?_)
  have hm2 : Blk ((w1.alloc (.cells (u32s (List.replicate 64 0)).toArray 156)).setCells w1.heap.size 0 arr.toList) b 119 (msg s.list bl fi le) :=
    ((hm.below hb1 hlt).alloc _).setCells_other _ _ _ (by have := hb1.size; omega)
  have hs2 : Blk ((w1.alloc (.cells (u32s (List.replicate 64 0)).toArray 156)).setCells w1.heap.size 0 arr.toList) w1.heap.size 156 (u32s (Sha.sched bl 64)) :=
    ((Blk.new w1 156 (u32s (List.replicate 64 0))).setCells 0 arr.toList).eq (by
      rw [← HA.out, setL_eq _ _ _ (by simp [Sha.sched_length])]; simp [Sha.sched_length])
  have hb2 : Below w.heap.size w ((w1.alloc (.cells (u32s (List.replicate 64 0)).toArray 156)).setCells w1.heap.size 0 arr.toList) :=
    Below.setCells (hb1.alloc hb1.size _) _ _ hb1.size _
  rw [← z64]
  generalize ((w1.alloc (.cells (u32s (List.replicate 64 0)).toArray 156)).setCells w1.heap.size 0 arr.toList) = w2 at *
  simp only [Act.put]
  have c0 : w2.cell? ⟨b, 0, none⟩ = some (.int .u32 (s.a : Int)) := by rw [hm2.cell]; rfl
  have c1 : w2.cell? ⟨b, 1, none⟩ = some (.int .u32 (s.b : Int)) := by rw [hm2.cell]; rfl
  have c2 : w2.cell? ⟨b, 2, none⟩ = some (.int .u32 (s.c : Int)) := by rw [hm2.cell]; rfl
  have c3 : w2.cell? ⟨b, 3, none⟩ = some (.int .u32 (s.d : Int)) := by rw [hm2.cell]; rfl
  refine mixR1_wp b _ _ _ _ _ _ c0 c1 c2 c3 ?_
  intro u19 u20 u21 u22 u23 u24 u25 u26 u27 u28 u29 u30 u31 u32 u33 u34 u35 u36 u37 u38 n1
  clear c0 c1 c2 c3
  go_wp2_with fail
  have c0 : (w2.drewN n1).cell? ⟨b, 4, none⟩ = some (.int .u32 (s.e : Int)) := by rw [(hm2.drewN n1).cell]; rfl
  have c1 : (w2.drewN n1).cell? ⟨b, 5, none⟩ = some (.int .u32 (s.f : Int)) := by rw [(hm2.drewN n1).cell]; rfl
  have c2 : (w2.drewN n1).cell? ⟨b, 6, none⟩ = some (.int .u32 (s.g : Int)) := by rw [(hm2.drewN n1).cell]; rfl
  have c3 : (w2.drewN n1).cell? ⟨b, 7, none⟩ = some (.int .u32 (s.h : Int)) := by rw [(hm2.drewN n1).cell]; rfl
  refine mixR2_wp b _ _ _ _ _ _ c0 c1 c2 c3 ?_
  intro u39 u40 u41 u42 u43 u44 u45 u46 u47 u48 u49 u50 u51 u52 u53 u54 u55 u56 u57 u58 n2
  clear c0 c1 c2 c3
  have hi : (Tryz.prog.info? 156).map (·.size) = some (u32s (Sha.sched bl 64)).length := by rw [u32s_length, Sha.sched_length]; exact info64
  have hs3 := (hs2.drewN (n1 + n2)).range
  have hm3 := hm2.drewN (n1 + n2)
  have hb3 := Below.drewN' hb2 (n1 + n2)
  have ht3 : Table (w2.drewN (n1 + n2)) := table_below hb2 hg ht _
  rw [World.drewN_drewN]
  generalize w2.drewN (n1 + n2) = w3 at *
  go_wp2_with (refine wpList_load_mid (by rfl) 156 (.tmp 2) (by rfl) w1.heap.size 0 (by rfl) (u32s (Sha.sched bl 64)) _ hs3 Tryz.underlying156 rfl hi ?_)
  clear hs3 hi hs2 hm2 hb2 hth hone hi' hsz hz HA
  refine mixB0_wp s (Sha.sched bl 64) _ _ hok (Sha.sched_length _ _) (Sha.sched_lt hbo 64) ht3 ?_
  intro u11 u12 u13 u14 u60 u61 u62 u63 u64 u65 u66 u67 u68 u69 u70 u71 u72 u73 u74 u75 u76 u77 u78 u79 u80 u81 u82 u83 u84 u85 u86 u87 u88 u89 u90 u91 u92 u93 u94 u95 u96 u97 u98 u99 u100 u101 u102 u103 u104 u105 u106 u107 u108 u109 u110 u111 u112 u113 u114 u115 u116 u117 u118 u119 u120 u121 n3
  have hm4 := hm3.drewN n3
  have hb4 := Below.drewN' hb3 n3
  have hro := Sha.rounds_ok hok (Sha.sched bl 64) 64
  have HM : Hid (Sha.mix s bl = Sha.add s (Sha.rounds s (Sha.sched bl 64) 64)) := rfl
  generalize Sha.rounds s (Sha.sched bl 64) 64 = r at *
  generalize w3.drewN n3 = w4 at *
  simp only [Exit.inBlock, Exit.then]
  go_wp2
  refine mixB2_wp b s r bl fi le _ _ hok hro hm4 ?_
  intro u15 u16 u131 u132 u133 u134 u135 u136 u137 u138 u139 u140 u141 u142 u143 u144 u145 u146 w5 hk5 hb5
  simp only [Exit.inBlock, if_true]
  go_end0
  exact ⟨rfl, (Kept.of_below hb4).trans (hk5.mono hb4.size), by rw [HM.out]; exact hb5⟩
end Go.Proofs.YtlhohmlpcgbliabGreatDoor
namespace Go.Proofs.YtlhohmlpcgbliabGreatDoor.Sha

theorem mixAll_succ (k : Nat) (s : St) (l : List Nat) : mixAll (k + 1) s l = mix (mixAll k s l) ((l.drop (64 * k)).take 64) := by
  induction k generalizing s l with
  | zero => simp [mixAll]
  | succ k ih =>
    rw [mixAll, ih, mixAll, List.drop_drop]
    congr 3
    omega
theorem mixAll_append (k : Nat) (s : St) (l r : List Nat) (h : 64 * k ≤ l.length) : mixAll k s (l ++ r) = mixAll k s l := by
  induction k generalizing s l with
  | zero => rfl
  | succ k ih =>
    rw [mixAll, mixAll, List.take_append_of_le_length (by omega), List.drop_append_of_le_length (by omega), ih _ _ (by simp; omega)]
theorem mixAll_ok (k : Nat) (s : St) (l : List Nat) (h : s.ok) : (mixAll k s l).ok := by
  cases k with
  | zero => exact h
  | succ k => rw [mixAll_succ]; exact mix_ok _ _

/-- The block bl holds what of l has not been worked in. -/
def Held (l bl : List Nat) : Prop := bl.length = 64 ∧ bytesOk bl ∧ bl.take (l.length % 64) = l.drop (64 * (l.length / 64))
/-- The eight numbers behind l. -/
def behind (l : List Nat) : St := mixAll (l.length / 64) init l
theorem behind_ok (l : List Nat) : (behind l).ok := mixAll_ok _ _ _ init_ok

/-- A block into which r goes at f. -/
def put (bl : List Nat) (f : Nat) (r : List Nat) : List Nat := bl.take f ++ (r ++ bl.drop (f + r.length))

theorem bytesOk_append {a b : List Nat} (ha : bytesOk a) (hb : bytesOk b) : bytesOk (a ++ b) := by
  intro i
  rw [List.getD_eq_getElem?_getD, List.getElem?_append]
  split
  · simpa [List.getD_eq_getElem?_getD] using ha i
  · simpa [List.getD_eq_getElem?_getD] using hb (i - a.length)
theorem bytesOk_take {a : List Nat} (ha : bytesOk a) (n : Nat) : bytesOk (a.take n) := by
  intro i
  rw [List.getD_eq_getElem?_getD, List.getElem?_take]
  split
  · simpa [List.getD_eq_getElem?_getD] using ha i
  · simp
theorem bytesOk_drop {a : List Nat} (ha : bytesOk a) (n : Nat) : bytesOk (a.drop n) := by
  intro i
  rw [List.getD_eq_getElem?_getD, List.getElem?_drop]
  simpa [List.getD_eq_getElem?_getD] using ha (n + i)
theorem bytesOk_replicate (n x : Nat) (h : x < 256) : bytesOk (List.replicate n x) := by
  intro i
  rw [List.getD_eq_getElem?_getD, List.getElem?_replicate]
  split
  · simpa using h
  · simp
theorem put_length (bl r : List Nat) (f : Nat) (h : f + r.length ≤ bl.length) : (put bl f r).length = bl.length := by
  simp [put]; omega
theorem put_ok {bl r : List Nat} (hb : bytesOk bl) (hr : bytesOk r) (f : Nat) : bytesOk (put bl f r) :=
  bytesOk_append (bytesOk_take hb _) (bytesOk_append hr (bytesOk_drop hb _))

theorem put_take (bl r : List Nat) (f : Nat) (h : f + r.length ≤ bl.length) : (put bl f r).take (f + r.length) = bl.take f ++ r := by
  rw [put, ← List.append_assoc, List.take_left' (by simp; omega)]

theorem feed_part {l bl r : List Nat} (h : Held l bl) (hr : bytesOk r) (hlt : l.length % 64 + r.length < 64) :
    Held (l ++ r) (put bl (l.length % 64) r) ∧ behind (l ++ r) = behind l ∧ (l ++ r).length % 64 = l.length % 64 + r.length := by
  obtain ⟨h1, h2, h3⟩ := h
  have e1 : (l ++ r).length % 64 = l.length % 64 + r.length := by simp; omega
  have e2 : (l ++ r).length / 64 = l.length / 64 := by simp; omega
  refine ⟨⟨by rw [put_length _ _ _ (by omega), h1], put_ok h2 hr _, ?_⟩, ?_, e1⟩
  · rw [e1, e2, put_take _ _ _ (by omega), h3, List.drop_append_of_le_length (by omega)]
  · rw [behind, behind, e2, mixAll_append _ _ _ _ (by omega)]
theorem feed_full {l bl r : List Nat} (h : Held l bl) (hr : bytesOk r) (he : l.length % 64 + r.length = 64) :
    Held (l ++ r) (put bl (l.length % 64) r) ∧ behind (l ++ r) = mix (behind l) (put bl (l.length % 64) r) ∧ (l ++ r).length % 64 = 0 := by
  obtain ⟨h1, h2, h3⟩ := h
  have e1 : (l ++ r).length % 64 = 0 := by simp; omega
  have e2 : (l ++ r).length / 64 = l.length / 64 + 1 := by simp; omega
  have e3 : put bl (l.length % 64) r = l.drop (64 * (l.length / 64)) ++ r := by
    have e4 : bl.drop (l.length % 64 + r.length) = [] := List.drop_eq_nil_of_le (by omega)
    rw [put, h3, e4, List.append_nil]
  refine ⟨⟨by rw [put_length _ _ _ (by omega), h1], put_ok h2 hr _, ?_⟩, ?_, e1⟩
  · rw [e1, e2, List.take_zero, List.drop_eq_nil_of_le (by simp; omega)]
  · rw [behind, behind, e2, mixAll_succ, mixAll_append _ _ _ _ (by omega), List.drop_append_of_le_length (by omega), e3, List.take_of_length_le]
    simp
    omega
theorem held_nil : Held [] (List.replicate 64 0) := ⟨by simp, bytesOk_replicate _ _ (by omega), by simp⟩
theorem behind_nil : behind [] = init := rfl

end Go.Proofs.YtlhohmlpcgbliabGreatDoor.Sha
