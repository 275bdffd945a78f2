import Derived.Test.YtlhohmlpcgbliabGreatDoorProg
import Derived.Shelf.Spec.TrailingZeros
import Derived.Test.YtlhohmlpcgbliabGreatDoorZCd
import Derived.Test.YtlhohmlpcgbliabGreatDoorZX12
namespace Go.Proofs.YtlhohmlpcgbliabGreatDoor
open Go.Shelf
def lays27_ren : Go.Shelf.Ren := ⟨fun | 27 => 55 | 28 => 83 | 29 => 84 | n => n, fun | 0 => 0 | 3 => 3 | 4 => 4 | 5 => 5 | 22 => 117 | 25 => 84 | 27 => 114 | 53 => 139 | 54 => 116 | n => n, fun | 0 => 0 | 1 => 1 | n => n⟩
theorem lays27 : Go.Proofs.Lays7.n27 Tryz.prog lays27_ren := {
  mixed := by kernel_rfl
  f27 := Tryz.func55.trans (congrArg some (by kernel_rfl))
  f28 := Tryz.func83.trans (congrArg some (by kernel_rfl))
  f29 := Tryz.func84.trans (congrArg some (by kernel_rfl))
  t0 := Tryz.underlying0
  a0 := Tryz.isAgg0
  z0 := Tryz.sizeOf0
  v0 := Tryz.zeroValue0
  i0 := by kernel_rfl
  t3 := Tryz.underlying3
  a3 := Tryz.isAgg3
  z3 := Tryz.sizeOf3
  v3 := Tryz.zeroValue3
  i3 := by kernel_rfl
  t4 := Tryz.underlying4
  a4 := Tryz.isAgg4
  z4 := Tryz.sizeOf4
  v4 := Tryz.zeroValue4
  i4 := by kernel_rfl
  t5 := Tryz.underlying5
  a5 := Tryz.isAgg5
  z5 := Tryz.sizeOf5
  v5 := Tryz.zeroValue5
  i5 := by kernel_rfl
  t22 := Tryz.underlying117
  a22 := Tryz.isAgg117
  z22 := Tryz.sizeOf117
  v22 := Tryz.zeroValue117
  i22 := by kernel_rfl
  t25 := Tryz.underlying84
  a25 := Tryz.isAgg84
  z25 := Tryz.sizeOf84
  v25 := Tryz.zeroValue84
  i25 := by kernel_rfl
  t27 := Tryz.underlying114
  a27 := Tryz.isAgg114
  z27 := Tryz.sizeOf114
  v27 := Tryz.zeroValue114
  i27 := by kernel_rfl
  t53 := Tryz.underlying139
  a53 := Tryz.isAgg139
  z53 := Tryz.sizeOf139
  v53 := Tryz.zeroValue139
  i53 := by kernel_rfl
  t54 := Tryz.underlying116
  a54 := Tryz.isAgg116
  z54 := Tryz.sizeOf116
  g0 := by kernel_rfl
  g1 := by kernel_rfl }
theorem bits_TrailingZeros (x : Nat) (hx : x < 18446744073709551616) (w : World) (hT : x ≠ 0 → TabAt 1 Lib.deBruijn64tab w) :
    Calls Tryz.prog 55 #[.int .u64 (x : Int)] w fun e w' => e = .returned (.int .i64 (Lib.ctz 64 x)) ∧ w' = w := Any7.bits_TrailingZeros lays27 x hx w hT
end Go.Proofs.YtlhohmlpcgbliabGreatDoor
namespace Go.Proofs.YtlhohmlpcgbliabGreatDoor
set_option maxRecDepth 100000
open Go.RowKit

def natsI (l : List Nat) : List Int := l.map fun (n : Nat) => (n : Int)
theorem gTab64 : Tryz.prog.globalNamed "math/bits.deBruijn64tab" = some 1 := by kernel_rfl
theorem tab64_data : Rows.laid_math_bits_deBruijn64tab (H := Unit) = Lib.tabData .u8 (natsI Lib.deBruijn64tab) := by kernel_rfl
theorem tab64_of {W : World} (rest pre : List (String × DataW Unit)) (ps : List MemPlace) (h : DataW.LaidVars Tryz.prog W (pre ++ ("math/bits.deBruijn64tab", Rows.laid_math_bits_deBruijn64tab) :: rest) ps) : TabAt 1 Lib.deBruijn64tab W := by
  rw [tab64_data] at h
  have hT := tab_of gTab64 (t := 116) (n := 64) (e := 5) (by kernel_rfl) Tryz.underlying116 Tryz.underlying5 (by kernel_rfl) (by kernel_rfl) rest pre ps h
  intro i hi
  have := hT.cell gTab64 i (by simp only [natsI, List.length_map]; exact hi)
  rw [this]
  simp [natsI, List.getD, hi]

/-- A world for a witness: the settled one, the three tables holding what their initialisers lay. -/
def laidWorld3 (P : Program) (os : Os) : World :=
  { World.holding P os ⟨#[], #[], []⟩ with heap := ((((World.holding P os ⟨#[], #[], []⟩).heap.modify 2 fun
      | .cells _ t frozen => .cells (keysI.map fun n => Value.int .u32 n).toArray t frozen
      | o => o).modify 1 fun
      | .cells _ t frozen => .cells ((natsI Lib.deBruijn64tab).map fun n => Value.int .u8 n).toArray t frozen
      | o => o).modify 0 fun
      | .cells _ t frozen => .cells ((natsI Lib.deBruijn32tab).map fun n => Value.int .u8 n).toArray t frozen
      | o => o) }
end Go.Proofs.YtlhohmlpcgbliabGreatDoor
namespace Go.Proofs.YtlhohmlpcgbliabGreatDoor
open Go.RowKit
attribute [local go_sem ↓] Go.wp_at_zero Go.wp_at_succ

theorem msg_one (s bl : List Nat) (fi le : Int) : ∀ v ∈ msg s bl fi le, v.oneCell' = true := by
  intro v hv
  unfold msg at hv
  rcases List.mem_append.1 hv with h | h
  · exact u32s_one _ v h
  · rcases List.mem_append.1 h with h | h
    · exact u8s_one _ v h
    · simp at h; rcases h with rfl | rfl <;> rfl

/-- An operation that is reckoned apart. -/
theorem wpList_by {P : Program} {ops : Array Oper} {rest : List Oper} {o : Oper} {a : Act} {w : World} {Q : Exit → Act → World → Prop} {op : Op} (hgd : o.guard = none) (_ho : o.op = op) (v : Value) (w' : World)
    (hr : (execOp a.eval o).run P w = .ok (.value v) w') (h : wpList P ops Q rest (a.put o.dst v) w') : wpList P ops Q (o :: rest) a w :=
  wpList_plain hgd fun _ hK => by unfold Oper.wp; rw [hr]; exact hK _ _ h

/-- A message's cells at first: as it is made, and as it is laid out. -/
def mz : List Value := msg (List.replicate 8 0) (List.replicate 64 0) 0 0
def mi : List Value := msg Sha.init.list (List.replicate 64 0) 0 0
theorem mi_one : mi.toArray.all (·.oneCell') = true := all_oneCell_toArray (msg_one _ _ _ _)
theorem mi_info : (Tryz.prog.info? 119).map (·.size) = some mi.toArray.size := by kernel_rfl
theorem mz_there (w : World) : (w.alloc (.cells mz.toArray 119)).there w.heap.size 0 mi.toArray.size := (Blk.new w 119 mz).there 0 _ (Nat.le_refl _)
/-- The world behind a message's making. -/
def made (w : World) : World := (w.alloc (.cells mz.toArray 119)).setCells w.heap.size 0 mi
theorem made_blk (w : World) : Blk (made w) w.heap.size 119 mi :=
  ((Blk.new w 119 mz).setCells 0 mi).eq (by rw [setL_eq _ _ _ (Nat.le_refl _)]; rfl)
theorem made_below (w : World) : Below w.heap.size w (made w) := Below.setCells ((Below.refl _ _).alloc (Nat.le_refl _) _) _ _ (Nat.le_refl _) _

theorem fed_made (w : World) : Fed (made w) w.heap.size [] 0 := by
  refine ⟨List.replicate 64 0, Sha.held_nil, ?_⟩
  have e : msg (Sha.behind []).list (List.replicate 64 0) ((([] : List Nat).length % 64 : Nat) : Int) 0 = mi := by
    rw [Sha.behind_nil]; rfl
  rw [e]
  exact made_blk w


set_option maxRecDepth 100000 in
set_option maxHeartbeats 1000000 in
theorem ofR1_wp {c0 c1 c2 c3 c4 c5 c6 c7 c8 c9 c10 c11 c12 c13 c14 c15 c16 c17 c18 : Value} (w : World) (Q : Exit → Act → World → Prop)
  (hQ : ∀ (u6 u7 : Value), Q .normal ⟨#[c0, c1, c2, .pointer (some ⟨w.heap.size, 0, none⟩), c4, c5, u6, u7, c8, c9, c10, c11, c12, c13, c14, c15, c16, c17, c18], []⟩ (made w)) :
  Code.wp Tryz.prog (rgn Tryz.f50 1) Q ⟨#[c0, c1, c2, c3, c4, c5, c6, c7, c8, c9, c10, c11, c12, c13, c14, c15, c16, c17, c18], []⟩ w := by
  conv => arg 2; whnf
  refine wp_region_lit ?_
  refine wpList_by (op := .build 115 _) (by rfl) (by rfl) (.agg (u32s Sha.init.list).toArray) w (by kernel_rfl) ?_
  refine wpList_by (op := .build 119 #[(0, .tmp 6)]) (by rfl) (by rfl) (.agg mi.toArray) w (by kernel_rfl) ?_
  refine wpList_by (op := .alloc 119) (by rfl) (by rfl) (.pointer (some ⟨w.heap.size, 0, none⟩)) (w.alloc (.cells mz.toArray 119)) (by kernel_rfl) ?_
  refine wpList_store_mid (by rfl) 119 (.tmp 3) (.tmp 7) (by rfl) w.heap.size 0 mi.toArray (by rfl) (by rfl) (mz_there w) mi_info mi_one ?_
  refine wpList_nil ?_
  simp only [Act.put]
  exact hQ _ _

set_option maxRecDepth 100000 in
set_option maxHeartbeats 1000000 in
theorem of_any (v : Value) (ps : List ByteArray) (w : World) (hp : Strs w v ps) (hlen : (flat ps).length < 576460752303423488) (hpl : ps.length < 9223372036854775807) (ht : Table w) (hg : 2 < w.heap.size) :
    Calls Tryz.prog 50 #[v] w fun e w' => ∃ h : ByteArray, e = .returned (.string h) ∧ bts h = Sha.sha (flat ps) ∧ Below w.heap.size w w' := by
  have hb := made_below w
  have hp2 := hp.below hb
  have hps := hp
  have ht2 : Table (made w) := table_kept (Kept.of_below (b := w.heap.size) hb) hg (by omega) ht
  have hg2 : 2 < (made w).heap.size := Nat.lt_of_lt_of_le hg hb.size
  have hne : w.heap.size ≠ 2 := by omega
  have hfd := fed_made w
  have hpb : ∀ (i : Nat) (s : ByteArray), ps[i]? = some s → ∀ a c, v = .slice (some a) ps.length c → a.block ≠ w.heap.size := by
    intro i s hs a c hv
    obtain ⟨a', c', hv', h2⟩ := hps
    obtain ⟨g, off, h3, h4⟩ := h2 i s hs
    rw [hv'] at hv
    injection hv with e1 e2 e3
    subst e1
    injection h3 with e4
    subst e4
    have := World.block_lt_of_cell? _ _ h4
    exact Nat.ne_of_lt this
  obtain ⟨a, c, rfl, _⟩ := hp
  clear hps
  go_enter Tryz.func50, Tryz.ntmps50
  refine wp_seq ?_
  refine wp_region_lit ?_
  refine wpList_by (op := .assign _) (by rfl) (by rfl) (.string ⟨#[]⟩) w (by kernel_rfl) ?_
  refine wpList_nil ?_
  simp only [Act.put, Exit.then]
  refine wp_seq ?_
  refine ofR1_wp _ _ ?_
  intro u6 u7
  simp only [Exit.then]
  generalize made w = w1 at *
  go_wp2_with fail
  refine ofB0_wp w.heap.size _ ps _ _ hp2 hfd hlen hpl ht2 hg2 hne hpb ?_
  intro u5 u10 u11 u12 u13 u14 u15 u16 w2 hk2 hf2
  simp only [Exit.inBlock, if_true]
  have hk3 : Kept w.heap.size w.heap.size w w2 := (Kept.of_below hb).trans (hk2.mono hb.size)
  have ht3 := table_kept hk2 hg2 hne ht2
  have hg3 : 2 < w2.heap.size := Nat.lt_of_lt_of_le hg2 hk2.size
  go_wp2_with fail
  refine (pad_any w.heap.size (flat ps) _ hf2 hlen ht3 hg3 hne).mono ?_
  rintro e w3 ⟨rfl, hk4, bl, fi, le, _, hm4⟩
  have hk5 : Kept w.heap.size w.heap.size w w3 := hk3.trans (hk4.mono hk3.size)
  go_wp2_with fail
  refine (hash_any w.heap.size _ _ _ _ _ (Sha.behind_ok _) hm4).mono ?_
  rintro e w4 ⟨h, rfl, hh, hb4⟩
  go_wp2_with fail
  go_ret
  exact ⟨h, rfl, hh, (hk5.below (Nat.le_refl _) (Nat.le_refl _)).trans (hb4.mono hk5.size)⟩
end Go.Proofs.YtlhohmlpcgbliabGreatDoor
namespace Go.Proofs.YtlhohmlpcgbliabGreatDoor
open Go.RowKit
attribute [local go_sem ↓] Go.wp_at_zero Go.wp_at_succ

/-- The hash of these bytes, as a text. -/
def shaS (l : List Nat) : ByteArray := strOf (Sha.sha l)
theorem shaS_of {h : ByteArray} {l : List Nat} (e : bts h = Sha.sha l) : h = shaS l := by rw [shaS, ← e, strOf_bts]
theorem out_ok {s : Sha.St} (h : s.ok) : Sha.bytesOk (Sha.out s) := outK_ok s h 8 (Nat.le_refl _)
theorem sha_ok (l : List Nat) : Sha.bytesOk (Sha.sha l) := out_ok (Sha.mixAll_ok _ _ _ Sha.init_ok)
theorem bts_shaS (l : List Nat) : bts (shaS l) = Sha.sha l := bts_strOf (sha_ok l)
theorem sha_length (l : List Nat) : (Sha.sha l).length = 32 := rfl
theorem shaS_size (l : List Nat) : (shaS l).size = 32 := by rw [← bts_length, bts_shaS, sha_length]
def leafS (s : ByteArray) : ByteArray := shaS (0 :: bts s)
def nodeS (a b : ByteArray) : ByteArray := shaS (1 :: (bts a ++ bts b))

theorem strs_two (w : World) (a b : ByteArray) : Strs (w.alloc (.cells #[.string a, .string b] 9)) (.slice (some ⟨w.heap.size, 0, none⟩) 2 2) [a, b] := by
  refine ⟨some ⟨w.heap.size, 0, none⟩, 2, rfl, fun i s hs => ⟨w.heap.size, 0, rfl, ?_⟩⟩
  rw [(Blk.new w 9 [.string a, .string b]).cell]
  match i with
  | 0 => simp at hs; simp [hs]
  | 1 => simp at hs; simp [hs]
  | k + 2 => simp at hs
theorem strs_three (w : World) (a b c : ByteArray) : Strs (w.alloc (.cells #[.string a, .string b, .string c] 9)) (.slice (some ⟨w.heap.size, 0, none⟩) 3 3) [a, b, c] := by
  refine ⟨some ⟨w.heap.size, 0, none⟩, 3, rfl, fun i s hs => ⟨w.heap.size, 0, rfl, ?_⟩⟩
  rw [(Blk.new w 9 [.string a, .string b, .string c]).cell]
  match i with
  | 0 => simp at hs; simp [hs]
  | 1 => simp at hs; simp [hs]
  | 2 => simp at hs; simp [hs]
  | k + 3 => simp at hs

set_option maxHeartbeats 400000 in
theorem treeLeaf_any (s : ByteArray) (w : World) (hs : s.size < 288230376151711744) (ht : Table w) (hg : 2 < w.heap.size) :
    Calls Tryz.prog 26 #[.string s] w fun e w' => e = .returned (.string (leafS s)) ∧ Below w.heap.size w w' := by
  have hb : Below w.heap.size w (w.alloc (.cells #[.string ⟨#[0]⟩, .string s] 9)) := (Below.refl _ _).alloc (Nat.le_refl _) _
  have ht2 : Table (w.alloc (.cells #[.string ⟨#[0]⟩, .string s] 9)) := table_kept (Kept.of_below (b := w.heap.size) hb) hg (by omega) ht
  go_enter Tryz.func26, Tryz.ntmps26
  go_wp2_with fail
  refine (of_any _ [⟨#[0]⟩, s] _ (strs_two w _ _) ?_ ?_ ht2 (Nat.lt_of_lt_of_le hg hb.size)).mono ?_
  · have h1 : (⟨#[0]⟩ : ByteArray).size = 1 := rfl
    simp [flat, h1]; omega
  · simp
  rintro e w' ⟨h, rfl, hh, hb'⟩
  have HE : h = leafS s := shaS_of (by rw [hh]; simp [flat]; rfl)
  subst HE
  go_wp2_with fail
  go_ret
  exact ⟨rfl, hb.trans (hb'.mono hb.size)⟩

set_option maxHeartbeats 400000 in
theorem treeNode_any (a b : ByteArray) (w : World) (ha : a.size < 144115188075855872) (hbs : b.size < 144115188075855872) (ht : Table w) (hg : 2 < w.heap.size) :
    Calls Tryz.prog 27 #[.string a, .string b] w fun e w' => e = .returned (.string (nodeS a b)) ∧ Below w.heap.size w w' := by
  have hb : Below w.heap.size w (w.alloc (.cells #[.string ⟨#[1]⟩, .string a, .string b] 9)) := (Below.refl _ _).alloc (Nat.le_refl _) _
  have ht2 : Table (w.alloc (.cells #[.string ⟨#[1]⟩, .string a, .string b] 9)) := table_kept (Kept.of_below (b := w.heap.size) hb) hg (by omega) ht
  go_enter Tryz.func27, Tryz.ntmps27
  go_wp2_with fail
  refine (of_any _ [⟨#[1]⟩, a, b] _ (strs_three w _ _ _) ?_ ?_ ht2 (Nat.lt_of_lt_of_le hg hb.size)).mono ?_
  · have h1 : (⟨#[1]⟩ : ByteArray).size = 1 := rfl
    simp [flat, h1]; omega
  · simp
  rintro e w' ⟨h, rfl, hh, hb'⟩
  have HE : h = nodeS a b := shaS_of (by rw [hh]; simp [flat]; rfl)
  subst HE
  go_wp2_with fail
  go_ret
  exact ⟨rfl, hb.trans (hb'.mono hb.size)⟩

set_option maxHeartbeats 400000 in
theorem groveLeaf_any (s : ByteArray) (w : World) (hs : s.size < 288230376151711744) (ht : Table w) (hg : 2 < w.heap.size) :
    Calls Tryz.prog 7 #[.string s] w fun e w' => e = .returned (.string (leafS s)) ∧ Below w.heap.size w w' := by
  go_enter Tryz.func7, Tryz.ntmps7
  go_wp2_with fail
  refine (treeLeaf_any s _ hs ht hg).mono ?_
  rintro e w' ⟨rfl, hb⟩
  go_wp2_with fail
  go_ret
  exact ⟨rfl, hb⟩
set_option maxHeartbeats 400000 in
theorem groveNode_any (a b : ByteArray) (w : World) (ha : a.size < 144115188075855872) (hbs : b.size < 144115188075855872) (ht : Table w) (hg : 2 < w.heap.size) :
    Calls Tryz.prog 8 #[.string a, .string b] w fun e w' => e = .returned (.string (nodeS a b)) ∧ Below w.heap.size w w' := by
  go_enter Tryz.func8, Tryz.ntmps8
  go_wp2_with fail
  refine (treeNode_any a b _ ha hbs ht hg).mono ?_
  rintro e w' ⟨rfl, hb⟩
  go_wp2_with fail
  go_ret
  exact ⟨rfl, hb⟩
end Go.Proofs.YtlhohmlpcgbliabGreatDoor
