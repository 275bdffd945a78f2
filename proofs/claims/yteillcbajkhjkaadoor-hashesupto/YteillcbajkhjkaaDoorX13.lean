import Derived.Test.YteillcbajkhjkaaDoorX12
namespace Go.Proofs.YteillcbajkhjkaaDoor
open Go.RowKit
attribute [local go_sem ↓] Go.wp_at_zero Go.wp_at_succ

theorem msg_one (s bl : List Nat) (fi le : Int) : ∀ v ∈ msg s bl fi le, v.oneCell' = true := by
  intro v hv
  unfold msg at hv
  rcases List.mem_append.1 hv with h | h
  · exact u32s_one _ v h
  · rcases List.mem_append.1 h with h | h
    · exact u8s_one _ v h
    · simp at h; rcases h with rfl | rfl <;> rfl

/-- An operation that is reckoned apart. -/
theorem wpList_by {P : Program} {ops : Array Oper} {rest : List Oper} {o : Oper} {a : Act} {w : World} {Q : Exit → Act → World → Prop} {op : Op} (hgd : o.guard = none) (_ho : o.op = op) (v : Value) (w' : World)
    (hr : (execOp a.eval o).run P w = .ok (.value v) w') (h : wpList P ops Q rest (a.put o.dst v) w') : wpList P ops Q (o :: rest) a w :=
  wpList_plain hgd fun _ hK => by unfold Oper.wp; rw [hr]; exact hK _ _ h

/-- A message's cells at first: as it is made, and as it is laid out. -/
def mz : List Value := msg (List.replicate 8 0) (List.replicate 64 0) 0 0
def mi : List Value := msg Sha.init.list (List.replicate 64 0) 0 0
theorem mi_one : mi.toArray.all (·.oneCell') = true := all_oneCell_toArray (msg_one _ _ _ _)
theorem mi_info : (Tryd.prog.info? 63).map (·.size) = some mi.toArray.size := by kernel_rfl
theorem mz_there (w : World) : (w.alloc (.cells mz.toArray 63)).there w.heap.size 0 mi.toArray.size := (Blk.new w 63 mz).there 0 _ (Nat.le_refl _)
/-- The world behind a message's making. -/
def made (w : World) : World := (w.alloc (.cells mz.toArray 63)).setCells w.heap.size 0 mi
theorem made_blk (w : World) : Blk (made w) w.heap.size 63 mi :=
  ((Blk.new w 63 mz).setCells 0 mi).eq (by rw [setL_eq _ _ _ (Nat.le_refl _)]; rfl)
theorem made_below (w : World) : Below w.heap.size w (made w) := Below.setCells ((Below.refl _ _).alloc (Nat.le_refl _) _) _ _ (Nat.le_refl _) _

theorem fed_made (w : World) : Fed (made w) w.heap.size [] 0 := by
  refine ⟨List.replicate 64 0, Sha.held_nil, ?_⟩
  have e : msg (Sha.behind []).list (List.replicate 64 0) ((([] : List Nat).length % 64 : Nat) : Int) 0 = mi := by
    rw [Sha.behind_nil]; rfl
  rw [e]
  exact made_blk w

noncomputable def ofR1 : Code := ((Tryd.f38.body.bind (findRegion 1)).getD .skip)

set_option maxRecDepth 100000 in
set_option maxHeartbeats 1000000 in
theorem ofR1_wp {c0 c1 c2 c3 c4 c5 c6 c7 c8 c9 c10 c11 c12 c13 c14 c15 c16 c17 c18 : Value} (w : World) (Q : Exit → Act → World → Prop)
  (hQ : ∀ (u6 u7 : Value), Q .normal ⟨#[c0, c1, c2, .pointer (some ⟨w.heap.size, 0, none⟩), c4, c5, u6, u7, c8, c9, c10, c11, c12, c13, c14, c15, c16, c17, c18], []⟩ (made w)) :
  Code.wp Tryd.prog ofR1 Q ⟨#[c0, c1, c2, c3, c4, c5, c6, c7, c8, c9, c10, c11, c12, c13, c14, c15, c16, c17, c18], []⟩ w := by
  conv => arg 2; whnf
  refine wp_region_lit ?_
  refine wpList_by (op := .build 59 _) (by rfl) (by rfl) (.agg (u32s Sha.init.list).toArray) w (by kernel_rfl) ?_
  refine wpList_by (op := .build 63 #[(0, .tmp 6)]) (by rfl) (by rfl) (.agg mi.toArray) w (by kernel_rfl) ?_
  refine wpList_by (op := .alloc 63) (by rfl) (by rfl) (.pointer (some ⟨w.heap.size, 0, none⟩)) (w.alloc (.cells mz.toArray 63)) (by kernel_rfl) ?_
  refine wpList_store_mid (by rfl) 63 (.tmp 3) (.tmp 7) (by rfl) w.heap.size 0 mi.toArray (by rfl) (by rfl) (mz_there w) mi_info mi_one ?_
  refine wpList_nil ?_
  simp only [Act.put]
  exact hQ _ _

set_option maxRecDepth 100000 in
set_option maxHeartbeats 1000000 in
theorem of_any (v : Value) (ps : List ByteArray) (w : World) (hp : Strs w v ps) (hlen : (flat ps).length < 576460752303423488) (hpl : ps.length < 9223372036854775807) (ht : Table w) (hg : 2 < w.heap.size) :
    Calls Tryd.prog 38 #[v] w fun e w' => ∃ h : ByteArray, e = .returned (.string h) ∧ bts h = Sha.sha (flat ps) ∧ Below w.heap.size w w' := by
  have hb := made_below w
  have hp2 := hp.below hb
  have hps := hp
  have ht2 : Table (made w) := table_kept (Kept.of_below (b := w.heap.size) hb) hg (by omega) ht
  have hg2 : 2 < (made w).heap.size := Nat.lt_of_lt_of_le hg hb.size
  have hne : w.heap.size ≠ 2 := by omega
  have hfd := fed_made w
  have hpb : ∀ (i : Nat) (s : ByteArray), ps[i]? = some s → ∀ a c, v = .slice (some a) ps.length c → a.block ≠ w.heap.size := by
    intro i s hs a c hv
    obtain ⟨a', c', hv', h2⟩ := hps
    obtain ⟨g, off, h3, h4⟩ := h2 i s hs
    rw [hv'] at hv
    injection hv with e1 e2 e3
    subst e1
    injection h3 with e4
    subst e4
    have := World.block_lt_of_cell? _ _ h4
    exact Nat.ne_of_lt this
  obtain ⟨a, c, rfl, _⟩ := hp
  clear hps
  go_enter Tryd.func38, Tryd.ntmps38
  refine wp_seq ?_
  refine wp_region_lit ?_
  refine wpList_by (op := .assign _) (by rfl) (by rfl) (.string ⟨#[]⟩) w (by kernel_rfl) ?_
  refine wpList_nil ?_
  simp only [Act.put, Exit.then]
  refine wp_seq ?_
  refine ofR1_wp _ _ ?_
  intro u6 u7
  simp only [Exit.then]
  generalize made w = w1 at *
  go_wp2_with fail
  refine ofB0_wp w.heap.size _ ps _ _ hp2 hfd hlen hpl ht2 hg2 hne hpb ?_
  intro u5 u10 u11 u12 u13 u14 u15 u16 w2 hk2 hf2
  simp only [Exit.inBlock, if_true]
  have hk3 : Kept w.heap.size w.heap.size w w2 := (Kept.of_below hb).trans (hk2.mono hb.size)
  have ht3 := table_kept hk2 hg2 hne ht2
  have hg3 : 2 < w2.heap.size := Nat.lt_of_lt_of_le hg2 hk2.size
  go_wp2_with fail
  refine (pad_any w.heap.size (flat ps) _ hf2 hlen ht3 hg3 hne).mono ?_
  rintro e w3 ⟨rfl, hk4, bl, fi, le, _, hm4⟩
  have hk5 : Kept w.heap.size w.heap.size w w3 := hk3.trans (hk4.mono hk3.size)
  go_wp2_with fail
  refine (hash_any w.heap.size _ _ _ _ _ (Sha.behind_ok _) hm4).mono ?_
  rintro e w4 ⟨h, rfl, hh, hb4⟩
  go_wp2_with fail
  go_ret
  exact ⟨h, rfl, hh, (hk5.below (Nat.le_refl _) (Nat.le_refl _)).trans (hb4.mono hk5.size)⟩
end Go.Proofs.YteillcbajkhjkaaDoor
