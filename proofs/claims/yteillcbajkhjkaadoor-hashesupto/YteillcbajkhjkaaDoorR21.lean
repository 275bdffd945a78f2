import Derived.Test.YteillcbajkhjkaaDoorR20
namespace Go.Proofs.YteillcbajkhjkaaDoor
open Go.RowKit
attribute [local go_sem ↓] Go.wp_at_zero Go.wp_at_succ

section
variable {P : Program} {ops : Array Oper} {Q : Exit → Act → World → Prop}
/-- A region that draws its order, walked from its start. -/
theorem wp_region_any {id : Nat} {l : List Oper} {a : Act} {w : World} (hm : P.follows .mixedOrders = true)
    (h : wpAnyH P .any l.toArray (NoPanic Q) (fun _ => True) l.length (Array.replicate l.length false) a w.drew) : (Code.region id l.toArray true).wp P Q a w := by
  refine wp_region_noPanic (wp_region_held (S := fun _ => True) hm ?_)
  simpa using h
/-- An operation that yields its value whatever the world is, and that nobody else touches, may be taken first. -/
theorem wpAnyH_pure {k fuel : Nat} {o : Oper} {v : Value} {listed : Array Bool} {a : Act} {w : World} (h0 : ops[k]? = some o) (hs : Region.noSelect ops = true) (hf : Region.free .any ops listed k = true)
    (hr : (Region.ready .any ops listed).contains k = true) (hgd : o.guard = none) (d : Option Nat) (hd : o.dst = d) (hv : ∀ wx, (execOp a.eval o).run P wx = .ok (.value v) wx)
    (h : wpAnyH P .any ops (NoPanic Q) (fun _ => True) fuel (listed.setIfInBounds k true) (a.put d v) w) : wpAnyH P .any ops (NoPanic Q) (fun _ => True) (fuel + 1) listed a w :=
  wpAnyH_take h0 hs hf hr (fun c a w hq => by cases hq) (.inl ⟨by simp [Region.wanted, hgd], fun wx _ => hv wx⟩) trivial (by rw [hd]; exact h)
/-- A call that comes up alone. -/
theorem wpAnyH_call {i fuel : Nat} {o : Oper} {listed : Array Bool} {a : Act} {w : World} {f : FuncId} {vs : Array Value} (hr : Region.ready .any ops listed = [i]) (hi : ops[i]? = some o) (hgd : o.guard = none) (d : Option Nat) (hd : o.dst = d)
    (hx : (execOp a.eval o).run P w = .ok (.enter f vs) w)
    (hc : Calls P f vs w fun e w' => ∃ v, e = .returned v ∧ wpAnyH P .any ops Q (fun _ => True) fuel (listed.setIfInBounds i true) (a.put d v) w') : wpAnyH P .any ops Q (fun _ => True) (fuel + 1) listed a w := by
  refine wpAnyH_all hr (by simp) ?_
  intro j hj
  simp at hj
  subst hj
  unfold wpOp
  have hw : Region.wanted o (yielded ops a.tmps) = true := by simp [Region.wanted, hgd]
  simp only [hi, hw, if_true]
  refine .inl ?_
  unfold Oper.wp
  rw [hx, Oper.upon_enter]
  refine hc.mono ?_
  rintro e w' ⟨v, rfl, h⟩
  rw [← hd] at h
  exact ⟨trivial, h⟩
/-- A last assignment. -/
theorem wpAnyH_put {i fuel : Nat} {o : Oper} {listed : Array Bool} {a : Act} {w : World} {v : Value} (hr : Region.ready .any ops listed = [i]) (hi : ops[i]? = some o) (hgd : o.guard = none) (d : Option Nat) (hd : o.dst = d)
    (hv : (execOp a.eval o).run P w = .ok (.value v) w) (h : wpAnyH P .any ops Q (fun _ => True) fuel (listed.setIfInBounds i true) (a.put d v) w) : wpAnyH P .any ops Q (fun _ => True) (fuel + 1) listed a w :=
  wpAnyH_val hr hi hgd hv trivial (by rw [hd]; exact h)
end

/-- The cells from ⟨b, o⟩ on hold these texts. -/
def SA (w : World) (b o : Nat) (ss : List ByteArray) : Prop := ∀ (i : Nat) s, ss[i]? = some s → w.cell? ⟨b, o + i, none⟩ = some (.string s)
theorem SA.below {w w' : World} {b o : Nat} {ss : List ByteArray} (h : SA w b o ss) (hb : Below w.heap.size w w') : SA w' b o ss := fun i s hs => by
  rw [hb.cell (World.block_lt_of_cell? _ _ (h i s hs))]; exact h i s hs
theorem SA.take {w : World} {b o : Nat} {ss : List ByteArray} (h : SA w b o ss) (k : Nat) : SA w b o (ss.take k) := fun i s hs => by
  rw [List.getElem?_take] at hs
  split at hs
  · exact h i s hs
  · cases hs
theorem SA.drop {w : World} {b o : Nat} {ss : List ByteArray} (h : SA w b o ss) (k : Nat) : SA w b (o + k) (ss.drop k) := fun i s hs => by
  rw [List.getElem?_drop] at hs
  rw [Nat.add_assoc]
  exact h (k + i) s hs

/-- The hash of a tree over these hashes, with fuel. -/
def mthF : Nat → List ByteArray → ByteArray
  | 0, l => l.headD (shaS [])
  | n + 1, l => if l.length ≤ 1 then l.headD (shaS []) else nodeS (mthF n (l.take (spl l.length))) (mthF n (l.drop (spl l.length)))
theorem mthF_eq : ∀ (n m : Nat) (l : List ByteArray), l.length ≤ n + 1 → l.length ≤ m + 1 → mthF n l = mthF m l := by
  intro n
  induction n with
  | zero =>
    intro m l h1 _
    cases m with
    | zero => rfl
    | succ m => simp only [mthF]; rw [if_pos (by omega)]
  | succ n ih =>
    intro m l h1 h2
    cases m with
    | zero => simp only [mthF]; rw [if_pos (by omega)]
    | succ m =>
      simp only [mthF]
      by_cases h : l.length ≤ 1
      · rw [if_pos h, if_pos h]
      · have h3 := spl_lt (n := l.length) (by omega)
        have h4 := spl_pos l.length
        rw [if_neg h, if_neg h, ih m (l.take (spl l.length)) (by rw [List.length_take]; omega) (by rw [List.length_take]; omega), ih m (l.drop (spl l.length)) (by rw [List.length_drop]; omega) (by rw [List.length_drop]; omega)]
/-- The hash of a tree over these hashes. -/
def mth (l : List ByteArray) : ByteArray := mthF l.length l
theorem mth_nil : mth [] = shaS [] := rfl
theorem mth_one (s : ByteArray) : mth [s] = s := by simp [mth, mthF]
theorem mth_two {l : List ByteArray} (h : 2 ≤ l.length) : mth l = nodeS (mth (l.take (spl l.length))) (mth (l.drop (spl l.length))) := by
  obtain ⟨n, hn⟩ : ∃ n, l.length = n + 1 := ⟨l.length - 1, by omega⟩
  have h3 := spl_lt (n := l.length) h
  have h4 := spl_pos l.length
  have e : mth l = mthF (n + 1) l := by unfold mth; rw [hn]
  rw [e, mthF, if_neg (by omega), mthF_eq n (l.take (spl l.length)).length (l.take (spl l.length)) (by rw [List.length_take]; omega) (by omega), mthF_eq n (l.drop (spl l.length)).length (l.drop (spl l.length)) (by rw [List.length_drop]; omega) (by omega)]
  rfl
theorem nodeS_size (a b : ByteArray) : (nodeS a b).size = 32 := shaS_size _
theorem leafS_size (a : ByteArray) : (leafS a).size = 32 := shaS_size _
theorem mth_size {l : List ByteArray} {N : Nat} (h : ∀ s ∈ l, s.size < N) (hN : 32 < N) : (mth l).size < N := by
  by_cases h2 : 2 ≤ l.length
  · rw [mth_two h2, nodeS_size]; exact hN
  · match l, h2 with
    | [], _ => rw [mth_nil, shaS_size]; exact hN
    | [s], _ => rw [mth_one]; exact h s (by simp)
    | _ :: _ :: _, h2 => simp at h2

noncomputable def rtR6 : Code := ((Tryd.f15.body.bind (findRegion 6)).getD .skip)

theorem slice_h (w : World) (b o n c k : Nat) (hc : k ≤ c) : (Instr.sliceAt 22 (.slice (some ⟨b, o, none⟩) n c) none (some (.int .i64 (k : Int))) none).run Tryd.prog w = .ok (.slice (some ⟨b, o, none⟩) k c) w := by
  rw [run_sliceAt_slice w 22 _ _ _ _ (by kernel_rfl), run_slice_h w 22 _ _ _ (by kernel_rfl) .i64 (k : Int) (by omega) (by omega)]
  simp [sliced, go_sem, Addr.add]
theorem slice_l (w : World) (b o n c k : Nat) (hk : k < n) (hc : n ≤ c) : (Instr.sliceAt 22 (.slice (some ⟨b, o, none⟩) n c) (some (.int .i64 (k : Int))) none none).run Tryd.prog w = .ok (.slice (some ⟨b, o + k, none⟩) (n - k) (c - k)) w := by
  rw [run_sliceAt_slice w 22 _ _ _ _ (by kernel_rfl), run_slice_l w 22 _ _ _ (by kernel_rfl) .i64 (k : Int) (by omega) (by omega)]
  have h1 : c ≠ k := by omega
  simp [sliced, go_sem, Addr.add, h1]
end Go.Proofs.YteillcbajkhjkaaDoor
