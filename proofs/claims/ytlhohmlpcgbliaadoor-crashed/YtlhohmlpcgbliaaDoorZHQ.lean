import Derived.WalkKit
import Derived.BigQuiet
import Derived.Deep.RegionHeld3
namespace Go.Proofs.YtlhohmlpcgbliaaDoor

/-- Operations that yield a value, whatever they do. -/
def plainB : Op → Bool
  | .move _ => true
  | .assign _ => true
  | .load _ _ => true
  | .binOp _ _ _ _ _ => true
  | .unOp _ _ _ => true
  | .convert _ _ _ => true
  | .slice _ _ _ _ _ => true
  | .fieldAddr _ _ _ => true
  | .indexAddr _ _ _ => true
  | .index _ _ _ => true
  | _ => false

theorem val_of {P : Program} {s : Sem Value} {w w' : World} {n : Next} (h : Sem.run P (do let x ← s; pure (Next.value x)) w = .ok n w') : ∃ u, n = .value u := by
  rw [Sem.run_bind] at h
  cases hr : Sem.run P s w with
  | ok x w1 =>
    rw [hr] at h
    simp at h
    exact ⟨x, h.1.symm⟩
  | halt x w1 =>
    rw [hr] at h
    simp at h

theorem plain_value {P : Program} {ρ : Operand → Value} {o : Oper} {w w' : World} {n : Next} (hp : plainB o.op = true) (h : (execOp ρ o).run P w = .ok n w') : ∃ u, n = .value u := by
  unfold execOp at h
  cases hop : o.op <;> (rw [hop] at hp; simp only [hop] at h; first | exact val_of h | (simp [plainB] at hp; done) | (simp at h; exact ⟨_, h.1.symm⟩))

section
variable {P : Program} {ops : Array Oper} {Q : Exit → Act → World → Prop} {S : World → Prop}

/-- Each of the next operations may come up in its turn, nobody else touches what it touches, and it is a plain one. -/
def headB (ops : Array Oper) : Nat → Nat → Array Bool → Bool
  | 0, _, _ => true
  | f + 1, k, listed => (Region.ready .any ops listed).contains k && Region.free .any ops listed k && (match ops[k]? with | some o => plainB o.op && o.guard.isNone | none => false) && headB ops f (k + 1) (listed.setIfInBounds k true)
def listedTo : Nat → Nat → Array Bool → Array Bool
  | 0, _, listed => listed
  | f + 1, k, listed => listedTo f (k + 1) (listed.setIfInBounds k true)

theorem held_of_quiet (hs : Region.noSelect ops = true) (hQ : ∀ c a a' w, Q (.panic c) a' w → Q (.panic c) a w) (fuel : Nat) (w : World) (hS : S w) :
    ∀ (l : List Oper) (k : Nat) (listed : Array Bool) (a : Act), (∀ j, j < l.length → l[j]? = ops[k + j]?) → headB ops l.length k listed = true →
      wpQuiet P ops S (fun a' => wpAnyH P .any ops Q S fuel (listedTo l.length k listed) a' w) l a → wpAnyH P .any ops Q S (l.length + fuel) listed a w
  | [], _, _, _, _, _, h => by simpa [wpQuiet, listedTo] using h
  | o :: l, k, listed, a, hl, hB, h => by
    have h0 : ops[k]? = some o := by simpa using (hl 0 (by simp)).symm
    simp only [List.length_cons, headB, Bool.and_eq_true, h0] at hB
    obtain ⟨⟨⟨hr, hf⟩, hp, hg⟩, hB'⟩ := hB
    have hgn : o.guard = none := by simpa using hg
    have hw : Region.wanted o (yielded ops a.tmps) = true := by simp [Region.wanted, hgn]
    simp only [wpQuiet, hw, if_true] at h
    obtain ⟨v, hv, hn⟩ := h
    have hy : YieldsIf P ops S o v a := by
      refine .inl ⟨hw, fun w1 hw1 => ?_⟩
      have h1 := hv w1 hw1
      unfold Oper.quietAt at h1
      cases hr1 : (execOp a.eval o).run P w1 with
      | ok n w2 =>
        obtain ⟨u, rfl⟩ := plain_value hp hr1
        rw [hr1] at h1
        simp only [Oper.quietUpon] at h1
        rw [h1.1, h1.2]
      | halt x w2 =>
        rw [hr1] at h1
        simp only [Oper.quietUpon] at h1
    have := held_of_quiet hs hQ fuel w hS l (k + 1) (listed.setIfInBounds k true) (a.put o.dst v) (fun j hj => by
      have := hl (j + 1) (by simp; omega)
      simpa [Nat.add_assoc, Nat.add_comm 1 j] using this) hB' hn
    rw [List.length_cons, Nat.add_right_comm]
    exact wpAnyH_take h0 hs hf hr (fun c a' w' hq => hQ c a' _ w' hq) hy hS this

/-- A region that draws its order: its first n operations only read (in every world that meets S); the rest is walked behind them. -/
theorem wp_region_head {id n : Nat} {l : List Oper} {a : Act} {w : World} (hm : P.follows .mixedOrders = true) (hs : Region.noSelect l.toArray = true) (hB : headB l.toArray n 0 (Array.replicate l.length false) = true) (hn : n ≤ l.length) (hS : S w.drew)
    (h : wpQuiet P l.toArray S (fun a' => wpAnyH P .any l.toArray (NoPanic Q) S (l.length - n) (listedTo n 0 (Array.replicate l.length false)) a' w.drew) (l.take n) a) : (Code.region id l.toArray true).wp P Q a w := by
  refine wp_region_noPanic (wp_region_held (S := S) hm ?_)
  have h1 := held_of_quiet (P := P) (ops := l.toArray) (Q := NoPanic Q) (S := S) hs (fun c a a' w hq => by cases hq) (l.length - n) w.drew hS (l.take n) 0 (Array.replicate l.length false) a (fun j hj => by
    simp at hj
    simp [List.getElem?_take]
    omega) (by rw [List.length_take, Nat.min_eq_left hn]; exact hB) (by rw [List.length_take, Nat.min_eq_left hn]; exact h)
  rw [List.length_take, Nat.min_eq_left hn, Nat.add_sub_cancel' hn] at h1
  simpa using h1

/-- The next operation comes up alone. -/
theorem wpAnyH_val {i fuel : Nat} {o : Oper} {listed : Array Bool} {a : Act} {w w' : World} {v : Value} (hr : Region.ready .any ops listed = [i]) (hi : ops[i]? = some o) (hgd : o.guard = none)
    (hv : (execOp a.eval o).run P w = .ok (.value v) w') (hS : S w') (h : wpAnyH P .any ops Q S fuel (listed.setIfInBounds i true) (a.put o.dst v) w') : wpAnyH P .any ops Q S (fuel + 1) listed a w := by
  refine wpAnyH_all hr (by simp) ?_
  intro j hj
  simp at hj
  subst hj
  unfold wpOp
  have hw : Region.wanted o (yielded ops a.tmps) = true := by simp [Region.wanted, hgd]
  simp only [hi, hw, if_true]
  refine .inl ?_
  unfold Oper.wp
  rw [hv]
  exact ⟨hS, h⟩
/-- An operation that yields its value in whatever world, in a head that leans on S. -/
theorem wpQuiet_pure {Q : Act → Prop} {o : Oper} {rest : List Oper} {a : Act} (hp : plainB o.op = true) (h : wpQuiet P ops (fun _ => True) (fun a' => wpQuiet P ops S Q rest a') [o] a) : wpQuiet P ops S Q (o :: rest) a := by
  simp only [wpQuiet] at h ⊢
  split
  · rename_i hw
    simp only [hw, if_true] at h
    obtain ⟨v, hv, hn⟩ := h
    refine ⟨v, fun w _ => ?_, hn⟩
    have h1 := hv w trivial
    unfold Oper.quietAt at *
    cases hr1 : (execOp a.eval o).run P w with
    | ok n w2 =>
      obtain ⟨u, rfl⟩ := plain_value hp hr1
      rw [hr1] at h1
      exact h1
    | halt x w2 =>
      rw [hr1] at h1
      exact h1
  · rename_i hw
    simp only [hw] at h
    exact h
end
end Go.Proofs.YtlhohmlpcgbliaaDoor
