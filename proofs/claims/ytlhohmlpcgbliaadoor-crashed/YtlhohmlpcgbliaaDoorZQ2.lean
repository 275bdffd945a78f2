import Derived.Test.YtlhohmlpcgbliaaDoorZH6
import Derived.Test.YtlhohmlpcgbliaaDoorZR25
import Derived.Test.YtlhohmlpcgbliaaDoorZF2
namespace Go.Proofs.YtlhohmlpcgbliaaDoor
set_option maxRecDepth 100000
open Go.RowKit

/-- Two disks without a script that have the same sectors and the same loose writes. -/
structure Same (D R : Dk) : Prop where
  nf : D.nf
  nf' : R.nf
  las : D.las = R.las
  fre : D.fre = R.fre
theorem Same.refl {D : Dk} (h : D.nf) : Same D D := ⟨h, h, rfl, rfl⟩
theorem Same.symm {D R : Dk} (h : Same D R) : Same R D := ⟨h.nf', h.nf, h.las.symm, h.fre.symm⟩
theorem Same.trans {D R T : Dk} (h : Same D R) (k : Same R T) : Same D T := ⟨h.nf, k.nf', h.las.trans k.las, h.fre.trans k.fre⟩
theorem Same.read {D R : Dk} (h : Same D R) (i : Nat) : D.read i = R.read i := by
  unfold Dk.read
  rw [h.las, h.fre]
theorem Same.slot {D R : Dk} (h : Same D R) (s e i : Nat) : D.slot s e i = R.slot s e i := by
  unfold Dk.slot
  rw [h.read]
theorem Dk.nf.write_eq {D : Dk} (h : D.nf) (i : Nat) (s : List Nat) : D.write i s = { D.tick with fre := D.fre ++ [(i, s)] } := by
  unfold Dk.write
  rw [if_pos h.goes, h.act]; rfl
theorem Dk.nf.flush_eq {D : Dk} (h : D.nf) : D.flush = { D.tick with las := putL D.fre D.las, fre := [] } := by
  unfold Dk.flush
  rw [if_pos h.goes, h.act]; rfl
theorem Same.write {D R : Dk} (h : Same D R) (i : Nat) (s : List Nat) : Same (D.write i s) (R.write i s) := by
  refine ⟨(h.nf.write i s).1, (h.nf'.write i s).1, ?_, ?_⟩
  · rw [(h.nf.write i s).2.2, (h.nf'.write i s).2.2, h.las]
  · rw [h.nf.write_eq, h.nf'.write_eq]
    show D.fre ++ _ = R.fre ++ _
    rw [h.fre]
theorem Same.flush {D R : Dk} (h : Same D R) : Same D.flush R.flush := by
  refine ⟨h.nf.flush.1, h.nf'.flush.1, ?_, by rw [h.nf.flush.2, h.nf'.flush.2]⟩
  rw [h.nf.flush_eq, h.nf'.flush_eq]
  show putL D.fre D.las = putL R.fre R.las
  rw [h.las, h.fre]
theorem Same.wrF {start each : Nat} : ∀ (f : Nat) {D R : Dk} (_ : Same D R) (i : Nat) (cs : List (List Nat)), Same (wrF start each f D i cs) (wrF start each f R i cs) := by
  intro f
  induction f with
  | zero => intro D R h i cs; exact h
  | succ f ih =>
    intro D R h i cs
    rw [Go.Proofs.YtlhohmlpcgbliaaDoor.wrF, Go.Proofs.YtlhohmlpcgbliaaDoor.wrF]
    split
    · exact h
    · rw [h.read]
      exact ih (h.write _ _) _ _
theorem Same.rowWrite {D R : Dk} (h : Same D R) (start each i : Nat) (cs : List (List Nat)) : Same (D.rowWrite start each i cs) (R.rowWrite start each i cs) := Same.wrF _ h _ _
theorem Same.hashB {D R : Dk} (h : Same D R) (l i : Nat) : D.hashB l i = R.hashB l i := by
  cases l with
  | zero => rw [Dk.hashB, Dk.hashB, h.slot]
  | succ l =>
    rw [Dk.hashB, Dk.hashB]
    congr 1
    refine List.map_congr_left fun j _ => ?_
    rw [h.slot]
theorem Same.hashes {D R : Dk} (h : Same D R) (l a b : Nat) : D.hashes l a b = R.hashes l a b := by
  unfold Dk.hashes
  exact List.map_congr_left fun j _ => h.hashB _ _
theorem Same.grwF (f : Nat) : ∀ {D R : Dk} (_ : Same D R) (first n l size : Nat), Same (grwF f D first n l size) (grwF f R first n l size) := by
  induction f with
  | zero => intro D R h _ _ _ _; exact h
  | succ f ih =>
    intro D R h first n l size
    rw [Go.Proofs.YtlhohmlpcgbliaaDoor.grwF, Go.Proofs.YtlhohmlpcgbliaaDoor.grwF]
    split
    · rw [h.hashes]
      exact ih (h.rowWrite _ _ _ _) _ _ _ _
    · exact h
theorem Same.grow {D R : Dk} (h : Same D R) (first n : Nat) : Same (D.grow first n) (R.grow first n) := Same.grwF _ h _ _ _ _
theorem Same.spnF (f : Nat) {D R : Dk} (h : Same D R) : ∀ (a n : Nat), spnF f D a n = spnF f R a n := by
  induction f with
  | zero => intro a n; rfl
  | succ f ih =>
    intro a n
    rw [Go.Proofs.YtlhohmlpcgbliaaDoor.spnF, Go.Proofs.YtlhohmlpcgbliaaDoor.spnF, h.slot, ih, ih]
theorem Same.span {D R : Dk} (h : Same D R) (a n : Nat) : D.span a n = R.span a n := Same.spnF _ h _ _
theorem Same.ckN {D R : Dk} (h : Same D R) : D.ckN = R.ckN := by unfold Dk.ckN; rw [h.read]
theorem Same.jwrite {D R : Dk} (h : Same D R) (f : Nat) (ss : List ByteArray) : Same (D.jwrite f ss) (R.jwrite f ss) := by
  unfold Dk.jwrite
  exact ((h.rowWrite _ _ _ _).flush.write _ _).flush
theorem Same.rmJ {D R : Dk} (h : Same D R) : Same D.rmJ R.rmJ := (h.write _ _).flush
theorem Same.put {D R : Dk} (h : Same D R) (f : Nat) (ss : List ByteArray) : Same (D.put f ss) (R.put f ss) := ((h.rowWrite _ _ _ _).grow _ _).flush
theorem Same.ckp {D R : Dk} (h : Same D R) (n : Nat) : Same (D.ckp n) (R.ckp n) := by
  unfold Dk.ckp
  rw [h.span]
  exact (h.write _ _).flush
theorem Same.endJ {D R : Dk} (h : Same D R) (f : Nat) (ss : List ByteArray) : Same (D.endJ f ss) (R.endJ f ss) := by
  unfold Dk.endJ
  rw [h.ckN]
  split
  · exact ((h.put _ _).ckp _).rmJ
  · exact h.rmJ
theorem Same.add {D R : Dk} (h : Same D R) (ss : List ByteArray) : Same (D.add ss) (R.add ss) := by
  unfold Dk.add
  rw [h.ckN]
  exact (h.jwrite _ _).endJ _ _
theorem Same.holds {D R : Dk} {E : List ByteArray} (h : Same D R) (hok : R.ok) (H : Holds D E) : Holds R E :=
  ⟨h.nf', hok, h.fre ▸ H.fre, H.len, H.siz, (h.read 0).symm.trans H.ck, (h.read 1).symm.trans H.jn, fun i s hs => (h.slot 6 3 i) ▸ H.ent i s hs, fun k i hi => (h.slot (tileAt k).1 4 i) ▸ H.til k i hi⟩
/-- A copy of what lasts, when nothing is loose. -/
theorem Same.of {D : Dk} (hnf : D.nf) (hok : D.ok) (hf : D.fre = []) : Same D (Dk.of D.las.flatten) := by
  rw [Dk.of_flat D hok]
  exact ⟨hnf, ⟨rfl, rfl⟩, rfl, hf⟩
theorem Holds.again {D : Dk} {E : List ByteArray} (H : Holds D E) : Holds (Dk.of D.las.flatten) E :=
  (Same.of H.nf H.ok H.fre).holds (Dk.of_ok H.ok.flat (flat_byt H.ok)) H

/-- The disk of a log that grows by groups: so many at a time, as the k-th tells. -/
def groF (g : Nat → Nat) : Nat → Nat → Dk → List ByteArray → Dk
  | 0, _, D, _ => D
  | f + 1, k, D, l => if l.length = 0 then D else groF g f (k + 1) (D.add (l.take (min (g k) l.length))) (l.drop (min (g k) l.length))
theorem groF_nil (g : Nat → Nat) (f k : Nat) (D : Dk) : groF g f k D [] = D := by
  cases f <;> rfl
theorem groF_step {g : Nat → Nat} {ts : List ByteArray} {D : Dk} {d k n : Nat} (hk : k ≤ d) (hd : d < ts.length) (hn : n = min (g k) (ts.length - d)) : groF g (ts.length - k) k D (ts.drop d) = groF g (ts.length - (k + 1)) (k + 1) (D.add ((ts.drop d).take n)) (ts.drop (d + n)) := by
  obtain ⟨m, hm⟩ : ∃ m, ts.length - k = m + 1 := ⟨ts.length - k - 1, by omega⟩
  rw [hm, groF, List.length_drop, if_neg (by omega), ← hn, List.drop_drop, show ts.length - (k + 1) = m by omega]

/-- The tiles of n entries hold what lies below them says. -/
def Dk.tilesOk (D : Dk) (n : Nat) : Prop := ∀ l, 4 ^ l ≤ n → ∀ i, i < n / 4 ^ l → D.hashF l i = true ∧ strOf (D.slot (tileAt l).1 4 i) = D.hashB l i
theorem Holds.tilesOk {D : Dk} {E : List ByteArray} (h : Holds D E) : D.tilesOk E.length := by
  intro l _ i hi
  have hp : 0 < 4 ^ l := Nat.pow_pos (by omega)
  have h1 : (i + 1) * 4 ^ l ≤ E.length := (Nat.le_div_iff_mul_le hp).1 hi
  refine ⟨?_, ?_⟩
  · cases l with
    | zero =>
      rw [Dk.hashF, h.ent i _ (List.getElem?_eq_getElem (by simpa using hi))]
      rfl
    | succ l => rfl
  · rw [h.til l i h1, hashB_mth (fun i s hs _ => h.ent i s hs) (Nat.le_refl _) l i (fun k _ => h.til k) h1, strOf_bts]
end Go.Proofs.YtlhohmlpcgbliaaDoor
namespace Go.Proofs.YtlhohmlpcgbliaaDoor
set_option maxRecDepth 100000
open Go.RowKit

/-- One act: a sector that is written, or a flush. -/
def Dk.doA (D : Dk) : Option (Nat × List Nat) → Dk
  | some x => D.write x.1 x.2
  | none => D.flush
def Dk.run (D : Dk) : List (Option (Nat × List Nat)) → Dk
  | [] => D
  | a :: r => (D.doA a).run r
theorem Dk.run_append (xs bs : List (Option (Nat × List Nat))) : ∀ D : Dk, D.run (xs ++ bs) = (D.run xs).run bs := by
  induction xs with
  | nil => intro D; rfl
  | cons a r ih => intro D; exact ih _
theorem down_act {D : Dk} (h : D.failed = true) : D.act = D ∧ D.goes = false := by
  have ht : D.trip = D := by simp [Dk.trip, Dk.trips, h]
  exact ⟨by simp [Dk.act, ht, h], by simp [Dk.goes, ht, h]⟩
theorem down_write {D : Dk} (h : D.failed = true) (i : Nat) (s : List Nat) : D.write i s = D := by
  unfold Dk.write
  rw [if_neg (by rw [(down_act h).2]; simp), (down_act h).1]
theorem down_flush {D : Dk} (h : D.failed = true) : D.flush = D := by
  unfold Dk.flush
  rw [if_neg (by rw [(down_act h).2]; simp), (down_act h).1]
theorem down_doA {D : Dk} (h : D.failed = true) (a : Option (Nat × List Nat)) : D.doA a = D := by
  cases a with
  | none => exact down_flush h
  | some x => exact down_write h _ _
theorem down_run {D : Dk} (h : D.failed = true) (xs : List (Option (Nat × List Nat))) : D.run xs = D := by
  induction xs with
  | nil => rfl
  | cons a r ih => rw [Dk.run, down_doA h, ih]
theorem down_wrF {D : Dk} (h : D.failed = true) (start each : Nat) : ∀ (f i : Nat) (cs : List (List Nat)), wrF start each f D i cs = D := by
  intro f
  induction f with
  | zero => intro i cs; rfl
  | succ f ih =>
    intro i cs
    rw [wrF]
    split
    · rfl
    · rw [down_write h, ih]
theorem down_rowWrite {D : Dk} (h : D.failed = true) (start each i : Nat) (cs : List (List Nat)) : D.rowWrite start each i cs = D := down_wrF h _ _ _ _ _
theorem down_grwF {D : Dk} (h : D.failed = true) : ∀ (f first n l size : Nat), grwF f D first n l size = D := by
  intro f
  induction f with
  | zero => intro _ _ _ _; rfl
  | succ f ih =>
    intro first n l size
    rw [grwF]
    split
    · rw [down_rowWrite h, ih]
    · rfl
theorem down_jwrite {D : Dk} (h : D.failed = true) (f : Nat) (ss : List ByteArray) : D.jwrite f ss = D := by
  unfold Dk.jwrite
  rw [down_rowWrite h, down_flush h, down_write h, down_flush h]
theorem down_rmJ {D : Dk} (h : D.failed = true) : D.rmJ = D := by
  unfold Dk.rmJ
  rw [down_write h, down_flush h]
theorem down_put {D : Dk} (h : D.failed = true) (f : Nat) (ss : List ByteArray) : D.put f ss = D := by
  unfold Dk.put Dk.grow
  rw [down_rowWrite h, down_grwF h, down_flush h]
theorem down_ckp {D : Dk} (h : D.failed = true) (n : Nat) : D.ckp n = D := by
  unfold Dk.ckp
  rw [down_write h, down_flush h]
theorem down_endJ {D : Dk} (h : D.failed = true) (f : Nat) (ss : List ByteArray) : D.endJ f ss = D := by
  unfold Dk.endJ
  split
  · rw [down_put h, down_ckp h, down_rmJ h]
  · exact down_rmJ h
theorem down_add {D : Dk} (h : D.failed = true) (ss : List ByteArray) : D.add ss = D := by
  unfold Dk.add
  rw [down_jwrite h, down_endJ h]

/-- The same sectors and loose writes. -/
structure Like (D R : Dk) : Prop where
  las : D.las = R.las
  fre : D.fre = R.fre
theorem Like.read {D R : Dk} (h : Like D R) (i : Nat) : D.read i = R.read i := by
  unfold Dk.read
  rw [h.las, h.fre]
theorem Like.slot {D R : Dk} (h : Like D R) (s e i : Nat) : D.slot s e i = R.slot s e i := by
  unfold Dk.slot
  rw [h.read]
theorem Like.hashB {D R : Dk} (h : Like D R) (l i : Nat) : D.hashB l i = R.hashB l i := by
  cases l with
  | zero => rw [Dk.hashB, Dk.hashB, h.slot]
  | succ l =>
    rw [Dk.hashB, Dk.hashB]
    congr 1
    refine List.map_congr_left fun j _ => ?_
    rw [h.slot]
theorem Like.hashes {D R : Dk} (h : Like D R) (l a b : Nat) : D.hashes l a b = R.hashes l a b := by
  unfold Dk.hashes
  exact List.map_congr_left fun j _ => h.hashB _ _
theorem Like.spnF (f : Nat) {D R : Dk} (h : Like D R) : ∀ (a n : Nat), spnF f D a n = spnF f R a n := by
  induction f with
  | zero => intro a n; rfl
  | succ f ih =>
    intro a n
    rw [Go.Proofs.YtlhohmlpcgbliaaDoor.spnF, Go.Proofs.YtlhohmlpcgbliaaDoor.spnF, h.slot, ih, ih]
theorem Like.span {D R : Dk} (h : Like D R) (a n : Nat) : D.span a n = R.span a n := Like.spnF _ h _ _
theorem Like.ckN {D R : Dk} (h : Like D R) : D.ckN = R.ckN := by unfold Dk.ckN; rw [h.read]
theorem Dk.nf.doA {R : Dk} (h : R.nf) (a : Option (Nat × List Nat)) : (R.doA a).nf := by
  cases a with
  | none => exact h.flush.1
  | some x => exact (h.write x.1 x.2).1
theorem Dk.nf.run {R : Dk} (h : R.nf) (xs : List (Option (Nat × List Nat))) : (R.run xs).nf := by
  induction xs generalizing R with
  | nil => exact h
  | cons a r ih => exact ih (h.doA a)
theorem goes_act {D : Dk} (hg : D.goes = true) : D.act = D.tick := by
  unfold Dk.goes at hg
  have ht : D.trip = D := by
    unfold Dk.trip at *
    split
    · rename_i h; rw [if_pos h] at hg; simp [Dk.fail] at hg
    · rfl
  unfold Dk.act
  rw [if_neg (by intro e; rw [e] at hg; simp at hg), ht]
theorem stops_act {D : Dk} (hg : D.goes = false) : D.act.failed = true := by
  unfold Dk.goes at hg
  unfold Dk.act
  have h : D.trip.failed = true := by simpa using hg
  rw [if_pos h]
  exact h
theorem like_doA {D R : Dk} (hR : R.nf) (h : Like D R) (a : Option (Nat × List Nat)) : (D.doA a).failed = true ∨ Like (D.doA a) (R.doA a) := by
  by_cases hg : D.goes = true
  · right
    cases a with
    | none =>
      show Like D.flush R.flush
      rw [hR.flush_eq, Dk.flush, if_pos hg, goes_act hg]
      exact ⟨by show putL D.fre D.las = putL R.fre R.las; rw [h.las, h.fre], rfl⟩
    | some x =>
      show Like (D.write x.1 x.2) (R.write x.1 x.2)
      rw [hR.write_eq, Dk.write, if_pos hg, goes_act hg]
      exact ⟨h.las, by show D.fre ++ _ = R.fre ++ _; rw [h.fre]⟩
  · left
    have hg' : D.goes = false := by simpa using hg
    cases a with
    | none =>
      show D.flush.failed = true
      rw [Dk.flush, if_neg hg]
      exact stops_act hg'
    | some x =>
      show (D.write x.1 x.2).failed = true
      rw [Dk.write, if_neg hg]
      exact stops_act hg'
theorem like_run (xs : List (Option (Nat × List Nat))) : ∀ {D R : Dk}, R.nf → (D.failed = true ∨ Like D R) → (D.run xs).failed = true ∨ Like (D.run xs) (R.run xs) := by
  induction xs with
  | nil => intro D R _ h; exact h
  | cons a r ih =>
    intro D R hR h
    refine ih (hR.doA a) ?_
    rcases h with h | h
    · left; rw [down_doA h]; exact h
    · exact like_doA hR h a
/-- What f does to every disk that is like R, or has failed, are these acts. -/
def Does (f : Dk → Dk) (R : Dk) (xs : List (Option (Nat × List Nat))) : Prop := ∀ D, (D.failed = true ∨ Like D R) → f D = D.run xs
theorem Does.comp {f g : Dk → Dk} {R : Dk} {xs bs : List (Option (Nat × List Nat))} (hR : R.nf) (h1 : Does f R xs) (h2 : Does g (R.run xs) bs) : Does (fun D => g (f D)) R (xs ++ bs) := by
  intro D h
  show g (f D) = _
  rw [h1 D h, Dk.run_append]
  exact h2 _ (like_run xs hR h)
theorem Does.at {f : Dk → Dk} {R : Dk} {xs : List (Option (Nat × List Nat))} (h : Does f R xs) : f R = R.run xs := h R (.inr ⟨rfl, rfl⟩)
theorem does_one (R : Dk) (a : Option (Nat × List Nat)) : Does (fun D => D.doA a) R [a] := fun _ _ => rfl

def wrA (start each : Nat) : Nat → Dk → Nat → List (List Nat) → List (Option (Nat × List Nat))
  | 0, _, _, _ => []
  | f + 1, R, i, cs => if cs.length = 0 then [] else
    some (start + i / each, fillS each (R.read (start + i / each)) i (cs.take (takes each i cs.length))) ::
    wrA start each f (R.write (start + i / each) (fillS each (R.read (start + i / each)) i (cs.take (takes each i cs.length)))) (i + takes each i cs.length) (cs.drop (takes each i cs.length))
theorem does_wrF (start each : Nat) : ∀ (f : Nat) (R : Dk) (i : Nat) (cs : List (List Nat)), R.nf → Does (fun D => wrF start each f D i cs) R (wrA start each f R i cs) := by
  intro f
  induction f with
  | zero => intro R i cs _ D _; rfl
  | succ f ih =>
    intro R i cs hR D h
    show wrF start each (f + 1) D i cs = _
    rcases h with h | h
    · rw [down_wrF h, down_run h]
    · rw [wrF, wrA]
      split
      · rfl
      · rw [h.read]
        show _ = (D.write _ _).run _
        exact ih _ _ _ ((hR.write _ _).1) _ (like_doA hR h (some (_, _)))
theorem does_rowWrite {R : Dk} (hR : R.nf) (start each i : Nat) (cs : List (List Nat)) : Does (fun D => D.rowWrite start each i cs) R (wrA start each cs.length R i cs) := does_wrF _ _ _ _ _ _ hR
def grA : Nat → Dk → Nat → Nat → Nat → Nat → List (Option (Nat × List Nat))
  | 0, _, _, _, _, _ => []
  | f + 1, R, first, n, l, size => if first / size < n / size then
      wrA (tileAt l).1 4 ((R.hashes l (first / size) (n / size)).map bts).length R (first / size) ((R.hashes l (first / size) (n / size)).map bts) ++
        grA f (R.rowWrite (tileAt l).1 4 (first / size) ((R.hashes l (first / size) (n / size)).map bts)) first n (l + 1) (size * 4)
    else []
theorem does_grwF : ∀ (f : Nat) (R : Dk) (first n l size : Nat), R.nf → Does (fun D => grwF f D first n l size) R (grA f R first n l size) := by
  intro f
  induction f with
  | zero => intro R _ _ _ _ _ D _; rfl
  | succ f ih =>
    intro R first n l size hR D h
    show grwF (f + 1) D first n l size = _
    rcases h with h | h
    · rw [down_grwF h, down_run h]
    · rw [grwF, grA]
      split
      · rw [h.hashes, Dk.run_append]
        have h1 := does_rowWrite hR (tileAt l).1 4 (first / size) ((R.hashes l (first / size) (n / size)).map bts)
        have h2 := h1 D (.inr h)
        have h3 := h1.at
        have h4 := like_run (wrA (tileAt l).1 4 ((R.hashes l (first / size) (n / size)).map bts).length R (first / size) ((R.hashes l (first / size) (n / size)).map bts)) hR (.inr h)
        simp only at h2 h3
        rw [h2, h3]
        exact ih _ _ _ _ _ (hR.run _) _ h4
      · rfl
/-- The acts of adding. -/
def jwA (R : Dk) (f : Nat) (ss : List ByteArray) : List (Option (Nat × List Nat)) := wrA 2 3 (packs ss).length R 0 (packs ss) ++ [none, some (1, hdSec f ss.length), none]
def ptA (R : Dk) (f : Nat) (ss : List ByteArray) : List (Option (Nat × List Nat)) := wrA 6 3 (packs ss).length R f (packs ss) ++ (grA (f + ss.length) (R.rowWrite 6 3 f (packs ss)) f (f + ss.length) 0 1 ++ [none])
def ckA (R : Dk) (n : Nat) : List (Option (Nat × List Nat)) := [some (0, ckSec n (bts (R.span 0 n))), none]
def rmA : List (Option (Nat × List Nat)) := [some (1, zer), none]
def enA (R : Dk) (f : Nat) (ss : List ByteArray) : List (Option (Nat × List Nat)) := if R.ckN = f then ptA R f ss ++ (ckA (R.put f ss) (f + ss.length) ++ rmA) else rmA
def adA (R : Dk) (ss : List ByteArray) : List (Option (Nat × List Nat)) := jwA R R.ckN ss ++ enA (R.jwrite R.ckN ss) R.ckN ss
theorem does_jwrite {R : Dk} (hR : R.nf) (f : Nat) (ss : List ByteArray) : Does (fun D => D.jwrite f ss) R (jwA R f ss) := by
  intro D h
  show ((D.rowWrite 2 3 0 (packs ss)).flush.write 1 (hdSec f ss.length)).flush = _
  have h1 := does_rowWrite hR 2 3 0 (packs ss) D h
  simp only at h1
  rw [jwA, Dk.run_append, h1]
  rfl
theorem does_put {R : Dk} (hR : R.nf) (f : Nat) (ss : List ByteArray) : Does (fun D => D.put f ss) R (ptA R f ss) := by
  intro D h
  show (grwF (f + ss.length) (D.rowWrite 6 3 f (packs ss)) f (f + ss.length) 0 1).flush = _
  have h1 := does_rowWrite hR 6 3 f (packs ss)
  have h2 := h1 D h
  have h3 := h1.at
  have h4 := like_run (wrA 6 3 (packs ss).length R f (packs ss)) hR h
  simp only at h2 h3
  rw [ptA, Dk.run_append, Dk.run_append, h2, h3]
  have h5 := does_grwF (f + ss.length) _ f (f + ss.length) 0 1 (hR.run (wrA 6 3 (packs ss).length R f (packs ss))) _ h4
  simp only at h5
  rw [h5]
  rfl
theorem does_ckp {R : Dk} (n : Nat) : Does (fun D => D.ckp n) R (ckA R n) := by
  intro D h
  show D.ckp n = _
  rcases h with h | h
  · rw [down_ckp h, down_run h]
  · unfold Dk.ckp ckA
    rw [h.span]
    rfl
theorem does_rmJ (R : Dk) : Does (fun D => D.rmJ) R rmA := fun _ _ => rfl
theorem does_endJ {R : Dk} (hR : R.nf) (f : Nat) (ss : List ByteArray) : Does (fun D => D.endJ f ss) R (enA R f ss) := by
  intro D h
  show D.endJ f ss = _
  rcases h with h | h
  · rw [down_endJ h, down_run h]
  · unfold Dk.endJ enA
    rw [h.ckN]
    split
    · have h1 := does_put hR f ss
      have h2 : R.put f ss = R.run (ptA R f ss) := h1.at
      have h3 := (h1.comp hR (h2 ▸ (does_ckp (R := R.put f ss) (f + ss.length)))).comp hR (does_rmJ _) D (.inr h)
      simp only at h3
      rw [h3, List.append_assoc, h2]
    · rfl
theorem does_add {R : Dk} (hR : R.nf) (ss : List ByteArray) : Does (fun D => D.add ss) R (adA R ss) := by
  intro D h
  show D.add ss = _
  rcases h with h | h
  · rw [down_add h, down_run h]
  · unfold Dk.add adA
    rw [h.ckN]
    have h1 := does_jwrite hR R.ckN ss
    have h2 : R.jwrite R.ckN ss = R.run (jwA R R.ckN ss) := h1.at
    have h3 := does_endJ (hR.run (jwA R R.ckN ss)) R.ckN ss
    rw [← h2] at h3
    have h4 := (h1.comp hR (h2 ▸ h3)) D (.inr h)
    simp only at h4
    rw [h2]
    exact h4

/-- A disk with a script, over these acts. -/
theorem run_in : ∀ (xs : List (Option (Nat × List Nat))) (D R : Dk), R.nf → Like D R → D.failed = false → D.set = true → (xs.length : Int) ≤ D.left → D.left ≤ 9223372036854775807 → 0 ≤ D.acts → D.acts + xs.length ≤ 4611686018427387904 →
    (D.run xs).failed = false ∧ (D.run xs).set = true ∧ (D.run xs).left = D.left - xs.length ∧ (D.run xs).acts = D.acts + xs.length ∧ (D.run xs).keep = D.keep ∧ Like (D.run xs) (R.run xs) := by
  intro xs
  induction xs with
  | nil => intro D R _ h hf hs _ _ _ _; exact ⟨hf, hs, by simp [Dk.run], by simp [Dk.run], rfl, h⟩
  | cons a r ih =>
    intro D R hR h hf hs hl hl2 ha0 ha
    rw [List.length_cons] at hl ha
    have htr : D.trip = D := by
      unfold Dk.trip Dk.trips
      rw [if_neg]
      simp only [hs, hf, Bool.true_and, Bool.not_false, Bool.and_true, beq_iff_eq]
      omega
    have hg : D.goes = true := by unfold Dk.goes; rw [htr, hf]; rfl
    have hact := goes_act hg
    have hw1 : wrap64 (D.left - 1) = D.left - 1 := by unfold wrap64; omega
    have hw2 : wrap64 (D.acts + 1) = D.acts + 1 := by unfold wrap64; omega
    have hd : (D.doA a).failed = false ∧ (D.doA a).set = true ∧ (D.doA a).left = D.left - 1 ∧ (D.doA a).acts = D.acts + 1 ∧ (D.doA a).keep = D.keep := by
      cases a with
      | none =>
        show D.flush.failed = _ ∧ D.flush.set = _ ∧ D.flush.left = _ ∧ D.flush.acts = _ ∧ D.flush.keep = _
        rw [Dk.flush, if_pos hg, hact]
        exact ⟨hf, hs, hw1, hw2, rfl⟩
      | some x =>
        show (D.write _ _).failed = _ ∧ (D.write _ _).set = _ ∧ (D.write _ _).left = _ ∧ (D.write _ _).acts = _ ∧ (D.write _ _).keep = _
        rw [Dk.write, if_pos hg, hact]
        exact ⟨hf, hs, hw1, hw2, rfl⟩
    obtain ⟨d1, d2, d3, d4, d5⟩ := hd
    have hlk : Like (D.doA a) (R.doA a) := by
      rcases like_doA hR h a with h1 | h1
      · rw [d1] at h1; simp at h1
      · exact h1
    have := ih (D.doA a) (R.doA a) (hR.doA a) hlk d1 d2 (by rw [d3]; omega) (by rw [d3]; omega) (by rw [d4]; omega) (by rw [d4]; omega)
    rw [d3, d4, d5] at this
    obtain ⟨e1, e2, e3, e4, e5, e6⟩ := this
    refine ⟨e1, e2, ?_, ?_, e5, e6⟩
    · show ((D.doA a).run r).left = _
      rw [e3, List.length_cons]; omega
    · show ((D.doA a).run r).acts = _
      rw [e4, List.length_cons]; omega
theorem run_out (xs : List (Option (Nat × List Nat))) (D R : Dk) (hR : R.nf) (h : Like D R) (hf : D.failed = false) (hs : D.set = true) (t : Nat) (ht : D.left = t) (hta : t < xs.length) (ht2 : (t : Int) ≤ 9223372036854775807) (ha0 : 0 ≤ D.acts) (ha : D.acts + xs.length ≤ 4611686018427387904) :
    (D.run xs).failed = true ∧ (D.run xs).acts = D.acts + t ∧ (D.run xs).fre = [] ∧ (D.run xs).las = failL D.keep 0 (R.run (xs.take t)).fre (R.run (xs.take t)).las := by
  have h1 := run_in (xs.take t) D R hR h hf hs (by rw [ht, List.length_take]; omega) (by omega) ha0 (by rw [List.length_take]; omega)
  rw [List.length_take, Nat.min_eq_left (by omega)] at h1
  obtain ⟨e1, e2, e3, e4, e5, e6⟩ := h1
  have hsp : xs = xs.take t ++ (xs[t] :: xs.drop (t + 1)) := by rw [← List.drop_eq_getElem_cons hta, List.take_append_drop]
  rw [hsp, Dk.run_append, Dk.run]
  have hk : (xs.take t ++ xs[t] :: xs.drop (t + 1)).take t = xs.take t := by rw [← hsp]
  rw [hk]
  generalize D.run (xs.take t) = T at *
  generalize R.run (xs.take t) = S at *
  have htp : T.trips = true := by
    unfold Dk.trips
    rw [e1, e2, e3, ht]
    simp
  have htr : T.trip = T.fail := by unfold Dk.trip; rw [if_pos htp]
  have hac : T.act = T.fail := by unfold Dk.act; rw [htr]; rfl
  have hgo : T.goes = false := by unfold Dk.goes; rw [htr]; rfl
  have hd : T.doA xs[t] = T.fail := by
    cases hq : xs[t] with
    | none => show T.flush = _; rw [Dk.flush, if_neg (by rw [hgo]; simp), hac]
    | some x => show T.write _ _ = _; rw [Dk.write, if_neg (by rw [hgo]; simp), hac]
  rw [hd, down_run (by rfl)]
  refine ⟨rfl, e4, rfl, ?_⟩
  show failL T.keep 0 T.fre T.las = _
  rw [e5, e6.fre, e6.las]
end Go.Proofs.YtlhohmlpcgbliaaDoor
namespace Go.Proofs.YtlhohmlpcgbliaaDoor
set_option maxRecDepth 100000

/-- What is met on the way up: the hash of the first ones, and of all; none where the list is too short or too long. -/
def cl : Nat → ByteArray → ByteArray → Nat → Nat → List ByteArray → Option (ByteArray × ByteArray)
  | 0, p, w, _, last, l => if last = 0 ∧ l = [] then some (p, w) else none
  | f + 1, p, w, i, last, l =>
    if last = 0 then (if l = [] then some (p, w) else none)
    else if i % 2 = 1 then (match l with
      | [] => none
      | x :: r => cl f (nodeS x p) (nodeS x w) (i / 2) (last / 2) r)
    else if i < last then (match l with
      | [] => none
      | x :: r => cl f p (nodeS w x) (i / 2) (last / 2) r)
    else cl f p w (i / 2) (last / 2) l

theorem cl_zero (f : Nat) (p w : ByteArray) (i : Nat) (l : List ByteArray) : cl f p w i 0 l = if l = [] then some (p, w) else none := by
  cases f <;> simp [cl]

/-- More fuel than bits is enough. -/
theorem cl_fuel : ∀ (f g : Nat) (p w : ByteArray) (i last : Nat) (l : List ByteArray), last < 2 ^ f → last < 2 ^ g → cl f p w i last l = cl g p w i last l := by
  intro f
  induction f with
  | zero =>
    intro g p w i last l h1 _
    obtain rfl : last = 0 := by simpa using h1
    rw [cl_zero, cl_zero]
  | succ f ih =>
    intro g p w i last l h1 h2
    cases g with
    | zero =>
      obtain rfl : last = 0 := by simpa using h2
      rw [cl_zero, cl_zero]
    | succ g =>
      have h3 : last / 2 < 2 ^ f := by rw [Nat.pow_succ] at h1; omega
      have h4 : last / 2 < 2 ^ g := by rw [Nat.pow_succ] at h2; omega
      simp only [cl]
      cases l with
      | nil => simp only [ih g p w (i / 2) (last / 2) [] h3 h4]
      | cons x r => simp only [ih g _ _ (i / 2) (last / 2) _ h3 h4]

/-- Nothing is left of the list, but the way goes on. -/
theorem cl_short : ∀ (f : Nat) (p w : ByteArray) (i last : Nat), i ≤ last → 0 < last → last < 2 ^ f → cl f p w i last [] = none := by
  intro f
  induction f with
  | zero => intro p w i last _ h0 h1; simp at h1; omega
  | succ f ih =>
    intro p w i last h h0 h1
    rw [Nat.pow_succ] at h1
    simp only [cl]
    rw [if_neg (by omega)]
    by_cases h2 : i % 2 = 1
    · rw [if_pos h2]
    · rw [if_neg h2]
      by_cases h3 : i < last
      · rw [if_pos h3]
      · rw [if_neg h3]
        exact ih p w (i / 2) (last / 2) (by omega) (by omega) (by omega)

/-- Up the left half, and then the right half's hash. -/
theorem cl_left : ∀ (h f : Nat) (p w : ByteArray) (i last : Nat) (l : List ByteArray) (x : ByteArray), i < 2 ^ h → 2 ^ h ≤ last → last < 2 * 2 ^ h → h < f →
    cl f p w i last (l ++ [x]) = (cl f p w i (2 ^ h - 1) l).map fun r => (r.1, nodeS r.2 x) := by
  intro h
  induction h with
  | zero =>
    intro f p w i last l x h1 h2 h3 hf
    obtain ⟨f, rfl⟩ : ∃ g, f = g + 1 := ⟨f - 1, by omega⟩
    have e1 : i = 0 := by omega
    have e2 : last = 1 := by omega
    subst e1; subst e2
    simp only [cl]
    cases l with
    | nil => simp [cl_zero]
    | cons y r => simp [cl_zero]
  | succ h ih =>
    intro f p w i last l x h1 h2 h3 hf
    obtain ⟨f, rfl⟩ : ∃ g, f = g + 1 := ⟨f - 1, by omega⟩
    have hp := Nat.two_pow_pos h
    rw [Nat.pow_succ] at h1 h2 h3 ⊢
    have hfp : 2 ^ h < 2 ^ f := Nat.pow_lt_pow_right (by omega) (by omega)
    have hlf : last / 2 < 2 ^ f := by
      have : 2 ^ (h + 1) ≤ 2 ^ f := Nat.pow_le_pow_right (by omega) (by omega)
      rw [Nat.pow_succ] at this; omega
    have e3 : (2 ^ h * 2 - 1) / 2 = 2 ^ h - 1 := by omega
    simp only [cl]
    rw [if_neg (show ¬ last = 0 by omega), if_neg (show ¬ 2 ^ h * 2 - 1 = 0 by omega), e3]
    by_cases h4 : i % 2 = 1
    · rw [if_pos h4, if_pos h4]
      cases l with
      | nil => simpa using cl_short f _ _ (i / 2) (last / 2) (by omega) (by omega) hlf
      | cons y r => simpa using ih f _ _ (i / 2) (last / 2) r x (by omega) (by omega) (by omega) (by omega)
    · rw [if_neg h4, if_neg h4, if_pos (show i < last by omega), if_pos (show i < 2 ^ h * 2 - 1 by omega)]
      cases l with
      | nil => simpa using cl_short f _ _ (i / 2) (last / 2) (by omega) (by omega) hlf
      | cons y r => simpa using ih f _ _ (i / 2) (last / 2) r x (by omega) (by omega) (by omega) (by omega)

/-- Up the right half, and then the left half's hash. -/
theorem cl_right : ∀ (h f : Nat) (p w : ByteArray) (i last : Nat) (l : List ByteArray) (x : ByteArray), i ≤ last → last < 2 ^ h → h < f →
    cl f p w (2 ^ h + i) (2 ^ h + last) (l ++ [x]) = (cl f p w i last l).map fun r => (nodeS x r.1, nodeS x r.2) := by
  intro h
  induction h with
  | zero =>
    intro f p w i last l x h1 h2 hf
    obtain ⟨f, rfl⟩ : ∃ g, f = g + 1 := ⟨f - 1, by omega⟩
    have e2 : last = 0 := by omega
    have e1 : i = 0 := by omega
    subst e1; subst e2
    simp only [cl]
    cases l with
    | nil => simp [cl_zero]
    | cons y r => simp [cl_zero]
  | succ h ih =>
    intro f p w i last l x h1 h2 hf
    obtain ⟨f, rfl⟩ : ∃ g, f = g + 1 := ⟨f - 1, by omega⟩
    have hp := Nat.two_pow_pos h
    have hff : 2 ^ (h + 1) ≤ 2 ^ f := Nat.pow_le_pow_right (by omega) (by omega)
    rw [Nat.pow_succ] at h2 hff ⊢
    have e1 : (2 ^ h * 2 + i) / 2 = 2 ^ h + i / 2 := by omega
    have e2 : (2 ^ h * 2 + last) / 2 = 2 ^ h + last / 2 := by omega
    have e3 : (2 ^ h * 2 + i) % 2 = i % 2 := by omega
    by_cases h0 : last = 0
    · obtain rfl : i = 0 := by omega
      subst h0
      have := ih f p w 0 0 l x (Nat.le_refl _) hp (by omega)
      simp only [Nat.add_zero, cl_zero] at this ⊢
      simp only [cl]
      rw [if_neg (show ¬ 2 ^ h * 2 = 0 by omega), if_neg (show ¬ (2 ^ h * 2) % 2 = 1 by omega), if_neg (by omega), show 2 ^ h * 2 / 2 = 2 ^ h by omega]
      exact this
    · simp only [cl]
      rw [if_neg (show ¬ 2 ^ h * 2 + last = 0 by omega), if_neg h0, e1, e2, e3]
      by_cases h4 : i % 2 = 1
      · rw [if_pos h4, if_pos h4]
        cases l with
        | nil => simpa using cl_short f _ _ (2 ^ h + i / 2) (2 ^ h + last / 2) (by omega) (by omega) (by omega)
        | cons y r => simpa using ih f _ _ (i / 2) (last / 2) r x (by omega) (by omega) (by omega)
      · rw [if_neg h4, if_neg h4]
        by_cases h5 : i < last
        · rw [if_pos (show 2 ^ h * 2 + i < 2 ^ h * 2 + last by omega), if_pos h5]
          cases l with
          | nil => simpa using cl_short f _ _ (2 ^ h + i / 2) (2 ^ h + last / 2) (by omega) (by omega) (by omega)
          | cons y r => simpa using ih f _ _ (i / 2) (last / 2) r x (by omega) (by omega) (by omega)
        · rw [if_neg (show ¬ 2 ^ h * 2 + i < 2 ^ h * 2 + last by omega), if_neg h5]
          exact ih f p w (i / 2) (last / 2) l x (by omega) (by omega) (by omega)

/-- What the reference shows, the list read from its end. -/
def shR (leaf : ByteArray) : List ByteArray → Nat → Nat → Option ByteArray
  | [], _, n => if n = 1 then some leaf else none
  | x :: r, i, n => if n = 1 then none else if i < spl n then (shR leaf r i (spl n)).map fun h => nodeS h x else (shR leaf r (i - spl n) (n - spl n)).map fun h => nodeS x h

theorem spl_pow (n : Nat) : ∃ h, spl n = 2 ^ h := ⟨_, rfl⟩

theorem shR_cl (leaf : ByteArray) : ∀ (rl : List ByteArray) (i n f : Nat), i < n → n ≤ 2 ^ f → shR leaf rl i n = (cl f leaf leaf i (n - 1) rl.reverse).map (·.2) := by
  intro rl
  induction rl with
  | nil =>
    intro i n f hi hn
    simp only [shR, List.reverse_nil]
    by_cases h1 : n = 1
    · subst h1; rw [if_pos rfl]; simp [cl_zero]
    · rw [if_neg h1, cl_short f _ _ _ _ (by omega) (by omega) (by omega)]; rfl
  | cons x r ih =>
    intro i n f hi hn
    simp only [shR, List.reverse_cons]
    by_cases h1 : n = 1
    · subst h1; rw [if_pos rfl]; simp [cl_zero]
    · rw [if_neg h1]
      have hl := spl_lt (n := n) (by omega)
      have hg := spl_ge (n := n) (by omega)
      obtain ⟨h, hh⟩ := spl_pow n
      rw [hh] at hl hg ⊢
      have hf : h < f := by
        apply Nat.lt_of_not_le
        intro hle
        have := Nat.pow_le_pow_right (n := 2) (by omega) hle
        omega
      by_cases h2 : i < 2 ^ h
      · rw [if_pos h2, ih i (2 ^ h) f h2 (by omega), cl_left h f _ _ i (n - 1) _ x h2 (by omega) (by omega) hf]
        simp [Option.map_map, Function.comp_def]
      · rw [if_neg h2, ih (i - 2 ^ h) (n - 2 ^ h) f (by omega) (by omega)]
        have e1 : i = 2 ^ h + (i - 2 ^ h) := by omega
        have e2 : n - 1 = 2 ^ h + (n - 2 ^ h - 1) := by omega
        have := cl_right h f leaf leaf (i - 2 ^ h) (n - 2 ^ h - 1) r.reverse x (by omega) (by omega) hf
        rw [← e1, ← e2] at this
        rw [this]
        simp [Option.map_map, Function.comp_def]
end Go.Proofs.YtlhohmlpcgbliaaDoor
namespace Go.Proofs.YtlhohmlpcgbliaaDoor
set_option maxRecDepth 100000

/-- What the reference shows of the first m and of all n, the list read from its end. -/
def boR (old : ByteArray) : List ByteArray → Nat → Nat → Bool → Option (ByteArray × ByteArray)
  | [], m, n, all => if m = n then (if all then some (old, old) else none) else none
  | x :: r, m, n, all =>
    if m = n then (if all then none else if r = [] then some (x, x) else none)
    else if m ≤ spl n then (boR old r m (spl n) all).map fun q => (q.1, nodeS q.2 x)
    else (boR old r (m - spl n) (n - spl n) false).map fun q => (nodeS x q.1, nodeS x q.2)

/-- The way up, from old or from the list's first. -/
def St (f : Nat) (b : Bool) (old : ByteArray) (i last : Nat) (l : List ByteArray) : Option (ByteArray × ByteArray) :=
  if b then cl f old old i last l else match l with
    | [] => none
    | s :: r => cl f s s i last r

theorem St_left (h f : Nat) (b : Bool) (old : ByteArray) (i last : Nat) (l : List ByteArray) (x : ByteArray) (h1 : i < 2 ^ h) (h2 : 2 ^ h ≤ last) (h3 : last < 2 * 2 ^ h) (hf : h < f) :
    St f b old i last (l ++ [x]) = (St f b old i (2 ^ h - 1) l).map fun r => (r.1, nodeS r.2 x) := by
  have hp := Nat.two_pow_pos h
  have hlf : last < 2 ^ f := by
    have : 2 ^ (h + 1) ≤ 2 ^ f := Nat.pow_le_pow_right (by omega) (by omega)
    rw [Nat.pow_succ] at this; omega
  cases b with
  | true => simpa [St] using cl_left h f old old i last l x h1 h2 h3 hf
  | false =>
    cases l with
    | nil => simpa [St] using cl_short f x x i last (by omega) (by omega) hlf
    | cons s t => simpa [St] using cl_left h f s s i last t x h1 h2 h3 hf

theorem St_right (h f : Nat) (old : ByteArray) (i last : Nat) (l : List ByteArray) (x : ByteArray) (h1 : i ≤ last) (h2 : last < 2 ^ h) (hf : h < f) :
    St f false old (2 ^ h + i) (2 ^ h + last) (l ++ [x]) = (St f false old i last l).map fun r => (nodeS x r.1, nodeS x r.2) := by
  have hp := Nat.two_pow_pos h
  have hlf : 2 ^ h + last < 2 ^ f := by
    have : 2 ^ (h + 1) ≤ 2 ^ f := Nat.pow_le_pow_right (by omega) (by omega)
    rw [Nat.pow_succ] at this; omega
  cases l with
  | nil => simpa [St] using cl_short f x x (2 ^ h + i) (2 ^ h + last) (by omega) (by omega) hlf
  | cons s t => simpa [St] using cl_right h f s s i last t x h1 h2 hf

theorem boR_full (old : ByteArray) (f k : Nat) (all : Bool) (r : List ByteArray) : boR old r k k all = St f all old 0 0 r.reverse := by
  cases r with
  | nil => cases all <;> simp [boR, St, cl_zero]
  | cons y r =>
    cases all with
    | true => simp [boR, St, cl_zero]
    | false =>
      by_cases hr : r = []
      · subst hr; simp [boR, St, cl_zero]
      · have hne : (y :: r).reverse ≠ [] := by simp
        have hlen : (y :: r).reverse.length = r.length + 1 := by simp
        have hr0 : 0 < r.length := List.length_pos_iff.2 hr
        cases hq : (y :: r).reverse with
        | nil => exact absurd hq hne
        | cons s t =>
          have ht : t ≠ [] := by
            rintro rfl
            rw [hq] at hlen
            have : 1 = r.length + 1 := hlen
            omega
          simp [boR, St, cl_zero, hr, ht]

theorem boR_cl (old : ByteArray) : ∀ (rl : List ByteArray) (h a m n f : Nat) (all : Bool), m = 2 ^ h * (2 * a + 1) → m < n → n ≤ 2 ^ f →
    boR old rl m n all = St f (all && decide (a = 0)) old (2 * a) ((n - 1) / 2 ^ h) rl.reverse := by
  intro rl
  induction rl with
  | nil =>
    intro h a m n f all hm hn hf
    have hp := Nat.two_pow_pos h
    have h1 : 2 * a + 1 ≤ (n - 1) / 2 ^ h := (Nat.le_div_iff_mul_le hp).2 (by rw [Nat.mul_comm]; omega)
    have h2 : (n - 1) / 2 ^ h ≤ n - 1 := Nat.div_le_self _ _
    simp only [boR, List.reverse_nil]
    rw [if_neg (by omega)]
    cases hb : (all && decide (a = 0)) with
    | true => simp [St, cl_short f old old (2 * a) ((n - 1) / 2 ^ h) (by omega) (by omega) (by omega)]
    | false => simp [St]
  | cons x r ih =>
    intro h a m n f all hm hn hf
    have hp := Nat.two_pow_pos h
    have hm0 : 0 < m := by rw [hm]; exact Nat.mul_pos hp (by omega)
    have hl := spl_lt (n := n) (by omega)
    have hg := spl_ge (n := n) (by omega)
    obtain ⟨H, hH⟩ := spl_pow n
    have hHp := Nat.two_pow_pos H
    simp only [boR, List.reverse_cons]
    rw [if_neg (by omega)]
    rw [hH] at hl hg ⊢
    have hHf : H < f := by
      apply Nat.lt_of_not_le
      intro hle
      have := Nat.pow_le_pow_right (n := 2) (by omega) hle
      omega
    by_cases hmk : m ≤ 2 ^ H
    · rw [if_pos hmk]
      have hhm : 2 ^ h ≤ m := by rw [hm]; exact Nat.le_mul_of_pos_right _ (by omega)
      have hhH : h ≤ H := (Nat.pow_le_pow_iff_right (by omega)).1 (Nat.le_trans hhm hmk)
      obtain ⟨d, rfl⟩ : ∃ d, H = h + d := ⟨H - h, by omega⟩
      rw [Nat.pow_add] at *
      have hdp := Nat.two_pow_pos d
      generalize hD : 2 ^ h = D at *
      have g1 : 2 ^ d ≤ (n - 1) / D := (Nat.le_div_iff_mul_le hp).2 (by rw [Nat.mul_comm]; omega)
      have g2 : (n - 1) / D < 2 * 2 ^ d := (Nat.div_lt_iff_lt_mul hp).2 (by rw [show 2 * 2 ^ d * D = 2 * (D * 2 ^ d) by rw [Nat.mul_assoc, Nat.mul_comm (2 ^ d)]]; omega)
      by_cases he : m = D * 2 ^ d
      · have h3 : 2 * a + 1 = 2 ^ d := Nat.eq_of_mul_eq_mul_left hp (hm.symm.trans he)
        have hd0 : d = 0 := by
          cases d with
          | zero => rfl
          | succ d => rw [Nat.pow_succ] at h3; omega
        subst hd0
        obtain rfl : a = 0 := by simp at h3; omega
        rw [he, boR_full old f _ all r]
        have := St_left 0 f all old 0 ((n - 1) / D) r.reverse x (by simp) g1 g2 (by omega)
        simpa using this.symm
      · have h3 : 2 * a + 1 < 2 ^ d := Nat.lt_of_mul_lt_mul_left (a := D) (by rw [← hm]; omega)
        have e1 : (D * 2 ^ d - 1) / D = 2 ^ d - 1 := by
          have e : D * 2 ^ d - 1 = D * (2 ^ d - 1) + (D - 1) := by
            obtain ⟨q, hq⟩ : ∃ q, 2 ^ d = q + 1 := ⟨2 ^ d - 1, by omega⟩
            rw [hq, Nat.add_sub_cancel, Nat.mul_add, Nat.mul_one]; omega
          rw [e, Nat.mul_add_div hp, Nat.div_eq_of_lt (by omega)]; rfl
        have hi := ih h a m (D * 2 ^ d) f all (by rw [hD]; exact hm) (by omega) (by omega)
        rw [hD, e1] at hi
        rw [hi, St_left d f (all && decide (a = 0)) old (2 * a) ((n - 1) / D) r.reverse x (by omega) g1 g2 (by omega)]
    · rw [if_neg hmk]
      have hhH : h < H := by
        apply Nat.lt_of_not_le
        intro hle
        obtain ⟨c, rfl⟩ : ∃ c, h = H + c := ⟨h - H, by omega⟩
        rw [Nat.pow_add, Nat.mul_assoc] at hm
        generalize 2 ^ c * (2 * a + 1) = q at hm
        have q1 : 1 < q := Nat.lt_of_mul_lt_mul_left (a := 2 ^ H) (by rw [← hm]; omega)
        have q2 : q < 2 := Nat.lt_of_mul_lt_mul_left (a := 2 ^ H) (by rw [← hm]; omega)
        omega
      obtain ⟨d, rfl⟩ : ∃ d, H = h + (d + 1) := ⟨H - h - 1, by omega⟩
      rw [Nat.pow_add] at *
      have hdp := Nat.two_pow_pos d
      generalize hD : 2 ^ h = D at *
      have hK : 2 ^ (d + 1) = 2 * 2 ^ d := by rw [Nat.pow_succ]; omega
      have h3 : 2 ^ (d + 1) < 2 * a + 1 := Nat.lt_of_mul_lt_mul_left (a := D) (by rw [← hm]; omega)
      obtain ⟨a', ha'⟩ : ∃ a', a = 2 ^ d + a' := ⟨a - 2 ^ d, by omega⟩
      have h4 : m - D * 2 ^ (d + 1) = D * (2 * a' + 1) := by
        rw [hm, ← Nat.mul_sub]
        congr 1
        omega
      have hi := ih h a' (m - D * 2 ^ (d + 1)) (n - D * 2 ^ (d + 1)) f false (by rw [hD]; exact h4) (by omega) (by omega)
      rw [hD] at hi
      have e2 : (n - 1) / D = 2 ^ (d + 1) + (n - D * 2 ^ (d + 1) - 1) / D := by
        rw [← Nat.mul_add_div hp]
        congr 1
        omega
      have e3 : 2 * a = 2 ^ (d + 1) + 2 * a' := by omega
      have h5 : 2 * a' + 1 ≤ (n - D * 2 ^ (d + 1) - 1) / D := (Nat.le_div_iff_mul_le hp).2 (by rw [Nat.mul_comm (2 * a' + 1) D, ← h4]; omega)
      have h6 : (n - D * 2 ^ (d + 1) - 1) / D < 2 ^ (d + 1) := (Nat.div_lt_iff_lt_mul hp).2 (by rw [Nat.mul_comm (2 ^ (d + 1)) D]; omega)
      have hb : (all && decide (a = 0)) = false := by
        rw [decide_eq_false (by omega)]; simp
      rw [hi, hb, e2, e3, St_right (d + 1) f old (2 * a') _ r.reverse x (by omega) h6 (by omega)]
      rfl

end Go.Proofs.YtlhohmlpcgbliaaDoor
namespace Go.Proofs.YtlhohmlpcgbliaaDoor
set_option maxRecDepth 100000
open Go.RowKit
attribute [local go_sem ↓] Go.wp_at_zero Go.wp_at_succ

section
variable {P : Program} {ops : Array Oper} {Q : Act → Prop} {S : World → Prop} {o : Oper} {rest : List Oper} {a : Act}
/-- An operation that only reads, where it is wanted. -/
theorem wpQuiet_yes {v : Value} (hw : Region.wanted o (yielded ops a.tmps) = true) (d : Option Nat) (hd : o.dst = d) (hv : ∀ w, S w → (execOp a.eval o).run P w = .ok (.value v) w) (h : wpQuiet P ops S Q rest (a.put d v)) : wpQuiet P ops S Q (o :: rest) a := by
  refine wpQuiet_step fun K hK => ?_
  rw [if_pos hw]
  refine ⟨v, fun w hs => ?_, hK _ (by rw [hd]; exact h)⟩
  unfold Oper.quietAt
  rw [hv w hs]
  exact ⟨rfl, rfl⟩
/-- .. and where it is not. -/
theorem wpQuiet_no (hw : (!Region.wanted o (yielded ops a.tmps)) = true) (d : Option Nat) (hd : o.dst = d) (h : wpQuiet P ops S Q rest (a.put d undef)) : wpQuiet P ops S Q (o :: rest) a := by
  refine wpQuiet_step fun K hK => ?_
  rw [if_neg (by simpa using hw)]
  exact hK _ (by rw [hd]; exact h)
/-- What is left of a drawn region, shut, so that nothing unfolds it. -/
structure WQ (P : Program) (ops : Array Oper) (S : World → Prop) (Q : Act → Prop) (rest : List Oper) (a : Act) : Prop where
  out : wpQuiet P ops S Q rest a
theorem WQ.yes {v : Value} (hw : Region.wanted o (yielded ops a.tmps) = true) (d : Option Nat) (hd : o.dst = d) (hv : ∀ w, S w → (execOp a.eval o).run P w = .ok (.value v) w) (h : WQ P ops S Q rest (a.put d v)) : WQ P ops S Q (o :: rest) a := ⟨wpQuiet_yes hw d hd hv h.out⟩
theorem WQ.no (hw : (!Region.wanted o (yielded ops a.tmps)) = true) (d : Option Nat) (hd : o.dst = d) (h : WQ P ops S Q rest (a.put d undef)) : WQ P ops S Q (o :: rest) a := ⟨wpQuiet_no hw d hd h.out⟩
theorem WQ.nil (h : Q a) : WQ P ops S Q [] a := ⟨wpQuiet_nil h⟩
theorem exec_bin {w : World} {op : BinOp} {t t2 : TypeId} {x y : Operand} {v1 v2 u : Value} (ho : o.op = .binOp op t x y t2) (hx : a.eval x = v1) (hy : a.eval y = v2) (hg : (eqGuard op t x y v1 v2).run P w = .ok () w) (hr : (binOp op t v1 v2).run P w = .ok u w) : (execOp a.eval o).run P w = .ok (.value u) w := by
  unfold execOp
  simp only [ho, hx, hy, Sem.run_bind, hg, hr, Result.andThen_ok, Sem.run_pure]
theorem exec_ia {w : World} {t : TypeId} {x y : Operand} {v1 v2 u : Value} (ho : o.op = .indexAddr t x y) (hx : a.eval x = v1) (hy : a.eval y = v2) (hr : (Instr.indexAt t v1 v2).run P w = .ok u w) : (execOp a.eval o).run P w = .ok (.value u) w := by
  unfold execOp
  simp only [ho, hx, hy, Sem.run_bind, hr, Result.andThen_ok, Sem.run_pure]
theorem exec_load {w : World} {t : TypeId} {x : Operand} {v u : Value} (ho : o.op = .load t x) (hx : a.eval x = v) (hr : (Instr.loadAt t v).run P w = .ok u w) : (execOp a.eval o).run P w = .ok (.value u) w := by
  unfold execOp
  simp only [ho, hx, Sem.run_bind, hr, Result.andThen_ok, Sem.run_pure]
end
theorem lss_true (w : World) (x y : Nat) (h : x < y) : (binOp .lss 3 (.int .i64 (x : Int)) (.int .i64 (y : Int))).run Tryd.prog w = .ok (.bool true) w := by simp [go_sem, h]
theorem lss_false (w : World) (x y : Nat) (h : y ≤ x) : (binOp .lss 3 (.int .i64 (x : Int)) (.int .i64 (y : Int))).run Tryd.prog w = .ok (.bool false) w := by simp [go_sem]; omega
theorem geq_false (w : World) (x y : Nat) (h : x < y) : (binOp .geq 3 (.int .i64 (x : Int)) (.int .i64 (y : Int))).run Tryd.prog w = .ok (.bool false) w := by simp [go_sem]; omega
theorem geq_true (w : World) (x y : Nat) (h : y ≤ x) : (binOp .geq 3 (.int .i64 (x : Int)) (.int .i64 (y : Int))).run Tryd.prog w = .ok (.bool true) w := by simp [go_sem, h]
theorem neq_self (w : World) (s : ByteArray) : (binOp .neq 9 (.string s) (.string s)).run Tryd.prog w = .ok (.bool false) w := by simp [go_sem]
theorem index_row (w : World) (b o n c k : Nat) (h : k < n) : (Instr.indexAt 22 (.slice (some ⟨b, o, none⟩) n c) (.int .i64 (k : Int))).run Tryd.prog w = .ok (.pointer (some ⟨b, o + k, none⟩)) w := by
  have h1 : (k : Int) < (n : Int) := by omega
  simp [go_sem, h1]
theorem cell_drew {w wx : World} {a : Addr} {x : Value} (hx : ∃ n, wx = w.drewN n) (h : w.cell? a = some x) : wx.cell? a = some x := by
  obtain ⟨n, rfl⟩ := hx
  rw [World.cell?_drewN]; exact h


set_option maxRecDepth 100000 in
set_option maxHeartbeats 1000000 in
theorem whole_nil (w : World) : Calls Tryd.prog 18 #[.slice none 0 0, .slice none 0 0] w fun e w' => e = .returned (.bool true) ∧ w' = w := by
  have hq := eqnil_none
  go_enter Tryd.func18, Tryd.ntmps18
  go_wp2
  go_ret
  exact ⟨rfl, rfl⟩

end Go.Proofs.YtlhohmlpcgbliaaDoor
namespace Go.Proofs.YtlhohmlpcgbliaaDoor
set_option maxRecDepth 100000
open Go.RowKit
attribute [local go_sem ↓] Go.wp_at_zero Go.wp_at_succ

set_option maxRecDepth 100000 in
set_option maxHeartbeats 200000 in
theorem whR8_low {c0 c2 c3 c4 c8 c9 c10 c11 c12 c13 c14 c15 c16 c17 c18 c19 c20 c21 c22 c23 c24 c25 c26 c27 c28 c29 c30 c31 c32 c33 c34 c35 c36 c37 c38 c39 c40 c41 c42 c43 c44 c45 c46 c47 c48 c49 : Value} (g m n c b o k : Nat) (s : ByteArray) (w : World) (Q : Exit → Act → World → Prop) (hk : k < n) (hm : n ≤ m)
  (h1 : w.cell? ⟨g, k, none⟩ = some (.string s)) (h2 : w.cell? ⟨b, o + k, none⟩ = some (.string s))
  (hQ : ∀ (u24 u25 u26 u27 u28 u29 u30 u31 u32 u33 u34 u35 u36 u37 u38 u39 u40 u41 u42 u43 u44 u45 u46 u47 u48 : Value) (d : Nat), Q .normal ⟨#[c0, .slice (some ⟨b, o, none⟩) n c, c2, c3, c4, .int .i64 (n : Int), .slice (some ⟨g, 0, none⟩) m m, .int .i64 (k : Int), c8, c9, c10, c11, c12, c13, c14, c15, c16, c17, c18, c19, c20, c21, c22, c23, u24, u25, u26, u27, u28, u29, u30, u31, u32, u33, u34, u35, u36, u37, u38, u39, u40, u41, u42, u43, u44, u45, u46, u47, u48, .bool false], []⟩ (w.drewN d)) :
  Code.wp Tryd.prog (rgn Tryd.f18 8) Q ⟨#[c0, .slice (some ⟨b, o, none⟩) n c, c2, c3, c4, .int .i64 (n : Int), .slice (some ⟨g, 0, none⟩) m m, .int .i64 (k : Int), c8, c9, c10, c11, c12, c13, c14, c15, c16, c17, c18, c19, c20, c21, c22, c23, c24, c25, c26, c27, c28, c29, c30, c31, c32, c33, c34, c35, c36, c37, c38, c39, c40, c41, c42, c43, c44, c45, c46, c47, c48, c49], []⟩ w := by
  conv => arg 2; whnf
  refine wp_region_quiet_lit (by kernel_rfl) (by kernel_rfl) (WQ.out ?_)
  refine WQ.yes (v := .int .i64 (k : Int)) (by kernel_rfl) (some 24) (by rfl) (fun wx hx => by kernel_rfl) ?_
  simp only [Act.put, List.setIfInBounds_toArray, List.set_cons_succ, List.set_cons_zero]
  refine WQ.yes (v := .int .i64 (n : Int)) (by kernel_rfl) (some 25) (by rfl) (fun wx hx => by kernel_rfl) ?_
  simp only [Act.put, List.setIfInBounds_toArray, List.set_cons_succ, List.set_cons_zero]
  refine WQ.yes (v := .bool true) (by kernel_rfl) (some 26) (by rfl) (fun wx hx => exec_bin (by rfl) (by rfl) (by rfl) (by kernel_rfl) (lss_true wx k n hk)) ?_
  simp only [Act.put, List.setIfInBounds_toArray, List.set_cons_succ, List.set_cons_zero]
  refine WQ.yes (v := .bool true) (by kernel_rfl) (some 27) (by rfl) (fun wx hx => by kernel_rfl) ?_
  simp only [Act.put, List.setIfInBounds_toArray, List.set_cons_succ, List.set_cons_zero]
  refine WQ.yes (v := .slice (some ⟨g, 0, none⟩) m m) (by kernel_rfl) (some 28) (by rfl) (fun wx hx => by kernel_rfl) ?_
  simp only [Act.put, List.setIfInBounds_toArray, List.set_cons_succ, List.set_cons_zero]
  refine WQ.yes (v := .int .i64 (k : Int)) (by kernel_rfl) (some 29) (by rfl) (fun wx hx => by kernel_rfl) ?_
  simp only [Act.put, List.setIfInBounds_toArray, List.set_cons_succ, List.set_cons_zero]
  refine WQ.yes (v := .pointer (some ⟨g, 0 + k, none⟩)) (by kernel_rfl) (some 30) (by rfl) (fun wx hx => exec_ia (by rfl) (by rfl) (by rfl) (index_row wx g 0 m m k (by omega))) ?_
  simp only [Act.put, List.setIfInBounds_toArray, List.set_cons_succ, List.set_cons_zero]
  refine WQ.yes (v := .string s) (by kernel_rfl) (some 31) (by rfl) (fun wx hx => exec_load (by rfl) (by rfl) (load_str wx _ _ _ (cell_drew hx (by rw [Nat.zero_add]; exact h1)))) ?_
  simp only [Act.put, List.setIfInBounds_toArray, List.set_cons_succ, List.set_cons_zero]
  refine WQ.yes (v := .slice (some ⟨b, o, none⟩) n c) (by kernel_rfl) (some 32) (by rfl) (fun wx hx => by kernel_rfl) ?_
  simp only [Act.put, List.setIfInBounds_toArray, List.set_cons_succ, List.set_cons_zero]
  refine WQ.yes (v := .int .i64 (k : Int)) (by kernel_rfl) (some 33) (by rfl) (fun wx hx => by kernel_rfl) ?_
  simp only [Act.put, List.setIfInBounds_toArray, List.set_cons_succ, List.set_cons_zero]
  refine WQ.yes (v := .pointer (some ⟨b, o + k, none⟩)) (by kernel_rfl) (some 34) (by rfl) (fun wx hx => exec_ia (by rfl) (by rfl) (by rfl) (index_row wx b o n c k hk)) ?_
  simp only [Act.put, List.setIfInBounds_toArray, List.set_cons_succ, List.set_cons_zero]
  refine WQ.yes (v := .string s) (by kernel_rfl) (some 35) (by rfl) (fun wx hx => exec_load (by rfl) (by rfl) (load_str wx _ _ _ (cell_drew hx h2))) ?_
  simp only [Act.put, List.setIfInBounds_toArray, List.set_cons_succ, List.set_cons_zero]
  refine WQ.yes (v := .bool false) (by kernel_rfl) (some 36) (by rfl) (fun wx hx => exec_bin (by rfl) (by rfl) (by rfl) (by kernel_rfl) (neq_self wx s)) ?_
  simp only [Act.put, List.setIfInBounds_toArray, List.set_cons_succ, List.set_cons_zero]
  refine WQ.yes (v := .bool false) (by kernel_rfl) (some 37) (by rfl) (fun wx hx => by kernel_rfl) ?_
  simp only [Act.put, List.setIfInBounds_toArray, List.set_cons_succ, List.set_cons_zero]
  refine WQ.yes (v := .bool false) (by kernel_rfl) (some 38) (by rfl) (fun wx hx => by kernel_rfl) ?_
  simp only [Act.put, List.setIfInBounds_toArray, List.set_cons_succ, List.set_cons_zero]
  refine WQ.yes (v := .int .i64 (k : Int)) (by kernel_rfl) (some 39) (by rfl) (fun wx hx => by kernel_rfl) ?_
  simp only [Act.put, List.setIfInBounds_toArray, List.set_cons_succ, List.set_cons_zero]
  refine WQ.yes (v := .int .i64 (n : Int)) (by kernel_rfl) (some 40) (by rfl) (fun wx hx => by kernel_rfl) ?_
  simp only [Act.put, List.setIfInBounds_toArray, List.set_cons_succ, List.set_cons_zero]
  refine WQ.yes (v := .bool false) (by kernel_rfl) (some 41) (by rfl) (fun wx hx => exec_bin (by rfl) (by rfl) (by rfl) (by kernel_rfl) (geq_false wx k n hk)) ?_
  simp only [Act.put, List.setIfInBounds_toArray, List.set_cons_succ, List.set_cons_zero]
  refine WQ.yes (v := .bool false) (by kernel_rfl) (some 42) (by rfl) (fun wx hx => by kernel_rfl) ?_
  simp only [Act.put, List.setIfInBounds_toArray, List.set_cons_succ, List.set_cons_zero]
  refine WQ.no (by kernel_rfl) (some 43) (by rfl) ?_
  simp only [Act.put, List.setIfInBounds_toArray, List.set_cons_succ, List.set_cons_zero]
  refine WQ.no (by kernel_rfl) (some 44) (by rfl) ?_
  simp only [Act.put, List.setIfInBounds_toArray, List.set_cons_succ, List.set_cons_zero]
  refine WQ.no (by kernel_rfl) (some 45) (by rfl) ?_
  simp only [Act.put, List.setIfInBounds_toArray, List.set_cons_succ, List.set_cons_zero]
  refine WQ.no (by kernel_rfl) (some 46) (by rfl) ?_
  simp only [Act.put, List.setIfInBounds_toArray, List.set_cons_succ, List.set_cons_zero]
  refine WQ.no (by kernel_rfl) (some 47) (by rfl) ?_
  simp only [Act.put, List.setIfInBounds_toArray, List.set_cons_succ, List.set_cons_zero]
  refine WQ.yes (v := .bool false) (by kernel_rfl) (some 48) (by rfl) (fun wx hx => by kernel_rfl) ?_
  simp only [Act.put, List.setIfInBounds_toArray, List.set_cons_succ, List.set_cons_zero]
  refine WQ.yes (v := .bool false) (by kernel_rfl) (some 49) (by rfl) (fun wx hx => by kernel_rfl) ?_
  simp only [Act.put, List.setIfInBounds_toArray, List.set_cons_succ, List.set_cons_zero]
  refine WQ.nil ?_
  rintro _ ⟨d, rfl⟩
  exact hQ _ _ _ _ _ _ _ _ _ _ _ _ _ _ _ _ _ _ _ _ _ _ _ _ _ _

set_option maxRecDepth 100000 in
set_option maxHeartbeats 200000 in
theorem whR8_high {c0 c2 c3 c4 c8 c9 c10 c11 c12 c13 c14 c15 c16 c17 c18 c19 c20 c21 c22 c23 c24 c25 c26 c27 c28 c29 c30 c31 c32 c33 c34 c35 c36 c37 c38 c39 c40 c41 c42 c43 c44 c45 c46 c47 c48 c49 : Value} (g m n k : Nat) (v1 : Value) (w : World) (Q : Exit → Act → World → Prop) (hk : n ≤ k) (hm : k < m)
  (h1 : w.cell? ⟨g, k, none⟩ = some (.string beyond))
  (hQ : ∀ (u24 u25 u26 u27 u28 u29 u30 u31 u32 u33 u34 u35 u36 u37 u38 u39 u40 u41 u42 u43 u44 u45 u46 u47 u48 : Value) (d : Nat), Q .normal ⟨#[c0, v1, c2, c3, c4, .int .i64 (n : Int), .slice (some ⟨g, 0, none⟩) m m, .int .i64 (k : Int), c8, c9, c10, c11, c12, c13, c14, c15, c16, c17, c18, c19, c20, c21, c22, c23, u24, u25, u26, u27, u28, u29, u30, u31, u32, u33, u34, u35, u36, u37, u38, u39, u40, u41, u42, u43, u44, u45, u46, u47, u48, .bool false], []⟩ (w.drewN d)) :
  Code.wp Tryd.prog (rgn Tryd.f18 8) Q ⟨#[c0, v1, c2, c3, c4, .int .i64 (n : Int), .slice (some ⟨g, 0, none⟩) m m, .int .i64 (k : Int), c8, c9, c10, c11, c12, c13, c14, c15, c16, c17, c18, c19, c20, c21, c22, c23, c24, c25, c26, c27, c28, c29, c30, c31, c32, c33, c34, c35, c36, c37, c38, c39, c40, c41, c42, c43, c44, c45, c46, c47, c48, c49], []⟩ w := by
  conv => arg 2; whnf
  refine wp_region_quiet_lit (by kernel_rfl) (by kernel_rfl) (WQ.out ?_)
  refine WQ.yes (v := .int .i64 (k : Int)) (by kernel_rfl) (some 24) (by rfl) (fun wx hx => by kernel_rfl) ?_
  simp only [Act.put, List.setIfInBounds_toArray, List.set_cons_succ, List.set_cons_zero]
  refine WQ.yes (v := .int .i64 (n : Int)) (by kernel_rfl) (some 25) (by rfl) (fun wx hx => by kernel_rfl) ?_
  simp only [Act.put, List.setIfInBounds_toArray, List.set_cons_succ, List.set_cons_zero]
  refine WQ.yes (v := .bool false) (by kernel_rfl) (some 26) (by rfl) (fun wx hx => exec_bin (by rfl) (by rfl) (by rfl) (by kernel_rfl) (lss_false wx k n hk)) ?_
  simp only [Act.put, List.setIfInBounds_toArray, List.set_cons_succ, List.set_cons_zero]
  refine WQ.yes (v := .bool false) (by kernel_rfl) (some 27) (by rfl) (fun wx hx => by kernel_rfl) ?_
  simp only [Act.put, List.setIfInBounds_toArray, List.set_cons_succ, List.set_cons_zero]
  refine WQ.no (by kernel_rfl) (some 28) (by rfl) ?_
  simp only [Act.put, List.setIfInBounds_toArray, List.set_cons_succ, List.set_cons_zero]
  refine WQ.no (by kernel_rfl) (some 29) (by rfl) ?_
  simp only [Act.put, List.setIfInBounds_toArray, List.set_cons_succ, List.set_cons_zero]
  refine WQ.no (by kernel_rfl) (some 30) (by rfl) ?_
  simp only [Act.put, List.setIfInBounds_toArray, List.set_cons_succ, List.set_cons_zero]
  refine WQ.no (by kernel_rfl) (some 31) (by rfl) ?_
  simp only [Act.put, List.setIfInBounds_toArray, List.set_cons_succ, List.set_cons_zero]
  refine WQ.no (by kernel_rfl) (some 32) (by rfl) ?_
  simp only [Act.put, List.setIfInBounds_toArray, List.set_cons_succ, List.set_cons_zero]
  refine WQ.no (by kernel_rfl) (some 33) (by rfl) ?_
  simp only [Act.put, List.setIfInBounds_toArray, List.set_cons_succ, List.set_cons_zero]
  refine WQ.no (by kernel_rfl) (some 34) (by rfl) ?_
  simp only [Act.put, List.setIfInBounds_toArray, List.set_cons_succ, List.set_cons_zero]
  refine WQ.no (by kernel_rfl) (some 35) (by rfl) ?_
  simp only [Act.put, List.setIfInBounds_toArray, List.set_cons_succ, List.set_cons_zero]
  refine WQ.no (by kernel_rfl) (some 36) (by rfl) ?_
  simp only [Act.put, List.setIfInBounds_toArray, List.set_cons_succ, List.set_cons_zero]
  refine WQ.yes (v := .bool false) (by kernel_rfl) (some 37) (by rfl) (fun wx hx => by kernel_rfl) ?_
  simp only [Act.put, List.setIfInBounds_toArray, List.set_cons_succ, List.set_cons_zero]
  refine WQ.yes (v := .bool false) (by kernel_rfl) (some 38) (by rfl) (fun wx hx => by kernel_rfl) ?_
  simp only [Act.put, List.setIfInBounds_toArray, List.set_cons_succ, List.set_cons_zero]
  refine WQ.yes (v := .int .i64 (k : Int)) (by kernel_rfl) (some 39) (by rfl) (fun wx hx => by kernel_rfl) ?_
  simp only [Act.put, List.setIfInBounds_toArray, List.set_cons_succ, List.set_cons_zero]
  refine WQ.yes (v := .int .i64 (n : Int)) (by kernel_rfl) (some 40) (by rfl) (fun wx hx => by kernel_rfl) ?_
  simp only [Act.put, List.setIfInBounds_toArray, List.set_cons_succ, List.set_cons_zero]
  refine WQ.yes (v := .bool true) (by kernel_rfl) (some 41) (by rfl) (fun wx hx => exec_bin (by rfl) (by rfl) (by rfl) (by kernel_rfl) (geq_true wx k n hk)) ?_
  simp only [Act.put, List.setIfInBounds_toArray, List.set_cons_succ, List.set_cons_zero]
  refine WQ.yes (v := .bool true) (by kernel_rfl) (some 42) (by rfl) (fun wx hx => by kernel_rfl) ?_
  simp only [Act.put, List.setIfInBounds_toArray, List.set_cons_succ, List.set_cons_zero]
  refine WQ.yes (v := .slice (some ⟨g, 0, none⟩) m m) (by kernel_rfl) (some 43) (by rfl) (fun wx hx => by kernel_rfl) ?_
  simp only [Act.put, List.setIfInBounds_toArray, List.set_cons_succ, List.set_cons_zero]
  refine WQ.yes (v := .int .i64 (k : Int)) (by kernel_rfl) (some 44) (by rfl) (fun wx hx => by kernel_rfl) ?_
  simp only [Act.put, List.setIfInBounds_toArray, List.set_cons_succ, List.set_cons_zero]
  refine WQ.yes (v := .pointer (some ⟨g, 0 + k, none⟩)) (by kernel_rfl) (some 45) (by rfl) (fun wx hx => exec_ia (by rfl) (by rfl) (by rfl) (index_row wx g 0 m m k hm)) ?_
  simp only [Act.put, List.setIfInBounds_toArray, List.set_cons_succ, List.set_cons_zero]
  refine WQ.yes (v := .string beyond) (by kernel_rfl) (some 46) (by rfl) (fun wx hx => exec_load (by rfl) (by rfl) (load_str wx _ _ _ (cell_drew hx (by rw [Nat.zero_add]; exact h1)))) ?_
  simp only [Act.put, List.setIfInBounds_toArray, List.set_cons_succ, List.set_cons_zero]
  refine WQ.yes (v := .bool false) (by kernel_rfl) (some 47) (by rfl) (fun wx hx => exec_bin (by rfl) (by rfl) (by rfl) (by kernel_rfl) (neq_self wx beyond)) ?_
  simp only [Act.put, List.setIfInBounds_toArray, List.set_cons_succ, List.set_cons_zero]
  refine WQ.yes (v := .bool false) (by kernel_rfl) (some 48) (by rfl) (fun wx hx => by kernel_rfl) ?_
  simp only [Act.put, List.setIfInBounds_toArray, List.set_cons_succ, List.set_cons_zero]
  refine WQ.yes (v := .bool false) (by kernel_rfl) (some 49) (by rfl) (fun wx hx => by kernel_rfl) ?_
  simp only [Act.put, List.setIfInBounds_toArray, List.set_cons_succ, List.set_cons_zero]
  refine WQ.nil ?_
  rintro _ ⟨d, rfl⟩
  exact hQ _ _ _ _ _ _ _ _ _ _ _ _ _ _ _ _ _ _ _ _ _ _ _ _ _ _
end Go.Proofs.YtlhohmlpcgbliaaDoor
namespace Go.Proofs.YtlhohmlpcgbliaaDoor
set_option maxRecDepth 100000
open Go.RowKit
attribute [local go_sem ↓] Go.wp_at_zero Go.wp_at_succ

theorem roomL_low (ss : List ByteArray) (k : Nat) (s : ByteArray) (h : ss[k]? = some s) : (strv (roomL ss 8))[k]? = some (.string s) := by
  have hk : k < ss.length := (List.getElem?_eq_some_iff.1 h).1
  simp only [strv, roomL, List.getElem?_map]
  rw [List.getElem?_append_left hk, h]; rfl
theorem roomL_high (ss : List ByteArray) (k : Nat) (h1 : ss.length ≤ k) (h2 : k < ss.length + 8) : (strv (roomL ss 8))[k]? = some (.string beyond) := by
  simp only [strv, roomL, List.getElem?_map]
  rw [List.getElem?_append_right h1, List.getElem?_append_left (by simp; omega), List.getElem?_replicate, if_pos (by omega)]; rfl

set_option maxRecDepth 100000 in
set_option maxHeartbeats 1000000 in
theorem whole_some (a : Addr) (g c : Nat) (ss : List ByteArray) (w : World) (hn : ss.length ≤ 100000000000) (hS : Strs w (.slice (some a) ss.length c) ss) (hB : Blk w g 9 (strv (roomL ss 8))) :
    Calls Tryd.prog 18 #[.slice (some ⟨g, 0, none⟩) ss.length (ss.length + 8), .slice (some a) ss.length c] w fun e w' => e = .returned (.bool true) ∧ ∃ d, w' = w.drewN d := by
  have hq := fun wx => eqnil_some wx a ss.length c
  have e1 : Hid (((ss.length : Int) + 8) = ((ss.length + 8 : Nat) : Int)) := by show _ = _; omega
  have hsl : ∀ wx : World, (Instr.sliceAt 22 (.slice (some ⟨g, 0, none⟩) ss.length (ss.length + 8)) none (some (.int .i64 ((ss.length : Int) + 8))) none).run Tryd.prog wx = .ok (.slice (some ⟨g, 0, none⟩) (ss.length + 8) (ss.length + 8)) wx := fun wx => by
    rw [e1.out]; exact slice_h wx g 0 ss.length (ss.length + 8) (ss.length + 8) (Nat.le_refl _)
  go_enter Tryd.func18, Tryd.ntmps18
  go_wp2_with fail
  go_loopw [7] (fun i wr => ∃ k d : Nat, k ≤ ss.length + 8 ∧ i = .int .i64 (k : Int) ∧ wr = w.drewN d) (fun i _ => ss.length + 8 - (intOf i).toNat)
  case atStart => exact ⟨0, 0, by omega, rfl, rfl⟩
  case round =>
    obtain ⟨k, d, hk, rfl, rfl⟩ := hrel
    clear hq hsl
    by_cases h8 : k < ss.length + 8
    · by_cases hlo : k < ss.length
      · obtain ⟨s, hs⟩ : ∃ s, ss[k]? = some s := ⟨_, List.getElem?_eq_getElem hlo⟩
        obtain ⟨a', c', hv, hc⟩ := hS
        obtain ⟨b, o, ha, hcell⟩ := hc k s hs
        injection hv with hv1 hv2 hv3
        rw [← hv1] at ha
        injection ha with ha
        subst ha
        have h1 : (w.drewN d).cell? ⟨g, k, none⟩ = some (.string s) := by rw [World.cell?_drewN, hB.cell]; exact roomL_low ss k s hs
        have h2 : (w.drewN d).cell? ⟨b, o + k, none⟩ = some (.string s) := by rw [World.cell?_drewN]; exact hcell
        clear hc hv2 hv3 hs hcell
        go_wp2_with fail
        refine whR8_low g (ss.length + 8) ss.length c b o k s _ _ hlo (by omega) h1 h2 ?_
        intro u24 u25 u26 u27 u28 u29 u30 u31 u32 u33 u34 u35 u36 u37 u38 u39 u40 u41 u42 u43 u44 u45 u46 u47 u48 d'
        go_wp2
        exact ⟨⟨k + 1, d + d', h8, by go_num, rfl⟩, by simp [intOf]; omega⟩
      · have h1 : (w.drewN d).cell? ⟨g, k, none⟩ = some (.string beyond) := by rw [World.cell?_drewN, hB.cell]; exact roomL_high ss k (by omega) h8
        go_wp2_with fail
        refine whR8_high g (ss.length + 8) ss.length k _ _ _ (by omega) h8 h1 ?_
        intro u24 u25 u26 u27 u28 u29 u30 u31 u32 u33 u34 u35 u36 u37 u38 u39 u40 u41 u42 u43 u44 u45 u46 u47 u48 d'
        go_wp2
        exact ⟨⟨k + 1, d + d', h8, by go_num, rfl⟩, by simp [intOf]; omega⟩
    · have hk8 : k = ss.length + 8 := by omega
      subst hk8
      go_wp2
      go_ret
      exact ⟨rfl, d, rfl⟩
end Go.Proofs.YtlhohmlpcgbliaaDoor
namespace Go.Proofs.YtlhohmlpcgbliaaDoor
set_option maxRecDepth 100000
open Go.RowKit
attribute [local go_sem ↓] Go.wp_at_zero Go.wp_at_succ

/-- What is asked of a value that roomy made. -/
def ROK (w : World) (v r : Value) (z : ByteArray) : Prop := ∀ wy, Below w.heap.size w wy →
  (Calls Tryd.prog 17 #[r] wy fun e w' => e = .returned (.string z) ∧ Below wy.heap.size wy w') ∧ (Calls Tryd.prog 18 #[r, v] wy fun e w' => e = .returned (.bool true) ∧ Below wy.heap.size wy w')

set_option maxRecDepth 100000 in
set_option maxHeartbeats 1000000 in
theorem hashes_walk (sa sb z : ByteArray) (v : Value) (w : World) (ha : sa.size < 40000000000) (hb : sb.size < 40000000000) (ht : Table w) (hg : 2 < w.heap.size)
  (hr : ∀ wx, Below w.heap.size w wx → Calls Tryd.prog 16 #[v] wx fun e w' => ∃ r, e = .returned r ∧ Below wx.heap.size wx w' ∧ ROK w' v r z)
  (hl : ∀ wx, Below w.heap.size w wx → Calls Tryd.prog 19 #[v] wx fun e w' => ∃ l, e = .returned l ∧ Below wx.heap.size wx w' ∧ ∀ wy, Below w'.heap.size w' wy → Calls Tryd.prog 22 #[l] wy fun e w'' => e = .returned (.string z) ∧ Below wy.heap.size wy w'') :
    Calls Tryd.prog 3 #[.string sa, .string sb, v] w fun e w' => e = .returned (.bool true) ∧ Below w.heap.size w w' := by
  have h1 := groveLeaf_any sa w (by omega) ht hg
  have h2 := fun wx (hx : Below w.heap.size w wx) => groveNode_any sa sb wx (by omega) (by omega) (table_at hx hg ht) (Nat.lt_of_lt_of_le hg hx.size)
  have h6 := fun wx => leafRef_any sa wx (by omega)
  have h7 := fun wx => nodeRef_any sa sb wx ha hb
  go_enter Tryd.func3, Tryd.ntmps3
  go_wp2_with (go_at_call 14; refine h1.mono ?_; rintro e w1 ⟨rfl, b1⟩)
  go_wp2_with (go_at_call 15; refine (h2 w1 b1).mono ?_; rintro e w2 ⟨rfl, b2⟩)
  have c2 : Below w.heap.size w w2 := b1.trans (b2.mono b1.size)
  go_wp2_with (go_at_call 16; refine (hr w2 c2).mono ?_; rintro e w3 ⟨r, rfl, b3, hR⟩)
  have c3 : Below w.heap.size w w3 := c2.trans (b3.mono c2.size)
  go_wp2_with (go_at_call 17; refine (hR w3 (Below.refl _ _)).1.mono ?_; rintro e w4 ⟨rfl, b4⟩)
  have c4 : Below w.heap.size w w4 := c3.trans (b4.mono c3.size)
  go_wp2_with (go_at_call 18; refine (hR w4 b4).2.mono ?_; rintro e w5 ⟨rfl, b5⟩)
  have c5 : Below w.heap.size w w5 := c4.trans (b5.mono c4.size)
  go_wp2_with (go_at_call 19; refine (hl w5 c5).mono ?_; rintro e w6 ⟨l, rfl, b6, hL⟩)
  have c6 : Below w.heap.size w w6 := c5.trans (b6.mono c5.size)
  clear h1 h2 hr hl hR b1 b2 b3 b4 b5 c2 c3 c4 c5
  go_wp2_with (go_at_call 20; refine (h6 w6).mono ?_; rintro e w7 ⟨rfl, b7⟩)
  go_wp2_with (go_at_call 21; refine (h7 w7).mono ?_; rintro e w8 ⟨rfl, b8⟩)
  have d8 : Below w6.heap.size w6 w8 := b7.trans (b8.mono b7.size)
  go_wp2_with (go_at_call 22; refine (hL w8 d8).mono ?_; rintro e w9 ⟨rfl, b9⟩)
  have d9 : Below w.heap.size w w9 := c6.trans ((d8.trans (b9.mono d8.size)).mono c6.size)
  go_wp2
  go_ret
  exact ⟨rfl, d9⟩
end Go.Proofs.YtlhohmlpcgbliaaDoor
namespace Go.Proofs.YtlhohmlpcgbliaaDoor
set_option maxRecDepth 100000
open Go.RowKit

theorem Row.shape {w : World} {base : Nat} {e : TypeId} {v : Value} {xs : List Value} (h : Row w base e v xs) : ∃ p c, v = .slice p xs.length c := by
  obtain ⟨h1, h2⟩ := h
  rcases h2 with ⟨hv, h0⟩ | ⟨g, cap, cur, rfl, _⟩
  · exact ⟨_, _, by rw [hv, h0]⟩
  · exact ⟨_, _, rfl⟩

theorem ref_side (v : Value) (ss : List ByteArray) (w : World) (hS : Strs w v ss) (hn : ss.length ≤ 1048576) (hz : ∀ s ∈ ss, s.size ≤ 1048576) :
    Calls Tryd.prog 19 #[v] w fun e w' => ∃ l, e = .returned l ∧ Below w.heap.size w w' ∧ ∀ wy, Below w'.heap.size w' wy → Calls Tryd.prog 22 #[l] wy fun e w'' => e = .returned (.string (mth (ss.map leafS))) ∧ Below wy.heap.size wy w'' := by
  refine (leaves_any v ss w hS (by omega) (fun s h => by have := hz s h; omega)).mono ?_
  rintro e w' ⟨l, rfl, hR, hb⟩
  refine ⟨l, rfl, hb, fun wy hy => ?_⟩
  by_cases h0 : 0 < ss.length
  · obtain ⟨g, cap, hv, _, hc, _⟩ := hR.form (by simpa using h0)
    subst hv
    have hA : SA wy g 0 (ss.map leafS) := (SA.of_row hR (by simpa using h0)).below hy
    have := rootRef_any (ss.map leafS) g 0 cap wy (by simpa using hc) (by simp; omega) hA (fun s hs => by
      obtain ⟨t, _, rfl⟩ := List.mem_map.1 hs
      rw [leafS_size]; omega)
    simpa using this
  · obtain rfl : ss = [] := List.eq_nil_of_length_eq_zero (by omega)
    obtain ⟨p, c, rfl⟩ := hR.shape
    rw [List.map_nil, mth_nil]
    exact rootRef_nil p c wy

theorem hashes_any (sa sb : ByteArray) (v : Value) (ss : List ByteArray) (w : World) (ha : sa.size ≤ 1048576) (hb : sb.size ≤ 1048576) (hS : ArgS w v ss) (hn : ss.length ≤ 1048576) (hz : ∀ s ∈ ss, s.size ≤ 1048576) (ht : Table w) (hg : 2 < w.heap.size) :
    Calls Tryd.prog 3 #[.string sa, .string sb, v] w fun e w' => e = .returned (.bool true) ∧ Below w.heap.size w w' := by
  refine hashes_walk sa sb (mth (ss.map leafS)) v w (by omega) (by omega) ht hg ?_ (fun wx hx => ref_side v ss wx (hS.strs.below hx) hn hz)
  intro wx hx
  have htx := table_at hx hg ht
  have hgx : 2 < wx.heap.size := Nat.lt_of_lt_of_le hg hx.size
  rcases hS with ⟨rfl, rfl⟩ | ⟨a, c, rfl, h⟩
  · refine (roomy_nil wx).mono ?_
    rintro e w' ⟨rfl, rfl⟩
    refine ⟨_, rfl, Below.refl _ _, fun wy hy => ⟨?_, ?_⟩⟩
    · rw [List.map_nil, mth_nil]
      exact groveRoot_nil _ _ _ (table_at hy hgx htx) (Nat.lt_of_lt_of_le hgx hy.size)
    · refine (whole_nil wy).mono ?_
      rintro e w'' ⟨rfl, rfl⟩
      exact ⟨rfl, Below.refl _ _⟩
  · have hS : ArgS w (.slice (some a) ss.length c) ss := .inr ⟨a, c, rfl, h⟩
    have hsx := hS.strs.below hx
    refine (roomy_some a c ss wx (by omega) (fun i s hs => by rw [hx.cell (World.block_lt_of_cell? _ _ (h i s hs))]; exact h i s hs)).mono ?_
    rintro e w' ⟨rfl, hB, hb'⟩
    refine ⟨_, rfl, hb', fun wy hy => ?_⟩
    have hBy := hB.below hy hB.lt
    have hsz : wx.heap.size ≤ wy.heap.size := Nat.le_trans hb'.size hy.size
    have hxy : Below wx.heap.size wx wy := hb'.trans (hy.mono hb'.size)
    refine ⟨?_, ?_⟩
    · exact groveRoot_any ss wx.heap.size 0 (ss.length + 8) wy (by omega) (by omega) (fun i s hs => by rw [Nat.zero_add, hBy.cell]; exact roomL_low ss i s hs) (fun s hs => by have := hz s hs; omega) (table_at hxy hgx htx) (Nat.lt_of_lt_of_le hgx hsz)
    · refine (whole_some a wx.heap.size c ss wy (by omega) (hsx.below hxy) hBy).mono ?_
      rintro e w'' ⟨rfl, d, rfl⟩
      exact ⟨rfl, Below.drewN' (Below.refl _ _) d⟩
end Go.Proofs.YtlhohmlpcgbliaaDoor
namespace Go.Proofs.YtlhohmlpcgbliaaDoor
set_option maxRecDepth 100000
open Go.RowKit
attribute [local go_sem ↓] Go.wp_at_zero Go.wp_at_succ

/-- What a call of shown gives. -/
def ShowsAs (r : Option ByteArray) (w : World) (e : Ending) (w' : World) : Prop :=
  ∃ h ok, e = .returned (.tuple #[.string h, .bool ok]) ∧ h.size < 40000000000 ∧ r.isSome = ok ∧ (∀ x, r = some x → h = x) ∧ Below w.heap.size w w'

set_option maxHeartbeats 400000 in
theorem shown_one (leaf : ByteArray) (p : Option Addr) (c k i : Nat) (w : World) (hl : leaf.size < 40000000000) :
    Calls Tryd.prog 65 #[.string leaf, .int .i64 (i : Int), .int .i64 1, .slice p k c] w (ShowsAs (if k = 0 then some leaf else none) w) := by
  cases k with
  | zero =>
    go_enter Tryd.func65, Tryd.ntmps65
    go_wp2
    go_ret2
    exact ⟨leaf, true, by simp, hl, rfl, fun x h => by simpa using h, Below.refl _ _⟩
  | succ k =>
    go_enter Tryd.func65, Tryd.ntmps65
    go_wp2
    go_ret2
    exact ⟨leaf, false, (by simp; omega), hl, by simp, (fun x h => by simp at h), Below.refl _ _⟩

set_option maxHeartbeats 400000 in
theorem shown_none (leaf : ByteArray) (p : Option Addr) (c i n : Nat) (w : World) (hn : 2 ≤ n) :
    Calls Tryd.prog 65 #[.string leaf, .int .i64 (i : Int), .int .i64 (n : Int), .slice p 0 c] w (ShowsAs none w) := by
  have h1 : ((n : Int) == 1) = false := by simp; omega
  go_enter Tryd.func65, Tryd.ntmps65
  go_wp2
  go_ret2
  exact ⟨_, _, rfl, by decide, rfl, (fun x h => by cases h), Below.refl _ _⟩

set_option maxHeartbeats 400000 in
theorem shown_left (leaf x : ByteArray) (b o c k i n : Nat) (w : World) (r : Option ByteArray) (hn : 2 ≤ n) (hn2 : n ≤ 1099511627776) (hi : i < spl n) (hc : k + 1 ≤ c) (hk : k < 1000000000) (hx : w.cell? ⟨b, o + k, none⟩ = some (.string x)) (hxs : x.size < 40000000000)
  (hrec : Calls Tryd.prog 65 #[.string leaf, .int .i64 (i : Int), .int .i64 ((spl n : Nat) : Int), .slice (some ⟨b, o, none⟩) k c] w (ShowsAs r w)) :
    Calls Tryd.prog 65 #[.string leaf, .int .i64 (i : Int), .int .i64 (n : Int), .slice (some ⟨b, o, none⟩) (k + 1) c] w (ShowsAs (r.map fun h => nodeS h x) w) := by
  have hsp := fun wx => splitRef_any n wx hn hn2
  have hlt := spl_lt hn
  generalize spl n = q at *
  have h1 : ((n : Int) == 1) = false := by simp; omega
  have hsl := fun wx => slice_h wx b o (k + 1) c k (by omega)
  go_enter Tryd.func65, Tryd.ntmps65
  go_wp2_with (first | (go_at_call 62; refine (hsp _).mono ?_; rintro e w' ⟨rfl, rfl⟩) | (go_at_call 65; refine hrec.mono ?_; rintro e w' ⟨h, ok, rfl, hs, ho, hv, hb⟩) | (go_at_call 21; refine (nodeRef_any h x _ hs hxs).mono ?_; rintro e w'' ⟨rfl, hb2⟩))
  go_ret2
  refine ⟨_, _, rfl, by rw [nodeS_size]; decide, by rw [Option.isSome_map]; exact ho, fun y hy => ?_, hb.trans (hb2.mono hb.size)⟩
  obtain ⟨z, hz, rfl⟩ := Option.map_eq_some_iff.1 hy
  rw [hv z hz]

set_option maxHeartbeats 400000 in
theorem shown_right (leaf x : ByteArray) (b o c k i n : Nat) (w : World) (r : Option ByteArray) (hn : 2 ≤ n) (hn2 : n ≤ 1099511627776) (hin : i < n) (hi : spl n ≤ i) (hc : k + 1 ≤ c) (hk : k < 1000000000) (hx : w.cell? ⟨b, o + k, none⟩ = some (.string x)) (hxs : x.size < 40000000000)
  (hrec : Calls Tryd.prog 65 #[.string leaf, .int .i64 ((i - spl n : Nat) : Int), .int .i64 ((n - spl n : Nat) : Int), .slice (some ⟨b, o, none⟩) k c] w (ShowsAs r w)) :
    Calls Tryd.prog 65 #[.string leaf, .int .i64 (i : Int), .int .i64 (n : Int), .slice (some ⟨b, o, none⟩) (k + 1) c] w (ShowsAs (r.map fun h => nodeS x h) w) := by
  have hsp := fun wx => splitRef_any n wx hn hn2
  have hlt := spl_lt hn
  generalize spl n = q at *
  rw [Int.natCast_sub hi, Int.natCast_sub (Nat.le_of_lt hlt)] at hrec
  have h1 : ((n : Int) == 1) = false := by simp; omega
  have hsl := fun wx => slice_h wx b o (k + 1) c k (by omega)
  go_enter Tryd.func65, Tryd.ntmps65
  go_wp2_with (first | (go_at_call 62; refine (hsp _).mono ?_; rintro e w' ⟨rfl, rfl⟩) | (go_at_call 65; refine hrec.mono ?_; rintro e w' ⟨h, ok, rfl, hs, ho, hv, hb⟩) | (go_at_call 21; refine (nodeRef_any x h _ hxs hs).mono ?_; rintro e w'' ⟨rfl, hb2⟩))
  go_ret2
  refine ⟨_, _, rfl, by rw [nodeS_size]; decide, by rw [Option.isSome_map]; exact ho, fun y hy => ?_, hb.trans (hb2.mono hb.size)⟩
  obtain ⟨z, hz, rfl⟩ := Option.map_eq_some_iff.1 hy
  rw [hv z hz]

theorem shown_any (leaf : ByteArray) (hl : leaf.size < 40000000000) : ∀ (rl : List ByteArray) (p : Option Addr) (c i n : Nat) (w : World), i < n → n ≤ 1099511627776 → rl.length ≤ c → rl.length < 1000000000 → (∀ s ∈ rl, s.size < 40000000000) →
    (∀ (j : Nat) s, rl.reverse[j]? = some s → ∃ b o, p = some ⟨b, o, none⟩ ∧ w.cell? ⟨b, o + j, none⟩ = some (.string s)) →
    Calls Tryd.prog 65 #[.string leaf, .int .i64 (i : Int), .int .i64 (n : Int), .slice p rl.length c] w (ShowsAs (shR leaf rl i n) w) := by
  intro rl
  induction rl with
  | nil =>
    intro p c i n w hi hn _ _ _ _
    by_cases h1 : n = 1
    · subst h1
      exact shown_one leaf p c 0 i w hl
    · simp only [shR, if_neg h1]
      exact shown_none leaf p c i n w (by omega)
  | cons x r ih =>
    intro p c i n w hi hn hc hk hz hp
    by_cases h1 : n = 1
    · subst h1
      exact shown_one leaf p c (r.length + 1) i w hl
    · simp only [List.length_cons] at hc hk ⊢
      obtain ⟨b, o, rfl, hx⟩ := hp r.length x (by simp)
      have hp' : ∀ (j : Nat) s, r.reverse[j]? = some s → ∃ b' o', some (⟨b, o, none⟩ : Addr) = some ⟨b', o', none⟩ ∧ w.cell? ⟨b', o' + j, none⟩ = some (.string s) := fun j s hs => hp j s (by
        rw [List.reverse_cons, List.getElem?_append_left (List.getElem?_eq_some_iff.1 hs).1]; exact hs)
      have hz' : ∀ s ∈ r, s.size < 40000000000 := fun s hs => hz s (List.mem_cons_of_mem _ hs)
      have hxs := hz x (List.mem_cons_self ..)
      have hl2 := spl_lt (n := n) (by omega)
      simp only [shR, if_neg h1]
      by_cases h2 : i < spl n
      · rw [if_pos h2]
        exact shown_left leaf x b o c r.length i n w _ (by omega) hn h2 hc (by omega) hx hxs (ih (some ⟨b, o, none⟩) c i (spl n) w h2 (by omega) (by omega) (by omega) hz' hp')
      · rw [if_neg h2]
        exact shown_right leaf x b o c r.length i n w _ (by omega) hn hi (by omega) hc (by omega) hx hxs (ih (some ⟨b, o, none⟩) c (i - spl n) (n - spl n) w (by omega) (by omega) (by omega) (by omega) hz' hp')
end Go.Proofs.YtlhohmlpcgbliaaDoor
namespace Go.Proofs.YtlhohmlpcgbliaaDoor
set_option maxRecDepth 100000
open Go.RowKit
attribute [local go_sem ↓] Go.wp_at_zero Go.wp_at_succ

/-- What a call of both gives. -/
def BothAs (r : Option (ByteArray × ByteArray)) (w : World) (e : Ending) (w' : World) : Prop :=
  ∃ a b ok, e = .returned (.tuple #[.string a, .string b, .bool ok]) ∧ a.size < 40000000000 ∧ b.size < 40000000000 ∧ r.isSome = ok ∧ (∀ x, r = some x → a = x.1 ∧ b = x.2) ∧ Below w.heap.size w w'

theorem eqI (m n : Nat) (h : m ≠ n) : ((m : Int) == (n : Int)) = false := by simp; omega

set_option maxHeartbeats 400000 in
theorem both_all (old : ByteArray) (p : Option Addr) (c k m : Nat) (w : World) (hl : old.size < 40000000000) :
    Calls Tryd.prog 66 #[.int .i64 (m : Int), .int .i64 (m : Int), .bool true, .string old, .slice p k c] w (BothAs (if k = 0 then some (old, old) else none) w) := by
  cases k with
  | zero =>
    go_enter Tryd.func66, Tryd.ntmps66
    go_wp2
    go_ret3
    exact ⟨old, old, true, by simp, hl, hl, rfl, (fun x h => by cases h; exact ⟨rfl, rfl⟩), Below.refl _ _⟩
  | succ k =>
    go_enter Tryd.func66, Tryd.ntmps66
    go_wp2
    go_ret3
    exact ⟨old, old, false, (by simp; omega), hl, hl, by simp, (fun x h => by simp at h), Below.refl _ _⟩

set_option maxHeartbeats 400000 in
theorem both_one (old x : ByteArray) (b o c m : Nat) (w : World) (hx : w.cell? ⟨b, o, none⟩ = some (.string x)) (hl : x.size < 40000000000) :
    Calls Tryd.prog 66 #[.int .i64 (m : Int), .int .i64 (m : Int), .bool false, .string old, .slice (some ⟨b, o, none⟩) 1 c] w (BothAs (some (x, x)) w) := by
  go_enter Tryd.func66, Tryd.ntmps66
  go_wp2
  go_quiet (fail)
  go_wp2
  go_ret3
  exact ⟨x, x, true, rfl, hl, hl, rfl, (fun y h => by cases h; exact ⟨rfl, rfl⟩), Below.drewN' (Below.refl _ _) _⟩

set_option maxHeartbeats 400000 in
theorem both_not (old : ByteArray) (p : Option Addr) (c k m : Nat) (w : World) (hk : k ≠ 1) :
    Calls Tryd.prog 66 #[.int .i64 (m : Int), .int .i64 (m : Int), .bool false, .string old, .slice p k c] w (BothAs none w) := by
  have h1 : ((k : Int) != 1) = true := by simp; omega
  go_enter Tryd.func66, Tryd.ntmps66
  go_wp2
  go_ret3
  exact ⟨_, _, false, rfl, by decide, by decide, rfl, (fun y h => by cases h), Below.refl _ _⟩

set_option maxHeartbeats 400000 in
theorem both_none (old : ByteArray) (p : Option Addr) (c m n : Nat) (all : Bool) (w : World) (hn : m ≠ n) :
    Calls Tryd.prog 66 #[.int .i64 (m : Int), .int .i64 (n : Int), .bool all, .string old, .slice p 0 c] w (BothAs none w) := by
  have h1 := eqI m n hn
  go_enter Tryd.func66, Tryd.ntmps66
  go_wp2
  go_ret3
  exact ⟨_, _, false, rfl, by decide, by decide, rfl, (fun y h => by cases h), Below.refl _ _⟩

set_option maxHeartbeats 400000 in
theorem both_left (old x : ByteArray) (b o c k m n : Nat) (all : Bool) (w : World) (r : Option (ByteArray × ByteArray)) (hmn : m ≠ n) (hn : 2 ≤ n) (hn2 : n ≤ 1099511627776) (hm : m ≤ spl n) (hc : k + 1 ≤ c) (hk : k < 1000000000) (hx : w.cell? ⟨b, o + k, none⟩ = some (.string x)) (hxs : x.size < 40000000000)
  (hrec : Calls Tryd.prog 66 #[.int .i64 (m : Int), .int .i64 ((spl n : Nat) : Int), .bool all, .string old, .slice (some ⟨b, o, none⟩) k c] w (BothAs r w)) :
    Calls Tryd.prog 66 #[.int .i64 (m : Int), .int .i64 (n : Int), .bool all, .string old, .slice (some ⟨b, o, none⟩) (k + 1) c] w (BothAs (r.map fun q => (q.1, nodeS q.2 x)) w) := by
  have hsp := fun wx => splitRef_any n wx hn hn2
  have hlt := spl_lt hn
  generalize spl n = q at *
  have h1 := eqI m n hmn
  have hsl := fun wx => slice_h wx b o (k + 1) c k (by omega)
  go_enter Tryd.func66, Tryd.ntmps66
  go_wp2_with (first | (go_at_call 62; refine (hsp _).mono ?_; rintro e w' ⟨rfl, rfl⟩) | (go_at_call 66; refine hrec.mono ?_; rintro e w' ⟨s, t, ok, rfl, hs, ht, ho, hv, hb⟩) | (go_at_call 21; refine (nodeRef_any t x _ ht hxs).mono ?_; rintro e w'' ⟨rfl, hb2⟩))
  go_ret3
  refine ⟨_, _, _, rfl, hs, by rw [nodeS_size]; decide, by rw [Option.isSome_map]; exact ho, fun y hy => ?_, hb.trans (hb2.mono hb.size)⟩
  obtain ⟨z, hz, rfl⟩ := Option.map_eq_some_iff.1 hy
  obtain ⟨rfl, rfl⟩ := hv z hz
  exact ⟨rfl, rfl⟩

set_option maxHeartbeats 400000 in
theorem both_right (old x : ByteArray) (b o c k m n : Nat) (all : Bool) (w : World) (r : Option (ByteArray × ByteArray)) (hmn : m < n) (hn : 2 ≤ n) (hn2 : n ≤ 1099511627776) (hm : spl n < m) (hc : k + 1 ≤ c) (hk : k < 1000000000) (hx : w.cell? ⟨b, o + k, none⟩ = some (.string x)) (hxs : x.size < 40000000000)
  (hrec : Calls Tryd.prog 66 #[.int .i64 ((m - spl n : Nat) : Int), .int .i64 ((n - spl n : Nat) : Int), .bool false, .string old, .slice (some ⟨b, o, none⟩) k c] w (BothAs r w)) :
    Calls Tryd.prog 66 #[.int .i64 (m : Int), .int .i64 (n : Int), .bool all, .string old, .slice (some ⟨b, o, none⟩) (k + 1) c] w (BothAs (r.map fun q => (nodeS x q.1, nodeS x q.2)) w) := by
  have hsp := fun wx => splitRef_any n wx hn hn2
  have hlt := spl_lt hn
  generalize spl n = q at *
  have h1 := eqI m n (by omega)
  rw [Int.natCast_sub (Nat.le_of_lt hm), Int.natCast_sub (Nat.le_of_lt hlt)] at hrec
  have hsl := fun wx => slice_h wx b o (k + 1) c k (by omega)
  go_enter Tryd.func66, Tryd.ntmps66
  go_wp2_with (first | (go_at_call 62; refine (hsp _).mono ?_; rintro e w' ⟨rfl, rfl⟩) | (go_at_call 66; refine hrec.mono ?_; rintro e w' ⟨s, t, ok, rfl, hs, ht, ho, hv, hb⟩) | (go_at_call_of 21 (Value.string s); refine (nodeRef_any x s _ hxs hs).mono ?_; rintro e w2 ⟨rfl, hb2⟩))
  refine (nodeRef_any x t _ hxs ht).mono ?_
  rintro e w3 ⟨rfl, hb3⟩
  go_wp2
  go_ret3
  have hb4 := hb.trans (hb2.mono hb.size)
  refine ⟨_, _, _, rfl, by rw [nodeS_size]; decide, by rw [nodeS_size]; decide, by rw [Option.isSome_map]; exact ho, fun y hy => ?_, hb4.trans (hb3.mono hb4.size)⟩
  obtain ⟨z, hz, rfl⟩ := Option.map_eq_some_iff.1 hy
  obtain ⟨rfl, rfl⟩ := hv z hz
  exact ⟨rfl, rfl⟩

theorem both_any (old : ByteArray) (hl : old.size < 40000000000) : ∀ (rl : List ByteArray) (p : Option Addr) (c m n : Nat) (all : Bool) (w : World), 1 ≤ m → m ≤ n → n ≤ 1099511627776 → rl.length ≤ c → rl.length < 1000000000 → (∀ s ∈ rl, s.size < 40000000000) →
    (∀ (j : Nat) s, rl.reverse[j]? = some s → ∃ b o, p = some ⟨b, o, none⟩ ∧ w.cell? ⟨b, o + j, none⟩ = some (.string s)) →
    Calls Tryd.prog 66 #[.int .i64 (m : Int), .int .i64 (n : Int), .bool all, .string old, .slice p rl.length c] w (BothAs (boR old rl m n all) w) := by
  intro rl
  induction rl with
  | nil =>
    intro p c m n all w hm1 hmn hn _ _ _ _
    by_cases h1 : m = n
    · subst h1
      cases all with
      | true => simpa [boR] using both_all old p c 0 m w hl
      | false => simpa [boR] using both_not old p c 0 m w (by omega)
    · simp only [boR, if_neg h1]
      exact both_none old p c m n all w h1
  | cons x r ih =>
    intro p c m n all w hm1 hmn hn hc hk hz hp
    simp only [List.length_cons] at hc hk ⊢
    obtain ⟨b, o, rfl, hx⟩ := hp r.length x (by simp)
    have hxs := hz x (List.mem_cons_self ..)
    by_cases h1 : m = n
    · subst h1
      cases all with
      | true => simpa [boR] using both_all old (some ⟨b, o, none⟩) c (r.length + 1) m w hl
      | false =>
        by_cases hr : r = []
        · subst hr
          simpa [boR] using both_one old x b o c m w (by simpa using hx) hxs
        · have := List.length_pos_iff.2 hr
          simpa [boR, hr] using both_not old (some ⟨b, o, none⟩) c (r.length + 1) m w (by omega)
    · have hp' : ∀ (j : Nat) s, r.reverse[j]? = some s → ∃ b' o', some (⟨b, o, none⟩ : Addr) = some ⟨b', o', none⟩ ∧ w.cell? ⟨b', o' + j, none⟩ = some (.string s) := fun j s hs => hp j s (by
        rw [List.reverse_cons, List.getElem?_append_left (List.getElem?_eq_some_iff.1 hs).1]; exact hs)
      have hz' : ∀ s ∈ r, s.size < 40000000000 := fun s hs => hz s (List.mem_cons_of_mem _ hs)
      have hl2 := spl_lt (n := n) (by omega)
      simp only [boR, if_neg h1]
      by_cases h2 : m ≤ spl n
      · rw [if_pos h2]
        exact both_left old x b o c r.length m n all w _ h1 (by omega) hn h2 hc (by omega) hx hxs (ih (some ⟨b, o, none⟩) c m (spl n) all w hm1 h2 (by omega) (by omega) (by omega) hz' hp')
      · rw [if_neg h2]
        exact both_right old x b o c r.length m n all w _ (by omega) (by omega) hn (by omega) hc (by omega) hx hxs (ih (some ⟨b, o, none⟩) c (m - spl n) (n - spl n) false w (by omega) (by omega) (by omega) (by omega) (by omega) hz' hp')
end Go.Proofs.YtlhohmlpcgbliaaDoor
