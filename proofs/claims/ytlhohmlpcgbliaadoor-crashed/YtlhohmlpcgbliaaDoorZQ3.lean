import Derived.Test.YtlhohmlpcgbliaaDoorZH6
import Derived.Test.YtlhohmlpcgbliaaDoorZR25
import Derived.Test.YtlhohmlpcgbliaaDoorZF2
namespace Go.Proofs.YtlhohmlpcgbliaaDoor
set_option maxRecDepth 100000
open Go.RowKit

/-- Two disks without a script that have the same sectors and the same loose writes. -/
structure Same (D R : Dk) : Prop where
  nf : D.nf
  nf' : R.nf
  las : D.las = R.las
  fre : D.fre = R.fre
theorem Same.refl {D : Dk} (h : D.nf) : Same D D := ⟨h, h, rfl, rfl⟩
theorem Same.symm {D R : Dk} (h : Same D R) : Same R D := ⟨h.nf', h.nf, h.las.symm, h.fre.symm⟩
theorem Same.trans {D R T : Dk} (h : Same D R) (k : Same R T) : Same D T := ⟨h.nf, k.nf', h.las.trans k.las, h.fre.trans k.fre⟩
theorem Same.read {D R : Dk} (h : Same D R) (i : Nat) : D.read i = R.read i := by
  unfold Dk.read
  rw [h.las, h.fre]
theorem Same.slot {D R : Dk} (h : Same D R) (s e i : Nat) : D.slot s e i = R.slot s e i := by
  unfold Dk.slot
  rw [h.read]
theorem Dk.nf.write_eq {D : Dk} (h : D.nf) (i : Nat) (s : List Nat) : D.write i s = { D.tick with fre := D.fre ++ [(i, s)] } := by
  unfold Dk.write
  rw [if_pos h.goes, h.act]; rfl
theorem Dk.nf.flush_eq {D : Dk} (h : D.nf) : D.flush = { D.tick with las := putL D.fre D.las, fre := [] } := by
  unfold Dk.flush
  rw [if_pos h.goes, h.act]; rfl
theorem Same.write {D R : Dk} (h : Same D R) (i : Nat) (s : List Nat) : Same (D.write i s) (R.write i s) := by
  refine ⟨(h.nf.write i s).1, (h.nf'.write i s).1, ?_, ?_⟩
  · rw [(h.nf.write i s).2.2, (h.nf'.write i s).2.2, h.las]
  · rw [h.nf.write_eq, h.nf'.write_eq]
    show D.fre ++ _ = R.fre ++ _
    rw [h.fre]
theorem Same.flush {D R : Dk} (h : Same D R) : Same D.flush R.flush := by
  refine ⟨h.nf.flush.1, h.nf'.flush.1, ?_, by rw [h.nf.flush.2, h.nf'.flush.2]⟩
  rw [h.nf.flush_eq, h.nf'.flush_eq]
  show putL D.fre D.las = putL R.fre R.las
  rw [h.las, h.fre]
theorem Same.wrF {start each : Nat} : ∀ (f : Nat) {D R : Dk} (_ : Same D R) (i : Nat) (cs : List (List Nat)), Same (wrF start each f D i cs) (wrF start each f R i cs) := by
  intro f
  induction f with
  | zero => intro D R h i cs; exact h
  | succ f ih =>
    intro D R h i cs
    rw [Go.Proofs.YtlhohmlpcgbliaaDoor.wrF, Go.Proofs.YtlhohmlpcgbliaaDoor.wrF]
    split
    · exact h
    · rw [h.read]
      exact ih (h.write _ _) _ _
theorem Same.rowWrite {D R : Dk} (h : Same D R) (start each i : Nat) (cs : List (List Nat)) : Same (D.rowWrite start each i cs) (R.rowWrite start each i cs) := Same.wrF _ h _ _
theorem Same.hashB {D R : Dk} (h : Same D R) (l i : Nat) : D.hashB l i = R.hashB l i := by
  cases l with
  | zero => rw [Dk.hashB, Dk.hashB, h.slot]
  | succ l =>
    rw [Dk.hashB, Dk.hashB]
    congr 1
    refine List.map_congr_left fun j _ => ?_
    rw [h.slot]
theorem Same.hashes {D R : Dk} (h : Same D R) (l a b : Nat) : D.hashes l a b = R.hashes l a b := by
  unfold Dk.hashes
  exact List.map_congr_left fun j _ => h.hashB _ _
theorem Same.grwF (f : Nat) : ∀ {D R : Dk} (_ : Same D R) (first n l size : Nat), Same (grwF f D first n l size) (grwF f R first n l size) := by
  induction f with
  | zero => intro D R h _ _ _ _; exact h
  | succ f ih =>
    intro D R h first n l size
    rw [Go.Proofs.YtlhohmlpcgbliaaDoor.grwF, Go.Proofs.YtlhohmlpcgbliaaDoor.grwF]
    split
    · rw [h.hashes]
      exact ih (h.rowWrite _ _ _ _) _ _ _ _
    · exact h
theorem Same.grow {D R : Dk} (h : Same D R) (first n : Nat) : Same (D.grow first n) (R.grow first n) := Same.grwF _ h _ _ _ _
theorem Same.spnF (f : Nat) {D R : Dk} (h : Same D R) : ∀ (a n : Nat), spnF f D a n = spnF f R a n := by
  induction f with
  | zero => intro a n; rfl
  | succ f ih =>
    intro a n
    rw [Go.Proofs.YtlhohmlpcgbliaaDoor.spnF, Go.Proofs.YtlhohmlpcgbliaaDoor.spnF, h.slot, ih, ih]
theorem Same.span {D R : Dk} (h : Same D R) (a n : Nat) : D.span a n = R.span a n := Same.spnF _ h _ _
theorem Same.ckN {D R : Dk} (h : Same D R) : D.ckN = R.ckN := by unfold Dk.ckN; rw [h.read]
theorem Same.jwrite {D R : Dk} (h : Same D R) (f : Nat) (ss : List ByteArray) : Same (D.jwrite f ss) (R.jwrite f ss) := by
  unfold Dk.jwrite
  exact ((h.rowWrite _ _ _ _).flush.write _ _).flush
theorem Same.rmJ {D R : Dk} (h : Same D R) : Same D.rmJ R.rmJ := (h.write _ _).flush
theorem Same.put {D R : Dk} (h : Same D R) (f : Nat) (ss : List ByteArray) : Same (D.put f ss) (R.put f ss) := ((h.rowWrite _ _ _ _).grow _ _).flush
theorem Same.ckp {D R : Dk} (h : Same D R) (n : Nat) : Same (D.ckp n) (R.ckp n) := by
  unfold Dk.ckp
  rw [h.span]
  exact (h.write _ _).flush
theorem Same.endJ {D R : Dk} (h : Same D R) (f : Nat) (ss : List ByteArray) : Same (D.endJ f ss) (R.endJ f ss) := by
  unfold Dk.endJ
  rw [h.ckN]
  split
  · exact ((h.put _ _).ckp _).rmJ
  · exact h.rmJ
theorem Same.add {D R : Dk} (h : Same D R) (ss : List ByteArray) : Same (D.add ss) (R.add ss) := by
  unfold Dk.add
  rw [h.ckN]
  exact (h.jwrite _ _).endJ _ _
theorem Same.holds {D R : Dk} {E : List ByteArray} (h : Same D R) (hok : R.ok) (H : Holds D E) : Holds R E :=
  ⟨h.nf', hok, h.fre ▸ H.fre, H.len, H.siz, (h.read 0).symm.trans H.ck, (h.read 1).symm.trans H.jn, fun i s hs => (h.slot 6 3 i) ▸ H.ent i s hs, fun k i hi => (h.slot (tileAt k).1 4 i) ▸ H.til k i hi⟩
/-- A copy of what lasts, when nothing is loose. -/
theorem Same.of {D : Dk} (hnf : D.nf) (hok : D.ok) (hf : D.fre = []) : Same D (Dk.of D.las.flatten) := by
  rw [Dk.of_flat D hok]
  exact ⟨hnf, ⟨rfl, rfl⟩, rfl, hf⟩
theorem Holds.again {D : Dk} {E : List ByteArray} (H : Holds D E) : Holds (Dk.of D.las.flatten) E :=
  (Same.of H.nf H.ok H.fre).holds (Dk.of_ok H.ok.flat (flat_byt H.ok)) H

/-- The disk of a log that grows by groups: so many at a time, as the k-th tells. -/
def groF (g : Nat → Nat) : Nat → Nat → Dk → List ByteArray → Dk
  | 0, _, D, _ => D
  | f + 1, k, D, l => if l.length = 0 then D else groF g f (k + 1) (D.add (l.take (min (g k) l.length))) (l.drop (min (g k) l.length))
theorem groF_nil (g : Nat → Nat) (f k : Nat) (D : Dk) : groF g f k D [] = D := by
  cases f <;> rfl
theorem groF_step {g : Nat → Nat} {ts : List ByteArray} {D : Dk} {d k n : Nat} (hk : k ≤ d) (hd : d < ts.length) (hn : n = min (g k) (ts.length - d)) : groF g (ts.length - k) k D (ts.drop d) = groF g (ts.length - (k + 1)) (k + 1) (D.add ((ts.drop d).take n)) (ts.drop (d + n)) := by
  obtain ⟨m, hm⟩ : ∃ m, ts.length - k = m + 1 := ⟨ts.length - k - 1, by omega⟩
  rw [hm, groF, List.length_drop, if_neg (by omega), ← hn, List.drop_drop, show ts.length - (k + 1) = m by omega]

/-- The tiles of n entries hold what lies below them says. -/
def Dk.tilesOk (D : Dk) (n : Nat) : Prop := ∀ l, 4 ^ l ≤ n → ∀ i, i < n / 4 ^ l → D.hashF l i = true ∧ strOf (D.slot (tileAt l).1 4 i) = D.hashB l i
theorem Holds.tilesOk {D : Dk} {E : List ByteArray} (h : Holds D E) : D.tilesOk E.length := by
  intro l _ i hi
  have hp : 0 < 4 ^ l := Nat.pow_pos (by omega)
  have h1 : (i + 1) * 4 ^ l ≤ E.length := (Nat.le_div_iff_mul_le hp).1 hi
  refine ⟨?_, ?_⟩
  · cases l with
    | zero =>
      rw [Dk.hashF, h.ent i _ (List.getElem?_eq_getElem (by simpa using hi))]
      rfl
    | succ l => rfl
  · rw [h.til l i h1, hashB_mth (fun i s hs _ => h.ent i s hs) (Nat.le_refl _) l i (fun k _ => h.til k) h1, strOf_bts]
end Go.Proofs.YtlhohmlpcgbliaaDoor
namespace Go.Proofs.YtlhohmlpcgbliaaDoor
set_option maxRecDepth 100000
open Go.RowKit

/-- One act: a sector that is written, or a flush. -/
def Dk.doA (D : Dk) : Option (Nat × List Nat) → Dk
  | some x => D.write x.1 x.2
  | none => D.flush
def Dk.run (D : Dk) : List (Option (Nat × List Nat)) → Dk
  | [] => D
  | a :: r => (D.doA a).run r
theorem Dk.run_append (xs bs : List (Option (Nat × List Nat))) : ∀ D : Dk, D.run (xs ++ bs) = (D.run xs).run bs := by
  induction xs with
  | nil => intro D; rfl
  | cons a r ih => intro D; exact ih _
theorem down_act {D : Dk} (h : D.failed = true) : D.act = D ∧ D.goes = false := by
  have ht : D.trip = D := by simp [Dk.trip, Dk.trips, h]
  exact ⟨by simp [Dk.act, ht, h], by simp [Dk.goes, ht, h]⟩
theorem down_write {D : Dk} (h : D.failed = true) (i : Nat) (s : List Nat) : D.write i s = D := by
  unfold Dk.write
  rw [if_neg (by rw [(down_act h).2]; simp), (down_act h).1]
theorem down_flush {D : Dk} (h : D.failed = true) : D.flush = D := by
  unfold Dk.flush
  rw [if_neg (by rw [(down_act h).2]; simp), (down_act h).1]
theorem down_doA {D : Dk} (h : D.failed = true) (a : Option (Nat × List Nat)) : D.doA a = D := by
  cases a with
  | none => exact down_flush h
  | some x => exact down_write h _ _
theorem down_run {D : Dk} (h : D.failed = true) (xs : List (Option (Nat × List Nat))) : D.run xs = D := by
  induction xs with
  | nil => rfl
  | cons a r ih => rw [Dk.run, down_doA h, ih]
theorem down_wrF {D : Dk} (h : D.failed = true) (start each : Nat) : ∀ (f i : Nat) (cs : List (List Nat)), wrF start each f D i cs = D := by
  intro f
  induction f with
  | zero => intro i cs; rfl
  | succ f ih =>
    intro i cs
    rw [wrF]
    split
    · rfl
    · rw [down_write h, ih]
theorem down_rowWrite {D : Dk} (h : D.failed = true) (start each i : Nat) (cs : List (List Nat)) : D.rowWrite start each i cs = D := down_wrF h _ _ _ _ _
theorem down_grwF {D : Dk} (h : D.failed = true) : ∀ (f first n l size : Nat), grwF f D first n l size = D := by
  intro f
  induction f with
  | zero => intro _ _ _ _; rfl
  | succ f ih =>
    intro first n l size
    rw [grwF]
    split
    · rw [down_rowWrite h, ih]
    · rfl
theorem down_jwrite {D : Dk} (h : D.failed = true) (f : Nat) (ss : List ByteArray) : D.jwrite f ss = D := by
  unfold Dk.jwrite
  rw [down_rowWrite h, down_flush h, down_write h, down_flush h]
theorem down_rmJ {D : Dk} (h : D.failed = true) : D.rmJ = D := by
  unfold Dk.rmJ
  rw [down_write h, down_flush h]
theorem down_put {D : Dk} (h : D.failed = true) (f : Nat) (ss : List ByteArray) : D.put f ss = D := by
  unfold Dk.put Dk.grow
  rw [down_rowWrite h, down_grwF h, down_flush h]
theorem down_ckp {D : Dk} (h : D.failed = true) (n : Nat) : D.ckp n = D := by
  unfold Dk.ckp
  rw [down_write h, down_flush h]
theorem down_endJ {D : Dk} (h : D.failed = true) (f : Nat) (ss : List ByteArray) : D.endJ f ss = D := by
  unfold Dk.endJ
  split
  · rw [down_put h, down_ckp h, down_rmJ h]
  · exact down_rmJ h
theorem down_add {D : Dk} (h : D.failed = true) (ss : List ByteArray) : D.add ss = D := by
  unfold Dk.add
  rw [down_jwrite h, down_endJ h]

/-- The same sectors and loose writes. -/
structure Like (D R : Dk) : Prop where
  las : D.las = R.las
  fre : D.fre = R.fre
theorem Like.read {D R : Dk} (h : Like D R) (i : Nat) : D.read i = R.read i := by
  unfold Dk.read
  rw [h.las, h.fre]
theorem Like.slot {D R : Dk} (h : Like D R) (s e i : Nat) : D.slot s e i = R.slot s e i := by
  unfold Dk.slot
  rw [h.read]
theorem Like.hashB {D R : Dk} (h : Like D R) (l i : Nat) : D.hashB l i = R.hashB l i := by
  cases l with
  | zero => rw [Dk.hashB, Dk.hashB, h.slot]
  | succ l =>
    rw [Dk.hashB, Dk.hashB]
    congr 1
    refine List.map_congr_left fun j _ => ?_
    rw [h.slot]
theorem Like.hashes {D R : Dk} (h : Like D R) (l a b : Nat) : D.hashes l a b = R.hashes l a b := by
  unfold Dk.hashes
  exact List.map_congr_left fun j _ => h.hashB _ _
theorem Like.spnF (f : Nat) {D R : Dk} (h : Like D R) : ∀ (a n : Nat), spnF f D a n = spnF f R a n := by
  induction f with
  | zero => intro a n; rfl
  | succ f ih =>
    intro a n
    rw [Go.Proofs.YtlhohmlpcgbliaaDoor.spnF, Go.Proofs.YtlhohmlpcgbliaaDoor.spnF, h.slot, ih, ih]
theorem Like.span {D R : Dk} (h : Like D R) (a n : Nat) : D.span a n = R.span a n := Like.spnF _ h _ _
theorem Like.ckN {D R : Dk} (h : Like D R) : D.ckN = R.ckN := by unfold Dk.ckN; rw [h.read]
theorem Dk.nf.doA {R : Dk} (h : R.nf) (a : Option (Nat × List Nat)) : (R.doA a).nf := by
  cases a with
  | none => exact h.flush.1
  | some x => exact (h.write x.1 x.2).1
theorem Dk.nf.run {R : Dk} (h : R.nf) (xs : List (Option (Nat × List Nat))) : (R.run xs).nf := by
  induction xs generalizing R with
  | nil => exact h
  | cons a r ih => exact ih (h.doA a)
theorem goes_act {D : Dk} (hg : D.goes = true) : D.act = D.tick := by
  unfold Dk.goes at hg
  have ht : D.trip = D := by
    unfold Dk.trip at *
    split
    · rename_i h; rw [if_pos h] at hg; simp [Dk.fail] at hg
    · rfl
  unfold Dk.act
  rw [if_neg (by intro e; rw [e] at hg; simp at hg), ht]
theorem stops_act {D : Dk} (hg : D.goes = false) : D.act.failed = true := by
  unfold Dk.goes at hg
  unfold Dk.act
  have h : D.trip.failed = true := by simpa using hg
  rw [if_pos h]
  exact h
theorem like_doA {D R : Dk} (hR : R.nf) (h : Like D R) (a : Option (Nat × List Nat)) : (D.doA a).failed = true ∨ Like (D.doA a) (R.doA a) := by
  by_cases hg : D.goes = true
  · right
    cases a with
    | none =>
      show Like D.flush R.flush
      rw [hR.flush_eq, Dk.flush, if_pos hg, goes_act hg]
      exact ⟨by show putL D.fre D.las = putL R.fre R.las; rw [h.las, h.fre], rfl⟩
    | some x =>
      show Like (D.write x.1 x.2) (R.write x.1 x.2)
      rw [hR.write_eq, Dk.write, if_pos hg, goes_act hg]
      exact ⟨h.las, by show D.fre ++ _ = R.fre ++ _; rw [h.fre]⟩
  · left
    have hg' : D.goes = false := by simpa using hg
    cases a with
    | none =>
      show D.flush.failed = true
      rw [Dk.flush, if_neg hg]
      exact stops_act hg'
    | some x =>
      show (D.write x.1 x.2).failed = true
      rw [Dk.write, if_neg hg]
      exact stops_act hg'
theorem like_run (xs : List (Option (Nat × List Nat))) : ∀ {D R : Dk}, R.nf → (D.failed = true ∨ Like D R) → (D.run xs).failed = true ∨ Like (D.run xs) (R.run xs) := by
  induction xs with
  | nil => intro D R _ h; exact h
  | cons a r ih =>
    intro D R hR h
    refine ih (hR.doA a) ?_
    rcases h with h | h
    · left; rw [down_doA h]; exact h
    · exact like_doA hR h a
/-- What f does to every disk that is like R, or has failed, are these acts. -/
def Does (f : Dk → Dk) (R : Dk) (xs : List (Option (Nat × List Nat))) : Prop := ∀ D, (D.failed = true ∨ Like D R) → f D = D.run xs
theorem Does.comp {f g : Dk → Dk} {R : Dk} {xs bs : List (Option (Nat × List Nat))} (hR : R.nf) (h1 : Does f R xs) (h2 : Does g (R.run xs) bs) : Does (fun D => g (f D)) R (xs ++ bs) := by
  intro D h
  show g (f D) = _
  rw [h1 D h, Dk.run_append]
  exact h2 _ (like_run xs hR h)
theorem Does.at {f : Dk → Dk} {R : Dk} {xs : List (Option (Nat × List Nat))} (h : Does f R xs) : f R = R.run xs := h R (.inr ⟨rfl, rfl⟩)
def wrA (start each : Nat) : Nat → Dk → Nat → List (List Nat) → List (Option (Nat × List Nat))
  | 0, _, _, _ => []
  | f + 1, R, i, cs => if cs.length = 0 then [] else
    some (start + i / each, fillS each (R.read (start + i / each)) i (cs.take (takes each i cs.length))) ::
    wrA start each f (R.write (start + i / each) (fillS each (R.read (start + i / each)) i (cs.take (takes each i cs.length)))) (i + takes each i cs.length) (cs.drop (takes each i cs.length))
theorem does_wrF (start each : Nat) : ∀ (f : Nat) (R : Dk) (i : Nat) (cs : List (List Nat)), R.nf → Does (fun D => wrF start each f D i cs) R (wrA start each f R i cs) := by
  intro f
  induction f with
  | zero => intro R i cs _ D _; rfl
  | succ f ih =>
    intro R i cs hR D h
    show wrF start each (f + 1) D i cs = _
    rcases h with h | h
    · rw [down_wrF h, down_run h]
    · rw [wrF, wrA]
      split
      · rfl
      · rw [h.read]
        show _ = (D.write _ _).run _
        exact ih _ _ _ ((hR.write _ _).1) _ (like_doA hR h (some (_, _)))
theorem does_rowWrite {R : Dk} (hR : R.nf) (start each i : Nat) (cs : List (List Nat)) : Does (fun D => D.rowWrite start each i cs) R (wrA start each cs.length R i cs) := does_wrF _ _ _ _ _ _ hR
def grA : Nat → Dk → Nat → Nat → Nat → Nat → List (Option (Nat × List Nat))
  | 0, _, _, _, _, _ => []
  | f + 1, R, first, n, l, size => if first / size < n / size then
      wrA (tileAt l).1 4 ((R.hashes l (first / size) (n / size)).map bts).length R (first / size) ((R.hashes l (first / size) (n / size)).map bts) ++
        grA f (R.rowWrite (tileAt l).1 4 (first / size) ((R.hashes l (first / size) (n / size)).map bts)) first n (l + 1) (size * 4)
    else []
theorem does_grwF : ∀ (f : Nat) (R : Dk) (first n l size : Nat), R.nf → Does (fun D => grwF f D first n l size) R (grA f R first n l size) := by
  intro f
  induction f with
  | zero => intro R _ _ _ _ _ D _; rfl
  | succ f ih =>
    intro R first n l size hR D h
    show grwF (f + 1) D first n l size = _
    rcases h with h | h
    · rw [down_grwF h, down_run h]
    · rw [grwF, grA]
      split
      · rw [h.hashes, Dk.run_append]
        have h1 := does_rowWrite hR (tileAt l).1 4 (first / size) ((R.hashes l (first / size) (n / size)).map bts)
        have h2 := h1 D (.inr h)
        have h3 := h1.at
        have h4 := like_run (wrA (tileAt l).1 4 ((R.hashes l (first / size) (n / size)).map bts).length R (first / size) ((R.hashes l (first / size) (n / size)).map bts)) hR (.inr h)
        simp only at h2 h3
        rw [h2, h3]
        exact ih _ _ _ _ _ (hR.run _) _ h4
      · rfl
/-- The acts of adding. -/
def jwA (R : Dk) (f : Nat) (ss : List ByteArray) : List (Option (Nat × List Nat)) := wrA 2 3 (packs ss).length R 0 (packs ss) ++ [none, some (1, hdSec f ss.length), none]
def ptA (R : Dk) (f : Nat) (ss : List ByteArray) : List (Option (Nat × List Nat)) := wrA 6 3 (packs ss).length R f (packs ss) ++ (grA (f + ss.length) (R.rowWrite 6 3 f (packs ss)) f (f + ss.length) 0 1 ++ [none])
def ckA (R : Dk) (n : Nat) : List (Option (Nat × List Nat)) := [some (0, ckSec n (bts (R.span 0 n))), none]
def rmA : List (Option (Nat × List Nat)) := [some (1, zer), none]
def enA (R : Dk) (f : Nat) (ss : List ByteArray) : List (Option (Nat × List Nat)) := if R.ckN = f then ptA R f ss ++ (ckA (R.put f ss) (f + ss.length) ++ rmA) else rmA
def adA (R : Dk) (ss : List ByteArray) : List (Option (Nat × List Nat)) := jwA R R.ckN ss ++ enA (R.jwrite R.ckN ss) R.ckN ss
theorem does_jwrite {R : Dk} (hR : R.nf) (f : Nat) (ss : List ByteArray) : Does (fun D => D.jwrite f ss) R (jwA R f ss) := by
  intro D h
  show ((D.rowWrite 2 3 0 (packs ss)).flush.write 1 (hdSec f ss.length)).flush = _
  have h1 := does_rowWrite hR 2 3 0 (packs ss) D h
  simp only at h1
  rw [jwA, Dk.run_append, h1]
  rfl
theorem does_put {R : Dk} (hR : R.nf) (f : Nat) (ss : List ByteArray) : Does (fun D => D.put f ss) R (ptA R f ss) := by
  intro D h
  show (grwF (f + ss.length) (D.rowWrite 6 3 f (packs ss)) f (f + ss.length) 0 1).flush = _
  have h1 := does_rowWrite hR 6 3 f (packs ss)
  have h2 := h1 D h
  have h3 := h1.at
  have h4 := like_run (wrA 6 3 (packs ss).length R f (packs ss)) hR h
  simp only at h2 h3
  rw [ptA, Dk.run_append, Dk.run_append, h2, h3]
  have h5 := does_grwF (f + ss.length) _ f (f + ss.length) 0 1 (hR.run (wrA 6 3 (packs ss).length R f (packs ss))) _ h4
  simp only at h5
  rw [h5]
  rfl
theorem does_ckp {R : Dk} (n : Nat) : Does (fun D => D.ckp n) R (ckA R n) := by
  intro D h
  show D.ckp n = _
  rcases h with h | h
  · rw [down_ckp h, down_run h]
  · unfold Dk.ckp ckA
    rw [h.span]
    rfl
theorem does_rmJ (R : Dk) : Does (fun D => D.rmJ) R rmA := fun _ _ => rfl
theorem does_endJ {R : Dk} (hR : R.nf) (f : Nat) (ss : List ByteArray) : Does (fun D => D.endJ f ss) R (enA R f ss) := by
  intro D h
  show D.endJ f ss = _
  rcases h with h | h
  · rw [down_endJ h, down_run h]
  · unfold Dk.endJ enA
    rw [h.ckN]
    split
    · have h1 := does_put hR f ss
      have h2 : R.put f ss = R.run (ptA R f ss) := h1.at
      have h3 := (h1.comp hR (h2 ▸ (does_ckp (R := R.put f ss) (f + ss.length)))).comp hR (does_rmJ _) D (.inr h)
      simp only at h3
      rw [h3, List.append_assoc, h2]
    · rfl
theorem does_add {R : Dk} (hR : R.nf) (ss : List ByteArray) : Does (fun D => D.add ss) R (adA R ss) := by
  intro D h
  show D.add ss = _
  rcases h with h | h
  · rw [down_add h, down_run h]
  · unfold Dk.add adA
    rw [h.ckN]
    have h1 := does_jwrite hR R.ckN ss
    have h2 : R.jwrite R.ckN ss = R.run (jwA R R.ckN ss) := h1.at
    have h3 := does_endJ (hR.run (jwA R R.ckN ss)) R.ckN ss
    rw [← h2] at h3
    have h4 := (h1.comp hR (h2 ▸ h3)) D (.inr h)
    simp only at h4
    rw [h2]
    exact h4

/-- A disk with a script, over these acts. -/
theorem run_in : ∀ (xs : List (Option (Nat × List Nat))) (D R : Dk), R.nf → Like D R → D.failed = false → D.set = true → (xs.length : Int) ≤ D.left → D.left ≤ 9223372036854775807 → 0 ≤ D.acts → D.acts + xs.length ≤ 4611686018427387904 →
    (D.run xs).failed = false ∧ (D.run xs).set = true ∧ (D.run xs).left = D.left - xs.length ∧ (D.run xs).acts = D.acts + xs.length ∧ (D.run xs).keep = D.keep ∧ Like (D.run xs) (R.run xs) := by
  intro xs
  induction xs with
  | nil => intro D R _ h hf hs _ _ _ _; exact ⟨hf, hs, by simp [Dk.run], by simp [Dk.run], rfl, h⟩
  | cons a r ih =>
    intro D R hR h hf hs hl hl2 ha0 ha
    rw [List.length_cons] at hl ha
    have htr : D.trip = D := by
      unfold Dk.trip Dk.trips
      rw [if_neg]
      simp only [hs, hf, Bool.true_and, Bool.not_false, Bool.and_true, beq_iff_eq]
      omega
    have hg : D.goes = true := by unfold Dk.goes; rw [htr, hf]; rfl
    have hact := goes_act hg
    have hw1 : wrap64 (D.left - 1) = D.left - 1 := by unfold wrap64; omega
    have hw2 : wrap64 (D.acts + 1) = D.acts + 1 := by unfold wrap64; omega
    have hd : (D.doA a).failed = false ∧ (D.doA a).set = true ∧ (D.doA a).left = D.left - 1 ∧ (D.doA a).acts = D.acts + 1 ∧ (D.doA a).keep = D.keep := by
      cases a with
      | none =>
        show D.flush.failed = _ ∧ D.flush.set = _ ∧ D.flush.left = _ ∧ D.flush.acts = _ ∧ D.flush.keep = _
        rw [Dk.flush, if_pos hg, hact]
        exact ⟨hf, hs, hw1, hw2, rfl⟩
      | some x =>
        show (D.write _ _).failed = _ ∧ (D.write _ _).set = _ ∧ (D.write _ _).left = _ ∧ (D.write _ _).acts = _ ∧ (D.write _ _).keep = _
        rw [Dk.write, if_pos hg, hact]
        exact ⟨hf, hs, hw1, hw2, rfl⟩
    obtain ⟨d1, d2, d3, d4, d5⟩ := hd
    have hlk : Like (D.doA a) (R.doA a) := by
      rcases like_doA hR h a with h1 | h1
      · rw [d1] at h1; simp at h1
      · exact h1
    have := ih (D.doA a) (R.doA a) (hR.doA a) hlk d1 d2 (by rw [d3]; omega) (by rw [d3]; omega) (by rw [d4]; omega) (by rw [d4]; omega)
    rw [d3, d4, d5] at this
    obtain ⟨e1, e2, e3, e4, e5, e6⟩ := this
    refine ⟨e1, e2, ?_, ?_, e5, e6⟩
    · show ((D.doA a).run r).left = _
      rw [e3, List.length_cons]; omega
    · show ((D.doA a).run r).acts = _
      rw [e4, List.length_cons]; omega
theorem run_out (xs : List (Option (Nat × List Nat))) (D R : Dk) (hR : R.nf) (h : Like D R) (hf : D.failed = false) (hs : D.set = true) (t : Nat) (ht : D.left = t) (hta : t < xs.length) (ht2 : (t : Int) ≤ 9223372036854775807) (ha0 : 0 ≤ D.acts) (ha : D.acts + xs.length ≤ 4611686018427387904) :
    (D.run xs).failed = true ∧ (D.run xs).acts = D.acts + t ∧ (D.run xs).fre = [] ∧ (D.run xs).las = failL D.keep 0 (R.run (xs.take t)).fre (R.run (xs.take t)).las := by
  have h1 := run_in (xs.take t) D R hR h hf hs (by rw [ht, List.length_take]; omega) (by omega) ha0 (by rw [List.length_take]; omega)
  rw [List.length_take, Nat.min_eq_left (by omega)] at h1
  obtain ⟨e1, e2, e3, e4, e5, e6⟩ := h1
  have hsp : xs = xs.take t ++ (xs[t] :: xs.drop (t + 1)) := by rw [← List.drop_eq_getElem_cons hta, List.take_append_drop]
  rw [hsp, Dk.run_append, Dk.run]
  have hk : (xs.take t ++ xs[t] :: xs.drop (t + 1)).take t = xs.take t := by rw [← hsp]
  rw [hk]
  generalize D.run (xs.take t) = T at *
  generalize R.run (xs.take t) = S at *
  have htp : T.trips = true := by
    unfold Dk.trips
    rw [e1, e2, e3, ht]
    simp
  have htr : T.trip = T.fail := by unfold Dk.trip; rw [if_pos htp]
  have hac : T.act = T.fail := by unfold Dk.act; rw [htr]; rfl
  have hgo : T.goes = false := by unfold Dk.goes; rw [htr]; rfl
  have hd : T.doA xs[t] = T.fail := by
    cases hq : xs[t] with
    | none => show T.flush = _; rw [Dk.flush, if_neg (by rw [hgo]; simp), hac]
    | some x => show T.write _ _ = _; rw [Dk.write, if_neg (by rw [hgo]; simp), hac]
  rw [hd, down_run (by rfl)]
  refine ⟨rfl, e4, rfl, ?_⟩
  show failL T.keep 0 T.fre T.las = _
  rw [e5, e6.fre, e6.las]
end Go.Proofs.YtlhohmlpcgbliaaDoor
namespace Go.Proofs.YtlhohmlpcgbliaaDoor
set_option maxRecDepth 100000

/-- What is met on the way up: the hash of the first ones, and of all; none where the list is too short or too long. -/
def cl : Nat → ByteArray → ByteArray → Nat → Nat → List ByteArray → Option (ByteArray × ByteArray)
  | 0, p, w, _, last, l => if last = 0 ∧ l = [] then some (p, w) else none
  | f + 1, p, w, i, last, l =>
    if last = 0 then (if l = [] then some (p, w) else none)
    else if i % 2 = 1 then (match l with
      | [] => none
      | x :: r => cl f (nodeS x p) (nodeS x w) (i / 2) (last / 2) r)
    else if i < last then (match l with
      | [] => none
      | x :: r => cl f p (nodeS w x) (i / 2) (last / 2) r)
    else cl f p w (i / 2) (last / 2) l

theorem cl_zero (f : Nat) (p w : ByteArray) (i : Nat) (l : List ByteArray) : cl f p w i 0 l = if l = [] then some (p, w) else none := by
  cases f <;> simp [cl]

/-- More fuel than bits is enough. -/
theorem cl_fuel : ∀ (f g : Nat) (p w : ByteArray) (i last : Nat) (l : List ByteArray), last < 2 ^ f → last < 2 ^ g → cl f p w i last l = cl g p w i last l := by
  intro f
  induction f with
  | zero =>
    intro g p w i last l h1 _
    obtain rfl : last = 0 := by simpa using h1
    rw [cl_zero, cl_zero]
  | succ f ih =>
    intro g p w i last l h1 h2
    cases g with
    | zero =>
      obtain rfl : last = 0 := by simpa using h2
      rw [cl_zero, cl_zero]
    | succ g =>
      have h3 : last / 2 < 2 ^ f := by rw [Nat.pow_succ] at h1; omega
      have h4 : last / 2 < 2 ^ g := by rw [Nat.pow_succ] at h2; omega
      simp only [cl]
      cases l with
      | nil => simp only [ih g p w (i / 2) (last / 2) [] h3 h4]
      | cons x r => simp only [ih g _ _ (i / 2) (last / 2) _ h3 h4]

/-- Nothing is left of the list, but the way goes on. -/
theorem cl_short : ∀ (f : Nat) (p w : ByteArray) (i last : Nat), i ≤ last → 0 < last → last < 2 ^ f → cl f p w i last [] = none := by
  intro f
  induction f with
  | zero => intro p w i last _ h0 h1; simp at h1; omega
  | succ f ih =>
    intro p w i last h h0 h1
    rw [Nat.pow_succ] at h1
    simp only [cl]
    rw [if_neg (by omega)]
    by_cases h2 : i % 2 = 1
    · rw [if_pos h2]
    · rw [if_neg h2]
      by_cases h3 : i < last
      · rw [if_pos h3]
      · rw [if_neg h3]
        exact ih p w (i / 2) (last / 2) (by omega) (by omega) (by omega)

/-- Up the left half, and then the right half's hash. -/
theorem cl_left : ∀ (h f : Nat) (p w : ByteArray) (i last : Nat) (l : List ByteArray) (x : ByteArray), i < 2 ^ h → 2 ^ h ≤ last → last < 2 * 2 ^ h → h < f →
    cl f p w i last (l ++ [x]) = (cl f p w i (2 ^ h - 1) l).map fun r => (r.1, nodeS r.2 x) := by
  intro h
  induction h with
  | zero =>
    intro f p w i last l x h1 h2 h3 hf
    obtain ⟨f, rfl⟩ : ∃ g, f = g + 1 := ⟨f - 1, by omega⟩
    have e1 : i = 0 := by omega
    have e2 : last = 1 := by omega
    subst e1; subst e2
    simp only [cl]
    cases l with
    | nil => simp [cl_zero]
    | cons y r => simp [cl_zero]
  | succ h ih =>
    intro f p w i last l x h1 h2 h3 hf
    obtain ⟨f, rfl⟩ : ∃ g, f = g + 1 := ⟨f - 1, by omega⟩
    have hp := Nat.two_pow_pos h
    rw [Nat.pow_succ] at h1 h2 h3 ⊢
    have hfp : 2 ^ h < 2 ^ f := Nat.pow_lt_pow_right (by omega) (by omega)
    have hlf : last / 2 < 2 ^ f := by
      have : 2 ^ (h + 1) ≤ 2 ^ f := Nat.pow_le_pow_right (by omega) (by omega)
      rw [Nat.pow_succ] at this; omega
    have e3 : (2 ^ h * 2 - 1) / 2 = 2 ^ h - 1 := by omega
    simp only [cl]
    rw [if_neg (show ¬ last = 0 by omega), if_neg (show ¬ 2 ^ h * 2 - 1 = 0 by omega), e3]
    by_cases h4 : i % 2 = 1
    · rw [if_pos h4, if_pos h4]
      cases l with
      | nil => simpa using cl_short f _ _ (i / 2) (last / 2) (by omega) (by omega) hlf
      | cons y r => simpa using ih f _ _ (i / 2) (last / 2) r x (by omega) (by omega) (by omega) (by omega)
    · rw [if_neg h4, if_neg h4, if_pos (show i < last by omega), if_pos (show i < 2 ^ h * 2 - 1 by omega)]
      cases l with
      | nil => simpa using cl_short f _ _ (i / 2) (last / 2) (by omega) (by omega) hlf
      | cons y r => simpa using ih f _ _ (i / 2) (last / 2) r x (by omega) (by omega) (by omega) (by omega)

/-- Up the right half, and then the left half's hash. -/
theorem cl_right : ∀ (h f : Nat) (p w : ByteArray) (i last : Nat) (l : List ByteArray) (x : ByteArray), i ≤ last → last < 2 ^ h → h < f →
    cl f p w (2 ^ h + i) (2 ^ h + last) (l ++ [x]) = (cl f p w i last l).map fun r => (nodeS x r.1, nodeS x r.2) := by
  intro h
  induction h with
  | zero =>
    intro f p w i last l x h1 h2 hf
    obtain ⟨f, rfl⟩ : ∃ g, f = g + 1 := ⟨f - 1, by omega⟩
    have e2 : last = 0 := by omega
    have e1 : i = 0 := by omega
    subst e1; subst e2
    simp only [cl]
    cases l with
    | nil => simp [cl_zero]
    | cons y r => simp [cl_zero]
  | succ h ih =>
    intro f p w i last l x h1 h2 hf
    obtain ⟨f, rfl⟩ : ∃ g, f = g + 1 := ⟨f - 1, by omega⟩
    have hp := Nat.two_pow_pos h
    have hff : 2 ^ (h + 1) ≤ 2 ^ f := Nat.pow_le_pow_right (by omega) (by omega)
    rw [Nat.pow_succ] at h2 hff ⊢
    have e1 : (2 ^ h * 2 + i) / 2 = 2 ^ h + i / 2 := by omega
    have e2 : (2 ^ h * 2 + last) / 2 = 2 ^ h + last / 2 := by omega
    have e3 : (2 ^ h * 2 + i) % 2 = i % 2 := by omega
    by_cases h0 : last = 0
    · obtain rfl : i = 0 := by omega
      subst h0
      have := ih f p w 0 0 l x (Nat.le_refl _) hp (by omega)
      simp only [Nat.add_zero, cl_zero] at this ⊢
      simp only [cl]
      rw [if_neg (show ¬ 2 ^ h * 2 = 0 by omega), if_neg (show ¬ (2 ^ h * 2) % 2 = 1 by omega), if_neg (by omega), show 2 ^ h * 2 / 2 = 2 ^ h by omega]
      exact this
    · simp only [cl]
      rw [if_neg (show ¬ 2 ^ h * 2 + last = 0 by omega), if_neg h0, e1, e2, e3]
      by_cases h4 : i % 2 = 1
      · rw [if_pos h4, if_pos h4]
        cases l with
        | nil => simpa using cl_short f _ _ (2 ^ h + i / 2) (2 ^ h + last / 2) (by omega) (by omega) (by omega)
        | cons y r => simpa using ih f _ _ (i / 2) (last / 2) r x (by omega) (by omega) (by omega)
      · rw [if_neg h4, if_neg h4]
        by_cases h5 : i < last
        · rw [if_pos (show 2 ^ h * 2 + i < 2 ^ h * 2 + last by omega), if_pos h5]
          cases l with
          | nil => simpa using cl_short f _ _ (2 ^ h + i / 2) (2 ^ h + last / 2) (by omega) (by omega) (by omega)
          | cons y r => simpa using ih f _ _ (i / 2) (last / 2) r x (by omega) (by omega) (by omega)
        · rw [if_neg (show ¬ 2 ^ h * 2 + i < 2 ^ h * 2 + last by omega), if_neg h5]
          exact ih f p w (i / 2) (last / 2) l x (by omega) (by omega) (by omega)

/-- What the reference shows, the list read from its end. -/
def shR (leaf : ByteArray) : List ByteArray → Nat → Nat → Option ByteArray
  | [], _, n => if n = 1 then some leaf else none
  | x :: r, i, n => if n = 1 then none else if i < spl n then (shR leaf r i (spl n)).map fun h => nodeS h x else (shR leaf r (i - spl n) (n - spl n)).map fun h => nodeS x h

theorem spl_pow (n : Nat) : ∃ h, spl n = 2 ^ h := ⟨_, rfl⟩

theorem shR_cl (leaf : ByteArray) : ∀ (rl : List ByteArray) (i n f : Nat), i < n → n ≤ 2 ^ f → shR leaf rl i n = (cl f leaf leaf i (n - 1) rl.reverse).map (·.2) := by
  intro rl
  induction rl with
  | nil =>
    intro i n f hi hn
    simp only [shR, List.reverse_nil]
    by_cases h1 : n = 1
    · subst h1; rw [if_pos rfl]; simp [cl_zero]
    · rw [if_neg h1, cl_short f _ _ _ _ (by omega) (by omega) (by omega)]; rfl
  | cons x r ih =>
    intro i n f hi hn
    simp only [shR, List.reverse_cons]
    by_cases h1 : n = 1
    · subst h1; rw [if_pos rfl]; simp [cl_zero]
    · rw [if_neg h1]
      have hl := spl_lt (n := n) (by omega)
      have hg := spl_ge (n := n) (by omega)
      obtain ⟨h, hh⟩ := spl_pow n
      rw [hh] at hl hg ⊢
      have hf : h < f := by
        apply Nat.lt_of_not_le
        intro hle
        have := Nat.pow_le_pow_right (n := 2) (by omega) hle
        omega
      by_cases h2 : i < 2 ^ h
      · rw [if_pos h2, ih i (2 ^ h) f h2 (by omega), cl_left h f _ _ i (n - 1) _ x h2 (by omega) (by omega) hf]
        simp [Option.map_map, Function.comp_def]
      · rw [if_neg h2, ih (i - 2 ^ h) (n - 2 ^ h) f (by omega) (by omega)]
        have e1 : i = 2 ^ h + (i - 2 ^ h) := by omega
        have e2 : n - 1 = 2 ^ h + (n - 2 ^ h - 1) := by omega
        have := cl_right h f leaf leaf (i - 2 ^ h) (n - 2 ^ h - 1) r.reverse x (by omega) (by omega) hf
        rw [← e1, ← e2] at this
        rw [this]
        simp [Option.map_map, Function.comp_def]
end Go.Proofs.YtlhohmlpcgbliaaDoor
namespace Go.Proofs.YtlhohmlpcgbliaaDoor
set_option maxRecDepth 100000

/-- The way up, from old or from the list's first. -/
def St (f : Nat) (b : Bool) (old : ByteArray) (i last : Nat) (l : List ByteArray) : Option (ByteArray × ByteArray) :=
  if b then cl f old old i last l else match l with
    | [] => none
    | s :: r => cl f s s i last r

end Go.Proofs.YtlhohmlpcgbliaaDoor
namespace Go.Proofs.YtlhohmlpcgbliaaDoor
set_option maxRecDepth 100000
open Go.RowKit
attribute [local go_sem ↓] Go.wp_at_zero Go.wp_at_succ

section
variable {P : Program} {ops : Array Oper} {Q : Act → Prop} {S : World → Prop} {o : Oper} {rest : List Oper} {a : Act}
/-- What is left of a drawn region, shut, so that nothing unfolds it. -/
structure WQ (P : Program) (ops : Array Oper) (S : World → Prop) (Q : Act → Prop) (rest : List Oper) (a : Act) : Prop where
  out : wpQuiet P ops S Q rest a
theorem WQ.nil (h : Q a) : WQ P ops S Q [] a := ⟨wpQuiet_nil h⟩
end
end Go.Proofs.YtlhohmlpcgbliaaDoor
namespace Go.Proofs.YtlhohmlpcgbliaaDoor
set_option maxRecDepth 100000
open Go.RowKit
attribute [local go_sem ↓] Go.wp_at_zero Go.wp_at_succ

end Go.Proofs.YtlhohmlpcgbliaaDoor
namespace Go.Proofs.YtlhohmlpcgbliaaDoor
set_option maxRecDepth 100000
open Go.RowKit
attribute [local go_sem ↓] Go.wp_at_zero Go.wp_at_succ

end Go.Proofs.YtlhohmlpcgbliaaDoor
namespace Go.Proofs.YtlhohmlpcgbliaaDoor
set_option maxRecDepth 100000
open Go.RowKit
attribute [local go_sem ↓] Go.wp_at_zero Go.wp_at_succ

end Go.Proofs.YtlhohmlpcgbliaaDoor
namespace Go.Proofs.YtlhohmlpcgbliaaDoor
set_option maxRecDepth 100000
open Go.RowKit

end Go.Proofs.YtlhohmlpcgbliaaDoor
namespace Go.Proofs.YtlhohmlpcgbliaaDoor
set_option maxRecDepth 100000
open Go.RowKit
attribute [local go_sem ↓] Go.wp_at_zero Go.wp_at_succ

end Go.Proofs.YtlhohmlpcgbliaaDoor
namespace Go.Proofs.YtlhohmlpcgbliaaDoor
set_option maxRecDepth 100000
open Go.RowKit
attribute [local go_sem ↓] Go.wp_at_zero Go.wp_at_succ

end Go.Proofs.YtlhohmlpcgbliaaDoor
namespace Go.Proofs.YtlhohmlpcgbliaaDoor
set_option maxRecDepth 100000
open Go.RowKit
attribute [local go_sem ↓] Go.wp_at_zero Go.wp_at_succ

/-- The slice v reads the texts ss, and has room for them. -/
def Lst (w : World) (v : Value) (ss : List ByteArray) : Prop :=
  ∃ p c, v = .slice p ss.length c ∧ ss.length ≤ c ∧ ∀ (j : Nat) s, ss[j]? = some s → ∃ b o, p = some ⟨b, o, none⟩ ∧ w.cell? ⟨b, o + j, none⟩ = some (.string s)
theorem Lst.below {w w' : World} {v : Value} {ss : List ByteArray} (h : Lst w v ss) (hb : Below w.heap.size w w') : Lst w' v ss := by
  obtain ⟨p, c, h1, hc, h2⟩ := h
  refine ⟨p, c, h1, hc, fun i s hs => ?_⟩
  obtain ⟨g, off, h3, h4⟩ := h2 i s hs
  exact ⟨g, off, h3, by rw [hb.cell (World.block_lt_of_cell? _ _ h4)]; exact h4⟩

/-- What Included must answer. -/
def inclB (leaf : ByteArray) (i n : Int) (ss : List ByteArray) (root : ByteArray) : Bool :=
  decide (0 ≤ i ∧ i < n ∧ n ≤ 1099511627776) && decide ((cl 40 leaf leaf i.toNat (n.toNat - 1) ss).map (·.2) = some root)
theorem eqs (x y : ByteArray) : (x.toList == y.toList) = decide (x = y) := by
  rw [ByteArray.toList_eq, ByteArray.toList_eq]
  by_cases h : x = y
  · subst h; simp
  · rw [decide_eq_false h, beq_eq_false_iff_ne]
    intro e
    apply h
    cases x; cases y
    simp only [ByteArray.mk.injEq]
    exact Array.toList_inj.1 e

/-- A list's texts are few and short enough. -/
def Few (ss : List ByteArray) : Prop := ss.length ≤ 1048576 ∧ ∀ s ∈ ss, s.size ≤ 1048576
/-- .. for what joins no texts. -/
def FewB (ss : List ByteArray) : Prop := ss.length ≤ 140737488355328 ∧ ∀ s ∈ ss, s.size ≤ 140737488355328
theorem cl_shR (leaf : ByteArray) (i n : Nat) (ss : List ByteArray) (h1 : i < n) (h2 : n ≤ 1099511627776) : shR leaf ss.reverse i n = (cl 40 leaf leaf i (n - 1) ss).map (·.2) := by
  have := shR_cl leaf ss.reverse i n 40 h1 (by omega)
  rwa [List.reverse_reverse] at this

end Go.Proofs.YtlhohmlpcgbliaaDoor
