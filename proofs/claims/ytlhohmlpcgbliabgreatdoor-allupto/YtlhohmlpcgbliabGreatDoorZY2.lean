import Derived.Test.YtlhohmlpcgbliabGreatDoorZV6
import Derived.Laws.StructEq
import Derived.Test.YtlhohmlpcgbliabGreatDoorZV2
import Derived.Test.YtlhohmlpcgbliabGreatDoorZH6
import Derived.Test.YtlhohmlpcgbliabGreatDoorZD2
namespace Go.Proofs.YtlhohmlpcgbliabGreatDoor
set_option maxRecDepth 100000
open Go.RowKit
attribute [local go_sem ↓] Go.wp_at_zero Go.wp_at_succ

section
variable {P : Program} {ops : Array Oper} {Q : Exit → Act → World → Prop} {S : World → Prop}
end


end Go.Proofs.YtlhohmlpcgbliabGreatDoor
namespace Go.Proofs.YtlhohmlpcgbliabGreatDoor
set_option maxRecDepth 100000
open Go.RowKit
attribute [local go_sem ↓] Go.wp_at_zero Go.wp_at_succ

end Go.Proofs.YtlhohmlpcgbliabGreatDoor
namespace Go.Proofs.YtlhohmlpcgbliabGreatDoor
set_option maxRecDepth 100000
open Go.RowKit
attribute [local go_sem ↓] Go.wp_at_zero Go.wp_at_succ

end Go.Proofs.YtlhohmlpcgbliabGreatDoor
namespace Go.Proofs.YtlhohmlpcgbliabGreatDoor
set_option maxRecDepth 100000
open Go.RowKit
attribute [local go_sem ↓] Go.wp_at_zero Go.wp_at_succ

end Go.Proofs.YtlhohmlpcgbliabGreatDoor
namespace Go.Proofs.YtlhohmlpcgbliabGreatDoor
set_option maxRecDepth 100000
open Go.RowKit
attribute [local go_sem ↓] Go.wp_at_zero Go.wp_at_succ

theorem RawI.below {w w' : World} {v : Value} (h : RawI w v) (hb : Below w.heap.size w w') : RawI w' v := by
  obtain ⟨p, n, c, rfl, h⟩ := h
  refine ⟨p, n, c, rfl, fun i hi => ?_⟩
  obtain ⟨b, o, z, e, hc, h1, h2⟩ := h i hi
  exact ⟨b, o, z, e, by rw [hb.cell (World.block_lt_of_cell? _ _ hc)]; exact hc, h1, h2⟩

end Go.Proofs.YtlhohmlpcgbliabGreatDoor
namespace Go.Proofs.YtlhohmlpcgbliabGreatDoor
set_option maxRecDepth 100000
open Go.RowKit

/-- Two disks without a script that have the same sectors and the same loose writes. -/
structure Same (D R : Dk) : Prop where
  nf : D.nf
  nf' : R.nf
  las : D.las = R.las
  fre : D.fre = R.fre
theorem Same.refl {D : Dk} (h : D.nf) : Same D D := ⟨h, h, rfl, rfl⟩
theorem Same.symm {D R : Dk} (h : Same D R) : Same R D := ⟨h.nf', h.nf, h.las.symm, h.fre.symm⟩
theorem Same.trans {D R T : Dk} (h : Same D R) (k : Same R T) : Same D T := ⟨h.nf, k.nf', h.las.trans k.las, h.fre.trans k.fre⟩
theorem Same.read {D R : Dk} (h : Same D R) (i : Nat) : D.read i = R.read i := by
  unfold Dk.read
  rw [h.las, h.fre]
theorem Same.slot {D R : Dk} (h : Same D R) (s e i : Nat) : D.slot s e i = R.slot s e i := by
  unfold Dk.slot
  rw [h.read]
theorem Dk.nf.write_eq {D : Dk} (h : D.nf) (i : Nat) (s : List Nat) : D.write i s = { D.tick with fre := D.fre ++ [(i, s)] } := by
  unfold Dk.write
  rw [if_pos h.goes, h.act]; rfl
theorem Dk.nf.flush_eq {D : Dk} (h : D.nf) : D.flush = { D.tick with las := putL D.fre D.las, fre := [] } := by
  unfold Dk.flush
  rw [if_pos h.goes, h.act]; rfl
theorem Same.write {D R : Dk} (h : Same D R) (i : Nat) (s : List Nat) : Same (D.write i s) (R.write i s) := by
  refine ⟨(h.nf.write i s).1, (h.nf'.write i s).1, ?_, ?_⟩
  · rw [(h.nf.write i s).2.2, (h.nf'.write i s).2.2, h.las]
  · rw [h.nf.write_eq, h.nf'.write_eq]
    show D.fre ++ _ = R.fre ++ _
    rw [h.fre]
theorem Same.flush {D R : Dk} (h : Same D R) : Same D.flush R.flush := by
  refine ⟨h.nf.flush.1, h.nf'.flush.1, ?_, by rw [h.nf.flush.2, h.nf'.flush.2]⟩
  rw [h.nf.flush_eq, h.nf'.flush_eq]
  show putL D.fre D.las = putL R.fre R.las
  rw [h.las, h.fre]
theorem Same.wrF {start each : Nat} : ∀ (f : Nat) {D R : Dk} (_ : Same D R) (i : Nat) (cs : List (List Nat)), Same (wrF start each f D i cs) (wrF start each f R i cs) := by
  intro f
  induction f with
  | zero => intro D R h i cs; exact h
  | succ f ih =>
    intro D R h i cs
    rw [Go.Proofs.YtlhohmlpcgbliabGreatDoor.wrF, Go.Proofs.YtlhohmlpcgbliabGreatDoor.wrF]
    split
    · exact h
    · rw [h.read]
      exact ih (h.write _ _) _ _
theorem Same.rowWrite {D R : Dk} (h : Same D R) (start each i : Nat) (cs : List (List Nat)) : Same (D.rowWrite start each i cs) (R.rowWrite start each i cs) := Same.wrF _ h _ _
theorem Same.hashB {D R : Dk} (h : Same D R) (l i : Nat) : D.hashB l i = R.hashB l i := by
  cases l with
  | zero => rw [Dk.hashB, Dk.hashB, h.slot]
  | succ l =>
    rw [Dk.hashB, Dk.hashB]
    congr 1
    refine List.map_congr_left fun j _ => ?_
    rw [h.slot]
theorem Same.hashes {D R : Dk} (h : Same D R) (l a b : Nat) : D.hashes l a b = R.hashes l a b := by
  unfold Dk.hashes
  exact List.map_congr_left fun j _ => h.hashB _ _
theorem Same.grwF (f : Nat) : ∀ {D R : Dk} (_ : Same D R) (first n l size : Nat), Same (grwF f D first n l size) (grwF f R first n l size) := by
  induction f with
  | zero => intro D R h _ _ _ _; exact h
  | succ f ih =>
    intro D R h first n l size
    rw [Go.Proofs.YtlhohmlpcgbliabGreatDoor.grwF, Go.Proofs.YtlhohmlpcgbliabGreatDoor.grwF]
    split
    · rw [h.hashes]
      exact ih (h.rowWrite _ _ _ _) _ _ _ _
    · exact h
theorem Same.grow {D R : Dk} (h : Same D R) (first n : Nat) : Same (D.grow first n) (R.grow first n) := Same.grwF _ h _ _ _ _
theorem Same.spnF (f : Nat) {D R : Dk} (h : Same D R) : ∀ (a n : Nat), spnF f D a n = spnF f R a n := by
  induction f with
  | zero => intro a n; rfl
  | succ f ih =>
    intro a n
    rw [Go.Proofs.YtlhohmlpcgbliabGreatDoor.spnF, Go.Proofs.YtlhohmlpcgbliabGreatDoor.spnF, h.slot, ih, ih]
theorem Same.span {D R : Dk} (h : Same D R) (a n : Nat) : D.span a n = R.span a n := Same.spnF _ h _ _
theorem Same.ckN {D R : Dk} (h : Same D R) : D.ckN = R.ckN := by unfold Dk.ckN; rw [h.read]
theorem Same.jwrite {D R : Dk} (h : Same D R) (f : Nat) (ss : List ByteArray) : Same (D.jwrite f ss) (R.jwrite f ss) := by
  unfold Dk.jwrite
  exact ((h.rowWrite _ _ _ _).flush.write _ _).flush
theorem Same.rmJ {D R : Dk} (h : Same D R) : Same D.rmJ R.rmJ := (h.write _ _).flush
theorem Same.put {D R : Dk} (h : Same D R) (f : Nat) (ss : List ByteArray) : Same (D.put f ss) (R.put f ss) := ((h.rowWrite _ _ _ _).grow _ _).flush
theorem Same.ckp {D R : Dk} (h : Same D R) (n : Nat) : Same (D.ckp n) (R.ckp n) := by
  unfold Dk.ckp
  rw [h.span]
  exact (h.write _ _).flush
theorem Same.endJ {D R : Dk} (h : Same D R) (f : Nat) (ss : List ByteArray) : Same (D.endJ f ss) (R.endJ f ss) := by
  unfold Dk.endJ
  rw [h.ckN]
  split
  · exact ((h.put _ _).ckp _).rmJ
  · exact h.rmJ
theorem Same.add {D R : Dk} (h : Same D R) (ss : List ByteArray) : Same (D.add ss) (R.add ss) := by
  unfold Dk.add
  rw [h.ckN]
  exact (h.jwrite _ _).endJ _ _
theorem Same.holds {D R : Dk} {E : List ByteArray} (h : Same D R) (hok : R.ok) (H : Holds D E) : Holds R E :=
  ⟨h.nf', hok, h.fre ▸ H.fre, H.len, H.siz, (h.read 0).symm.trans H.ck, (h.read 1).symm.trans H.jn, fun i s hs => (h.slot 6 3 i) ▸ H.ent i s hs, fun k i hi => (h.slot (tileAt k).1 4 i) ▸ H.til k i hi⟩
/-- A copy of what lasts, when nothing is loose. -/
theorem Same.of {D : Dk} (hnf : D.nf) (hok : D.ok) (hf : D.fre = []) : Same D (Dk.of D.las.flatten) := by
  rw [Dk.of_flat D hok]
  exact ⟨hnf, ⟨rfl, rfl⟩, rfl, hf⟩
theorem Holds.again {D : Dk} {E : List ByteArray} (H : Holds D E) : Holds (Dk.of D.las.flatten) E :=
  (Same.of H.nf H.ok H.fre).holds (Dk.of_ok H.ok.flat (flat_byt H.ok)) H

/-- The disk of a log that grows by groups: so many at a time, as the k-th tells. -/
def groF (g : Nat → Nat) : Nat → Nat → Dk → List ByteArray → Dk
  | 0, _, D, _ => D
  | f + 1, k, D, l => if l.length = 0 then D else groF g f (k + 1) (D.add (l.take (min (g k) l.length))) (l.drop (min (g k) l.length))
theorem groF_step {g : Nat → Nat} {ts : List ByteArray} {D : Dk} {d k n : Nat} (hk : k ≤ d) (hd : d < ts.length) (hn : n = min (g k) (ts.length - d)) : groF g (ts.length - k) k D (ts.drop d) = groF g (ts.length - (k + 1)) (k + 1) (D.add ((ts.drop d).take n)) (ts.drop (d + n)) := by
  obtain ⟨m, hm⟩ : ∃ m, ts.length - k = m + 1 := ⟨ts.length - k - 1, by omega⟩
  rw [hm, groF, List.length_drop, if_neg (by omega), ← hn, List.drop_drop, show ts.length - (k + 1) = m by omega]

/-- The tiles of n entries hold what lies below them says. -/
def Dk.tilesOk (D : Dk) (n : Nat) : Prop := ∀ l, 4 ^ l ≤ n → ∀ i, i < n / 4 ^ l → D.hashF l i = true ∧ strOf (D.slot (tileAt l).1 4 i) = D.hashB l i
theorem Holds.tilesOk {D : Dk} {E : List ByteArray} (h : Holds D E) : D.tilesOk E.length := by
  intro l _ i hi
  have hp : 0 < 4 ^ l := Nat.pow_pos (by omega)
  have h1 : (i + 1) * 4 ^ l ≤ E.length := (Nat.le_div_iff_mul_le hp).1 hi
  refine ⟨?_, ?_⟩
  · cases l with
    | zero =>
      rw [Dk.hashF, h.ent i _ (List.getElem?_eq_getElem (by simpa using hi))]
      rfl
    | succ l => rfl
  · rw [h.til l i h1, hashB_mth (fun i s hs _ => h.ent i s hs) (Nat.le_refl _) l i (fun k _ => h.til k) h1, strOf_bts]
end Go.Proofs.YtlhohmlpcgbliabGreatDoor
namespace Go.Proofs.YtlhohmlpcgbliabGreatDoor
set_option maxRecDepth 100000
open Go.RowKit
attribute [local go_sem ↓] Go.wp_at_zero Go.wp_at_succ

/-- A list of raw numbers, and the group sizes that they tell. -/
def RawG (w : World) (gv : Value) (g : Nat → Nat) : Prop := ∃ p rn rc, gv = .slice p rn rc ∧ (∀ k, k < rn → ∃ gb go' cv, p = some ⟨gb, go', none⟩ ∧ w.cell? ⟨gb, go' + k, none⟩ = some (.int .i64 cv) ∧ -9223372036854775808 ≤ cv ∧ cv ≤ 9223372036854775807 ∧ g k = 1 + pickV cv 12) ∧ ∀ k, rn ≤ k → g k = 12
theorem RawG.below {w w' : World} {v : Value} {g : Nat → Nat} (h : RawG w v g) (hb : Below w.heap.size w w') : RawG w' v g := by
  obtain ⟨p, rn, rc, rfl, hraw, hg⟩ := h
  refine ⟨p, rn, rc, rfl, fun k hk => ?_, hg⟩
  obtain ⟨gb, go', cv, h1, h2, h3⟩ := hraw k hk
  exact ⟨gb, go', cv, h1, by rw [hb.cell (World.block_lt_of_cell? _ _ h2)]; exact h2, h3⟩

end Go.Proofs.YtlhohmlpcgbliabGreatDoor
namespace Go.Proofs.YtlhohmlpcgbliabGreatDoor
set_option maxRecDepth 100000
open Go.RowKit

/-- A row of one's own lies as it lay where its block has not changed. -/
theorem ownsRow_kept {w w' : World} {t : TypeId} {m n : Nat} {v : Value} {xs : List Value} (h : w.ownsRow 0 t m v n xs) (hb : ∀ k, v.ownBlock = some k → k < w.heap.size → w'.heap[k]? = w.heap[k]?) : w'.ownsRow 0 t m v n xs := by
  obtain ⟨h1, h2⟩ := h
  refine ⟨h1, ?_⟩
  rcases h2 with h0 | ⟨g, cap, cur, hv, hbg, hg, rr⟩
  · exact Or.inl h0
  · have hog : v.ownBlock = some g := by rw [hv]; rfl
    have hgl : g < w.heap.size := (Array.getElem?_eq_some_iff.1 hg).1
    exact Or.inr ⟨g, cap, cur, hv, hbg, by rw [hb g hog hgl]; exact hg, rr⟩
/-- A log's blocks. -/
def Own (a b : Nat) (g h : Option Nat) (k : Nat) : Prop := k = a ∨ k = b ∨ g = some k ∨ h = some k
/-- Two logs have no block in common. -/
def Dis (a b : Nat) (g h : Option Nat) (a' b' : Nat) (g' h' : Option Nat) : Prop := ∀ k, Own a b g h k → ¬ Own a' b' g' h' k
theorem Dis.symm {a b : Nat} {g h : Option Nat} {a' b' : Nat} {g' h' : Option Nat} (d : Dis a b g h a' b' g' h') : Dis a' b' g' h' a b g h := fun k h1 h2 => d k h2 h1
theorem LogAt.lt {w : World} {a b : Nat} {fv wv : Value} {D : Dk} {W : List ByteArray} (h : LogAt w a b fv wv D W) : ∀ k, Own a b fv.ownBlock wv.ownBlock k → k < w.heap.size := by
  intro k hk
  rcases hk with rfl | rfl | e | e
  · exact h.blk.lt
  · exact h.disk.lt
  · exact (h.disk.row.lt k e).2
  · exact (h.row.lt k e).2
/-- A log stays as it is, whatever another one does. -/
theorem LogAt.other {w w' : World} {a b : Nat} {fv wv : Value} {D : Dk} {W : List ByteArray} (h : LogAt w a b fv wv D W) {a' b' : Nat} {g h2 g' h2' : Option Nat} (r : FrL a' b' g h2 g' h2' w w') (hd : Dis a b fv.ownBlock wv.ownBlock a' b' g h2) : LogAt w' a b fv wv D W := by
  have hk : ∀ k, Own a b fv.ownBlock wv.ownBlock k → w'.heap[k]? = w.heap[k]? := by
    intro k ho
    have hn := hd k ho
    exact r.block k (h.lt k ho) (fun e => hn (.inl e)) (fun e => hn (.inr (.inl e))) (fun e => hn (.inr (.inr (.inl e)))) (fun e => hn (.inr (.inr (.inr e))))
  refine ⟨⟨h.disk.ok, ?_, ownsRow_kept h.disk.row (fun k e _ => hk k (.inr (.inr (.inl e)))), h.disk.apart⟩, ?_, ownsRow_kept h.row (fun k e _ => hk k (.inr (.inr (.inr e)))), h.ab, h.fa, h.wa, h.wb, h.wf⟩
  · have := h.disk.blk
    unfold Blk at *
    rw [hk b (.inr (.inl rfl))]; exact this
  · have := h.blk
    unfold Blk at *
    rw [hk a (.inl rfl)]; exact this
/-- What another log has taken anew is not this log's. -/
theorem Dis.step {w w' : World} {a b : Nat} {g h g1 h1 : Option Nat} {a' b' : Nat} {g' h' : Option Nat} (d : Dis a b g h a' b' g' h') (r : FrL a b g h g1 h1 w w') (hl : ∀ k, Own a' b' g' h' k → k < w.heap.size) : Dis a b g1 h1 a' b' g' h' := by
  intro k h0 h2
  have hlt := hl k h2
  rcases h0 with e | e | e | e
  · exact d k (.inl e) h2
  · exact d k (.inr (.inl e)) h2
  · rcases r.own with e1 | e1 | ⟨j, e1, hj⟩
    · rw [e1] at e; cases e
    · rw [e1] at e; exact d k (.inr (.inr (.inl e))) h2
    · rw [e1] at e; cases e; omega
  · rcases r.own2 with e1 | e1 | ⟨j, e1, hj⟩
    · rw [e1] at e; cases e
    · rw [e1] at e; exact d k (.inr (.inr (.inr e))) h2
    · rw [e1] at e; cases e; omega
/-- A new log shares no block with one that was there. -/
theorem Dis.new {n : Nat} {a b a' b' : Nat} {g' h' : Option Nat} (ha : n ≤ a) (hb : n ≤ b) (hl : ∀ k, Own a' b' g' h' k → k < n) : Dis a b none none a' b' g' h' := by
  intro k h0 h2
  have := hl k h2
  rcases h0 with e | e | e | e
  · omega
  · omega
  · cases e
  · cases e
end Go.Proofs.YtlhohmlpcgbliabGreatDoor
namespace Go.Proofs.YtlhohmlpcgbliabGreatDoor
set_option maxRecDepth 100000
open Go.RowKit
attribute [local go_sem ↓] Go.wp_at_zero Go.wp_at_succ

/-- The document's own log: its entries, and those that wait. -/
structure RefAt (w : World) (r : Nat) (ev uv : Value) (E W : List ByteArray) : Prop where
  blk : Blk w r 52 [ev, uv]
  er : Row w 0 9 ev (strv E)
  ur : Row w 0 9 uv (strv W)
  eu : ∀ k, ev.ownBlock = some k → uv.ownBlock ≠ some k
  ra : ev.ownBlock ≠ some r
  rb : uv.ownBlock ≠ some r
theorem RefAt.lt {w : World} {r : Nat} {ev uv : Value} {E W : List ByteArray} (h : RefAt w r ev uv E W) : ∀ k, Own r r ev.ownBlock uv.ownBlock k → k < w.heap.size := by
  intro k hk
  rcases hk with rfl | rfl | e | e
  · exact h.blk.lt
  · exact h.blk.lt
  · exact (h.er.lt k e).2
  · exact (h.ur.lt k e).2
theorem RefAt.keep {w w' : World} {r : Nat} {ev uv : Value} {E W : List ByteArray} (h : RefAt w r ev uv E W) (hk : ∀ k, Own r r ev.ownBlock uv.ownBlock k → w'.heap[k]? = w.heap[k]?) : RefAt w' r ev uv E W := by
  refine ⟨?_, ownsRow_kept h.er (fun k e _ => hk k (.inr (.inr (.inl e)))), ownsRow_kept h.ur (fun k e _ => hk k (.inr (.inr (.inr e)))), h.eu, h.ra, h.rb⟩
  have := h.blk
  unfold Blk at *
  rw [hk r (.inl rfl)]; exact this
theorem RefAt.below {w w' : World} {r : Nat} {ev uv : Value} {E W : List ByteArray} (h : RefAt w r ev uv E W) (hb : Below w.heap.size w w') : RefAt w' r ev uv E W := h.keep fun k hk => hb.block k (h.lt k hk)
theorem LogAt.keep {w w' : World} {a b : Nat} {fv wv : Value} {D : Dk} {W : List ByteArray} (h : LogAt w a b fv wv D W) (hk : ∀ k, Own a b fv.ownBlock wv.ownBlock k → w'.heap[k]? = w.heap[k]?) : LogAt w' a b fv wv D W := by
  refine ⟨⟨h.disk.ok, ?_, ownsRow_kept h.disk.row (fun k e _ => hk k (.inr (.inr (.inl e)))), h.disk.apart⟩, ?_, ownsRow_kept h.row (fun k e _ => hk k (.inr (.inr (.inr e)))), h.ab, h.fa, h.wa, h.wb, h.wf⟩
  · have := h.disk.blk
    unfold Blk at *
    rw [hk b (.inr (.inl rfl))]; exact this
  · have := h.blk
    unfold Blk at *
    rw [hk a (.inl rfl)]; exact this
/-- A row of texts, as a slice. -/
theorem rowY_slice {w : World} {v : Value} {ss : List ByteArray} (h : Row w 0 9 v (strv ss)) : ∃ p cap, v = .slice p ss.length cap ∧ ss.length ≤ cap ∧ (∀ k, v.ownBlock = some k → p = some ⟨k, 0, none⟩ ∧ SA w k 0 ss) ∧ (v.ownBlock = none → ss = []) := by
  have h' := h
  obtain ⟨h1, h2⟩ := h
  rw [strv_length] at h2
  rcases h2 with ⟨rfl, hn⟩ | ⟨g, cap, cur, rfl, hb, hg, hn, hm, hs, ht⟩
  · exact ⟨none, 0, by rw [hn], by omega, fun k hk => by simp [Value.ownBlock] at hk, fun _ => List.length_eq_zero_iff.1 hn⟩
  · refine ⟨_, cap, rfl, hn, fun k hk => ?_, fun e => by simp [Value.ownBlock] at e⟩
    simp [Value.ownBlock] at hk
    subst hk
    refine ⟨rfl, ?_⟩
    by_cases h0 : 0 < ss.length
    · exact SA.of_row h' h0
    · intro i s hs'
      have := (List.getElem?_eq_some_iff.1 hs').1
      omega
theorem row_strs {w : World} {v : Value} {ss : List ByteArray} (h : Row w 0 9 v (strv ss)) : Strs w v ss := by
  obtain ⟨p, cap, rfl, _, h1, h2⟩ := rowY_slice h
  refine ⟨p, cap, rfl, fun i s hs => ?_⟩
  cases p with
  | none =>
    have := h2 (by simp [Value.ownBlock])
    subst this
    simp at hs
  | some a =>
    obtain ⟨e1, e2⟩ := h1 a.block (by simp [Value.ownBlock])
    exact ⟨a.block, 0, e1, e2 i s hs⟩

/-- What a Submit answers. -/
def subE (e u : Nat) (ss : List ByteArray) : Int := if ss.any (fun s => decide (40 < s.size)) then 5 else if 12 < u + ss.length then 6 else if 64 < e + (u + ss.length) then 7 else 0
theorem subE_long {e u : Nat} {ss : List ByteArray} {k : Nat} {s : ByteArray} (hs : ss[k]? = some s) (h : 40 < s.size) : subE e u ss = 5 := by
  unfold subE
  rw [if_pos]
  rw [List.any_eq_true]
  exact ⟨s, List.mem_of_getElem? hs, by simpa using h⟩
theorem any_long {ss : List ByteArray} (h : ∀ s ∈ ss, s.size ≤ 40) : ss.any (fun s => decide (40 < s.size)) = false := by
  rw [List.any_eq_false]
  intro s hs
  have := h s hs
  simp
  omega
theorem subE_queue {e u : Nat} {ss : List ByteArray} (h : ∀ s ∈ ss, s.size ≤ 40) (hq : 12 < u + ss.length) : subE e u ss = 6 := by
  unfold subE
  rw [any_long h, if_neg (by simp), if_pos hq]
theorem subE_full {e u : Nat} {ss : List ByteArray} (h : ∀ s ∈ ss, s.size ≤ 40) (hq : u + ss.length ≤ 12) (hf : 64 < e + (u + ss.length)) : subE e u ss = 7 := by
  unfold subE
  rw [any_long h, if_neg (by simp), if_neg (by omega), if_pos hf]
theorem subE_ok {e u : Nat} {ss : List ByteArray} (h : ∀ s ∈ ss, s.size ≤ 40) (hq : u + ss.length ≤ 12) (hf : e + (u + ss.length) ≤ 64) : subE e u ss = 0 := by
  unfold subE
  rw [any_long h, if_neg (by simp), if_neg (by omega), if_neg (by omega)]
/-- What waits behind a Submit. -/
def subW (e : Nat) (W ss : List ByteArray) : List ByteArray := if subE e W.length ss = 0 then W ++ ss else W
theorem subW_not {e : Nat} {W ss : List ByteArray} {c : Int} (h : subE e W.length ss = c) (hc : c ≠ 0) : subW e W ss = W := by
  unfold subW
  rw [h, if_neg hc]
theorem subW_ok {e : Nat} {W ss : List ByteArray} (h : subE e W.length ss = 0) : subW e W ss = W ++ ss := by
  unfold subW
  rw [if_pos h]
theorem take_le40 {ss : List ByteArray} {k : Nat} {s : ByteArray} (h : ∀ x ∈ ss.take k, x.size ≤ 40) (hs : ss[k]? = some s) (h4 : s.size ≤ 40) : ∀ x ∈ ss.take (k + 1), x.size ≤ 40 := by
  intro x hx
  have hk : k < ss.length := (List.getElem?_eq_some_iff.1 hs).1
  have hgk : ss[k] = s := (List.getElem?_eq_some_iff.1 hs).2
  rw [List.take_succ_eq_append_getElem hk, hgk, List.mem_append, List.mem_singleton] at hx
  rcases hx with hx | rfl
  · exact h x hx
  · exact h4

set_option maxHeartbeats 4000000 in
/-- A Submit of anything. -/
theorem submit_all {w : World} {a b : Nat} {fv wv : Value} {D : Dk} {W : List ByteArray} (h : LogAt w a b fv wv D W) (hf : D.failed = false) (hz1 : D.read 1 = zer) (hcb : D.ckN < 256) (hW : W.length ≤ 12) (v : Value) (ss : List ByteArray) (hS : Strs w v ss) (hn : ss.length ≤ 1000000000000) (hap : ∀ k, v.ownBlock = some k → ¬ Own a b fv.ownBlock wv.ownBlock k) :
    Calls Tryz.prog 62 #[.pointer (some ⟨a, 0, none⟩), v] w fun e w' => e = .returned (.int .i64 (subE D.ckN W.length ss)) ∧ ∃ wv', LogAt w' a b fv wv' D (subW D.ckN W ss) ∧ FrL a b fv.ownBlock wv.ownBlock fv.ownBlock wv'.ownBlock w w' := by
  have hrf := refused_ok h hf hz1
  have hck64 : D.ckN < 256 := hcb
  clear hz1 hf
  obtain ⟨p, cc, rfl, hcells⟩ := hS
  go_enter Tryz.func62, Tryz.ntmps62
  go_wp2_with fail
  refine hrf.mono ?_
  rintro e w1 ⟨rfl, hb1⟩
  clear hrf
  have h1 := h.below hb1
  have hs1 := hb1.size
  have HS : Hid ((∀ (i : Nat) s, ss[i]? = some s → ∃ g off, p = some ⟨g, off, none⟩ ∧ w1.cell? ⟨g, off + i, none⟩ = some (.string s)) ∧ (∀ g off, p = some ⟨g, off, none⟩ → ¬ Own a b fv.ownBlock wv.ownBlock g)) := ⟨fun i s hs => by
    obtain ⟨g, off, e1, e2⟩ := hcells i s hs
    exact ⟨g, off, e1, by rw [hb1.cell (World.block_lt_of_cell? _ _ e2)]; exact e2⟩, fun g off e => hap g (by rw [e]; rfl)⟩
  clear hcells hap
  go_wp2_with fail
  go_loopw [20] (fun v wr => ∃ k : Nat, k ≤ ss.length ∧ v = .int .i64 (k : Int) ∧ (∀ x ∈ ss.take k, x.size ≤ 40) ∧ wr = w1) (fun v _ => ss.length - (intOf v).toNat)
  case atStart => exact ⟨0, by omega, rfl, by simp, rfl⟩
  case round =>
    obtain ⟨k, hk, rfl, h40, rfl⟩ := hrel
    by_cases h8 : k < ss.length
    · obtain ⟨s, hs⟩ : ∃ s, ss[k]? = some s := ⟨_, List.getElem?_eq_getElem h8⟩
      obtain ⟨g, off, rfl, hcell⟩ := HS.out.1 k s hs
      by_cases hsz : s.size ≤ 40
      · have H40 : Hid (∀ x ∈ ss.take (k + 1), x.size ≤ 40) := take_le40 h40 hs hsz
        have hsz' : ¬ (s.size : Int) > 40 := by omega
        clear hs h40
        go_wp2
        go_roundw
        case rel => exact ⟨k + 1, by omega, by go_num, H40.out, trivial⟩
        case measure => simp [intOf]; omega
      · have hsz' : (s.size : Int) > 40 := by omega
        have HE : Hid (subE D.ckN W.length ss = 5) := subE_long hs (by omega)
        clear hs h40
        go_wp2
        go_ret
        refine ⟨by rw [HE.out]; rfl, wv, ?_, FrL.of_below hb1⟩
        rw [subW_not HE.out (by decide)]
        exact h1
    · have hk8 : k = ss.length := by omega
      subst hk8
      rw [List.take_length] at h40
      have hc0 := h1.blk.cell 0
      have hc1 := h1.blk.cell 1
      simp only [List.getElem?_cons_zero, List.getElem?_cons_succ] at hc0 hc1
      obtain ⟨p2, cap, hwv⟩ := h1.wv
      rw [hwv] at hc1
      have hck := storeCk_any b fv D wr h1.disk
      unfold stV at hck
      by_cases hq : W.length + ss.length ≤ 12
      · have hq1 : ¬ ((W.length : Int) + (ss.length : Int)) > 12 := by omega
        by_cases hfu : D.ckN + (W.length + ss.length) ≤ 64
        · have hq2 : ¬ ((D.ckN : Int) + ((W.length : Int) + (ss.length : Int))) > 64 := by omega
          have HE : Hid (subE D.ckN W.length ss = 0) := subE_ok h40 hq hfu
          generalize strOf D.ckR = rt at *
          go_wp2_with fail
          refine hck.mono ?_
          rintro e w2 ⟨rfl, hb2⟩
          have h2 := h1.below hb2
          have R2 : FrL a b fv.ownBlock wv.ownBlock fv.ownBlock wv.ownBlock w w2 := (FrL.of_below hb1).trans (FrL.of_below hb2)
          have H2 : Hid (∀ (i : Nat) s, ss[i]? = some s → ∃ g off, p = some ⟨g, off, none⟩ ∧ g < w2.heap.size ∧ w2.cell? ⟨g, off + i, none⟩ = some (.string s)) := fun i s hs => by
            obtain ⟨g, off, e1, e2⟩ := HS.out.1 i s hs
            have hl := World.block_lt_of_cell? _ _ e2
            exact ⟨g, off, e1, Nat.lt_of_lt_of_le hl hb2.size, by rw [hb2.cell hl]; exact e2⟩
          clear hck hc0 hc1 hwv h1
          go_wp2_with fail
          go_loopw [52] (fun v wq => ∃ (k : Nat) (wv' : Value), k ≤ ss.length ∧ v = .int .i64 (k : Int) ∧ LogAt wq a b fv wv' D (W ++ ss.take k) ∧ FrL a b fv.ownBlock wv.ownBlock fv.ownBlock wv'.ownBlock w2 wq) (fun v _ => ss.length - (intOf v).toNat)
          case atStart => exact ⟨0, wv, by omega, rfl, by simpa using h2, FrL.refl _ _ _ _ _⟩
          case round =>
            obtain ⟨k, wv', hk, rfl, hL, hR⟩ := hrel
            clear h2
            by_cases h8 : k < ss.length
            · obtain ⟨s, hs⟩ : ∃ s, ss[k]? = some s := ⟨_, List.getElem?_eq_getElem h8⟩
              obtain ⟨g, off, rfl, hgl, hcell0⟩ := H2.out k s hs
              have hno := HS.out.2 g off rfl
              have hcell : wr.cell? ⟨g, off + k, none⟩ = some (.string s) := by
                rw [World.cell?_of_block (hR.block g hgl (fun e => hno (.inl e)) (fun e => hno (.inr (.inl e))) (fun e => hno (.inr (.inr (.inl e)))) (fun e => hno (.inr (.inr (.inr e)))))]
                exact hcell0
              have hsz : s.size ≤ 40 := h40 s (List.mem_of_getElem? hs)
              have HT : Hid (W ++ ss.take k ++ [s] = W ++ ss.take (k + 1)) := by
                show _ = _
                have hgk : ss[k] = s := (List.getElem?_eq_some_iff.1 hs).2
                rw [List.take_succ_eq_append_getElem h8, hgk, List.append_assoc]
              have hwl : (W ++ ss.take k).length < 1000000 := by simp; omega
              clear hs hcell0 hno
              go_wp2_with fail
              refine sbR19_wp a b s fv wv' D (W ++ ss.take k) _ _ hL (by omega) hwl ?_
              intro u56 u57 u58 u59 u60 u61 u62 u63 u64 u65 u66 wv2 w3 hL3 hR3
              rw [HT.out] at hL3
              have hRR := hR.trans hR3
              go_wp2
              go_roundw
              case rel => exact ⟨k + 1, wv2, by omega, by go_num, hL3, hRR⟩
              case measure => simp [intOf]; omega
            · have hk8 : k = ss.length := by omega
              subst hk8
              rw [List.take_length] at hL
              go_wp2
              go_ret
              refine ⟨by rw [HE.out]; rfl, wv', ?_, R2.trans hR⟩
              rw [subW_ok HE.out]
              exact hL
        · have hq2 : 64 < ((D.ckN : Int) + ((W.length : Int) + (ss.length : Int))) := by omega
          have HE : Hid (subE D.ckN W.length ss = 7) := subE_full h40 hq (by omega)
          generalize strOf D.ckR = rt at *
          go_wp2_with fail
          refine hck.mono ?_
          rintro e w2 ⟨rfl, hb2⟩
          have h2 := h1.below hb2
          clear hck hc0 hc1 hwv h1
          go_wp2
          go_ret
          refine ⟨by rw [HE.out]; rfl, wv, ?_, (FrL.of_below hb1).trans (FrL.of_below hb2)⟩
          rw [subW_not HE.out (by decide)]
          exact h2
      · have hq1 : ((W.length : Int) + (ss.length : Int)) > 12 := by omega
        have HE : Hid (subE D.ckN W.length ss = 6) := subE_queue h40 (by omega)
        clear hck
        go_wp2
        go_ret
        refine ⟨by rw [HE.out]; rfl, wv, ?_, FrL.of_below hb1⟩
        rw [subW_not HE.out (by decide)]
        exact h1
end Go.Proofs.YtlhohmlpcgbliabGreatDoor
