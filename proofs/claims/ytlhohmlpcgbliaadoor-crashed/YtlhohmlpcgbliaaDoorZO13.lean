import Derived.Test.YtlhohmlpcgbliaaDoorZO2
import Derived.Test.YtlhohmlpcgbliaaDoorZO8
namespace Go.Proofs.YtlhohmlpcgbliaaDoor
set_option maxRecDepth 100000
open Go.RowKit

/-- What is known of the disk while bundles and tiles are written. -/
structure Puts (D : Dk) (E W : List ByteArray) : Prop where
  rnf : (D.rowWrite 6 3 E.length (packs W)).nf
  rok : (D.rowWrite 6 3 E.length (packs W)).ok
  rnd : (D.rowWrite 6 3 E.length (packs W)).keys.Nodup
  gnf : ((D.rowWrite 6 3 E.length (packs W)).grow E.length (E.length + W.length)).nf
  gok : ((D.rowWrite 6 3 E.length (packs W)).grow E.length (E.length + W.length)).ok
  gnd : ((D.rowWrite 6 3 E.length (packs W)).grow E.length (E.length + W.length)).keys.Nodup
  pnf : (D.put E.length W).nf
  pok : (D.put E.length W).ok
  pfre : (D.put E.length W).fre = []
  low : ∀ j, j < 6 → (D.put E.length W).read j = D.read j
  ent : ∀ i s, (E ++ W)[i]? = some s → unpL ((D.put E.length W).slot 6 3 i) = some (bts s)
  til : ∀ k, Tiled (D.put E.length W) ((E ++ W).map leafS) (E.length + W.length) k
  root : (D.put E.length W).span 0 (E.length + W.length) = mth ((E ++ W).map leafS)
theorem put_facts {D : Dk} {E W : List ByteArray} (h : Hold1 D E) (hz : ∀ s ∈ W, s.size ≤ 40) (hl : E.length + W.length ≤ 64) : Puts D E W := by
  have hk4 := keys_nil h.fre
  have hr := rowWrite_spec (start := 6) (each := 3) (.inl rfl) D E.length (packs W) h.nf h.ok (by rw [hk4]; simp) (by rw [hk4]; simp) (packs_ok hz) (by rw [packs_len]; omega) (by rw [h.fre, packs_len]; simp; omega)
  have hEW : (E ++ W).length = E.length + W.length := List.length_append
  have rent : ∀ i s, (E ++ W)[i]? = some s → i < E.length + W.length → unpL ((D.rowWrite 6 3 E.length (packs W)).slot 6 3 i) = some (bts s) := by
    intro i s hs hi
    rw [hr.slot, packs_len]
    by_cases h1 : i < E.length
    · rw [List.getElem?_append_left h1] at hs
      rw [if_neg (by omega)]
      exact h.ent i s hs
    · rw [List.getElem?_append_right (by omega)] at hs
      rw [if_pos (by omega), packs_get hs]
      exact unp_pad (hz s (List.mem_of_getElem? hs))
  have rread : ∀ j, (j < 6 ∨ 28 ≤ j) → (D.rowWrite 6 3 E.length (packs W)).read j = D.read j := fun j hj => by
    apply hr.read
    rw [packs_len]
    by_cases hw0 : W.length = 0
    · exact .inl (List.eq_nil_of_length_eq_zero (by rw [packs_len]; exact hw0))
    · right
      omega
  have rtil : ∀ k, Tiled (D.rowWrite 6 3 E.length (packs W)) ((E ++ W).map leafS) E.length k := fun k i hi => by
    have h3 := tile_low k
    rw [slot_of_read (rread _ (.inr (by omega))), h.til k i hi, List.map_append, drop_app]
    have : (i + 1) * 4 ^ k = i * 4 ^ k + 4 ^ k := Nat.succ_mul _ _
    rw [List.length_map]
    omega
  have rkeys : ∀ x ∈ (D.rowWrite 6 3 E.length (packs W)).keys, x < 28 := fun x hx => by
    rcases hr.keys x hx with h1 | ⟨hne, _, h3⟩
    · rw [hk4] at h1; simp at h1
    · rw [packs_len] at h3
      have : 0 < W.length := by
        rw [← packs_len]
        cases hq : packs W with
        | nil => exact absurd hq hne
        | cons _ _ => simp
      omega
  have hfre := hr.fre
  rw [h.fre, packs_len] at hfre
  have hg := grow_spec (E := E ++ W) (first := E.length) (n := E.length + W.length) (by omega) hl (by rw [hEW]; exact Nat.le_refl _) _ hr.nf hr.ok hr.nd rkeys rent rtil (by simp at hfre; omega)
  have hfl : (D.put E.length W).nf ∧ (D.put E.length W).fre = [] := hg.nf.flush
  have hok7 : (D.put E.length W).ok := hg.ok.flush
  have hrd7 : ∀ j, j < 200 → (D.put E.length W).read j = ((D.rowWrite 6 3 E.length (packs W)).grow E.length (E.length + W.length)).read j := fun j hj => hg.nf.flush_read hg.ok hg.nd j hj
  have til7 : ∀ k, Tiled (D.put E.length W) ((E ++ W).map leafS) (E.length + W.length) k := fun k i hi => by
    have h1 := tile_sec (k := k) (i := i) (by omega)
    have h2 := (tileAt_le (k + 1)).1
    rw [slot_of_read (hrd7 _ (by omega))]
    exact hg.tiled k i hi
  have hroot : (D.put E.length W).span 0 (E.length + W.length) = mth ((E ++ W).map leafS) := by
    rw [span_mth til7 (by rw [List.length_map, hEW]; exact Nat.le_refl _) (E.length + W.length) (E.length + W.length) 0 6 (Nat.le_refl _) (by show _ ≤ 64; exact hl) (Nat.dvd_zero _) (by omega), List.drop_zero, List.take_of_length_le (by rw [List.length_map, hEW]; exact Nat.le_refl _)]
  have low7 : ∀ j, j < 28 → (D.put E.length W).read j = (D.rowWrite 6 3 E.length (packs W)).read j := fun j hj => by rw [hrd7 j (by omega), hg.read j hj]
  refine ⟨hr.nf, hr.ok, hr.nd, hg.nf, hg.ok, hg.nd, hfl.1, hok7, hfl.2, fun j hj => by rw [low7 j (by omega), rread j (.inl hj)], fun i s hs => ?_, til7, hroot⟩
  have hi : i < E.length + W.length := by rw [← hEW]; exact (List.getElem?_eq_some_iff.1 hs).1
  rw [slot_of_read (low7 _ (by omega))]
  exact rent i s hs hi
end Go.Proofs.YtlhohmlpcgbliaaDoor
namespace Go.Proofs.YtlhohmlpcgbliaaDoor
set_option maxRecDepth 100000
open Go.RowKit

/-- Each sector is as it lasted, or as it was written. -/
theorem failL_get (keep : Int) (f : List (Nat × List Nat)) : ∀ (i : Nat) (l : List (List Nat)) (m : Nat), (∀ x ∈ f, x.1 < l.length) → (failL keep i f l).getD m [] = l.getD m [] ∨ ∃ x ∈ f, x.1 = m ∧ (failL keep i f l).getD m [] = x.2 := by
  induction f with
  | nil => intro i l m _; exact .inl rfl
  | cons x r ih =>
    intro i l m hx
    rw [failL]
    have hx1 := hx x (List.mem_cons_self ..)
    rcases ih (i + 1) (if kept keep i then l.set x.1 x.2 else l) m (fun y hy => by have := hx y (List.mem_cons_of_mem _ hy); split <;> simpa using this) with h | ⟨y, hy, h1, h2⟩
    · rw [h]
      split
      · by_cases hm : x.1 = m
        · right
          refine ⟨x, List.mem_cons_self .., hm, ?_⟩
          rw [← hm, List.getD_eq_getElem?_getD, List.getElem?_set_self hx1]
          rfl
        · left
          rw [List.getD_eq_getElem?_getD, List.getD_eq_getElem?_getD, List.getElem?_set_ne hm]
      · exact .inl rfl
    · exact .inr ⟨y, List.mem_cons_of_mem _ hy, h1, h2⟩
end Go.Proofs.YtlhohmlpcgbliaaDoor
namespace Go.Proofs.YtlhohmlpcgbliaaDoor
set_option maxRecDepth 100000
open Go.RowKit

/-- A disk's bytes. -/
def btx (l : List (List Nat)) : ByteArray := strOf l.flatten
theorem SecL.flat {l : List (List Nat)} (h : SecL l) : l.flatten.length = 25600 := by
  rw [flat_length (fun s hs => (h.sec s hs).len), h.len]
theorem SecL.byt {l : List (List Nat)} (h : SecL l) : ∀ x ∈ l.flatten, x < 256 := by
  intro x hx
  obtain ⟨s, hs, h1⟩ := List.mem_flatten.1 hx
  exact (h.sec s hs).byt x h1
theorem SecL.size {l : List (List Nat)} (h : SecL l) : (btx l).size = 25600 := by
  unfold btx
  rw [strOf_size h.byt, h.flat]
theorem SecL.set {l : List (List Nat)} (h : SecL l) (i : Nat) {s : List Nat} (hs : Sec s) : SecL (l.set i s) := by
  refine ⟨by rw [List.length_set]; exact h.len, fun x hx => ?_⟩
  rcases List.mem_or_eq_of_mem_set hx with h1 | rfl
  · exact h.sec x h1
  · exact hs
theorem failL_secL {keep : Int} {f : List (Nat × List Nat)} {i : Nat} {l : List (List Nat)} (h : SecL l) (hf : ∀ x ∈ f, Sec x.2) : SecL (failL keep i f l) := ⟨by rw [failL_length, h.len], failL_sec _ _ _ _ h.sec hf⟩

section
variable {n : Nat} {act : Nat → Option (Nat × List Nat)} {L V : Nat → List (List Nat)} {F : Nat → List (Nat × List Nat)}
theorem set_sec {l : List (List Nat)} {i m : Nat} {s : List Nat} (h : m ≠ i) : (l.set i s).getD m [] = l.getD m [] := by
  rw [List.getD_eq_getElem?_getD, List.getD_eq_getElem?_getD, List.getElem?_set_ne (fun e => h e.symm)]
theorem set_same {l : List (List Nat)} {i : Nat} {s : List Nat} (h : i < l.length) : (l.set i s).getD i [] = s := by
  rw [List.getD_eq_getElem?_getD, List.getElem?_set_self h]; rfl
/-- Where the last flush was. -/
theorem Acts.flush (A : Acts n act L V F) : ∀ k, k ≤ n → ∃ f, f ≤ k ∧ (f = 0 ∨ V f = V (f - 1)) ∧ L k = V f ∧ (F k).length = k - f ∧ ∀ q, q < k - f → act (f + q) = (F k)[q]? := by
  intro k
  induction k with
  | zero =>
    intro _
    refine ⟨0, Nat.le_refl _, .inl rfl, ?_, by rw [A.f0]; rfl, fun q hq => by omega⟩
    rw [A.v 0 (by omega), A.f0]
    rfl
  | succ k ih =>
    intro hk
    cases hx : act k with
    | none =>
      have h := A.fl k (by omega) hx
      exact ⟨k + 1, Nat.le_refl _, .inr (by rw [h.2.2]; rfl), by rw [h.2.1, h.2.2], by rw [h.1]; simp, fun q hq => by omega⟩
    | some x =>
      have h := A.wr k x (by omega) hx
      obtain ⟨f, h1, h2, h3, h4, h5⟩ := ih (by omega)
      refine ⟨f, by omega, h2, by rw [h.2.1, h3], by rw [h.1, List.length_append, h4]; simp; omega, fun q hq => ?_⟩
      rw [h.1]
      by_cases hqk : q < k - f
      · rw [List.getElem?_append_left (by rw [h4]; exact hqk)]
        exact h5 q hqk
      · obtain rfl : q = k - f := by omega
        rw [List.getElem?_append_right (by rw [h4]; exact Nat.le_refl _), h4, Nat.sub_self, show f + (k - f) = k by omega, hx]
        rfl
end
end Go.Proofs.YtlhohmlpcgbliaaDoor
namespace Go.Proofs.YtlhohmlpcgbliaaDoor
set_option maxRecDepth 100000
open Go.RowKit

/-- Behind each act, whatever is kept, the disk is so. -/
def SafeA (P : Dk → Prop) (R : Dk) (xs : List (Option (Nat × List Nat))) : Prop := ∀ (j : Nat) (keep : Int), P (Dk.of (failL keep 0 (R.run (xs.take j)).fre (R.run (xs.take j)).las).flatten)
theorem SafeA.append {P : Dk → Prop} {R : Dk} {xs ys : List (Option (Nat × List Nat))} (h1 : SafeA P R xs) (h2 : SafeA P (R.run xs) ys) : SafeA P R (xs ++ ys) := by
  intro j keep
  rw [List.take_append, Dk.run_append]
  by_cases hj : j ≤ xs.length
  · rw [show j - xs.length = 0 by omega, List.take_zero]
    exact h1 j keep
  · rw [List.take_of_length_le (by omega)]
    exact h2 _ keep
theorem SafeA.mono {P Q : Dk → Prop} {R : Dk} {xs : List (Option (Nat × List Nat))} (h : SafeA P R xs) (hq : ∀ X, P X → Q X) : SafeA Q R xs := fun j keep => hq _ (h j keep)
theorem putL_one (f : List (Nat × List Nat)) : ∀ (l : List (List Nat)) (m : Nat), (∀ x ∈ f, x.1 < l.length) → (putL f l).getD m [] = l.getD m [] ∨ ∃ x ∈ f, x.1 = m ∧ (putL f l).getD m [] = x.2 := by
  induction f with
  | nil => intro l m _; exact .inl rfl
  | cons x r ih =>
    intro l m hx
    show (putL r (l.set x.1 x.2)).getD m [] = _ ∨ ∃ y ∈ x :: r, y.1 = m ∧ (putL r (l.set x.1 x.2)).getD m [] = y.2
    rcases ih (l.set x.1 x.2) m (fun y hy => by rw [List.length_set]; exact hx y (List.mem_cons_of_mem _ hy)) with h | ⟨y, hy, h1, h2⟩
    · rw [h]
      by_cases e : m = x.1
      · right
        exact ⟨x, List.mem_cons_self .., e.symm, by rw [e]; exact set_same (hx x (List.mem_cons_self ..))⟩
      · left
        exact set_sec e
    · exact .inr ⟨y, List.mem_cons_of_mem _ hy, h1, h2⟩
theorem find_key {f : List (Nat × List Nat)} (hn : (f.map (·.1)).Nodup) {x : Nat × List Nat} (hx : x ∈ f) : f.find? (fun y => y.1 == x.1) = some x := by
  induction f with
  | nil => simp at hx
  | cons y r ih =>
    rw [List.map_cons, List.nodup_cons] at hn
    by_cases e : y.1 = x.1
    · rw [List.find?_cons_of_pos (by simpa using e)]
      rcases List.mem_cons.1 hx with h | h
      · rw [h]
      · exact absurd (List.mem_map.2 ⟨x, h, e.symm⟩) hn.1
    · rw [List.find?_cons_of_neg (by simpa using e)]
      rcases List.mem_cons.1 hx with h | h
      · rw [h] at e; exact absurd rfl e
      · exact ih hn.2 h
theorem read_key {D : Dk} (hn : D.keys.Nodup) {x : Nat × List Nat} (hx : x ∈ D.fre) : D.read x.1 = x.2 := by
  unfold Dk.read
  rw [find_key hn hx]
  rfl
theorem read_las {D : Dk} (hf : D.fre = []) (i : Nat) : D.read i = D.las.getD i [] := by
  unfold Dk.read; rw [hf]; rfl
/-- A disk of sectors. -/
theorem of_secL {m : List (List Nat)} (h : SecL m) : (Dk.of m.flatten).nf ∧ (Dk.of m.flatten).ok ∧ (Dk.of m.flatten).fre = [] ∧ ∀ i, (Dk.of m.flatten).read i = m.getD i [] := by
  refine ⟨⟨rfl, rfl⟩, Dk.of_ok h.flat h.byt, rfl, fun i => ?_⟩
  rw [read_las rfl]
  show (secs 200 m.flatten).getD i [] = _
  rw [secs_of_flat 200 m h.len (fun s hs => (h.sec s hs).len)]
theorem safe_seg {P : Dk → Prop} {R : Dk} {xs : List (Option (Nat × List Nat))} (hR : R.nf) (hok : R.ok) (hw : allW xs) (hf : R.fre = []) (hk : (R.run xs).ok) (hn : (R.run xs).keys.Nodup)
    (hP : ∀ X : Dk, X.nf → X.ok → X.fre = [] → (∀ i, i < 200 → X.read i = R.read i ∨ (i ∈ (R.run xs).keys ∧ X.read i = (R.run xs).read i)) → P X) : SafeA P R (xs ++ [none]) := by
  obtain ⟨zs, hz1, hz2⟩ := run_writes xs R hR hw
  rw [hf, List.nil_append] at hz1
  have hkey : ∀ x ∈ (R.run xs).fre, x.1 < R.las.length := fun x hx => by rw [hok.las]; exact (hk.fre x hx).1
  have main : ∀ m : List (List Nat), SecL m → (∀ i, m.getD i [] = R.las.getD i [] ∨ ∃ x ∈ (R.run xs).fre, x.1 = i ∧ m.getD i [] = x.2) → P (Dk.of m.flatten) := by
    intro m hm h
    obtain ⟨h1, h2, h3, h4⟩ := of_secL hm
    refine hP _ h1 h2 h3 (fun i _ => ?_)
    rw [h4 i, read_las hf]
    rcases h i with h5 | ⟨x, hx, h5, h6⟩
    · exact .inl h5
    · right
      refine ⟨List.mem_map.2 ⟨x, hx, h5⟩, ?_⟩
      rw [h6, ← h5, read_key hn hx]
  intro j keep
  by_cases hj : j ≤ xs.length
  · rw [List.take_append_of_le_length hj]
    obtain ⟨us, hu1, hu2⟩ := run_writes (xs.take j) R hR (fun a ha => hw a (List.mem_of_mem_take ha))
    obtain ⟨vs, hv1, hv2⟩ := run_writes (xs.drop j) (R.run (xs.take j)) (hR.run _) (fun a ha => hw a (List.mem_of_mem_drop ha))
    rw [← Dk.run_append, List.take_append_drop] at hv1
    have hsub : ∀ x ∈ (R.run (xs.take j)).fre, x ∈ (R.run xs).fre := fun x hx => by rw [hv1]; exact List.mem_append_left _ hx
    generalize (R.run (xs.take j)).fre = f1 at *
    rw [hu2]
    refine main _ (failL_secL hok.secL (fun x hx => (hk.fre x (hsub x hx)).2)) (fun i => ?_)
    rcases failL_get keep f1 0 R.las i (fun x hx => hkey x (hsub x hx)) with h | ⟨x, hx, h1, h2⟩
    · exact .inl h
    · exact .inr ⟨x, hsub x hx, h1, h2⟩
  · rw [List.take_of_length_le (by simp; omega), Dk.run_append]
    have hfl : (R.run xs).run [none] = (R.run xs).flush := rfl
    rw [hfl, (hR.run xs).flush_eq]
    show P (Dk.of (putL (R.run xs).fre (R.run xs).las).flatten)
    rw [hz2]
    refine main _ ?_ (fun i => putL_one _ _ i hkey)
    rw [← hz2]
    exact hk.secV
end Go.Proofs.YtlhohmlpcgbliaaDoor
namespace Go.Proofs.YtlhohmlpcgbliaaDoor
set_option maxRecDepth 100000
open Go.RowKit

theorem hd_n (f n : Nat) : (hdSec f n).getD 13 0 = f ∧ (hdSec f n).getD 14 0 = n ∧ hdSec f n ≠ zer := by
  refine ⟨rfl, rfl, fun h => ?_⟩
  have h1 := congrArg (fun l : List Nat => l.getD 0 0) h
  have h2 : (hdSec f n).getD 0 0 ≠ 0 := by
    show markJ.getD 0 0 ≠ 0
    decide
  exact h2 (h1.trans (by decide))
theorem jents_read {D X : Dk} (h : ∀ j, 2 ≤ j → j < 6 → X.read j = D.read j) (count : Nat) : ∀ f k, k + f ≤ 12 → jents X count k f = jents D count k f := by
  intro f
  induction f with
  | zero => intro k _; rfl
  | succ f ih =>
    intro k hk
    rw [jents, jents, slot_of_read (D := D) (h _ (by omega) (by omega)), ih (k + 1) (by omega)]
theorem jE_read {D X : Dk} (h : ∀ j, 2 ≤ j → j < 6 → X.read j = D.read j) (count : Nat) : X.jE count = D.jE count := jents_read h count 12 0 (by omega)
theorem jents_full {D : Dk} {W : List ByteArray} (h : ∀ k s, W[k]? = some s → unpL (D.slot 2 3 k) = some (bts s)) (hW : W.length ≤ 12) : ∀ f k, k + f = 12 → k ≤ W.length → jents D W.length k f = W.drop k := by
  intro f
  induction f with
  | zero => intro k hk hl; rw [List.drop_eq_nil_of_le (by omega)]; rfl
  | succ f ih =>
    intro k hk hl
    by_cases he : k = W.length
    · rw [jents_stop (.inl he), List.drop_eq_nil_of_le (by omega)]
    · have hlt : k < W.length := by omega
      rw [jents_go he (h k _ (List.getElem?_eq_getElem hlt)), ih (k + 1) (by omega) (by omega), strOf_bts, ← List.drop_eq_getElem_cons hlt]
theorem Hold1.mix {D Z X : Dk} {E : List ByteArray} (h : Hold1 D E) (xnf : X.nf) (xok : X.ok) (xfre : X.fre = []) (h0 : X.read 0 = D.read 0) (ze : ∀ i s, E[i]? = some s → unpL (Z.slot 6 3 i) = some (bts s)) (zt : ∀ k, Tiled Z (E.map leafS) E.length k) (hr : ∀ i, 6 ≤ i → i < 200 → X.read i = D.read i ∨ X.read i = Z.read i) : Hold1 X E := by
  refine ⟨xnf, xok, xfre, h.len, h.siz, by rw [h0]; exact h.ck, ?_, ?_⟩
  · intro i s hs
    have hi : i < E.length := (List.getElem?_eq_some_iff.1 hs).1
    have := h.len
    rcases hr (6 + i / 3) (by omega) (by omega) with h1 | h1
    · rw [slot_of_read h1]; exact h.ent i s hs
    · rw [slot_of_read h1]; exact ze i s hs
  · intro k i hi
    have h0 := h.len
    have h1 := tile_sec (k := k) (i := i) (by omega)
    have h2 := (tileAt_le (k + 1)).1
    have h3 := tile_low k
    rcases hr ((tileAt k).1 + i / 4) (by omega) (by omega) with h4 | h4
    · rw [slot_of_read h4]; exact h.til k i hi
    · rw [slot_of_read h4]; exact zt k i hi
theorem Hold1.same {D X : Dk} {E : List ByteArray} (h : Hold1 D E) (xnf : X.nf) (xok : X.ok) (xfre : X.fre = []) (h0 : X.read 0 = D.read 0) (hr : ∀ i, 6 ≤ i → i < 200 → X.read i = D.read i) : Hold1 X E := h.mix xnf xok xfre h0 h.ent h.til (fun i h1 h2 => .inl (hr i h1 h2))
/-- A journal that tells of W behind E is pending; the log holds H. -/
structure Pend (X : Dk) (H E W : List ByteArray) : Prop where
  hold : Hold1 X H
  hd : X.read 1 = hdSec E.length W.length
  je : X.jE W.length = W
theorem Pend.same {D X : Dk} {H E W : List ByteArray} (h : Pend D H E W) (xnf : X.nf) (xok : X.ok) (xfre : X.fre = []) (hr : ∀ i, i < 200 → X.read i = D.read i) : Pend X H E W :=
  ⟨h.hold.same xnf xok xfre (hr 0 (by omega)) (fun i _ h2 => hr i h2), by rw [hr 1 (by omega)]; exact h.hd, by rw [jE_read (D := D) (fun j _ h2 => hr j (by omega))]; exact h.je⟩
theorem Puts.old {D : Dk} {E W : List ByteArray} (p : Puts D E W) : (∀ i s, E[i]? = some s → unpL ((D.put E.length W).slot 6 3 i) = some (bts s)) ∧ ∀ k, Tiled (D.put E.length W) (E.map leafS) E.length k := by
  refine ⟨fun i s hs => p.ent i s ?_, fun k i hi => ?_⟩
  · rw [List.getElem?_append_left (List.getElem?_eq_some_iff.1 hs).1]; exact hs
  · rw [p.til k i (by omega), List.map_append, drop_app]
    have : (i + 1) * 4 ^ k = i * 4 ^ k + 4 ^ k := Nat.succ_mul _ _
    rw [List.length_map]
    omega
/-- One write and a flush. -/
theorem safe_one {P : Dk → Prop} {R : Dk} (hR : R.nf) (hok : R.ok) (hf : R.fre = []) {i : Nat} {s : List Nat} (hi : i < 200) (hs : Sec s) (hP : ∀ X : Dk, X.nf → X.ok → X.fre = [] → (∀ j, j < 200 → j ≠ i → X.read j = R.read j) → (X.read i = R.read i ∨ X.read i = s) → P X) : SafeA P R [some (i, s), none] := by
  have hk : R.run [some (i, s)] = R.write i s := rfl
  have hkeys : (R.run [some (i, s)]).keys = [i] := by rw [hk, (hR.write _ _).2.1, keys_nil hf]; rfl
  refine safe_seg (xs := [some (i, s)]) hR hok (fun a ha => ⟨(i, s), List.mem_singleton.1 ha⟩) hf (by rw [hk]; exact hok.write hi hs (by rw [hf]; simp)) (by rw [hkeys]; simp) ?_
  intro X h1 h2 h3 h4
  refine hP X h1 h2 h3 ?_ ?_
  · intro j hj hji
    rcases h4 j hj with h5 | ⟨h5, _⟩
    · exact h5
    · rw [hkeys] at h5; exact absurd (List.mem_singleton.1 h5) hji
  · rcases h4 i hi with h5 | ⟨_, h5⟩
    · exact .inl h5
    · right
      rw [h5, hk, hR.write_read i s (by rw [keys_nil hf]; simp), if_pos rfl]
/-- The journal is removed. -/
theorem rm_safe {R : Dk} {H E W : List ByteArray} (h : Pend R H E W) : SafeA (fun X => Pend X H E W ∨ Holds X H) R rmA := by
  refine safe_one h.hold.nf h.hold.ok h.hold.fre (by omega) zer_sec ?_
  intro X h1 h2 h3 h4 h5
  rcases h5 with h5 | h5
  · left
    exact h.same h1 h2 h3 (fun i hi => if e : i = 1 then by rw [e]; exact h5 else h4 i hi e)
  · right
    exact (h.hold.same h1 h2 h3 (h4 0 (by omega) (by omega)) (fun i h6 h7 => h4 i h7 (by omega))).all h5
/-- All that a crash leaves of what is pending. -/
def Cr2 (E W : List ByteArray) (X : Dk) : Prop := Pend X E E W ∨ Pend X (E ++ W) E W ∨ Holds X (E ++ W)
theorem en_safe {R : Dk} {E W : List ByteArray} (h : Pend R E E W) (hz : ∀ s ∈ W, s.size ≤ 40) (hl : E.length + W.length ≤ 64) : SafeA (Cr2 E W) R (enA R E.length W) := by
  have p := put_facts h.hold hz hl
  have po := p.old
  unfold enA
  rw [if_pos h.hold.ckN]
  have e1 : R.run (wrA 6 3 (packs W).length R E.length (packs W)) = R.rowWrite 6 3 E.length (packs W) := (does_rowWrite h.hold.nf 6 3 E.length (packs W)).at.symm
  have e2 : (R.rowWrite 6 3 E.length (packs W)).run (grA (E.length + W.length) (R.rowWrite 6 3 E.length (packs W)) E.length (E.length + W.length) 0 1) = (R.rowWrite 6 3 E.length (packs W)).grow E.length (E.length + W.length) := (does_grwF _ _ _ _ _ _ p.rnf).at.symm
  have e3 : R.run (ptA R E.length W) = R.put E.length W := (does_put h.hold.nf E.length W).at.symm
  have e4 : (R.put E.length W).run (ckA (R.put E.length W) (E.length + W.length)) = (R.put E.length W).ckp (E.length + W.length) := (does_ckp (R := R.put E.length W) (E.length + W.length)).at.symm
  have e12 : R.run (wrA 6 3 (packs W).length R E.length (packs W) ++ grA (E.length + W.length) (R.rowWrite 6 3 E.length (packs W)) E.length (E.length + W.length) 0 1) = (R.rowWrite 6 3 E.length (packs W)).grow E.length (E.length + W.length) := by rw [Dk.run_append, e1, e2]
  have hfr : ∀ j, j < 200 → (R.put E.length W).read j = ((R.rowWrite 6 3 E.length (packs W)).grow E.length (E.length + W.length)).read j := fun j hj => p.gnf.flush_read p.gok p.gnd j hj
  have hpd : Pend (R.put E.length W) E E W := ⟨h.hold.mix p.pnf p.pok p.pfre (p.low 0 (by omega)) po.1 po.2 (fun i _ _ => .inr rfl), by rw [p.low 1 (by omega)]; exact h.hd, by rw [jE_read (D := R) (fun j _ h2 => p.low j h2)]; exact h.je⟩
  have h32 := mth32 (E := E ++ W)
  have hEW : (E ++ W).length = E.length + W.length := List.length_append
  have hsec : Sec (ckSec (E.length + W.length) (bts ((R.put E.length W).span 0 (E.length + W.length)))) := by rw [p.root]; exact ckSec_sec (by omega) (by omega)
  have hnew : ∀ X : Dk, X.nf → X.ok → X.fre = [] → (∀ j, j < 200 → j ≠ 0 → X.read j = (R.put E.length W).read j) → X.read 0 = ckSec (E.length + W.length) (bts ((R.put E.length W).span 0 (E.length + W.length))) → Pend X (E ++ W) E W := by
    intro X h1 h2 h3 h4 h5
    refine ⟨⟨h1, h2, h3, by rw [hEW]; exact hl, ?_, by rw [h5, p.root, hEW], ?_, ?_⟩, ?_, ?_⟩
    · intro s hs
      rcases List.mem_append.1 hs with h6 | h6
      · exact h.hold.siz s h6
      · exact hz s h6
    · intro i s hs
      have hi : i < (E ++ W).length := (List.getElem?_eq_some_iff.1 hs).1
      rw [slot_of_read (h4 _ (by omega) (by omega))]
      exact p.ent i s hs
    · intro k i hi
      rw [hEW] at hi
      have h6 := tile_sec (k := k) (i := i) (by omega)
      have h7 := (tileAt_le (k + 1)).1
      have h8 := tile_low k
      rw [slot_of_read (h4 _ (by omega) (by omega))]
      exact p.til k i hi
    · rw [h4 1 (by omega) (by omega)]; exact hpd.hd
    · rw [jE_read (D := R.put E.length W) (fun j h6 h7 => h4 j (by omega) (by omega))]; exact hpd.je
  refine SafeA.append ?_ (SafeA.append ?_ ?_)
  · unfold ptA
    rw [← List.append_assoc]
    refine safe_seg h.hold.nf h.hold.ok (allW_append (wrA_allW _ _ _ _ _ _) (grA_allW _ _ _ _ _ _)) h.hold.fre (by rw [e12]; exact p.gok) (by rw [e12]; exact p.gnd) ?_
    rw [e12]
    intro X h1 h2 h3 h4
    left
    have hlow : ∀ i, i < 6 → X.read i = R.read i := fun i hi => by
      rcases h4 i (by omega) with h5 | ⟨_, h5⟩
      · exact h5
      · rw [h5, ← hfr i (by omega), p.low i hi]
    refine ⟨h.hold.mix h1 h2 h3 (hlow 0 (by omega)) po.1 po.2 (fun i _ hi => ?_), by rw [hlow 1 (by omega)]; exact h.hd, by rw [jE_read (D := R) (fun j _ h6 => hlow j h6)]; exact h.je⟩
    rcases h4 i hi with h5 | ⟨_, h5⟩
    · exact .inl h5
    · exact .inr (by rw [h5, hfr i hi])
  · rw [e3]
    unfold ckA
    refine safe_one p.pnf p.pok p.pfre (by omega) hsec ?_
    intro X h1 h2 h3 h4 h5
    rcases h5 with h5 | h5
    · left
      exact hpd.same h1 h2 h3 (fun i hi => if e : i = 0 then by rw [e]; exact h5 else h4 i hi e)
    · right; left
      exact hnew X h1 h2 h3 h4 h5
  · rw [e3, e4]
    have hp8 := put_one p.pnf p.pok p.pfre (i := 0) (by omega) hsec
    have hck : Pend ((R.put E.length W).ckp (E.length + W.length)) (E ++ W) E W := hnew _ hp8.1 hp8.2.1 hp8.2.2.1 (fun j hj hj0 => by
      show ((R.put E.length W).write 0 _).flush.read j = _
      rw [hp8.2.2.2 j hj, if_neg hj0]) (by
      show ((R.put E.length W).write 0 _).flush.read 0 = _
      rw [hp8.2.2.2 0 (by omega), if_pos rfl])
    exact (rm_safe hck).mono (fun X hX => .inr hX)
/-- What a crash leaves while what is pending is ended. -/
theorem rc_safe {R : Dk} {E W : List ByteArray} (h : Pend R E E W ∨ Pend R (E ++ W) E W) (h0 : 0 < W.length) (hz : ∀ s ∈ W, s.size ≤ 40) (hl : E.length + W.length ≤ 64) : SafeA (Cr2 E W) R (enA R E.length W) := by
  rcases h with h | h
  · exact en_safe h hz hl
  · have hc : ¬ R.ckN = E.length := by rw [h.hold.ckN, List.length_append]; omega
    unfold enA
    rw [if_neg hc]
    exact (rm_safe h).mono (fun X hX => .inr hX)
/-- What a crash leaves of a Flush. -/
theorem add_safe {D : Dk} {E W : List ByteArray} (h : Holds D E) (hW : W.length ≤ 12) (hz : ∀ s ∈ W, s.size ≤ 40) (hl : E.length + W.length ≤ 64) : SafeA (fun X => Holds X E ∨ Cr2 E W X) D (adA D W) := by
  have hE := h.len
  have hk := keys_nil h.fre
  have hr := rowWrite_spec (start := 2) (each := 3) (.inl rfl) D 0 (packs W) h.nf h.ok (by rw [hk]; simp) (by rw [hk]; simp) (packs_ok hz) (by rw [packs_len]; omega) (by rw [h.fre, packs_len]; simp; omega)
  have e1 : D.run (wrA 2 3 (packs W).length D 0 (packs W)) = D.rowWrite 2 3 0 (packs W) := (does_rowWrite h.nf 2 3 0 (packs W)).at.symm
  have e2 : D.run (jwA D E.length W) = D.jwrite E.length W := (does_jwrite h.nf E.length W).at.symm
  have hkeys : ∀ x ∈ (D.rowWrite 2 3 0 (packs W)).keys, 2 ≤ x ∧ x < 6 := fun x hx => by
    rcases hr.keys x hx with h1 | ⟨_, h2, h3⟩
    · rw [hk] at h1; simp at h1
    · rw [packs_len] at h3
      omega
  have hsl : ∀ k s, W[k]? = some s → unpL ((D.rowWrite 2 3 0 (packs W)).slot 2 3 k) = some (bts s) := fun k s hs => by
    have hkl : k < W.length := (List.getElem?_eq_some_iff.1 hs).1
    rw [hr.slot, packs_len, if_pos (by omega), Nat.sub_zero, packs_get hs]
    exact unp_pad (hz s (List.mem_of_getElem? hs))
  have hfl := hr.nf.flush
  have hfr : ∀ j, j < 200 → (D.rowWrite 2 3 0 (packs W)).flush.read j = (D.rowWrite 2 3 0 (packs W)).read j := fun j hj => hr.nf.flush_read hr.ok hr.nd j hj
  have hrd : ∀ j, j < 200 → (j < 2 ∨ 6 ≤ j) → (D.rowWrite 2 3 0 (packs W)).read j = D.read j := fun j _ hj => by
    apply hr.read
    rw [packs_len]
    by_cases hw0 : W.length = 0
    · exact .inl (List.eq_nil_of_length_eq_zero (by rw [packs_len]; exact hw0))
    · right
      omega
  have hje : (D.rowWrite 2 3 0 (packs W)).flush.jE W.length = W := by
    rw [jE_read (D := D.rowWrite 2 3 0 (packs W)) (fun j _ h2 => hfr j (by omega))]
    exact (jents_full hsl hW 12 0 (by omega) (by omega)).trans (List.drop_zero)
  have hR1 : Holds (D.rowWrite 2 3 0 (packs W)).flush E := (h.one.same hfl.1 hr.ok.flush hfl.2 (by rw [hfr 0 (by omega), hrd 0 (by omega) (.inl (by omega))]) (fun i h1 h2 => by rw [hfr i h2, hrd i h2 (.inr h1)])).all (by rw [hfr 1 (by omega), hrd 1 (by omega) (.inl (by omega))]; exact h.jn)
  have hnew : ∀ X : Dk, X.nf → X.ok → X.fre = [] → (∀ j, j < 200 → j ≠ 1 → X.read j = (D.rowWrite 2 3 0 (packs W)).flush.read j) → X.read 1 = hdSec E.length W.length → Pend X E E W := by
    intro X h1 h2 h3 h4 h5
    exact ⟨hR1.one.same h1 h2 h3 (h4 0 (by omega) (by omega)) (fun i h6 h7 => h4 i h7 (by omega)), h5, by rw [jE_read (fun j h6 h7 => h4 j (by omega) (by omega))]; exact hje⟩
  have hsec : Sec (hdSec E.length W.length) := hdSec_sec (by omega) (by omega)
  unfold adA
  rw [h.ckN]
  refine SafeA.append ?_ ?_
  · unfold jwA
    rw [show [none, some (1, hdSec E.length W.length), none] = [none] ++ [some (1, hdSec E.length W.length), none] from rfl, ← List.append_assoc]
    refine SafeA.append ?_ ?_
    · refine safe_seg h.nf h.ok (wrA_allW _ _ _ _ _ _) h.fre (by rw [e1]; exact hr.ok) (by rw [e1]; exact hr.nd) ?_
      rw [e1]
      intro X h1 h2 h3 h4
      left
      have hx : ∀ j, j < 200 → (j < 2 ∨ 6 ≤ j) → X.read j = D.read j := fun j hj hj2 => by
        rcases h4 j hj with h5 | ⟨h5, _⟩
        · exact h5
        · have := hkeys j h5; omega
      exact (h.one.same h1 h2 h3 (hx 0 (by omega) (.inl (by omega))) (fun i h6 h7 => hx i h7 (.inr h6))).all (by rw [hx 1 (by omega) (.inl (by omega))]; exact h.jn)
    · rw [Dk.run_append, e1]
      show SafeA _ (D.rowWrite 2 3 0 (packs W)).flush _
      refine safe_one hfl.1 hr.ok.flush hfl.2 (by omega) hsec ?_
      intro X h1 h2 h3 h4 h5
      rcases h5 with h5 | h5
      · left
        exact (hR1.one.same h1 h2 h3 (h4 0 (by omega) (by omega)) (fun i h6 h7 => h4 i h7 (by omega))).all (by rw [h5]; exact hR1.jn)
      · right; left
        exact hnew X h1 h2 h3 h4 h5
  · rw [e2]
    have hp := put_one hfl.1 hr.ok.flush hfl.2 (i := 1) (by omega) hsec
    have hpd : Pend (D.jwrite E.length W) E E W := hnew _ hp.1 hp.2.1 hp.2.2.1 (fun j hj hj0 => by
      show ((D.rowWrite 2 3 0 (packs W)).flush.write 1 _).flush.read j = _
      rw [hp.2.2.2 j hj, if_neg hj0]) (by
      show ((D.rowWrite 2 3 0 (packs W)).flush.write 1 _).flush.read 1 = _
      rw [hp.2.2.2 1 (by omega), if_pos rfl])
    exact (en_safe hpd hz hl).mono (fun X hX => .inr hX)
end Go.Proofs.YtlhohmlpcgbliaaDoor
namespace Go.Proofs.YtlhohmlpcgbliaaDoor
set_option maxRecDepth 100000
open Go.RowKit

/-- The acts of a Recover. -/
def rcA (R : Dk) : List (Option (Nat × List Nat)) := if R.read 1 = zer then [] else enA R R.jF (R.jE R.jN)
theorem does_recv {R : Dk} (hR : R.nf) : Does Dk.recv R (rcA R) := by
  intro D h
  rcases h with h | h
  · rw [down_run h]
    unfold Dk.recv
    split
    · rfl
    · exact down_endJ h _ _
  · have e1 : D.read 1 = R.read 1 := h.read 1
    have e2 : D.jF = R.jF := by unfold Dk.jF; rw [e1]
    have e3 : D.jE D.jN = R.jE R.jN := by
      rw [jE_read (D := R) (fun j _ _ => h.read j)]
      unfold Dk.jN; rw [e1]
    unfold Dk.recv rcA
    rw [e1, e2, e3]
    split
    · rfl
    · exact does_endJ hR _ _ D (.inr h)
theorem Pend.num {X : Dk} {H E W : List ByteArray} (h : Pend X H E W) : X.read 1 ≠ zer ∧ X.jF = E.length ∧ X.jN = W.length ∧ X.jE X.jN = W := by
  have h1 := hd_n E.length W.length
  have h2 : X.jN = W.length := by unfold Dk.jN; rw [h.hd]; exact h1.2.1
  exact ⟨by rw [h.hd]; exact h1.2.2, by unfold Dk.jF; rw [h.hd]; exact h1.1, h2, by rw [h2]; exact h.je⟩
theorem Pend.fits {X : Dk} {H E W : List ByteArray} (h : Pend X H E W) (hl : E.length + W.length ≤ 64) (hH : H = E ∨ H = E ++ W) : X.fits H.length := by
  obtain ⟨_, h2, h3, h4⟩ := h.num
  right
  rw [h4, h2]
  refine ⟨h.hd, hl, ?_⟩
  rcases hH with rfl | rfl
  · exact .inl rfl
  · exact .inr List.length_append
/-- What is known of all disks that a crash may leave, again and again. -/
structure RecP (P : Dk → Prop) (E W Z : List ByteArray) : Prop where
  hold : ∀ X, P X → ∃ H, Hold1 X H ∧ X.fits H.length ∧ (H = E ∨ H = E ++ W)
  safe : ∀ X, P X → SafeA P X (rcA X)
  fin : ∀ X, P X → Holds X.recv Z
  len : ∀ X, P X → (rcA X).length ≤ 10000
theorem safe_nil {P : Dk → Prop} {X : Dk} (hf : X.fre = []) (h : P (Dk.of X.las.flatten)) : SafeA P X [] := by
  intro j keep
  rw [List.take_nil]
  show P (Dk.of (failL keep 0 X.fre X.las).flatten)
  rw [hf]
  exact h
theorem Holds.rcA {X : Dk} {E : List ByteArray} (h : Holds X E) : rcA X = [] := if_pos h.jn
theorem Holds.recv {X : Dk} {E : List ByteArray} (h : Holds X E) : X.recv = X := if_pos h.jn
theorem recP_old (E W : List ByteArray) : RecP (fun X => Holds X E) E W E := by
  refine ⟨fun X h => ⟨E, h.one, .inl h.jn, .inl rfl⟩, fun X h => ?_, fun X h => ?_, fun X h => ?_⟩
  · rw [h.rcA]; exact safe_nil h.fre h.again
  · rw [h.recv]; exact h
  · rw [h.rcA]; simp
theorem enA_len {R : Dk} {f : Nat} {ss : List ByteArray} (hl : f + ss.length ≤ 76) : (enA R f ss).length ≤ 10000 := by
  unfold enA
  split
  · unfold ptA ckA rmA
    have h1 := wrA_len 6 3 (packs ss).length R f (packs ss)
    have h2 := grA_len (f + ss.length) (R.rowWrite 6 3 f (packs ss)) f (f + ss.length) 0 1
    rw [packs_len] at h1
    simp only [List.length_append, List.length_cons, List.length_nil, packs_len]
    omega
  · simp [rmA]
theorem recP_new {E W : List ByteArray} (h0 : 0 < W.length) (hW : W.length ≤ 12) (hz : ∀ s ∈ W, s.size ≤ 40) (hl : E.length + W.length ≤ 64) : RecP (Cr2 E W) E W (E ++ W) := by
  have hp : ∀ X H, Pend X H E W → rcA X = enA X E.length W := fun X H h => by
    obtain ⟨h1, h2, h3, h4⟩ := h.num
    unfold rcA
    rw [if_neg h1, h2, h4]
  have hr : ∀ X H, Pend X H E W → X.recv = X.endJ E.length W := fun X H h => by
    obtain ⟨h1, h2, h3, h4⟩ := h.num
    unfold Dk.recv
    rw [if_neg h1, h2, h4]
  refine ⟨fun X h => ?_, fun X h => ?_, fun X h => ?_, fun X h => ?_⟩
  · rcases h with h | h | h
    · exact ⟨E, h.hold, h.fits hl (.inl rfl), .inl rfl⟩
    · exact ⟨E ++ W, h.hold, h.fits hl (.inr rfl), .inr rfl⟩
    · exact ⟨E ++ W, h.one, .inl h.jn, .inr rfl⟩
  · rcases h with h | h | h
    · rw [hp X E h]; exact rc_safe (.inl h) h0 hz hl
    · rw [hp X _ h]; exact rc_safe (.inr h) h0 hz hl
    · rw [h.rcA]; exact safe_nil h.fre (.inr (.inr h.again))
  · rcases h with h | h | h
    · rw [hr X E h]; exact endJ_spec h.hold hz hl
    · rw [hr X _ h]; exact endJ_done h.hold (by rw [List.length_append]; omega)
    · rw [h.recv]; exact h
  · rcases h with h | h | h
    · rw [hp X E h]; exact enA_len (by omega)
    · rw [hp X _ h]; exact enA_len (by omega)
    · rw [h.rcA]; simp
/-- Recover on a disk with a script. -/
theorem recv_in {P : Dk → Prop} {E W Z : List ByteArray} (p : RecP P E W Z) {X : Dk} (h : P X) (hnf : X.nf) (ha : X.acts = 0) (t : Nat) (keep : Int) (ht : (rcA X).length ≤ t) (ht2 : t ≤ 1000000) :
    ((X.script (t : Int) keep).recv).failed = false ∧ ((X.script (t : Int) keep).recv).acts = (rcA X).length ∧ Like ((X.script (t : Int) keep).recv) X.recv := by
  have hd := does_recv hnf
  have e1 : (X.script (t : Int) keep).recv = (X.script (t : Int) keep).run (rcA X) := hd _ (.inr (Dk.script_like _ _ _))
  have e2 : X.recv = X.run (rcA X) := hd.at
  have hb := p.len X h
  rw [e1, e2]
  have h9 := run_in (rcA X) (X.script (t : Int) keep) X hnf (Dk.script_like _ _ _) hnf.failed rfl (by show ((rcA X).length : Int) ≤ (t : Int); omega) (by show (t : Int) ≤ _; omega) (by show 0 ≤ X.acts; omega) (by show X.acts + _ ≤ _; omega)
  refine ⟨h9.1, ?_, h9.2.2.2.2.2⟩
  rw [h9.2.2.2.1]
  show X.acts + _ = _
  omega
theorem recv_out {P : Dk → Prop} {E W Z : List ByteArray} (p : RecP P E W Z) {X : Dk} (h : P X) (hnf : X.nf) (ha : X.acts = 0) (t : Nat) (keep : Int) (ht : t < (rcA X).length) :
    ((X.script (t : Int) keep).recv).failed = true ∧ ((X.script (t : Int) keep).recv).acts = t ∧ P (Dk.of ((X.script (t : Int) keep).recv).las.flatten) := by
  have hd := does_recv hnf
  have e1 : (X.script (t : Int) keep).recv = (X.script (t : Int) keep).run (rcA X) := hd _ (.inr (Dk.script_like _ _ _))
  have hb := p.len X h
  rw [e1]
  have h9 := run_out (rcA X) (X.script (t : Int) keep) X hnf (Dk.script_like _ _ _) hnf.failed rfl t rfl ht (by omega) (by show 0 ≤ X.acts; omega) (by show X.acts + _ ≤ _; omega)
  refine ⟨h9.1, ?_, ?_⟩
  · rw [h9.2.1]; show X.acts + _ = _; omega
  · rw [h9.2.2.2]
    exact p.safe X h t keep
theorem recv_acts {P : Dk → Prop} {E W Z : List ByteArray} (p : RecP P E W Z) {X : Dk} (h : P X) (hnf : X.nf) (ha : X.acts = 0) : X.recv.acts = (rcA X).length := by
  have e2 : X.recv = X.run (rcA X) := (does_recv hnf).at
  have hb := p.len X h
  rw [e2, nf_run_acts _ _ hnf (by omega) (by omega)]
  omega
end Go.Proofs.YtlhohmlpcgbliaaDoor
namespace Go.Proofs.YtlhohmlpcgbliaaDoor
set_option maxRecDepth 100000
open Go.RowKit
attribute [local go_sem ↓] Go.wp_at_zero Go.wp_at_succ

theorem beside_inc1 {E : List ByteArray} {D : Dk} {b : Nat} {fv : Value} (hH : Hold1 D E) : ∀ (N i a m j : Nat) (w : World), DiskAt w b fv D → Table w → 2 < w.heap.size → m ≤ N → N ≤ 64 → 1 ≤ m → m ≤ 2 ^ j → 2 ^ j ∣ a → a + m ≤ E.length → a ≤ i → i < a + m →
    GivesRow w 97 #[.int .i64 (i : Int), .int .i64 (a : Int), .int .i64 ((a + m : Nat) : Int), spanV b] (incF N (i - a) (((E.map leafS).drop a).take m)) := by
  intro N
  have hL : (E.map leafS).length = E.length := List.length_map _
  have hE := hH.len
  have hspan := fun (m a j : Nat) (h1 : m ≤ 2 ^ j) (h2 : 2 ^ j ∣ a) (h3 : a + m ≤ E.length) => span_mth hH.til (by rw [hL]; exact Nat.le_refl _) m m a j (Nat.le_refl _) h1 h2 h3
  induction N with
  | zero => intro i a m j w _ _ _ h1 _ h2; omega
  | succ N ih =>
    intro i a m j w hD ht hg hm hN h1 hj hd ham hai him
    have hl := sub_len (L := E.map leafS) (a := a) (m := m) (by omega)
    simp only [incF, hl]
    by_cases h2 : m < 2
    · rw [if_pos h2]
      obtain rfl : m = 1 := by omega
      exact be_none i a _ w
    · rw [if_neg h2]
      obtain ⟨h, hs, hd1, hd2, hle, hlt, hpos⟩ := cut_facts (by omega) hj hd
      rw [sub_take (by omega), sub_drop]
      have gl := gives_span b a (spl m) fv D w hD (by omega) ht hg
      have gr := gives_span b (a + spl m) (m - spl m) fv D w hD (by omega) ht hg
      rw [hspan (spl m) a h (by omega) hd1 (by omega)] at gl
      rw [hspan (m - spl m) (a + spl m) h hle hd2 (by omega)] at gr
      rw [show a + spl m + (m - spl m) = a + m by omega] at gr
      by_cases h5 : i < a + spl m
      · rw [if_pos (by omega)]
        have q := ih i a (spl m) h w hD ht hg (by omega) (by omega) (by omega) (by omega) hd1 (by omega) hai h5
        rw [Int.natCast_add] at q gr
        exact be_left i a m (stV b) _ _ w (by omega) (by omega) (by omega) h5 (Nat.le_trans (incF_length N _ _) (by omega)) q gr
      · rw [if_neg (by omega)]
        have q := ih i (a + spl m) (m - spl m) h w hD ht hg (by omega) (by omega) (by omega) hle hd2 (by omega) (by omega) (by omega)
        rw [show a + spl m + (m - spl m) = a + m by omega, show i - (a + spl m) = i - a - spl m by omega] at q
        rw [Int.natCast_add] at q gl
        exact be_right i a m (stV b) _ _ w (by omega) (by omega) (by omega) (by omega) (Nat.le_trans (incF_length N _ _) (by omega)) q gl

set_option maxHeartbeats 1000000 in
theorem logInclusion1 {w : World} {a b : Nat} {fv wv : Value} {D : Dk} {W E : List ByteArray} (h : LogAt w a b fv wv D W) (hH : Hold1 D E) (ht : Table w) (hg : 2 < w.heap.size) (i n : Nat) (hn : n ≤ E.length) (hi : i < n) : Calls Tryd.prog 38 #[.pointer (some ⟨a, 0, none⟩), .int .i64 (i : Int), .int .i64 (n : Int)] w fun e w' => ∃ v, e = .returned (.tuple #[v, .int .i64 0]) ∧ Row w' w.heap.size 9 v (strv (incF n i ((E.map leafS).take n))) ∧ Below w.heap.size w w' := by
  have hk := logCk_ok h hH.nf.failed
  rw [hH.ckN] at hk
  have hE := hH.len
  have hlg := fun wx (hx : Below w.heap.size w wx) => (h.below hx).blk.cell 0
  have hin : Aside (∀ wx, Below w.heap.size w wx → GivesRow wx 71 #[.int .i64 (i : Int), .int .i64 (n : Int), spanV b] (incF n i ((E.map leafS).take n))) := fun wx hx => by
    refine treeInclusion i n _ _ wx ?_
    have q := beside_inc1 hH n i 0 n 6 wx (h.below hx).disk (table_at hx hg ht) (Nat.lt_of_lt_of_le hg hx.size) (Nat.le_refl _) (by omega) (by omega) (by omega) (Nat.dvd_zero _) (by omega) (by omega) (by omega)
    rw [Nat.sub_zero, List.drop_zero, Nat.zero_add] at q
    exact q
  unfold spanV stV at hin
  have hmf : ∀ (fn : Fn) (first cap : Array Value) (w : World), (Instr.makeFunc fn first cap).run Tryd.prog w = .ok (.func fn first cap) w := fun _ _ _ _ => rfl
  have hi1 : ¬ (i : Int) < 0 := by omega
  have hi2 : ¬ (i : Int) ≥ (n : Int) := by omega
  generalize incF n i ((E.map leafS).take n) = xs at *
  generalize strOf D.ckR = rt at *
  have hnE : ¬ (n : Int) > (E.length : Int) := by omega
  generalize (E.length : Int) = al at *
  go_enter Tryd.func38, Tryd.ntmps38
  go_wp2_with fail
  refine hk.mono ?_
  rintro e w1 ⟨rfl, hb1⟩
  have hc := hlg w1 hb1
  simp only [List.getElem?_cons_zero] at hc
  have hin1 := hin.out w1 hb1
  unfold GivesRow at hin1
  clear hk hlg
  go_wp2_with fail
  refine hin1.mono ?_
  rintro e w2 ⟨v, rfl, hr, hb2⟩
  have hr2 := hr.mono hb1.size
  clear hin1 hr
  go_wp2
  go_ret2
  exact ⟨_, rfl, hr2, hb1.trans (hb2.mono hb1.size)⟩

end Go.Proofs.YtlhohmlpcgbliaaDoor
namespace Go.Proofs.YtlhohmlpcgbliaaDoor
set_option maxRecDepth 100000
open Go.RowKit
attribute [local go_sem ↓] Go.wp_at_zero Go.wp_at_succ

theorem jFit {D : Dk} {n : Nat} (h : D.fits n) : D.jF + (D.jE D.jN).length ≤ 76 := by
  have hl := jE_len D D.jN
  rcases h with h | ⟨_, h, _⟩
  · have : D.jF = 0 := by
      unfold Dk.jF
      rw [h]
      rfl
    omega
  · omega
theorem Lg.recv {B w : World} {a : Nat} {D : Dk} {W E : List ByteArray} (h : Lg B w a D W) (hH : Hold1 D E) (hf : D.fits E.length) (ht : Table B) (hg : 2 < B.heap.size) : Calls Tryd.prog 57 #[.pointer (some ⟨a, 0, none⟩)] w fun e w' => e = .returned (.int .i64 0) ∧ Lg B w' a D.recv W := by
  obtain ⟨b, fv, wv, hL, ho⟩ := h.ex
  obtain ⟨E', hE, _⟩ := recv_spec hH hf
  refine (logRecover_any hL hH.nf.failed (jFit hf) (by rw [hH.fre]; simp) (env_of ht hg h.bel (ho _ (.inr (.inl rfl))) (fun j hj => ho j (.inr (.inr (.inl hj)))))).mono ?_
  rintro e w' ⟨c, rfl, hc, fv', hL', hR'⟩
  obtain ⟨hb4, hf4, hw4⟩ := FrL.below h.bel hR' (ho _ (.inl rfl)) (ho _ (.inr (.inl rfl))) (fun j hj => ho j (.inr (.inr (.inl hj)))) (fun j hj => ho j (.inr (.inr (.inr hj))))
  rcases hc with ⟨h1, _⟩ | ⟨_, rfl⟩
  · rw [hE.nf.failed] at h1; cases h1
  · refine ⟨rfl, hb4, b, fv', wv, hL', ?_⟩
    intro j hj
    rcases hj with e | e | e | e
    · rw [e]; exact ho _ (.inl rfl)
    · rw [e]; exact ho _ (.inr (.inl rfl))
    · exact hf4 j e
    · exact hw4 j e
end Go.Proofs.YtlhohmlpcgbliaaDoor
namespace Go.Proofs.YtlhohmlpcgbliaaDoor
set_option maxRecDepth 100000
open Go.RowKit
attribute [local go_sem ↓] Go.wp_at_zero Go.wp_at_succ

end Go.Proofs.YtlhohmlpcgbliaaDoor
namespace Go.Proofs.YtlhohmlpcgbliaaDoor
set_option maxRecDepth 100000
open Go.RowKit
attribute [local go_sem ↓] Go.wp_at_zero Go.wp_at_succ

/-- A block of bytes that a text was turned into. -/
def ByB (w : World) (b : Nat) (l : List Nat) : Prop := ∃ cs fr, w.heap[b]? = some (.cells cs 5 fr) ∧ l.length ≤ cs.size ∧ cs.size ≤ fr.1 ∧ ∀ (j : Nat) x, l[j]? = some x → cs[j]? = some (.int .u8 (x : Int))
theorem ByB.cell {w : World} {b : Nat} {l : List Nat} (h : ByB w b l) {j x : Nat} (hx : l[j]? = some x) : w.cell? ⟨b, j, none⟩ = some (.int .u8 (x : Int)) := by
  obtain ⟨cs, fr, hh, _, _, hc⟩ := h
  simp [World.cell?, hh, hc j x hx]
theorem ByB.frozen {w : World} {b : Nat} {l : List Nat} (h : ByB w b l) {j : Nat} (hj : j < l.length) : w.frozen? ⟨b, j, none⟩ = false := by
  obtain ⟨cs, fr, hh, h1, h2, hc⟩ := h
  simp [World.frozen?, hh]
  omega
theorem ByB.range {w : World} {b : Nat} {l : List Nat} (h : ByB w b l) : w.rangeAt b 0 (u8s l) := by
  intro j v hv
  have hj : j < l.length := by
    have := (List.getElem?_eq_some_iff.1 hv).1
    rwa [u8s_length] at this
  have h1 := u8s_get l j hj
  rw [h1] at hv
  injection hv with hv
  subst hv
  rw [Nat.zero_add]
  refine h.cell ?_
  rw [List.getD_eq_getElem?_getD, List.getElem?_eq_getElem hj]
  rfl
theorem ByB.lt {w : World} {b : Nat} {l : List Nat} (h : ByB w b l) : b < w.heap.size := by
  obtain ⟨cs, fr, hh, _⟩ := h
  exact (Array.getElem?_eq_some_iff.1 hh).1
theorem ByB.set {w : World} {b : Nat} {l : List Nat} (h : ByB w b l) (j x : Nat) (hj : j < l.length) : ByB (w.setCell ⟨b, j, none⟩ (.int .u8 (x : Int))) b (l.set j x) := by
  obtain ⟨cs, fr, hh, h1, h2, hc⟩ := h
  refine ⟨cs.setIfInBounds j (.int .u8 (x : Int)), fr, ?_, by simpa using h1, by simpa using h2, ?_⟩
  · simp [World.setCell, Array.getElem?_modify, hh]
  · intro i y hy
    by_cases hij : j = i
    · subst hij
      rw [List.getElem?_set_self hj] at hy
      injection hy with hy
      subst hy
      rw [Array.getElem?_setIfInBounds_self]
      simp
      omega
    · rw [List.getElem?_set_ne hij] at hy
      rw [Array.getElem?_setIfInBounds_ne hij]
      exact hc i y hy
end Go.Proofs.YtlhohmlpcgbliaaDoor
namespace Go.Proofs.YtlhohmlpcgbliaaDoor
set_option maxRecDepth 100000
open Go.RowKit
attribute [local go_sem ↓] Go.wp_at_zero Go.wp_at_succ

end Go.Proofs.YtlhohmlpcgbliaaDoor
