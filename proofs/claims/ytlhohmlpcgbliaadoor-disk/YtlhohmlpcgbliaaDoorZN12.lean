import Derived.Test.YtlhohmlpcgbliaaDoorZN5
namespace Go.Proofs.YtlhohmlpcgbliaaDoor
set_option maxRecDepth 100000
open Go.RowKit

/-- The disk behind j acts of the adding of an entry. -/
def stg (C : Dk) (t : ByteArray) (j : Nat) : Dk := C.run ((adA C [t]).take j)
theorem stg_succ (C : Dk) (t : ByteArray) {j : Nat} (hj : j < (adA C [t]).length) : stg C t (j + 1) = (stg C t j).doA ((adA C [t]).getD j none) := by
  unfold stg
  rw [List.take_succ_eq_append_getElem hj, Dk.run_append, List.getD_eq_getElem?_getD, List.getElem?_eq_getElem hj]
  rfl
theorem add_acts {C : Dk} {E : List ByteArray} {t : ByteArray} (h : Holds C E) (hl : E.length ≤ 20) (ht : t.size ≤ 40) :
    Acts (adA C [t]).length (fun j => (adA C [t]).getD j none) (fun j => (stg C t j).las) (fun j => putL (stg C t j).fre (stg C t j).las) (fun j => (stg C t j).fre) := by
  have hn := add_nice h (W := [t]) (by simp) (fun s hs => by rw [List.mem_singleton.1 hs]; exact ht) (by simp; omega)
  have hnf : ∀ j, (stg C t j).nf := fun j => h.nf.run _
  refine ⟨fun j _ => (hn j).2.secL, fun j _ => (hn j).2.secV, ?_, fun _ _ => rfl, ?_, ?_, fun j _ => (hn j).1, adA_len1 (by rw [h.ckN]; exact hl), ?_, adA_last _ _⟩
  · show (stg C t 0).fre = []
    exact h.fre
  · intro j x hj hx
    have h1 := stg_succ C t hj
    rw [hx] at h1
    have h2 : stg C t (j + 1) = (stg C t j).write x.1 x.2 := h1
    rw [(hnf j).write_eq] at h2
    have h3 := (hn (j + 1)).2
    have hfr : (stg C t (j + 1)).fre = (stg C t j).fre ++ [x] := by rw [h2]
    have hla : (stg C t (j + 1)).las = (stg C t j).las := by rw [h2]; rfl
    have h4 := h3.fre x (by show x ∈ (stg C t (j + 1)).fre; rw [hfr]; exact List.mem_append_right _ (List.mem_singleton.2 rfl))
    refine ⟨hfr, hla, ?_, h4.1, h4.2⟩
    show putL (stg C t (j + 1)).fre (stg C t (j + 1)).las = _
    rw [hfr, hla, putL_snoc]
  · intro j hj hx
    have h1 := stg_succ C t hj
    rw [hx] at h1
    have h2 : stg C t (j + 1) = (stg C t j).flush := h1
    rw [(hnf j).flush_eq] at h2
    have hfr : (stg C t (j + 1)).fre = [] := by rw [h2]
    have hla : (stg C t (j + 1)).las = putL (stg C t j).fre (stg C t j).las := by rw [h2]
    refine ⟨hfr, hla, ?_⟩
    show putL (stg C t (j + 1)).fre (stg C t (j + 1)).las = _
    rw [hfr, hla]
    rfl
  · have := adA_len (R := C) (ss := [t]) (by rw [h.ckN]; simp; omega)
    omega
theorem stg_end {C : Dk} {E : List ByteArray} (h : Holds C E) (t : ByteArray) : stg C t (adA C [t]).length = C.add [t] := by
  unfold stg
  rw [List.take_length]
  exact (does_add h.nf [t]).at.symm
/-- What lasts on the disk that failed behind j acts. -/
theorem fby_eq {C : Dk} {E : List ByteArray} {t : ByteArray} (h : Holds C E) (hl : E.length ≤ 20) (ht : t.size ≤ 40) (ha : C.acts = 0) {j : Nat} (hj : j ≤ (adA C [t]).length) (keep : Int) : C.fby t j keep = failL keep 0 (stg C t j).fre (stg C t j).las := by
  have hb := adA_len1 (R := C) (t := t) (by rw [h.ckN]; exact hl)
  unfold Dk.fby
  by_cases hjn : j < (adA C [t]).length
  · have h9 := script_out h (Dk.script_like C (j : Int) keep) h.nf.failed rfl [t] (by simp; omega) j rfl hjn (by show 0 ≤ C.acts; omega) (by show C.acts ≤ _; omega)
    exact h9.2.2.2
  · have hje : j = (adA C [t]).length := by omega
    have h9 := script_in h (Dk.script_like C (j : Int) keep) h.nf.failed rfl [t] (by simp; omega) (by show ((adA C [t]).length : Int) ≤ (j : Int); omega) (by show (j : Int) ≤ _; omega) (by show 0 ≤ C.acts; omega) (by show C.acts ≤ _; omega)
    have hA := add_spec h (W := [t]) (by simp) (fun s hs => by rw [List.mem_singleton.1 hs]; exact ht) (by simp; omega)
    rw [h9.2.2.2.2.2.las, hje, stg_end h t, hA.fre]
    rfl

/-- Which write lasts. -/
theorem kept_all : ∀ i : Nat, i < 63 → kept (-1) i = true := by decide +kernel
theorem kept_none (i : Nat) : kept 0 i = false := by
  unfold kept
  by_cases h : i < 63
  · rw [Int.zero_ediv]
    have : (bits .and .i64 0 1 == 1) = false := by decide +kernel
    rw [this, Bool.and_false]
  · rw [decide_eq_false h, Bool.false_and]
theorem kept_one : ∀ p : Nat, p < 62 → ∀ i : Nat, i < 63 → kept (2 ^ p) i = decide (i = p) := by decide +kernel
theorem failL_all (f : List (Nat × List Nat)) : ∀ (i : Nat) (l : List (List Nat)), i + f.length ≤ 63 → failL (-1) i f l = putL f l := by
  induction f with
  | nil => intro i l _; rfl
  | cons x r ih =>
    intro i l h
    rw [List.length_cons] at h
    rw [failL, if_pos (kept_all i (by omega)), ih _ _ (by omega)]
    rfl
theorem failL_none (f : List (Nat × List Nat)) : ∀ (i : Nat) (l : List (List Nat)), failL 0 i f l = l := by
  induction f with
  | nil => intro i l; rfl
  | cons x r ih =>
    intro i l
    rw [failL, if_neg (by rw [kept_none]; simp), ih]
theorem failL_one {p : Nat} (hp : p < 62) (f : List (Nat × List Nat)) : ∀ (i : Nat) (l : List (List Nat)), i + f.length ≤ 63 → failL (2 ^ p) i f l = if i ≤ p ∧ p < i + f.length then l.set (f.getD (p - i) (0, [])).1 (f.getD (p - i) (0, [])).2 else l := by
  induction f with
  | nil => intro i l _; rw [if_neg (by simp)]; rfl
  | cons x r ih =>
    intro i l h
    rw [List.length_cons] at h
    rw [failL, kept_one p hp i (by omega), List.length_cons]
    by_cases hip : i = p
    · subst hip
      rw [if_pos (by simp), ih _ _ (by omega), if_neg (by omega), if_pos (by omega), Nat.sub_self]
      rfl
    · rw [if_neg (by simpa using hip), ih _ _ (by omega)]
      by_cases h1 : i + 1 ≤ p ∧ p < i + 1 + r.length
      · rw [if_pos h1, if_pos (by omega)]
        rw [show p - i = (p - (i + 1)) + 1 by omega, List.getD_cons_succ]
      · rw [if_neg h1, if_neg (by omega)]
/-- Each sector is as it lasted, or as it was written. -/
theorem failL_get (keep : Int) (f : List (Nat × List Nat)) : ∀ (i : Nat) (l : List (List Nat)) (m : Nat), (∀ x ∈ f, x.1 < l.length) → (failL keep i f l).getD m [] = l.getD m [] ∨ ∃ x ∈ f, x.1 = m ∧ (failL keep i f l).getD m [] = x.2 := by
  induction f with
  | nil => intro i l m _; exact .inl rfl
  | cons x r ih =>
    intro i l m hx
    rw [failL]
    have hx1 := hx x (List.mem_cons_self ..)
    rcases ih (i + 1) (if kept keep i then l.set x.1 x.2 else l) m (fun y hy => by have := hx y (List.mem_cons_of_mem _ hy); split <;> simpa using this) with h | ⟨y, hy, h1, h2⟩
    · rw [h]
      split
      · by_cases hm : x.1 = m
        · right
          refine ⟨x, List.mem_cons_self .., hm, ?_⟩
          rw [← hm, List.getD_eq_getElem?_getD, List.getElem?_set_self hx1]
          rfl
        · left
          rw [List.getD_eq_getElem?_getD, List.getD_eq_getElem?_getD, List.getElem?_set_ne hm]
      · exact .inl rfl
    · exact .inr ⟨y, List.mem_cons_of_mem _ hy, h1, h2⟩
end Go.Proofs.YtlhohmlpcgbliaaDoor
namespace Go.Proofs.YtlhohmlpcgbliaaDoor
set_option maxRecDepth 100000
open Go.RowKit

/-- A disk's bytes. -/
def btx (l : List (List Nat)) : ByteArray := strOf l.flatten
theorem SecL.flat {l : List (List Nat)} (h : SecL l) : l.flatten.length = 25600 := by
  rw [flat_length (fun s hs => (h.sec s hs).len), h.len]
theorem SecL.byt {l : List (List Nat)} (h : SecL l) : ∀ x ∈ l.flatten, x < 256 := by
  intro x hx
  obtain ⟨s, hs, h1⟩ := List.mem_flatten.1 hx
  exact (h.sec s hs).byt x h1
theorem SecL.get {l : List (List Nat)} (h : SecL l) {i : Nat} (hi : i < 200) : Sec (l.getD i []) := by
  have h1 := h.len
  rw [List.getD_eq_getElem?_getD, List.getElem?_eq_getElem (by omega)]
  exact h.sec _ (List.getElem_mem _)
theorem SecL.size {l : List (List Nat)} (h : SecL l) : (btx l).size = 25600 := by
  unfold btx
  rw [strOf_size h.byt, h.flat]
theorem SecL.secS {l : List (List Nat)} (h : SecL l) {i : Nat} (hi : i < 200) : secS (btx l) i = strOf (l.getD i []) := by
  have h1 : bts (Go.Proofs.YtlhohmlpcgbliaaDoor.secS (btx l) i) = l.getD i [] := by
    unfold Go.Proofs.YtlhohmlpcgbliaaDoor.secS
    rw [bts_extract]
    unfold btx
    rw [bts_strOf (byt_ok h.byt), ← flat_part (fun s hs => (h.sec s hs).len) i (by rw [h.len]; exact hi)]
    congr 1
    omega
  rw [← h1, strOf_bts]
theorem sec_iff {l m : List (List Nat)} (hl : SecL l) (hm : SecL m) {i : Nat} (hi : i < 200) : secS (btx l) i = secS (btx m) i ↔ l.getD i [] = m.getD i [] := by
  rw [hl.secS hi, hm.secS hi]
  constructor
  · intro h
    have := congrArg bts h
    rwa [bts_strOf (byt_ok (hl.get hi).byt), bts_strOf (byt_ok (hm.get hi).byt)] at this
  · intro h; rw [h]
theorem SecL.set {l : List (List Nat)} (h : SecL l) (i : Nat) {s : List Nat} (hs : Sec s) : SecL (l.set i s) := by
  refine ⟨by rw [List.length_set]; exact h.len, fun x hx => ?_⟩
  rcases List.mem_or_eq_of_mem_set hx with h1 | rfl
  · exact h.sec x h1
  · exact hs
theorem failL_secL {keep : Int} {f : List (Nat × List Nat)} {i : Nat} {l : List (List Nat)} (h : SecL l) (hf : ∀ x ∈ f, Sec x.2) : SecL (failL keep i f l) := ⟨by rw [failL_length, h.len], failL_sec _ _ _ _ h.sec hf⟩

theorem dif_same {a b : ByteArray} : ∀ k, (∀ i, i < k → secS a i = secS b i) → dif a b k = 0 := by
  intro k
  induction k with
  | zero => intro _; rfl
  | succ k ih => intro h; rw [dif, if_pos (h k (by omega)), ih (fun i hi => h i (by omega))]
theorem dif_pos {a b : ByteArray} {i : Nat} (h : secS a i ≠ secS b i) : ∀ k, i < k → 1 ≤ dif a b k := by
  intro k
  induction k with
  | zero => intro h; omega
  | succ k ih =>
    intro hk
    rw [dif]
    by_cases hi : i = k
    · subst hi; rw [if_neg h]; omega
    · have := ih (by omega); omega
/-- One sector more may differ where one is changed. -/
theorem dif_near {a b c : ByteArray} {i : Nat} : ∀ k, (∀ m, m < k → m ≠ i → secS b m = secS c m) → dif a c k ≤ dif a b k + (if i < k then 1 else 0) := by
  intro k
  induction k with
  | zero => intro _; simp [dif]
  | succ k ih =>
    intro h
    have h1 := ih (fun m hm hi => h m (by omega) hi)
    rw [dif, dif]
    by_cases hi : i = k
    · subst hi
      have e1 : (if i < i then 1 else 0) = 0 := if_neg (by omega)
      have e2 : (if i < i + 1 then 1 else 0) = 1 := if_pos (by omega)
      rw [e1] at h1
      rw [e2]
      split <;> split <;> omega
    · rw [h k (by omega) (fun e => hi e.symm)]
      by_cases hk : i < k
      · have e1 : (if i < k then 1 else 0) = 1 := if_pos hk
        have e2 : (if i < k + 1 then 1 else 0) = 1 := if_pos (by omega)
        rw [e1] at h1
        rw [e2]
        omega
      · have e1 : (if i < k then 1 else 0) = 0 := if_neg hk
        have e2 : (if i < k + 1 then 1 else 0) = 0 := if_neg (by omega)
        rw [e1] at h1
        rw [e2]
        omega
theorem dif_self (a : ByteArray) (k : Nat) : dif a a k = 0 := dif_same k (fun _ _ => rfl)

section
variable {n : Nat} {act : Nat → Option (Nat × List Nat)} {L V : Nat → List (List Nat)} {F : Nat → List (Nat × List Nat)}
theorem set_sec {l : List (List Nat)} {i m : Nat} {s : List Nat} (h : m ≠ i) : (l.set i s).getD m [] = l.getD m [] := by
  rw [List.getD_eq_getElem?_getD, List.getD_eq_getElem?_getD, List.getElem?_set_ne (fun e => h e.symm)]
theorem set_same {l : List (List Nat)} {i : Nat} {s : List Nat} (h : i < l.length) : (l.set i s).getD i [] = s := by
  rw [List.getD_eq_getElem?_getD, List.getElem?_set_self h]; rfl
/-- An act changes one sector at most. -/
theorem Acts.near (A : Acts n act L V F) {j : Nat} (hj : j < n) (a : ByteArray) : dif a (btx (V (j + 1))) 200 ≤ dif a (btx (V j)) 200 + 1 := by
  cases hx : act j with
  | none => rw [(A.fl j hj hx).2.2]; omega
  | some x =>
    have h := A.wr j x hj hx
    have h1 := dif_near (a := a) (b := btx (V j)) (c := btx (V (j + 1))) (i := x.1) 200 (fun m hm hi => by
      rw [sec_iff (A.sv j (by omega)) (A.sv (j + 1) (by omega)) hm, h.2.2.1, set_sec hi])
    have h2 : (if x.1 < 200 then 1 else 0) ≤ 1 := by split <;> omega
    omega
theorem Acts.far (A : Acts n act L V F) : ∀ j, j ≤ n → dif (btx (V 0)) (btx (V j)) 200 ≤ j := by
  intro j
  induction j with
  | zero => intro _; rw [dif_self]; omega
  | succ j ih =>
    intro hj
    have h1 := ih (by omega)
    have h2 := A.near (j := j) (by omega) (btx (V 0))
    omega
theorem Acts.end' (A : Acts n act L V F) : V n = V (n - 1) ∧ L n = V n ∧ F n = [] := by
  have hp := A.pos
  have h := A.fl (n - 1) (by omega) A.last
  rw [show n - 1 + 1 = n by omega] at h
  exact ⟨h.2.2, h.2.1.trans h.2.2.symm, h.1⟩
/-- Where the last flush was. -/
theorem Acts.flush (A : Acts n act L V F) : ∀ k, k ≤ n → ∃ f, f ≤ k ∧ (f = 0 ∨ V f = V (f - 1)) ∧ L k = V f ∧ (F k).length = k - f ∧ ∀ q, q < k - f → act (f + q) = (F k)[q]? := by
  intro k
  induction k with
  | zero =>
    intro _
    refine ⟨0, Nat.le_refl _, .inl rfl, ?_, by rw [A.f0]; rfl, fun q hq => by omega⟩
    rw [A.v 0 (by omega), A.f0]
    rfl
  | succ k ih =>
    intro hk
    cases hx : act k with
    | none =>
      have h := A.fl k (by omega) hx
      exact ⟨k + 1, Nat.le_refl _, .inr (by rw [h.2.2]; rfl), by rw [h.2.1, h.2.2], by rw [h.1]; simp, fun q hq => by omega⟩
    | some x =>
      have h := A.wr k x (by omega) hx
      obtain ⟨f, h1, h2, h3, h4, h5⟩ := ih (by omega)
      refine ⟨f, by omega, h2, by rw [h.2.1, h3], by rw [h.1, List.length_append, h4]; simp; omega, fun q hq => ?_⟩
      rw [h.1]
      by_cases hqk : q < k - f
      · rw [List.getElem?_append_left (by rw [h4]; exact hqk)]
        exact h5 q hqk
      · obtain rfl : q = k - f := by omega
        rw [List.getElem?_append_right (by rw [h4]; exact Nat.le_refl _), h4, Nat.sub_self, show f + (k - f) = k by omega, hx]
        rfl
/-- Between two flushes. -/
theorem Acts.mid (A : Acts n act L V F) {k f : Nat} (hk : k ≤ n) (hf : f ≤ k) (hL : L k = V f) (hl : (F k).length = k - f) (ha : ∀ q, q < k - f → act (f + q) = (F k)[q]?) : ∀ q, q ≤ k - f → V (f + q) = putL ((F k).take q) (L k) := by
  intro q
  induction q with
  | zero => intro _; rw [Nat.add_zero, ← hL]; rfl
  | succ q ih =>
    intro hq
    obtain ⟨x, hx⟩ : ∃ x, (F k)[q]? = some x := ⟨_, List.getElem?_eq_getElem (by rw [hl]; omega)⟩
    have h := A.wr (f + q) x (by omega) ((ha q (by omega)).trans hx)
    have hg : (F k)[q]'(by rw [hl]; omega) = x := (List.getElem?_eq_some_iff.1 hx).2
    rw [show f + (q + 1) = f + q + 1 by omega, h.2.2.1, ih (by omega), List.take_succ_eq_append_getElem (by rw [hl]; omega), hg, putL_snoc]
end
end Go.Proofs.YtlhohmlpcgbliaaDoor
namespace Go.Proofs.YtlhohmlpcgbliaaDoor
set_option maxRecDepth 100000
open Go.RowKit

/-- A write that changes its sector. -/
def chB (l : List (List Nat)) (x : Nat × List Nat) : Bool := !decide (x.2 = l.getD x.1 [])
/-- The sectors that are changed, the last write's first. -/
def ordL (l : List (List Nat)) (X : List (Nat × List Nat)) : List Nat := ((X.filter (chB l)).map (·.1)).reverse
theorem ordL_cons (l : List (List Nat)) (x : Nat × List Nat) (X : List (Nat × List Nat)) : ordL l (x :: X) = ordL l X ++ (if chB l x then [x.1] else []) := by
  unfold ordL
  rw [List.filter_cons]
  split <;> simp
theorem ordL_drop (l : List (List Nat)) {X : List (Nat × List Nat)} {q : Nat} {x : Nat × List Nat} (h : X[q]? = some x) : ordL l (X.drop q) = ordL l (X.drop (q + 1)) ++ (if chB l x then [x.1] else []) := by
  obtain ⟨hq, rfl⟩ := List.getElem?_eq_some_iff.1 h
  rw [List.drop_eq_getElem_cons hq, ordL_cons]
theorem ordL_mem {l : List (List Nat)} {X : List (Nat × List Nat)} {i : Nat} : i ∈ ordL l X ↔ ∃ x ∈ X, chB l x = true ∧ x.1 = i := by
  unfold ordL
  rw [List.mem_reverse, List.mem_map]
  constructor
  · rintro ⟨x, hx, h⟩
    rw [List.mem_filter] at hx
    exact ⟨x, hx.1, hx.2, h⟩
  · rintro ⟨x, hx, hc, h⟩
    exact ⟨x, List.mem_filter.2 ⟨hx, hc⟩, h⟩
theorem ordL_len (l : List (List Nat)) (X : List (Nat × List Nat)) : (ordL l X).length ≤ X.length := by
  unfold ordL
  rw [List.length_reverse, List.length_map]
  exact List.length_filter_le _ _
/-- How many of the first q writes change their sector. -/
def chN (l : List (List Nat)) (X : List (Nat × List Nat)) (q : Nat) : Nat := ((X.take q).filter (chB l)).length
theorem chN_all {l : List (List Nat)} {X : List (Nat × List Nat)} {q : Nat} (h : X.length ≤ q) : chN l X q = (ordL l X).length := by
  unfold chN ordL
  rw [List.take_of_length_le h, List.length_reverse, List.length_map]
theorem chN_succ {l : List (List Nat)} {X : List (Nat × List Nat)} {q : Nat} {x : Nat × List Nat} (h : X[q]? = some x) : chN l X (q + 1) = chN l X q + (if chB l x then 1 else 0) := by
  obtain ⟨hq, rfl⟩ := List.getElem?_eq_some_iff.1 h
  unfold chN
  rw [List.take_succ_eq_append_getElem hq, List.filter_append, List.length_append, List.filter_cons]
  split <;> simp
theorem chN_stay {l : List (List Nat)} {X : List (Nat × List Nat)} {q : Nat} (h : X.length ≤ q) : chN l X (q + 1) = chN l X q := by
  rw [chN_all h, chN_all (by omega)]
/-- The next one in the order. -/
theorem ord_at {l : List (List Nat)} {X : List (Nat × List Nat)} {q : Nat} {x : Nat × List Nat} (h : X[q]? = some x) (hc : chB l x = true) : chN l X q + 1 ≤ (ordL l X).length ∧ (ordL l X)[(ordL l X).length - chN l X q - 1]? = some x.1 := by
  obtain ⟨hq, hx⟩ := List.getElem?_eq_some_iff.1 h
  have hs : X = X.take q ++ x :: X.drop (q + 1) := by rw [← hx, ← List.drop_eq_getElem_cons hq, List.take_append_drop]
  have hf : X.filter (chB l) = (X.take q).filter (chB l) ++ x :: (X.drop (q + 1)).filter (chB l) := by
    conv => lhs; rw [hs]
    rw [List.filter_append, List.filter_cons, if_pos hc]
  have hlen : (ordL l X).length = chN l X q + (((X.drop (q + 1)).filter (chB l)).length + 1) := by
    unfold ordL chN
    rw [List.length_reverse, List.length_map, hf, List.length_append, List.length_cons]
  refine ⟨by omega, ?_⟩
  rw [hlen]
  unfold ordL chN
  rw [hf]
  rw [List.map_append, List.map_cons, List.reverse_append, List.reverse_cons, List.append_assoc]
  rw [List.getElem?_append_right (by simp)]
  simp

theorem find_key {X : List (Nat × List Nat)} (hn : (X.map (·.1)).Nodup) {q : Nat} {x : Nat × List Nat} (h : X[q]? = some x) : X.find? (fun y => y.1 == x.1) = some x := by
  have hx := List.mem_of_getElem? h
  induction X generalizing q with
  | nil => simp at hx
  | cons y r ih =>
    rw [List.find?_cons]
    rw [List.map_cons, List.nodup_cons] at hn
    by_cases hy : y.1 = x.1
    · rw [show (y.1 == x.1) = true by simp [hy]]
      rcases List.mem_cons.1 hx with e | e
      · rw [e]
      · exact absurd (List.mem_map.2 ⟨x, e, hy.symm⟩) hn.1
    · rw [show (y.1 == x.1) = false by simp [hy]]
      rcases List.mem_cons.1 hx with e | e
      · exact absurd (by rw [e]) hy
      · obtain ⟨q', hq'⟩ := List.getElem?_of_mem e
        exact ih hn.2 hq' e
theorem put_key {X : List (Nat × List Nat)} {l : List (List Nat)} (hl : l.length = 200) (hn : (X.map (·.1)).Nodup) {q : Nat} {x : Nat × List Nat} (h : X[q]? = some x) (hx : x.1 < 200) : (putL X l).getD x.1 [] = x.2 := by
  rw [putL_get X l x.1 hn (by omega), find_key hn h]
  rfl
theorem put_other {X : List (Nat × List Nat)} {l : List (List Nat)} (hl : l.length = 200) (hn : (X.map (·.1)).Nodup) {i : Nat} (hi : i < 200) (h : ∀ x ∈ X, x.1 ≠ i) : (putL X l).getD i [] = l.getD i [] := by
  rw [putL_get X l i hn (by omega)]
  have : X.find? (fun y => y.1 == i) = none := by
    rw [List.find?_eq_none]
    intro x hx
    simpa using h x hx
  rw [this]
  rfl
end Go.Proofs.YtlhohmlpcgbliaaDoor
namespace Go.Proofs.YtlhohmlpcgbliaaDoor
set_option maxRecDepth 100000
open Go.RowKit
attribute [local go_sem ↓] Go.wp_at_zero Go.wp_at_succ

theorem opS_callW {P : Program} {ops : Array Oper} {Q : Exit → Act → World → Prop} {i : Nat} {o : Oper} {a : Act} {w : World} {f : FuncId} {vs : Array Value} {K : Act → World → Prop} (hi : ops[i]? = some o) (hw : Region.wanted o (yielded ops a.tmps) = true) (d : Option Nat) (hd : o.dst = d)
    (hx : (execOp a.eval o).run P w = .ok (.enter f vs) w) (hc : Calls P f vs w fun e w' => ∃ v, e = .returned v ∧ K (a.put d v) w') : wpOp P ops Q i K a w := by
  unfold wpOp
  simp only [hi, hw, if_true]
  refine .inl ?_
  unfold Oper.wp
  rw [hx, Oper.upon_enter]
  refine hc.mono ?_
  rintro e w' ⟨v, rfl, h⟩
  rw [← hd] at h
  exact h
theorem ixStr (w : World) (b o n c j : Nat) (hj : j < n) : (Instr.indexAt 22 (.slice (some ⟨b, o, none⟩) n c) (.int .i64 (j : Int))).run Tryd.prog w = .ok (.pointer (some ⟨b, o + j, none⟩)) w := by
  have h : (j : Int) < (n : Int) := by omega
  simp [go_sem, h]
theorem ixInt (w : World) (b n c j : Nat) (hj : j < n) : (Instr.indexAt 32 (.slice (some ⟨b, 0, none⟩) n c) (.int .i64 (j : Int))).run Tryd.prog w = .ok (.pointer (some ⟨b, j, none⟩)) w := by
  have h : (j : Int) < (n : Int) := by omega
  simp [go_sem, h]
theorem loadStr1 (w : World) (b o : Nat) (x : ByteArray) (h : w.cell? ⟨b, o, none⟩ = some (.string x)) : (Instr.loadAt 9 (.pointer (some ⟨b, o, none⟩))).run Tryd.prog w = .ok (.string x) w := by
  simp [go_sem, h]
theorem sub_one (j : Nat) (hj : j < 100000) (w : World) : (binOp .sub 3 (.int .i64 ((j + 1 : Nat) : Int)) (.int .i64 1)).run Tryd.prog w = .ok (.int .i64 (j : Int)) w := by
  have h : IntKind.i64.wrap (((j + 1 : Nat) : Int) - 1) = (j : Int) := by
    rw [show (((j + 1 : Nat) : Int) - 1) = (j : Int) by omega]
    exact IntWalk.i64_in _ ⟨by omega, by omega⟩
  simp only [go_sem]
  simp
  simpa using h
theorem lss_b (x y : Int) {v : Bool} (h : decide (x < y) = v) (w : World) : (binOp .lss 3 (.int .i64 x) (.int .i64 y)).run Tryd.prog w = .ok (.bool v) w := by
  subst h
  simp [go_sem]
theorem neq_str (x y : ByteArray) {v : Bool} (h : (!decide (x = y)) = v) (w : World) : (binOp .neq 9 (.string x) (.string y)).run Tryd.prog w = .ok (.bool v) w := by
  subst h
  simp [go_sem, eqs]
theorem eql_str (x y : ByteArray) {v : Bool} (h : decide (x = y) = v) (w : World) : (binOp .eql 9 (.string x) (.string y)).run Tryd.prog w = .ok (.bool v) w := by
  subst h
  simp [go_sem, eqs]

set_option maxHeartbeats 2000000 in
theorem si14T_wp {c0 c1 c2 c3 c4 c5 c6 c7 c8 c9 c10 c11 c12 c14 c15 c16 c17 c18 c19 c20 c21 c22 c23 c24 c25 c26 c27 c28 c29 c30 c31 c32 c33 c34 c35 c36 c37 c38 c39 c40 c41 c42 c43 c44 c45 c46 c47 c48 c49 c50 c51 c52 c53 c54 c55 c56 c57 c58 c59 c60 c61 c62 c63 c64 c65 c66 c67 c68 c69 c70 c71 c72 c73 c74 c75 c76 c77 c78 c79 c80 c81 c82 c83 c84 c85 c86 c87 c88 c89 c90 c91 c92 c93 c94 c95 c96 c97 c98 c99 c100 c101 c102 c103 c104 c105 c106 c107 c108 c109 c110 c111 c112 c113 c114 c115 c116 c117 c118 c119 c120 c121 c122 c123 c124 c125 c126 c127 c128 c129 c130 c131 c132 c133 c134 c135 c136 c137 c138 c139 c140 c141 c142 c143 c144 c145 c146 c147 c148 c149 : Value} (w : World) (Q : Exit → Act → World → Prop)
    (hQ : ∀ (u60 u61 u62 u63 u64 u65 u66 u67 u68 u69 u70 u71 u72 u73 u74 u75 u76 : Value), Q .normal ⟨#[c0, c1, c2, c3, c4, c5, c6, c7, c8, c9, c10, c11, c12, .bool true, c14, c15, c16, c17, c18, c19, c20, c21, c22, c23, c24, c25, c26, c27, c28, c29, c30, c31, c32, c33, c34, c35, c36, c37, c38, c39, c40, c41, c42, c43, c44, c45, c46, c47, c48, c49, c50, c51, c52, c53, c54, c55, c56, c57, c58, c59, u60, u61, u62, u63, u64, u65, u66, u67, u68, u69, u70, u71, u72, u73, u74, u75, u76, .bool false, c78, c79, c80, c81, c82, c83, c84, c85, c86, c87, c88, c89, c90, c91, c92, c93, c94, c95, c96, c97, c98, c99, c100, c101, c102, c103, c104, c105, c106, c107, c108, c109, c110, c111, c112, c113, c114, c115, c116, c117, c118, c119, c120, c121, c122, c123, c124, c125, c126, c127, c128, c129, c130, c131, c132, c133, c134, c135, c136, c137, c138, c139, c140, c141, c142, c143, c144, c145, c146, c147, c148, c149], []⟩ w.drew) :
    Code.wp Tryd.prog (rgn Tryd.f49 14) Q ⟨#[c0, c1, c2, c3, c4, c5, c6, c7, c8, c9, c10, c11, c12, .bool true, c14, c15, c16, c17, c18, c19, c20, c21, c22, c23, c24, c25, c26, c27, c28, c29, c30, c31, c32, c33, c34, c35, c36, c37, c38, c39, c40, c41, c42, c43, c44, c45, c46, c47, c48, c49, c50, c51, c52, c53, c54, c55, c56, c57, c58, c59, c60, c61, c62, c63, c64, c65, c66, c67, c68, c69, c70, c71, c72, c73, c74, c75, c76, c77, c78, c79, c80, c81, c82, c83, c84, c85, c86, c87, c88, c89, c90, c91, c92, c93, c94, c95, c96, c97, c98, c99, c100, c101, c102, c103, c104, c105, c106, c107, c108, c109, c110, c111, c112, c113, c114, c115, c116, c117, c118, c119, c120, c121, c122, c123, c124, c125, c126, c127, c128, c129, c130, c131, c132, c133, c134, c135, c136, c137, c138, c139, c140, c141, c142, c143, c144, c145, c146, c147, c148, c149], []⟩ w := by
  have hS : (fun wx : World => wx = w.drew) w.drew := rfl
  conv => arg 2; whnf
  refine wp_region_s (fun wx : World => wx = w.drew) (by kernel_rfl) ?_
  refine wpS_pure (k := 0) (v := .bool true) (by rfl) (by kernel_rfl) (by kernel_rfl) (by kernel_rfl) (by rfl) (some 60) (by rfl) hS (fun _ _ => by kernel_rfl) ?_
  simp only [Act.put, List.setIfInBounds_toArray, List.set_cons_succ, List.set_cons_zero]
  refine wpS_pure (k := 1) (v := .bool false) (by rfl) (by kernel_rfl) (by kernel_rfl) (by kernel_rfl) (by rfl) (some 61) (by rfl) hS (fun _ _ => by kernel_rfl) ?_
  simp only [Act.put, List.setIfInBounds_toArray, List.set_cons_succ, List.set_cons_zero]
  refine wpS_pure (k := 2) (v := .bool false) (by rfl) (by kernel_rfl) (by kernel_rfl) (by kernel_rfl) (by rfl) (some 62) (by rfl) hS (fun _ _ => by kernel_rfl) ?_
  simp only [Act.put, List.setIfInBounds_toArray, List.set_cons_succ, List.set_cons_zero]
  refine wpS_not (k := 3) (by rfl) (by kernel_rfl) (by kernel_rfl) (by kernel_rfl) (by kernel_rfl) (some 63) (by rfl) hS ?_
  simp only [Act.put, List.setIfInBounds_toArray, List.set_cons_succ, List.set_cons_zero]
  refine wpS_not (k := 4) (by rfl) (by kernel_rfl) (by kernel_rfl) (by kernel_rfl) (by kernel_rfl) (some 64) (by rfl) hS ?_
  simp only [Act.put, List.setIfInBounds_toArray, List.set_cons_succ, List.set_cons_zero]
  refine wpS_not (k := 5) (by rfl) (by kernel_rfl) (by kernel_rfl) (by kernel_rfl) (by kernel_rfl) (some 65) (by rfl) hS ?_
  simp only [Act.put, List.setIfInBounds_toArray, List.set_cons_succ, List.set_cons_zero]
  refine wpS_not (k := 6) (by rfl) (by kernel_rfl) (by kernel_rfl) (by kernel_rfl) (by kernel_rfl) (some 66) (by rfl) hS ?_
  simp only [Act.put, List.setIfInBounds_toArray, List.set_cons_succ, List.set_cons_zero]
  refine wpS_not (k := 7) (by rfl) (by kernel_rfl) (by kernel_rfl) (by kernel_rfl) (by kernel_rfl) (some 67) (by rfl) hS ?_
  simp only [Act.put, List.setIfInBounds_toArray, List.set_cons_succ, List.set_cons_zero]
  refine wpS_not (k := 8) (by rfl) (by kernel_rfl) (by kernel_rfl) (by kernel_rfl) (by kernel_rfl) (some 68) (by rfl) hS ?_
  simp only [Act.put, List.setIfInBounds_toArray, List.set_cons_succ, List.set_cons_zero]
  refine wpS_not (k := 9) (by rfl) (by kernel_rfl) (by kernel_rfl) (by kernel_rfl) (by kernel_rfl) (some 69) (by rfl) hS ?_
  simp only [Act.put, List.setIfInBounds_toArray, List.set_cons_succ, List.set_cons_zero]
  refine wpS_not (k := 10) (by rfl) (by kernel_rfl) (by kernel_rfl) (by kernel_rfl) (by kernel_rfl) (some 70) (by rfl) hS ?_
  simp only [Act.put, List.setIfInBounds_toArray, List.set_cons_succ, List.set_cons_zero]
  refine wpS_not (k := 11) (by rfl) (by kernel_rfl) (by kernel_rfl) (by kernel_rfl) (by kernel_rfl) (some 71) (by rfl) hS ?_
  simp only [Act.put, List.setIfInBounds_toArray, List.set_cons_succ, List.set_cons_zero]
  refine wpS_not (k := 12) (by rfl) (by kernel_rfl) (by kernel_rfl) (by kernel_rfl) (by kernel_rfl) (some 72) (by rfl) hS ?_
  simp only [Act.put, List.setIfInBounds_toArray, List.set_cons_succ, List.set_cons_zero]
  refine wpS_not (k := 13) (by rfl) (by kernel_rfl) (by kernel_rfl) (by kernel_rfl) (by kernel_rfl) (some 73) (by rfl) hS ?_
  simp only [Act.put, List.setIfInBounds_toArray, List.set_cons_succ, List.set_cons_zero]
  refine wpS_not (k := 14) (by rfl) (by kernel_rfl) (by kernel_rfl) (by kernel_rfl) (by kernel_rfl) (some 74) (by rfl) hS ?_
  simp only [Act.put, List.setIfInBounds_toArray, List.set_cons_succ, List.set_cons_zero]
  refine wpS_not (k := 15) (by rfl) (by kernel_rfl) (by kernel_rfl) (by kernel_rfl) (by kernel_rfl) (some 75) (by rfl) hS ?_
  simp only [Act.put, List.setIfInBounds_toArray, List.set_cons_succ, List.set_cons_zero]
  refine wpS_not (k := 16) (by rfl) (by kernel_rfl) (by kernel_rfl) (by kernel_rfl) (by kernel_rfl) (some 76) (by rfl) hS ?_
  simp only [Act.put, List.setIfInBounds_toArray, List.set_cons_succ, List.set_cons_zero]
  refine wpS_pure (k := 17) (v := .bool false) (by rfl) (by kernel_rfl) (by kernel_rfl) (by kernel_rfl) (by rfl) (some 77) (by rfl) hS (fun _ _ => by kernel_rfl) ?_
  simp only [Act.put, List.setIfInBounds_toArray, List.set_cons_succ, List.set_cons_zero]
  refine wpAnyH_done (by kernel_rfl) ?_ _
  refine NoPanic.normal ?_
  exact hQ _ _ _ _ _ _ _ _ _ _ _ _ _ _ _ _ _

set_option maxHeartbeats 2000000 in
theorem si14F_wp {c0 c1 c3 c4 c5 c6 c7 c8 c9 c10 c14 c15 c16 c17 c18 c19 c20 c21 c22 c23 c24 c25 c26 c27 c28 c29 c30 c31 c32 c33 c34 c35 c36 c37 c38 c39 c40 c41 c42 c43 c44 c45 c46 c47 c48 c49 c50 c51 c52 c53 c54 c55 c56 c57 c58 c59 c60 c61 c62 c63 c64 c65 c66 c67 c68 c69 c70 c71 c72 c73 c74 c75 c76 c77 c78 c79 c80 c81 c82 c83 c84 c85 c86 c87 c88 c89 c90 c91 c92 c93 c94 c95 c96 c97 c98 c99 c100 c101 c102 c103 c104 c105 c106 c107 c108 c109 c110 c111 c112 c113 c114 c115 c116 c117 c118 c119 c120 c121 c122 c123 c124 c125 c126 c127 c128 c129 c130 c131 c132 c133 c134 c135 c136 c137 c138 c139 c140 c141 c142 c143 c144 c145 c146 c147 c148 c149 : Value} (fb fo fn fc j i : Nat) (s1 s2 : ByteArray) (v : Bool) (w : World) (Q : Exit → Act → World → Prop) (hj : j + 1 < fn) (hf : fn ≤ 1000) (hi : i < 200) (h1 : w.cell? ⟨fb, fo + (j + 1), none⟩ = some (.string s1)) (h2 : w.cell? ⟨fb, fo + j, none⟩ = some (.string s2)) (z1 : s1.size = 25600) (z2 : s2.size = 25600) (hv : (!decide (secS s1 i = secS s2 i)) = v)
    (hQ : ∀ (u60 u61 u62 u63 u64 u65 u66 u67 u68 u69 u70 u71 u72 u73 u74 u75 u76 : Value), Q .normal ⟨#[c0, c1, .slice (some ⟨fb, fo, none⟩) fn fc, c3, c4, c5, c6, c7, c8, c9, c10, .int .i64 ((j + 1 : Nat) : Int), .int .i64 (i : Int), .bool false, c14, c15, c16, c17, c18, c19, c20, c21, c22, c23, c24, c25, c26, c27, c28, c29, c30, c31, c32, c33, c34, c35, c36, c37, c38, c39, c40, c41, c42, c43, c44, c45, c46, c47, c48, c49, c50, c51, c52, c53, c54, c55, c56, c57, c58, c59, u60, u61, u62, u63, u64, u65, u66, u67, u68, u69, u70, u71, u72, u73, u74, u75, u76, .bool v, c78, c79, c80, c81, c82, c83, c84, c85, c86, c87, c88, c89, c90, c91, c92, c93, c94, c95, c96, c97, c98, c99, c100, c101, c102, c103, c104, c105, c106, c107, c108, c109, c110, c111, c112, c113, c114, c115, c116, c117, c118, c119, c120, c121, c122, c123, c124, c125, c126, c127, c128, c129, c130, c131, c132, c133, c134, c135, c136, c137, c138, c139, c140, c141, c142, c143, c144, c145, c146, c147, c148, c149], []⟩ w.drew) :
    Code.wp Tryd.prog (rgn Tryd.f49 14) Q ⟨#[c0, c1, .slice (some ⟨fb, fo, none⟩) fn fc, c3, c4, c5, c6, c7, c8, c9, c10, .int .i64 ((j + 1 : Nat) : Int), .int .i64 (i : Int), .bool false, c14, c15, c16, c17, c18, c19, c20, c21, c22, c23, c24, c25, c26, c27, c28, c29, c30, c31, c32, c33, c34, c35, c36, c37, c38, c39, c40, c41, c42, c43, c44, c45, c46, c47, c48, c49, c50, c51, c52, c53, c54, c55, c56, c57, c58, c59, c60, c61, c62, c63, c64, c65, c66, c67, c68, c69, c70, c71, c72, c73, c74, c75, c76, c77, c78, c79, c80, c81, c82, c83, c84, c85, c86, c87, c88, c89, c90, c91, c92, c93, c94, c95, c96, c97, c98, c99, c100, c101, c102, c103, c104, c105, c106, c107, c108, c109, c110, c111, c112, c113, c114, c115, c116, c117, c118, c119, c120, c121, c122, c123, c124, c125, c126, c127, c128, c129, c130, c131, c132, c133, c134, c135, c136, c137, c138, c139, c140, c141, c142, c143, c144, c145, c146, c147, c148, c149], []⟩ w := by
  have hS : (fun wx : World => wx = w.drew) w.drew := rfl
  have g1 := fun wx => sector_any s1 i wx z1 hi
  have g2 := fun wx => sector_any s2 i wx z2 hi
  generalize secS s1 i = y1 at *
  generalize secS s2 i = y2 at *
  conv => arg 2; whnf
  refine wp_region_s (fun wx : World => wx = w.drew) (by kernel_rfl) ?_
  refine wpS_pure (k := 0) (v := .bool false) (by rfl) (by kernel_rfl) (by kernel_rfl) (by kernel_rfl) (by rfl) (some 60) (by rfl) hS (fun _ _ => by kernel_rfl) ?_
  simp only [Act.put, List.setIfInBounds_toArray, List.set_cons_succ, List.set_cons_zero]
  refine wpS_pure (k := 1) (v := .bool true) (by rfl) (by kernel_rfl) (by kernel_rfl) (by kernel_rfl) (by rfl) (some 61) (by rfl) hS (fun _ _ => by kernel_rfl) ?_
  simp only [Act.put, List.setIfInBounds_toArray, List.set_cons_succ, List.set_cons_zero]
  refine wpS_pure (k := 2) (v := .bool true) (by rfl) (by kernel_rfl) (by kernel_rfl) (by kernel_rfl) (by rfl) (some 62) (by rfl) hS (fun _ _ => by kernel_rfl) ?_
  simp only [Act.put, List.setIfInBounds_toArray, List.set_cons_succ, List.set_cons_zero]
  refine wpS_w (k := 3) (v := .slice (some ⟨fb, fo, none⟩) fn fc) (by rfl) (by kernel_rfl) (by kernel_rfl) (by kernel_rfl) (by kernel_rfl) (some 63) (by rfl) hS (fun _ _ => by kernel_rfl) ?_
  simp only [Act.put, List.setIfInBounds_toArray, List.set_cons_succ, List.set_cons_zero]
  refine wpS_w (k := 4) (v := .int .i64 ((j + 1 : Nat) : Int)) (by rfl) (by kernel_rfl) (by kernel_rfl) (by kernel_rfl) (by kernel_rfl) (some 64) (by rfl) hS (fun _ _ => by kernel_rfl) ?_
  simp only [Act.put, List.setIfInBounds_toArray, List.set_cons_succ, List.set_cons_zero]
  refine wpS_w (k := 5) (v := .pointer (some ⟨fb, fo + (j + 1), none⟩)) (by rfl) (by kernel_rfl) (by kernel_rfl) (by kernel_rfl) (by kernel_rfl) (some 65) (by rfl) hS (fun wx _ => exec_ix (by rfl) (by rfl) (by rfl) (ixStr wx fb fo fn fc (j + 1) hj)) ?_
  simp only [Act.put, List.setIfInBounds_toArray, List.set_cons_succ, List.set_cons_zero]
  refine wpS_w (k := 6) (v := .string s1) (by rfl) (by kernel_rfl) (by kernel_rfl) (by kernel_rfl) (by kernel_rfl) (some 66) (by rfl) hS (fun wx hx => exec_ld (by rfl) (by rfl) (loadStr1 wx fb _ _ (by rw [hx]; exact h1))) ?_
  simp only [Act.put, List.setIfInBounds_toArray, List.set_cons_succ, List.set_cons_zero]
  refine wpS_w (k := 7) (v := .int .i64 (i : Int)) (by rfl) (by kernel_rfl) (by kernel_rfl) (by kernel_rfl) (by kernel_rfl) (some 67) (by rfl) hS (fun _ _ => by kernel_rfl) ?_
  simp only [Act.put, List.setIfInBounds_toArray, List.set_cons_succ, List.set_cons_zero]
  refine wpS_w (k := 9) (v := .slice (some ⟨fb, fo, none⟩) fn fc) (by rfl) (by kernel_rfl) (by kernel_rfl) (by kernel_rfl) (by kernel_rfl) (some 69) (by rfl) hS (fun _ _ => by kernel_rfl) ?_
  simp only [Act.put, List.setIfInBounds_toArray, List.set_cons_succ, List.set_cons_zero]
  refine wpS_w (k := 10) (v := .int .i64 ((j + 1 : Nat) : Int)) (by rfl) (by kernel_rfl) (by kernel_rfl) (by kernel_rfl) (by kernel_rfl) (some 70) (by rfl) hS (fun _ _ => by kernel_rfl) ?_
  simp only [Act.put, List.setIfInBounds_toArray, List.set_cons_succ, List.set_cons_zero]
  refine wpS_w (k := 11) (v := .int .i64 (j : Int)) (by rfl) (by kernel_rfl) (by kernel_rfl) (by kernel_rfl) (by kernel_rfl) (some 71) (by rfl) hS (fun wx _ => exec_bop (by rfl) (by rfl) (by rfl) (by kernel_rfl) (sub_one j (by omega) wx)) ?_
  simp only [Act.put, List.setIfInBounds_toArray, List.set_cons_succ, List.set_cons_zero]
  refine wpS_w (k := 12) (v := .pointer (some ⟨fb, fo + j, none⟩)) (by rfl) (by kernel_rfl) (by kernel_rfl) (by kernel_rfl) (by kernel_rfl) (some 72) (by rfl) hS (fun wx _ => exec_ix (by rfl) (by rfl) (by rfl) (ixStr wx fb fo fn fc j (by omega))) ?_
  simp only [Act.put, List.setIfInBounds_toArray, List.set_cons_succ, List.set_cons_zero]
  refine wpS_w (k := 13) (v := .string s2) (by rfl) (by kernel_rfl) (by kernel_rfl) (by kernel_rfl) (by kernel_rfl) (some 73) (by rfl) hS (fun wx hx => exec_ld (by rfl) (by rfl) (loadStr1 wx fb _ _ (by rw [hx]; exact h2))) ?_
  simp only [Act.put, List.setIfInBounds_toArray, List.set_cons_succ, List.set_cons_zero]
  refine wpS_w (k := 14) (v := .int .i64 (i : Int)) (by rfl) (by kernel_rfl) (by kernel_rfl) (by kernel_rfl) (by kernel_rfl) (some 74) (by rfl) hS (fun _ _ => by kernel_rfl) ?_
  simp only [Act.put, List.setIfInBounds_toArray, List.set_cons_succ, List.set_cons_zero]
  refine wpS_one (i := 8) (by kernel_rfl) (opS_callW (f := 80) (vs := #[.string s1, .int .i64 (i : Int)]) (by rfl) (by kernel_rfl) (some 68) (by rfl) (by kernel_rfl) ((g1 w.drew).mono ?_))
  rintro e w1 ⟨rfl, rfl⟩
  refine ⟨_, rfl, rfl, ?_⟩
  simp only [Act.put, List.setIfInBounds_toArray, List.set_cons_succ, List.set_cons_zero]
  refine wpS_one (i := 15) (by kernel_rfl) (opS_callW (f := 80) (vs := #[.string s2, .int .i64 (i : Int)]) (by rfl) (by kernel_rfl) (some 75) (by rfl) (by kernel_rfl) ((g2 w.drew).mono ?_))
  rintro e w1 ⟨rfl, rfl⟩
  refine ⟨_, rfl, rfl, ?_⟩
  simp only [Act.put, List.setIfInBounds_toArray, List.set_cons_succ, List.set_cons_zero]
  refine wpS_w (k := 16) (v := .bool v) (by rfl) (by kernel_rfl) (by kernel_rfl) (by kernel_rfl) (by kernel_rfl) (some 76) (by rfl) hS (fun wx _ => exec_bop (by rfl) (by rfl) (by rfl) (by kernel_rfl) (neq_str _ _ hv wx)) ?_
  simp only [Act.put, List.setIfInBounds_toArray, List.set_cons_succ, List.set_cons_zero]
  refine wpS_pure (k := 17) (v := .bool v) (by rfl) (by kernel_rfl) (by kernel_rfl) (by kernel_rfl) (by rfl) (some 77) (by rfl) hS (fun _ _ => by kernel_rfl) ?_
  simp only [Act.put, List.setIfInBounds_toArray, List.set_cons_succ, List.set_cons_zero]
  refine wpAnyH_done (by kernel_rfl) ?_ _
  refine NoPanic.normal ?_
  exact hQ _ _ _ _ _ _ _ _ _ _ _ _ _ _ _ _ _

set_option maxHeartbeats 4000000 in
theorem si27_wp {c0 c1 c4 c5 c6 c7 c8 c11 c12 c13 c14 c16 c17 c19 c20 c21 c22 c23 c24 c25 c26 c27 c28 c29 c30 c31 c32 c33 c34 c35 c36 c37 c38 c39 c40 c41 c42 c43 c44 c45 c46 c47 c48 c49 c50 c51 c52 c53 c54 c55 c56 c57 c58 c59 c60 c61 c62 c63 c64 c65 c66 c67 c68 c69 c70 c71 c72 c73 c74 c75 c76 c77 c78 c79 c80 c81 c82 c83 c84 c85 c86 c87 c88 c89 c90 c91 c92 c93 c94 c95 c96 c97 c98 c99 c100 c101 c102 c103 c104 c105 c106 c107 c108 c109 c110 c111 c112 c113 c114 c115 c116 c117 c118 c119 c120 c121 c122 c123 c124 c125 c126 c127 c128 c129 c130 c131 c132 c133 c134 c135 c136 c137 c138 c139 c140 c141 c142 c143 c144 c145 c146 c147 c148 c149 : Value} (fb fo fn fc ob on oc k left i : Nat) (none' one full : ByteArray) (w : World) (Q : Exit → Act → World → Prop) (hk : k < fn) (hl : left < on) (hi : i < 200) (h1 : w.cell? ⟨fb, fo + k, none⟩ = some (.string full)) (h2 : w.cell? ⟨ob, left, none⟩ = some (.int .i64 (i : Int))) (z1 : none'.size = 25600) (z2 : one.size = 25600) (z3 : full.size = 25600) (e1 : secS one i = secS full i) (e2 : ¬ secS one i = secS none' i)
    (hQ : ∀ (u111 u112 u113 u114 u115 u116 u117 u118 u119 u120 u121 u122 u123 u124 u125 u126 u127 u128 u129 u130 u131 u132 u133 u134 u135 u136 u137 u138 u139 u140 u141 u142 u143 u144 : Value), Q .normal ⟨#[c0, c1, .slice (some ⟨fb, fo, none⟩) fn fc, .string none', c4, c5, c6, c7, c8, .int .i64 (k : Int), .slice (some ⟨ob, 0, none⟩) on oc, c11, c12, c13, c14, .int .i64 (left : Int), c16, c17, .string one, c19, c20, c21, c22, c23, c24, c25, c26, c27, c28, c29, c30, c31, c32, c33, c34, c35, c36, c37, c38, c39, c40, c41, c42, c43, c44, c45, c46, c47, c48, c49, c50, c51, c52, c53, c54, c55, c56, c57, c58, c59, c60, c61, c62, c63, c64, c65, c66, c67, c68, c69, c70, c71, c72, c73, c74, c75, c76, c77, c78, c79, c80, c81, c82, c83, c84, c85, c86, c87, c88, c89, c90, c91, c92, c93, c94, c95, c96, c97, c98, c99, c100, c101, c102, c103, c104, c105, c106, c107, c108, c109, c110, u111, u112, u113, u114, u115, u116, u117, u118, u119, u120, u121, u122, u123, u124, u125, u126, u127, u128, u129, u130, u131, u132, u133, u134, u135, u136, u137, u138, u139, u140, u141, u142, u143, u144, .bool false, c146, c147, c148, c149], []⟩ w.drew) :
    Code.wp Tryd.prog (rgn Tryd.f49 27) Q ⟨#[c0, c1, .slice (some ⟨fb, fo, none⟩) fn fc, .string none', c4, c5, c6, c7, c8, .int .i64 (k : Int), .slice (some ⟨ob, 0, none⟩) on oc, c11, c12, c13, c14, .int .i64 (left : Int), c16, c17, .string one, c19, c20, c21, c22, c23, c24, c25, c26, c27, c28, c29, c30, c31, c32, c33, c34, c35, c36, c37, c38, c39, c40, c41, c42, c43, c44, c45, c46, c47, c48, c49, c50, c51, c52, c53, c54, c55, c56, c57, c58, c59, c60, c61, c62, c63, c64, c65, c66, c67, c68, c69, c70, c71, c72, c73, c74, c75, c76, c77, c78, c79, c80, c81, c82, c83, c84, c85, c86, c87, c88, c89, c90, c91, c92, c93, c94, c95, c96, c97, c98, c99, c100, c101, c102, c103, c104, c105, c106, c107, c108, c109, c110, c111, c112, c113, c114, c115, c116, c117, c118, c119, c120, c121, c122, c123, c124, c125, c126, c127, c128, c129, c130, c131, c132, c133, c134, c135, c136, c137, c138, c139, c140, c141, c142, c143, c144, c145, c146, c147, c148, c149], []⟩ w := by
  have hS : (fun wx : World => wx = w.drew) w.drew := rfl
  have g1 := fun wx => sector_any one i wx z2 hi
  have g2 := fun wx => sector_any full i wx z3 hi
  have g3 := fun wx => sector_any none' i wx z1 hi
  have f1 : (!decide (secS one i = secS full i)) = false := by rw [decide_eq_true e1]; rfl
  have f2 : decide (secS one i = secS none' i) = false := decide_eq_false e2
  have f3 : decide ((left : Int) < 0) = false := decide_eq_false (by omega)
  generalize secS one i = y1 at *
  generalize secS full i = y2 at *
  generalize secS none' i = y3 at *
  conv => arg 2; whnf
  refine wp_region_s (fun wx : World => wx = w.drew) (by kernel_rfl) ?_
  refine wpS_pure (k := 0) (v := .int .i64 (left : Int)) (by rfl) (by kernel_rfl) (by kernel_rfl) (by kernel_rfl) (by rfl) (some 111) (by rfl) hS (fun _ _ => by kernel_rfl) ?_
  simp only [Act.put, List.setIfInBounds_toArray, List.set_cons_succ, List.set_cons_zero]
  refine wpS_pure (k := 1) (v := .bool false) (by rfl) (by kernel_rfl) (by kernel_rfl) (by kernel_rfl) (by rfl) (some 112) (by rfl) hS (fun wx _ => exec_bop (by rfl) (by rfl) (by rfl) (by kernel_rfl) (lss_b _ _ f3 wx)) ?_
  simp only [Act.put, List.setIfInBounds_toArray, List.set_cons_succ, List.set_cons_zero]
  refine wpS_pure (k := 2) (v := .bool false) (by rfl) (by kernel_rfl) (by kernel_rfl) (by kernel_rfl) (by rfl) (some 113) (by rfl) hS (fun _ _ => by kernel_rfl) ?_
  simp only [Act.put, List.setIfInBounds_toArray, List.set_cons_succ, List.set_cons_zero]
  refine wpS_w (k := 3) (v := .string one) (by rfl) (by kernel_rfl) (by kernel_rfl) (by kernel_rfl) (by kernel_rfl) (some 114) (by rfl) hS (fun _ _ => by kernel_rfl) ?_
  simp only [Act.put, List.setIfInBounds_toArray, List.set_cons_succ, List.set_cons_zero]
  refine wpS_w (k := 4) (v := .slice (some ⟨ob, 0, none⟩) on oc) (by rfl) (by kernel_rfl) (by kernel_rfl) (by kernel_rfl) (by kernel_rfl) (some 115) (by rfl) hS (fun _ _ => by kernel_rfl) ?_
  simp only [Act.put, List.setIfInBounds_toArray, List.set_cons_succ, List.set_cons_zero]
  refine wpS_w (k := 5) (v := .int .i64 (left : Int)) (by rfl) (by kernel_rfl) (by kernel_rfl) (by kernel_rfl) (by kernel_rfl) (some 116) (by rfl) hS (fun _ _ => by kernel_rfl) ?_
  simp only [Act.put, List.setIfInBounds_toArray, List.set_cons_succ, List.set_cons_zero]
  refine wpS_w (k := 6) (v := .pointer (some ⟨ob, left, none⟩)) (by rfl) (by kernel_rfl) (by kernel_rfl) (by kernel_rfl) (by kernel_rfl) (some 117) (by rfl) hS (fun wx _ => exec_ix (by rfl) (by rfl) (by rfl) (ixInt wx ob on oc left hl)) ?_
  simp only [Act.put, List.setIfInBounds_toArray, List.set_cons_succ, List.set_cons_zero]
  refine wpS_w (k := 7) (v := .int .i64 (i : Int)) (by rfl) (by kernel_rfl) (by kernel_rfl) (by kernel_rfl) (by kernel_rfl) (some 118) (by rfl) hS (fun wx hx => exec_ld (by rfl) (by rfl) (loadInt wx ob left _ (by rw [hx]; exact h2))) ?_
  simp only [Act.put, List.setIfInBounds_toArray, List.set_cons_succ, List.set_cons_zero]
  refine wpS_w (k := 9) (v := .slice (some ⟨fb, fo, none⟩) fn fc) (by rfl) (by kernel_rfl) (by kernel_rfl) (by kernel_rfl) (by kernel_rfl) (some 120) (by rfl) hS (fun _ _ => by kernel_rfl) ?_
  simp only [Act.put, List.setIfInBounds_toArray, List.set_cons_succ, List.set_cons_zero]
  refine wpS_w (k := 10) (v := .int .i64 (k : Int)) (by rfl) (by kernel_rfl) (by kernel_rfl) (by kernel_rfl) (by kernel_rfl) (some 121) (by rfl) hS (fun _ _ => by kernel_rfl) ?_
  simp only [Act.put, List.setIfInBounds_toArray, List.set_cons_succ, List.set_cons_zero]
  refine wpS_w (k := 11) (v := .pointer (some ⟨fb, fo + k, none⟩)) (by rfl) (by kernel_rfl) (by kernel_rfl) (by kernel_rfl) (by kernel_rfl) (some 122) (by rfl) hS (fun wx _ => exec_ix (by rfl) (by rfl) (by rfl) (ixStr wx fb fo fn fc k hk)) ?_
  simp only [Act.put, List.setIfInBounds_toArray, List.set_cons_succ, List.set_cons_zero]
  refine wpS_w (k := 12) (v := .string full) (by rfl) (by kernel_rfl) (by kernel_rfl) (by kernel_rfl) (by kernel_rfl) (some 123) (by rfl) hS (fun wx hx => exec_ld (by rfl) (by rfl) (loadStr1 wx fb _ _ (by rw [hx]; exact h1))) ?_
  simp only [Act.put, List.setIfInBounds_toArray, List.set_cons_succ, List.set_cons_zero]
  refine wpS_w (k := 13) (v := .slice (some ⟨ob, 0, none⟩) on oc) (by rfl) (by kernel_rfl) (by kernel_rfl) (by kernel_rfl) (by kernel_rfl) (some 124) (by rfl) hS (fun _ _ => by kernel_rfl) ?_
  simp only [Act.put, List.setIfInBounds_toArray, List.set_cons_succ, List.set_cons_zero]
  refine wpS_w (k := 14) (v := .int .i64 (left : Int)) (by rfl) (by kernel_rfl) (by kernel_rfl) (by kernel_rfl) (by kernel_rfl) (some 125) (by rfl) hS (fun _ _ => by kernel_rfl) ?_
  simp only [Act.put, List.setIfInBounds_toArray, List.set_cons_succ, List.set_cons_zero]
  refine wpS_w (k := 15) (v := .pointer (some ⟨ob, left, none⟩)) (by rfl) (by kernel_rfl) (by kernel_rfl) (by kernel_rfl) (by kernel_rfl) (some 126) (by rfl) hS (fun wx _ => exec_ix (by rfl) (by rfl) (by rfl) (ixInt wx ob on oc left hl)) ?_
  simp only [Act.put, List.setIfInBounds_toArray, List.set_cons_succ, List.set_cons_zero]
  refine wpS_w (k := 16) (v := .int .i64 (i : Int)) (by rfl) (by kernel_rfl) (by kernel_rfl) (by kernel_rfl) (by kernel_rfl) (some 127) (by rfl) hS (fun wx hx => exec_ld (by rfl) (by rfl) (loadInt wx ob left _ (by rw [hx]; exact h2))) ?_
  simp only [Act.put, List.setIfInBounds_toArray, List.set_cons_succ, List.set_cons_zero]
  refine wpS_one (i := 8) (by kernel_rfl) (opS_callW (f := 80) (vs := #[.string one, .int .i64 (i : Int)]) (by rfl) (by kernel_rfl) (some 119) (by rfl) (by kernel_rfl) ((g1 w.drew).mono ?_))
  rintro e w1 ⟨rfl, rfl⟩
  refine ⟨_, rfl, rfl, ?_⟩
  simp only [Act.put, List.setIfInBounds_toArray, List.set_cons_succ, List.set_cons_zero]
  refine wpS_one (i := 17) (by kernel_rfl) (opS_callW (f := 80) (vs := #[.string full, .int .i64 (i : Int)]) (by rfl) (by kernel_rfl) (some 128) (by rfl) (by kernel_rfl) ((g2 w.drew).mono ?_))
  rintro e w1 ⟨rfl, rfl⟩
  refine ⟨_, rfl, rfl, ?_⟩
  simp only [Act.put, List.setIfInBounds_toArray, List.set_cons_succ, List.set_cons_zero]
  refine wpS_w (k := 18) (v := .bool false) (by rfl) (by kernel_rfl) (by kernel_rfl) (by kernel_rfl) (by kernel_rfl) (some 129) (by rfl) hS (fun wx _ => exec_bop (by rfl) (by rfl) (by rfl) (by kernel_rfl) (neq_str _ _ f1 wx)) ?_
  simp only [Act.put, List.setIfInBounds_toArray, List.set_cons_succ, List.set_cons_zero]
  refine wpS_pure (k := 19) (v := .bool false) (by rfl) (by kernel_rfl) (by kernel_rfl) (by kernel_rfl) (by rfl) (some 130) (by rfl) hS (fun _ _ => by kernel_rfl) ?_
  simp only [Act.put, List.setIfInBounds_toArray, List.set_cons_succ, List.set_cons_zero]
  refine wpS_pure (k := 20) (v := .bool false) (by rfl) (by kernel_rfl) (by kernel_rfl) (by kernel_rfl) (by rfl) (some 131) (by rfl) hS (fun _ _ => by kernel_rfl) ?_
  simp only [Act.put, List.setIfInBounds_toArray, List.set_cons_succ, List.set_cons_zero]
  refine wpS_w (k := 21) (v := .string one) (by rfl) (by kernel_rfl) (by kernel_rfl) (by kernel_rfl) (by kernel_rfl) (some 132) (by rfl) hS (fun _ _ => by kernel_rfl) ?_
  simp only [Act.put, List.setIfInBounds_toArray, List.set_cons_succ, List.set_cons_zero]
  refine wpS_w (k := 22) (v := .slice (some ⟨ob, 0, none⟩) on oc) (by rfl) (by kernel_rfl) (by kernel_rfl) (by kernel_rfl) (by kernel_rfl) (some 133) (by rfl) hS (fun _ _ => by kernel_rfl) ?_
  simp only [Act.put, List.setIfInBounds_toArray, List.set_cons_succ, List.set_cons_zero]
  refine wpS_w (k := 23) (v := .int .i64 (left : Int)) (by rfl) (by kernel_rfl) (by kernel_rfl) (by kernel_rfl) (by kernel_rfl) (some 134) (by rfl) hS (fun _ _ => by kernel_rfl) ?_
  simp only [Act.put, List.setIfInBounds_toArray, List.set_cons_succ, List.set_cons_zero]
  refine wpS_w (k := 24) (v := .pointer (some ⟨ob, left, none⟩)) (by rfl) (by kernel_rfl) (by kernel_rfl) (by kernel_rfl) (by kernel_rfl) (some 135) (by rfl) hS (fun wx _ => exec_ix (by rfl) (by rfl) (by rfl) (ixInt wx ob on oc left hl)) ?_
  simp only [Act.put, List.setIfInBounds_toArray, List.set_cons_succ, List.set_cons_zero]
  refine wpS_w (k := 25) (v := .int .i64 (i : Int)) (by rfl) (by kernel_rfl) (by kernel_rfl) (by kernel_rfl) (by kernel_rfl) (some 136) (by rfl) hS (fun wx hx => exec_ld (by rfl) (by rfl) (loadInt wx ob left _ (by rw [hx]; exact h2))) ?_
  simp only [Act.put, List.setIfInBounds_toArray, List.set_cons_succ, List.set_cons_zero]
  refine wpS_w (k := 27) (v := .string none') (by rfl) (by kernel_rfl) (by kernel_rfl) (by kernel_rfl) (by kernel_rfl) (some 138) (by rfl) hS (fun _ _ => by kernel_rfl) ?_
  simp only [Act.put, List.setIfInBounds_toArray, List.set_cons_succ, List.set_cons_zero]
  refine wpS_w (k := 28) (v := .slice (some ⟨ob, 0, none⟩) on oc) (by rfl) (by kernel_rfl) (by kernel_rfl) (by kernel_rfl) (by kernel_rfl) (some 139) (by rfl) hS (fun _ _ => by kernel_rfl) ?_
  simp only [Act.put, List.setIfInBounds_toArray, List.set_cons_succ, List.set_cons_zero]
  refine wpS_w (k := 29) (v := .int .i64 (left : Int)) (by rfl) (by kernel_rfl) (by kernel_rfl) (by kernel_rfl) (by kernel_rfl) (some 140) (by rfl) hS (fun _ _ => by kernel_rfl) ?_
  simp only [Act.put, List.setIfInBounds_toArray, List.set_cons_succ, List.set_cons_zero]
  refine wpS_w (k := 30) (v := .pointer (some ⟨ob, left, none⟩)) (by rfl) (by kernel_rfl) (by kernel_rfl) (by kernel_rfl) (by kernel_rfl) (some 141) (by rfl) hS (fun wx _ => exec_ix (by rfl) (by rfl) (by rfl) (ixInt wx ob on oc left hl)) ?_
  simp only [Act.put, List.setIfInBounds_toArray, List.set_cons_succ, List.set_cons_zero]
  refine wpS_w (k := 31) (v := .int .i64 (i : Int)) (by rfl) (by kernel_rfl) (by kernel_rfl) (by kernel_rfl) (by kernel_rfl) (some 142) (by rfl) hS (fun wx hx => exec_ld (by rfl) (by rfl) (loadInt wx ob left _ (by rw [hx]; exact h2))) ?_
  simp only [Act.put, List.setIfInBounds_toArray, List.set_cons_succ, List.set_cons_zero]
  refine wpS_one (i := 26) (by kernel_rfl) (opS_callW (f := 80) (vs := #[.string one, .int .i64 (i : Int)]) (by rfl) (by kernel_rfl) (some 137) (by rfl) (by kernel_rfl) ((g1 w.drew).mono ?_))
  rintro e w1 ⟨rfl, rfl⟩
  refine ⟨_, rfl, rfl, ?_⟩
  simp only [Act.put, List.setIfInBounds_toArray, List.set_cons_succ, List.set_cons_zero]
  refine wpS_one (i := 32) (by kernel_rfl) (opS_callW (f := 80) (vs := #[.string none', .int .i64 (i : Int)]) (by rfl) (by kernel_rfl) (some 143) (by rfl) (by kernel_rfl) ((g3 w.drew).mono ?_))
  rintro e w1 ⟨rfl, rfl⟩
  refine ⟨_, rfl, rfl, ?_⟩
  simp only [Act.put, List.setIfInBounds_toArray, List.set_cons_succ, List.set_cons_zero]
  refine wpS_w (k := 33) (v := .bool false) (by rfl) (by kernel_rfl) (by kernel_rfl) (by kernel_rfl) (by kernel_rfl) (some 144) (by rfl) hS (fun wx _ => exec_bop (by rfl) (by rfl) (by rfl) (by kernel_rfl) (eql_str _ _ f2 wx)) ?_
  simp only [Act.put, List.setIfInBounds_toArray, List.set_cons_succ, List.set_cons_zero]
  refine wpS_pure (k := 34) (v := .bool false) (by rfl) (by kernel_rfl) (by kernel_rfl) (by kernel_rfl) (by rfl) (some 145) (by rfl) hS (fun _ _ => by kernel_rfl) ?_
  simp only [Act.put, List.setIfInBounds_toArray, List.set_cons_succ, List.set_cons_zero]
  refine wpAnyH_done (by kernel_rfl) ?_ _
  refine NoPanic.normal ?_
  exact hQ _ _ _ _ _ _ _ _ _ _ _ _ _ _ _ _ _ _ _ _ _ _ _ _ _ _ _ _ _ _ _ _ _ _
end Go.Proofs.YtlhohmlpcgbliaaDoor
namespace Go.Proofs.YtlhohmlpcgbliaaDoor
set_option maxRecDepth 100000
open Go.RowKit

/-- What singles is told of: the bytes behind each act, what lasts, and what is loose. -/
structure SiP (V : Nat → List (List Nat)) (Lk : List (List Nat)) (X : List (Nat × List Nat)) (k f : Nat) : Prop where
  fk : f ≤ k
  k60 : k ≤ 60
  xl : X.length = k - f
  nd : (X.map (·.1)).Nodup
  key : ∀ x ∈ X, x.1 < 200 ∧ Sec x.2
  sl : SecL Lk
  sv : ∀ j, j ≤ k → SecL (V j)
  mid : ∀ q, q ≤ k - f → V (f + q) = putL (X.take q) Lk
theorem SiP.vk {V : Nat → List (List Nat)} {Lk : List (List Nat)} {X : List (Nat × List Nat)} {k f : Nat} (p : SiP V Lk X k f) : V k = putL X Lk := by
  have h := p.mid (k - f) (Nat.le_refl _)
  have h1 := p.fk
  rw [show f + (k - f) = k by omega, List.take_of_length_le (by rw [p.xl]; exact Nat.le_refl _)] at h
  exact h
/-- The order, when sectors up to i have been gone through at act j. -/
def ordJ (Lk : List (List Nat)) (X : List (Nat × List Nat)) (f j i : Nat) : List Nat :=
  ordL Lk (X.drop (j - f)) ++ (if f < j then (match X[j - 1 - f]? with | some x => if chB Lk x = true ∧ x.1 < i then [x.1] else [] | none => []) else [])
theorem ordJ_zero (Lk : List (List Nat)) (X : List (Nat × List Nat)) (f j : Nat) : ordJ Lk X f j 0 = ordL Lk (X.drop (j - f)) := by
  unfold ordJ
  split
  · split
    · rw [if_neg (by omega), List.append_nil]
    · rw [List.append_nil]
  · rw [List.append_nil]
theorem ordJ_len {V : Nat → List (List Nat)} {Lk : List (List Nat)} {X : List (Nat × List Nat)} {k f : Nat} (p : SiP V Lk X k f) (j i : Nat) : (ordJ Lk X f j i).length ≤ 61 := by
  have h1 := ordL_len Lk (X.drop (j - f))
  rw [List.length_drop] at h1
  have h2 := p.xl
  have h3 := p.k60
  unfold ordJ
  rw [List.length_append]
  have : (if f < j then (match X[j - 1 - f]? with | some x => if chB Lk x = true ∧ x.1 < i then [x.1] else [] | none => []) else []).length ≤ 1 := by
    split
    · split
      · split <;> simp
      · simp
    · simp
  omega
theorem ordJ_end {V : Nat → List (List Nat)} {Lk : List (List Nat)} {X : List (Nat × List Nat)} {k f : Nat} (p : SiP V Lk X k f) {j : Nat} (hjk : j ≤ k) : ordJ Lk X f j 200 = ordL Lk (X.drop (j - 1 - f)) := by
  unfold ordJ
  by_cases hf : f < j
  · rw [if_pos hf]
    have hl := p.xl
    obtain ⟨x, hx⟩ : ∃ x, X[j - 1 - f]? = some x := ⟨_, List.getElem?_eq_getElem (by omega)⟩
    have hk := (p.key x (List.mem_of_getElem? hx)).1
    rw [ordL_drop Lk hx, hx, show j - 1 - f + 1 = j - f by omega]
    simp only [hk, and_true]
  · rw [if_neg hf, List.append_nil, show j - f = 0 by omega, show j - 1 - f = 0 by omega]
theorem SiP.step {V : Nat → List (List Nat)} {Lk : List (List Nat)} {X : List (Nat × List Nat)} {k f : Nat} (p : SiP V Lk X k f) {j i : Nat} (hj : 1 ≤ j) (hjk : j ≤ k) (hi : i < 200) :
    ((decide ((V k).getD i [] = Lk.getD i []) || (ordJ Lk X f j i).contains i) = true → ordJ Lk X f j (i + 1) = ordJ Lk X f j i) ∧
    ((decide ((V k).getD i [] = Lk.getD i []) || (ordJ Lk X f j i).contains i) = false → ordJ Lk X f j (i + 1) = if (V j).getD i [] = (V (j - 1)).getD i [] then ordJ Lk X f j i else ordJ Lk X f j i ++ [i]) := by
  have hl := p.xl
  by_cases hf : f < j
  · obtain ⟨x, hx⟩ : ∃ x, X[j - 1 - f]? = some x := ⟨_, List.getElem?_eq_getElem (by omega)⟩
    have hxm := List.mem_of_getElem? hx
    have hk := p.key x hxm
    have hO : ∀ m, ordJ Lk X f j m = ordL Lk (X.drop (j - f)) ++ (if chB Lk x = true ∧ x.1 < m then [x.1] else []) := fun m => by
      unfold ordJ
      rw [if_pos hf, hx]
    have hg : X[j - 1 - f]'(by omega) = x := (List.getElem?_eq_some_iff.1 hx).2
    have hV : V j = (V (j - 1)).set x.1 x.2 := by
      have h1 := p.mid (j - f) (by omega)
      have h2 := p.mid (j - 1 - f) (by omega)
      rw [show f + (j - f) = j by omega, show j - f = (j - 1 - f) + 1 by omega, List.take_succ_eq_append_getElem (by omega), hg, putL_snoc] at h1
      rw [show f + (j - 1 - f) = j - 1 by omega] at h2
      rw [h1, h2]
    by_cases hix : i = x.1
    · have hvk : (V k).getD i [] = x.2 := by rw [p.vk, hix]; exact put_key p.sl.len p.nd hx hk.1
      have hvj : (V j).getD i [] = x.2 := by rw [hV, hix]; exact set_same (by rw [(p.sv (j - 1) (by omega)).len]; exact hk.1)
      have htk : ∀ y ∈ X.take (j - 1 - f), y.1 ≠ i := by
        intro y hy e
        obtain ⟨m, hm⟩ := List.getElem?_of_mem hy
        have hmlt : m < j - 1 - f := by
          have := (List.getElem?_eq_some_iff.1 hm).1
          rw [List.length_take] at this
          omega
        rw [List.getElem?_take_of_lt hmlt] at hm
        have h3 : (X.map (·.1))[m]? = some i := by rw [List.getElem?_map, hm]; simp [e]
        have h4 : (X.map (·.1))[j - 1 - f]? = some i := by rw [List.getElem?_map, hx]; simp [hix]
        have := (List.getElem?_inj (i := m) (by rw [List.length_map]; omega) p.nd).1 (h3.trans h4.symm)
        omega
      have hvp : (V (j - 1)).getD i [] = Lk.getD i [] := by
        have h2 := p.mid (j - 1 - f) (by omega)
        rw [show f + (j - 1 - f) = j - 1 by omega] at h2
        rw [h2]
        exact put_other p.sl.len (List.Nodup.sublist (List.Sublist.map _ (List.take_sublist _ _)) p.nd) hi htk
      by_cases hc : chB Lk x = true
      · have hne : ¬ x.2 = Lk.getD i [] := by
          have : (!decide (x.2 = Lk.getD x.1 [])) = true := hc
          rw [hix]
          simpa using this
        have hni : i ∉ ordL Lk (X.drop (j - f)) := by
          intro h
          obtain ⟨y, hy, _, e⟩ := ordL_mem.1 h
          obtain ⟨m, hm⟩ := List.getElem?_of_mem hy
          rw [List.getElem?_drop] at hm
          have hmlt := (List.getElem?_eq_some_iff.1 hm).1
          have h3 : (X.map (·.1))[j - f + m]? = some i := by rw [List.getElem?_map, hm]; simp [e]
          have h4 : (X.map (·.1))[j - 1 - f]? = some i := by rw [List.getElem?_map, hx]; simp [hix]
          have := (List.getElem?_inj (i := j - f + m) (by rw [List.length_map]; omega) p.nd).1 (h3.trans h4.symm)
          omega
        have hcon : (ordJ Lk X f j i).contains i = false := by
          rw [hO, if_neg (by omega), List.append_nil]
          simpa using hni
        rw [hcon, Bool.or_false, hvk, decide_eq_false hne]
        refine ⟨(fun h => by cases h), fun _ => ?_⟩
        rw [hvj, hvp, if_neg hne, hO, hO, if_pos ⟨hc, by omega⟩, if_neg (by omega), List.append_nil, hix]
      · have heq : x.2 = Lk.getD i [] := by
          have : ¬ (!decide (x.2 = Lk.getD x.1 [])) = true := hc
          rw [hix]
          simpa using this
        have hsame : ordJ Lk X f j (i + 1) = ordJ Lk X f j i := by
          rw [hO, hO, if_neg (fun h => hc h.1), if_neg (fun h => hc h.1)]
        refine ⟨fun _ => hsame, fun _ => ?_⟩
        rw [hvj, hvp, if_pos heq]
        exact hsame
    · have hsame : ordJ Lk X f j (i + 1) = ordJ Lk X f j i := by
        rw [hO, hO]
        congr 1
        by_cases h1 : chB Lk x = true ∧ x.1 < i
        · rw [if_pos h1, if_pos ⟨h1.1, by omega⟩]
        · rw [if_neg h1, if_neg (fun h => h1 ⟨h.1, by omega⟩)]
      refine ⟨fun _ => hsame, fun _ => ?_⟩
      rw [if_pos (by rw [hV, set_sec hix])]
      exact hsame
  · have hO : ∀ m, ordJ Lk X f j m = ordL Lk X := fun m => by
      unfold ordJ
      rw [if_neg hf, List.append_nil, show j - f = 0 by omega, List.drop_zero]
    have hdone : (decide ((V k).getD i [] = Lk.getD i []) || (ordJ Lk X f j i).contains i) = true := by
      by_cases h : (V k).getD i [] = Lk.getD i []
      · rw [decide_eq_true h, Bool.true_or]
      · have : ∃ x ∈ X, x.1 = i := by
          refine Classical.byContradiction fun hn => h ?_
          rw [p.vk]
          exact put_other p.sl.len p.nd hi (fun x hx e => hn ⟨x, hx, e⟩)
        obtain ⟨x, hx, e⟩ := this
        obtain ⟨q, hq⟩ := List.getElem?_of_mem hx
        have h2 := put_key p.sl.len p.nd hq (p.key x hx).1
        rw [p.vk, ← e, h2] at h
        have hm : i ∈ ordL Lk X := ordL_mem.2 ⟨x, hx, by show (!decide (x.2 = Lk.getD x.1 [])) = true; simpa using h, e⟩
        rw [hO]
        have : (ordL Lk X).contains i = true := by simpa using hm
        rw [this, Bool.or_true]
    exact ⟨fun _ => by rw [hO, hO], fun h => by rw [hdone] at h; cases h⟩
/-- One bit: that write lasts, and no other. -/
theorem SiP.one {V : Nat → List (List Nat)} {Lk : List (List Nat)} {X : List (Nat × List Nat)} {k f : Nat} (p : SiP V Lk X k f) {q : Nat} (hq : q < 62) :
    (∃ x, X[q]? = some x ∧ chB Lk x = true ∧ dif (btx (failL (2 ^ q) 0 X Lk)) (btx Lk) 200 = 1 ∧ secS (btx (failL (2 ^ q) 0 X Lk)) x.1 = secS (btx (V k)) x.1 ∧ ¬ secS (btx (failL (2 ^ q) 0 X Lk)) x.1 = secS (btx Lk) x.1) ∨
    (chN Lk X (q + 1) = chN Lk X q ∧ dif (btx (failL (2 ^ q) 0 X Lk)) (btx Lk) 200 = 0) := by
  have hl := p.xl
  have hk := p.k60
  rw [failL_one hq X 0 Lk (by omega)]
  by_cases hqx : q < X.length
  · rw [if_pos (by omega), Nat.sub_zero]
    obtain ⟨x, hx⟩ : ∃ x, X[q]? = some x := ⟨_, List.getElem?_eq_getElem hqx⟩
    have hxm := p.key x (List.mem_of_getElem? hx)
    rw [List.getD_eq_getElem?_getD, hx, Option.getD_some]
    have hss := p.sl.set x.1 hxm.2
    by_cases hc : chB Lk x = true
    · left
      have hne : ¬ x.2 = Lk.getD x.1 [] := by
        have : (!decide (x.2 = Lk.getD x.1 [])) = true := hc
        simpa using this
      have h1 : (Lk.set x.1 x.2).getD x.1 [] = x.2 := set_same (by rw [p.sl.len]; exact hxm.1)
      have hn : ¬ secS (btx (Lk.set x.1 x.2)) x.1 = secS (btx Lk) x.1 := by rw [sec_iff hss p.sl hxm.1, h1]; exact hne
      refine ⟨x, rfl, hc, ?_, ?_, hn⟩
      · have h2 := dif_near (a := btx (Lk.set x.1 x.2)) (b := btx (Lk.set x.1 x.2)) (c := btx Lk) (i := x.1) 200 (fun m hm hi => by rw [sec_iff hss p.sl hm, set_sec hi])
        rw [dif_self] at h2
        have h3 := dif_pos hn 200 hxm.1
        have h4 : (if x.1 < 200 then 1 else 0) ≤ 1 := by split <;> omega
        omega
      · rw [sec_iff hss (p.sv k (Nat.le_refl _)) hxm.1, h1, p.vk, put_key p.sl.len p.nd hx hxm.1]
    · right
      have heq : x.2 = Lk.getD x.1 [] := by
        have : ¬ (!decide (x.2 = Lk.getD x.1 [])) = true := hc
        simpa using this
      refine ⟨by rw [chN_succ hx, if_neg hc]; rfl, ?_⟩
      refine dif_same 200 (fun i hi => ?_)
      rw [sec_iff hss p.sl hi]
      by_cases e : i = x.1
      · rw [e, set_same (by rw [p.sl.len]; exact hxm.1), heq]
      · rw [set_sec e]
  · right
    rw [if_neg (by omega)]
    exact ⟨chN_stay (by omega), dif_self _ _⟩
end Go.Proofs.YtlhohmlpcgbliaaDoor
namespace Go.Proofs.YtlhohmlpcgbliaaDoor
set_option maxRecDepth 100000
open Go.RowKit
attribute [local go_sem ↓] Go.wp_at_zero Go.wp_at_succ

/-- Numbers as values. -/
def intv (l : List Nat) : List Value := l.map fun (n : Nat) => Value.int .i64 (n : Int)
theorem intv_length (l : List Nat) : (intv l).length = l.length := by simp [intv]
theorem row_sliceI {w : World} {base : Nat} {v : Value} {ts : List Nat} (h : Row w base 3 v (intv ts)) : ∃ p cap, v = .slice p ts.length cap := by
  obtain ⟨h1, h2⟩ := h
  rw [intv_length] at h2
  rcases h2 with ⟨rfl, hn⟩ | ⟨g, cap, cur, rfl, hb, hg, hn, hm, hs, ht⟩
  · exact ⟨none, 0, by rw [hn]⟩
  · exact ⟨_, cap, rfl⟩
theorem row_cellI {w : World} {base : Nat} {p : Option Addr} {n cap : Nat} {ts : List Nat} (h : Row w base 3 (.slice p n cap) (intv ts)) {m x : Nat} (hx : ts[m]? = some x) : ∃ g, p = some ⟨g, 0, none⟩ ∧ w.cell? ⟨g, m, none⟩ = some (.int .i64 (x : Int)) := by
  have hm : m < ts.length := (List.getElem?_eq_some_iff.1 hx).1
  obtain ⟨g, cap', hv, _, _, _, hc, _⟩ := h.form (by rw [intv_length]; omega)
  injection hv with e1
  refine ⟨g, e1, ?_⟩
  rw [hc m (by rw [intv_length]; exact hm)]
  simp [intv, hx]
/-- The bytes behind each act. -/
def fulL (V : Nat → List (List Nat)) (k : Nat) : List ByteArray := (List.range (k + 1)).map fun j => btx (V j)
theorem fulL_get (V : Nat → List (List Nat)) {k j : Nat} (h : j ≤ k) : (fulL V k)[j]? = some (btx (V j)) := by
  unfold fulL
  rw [List.getElem?_map, List.getElem?_range (by omega)]
  rfl

set_option maxHeartbeats 4000000 in
theorem si9_wp {c0 c1 c4 c5 c6 c7 c8 c13 c14 c15 c16 c17 c18 c19 c20 c21 c22 c23 c24 c25 c26 c27 c28 c29 c30 c31 c32 c33 c34 c35 c36 c37 c38 c39 c40 c41 c42 c43 c44 c45 c46 c47 c48 c49 c50 c51 c52 c53 c54 c55 c56 c57 c58 c59 c60 c61 c62 c63 c64 c65 c66 c67 c68 c69 c70 c71 c72 c73 c74 c75 c76 c77 c78 c79 c80 c81 c82 c83 c84 c85 c86 c87 c88 c89 c90 c91 c92 c93 c94 c95 c96 c97 c98 c99 c100 c101 c102 c103 c104 c105 c106 c107 c108 c109 c110 c111 c112 c113 c114 c115 c116 c117 c118 c119 c120 c121 c122 c123 c124 c125 c126 c127 c128 c129 c130 c131 c132 c133 c134 c135 c136 c137 c138 c139 c140 c141 c142 c143 c144 c145 c146 c147 c148 c149 : Value} {V : Nat → List (List Nat)} {Lk : List (List Nat)} {X : List (Nat × List Nat)} {k f : Nat} (p : SiP V Lk X k f) (fb fo fc j i : Nat) (v : Value) (w0 w : World) (Q : Exit → Act → World → Prop) (hj : j + 1 ≤ k) (hi : i < 200) (hS : SA w0 fb fo (fulL V k)) (hrow : Row w w0.heap.size 3 v (intv (ordJ Lk X f (j + 1) i))) (hb : Below w0.heap.size w0 w)
    (hQ : ∀ (u13 u14 u35 u36 u37 u38 u39 u40 u41 u42 u43 u44 u45 u46 u47 u48 u49 u50 u51 u52 u53 u54 u55 u56 u57 u58 u59 u60 u61 u62 u63 u64 u65 u66 u67 u68 u69 u70 u71 u72 u73 u74 u75 u76 u77 u78 u79 u80 u81 : Value) (v' : Value) (w' : World), Row w' w0.heap.size 3 v' (intv (ordJ Lk X f (j + 1) (i + 1))) → Below w0.heap.size w0 w' → Q .normal ⟨#[c0, c1, .slice (some ⟨fb, fo, none⟩) (k + 1) fc, .string (btx Lk), c4, c5, c6, c7, c8, .int .i64 (k : Int), v', .int .i64 ((j + 1 : Nat) : Int), .int .i64 (i : Int), u13, u14, c15, c16, c17, c18, c19, c20, c21, c22, c23, c24, c25, c26, c27, c28, c29, c30, c31, c32, c33, c34, u35, u36, u37, u38, u39, u40, u41, u42, u43, u44, u45, u46, u47, u48, u49, u50, u51, u52, u53, u54, u55, u56, u57, u58, u59, u60, u61, u62, u63, u64, u65, u66, u67, u68, u69, u70, u71, u72, u73, u74, u75, u76, u77, u78, u79, u80, u81, c82, c83, c84, c85, c86, c87, c88, c89, c90, c91, c92, c93, c94, c95, c96, c97, c98, c99, c100, c101, c102, c103, c104, c105, c106, c107, c108, c109, c110, c111, c112, c113, c114, c115, c116, c117, c118, c119, c120, c121, c122, c123, c124, c125, c126, c127, c128, c129, c130, c131, c132, c133, c134, c135, c136, c137, c138, c139, c140, c141, c142, c143, c144, c145, c146, c147, c148, c149], []⟩ w') :
    Code.wp Tryd.prog (sfxD Tryd.f49 9) Q ⟨#[c0, c1, .slice (some ⟨fb, fo, none⟩) (k + 1) fc, .string (btx Lk), c4, c5, c6, c7, c8, .int .i64 (k : Int), v, .int .i64 ((j + 1 : Nat) : Int), .int .i64 (i : Int), c13, c14, c15, c16, c17, c18, c19, c20, c21, c22, c23, c24, c25, c26, c27, c28, c29, c30, c31, c32, c33, c34, c35, c36, c37, c38, c39, c40, c41, c42, c43, c44, c45, c46, c47, c48, c49, c50, c51, c52, c53, c54, c55, c56, c57, c58, c59, c60, c61, c62, c63, c64, c65, c66, c67, c68, c69, c70, c71, c72, c73, c74, c75, c76, c77, c78, c79, c80, c81, c82, c83, c84, c85, c86, c87, c88, c89, c90, c91, c92, c93, c94, c95, c96, c97, c98, c99, c100, c101, c102, c103, c104, c105, c106, c107, c108, c109, c110, c111, c112, c113, c114, c115, c116, c117, c118, c119, c120, c121, c122, c123, c124, c125, c126, c127, c128, c129, c130, c131, c132, c133, c134, c135, c136, c137, c138, c139, c140, c141, c142, c143, c144, c145, c146, c147, c148, c149], []⟩ w := by
  conv => arg 2; whnf
  have hk60 := p.k60
  have hst := p.step (j := j + 1) (i := i) (by omega) hj hi
  have hol := ordJ_len p (j + 1) i
  have zk := (p.sv k (Nat.le_refl _)).size
  have zl := p.sl.size
  have z1 := (p.sv (j + 1) hj).size
  have z0 := (p.sv j (by omega)).size
  have gk := fun wx => sector_any (btx (V k)) i wx zk hi
  have gl := fun wx => sector_any (btx Lk) i wx zl hi
  have ek := sec_iff (p.sv k (Nat.le_refl _)) p.sl hi
  have ej := sec_iff (p.sv (j + 1) hj) (p.sv j (by omega)) hi
  have ck : w.cell? ⟨fb, fo + k, none⟩ = some (.string (btx (V k))) := (hS.below hb) k _ (fulL_get V (Nat.le_refl _))
  have HS : Aside (SA w0 fb fo (fulL V k)) := hS
  have HQ : Aside (∀ (u13 u14 u35 u36 u37 u38 u39 u40 u41 u42 u43 u44 u45 u46 u47 u48 u49 u50 u51 u52 u53 u54 u55 u56 u57 u58 u59 u60 u61 u62 u63 u64 u65 u66 u67 u68 u69 u70 u71 u72 u73 u74 u75 u76 u77 u78 u79 u80 u81 : Value) (v' : Value) (w' : World), Row w' w0.heap.size 3 v' (intv (ordJ Lk X f (j + 1) (i + 1))) → Below w0.heap.size w0 w' → Q .normal ⟨#[c0, c1, .slice (some ⟨fb, fo, none⟩) (k + 1) fc, .string (btx Lk), c4, c5, c6, c7, c8, .int .i64 (k : Int), v', .int .i64 ((j + 1 : Nat) : Int), .int .i64 (i : Int), u13, u14, c15, c16, c17, c18, c19, c20, c21, c22, c23, c24, c25, c26, c27, c28, c29, c30, c31, c32, c33, c34, u35, u36, u37, u38, u39, u40, u41, u42, u43, u44, u45, u46, u47, u48, u49, u50, u51, u52, u53, u54, u55, u56, u57, u58, u59, u60, u61, u62, u63, u64, u65, u66, u67, u68, u69, u70, u71, u72, u73, u74, u75, u76, u77, u78, u79, u80, u81, c82, c83, c84, c85, c86, c87, c88, c89, c90, c91, c92, c93, c94, c95, c96, c97, c98, c99, c100, c101, c102, c103, c104, c105, c106, c107, c108, c109, c110, c111, c112, c113, c114, c115, c116, c117, c118, c119, c120, c121, c122, c123, c124, c125, c126, c127, c128, c129, c130, c131, c132, c133, c134, c135, c136, c137, c138, c139, c140, c141, c142, c143, c144, c145, c146, c147, c148, c149], []⟩ w') := hQ
  have cj1 : Aside ((fulL V k)[j + 1]? = some (btx (V (j + 1))) ∧ (fulL V k)[j]? = some (btx (V j))) := ⟨fulL_get V hj, fulL_get V (by omega)⟩
  rw [show j + 1 - 1 = j from rfl] at hst
  have HST : Aside (((decide (secS (btx (V k)) i = secS (btx Lk) i) || (ordJ Lk X f (j + 1) i).contains i) = true → ordJ Lk X f (j + 1) (i + 1) = ordJ Lk X f (j + 1) i) ∧
    ((decide (secS (btx (V k)) i = secS (btx Lk) i) || (ordJ Lk X f (j + 1) i).contains i) = false → ordJ Lk X f (j + 1) (i + 1) = if secS (btx (V (j + 1))) i = secS (btx (V j)) i then ordJ Lk X f (j + 1) i else ordJ Lk X f (j + 1) i ++ [i])) := by
    show _ ∧ _
    simp only [ek, ej]
    exact hst
  clear hst hQ hS ek ej p
  generalize ordJ Lk X f (j + 1) i = O at *
  generalize ordJ Lk X f (j + 1) (i + 1) = O' at *
  generalize hyk : secS (btx (V k)) i = yk at *
  generalize hyl : secS (btx Lk) i = yl at *
  generalize btx (V k) = bk at *
  generalize btx Lk = bl at *
  clear hyk hyl
  generalize hd0 : decide (yk = yl) = d0 at *
  have hyb : (yk.toList == yl.toList) = d0 := by rw [eqs]; exact hd0
  clear hd0
  have hkk : (k : Int) < (k : Int) + 1 := by omega
  go_wp2_with fail
  refine (gk w).mono ?_
  rintro e w1 ⟨rfl, rfl⟩
  go_wp2_with fail
  refine (gl w1).mono ?_
  rintro e w2 ⟨rfl, rfl⟩
  clear gk gl ck
  obtain ⟨pp, cap, rfl⟩ := row_sliceI hrow
  go_wp2_with fail
  go_loopw [13, 14] (fun u m' wr => ∃ (m : Nat) (d : Bool), m ≤ O.length ∧ u = .bool d ∧ m' = .int .i64 (m : Int) ∧ wr = w2 ∧ Aside (d = (d0 || (O.take m).contains i))) (fun _ m' _ => O.length - (intOf m').toNat)
  case atStart => exact ⟨0, d0, by omega, rfl, rfl, rfl, by show _ = _; simp⟩
  case round =>
    obtain ⟨m, d, hm, rfl, rfl, rfl, HD⟩ := hrel
    by_cases hmo : m < O.length
    · have hmo' : (m : Int) < (O.length : Int) := by omega
      obtain ⟨x, hx⟩ : ∃ x, O[m]? = some x := ⟨_, List.getElem?_eq_getElem hmo⟩
      obtain ⟨g, rfl, hcell⟩ := row_cellI hrow hx
      have HN : Aside ((d0 || (O.take (m + 1)).contains i) = (d || decide ((x : Int) = (i : Int)))) := by
        show _ = _
        have hg : O[m] = x := (List.getElem?_eq_some_iff.1 hx).2
        rw [List.take_succ_eq_append_getElem hmo, hg, HD.out, Bool.or_assoc]
        congr 1
        rw [List.contains_eq_any_beq, List.contains_eq_any_beq, List.any_append]
        simp
        by_cases e : i = x
        · simp [e]
        · have : ¬ (x : Int) = (i : Int) := by omega
          simp [e, this]
      clear hx
      cases d with
      | true =>
        have HN2 : Aside ((d0 || (O.take (m + 1)).contains i) = true) := by show _ = _; rw [HN.out]; rfl
        clear HN hcell
        go_wp2
        go_roundw
        case rel => exact ⟨m + 1, true, by omega, rfl, by go_num, trivial, HN2.out.symm⟩
        case measure => simp [intOf]; omega
      | false =>
        by_cases e : (x : Int) = (i : Int)
        · have eb : ((x : Int) == (i : Int)) = true := by simpa using e
          have HN2 : Aside ((d0 || (O.take (m + 1)).contains i) = true) := by show _ = _; rw [HN.out, decide_eq_true e]; rfl
          clear HN e
          go_wp2
          go_roundw
          case rel => exact ⟨m + 1, true, by omega, rfl, by go_num, trivial, HN2.out.symm⟩
          case measure => simp [intOf]; omega
        · have eb : ((x : Int) == (i : Int)) = false := by simpa using e
          have HN2 : Aside ((d0 || (O.take (m + 1)).contains i) = false) := by show _ = _; rw [HN.out, decide_eq_false e]; rfl
          clear HN e
          go_wp2
          go_roundw
          case rel => exact ⟨m + 1, false, by omega, rfl, by go_num, trivial, HN2.out.symm⟩
          case measure => simp [intOf]; omega
    · have hmo' : ¬ (m : Int) < (O.length : Int) := by omega
      have HD2 : Aside (d = (d0 || O.contains i)) := by
        have := HD.out
        rw [List.take_of_length_le (by omega)] at this
        exact this
      have hdr : Below wr.heap.size wr wr.drew := (Below.refl _ _).drew
      have hrow2 := hrow.below hdr (Nat.le_refl _)
      have hb2 : Below w0.heap.size w0 wr.drew := hb.trans (hdr.mono hb.size)
      have c1 := (HS.out.below hb) _ _ cj1.out.1
      have c0 := (HS.out.below hb) _ _ cj1.out.2
      have HCC : Aside (wr.cell? ⟨fb, fo + (j + 1), none⟩ = some (.string (btx (V (j + 1)))) ∧ wr.cell? ⟨fb, fo + j, none⟩ = some (.string (btx (V j)))) := ⟨c1, c0⟩
      clear c1 c0 hdr
      cases d with
      | true =>
        have HO : Aside (O' = O) := HST.out.1 HD2.out.symm
        go_wp2_with fail
        refine si14T_wp wr _ ?_
        intro u60 u61 u62 u63 u64 u65 u66 u67 u68 u69 u70 u71 u72 u73 u74 u75 u76
        generalize wr.drew = w5 at *
        go_wp2
        exact HQ.out _ _ _ _ _ _ _ _ _ _ _ _ _ _ _ _ _ _ _ _ _ _ _ _ _ _ _ _ _ _ _ _ _ _ _ _ _ _ _ _ _ _ _ _ _ _ _ _ _ _ _ (by rw [HO.out]; exact hrow2) hb2
      | false =>
        have hN := HST.out.2 HD2.out.symm
        by_cases hs : secS (btx (V (j + 1))) i = secS (btx (V j)) i
        · rw [if_pos hs] at hN
          have HO : Aside (O' = O) := hN
          have HV : Aside ((!decide (secS (btx (V (j + 1))) i = secS (btx (V j)) i)) = false) := by show _ = _; rw [decide_eq_true hs]; rfl
          clear hN hs
          go_wp2_with fail
          refine si14F_wp fb fo (k + 1) fc j i (btx (V (j + 1))) (btx (V j)) false wr _ (by omega) (by omega) hi HCC.out.1 HCC.out.2 z1 z0 HV.out ?_
          intro u60 u61 u62 u63 u64 u65 u66 u67 u68 u69 u70 u71 u72 u73 u74 u75 u76
          generalize wr.drew = w5 at *
          go_wp2
          exact HQ.out _ _ _ _ _ _ _ _ _ _ _ _ _ _ _ _ _ _ _ _ _ _ _ _ _ _ _ _ _ _ _ _ _ _ _ _ _ _ _ _ _ _ _ _ _ _ _ _ _ _ _ (by rw [HO.out]; exact hrow2) hb2
        · rw [if_neg hs] at hN
          have HO : Aside (O' = O ++ [i]) := hN
          have HV : Aside ((!decide (secS (btx (V (j + 1))) i = secS (btx (V j)) i)) = true) := by show _ = _; rw [decide_eq_false hs]; rfl
          clear hN hs
          have HI : Aside (intv O ++ [.int .i64 (i : Int)] = intv O') := by show _ = _; rw [HO.out]; simp [intv]
          have hxl : (intv O).length ≤ 61 := by rw [intv_length]; exact hol
          go_wp2_with fail
          refine si14F_wp fb fo (k + 1) fc j i (btx (V (j + 1))) (btx (V j)) true wr _ (by omega) (by omega) hi HCC.out.1 HCC.out.2 z1 z0 HV.out ?_
          intro u60 u61 u62 u63 u64 u65 u66 u67 u68 u69 u70 u71 u72 u73 u74 u75 u76
          clear hrow
          generalize wr.drew = w5 at *
          have hsz := hb2.size
          generalize intv O = xs at *
          go_wp2_with (at_builtin; refine wpList_app elem_int rfl Tryd.underlying32 (by rfl) (.tmp 78) (.tmp 80) (by rfl) w0.heap.size _ xs (by rfl) (hrow2.alloc _) _ 1 1 [.int .i64 (i : Int)] (by rfl) rfl (Blk.new _ 3 _) ?h1 ?hl ?hb ?hbs (w0 := w0) (B := w0.heap.size) (hb2.alloc hb2.size _) (Nat.le_refl _) ?_)
          case h1 => intro u hu; simp at hu; subst hu; rfl
          case hl => omega
          case hb => omega
          case hbs => simp; omega
          intro vL w6 hrow6 _ b6
          rw [HI.out] at hrow6
          go_wp2
          exact HQ.out _ _ _ _ _ _ _ _ _ _ _ _ _ _ _ _ _ _ _ _ _ _ _ _ _ _ _ _ _ _ _ _ _ _ _ _ _ _ _ _ _ _ _ _ _ _ _ _ _ _ _ hrow6 b6
end Go.Proofs.YtlhohmlpcgbliaaDoor
namespace Go.Proofs.YtlhohmlpcgbliaaDoor
set_option maxRecDepth 100000
open Go.RowKit
attribute [local go_sem ↓] Go.wp_at_zero Go.wp_at_succ

def siQ (w0 : World) : Exit → Act → World → Prop := bodyPost Tryd.prog Tryd.f49 fun e w' => e = .returned (.bool true) ∧ Below w0.heap.size w0 w'

set_option maxHeartbeats 4000000 in
theorem si16_wp {c4 c5 c6 c7 c8 c11 c12 c13 c14 c15 c16 c17 c18 c19 c20 c21 c22 c23 c24 c25 c26 c27 c28 c29 c30 c31 c32 c33 c34 c35 c36 c37 c38 c39 c40 c41 c42 c43 c44 c45 c46 c47 c48 c49 c50 c51 c52 c53 c54 c55 c56 c57 c58 c59 c60 c61 c62 c63 c64 c65 c66 c67 c68 c69 c70 c71 c72 c73 c74 c75 c76 c77 c78 c79 c80 c81 c82 c83 c84 c85 c86 c87 c88 c89 c90 c91 c92 c93 c94 c95 c96 c97 c98 c99 c100 c101 c102 c103 c104 c105 c106 c107 c108 c109 c110 c111 c112 c113 c114 c115 c116 c117 c118 c119 c120 c121 c122 c123 c124 c125 c126 c127 c128 c129 c130 c131 c132 c133 c134 c135 c136 c137 c138 c139 c140 c141 c142 c143 c144 c145 c146 c147 c148 c149 : Value} {V : Nat → List (List Nat)} {Lk : List (List Nat)} {X : List (Nat × List Nat)} {k f : Nat} (p : SiP V Lk X k f) (a cb co cc fb fo fc : Nat) (v : Value) (w0 w : World) (hS : SA w0 fb fo (fulL V k))
    (hF : ∀ wx, Below w0.heap.size w0 wx → ∀ keep : Int, Calls Tryd.prog 47 #[.pointer (some ⟨a, 0, none⟩), .slice (some ⟨cb, co, none⟩) 1 cc, .int .i64 (k : Int), .int .i64 keep] wx fun e w' => e = .returned (.string (btx (failL keep 0 X Lk))) ∧ Below wx.heap.size wx w')
    (hrow : Row w w0.heap.size 3 v (intv (ordL Lk X))) (hb : Below w0.heap.size w0 w) :
    Code.wp Tryd.prog (sfxD Tryd.f49 16) (siQ w0) ⟨#[.pointer (some ⟨a, 0, none⟩), .slice (some ⟨cb, co, none⟩) 1 cc, .slice (some ⟨fb, fo, none⟩) (k + 1) fc, .string (btx Lk), c4, c5, c6, c7, c8, .int .i64 (k : Int), v, c11, c12, c13, c14, c15, c16, c17, c18, c19, c20, c21, c22, c23, c24, c25, c26, c27, c28, c29, c30, c31, c32, c33, c34, c35, c36, c37, c38, c39, c40, c41, c42, c43, c44, c45, c46, c47, c48, c49, c50, c51, c52, c53, c54, c55, c56, c57, c58, c59, c60, c61, c62, c63, c64, c65, c66, c67, c68, c69, c70, c71, c72, c73, c74, c75, c76, c77, c78, c79, c80, c81, c82, c83, c84, c85, c86, c87, c88, c89, c90, c91, c92, c93, c94, c95, c96, c97, c98, c99, c100, c101, c102, c103, c104, c105, c106, c107, c108, c109, c110, c111, c112, c113, c114, c115, c116, c117, c118, c119, c120, c121, c122, c123, c124, c125, c126, c127, c128, c129, c130, c131, c132, c133, c134, c135, c136, c137, c138, c139, c140, c141, c142, c143, c144, c145, c146, c147, c148, c149], []⟩ w := by
  conv => arg 2; whnf
  generalize hQ : siQ w0 = Q
  have HQ : Aside (siQ w0 = Q) := hQ
  clear hQ
  obtain ⟨pp, cap, rfl⟩ := row_sliceI hrow
  have hk60 := p.k60
  have hxl := p.xl
  have hol := ordL_len Lk X
  have zl := p.sl.size
  have zk := (p.sv k (Nat.le_refl _)).size
  have HF : Aside (∀ wx, Below w0.heap.size w0 wx → ∀ keep : Int, Calls Tryd.prog 47 #[.pointer (some ⟨a, 0, none⟩), .slice (some ⟨cb, co, none⟩) 1 cc, .int .i64 (k : Int), .int .i64 keep] wx fun e w' => e = .returned (.string (btx (failL keep 0 X Lk))) ∧ Below wx.heap.size wx w') := hF
  have HP : Aside (SiP V Lk X k f ∧ SA w0 fb fo (fulL V k) ∧ ∀ wx, Below w.heap.size w wx → Row wx w0.heap.size 3 (.slice pp (ordL Lk X).length cap) (intv (ordL Lk X))) := ⟨p, hS, fun wx hx => hrow.below hx (Nat.le_refl _)⟩
  clear p hS hF hrow
  generalize hN : (ordL Lk X).length = N at *
  have HN : Aside ((ordL Lk X).length = N) := hN
  clear hN
  go_wp2_with fail
  go_loopw [15, 16, 17] (fun u b' q' wr => ∃ (q left bt : Nat), q ≤ k ∧ q ≤ 62 ∧ left ≤ N ∧ bt ≤ 4611686018427387904 ∧ u = .int .i64 (left : Int) ∧ b' = .int .i64 (bt : Int) ∧ q' = .int .i64 (q : Int) ∧ Aside (left + chN Lk X q = N ∧ bt = 2 ^ q ∧ Below w0.heap.size w0 wr ∧ Below w.heap.size w wr)) (fun _ _ q' _ => 62 - (intOf q').toNat)
  case atStart => exact ⟨0, N, 1, by omega, by omega, Nat.le_refl _, by omega, rfl, rfl, rfl, ⟨by unfold chN; simp, rfl, hb, Below.refl _ _⟩⟩
  case round =>
    obtain ⟨q, left, bt, hqk, hq62, hln, hbt, rfl, rfl, rfl, HI⟩ := hrel
    by_cases h1 : q < k
    · have h1' : (q : Int) < (k : Int) := by omega
      by_cases h2 : q < 62
      · have h2' : (q : Int) < 62 := by omega
        have hbt2 : bt ≤ 2305843009213693952 := by
          rw [HI.out.2.1]
          exact Nat.le_trans (Nat.pow_le_pow_right (by omega) (show q ≤ 61 by omega)) (by decide)
        have hfa := HF.out wr HI.out.2.2.1 (bt : Int)
        have hone := HP.out.1.one h2
        have hso : SecL (failL (2 ^ q) 0 X Lk) := failL_secL HP.out.1.sl (fun x hx => (HP.out.1.key x hx).2)
        have ebt : (bt : Int) = 2 ^ q := by rw [HI.out.2.1]; exact Int.natCast_pow 2 q
        have eF : failL (bt : Int) 0 X Lk = failL (2 ^ q) 0 X Lk := by rw [ebt]
        rw [eF] at hfa
        clear eF ebt
        have zo := hso.size
        clear hso
        generalize btx (failL (2 ^ q) 0 X Lk) = bo at *
        have HO : Aside ((∃ x, X[q]? = some x ∧ chB Lk x = true ∧ dif bo (btx Lk) 200 = 1 ∧ secS bo x.1 = secS (btx (V k)) x.1 ∧ ¬ secS bo x.1 = secS (btx Lk) x.1) ∨ (chN Lk X (q + 1) = chN Lk X q ∧ dif bo (btx Lk) 200 = 0)) := hone
        clear hone
        go_wp2_with fail
        refine hfa.mono ?_
        rintro e w3 ⟨rfl, hb3⟩
        clear hfa
        have B3 : Aside (Below w0.heap.size w0 w3 ∧ Below w.heap.size w w3) := ⟨HI.out.2.2.1.trans (hb3.mono HI.out.2.2.1.size), HI.out.2.2.2.trans (hb3.mono HI.out.2.2.2.size)⟩
        clear hb3
        have hdi := differ_any bo (btx Lk) w3 zo zl
        rcases HO.out with ⟨x, hx, hc, hd, e1, e2⟩ | ⟨hst, hd⟩
        · rw [hd] at hdi
          have ha := ord_at hx hc
          have hsu := chN_succ (l := Lk) hx
          rw [if_pos hc] at hsu
          have hxk := (HP.out.1.key x (List.mem_of_getElem? hx)).1
          rw [HN.out] at ha
          have hl1 : 1 ≤ left := by have := HI.out.1; omega
          obtain ⟨left', rfl⟩ : ∃ l', left = l' + 1 := ⟨left - 1, by omega⟩
          rw [show N - chN Lk X q - 1 = left' by have := HI.out.1; omega] at ha
          have HE : Aside (secS bo x.1 = secS (btx (V k)) x.1 ∧ ¬ secS bo x.1 = secS (btx Lk) x.1 ∧ (ordL Lk X)[left']? = some x.1 ∧ chN Lk X (q + 1) = chN Lk X q + 1 ∧ x.1 < 200) := ⟨e1, e2, ha.2, hsu, hxk⟩
          clear hx hc hd e1 e2 ha hsu hxk HO
          generalize x.1 = xi at *
          go_wp2_with fail
          refine hdi.mono ?_
          rintro e w4 ⟨rfl, hb4⟩
          clear hdi
          have B4 : Aside (Below w0.heap.size w0 w4 ∧ Below w.heap.size w w4) := ⟨B3.out.1.trans (hb4.mono B3.out.1.size), B3.out.2.trans (hb4.mono B3.out.2.size)⟩
          clear hb4
          obtain ⟨g, hpg, hcell⟩ := row_cellI (HP.out.2.2 w4 B4.out.2) HE.out.2.2.1
          subst hpg
          have hck : w4.cell? ⟨fb, fo + k, none⟩ = some (.string (btx (V k))) := (HP.out.2.1.below B4.out.1) k _ (fulL_get V (Nat.le_refl _))
          have HCC : Aside (w4.cell? ⟨g, left', none⟩ = some (.int .i64 (xi : Int)) ∧ w4.cell? ⟨fb, fo + k, none⟩ = some (.string (btx (V k)))) := ⟨hcell, hck⟩
          clear hcell hck
          go_wp2_with fail
          refine si27_wp fb fo (k + 1) fc g N cap k left' xi (btx Lk) bo (btx (V k)) w4 _ (by omega) (by omega) HE.out.2.2.2.2 HCC.out.2 HCC.out.1 zl zo zk HE.out.1 HE.out.2.1 ?_
          intro u111 u112 u113 u114 u115 u116 u117 u118 u119 u120 u121 u122 u123 u124 u125 u126 u127 u128 u129 u130 u131 u132 u133 u134 u135 u136 u137 u138 u139 u140 u141 u142 u143 u144
          have B5 : Aside (Below w0.heap.size w0 w4.drew ∧ Below w.heap.size w w4.drew) := ⟨B4.out.1.drew, B4.out.2.drew⟩
          generalize w4.drew = w5 at *
          go_wp2
          go_roundw
          case rel => exact ⟨q + 1, left', 2 * bt, by omega, by omega, by omega, by omega, rfl, by go_num, by go_num, ⟨by have := HI.out.1; have := HE.out.2.2.2.1; omega, by rw [HI.out.2.1, Nat.pow_succ, Nat.mul_comm], B5.out.1, B5.out.2⟩⟩
          case measure => simp [intOf]; omega
        · rw [hd] at hdi
          have HE : Aside (chN Lk X (q + 1) = chN Lk X q) := hst
          clear hst hd HO
          go_wp2_with fail
          refine hdi.mono ?_
          rintro e w4 ⟨rfl, hb4⟩
          clear hdi
          have B4 : Aside (Below w0.heap.size w0 w4 ∧ Below w.heap.size w w4) := ⟨B3.out.1.trans (hb4.mono B3.out.1.size), B3.out.2.trans (hb4.mono B3.out.2.size)⟩
          clear hb4
          go_wp2
          go_roundw
          case rel => exact ⟨q + 1, left, 2 * bt, by omega, by omega, hln, by omega, rfl, by go_num, by go_num, ⟨by rw [HE.out]; exact HI.out.1, by rw [HI.out.2.1, Nat.pow_succ, Nat.mul_comm], B4.out.1, B4.out.2⟩⟩
          case measure => simp [intOf]; omega
      · omega
    · have h1' : ¬ (q : Int) < (k : Int) := by omega
      have hl0 : left = 0 := by
        have h3 := HI.out.1
        rw [chN_all (by omega), HN.out] at h3
        omega
      subst hl0
      go_wp2
      rw [← HQ.out]
      unfold siQ
      go_ret
      exact ⟨rfl, HI.out.2.2.1⟩
end Go.Proofs.YtlhohmlpcgbliaaDoor
