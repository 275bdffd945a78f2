import Derived.Test.YtlhohmlpcgbliabGreatDoorZY17
import Derived.Test.YtlhohmlpcgbliabGreatDoorZH6
import Derived.Test.YtlhohmlpcgbliabGreatDoorZCd
import Derived.Test.YtlhohmlpcgbliabGreatDoorZD2
import Derived.Test.YtlhohmlpcgbliabGreatDoorZQ3
namespace Go.Proofs.YtlhohmlpcgbliabGreatDoor
set_option maxRecDepth 100000
open Go.RowKit
attribute [local go_sem ↓] Go.wp_at_zero Go.wp_at_succ

theorem below_drew {w w' : World} (h : Below w.drew.heap.size w.drew w') : Below w.heap.size w w' := (Below.refl w.heap.size w).drew.trans h

theorem incF_len : ∀ (N i : Nat) (l : List ByteArray), (incF N i l).length ≤ N := by
  intro N
  induction N with
  | zero => intro i l; simp [incF]
  | succ f ih =>
    intro i l
    unfold incF
    split
    · simp
    · split
      · have := ih i (l.take (spl l.length))
        rw [List.length_append, List.length_singleton]
        omega
      · have := ih (i - spl l.length) (l.drop (spl l.length))
        rw [List.length_append, List.length_singleton]
        omega
theorem conF_len : ∀ (N m : Nat) (l : List ByteArray) (all : Bool), (conF N m l all).length ≤ N + 1 := by
  intro N
  induction N with
  | zero => intro m l all; simp [conF]
  | succ f ih =>
    intro m l all
    unfold conF
    split
    · split
      · simp
      · simp
    · split
      · have := ih m (l.take (spl l.length)) all
        rw [List.length_append, List.length_singleton]
        omega
      · have := ih (m - spl l.length) (l.drop (spl l.length)) false
        rw [List.length_append, List.length_singleton]
        omega
theorem incA_len (p : Option AS) (hf : Fine p) (a b : Int) : (incA p a b).1.length ≤ 1000000000 := by
  unfold incA
  cases p with
  | none => simp
  | some q =>
    obtain ⟨f1, _⟩ := hf.ok q rfl
    simp only
    split
    · simp
    · rename_i h
      have h2 : ¬ (q.1.length : Int) < b := fun h' => h (.inl h')
      have := incF_len b.toNat a.toNat ((q.1.map leafS).take b.toNat)
      simp only
      omega
theorem conA_len (p : Option AS) (hf : Fine p) (a b : Int) : (conA p a b).1.length ≤ 1000000000 := by
  unfold conA
  cases p with
  | none => simp
  | some q =>
    obtain ⟨f1, _⟩ := hf.ok q rfl
    simp only
    split
    · simp
    · rename_i h
      have h2 : ¬ (q.1.length : Int) < b := fun h' => h (.inl h')
      have := conF_len b.toNat a.toNat ((q.1.map leafS).take b.toNat) true
      simp only
      omega

set_option maxHeartbeats 8000000 in
/-- A step. -/
theorem gcall_any {B w : World} {gm : Nat} {A : Nat → Option AS} {N : Nat → Int} {T : List (List Value)} {av : Value} {col : Nat → Nat} (G : GA B w gm A A N T av col) (ht : Table B) (hg : 2 < B.heap.size) (kind on a b : Int) (ho1 : -9223372036854775808 ≤ on) (ho2 : on ≤ 9223372036854775807) (ha1 : -9223372036854775808 ≤ a) (ha2 : a ≤ 9223372036854775807) (L : Value) (ss : List ByteArray) (hL : ArgS w L ss) (hLc : ss ≠ [] → ∀ j, L.ownBlock = some j → j < w.heap.size ∧ col j = 0) (hss : ss.length ≤ 1000000000) (n : Nat) (hn : n < 100000000) (hT : T.length ≤ 2000000) :
    Calls Tryz.prog 24 #[.pointer (some ⟨gm, 0, none⟩), callV kind on a b L, .int .i64 (n : Int)] w fun e w' => e = .returned (.bool true) ∧ Done B gm T w' := by
  have hk := pickV_lt on 3 (by omega)
  obtain ⟨pl, cl, hpl⟩ := hL.shape
  have hB0 : Blk (w.alloc (.cells #[.int .i64 kind, .int .i64 on, .int .i64 a, .int .i64 b, L] 55)) w.heap.size 55 [.int .i64 kind, .int .i64 on, .int .i64 a, .int .i64 b, L] := Blk.new w _ _
  have hb0 : Below w.heap.size w (w.alloc (.cells #[.int .i64 kind, .int .i64 on, .int .i64 a, .int .i64 b, L] 55)) := (Below.refl _ _).alloc (Nat.le_refl _) _
  have G0 := G.below hb0 0
  have hA0 : ArgS (w.alloc (.cells #[.int .i64 kind, .int .i64 on, .int .i64 a, .int .i64 b, L] 55)) L ss := hL.keep fun _ j hj hlt => hb0.block j hlt
  have hLc0 : ss ≠ [] → ∀ j, L.ownBlock = some j → j < (w.alloc (.cells #[.int .i64 kind, .int .i64 on, .int .i64 a, .int .i64 b, L] 55)).heap.size ∧ ncol col w.heap.size 0 j = 0 := fun hne j hj => ⟨Nat.lt_of_lt_of_le (hLc hne j hj).1 hb0.size, by rw [ncol_old (hLc hne j hj).1]; exact (hLc hne j hj).2⟩
  subst hpl
  have hol := hB0.lt
  have c0 := hB0.cell 0
  have c1 := hB0.cell 1
  have c2 := hB0.cell 2
  have c3 := hB0.cell 3
  have c4 := hB0.cell 4
  simp only [List.getElem?_cons_zero, List.getElem?_cons_succ] at c0 c1 c2 c3 c4
  unfold callV
  clear G hL hLc hb0 hB0
  generalize ncol col w.heap.size 0 = col0 at *
  have hpk := fun wx => pick_any on 3 wx ho1 ho2 (by omega) (by omega)
  generalize pickV on 3 = k at *
  have HG := KA.hid (And.intro G0 (And.intro hA0 hLc0))
  clear G0 hA0 hLc0
  go_enter Tryz.func24, Tryz.ntmps24
  go_wp2_with fail
  generalize w.alloc (.cells #[.int .i64 kind, .int .i64 on, .int .i64 a, .int .i64 b, .slice pl ss.length cl] 55) = w0 at *
  refine (hpk w0).mono ?_
  rintro e w1 ⟨rfl, rfl⟩
  clear hpk
  have hf := HG.out.1.fine hk
  have hki : (k : Int) < 3 := by omega
  by_cases k1 : kind = 1
  · subst k1
    have hc := gsubmit_any HG.out.1 hk 1 on a b _ ss HG.out.2.1 HG.out.2.2 hss n hn hT
    unfold callV at hc
    go_wp2_with fail
    refine hc.mono ?_
    rintro e w2 ⟨rfl, hD⟩
    clear hc
    go_wp2
    go_ret
    exact ⟨rfl, hD⟩
  by_cases k2 : kind = 2
  · subst k2
    clear k1
    go_wp2_with fail
    refine (gflush_any HG.out.1 hk ht hg).mono ?_
    rintro e w2 ⟨rfl, hD⟩
    go_wp2
    go_ret
    exact ⟨rfl, hD⟩
  by_cases k3 : kind = 3
  · subst k3
    clear k1 k2
    obtain ⟨q1, hq1⟩ := HG.out.1.xq hk
    have hix := fun wx => idxX wx gm k hk
    have hiy := fun wx => idxY wx gm k hk
    go_wp2_with fail
    refine (HG.out.1.ck hk hq1).mono ?_
    rintro e w2 ⟨rfl, hb2⟩
    have G2 := HG.out.1.below hb2 0
    obtain ⟨q2, hq2⟩ := G2.yq hk
    clear hq1 hb2 HG c0 c1 c2 c3 c4
    go_wp2_with fail
    refine (G2.refCk hk hq2 hf).mono ?_
    rintro e w3 ⟨rfl, hb3⟩
    generalize (chkA (A k)).1 = x1 at *
    generalize (chkA (A k)).2.1 = x2 at *
    generalize (chkA (A k)).2.2 = x3 at *
    clear hq2
    go_wp2
    go_ret
    exact ⟨rfl, _, _, _, _, _, G2.below hb3 0, by simp⟩
  by_cases k4 : kind = 4
  · subst k4
    clear k1 k2 k3
    obtain ⟨q1, hq1⟩ := HG.out.1.xq hk
    have hbd : Below w1.heap.size w1 w1.drew := (Below.refl w1.heap.size w1).drew
    have Gd := HG.out.1.below hbd 0
    go_wp2_with fail
    refine gcR12_wp gm w.heap.size k q1 a (entA (A k) a).2 (entA (A k) a).1 w1 _ hk HG.out.1.gl hol hq1 c2 ((Gd.entry hk (v := .pointer q1) hq1 a).mono (fun e w' h => ⟨h.1, below_drew h.2⟩)) ?_
    intro u84 u85 u86 u87 u88 u89 u90 u91 u92 u93 u94 u95 w2 hb2
    have G2 := HG.out.1.below hb2 0
    obtain ⟨q2, hq2⟩ := G2.yq hk
    have hbd2 : Below w2.heap.size w2 w2.drew := (Below.refl w2.heap.size w2).drew
    have Gd2 := G2.below hbd2 0
    have c2' : w2.cell? ⟨w.heap.size, 2, none⟩ = some (.int .i64 a) := by rw [hb2.cell (p := ⟨w.heap.size, 2, none⟩) hol]; exact c2
    have hol2 := Nat.lt_of_lt_of_le hol hb2.size
    clear hq1 hb2 HG c0 c1 c2 c3 c4 Gd hbd hol
    go_wp2_with fail
    refine gcR13_wp gm w.heap.size k q2 a (entA (A k) a).2 (entA (A k) a).1 w2 _ hk G2.gl hol2 hq2 c2' ((Gd2.refEntry hk (v := .pointer q2) hq2 a).mono (fun e w' h => ⟨h.1, below_drew h.2⟩)) ?_
    intro u96 u97 u98 u99 u100 u101 u102 u103 u104 u105 u106 u107 w3 hb3
    generalize (entA (A k) a).1 = x1 at *
    generalize (entA (A k) a).2 = x2 at *
    clear hq2 c2' Gd2 hbd2 hol2
    go_wp2
    go_ret
    exact ⟨rfl, _, _, _, _, _, G2.below hb3 0, by simp⟩
  by_cases k5 : kind = 5
  · subst k5
    clear k1 k2 k3 k4
    obtain ⟨q1, hq1⟩ := HG.out.1.xq hk
    have hbd : Below w1.heap.size w1 w1.drew := (Below.refl w1.heap.size w1).drew
    have Gd := HG.out.1.below hbd 0
    go_wp2_with fail
    refine gcR16_wp gm w.heap.size k q1 a b (incA (A k) a b).2 (fun u w' => Row w' w1.heap.size 9 u (strv (incA (A k) a b).1)) w1 _ hk HG.out.1.gl hol hq1 c2 c3 ((Gd.incl hk ht hg (v := .pointer q1) hq1 a b).mono (fun e w' h => by
      obtain ⟨u, h1, h2, h3⟩ := h
      exact ⟨u, h1, below_drew h3, h2⟩)) ?_
    intro u118 u119 u120 u121 u122 u123 u124 u125 u126 u127 u128 u129 u130 u131 u w2 hb2 hrow
    have G2 := HG.out.1.below hb2 4
    obtain ⟨q2, hq2⟩ := G2.yq hk
    have hbd2 : Below w2.heap.size w2 w2.drew := (Below.refl w2.heap.size w2).drew
    have Gd2 := G2.below hbd2 0
    have hrc2 : ∀ j, u.ownBlock = some j → j < w2.heap.size ∧ ncol col0 w1.heap.size 4 j = 4 := fun j hj => ⟨(hrow.lt j hj).2, ncol_new (hrow.lt j hj).1⟩
    have c2' : w2.cell? ⟨w.heap.size, 2, none⟩ = some (.int .i64 a) := by rw [hb2.cell (p := ⟨w.heap.size, 2, none⟩) hol]; exact c2
    have c3' : w2.cell? ⟨w.heap.size, 3, none⟩ = some (.int .i64 b) := by rw [hb2.cell (p := ⟨w.heap.size, 3, none⟩) hol]; exact c3
    have hol2 := Nat.lt_of_lt_of_le hol hb2.size
    have hrow2 : Row w2 0 9 u (strv (incA (A k) a b).1) := hrow.mono (Nat.zero_le _)
    have hlen := incA_len (A k) hf a b
    clear hq1 hb2 HG c0 c1 c2 c3 c4 Gd hbd hol hrow
    generalize ncol col0 w1.heap.size 4 = col2 at *
    go_wp2_with fail
    refine gcR17_wp gm w.heap.size k q2 a b (incA (A k) a b).2 (fun u w' => Row w' w2.heap.size 9 u (strv (incA (A k) a b).1)) w2 _ hk G2.gl hol2 hq2 c2' c3' ((Gd2.refIncl hk (v := .pointer q2) hq2 hf a b).mono (fun e w' h => by
      obtain ⟨u, h1, h2, h3⟩ := h
      exact ⟨u, h1, below_drew h3, h2⟩)) ?_
    intro u132 u133 u134 u135 u136 u137 u138 u139 u140 u141 u142 u143 u144 u145 u' w3 hb3 hrow3
    have G3 := G2.below hb3 0
    have hru := hrow2.below hb3 (Nat.le_refl _)
    have hru' : Row w3 0 9 u' (strv (incA (A k) a b).1) := hrow3.mono (Nat.zero_le _)
    have hrc3 : ∀ j, u.ownBlock = some j → j < w3.heap.size ∧ ncol col2 w2.heap.size 0 j = 4 := fun j hj => ⟨Nat.lt_of_lt_of_le (hrc2 j hj).1 hb3.size, by rw [ncol_old (hrc2 j hj).1]; exact (hrc2 j hj).2⟩
    generalize (incA (A k) a b).1 = xs at *
    generalize (incA (A k) a b).2 = x2 at *
    clear hq2 c2' c3' Gd2 hbd2 hol2 hrow2 hrow3 G2 hrc2 hb3
    generalize ncol col2 w2.heap.size 0 = col3 at *
    go_wp2_with fail
    refine (same_any u u' xs w3 (by omega) (row_strs hru) (row_strs hru')).mono ?_
    rintro e w4 ⟨rfl, hb4⟩
    have G4 := G3.below hb4 0
    have hru4 := hru.below hb4 (Nat.le_refl _)
    have hrc4 : ∀ j, u.ownBlock = some j → j < w4.heap.size ∧ ncol col3 w3.heap.size 0 j = 4 := fun j hj => ⟨Nat.lt_of_lt_of_le (hrc3 j hj).1 hb4.size, by rw [ncol_old (hrc3 j hj).1]; exact (hrc3 j hj).2⟩
    clear G3 hru hru' hrc3 hb4
    go_wp2_with fail
    refine gcR19_wp gm n u xs w4 _ G4 hru4 hrc4 hlen hn hT ?_
    intro u149 u150 u151 u152 u153 u154 u155 u156 u157 u158 u159 u160 t av' col' w5 G5
    clear G4 hru4 hrc4
    go_wp2
    go_ret
    exact ⟨rfl, _, _, _, _, _, G5, by simp⟩
  by_cases k6 : kind = 6
  · subst k6
    clear k1 k2 k3 k4 k5
    obtain ⟨q1, hq1⟩ := HG.out.1.xq hk
    have hbd : Below w1.heap.size w1 w1.drew := (Below.refl w1.heap.size w1).drew
    have Gd := HG.out.1.below hbd 0
    go_wp2_with fail
    refine gcR22_wp gm w.heap.size k q1 a b (conA (A k) a b).2 (fun u w' => Row w' w1.heap.size 9 u (strv (conA (A k) a b).1)) w1 _ hk HG.out.1.gl hol hq1 c2 c3 ((Gd.cons hk ht hg (v := .pointer q1) hq1 a b).mono (fun e w' h => by
      obtain ⟨u, h1, h2, h3⟩ := h
      exact ⟨u, h1, below_drew h3, h2⟩)) ?_
    intro u169 u170 u171 u172 u173 u174 u175 u176 u177 u178 u179 u180 u181 u182 u w2 hb2 hrow
    have G2 := HG.out.1.below hb2 4
    obtain ⟨q2, hq2⟩ := G2.yq hk
    have hbd2 : Below w2.heap.size w2 w2.drew := (Below.refl w2.heap.size w2).drew
    have Gd2 := G2.below hbd2 0
    have hrc2 : ∀ j, u.ownBlock = some j → j < w2.heap.size ∧ ncol col0 w1.heap.size 4 j = 4 := fun j hj => ⟨(hrow.lt j hj).2, ncol_new (hrow.lt j hj).1⟩
    have c2' : w2.cell? ⟨w.heap.size, 2, none⟩ = some (.int .i64 a) := by rw [hb2.cell (p := ⟨w.heap.size, 2, none⟩) hol]; exact c2
    have c3' : w2.cell? ⟨w.heap.size, 3, none⟩ = some (.int .i64 b) := by rw [hb2.cell (p := ⟨w.heap.size, 3, none⟩) hol]; exact c3
    have hol2 := Nat.lt_of_lt_of_le hol hb2.size
    have hrow2 : Row w2 0 9 u (strv (conA (A k) a b).1) := hrow.mono (Nat.zero_le _)
    have hlen := conA_len (A k) hf a b
    clear hq1 hb2 HG c0 c1 c2 c3 c4 Gd hbd hol hrow
    generalize ncol col0 w1.heap.size 4 = col2 at *
    go_wp2_with fail
    refine gcR23_wp gm w.heap.size k q2 a b (conA (A k) a b).2 (fun u w' => Row w' w2.heap.size 9 u (strv (conA (A k) a b).1)) w2 _ hk G2.gl hol2 hq2 c2' c3' ((Gd2.refCons hk (v := .pointer q2) hq2 hf a b).mono (fun e w' h => by
      obtain ⟨u, h1, h2, h3⟩ := h
      exact ⟨u, h1, below_drew h3, h2⟩)) ?_
    intro u183 u184 u185 u186 u187 u188 u189 u190 u191 u192 u193 u194 u195 u196 u' w3 hb3 hrow3
    have G3 := G2.below hb3 0
    have hru := hrow2.below hb3 (Nat.le_refl _)
    have hru' : Row w3 0 9 u' (strv (conA (A k) a b).1) := hrow3.mono (Nat.zero_le _)
    have hrc3 : ∀ j, u.ownBlock = some j → j < w3.heap.size ∧ ncol col2 w2.heap.size 0 j = 4 := fun j hj => ⟨Nat.lt_of_lt_of_le (hrc2 j hj).1 hb3.size, by rw [ncol_old (hrc2 j hj).1]; exact (hrc2 j hj).2⟩
    generalize (conA (A k) a b).1 = xs at *
    generalize (conA (A k) a b).2 = x2 at *
    clear hq2 c2' c3' Gd2 hbd2 hol2 hrow2 hrow3 G2 hrc2 hb3
    generalize ncol col2 w2.heap.size 0 = col3 at *
    go_wp2_with fail
    refine (same_any u u' xs w3 (by omega) (row_strs hru) (row_strs hru')).mono ?_
    rintro e w4 ⟨rfl, hb4⟩
    have G4 := G3.below hb4 0
    have hru4 := hru.below hb4 (Nat.le_refl _)
    have hrc4 : ∀ j, u.ownBlock = some j → j < w4.heap.size ∧ ncol col3 w3.heap.size 0 j = 4 := fun j hj => ⟨Nat.lt_of_lt_of_le (hrc3 j hj).1 hb4.size, by rw [ncol_old (hrc3 j hj).1]; exact (hrc3 j hj).2⟩
    clear G3 hru hru' hrc3 hb4
    go_wp2_with fail
    refine gcR25_wp gm n u xs w4 _ G4 hru4 hrc4 hlen hn hT ?_
    intro u200 u201 u202 u203 u204 u205 u206 u207 u208 u209 u210 u211 t av' col' w5 G5
    clear G4 hru4 hrc4
    go_wp2
    go_ret
    exact ⟨rfl, _, _, _, _, _, G5, by simp⟩
  have hc : Calls Tryz.prog 48 #[.pointer (some ⟨gm, 0, none⟩), callV kind on a b (.slice pl ss.length cl), .int .i64 (k : Int)] w1 fun e w' => e = .returned (.bool true) ∧ Done B gm T w' := by
    cases hp : A k with
    | none => exact gother_none HG.out.1 hk hp kind on a b ha1 ha2 pl ss.length cl
    | some p => exact gother_some HG.out.1 hk ht hg p hp kind on a b ha1 ha2 pl ss.length cl
  unfold callV at hc
  go_wp2_with fail
  refine hc.mono ?_
  rintro e w2 ⟨rfl, hD⟩
  clear hc
  go_wp2
  go_ret
  exact ⟨rfl, hD⟩
end Go.Proofs.YtlhohmlpcgbliabGreatDoor
namespace Go.Proofs.YtlhohmlpcgbliabGreatDoor
set_option maxRecDepth 100000
open Go.RowKit
attribute [local go_sem ↓] Go.wp_at_zero Go.wp_at_succ

theorem flat5 : ∀ (T : List (List Value)), (∀ t ∈ T, t.length = 5) → ∀ (i j : Nat) (t : List Value), T[i]? = some t → j < 5 → T.flatten[i * 5 + j]? = t[j]?
  | [], _, i, j, t, h, _ => by simp at h
  | x :: r, hl, 0, j, t, h, hj => by
    simp only [List.getElem?_cons_zero, Option.some.injEq] at h
    subst h
    rw [List.flatten_cons, Nat.zero_mul, Nat.zero_add, List.getElem?_append_left (by rw [hl _ (List.mem_cons_self ..)]; exact hj)]
  | x :: r, hl, i + 1, j, t, h, hj => by
    simp only [List.getElem?_cons_succ] at h
    have hx := hl x (List.mem_cons_self ..)
    rw [List.flatten_cons, List.getElem?_append_right (by rw [hx]; omega), hx, show (i + 1) * 5 + j - 5 = i * 5 + j by omega]
    exact flat5 r (fun t ht => hl t (List.mem_cons_of_mem _ ht)) i j t h hj
theorem idxT (w : World) (b n c i : Nat) (hi : i < n) : (Instr.indexAt 47 (.slice (some ⟨b, 0, none⟩) n c) (.int .i64 (i : Int))).run Tryz.prog w = .ok (.pointer (some ⟨b, i * 5, none⟩)) w := by
  have h : (i : Int) < (n : Int) := by omega
  simp [go_sem, h]
theorem GA.elem {B w : World} {gm : Nat} {P R : Nat → Option AS} {N : Nat → Int} {T : List (List Value)} {av : Value} {col : Nat → Nat} (G : GA B w gm P R N T av col) {i : Nat} (hi : i < T.length) : ∃ (ab c : Nat) (l g h u : Value) (mk : ByteArray), av = .slice (some ⟨ab, 0, none⟩) T.length c ∧ ab < w.heap.size ∧ w.rangeAt ab (i * 5) [l, g, h, u, .string mk] ∧ MK w l mk ∧ MK w g mk ∧ MK w h mk ∧ MK w u mk := by
  have hrow := G.row
  obtain ⟨l, g, h, u, mk, ht, h1, h2, h3, h4⟩ := G.tex _ (List.getElem_mem hi)
  have h5 : ∀ t ∈ T, t.length = 5 := fun t ht => by
    obtain ⟨l, g, h, u, mk, e, _⟩ := G.tex t ht
    rw [e]; rfl
  rcases hrow.2 with ⟨_, h0⟩ | ⟨ab, c, cur, hv, _, hg, _, _, _, htk⟩
  · omega
  · refine ⟨ab, c, l, g, h, u, mk, hv, (Array.getElem?_eq_some_iff.1 hg).1, fun j v hj => ?_, h1, h2, h3, h4⟩
    have hj5 : j < 5 := (List.getElem?_eq_some_iff.1 hj).1
    rw [hv] at hrow
    rw [hrow.cellAt (i * 5 + j) (by omega), flat5 T h5 i j _ (List.getElem?_eq_getElem hi) hj5, ht]
    exact hj

set_option maxHeartbeats 4000000 in
theorem stay_any {B w : World} {gm : Nat} {P R : Nat → Option AS} {N : Nat → Int} {T : List (List Value)} {av : Value} {col : Nat → Nat} (G : GA B w gm P R N T av col) (hT : T.length ≤ 2000000) :
    Calls Tryz.prog 25 #[.pointer (some ⟨gm, 0, none⟩)] w fun e w' => e = .returned (.bool true) ∧ Below w.heap.size w w' := by
  obtain ⟨pv, cv, hpv⟩ := G.shp
  have hgl := G.gl
  have hca := G.ca
  rw [hpv] at hca
  have HG := KA.hid (And.intro G hpv)
  clear G hpv
  go_enter Tryz.func25, Tryz.ntmps25
  try go_wp2
  go_loopw [3, 4] (fun v i wr => ∃ k : Nat, k ≤ T.length ∧ v = .bool true ∧ i = .int .i64 (k : Int) ∧ Below w.heap.size w wr) (fun _ i _ => T.length - (intOf i).toNat)
  case atStart => exact ⟨0, by omega, rfl, rfl, Below.refl _ _⟩
  case round =>
    obtain ⟨k, hk, rfl, rfl, hb⟩ := hrel
    have hca' : wr.cell? ⟨gm, 6, none⟩ = some (.slice pv T.length cv) := by rw [hb.cell (p := ⟨gm, 6, none⟩) hgl]; exact hca
    by_cases h8 : k < T.length
    · obtain ⟨ab, c, l, g, h, u, mk, hv, hab, hrg, m0, m1, m2, m3⟩ := HG.out.1.elem h8
      rw [HG.out.2] at hv
      simp only [Value.slice.injEq, true_and] at hv
      obtain ⟨rfl, rfl⟩ := hv
      have hix := fun wx => idxT wx ab T.length cv k h8
      have hki : (k : Int) < (T.length : Int) := by omega
      obtain ⟨p0, n0, d0, rfl, -⟩ := id m0
      obtain ⟨p1, n1, d1, rfl, -⟩ := id m1
      obtain ⟨p2, n2, d2, rfl, -⟩ := id m2
      obtain ⟨p3, n3, d3, rfl, -⟩ := id m3
      have hrg' : wr.rangeAt ab (k * 5) [.slice p0 n0 d0, .slice p1 n1 d1, .slice p2 n2 d2, .slice p3 n3 d3, .string mk] := fun j v hj => by
        rw [hb.cell (p := ⟨ab, k * 5 + j, none⟩) hab]
        exact hrg j v hj
      have e0 := hrg' 0 _ rfl
      have e1 := hrg' 1 _ rfl
      have e2 := hrg' 2 _ rfl
      have e3 := hrg' 3 _ rfl
      have e4 := hrg' 4 _ rfl
      rw [Nat.add_zero] at e0
      have HM := KA.hid (And.intro m0 (And.intro m1 (And.intro m2 m3)))
      clear m0 m1 m2 m3 hrg hrg'
      have hBW := Blk.new wr 74 [.slice p0 n0 d0, .slice p1 n1 d1, .slice p2 n2 d2, .slice p3 n3 d3, .string mk]
      have hbW := hb.alloc hb.size (.cells #[.slice p0 n0 d0, .slice p1 n1 d1, .slice p2 n2 d2, .slice p3 n3 d3, .string mk] 74)
      go_wp2_with fail
      generalize wr.alloc (.cells #[.slice p0 n0 d0, .slice p1 n1 d1, .slice p2 n2 d2, .slice p3 n3 d3, .string mk] 74) = w5 at *
      have t0 := hBW.cell 0
      have t1 := hBW.cell 1
      have t2 := hBW.cell 2
      have t3 := hBW.cell 3
      have t4 := hBW.cell 4
      simp only [List.getElem?_cons_zero, List.getElem?_cons_succ] at t0 t1 t2 t3 t4
      clear e0 e1 e2 e3 e4 hca' hBW hix
      refine (marked_any _ mk w5 (HM.out.1.below hbW)).mono ?_
      rintro e w6 ⟨rfl, rfl⟩
      go_wp2_with fail
      refine (marked_any _ mk w6 (HM.out.2.1.below hbW)).mono ?_
      rintro e w7 ⟨rfl, rfl⟩
      go_wp2_with fail
      refine (marked_any _ mk w7 (HM.out.2.2.1.below hbW)).mono ?_
      rintro e w8 ⟨rfl, rfl⟩
      go_wp2_with fail
      refine (marked_any _ mk w8 (HM.out.2.2.2.below hbW)).mono ?_
      rintro e w9 ⟨rfl, rfl⟩
      go_wp2
      go_roundw
      case rel => exact ⟨k + 1, by omega, rfl, by go_num, hbW⟩
      case measure => simp [intOf]; omega
    · have hk8 : k = T.length := by omega
      subst hk8
      go_wp2
      go_ret
      exact ⟨rfl, hb⟩
end Go.Proofs.YtlhohmlpcgbliabGreatDoor
namespace Go.Proofs.YtlhohmlpcgbliabGreatDoor
set_option maxRecDepth 100000
open Go.RowKit
attribute [local go_sem ↓] Go.wp_at_zero Go.wp_at_succ

theorem new_xs (w : World) (ht : Table w) (hg : 2 < w.heap.size) :
    Calls Tryz.prog 23 #[] w fun e w' => ∃ x : XS, e = .returned (.pointer (some ⟨x.a, 0, none⟩)) ∧ x.at w' ∧ (∀ j, x.own j → w.heap.size ≤ j) ∧ Holds x.D [] ∧ x.W = [] ∧ Below w.heap.size w w' := by
  refine (groveNew_any w ht hg).mono ?_
  rintro e w' ⟨a, b, rfl, ha, hb, hL, hbl⟩
  refine ⟨⟨a, b, .slice none 0 0, .slice none 0 0, Dk.fresh, []⟩, rfl, hL, fun j hj => ?_, fresh_holds, rfl, hbl⟩
  rcases hj with e | e | e | e
  · rw [e]; exact ha
  · rw [e]; exact hb
  · simp [Value.ownBlock] at e
  · simp [Value.ownBlock] at e
theorem storeX (w : World) (b o : Nat) (u : Value) (q : Option Addr) (h : w.cell? ⟨b, o, none⟩ = some u) (hf : w.frozen? ⟨b, o, none⟩ = false) : (Instr.storeAt 43 (.pointer (some ⟨b, o, none⟩)) (.pointer q)).run Tryz.prog w = .ok () (w.setCell ⟨b, o, none⟩ (.pointer q)) := by
  simp [go_sem, h, hf]
/-- A new log in a game. -/
theorem GA.new {B w : World} {gm : Nat} {A : Nat → Option AS} {N : Nat → Int} {T : List (List Value)} {av : Value} {col : Nat → Nat} (G : GA B w gm A A N T av col) {k : Nat} (hk : k < 3) (ht : Table B) (hg : 2 < B.heap.size) :
    Calls Tryz.prog 23 #[] w fun e w' => ∃ xa, e = .returned (.pointer (some ⟨xa, 0, none⟩)) ∧ (∃ u, w'.cell? ⟨gm, k, none⟩ = some u) ∧ w'.frozen? ⟨gm, k, none⟩ = false ∧ ∃ N' col', GA B (w'.setCell ⟨gm, k, none⟩ (.pointer (some ⟨xa, 0, none⟩))) gm (upd A k (some ([], []))) A N' T av col' := by
  have hbB := G.bel
  refine (new_xs w (table_at hbB hg ht) (Nat.lt_of_lt_of_le hg hbB.size)).mono ?_
  rintro e w' ⟨x, rfl, hx, hxo, hxH, hxW, hb⟩
  have G1 := G.below hb 0
  obtain ⟨q, hq⟩ := G1.xq hk
  exact ⟨x.a, rfl, ⟨_, hq⟩, G1.frozen k, _, _, G.setX hk hb x hx hxo ([], []) x.D.acts ⟨hxH, hxW, by simp, (fun s hs => by simp at hs), by simp, rfl⟩⟩

set_option maxHeartbeats 2000000 in
theorem clR5_wp {c0 c1 c2 c5 c6 c7 c8 c9 c10 c11 c12 c13 c14 c15 c16 c17 c18 c19 c20 c21 c22 c23 c24 c25 c26 c27 c28 c29 c30 c31 c32 c33 c34 c35 c36 c37 c38 c39 c40 c41 c42 c43 c44 c45 c46 c47 c48 c49 c50 c51 c52 c53 c54 c55 c56 c57 c58 c59 c60 c61 c62 c63 c64 c65 c66 c67 c68 c69 c70 c71 c72 c73 c74 c75 c76 c77 c78 c79 c80 c81 c82 c83 c84 c85 c86 c87 c88 c89 c90 c91 c92 c93 c94 c95 c96 c97 c98 c99 c100 c101 : Value} (gm k : Nat) (w : World) (Q : Exit → Act → World → Prop) (Post : Nat → World → Prop) (hk : k < 3)
    (hc : Calls Tryz.prog 23 #[] w.drew fun e w' => ∃ xa, e = .returned (.pointer (some ⟨xa, 0, none⟩)) ∧ (∃ u, w'.cell? ⟨gm, k, none⟩ = some u) ∧ w'.frozen? ⟨gm, k, none⟩ = false ∧ Post xa w')
    (hQ : ∀ (u19 u20 u21 u22 u23 u24 : Value) (xa : Nat) (w' : World), Post xa w' → Q .normal ⟨#[c0, c1, c2, .pointer (some ⟨gm, 0, none⟩), .int .i64 (k : Int), c5, c6, c7, c8, c9, c10, c11, c12, c13, c14, c15, c16, c17, c18, u19, u20, u21, u22, u23, u24, c25, c26, c27, c28, c29, c30, c31, c32, c33, c34, c35, c36, c37, c38, c39, c40, c41, c42, c43, c44, c45, c46, c47, c48, c49, c50, c51, c52, c53, c54, c55, c56, c57, c58, c59, c60, c61, c62, c63, c64, c65, c66, c67, c68, c69, c70, c71, c72, c73, c74, c75, c76, c77, c78, c79, c80, c81, c82, c83, c84, c85, c86, c87, c88, c89, c90, c91, c92, c93, c94, c95, c96, c97, c98, c99, c100, c101], []⟩ (w'.setCell ⟨gm, k, none⟩ (.pointer (some ⟨xa, 0, none⟩)))) :
    Code.wp Tryz.prog (rgn Tryz.f6 5) Q ⟨#[c0, c1, c2, .pointer (some ⟨gm, 0, none⟩), .int .i64 (k : Int), c5, c6, c7, c8, c9, c10, c11, c12, c13, c14, c15, c16, c17, c18, c19, c20, c21, c22, c23, c24, c25, c26, c27, c28, c29, c30, c31, c32, c33, c34, c35, c36, c37, c38, c39, c40, c41, c42, c43, c44, c45, c46, c47, c48, c49, c50, c51, c52, c53, c54, c55, c56, c57, c58, c59, c60, c61, c62, c63, c64, c65, c66, c67, c68, c69, c70, c71, c72, c73, c74, c75, c76, c77, c78, c79, c80, c81, c82, c83, c84, c85, c86, c87, c88, c89, c90, c91, c92, c93, c94, c95, c96, c97, c98, c99, c100, c101], []⟩ w := by
  have hS : (fun _ : World => True) w.drew := trivial
  conv => arg 2; whnf
  refine wp_region_s (fun _ : World => True) (by kernel_rfl) ?_
  refine wpS_pure (k := 0) (v := .pointer (some ⟨gm, 0, none⟩)) (by rfl) (by kernel_rfl) (by kernel_rfl) (by kernel_rfl) (by rfl) (some 19) (by rfl) hS (fun wx hx => by kernel_rfl) ?_
  simp only [Act.put, List.setIfInBounds_toArray, List.set_cons_succ, List.set_cons_zero]
  refine wpS_pure (k := 1) (v := .int .i64 (k : Int)) (by rfl) (by kernel_rfl) (by kernel_rfl) (by kernel_rfl) (by rfl) (some 20) (by rfl) hS (fun wx hx => by kernel_rfl) ?_
  simp only [Act.put, List.setIfInBounds_toArray, List.set_cons_succ, List.set_cons_zero]
  refine wpS_pure (k := 3) (v := .pointer (some ⟨gm, 0, none⟩)) (by rfl) (by kernel_rfl) (by kernel_rfl) (by kernel_rfl) (by rfl) (some 22) (by rfl) hS (fun wx hx => by kernel_rfl) ?_
  simp only [Act.put, List.setIfInBounds_toArray, List.set_cons_succ, List.set_cons_zero]
  refine wpS_pure (k := 4) (v := .pointer (some ⟨gm, 0, none⟩)) (by rfl) (by kernel_rfl) (by kernel_rfl) (by kernel_rfl) (by rfl) (some 23) (by rfl) hS (fun wx hx => by kernel_rfl) ?_
  simp only [Act.put, List.setIfInBounds_toArray, List.set_cons_succ, List.set_cons_zero]
  refine wpS_one (i := 2) (by kernel_rfl) (opS_call (f := 23) (vs := #[]) (by rfl) (by rfl) (some 21) (by rfl) (by kernel_rfl) (hc.mono ?_))
  rintro e w1 ⟨xa, rfl, ⟨u, hu⟩, hfz, hP⟩
  have hS1 : (fun _ : World => True) w1 := trivial
  refine ⟨_, rfl, hS1, ?_⟩
  simp only [Act.put, List.setIfInBounds_toArray, List.set_cons_succ, List.set_cons_zero]
  refine wpS_pure (k := 5) (v := .pointer (some ⟨gm, k, none⟩)) (by rfl) (by kernel_rfl) (by kernel_rfl) (by kernel_rfl) (by rfl) (some 24) (by rfl) hS1 (fun wx hx => exec_ia (by rfl) (by rfl) (by rfl) (idxX wx gm k hk)) ?_
  simp only [Act.put, List.setIfInBounds_toArray, List.set_cons_succ, List.set_cons_zero]
  refine wpS_one (i := 6) (by kernel_rfl) (opS_skip (w' := w1.setCell ⟨gm, k, none⟩ (.pointer (some ⟨xa, 0, none⟩))) (by rfl) (by rfl) (by rfl) (exec_store (by rfl) (by rfl) (by rfl) (storeX w1 gm k u _ hu hfz)) ?_)
  refine ⟨trivial, ?_⟩
  refine wpAnyH_done (by kernel_rfl) ?_ _
  refine NoPanic.normal ?_
  exact hQ _ _ _ _ _ _ xa w1 hP
set_option maxHeartbeats 2000000 in
theorem clR17_wp {c0 c1 c2 c3 c4 c5 c6 c7 c9 c10 c11 c12 c13 c14 c15 c16 c17 c18 c19 c20 c21 c22 c23 c24 c25 c26 c27 c28 c29 c30 c31 c32 c33 c34 c35 c36 c37 c38 c39 c40 c41 c42 c43 c44 c45 c46 c47 c48 c49 c50 c51 c52 c53 c54 c55 c56 c57 c58 c59 c60 c61 c62 c63 c64 c65 c66 c67 c68 c69 c70 c71 c72 c73 c74 c75 c76 c77 c78 c79 c80 c81 c82 c83 c84 c85 c86 c87 c88 c89 c90 c91 c92 c93 c94 c95 c96 c97 c98 c99 c100 c101 : Value} (gm : Nat) (w : World) (Q : Exit → Act → World → Prop) (Post : Nat → World → Prop)
    (hc : Calls Tryz.prog 23 #[] w.drew fun e w' => ∃ xa, e = .returned (.pointer (some ⟨xa, 0, none⟩)) ∧ (∃ u, w'.cell? ⟨gm, 0, none⟩ = some u) ∧ w'.frozen? ⟨gm, 0, none⟩ = false ∧ Post xa w')
    (hQ : ∀ (u62 u63 u64 u65 u66 : Value) (xa : Nat) (w' : World), Post xa w' → Q .normal ⟨#[c0, c1, c2, c3, c4, c5, c6, c7, .pointer (some ⟨gm, 0, none⟩), c9, c10, c11, c12, c13, c14, c15, c16, c17, c18, c19, c20, c21, c22, c23, c24, c25, c26, c27, c28, c29, c30, c31, c32, c33, c34, c35, c36, c37, c38, c39, c40, c41, c42, c43, c44, c45, c46, c47, c48, c49, c50, c51, c52, c53, c54, c55, c56, c57, c58, c59, c60, c61, u62, u63, u64, u65, u66, c67, c68, c69, c70, c71, c72, c73, c74, c75, c76, c77, c78, c79, c80, c81, c82, c83, c84, c85, c86, c87, c88, c89, c90, c91, c92, c93, c94, c95, c96, c97, c98, c99, c100, c101], []⟩ (w'.setCell ⟨gm, 0, none⟩ (.pointer (some ⟨xa, 0, none⟩)))) :
    Code.wp Tryz.prog (rgn Tryz.f6 17) Q ⟨#[c0, c1, c2, c3, c4, c5, c6, c7, .pointer (some ⟨gm, 0, none⟩), c9, c10, c11, c12, c13, c14, c15, c16, c17, c18, c19, c20, c21, c22, c23, c24, c25, c26, c27, c28, c29, c30, c31, c32, c33, c34, c35, c36, c37, c38, c39, c40, c41, c42, c43, c44, c45, c46, c47, c48, c49, c50, c51, c52, c53, c54, c55, c56, c57, c58, c59, c60, c61, c62, c63, c64, c65, c66, c67, c68, c69, c70, c71, c72, c73, c74, c75, c76, c77, c78, c79, c80, c81, c82, c83, c84, c85, c86, c87, c88, c89, c90, c91, c92, c93, c94, c95, c96, c97, c98, c99, c100, c101], []⟩ w := by
  have hS : (fun _ : World => True) w.drew := trivial
  conv => arg 2; whnf
  refine wp_region_s (fun _ : World => True) (by kernel_rfl) ?_
  refine wpS_pure (k := 0) (v := .pointer (some ⟨gm, 0, none⟩)) (by rfl) (by kernel_rfl) (by kernel_rfl) (by kernel_rfl) (by rfl) (some 62) (by rfl) hS (fun wx hx => by kernel_rfl) ?_
  simp only [Act.put, List.setIfInBounds_toArray, List.set_cons_succ, List.set_cons_zero]
  refine wpS_pure (k := 2) (v := .pointer (some ⟨gm, 0, none⟩)) (by rfl) (by kernel_rfl) (by kernel_rfl) (by kernel_rfl) (by rfl) (some 64) (by rfl) hS (fun wx hx => by kernel_rfl) ?_
  simp only [Act.put, List.setIfInBounds_toArray, List.set_cons_succ, List.set_cons_zero]
  refine wpS_pure (k := 3) (v := .pointer (some ⟨gm, 0, none⟩)) (by rfl) (by kernel_rfl) (by kernel_rfl) (by kernel_rfl) (by rfl) (some 65) (by rfl) hS (fun wx hx => by kernel_rfl) ?_
  simp only [Act.put, List.setIfInBounds_toArray, List.set_cons_succ, List.set_cons_zero]
  refine wpS_one (i := 1) (by kernel_rfl) (opS_call (f := 23) (vs := #[]) (by rfl) (by rfl) (some 63) (by rfl) (by kernel_rfl) (hc.mono ?_))
  rintro e w1 ⟨xa, rfl, ⟨u, hu⟩, hfz, hP⟩
  have hS1 : (fun _ : World => True) w1 := trivial
  refine ⟨_, rfl, hS1, ?_⟩
  simp only [Act.put, List.setIfInBounds_toArray, List.set_cons_succ, List.set_cons_zero]
  refine wpS_pure (k := 4) (v := .pointer (some ⟨gm, 0, none⟩)) (by rfl) (by kernel_rfl) (by kernel_rfl) (by kernel_rfl) (by rfl) (some 66) (by rfl) hS1 (fun wx hx => exec_ia (by rfl) (by rfl) (by rfl) (idxX wx gm 0 (by omega))) ?_
  simp only [Act.put, List.setIfInBounds_toArray, List.set_cons_succ, List.set_cons_zero]
  refine wpS_one (i := 5) (by kernel_rfl) (opS_skip (w' := w1.setCell ⟨gm, 0, none⟩ (.pointer (some ⟨xa, 0, none⟩))) (by rfl) (by rfl) (by rfl) (exec_store (by rfl) (by rfl) (by rfl) (storeX w1 gm 0 u _ hu hfz)) ?_)
  refine ⟨trivial, ?_⟩
  refine wpAnyH_done (by kernel_rfl) ?_ _
  refine NoPanic.normal ?_
  exact hQ _ _ _ _ _ xa w1 hP

/-- A script, as it is handed in. -/
def RawC (w : World) (v : Value) : Prop := ∃ p n c, v = .slice p n c ∧ n ≤ 1048576 ∧ ∀ i, i < n → ∃ (sb so : Nat) (kind on a b : Int) (L : Value) (ss : List ByteArray), p = some ⟨sb, so, none⟩ ∧ w.rangeAt sb (so + i * 5) [.int .i64 kind, .int .i64 on, .int .i64 a, .int .i64 b, L] ∧ -9223372036854775808 ≤ on ∧ on ≤ 9223372036854775807 ∧ -9223372036854775808 ≤ a ∧ a ≤ 9223372036854775807 ∧ ArgS w L ss ∧ ss.length ≤ 1048576
/-- A game at its start. -/
theorem GA.start {B w w' : World} (hb : Below B.heap.size B w) (hB : Blk w' w.heap.size 49 [.pointer none, .pointer none, .pointer none, .pointer none, .pointer none, .pointer none, .slice none 0 0]) (hw : Below w.heap.size w w') : ∃ col, GA B w' w.heap.size (fun _ => none) (fun _ => none) (fun _ => 0) [] (.slice none 0 0) col :=
  ⟨_, _, _, Gm.start hb hB hw, fun _ _ => rfl, fun _ _ => trivial⟩
/-- The document's new log in a game. -/
theorem GA.newY {B w : World} {gm : Nat} {A : Nat → Option AS} {N : Nat → Int} {T : List (List Value)} {av : Value} {col : Nat → Nat} {k : Nat} (G : GA B w gm (upd A k (some ([], []))) A N T av col) (hk : k < 3) :
    ∃ col' q, GA B ((w.alloc (.cells #[.slice none 0 0, .slice none 0 0] 52)).setCell ⟨gm, 3 + k, none⟩ (.pointer (some ⟨w.heap.size, 0, none⟩))) gm (upd A k (some ([], []))) (upd A k (some ([], []))) N T av col' ∧ ((w.alloc (.cells #[.slice none 0 0, .slice none 0 0] 52)).setCell ⟨gm, 3 + k, none⟩ (.pointer (some ⟨w.heap.size, 0, none⟩))).cell? ⟨gm, k, none⟩ = some (.pointer (some q)) := by
  have hb : Below w.heap.size w (w.alloc (.cells #[.slice none 0 0, .slice none 0 0] 52)) := (Below.refl _ _).alloc (Nat.le_refl _) _
  have hB : Blk (w.alloc (.cells #[.slice none 0 0, .slice none 0 0] 52)) w.heap.size 52 [.slice none 0 0, .slice none 0 0] := Blk.new w _ _
  have hy : YS.at ⟨w.heap.size, .slice none 0 0, .slice none 0 0, [], []⟩ (w.alloc (.cells #[.slice none 0 0, .slice none 0 0] 52)) := ⟨hB, World.ownsRow_nil _ _ _ _, World.ownsRow_nil _ _ _ _, fun k hk => by simp [Value.ownBlock] at hk, by simp [Value.ownBlock], by simp [Value.ownBlock]⟩
  have G2 := G.setY hk hb ⟨w.heap.size, .slice none 0 0, .slice none 0 0, [], []⟩ hy (fun j hj => by
    rcases hj with e | e | e | e
    · rw [e]; exact Nat.le_refl _
    · rw [e]; exact Nat.le_refl _
    · simp [Value.ownBlock] at e
    · simp [Value.ownBlock] at e)
  obtain ⟨q, hq⟩ := G2.xq hk
  cases q with
  | none =>
    rcases G2.xcase hk hq with ⟨_, h0, _⟩ | ⟨x, p, e, _⟩
    · rw [upd_same] at h0; cases h0
    · cases e
  | some q => exact ⟨_, q, G2, hq⟩
end Go.Proofs.YtlhohmlpcgbliabGreatDoor
namespace Go.Proofs.YtlhohmlpcgbliabGreatDoor
set_option maxRecDepth 100000
open Go.RowKit
attribute [local go_sem ↓] Go.wp_at_zero Go.wp_at_succ

set_option maxHeartbeats 8000000 in
theorem calls_walk (v : Value) (w : World) (hv : RawC w v) (ht : Table w) (hg : 2 < w.heap.size) :
    Calls Tryz.prog 6 #[v] w fun e w' => e = .returned (.bool true) ∧ Below w.heap.size w w' := by
  obtain ⟨p, n, c, rfl, hn, hC⟩ := hv
  have HC := KA.hid hC
  clear hC
  have hB0 : Blk (w.alloc (.cells #[.pointer none, .pointer none, .pointer none, .pointer none, .pointer none, .pointer none, .slice none 0 0] 49)) w.heap.size 49 [.pointer none, .pointer none, .pointer none, .pointer none, .pointer none, .pointer none, .slice none 0 0] := Blk.new w _ _
  have hb0 : Below w.heap.size w (w.alloc (.cells #[.pointer none, .pointer none, .pointer none, .pointer none, .pointer none, .pointer none, .slice none 0 0] 49)) := (Below.refl _ _).alloc (Nat.le_refl _) _
  obtain ⟨col0, G0⟩ := GA.start (Below.refl _ _) hB0 hb0
  clear hB0 hb0
  go_enter Tryz.func6, Tryz.ntmps6
  go_wp2_with fail
  generalize w.alloc (.cells #[.pointer none, .pointer none, .pointer none, .pointer none, .pointer none, .pointer none, .slice none 0 0] 49) = w0 at *
  go_loopw [4] (fun v wr => ∃ k : Nat, k ≤ 2 ∧ v = .int .i64 (k : Int) ∧ ∃ A N col, GA w wr w.heap.size A A N [] (.slice none 0 0) col) (fun v _ => 2 - (intOf v).toNat)
  case atStart => exact ⟨0, by omega, rfl, _, _, _, G0⟩
  case round =>
    obtain ⟨k, hk, rfl, A, N, col, G⟩ := hrel
    clear G0
    by_cases h8 : k < 2
    · have h3 : k < 3 := by omega
      have hki : (k : Int) < 2 := by omega
      have hbd : Below wr.heap.size wr wr.drew := (Below.refl wr.heap.size wr).drew
      have Gd := G.below hbd 0
      go_wp2_with fail
      refine clR5_wp w.heap.size k wr _ (fun xa w' => ∃ N' col', GA w (w'.setCell ⟨w.heap.size, k, none⟩ (.pointer (some ⟨xa, 0, none⟩))) w.heap.size (upd A k (some ([], []))) A N' [] (.slice none 0 0) col') h3 (Gd.new h3 ht hg) ?_
      intro u19 u20 u21 u22 u23 u24 xa w1 ⟨N1, col1, G1⟩
      clear G Gd hbd
      generalize w1.setCell ⟨w.heap.size, k, none⟩ (.pointer (some ⟨xa, 0, none⟩)) = w2 at *
      have hiy := fun wx => idxY wx w.heap.size k h3
      have hix := fun wx => idxX wx w.heap.size k h3
      have hal : Below w2.heap.size w2 (w2.alloc (.cells #[.slice none 0 0, .slice none 0 0] 52)) := (Below.refl _ _).alloc (Nat.le_refl _) _
      have Ga := G1.below hal 0
      obtain ⟨q2, hq2⟩ := Ga.yq h3
      have hfz := Ga.frozen (3 + k)
      obtain ⟨col3, q3, G3, hq3⟩ := G1.newY h3
      clear Ga hal G1
      go_wp2
      go_roundw
      case rel => exact ⟨k + 1, by omega, by go_num, _, _, _, G3⟩
      case measure => simp [intOf]; omega
    · have hk8 : ¬ (k : Int) < 2 := by omega
      have HG := KA.hid G
      clear G h8 hk
      generalize (k : Int) = kv at *
      go_wp2_with fail
      go_loopw [5] (fun v wr => ∃ i : Nat, i ≤ n ∧ v = .int .i64 (i : Int) ∧ ∃ A N T av col, GA w wr w.heap.size A A N T av col ∧ T.length ≤ i) (fun v _ => n - (intOf v).toNat)
      case atStart => exact ⟨0, by omega, rfl, _, _, _, _, _, HG.out, by simp⟩
      case round =>
        obtain ⟨i, hi, rfl, A', N', T', av', col', G', hT'⟩ := hrel
        clear HG
        by_cases h9 : i < n
        · obtain ⟨sb, so, kind, on, a, b, L, ss, rfl, hrg, ho1, ho2, ha1, ha2, hA, hss⟩ := HC.out i h9
          have hbw := G'.bel
          have hsb : sb < w.heap.size := World.block_lt_of_cell? _ _ (hrg 0 _ rfl)
          have hrg' : wr.rangeAt sb (so + i * 5) [.int .i64 kind, .int .i64 on, .int .i64 a, .int .i64 b, L] := fun j v hj => by
            rw [hbw.cell (p := ⟨sb, so + i * 5 + j, none⟩) hsb]
            exact hrg j v hj
          have e0 := hrg' 0 _ rfl
          have e1 := hrg' 1 _ rfl
          have e2 := hrg' 2 _ rfl
          have e3 := hrg' 3 _ rfl
          have e4 := hrg' 4 _ rfl
          rw [Nat.add_zero] at e0
          have hA' : ArgS wr L ss := hA.keep fun _ j _ hj => hbw.block j hj
          have hLc : ss ≠ [] → ∀ j, L.ownBlock = some j → j < wr.heap.size ∧ col' j = 0 := fun hne j hj => by
            have hjl : j < w.heap.size := by
              rcases hA with ⟨_, h0⟩ | ⟨ad, cl, h1, h2⟩
              · exact absurd h0 hne
              · obtain ⟨s, hs⟩ : ∃ s, ss[0]? = some s := ⟨_, List.getElem?_eq_getElem (List.length_pos_iff.2 hne)⟩
                have hl := World.block_lt_of_cell? _ _ (h2 0 s hs)
                rw [addr_add_block] at hl
                rw [h1] at hj
                simp [Value.ownBlock] at hj
                omega
            refine ⟨Nat.lt_of_lt_of_le hjl hbw.size, ?_⟩
            by_cases hz : col' j = 0
            · exact hz
            · have := G'.low j hz
              omega
          have hcl := gcall_any G' ht hg kind on a b ho1 ho2 ha1 ha2 L ss hA' hLc (by omega) i (by omega) (by omega)
          obtain ⟨pl, cl, hpl⟩ := hA'.shape
          subst hpl
          unfold callV at hcl
          have hni : (i : Int) < (n : Int) := by omega
          clear hrg hrg' hA hA' hLc hsb
          go_wp2_with fail
          refine hcl.mono ?_
          rintro e w2 ⟨rfl, A2, N2, T2, av2, col2, G2, hT2⟩
          clear hcl e0 e1 e2 e3 e4 G'
          go_wp2_with fail
          refine (stay_any G2 (by omega)).mono ?_
          rintro e w3 ⟨rfl, hb3⟩
          have G3 := G2.below hb3 0
          clear G2 hb3
          go_wp2
          go_roundw
          case rel => exact ⟨i + 1, by omega, by go_num, _, _, _, _, _, G3, by omega⟩
          case measure => simp [intOf]; omega
        · have hi9 : i = n := by omega
          subst hi9
          have hbw := G'.bel
          have hB1 : Blk (wr.alloc (.cells #[.pointer none, .pointer none, .pointer none, .pointer none, .pointer none, .pointer none, .slice none 0 0] 49)) wr.heap.size 49 [.pointer none, .pointer none, .pointer none, .pointer none, .pointer none, .pointer none, .slice none 0 0] := Blk.new wr _ _
          have hb1 : Below wr.heap.size wr (wr.alloc (.cells #[.pointer none, .pointer none, .pointer none, .pointer none, .pointer none, .pointer none, .slice none 0 0] 49)) := (Below.refl _ _).alloc (Nat.le_refl _) _
          obtain ⟨col1, G1⟩ := GA.start hbw hB1 hb1
          clear G' hB1 hb1 hbw HC
          have hix0 : ∀ wx, (Instr.indexAt 44 (.pointer (some ⟨wr.heap.size, 0, none⟩)) (.int .i64 0)).run Tryz.prog wx = .ok (.pointer (some ⟨wr.heap.size, 0, none⟩)) wx := fun wx => idxX wx wr.heap.size 0 (by omega)
          have hiy0 : ∀ wx, (Instr.indexAt 46 (.pointer (some ⟨wr.heap.size, 3, none⟩)) (.int .i64 0)).run Tryz.prog wx = .ok (.pointer (some ⟨wr.heap.size, 3, none⟩)) wx := fun wx => idxY wx wr.heap.size 0 (by omega)
          go_wp2_with fail
          generalize wr.alloc (.cells #[.pointer none, .pointer none, .pointer none, .pointer none, .pointer none, .pointer none, .slice none 0 0] 49) = w1 at *
          have hbd : Below w1.heap.size w1 w1.drew := (Below.refl w1.heap.size w1).drew
          have Gd := G1.below hbd 0
          refine clR17_wp wr.heap.size w1 _ (fun xa w' => ∃ N' col', GA w (w'.setCell ⟨wr.heap.size, 0, none⟩ (.pointer (some ⟨xa, 0, none⟩))) wr.heap.size (upd (fun _ => none) 0 (some ([], []))) (fun _ => none) N' [] (.slice none 0 0) col') (Gd.new (k := 0) (by omega) ht hg) ?_
          intro u62 u63 u64 u65 u66 xa w2 ⟨N2, col2, G2⟩
          clear G1 Gd hbd
          generalize w2.setCell ⟨wr.heap.size, 0, none⟩ (.pointer (some ⟨xa, 0, none⟩)) = w3 at *
          have hal : Below w3.heap.size w3 (w3.alloc (.cells #[.slice none 0 0, .slice none 0 0] 52)) := (Below.refl _ _).alloc (Nat.le_refl _) _
          have Ga := G2.below hal 0
          obtain ⟨q3, hq3⟩ := Ga.yq (k := 0) (by omega)
          rw [Nat.add_zero] at hq3
          have hfz := Ga.frozen 3
          obtain ⟨col4, q4, G4, hq4⟩ := G2.newY (by omega)
          rw [Nat.add_zero] at G4 hq4
          clear Ga hal G2
          go_wp2_with fail
          have hz : ((w3.alloc (.cells #[.slice none 0 0, .slice none 0 0] 52)).setCell ⟨wr.heap.size, 3, none⟩ (.pointer (some ⟨w3.heap.size, 0, none⟩))).heap.size = w3.heap.size + 1 := by simp [World.setCell]
          clear hq3 hfz
          have hal5 : Below ((w3.alloc (.cells #[.slice none 0 0, .slice none 0 0] 52)).setCell ⟨wr.heap.size, 3, none⟩ (.pointer (some ⟨w3.heap.size, 0, none⟩))).heap.size ((w3.alloc (.cells #[.slice none 0 0, .slice none 0 0] 52)).setCell ⟨wr.heap.size, 3, none⟩ (.pointer (some ⟨w3.heap.size, 0, none⟩))) (((w3.alloc (.cells #[.slice none 0 0, .slice none 0 0] 52)).setCell ⟨wr.heap.size, 3, none⟩ (.pointer (some ⟨w3.heap.size, 0, none⟩))).alloc (.cells #[.string ⟨#[97]⟩, .string ⟨#[98]⟩, .string ⟨#[99]⟩] 9)) := (Below.refl _ _).alloc (Nat.le_refl _) _
          have hB5 : Blk (((w3.alloc (.cells #[.slice none 0 0, .slice none 0 0] 52)).setCell ⟨wr.heap.size, 3, none⟩ (.pointer (some ⟨w3.heap.size, 0, none⟩))).alloc (.cells #[.string ⟨#[97]⟩, .string ⟨#[98]⟩, .string ⟨#[99]⟩] 9)) ((w3.alloc (.cells #[.slice none 0 0, .slice none 0 0] 52)).setCell ⟨wr.heap.size, 3, none⟩ (.pointer (some ⟨w3.heap.size, 0, none⟩))).heap.size 9 [.string ⟨#[97]⟩, .string ⟨#[98]⟩, .string ⟨#[99]⟩] := Blk.new _ _ _
          generalize ((w3.alloc (.cells #[.slice none 0 0, .slice none 0 0] 52)).setCell ⟨wr.heap.size, 3, none⟩ (.pointer (some ⟨w3.heap.size, 0, none⟩))) = w5 at *
          have G5 := G4.below hal5 0
          generalize hw6 : w5.alloc (.cells #[.string ⟨#[97]⟩, .string ⟨#[98]⟩, .string ⟨#[99]⟩] 9) = w6 at *
          rw [hz] at hB5
          have hA5 : ArgS w6 (.slice (some ⟨w3.heap.size + 1, 0, none⟩) 3 3) [⟨#[97]⟩, ⟨#[98]⟩, ⟨#[99]⟩] := .inr ⟨⟨w3.heap.size + 1, 0, none⟩, 3, rfl, fun i s hs => by
            rw [Addr.add_mid, Nat.zero_add, hB5.cell]
            match i, hs with
            | 0, hs => simp at hs ⊢; exact hs
            | 1, hs => simp at hs ⊢; exact hs
            | 2, hs => simp at hs ⊢; exact hs
            | i + 3, hs => simp at hs⟩
          have hlc5 : [⟨#[97]⟩, ⟨#[98]⟩, ⟨#[99]⟩] ≠ ([] : List ByteArray) → ∀ j, (Value.slice (some ⟨w3.heap.size + 1, 0, none⟩) 3 3).ownBlock = some j → j < w6.heap.size ∧ ncol col4 w5.heap.size 0 j = 0 := fun _ j hj => by
            simp [Value.ownBlock] at hj
            subst hj
            exact ⟨hB5.lt, ncol_new (by omega)⟩
          have h0 : Calls Tryz.prog 24 #[.pointer (some ⟨wr.heap.size, 0, none⟩), .agg #[.int .i64 1, .int .i64 0, .int .i64 0, .int .i64 0, .slice (some ⟨w3.heap.size + 1, 0, none⟩) 3 3], .int .i64 0] w6 fun e w' => e = .returned (.bool true) ∧ Done w wr.heap.size [] w' := gcall_any G5 ht hg 1 0 0 0 (by omega) (by omega) (by omega) (by omega) (.slice (some ⟨w3.heap.size + 1, 0, none⟩) 3 3) [⟨#[97]⟩, ⟨#[98]⟩, ⟨#[99]⟩] hA5 hlc5 (by simp) 0 (by omega) (by simp)
          clear hw6 hal5 hB5 hA5 hlc5 G4 hq4
          refine h0.mono ?_
          rintro e w7 ⟨rfl, A7, N7, T7, av7, col7, G7, hT7⟩
          clear h0 G5
          have h1 : Calls Tryz.prog 24 #[.pointer (some ⟨wr.heap.size, 0, none⟩), .agg #[.int .i64 2, .int .i64 0, .int .i64 0, .int .i64 0, .slice none 0 0], .int .i64 1] w7 fun e w' => e = .returned (.bool true) ∧ Done w wr.heap.size T7 w' := gcall_any G7 ht hg 2 0 0 0 (by omega) (by omega) (by omega) (by omega) (.slice none 0 0) [] (.inl ⟨rfl, rfl⟩) (fun h => absurd rfl h) (by simp) 1 (by omega) (by simp only [List.length_nil] at *; omega)
          go_wp2_with fail
          refine h1.mono ?_
          rintro e w8 ⟨rfl, A8, N8, T8, av8, col8, G8, hT8⟩
          clear h1 G7
          have h2 : Calls Tryz.prog 24 #[.pointer (some ⟨wr.heap.size, 0, none⟩), .agg #[.int .i64 9, .int .i64 0, .int .i64 0, .int .i64 0, .slice none 0 0], .int .i64 2] w8 fun e w' => e = .returned (.bool true) ∧ Done w wr.heap.size T8 w' := gcall_any G8 ht hg 9 0 0 0 (by omega) (by omega) (by omega) (by omega) (.slice none 0 0) [] (.inl ⟨rfl, rfl⟩) (fun h => absurd rfl h) (by simp) 2 (by omega) (by simp only [List.length_nil] at *; omega)
          go_wp2_with fail
          refine h2.mono ?_
          rintro e w9 ⟨rfl, A9, N9, T9, av9, col9, G9, hT9⟩
          clear h2 G8
          have h3 : Calls Tryz.prog 24 #[.pointer (some ⟨wr.heap.size, 0, none⟩), .agg #[.int .i64 5, .int .i64 0, .int .i64 2, .int .i64 3, .slice none 0 0], .int .i64 3] w9 fun e w' => e = .returned (.bool true) ∧ Done w wr.heap.size T9 w' := gcall_any G9 ht hg 5 0 2 3 (by omega) (by omega) (by omega) (by omega) (.slice none 0 0) [] (.inl ⟨rfl, rfl⟩) (fun h => absurd rfl h) (by simp) 3 (by omega) (by simp only [List.length_nil] at *; omega)
          go_wp2_with fail
          refine h3.mono ?_
          rintro e w10 ⟨rfl, A10, N10, T10, av10, col10, G10, hT10⟩
          have hfin := G10.bel
          clear h3 G9 G10
          go_wp2
          go_ret
          exact ⟨rfl, hfin⟩
end Go.Proofs.YtlhohmlpcgbliabGreatDoor
namespace Go.Proofs.YtlhohmlpcgbliabGreatDoor
set_option maxRecDepth 100000
open Go.ChangeShapes Go.WideShapes Go.ChangeAt Go.RowKit

theorem spotY_none {w : World} {a : Addr} {v : Value} (h0 : w.cell? (a.add 0) = some v) : a.spot = none := by
  obtain ⟨b, o, sp⟩ := a
  simp only [Addr.add, if_true, World.cell?] at h0
  split at h0
  · cases sp with
    | none => rfl
    | some x => simp at h0
  · cases h0
theorem bulk_agg {H : Type} {d : DataW H} {l : List (DataW H)} (h : d ∈ l) : Rows.uptoBulk d < Rows.uptoBulk (.agg l) := by
  have := bulk_part h
  simp only [Rows.uptoBulk]
  omega

/-- An argument that is a script of calls. -/
theorem arg_calls {H : Type} {enc : TypeId × Value → H} {W : World} {base : Nat} {v : Value} {d : DataW H} {p : List MemPlace} (hv : Value.okWide Tryz.prog W .any base 24 v)
    (h : DataW.Trod enc Tryz.prog W 0 (fun _ => true) true 24 v d p) (hbk : Rows.uptoBulk d ≤ 1048576) : RawC W v := by
  obtain ⟨a, len, cap, rfl⟩ := okWide_slice Tryz.underlying24 hv
  obtain ⟨fuel, hf⟩ := h
  rcases Deep.open_slice Tryz.underlying24 hf with ⟨hc, hx⟩ | ⟨a', len', cap', m, n, D, Pl, hc, _, hl, _, hm, hx, hcell⟩
  · simp only [Value.cells, List.cons.injEq, and_true] at hc
    exact ⟨_, _, _, hc, by omega, fun i hi => by omega⟩
  · simp only [Value.cells, List.cons.injEq, and_true] at hc
    have ce : Tryz.prog.cellsOf 55 = 5 := by kernel_rfl
    have ci : Tryz.prog.cellsOf 3 = 1 := by kernel_rfl
    have cl : Tryz.prog.cellsOf 22 = 1 := by kernel_rfl
    rw [ce] at hcell
    have hlm : len' ≤ m := by rw [hm]; split <;> omega
    cases hx
    have hbl := bulk_length ((List.range len').map D)
    have hbe : ∀ i, i < len' → Rows.uptoBulk (D i) ≤ 1048576 := fun i hi => by
      have := bulk_part (List.mem_map_of_mem (f := D) (List.mem_range.2 hi))
      simp only [Rows.uptoBulk] at hbk
      omega
    refine ⟨_, _, _, hc, ?_, fun i hi => ?_⟩
    · simp only [Rows.uptoBulk] at hbk
      simp only [List.length_map, List.length_range] at hbl
      omega
    · have hs : a'.spot = none := by
        obtain ⟨cs0, h01, _⟩ := hcell 0 (by omega)
        obtain ⟨_, hlen0, hc0⟩ := World.cells?_some h01
        have := hc0 0 (by omega)
        rw [Deep.add_add, List.getElem?_eq_getElem (by omega)] at this
        simp only [Nat.zero_mul, Nat.zero_add] at this
        exact spotY_none this
      obtain ⟨sb, so, sp⟩ := a'
      obtain rfl : sp = none := hs
      obtain ⟨cs', h1, h2⟩ := hcell i (by omega)
      obtain ⟨_, hlen, hc1⟩ := World.cells?_some h1
      obtain ⟨xs, k, hk, hxy, _, hxl, hfd⟩ := DataW.trod_struct Tryz.underlying55 h2
      match xs, hxl, cs', hlen with
      | [y0, y1, y2, y3, y4], _, [v0, v1, v2, v3, v4], _ =>
        have g0 := hfd 0 _ rfl
        have g1 := hfd 1 _ rfl
        have g2 := hfd 2 _ rfl
        have g3 := hfd 3 _ rfl
        have g4 := hfd 4 _ rfl
        simp [ci, cl] at g0 g1 g2 g3 g4
        obtain ⟨z0, hz0, _, _⟩ := DataW.trod_int Tryz.underlying3 g0
        obtain ⟨z1, hz1, _, hw1⟩ := DataW.trod_int Tryz.underlying3 g1
        obtain ⟨z2, hz2, _, hw2⟩ := DataW.trod_int Tryz.underlying3 g2
        obtain ⟨z3, hz3, _, _⟩ := DataW.trod_int Tryz.underlying3 g3
        have e0 : v0 = .int .i64 z0 := by simpa using hz0
        have e1 : v1 = .int .i64 z1 := by simpa using hz1
        have e2 : v2 = .int .i64 z2 := by simpa using hz2
        have e3 : v3 = .int .i64 z3 := by simpa using hz3
        subst e0 e1 e2 e3
        simp only [Lit.wf, Bool.and_eq_true, decide_eq_true_eq] at hw1 hw2
        have hrange : W.rangeAt sb (so + i * 5) [.int .i64 z0, .int .i64 z1, .int .i64 z2, .int .i64 z3, v4] := fun j u hj => by
          have hj5 : j < 5 := (List.getElem?_eq_some_iff.1 hj).1
          have := hc1 j hj5
          rw [Addr.add_mid, Addr.add_mid, hj] at this
          exact this
        have hD : D i = .agg [y0.1, y1.1, y2.1, y3.1, y4.1] := by
          have := congrArg Prod.fst hxy
          simpa using this
        have hb4 : Rows.uptoBulk y4.1 < 1048576 := by
          have h5 := hbe i hi
          rw [hD] at h5
          have := bulk_agg (d := y4.1) (l := [y0.1, y1.1, y2.1, y3.1, y4.1]) (by simp)
          omega
        rcases Deep.open_strs Tryz.underlying22 Tryz.underlying9 (by kernel_rfl) g4 with ⟨hc4, _⟩ | ⟨a4, len4, cap4, m4, Sx, hc4, _, hl4, _, hm4, hx4, hcell4⟩
        · simp only [List.cons.injEq, and_true] at hc4
          exact ⟨sb, so, z0, z1, z2, z3, v4, [], rfl, hrange, hw1.1, hw1.2, hw2.1, hw2.2, .inl ⟨hc4, rfl⟩, by simp⟩
        · simp only [List.cons.injEq, and_true] at hc4
          have hlm4 : len4 ≤ m4 := by rw [hm4]; split <;> omega
          refine ⟨sb, so, z0, z1, z2, z3, v4, (List.range len4).map Sx, rfl, hrange, hw1.1, hw1.2, hw2.1, hw2.2, .inr ⟨a4, cap4, by simpa using hc4, fun j s hs => ?_⟩, ?_⟩
          · rw [List.getElem?_map, Option.map_eq_some_iff] at hs
            obtain ⟨j', hj', rfl⟩ := hs
            obtain ⟨hj1, rfl⟩ := List.getElem?_eq_some_iff.1 hj'
            rw [List.length_range] at hj1
            rw [List.getElem_range]
            exact (hcell4 j (by omega)).1
          · have hy4 : y4.1 = .slice ((List.range len4).map fun i => .lit (.string (Sx i).data.toList)) ((List.range (m4 - len4)).map fun j => .lit (.string (Sx (len4 + j)).data.toList)) := by rw [hx4]
            rw [hy4] at hb4
            have := bulk_length ((List.range len4).map fun i => DataW.lit (H := H) (.string (Sx i).data.toList))
            simp only [Rows.uptoBulk] at hb4
            simp only [List.length_map, List.length_range] at this ⊢
            omega
end Go.Proofs.YtlhohmlpcgbliabGreatDoor
namespace Go.Proofs.YtlhohmlpcgbliabGreatDoor
set_option maxRecDepth 100000
open Go.RowKit
attribute [local go_sem ↓] Go.wp_at_zero Go.wp_at_succ

theorem rawI_below {w w' : World} {v : Value} (h : RawI w v) (hb : Below w.heap.size w w') : RawI w' v := by
  obtain ⟨p, rn, rc, h1, h2⟩ := h
  refine ⟨p, rn, rc, h1, fun i hi => ?_⟩
  obtain ⟨b, o, c, h4, h5, h6⟩ := h2 i hi
  exact ⟨b, o, c, h4, by rw [hb.cell (World.block_lt_of_cell? _ _ h5)]; exact h5, h6⟩
theorem RawC.below {w w' : World} {v : Value} (h : RawC w v) (hb : Below w.heap.size w w') : RawC w' v := by
  obtain ⟨p, n, c, h1, h2, h3⟩ := h
  refine ⟨p, n, c, h1, h2, fun i hi => ?_⟩
  obtain ⟨sb, so, kind, on, a, b, L, ss, h4, h5, h6, h7, h8, h9, h10, h11⟩ := h3 i hi
  refine ⟨sb, so, kind, on, a, b, L, ss, h4, fun j u hj => ?_, h6, h7, h8, h9, h10.keep fun _ j _ hj => hb.block j hj, h11⟩
  have := h5 j u hj
  rw [hb.cell (World.block_lt_of_cell? _ _ this)]
  exact this

set_option maxHeartbeats 2000000 in
/-- All of them, one behind the other. -/
theorem all_walk (v raw script : Value) (ss : List ByteArray) (other : ByteArray) (w : World) (hS : ArgS w v ss) (hn : ss.length ≤ 1048576) (hz : ∀ s ∈ ss, s.size ≤ 1048576) (hR : RawI w raw) (ho : other.size ≤ 1048576) (hC : RawC w script)
    (ht : Table w) (hg : 2 < w.heap.size) (hT : TabAt 1 Lib.deBruijn64tab w) :
    Calls Tryz.prog 3 #[v, raw, .string other, script] w fun e w' => e = .returned (.bool true) ∧ Below w.heap.size w w' := by
  have T : ∀ wx, Below w.heap.size w wx → Table wx ∧ 2 < wx.heap.size := fun wx hx => ⟨table_at hx hg ht, Nat.lt_of_lt_of_le hg hx.size⟩
  have A : ∀ wx, Below w.heap.size w wx → ArgS wx v ss := fun wx hx => hS.keep fun _ j _ hj => hx.block j hj
  have H1 := KA.hid (fun wx (hx : Below w.heap.size w wx) => hashes_any other ⟨#[120]⟩ v ss wx ho (by decide) (A wx hx) hn hz (T wx hx).1 (T wx hx).2)
  have H2 := KA.hid (fun wx (hx : Below w.heap.size w wx) => paths_any v raw ss other wx (A wx hx).strs hn hz (rawI_below hR hx) ho (T wx hx).1 (T wx hx).2 (tabAt_below hx hT))
  have H3 := KA.hid (fun wx (hx : Below w.heap.size w wx) => calls_walk script wx (hC.below hx) (T wx hx).1 (T wx hx).2)
  have H4 := KA.hid (fun wx (hx : Below w.heap.size w wx) => hashes_any ⟨#[121]⟩ other v ss wx (by decide) ho (A wx hx) hn hz (T wx hx).1 (T wx hx).2)
  clear T A hS hn hz hR hC ht hg hT ho
  go_enter Tryz.func3, Tryz.ntmps3
  go_wp2_with fail
  refine (H1.out w (Below.refl _ _)).mono ?_
  rintro e w1 ⟨rfl, hb1⟩
  go_wp2_with fail
  refine (H2.out w1 hb1).mono ?_
  rintro e w2 ⟨rfl, h2⟩
  have hb2 := hb1.trans (h2.mono hb1.size)
  go_wp2_with fail
  refine (H3.out w2 hb2).mono ?_
  rintro e w3 ⟨rfl, h3⟩
  have hb3 := hb2.trans (h3.mono hb2.size)
  go_wp2_with fail
  refine (H4.out w3 hb3).mono ?_
  rintro e w4 ⟨rfl, h4⟩
  have hb4 := hb3.trans (h4.mono hb3.size)
  go_wp2
  go_ret
  exact ⟨rfl, hb4⟩
end Go.Proofs.YtlhohmlpcgbliabGreatDoor
