import Derived.Test.YtlhohmlpcgbliaaGreatDoorZT3
import Derived.Deep.AppendLies
import Derived.Test.YtlhohmlpcgbliaaGreatDoorZQ3
import Derived.Test.YtlhohmlpcgbliaaGreatDoorZX14
import Derived.Test.YtlhohmlpcgbliaaGreatDoorZR2
namespace Go.Proofs.YtlhohmlpcgbliaaGreatDoor
set_option maxRecDepth 100000
open Go.RowKit
attribute [local go_sem ↓] Go.wp_at_zero Go.wp_at_succ

/-- Which of n things the number c speaks of. -/
def pickV (c : Int) (n : Nat) : Nat := (if c < 0 then -(c + 1) else c).toNat % n
theorem pickV_lt (c : Int) (n : Nat) (h : 1 ≤ n) : pickV c n < n := Nat.mod_lt _ h

set_option maxHeartbeats 400000 in
theorem pick_any (c : Int) (n : Nat) (w : World) (h1 : -9223372036854775808 ≤ c) (h2 : c ≤ 9223372036854775807) (hn : 1 ≤ n) (hn2 : n ≤ 1000000000000) :
    Calls Tryz.prog 8 #[.int .i64 c, .int .i64 (n : Int)] w fun e w' => e = .returned (.int .i64 (pickV c n : Nat)) ∧ w' = w := by
  have hz : ((n : Int) == 0) = false := by simp; omega
  by_cases hc : c < 0
  · have HP : Aside (-((c + 1).tmod (n : Int)) = ((pickV c n : Nat) : Int)) := by
      show _ = _
      rw [← Int.neg_tmod, Int.tmod_eq_emod_of_nonneg (by omega), pickV, if_pos hc, Int.natCast_emod, Int.toNat_of_nonneg (by omega)]
    go_enter Tryz.func8, Tryz.ntmps8
    go_wp2
    go_ret
    rw [← HP.out]
    exact ⟨rfl, rfl⟩
  · have HP : Aside (c % (n : Int) = ((pickV c n : Nat) : Int)) := by
      show _ = _
      rw [pickV, if_neg hc, Int.natCast_emod, Int.toNat_of_nonneg (by omega)]
    go_enter Tryz.func8, Tryz.ntmps8
    go_wp2
    go_ret
    rw [← HP.out]
    exact ⟨rfl, rfl⟩

/-- A list that the law may hand on: it reads as an argument does, and has room. -/
def LA (w : World) (v : Value) (ss : List ByteArray) : Prop := ArgS w v ss ∧ Lst w v ss
theorem LA.of_block {w : World} {g cap : Nat} {ss : List ByteArray} (hc : ss.length ≤ cap) (h : ∀ (j : Nat) s, ss[j]? = some s → w.cell? ⟨g, j, none⟩ = some (.string s)) : LA w (.slice (some ⟨g, 0, none⟩) ss.length cap) ss :=
  ⟨.inr ⟨_, _, rfl, fun j s hs => by rw [Addr.add_mid, Nat.zero_add]; exact h j s hs⟩, ⟨_, _, rfl, hc, fun j s hs => ⟨_, _, rfl, by rw [Nat.zero_add]; exact h j s hs⟩⟩⟩
theorem LA.nil (w : World) : LA w (.slice none 0 0) [] := ⟨.inl ⟨rfl, rfl⟩, ⟨_, _, rfl, Nat.le_refl _, fun j s hs => by simp at hs⟩⟩
theorem LA.of_row {w : World} {base : Nat} {v : Value} {ss : List ByteArray} (h : Row w base 9 v (strv ss)) : LA w v ss := by
  obtain ⟨h1, h2⟩ := h
  rcases h2 with ⟨rfl, h0⟩ | ⟨g, cap, cur, rfl, hb, hg, hn, hm, hs, ht⟩
  · have : ss = [] := List.eq_nil_of_length_eq_zero (by simpa using h0)
    subst this
    exact LA.nil w
  · rw [strv_length] at hn ht ⊢
    refine LA.of_block hn fun j s hj => ?_
    have hlt : j < ss.length := (List.getElem?_eq_some_iff.1 hj).1
    have : (strv ss)[j]? = cur.toList[j]? := by rw [← ht, List.getElem?_take_of_lt (by omega)]
    have hv : cur.toList[j]? = some (.string s) := by rw [← this, strv, List.getElem?_map, hj]; rfl
    simp [World.cell?, hg] at hv ⊢
    exact hv
theorem LA.below {w w' : World} {v : Value} {ss : List ByteArray} (h : LA w v ss) (hb : Below w.heap.size w w') : LA w' v ss := by
  refine ⟨?_, h.2.below hb⟩
  rcases h.1 with h1 | ⟨a, c, h1, h2⟩
  · exact .inl h1
  · exact .inr ⟨a, c, h1, fun i s hs => by rw [hb.cell (World.block_lt_of_cell? _ _ (h2 i s hs))]; exact h2 i s hs⟩
end Go.Proofs.YtlhohmlpcgbliaaGreatDoor
namespace Go.Proofs.YtlhohmlpcgbliaaGreatDoor
set_option maxRecDepth 100000
open Go.RowKit
attribute [local go_sem ↓] Go.wp_at_zero Go.wp_at_succ

/-- A list that reads as its mark. -/
def MK (w : World) (v : Value) (mk : ByteArray) : Prop := ∃ p n c, v = .slice p n c ∧ n ≤ 1000000000000 ∧ ∀ i, i < n → ∃ b o, p = some ⟨b, o, none⟩ ∧ w.cell? ⟨b, o + i, none⟩ = some (.string mk)

set_option maxHeartbeats 1000000 in
theorem marked_any (v : Value) (mk : ByteArray) (w : World) (h : MK w v mk) : Calls Tryz.prog 22 #[v, .string mk] w fun e w' => e = .returned (.bool true) ∧ w' = w := by
  obtain ⟨p, n, c, rfl, hn, hC⟩ := h
  have HC : Hid (∀ i, i < n → ∃ b o, p = some ⟨b, o, none⟩ ∧ w.cell? ⟨b, o + i, none⟩ = some (.string mk)) := hC
  clear hC
  go_enter Tryz.func22, Tryz.ntmps22
  try go_wp2
  go_loopw [5] (fun v wr => ∃ k : Nat, k ≤ n ∧ v = .int .i64 (k : Int) ∧ wr = w) (fun v _ => n - (intOf v).toNat)
  case atStart => exact ⟨0, by omega, rfl, rfl⟩
  case round =>
    obtain ⟨k, hk, rfl, rfl⟩ := hrel
    by_cases h8 : k < n
    · obtain ⟨b, o, rfl, hcell⟩ := HC.out k h8
      go_wp2
      go_roundw
      case rel => exact ⟨k + 1, by omega, by go_num, trivial⟩
      case measure => simp [intOf]; omega
    · have hk8 : k = n := by omega
      subst hk8
      go_wp2
      go_ret
      exact ⟨rfl, rfl⟩

set_option maxHeartbeats 400000 in
theorem sameR6_wp {c2 c3 c4 c6 c7 c8 c9 c10 c11 c12 c13 c14 c15 c16 c17 c18 c19 c20 c21 c22 c23 c24 c25 : Value} (b o dx b2 o2 dy n k : Nat) (s : ByteArray) (w : World) (Q : Exit → Act → World → Prop) (hk : k < n) (h1 : w.cell? ⟨b, o + k, none⟩ = some (.string s)) (h2 : w.cell? ⟨b2, o2 + k, none⟩ = some (.string s))
    (hQ : ∀ (u17 u18 u19 u20 u21 u22 u23 u24 : Value) (d : Nat), Q .normal ⟨#[.slice (some ⟨b, o, none⟩) n dx, .slice (some ⟨b2, o2, none⟩) n dy, c2, c3, c4, .int .i64 (k : Int), c6, c7, c8, c9, c10, c11, c12, c13, c14, c15, c16, u17, u18, u19, u20, u21, u22, u23, u24, .bool false], []⟩ (w.drewN d)) :
    Code.wp Tryz.prog (rgn Tryz.f17 6) Q ⟨#[.slice (some ⟨b, o, none⟩) n dx, .slice (some ⟨b2, o2, none⟩) n dy, c2, c3, c4, .int .i64 (k : Int), c6, c7, c8, c9, c10, c11, c12, c13, c14, c15, c16, c17, c18, c19, c20, c21, c22, c23, c24, c25], []⟩ w := by
  conv => arg 2; whnf
  refine wp_region_quiet_lit (by kernel_rfl) (by kernel_rfl) (WQ.out ?_)
  refine WQ.yes (v := .slice (some ⟨b, o, none⟩) n dx) (by kernel_rfl) (some 17) (by rfl) (fun wx hx => by kernel_rfl) ?_
  simp only [Act.put, List.setIfInBounds_toArray, List.set_cons_succ, List.set_cons_zero]
  refine WQ.yes (v := .int .i64 (k : Int)) (by kernel_rfl) (some 18) (by rfl) (fun wx hx => by kernel_rfl) ?_
  simp only [Act.put, List.setIfInBounds_toArray, List.set_cons_succ, List.set_cons_zero]
  refine WQ.yes (v := .pointer (some ⟨b, o + k, none⟩)) (by kernel_rfl) (some 19) (by rfl) (fun wx hx => exec_ia (by rfl) (by rfl) (by rfl) (index_row wx b o n dx k hk)) ?_
  simp only [Act.put, List.setIfInBounds_toArray, List.set_cons_succ, List.set_cons_zero]
  refine WQ.yes (v := .string s) (by kernel_rfl) (some 20) (by rfl) (fun wx hx => exec_load (by rfl) (by rfl) (load_str wx _ _ _ (cell_drew hx h1))) ?_
  simp only [Act.put, List.setIfInBounds_toArray, List.set_cons_succ, List.set_cons_zero]
  refine WQ.yes (v := .slice (some ⟨b2, o2, none⟩) n dy) (by kernel_rfl) (some 21) (by rfl) (fun wx hx => by kernel_rfl) ?_
  simp only [Act.put, List.setIfInBounds_toArray, List.set_cons_succ, List.set_cons_zero]
  refine WQ.yes (v := .int .i64 (k : Int)) (by kernel_rfl) (some 22) (by rfl) (fun wx hx => by kernel_rfl) ?_
  simp only [Act.put, List.setIfInBounds_toArray, List.set_cons_succ, List.set_cons_zero]
  refine WQ.yes (v := .pointer (some ⟨b2, o2 + k, none⟩)) (by kernel_rfl) (some 23) (by rfl) (fun wx hx => exec_ia (by rfl) (by rfl) (by rfl) (index_row wx b2 o2 n dy k hk)) ?_
  simp only [Act.put, List.setIfInBounds_toArray, List.set_cons_succ, List.set_cons_zero]
  refine WQ.yes (v := .string s) (by kernel_rfl) (some 24) (by rfl) (fun wx hx => exec_load (by rfl) (by rfl) (load_str wx _ _ _ (cell_drew hx h2))) ?_
  simp only [Act.put, List.setIfInBounds_toArray, List.set_cons_succ, List.set_cons_zero]
  refine WQ.yes (v := .bool false) (by kernel_rfl) (some 25) (by rfl) (fun wx hx => exec_bin (by rfl) (by rfl) (by rfl) (by kernel_rfl) (neq_self wx s)) ?_
  simp only [Act.put, List.setIfInBounds_toArray, List.set_cons_succ, List.set_cons_zero]
  refine WQ.nil ?_
  rintro _ ⟨d, rfl⟩
  exact hQ _ _ _ _ _ _ _ _ _

set_option maxHeartbeats 1000000 in
theorem same_any (va vb : Value) (ss : List ByteArray) (w : World) (hn : ss.length ≤ 1000000000000) (ha : Strs w va ss) (hb : Strs w vb ss) : Calls Tryz.prog 17 #[va, vb] w fun e w' => e = .returned (.bool true) ∧ Below w.heap.size w w' := by
  obtain ⟨p, c, rfl, h1⟩ := ha
  obtain ⟨p2, c2, rfl, h2⟩ := hb
  have HC : Hid ((∀ (i : Nat) s, ss[i]? = some s → ∃ g off, p = some ⟨g, off, none⟩ ∧ w.cell? ⟨g, off + i, none⟩ = some (.string s)) ∧ (∀ (i : Nat) s, ss[i]? = some s → ∃ g off, p2 = some ⟨g, off, none⟩ ∧ w.cell? ⟨g, off + i, none⟩ = some (.string s))) := ⟨h1, h2⟩
  clear h1 h2
  go_enter Tryz.func17, Tryz.ntmps17
  try go_wp2
  go_loopw [5] (fun v wr => ∃ k : Nat, k ≤ ss.length ∧ v = .int .i64 (k : Int) ∧ Below w.heap.size w wr) (fun v _ => ss.length - (intOf v).toNat)
  case atStart => exact ⟨0, by omega, rfl, Below.refl _ _⟩
  case round =>
    obtain ⟨k, hk, rfl, hbw⟩ := hrel
    by_cases h8 : k < ss.length
    · obtain ⟨s, hs⟩ : ∃ s, ss[k]? = some s := ⟨_, List.getElem?_eq_getElem h8⟩
      obtain ⟨g, off, rfl, hc1⟩ := HC.out.1 k s hs
      obtain ⟨g2, off2, rfl, hc2⟩ := HC.out.2 k s hs
      have hd1 : wr.cell? ⟨g, off + k, none⟩ = some (.string s) := by rw [hbw.cell (World.block_lt_of_cell? _ _ hc1)]; exact hc1
      have hd2 : wr.cell? ⟨g2, off2 + k, none⟩ = some (.string s) := by rw [hbw.cell (World.block_lt_of_cell? _ _ hc2)]; exact hc2
      clear hs hc1 hc2
      go_wp2_with fail
      refine sameR6_wp g off c g2 off2 c2 ss.length k s wr _ h8 hd1 hd2 ?_
      intro u17 u18 u19 u20 u21 u22 u23 u24 d
      go_wp2
      go_roundw
      case rel => exact ⟨k + 1, by omega, by go_num, Below.drewN' hbw d⟩
      case measure => simp [intOf]; omega
    · have hk8 : k = ss.length := by omega
      subst hk8
      go_wp2
      go_ret
      exact ⟨rfl, hbw⟩
end Go.Proofs.YtlhohmlpcgbliaaGreatDoor
namespace Go.Proofs.YtlhohmlpcgbliaaGreatDoor
set_option maxRecDepth 100000
open Go.RowKit

/-- A sector's bytes. -/
structure Sec (s : List Nat) : Prop where
  len : s.length = 128
  byt : ∀ x ∈ s, x < 256
/-- A disk: its sectors as they last, what was written since, the acts, the script. -/
structure Dk where
  las : List (List Nat)
  fre : List (Nat × List Nat)
  acts : Int
  set : Bool
  left : Int
  keep : Int
  failed : Bool
structure Dk.ok (D : Dk) : Prop where
  las : D.las.length = 200
  sec : ∀ s ∈ D.las, Sec s
  fre : ∀ x ∈ D.fre, x.1 < 200 ∧ Sec x.2
  few : D.fre.length ≤ 1000000
/-- Does the i-th write last? -/
def kept (keep : Int) (i : Nat) : Bool := decide (i < 63) && (bits .and .i64 (keep / 2 ^ i) 1 == 1)
def failL (keep : Int) : Nat → List (Nat × List Nat) → List (List Nat) → List (List Nat)
  | _, [], l => l
  | i, x :: r, l => failL keep (i + 1) r (if kept keep i then l.set x.1 x.2 else l)
def putL (f : List (Nat × List Nat)) (l : List (List Nat)) : List (List Nat) := f.foldl (fun l x => l.set x.1 x.2) l
def Dk.fail (D : Dk) : Dk := { D with las := failL D.keep 0 D.fre D.las, fre := [], failed := true }
def Dk.trips (D : Dk) : Bool := D.set && (D.left == 0 && !D.failed)
def Dk.trip (D : Dk) : Dk := if D.trips then D.fail else D
def Dk.tick (D : Dk) : Dk := { D with left := wrap64 (D.left - 1), acts := wrap64 (D.acts + 1) }
/-- The disk behind one act's start. -/
def Dk.act (D : Dk) : Dk := if D.trip.failed then D.trip else D.trip.tick
def Dk.goes (D : Dk) : Bool := !D.trip.failed
def Dk.write (D : Dk) (at' : Nat) (s : List Nat) : Dk := if D.goes then { D.act with fre := D.act.fre ++ [(at', s)] } else D.act
def Dk.flush (D : Dk) : Dk := if D.goes then { D.act with las := putL D.act.fre D.act.las, fre := [] } else D.act
def Dk.read (D : Dk) (at' : Nat) : List Nat := ((D.fre.find? fun x => x.1 == at').map (·.2)).getD (D.las.getD at' [])

theorem failL_length (keep : Int) (f : List (Nat × List Nat)) : ∀ (i : Nat) (l : List (List Nat)), (failL keep i f l).length = l.length := by
  induction f with
  | nil => intro i l; rfl
  | cons x r ih => intro i l; rw [failL, ih]; split <;> simp
theorem failL_sec (keep : Int) (f : List (Nat × List Nat)) : ∀ (i : Nat) (l : List (List Nat)), (∀ s ∈ l, Sec s) → (∀ x ∈ f, Sec x.2) → ∀ s ∈ failL keep i f l, Sec s := by
  induction f with
  | nil => intro i l h _; exact h
  | cons x r ih =>
    intro i l h hf
    rw [failL]
    refine ih _ _ ?_ (fun y hy => hf y (List.mem_cons_of_mem _ hy))
    intro s hs
    split at hs
    · rcases List.mem_or_eq_of_mem_set hs with h1 | rfl
      · exact h s h1
      · exact hf x (List.mem_cons_self ..)
    · exact h s hs
theorem putL_length (f : List (Nat × List Nat)) : ∀ (l : List (List Nat)), (putL f l).length = l.length := by
  induction f with
  | nil => intro l; rfl
  | cons x r ih => intro l; rw [putL, List.foldl_cons]; exact (ih _).trans (by simp)
theorem putL_sec (f : List (Nat × List Nat)) : ∀ (l : List (List Nat)), (∀ s ∈ l, Sec s) → (∀ x ∈ f, Sec x.2) → ∀ s ∈ putL f l, Sec s := by
  induction f with
  | nil => intro l h _; exact h
  | cons x r ih =>
    intro l h hf
    rw [putL, List.foldl_cons]
    refine ih _ ?_ (fun y hy => hf y (List.mem_cons_of_mem _ hy))
    intro s hs
    rcases List.mem_or_eq_of_mem_set hs with h1 | rfl
    · exact h s h1
    · exact hf x (List.mem_cons_self ..)
theorem Dk.ok.fail {D : Dk} (h : D.ok) : D.fail.ok :=
  ⟨by simp [Dk.fail, failL_length, h.las], failL_sec _ _ _ _ h.sec (fun x hx => (h.fre x hx).2), fun x hx => by simp [Dk.fail] at hx, by simp [Dk.fail]⟩
theorem Dk.ok.trip {D : Dk} (h : D.ok) : D.trip.ok := by
  unfold Dk.trip; split
  · exact h.fail
  · exact h
theorem Dk.ok.tick {D : Dk} (h : D.ok) : D.tick.ok := ⟨h.las, h.sec, h.fre, h.few⟩
theorem Dk.ok.act {D : Dk} (h : D.ok) : D.act.ok := by
  unfold Dk.act; split
  · exact h.trip
  · exact h.trip.tick
theorem Dk.ok.flush {D : Dk} (h : D.ok) : D.flush.ok := by
  unfold Dk.flush; split
  · exact ⟨by simp [putL_length, h.act.las], putL_sec _ _ h.act.sec (fun x hx => (h.act.fre x hx).2), fun x hx => by simp at hx, by simp⟩
  · exact h.act
theorem Dk.ok.write {D : Dk} (h : D.ok) {i : Nat} {s : List Nat} (hi : i < 200) (hs : Sec s) (hf : D.fre.length < 1000000) : (D.write i s).ok := by
  have hl : D.act.fre.length ≤ D.fre.length := by
    unfold Dk.act Dk.trip Dk.tick Dk.fail
    split <;> split <;> simp
  unfold Dk.write; split
  · refine ⟨h.act.las, h.act.sec, fun x hx => ?_, by simp; omega⟩
    rcases List.mem_append.1 hx with h1 | h1
    · exact h.act.fre x h1
    · rw [List.mem_singleton] at h1; subst h1; exact ⟨hi, hs⟩
  · exact h.act
theorem Dk.ok.read {D : Dk} (h : D.ok) {i : Nat} (hi : i < 200) : Sec (D.read i) := by
  unfold Dk.read
  cases hq : D.fre.find? fun x => x.1 == i with
  | none =>
    have h1 := h.las
    simp only [Option.map_none, Option.getD_none]
    rw [List.getD_eq_getElem?_getD, List.getElem?_eq_getElem (by omega)]
    exact h.sec _ (List.getElem_mem _)
  | some x => exact (h.fre x (List.mem_of_find?_eq_some hq)).2

/-- Lists of one length, side by side. -/
theorem flat_length {l : List (List Nat)} (h : ∀ s ∈ l, s.length = 128) : l.flatten.length = l.length * 128 := by
  induction l with
  | nil => rfl
  | cons s r ih =>
    rw [List.flatten_cons, List.length_append, ih (fun x hx => h x (List.mem_cons_of_mem _ hx)), h s (List.mem_cons_self ..), List.length_cons]; omega
theorem flat_part {l : List (List Nat)} (h : ∀ s ∈ l, s.length = 128) : ∀ i, i < l.length → (l.flatten.drop (i * 128)).take 128 = l.getD i [] := by
  induction l with
  | nil => intro i hi; simp at hi
  | cons s r ih =>
    intro i hi
    have hs := h s (List.mem_cons_self ..)
    cases i with
    | zero => simp [← hs]
    | succ i =>
      rw [List.flatten_cons, List.drop_append, List.drop_eq_nil_of_le (by omega), List.nil_append, hs, show (i + 1) * 128 - 128 = i * 128 by omega, List.getD_cons_succ]
      exact ih (fun x hx => h x (List.mem_cons_of_mem _ hx)) i (by simpa using hi)
theorem flat_set {l : List (List Nat)} (h : ∀ s ∈ l, s.length = 128) (c : List Nat) : ∀ i, i < l.length → l.flatten.take (i * 128) ++ (c ++ l.flatten.drop (i * 128 + 128)) = (l.set i c).flatten := by
  induction l with
  | nil => intro i hi; simp at hi
  | cons s r ih =>
    intro i hi
    have hs := h s (List.mem_cons_self ..)
    cases i with
    | zero =>
      rw [List.flatten_cons, List.set_cons_zero, List.flatten_cons, List.drop_append, List.drop_eq_nil_of_le (by omega)]
      simp [hs]
    | succ i =>
      rw [List.set_cons_succ, List.flatten_cons, List.flatten_cons, ← ih (fun x hx => h x (List.mem_cons_of_mem _ hx)) i (by simpa using hi), List.take_append, List.drop_append, List.take_of_length_le (by omega), List.drop_eq_nil_of_le (by omega), hs,
        show (i + 1) * 128 - 128 = i * 128 by omega, show (i + 1) * 128 + 128 - 128 = i * 128 + 128 by omega]
      simp

/-- The cells of a disk. -/
def Dk.cells (D : Dk) (fv : Value) : List Value := u8s D.las.flatten ++ [fv, .int .i64 D.acts, .bool D.set, .int .i64 D.left, .int .i64 D.keep, .bool D.failed]
theorem Dk.ok.flat {D : Dk} (h : D.ok) : D.las.flatten.length = 25600 := by
  rw [flat_length (fun s hs => (h.sec s hs).len), h.las]
theorem Dk.ok.cells_len {D : Dk} (h : D.ok) (fv : Value) : (D.cells fv).length = 25606 := by
  simp only [Dk.cells, List.length_append, u8s_length, h.flat]; rfl
theorem Dk.ok.tail {D : Dk} (h : D.ok) (fv : Value) (k : Nat) : (D.cells fv)[25600 + k]? = [fv, .int .i64 D.acts, .bool D.set, .int .i64 D.left, .int .i64 D.keep, .bool D.failed][k]? := by
  unfold Dk.cells
  rw [List.getElem?_append_right (by simp [h.flat]), u8s_length, h.flat, Nat.add_sub_cancel_left]
theorem Dk.ok.setTail {D : Dk} (h : D.ok) (fv : Value) (k : Nat) (v : Value) : (D.cells fv).set (25600 + k) v = u8s D.las.flatten ++ ([fv, .int .i64 D.acts, .bool D.set, .int .i64 D.left, .int .i64 D.keep, .bool D.failed] : List Value).set k v := by
  unfold Dk.cells
  rw [List.set_append_right _ _ (by simp [h.flat]), u8s_length, h.flat, Nat.add_sub_cancel_left]
theorem Dk.ok.part {D : Dk} (h : D.ok) (fv : Value) (i : Nat) (hi : i < 200) : ((D.cells fv).drop (i * 128)).take 128 = u8s (D.las.getD i []) := by
  rw [← flat_part (fun s hs => (h.sec s hs).len) i (by rw [h.las]; exact hi)]
  unfold Dk.cells
  rw [List.drop_append_of_le_length (by simp [h.flat]; omega), List.take_append_of_le_length (by simp [h.flat]; omega)]
  simp [u8s, List.map_take, List.map_drop]
theorem Dk.ok.setSec {D : Dk} (h : D.ok) (fv : Value) (i : Nat) (hi : i < 200) (c : List Nat) (hc : c.length = 128) : setL (D.cells fv) (i * 128) (u8s c) = ({ D with las := D.las.set i c } : Dk).cells fv := by
  rw [setL_eq _ _ _ (by rw [h.cells_len, u8s_length, hc]; omega)]
  unfold Dk.cells
  simp only
  rw [← flat_set (fun s hs => (h.sec s hs).len) c i (by rw [h.las]; exact hi), List.take_append_of_le_length (by simp [h.flat]; omega), List.drop_append_of_le_length (by simp [h.flat, hc]; omega), u8s_length, hc]
  simp [u8s, List.map_take, List.map_drop]

/-- Writes, cell by cell. -/
def flatW (f : List (Nat × List Nat)) : List Value := f.flatMap fun x => .int .i64 (x.1 : Int) :: u8s x.2
theorem flatW_part (f : List (Nat × List Nat)) (h : ∀ x ∈ f, x.2.length = 128) : ∀ i x, f[i]? = some x → ((flatW f).drop (i * 129)).take 129 = .int .i64 (x.1 : Int) :: u8s x.2 := by
  induction f with
  | nil => intro i x hi; simp at hi
  | cons y r ih =>
    intro i x hi
    have hy := h y (List.mem_cons_self ..)
    have hl : (Value.int .i64 (y.1 : Int) :: u8s y.2).length = 129 := by simp [hy]
    rw [flatW, List.flatMap_cons]
    cases i with
    | zero =>
      simp only [List.getElem?_cons_zero, Option.some.injEq] at hi
      subst hi
      rw [Nat.zero_mul, List.drop_zero, List.take_append_of_le_length (by omega), List.take_of_length_le (by omega)]
    | succ i =>
      rw [List.drop_append, List.drop_eq_nil_of_le (by omega), List.nil_append, hl, show (i + 1) * 129 - 129 = i * 129 by omega]
      exact ih (fun z hz => h z (List.mem_cons_of_mem _ hz)) i x (by simpa using hi)

theorem ownsRow_below' {w w' : World} {base : Nat} {e : TypeId} {size : Nat} {v : Value} {n : Nat} {xs : List Value} (h : w.ownsRow base e size v n xs) (hb : Below w.heap.size w w') : w'.ownsRow base e size v n xs := by
  obtain ⟨h1, h2⟩ := h
  refine ⟨h1, ?_⟩
  rcases h2 with h0 | ⟨g, cap, cur, hv, hbg, hg, r⟩
  · exact Or.inl h0
  · have : g < w.heap.size := (Array.getElem?_eq_some_iff.1 hg).1
    exact Or.inr ⟨g, cap, cur, hv, hbg, by rw [hb.block g (by omega)]; exact hg, r⟩

/-- The disk D lies at b; the writes that do not last yet lie where fv says. -/
structure DiskAt (w : World) (b : Nat) (fv : Value) (D : Dk) : Prop where
  ok : D.ok
  blk : Blk w b 68 (D.cells fv)
  row : w.ownsRow 0 113 129 fv D.fre.length (flatW D.fre)
  apart : fv.ownBlock ≠ some b

/-- All but the disk's own blocks are as they were. -/
structure Fr (b : Nat) (g g' : Option Nat) (w w' : World) : Prop where
  os : w'.os = w.os
  tape : w'.tape = w.tape
  output : w'.output = w.output
  size : w.heap.size ≤ w'.heap.size
  block : ∀ k, k < w.heap.size → k ≠ b → g ≠ some k → w'.heap[k]? = w.heap[k]?
  own : g' = none ∨ g' = g ∨ ∃ k, g' = some k ∧ w.heap.size ≤ k
theorem Fr.refl (b : Nat) (g : Option Nat) (w : World) : Fr b g g w w := ⟨rfl, rfl, rfl, Nat.le_refl _, fun _ _ _ _ => rfl, .inr (.inl rfl)⟩
theorem Fr.trans {b : Nat} {g g1 g2 : Option Nat} {w w1 w2 : World} (h : Fr b g g1 w w1) (k : Fr b g1 g2 w1 w2) : Fr b g g2 w w2 := by
  refine ⟨k.os.trans h.os, k.tape.trans h.tape, k.output.trans h.output, Nat.le_trans h.size k.size, fun i hi hb hg => ?_, ?_⟩
  · refine (k.block i (Nat.lt_of_lt_of_le hi h.size) hb ?_).trans (h.block i hi hb hg)
    rcases h.own with e | e | ⟨j, e, hj⟩
    · rw [e]; simp
    · rw [e]; exact hg
    · rw [e]; simp; omega
  · rcases k.own with e | e | ⟨j, e, hj⟩
    · exact .inl e
    · rw [e]; exact h.own
    · exact .inr (.inr ⟨j, e, Nat.le_trans h.size hj⟩)
theorem Fr.of_below {b : Nat} {g : Option Nat} {w w' : World} (h : Below w.heap.size w w') : Fr b g g w w' := ⟨h.os, h.tape, h.output, h.size, fun k hk _ _ => h.block k hk, .inr (.inl rfl)⟩
theorem Fr.to_below {b : Nat} {g g' : Option Nat} {w w' : World} {B : Nat} (h : Fr b g g' w w') (hB : B ≤ w.heap.size) (hb : B ≤ b) (hg : ∀ k, g = some k → B ≤ k) : Below B w w' :=
  ⟨h.os, h.tape, h.output, h.size, fun k hk => h.block k (by omega) (by omega) (fun e => by have := hg k e; omega)⟩
theorem Fr.blk {b : Nat} {g g' : Option Nat} {w w' : World} (h : Fr b g g' w w') {c : Nat} {t : TypeId} {cs : List Value} (hc : Blk w c t cs) (hb : c ≠ b) (hg : g ≠ some c) : Blk w' c t cs := by
  have := hc.lt
  unfold Blk at *
  rw [h.block c this hb hg]; exact hc
theorem Fr.apart {b : Nat} {g g' : Option Nat} {w w' : World} (h : Fr b g g' w w') {c : Nat} (hc : c < w.heap.size) (hg : g ≠ some c) : g' ≠ some c := by
  rcases h.own with e | e | ⟨j, e, hj⟩
  · rw [e]; simp
  · rw [e]; exact hg
  · rw [e]; simp; omega
theorem DiskAt.lt {w : World} {b : Nat} {fv : Value} {D : Dk} (h : DiskAt w b fv D) : b < w.heap.size := h.blk.lt
theorem DiskAt.below {w w' : World} {b : Nat} {fv : Value} {D : Dk} (h : DiskAt w b fv D) (hb : Below w.heap.size w w') : DiskAt w' b fv D :=
  ⟨h.ok, h.blk.below hb h.lt, ownsRow_below' h.row hb, h.apart⟩
theorem DiskAt.drewN {w : World} {b : Nat} {fv : Value} {D : Dk} (h : DiskAt w b fv D) (n : Nat) : DiskAt (w.drewN n) b fv D := ⟨h.ok, h.blk, h.row, h.apart⟩
theorem DiskAt.alloc {w : World} {b : Nat} {fv : Value} {D : Dk} (h : DiskAt w b fv D) (o : Obj) : DiskAt (w.alloc o) b fv D := h.below ((Below.refl _ _).alloc (Nat.le_refl _) o)
theorem DiskAt.cell {w : World} {b : Nat} {fv : Value} {D : Dk} (h : DiskAt w b fv D) (k : Nat) : w.cell? ⟨b, 25600 + k, none⟩ = [fv, .int .i64 D.acts, .bool D.set, .int .i64 D.left, .int .i64 D.keep, .bool D.failed][k]? := by
  rw [h.blk.cell, h.ok.tail]
/-- The disk's own cell is written. -/
theorem DiskAt.put {w : World} {b : Nat} {fv : Value} {D : Dk} (h : DiskAt w b fv D) (k : Nat) (v fv' : Value) (D' : Dk) (hok : D'.ok) (hl : D'.las = D.las) (hf : fv' = fv) (hfr : D'.fre = D.fre) (hk : ([fv, .int .i64 D.acts, .bool D.set, .int .i64 D.left, .int .i64 D.keep, .bool D.failed] : List Value).set k v = [fv', .int .i64 D'.acts, .bool D'.set, .int .i64 D'.left, .int .i64 D'.keep, .bool D'.failed]) :
    DiskAt (w.setCell ⟨b, 25600 + k, none⟩ v) b fv' D' := by
  subst hf
  refine ⟨hok, (h.blk.set (25600 + k) v).eq ?_, ?_, h.apart⟩
  · rw [h.ok.setTail, hk, Dk.cells, hl]
  · rw [hfr]; exact ownsRow_setCell_other h.row h.apart v
/-- What does not last yet is let go. -/
theorem DiskAt.empty {w : World} {b : Nat} {fv : Value} {D : Dk} (h : DiskAt w b fv D) : DiskAt (w.setCell ⟨b, 25600, none⟩ (.slice none 0 0)) b (.slice none 0 0) { D with fre := [] } := by
  refine ⟨⟨h.ok.las, h.ok.sec, fun x hx => by simp at hx, by simp⟩, (h.blk.set (25600 + 0) _).eq ?_, World.ownsRow_nil _ _ _ _, by simp [Value.ownBlock]⟩
  rw [h.ok.setTail]; rfl
theorem Fr.setCell (b : Nat) (g g' : Option Nat) (w : World) (o : Nat) (v : Value) (hg : g' = none ∨ g' = g) : Fr b g g' w (w.setCell ⟨b, o, none⟩ v) :=
  ⟨rfl, rfl, rfl, by simp [World.setCell], fun k _ hk _ => Below.heap_setCell _ _ _ _ hk, hg.elim .inl (fun h => .inr (.inl h))⟩
theorem Fr.setCells (b : Nat) (g : Option Nat) (vs : List Value) : ∀ (w : World) (o : Nat), Fr b g g w (w.setCells b o vs) := by
  induction vs with
  | nil => intro w o; exact Fr.refl _ _ _
  | cons v r ih => intro w o; exact (Fr.setCell b g g w o v (.inr rfl)).trans (ih _ _)
theorem ownsRow_setCells_other {base : Nat} {e : TypeId} {size : Nat} {v : Value} {n : Nat} {xs : List Value} {b : Nat} (hb : v.ownBlock ≠ some b) (vs : List Value) : ∀ (w : World) (o : Nat), w.ownsRow base e size v n xs → (w.setCells b o vs).ownsRow base e size v n xs := by
  induction vs with
  | nil => intro w o h; exact h
  | cons u r ih => intro w o h; exact ih _ _ (ownsRow_setCell_other h hb u)
/-- A sector lasts now. -/
theorem DiskAt.putSec {w : World} {b : Nat} {fv : Value} {D : Dk} (h : DiskAt w b fv D) (i : Nat) (hi : i < 200) (c : List Nat) (hc : Sec c) : DiskAt (w.setCells b (i * 128) (u8s c)) b fv { D with las := D.las.set i c } := by
  refine ⟨⟨by simp [h.ok.las], ?_, h.ok.fre, h.ok.few⟩, (h.blk.setCells (i * 128) (u8s c)).eq (h.ok.setSec fv i hi c hc.len), ownsRow_setCells_other h.apart _ _ _ h.row, h.apart⟩
  intro s hs
  rcases List.mem_or_eq_of_mem_set hs with h1 | rfl
  · exact h.ok.sec s h1
  · exact hc
end Go.Proofs.YtlhohmlpcgbliaaGreatDoor
namespace Go.Proofs.YtlhohmlpcgbliaaGreatDoor
set_option maxRecDepth 100000
open Go.RowKit
attribute [local go_sem ↓] Go.wp_at_zero Go.wp_at_succ

theorem infoSec : (Tryz.prog.info? 62).map (·.size) = some 128 := by kernel_rfl
theorem infoWr : (Tryz.prog.info? 113).map (·.size) = some 129 := by kernel_rfl
theorem zeroSec : Tryz.zeroCells62 = (u8s (List.replicate 128 0)).toArray := by kernel_rfl
theorem Blk.part {w : World} {b : Nat} {t : TypeId} {cs : List Value} (h : Blk w b t cs) (o n : Nat) : w.rangeAt b o ((cs.drop o).take n) := fun j v hv => by
  rw [h.cell]
  rw [List.getElem?_take] at hv
  split at hv
  · rw [List.getElem?_drop] at hv; exact hv
  · cases hv
theorem Blk.newA (w : World) (t : TypeId) (cs : Array Value) : Blk (w.alloc (.cells cs t)) w.heap.size t cs.toList := Blk.new w t cs.toList
theorem DiskAt.sec {w : World} {b : Nat} {fv : Value} {D : Dk} (h : DiskAt w b fv D) (i : Nat) (hi : i < 200) : w.rangeAt b (i * 128) (u8s (D.las.getD i [])) := by
  rw [← h.ok.part fv i hi]; exact h.blk.part _ _
/-- Where the writes lie. -/
theorem DiskAt.fresh {w : World} {b : Nat} {fv : Value} {D : Dk} (h : DiskAt w b fv D) (h0 : 0 < D.fre.length) : ∃ g cap, fv = .slice (some ⟨g, 0, none⟩) D.fre.length cap ∧ g < w.heap.size ∧ g ≠ b ∧ ∀ i x, D.fre[i]? = some x → w.rangeAt g (i * 129) (.int .i64 (x.1 : Int) :: u8s x.2) := by
  obtain ⟨h1, h2⟩ := h.row
  rcases h2 with ⟨_, hn⟩ | ⟨g, cap, cur, rfl, hb, hg, hn, hm, hs, ht⟩
  · omega
  · refine ⟨g, cap, rfl, (Array.getElem?_eq_some_iff.1 hg).1, fun e => h.apart (by rw [e]; rfl), fun i x hx => ?_⟩
    have hl := h1
    rw [← flatW_part D.fre (fun x hx => (h.ok.fre x hx).2.len) i x hx]
    intro j v hv
    have hv' : (flatW D.fre)[i * 129 + j]? = some v := by
      rw [List.getElem?_take] at hv
      split at hv
      · rw [List.getElem?_drop] at hv; exact hv
      · cases hv
    rw [← ht, List.getElem?_take] at hv'
    split at hv'
    · simp only [World.cell?, hg]
      simpa using hv'
    · cases hv'
theorem DiskAt.fv {w : World} {b : Nat} {fv : Value} {D : Dk} (h : DiskAt w b fv D) : ∃ p cap, fv = .slice p D.fre.length cap := by
  obtain ⟨h1, h2⟩ := h.row
  rcases h2 with ⟨rfl, hn⟩ | ⟨g, cap, cur, rfl, hb, hg, hn, hm, hs, ht⟩
  · exact ⟨none, 0, by rw [hn]⟩
  · exact ⟨_, cap, rfl⟩

section
variable {ops : Array Oper} {rest : List Oper} {op : Oper} {a : Act} {w : World} {Q : Exit → Act → World → Prop}
theorem ldSec (hgd : op.guard = none) (x : Operand) (ho : op.op = .load 62 x) (b o : Nat) (hx : a.eval x = .pointer (some ⟨b, o, none⟩)) (s : List Nat) (hr : w.rangeAt b o (u8s s)) (hs : s.length = 128)
    (h : wpList Tryz.prog ops Q rest (a.put op.dst (.agg (u8s s).toArray)) w) : wpList Tryz.prog ops Q (op :: rest) a w :=
  wpList_load_mid hgd 62 x ho b o hx (u8s s) _ hr Tryz.underlying62 rfl (by rw [u8s_length, hs]; exact infoSec) h
theorem stSec (hgd : op.guard = none) (x y : Operand) (ho : op.op = .store 62 x y) (b o : Nat) (s : List Nat) (hx : a.eval x = .pointer (some ⟨b, o, none⟩)) (hy : a.eval y = .agg (u8s s).toArray) (ht : w.there b o 128) (hs : s.length = 128)
    (h : wpList Tryz.prog ops Q rest (a.put op.dst undef) (w.setCells b o (u8s s))) : wpList Tryz.prog ops Q (op :: rest) a w :=
  wpList_store_mid hgd 62 x y ho b o (u8s s).toArray hx hy (by rw [List.size_toArray, u8s_length, hs]; exact ht) (by rw [List.size_toArray, u8s_length, hs]; exact infoSec) (all_oneCell_toArray (u8s_one _)) h
theorem ldWr (hgd : op.guard = none) (x : Operand) (ho : op.op = .load 113 x) (b o : Nat) (hx : a.eval x = .pointer (some ⟨b, o, none⟩)) (n : Nat) (s : List Nat) (hr : w.rangeAt b o (.int .i64 (n : Int) :: u8s s)) (hs : s.length = 128)
    (h : wpList Tryz.prog ops Q rest (a.put op.dst (.agg (Value.int .i64 (n : Int) :: u8s s).toArray)) w) : wpList Tryz.prog ops Q (op :: rest) a w :=
  wpList_load_mid hgd 113 x ho b o hx (.int .i64 (n : Int) :: u8s s) _ hr Tryz.underlying113 rfl (by rw [List.length_cons, u8s_length, hs]; exact infoWr) h
theorem stWr (hgd : op.guard = none) (x y : Operand) (ho : op.op = .store 113 x y) (b o : Nat) (n : Nat) (s : List Nat) (hx : a.eval x = .pointer (some ⟨b, o, none⟩)) (hy : a.eval y = .agg (Value.int .i64 (n : Int) :: u8s s).toArray) (ht : w.there b o 129) (hs : s.length = 128)
    (h : wpList Tryz.prog ops Q rest (a.put op.dst undef) (w.setCells b o (.int .i64 (n : Int) :: u8s s))) : wpList Tryz.prog ops Q (op :: rest) a w :=
  wpList_store_mid hgd 113 x y ho b o (Value.int .i64 (n : Int) :: u8s s).toArray hx hy (by rw [List.size_toArray, List.length_cons, u8s_length, hs]; exact ht) (by rw [List.size_toArray, List.length_cons, u8s_length, hs]; exact infoWr)
    (all_oneCell_toArray (by intro v hv; rcases List.mem_cons.1 hv with rfl | h1; · rfl
                             · exact u8s_one _ v h1)) h
end
/-- A block of its own that was filled whole. -/
theorem Blk.fill {w : World} {b : Nat} {t : TypeId} {cs : List Value} (h : Blk w b t cs) (vs : List Value) (hl : vs.length = cs.length) : Blk (w.setCells b 0 vs) b t vs :=
  (h.setCells 0 vs).eq (by rw [setL_eq _ _ _ (by omega), List.take_zero, List.nil_append, List.drop_eq_nil_of_le (by omega), List.append_nil])

theorem find_none {f : List (Nat × List Nat)} {i k : Nat} (h : ∀ j x, j < k → f[j]? = some x → x.1 ≠ i) (hk : k = f.length) : (f.find? fun x => x.1 == i) = none := by
  rw [List.find?_eq_none]
  intro x hx
  obtain ⟨j, hj⟩ := List.mem_iff_getElem?.1 hx
  simp only [beq_iff_eq]
  exact h j x (by rw [hk]; exact (List.getElem?_eq_some_iff.1 hj).1) hj
theorem find_some {f : List (Nat × List Nat)} {i k : Nat} {x : Nat × List Nat} (h : ∀ j x, j < k → f[j]? = some x → x.1 ≠ i) (hk : f[k]? = some x) (hx : x.1 = i) : (f.find? fun x => x.1 == i) = some x := by
  rw [List.find?_eq_some_iff_getElem]
  have hlt := (List.getElem?_eq_some_iff.1 hk).1
  refine ⟨by simpa using hx, k, hlt, (List.getElem?_eq_some_iff.1 hk).2, fun j hj => ?_⟩
  simpa using h j _ hj (List.getElem?_eq_getElem (by omega))

set_option maxHeartbeats 1000000 in
theorem read_any (b : Nat) (fv : Value) (D : Dk) (i : Nat) (w : World) (h : DiskAt w b fv D) (hi : i < 200) :
    Calls Tryz.prog 86 #[.pointer (some ⟨b, 0, none⟩), .int .i64 (i : Int)] w fun e w' => e = .returned (.agg (u8s (D.read i)).toArray) ∧ Below w.heap.size w w' := by
  have hlt := h.lt
  obtain ⟨p, cap, hfv⟩ := h.fv
  have c0 := h.cell 0
  simp only [List.getElem?_cons_zero, Nat.add_zero] at c0
  rw [hfv] at c0
  have HD : Hid (DiskAt w b fv D) := h
  have HF : Hid (fv = .slice p D.fre.length cap) := hfv
  clear h hfv
  have hb0 : Below w.heap.size w (w.alloc (.cells Tryz.zeroCells62 62)) := (Below.refl _ _).alloc (Nat.le_refl _) _
  have hB0 := Blk.newA w 62 Tryz.zeroCells62
  have c0' : (w.alloc (.cells Tryz.zeroCells62 62)).cell? ⟨b, 25600, none⟩ = some (.slice p D.fre.length cap) := by rw [hb0.cell hlt]; exact c0
  go_enter Tryz.func86, Tryz.ntmps86
  go_wp2_with fail
  go_loopw [12] (fun v wr => ∃ k : Nat, k ≤ D.fre.length ∧ v = .int .i64 (k : Int) ∧ Below w.heap.size w wr ∧ Blk wr w.heap.size 62 Tryz.zeroCells62.toList ∧ (∀ j x, j < k → D.fre[j]? = some x → x.1 ≠ i)) (fun v _ => D.fre.length - (intOf v).toNat)
  case atStart => exact ⟨0, by omega, rfl, hb0, hB0, fun j x hj _ => by omega⟩
  case round =>
    obtain ⟨k, hk, rfl, hb, hB, hno⟩ := hrel
    clear hb0 hB0 c0' c0
    have HN : Hid (∀ j x, j < k → D.fre[j]? = some x → x.1 ≠ i) := hno
    clear hno
    have hzl : Tryz.zeroCells62.toList.length = 128 := by rw [zeroSec]; simp
    by_cases h8 : k < D.fre.length
    · obtain ⟨x, hx⟩ : ∃ x, D.fre[k]? = some x := ⟨_, List.getElem?_eq_getElem h8⟩
      obtain ⟨g, cap', e, hg, hgb, hr⟩ := HD.out.fresh (by omega)
      rw [HF.out] at e
      injection e with e1 e2 e3
      subst e1 e3
      have hxs := HD.out.ok.fre x (List.mem_of_getElem? hx)
      have hr0 : wr.rangeAt g (k * 129) (.int .i64 (x.1 : Int) :: u8s x.2) := fun j v hv => by
        have := hr k x hx j v hv
        rw [hb.cell hg]; exact this
      have hx2 := hxs.2.len
      have HX : Hid (D.fre[k]? = some x) := hx
      clear hx hr
      have hltB := hB.lt
      have hfew := HD.out.ok.few
      obtain ⟨n, s⟩ := x
      simp only at hxs hr0 hx2
      have hB2 : Blk (wr.alloc (.cells Tryz.zeroCells113 113)) wr.heap.size 113 Tryz.zeroCells113.toList := Blk.newA wr _ _
      have hzw : Tryz.zeroCells113.toList.length = 129 := by rw [Array.length_toList]; exact Tryz.zeroCells113_size
      have hth := hB2.there 0 129 (by omega)
      have hB3 := hB2.fill (.int .i64 (n : Int) :: u8s s) (by simp [hx2, hzw])
      have hBz := (hB.alloc (.cells Tryz.zeroCells113 113)).setCells_other wr.heap.size 0 (.int .i64 (n : Int) :: u8s s) (by omega)
      have hbb : Below w.heap.size w ((wr.alloc (.cells Tryz.zeroCells113 113)).setCells wr.heap.size 0 (.int .i64 (n : Int) :: u8s s)) := Below.setCells (hb.alloc hb.size _) _ _ hb.size _
      clear hB hB2 hzw
      have c1 : ((wr.alloc (.cells Tryz.zeroCells113 113)).setCells wr.heap.size 0 (.int .i64 (n : Int) :: u8s s)).cell? ⟨wr.heap.size, 0, none⟩ = some (.int .i64 (n : Int)) := by rw [hB3.cell]; rfl
      have hrs : ((wr.alloc (.cells Tryz.zeroCells113 113)).setCells wr.heap.size 0 (.int .i64 (n : Int) :: u8s s)).rangeAt wr.heap.size 1 (u8s s) := fun j v hv => by rw [hB3.cell, Nat.add_comm, List.getElem?_cons_succ]; exact hv
      by_cases hq : n = i
      · subst hq
        have hth2 := hBz.there 0 128 (by omega)
        have hB4 := hBz.fill (u8s s) (by simp [hx2, hzl])
        have hb4 := Below.setCells hbb w.heap.size 0 (Nat.le_refl _) (u8s s)
        have HR : D.read n = s := by
          unfold Dk.read
          rw [find_some HN.out HX.out rfl]; rfl
        go_wp2_with (first | refine ldWr (by rfl) (.tmp 14) (by rfl) g (k * 129) (by rfl) n s hr0 hx2 ?_ | refine stWr (by rfl) (.tmp 6) (.tmp 15) (by rfl) wr.heap.size 0 n s (by rfl) (by rfl) hth hx2 ?_ | refine ldSec (by rfl) (.tmp 20) (by rfl) wr.heap.size 1 (by rfl) s hrs hx2 ?_ | refine stSec (by rfl) (.tmp 4) (.tmp 21) (by rfl) w.heap.size 0 s (by rfl) (by rfl) hth2 hx2 ?_)
        refine bodyPost_ret (results_cell Tryz.results86 (by rfl) hB4.range Tryz.underlying62 rfl (by rw [u8s_length, hx2]; exact infoSec)) rfl ⟨rfl, hb4⟩
      · have hq' : ¬ ((n : Int) = (i : Int)) := by omega
        go_wp2_with (first | refine ldWr (by rfl) (.tmp 14) (by rfl) g (k * 129) (by rfl) n s hr0 hx2 ?_ | refine stWr (by rfl) (.tmp 6) (.tmp 15) (by rfl) wr.heap.size 0 n s (by rfl) (by rfl) hth hx2 ?_)
        go_roundw
        case rel =>
          refine ⟨k + 1, by omega, by go_num, hbb, hBz, fun j x hj hx => ?_⟩
          by_cases hjk : j = k
          · subst hjk
            rw [HX.out] at hx
            cases hx
            exact hq
          · exact HN.out j x (by omega) hx
        case measure => simp [intOf]; omega
    · have hk8 : k = D.fre.length := by omega
      have HR : D.read i = D.las.getD i [] := by
        unfold Dk.read
        rw [find_none HN.out hk8]; rfl
      subst hk8
      have hDs := (HD.out.below hb).sec i hi
      have hs : (D.las.getD i []).length = 128 := by
        have := (HD.out.ok.read hi).len
        rw [HR] at this; exact this
      have hth2 := hB.there 0 128 (by omega)
      have hB4 := hB.fill (u8s (D.las.getD i [])) (by simp only [u8s_length]; omega)
      have hb4 := Below.setCells hb w.heap.size 0 (Nat.le_refl _) (u8s (D.las.getD i []))
      have HR' : Hid (D.read i = D.las.getD i []) := HR
      clear HR
      generalize hgs : D.las.getD i [] = s at *
      go_wp2_with (first | refine ldSec (by rfl) (.tmp 27) (by rfl) b (i * 128) (by rfl) s hDs hs ?_ | refine stSec (by rfl) (.tmp 4) (.tmp 28) (by rfl) w.heap.size 0 s (by rfl) (by rfl) hth2 hs ?_)
      exact bodyPost_ret (results_cell Tryz.results86 (by rfl) hB4.range Tryz.underlying62 rfl (by rw [u8s_length, hs]; exact infoSec)) rfl ⟨by rw [HR'.out], hb4⟩
end Go.Proofs.YtlhohmlpcgbliaaGreatDoor
