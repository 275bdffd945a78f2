import Derived.Test.YtlhohmlpcgbliaaDoorZQ2
namespace Go.Proofs.YtlhohmlpcgbliaaDoor
set_option maxRecDepth 100000
open Go.RowKit
attribute [local go_sem ↓] Go.wp_at_zero Go.wp_at_succ

/-- The slice v reads the texts ss, and has room for them. -/
def Lst (w : World) (v : Value) (ss : List ByteArray) : Prop :=
  ∃ p c, v = .slice p ss.length c ∧ ss.length ≤ c ∧ ∀ (j : Nat) s, ss[j]? = some s → ∃ b o, p = some ⟨b, o, none⟩ ∧ w.cell? ⟨b, o + j, none⟩ = some (.string s)
theorem Lst.below {w w' : World} {v : Value} {ss : List ByteArray} (h : Lst w v ss) (hb : Below w.heap.size w w') : Lst w' v ss := by
  obtain ⟨p, c, h1, hc, h2⟩ := h
  refine ⟨p, c, h1, hc, fun i s hs => ?_⟩
  obtain ⟨g, off, h3, h4⟩ := h2 i s hs
  exact ⟨g, off, h3, by rw [hb.cell (World.block_lt_of_cell? _ _ h4)]; exact h4⟩

/-- What Included must answer. -/
def inclB (leaf : ByteArray) (i n : Int) (ss : List ByteArray) (root : ByteArray) : Bool :=
  decide (0 ≤ i ∧ i < n ∧ n ≤ 1099511627776) && decide ((cl 40 leaf leaf i.toNat (n.toNat - 1) ss).map (·.2) = some root)
/-- What Extends must answer. -/
def extB (m n : Int) (old root : ByteArray) (ss : List ByteArray) : Bool :=
  decide (1 ≤ m ∧ m ≤ n ∧ n ≤ 1099511627776) && decide (boR old ss.reverse m.toNat n.toNat true = some (old, root))

theorem eqs (x y : ByteArray) : (x.toList == y.toList) = decide (x = y) := by
  rw [ByteArray.toList_eq, ByteArray.toList_eq]
  by_cases h : x = y
  · subst h; simp
  · rw [decide_eq_false h, beq_eq_false_iff_ne]
    intro e
    apply h
    cases x; cases y
    simp only [ByteArray.mk.injEq]
    exact Array.toList_inj.1 e

/-- A list's texts are few and short enough. -/
def Few (ss : List ByteArray) : Prop := ss.length ≤ 1048576 ∧ ∀ s ∈ ss, s.size ≤ 1048576
/-- .. for what joins no texts. -/
def FewB (ss : List ByteArray) : Prop := ss.length ≤ 140737488355328 ∧ ∀ s ∈ ss, s.size ≤ 140737488355328
theorem Few.big {ss : List ByteArray} (h : Few ss) : FewB ss := ⟨by have := h.1; omega, fun s hs => by have := h.2 s hs; omega⟩

set_option maxHeartbeats 400000 in
theorem inclRef_low (leaf root : ByteArray) (i n : Int) (v : Value) (w : World) (h : i < 0) :
    Calls Tryd.prog 25 #[.string leaf, .int .i64 i, .int .i64 n, v, .string root] w fun e w' => e = .returned (.bool false) ∧ w' = w := by
  go_enter Tryd.func25, Tryd.ntmps25
  go_wp2
  go_ret
  exact ⟨rfl, rfl⟩
set_option maxHeartbeats 400000 in
theorem inclRef_high (leaf root : ByteArray) (i n : Int) (v : Value) (w : World) (h0 : 0 ≤ i) (h : n ≤ i) :
    Calls Tryd.prog 25 #[.string leaf, .int .i64 i, .int .i64 n, v, .string root] w fun e w' => e = .returned (.bool false) ∧ w' = w := by
  go_enter Tryd.func25, Tryd.ntmps25
  go_wp2
  go_ret
  exact ⟨rfl, rfl⟩
set_option maxHeartbeats 400000 in
theorem inclRef_great (leaf root : ByteArray) (i n : Int) (v : Value) (w : World) (h0 : 0 ≤ i) (h1 : i < n) (h : 1099511627776 < n) :
    Calls Tryd.prog 25 #[.string leaf, .int .i64 i, .int .i64 n, v, .string root] w fun e w' => e = .returned (.bool false) ∧ w' = w := by
  go_enter Tryd.func25, Tryd.ntmps25
  go_wp2
  go_ret
  exact ⟨rfl, rfl⟩
set_option maxHeartbeats 400000 in
theorem inclRef_mid (leaf root : ByteArray) (i n : Int) (v : Value) (w : World) (r : Option ByteArray) (h0 : 0 ≤ i) (h1 : i < n) (h : n ≤ 1099511627776)
  (hs : Calls Tryd.prog 65 #[.string leaf, .int .i64 i, .int .i64 n, v] w (ShowsAs r w)) :
    Calls Tryd.prog 25 #[.string leaf, .int .i64 i, .int .i64 n, v, .string root] w fun e w' => e = .returned (.bool (decide (r = some root))) ∧ Below w.heap.size w w' := by
  cases r with
  | none =>
    go_enter Tryd.func25, Tryd.ntmps25
    go_wp2_with (go_at_call 65; refine hs.mono ?_; rintro e w' ⟨x, ok, rfl, hs, ho, hv, hb⟩; obtain rfl : false = ok := ho)
    go_ret
    exact ⟨rfl, hb⟩
  | some y =>
    go_enter Tryd.func25, Tryd.ntmps25
    go_wp2_with (go_at_call 65; refine hs.mono ?_; rintro e w' ⟨x, ok, rfl, hs, ho, hv, hb⟩; obtain rfl : true = ok := ho; obtain rfl := hv y rfl; clear hv)
    go_ret
    exact ⟨by simp [eqs], hb⟩

theorem cl_shR (leaf : ByteArray) (i n : Nat) (ss : List ByteArray) (h1 : i < n) (h2 : n ≤ 1099511627776) : shR leaf ss.reverse i n = (cl 40 leaf leaf i (n - 1) ss).map (·.2) := by
  have := shR_cl leaf ss.reverse i n 40 h1 (by omega)
  rwa [List.reverse_reverse] at this

theorem inclRef_any (leaf root : ByteArray) (i n : Int) (v : Value) (ss : List ByteArray) (w : World) (hl : leaf.size ≤ 1048576) (hv : Lst w v ss) (hf : Few ss) :
    Calls Tryd.prog 25 #[.string leaf, .int .i64 i, .int .i64 n, v, .string root] w fun e w' => e = .returned (.bool (inclB leaf i n ss root)) ∧ Below w.heap.size w w' := by
  unfold inclB
  by_cases h0 : 0 ≤ i
  · by_cases h1 : i < n
    · by_cases h2 : n ≤ 1099511627776
      · obtain ⟨p, c, rfl, hc, hcell⟩ := hv
        obtain ⟨a, rfl⟩ := Int.eq_ofNat_of_zero_le h0
        obtain ⟨b, rfl⟩ := Int.eq_ofNat_of_zero_le (show 0 ≤ n by omega)
        have hs := shown_any leaf (by omega) ss.reverse p c a b w (by omega) (by omega) (by simpa using hc) (by simp; have := hf.1; omega) (fun s h => by have := hf.2 s (List.mem_reverse.1 h); omega) (by simpa using hcell)
        rw [cl_shR leaf a b ss (by omega) (by omega), List.length_reverse] at hs
        refine (inclRef_mid leaf root a b _ w _ h0 h1 h2 hs).mono fun e w' ⟨he, hb⟩ => ⟨?_, hb⟩
        rw [he, decide_eq_true (show (0 : Int) ≤ a ∧ (a : Int) < b ∧ (b : Int) ≤ 1099511627776 from ⟨h0, h1, h2⟩)]
        simp
      · refine (inclRef_great leaf root i n v w h0 h1 (by omega)).mono fun e w' ⟨he, hb⟩ => ⟨?_, by rw [hb]; exact Below.refl _ _⟩
        rw [he, decide_eq_false (by omega)]; rfl
    · refine (inclRef_high leaf root i n v w h0 (by omega)).mono fun e w' ⟨he, hb⟩ => ⟨?_, by rw [hb]; exact Below.refl _ _⟩
      rw [he, decide_eq_false (by omega)]; rfl
  · refine (inclRef_low leaf root i n v w (by omega)).mono fun e w' ⟨he, hb⟩ => ⟨?_, by rw [hb]; exact Below.refl _ _⟩
    rw [he, decide_eq_false (by omega)]; rfl

set_option maxHeartbeats 400000 in
theorem extRef_low (old root : ByteArray) (m n : Int) (v : Value) (w : World) (h : m < 1) :
    Calls Tryd.prog 26 #[.int .i64 m, .int .i64 n, .string old, .string root, v] w fun e w' => e = .returned (.bool false) ∧ w' = w := by
  go_enter Tryd.func26, Tryd.ntmps26
  go_wp2
  go_ret
  exact ⟨rfl, rfl⟩
set_option maxHeartbeats 400000 in
theorem extRef_high (old root : ByteArray) (m n : Int) (v : Value) (w : World) (h0 : 1 ≤ m) (h : n < m) :
    Calls Tryd.prog 26 #[.int .i64 m, .int .i64 n, .string old, .string root, v] w fun e w' => e = .returned (.bool false) ∧ w' = w := by
  go_enter Tryd.func26, Tryd.ntmps26
  go_wp2
  go_ret
  exact ⟨rfl, rfl⟩
set_option maxHeartbeats 400000 in
theorem extRef_great (old root : ByteArray) (m n : Int) (v : Value) (w : World) (h0 : 1 ≤ m) (h1 : m ≤ n) (h : 1099511627776 < n) :
    Calls Tryd.prog 26 #[.int .i64 m, .int .i64 n, .string old, .string root, v] w fun e w' => e = .returned (.bool false) ∧ w' = w := by
  go_enter Tryd.func26, Tryd.ntmps26
  go_wp2
  go_ret
  exact ⟨rfl, rfl⟩
set_option maxHeartbeats 400000 in
theorem extRef_mid (old root : ByteArray) (m n : Int) (v : Value) (w : World) (r : Option (ByteArray × ByteArray)) (h0 : 1 ≤ m) (h1 : m ≤ n) (h : n ≤ 1099511627776)
  (hs : Calls Tryd.prog 66 #[.int .i64 m, .int .i64 n, .bool true, .string old, v] w (BothAs r w)) :
    Calls Tryd.prog 26 #[.int .i64 m, .int .i64 n, .string old, .string root, v] w fun e w' => e = .returned (.bool (decide (r = some (old, root)))) ∧ Below w.heap.size w w' := by
  cases r with
  | none =>
    go_enter Tryd.func26, Tryd.ntmps26
    go_wp2_with (go_at_call 66; refine hs.mono ?_; rintro e w' ⟨x, y, ok, rfl, hs, ht, ho, hv, hb⟩; obtain rfl : false = ok := ho)
    go_ret
    exact ⟨rfl, hb⟩
  | some q =>
    obtain ⟨a, b⟩ := q
    by_cases ha : a = old
    · subst ha
      go_enter Tryd.func26, Tryd.ntmps26
      go_wp2_with (go_at_call 66; refine hs.mono ?_; rintro e w' ⟨x, y, ok, rfl, hs, ht, ho, hv, hb⟩; obtain rfl : true = ok := ho; obtain ⟨rfl, rfl⟩ := hv _ rfl; clear hv)
      go_ret
      exact ⟨by simp [eqs], hb⟩
    · have hE : (a.toList == old.toList) = false := by rw [eqs, decide_eq_false ha]
      have ha' : Hid (¬ a = old) := ha
      clear ha
      go_enter Tryd.func26, Tryd.ntmps26
      go_wp2_with (go_at_call 66; refine hs.mono ?_; rintro e w' ⟨x, y, ok, rfl, hs, ht, ho, hv, hb⟩; obtain rfl : true = ok := ho; obtain ⟨rfl, rfl⟩ := hv _ rfl; clear hv)
      go_ret
      exact ⟨by simp [ha'.out], hb⟩

theorem extRef_any (old root : ByteArray) (m n : Int) (v : Value) (ss : List ByteArray) (w : World) (hl : old.size ≤ 1048576) (hv : Lst w v ss) (hf : Few ss) :
    Calls Tryd.prog 26 #[.int .i64 m, .int .i64 n, .string old, .string root, v] w fun e w' => e = .returned (.bool (extB m n old root ss)) ∧ Below w.heap.size w w' := by
  unfold extB
  by_cases h0 : 1 ≤ m
  · by_cases h1 : m ≤ n
    · by_cases h2 : n ≤ 1099511627776
      · obtain ⟨p, c, rfl, hc, hcell⟩ := hv
        obtain ⟨a, rfl⟩ := Int.eq_ofNat_of_zero_le (show 0 ≤ m by omega)
        obtain ⟨b, rfl⟩ := Int.eq_ofNat_of_zero_le (show 0 ≤ n by omega)
        have hs := both_any old (by omega) ss.reverse p c a b true w (by omega) (by omega) (by omega) (by simpa using hc) (by simp; have := hf.1; omega) (fun s h => by have := hf.2 s (List.mem_reverse.1 h); omega) (by simpa using hcell)
        rw [List.length_reverse] at hs
        refine (extRef_mid old root a b _ w _ h0 h1 h2 hs).mono fun e w' ⟨he, hb⟩ => ⟨?_, hb⟩
        rw [he, decide_eq_true (show (1 : Int) ≤ a ∧ (a : Int) ≤ b ∧ (b : Int) ≤ 1099511627776 from ⟨h0, h1, h2⟩)]
        simp
      · refine (extRef_great old root m n v w h0 h1 (by omega)).mono fun e w' ⟨he, hb⟩ => ⟨?_, by rw [hb]; exact Below.refl _ _⟩
        rw [he, decide_eq_false (by omega)]; rfl
    · refine (extRef_high old root m n v w h0 (by omega)).mono fun e w' ⟨he, hb⟩ => ⟨?_, by rw [hb]; exact Below.refl _ _⟩
      rw [he, decide_eq_false (by omega)]; rfl
  · refine (extRef_low old root m n v w (by omega)).mono fun e w' ⟨he, hb⟩ => ⟨?_, by rw [hb]; exact Below.refl _ _⟩
    rw [he, decide_eq_false (by omega)]; rfl
end Go.Proofs.YtlhohmlpcgbliaaDoor
