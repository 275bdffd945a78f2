import Derived.Test.YtlhohmlpcgbliabGreatDoorProg
import Derived.Shelf.Small.Bits
import Derived.Shelf.Strconv.Itoa0
import Derived.Test.YtlhohmlpcgbliabGreatDoorZR19
namespace Go.Proofs.YtlhohmlpcgbliabGreatDoor
open Go.Shelf
def lays125_ren : Go.Shelf.Ren := ⟨fun | 125 => 105 | 128 => 121 | 129 => 122 | n => n, fun | 46 => 84 | 3 => 3 | 51 => 114 | 53 => 117 | 4 => 4 | 5 => 5 | 9 => 9 | n => n, fun | n => n⟩
theorem lays125 : Go.Proofs.Lays.n125 Tryz.prog lays125_ren := {
  mixed := by kernel_rfl
  f125 := Tryz.func105.trans (congrArg some (by kernel_rfl))
  f128 := Tryz.func121.trans (congrArg some (by kernel_rfl))
  f129 := Tryz.func122.trans (congrArg some (by kernel_rfl))
  t3 := Tryz.underlying3
  a3 := Tryz.isAgg3
  z3 := Tryz.sizeOf3
  v3 := Tryz.zeroValue3
  t4 := Tryz.underlying4
  a4 := Tryz.isAgg4
  z4 := Tryz.sizeOf4
  v4 := Tryz.zeroValue4
  t5 := Tryz.underlying5
  a5 := Tryz.isAgg5
  z5 := Tryz.sizeOf5
  v5 := Tryz.zeroValue5
  t9 := Tryz.underlying9
  a9 := Tryz.isAgg9
  z9 := Tryz.sizeOf9
  v9 := Tryz.zeroValue9
  t46 := Tryz.underlying84
  a46 := Tryz.isAgg84
  z46 := Tryz.sizeOf84
  v46 := Tryz.zeroValue84
  t51 := Tryz.underlying114
  a51 := Tryz.isAgg114
  z51 := Tryz.sizeOf114
  v51 := Tryz.zeroValue114
  t53 := Tryz.underlying117
  a53 := Tryz.isAgg117
  z53 := Tryz.sizeOf117
  v53 := Tryz.zeroValue117 }
theorem bits_Len (x : Int) (w : World) (h0 : 0 ≤ x) (h1 : x ≤ 18446744073709551615) :
    Calls Tryz.prog 105 #[.int .u64 x] w fun e w' => e = .returned (.int .i64 (Lib.bitLen x.toNat)) ∧ w' = w := Any.bits_Len lays125 x w h0 h1
end Go.Proofs.YtlhohmlpcgbliabGreatDoor
namespace Go.Proofs.YtlhohmlpcgbliabGreatDoor
set_option maxRecDepth 100000
open Go.RowKit
attribute [local go_sem ↓] Go.wp_at_zero Go.wp_at_succ

/-- The greatest power of 2 below n. -/
def spl (n : Nat) : Nat := 2 ^ Nat.log2 (n - 1)
theorem spl_of {n j : Nat} (h1 : 2 ^ j < n) (h2 : n ≤ 2 * 2 ^ j) : spl n = 2 ^ j := by
  unfold spl
  have h0 : 0 < 2 ^ j := Nat.two_pow_pos j
  have h3 : Nat.log2 (n - 1) = j := (Nat.log2_eq_iff (by omega)).2 ⟨by omega, by rw [Nat.pow_succ]; omega⟩
  rw [h3]
theorem spl_lt {n : Nat} (h : 2 ≤ n) : spl n < n := by
  have := Nat.log2_self_le (n := n - 1) (by omega)
  unfold spl; omega
theorem spl_pos (n : Nat) : 0 < spl n := Nat.two_pow_pos _
theorem spl_ge {n : Nat} (h : 2 ≤ n) : n ≤ 2 * spl n := by
  have := Nat.lt_log2_self (n := n - 1)
  unfold spl
  rw [Nat.pow_succ] at this; omega

set_option maxHeartbeats 400000 in
theorem splitRef_any (n : Nat) (w : World) (h2 : 2 ≤ n) (hn : n ≤ 1099511627776) :
    Calls Tryz.prog 30 #[.int .i64 (n : Int)] w fun e w' => e = .returned (.int .i64 ((spl n : Nat) : Int)) ∧ w' = w := by
  go_enter Tryz.func30, Tryz.ntmps30
  try go_wp2
  go_loopw [3] (fun k wr => ∃ j p : Nat, p = 2 ^ j ∧ p < n ∧ 0 < p ∧ k = .int .i64 (p : Int) ∧ wr = w) (fun k _ => n - (intOf k).toNat)
  case atStart => exact ⟨0, 1, rfl, by omega, by omega, rfl, rfl⟩
  case round =>
    obtain ⟨j, p, hp, hpn, hp0, rfl, rfl⟩ := hrel
    have HP : Hid (p = 2 ^ j) := hp
    clear hp
    by_cases h : 2 * p < n
    · go_wp2
      go_roundw
      case rel => exact ⟨j + 1, 2 * p, by rw [HP.out, Nat.pow_succ]; omega, h, by omega, by go_num, trivial⟩
      case measure => simp [intOf]; omega
    · have HS : Hid (spl n = p) := by
        show _ = _
        have hp := HP.out
        rw [hp] at hpn h
        rw [spl_of (n := n) (j := j) (by omega) (by omega), hp]
      go_wp2
      go_ret
      rw [HS.out]
      exact ⟨rfl, rfl⟩

theorem bitLenAux_log (f : Nat) : ∀ x, x ≠ 0 → x < 2 ^ f → Lib.bitLenAux f x = Nat.log2 x + 1 := by
  induction f with
  | zero => intro x h0 h1; simp at h1; omega
  | succ f ih =>
    intro x h0 h1
    rw [Lib.bitLenAux, if_neg h0]
    by_cases h2 : x / 2 = 0
    · have hx : x = 1 := by omega
      subst hx
      rw [h2]
      cases f <;> rfl
    · rw [ih (x / 2) h2 (by rw [Nat.pow_succ] at h1; omega)]
      conv => rhs; rw [Nat.log2_def]
      rw [if_pos (by omega)]
      omega
theorem bitLen_spl {n : Nat} (h : 2 ≤ n) (hn : n ≤ 1099511627776) : Lib.bitLen (n - 1) = Nat.log2 (n - 1) + 1 :=
  bitLenAux_log 64 _ (by omega) (by omega)

set_option maxHeartbeats 400000 in
theorem treeSplit_any (n : Nat) (w : World) (h2 : 2 ≤ n) (hn : n ≤ 1099511627776) :
    Calls Tryz.prog 80 #[.int .i64 (n : Int)] w fun e w' => e = .returned (.int .i64 ((spl n : Nat) : Int)) ∧ w' = w := by
  have hL := fun wx => bits_Len ((n : Int) - 1) wx (by omega) (by omega)
  have e1 : ((n : Int) - 1).toNat = n - 1 := by omega
  have hlog : Nat.log2 (n - 1) < 41 := (Nat.log2_lt (by omega)).2 (by omega)
  rw [e1, bitLen_spl h2 hn] at hL
  have HS : Hid (spl n = 2 ^ Nat.log2 (n - 1)) := rfl
  generalize Nat.log2 (n - 1) = g at *
  go_enter Tryz.func80, Tryz.ntmps80
  go_wp2_with (go_at_call 105; refine (hL _).mono ?_; rintro e w' ⟨rfl, rfl⟩)
  go_ret
  rw [HS.out]
  refine ⟨?_, rfl⟩
  have hp : (2 : Nat) ^ g < 2 ^ 41 := Nat.pow_lt_pow_right (by omega) hlog
  have hz : wrap64 (2 ^ g) = ((2 ^ g : Nat) : Int) := by
    rw [show ((2 : Int) ^ g) = ((2 ^ g : Nat) : Int) by simp]
    generalize (2 : Nat) ^ g = p at *
    exact IntWalk.wrap64_in _ ⟨by omega, by omega⟩
  rw [hz]
  rfl
end Go.Proofs.YtlhohmlpcgbliabGreatDoor
namespace Go.Proofs.YtlhohmlpcgbliabGreatDoor
set_option maxRecDepth 100000
open Go.RowKit
attribute [local go_sem ↓] Go.wp_at_zero Go.wp_at_succ

section
variable {P : Program} {ops : Array Oper} {Q : Exit → Act → World → Prop}
/-- A region that draws its order, walked from its start. -/
theorem wp_region_any {id : Nat} {l : List Oper} {a : Act} {w : World} (hm : P.follows .mixedOrders = true)
    (h : wpAnyH P .any l.toArray (NoPanic Q) (fun _ => True) l.length (Array.replicate l.length false) a w.drew) : (Code.region id l.toArray true).wp P Q a w := by
  refine wp_region_noPanic (wp_region_held (S := fun _ => True) hm ?_)
  simpa using h
/-- An operation that yields its value whatever the world is, and that nobody else touches, may be taken first. -/
theorem wpAnyH_pure {k fuel : Nat} {o : Oper} {v : Value} {listed : Array Bool} {a : Act} {w : World} (h0 : ops[k]? = some o) (hs : Region.noSelect ops = true) (hf : Region.free .any ops listed k = true)
    (hr : (Region.ready .any ops listed).contains k = true) (hgd : o.guard = none) (d : Option Nat) (hd : o.dst = d) (hv : ∀ wx, (execOp a.eval o).run P wx = .ok (.value v) wx)
    (h : wpAnyH P .any ops (NoPanic Q) (fun _ => True) fuel (listed.setIfInBounds k true) (a.put d v) w) : wpAnyH P .any ops (NoPanic Q) (fun _ => True) (fuel + 1) listed a w :=
  wpAnyH_take h0 hs hf hr (fun c a w hq => by cases hq) (.inl ⟨by simp [Region.wanted, hgd], fun wx _ => hv wx⟩) trivial (by rw [hd]; exact h)
/-- A call that comes up alone. -/
theorem wpAnyH_call {i fuel : Nat} {o : Oper} {listed : Array Bool} {a : Act} {w : World} {f : FuncId} {vs : Array Value} (hr : Region.ready .any ops listed = [i]) (hi : ops[i]? = some o) (hgd : o.guard = none) (d : Option Nat) (hd : o.dst = d)
    (hx : (execOp a.eval o).run P w = .ok (.enter f vs) w)
    (hc : Calls P f vs w fun e w' => ∃ v, e = .returned v ∧ wpAnyH P .any ops Q (fun _ => True) fuel (listed.setIfInBounds i true) (a.put d v) w') : wpAnyH P .any ops Q (fun _ => True) (fuel + 1) listed a w := by
  refine wpAnyH_all hr (by simp) ?_
  intro j hj
  simp at hj
  subst hj
  unfold wpOp
  have hw : Region.wanted o (yielded ops a.tmps) = true := by simp [Region.wanted, hgd]
  simp only [hi, hw, if_true]
  refine .inl ?_
  unfold Oper.wp
  rw [hx, Oper.upon_enter]
  refine hc.mono ?_
  rintro e w' ⟨v, rfl, h⟩
  rw [← hd] at h
  exact ⟨trivial, h⟩
/-- A last assignment. -/
theorem wpAnyH_put {i fuel : Nat} {o : Oper} {listed : Array Bool} {a : Act} {w : World} {v : Value} (hr : Region.ready .any ops listed = [i]) (hi : ops[i]? = some o) (hgd : o.guard = none) (d : Option Nat) (hd : o.dst = d)
    (hv : (execOp a.eval o).run P w = .ok (.value v) w) (h : wpAnyH P .any ops Q (fun _ => True) fuel (listed.setIfInBounds i true) (a.put d v) w) : wpAnyH P .any ops Q (fun _ => True) (fuel + 1) listed a w :=
  wpAnyH_val hr hi hgd hv trivial (by rw [hd]; exact h)
end

/-- The cells from ⟨b, o⟩ on hold these texts. -/
def SA (w : World) (b o : Nat) (ss : List ByteArray) : Prop := ∀ (i : Nat) s, ss[i]? = some s → w.cell? ⟨b, o + i, none⟩ = some (.string s)
theorem SA.below {w w' : World} {b o : Nat} {ss : List ByteArray} (h : SA w b o ss) (hb : Below w.heap.size w w') : SA w' b o ss := fun i s hs => by
  rw [hb.cell (World.block_lt_of_cell? _ _ (h i s hs))]; exact h i s hs
theorem SA.take {w : World} {b o : Nat} {ss : List ByteArray} (h : SA w b o ss) (k : Nat) : SA w b o (ss.take k) := fun i s hs => by
  rw [List.getElem?_take] at hs
  split at hs
  · exact h i s hs
  · cases hs
theorem SA.drop {w : World} {b o : Nat} {ss : List ByteArray} (h : SA w b o ss) (k : Nat) : SA w b (o + k) (ss.drop k) := fun i s hs => by
  rw [List.getElem?_drop] at hs
  rw [Nat.add_assoc]
  exact h (k + i) s hs

/-- The hash of a tree over these hashes, with fuel. -/
def mthF : Nat → List ByteArray → ByteArray
  | 0, l => l.headD (shaS [])
  | n + 1, l => if l.length ≤ 1 then l.headD (shaS []) else nodeS (mthF n (l.take (spl l.length))) (mthF n (l.drop (spl l.length)))
theorem mthF_eq : ∀ (n m : Nat) (l : List ByteArray), l.length ≤ n + 1 → l.length ≤ m + 1 → mthF n l = mthF m l := by
  intro n
  induction n with
  | zero =>
    intro m l h1 _
    cases m with
    | zero => rfl
    | succ m => simp only [mthF]; rw [if_pos (by omega)]
  | succ n ih =>
    intro m l h1 h2
    cases m with
    | zero => simp only [mthF]; rw [if_pos (by omega)]
    | succ m =>
      simp only [mthF]
      by_cases h : l.length ≤ 1
      · rw [if_pos h, if_pos h]
      · have h3 := spl_lt (n := l.length) (by omega)
        have h4 := spl_pos l.length
        rw [if_neg h, if_neg h, ih m (l.take (spl l.length)) (by rw [List.length_take]; omega) (by rw [List.length_take]; omega), ih m (l.drop (spl l.length)) (by rw [List.length_drop]; omega) (by rw [List.length_drop]; omega)]
/-- The hash of a tree over these hashes. -/
def mth (l : List ByteArray) : ByteArray := mthF l.length l
theorem mth_nil : mth [] = shaS [] := rfl
theorem mth_one (s : ByteArray) : mth [s] = s := by simp [mth, mthF]
theorem mth_two {l : List ByteArray} (h : 2 ≤ l.length) : mth l = nodeS (mth (l.take (spl l.length))) (mth (l.drop (spl l.length))) := by
  obtain ⟨n, hn⟩ : ∃ n, l.length = n + 1 := ⟨l.length - 1, by omega⟩
  have h3 := spl_lt (n := l.length) h
  have h4 := spl_pos l.length
  have e : mth l = mthF (n + 1) l := by unfold mth; rw [hn]
  rw [e, mthF, if_neg (by omega), mthF_eq n (l.take (spl l.length)).length (l.take (spl l.length)) (by rw [List.length_take]; omega) (by omega), mthF_eq n (l.drop (spl l.length)).length (l.drop (spl l.length)) (by rw [List.length_drop]; omega) (by omega)]
  rfl
theorem nodeS_size (a b : ByteArray) : (nodeS a b).size = 32 := shaS_size _
theorem leafS_size (a : ByteArray) : (leafS a).size = 32 := shaS_size _
theorem mth_size {l : List ByteArray} {N : Nat} (h : ∀ s ∈ l, s.size < N) (hN : 32 < N) : (mth l).size < N := by
  by_cases h2 : 2 ≤ l.length
  · rw [mth_two h2, nodeS_size]; exact hN
  · match l, h2 with
    | [], _ => rw [mth_nil, shaS_size]; exact hN
    | [s], _ => rw [mth_one]; exact h s (by simp)
    | _ :: _ :: _, h2 => simp at h2


theorem slice_h (w : World) (b o n c k : Nat) (hc : k ≤ c) : (Instr.sliceAt 22 (.slice (some ⟨b, o, none⟩) n c) none (some (.int .i64 (k : Int))) none).run Tryz.prog w = .ok (.slice (some ⟨b, o, none⟩) k c) w := by
  rw [run_sliceAt_slice w 22 _ _ _ _ (by kernel_rfl), run_slice_h w 22 _ _ _ (by kernel_rfl) .i64 (k : Int) (by omega) (by omega)]
  simp [sliced, go_sem, Addr.add]
theorem slice_l (w : World) (b o n c k : Nat) (hk : k < n) (hc : n ≤ c) : (Instr.sliceAt 22 (.slice (some ⟨b, o, none⟩) n c) (some (.int .i64 (k : Int))) none none).run Tryz.prog w = .ok (.slice (some ⟨b, o + k, none⟩) (n - k) (c - k)) w := by
  rw [run_sliceAt_slice w 22 _ _ _ _ (by kernel_rfl), run_slice_l w 22 _ _ _ (by kernel_rfl) .i64 (k : Int) (by omega) (by omega)]
  have h1 : c ≠ k := by omega
  simp [sliced, go_sem, Addr.add, h1]
end Go.Proofs.YtlhohmlpcgbliabGreatDoor
namespace Go.Proofs.YtlhohmlpcgbliabGreatDoor
set_option maxRecDepth 100000

/-- What is met on the way up: the hash of the first ones, and of all; none where the list is too short or too long. -/
def cl : Nat → ByteArray → ByteArray → Nat → Nat → List ByteArray → Option (ByteArray × ByteArray)
  | 0, p, w, _, last, l => if last = 0 ∧ l = [] then some (p, w) else none
  | f + 1, p, w, i, last, l =>
    if last = 0 then (if l = [] then some (p, w) else none)
    else if i % 2 = 1 then (match l with
      | [] => none
      | x :: r => cl f (nodeS x p) (nodeS x w) (i / 2) (last / 2) r)
    else if i < last then (match l with
      | [] => none
      | x :: r => cl f p (nodeS w x) (i / 2) (last / 2) r)
    else cl f p w (i / 2) (last / 2) l

theorem cl_zero (f : Nat) (p w : ByteArray) (i : Nat) (l : List ByteArray) : cl f p w i 0 l = if l = [] then some (p, w) else none := by
  cases f <;> simp [cl]

/-- More fuel than bits is enough. -/
theorem cl_fuel : ∀ (f g : Nat) (p w : ByteArray) (i last : Nat) (l : List ByteArray), last < 2 ^ f → last < 2 ^ g → cl f p w i last l = cl g p w i last l := by
  intro f
  induction f with
  | zero =>
    intro g p w i last l h1 _
    obtain rfl : last = 0 := by simpa using h1
    rw [cl_zero, cl_zero]
  | succ f ih =>
    intro g p w i last l h1 h2
    cases g with
    | zero =>
      obtain rfl : last = 0 := by simpa using h2
      rw [cl_zero, cl_zero]
    | succ g =>
      have h3 : last / 2 < 2 ^ f := by rw [Nat.pow_succ] at h1; omega
      have h4 : last / 2 < 2 ^ g := by rw [Nat.pow_succ] at h2; omega
      simp only [cl]
      cases l with
      | nil => simp only [ih g p w (i / 2) (last / 2) [] h3 h4]
      | cons x r => simp only [ih g _ _ (i / 2) (last / 2) _ h3 h4]

/-- Nothing is left of the list, but the way goes on. -/
theorem cl_short : ∀ (f : Nat) (p w : ByteArray) (i last : Nat), i ≤ last → 0 < last → last < 2 ^ f → cl f p w i last [] = none := by
  intro f
  induction f with
  | zero => intro p w i last _ h0 h1; simp at h1; omega
  | succ f ih =>
    intro p w i last h h0 h1
    rw [Nat.pow_succ] at h1
    simp only [cl]
    rw [if_neg (by omega)]
    by_cases h2 : i % 2 = 1
    · rw [if_pos h2]
    · rw [if_neg h2]
      by_cases h3 : i < last
      · rw [if_pos h3]
      · rw [if_neg h3]
        exact ih p w (i / 2) (last / 2) (by omega) (by omega) (by omega)

/-- Up the left half, and then the right half's hash. -/
theorem cl_left : ∀ (h f : Nat) (p w : ByteArray) (i last : Nat) (l : List ByteArray) (x : ByteArray), i < 2 ^ h → 2 ^ h ≤ last → last < 2 * 2 ^ h → h < f →
    cl f p w i last (l ++ [x]) = (cl f p w i (2 ^ h - 1) l).map fun r => (r.1, nodeS r.2 x) := by
  intro h
  induction h with
  | zero =>
    intro f p w i last l x h1 h2 h3 hf
    obtain ⟨f, rfl⟩ : ∃ g, f = g + 1 := ⟨f - 1, by omega⟩
    have e1 : i = 0 := by omega
    have e2 : last = 1 := by omega
    subst e1; subst e2
    simp only [cl]
    cases l with
    | nil => simp [cl_zero]
    | cons y r => simp [cl_zero]
  | succ h ih =>
    intro f p w i last l x h1 h2 h3 hf
    obtain ⟨f, rfl⟩ : ∃ g, f = g + 1 := ⟨f - 1, by omega⟩
    have hp := Nat.two_pow_pos h
    rw [Nat.pow_succ] at h1 h2 h3 ⊢
    have hfp : 2 ^ h < 2 ^ f := Nat.pow_lt_pow_right (by omega) (by omega)
    have hlf : last / 2 < 2 ^ f := by
      have : 2 ^ (h + 1) ≤ 2 ^ f := Nat.pow_le_pow_right (by omega) (by omega)
      rw [Nat.pow_succ] at this; omega
    have e3 : (2 ^ h * 2 - 1) / 2 = 2 ^ h - 1 := by omega
    simp only [cl]
    rw [if_neg (show ¬ last = 0 by omega), if_neg (show ¬ 2 ^ h * 2 - 1 = 0 by omega), e3]
    by_cases h4 : i % 2 = 1
    · rw [if_pos h4, if_pos h4]
      cases l with
      | nil => simpa using cl_short f _ _ (i / 2) (last / 2) (by omega) (by omega) hlf
      | cons y r => simpa using ih f _ _ (i / 2) (last / 2) r x (by omega) (by omega) (by omega) (by omega)
    · rw [if_neg h4, if_neg h4, if_pos (show i < last by omega), if_pos (show i < 2 ^ h * 2 - 1 by omega)]
      cases l with
      | nil => simpa using cl_short f _ _ (i / 2) (last / 2) (by omega) (by omega) hlf
      | cons y r => simpa using ih f _ _ (i / 2) (last / 2) r x (by omega) (by omega) (by omega) (by omega)

/-- Up the right half, and then the left half's hash. -/
theorem cl_right : ∀ (h f : Nat) (p w : ByteArray) (i last : Nat) (l : List ByteArray) (x : ByteArray), i ≤ last → last < 2 ^ h → h < f →
    cl f p w (2 ^ h + i) (2 ^ h + last) (l ++ [x]) = (cl f p w i last l).map fun r => (nodeS x r.1, nodeS x r.2) := by
  intro h
  induction h with
  | zero =>
    intro f p w i last l x h1 h2 hf
    obtain ⟨f, rfl⟩ : ∃ g, f = g + 1 := ⟨f - 1, by omega⟩
    have e2 : last = 0 := by omega
    have e1 : i = 0 := by omega
    subst e1; subst e2
    simp only [cl]
    cases l with
    | nil => simp [cl_zero]
    | cons y r => simp [cl_zero]
  | succ h ih =>
    intro f p w i last l x h1 h2 hf
    obtain ⟨f, rfl⟩ : ∃ g, f = g + 1 := ⟨f - 1, by omega⟩
    have hp := Nat.two_pow_pos h
    have hff : 2 ^ (h + 1) ≤ 2 ^ f := Nat.pow_le_pow_right (by omega) (by omega)
    rw [Nat.pow_succ] at h2 hff ⊢
    have e1 : (2 ^ h * 2 + i) / 2 = 2 ^ h + i / 2 := by omega
    have e2 : (2 ^ h * 2 + last) / 2 = 2 ^ h + last / 2 := by omega
    have e3 : (2 ^ h * 2 + i) % 2 = i % 2 := by omega
    by_cases h0 : last = 0
    · obtain rfl : i = 0 := by omega
      subst h0
      have := ih f p w 0 0 l x (Nat.le_refl _) hp (by omega)
      simp only [Nat.add_zero, cl_zero] at this ⊢
      simp only [cl]
      rw [if_neg (show ¬ 2 ^ h * 2 = 0 by omega), if_neg (show ¬ (2 ^ h * 2) % 2 = 1 by omega), if_neg (by omega), show 2 ^ h * 2 / 2 = 2 ^ h by omega]
      exact this
    · simp only [cl]
      rw [if_neg (show ¬ 2 ^ h * 2 + last = 0 by omega), if_neg h0, e1, e2, e3]
      by_cases h4 : i % 2 = 1
      · rw [if_pos h4, if_pos h4]
        cases l with
        | nil => simpa using cl_short f _ _ (2 ^ h + i / 2) (2 ^ h + last / 2) (by omega) (by omega) (by omega)
        | cons y r => simpa using ih f _ _ (i / 2) (last / 2) r x (by omega) (by omega) (by omega)
      · rw [if_neg h4, if_neg h4]
        by_cases h5 : i < last
        · rw [if_pos (show 2 ^ h * 2 + i < 2 ^ h * 2 + last by omega), if_pos h5]
          cases l with
          | nil => simpa using cl_short f _ _ (2 ^ h + i / 2) (2 ^ h + last / 2) (by omega) (by omega) (by omega)
          | cons y r => simpa using ih f _ _ (i / 2) (last / 2) r x (by omega) (by omega) (by omega)
        · rw [if_neg (show ¬ 2 ^ h * 2 + i < 2 ^ h * 2 + last by omega), if_neg h5]
          exact ih f p w (i / 2) (last / 2) l x (by omega) (by omega) (by omega)

/-- What the reference shows, the list read from its end. -/
def shR (leaf : ByteArray) : List ByteArray → Nat → Nat → Option ByteArray
  | [], _, n => if n = 1 then some leaf else none
  | x :: r, i, n => if n = 1 then none else if i < spl n then (shR leaf r i (spl n)).map fun h => nodeS h x else (shR leaf r (i - spl n) (n - spl n)).map fun h => nodeS x h

theorem spl_pow (n : Nat) : ∃ h, spl n = 2 ^ h := ⟨_, rfl⟩

theorem shR_cl (leaf : ByteArray) : ∀ (rl : List ByteArray) (i n f : Nat), i < n → n ≤ 2 ^ f → shR leaf rl i n = (cl f leaf leaf i (n - 1) rl.reverse).map (·.2) := by
  intro rl
  induction rl with
  | nil =>
    intro i n f hi hn
    simp only [shR, List.reverse_nil]
    by_cases h1 : n = 1
    · subst h1; rw [if_pos rfl]; simp [cl_zero]
    · rw [if_neg h1, cl_short f _ _ _ _ (by omega) (by omega) (by omega)]; rfl
  | cons x r ih =>
    intro i n f hi hn
    simp only [shR, List.reverse_cons]
    by_cases h1 : n = 1
    · subst h1; rw [if_pos rfl]; simp [cl_zero]
    · rw [if_neg h1]
      have hl := spl_lt (n := n) (by omega)
      have hg := spl_ge (n := n) (by omega)
      obtain ⟨h, hh⟩ := spl_pow n
      rw [hh] at hl hg ⊢
      have hf : h < f := by
        apply Nat.lt_of_not_le
        intro hle
        have := Nat.pow_le_pow_right (n := 2) (by omega) hle
        omega
      by_cases h2 : i < 2 ^ h
      · rw [if_pos h2, ih i (2 ^ h) f h2 (by omega), cl_left h f _ _ i (n - 1) _ x h2 (by omega) (by omega) hf]
        simp [Option.map_map, Function.comp_def]
      · rw [if_neg h2, ih (i - 2 ^ h) (n - 2 ^ h) f (by omega) (by omega)]
        have e1 : i = 2 ^ h + (i - 2 ^ h) := by omega
        have e2 : n - 1 = 2 ^ h + (n - 2 ^ h - 1) := by omega
        have := cl_right h f leaf leaf (i - 2 ^ h) (n - 2 ^ h - 1) r.reverse x (by omega) (by omega) hf
        rw [← e1, ← e2] at this
        rw [this]
        simp [Option.map_map, Function.comp_def]
end Go.Proofs.YtlhohmlpcgbliabGreatDoor
namespace Go.Proofs.YtlhohmlpcgbliabGreatDoor
set_option maxRecDepth 100000

/-- What the reference shows of the first m and of all n, the list read from its end. -/
def boR (old : ByteArray) : List ByteArray → Nat → Nat → Bool → Option (ByteArray × ByteArray)
  | [], m, n, all => if m = n then (if all then some (old, old) else none) else none
  | x :: r, m, n, all =>
    if m = n then (if all then none else if r = [] then some (x, x) else none)
    else if m ≤ spl n then (boR old r m (spl n) all).map fun q => (q.1, nodeS q.2 x)
    else (boR old r (m - spl n) (n - spl n) false).map fun q => (nodeS x q.1, nodeS x q.2)

/-- The way up, from old or from the list's first. -/
def St (f : Nat) (b : Bool) (old : ByteArray) (i last : Nat) (l : List ByteArray) : Option (ByteArray × ByteArray) :=
  if b then cl f old old i last l else match l with
    | [] => none
    | s :: r => cl f s s i last r

theorem St_left (h f : Nat) (b : Bool) (old : ByteArray) (i last : Nat) (l : List ByteArray) (x : ByteArray) (h1 : i < 2 ^ h) (h2 : 2 ^ h ≤ last) (h3 : last < 2 * 2 ^ h) (hf : h < f) :
    St f b old i last (l ++ [x]) = (St f b old i (2 ^ h - 1) l).map fun r => (r.1, nodeS r.2 x) := by
  have hp := Nat.two_pow_pos h
  have hlf : last < 2 ^ f := by
    have : 2 ^ (h + 1) ≤ 2 ^ f := Nat.pow_le_pow_right (by omega) (by omega)
    rw [Nat.pow_succ] at this; omega
  cases b with
  | true => simpa [St] using cl_left h f old old i last l x h1 h2 h3 hf
  | false =>
    cases l with
    | nil => simpa [St] using cl_short f x x i last (by omega) (by omega) hlf
    | cons s t => simpa [St] using cl_left h f s s i last t x h1 h2 h3 hf

theorem St_right (h f : Nat) (old : ByteArray) (i last : Nat) (l : List ByteArray) (x : ByteArray) (h1 : i ≤ last) (h2 : last < 2 ^ h) (hf : h < f) :
    St f false old (2 ^ h + i) (2 ^ h + last) (l ++ [x]) = (St f false old i last l).map fun r => (nodeS x r.1, nodeS x r.2) := by
  have hp := Nat.two_pow_pos h
  have hlf : 2 ^ h + last < 2 ^ f := by
    have : 2 ^ (h + 1) ≤ 2 ^ f := Nat.pow_le_pow_right (by omega) (by omega)
    rw [Nat.pow_succ] at this; omega
  cases l with
  | nil => simpa [St] using cl_short f x x (2 ^ h + i) (2 ^ h + last) (by omega) (by omega) hlf
  | cons s t => simpa [St] using cl_right h f s s i last t x h1 h2 hf

theorem boR_full (old : ByteArray) (f k : Nat) (all : Bool) (r : List ByteArray) : boR old r k k all = St f all old 0 0 r.reverse := by
  cases r with
  | nil => cases all <;> simp [boR, St, cl_zero]
  | cons y r =>
    cases all with
    | true => simp [boR, St, cl_zero]
    | false =>
      by_cases hr : r = []
      · subst hr; simp [boR, St, cl_zero]
      · have hne : (y :: r).reverse ≠ [] := by simp
        have hlen : (y :: r).reverse.length = r.length + 1 := by simp
        have hr0 : 0 < r.length := List.length_pos_iff.2 hr
        cases hq : (y :: r).reverse with
        | nil => exact absurd hq hne
        | cons s t =>
          have ht : t ≠ [] := by
            rintro rfl
            rw [hq] at hlen
            have : 1 = r.length + 1 := hlen
            omega
          simp [boR, St, cl_zero, hr, ht]

theorem boR_cl (old : ByteArray) : ∀ (rl : List ByteArray) (h a m n f : Nat) (all : Bool), m = 2 ^ h * (2 * a + 1) → m < n → n ≤ 2 ^ f →
    boR old rl m n all = St f (all && decide (a = 0)) old (2 * a) ((n - 1) / 2 ^ h) rl.reverse := by
  intro rl
  induction rl with
  | nil =>
    intro h a m n f all hm hn hf
    have hp := Nat.two_pow_pos h
    have h1 : 2 * a + 1 ≤ (n - 1) / 2 ^ h := (Nat.le_div_iff_mul_le hp).2 (by rw [Nat.mul_comm]; omega)
    have h2 : (n - 1) / 2 ^ h ≤ n - 1 := Nat.div_le_self _ _
    simp only [boR, List.reverse_nil]
    rw [if_neg (by omega)]
    cases hb : (all && decide (a = 0)) with
    | true => simp [St, cl_short f old old (2 * a) ((n - 1) / 2 ^ h) (by omega) (by omega) (by omega)]
    | false => simp [St]
  | cons x r ih =>
    intro h a m n f all hm hn hf
    have hp := Nat.two_pow_pos h
    have hm0 : 0 < m := by rw [hm]; exact Nat.mul_pos hp (by omega)
    have hl := spl_lt (n := n) (by omega)
    have hg := spl_ge (n := n) (by omega)
    obtain ⟨H, hH⟩ := spl_pow n
    have hHp := Nat.two_pow_pos H
    simp only [boR, List.reverse_cons]
    rw [if_neg (by omega)]
    rw [hH] at hl hg ⊢
    have hHf : H < f := by
      apply Nat.lt_of_not_le
      intro hle
      have := Nat.pow_le_pow_right (n := 2) (by omega) hle
      omega
    by_cases hmk : m ≤ 2 ^ H
    · rw [if_pos hmk]
      have hhm : 2 ^ h ≤ m := by rw [hm]; exact Nat.le_mul_of_pos_right _ (by omega)
      have hhH : h ≤ H := (Nat.pow_le_pow_iff_right (by omega)).1 (Nat.le_trans hhm hmk)
      obtain ⟨d, rfl⟩ : ∃ d, H = h + d := ⟨H - h, by omega⟩
      rw [Nat.pow_add] at *
      have hdp := Nat.two_pow_pos d
      generalize hD : 2 ^ h = D at *
      have g1 : 2 ^ d ≤ (n - 1) / D := (Nat.le_div_iff_mul_le hp).2 (by rw [Nat.mul_comm]; omega)
      have g2 : (n - 1) / D < 2 * 2 ^ d := (Nat.div_lt_iff_lt_mul hp).2 (by rw [show 2 * 2 ^ d * D = 2 * (D * 2 ^ d) by rw [Nat.mul_assoc, Nat.mul_comm (2 ^ d)]]; omega)
      by_cases he : m = D * 2 ^ d
      · have h3 : 2 * a + 1 = 2 ^ d := Nat.eq_of_mul_eq_mul_left hp (hm.symm.trans he)
        have hd0 : d = 0 := by
          cases d with
          | zero => rfl
          | succ d => rw [Nat.pow_succ] at h3; omega
        subst hd0
        obtain rfl : a = 0 := by simp at h3; omega
        rw [he, boR_full old f _ all r]
        have := St_left 0 f all old 0 ((n - 1) / D) r.reverse x (by simp) g1 g2 (by omega)
        simpa using this.symm
      · have h3 : 2 * a + 1 < 2 ^ d := Nat.lt_of_mul_lt_mul_left (a := D) (by rw [← hm]; omega)
        have e1 : (D * 2 ^ d - 1) / D = 2 ^ d - 1 := by
          have e : D * 2 ^ d - 1 = D * (2 ^ d - 1) + (D - 1) := by
            obtain ⟨q, hq⟩ : ∃ q, 2 ^ d = q + 1 := ⟨2 ^ d - 1, by omega⟩
            rw [hq, Nat.add_sub_cancel, Nat.mul_add, Nat.mul_one]; omega
          rw [e, Nat.mul_add_div hp, Nat.div_eq_of_lt (by omega)]; rfl
        have hi := ih h a m (D * 2 ^ d) f all (by rw [hD]; exact hm) (by omega) (by omega)
        rw [hD, e1] at hi
        rw [hi, St_left d f (all && decide (a = 0)) old (2 * a) ((n - 1) / D) r.reverse x (by omega) g1 g2 (by omega)]
    · rw [if_neg hmk]
      have hhH : h < H := by
        apply Nat.lt_of_not_le
        intro hle
        obtain ⟨c, rfl⟩ : ∃ c, h = H + c := ⟨h - H, by omega⟩
        rw [Nat.pow_add, Nat.mul_assoc] at hm
        generalize 2 ^ c * (2 * a + 1) = q at hm
        have q1 : 1 < q := Nat.lt_of_mul_lt_mul_left (a := 2 ^ H) (by rw [← hm]; omega)
        have q2 : q < 2 := Nat.lt_of_mul_lt_mul_left (a := 2 ^ H) (by rw [← hm]; omega)
        omega
      obtain ⟨d, rfl⟩ : ∃ d, H = h + (d + 1) := ⟨H - h - 1, by omega⟩
      rw [Nat.pow_add] at *
      have hdp := Nat.two_pow_pos d
      generalize hD : 2 ^ h = D at *
      have hK : 2 ^ (d + 1) = 2 * 2 ^ d := by rw [Nat.pow_succ]; omega
      have h3 : 2 ^ (d + 1) < 2 * a + 1 := Nat.lt_of_mul_lt_mul_left (a := D) (by rw [← hm]; omega)
      obtain ⟨a', ha'⟩ : ∃ a', a = 2 ^ d + a' := ⟨a - 2 ^ d, by omega⟩
      have h4 : m - D * 2 ^ (d + 1) = D * (2 * a' + 1) := by
        rw [hm, ← Nat.mul_sub]
        congr 1
        omega
      have hi := ih h a' (m - D * 2 ^ (d + 1)) (n - D * 2 ^ (d + 1)) f false (by rw [hD]; exact h4) (by omega) (by omega)
      rw [hD] at hi
      have e2 : (n - 1) / D = 2 ^ (d + 1) + (n - D * 2 ^ (d + 1) - 1) / D := by
        rw [← Nat.mul_add_div hp]
        congr 1
        omega
      have e3 : 2 * a = 2 ^ (d + 1) + 2 * a' := by omega
      have h5 : 2 * a' + 1 ≤ (n - D * 2 ^ (d + 1) - 1) / D := (Nat.le_div_iff_mul_le hp).2 (by rw [Nat.mul_comm (2 * a' + 1) D, ← h4]; omega)
      have h6 : (n - D * 2 ^ (d + 1) - 1) / D < 2 ^ (d + 1) := (Nat.div_lt_iff_lt_mul hp).2 (by rw [Nat.mul_comm (2 ^ (d + 1)) D]; omega)
      have hb : (all && decide (a = 0)) = false := by
        rw [decide_eq_false (by omega)]; simp
      rw [hi, hb, e2, e3, St_right (d + 1) f old (2 * a') _ r.reverse x (by omega) h6 (by omega)]
      rfl

end Go.Proofs.YtlhohmlpcgbliabGreatDoor
namespace Go.Proofs.YtlhohmlpcgbliabGreatDoor
set_option maxRecDepth 100000
open Go.RowKit
attribute [local go_sem ↓] Go.wp_at_zero Go.wp_at_succ

theorem exec_slice {P : Program} {o : Oper} {a : Act} {w : World} {t : TypeId} {x : Operand} {lo hi mx : Option Operand} {v u : Value} {l h m : Option Value} (ho : o.op = .slice t x lo hi mx) (hx : a.eval x = v) (hl : lo.map a.eval = l) (hh : hi.map a.eval = h) (hmm : mx.map a.eval = m)
    (hr : (Instr.sliceAt t v l h m).run P w = .ok u w) : (execOp a.eval o).run P w = .ok (.value u) w := by
  unfold execOp
  simp only [ho, hx, hl, hh, hmm, Sem.run_bind, hr, Result.andThen_ok, Sem.run_pure]

/-- What a part's call gives, in every world that has grown out of w. -/
def Gives (w : World) (f : FuncId) (vs : Array Value) (x : ByteArray) : Prop := ∀ wx, Below w.heap.size w wx → Calls Tryz.prog f vs wx fun e w' => e = .returned (.string x) ∧ Below wx.heap.size wx w'

set_option maxRecDepth 100000 in
set_option maxHeartbeats 1000000 in
theorem rtR6_wp {c1 c4 c5 c6 c7 c8 c9 c10 c11 c12 c13 c14 c15 c16 c17 c18 c19 c20 c21 c22 c23 c24 c25 : Value} (b o n c k : Nat) (v2 : Value) (x y z : ByteArray) (w : World) (Q : Exit → Act → World → Prop) (hk : k < n) (hc : n ≤ c)
  (h1 : Gives w 15 #[.slice (some ⟨b, o, none⟩) k c] x) (h2 : Gives w 15 #[.slice (some ⟨b, o + k, none⟩) (n - k) (c - k)] y) (h3 : Gives w 14 #[.string x, .string y] z)
  (hQ : ∀ (u17 u18 u19 u20 u21 u22 u23 u24 u25 : Value) (w' : World), Below w.heap.size w w' → Q .normal ⟨#[.slice (some ⟨b, o, none⟩) n c, c1, .string z, .int .i64 (k : Int), c4, c5, c6, c7, c8, c9, c10, c11, c12, c13, c14, c15, c16, u17, u18, u19, u20, u21, u22, u23, u24, u25], []⟩ w') :
  Code.wp Tryz.prog (rgn Tryz.f15 6) Q ⟨#[.slice (some ⟨b, o, none⟩) n c, c1, v2, .int .i64 (k : Int), c4, c5, c6, c7, c8, c9, c10, c11, c12, c13, c14, c15, c16, c17, c18, c19, c20, c21, c22, c23, c24, c25], []⟩ w := by
  conv => arg 2; whnf
  refine wp_region_any (by kernel_rfl) ?_
  refine wpAnyH_pure (k := 0) (v := .slice (some ⟨b, o, none⟩) n c) (by rfl) (by kernel_rfl) (by kernel_rfl) (by kernel_rfl) (by rfl) (some 17) (by rfl) (fun _ => by kernel_rfl) ?_
  simp only [Act.put, List.setIfInBounds_toArray, List.set_cons_succ, List.set_cons_zero]
  refine wpAnyH_pure (k := 1) (v := .int .i64 (k : Int)) (by rfl) (by kernel_rfl) (by kernel_rfl) (by kernel_rfl) (by rfl) (some 18) (by rfl) (fun _ => by kernel_rfl) ?_
  simp only [Act.put, List.setIfInBounds_toArray, List.set_cons_succ, List.set_cons_zero]
  refine wpAnyH_pure (k := 2) (v := .slice (some ⟨b, o, none⟩) k c) (by rfl) (by kernel_rfl) (by kernel_rfl) (by kernel_rfl) (by rfl) (some 19) (by rfl) (fun wx => exec_slice (by rfl) (by rfl) (by rfl) (by rfl) (by rfl) (slice_h wx b o n c k (by omega))) ?_
  simp only [Act.put, List.setIfInBounds_toArray, List.set_cons_succ, List.set_cons_zero]
  refine wpAnyH_pure (k := 4) (v := .slice (some ⟨b, o, none⟩) n c) (by rfl) (by kernel_rfl) (by kernel_rfl) (by kernel_rfl) (by rfl) (some 21) (by rfl) (fun _ => by kernel_rfl) ?_
  simp only [Act.put, List.setIfInBounds_toArray, List.set_cons_succ, List.set_cons_zero]
  refine wpAnyH_pure (k := 5) (v := .int .i64 (k : Int)) (by rfl) (by kernel_rfl) (by kernel_rfl) (by kernel_rfl) (by rfl) (some 22) (by rfl) (fun _ => by kernel_rfl) ?_
  simp only [Act.put, List.setIfInBounds_toArray, List.set_cons_succ, List.set_cons_zero]
  refine wpAnyH_pure (k := 6) (v := .slice (some ⟨b, o + k, none⟩) (n - k) (c - k)) (by rfl) (by kernel_rfl) (by kernel_rfl) (by kernel_rfl) (by rfl) (some 23) (by rfl) (fun wx => exec_slice (by rfl) (by rfl) (by rfl) (by rfl) (by rfl) (slice_l wx b o n c k hk hc)) ?_
  simp only [Act.put, List.setIfInBounds_toArray, List.set_cons_succ, List.set_cons_zero]
  have hb0 : Below w.heap.size w w.drew := (Below.refl _ _).drew
  refine wpAnyH_call (i := 3) (f := 15) (vs := #[.slice (some ⟨b, o, none⟩) k c]) (by kernel_rfl) (by rfl) (by rfl) (some 20) (by rfl) (by kernel_rfl) ((h1 _ hb0).mono ?_)
  rintro e w1 ⟨rfl, hb1⟩
  refine ⟨_, rfl, ?_⟩
  simp only [Act.put, List.setIfInBounds_toArray, List.set_cons_succ, List.set_cons_zero]
  have hb2 : Below w.heap.size w w1 := hb0.trans (hb1.mono hb0.size)
  refine wpAnyH_call (i := 7) (f := 15) (vs := #[.slice (some ⟨b, o + k, none⟩) (n - k) (c - k)]) (by kernel_rfl) (by rfl) (by rfl) (some 24) (by rfl) (by kernel_rfl) ((h2 _ hb2).mono ?_)
  rintro e w2 ⟨rfl, hb3⟩
  refine ⟨_, rfl, ?_⟩
  simp only [Act.put, List.setIfInBounds_toArray, List.set_cons_succ, List.set_cons_zero]
  have hb4 : Below w.heap.size w w2 := hb2.trans (hb3.mono hb2.size)
  refine wpAnyH_call (i := 8) (f := 14) (vs := #[.string x, .string y]) (by kernel_rfl) (by rfl) (by rfl) (some 25) (by rfl) (by kernel_rfl) ((h3 _ hb4).mono ?_)
  rintro e w3 ⟨rfl, hb5⟩
  refine ⟨_, rfl, ?_⟩
  simp only [Act.put, List.setIfInBounds_toArray, List.set_cons_succ, List.set_cons_zero]
  have hb6 : Below w.heap.size w w3 := hb4.trans (hb5.mono hb4.size)
  refine wpAnyH_put (i := 9) (v := .string z) (by kernel_rfl) (by rfl) (by rfl) (some 2) (by rfl) (by kernel_rfl) ?_
  simp only [Act.put, List.setIfInBounds_toArray, List.set_cons_succ, List.set_cons_zero]
  refine wpAnyH_done (by kernel_rfl) ?_ _
  refine NoPanic.normal ?_
  exact hQ _ _ _ _ _ _ _ _ _ _ hb6
end Go.Proofs.YtlhohmlpcgbliabGreatDoor
namespace Go.Proofs.YtlhohmlpcgbliabGreatDoor
set_option maxRecDepth 100000
open Go.RowKit
attribute [local go_sem ↓] Go.wp_at_zero Go.wp_at_succ


set_option maxRecDepth 100000 in
set_option maxHeartbeats 1000000 in
theorem trR7_wp {c1 c4 c5 c6 c7 c8 c9 c10 c11 c12 c13 c14 c15 c16 c17 c18 c19 c20 c21 c22 c23 c24 c25 : Value} (b o n c k : Nat) (v2 : Value) (x y z : ByteArray) (w : World) (Q : Exit → Act → World → Prop) (hk : k < n) (hc : n ≤ c)
  (h1 : Gives w 51 #[.slice (some ⟨b, o, none⟩) k c] x) (h2 : Gives w 51 #[.slice (some ⟨b, o + k, none⟩) (n - k) (c - k)] y) (h3 : Gives w 27 #[.string x, .string y] z)
  (hQ : ∀ (u17 u18 u19 u20 u21 u22 u23 u24 u25 : Value) (w' : World), Below w.heap.size w w' → Q .normal ⟨#[.slice (some ⟨b, o, none⟩) n c, c1, .string z, .int .i64 (k : Int), c4, c5, c6, c7, c8, c9, c10, c11, c12, c13, c14, c15, c16, u17, u18, u19, u20, u21, u22, u23, u24, u25], []⟩ w') :
  Code.wp Tryz.prog (rgn Tryz.f51 7) Q ⟨#[.slice (some ⟨b, o, none⟩) n c, c1, v2, .int .i64 (k : Int), c4, c5, c6, c7, c8, c9, c10, c11, c12, c13, c14, c15, c16, c17, c18, c19, c20, c21, c22, c23, c24, c25], []⟩ w := by
  conv => arg 2; whnf
  refine wp_region_any (by kernel_rfl) ?_
  refine wpAnyH_pure (k := 0) (v := .slice (some ⟨b, o, none⟩) n c) (by rfl) (by kernel_rfl) (by kernel_rfl) (by kernel_rfl) (by rfl) (some 17) (by rfl) (fun _ => by kernel_rfl) ?_
  simp only [Act.put, List.setIfInBounds_toArray, List.set_cons_succ, List.set_cons_zero]
  refine wpAnyH_pure (k := 1) (v := .int .i64 (k : Int)) (by rfl) (by kernel_rfl) (by kernel_rfl) (by kernel_rfl) (by rfl) (some 18) (by rfl) (fun _ => by kernel_rfl) ?_
  simp only [Act.put, List.setIfInBounds_toArray, List.set_cons_succ, List.set_cons_zero]
  refine wpAnyH_pure (k := 2) (v := .slice (some ⟨b, o, none⟩) k c) (by rfl) (by kernel_rfl) (by kernel_rfl) (by kernel_rfl) (by rfl) (some 19) (by rfl) (fun wx => exec_slice (by rfl) (by rfl) (by rfl) (by rfl) (by rfl) (slice_h wx b o n c k (by omega))) ?_
  simp only [Act.put, List.setIfInBounds_toArray, List.set_cons_succ, List.set_cons_zero]
  refine wpAnyH_pure (k := 4) (v := .slice (some ⟨b, o, none⟩) n c) (by rfl) (by kernel_rfl) (by kernel_rfl) (by kernel_rfl) (by rfl) (some 21) (by rfl) (fun _ => by kernel_rfl) ?_
  simp only [Act.put, List.setIfInBounds_toArray, List.set_cons_succ, List.set_cons_zero]
  refine wpAnyH_pure (k := 5) (v := .int .i64 (k : Int)) (by rfl) (by kernel_rfl) (by kernel_rfl) (by kernel_rfl) (by rfl) (some 22) (by rfl) (fun _ => by kernel_rfl) ?_
  simp only [Act.put, List.setIfInBounds_toArray, List.set_cons_succ, List.set_cons_zero]
  refine wpAnyH_pure (k := 6) (v := .slice (some ⟨b, o + k, none⟩) (n - k) (c - k)) (by rfl) (by kernel_rfl) (by kernel_rfl) (by kernel_rfl) (by rfl) (some 23) (by rfl) (fun wx => exec_slice (by rfl) (by rfl) (by rfl) (by rfl) (by rfl) (slice_l wx b o n c k hk hc)) ?_
  simp only [Act.put, List.setIfInBounds_toArray, List.set_cons_succ, List.set_cons_zero]
  have hb0 : Below w.heap.size w w.drew := (Below.refl _ _).drew
  refine wpAnyH_call (i := 3) (f := 51) (vs := #[.slice (some ⟨b, o, none⟩) k c]) (by kernel_rfl) (by rfl) (by rfl) (some 20) (by rfl) (by kernel_rfl) ((h1 _ hb0).mono ?_)
  rintro e w1 ⟨rfl, hb1⟩
  refine ⟨_, rfl, ?_⟩
  simp only [Act.put, List.setIfInBounds_toArray, List.set_cons_succ, List.set_cons_zero]
  have hb2 : Below w.heap.size w w1 := hb0.trans (hb1.mono hb0.size)
  refine wpAnyH_call (i := 7) (f := 51) (vs := #[.slice (some ⟨b, o + k, none⟩) (n - k) (c - k)]) (by kernel_rfl) (by rfl) (by rfl) (some 24) (by rfl) (by kernel_rfl) ((h2 _ hb2).mono ?_)
  rintro e w2 ⟨rfl, hb3⟩
  refine ⟨_, rfl, ?_⟩
  simp only [Act.put, List.setIfInBounds_toArray, List.set_cons_succ, List.set_cons_zero]
  have hb4 : Below w.heap.size w w2 := hb2.trans (hb3.mono hb2.size)
  refine wpAnyH_call (i := 8) (f := 27) (vs := #[.string x, .string y]) (by kernel_rfl) (by rfl) (by rfl) (some 25) (by rfl) (by kernel_rfl) ((h3 _ hb4).mono ?_)
  rintro e w3 ⟨rfl, hb5⟩
  refine ⟨_, rfl, ?_⟩
  simp only [Act.put, List.setIfInBounds_toArray, List.set_cons_succ, List.set_cons_zero]
  have hb6 : Below w.heap.size w w3 := hb4.trans (hb5.mono hb4.size)
  refine wpAnyH_put (i := 9) (v := .string z) (by kernel_rfl) (by rfl) (by rfl) (some 2) (by rfl) (by kernel_rfl) ?_
  simp only [Act.put, List.setIfInBounds_toArray, List.set_cons_succ, List.set_cons_zero]
  refine wpAnyH_done (by kernel_rfl) ?_ _
  refine NoPanic.normal ?_
  exact hQ _ _ _ _ _ _ _ _ _ _ hb6

theorem load_str (w : World) (b o : Nat) (x : ByteArray) (h : w.cell? ⟨b, o, none⟩ = some (.string x)) : (Instr.loadAt 9 (.pointer (some ⟨b, o, none⟩))).run Tryz.prog w = .ok (.string x) w := by
  simp [go_sem, h]

set_option maxHeartbeats 400000 in
theorem rootRef_nil (p : Option Addr) (c : Nat) (w : World) : Calls Tryz.prog 15 #[.slice p 0 c] w fun e w' => e = .returned (.string (shaS [])) ∧ Below w.heap.size w w' := by
  go_enter Tryz.func15, Tryz.ntmps15
  go_wp2_with (go_at_call 29; refine (hashRef_any _ _ (by decide)).mono ?_; rintro e w' ⟨rfl, hb⟩)
  go_ret
  exact ⟨rfl, hb⟩

set_option maxHeartbeats 400000 in
theorem rootRef_one (b o c : Nat) (s : ByteArray) (w : World) (hs : w.cell? ⟨b, o, none⟩ = some (.string s)) : Calls Tryz.prog 15 #[.slice (some ⟨b, o, none⟩) 1 c] w fun e w' => e = .returned (.string s) ∧ Below w.heap.size w w' := by
  go_enter Tryz.func15, Tryz.ntmps15
  go_wp2
  go_ret
  exact ⟨rfl, Below.refl _ _⟩

set_option maxHeartbeats 400000 in
theorem rootRef_step (b o n c : Nat) (x y z : ByteArray) (w : World) (h2 : 2 ≤ n) (hn : n ≤ 1099511627776) (hc : n ≤ c)
  (h1 : Gives w 15 #[.slice (some ⟨b, o, none⟩) (spl n) c] x) (hh2 : Gives w 15 #[.slice (some ⟨b, o + spl n, none⟩) (n - spl n) (c - spl n)] y) (h3 : Gives w 14 #[.string x, .string y] z) :
    Calls Tryz.prog 15 #[.slice (some ⟨b, o, none⟩) n c] w fun e w' => e = .returned (.string z) ∧ Below w.heap.size w w' := by
  have hsp := fun wx => splitRef_any n wx h2 hn
  have hlt := spl_lt h2
  generalize spl n = k at *
  go_enter Tryz.func15, Tryz.ntmps15
  go_wp2_with (go_at_call 30; refine (hsp _).mono ?_; rintro e w' ⟨rfl, rfl⟩)
  refine rtR6_wp b o n c k _ x y z _ _ hlt hc h1 hh2 h3 ?_
  intro u17 u18 u19 u20 u21 u22 u23 u24 u25 w2 hb
  go_wp2_with fail
  go_ret
  exact ⟨rfl, hb⟩

theorem rootRef_all (N : Nat) : ∀ (ss : List ByteArray) (b o c : Nat) (w : World), ss.length ≤ N → ss.length ≤ c → ss.length ≤ 1099511627776 → SA w b o ss → (∀ s ∈ ss, s.size < 40000000000) →
    Calls Tryz.prog 15 #[.slice (some ⟨b, o, none⟩) ss.length c] w fun e w' => e = .returned (.string (mth ss)) ∧ Below w.heap.size w w' := by
  induction N with
  | zero =>
    intro ss b o c w h0 hc hn hS hz
    obtain rfl : ss = [] := List.eq_nil_of_length_eq_zero (by omega)
    rw [mth_nil]
    exact rootRef_nil _ _ _
  | succ N ih =>
    intro ss b o c w h0 hc hn hS hz
    by_cases h2 : 2 ≤ ss.length
    · have hlt := spl_lt h2
      have hp := spl_pos ss.length
      have hl1 : (ss.take (spl ss.length)).length = spl ss.length := by rw [List.length_take]; omega
      have hl2 : (ss.drop (spl ss.length)).length = ss.length - spl ss.length := List.length_drop ..
      have hz1 : ∀ s ∈ ss.take (spl ss.length), s.size < 40000000000 := fun s hs => hz s (List.mem_of_mem_take hs)
      have hz2 : ∀ s ∈ ss.drop (spl ss.length), s.size < 40000000000 := fun s hs => hz s (List.mem_of_mem_drop hs)
      rw [mth_two h2]
      refine rootRef_step b o ss.length c (mth (ss.take (spl ss.length))) (mth (ss.drop (spl ss.length))) _ w h2 hn hc ?_ ?_ ?_
      · intro wx hb
        have := ih (ss.take (spl ss.length)) b o c wx (by omega) (by omega) (by omega) ((hS.below hb).take _) hz1
        rw [hl1] at this
        exact this
      · intro wx hb
        have := ih (ss.drop (spl ss.length)) b (o + spl ss.length) (c - spl ss.length) wx (by omega) (by omega) (by omega) ((hS.below hb).drop _) hz2
        rw [hl2] at this
        exact this
      · intro wx hb
        exact nodeRef_any _ _ wx (mth_size hz1 (by omega)) (mth_size hz2 (by omega))
    · match ss, h2 with
      | [], _ => rw [mth_nil]; exact rootRef_nil _ _ _
      | [s], _ => rw [mth_one]; exact rootRef_one b o c s w (hS 0 s rfl)
      | _ :: _ :: _, h2 => simp at h2

/-- groveref.Root. -/
theorem rootRef_any (ss : List ByteArray) (b o c : Nat) (w : World) (hc : ss.length ≤ c) (hn : ss.length ≤ 1099511627776) (hS : SA w b o ss) (hz : ∀ s ∈ ss, s.size < 40000000000) :
    Calls Tryz.prog 15 #[.slice (some ⟨b, o, none⟩) ss.length c] w fun e w' => e = .returned (.string (mth ss)) ∧ Below w.heap.size w w' :=
  rootRef_all ss.length ss b o c w (Nat.le_refl _) hc hn hS hz
end Go.Proofs.YtlhohmlpcgbliabGreatDoor
namespace Go.Proofs.YtlhohmlpcgbliabGreatDoor
set_option maxRecDepth 100000
open Go.RowKit
attribute [local go_sem ↓] Go.wp_at_zero Go.wp_at_succ

theorem table_at {w w' : World} (hb : Below w.heap.size w w') (hg : 2 < w.heap.size) (ht : Table w) : Table w' := table_kept (Kept.of_below (b := w.heap.size) hb) hg (by omega) ht

set_option maxHeartbeats 400000 in
theorem treeJoin_nil (p : Option Addr) (c : Nat) (w : World) (ht : Table w) (hg : 2 < w.heap.size) : Calls Tryz.prog 51 #[.slice p 0 c] w fun e w' => e = .returned (.string (shaS [])) ∧ Below w.heap.size w w' := by
  have hst : Strs w (.slice none 0 0) [] := ⟨none, 0, rfl, fun i s hs => by simp at hs⟩
  have hc := of_any _ [] w hst (by simp [flat]) (by simp) ht hg
  go_enter Tryz.func51, Tryz.ntmps51
  go_wp2_with (go_at_call 50; refine hc.mono ?_; rintro e w' ⟨h, rfl, hh, hb⟩)
  obtain rfl : h = shaS [] := shaS_of hh
  go_ret
  exact ⟨rfl, hb⟩

set_option maxHeartbeats 400000 in
theorem treeJoin_one (b o c : Nat) (s : ByteArray) (w : World) (hs : w.cell? ⟨b, o, none⟩ = some (.string s)) : Calls Tryz.prog 51 #[.slice (some ⟨b, o, none⟩) 1 c] w fun e w' => e = .returned (.string s) ∧ Below w.heap.size w w' := by
  go_enter Tryz.func51, Tryz.ntmps51
  go_wp2
  go_ret
  exact ⟨rfl, Below.refl _ _⟩

set_option maxHeartbeats 400000 in
theorem treeJoin_step (b o n c : Nat) (x y z : ByteArray) (w : World) (h2 : 2 ≤ n) (hn : n ≤ 1099511627776) (hc : n ≤ c)
  (h1 : Gives w 51 #[.slice (some ⟨b, o, none⟩) (spl n) c] x) (hh2 : Gives w 51 #[.slice (some ⟨b, o + spl n, none⟩) (n - spl n) (c - spl n)] y) (h3 : Gives w 27 #[.string x, .string y] z) :
    Calls Tryz.prog 51 #[.slice (some ⟨b, o, none⟩) n c] w fun e w' => e = .returned (.string z) ∧ Below w.heap.size w w' := by
  have hsp := fun wx => treeSplit_any n wx h2 hn
  have hlt := spl_lt h2
  generalize spl n = k at *
  go_enter Tryz.func51, Tryz.ntmps51
  go_wp2_with (go_at_call 80; refine (hsp _).mono ?_; rintro e w' ⟨rfl, rfl⟩)
  refine trR7_wp b o n c k _ x y z _ _ hlt hc h1 hh2 h3 ?_
  intro u17 u18 u19 u20 u21 u22 u23 u24 u25 w2 hb
  go_wp2_with fail
  go_ret
  exact ⟨rfl, hb⟩

theorem treeJoin_all (N : Nat) : ∀ (ss : List ByteArray) (b o c : Nat) (w : World), ss.length ≤ N → ss.length ≤ c → ss.length ≤ 1099511627776 → SA w b o ss → (∀ s ∈ ss, s.size < 144115188075855872) → Table w → 2 < w.heap.size →
    Calls Tryz.prog 51 #[.slice (some ⟨b, o, none⟩) ss.length c] w fun e w' => e = .returned (.string (mth ss)) ∧ Below w.heap.size w w' := by
  induction N with
  | zero =>
    intro ss b o c w h0 hc hn hS hz ht hg
    obtain rfl : ss = [] := List.eq_nil_of_length_eq_zero (by omega)
    rw [mth_nil]
    exact treeJoin_nil _ _ _ ht hg
  | succ N ih =>
    intro ss b o c w h0 hc hn hS hz ht hg
    by_cases h2 : 2 ≤ ss.length
    · have hlt := spl_lt h2
      have hp := spl_pos ss.length
      have hl1 : (ss.take (spl ss.length)).length = spl ss.length := by rw [List.length_take]; omega
      have hl2 : (ss.drop (spl ss.length)).length = ss.length - spl ss.length := List.length_drop ..
      have hz1 : ∀ s ∈ ss.take (spl ss.length), s.size < 144115188075855872 := fun s hs => hz s (List.mem_of_mem_take hs)
      have hz2 : ∀ s ∈ ss.drop (spl ss.length), s.size < 144115188075855872 := fun s hs => hz s (List.mem_of_mem_drop hs)
      rw [mth_two h2]
      refine treeJoin_step b o ss.length c (mth (ss.take (spl ss.length))) (mth (ss.drop (spl ss.length))) _ w h2 hn hc ?_ ?_ ?_
      · intro wx hb
        have := ih (ss.take (spl ss.length)) b o c wx (by omega) (by omega) (by omega) ((hS.below hb).take _) hz1 (table_at hb hg ht) (Nat.lt_of_lt_of_le hg hb.size)
        rw [hl1] at this
        exact this
      · intro wx hb
        have := ih (ss.drop (spl ss.length)) b (o + spl ss.length) (c - spl ss.length) wx (by omega) (by omega) (by omega) ((hS.below hb).drop _) hz2 (table_at hb hg ht) (Nat.lt_of_lt_of_le hg hb.size)
        rw [hl2] at this
        exact this
      · intro wx hb
        exact treeNode_any _ _ wx (mth_size hz1 (by omega)) (mth_size hz2 (by omega)) (table_at hb hg ht) (Nat.lt_of_lt_of_le hg hb.size)
    · match ss, h2 with
      | [], _ => rw [mth_nil]; exact treeJoin_nil _ _ _ ht hg
      | [s], _ => rw [mth_one]; exact treeJoin_one b o c s w (hS 0 s rfl)
      | _ :: _ :: _, h2 => simp at h2

/-- tree.Join. -/
theorem treeJoin_any (ss : List ByteArray) (b o c : Nat) (w : World) (hc : ss.length ≤ c) (hn : ss.length ≤ 1099511627776) (hS : SA w b o ss) (hz : ∀ s ∈ ss, s.size < 144115188075855872) (ht : Table w) (hg : 2 < w.heap.size) :
    Calls Tryz.prog 51 #[.slice (some ⟨b, o, none⟩) ss.length c] w fun e w' => e = .returned (.string (mth ss)) ∧ Below w.heap.size w w' :=
  treeJoin_all ss.length ss b o c w (Nat.le_refl _) hc hn hS hz ht hg
end Go.Proofs.YtlhohmlpcgbliabGreatDoor
namespace Go.Proofs.YtlhohmlpcgbliabGreatDoor
set_option maxRecDepth 100000
open Go.RowKit
attribute [local go_sem ↓] Go.wp_at_zero Go.wp_at_succ

/-- Texts as cells. -/
def strv (ss : List ByteArray) : List Value := ss.map .string
@[simp] theorem strv_length (ss : List ByteArray) : (strv ss).length = ss.length := by simp [strv]
theorem strv_append (a b : List ByteArray) : strv (a ++ b) = strv a ++ strv b := by simp [strv]

theorem Strs.nil_or {w : World} {v : Value} {ss : List ByteArray} (h : Strs w v ss) (h0 : 0 < ss.length) : ∃ b o c, v = .slice (some ⟨b, o, none⟩) ss.length c ∧ SA w b o ss := by
  obtain ⟨a, c, rfl, h2⟩ := h
  obtain ⟨g, off, rfl, _⟩ := h2 0 _ (List.getElem?_eq_getElem h0)
  refine ⟨g, off, c, rfl, fun i s hs => ?_⟩
  obtain ⟨g', off', e, hc⟩ := h2 i s hs
  cases e
  exact hc

theorem SA.of_row {w : World} {base g n cap : Nat} {ss : List ByteArray} (h : Row w base 9 (.slice (some ⟨g, 0, none⟩) n cap) (strv ss)) (h0 : 0 < ss.length) : SA w g 0 ss := by
  obtain ⟨g', cap', hv, _, _, _, hc, _⟩ := h.form (by rw [strv_length]; exact h0)
  injection hv with e1
  injection e1 with e1
  injection e1 with e1
  subst e1
  intro i s hs
  have hi : i < ss.length := (List.getElem?_eq_some_iff.1 hs).1
  rw [Nat.zero_add, hc i (by rw [strv_length]; exact hi)]
  simp [strv, hs]

set_option maxRecDepth 100000 in
set_option maxHeartbeats 1000000 in
theorem leaves_any (v : Value) (ss : List ByteArray) (w : World) (hS : Strs w v ss) (hn : ss.length < 100000000000) (hz : ∀ s ∈ ss, s.size < 40000000000) :
    Calls Tryz.prog 12 #[v] w fun e w' => ∃ v', e = .returned v' ∧ Row w' w.heap.size 9 v' (strv (ss.map leafS)) ∧ Below w.heap.size w w' := by
  obtain ⟨a, c, rfl, hcells⟩ := hS
  have HC : Hid (∀ (i : Nat) s, ss[i]? = some s → ∃ g off, a = some ⟨g, off, none⟩ ∧ w.cell? ⟨g, off + i, none⟩ = some (.string s)) := hcells
  clear hcells
  go_enter Tryz.func12, Tryz.ntmps12
  try go_wp2
  go_loopw [3, 4] (fun v i wr => ∃ k : Nat, k ≤ ss.length ∧ i = .int .i64 k ∧ Row wr w.heap.size 9 v (strv ((ss.take k).map leafS)) ∧ Below w.heap.size w wr) (fun _ i _ => ss.length - (intOf i).toNat)
  case atStart => exact ⟨0, by omega, rfl, World.ownsRow_nil _ _ _ _, Below.refl _ _⟩
  case round =>
    obtain ⟨k, hk, rfl, hrow, hb⟩ := hrel
    by_cases h8 : k < ss.length
    · obtain ⟨s, hs⟩ : ∃ s, ss[k]? = some s := ⟨_, List.getElem?_eq_getElem h8⟩
      obtain ⟨g, off, rfl, hcell⟩ := HC.out k s hs
      have hcell' : wr.cell? ⟨g, off + k, none⟩ = some (.string s) := by
        rw [hb.cell (World.block_lt_of_cell? _ _ hcell)]; exact hcell
      have hsz : s.size < 40000000000 := hz s (List.mem_of_getElem? hs)
      have hlf := leafRef_any s wr (by omega)
      have HN : Hid (strv ((ss.take k).map leafS) ++ [.string (leafS s)] = strv ((ss.take (k + 1)).map leafS)) := by
        show _ = _
        have hgk : ss[k] = s := (List.getElem?_eq_some_iff.1 hs).2
        rw [List.take_succ_eq_append_getElem h8, List.map_append, strv_append, hgk]; rfl
      have hxl : (strv ((ss.take k).map leafS)).length = k := by rw [strv_length, List.length_map, List.length_take]; omega
      have hsz0 := hb.size
      clear hcell
      generalize hxs : strv ((ss.take k).map leafS) = xs at *
      clear hxs hs
      go_wp2_with (first | (go_at_call 13; refine hlf.mono ?_; rintro e w1 ⟨rfl, hb1⟩) | (at_builtin; refine wpList_app elem_string rfl Tryz.underlying22 (by rfl) (.tmp 17) (.tmp 19) (by rfl) w.heap.size _ xs (by rfl) ((hrow.below hb1 (Nat.le_refl _)).alloc _) _ 1 1 [.string (leafS s)] (by rfl) rfl (Blk.new _ 9 _) ?h1 ?hl ?hb ?hbs (w0 := w) ((hb.trans (hb1.mono hsz0)).alloc (Nat.le_trans hsz0 hb1.size) _) (Nat.le_refl _) ?_))
      case h1 => intro u hu; simp at hu; subst hu; rfl
      case hl => omega
      case hb => omega
      case hbs => have := hb1.size; simp; omega
      intro v' w' hv' _ hb'
      rw [HN.out] at hv'
      go_wp2
      go_roundw
      case rel => exact ⟨k + 1, by omega, by go_num, hv', hb'⟩
      case measure => simp [intOf]; omega
    · have hk8 : k = ss.length := by omega
      subst hk8
      rw [List.take_length] at hrow
      go_wp2
      go_ret
      exact ⟨_, rfl, hrow, hb⟩
end Go.Proofs.YtlhohmlpcgbliabGreatDoor
