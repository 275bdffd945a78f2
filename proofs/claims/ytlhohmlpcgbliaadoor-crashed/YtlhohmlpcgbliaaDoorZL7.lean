import Derived.Test.YtlhohmlpcgbliaaDoorZK3
import Derived.Test.YtlhohmlpcgbliaaDoorZQ2
namespace Go.Proofs.YtlhohmlpcgbliaaDoor
set_option maxRecDepth 100000
open Go.RowKit
attribute [local go_sem ↓] Go.wp_at_zero Go.wp_at_succ

set_option maxHeartbeats 400000 in
theorem bs_none (i : Nat) (F : Value) (w : World) : GivesRow w 99 #[.int .i64 (i : Int), .int .i64 0, .int .i64 (i : Int), F] [] := by
  unfold GivesRow
  go_enter Tryd.func99, Tryd.ntmps99
  go_wp2
  go_ret
  exact ⟨_, rfl, World.ownsRow_nil _ _ _ _, Below.refl _ _⟩

set_option maxHeartbeats 1000000 in
theorem bs_one (i a : Nat) (S : Value) (y : ByteArray) (w : World) (ha : a ≠ 0) (hspan : Gives w 72 #[S, .int .i64 (a : Int), .int .i64 (i : Int)] y) : GivesRow w 99 #[.int .i64 (i : Int), .int .i64 (a : Int), .int .i64 (i : Int), .func (.func 72) #[S] #[]] [y] := by
  unfold GivesRow
  have ha' : ¬ (a : Int) = 0 := by omega
  go_enter Tryd.func99, Tryd.ntmps99
  go_wp2_with fail
  refine (hspan _ (Below.refl _ _)).mono ?_
  rintro e w2 ⟨rfl, hb2⟩
  go_wp2
  go_ret
  refine ⟨_, rfl, ?_, hb2.alloc hb2.size _⟩
  exact Row.lit' _ _ 9 [.string y] 1 rfl hb2.size (by decide)

set_option maxHeartbeats 1000000 in
theorem bs_left (i a m : Nat) (S : Value) (xs : List ByteArray) (y : ByteArray) (w : World) (h2 : 2 ≤ m) (hm : a + m < 500) (hi5 : i < 500) (hi : i ≤ a + spl m) (hxl : xs.length ≤ 1048576)
  (hrec : GivesRow w 99 #[.int .i64 (i : Int), .int .i64 (a : Int), .int .i64 ((a : Int) + ((spl m : Nat) : Int)), .func (.func 72) #[S] #[]] xs)
  (hspan : Gives w 72 #[S, .int .i64 ((a : Int) + ((spl m : Nat) : Int)), .int .i64 ((a + m : Nat) : Int)] y) :
    GivesRow w 99 #[.int .i64 (i : Int), .int .i64 (a : Int), .int .i64 ((a + m : Nat) : Int), .func (.func 72) #[S] #[]] (xs ++ [y]) := by
  unfold GivesRow
  have hsp := treeSplit_any m w h2 (by omega)
  have hlt := spl_lt h2
  have e0 : ((a + m : Nat) : Int) - (a : Int) = (m : Int) := by omega
  have h1' : ¬ (m : Int) = 1 := by omega
  have hne' : ¬ (i : Int) = ((a + m : Nat) : Int) := by omega
  generalize spl m = k at *
  have hi' : (i : Int) ≤ (a : Int) + (k : Int) := by omega
  have HX : Aside (strv xs ++ [.string y] = strv (xs ++ [y])) := by show _ = _; simp [strv]
  have hxl2 : (strv xs).length ≤ 1048576 := by rw [strv_length]; exact hxl
  have htt : ((a + m : Nat) : Int) < 500 := by omega
  have htt0 : 0 ≤ ((a + m : Nat) : Int) := by omega
  generalize ((a + m : Nat) : Int) = tt at *
  unfold GivesRow at hrec
  clear hxl hi
  generalize hxs : strv xs = zs at *
  clear hxs
  go_enter Tryd.func99, Tryd.ntmps99
  go_wp2_with fail
  refine hsp.mono ?_
  rintro e w0 ⟨rfl, rfl⟩
  go_wp2_with fail
  refine hrec.mono ?_
  rintro e w1 ⟨v, rfl, hrow, hb⟩
  go_wp2_with fail
  refine (hspan _ hb).mono ?_
  rintro e w2 ⟨rfl, hb2⟩
  have hrow2 := hrow.below hb2 (Nat.le_refl _)
  have hb3 := hb.trans (hb2.mono hb.size)
  clear hrow hrec hspan hsp
  go_wp2_with (at_builtin; refine wpList_app elem_string rfl Tryd.underlying22 (by rfl) (.tmp 38) (.tmp 43) (by rfl) w0.heap.size _ zs (by rfl) (hrow2.alloc _) _ 1 1 [.string y] (by rfl) rfl (Blk.new _ 9 _) ?h1 ?hl ?hb ?hbs (w0 := w0) (hb3.alloc hb3.size _) (Nat.le_refl _) ?_)
  case h1 => intro u hu; simp at hu; subst hu; rfl
  case hl => omega
  case hb => omega
  case hbs => have := hb3.size; simp; omega
  intro v' w' hv' _ hb'
  rw [HX.out] at hv'
  go_wp2
  go_ret
  exact ⟨_, rfl, hv', hb'⟩

set_option maxHeartbeats 1000000 in
theorem bs_right (i a m : Nat) (S : Value) (xs : List ByteArray) (y : ByteArray) (w : World) (h2 : 2 ≤ m) (hm : a + m < 500) (hi5 : i < 500) (hi : a + spl m < i) (hne : i ≠ a + m) (hxl : xs.length ≤ 1048576)
  (hrec : GivesRow w 99 #[.int .i64 (i : Int), .int .i64 ((a : Int) + ((spl m : Nat) : Int)), .int .i64 ((a + m : Nat) : Int), .func (.func 72) #[S] #[]] xs)
  (hspan : Gives w 72 #[S, .int .i64 (a : Int), .int .i64 ((a : Int) + ((spl m : Nat) : Int))] y) :
    GivesRow w 99 #[.int .i64 (i : Int), .int .i64 (a : Int), .int .i64 ((a + m : Nat) : Int), .func (.func 72) #[S] #[]] (xs ++ [y]) := by
  unfold GivesRow
  have hsp := treeSplit_any m w h2 (by omega)
  have hlt := spl_lt h2
  have e0 : ((a + m : Nat) : Int) - (a : Int) = (m : Int) := by omega
  have h1' : ¬ (m : Int) = 1 := by omega
  have hne' : ¬ (i : Int) = ((a + m : Nat) : Int) := by omega
  generalize spl m = k at *
  have hi' : ¬ (i : Int) ≤ (a : Int) + (k : Int) := by omega
  have HX : Aside (strv xs ++ [.string y] = strv (xs ++ [y])) := by show _ = _; simp [strv]
  have hxl2 : (strv xs).length ≤ 1048576 := by rw [strv_length]; exact hxl
  have htt : ((a + m : Nat) : Int) < 500 := by omega
  have htt0 : 0 ≤ ((a + m : Nat) : Int) := by omega
  generalize ((a + m : Nat) : Int) = tt at *
  unfold GivesRow at hrec
  clear hxl hi
  generalize hxs : strv xs = zs at *
  clear hxs
  go_enter Tryd.func99, Tryd.ntmps99
  go_wp2_with fail
  refine hsp.mono ?_
  rintro e w0 ⟨rfl, rfl⟩
  go_wp2_with fail
  refine hrec.mono ?_
  rintro e w1 ⟨v, rfl, hrow, hb⟩
  go_wp2_with fail
  refine (hspan _ hb).mono ?_
  rintro e w2 ⟨rfl, hb2⟩
  have hrow2 := hrow.below hb2 (Nat.le_refl _)
  have hb3 := hb.trans (hb2.mono hb.size)
  clear hrow hrec hspan hsp
  go_wp2_with (at_builtin; refine wpList_app elem_string rfl Tryd.underlying22 (by rfl) (.tmp 49) (.tmp 54) (by rfl) w0.heap.size _ zs (by rfl) (hrow2.alloc _) _ 1 1 [.string y] (by rfl) rfl (Blk.new _ 9 _) ?h1 ?hl ?hb ?hbs (w0 := w0) (hb3.alloc hb3.size _) (Nat.le_refl _) ?_)
  case h1 => intro u hu; simp at hu; subst hu; rfl
  case hl => omega
  case hb => omega
  case hbs => have := hb3.size; simp; omega
  intro v' w' hv' _ hb'
  rw [HX.out] at hv'
  go_wp2
  go_ret
  exact ⟨_, rfl, hv', hb'⟩
end Go.Proofs.YtlhohmlpcgbliaaDoor
namespace Go.Proofs.YtlhohmlpcgbliaaDoor
set_option maxRecDepth 100000
open Go.RowKit

/-- Where a part of a log's tree is cut. -/
theorem cut_facts {m a j : Nat} (h2 : 2 ≤ m) (hj : m ≤ 2 ^ j) (hd : 2 ^ j ∣ a) : ∃ h, spl m = 2 ^ h ∧ 2 ^ h ∣ a ∧ 2 ^ h ∣ a + spl m ∧ m - spl m ≤ 2 ^ h ∧ spl m < m ∧ 0 < spl m := by
  obtain ⟨h, hs⟩ := spl_pow m
  have h3 := spl_lt h2
  have h4 := spl_ge h2
  rw [hs] at h3 h4
  have h5 : h < j := (Nat.pow_lt_pow_iff_right (a := 2) (by omega)).1 (by omega)
  have h6 : 2 ^ h ∣ a := Nat.dvd_trans (Nat.pow_dvd_pow 2 (by omega)) hd
  refine ⟨h, hs, h6, ?_, by omega, by omega, spl_pos m⟩
  rw [hs]
  exact Nat.dvd_add h6 (Nat.dvd_refl _)

theorem sub_take {L : List ByteArray} {a m k : Nat} (h : k ≤ m) : ((L.drop a).take m).take k = (L.drop a).take k := by rw [List.take_take, Nat.min_eq_left h]
theorem sub_drop {L : List ByteArray} {a m k : Nat} : ((L.drop a).take m).drop k = (L.drop (a + k)).take (m - k) := by rw [List.drop_take, List.drop_drop]
theorem sub_len {L : List ByteArray} {a m : Nat} (h : a + m ≤ L.length) : ((L.drop a).take m).length = m := by rw [List.length_take, List.length_drop]; omega

theorem beside_inc {E : List ByteArray} {D : Dk} {b : Nat} {fv : Value} (hH : Holds D E) : ∀ (N i a m j : Nat) (w : World), DiskAt w b fv D → Table w → 2 < w.heap.size → m ≤ N → N ≤ 64 → 1 ≤ m → m ≤ 2 ^ j → 2 ^ j ∣ a → a + m ≤ E.length → a ≤ i → i < a + m →
    GivesRow w 97 #[.int .i64 (i : Int), .int .i64 (a : Int), .int .i64 ((a + m : Nat) : Int), spanV b] (incF N (i - a) (((E.map leafS).drop a).take m)) := by
  intro N
  have hL : (E.map leafS).length = E.length := List.length_map _
  have hE := hH.len
  have hspan := fun (m a j : Nat) (h1 : m ≤ 2 ^ j) (h2 : 2 ^ j ∣ a) (h3 : a + m ≤ E.length) => span_mth hH.til (by rw [hL]; exact Nat.le_refl _) m m a j (Nat.le_refl _) h1 h2 h3
  induction N with
  | zero => intro i a m j w _ _ _ h1 _ h2; omega
  | succ N ih =>
    intro i a m j w hD ht hg hm hN h1 hj hd ham hai him
    have hl := sub_len (L := E.map leafS) (a := a) (m := m) (by omega)
    simp only [incF, hl]
    by_cases h2 : m < 2
    · rw [if_pos h2]
      obtain rfl : m = 1 := by omega
      exact be_none i a _ w
    · rw [if_neg h2]
      obtain ⟨h, hs, hd1, hd2, hle, hlt, hpos⟩ := cut_facts (by omega) hj hd
      rw [sub_take (by omega), sub_drop]
      have gl := gives_span b a (spl m) fv D w hD (by omega) ht hg
      have gr := gives_span b (a + spl m) (m - spl m) fv D w hD (by omega) ht hg
      rw [hspan (spl m) a h (by omega) hd1 (by omega)] at gl
      rw [hspan (m - spl m) (a + spl m) h hle hd2 (by omega)] at gr
      rw [show a + spl m + (m - spl m) = a + m by omega] at gr
      by_cases h5 : i < a + spl m
      · rw [if_pos (by omega)]
        have q := ih i a (spl m) h w hD ht hg (by omega) (by omega) (by omega) (by omega) hd1 (by omega) hai h5
        rw [Int.natCast_add] at q gr
        exact be_left i a m (stV b) _ _ w (by omega) (by omega) (by omega) h5 (Nat.le_trans (incF_length N _ _) (by omega)) q gr
      · rw [if_neg (by omega)]
        have q := ih i (a + spl m) (m - spl m) h w hD ht hg (by omega) (by omega) (by omega) hle hd2 (by omega) (by omega) (by omega)
        rw [show a + spl m + (m - spl m) = a + m by omega, show i - (a + spl m) = i - a - spl m by omega] at q
        rw [Int.natCast_add] at q gl
        exact be_right i a m (stV b) _ _ w (by omega) (by omega) (by omega) (by omega) (Nat.le_trans (incF_length N _ _) (by omega)) q gl

theorem beside_con {E : List ByteArray} {D : Dk} {b : Nat} {fv : Value} (hH : Holds D E) : ∀ (N i a m j : Nat) (w : World), DiskAt w b fv D → Table w → 2 < w.heap.size → m ≤ N → N ≤ 64 → 1 ≤ m → m ≤ 2 ^ j → 2 ^ j ∣ a → a + m ≤ E.length → a < i → i ≤ a + m →
    GivesRow w 99 #[.int .i64 (i : Int), .int .i64 (a : Int), .int .i64 ((a + m : Nat) : Int), spanV b] (conF N (i - a) (((E.map leafS).drop a).take m) (decide (a = 0))) := by
  intro N
  have hL : (E.map leafS).length = E.length := List.length_map _
  have hE := hH.len
  have hspan := fun (m a j : Nat) (h1 : m ≤ 2 ^ j) (h2 : 2 ^ j ∣ a) (h3 : a + m ≤ E.length) => span_mth hH.til (by rw [hL]; exact Nat.le_refl _) m m a j (Nat.le_refl _) h1 h2 h3
  induction N with
  | zero => intro i a m j w _ _ _ h1 _ h2; omega
  | succ N ih =>
    intro i a m j w hD ht hg hm hN h1 hj hd ham hai him
    have hl := sub_len (L := E.map leafS) (a := a) (m := m) (by omega)
    simp only [conF, hl]
    by_cases h2 : i = a + m
    · rw [if_pos (by omega)]
      by_cases h0 : a = 0
      · subst h0
        rw [if_pos (by simp)]
        rw [← h2]
        exact bs_none i _ w
      · rw [if_neg (by simpa using h0)]
        have g := gives_span b a m fv D w hD (by omega) ht hg
        rw [hspan m a j hj hd ham] at g
        rw [← h2] at g ⊢
        exact bs_one i a (stV b) _ w h0 g
    · rw [if_neg (by omega)]
      obtain ⟨h, hs, hd1, hd2, hle, hlt, hpos⟩ := cut_facts (m := m) (by omega) hj hd
      rw [sub_take (by omega), sub_drop]
      have gl := gives_span b a (spl m) fv D w hD (by omega) ht hg
      have gr := gives_span b (a + spl m) (m - spl m) fv D w hD (by omega) ht hg
      rw [hspan (spl m) a h (by omega) hd1 (by omega)] at gl
      rw [hspan (m - spl m) (a + spl m) h hle hd2 (by omega)] at gr
      rw [show a + spl m + (m - spl m) = a + m by omega] at gr
      by_cases h5 : i ≤ a + spl m
      · rw [if_pos (by omega)]
        have q := ih i a (spl m) h w hD ht hg (by omega) (by omega) (by omega) (by omega) hd1 (by omega) hai h5
        rw [Int.natCast_add] at q gr
        exact bs_left i a m (stV b) _ _ w (by omega) (by omega) (by omega) h5 (Nat.le_trans (conF_length N _ _ _) (by omega)) q gr
      · rw [if_neg (by omega)]
        have q := ih i (a + spl m) (m - spl m) h w hD ht hg (by omega) (by omega) (by omega) hle hd2 (by omega) (by omega) (by omega)
        rw [show a + spl m + (m - spl m) = a + m by omega, show i - (a + spl m) = i - a - spl m by omega, show decide (a + spl m = 0) = false from decide_eq_false (by omega)] at q
        rw [Int.natCast_add] at q gl
        exact bs_right i a m (stV b) _ _ w (by omega) (by omega) (by omega) (by omega) h2 (Nat.le_trans (conF_length N _ _ _) (by omega)) q gl
end Go.Proofs.YtlhohmlpcgbliaaDoor
namespace Go.Proofs.YtlhohmlpcgbliaaDoor
set_option maxRecDepth 100000
open Go.RowKit
attribute [local go_sem ↓] Go.wp_at_zero Go.wp_at_succ


set_option maxHeartbeats 1000000 in
theorem treeInclusion (i n : Nat) (F : Value) (xs : List ByteArray) (w : World) (h : GivesRow w 97 #[.int .i64 (i : Int), .int .i64 0, .int .i64 (n : Int), F] xs) : GivesRow w 71 #[.int .i64 (i : Int), .int .i64 (n : Int), F] xs := by
  unfold GivesRow at *
  go_enter Tryd.func71, Tryd.ntmps71
  go_wp2_with fail
  refine h.mono ?_
  rintro e w1 ⟨v, rfl, hr, hb⟩
  go_wp2
  go_ret
  exact ⟨_, rfl, hr, hb⟩

set_option maxHeartbeats 1000000 in
theorem logInclusion_ok {w : World} {a b : Nat} {fv wv : Value} {D : Dk} {W E : List ByteArray} (h : LogAt w a b fv wv D W) (hH : Holds D E) (ht : Table w) (hg : 2 < w.heap.size) (i n : Nat) (hn : n ≤ E.length) (hi : i < n) : Calls Tryd.prog 38 #[.pointer (some ⟨a, 0, none⟩), .int .i64 (i : Int), .int .i64 (n : Int)] w fun e w' => ∃ v, e = .returned (.tuple #[v, .int .i64 0]) ∧ Row w' w.heap.size 9 v (strv (incF n i ((E.map leafS).take n))) ∧ Below w.heap.size w w' := by
  have hk := logCk_ok h hH.nf.failed
  rw [hH.ckN] at hk
  have hE := hH.len
  have hlg := fun wx (hx : Below w.heap.size w wx) => (h.below hx).blk.cell 0
  have hin : Aside (∀ wx, Below w.heap.size w wx → GivesRow wx 71 #[.int .i64 (i : Int), .int .i64 (n : Int), spanV b] (incF n i ((E.map leafS).take n))) := fun wx hx => by
    refine treeInclusion i n _ _ wx ?_
    have q := beside_inc hH n i 0 n 6 wx (h.below hx).disk (table_at hx hg ht) (Nat.lt_of_lt_of_le hg hx.size) (Nat.le_refl _) (by omega) (by omega) (by omega) (Nat.dvd_zero _) (by omega) (by omega) (by omega)
    rw [Nat.sub_zero, List.drop_zero, Nat.zero_add] at q
    exact q
  unfold spanV stV at hin
  have hmf : ∀ (fn : Fn) (first cap : Array Value) (w : World), (Instr.makeFunc fn first cap).run Tryd.prog w = .ok (.func fn first cap) w := fun _ _ _ _ => rfl
  have hi1 : ¬ (i : Int) < 0 := by omega
  have hi2 : ¬ (i : Int) ≥ (n : Int) := by omega
  generalize incF n i ((E.map leafS).take n) = xs at *
  generalize strOf D.ckR = rt at *
  have hnE : ¬ (n : Int) > (E.length : Int) := by omega
  generalize (E.length : Int) = al at *
  go_enter Tryd.func38, Tryd.ntmps38
  go_wp2_with fail
  refine hk.mono ?_
  rintro e w1 ⟨rfl, hb1⟩
  have hc := hlg w1 hb1
  simp only [List.getElem?_cons_zero] at hc
  have hin1 := hin.out w1 hb1
  unfold GivesRow at hin1
  clear hk hlg
  go_wp2_with fail
  refine hin1.mono ?_
  rintro e w2 ⟨v, rfl, hr, hb2⟩
  have hr2 := hr.mono hb1.size
  clear hin1 hr
  go_wp2
  go_ret2
  exact ⟨_, rfl, hr2, hb1.trans (hb2.mono hb1.size)⟩

set_option maxHeartbeats 1000000 in
theorem treeConsistency (i n : Nat) (F : Value) (xs : List ByteArray) (w : World) (h : GivesRow w 99 #[.int .i64 (i : Int), .int .i64 0, .int .i64 (n : Int), F] xs) : GivesRow w 73 #[.int .i64 (i : Int), .int .i64 (n : Int), F] xs := by
  unfold GivesRow at *
  go_enter Tryd.func73, Tryd.ntmps73
  go_wp2_with fail
  refine h.mono ?_
  rintro e w1 ⟨v, rfl, hr, hb⟩
  go_wp2
  go_ret
  exact ⟨_, rfl, hr, hb⟩

set_option maxHeartbeats 1000000 in
theorem logConsistency_ok {w : World} {a b : Nat} {fv wv : Value} {D : Dk} {W E : List ByteArray} (h : LogAt w a b fv wv D W) (hH : Holds D E) (ht : Table w) (hg : 2 < w.heap.size) (i n : Nat) (hn : n ≤ E.length) (hi1 : 1 ≤ i) (hi : i ≤ n) : Calls Tryd.prog 39 #[.pointer (some ⟨a, 0, none⟩), .int .i64 (i : Int), .int .i64 (n : Int)] w fun e w' => ∃ v, e = .returned (.tuple #[v, .int .i64 0]) ∧ Row w' w.heap.size 9 v (strv (conF n i ((E.map leafS).take n) true)) ∧ Below w.heap.size w w' := by
  have hk := logCk_ok h hH.nf.failed
  rw [hH.ckN] at hk
  have hE := hH.len
  have hlg := fun wx (hx : Below w.heap.size w wx) => (h.below hx).blk.cell 0
  have hin : Aside (∀ wx, Below w.heap.size w wx → GivesRow wx 73 #[.int .i64 (i : Int), .int .i64 (n : Int), spanV b] (conF n i ((E.map leafS).take n) true)) := fun wx hx => by
    refine treeConsistency i n _ _ wx ?_
    have q := beside_con hH n i 0 n 6 wx (h.below hx).disk (table_at hx hg ht) (Nat.lt_of_lt_of_le hg hx.size) (Nat.le_refl _) (by omega) (by omega) (by omega) (Nat.dvd_zero _) (by omega) (by omega) (by omega)
    rw [Nat.sub_zero, List.drop_zero, Nat.zero_add] at q
    exact q
  unfold spanV stV at hin
  have hmf : ∀ (fn : Fn) (first cap : Array Value) (w : World), (Instr.makeFunc fn first cap).run Tryd.prog w = .ok (.func fn first cap) w := fun _ _ _ _ => rfl
  have hi1 : ¬ (i : Int) < 1 := by omega
  have hi2 : ¬ (i : Int) > (n : Int) := by omega
  generalize conF n i ((E.map leafS).take n) true = xs at *
  generalize strOf D.ckR = rt at *
  have hnE : ¬ (n : Int) > (E.length : Int) := by omega
  generalize (E.length : Int) = al at *
  go_enter Tryd.func39, Tryd.ntmps39
  go_wp2_with fail
  refine hk.mono ?_
  rintro e w1 ⟨rfl, hb1⟩
  have hc := hlg w1 hb1
  simp only [List.getElem?_cons_zero] at hc
  have hin1 := hin.out w1 hb1
  unfold GivesRow at hin1
  clear hk hlg
  go_wp2_with fail
  refine hin1.mono ?_
  rintro e w2 ⟨v, rfl, hr, hb2⟩
  have hr2 := hr.mono hb1.size
  clear hin1 hr
  go_wp2
  go_ret2
  exact ⟨_, rfl, hr2, hb1.trans (hb2.mono hb1.size)⟩
end Go.Proofs.YtlhohmlpcgbliaaDoor
namespace Go.Proofs.YtlhohmlpcgbliaaDoor
set_option maxRecDepth 100000
open Go.RowKit
attribute [local go_sem ↓] Go.wp_at_zero Go.wp_at_succ

theorem extTreeB_mid (old root : ByteArray) (m n : Nat) (v : Value) (ss : List ByteArray) (w : World) (h0 : 1 ≤ m) (h1 : m < n) (h2 : n ≤ 1099511627776) (hl : old.size ≤ 140737488355328) (hv : Lst w v ss) (hf : FewB ss) (ht : Table w) (hg : 2 < w.heap.size) (hT : TabAt 1 Lib.deBruijn64tab w) :
    Calls Tryd.prog 64 #[.int .i64 (m : Int), .int .i64 (n : Int), .string old, .string root, v] w fun e w' => e = .returned (.bool (decide (boR old ss.reverse m n true = some (old, root)))) ∧ Below w.heap.size w w' := by
  obtain ⟨q, hq, hh⟩ := Lib.ctzFrom_spec 64 m (by omega) (by omega)
  have hz : ∀ wx, (∃ d, wx = w.drewN d) → Calls Tryd.prog 90 #[.int .u64 (m : Int)] wx fun e w' => e = .returned (.int .i64 ((Lib.ctzFrom 64 m : Nat) : Int)) ∧ w' = wx := by
    rintro wx ⟨d, rfl⟩
    have := bits_TrailingZeros m (by omega) (w.drewN d) (fun _ j hj => by rw [World.cell?_drewN]; exact hT j hj)
    rw [Lib.ctz, if_neg (by omega)] at this
    exact this
  generalize Lib.ctzFrom 64 m = h at *
  have hb := boR_cl old ss.reverse h q m n 40 true hq h1 (by omega)
  rw [List.reverse_reverse] at hb
  have e1 := odd_at m h q hq
  have e2 := last_at n h (by omega)
  have hp := Nat.two_pow_pos h
  have hla : 2 * q + 1 ≤ (n - 1) / 2 ^ h := (Nat.le_div_iff_mul_le hp).2 (by rw [Nat.mul_comm (2 * q + 1), ← hq]; omega)
  have hlb : (n - 1) / 2 ^ h ≤ n - 1 := Nat.div_le_self _ _
  have hcl : ∀ (st : ByteArray) (u : Value) (rr : List ByteArray), st.size ≤ 140737488355328 → Lst w u rr → FewB rr → ∀ wx, (∃ d, wx = w.drewN d) → Calls Tryd.prog 89 #[.string st, .int .i64 (((m : Int) - 1) / 2 ^ h), .int .i64 (((n : Int) - 1) / 2 ^ h), u] wx (ClimbAs (cl 40 st st (2 * q) ((n - 1) / 2 ^ h) rr) wx) := by
    rintro st u rr hst hu hrr wx ⟨d, rfl⟩
    rw [e1, e2]
    exact climb_big st (2 * q) ((n - 1) / 2 ^ h) u rr (w.drewN d) (by omega) (by omega) (by omega) (hu.drewN d) hrr (fun j hj => by rw [World.cell?_drewN]; exact ht j hj) hg
  by_cases hq0 : q = 0
  · rw [hb, hq0]
    rw [hq0] at hcl
    refine extTree_a old root m n h v w _ h0 h1 h2 hh (by rw [e1, hq0]; decide) hz ?_
    simpa [St] using hcl old v ss hl hv hf
  · rw [hb, decide_eq_false hq0]
    have hat : 0 < ((m : Int) - 1) / 2 ^ h := by rw [e1]; omega
    obtain ⟨p, c, rfl, hc, hcell⟩ := id hv
    cases ss with
    | nil => simpa [St] using extTree_b old root m n h c p w h0 h1 h2 hh hat hz
    | cons s r =>
      obtain ⟨b, o, rfl, hx⟩ := hcell 0 s rfl
      simp only [List.length_cons] at hc hv ⊢
      have hr : FewB r := ⟨by have := hf.1; simp at this; omega, fun x hx => hf.2 x (List.mem_cons_of_mem _ hx)⟩
      have := extTree_c old root s m n h r.length c b o _ w (cl 40 s s (2 * q) ((n - 1) / 2 ^ h) r) h0 h1 h2 hh hat hx (fun wx => slice_tail wx b o r.length c hc) hz (hcl s _ r (hf.2 s (List.mem_cons_self ..)) hv.tail hr)
      simpa [St] using this

theorem extTreeB_any (old root : ByteArray) (m n : Int) (v : Value) (ss : List ByteArray) (w : World) (hl : old.size ≤ 140737488355328) (hv : Lst w v ss) (hf : FewB ss) (ht : Table w) (hg : 2 < w.heap.size) (hT : TabAt 1 Lib.deBruijn64tab w) :
    Calls Tryd.prog 64 #[.int .i64 m, .int .i64 n, .string old, .string root, v] w fun e w' => e = .returned (.bool (extB m n old root ss)) ∧ Below w.heap.size w w' := by
  unfold extB
  by_cases h0 : 1 ≤ m
  · by_cases h1 : m ≤ n
    · by_cases h2 : n ≤ 1099511627776
      · rw [decide_eq_true (show 1 ≤ m ∧ m ≤ n ∧ n ≤ 1099511627776 from ⟨h0, h1, h2⟩), Bool.true_and]
        obtain ⟨a, rfl⟩ := Int.eq_ofNat_of_zero_le (show 0 ≤ m by omega)
        obtain ⟨b, rfl⟩ := Int.eq_ofNat_of_zero_le (show 0 ≤ n by omega)
        simp only [Int.toNat_natCast]
        by_cases he : a = b
        · subst he
          obtain ⟨p, c, rfl, hc, hcell⟩ := hv
          refine (extTree_full old root a ss.length c p w (by omega) (by omega)).mono fun e w' ⟨he, hb⟩ => ⟨?_, by rw [hb]; exact Below.refl _ _⟩
          rw [he]
          cases ss with
          | nil => simp [boR_full old 40 a true, St, cl_zero]
          | cons s r => simp [boR_full old 40 a true, St, cl_zero]
        · exact extTreeB_mid old root a b v ss w (by omega) (by omega) (by omega) hl hv hf ht hg hT
      · refine (extTree_great old root m n v w h0 h1 (by omega)).mono fun e w' ⟨he, hb⟩ => ⟨?_, by rw [hb]; exact Below.refl _ _⟩
        rw [he, decide_eq_false (by omega)]; rfl
    · refine (extTree_high old root m n v w h0 (by omega)).mono fun e w' ⟨he, hb⟩ => ⟨?_, by rw [hb]; exact Below.refl _ _⟩
      rw [he, decide_eq_false (by omega)]; rfl
  · refine (extTree_low old root m n v w (by omega)).mono fun e w' ⟨he, hb⟩ => ⟨?_, by rw [hb]; exact Below.refl _ _⟩
    rw [he, decide_eq_false (by omega)]; rfl

set_option maxHeartbeats 400000 in
theorem ext_big (old root : ByteArray) (m n : Int) (v : Value) (ss : List ByteArray) (w : World) (hl : old.size ≤ 140737488355328) (hv : Lst w v ss) (hf : FewB ss) (ht : Table w) (hg : 2 < w.heap.size) (hT : TabAt 1 Lib.deBruijn64tab w) :
    Calls Tryd.prog 24 #[.int .i64 m, .int .i64 n, .string old, .string root, v] w fun e w' => e = .returned (.bool (extB m n old root ss)) ∧ Below w.heap.size w w' := by
  have h1 := extTreeB_any old root m n v ss w hl hv hf ht hg hT
  clear hv hf hT
  go_enter Tryd.func24, Tryd.ntmps24
  go_wp2_with (go_at_call 64; refine h1.mono ?_; rintro e w' ⟨rfl, hb⟩)
  go_ret
  exact ⟨rfl, hb⟩

theorem cl_more (x : ByteArray) : ∀ (f : Nat) (p w : ByteArray) (i last : Nat) (l : List ByteArray) (r : ByteArray × ByteArray), cl f p w i last l = some r → cl f p w i last (l ++ [x]) = none := by
  intro f
  induction f with
  | zero =>
    intro p w i last l r h
    simp [cl]
  | succ f ih =>
    intro p w i last l r h
    simp only [cl] at h ⊢
    split
    · simp
    · rename_i h0
      rw [if_neg h0] at h
      split
      · rename_i h1
        rw [if_pos h1] at h
        cases l with
        | nil => simp at h
        | cons y l => simpa using ih _ _ _ _ _ _ h
      · rename_i h1
        rw [if_neg h1] at h
        split
        · rename_i h2
          rw [if_pos h2] at h
          cases l with
          | nil => simp at h
          | cons y l => simpa using ih _ _ _ _ _ _ h
        · rename_i h2
          rw [if_neg h2] at h
          exact ih _ _ _ _ _ _ h

theorem incl_more {leaf r r' x : ByteArray} {i n : Int} {l : List ByteArray} (h : inclB leaf i n l r = true) : inclB leaf i n (l ++ [x]) r' = false := by
  unfold inclB at *
  simp only [Bool.and_eq_true, decide_eq_true_eq, Option.map_eq_some_iff] at h
  obtain ⟨_, q, hq, _⟩ := h
  rw [cl_more x _ _ _ _ _ _ _ hq]
  simp

theorem incl_other {leaf r r' : ByteArray} {i n : Int} {l : List ByteArray} (h : inclB leaf i n l r = true) (hr : r' ≠ r) : inclB leaf i n l r' = false := by
  unfold inclB at *
  simp only [Bool.and_eq_true, decide_eq_true_eq] at h
  rw [h.2]
  simp only [Bool.and_eq_false_iff, decide_eq_false_iff_not]
  exact .inr fun e => hr (Option.some.inj e).symm

theorem ext_other {old r r' : ByteArray} {m n : Int} {l : List ByteArray} (h : extB m n old r l = true) (hr : r' ≠ r) : extB m n old r' l = false := by
  unfold extB at *
  simp only [Bool.and_eq_true, decide_eq_true_eq] at h
  rw [h.2]
  simp only [Bool.and_eq_false_iff, decide_eq_false_iff_not]
  exact .inr fun e => hr (Prod.mk.inj (Option.some.inj e)).2.symm

theorem conF_boR_np (x : ByteArray) : ∀ (f m : Nat) (l : List ByteArray), l.length ≤ f → 1 ≤ m → m < l.length → (∀ h, m ≠ 2 ^ h) → boR x (conF f m l true).reverse m l.length true = some (mth (l.take m), mth l) := by
  intro f
  induction f with
  | zero => intro m l h1 h2 h3 _; omega
  | succ f ih =>
    intro m l h1 h2 h3 hp
    simp only [conF]
    have hm : ¬ m = l.length := by omega
    rw [if_neg hm]
    have h5 := spl_lt (n := l.length) (by omega)
    have h6 := spl_pos l.length
    by_cases h7 : m ≤ spl l.length
    · rw [if_pos h7, List.reverse_append, List.reverse_singleton, List.singleton_append]
      simp only [boR]
      rw [if_neg hm, if_pos h7]
      have h8 : m ≠ spl l.length := by obtain ⟨h, e⟩ := spl_pow l.length; rw [e]; exact hp h
      have e1 : (l.take (spl l.length)).take m = l.take m := by rw [List.take_take, Nat.min_eq_left h7]
      have := ih m (l.take (spl l.length)) (by rw [List.length_take]; omega) h2 (by rw [List.length_take]; omega) hp
      rw [e1, List.length_take, Nat.min_eq_left (by omega)] at this
      rw [this, mth_two (l := l) (by omega)]; rfl
    · rw [if_neg h7, List.reverse_append, List.reverse_singleton, List.singleton_append]
      simp only [boR]
      rw [if_neg hm, if_neg h7]
      have := conF_boR x f (m - spl l.length) (l.drop (spl l.length)) false (by rw [List.length_drop]; omega) (by omega) (by rw [List.length_drop]; omega) (fun h => by cases h)
      rw [List.length_drop] at this
      have hlm : (l.take m).length = m := by rw [List.length_take]; omega
      have e2 : mth (l.take m) = nodeS (mth (l.take (spl l.length))) (mth ((l.drop (spl l.length)).take (m - spl l.length))) := by
        rw [mth_two (l := l.take m) (by omega), hlm, spl_mid (n := l.length) (by omega) (by omega) (by omega), List.take_take, Nat.min_eq_left (by omega), List.drop_take]
      rw [this, e2, mth_two (l := l) (by omega)]; rfl

theorem not_pow {m : Nat} (h : m &&& (m - 1) ≠ 0) : ∀ k, m ≠ 2 ^ k := by
  intro k e
  apply h
  rw [e, Nat.and_two_pow_sub_one_eq_mod, Nat.mod_self]

theorem ext_old {l : List ByteArray} {m : Nat} {x : ByteArray} (h1 : 1 ≤ m) (h2 : m < l.length) (hp : m &&& (m - 1) ≠ 0) (hx : x ≠ mth (l.take m)) : extB m l.length x (mth l) (conF l.length m l true) = false := by
  have h := conF_boR_np x l.length m l (Nat.le_refl _) h1 h2 (not_pow hp)
  unfold extB
  simp only [Int.toNat_natCast, h, Bool.and_eq_false_iff, decide_eq_false_iff_not]
  exact .inr fun e => hx (Prod.mk.inj (Option.some.inj e)).1.symm
end Go.Proofs.YtlhohmlpcgbliaaDoor
namespace Go.Proofs.YtlhohmlpcgbliaaDoor
set_option maxRecDepth 100000
open Go.RowKit
attribute [local go_sem ↓] Go.wp_at_zero Go.wp_at_succ

/-- A function's code from a region on. -/
def findSfx (n : Nat) : Code → Option Code
  | .seq (.region k ops d) b => if k = n then some (.seq (.region k ops d) b) else findSfx n b
  | .seq _ b => findSfx n b
  | _ => none
def sfx (f : Func) (n : Nat) : Code := (f.body.bind (findSfx n)).getD .skip

/-- Included answers so of every such list. -/
def InclAs (w0 : World) (leaf root : ByteArray) (i n : Nat) (l : List ByteArray) (r : Bool) : Prop := ∀ wx v, Below w0.heap.size w0 wx → Lst wx v l → Calls Tryd.prog 23 #[.string leaf, .int .i64 (i : Int), .int .i64 (n : Int), v, .string root] wx fun e w' => e = .returned (.bool r) ∧ Below wx.heap.size wx w'

def shQ (w0 : World) : Exit → Act → World → Prop := bodyPost Tryd.prog Tryd.f8 fun e w' => e = .returned (.bool true) ∧ Below w0.heap.size w0 w'

set_option maxHeartbeats 1000000 in
theorem sh22_wp {c0 c1 c3 c6 c7 c8 c9 c10 c11 c12 c13 c14 c16 c19 c20 c21 c27 c28 c29 c30 c31 c32 c33 c34 c35 c36 c37 c38 c39 c40 c41 c42 c43 c44 c45 c46 c47 c48 c49 c50 c51 c52 c53 c54 c55 c56 c57 c58 c59 c60 c61 c62 c63 c64 c65 c66 c67 c68 c69 c70 c71 c72 c73 c74 c75 c76 c77 c78 c79 c80 c81 c82 c83 c84 c85 c86 c87 c88 c89 c90 c91 c92 c93 c94 c95 c96 c97 c98 c99 c100 c101 c102 c103 c104 c105 c106 c107 c108 c109 c110 c111 c112 c113 c114 c115 c116 c117 c118 c119 c120 c121 c122 c123 c124 c125 c126 c127 c128 c129 c130 c131 c132 c133 c134 c135 c136 c137 c138 c139 c140 c141 c142 c143 c144 c145 c146 c147 c148 c149 c150 c151 c152 c153 c154 c155 c156 c157 c158 c159 c160 c161 c162 c163 c164 c165 c166 c167 c168 c169 c170 c171 c172 : Value} (i n : Nat) (leaf root other : ByteArray) (pv : Value) (P : List ByteArray) (w0 w : World) (base : Nat) (hrow : Row w base 9 pv (strv P)) (hbase : w0.heap.size ≤ base) (hbw : base ≤ w.heap.size) (hPl : P.length ≤ 64) (hb : Below w0.heap.size w0 w)
  (hI : InclAs w0 leaf root i n (P ++ [other]) false) :
    Code.wp Tryd.prog (sfx Tryd.f8 22) (shQ w0) ⟨#[c0, c1, .int .i64 (i : Int), c3, .int .i64 (n : Int), .string other, c6, c7, c8, c9, c10, c11, c12, c13, c14, .string root, c16, .string leaf, pv, c19, c20, c21, .bool true, .bool true, .bool false, .bool false, .bool false, c27, c28, c29, c30, c31, c32, c33, c34, c35, c36, c37, c38, c39, c40, c41, c42, c43, c44, c45, c46, c47, c48, c49, c50, c51, c52, c53, c54, c55, c56, c57, c58, c59, c60, c61, c62, c63, c64, c65, c66, c67, c68, c69, c70, c71, c72, c73, c74, c75, c76, c77, c78, c79, c80, c81, c82, c83, c84, c85, c86, c87, c88, c89, c90, c91, c92, c93, c94, c95, c96, c97, c98, c99, c100, c101, c102, c103, c104, c105, c106, c107, c108, c109, c110, c111, c112, c113, c114, c115, c116, c117, c118, c119, c120, c121, c122, c123, c124, c125, c126, c127, c128, c129, c130, c131, c132, c133, c134, c135, c136, c137, c138, c139, c140, c141, c142, c143, c144, c145, c146, c147, c148, c149, c150, c151, c152, c153, c154, c155, c156, c157, c158, c159, c160, c161, c162, c163, c164, c165, c166, c167, c168, c169, c170, c171, c172], []⟩ w := by
  conv => arg 2; whnf
  have HI : Aside (InclAs w0 leaf root i n (P ++ [other]) false) := hI
  have HX : Aside (strv P ++ [.string other] = strv (P ++ [other])) := by show _ = _; simp [strv]
  have hxl : (strv P).length ≤ 64 := by rw [strv_length]; exact hPl
  clear hI
  have HQ : Aside (shQ w0 = bodyPost Tryd.prog Tryd.f8 fun e w' => e = .returned (.bool true) ∧ Below w0.heap.size w0 w') := rfl
  generalize shQ w0 = Q at *
  generalize strv P = xs at *
  have hsz := hb.size
  go_wp2_with (at_builtin; refine wpList_app elem_string rfl Tryd.underlying22 (by rfl) (.tmp 147) (.tmp 149) (by rfl) base _ xs (by rfl) (hrow.alloc _) _ 1 1 [.string other] (by rfl) rfl (Blk.new _ 9 _) ?h1 ?hl ?hb ?hbs (w0 := w0) (B := w0.heap.size) (hb.alloc hb.size _) hbase ?_)
  case h1 => intro u hu; simp at hu; subst hu; rfl
  case hl => omega
  case hb => omega
  case hbs => simp; omega
  intro vL w4 hrow4 _ b4
  rw [HX.out] at hrow4
  have hls := (LA.of_row hrow4).2
  go_wp2_with fail
  refine (HI.out w4 vL b4 hls).mono ?_
  rintro e w5 ⟨rfl, b5⟩
  have B5 := b4.trans (b5.mono b4.size)
  go_wp2
  rw [HQ.out]
  go_ret
  exact ⟨rfl, B5⟩

/-- Extends answers so of every such list. -/
def ExtAs (w0 : World) (old root : ByteArray) (m n : Nat) (l : List ByteArray) (r : Bool) : Prop := ∀ wx v, Below w0.heap.size w0 wx → Lst wx v l → Calls Tryd.prog 24 #[.int .i64 (m : Int), .int .i64 (n : Int), .string old, .string root, v] wx fun e w' => e = .returned (.bool r) ∧ Below wx.heap.size wx w'

theorem and_pred : ∀ m : Nat, m < 66 → bits .and .i64 (m : Int) ((m : Int) - 1) = if m = 0 then 0 else ((m &&& (m - 1) : Nat) : Int) := by decide +kernel

/-- What the rest of Shown hangs on. -/
structure ShH (w0 w : World) (i m n : Nat) (leaf root old other : ByteArray) (pv qv : Value) (P L : List ByteArray) (B : Bool) (base : Nat) : Prop where
  row : Row w base 9 pv (strv P)
  lq : Lst w qv L
  b0 : w0.heap.size ≤ base
  bw : base ≤ w.heap.size
  len : P.length ≤ 64
  m1 : 1 ≤ m
  mn : m ≤ n
  n64 : n ≤ 64
  bel : Below w0.heap.size w0 w
  inc : InclAs w0 leaf root i n (P ++ [other]) false
  inc2 : other ≠ root → InclAs w0 leaf other i n P false
  ext2 : other ≠ root → ExtAs w0 old other m n L false
  ext3 : ExtAs w0 other root m n L B
  np : other ≠ old → B = true → m ≠ n → m &&& (m - 1) = 0

theorem ShH.below {w0 w w' : World} {i m n : Nat} {leaf root old other : ByteArray} {pv qv : Value} {P L : List ByteArray} {B : Bool} {base : Nat} (h : ShH w0 w i m n leaf root old other pv qv P L B base) (hb : Below w.heap.size w w') : ShH w0 w' i m n leaf root old other pv qv P L B base :=
  ⟨h.row.below hb (Nat.le_refl _), h.lq.below hb, h.b0, Nat.le_trans h.bw hb.size, h.len, h.m1, h.mn, h.n64, h.bel.trans (hb.mono h.bel.size), h.inc, h.inc2, h.ext2, h.ext3, h.np⟩


set_option maxHeartbeats 1000000 in
theorem sh21_wp {c0 c1 c6 c7 c8 c9 c10 c11 c12 c13 c14 c19 c21 c26 c27 c28 c29 c30 c31 c32 c33 c34 c35 c36 c37 c38 c39 c40 c41 c42 c43 c44 c45 c46 c47 c48 c49 c50 c51 c52 c53 c54 c55 c56 c57 c58 c59 c60 c61 c62 c63 c64 c65 c66 c67 c68 c69 c70 c71 c72 c73 c74 c75 c76 c77 c78 c79 c80 c81 c82 c83 c84 c85 c86 c87 c88 c89 c90 c91 c92 c93 c94 c95 c96 c97 c98 c99 c100 c101 c102 c103 c104 c105 c106 c107 c108 c109 c110 c111 c112 c113 c114 c115 c116 c117 c118 c119 c120 c121 c122 c123 c124 c125 c126 c127 c128 c129 c130 c131 c132 c133 c134 c135 c136 c137 c138 c139 c140 c141 c142 c143 c144 c145 c146 c147 c148 c149 c150 c151 c152 c153 c154 c155 c156 c157 c158 c159 c160 c161 c162 c163 c164 c165 c166 c167 c168 c169 c170 c171 c172 : Value} (i m n : Nat) (leaf root old other : ByteArray) (pv qv : Value) (P L : List ByteArray) (B : Bool) (w0 w : World) (base : Nat) (h : ShH w0 w i m n leaf root old other pv qv P L B base) :
    Code.wp Tryd.prog (sfx Tryd.f8 21) (shQ w0) ⟨#[c0, c1, .int .i64 (i : Int), .int .i64 (m : Int), .int .i64 (n : Int), .string other, c6, c7, c8, c9, c10, c11, c12, c13, c14, .string root, .string old, .string leaf, pv, c19, qv, c21, .bool true, .bool true, .bool false, .bool false, c26, c27, c28, c29, c30, c31, c32, c33, c34, c35, c36, c37, c38, c39, c40, c41, c42, c43, c44, c45, c46, c47, c48, c49, c50, c51, c52, c53, c54, c55, c56, c57, c58, c59, c60, c61, c62, c63, c64, c65, c66, c67, c68, c69, c70, c71, c72, c73, c74, c75, c76, c77, c78, c79, c80, c81, c82, c83, c84, c85, c86, c87, c88, c89, c90, c91, c92, c93, c94, c95, c96, c97, c98, c99, c100, c101, c102, c103, c104, c105, c106, c107, c108, c109, c110, c111, c112, c113, c114, c115, c116, c117, c118, c119, c120, c121, c122, c123, c124, c125, c126, c127, c128, c129, c130, c131, c132, c133, c134, c135, c136, c137, c138, c139, c140, c141, c142, c143, c144, c145, c146, c147, c148, c149, c150, c151, c152, c153, c154, c155, c156, c157, c158, c159, c160, c161, c162, c163, c164, c165, c166, c167, c168, c169, c170, c171, c172], []⟩ w := by
  conv => arg 2; whnf
  have H : Aside (ShH w0 w i m n leaf root old other pv qv P L B base) := h
  have hm1 := h.m1
  have hmn := h.mn
  have hn64 := h.n64
  clear h
  generalize hQ : shQ w0 = Q
  have HQ : Aside (shQ w0 = Q) := hQ
  clear hQ
  refine wp_seq_k ?_
  intro K hK
  have HK : Aside (∀ a w, _ → K a w) := hK
  clear hK
  by_cases he : other = old
  · have hE : (other.toList == old.toList) = true := by rw [eqs]; exact decide_eq_true he
    clear he
    go_wp2
    refine HK.out _ _ ?_
    rw [← HQ.out]
    exact sh22_wp i n leaf root other pv P w0 w base H.out.row H.out.b0 H.out.bw H.out.len H.out.bel H.out.inc
  · have hE : (other.toList == old.toList) = false := by rw [eqs]; exact decide_eq_false he
    have g := H.out.ext3 w qv H.out.bel H.out.lq
    have hnp := H.out.np he
    clear he
    cases B with
    | false =>
      go_wp2_with fail
      refine g.mono ?_
      rintro e w1 ⟨rfl, hb1⟩
      have H1 : Aside (ShH w0 w1 i m n leaf root old other pv qv P L false base) := H.out.below hb1
      clear g hb1 H hnp
      go_wp2
      refine HK.out _ _ ?_
      rw [← HQ.out]
      exact sh22_wp i n leaf root other pv P w0 w1 base H1.out.row H1.out.b0 H1.out.bw H1.out.len H1.out.bel H1.out.inc
    | true =>
      by_cases hmn2 : m = n
      · subst hmn2
        go_wp2_with fail
        refine g.mono ?_
        rintro e w1 ⟨rfl, hb1⟩
        have H1 : Aside (ShH w0 w1 i m m leaf root old other pv qv P L true base) := H.out.below hb1
        clear g hb1 H hnp
        go_wp2
        refine HK.out _ _ ?_
        rw [← HQ.out]
        exact sh22_wp i m leaf root other pv P w0 w1 base H1.out.row H1.out.b0 H1.out.bw H1.out.len H1.out.bel H1.out.inc
      · have hz : bits .and .i64 (m : Int) ((m : Int) - 1) = 0 := by rw [and_pred m (by omega), if_neg (by omega), hnp rfl hmn2]; rfl
        have hmn3 : ¬ (m : Int) = (n : Int) := by omega
        go_wp2_with fail
        refine g.mono ?_
        rintro e w1 ⟨rfl, hb1⟩
        have H1 : Aside (ShH w0 w1 i m n leaf root old other pv qv P L true base) := H.out.below hb1
        clear g hb1 H hnp
        go_wp2
        refine HK.out _ _ ?_
        rw [← HQ.out]
        exact sh22_wp i n leaf root other pv P w0 w1 base H1.out.row H1.out.b0 H1.out.bw H1.out.len H1.out.bel H1.out.inc

set_option maxHeartbeats 1000000 in
theorem sh20_wp {c0 c1 c6 c7 c8 c9 c10 c11 c12 c13 c14 c19 c21 c25 c26 c27 c28 c29 c30 c31 c32 c33 c34 c35 c36 c37 c38 c39 c40 c41 c42 c43 c44 c45 c46 c47 c48 c49 c50 c51 c52 c53 c54 c55 c56 c57 c58 c59 c60 c61 c62 c63 c64 c65 c66 c67 c68 c69 c70 c71 c72 c73 c74 c75 c76 c77 c78 c79 c80 c81 c82 c83 c84 c85 c86 c87 c88 c89 c90 c91 c92 c93 c94 c95 c96 c97 c98 c99 c100 c101 c102 c103 c104 c105 c106 c107 c108 c109 c110 c111 c112 c113 c114 c115 c116 c117 c118 c119 c120 c121 c122 c123 c124 c125 c126 c127 c128 c129 c130 c131 c132 c133 c134 c135 c136 c137 c138 c139 c140 c141 c142 c143 c144 c145 c146 c147 c148 c149 c150 c151 c152 c153 c154 c155 c156 c157 c158 c159 c160 c161 c162 c163 c164 c165 c166 c167 c168 c169 c170 c171 c172 : Value} (i m n : Nat) (leaf root old other : ByteArray) (pv qv : Value) (P L : List ByteArray) (B : Bool) (w0 w : World) (base : Nat) (h : ShH w0 w i m n leaf root old other pv qv P L B base) :
    Code.wp Tryd.prog (sfx Tryd.f8 20) (shQ w0) ⟨#[c0, c1, .int .i64 (i : Int), .int .i64 (m : Int), .int .i64 (n : Int), .string other, c6, c7, c8, c9, c10, c11, c12, c13, c14, .string root, .string old, .string leaf, pv, c19, qv, c21, .bool true, .bool true, .bool false, c25, c26, c27, c28, c29, c30, c31, c32, c33, c34, c35, c36, c37, c38, c39, c40, c41, c42, c43, c44, c45, c46, c47, c48, c49, c50, c51, c52, c53, c54, c55, c56, c57, c58, c59, c60, c61, c62, c63, c64, c65, c66, c67, c68, c69, c70, c71, c72, c73, c74, c75, c76, c77, c78, c79, c80, c81, c82, c83, c84, c85, c86, c87, c88, c89, c90, c91, c92, c93, c94, c95, c96, c97, c98, c99, c100, c101, c102, c103, c104, c105, c106, c107, c108, c109, c110, c111, c112, c113, c114, c115, c116, c117, c118, c119, c120, c121, c122, c123, c124, c125, c126, c127, c128, c129, c130, c131, c132, c133, c134, c135, c136, c137, c138, c139, c140, c141, c142, c143, c144, c145, c146, c147, c148, c149, c150, c151, c152, c153, c154, c155, c156, c157, c158, c159, c160, c161, c162, c163, c164, c165, c166, c167, c168, c169, c170, c171, c172], []⟩ w := by
  conv => arg 2; whnf
  have H : Aside (ShH w0 w i m n leaf root old other pv qv P L B base) := h
  have hm1 := h.m1
  have hmn := h.mn
  have hn64 := h.n64
  clear h
  generalize hQ : shQ w0 = Q
  have HQ : Aside (shQ w0 = Q) := hQ
  clear hQ
  refine wp_seq_k ?_
  intro K hK
  have HK : Aside (∀ a w, _ → K a w) := hK
  clear hK
  by_cases he : other = root
  · have hE : (other.toList == root.toList) = true := by rw [eqs]; exact decide_eq_true he
    clear he
    go_wp2
    refine HK.out _ _ ?_
    rw [← HQ.out]
    exact sh21_wp i m n leaf root old other pv qv P L B w0 w base H.out
  · have hE : (other.toList == root.toList) = false := by rw [eqs]; exact decide_eq_false he
    have g := H.out.ext2 he w qv H.out.bel H.out.lq
    clear he
    go_wp2_with fail
    refine g.mono ?_
    rintro e w1 ⟨rfl, hb1⟩
    have H1 : Aside (ShH w0 w1 i m n leaf root old other pv qv P L B base) := H.out.below hb1
    clear g hb1 H
    go_wp2
    refine HK.out _ _ ?_
    rw [← HQ.out]
    exact sh21_wp i m n leaf root old other pv qv P L B w0 w1 base H1.out

set_option maxHeartbeats 1000000 in
theorem sh19_wp {c0 c1 c6 c7 c8 c9 c10 c11 c12 c13 c14 c19 c21 c24 c25 c26 c27 c28 c29 c30 c31 c32 c33 c34 c35 c36 c37 c38 c39 c40 c41 c42 c43 c44 c45 c46 c47 c48 c49 c50 c51 c52 c53 c54 c55 c56 c57 c58 c59 c60 c61 c62 c63 c64 c65 c66 c67 c68 c69 c70 c71 c72 c73 c74 c75 c76 c77 c78 c79 c80 c81 c82 c83 c84 c85 c86 c87 c88 c89 c90 c91 c92 c93 c94 c95 c96 c97 c98 c99 c100 c101 c102 c103 c104 c105 c106 c107 c108 c109 c110 c111 c112 c113 c114 c115 c116 c117 c118 c119 c120 c121 c122 c123 c124 c125 c126 c127 c128 c129 c130 c131 c132 c133 c134 c135 c136 c137 c138 c139 c140 c141 c142 c143 c144 c145 c146 c147 c148 c149 c150 c151 c152 c153 c154 c155 c156 c157 c158 c159 c160 c161 c162 c163 c164 c165 c166 c167 c168 c169 c170 c171 c172 : Value} (i m n : Nat) (leaf root old other : ByteArray) (pv qv : Value) (P L : List ByteArray) (B : Bool) (w0 w : World) (base : Nat) (h : ShH w0 w i m n leaf root old other pv qv P L B base) :
    Code.wp Tryd.prog (sfx Tryd.f8 19) (shQ w0) ⟨#[c0, c1, .int .i64 (i : Int), .int .i64 (m : Int), .int .i64 (n : Int), .string other, c6, c7, c8, c9, c10, c11, c12, c13, c14, .string root, .string old, .string leaf, pv, c19, qv, c21, .bool true, .bool true, c24, c25, c26, c27, c28, c29, c30, c31, c32, c33, c34, c35, c36, c37, c38, c39, c40, c41, c42, c43, c44, c45, c46, c47, c48, c49, c50, c51, c52, c53, c54, c55, c56, c57, c58, c59, c60, c61, c62, c63, c64, c65, c66, c67, c68, c69, c70, c71, c72, c73, c74, c75, c76, c77, c78, c79, c80, c81, c82, c83, c84, c85, c86, c87, c88, c89, c90, c91, c92, c93, c94, c95, c96, c97, c98, c99, c100, c101, c102, c103, c104, c105, c106, c107, c108, c109, c110, c111, c112, c113, c114, c115, c116, c117, c118, c119, c120, c121, c122, c123, c124, c125, c126, c127, c128, c129, c130, c131, c132, c133, c134, c135, c136, c137, c138, c139, c140, c141, c142, c143, c144, c145, c146, c147, c148, c149, c150, c151, c152, c153, c154, c155, c156, c157, c158, c159, c160, c161, c162, c163, c164, c165, c166, c167, c168, c169, c170, c171, c172], []⟩ w := by
  conv => arg 2; whnf
  have H : Aside (ShH w0 w i m n leaf root old other pv qv P L B base) := h
  have hm1 := h.m1
  have hmn := h.mn
  have hn64 := h.n64
  clear h
  generalize hQ : shQ w0 = Q
  have HQ : Aside (shQ w0 = Q) := hQ
  clear hQ
  refine wp_seq_k ?_
  intro K hK
  have HK : Aside (∀ a w, _ → K a w) := hK
  clear hK
  by_cases he : other = root
  · have hE : (other.toList == root.toList) = true := by rw [eqs]; exact decide_eq_true he
    clear he
    go_wp2
    refine HK.out _ _ ?_
    rw [← HQ.out]
    exact sh20_wp i m n leaf root old other pv qv P L B w0 w base H.out
  · have hE : (other.toList == root.toList) = false := by rw [eqs]; exact decide_eq_false he
    have g := H.out.inc2 he w pv H.out.bel (LA.of_row H.out.row).2
    clear he
    go_wp2_with fail
    refine g.mono ?_
    rintro e w1 ⟨rfl, hb1⟩
    have H1 : Aside (ShH w0 w1 i m n leaf root old other pv qv P L B base) := H.out.below hb1
    clear g hb1 H
    go_wp2
    refine HK.out _ _ ?_
    rw [← HQ.out]
    exact sh20_wp i m n leaf root old other pv qv P L B w0 w1 base H1.out
end Go.Proofs.YtlhohmlpcgbliaaDoor
namespace Go.Proofs.YtlhohmlpcgbliaaDoor
set_option maxRecDepth 100000
open Go.RowKit
attribute [local go_sem ↓] Go.wp_at_zero Go.wp_at_succ

/-- What the lists of a log show, and what they don't (pure). -/
structure ShF (i m n : Nat) (leaf root old : ByteArray) (P L : List ByteArray) : Prop where
  inc : inclB leaf i n P root = true
  ext : extB m n old root L = true
  np : ∀ x, x ≠ old → m ≠ n → m &&& (m - 1) ≠ 0 → extB m n x root L = false
  fp : FewB P
  fl : FewB L
  len : P.length ≤ 64
  lf : leaf.size ≤ 140737488355328
  od : old.size ≤ 140737488355328

theorem shF_of (us : List ByteArray) (i m n : Nat) (s : ByteArray) (hn : n ≤ us.length) (h64 : us.length ≤ 64) (hi : i < n) (hm1 : 1 ≤ m) (hmn : m ≤ n) (hs : us[i]? = some s) :
    ShF i m n (leafS s) (mth ((us.take n).map leafS)) (mth ((us.take m).map leafS)) (incF n i ((us.map leafS).take n)) (conF n m ((us.map leafS).take n) true) := by
  have hl : ((us.map leafS).take n).length = n := by rw [List.length_take, List.length_map]; omega
  have hg : ((us.map leafS).take n)[i]? = some (leafS s) := by rw [List.getElem?_take_of_lt hi, List.getElem?_map, hs]; rfl
  have h32 : ∀ x ∈ (us.map leafS).take n, x.size ≤ 1048576 := fun x hx => by
    obtain ⟨y, _, rfl⟩ := List.mem_map.1 (List.mem_of_mem_take hx)
    rw [leafS_size]; omega
  have e1 : (us.take n).map leafS = (us.map leafS).take n := List.map_take ..
  have e2 : (us.take m).map leafS = ((us.map leafS).take n).take m := by rw [List.map_take, List.take_take, Nat.min_eq_left hmn]
  have a := incl_right _ i _ hg (by omega)
  have b := ext_right ((us.map leafS).take n) m hm1 (by omega) (by omega)
  have c := fun x (hx : x ≠ mth (((us.map leafS).take n).take m)) (h1 : m < n) (h2 : m &&& (m - 1) ≠ 0) => ext_old (l := (us.map leafS).take n) (x := x) hm1 (by omega) h2 hx
  rw [hl] at a b c
  have z1 := mth32 (E := us.take m)
  rw [e2] at z1
  rw [e1, e2]
  exact ⟨a, b, fun x hx h1 h2 => c x hx (by omega) h2, ⟨Nat.le_trans (incF_length _ _ _) (by omega), fun x hx => Nat.le_trans (incF_size _ _ _ h32 x hx) (by omega)⟩, ⟨Nat.le_trans (conF_length _ _ _ _) (by omega), fun x hx => Nat.le_trans (conF_size _ _ _ _ h32 x hx) (by omega)⟩, Nat.le_trans (incF_length _ _ _) (by omega), by rw [leafS_size]; omega, by omega⟩

set_option maxHeartbeats 2000000 in
theorem sh4_wp {c0 c6 c7 c8 c9 c10 c11 c12 c14 c15 c16 c17 c18 c19 c20 c21 c22 c23 c24 c25 c26 c27 c28 c29 c30 c31 c32 c33 c34 c35 c36 c37 c38 c39 c40 c41 c42 c43 c44 c45 c46 c47 c48 c49 c50 c51 c52 c53 c54 c55 c56 c57 c58 c59 c60 c61 c62 c63 c64 c65 c66 c67 c68 c69 c70 c71 c72 c73 c74 c75 c76 c77 c78 c79 c80 c81 c82 c83 c84 c85 c86 c87 c88 c89 c90 c91 c92 c93 c94 c95 c96 c97 c98 c99 c100 c101 c102 c103 c104 c105 c106 c107 c108 c109 c110 c111 c112 c113 c114 c115 c116 c117 c118 c119 c120 c121 c122 c123 c124 c125 c126 c127 c128 c129 c130 c131 c132 c133 c134 c135 c136 c137 c138 c139 c140 c141 c142 c143 c144 c145 c146 c147 c148 c149 c150 c151 c152 c153 c154 c155 c156 c157 c158 c159 c160 c161 c162 c163 c164 c165 c166 c167 c168 c169 c170 c171 c172 : Value} (gv : Value) (ri rm rn : Int) (other : ByteArray) (g og cu m0 : Nat) (us : List ByteArray) (w0 w : World) (hS : SA w g og us) (hgl : g < w.heap.size) (hcu : us.length ≤ cu) (hm0 : us.length = m0) (h1 : 1 ≤ m0) (h64 : m0 ≤ 64) (hz : ∀ s ∈ us, s.size ≤ 40) (hb : Below w0.heap.size w0 w) (hR : RawI w0 gv) (ht : Table w0) (hg : 2 < w0.heap.size) (hT : TabAt 1 Lib.deBruijn64tab w0)
  (hri : -9223372036854775808 ≤ ri ∧ ri ≤ 9223372036854775807) (hrm : -9223372036854775808 ≤ rm ∧ rm ≤ 9223372036854775807) (hrn : -9223372036854775808 ≤ rn ∧ rn ≤ 9223372036854775807) (ho : other.size ≤ 140737488355328) :
    Code.wp Tryd.prog (sfx Tryd.f8 4) (shQ w0) ⟨#[c0, gv, .int .i64 ri, .int .i64 rm, .int .i64 rn, .string other, c6, c7, c8, c9, c10, c11, c12, .slice (some ⟨g, og, none⟩) m0 cu, c14, c15, c16, c17, c18, c19, c20, c21, c22, c23, c24, c25, c26, c27, c28, c29, c30, c31, c32, c33, c34, c35, c36, c37, c38, c39, c40, c41, c42, c43, c44, c45, c46, c47, c48, c49, c50, c51, c52, c53, c54, c55, c56, c57, c58, c59, c60, c61, c62, c63, c64, c65, c66, c67, c68, c69, c70, c71, c72, c73, c74, c75, c76, c77, c78, c79, c80, c81, c82, c83, c84, c85, c86, c87, c88, c89, c90, c91, c92, c93, c94, c95, c96, c97, c98, c99, c100, c101, c102, c103, c104, c105, c106, c107, c108, c109, c110, c111, c112, c113, c114, c115, c116, c117, c118, c119, c120, c121, c122, c123, c124, c125, c126, c127, c128, c129, c130, c131, c132, c133, c134, c135, c136, c137, c138, c139, c140, c141, c142, c143, c144, c145, c146, c147, c148, c149, c150, c151, c152, c153, c154, c155, c156, c157, c158, c159, c160, c161, c162, c163, c164, c165, c166, c167, c168, c169, c170, c171, c172], []⟩ w := by
  conv => arg 2; whnf
  generalize hQ : shQ w0 = Q
  have HQ : Aside (shQ w0 = Q) := hQ
  clear hQ
  have T : Aside (∀ wx, Below w0.heap.size w0 wx → Table wx ∧ 2 < wx.heap.size ∧ TabAt 1 Lib.deBruijn64tab wx) := fun wx hx => ⟨table_at hx hg ht, Nat.lt_of_lt_of_le hg hx.size, tabAt_below hx hT⟩
  have g5 := grown_any g og cu gv us w hS hgl hcu (by omega) hz (hR.below hb) (T.out w hb).1 (T.out w hb).2.1
  rw [hm0] at g5
  have HS : Aside (SA w g og us ∧ us.length ≤ cu ∧ us.length = m0 ∧ ∀ s ∈ us, s.size ≤ 40) := ⟨hS, hcu, hm0, hz⟩
  have hcu0 : m0 ≤ cu := by omega
  clear hS hgl hcu hm0 hz hR ht hg hT
  go_wp2_with fail
  refine g5.mono ?_
  rintro e w5 ⟨a, b, fv, D, rfl, hL, hH, b5, _, _, _⟩
  clear g5
  have HD : Aside (LogAt w5 a b fv (.slice none 0 0) D [] ∧ Holds D us ∧ SA w5 g og us ∧ Below w0.heap.size w0 w5) := ⟨hL, hH, HS.out.1.below b5, hb.trans (b5.mono hb.size)⟩
  clear hL hH b5 hb
  go_wp2_with fail
  refine (pickG_any rn m0 w5 hrn.1 hrn.2 h1 (by omega)).mono ?_
  rintro e w' ⟨rfl, hw'⟩
  rw [hw']
  clear hw'
  have hx0 := pickV_lt rn m0 h1
  generalize pickV rn m0 = x0 at *
  go_wp2_with fail
  generalize hN : (1 + (x0 : Int)) = nI at *
  obtain ⟨n, rfl⟩ : ∃ n : Nat, nI = (n : Int) := ⟨x0 + 1, by omega⟩
  have hn1 : 1 ≤ n := by omega
  have hn2 : n ≤ m0 := by omega
  clear hN hx0
  refine (pickG_any rm n w5 hrm.1 hrm.2 hn1 (by omega)).mono ?_
  rintro e w' ⟨rfl, hw'⟩
  rw [hw']
  clear hw'
  have hx1 := pickV_lt rm n hn1
  generalize pickV rm n = x1 at *
  go_wp2_with fail
  refine (pickG_any ri n w5 hri.1 hri.2 hn1 (by omega)).mono ?_
  rintro e w' ⟨rfl, hw'⟩
  rw [hw']
  clear hw'
  have hi := pickV_lt ri n hn1
  generalize pickV ri n = i at *
  generalize hM : (1 + (x1 : Int)) = mI at *
  obtain ⟨m, rfl⟩ : ∃ m : Nat, mI = (m : Int) := ⟨x1 + 1, by omega⟩
  have hm1 : 1 ≤ m := by omega
  have hm2 : m ≤ n := by omega
  clear hM hx1
  obtain ⟨s, hs⟩ : ∃ s, us[i]? = some s := ⟨_, List.getElem?_eq_getElem (by have := HS.out.2.2.1; omega)⟩
  have HF := shF_of us i m n s (by have := HS.out.2.2.1; omega) (by have := HS.out.2.2.1; omega) hi hm1 hm2 hs
  have hs1 := fun wx => slice_h wx g og m0 cu n (by omega)
  have hs2 := fun wx => slice_h wx g og m0 cu m (by omega)
  have hlN : (us.take n).length = n := by rw [List.length_take, HS.out.2.2.1]; omega
  have hlM : (us.take m).length = m := by rw [List.length_take, HS.out.2.2.1]; omega
  have GN : Aside (∀ wx, Below w5.heap.size w5 wx → Calls Tryd.prog 17 #[.slice (some ⟨g, og, none⟩) n cu] wx fun e w' => e = .returned (.string (mth ((us.take n).map leafS))) ∧ Below wx.heap.size wx w') := by
    intro wx hx
    have hB := HD.out.2.2.2.trans (hx.mono HD.out.2.2.2.size)
    have h := groveRoot_any (us.take n) g og cu wx (by omega) (by omega) ((HD.out.2.2.1.take n).below hx) (fun s hs => by have := HS.out.2.2.2 s (List.mem_of_mem_take hs); omega) (T.out wx hB).1 (T.out wx hB).2.1
    rw [hlN] at h
    exact h
  have GM : Aside (∀ wx, Below w5.heap.size w5 wx → Calls Tryd.prog 17 #[.slice (some ⟨g, og, none⟩) m cu] wx fun e w' => e = .returned (.string (mth ((us.take m).map leafS))) ∧ Below wx.heap.size wx w') := by
    intro wx hx
    have hB := HD.out.2.2.2.trans (hx.mono HD.out.2.2.2.size)
    have h := groveRoot_any (us.take m) g og cu wx (by omega) (by omega) ((HD.out.2.2.1.take m).below hx) (fun s hs => by have := HS.out.2.2.2 s (List.mem_of_mem_take hs); omega) (T.out wx hB).1 (T.out wx hB).2.1
    rw [hlM] at h
    exact h
  have GL : Aside (∀ wx, Below w5.heap.size w5 wx → Calls Tryd.prog 14 #[.string s] wx fun e w' => e = .returned (.string (leafS s)) ∧ Below wx.heap.size wx w') := by
    intro wx hx
    have hB := HD.out.2.2.2.trans (hx.mono HD.out.2.2.2.size)
    exact groveLeaf_any s wx (by have := HS.out.2.2.2 s (List.mem_of_getElem? hs); omega) (T.out wx hB).1 (T.out wx hB).2.1
  have GI : Aside (∀ wx, Below w5.heap.size w5 wx → Calls Tryd.prog 38 #[.pointer (some ⟨a, 0, none⟩), .int .i64 (i : Int), .int .i64 (n : Int)] wx fun e w' => ∃ v, e = .returned (.tuple #[v, .int .i64 0]) ∧ Row w' wx.heap.size 9 v (strv (incF n i ((us.map leafS).take n))) ∧ Below wx.heap.size wx w') := by
    intro wx hx
    have hB := HD.out.2.2.2.trans (hx.mono HD.out.2.2.2.size)
    exact logInclusion_ok (HD.out.1.below hx) HD.out.2.1 (T.out wx hB).1 (T.out wx hB).2.1 i n (by have := HS.out.2.2.1; omega) hi
  have GC : Aside (∀ wx, Below w5.heap.size w5 wx → Calls Tryd.prog 39 #[.pointer (some ⟨a, 0, none⟩), .int .i64 (m : Int), .int .i64 (n : Int)] wx fun e w' => ∃ v, e = .returned (.tuple #[v, .int .i64 0]) ∧ Row w' wx.heap.size 9 v (strv (conF n m ((us.map leafS).take n) true)) ∧ Below wx.heap.size wx w') := by
    intro wx hx
    have hB := HD.out.2.2.2.trans (hx.mono HD.out.2.2.2.size)
    exact logConsistency_ok (HD.out.1.below hx) HD.out.2.1 (T.out wx hB).1 (T.out wx hB).2.1 m n (by have := HS.out.2.2.1; omega) hm1 hm2
  have HC : Aside (∀ wx, Below w5.heap.size w5 wx → wx.cell? ⟨g, og + i, none⟩ = some (.string s)) := fun wx hx => (HD.out.2.2.1.below hx) i s hs
  have HW : Aside (Below w0.heap.size w0 w5) := HD.out.2.2.2
  clear hs hlN hlM HS HD
  generalize mth ((us.take n).map leafS) = root at *
  generalize mth ((us.take m).map leafS) = old at *
  generalize leafS s = leaf at *
  generalize incF n i ((us.map leafS).take n) = P at *
  generalize conF n m ((us.map leafS).take n) true = L at *
  have HF' : Aside (ShF i m n leaf root old P L) := HF
  clear HF
  go_wp2_with fail
  refine (GN.out w5 (Below.refl _ _)).mono ?_
  rintro e w6 ⟨rfl, b6⟩
  go_wp2_with fail
  refine (GM.out w6 b6).mono ?_
  rintro e w7 ⟨rfl, b7'⟩
  have b7 := b6.trans (b7'.mono b6.size)
  clear b6 b7' GN GM hs1 hs2
  have hcell := HC.out w7 b7
  go_wp2_with fail
  refine (GL.out w7 b7).mono ?_
  rintro e w8 ⟨rfl, b8'⟩
  have b8 := b7.trans (b8'.mono b7.size)
  clear b7 b8' GL hcell HC
  go_wp2_with fail
  refine (GI.out w8 b8).mono ?_
  rintro e w9 ⟨pv, rfl, hrowP, b9'⟩
  have b9 := b8.trans (b9'.mono b8.size)
  go_wp2_with fail
  refine (GC.out w9 b9).mono ?_
  rintro e w10 ⟨qv, rfl, hrowQ, b10'⟩
  have b10 := b9.trans (b10'.mono b9.size)
  have HR : Aside (Row w10 w8.heap.size 9 pv (strv P) ∧ Lst w10 qv L ∧ w0.heap.size ≤ w8.heap.size ∧ w8.heap.size ≤ w10.heap.size ∧ Below w0.heap.size w0 w10) := ⟨hrowP.below b10' (Nat.le_refl _), (LA.of_row hrowQ).2, Nat.le_trans HW.out.size b8.size, Nat.le_trans b9'.size b10'.size, HW.out.trans (b10.mono HW.out.size)⟩
  clear hrowP hrowQ b8 b9 b9' b10 b10' GI GC HW
  have g11 := incl_big leaf root i n pv P w10 HF'.out.lf (LA.of_row HR.out.1).2 HF'.out.fp (T.out w10 HR.out.2.2.2.2).1 (T.out w10 HR.out.2.2.2.2).2.1
  rw [HF'.out.inc] at g11
  go_wp2_with fail
  refine g11.mono ?_
  rintro e w11 ⟨rfl, b11⟩
  clear g11
  have hb11 : Aside (Below w0.heap.size w0 w11 ∧ Below w10.heap.size w10 w11) := ⟨HR.out.2.2.2.2.trans (b11.mono HR.out.2.2.2.2.size), b11⟩
  clear b11
  have g12 := ext_big old root m n qv L w11 HF'.out.od (HR.out.2.1.below hb11.out.2) HF'.out.fl (T.out w11 hb11.out.1).1 (T.out w11 hb11.out.1).2.1 (T.out w11 hb11.out.1).2.2
  rw [HF'.out.ext] at g12
  go_wp2_with fail
  rename_i K hK K1 hK1
  have HK : Aside (∀ a w, _ → K a w) := hK
  clear hK
  refine g12.mono ?_
  rintro e w12 ⟨rfl, b12⟩
  clear g12
  go_wp2
  refine HK.out _ _ ?_
  rw [← HQ.out]
  have bb := hb11.out.2.trans (b12.mono hb11.out.2.size)
  refine sh19_wp i m n leaf root old other pv qv P L (extB m n other root L) w0 w12 w8.heap.size ⟨HR.out.1.below bb (Nat.le_refl _), HR.out.2.1.below bb, HR.out.2.2.1, Nat.le_trans HR.out.2.2.2.1 bb.size, HF'.out.len, hm1, hm2, by omega, HR.out.2.2.2.2.trans (bb.mono HR.out.2.2.2.2.size), ?_, ?_, ?_, ?_, ?_⟩
  · intro wx v hx hv
    have q := incl_big leaf root i n v (P ++ [other]) wx HF'.out.lf hv ⟨by have := HF'.out.len; simp; omega, fun x hx => by
      rcases List.mem_append.1 hx with h | h
      · exact HF'.out.fp.2 x h
      · rw [List.mem_singleton.1 h]; exact ho⟩ (T.out wx hx).1 (T.out wx hx).2.1
    rw [incl_more HF'.out.inc] at q
    exact q
  · intro hne wx v hx hv
    have q := incl_big leaf other i n v P wx HF'.out.lf hv HF'.out.fp (T.out wx hx).1 (T.out wx hx).2.1
    rw [incl_other HF'.out.inc hne] at q
    exact q
  · intro hne wx v hx hv
    have q := ext_big old other m n v L wx HF'.out.od hv HF'.out.fl (T.out wx hx).1 (T.out wx hx).2.1 (T.out wx hx).2.2
    rw [ext_other HF'.out.ext hne] at q
    exact q
  · intro wx v hx hv
    exact ext_big other root m n v L wx ho hv HF'.out.fl (T.out wx hx).1 (T.out wx hx).2.1 (T.out wx hx).2.2
  · intro hne hB hmn
    refine Decidable.byContradiction fun hz => ?_
    rw [HF'.out.np other hne hmn hz] at hB
    cases hB
end Go.Proofs.YtlhohmlpcgbliaaDoor
namespace Go.Proofs.YtlhohmlpcgbliaaDoor
set_option maxRecDepth 100000
open Go.RowKit
attribute [local go_sem ↓] Go.wp_at_zero Go.wp_at_succ

set_option maxHeartbeats 1000000 in
theorem shown_walk (v gv : Value) (ri rm rn : Int) (other : ByteArray) (ss : List ByteArray) (w : World) (hS : Strs w v ss) (hn : ss.length ≤ 140737488355328) (hz : ∀ s ∈ ss, s.size ≤ 140737488355328) (hR : RawI w gv) (ht : Table w) (hg : 2 < w.heap.size) (hT : TabAt 1 Lib.deBruijn64tab w)
  (hri : -9223372036854775808 ≤ ri ∧ ri ≤ 9223372036854775807) (hrm : -9223372036854775808 ≤ rm ∧ rm ≤ 9223372036854775807) (hrn : -9223372036854775808 ≤ rn ∧ rn ≤ 9223372036854775807) (ho : other.size ≤ 140737488355328) :
    Calls Tryd.prog 8 #[v, gv, .int .i64 ri, .int .i64 rm, .int .i64 rn, .string other] w fun e w' => e = .returned (.bool true) ∧ Below w.heap.size w w' := by
  have HT : Aside (Table w ∧ 2 < w.heap.size ∧ RawI w gv ∧ TabAt 1 Lib.deBruijn64tab w) := ⟨ht, hg, hR, hT⟩
  have HB : Aside ((-9223372036854775808 ≤ ri ∧ ri ≤ 9223372036854775807) ∧ (-9223372036854775808 ≤ rm ∧ rm ≤ 9223372036854775807) ∧ (-9223372036854775808 ≤ rn ∧ rn ≤ 9223372036854775807) ∧ other.size ≤ 140737488355328) := ⟨hri, hrm, hrn, ho⟩
  clear ht hg hR hT hri hrm hrn ho
  have g3 := entriesE_any v ss w hS hn hz
  go_enter Tryd.func8, Tryd.ntmps8
  go_wp2_with fail
  rename_i K hK K1 hK1
  have HK : Aside (∀ a w, _ → K a w) := hK
  clear hK
  refine g3.mono ?_
  rintro e w3 ⟨v', ts, rfl, hrow, hl64, htz, b3⟩
  clear g3 hS hz
  have B3 : Aside (Below w.heap.size w w3) := b3
  have HX : Aside (strv ts ++ [.string sLast] = strv (ts ++ [sLast])) := by show _ = _; simp [strv]
  have hxl : (strv ts).length ≤ 64 := by rw [strv_length]; exact hl64
  have hsz3 := b3.size
  generalize hxs : strv ts = xs at *
  clear hxs
  go_wp2_with (at_builtin; refine wpList_app elem_string rfl Tryd.underlying22 (by rfl) (.tmp 29) (.tmp 30) (by rfl) w.heap.size _ xs (by rfl) (hrow.alloc _) _ 1 1 [.string sLast] (by rfl) rfl (Blk.new _ 9 _) ?h1 ?hl ?hb ?hbs (w0 := w) (B := w.heap.size) (B3.out.alloc B3.out.size _) (Nat.le_refl _) ?_)
  case h1 => intro u hu; simp at hu; subst hu; rfl
  case hl => omega
  case hb => omega
  case hbs => simp; omega
  intro vL w4 hrow4 _ b4
  rw [HX.out] at hrow4
  have hl1 : (ts ++ [sLast]).length = ts.length + 1 := by simp
  obtain ⟨g, cap, rfl, hgb, hcap, _, _, hglt, _⟩ := hrow4.form (by rw [strv_length]; omega)
  rw [strv_length] at hcap hrow4 ⊢
  have HA : Aside (SA w4 g 0 (ts ++ [sLast]) ∧ g < w4.heap.size ∧ ∀ s ∈ ts ++ [sLast], s.size ≤ 40) := by
    refine ⟨SA.of_row hrow4 (by omega), hglt, fun s hs => ?_⟩
    rcases List.mem_append.1 hs with h | h
    · exact htz s h
    · rw [List.mem_singleton.1 h]; decide
  have B4 : Aside (Below w.heap.size w w4) := b4
  clear hrow hrow4 b3 b4 B3 HX hxl hsz3 htz hgb hglt
  have hlen : (ts ++ [sLast]).length ≤ 65 := by omega
  have hlen1 : 1 ≤ (ts ++ [sLast]).length := by omega
  generalize ts ++ [sLast] = fs at *
  clear hl64 hl1
  generalize hml : fs.length = n at *
  go_wp2
  refine HK.out _ _ ?_
  refine wp_seq_k ?_
  intro K4 hK4
  have HK4 : Aside (∀ a w, _ → K4 a w) := hK4
  clear hK4 HK
  by_cases hn64 : n > 64
  · have hn64' : (n : Int) > 64 := by omega
    have h1 : ((1 : Nat) : Int) = 1 := rfl
    have hsl := fun wx => slice_l wx g 0 n cap 1 (by omega) hcap
    rw [h1] at hsl
    have hS1 := HA.out.1.drop 1
    rw [Nat.zero_add] at hsl hS1
    go_wp2
    refine HK4.out _ _ ?_
    exact sh4_wp gv ri rm rn other g 1 (cap - 1) (n - 1) (fs.drop 1) w w4 hS1 HA.out.2.1 (by rw [List.length_drop]; omega) (by rw [List.length_drop, hml]) (by omega) (by omega) (fun s hs => HA.out.2.2 s (List.mem_of_mem_drop hs)) B4.out HT.out.2.2.1 HT.out.1 HT.out.2.1 HT.out.2.2.2 HB.out.1 HB.out.2.1 HB.out.2.2.1 HB.out.2.2.2
  · have hn64' : ¬ (n : Int) > 64 := by omega
    go_wp2
    refine HK4.out _ _ ?_
    exact sh4_wp gv ri rm rn other g 0 cap n fs w w4 HA.out.1 HA.out.2.1 (by omega) hml hlen1 (by omega) HA.out.2.2 B4.out HT.out.2.2.1 HT.out.1 HT.out.2.1 HT.out.2.2.2 HB.out.1 HB.out.2.1 HB.out.2.2.1 HB.out.2.2.2
end Go.Proofs.YtlhohmlpcgbliaaDoor
namespace Go.Proofs.YtlhohmlpcgbliaaDoor
set_option maxRecDepth 100000
open Go.RowKit
attribute [local go_sem ↓] Go.wp_at_zero Go.wp_at_succ

set_option maxHeartbeats 1000000 in
theorem fits_none (b : Nat) (n : Int) (fv : Value) (D : Dk) (w : World) (h : DiskAt w b fv D) (hz : D.read 1 = zer) :
    Calls Tryd.prog 130 #[.pointer (some ⟨b, 0, none⟩), .int .i64 n] w fun e w' => e = .returned (.bool true) ∧ Below w.heap.size w w' := by
  have hrj := readJournal_none b fv D w h hz
  clear hz
  go_enter Tryd.func130, Tryd.ntmps130
  go_wp2_with fail
  refine hrj.mono ?_
  rintro e w1 ⟨rfl, hb1⟩
  go_wp2
  go_ret
  exact ⟨rfl, hb1.alloc hb1.size _⟩
end Go.Proofs.YtlhohmlpcgbliaaDoor
namespace Go.Proofs.YtlhohmlpcgbliaaDoor
set_option maxRecDepth 100000
open Go.RowKit
attribute [local go_sem ↓] Go.wp_at_zero Go.wp_at_succ

set_option maxHeartbeats 1000000 in
theorem logBytes_any {w : World} {a b : Nat} {fv wv : Value} {D : Dk} {W : List ByteArray} (h : LogAt w a b fv wv D W) : Calls Tryd.prog 44 #[.pointer (some ⟨a, 0, none⟩)] w fun e w' => e = .returned (.string (strOf D.las.flatten)) ∧ Below w.heap.size w w' := by
  have hc := h.blk.cell 0
  simp only [List.getElem?_cons_zero] at hc
  have hd := none_any h
  have hp := bytes_any b fv D w h.disk
  generalize strOf D.las.flatten = s at *
  go_enter Tryd.func44, Tryd.ntmps44
  go_wp2_with fail
  refine hd.mono ?_
  rintro e w1 ⟨rfl, rfl⟩
  go_wp2_with fail
  refine hp.mono ?_
  rintro e w2 ⟨rfl, hb2⟩
  go_wp2
  go_ret
  exact ⟨rfl, hb2⟩
set_option maxHeartbeats 1000000 in
theorem logActs_any {w : World} {a b : Nat} {fv wv : Value} {D : Dk} {W : List ByteArray} (h : LogAt w a b fv wv D W) : Calls Tryd.prog 45 #[.pointer (some ⟨a, 0, none⟩)] w fun e w' => e = .returned (.int .i64 D.acts) ∧ w' = w := by
  have hc := h.blk.cell 0
  simp only [List.getElem?_cons_zero] at hc
  have hd := none_any h
  have hp := acts_any b fv D w h.disk
  generalize D.acts = s at *
  go_enter Tryd.func45, Tryd.ntmps45
  go_wp2_with fail
  refine hd.mono ?_
  rintro e w1 ⟨rfl, rfl⟩
  go_wp2_with fail
  refine hp.mono ?_
  rintro e w2 ⟨rfl, rfl⟩
  go_wp2
  go_ret
  exact ⟨rfl, rfl⟩
end Go.Proofs.YtlhohmlpcgbliaaDoor
namespace Go.Proofs.YtlhohmlpcgbliaaDoor
set_option maxRecDepth 100000
open Go.RowKit
attribute [local go_sem ↓] Go.wp_at_zero Go.wp_at_succ

set_option maxHeartbeats 2000000 in
theorem logFlush_down {w : World} {a b : Nat} {fv wv : Value} {D : Dk} {W : List ByteArray} (h : LogAt w a b fv wv D W) (hf : D.failed = false) (hz1 : D.read 1 = zer) (hz : ∀ s ∈ W, s.size ≤ 40) (hl : D.ckN + W.length ≤ 76) (hfe : D.fre.length < 700000) (he : Env w b fv.ownBlock) (hw0 : 0 < W.length) (hok : (D.add W).failed = true) :
    Calls Tryd.prog 42 #[.pointer (some ⟨a, 0, none⟩)] w fun e w' => e = .returned (.tuple #[.int .i64 0, .int .i64 3]) ∧ ∃ fv', LogAt w' a b fv' wv (D.add W) W ∧ FrL a b fv.ownBlock wv.ownBlock fv'.ownBlock wv.ownBlock w w' := by
  have hrf := refused_ok h hf hz1
  clear hz1 hf
  go_enter Tryd.func42, Tryd.ntmps42
  go_wp2_with fail
  refine hrf.mono ?_
  rintro e w1 ⟨rfl, hb1⟩
  clear hrf
  have h1 := h.below hb1
  have he1 := he.below hb1
  have R1 : FrL a b fv.ownBlock wv.ownBlock fv.ownBlock wv.ownBlock w w1 := FrL.of_below hb1
  have hc0 := h1.blk.cell 0
  have hc1 := h1.blk.cell 1
  simp only [List.getElem?_cons_zero, List.getElem?_cons_succ] at hc0 hc1
  obtain ⟨p, cap, hwv⟩ := h1.wv
  rw [hwv] at hc1
  obtain ⟨g, cap, hwv2, hcap, hgl, hSA⟩ := h1.wrow (by omega)
  have hgo : wv.ownBlock = some g := by rw [hwv2]; rfl
  have hw' : (0 : Int) < (W.length : Int) := by omega
  rw [← hwv, hwv2] at hc1
  go_wp2_with fail
  refine flR5_wp a b g cap W fv D w1 _ h1.disk hc0 hc1 h1.ab h1.fa hSA hgl (fun e => h1.wb (by rw [hgo, e])) (h1.wf g hgo) hz hl hfe he1 ?_
  intro u18 u19 u20 u21 u22 u23 u24 u25 u26 fv2 w2 hd2 r2
  have h2 := h1.fr r2 hd2
  have R2 := R1.trans (FrL.of_fr r2)
  clear hSA hwv hwv2 hgo hd2 hw'
  have hdn := down_any h2
  rw [hok] at hdn
  clear hok hc0 hc1
  go_wp2_with fail
  refine hdn.mono ?_
  rintro e w3 ⟨rfl, rfl⟩
  go_wp2
  go_ret2
  exact ⟨rfl, fv2, h2, R2⟩

/-- The disk with a script. -/
def Dk.script (D : Dk) (after keep : Int) : Dk := { D with set := true, left := after, keep := keep }
end Go.Proofs.YtlhohmlpcgbliaaDoor
namespace Go.Proofs.YtlhohmlpcgbliaaDoor
set_option maxRecDepth 100000
open Go.RowKit

/-- A row of one's own lies as it lay where its block has not changed. -/
theorem ownsRow_kept {w w' : World} {t : TypeId} {m n : Nat} {v : Value} {xs : List Value} (h : w.ownsRow 0 t m v n xs) (hb : ∀ k, v.ownBlock = some k → k < w.heap.size → w'.heap[k]? = w.heap[k]?) : w'.ownsRow 0 t m v n xs := by
  obtain ⟨h1, h2⟩ := h
  refine ⟨h1, ?_⟩
  rcases h2 with h0 | ⟨g, cap, cur, hv, hbg, hg, rr⟩
  · exact Or.inl h0
  · have hog : v.ownBlock = some g := by rw [hv]; rfl
    have hgl : g < w.heap.size := (Array.getElem?_eq_some_iff.1 hg).1
    exact Or.inr ⟨g, cap, cur, hv, hbg, by rw [hb g hog hgl]; exact hg, rr⟩
/-- A log's blocks. -/
def Own (a b : Nat) (g h : Option Nat) (k : Nat) : Prop := k = a ∨ k = b ∨ g = some k ∨ h = some k
/-- Two logs have no block in common. -/
def Dis (a b : Nat) (g h : Option Nat) (a' b' : Nat) (g' h' : Option Nat) : Prop := ∀ k, Own a b g h k → ¬ Own a' b' g' h' k
theorem Dis.symm {a b : Nat} {g h : Option Nat} {a' b' : Nat} {g' h' : Option Nat} (d : Dis a b g h a' b' g' h') : Dis a' b' g' h' a b g h := fun k h1 h2 => d k h2 h1
theorem LogAt.lt {w : World} {a b : Nat} {fv wv : Value} {D : Dk} {W : List ByteArray} (h : LogAt w a b fv wv D W) : ∀ k, Own a b fv.ownBlock wv.ownBlock k → k < w.heap.size := by
  intro k hk
  rcases hk with rfl | rfl | e | e
  · exact h.blk.lt
  · exact h.disk.lt
  · exact (h.disk.row.lt k e).2
  · exact (h.row.lt k e).2
/-- A log stays as it is, whatever another one does. -/
theorem LogAt.other {w w' : World} {a b : Nat} {fv wv : Value} {D : Dk} {W : List ByteArray} (h : LogAt w a b fv wv D W) {a' b' : Nat} {g h2 g' h2' : Option Nat} (r : FrL a' b' g h2 g' h2' w w') (hd : Dis a b fv.ownBlock wv.ownBlock a' b' g h2) : LogAt w' a b fv wv D W := by
  have hk : ∀ k, Own a b fv.ownBlock wv.ownBlock k → w'.heap[k]? = w.heap[k]? := by
    intro k ho
    have hn := hd k ho
    exact r.block k (h.lt k ho) (fun e => hn (.inl e)) (fun e => hn (.inr (.inl e))) (fun e => hn (.inr (.inr (.inl e)))) (fun e => hn (.inr (.inr (.inr e))))
  refine ⟨⟨h.disk.ok, ?_, ownsRow_kept h.disk.row (fun k e _ => hk k (.inr (.inr (.inl e)))), h.disk.apart⟩, ?_, ownsRow_kept h.row (fun k e _ => hk k (.inr (.inr (.inr e)))), h.ab, h.fa, h.wa, h.wb, h.wf⟩
  · have := h.disk.blk
    unfold Blk at *
    rw [hk b (.inr (.inl rfl))]; exact this
  · have := h.blk
    unfold Blk at *
    rw [hk a (.inl rfl)]; exact this
/-- What another log has taken anew is not this log's. -/
theorem Dis.step {w w' : World} {a b : Nat} {g h g1 h1 : Option Nat} {a' b' : Nat} {g' h' : Option Nat} (d : Dis a b g h a' b' g' h') (r : FrL a b g h g1 h1 w w') (hl : ∀ k, Own a' b' g' h' k → k < w.heap.size) : Dis a b g1 h1 a' b' g' h' := by
  intro k h0 h2
  have hlt := hl k h2
  rcases h0 with e | e | e | e
  · exact d k (.inl e) h2
  · exact d k (.inr (.inl e)) h2
  · rcases r.own with e1 | e1 | ⟨j, e1, hj⟩
    · rw [e1] at e; cases e
    · rw [e1] at e; exact d k (.inr (.inr (.inl e))) h2
    · rw [e1] at e; cases e; omega
  · rcases r.own2 with e1 | e1 | ⟨j, e1, hj⟩
    · rw [e1] at e; cases e
    · rw [e1] at e; exact d k (.inr (.inr (.inr e))) h2
    · rw [e1] at e; cases e; omega
/-- A new log shares no block with one that was there. -/
theorem Dis.new {n : Nat} {a b a' b' : Nat} {g' h' : Option Nat} (ha : n ≤ a) (hb : n ≤ b) (hl : ∀ k, Own a' b' g' h' k → k < n) : Dis a b none none a' b' g' h' := by
  intro k h0 h2
  have := hl k h2
  rcases h0 with e | e | e | e
  · omega
  · omega
  · cases e
  · cases e
end Go.Proofs.YtlhohmlpcgbliaaDoor
