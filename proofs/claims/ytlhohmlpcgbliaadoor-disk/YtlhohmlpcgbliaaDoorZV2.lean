import Derived.Test.YtlhohmlpcgbliaaDoorZT3
import Derived.Deep.AppendLies
import Derived.Test.YtlhohmlpcgbliaaDoorZH6
namespace Go.Proofs.YtlhohmlpcgbliaaDoor
set_option maxRecDepth 100000
open Go.RowKit
attribute [local go_sem ↓] Go.wp_at_zero Go.wp_at_succ

/-- Which of n things the number c speaks of. -/
def pickV (c : Int) (n : Nat) : Nat := (if c < 0 then -(c + 1) else c).toNat % n
theorem pickV_lt (c : Int) (n : Nat) (h : 1 ≤ n) : pickV c n < n := Nat.mod_lt _ h

/-- A list that the law may hand on: it reads as an argument does, and has room. -/
def LA (w : World) (v : Value) (ss : List ByteArray) : Prop := ArgS w v ss ∧ Lst w v ss
theorem LA.of_block {w : World} {g cap : Nat} {ss : List ByteArray} (hc : ss.length ≤ cap) (h : ∀ (j : Nat) s, ss[j]? = some s → w.cell? ⟨g, j, none⟩ = some (.string s)) : LA w (.slice (some ⟨g, 0, none⟩) ss.length cap) ss :=
  ⟨.inr ⟨_, _, rfl, fun j s hs => by rw [Addr.add_mid, Nat.zero_add]; exact h j s hs⟩, ⟨_, _, rfl, hc, fun j s hs => ⟨_, _, rfl, by rw [Nat.zero_add]; exact h j s hs⟩⟩⟩
theorem LA.nil (w : World) : LA w (.slice none 0 0) [] := ⟨.inl ⟨rfl, rfl⟩, ⟨_, _, rfl, Nat.le_refl _, fun j s hs => by simp at hs⟩⟩
theorem LA.of_row {w : World} {base : Nat} {v : Value} {ss : List ByteArray} (h : Row w base 9 v (strv ss)) : LA w v ss := by
  obtain ⟨h1, h2⟩ := h
  rcases h2 with ⟨rfl, h0⟩ | ⟨g, cap, cur, rfl, hb, hg, hn, hm, hs, ht⟩
  · have : ss = [] := List.eq_nil_of_length_eq_zero (by simpa using h0)
    subst this
    exact LA.nil w
  · rw [strv_length] at hn ht ⊢
    refine LA.of_block hn fun j s hj => ?_
    have hlt : j < ss.length := (List.getElem?_eq_some_iff.1 hj).1
    have : (strv ss)[j]? = cur.toList[j]? := by rw [← ht, List.getElem?_take_of_lt (by omega)]
    have hv : cur.toList[j]? = some (.string s) := by rw [← this, strv, List.getElem?_map, hj]; rfl
    simp [World.cell?, hg] at hv ⊢
    exact hv
theorem LA.below {w w' : World} {v : Value} {ss : List ByteArray} (h : LA w v ss) (hb : Below w.heap.size w w') : LA w' v ss := by
  refine ⟨?_, h.2.below hb⟩
  rcases h.1 with h1 | ⟨a, c, h1, h2⟩
  · exact .inl h1
  · exact .inr ⟨a, c, h1, fun i s hs => by rw [hb.cell (World.block_lt_of_cell? _ _ (h2 i s hs))]; exact h2 i s hs⟩
end Go.Proofs.YtlhohmlpcgbliaaDoor
namespace Go.Proofs.YtlhohmlpcgbliaaDoor
set_option maxRecDepth 100000
open Go.RowKit
attribute [local go_sem ↓] Go.wp_at_zero Go.wp_at_succ

end Go.Proofs.YtlhohmlpcgbliaaDoor
namespace Go.Proofs.YtlhohmlpcgbliaaDoor
set_option maxRecDepth 100000
open Go.RowKit
attribute [local go_sem ↓] Go.wp_at_zero Go.wp_at_succ

end Go.Proofs.YtlhohmlpcgbliaaDoor
namespace Go.Proofs.YtlhohmlpcgbliaaDoor
set_option maxRecDepth 100000
open Go.RowKit
attribute [local go_sem ↓] Go.wp_at_zero Go.wp_at_succ

end Go.Proofs.YtlhohmlpcgbliaaDoor
namespace Go.Proofs.YtlhohmlpcgbliaaDoor
set_option maxRecDepth 100000
open Go.RowKit
attribute [local go_sem ↓] Go.wp_at_zero Go.wp_at_succ

end Go.Proofs.YtlhohmlpcgbliaaDoor
namespace Go.Proofs.YtlhohmlpcgbliaaDoor
set_option maxRecDepth 100000
open Go.RowKit
attribute [local go_sem ↓] Go.wp_at_zero Go.wp_at_succ

end Go.Proofs.YtlhohmlpcgbliaaDoor
namespace Go.Proofs.YtlhohmlpcgbliaaDoor
set_option maxRecDepth 100000
open Go.RowKit

theorem Row.blk {w : World} {base : Nat} {e : TypeId} {v : Value} {xs : List Value} (h : Row w base e v xs) (h0 : 0 < xs.length) :
    ∃ g cap cs, v = .slice (some ⟨g, 0, none⟩) xs.length cap ∧ base ≤ g ∧ Blk w g e cs ∧ xs.length ≤ cap ∧ cs.take xs.length = xs ∧ cs.length = cap := by
  obtain ⟨h1, h2⟩ := h
  rcases h2 with ⟨_, h3⟩ | ⟨g, cap, cur, rfl, hb, hg, hn, hm, hs, ht⟩
  · omega
  · exact ⟨g, cap, cur.toList, rfl, hb, by unfold Blk; rw [Array.toArray_toList]; exact hg, hn, (by rw [Nat.mul_one] at ht; exact ht), by rw [Array.length_toList]; omega⟩

theorem LA.of_blk {w : World} {g cap : Nat} {cs : List Value} {ss : List ByteArray} (hB : Blk w g 9 cs) (hc : ss.length ≤ cap) (ht : cs.take ss.length = strv ss) : LA w (.slice (some ⟨g, 0, none⟩) ss.length cap) ss := by
  refine LA.of_block hc fun j s hj => ?_
  have hlt : j < ss.length := (List.getElem?_eq_some_iff.1 hj).1
  rw [hB.cell, ← List.getElem?_take_of_lt (l := cs) hlt, ht, strv, List.getElem?_map, hj]
  rfl

/-- A list of nothing reads so in every world. -/
theorem LA.empty {w : World} {v : Value} (h : LA w v []) (w' : World) : LA w' v [] := by
  obtain ⟨h1, p, c, h2, h3, _⟩ := h
  refine ⟨?_, ⟨p, c, h2, h3, fun j s hs => by simp at hs⟩⟩
  rcases h1 with h1 | ⟨a, c', h1, _⟩
  · exact .inl h1
  · exact .inr ⟨a, c', h1, fun j s hs => by simp at hs⟩

theorem Few.of {ss : List ByteArray} (h : ss.length ≤ 1000) (hz : ∀ x ∈ ss, x.size ≤ 1048576) : Few ss := ⟨by omega, hz⟩
theorem Few.set {ss : List ByteArray} {s : ByteArray} {x : Nat} (h : ss.length ≤ 1000) (hz : ∀ x ∈ ss, x.size ≤ 1048576) (hs : s.size ≤ 1048576) : Few (ss.set x s) := by
  refine ⟨by simp; omega, fun y hy => ?_⟩
  rcases List.mem_or_eq_of_mem_set hy with h | h
  · exact hz y h
  · rw [h]; exact hs
theorem Few.take {ss : List ByteArray} {x : Nat} (h : ss.length ≤ 1000) (hz : ∀ x ∈ ss, x.size ≤ 1048576) : Few (ss.take x) := ⟨by simp; omega, fun y hy => hz y (List.mem_of_mem_take hy)⟩

end Go.Proofs.YtlhohmlpcgbliaaDoor
namespace Go.Proofs.YtlhohmlpcgbliaaDoor
set_option maxRecDepth 100000
open Go.RowKit
attribute [local go_sem ↓] Go.wp_at_zero Go.wp_at_succ

end Go.Proofs.YtlhohmlpcgbliaaDoor
namespace Go.Proofs.YtlhohmlpcgbliaaDoor
set_option maxRecDepth 100000
open Go.RowKit
attribute [local go_sem ↓] Go.wp_at_zero Go.wp_at_succ

end Go.Proofs.YtlhohmlpcgbliaaDoor
namespace Go.Proofs.YtlhohmlpcgbliaaDoor
set_option maxRecDepth 100000
open Go.RowKit

/-- What the list of raw numbers is: so many, in cells. -/
def RawI (w : World) (v : Value) : Prop := ∃ p rn rc, v = .slice p rn rc ∧ ∀ i, i < rn → ∃ b o c, p = some ⟨b, o, none⟩ ∧ w.cell? ⟨b, o + i, none⟩ = some (.int .i64 c) ∧ -9223372036854775808 ≤ c ∧ c ≤ 9223372036854775807

end Go.Proofs.YtlhohmlpcgbliaaDoor
namespace Go.Proofs.YtlhohmlpcgbliaaDoor
set_option maxRecDepth 100000
open Go.RowKit
attribute [local go_sem ↓] Go.wp_at_zero Go.wp_at_succ

set_option maxHeartbeats 400000 in
theorem cutE_any (s : ByteArray) (w : World) (hs : s.size ≤ 140737488355328) : Calls Tryd.prog 41 #[.string s] w fun e w' => ∃ t, e = .returned (.string t) ∧ t.size ≤ 40 ∧ w' = w := by
  by_cases h : s.size ≤ 40
  · go_enter Tryd.func41, Tryd.ntmps41
    go_wp2
    go_ret
    exact ⟨s, rfl, by omega, rfl⟩
  · go_enter Tryd.func41, Tryd.ntmps41
    go_wp2
    go_ret
    exact ⟨_, rfl, by rw [ByteArray.size_extract]; omega, rfl⟩

set_option maxRecDepth 100000 in
set_option maxHeartbeats 1000000 in
theorem entriesE_any (v : Value) (ss : List ByteArray) (w : World) (hS : Strs w v ss) (hn : ss.length ≤ 140737488355328) (hz : ∀ s ∈ ss, s.size ≤ 140737488355328) :
    Calls Tryd.prog 31 #[v] w fun e w' => ∃ v' ts, e = .returned v' ∧ Row w' w.heap.size 9 v' (strv ts) ∧ ts.length ≤ 64 ∧ (∀ s ∈ ts, s.size ≤ 40) ∧ Below w.heap.size w w' := by
  obtain ⟨a, c, rfl, hcells⟩ := hS
  have HC : Hid (∀ (i : Nat) s, ss[i]? = some s → ∃ g off, a = some ⟨g, off, none⟩ ∧ w.cell? ⟨g, off + i, none⟩ = some (.string s)) := hcells
  have HZ : Hid (∀ s ∈ ss, s.size ≤ 140737488355328) := hz
  clear hcells hz
  go_enter Tryd.func31, Tryd.ntmps31
  try go_wp2
  go_loopw [3, 4] (fun v i wr => ∃ (k : Nat) (ts : List ByteArray), k ≤ ss.length ∧ k ≤ 64 ∧ i = .int .i64 k ∧ Row wr w.heap.size 9 v (strv ts) ∧ Hid (ts.length = k ∧ ∀ s ∈ ts, s.size ≤ 40) ∧ Below w.heap.size w wr) (fun _ i _ => ss.length - (intOf i).toNat)
  case atStart => exact ⟨0, [], by omega, by omega, rfl, World.ownsRow_nil _ _ _ _, ⟨rfl, fun s hs => by simp at hs⟩, Below.refl _ _⟩
  case round =>
    obtain ⟨k, ts, hk, hk64, rfl, hrow, HTs, hb⟩ := hrel
    by_cases h8 : k < ss.length
    · by_cases h9 : k < 64
      · obtain ⟨s, hs⟩ : ∃ s, ss[k]? = some s := ⟨_, List.getElem?_eq_getElem h8⟩
        obtain ⟨g, off, rfl, hcell⟩ := HC.out k s hs
        have hcell' : wr.cell? ⟨g, off + k, none⟩ = some (.string s) := by
          rw [hb.cell (World.block_lt_of_cell? _ _ hcell)]; exact hcell
        have hcu := cutE_any s wr (HZ.out s (List.mem_of_getElem? hs))
        have hxl : (strv ts).length = k := by rw [strv_length]; exact HTs.out.1
        have HN : Hid (∀ t, strv ts ++ [.string t] = strv (ts ++ [t])) := fun t => by simp [strv]
        have hsz0 := hb.size
        clear hcell hs
        generalize strv ts = xs at *
        go_wp2_with (first | (go_at_call 41; refine hcu.mono ?_; rintro e w1 ⟨t, rfl, htz, hw1⟩; rw [hw1]; clear hw1) | (at_builtin; refine wpList_app elem_string rfl Tryd.underlying22 (by rfl) (.tmp 15) (.tmp 21) (by rfl) w.heap.size _ xs (by rfl) (hrow.alloc _) _ 1 1 [.string t] (by rfl) rfl (Blk.new _ 9 _) ?h1 ?hl ?hb ?hbs (w0 := w) (hb.alloc hsz0 _) (Nat.le_refl _) ?_))
        case h1 => intro u hu; simp at hu; subst hu; rfl
        case hl => omega
        case hb => omega
        case hbs => simp; omega
        intro v' w' hv' _ hb'
        rw [HN.out t] at hv'
        go_wp2
        go_roundw
        case rel => exact ⟨k + 1, ts ++ [t], by omega, by omega, by go_num, hv', ⟨by rw [List.length_append, HTs.out.1]; rfl, fun x hx => by
          rcases List.mem_append.1 hx with h | h
          · exact HTs.out.2 x h
          · rw [List.mem_singleton.1 h]; exact htz⟩, hb'⟩
        case measure => simp [intOf]; omega
      · have hk8 : k = 64 := by omega
        subst hk8
        go_wp2
        go_ret
        exact ⟨_, ts, rfl, hrow, by rw [HTs.out.1]; omega, HTs.out.2, hb⟩
    · have hk8 : k = ss.length := by omega
      subst hk8
      go_wp2
      go_ret
      exact ⟨_, ts, rfl, hrow, by rw [HTs.out.1]; exact hk64, HTs.out.2, hb⟩
set_option maxHeartbeats 400000 in
theorem pickG_any (c : Int) (n : Nat) (w : World) (h1 : -9223372036854775808 ≤ c) (h2 : c ≤ 9223372036854775807) (hn : 1 ≤ n) (hn2 : n ≤ 1000000000000) :
    Calls Tryd.prog 32 #[.int .i64 c, .int .i64 (n : Int)] w fun e w' => e = .returned (.int .i64 (pickV c n : Nat)) ∧ w' = w := by
  have hz : ((n : Int) == 0) = false := by simp; omega
  by_cases hc : c < 0
  · have HP : Aside (-((c + 1).tmod (n : Int)) = ((pickV c n : Nat) : Int)) := by
      show _ = _
      rw [← Int.neg_tmod, Int.tmod_eq_emod_of_nonneg (by omega), pickV, if_pos hc, Int.natCast_emod, Int.toNat_of_nonneg (by omega)]
    go_enter Tryd.func32, Tryd.ntmps32
    go_wp2
    go_ret
    rw [← HP.out]
    exact ⟨rfl, rfl⟩
  · have HP : Aside (c % (n : Int) = ((pickV c n : Nat) : Int)) := by
      show _ = _
      rw [pickV, if_neg hc, Int.natCast_emod, Int.toNat_of_nonneg (by omega)]
    go_enter Tryd.func32, Tryd.ntmps32
    go_wp2
    go_ret
    rw [← HP.out]
    exact ⟨rfl, rfl⟩


/-- What the log's own blocks leave alone: all that was there before it. -/
theorem FrL.below {a b : Nat} {g h g' h' : Option Nat} {w w1 w2 : World} (hb : Below w.heap.size w w1) (r : FrL a b g h g' h' w1 w2) (ha : w.heap.size ≤ a) (hbb : w.heap.size ≤ b) (hg : ∀ k, g = some k → w.heap.size ≤ k) (hh : ∀ k, h = some k → w.heap.size ≤ k) : Below w.heap.size w w2 ∧ (∀ k, g' = some k → w.heap.size ≤ k) ∧ (∀ k, h' = some k → w.heap.size ≤ k) := by
  refine ⟨⟨r.os.trans hb.os, r.tape.trans hb.tape, r.output.trans hb.output, Nat.le_trans hb.size r.size, fun k hk => ?_⟩, ?_, ?_⟩
  · exact (r.block k (Nat.lt_of_lt_of_le hk hb.size) (by omega) (by omega) (fun e => by have := hg k e; omega) (fun e => by have := hh k e; omega)).trans (hb.block k hk)
  · intro k hk
    rcases r.own with e | e | ⟨j, e, hj⟩
    · rw [e] at hk; cases hk
    · rw [e] at hk; exact hg k hk
    · rw [e] at hk; cases hk; exact Nat.le_trans hb.size hj
  · intro k hk
    rcases r.own2 with e | e | ⟨j, e, hj⟩
    · rw [e] at hk; cases hk
    · rw [e] at hk; exact hh k hk
    · rw [e] at hk; cases hk; exact Nat.le_trans hb.size hj
theorem env_of {w w1 : World} {b : Nat} {g : Option Nat} (ht : Table w) (hg : 2 < w.heap.size) (hb : Below w.heap.size w w1) (hbb : w.heap.size ≤ b) (ho : ∀ k, g = some k → w.heap.size ≤ k) : Env w1 b g :=
  ⟨table_at hb hg ht, Nat.lt_of_lt_of_le hg hb.size, by omega, fun e => by have := ho _ e; omega⟩
end Go.Proofs.YtlhohmlpcgbliaaDoor
namespace Go.Proofs.YtlhohmlpcgbliaaDoor
set_option maxRecDepth 100000
open Go.RowKit
attribute [local go_sem ↓] Go.wp_at_zero Go.wp_at_succ

set_option maxHeartbeats 8000000 in
theorem grown_any (cb co cc : Nat) (gv : Value) (ts : List ByteArray) (w : World) (hS0 : SA w cb co ts) (hcb : cb < w.heap.size) (hcc : ts.length ≤ cc) (hl64 : ts.length ≤ 64) (hz : ∀ s ∈ ts, s.size ≤ 40) (hR : RawI w gv) (ht : Table w) (hg : 2 < w.heap.size) :
    Calls Tryd.prog 35 #[.slice (some ⟨cb, co, none⟩) ts.length cc, gv] w fun e w' => ∃ (a b : Nat) (fv : Value) (D : Dk), e = .returned (.pointer (some ⟨a, 0, none⟩)) ∧ LogAt w' a b fv (.slice none 0 0) D [] ∧ Holds D ts ∧ Below w.heap.size w w' ∧ w.heap.size ≤ a ∧ w.heap.size ≤ b ∧ (∀ k, fv.ownBlock = some k → w.heap.size ≤ k) := by
  obtain ⟨p, rn, rc, rfl, hraw⟩ := hR
  have hnew := groveNew_any w ht hg
  go_enter Tryd.func35, Tryd.ntmps35
  go_wp2_with fail
  refine hnew.mono ?_
  rintro e w1 ⟨a, b, rfl, ha, hb, hL1, hb1⟩
  clear hnew
  go_wp2_with fail
  go_loopw [0, 6] (fun l u wr => ∃ (d o c kk : Nat) (fv : Value) (D : Dk), d ≤ ts.length ∧ kk ≤ d ∧ ts.length - d ≤ c ∧ l = .slice (some ⟨cb, o, none⟩) (ts.length - d) c ∧ u = .int .i64 (kk : Int) ∧ SA wr cb o (ts.drop d) ∧ LogAt wr a b fv (.slice none 0 0) D [] ∧ Holds D (ts.take d) ∧ Below w.heap.size w wr ∧ (∀ k, fv.ownBlock = some k → w.heap.size ≤ k)) (fun l _ _ => sliceLen l)
  case atStart => exact ⟨0, co, cc, 0, _, _, by omega, by omega, by simpa using hcc, by simp, rfl, by simpa using hS0.below hb1, hL1, by simpa using fresh_holds, hb1, fun k hk => by simp [Value.ownBlock] at hk⟩
  case round =>
    obtain ⟨d, o, c, kk, fv, D, hd, hkd, hrc, rfl, rfl, hS, hL, hH, hbw, hfo⟩ := hrel
    clear hL1 hb1
    have hN := hH.ckN
    rw [List.length_take, Nat.min_eq_left hd] at hN
    generalize hreq : ts.length - d = r at *
    by_cases h0 : r = 0
    · have hdd : d = ts.length := by omega
      subst hdd
      rw [List.take_length] at hH
      subst h0
      go_wp2
      go_ret
      exact ⟨a, b, fv, D, rfl, hL, hH, hbw, ha, hb, hfo⟩
    · have h0' : (0 : Int) < (r : Int) := by omega
      by_cases hk : kk < rn
      · obtain ⟨gb, go', cv, rfl, hcell, hc1, hc2⟩ := hraw kk hk
        have hcell' : wr.cell? ⟨gb, go' + kk, none⟩ = some (.int .i64 cv) := by
          rw [hbw.cell (World.block_lt_of_cell? _ _ hcell)]; exact hcell
        have hpk : Calls Tryd.prog 32 #[.int .i64 cv, .int .i64 12] wr fun e w' => e = .returned (.int .i64 (pickV cv 12 : Nat)) ∧ w' = wr := pickG_any cv 12 wr hc1 hc2 (by omega) (by omega)
        have hpl := pickV_lt cv 12 (by omega)
        have hk' : (kk : Int) < (rn : Int) := by omega
        clear hcell
        generalize pickV cv 12 = pv at *
        by_cases hn : 1 + pv > r
        · have hn' : (1 + (pv : Int)) > (r : Int) := by omega
          have hnI : ((r : Nat) : Int) = (r : Int) := by omega
          have hsh : ∀ wx, (Instr.sliceAt 22 (.slice (some ⟨cb, o, none⟩) r c) none (some (.int .i64 ((r : Int)))) none).run Tryd.prog wx = .ok (.slice (some ⟨cb, o, none⟩) (r) c) wx := fun wx => by
            rw [← hnI]; exact slice_h wx cb o r c (r) (by omega)
          have hst : ∀ wx, (Instr.sliceAt 22 (.slice (some ⟨cb, o, none⟩) r c) (some (.int .i64 ((r : Int)))) none none).run Tryd.prog wx = .ok (.slice (some ⟨cb, if c = r then o else o + (r), none⟩) (r - (r)) (c - (r))) wx := fun wx => by
            rw [← hnI]; exact slice_tl wx cb o r c (r) (by omega) hrc
          have ho7 : r < r → (if c = r then o else o + (r)) = o + (r) := fun h => by rw [if_neg (by omega)]
          generalize (if c = r then o else o + (r)) = o7 at *
          have hlen : ((ts.drop d).take (r)).length = r := by rw [List.length_take, List.length_drop]; omega
          have hck := logCk_ok hL hH.nf.failed
          rw [hN] at hck
          generalize strOf D.ckR = rt at *
          go_wp2_with fail
          refine hpk.mono ?_
          rintro e w1' ⟨rfl, rfl⟩
          go_wp2_with fail
          refine hck.mono ?_
          rintro e w2 ⟨rfl, hb2⟩
          have hL2 := hL.below hb2
          have hbw2 := hbw.trans (hb2.mono hbw.size)
          have hS2 := hS.below hb2
          have hsub := submit_ok hL2 hH.nf.failed hH.jn cb o c ((ts.drop d).take (r)) (hS2.take _) (by have := hbw2.size; omega) (by omega) (by omega) (fun e => by have := hfo _ e; omega) (by simp [Value.ownBlock]) (fun s hs => hz s (List.mem_of_mem_drop (List.mem_of_mem_take hs))) (by rw [hlen]; simp <;> omega) (by rw [hlen, hN]; simp; omega)
          rw [hlen, List.nil_append] at hsub
          go_wp2_with fail
          refine hsub.mono ?_
          rintro e w3 ⟨rfl, wv3, hL3, hR3⟩
          clear hsub hck
          obtain ⟨hbw3, hfo3, hwo3⟩ := FrL.below hbw2 hR3 ha hb hfo (fun k hk => by simp [Value.ownBlock] at hk)
          have hz3 : ∀ s ∈ (ts.drop d).take (r), s.size ≤ 40 := fun s hs => hz s (List.mem_of_mem_drop (List.mem_of_mem_take hs))
          have hfd : D.flushed ((ts.drop d).take (r)) = D.add ((ts.drop d).take (r)) := by
            unfold Dk.flushed
            rw [if_neg (by rw [hlen]; omega)]
          have hH4 := add_spec hH (W := (ts.drop d).take (r)) (by rw [hlen]; omega) hz3 (by rw [hlen, List.length_take]; omega)
          have htk : ts.take d ++ (ts.drop d).take (r) = ts.take (d + (r)) := (List.take_add ..).symm
          rw [htk] at hH4
          have hN4 := hH4.ckN
          rw [List.length_take, Nat.min_eq_left (by omega)] at hN4
          have hfl := logFlush_any hL3 hH.nf.failed hH.jn hz3 (by rw [hlen, hN]; omega) (by rw [hH.fre]; simp) (env_of ht hg hbw3 hb hfo3) (by rw [hfd]; exact hH4.nf.failed)
          rw [hfd, hN4] at hfl
          have hcI : ((d + (r) : Nat) : Int) = (d : Int) + ((r : Int)) := by omega
          rw [hcI] at hfl
          generalize D.add ((ts.drop d).take (r)) = D4 at *
          go_wp2_with fail
          refine hfl.mono ?_
          rintro e w4 ⟨rfl, fv4, hL4, hR4⟩
          clear hfl
          obtain ⟨hbw4, hfo4, _⟩ := FrL.below hbw3 hR4 ha hb hfo3 hwo3
          have hS4 : SA w4 cb o7 (ts.drop (d + (r))) := by
            have hS0 : SA w4 cb o (ts.drop d) := fun i s hs => by
              have h9 := hS i s hs
              have h8 : w.cell? ⟨cb, o + i, none⟩ = some (.string s) := by rw [← hbw.cell (p := ⟨cb, o + i, none⟩) hcb]; exact h9
              rw [hbw4.cell (p := ⟨cb, o + i, none⟩) hcb]; exact h8
            by_cases hjr : r < r
            · rw [ho7 hjr]
              have := hS0.drop (r)
              rw [List.drop_drop] at this
              exact this
            · rw [List.drop_eq_nil_of_le (by omega)]
              intro i s hs
              simp at hs
          have hmj : r - (r) < r := by omega
          clear hS hL hL2 hL3 hR3 hR4 hS2
          go_wp2
          go_roundw
          case rel => exact ⟨d + (r), o7, c - (r), kk + 1, fv4, D4, by omega, by omega, by omega, by congr 1; omega, by go_num, hS4, hL4, hH4, hbw4, hfo4⟩
          case measure => simpa [sliceLen] using hmj
        · have hn' : ¬ (1 + (pv : Int)) > (r : Int) := by omega
          have hnI : ((1 + pv : Nat) : Int) = 1 + (pv : Int) := by omega
          have hsh : ∀ wx, (Instr.sliceAt 22 (.slice (some ⟨cb, o, none⟩) r c) none (some (.int .i64 (1 + (pv : Int)))) none).run Tryd.prog wx = .ok (.slice (some ⟨cb, o, none⟩) (1 + pv) c) wx := fun wx => by
            rw [← hnI]; exact slice_h wx cb o r c (1 + pv) (by omega)
          have hst : ∀ wx, (Instr.sliceAt 22 (.slice (some ⟨cb, o, none⟩) r c) (some (.int .i64 (1 + (pv : Int)))) none none).run Tryd.prog wx = .ok (.slice (some ⟨cb, if c = 1 + pv then o else o + (1 + pv), none⟩) (r - (1 + pv)) (c - (1 + pv))) wx := fun wx => by
            rw [← hnI]; exact slice_tl wx cb o r c (1 + pv) (by omega) hrc
          have ho7 : 1 + pv < r → (if c = 1 + pv then o else o + (1 + pv)) = o + (1 + pv) := fun h => by rw [if_neg (by omega)]
          generalize (if c = 1 + pv then o else o + (1 + pv)) = o7 at *
          have hlen : ((ts.drop d).take (1 + pv)).length = 1 + pv := by rw [List.length_take, List.length_drop]; omega
          have hck := logCk_ok hL hH.nf.failed
          rw [hN] at hck
          generalize strOf D.ckR = rt at *
          go_wp2_with fail
          refine hpk.mono ?_
          rintro e w1' ⟨rfl, rfl⟩
          go_wp2_with fail
          refine hck.mono ?_
          rintro e w2 ⟨rfl, hb2⟩
          have hL2 := hL.below hb2
          have hbw2 := hbw.trans (hb2.mono hbw.size)
          have hS2 := hS.below hb2
          have hsub := submit_ok hL2 hH.nf.failed hH.jn cb o c ((ts.drop d).take (1 + pv)) (hS2.take _) (by have := hbw2.size; omega) (by omega) (by omega) (fun e => by have := hfo _ e; omega) (by simp [Value.ownBlock]) (fun s hs => hz s (List.mem_of_mem_drop (List.mem_of_mem_take hs))) (by rw [hlen]; simp <;> omega) (by rw [hlen, hN]; simp; omega)
          rw [hlen, List.nil_append] at hsub
          go_wp2_with fail
          refine hsub.mono ?_
          rintro e w3 ⟨rfl, wv3, hL3, hR3⟩
          clear hsub hck
          obtain ⟨hbw3, hfo3, hwo3⟩ := FrL.below hbw2 hR3 ha hb hfo (fun k hk => by simp [Value.ownBlock] at hk)
          have hz3 : ∀ s ∈ (ts.drop d).take (1 + pv), s.size ≤ 40 := fun s hs => hz s (List.mem_of_mem_drop (List.mem_of_mem_take hs))
          have hfd : D.flushed ((ts.drop d).take (1 + pv)) = D.add ((ts.drop d).take (1 + pv)) := by
            unfold Dk.flushed
            rw [if_neg (by rw [hlen]; omega)]
          have hH4 := add_spec hH (W := (ts.drop d).take (1 + pv)) (by rw [hlen]; omega) hz3 (by rw [hlen, List.length_take]; omega)
          have htk : ts.take d ++ (ts.drop d).take (1 + pv) = ts.take (d + (1 + pv)) := (List.take_add ..).symm
          rw [htk] at hH4
          have hN4 := hH4.ckN
          rw [List.length_take, Nat.min_eq_left (by omega)] at hN4
          have hfl := logFlush_any hL3 hH.nf.failed hH.jn hz3 (by rw [hlen, hN]; omega) (by rw [hH.fre]; simp) (env_of ht hg hbw3 hb hfo3) (by rw [hfd]; exact hH4.nf.failed)
          rw [hfd, hN4] at hfl
          have hcI : ((d + (1 + pv) : Nat) : Int) = (d : Int) + (1 + (pv : Int)) := by omega
          rw [hcI] at hfl
          generalize D.add ((ts.drop d).take (1 + pv)) = D4 at *
          go_wp2_with fail
          refine hfl.mono ?_
          rintro e w4 ⟨rfl, fv4, hL4, hR4⟩
          clear hfl
          obtain ⟨hbw4, hfo4, _⟩ := FrL.below hbw3 hR4 ha hb hfo3 hwo3
          have hS4 : SA w4 cb o7 (ts.drop (d + (1 + pv))) := by
            have hS0 : SA w4 cb o (ts.drop d) := fun i s hs => by
              have h9 := hS i s hs
              have h8 : w.cell? ⟨cb, o + i, none⟩ = some (.string s) := by rw [← hbw.cell (p := ⟨cb, o + i, none⟩) hcb]; exact h9
              rw [hbw4.cell (p := ⟨cb, o + i, none⟩) hcb]; exact h8
            by_cases hjr : 1 + pv < r
            · rw [ho7 hjr]
              have := hS0.drop (1 + pv)
              rw [List.drop_drop] at this
              exact this
            · rw [List.drop_eq_nil_of_le (by omega)]
              intro i s hs
              simp at hs
          have hmj : r - (1 + pv) < r := by omega
          clear hS hL hL2 hL3 hR3 hR4 hS2
          go_wp2
          go_roundw
          case rel => exact ⟨d + (1 + pv), o7, c - (1 + pv), kk + 1, fv4, D4, by omega, by omega, by omega, by congr 1; omega, by go_num, hS4, hL4, hH4, hbw4, hfo4⟩
          case measure => simpa [sliceLen] using hmj
      · have hk' : ¬ (kk : Int) < (rn : Int) := by omega
        by_cases hn : 12 > r
        · have hn' : (12 : Int) > (r : Int) := by omega
          have hnI : ((r : Nat) : Int) = (r : Int) := by omega
          have hsh : ∀ wx, (Instr.sliceAt 22 (.slice (some ⟨cb, o, none⟩) r c) none (some (.int .i64 ((r : Int)))) none).run Tryd.prog wx = .ok (.slice (some ⟨cb, o, none⟩) (r) c) wx := fun wx => by
            rw [← hnI]; exact slice_h wx cb o r c (r) (by omega)
          have hst : ∀ wx, (Instr.sliceAt 22 (.slice (some ⟨cb, o, none⟩) r c) (some (.int .i64 ((r : Int)))) none none).run Tryd.prog wx = .ok (.slice (some ⟨cb, if c = r then o else o + (r), none⟩) (r - (r)) (c - (r))) wx := fun wx => by
            rw [← hnI]; exact slice_tl wx cb o r c (r) (by omega) hrc
          have ho7 : r < r → (if c = r then o else o + (r)) = o + (r) := fun h => by rw [if_neg (by omega)]
          generalize (if c = r then o else o + (r)) = o7 at *
          have hlen : ((ts.drop d).take (r)).length = r := by rw [List.length_take, List.length_drop]; omega
          have hck := logCk_ok hL hH.nf.failed
          rw [hN] at hck
          generalize strOf D.ckR = rt at *
          go_wp2_with fail
          refine hck.mono ?_
          rintro e w2 ⟨rfl, hb2⟩
          have hL2 := hL.below hb2
          have hbw2 := hbw.trans (hb2.mono hbw.size)
          have hS2 := hS.below hb2
          have hsub := submit_ok hL2 hH.nf.failed hH.jn cb o c ((ts.drop d).take (r)) (hS2.take _) (by have := hbw2.size; omega) (by omega) (by omega) (fun e => by have := hfo _ e; omega) (by simp [Value.ownBlock]) (fun s hs => hz s (List.mem_of_mem_drop (List.mem_of_mem_take hs))) (by rw [hlen]; simp <;> omega) (by rw [hlen, hN]; simp; omega)
          rw [hlen, List.nil_append] at hsub
          go_wp2_with fail
          refine hsub.mono ?_
          rintro e w3 ⟨rfl, wv3, hL3, hR3⟩
          clear hsub hck
          obtain ⟨hbw3, hfo3, hwo3⟩ := FrL.below hbw2 hR3 ha hb hfo (fun k hk => by simp [Value.ownBlock] at hk)
          have hz3 : ∀ s ∈ (ts.drop d).take (r), s.size ≤ 40 := fun s hs => hz s (List.mem_of_mem_drop (List.mem_of_mem_take hs))
          have hfd : D.flushed ((ts.drop d).take (r)) = D.add ((ts.drop d).take (r)) := by
            unfold Dk.flushed
            rw [if_neg (by rw [hlen]; omega)]
          have hH4 := add_spec hH (W := (ts.drop d).take (r)) (by rw [hlen]; omega) hz3 (by rw [hlen, List.length_take]; omega)
          have htk : ts.take d ++ (ts.drop d).take (r) = ts.take (d + (r)) := (List.take_add ..).symm
          rw [htk] at hH4
          have hN4 := hH4.ckN
          rw [List.length_take, Nat.min_eq_left (by omega)] at hN4
          have hfl := logFlush_any hL3 hH.nf.failed hH.jn hz3 (by rw [hlen, hN]; omega) (by rw [hH.fre]; simp) (env_of ht hg hbw3 hb hfo3) (by rw [hfd]; exact hH4.nf.failed)
          rw [hfd, hN4] at hfl
          have hcI : ((d + (r) : Nat) : Int) = (d : Int) + ((r : Int)) := by omega
          rw [hcI] at hfl
          generalize D.add ((ts.drop d).take (r)) = D4 at *
          go_wp2_with fail
          refine hfl.mono ?_
          rintro e w4 ⟨rfl, fv4, hL4, hR4⟩
          clear hfl
          obtain ⟨hbw4, hfo4, _⟩ := FrL.below hbw3 hR4 ha hb hfo3 hwo3
          have hS4 : SA w4 cb o7 (ts.drop (d + (r))) := by
            have hS0 : SA w4 cb o (ts.drop d) := fun i s hs => by
              have h9 := hS i s hs
              have h8 : w.cell? ⟨cb, o + i, none⟩ = some (.string s) := by rw [← hbw.cell (p := ⟨cb, o + i, none⟩) hcb]; exact h9
              rw [hbw4.cell (p := ⟨cb, o + i, none⟩) hcb]; exact h8
            by_cases hjr : r < r
            · rw [ho7 hjr]
              have := hS0.drop (r)
              rw [List.drop_drop] at this
              exact this
            · rw [List.drop_eq_nil_of_le (by omega)]
              intro i s hs
              simp at hs
          have hmj : r - (r) < r := by omega
          clear hS hL hL2 hL3 hR3 hR4 hS2
          go_wp2
          go_roundw
          case rel => exact ⟨d + (r), o7, c - (r), kk + 1, fv4, D4, by omega, by omega, by omega, by congr 1; omega, by go_num, hS4, hL4, hH4, hbw4, hfo4⟩
          case measure => simpa [sliceLen] using hmj
        · have hn' : ¬ (12 : Int) > (r : Int) := by omega
          have hnI : ((12 : Nat) : Int) = 12 := by omega
          have hsh : ∀ wx, (Instr.sliceAt 22 (.slice (some ⟨cb, o, none⟩) r c) none (some (.int .i64 (12))) none).run Tryd.prog wx = .ok (.slice (some ⟨cb, o, none⟩) (12) c) wx := fun wx => by
            rw [← hnI]; exact slice_h wx cb o r c (12) (by omega)
          have hst : ∀ wx, (Instr.sliceAt 22 (.slice (some ⟨cb, o, none⟩) r c) (some (.int .i64 (12))) none none).run Tryd.prog wx = .ok (.slice (some ⟨cb, if c = 12 then o else o + (12), none⟩) (r - (12)) (c - (12))) wx := fun wx => by
            rw [← hnI]; exact slice_tl wx cb o r c (12) (by omega) hrc
          have ho7 : 12 < r → (if c = 12 then o else o + (12)) = o + (12) := fun h => by rw [if_neg (by omega)]
          generalize (if c = 12 then o else o + (12)) = o7 at *
          have hlen : ((ts.drop d).take (12)).length = 12 := by rw [List.length_take, List.length_drop]; omega
          have hck := logCk_ok hL hH.nf.failed
          rw [hN] at hck
          generalize strOf D.ckR = rt at *
          go_wp2_with fail
          refine hck.mono ?_
          rintro e w2 ⟨rfl, hb2⟩
          have hL2 := hL.below hb2
          have hbw2 := hbw.trans (hb2.mono hbw.size)
          have hS2 := hS.below hb2
          have hsub := submit_ok hL2 hH.nf.failed hH.jn cb o c ((ts.drop d).take (12)) (hS2.take _) (by have := hbw2.size; omega) (by omega) (by omega) (fun e => by have := hfo _ e; omega) (by simp [Value.ownBlock]) (fun s hs => hz s (List.mem_of_mem_drop (List.mem_of_mem_take hs))) (by rw [hlen]; simp <;> omega) (by rw [hlen, hN]; simp; omega)
          rw [hlen, List.nil_append] at hsub
          go_wp2_with fail
          refine hsub.mono ?_
          rintro e w3 ⟨rfl, wv3, hL3, hR3⟩
          clear hsub hck
          obtain ⟨hbw3, hfo3, hwo3⟩ := FrL.below hbw2 hR3 ha hb hfo (fun k hk => by simp [Value.ownBlock] at hk)
          have hz3 : ∀ s ∈ (ts.drop d).take (12), s.size ≤ 40 := fun s hs => hz s (List.mem_of_mem_drop (List.mem_of_mem_take hs))
          have hfd : D.flushed ((ts.drop d).take (12)) = D.add ((ts.drop d).take (12)) := by
            unfold Dk.flushed
            rw [if_neg (by rw [hlen]; omega)]
          have hH4 := add_spec hH (W := (ts.drop d).take (12)) (by rw [hlen]; omega) hz3 (by rw [hlen, List.length_take]; omega)
          have htk : ts.take d ++ (ts.drop d).take (12) = ts.take (d + (12)) := (List.take_add ..).symm
          rw [htk] at hH4
          have hN4 := hH4.ckN
          rw [List.length_take, Nat.min_eq_left (by omega)] at hN4
          have hfl := logFlush_any hL3 hH.nf.failed hH.jn hz3 (by rw [hlen, hN]; omega) (by rw [hH.fre]; simp) (env_of ht hg hbw3 hb hfo3) (by rw [hfd]; exact hH4.nf.failed)
          rw [hfd, hN4] at hfl
          have hcI : ((d + (12) : Nat) : Int) = (d : Int) + (12) := by omega
          rw [hcI] at hfl
          generalize D.add ((ts.drop d).take (12)) = D4 at *
          go_wp2_with fail
          refine hfl.mono ?_
          rintro e w4 ⟨rfl, fv4, hL4, hR4⟩
          clear hfl
          obtain ⟨hbw4, hfo4, _⟩ := FrL.below hbw3 hR4 ha hb hfo3 hwo3
          have hS4 : SA w4 cb o7 (ts.drop (d + (12))) := by
            have hS0 : SA w4 cb o (ts.drop d) := fun i s hs => by
              have h9 := hS i s hs
              have h8 : w.cell? ⟨cb, o + i, none⟩ = some (.string s) := by rw [← hbw.cell (p := ⟨cb, o + i, none⟩) hcb]; exact h9
              rw [hbw4.cell (p := ⟨cb, o + i, none⟩) hcb]; exact h8
            by_cases hjr : 12 < r
            · rw [ho7 hjr]
              have := hS0.drop (12)
              rw [List.drop_drop] at this
              exact this
            · rw [List.drop_eq_nil_of_le (by omega)]
              intro i s hs
              simp at hs
          have hmj : r - (12) < r := by omega
          clear hS hL hL2 hL3 hR3 hR4 hS2
          go_wp2
          go_roundw
          case rel => exact ⟨d + (12), o7, c - (12), kk + 1, fv4, D4, by omega, by omega, by omega, by congr 1; omega, by go_num, hS4, hL4, hH4, hbw4, hfo4⟩
          case measure => simpa [sliceLen] using hmj
end Go.Proofs.YtlhohmlpcgbliaaDoor
namespace Go.Proofs.YtlhohmlpcgbliaaDoor
set_option maxRecDepth 100000

end Go.Proofs.YtlhohmlpcgbliaaDoor
namespace Go.Proofs.YtlhohmlpcgbliaaDoor
set_option maxRecDepth 100000
open Go.RowKit
attribute [local go_sem ↓] Go.wp_at_zero Go.wp_at_succ

end Go.Proofs.YtlhohmlpcgbliaaDoor
