import Derived.Test.YtlhohmlpcgbliaaDoorZQ2
import Derived.Test.YtlhohmlpcgbliaaDoorZQ3
import Derived.Deep.LoopGhost
import Derived.Test.YtlhohmlpcgbliaaDoorZL7
namespace Go.Proofs.YtlhohmlpcgbliaaDoor
set_option maxRecDepth 100000
open Go.RowKit
attribute [local go_sem ↓] Go.wp_at_zero Go.wp_at_succ

/-- Hash i of level l is as what lies below says. -/
def Dk.tileOk (D : Dk) (l i : Nat) : Prop := D.hashF l i = true ∧ strOf (D.slot (tileAt l).1 4 i) = D.hashB l i
theorem tilesOk_of {D : Dk} {n l : Nat} (h : ∀ k, k < l → ∀ i, i < n / 4 ^ k → D.tileOk k i) (hl : n < 4 ^ l) : D.tilesOk n := by
  intro k hk i hi
  refine h k ?_ i hi
  refine Classical.byContradiction fun hn => ?_
  have : 4 ^ l ≤ 4 ^ k := Nat.pow_le_pow_right (by omega) (by omega)
  omega

set_option maxHeartbeats 4000000 in
theorem tilesHold_any (b n : Nat) (fv : Value) (D : Dk) (w : World) (h : DiskAt w b fv D) (hn : n ≤ 64) (ht : Table w) (hg : 2 < w.heap.size) :
    Calls Tryd.prog 129 #[.pointer (some ⟨b, 0, none⟩), .int .i64 (n : Int)] w fun e w' => ∃ r : Bool, e = .returned (.bool r) ∧ (r = true ↔ D.tilesOk n) ∧ Below w.heap.size w w' := by
  have HD : Aside (DiskAt w b fv D ∧ Table w ∧ 2 < w.heap.size) := ⟨h, ht, hg⟩
  clear h ht hg
  go_enter Tryd.func129, Tryd.ntmps129
  go_wp2
  go_step3
  go_wp2
  go_step3
  go_wp2
  go_loopg [5, 6, 7] 4 (fun g s5 s6 s7 wr => ∃ (l size : Nat), l + g = 4 ∧ s5 = .bool true ∧ s6 = .int .i64 (l : Int) ∧ s7 = .int .i64 (size : Int) ∧ 1 ≤ size ∧ size ≤ 256 ∧ Aside (size = 4 ^ l ∧ (∀ k, k < l → ∀ i, i < n / 4 ^ k → D.tileOk k i) ∧ Below w.heap.size w wr))
  case atStart => exact ⟨0, 1, rfl, rfl, rfl, rfl, by omega, by omega, ⟨rfl, fun k hk => by omega, Below.refl _ _⟩⟩
  case round =>
    obtain ⟨l, size, hlg, rfl, rfl, rfl, hs1, hs2, HS⟩ := hrel
    by_cases hc : size ≤ n
    · have hc' : (size : Int) ≤ (n : Int) := by omega
      obtain ⟨g, rfl⟩ : ∃ g, gk = g + 1 := by
        cases gk with
        | zero =>
          have h1 := HS.out.1
          rw [show l = 4 by omega] at h1
          have h2 : (4 : Nat) ^ 4 = 256 := rfl
          omega
        | succ g => exact ⟨g, rfl⟩
      have hl3 : l ≤ 3 := by omega
      have hT := (tileAt_le l).1
      have hqn : n / size ≤ n := Nat.div_le_self _ _
      have HQ : Aside (n / size = n / 4 ^ l) := by show _ = _; rw [HS.out.1]
      have hq := fun wx => quo_gen n size wx hs1 (by omega)
      have ei1 : (n : Int) / (size : Int) = ((n / size : Nat) : Int) := (Int.natCast_ediv _ _).symm
      generalize n / size = q at *
      go_wp2_with fail
      have htl : Calls Tryd.prog 119 #[.int .i64 (l : Int)] wr fun e w' => e = .returned (.agg #[.int .i64 ((tileAt l).1 : Int), .int .i64 4]) ∧ Below wr.heap.size wr w' := tiles_any l wr (by omega)
      refine htl.mono ?_
      rintro e w1 ⟨rfl, hb1⟩
      clear htl
      generalize hst : (tileAt l).1 = start at *
      have HST : Aside ((tileAt l).1 = start) := hst
      clear hst
      have H1 : Aside (Below w.heap.size w (w1.alloc (.cells #[.int .i64 (start : Int), .int .i64 4] 119)) ∧ Blk (w1.alloc (.cells #[.int .i64 (start : Int), .int .i64 4] 119)) w1.heap.size 119 [.int .i64 (start : Int), .int .i64 4]) :=
        ⟨(HS.out.2.2.trans (hb1.mono HS.out.2.2.size)).alloc (Nat.le_trans HS.out.2.2.size hb1.size) _, Blk.new w1 _ _⟩
      go_wp2_with fail
      have hrb : w1.heap.size < (w1.alloc (.cells #[.int .i64 (start : Int), .int .i64 4] 119)).heap.size := by simp
      generalize w1.alloc (.cells #[.int .i64 (start : Int), .int .i64 4] 119) = w2 at *
      generalize w1.heap.size = rb at *
      clear hb1
      go_loopg [5, 9] 17 (fun g2 s5 s9 wy => ∃ at' : Nat, at' + g2 = 17 ∧ s5 = .bool true ∧ s9 = .int .i64 (at' : Int) ∧ at' * 4 ≤ q ∧ Aside ((∀ i, i < at' * 4 → D.tileOk l i) ∧ Below w2.heap.size w2 wy))
      case atStart => exact ⟨0, rfl, rfl, rfl, by omega, ⟨fun i hi => by omega, Below.refl _ _⟩⟩
      case round =>
        obtain ⟨at', hag, rfl, rfl, haq, HS2⟩ := hrel
        obtain ⟨g2, rfl⟩ : ∃ g2, gk = g2 + 1 := ⟨gk - 1, by omega⟩
        have hB := H1.out.2.below HS2.out.2 hrb
        have hc0 := hB.cell 0
        simp only [List.getElem?_cons_zero] at hc0
        have hb0 : Below w.heap.size w wr := H1.out.1.trans (HS2.out.2.mono H1.out.1.size)
        have hd0 := HD.out.1.below hb0
        have hrd := read_any b fv D (start + at') wr hd0 (by omega)
        have hsl := (hd0.ok.read (i := start + at') (by omega)).len
        have HSL : Aside (∀ i, i / 4 = at' → D.slot (tileAt l).1 4 i = slotL (D.read (start + at')) 4 i) := fun i hi => by unfold Dk.slot; rw [HST.out, hi]
        have eI : ((start + at' : Nat) : Int) = (start : Int) + (at' : Int) := by omega
        rw [eI] at hrd
        clear eI hd0
        generalize D.read (start + at') = s at *
        go_wp2_with fail
        refine hrd.mono ?_
        rintro e w3 ⟨rfl, hb3⟩
        clear hrd hc0
        have hz : Tryd.zeroCells130.toList.length = 128 := by rw [zeroSec]; simp
        have hN := Blk.newA w3 130 Tryd.zeroCells130
        have hth := hN.there 0 128 (by omega)
        have hN4 := hN.fill (u8s s) (by simp [hsl, hz])
        have hb4 : Below wr.heap.size wr ((w3.alloc (.cells Tryd.zeroCells130 130)).setCells w3.heap.size 0 (u8s s)) := Below.setCells (hb3.alloc hb3.size _) _ _ hb3.size _
        clear hN
        go_wp2_with (first | ((with_reducible refine stSec ?_ (.tmp 10) (.tmp 30) ?_ w3.heap.size 0 s ?_ ?_ hth hsl ?_); rfl; rfl; rfl; rfl))
        have H4 : Aside (Below w.heap.size w ((w3.alloc (.cells Tryd.zeroCells130 130)).setCells w3.heap.size 0 (u8s s)) ∧ Below w2.heap.size w2 ((w3.alloc (.cells Tryd.zeroCells130 130)).setCells w3.heap.size 0 (u8s s)) ∧ Blk ((w3.alloc (.cells Tryd.zeroCells130 130)).setCells w3.heap.size 0 (u8s s)) rb 119 [.int .i64 (start : Int), .int .i64 4] ∧ Blk ((w3.alloc (.cells Tryd.zeroCells130 130)).setCells w3.heap.size 0 (u8s s)) w3.heap.size 130 (u8s s)) :=
          ⟨hb0.trans (hb4.mono hb0.size), HS2.out.2.trans (hb4.mono HS2.out.2.size), hB.below hb4 hB.lt, hN4⟩
        clear hth hN4 hb4 hB hb0 hz
        generalize (w3.alloc (.cells Tryd.zeroCells130 130)).setCells w3.heap.size 0 (u8s s) = w4 at *
        generalize w3.heap.size = lb at *
        clear hb3
        go_loopg [5, 11] 4 (fun g3 s5 s11 wz => ∃ i : Nat, i + g3 = at' * 4 + 4 ∧ at' * 4 ≤ i ∧ i ≤ q ∧ s5 = .bool true ∧ s11 = .int .i64 (i : Int) ∧ Aside ((∀ j, j < i → D.tileOk l j) ∧ Below w4.heap.size w4 wz))
        case atStart => exact ⟨at' * 4, rfl, Nat.le_refl _, haq, rfl, by go_num, ⟨HS2.out.1, Below.refl _ _⟩⟩
        case round =>
          obtain ⟨i, hig, hia, hiq, rfl, rfl, HS3⟩ := hrel
          cases gk with
          | zero =>
            have hi4 : ¬ ((i : Int) < ((at' : Int) + 1) * 4) := by omega
            have HI : Aside (i = at' * 4 + 4) := hig
            clear hig
            go_wp2
            go_roundg g2
            case measure => omega
            case rel => exact ⟨at' + 1, by omega, rfl, by go_num, by have := HI.out; omega, ⟨fun j hj => HS3.out.1 j (by have := HI.out; omega), H4.out.2.1.trans (HS3.out.2.mono H4.out.2.1.size)⟩⟩
          | succ g3 =>
            have hi4 : (i : Int) < ((at' : Int) + 1) * 4 := by omega
            have hbw : Below w.heap.size w wr := H4.out.1.trans (HS3.out.2.mono H4.out.1.size)
            have HBW : Aside (Below w.heap.size w wr) := hbw
            by_cases hqe : i = q
            · have hqe' : ((i : Int) == (q : Int)) = true := by simp; omega
              have HQE : Aside (i = q) := hqe
              clear hqe hbw
              go_wp2
              go_roundg g
              case measure => omega
              case rel =>
                refine ⟨l + 1, size * 4, by omega, rfl, by go_num, by go_num, by omega, by omega, ⟨by rw [Nat.pow_succ, ← HS.out.1], fun k hk j hj => ?_, HBW.out⟩⟩
                by_cases hkl : k = l
                · subst hkl
                  exact HS3.out.1 j (by rw [HQE.out, HQ.out]; exact hj)
                · exact HS.out.2.1 k (by omega) j hj
            · have hqe' : ((i : Int) == (q : Int)) = false := by simp; omega
              have hhb := hashBelow_any b l i fv D wr (HD.out.1.below hbw) (by omega) (by omega) (table_at hbw HD.out.2.2 HD.out.2.1) (Nat.lt_of_lt_of_le HD.out.2.2 hbw.size)
              have HO : Aside (D.tileOk l i ↔ D.hashF l i = true ∧ strOf (slotL s 4 i) = D.hashB l i) := by
                show _ ↔ _
                unfold Dk.tileOk
                rw [HSL.out i (by omega)]
              have HN : Aside (¬ D.tileOk l i → ¬ D.tilesOk n) := fun h1 h2 => h1 (h2 l (by rw [← HS.out.1]; exact hc) i (by rw [← HQ.out]; omega))
              have HX : Aside (i < q ∧ i < at' * 4 + 4 ∧ i + (g3 + 1) = at' * 4 + 4) := ⟨by omega, by omega, hig⟩
              clear hqe hbw hig hiq
              generalize D.hashB l i = hh at *
              generalize D.hashF l i = okk at *
              go_wp2_with fail
              refine hhb.mono ?_
              rintro e w5 ⟨rfl, hb5⟩
              clear hhb
              have H5 : Aside (Below w.heap.size w w5 ∧ Below w4.heap.size w4 w5) := ⟨HBW.out.trans (hb5.mono HBW.out.size), HS3.out.2.trans (hb5.mono HS3.out.2.size)⟩
              clear hb5
              cases okk with
              | false =>
                go_wp2
                try rw [Exit.noGoto_ret]
                go_ret
                exact ⟨false, rfl, ⟨(fun h1 => by cases h1), fun h1 => absurd h1 (HN.out (fun h2 => (by have := (HO.out.1 h2).1; cases this)))⟩, H5.out.1⟩
              | true =>
                have hB5 := H4.out.2.2.1.below H5.out.2 H4.out.2.2.1.lt
                have hc0 := hB5.cell 0
                have hc1 := hB5.cell 1
                simp only [List.getElem?_cons_zero, List.getElem?_cons_succ] at hc0 hc1
                have hsa : Calls Tryd.prog 117 #[.agg #[.int .i64 (start : Int), .int .i64 4], .pointer (some ⟨lb, 0, none⟩), .int .i64 (i : Int)] w5 fun e w' => e = .returned (.slice (some ⟨lb, i % 4 * 32, none⟩) 32 (128 - i % 4 * 32)) ∧ Below w5.heap.size w5 w' := slot_any start 4 lb i w5 (.inr rfl) (by omega)
                have hl := slotL_length i hsl (.inr rfl)
                have HR : Aside (∀ wx, Below w5.heap.size w5 wx → wx.rangeAt lb (i % 4 * 32) (u8s (slotL s 4 i))) := by
                  intro wx hx
                  have hB6 := (H4.out.2.2.2.below H5.out.2 H4.out.2.2.2.lt).below hx (H4.out.2.2.2.below H5.out.2 H4.out.2.2.2.lt).lt
                  have := hB6.part (i % 4 * 32) 32
                  unfold slotL
                  rw [u8s_take, u8s_drop]
                  exact this
                generalize i % 4 * 32 = off at *
                generalize slotL s 4 i = sl at *
                go_wp2_with fail
                refine hsa.mono ?_
                rintro e w6 ⟨rfl, hb6⟩
                have hcv := convert_range (cap := 128 - off) (HR.out w6 hb6)
                rw [show sl.length = 32 from hl] at hcv
                have H6 : Aside (Below w.heap.size w w6 ∧ Below w4.heap.size w4 w6) := ⟨H5.out.1.trans (hb6.mono H5.out.1.size), H5.out.2.trans (hb6.mono H5.out.2.size)⟩
                clear hsa hb6 hB5 hc0 hc1 hl HR
                generalize strOf sl = x at *
                by_cases hx : x = hh
                · have HXX : Aside (x = hh) := hx
                  have hxb : (x.toList == hh.toList) = true := by rw [eqs]; exact decide_eq_true hx
                  clear hx
                  go_wp2
                  go_roundg g3
                  case measure => omega
                  case rel =>
                    refine ⟨i + 1, by have := HX.out.2.2; omega, by omega, by have := HX.out.1; omega, rfl, by go_num, ⟨fun j hj => ?_, H6.out.2⟩⟩
                    by_cases hji : j = i
                    · subst hji
                      exact HO.out.2 ⟨by trivial, HXX.out⟩
                    · exact HS3.out.1 j (by omega)
                · have HXX : Aside (¬ x = hh) := hx
                  have hxb : (x.toList == hh.toList) = false := by rw [eqs]; exact decide_eq_false hx
                  clear hx
                  go_wp2
                  try rw [Exit.noGoto_ret]
                  go_ret
                  exact ⟨false, rfl, ⟨(fun h1 => by cases h1), fun h1 => absurd h1 (HN.out (fun h2 => HXX.out (HO.out.1 h2).2))⟩, H6.out.1⟩
    · have hc' : ¬ (size : Int) ≤ (n : Int) := by omega
      go_wp2
      try rw [Exit.noGoto_ret]
      go_ret
      exact ⟨true, rfl, ⟨fun _ => tilesOk_of HS.out.2.1 (by rw [← HS.out.1]; omega), fun _ => rfl⟩, HS.out.2.2⟩
end Go.Proofs.YtlhohmlpcgbliaaDoor
namespace Go.Proofs.YtlhohmlpcgbliaaDoor
set_option maxRecDepth 100000
open Go.RowKit
attribute [local go_sem ↓] Go.wp_at_zero Go.wp_at_succ

theorem equal_sec (w : World) {s t : List Nat} (hs : s.length = 128) (ht : t.length = 128) : (Op.equalIn 10000 130 (.agg (u8s s).toArray) (.agg (u8s t).toArray)).run Tryd.prog w = .ok (decide (s = t)) w := by
  have hi : ∃ i, Tryd.prog.info? 5 = some i := by
    cases hq : Tryd.prog.info? 5 with
    | none => have := info5; simp [hq] at this
    | some i => exact ⟨i, rfl⟩
  obtain ⟨i, hi⟩ := hi
  rw [run_equalIn_array w 9999 _ _ Tryd.underlying130 hi, cells5, items_u8 w 9998 s t _ (fun j hj => by have := List.mem_range.1 hj; omega), range_all hs ht]
theorem Holds.span {D : Dk} {E : List ByteArray} (h : Holds D E) : D.span 0 E.length = mth (E.map leafS) := by
  have h1 := span_mth h.til (by simp) E.length E.length 0 6 (Nat.le_refl _) (by have := h.len; simpa using this) (by simp) (by simp)
  rw [h1, List.drop_zero, List.take_of_length_le (by simp)]

set_option maxHeartbeats 2000000 in
theorem sound_ok (b : Nat) (fv : Value) (D : Dk) (E : List ByteArray) (w : World) (h : DiskAt w b fv D) (hH : Holds D E) (ht : Table w) (hg : 2 < w.heap.size) :
    Calls Tryd.prog 105 #[.pointer (some ⟨b, 0, none⟩)] w fun e w' => e = .returned (.bool true) ∧ Below w.heap.size w w' := by
  have HD : Aside (DiskAt w b fv D ∧ Table w ∧ 2 < w.heap.size ∧ D.tilesOk E.length ∧ D.read 1 = zer) := ⟨h, ht, hg, hH.tilesOk, hH.jn⟩
  have hck := readCheckpoint_any b fv D w h
  rw [hH.ckN, hH.ckR, strOf_bts] at hck
  have hlen := hH.len
  have hr32 : (mth (E.map leafS)).size = 32 := mth32
  have hspan := hH.span
  have h0 := hH.ck
  have hs0 := (h.ok.read (i := 0) (by omega)).len
  generalize mth (E.map leafS) = rt at *
  generalize E.length = n at *
  clear hH ht hg h
  have HP : Aside (D.span 0 n = rt ∧ D.read 0 = ckSec n (bts rt)) := ⟨hspan, h0⟩
  have hcs : (ckSec n (bts rt)).length = 128 := h0 ▸ hs0
  clear hspan h0 hs0
  have hrt : (rt.toList == rt.toList) = true := by rw [eqs]; exact decide_eq_true rfl
  go_enter Tryd.func105, Tryd.ntmps105
  go_wp2_with fail
  refine hck.mono ?_
  rintro e w1 ⟨rfl, hb1⟩
  clear hck
  have hn64 : ¬ (n : Int) > 64 := by omega
  have hrd : Calls Tryd.prog 116 #[.pointer (some ⟨b, 0, none⟩), .int .i64 0] w1 fun e w' => e = .returned (.agg (u8s (ckSec n (bts rt))).toArray) ∧ Below w1.heap.size w1 w' := by
    have := read_any b fv D 0 w1 (HD.out.1.below hb1) (by omega)
    rw [HP.out.2] at this
    exact this
  have B1 : Aside (Below w.heap.size w w1) := hb1
  go_wp2_with fail
  refine hrd.mono ?_
  rintro e w2 ⟨rfl, hb2⟩
  have B2 : Aside (Below w.heap.size w w2) := B1.out.trans (hb2.mono B1.out.size)
  have hcp := checkpoint_any n rt w2 (by omega) (by omega)
  clear hrd hb1 hb2
  generalize ckSec n (bts rt) = s at *
  go_wp2_with fail
  refine hcp.mono ?_
  rintro e w3 ⟨rfl, hb3⟩
  have B3 : Aside (Below w.heap.size w w3) := B2.out.trans (hb3.mono B2.out.size)
  clear hcp hb3
  have heq := fun wx => equal_sec wx hcs hcs
  rw [show decide (s = s) = true by simp] at heq
  generalize (u8s s).toArray = arr at *
  have htl := tilesHold_any b n fv D w3 (HD.out.1.below B3.out) (by omega) (table_at B3.out HD.out.2.2.1 HD.out.2.1) (Nat.lt_of_lt_of_le HD.out.2.2.1 B3.out.size)
  go_wp2_with fail
  refine htl.mono ?_
  rintro e w4 ⟨r, rfl, hr, hb4⟩
  clear htl
  have hr1 : r = true := hr.2 HD.out.2.2.2.1
  subst hr1
  clear hr
  have B4 : Aside (Below w.heap.size w w4) := B3.out.trans (hb4.mono B3.out.size)
  have hsp : Calls Tryd.prog 98 #[.pointer (some ⟨b, 0, none⟩), .int .i64 0, .int .i64 (n : Int)] w4 fun e w' => e = .returned (.string rt) ∧ Below w4.heap.size w4 w' := by
    have := span_any b 0 n fv D w4 (HD.out.1.below B4.out) (by omega) (table_at B4.out HD.out.2.2.1 HD.out.2.1) (Nat.lt_of_lt_of_le HD.out.2.2.1 B4.out.size)
    rw [HP.out.1, Nat.zero_add] at this
    exact this
  clear hb4
  go_wp2_with fail
  refine hsp.mono ?_
  rintro e w5 ⟨rfl, hb5⟩
  clear hsp
  have B5 : Aside (Below w.heap.size w w5) := B4.out.trans (hb5.mono B4.out.size)
  have hft := fits_none b (n : Int) fv D w5 (HD.out.1.below B5.out) HD.out.2.2.2.2
  clear hb5
  go_wp2_with fail
  refine hft.mono ?_
  rintro e w6 ⟨rfl, hb6⟩
  have B6 : Aside (Below w.heap.size w w6) := B5.out.trans (hb6.mono B5.out.size)
  clear hft hb6
  go_wp2
  go_ret
  exact ⟨rfl, B6.out⟩
end Go.Proofs.YtlhohmlpcgbliaaDoor
namespace Go.Proofs.YtlhohmlpcgbliaaDoor
set_option maxRecDepth 100000
open Go.RowKit
attribute [local go_sem ↓] Go.wp_at_zero Go.wp_at_succ

set_option maxHeartbeats 2000000 in
theorem storeOpen_ok (s : ByteArray) (E : List ByteArray) (w : World) (hs : s.size = 25600) (hH : Holds (Dk.of (bts s)) E) (ht : Table w) (hg : 2 < w.heap.size) :
    Calls Tryd.prog 83 #[.string s] w fun e w' => ∃ b, e = .returned (.tuple #[.agg #[.pointer (some ⟨b, 0, none⟩)], .bool true]) ∧ w.heap.size ≤ b ∧ DiskAt w' b (.slice none 0 0) (Dk.of (bts s)) ∧ Below w.heap.size w w' := by
  have hb0 : Below w.heap.size w (w.alloc (.cells #[.pointer none] 97)) := (Below.refl _ _).alloc (Nat.le_refl _) _
  have hB0 : Blk (w.alloc (.cells #[.pointer none] 97)) w.heap.size 97 [.pointer none] := Blk.new w _ _
  have hop := open_any s (w.alloc (.cells #[.pointer none] 97)) hs
  have HT : Aside (Table w ∧ 2 < w.heap.size ∧ Holds (Dk.of (bts s)) E) := ⟨ht, hg, hH⟩
  clear ht hg hH hs
  generalize Dk.of (bts s) = D at *
  go_enter Tryd.func83, Tryd.ntmps83
  go_wp2_with fail
  have hs0 : w.heap.size < (w.alloc (.cells #[.pointer none] 97)).heap.size := by simp
  generalize w.alloc (.cells #[.pointer none] 97) = w0 at *
  refine hop.mono ?_
  rintro e w1 ⟨rfl, hd1, hb1⟩
  clear hop
  have hw1 : Below w.heap.size w w1 := hb0.trans (hb1.mono hb0.size)
  have hB1 := hB0.below hb1 hs0
  have hso := sound_ok w0.heap.size _ D E w1 hd1 HT.out.2.2 (table_at hw1 HT.out.2.1 HT.out.1) (Nat.lt_of_lt_of_le HT.out.2.1 hw1.size)
  go_wp2_with fail
  refine hso.mono ?_
  rintro e w2 ⟨rfl, hb2⟩
  clear hso
  have hw2 := hw1.trans (hb2.mono hw1.size)
  have hB2 := hB1.below hb2 hB1.lt
  have hd2 := hd1.below hb2
  have hc0 := hB2.cell 0
  have hf0 := hB2.frozen 0
  simp only [List.getElem?_cons_zero] at hc0
  have HB := hB2.set 0 (.pointer (some ⟨w0.heap.size, 0, none⟩))
  simp only [List.set_cons_zero] at HB
  have Hb : Below w.heap.size w (w2.setCell ⟨w.heap.size, 0, none⟩ (.pointer (some ⟨w0.heap.size, 0, none⟩))) := hw2.setCell (Nat.le_refl _) _
  have hd6 : DiskAt (w2.setCell ⟨w.heap.size, 0, none⟩ (.pointer (some ⟨w0.heap.size, 0, none⟩))) w0.heap.size (.slice none 0 0) D := ⟨hd2.ok, hd2.blk.set_other _ _ (by simp only; omega), ownsRow_setCell_other hd2.row (by simp [Value.ownBlock]) _, hd2.apart⟩
  go_wp2_with fail
  exact bodyPost_ret (results_ct Tryd.results83 (by rfl) (by rfl) HB.range Tryd.underlying97 rfl infoSto) rfl ⟨w0.heap.size, rfl, by omega, hd6, Hb⟩

set_option maxHeartbeats 2000000 in
theorem groveOpen_ok (s : ByteArray) (E : List ByteArray) (w : World) (hs : s.size = 25600) (hH : Holds (Dk.of (bts s)) E) (ht : Table w) (hg : 2 < w.heap.size) :
    Calls Tryd.prog 56 #[.string s] w fun e w' => ∃ a b, e = .returned (.tuple #[.pointer (some ⟨a, 0, none⟩), .int .i64 0]) ∧ w.heap.size ≤ a ∧ w.heap.size ≤ b ∧ LogAt w' a b (.slice none 0 0) (.slice none 0 0) (Dk.of (bts s)) [] ∧ Below w.heap.size w w' := by
  have hop := fun wx (hx : Below w.heap.size w wx) => storeOpen_ok s E wx hs hH (table_at hx hg ht) (Nat.lt_of_lt_of_le hg hx.size)
  clear ht hg hH hs
  generalize Dk.of (bts s) = D at *
  have hop0 := hop w (Below.refl _ _)
  clear hop
  go_enter Tryd.func56, Tryd.ntmps56
  go_wp2_with fail
  refine hop0.mono ?_
  rintro e w1 ⟨b, rfl, hb, hd1, hb1⟩
  clear hop0
  have hb2 : Below w.heap.size w (w1.alloc (.cells #[.pointer (some ⟨b, 0, none⟩)] 97)) := hb1.alloc hb1.size _
  have hB2 : Blk (w1.alloc (.cells #[.pointer (some ⟨b, 0, none⟩)] 97)) w1.heap.size 97 [.pointer (some ⟨b, 0, none⟩)] := Blk.new w1 _ _
  have hc2 := hB2.cell 0
  simp only [List.getElem?_cons_zero] at hc2
  have hd3 := (hd1.alloc (.cells #[.pointer (some ⟨b, 0, none⟩)] 97)).alloc (.cells #[.pointer (some ⟨b, 0, none⟩), .slice none 0 0] 99)
  have hA : Blk ((w1.alloc (.cells #[.pointer (some ⟨b, 0, none⟩)] 97)).alloc (.cells #[.pointer (some ⟨b, 0, none⟩), .slice none 0 0] 99)) (w1.heap.size + 1) 99 [.pointer (some ⟨b, 0, none⟩), .slice none 0 0] := by
    have := Blk.new (w1.alloc (.cells #[.pointer (some ⟨b, 0, none⟩)] 97)) 99 [.pointer (some ⟨b, 0, none⟩), .slice none 0 0]
    rw [show (w1.alloc (.cells #[.pointer (some ⟨b, 0, none⟩)] 97)).heap.size = w1.heap.size + 1 by simp] at this
    exact this
  have hlt := hd1.lt
  have hs1 := hb1.size
  go_wp2
  go_ret2
  exact ⟨w1.heap.size + 1, b, rfl, by omega, hb, ⟨hd3, hA, World.ownsRow_nil _ _ _ _, by omega, by simp [Value.ownBlock], by simp [Value.ownBlock], by simp [Value.ownBlock], fun k hk => by simp [Value.ownBlock] at hk⟩, hb2.alloc hb2.size _⟩

theorem bytes_range (w : World) (s : ByteArray) : (Lib.bytesWorld w 5 s).rangeAt w.heap.size 0 (u8s (bts s)) := by
  intro j v hv
  have hj : j < s.size := by
    have := (List.getElem?_eq_some_iff.1 hv).1
    rwa [u8s_length, bts_length] at this
  have h1 := u8s_get (bts s) j (by rw [bts_length]; exact hj)
  rw [h1] at hv
  injection hv with hv
  subst hv
  rw [Nat.zero_add, Lib.bytesWorld_cell _ _ _ _ hj]
  simp [bts, List.getD_eq_getElem?_getD, hj]

set_option maxHeartbeats 2000000 in
theorem copied_ok {w : World} {a b : Nat} {fv wv : Value} {D : Dk} {W : List ByteArray} {E : List ByteArray} (h : LogAt w a b fv wv D W) (hH : Holds (Dk.of D.las.flatten) E) (ht : Table w) (hg : 2 < w.heap.size) :
    Calls Tryd.prog 43 #[.pointer (some ⟨a, 0, none⟩)] w fun e w' => ∃ a' b', e = .returned (.pointer (some ⟨a', 0, none⟩)) ∧ w.heap.size ≤ a' ∧ w.heap.size ≤ b' ∧ LogAt w' a' b' (.slice none 0 0) (.slice none 0 0) (Dk.of D.las.flatten) [] ∧ Below w.heap.size w w' := by
  have hby := logBytes_any h
  have hbf := bts_flat h.disk.ok
  have hsz : (strOf D.las.flatten).size = 25600 := by rw [strOf_size (flat_byt h.disk.ok), h.disk.ok.flat]
  rw [← hbf] at hH ⊢
  have hop := fun wx (hx : Below w.heap.size w wx) => groveOpen_ok (strOf D.las.flatten) E wx hsz hH (table_at hx hg ht) (Nat.lt_of_lt_of_le hg hx.size)
  clear hH ht hg hbf
  generalize Dk.of (bts (strOf D.las.flatten)) = D' at *
  generalize strOf D.las.flatten = s at *
  go_enter Tryd.func43, Tryd.ntmps43
  go_wp2_with fail
  refine hby.mono ?_
  rintro e w1 ⟨rfl, hb1⟩
  have hcv := Lib.run_convert_string_bytes (P := Tryd.prog) w1 9 82 5 s Tryd.underlying9 Tryd.underlying82 Tryd.underlying5
  have hb2 : Below w.heap.size w (Lib.bytesWorld w1 5 s) := hb1.trans ((below_bytes w1 s).mono hb1.size)
  have hcb := convert_range (cap := grownCap w1 s.size 0 5) (bytes_range w1 s)
  rw [bts_length, strOf_bts] at hcb
  generalize grownCap w1 s.size 0 5 = cap at *
  generalize Lib.bytesWorld w1 5 s = w2 at *
  have hop2 := hop w2 hb2
  clear hby hop hsz
  go_wp2_with fail
  refine hop2.mono ?_
  rintro e w3 ⟨a', b', rfl, ha, hb, hL, hb3⟩
  clear hop2
  have hs2 := hb2.size
  go_wp2
  go_ret
  exact ⟨a', b', rfl, by omega, by omega, hL, hb2.trans (hb3.mono hb2.size)⟩
end Go.Proofs.YtlhohmlpcgbliaaDoor
namespace Go.Proofs.YtlhohmlpcgbliaaDoor
set_option maxRecDepth 100000
open Go.RowKit
attribute [local go_sem ↓] Go.wp_at_zero Go.wp_at_succ

/-- A function's code from a region on, wherever it stands. -/
def findD (n : Nat) : Code → Option Code
  | .seq a b => match a with
    | .region k ops d => if k = n then some (.seq (.region k ops d) b) else findD n b
    | a => (findD n a).or (findD n b)
  | .block _ c => findD n c
  | .loop c => findD n c
  | .scope c => findD n c
  | _ => none
def sfxD (f : Func) (n : Nat) : Code := (f.body.bind (findD n)).getD .skip

/-- What holds ahead of a round: d of the entries are in y, in k groups. -/
structure AlkI (w0 : World) (cb : Nat) (ts : List ByteArray) (g : Nat → Nat) (T : Dk) (d k o c ay az : Nat) (wr : World) : Prop where
  dle : d ≤ ts.length
  kd : k ≤ d
  cap : ts.length - d ≤ c
  sa : SA wr cb o (ts.drop d)
  bel : Below w0.heap.size w0 wr
  ex : ∃ (yb bz : Nat) (fvy fvz : Value) (Dy Dz Dx : Dk) (Ez : List ByteArray), LogAt wr ay yb fvy (.slice none 0 0) Dy [] ∧ Holds Dy (ts.take d) ∧ Same Dx Dy ∧ groF g (ts.length - k) k Dx (ts.drop d) = T ∧ LogAt wr az bz fvz (.slice none 0 0) Dz [] ∧ Holds Dz Ez ∧ Ez.length ≤ k ∧ Dis ay yb fvy.ownBlock none az bz fvz.ownBlock none ∧ (∀ j, Own ay yb fvy.ownBlock none j → w0.heap.size ≤ j) ∧ (∀ j, Own az bz fvz.ownBlock none j → w0.heap.size ≤ j)
theorem AlkI.copy {w0 : World} {cb : Nat} {ts : List ByteArray} {g : Nat → Nat} {T : Dk} {d k o c ay az : Nat} {wr : World} (h : AlkI w0 cb ts g T d k o c ay az wr) (ht : Table w0) (hg : 2 < w0.heap.size) :
    Calls Tryd.prog 43 #[.pointer (some ⟨ay, 0, none⟩)] wr fun e w' => ∃ a', e = .returned (.pointer (some ⟨a', 0, none⟩)) ∧ AlkI w0 cb ts g T d k o c a' az w' := by
  obtain ⟨yb, bz, fvy, fvz, Dy, Dz, Dx, Ez, hLy, hHy, hS, hT, hLz, hHz, hEz, hD, hoy, hoz⟩ := h.ex
  refine (copied_ok hLy hHy.again (table_at h.bel hg ht) (Nat.lt_of_lt_of_le hg h.bel.size)).mono ?_
  rintro e w' ⟨a', b', rfl, ha, hb, hL, hbl⟩
  have hsz := h.bel.size
  refine ⟨a', rfl, ⟨h.dle, h.kd, h.cap, h.sa.below hbl, h.bel.trans (hbl.mono hsz), b', bz, .slice none 0 0, fvz, Dk.of Dy.las.flatten, Dz, Dx, Ez, hL, hHy.again, hS.trans (Same.of hHy.nf hHy.ok hHy.fre), hT, hLz.below hbl, hHz, hEz, ?_, ?_, hoz⟩⟩
  · exact Dis.new ha hb (fun j hj => hLz.lt j hj)
  · intro j hj
    rcases hj with e | e | e | e
    · omega
    · omega
    · cases e
    · cases e

set_option maxHeartbeats 2000000 in
theorem al24_wp {c0 c1 c3 c4 c5 c6 c7 c8 c9 c10 c12 c13 c15 c16 c17 c18 c19 c20 c21 c22 c23 c24 c25 c26 c27 c28 c29 c30 c31 c32 c33 c34 c35 c36 c37 c38 c39 c40 c41 c42 c43 c44 c45 c46 c47 c48 c49 c50 c51 c52 c53 c54 c55 c56 c57 c58 c59 c60 c61 c62 c63 c64 c65 c66 c67 c68 c69 c70 c71 c72 c73 c74 c75 c76 c77 c78 c79 c80 c81 c82 c83 c84 c85 c86 c87 c88 c89 c90 c91 c92 c93 c94 c95 c96 c97 c98 c99 c100 c101 c102 c103 c104 c105 c106 : Value} (lv : Value) (cb : Nat) (ts : List ByteArray) (g : Nat → Nat) (T : Dk) (d k1 k o c ay az : Nat) (w0 w : World) (Q : Exit → Act → World → Prop) (h : AlkI w0 cb ts g T d k1 o c ay az w) (hR : RawI w0 lv) (ht : Table w0) (hg : 2 < w0.heap.size)
    (hQ : ∀ (u86 u87 u88 u89 u90 u91 u92 u93 u94 u95 u96 u97 u98 u99 u100 u101 : Value) (ay' : Nat) (w' : World), AlkI w0 cb ts g T d k1 o c ay' az w' → Q .normal ⟨#[c0, c1, lv, c3, c4, c5, c6, c7, c8, c9, c10, .pointer (some ⟨ay', 0, none⟩), c12, c13, .int .i64 (k : Int), c15, c16, c17, c18, c19, c20, c21, c22, c23, c24, c25, c26, c27, c28, c29, c30, c31, c32, c33, c34, c35, c36, c37, c38, c39, c40, c41, c42, c43, c44, c45, c46, c47, c48, c49, c50, c51, c52, c53, c54, c55, c56, c57, c58, c59, c60, c61, c62, c63, c64, c65, c66, c67, c68, c69, c70, c71, c72, c73, c74, c75, c76, c77, c78, c79, c80, c81, c82, c83, c84, c85, u86, u87, u88, u89, u90, u91, u92, u93, u94, u95, u96, u97, u98, u99, u100, u101, c102, c103, c104, c105, c106], []⟩ w') :
    Code.wp Tryd.prog (sfxD Tryd.f9 24) Q ⟨#[c0, c1, lv, c3, c4, c5, c6, c7, c8, c9, c10, .pointer (some ⟨ay, 0, none⟩), c12, c13, .int .i64 (k : Int), c15, c16, c17, c18, c19, c20, c21, c22, c23, c24, c25, c26, c27, c28, c29, c30, c31, c32, c33, c34, c35, c36, c37, c38, c39, c40, c41, c42, c43, c44, c45, c46, c47, c48, c49, c50, c51, c52, c53, c54, c55, c56, c57, c58, c59, c60, c61, c62, c63, c64, c65, c66, c67, c68, c69, c70, c71, c72, c73, c74, c75, c76, c77, c78, c79, c80, c81, c82, c83, c84, c85, c86, c87, c88, c89, c90, c91, c92, c93, c94, c95, c96, c97, c98, c99, c100, c101, c102, c103, c104, c105, c106], []⟩ w := by
  conv => arg 2; whnf
  obtain ⟨p, rn, rc, rfl, hraw⟩ := hR
  have hcp := h.copy ht hg
  have HI : Aside (AlkI w0 cb ts g T d k1 o c ay az w) := h
  have HQ : Aside (∀ (u86 u87 u88 u89 u90 u91 u92 u93 u94 u95 u96 u97 u98 u99 u100 u101 : Value) (ay' : Nat) (w' : World), AlkI w0 cb ts g T d k1 o c ay' az w' → Q .normal ⟨#[c0, c1, .slice p rn rc, c3, c4, c5, c6, c7, c8, c9, c10, .pointer (some ⟨ay', 0, none⟩), c12, c13, .int .i64 (k : Int), c15, c16, c17, c18, c19, c20, c21, c22, c23, c24, c25, c26, c27, c28, c29, c30, c31, c32, c33, c34, c35, c36, c37, c38, c39, c40, c41, c42, c43, c44, c45, c46, c47, c48, c49, c50, c51, c52, c53, c54, c55, c56, c57, c58, c59, c60, c61, c62, c63, c64, c65, c66, c67, c68, c69, c70, c71, c72, c73, c74, c75, c76, c77, c78, c79, c80, c81, c82, c83, c84, c85, u86, u87, u88, u89, u90, u91, u92, u93, u94, u95, u96, u97, u98, u99, u100, u101, c102, c103, c104, c105, c106], []⟩ w') := hQ
  clear h hQ ht hg
  by_cases hkr : k < rn
  · obtain ⟨gb, go', cv, rfl, hcell, hc1, hc2⟩ := hraw k hkr
    have hkr' : (k : Int) < (rn : Int) := by omega
    have hcell' : w.cell? ⟨gb, go' + k, none⟩ = some (.int .i64 cv) := by
      rw [HI.out.bel.cell (World.block_lt_of_cell? _ _ hcell)]; exact hcell
    clear hcell hraw
    cases hm : (cv.tmod 2 == 0) with
    | true =>
      go_wp2_with fail
      refine hcp.mono ?_
      rintro e w1 ⟨a', rfl, h1⟩
      have H1 : Aside (AlkI w0 cb ts g T d k1 o c a' az w1) := h1
      clear h1 hcp
      go_wp2
      exact HQ.out _ _ _ _ _ _ _ _ _ _ _ _ _ _ _ _ _ _ H1.out
    | false =>
      go_wp2
      exact HQ.out _ _ _ _ _ _ _ _ _ _ _ _ _ _ _ _ _ _ HI.out
  · have hkr' : ¬ (k : Int) < (rn : Int) := by omega
    clear hraw
    go_wp2
    exact HQ.out _ _ _ _ _ _ _ _ _ _ _ _ _ _ _ _ _ _ HI.out

/-- As AlkI, and n more wait in y. -/
structure AlkJ (w0 : World) (cb : Nat) (ts : List ByteArray) (g : Nat → Nat) (T : Dk) (d k e n o c ay az : Nat) (wr : World) : Prop where
  n1 : 1 ≤ n
  n12 : n ≤ 12
  dle : d + n ≤ ts.length
  kd : k ≤ d
  cap : ts.length - d ≤ c
  siz : ∀ s ∈ ts, s.size ≤ 40
  l64 : ts.length ≤ 64
  sa : SA wr cb o (ts.drop d)
  cbl : cb < w0.heap.size
  bel : Below w0.heap.size w0 wr
  ex : ∃ (yb bz : Nat) (fvy wvy fvz : Value) (Dy Dz Dx : Dk) (Ez : List ByteArray), LogAt wr ay yb fvy wvy Dy ((ts.drop d).take n) ∧ Holds Dy (ts.take d) ∧ Same Dx Dy ∧ groF g (ts.length - (k + 1)) (k + 1) (Dx.add ((ts.drop d).take n)) (ts.drop (d + n)) = T ∧ LogAt wr az bz fvz (.slice none 0 0) Dz [] ∧ Holds Dz Ez ∧ Ez.length ≤ e ∧ Dis ay yb fvy.ownBlock wvy.ownBlock az bz fvz.ownBlock none ∧ (∀ j, Own ay yb fvy.ownBlock wvy.ownBlock j → w0.heap.size ≤ j) ∧ (∀ j, Own az bz fvz.ownBlock none j → w0.heap.size ≤ j)
/-- y's Flush. -/
theorem AlkJ.flush {w0 : World} {cb : Nat} {ts : List ByteArray} {g : Nat → Nat} {T : Dk} {d k n o c ay az : Nat} {wr : World} (h : AlkJ w0 cb ts g T d k (k + 1) n o c ay az wr) (ht : Table w0) (hg : 2 < w0.heap.size) :
    Calls Tryd.prog 42 #[.pointer (some ⟨ay, 0, none⟩)] wr fun e w' => ∃ m, e = .returned (.tuple #[.int .i64 m, .int .i64 0]) ∧ AlkI w0 cb ts g T (d + n) (k + 1) (if c = n then o else o + n) (c - n) ay az w' := by
  obtain ⟨yb, bz, fvy, wvy, fvz, Dy, Dz, Dx, Ez, hLy, hHy, hS, hT, hLz, hHz, hEz, hD, hoy, hoz⟩ := h.ex
  have hd := h.dle
  have h64 := h.l64
  have hn1 := h.n1
  have hn2 := h.n12
  have hkd := h.kd
  have hcap := h.cap
  have hlen : ((ts.drop d).take n).length = n := by rw [List.length_take, List.length_drop]; omega
  have hz : ∀ s ∈ (ts.drop d).take n, s.size ≤ 40 := fun s hs => h.siz s (List.mem_of_mem_drop (List.mem_of_mem_take hs))
  have hN := hHy.ckN
  rw [List.length_take, Nat.min_eq_left (by omega)] at hN
  have hfd : Dy.flushed ((ts.drop d).take n) = Dy.add ((ts.drop d).take n) := by
    unfold Dk.flushed
    rw [if_neg (by rw [hlen]; omega)]
  have hH4 := add_spec hHy (W := (ts.drop d).take n) (by rw [hlen]; omega) hz (by rw [hlen, List.length_take]; omega)
  rw [show ts.take d ++ (ts.drop d).take n = ts.take (d + n) from (List.take_add ..).symm] at hH4
  refine (logFlush_any hLy hHy.nf.failed hHy.jn hz (by rw [hlen, hN]; omega) (by rw [hHy.fre]; simp) (env_of ht hg h.bel (hoy _ (.inr (.inl rfl))) (fun j hj => hoy j (.inr (.inr (.inl hj))))) (by rw [hfd]; exact hH4.nf.failed)).mono ?_
  rintro e w' ⟨rfl, fv', hL', hR'⟩
  rw [hfd] at hL'
  obtain ⟨hb4, hf4, _⟩ := FrL.below h.bel hR' (hoy _ (.inl rfl)) (hoy _ (.inr (.inl rfl))) (fun j hj => hoy j (.inr (.inr (.inl hj)))) (fun j hj => hoy j (.inr (.inr (.inr hj))))
  refine ⟨_, rfl, ⟨hd, by omega, by omega, ?_, hb4, yb, bz, fv', fvz, _, Dz, _, Ez, hL', hH4, hS.add _, hT, hLz.other hR' hD.symm, hHz, hEz, hD.step hR' (fun j hj => hLz.lt j hj), ?_, hoz⟩⟩
  · by_cases hj : n < ts.length - d
    · rw [if_neg (by omega)]
      have h1 : SA w' cb o (ts.drop d) := fun i s hs => by
        have h9 := h.sa i s hs
        rw [hb4.cell (p := ⟨cb, o + i, none⟩) h.cbl, ← h.bel.cell (p := ⟨cb, o + i, none⟩) h.cbl]; exact h9
      have := h1.drop n
      rw [List.drop_drop] at this
      exact this
    · rw [List.drop_eq_nil_of_le (by omega)]
      intro i s hs
      simp at hs
  · intro j hj
    rcases hj with e | e | e | e
    · rw [e]; exact hoy _ (.inl rfl)
    · rw [e]; exact hoy _ (.inr (.inl rfl))
    · exact hf4 j e
    · cases e

set_option maxHeartbeats 2000000 in
theorem al22_wp {c0 c1 c3 c4 c5 c6 c7 c8 c9 c10 c12 c16 c17 c18 c19 c20 c21 c22 c23 c24 c25 c26 c27 c28 c29 c30 c31 c32 c33 c34 c35 c36 c37 c38 c39 c40 c41 c42 c43 c44 c45 c46 c47 c48 c49 c50 c51 c52 c53 c54 c55 c56 c57 c58 c59 c60 c61 c62 c63 c64 c65 c66 c67 c68 c69 c70 c71 c72 c73 c74 c75 c76 c77 c78 c79 c80 c81 c82 c83 c84 c85 c86 c87 c88 c89 c90 c91 c92 c93 c94 c95 c96 c97 c98 c99 c100 c101 c102 c103 c104 c105 c106 : Value} (lv : Value) (cb : Nat) (ts : List ByteArray) (g : Nat → Nat) (T : Dk) (d k n r o c ay az : Nat) (w0 w : World) (Q : Exit → Act → World → Prop) (h : AlkJ w0 cb ts g T d k (k + 1) n o c ay az w) (hr : r = ts.length - d) (hR : RawI w0 lv) (ht : Table w0) (hg : 2 < w0.heap.size)
    (hQ : ∀ (u81 u82 u83 u84 u85 u86 u87 u88 u89 u90 u91 u92 u93 u94 u95 u96 u97 u98 u99 u100 u101 : Value) (ay' : Nat) (w' : World), AlkI w0 cb ts g T (d + n) (k + 1) (if c = n then o else o + n) (c - n) ay' az w' → Q .normal ⟨#[c0, c1, lv, c3, c4, c5, c6, c7, c8, c9, c10, .pointer (some ⟨ay', 0, none⟩), c12, .slice (some ⟨cb, if c = n then o else o + n, none⟩) (r - n) (c - n), .int .i64 (k : Int), .int .i64 (n : Int), c16, c17, c18, c19, c20, c21, c22, c23, c24, c25, c26, c27, c28, c29, c30, c31, c32, c33, c34, c35, c36, c37, c38, c39, c40, c41, c42, c43, c44, c45, c46, c47, c48, c49, c50, c51, c52, c53, c54, c55, c56, c57, c58, c59, c60, c61, c62, c63, c64, c65, c66, c67, c68, c69, c70, c71, c72, c73, c74, c75, c76, c77, c78, c79, c80, u81, u82, u83, u84, u85, u86, u87, u88, u89, u90, u91, u92, u93, u94, u95, u96, u97, u98, u99, u100, u101, c102, c103, c104, c105, c106], []⟩ w') :
    Code.wp Tryd.prog (sfxD Tryd.f9 22) Q ⟨#[c0, c1, lv, c3, c4, c5, c6, c7, c8, c9, c10, .pointer (some ⟨ay, 0, none⟩), c12, .slice (some ⟨cb, o, none⟩) r c, .int .i64 (k : Int), .int .i64 (n : Int), c16, c17, c18, c19, c20, c21, c22, c23, c24, c25, c26, c27, c28, c29, c30, c31, c32, c33, c34, c35, c36, c37, c38, c39, c40, c41, c42, c43, c44, c45, c46, c47, c48, c49, c50, c51, c52, c53, c54, c55, c56, c57, c58, c59, c60, c61, c62, c63, c64, c65, c66, c67, c68, c69, c70, c71, c72, c73, c74, c75, c76, c77, c78, c79, c80, c81, c82, c83, c84, c85, c86, c87, c88, c89, c90, c91, c92, c93, c94, c95, c96, c97, c98, c99, c100, c101, c102, c103, c104, c105, c106], []⟩ w := by
  conv => arg 2; whnf
  have hfl := h.flush ht hg
  have hdl := h.dle
  have hsl := fun wx => slice_tl wx cb o r c n (by omega) (by rw [hr]; exact h.cap)
  generalize (if c = n then o else o + n) = o7 at *
  have HP : Aside (RawI w0 lv ∧ Table w0 ∧ 2 < w0.heap.size) := ⟨hR, ht, hg⟩
  have HQ : Aside (∀ (u81 u82 u83 u84 u85 u86 u87 u88 u89 u90 u91 u92 u93 u94 u95 u96 u97 u98 u99 u100 u101 : Value) (ay' : Nat) (w' : World), AlkI w0 cb ts g T (d + n) (k + 1) o7 (c - n) ay' az w' → Q .normal ⟨#[c0, c1, lv, c3, c4, c5, c6, c7, c8, c9, c10, .pointer (some ⟨ay', 0, none⟩), c12, .slice (some ⟨cb, o7, none⟩) (r - n) (c - n), .int .i64 (k : Int), .int .i64 (n : Int), c16, c17, c18, c19, c20, c21, c22, c23, c24, c25, c26, c27, c28, c29, c30, c31, c32, c33, c34, c35, c36, c37, c38, c39, c40, c41, c42, c43, c44, c45, c46, c47, c48, c49, c50, c51, c52, c53, c54, c55, c56, c57, c58, c59, c60, c61, c62, c63, c64, c65, c66, c67, c68, c69, c70, c71, c72, c73, c74, c75, c76, c77, c78, c79, c80, u81, u82, u83, u84, u85, u86, u87, u88, u89, u90, u91, u92, u93, u94, u95, u96, u97, u98, u99, u100, u101, c102, c103, c104, c105, c106], []⟩ w') := hQ
  clear h hQ hR ht hg hdl hr
  refine wp_seq_k ?_
  intro K hK
  have HK : Aside (∀ a w, _ → K a w) := hK
  clear hK
  go_wp2_with fail
  refine hfl.mono ?_
  rintro e w1 ⟨m, rfl, h1⟩
  have H1 : Aside (AlkI w0 cb ts g T (d + n) (k + 1) o7 (c - n) ay az w1) := h1
  clear h1 hfl
  go_wp2
  refine HK.out _ _ ?_
  clear HK
  refine wp_seq_k ?_
  intro K hK
  have HK : Aside (∀ a w, _ → K a w) := hK
  clear hK
  go_wp2
  refine HK.out _ _ ?_
  refine al24_wp lv cb ts g T (d + n) (k + 1) k o7 (c - n) ay az w0 w1 Q H1.out HP.out.1 HP.out.2.1 HP.out.2.2 ?_
  intro u86 u87 u88 u89 u90 u91 u92 u93 u94 u95 u96 u97 u98 u99 u100 u101 ay' w' h2
  exact HQ.out _ _ _ _ _ _ _ _ _ _ _ _ _ _ _ _ _ _ _ _ _ _ _ h2
end Go.Proofs.YtlhohmlpcgbliaaDoor
namespace Go.Proofs.YtlhohmlpcgbliaaDoor
set_option maxRecDepth 100000
open Go.RowKit
attribute [local go_sem ↓] Go.wp_at_zero Go.wp_at_succ

theorem AlkJ.more {w0 : World} {cb : Nat} {ts : List ByteArray} {g : Nat → Nat} {T : Dk} {d k e n o c ay az : Nat} {wr : World} (h : AlkJ w0 cb ts g T d k e n o c ay az wr) {e' : Nat} (he : e ≤ e') : AlkJ w0 cb ts g T d k e' n o c ay az wr := by
  obtain ⟨yb, bz, fvy, wvy, fvz, Dy, Dz, Dx, Ez, hLy, hHy, hS, hT, hLz, hHz, hEz, hD, hoy, hoz⟩ := h.ex
  exact ⟨h.n1, h.n12, h.dle, h.kd, h.cap, h.siz, h.l64, h.sa, h.cbl, h.bel, yb, bz, fvy, wvy, fvz, Dy, Dz, Dx, Ez, hLy, hHy, hS, hT, hLz, hHz, Nat.le_trans hEz he, hD, hoy, hoz⟩
theorem AlkJ.below {w0 : World} {cb : Nat} {ts : List ByteArray} {g : Nat → Nat} {T : Dk} {d k e n o c ay az : Nat} {wr w' : World} (h : AlkJ w0 cb ts g T d k e n o c ay az wr) (hb : Below wr.heap.size wr w') : AlkJ w0 cb ts g T d k e n o c ay az w' := by
  obtain ⟨yb, bz, fvy, wvy, fvz, Dy, Dz, Dx, Ez, hLy, hHy, hS, hT, hLz, hHz, hEz, hD, hoy, hoz⟩ := h.ex
  exact ⟨h.n1, h.n12, h.dle, h.kd, h.cap, h.siz, h.l64, h.sa.below hb, h.cbl, h.bel.trans (hb.mono h.bel.size), yb, bz, fvy, wvy, fvz, Dy, Dz, Dx, Ez, hLy.below hb, hHy, hS, hT, hLz.below hb, hHz, hEz, hD, hoy, hoz⟩
/-- y's Submit. -/
theorem AlkI.submit {w0 : World} {cb : Nat} {ts : List ByteArray} {g : Nat → Nat} {T : Dk} {d k o c ay az : Nat} {wr : World} (h : AlkI w0 cb ts g T d k o c ay az wr) (hd : d < ts.length) {n : Nat} (hn : n = min (g k) (ts.length - d)) (hg1 : 1 ≤ g k) (hg12 : g k ≤ 12) (hsz : ∀ s ∈ ts, s.size ≤ 40) (h64 : ts.length ≤ 64) (hcb : cb < w0.heap.size) :
    Calls Tryd.prog 40 #[.pointer (some ⟨ay, 0, none⟩), .slice (some ⟨cb, o, none⟩) n c] wr fun e w' => e = .returned (.int .i64 0) ∧ AlkJ w0 cb ts g T d k k n o c ay az w' := by
  obtain ⟨yb, bz, fvy, fvz, Dy, Dz, Dx, Ez, hLy, hHy, hS, hT, hLz, hHz, hEz, hD, hoy, hoz⟩ := h.ex
  have hkd := h.kd
  have hlen : ((ts.drop d).take n).length = n := by rw [List.length_take, List.length_drop]; omega
  have hN := hHy.ckN
  rw [List.length_take, Nat.min_eq_left (by omega)] at hN
  have hs := submit_ok hLy hHy.nf.failed hHy.jn cb o c ((ts.drop d).take n) (h.sa.take _) (Nat.lt_of_lt_of_le hcb h.bel.size) (fun e => by have := hoy _ (.inl rfl); omega) (fun e => by have := hoy _ (.inr (.inl rfl)); omega) (fun e => by have := hoy _ (.inr (.inr (.inl e))); omega) (by simp [Value.ownBlock]) (fun s hs => hsz s (List.mem_of_mem_drop (List.mem_of_mem_take hs))) (by rw [hlen]; simp <;> omega) (by rw [hlen, hN]; simp; omega)
  rw [hlen, List.nil_append] at hs
  refine hs.mono ?_
  rintro e w' ⟨rfl, wv', hL', hR'⟩
  obtain ⟨hb4, hf4, hw4⟩ := FrL.below h.bel hR' (hoy _ (.inl rfl)) (hoy _ (.inr (.inl rfl))) (fun j hj => hoy j (.inr (.inr (.inl hj)))) (fun j hj => by simp [Value.ownBlock] at hj)
  refine ⟨rfl, ⟨by omega, by omega, by omega, hkd, h.cap, hsz, h64, ?_, hcb, hb4, yb, bz, fvy, wv', fvz, Dy, Dz, Dx, Ez, hL', hHy, hS, ?_, hLz.other hR' hD.symm, hHz, hEz, hD.step hR' (fun j hj => hLz.lt j hj), ?_, hoz⟩⟩
  · intro i s hi
    have h9 := h.sa i s hi
    rw [hb4.cell (p := ⟨cb, o + i, none⟩) hcb, ← h.bel.cell (p := ⟨cb, o + i, none⟩) hcb]; exact h9
  · rw [← groF_step hkd hd hn]; exact hT
  · intro j hj
    rcases hj with e | e | e | e
    · rw [e]; exact hoy _ (.inl rfl)
    · rw [e]; exact hoy _ (.inr (.inl rfl))
    · exact hf4 j e
    · exact hw4 j e
/-- As AlkJ, and one waits in z. -/
structure AlkZ (w0 : World) (cb : Nat) (ts : List ByteArray) (g : Nat → Nat) (T : Dk) (d k n o c ay az : Nat) (wr : World) : Prop where
  n1 : 1 ≤ n
  n12 : n ≤ 12
  dle : d + n ≤ ts.length
  kd : k ≤ d
  cap : ts.length - d ≤ c
  siz : ∀ s ∈ ts, s.size ≤ 40
  l64 : ts.length ≤ 64
  sa : SA wr cb o (ts.drop d)
  cbl : cb < w0.heap.size
  bel : Below w0.heap.size w0 wr
  ex : ∃ (yb bz : Nat) (fvy wvy fvz wvz : Value) (Dy Dz Dx : Dk) (Ez : List ByteArray) (x : ByteArray), LogAt wr ay yb fvy wvy Dy ((ts.drop d).take n) ∧ Holds Dy (ts.take d) ∧ Same Dx Dy ∧ groF g (ts.length - (k + 1)) (k + 1) (Dx.add ((ts.drop d).take n)) (ts.drop (d + n)) = T ∧ LogAt wr az bz fvz wvz Dz [x] ∧ x.size ≤ 40 ∧ Holds Dz Ez ∧ Ez.length ≤ k ∧ Dis ay yb fvy.ownBlock wvy.ownBlock az bz fvz.ownBlock wvz.ownBlock ∧ (∀ j, Own ay yb fvy.ownBlock wvy.ownBlock j → w0.heap.size ≤ j) ∧ (∀ j, Own az bz fvz.ownBlock wvz.ownBlock j → w0.heap.size ≤ j)
theorem AlkJ.zsub {w0 : World} {cb : Nat} {ts : List ByteArray} {g : Nat → Nat} {T : Dk} {d k n o c ay az : Nat} {wr : World} (h : AlkJ w0 cb ts g T d k k n o c ay az wr) {tb : Nat} {x : ByteArray} (hx : x.size ≤ 40) (hB : Blk (wr.alloc (.cells #[.string x] 9)) tb 9 [.string x]) (htb : tb = wr.heap.size) :
    Calls Tryd.prog 40 #[.pointer (some ⟨az, 0, none⟩), .slice (some ⟨tb, 0, none⟩) 1 1] (wr.alloc (.cells #[.string x] 9)) fun e w' => e = .returned (.int .i64 0) ∧ AlkZ w0 cb ts g T d k n o c ay az w' := by
  have hal : Below wr.heap.size wr (wr.alloc (.cells #[.string x] 9)) := (Below.refl _ _).alloc (Nat.le_refl _) _
  have hlz : ∃ (yb bz : Nat) (fvy wvy fvz : Value) (Dy Dz Dx : Dk) (Ez : List ByteArray), LogAt wr ay yb fvy wvy Dy ((ts.drop d).take n) ∧ Holds Dy (ts.take d) ∧ Same Dx Dy ∧ groF g (ts.length - (k + 1)) (k + 1) (Dx.add ((ts.drop d).take n)) (ts.drop (d + n)) = T ∧ LogAt wr az bz fvz (.slice none 0 0) Dz [] ∧ Holds Dz Ez ∧ Ez.length ≤ k ∧ Dis ay yb fvy.ownBlock wvy.ownBlock az bz fvz.ownBlock none ∧ (∀ j, Own ay yb fvy.ownBlock wvy.ownBlock j → w0.heap.size ≤ j) ∧ (∀ j, Own az bz fvz.ownBlock none j → w0.heap.size ≤ j) := h.ex
  obtain ⟨yb, bz, fvy, wvy, fvz, Dy, Dz, Dx, Ez, hLy, hHy, hS, hT, hLz, hHz, hEz, hD, hoy, hoz⟩ := hlz
  have hltz := hLz.lt
  have hd := h.dle
  have h64 := h.l64
  have hn1 := h.n1
  have hkd := h.kd
  have hbel := h.bel.trans (hal.mono h.bel.size)
  have hLy1 := hLy.below hal
  have hLz1 := hLz.below hal
  have hsa1 := h.sa.below hal
  have hN := hHz.ckN
  have hS1 : SA (wr.alloc (.cells #[.string x] 9)) tb 0 [x] := SA.of_blk (ss := [x]) hB
  generalize wr.alloc (.cells #[.string x] 9) = w1 at *
  have hs := submit_ok hLz1 hHz.nf.failed hHz.jn tb 0 1 [x] hS1 hB.lt (fun e => by have := hltz _ (.inl rfl); omega) (fun e => by have := hltz _ (.inr (.inl rfl)); omega) (fun e => by have := hltz _ (.inr (.inr (.inl e))); omega) (by simp [Value.ownBlock]) (fun s hs => by rw [List.mem_singleton.1 hs]; exact hx) (by simp) (by rw [hN]; simp; omega)
  rw [List.nil_append] at hs
  refine hs.mono ?_
  rintro e w' ⟨rfl, wv', hL', hR'⟩
  obtain ⟨hb4, hf4, hw4⟩ := FrL.below hbel hR' (hoz _ (.inl rfl)) (hoz _ (.inr (.inl rfl))) (fun j hj => hoz j (.inr (.inr (.inl hj)))) (fun j hj => by simp [Value.ownBlock] at hj)
  refine ⟨rfl, ⟨h.n1, h.n12, hd, hkd, h.cap, h.siz, h64, ?_, h.cbl, hb4, yb, bz, fvy, wvy, fvz, wv', Dy, Dz, Dx, Ez, x, hLy1.other hR' hD, hHy, hS, hT, hL', hx, hHz, hEz, (hD.symm.step hR' (fun j hj => hLy1.lt j hj)).symm, hoy, ?_⟩⟩
  · intro i s hi
    have h9 := h.sa i s hi
    rw [hb4.cell (p := ⟨cb, o + i, none⟩) h.cbl, ← h.bel.cell (p := ⟨cb, o + i, none⟩) h.cbl]; exact h9
  · intro j hj
    rcases hj with e | e | e | e
    · rw [e]; exact hoz _ (.inl rfl)
    · rw [e]; exact hoz _ (.inr (.inl rfl))
    · exact hf4 j e
    · exact hw4 j e
theorem AlkZ.zflush {w0 : World} {cb : Nat} {ts : List ByteArray} {g : Nat → Nat} {T : Dk} {d k n o c ay az : Nat} {wr : World} (h : AlkZ w0 cb ts g T d k n o c ay az wr) (ht : Table w0) (hg : 2 < w0.heap.size) :
    Calls Tryd.prog 42 #[.pointer (some ⟨az, 0, none⟩)] wr fun e w' => ∃ m, e = .returned (.tuple #[.int .i64 m, .int .i64 0]) ∧ AlkJ w0 cb ts g T d k (k + 1) n o c ay az w' := by
  obtain ⟨yb, bz, fvy, wvy, fvz, wvz, Dy, Dz, Dx, Ez, x, hLy, hHy, hS, hT, hLz, hx, hHz, hEz, hD, hoy, hoz⟩ := h.ex
  have hd := h.dle
  have h64 := h.l64
  have hn1 := h.n1
  have hkd := h.kd
  have hN := hHz.ckN
  have hz : ∀ s ∈ [x], s.size ≤ 40 := fun s hs => by rw [List.mem_singleton.1 hs]; exact hx
  have hfd : Dz.flushed [x] = Dz.add [x] := by
    unfold Dk.flushed
    rw [if_neg (by simp)]
  have hH4 := add_spec hHz (W := [x]) (by simp) hz (by simp; omega)
  refine (logFlush_any hLz hHz.nf.failed hHz.jn hz (by rw [hN]; simp; omega) (by rw [hHz.fre]; simp) (env_of ht hg h.bel (hoz _ (.inr (.inl rfl))) (fun j hj => hoz j (.inr (.inr (.inl hj))))) (by rw [hfd]; exact hH4.nf.failed)).mono ?_
  rintro e w' ⟨rfl, fv', hL', hR'⟩
  rw [hfd] at hL'
  obtain ⟨hb4, hf4, _⟩ := FrL.below h.bel hR' (hoz _ (.inl rfl)) (hoz _ (.inr (.inl rfl))) (fun j hj => hoz j (.inr (.inr (.inl hj)))) (fun j hj => hoz j (.inr (.inr (.inr hj))))
  refine ⟨_, rfl, ⟨h.n1, h.n12, hd, hkd, h.cap, h.siz, h64, ?_, h.cbl, hb4, yb, bz, fvy, wvy, fv', Dy, _, Dx, _, hLy.other hR' hD, hHy, hS, hT, hL', hH4, by simp; omega, (hD.symm.step hR' (fun j hj => hLy.lt j hj)).symm, hoy, ?_⟩⟩
  · intro i s hi
    have h9 := h.sa i s hi
    rw [hb4.cell (p := ⟨cb, o + i, none⟩) h.cbl, ← h.bel.cell (p := ⟨cb, o + i, none⟩) h.cbl]; exact h9
  · intro j hj
    rcases hj with e | e | e | e
    · rw [e]; exact hoz _ (.inl rfl)
    · rw [e]; exact hoz _ (.inr (.inl rfl))
    · exact hf4 j e
    · cases e

set_option maxHeartbeats 2000000 in
theorem al18_wp {c0 c1 c4 c5 c6 c7 c8 c9 c10 c16 c17 c18 c19 c20 c21 c22 c23 c24 c25 c26 c27 c28 c29 c30 c31 c32 c33 c34 c35 c36 c37 c38 c39 c40 c41 c42 c43 c44 c45 c46 c47 c48 c49 c50 c51 c52 c53 c54 c55 c56 c57 c58 c59 c60 c61 c62 c63 c64 c65 c66 c67 c68 c69 c70 c71 c72 c73 c74 c75 c76 c77 c78 c79 c80 c81 c82 c83 c84 c85 c86 c87 c88 c89 c90 c91 c92 c93 c94 c95 c96 c97 c98 c99 c100 c101 c102 c103 c104 c105 c106 : Value} (lv ov : Value) (os : List ByteArray) (cb : Nat) (ts : List ByteArray) (g : Nat → Nat) (T : Dk) (d k n r o c ay az : Nat) (w0 w : World) (Q : Exit → Act → World → Prop) (h : AlkI w0 cb ts g T d k o c ay az w) (hr : r = ts.length - d) (hd : d < ts.length) (hn : n = min (g k) r) (hg1 : 1 ≤ g k) (hg12 : g k ≤ 12) (hsz : ∀ s ∈ ts, s.size ≤ 40) (h64 : ts.length ≤ 64) (hcb : cb < w0.heap.size)
    (hR : RawI w0 lv) (hO : Strs w0 ov os) (hoz : ∀ s ∈ os, s.size ≤ 140737488355328) (ht : Table w0) (hg : 2 < w0.heap.size)
    (hQ : ∀ (u62 u63 u64 u65 u66 u67 u68 u69 u70 u71 u72 u73 u74 u75 u76 u77 u78 u79 u80 u81 u82 u83 u84 u85 u86 u87 u88 u89 u90 u91 u92 u93 u94 u95 u96 u97 u98 u99 u100 u101 : Value) (ay' : Nat) (w' : World), AlkI w0 cb ts g T (d + n) (k + 1) (if c = n then o else o + n) (c - n) ay' az w' → Q .normal ⟨#[c0, c1, lv, ov, c4, c5, c6, c7, c8, c9, c10, .pointer (some ⟨ay', 0, none⟩), .pointer (some ⟨az, 0, none⟩), .slice (some ⟨cb, if c = n then o else o + n, none⟩) (r - n) (c - n), .int .i64 (k : Int), .int .i64 (n : Int), c16, c17, c18, c19, c20, c21, c22, c23, c24, c25, c26, c27, c28, c29, c30, c31, c32, c33, c34, c35, c36, c37, c38, c39, c40, c41, c42, c43, c44, c45, c46, c47, c48, c49, c50, c51, c52, c53, c54, c55, c56, c57, c58, c59, c60, c61, u62, u63, u64, u65, u66, u67, u68, u69, u70, u71, u72, u73, u74, u75, u76, u77, u78, u79, u80, u81, u82, u83, u84, u85, u86, u87, u88, u89, u90, u91, u92, u93, u94, u95, u96, u97, u98, u99, u100, u101, c102, c103, c104, c105, c106], []⟩ w') :
    Code.wp Tryd.prog (sfxD Tryd.f9 18) Q ⟨#[c0, c1, lv, ov, c4, c5, c6, c7, c8, c9, c10, .pointer (some ⟨ay, 0, none⟩), .pointer (some ⟨az, 0, none⟩), .slice (some ⟨cb, o, none⟩) r c, .int .i64 (k : Int), .int .i64 (n : Int), c16, c17, c18, c19, c20, c21, c22, c23, c24, c25, c26, c27, c28, c29, c30, c31, c32, c33, c34, c35, c36, c37, c38, c39, c40, c41, c42, c43, c44, c45, c46, c47, c48, c49, c50, c51, c52, c53, c54, c55, c56, c57, c58, c59, c60, c61, c62, c63, c64, c65, c66, c67, c68, c69, c70, c71, c72, c73, c74, c75, c76, c77, c78, c79, c80, c81, c82, c83, c84, c85, c86, c87, c88, c89, c90, c91, c92, c93, c94, c95, c96, c97, c98, c99, c100, c101, c102, c103, c104, c105, c106], []⟩ w := by
  conv => arg 2; whnf
  have hcap := h.cap
  have hsub := h.submit hd (n := n) (by rw [hn, hr]) hg1 hg12 hsz h64 hcb
  have hsh := fun wx => slice_h wx cb o r c n (by omega)
  have HP : Aside (RawI w0 lv ∧ Table w0 ∧ 2 < w0.heap.size ∧ r = ts.length - d) := ⟨hR, ht, hg, hr⟩
  have HQ : Aside (∀ (u62 u63 u64 u65 u66 u67 u68 u69 u70 u71 u72 u73 u74 u75 u76 u77 u78 u79 u80 u81 u82 u83 u84 u85 u86 u87 u88 u89 u90 u91 u92 u93 u94 u95 u96 u97 u98 u99 u100 u101 : Value) (ay' : Nat) (w' : World), AlkI w0 cb ts g T (d + n) (k + 1) (if c = n then o else o + n) (c - n) ay' az w' → Q .normal ⟨#[c0, c1, lv, ov, c4, c5, c6, c7, c8, c9, c10, .pointer (some ⟨ay', 0, none⟩), .pointer (some ⟨az, 0, none⟩), .slice (some ⟨cb, if c = n then o else o + n, none⟩) (r - n) (c - n), .int .i64 (k : Int), .int .i64 (n : Int), c16, c17, c18, c19, c20, c21, c22, c23, c24, c25, c26, c27, c28, c29, c30, c31, c32, c33, c34, c35, c36, c37, c38, c39, c40, c41, c42, c43, c44, c45, c46, c47, c48, c49, c50, c51, c52, c53, c54, c55, c56, c57, c58, c59, c60, c61, u62, u63, u64, u65, u66, u67, u68, u69, u70, u71, u72, u73, u74, u75, u76, u77, u78, u79, u80, u81, u82, u83, u84, u85, u86, u87, u88, u89, u90, u91, u92, u93, u94, u95, u96, u97, u98, u99, u100, u101, c102, c103, c104, c105, c106], []⟩ w') := hQ
  clear h hQ hR ht hg hr hn hg1 hg12 hsz h64 hcb hcap hd
  obtain ⟨p, oc, rfl, hcell⟩ := hO
  refine wp_seq_k ?_
  intro K hK
  have HK : Aside (∀ a w, _ → K a w) := hK
  clear hK
  go_wp2_with fail
  refine hsub.mono ?_
  rintro e w1 ⟨rfl, h1⟩
  have H1 : Aside (AlkJ w0 cb ts g T d k k n o c ay az w1) := h1
  clear h1 hsub
  go_wp2
  refine HK.out _ _ ?_
  clear HK
  refine wp_seq_k ?_
  intro K hK
  have HK : Aside (∀ a w, _ → K a w) := hK
  clear hK
  by_cases hko : k < os.length
  · have hko' : (k : Int) < (os.length : Int) := by omega
    obtain ⟨s, hs⟩ : ∃ s, os[k]? = some s := ⟨_, List.getElem?_eq_getElem hko⟩
    obtain ⟨gb, go', rfl, hc⟩ := hcell k s hs
    have hc1 : w1.cell? ⟨gb, go' + k, none⟩ = some (.string s) := by
      rw [H1.out.bel.cell (World.block_lt_of_cell? _ _ hc)]; exact hc
    have hcut := cutE_any s w1 (hoz s (List.mem_of_getElem? hs))
    clear hc hcell hoz hs
    go_wp2_with fail
    refine hcut.mono ?_
    rintro e w2 ⟨x, rfl, hx, rfl⟩
    have hzs := H1.out.zsub hx (Blk.new w2 9 [.string x]) rfl
    clear hcut
    go_wp2_with fail
    refine hzs.mono ?_
    rintro e w3 ⟨rfl, h3⟩
    have hzf := h3.zflush HP.out.2.1 HP.out.2.2.1
    clear hzs h3
    go_wp2_with fail
    refine hzf.mono ?_
    rintro e w4 ⟨m, rfl, h4⟩
    have H4 : Aside (AlkJ w0 cb ts g T d k (k + 1) n o c ay az w4) := h4
    clear hzf h4
    go_wp2
    refine HK.out _ _ ?_
    refine al22_wp lv cb ts g T d k n r o c ay az w0 w4 Q H4.out HP.out.2.2.2 HP.out.1 HP.out.2.1 HP.out.2.2.1 ?_
    intro u81 u82 u83 u84 u85 u86 u87 u88 u89 u90 u91 u92 u93 u94 u95 u96 u97 u98 u99 u100 u101 ay' w' h5
    exact HQ.out _ _ _ _ _ _ _ _ _ _ _ _ _ _ _ _ _ _ _ _ _ _ _ _ _ _ _ _ _ _ _ _ _ _ _ _ _ _ _ _ _ _ h5
  · have hko' : ¬ (k : Int) < (os.length : Int) := by omega
    clear hcell hoz
    go_wp2
    refine HK.out _ _ ?_
    refine al22_wp lv cb ts g T d k n r o c ay az w0 w1 Q (H1.out.more (Nat.le_succ k)) HP.out.2.2.2 HP.out.1 HP.out.2.1 HP.out.2.2.1 ?_
    intro u81 u82 u83 u84 u85 u86 u87 u88 u89 u90 u91 u92 u93 u94 u95 u96 u97 u98 u99 u100 u101 ay' w' h5
    exact HQ.out _ _ _ _ _ _ _ _ _ _ _ _ _ _ _ _ _ _ _ _ _ _ _ _ _ _ _ _ _ _ _ _ _ _ _ _ _ _ _ _ _ _ h5
end Go.Proofs.YtlhohmlpcgbliaaDoor
namespace Go.Proofs.YtlhohmlpcgbliaaDoor
set_option maxRecDepth 100000
open Go.RowKit
attribute [local go_sem ↓] Go.wp_at_zero Go.wp_at_succ

/-- A text's first 40 bytes. -/
def cutS (s : ByteArray) : ByteArray := if s.size ≤ 40 then s else s.extract 0 40
theorem cutS_size (s : ByteArray) : (cutS s).size ≤ 40 := by
  unfold cutS
  split
  · assumption
  · rw [ByteArray.size_extract]; omega
set_option maxHeartbeats 400000 in
theorem cutS_any (s : ByteArray) (w : World) (hs : s.size ≤ 140737488355328) : Calls Tryd.prog 41 #[.string s] w fun e w' => e = .returned (.string (cutS s)) ∧ w' = w := by
  by_cases h : s.size ≤ 40
  · have HC : Aside (cutS s = s) := if_pos h
    generalize cutS s = t at *
    go_enter Tryd.func41, Tryd.ntmps41
    go_wp2
    go_ret
    exact ⟨by rw [HC.out]; rfl, rfl⟩
  · have HC : Aside (cutS s = s.extract 0 40) := if_neg h
    generalize cutS s = t at *
    go_enter Tryd.func41, Tryd.ntmps41
    go_wp2
    go_ret
    exact ⟨by rw [HC.out]; rfl, rfl⟩

theorem Dk.script_ok {D : Dk} (h : D.ok) (a k : Int) : (D.script a k).ok := ⟨h.las, h.sec, h.fre, h.few⟩
theorem Dk.script_like (D : Dk) (a k : Int) : Like (D.script a k) D := ⟨rfl, rfl⟩
theorem infoScr : (Tryd.prog.info? 134).map (·.size) = some 3 := by kernel_rfl

set_option maxHeartbeats 1000000 in
theorem diskFail_any (b : Nat) (after keep : Int) (fv : Value) (D : Dk) (w : World) (h : DiskAt w b fv D) :
    Calls Tryd.prog 81 #[.pointer (some ⟨b, 0, none⟩), .int .i64 after, .int .i64 keep] w fun e w' => e = .returned (.tuple #[]) ∧ DiskAt w' b fv (D.script after keep) ∧ Fr b fv.ownBlock fv.ownBlock w w' := by
  have h1 : DiskAt (w.setCell ⟨b, 25602, none⟩ (.bool true)) b fv { D with set := true } := h.put 2 (.bool true) fv { D with set := true } ⟨h.ok.las, h.ok.sec, h.ok.fre, h.ok.few⟩ rfl rfl rfl rfl
  have h2 : DiskAt ((w.setCell ⟨b, 25602, none⟩ (.bool true)).setCell ⟨b, 25603, none⟩ (.int .i64 after)) b fv { D with set := true, left := after } := h1.put 3 (.int .i64 after) fv { D with set := true, left := after } ⟨h.ok.las, h.ok.sec, h.ok.fre, h.ok.few⟩ rfl rfl rfl rfl
  have HD : Aside (DiskAt (((w.setCell ⟨b, 25602, none⟩ (.bool true)).setCell ⟨b, 25603, none⟩ (.int .i64 after)).setCell ⟨b, 25604, none⟩ (.int .i64 keep)) b fv (D.script after keep)) := h2.put 4 (.int .i64 keep) fv (D.script after keep) (Dk.script_ok h.ok _ _) rfl rfl rfl rfl
  have HF : Aside (Fr b fv.ownBlock fv.ownBlock w (((w.setCell ⟨b, 25602, none⟩ (.bool true)).setCell ⟨b, 25603, none⟩ (.int .i64 after)).setCell ⟨b, 25604, none⟩ (.int .i64 keep))) := ((Fr.setCell _ _ _ _ _ _ (.inr rfl)).trans (Fr.setCell _ _ _ _ _ _ (.inr rfl))).trans (Fr.setCell _ _ _ _ _ _ (.inr rfl))
  have c0 := h.cell 2
  have c1 := h1.cell 3
  have c2 := h2.cell 4
  have f0 := h.blk.frozen 25602
  have f1 := h1.blk.frozen 25603
  have f2 := h2.blk.frozen 25604
  simp only [List.getElem?_cons_succ, List.getElem?_cons_zero, Nat.reduceAdd] at c0 c1 c2
  clear h h1 h2
  go_enter Tryd.func81, Tryd.ntmps81
  go_wp2
  go_end0
  exact ⟨rfl, HD.out, HF.out⟩

set_option maxHeartbeats 1000000 in
theorem logFail_ok {w : World} {a b : Nat} {fv wv : Value} {D : Dk} {W : List ByteArray} (h : LogAt w a b fv wv D W) (hf : D.failed = false) (after : Nat) (keep : Int) : Calls Tryd.prog 50 #[.pointer (some ⟨a, 0, none⟩), .int .i64 (after : Int), .int .i64 keep] w fun e w' => e = .returned (.int .i64 0) ∧ LogAt w' a b fv wv (D.script (after : Int) keep) W ∧ FrL a b fv.ownBlock wv.ownBlock fv.ownBlock wv.ownBlock w w' := by
  have hc := h.blk.cell 0
  simp only [List.getElem?_cons_zero] at hc
  have hd := down_any h
  rw [hf] at hd
  have hp := diskFail_any b (after : Int) keep fv D w h.disk
  go_enter Tryd.func50, Tryd.ntmps50
  go_wp2_with fail
  refine hd.mono ?_
  rintro e w1 ⟨rfl, rfl⟩
  clear hf
  have hn : ¬ (after : Int) < 0 := by omega
  go_wp2_with fail
  refine hp.mono ?_
  rintro e w2 ⟨rfl, hd2, hr2⟩
  go_wp2
  go_ret
  exact ⟨rfl, h.fr hr2 hd2, FrL.of_fr hr2⟩

theorem wrA_len (start each : Nat) : ∀ (f : Nat) (R : Dk) (i : Nat) (cs : List (List Nat)), (wrA start each f R i cs).length ≤ f := by
  intro f
  induction f with
  | zero => intro R i cs; exact Nat.le_refl _
  | succ f ih =>
    intro R i cs
    rw [wrA]
    split
    · exact Nat.zero_le _
    · rw [List.length_cons]; exact Nat.succ_le_succ (ih _ _ _)
theorem grA_len : ∀ (f : Nat) (R : Dk) (first n l size : Nat), n ≤ 76 → (grA f R first n l size).length ≤ f * 100 := by
  intro f
  induction f with
  | zero => intro R _ _ _ _ _; exact Nat.zero_le _
  | succ f ih =>
    intro R first n l size hn
    rw [grA]
    split
    · rw [List.length_append]
      have h1 := wrA_len (tileAt l).1 4 ((R.hashes l (first / size) (n / size)).map bts).length R (first / size) ((R.hashes l (first / size) (n / size)).map bts)
      have h2 : ((R.hashes l (first / size) (n / size)).map bts).length ≤ 76 := by
        have : n / size ≤ n := Nat.div_le_self _ _
        rw [List.length_map]
        unfold Dk.hashes
        rw [List.length_map, List.length_range]
        generalize n / size = q1 at *
        generalize first / size = q0 at *
        omega
      have h3 := ih (R.rowWrite (tileAt l).1 4 (first / size) ((R.hashes l (first / size) (n / size)).map bts)) first n (l + 1) (size * 4) hn
      omega
    · exact Nat.zero_le _
theorem adA_len {R : Dk} {ss : List ByteArray} (hl : R.ckN + ss.length ≤ 76) : 3 ≤ (adA R ss).length ∧ (adA R ss).length ≤ 10000 := by
  unfold adA enA
  have h1 := wrA_len 2 3 (packs ss).length R 0 (packs ss)
  rw [packs_len] at h1
  have hj : (jwA R R.ckN ss).length = (wrA 2 3 (packs ss).length R 0 (packs ss)).length + 3 := by simp [jwA]
  rw [List.length_append, hj, packs_len]
  refine ⟨by omega, ?_⟩
  split
  · have h2 := wrA_len 6 3 (packs ss).length (R.jwrite R.ckN ss) R.ckN (packs ss)
    have h3 := grA_len (R.ckN + ss.length) ((R.jwrite R.ckN ss).rowWrite 6 3 R.ckN (packs ss)) R.ckN (R.ckN + ss.length) 0 1 hl
    rw [packs_len] at h2
    have h4 : (ptA (R.jwrite R.ckN ss) R.ckN ss ++ (ckA ((R.jwrite R.ckN ss).put R.ckN ss) (R.ckN + ss.length) ++ rmA)).length = (wrA 6 3 (packs ss).length (R.jwrite R.ckN ss) R.ckN (packs ss)).length + (grA (R.ckN + ss.length) ((R.jwrite R.ckN ss).rowWrite 6 3 R.ckN (packs ss)) R.ckN (R.ckN + ss.length) 0 1).length + 5 := by
      simp [ptA, ckA, rmA]; omega
    rw [h4, packs_len]
    omega
  · have : rmA.length = 2 := rfl
    omega
/-- The acts of a disk without a script are counted. -/
theorem nf_run_acts : ∀ (xs : List (Option (Nat × List Nat))) (R : Dk), R.nf → 0 ≤ R.acts → R.acts + xs.length ≤ 4611686018427387904 → (R.run xs).acts = R.acts + xs.length := by
  intro xs
  induction xs with
  | nil => intro R _ _ _; simp [Dk.run]
  | cons a r ih =>
    intro R hR h0 h1
    rw [List.length_cons] at h1
    have hw : wrap64 (R.acts + 1) = R.acts + 1 := by unfold wrap64; omega
    have hd : (R.doA a).acts = R.acts + 1 := by
      cases a with
      | none => show R.flush.acts = _; rw [hR.flush_eq]; exact hw
      | some x => show (R.write x.1 x.2).acts = _; rw [hR.write_eq]; exact hw
    show ((R.doA a).run r).acts = _
    rw [ih _ (hR.doA a) (by omega) (by rw [hd]; omega), hd, List.length_cons]
    omega
theorem nf_add_acts {R : Dk} (hR : R.nf) (ss : List ByteArray) (hl : R.ckN + ss.length ≤ 76) (h0 : 0 ≤ R.acts) (h1 : R.acts ≤ 1000000) : (R.add ss).acts = R.acts + (adA R ss).length := by
  have h2 := adA_len hl
  have h3 : R.add ss = R.run (adA R ss) := (does_add hR ss).at
  rw [h3, nf_run_acts _ _ hR h0 (by omega)]
end Go.Proofs.YtlhohmlpcgbliaaDoor
namespace Go.Proofs.YtlhohmlpcgbliaaDoor
set_option maxRecDepth 100000
open Go.RowKit
attribute [local go_sem ↓] Go.wp_at_zero Go.wp_at_succ

/-- A log whose blocks are all newer than a world B, of which nothing has changed. -/
structure Lg (B w : World) (a : Nat) (D : Dk) (W : List ByteArray) : Prop where
  bel : Below B.heap.size B w
  ex : ∃ (b : Nat) (fv wv : Value), LogAt w a b fv wv D W ∧ ∀ j, Own a b fv.ownBlock wv.ownBlock j → B.heap.size ≤ j
theorem Lg.below {B w w' : World} {a : Nat} {D : Dk} {W : List ByteArray} (h : Lg B w a D W) (hb : Below w.heap.size w w') : Lg B w' a D W := by
  obtain ⟨b, fv, wv, hL, ho⟩ := h.ex
  exact ⟨h.bel.trans (hb.mono h.bel.size), b, fv, wv, hL.below hb, ho⟩
theorem Lg.of_new {w w' : World} {a b : Nat} {D : Dk} (hL : LogAt w' a b (.slice none 0 0) (.slice none 0 0) D []) (hb : Below w.heap.size w w') (ha : w.heap.size ≤ a) (hbb : w.heap.size ≤ b) : Lg w w' a D [] := by
  refine ⟨hb, b, _, _, hL, ?_⟩
  intro j hj
  rcases hj with e | e | e | e
  · omega
  · omega
  · cases e
  · cases e
theorem Lg.copied {w : World} {a b : Nat} {fv wv : Value} {D : Dk} {W : List ByteArray} {E : List ByteArray} (h : LogAt w a b fv wv D W) (hH : Holds (Dk.of D.las.flatten) E) (ht : Table w) (hg : 2 < w.heap.size) :
    Calls Tryd.prog 43 #[.pointer (some ⟨a, 0, none⟩)] w fun e w' => ∃ a', e = .returned (.pointer (some ⟨a', 0, none⟩)) ∧ Lg w w' a' (Dk.of D.las.flatten) [] := by
  refine (copied_ok h hH ht hg).mono ?_
  rintro e w' ⟨a', b', rfl, ha, hb, hL, hbl⟩
  exact ⟨a', rfl, Lg.of_new hL hbl ha hb⟩
theorem Lg.submit {B w : World} {a : Nat} {D : Dk} (h : Lg B w a D []) (hf : D.failed = false) (hz1 : D.read 1 = zer) (x : ByteArray) (hx : x.size ≤ 40) (hn : D.ckN + 1 ≤ 64) :
    Calls Tryd.prog 40 #[.pointer (some ⟨a, 0, none⟩), .slice (some ⟨w.heap.size, 0, none⟩) 1 1] (w.alloc (.cells #[.string x] 9)) fun e w' => e = .returned (.int .i64 0) ∧ Lg B w' a D [x] := by
  have hal : Below w.heap.size w (w.alloc (.cells #[.string x] 9)) := (Below.refl _ _).alloc (Nat.le_refl _) _
  obtain ⟨b, fv, wv, hL, ho⟩ := h.ex
  have hlt := hL.lt
  have hB : Blk (w.alloc (.cells #[.string x] 9)) w.heap.size 9 [.string x] := Blk.new w 9 [.string x]
  have hS1 : SA (w.alloc (.cells #[.string x] 9)) w.heap.size 0 [x] := SA.of_blk (ss := [x]) hB
  have hs := submit_ok (hL.below hal) hf hz1 w.heap.size 0 1 [x] hS1 hB.lt (fun e => by have := hlt _ (.inl rfl); omega) (fun e => by have := hlt _ (.inr (.inl rfl)); omega) (fun e => by have := hlt _ (.inr (.inr (.inl e))); omega) (fun e => by have := hlt _ (.inr (.inr (.inr e))); omega) (fun s hs => by rw [List.mem_singleton.1 hs]; exact hx) (by simp) (by simp; omega)
  rw [List.nil_append] at hs
  refine hs.mono ?_
  rintro e w' ⟨rfl, wv', hL', hR'⟩
  obtain ⟨hb4, hf4, hw4⟩ := FrL.below (h.bel.trans (hal.mono h.bel.size)) hR' (ho _ (.inl rfl)) (ho _ (.inr (.inl rfl))) (fun j hj => ho j (.inr (.inr (.inl hj)))) (fun j hj => ho j (.inr (.inr (.inr hj))))
  refine ⟨rfl, hb4, b, fv, wv', hL', ?_⟩
  intro j hj
  rcases hj with e | e | e | e
  · rw [e]; exact ho _ (.inl rfl)
  · rw [e]; exact ho _ (.inr (.inl rfl))
  · exact hf4 j e
  · exact hw4 j e
theorem Lg.flush {B w : World} {a : Nat} {D : Dk} {W : List ByteArray} (h : Lg B w a D W) (hf : D.failed = false) (hz1 : D.read 1 = zer) (hz : ∀ s ∈ W, s.size ≤ 40) (hl : D.ckN + W.length ≤ 76) (hfe : D.fre = []) (h0 : 0 < W.length) (hok : (D.add W).failed = false) (ht : Table B) (hg : 2 < B.heap.size) :
    Calls Tryd.prog 42 #[.pointer (some ⟨a, 0, none⟩)] w fun e w' => e = .returned (.tuple #[.int .i64 ((D.add W).ckN : Int), .int .i64 0]) ∧ Lg B w' a (D.add W) [] := by
  obtain ⟨b, fv, wv, hL, ho⟩ := h.ex
  have hfd : D.flushed W = D.add W := by
    unfold Dk.flushed
    rw [if_neg (by omega)]
  have hs := logFlush_any hL hf hz1 hz hl (by rw [hfe]; simp) (env_of ht hg h.bel (ho _ (.inr (.inl rfl))) (fun j hj => ho j (.inr (.inr (.inl hj))))) (by rw [hfd]; exact hok)
  rw [hfd] at hs
  refine hs.mono ?_
  rintro e w' ⟨rfl, fv', hL', hR'⟩
  obtain ⟨hb4, hf4, _⟩ := FrL.below h.bel hR' (ho _ (.inl rfl)) (ho _ (.inr (.inl rfl))) (fun j hj => ho j (.inr (.inr (.inl hj)))) (fun j hj => ho j (.inr (.inr (.inr hj))))
  refine ⟨rfl, hb4, b, fv', _, hL', ?_⟩
  intro j hj
  rcases hj with e | e | e | e
  · rw [e]; exact ho _ (.inl rfl)
  · rw [e]; exact ho _ (.inr (.inl rfl))
  · exact hf4 j e
  · cases e
theorem Lg.flush_down {B w : World} {a : Nat} {D : Dk} {W : List ByteArray} (h : Lg B w a D W) (hf : D.failed = false) (hz1 : D.read 1 = zer) (hz : ∀ s ∈ W, s.size ≤ 40) (hl : D.ckN + W.length ≤ 76) (hfe : D.fre = []) (h0 : 0 < W.length) (hok : (D.add W).failed = true) (ht : Table B) (hg : 2 < B.heap.size) :
    Calls Tryd.prog 42 #[.pointer (some ⟨a, 0, none⟩)] w fun e w' => e = .returned (.tuple #[.int .i64 0, .int .i64 3]) ∧ Lg B w' a (D.add W) W := by
  obtain ⟨b, fv, wv, hL, ho⟩ := h.ex
  have hs := logFlush_down hL hf hz1 hz hl (by rw [hfe]; simp) (env_of ht hg h.bel (ho _ (.inr (.inl rfl))) (fun j hj => ho j (.inr (.inr (.inl hj))))) h0 hok
  refine hs.mono ?_
  rintro e w' ⟨rfl, fv', hL', hR'⟩
  obtain ⟨hb4, hf4, hw4⟩ := FrL.below h.bel hR' (ho _ (.inl rfl)) (ho _ (.inr (.inl rfl))) (fun j hj => ho j (.inr (.inr (.inl hj)))) (fun j hj => ho j (.inr (.inr (.inr hj))))
  refine ⟨rfl, hb4, b, fv', wv, hL', ?_⟩
  intro j hj
  rcases hj with e | e | e | e
  · rw [e]; exact ho _ (.inl rfl)
  · rw [e]; exact ho _ (.inr (.inl rfl))
  · exact hf4 j e
  · exact hw4 j e
theorem Lg.acts {B w : World} {a : Nat} {D : Dk} {W : List ByteArray} (h : Lg B w a D W) : Calls Tryd.prog 45 #[.pointer (some ⟨a, 0, none⟩)] w fun e w' => e = .returned (.int .i64 D.acts) ∧ w' = w := by
  obtain ⟨b, fv, wv, hL, ho⟩ := h.ex
  exact logActs_any hL
theorem Lg.bytes {B w : World} {a : Nat} {D : Dk} {W : List ByteArray} (h : Lg B w a D W) : Calls Tryd.prog 44 #[.pointer (some ⟨a, 0, none⟩)] w fun e w' => e = .returned (.string (strOf D.las.flatten)) ∧ Lg B w' a D W := by
  obtain ⟨b, fv, wv, hL, ho⟩ := h.ex
  refine (logBytes_any hL).mono ?_
  rintro e w' ⟨rfl, hb⟩
  exact ⟨rfl, h.below hb⟩
theorem Lg.fail {B w : World} {a : Nat} {D : Dk} {W : List ByteArray} (h : Lg B w a D W) (hf : D.failed = false) (after : Nat) (keep : Int) : Calls Tryd.prog 50 #[.pointer (some ⟨a, 0, none⟩), .int .i64 (after : Int), .int .i64 keep] w fun e w' => e = .returned (.int .i64 0) ∧ Lg B w' a (D.script (after : Int) keep) W := by
  obtain ⟨b, fv, wv, hL, ho⟩ := h.ex
  refine (logFail_ok hL hf after keep).mono ?_
  rintro e w' ⟨rfl, hL', hR'⟩
  obtain ⟨hb4, hf4, hw4⟩ := FrL.below h.bel hR' (ho _ (.inl rfl)) (ho _ (.inr (.inl rfl))) (fun j hj => ho j (.inr (.inr (.inl hj)))) (fun j hj => ho j (.inr (.inr (.inr hj))))
  exact ⟨rfl, hb4, b, fv, wv, hL', ho⟩

/-- A disk with a script over the adding of some entries: it lasts, or fails when the acts are done. -/
theorem script_in {Y R : Dk} {E : List ByteArray} (hH : Holds R E) (hL : Like Y R) (hf : Y.failed = false) (hs : Y.set = true) (W : List ByteArray) (hl : E.length + W.length ≤ 64) (h1 : ((adA R W).length : Int) ≤ Y.left) (h2 : Y.left ≤ 9223372036854775807) (h3 : 0 ≤ Y.acts) (h4 : Y.acts ≤ 1000000) :
    (Y.add W).failed = false ∧ (Y.add W).set = true ∧ (Y.add W).left = Y.left - (adA R W).length ∧ (Y.add W).acts = Y.acts + (adA R W).length ∧ (Y.add W).keep = Y.keep ∧ Like (Y.add W) (R.add W) := by
  have hd := does_add hH.nf W
  have e1 : Y.add W = Y.run (adA R W) := hd Y (.inr hL)
  have e2 : R.add W = R.run (adA R W) := hd.at
  have hb := adA_len (R := R) (ss := W) (by rw [hH.ckN]; omega)
  rw [e1, e2]
  exact run_in _ Y R hH.nf hL hf hs h1 h2 h3 (by omega)
theorem script_out {Y R : Dk} {E : List ByteArray} (hH : Holds R E) (hL : Like Y R) (hf : Y.failed = false) (hs : Y.set = true) (W : List ByteArray) (hl : E.length + W.length ≤ 64) (t : Nat) (ht : Y.left = t) (h1 : t < (adA R W).length) (h3 : 0 ≤ Y.acts) (h4 : Y.acts ≤ 1000000) :
    (Y.add W).failed = true ∧ (Y.add W).acts = Y.acts + t ∧ (Y.add W).fre = [] ∧ (Y.add W).las = failL Y.keep 0 (R.run ((adA R W).take t)).fre (R.run ((adA R W).take t)).las := by
  have hd := does_add hH.nf W
  have e1 : Y.add W = Y.run (adA R W) := hd Y (.inr hL)
  have hb := adA_len (R := R) (ss := W) (by rw [hH.ckN]; omega)
  rw [e1]
  exact run_out _ Y R hH.nf hL hf hs t ht h1 (by omega) h3 (by omega)
end Go.Proofs.YtlhohmlpcgbliaaDoor
namespace Go.Proofs.YtlhohmlpcgbliaaDoor
set_option maxRecDepth 100000
open Go.RowKit
attribute [local go_sem ↓] Go.wp_at_zero Go.wp_at_succ

/-- A list of texts: nil, or lying somewhere. -/
def LS (w : World) (v : Value) (ts : List ByteArray) : Prop := (v = .slice none 0 0 ∧ ts = []) ∨ ∃ cb co cc, v = .slice (some ⟨cb, co, none⟩) ts.length cc ∧ SA w cb co ts ∧ cb < w.heap.size ∧ ts.length ≤ cc
theorem LS.of_row {w : World} {base : Nat} {v : Value} {ts : List ByteArray} (h : Row w base 9 v (strv ts)) : LS w v ts := by
  by_cases h0 : ts.length = 0
  · have ht := List.eq_nil_of_length_eq_zero h0
    subst ht
    obtain ⟨_, h2⟩ := h
    rcases h2 with ⟨rfl, _⟩ | ⟨g, cap, cur, rfl, _, hg, _⟩
    · exact .inl ⟨rfl, rfl⟩
    · exact .inr ⟨g, 0, cap, rfl, (fun i s hs => by simp at hs), (Array.getElem?_eq_some_iff.1 hg).1, Nat.zero_le _⟩
  · obtain ⟨g, cap, rfl, _, hcap, _, _, hlt, _⟩ := Row.form h (by rw [strv_length]; omega)
    rw [strv_length] at hcap h ⊢
    exact .inr ⟨g, 0, cap, rfl, SA.of_row h (by omega), hlt, hcap⟩
theorem rawI_nil (w : World) : RawI w (.slice none 0 0) := ⟨none, 0, 0, rfl, fun i hi => by omega⟩
theorem grownL_any (v : Value) (ts : List ByteArray) (w : World) (hS : LS w v ts) (hl64 : ts.length ≤ 64) (hz : ∀ s ∈ ts, s.size ≤ 40) (ht : Table w) (hg : 2 < w.heap.size) :
    Calls Tryd.prog 35 #[v, .slice none 0 0] w fun e w' => ∃ (a b : Nat) (fv : Value) (D : Dk), e = .returned (.pointer (some ⟨a, 0, none⟩)) ∧ LogAt w' a b fv (.slice none 0 0) D [] ∧ Holds D ts ∧ Below w.heap.size w w' ∧ w.heap.size ≤ a ∧ w.heap.size ≤ b ∧ (∀ k, fv.ownBlock = some k → w.heap.size ≤ k) := by
  rcases hS with ⟨rfl, rfl⟩ | ⟨cb, co, cc, rfl, hSA, hcb, hcc⟩
  · refine (grownNil_any w ht hg).mono ?_
    rintro e w' ⟨a, b, rfl, hL, hb, ha, hbb⟩
    exact ⟨a, b, _, _, rfl, hL, fresh_holds, hb, ha, hbb, fun k hk => by simp [Value.ownBlock] at hk⟩
  · exact grown_any cb co cc (.slice none 0 0) ts w hSA hcb hcc hl64 hz (rawI_nil w) ht hg

set_option maxHeartbeats 400000 in
theorem obeys_in (k m : Nat) (w : World) (h : k < m) : Calls Tryd.prog 51 #[.int .i64 3, .int .i64 (k : Int), .int .i64 (k : Int), .int .i64 (m : Int)] w fun e w' => e = .returned (.bool true) ∧ w' = w := by
  have h' : (k : Int) < (m : Int) := by omega
  go_enter Tryd.func51, Tryd.ntmps51
  go_wp2
  go_ret
  exact ⟨rfl, rfl⟩
set_option maxHeartbeats 400000 in
theorem obeys_end (m : Nat) (w : World) : Calls Tryd.prog 51 #[.int .i64 0, .int .i64 (m : Int), .int .i64 (m : Int), .int .i64 (m : Int)] w fun e w' => e = .returned (.bool true) ∧ w' = w := by
  have h' : ¬ (m : Int) < (m : Int) := by omega
  go_enter Tryd.func51, Tryd.ntmps51
  go_wp2
  go_ret
  exact ⟨rfl, rfl⟩

/-- What the rest of Later hangs on: the disk C, two entries, and so many acts for each. -/
structure LatP (C : Dk) (E : List ByteArray) (t1 t2 : ByteArray) (n m : Nat) : Prop where
  h0 : Holds C E
  h1 : Holds (C.add [t1]) (E ++ [t1])
  h2 : Holds ((C.add [t1]).add [t2]) (E ++ [t1] ++ [t2])
  a0 : C.acts = 0
  a1 : (C.add [t1]).acts = n
  a2 : ((C.add [t1]).add [t2]).acts = (n : Int) + m
  s1 : t1.size ≤ 40
  s2 : t2.size ≤ 40
  n3 : 3 ≤ n
  n4 : n ≤ 10000
  m3 : 3 ≤ m
  m4 : m ≤ 10000
  len : E.length ≤ 60
  en : n = (adA C [t1]).length
  em : m = (adA (C.add [t1]) [t2]).length
theorem latP {C : Dk} {E : List ByteArray} (hH : Holds C E) (ha : C.acts = 0) {t1 t2 : ByteArray} (h1 : t1.size ≤ 40) (h2 : t2.size ≤ 40) (hl : E.length ≤ 60) : LatP C E t1 t2 (adA C [t1]).length (adA (C.add [t1]) [t2]).length := by
  have H1 := add_spec hH (W := [t1]) (by simp) (fun s hs => by rw [List.mem_singleton.1 hs]; exact h1) (by simp; omega)
  have H2 := add_spec H1 (W := [t2]) (by simp) (fun s hs => by rw [List.mem_singleton.1 hs]; exact h2) (by simp; omega)
  have b1 := adA_len (R := C) (ss := [t1]) (by rw [hH.ckN]; simp; omega)
  have b2 := adA_len (R := C.add [t1]) (ss := [t2]) (by rw [H1.ckN]; simp; omega)
  have e1 := nf_add_acts hH.nf [t1] (by rw [hH.ckN]; simp; omega) (by omega) (by omega)
  have e2 := nf_add_acts H1.nf [t2] (by rw [H1.ckN]; simp; omega) (by omega) (by omega)
  exact ⟨hH, H1, H2, ha, by rw [e1, ha]; simp, by rw [e2, e1, ha]; omega, h1, h2, b1.1, b1.2, b2.1, b2.2, hl, rfl, rfl⟩
/-- The disk that fails later. -/
theorem LatP.first {C : Dk} {E : List ByteArray} {t1 t2 : ByteArray} {n m : Nat} (h : LatP C E t1 t2 n m) (k : Nat) (hk : k ≤ m) (keep : Int) :
    ((C.script ((n + k : Nat) : Int) keep).add [t1]).failed = false ∧ ((C.script ((n + k : Nat) : Int) keep).add [t1]).set = true ∧ ((C.script ((n + k : Nat) : Int) keep).add [t1]).left = k ∧ ((C.script ((n + k : Nat) : Int) keep).add [t1]).acts = n ∧ Like ((C.script ((n + k : Nat) : Int) keep).add [t1]) (C.add [t1]) := by
  have hn := h.n4
  have hm := h.m4
  have hl := h.len
  have h9 := script_in h.h0 (Dk.script_like C ((n + k : Nat) : Int) keep) h.h0.nf.failed rfl [t1] (by simp; omega) (by rw [← h.en]; show (n : Int) ≤ ((n + k : Nat) : Int); omega) (by show ((n + k : Nat) : Int) ≤ _; omega) (by show 0 ≤ C.acts; rw [h.a0]; omega) (by show C.acts ≤ _; rw [h.a0]; omega)
  rw [← h.en] at h9
  refine ⟨h9.1, h9.2.1, ?_, ?_, h9.2.2.2.2.2⟩
  · rw [h9.2.2.1]; show ((n + k : Nat) : Int) - n = k; omega
  · rw [h9.2.2.2.1]; show C.acts + n = n; rw [h.a0]; omega
theorem LatP.second {C : Dk} {E : List ByteArray} {t1 t2 : ByteArray} {n m : Nat} (h : LatP C E t1 t2 n m) (k : Nat) {Y : Dk} (hf : Y.failed = false) (hs : Y.set = true) (hl : Y.left = k) (ha : Y.acts = n) (hL : Like Y (C.add [t1])) :
    (k < m → (Y.add [t2]).failed = true ∧ (Y.add [t2]).acts = (n : Int) + k) ∧ (k = m → (Y.add [t2]).failed = false ∧ (Y.add [t2]).acts = (n : Int) + m) := by
  have hn := h.n4
  have hm := h.m4
  have hl' := h.len
  refine ⟨fun hk => ?_, fun hk => ?_⟩
  · have h9 := script_out h.h1 hL hf hs [t2] (by simp; omega) k hl (by rw [← h.em]; exact hk) (by rw [ha]; omega) (by rw [ha]; omega)
    exact ⟨h9.1, by rw [h9.2.1, ha]⟩
  · have h9 := script_in h.h1 hL hf hs [t2] (by simp; omega) (by rw [← h.em, hl]; omega) (by rw [hl]; omega) (by rw [ha]; omega) (by rw [ha]; omega)
    rw [← h.em] at h9
    exact ⟨h9.1, by rw [h9.2.2.2.1, ha]⟩
theorem Like.rd {Y R : Dk} {E : List ByteArray} (hL : Like Y R) (hH : Holds R E) : Y.read 1 = zer ∧ Y.ckN = E.length ∧ Y.fre = [] := ⟨(hL.read 1).trans hH.jn, hL.ckN.trans hH.ckN, hL.fre.trans hH.fre⟩
end Go.Proofs.YtlhohmlpcgbliaaDoor
namespace Go.Proofs.YtlhohmlpcgbliaaDoor
set_option maxRecDepth 100000
open Go.RowKit
attribute [local go_sem ↓] Go.wp_at_zero Go.wp_at_succ

def laQ (w0 : World) : Exit → Act → World → Prop := bodyPost Tryd.prog Tryd.f11 fun e w' => e = .returned (.bool true) ∧ Below w0.heap.size w0 w'

set_option maxHeartbeats 4000000 in
theorem la4_wp {c0 c5 c6 c7 c8 c9 c10 c12 c13 c14 c15 c16 c17 c18 c19 c20 c21 c22 c23 c24 c25 c26 c27 c28 c29 c30 c31 c32 c33 c34 c35 c36 c37 c38 c39 c40 c41 c42 c43 c44 c45 c46 c47 c48 c49 c50 c51 c52 c53 c54 c55 c56 c57 c58 c59 c60 c61 c62 c63 c64 c65 c66 c67 c68 c69 c70 c71 c72 c73 c74 c75 c76 c77 c78 c79 c80 c81 c82 c83 c84 c85 c86 c87 c88 c89 c90 c91 c92 c93 c94 c95 c96 c97 c98 c99 c100 c101 c102 c103 c104 c105 c106 c107 c108 c109 c110 c111 c112 c113 c114 c115 c116 c117 c118 c119 c120 c121 c122 c123 c124 c125 c126 c127 c128 c129 c130 c131 c132 c133 c134 c135 c136 c137 c138 c139 c140 c141 c142 c143 c144 c145 c146 c147 c148 c149 c150 c151 c152 c153 c154 c155 c156 c157 c158 c159 c160 c161 : Value} (one two : ByteArray) (after keep : Int) (v : Value) (us : List ByteArray) (wB w : World) (hS : LS w v us) (hl : us.length ≤ 20) (hz : ∀ s ∈ us, s.size ≤ 40) (hb : Below wB.heap.size wB w) (ho1 : one.size ≤ 140737488355328) (ho2 : two.size ≤ 140737488355328) (ha1 : -9223372036854775808 ≤ after) (ha2 : after ≤ 9223372036854775807) (ht : Table wB) (hg : 2 < wB.heap.size) :
    Code.wp Tryd.prog (sfxD Tryd.f11 4) (laQ wB) ⟨#[c0, .string one, .string two, .int .i64 after, .int .i64 keep, c5, c6, c7, c8, c9, c10, v, c12, c13, c14, c15, c16, c17, c18, c19, c20, c21, c22, c23, c24, c25, c26, c27, c28, c29, c30, c31, c32, c33, c34, c35, c36, c37, c38, c39, c40, c41, c42, c43, c44, c45, c46, c47, c48, c49, c50, c51, c52, c53, c54, c55, c56, c57, c58, c59, c60, c61, c62, c63, c64, c65, c66, c67, c68, c69, c70, c71, c72, c73, c74, c75, c76, c77, c78, c79, c80, c81, c82, c83, c84, c85, c86, c87, c88, c89, c90, c91, c92, c93, c94, c95, c96, c97, c98, c99, c100, c101, c102, c103, c104, c105, c106, c107, c108, c109, c110, c111, c112, c113, c114, c115, c116, c117, c118, c119, c120, c121, c122, c123, c124, c125, c126, c127, c128, c129, c130, c131, c132, c133, c134, c135, c136, c137, c138, c139, c140, c141, c142, c143, c144, c145, c146, c147, c148, c149, c150, c151, c152, c153, c154, c155, c156, c157, c158, c159, c160, c161], []⟩ w := by
  conv => arg 2; whnf
  generalize hQ : laQ wB = Q
  have HQ : Aside (laQ wB = Q) := hQ
  clear hQ
  have T : Aside (∀ wx, Below wB.heap.size wB wx → Table wx ∧ 2 < wx.heap.size) := fun wx hx => ⟨table_at hx hg ht, Nat.lt_of_lt_of_le hg hx.size⟩
  have C1 : Aside (∀ wx, Calls Tryd.prog 41 #[.string one] wx fun e w' => e = .returned (.string (cutS one)) ∧ w' = wx) := fun wx => cutS_any one wx ho1
  have C2 : Aside (∀ wx, Calls Tryd.prog 41 #[.string two] wx fun e w' => e = .returned (.string (cutS two)) ∧ w' = wx) := fun wx => cutS_any two wx ho2
  have s1 := cutS_size one
  have s2 := cutS_size two
  generalize cutS one = t1 at *
  generalize cutS two = t2 at *
  have HA : Aside (-9223372036854775808 ≤ after ∧ after ≤ 9223372036854775807) := ⟨ha1, ha2⟩
  have g5 := grownL_any v us w hS (by omega) hz (T.out w hb).1 (T.out w hb).2
  clear hS hz ht hg ho1 ho2 ha1 ha2
  go_wp2_with fail
  refine g5.mono ?_
  rintro e w5 ⟨a, b, fv, D, rfl, hL, hH, b5, ha, hb', hfo⟩
  clear g5 ha hb' hfo
  have hB5 := hb.trans (b5.mono hb.size)
  have HD : Aside (LogAt w5 a b fv (.slice none 0 0) D [] ∧ Below wB.heap.size wB w5) := ⟨hL, hB5⟩
  have P := latP (C := Dk.of D.las.flatten) hH.again rfl s1 s2 (by omega)
  have g6 := Lg.copied hL hH.again (T.out w5 hB5).1 (T.out w5 hB5).2
  have HC : Aside (Holds (Dk.of D.las.flatten) us) := hH.again
  have HCC : Aside (∀ wx, Below w5.heap.size w5 wx → Calls Tryd.prog 43 #[.pointer (some ⟨a, 0, none⟩)] wx fun e w' => ∃ a', e = .returned (.pointer (some ⟨a', 0, none⟩)) ∧ Lg wx w' a' (Dk.of D.las.flatten) []) := by
    intro wx hx
    have hB := hB5.trans (hx.mono hB5.size)
    exact Lg.copied (hL.below hx) hH.again (T.out wx hB).1 (T.out wx hB).2
  clear hL hH b5 hb hB5
  generalize Dk.of D.las.flatten = C at *
  generalize hn : (adA C [t1]).length = n at *
  generalize hm : (adA (C.add [t1]) [t2]).length = m at *
  clear hn hm
  have hn3 := P.n3
  have hn4 := P.n4
  have hm3 := P.m3
  have hm4 := P.m4
  have HP : Aside (LatP C us t1 t2 n m) := P
  clear P
  go_wp2_with fail
  refine g6.mono ?_
  rintro e w6 ⟨a1, rfl, h6⟩
  clear g6
  go_wp2_with fail
  refine (C1.out w6).mono ?_
  rintro e w6' ⟨rfl, rfl⟩
  have g7 := h6.submit HP.out.h0.nf.failed HP.out.h0.jn t1 s1 (by rw [HP.out.h0.ckN]; omega)
  go_wp2_with fail
  refine g7.mono ?_
  rintro e w7 ⟨rfl, h7⟩
  clear g7 h6
  have g8 := h7.flush HP.out.h0.nf.failed HP.out.h0.jn (fun s hs => by rw [List.mem_singleton.1 hs]; exact s1) (by rw [HP.out.h0.ckN]; simp; omega) HP.out.h0.fre (by simp) HP.out.h1.nf.failed (T.out w5 HD.out.2).1 (T.out w5 HD.out.2).2
  clear h7
  generalize ((C.add [t1]).ckN : Int) = q1 at *
  go_wp2_with fail
  refine g8.mono ?_
  rintro e w8 ⟨rfl, h8⟩
  clear g8
  have g9 := h8.acts
  rw [HP.out.a1] at g9
  go_wp2_with fail
  refine g9.mono ?_
  rintro e w8' ⟨rfl, rfl⟩
  clear g9
  go_wp2_with fail
  refine (C2.out w8').mono ?_
  rintro e w8 ⟨rfl, rfl⟩
  have hk1 := HP.out.h1.ckN
  rw [List.length_append] at hk1
  have HK1 : Aside ((C.add [t1]).ckN = us.length + [t1].length) := hk1
  clear hk1
  have g7 := h8.submit HP.out.h1.nf.failed HP.out.h1.jn t2 s2 (by rw [HK1.out]; simp; omega)
  go_wp2_with fail
  refine g7.mono ?_
  rintro e w9 ⟨rfl, h9⟩
  clear g7 h8
  have g8 := h9.flush HP.out.h1.nf.failed HP.out.h1.jn (fun s hs => by rw [List.mem_singleton.1 hs]; exact s2) (by rw [HK1.out]; simp; omega) HP.out.h1.fre (by simp) HP.out.h2.nf.failed (T.out w5 HD.out.2).1 (T.out w5 HD.out.2).2
  clear h9
  generalize (((C.add [t1]).add [t2]).ckN : Int) = q2 at *
  go_wp2_with fail
  refine g8.mono ?_
  rintro e w10 ⟨rfl, h10⟩
  clear g8
  have g9 := h10.acts
  rw [HP.out.a2] at g9
  go_wp2_with fail
  refine g9.mono ?_
  rintro e w10' ⟨rfl, rfl⟩
  clear g9
  have H10 : Aside (Below w5.heap.size w5 w10') := h10.bel
  clear h10
  have hpk : Calls Tryd.prog 32 #[.int .i64 after, .int .i64 ((m : Int) + 1)] w10' fun e w' => e = .returned (.int .i64 (pickV after (m + 1) : Nat)) ∧ w' = w10' := pickG_any after (m + 1) w10' HA.out.1 HA.out.2 (by omega) (by omega)
  have hkm : pickV after (m + 1) ≤ m := Nat.le_of_lt_succ (pickV_lt after (m + 1) (by omega))
  generalize pickV after (m + 1) = k at *
  have hnm : (n : Int) + (m : Int) - (n : Int) = (m : Int) := by omega
  go_wp2_with fail
  refine hpk.mono ?_
  rintro e w11 ⟨rfl, rfl⟩
  clear hpk hnm
  have g12 := HCC.out w11 H10.out
  have HB11 : Aside (Below wB.heap.size wB w11) := HD.out.2.trans (H10.out.mono HD.out.2.size)
  go_wp2_with fail
  refine g12.mono ?_
  rintro e w12 ⟨a2, rfl, h12⟩
  clear g12
  have g13 := h12.fail HP.out.h0.nf.failed (n + k) keep
  have hfi := HP.out.first k hkm keep
  have hY0 : (C.script ((n + k : Nat) : Int) keep).failed = false := HP.out.h0.nf.failed
  have hL0 : Like (C.script ((n + k : Nat) : Int) keep) C := Dk.script_like _ _ _
  generalize C.script ((n + k : Nat) : Int) keep = Y0 at *
  have eI : ((n + k : Nat) : Int) = (n : Int) + (k : Int) := by omega
  rw [eI] at g13
  clear eI h12
  have HF : Aside ((Y0.add [t1]).failed = false ∧ (Y0.add [t1]).set = true ∧ (Y0.add [t1]).left = k ∧ (Y0.add [t1]).acts = n ∧ Like (Y0.add [t1]) (C.add [t1])) := hfi
  have HY0 : Aside (Y0.failed = false ∧ Like Y0 C) := ⟨hY0, hL0⟩
  clear hfi hY0 hL0
  go_wp2_with fail
  refine g13.mono ?_
  rintro e w13 ⟨rfl, h13⟩
  clear g13
  go_wp2_with fail
  refine (C1.out w13).mono ?_
  rintro e w14 ⟨rfl, rfl⟩
  have r0 := HY0.out.2.rd HP.out.h0
  have R0 : Aside (Y0.read 1 = zer ∧ Y0.ckN = us.length ∧ Y0.fre = []) := r0
  clear r0
  have g7 := h13.submit HY0.out.1 R0.out.1 t1 s1 (by rw [R0.out.2.1]; omega)
  go_wp2_with fail
  refine g7.mono ?_
  rintro e w15 ⟨rfl, h15⟩
  clear g7 h13
  have g8 := h15.flush HY0.out.1 R0.out.1 (fun s hs => by rw [List.mem_singleton.1 hs]; exact s1) (by rw [R0.out.2.1]; simp; omega) R0.out.2.2 (by simp) HF.out.1 (T.out w11 HB11.out).1 (T.out w11 HB11.out).2
  clear h15
  generalize ((Y0.add [t1]).ckN : Int) = q3 at *
  have r1 := HF.out.2.2.2.2.rd HP.out.h1
  rw [List.length_append] at r1
  have hse := HP.out.second k HF.out.1 HF.out.2.1 HF.out.2.2.1 HF.out.2.2.2.1 HF.out.2.2.2.2
  have hf1 := HF.out.1
  have hac := HF.out.2.2.2.1
  generalize Y0.add [t1] = Y1 at *
  have R1 : Aside (Y1.read 1 = zer ∧ Y1.ckN = us.length + [t1].length ∧ Y1.fre = []) := r1
  have HS : Aside ((k < m → (Y1.add [t2]).failed = true ∧ (Y1.add [t2]).acts = (n : Int) + k) ∧ (k = m → (Y1.add [t2]).failed = false ∧ (Y1.add [t2]).acts = (n : Int) + m)) := hse
  have HF1 : Aside (Y1.failed = false ∧ Y1.acts = n) := ⟨hf1, hac⟩
  clear r1 hse hf1 hac HF R0 HY0
  go_wp2_with fail
  refine g8.mono ?_
  rintro e w16 ⟨rfl, h16⟩
  clear g8
  have g9 := h16.acts
  rw [HF1.out.2] at g9
  go_wp2_with fail
  refine g9.mono ?_
  rintro e w17 ⟨rfl, rfl⟩
  clear g9
  go_wp2_with fail
  refine (C2.out w17).mono ?_
  rintro e w18 ⟨rfl, rfl⟩
  have g7 := h16.submit HF1.out.1 R1.out.1 t2 s2 (by rw [R1.out.2.1]; simp; omega)
  go_wp2_with fail
  refine g7.mono ?_
  rintro e w19 ⟨rfl, h19⟩
  clear g7 h16
  by_cases hk : k < m
  · have hS := HS.out.1 hk
    have g8 := h19.flush_down HF1.out.1 R1.out.1 (fun s hs => by rw [List.mem_singleton.1 hs]; exact s2) (by rw [R1.out.2.1]; simp; omega) R1.out.2.2 (by simp) hS.1 (T.out w11 HB11.out).1 (T.out w11 HB11.out).2
    clear h19
    have HA2 : Aside ((Y1.add [t2]).acts = (n : Int) + k) := hS.2
    clear hS
    go_wp2_with fail
    refine g8.mono ?_
    rintro e w20 ⟨rfl, h20⟩
    clear g8
    have g9 := h20.acts
    rw [HA2.out] at g9
    have HB20 : Aside (Below wB.heap.size wB w20) := HB11.out.trans (h20.bel.mono HB11.out.size)
    clear h20
    have hnk : (n : Int) + (k : Int) - (n : Int) = (k : Int) := by omega
    have gob := fun wx => obeys_in k m wx hk
    go_wp2_with fail
    refine g9.mono ?_
    rintro e w21 ⟨rfl, rfl⟩
    clear g9
    go_wp2_with fail
    refine (gob w21).mono ?_
    rintro e w22 ⟨rfl, rfl⟩
    clear gob
    go_wp2
    rw [← HQ.out]
    unfold laQ
    go_ret
    exact ⟨rfl, HB20.out⟩
  · have hkm2 : k = m := by omega
    subst hkm2
    have hS := HS.out.2 rfl
    have g8 := h19.flush HF1.out.1 R1.out.1 (fun s hs => by rw [List.mem_singleton.1 hs]; exact s2) (by rw [R1.out.2.1]; simp; omega) R1.out.2.2 (by simp) hS.1 (T.out w11 HB11.out).1 (T.out w11 HB11.out).2
    clear h19
    have HA2 : Aside ((Y1.add [t2]).acts = (n : Int) + k) := hS.2
    clear hS hk
    generalize ((Y1.add [t2]).ckN : Int) = q4 at *
    go_wp2_with fail
    refine g8.mono ?_
    rintro e w20 ⟨rfl, h20⟩
    clear g8
    have g9 := h20.acts
    rw [HA2.out] at g9
    have HB20 : Aside (Below wB.heap.size wB w20) := HB11.out.trans (h20.bel.mono HB11.out.size)
    clear h20
    have hnk : (n : Int) + (k : Int) - (n : Int) = (k : Int) := by omega
    have gob := fun wx => obeys_end k wx
    go_wp2_with fail
    refine g9.mono ?_
    rintro e w21 ⟨rfl, rfl⟩
    clear g9
    go_wp2_with fail
    refine (gob w21).mono ?_
    rintro e w22 ⟨rfl, rfl⟩
    clear gob
    go_wp2
    rw [← HQ.out]
    unfold laQ
    go_ret
    exact ⟨rfl, HB20.out⟩
end Go.Proofs.YtlhohmlpcgbliaaDoor
namespace Go.Proofs.YtlhohmlpcgbliaaDoor
set_option maxRecDepth 100000
open Go.RowKit
attribute [local go_sem ↓] Go.wp_at_zero Go.wp_at_succ

set_option maxHeartbeats 1000000 in
theorem later_walk (v : Value) (ss : List ByteArray) (one two : ByteArray) (after keep : Int) (w : World) (hS : Strs w v ss) (hn : ss.length ≤ 140737488355328) (hz : ∀ s ∈ ss, s.size ≤ 140737488355328) (ho1 : one.size ≤ 140737488355328) (ho2 : two.size ≤ 140737488355328) (ha1 : -9223372036854775808 ≤ after) (ha2 : after ≤ 9223372036854775807) (ht : Table w) (hg : 2 < w.heap.size) :
    Calls Tryd.prog 11 #[v, .string one, .string two, .int .i64 after, .int .i64 keep] w fun e w' => e = .returned (.bool true) ∧ Below w.heap.size w w' := by
  have HT : Aside (Table w ∧ 2 < w.heap.size ∧ one.size ≤ 140737488355328 ∧ two.size ≤ 140737488355328 ∧ -9223372036854775808 ≤ after ∧ after ≤ 9223372036854775807) := ⟨ht, hg, ho1, ho2, ha1, ha2⟩
  clear ht hg ho1 ho2 ha1 ha2
  have g3 := entriesE_any v ss w hS hn hz
  go_enter Tryd.func11, Tryd.ntmps11
  go_wp2_with fail
  rename_i K hK K1 hK1
  have HK : Aside (∀ a w, _ → K a w) := hK
  clear hK
  refine g3.mono ?_
  rintro e w3 ⟨v', ts, rfl, hrow, hl64, htz, b3⟩
  clear g3 hS hz
  have B3 : Aside (Below w.heap.size w w3 ∧ LS w3 v' ts ∧ ∀ s ∈ ts, s.size ≤ 40) := ⟨b3, LS.of_row hrow, htz⟩
  clear b3 hrow htz
  go_wp2
  refine HK.out _ _ ?_
  refine wp_seq_k ?_
  intro K4 hK4
  have HK4 : Aside (∀ a w, _ → K4 a w) := hK4
  clear hK4 HK
  by_cases hn20 : ts.length > 20
  · have hls := B3.out.2.1
    rcases hls with ⟨_, h0⟩ | ⟨g, o, cap, rfl, hSA, hgl, hcap⟩
    · rw [h0] at hn20; simp at hn20
    · have hn20' : (ts.length : Int) > 20 := by omega
      have hsl : ∀ wx, (Instr.sliceAt 22 (.slice (some ⟨g, o, none⟩) ts.length cap) none (some (.int .i64 20)) none).run Tryd.prog wx = .ok (.slice (some ⟨g, o, none⟩) 20 cap) wx := fun wx => slice_h wx g o ts.length cap 20 (by omega)
      have HS : Aside (LS w3 (.slice (some ⟨g, o, none⟩) 20 cap) (ts.take 20)) := by
        right
        refine ⟨g, o, cap, ?_, hSA.take 20, hgl, ?_⟩
        · rw [List.length_take, Nat.min_eq_left (by omega)]
        · rw [List.length_take]; omega
      clear hSA hgl hcap
      go_wp2
      refine HK4.out _ _ ?_
      exact la4_wp one two after keep _ (ts.take 20) w w3 HS.out (by rw [List.length_take]; omega) (fun s hs => B3.out.2.2 s (List.mem_of_mem_take hs)) B3.out.1 HT.out.2.2.1 HT.out.2.2.2.1 HT.out.2.2.2.2.1 HT.out.2.2.2.2.2 HT.out.1 HT.out.2.1
  · have hn20' : ¬ (ts.length : Int) > 20 := by omega
    have hls := B3.out.2.1
    rcases hls with ⟨rfl, h0⟩ | ⟨g, o, cap, rfl, hSA, hgl, hcap⟩
    · go_wp2
      refine HK4.out _ _ ?_
      exact la4_wp one two after keep _ ts w w3 B3.out.2.1 (by omega) B3.out.2.2 B3.out.1 HT.out.2.2.1 HT.out.2.2.2.1 HT.out.2.2.2.2.1 HT.out.2.2.2.2.2 HT.out.1 HT.out.2.1
    · clear hSA hgl hcap
      go_wp2
      refine HK4.out _ _ ?_
      exact la4_wp one two after keep _ ts w w3 B3.out.2.1 (by omega) B3.out.2.2 B3.out.1 HT.out.2.2.1 HT.out.2.2.2.1 HT.out.2.2.2.2.1 HT.out.2.2.2.2.2 HT.out.1 HT.out.2.1
end Go.Proofs.YtlhohmlpcgbliaaDoor
