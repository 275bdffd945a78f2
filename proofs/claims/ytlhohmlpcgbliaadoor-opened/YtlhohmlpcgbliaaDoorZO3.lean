import Derived.Test.YtlhohmlpcgbliaaDoorZL2
import Derived.Test.YtlhohmlpcgbliaaDoorZQ3
import Derived.Deep.LoopGhost
import Derived.Test.YtlhohmlpcgbliaaDoorZL3
namespace Go.Proofs.YtlhohmlpcgbliaaDoor
set_option maxRecDepth 100000
open Go.RowKit
attribute [local go_sem ↓] Go.wp_at_zero Go.wp_at_succ

/-- Hash i of level l is as what lies below says. -/
def Dk.tileOk (D : Dk) (l i : Nat) : Prop := D.hashF l i = true ∧ strOf (D.slot (tileAt l).1 4 i) = D.hashB l i
theorem tilesOk_of {D : Dk} {n l : Nat} (h : ∀ k, k < l → ∀ i, i < n / 4 ^ k → D.tileOk k i) (hl : n < 4 ^ l) : D.tilesOk n := by
  intro k hk i hi
  refine h k ?_ i hi
  refine Classical.byContradiction fun hn => ?_
  have : 4 ^ l ≤ 4 ^ k := Nat.pow_le_pow_right (by omega) (by omega)
  omega

set_option maxHeartbeats 4000000 in
theorem tilesHold_any (b n : Nat) (fv : Value) (D : Dk) (w : World) (h : DiskAt w b fv D) (hn : n ≤ 64) (ht : Table w) (hg : 2 < w.heap.size) :
    Calls Tryd.prog 129 #[.pointer (some ⟨b, 0, none⟩), .int .i64 (n : Int)] w fun e w' => ∃ r : Bool, e = .returned (.bool r) ∧ (r = true ↔ D.tilesOk n) ∧ Below w.heap.size w w' := by
  have HD : Aside (DiskAt w b fv D ∧ Table w ∧ 2 < w.heap.size) := ⟨h, ht, hg⟩
  clear h ht hg
  go_enter Tryd.func129, Tryd.ntmps129
  go_wp2
  go_step3
  go_wp2
  go_step3
  go_wp2
  go_loopg [5, 6, 7] 4 (fun g s5 s6 s7 wr => ∃ (l size : Nat), l + g = 4 ∧ s5 = .bool true ∧ s6 = .int .i64 (l : Int) ∧ s7 = .int .i64 (size : Int) ∧ 1 ≤ size ∧ size ≤ 256 ∧ Aside (size = 4 ^ l ∧ (∀ k, k < l → ∀ i, i < n / 4 ^ k → D.tileOk k i) ∧ Below w.heap.size w wr))
  case atStart => exact ⟨0, 1, rfl, rfl, rfl, rfl, by omega, by omega, ⟨rfl, fun k hk => by omega, Below.refl _ _⟩⟩
  case round =>
    obtain ⟨l, size, hlg, rfl, rfl, rfl, hs1, hs2, HS⟩ := hrel
    by_cases hc : size ≤ n
    · have hc' : (size : Int) ≤ (n : Int) := by omega
      obtain ⟨g, rfl⟩ : ∃ g, gk = g + 1 := by
        cases gk with
        | zero =>
          have h1 := HS.out.1
          rw [show l = 4 by omega] at h1
          have h2 : (4 : Nat) ^ 4 = 256 := rfl
          omega
        | succ g => exact ⟨g, rfl⟩
      have hl3 : l ≤ 3 := by omega
      have hT := (tileAt_le l).1
      have hqn : n / size ≤ n := Nat.div_le_self _ _
      have HQ : Aside (n / size = n / 4 ^ l) := by show _ = _; rw [HS.out.1]
      have hq := fun wx => quo_gen n size wx hs1 (by omega)
      have ei1 : (n : Int) / (size : Int) = ((n / size : Nat) : Int) := (Int.natCast_ediv _ _).symm
      generalize n / size = q at *
      go_wp2_with fail
      have htl : Calls Tryd.prog 119 #[.int .i64 (l : Int)] wr fun e w' => e = .returned (.agg #[.int .i64 ((tileAt l).1 : Int), .int .i64 4]) ∧ Below wr.heap.size wr w' := tiles_any l wr (by omega)
      refine htl.mono ?_
      rintro e w1 ⟨rfl, hb1⟩
      clear htl
      generalize hst : (tileAt l).1 = start at *
      have HST : Aside ((tileAt l).1 = start) := hst
      clear hst
      have H1 : Aside (Below w.heap.size w (w1.alloc (.cells #[.int .i64 (start : Int), .int .i64 4] 119)) ∧ Blk (w1.alloc (.cells #[.int .i64 (start : Int), .int .i64 4] 119)) w1.heap.size 119 [.int .i64 (start : Int), .int .i64 4]) :=
        ⟨(HS.out.2.2.trans (hb1.mono HS.out.2.2.size)).alloc (Nat.le_trans HS.out.2.2.size hb1.size) _, Blk.new w1 _ _⟩
      go_wp2_with fail
      have hrb : w1.heap.size < (w1.alloc (.cells #[.int .i64 (start : Int), .int .i64 4] 119)).heap.size := by simp
      generalize w1.alloc (.cells #[.int .i64 (start : Int), .int .i64 4] 119) = w2 at *
      generalize w1.heap.size = rb at *
      clear hb1
      go_loopg [5, 9] 17 (fun g2 s5 s9 wy => ∃ at' : Nat, at' + g2 = 17 ∧ s5 = .bool true ∧ s9 = .int .i64 (at' : Int) ∧ at' * 4 ≤ q ∧ Aside ((∀ i, i < at' * 4 → D.tileOk l i) ∧ Below w2.heap.size w2 wy))
      case atStart => exact ⟨0, rfl, rfl, rfl, by omega, ⟨fun i hi => by omega, Below.refl _ _⟩⟩
      case round =>
        obtain ⟨at', hag, rfl, rfl, haq, HS2⟩ := hrel
        obtain ⟨g2, rfl⟩ : ∃ g2, gk = g2 + 1 := ⟨gk - 1, by omega⟩
        have hB := H1.out.2.below HS2.out.2 hrb
        have hc0 := hB.cell 0
        simp only [List.getElem?_cons_zero] at hc0
        have hb0 : Below w.heap.size w wr := H1.out.1.trans (HS2.out.2.mono H1.out.1.size)
        have hd0 := HD.out.1.below hb0
        have hrd := read_any b fv D (start + at') wr hd0 (by omega)
        have hsl := (hd0.ok.read (i := start + at') (by omega)).len
        have HSL : Aside (∀ i, i / 4 = at' → D.slot (tileAt l).1 4 i = slotL (D.read (start + at')) 4 i) := fun i hi => by unfold Dk.slot; rw [HST.out, hi]
        have eI : ((start + at' : Nat) : Int) = (start : Int) + (at' : Int) := by omega
        rw [eI] at hrd
        clear eI hd0
        generalize D.read (start + at') = s at *
        go_wp2_with fail
        refine hrd.mono ?_
        rintro e w3 ⟨rfl, hb3⟩
        clear hrd hc0
        have hz : Tryd.zeroCells130.toList.length = 128 := by rw [zeroSec]; simp
        have hN := Blk.newA w3 130 Tryd.zeroCells130
        have hth := hN.there 0 128 (by omega)
        have hN4 := hN.fill (u8s s) (by simp [hsl, hz])
        have hb4 : Below wr.heap.size wr ((w3.alloc (.cells Tryd.zeroCells130 130)).setCells w3.heap.size 0 (u8s s)) := Below.setCells (hb3.alloc hb3.size _) _ _ hb3.size _
        clear hN
        go_wp2_with (first | ((with_reducible refine stSec ?_ (.tmp 10) (.tmp 30) ?_ w3.heap.size 0 s ?_ ?_ hth hsl ?_); rfl; rfl; rfl; rfl))
        have H4 : Aside (Below w.heap.size w ((w3.alloc (.cells Tryd.zeroCells130 130)).setCells w3.heap.size 0 (u8s s)) ∧ Below w2.heap.size w2 ((w3.alloc (.cells Tryd.zeroCells130 130)).setCells w3.heap.size 0 (u8s s)) ∧ Blk ((w3.alloc (.cells Tryd.zeroCells130 130)).setCells w3.heap.size 0 (u8s s)) rb 119 [.int .i64 (start : Int), .int .i64 4] ∧ Blk ((w3.alloc (.cells Tryd.zeroCells130 130)).setCells w3.heap.size 0 (u8s s)) w3.heap.size 130 (u8s s)) :=
          ⟨hb0.trans (hb4.mono hb0.size), HS2.out.2.trans (hb4.mono HS2.out.2.size), hB.below hb4 hB.lt, hN4⟩
        clear hth hN4 hb4 hB hb0 hz
        generalize (w3.alloc (.cells Tryd.zeroCells130 130)).setCells w3.heap.size 0 (u8s s) = w4 at *
        generalize w3.heap.size = lb at *
        clear hb3
        go_loopg [5, 11] 4 (fun g3 s5 s11 wz => ∃ i : Nat, i + g3 = at' * 4 + 4 ∧ at' * 4 ≤ i ∧ i ≤ q ∧ s5 = .bool true ∧ s11 = .int .i64 (i : Int) ∧ Aside ((∀ j, j < i → D.tileOk l j) ∧ Below w4.heap.size w4 wz))
        case atStart => exact ⟨at' * 4, rfl, Nat.le_refl _, haq, rfl, by go_num, ⟨HS2.out.1, Below.refl _ _⟩⟩
        case round =>
          obtain ⟨i, hig, hia, hiq, rfl, rfl, HS3⟩ := hrel
          cases gk with
          | zero =>
            have hi4 : ¬ ((i : Int) < ((at' : Int) + 1) * 4) := by omega
            have HI : Aside (i = at' * 4 + 4) := hig
            clear hig
            go_wp2
            go_roundg g2
            case measure => omega
            case rel => exact ⟨at' + 1, by omega, rfl, by go_num, by have := HI.out; omega, ⟨fun j hj => HS3.out.1 j (by have := HI.out; omega), H4.out.2.1.trans (HS3.out.2.mono H4.out.2.1.size)⟩⟩
          | succ g3 =>
            have hi4 : (i : Int) < ((at' : Int) + 1) * 4 := by omega
            have hbw : Below w.heap.size w wr := H4.out.1.trans (HS3.out.2.mono H4.out.1.size)
            have HBW : Aside (Below w.heap.size w wr) := hbw
            by_cases hqe : i = q
            · have hqe' : ((i : Int) == (q : Int)) = true := by simp; omega
              have HQE : Aside (i = q) := hqe
              clear hqe hbw
              go_wp2
              go_roundg g
              case measure => omega
              case rel =>
                refine ⟨l + 1, size * 4, by omega, rfl, by go_num, by go_num, by omega, by omega, ⟨by rw [Nat.pow_succ, ← HS.out.1], fun k hk j hj => ?_, HBW.out⟩⟩
                by_cases hkl : k = l
                · subst hkl
                  exact HS3.out.1 j (by rw [HQE.out, HQ.out]; exact hj)
                · exact HS.out.2.1 k (by omega) j hj
            · have hqe' : ((i : Int) == (q : Int)) = false := by simp; omega
              have hhb := hashBelow_any b l i fv D wr (HD.out.1.below hbw) (by omega) (by omega) (table_at hbw HD.out.2.2 HD.out.2.1) (Nat.lt_of_lt_of_le HD.out.2.2 hbw.size)
              have HO : Aside (D.tileOk l i ↔ D.hashF l i = true ∧ strOf (slotL s 4 i) = D.hashB l i) := by
                show _ ↔ _
                unfold Dk.tileOk
                rw [HSL.out i (by omega)]
              have HN : Aside (¬ D.tileOk l i → ¬ D.tilesOk n) := fun h1 h2 => h1 (h2 l (by rw [← HS.out.1]; exact hc) i (by rw [← HQ.out]; omega))
              have HX : Aside (i < q ∧ i < at' * 4 + 4 ∧ i + (g3 + 1) = at' * 4 + 4) := ⟨by omega, by omega, hig⟩
              clear hqe hbw hig hiq
              generalize D.hashB l i = hh at *
              generalize D.hashF l i = okk at *
              go_wp2_with fail
              refine hhb.mono ?_
              rintro e w5 ⟨rfl, hb5⟩
              clear hhb
              have H5 : Aside (Below w.heap.size w w5 ∧ Below w4.heap.size w4 w5) := ⟨HBW.out.trans (hb5.mono HBW.out.size), HS3.out.2.trans (hb5.mono HS3.out.2.size)⟩
              clear hb5
              cases okk with
              | false =>
                go_wp2
                try rw [Exit.noGoto_ret]
                go_ret
                exact ⟨false, rfl, ⟨(fun h1 => by cases h1), fun h1 => absurd h1 (HN.out (fun h2 => (by have := (HO.out.1 h2).1; cases this)))⟩, H5.out.1⟩
              | true =>
                have hB5 := H4.out.2.2.1.below H5.out.2 H4.out.2.2.1.lt
                have hc0 := hB5.cell 0
                have hc1 := hB5.cell 1
                simp only [List.getElem?_cons_zero, List.getElem?_cons_succ] at hc0 hc1
                have hsa : Calls Tryd.prog 117 #[.agg #[.int .i64 (start : Int), .int .i64 4], .pointer (some ⟨lb, 0, none⟩), .int .i64 (i : Int)] w5 fun e w' => e = .returned (.slice (some ⟨lb, i % 4 * 32, none⟩) 32 (128 - i % 4 * 32)) ∧ Below w5.heap.size w5 w' := slot_any start 4 lb i w5 (.inr rfl) (by omega)
                have hl := slotL_length i hsl (.inr rfl)
                have HR : Aside (∀ wx, Below w5.heap.size w5 wx → wx.rangeAt lb (i % 4 * 32) (u8s (slotL s 4 i))) := by
                  intro wx hx
                  have hB6 := (H4.out.2.2.2.below H5.out.2 H4.out.2.2.2.lt).below hx (H4.out.2.2.2.below H5.out.2 H4.out.2.2.2.lt).lt
                  have := hB6.part (i % 4 * 32) 32
                  unfold slotL
                  rw [u8s_take, u8s_drop]
                  exact this
                generalize i % 4 * 32 = off at *
                generalize slotL s 4 i = sl at *
                go_wp2_with fail
                refine hsa.mono ?_
                rintro e w6 ⟨rfl, hb6⟩
                have hcv := convert_range (cap := 128 - off) (HR.out w6 hb6)
                rw [show sl.length = 32 from hl] at hcv
                have H6 : Aside (Below w.heap.size w w6 ∧ Below w4.heap.size w4 w6) := ⟨H5.out.1.trans (hb6.mono H5.out.1.size), H5.out.2.trans (hb6.mono H5.out.2.size)⟩
                clear hsa hb6 hB5 hc0 hc1 hl HR
                generalize strOf sl = x at *
                by_cases hx : x = hh
                · have HXX : Aside (x = hh) := hx
                  have hxb : (x.toList == hh.toList) = true := by rw [eqs]; exact decide_eq_true hx
                  clear hx
                  go_wp2
                  go_roundg g3
                  case measure => omega
                  case rel =>
                    refine ⟨i + 1, by have := HX.out.2.2; omega, by omega, by have := HX.out.1; omega, rfl, by go_num, ⟨fun j hj => ?_, H6.out.2⟩⟩
                    by_cases hji : j = i
                    · subst hji
                      exact HO.out.2 ⟨by trivial, HXX.out⟩
                    · exact HS3.out.1 j (by omega)
                · have HXX : Aside (¬ x = hh) := hx
                  have hxb : (x.toList == hh.toList) = false := by rw [eqs]; exact decide_eq_false hx
                  clear hx
                  go_wp2
                  try rw [Exit.noGoto_ret]
                  go_ret
                  exact ⟨false, rfl, ⟨(fun h1 => by cases h1), fun h1 => absurd h1 (HN.out (fun h2 => HXX.out (HO.out.1 h2).2))⟩, H6.out.1⟩
    · have hc' : ¬ (size : Int) ≤ (n : Int) := by omega
      go_wp2
      try rw [Exit.noGoto_ret]
      go_ret
      exact ⟨true, rfl, ⟨fun _ => tilesOk_of HS.out.2.1 (by rw [← HS.out.1]; omega), fun _ => rfl⟩, HS.out.2.2⟩
end Go.Proofs.YtlhohmlpcgbliaaDoor
namespace Go.Proofs.YtlhohmlpcgbliaaDoor
set_option maxRecDepth 100000
open Go.RowKit
attribute [local go_sem ↓] Go.wp_at_zero Go.wp_at_succ

theorem equal_sec (w : World) {s t : List Nat} (hs : s.length = 128) (ht : t.length = 128) : (Op.equalIn 10000 130 (.agg (u8s s).toArray) (.agg (u8s t).toArray)).run Tryd.prog w = .ok (decide (s = t)) w := by
  have hi : ∃ i, Tryd.prog.info? 5 = some i := by
    cases hq : Tryd.prog.info? 5 with
    | none => have := info5; simp [hq] at this
    | some i => exact ⟨i, rfl⟩
  obtain ⟨i, hi⟩ := hi
  rw [run_equalIn_array w 9999 _ _ Tryd.underlying130 hi, cells5, items_u8 w 9998 s t _ (fun j hj => by have := List.mem_range.1 hj; omega), range_all hs ht]
theorem Holds.span {D : Dk} {E : List ByteArray} (h : Holds D E) : D.span 0 E.length = mth (E.map leafS) := by
  have h1 := span_mth h.til (by simp) E.length E.length 0 6 (Nat.le_refl _) (by have := h.len; simpa using this) (by simp) (by simp)
  rw [h1, List.drop_zero, List.take_of_length_le (by simp)]

set_option maxHeartbeats 2000000 in
theorem sound_ok (b : Nat) (fv : Value) (D : Dk) (E : List ByteArray) (w : World) (h : DiskAt w b fv D) (hH : Holds D E) (ht : Table w) (hg : 2 < w.heap.size) :
    Calls Tryd.prog 105 #[.pointer (some ⟨b, 0, none⟩)] w fun e w' => e = .returned (.bool true) ∧ Below w.heap.size w w' := by
  have HD : Aside (DiskAt w b fv D ∧ Table w ∧ 2 < w.heap.size ∧ D.tilesOk E.length ∧ D.read 1 = zer) := ⟨h, ht, hg, hH.tilesOk, hH.jn⟩
  have hck := readCheckpoint_any b fv D w h
  rw [hH.ckN, hH.ckR, strOf_bts] at hck
  have hlen := hH.len
  have hr32 : (mth (E.map leafS)).size = 32 := mth32
  have hspan := hH.span
  have h0 := hH.ck
  have hs0 := (h.ok.read (i := 0) (by omega)).len
  generalize mth (E.map leafS) = rt at *
  generalize E.length = n at *
  clear hH ht hg h
  have HP : Aside (D.span 0 n = rt ∧ D.read 0 = ckSec n (bts rt)) := ⟨hspan, h0⟩
  have hcs : (ckSec n (bts rt)).length = 128 := h0 ▸ hs0
  clear hspan h0 hs0
  have hrt : (rt.toList == rt.toList) = true := by rw [eqs]; exact decide_eq_true rfl
  go_enter Tryd.func105, Tryd.ntmps105
  go_wp2_with fail
  refine hck.mono ?_
  rintro e w1 ⟨rfl, hb1⟩
  clear hck
  have hn64 : ¬ (n : Int) > 64 := by omega
  have hrd : Calls Tryd.prog 116 #[.pointer (some ⟨b, 0, none⟩), .int .i64 0] w1 fun e w' => e = .returned (.agg (u8s (ckSec n (bts rt))).toArray) ∧ Below w1.heap.size w1 w' := by
    have := read_any b fv D 0 w1 (HD.out.1.below hb1) (by omega)
    rw [HP.out.2] at this
    exact this
  have B1 : Aside (Below w.heap.size w w1) := hb1
  go_wp2_with fail
  refine hrd.mono ?_
  rintro e w2 ⟨rfl, hb2⟩
  have B2 : Aside (Below w.heap.size w w2) := B1.out.trans (hb2.mono B1.out.size)
  have hcp := checkpoint_any n rt w2 (by omega) (by omega)
  clear hrd hb1 hb2
  generalize ckSec n (bts rt) = s at *
  go_wp2_with fail
  refine hcp.mono ?_
  rintro e w3 ⟨rfl, hb3⟩
  have B3 : Aside (Below w.heap.size w w3) := B2.out.trans (hb3.mono B2.out.size)
  clear hcp hb3
  have heq := fun wx => equal_sec wx hcs hcs
  rw [show decide (s = s) = true by simp] at heq
  generalize (u8s s).toArray = arr at *
  have htl := tilesHold_any b n fv D w3 (HD.out.1.below B3.out) (by omega) (table_at B3.out HD.out.2.2.1 HD.out.2.1) (Nat.lt_of_lt_of_le HD.out.2.2.1 B3.out.size)
  go_wp2_with fail
  refine htl.mono ?_
  rintro e w4 ⟨r, rfl, hr, hb4⟩
  clear htl
  have hr1 : r = true := hr.2 HD.out.2.2.2.1
  subst hr1
  clear hr
  have B4 : Aside (Below w.heap.size w w4) := B3.out.trans (hb4.mono B3.out.size)
  have hsp : Calls Tryd.prog 98 #[.pointer (some ⟨b, 0, none⟩), .int .i64 0, .int .i64 (n : Int)] w4 fun e w' => e = .returned (.string rt) ∧ Below w4.heap.size w4 w' := by
    have := span_any b 0 n fv D w4 (HD.out.1.below B4.out) (by omega) (table_at B4.out HD.out.2.2.1 HD.out.2.1) (Nat.lt_of_lt_of_le HD.out.2.2.1 B4.out.size)
    rw [HP.out.1, Nat.zero_add] at this
    exact this
  clear hb4
  go_wp2_with fail
  refine hsp.mono ?_
  rintro e w5 ⟨rfl, hb5⟩
  clear hsp
  have B5 : Aside (Below w.heap.size w w5) := B4.out.trans (hb5.mono B4.out.size)
  have hft := fits_none b (n : Int) fv D w5 (HD.out.1.below B5.out) HD.out.2.2.2.2
  clear hb5
  go_wp2_with fail
  refine hft.mono ?_
  rintro e w6 ⟨rfl, hb6⟩
  have B6 : Aside (Below w.heap.size w w6) := B5.out.trans (hb6.mono B5.out.size)
  clear hft hb6
  go_wp2
  go_ret
  exact ⟨rfl, B6.out⟩
end Go.Proofs.YtlhohmlpcgbliaaDoor
namespace Go.Proofs.YtlhohmlpcgbliaaDoor
set_option maxRecDepth 100000
open Go.RowKit
attribute [local go_sem ↓] Go.wp_at_zero Go.wp_at_succ

/-- The journal's entries from slot k on: until there are so many, or one is none. -/
def jents (D : Dk) (count : Nat) : Nat → Nat → List ByteArray
  | _, 0 => []
  | k, f + 1 => if k = count then [] else match unpL (D.slot 2 3 k) with
    | none => []
    | some e => strOf e :: jents D count (k + 1) f
def Dk.jE (D : Dk) (count : Nat) : List ByteArray := jents D count 0 12
theorem jents_len (D : Dk) (count : Nat) : ∀ (f k : Nat), (jents D count k f).length ≤ f := by
  intro f
  induction f with
  | zero => intro k; exact Nat.le_refl _
  | succ f ih =>
    intro k
    rw [jents]
    split
    · exact Nat.zero_le _
    · split
      · exact Nat.zero_le _
      · rw [List.length_cons]; exact Nat.succ_le_succ (ih _)
theorem jents_siz {D : Dk} (h : D.ok) (count : Nat) : ∀ (f k : Nat), k + f ≤ 12 → ∀ s ∈ jents D count k f, s.size ≤ 40 := by
  intro f
  induction f with
  | zero => intro k _ s hs; simp [jents] at hs
  | succ f ih =>
    intro k hk s hs
    rw [jents] at hs
    split at hs
    · simp at hs
    · split at hs
      · simp at hs
      · rename_i e he
        rcases List.mem_cons.1 hs with rfl | h1
        · have hsb := slot_byt h (start := 2) (each := 3) (i := k) (by omega)
          have hul := unpL_len (l := D.slot 2 3 k)
          have hub := unpL_byt hsb
          rw [he] at hul hub
          exact strOf_le hub hul
        · exact ih (k + 1) (by omega) s h1

theorem row_slice {w : World} {base : Nat} {v : Value} {ts : List ByteArray} (h : Row w base 9 v (strv ts)) : ∃ p cap, v = .slice p ts.length cap := by
  obtain ⟨h1, h2⟩ := h
  rw [strv_length] at h2
  rcases h2 with ⟨rfl, hn⟩ | ⟨g, cap, cur, rfl, hb, hg, hn, hm, hs, ht⟩
  · exact ⟨none, 0, by rw [hn]⟩
  · exact ⟨_, cap, rfl⟩
theorem jents_stop {D : Dk} {count k f : Nat} (h : k = count ∨ unpL (D.slot 2 3 k) = none) : jents D count k f = [] := by
  cases f with
  | zero => rfl
  | succ f =>
    rw [jents]
    rcases h with h | h
    · rw [if_pos h]
    · split
      · rfl
      · rw [h]
theorem jents_go {D : Dk} {count k f : Nat} {e : List Nat} (h : k ≠ count) (he : unpL (D.slot 2 3 k) = some e) : jents D count k (f + 1) = strOf e :: jents D count (k + 1) f := by
  rw [jents, if_neg h, he]

theorem row_apart {w : World} {base lb : Nat} {v : Value} {xs cs : List Value} (h : Row w base 9 v xs) (hB : Blk w lb 130 cs) : v.ownBlock ≠ some lb := by
  obtain ⟨_, h2⟩ := h
  rcases h2 with ⟨rfl, _⟩ | ⟨g, cap, cur, rfl, _, hg, _⟩
  · simp [Value.ownBlock]
  · intro e
    have e1 : g = lb := by simpa [Value.ownBlock] using e
    subst e1
    unfold Blk at hB
    rw [hB] at hg
    have := Option.some.inj hg
    injection this with _ h3 _
    exact absurd h3 (by decide)

set_option maxHeartbeats 4000000 in
theorem readAdded_any (b count : Nat) (fv : Value) (D : Dk) (w : World) (h : DiskAt w b fv D) :
    Calls Tryd.prog 131 #[.pointer (some ⟨b, 0, none⟩), .int .i64 (count : Int)] w fun e w' => ∃ v, e = .returned v ∧ Row w' w.heap.size 9 v (strv (D.jE count)) ∧ Below w.heap.size w w' := by
  have HD : Aside (DiskAt w b fv D) := h
  have HJ : Aside (D.jE count = jents D count 0 12) := rfl
  clear h
  generalize D.jE count = JE at *
  go_enter Tryd.func131, Tryd.ntmps131
  go_wp2
  go_step3
  go_wp2
  go_step3
  go_wp2
  go_loopg [5, 6] 4 (fun g s5 s6 wr => ∃ (at' k : Nat) (es : List ByteArray), at' + g = 6 ∧ k + 6 = at' * 3 ∧ s6 = .int .i64 (at' : Int) ∧ Aside (es.length = k ∧ JE = es ++ jents D count k (12 - k) ∧ Row wr w.heap.size 9 s5 (strv es) ∧ Below w.heap.size w wr))
  case atStart => exact ⟨2, 0, [], rfl, rfl, rfl, ⟨rfl, HJ.out, World.ownsRow_nil _ _ _ _, Below.refl _ _⟩⟩
  case round =>
    obtain ⟨at', k, es, hag, hka, rfl, HS⟩ := hrel
    cases gk with
    | zero =>
      have hc' : ¬ (at' : Int) < 6 := by omega
      go_wp2
      try rw [Exit.noGoto_ret]
      go_ret
      obtain ⟨h1, h2, h3, h4⟩ := HS.out
      rw [show 12 - k = 0 by omega] at h2
      simp only [jents, List.append_nil] at h2
      rw [h2]
      exact ⟨_, rfl, h3, h4⟩
    | succ g =>
      have hc' : (at' : Int) < 6 := by omega
      have hrd := read_any b fv D at' wr (HD.out.below HS.out.2.2.2) (by omega)
      have hsl := (HD.out.ok.read (i := at') (by omega)).len
      have HSL : Aside (∀ i, i < 3 → slotL (D.read at') 3 i = D.slot 2 3 (k + i)) := fun i hi => by
        unfold Dk.slot slotL
        rw [show 2 + (k + i) / 3 = at' by omega, show (k + i) % 3 = i % 3 by omega]
      generalize D.read at' = s at *
      go_wp2_with fail
      refine hrd.mono ?_
      rintro e w3 ⟨rfl, hb3⟩
      clear hrd
      have hz : Tryd.zeroCells130.toList.length = 128 := by rw [zeroSec]; simp
      have hN := Blk.newA w3 130 Tryd.zeroCells130
      have hth := hN.there 0 128 (by omega)
      have hN4 := hN.fill (u8s s) (by simp [hsl, hz])
      have hb4 : Below wr.heap.size wr ((w3.alloc (.cells Tryd.zeroCells130 130)).setCells w3.heap.size 0 (u8s s)) := Below.setCells (hb3.alloc hb3.size _) _ _ hb3.size _
      clear hN
      go_wp2_with (first | ((with_reducible refine stSec ?_ (.tmp 7) (.tmp 17) ?_ w3.heap.size 0 s ?_ ?_ hth hsl ?_); rfl; rfl; rfl; rfl))
      have H4 : Aside (Below w.heap.size w ((w3.alloc (.cells Tryd.zeroCells130 130)).setCells w3.heap.size 0 (u8s s)) ∧ Blk ((w3.alloc (.cells Tryd.zeroCells130 130)).setCells w3.heap.size 0 (u8s s)) w3.heap.size 130 (u8s s) ∧ ∀ x, Row wr w.heap.size 9 x (strv es) → Row ((w3.alloc (.cells Tryd.zeroCells130 130)).setCells w3.heap.size 0 (u8s s)) w.heap.size 9 x (strv es)) :=
        ⟨HS.out.2.2.2.trans (hb4.mono HS.out.2.2.2.size), hN4, fun x hx => hx.below hb4 (Nat.le_refl _)⟩
      have HW : Aside (w.heap.size ≤ w3.heap.size) := Nat.le_trans HS.out.2.2.2.size hb3.size
      clear hth hN4 hb4 hz
      generalize (w3.alloc (.cells Tryd.zeroCells130 130)).setCells w3.heap.size 0 (u8s s) = w4 at *
      generalize w3.heap.size = lb at *
      clear hb3
      go_loopg [5, 18] 3 (fun g2 s5 s18 wz => ∃ (i : Nat) (es2 : List ByteArray), i + g2 = 3 ∧ s18 = .int .i64 (i : Int) ∧ Aside (es2.length = k + i ∧ JE = es2 ++ jents D count (k + i) (12 - (k + i)) ∧ Row wz w.heap.size 9 s5 (strv es2) ∧ Below w.heap.size w wz ∧ Blk wz lb 130 (u8s s)))
      case atStart => exact ⟨0, es, rfl, rfl, ⟨HS.out.1, HS.out.2.1, H4.out.2.2 _ HS.out.2.2.1, H4.out.1, H4.out.2.1⟩⟩
      case round =>
        obtain ⟨i, es2, hig, rfl, HS2⟩ := hrel
        cases gk with
        | zero =>
          have hi3 : ¬ (i : Int) < 3 := by omega
          go_wp2
          go_roundg g
          case measure => omega
          case rel =>
            obtain rfl : i = 3 := by omega
            exact ⟨at' + 1, k + 3, es2, by omega, by omega, by go_num, ⟨HS2.out.1, HS2.out.2.1, HS2.out.2.2.1, HS2.out.2.2.2.1⟩⟩
        | succ g2 =>
          have hi3 : (i : Int) < 3 := by omega
          have hi2 : i < 3 := by omega
          have hk11 : k + i ≤ 11 := by omega
          obtain ⟨p, cap, hv⟩ := row_slice HS2.out.2.2.1
          rw [HS2.out.1] at hv
          subst hv
          by_cases hkc : k + i = count
          · have hkc' : ((k : Int) + (i : Int) == (count : Int)) = true := by simp; omega
            have HX : Aside (JE = es2) := by
              have := HS2.out.2.1
              rw [jents_stop (.inl hkc), List.append_nil] at this
              exact this
            clear hkc
            go_wp2
            try rw [Exit.noGoto_ret]
            go_ret
            rw [HX.out]
            exact ⟨_, rfl, HS2.out.2.2.1, HS2.out.2.2.2.1⟩
          · have hkc' : ((k : Int) + (i : Int) == (count : Int)) = false := by simp; omega
            have HN : Aside (k + i ≠ count) := hkc
            clear hkc
            go_wp2_with fail
            refine (added_any wr).mono ?_
            rintro e w5 ⟨rfl, hb5⟩
            have H5 : Aside (Below w.heap.size w w5 ∧ Blk w5 lb 130 (u8s s) ∧ Row w5 w.heap.size 9 (.slice p (k + i) cap) (strv es2)) := ⟨HS2.out.2.2.2.1.trans (hb5.mono HS2.out.2.2.2.1.size), HS2.out.2.2.2.2.below hb5 HS2.out.2.2.2.2.lt, HS2.out.2.2.1.below hb5 (Nat.le_refl _)⟩
            clear hb5
            have hsa : Calls Tryd.prog 117 #[rowV 2 3, .pointer (some ⟨lb, 0, none⟩), .int .i64 (i : Int)] w5 fun e w' => e = .returned (.slice (some ⟨lb, i % 3 * 42, none⟩) 42 (128 - i % 3 * 42)) ∧ Below w5.heap.size w5 w' := slot_any 2 3 lb i w5 (.inl rfl) (by omega)
            have hl := slotL_length i hsl (.inl rfl)
            have HR : Aside (∀ wx, Below w5.heap.size w5 wx → wx.rangeAt lb (i % 3 * 42) (u8s (slotL s 3 i))) := by
              intro wx hx
              have hB6 := H5.out.2.1.below hx H5.out.2.1.lt
              have := hB6.part (i % 3 * 42) 42
              unfold slotL
              rw [u8s_take, u8s_drop]
              exact this
            have hsb := slot_byt HD.out.ok (start := 2) (each := 3) (i := k + i) (by omega)
            rw [HSL.out i hi2] at hl HR
            have HU : Aside (D.slot 2 3 (k + i) = D.slot 2 3 (k + i)) := rfl
            generalize hsd : D.slot 2 3 (k + i) = sl at *
            have HSD : Aside (D.slot 2 3 (k + i) = sl) := hsd
            clear hsd HU
            generalize i % 3 * 42 = off at *
            go_wp2_with fail
            refine hsa.mono ?_
            rintro e w6 ⟨rfl, hb6⟩
            have hcv := convert_range (cap := 128 - off) (HR.out w6 hb6)
            rw [show sl.length = 42 from hl] at hcv
            have hun := unpacked_any sl w6 (by rw [show sl.length = 42 from hl]; omega) hsb
            have H6 : Aside (Below w.heap.size w w6 ∧ Blk w6 lb 130 (u8s s) ∧ Row w6 w.heap.size 9 (.slice p (k + i) cap) (strv es2)) := ⟨H5.out.1.trans (hb6.mono H5.out.1.size), H5.out.2.1.below hb6 H5.out.2.1.lt, H5.out.2.2.below hb6 (Nat.le_refl _)⟩
            clear hsa hb6 hl HR hsb
            generalize hun0 : unpL sl = u at *
            have HU : Aside (unpL (D.slot 2 3 (k + i)) = u) := by show _ = _; rw [HSD.out, hun0]
            clear hun0
            generalize strOf sl = x at *
            go_wp2_with fail
            refine hun.mono ?_
            rintro e w7 ⟨rfl, rfl⟩
            clear hun hcv
            cases u with
            | none =>
              have HX : Aside (JE = es2) := by
                have := HS2.out.2.1
                rw [jents_stop (.inr HU.out), List.append_nil] at this
                exact this
              simp only [Option.isSome_none, Option.getD_none]
              go_wp2
              try rw [Exit.noGoto_ret]
              go_ret
              rw [HX.out]
              exact ⟨_, rfl, H6.out.2.2, H6.out.1⟩
            | some eb =>
              have HX : Aside (JE = (es2 ++ [strOf eb]) ++ jents D count (k + (i + 1)) (12 - (k + (i + 1)))) := by
                have := HS2.out.2.1
                rw [show 12 - (k + i) = (12 - (k + (i + 1))) + 1 by omega, jents_go HN.out HU.out] at this
                rw [List.append_assoc]
                exact this
              have HXX : Aside (strv es2 ++ [.string (strOf eb)] = strv (es2 ++ [strOf eb])) := by show _ = _; simp [strv]
              have hxl : (strv es2).length = k + i := by rw [strv_length]; exact HS2.out.1
              have hrow := H6.out.2.2
              have hsz7 := H6.out.1.size
              have HE : Aside (es2.length = k + i) := HS2.out.1
              simp only [Option.isSome_some, Option.getD_some]
              generalize strOf eb = y at *
              generalize strv es2 = xs at *
              go_wp2_with (at_builtin; refine wpList_app elem_string rfl Tryd.underlying22 (by rfl) (.tmp 35) (.tmp 37) (by rfl) w.heap.size _ xs (by rfl) (hrow.alloc _) _ 1 1 [.string y] (by rfl) rfl (Blk.new _ 9 _) ?h1 ?hl ?hb ?hbs (w0 := w) (B := w.heap.size) (H6.out.1.alloc H6.out.1.size _) (Nat.le_refl _) ?_)
              case h1 => intro u hu; simp at hu; subst hu; rfl
              case hl => omega
              case hb => omega
              case hbs => simp; omega
              intro vL w8 hrow8 hgr b8
              rw [HXX.out] at hrow8
              have H8 : Aside (Blk w8 lb 130 (u8s s) ∧ Row w8 w.heap.size 9 vL (strv (es2 ++ [y])) ∧ Below w.heap.size w w8) := by
                refine ⟨?_, hrow8, b8⟩
                have h9 := H6.out.2.1.alloc (.cells #[.string y] 9)
                have h10 := row_apart (hrow.alloc (.cells #[.string y] 9)) h9
                have h11 := hgr.block lb h9.lt (fun e => h10 e.symm)
                unfold Blk at *
                rw [h11]; exact h9
              clear hrow8 hgr b8 hrow
              go_wp2
              go_roundg g2
              case measure => omega
              case rel => exact ⟨i + 1, es2 ++ [y], by omega, by go_num, ⟨by rw [List.length_append, HE.out]; rfl, HX.out, H8.out.2.1, H8.out.2.2, H8.out.1⟩⟩
end Go.Proofs.YtlhohmlpcgbliaaDoor
namespace Go.Proofs.YtlhohmlpcgbliaaDoor
set_option maxRecDepth 100000
open Go.RowKit
attribute [local go_sem ↓] Go.wp_at_zero Go.wp_at_succ

/-- What a journal's head tells: the first entry's number, and how many there are. -/
def Dk.jF (D : Dk) : Nat := (D.read 1).getD 13 0
def Dk.jN (D : Dk) : Nat := (D.read 1).getD 14 0

theorem row_base {w : World} {b b' : Nat} {e : TypeId} {v : Value} {xs : List Value} (h : Row w b e v xs) (hb : b' ≤ b) : Row w b' e v xs := by
  obtain ⟨h1, h2⟩ := h
  refine ⟨h1, ?_⟩
  rcases h2 with h0 | ⟨g, cap, cur, hv, hbg, rr⟩
  · exact .inl h0
  · exact .inr ⟨g, cap, cur, hv, Nat.le_trans hb hbg, rr⟩
theorem exec_cv {P : Program} {o : Oper} {a : Act} {w : World} {t1 t2 : TypeId} {x : Operand} {v u : Value} (ho : o.op = .convert t1 t2 x) (hx : a.eval x = v) (hr : (convert t1 t2 v).run P w = .ok u w) : (execOp a.eval o).run P w = .ok (.value u) w := by
  unfold execOp
  simp only [ho, hx, Sem.run_bind, hr, Result.andThen_ok, Sem.run_pure]
theorem cvt_u8 (f : Nat) (hf : f < 256) (w : World) : (convert 5 3 (.int .u8 (f : Int))).run Tryd.prog w = .ok (.int .i64 (f : Int)) w := by
  have h : IntKind.i64.wrap (f : Int) = (f : Int) := IntWalk.i64_in _ ⟨by omega, by omega⟩
  simp [go_sem]
  exact h
theorem loadByte (w : World) (b o : Nat) (x : Int) (h : w.cell? ⟨b, o, none⟩ = some (.int .u8 x)) : (Instr.loadAt 5 (.pointer (some ⟨b, o, none⟩))).run Tryd.prog w = .ok (.int .u8 x) w := by
  simp [go_sem, h]
theorem ixByte (w : World) (b k : Nat) (hk : k < 128) : (Instr.indexAt 130 (.pointer (some ⟨b, 0, none⟩)) (.int .i64 (k : Int))).run Tryd.prog w = .ok (.pointer (some ⟨b, k, none⟩)) w := by
  have h : (k : Int) < 128 := by omega
  simp [go_sem, h]

set_option maxHeartbeats 2000000 in
theorem rjR4_wp {c0 c1 c2 c3 c5 c6 c7 c8 c9 c10 c11 c12 c13 c14 c15 c16 c17 c18 c19 c20 c21 c22 c23 : Value} (lb f cnt : Nat) (w : World) (Q : Exit → Act → World → Prop) (h13 : w.cell? ⟨lb, 13, none⟩ = some (.int .u8 (f : Int))) (h14 : w.cell? ⟨lb, 14, none⟩ = some (.int .u8 (cnt : Int))) (hf : f < 256) (hn : cnt < 256)
    (hQ : ∀ (u13 u14 u15 u16 u17 u18 : Value), Q .normal ⟨#[c0, c1, c2, c3, .pointer (some ⟨lb, 0, none⟩), .int .i64 (f : Int), .int .i64 (cnt : Int), c7, c8, c9, c10, c11, c12, u13, u14, u15, u16, u17, u18, c19, c20, c21, c22, c23], []⟩ w.drew) :
    Code.wp Tryd.prog (rgn Tryd.f106 4) Q ⟨#[c0, c1, c2, c3, .pointer (some ⟨lb, 0, none⟩), c5, c6, c7, c8, c9, c10, c11, c12, c13, c14, c15, c16, c17, c18, c19, c20, c21, c22, c23], []⟩ w := by
  have hS : (fun wx : World => wx = w.drew) w.drew := rfl
  have i13 : ∀ wx, (Instr.indexAt 130 (.pointer (some ⟨lb, 0, none⟩)) (.int .i64 13)).run Tryd.prog wx = .ok (.pointer (some ⟨lb, 13, none⟩)) wx := fun wx => ixByte wx lb 13 (by omega)
  have i14 : ∀ wx, (Instr.indexAt 130 (.pointer (some ⟨lb, 0, none⟩)) (.int .i64 14)).run Tryd.prog wx = .ok (.pointer (some ⟨lb, 14, none⟩)) wx := fun wx => ixByte wx lb 14 (by omega)
  conv => arg 2; whnf
  refine wp_region_s (fun wx : World => wx = w.drew) (by kernel_rfl) ?_
  refine wpS_pure (k := 0) (v := .pointer (some ⟨lb, 13, none⟩)) (by rfl) (by kernel_rfl) (by kernel_rfl) (by kernel_rfl) (by rfl) (some 13) (by rfl) hS (fun wx _ => exec_ix (by rfl) (by rfl) (by rfl) (i13 wx)) ?_
  simp only [Act.put, List.setIfInBounds_toArray, List.set_cons_succ, List.set_cons_zero]
  refine wpS_pure (k := 1) (v := .int .u8 (f : Int)) (by rfl) (by kernel_rfl) (by kernel_rfl) (by kernel_rfl) (by rfl) (some 14) (by rfl) hS (fun wx hx => exec_ld (by rfl) (by rfl) (loadByte wx lb 13 _ (by rw [hx]; exact h13))) ?_
  simp only [Act.put, List.setIfInBounds_toArray, List.set_cons_succ, List.set_cons_zero]
  refine wpS_pure (k := 2) (v := .int .i64 (f : Int)) (by rfl) (by kernel_rfl) (by kernel_rfl) (by kernel_rfl) (by rfl) (some 15) (by rfl) hS (fun wx _ => exec_cv (by rfl) (by rfl) (cvt_u8 f hf wx)) ?_
  simp only [Act.put, List.setIfInBounds_toArray, List.set_cons_succ, List.set_cons_zero]
  refine wpS_pure (k := 3) (v := .pointer (some ⟨lb, 14, none⟩)) (by rfl) (by kernel_rfl) (by kernel_rfl) (by kernel_rfl) (by rfl) (some 16) (by rfl) hS (fun wx _ => exec_ix (by rfl) (by rfl) (by rfl) (i14 wx)) ?_
  simp only [Act.put, List.setIfInBounds_toArray, List.set_cons_succ, List.set_cons_zero]
  refine wpS_pure (k := 4) (v := .int .u8 (cnt : Int)) (by rfl) (by kernel_rfl) (by kernel_rfl) (by kernel_rfl) (by rfl) (some 17) (by rfl) hS (fun wx hx => exec_ld (by rfl) (by rfl) (loadByte wx lb 14 _ (by rw [hx]; exact h14))) ?_
  simp only [Act.put, List.setIfInBounds_toArray, List.set_cons_succ, List.set_cons_zero]
  refine wpS_pure (k := 5) (v := .int .i64 (cnt : Int)) (by rfl) (by kernel_rfl) (by kernel_rfl) (by kernel_rfl) (by rfl) (some 18) (by rfl) hS (fun wx _ => exec_cv (by rfl) (by rfl) (cvt_u8 cnt hn wx)) ?_
  simp only [Act.put, List.setIfInBounds_toArray, List.set_cons_succ, List.set_cons_zero]
  refine wpS_pure (k := 6) (v := .int .i64 (f : Int)) (by rfl) (by kernel_rfl) (by kernel_rfl) (by kernel_rfl) (by rfl) (some 5) (by rfl) hS (fun _ _ => by kernel_rfl) ?_
  simp only [Act.put, List.setIfInBounds_toArray, List.set_cons_succ, List.set_cons_zero]
  refine wpS_pure (k := 7) (v := .int .i64 (cnt : Int)) (by rfl) (by kernel_rfl) (by kernel_rfl) (by kernel_rfl) (by rfl) (some 6) (by rfl) hS (fun _ _ => by kernel_rfl) ?_
  simp only [Act.put, List.setIfInBounds_toArray, List.set_cons_succ, List.set_cons_zero]
  refine wpAnyH_done (by kernel_rfl) ?_ _
  refine NoPanic.normal ?_
  exact hQ _ _ _ _ _ _

set_option maxHeartbeats 4000000 in
theorem readJournal_some (b : Nat) (fv : Value) (D : Dk) (w : World) (h : DiskAt w b fv D) (hz : D.read 1 ≠ zer) :
    Calls Tryd.prog 106 #[.pointer (some ⟨b, 0, none⟩)] w fun e w' => ∃ v, e = .returned (.tuple #[.agg #[.int .i64 (D.jF : Int), v], .bool true]) ∧ Row w' w.heap.size 9 v (strv (D.jE D.jN)) ∧ Below w.heap.size w w' := by
  have hb0 : Below w.heap.size w (w.alloc (.cells #[.int .i64 0, .slice none 0 0] 126)) := (Below.refl _ _).alloc (Nat.le_refl _) _
  have hJ0 : Blk (w.alloc (.cells #[.int .i64 0, .slice none 0 0] 126)) w.heap.size 126 [.int .i64 0, .slice none 0 0] := Blk.new w _ _
  have hrd : Calls Tryd.prog 116 #[.pointer (some ⟨b, 0, none⟩), .int .i64 1] (w.alloc (.cells #[.int .i64 0, .slice none 0 0] 126)) fun e w' => e = .returned (.agg (u8s (D.read 1)).toArray) ∧ Below (w.alloc (.cells #[.int .i64 0, .slice none 0 0] 126)).heap.size (w.alloc (.cells #[.int .i64 0, .slice none 0 0] 126)) w' := read_any b fv D 1 _ (h.below hb0) (by omega)
  have hsl := (h.ok.read (i := 1) (by omega)).len
  have hzz0 : zer.length = 128 := by simp [zer]
  have HF : Aside (D.jF = (D.read 1).getD 13 0 ∧ D.jN = (D.read 1).getD 14 0) := ⟨rfl, rfl⟩
  have HDD : Aside (DiskAt w b fv D) := h
  have HNZ : Aside (D.read 1 ≠ zer) := hz
  have HBY : Aside (∀ k, (D.read 1).getD k 0 < 256) := fun k => byt_ok (h.ok.read (i := 1) (by omega)).byt k
  have hzz : Tryd.zeroCells130 = (u8s zer).toArray := zeroSec
  have hzl : Tryd.zeroCells130.toList.length = 128 := by rw [zeroSec]; simp
  have hbd : ∀ wx, (Instr.build 130 #[]).run Tryd.prog wx = .ok (.agg Tryd.zeroCells130) wx := fun wx => run_build wx 130 _ _ (by kernel_rfl)
  go_enter Tryd.func106, Tryd.ntmps106
  go_wp2_with fail
  have hs0 : w.heap.size < (w.alloc (.cells #[.int .i64 0, .slice none 0 0] 126)).heap.size := by simp
  generalize w.alloc (.cells #[.int .i64 0, .slice none 0 0] 126) = w0 at *
  refine hrd.mono ?_
  rintro e w1 ⟨rfl, hb1⟩
  have hb2 : Below w0.heap.size w0 (w1.alloc (.cells Tryd.zeroCells130 130)) := hb1.alloc hb1.size _
  have hB := Blk.newA w1 130 Tryd.zeroCells130
  clear hz h
  generalize D.read 1 = s at *
  have hB3 := hB.fill (u8s s) (by simp [hsl, hzl])
  have hb3 := Below.setCells hb2 w1.heap.size 0 hb1.size (u8s s)
  have hJ3 := hJ0.below hb3 hJ0.lt
  have HZ : Hid (Tryd.zeroCells130 = (u8s zer).toArray) := hzz
  clear hzz
  have hth := hB.there 0 128 (by omega)
  have hrg := hB3.range
  have HA : Hid ((u8s s).toArray = (u8s s).toArray) := rfl
  go_wp2_with (first | ((with_reducible refine stSec ?_ (.tmp 4) (.tmp 8) ?_ w1.heap.size 0 s ?_ ?_ hth hsl ?_); rfl; rfl; rfl; rfl) | ((with_reducible refine ldSec ?_ (.tmp 4) ?_ w1.heap.size 0 ?_ s hrg hsl ?_); rfl; rfl; rfl; show Go.Shut _))
  try unfold Go.Shut
  clear hth hrg
  have H3 : Aside (Below w.heap.size w ((w1.alloc (.cells Tryd.zeroCells130 130)).setCells w1.heap.size 0 (u8s s))) := hb0.trans (hb3.mono hb0.size)
  generalize (w1.alloc (.cells Tryd.zeroCells130 130)).setCells w1.heap.size 0 (u8s s) = w3 at *
  have hc13 := hB3.cell 13
  have hc14 := hB3.cell 14
  rw [u8s_get s 13 (by omega)] at hc13
  rw [u8s_get s 14 (by omega)] at hc14
  clear hB3 hB hb2 hb3
  generalize hqa : (u8s s).toArray = arr at *
  clear HA
  refine .inl ?_
  refine eqlSec (by rfl) (.tmp 9) (.tmp 10) (by rfl) s zer arr Tryd.zeroCells130 (by rfl) (by rfl) hqa.symm HZ.out hsl hzz0 ?_
  have hd : decide (s = zer) = false := by simpa using HNZ.out
  rw [hd]
  refine wpList_nil ?_
  clear hqa HZ hbd hzl hd
  generalize Tryd.zeroCells130 = zz at *
  rw [← HF.out.1] at hc13
  rw [← HF.out.2] at hc14
  have hf256 : D.jF < 256 := by rw [HF.out.1]; exact HBY.out 13
  have hn256 : D.jN < 256 := by rw [HF.out.2]; exact HBY.out 14
  have hra := fun wx (hx : Below w.heap.size w wx) => readAdded_any b D.jN fv D wx (HDD.out.below hx)
  generalize hje : D.jE D.jN = JE at *
  generalize hjf : D.jF = f at *
  have HE : Aside (D.jE D.jN = JE ∧ D.jF = f) := ⟨hje, hjf⟩
  clear hje hjf
  generalize D.jN = cnt at hra hn256 hc14
  clear HF HBY
  go_wp2_with fail
  refine rjR4_wp w1.heap.size f cnt w3 _ hc13 hc14 hf256 hn256 ?_
  intro u13 u14 u15 u16 u17 u18
  have H4 : Aside (Below w.heap.size w w3.drew ∧ Blk w3.drew w.heap.size 126 [.int .i64 0, .slice none 0 0]) := ⟨H3.out.drew, hJ3⟩
  generalize w3.drew = w4 at *
  have hra4 := hra w4 H4.out.1
  clear hra hc13 hc14 hJ3 H3
  go_wp2_with fail
  refine hra4.mono ?_
  rintro e w5 ⟨v, rfl, hrow, hb5⟩
  clear hra4
  have hJ5 := H4.out.2.below hb5 H4.out.2.lt
  have hb6 : Below w.heap.size w w5 := H4.out.1.trans (hb5.mono H4.out.1.size)
  obtain ⟨p, cap, rfl⟩ := row_slice hrow
  have hc0 := hJ5.cell 0
  have hc1 := hJ5.cell 1
  have hf0 := hJ5.frozen 0
  have hf1 := hJ5.frozen 1
  simp only [List.getElem?_cons_zero, List.getElem?_cons_succ] at hc0 hc1
  have HJ := (hJ5.set 0 (.int .i64 (f : Int))).set 1 (.slice p JE.length cap)
  simp only [List.set_cons_zero, List.set_cons_succ] at HJ
  have Hb : Below w.heap.size w ((w5.setCell ⟨w.heap.size, 0, none⟩ (.int .i64 (f : Int))).setCell ⟨w.heap.size, 1, none⟩ (.slice p JE.length cap)) := (hb6.setCell (Nat.le_refl _) _).setCell (Nat.le_refl _) _
  have hc1' : (w5.setCell ⟨w.heap.size, 0, none⟩ (.int .i64 (f : Int))).cell? ⟨w.heap.size, 1, none⟩ = some (.slice none 0 0) := by rw [cell_set_off _ _ _ _ _ (by omega)]; exact hc1
  have hf1' := (hJ5.set 0 (.int .i64 (f : Int))).frozen 1
  have hl4 : w.heap.size < w4.heap.size := H4.out.2.lt
  have hown : (Value.slice p JE.length cap).ownBlock ≠ some w.heap.size := fun e => by have := (hrow.lt _ e).1; omega
  have HR : Aside (Row ((w5.setCell ⟨w.heap.size, 0, none⟩ (.int .i64 (f : Int))).setCell ⟨w.heap.size, 1, none⟩ (.slice p JE.length cap)) w.heap.size 9 (.slice p JE.length cap) (strv JE)) := row_base (ownsRow_setCell_other (ownsRow_setCell_other hrow hown _) hown _) (Nat.le_of_lt hl4)
  clear hrow hown
  go_wp2_with fail
  exact bodyPost_ret (results_ct Tryd.results106 (by rfl) (by rfl) HJ.range Tryd.underlying126 rfl infoJ) rfl ⟨.slice p JE.length cap, by rw [HE.out.2]; rfl, by rw [HE.out.1]; exact HR.out, Hb⟩
end Go.Proofs.YtlhohmlpcgbliaaDoor
namespace Go.Proofs.YtlhohmlpcgbliaaDoor
set_option maxRecDepth 100000
open Go.RowKit
attribute [local go_sem ↓] Go.wp_at_zero Go.wp_at_succ

section
variable {P : Program} {ops : Array Oper} {Q : Exit → Act → World → Prop} {S : World → Prop}
theorem wpS_w {k fuel : Nat} {o : Oper} {v : Value} {listed : Array Bool} {a : Act} {w : World} (h0 : ops[k]? = some o) (hs : Region.noSelect ops = true) (hf : Region.free .any ops listed k = true)
    (hr : (Region.ready .any ops listed).contains k = true) (hgd : Region.wanted o (yielded ops a.tmps) = true) (d : Option Nat) (hd : o.dst = d) (hS : S w) (hv : ∀ wx, S wx → (execOp a.eval o).run P wx = .ok (.value v) wx)
    (h : wpAnyH P .any ops (NoPanic Q) S fuel (listed.setIfInBounds k true) (a.put d v) w) : wpAnyH P .any ops (NoPanic Q) S (fuel + 1) listed a w :=
  wpAnyH_take h0 hs hf hr (fun c a w hq => by cases hq) (.inl ⟨hgd, hv⟩) hS (by rw [hd]; exact h)
theorem wpS_not {k fuel : Nat} {o : Oper} {listed : Array Bool} {a : Act} {w : World} (h0 : ops[k]? = some o) (hs : Region.noSelect ops = true) (hf : Region.free .any ops listed k = true)
    (hr : (Region.ready .any ops listed).contains k = true) (hgd : Region.wanted o (yielded ops a.tmps) = false) (d : Option Nat) (hd : o.dst = d) (hS : S w)
    (h : wpAnyH P .any ops (NoPanic Q) S fuel (listed.setIfInBounds k true) (a.put d undef) w) : wpAnyH P .any ops (NoPanic Q) S (fuel + 1) listed a w :=
  wpAnyH_take h0 hs hf hr (fun c a w hq => by cases hq) (.inr ⟨hgd, rfl⟩) hS (by rw [hd]; exact h)
end
theorem loadJ {w : World} {b f n c : Nat} {p : Option Addr} (h : Blk w b 126 [.int .i64 (f : Int), .slice p n c]) : (Instr.loadAt 126 (.pointer (some ⟨b, 0, none⟩))).run Tryd.prog w = .ok (jV f p n c) w :=
  run_loadAt_mid w b 0 126 [.int .i64 (f : Int), .slice p n c] _ h.range Tryd.underlying126 rfl infoJ
theorem leq_b (x y : Int) {v : Bool} (h : decide (x ≤ y) = v) (w : World) : (binOp .leq 3 (.int .i64 x) (.int .i64 y)).run Tryd.prog w = .ok (.bool v) w := by
  subst h
  simp [go_sem]
theorem eql_b (x y : Int) {v : Bool} (h : (x == y) = v) (w : World) : (binOp .eql 3 (.int .i64 x) (.int .i64 y)).run Tryd.prog w = .ok (.bool v) w := by
  subst h
  simp [go_sem]

/-- The journal, if there is one, is whole, and adds to a log of n entries or has done so. -/
def Dk.fits (D : Dk) (n : Nat) : Prop := D.read 1 = zer ∨ (D.read 1 = hdSec D.jF (D.jE D.jN).length ∧ D.jF + (D.jE D.jN).length ≤ 64 ∧ (n = D.jF ∨ n = D.jF + (D.jE D.jN).length))

set_option maxHeartbeats 2000000 in
theorem jf1_wp {c2 c3 c4 c6 c8 c9 c10 c11 c12 c13 c14 c15 c16 c17 c18 c19 c20 c21 c22 c23 c24 c25 c26 c27 c28 c29 c30 c31 c32 c33 c34 c35 c36 c37 c38 c39 c40 : Value} (b jb f n c m : Nat) (p : Option Addr) (fv : Value) (D : Dk) (w : World) (Q : Exit → Act → World → Prop) (h : DiskAt w b fv D) (hJ : Blk w jb 126 [.int .i64 (f : Int), .slice p n c]) (hf : f < 256) (hn : n < 256) (h1 : decide (D.read 1 = hdSec f n) = false)
    (hQ : ∀ (u21 u22 u23 u24 u25 u26 u27 u28 u29 u30 u31 u32 u33 u34 u35 u36 u37 u38 u39 u40 : Value) (w' : World), Below w.heap.size w w' → Q .normal ⟨#[.pointer (some ⟨b, 0, none⟩), .int .i64 (m : Int), c2, c3, .bool false, .pointer (some ⟨jb, 0, none⟩), c6, .int .i64 ((f : Int) + (n : Int)), c8, c9, c10, c11, c12, c13, c14, c15, c16, c17, c18, c19, c20, u21, u22, u23, u24, u25, u26, u27, u28, u29, u30, u31, u32, u33, u34, u35, u36, u37, u38, u39, u40], []⟩ w') :
    Code.wp Tryd.prog (rgn Tryd.f130 5) Q ⟨#[.pointer (some ⟨b, 0, none⟩), .int .i64 (m : Int), c2, c3, c4, .pointer (some ⟨jb, 0, none⟩), c6, .int .i64 ((f : Int) + (n : Int)), c8, c9, c10, c11, c12, c13, c14, c15, c16, c17, c18, c19, c20, c21, c22, c23, c24, c25, c26, c27, c28, c29, c30, c31, c32, c33, c34, c35, c36, c37, c38, c39, c40], []⟩ w := by
  have hS : (fun wx : World => Below w.heap.size w wx) w.drew := (Below.refl w.heap.size w).drew
  have hsec := (h.ok.read (i := 1) (by omega)).len
  have hsh := (hdSec_sec hf hn).len
  have hread : ∀ wx, Below w.heap.size w wx → Calls Tryd.prog 116 #[.pointer (some ⟨b, 0, none⟩), .int .i64 1] wx fun e w' => e = .returned (.agg (u8s (D.read 1)).toArray) ∧ Below wx.heap.size wx w' :=
    fun wx hx => read_any b fv D 1 wx (h.below hx) (by omega)
  have hhead : ∀ wx, Calls Tryd.prog 125 #[jV f p n c] wx fun e w' => e = .returned (.agg (u8s (hdSec f n)).toArray) ∧ Below wx.heap.size wx w' := fun wx => head_any f n c p wx hf hn
  conv => arg 2; whnf
  refine wp_region_s (fun wx : World => Below w.heap.size w wx) (by kernel_rfl) ?_
  refine wpS_pure (k := 0) (v := .pointer (some ⟨b, 0, none⟩)) (by rfl) (by kernel_rfl) (by kernel_rfl) (by kernel_rfl) (by rfl) (some 21) (by rfl) hS (fun _ _ => by kernel_rfl) ?_
  simp only [Act.put, List.setIfInBounds_toArray, List.set_cons_succ, List.set_cons_zero]
  refine wpS_pure (k := 2) (v := jV f p n c) (by rfl) (by kernel_rfl) (by kernel_rfl) (by kernel_rfl) (by rfl) (some 23) (by rfl) hS (fun wx hx => exec_ld (by rfl) (by rfl) (loadJ (hJ.below hx hJ.lt))) ?_
  simp only [Act.put, List.setIfInBounds_toArray, List.set_cons_succ, List.set_cons_zero]
  have hb0 : Below w.heap.size w w.drew := hS
  refine wpS_one (i := 1) (by kernel_rfl) (opS_call (f := 116) (vs := #[.pointer (some ⟨b, 0, none⟩), .int .i64 1]) (by rfl) (by rfl) (some 22) (by rfl) (by kernel_rfl) ((hread _ hb0).mono ?_))
  rintro e w1 ⟨rfl, hb1⟩
  have hS1 : Below w.heap.size w w1 := hb0.trans (hb1.mono hb0.size)
  refine ⟨_, rfl, hS1, ?_⟩
  simp only [Act.put, List.setIfInBounds_toArray, List.set_cons_succ, List.set_cons_zero]
  refine wpS_one (i := 3) (by kernel_rfl) (opS_call (f := 125) (vs := #[jV f p n c]) (by rfl) (by rfl) (some 24) (by rfl) (by kernel_rfl) ((hhead w1).mono ?_))
  rintro e w2 ⟨rfl, hb2⟩
  have hS2 : Below w.heap.size w w2 := hS1.trans (hb2.mono hS1.size)
  refine ⟨_, rfl, hS2, ?_⟩
  simp only [Act.put, List.setIfInBounds_toArray, List.set_cons_succ, List.set_cons_zero]
  refine wpS_pure (k := 4) (v := .bool false) (by rfl) (by kernel_rfl) (by kernel_rfl) (by kernel_rfl) (by rfl) (some 25) (by rfl) hS2 (fun wx _ => exec_bop (by rfl) (by rfl) (by rfl) (run_eqGuard_agg wx .eql 130 _ _ _ _ (by kernel_rfl)) (by rw [eql_sec wx hsec hsh, h1])) ?_
  simp only [Act.put, List.setIfInBounds_toArray, List.set_cons_succ, List.set_cons_zero]
  refine wpS_pure (k := 5) (v := .bool false) (by rfl) (by kernel_rfl) (by kernel_rfl) (by kernel_rfl) (by rfl) (some 26) (by rfl) hS2 (fun _ _ => by kernel_rfl) ?_
  simp only [Act.put, List.setIfInBounds_toArray, List.set_cons_succ, List.set_cons_zero]
  refine wpS_not (k := 6) (by rfl) (by kernel_rfl) (by kernel_rfl) (by kernel_rfl) (by kernel_rfl) (some 27) (by rfl) hS2 ?_
  simp only [Act.put, List.setIfInBounds_toArray, List.set_cons_succ, List.set_cons_zero]
  refine wpS_not (k := 7) (by rfl) (by kernel_rfl) (by kernel_rfl) (by kernel_rfl) (by kernel_rfl) (some 28) (by rfl) hS2 ?_
  simp only [Act.put, List.setIfInBounds_toArray, List.set_cons_succ, List.set_cons_zero]
  refine wpS_pure (k := 8) (v := .bool false) (by rfl) (by kernel_rfl) (by kernel_rfl) (by kernel_rfl) (by rfl) (some 29) (by rfl) hS2 (fun _ _ => by kernel_rfl) ?_
  simp only [Act.put, List.setIfInBounds_toArray, List.set_cons_succ, List.set_cons_zero]
  refine wpS_pure (k := 9) (v := .bool false) (by rfl) (by kernel_rfl) (by kernel_rfl) (by kernel_rfl) (by rfl) (some 30) (by rfl) hS2 (fun _ _ => by kernel_rfl) ?_
  simp only [Act.put, List.setIfInBounds_toArray, List.set_cons_succ, List.set_cons_zero]
  refine wpS_not (k := 10) (by rfl) (by kernel_rfl) (by kernel_rfl) (by kernel_rfl) (by kernel_rfl) (some 31) (by rfl) hS2 ?_
  simp only [Act.put, List.setIfInBounds_toArray, List.set_cons_succ, List.set_cons_zero]
  refine wpS_not (k := 11) (by rfl) (by kernel_rfl) (by kernel_rfl) (by kernel_rfl) (by kernel_rfl) (some 32) (by rfl) hS2 ?_
  simp only [Act.put, List.setIfInBounds_toArray, List.set_cons_succ, List.set_cons_zero]
  refine wpS_not (k := 12) (by rfl) (by kernel_rfl) (by kernel_rfl) (by kernel_rfl) (by kernel_rfl) (some 33) (by rfl) hS2 ?_
  simp only [Act.put, List.setIfInBounds_toArray, List.set_cons_succ, List.set_cons_zero]
  refine wpS_not (k := 13) (by rfl) (by kernel_rfl) (by kernel_rfl) (by kernel_rfl) (by kernel_rfl) (some 34) (by rfl) hS2 ?_
  simp only [Act.put, List.setIfInBounds_toArray, List.set_cons_succ, List.set_cons_zero]
  refine wpS_not (k := 14) (by rfl) (by kernel_rfl) (by kernel_rfl) (by kernel_rfl) (by kernel_rfl) (some 35) (by rfl) hS2 ?_
  simp only [Act.put, List.setIfInBounds_toArray, List.set_cons_succ, List.set_cons_zero]
  refine wpS_not (k := 15) (by rfl) (by kernel_rfl) (by kernel_rfl) (by kernel_rfl) (by kernel_rfl) (some 36) (by rfl) hS2 ?_
  simp only [Act.put, List.setIfInBounds_toArray, List.set_cons_succ, List.set_cons_zero]
  refine wpS_not (k := 16) (by rfl) (by kernel_rfl) (by kernel_rfl) (by kernel_rfl) (by kernel_rfl) (some 37) (by rfl) hS2 ?_
  simp only [Act.put, List.setIfInBounds_toArray, List.set_cons_succ, List.set_cons_zero]
  refine wpS_not (k := 17) (by rfl) (by kernel_rfl) (by kernel_rfl) (by kernel_rfl) (by kernel_rfl) (some 38) (by rfl) hS2 ?_
  simp only [Act.put, List.setIfInBounds_toArray, List.set_cons_succ, List.set_cons_zero]
  refine wpS_not (k := 18) (by rfl) (by kernel_rfl) (by kernel_rfl) (by kernel_rfl) (by kernel_rfl) (some 39) (by rfl) hS2 ?_
  simp only [Act.put, List.setIfInBounds_toArray, List.set_cons_succ, List.set_cons_zero]
  refine wpS_pure (k := 19) (v := .bool false) (by rfl) (by kernel_rfl) (by kernel_rfl) (by kernel_rfl) (by rfl) (some 40) (by rfl) hS2 (fun _ _ => by kernel_rfl) ?_
  simp only [Act.put, List.setIfInBounds_toArray, List.set_cons_succ, List.set_cons_zero]
  refine wpS_pure (k := 20) (v := .bool false) (by rfl) (by kernel_rfl) (by kernel_rfl) (by kernel_rfl) (by rfl) (some 4) (by rfl) hS2 (fun _ _ => by kernel_rfl) ?_
  simp only [Act.put, List.setIfInBounds_toArray, List.set_cons_succ, List.set_cons_zero]
  refine wpAnyH_done (by kernel_rfl) ?_ _
  refine NoPanic.normal ?_
  exact hQ _ _ _ _ _ _ _ _ _ _ _ _ _ _ _ _ _ _ _ _ w2 hS2

set_option maxHeartbeats 2000000 in
theorem jf2_wp {c2 c3 c4 c6 c8 c9 c10 c11 c12 c13 c14 c15 c16 c17 c18 c19 c20 c21 c22 c23 c24 c25 c26 c27 c28 c29 c30 c31 c32 c33 c34 c35 c36 c37 c38 c39 c40 : Value} (b jb f n c m : Nat) (p : Option Addr) (fv : Value) (D : Dk) (w : World) (Q : Exit → Act → World → Prop) (h : DiskAt w b fv D) (hJ : Blk w jb 126 [.int .i64 (f : Int), .slice p n c]) (hf : f < 256) (hn : n < 256) (h1 : decide (D.read 1 = hdSec f n) = true) (h2 : decide ((f : Int) + (n : Int) ≤ 64) = false)
    (hQ : ∀ (u21 u22 u23 u24 u25 u26 u27 u28 u29 u30 u31 u32 u33 u34 u35 u36 u37 u38 u39 u40 : Value) (w' : World), Below w.heap.size w w' → Q .normal ⟨#[.pointer (some ⟨b, 0, none⟩), .int .i64 (m : Int), c2, c3, .bool false, .pointer (some ⟨jb, 0, none⟩), c6, .int .i64 ((f : Int) + (n : Int)), c8, c9, c10, c11, c12, c13, c14, c15, c16, c17, c18, c19, c20, u21, u22, u23, u24, u25, u26, u27, u28, u29, u30, u31, u32, u33, u34, u35, u36, u37, u38, u39, u40], []⟩ w') :
    Code.wp Tryd.prog (rgn Tryd.f130 5) Q ⟨#[.pointer (some ⟨b, 0, none⟩), .int .i64 (m : Int), c2, c3, c4, .pointer (some ⟨jb, 0, none⟩), c6, .int .i64 ((f : Int) + (n : Int)), c8, c9, c10, c11, c12, c13, c14, c15, c16, c17, c18, c19, c20, c21, c22, c23, c24, c25, c26, c27, c28, c29, c30, c31, c32, c33, c34, c35, c36, c37, c38, c39, c40], []⟩ w := by
  have hS : (fun wx : World => Below w.heap.size w wx) w.drew := (Below.refl w.heap.size w).drew
  have hsec := (h.ok.read (i := 1) (by omega)).len
  have hsh := (hdSec_sec hf hn).len
  have hread : ∀ wx, Below w.heap.size w wx → Calls Tryd.prog 116 #[.pointer (some ⟨b, 0, none⟩), .int .i64 1] wx fun e w' => e = .returned (.agg (u8s (D.read 1)).toArray) ∧ Below wx.heap.size wx w' :=
    fun wx hx => read_any b fv D 1 wx (h.below hx) (by omega)
  have hhead : ∀ wx, Calls Tryd.prog 125 #[jV f p n c] wx fun e w' => e = .returned (.agg (u8s (hdSec f n)).toArray) ∧ Below wx.heap.size wx w' := fun wx => head_any f n c p wx hf hn
  conv => arg 2; whnf
  refine wp_region_s (fun wx : World => Below w.heap.size w wx) (by kernel_rfl) ?_
  refine wpS_pure (k := 0) (v := .pointer (some ⟨b, 0, none⟩)) (by rfl) (by kernel_rfl) (by kernel_rfl) (by kernel_rfl) (by rfl) (some 21) (by rfl) hS (fun _ _ => by kernel_rfl) ?_
  simp only [Act.put, List.setIfInBounds_toArray, List.set_cons_succ, List.set_cons_zero]
  refine wpS_pure (k := 2) (v := jV f p n c) (by rfl) (by kernel_rfl) (by kernel_rfl) (by kernel_rfl) (by rfl) (some 23) (by rfl) hS (fun wx hx => exec_ld (by rfl) (by rfl) (loadJ (hJ.below hx hJ.lt))) ?_
  simp only [Act.put, List.setIfInBounds_toArray, List.set_cons_succ, List.set_cons_zero]
  have hb0 : Below w.heap.size w w.drew := hS
  refine wpS_one (i := 1) (by kernel_rfl) (opS_call (f := 116) (vs := #[.pointer (some ⟨b, 0, none⟩), .int .i64 1]) (by rfl) (by rfl) (some 22) (by rfl) (by kernel_rfl) ((hread _ hb0).mono ?_))
  rintro e w1 ⟨rfl, hb1⟩
  have hS1 : Below w.heap.size w w1 := hb0.trans (hb1.mono hb0.size)
  refine ⟨_, rfl, hS1, ?_⟩
  simp only [Act.put, List.setIfInBounds_toArray, List.set_cons_succ, List.set_cons_zero]
  refine wpS_one (i := 3) (by kernel_rfl) (opS_call (f := 125) (vs := #[jV f p n c]) (by rfl) (by rfl) (some 24) (by rfl) (by kernel_rfl) ((hhead w1).mono ?_))
  rintro e w2 ⟨rfl, hb2⟩
  have hS2 : Below w.heap.size w w2 := hS1.trans (hb2.mono hS1.size)
  refine ⟨_, rfl, hS2, ?_⟩
  simp only [Act.put, List.setIfInBounds_toArray, List.set_cons_succ, List.set_cons_zero]
  refine wpS_pure (k := 4) (v := .bool true) (by rfl) (by kernel_rfl) (by kernel_rfl) (by kernel_rfl) (by rfl) (some 25) (by rfl) hS2 (fun wx _ => exec_bop (by rfl) (by rfl) (by rfl) (run_eqGuard_agg wx .eql 130 _ _ _ _ (by kernel_rfl)) (by rw [eql_sec wx hsec hsh, h1])) ?_
  simp only [Act.put, List.setIfInBounds_toArray, List.set_cons_succ, List.set_cons_zero]
  refine wpS_pure (k := 5) (v := .bool true) (by rfl) (by kernel_rfl) (by kernel_rfl) (by kernel_rfl) (by rfl) (some 26) (by rfl) hS2 (fun _ _ => by kernel_rfl) ?_
  simp only [Act.put, List.setIfInBounds_toArray, List.set_cons_succ, List.set_cons_zero]
  refine wpS_w (k := 6) (v := .int .i64 ((f : Int) + (n : Int))) (by rfl) (by kernel_rfl) (by kernel_rfl) (by kernel_rfl) (by kernel_rfl) (some 27) (by rfl) hS2 (fun _ _ => by kernel_rfl) ?_
  simp only [Act.put, List.setIfInBounds_toArray, List.set_cons_succ, List.set_cons_zero]
  refine wpS_w (k := 7) (v := .bool false) (by rfl) (by kernel_rfl) (by kernel_rfl) (by kernel_rfl) (by kernel_rfl) (some 28) (by rfl) hS2 (fun wx _ => exec_bop (by rfl) (by rfl) (by rfl) (by kernel_rfl) (leq_b _ _ h2 wx)) ?_
  simp only [Act.put, List.setIfInBounds_toArray, List.set_cons_succ, List.set_cons_zero]
  refine wpS_pure (k := 8) (v := .bool false) (by rfl) (by kernel_rfl) (by kernel_rfl) (by kernel_rfl) (by rfl) (some 29) (by rfl) hS2 (fun _ _ => by kernel_rfl) ?_
  simp only [Act.put, List.setIfInBounds_toArray, List.set_cons_succ, List.set_cons_zero]
  refine wpS_pure (k := 9) (v := .bool false) (by rfl) (by kernel_rfl) (by kernel_rfl) (by kernel_rfl) (by rfl) (some 30) (by rfl) hS2 (fun _ _ => by kernel_rfl) ?_
  simp only [Act.put, List.setIfInBounds_toArray, List.set_cons_succ, List.set_cons_zero]
  refine wpS_not (k := 10) (by rfl) (by kernel_rfl) (by kernel_rfl) (by kernel_rfl) (by kernel_rfl) (some 31) (by rfl) hS2 ?_
  simp only [Act.put, List.setIfInBounds_toArray, List.set_cons_succ, List.set_cons_zero]
  refine wpS_not (k := 11) (by rfl) (by kernel_rfl) (by kernel_rfl) (by kernel_rfl) (by kernel_rfl) (some 32) (by rfl) hS2 ?_
  simp only [Act.put, List.setIfInBounds_toArray, List.set_cons_succ, List.set_cons_zero]
  refine wpS_not (k := 12) (by rfl) (by kernel_rfl) (by kernel_rfl) (by kernel_rfl) (by kernel_rfl) (some 33) (by rfl) hS2 ?_
  simp only [Act.put, List.setIfInBounds_toArray, List.set_cons_succ, List.set_cons_zero]
  refine wpS_not (k := 13) (by rfl) (by kernel_rfl) (by kernel_rfl) (by kernel_rfl) (by kernel_rfl) (some 34) (by rfl) hS2 ?_
  simp only [Act.put, List.setIfInBounds_toArray, List.set_cons_succ, List.set_cons_zero]
  refine wpS_not (k := 14) (by rfl) (by kernel_rfl) (by kernel_rfl) (by kernel_rfl) (by kernel_rfl) (some 35) (by rfl) hS2 ?_
  simp only [Act.put, List.setIfInBounds_toArray, List.set_cons_succ, List.set_cons_zero]
  refine wpS_not (k := 15) (by rfl) (by kernel_rfl) (by kernel_rfl) (by kernel_rfl) (by kernel_rfl) (some 36) (by rfl) hS2 ?_
  simp only [Act.put, List.setIfInBounds_toArray, List.set_cons_succ, List.set_cons_zero]
  refine wpS_not (k := 16) (by rfl) (by kernel_rfl) (by kernel_rfl) (by kernel_rfl) (by kernel_rfl) (some 37) (by rfl) hS2 ?_
  simp only [Act.put, List.setIfInBounds_toArray, List.set_cons_succ, List.set_cons_zero]
  refine wpS_not (k := 17) (by rfl) (by kernel_rfl) (by kernel_rfl) (by kernel_rfl) (by kernel_rfl) (some 38) (by rfl) hS2 ?_
  simp only [Act.put, List.setIfInBounds_toArray, List.set_cons_succ, List.set_cons_zero]
  refine wpS_not (k := 18) (by rfl) (by kernel_rfl) (by kernel_rfl) (by kernel_rfl) (by kernel_rfl) (some 39) (by rfl) hS2 ?_
  simp only [Act.put, List.setIfInBounds_toArray, List.set_cons_succ, List.set_cons_zero]
  refine wpS_pure (k := 19) (v := .bool false) (by rfl) (by kernel_rfl) (by kernel_rfl) (by kernel_rfl) (by rfl) (some 40) (by rfl) hS2 (fun _ _ => by kernel_rfl) ?_
  simp only [Act.put, List.setIfInBounds_toArray, List.set_cons_succ, List.set_cons_zero]
  refine wpS_pure (k := 20) (v := .bool false) (by rfl) (by kernel_rfl) (by kernel_rfl) (by kernel_rfl) (by rfl) (some 4) (by rfl) hS2 (fun _ _ => by kernel_rfl) ?_
  simp only [Act.put, List.setIfInBounds_toArray, List.set_cons_succ, List.set_cons_zero]
  refine wpAnyH_done (by kernel_rfl) ?_ _
  refine NoPanic.normal ?_
  exact hQ _ _ _ _ _ _ _ _ _ _ _ _ _ _ _ _ _ _ _ _ w2 hS2

set_option maxHeartbeats 2000000 in
theorem jf3_wp {c2 c3 c4 c6 c8 c9 c10 c11 c12 c13 c14 c15 c16 c17 c18 c19 c20 c21 c22 c23 c24 c25 c26 c27 c28 c29 c30 c31 c32 c33 c34 c35 c36 c37 c38 c39 c40 : Value} (b jb f n c m : Nat) (p : Option Addr) (fv : Value) (D : Dk) (w : World) (Q : Exit → Act → World → Prop) (h : DiskAt w b fv D) (hJ : Blk w jb 126 [.int .i64 (f : Int), .slice p n c]) (hf : f < 256) (hn : n < 256) (h1 : decide (D.read 1 = hdSec f n) = true) (h2 : decide ((f : Int) + (n : Int) ≤ 64) = true) (h3 : ((m : Int) == (f : Int)) = true)
    (hQ : ∀ (u21 u22 u23 u24 u25 u26 u27 u28 u29 u30 u31 u32 u33 u34 u35 u36 u37 u38 u39 u40 : Value) (w' : World), Below w.heap.size w w' → Q .normal ⟨#[.pointer (some ⟨b, 0, none⟩), .int .i64 (m : Int), c2, c3, .bool true, .pointer (some ⟨jb, 0, none⟩), c6, .int .i64 ((f : Int) + (n : Int)), c8, c9, c10, c11, c12, c13, c14, c15, c16, c17, c18, c19, c20, u21, u22, u23, u24, u25, u26, u27, u28, u29, u30, u31, u32, u33, u34, u35, u36, u37, u38, u39, u40], []⟩ w') :
    Code.wp Tryd.prog (rgn Tryd.f130 5) Q ⟨#[.pointer (some ⟨b, 0, none⟩), .int .i64 (m : Int), c2, c3, c4, .pointer (some ⟨jb, 0, none⟩), c6, .int .i64 ((f : Int) + (n : Int)), c8, c9, c10, c11, c12, c13, c14, c15, c16, c17, c18, c19, c20, c21, c22, c23, c24, c25, c26, c27, c28, c29, c30, c31, c32, c33, c34, c35, c36, c37, c38, c39, c40], []⟩ w := by
  have hS : (fun wx : World => Below w.heap.size w wx) w.drew := (Below.refl w.heap.size w).drew
  have hsec := (h.ok.read (i := 1) (by omega)).len
  have hsh := (hdSec_sec hf hn).len
  have hread : ∀ wx, Below w.heap.size w wx → Calls Tryd.prog 116 #[.pointer (some ⟨b, 0, none⟩), .int .i64 1] wx fun e w' => e = .returned (.agg (u8s (D.read 1)).toArray) ∧ Below wx.heap.size wx w' :=
    fun wx hx => read_any b fv D 1 wx (h.below hx) (by omega)
  have hhead : ∀ wx, Calls Tryd.prog 125 #[jV f p n c] wx fun e w' => e = .returned (.agg (u8s (hdSec f n)).toArray) ∧ Below wx.heap.size wx w' := fun wx => head_any f n c p wx hf hn
  conv => arg 2; whnf
  refine wp_region_s (fun wx : World => Below w.heap.size w wx) (by kernel_rfl) ?_
  refine wpS_pure (k := 0) (v := .pointer (some ⟨b, 0, none⟩)) (by rfl) (by kernel_rfl) (by kernel_rfl) (by kernel_rfl) (by rfl) (some 21) (by rfl) hS (fun _ _ => by kernel_rfl) ?_
  simp only [Act.put, List.setIfInBounds_toArray, List.set_cons_succ, List.set_cons_zero]
  refine wpS_pure (k := 2) (v := jV f p n c) (by rfl) (by kernel_rfl) (by kernel_rfl) (by kernel_rfl) (by rfl) (some 23) (by rfl) hS (fun wx hx => exec_ld (by rfl) (by rfl) (loadJ (hJ.below hx hJ.lt))) ?_
  simp only [Act.put, List.setIfInBounds_toArray, List.set_cons_succ, List.set_cons_zero]
  have hb0 : Below w.heap.size w w.drew := hS
  refine wpS_one (i := 1) (by kernel_rfl) (opS_call (f := 116) (vs := #[.pointer (some ⟨b, 0, none⟩), .int .i64 1]) (by rfl) (by rfl) (some 22) (by rfl) (by kernel_rfl) ((hread _ hb0).mono ?_))
  rintro e w1 ⟨rfl, hb1⟩
  have hS1 : Below w.heap.size w w1 := hb0.trans (hb1.mono hb0.size)
  refine ⟨_, rfl, hS1, ?_⟩
  simp only [Act.put, List.setIfInBounds_toArray, List.set_cons_succ, List.set_cons_zero]
  refine wpS_one (i := 3) (by kernel_rfl) (opS_call (f := 125) (vs := #[jV f p n c]) (by rfl) (by rfl) (some 24) (by rfl) (by kernel_rfl) ((hhead w1).mono ?_))
  rintro e w2 ⟨rfl, hb2⟩
  have hS2 : Below w.heap.size w w2 := hS1.trans (hb2.mono hS1.size)
  refine ⟨_, rfl, hS2, ?_⟩
  simp only [Act.put, List.setIfInBounds_toArray, List.set_cons_succ, List.set_cons_zero]
  refine wpS_pure (k := 4) (v := .bool true) (by rfl) (by kernel_rfl) (by kernel_rfl) (by kernel_rfl) (by rfl) (some 25) (by rfl) hS2 (fun wx _ => exec_bop (by rfl) (by rfl) (by rfl) (run_eqGuard_agg wx .eql 130 _ _ _ _ (by kernel_rfl)) (by rw [eql_sec wx hsec hsh, h1])) ?_
  simp only [Act.put, List.setIfInBounds_toArray, List.set_cons_succ, List.set_cons_zero]
  refine wpS_pure (k := 5) (v := .bool true) (by rfl) (by kernel_rfl) (by kernel_rfl) (by kernel_rfl) (by rfl) (some 26) (by rfl) hS2 (fun _ _ => by kernel_rfl) ?_
  simp only [Act.put, List.setIfInBounds_toArray, List.set_cons_succ, List.set_cons_zero]
  refine wpS_w (k := 6) (v := .int .i64 ((f : Int) + (n : Int))) (by rfl) (by kernel_rfl) (by kernel_rfl) (by kernel_rfl) (by kernel_rfl) (some 27) (by rfl) hS2 (fun _ _ => by kernel_rfl) ?_
  simp only [Act.put, List.setIfInBounds_toArray, List.set_cons_succ, List.set_cons_zero]
  refine wpS_w (k := 7) (v := .bool true) (by rfl) (by kernel_rfl) (by kernel_rfl) (by kernel_rfl) (by kernel_rfl) (some 28) (by rfl) hS2 (fun wx _ => exec_bop (by rfl) (by rfl) (by rfl) (by kernel_rfl) (leq_b _ _ h2 wx)) ?_
  simp only [Act.put, List.setIfInBounds_toArray, List.set_cons_succ, List.set_cons_zero]
  refine wpS_pure (k := 8) (v := .bool true) (by rfl) (by kernel_rfl) (by kernel_rfl) (by kernel_rfl) (by rfl) (some 29) (by rfl) hS2 (fun _ _ => by kernel_rfl) ?_
  simp only [Act.put, List.setIfInBounds_toArray, List.set_cons_succ, List.set_cons_zero]
  refine wpS_pure (k := 9) (v := .bool true) (by rfl) (by kernel_rfl) (by kernel_rfl) (by kernel_rfl) (by rfl) (some 30) (by rfl) hS2 (fun _ _ => by kernel_rfl) ?_
  simp only [Act.put, List.setIfInBounds_toArray, List.set_cons_succ, List.set_cons_zero]
  refine wpS_w (k := 10) (v := .int .i64 (m : Int)) (by rfl) (by kernel_rfl) (by kernel_rfl) (by kernel_rfl) (by kernel_rfl) (some 31) (by rfl) hS2 (fun _ _ => by kernel_rfl) ?_
  simp only [Act.put, List.setIfInBounds_toArray, List.set_cons_succ, List.set_cons_zero]
  refine wpS_w (k := 11) (v := .pointer (some ⟨jb, 0, none⟩)) (by rfl) (by kernel_rfl) (by kernel_rfl) (by kernel_rfl) (by kernel_rfl) (some 32) (by rfl) hS2 (fun _ _ => by kernel_rfl) ?_
  simp only [Act.put, List.setIfInBounds_toArray, List.set_cons_succ, List.set_cons_zero]
  refine wpS_w (k := 12) (v := .int .i64 (f : Int)) (by rfl) (by kernel_rfl) (by kernel_rfl) (by kernel_rfl) (by kernel_rfl) (some 33) (by rfl) hS2 (fun wx hx => exec_ld (by rfl) (by rfl) (loadInt wx jb 0 _ (by rw [(hJ.below hx hJ.lt).cell]; rfl))) ?_
  simp only [Act.put, List.setIfInBounds_toArray, List.set_cons_succ, List.set_cons_zero]
  refine wpS_w (k := 13) (v := .bool true) (by rfl) (by kernel_rfl) (by kernel_rfl) (by kernel_rfl) (by kernel_rfl) (some 34) (by rfl) hS2 (fun wx _ => exec_bop (by rfl) (by rfl) (by rfl) (by kernel_rfl) (eql_b _ _ h3 wx)) ?_
  simp only [Act.put, List.setIfInBounds_toArray, List.set_cons_succ, List.set_cons_zero]
  refine wpS_w (k := 14) (v := .bool true) (by rfl) (by kernel_rfl) (by kernel_rfl) (by kernel_rfl) (by kernel_rfl) (some 35) (by rfl) hS2 (fun _ _ => by kernel_rfl) ?_
  simp only [Act.put, List.setIfInBounds_toArray, List.set_cons_succ, List.set_cons_zero]
  refine wpS_not (k := 15) (by rfl) (by kernel_rfl) (by kernel_rfl) (by kernel_rfl) (by kernel_rfl) (some 36) (by rfl) hS2 ?_
  simp only [Act.put, List.setIfInBounds_toArray, List.set_cons_succ, List.set_cons_zero]
  refine wpS_not (k := 16) (by rfl) (by kernel_rfl) (by kernel_rfl) (by kernel_rfl) (by kernel_rfl) (some 37) (by rfl) hS2 ?_
  simp only [Act.put, List.setIfInBounds_toArray, List.set_cons_succ, List.set_cons_zero]
  refine wpS_not (k := 17) (by rfl) (by kernel_rfl) (by kernel_rfl) (by kernel_rfl) (by kernel_rfl) (some 38) (by rfl) hS2 ?_
  simp only [Act.put, List.setIfInBounds_toArray, List.set_cons_succ, List.set_cons_zero]
  refine wpS_w (k := 18) (v := .bool true) (by rfl) (by kernel_rfl) (by kernel_rfl) (by kernel_rfl) (by kernel_rfl) (some 39) (by rfl) hS2 (fun _ _ => by kernel_rfl) ?_
  simp only [Act.put, List.setIfInBounds_toArray, List.set_cons_succ, List.set_cons_zero]
  refine wpS_pure (k := 19) (v := .bool true) (by rfl) (by kernel_rfl) (by kernel_rfl) (by kernel_rfl) (by rfl) (some 40) (by rfl) hS2 (fun _ _ => by kernel_rfl) ?_
  simp only [Act.put, List.setIfInBounds_toArray, List.set_cons_succ, List.set_cons_zero]
  refine wpS_pure (k := 20) (v := .bool true) (by rfl) (by kernel_rfl) (by kernel_rfl) (by kernel_rfl) (by rfl) (some 4) (by rfl) hS2 (fun _ _ => by kernel_rfl) ?_
  simp only [Act.put, List.setIfInBounds_toArray, List.set_cons_succ, List.set_cons_zero]
  refine wpAnyH_done (by kernel_rfl) ?_ _
  refine NoPanic.normal ?_
  exact hQ _ _ _ _ _ _ _ _ _ _ _ _ _ _ _ _ _ _ _ _ w2 hS2

set_option maxHeartbeats 2000000 in
theorem jf4_wp {c2 c3 c4 c6 c8 c9 c10 c11 c12 c13 c14 c15 c16 c17 c18 c19 c20 c21 c22 c23 c24 c25 c26 c27 c28 c29 c30 c31 c32 c33 c34 c35 c36 c37 c38 c39 c40 : Value} (b jb f n c m : Nat) (p : Option Addr) (fv : Value) (D : Dk) (w : World) (Q : Exit → Act → World → Prop) (h : DiskAt w b fv D) (hJ : Blk w jb 126 [.int .i64 (f : Int), .slice p n c]) (hf : f < 256) (hn : n < 256) (h1 : decide (D.read 1 = hdSec f n) = true) (h2 : decide ((f : Int) + (n : Int) ≤ 64) = true) (h3 : ((m : Int) == (f : Int)) = false) (h4 : ((m : Int) == (f : Int) + (n : Int)) = true)
    (hQ : ∀ (u21 u22 u23 u24 u25 u26 u27 u28 u29 u30 u31 u32 u33 u34 u35 u36 u37 u38 u39 u40 : Value) (w' : World), Below w.heap.size w w' → Q .normal ⟨#[.pointer (some ⟨b, 0, none⟩), .int .i64 (m : Int), c2, c3, .bool true, .pointer (some ⟨jb, 0, none⟩), c6, .int .i64 ((f : Int) + (n : Int)), c8, c9, c10, c11, c12, c13, c14, c15, c16, c17, c18, c19, c20, u21, u22, u23, u24, u25, u26, u27, u28, u29, u30, u31, u32, u33, u34, u35, u36, u37, u38, u39, u40], []⟩ w') :
    Code.wp Tryd.prog (rgn Tryd.f130 5) Q ⟨#[.pointer (some ⟨b, 0, none⟩), .int .i64 (m : Int), c2, c3, c4, .pointer (some ⟨jb, 0, none⟩), c6, .int .i64 ((f : Int) + (n : Int)), c8, c9, c10, c11, c12, c13, c14, c15, c16, c17, c18, c19, c20, c21, c22, c23, c24, c25, c26, c27, c28, c29, c30, c31, c32, c33, c34, c35, c36, c37, c38, c39, c40], []⟩ w := by
  have hS : (fun wx : World => Below w.heap.size w wx) w.drew := (Below.refl w.heap.size w).drew
  have hsec := (h.ok.read (i := 1) (by omega)).len
  have hsh := (hdSec_sec hf hn).len
  have hread : ∀ wx, Below w.heap.size w wx → Calls Tryd.prog 116 #[.pointer (some ⟨b, 0, none⟩), .int .i64 1] wx fun e w' => e = .returned (.agg (u8s (D.read 1)).toArray) ∧ Below wx.heap.size wx w' :=
    fun wx hx => read_any b fv D 1 wx (h.below hx) (by omega)
  have hhead : ∀ wx, Calls Tryd.prog 125 #[jV f p n c] wx fun e w' => e = .returned (.agg (u8s (hdSec f n)).toArray) ∧ Below wx.heap.size wx w' := fun wx => head_any f n c p wx hf hn
  conv => arg 2; whnf
  refine wp_region_s (fun wx : World => Below w.heap.size w wx) (by kernel_rfl) ?_
  refine wpS_pure (k := 0) (v := .pointer (some ⟨b, 0, none⟩)) (by rfl) (by kernel_rfl) (by kernel_rfl) (by kernel_rfl) (by rfl) (some 21) (by rfl) hS (fun _ _ => by kernel_rfl) ?_
  simp only [Act.put, List.setIfInBounds_toArray, List.set_cons_succ, List.set_cons_zero]
  refine wpS_pure (k := 2) (v := jV f p n c) (by rfl) (by kernel_rfl) (by kernel_rfl) (by kernel_rfl) (by rfl) (some 23) (by rfl) hS (fun wx hx => exec_ld (by rfl) (by rfl) (loadJ (hJ.below hx hJ.lt))) ?_
  simp only [Act.put, List.setIfInBounds_toArray, List.set_cons_succ, List.set_cons_zero]
  have hb0 : Below w.heap.size w w.drew := hS
  refine wpS_one (i := 1) (by kernel_rfl) (opS_call (f := 116) (vs := #[.pointer (some ⟨b, 0, none⟩), .int .i64 1]) (by rfl) (by rfl) (some 22) (by rfl) (by kernel_rfl) ((hread _ hb0).mono ?_))
  rintro e w1 ⟨rfl, hb1⟩
  have hS1 : Below w.heap.size w w1 := hb0.trans (hb1.mono hb0.size)
  refine ⟨_, rfl, hS1, ?_⟩
  simp only [Act.put, List.setIfInBounds_toArray, List.set_cons_succ, List.set_cons_zero]
  refine wpS_one (i := 3) (by kernel_rfl) (opS_call (f := 125) (vs := #[jV f p n c]) (by rfl) (by rfl) (some 24) (by rfl) (by kernel_rfl) ((hhead w1).mono ?_))
  rintro e w2 ⟨rfl, hb2⟩
  have hS2 : Below w.heap.size w w2 := hS1.trans (hb2.mono hS1.size)
  refine ⟨_, rfl, hS2, ?_⟩
  simp only [Act.put, List.setIfInBounds_toArray, List.set_cons_succ, List.set_cons_zero]
  refine wpS_pure (k := 4) (v := .bool true) (by rfl) (by kernel_rfl) (by kernel_rfl) (by kernel_rfl) (by rfl) (some 25) (by rfl) hS2 (fun wx _ => exec_bop (by rfl) (by rfl) (by rfl) (run_eqGuard_agg wx .eql 130 _ _ _ _ (by kernel_rfl)) (by rw [eql_sec wx hsec hsh, h1])) ?_
  simp only [Act.put, List.setIfInBounds_toArray, List.set_cons_succ, List.set_cons_zero]
  refine wpS_pure (k := 5) (v := .bool true) (by rfl) (by kernel_rfl) (by kernel_rfl) (by kernel_rfl) (by rfl) (some 26) (by rfl) hS2 (fun _ _ => by kernel_rfl) ?_
  simp only [Act.put, List.setIfInBounds_toArray, List.set_cons_succ, List.set_cons_zero]
  refine wpS_w (k := 6) (v := .int .i64 ((f : Int) + (n : Int))) (by rfl) (by kernel_rfl) (by kernel_rfl) (by kernel_rfl) (by kernel_rfl) (some 27) (by rfl) hS2 (fun _ _ => by kernel_rfl) ?_
  simp only [Act.put, List.setIfInBounds_toArray, List.set_cons_succ, List.set_cons_zero]
  refine wpS_w (k := 7) (v := .bool true) (by rfl) (by kernel_rfl) (by kernel_rfl) (by kernel_rfl) (by kernel_rfl) (some 28) (by rfl) hS2 (fun wx _ => exec_bop (by rfl) (by rfl) (by rfl) (by kernel_rfl) (leq_b _ _ h2 wx)) ?_
  simp only [Act.put, List.setIfInBounds_toArray, List.set_cons_succ, List.set_cons_zero]
  refine wpS_pure (k := 8) (v := .bool true) (by rfl) (by kernel_rfl) (by kernel_rfl) (by kernel_rfl) (by rfl) (some 29) (by rfl) hS2 (fun _ _ => by kernel_rfl) ?_
  simp only [Act.put, List.setIfInBounds_toArray, List.set_cons_succ, List.set_cons_zero]
  refine wpS_pure (k := 9) (v := .bool true) (by rfl) (by kernel_rfl) (by kernel_rfl) (by kernel_rfl) (by rfl) (some 30) (by rfl) hS2 (fun _ _ => by kernel_rfl) ?_
  simp only [Act.put, List.setIfInBounds_toArray, List.set_cons_succ, List.set_cons_zero]
  refine wpS_w (k := 10) (v := .int .i64 (m : Int)) (by rfl) (by kernel_rfl) (by kernel_rfl) (by kernel_rfl) (by kernel_rfl) (some 31) (by rfl) hS2 (fun _ _ => by kernel_rfl) ?_
  simp only [Act.put, List.setIfInBounds_toArray, List.set_cons_succ, List.set_cons_zero]
  refine wpS_w (k := 11) (v := .pointer (some ⟨jb, 0, none⟩)) (by rfl) (by kernel_rfl) (by kernel_rfl) (by kernel_rfl) (by kernel_rfl) (some 32) (by rfl) hS2 (fun _ _ => by kernel_rfl) ?_
  simp only [Act.put, List.setIfInBounds_toArray, List.set_cons_succ, List.set_cons_zero]
  refine wpS_w (k := 12) (v := .int .i64 (f : Int)) (by rfl) (by kernel_rfl) (by kernel_rfl) (by kernel_rfl) (by kernel_rfl) (some 33) (by rfl) hS2 (fun wx hx => exec_ld (by rfl) (by rfl) (loadInt wx jb 0 _ (by rw [(hJ.below hx hJ.lt).cell]; rfl))) ?_
  simp only [Act.put, List.setIfInBounds_toArray, List.set_cons_succ, List.set_cons_zero]
  refine wpS_w (k := 13) (v := .bool false) (by rfl) (by kernel_rfl) (by kernel_rfl) (by kernel_rfl) (by kernel_rfl) (some 34) (by rfl) hS2 (fun wx _ => exec_bop (by rfl) (by rfl) (by rfl) (by kernel_rfl) (eql_b _ _ h3 wx)) ?_
  simp only [Act.put, List.setIfInBounds_toArray, List.set_cons_succ, List.set_cons_zero]
  refine wpS_w (k := 14) (v := .bool false) (by rfl) (by kernel_rfl) (by kernel_rfl) (by kernel_rfl) (by kernel_rfl) (some 35) (by rfl) hS2 (fun _ _ => by kernel_rfl) ?_
  simp only [Act.put, List.setIfInBounds_toArray, List.set_cons_succ, List.set_cons_zero]
  refine wpS_w (k := 15) (v := .int .i64 (m : Int)) (by rfl) (by kernel_rfl) (by kernel_rfl) (by kernel_rfl) (by kernel_rfl) (some 36) (by rfl) hS2 (fun _ _ => by kernel_rfl) ?_
  simp only [Act.put, List.setIfInBounds_toArray, List.set_cons_succ, List.set_cons_zero]
  refine wpS_w (k := 16) (v := .int .i64 ((f : Int) + (n : Int))) (by rfl) (by kernel_rfl) (by kernel_rfl) (by kernel_rfl) (by kernel_rfl) (some 37) (by rfl) hS2 (fun _ _ => by kernel_rfl) ?_
  simp only [Act.put, List.setIfInBounds_toArray, List.set_cons_succ, List.set_cons_zero]
  refine wpS_w (k := 17) (v := .bool true) (by rfl) (by kernel_rfl) (by kernel_rfl) (by kernel_rfl) (by kernel_rfl) (some 38) (by rfl) hS2 (fun wx _ => exec_bop (by rfl) (by rfl) (by rfl) (by kernel_rfl) (eql_b _ _ h4 wx)) ?_
  simp only [Act.put, List.setIfInBounds_toArray, List.set_cons_succ, List.set_cons_zero]
  refine wpS_w (k := 18) (v := .bool true) (by rfl) (by kernel_rfl) (by kernel_rfl) (by kernel_rfl) (by kernel_rfl) (some 39) (by rfl) hS2 (fun _ _ => by kernel_rfl) ?_
  simp only [Act.put, List.setIfInBounds_toArray, List.set_cons_succ, List.set_cons_zero]
  refine wpS_pure (k := 19) (v := .bool true) (by rfl) (by kernel_rfl) (by kernel_rfl) (by kernel_rfl) (by rfl) (some 40) (by rfl) hS2 (fun _ _ => by kernel_rfl) ?_
  simp only [Act.put, List.setIfInBounds_toArray, List.set_cons_succ, List.set_cons_zero]
  refine wpS_pure (k := 20) (v := .bool true) (by rfl) (by kernel_rfl) (by kernel_rfl) (by kernel_rfl) (by rfl) (some 4) (by rfl) hS2 (fun _ _ => by kernel_rfl) ?_
  simp only [Act.put, List.setIfInBounds_toArray, List.set_cons_succ, List.set_cons_zero]
  refine wpAnyH_done (by kernel_rfl) ?_ _
  refine NoPanic.normal ?_
  exact hQ _ _ _ _ _ _ _ _ _ _ _ _ _ _ _ _ _ _ _ _ w2 hS2

set_option maxHeartbeats 2000000 in
theorem jf5_wp {c2 c3 c4 c6 c8 c9 c10 c11 c12 c13 c14 c15 c16 c17 c18 c19 c20 c21 c22 c23 c24 c25 c26 c27 c28 c29 c30 c31 c32 c33 c34 c35 c36 c37 c38 c39 c40 : Value} (b jb f n c m : Nat) (p : Option Addr) (fv : Value) (D : Dk) (w : World) (Q : Exit → Act → World → Prop) (h : DiskAt w b fv D) (hJ : Blk w jb 126 [.int .i64 (f : Int), .slice p n c]) (hf : f < 256) (hn : n < 256) (h1 : decide (D.read 1 = hdSec f n) = true) (h2 : decide ((f : Int) + (n : Int) ≤ 64) = true) (h3 : ((m : Int) == (f : Int)) = false) (h4 : ((m : Int) == (f : Int) + (n : Int)) = false)
    (hQ : ∀ (u21 u22 u23 u24 u25 u26 u27 u28 u29 u30 u31 u32 u33 u34 u35 u36 u37 u38 u39 u40 : Value) (w' : World), Below w.heap.size w w' → Q .normal ⟨#[.pointer (some ⟨b, 0, none⟩), .int .i64 (m : Int), c2, c3, .bool false, .pointer (some ⟨jb, 0, none⟩), c6, .int .i64 ((f : Int) + (n : Int)), c8, c9, c10, c11, c12, c13, c14, c15, c16, c17, c18, c19, c20, u21, u22, u23, u24, u25, u26, u27, u28, u29, u30, u31, u32, u33, u34, u35, u36, u37, u38, u39, u40], []⟩ w') :
    Code.wp Tryd.prog (rgn Tryd.f130 5) Q ⟨#[.pointer (some ⟨b, 0, none⟩), .int .i64 (m : Int), c2, c3, c4, .pointer (some ⟨jb, 0, none⟩), c6, .int .i64 ((f : Int) + (n : Int)), c8, c9, c10, c11, c12, c13, c14, c15, c16, c17, c18, c19, c20, c21, c22, c23, c24, c25, c26, c27, c28, c29, c30, c31, c32, c33, c34, c35, c36, c37, c38, c39, c40], []⟩ w := by
  have hS : (fun wx : World => Below w.heap.size w wx) w.drew := (Below.refl w.heap.size w).drew
  have hsec := (h.ok.read (i := 1) (by omega)).len
  have hsh := (hdSec_sec hf hn).len
  have hread : ∀ wx, Below w.heap.size w wx → Calls Tryd.prog 116 #[.pointer (some ⟨b, 0, none⟩), .int .i64 1] wx fun e w' => e = .returned (.agg (u8s (D.read 1)).toArray) ∧ Below wx.heap.size wx w' :=
    fun wx hx => read_any b fv D 1 wx (h.below hx) (by omega)
  have hhead : ∀ wx, Calls Tryd.prog 125 #[jV f p n c] wx fun e w' => e = .returned (.agg (u8s (hdSec f n)).toArray) ∧ Below wx.heap.size wx w' := fun wx => head_any f n c p wx hf hn
  conv => arg 2; whnf
  refine wp_region_s (fun wx : World => Below w.heap.size w wx) (by kernel_rfl) ?_
  refine wpS_pure (k := 0) (v := .pointer (some ⟨b, 0, none⟩)) (by rfl) (by kernel_rfl) (by kernel_rfl) (by kernel_rfl) (by rfl) (some 21) (by rfl) hS (fun _ _ => by kernel_rfl) ?_
  simp only [Act.put, List.setIfInBounds_toArray, List.set_cons_succ, List.set_cons_zero]
  refine wpS_pure (k := 2) (v := jV f p n c) (by rfl) (by kernel_rfl) (by kernel_rfl) (by kernel_rfl) (by rfl) (some 23) (by rfl) hS (fun wx hx => exec_ld (by rfl) (by rfl) (loadJ (hJ.below hx hJ.lt))) ?_
  simp only [Act.put, List.setIfInBounds_toArray, List.set_cons_succ, List.set_cons_zero]
  have hb0 : Below w.heap.size w w.drew := hS
  refine wpS_one (i := 1) (by kernel_rfl) (opS_call (f := 116) (vs := #[.pointer (some ⟨b, 0, none⟩), .int .i64 1]) (by rfl) (by rfl) (some 22) (by rfl) (by kernel_rfl) ((hread _ hb0).mono ?_))
  rintro e w1 ⟨rfl, hb1⟩
  have hS1 : Below w.heap.size w w1 := hb0.trans (hb1.mono hb0.size)
  refine ⟨_, rfl, hS1, ?_⟩
  simp only [Act.put, List.setIfInBounds_toArray, List.set_cons_succ, List.set_cons_zero]
  refine wpS_one (i := 3) (by kernel_rfl) (opS_call (f := 125) (vs := #[jV f p n c]) (by rfl) (by rfl) (some 24) (by rfl) (by kernel_rfl) ((hhead w1).mono ?_))
  rintro e w2 ⟨rfl, hb2⟩
  have hS2 : Below w.heap.size w w2 := hS1.trans (hb2.mono hS1.size)
  refine ⟨_, rfl, hS2, ?_⟩
  simp only [Act.put, List.setIfInBounds_toArray, List.set_cons_succ, List.set_cons_zero]
  refine wpS_pure (k := 4) (v := .bool true) (by rfl) (by kernel_rfl) (by kernel_rfl) (by kernel_rfl) (by rfl) (some 25) (by rfl) hS2 (fun wx _ => exec_bop (by rfl) (by rfl) (by rfl) (run_eqGuard_agg wx .eql 130 _ _ _ _ (by kernel_rfl)) (by rw [eql_sec wx hsec hsh, h1])) ?_
  simp only [Act.put, List.setIfInBounds_toArray, List.set_cons_succ, List.set_cons_zero]
  refine wpS_pure (k := 5) (v := .bool true) (by rfl) (by kernel_rfl) (by kernel_rfl) (by kernel_rfl) (by rfl) (some 26) (by rfl) hS2 (fun _ _ => by kernel_rfl) ?_
  simp only [Act.put, List.setIfInBounds_toArray, List.set_cons_succ, List.set_cons_zero]
  refine wpS_w (k := 6) (v := .int .i64 ((f : Int) + (n : Int))) (by rfl) (by kernel_rfl) (by kernel_rfl) (by kernel_rfl) (by kernel_rfl) (some 27) (by rfl) hS2 (fun _ _ => by kernel_rfl) ?_
  simp only [Act.put, List.setIfInBounds_toArray, List.set_cons_succ, List.set_cons_zero]
  refine wpS_w (k := 7) (v := .bool true) (by rfl) (by kernel_rfl) (by kernel_rfl) (by kernel_rfl) (by kernel_rfl) (some 28) (by rfl) hS2 (fun wx _ => exec_bop (by rfl) (by rfl) (by rfl) (by kernel_rfl) (leq_b _ _ h2 wx)) ?_
  simp only [Act.put, List.setIfInBounds_toArray, List.set_cons_succ, List.set_cons_zero]
  refine wpS_pure (k := 8) (v := .bool true) (by rfl) (by kernel_rfl) (by kernel_rfl) (by kernel_rfl) (by rfl) (some 29) (by rfl) hS2 (fun _ _ => by kernel_rfl) ?_
  simp only [Act.put, List.setIfInBounds_toArray, List.set_cons_succ, List.set_cons_zero]
  refine wpS_pure (k := 9) (v := .bool true) (by rfl) (by kernel_rfl) (by kernel_rfl) (by kernel_rfl) (by rfl) (some 30) (by rfl) hS2 (fun _ _ => by kernel_rfl) ?_
  simp only [Act.put, List.setIfInBounds_toArray, List.set_cons_succ, List.set_cons_zero]
  refine wpS_w (k := 10) (v := .int .i64 (m : Int)) (by rfl) (by kernel_rfl) (by kernel_rfl) (by kernel_rfl) (by kernel_rfl) (some 31) (by rfl) hS2 (fun _ _ => by kernel_rfl) ?_
  simp only [Act.put, List.setIfInBounds_toArray, List.set_cons_succ, List.set_cons_zero]
  refine wpS_w (k := 11) (v := .pointer (some ⟨jb, 0, none⟩)) (by rfl) (by kernel_rfl) (by kernel_rfl) (by kernel_rfl) (by kernel_rfl) (some 32) (by rfl) hS2 (fun _ _ => by kernel_rfl) ?_
  simp only [Act.put, List.setIfInBounds_toArray, List.set_cons_succ, List.set_cons_zero]
  refine wpS_w (k := 12) (v := .int .i64 (f : Int)) (by rfl) (by kernel_rfl) (by kernel_rfl) (by kernel_rfl) (by kernel_rfl) (some 33) (by rfl) hS2 (fun wx hx => exec_ld (by rfl) (by rfl) (loadInt wx jb 0 _ (by rw [(hJ.below hx hJ.lt).cell]; rfl))) ?_
  simp only [Act.put, List.setIfInBounds_toArray, List.set_cons_succ, List.set_cons_zero]
  refine wpS_w (k := 13) (v := .bool false) (by rfl) (by kernel_rfl) (by kernel_rfl) (by kernel_rfl) (by kernel_rfl) (some 34) (by rfl) hS2 (fun wx _ => exec_bop (by rfl) (by rfl) (by rfl) (by kernel_rfl) (eql_b _ _ h3 wx)) ?_
  simp only [Act.put, List.setIfInBounds_toArray, List.set_cons_succ, List.set_cons_zero]
  refine wpS_w (k := 14) (v := .bool false) (by rfl) (by kernel_rfl) (by kernel_rfl) (by kernel_rfl) (by kernel_rfl) (some 35) (by rfl) hS2 (fun _ _ => by kernel_rfl) ?_
  simp only [Act.put, List.setIfInBounds_toArray, List.set_cons_succ, List.set_cons_zero]
  refine wpS_w (k := 15) (v := .int .i64 (m : Int)) (by rfl) (by kernel_rfl) (by kernel_rfl) (by kernel_rfl) (by kernel_rfl) (some 36) (by rfl) hS2 (fun _ _ => by kernel_rfl) ?_
  simp only [Act.put, List.setIfInBounds_toArray, List.set_cons_succ, List.set_cons_zero]
  refine wpS_w (k := 16) (v := .int .i64 ((f : Int) + (n : Int))) (by rfl) (by kernel_rfl) (by kernel_rfl) (by kernel_rfl) (by kernel_rfl) (some 37) (by rfl) hS2 (fun _ _ => by kernel_rfl) ?_
  simp only [Act.put, List.setIfInBounds_toArray, List.set_cons_succ, List.set_cons_zero]
  refine wpS_w (k := 17) (v := .bool false) (by rfl) (by kernel_rfl) (by kernel_rfl) (by kernel_rfl) (by kernel_rfl) (some 38) (by rfl) hS2 (fun wx _ => exec_bop (by rfl) (by rfl) (by rfl) (by kernel_rfl) (eql_b _ _ h4 wx)) ?_
  simp only [Act.put, List.setIfInBounds_toArray, List.set_cons_succ, List.set_cons_zero]
  refine wpS_w (k := 18) (v := .bool false) (by rfl) (by kernel_rfl) (by kernel_rfl) (by kernel_rfl) (by kernel_rfl) (some 39) (by rfl) hS2 (fun _ _ => by kernel_rfl) ?_
  simp only [Act.put, List.setIfInBounds_toArray, List.set_cons_succ, List.set_cons_zero]
  refine wpS_pure (k := 19) (v := .bool false) (by rfl) (by kernel_rfl) (by kernel_rfl) (by kernel_rfl) (by rfl) (some 40) (by rfl) hS2 (fun _ _ => by kernel_rfl) ?_
  simp only [Act.put, List.setIfInBounds_toArray, List.set_cons_succ, List.set_cons_zero]
  refine wpS_pure (k := 20) (v := .bool false) (by rfl) (by kernel_rfl) (by kernel_rfl) (by kernel_rfl) (by rfl) (some 4) (by rfl) hS2 (fun _ _ => by kernel_rfl) ?_
  simp only [Act.put, List.setIfInBounds_toArray, List.set_cons_succ, List.set_cons_zero]
  refine wpAnyH_done (by kernel_rfl) ?_ _
  refine NoPanic.normal ?_
  exact hQ _ _ _ _ _ _ _ _ _ _ _ _ _ _ _ _ _ _ _ _ w2 hS2

set_option maxHeartbeats 2000000 in
theorem fits_any (b m : Nat) (fv : Value) (D : Dk) (w : World) (h : DiskAt w b fv D) :
    Calls Tryd.prog 130 #[.pointer (some ⟨b, 0, none⟩), .int .i64 (m : Int)] w fun e w' => ∃ r : Bool, e = .returned (.bool r) ∧ (r = true ↔ D.fits m) ∧ Below w.heap.size w w' := by
  by_cases hz : D.read 1 = zer
  · refine (fits_none b (m : Int) fv D w h hz).mono ?_
    rintro e w' ⟨rfl, hb⟩
    exact ⟨true, rfl, ⟨fun _ => .inl hz, fun _ => rfl⟩, hb⟩
  · have hrj := readJournal_some b fv D w h hz
    have HD : Aside (DiskAt w b fv D) := h
    have HX : Aside (D.fits m ↔ (D.read 1 = hdSec D.jF (D.jE D.jN).length ∧ D.jF + (D.jE D.jN).length ≤ 64 ∧ (m = D.jF ∨ m = D.jF + (D.jE D.jN).length))) := by
      show _ ↔ _
      unfold Dk.fits
      constructor
      · rintro (h1 | h1)
        · exact absurd h1 hz
        · exact h1
      · exact fun h1 => .inr h1
    have hf : D.jF < 256 := byt_ok (h.ok.read (i := 1) (by omega)).byt 13
    have hl := jents_len D D.jN 12 0
    have hl' : (D.jE D.jN).length ≤ 12 := hl
    clear hz h hl
    generalize D.jE D.jN = JE at *
    generalize D.jF = f at *
    go_enter Tryd.func130, Tryd.ntmps130
    go_wp2_with fail
    refine hrj.mono ?_
    rintro e w1 ⟨v, rfl, hrow, hb1⟩
    clear hrj
    obtain ⟨p, cap, rfl⟩ := row_slice hrow
    clear hrow
    generalize JE.length = n at *
    have hJ : Blk (w1.alloc (.cells #[.int .i64 (f : Int), .slice p n cap] 126)) w1.heap.size 126 [.int .i64 (f : Int), .slice p n cap] := Blk.new w1 _ _
    have H2 : Aside (Below w.heap.size w (w1.alloc (.cells #[.int .i64 (f : Int), .slice p n cap] 126))) := hb1.alloc hb1.size _
    have hc0 := hJ.cell 0
    have hc1 := hJ.cell 1
    simp only [List.getElem?_cons_zero, List.getElem?_cons_succ] at hc0 hc1
    go_wp2_with fail
    generalize w1.alloc (.cells #[.int .i64 (f : Int), .slice p n cap] 126) = w2 at *
    clear hc0 hc1
    have hd2 := HD.out.below H2.out
    by_cases h1 : D.read 1 = hdSec f n
    · by_cases h2 : f + n ≤ 64
      · by_cases h3 : m = f
        · refine jf3_wp b w1.heap.size f n cap m p fv D w2 _ hd2 hJ hf (by omega) (decide_eq_true h1) (decide_eq_true (by omega)) (by simp; omega) ?_
          intro u21 u22 u23 u24 u25 u26 u27 u28 u29 u30 u31 u32 u33 u34 u35 u36 u37 u38 u39 u40 w3 hb3
          have H3 : Aside (Below w.heap.size w w3 ∧ D.fits m) := ⟨H2.out.trans (hb3.mono H2.out.size), HX.out.2 ⟨h1, h2, .inl h3⟩⟩
          clear h1 h2 h3 hb3
          go_wp2
          go_ret
          exact ⟨true, rfl, ⟨fun _ => H3.out.2, fun _ => rfl⟩, H3.out.1⟩
        · by_cases h4 : m = f + n
          · refine jf4_wp b w1.heap.size f n cap m p fv D w2 _ hd2 hJ hf (by omega) (decide_eq_true h1) (decide_eq_true (by omega)) (by simp; omega) (by simp; omega) ?_
            intro u21 u22 u23 u24 u25 u26 u27 u28 u29 u30 u31 u32 u33 u34 u35 u36 u37 u38 u39 u40 w3 hb3
            have H3 : Aside (Below w.heap.size w w3 ∧ D.fits m) := ⟨H2.out.trans (hb3.mono H2.out.size), HX.out.2 ⟨h1, h2, .inr h4⟩⟩
            clear h1 h2 h3 h4 hb3
            go_wp2
            go_ret
            exact ⟨true, rfl, ⟨fun _ => H3.out.2, fun _ => rfl⟩, H3.out.1⟩
          · refine jf5_wp b w1.heap.size f n cap m p fv D w2 _ hd2 hJ hf (by omega) (decide_eq_true h1) (decide_eq_true (by omega)) (by simp; omega) (by simp; omega) ?_
            intro u21 u22 u23 u24 u25 u26 u27 u28 u29 u30 u31 u32 u33 u34 u35 u36 u37 u38 u39 u40 w3 hb3
            have H3 : Aside (Below w.heap.size w w3 ∧ ¬ D.fits m) := ⟨H2.out.trans (hb3.mono H2.out.size), fun hh => by have := (HX.out.1 hh).2.2; omega⟩
            clear h1 h2 h3 h4 hb3
            go_wp2
            go_ret
            exact ⟨false, rfl, ⟨(fun hh => by cases hh), fun hh => absurd hh H3.out.2⟩, H3.out.1⟩
      · refine jf2_wp b w1.heap.size f n cap m p fv D w2 _ hd2 hJ hf (by omega) (decide_eq_true h1) (decide_eq_false (by omega)) ?_
        intro u21 u22 u23 u24 u25 u26 u27 u28 u29 u30 u31 u32 u33 u34 u35 u36 u37 u38 u39 u40 w3 hb3
        have H3 : Aside (Below w.heap.size w w3 ∧ ¬ D.fits m) := ⟨H2.out.trans (hb3.mono H2.out.size), fun hh => by have := (HX.out.1 hh).2.1; omega⟩
        clear h1 h2 hb3
        go_wp2
        go_ret
        exact ⟨false, rfl, ⟨(fun hh => by cases hh), fun hh => absurd hh H3.out.2⟩, H3.out.1⟩
    · refine jf1_wp b w1.heap.size f n cap m p fv D w2 _ hd2 hJ hf (by omega) (decide_eq_false h1) ?_
      intro u21 u22 u23 u24 u25 u26 u27 u28 u29 u30 u31 u32 u33 u34 u35 u36 u37 u38 u39 u40 w3 hb3
      have H3 : Aside (Below w.heap.size w w3 ∧ ¬ D.fits m) := ⟨H2.out.trans (hb3.mono H2.out.size), fun hh => h1 (HX.out.1 hh).1⟩
      clear h1 hb3
      go_wp2
      go_ret
      exact ⟨false, rfl, ⟨(fun hh => by cases hh), fun hh => absurd hh H3.out.2⟩, H3.out.1⟩
end Go.Proofs.YtlhohmlpcgbliaaDoor
