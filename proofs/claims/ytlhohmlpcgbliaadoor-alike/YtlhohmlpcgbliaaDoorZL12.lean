import Derived.Test.YtlhohmlpcgbliaaDoorZL7
import Derived.Test.YtlhohmlpcgbliaaDoorZQ3
import Derived.Deep.LoopGhost
import Derived.Test.YtlhohmlpcgbliaaDoorZL3
namespace Go.Proofs.YtlhohmlpcgbliaaDoor
set_option maxRecDepth 100000
open Go.RowKit
attribute [local go_sem ↓] Go.wp_at_zero Go.wp_at_succ

/-- Hash i of level l is as what lies below says. -/
def Dk.tileOk (D : Dk) (l i : Nat) : Prop := D.hashF l i = true ∧ strOf (D.slot (tileAt l).1 4 i) = D.hashB l i
theorem tilesOk_of {D : Dk} {n l : Nat} (h : ∀ k, k < l → ∀ i, i < n / 4 ^ k → D.tileOk k i) (hl : n < 4 ^ l) : D.tilesOk n := by
  intro k hk i hi
  refine h k ?_ i hi
  refine Classical.byContradiction fun hn => ?_
  have : 4 ^ l ≤ 4 ^ k := Nat.pow_le_pow_right (by omega) (by omega)
  omega

set_option maxHeartbeats 4000000 in
theorem tilesHold_any (b n : Nat) (fv : Value) (D : Dk) (w : World) (h : DiskAt w b fv D) (hn : n ≤ 64) (ht : Table w) (hg : 2 < w.heap.size) :
    Calls Tryd.prog 129 #[.pointer (some ⟨b, 0, none⟩), .int .i64 (n : Int)] w fun e w' => ∃ r : Bool, e = .returned (.bool r) ∧ (r = true ↔ D.tilesOk n) ∧ Below w.heap.size w w' := by
  have HD : Aside (DiskAt w b fv D ∧ Table w ∧ 2 < w.heap.size) := ⟨h, ht, hg⟩
  clear h ht hg
  go_enter Tryd.func129, Tryd.ntmps129
  go_wp2
  go_step3
  go_wp2
  go_step3
  go_wp2
  go_loopg [5, 6, 7] 4 (fun g s5 s6 s7 wr => ∃ (l size : Nat), l + g = 4 ∧ s5 = .bool true ∧ s6 = .int .i64 (l : Int) ∧ s7 = .int .i64 (size : Int) ∧ 1 ≤ size ∧ size ≤ 256 ∧ Aside (size = 4 ^ l ∧ (∀ k, k < l → ∀ i, i < n / 4 ^ k → D.tileOk k i) ∧ Below w.heap.size w wr))
  case atStart => exact ⟨0, 1, rfl, rfl, rfl, rfl, by omega, by omega, ⟨rfl, fun k hk => by omega, Below.refl _ _⟩⟩
  case round =>
    obtain ⟨l, size, hlg, rfl, rfl, rfl, hs1, hs2, HS⟩ := hrel
    by_cases hc : size ≤ n
    · have hc' : (size : Int) ≤ (n : Int) := by omega
      obtain ⟨g, rfl⟩ : ∃ g, gk = g + 1 := by
        cases gk with
        | zero =>
          have h1 := HS.out.1
          rw [show l = 4 by omega] at h1
          have h2 : (4 : Nat) ^ 4 = 256 := rfl
          omega
        | succ g => exact ⟨g, rfl⟩
      have hl3 : l ≤ 3 := by omega
      have hT := (tileAt_le l).1
      have hqn : n / size ≤ n := Nat.div_le_self _ _
      have HQ : Aside (n / size = n / 4 ^ l) := by show _ = _; rw [HS.out.1]
      have hq := fun wx => quo_gen n size wx hs1 (by omega)
      have ei1 : (n : Int) / (size : Int) = ((n / size : Nat) : Int) := (Int.natCast_ediv _ _).symm
      generalize n / size = q at *
      go_wp2_with fail
      have htl : Calls Tryd.prog 119 #[.int .i64 (l : Int)] wr fun e w' => e = .returned (.agg #[.int .i64 ((tileAt l).1 : Int), .int .i64 4]) ∧ Below wr.heap.size wr w' := tiles_any l wr (by omega)
      refine htl.mono ?_
      rintro e w1 ⟨rfl, hb1⟩
      clear htl
      generalize hst : (tileAt l).1 = start at *
      have HST : Aside ((tileAt l).1 = start) := hst
      clear hst
      have H1 : Aside (Below w.heap.size w (w1.alloc (.cells #[.int .i64 (start : Int), .int .i64 4] 119)) ∧ Blk (w1.alloc (.cells #[.int .i64 (start : Int), .int .i64 4] 119)) w1.heap.size 119 [.int .i64 (start : Int), .int .i64 4]) :=
        ⟨(HS.out.2.2.trans (hb1.mono HS.out.2.2.size)).alloc (Nat.le_trans HS.out.2.2.size hb1.size) _, Blk.new w1 _ _⟩
      go_wp2_with fail
      have hrb : w1.heap.size < (w1.alloc (.cells #[.int .i64 (start : Int), .int .i64 4] 119)).heap.size := by simp
      generalize w1.alloc (.cells #[.int .i64 (start : Int), .int .i64 4] 119) = w2 at *
      generalize w1.heap.size = rb at *
      clear hb1
      go_loopg [5, 9] 17 (fun g2 s5 s9 wy => ∃ at' : Nat, at' + g2 = 17 ∧ s5 = .bool true ∧ s9 = .int .i64 (at' : Int) ∧ at' * 4 ≤ q ∧ Aside ((∀ i, i < at' * 4 → D.tileOk l i) ∧ Below w2.heap.size w2 wy))
      case atStart => exact ⟨0, rfl, rfl, rfl, by omega, ⟨fun i hi => by omega, Below.refl _ _⟩⟩
      case round =>
        obtain ⟨at', hag, rfl, rfl, haq, HS2⟩ := hrel
        obtain ⟨g2, rfl⟩ : ∃ g2, gk = g2 + 1 := ⟨gk - 1, by omega⟩
        have hB := H1.out.2.below HS2.out.2 hrb
        have hc0 := hB.cell 0
        simp only [List.getElem?_cons_zero] at hc0
        have hb0 : Below w.heap.size w wr := H1.out.1.trans (HS2.out.2.mono H1.out.1.size)
        have hd0 := HD.out.1.below hb0
        have hrd := read_any b fv D (start + at') wr hd0 (by omega)
        have hsl := (hd0.ok.read (i := start + at') (by omega)).len
        have HSL : Aside (∀ i, i / 4 = at' → D.slot (tileAt l).1 4 i = slotL (D.read (start + at')) 4 i) := fun i hi => by unfold Dk.slot; rw [HST.out, hi]
        have eI : ((start + at' : Nat) : Int) = (start : Int) + (at' : Int) := by omega
        rw [eI] at hrd
        clear eI hd0
        generalize D.read (start + at') = s at *
        go_wp2_with fail
        refine hrd.mono ?_
        rintro e w3 ⟨rfl, hb3⟩
        clear hrd hc0
        have hz : Tryd.zeroCells130.toList.length = 128 := by rw [zeroSec]; simp
        have hN := Blk.newA w3 130 Tryd.zeroCells130
        have hth := hN.there 0 128 (by omega)
        have hN4 := hN.fill (u8s s) (by simp [hsl, hz])
        have hb4 : Below wr.heap.size wr ((w3.alloc (.cells Tryd.zeroCells130 130)).setCells w3.heap.size 0 (u8s s)) := Below.setCells (hb3.alloc hb3.size _) _ _ hb3.size _
        clear hN
        go_wp2_with (first | ((with_reducible refine stSec ?_ (.tmp 10) (.tmp 30) ?_ w3.heap.size 0 s ?_ ?_ hth hsl ?_); rfl; rfl; rfl; rfl))
        have H4 : Aside (Below w.heap.size w ((w3.alloc (.cells Tryd.zeroCells130 130)).setCells w3.heap.size 0 (u8s s)) ∧ Below w2.heap.size w2 ((w3.alloc (.cells Tryd.zeroCells130 130)).setCells w3.heap.size 0 (u8s s)) ∧ Blk ((w3.alloc (.cells Tryd.zeroCells130 130)).setCells w3.heap.size 0 (u8s s)) rb 119 [.int .i64 (start : Int), .int .i64 4] ∧ Blk ((w3.alloc (.cells Tryd.zeroCells130 130)).setCells w3.heap.size 0 (u8s s)) w3.heap.size 130 (u8s s)) :=
          ⟨hb0.trans (hb4.mono hb0.size), HS2.out.2.trans (hb4.mono HS2.out.2.size), hB.below hb4 hB.lt, hN4⟩
        clear hth hN4 hb4 hB hb0 hz
        generalize (w3.alloc (.cells Tryd.zeroCells130 130)).setCells w3.heap.size 0 (u8s s) = w4 at *
        generalize w3.heap.size = lb at *
        clear hb3
        go_loopg [5, 11] 4 (fun g3 s5 s11 wz => ∃ i : Nat, i + g3 = at' * 4 + 4 ∧ at' * 4 ≤ i ∧ i ≤ q ∧ s5 = .bool true ∧ s11 = .int .i64 (i : Int) ∧ Aside ((∀ j, j < i → D.tileOk l j) ∧ Below w4.heap.size w4 wz))
        case atStart => exact ⟨at' * 4, rfl, Nat.le_refl _, haq, rfl, by go_num, ⟨HS2.out.1, Below.refl _ _⟩⟩
        case round =>
          obtain ⟨i, hig, hia, hiq, rfl, rfl, HS3⟩ := hrel
          cases gk with
          | zero =>
            have hi4 : ¬ ((i : Int) < ((at' : Int) + 1) * 4) := by omega
            have HI : Aside (i = at' * 4 + 4) := hig
            clear hig
            go_wp2
            go_roundg g2
            case measure => omega
            case rel => exact ⟨at' + 1, by omega, rfl, by go_num, by have := HI.out; omega, ⟨fun j hj => HS3.out.1 j (by have := HI.out; omega), H4.out.2.1.trans (HS3.out.2.mono H4.out.2.1.size)⟩⟩
          | succ g3 =>
            have hi4 : (i : Int) < ((at' : Int) + 1) * 4 := by omega
            have hbw : Below w.heap.size w wr := H4.out.1.trans (HS3.out.2.mono H4.out.1.size)
            have HBW : Aside (Below w.heap.size w wr) := hbw
            by_cases hqe : i = q
            · have hqe' : ((i : Int) == (q : Int)) = true := by simp; omega
              have HQE : Aside (i = q) := hqe
              clear hqe hbw
              go_wp2
              go_roundg g
              case measure => omega
              case rel =>
                refine ⟨l + 1, size * 4, by omega, rfl, by go_num, by go_num, by omega, by omega, ⟨by rw [Nat.pow_succ, ← HS.out.1], fun k hk j hj => ?_, HBW.out⟩⟩
                by_cases hkl : k = l
                · subst hkl
                  exact HS3.out.1 j (by rw [HQE.out, HQ.out]; exact hj)
                · exact HS.out.2.1 k (by omega) j hj
            · have hqe' : ((i : Int) == (q : Int)) = false := by simp; omega
              have hhb := hashBelow_any b l i fv D wr (HD.out.1.below hbw) (by omega) (by omega) (table_at hbw HD.out.2.2 HD.out.2.1) (Nat.lt_of_lt_of_le HD.out.2.2 hbw.size)
              have HO : Aside (D.tileOk l i ↔ D.hashF l i = true ∧ strOf (slotL s 4 i) = D.hashB l i) := by
                show _ ↔ _
                unfold Dk.tileOk
                rw [HSL.out i (by omega)]
              have HN : Aside (¬ D.tileOk l i → ¬ D.tilesOk n) := fun h1 h2 => h1 (h2 l (by rw [← HS.out.1]; exact hc) i (by rw [← HQ.out]; omega))
              have HX : Aside (i < q ∧ i < at' * 4 + 4 ∧ i + (g3 + 1) = at' * 4 + 4) := ⟨by omega, by omega, hig⟩
              clear hqe hbw hig hiq
              generalize D.hashB l i = hh at *
              generalize D.hashF l i = okk at *
              go_wp2_with fail
              refine hhb.mono ?_
              rintro e w5 ⟨rfl, hb5⟩
              clear hhb
              have H5 : Aside (Below w.heap.size w w5 ∧ Below w4.heap.size w4 w5) := ⟨HBW.out.trans (hb5.mono HBW.out.size), HS3.out.2.trans (hb5.mono HS3.out.2.size)⟩
              clear hb5
              cases okk with
              | false =>
                go_wp2
                try rw [Exit.noGoto_ret]
                go_ret
                exact ⟨false, rfl, ⟨(fun h1 => by cases h1), fun h1 => absurd h1 (HN.out (fun h2 => (by have := (HO.out.1 h2).1; cases this)))⟩, H5.out.1⟩
              | true =>
                have hB5 := H4.out.2.2.1.below H5.out.2 H4.out.2.2.1.lt
                have hc0 := hB5.cell 0
                have hc1 := hB5.cell 1
                simp only [List.getElem?_cons_zero, List.getElem?_cons_succ] at hc0 hc1
                have hsa : Calls Tryd.prog 117 #[.agg #[.int .i64 (start : Int), .int .i64 4], .pointer (some ⟨lb, 0, none⟩), .int .i64 (i : Int)] w5 fun e w' => e = .returned (.slice (some ⟨lb, i % 4 * 32, none⟩) 32 (128 - i % 4 * 32)) ∧ Below w5.heap.size w5 w' := slot_any start 4 lb i w5 (.inr rfl) (by omega)
                have hl := slotL_length i hsl (.inr rfl)
                have HR : Aside (∀ wx, Below w5.heap.size w5 wx → wx.rangeAt lb (i % 4 * 32) (u8s (slotL s 4 i))) := by
                  intro wx hx
                  have hB6 := (H4.out.2.2.2.below H5.out.2 H4.out.2.2.2.lt).below hx (H4.out.2.2.2.below H5.out.2 H4.out.2.2.2.lt).lt
                  have := hB6.part (i % 4 * 32) 32
                  unfold slotL
                  rw [u8s_take, u8s_drop]
                  exact this
                generalize i % 4 * 32 = off at *
                generalize slotL s 4 i = sl at *
                go_wp2_with fail
                refine hsa.mono ?_
                rintro e w6 ⟨rfl, hb6⟩
                have hcv := convert_range (cap := 128 - off) (HR.out w6 hb6)
                rw [show sl.length = 32 from hl] at hcv
                have H6 : Aside (Below w.heap.size w w6 ∧ Below w4.heap.size w4 w6) := ⟨H5.out.1.trans (hb6.mono H5.out.1.size), H5.out.2.trans (hb6.mono H5.out.2.size)⟩
                clear hsa hb6 hB5 hc0 hc1 hl HR
                generalize strOf sl = x at *
                by_cases hx : x = hh
                · have HXX : Aside (x = hh) := hx
                  have hxb : (x.toList == hh.toList) = true := by rw [eqs]; exact decide_eq_true hx
                  clear hx
                  go_wp2
                  go_roundg g3
                  case measure => omega
                  case rel =>
                    refine ⟨i + 1, by have := HX.out.2.2; omega, by omega, by have := HX.out.1; omega, rfl, by go_num, ⟨fun j hj => ?_, H6.out.2⟩⟩
                    by_cases hji : j = i
                    · subst hji
                      exact HO.out.2 ⟨by trivial, HXX.out⟩
                    · exact HS3.out.1 j (by omega)
                · have HXX : Aside (¬ x = hh) := hx
                  have hxb : (x.toList == hh.toList) = false := by rw [eqs]; exact decide_eq_false hx
                  clear hx
                  go_wp2
                  try rw [Exit.noGoto_ret]
                  go_ret
                  exact ⟨false, rfl, ⟨(fun h1 => by cases h1), fun h1 => absurd h1 (HN.out (fun h2 => HXX.out (HO.out.1 h2).2))⟩, H6.out.1⟩
    · have hc' : ¬ (size : Int) ≤ (n : Int) := by omega
      go_wp2
      try rw [Exit.noGoto_ret]
      go_ret
      exact ⟨true, rfl, ⟨fun _ => tilesOk_of HS.out.2.1 (by rw [← HS.out.1]; omega), fun _ => rfl⟩, HS.out.2.2⟩
end Go.Proofs.YtlhohmlpcgbliaaDoor
namespace Go.Proofs.YtlhohmlpcgbliaaDoor
set_option maxRecDepth 100000
open Go.RowKit
attribute [local go_sem ↓] Go.wp_at_zero Go.wp_at_succ

theorem equal_sec (w : World) {s t : List Nat} (hs : s.length = 128) (ht : t.length = 128) : (Op.equalIn 10000 130 (.agg (u8s s).toArray) (.agg (u8s t).toArray)).run Tryd.prog w = .ok (decide (s = t)) w := by
  have hi : ∃ i, Tryd.prog.info? 5 = some i := by
    cases hq : Tryd.prog.info? 5 with
    | none => have := info5; simp [hq] at this
    | some i => exact ⟨i, rfl⟩
  obtain ⟨i, hi⟩ := hi
  rw [run_equalIn_array w 9999 _ _ Tryd.underlying130 hi, cells5, items_u8 w 9998 s t _ (fun j hj => by have := List.mem_range.1 hj; omega), range_all hs ht]
theorem Holds.span {D : Dk} {E : List ByteArray} (h : Holds D E) : D.span 0 E.length = mth (E.map leafS) := by
  have h1 := span_mth h.til (by simp) E.length E.length 0 6 (Nat.le_refl _) (by have := h.len; simpa using this) (by simp) (by simp)
  rw [h1, List.drop_zero, List.take_of_length_le (by simp)]

set_option maxHeartbeats 2000000 in
theorem sound_ok (b : Nat) (fv : Value) (D : Dk) (E : List ByteArray) (w : World) (h : DiskAt w b fv D) (hH : Holds D E) (ht : Table w) (hg : 2 < w.heap.size) :
    Calls Tryd.prog 105 #[.pointer (some ⟨b, 0, none⟩)] w fun e w' => e = .returned (.bool true) ∧ Below w.heap.size w w' := by
  have HD : Aside (DiskAt w b fv D ∧ Table w ∧ 2 < w.heap.size ∧ D.tilesOk E.length ∧ D.read 1 = zer) := ⟨h, ht, hg, hH.tilesOk, hH.jn⟩
  have hck := readCheckpoint_any b fv D w h
  rw [hH.ckN, hH.ckR, strOf_bts] at hck
  have hlen := hH.len
  have hr32 : (mth (E.map leafS)).size = 32 := mth32
  have hspan := hH.span
  have h0 := hH.ck
  have hs0 := (h.ok.read (i := 0) (by omega)).len
  generalize mth (E.map leafS) = rt at *
  generalize E.length = n at *
  clear hH ht hg h
  have HP : Aside (D.span 0 n = rt ∧ D.read 0 = ckSec n (bts rt)) := ⟨hspan, h0⟩
  have hcs : (ckSec n (bts rt)).length = 128 := h0 ▸ hs0
  clear hspan h0 hs0
  have hrt : (rt.toList == rt.toList) = true := by rw [eqs]; exact decide_eq_true rfl
  go_enter Tryd.func105, Tryd.ntmps105
  go_wp2_with fail
  refine hck.mono ?_
  rintro e w1 ⟨rfl, hb1⟩
  clear hck
  have hn64 : ¬ (n : Int) > 64 := by omega
  have hrd : Calls Tryd.prog 116 #[.pointer (some ⟨b, 0, none⟩), .int .i64 0] w1 fun e w' => e = .returned (.agg (u8s (ckSec n (bts rt))).toArray) ∧ Below w1.heap.size w1 w' := by
    have := read_any b fv D 0 w1 (HD.out.1.below hb1) (by omega)
    rw [HP.out.2] at this
    exact this
  have B1 : Aside (Below w.heap.size w w1) := hb1
  go_wp2_with fail
  refine hrd.mono ?_
  rintro e w2 ⟨rfl, hb2⟩
  have B2 : Aside (Below w.heap.size w w2) := B1.out.trans (hb2.mono B1.out.size)
  have hcp := checkpoint_any n rt w2 (by omega) (by omega)
  clear hrd hb1 hb2
  generalize ckSec n (bts rt) = s at *
  go_wp2_with fail
  refine hcp.mono ?_
  rintro e w3 ⟨rfl, hb3⟩
  have B3 : Aside (Below w.heap.size w w3) := B2.out.trans (hb3.mono B2.out.size)
  clear hcp hb3
  have heq := fun wx => equal_sec wx hcs hcs
  rw [show decide (s = s) = true by simp] at heq
  generalize (u8s s).toArray = arr at *
  have htl := tilesHold_any b n fv D w3 (HD.out.1.below B3.out) (by omega) (table_at B3.out HD.out.2.2.1 HD.out.2.1) (Nat.lt_of_lt_of_le HD.out.2.2.1 B3.out.size)
  go_wp2_with fail
  refine htl.mono ?_
  rintro e w4 ⟨r, rfl, hr, hb4⟩
  clear htl
  have hr1 : r = true := hr.2 HD.out.2.2.2.1
  subst hr1
  clear hr
  have B4 : Aside (Below w.heap.size w w4) := B3.out.trans (hb4.mono B3.out.size)
  have hsp : Calls Tryd.prog 98 #[.pointer (some ⟨b, 0, none⟩), .int .i64 0, .int .i64 (n : Int)] w4 fun e w' => e = .returned (.string rt) ∧ Below w4.heap.size w4 w' := by
    have := span_any b 0 n fv D w4 (HD.out.1.below B4.out) (by omega) (table_at B4.out HD.out.2.2.1 HD.out.2.1) (Nat.lt_of_lt_of_le HD.out.2.2.1 B4.out.size)
    rw [HP.out.1, Nat.zero_add] at this
    exact this
  clear hb4
  go_wp2_with fail
  refine hsp.mono ?_
  rintro e w5 ⟨rfl, hb5⟩
  clear hsp
  have B5 : Aside (Below w.heap.size w w5) := B4.out.trans (hb5.mono B4.out.size)
  have hft := fits_none b (n : Int) fv D w5 (HD.out.1.below B5.out) HD.out.2.2.2.2
  clear hb5
  go_wp2_with fail
  refine hft.mono ?_
  rintro e w6 ⟨rfl, hb6⟩
  have B6 : Aside (Below w.heap.size w w6) := B5.out.trans (hb6.mono B5.out.size)
  clear hft hb6
  go_wp2
  go_ret
  exact ⟨rfl, B6.out⟩
end Go.Proofs.YtlhohmlpcgbliaaDoor
namespace Go.Proofs.YtlhohmlpcgbliaaDoor
set_option maxRecDepth 100000
open Go.RowKit
attribute [local go_sem ↓] Go.wp_at_zero Go.wp_at_succ

set_option maxHeartbeats 2000000 in
theorem storeOpen_ok (s : ByteArray) (E : List ByteArray) (w : World) (hs : s.size = 25600) (hH : Holds (Dk.of (bts s)) E) (ht : Table w) (hg : 2 < w.heap.size) :
    Calls Tryd.prog 83 #[.string s] w fun e w' => ∃ b, e = .returned (.tuple #[.agg #[.pointer (some ⟨b, 0, none⟩)], .bool true]) ∧ w.heap.size ≤ b ∧ DiskAt w' b (.slice none 0 0) (Dk.of (bts s)) ∧ Below w.heap.size w w' := by
  have hb0 : Below w.heap.size w (w.alloc (.cells #[.pointer none] 97)) := (Below.refl _ _).alloc (Nat.le_refl _) _
  have hB0 : Blk (w.alloc (.cells #[.pointer none] 97)) w.heap.size 97 [.pointer none] := Blk.new w _ _
  have hop := open_any s (w.alloc (.cells #[.pointer none] 97)) hs
  have HT : Aside (Table w ∧ 2 < w.heap.size ∧ Holds (Dk.of (bts s)) E) := ⟨ht, hg, hH⟩
  clear ht hg hH hs
  generalize Dk.of (bts s) = D at *
  go_enter Tryd.func83, Tryd.ntmps83
  go_wp2_with fail
  have hs0 : w.heap.size < (w.alloc (.cells #[.pointer none] 97)).heap.size := by simp
  generalize w.alloc (.cells #[.pointer none] 97) = w0 at *
  refine hop.mono ?_
  rintro e w1 ⟨rfl, hd1, hb1⟩
  clear hop
  have hw1 : Below w.heap.size w w1 := hb0.trans (hb1.mono hb0.size)
  have hB1 := hB0.below hb1 hs0
  have hso := sound_ok w0.heap.size _ D E w1 hd1 HT.out.2.2 (table_at hw1 HT.out.2.1 HT.out.1) (Nat.lt_of_lt_of_le HT.out.2.1 hw1.size)
  go_wp2_with fail
  refine hso.mono ?_
  rintro e w2 ⟨rfl, hb2⟩
  clear hso
  have hw2 := hw1.trans (hb2.mono hw1.size)
  have hB2 := hB1.below hb2 hB1.lt
  have hd2 := hd1.below hb2
  have hc0 := hB2.cell 0
  have hf0 := hB2.frozen 0
  simp only [List.getElem?_cons_zero] at hc0
  have HB := hB2.set 0 (.pointer (some ⟨w0.heap.size, 0, none⟩))
  simp only [List.set_cons_zero] at HB
  have Hb : Below w.heap.size w (w2.setCell ⟨w.heap.size, 0, none⟩ (.pointer (some ⟨w0.heap.size, 0, none⟩))) := hw2.setCell (Nat.le_refl _) _
  have hd6 : DiskAt (w2.setCell ⟨w.heap.size, 0, none⟩ (.pointer (some ⟨w0.heap.size, 0, none⟩))) w0.heap.size (.slice none 0 0) D := ⟨hd2.ok, hd2.blk.set_other _ _ (by simp only; omega), ownsRow_setCell_other hd2.row (by simp [Value.ownBlock]) _, hd2.apart⟩
  go_wp2_with fail
  exact bodyPost_ret (results_ct Tryd.results83 (by rfl) (by rfl) HB.range Tryd.underlying97 rfl infoSto) rfl ⟨w0.heap.size, rfl, by omega, hd6, Hb⟩

set_option maxHeartbeats 2000000 in
theorem groveOpen_ok (s : ByteArray) (E : List ByteArray) (w : World) (hs : s.size = 25600) (hH : Holds (Dk.of (bts s)) E) (ht : Table w) (hg : 2 < w.heap.size) :
    Calls Tryd.prog 56 #[.string s] w fun e w' => ∃ a b, e = .returned (.tuple #[.pointer (some ⟨a, 0, none⟩), .int .i64 0]) ∧ w.heap.size ≤ a ∧ w.heap.size ≤ b ∧ LogAt w' a b (.slice none 0 0) (.slice none 0 0) (Dk.of (bts s)) [] ∧ Below w.heap.size w w' := by
  have hop := fun wx (hx : Below w.heap.size w wx) => storeOpen_ok s E wx hs hH (table_at hx hg ht) (Nat.lt_of_lt_of_le hg hx.size)
  clear ht hg hH hs
  generalize Dk.of (bts s) = D at *
  have hop0 := hop w (Below.refl _ _)
  clear hop
  go_enter Tryd.func56, Tryd.ntmps56
  go_wp2_with fail
  refine hop0.mono ?_
  rintro e w1 ⟨b, rfl, hb, hd1, hb1⟩
  clear hop0
  have hb2 : Below w.heap.size w (w1.alloc (.cells #[.pointer (some ⟨b, 0, none⟩)] 97)) := hb1.alloc hb1.size _
  have hB2 : Blk (w1.alloc (.cells #[.pointer (some ⟨b, 0, none⟩)] 97)) w1.heap.size 97 [.pointer (some ⟨b, 0, none⟩)] := Blk.new w1 _ _
  have hc2 := hB2.cell 0
  simp only [List.getElem?_cons_zero] at hc2
  have hd3 := (hd1.alloc (.cells #[.pointer (some ⟨b, 0, none⟩)] 97)).alloc (.cells #[.pointer (some ⟨b, 0, none⟩), .slice none 0 0] 99)
  have hA : Blk ((w1.alloc (.cells #[.pointer (some ⟨b, 0, none⟩)] 97)).alloc (.cells #[.pointer (some ⟨b, 0, none⟩), .slice none 0 0] 99)) (w1.heap.size + 1) 99 [.pointer (some ⟨b, 0, none⟩), .slice none 0 0] := by
    have := Blk.new (w1.alloc (.cells #[.pointer (some ⟨b, 0, none⟩)] 97)) 99 [.pointer (some ⟨b, 0, none⟩), .slice none 0 0]
    rw [show (w1.alloc (.cells #[.pointer (some ⟨b, 0, none⟩)] 97)).heap.size = w1.heap.size + 1 by simp] at this
    exact this
  have hlt := hd1.lt
  have hs1 := hb1.size
  go_wp2
  go_ret2
  exact ⟨w1.heap.size + 1, b, rfl, by omega, hb, ⟨hd3, hA, World.ownsRow_nil _ _ _ _, by omega, by simp [Value.ownBlock], by simp [Value.ownBlock], by simp [Value.ownBlock], fun k hk => by simp [Value.ownBlock] at hk⟩, hb2.alloc hb2.size _⟩

theorem bytes_range (w : World) (s : ByteArray) : (Lib.bytesWorld w 5 s).rangeAt w.heap.size 0 (u8s (bts s)) := by
  intro j v hv
  have hj : j < s.size := by
    have := (List.getElem?_eq_some_iff.1 hv).1
    rwa [u8s_length, bts_length] at this
  have h1 := u8s_get (bts s) j (by rw [bts_length]; exact hj)
  rw [h1] at hv
  injection hv with hv
  subst hv
  rw [Nat.zero_add, Lib.bytesWorld_cell _ _ _ _ hj]
  simp [bts, List.getD_eq_getElem?_getD, hj]

set_option maxHeartbeats 2000000 in
theorem copied_ok {w : World} {a b : Nat} {fv wv : Value} {D : Dk} {W : List ByteArray} {E : List ByteArray} (h : LogAt w a b fv wv D W) (hH : Holds (Dk.of D.las.flatten) E) (ht : Table w) (hg : 2 < w.heap.size) :
    Calls Tryd.prog 43 #[.pointer (some ⟨a, 0, none⟩)] w fun e w' => ∃ a' b', e = .returned (.pointer (some ⟨a', 0, none⟩)) ∧ w.heap.size ≤ a' ∧ w.heap.size ≤ b' ∧ LogAt w' a' b' (.slice none 0 0) (.slice none 0 0) (Dk.of D.las.flatten) [] ∧ Below w.heap.size w w' := by
  have hby := logBytes_any h
  have hbf := bts_flat h.disk.ok
  have hsz : (strOf D.las.flatten).size = 25600 := by rw [strOf_size (flat_byt h.disk.ok), h.disk.ok.flat]
  rw [← hbf] at hH ⊢
  have hop := fun wx (hx : Below w.heap.size w wx) => groveOpen_ok (strOf D.las.flatten) E wx hsz hH (table_at hx hg ht) (Nat.lt_of_lt_of_le hg hx.size)
  clear hH ht hg hbf
  generalize Dk.of (bts (strOf D.las.flatten)) = D' at *
  generalize strOf D.las.flatten = s at *
  go_enter Tryd.func43, Tryd.ntmps43
  go_wp2_with fail
  refine hby.mono ?_
  rintro e w1 ⟨rfl, hb1⟩
  have hcv := Lib.run_convert_string_bytes (P := Tryd.prog) w1 9 82 5 s Tryd.underlying9 Tryd.underlying82 Tryd.underlying5
  have hb2 : Below w.heap.size w (Lib.bytesWorld w1 5 s) := hb1.trans ((below_bytes w1 s).mono hb1.size)
  have hcb := convert_range (cap := grownCap w1 s.size 0 5) (bytes_range w1 s)
  rw [bts_length, strOf_bts] at hcb
  generalize grownCap w1 s.size 0 5 = cap at *
  generalize Lib.bytesWorld w1 5 s = w2 at *
  have hop2 := hop w2 hb2
  clear hby hop hsz
  go_wp2_with fail
  refine hop2.mono ?_
  rintro e w3 ⟨a', b', rfl, ha, hb, hL, hb3⟩
  clear hop2
  have hs2 := hb2.size
  go_wp2
  go_ret
  exact ⟨a', b', rfl, by omega, by omega, hL, hb2.trans (hb3.mono hb2.size)⟩
end Go.Proofs.YtlhohmlpcgbliaaDoor
namespace Go.Proofs.YtlhohmlpcgbliaaDoor
set_option maxRecDepth 100000
open Go.RowKit
attribute [local go_sem ↓] Go.wp_at_zero Go.wp_at_succ

/-- A function's code from a region on, wherever it stands. -/
def findD (n : Nat) : Code → Option Code
  | .seq a b => match a with
    | .region k ops d => if k = n then some (.seq (.region k ops d) b) else findD n b
    | a => (findD n a).or (findD n b)
  | .block _ c => findD n c
  | .loop c => findD n c
  | .scope c => findD n c
  | _ => none
def sfxD (f : Func) (n : Nat) : Code := (f.body.bind (findD n)).getD .skip

/-- What holds ahead of a round: d of the entries are in y, in k groups. -/
structure AlkI (w0 : World) (cb : Nat) (ts : List ByteArray) (g : Nat → Nat) (T : Dk) (d k o c ay az : Nat) (wr : World) : Prop where
  dle : d ≤ ts.length
  kd : k ≤ d
  cap : ts.length - d ≤ c
  sa : SA wr cb o (ts.drop d)
  bel : Below w0.heap.size w0 wr
  ex : ∃ (yb bz : Nat) (fvy fvz : Value) (Dy Dz Dx : Dk) (Ez : List ByteArray), LogAt wr ay yb fvy (.slice none 0 0) Dy [] ∧ Holds Dy (ts.take d) ∧ Same Dx Dy ∧ groF g (ts.length - k) k Dx (ts.drop d) = T ∧ LogAt wr az bz fvz (.slice none 0 0) Dz [] ∧ Holds Dz Ez ∧ Ez.length ≤ k ∧ Dis ay yb fvy.ownBlock none az bz fvz.ownBlock none ∧ (∀ j, Own ay yb fvy.ownBlock none j → w0.heap.size ≤ j) ∧ (∀ j, Own az bz fvz.ownBlock none j → w0.heap.size ≤ j)
theorem AlkI.copy {w0 : World} {cb : Nat} {ts : List ByteArray} {g : Nat → Nat} {T : Dk} {d k o c ay az : Nat} {wr : World} (h : AlkI w0 cb ts g T d k o c ay az wr) (ht : Table w0) (hg : 2 < w0.heap.size) :
    Calls Tryd.prog 43 #[.pointer (some ⟨ay, 0, none⟩)] wr fun e w' => ∃ a', e = .returned (.pointer (some ⟨a', 0, none⟩)) ∧ AlkI w0 cb ts g T d k o c a' az w' := by
  obtain ⟨yb, bz, fvy, fvz, Dy, Dz, Dx, Ez, hLy, hHy, hS, hT, hLz, hHz, hEz, hD, hoy, hoz⟩ := h.ex
  refine (copied_ok hLy hHy.again (table_at h.bel hg ht) (Nat.lt_of_lt_of_le hg h.bel.size)).mono ?_
  rintro e w' ⟨a', b', rfl, ha, hb, hL, hbl⟩
  have hsz := h.bel.size
  refine ⟨a', rfl, ⟨h.dle, h.kd, h.cap, h.sa.below hbl, h.bel.trans (hbl.mono hsz), b', bz, .slice none 0 0, fvz, Dk.of Dy.las.flatten, Dz, Dx, Ez, hL, hHy.again, hS.trans (Same.of hHy.nf hHy.ok hHy.fre), hT, hLz.below hbl, hHz, hEz, ?_, ?_, hoz⟩⟩
  · exact Dis.new ha hb (fun j hj => hLz.lt j hj)
  · intro j hj
    rcases hj with e | e | e | e
    · omega
    · omega
    · cases e
    · cases e

set_option maxHeartbeats 2000000 in
theorem al24_wp {c0 c1 c3 c4 c5 c6 c7 c8 c9 c10 c12 c13 c15 c16 c17 c18 c19 c20 c21 c22 c23 c24 c25 c26 c27 c28 c29 c30 c31 c32 c33 c34 c35 c36 c37 c38 c39 c40 c41 c42 c43 c44 c45 c46 c47 c48 c49 c50 c51 c52 c53 c54 c55 c56 c57 c58 c59 c60 c61 c62 c63 c64 c65 c66 c67 c68 c69 c70 c71 c72 c73 c74 c75 c76 c77 c78 c79 c80 c81 c82 c83 c84 c85 c86 c87 c88 c89 c90 c91 c92 c93 c94 c95 c96 c97 c98 c99 c100 c101 c102 c103 c104 c105 c106 : Value} (lv : Value) (cb : Nat) (ts : List ByteArray) (g : Nat → Nat) (T : Dk) (d k1 k o c ay az : Nat) (w0 w : World) (Q : Exit → Act → World → Prop) (h : AlkI w0 cb ts g T d k1 o c ay az w) (hR : RawI w0 lv) (ht : Table w0) (hg : 2 < w0.heap.size)
    (hQ : ∀ (u86 u87 u88 u89 u90 u91 u92 u93 u94 u95 u96 u97 u98 u99 u100 u101 : Value) (ay' : Nat) (w' : World), AlkI w0 cb ts g T d k1 o c ay' az w' → Q .normal ⟨#[c0, c1, lv, c3, c4, c5, c6, c7, c8, c9, c10, .pointer (some ⟨ay', 0, none⟩), c12, c13, .int .i64 (k : Int), c15, c16, c17, c18, c19, c20, c21, c22, c23, c24, c25, c26, c27, c28, c29, c30, c31, c32, c33, c34, c35, c36, c37, c38, c39, c40, c41, c42, c43, c44, c45, c46, c47, c48, c49, c50, c51, c52, c53, c54, c55, c56, c57, c58, c59, c60, c61, c62, c63, c64, c65, c66, c67, c68, c69, c70, c71, c72, c73, c74, c75, c76, c77, c78, c79, c80, c81, c82, c83, c84, c85, u86, u87, u88, u89, u90, u91, u92, u93, u94, u95, u96, u97, u98, u99, u100, u101, c102, c103, c104, c105, c106], []⟩ w') :
    Code.wp Tryd.prog (sfxD Tryd.f9 24) Q ⟨#[c0, c1, lv, c3, c4, c5, c6, c7, c8, c9, c10, .pointer (some ⟨ay, 0, none⟩), c12, c13, .int .i64 (k : Int), c15, c16, c17, c18, c19, c20, c21, c22, c23, c24, c25, c26, c27, c28, c29, c30, c31, c32, c33, c34, c35, c36, c37, c38, c39, c40, c41, c42, c43, c44, c45, c46, c47, c48, c49, c50, c51, c52, c53, c54, c55, c56, c57, c58, c59, c60, c61, c62, c63, c64, c65, c66, c67, c68, c69, c70, c71, c72, c73, c74, c75, c76, c77, c78, c79, c80, c81, c82, c83, c84, c85, c86, c87, c88, c89, c90, c91, c92, c93, c94, c95, c96, c97, c98, c99, c100, c101, c102, c103, c104, c105, c106], []⟩ w := by
  conv => arg 2; whnf
  obtain ⟨p, rn, rc, rfl, hraw⟩ := hR
  have hcp := h.copy ht hg
  have HI : Aside (AlkI w0 cb ts g T d k1 o c ay az w) := h
  have HQ : Aside (∀ (u86 u87 u88 u89 u90 u91 u92 u93 u94 u95 u96 u97 u98 u99 u100 u101 : Value) (ay' : Nat) (w' : World), AlkI w0 cb ts g T d k1 o c ay' az w' → Q .normal ⟨#[c0, c1, .slice p rn rc, c3, c4, c5, c6, c7, c8, c9, c10, .pointer (some ⟨ay', 0, none⟩), c12, c13, .int .i64 (k : Int), c15, c16, c17, c18, c19, c20, c21, c22, c23, c24, c25, c26, c27, c28, c29, c30, c31, c32, c33, c34, c35, c36, c37, c38, c39, c40, c41, c42, c43, c44, c45, c46, c47, c48, c49, c50, c51, c52, c53, c54, c55, c56, c57, c58, c59, c60, c61, c62, c63, c64, c65, c66, c67, c68, c69, c70, c71, c72, c73, c74, c75, c76, c77, c78, c79, c80, c81, c82, c83, c84, c85, u86, u87, u88, u89, u90, u91, u92, u93, u94, u95, u96, u97, u98, u99, u100, u101, c102, c103, c104, c105, c106], []⟩ w') := hQ
  clear h hQ ht hg
  by_cases hkr : k < rn
  · obtain ⟨gb, go', cv, rfl, hcell, hc1, hc2⟩ := hraw k hkr
    have hkr' : (k : Int) < (rn : Int) := by omega
    have hcell' : w.cell? ⟨gb, go' + k, none⟩ = some (.int .i64 cv) := by
      rw [HI.out.bel.cell (World.block_lt_of_cell? _ _ hcell)]; exact hcell
    clear hcell hraw
    cases hm : (cv.tmod 2 == 0) with
    | true =>
      go_wp2_with fail
      refine hcp.mono ?_
      rintro e w1 ⟨a', rfl, h1⟩
      have H1 : Aside (AlkI w0 cb ts g T d k1 o c a' az w1) := h1
      clear h1 hcp
      go_wp2
      exact HQ.out _ _ _ _ _ _ _ _ _ _ _ _ _ _ _ _ _ _ H1.out
    | false =>
      go_wp2
      exact HQ.out _ _ _ _ _ _ _ _ _ _ _ _ _ _ _ _ _ _ HI.out
  · have hkr' : ¬ (k : Int) < (rn : Int) := by omega
    clear hraw
    go_wp2
    exact HQ.out _ _ _ _ _ _ _ _ _ _ _ _ _ _ _ _ _ _ HI.out

/-- As AlkI, and n more wait in y. -/
structure AlkJ (w0 : World) (cb : Nat) (ts : List ByteArray) (g : Nat → Nat) (T : Dk) (d k e n o c ay az : Nat) (wr : World) : Prop where
  n1 : 1 ≤ n
  n12 : n ≤ 12
  dle : d + n ≤ ts.length
  kd : k ≤ d
  cap : ts.length - d ≤ c
  siz : ∀ s ∈ ts, s.size ≤ 40
  l64 : ts.length ≤ 64
  sa : SA wr cb o (ts.drop d)
  cbl : cb < w0.heap.size
  bel : Below w0.heap.size w0 wr
  ex : ∃ (yb bz : Nat) (fvy wvy fvz : Value) (Dy Dz Dx : Dk) (Ez : List ByteArray), LogAt wr ay yb fvy wvy Dy ((ts.drop d).take n) ∧ Holds Dy (ts.take d) ∧ Same Dx Dy ∧ groF g (ts.length - (k + 1)) (k + 1) (Dx.add ((ts.drop d).take n)) (ts.drop (d + n)) = T ∧ LogAt wr az bz fvz (.slice none 0 0) Dz [] ∧ Holds Dz Ez ∧ Ez.length ≤ e ∧ Dis ay yb fvy.ownBlock wvy.ownBlock az bz fvz.ownBlock none ∧ (∀ j, Own ay yb fvy.ownBlock wvy.ownBlock j → w0.heap.size ≤ j) ∧ (∀ j, Own az bz fvz.ownBlock none j → w0.heap.size ≤ j)
/-- y's Flush. -/
theorem AlkJ.flush {w0 : World} {cb : Nat} {ts : List ByteArray} {g : Nat → Nat} {T : Dk} {d k n o c ay az : Nat} {wr : World} (h : AlkJ w0 cb ts g T d k (k + 1) n o c ay az wr) (ht : Table w0) (hg : 2 < w0.heap.size) :
    Calls Tryd.prog 42 #[.pointer (some ⟨ay, 0, none⟩)] wr fun e w' => ∃ m, e = .returned (.tuple #[.int .i64 m, .int .i64 0]) ∧ AlkI w0 cb ts g T (d + n) (k + 1) (if c = n then o else o + n) (c - n) ay az w' := by
  obtain ⟨yb, bz, fvy, wvy, fvz, Dy, Dz, Dx, Ez, hLy, hHy, hS, hT, hLz, hHz, hEz, hD, hoy, hoz⟩ := h.ex
  have hd := h.dle
  have h64 := h.l64
  have hn1 := h.n1
  have hn2 := h.n12
  have hkd := h.kd
  have hcap := h.cap
  have hlen : ((ts.drop d).take n).length = n := by rw [List.length_take, List.length_drop]; omega
  have hz : ∀ s ∈ (ts.drop d).take n, s.size ≤ 40 := fun s hs => h.siz s (List.mem_of_mem_drop (List.mem_of_mem_take hs))
  have hN := hHy.ckN
  rw [List.length_take, Nat.min_eq_left (by omega)] at hN
  have hfd : Dy.flushed ((ts.drop d).take n) = Dy.add ((ts.drop d).take n) := by
    unfold Dk.flushed
    rw [if_neg (by rw [hlen]; omega)]
  have hH4 := add_spec hHy (W := (ts.drop d).take n) (by rw [hlen]; omega) hz (by rw [hlen, List.length_take]; omega)
  rw [show ts.take d ++ (ts.drop d).take n = ts.take (d + n) from (List.take_add ..).symm] at hH4
  refine (logFlush_any hLy hHy.nf.failed hHy.jn hz (by rw [hlen, hN]; omega) (by rw [hHy.fre]; simp) (env_of ht hg h.bel (hoy _ (.inr (.inl rfl))) (fun j hj => hoy j (.inr (.inr (.inl hj))))) (by rw [hfd]; exact hH4.nf.failed)).mono ?_
  rintro e w' ⟨rfl, fv', hL', hR'⟩
  rw [hfd] at hL'
  obtain ⟨hb4, hf4, _⟩ := FrL.below h.bel hR' (hoy _ (.inl rfl)) (hoy _ (.inr (.inl rfl))) (fun j hj => hoy j (.inr (.inr (.inl hj)))) (fun j hj => hoy j (.inr (.inr (.inr hj))))
  refine ⟨_, rfl, ⟨hd, by omega, by omega, ?_, hb4, yb, bz, fv', fvz, _, Dz, _, Ez, hL', hH4, hS.add _, hT, hLz.other hR' hD.symm, hHz, hEz, hD.step hR' (fun j hj => hLz.lt j hj), ?_, hoz⟩⟩
  · by_cases hj : n < ts.length - d
    · rw [if_neg (by omega)]
      have h1 : SA w' cb o (ts.drop d) := fun i s hs => by
        have h9 := h.sa i s hs
        rw [hb4.cell (p := ⟨cb, o + i, none⟩) h.cbl, ← h.bel.cell (p := ⟨cb, o + i, none⟩) h.cbl]; exact h9
      have := h1.drop n
      rw [List.drop_drop] at this
      exact this
    · rw [List.drop_eq_nil_of_le (by omega)]
      intro i s hs
      simp at hs
  · intro j hj
    rcases hj with e | e | e | e
    · rw [e]; exact hoy _ (.inl rfl)
    · rw [e]; exact hoy _ (.inr (.inl rfl))
    · exact hf4 j e
    · cases e

set_option maxHeartbeats 2000000 in
theorem al22_wp {c0 c1 c3 c4 c5 c6 c7 c8 c9 c10 c12 c16 c17 c18 c19 c20 c21 c22 c23 c24 c25 c26 c27 c28 c29 c30 c31 c32 c33 c34 c35 c36 c37 c38 c39 c40 c41 c42 c43 c44 c45 c46 c47 c48 c49 c50 c51 c52 c53 c54 c55 c56 c57 c58 c59 c60 c61 c62 c63 c64 c65 c66 c67 c68 c69 c70 c71 c72 c73 c74 c75 c76 c77 c78 c79 c80 c81 c82 c83 c84 c85 c86 c87 c88 c89 c90 c91 c92 c93 c94 c95 c96 c97 c98 c99 c100 c101 c102 c103 c104 c105 c106 : Value} (lv : Value) (cb : Nat) (ts : List ByteArray) (g : Nat → Nat) (T : Dk) (d k n r o c ay az : Nat) (w0 w : World) (Q : Exit → Act → World → Prop) (h : AlkJ w0 cb ts g T d k (k + 1) n o c ay az w) (hr : r = ts.length - d) (hR : RawI w0 lv) (ht : Table w0) (hg : 2 < w0.heap.size)
    (hQ : ∀ (u81 u82 u83 u84 u85 u86 u87 u88 u89 u90 u91 u92 u93 u94 u95 u96 u97 u98 u99 u100 u101 : Value) (ay' : Nat) (w' : World), AlkI w0 cb ts g T (d + n) (k + 1) (if c = n then o else o + n) (c - n) ay' az w' → Q .normal ⟨#[c0, c1, lv, c3, c4, c5, c6, c7, c8, c9, c10, .pointer (some ⟨ay', 0, none⟩), c12, .slice (some ⟨cb, if c = n then o else o + n, none⟩) (r - n) (c - n), .int .i64 (k : Int), .int .i64 (n : Int), c16, c17, c18, c19, c20, c21, c22, c23, c24, c25, c26, c27, c28, c29, c30, c31, c32, c33, c34, c35, c36, c37, c38, c39, c40, c41, c42, c43, c44, c45, c46, c47, c48, c49, c50, c51, c52, c53, c54, c55, c56, c57, c58, c59, c60, c61, c62, c63, c64, c65, c66, c67, c68, c69, c70, c71, c72, c73, c74, c75, c76, c77, c78, c79, c80, u81, u82, u83, u84, u85, u86, u87, u88, u89, u90, u91, u92, u93, u94, u95, u96, u97, u98, u99, u100, u101, c102, c103, c104, c105, c106], []⟩ w') :
    Code.wp Tryd.prog (sfxD Tryd.f9 22) Q ⟨#[c0, c1, lv, c3, c4, c5, c6, c7, c8, c9, c10, .pointer (some ⟨ay, 0, none⟩), c12, .slice (some ⟨cb, o, none⟩) r c, .int .i64 (k : Int), .int .i64 (n : Int), c16, c17, c18, c19, c20, c21, c22, c23, c24, c25, c26, c27, c28, c29, c30, c31, c32, c33, c34, c35, c36, c37, c38, c39, c40, c41, c42, c43, c44, c45, c46, c47, c48, c49, c50, c51, c52, c53, c54, c55, c56, c57, c58, c59, c60, c61, c62, c63, c64, c65, c66, c67, c68, c69, c70, c71, c72, c73, c74, c75, c76, c77, c78, c79, c80, c81, c82, c83, c84, c85, c86, c87, c88, c89, c90, c91, c92, c93, c94, c95, c96, c97, c98, c99, c100, c101, c102, c103, c104, c105, c106], []⟩ w := by
  conv => arg 2; whnf
  have hfl := h.flush ht hg
  have hdl := h.dle
  have hsl := fun wx => slice_tl wx cb o r c n (by omega) (by rw [hr]; exact h.cap)
  generalize (if c = n then o else o + n) = o7 at *
  have HP : Aside (RawI w0 lv ∧ Table w0 ∧ 2 < w0.heap.size) := ⟨hR, ht, hg⟩
  have HQ : Aside (∀ (u81 u82 u83 u84 u85 u86 u87 u88 u89 u90 u91 u92 u93 u94 u95 u96 u97 u98 u99 u100 u101 : Value) (ay' : Nat) (w' : World), AlkI w0 cb ts g T (d + n) (k + 1) o7 (c - n) ay' az w' → Q .normal ⟨#[c0, c1, lv, c3, c4, c5, c6, c7, c8, c9, c10, .pointer (some ⟨ay', 0, none⟩), c12, .slice (some ⟨cb, o7, none⟩) (r - n) (c - n), .int .i64 (k : Int), .int .i64 (n : Int), c16, c17, c18, c19, c20, c21, c22, c23, c24, c25, c26, c27, c28, c29, c30, c31, c32, c33, c34, c35, c36, c37, c38, c39, c40, c41, c42, c43, c44, c45, c46, c47, c48, c49, c50, c51, c52, c53, c54, c55, c56, c57, c58, c59, c60, c61, c62, c63, c64, c65, c66, c67, c68, c69, c70, c71, c72, c73, c74, c75, c76, c77, c78, c79, c80, u81, u82, u83, u84, u85, u86, u87, u88, u89, u90, u91, u92, u93, u94, u95, u96, u97, u98, u99, u100, u101, c102, c103, c104, c105, c106], []⟩ w') := hQ
  clear h hQ hR ht hg hdl hr
  refine wp_seq_k ?_
  intro K hK
  have HK : Aside (∀ a w, _ → K a w) := hK
  clear hK
  go_wp2_with fail
  refine hfl.mono ?_
  rintro e w1 ⟨m, rfl, h1⟩
  have H1 : Aside (AlkI w0 cb ts g T (d + n) (k + 1) o7 (c - n) ay az w1) := h1
  clear h1 hfl
  go_wp2
  refine HK.out _ _ ?_
  clear HK
  refine wp_seq_k ?_
  intro K hK
  have HK : Aside (∀ a w, _ → K a w) := hK
  clear hK
  go_wp2
  refine HK.out _ _ ?_
  refine al24_wp lv cb ts g T (d + n) (k + 1) k o7 (c - n) ay az w0 w1 Q H1.out HP.out.1 HP.out.2.1 HP.out.2.2 ?_
  intro u86 u87 u88 u89 u90 u91 u92 u93 u94 u95 u96 u97 u98 u99 u100 u101 ay' w' h2
  exact HQ.out _ _ _ _ _ _ _ _ _ _ _ _ _ _ _ _ _ _ _ _ _ _ _ h2
end Go.Proofs.YtlhohmlpcgbliaaDoor
namespace Go.Proofs.YtlhohmlpcgbliaaDoor
set_option maxRecDepth 100000
open Go.RowKit
attribute [local go_sem ↓] Go.wp_at_zero Go.wp_at_succ

theorem AlkJ.more {w0 : World} {cb : Nat} {ts : List ByteArray} {g : Nat → Nat} {T : Dk} {d k e n o c ay az : Nat} {wr : World} (h : AlkJ w0 cb ts g T d k e n o c ay az wr) {e' : Nat} (he : e ≤ e') : AlkJ w0 cb ts g T d k e' n o c ay az wr := by
  obtain ⟨yb, bz, fvy, wvy, fvz, Dy, Dz, Dx, Ez, hLy, hHy, hS, hT, hLz, hHz, hEz, hD, hoy, hoz⟩ := h.ex
  exact ⟨h.n1, h.n12, h.dle, h.kd, h.cap, h.siz, h.l64, h.sa, h.cbl, h.bel, yb, bz, fvy, wvy, fvz, Dy, Dz, Dx, Ez, hLy, hHy, hS, hT, hLz, hHz, Nat.le_trans hEz he, hD, hoy, hoz⟩
theorem AlkJ.below {w0 : World} {cb : Nat} {ts : List ByteArray} {g : Nat → Nat} {T : Dk} {d k e n o c ay az : Nat} {wr w' : World} (h : AlkJ w0 cb ts g T d k e n o c ay az wr) (hb : Below wr.heap.size wr w') : AlkJ w0 cb ts g T d k e n o c ay az w' := by
  obtain ⟨yb, bz, fvy, wvy, fvz, Dy, Dz, Dx, Ez, hLy, hHy, hS, hT, hLz, hHz, hEz, hD, hoy, hoz⟩ := h.ex
  exact ⟨h.n1, h.n12, h.dle, h.kd, h.cap, h.siz, h.l64, h.sa.below hb, h.cbl, h.bel.trans (hb.mono h.bel.size), yb, bz, fvy, wvy, fvz, Dy, Dz, Dx, Ez, hLy.below hb, hHy, hS, hT, hLz.below hb, hHz, hEz, hD, hoy, hoz⟩
/-- y's Submit. -/
theorem AlkI.submit {w0 : World} {cb : Nat} {ts : List ByteArray} {g : Nat → Nat} {T : Dk} {d k o c ay az : Nat} {wr : World} (h : AlkI w0 cb ts g T d k o c ay az wr) (hd : d < ts.length) {n : Nat} (hn : n = min (g k) (ts.length - d)) (hg1 : 1 ≤ g k) (hg12 : g k ≤ 12) (hsz : ∀ s ∈ ts, s.size ≤ 40) (h64 : ts.length ≤ 64) (hcb : cb < w0.heap.size) :
    Calls Tryd.prog 40 #[.pointer (some ⟨ay, 0, none⟩), .slice (some ⟨cb, o, none⟩) n c] wr fun e w' => e = .returned (.int .i64 0) ∧ AlkJ w0 cb ts g T d k k n o c ay az w' := by
  obtain ⟨yb, bz, fvy, fvz, Dy, Dz, Dx, Ez, hLy, hHy, hS, hT, hLz, hHz, hEz, hD, hoy, hoz⟩ := h.ex
  have hkd := h.kd
  have hlen : ((ts.drop d).take n).length = n := by rw [List.length_take, List.length_drop]; omega
  have hN := hHy.ckN
  rw [List.length_take, Nat.min_eq_left (by omega)] at hN
  have hs := submit_ok hLy hHy.nf.failed hHy.jn cb o c ((ts.drop d).take n) (h.sa.take _) (Nat.lt_of_lt_of_le hcb h.bel.size) (fun e => by have := hoy _ (.inl rfl); omega) (fun e => by have := hoy _ (.inr (.inl rfl)); omega) (fun e => by have := hoy _ (.inr (.inr (.inl e))); omega) (by simp [Value.ownBlock]) (fun s hs => hsz s (List.mem_of_mem_drop (List.mem_of_mem_take hs))) (by rw [hlen]; simp <;> omega) (by rw [hlen, hN]; simp; omega)
  rw [hlen, List.nil_append] at hs
  refine hs.mono ?_
  rintro e w' ⟨rfl, wv', hL', hR'⟩
  obtain ⟨hb4, hf4, hw4⟩ := FrL.below h.bel hR' (hoy _ (.inl rfl)) (hoy _ (.inr (.inl rfl))) (fun j hj => hoy j (.inr (.inr (.inl hj)))) (fun j hj => by simp [Value.ownBlock] at hj)
  refine ⟨rfl, ⟨by omega, by omega, by omega, hkd, h.cap, hsz, h64, ?_, hcb, hb4, yb, bz, fvy, wv', fvz, Dy, Dz, Dx, Ez, hL', hHy, hS, ?_, hLz.other hR' hD.symm, hHz, hEz, hD.step hR' (fun j hj => hLz.lt j hj), ?_, hoz⟩⟩
  · intro i s hi
    have h9 := h.sa i s hi
    rw [hb4.cell (p := ⟨cb, o + i, none⟩) hcb, ← h.bel.cell (p := ⟨cb, o + i, none⟩) hcb]; exact h9
  · rw [← groF_step hkd hd hn]; exact hT
  · intro j hj
    rcases hj with e | e | e | e
    · rw [e]; exact hoy _ (.inl rfl)
    · rw [e]; exact hoy _ (.inr (.inl rfl))
    · exact hf4 j e
    · exact hw4 j e
/-- As AlkJ, and one waits in z. -/
structure AlkZ (w0 : World) (cb : Nat) (ts : List ByteArray) (g : Nat → Nat) (T : Dk) (d k n o c ay az : Nat) (wr : World) : Prop where
  n1 : 1 ≤ n
  n12 : n ≤ 12
  dle : d + n ≤ ts.length
  kd : k ≤ d
  cap : ts.length - d ≤ c
  siz : ∀ s ∈ ts, s.size ≤ 40
  l64 : ts.length ≤ 64
  sa : SA wr cb o (ts.drop d)
  cbl : cb < w0.heap.size
  bel : Below w0.heap.size w0 wr
  ex : ∃ (yb bz : Nat) (fvy wvy fvz wvz : Value) (Dy Dz Dx : Dk) (Ez : List ByteArray) (x : ByteArray), LogAt wr ay yb fvy wvy Dy ((ts.drop d).take n) ∧ Holds Dy (ts.take d) ∧ Same Dx Dy ∧ groF g (ts.length - (k + 1)) (k + 1) (Dx.add ((ts.drop d).take n)) (ts.drop (d + n)) = T ∧ LogAt wr az bz fvz wvz Dz [x] ∧ x.size ≤ 40 ∧ Holds Dz Ez ∧ Ez.length ≤ k ∧ Dis ay yb fvy.ownBlock wvy.ownBlock az bz fvz.ownBlock wvz.ownBlock ∧ (∀ j, Own ay yb fvy.ownBlock wvy.ownBlock j → w0.heap.size ≤ j) ∧ (∀ j, Own az bz fvz.ownBlock wvz.ownBlock j → w0.heap.size ≤ j)
theorem AlkJ.zsub {w0 : World} {cb : Nat} {ts : List ByteArray} {g : Nat → Nat} {T : Dk} {d k n o c ay az : Nat} {wr : World} (h : AlkJ w0 cb ts g T d k k n o c ay az wr) {tb : Nat} {x : ByteArray} (hx : x.size ≤ 40) (hB : Blk (wr.alloc (.cells #[.string x] 9)) tb 9 [.string x]) (htb : tb = wr.heap.size) :
    Calls Tryd.prog 40 #[.pointer (some ⟨az, 0, none⟩), .slice (some ⟨tb, 0, none⟩) 1 1] (wr.alloc (.cells #[.string x] 9)) fun e w' => e = .returned (.int .i64 0) ∧ AlkZ w0 cb ts g T d k n o c ay az w' := by
  have hal : Below wr.heap.size wr (wr.alloc (.cells #[.string x] 9)) := (Below.refl _ _).alloc (Nat.le_refl _) _
  have hlz : ∃ (yb bz : Nat) (fvy wvy fvz : Value) (Dy Dz Dx : Dk) (Ez : List ByteArray), LogAt wr ay yb fvy wvy Dy ((ts.drop d).take n) ∧ Holds Dy (ts.take d) ∧ Same Dx Dy ∧ groF g (ts.length - (k + 1)) (k + 1) (Dx.add ((ts.drop d).take n)) (ts.drop (d + n)) = T ∧ LogAt wr az bz fvz (.slice none 0 0) Dz [] ∧ Holds Dz Ez ∧ Ez.length ≤ k ∧ Dis ay yb fvy.ownBlock wvy.ownBlock az bz fvz.ownBlock none ∧ (∀ j, Own ay yb fvy.ownBlock wvy.ownBlock j → w0.heap.size ≤ j) ∧ (∀ j, Own az bz fvz.ownBlock none j → w0.heap.size ≤ j) := h.ex
  obtain ⟨yb, bz, fvy, wvy, fvz, Dy, Dz, Dx, Ez, hLy, hHy, hS, hT, hLz, hHz, hEz, hD, hoy, hoz⟩ := hlz
  have hltz := hLz.lt
  have hd := h.dle
  have h64 := h.l64
  have hn1 := h.n1
  have hkd := h.kd
  have hbel := h.bel.trans (hal.mono h.bel.size)
  have hLy1 := hLy.below hal
  have hLz1 := hLz.below hal
  have hsa1 := h.sa.below hal
  have hN := hHz.ckN
  have hS1 : SA (wr.alloc (.cells #[.string x] 9)) tb 0 [x] := SA.of_blk (ss := [x]) hB
  generalize wr.alloc (.cells #[.string x] 9) = w1 at *
  have hs := submit_ok hLz1 hHz.nf.failed hHz.jn tb 0 1 [x] hS1 hB.lt (fun e => by have := hltz _ (.inl rfl); omega) (fun e => by have := hltz _ (.inr (.inl rfl)); omega) (fun e => by have := hltz _ (.inr (.inr (.inl e))); omega) (by simp [Value.ownBlock]) (fun s hs => by rw [List.mem_singleton.1 hs]; exact hx) (by simp) (by rw [hN]; simp; omega)
  rw [List.nil_append] at hs
  refine hs.mono ?_
  rintro e w' ⟨rfl, wv', hL', hR'⟩
  obtain ⟨hb4, hf4, hw4⟩ := FrL.below hbel hR' (hoz _ (.inl rfl)) (hoz _ (.inr (.inl rfl))) (fun j hj => hoz j (.inr (.inr (.inl hj)))) (fun j hj => by simp [Value.ownBlock] at hj)
  refine ⟨rfl, ⟨h.n1, h.n12, hd, hkd, h.cap, h.siz, h64, ?_, h.cbl, hb4, yb, bz, fvy, wvy, fvz, wv', Dy, Dz, Dx, Ez, x, hLy1.other hR' hD, hHy, hS, hT, hL', hx, hHz, hEz, (hD.symm.step hR' (fun j hj => hLy1.lt j hj)).symm, hoy, ?_⟩⟩
  · intro i s hi
    have h9 := h.sa i s hi
    rw [hb4.cell (p := ⟨cb, o + i, none⟩) h.cbl, ← h.bel.cell (p := ⟨cb, o + i, none⟩) h.cbl]; exact h9
  · intro j hj
    rcases hj with e | e | e | e
    · rw [e]; exact hoz _ (.inl rfl)
    · rw [e]; exact hoz _ (.inr (.inl rfl))
    · exact hf4 j e
    · exact hw4 j e
theorem AlkZ.zflush {w0 : World} {cb : Nat} {ts : List ByteArray} {g : Nat → Nat} {T : Dk} {d k n o c ay az : Nat} {wr : World} (h : AlkZ w0 cb ts g T d k n o c ay az wr) (ht : Table w0) (hg : 2 < w0.heap.size) :
    Calls Tryd.prog 42 #[.pointer (some ⟨az, 0, none⟩)] wr fun e w' => ∃ m, e = .returned (.tuple #[.int .i64 m, .int .i64 0]) ∧ AlkJ w0 cb ts g T d k (k + 1) n o c ay az w' := by
  obtain ⟨yb, bz, fvy, wvy, fvz, wvz, Dy, Dz, Dx, Ez, x, hLy, hHy, hS, hT, hLz, hx, hHz, hEz, hD, hoy, hoz⟩ := h.ex
  have hd := h.dle
  have h64 := h.l64
  have hn1 := h.n1
  have hkd := h.kd
  have hN := hHz.ckN
  have hz : ∀ s ∈ [x], s.size ≤ 40 := fun s hs => by rw [List.mem_singleton.1 hs]; exact hx
  have hfd : Dz.flushed [x] = Dz.add [x] := by
    unfold Dk.flushed
    rw [if_neg (by simp)]
  have hH4 := add_spec hHz (W := [x]) (by simp) hz (by simp; omega)
  refine (logFlush_any hLz hHz.nf.failed hHz.jn hz (by rw [hN]; simp; omega) (by rw [hHz.fre]; simp) (env_of ht hg h.bel (hoz _ (.inr (.inl rfl))) (fun j hj => hoz j (.inr (.inr (.inl hj))))) (by rw [hfd]; exact hH4.nf.failed)).mono ?_
  rintro e w' ⟨rfl, fv', hL', hR'⟩
  rw [hfd] at hL'
  obtain ⟨hb4, hf4, _⟩ := FrL.below h.bel hR' (hoz _ (.inl rfl)) (hoz _ (.inr (.inl rfl))) (fun j hj => hoz j (.inr (.inr (.inl hj)))) (fun j hj => hoz j (.inr (.inr (.inr hj))))
  refine ⟨_, rfl, ⟨h.n1, h.n12, hd, hkd, h.cap, h.siz, h64, ?_, h.cbl, hb4, yb, bz, fvy, wvy, fv', Dy, _, Dx, _, hLy.other hR' hD, hHy, hS, hT, hL', hH4, by simp; omega, (hD.symm.step hR' (fun j hj => hLy.lt j hj)).symm, hoy, ?_⟩⟩
  · intro i s hi
    have h9 := h.sa i s hi
    rw [hb4.cell (p := ⟨cb, o + i, none⟩) h.cbl, ← h.bel.cell (p := ⟨cb, o + i, none⟩) h.cbl]; exact h9
  · intro j hj
    rcases hj with e | e | e | e
    · rw [e]; exact hoz _ (.inl rfl)
    · rw [e]; exact hoz _ (.inr (.inl rfl))
    · exact hf4 j e
    · cases e

set_option maxHeartbeats 2000000 in
theorem al18_wp {c0 c1 c4 c5 c6 c7 c8 c9 c10 c16 c17 c18 c19 c20 c21 c22 c23 c24 c25 c26 c27 c28 c29 c30 c31 c32 c33 c34 c35 c36 c37 c38 c39 c40 c41 c42 c43 c44 c45 c46 c47 c48 c49 c50 c51 c52 c53 c54 c55 c56 c57 c58 c59 c60 c61 c62 c63 c64 c65 c66 c67 c68 c69 c70 c71 c72 c73 c74 c75 c76 c77 c78 c79 c80 c81 c82 c83 c84 c85 c86 c87 c88 c89 c90 c91 c92 c93 c94 c95 c96 c97 c98 c99 c100 c101 c102 c103 c104 c105 c106 : Value} (lv ov : Value) (os : List ByteArray) (cb : Nat) (ts : List ByteArray) (g : Nat → Nat) (T : Dk) (d k n r o c ay az : Nat) (w0 w : World) (Q : Exit → Act → World → Prop) (h : AlkI w0 cb ts g T d k o c ay az w) (hr : r = ts.length - d) (hd : d < ts.length) (hn : n = min (g k) r) (hg1 : 1 ≤ g k) (hg12 : g k ≤ 12) (hsz : ∀ s ∈ ts, s.size ≤ 40) (h64 : ts.length ≤ 64) (hcb : cb < w0.heap.size)
    (hR : RawI w0 lv) (hO : Strs w0 ov os) (hoz : ∀ s ∈ os, s.size ≤ 140737488355328) (ht : Table w0) (hg : 2 < w0.heap.size)
    (hQ : ∀ (u62 u63 u64 u65 u66 u67 u68 u69 u70 u71 u72 u73 u74 u75 u76 u77 u78 u79 u80 u81 u82 u83 u84 u85 u86 u87 u88 u89 u90 u91 u92 u93 u94 u95 u96 u97 u98 u99 u100 u101 : Value) (ay' : Nat) (w' : World), AlkI w0 cb ts g T (d + n) (k + 1) (if c = n then o else o + n) (c - n) ay' az w' → Q .normal ⟨#[c0, c1, lv, ov, c4, c5, c6, c7, c8, c9, c10, .pointer (some ⟨ay', 0, none⟩), .pointer (some ⟨az, 0, none⟩), .slice (some ⟨cb, if c = n then o else o + n, none⟩) (r - n) (c - n), .int .i64 (k : Int), .int .i64 (n : Int), c16, c17, c18, c19, c20, c21, c22, c23, c24, c25, c26, c27, c28, c29, c30, c31, c32, c33, c34, c35, c36, c37, c38, c39, c40, c41, c42, c43, c44, c45, c46, c47, c48, c49, c50, c51, c52, c53, c54, c55, c56, c57, c58, c59, c60, c61, u62, u63, u64, u65, u66, u67, u68, u69, u70, u71, u72, u73, u74, u75, u76, u77, u78, u79, u80, u81, u82, u83, u84, u85, u86, u87, u88, u89, u90, u91, u92, u93, u94, u95, u96, u97, u98, u99, u100, u101, c102, c103, c104, c105, c106], []⟩ w') :
    Code.wp Tryd.prog (sfxD Tryd.f9 18) Q ⟨#[c0, c1, lv, ov, c4, c5, c6, c7, c8, c9, c10, .pointer (some ⟨ay, 0, none⟩), .pointer (some ⟨az, 0, none⟩), .slice (some ⟨cb, o, none⟩) r c, .int .i64 (k : Int), .int .i64 (n : Int), c16, c17, c18, c19, c20, c21, c22, c23, c24, c25, c26, c27, c28, c29, c30, c31, c32, c33, c34, c35, c36, c37, c38, c39, c40, c41, c42, c43, c44, c45, c46, c47, c48, c49, c50, c51, c52, c53, c54, c55, c56, c57, c58, c59, c60, c61, c62, c63, c64, c65, c66, c67, c68, c69, c70, c71, c72, c73, c74, c75, c76, c77, c78, c79, c80, c81, c82, c83, c84, c85, c86, c87, c88, c89, c90, c91, c92, c93, c94, c95, c96, c97, c98, c99, c100, c101, c102, c103, c104, c105, c106], []⟩ w := by
  conv => arg 2; whnf
  have hcap := h.cap
  have hsub := h.submit hd (n := n) (by rw [hn, hr]) hg1 hg12 hsz h64 hcb
  have hsh := fun wx => slice_h wx cb o r c n (by omega)
  have HP : Aside (RawI w0 lv ∧ Table w0 ∧ 2 < w0.heap.size ∧ r = ts.length - d) := ⟨hR, ht, hg, hr⟩
  have HQ : Aside (∀ (u62 u63 u64 u65 u66 u67 u68 u69 u70 u71 u72 u73 u74 u75 u76 u77 u78 u79 u80 u81 u82 u83 u84 u85 u86 u87 u88 u89 u90 u91 u92 u93 u94 u95 u96 u97 u98 u99 u100 u101 : Value) (ay' : Nat) (w' : World), AlkI w0 cb ts g T (d + n) (k + 1) (if c = n then o else o + n) (c - n) ay' az w' → Q .normal ⟨#[c0, c1, lv, ov, c4, c5, c6, c7, c8, c9, c10, .pointer (some ⟨ay', 0, none⟩), .pointer (some ⟨az, 0, none⟩), .slice (some ⟨cb, if c = n then o else o + n, none⟩) (r - n) (c - n), .int .i64 (k : Int), .int .i64 (n : Int), c16, c17, c18, c19, c20, c21, c22, c23, c24, c25, c26, c27, c28, c29, c30, c31, c32, c33, c34, c35, c36, c37, c38, c39, c40, c41, c42, c43, c44, c45, c46, c47, c48, c49, c50, c51, c52, c53, c54, c55, c56, c57, c58, c59, c60, c61, u62, u63, u64, u65, u66, u67, u68, u69, u70, u71, u72, u73, u74, u75, u76, u77, u78, u79, u80, u81, u82, u83, u84, u85, u86, u87, u88, u89, u90, u91, u92, u93, u94, u95, u96, u97, u98, u99, u100, u101, c102, c103, c104, c105, c106], []⟩ w') := hQ
  clear h hQ hR ht hg hr hn hg1 hg12 hsz h64 hcb hcap hd
  obtain ⟨p, oc, rfl, hcell⟩ := hO
  refine wp_seq_k ?_
  intro K hK
  have HK : Aside (∀ a w, _ → K a w) := hK
  clear hK
  go_wp2_with fail
  refine hsub.mono ?_
  rintro e w1 ⟨rfl, h1⟩
  have H1 : Aside (AlkJ w0 cb ts g T d k k n o c ay az w1) := h1
  clear h1 hsub
  go_wp2
  refine HK.out _ _ ?_
  clear HK
  refine wp_seq_k ?_
  intro K hK
  have HK : Aside (∀ a w, _ → K a w) := hK
  clear hK
  by_cases hko : k < os.length
  · have hko' : (k : Int) < (os.length : Int) := by omega
    obtain ⟨s, hs⟩ : ∃ s, os[k]? = some s := ⟨_, List.getElem?_eq_getElem hko⟩
    obtain ⟨gb, go', rfl, hc⟩ := hcell k s hs
    have hc1 : w1.cell? ⟨gb, go' + k, none⟩ = some (.string s) := by
      rw [H1.out.bel.cell (World.block_lt_of_cell? _ _ hc)]; exact hc
    have hcut := cutE_any s w1 (hoz s (List.mem_of_getElem? hs))
    clear hc hcell hoz hs
    go_wp2_with fail
    refine hcut.mono ?_
    rintro e w2 ⟨x, rfl, hx, rfl⟩
    have hzs := H1.out.zsub hx (Blk.new w2 9 [.string x]) rfl
    clear hcut
    go_wp2_with fail
    refine hzs.mono ?_
    rintro e w3 ⟨rfl, h3⟩
    have hzf := h3.zflush HP.out.2.1 HP.out.2.2.1
    clear hzs h3
    go_wp2_with fail
    refine hzf.mono ?_
    rintro e w4 ⟨m, rfl, h4⟩
    have H4 : Aside (AlkJ w0 cb ts g T d k (k + 1) n o c ay az w4) := h4
    clear hzf h4
    go_wp2
    refine HK.out _ _ ?_
    refine al22_wp lv cb ts g T d k n r o c ay az w0 w4 Q H4.out HP.out.2.2.2 HP.out.1 HP.out.2.1 HP.out.2.2.1 ?_
    intro u81 u82 u83 u84 u85 u86 u87 u88 u89 u90 u91 u92 u93 u94 u95 u96 u97 u98 u99 u100 u101 ay' w' h5
    exact HQ.out _ _ _ _ _ _ _ _ _ _ _ _ _ _ _ _ _ _ _ _ _ _ _ _ _ _ _ _ _ _ _ _ _ _ _ _ _ _ _ _ _ _ h5
  · have hko' : ¬ (k : Int) < (os.length : Int) := by omega
    clear hcell hoz
    go_wp2
    refine HK.out _ _ ?_
    refine al22_wp lv cb ts g T d k n r o c ay az w0 w1 Q (H1.out.more (Nat.le_succ k)) HP.out.2.2.2 HP.out.1 HP.out.2.1 HP.out.2.2.1 ?_
    intro u81 u82 u83 u84 u85 u86 u87 u88 u89 u90 u91 u92 u93 u94 u95 u96 u97 u98 u99 u100 u101 ay' w' h5
    exact HQ.out _ _ _ _ _ _ _ _ _ _ _ _ _ _ _ _ _ _ _ _ _ _ _ _ _ _ _ _ _ _ _ _ _ _ _ _ _ _ _ _ _ _ h5
end Go.Proofs.YtlhohmlpcgbliaaDoor
namespace Go.Proofs.YtlhohmlpcgbliaaDoor
set_option maxRecDepth 100000
open Go.RowKit
attribute [local go_sem ↓] Go.wp_at_zero Go.wp_at_succ

set_option maxHeartbeats 2000000 in
theorem al13_wp {c0 c4 c5 c6 c7 c8 c9 c10 c15 c16 c17 c18 c19 c20 c21 c22 c23 c24 c25 c26 c27 c28 c29 c30 c31 c32 c33 c34 c35 c36 c37 c38 c39 c40 c41 c42 c43 c44 c45 c46 c47 c48 c49 c50 c51 c52 c53 c54 c55 c56 c57 c58 c59 c60 c61 c62 c63 c64 c65 c66 c67 c68 c69 c70 c71 c72 c73 c74 c75 c76 c77 c78 c79 c80 c81 c82 c83 c84 c85 c86 c87 c88 c89 c90 c91 c92 c93 c94 c95 c96 c97 c98 c99 c100 c101 c102 c103 c104 c105 c106 : Value} (gv lv ov : Value) (os : List ByteArray) (cb : Nat) (ts : List ByteArray) (g : Nat → Nat) (T : Dk) (d k r o c ay az : Nat) (w0 w : World) (Q : Exit → Act → World → Prop) (h : AlkI w0 cb ts g T d k o c ay az w) (hr : r = ts.length - d) (hd : d < ts.length) (hG : RawG w0 gv g) (hsz : ∀ s ∈ ts, s.size ≤ 40) (h64 : ts.length ≤ 64) (hcb : cb < w0.heap.size)
    (hR : RawI w0 lv) (hO : Strs w0 ov os) (hoz : ∀ s ∈ os, s.size ≤ 140737488355328) (ht : Table w0) (hg : 2 < w0.heap.size)
    (hQ : ∀ (n : Nat) (u46 u47 u48 u49 u50 u51 u52 u53 u54 u55 u56 u57 u58 u59 u60 u61 u62 u63 u64 u65 u66 u67 u68 u69 u70 u71 u72 u73 u74 u75 u76 u77 u78 u79 u80 u81 u82 u83 u84 u85 u86 u87 u88 u89 u90 u91 u92 u93 u94 u95 u96 u97 u98 u99 u100 u101 : Value) (ay' : Nat) (w' : World), 1 ≤ n → n ≤ r → AlkI w0 cb ts g T (d + n) (k + 1) (if c = n then o else o + n) (c - n) ay' az w' → Q .normal ⟨#[c0, gv, lv, ov, c4, c5, c6, c7, c8, c9, c10, .pointer (some ⟨ay', 0, none⟩), .pointer (some ⟨az, 0, none⟩), .slice (some ⟨cb, if c = n then o else o + n, none⟩) (r - n) (c - n), .int .i64 (k : Int), .int .i64 (n : Int), c16, c17, c18, c19, c20, c21, c22, c23, c24, c25, c26, c27, c28, c29, c30, c31, c32, c33, c34, c35, c36, c37, c38, c39, c40, c41, c42, c43, c44, c45, u46, u47, u48, u49, u50, u51, u52, u53, u54, u55, u56, u57, u58, u59, u60, u61, u62, u63, u64, u65, u66, u67, u68, u69, u70, u71, u72, u73, u74, u75, u76, u77, u78, u79, u80, u81, u82, u83, u84, u85, u86, u87, u88, u89, u90, u91, u92, u93, u94, u95, u96, u97, u98, u99, u100, u101, c102, c103, c104, c105, c106], []⟩ w') :
    Code.wp Tryd.prog (sfxD Tryd.f9 13) Q ⟨#[c0, gv, lv, ov, c4, c5, c6, c7, c8, c9, c10, .pointer (some ⟨ay, 0, none⟩), .pointer (some ⟨az, 0, none⟩), .slice (some ⟨cb, o, none⟩) r c, .int .i64 (k : Int), c15, c16, c17, c18, c19, c20, c21, c22, c23, c24, c25, c26, c27, c28, c29, c30, c31, c32, c33, c34, c35, c36, c37, c38, c39, c40, c41, c42, c43, c44, c45, c46, c47, c48, c49, c50, c51, c52, c53, c54, c55, c56, c57, c58, c59, c60, c61, c62, c63, c64, c65, c66, c67, c68, c69, c70, c71, c72, c73, c74, c75, c76, c77, c78, c79, c80, c81, c82, c83, c84, c85, c86, c87, c88, c89, c90, c91, c92, c93, c94, c95, c96, c97, c98, c99, c100, c101, c102, c103, c104, c105, c106], []⟩ w := by
  conv => arg 2; whnf
  obtain ⟨p, rn, rc, rfl, hraw, hgt⟩ := hG
  have hr1 : 1 ≤ r := by omega
  have hr64 : r ≤ 64 := by omega
  have HI : Aside (AlkI w0 cb ts g T d k o c ay az w ∧ r = ts.length - d ∧ d < ts.length ∧ (∀ s ∈ ts, s.size ≤ 40) ∧ ts.length ≤ 64 ∧ cb < w0.heap.size ∧ RawI w0 lv ∧ Strs w0 ov os ∧ (∀ s ∈ os, s.size ≤ 140737488355328) ∧ Table w0 ∧ 2 < w0.heap.size) := ⟨h, hr, hd, hsz, h64, hcb, hR, hO, hoz, ht, hg⟩
  have HQ : Aside (∀ (n : Nat) (u46 u47 u48 u49 u50 u51 u52 u53 u54 u55 u56 u57 u58 u59 u60 u61 u62 u63 u64 u65 u66 u67 u68 u69 u70 u71 u72 u73 u74 u75 u76 u77 u78 u79 u80 u81 u82 u83 u84 u85 u86 u87 u88 u89 u90 u91 u92 u93 u94 u95 u96 u97 u98 u99 u100 u101 : Value) (ay' : Nat) (w' : World), 1 ≤ n → n ≤ r → AlkI w0 cb ts g T (d + n) (k + 1) (if c = n then o else o + n) (c - n) ay' az w' → Q .normal ⟨#[c0, .slice p rn rc, lv, ov, c4, c5, c6, c7, c8, c9, c10, .pointer (some ⟨ay', 0, none⟩), .pointer (some ⟨az, 0, none⟩), .slice (some ⟨cb, if c = n then o else o + n, none⟩) (r - n) (c - n), .int .i64 (k : Int), .int .i64 (n : Int), c16, c17, c18, c19, c20, c21, c22, c23, c24, c25, c26, c27, c28, c29, c30, c31, c32, c33, c34, c35, c36, c37, c38, c39, c40, c41, c42, c43, c44, c45, u46, u47, u48, u49, u50, u51, u52, u53, u54, u55, u56, u57, u58, u59, u60, u61, u62, u63, u64, u65, u66, u67, u68, u69, u70, u71, u72, u73, u74, u75, u76, u77, u78, u79, u80, u81, u82, u83, u84, u85, u86, u87, u88, u89, u90, u91, u92, u93, u94, u95, u96, u97, u98, u99, u100, u101, c102, c103, c104, c105, c106], []⟩ w') := hQ
  clear h hr hd hsz h64 hcb hR hO hoz ht hg hQ
  refine wp_seq_k ?_
  intro K0 hK0
  have HK0 : Aside (∀ a w, _ → K0 a w) := hK0
  clear hK0
  go_wp2
  refine HK0.out _ _ ?_
  clear HK0
  refine wp_seq_k ?_
  intro K1 hK1
  have HK1 : Aside (∀ a w, _ → K1 a w) := hK1
  clear hK1
  by_cases hk : k < rn
  · obtain ⟨gb, go', cv, rfl, hcell, hc1, hc2, hgk⟩ := hraw k hk
    have hcell' : w.cell? ⟨gb, go' + k, none⟩ = some (.int .i64 cv) := by
      rw [HI.out.1.bel.cell (World.block_lt_of_cell? _ _ hcell)]; exact hcell
    have hpk : Calls Tryd.prog 32 #[.int .i64 cv, .int .i64 12] w fun e w' => e = .returned (.int .i64 (pickV cv 12 : Nat)) ∧ w' = w := pickG_any cv 12 w hc1 hc2 (by omega) (by omega)
    have hpl := pickV_lt cv 12 (by omega)
    have hk' : (k : Int) < (rn : Int) := by omega
    have HK : Aside (g k = 1 + pickV cv 12) := hgk
    clear hcell hgk hraw hgt
    generalize pickV cv 12 = pv at *
    go_wp2_with fail
    refine hpk.mono ?_
    rintro e w1' ⟨rfl, rfl⟩
    clear hpk
    go_wp2
    refine HK1.out _ _ ?_
    clear HK1
    refine wp_seq_k ?_
    intro K2 hK2
    have HK2 : Aside (∀ a w, _ → K2 a w) := hK2
    clear hK2
    by_cases hn : 1 + pv > r
    · have hn' : (1 + (pv : Int)) > (r : Int) := by omega
      go_wp2
      refine HK2.out _ _ ?_
      refine al18_wp lv ov os cb ts g T d k r r o c ay az w0 _ Q HI.out.1 HI.out.2.1 HI.out.2.2.1 (by have := HK.out; omega) (by have := HK.out; omega) (by have := HK.out; omega) HI.out.2.2.2.1 HI.out.2.2.2.2.1 HI.out.2.2.2.2.2.1 HI.out.2.2.2.2.2.2.1 HI.out.2.2.2.2.2.2.2.1 HI.out.2.2.2.2.2.2.2.2.1 HI.out.2.2.2.2.2.2.2.2.2.1 HI.out.2.2.2.2.2.2.2.2.2.2 ?_
      intro u62 u63 u64 u65 u66 u67 u68 u69 u70 u71 u72 u73 u74 u75 u76 u77 u78 u79 u80 u81 u82 u83 u84 u85 u86 u87 u88 u89 u90 u91 u92 u93 u94 u95 u96 u97 u98 u99 u100 u101 ay' w' h5
      exact HQ.out r _ _ _ _ _ _ _ _ _ _ _ _ _ _ _ _ _ _ _ _ _ _ _ _ _ _ _ _ _ _ _ _ _ _ _ _ _ _ _ _ _ _ _ _ _ _ _ _ _ _ _ _ _ _ _ _ _ _ (by omega) (by omega) h5
    · have hn' : ¬ (1 + (pv : Int)) > (r : Int) := by omega
      have hnI : ((1 + pv : Nat) : Int) = 1 + (pv : Int) := by omega
      go_wp2
      rw [← hnI]
      refine HK2.out _ _ ?_
      refine al18_wp lv ov os cb ts g T d k (1 + pv) r o c ay az w0 _ Q HI.out.1 HI.out.2.1 HI.out.2.2.1 (by have := HK.out; omega) (by have := HK.out; omega) (by have := HK.out; omega) HI.out.2.2.2.1 HI.out.2.2.2.2.1 HI.out.2.2.2.2.2.1 HI.out.2.2.2.2.2.2.1 HI.out.2.2.2.2.2.2.2.1 HI.out.2.2.2.2.2.2.2.2.1 HI.out.2.2.2.2.2.2.2.2.2.1 HI.out.2.2.2.2.2.2.2.2.2.2 ?_
      intro u62 u63 u64 u65 u66 u67 u68 u69 u70 u71 u72 u73 u74 u75 u76 u77 u78 u79 u80 u81 u82 u83 u84 u85 u86 u87 u88 u89 u90 u91 u92 u93 u94 u95 u96 u97 u98 u99 u100 u101 ay' w' h5
      exact HQ.out (1 + pv) _ _ _ _ _ _ _ _ _ _ _ _ _ _ _ _ _ _ _ _ _ _ _ _ _ _ _ _ _ _ _ _ _ _ _ _ _ _ _ _ _ _ _ _ _ _ _ _ _ _ _ _ _ _ _ _ _ _ (by omega) (by omega) h5
  · have hk' : ¬ (k : Int) < (rn : Int) := by omega
    have HK : Aside (g k = 12) := hgt k (by omega)
    clear hraw hgt
    go_wp2
    refine HK1.out _ _ ?_
    clear HK1
    refine wp_seq_k ?_
    intro K2 hK2
    have HK2 : Aside (∀ a w, _ → K2 a w) := hK2
    clear hK2
    by_cases hn : 12 > r
    · have hn' : (12) > (r : Int) := by omega
      go_wp2
      refine HK2.out _ _ ?_
      refine al18_wp lv ov os cb ts g T d k r r o c ay az w0 _ Q HI.out.1 HI.out.2.1 HI.out.2.2.1 (by have := HK.out; omega) (by have := HK.out; omega) (by have := HK.out; omega) HI.out.2.2.2.1 HI.out.2.2.2.2.1 HI.out.2.2.2.2.2.1 HI.out.2.2.2.2.2.2.1 HI.out.2.2.2.2.2.2.2.1 HI.out.2.2.2.2.2.2.2.2.1 HI.out.2.2.2.2.2.2.2.2.2.1 HI.out.2.2.2.2.2.2.2.2.2.2 ?_
      intro u62 u63 u64 u65 u66 u67 u68 u69 u70 u71 u72 u73 u74 u75 u76 u77 u78 u79 u80 u81 u82 u83 u84 u85 u86 u87 u88 u89 u90 u91 u92 u93 u94 u95 u96 u97 u98 u99 u100 u101 ay' w' h5
      exact HQ.out r _ _ _ _ _ _ _ _ _ _ _ _ _ _ _ _ _ _ _ _ _ _ _ _ _ _ _ _ _ _ _ _ _ _ _ _ _ _ _ _ _ _ _ _ _ _ _ _ _ _ _ _ _ _ _ _ _ _ (by omega) (by omega) h5
    · have hn' : ¬ (12) > (r : Int) := by omega
      have hnI : ((12 : Nat) : Int) = 12 := by omega
      go_wp2
      rw [← hnI]
      refine HK2.out _ _ ?_
      refine al18_wp lv ov os cb ts g T d k (12) r o c ay az w0 _ Q HI.out.1 HI.out.2.1 HI.out.2.2.1 (by have := HK.out; omega) (by have := HK.out; omega) (by have := HK.out; omega) HI.out.2.2.2.1 HI.out.2.2.2.2.1 HI.out.2.2.2.2.2.1 HI.out.2.2.2.2.2.2.1 HI.out.2.2.2.2.2.2.2.1 HI.out.2.2.2.2.2.2.2.2.1 HI.out.2.2.2.2.2.2.2.2.2.1 HI.out.2.2.2.2.2.2.2.2.2.2 ?_
      intro u62 u63 u64 u65 u66 u67 u68 u69 u70 u71 u72 u73 u74 u75 u76 u77 u78 u79 u80 u81 u82 u83 u84 u85 u86 u87 u88 u89 u90 u91 u92 u93 u94 u95 u96 u97 u98 u99 u100 u101 ay' w' h5
      exact HQ.out (12) _ _ _ _ _ _ _ _ _ _ _ _ _ _ _ _ _ _ _ _ _ _ _ _ _ _ _ _ _ _ _ _ _ _ _ _ _ _ _ _ _ _ _ _ _ _ _ _ _ _ _ _ _ _ _ _ _ _ (by omega) (by omega) h5
end Go.Proofs.YtlhohmlpcgbliaaDoor
namespace Go.Proofs.YtlhohmlpcgbliaaDoor
set_option maxRecDepth 100000
open Go.RowKit
attribute [local go_sem ↓] Go.wp_at_zero Go.wp_at_succ

def alQ (w0 : World) : Exit → Act → World → Prop := bodyPost Tryd.prog Tryd.f9 fun e w' => e = .returned (.bool true) ∧ Below w0.heap.size w0 w'

set_option maxHeartbeats 4000000 in
theorem al4_wp {c0 c4 c5 c6 c7 c8 c10 c11 c12 c13 c14 c15 c16 c17 c18 c19 c20 c21 c22 c23 c24 c25 c26 c27 c28 c29 c30 c31 c32 c33 c34 c35 c36 c37 c38 c39 c40 c41 c42 c43 c44 c45 c46 c47 c48 c49 c50 c51 c52 c53 c54 c55 c56 c57 c58 c59 c60 c61 c62 c63 c64 c65 c66 c67 c68 c69 c70 c71 c72 c73 c74 c75 c76 c77 c78 c79 c80 c81 c82 c83 c84 c85 c86 c87 c88 c89 c90 c91 c92 c93 c94 c95 c96 c97 c98 c99 c100 c101 c102 c103 c104 c105 c106 : Value} (gv lv ov : Value) (os : List ByteArray) (cb co cc m0 : Nat) (us : List ByteArray) (wB w : World) (hS : SA w cb co us) (hcb : cb < w.heap.size) (hcu : us.length ≤ cc) (hm0 : us.length = m0) (h64 : m0 ≤ 64) (hz : ∀ s ∈ us, s.size ≤ 40) (hb : Below wB.heap.size wB w) (hR : RawI wB gv) (hl : RawI wB lv) (hO : Strs wB ov os) (hoz : ∀ s ∈ os, s.size ≤ 140737488355328) (ht : Table wB) (hg : 2 < wB.heap.size) :
    Code.wp Tryd.prog (sfxD Tryd.f9 4) (alQ wB) ⟨#[c0, gv, lv, ov, c4, c5, c6, c7, c8, .slice (some ⟨cb, co, none⟩) m0 cc, c10, c11, c12, c13, c14, c15, c16, c17, c18, c19, c20, c21, c22, c23, c24, c25, c26, c27, c28, c29, c30, c31, c32, c33, c34, c35, c36, c37, c38, c39, c40, c41, c42, c43, c44, c45, c46, c47, c48, c49, c50, c51, c52, c53, c54, c55, c56, c57, c58, c59, c60, c61, c62, c63, c64, c65, c66, c67, c68, c69, c70, c71, c72, c73, c74, c75, c76, c77, c78, c79, c80, c81, c82, c83, c84, c85, c86, c87, c88, c89, c90, c91, c92, c93, c94, c95, c96, c97, c98, c99, c100, c101, c102, c103, c104, c105, c106], []⟩ w := by
  conv => arg 2; whnf
  generalize hQ : alQ wB = Q
  have HQ : Aside (alQ wB = Q) := hQ
  clear hQ
  have T : Aside (∀ wx, Below wB.heap.size wB wx → Table wx ∧ 2 < wx.heap.size) := fun wx hx => ⟨table_at hx hg ht, Nat.lt_of_lt_of_le hg hx.size⟩
  obtain ⟨g, hG⟩ := (hR.below hb).groups
  have g5 := grownG_any cb co cc gv us w hS hcb hcu (by omega) hz g hG (T.out w hb).1 (T.out w hb).2
  rw [hm0] at g5
  have HG : Aside (RawG w gv g ∧ RawI w lv ∧ Strs w ov os ∧ (∀ s ∈ os, s.size ≤ 140737488355328) ∧ SA w cb co us ∧ us.length = m0 ∧ (∀ s ∈ us, s.size ≤ 40) ∧ cb < w.heap.size ∧ us.length ≤ cc) := ⟨hG, hl.below hb, hO.below hb, hoz, hS, hm0, hz, hcb, hcu⟩
  have hcu0 : m0 ≤ cc := by omega
  clear hG hl hO hoz hS hz hR hm0 hcu ht hg hcb
  go_wp2_with fail
  refine g5.mono ?_
  rintro e w5 ⟨a, b, fv, D, rfl, hL, hH, hD, b5, ha, hb', hfo⟩
  clear g5 ha hb' hfo
  have HD : Aside (LogAt w5 a b fv (.slice none 0 0) D [] ∧ Holds D us ∧ D = groF g m0 0 Dk.fresh us ∧ Below w.heap.size w w5 ∧ Below wB.heap.size wB w5) := ⟨hL, hH, hD, b5, hb.trans (b5.mono hb.size)⟩
  clear hL hH hD b5 hb
  have g6 := grownNil_any w5 (T.out w5 HD.out.2.2.2.2).1 (T.out w5 HD.out.2.2.2.2).2
  go_wp2_with fail
  refine g6.mono ?_
  rintro e w6 ⟨ay, yb, rfl, hLy, b6, hay, hyb⟩
  clear g6
  have hB6 := HD.out.2.2.2.2.trans (b6.mono HD.out.2.2.2.2.size)
  have g7 := grownNil_any w6 (T.out w6 hB6).1 (T.out w6 hB6).2
  go_wp2_with fail
  refine g7.mono ?_
  rintro e w7 ⟨az, bz, rfl, hLz, b7, haz, hbz⟩
  clear g7
  have HI : Aside (AlkI w5 cb us g D 0 0 co cc ay az w7) := by
    have h6 := b6.size
    have hb7 := b6.trans (b7.mono b6.size)
    refine ⟨Nat.zero_le _, Nat.le_refl _, by have := HG.out.2.2.2.2.2.2.2.2; omega, ?_, hb7, yb, bz, .slice none 0 0, .slice none 0 0, Dk.fresh, Dk.fresh, Dk.fresh, [], hLy.below b7, ?_, Same.refl fresh_holds.nf, ?_, hLz, fresh_holds, Nat.le_refl _, ?_, ?_, ?_⟩
    · rw [List.drop_zero]
      have h8 := HD.out.2.2.2.1
      exact HG.out.2.2.2.2.1.below (h8.trans (hb7.mono h8.size))
    · rw [List.take_zero]; exact fresh_holds
    · rw [List.drop_zero, Nat.sub_zero, HG.out.2.2.2.2.2.1]; exact HD.out.2.2.1.symm
    · exact (Dis.new haz hbz (fun j hj => hLy.lt j hj)).symm
    · intro j hj
      rcases hj with e | e | e | e
      · omega
      · omega
      · cases e
      · cases e
    · intro j hj
      rcases hj with e | e | e | e
      · omega
      · omega
      · cases e
      · cases e
  clear hLy b6 hay hyb hB6 hLz b7 haz hbz
  go_wp2_with fail
  go_loopw [11, 13, 14] (fun s11 s13 s14 wr => ∃ d k o c ay, s11 = .pointer (some ⟨ay, 0, none⟩) ∧ s13 = .slice (some ⟨cb, o, none⟩) (m0 - d) c ∧ s14 = .int .i64 ((k : Nat) : Int) ∧ Aside (AlkI w5 cb us g D d k o c ay az wr)) (fun _ s13 _ _ => sliceLen s13)
  case atStart => exact ⟨0, 0, co, cc, ay, rfl, rfl, rfl, HI⟩
  case round =>
    obtain ⟨d, k, o, c, ay', rfl, rfl, rfl, HI2⟩ := hrel
    clear HI
    generalize hreq : m0 - d = r at *
    have HRE : Aside (m0 - d = r) := hreq
    clear hreq
    by_cases h0 : r = 0
    · subst h0
      obtain ⟨yb', bz', fvy, fvz, Dy, Dz, Dx, Ez, hLy, hHy, hSm, hT, _⟩ := HI2.out.ex
      have hbel := HI2.out.bel
      have hdm : us.drop d = [] := List.drop_eq_nil_of_le (by have := HRE.out; have := HG.out.2.2.2.2.2.1; omega)
      rw [hdm, groF_nil] at hT
      subst hT
      have hx := logBytes_any (HD.out.1.below hbel)
      have hy := fun wx (hw : Below wr.heap.size wr wx) => logBytes_any (hLy.below hw)
      rw [← hSm.las] at hy
      generalize strOf Dx.las.flatten = bs at *
      have hbs : (bs.toList == bs.toList) = true := by rw [eqs]; exact decide_eq_true rfl
      have HB : Aside (Below wB.heap.size wB wr) := HD.out.2.2.2.2.trans (hbel.mono HD.out.2.2.2.2.size)
      clear hLy hHy hSm hdm hbel
      go_wp2_with fail
      refine hx.mono ?_
      rintro e w8 ⟨rfl, b8⟩
      have hy8 := hy w8 b8
      clear hx hy
      go_wp2_with fail
      refine hy8.mono ?_
      rintro e w9 ⟨rfl, b9⟩
      have HB9 : Aside (Below wB.heap.size wB w9) := HB.out.trans ((b8.trans (b9.mono b8.size)).mono HB.out.size)
      clear hy8 b8 b9
      go_wp2
      rw [← HQ.out]
      unfold alQ
      go_ret
      exact ⟨rfl, HB9.out⟩
    · have h0' : (0 : Int) < (r : Int) := by omega
      have hk64 : k ≤ 64 := by have := HI2.out.kd; have := HI2.out.dle; have := HG.out.2.2.2.2.2.1; omega
      refine wp_seq_k ?_
      intro K hK
      have HK : Aside (∀ a w, _ → K a w) := hK
      clear hK
      go_wp2
      refine HK.out _ _ ?_
      clear HK
      refine wp_seq_k ?_
      intro K2 hK2
      have HK2 : Aside (∀ a w, _ → K2 a w) := hK2
      clear hK2
      refine wp_block ?_
      have h8 := HD.out.2.2.2.1
      refine al13_wp gv lv ov os cb us g D d k r o c ay' az w5 wr _ HI2.out (by have := HRE.out; have := HG.out.2.2.2.2.2.1; omega) (by have := HRE.out; have := HG.out.2.2.2.2.2.1; omega) (HG.out.1.below h8) HG.out.2.2.2.2.2.2.1 (by have := HG.out.2.2.2.2.2.1; omega) (Nat.lt_of_lt_of_le HG.out.2.2.2.2.2.2.2.1 h8.size) (HG.out.2.1.below h8) (HG.out.2.2.1.below h8) HG.out.2.2.2.1 (T.out w5 HD.out.2.2.2.2).1 (T.out w5 HD.out.2.2.2.2).2 ?_
      intro n u46 u47 u48 u49 u50 u51 u52 u53 u54 u55 u56 u57 u58 u59 u60 u61 u62 u63 u64 u65 u66 u67 u68 u69 u70 u71 u72 u73 u74 u75 u76 u77 u78 u79 u80 u81 u82 u83 u84 u85 u86 u87 u88 u89 u90 u91 u92 u93 u94 u95 u96 u97 u98 u99 u100 u101 ay2 w2 hn1 hnr h2
      have H2 : Aside (AlkI w5 cb us g D (d + n) (k + 1) (if c = n then o else o + n) (c - n) ay2 az w2) := h2
      clear h2 h8
      refine HK2.out _ _ ?_
      clear HK2
      generalize (if c = n then o else o + n) = o7 at *
      go_wp2
      go_roundw
      case rel => exact ⟨d + n, k + 1, o7, c - n, ay2, rfl, by have := HRE.out; congr 1; omega, by go_num, H2⟩
      case measure => simp only [sliceLen]; omega

set_option maxHeartbeats 1000000 in
theorem alike_walk (v gv lv ov : Value) (ss os : List ByteArray) (w : World) (hS : Strs w v ss) (hn : ss.length ≤ 140737488355328) (hz : ∀ s ∈ ss, s.size ≤ 140737488355328) (hR : RawI w gv) (hl : RawI w lv) (hO : Strs w ov os) (hoz : ∀ s ∈ os, s.size ≤ 140737488355328) (ht : Table w) (hg : 2 < w.heap.size) :
    Calls Tryd.prog 9 #[v, gv, lv, ov] w fun e w' => e = .returned (.bool true) ∧ Below w.heap.size w w' := by
  have HT : Aside (Table w ∧ 2 < w.heap.size ∧ RawI w gv ∧ RawI w lv ∧ Strs w ov os ∧ ∀ s ∈ os, s.size ≤ 140737488355328) := ⟨ht, hg, hR, hl, hO, hoz⟩
  clear ht hg hR hl hO hoz
  have g3 := entriesE_any v ss w hS hn hz
  go_enter Tryd.func9, Tryd.ntmps9
  go_wp2_with fail
  rename_i K hK K1 hK1
  have HK : Aside (∀ a w, _ → K a w) := hK
  clear hK
  refine g3.mono ?_
  rintro e w3 ⟨v', ts, rfl, hrow, hl64, htz, b3⟩
  clear g3 hS hz
  have B3 : Aside (Below w.heap.size w w3) := b3
  have HX : Aside (strv ts ++ [.string sLast] = strv (ts ++ [sLast])) := by show _ = _; simp [strv]
  have hxl : (strv ts).length ≤ 64 := by rw [strv_length]; exact hl64
  have hsz3 := b3.size
  generalize hxs : strv ts = xs at *
  clear hxs
  go_wp2_with (at_builtin; refine wpList_app elem_string rfl Tryd.underlying22 (by rfl) (.tmp 17) (.tmp 18) (by rfl) w.heap.size _ xs (by rfl) (hrow.alloc _) _ 1 1 [.string sLast] (by rfl) rfl (Blk.new _ 9 _) ?h1 ?hl ?hb ?hbs (w0 := w) (B := w.heap.size) (B3.out.alloc B3.out.size _) (Nat.le_refl _) ?_)
  case h1 => intro u hu; simp at hu; subst hu; rfl
  case hl => omega
  case hb => omega
  case hbs => simp; omega
  intro vL w4 hrow4 _ b4
  rw [HX.out] at hrow4
  have hl1 : (ts ++ [sLast]).length = ts.length + 1 := by simp
  obtain ⟨g, cap, rfl, hgb, hcap, _, _, hglt, _⟩ := hrow4.form (by rw [strv_length]; omega)
  rw [strv_length] at hcap hrow4 ⊢
  have HA : Aside (SA w4 g 0 (ts ++ [sLast]) ∧ g < w4.heap.size ∧ ∀ s ∈ ts ++ [sLast], s.size ≤ 40) := by
    refine ⟨SA.of_row hrow4 (by omega), hglt, fun s hs => ?_⟩
    rcases List.mem_append.1 hs with h | h
    · exact htz s h
    · rw [List.mem_singleton.1 h]; decide
  have B4 : Aside (Below w.heap.size w w4) := b4
  clear hrow hrow4 b3 b4 B3 HX hxl hsz3 htz hgb hglt
  have hlen : (ts ++ [sLast]).length ≤ 65 := by omega
  have hlen1 : 1 ≤ (ts ++ [sLast]).length := by omega
  generalize ts ++ [sLast] = fs at *
  clear hl64 hl1
  generalize hml : fs.length = n at *
  go_wp2
  refine HK.out _ _ ?_
  refine wp_seq_k ?_
  intro K4 hK4
  have HK4 : Aside (∀ a w, _ → K4 a w) := hK4
  clear hK4 HK
  by_cases hn64 : n > 64
  · have hn64' : (n : Int) > 64 := by omega
    have h1 : ((1 : Nat) : Int) = 1 := rfl
    have hsl := fun wx => slice_l wx g 0 n cap 1 (by omega) hcap
    rw [h1] at hsl
    have hS1 := HA.out.1.drop 1
    rw [Nat.zero_add] at hsl hS1
    go_wp2
    refine HK4.out _ _ ?_
    exact al4_wp gv lv ov os g 1 (cap - 1) (n - 1) (fs.drop 1) w w4 hS1 HA.out.2.1 (by rw [List.length_drop]; omega) (by rw [List.length_drop, hml]) (by omega) (fun s hs => HA.out.2.2 s (List.mem_of_mem_drop hs)) B4.out HT.out.2.2.1 HT.out.2.2.2.1 HT.out.2.2.2.2.1 HT.out.2.2.2.2.2 HT.out.1 HT.out.2.1
  · have hn64' : ¬ (n : Int) > 64 := by omega
    go_wp2
    refine HK4.out _ _ ?_
    exact al4_wp gv lv ov os g 0 cap n fs w w4 HA.out.1 HA.out.2.1 (by omega) hml (by omega) HA.out.2.2 B4.out HT.out.2.2.1 HT.out.2.2.2.1 HT.out.2.2.2.2.1 HT.out.2.2.2.2.2 HT.out.1 HT.out.2.1
end Go.Proofs.YtlhohmlpcgbliaaDoor
