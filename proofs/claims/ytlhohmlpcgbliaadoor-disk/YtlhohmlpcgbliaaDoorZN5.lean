import Derived.Test.YtlhohmlpcgbliaaDoorZQ3
import Derived.Deep.LoopGhost
import Derived.Test.YtlhohmlpcgbliaaDoorZL7
namespace Go.Proofs.YtlhohmlpcgbliaaDoor
set_option maxRecDepth 100000
open Go.RowKit
attribute [local go_sem ↓] Go.wp_at_zero Go.wp_at_succ

/-- Hash i of level l is as what lies below says. -/
def Dk.tileOk (D : Dk) (l i : Nat) : Prop := D.hashF l i = true ∧ strOf (D.slot (tileAt l).1 4 i) = D.hashB l i
theorem tilesOk_of {D : Dk} {n l : Nat} (h : ∀ k, k < l → ∀ i, i < n / 4 ^ k → D.tileOk k i) (hl : n < 4 ^ l) : D.tilesOk n := by
  intro k hk i hi
  refine h k ?_ i hi
  refine Classical.byContradiction fun hn => ?_
  have : 4 ^ l ≤ 4 ^ k := Nat.pow_le_pow_right (by omega) (by omega)
  omega

set_option maxHeartbeats 4000000 in
theorem tilesHold_any (b n : Nat) (fv : Value) (D : Dk) (w : World) (h : DiskAt w b fv D) (hn : n ≤ 64) (ht : Table w) (hg : 2 < w.heap.size) :
    Calls Tryd.prog 129 #[.pointer (some ⟨b, 0, none⟩), .int .i64 (n : Int)] w fun e w' => ∃ r : Bool, e = .returned (.bool r) ∧ (r = true ↔ D.tilesOk n) ∧ Below w.heap.size w w' := by
  have HD : Aside (DiskAt w b fv D ∧ Table w ∧ 2 < w.heap.size) := ⟨h, ht, hg⟩
  clear h ht hg
  go_enter Tryd.func129, Tryd.ntmps129
  go_wp2
  go_step3
  go_wp2
  go_step3
  go_wp2
  go_loopg [5, 6, 7] 4 (fun g s5 s6 s7 wr => ∃ (l size : Nat), l + g = 4 ∧ s5 = .bool true ∧ s6 = .int .i64 (l : Int) ∧ s7 = .int .i64 (size : Int) ∧ 1 ≤ size ∧ size ≤ 256 ∧ Aside (size = 4 ^ l ∧ (∀ k, k < l → ∀ i, i < n / 4 ^ k → D.tileOk k i) ∧ Below w.heap.size w wr))
  case atStart => exact ⟨0, 1, rfl, rfl, rfl, rfl, by omega, by omega, ⟨rfl, fun k hk => by omega, Below.refl _ _⟩⟩
  case round =>
    obtain ⟨l, size, hlg, rfl, rfl, rfl, hs1, hs2, HS⟩ := hrel
    by_cases hc : size ≤ n
    · have hc' : (size : Int) ≤ (n : Int) := by omega
      obtain ⟨g, rfl⟩ : ∃ g, gk = g + 1 := by
        cases gk with
        | zero =>
          have h1 := HS.out.1
          rw [show l = 4 by omega] at h1
          have h2 : (4 : Nat) ^ 4 = 256 := rfl
          omega
        | succ g => exact ⟨g, rfl⟩
      have hl3 : l ≤ 3 := by omega
      have hT := (tileAt_le l).1
      have hqn : n / size ≤ n := Nat.div_le_self _ _
      have HQ : Aside (n / size = n / 4 ^ l) := by show _ = _; rw [HS.out.1]
      have hq := fun wx => quo_gen n size wx hs1 (by omega)
      have ei1 : (n : Int) / (size : Int) = ((n / size : Nat) : Int) := (Int.natCast_ediv _ _).symm
      generalize n / size = q at *
      go_wp2_with fail
      have htl : Calls Tryd.prog 119 #[.int .i64 (l : Int)] wr fun e w' => e = .returned (.agg #[.int .i64 ((tileAt l).1 : Int), .int .i64 4]) ∧ Below wr.heap.size wr w' := tiles_any l wr (by omega)
      refine htl.mono ?_
      rintro e w1 ⟨rfl, hb1⟩
      clear htl
      generalize hst : (tileAt l).1 = start at *
      have HST : Aside ((tileAt l).1 = start) := hst
      clear hst
      have H1 : Aside (Below w.heap.size w (w1.alloc (.cells #[.int .i64 (start : Int), .int .i64 4] 119)) ∧ Blk (w1.alloc (.cells #[.int .i64 (start : Int), .int .i64 4] 119)) w1.heap.size 119 [.int .i64 (start : Int), .int .i64 4]) :=
        ⟨(HS.out.2.2.trans (hb1.mono HS.out.2.2.size)).alloc (Nat.le_trans HS.out.2.2.size hb1.size) _, Blk.new w1 _ _⟩
      go_wp2_with fail
      have hrb : w1.heap.size < (w1.alloc (.cells #[.int .i64 (start : Int), .int .i64 4] 119)).heap.size := by simp
      generalize w1.alloc (.cells #[.int .i64 (start : Int), .int .i64 4] 119) = w2 at *
      generalize w1.heap.size = rb at *
      clear hb1
      go_loopg [5, 9] 17 (fun g2 s5 s9 wy => ∃ at' : Nat, at' + g2 = 17 ∧ s5 = .bool true ∧ s9 = .int .i64 (at' : Int) ∧ at' * 4 ≤ q ∧ Aside ((∀ i, i < at' * 4 → D.tileOk l i) ∧ Below w2.heap.size w2 wy))
      case atStart => exact ⟨0, rfl, rfl, rfl, by omega, ⟨fun i hi => by omega, Below.refl _ _⟩⟩
      case round =>
        obtain ⟨at', hag, rfl, rfl, haq, HS2⟩ := hrel
        obtain ⟨g2, rfl⟩ : ∃ g2, gk = g2 + 1 := ⟨gk - 1, by omega⟩
        have hB := H1.out.2.below HS2.out.2 hrb
        have hc0 := hB.cell 0
        simp only [List.getElem?_cons_zero] at hc0
        have hb0 : Below w.heap.size w wr := H1.out.1.trans (HS2.out.2.mono H1.out.1.size)
        have hd0 := HD.out.1.below hb0
        have hrd := read_any b fv D (start + at') wr hd0 (by omega)
        have hsl := (hd0.ok.read (i := start + at') (by omega)).len
        have HSL : Aside (∀ i, i / 4 = at' → D.slot (tileAt l).1 4 i = slotL (D.read (start + at')) 4 i) := fun i hi => by unfold Dk.slot; rw [HST.out, hi]
        have eI : ((start + at' : Nat) : Int) = (start : Int) + (at' : Int) := by omega
        rw [eI] at hrd
        clear eI hd0
        generalize D.read (start + at') = s at *
        go_wp2_with fail
        refine hrd.mono ?_
        rintro e w3 ⟨rfl, hb3⟩
        clear hrd hc0
        have hz : Tryd.zeroCells130.toList.length = 128 := by rw [zeroSec]; simp
        have hN := Blk.newA w3 130 Tryd.zeroCells130
        have hth := hN.there 0 128 (by omega)
        have hN4 := hN.fill (u8s s) (by simp [hsl, hz])
        have hb4 : Below wr.heap.size wr ((w3.alloc (.cells Tryd.zeroCells130 130)).setCells w3.heap.size 0 (u8s s)) := Below.setCells (hb3.alloc hb3.size _) _ _ hb3.size _
        clear hN
        go_wp2_with (first | ((with_reducible refine stSec ?_ (.tmp 10) (.tmp 30) ?_ w3.heap.size 0 s ?_ ?_ hth hsl ?_); rfl; rfl; rfl; rfl))
        have H4 : Aside (Below w.heap.size w ((w3.alloc (.cells Tryd.zeroCells130 130)).setCells w3.heap.size 0 (u8s s)) ∧ Below w2.heap.size w2 ((w3.alloc (.cells Tryd.zeroCells130 130)).setCells w3.heap.size 0 (u8s s)) ∧ Blk ((w3.alloc (.cells Tryd.zeroCells130 130)).setCells w3.heap.size 0 (u8s s)) rb 119 [.int .i64 (start : Int), .int .i64 4] ∧ Blk ((w3.alloc (.cells Tryd.zeroCells130 130)).setCells w3.heap.size 0 (u8s s)) w3.heap.size 130 (u8s s)) :=
          ⟨hb0.trans (hb4.mono hb0.size), HS2.out.2.trans (hb4.mono HS2.out.2.size), hB.below hb4 hB.lt, hN4⟩
        clear hth hN4 hb4 hB hb0 hz
        generalize (w3.alloc (.cells Tryd.zeroCells130 130)).setCells w3.heap.size 0 (u8s s) = w4 at *
        generalize w3.heap.size = lb at *
        clear hb3
        go_loopg [5, 11] 4 (fun g3 s5 s11 wz => ∃ i : Nat, i + g3 = at' * 4 + 4 ∧ at' * 4 ≤ i ∧ i ≤ q ∧ s5 = .bool true ∧ s11 = .int .i64 (i : Int) ∧ Aside ((∀ j, j < i → D.tileOk l j) ∧ Below w4.heap.size w4 wz))
        case atStart => exact ⟨at' * 4, rfl, Nat.le_refl _, haq, rfl, by go_num, ⟨HS2.out.1, Below.refl _ _⟩⟩
        case round =>
          obtain ⟨i, hig, hia, hiq, rfl, rfl, HS3⟩ := hrel
          cases gk with
          | zero =>
            have hi4 : ¬ ((i : Int) < ((at' : Int) + 1) * 4) := by omega
            have HI : Aside (i = at' * 4 + 4) := hig
            clear hig
            go_wp2
            go_roundg g2
            case measure => omega
            case rel => exact ⟨at' + 1, by omega, rfl, by go_num, by have := HI.out; omega, ⟨fun j hj => HS3.out.1 j (by have := HI.out; omega), H4.out.2.1.trans (HS3.out.2.mono H4.out.2.1.size)⟩⟩
          | succ g3 =>
            have hi4 : (i : Int) < ((at' : Int) + 1) * 4 := by omega
            have hbw : Below w.heap.size w wr := H4.out.1.trans (HS3.out.2.mono H4.out.1.size)
            have HBW : Aside (Below w.heap.size w wr) := hbw
            by_cases hqe : i = q
            · have hqe' : ((i : Int) == (q : Int)) = true := by simp; omega
              have HQE : Aside (i = q) := hqe
              clear hqe hbw
              go_wp2
              go_roundg g
              case measure => omega
              case rel =>
                refine ⟨l + 1, size * 4, by omega, rfl, by go_num, by go_num, by omega, by omega, ⟨by rw [Nat.pow_succ, ← HS.out.1], fun k hk j hj => ?_, HBW.out⟩⟩
                by_cases hkl : k = l
                · subst hkl
                  exact HS3.out.1 j (by rw [HQE.out, HQ.out]; exact hj)
                · exact HS.out.2.1 k (by omega) j hj
            · have hqe' : ((i : Int) == (q : Int)) = false := by simp; omega
              have hhb := hashBelow_any b l i fv D wr (HD.out.1.below hbw) (by omega) (by omega) (table_at hbw HD.out.2.2 HD.out.2.1) (Nat.lt_of_lt_of_le HD.out.2.2 hbw.size)
              have HO : Aside (D.tileOk l i ↔ D.hashF l i = true ∧ strOf (slotL s 4 i) = D.hashB l i) := by
                show _ ↔ _
                unfold Dk.tileOk
                rw [HSL.out i (by omega)]
              have HN : Aside (¬ D.tileOk l i → ¬ D.tilesOk n) := fun h1 h2 => h1 (h2 l (by rw [← HS.out.1]; exact hc) i (by rw [← HQ.out]; omega))
              have HX : Aside (i < q ∧ i < at' * 4 + 4 ∧ i + (g3 + 1) = at' * 4 + 4) := ⟨by omega, by omega, hig⟩
              clear hqe hbw hig hiq
              generalize D.hashB l i = hh at *
              generalize D.hashF l i = okk at *
              go_wp2_with fail
              refine hhb.mono ?_
              rintro e w5 ⟨rfl, hb5⟩
              clear hhb
              have H5 : Aside (Below w.heap.size w w5 ∧ Below w4.heap.size w4 w5) := ⟨HBW.out.trans (hb5.mono HBW.out.size), HS3.out.2.trans (hb5.mono HS3.out.2.size)⟩
              clear hb5
              cases okk with
              | false =>
                go_wp2
                try rw [Exit.noGoto_ret]
                go_ret
                exact ⟨false, rfl, ⟨(fun h1 => by cases h1), fun h1 => absurd h1 (HN.out (fun h2 => (by have := (HO.out.1 h2).1; cases this)))⟩, H5.out.1⟩
              | true =>
                have hB5 := H4.out.2.2.1.below H5.out.2 H4.out.2.2.1.lt
                have hc0 := hB5.cell 0
                have hc1 := hB5.cell 1
                simp only [List.getElem?_cons_zero, List.getElem?_cons_succ] at hc0 hc1
                have hsa : Calls Tryd.prog 117 #[.agg #[.int .i64 (start : Int), .int .i64 4], .pointer (some ⟨lb, 0, none⟩), .int .i64 (i : Int)] w5 fun e w' => e = .returned (.slice (some ⟨lb, i % 4 * 32, none⟩) 32 (128 - i % 4 * 32)) ∧ Below w5.heap.size w5 w' := slot_any start 4 lb i w5 (.inr rfl) (by omega)
                have hl := slotL_length i hsl (.inr rfl)
                have HR : Aside (∀ wx, Below w5.heap.size w5 wx → wx.rangeAt lb (i % 4 * 32) (u8s (slotL s 4 i))) := by
                  intro wx hx
                  have hB6 := (H4.out.2.2.2.below H5.out.2 H4.out.2.2.2.lt).below hx (H4.out.2.2.2.below H5.out.2 H4.out.2.2.2.lt).lt
                  have := hB6.part (i % 4 * 32) 32
                  unfold slotL
                  rw [u8s_take, u8s_drop]
                  exact this
                generalize i % 4 * 32 = off at *
                generalize slotL s 4 i = sl at *
                go_wp2_with fail
                refine hsa.mono ?_
                rintro e w6 ⟨rfl, hb6⟩
                have hcv := convert_range (cap := 128 - off) (HR.out w6 hb6)
                rw [show sl.length = 32 from hl] at hcv
                have H6 : Aside (Below w.heap.size w w6 ∧ Below w4.heap.size w4 w6) := ⟨H5.out.1.trans (hb6.mono H5.out.1.size), H5.out.2.trans (hb6.mono H5.out.2.size)⟩
                clear hsa hb6 hB5 hc0 hc1 hl HR
                generalize strOf sl = x at *
                by_cases hx : x = hh
                · have HXX : Aside (x = hh) := hx
                  have hxb : (x.toList == hh.toList) = true := by rw [eqs]; exact decide_eq_true hx
                  clear hx
                  go_wp2
                  go_roundg g3
                  case measure => omega
                  case rel =>
                    refine ⟨i + 1, by have := HX.out.2.2; omega, by omega, by have := HX.out.1; omega, rfl, by go_num, ⟨fun j hj => ?_, H6.out.2⟩⟩
                    by_cases hji : j = i
                    · subst hji
                      exact HO.out.2 ⟨by trivial, HXX.out⟩
                    · exact HS3.out.1 j (by omega)
                · have HXX : Aside (¬ x = hh) := hx
                  have hxb : (x.toList == hh.toList) = false := by rw [eqs]; exact decide_eq_false hx
                  clear hx
                  go_wp2
                  try rw [Exit.noGoto_ret]
                  go_ret
                  exact ⟨false, rfl, ⟨(fun h1 => by cases h1), fun h1 => absurd h1 (HN.out (fun h2 => HXX.out (HO.out.1 h2).2))⟩, H6.out.1⟩
    · have hc' : ¬ (size : Int) ≤ (n : Int) := by omega
      go_wp2
      try rw [Exit.noGoto_ret]
      go_ret
      exact ⟨true, rfl, ⟨fun _ => tilesOk_of HS.out.2.1 (by rw [← HS.out.1]; omega), fun _ => rfl⟩, HS.out.2.2⟩
end Go.Proofs.YtlhohmlpcgbliaaDoor
namespace Go.Proofs.YtlhohmlpcgbliaaDoor
set_option maxRecDepth 100000
open Go.RowKit
attribute [local go_sem ↓] Go.wp_at_zero Go.wp_at_succ

theorem equal_sec (w : World) {s t : List Nat} (hs : s.length = 128) (ht : t.length = 128) : (Op.equalIn 10000 130 (.agg (u8s s).toArray) (.agg (u8s t).toArray)).run Tryd.prog w = .ok (decide (s = t)) w := by
  have hi : ∃ i, Tryd.prog.info? 5 = some i := by
    cases hq : Tryd.prog.info? 5 with
    | none => have := info5; simp [hq] at this
    | some i => exact ⟨i, rfl⟩
  obtain ⟨i, hi⟩ := hi
  rw [run_equalIn_array w 9999 _ _ Tryd.underlying130 hi, cells5, items_u8 w 9998 s t _ (fun j hj => by have := List.mem_range.1 hj; omega), range_all hs ht]
theorem Holds.span {D : Dk} {E : List ByteArray} (h : Holds D E) : D.span 0 E.length = mth (E.map leafS) := by
  have h1 := span_mth h.til (by simp) E.length E.length 0 6 (Nat.le_refl _) (by have := h.len; simpa using this) (by simp) (by simp)
  rw [h1, List.drop_zero, List.take_of_length_le (by simp)]

set_option maxHeartbeats 2000000 in
theorem sound_ok (b : Nat) (fv : Value) (D : Dk) (E : List ByteArray) (w : World) (h : DiskAt w b fv D) (hH : Holds D E) (ht : Table w) (hg : 2 < w.heap.size) :
    Calls Tryd.prog 105 #[.pointer (some ⟨b, 0, none⟩)] w fun e w' => e = .returned (.bool true) ∧ Below w.heap.size w w' := by
  have HD : Aside (DiskAt w b fv D ∧ Table w ∧ 2 < w.heap.size ∧ D.tilesOk E.length ∧ D.read 1 = zer) := ⟨h, ht, hg, hH.tilesOk, hH.jn⟩
  have hck := readCheckpoint_any b fv D w h
  rw [hH.ckN, hH.ckR, strOf_bts] at hck
  have hlen := hH.len
  have hr32 : (mth (E.map leafS)).size = 32 := mth32
  have hspan := hH.span
  have h0 := hH.ck
  have hs0 := (h.ok.read (i := 0) (by omega)).len
  generalize mth (E.map leafS) = rt at *
  generalize E.length = n at *
  clear hH ht hg h
  have HP : Aside (D.span 0 n = rt ∧ D.read 0 = ckSec n (bts rt)) := ⟨hspan, h0⟩
  have hcs : (ckSec n (bts rt)).length = 128 := h0 ▸ hs0
  clear hspan h0 hs0
  have hrt : (rt.toList == rt.toList) = true := by rw [eqs]; exact decide_eq_true rfl
  go_enter Tryd.func105, Tryd.ntmps105
  go_wp2_with fail
  refine hck.mono ?_
  rintro e w1 ⟨rfl, hb1⟩
  clear hck
  have hn64 : ¬ (n : Int) > 64 := by omega
  have hrd : Calls Tryd.prog 116 #[.pointer (some ⟨b, 0, none⟩), .int .i64 0] w1 fun e w' => e = .returned (.agg (u8s (ckSec n (bts rt))).toArray) ∧ Below w1.heap.size w1 w' := by
    have := read_any b fv D 0 w1 (HD.out.1.below hb1) (by omega)
    rw [HP.out.2] at this
    exact this
  have B1 : Aside (Below w.heap.size w w1) := hb1
  go_wp2_with fail
  refine hrd.mono ?_
  rintro e w2 ⟨rfl, hb2⟩
  have B2 : Aside (Below w.heap.size w w2) := B1.out.trans (hb2.mono B1.out.size)
  have hcp := checkpoint_any n rt w2 (by omega) (by omega)
  clear hrd hb1 hb2
  generalize ckSec n (bts rt) = s at *
  go_wp2_with fail
  refine hcp.mono ?_
  rintro e w3 ⟨rfl, hb3⟩
  have B3 : Aside (Below w.heap.size w w3) := B2.out.trans (hb3.mono B2.out.size)
  clear hcp hb3
  have heq := fun wx => equal_sec wx hcs hcs
  rw [show decide (s = s) = true by simp] at heq
  generalize (u8s s).toArray = arr at *
  have htl := tilesHold_any b n fv D w3 (HD.out.1.below B3.out) (by omega) (table_at B3.out HD.out.2.2.1 HD.out.2.1) (Nat.lt_of_lt_of_le HD.out.2.2.1 B3.out.size)
  go_wp2_with fail
  refine htl.mono ?_
  rintro e w4 ⟨r, rfl, hr, hb4⟩
  clear htl
  have hr1 : r = true := hr.2 HD.out.2.2.2.1
  subst hr1
  clear hr
  have B4 : Aside (Below w.heap.size w w4) := B3.out.trans (hb4.mono B3.out.size)
  have hsp : Calls Tryd.prog 98 #[.pointer (some ⟨b, 0, none⟩), .int .i64 0, .int .i64 (n : Int)] w4 fun e w' => e = .returned (.string rt) ∧ Below w4.heap.size w4 w' := by
    have := span_any b 0 n fv D w4 (HD.out.1.below B4.out) (by omega) (table_at B4.out HD.out.2.2.1 HD.out.2.1) (Nat.lt_of_lt_of_le HD.out.2.2.1 B4.out.size)
    rw [HP.out.1, Nat.zero_add] at this
    exact this
  clear hb4
  go_wp2_with fail
  refine hsp.mono ?_
  rintro e w5 ⟨rfl, hb5⟩
  clear hsp
  have B5 : Aside (Below w.heap.size w w5) := B4.out.trans (hb5.mono B4.out.size)
  have hft := fits_none b (n : Int) fv D w5 (HD.out.1.below B5.out) HD.out.2.2.2.2
  clear hb5
  go_wp2_with fail
  refine hft.mono ?_
  rintro e w6 ⟨rfl, hb6⟩
  have B6 : Aside (Below w.heap.size w w6) := B5.out.trans (hb6.mono B5.out.size)
  clear hft hb6
  go_wp2
  go_ret
  exact ⟨rfl, B6.out⟩
end Go.Proofs.YtlhohmlpcgbliaaDoor
namespace Go.Proofs.YtlhohmlpcgbliaaDoor
set_option maxRecDepth 100000
open Go.RowKit
attribute [local go_sem ↓] Go.wp_at_zero Go.wp_at_succ

set_option maxHeartbeats 2000000 in
theorem storeOpen_ok (s : ByteArray) (E : List ByteArray) (w : World) (hs : s.size = 25600) (hH : Holds (Dk.of (bts s)) E) (ht : Table w) (hg : 2 < w.heap.size) :
    Calls Tryd.prog 83 #[.string s] w fun e w' => ∃ b, e = .returned (.tuple #[.agg #[.pointer (some ⟨b, 0, none⟩)], .bool true]) ∧ w.heap.size ≤ b ∧ DiskAt w' b (.slice none 0 0) (Dk.of (bts s)) ∧ Below w.heap.size w w' := by
  have hb0 : Below w.heap.size w (w.alloc (.cells #[.pointer none] 97)) := (Below.refl _ _).alloc (Nat.le_refl _) _
  have hB0 : Blk (w.alloc (.cells #[.pointer none] 97)) w.heap.size 97 [.pointer none] := Blk.new w _ _
  have hop := open_any s (w.alloc (.cells #[.pointer none] 97)) hs
  have HT : Aside (Table w ∧ 2 < w.heap.size ∧ Holds (Dk.of (bts s)) E) := ⟨ht, hg, hH⟩
  clear ht hg hH hs
  generalize Dk.of (bts s) = D at *
  go_enter Tryd.func83, Tryd.ntmps83
  go_wp2_with fail
  have hs0 : w.heap.size < (w.alloc (.cells #[.pointer none] 97)).heap.size := by simp
  generalize w.alloc (.cells #[.pointer none] 97) = w0 at *
  refine hop.mono ?_
  rintro e w1 ⟨rfl, hd1, hb1⟩
  clear hop
  have hw1 : Below w.heap.size w w1 := hb0.trans (hb1.mono hb0.size)
  have hB1 := hB0.below hb1 hs0
  have hso := sound_ok w0.heap.size _ D E w1 hd1 HT.out.2.2 (table_at hw1 HT.out.2.1 HT.out.1) (Nat.lt_of_lt_of_le HT.out.2.1 hw1.size)
  go_wp2_with fail
  refine hso.mono ?_
  rintro e w2 ⟨rfl, hb2⟩
  clear hso
  have hw2 := hw1.trans (hb2.mono hw1.size)
  have hB2 := hB1.below hb2 hB1.lt
  have hd2 := hd1.below hb2
  have hc0 := hB2.cell 0
  have hf0 := hB2.frozen 0
  simp only [List.getElem?_cons_zero] at hc0
  have HB := hB2.set 0 (.pointer (some ⟨w0.heap.size, 0, none⟩))
  simp only [List.set_cons_zero] at HB
  have Hb : Below w.heap.size w (w2.setCell ⟨w.heap.size, 0, none⟩ (.pointer (some ⟨w0.heap.size, 0, none⟩))) := hw2.setCell (Nat.le_refl _) _
  have hd6 : DiskAt (w2.setCell ⟨w.heap.size, 0, none⟩ (.pointer (some ⟨w0.heap.size, 0, none⟩))) w0.heap.size (.slice none 0 0) D := ⟨hd2.ok, hd2.blk.set_other _ _ (by simp only; omega), ownsRow_setCell_other hd2.row (by simp [Value.ownBlock]) _, hd2.apart⟩
  go_wp2_with fail
  exact bodyPost_ret (results_ct Tryd.results83 (by rfl) (by rfl) HB.range Tryd.underlying97 rfl infoSto) rfl ⟨w0.heap.size, rfl, by omega, hd6, Hb⟩

set_option maxHeartbeats 2000000 in
theorem groveOpen_ok (s : ByteArray) (E : List ByteArray) (w : World) (hs : s.size = 25600) (hH : Holds (Dk.of (bts s)) E) (ht : Table w) (hg : 2 < w.heap.size) :
    Calls Tryd.prog 56 #[.string s] w fun e w' => ∃ a b, e = .returned (.tuple #[.pointer (some ⟨a, 0, none⟩), .int .i64 0]) ∧ w.heap.size ≤ a ∧ w.heap.size ≤ b ∧ LogAt w' a b (.slice none 0 0) (.slice none 0 0) (Dk.of (bts s)) [] ∧ Below w.heap.size w w' := by
  have hop := fun wx (hx : Below w.heap.size w wx) => storeOpen_ok s E wx hs hH (table_at hx hg ht) (Nat.lt_of_lt_of_le hg hx.size)
  clear ht hg hH hs
  generalize Dk.of (bts s) = D at *
  have hop0 := hop w (Below.refl _ _)
  clear hop
  go_enter Tryd.func56, Tryd.ntmps56
  go_wp2_with fail
  refine hop0.mono ?_
  rintro e w1 ⟨b, rfl, hb, hd1, hb1⟩
  clear hop0
  have hb2 : Below w.heap.size w (w1.alloc (.cells #[.pointer (some ⟨b, 0, none⟩)] 97)) := hb1.alloc hb1.size _
  have hB2 : Blk (w1.alloc (.cells #[.pointer (some ⟨b, 0, none⟩)] 97)) w1.heap.size 97 [.pointer (some ⟨b, 0, none⟩)] := Blk.new w1 _ _
  have hc2 := hB2.cell 0
  simp only [List.getElem?_cons_zero] at hc2
  have hd3 := (hd1.alloc (.cells #[.pointer (some ⟨b, 0, none⟩)] 97)).alloc (.cells #[.pointer (some ⟨b, 0, none⟩), .slice none 0 0] 99)
  have hA : Blk ((w1.alloc (.cells #[.pointer (some ⟨b, 0, none⟩)] 97)).alloc (.cells #[.pointer (some ⟨b, 0, none⟩), .slice none 0 0] 99)) (w1.heap.size + 1) 99 [.pointer (some ⟨b, 0, none⟩), .slice none 0 0] := by
    have := Blk.new (w1.alloc (.cells #[.pointer (some ⟨b, 0, none⟩)] 97)) 99 [.pointer (some ⟨b, 0, none⟩), .slice none 0 0]
    rw [show (w1.alloc (.cells #[.pointer (some ⟨b, 0, none⟩)] 97)).heap.size = w1.heap.size + 1 by simp] at this
    exact this
  have hlt := hd1.lt
  have hs1 := hb1.size
  go_wp2
  go_ret2
  exact ⟨w1.heap.size + 1, b, rfl, by omega, hb, ⟨hd3, hA, World.ownsRow_nil _ _ _ _, by omega, by simp [Value.ownBlock], by simp [Value.ownBlock], by simp [Value.ownBlock], fun k hk => by simp [Value.ownBlock] at hk⟩, hb2.alloc hb2.size _⟩

theorem bytes_range (w : World) (s : ByteArray) : (Lib.bytesWorld w 5 s).rangeAt w.heap.size 0 (u8s (bts s)) := by
  intro j v hv
  have hj : j < s.size := by
    have := (List.getElem?_eq_some_iff.1 hv).1
    rwa [u8s_length, bts_length] at this
  have h1 := u8s_get (bts s) j (by rw [bts_length]; exact hj)
  rw [h1] at hv
  injection hv with hv
  subst hv
  rw [Nat.zero_add, Lib.bytesWorld_cell _ _ _ _ hj]
  simp [bts, List.getD_eq_getElem?_getD, hj]

set_option maxHeartbeats 2000000 in
theorem copied_ok {w : World} {a b : Nat} {fv wv : Value} {D : Dk} {W : List ByteArray} {E : List ByteArray} (h : LogAt w a b fv wv D W) (hH : Holds (Dk.of D.las.flatten) E) (ht : Table w) (hg : 2 < w.heap.size) :
    Calls Tryd.prog 43 #[.pointer (some ⟨a, 0, none⟩)] w fun e w' => ∃ a' b', e = .returned (.pointer (some ⟨a', 0, none⟩)) ∧ w.heap.size ≤ a' ∧ w.heap.size ≤ b' ∧ LogAt w' a' b' (.slice none 0 0) (.slice none 0 0) (Dk.of D.las.flatten) [] ∧ Below w.heap.size w w' := by
  have hby := logBytes_any h
  have hbf := bts_flat h.disk.ok
  have hsz : (strOf D.las.flatten).size = 25600 := by rw [strOf_size (flat_byt h.disk.ok), h.disk.ok.flat]
  rw [← hbf] at hH ⊢
  have hop := fun wx (hx : Below w.heap.size w wx) => groveOpen_ok (strOf D.las.flatten) E wx hsz hH (table_at hx hg ht) (Nat.lt_of_lt_of_le hg hx.size)
  clear hH ht hg hbf
  generalize Dk.of (bts (strOf D.las.flatten)) = D' at *
  generalize strOf D.las.flatten = s at *
  go_enter Tryd.func43, Tryd.ntmps43
  go_wp2_with fail
  refine hby.mono ?_
  rintro e w1 ⟨rfl, hb1⟩
  have hcv := Lib.run_convert_string_bytes (P := Tryd.prog) w1 9 82 5 s Tryd.underlying9 Tryd.underlying82 Tryd.underlying5
  have hb2 : Below w.heap.size w (Lib.bytesWorld w1 5 s) := hb1.trans ((below_bytes w1 s).mono hb1.size)
  have hcb := convert_range (cap := grownCap w1 s.size 0 5) (bytes_range w1 s)
  rw [bts_length, strOf_bts] at hcb
  generalize grownCap w1 s.size 0 5 = cap at *
  generalize Lib.bytesWorld w1 5 s = w2 at *
  have hop2 := hop w2 hb2
  clear hby hop hsz
  go_wp2_with fail
  refine hop2.mono ?_
  rintro e w3 ⟨a', b', rfl, ha, hb, hL, hb3⟩
  clear hop2
  have hs2 := hb2.size
  go_wp2
  go_ret
  exact ⟨a', b', rfl, by omega, by omega, hL, hb2.trans (hb3.mono hb2.size)⟩
end Go.Proofs.YtlhohmlpcgbliaaDoor
namespace Go.Proofs.YtlhohmlpcgbliaaDoor
set_option maxRecDepth 100000
open Go.RowKit
attribute [local go_sem ↓] Go.wp_at_zero Go.wp_at_succ

/-- A function's code from a region on, wherever it stands. -/
def findD (n : Nat) : Code → Option Code
  | .seq a b => match a with
    | .region k ops d => if k = n then some (.seq (.region k ops d) b) else findD n b
    | a => (findD n a).or (findD n b)
  | .block _ c => findD n c
  | .loop c => findD n c
  | .scope c => findD n c
  | _ => none
def sfxD (f : Func) (n : Nat) : Code := (f.body.bind (findD n)).getD .skip

/-- What holds ahead of a round: d of the entries are in y, in k groups. -/
structure AlkI (w0 : World) (cb : Nat) (ts : List ByteArray) (g : Nat → Nat) (T : Dk) (d k o c ay az : Nat) (wr : World) : Prop where
  dle : d ≤ ts.length
  kd : k ≤ d
  cap : ts.length - d ≤ c
  sa : SA wr cb o (ts.drop d)
  bel : Below w0.heap.size w0 wr
  ex : ∃ (yb bz : Nat) (fvy fvz : Value) (Dy Dz Dx : Dk) (Ez : List ByteArray), LogAt wr ay yb fvy (.slice none 0 0) Dy [] ∧ Holds Dy (ts.take d) ∧ Same Dx Dy ∧ groF g (ts.length - k) k Dx (ts.drop d) = T ∧ LogAt wr az bz fvz (.slice none 0 0) Dz [] ∧ Holds Dz Ez ∧ Ez.length ≤ k ∧ Dis ay yb fvy.ownBlock none az bz fvz.ownBlock none ∧ (∀ j, Own ay yb fvy.ownBlock none j → w0.heap.size ≤ j) ∧ (∀ j, Own az bz fvz.ownBlock none j → w0.heap.size ≤ j)
theorem AlkI.copy {w0 : World} {cb : Nat} {ts : List ByteArray} {g : Nat → Nat} {T : Dk} {d k o c ay az : Nat} {wr : World} (h : AlkI w0 cb ts g T d k o c ay az wr) (ht : Table w0) (hg : 2 < w0.heap.size) :
    Calls Tryd.prog 43 #[.pointer (some ⟨ay, 0, none⟩)] wr fun e w' => ∃ a', e = .returned (.pointer (some ⟨a', 0, none⟩)) ∧ AlkI w0 cb ts g T d k o c a' az w' := by
  obtain ⟨yb, bz, fvy, fvz, Dy, Dz, Dx, Ez, hLy, hHy, hS, hT, hLz, hHz, hEz, hD, hoy, hoz⟩ := h.ex
  refine (copied_ok hLy hHy.again (table_at h.bel hg ht) (Nat.lt_of_lt_of_le hg h.bel.size)).mono ?_
  rintro e w' ⟨a', b', rfl, ha, hb, hL, hbl⟩
  have hsz := h.bel.size
  refine ⟨a', rfl, ⟨h.dle, h.kd, h.cap, h.sa.below hbl, h.bel.trans (hbl.mono hsz), b', bz, .slice none 0 0, fvz, Dk.of Dy.las.flatten, Dz, Dx, Ez, hL, hHy.again, hS.trans (Same.of hHy.nf hHy.ok hHy.fre), hT, hLz.below hbl, hHz, hEz, ?_, ?_, hoz⟩⟩
  · exact Dis.new ha hb (fun j hj => hLz.lt j hj)
  · intro j hj
    rcases hj with e | e | e | e
    · omega
    · omega
    · cases e
    · cases e

/-- As AlkI, and n more wait in y. -/
structure AlkJ (w0 : World) (cb : Nat) (ts : List ByteArray) (g : Nat → Nat) (T : Dk) (d k e n o c ay az : Nat) (wr : World) : Prop where
  n1 : 1 ≤ n
  n12 : n ≤ 12
  dle : d + n ≤ ts.length
  kd : k ≤ d
  cap : ts.length - d ≤ c
  siz : ∀ s ∈ ts, s.size ≤ 40
  l64 : ts.length ≤ 64
  sa : SA wr cb o (ts.drop d)
  cbl : cb < w0.heap.size
  bel : Below w0.heap.size w0 wr
  ex : ∃ (yb bz : Nat) (fvy wvy fvz : Value) (Dy Dz Dx : Dk) (Ez : List ByteArray), LogAt wr ay yb fvy wvy Dy ((ts.drop d).take n) ∧ Holds Dy (ts.take d) ∧ Same Dx Dy ∧ groF g (ts.length - (k + 1)) (k + 1) (Dx.add ((ts.drop d).take n)) (ts.drop (d + n)) = T ∧ LogAt wr az bz fvz (.slice none 0 0) Dz [] ∧ Holds Dz Ez ∧ Ez.length ≤ e ∧ Dis ay yb fvy.ownBlock wvy.ownBlock az bz fvz.ownBlock none ∧ (∀ j, Own ay yb fvy.ownBlock wvy.ownBlock j → w0.heap.size ≤ j) ∧ (∀ j, Own az bz fvz.ownBlock none j → w0.heap.size ≤ j)
/-- y's Flush. -/
theorem AlkJ.flush {w0 : World} {cb : Nat} {ts : List ByteArray} {g : Nat → Nat} {T : Dk} {d k n o c ay az : Nat} {wr : World} (h : AlkJ w0 cb ts g T d k (k + 1) n o c ay az wr) (ht : Table w0) (hg : 2 < w0.heap.size) :
    Calls Tryd.prog 42 #[.pointer (some ⟨ay, 0, none⟩)] wr fun e w' => ∃ m, e = .returned (.tuple #[.int .i64 m, .int .i64 0]) ∧ AlkI w0 cb ts g T (d + n) (k + 1) (if c = n then o else o + n) (c - n) ay az w' := by
  obtain ⟨yb, bz, fvy, wvy, fvz, Dy, Dz, Dx, Ez, hLy, hHy, hS, hT, hLz, hHz, hEz, hD, hoy, hoz⟩ := h.ex
  have hd := h.dle
  have h64 := h.l64
  have hn1 := h.n1
  have hn2 := h.n12
  have hkd := h.kd
  have hcap := h.cap
  have hlen : ((ts.drop d).take n).length = n := by rw [List.length_take, List.length_drop]; omega
  have hz : ∀ s ∈ (ts.drop d).take n, s.size ≤ 40 := fun s hs => h.siz s (List.mem_of_mem_drop (List.mem_of_mem_take hs))
  have hN := hHy.ckN
  rw [List.length_take, Nat.min_eq_left (by omega)] at hN
  have hfd : Dy.flushed ((ts.drop d).take n) = Dy.add ((ts.drop d).take n) := by
    unfold Dk.flushed
    rw [if_neg (by rw [hlen]; omega)]
  have hH4 := add_spec hHy (W := (ts.drop d).take n) (by rw [hlen]; omega) hz (by rw [hlen, List.length_take]; omega)
  rw [show ts.take d ++ (ts.drop d).take n = ts.take (d + n) from (List.take_add ..).symm] at hH4
  refine (logFlush_any hLy hHy.nf.failed hHy.jn hz (by rw [hlen, hN]; omega) (by rw [hHy.fre]; simp) (env_of ht hg h.bel (hoy _ (.inr (.inl rfl))) (fun j hj => hoy j (.inr (.inr (.inl hj))))) (by rw [hfd]; exact hH4.nf.failed)).mono ?_
  rintro e w' ⟨rfl, fv', hL', hR'⟩
  rw [hfd] at hL'
  obtain ⟨hb4, hf4, _⟩ := FrL.below h.bel hR' (hoy _ (.inl rfl)) (hoy _ (.inr (.inl rfl))) (fun j hj => hoy j (.inr (.inr (.inl hj)))) (fun j hj => hoy j (.inr (.inr (.inr hj))))
  refine ⟨_, rfl, ⟨hd, by omega, by omega, ?_, hb4, yb, bz, fv', fvz, _, Dz, _, Ez, hL', hH4, hS.add _, hT, hLz.other hR' hD.symm, hHz, hEz, hD.step hR' (fun j hj => hLz.lt j hj), ?_, hoz⟩⟩
  · by_cases hj : n < ts.length - d
    · rw [if_neg (by omega)]
      have h1 : SA w' cb o (ts.drop d) := fun i s hs => by
        have h9 := h.sa i s hs
        rw [hb4.cell (p := ⟨cb, o + i, none⟩) h.cbl, ← h.bel.cell (p := ⟨cb, o + i, none⟩) h.cbl]; exact h9
      have := h1.drop n
      rw [List.drop_drop] at this
      exact this
    · rw [List.drop_eq_nil_of_le (by omega)]
      intro i s hs
      simp at hs
  · intro j hj
    rcases hj with e | e | e | e
    · rw [e]; exact hoy _ (.inl rfl)
    · rw [e]; exact hoy _ (.inr (.inl rfl))
    · exact hf4 j e
    · cases e

end Go.Proofs.YtlhohmlpcgbliaaDoor
namespace Go.Proofs.YtlhohmlpcgbliaaDoor
set_option maxRecDepth 100000
open Go.RowKit
attribute [local go_sem ↓] Go.wp_at_zero Go.wp_at_succ

theorem AlkJ.below {w0 : World} {cb : Nat} {ts : List ByteArray} {g : Nat → Nat} {T : Dk} {d k e n o c ay az : Nat} {wr w' : World} (h : AlkJ w0 cb ts g T d k e n o c ay az wr) (hb : Below wr.heap.size wr w') : AlkJ w0 cb ts g T d k e n o c ay az w' := by
  obtain ⟨yb, bz, fvy, wvy, fvz, Dy, Dz, Dx, Ez, hLy, hHy, hS, hT, hLz, hHz, hEz, hD, hoy, hoz⟩ := h.ex
  exact ⟨h.n1, h.n12, h.dle, h.kd, h.cap, h.siz, h.l64, h.sa.below hb, h.cbl, h.bel.trans (hb.mono h.bel.size), yb, bz, fvy, wvy, fvz, Dy, Dz, Dx, Ez, hLy.below hb, hHy, hS, hT, hLz.below hb, hHz, hEz, hD, hoy, hoz⟩
end Go.Proofs.YtlhohmlpcgbliaaDoor
namespace Go.Proofs.YtlhohmlpcgbliaaDoor
set_option maxRecDepth 100000
open Go.RowKit
attribute [local go_sem ↓] Go.wp_at_zero Go.wp_at_succ

/-- A text's first 40 bytes. -/
def cutS (s : ByteArray) : ByteArray := if s.size ≤ 40 then s else s.extract 0 40
theorem cutS_size (s : ByteArray) : (cutS s).size ≤ 40 := by
  unfold cutS
  split
  · assumption
  · rw [ByteArray.size_extract]; omega
set_option maxHeartbeats 400000 in
theorem cutS_any (s : ByteArray) (w : World) (hs : s.size ≤ 140737488355328) : Calls Tryd.prog 41 #[.string s] w fun e w' => e = .returned (.string (cutS s)) ∧ w' = w := by
  by_cases h : s.size ≤ 40
  · have HC : Aside (cutS s = s) := if_pos h
    generalize cutS s = t at *
    go_enter Tryd.func41, Tryd.ntmps41
    go_wp2
    go_ret
    exact ⟨by rw [HC.out]; rfl, rfl⟩
  · have HC : Aside (cutS s = s.extract 0 40) := if_neg h
    generalize cutS s = t at *
    go_enter Tryd.func41, Tryd.ntmps41
    go_wp2
    go_ret
    exact ⟨by rw [HC.out]; rfl, rfl⟩

theorem Dk.script_ok {D : Dk} (h : D.ok) (a k : Int) : (D.script a k).ok := ⟨h.las, h.sec, h.fre, h.few⟩
theorem Dk.script_like (D : Dk) (a k : Int) : Like (D.script a k) D := ⟨rfl, rfl⟩
set_option maxHeartbeats 1000000 in
theorem diskFail_any (b : Nat) (after keep : Int) (fv : Value) (D : Dk) (w : World) (h : DiskAt w b fv D) :
    Calls Tryd.prog 81 #[.pointer (some ⟨b, 0, none⟩), .int .i64 after, .int .i64 keep] w fun e w' => e = .returned (.tuple #[]) ∧ DiskAt w' b fv (D.script after keep) ∧ Fr b fv.ownBlock fv.ownBlock w w' := by
  have h1 : DiskAt (w.setCell ⟨b, 25602, none⟩ (.bool true)) b fv { D with set := true } := h.put 2 (.bool true) fv { D with set := true } ⟨h.ok.las, h.ok.sec, h.ok.fre, h.ok.few⟩ rfl rfl rfl rfl
  have h2 : DiskAt ((w.setCell ⟨b, 25602, none⟩ (.bool true)).setCell ⟨b, 25603, none⟩ (.int .i64 after)) b fv { D with set := true, left := after } := h1.put 3 (.int .i64 after) fv { D with set := true, left := after } ⟨h.ok.las, h.ok.sec, h.ok.fre, h.ok.few⟩ rfl rfl rfl rfl
  have HD : Aside (DiskAt (((w.setCell ⟨b, 25602, none⟩ (.bool true)).setCell ⟨b, 25603, none⟩ (.int .i64 after)).setCell ⟨b, 25604, none⟩ (.int .i64 keep)) b fv (D.script after keep)) := h2.put 4 (.int .i64 keep) fv (D.script after keep) (Dk.script_ok h.ok _ _) rfl rfl rfl rfl
  have HF : Aside (Fr b fv.ownBlock fv.ownBlock w (((w.setCell ⟨b, 25602, none⟩ (.bool true)).setCell ⟨b, 25603, none⟩ (.int .i64 after)).setCell ⟨b, 25604, none⟩ (.int .i64 keep))) := ((Fr.setCell _ _ _ _ _ _ (.inr rfl)).trans (Fr.setCell _ _ _ _ _ _ (.inr rfl))).trans (Fr.setCell _ _ _ _ _ _ (.inr rfl))
  have c0 := h.cell 2
  have c1 := h1.cell 3
  have c2 := h2.cell 4
  have f0 := h.blk.frozen 25602
  have f1 := h1.blk.frozen 25603
  have f2 := h2.blk.frozen 25604
  simp only [List.getElem?_cons_succ, List.getElem?_cons_zero, Nat.reduceAdd] at c0 c1 c2
  clear h h1 h2
  go_enter Tryd.func81, Tryd.ntmps81
  go_wp2
  go_end0
  exact ⟨rfl, HD.out, HF.out⟩

set_option maxHeartbeats 1000000 in
theorem logFail_ok {w : World} {a b : Nat} {fv wv : Value} {D : Dk} {W : List ByteArray} (h : LogAt w a b fv wv D W) (hf : D.failed = false) (after : Nat) (keep : Int) : Calls Tryd.prog 50 #[.pointer (some ⟨a, 0, none⟩), .int .i64 (after : Int), .int .i64 keep] w fun e w' => e = .returned (.int .i64 0) ∧ LogAt w' a b fv wv (D.script (after : Int) keep) W ∧ FrL a b fv.ownBlock wv.ownBlock fv.ownBlock wv.ownBlock w w' := by
  have hc := h.blk.cell 0
  simp only [List.getElem?_cons_zero] at hc
  have hd := down_any h
  rw [hf] at hd
  have hp := diskFail_any b (after : Int) keep fv D w h.disk
  go_enter Tryd.func50, Tryd.ntmps50
  go_wp2_with fail
  refine hd.mono ?_
  rintro e w1 ⟨rfl, rfl⟩
  clear hf
  have hn : ¬ (after : Int) < 0 := by omega
  go_wp2_with fail
  refine hp.mono ?_
  rintro e w2 ⟨rfl, hd2, hr2⟩
  go_wp2
  go_ret
  exact ⟨rfl, h.fr hr2 hd2, FrL.of_fr hr2⟩

theorem wrA_len (start each : Nat) : ∀ (f : Nat) (R : Dk) (i : Nat) (cs : List (List Nat)), (wrA start each f R i cs).length ≤ f := by
  intro f
  induction f with
  | zero => intro R i cs; exact Nat.le_refl _
  | succ f ih =>
    intro R i cs
    rw [wrA]
    split
    · exact Nat.zero_le _
    · rw [List.length_cons]; exact Nat.succ_le_succ (ih _ _ _)
theorem grA_len : ∀ (f : Nat) (R : Dk) (first n l size : Nat), n ≤ 76 → (grA f R first n l size).length ≤ f * 100 := by
  intro f
  induction f with
  | zero => intro R _ _ _ _ _; exact Nat.zero_le _
  | succ f ih =>
    intro R first n l size hn
    rw [grA]
    split
    · rw [List.length_append]
      have h1 := wrA_len (tileAt l).1 4 ((R.hashes l (first / size) (n / size)).map bts).length R (first / size) ((R.hashes l (first / size) (n / size)).map bts)
      have h2 : ((R.hashes l (first / size) (n / size)).map bts).length ≤ 76 := by
        have : n / size ≤ n := Nat.div_le_self _ _
        rw [List.length_map]
        unfold Dk.hashes
        rw [List.length_map, List.length_range]
        generalize n / size = q1 at *
        generalize first / size = q0 at *
        omega
      have h3 := ih (R.rowWrite (tileAt l).1 4 (first / size) ((R.hashes l (first / size) (n / size)).map bts)) first n (l + 1) (size * 4) hn
      omega
    · exact Nat.zero_le _
theorem adA_len {R : Dk} {ss : List ByteArray} (hl : R.ckN + ss.length ≤ 76) : 3 ≤ (adA R ss).length ∧ (adA R ss).length ≤ 10000 := by
  unfold adA enA
  have h1 := wrA_len 2 3 (packs ss).length R 0 (packs ss)
  rw [packs_len] at h1
  have hj : (jwA R R.ckN ss).length = (wrA 2 3 (packs ss).length R 0 (packs ss)).length + 3 := by simp [jwA]
  rw [List.length_append, hj, packs_len]
  refine ⟨by omega, ?_⟩
  split
  · have h2 := wrA_len 6 3 (packs ss).length (R.jwrite R.ckN ss) R.ckN (packs ss)
    have h3 := grA_len (R.ckN + ss.length) ((R.jwrite R.ckN ss).rowWrite 6 3 R.ckN (packs ss)) R.ckN (R.ckN + ss.length) 0 1 hl
    rw [packs_len] at h2
    have h4 : (ptA (R.jwrite R.ckN ss) R.ckN ss ++ (ckA ((R.jwrite R.ckN ss).put R.ckN ss) (R.ckN + ss.length) ++ rmA)).length = (wrA 6 3 (packs ss).length (R.jwrite R.ckN ss) R.ckN (packs ss)).length + (grA (R.ckN + ss.length) ((R.jwrite R.ckN ss).rowWrite 6 3 R.ckN (packs ss)) R.ckN (R.ckN + ss.length) 0 1).length + 5 := by
      simp [ptA, ckA, rmA]; omega
    rw [h4, packs_len]
    omega
  · have : rmA.length = 2 := rfl
    omega
/-- The acts of a disk without a script are counted. -/
theorem nf_run_acts : ∀ (xs : List (Option (Nat × List Nat))) (R : Dk), R.nf → 0 ≤ R.acts → R.acts + xs.length ≤ 4611686018427387904 → (R.run xs).acts = R.acts + xs.length := by
  intro xs
  induction xs with
  | nil => intro R _ _ _; simp [Dk.run]
  | cons a r ih =>
    intro R hR h0 h1
    rw [List.length_cons] at h1
    have hw : wrap64 (R.acts + 1) = R.acts + 1 := by unfold wrap64; omega
    have hd : (R.doA a).acts = R.acts + 1 := by
      cases a with
      | none => show R.flush.acts = _; rw [hR.flush_eq]; exact hw
      | some x => show (R.write x.1 x.2).acts = _; rw [hR.write_eq]; exact hw
    show ((R.doA a).run r).acts = _
    rw [ih _ (hR.doA a) (by omega) (by rw [hd]; omega), hd, List.length_cons]
    omega
theorem nf_add_acts {R : Dk} (hR : R.nf) (ss : List ByteArray) (hl : R.ckN + ss.length ≤ 76) (h0 : 0 ≤ R.acts) (h1 : R.acts ≤ 1000000) : (R.add ss).acts = R.acts + (adA R ss).length := by
  have h2 := adA_len hl
  have h3 : R.add ss = R.run (adA R ss) := (does_add hR ss).at
  rw [h3, nf_run_acts _ _ hR h0 (by omega)]
end Go.Proofs.YtlhohmlpcgbliaaDoor
namespace Go.Proofs.YtlhohmlpcgbliaaDoor
set_option maxRecDepth 100000
open Go.RowKit
attribute [local go_sem ↓] Go.wp_at_zero Go.wp_at_succ

/-- A log whose blocks are all newer than a world B, of which nothing has changed. -/
structure Lg (B w : World) (a : Nat) (D : Dk) (W : List ByteArray) : Prop where
  bel : Below B.heap.size B w
  ex : ∃ (b : Nat) (fv wv : Value), LogAt w a b fv wv D W ∧ ∀ j, Own a b fv.ownBlock wv.ownBlock j → B.heap.size ≤ j
theorem Lg.below {B w w' : World} {a : Nat} {D : Dk} {W : List ByteArray} (h : Lg B w a D W) (hb : Below w.heap.size w w') : Lg B w' a D W := by
  obtain ⟨b, fv, wv, hL, ho⟩ := h.ex
  exact ⟨h.bel.trans (hb.mono h.bel.size), b, fv, wv, hL.below hb, ho⟩
theorem Lg.of_new {w w' : World} {a b : Nat} {D : Dk} (hL : LogAt w' a b (.slice none 0 0) (.slice none 0 0) D []) (hb : Below w.heap.size w w') (ha : w.heap.size ≤ a) (hbb : w.heap.size ≤ b) : Lg w w' a D [] := by
  refine ⟨hb, b, _, _, hL, ?_⟩
  intro j hj
  rcases hj with e | e | e | e
  · omega
  · omega
  · cases e
  · cases e
theorem Lg.copied {w : World} {a b : Nat} {fv wv : Value} {D : Dk} {W : List ByteArray} {E : List ByteArray} (h : LogAt w a b fv wv D W) (hH : Holds (Dk.of D.las.flatten) E) (ht : Table w) (hg : 2 < w.heap.size) :
    Calls Tryd.prog 43 #[.pointer (some ⟨a, 0, none⟩)] w fun e w' => ∃ a', e = .returned (.pointer (some ⟨a', 0, none⟩)) ∧ Lg w w' a' (Dk.of D.las.flatten) [] := by
  refine (copied_ok h hH ht hg).mono ?_
  rintro e w' ⟨a', b', rfl, ha, hb, hL, hbl⟩
  exact ⟨a', rfl, Lg.of_new hL hbl ha hb⟩
theorem Lg.flush {B w : World} {a : Nat} {D : Dk} {W : List ByteArray} (h : Lg B w a D W) (hf : D.failed = false) (hz1 : D.read 1 = zer) (hz : ∀ s ∈ W, s.size ≤ 40) (hl : D.ckN + W.length ≤ 76) (hfe : D.fre = []) (h0 : 0 < W.length) (hok : (D.add W).failed = false) (ht : Table B) (hg : 2 < B.heap.size) :
    Calls Tryd.prog 42 #[.pointer (some ⟨a, 0, none⟩)] w fun e w' => e = .returned (.tuple #[.int .i64 ((D.add W).ckN : Int), .int .i64 0]) ∧ Lg B w' a (D.add W) [] := by
  obtain ⟨b, fv, wv, hL, ho⟩ := h.ex
  have hfd : D.flushed W = D.add W := by
    unfold Dk.flushed
    rw [if_neg (by omega)]
  have hs := logFlush_any hL hf hz1 hz hl (by rw [hfe]; simp) (env_of ht hg h.bel (ho _ (.inr (.inl rfl))) (fun j hj => ho j (.inr (.inr (.inl hj))))) (by rw [hfd]; exact hok)
  rw [hfd] at hs
  refine hs.mono ?_
  rintro e w' ⟨rfl, fv', hL', hR'⟩
  obtain ⟨hb4, hf4, _⟩ := FrL.below h.bel hR' (ho _ (.inl rfl)) (ho _ (.inr (.inl rfl))) (fun j hj => ho j (.inr (.inr (.inl hj)))) (fun j hj => ho j (.inr (.inr (.inr hj))))
  refine ⟨rfl, hb4, b, fv', _, hL', ?_⟩
  intro j hj
  rcases hj with e | e | e | e
  · rw [e]; exact ho _ (.inl rfl)
  · rw [e]; exact ho _ (.inr (.inl rfl))
  · exact hf4 j e
  · cases e
theorem Lg.flush_down {B w : World} {a : Nat} {D : Dk} {W : List ByteArray} (h : Lg B w a D W) (hf : D.failed = false) (hz1 : D.read 1 = zer) (hz : ∀ s ∈ W, s.size ≤ 40) (hl : D.ckN + W.length ≤ 76) (hfe : D.fre = []) (h0 : 0 < W.length) (hok : (D.add W).failed = true) (ht : Table B) (hg : 2 < B.heap.size) :
    Calls Tryd.prog 42 #[.pointer (some ⟨a, 0, none⟩)] w fun e w' => e = .returned (.tuple #[.int .i64 0, .int .i64 3]) ∧ Lg B w' a (D.add W) W := by
  obtain ⟨b, fv, wv, hL, ho⟩ := h.ex
  have hs := logFlush_down hL hf hz1 hz hl (by rw [hfe]; simp) (env_of ht hg h.bel (ho _ (.inr (.inl rfl))) (fun j hj => ho j (.inr (.inr (.inl hj))))) h0 hok
  refine hs.mono ?_
  rintro e w' ⟨rfl, fv', hL', hR'⟩
  obtain ⟨hb4, hf4, hw4⟩ := FrL.below h.bel hR' (ho _ (.inl rfl)) (ho _ (.inr (.inl rfl))) (fun j hj => ho j (.inr (.inr (.inl hj)))) (fun j hj => ho j (.inr (.inr (.inr hj))))
  refine ⟨rfl, hb4, b, fv', wv, hL', ?_⟩
  intro j hj
  rcases hj with e | e | e | e
  · rw [e]; exact ho _ (.inl rfl)
  · rw [e]; exact ho _ (.inr (.inl rfl))
  · exact hf4 j e
  · exact hw4 j e
theorem Lg.acts {B w : World} {a : Nat} {D : Dk} {W : List ByteArray} (h : Lg B w a D W) : Calls Tryd.prog 45 #[.pointer (some ⟨a, 0, none⟩)] w fun e w' => e = .returned (.int .i64 D.acts) ∧ w' = w := by
  obtain ⟨b, fv, wv, hL, ho⟩ := h.ex
  exact logActs_any hL
theorem Lg.bytes {B w : World} {a : Nat} {D : Dk} {W : List ByteArray} (h : Lg B w a D W) : Calls Tryd.prog 44 #[.pointer (some ⟨a, 0, none⟩)] w fun e w' => e = .returned (.string (strOf D.las.flatten)) ∧ Lg B w' a D W := by
  obtain ⟨b, fv, wv, hL, ho⟩ := h.ex
  refine (logBytes_any hL).mono ?_
  rintro e w' ⟨rfl, hb⟩
  exact ⟨rfl, h.below hb⟩
theorem Lg.fail {B w : World} {a : Nat} {D : Dk} {W : List ByteArray} (h : Lg B w a D W) (hf : D.failed = false) (after : Nat) (keep : Int) : Calls Tryd.prog 50 #[.pointer (some ⟨a, 0, none⟩), .int .i64 (after : Int), .int .i64 keep] w fun e w' => e = .returned (.int .i64 0) ∧ Lg B w' a (D.script (after : Int) keep) W := by
  obtain ⟨b, fv, wv, hL, ho⟩ := h.ex
  refine (logFail_ok hL hf after keep).mono ?_
  rintro e w' ⟨rfl, hL', hR'⟩
  obtain ⟨hb4, hf4, hw4⟩ := FrL.below h.bel hR' (ho _ (.inl rfl)) (ho _ (.inr (.inl rfl))) (fun j hj => ho j (.inr (.inr (.inl hj)))) (fun j hj => ho j (.inr (.inr (.inr hj))))
  exact ⟨rfl, hb4, b, fv, wv, hL', ho⟩

/-- A disk with a script over the adding of some entries: it lasts, or fails when the acts are done. -/
theorem script_in {Y R : Dk} {E : List ByteArray} (hH : Holds R E) (hL : Like Y R) (hf : Y.failed = false) (hs : Y.set = true) (W : List ByteArray) (hl : E.length + W.length ≤ 64) (h1 : ((adA R W).length : Int) ≤ Y.left) (h2 : Y.left ≤ 9223372036854775807) (h3 : 0 ≤ Y.acts) (h4 : Y.acts ≤ 1000000) :
    (Y.add W).failed = false ∧ (Y.add W).set = true ∧ (Y.add W).left = Y.left - (adA R W).length ∧ (Y.add W).acts = Y.acts + (adA R W).length ∧ (Y.add W).keep = Y.keep ∧ Like (Y.add W) (R.add W) := by
  have hd := does_add hH.nf W
  have e1 : Y.add W = Y.run (adA R W) := hd Y (.inr hL)
  have e2 : R.add W = R.run (adA R W) := hd.at
  have hb := adA_len (R := R) (ss := W) (by rw [hH.ckN]; omega)
  rw [e1, e2]
  exact run_in _ Y R hH.nf hL hf hs h1 h2 h3 (by omega)
theorem script_out {Y R : Dk} {E : List ByteArray} (hH : Holds R E) (hL : Like Y R) (hf : Y.failed = false) (hs : Y.set = true) (W : List ByteArray) (hl : E.length + W.length ≤ 64) (t : Nat) (ht : Y.left = t) (h1 : t < (adA R W).length) (h3 : 0 ≤ Y.acts) (h4 : Y.acts ≤ 1000000) :
    (Y.add W).failed = true ∧ (Y.add W).acts = Y.acts + t ∧ (Y.add W).fre = [] ∧ (Y.add W).las = failL Y.keep 0 (R.run ((adA R W).take t)).fre (R.run ((adA R W).take t)).las := by
  have hd := does_add hH.nf W
  have e1 : Y.add W = Y.run (adA R W) := hd Y (.inr hL)
  have hb := adA_len (R := R) (ss := W) (by rw [hH.ckN]; omega)
  rw [e1]
  exact run_out _ Y R hH.nf hL hf hs t ht h1 (by omega) h3 (by omega)
end Go.Proofs.YtlhohmlpcgbliaaDoor
namespace Go.Proofs.YtlhohmlpcgbliaaDoor
set_option maxRecDepth 100000
open Go.RowKit
attribute [local go_sem ↓] Go.wp_at_zero Go.wp_at_succ

/-- A list of texts: nil, or lying somewhere. -/
def LS (w : World) (v : Value) (ts : List ByteArray) : Prop := (v = .slice none 0 0 ∧ ts = []) ∨ ∃ cb co cc, v = .slice (some ⟨cb, co, none⟩) ts.length cc ∧ SA w cb co ts ∧ cb < w.heap.size ∧ ts.length ≤ cc
theorem LS.of_row {w : World} {base : Nat} {v : Value} {ts : List ByteArray} (h : Row w base 9 v (strv ts)) : LS w v ts := by
  by_cases h0 : ts.length = 0
  · have ht := List.eq_nil_of_length_eq_zero h0
    subst ht
    obtain ⟨_, h2⟩ := h
    rcases h2 with ⟨rfl, _⟩ | ⟨g, cap, cur, rfl, _, hg, _⟩
    · exact .inl ⟨rfl, rfl⟩
    · exact .inr ⟨g, 0, cap, rfl, (fun i s hs => by simp at hs), (Array.getElem?_eq_some_iff.1 hg).1, Nat.zero_le _⟩
  · obtain ⟨g, cap, rfl, _, hcap, _, _, hlt, _⟩ := Row.form h (by rw [strv_length]; omega)
    rw [strv_length] at hcap h ⊢
    exact .inr ⟨g, 0, cap, rfl, SA.of_row h (by omega), hlt, hcap⟩
theorem rawI_nil (w : World) : RawI w (.slice none 0 0) := ⟨none, 0, 0, rfl, fun i hi => by omega⟩
theorem grownL_any (v : Value) (ts : List ByteArray) (w : World) (hS : LS w v ts) (hl64 : ts.length ≤ 64) (hz : ∀ s ∈ ts, s.size ≤ 40) (ht : Table w) (hg : 2 < w.heap.size) :
    Calls Tryd.prog 35 #[v, .slice none 0 0] w fun e w' => ∃ (a b : Nat) (fv : Value) (D : Dk), e = .returned (.pointer (some ⟨a, 0, none⟩)) ∧ LogAt w' a b fv (.slice none 0 0) D [] ∧ Holds D ts ∧ Below w.heap.size w w' ∧ w.heap.size ≤ a ∧ w.heap.size ≤ b ∧ (∀ k, fv.ownBlock = some k → w.heap.size ≤ k) := by
  rcases hS with ⟨rfl, rfl⟩ | ⟨cb, co, cc, rfl, hSA, hcb, hcc⟩
  · refine (grownNil_any w ht hg).mono ?_
    rintro e w' ⟨a, b, rfl, hL, hb, ha, hbb⟩
    exact ⟨a, b, _, _, rfl, hL, fresh_holds, hb, ha, hbb, fun k hk => by simp [Value.ownBlock] at hk⟩
  · exact grown_any cb co cc (.slice none 0 0) ts w hSA hcb hcc hl64 hz (rawI_nil w) ht hg

theorem Like.rd {Y R : Dk} {E : List ByteArray} (hL : Like Y R) (hH : Holds R E) : Y.read 1 = zer ∧ Y.ckN = E.length ∧ Y.fre = [] := ⟨(hL.read 1).trans hH.jn, hL.ckN.trans hH.ckN, hL.fre.trans hH.fre⟩
end Go.Proofs.YtlhohmlpcgbliaaDoor
namespace Go.Proofs.YtlhohmlpcgbliaaDoor
set_option maxRecDepth 100000
open Go.RowKit
attribute [local go_sem ↓] Go.wp_at_zero Go.wp_at_succ

end Go.Proofs.YtlhohmlpcgbliaaDoor
namespace Go.Proofs.YtlhohmlpcgbliaaDoor
set_option maxRecDepth 100000
open Go.RowKit
attribute [local go_sem ↓] Go.wp_at_zero Go.wp_at_succ

end Go.Proofs.YtlhohmlpcgbliaaDoor
namespace Go.Proofs.YtlhohmlpcgbliaaDoor
set_option maxRecDepth 100000
open Go.RowKit
attribute [local go_sem ↓] Go.wp_at_zero Go.wp_at_succ

/-- Sector i of a disk's bytes. -/
def secS (s : ByteArray) (i : Nat) : ByteArray := s.extract (i * 128) (i * 128 + 128)
/-- How many of the first k sectors differ. -/
def dif (a b : ByteArray) : Nat → Nat
  | 0 => 0
  | k + 1 => dif a b k + (if secS a k = secS b k then 0 else 1)
theorem dif_le (a b : ByteArray) : ∀ k, dif a b k ≤ k := by
  intro k
  induction k with
  | zero => exact Nat.le_refl _
  | succ k ih => rw [dif]; split <;> omega
theorem sliceStr2 (w : World) (s : ByteArray) (i j : Nat) (hij : i ≤ j) (hj : j ≤ s.size) : (Instr.sliceAt 9 (.string s) (some (.int .i64 (i : Int))) (some (.int .i64 (j : Int))) none).run Tryd.prog w = .ok (.string (s.extract i j)) w := by
  have h1 : (j : Int) ≤ (s.size : Int) := by omega
  have h2 : (i : Int) ≤ (j : Int) := by omega
  simp [go_sem, h1, h2]

set_option maxHeartbeats 400000 in
theorem sector_any (s : ByteArray) (i : Nat) (w : World) (hs : s.size = 25600) (hi : i < 200) : Calls Tryd.prog 80 #[.string s, .int .i64 (i : Int)] w fun e w' => e = .returned (.string (secS s i)) ∧ w' = w := by
  have hsl : ∀ wx, (Instr.sliceAt 9 (.string s) (some (.int .i64 ((i : Int) * 128))) (some (.int .i64 (((i : Int) + 1) * 128))) none).run Tryd.prog wx = .ok (.string (secS s i)) wx := fun wx => by
    have e1 : (i : Int) * 128 = ((i * 128 : Nat) : Int) := by omega
    have e2 : ((i : Int) + 1) * 128 = ((i * 128 + 128 : Nat) : Int) := by omega
    rw [e1, e2]
    exact sliceStr2 wx s (i * 128) (i * 128 + 128) (by omega) (by omega)
  generalize secS s i = y at *
  go_enter Tryd.func80, Tryd.ntmps80
  go_wp2
  go_ret
  exact ⟨rfl, rfl⟩

set_option maxHeartbeats 2000000 in
theorem differ_any (a b : ByteArray) (w : World) (ha : a.size = 25600) (hb : b.size = 25600) : Calls Tryd.prog 46 #[.string a, .string b] w fun e w' => e = .returned (.int .i64 (dif a b 200 : Nat)) ∧ Below w.heap.size w w' := by
  have hab : ¬ (a.size : Int) ≠ (b.size : Int) := by rw [ha, hb]; simp
  have HD : Aside (∀ k, dif a b (k + 1) = dif a b k + (if secS a k = secS b k then 0 else 1)) := fun _ => rfl
  have HL : Aside (∀ k, dif a b k ≤ k) := dif_le a b
  generalize hN0 : dif a b 200 = N0
  have HN0 : Aside (dif a b 200 = N0) := hN0
  clear hN0
  go_enter Tryd.func46, Tryd.ntmps46
  go_wp2_with fail
  go_loopw [5, 6] (fun u v wr => ∃ k x d : Nat, k ≤ 200 ∧ x = k * 128 ∧ d ≤ 200 ∧ u = .int .i64 (d : Int) ∧ v = .int .i64 (x : Int) ∧ Aside (d = dif a b k) ∧ Aside (Below w.heap.size w wr)) (fun _ v _ => 25600 - (intOf v).toNat)
  case atStart => exact ⟨0, 0, 0, by omega, rfl, by omega, rfl, rfl, rfl, Below.refl _ _⟩
  case round =>
    obtain ⟨k, x, d, hk, hx, hd, rfl, rfl, HE, HB⟩ := hrel
    have HX : Aside (x = k * 128) := hx
    by_cases hc : x + 128 ≤ 25600
    · have hc' : (x : Int) + 128 ≤ 25600 := by omega
      have hk2 : k < 200 := by omega
      have hsa : ∀ wx, (Instr.sliceAt 9 (.string a) (some (.int .i64 (x : Int))) (some (.int .i64 ((x : Int) + 128))) none).run Tryd.prog wx = .ok (.string (secS a k)) wx := fun wx => by
        have e2 : (x : Int) + 128 = ((x + 128 : Nat) : Int) := by omega
        rw [e2, hx]
        exact sliceStr2 wx a (k * 128) (k * 128 + 128) (by omega) (by omega)
      have hsb : ∀ wx, (Instr.sliceAt 9 (.string b) (some (.int .i64 (x : Int))) (some (.int .i64 ((x : Int) + 128))) none).run Tryd.prog wx = .ok (.string (secS b k)) wx := fun wx => by
        have e2 : (x : Int) + 128 = ((x + 128 : Nat) : Int) := by omega
        rw [e2, hx]
        exact sliceStr2 wx b (k * 128) (k * 128 + 128) (by omega) (by omega)
      have HN := HD.out k
      have hdk := HL.out k
      clear hx
      generalize secS a k = y1 at *
      generalize secS b k = y2 at *
      by_cases hy : y1 = y2
      · have hyb : (y1.toList == y2.toList) = true := by rw [eqs]; exact decide_eq_true hy
        rw [if_pos hy] at HN
        have HN2 : Aside (dif a b (k + 1) = dif a b k + 0) := HN
        clear HN hy
        go_wp2_with fail
        go_quiet (fail)
        go_wp2
        go_roundw
        case rel => exact ⟨k + 1, x + 128, d, by omega, by have := HX.out; omega, hd, rfl, by go_num, by rw [HN2.out, HE.out]; rfl, Below.drewN' HB.out _⟩
        case measure => simp [intOf]; omega
      · have hyb : (y1.toList == y2.toList) = false := by rw [eqs]; exact decide_eq_false hy
        rw [if_neg hy] at HN
        have HN2 : Aside (dif a b (k + 1) = dif a b k + 1) := HN
        have hd2 : d ≤ k := by rw [HE.out]; exact hdk
        clear HN hy
        go_wp2_with fail
        go_quiet (fail)
        go_wp2
        go_roundw
        case rel => exact ⟨k + 1, x + 128, d + 1, by omega, by have := HX.out; omega, by omega, by go_num, by go_num, by rw [HN2.out, HE.out]; rfl, Below.drewN' HB.out _⟩
        case measure => simp [intOf]; omega
    · have hc' : ¬ (x : Int) + 128 ≤ 25600 := by omega
      have hk2 : k = 200 := by omega
      have hdn : d = N0 := by rw [HE.out, hk2]; exact HN0.out
      have hx0 : 0 ≤ (x : Int) := by omega
      have hx1 : (x : Int) ≤ 25600 := by omega
      clear hx hk2 HE HD HL HN0 hc hk
      subst hdn
      generalize (x : Int) = xi at *
      go_wp2
      go_ret
      exact ⟨rfl, HB.out⟩
end Go.Proofs.YtlhohmlpcgbliaaDoor
namespace Go.Proofs.YtlhohmlpcgbliaaDoor
set_option maxRecDepth 100000
open Go.RowKit
attribute [local go_sem ↓] Go.wp_at_zero Go.wp_at_succ

/-- One of the first k has this sector as b has it. -/
def anyS (b : ByteArray) (ls : List ByteArray) (i : Nat) : Nat → Bool
  | 0 => false
  | k + 1 => anyS b ls i k || decide (secS (ls.getD k ⟨#[]⟩) i = secS b i)
theorem anyS_of {b : ByteArray} {ls : List ByteArray} {i j : Nat} (h : secS (ls.getD j ⟨#[]⟩) i = secS b i) : ∀ k, j < k → anyS b ls i k = true := by
  intro k
  induction k with
  | zero => intro h; omega
  | succ k ih =>
    intro hk
    rw [anyS]
    by_cases hj : j = k
    · subst hj; rw [decide_eq_true h, Bool.or_true]
    · rw [ih (by omega)]; rfl

set_option maxHeartbeats 4000000 in
theorem each_any (b : ByteArray) (g o c : Nat) (ls : List ByteArray) (w : World) (hb : b.size = 25600) (hS : SA w g o ls) (hz : ∀ s ∈ ls, s.size = 25600) (hl : ls.length ≤ 1000) (hall : ∀ i, i < 200 → ∃ j, j < ls.length ∧ secS (ls.getD j ⟨#[]⟩) i = secS b i) :
    Calls Tryd.prog 48 #[.string b, .slice (some ⟨g, o, none⟩) ls.length c] w fun e w' => e = .returned (.bool true) ∧ Below w.heap.size w w' := by
  have HS : Aside (SA w g o ls ∧ (∀ s ∈ ls, s.size = 25600) ∧ (∀ i, i < 200 → anyS b ls i ls.length = true)) := ⟨hS, hz, fun i hi => by obtain ⟨j, h1, h2⟩ := hall i hi; exact anyS_of h2 _ h1⟩
  have HD : Aside (∀ i k, anyS b ls i (k + 1) = (anyS b ls i k || decide (secS (ls.getD k ⟨#[]⟩) i = secS b i))) := fun _ _ => rfl
  clear hS hz hall
  go_enter Tryd.func48, Tryd.ntmps48
  go_wp2_with fail
  go_loopw [5] (fun v wr => ∃ k x : Nat, k ≤ 200 ∧ x = k * 128 ∧ v = .int .i64 (x : Int) ∧ Aside (Below w.heap.size w wr)) (fun v _ => 25600 - (intOf v).toNat)
  case atStart => exact ⟨0, 0, by omega, rfl, rfl, Below.refl _ _⟩
  case round =>
    obtain ⟨k, x, hk, hx, rfl, HB⟩ := hrel
    have HX : Aside (x = k * 128) := hx
    by_cases hc : x + 128 ≤ 25600
    · have hc' : (x : Int) + 128 ≤ 25600 := by omega
      have hk2 : k < 200 := by omega
      have hx1 : x ≤ 25600 := by omega
      have hsb : ∀ wx, (Instr.sliceAt 9 (.string b) (some (.int .i64 (x : Int))) (some (.int .i64 ((x : Int) + 128))) none).run Tryd.prog wx = .ok (.string (secS b k)) wx := fun wx => by
        have e2 : (x : Int) + 128 = ((x + 128 : Nat) : Int) := by omega
        rw [e2, hx]
        exact sliceStr2 wx b (k * 128) (k * 128 + 128) (by omega) (by omega)
      clear hx
      have HDk := HD.out k
      have HDK : Aside (∀ j, anyS b ls k (j + 1) = (anyS b ls k j || decide (secS (ls.getD j ⟨#[]⟩) k = secS b k))) := HDk
      clear HDk
      generalize secS b k = y2 at *
      go_wp2_with fail
      go_loopw [6, 7] (fun u v wy => ∃ (m : Nat) (f : Bool), m ≤ ls.length ∧ u = .bool f ∧ v = .int .i64 (m : Int) ∧ Aside (f = anyS b ls k m) ∧ Aside (Below w.heap.size w wy)) (fun _ v _ => ls.length - (intOf v).toNat)
      case atStart => exact ⟨0, false, by omega, rfl, rfl, rfl, HB⟩
      case round =>
        obtain ⟨m, f, hm, rfl, rfl, HF, HB2⟩ := hrel
        by_cases hml : m < ls.length
        · have hml' : (m : Int) < (ls.length : Int) := by omega
          obtain ⟨s, hs⟩ : ∃ s, ls[m]? = some s := ⟨_, List.getElem?_eq_getElem hml⟩
          have hcell : wr.cell? ⟨g, o + m, none⟩ = some (.string s) := (HS.out.1.below HB2.out) m s hs
          have hsz : s.size = 25600 := HS.out.2.1 s (List.mem_of_getElem? hs)
          have hsa : ∀ wx, (Instr.sliceAt 9 (.string s) (some (.int .i64 (x : Int))) (some (.int .i64 ((x : Int) + 128))) none).run Tryd.prog wx = .ok (.string (secS s k)) wx := fun wx => by
            have e2 : (x : Int) + 128 = ((x + 128 : Nat) : Int) := by omega
            rw [e2, HX.out]
            exact sliceStr2 wx s (k * 128) (k * 128 + 128) (by omega) (by omega)
          have HN : Aside (anyS b ls k (m + 1) = (f || decide (secS s k = y2))) := by
            show _ = _
            rw [HDK.out, ← HF.out, List.getD_eq_getElem?_getD, hs]
            rfl
          clear hs
          generalize secS s k = y1 at *
          cases f with
          | true =>
            have HN2 : Aside (anyS b ls k (m + 1) = true) := by show _ = _; rw [HN.out]; rfl
            clear hsa hcell HN
            go_wp2_with fail
            go_quiet (fail)
            go_wp2
            go_roundw
            case rel => exact ⟨m + 1, true, by omega, rfl, by go_num, HN2.out.symm, Below.drewN' HB2.out _⟩
            case measure => simp [intOf]; omega
          | false =>
            by_cases hy : y1 = y2
            · have hyb : (y1.toList == y2.toList) = true := by rw [eqs]; exact decide_eq_true hy
              have HN2 : Aside (anyS b ls k (m + 1) = true) := by show _ = _; rw [HN.out, decide_eq_true hy]; rfl
              clear hy HN
              go_wp2_with fail
              go_quiet (fail)
              go_wp2
              go_roundw
              case rel => exact ⟨m + 1, true, by omega, rfl, by go_num, HN2.out.symm, Below.drewN' HB2.out _⟩
              case measure => simp [intOf]; omega
            · have hyb : (y1.toList == y2.toList) = false := by rw [eqs]; exact decide_eq_false hy
              have HN2 : Aside (anyS b ls k (m + 1) = false) := by show _ = _; rw [HN.out, decide_eq_false hy]; rfl
              clear hy HN
              go_wp2_with fail
              go_quiet (fail)
              go_wp2
              go_roundw
              case rel => exact ⟨m + 1, false, by omega, rfl, by go_num, HN2.out.symm, Below.drewN' HB2.out _⟩
              case measure => simp [intOf]; omega
        · have hml' : ¬ (m : Int) < (ls.length : Int) := by omega
          have hf : f = true := by
            rw [HF.out, show m = ls.length by omega]
            exact HS.out.2.2 k hk2
          subst hf
          go_wp2
          go_roundw
          case rel => exact ⟨k + 1, x + 128, by omega, by have := HX.out; omega, by go_num, HB2⟩
          case measure => simp [intOf]; omega
    · have hc' : ¬ (x : Int) + 128 ≤ 25600 := by omega
      have hx0 : 0 ≤ (x : Int) := by omega
      have hx1 : (x : Int) ≤ 25600 := by omega
      clear hx hc hk HX
      generalize (x : Int) = xi at *
      go_wp2
      go_ret
      exact ⟨rfl, HB.out⟩
end Go.Proofs.YtlhohmlpcgbliaaDoor
namespace Go.Proofs.YtlhohmlpcgbliaaDoor
set_option maxRecDepth 100000
open Go.RowKit
attribute [local go_sem ↓] Go.wp_at_zero Go.wp_at_succ

theorem Lg.submitS {B w : World} {a : Nat} {D : Dk} (h : Lg B w a D []) (hf : D.failed = false) (hz1 : D.read 1 = zer) (cb co cc : Nat) (ss : List ByteArray) (hS : SA w cb co ss) (hcb : cb < B.heap.size) (hz : ∀ s ∈ ss, s.size ≤ 40) (hq : ss.length ≤ 12) (hn : D.ckN + ss.length ≤ 64) :
    Calls Tryd.prog 40 #[.pointer (some ⟨a, 0, none⟩), .slice (some ⟨cb, co, none⟩) ss.length cc] w fun e w' => e = .returned (.int .i64 0) ∧ Lg B w' a D ss := by
  obtain ⟨b, fv, wv, hL, ho⟩ := h.ex
  have hs := submit_ok hL hf hz1 cb co cc ss hS (Nat.lt_of_lt_of_le hcb h.bel.size) (fun e => by have := ho _ (.inl rfl); omega) (fun e => by have := ho _ (.inr (.inl rfl)); omega) (fun e => by have := ho _ (.inr (.inr (.inl e))); omega) (fun e => by have := ho _ (.inr (.inr (.inr e))); omega) hz (by simpa using hq) (by simpa using hn)
  rw [List.nil_append] at hs
  refine hs.mono ?_
  rintro e w' ⟨rfl, wv', hL', hR'⟩
  obtain ⟨hb4, hf4, hw4⟩ := FrL.below h.bel hR' (ho _ (.inl rfl)) (ho _ (.inr (.inl rfl))) (fun j hj => ho j (.inr (.inr (.inl hj)))) (fun j hj => ho j (.inr (.inr (.inr hj))))
  refine ⟨rfl, hb4, b, fv, wv', hL', ?_⟩
  intro j hj
  rcases hj with e | e | e | e
  · rw [e]; exact ho _ (.inl rfl)
  · rw [e]; exact ho _ (.inr (.inl rfl))
  · exact hf4 j e
  · exact hw4 j e
/-- A Flush, whether the disk fails in it or not. -/
theorem Lg.flushAny {B w : World} {a : Nat} {D : Dk} {W : List ByteArray} (h : Lg B w a D W) (hf : D.failed = false) (hz1 : D.read 1 = zer) (hz : ∀ s ∈ W, s.size ≤ 40) (hl : D.ckN + W.length ≤ 76) (hfe : D.fre = []) (h0 : 0 < W.length) (ht : Table B) (hg : 2 < B.heap.size) :
    Calls Tryd.prog 42 #[.pointer (some ⟨a, 0, none⟩)] w fun e w' => ∃ x y W', e = .returned (.tuple #[.int .i64 x, .int .i64 y]) ∧ Lg B w' a (D.add W) W' := by
  cases hq : (D.add W).failed with
  | false =>
    refine (h.flush hf hz1 hz hl hfe h0 hq ht hg).mono ?_
    rintro e w' ⟨rfl, h'⟩
    exact ⟨_, _, _, rfl, h'⟩
  | true =>
    refine (h.flush_down hf hz1 hz hl hfe h0 hq ht hg).mono ?_
    rintro e w' ⟨rfl, h'⟩
    exact ⟨_, _, _, rfl, h'⟩

/-- What lasts on a copy of the disk that is to fail behind so many acts of the adding of an entry. -/
def Dk.fby (C : Dk) (t : ByteArray) (j : Nat) (keep : Int) : List (List Nat) := ((C.script (j : Int) keep).add [t]).las

set_option maxHeartbeats 2000000 in
theorem failed_fby {w : World} {a b : Nat} {fv : Value} {D : Dk} {E : List ByteArray} (h : LogAt w a b fv (.slice none 0 0) D []) (hH : Holds (Dk.of D.las.flatten) E) (hl : E.length ≤ 60) (cb co cc : Nat) (t : ByteArray) (hS : SA w cb co [t]) (hcb : cb < w.heap.size) (htz : t.size ≤ 40) (j : Nat) (keep : Int) (ht : Table w) (hg : 2 < w.heap.size) :
    Calls Tryd.prog 47 #[.pointer (some ⟨a, 0, none⟩), .slice (some ⟨cb, co, none⟩) 1 cc, .int .i64 (j : Int), .int .i64 keep] w fun e w' => e = .returned (.string (strOf ((Dk.of D.las.flatten).fby t j keep).flatten)) ∧ Below w.heap.size w w' := by
  have g1 := Lg.copied h hH ht hg
  have HT : Aside (Table w ∧ 2 < w.heap.size ∧ SA w cb co [t] ∧ cb < w.heap.size) := ⟨ht, hg, hS, hcb⟩
  clear ht hg h hS hcb
  generalize Dk.of D.las.flatten = C at *
  have HH : Aside (Holds C E) := hH
  clear hH
  have HF : Aside (C.fby t j keep = ((C.script (j : Int) keep).add [t]).las) := rfl
  generalize C.fby t j keep = R at *
  go_enter Tryd.func47, Tryd.ntmps47
  go_wp2_with fail
  refine g1.mono ?_
  rintro e w1 ⟨a1, rfl, h1⟩
  clear g1
  have g2 : Calls Tryd.prog 40 #[.pointer (some ⟨a1, 0, none⟩), .slice (some ⟨cb, co, none⟩) 1 cc] w1 fun e w' => e = .returned (.int .i64 0) ∧ Lg w w' a1 C [t] := h1.submitS HH.out.nf.failed HH.out.jn cb co cc [t] (HT.out.2.2.1.below h1.bel) HT.out.2.2.2 (fun s hs => by rw [List.mem_singleton.1 hs]; exact htz) (by simp) (by rw [HH.out.ckN]; simp; omega)
  clear h1
  go_wp2_with fail
  refine g2.mono ?_
  rintro e w2 ⟨rfl, h2⟩
  clear g2
  have g3 := h2.fail HH.out.nf.failed j keep
  clear h2
  have hlk : Like (C.script (j : Int) keep) C := Dk.script_like _ _ _
  have hrd := hlk.rd HH.out
  have hf0 : (C.script (j : Int) keep).failed = false := HH.out.nf.failed
  generalize C.script (j : Int) keep = Y at *
  have HR : Aside (Y.read 1 = zer ∧ Y.ckN = E.length ∧ Y.fre = []) := hrd
  clear hlk hrd
  go_wp2_with fail
  refine g3.mono ?_
  rintro e w3 ⟨rfl, h3⟩
  clear g3
  have g4 := h3.flushAny hf0 HR.out.1 (fun s hs => by rw [List.mem_singleton.1 hs]; exact htz) (by rw [HR.out.2.1]; simp; omega) HR.out.2.2 (by simp) HT.out.1 HT.out.2.1
  clear h3 hf0
  go_wp2_with fail
  refine g4.mono ?_
  rintro e w4 ⟨x, y, W', rfl, h4⟩
  clear g4
  have g5 := h4.bytes
  rw [← HF.out] at g5
  clear h4
  go_wp2_with fail
  refine g5.mono ?_
  rintro e w5 ⟨rfl, h5⟩
  have H5 : Aside (Below w.heap.size w w5) := h5.bel
  clear g5 h5
  go_wp2
  go_ret
  exact ⟨rfl, H5.out⟩
end Go.Proofs.YtlhohmlpcgbliaaDoor
namespace Go.Proofs.YtlhohmlpcgbliaaDoor
set_option maxRecDepth 100000
open Go.RowKit

/-- A disk's sectors. -/
structure SecL (l : List (List Nat)) : Prop where
  len : l.length = 200
  sec : ∀ s ∈ l, Sec s
theorem Dk.ok.secL {D : Dk} (h : D.ok) : SecL D.las := ⟨h.las, h.sec⟩
theorem Dk.ok.secV {D : Dk} (h : D.ok) : SecL (putL D.fre D.las) := ⟨by rw [putL_length, h.las], putL_sec _ _ h.sec (fun x hx => (h.fre x hx).2)⟩

/-- Acts, one by one: what lasts, what is loose, and both together. -/
structure Acts (n : Nat) (act : Nat → Option (Nat × List Nat)) (L V : Nat → List (List Nat)) (F : Nat → List (Nat × List Nat)) : Prop where
  sl : ∀ j, j ≤ n → SecL (L j)
  sv : ∀ j, j ≤ n → SecL (V j)
  f0 : F 0 = []
  v : ∀ j, j ≤ n → V j = putL (F j) (L j)
  wr : ∀ j x, j < n → act j = some x → F (j + 1) = F j ++ [x] ∧ L (j + 1) = L j ∧ V (j + 1) = (V j).set x.1 x.2 ∧ x.1 < 200 ∧ Sec x.2
  fl : ∀ j, j < n → act j = none → F (j + 1) = [] ∧ L (j + 1) = V j ∧ V (j + 1) = V j
  nd : ∀ j, j ≤ n → ((F j).map (·.1)).Nodup
  few : n ≤ 60
  pos : 2 ≤ n
  last : act (n - 1) = none

/-- All acts are writes. -/
def allW (xs : List (Option (Nat × List Nat))) : Prop := ∀ a ∈ xs, ∃ x, a = some x
theorem wrA_allW (start each : Nat) : ∀ (f : Nat) (R : Dk) (i : Nat) (cs : List (List Nat)), allW (wrA start each f R i cs) := by
  intro f
  induction f with
  | zero => intro R i cs a ha; simp [wrA] at ha
  | succ f ih =>
    intro R i cs a ha
    rw [wrA] at ha
    split at ha
    · simp at ha
    · rcases List.mem_cons.1 ha with rfl | h1
      · exact ⟨_, rfl⟩
      · exact ih _ _ _ a h1
theorem grA_allW : ∀ (f : Nat) (R : Dk) (first n l size : Nat), allW (grA f R first n l size) := by
  intro f
  induction f with
  | zero => intro R _ _ _ _ a ha; simp [grA] at ha
  | succ f ih =>
    intro R first n l size a ha
    rw [grA] at ha
    split at ha
    · rcases List.mem_append.1 ha with h1 | h1
      · exact wrA_allW _ _ _ _ _ _ a h1
      · exact ih _ _ _ _ _ a h1
    · simp at ha
/-- Writes only add to what is loose. -/
theorem run_writes : ∀ (xs : List (Option (Nat × List Nat))) (R : Dk), R.nf → allW xs → ∃ ys, (R.run xs).fre = R.fre ++ ys ∧ (R.run xs).las = R.las := by
  intro xs
  induction xs with
  | nil => intro R _ _; exact ⟨[], by simp [Dk.run], rfl⟩
  | cons a r ih =>
    intro R hR h
    obtain ⟨x, rfl⟩ := h a (List.mem_cons_self ..)
    obtain ⟨ys, h1, h2⟩ := ih (R.write x.1 x.2) (hR.write _ _).1 (fun a ha => h a (List.mem_cons_of_mem _ ha))
    refine ⟨x :: ys, ?_, ?_⟩
    · show ((R.write x.1 x.2).run r).fre = _
      rw [h1, hR.write_eq]
      simp
    · show ((R.write x.1 x.2).run r).las = _
      rw [h2, (hR.write _ _).2.2]
/-- At each stage all is well, and no sector is loose twice. -/
def Nice (R : Dk) (xs : List (Option (Nat × List Nat))) : Prop := ∀ j, (R.run (xs.take j)).keys.Nodup ∧ (R.run (xs.take j)).ok
theorem Nice.append {R : Dk} {xs ys : List (Option (Nat × List Nat))} (h1 : Nice R xs) (h2 : Nice (R.run xs) ys) : Nice R (xs ++ ys) := by
  intro j
  rw [List.take_append, Dk.run_append]
  by_cases hj : j ≤ xs.length
  · rw [show j - xs.length = 0 by omega, List.take_zero]
    exact h1 j
  · rw [List.take_of_length_le (by omega)]
    exact h2 _
theorem nice_writes {R : Dk} (hR : R.nf) {xs : List (Option (Nat × List Nat))} (hw : allW xs) (hn : (R.run xs).keys.Nodup) (hk : (R.run xs).ok) : Nice R xs := by
  intro j
  have h1 : (R.run xs) = (R.run (xs.take j)).run (xs.drop j) := by rw [← Dk.run_append, List.take_append_drop]
  obtain ⟨ys, h2, h3⟩ := run_writes (xs.drop j) (R.run (xs.take j)) (hR.run _) (fun a ha => hw a (List.mem_of_mem_drop ha))
  rw [h1] at hn hk
  refine ⟨?_, ?_⟩
  · unfold Dk.keys at *
    rw [h2, List.map_append] at hn
    exact (List.nodup_append.1 hn).1
  · refine ⟨by rw [← h3]; exact hk.las, by rw [← h3]; exact hk.sec, fun x hx => hk.fre x (by rw [h2]; exact List.mem_append_left _ hx), ?_⟩
    have := hk.few
    rw [h2, List.length_append] at this
    omega
theorem nice_flush {R : Dk} (hR : R.nf) (hn : R.keys.Nodup) (hk : R.ok) : Nice R [none] := by
  intro j
  cases j with
  | zero => exact ⟨hn, hk⟩
  | succ j =>
    show (R.flush.run _).keys.Nodup ∧ (R.flush.run _).ok
    simp only [List.take_nil]
    show R.flush.keys.Nodup ∧ R.flush.ok
    rw [keys_nil hR.flush.2]
    exact ⟨List.nodup_nil, hk.flush⟩
theorem nice_one {R : Dk} (hR : R.nf) (hf : R.fre = []) (hk : R.ok) (x : Nat × List Nat) (hx : x.1 < 200) (hs : Sec x.2) : Nice R [some x, none] := by
  have h1 : (R.write x.1 x.2).keys.Nodup := by
    rw [(hR.write _ _).2.1, keys_nil hf]; simp
  have h2 : (R.write x.1 x.2).ok := hk.write hx hs (by rw [hf]; simp)
  intro j
  match j with
  | 0 => show R.keys.Nodup ∧ R.ok; rw [keys_nil hf]; exact ⟨List.nodup_nil, hk⟩
  | 1 => exact ⟨h1, h2⟩
  | j + 2 =>
    show ((R.write x.1 x.2).flush.run _).keys.Nodup ∧ ((R.write x.1 x.2).flush.run _).ok
    simp only [List.take_nil]
    show (R.write x.1 x.2).flush.keys.Nodup ∧ (R.write x.1 x.2).flush.ok
    rw [keys_nil (hR.write _ _).1.flush.2]
    exact ⟨List.nodup_nil, h2.flush⟩
end Go.Proofs.YtlhohmlpcgbliaaDoor
namespace Go.Proofs.YtlhohmlpcgbliaaDoor
set_option maxRecDepth 100000
open Go.RowKit
attribute [local go_sem ↓] Go.wp_at_zero Go.wp_at_succ

theorem row_slice {w : World} {base : Nat} {v : Value} {ts : List ByteArray} (h : Row w base 9 v (strv ts)) : ∃ p cap, v = .slice p ts.length cap := by
  obtain ⟨h1, h2⟩ := h
  rw [strv_length] at h2
  rcases h2 with ⟨rfl, hn⟩ | ⟨g, cap, cur, rfl, hb, hg, hn, hm, hs, ht⟩
  · exact ⟨none, 0, by rw [hn]⟩
  · exact ⟨_, cap, rfl⟩
end Go.Proofs.YtlhohmlpcgbliaaDoor
namespace Go.Proofs.YtlhohmlpcgbliaaDoor
set_option maxRecDepth 100000
open Go.RowKit
attribute [local go_sem ↓] Go.wp_at_zero Go.wp_at_succ

end Go.Proofs.YtlhohmlpcgbliaaDoor
namespace Go.Proofs.YtlhohmlpcgbliaaDoor
set_option maxRecDepth 100000
open Go.RowKit
attribute [local go_sem ↓] Go.wp_at_zero Go.wp_at_succ

section
variable {P : Program} {ops : Array Oper} {Q : Exit → Act → World → Prop} {S : World → Prop}
theorem wpS_w {k fuel : Nat} {o : Oper} {v : Value} {listed : Array Bool} {a : Act} {w : World} (h0 : ops[k]? = some o) (hs : Region.noSelect ops = true) (hf : Region.free .any ops listed k = true)
    (hr : (Region.ready .any ops listed).contains k = true) (hgd : Region.wanted o (yielded ops a.tmps) = true) (d : Option Nat) (hd : o.dst = d) (hS : S w) (hv : ∀ wx, S wx → (execOp a.eval o).run P wx = .ok (.value v) wx)
    (h : wpAnyH P .any ops (NoPanic Q) S fuel (listed.setIfInBounds k true) (a.put d v) w) : wpAnyH P .any ops (NoPanic Q) S (fuel + 1) listed a w :=
  wpAnyH_take h0 hs hf hr (fun c a w hq => by cases hq) (.inl ⟨hgd, hv⟩) hS (by rw [hd]; exact h)
theorem wpS_not {k fuel : Nat} {o : Oper} {listed : Array Bool} {a : Act} {w : World} (h0 : ops[k]? = some o) (hs : Region.noSelect ops = true) (hf : Region.free .any ops listed k = true)
    (hr : (Region.ready .any ops listed).contains k = true) (hgd : Region.wanted o (yielded ops a.tmps) = false) (d : Option Nat) (hd : o.dst = d) (hS : S w)
    (h : wpAnyH P .any ops (NoPanic Q) S fuel (listed.setIfInBounds k true) (a.put d undef) w) : wpAnyH P .any ops (NoPanic Q) S (fuel + 1) listed a w :=
  wpAnyH_take h0 hs hf hr (fun c a w hq => by cases hq) (.inr ⟨hgd, rfl⟩) hS (by rw [hd]; exact h)
end
end Go.Proofs.YtlhohmlpcgbliaaDoor
namespace Go.Proofs.YtlhohmlpcgbliaaDoor
set_option maxRecDepth 100000
open Go.RowKit
attribute [local go_sem ↓] Go.wp_at_zero Go.wp_at_succ

end Go.Proofs.YtlhohmlpcgbliaaDoor
namespace Go.Proofs.YtlhohmlpcgbliaaDoor
set_option maxRecDepth 100000
open Go.RowKit
attribute [local go_sem ↓] Go.wp_at_zero Go.wp_at_succ

end Go.Proofs.YtlhohmlpcgbliaaDoor
namespace Go.Proofs.YtlhohmlpcgbliaaDoor
set_option maxRecDepth 100000
open Go.RowKit
attribute [local go_sem ↓] Go.wp_at_zero Go.wp_at_succ

end Go.Proofs.YtlhohmlpcgbliaaDoor
namespace Go.Proofs.YtlhohmlpcgbliaaDoor
set_option maxRecDepth 100000
open Go.RowKit
attribute [local go_sem ↓] Go.wp_at_zero Go.wp_at_succ

theorem Row.strs {w : World} {base : Nat} {v : Value} {ts : List ByteArray} (h : Row w base 9 v (strv ts)) : Strs w v ts := by
  by_cases h0 : ts.length = 0
  · obtain ⟨p, cap, rfl⟩ := row_slice h
    refine ⟨p, cap, rfl, fun i s hs => ?_⟩
    rw [List.eq_nil_of_length_eq_zero h0] at hs
    simp at hs
  · obtain ⟨g, cap, rfl, _, hcap, _, _, hlt, _⟩ := Row.form h (by rw [strv_length]; omega)
    have hsa := SA.of_row h (by omega)
    exact ⟨_, cap, by rw [strv_length], fun i s hs => ⟨g, 0, rfl, hsa i s hs⟩⟩

end Go.Proofs.YtlhohmlpcgbliaaDoor
namespace Go.Proofs.YtlhohmlpcgbliaaDoor
set_option maxRecDepth 100000
open Go.RowKit

/-- The disk holds the log of these entries; a journal may be pending. -/
structure Hold1 (D : Dk) (E : List ByteArray) : Prop where
  nf : D.nf
  ok : D.ok
  fre : D.fre = []
  len : E.length ≤ 64
  siz : ∀ s ∈ E, s.size ≤ 40
  ck : D.read 0 = ckSec E.length (bts (mth (E.map leafS)))
  ent : ∀ i s, E[i]? = some s → unpL (D.slot 6 3 i) = some (bts s)
  til : ∀ k, Tiled D (E.map leafS) E.length k
theorem Holds.one {D : Dk} {E : List ByteArray} (h : Holds D E) : Hold1 D E := ⟨h.nf, h.ok, h.fre, h.len, h.siz, h.ck, h.ent, h.til⟩
theorem Hold1.all {D : Dk} {E : List ByteArray} (h : Hold1 D E) (hz : D.read 1 = zer) : Holds D E := ⟨h.nf, h.ok, h.fre, h.len, h.siz, h.ck, hz, h.ent, h.til⟩
theorem Hold1.ckN {D : Dk} {E : List ByteArray} (h : Hold1 D E) : D.ckN = E.length := by
  unfold Dk.ckN
  rw [h.ck]
  exact (ck_n (by rw [bts_length, mth32])).1
theorem Hold1.ckR {D : Dk} {E : List ByteArray} (h : Hold1 D E) : D.ckR = bts (mth (E.map leafS)) := by
  unfold Dk.ckR
  rw [h.ck]
  exact (ck_n (by rw [bts_length, mth32])).2
end Go.Proofs.YtlhohmlpcgbliaaDoor
namespace Go.Proofs.YtlhohmlpcgbliaaDoor
set_option maxRecDepth 100000
open Go.RowKit

/-- What is known of the disk while bundles and tiles are written. -/
structure Puts (D : Dk) (E W : List ByteArray) : Prop where
  rnf : (D.rowWrite 6 3 E.length (packs W)).nf
  rok : (D.rowWrite 6 3 E.length (packs W)).ok
  rnd : (D.rowWrite 6 3 E.length (packs W)).keys.Nodup
  gnf : ((D.rowWrite 6 3 E.length (packs W)).grow E.length (E.length + W.length)).nf
  gok : ((D.rowWrite 6 3 E.length (packs W)).grow E.length (E.length + W.length)).ok
  gnd : ((D.rowWrite 6 3 E.length (packs W)).grow E.length (E.length + W.length)).keys.Nodup
  pnf : (D.put E.length W).nf
  pok : (D.put E.length W).ok
  pfre : (D.put E.length W).fre = []
  low : ∀ j, j < 6 → (D.put E.length W).read j = D.read j
  ent : ∀ i s, (E ++ W)[i]? = some s → unpL ((D.put E.length W).slot 6 3 i) = some (bts s)
  til : ∀ k, Tiled (D.put E.length W) ((E ++ W).map leafS) (E.length + W.length) k
  root : (D.put E.length W).span 0 (E.length + W.length) = mth ((E ++ W).map leafS)
theorem put_facts {D : Dk} {E W : List ByteArray} (h : Hold1 D E) (hz : ∀ s ∈ W, s.size ≤ 40) (hl : E.length + W.length ≤ 64) : Puts D E W := by
  have hk4 := keys_nil h.fre
  have hr := rowWrite_spec (start := 6) (each := 3) (.inl rfl) D E.length (packs W) h.nf h.ok (by rw [hk4]; simp) (by rw [hk4]; simp) (packs_ok hz) (by rw [packs_len]; omega) (by rw [h.fre, packs_len]; simp; omega)
  have hEW : (E ++ W).length = E.length + W.length := List.length_append
  have rent : ∀ i s, (E ++ W)[i]? = some s → i < E.length + W.length → unpL ((D.rowWrite 6 3 E.length (packs W)).slot 6 3 i) = some (bts s) := by
    intro i s hs hi
    rw [hr.slot, packs_len]
    by_cases h1 : i < E.length
    · rw [List.getElem?_append_left h1] at hs
      rw [if_neg (by omega)]
      exact h.ent i s hs
    · rw [List.getElem?_append_right (by omega)] at hs
      rw [if_pos (by omega), packs_get hs]
      exact unp_pad (hz s (List.mem_of_getElem? hs))
  have rread : ∀ j, (j < 6 ∨ 28 ≤ j) → (D.rowWrite 6 3 E.length (packs W)).read j = D.read j := fun j hj => by
    apply hr.read
    rw [packs_len]
    by_cases hw0 : W.length = 0
    · exact .inl (List.eq_nil_of_length_eq_zero (by rw [packs_len]; exact hw0))
    · right
      omega
  have rtil : ∀ k, Tiled (D.rowWrite 6 3 E.length (packs W)) ((E ++ W).map leafS) E.length k := fun k i hi => by
    have h3 := tile_low k
    rw [slot_of_read (rread _ (.inr (by omega))), h.til k i hi, List.map_append, drop_app]
    have : (i + 1) * 4 ^ k = i * 4 ^ k + 4 ^ k := Nat.succ_mul _ _
    rw [List.length_map]
    omega
  have rkeys : ∀ x ∈ (D.rowWrite 6 3 E.length (packs W)).keys, x < 28 := fun x hx => by
    rcases hr.keys x hx with h1 | ⟨hne, _, h3⟩
    · rw [hk4] at h1; simp at h1
    · rw [packs_len] at h3
      have : 0 < W.length := by
        rw [← packs_len]
        cases hq : packs W with
        | nil => exact absurd hq hne
        | cons _ _ => simp
      omega
  have hfre := hr.fre
  rw [h.fre, packs_len] at hfre
  have hg := grow_spec (E := E ++ W) (first := E.length) (n := E.length + W.length) (by omega) hl (by rw [hEW]; exact Nat.le_refl _) _ hr.nf hr.ok hr.nd rkeys rent rtil (by simp at hfre; omega)
  have hfl : (D.put E.length W).nf ∧ (D.put E.length W).fre = [] := hg.nf.flush
  have hok7 : (D.put E.length W).ok := hg.ok.flush
  have hrd7 : ∀ j, j < 200 → (D.put E.length W).read j = ((D.rowWrite 6 3 E.length (packs W)).grow E.length (E.length + W.length)).read j := fun j hj => hg.nf.flush_read hg.ok hg.nd j hj
  have til7 : ∀ k, Tiled (D.put E.length W) ((E ++ W).map leafS) (E.length + W.length) k := fun k i hi => by
    have h1 := tile_sec (k := k) (i := i) (by omega)
    have h2 := (tileAt_le (k + 1)).1
    rw [slot_of_read (hrd7 _ (by omega))]
    exact hg.tiled k i hi
  have hroot : (D.put E.length W).span 0 (E.length + W.length) = mth ((E ++ W).map leafS) := by
    rw [span_mth til7 (by rw [List.length_map, hEW]; exact Nat.le_refl _) (E.length + W.length) (E.length + W.length) 0 6 (Nat.le_refl _) (by show _ ≤ 64; exact hl) (Nat.dvd_zero _) (by omega), List.drop_zero, List.take_of_length_le (by rw [List.length_map, hEW]; exact Nat.le_refl _)]
  have low7 : ∀ j, j < 28 → (D.put E.length W).read j = (D.rowWrite 6 3 E.length (packs W)).read j := fun j hj => by rw [hrd7 j (by omega), hg.read j hj]
  refine ⟨hr.nf, hr.ok, hr.nd, hg.nf, hg.ok, hg.nd, hfl.1, hok7, hfl.2, fun j hj => by rw [low7 j (by omega), rread j (.inl hj)], fun i s hs => ?_, til7, hroot⟩
  have hi : i < E.length + W.length := by rw [← hEW]; exact (List.getElem?_eq_some_iff.1 hs).1
  rw [slot_of_read (low7 _ (by omega))]
  exact rent i s hs hi
theorem jwrite_hold {D : Dk} {E W : List ByteArray} (h : Holds D E) (hW : W.length ≤ 12) (hz : ∀ s ∈ W, s.size ≤ 40) : Hold1 (D.jwrite E.length W) E := by
  have hE := h.len
  obtain ⟨jnf, jok, jfre, jread⟩ := jwrite_spec h.nf h.ok h.fre (n := E.length) (W := W) (by omega) hW hz
  refine ⟨jnf, jok, jfre, h.len, h.siz, by rw [jread 0 (by omega) (.inl rfl)]; exact h.ck, fun i s hs => ?_, fun k i hi => ?_⟩
  · have hi : i < E.length := (List.getElem?_eq_some_iff.1 hs).1
    rw [slot_of_read (jread _ (by omega) (.inr (by omega)))]
    exact h.ent i s hs
  · have h1 := tile_sec (k := k) (i := i) (by omega)
    have h2 := (tileAt_le (k + 1)).1
    have h3 := tile_low k
    rw [slot_of_read (jread _ (by omega) (.inr (by omega)))]
    exact h.til k i hi
theorem end_nice {D : Dk} {E W : List ByteArray} (h : Hold1 D E) (hz : ∀ s ∈ W, s.size ≤ 40) (hl : E.length + W.length ≤ 64) : Nice D (enA D E.length W) := by
  have p := put_facts h hz hl
  unfold enA
  rw [if_pos h.ckN]
  have e1 : D.run (wrA 6 3 (packs W).length D E.length (packs W)) = D.rowWrite 6 3 E.length (packs W) := (does_rowWrite h.nf 6 3 E.length (packs W)).at.symm
  have e2 : (D.rowWrite 6 3 E.length (packs W)).run (grA (E.length + W.length) (D.rowWrite 6 3 E.length (packs W)) E.length (E.length + W.length) 0 1) = (D.rowWrite 6 3 E.length (packs W)).grow E.length (E.length + W.length) := (does_grwF (E.length + W.length) _ E.length (E.length + W.length) 0 1 p.rnf).at.symm
  have e3 : D.run (ptA D E.length W) = D.put E.length W := (does_put h.nf E.length W).at.symm
  have h32 := mth32 (E := E ++ W)
  have hsec : Sec (ckSec (E.length + W.length) (bts ((D.put E.length W).span 0 (E.length + W.length)))) := by rw [p.root]; exact ckSec_sec (by omega) (by omega)
  have e4 : (D.put E.length W).run (ckA (D.put E.length W) (E.length + W.length)) = (D.put E.length W).ckp (E.length + W.length) := (does_ckp (R := D.put E.length W) (E.length + W.length)).at.symm
  have hp8 := put_one p.pnf p.pok p.pfre (i := 0) (s := ckSec (E.length + W.length) (bts ((D.put E.length W).span 0 (E.length + W.length)))) (by omega) hsec
  refine Nice.append ?_ (Nice.append ?_ ?_)
  · unfold ptA
    refine Nice.append (nice_writes h.nf (wrA_allW _ _ _ _ _ _) (by rw [e1]; exact p.rnd) (by rw [e1]; exact p.rok)) ?_
    rw [e1]
    refine Nice.append (nice_writes p.rnf (grA_allW _ _ _ _ _ _) (by rw [e2]; exact p.gnd) (by rw [e2]; exact p.gok)) ?_
    rw [e2]
    exact nice_flush p.gnf p.gnd p.gok
  · rw [e3]
    exact nice_one p.pnf p.pfre p.pok _ (by show 0 < 200; omega) hsec
  · rw [e3, e4]
    exact nice_one hp8.1 hp8.2.2.1 hp8.2.1 _ (by show 1 < 200; omega) zer_sec
theorem add_nice {D : Dk} {E W : List ByteArray} (h : Holds D E) (hW : W.length ≤ 12) (hz : ∀ s ∈ W, s.size ≤ 40) (hl : E.length + W.length ≤ 64) : Nice D (adA D W) := by
  unfold adA
  rw [h.ckN]
  have hE := h.len
  refine Nice.append ?_ ?_
  · have hk := keys_nil h.fre
    have hr := rowWrite_spec (start := 2) (each := 3) (.inl rfl) D 0 (packs W) h.nf h.ok (by rw [hk]; simp) (by rw [hk]; simp) (packs_ok hz) (by rw [packs_len]; omega) (by rw [h.fre, packs_len]; simp; omega)
    have e1 : D.run (wrA 2 3 (packs W).length D 0 (packs W)) = D.rowWrite 2 3 0 (packs W) := (does_rowWrite h.nf 2 3 0 (packs W)).at.symm
    unfold jwA
    rw [show [none, some (1, hdSec E.length W.length), none] = [none] ++ [some (1, hdSec E.length W.length), none] from rfl]
    refine Nice.append (nice_writes h.nf (wrA_allW _ _ _ _ _ _) (by rw [e1]; exact hr.nd) (by rw [e1]; exact hr.ok)) ?_
    rw [e1]
    exact Nice.append (nice_flush hr.nf hr.nd hr.ok) (nice_one hr.nf.flush.1 hr.nf.flush.2 hr.ok.flush _ (by show 1 < 200; omega) (hdSec_sec (by omega) (by omega)))
  · have e2 : D.run (jwA D E.length W) = D.jwrite E.length W := (does_jwrite h.nf E.length W).at.symm
    rw [e2]
    exact end_nice (jwrite_hold h hW hz) hz hl
/-- One entry: few acts. -/
theorem grA_len1 : ∀ (f : Nat) (R : Dk) (first l size : Nat), (grA f R first (first + 1) l size).length ≤ f := by
  intro f
  induction f with
  | zero => intro R _ _ _; exact Nat.zero_le _
  | succ f ih =>
    intro R first l size
    rw [grA]
    split
    · rename_i hc
      rw [List.length_append]
      have h1 := wrA_len (tileAt l).1 4 ((R.hashes l (first / size) ((first + 1) / size)).map bts).length R (first / size) ((R.hashes l (first / size) ((first + 1) / size)).map bts)
      have h2 : ((R.hashes l (first / size) ((first + 1) / size)).map bts).length ≤ 1 := by
        rw [List.length_map]
        unfold Dk.hashes
        rw [List.length_map, List.length_range]
        have h5 : (first + 1) / size ≤ first / size + 1 := by
          by_cases hs : size = 0
          · rw [hs]; simp
          · have := Nat.add_div_right first (z := size) (by omega)
            have h6 : (first + 1) / size ≤ (first + size) / size := Nat.div_le_div_right (by omega)
            omega
        generalize (first + 1) / size = q1 at *
        generalize first / size = q0 at *
        omega
      have h3 := ih (R.rowWrite (tileAt l).1 4 (first / size) ((R.hashes l (first / size) ((first + 1) / size)).map bts)) first (l + 1) (size * 4)
      omega
    · exact Nat.zero_le _
theorem adA_len1 {R : Dk} {t : ByteArray} (hl : R.ckN ≤ 20) : (adA R [t]).length ≤ 60 := by
  unfold adA enA
  have h1 := wrA_len 2 3 (packs [t]).length R 0 (packs [t])
  rw [packs_len] at h1
  have hj : (jwA R R.ckN [t]).length = (wrA 2 3 (packs [t]).length R 0 (packs [t])).length + 3 := by simp [jwA]
  rw [List.length_append, hj, packs_len]
  split
  · have h2 := wrA_len 6 3 (packs [t]).length (R.jwrite R.ckN [t]) R.ckN (packs [t])
    have h3 := grA_len1 (R.ckN + 1) ((R.jwrite R.ckN [t]).rowWrite 6 3 R.ckN (packs [t])) R.ckN 0 1
    rw [packs_len] at h2
    have h4 : (ptA (R.jwrite R.ckN [t]) R.ckN [t] ++ (ckA ((R.jwrite R.ckN [t]).put R.ckN [t]) (R.ckN + [t].length) ++ rmA)).length = (wrA 6 3 (packs [t]).length (R.jwrite R.ckN [t]) R.ckN (packs [t])).length + (grA (R.ckN + 1) ((R.jwrite R.ckN [t]).rowWrite 6 3 R.ckN (packs [t])) R.ckN (R.ckN + 1) 0 1).length + 5 := by
      simp [ptA, ckA, rmA]; omega
    rw [h4, packs_len]
    simp at h1 h2
    simp
    omega
  · have : rmA.length = 2 := rfl
    simp at h1
    simp
    omega
theorem adA_last (R : Dk) (ss : List ByteArray) : (adA R ss).getD ((adA R ss).length - 1) none = none := by
  have : ∃ ys, adA R ss = ys ++ [none] := by
    unfold adA enA
    split
    · exact ⟨jwA R R.ckN ss ++ (ptA (R.jwrite R.ckN ss) R.ckN ss ++ (ckA ((R.jwrite R.ckN ss).put R.ckN ss) (R.ckN + ss.length) ++ [some (1, zer)])), by simp [rmA]⟩
    · exact ⟨jwA R R.ckN ss ++ [some (1, zer)], by simp [rmA]⟩
  obtain ⟨ys, h⟩ := this
  rw [h]
  simp
end Go.Proofs.YtlhohmlpcgbliaaDoor
