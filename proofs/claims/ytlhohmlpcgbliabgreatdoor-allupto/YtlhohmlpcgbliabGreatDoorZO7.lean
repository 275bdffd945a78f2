import Derived.Test.YtlhohmlpcgbliabGreatDoorZY2
import Derived.Test.YtlhohmlpcgbliabGreatDoorZQ3
import Derived.Deep.LoopGhost
import Derived.Test.YtlhohmlpcgbliabGreatDoorZL3
namespace Go.Proofs.YtlhohmlpcgbliabGreatDoor
set_option maxRecDepth 100000
open Go.RowKit
attribute [local go_sem ↓] Go.wp_at_zero Go.wp_at_succ

/-- Hash i of level l is as what lies below says. -/
def Dk.tileOk (D : Dk) (l i : Nat) : Prop := D.hashF l i = true ∧ strOf (D.slot (tileAt l).1 4 i) = D.hashB l i
theorem tilesOk_of {D : Dk} {n l : Nat} (h : ∀ k, k < l → ∀ i, i < n / 4 ^ k → D.tileOk k i) (hl : n < 4 ^ l) : D.tilesOk n := by
  intro k hk i hi
  refine h k ?_ i hi
  refine Classical.byContradiction fun hn => ?_
  have : 4 ^ l ≤ 4 ^ k := Nat.pow_le_pow_right (by omega) (by omega)
  omega

set_option maxHeartbeats 4000000 in
theorem tilesHold_any (b n : Nat) (fv : Value) (D : Dk) (w : World) (h : DiskAt w b fv D) (hn : n ≤ 64) (ht : Table w) (hg : 2 < w.heap.size) :
    Calls Tryz.prog 131 #[.pointer (some ⟨b, 0, none⟩), .int .i64 (n : Int)] w fun e w' => ∃ r : Bool, e = .returned (.bool r) ∧ (r = true ↔ D.tilesOk n) ∧ Below w.heap.size w w' := by
  have HD : Aside (DiskAt w b fv D ∧ Table w ∧ 2 < w.heap.size) := ⟨h, ht, hg⟩
  clear h ht hg
  go_enter Tryz.func131, Tryz.ntmps131
  go_wp2
  go_step3
  go_wp2
  go_step3
  go_wp2
  go_loopg [5, 6, 7] 4 (fun g s5 s6 s7 wr => ∃ (l size : Nat), l + g = 4 ∧ s5 = .bool true ∧ s6 = .int .i64 (l : Int) ∧ s7 = .int .i64 (size : Int) ∧ 1 ≤ size ∧ size ≤ 256 ∧ Aside (size = 4 ^ l ∧ (∀ k, k < l → ∀ i, i < n / 4 ^ k → D.tileOk k i) ∧ Below w.heap.size w wr))
  case atStart => exact ⟨0, 1, rfl, rfl, rfl, rfl, by omega, by omega, ⟨rfl, fun k hk => by omega, Below.refl _ _⟩⟩
  case round =>
    obtain ⟨l, size, hlg, rfl, rfl, rfl, hs1, hs2, HS⟩ := hrel
    by_cases hc : size ≤ n
    · have hc' : (size : Int) ≤ (n : Int) := by omega
      obtain ⟨g, rfl⟩ : ∃ g, gk = g + 1 := by
        cases gk with
        | zero =>
          have h1 := HS.out.1
          rw [show l = 4 by omega] at h1
          have h2 : (4 : Nat) ^ 4 = 256 := rfl
          omega
        | succ g => exact ⟨g, rfl⟩
      have hl3 : l ≤ 3 := by omega
      have hT := (tileAt_le l).1
      have hqn : n / size ≤ n := Nat.div_le_self _ _
      have HQ : Aside (n / size = n / 4 ^ l) := by show _ = _; rw [HS.out.1]
      have hq := fun wx => quo_gen n size wx hs1 (by omega)
      have ei1 : (n : Int) / (size : Int) = ((n / size : Nat) : Int) := (Int.natCast_ediv _ _).symm
      generalize n / size = q at *
      go_wp2_with fail
      have htl : Calls Tryz.prog 116 #[.int .i64 (l : Int)] wr fun e w' => e = .returned (.agg #[.int .i64 ((tileAt l).1 : Int), .int .i64 4]) ∧ Below wr.heap.size wr w' := tiles_any l wr (by omega)
      refine htl.mono ?_
      rintro e w1 ⟨rfl, hb1⟩
      clear htl
      generalize hst : (tileAt l).1 = start at *
      have HST : Aside ((tileAt l).1 = start) := hst
      clear hst
      have H1 : Aside (Below w.heap.size w (w1.alloc (.cells #[.int .i64 (start : Int), .int .i64 4] 129)) ∧ Blk (w1.alloc (.cells #[.int .i64 (start : Int), .int .i64 4] 129)) w1.heap.size 129 [.int .i64 (start : Int), .int .i64 4]) :=
        ⟨(HS.out.2.2.trans (hb1.mono HS.out.2.2.size)).alloc (Nat.le_trans HS.out.2.2.size hb1.size) _, Blk.new w1 _ _⟩
      go_wp2_with fail
      have hrb : w1.heap.size < (w1.alloc (.cells #[.int .i64 (start : Int), .int .i64 4] 129)).heap.size := by simp
      generalize w1.alloc (.cells #[.int .i64 (start : Int), .int .i64 4] 129) = w2 at *
      generalize w1.heap.size = rb at *
      clear hb1
      go_loopg [5, 9] 17 (fun g2 s5 s9 wy => ∃ at' : Nat, at' + g2 = 17 ∧ s5 = .bool true ∧ s9 = .int .i64 (at' : Int) ∧ at' * 4 ≤ q ∧ Aside ((∀ i, i < at' * 4 → D.tileOk l i) ∧ Below w2.heap.size w2 wy))
      case atStart => exact ⟨0, rfl, rfl, rfl, by omega, ⟨fun i hi => by omega, Below.refl _ _⟩⟩
      case round =>
        obtain ⟨at', hag, rfl, rfl, haq, HS2⟩ := hrel
        obtain ⟨g2, rfl⟩ : ∃ g2, gk = g2 + 1 := ⟨gk - 1, by omega⟩
        have hB := H1.out.2.below HS2.out.2 hrb
        have hc0 := hB.cell 0
        simp only [List.getElem?_cons_zero] at hc0
        have hb0 : Below w.heap.size w wr := H1.out.1.trans (HS2.out.2.mono H1.out.1.size)
        have hd0 := HD.out.1.below hb0
        have hrd := read_any b fv D (start + at') wr hd0 (by omega)
        have hsl := (hd0.ok.read (i := start + at') (by omega)).len
        have HSL : Aside (∀ i, i / 4 = at' → D.slot (tileAt l).1 4 i = slotL (D.read (start + at')) 4 i) := fun i hi => by unfold Dk.slot; rw [HST.out, hi]
        have eI : ((start + at' : Nat) : Int) = (start : Int) + (at' : Int) := by omega
        rw [eI] at hrd
        clear eI hd0
        generalize D.read (start + at') = s at *
        go_wp2_with fail
        refine hrd.mono ?_
        rintro e w3 ⟨rfl, hb3⟩
        clear hrd hc0
        have hz : Tryz.zeroCells89.toList.length = 128 := by rw [zeroSec]; simp
        have hN := Blk.newA w3 89 Tryz.zeroCells89
        have hth := hN.there 0 128 (by omega)
        have hN4 := hN.fill (u8s s) (by simp [hsl, hz])
        have hb4 : Below wr.heap.size wr ((w3.alloc (.cells Tryz.zeroCells89 89)).setCells w3.heap.size 0 (u8s s)) := Below.setCells (hb3.alloc hb3.size _) _ _ hb3.size _
        clear hN
        go_wp2_with (first | ((with_reducible refine stSec ?_ (.tmp 10) (.tmp 30) ?_ w3.heap.size 0 s ?_ ?_ hth hsl ?_); rfl; rfl; rfl; rfl))
        have H4 : Aside (Below w.heap.size w ((w3.alloc (.cells Tryz.zeroCells89 89)).setCells w3.heap.size 0 (u8s s)) ∧ Below w2.heap.size w2 ((w3.alloc (.cells Tryz.zeroCells89 89)).setCells w3.heap.size 0 (u8s s)) ∧ Blk ((w3.alloc (.cells Tryz.zeroCells89 89)).setCells w3.heap.size 0 (u8s s)) rb 129 [.int .i64 (start : Int), .int .i64 4] ∧ Blk ((w3.alloc (.cells Tryz.zeroCells89 89)).setCells w3.heap.size 0 (u8s s)) w3.heap.size 89 (u8s s)) :=
          ⟨hb0.trans (hb4.mono hb0.size), HS2.out.2.trans (hb4.mono HS2.out.2.size), hB.below hb4 hB.lt, hN4⟩
        clear hth hN4 hb4 hB hb0 hz
        generalize (w3.alloc (.cells Tryz.zeroCells89 89)).setCells w3.heap.size 0 (u8s s) = w4 at *
        generalize w3.heap.size = lb at *
        clear hb3
        go_loopg [5, 11] 4 (fun g3 s5 s11 wz => ∃ i : Nat, i + g3 = at' * 4 + 4 ∧ at' * 4 ≤ i ∧ i ≤ q ∧ s5 = .bool true ∧ s11 = .int .i64 (i : Int) ∧ Aside ((∀ j, j < i → D.tileOk l j) ∧ Below w4.heap.size w4 wz))
        case atStart => exact ⟨at' * 4, rfl, Nat.le_refl _, haq, rfl, by go_num, ⟨HS2.out.1, Below.refl _ _⟩⟩
        case round =>
          obtain ⟨i, hig, hia, hiq, rfl, rfl, HS3⟩ := hrel
          cases gk with
          | zero =>
            have hi4 : ¬ ((i : Int) < ((at' : Int) + 1) * 4) := by omega
            have HI : Aside (i = at' * 4 + 4) := hig
            clear hig
            go_wp2
            go_roundg g2
            case measure => omega
            case rel => exact ⟨at' + 1, by omega, rfl, by go_num, by have := HI.out; omega, ⟨fun j hj => HS3.out.1 j (by have := HI.out; omega), H4.out.2.1.trans (HS3.out.2.mono H4.out.2.1.size)⟩⟩
          | succ g3 =>
            have hi4 : (i : Int) < ((at' : Int) + 1) * 4 := by omega
            have hbw : Below w.heap.size w wr := H4.out.1.trans (HS3.out.2.mono H4.out.1.size)
            have HBW : Aside (Below w.heap.size w wr) := hbw
            by_cases hqe : i = q
            · have hqe' : ((i : Int) == (q : Int)) = true := by simp; omega
              have HQE : Aside (i = q) := hqe
              clear hqe hbw
              go_wp2
              go_roundg g
              case measure => omega
              case rel =>
                refine ⟨l + 1, size * 4, by omega, rfl, by go_num, by go_num, by omega, by omega, ⟨by rw [Nat.pow_succ, ← HS.out.1], fun k hk j hj => ?_, HBW.out⟩⟩
                by_cases hkl : k = l
                · subst hkl
                  exact HS3.out.1 j (by rw [HQE.out, HQ.out]; exact hj)
                · exact HS.out.2.1 k (by omega) j hj
            · have hqe' : ((i : Int) == (q : Int)) = false := by simp; omega
              have hhb := hashBelow_any b l i fv D wr (HD.out.1.below hbw) (by omega) (by omega) (table_at hbw HD.out.2.2 HD.out.2.1) (Nat.lt_of_lt_of_le HD.out.2.2 hbw.size)
              have HO : Aside (D.tileOk l i ↔ D.hashF l i = true ∧ strOf (slotL s 4 i) = D.hashB l i) := by
                show _ ↔ _
                unfold Dk.tileOk
                rw [HSL.out i (by omega)]
              have HN : Aside (¬ D.tileOk l i → ¬ D.tilesOk n) := fun h1 h2 => h1 (h2 l (by rw [← HS.out.1]; exact hc) i (by rw [← HQ.out]; omega))
              have HX : Aside (i < q ∧ i < at' * 4 + 4 ∧ i + (g3 + 1) = at' * 4 + 4) := ⟨by omega, by omega, hig⟩
              clear hqe hbw hig hiq
              generalize D.hashB l i = hh at *
              generalize D.hashF l i = okk at *
              go_wp2_with fail
              refine hhb.mono ?_
              rintro e w5 ⟨rfl, hb5⟩
              clear hhb
              have H5 : Aside (Below w.heap.size w w5 ∧ Below w4.heap.size w4 w5) := ⟨HBW.out.trans (hb5.mono HBW.out.size), HS3.out.2.trans (hb5.mono HS3.out.2.size)⟩
              clear hb5
              cases okk with
              | false =>
                go_wp2
                try rw [Exit.noGoto_ret]
                go_ret
                exact ⟨false, rfl, ⟨(fun h1 => by cases h1), fun h1 => absurd h1 (HN.out (fun h2 => (by have := (HO.out.1 h2).1; cases this)))⟩, H5.out.1⟩
              | true =>
                have hB5 := H4.out.2.2.1.below H5.out.2 H4.out.2.2.1.lt
                have hc0 := hB5.cell 0
                have hc1 := hB5.cell 1
                simp only [List.getElem?_cons_zero, List.getElem?_cons_succ] at hc0 hc1
                have hsa : Calls Tryz.prog 114 #[.agg #[.int .i64 (start : Int), .int .i64 4], .pointer (some ⟨lb, 0, none⟩), .int .i64 (i : Int)] w5 fun e w' => e = .returned (.slice (some ⟨lb, i % 4 * 32, none⟩) 32 (128 - i % 4 * 32)) ∧ Below w5.heap.size w5 w' := slot_any start 4 lb i w5 (.inr rfl) (by omega)
                have hl := slotL_length i hsl (.inr rfl)
                have HR : Aside (∀ wx, Below w5.heap.size w5 wx → wx.rangeAt lb (i % 4 * 32) (u8s (slotL s 4 i))) := by
                  intro wx hx
                  have hB6 := (H4.out.2.2.2.below H5.out.2 H4.out.2.2.2.lt).below hx (H4.out.2.2.2.below H5.out.2 H4.out.2.2.2.lt).lt
                  have := hB6.part (i % 4 * 32) 32
                  unfold slotL
                  rw [u8s_take, u8s_drop]
                  exact this
                generalize i % 4 * 32 = off at *
                generalize slotL s 4 i = sl at *
                go_wp2_with fail
                refine hsa.mono ?_
                rintro e w6 ⟨rfl, hb6⟩
                have hcv := convert_range (cap := 128 - off) (HR.out w6 hb6)
                rw [show sl.length = 32 from hl] at hcv
                have H6 : Aside (Below w.heap.size w w6 ∧ Below w4.heap.size w4 w6) := ⟨H5.out.1.trans (hb6.mono H5.out.1.size), H5.out.2.trans (hb6.mono H5.out.2.size)⟩
                clear hsa hb6 hB5 hc0 hc1 hl HR
                generalize strOf sl = x at *
                by_cases hx : x = hh
                · have HXX : Aside (x = hh) := hx
                  have hxb : (x.toList == hh.toList) = true := by rw [eqs]; exact decide_eq_true hx
                  clear hx
                  go_wp2
                  go_roundg g3
                  case measure => omega
                  case rel =>
                    refine ⟨i + 1, by have := HX.out.2.2; omega, by omega, by have := HX.out.1; omega, rfl, by go_num, ⟨fun j hj => ?_, H6.out.2⟩⟩
                    by_cases hji : j = i
                    · subst hji
                      exact HO.out.2 ⟨by trivial, HXX.out⟩
                    · exact HS3.out.1 j (by omega)
                · have HXX : Aside (¬ x = hh) := hx
                  have hxb : (x.toList == hh.toList) = false := by rw [eqs]; exact decide_eq_false hx
                  clear hx
                  go_wp2
                  try rw [Exit.noGoto_ret]
                  go_ret
                  exact ⟨false, rfl, ⟨(fun h1 => by cases h1), fun h1 => absurd h1 (HN.out (fun h2 => HXX.out (HO.out.1 h2).2))⟩, H6.out.1⟩
    · have hc' : ¬ (size : Int) ≤ (n : Int) := by omega
      go_wp2
      try rw [Exit.noGoto_ret]
      go_ret
      exact ⟨true, rfl, ⟨fun _ => tilesOk_of HS.out.2.1 (by rw [← HS.out.1]; omega), fun _ => rfl⟩, HS.out.2.2⟩
end Go.Proofs.YtlhohmlpcgbliabGreatDoor
namespace Go.Proofs.YtlhohmlpcgbliabGreatDoor
set_option maxRecDepth 100000
open Go.RowKit
attribute [local go_sem ↓] Go.wp_at_zero Go.wp_at_succ

theorem equal_sec (w : World) {s t : List Nat} (hs : s.length = 128) (ht : t.length = 128) : (Op.equalIn 10000 89 (.agg (u8s s).toArray) (.agg (u8s t).toArray)).run Tryz.prog w = .ok (decide (s = t)) w := by
  have hi : ∃ i, Tryz.prog.info? 5 = some i := by
    cases hq : Tryz.prog.info? 5 with
    | none => have := info5; simp [hq] at this
    | some i => exact ⟨i, rfl⟩
  obtain ⟨i, hi⟩ := hi
  rw [run_equalIn_array w 9999 _ _ Tryz.underlying89 hi, cells5, items_u8 w 9998 s t _ (fun j hj => by have := List.mem_range.1 hj; omega), range_all hs ht]
theorem Holds.span {D : Dk} {E : List ByteArray} (h : Holds D E) : D.span 0 E.length = mth (E.map leafS) := by
  have h1 := span_mth h.til (by simp) E.length E.length 0 6 (Nat.le_refl _) (by have := h.len; simpa using this) (by simp) (by simp)
  rw [h1, List.drop_zero, List.take_of_length_le (by simp)]

set_option maxHeartbeats 2000000 in
theorem sound_ok (b : Nat) (fv : Value) (D : Dk) (E : List ByteArray) (w : World) (h : DiskAt w b fv D) (hH : Holds D E) (ht : Table w) (hg : 2 < w.heap.size) :
    Calls Tryz.prog 118 #[.pointer (some ⟨b, 0, none⟩)] w fun e w' => e = .returned (.bool true) ∧ Below w.heap.size w w' := by
  have HD : Aside (DiskAt w b fv D ∧ Table w ∧ 2 < w.heap.size ∧ D.tilesOk E.length ∧ D.read 1 = zer) := ⟨h, ht, hg, hH.tilesOk, hH.jn⟩
  have hck := readCheckpoint_any b fv D w h
  rw [hH.ckN, hH.ckR, strOf_bts] at hck
  have hlen := hH.len
  have hr32 : (mth (E.map leafS)).size = 32 := mth32
  have hspan := hH.span
  have h0 := hH.ck
  have hs0 := (h.ok.read (i := 0) (by omega)).len
  generalize mth (E.map leafS) = rt at *
  generalize E.length = n at *
  clear hH ht hg h
  have HP : Aside (D.span 0 n = rt ∧ D.read 0 = ckSec n (bts rt)) := ⟨hspan, h0⟩
  have hcs : (ckSec n (bts rt)).length = 128 := h0 ▸ hs0
  clear hspan h0 hs0
  have hrt : (rt.toList == rt.toList) = true := by rw [eqs]; exact decide_eq_true rfl
  go_enter Tryz.func118, Tryz.ntmps118
  go_wp2_with fail
  refine hck.mono ?_
  rintro e w1 ⟨rfl, hb1⟩
  clear hck
  have hn64 : ¬ (n : Int) > 64 := by omega
  have hrd : Calls Tryz.prog 113 #[.pointer (some ⟨b, 0, none⟩), .int .i64 0] w1 fun e w' => e = .returned (.agg (u8s (ckSec n (bts rt))).toArray) ∧ Below w1.heap.size w1 w' := by
    have := read_any b fv D 0 w1 (HD.out.1.below hb1) (by omega)
    rw [HP.out.2] at this
    exact this
  have B1 : Aside (Below w.heap.size w w1) := hb1
  go_wp2_with fail
  refine hrd.mono ?_
  rintro e w2 ⟨rfl, hb2⟩
  have B2 : Aside (Below w.heap.size w w2) := B1.out.trans (hb2.mono B1.out.size)
  have hcp := checkpoint_any n rt w2 (by omega) (by omega)
  clear hrd hb1 hb2
  generalize ckSec n (bts rt) = s at *
  go_wp2_with fail
  refine hcp.mono ?_
  rintro e w3 ⟨rfl, hb3⟩
  have B3 : Aside (Below w.heap.size w w3) := B2.out.trans (hb3.mono B2.out.size)
  clear hcp hb3
  have heq := fun wx => equal_sec wx hcs hcs
  rw [show decide (s = s) = true by simp] at heq
  generalize (u8s s).toArray = arr at *
  have htl := tilesHold_any b n fv D w3 (HD.out.1.below B3.out) (by omega) (table_at B3.out HD.out.2.2.1 HD.out.2.1) (Nat.lt_of_lt_of_le HD.out.2.2.1 B3.out.size)
  go_wp2_with fail
  refine htl.mono ?_
  rintro e w4 ⟨r, rfl, hr, hb4⟩
  clear htl
  have hr1 : r = true := hr.2 HD.out.2.2.2.1
  subst hr1
  clear hr
  have B4 : Aside (Below w.heap.size w w4) := B3.out.trans (hb4.mono B3.out.size)
  have hsp : Calls Tryz.prog 99 #[.pointer (some ⟨b, 0, none⟩), .int .i64 0, .int .i64 (n : Int)] w4 fun e w' => e = .returned (.string rt) ∧ Below w4.heap.size w4 w' := by
    have := span_any b 0 n fv D w4 (HD.out.1.below B4.out) (by omega) (table_at B4.out HD.out.2.2.1 HD.out.2.1) (Nat.lt_of_lt_of_le HD.out.2.2.1 B4.out.size)
    rw [HP.out.1, Nat.zero_add] at this
    exact this
  clear hb4
  go_wp2_with fail
  refine hsp.mono ?_
  rintro e w5 ⟨rfl, hb5⟩
  clear hsp
  have B5 : Aside (Below w.heap.size w w5) := B4.out.trans (hb5.mono B4.out.size)
  have hft := fits_none b (n : Int) fv D w5 (HD.out.1.below B5.out) HD.out.2.2.2.2
  clear hb5
  go_wp2_with fail
  refine hft.mono ?_
  rintro e w6 ⟨rfl, hb6⟩
  have B6 : Aside (Below w.heap.size w w6) := B5.out.trans (hb6.mono B5.out.size)
  clear hft hb6
  go_wp2
  go_ret
  exact ⟨rfl, B6.out⟩
end Go.Proofs.YtlhohmlpcgbliabGreatDoor
namespace Go.Proofs.YtlhohmlpcgbliabGreatDoor
set_option maxRecDepth 100000
open Go.RowKit
attribute [local go_sem ↓] Go.wp_at_zero Go.wp_at_succ

/-- The journal's entries from slot k on: until there are so many, or one is none. -/
def jents (D : Dk) (count : Nat) : Nat → Nat → List ByteArray
  | _, 0 => []
  | k, f + 1 => if k = count then [] else match unpL (D.slot 2 3 k) with
    | none => []
    | some e => strOf e :: jents D count (k + 1) f
def Dk.jE (D : Dk) (count : Nat) : List ByteArray := jents D count 0 12
theorem jents_len (D : Dk) (count : Nat) : ∀ (f k : Nat), (jents D count k f).length ≤ f := by
  intro f
  induction f with
  | zero => intro k; exact Nat.le_refl _
  | succ f ih =>
    intro k
    rw [jents]
    split
    · exact Nat.zero_le _
    · split
      · exact Nat.zero_le _
      · rw [List.length_cons]; exact Nat.succ_le_succ (ih _)
theorem jents_siz {D : Dk} (h : D.ok) (count : Nat) : ∀ (f k : Nat), k + f ≤ 12 → ∀ s ∈ jents D count k f, s.size ≤ 40 := by
  intro f
  induction f with
  | zero => intro k _ s hs; simp [jents] at hs
  | succ f ih =>
    intro k hk s hs
    rw [jents] at hs
    split at hs
    · simp at hs
    · split at hs
      · simp at hs
      · rename_i e he
        rcases List.mem_cons.1 hs with rfl | h1
        · have hsb := slot_byt h (start := 2) (each := 3) (i := k) (by omega)
          have hul := unpL_len (l := D.slot 2 3 k)
          have hub := unpL_byt hsb
          rw [he] at hul hub
          exact strOf_le hub hul
        · exact ih (k + 1) (by omega) s h1

theorem row_slice {w : World} {base : Nat} {v : Value} {ts : List ByteArray} (h : Row w base 9 v (strv ts)) : ∃ p cap, v = .slice p ts.length cap := by
  obtain ⟨h1, h2⟩ := h
  rw [strv_length] at h2
  rcases h2 with ⟨rfl, hn⟩ | ⟨g, cap, cur, rfl, hb, hg, hn, hm, hs, ht⟩
  · exact ⟨none, 0, by rw [hn]⟩
  · exact ⟨_, cap, rfl⟩
theorem jents_stop {D : Dk} {count k f : Nat} (h : k = count ∨ unpL (D.slot 2 3 k) = none) : jents D count k f = [] := by
  cases f with
  | zero => rfl
  | succ f =>
    rw [jents]
    rcases h with h | h
    · rw [if_pos h]
    · split
      · rfl
      · rw [h]
theorem jents_go {D : Dk} {count k f : Nat} {e : List Nat} (h : k ≠ count) (he : unpL (D.slot 2 3 k) = some e) : jents D count k (f + 1) = strOf e :: jents D count (k + 1) f := by
  rw [jents, if_neg h, he]

theorem row_apart {w : World} {base lb : Nat} {v : Value} {xs cs : List Value} (h : Row w base 9 v xs) (hB : Blk w lb 89 cs) : v.ownBlock ≠ some lb := by
  obtain ⟨_, h2⟩ := h
  rcases h2 with ⟨rfl, _⟩ | ⟨g, cap, cur, rfl, _, hg, _⟩
  · simp [Value.ownBlock]
  · intro e
    have e1 : g = lb := by simpa [Value.ownBlock] using e
    subst e1
    unfold Blk at hB
    rw [hB] at hg
    have := Option.some.inj hg
    injection this with _ h3 _
    exact absurd h3 (by decide)

set_option maxHeartbeats 4000000 in
theorem readAdded_any (b count : Nat) (fv : Value) (D : Dk) (w : World) (h : DiskAt w b fv D) :
    Calls Tryz.prog 130 #[.pointer (some ⟨b, 0, none⟩), .int .i64 (count : Int)] w fun e w' => ∃ v, e = .returned v ∧ Row w' w.heap.size 9 v (strv (D.jE count)) ∧ Below w.heap.size w w' := by
  have HD : Aside (DiskAt w b fv D) := h
  have HJ : Aside (D.jE count = jents D count 0 12) := rfl
  clear h
  generalize D.jE count = JE at *
  go_enter Tryz.func130, Tryz.ntmps130
  go_wp2
  go_step3
  go_wp2
  go_step3
  go_wp2
  go_loopg [5, 6] 4 (fun g s5 s6 wr => ∃ (at' k : Nat) (es : List ByteArray), at' + g = 6 ∧ k + 6 = at' * 3 ∧ s6 = .int .i64 (at' : Int) ∧ Aside (es.length = k ∧ JE = es ++ jents D count k (12 - k) ∧ Row wr w.heap.size 9 s5 (strv es) ∧ Below w.heap.size w wr))
  case atStart => exact ⟨2, 0, [], rfl, rfl, rfl, ⟨rfl, HJ.out, World.ownsRow_nil _ _ _ _, Below.refl _ _⟩⟩
  case round =>
    obtain ⟨at', k, es, hag, hka, rfl, HS⟩ := hrel
    cases gk with
    | zero =>
      have hc' : ¬ (at' : Int) < 6 := by omega
      go_wp2
      try rw [Exit.noGoto_ret]
      go_ret
      obtain ⟨h1, h2, h3, h4⟩ := HS.out
      rw [show 12 - k = 0 by omega] at h2
      simp only [jents, List.append_nil] at h2
      rw [h2]
      exact ⟨_, rfl, h3, h4⟩
    | succ g =>
      have hc' : (at' : Int) < 6 := by omega
      have hrd := read_any b fv D at' wr (HD.out.below HS.out.2.2.2) (by omega)
      have hsl := (HD.out.ok.read (i := at') (by omega)).len
      have HSL : Aside (∀ i, i < 3 → slotL (D.read at') 3 i = D.slot 2 3 (k + i)) := fun i hi => by
        unfold Dk.slot slotL
        rw [show 2 + (k + i) / 3 = at' by omega, show (k + i) % 3 = i % 3 by omega]
      generalize D.read at' = s at *
      go_wp2_with fail
      refine hrd.mono ?_
      rintro e w3 ⟨rfl, hb3⟩
      clear hrd
      have hz : Tryz.zeroCells89.toList.length = 128 := by rw [zeroSec]; simp
      have hN := Blk.newA w3 89 Tryz.zeroCells89
      have hth := hN.there 0 128 (by omega)
      have hN4 := hN.fill (u8s s) (by simp [hsl, hz])
      have hb4 : Below wr.heap.size wr ((w3.alloc (.cells Tryz.zeroCells89 89)).setCells w3.heap.size 0 (u8s s)) := Below.setCells (hb3.alloc hb3.size _) _ _ hb3.size _
      clear hN
      go_wp2_with (first | ((with_reducible refine stSec ?_ (.tmp 7) (.tmp 17) ?_ w3.heap.size 0 s ?_ ?_ hth hsl ?_); rfl; rfl; rfl; rfl))
      have H4 : Aside (Below w.heap.size w ((w3.alloc (.cells Tryz.zeroCells89 89)).setCells w3.heap.size 0 (u8s s)) ∧ Blk ((w3.alloc (.cells Tryz.zeroCells89 89)).setCells w3.heap.size 0 (u8s s)) w3.heap.size 89 (u8s s) ∧ ∀ x, Row wr w.heap.size 9 x (strv es) → Row ((w3.alloc (.cells Tryz.zeroCells89 89)).setCells w3.heap.size 0 (u8s s)) w.heap.size 9 x (strv es)) :=
        ⟨HS.out.2.2.2.trans (hb4.mono HS.out.2.2.2.size), hN4, fun x hx => hx.below hb4 (Nat.le_refl _)⟩
      have HW : Aside (w.heap.size ≤ w3.heap.size) := Nat.le_trans HS.out.2.2.2.size hb3.size
      clear hth hN4 hb4 hz
      generalize (w3.alloc (.cells Tryz.zeroCells89 89)).setCells w3.heap.size 0 (u8s s) = w4 at *
      generalize w3.heap.size = lb at *
      clear hb3
      go_loopg [5, 18] 3 (fun g2 s5 s18 wz => ∃ (i : Nat) (es2 : List ByteArray), i + g2 = 3 ∧ s18 = .int .i64 (i : Int) ∧ Aside (es2.length = k + i ∧ JE = es2 ++ jents D count (k + i) (12 - (k + i)) ∧ Row wz w.heap.size 9 s5 (strv es2) ∧ Below w.heap.size w wz ∧ Blk wz lb 89 (u8s s)))
      case atStart => exact ⟨0, es, rfl, rfl, ⟨HS.out.1, HS.out.2.1, H4.out.2.2 _ HS.out.2.2.1, H4.out.1, H4.out.2.1⟩⟩
      case round =>
        obtain ⟨i, es2, hig, rfl, HS2⟩ := hrel
        cases gk with
        | zero =>
          have hi3 : ¬ (i : Int) < 3 := by omega
          go_wp2
          go_roundg g
          case measure => omega
          case rel =>
            obtain rfl : i = 3 := by omega
            exact ⟨at' + 1, k + 3, es2, by omega, by omega, by go_num, ⟨HS2.out.1, HS2.out.2.1, HS2.out.2.2.1, HS2.out.2.2.2.1⟩⟩
        | succ g2 =>
          have hi3 : (i : Int) < 3 := by omega
          have hi2 : i < 3 := by omega
          have hk11 : k + i ≤ 11 := by omega
          obtain ⟨p, cap, hv⟩ := row_slice HS2.out.2.2.1
          rw [HS2.out.1] at hv
          subst hv
          by_cases hkc : k + i = count
          · have hkc' : ((k : Int) + (i : Int) == (count : Int)) = true := by simp; omega
            have HX : Aside (JE = es2) := by
              have := HS2.out.2.1
              rw [jents_stop (.inl hkc), List.append_nil] at this
              exact this
            clear hkc
            go_wp2
            try rw [Exit.noGoto_ret]
            go_ret
            rw [HX.out]
            exact ⟨_, rfl, HS2.out.2.2.1, HS2.out.2.2.2.1⟩
          · have hkc' : ((k : Int) + (i : Int) == (count : Int)) = false := by simp; omega
            have HN : Aside (k + i ≠ count) := hkc
            clear hkc
            go_wp2_with fail
            refine (added_any wr).mono ?_
            rintro e w5 ⟨rfl, hb5⟩
            have H5 : Aside (Below w.heap.size w w5 ∧ Blk w5 lb 89 (u8s s) ∧ Row w5 w.heap.size 9 (.slice p (k + i) cap) (strv es2)) := ⟨HS2.out.2.2.2.1.trans (hb5.mono HS2.out.2.2.2.1.size), HS2.out.2.2.2.2.below hb5 HS2.out.2.2.2.2.lt, HS2.out.2.2.1.below hb5 (Nat.le_refl _)⟩
            clear hb5
            have hsa : Calls Tryz.prog 114 #[rowV 2 3, .pointer (some ⟨lb, 0, none⟩), .int .i64 (i : Int)] w5 fun e w' => e = .returned (.slice (some ⟨lb, i % 3 * 42, none⟩) 42 (128 - i % 3 * 42)) ∧ Below w5.heap.size w5 w' := slot_any 2 3 lb i w5 (.inl rfl) (by omega)
            have hl := slotL_length i hsl (.inl rfl)
            have HR : Aside (∀ wx, Below w5.heap.size w5 wx → wx.rangeAt lb (i % 3 * 42) (u8s (slotL s 3 i))) := by
              intro wx hx
              have hB6 := H5.out.2.1.below hx H5.out.2.1.lt
              have := hB6.part (i % 3 * 42) 42
              unfold slotL
              rw [u8s_take, u8s_drop]
              exact this
            have hsb := slot_byt HD.out.ok (start := 2) (each := 3) (i := k + i) (by omega)
            rw [HSL.out i hi2] at hl HR
            have HU : Aside (D.slot 2 3 (k + i) = D.slot 2 3 (k + i)) := rfl
            generalize hsd : D.slot 2 3 (k + i) = sl at *
            have HSD : Aside (D.slot 2 3 (k + i) = sl) := hsd
            clear hsd HU
            generalize i % 3 * 42 = off at *
            go_wp2_with fail
            refine hsa.mono ?_
            rintro e w6 ⟨rfl, hb6⟩
            have hcv := convert_range (cap := 128 - off) (HR.out w6 hb6)
            rw [show sl.length = 42 from hl] at hcv
            have hun := unpacked_any sl w6 (by rw [show sl.length = 42 from hl]; omega) hsb
            have H6 : Aside (Below w.heap.size w w6 ∧ Blk w6 lb 89 (u8s s) ∧ Row w6 w.heap.size 9 (.slice p (k + i) cap) (strv es2)) := ⟨H5.out.1.trans (hb6.mono H5.out.1.size), H5.out.2.1.below hb6 H5.out.2.1.lt, H5.out.2.2.below hb6 (Nat.le_refl _)⟩
            clear hsa hb6 hl HR hsb
            generalize hun0 : unpL sl = u at *
            have HU : Aside (unpL (D.slot 2 3 (k + i)) = u) := by show _ = _; rw [HSD.out, hun0]
            clear hun0
            generalize strOf sl = x at *
            go_wp2_with fail
            refine hun.mono ?_
            rintro e w7 ⟨rfl, rfl⟩
            clear hun hcv
            cases u with
            | none =>
              have HX : Aside (JE = es2) := by
                have := HS2.out.2.1
                rw [jents_stop (.inr HU.out), List.append_nil] at this
                exact this
              simp only [Option.isSome_none, Option.getD_none]
              go_wp2
              try rw [Exit.noGoto_ret]
              go_ret
              rw [HX.out]
              exact ⟨_, rfl, H6.out.2.2, H6.out.1⟩
            | some eb =>
              have HX : Aside (JE = (es2 ++ [strOf eb]) ++ jents D count (k + (i + 1)) (12 - (k + (i + 1)))) := by
                have := HS2.out.2.1
                rw [show 12 - (k + i) = (12 - (k + (i + 1))) + 1 by omega, jents_go HN.out HU.out] at this
                rw [List.append_assoc]
                exact this
              have HXX : Aside (strv es2 ++ [.string (strOf eb)] = strv (es2 ++ [strOf eb])) := by show _ = _; simp [strv]
              have hxl : (strv es2).length = k + i := by rw [strv_length]; exact HS2.out.1
              have hrow := H6.out.2.2
              have hsz7 := H6.out.1.size
              have HE : Aside (es2.length = k + i) := HS2.out.1
              simp only [Option.isSome_some, Option.getD_some]
              generalize strOf eb = y at *
              generalize strv es2 = xs at *
              go_wp2_with (at_builtin; refine wpList_app elem_string rfl Tryz.underlying22 (by rfl) (.tmp 35) (.tmp 37) (by rfl) w.heap.size _ xs (by rfl) (hrow.alloc _) _ 1 1 [.string y] (by rfl) rfl (Blk.new _ 9 _) ?h1 ?hl ?hb ?hbs (w0 := w) (B := w.heap.size) (H6.out.1.alloc H6.out.1.size _) (Nat.le_refl _) ?_)
              case h1 => intro u hu; simp at hu; subst hu; rfl
              case hl => omega
              case hb => omega
              case hbs => simp; omega
              intro vL w8 hrow8 hgr b8
              rw [HXX.out] at hrow8
              have H8 : Aside (Blk w8 lb 89 (u8s s) ∧ Row w8 w.heap.size 9 vL (strv (es2 ++ [y])) ∧ Below w.heap.size w w8) := by
                refine ⟨?_, hrow8, b8⟩
                have h9 := H6.out.2.1.alloc (.cells #[.string y] 9)
                have h10 := row_apart (hrow.alloc (.cells #[.string y] 9)) h9
                have h11 := hgr.block lb h9.lt (fun e => h10 e.symm)
                unfold Blk at *
                rw [h11]; exact h9
              clear hrow8 hgr b8 hrow
              go_wp2
              go_roundg g2
              case measure => omega
              case rel => exact ⟨i + 1, es2 ++ [y], by omega, by go_num, ⟨by rw [List.length_append, HE.out]; rfl, HX.out, H8.out.2.1, H8.out.2.2, H8.out.1⟩⟩
end Go.Proofs.YtlhohmlpcgbliabGreatDoor
namespace Go.Proofs.YtlhohmlpcgbliabGreatDoor
set_option maxRecDepth 100000
open Go.RowKit
attribute [local go_sem ↓] Go.wp_at_zero Go.wp_at_succ

/-- What a journal's head tells: the first entry's number, and how many there are. -/
def Dk.jF (D : Dk) : Nat := (D.read 1).getD 13 0
def Dk.jN (D : Dk) : Nat := (D.read 1).getD 14 0

theorem row_base {w : World} {b b' : Nat} {e : TypeId} {v : Value} {xs : List Value} (h : Row w b e v xs) (hb : b' ≤ b) : Row w b' e v xs := by
  obtain ⟨h1, h2⟩ := h
  refine ⟨h1, ?_⟩
  rcases h2 with h0 | ⟨g, cap, cur, hv, hbg, rr⟩
  · exact .inl h0
  · exact .inr ⟨g, cap, cur, hv, Nat.le_trans hb hbg, rr⟩
theorem exec_cv {P : Program} {o : Oper} {a : Act} {w : World} {t1 t2 : TypeId} {x : Operand} {v u : Value} (ho : o.op = .convert t1 t2 x) (hx : a.eval x = v) (hr : (convert t1 t2 v).run P w = .ok u w) : (execOp a.eval o).run P w = .ok (.value u) w := by
  unfold execOp
  simp only [ho, hx, Sem.run_bind, hr, Result.andThen_ok, Sem.run_pure]
theorem cvt_u8 (f : Nat) (hf : f < 256) (w : World) : (convert 5 3 (.int .u8 (f : Int))).run Tryz.prog w = .ok (.int .i64 (f : Int)) w := by
  have h : IntKind.i64.wrap (f : Int) = (f : Int) := IntWalk.i64_in _ ⟨by omega, by omega⟩
  simp [go_sem]
  exact h
theorem loadByte (w : World) (b o : Nat) (x : Int) (h : w.cell? ⟨b, o, none⟩ = some (.int .u8 x)) : (Instr.loadAt 5 (.pointer (some ⟨b, o, none⟩))).run Tryz.prog w = .ok (.int .u8 x) w := by
  simp [go_sem, h]
theorem ixByte (w : World) (b k : Nat) (hk : k < 128) : (Instr.indexAt 89 (.pointer (some ⟨b, 0, none⟩)) (.int .i64 (k : Int))).run Tryz.prog w = .ok (.pointer (some ⟨b, k, none⟩)) w := by
  have h : (k : Int) < 128 := by omega
  simp [go_sem, h]

set_option maxHeartbeats 2000000 in
theorem rjR4_wp {c0 c1 c2 c3 c5 c6 c7 c8 c9 c10 c11 c12 c13 c14 c15 c16 c17 c18 c19 c20 c21 c22 c23 : Value} (lb f cnt : Nat) (w : World) (Q : Exit → Act → World → Prop) (h13 : w.cell? ⟨lb, 13, none⟩ = some (.int .u8 (f : Int))) (h14 : w.cell? ⟨lb, 14, none⟩ = some (.int .u8 (cnt : Int))) (hf : f < 256) (hn : cnt < 256)
    (hQ : ∀ (u13 u14 u15 u16 u17 u18 : Value), Q .normal ⟨#[c0, c1, c2, c3, .pointer (some ⟨lb, 0, none⟩), .int .i64 (f : Int), .int .i64 (cnt : Int), c7, c8, c9, c10, c11, c12, u13, u14, u15, u16, u17, u18, c19, c20, c21, c22, c23], []⟩ w.drew) :
    Code.wp Tryz.prog (rgn Tryz.f117 4) Q ⟨#[c0, c1, c2, c3, .pointer (some ⟨lb, 0, none⟩), c5, c6, c7, c8, c9, c10, c11, c12, c13, c14, c15, c16, c17, c18, c19, c20, c21, c22, c23], []⟩ w := by
  have hS : (fun wx : World => wx = w.drew) w.drew := rfl
  have i13 : ∀ wx, (Instr.indexAt 89 (.pointer (some ⟨lb, 0, none⟩)) (.int .i64 13)).run Tryz.prog wx = .ok (.pointer (some ⟨lb, 13, none⟩)) wx := fun wx => ixByte wx lb 13 (by omega)
  have i14 : ∀ wx, (Instr.indexAt 89 (.pointer (some ⟨lb, 0, none⟩)) (.int .i64 14)).run Tryz.prog wx = .ok (.pointer (some ⟨lb, 14, none⟩)) wx := fun wx => ixByte wx lb 14 (by omega)
  conv => arg 2; whnf
  refine wp_region_s (fun wx : World => wx = w.drew) (by kernel_rfl) ?_
  refine wpS_pure (k := 0) (v := .pointer (some ⟨lb, 13, none⟩)) (by rfl) (by kernel_rfl) (by kernel_rfl) (by kernel_rfl) (by rfl) (some 13) (by rfl) hS (fun wx _ => exec_ix (by rfl) (by rfl) (by rfl) (i13 wx)) ?_
  simp only [Act.put, List.setIfInBounds_toArray, List.set_cons_succ, List.set_cons_zero]
  refine wpS_pure (k := 1) (v := .int .u8 (f : Int)) (by rfl) (by kernel_rfl) (by kernel_rfl) (by kernel_rfl) (by rfl) (some 14) (by rfl) hS (fun wx hx => exec_ld (by rfl) (by rfl) (loadByte wx lb 13 _ (by rw [hx]; exact h13))) ?_
  simp only [Act.put, List.setIfInBounds_toArray, List.set_cons_succ, List.set_cons_zero]
  refine wpS_pure (k := 2) (v := .int .i64 (f : Int)) (by rfl) (by kernel_rfl) (by kernel_rfl) (by kernel_rfl) (by rfl) (some 15) (by rfl) hS (fun wx _ => exec_cv (by rfl) (by rfl) (cvt_u8 f hf wx)) ?_
  simp only [Act.put, List.setIfInBounds_toArray, List.set_cons_succ, List.set_cons_zero]
  refine wpS_pure (k := 3) (v := .pointer (some ⟨lb, 14, none⟩)) (by rfl) (by kernel_rfl) (by kernel_rfl) (by kernel_rfl) (by rfl) (some 16) (by rfl) hS (fun wx _ => exec_ix (by rfl) (by rfl) (by rfl) (i14 wx)) ?_
  simp only [Act.put, List.setIfInBounds_toArray, List.set_cons_succ, List.set_cons_zero]
  refine wpS_pure (k := 4) (v := .int .u8 (cnt : Int)) (by rfl) (by kernel_rfl) (by kernel_rfl) (by kernel_rfl) (by rfl) (some 17) (by rfl) hS (fun wx hx => exec_ld (by rfl) (by rfl) (loadByte wx lb 14 _ (by rw [hx]; exact h14))) ?_
  simp only [Act.put, List.setIfInBounds_toArray, List.set_cons_succ, List.set_cons_zero]
  refine wpS_pure (k := 5) (v := .int .i64 (cnt : Int)) (by rfl) (by kernel_rfl) (by kernel_rfl) (by kernel_rfl) (by rfl) (some 18) (by rfl) hS (fun wx _ => exec_cv (by rfl) (by rfl) (cvt_u8 cnt hn wx)) ?_
  simp only [Act.put, List.setIfInBounds_toArray, List.set_cons_succ, List.set_cons_zero]
  refine wpS_pure (k := 6) (v := .int .i64 (f : Int)) (by rfl) (by kernel_rfl) (by kernel_rfl) (by kernel_rfl) (by rfl) (some 5) (by rfl) hS (fun _ _ => by kernel_rfl) ?_
  simp only [Act.put, List.setIfInBounds_toArray, List.set_cons_succ, List.set_cons_zero]
  refine wpS_pure (k := 7) (v := .int .i64 (cnt : Int)) (by rfl) (by kernel_rfl) (by kernel_rfl) (by kernel_rfl) (by rfl) (some 6) (by rfl) hS (fun _ _ => by kernel_rfl) ?_
  simp only [Act.put, List.setIfInBounds_toArray, List.set_cons_succ, List.set_cons_zero]
  refine wpAnyH_done (by kernel_rfl) ?_ _
  refine NoPanic.normal ?_
  exact hQ _ _ _ _ _ _

set_option maxHeartbeats 4000000 in
theorem readJournal_some (b : Nat) (fv : Value) (D : Dk) (w : World) (h : DiskAt w b fv D) (hz : D.read 1 ≠ zer) :
    Calls Tryz.prog 117 #[.pointer (some ⟨b, 0, none⟩)] w fun e w' => ∃ v, e = .returned (.tuple #[.agg #[.int .i64 (D.jF : Int), v], .bool true]) ∧ Row w' w.heap.size 9 v (strv (D.jE D.jN)) ∧ Below w.heap.size w w' := by
  have hb0 : Below w.heap.size w (w.alloc (.cells #[.int .i64 0, .slice none 0 0] 144)) := (Below.refl _ _).alloc (Nat.le_refl _) _
  have hJ0 : Blk (w.alloc (.cells #[.int .i64 0, .slice none 0 0] 144)) w.heap.size 144 [.int .i64 0, .slice none 0 0] := Blk.new w _ _
  have hrd : Calls Tryz.prog 113 #[.pointer (some ⟨b, 0, none⟩), .int .i64 1] (w.alloc (.cells #[.int .i64 0, .slice none 0 0] 144)) fun e w' => e = .returned (.agg (u8s (D.read 1)).toArray) ∧ Below (w.alloc (.cells #[.int .i64 0, .slice none 0 0] 144)).heap.size (w.alloc (.cells #[.int .i64 0, .slice none 0 0] 144)) w' := read_any b fv D 1 _ (h.below hb0) (by omega)
  have hsl := (h.ok.read (i := 1) (by omega)).len
  have hzz0 : zer.length = 128 := by simp [zer]
  have HF : Aside (D.jF = (D.read 1).getD 13 0 ∧ D.jN = (D.read 1).getD 14 0) := ⟨rfl, rfl⟩
  have HDD : Aside (DiskAt w b fv D) := h
  have HNZ : Aside (D.read 1 ≠ zer) := hz
  have HBY : Aside (∀ k, (D.read 1).getD k 0 < 256) := fun k => byt_ok (h.ok.read (i := 1) (by omega)).byt k
  have hzz : Tryz.zeroCells89 = (u8s zer).toArray := zeroSec
  have hzl : Tryz.zeroCells89.toList.length = 128 := by rw [zeroSec]; simp
  have hbd : ∀ wx, (Instr.build 89 #[]).run Tryz.prog wx = .ok (.agg Tryz.zeroCells89) wx := fun wx => run_build wx 89 _ _ (by kernel_rfl)
  go_enter Tryz.func117, Tryz.ntmps117
  go_wp2_with fail
  have hs0 : w.heap.size < (w.alloc (.cells #[.int .i64 0, .slice none 0 0] 144)).heap.size := by simp
  generalize w.alloc (.cells #[.int .i64 0, .slice none 0 0] 144) = w0 at *
  refine hrd.mono ?_
  rintro e w1 ⟨rfl, hb1⟩
  have hb2 : Below w0.heap.size w0 (w1.alloc (.cells Tryz.zeroCells89 89)) := hb1.alloc hb1.size _
  have hB := Blk.newA w1 89 Tryz.zeroCells89
  clear hz h
  generalize D.read 1 = s at *
  have hB3 := hB.fill (u8s s) (by simp [hsl, hzl])
  have hb3 := Below.setCells hb2 w1.heap.size 0 hb1.size (u8s s)
  have hJ3 := hJ0.below hb3 hJ0.lt
  have HZ : Hid (Tryz.zeroCells89 = (u8s zer).toArray) := hzz
  clear hzz
  have hth := hB.there 0 128 (by omega)
  have hrg := hB3.range
  have HA : Hid ((u8s s).toArray = (u8s s).toArray) := rfl
  go_wp2_with (first | ((with_reducible refine stSec ?_ (.tmp 4) (.tmp 8) ?_ w1.heap.size 0 s ?_ ?_ hth hsl ?_); rfl; rfl; rfl; rfl) | ((with_reducible refine ldSec ?_ (.tmp 4) ?_ w1.heap.size 0 ?_ s hrg hsl ?_); rfl; rfl; rfl; show Go.Shut _))
  try unfold Go.Shut
  clear hth hrg
  have H3 : Aside (Below w.heap.size w ((w1.alloc (.cells Tryz.zeroCells89 89)).setCells w1.heap.size 0 (u8s s))) := hb0.trans (hb3.mono hb0.size)
  generalize (w1.alloc (.cells Tryz.zeroCells89 89)).setCells w1.heap.size 0 (u8s s) = w3 at *
  have hc13 := hB3.cell 13
  have hc14 := hB3.cell 14
  rw [u8s_get s 13 (by omega)] at hc13
  rw [u8s_get s 14 (by omega)] at hc14
  clear hB3 hB hb2 hb3
  generalize hqa : (u8s s).toArray = arr at *
  clear HA
  refine .inl ?_
  refine eqlSec (by rfl) (.tmp 9) (.tmp 10) (by rfl) s zer arr Tryz.zeroCells89 (by rfl) (by rfl) hqa.symm HZ.out hsl hzz0 ?_
  have hd : decide (s = zer) = false := by simpa using HNZ.out
  rw [hd]
  refine wpList_nil ?_
  clear hqa HZ hbd hzl hd
  generalize Tryz.zeroCells89 = zz at *
  rw [← HF.out.1] at hc13
  rw [← HF.out.2] at hc14
  have hf256 : D.jF < 256 := by rw [HF.out.1]; exact HBY.out 13
  have hn256 : D.jN < 256 := by rw [HF.out.2]; exact HBY.out 14
  have hra := fun wx (hx : Below w.heap.size w wx) => readAdded_any b D.jN fv D wx (HDD.out.below hx)
  generalize hje : D.jE D.jN = JE at *
  generalize hjf : D.jF = f at *
  have HE : Aside (D.jE D.jN = JE ∧ D.jF = f) := ⟨hje, hjf⟩
  clear hje hjf
  generalize D.jN = cnt at hra hn256 hc14
  clear HF HBY
  go_wp2_with fail
  refine rjR4_wp w1.heap.size f cnt w3 _ hc13 hc14 hf256 hn256 ?_
  intro u13 u14 u15 u16 u17 u18
  have H4 : Aside (Below w.heap.size w w3.drew ∧ Blk w3.drew w.heap.size 144 [.int .i64 0, .slice none 0 0]) := ⟨H3.out.drew, hJ3⟩
  generalize w3.drew = w4 at *
  have hra4 := hra w4 H4.out.1
  clear hra hc13 hc14 hJ3 H3
  go_wp2_with fail
  refine hra4.mono ?_
  rintro e w5 ⟨v, rfl, hrow, hb5⟩
  clear hra4
  have hJ5 := H4.out.2.below hb5 H4.out.2.lt
  have hb6 : Below w.heap.size w w5 := H4.out.1.trans (hb5.mono H4.out.1.size)
  obtain ⟨p, cap, rfl⟩ := row_slice hrow
  have hc0 := hJ5.cell 0
  have hc1 := hJ5.cell 1
  have hf0 := hJ5.frozen 0
  have hf1 := hJ5.frozen 1
  simp only [List.getElem?_cons_zero, List.getElem?_cons_succ] at hc0 hc1
  have HJ := (hJ5.set 0 (.int .i64 (f : Int))).set 1 (.slice p JE.length cap)
  simp only [List.set_cons_zero, List.set_cons_succ] at HJ
  have Hb : Below w.heap.size w ((w5.setCell ⟨w.heap.size, 0, none⟩ (.int .i64 (f : Int))).setCell ⟨w.heap.size, 1, none⟩ (.slice p JE.length cap)) := (hb6.setCell (Nat.le_refl _) _).setCell (Nat.le_refl _) _
  have hc1' : (w5.setCell ⟨w.heap.size, 0, none⟩ (.int .i64 (f : Int))).cell? ⟨w.heap.size, 1, none⟩ = some (.slice none 0 0) := by rw [cell_set_off _ _ _ _ _ (by omega)]; exact hc1
  have hf1' := (hJ5.set 0 (.int .i64 (f : Int))).frozen 1
  have hl4 : w.heap.size < w4.heap.size := H4.out.2.lt
  have hown : (Value.slice p JE.length cap).ownBlock ≠ some w.heap.size := fun e => by have := (hrow.lt _ e).1; omega
  have HR : Aside (Row ((w5.setCell ⟨w.heap.size, 0, none⟩ (.int .i64 (f : Int))).setCell ⟨w.heap.size, 1, none⟩ (.slice p JE.length cap)) w.heap.size 9 (.slice p JE.length cap) (strv JE)) := row_base (ownsRow_setCell_other (ownsRow_setCell_other hrow hown _) hown _) (Nat.le_of_lt hl4)
  clear hrow hown
  go_wp2_with fail
  exact bodyPost_ret (results_ct Tryz.results117 (by rfl) (by rfl) HJ.range Tryz.underlying144 rfl infoJ) rfl ⟨.slice p JE.length cap, by rw [HE.out.2]; rfl, by rw [HE.out.1]; exact HR.out, Hb⟩
end Go.Proofs.YtlhohmlpcgbliabGreatDoor
namespace Go.Proofs.YtlhohmlpcgbliabGreatDoor
set_option maxRecDepth 100000
open Go.RowKit
attribute [local go_sem ↓] Go.wp_at_zero Go.wp_at_succ

section
variable {P : Program} {ops : Array Oper} {Q : Exit → Act → World → Prop} {S : World → Prop}
end
/-- The journal, if there is one, is whole, and adds to a log of n entries or has done so. -/
def Dk.fits (D : Dk) (n : Nat) : Prop := D.read 1 = zer ∨ (D.read 1 = hdSec D.jF (D.jE D.jN).length ∧ D.jF + (D.jE D.jN).length ≤ 64 ∧ (n = D.jF ∨ n = D.jF + (D.jE D.jN).length))

end Go.Proofs.YtlhohmlpcgbliabGreatDoor
namespace Go.Proofs.YtlhohmlpcgbliabGreatDoor
set_option maxRecDepth 100000
open Go.RowKit
attribute [local go_sem ↓] Go.wp_at_zero Go.wp_at_succ

set_option maxHeartbeats 2000000 in
theorem storeOpen_ok (s : ByteArray) (E : List ByteArray) (w : World) (hs : s.size = 25600) (hH : Holds (Dk.of (bts s)) E) (ht : Table w) (hg : 2 < w.heap.size) :
    Calls Tryz.prog 102 #[.string s] w fun e w' => ∃ b, e = .returned (.tuple #[.agg #[.pointer (some ⟨b, 0, none⟩)], .bool true]) ∧ w.heap.size ≤ b ∧ DiskAt w' b (.slice none 0 0) (Dk.of (bts s)) ∧ Below w.heap.size w w' := by
  have hb0 : Below w.heap.size w (w.alloc (.cells #[.pointer none] 60)) := (Below.refl _ _).alloc (Nat.le_refl _) _
  have hB0 : Blk (w.alloc (.cells #[.pointer none] 60)) w.heap.size 60 [.pointer none] := Blk.new w _ _
  have hop := open_any s (w.alloc (.cells #[.pointer none] 60)) hs
  have HT : Aside (Table w ∧ 2 < w.heap.size ∧ Holds (Dk.of (bts s)) E) := ⟨ht, hg, hH⟩
  clear ht hg hH hs
  generalize Dk.of (bts s) = D at *
  go_enter Tryz.func102, Tryz.ntmps102
  go_wp2_with fail
  have hs0 : w.heap.size < (w.alloc (.cells #[.pointer none] 60)).heap.size := by simp
  generalize w.alloc (.cells #[.pointer none] 60) = w0 at *
  refine hop.mono ?_
  rintro e w1 ⟨rfl, hd1, hb1⟩
  clear hop
  have hw1 : Below w.heap.size w w1 := hb0.trans (hb1.mono hb0.size)
  have hB1 := hB0.below hb1 hs0
  have hso := sound_ok w0.heap.size _ D E w1 hd1 HT.out.2.2 (table_at hw1 HT.out.2.1 HT.out.1) (Nat.lt_of_lt_of_le HT.out.2.1 hw1.size)
  go_wp2_with fail
  refine hso.mono ?_
  rintro e w2 ⟨rfl, hb2⟩
  clear hso
  have hw2 := hw1.trans (hb2.mono hw1.size)
  have hB2 := hB1.below hb2 hB1.lt
  have hd2 := hd1.below hb2
  have hc0 := hB2.cell 0
  have hf0 := hB2.frozen 0
  simp only [List.getElem?_cons_zero] at hc0
  have HB := hB2.set 0 (.pointer (some ⟨w0.heap.size, 0, none⟩))
  simp only [List.set_cons_zero] at HB
  have Hb : Below w.heap.size w (w2.setCell ⟨w.heap.size, 0, none⟩ (.pointer (some ⟨w0.heap.size, 0, none⟩))) := hw2.setCell (Nat.le_refl _) _
  have hd6 : DiskAt (w2.setCell ⟨w.heap.size, 0, none⟩ (.pointer (some ⟨w0.heap.size, 0, none⟩))) w0.heap.size (.slice none 0 0) D := ⟨hd2.ok, hd2.blk.set_other _ _ (by simp only; omega), ownsRow_setCell_other hd2.row (by simp [Value.ownBlock]) _, hd2.apart⟩
  go_wp2_with fail
  exact bodyPost_ret (results_ct Tryz.results102 (by rfl) (by rfl) HB.range Tryz.underlying60 rfl infoSto) rfl ⟨w0.heap.size, rfl, by omega, hd6, Hb⟩

set_option maxHeartbeats 2000000 in
theorem groveOpen_ok (s : ByteArray) (E : List ByteArray) (w : World) (hs : s.size = 25600) (hH : Holds (Dk.of (bts s)) E) (ht : Table w) (hg : 2 < w.heap.size) :
    Calls Tryz.prog 75 #[.string s] w fun e w' => ∃ a b, e = .returned (.tuple #[.pointer (some ⟨a, 0, none⟩), .int .i64 0]) ∧ w.heap.size ≤ a ∧ w.heap.size ≤ b ∧ LogAt w' a b (.slice none 0 0) (.slice none 0 0) (Dk.of (bts s)) [] ∧ Below w.heap.size w w' := by
  have hop := fun wx (hx : Below w.heap.size w wx) => storeOpen_ok s E wx hs hH (table_at hx hg ht) (Nat.lt_of_lt_of_le hg hx.size)
  clear ht hg hH hs
  generalize Dk.of (bts s) = D at *
  have hop0 := hop w (Below.refl _ _)
  clear hop
  go_enter Tryz.func75, Tryz.ntmps75
  go_wp2_with fail
  refine hop0.mono ?_
  rintro e w1 ⟨b, rfl, hb, hd1, hb1⟩
  clear hop0
  have hb2 : Below w.heap.size w (w1.alloc (.cells #[.pointer (some ⟨b, 0, none⟩)] 60)) := hb1.alloc hb1.size _
  have hB2 : Blk (w1.alloc (.cells #[.pointer (some ⟨b, 0, none⟩)] 60)) w1.heap.size 60 [.pointer (some ⟨b, 0, none⟩)] := Blk.new w1 _ _
  have hc2 := hB2.cell 0
  simp only [List.getElem?_cons_zero] at hc2
  have hd3 := (hd1.alloc (.cells #[.pointer (some ⟨b, 0, none⟩)] 60)).alloc (.cells #[.pointer (some ⟨b, 0, none⟩), .slice none 0 0] 63)
  have hA : Blk ((w1.alloc (.cells #[.pointer (some ⟨b, 0, none⟩)] 60)).alloc (.cells #[.pointer (some ⟨b, 0, none⟩), .slice none 0 0] 63)) (w1.heap.size + 1) 63 [.pointer (some ⟨b, 0, none⟩), .slice none 0 0] := by
    have := Blk.new (w1.alloc (.cells #[.pointer (some ⟨b, 0, none⟩)] 60)) 63 [.pointer (some ⟨b, 0, none⟩), .slice none 0 0]
    rw [show (w1.alloc (.cells #[.pointer (some ⟨b, 0, none⟩)] 60)).heap.size = w1.heap.size + 1 by simp] at this
    exact this
  have hlt := hd1.lt
  have hs1 := hb1.size
  go_wp2
  go_ret2
  exact ⟨w1.heap.size + 1, b, rfl, by omega, hb, ⟨hd3, hA, World.ownsRow_nil _ _ _ _, by omega, by simp [Value.ownBlock], by simp [Value.ownBlock], by simp [Value.ownBlock], fun k hk => by simp [Value.ownBlock] at hk⟩, hb2.alloc hb2.size _⟩

theorem bytes_range (w : World) (s : ByteArray) : (Lib.bytesWorld w 5 s).rangeAt w.heap.size 0 (u8s (bts s)) := by
  intro j v hv
  have hj : j < s.size := by
    have := (List.getElem?_eq_some_iff.1 hv).1
    rwa [u8s_length, bts_length] at this
  have h1 := u8s_get (bts s) j (by rw [bts_length]; exact hj)
  rw [h1] at hv
  injection hv with hv
  subst hv
  rw [Nat.zero_add, Lib.bytesWorld_cell _ _ _ _ hj]
  simp [bts, List.getD_eq_getElem?_getD, hj]

end Go.Proofs.YtlhohmlpcgbliabGreatDoor
namespace Go.Proofs.YtlhohmlpcgbliabGreatDoor
set_option maxRecDepth 100000
open Go.RowKit
attribute [local go_sem ↓] Go.wp_at_zero Go.wp_at_succ

end Go.Proofs.YtlhohmlpcgbliabGreatDoor
namespace Go.Proofs.YtlhohmlpcgbliabGreatDoor
set_option maxRecDepth 100000
open Go.RowKit

/-- One act: a sector that is written, or a flush. -/
def Dk.doA (D : Dk) : Option (Nat × List Nat) → Dk
  | some x => D.write x.1 x.2
  | none => D.flush
def Dk.run (D : Dk) : List (Option (Nat × List Nat)) → Dk
  | [] => D
  | a :: r => (D.doA a).run r
theorem Dk.run_append (xs bs : List (Option (Nat × List Nat))) : ∀ D : Dk, D.run (xs ++ bs) = (D.run xs).run bs := by
  induction xs with
  | nil => intro D; rfl
  | cons a r ih => intro D; exact ih _
/-- The same sectors and loose writes. -/
structure Like (D R : Dk) : Prop where
  las : D.las = R.las
  fre : D.fre = R.fre
theorem Like.read {D R : Dk} (h : Like D R) (i : Nat) : D.read i = R.read i := by
  unfold Dk.read
  rw [h.las, h.fre]
theorem Like.slot {D R : Dk} (h : Like D R) (s e i : Nat) : D.slot s e i = R.slot s e i := by
  unfold Dk.slot
  rw [h.read]
theorem Like.hashB {D R : Dk} (h : Like D R) (l i : Nat) : D.hashB l i = R.hashB l i := by
  cases l with
  | zero => rw [Dk.hashB, Dk.hashB, h.slot]
  | succ l =>
    rw [Dk.hashB, Dk.hashB]
    congr 1
    refine List.map_congr_left fun j _ => ?_
    rw [h.slot]
theorem Like.hashes {D R : Dk} (h : Like D R) (l a b : Nat) : D.hashes l a b = R.hashes l a b := by
  unfold Dk.hashes
  exact List.map_congr_left fun j _ => h.hashB _ _
theorem Like.spnF (f : Nat) {D R : Dk} (h : Like D R) : ∀ (a n : Nat), spnF f D a n = spnF f R a n := by
  induction f with
  | zero => intro a n; rfl
  | succ f ih =>
    intro a n
    rw [Go.Proofs.YtlhohmlpcgbliabGreatDoor.spnF, Go.Proofs.YtlhohmlpcgbliabGreatDoor.spnF, h.slot, ih, ih]
theorem Like.span {D R : Dk} (h : Like D R) (a n : Nat) : D.span a n = R.span a n := Like.spnF _ h _ _
theorem Like.ckN {D R : Dk} (h : Like D R) : D.ckN = R.ckN := by unfold Dk.ckN; rw [h.read]
theorem Dk.nf.doA {R : Dk} (h : R.nf) (a : Option (Nat × List Nat)) : (R.doA a).nf := by
  cases a with
  | none => exact h.flush.1
  | some x => exact (h.write x.1 x.2).1
theorem Dk.nf.run {R : Dk} (h : R.nf) (xs : List (Option (Nat × List Nat))) : (R.run xs).nf := by
  induction xs generalizing R with
  | nil => exact h
  | cons a r ih => exact ih (h.doA a)
/-- What f does to every disk that is like R, or has failed, are these acts. -/
def Does (f : Dk → Dk) (R : Dk) (xs : List (Option (Nat × List Nat))) : Prop := ∀ D, (D.failed = true ∨ Like D R) → f D = D.run xs
theorem Does.at {f : Dk → Dk} {R : Dk} {xs : List (Option (Nat × List Nat))} (h : Does f R xs) : f R = R.run xs := h R (.inr ⟨rfl, rfl⟩)
end Go.Proofs.YtlhohmlpcgbliabGreatDoor
namespace Go.Proofs.YtlhohmlpcgbliabGreatDoor
set_option maxRecDepth 100000
open Go.RowKit
attribute [local go_sem ↓] Go.wp_at_zero Go.wp_at_succ

/-- The disk with a script. -/
def Dk.script (D : Dk) (after keep : Int) : Dk := { D with set := true, left := after, keep := keep }
end Go.Proofs.YtlhohmlpcgbliabGreatDoor
namespace Go.Proofs.YtlhohmlpcgbliabGreatDoor
set_option maxRecDepth 100000
open Go.RowKit
attribute [local go_sem ↓] Go.wp_at_zero Go.wp_at_succ

/-- What holds ahead of a round: d of the entries are in y, in k groups. -/
structure AlkI (w0 : World) (cb : Nat) (ts : List ByteArray) (g : Nat → Nat) (T : Dk) (d k o c ay az : Nat) (wr : World) : Prop where
  dle : d ≤ ts.length
  kd : k ≤ d
  cap : ts.length - d ≤ c
  sa : SA wr cb o (ts.drop d)
  bel : Below w0.heap.size w0 wr
  ex : ∃ (yb bz : Nat) (fvy fvz : Value) (Dy Dz Dx : Dk) (Ez : List ByteArray), LogAt wr ay yb fvy (.slice none 0 0) Dy [] ∧ Holds Dy (ts.take d) ∧ Same Dx Dy ∧ groF g (ts.length - k) k Dx (ts.drop d) = T ∧ LogAt wr az bz fvz (.slice none 0 0) Dz [] ∧ Holds Dz Ez ∧ Ez.length ≤ k ∧ Dis ay yb fvy.ownBlock none az bz fvz.ownBlock none ∧ (∀ j, Own ay yb fvy.ownBlock none j → w0.heap.size ≤ j) ∧ (∀ j, Own az bz fvz.ownBlock none j → w0.heap.size ≤ j)
/-- As AlkI, and n more wait in y. -/
structure AlkJ (w0 : World) (cb : Nat) (ts : List ByteArray) (g : Nat → Nat) (T : Dk) (d k e n o c ay az : Nat) (wr : World) : Prop where
  n1 : 1 ≤ n
  n12 : n ≤ 12
  dle : d + n ≤ ts.length
  kd : k ≤ d
  cap : ts.length - d ≤ c
  siz : ∀ s ∈ ts, s.size ≤ 40
  l64 : ts.length ≤ 64
  sa : SA wr cb o (ts.drop d)
  cbl : cb < w0.heap.size
  bel : Below w0.heap.size w0 wr
  ex : ∃ (yb bz : Nat) (fvy wvy fvz : Value) (Dy Dz Dx : Dk) (Ez : List ByteArray), LogAt wr ay yb fvy wvy Dy ((ts.drop d).take n) ∧ Holds Dy (ts.take d) ∧ Same Dx Dy ∧ groF g (ts.length - (k + 1)) (k + 1) (Dx.add ((ts.drop d).take n)) (ts.drop (d + n)) = T ∧ LogAt wr az bz fvz (.slice none 0 0) Dz [] ∧ Holds Dz Ez ∧ Ez.length ≤ e ∧ Dis ay yb fvy.ownBlock wvy.ownBlock az bz fvz.ownBlock none ∧ (∀ j, Own ay yb fvy.ownBlock wvy.ownBlock j → w0.heap.size ≤ j) ∧ (∀ j, Own az bz fvz.ownBlock none j → w0.heap.size ≤ j)
/-- y's Flush. -/
theorem AlkJ.flush {w0 : World} {cb : Nat} {ts : List ByteArray} {g : Nat → Nat} {T : Dk} {d k n o c ay az : Nat} {wr : World} (h : AlkJ w0 cb ts g T d k (k + 1) n o c ay az wr) (ht : Table w0) (hg : 2 < w0.heap.size) :
    Calls Tryz.prog 64 #[.pointer (some ⟨ay, 0, none⟩)] wr fun e w' => ∃ m, e = .returned (.tuple #[.int .i64 m, .int .i64 0]) ∧ AlkI w0 cb ts g T (d + n) (k + 1) (if c = n then o else o + n) (c - n) ay az w' := by
  obtain ⟨yb, bz, fvy, wvy, fvz, Dy, Dz, Dx, Ez, hLy, hHy, hS, hT, hLz, hHz, hEz, hD, hoy, hoz⟩ := h.ex
  have hd := h.dle
  have h64 := h.l64
  have hn1 := h.n1
  have hn2 := h.n12
  have hkd := h.kd
  have hcap := h.cap
  have hlen : ((ts.drop d).take n).length = n := by rw [List.length_take, List.length_drop]; omega
  have hz : ∀ s ∈ (ts.drop d).take n, s.size ≤ 40 := fun s hs => h.siz s (List.mem_of_mem_drop (List.mem_of_mem_take hs))
  have hN := hHy.ckN
  rw [List.length_take, Nat.min_eq_left (by omega)] at hN
  have hfd : Dy.flushed ((ts.drop d).take n) = Dy.add ((ts.drop d).take n) := by
    unfold Dk.flushed
    rw [if_neg (by rw [hlen]; omega)]
  have hH4 := add_spec hHy (W := (ts.drop d).take n) (by rw [hlen]; omega) hz (by rw [hlen, List.length_take]; omega)
  rw [show ts.take d ++ (ts.drop d).take n = ts.take (d + n) from (List.take_add ..).symm] at hH4
  refine (logFlush_any hLy hHy.nf.failed hHy.jn hz (by rw [hlen, hN]; omega) (by rw [hHy.fre]; simp) (env_of ht hg h.bel (hoy _ (.inr (.inl rfl))) (fun j hj => hoy j (.inr (.inr (.inl hj))))) (by rw [hfd]; exact hH4.nf.failed)).mono ?_
  rintro e w' ⟨rfl, fv', hL', hR'⟩
  rw [hfd] at hL'
  obtain ⟨hb4, hf4, _⟩ := FrL.below h.bel hR' (hoy _ (.inl rfl)) (hoy _ (.inr (.inl rfl))) (fun j hj => hoy j (.inr (.inr (.inl hj)))) (fun j hj => hoy j (.inr (.inr (.inr hj))))
  refine ⟨_, rfl, ⟨hd, by omega, by omega, ?_, hb4, yb, bz, fv', fvz, _, Dz, _, Ez, hL', hH4, hS.add _, hT, hLz.other hR' hD.symm, hHz, hEz, hD.step hR' (fun j hj => hLz.lt j hj), ?_, hoz⟩⟩
  · by_cases hj : n < ts.length - d
    · rw [if_neg (by omega)]
      have h1 : SA w' cb o (ts.drop d) := fun i s hs => by
        have h9 := h.sa i s hs
        rw [hb4.cell (p := ⟨cb, o + i, none⟩) h.cbl, ← h.bel.cell (p := ⟨cb, o + i, none⟩) h.cbl]; exact h9
      have := h1.drop n
      rw [List.drop_drop] at this
      exact this
    · rw [List.drop_eq_nil_of_le (by omega)]
      intro i s hs
      simp at hs
  · intro j hj
    rcases hj with e | e | e | e
    · rw [e]; exact hoy _ (.inl rfl)
    · rw [e]; exact hoy _ (.inr (.inl rfl))
    · exact hf4 j e
    · cases e

end Go.Proofs.YtlhohmlpcgbliabGreatDoor
namespace Go.Proofs.YtlhohmlpcgbliabGreatDoor
set_option maxRecDepth 100000
open Go.RowKit
attribute [local go_sem ↓] Go.wp_at_zero Go.wp_at_succ

theorem AlkJ.below {w0 : World} {cb : Nat} {ts : List ByteArray} {g : Nat → Nat} {T : Dk} {d k e n o c ay az : Nat} {wr w' : World} (h : AlkJ w0 cb ts g T d k e n o c ay az wr) (hb : Below wr.heap.size wr w') : AlkJ w0 cb ts g T d k e n o c ay az w' := by
  obtain ⟨yb, bz, fvy, wvy, fvz, Dy, Dz, Dx, Ez, hLy, hHy, hS, hT, hLz, hHz, hEz, hD, hoy, hoz⟩ := h.ex
  exact ⟨h.n1, h.n12, h.dle, h.kd, h.cap, h.siz, h.l64, h.sa.below hb, h.cbl, h.bel.trans (hb.mono h.bel.size), yb, bz, fvy, wvy, fvz, Dy, Dz, Dx, Ez, hLy.below hb, hHy, hS, hT, hLz.below hb, hHz, hEz, hD, hoy, hoz⟩
/-- y's Submit. -/
theorem AlkI.submit {w0 : World} {cb : Nat} {ts : List ByteArray} {g : Nat → Nat} {T : Dk} {d k o c ay az : Nat} {wr : World} (h : AlkI w0 cb ts g T d k o c ay az wr) (hd : d < ts.length) {n : Nat} (hn : n = min (g k) (ts.length - d)) (hg1 : 1 ≤ g k) (hg12 : g k ≤ 12) (hsz : ∀ s ∈ ts, s.size ≤ 40) (h64 : ts.length ≤ 64) (hcb : cb < w0.heap.size) :
    Calls Tryz.prog 62 #[.pointer (some ⟨ay, 0, none⟩), .slice (some ⟨cb, o, none⟩) n c] wr fun e w' => e = .returned (.int .i64 0) ∧ AlkJ w0 cb ts g T d k k n o c ay az w' := by
  obtain ⟨yb, bz, fvy, fvz, Dy, Dz, Dx, Ez, hLy, hHy, hS, hT, hLz, hHz, hEz, hD, hoy, hoz⟩ := h.ex
  have hkd := h.kd
  have hlen : ((ts.drop d).take n).length = n := by rw [List.length_take, List.length_drop]; omega
  have hN := hHy.ckN
  rw [List.length_take, Nat.min_eq_left (by omega)] at hN
  have hs := submit_ok hLy hHy.nf.failed hHy.jn cb o c ((ts.drop d).take n) (h.sa.take _) (Nat.lt_of_lt_of_le hcb h.bel.size) (fun e => by have := hoy _ (.inl rfl); omega) (fun e => by have := hoy _ (.inr (.inl rfl)); omega) (fun e => by have := hoy _ (.inr (.inr (.inl e))); omega) (by simp [Value.ownBlock]) (fun s hs => hsz s (List.mem_of_mem_drop (List.mem_of_mem_take hs))) (by rw [hlen]; simp <;> omega) (by rw [hlen, hN]; simp; omega)
  rw [hlen, List.nil_append] at hs
  refine hs.mono ?_
  rintro e w' ⟨rfl, wv', hL', hR'⟩
  obtain ⟨hb4, hf4, hw4⟩ := FrL.below h.bel hR' (hoy _ (.inl rfl)) (hoy _ (.inr (.inl rfl))) (fun j hj => hoy j (.inr (.inr (.inl hj)))) (fun j hj => by simp [Value.ownBlock] at hj)
  refine ⟨rfl, ⟨by omega, by omega, by omega, hkd, h.cap, hsz, h64, ?_, hcb, hb4, yb, bz, fvy, wv', fvz, Dy, Dz, Dx, Ez, hL', hHy, hS, ?_, hLz.other hR' hD.symm, hHz, hEz, hD.step hR' (fun j hj => hLz.lt j hj), ?_, hoz⟩⟩
  · intro i s hi
    have h9 := h.sa i s hi
    rw [hb4.cell (p := ⟨cb, o + i, none⟩) hcb, ← h.bel.cell (p := ⟨cb, o + i, none⟩) hcb]; exact h9
  · rw [← groF_step hkd hd hn]; exact hT
  · intro j hj
    rcases hj with e | e | e | e
    · rw [e]; exact hoy _ (.inl rfl)
    · rw [e]; exact hoy _ (.inr (.inl rfl))
    · exact hf4 j e
    · exact hw4 j e
end Go.Proofs.YtlhohmlpcgbliabGreatDoor
namespace Go.Proofs.YtlhohmlpcgbliabGreatDoor
set_option maxRecDepth 100000
open Go.RowKit
attribute [local go_sem ↓] Go.wp_at_zero Go.wp_at_succ

theorem Dk.script_ok {D : Dk} (h : D.ok) (a k : Int) : (D.script a k).ok := ⟨h.las, h.sec, h.fre, h.few⟩
set_option maxHeartbeats 1000000 in
theorem diskFail_any (b : Nat) (after keep : Int) (fv : Value) (D : Dk) (w : World) (h : DiskAt w b fv D) :
    Calls Tryz.prog 103 #[.pointer (some ⟨b, 0, none⟩), .int .i64 after, .int .i64 keep] w fun e w' => e = .returned (.tuple #[]) ∧ DiskAt w' b fv (D.script after keep) ∧ Fr b fv.ownBlock fv.ownBlock w w' := by
  have h1 : DiskAt (w.setCell ⟨b, 25602, none⟩ (.bool true)) b fv { D with set := true } := h.put 2 (.bool true) fv { D with set := true } ⟨h.ok.las, h.ok.sec, h.ok.fre, h.ok.few⟩ rfl rfl rfl rfl
  have h2 : DiskAt ((w.setCell ⟨b, 25602, none⟩ (.bool true)).setCell ⟨b, 25603, none⟩ (.int .i64 after)) b fv { D with set := true, left := after } := h1.put 3 (.int .i64 after) fv { D with set := true, left := after } ⟨h.ok.las, h.ok.sec, h.ok.fre, h.ok.few⟩ rfl rfl rfl rfl
  have HD : Aside (DiskAt (((w.setCell ⟨b, 25602, none⟩ (.bool true)).setCell ⟨b, 25603, none⟩ (.int .i64 after)).setCell ⟨b, 25604, none⟩ (.int .i64 keep)) b fv (D.script after keep)) := h2.put 4 (.int .i64 keep) fv (D.script after keep) (Dk.script_ok h.ok _ _) rfl rfl rfl rfl
  have HF : Aside (Fr b fv.ownBlock fv.ownBlock w (((w.setCell ⟨b, 25602, none⟩ (.bool true)).setCell ⟨b, 25603, none⟩ (.int .i64 after)).setCell ⟨b, 25604, none⟩ (.int .i64 keep))) := ((Fr.setCell _ _ _ _ _ _ (.inr rfl)).trans (Fr.setCell _ _ _ _ _ _ (.inr rfl))).trans (Fr.setCell _ _ _ _ _ _ (.inr rfl))
  have c0 := h.cell 2
  have c1 := h1.cell 3
  have c2 := h2.cell 4
  have f0 := h.blk.frozen 25602
  have f1 := h1.blk.frozen 25603
  have f2 := h2.blk.frozen 25604
  simp only [List.getElem?_cons_succ, List.getElem?_cons_zero, Nat.reduceAdd] at c0 c1 c2
  clear h h1 h2
  go_enter Tryz.func103, Tryz.ntmps103
  go_wp2
  go_end0
  exact ⟨rfl, HD.out, HF.out⟩

set_option maxHeartbeats 1000000 in
theorem logFail_ok {w : World} {a b : Nat} {fv wv : Value} {D : Dk} {W : List ByteArray} (h : LogAt w a b fv wv D W) (hf : D.failed = false) (after : Nat) (keep : Int) : Calls Tryz.prog 76 #[.pointer (some ⟨a, 0, none⟩), .int .i64 (after : Int), .int .i64 keep] w fun e w' => e = .returned (.int .i64 0) ∧ LogAt w' a b fv wv (D.script (after : Int) keep) W ∧ FrL a b fv.ownBlock wv.ownBlock fv.ownBlock wv.ownBlock w w' := by
  have hc := h.blk.cell 0
  simp only [List.getElem?_cons_zero] at hc
  have hd := down_any h
  rw [hf] at hd
  have hp := diskFail_any b (after : Int) keep fv D w h.disk
  go_enter Tryz.func76, Tryz.ntmps76
  go_wp2_with fail
  refine hd.mono ?_
  rintro e w1 ⟨rfl, rfl⟩
  clear hf
  have hn : ¬ (after : Int) < 0 := by omega
  go_wp2_with fail
  refine hp.mono ?_
  rintro e w2 ⟨rfl, hd2, hr2⟩
  go_wp2
  go_ret
  exact ⟨rfl, h.fr hr2 hd2, FrL.of_fr hr2⟩

end Go.Proofs.YtlhohmlpcgbliabGreatDoor
namespace Go.Proofs.YtlhohmlpcgbliabGreatDoor
set_option maxRecDepth 100000
open Go.RowKit
attribute [local go_sem ↓] Go.wp_at_zero Go.wp_at_succ

/-- A log whose blocks are all newer than a world B, of which nothing has changed. -/
structure Lg (B w : World) (a : Nat) (D : Dk) (W : List ByteArray) : Prop where
  bel : Below B.heap.size B w
  ex : ∃ (b : Nat) (fv wv : Value), LogAt w a b fv wv D W ∧ ∀ j, Own a b fv.ownBlock wv.ownBlock j → B.heap.size ≤ j
theorem Lg.below {B w w' : World} {a : Nat} {D : Dk} {W : List ByteArray} (h : Lg B w a D W) (hb : Below w.heap.size w w') : Lg B w' a D W := by
  obtain ⟨b, fv, wv, hL, ho⟩ := h.ex
  exact ⟨h.bel.trans (hb.mono h.bel.size), b, fv, wv, hL.below hb, ho⟩
theorem Lg.submit {B w : World} {a : Nat} {D : Dk} (h : Lg B w a D []) (hf : D.failed = false) (hz1 : D.read 1 = zer) (x : ByteArray) (hx : x.size ≤ 40) (hn : D.ckN + 1 ≤ 64) :
    Calls Tryz.prog 62 #[.pointer (some ⟨a, 0, none⟩), .slice (some ⟨w.heap.size, 0, none⟩) 1 1] (w.alloc (.cells #[.string x] 9)) fun e w' => e = .returned (.int .i64 0) ∧ Lg B w' a D [x] := by
  have hal : Below w.heap.size w (w.alloc (.cells #[.string x] 9)) := (Below.refl _ _).alloc (Nat.le_refl _) _
  obtain ⟨b, fv, wv, hL, ho⟩ := h.ex
  have hlt := hL.lt
  have hB : Blk (w.alloc (.cells #[.string x] 9)) w.heap.size 9 [.string x] := Blk.new w 9 [.string x]
  have hS1 : SA (w.alloc (.cells #[.string x] 9)) w.heap.size 0 [x] := SA.of_blk (ss := [x]) hB
  have hs := submit_ok (hL.below hal) hf hz1 w.heap.size 0 1 [x] hS1 hB.lt (fun e => by have := hlt _ (.inl rfl); omega) (fun e => by have := hlt _ (.inr (.inl rfl)); omega) (fun e => by have := hlt _ (.inr (.inr (.inl e))); omega) (fun e => by have := hlt _ (.inr (.inr (.inr e))); omega) (fun s hs => by rw [List.mem_singleton.1 hs]; exact hx) (by simp) (by simp; omega)
  rw [List.nil_append] at hs
  refine hs.mono ?_
  rintro e w' ⟨rfl, wv', hL', hR'⟩
  obtain ⟨hb4, hf4, hw4⟩ := FrL.below (h.bel.trans (hal.mono h.bel.size)) hR' (ho _ (.inl rfl)) (ho _ (.inr (.inl rfl))) (fun j hj => ho j (.inr (.inr (.inl hj)))) (fun j hj => ho j (.inr (.inr (.inr hj))))
  refine ⟨rfl, hb4, b, fv, wv', hL', ?_⟩
  intro j hj
  rcases hj with e | e | e | e
  · rw [e]; exact ho _ (.inl rfl)
  · rw [e]; exact ho _ (.inr (.inl rfl))
  · exact hf4 j e
  · exact hw4 j e
theorem Lg.flush {B w : World} {a : Nat} {D : Dk} {W : List ByteArray} (h : Lg B w a D W) (hf : D.failed = false) (hz1 : D.read 1 = zer) (hz : ∀ s ∈ W, s.size ≤ 40) (hl : D.ckN + W.length ≤ 76) (hfe : D.fre = []) (h0 : 0 < W.length) (hok : (D.add W).failed = false) (ht : Table B) (hg : 2 < B.heap.size) :
    Calls Tryz.prog 64 #[.pointer (some ⟨a, 0, none⟩)] w fun e w' => e = .returned (.tuple #[.int .i64 ((D.add W).ckN : Int), .int .i64 0]) ∧ Lg B w' a (D.add W) [] := by
  obtain ⟨b, fv, wv, hL, ho⟩ := h.ex
  have hfd : D.flushed W = D.add W := by
    unfold Dk.flushed
    rw [if_neg (by omega)]
  have hs := logFlush_any hL hf hz1 hz hl (by rw [hfe]; simp) (env_of ht hg h.bel (ho _ (.inr (.inl rfl))) (fun j hj => ho j (.inr (.inr (.inl hj))))) (by rw [hfd]; exact hok)
  rw [hfd] at hs
  refine hs.mono ?_
  rintro e w' ⟨rfl, fv', hL', hR'⟩
  obtain ⟨hb4, hf4, _⟩ := FrL.below h.bel hR' (ho _ (.inl rfl)) (ho _ (.inr (.inl rfl))) (fun j hj => ho j (.inr (.inr (.inl hj)))) (fun j hj => ho j (.inr (.inr (.inr hj))))
  refine ⟨rfl, hb4, b, fv', _, hL', ?_⟩
  intro j hj
  rcases hj with e | e | e | e
  · rw [e]; exact ho _ (.inl rfl)
  · rw [e]; exact ho _ (.inr (.inl rfl))
  · exact hf4 j e
  · cases e
theorem Lg.acts {B w : World} {a : Nat} {D : Dk} {W : List ByteArray} (h : Lg B w a D W) : Calls Tryz.prog 61 #[.pointer (some ⟨a, 0, none⟩)] w fun e w' => e = .returned (.int .i64 D.acts) ∧ w' = w := by
  obtain ⟨b, fv, wv, hL, ho⟩ := h.ex
  exact logActs_any hL
theorem Lg.bytes {B w : World} {a : Nat} {D : Dk} {W : List ByteArray} (h : Lg B w a D W) : Calls Tryz.prog 74 #[.pointer (some ⟨a, 0, none⟩)] w fun e w' => e = .returned (.string (strOf D.las.flatten)) ∧ Lg B w' a D W := by
  obtain ⟨b, fv, wv, hL, ho⟩ := h.ex
  refine (logBytes_any hL).mono ?_
  rintro e w' ⟨rfl, hb⟩
  exact ⟨rfl, h.below hb⟩
theorem Lg.fail {B w : World} {a : Nat} {D : Dk} {W : List ByteArray} (h : Lg B w a D W) (hf : D.failed = false) (after : Nat) (keep : Int) : Calls Tryz.prog 76 #[.pointer (some ⟨a, 0, none⟩), .int .i64 (after : Int), .int .i64 keep] w fun e w' => e = .returned (.int .i64 0) ∧ Lg B w' a (D.script (after : Int) keep) W := by
  obtain ⟨b, fv, wv, hL, ho⟩ := h.ex
  refine (logFail_ok hL hf after keep).mono ?_
  rintro e w' ⟨rfl, hL', hR'⟩
  obtain ⟨hb4, hf4, hw4⟩ := FrL.below h.bel hR' (ho _ (.inl rfl)) (ho _ (.inr (.inl rfl))) (fun j hj => ho j (.inr (.inr (.inl hj)))) (fun j hj => ho j (.inr (.inr (.inr hj))))
  exact ⟨rfl, hb4, b, fv, wv, hL', ho⟩

end Go.Proofs.YtlhohmlpcgbliabGreatDoor
namespace Go.Proofs.YtlhohmlpcgbliabGreatDoor
set_option maxRecDepth 100000
open Go.RowKit
attribute [local go_sem ↓] Go.wp_at_zero Go.wp_at_succ

end Go.Proofs.YtlhohmlpcgbliabGreatDoor
namespace Go.Proofs.YtlhohmlpcgbliabGreatDoor
set_option maxRecDepth 100000
open Go.RowKit
attribute [local go_sem ↓] Go.wp_at_zero Go.wp_at_succ

set_option maxHeartbeats 2000000 in
theorem enP3_wp {c1 c2 c4 c5 c6 c7 c8 c9 c10 c11 c12 c13 c14 c15 c16 c17 c18 c19 c20 c21 c22 c23 c24 c25 c26 c27 c28 c29 c30 c31 c32 c33 c34 c35 c36 c37 c38 c39 c40 c41 c42 : Value} (b jb cc f : Nat) (p : Option Addr) (ss : List ByteArray) (fv : Value) (D : Dk) (w : World) (Q : Exit → Act → World → Prop) (h : DiskAt w b fv D) (hj : Blk w jb 144 [.int .i64 (f : Int), .slice p ss.length cc]) (hjb : jb ≠ b) (hjf : fv.ownBlock ≠ some jb)
    (hS : Strs w (.slice p ss.length cc) ss) (hz : ∀ s ∈ ss, s.size ≤ 40) (hl : ss.length ≤ 76) (hf : f ≤ 76) (hfe : D.fre.length < 900000)
    (hQ : ∀ (u15 u16 u17 u18 u19 u20 u21 u22 : Value) (fv' : Value) (w' : World), DiskAt w' b fv' (D.rowWrite 6 3 f (packs ss)) → Fr b fv.ownBlock fv'.ownBlock w w' → Q .normal ⟨#[.pointer (some ⟨b, 0, none⟩), c1, c2, .pointer (some ⟨jb, 0, none⟩), c4, c5, c6, c7, c8, c9, c10, c11, c12, c13, c14, u15, u16, u17, u18, u19, u20, u21, u22, c23, c24, c25, c26, c27, c28, c29, c30, c31, c32, c33, c34, c35, c36, c37, c38, c39, c40, c41, c42], []⟩ w') :
    Code.wp Tryz.prog (rgn Tryz.f112 3) Q ⟨#[.pointer (some ⟨b, 0, none⟩), c1, c2, .pointer (some ⟨jb, 0, none⟩), c4, c5, c6, c7, c8, c9, c10, c11, c12, c13, c14, c15, c16, c17, c18, c19, c20, c21, c22, c23, c24, c25, c26, c27, c28, c29, c30, c31, c32, c33, c34, c35, c36, c37, c38, c39, c40, c41, c42], []⟩ w := by
  have hjc : w.cell? ⟨jb, 0, none⟩ = some (.int .i64 (f : Int)) ∧ w.cell? ⟨jb, 1, none⟩ = some (.slice p ss.length cc) := ⟨by rw [hj.cell]; rfl, by rw [hj.cell]; rfl⟩
  have hS0 : (fun wx : World => wx.cell? ⟨jb, 0, none⟩ = some (.int .i64 (f : Int)) ∧ wx.cell? ⟨jb, 1, none⟩ = some (.slice p ss.length cc)) w.drew := hjc
  have hltj := hj.lt
  have hSb : ∀ wx, Below w.heap.size w wx → wx.cell? ⟨jb, 0, none⟩ = some (.int .i64 (f : Int)) ∧ wx.cell? ⟨jb, 1, none⟩ = some (.slice p ss.length cc) := fun wx hx => ⟨by rw [hx.cell (p := ⟨jb, 0, none⟩) hltj]; exact hjc.1, by rw [hx.cell (p := ⟨jb, 1, none⟩) hltj]; exact hjc.2⟩
  conv => arg 2; whnf
  refine wp_region_s (fun wx : World => wx.cell? ⟨jb, 0, none⟩ = some (.int .i64 (f : Int)) ∧ wx.cell? ⟨jb, 1, none⟩ = some (.slice p ss.length cc)) (by kernel_rfl) ?_
  refine wpS_pure (k := 1) (v := .pointer (some ⟨b, 0, none⟩)) (by rfl) (by kernel_rfl) (by kernel_rfl) (by kernel_rfl) (by rfl) (some 16) (by rfl) hS0 (fun _ _ => by kernel_rfl) ?_
  simp only [Act.put, List.setIfInBounds_toArray, List.set_cons_succ, List.set_cons_zero]
  refine wpS_pure (k := 2) (v := .pointer (some ⟨jb, 0, none⟩)) (by rfl) (by kernel_rfl) (by kernel_rfl) (by kernel_rfl) (by rfl) (some 17) (by rfl) hS0 (fun _ _ => by kernel_rfl) ?_
  simp only [Act.put, List.setIfInBounds_toArray, List.set_cons_succ, List.set_cons_zero]
  refine wpS_pure (k := 3) (v := .int .i64 (f : Int)) (by rfl) (by kernel_rfl) (by kernel_rfl) (by kernel_rfl) (by rfl) (some 18) (by rfl) hS0 (fun wx hx => exec_ld (by rfl) (by rfl) (loadInt wx jb 0 _ hx.1)) ?_
  simp only [Act.put, List.setIfInBounds_toArray, List.set_cons_succ, List.set_cons_zero]
  refine wpS_pure (k := 4) (v := .pointer (some ⟨jb, 1, none⟩)) (by rfl) (by kernel_rfl) (by kernel_rfl) (by kernel_rfl) (by rfl) (some 19) (by rfl) hS0 (fun _ _ => by kernel_rfl) ?_
  simp only [Act.put, List.setIfInBounds_toArray, List.set_cons_succ, List.set_cons_zero]
  refine wpS_pure (k := 5) (v := .slice p ss.length cc) (by rfl) (by kernel_rfl) (by kernel_rfl) (by kernel_rfl) (by rfl) (some 20) (by rfl) hS0 (fun wx hx => exec_ld (by rfl) (by rfl) (loadStrs wx jb 1 _ _ _ hx.2)) ?_
  simp only [Act.put, List.setIfInBounds_toArray, List.set_cons_succ, List.set_cons_zero]
  have hb0 : Below w.heap.size w w.drew := (Below.refl w.heap.size w).drew
  refine wpS_one (i := 0) (by kernel_rfl) (opS_call (f := 96) (vs := #[]) (by rfl) (by rfl) (some 15) (by rfl) (by kernel_rfl) ((bundles_any w.drew).mono ?_))
  rintro e w1 ⟨rfl, hb1⟩
  have hw1 : Below w.heap.size w w1 := hb0.trans hb1
  refine ⟨_, rfl, hSb w1 hw1, ?_⟩
  simp only [Act.put, List.setIfInBounds_toArray, List.set_cons_succ, List.set_cons_zero]
  refine wpS_one (i := 6) (by kernel_rfl) (opS_call (f := 126) (vs := #[.slice p ss.length cc]) (by rfl) (by rfl) (some 21) (by rfl) (by kernel_rfl) ((packed_any _ ss w1 (hS.below hw1) (by omega) hz).mono ?_))
  rintro e w2 ⟨rfl, hB2, hb2⟩
  have hw2 := hw1.trans (hb2.mono hw1.size)
  refine ⟨_, rfl, hSb w2 hw2, ?_⟩
  simp only [Act.put, List.setIfInBounds_toArray, List.set_cons_succ, List.set_cons_zero]
  have hdl := h.lt
  have hsz1 := hw1.size
  have hown : fv.ownBlock ≠ some w1.heap.size := fun e => by have := (h.row.lt _ e).2; omega
  have hrw := rowWrite3_any b w1.heap.size 0 ss.length 6 f fv D (ss.map packS) w2 (h.below hw2) (SA.of_blk hB2) hB2.lt (by omega) hown (fun s hs => by
    obtain ⟨x, hx, rfl⟩ := List.mem_map.1 hs
    have := packS_size (hz x hx)
    omega) (by simp) (by simp; omega) (by simp; omega) (by simp; omega)
  rw [List.length_map] at hrw
  refine wpS_one (i := 7) (by kernel_rfl) (opS_call (f := 125) (vs := #[rowV 6 3, .pointer (some ⟨b, 0, none⟩), .int .i64 (f : Int), .slice (some ⟨w1.heap.size, 0, none⟩) ss.length ss.length]) (by rfl) (by rfl) (some 22) (by rfl) (by kernel_rfl) (hrw.mono ?_))
  rintro e w3 ⟨rfl, fv3, h3, r3⟩
  have hjl2 : jb < w2.heap.size := Nat.lt_of_lt_of_le hltj hw2.size
  have hS3 := hSb w2 hw2
  refine ⟨_, rfl, ⟨by rw [World.cell?_of_block (a := ⟨jb, 0, none⟩) (r3.block jb hjl2 hjb hjf)]; exact hS3.1, by rw [World.cell?_of_block (a := ⟨jb, 1, none⟩) (r3.block jb hjl2 hjb hjf)]; exact hS3.2⟩, ?_⟩
  simp only [Act.put, List.setIfInBounds_toArray, List.set_cons_succ, List.set_cons_zero]
  refine wpAnyH_done (by kernel_rfl) ?_ _
  refine NoPanic.normal ?_
  exact hQ _ _ _ _ _ _ _ _ fv3 w3 h3 ((Fr.of_below hw2).trans r3)

set_option maxHeartbeats 4000000 in
theorem endP_any (b cc f : Nat) (p : Option Addr) (ss : List ByteArray) (fv : Value) (D : Dk) (w : World) (h : DiskAt w b fv D) (hS : Strs w (.slice p ss.length cc) ss) (hz : ∀ s ∈ ss, s.size ≤ 40) (hl : f + ss.length ≤ 76) (hfe : D.fre.length < 800000) (he : Env w b fv.ownBlock) :
    Calls Tryz.prog 112 #[.pointer (some ⟨b, 0, none⟩), jV f p ss.length cc] w fun e w' => e = .returned (.tuple #[]) ∧ ∃ fv', DiskAt w' b fv' (D.endJ f ss) ∧ Fr b fv.ownBlock fv'.ownBlock w w' := by
  have hb0 : Below w.heap.size w (w.alloc (.cells #[.int .i64 (f : Int), .slice p ss.length cc] 144)) := (Below.refl _ _).alloc (Nat.le_refl _) _
  have hJ0 : Blk (w.alloc (.cells #[.int .i64 (f : Int), .slice p ss.length cc] 144)) w.heap.size 144 [.int .i64 (f : Int), .slice p ss.length cc] := Blk.new w _ _
  have hlt := h.lt
  have hown := h.own_lt
  have h0 := h.below hb0
  have hS0 := hS.below hb0
  have he0 := he.below hb0
  have HE : Hid (D.endJ f ss = if D.ckN = f then ((D.put f ss).ckp (f + ss.length)).rmJ else D.rmJ) := rfl
  have hrl := rowWrite_len D 6 3 f (packs ss)
  rw [packs_len] at hrl
  have hgl := grwF_len (f + ss.length) (D.rowWrite 6 3 f (packs ss)) f (f + ss.length) 0 1 hl
  have HGR : Hid ((D.rowWrite 6 3 f (packs ss)).grow f (f + ss.length) = grwF (f + ss.length) (D.rowWrite 6 3 f (packs ss)) f (f + ss.length) 0 1) := rfl
  rw [← HGR.out] at hgl
  have hfl := ((D.rowWrite 6 3 f (packs ss)).grow f (f + ss.length)).flush_len
  have HP : Hid (D.put f ss = ((D.rowWrite 6 3 f (packs ss)).grow f (f + ss.length)).flush) := rfl
  have hck := readCheckpoint_any b fv D _ h0
  unfold jV
  go_enter Tryz.func112, Tryz.ntmps112
  go_wp2_with fail
  have hs0 : w.heap.size < (w.alloc (.cells #[.int .i64 (f : Int), .slice p ss.length cc] 144)).heap.size := by simp
  generalize w.alloc (.cells #[.int .i64 (f : Int), .slice p ss.length cc] 144) = w0 at *
  refine hck.mono ?_
  rintro e w1 ⟨rfl, hb1⟩
  clear hck
  have h1 := h0.below hb1
  have hJ1 := hJ0.below hb1 hJ0.lt
  have hS1 := hS0.below hb1
  have he1 := he0.below hb1
  have hs1 : w.heap.size < w1.heap.size := Nat.lt_of_lt_of_le hs0 hb1.size
  have r01 : Fr b fv.ownBlock fv.ownBlock w w1 := (Fr.of_below hb0).trans (Fr.of_below hb1)
  have hc0 := hJ1.cell 0
  have hc1 := hJ1.cell 1
  simp only [List.getElem?_cons_succ, List.getElem?_cons_zero] at hc0 hc1
  generalize strOf D.ckR = rt at *
  by_cases hq : D.ckN = f
  · rw [if_pos hq] at HE
    rw [hq]
    clear hq
    go_wp2_with fail
    refine enP3_wp b w.heap.size cc f p ss fv D w1 _ h1 hJ1 (by omega) hown hS1 hz (by omega) (by omega) (by omega) ?_
    intro u15 u16 u17 u18 u19 u20 u21 u22 fv2 w2 h2 r2
    generalize D.rowWrite 6 3 f (packs ss) = D2 at *
    have hJ2 := r2.blk hJ1 (by omega) hown
    have hown2 := r2.apart hs1 hown
    have he2 := he1.fr r2
    have hs2 : w.heap.size < w2.heap.size := Nat.lt_of_lt_of_le hs1 r2.size
    have R2 := r01.trans r2
    clear hJ1 hc0 hc1 h1 hS1 he1
    have hc0 := hJ2.cell 0
    have hc1 := hJ2.cell 1
    simp only [List.getElem?_cons_succ, List.getElem?_cons_zero] at hc0 hc1
    have hgt := growTiles_any b f (f + ss.length) fv2 D2 w2 h2 (by omega) hl (by omega) he2
    have hn9 : f + ss.length < 256 := by omega
    have hcn : ((f + ss.length : Nat) : Int) = (f : Int) + (ss.length : Int) := Int.natCast_add _ _
    generalize f + ss.length = n at *
    rw [hcn] at hgt
    go_wp2_with fail
    refine hgt.mono ?_
    rintro e w3 ⟨rfl, fv3, h3, r3⟩
    have he3 := he2.fr r3
    generalize D2.grow f n = D3 at *
    go_wp2_with fail
    refine (flush_any b fv3 D3 w3 h3).mono ?_
    rintro e w4 ⟨rfl, fv4, h4, r4⟩
    have he4 := he3.fr r4
    rw [← HP.out] at h4 hfl
    generalize D.put f ss = D4 at *
    have hsp := span_any b 0 n fv4 D4 w4 h4 (by omega) he4.table he4.lt
    rw [Nat.zero_add, hcn] at hsp
    have hss := span_size h4.ok 0 n (by omega)
    have HC : Hid (D4.ckp n = (D4.write 0 (ckSec n (bts (D4.span 0 n)))).flush) := rfl
    have hwc := fun wx (hx : Below w4.heap.size w4 wx) => writeCheckpoint_any b n (D4.span 0 n) fv4 D4 wx (h4.below hx) (by omega) (by omega) (by omega)
    rw [hcn] at hwc
    have hwl := Dk.write_len D4 0 (ckSec n (bts (D4.span 0 n)))
    have hwf := (D4.write 0 (ckSec n (bts (D4.span 0 n)))).flush_len
    rw [← HC.out] at hwf
    go_wp2_with fail
    refine hsp.mono ?_
    rintro e w5 ⟨rfl, hb5⟩
    go_wp2_with fail
    refine (hwc w5 hb5).mono ?_
    rintro e w6 ⟨rfl, fv6, h6, r6⟩
    rw [← HC.out] at h6
    generalize D4.ckp n = D6 at *
    go_wp2_with fail
    refine (removeJournal_any b fv6 D6 w6 h6 (by omega)).mono ?_
    rintro e w7 ⟨rfl, fv7, h7, r7⟩
    go_wp2
    go_end0
    exact ⟨rfl, fv7, by rw [HE.out]; exact h7, ((((R2.trans r3).trans r4).trans (Fr.of_below hb5)).trans r6).trans r7⟩
  · rw [if_neg hq] at HE
    have hq' : ¬ (D.ckN : Int) = (f : Int) := by omega
    generalize D.ckN = k at *
    go_wp2_with fail
    refine (removeJournal_any b fv D w1 h1 (by omega)).mono ?_
    rintro e w7 ⟨rfl, fv7, h7, r7⟩
    go_wp2
    go_end0
    exact ⟨rfl, fv7, by rw [HE.out]; exact h7, r01.trans r7⟩
end Go.Proofs.YtlhohmlpcgbliabGreatDoor
namespace Go.Proofs.YtlhohmlpcgbliabGreatDoor
set_option maxRecDepth 100000
open Go.RowKit
attribute [local go_sem ↓] Go.wp_at_zero Go.wp_at_succ

theorem jE_len (D : Dk) (n : Nat) : (D.jE n).length ≤ 12 := jents_len D n 12 0
theorem jE_siz {D : Dk} (h : D.ok) (n : Nat) : ∀ s ∈ D.jE n, s.size ≤ 40 := jents_siz h n 12 0 (by omega)
theorem Row.strs {w : World} {base : Nat} {v : Value} {ts : List ByteArray} (h : Row w base 9 v (strv ts)) : Strs w v ts := by
  by_cases h0 : ts.length = 0
  · obtain ⟨p, cap, rfl⟩ := row_slice h
    refine ⟨p, cap, rfl, fun i s hs => ?_⟩
    rw [List.eq_nil_of_length_eq_zero h0] at hs
    simp at hs
  · obtain ⟨g, cap, rfl, _, hcap, _, _, hlt, _⟩ := Row.form h (by rw [strv_length]; omega)
    have hsa := SA.of_row h (by omega)
    exact ⟨_, cap, by rw [strv_length], fun i s hs => ⟨g, 0, rfl, hsa i s hs⟩⟩

/-- The disk behind Recover. -/
def Dk.recv (D : Dk) : Dk := if D.read 1 = zer then D else D.endJ D.jF (D.jE D.jN)

set_option maxHeartbeats 2000000 in
theorem storeRecover_any (b : Nat) (fv : Value) (D : Dk) (w : World) (h : DiskAt w b fv D) (hl : D.jF + (D.jE D.jN).length ≤ 76) (hfe : D.fre.length < 800000) (he : Env w b fv.ownBlock) :
    Calls Tryz.prog 101 #[stV b] w fun e w' => e = .returned (.tuple #[]) ∧ ∃ fv', DiskAt w' b fv' D.recv ∧ Fr b fv.ownBlock fv'.ownBlock w w' := by
  have hb0 : Below w.heap.size w (w.alloc (.cells #[.pointer (some ⟨b, 0, none⟩)] 60)) := (Below.refl _ _).alloc (Nat.le_refl _) _
  have hB0 : Blk (w.alloc (.cells #[.pointer (some ⟨b, 0, none⟩)] 60)) w.heap.size 60 [.pointer (some ⟨b, 0, none⟩)] := Blk.new w _ _
  have hc := hB0.cell 0
  simp only [List.getElem?_cons_zero] at hc
  have hs0 : w.heap.size < (w.alloc (.cells #[.pointer (some ⟨b, 0, none⟩)] 60)).heap.size := by simp
  have h0 := h.below hb0
  have he0 := he.below hb0
  unfold stV
  by_cases hz : D.read 1 = zer
  · have HR : Aside (D.recv = D) := if_pos hz
    have hrj := readJournal_none b fv D _ h0 hz
    clear hz
    go_enter Tryz.func101, Tryz.ntmps101
    go_wp2_with fail
    generalize w.alloc (.cells #[.pointer (some ⟨b, 0, none⟩)] 60) = w0 at *
    refine hrj.mono ?_
    rintro e w1 ⟨rfl, hb1⟩
    have hb1' := hb0.trans (hb1.mono hb0.size)
    have hb2 : Below w.heap.size w (w1.alloc (.cells #[.int .i64 0, .slice none 0 0] 144)) := hb1'.alloc hb1'.size _
    have hd2 := (h0.below hb1).alloc (.cells #[.int .i64 0, .slice none 0 0] 144)
    clear hrj hc
    go_wp2
    go_end0
    exact ⟨rfl, fv, by rw [HR.out]; exact hd2, Fr.of_below hb2⟩
  · have HR : Aside (D.recv = D.endJ D.jF (D.jE D.jN)) := if_neg hz
    have hrj := readJournal_some b fv D _ h0 hz
    have hsz := jE_siz h.ok D.jN
    have hen := fun (cc : Nat) (p : Option Addr) (wx : World) (hx : Below (w.alloc (.cells #[.pointer (some ⟨b, 0, none⟩)] 60)).heap.size (w.alloc (.cells #[.pointer (some ⟨b, 0, none⟩)] 60)) wx) (hS : Strs wx (.slice p (D.jE D.jN).length cc) (D.jE D.jN)) => endP_any b cc D.jF p (D.jE D.jN) fv D wx (h0.below hx) hS hsz hl hfe (he0.below hx)
    clear hz hl hfe h he h0 he0 hsz
    generalize D.endJ D.jF (D.jE D.jN) = RR at *
    generalize D.jE D.jN = JE at *
    generalize D.jF = f at *
    go_enter Tryz.func101, Tryz.ntmps101
    go_wp2_with fail
    generalize w.alloc (.cells #[.pointer (some ⟨b, 0, none⟩)] 60) = w0 at *
    refine hrj.mono ?_
    rintro e w1 ⟨v, rfl, hrow, hb1⟩
    clear hrj hc
    obtain ⟨p, cap, rfl⟩ := row_slice hrow
    have hb2 : Below w0.heap.size w0 (w1.alloc (.cells #[.int .i64 (f : Int), .slice p JE.length cap] 144)) := hb1.alloc hb1.size _
    have hJ2 : Blk (w1.alloc (.cells #[.int .i64 (f : Int), .slice p JE.length cap] 144)) w1.heap.size 144 [.int .i64 (f : Int), .slice p JE.length cap] := Blk.new w1 _ _
    have hst : Strs (w1.alloc (.cells #[.int .i64 (f : Int), .slice p JE.length cap] 144)) (.slice p JE.length cap) JE := hrow.strs.below ((Below.refl _ _).alloc (Nat.le_refl _) _)
    have hB2 := hB0.below hb2 hs0
    have hen2 := hen cap p _ hb2 hst
    unfold jV at hen2
    clear hen hst hrow
    have hc0 := hB2.cell 0
    have hj0 := hJ2.cell 0
    have hj1 := hJ2.cell 1
    simp only [List.getElem?_cons_zero, List.getElem?_cons_succ] at hc0 hj0 hj1
    have HB2 : Aside (Below w.heap.size w (w1.alloc (.cells #[.int .i64 (f : Int), .slice p JE.length cap] 144))) := hb0.trans (hb2.mono hb0.size)
    go_wp2_with fail
    generalize w1.alloc (.cells #[.int .i64 (f : Int), .slice p JE.length cap] 144) = w2 at *
    refine hen2.mono ?_
    rintro e w3 ⟨rfl, fv3, h3, r3⟩
    clear hen2
    go_wp2
    go_end0
    exact ⟨rfl, fv3, by rw [HR.out]; exact h3, (Fr.of_below HB2.out).trans r3⟩

set_option maxHeartbeats 1000000 in
theorem logRecover_any {w : World} {a b : Nat} {fv wv : Value} {D : Dk} {W : List ByteArray} (h : LogAt w a b fv wv D W) (hf : D.failed = false) (hl : D.jF + (D.jE D.jN).length ≤ 76) (hfe : D.fre.length < 800000) (he : Env w b fv.ownBlock) :
    Calls Tryz.prog 73 #[.pointer (some ⟨a, 0, none⟩)] w fun e w' => ∃ c : Int, e = .returned (.int .i64 c) ∧ ((D.recv.failed = true ∧ c = 3) ∨ (D.recv.failed = false ∧ c = 0)) ∧ ∃ fv', LogAt w' a b fv' wv D.recv W ∧ FrL a b fv.ownBlock wv.ownBlock fv'.ownBlock wv.ownBlock w w' := by
  have hc := h.blk.cell 0
  simp only [List.getElem?_cons_zero] at hc
  have hd := down_any h
  rw [hf] at hd
  have hp := storeRecover_any b fv D w h.disk hl hfe he
  unfold stV at hp
  clear hl hfe he hf
  generalize D.recv = R at *
  go_enter Tryz.func73, Tryz.ntmps73
  go_wp2_with fail
  refine hd.mono ?_
  rintro e w1 ⟨rfl, rfl⟩
  go_wp2_with fail
  refine hp.mono ?_
  rintro e w2 ⟨rfl, fv2, hd2, hr2⟩
  have h2 := h.fr hr2 hd2
  have hdn := down_any h2
  clear hp hd hc
  go_wp2_with fail
  refine hdn.mono ?_
  rintro e w3 ⟨rfl, rfl⟩
  clear hdn
  have H2 : Aside (LogAt w3 a b fv2 wv R W ∧ FrL a b fv.ownBlock wv.ownBlock fv2.ownBlock wv.ownBlock w1 w3) := ⟨h2, FrL.of_fr hr2⟩
  clear h2 hd2 hr2
  generalize hrf : R.failed = rf at *
  have HF : Aside (R.failed = rf) := hrf
  clear hrf
  cases rf with
  | true =>
    go_wp2
    go_ret
    exact ⟨3, rfl, .inl ⟨by trivial, rfl⟩, fv2, H2.out⟩
  | false =>
    go_wp2
    go_ret
    exact ⟨0, rfl, .inr ⟨by trivial, rfl⟩, fv2, H2.out⟩
end Go.Proofs.YtlhohmlpcgbliabGreatDoor
