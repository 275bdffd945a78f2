import Derived.Test.YtlhohmlpcgbliaaDoorZO3
import Derived.Test.YtlhohmlpcgbliaaDoorZL2
import Derived.Test.YtlhohmlpcgbliaaDoorZL3
namespace Go.Proofs.YtlhohmlpcgbliaaDoor
set_option maxRecDepth 100000
open Go.RowKit
attribute [local go_sem ↓] Go.wp_at_zero Go.wp_at_succ

set_option maxHeartbeats 2000000 in
theorem storeOpen_ok (s : ByteArray) (E : List ByteArray) (w : World) (hs : s.size = 25600) (hH : Holds (Dk.of (bts s)) E) (ht : Table w) (hg : 2 < w.heap.size) :
    Calls Tryd.prog 83 #[.string s] w fun e w' => ∃ b, e = .returned (.tuple #[.agg #[.pointer (some ⟨b, 0, none⟩)], .bool true]) ∧ w.heap.size ≤ b ∧ DiskAt w' b (.slice none 0 0) (Dk.of (bts s)) ∧ Below w.heap.size w w' := by
  have hb0 : Below w.heap.size w (w.alloc (.cells #[.pointer none] 97)) := (Below.refl _ _).alloc (Nat.le_refl _) _
  have hB0 : Blk (w.alloc (.cells #[.pointer none] 97)) w.heap.size 97 [.pointer none] := Blk.new w _ _
  have hop := open_any s (w.alloc (.cells #[.pointer none] 97)) hs
  have HT : Aside (Table w ∧ 2 < w.heap.size ∧ Holds (Dk.of (bts s)) E) := ⟨ht, hg, hH⟩
  clear ht hg hH hs
  generalize Dk.of (bts s) = D at *
  go_enter Tryd.func83, Tryd.ntmps83
  go_wp2_with fail
  have hs0 : w.heap.size < (w.alloc (.cells #[.pointer none] 97)).heap.size := by simp
  generalize w.alloc (.cells #[.pointer none] 97) = w0 at *
  refine hop.mono ?_
  rintro e w1 ⟨rfl, hd1, hb1⟩
  clear hop
  have hw1 : Below w.heap.size w w1 := hb0.trans (hb1.mono hb0.size)
  have hB1 := hB0.below hb1 hs0
  have hso := sound_ok w0.heap.size _ D E w1 hd1 HT.out.2.2 (table_at hw1 HT.out.2.1 HT.out.1) (Nat.lt_of_lt_of_le HT.out.2.1 hw1.size)
  go_wp2_with fail
  refine hso.mono ?_
  rintro e w2 ⟨rfl, hb2⟩
  clear hso
  have hw2 := hw1.trans (hb2.mono hw1.size)
  have hB2 := hB1.below hb2 hB1.lt
  have hd2 := hd1.below hb2
  have hc0 := hB2.cell 0
  have hf0 := hB2.frozen 0
  simp only [List.getElem?_cons_zero] at hc0
  have HB := hB2.set 0 (.pointer (some ⟨w0.heap.size, 0, none⟩))
  simp only [List.set_cons_zero] at HB
  have Hb : Below w.heap.size w (w2.setCell ⟨w.heap.size, 0, none⟩ (.pointer (some ⟨w0.heap.size, 0, none⟩))) := hw2.setCell (Nat.le_refl _) _
  have hd6 : DiskAt (w2.setCell ⟨w.heap.size, 0, none⟩ (.pointer (some ⟨w0.heap.size, 0, none⟩))) w0.heap.size (.slice none 0 0) D := ⟨hd2.ok, hd2.blk.set_other _ _ (by simp only; omega), ownsRow_setCell_other hd2.row (by simp [Value.ownBlock]) _, hd2.apart⟩
  go_wp2_with fail
  exact bodyPost_ret (results_ct Tryd.results83 (by rfl) (by rfl) HB.range Tryd.underlying97 rfl infoSto) rfl ⟨w0.heap.size, rfl, by omega, hd6, Hb⟩

set_option maxHeartbeats 2000000 in
theorem groveOpen_ok (s : ByteArray) (E : List ByteArray) (w : World) (hs : s.size = 25600) (hH : Holds (Dk.of (bts s)) E) (ht : Table w) (hg : 2 < w.heap.size) :
    Calls Tryd.prog 56 #[.string s] w fun e w' => ∃ a b, e = .returned (.tuple #[.pointer (some ⟨a, 0, none⟩), .int .i64 0]) ∧ w.heap.size ≤ a ∧ w.heap.size ≤ b ∧ LogAt w' a b (.slice none 0 0) (.slice none 0 0) (Dk.of (bts s)) [] ∧ Below w.heap.size w w' := by
  have hop := fun wx (hx : Below w.heap.size w wx) => storeOpen_ok s E wx hs hH (table_at hx hg ht) (Nat.lt_of_lt_of_le hg hx.size)
  clear ht hg hH hs
  generalize Dk.of (bts s) = D at *
  have hop0 := hop w (Below.refl _ _)
  clear hop
  go_enter Tryd.func56, Tryd.ntmps56
  go_wp2_with fail
  refine hop0.mono ?_
  rintro e w1 ⟨b, rfl, hb, hd1, hb1⟩
  clear hop0
  have hb2 : Below w.heap.size w (w1.alloc (.cells #[.pointer (some ⟨b, 0, none⟩)] 97)) := hb1.alloc hb1.size _
  have hB2 : Blk (w1.alloc (.cells #[.pointer (some ⟨b, 0, none⟩)] 97)) w1.heap.size 97 [.pointer (some ⟨b, 0, none⟩)] := Blk.new w1 _ _
  have hc2 := hB2.cell 0
  simp only [List.getElem?_cons_zero] at hc2
  have hd3 := (hd1.alloc (.cells #[.pointer (some ⟨b, 0, none⟩)] 97)).alloc (.cells #[.pointer (some ⟨b, 0, none⟩), .slice none 0 0] 99)
  have hA : Blk ((w1.alloc (.cells #[.pointer (some ⟨b, 0, none⟩)] 97)).alloc (.cells #[.pointer (some ⟨b, 0, none⟩), .slice none 0 0] 99)) (w1.heap.size + 1) 99 [.pointer (some ⟨b, 0, none⟩), .slice none 0 0] := by
    have := Blk.new (w1.alloc (.cells #[.pointer (some ⟨b, 0, none⟩)] 97)) 99 [.pointer (some ⟨b, 0, none⟩), .slice none 0 0]
    rw [show (w1.alloc (.cells #[.pointer (some ⟨b, 0, none⟩)] 97)).heap.size = w1.heap.size + 1 by simp] at this
    exact this
  have hlt := hd1.lt
  have hs1 := hb1.size
  go_wp2
  go_ret2
  exact ⟨w1.heap.size + 1, b, rfl, by omega, hb, ⟨hd3, hA, World.ownsRow_nil _ _ _ _, by omega, by simp [Value.ownBlock], by simp [Value.ownBlock], by simp [Value.ownBlock], fun k hk => by simp [Value.ownBlock] at hk⟩, hb2.alloc hb2.size _⟩

theorem bytes_range (w : World) (s : ByteArray) : (Lib.bytesWorld w 5 s).rangeAt w.heap.size 0 (u8s (bts s)) := by
  intro j v hv
  have hj : j < s.size := by
    have := (List.getElem?_eq_some_iff.1 hv).1
    rwa [u8s_length, bts_length] at this
  have h1 := u8s_get (bts s) j (by rw [bts_length]; exact hj)
  rw [h1] at hv
  injection hv with hv
  subst hv
  rw [Nat.zero_add, Lib.bytesWorld_cell _ _ _ _ hj]
  simp [bts, List.getD_eq_getElem?_getD, hj]

set_option maxHeartbeats 2000000 in
theorem copied_ok {w : World} {a b : Nat} {fv wv : Value} {D : Dk} {W : List ByteArray} {E : List ByteArray} (h : LogAt w a b fv wv D W) (hH : Holds (Dk.of D.las.flatten) E) (ht : Table w) (hg : 2 < w.heap.size) :
    Calls Tryd.prog 43 #[.pointer (some ⟨a, 0, none⟩)] w fun e w' => ∃ a' b', e = .returned (.pointer (some ⟨a', 0, none⟩)) ∧ w.heap.size ≤ a' ∧ w.heap.size ≤ b' ∧ LogAt w' a' b' (.slice none 0 0) (.slice none 0 0) (Dk.of D.las.flatten) [] ∧ Below w.heap.size w w' := by
  have hby := logBytes_any h
  have hbf := bts_flat h.disk.ok
  have hsz : (strOf D.las.flatten).size = 25600 := by rw [strOf_size (flat_byt h.disk.ok), h.disk.ok.flat]
  rw [← hbf] at hH ⊢
  have hop := fun wx (hx : Below w.heap.size w wx) => groveOpen_ok (strOf D.las.flatten) E wx hsz hH (table_at hx hg ht) (Nat.lt_of_lt_of_le hg hx.size)
  clear hH ht hg hbf
  generalize Dk.of (bts (strOf D.las.flatten)) = D' at *
  generalize strOf D.las.flatten = s at *
  go_enter Tryd.func43, Tryd.ntmps43
  go_wp2_with fail
  refine hby.mono ?_
  rintro e w1 ⟨rfl, hb1⟩
  have hcv := Lib.run_convert_string_bytes (P := Tryd.prog) w1 9 82 5 s Tryd.underlying9 Tryd.underlying82 Tryd.underlying5
  have hb2 : Below w.heap.size w (Lib.bytesWorld w1 5 s) := hb1.trans ((below_bytes w1 s).mono hb1.size)
  have hcb := convert_range (cap := grownCap w1 s.size 0 5) (bytes_range w1 s)
  rw [bts_length, strOf_bts] at hcb
  generalize grownCap w1 s.size 0 5 = cap at *
  generalize Lib.bytesWorld w1 5 s = w2 at *
  have hop2 := hop w2 hb2
  clear hby hop hsz
  go_wp2_with fail
  refine hop2.mono ?_
  rintro e w3 ⟨a', b', rfl, ha, hb, hL, hb3⟩
  clear hop2
  have hs2 := hb2.size
  go_wp2
  go_ret
  exact ⟨a', b', rfl, by omega, by omega, hL, hb2.trans (hb3.mono hb2.size)⟩
end Go.Proofs.YtlhohmlpcgbliaaDoor
namespace Go.Proofs.YtlhohmlpcgbliaaDoor
set_option maxRecDepth 100000
open Go.RowKit
attribute [local go_sem ↓] Go.wp_at_zero Go.wp_at_succ

/-- A log lies on the disk. -/
def Dk.sound (D : Dk) : Prop := D.ckN ≤ 64 ∧ D.read 0 = ckSec D.ckN D.ckR ∧ D.tilesOk D.ckN ∧ D.span 0 D.ckN = strOf D.ckR ∧ D.fits D.ckN
theorem ckR_byt {D : Dk} (h : D.ok) : ∀ x ∈ D.ckR, x < 256 := fun x hx => (h.read (i := 0) (by omega)).byt x (List.mem_of_mem_drop (List.mem_of_mem_take hx))
theorem ckR_len {D : Dk} (h : D.ok) : D.ckR.length = 32 := by
  have := (h.read (i := 0) (by omega)).len
  unfold Dk.ckR
  rw [List.length_take, List.length_drop, this]
  rfl
theorem ckN_lt {D : Dk} (h : D.ok) : D.ckN < 256 := byt_ok (h.read (i := 0) (by omega)).byt 16

set_option maxHeartbeats 4000000 in
theorem sound_any (b : Nat) (fv : Value) (D : Dk) (w : World) (h : DiskAt w b fv D) (ht : Table w) (hg : 2 < w.heap.size) :
    Calls Tryd.prog 105 #[.pointer (some ⟨b, 0, none⟩)] w fun e w' => ∃ r : Bool, e = .returned (.bool r) ∧ (r = true ↔ D.sound) ∧ Below w.heap.size w w' := by
  have HD : Aside (DiskAt w b fv D ∧ Table w ∧ 2 < w.heap.size) := ⟨h, ht, hg⟩
  have hck := readCheckpoint_any b fv D w h
  have hn256 := ckN_lt h.ok
  have hr32 : (strOf D.ckR).size = 32 := by rw [strOf_size (ckR_byt h.ok), ckR_len h.ok]
  have hbr : bts (strOf D.ckR) = D.ckR := bts_strOf (byt_ok (ckR_byt h.ok))
  have hs0 := (h.ok.read (i := 0) (by omega)).len
  have HS : Aside (D.sound ↔ (D.ckN ≤ 64 ∧ D.read 0 = ckSec D.ckN (bts (strOf D.ckR)) ∧ D.tilesOk D.ckN ∧ D.span 0 D.ckN = strOf D.ckR ∧ D.fits D.ckN)) := by
    show _ ↔ _
    rw [hbr]
    exact Iff.rfl
  have hcs : (ckSec D.ckN (bts (strOf D.ckR))).length = 128 := by
    rw [hbr]
    exact secOf_len (by simp [markC, ckR_len h.ok])
  clear hbr h ht hg
  generalize strOf D.ckR = rt at *
  generalize D.ckN = n at *
  go_enter Tryd.func105, Tryd.ntmps105
  go_wp2_with fail
  refine hck.mono ?_
  rintro e w1 ⟨rfl, hb1⟩
  clear hck
  by_cases h64 : n ≤ 64
  · have hn64 : ¬ (n : Int) > 64 := by omega
    have hrd : Calls Tryd.prog 116 #[.pointer (some ⟨b, 0, none⟩), .int .i64 0] w1 fun e w' => e = .returned (.agg (u8s (D.read 0)).toArray) ∧ Below w1.heap.size w1 w' := read_any b fv D 0 w1 (HD.out.1.below hb1) (by omega)
    have B1 : Aside (Below w.heap.size w w1) := hb1
    go_wp2_with fail
    refine hrd.mono ?_
    rintro e w2 ⟨rfl, hb2⟩
    have B2 : Aside (Below w.heap.size w w2) := B1.out.trans (hb2.mono B1.out.size)
    have hcp := checkpoint_any n rt w2 (by omega) (by omega)
    clear hrd hb1 hb2
    have heq := fun wx => equal_sec wx hs0 hcs
    generalize D.read 0 = s at *
    generalize ckSec n (bts rt) = s' at *
    go_wp2_with fail
    refine hcp.mono ?_
    rintro e w3 ⟨rfl, hb3⟩
    have B3 : Aside (Below w.heap.size w w3) := B2.out.trans (hb3.mono B2.out.size)
    clear hcp hb3
    generalize (u8s s).toArray = arr at *
    generalize (u8s s').toArray = arr' at *
    by_cases hss : s = s'
    · rw [show decide (s = s') = true by simpa using hss] at heq
      have HE : Aside (s = s') := hss
      clear hss
      have htl := tilesHold_any b n fv D w3 (HD.out.1.below B3.out) h64 (table_at B3.out HD.out.2.2 HD.out.2.1) (Nat.lt_of_lt_of_le HD.out.2.2 B3.out.size)
      go_wp2_with fail
      refine htl.mono ?_
      rintro e w4 ⟨r, rfl, hr, hb4⟩
      clear htl heq
      have B4 : Aside (Below w.heap.size w w4) := B3.out.trans (hb4.mono B3.out.size)
      clear hb4
      have HR : Aside (r = true ↔ D.tilesOk n) := hr
      clear hr
      cases r with
      | false =>
        go_wp2
        go_ret
        exact ⟨false, rfl, ⟨(fun hh => by cases hh), fun hh => absurd (HR.out.2 (HS.out.1 hh).2.2.1) (by simp)⟩, B4.out⟩
      | true =>
        have hsp : Calls Tryd.prog 98 #[.pointer (some ⟨b, 0, none⟩), .int .i64 0, .int .i64 (n : Int)] w4 fun e w' => e = .returned (.string (D.span 0 n)) ∧ Below w4.heap.size w4 w' := by
          have := span_any b 0 n fv D w4 (HD.out.1.below B4.out) (by omega) (table_at B4.out HD.out.2.2 HD.out.2.1) (Nat.lt_of_lt_of_le HD.out.2.2 B4.out.size)
          rw [Nat.zero_add] at this
          exact this
        generalize D.span 0 n = y at *
        go_wp2_with fail
        refine hsp.mono ?_
        rintro e w5 ⟨rfl, hb5⟩
        clear hsp
        have B5 : Aside (Below w.heap.size w w5) := B4.out.trans (hb5.mono B4.out.size)
        clear hb5
        by_cases hyr : y = rt
        · have hyb : (y.toList == rt.toList) = true := by rw [eqs]; exact decide_eq_true hyr
          have HYR : Aside (y = rt) := hyr
          clear hyr
          have hft := fits_any b n fv D w5 (HD.out.1.below B5.out)
          go_wp2_with fail
          refine hft.mono ?_
          rintro e w6 ⟨r, rfl, hr, hb6⟩
          have B6 : Aside (Below w.heap.size w w6 ∧ (r = true ↔ D.fits n)) := ⟨B5.out.trans (hb6.mono B5.out.size), hr⟩
          clear hft hb6 hr
          go_wp2
          go_ret
          refine ⟨r, rfl, ⟨fun hh => HS.out.2 ⟨h64, HE.out, HR.out.1 trivial, HYR.out, B6.out.2.1 hh⟩, fun hh => B6.out.2.2 (HS.out.1 hh).2.2.2.2⟩, B6.out.1⟩
        · have hyb : (y.toList == rt.toList) = false := by rw [eqs]; exact decide_eq_false hyr
          have HYR : Aside (¬ y = rt) := hyr
          clear hyr
          go_wp2
          go_ret
          exact ⟨false, rfl, ⟨(fun hh => by cases hh), fun hh => absurd (HS.out.1 hh).2.2.2.1 HYR.out⟩, B5.out⟩
    · rw [show decide (s = s') = false by simpa using hss] at heq
      have HE : Aside (¬ s = s') := hss
      clear hss
      go_wp2
      go_ret
      exact ⟨false, rfl, ⟨(fun hh => by cases hh), fun hh => absurd (HS.out.1 hh).2.1 HE.out⟩, B3.out⟩
  · have hn64 : (n : Int) > 64 := by omega
    go_wp2
    go_ret
    exact ⟨false, rfl, ⟨(fun hh => by cases hh), fun hh => absurd (HS.out.1 hh).1 h64⟩, hb1⟩
end Go.Proofs.YtlhohmlpcgbliaaDoor
namespace Go.Proofs.YtlhohmlpcgbliaaDoor
set_option maxRecDepth 100000
open Go.RowKit

/-- One act: a sector that is written, or a flush. -/
def Dk.doA (D : Dk) : Option (Nat × List Nat) → Dk
  | some x => D.write x.1 x.2
  | none => D.flush
def Dk.run (D : Dk) : List (Option (Nat × List Nat)) → Dk
  | [] => D
  | a :: r => (D.doA a).run r
theorem Dk.run_append (xs bs : List (Option (Nat × List Nat))) : ∀ D : Dk, D.run (xs ++ bs) = (D.run xs).run bs := by
  induction xs with
  | nil => intro D; rfl
  | cons a r ih => intro D; exact ih _
theorem down_act {D : Dk} (h : D.failed = true) : D.act = D ∧ D.goes = false := by
  have ht : D.trip = D := by simp [Dk.trip, Dk.trips, h]
  exact ⟨by simp [Dk.act, ht, h], by simp [Dk.goes, ht, h]⟩
theorem down_write {D : Dk} (h : D.failed = true) (i : Nat) (s : List Nat) : D.write i s = D := by
  unfold Dk.write
  rw [if_neg (by rw [(down_act h).2]; simp), (down_act h).1]
theorem down_flush {D : Dk} (h : D.failed = true) : D.flush = D := by
  unfold Dk.flush
  rw [if_neg (by rw [(down_act h).2]; simp), (down_act h).1]
theorem down_doA {D : Dk} (h : D.failed = true) (a : Option (Nat × List Nat)) : D.doA a = D := by
  cases a with
  | none => exact down_flush h
  | some x => exact down_write h _ _
theorem down_run {D : Dk} (h : D.failed = true) (xs : List (Option (Nat × List Nat))) : D.run xs = D := by
  induction xs with
  | nil => rfl
  | cons a r ih => rw [Dk.run, down_doA h, ih]
theorem down_wrF {D : Dk} (h : D.failed = true) (start each : Nat) : ∀ (f i : Nat) (cs : List (List Nat)), wrF start each f D i cs = D := by
  intro f
  induction f with
  | zero => intro i cs; rfl
  | succ f ih =>
    intro i cs
    rw [wrF]
    split
    · rfl
    · rw [down_write h, ih]
theorem down_rowWrite {D : Dk} (h : D.failed = true) (start each i : Nat) (cs : List (List Nat)) : D.rowWrite start each i cs = D := down_wrF h _ _ _ _ _
theorem down_grwF {D : Dk} (h : D.failed = true) : ∀ (f first n l size : Nat), grwF f D first n l size = D := by
  intro f
  induction f with
  | zero => intro _ _ _ _; rfl
  | succ f ih =>
    intro first n l size
    rw [grwF]
    split
    · rw [down_rowWrite h, ih]
    · rfl
theorem down_jwrite {D : Dk} (h : D.failed = true) (f : Nat) (ss : List ByteArray) : D.jwrite f ss = D := by
  unfold Dk.jwrite
  rw [down_rowWrite h, down_flush h, down_write h, down_flush h]
theorem down_rmJ {D : Dk} (h : D.failed = true) : D.rmJ = D := by
  unfold Dk.rmJ
  rw [down_write h, down_flush h]
theorem down_put {D : Dk} (h : D.failed = true) (f : Nat) (ss : List ByteArray) : D.put f ss = D := by
  unfold Dk.put Dk.grow
  rw [down_rowWrite h, down_grwF h, down_flush h]
theorem down_ckp {D : Dk} (h : D.failed = true) (n : Nat) : D.ckp n = D := by
  unfold Dk.ckp
  rw [down_write h, down_flush h]
theorem down_endJ {D : Dk} (h : D.failed = true) (f : Nat) (ss : List ByteArray) : D.endJ f ss = D := by
  unfold Dk.endJ
  split
  · rw [down_put h, down_ckp h, down_rmJ h]
  · exact down_rmJ h
theorem down_add {D : Dk} (h : D.failed = true) (ss : List ByteArray) : D.add ss = D := by
  unfold Dk.add
  rw [down_jwrite h, down_endJ h]

/-- The same sectors and loose writes. -/
structure Like (D R : Dk) : Prop where
  las : D.las = R.las
  fre : D.fre = R.fre
theorem Like.read {D R : Dk} (h : Like D R) (i : Nat) : D.read i = R.read i := by
  unfold Dk.read
  rw [h.las, h.fre]
theorem Like.slot {D R : Dk} (h : Like D R) (s e i : Nat) : D.slot s e i = R.slot s e i := by
  unfold Dk.slot
  rw [h.read]
theorem Like.hashB {D R : Dk} (h : Like D R) (l i : Nat) : D.hashB l i = R.hashB l i := by
  cases l with
  | zero => rw [Dk.hashB, Dk.hashB, h.slot]
  | succ l =>
    rw [Dk.hashB, Dk.hashB]
    congr 1
    refine List.map_congr_left fun j _ => ?_
    rw [h.slot]
theorem Like.hashes {D R : Dk} (h : Like D R) (l a b : Nat) : D.hashes l a b = R.hashes l a b := by
  unfold Dk.hashes
  exact List.map_congr_left fun j _ => h.hashB _ _
theorem Like.spnF (f : Nat) {D R : Dk} (h : Like D R) : ∀ (a n : Nat), spnF f D a n = spnF f R a n := by
  induction f with
  | zero => intro a n; rfl
  | succ f ih =>
    intro a n
    rw [Go.Proofs.YtlhohmlpcgbliaaDoor.spnF, Go.Proofs.YtlhohmlpcgbliaaDoor.spnF, h.slot, ih, ih]
theorem Like.span {D R : Dk} (h : Like D R) (a n : Nat) : D.span a n = R.span a n := Like.spnF _ h _ _
theorem Like.ckN {D R : Dk} (h : Like D R) : D.ckN = R.ckN := by unfold Dk.ckN; rw [h.read]
theorem Dk.nf.doA {R : Dk} (h : R.nf) (a : Option (Nat × List Nat)) : (R.doA a).nf := by
  cases a with
  | none => exact h.flush.1
  | some x => exact (h.write x.1 x.2).1
theorem Dk.nf.run {R : Dk} (h : R.nf) (xs : List (Option (Nat × List Nat))) : (R.run xs).nf := by
  induction xs generalizing R with
  | nil => exact h
  | cons a r ih => exact ih (h.doA a)
theorem goes_act {D : Dk} (hg : D.goes = true) : D.act = D.tick := by
  unfold Dk.goes at hg
  have ht : D.trip = D := by
    unfold Dk.trip at *
    split
    · rename_i h; rw [if_pos h] at hg; simp [Dk.fail] at hg
    · rfl
  unfold Dk.act
  rw [if_neg (by intro e; rw [e] at hg; simp at hg), ht]
theorem stops_act {D : Dk} (hg : D.goes = false) : D.act.failed = true := by
  unfold Dk.goes at hg
  unfold Dk.act
  have h : D.trip.failed = true := by simpa using hg
  rw [if_pos h]
  exact h
theorem like_doA {D R : Dk} (hR : R.nf) (h : Like D R) (a : Option (Nat × List Nat)) : (D.doA a).failed = true ∨ Like (D.doA a) (R.doA a) := by
  by_cases hg : D.goes = true
  · right
    cases a with
    | none =>
      show Like D.flush R.flush
      rw [hR.flush_eq, Dk.flush, if_pos hg, goes_act hg]
      exact ⟨by show putL D.fre D.las = putL R.fre R.las; rw [h.las, h.fre], rfl⟩
    | some x =>
      show Like (D.write x.1 x.2) (R.write x.1 x.2)
      rw [hR.write_eq, Dk.write, if_pos hg, goes_act hg]
      exact ⟨h.las, by show D.fre ++ _ = R.fre ++ _; rw [h.fre]⟩
  · left
    have hg' : D.goes = false := by simpa using hg
    cases a with
    | none =>
      show D.flush.failed = true
      rw [Dk.flush, if_neg hg]
      exact stops_act hg'
    | some x =>
      show (D.write x.1 x.2).failed = true
      rw [Dk.write, if_neg hg]
      exact stops_act hg'
theorem like_run (xs : List (Option (Nat × List Nat))) : ∀ {D R : Dk}, R.nf → (D.failed = true ∨ Like D R) → (D.run xs).failed = true ∨ Like (D.run xs) (R.run xs) := by
  induction xs with
  | nil => intro D R _ h; exact h
  | cons a r ih =>
    intro D R hR h
    refine ih (hR.doA a) ?_
    rcases h with h | h
    · left; rw [down_doA h]; exact h
    · exact like_doA hR h a
/-- What f does to every disk that is like R, or has failed, are these acts. -/
def Does (f : Dk → Dk) (R : Dk) (xs : List (Option (Nat × List Nat))) : Prop := ∀ D, (D.failed = true ∨ Like D R) → f D = D.run xs
theorem Does.comp {f g : Dk → Dk} {R : Dk} {xs bs : List (Option (Nat × List Nat))} (hR : R.nf) (h1 : Does f R xs) (h2 : Does g (R.run xs) bs) : Does (fun D => g (f D)) R (xs ++ bs) := by
  intro D h
  show g (f D) = _
  rw [h1 D h, Dk.run_append]
  exact h2 _ (like_run xs hR h)
theorem Does.at {f : Dk → Dk} {R : Dk} {xs : List (Option (Nat × List Nat))} (h : Does f R xs) : f R = R.run xs := h R (.inr ⟨rfl, rfl⟩)
theorem does_one (R : Dk) (a : Option (Nat × List Nat)) : Does (fun D => D.doA a) R [a] := fun _ _ => rfl

def wrA (start each : Nat) : Nat → Dk → Nat → List (List Nat) → List (Option (Nat × List Nat))
  | 0, _, _, _ => []
  | f + 1, R, i, cs => if cs.length = 0 then [] else
    some (start + i / each, fillS each (R.read (start + i / each)) i (cs.take (takes each i cs.length))) ::
    wrA start each f (R.write (start + i / each) (fillS each (R.read (start + i / each)) i (cs.take (takes each i cs.length)))) (i + takes each i cs.length) (cs.drop (takes each i cs.length))
theorem does_wrF (start each : Nat) : ∀ (f : Nat) (R : Dk) (i : Nat) (cs : List (List Nat)), R.nf → Does (fun D => wrF start each f D i cs) R (wrA start each f R i cs) := by
  intro f
  induction f with
  | zero => intro R i cs _ D _; rfl
  | succ f ih =>
    intro R i cs hR D h
    show wrF start each (f + 1) D i cs = _
    rcases h with h | h
    · rw [down_wrF h, down_run h]
    · rw [wrF, wrA]
      split
      · rfl
      · rw [h.read]
        show _ = (D.write _ _).run _
        exact ih _ _ _ ((hR.write _ _).1) _ (like_doA hR h (some (_, _)))
theorem does_rowWrite {R : Dk} (hR : R.nf) (start each i : Nat) (cs : List (List Nat)) : Does (fun D => D.rowWrite start each i cs) R (wrA start each cs.length R i cs) := does_wrF _ _ _ _ _ _ hR
def grA : Nat → Dk → Nat → Nat → Nat → Nat → List (Option (Nat × List Nat))
  | 0, _, _, _, _, _ => []
  | f + 1, R, first, n, l, size => if first / size < n / size then
      wrA (tileAt l).1 4 ((R.hashes l (first / size) (n / size)).map bts).length R (first / size) ((R.hashes l (first / size) (n / size)).map bts) ++
        grA f (R.rowWrite (tileAt l).1 4 (first / size) ((R.hashes l (first / size) (n / size)).map bts)) first n (l + 1) (size * 4)
    else []
theorem does_grwF : ∀ (f : Nat) (R : Dk) (first n l size : Nat), R.nf → Does (fun D => grwF f D first n l size) R (grA f R first n l size) := by
  intro f
  induction f with
  | zero => intro R _ _ _ _ _ D _; rfl
  | succ f ih =>
    intro R first n l size hR D h
    show grwF (f + 1) D first n l size = _
    rcases h with h | h
    · rw [down_grwF h, down_run h]
    · rw [grwF, grA]
      split
      · rw [h.hashes, Dk.run_append]
        have h1 := does_rowWrite hR (tileAt l).1 4 (first / size) ((R.hashes l (first / size) (n / size)).map bts)
        have h2 := h1 D (.inr h)
        have h3 := h1.at
        have h4 := like_run (wrA (tileAt l).1 4 ((R.hashes l (first / size) (n / size)).map bts).length R (first / size) ((R.hashes l (first / size) (n / size)).map bts)) hR (.inr h)
        simp only at h2 h3
        rw [h2, h3]
        exact ih _ _ _ _ _ (hR.run _) _ h4
      · rfl
/-- The acts of adding. -/
def jwA (R : Dk) (f : Nat) (ss : List ByteArray) : List (Option (Nat × List Nat)) := wrA 2 3 (packs ss).length R 0 (packs ss) ++ [none, some (1, hdSec f ss.length), none]
def ptA (R : Dk) (f : Nat) (ss : List ByteArray) : List (Option (Nat × List Nat)) := wrA 6 3 (packs ss).length R f (packs ss) ++ (grA (f + ss.length) (R.rowWrite 6 3 f (packs ss)) f (f + ss.length) 0 1 ++ [none])
def ckA (R : Dk) (n : Nat) : List (Option (Nat × List Nat)) := [some (0, ckSec n (bts (R.span 0 n))), none]
def rmA : List (Option (Nat × List Nat)) := [some (1, zer), none]
def enA (R : Dk) (f : Nat) (ss : List ByteArray) : List (Option (Nat × List Nat)) := if R.ckN = f then ptA R f ss ++ (ckA (R.put f ss) (f + ss.length) ++ rmA) else rmA
def adA (R : Dk) (ss : List ByteArray) : List (Option (Nat × List Nat)) := jwA R R.ckN ss ++ enA (R.jwrite R.ckN ss) R.ckN ss
theorem does_jwrite {R : Dk} (hR : R.nf) (f : Nat) (ss : List ByteArray) : Does (fun D => D.jwrite f ss) R (jwA R f ss) := by
  intro D h
  show ((D.rowWrite 2 3 0 (packs ss)).flush.write 1 (hdSec f ss.length)).flush = _
  have h1 := does_rowWrite hR 2 3 0 (packs ss) D h
  simp only at h1
  rw [jwA, Dk.run_append, h1]
  rfl
theorem does_put {R : Dk} (hR : R.nf) (f : Nat) (ss : List ByteArray) : Does (fun D => D.put f ss) R (ptA R f ss) := by
  intro D h
  show (grwF (f + ss.length) (D.rowWrite 6 3 f (packs ss)) f (f + ss.length) 0 1).flush = _
  have h1 := does_rowWrite hR 6 3 f (packs ss)
  have h2 := h1 D h
  have h3 := h1.at
  have h4 := like_run (wrA 6 3 (packs ss).length R f (packs ss)) hR h
  simp only at h2 h3
  rw [ptA, Dk.run_append, Dk.run_append, h2, h3]
  have h5 := does_grwF (f + ss.length) _ f (f + ss.length) 0 1 (hR.run (wrA 6 3 (packs ss).length R f (packs ss))) _ h4
  simp only at h5
  rw [h5]
  rfl
theorem does_ckp {R : Dk} (n : Nat) : Does (fun D => D.ckp n) R (ckA R n) := by
  intro D h
  show D.ckp n = _
  rcases h with h | h
  · rw [down_ckp h, down_run h]
  · unfold Dk.ckp ckA
    rw [h.span]
    rfl
theorem does_rmJ (R : Dk) : Does (fun D => D.rmJ) R rmA := fun _ _ => rfl
theorem does_endJ {R : Dk} (hR : R.nf) (f : Nat) (ss : List ByteArray) : Does (fun D => D.endJ f ss) R (enA R f ss) := by
  intro D h
  show D.endJ f ss = _
  rcases h with h | h
  · rw [down_endJ h, down_run h]
  · unfold Dk.endJ enA
    rw [h.ckN]
    split
    · have h1 := does_put hR f ss
      have h2 : R.put f ss = R.run (ptA R f ss) := h1.at
      have h3 := (h1.comp hR (h2 ▸ (does_ckp (R := R.put f ss) (f + ss.length)))).comp hR (does_rmJ _) D (.inr h)
      simp only at h3
      rw [h3, List.append_assoc, h2]
    · rfl
theorem does_add {R : Dk} (hR : R.nf) (ss : List ByteArray) : Does (fun D => D.add ss) R (adA R ss) := by
  intro D h
  show D.add ss = _
  rcases h with h | h
  · rw [down_add h, down_run h]
  · unfold Dk.add adA
    rw [h.ckN]
    have h1 := does_jwrite hR R.ckN ss
    have h2 : R.jwrite R.ckN ss = R.run (jwA R R.ckN ss) := h1.at
    have h3 := does_endJ (hR.run (jwA R R.ckN ss)) R.ckN ss
    rw [← h2] at h3
    have h4 := (h1.comp hR (h2 ▸ h3)) D (.inr h)
    simp only at h4
    rw [h2]
    exact h4

/-- A disk with a script, over these acts. -/
theorem run_in : ∀ (xs : List (Option (Nat × List Nat))) (D R : Dk), R.nf → Like D R → D.failed = false → D.set = true → (xs.length : Int) ≤ D.left → D.left ≤ 9223372036854775807 → 0 ≤ D.acts → D.acts + xs.length ≤ 4611686018427387904 →
    (D.run xs).failed = false ∧ (D.run xs).set = true ∧ (D.run xs).left = D.left - xs.length ∧ (D.run xs).acts = D.acts + xs.length ∧ (D.run xs).keep = D.keep ∧ Like (D.run xs) (R.run xs) := by
  intro xs
  induction xs with
  | nil => intro D R _ h hf hs _ _ _ _; exact ⟨hf, hs, by simp [Dk.run], by simp [Dk.run], rfl, h⟩
  | cons a r ih =>
    intro D R hR h hf hs hl hl2 ha0 ha
    rw [List.length_cons] at hl ha
    have htr : D.trip = D := by
      unfold Dk.trip Dk.trips
      rw [if_neg]
      simp only [hs, hf, Bool.true_and, Bool.not_false, Bool.and_true, beq_iff_eq]
      omega
    have hg : D.goes = true := by unfold Dk.goes; rw [htr, hf]; rfl
    have hact := goes_act hg
    have hw1 : wrap64 (D.left - 1) = D.left - 1 := by unfold wrap64; omega
    have hw2 : wrap64 (D.acts + 1) = D.acts + 1 := by unfold wrap64; omega
    have hd : (D.doA a).failed = false ∧ (D.doA a).set = true ∧ (D.doA a).left = D.left - 1 ∧ (D.doA a).acts = D.acts + 1 ∧ (D.doA a).keep = D.keep := by
      cases a with
      | none =>
        show D.flush.failed = _ ∧ D.flush.set = _ ∧ D.flush.left = _ ∧ D.flush.acts = _ ∧ D.flush.keep = _
        rw [Dk.flush, if_pos hg, hact]
        exact ⟨hf, hs, hw1, hw2, rfl⟩
      | some x =>
        show (D.write _ _).failed = _ ∧ (D.write _ _).set = _ ∧ (D.write _ _).left = _ ∧ (D.write _ _).acts = _ ∧ (D.write _ _).keep = _
        rw [Dk.write, if_pos hg, hact]
        exact ⟨hf, hs, hw1, hw2, rfl⟩
    obtain ⟨d1, d2, d3, d4, d5⟩ := hd
    have hlk : Like (D.doA a) (R.doA a) := by
      rcases like_doA hR h a with h1 | h1
      · rw [d1] at h1; simp at h1
      · exact h1
    have := ih (D.doA a) (R.doA a) (hR.doA a) hlk d1 d2 (by rw [d3]; omega) (by rw [d3]; omega) (by rw [d4]; omega) (by rw [d4]; omega)
    rw [d3, d4, d5] at this
    obtain ⟨e1, e2, e3, e4, e5, e6⟩ := this
    refine ⟨e1, e2, ?_, ?_, e5, e6⟩
    · show ((D.doA a).run r).left = _
      rw [e3, List.length_cons]; omega
    · show ((D.doA a).run r).acts = _
      rw [e4, List.length_cons]; omega
theorem run_out (xs : List (Option (Nat × List Nat))) (D R : Dk) (hR : R.nf) (h : Like D R) (hf : D.failed = false) (hs : D.set = true) (t : Nat) (ht : D.left = t) (hta : t < xs.length) (ht2 : (t : Int) ≤ 9223372036854775807) (ha0 : 0 ≤ D.acts) (ha : D.acts + xs.length ≤ 4611686018427387904) :
    (D.run xs).failed = true ∧ (D.run xs).acts = D.acts + t ∧ (D.run xs).fre = [] ∧ (D.run xs).las = failL D.keep 0 (R.run (xs.take t)).fre (R.run (xs.take t)).las := by
  have h1 := run_in (xs.take t) D R hR h hf hs (by rw [ht, List.length_take]; omega) (by omega) ha0 (by rw [List.length_take]; omega)
  rw [List.length_take, Nat.min_eq_left (by omega)] at h1
  obtain ⟨e1, e2, e3, e4, e5, e6⟩ := h1
  have hsp : xs = xs.take t ++ (xs[t] :: xs.drop (t + 1)) := by rw [← List.drop_eq_getElem_cons hta, List.take_append_drop]
  rw [hsp, Dk.run_append, Dk.run]
  have hk : (xs.take t ++ xs[t] :: xs.drop (t + 1)).take t = xs.take t := by rw [← hsp]
  rw [hk]
  generalize D.run (xs.take t) = T at *
  generalize R.run (xs.take t) = S at *
  have htp : T.trips = true := by
    unfold Dk.trips
    rw [e1, e2, e3, ht]
    simp
  have htr : T.trip = T.fail := by unfold Dk.trip; rw [if_pos htp]
  have hac : T.act = T.fail := by unfold Dk.act; rw [htr]; rfl
  have hgo : T.goes = false := by unfold Dk.goes; rw [htr]; rfl
  have hd : T.doA xs[t] = T.fail := by
    cases hq : xs[t] with
    | none => show T.flush = _; rw [Dk.flush, if_neg (by rw [hgo]; simp), hac]
    | some x => show T.write _ _ = _; rw [Dk.write, if_neg (by rw [hgo]; simp), hac]
  rw [hd, down_run (by rfl)]
  refine ⟨rfl, e4, rfl, ?_⟩
  show failL T.keep 0 T.fre T.las = _
  rw [e5, e6.fre, e6.las]
end Go.Proofs.YtlhohmlpcgbliaaDoor
namespace Go.Proofs.YtlhohmlpcgbliaaDoor
set_option maxRecDepth 100000
open Go.RowKit
attribute [local go_sem ↓] Go.wp_at_zero Go.wp_at_succ

set_option maxHeartbeats 2000000 in
theorem logFlush_down {w : World} {a b : Nat} {fv wv : Value} {D : Dk} {W : List ByteArray} (h : LogAt w a b fv wv D W) (hf : D.failed = false) (hz1 : D.read 1 = zer) (hz : ∀ s ∈ W, s.size ≤ 40) (hl : D.ckN + W.length ≤ 76) (hfe : D.fre.length < 700000) (he : Env w b fv.ownBlock) (hw0 : 0 < W.length) (hok : (D.add W).failed = true) :
    Calls Tryd.prog 42 #[.pointer (some ⟨a, 0, none⟩)] w fun e w' => e = .returned (.tuple #[.int .i64 0, .int .i64 3]) ∧ ∃ fv', LogAt w' a b fv' wv (D.add W) W ∧ FrL a b fv.ownBlock wv.ownBlock fv'.ownBlock wv.ownBlock w w' := by
  have hrf := refused_ok h hf hz1
  clear hz1 hf
  go_enter Tryd.func42, Tryd.ntmps42
  go_wp2_with fail
  refine hrf.mono ?_
  rintro e w1 ⟨rfl, hb1⟩
  clear hrf
  have h1 := h.below hb1
  have he1 := he.below hb1
  have R1 : FrL a b fv.ownBlock wv.ownBlock fv.ownBlock wv.ownBlock w w1 := FrL.of_below hb1
  have hc0 := h1.blk.cell 0
  have hc1 := h1.blk.cell 1
  simp only [List.getElem?_cons_zero, List.getElem?_cons_succ] at hc0 hc1
  obtain ⟨p, cap, hwv⟩ := h1.wv
  rw [hwv] at hc1
  obtain ⟨g, cap, hwv2, hcap, hgl, hSA⟩ := h1.wrow (by omega)
  have hgo : wv.ownBlock = some g := by rw [hwv2]; rfl
  have hw' : (0 : Int) < (W.length : Int) := by omega
  rw [← hwv, hwv2] at hc1
  go_wp2_with fail
  refine flR5_wp a b g cap W fv D w1 _ h1.disk hc0 hc1 h1.ab h1.fa hSA hgl (fun e => h1.wb (by rw [hgo, e])) (h1.wf g hgo) hz hl hfe he1 ?_
  intro u18 u19 u20 u21 u22 u23 u24 u25 u26 fv2 w2 hd2 r2
  have h2 := h1.fr r2 hd2
  have R2 := R1.trans (FrL.of_fr r2)
  clear hSA hwv hwv2 hgo hd2 hw'
  have hdn := down_any h2
  rw [hok] at hdn
  clear hok hc0 hc1
  go_wp2_with fail
  refine hdn.mono ?_
  rintro e w3 ⟨rfl, rfl⟩
  go_wp2
  go_ret2
  exact ⟨rfl, fv2, h2, R2⟩

/-- The disk with a script. -/
def Dk.script (D : Dk) (after keep : Int) : Dk := { D with set := true, left := after, keep := keep }
end Go.Proofs.YtlhohmlpcgbliaaDoor
namespace Go.Proofs.YtlhohmlpcgbliaaDoor
set_option maxRecDepth 100000
open Go.RowKit

/-- A row of one's own lies as it lay where its block has not changed. -/
theorem ownsRow_kept {w w' : World} {t : TypeId} {m n : Nat} {v : Value} {xs : List Value} (h : w.ownsRow 0 t m v n xs) (hb : ∀ k, v.ownBlock = some k → k < w.heap.size → w'.heap[k]? = w.heap[k]?) : w'.ownsRow 0 t m v n xs := by
  obtain ⟨h1, h2⟩ := h
  refine ⟨h1, ?_⟩
  rcases h2 with h0 | ⟨g, cap, cur, hv, hbg, hg, rr⟩
  · exact Or.inl h0
  · have hog : v.ownBlock = some g := by rw [hv]; rfl
    have hgl : g < w.heap.size := (Array.getElem?_eq_some_iff.1 hg).1
    exact Or.inr ⟨g, cap, cur, hv, hbg, by rw [hb g hog hgl]; exact hg, rr⟩
/-- A log's blocks. -/
def Own (a b : Nat) (g h : Option Nat) (k : Nat) : Prop := k = a ∨ k = b ∨ g = some k ∨ h = some k
/-- Two logs have no block in common. -/
def Dis (a b : Nat) (g h : Option Nat) (a' b' : Nat) (g' h' : Option Nat) : Prop := ∀ k, Own a b g h k → ¬ Own a' b' g' h' k
theorem Dis.symm {a b : Nat} {g h : Option Nat} {a' b' : Nat} {g' h' : Option Nat} (d : Dis a b g h a' b' g' h') : Dis a' b' g' h' a b g h := fun k h1 h2 => d k h2 h1
theorem LogAt.lt {w : World} {a b : Nat} {fv wv : Value} {D : Dk} {W : List ByteArray} (h : LogAt w a b fv wv D W) : ∀ k, Own a b fv.ownBlock wv.ownBlock k → k < w.heap.size := by
  intro k hk
  rcases hk with rfl | rfl | e | e
  · exact h.blk.lt
  · exact h.disk.lt
  · exact (h.disk.row.lt k e).2
  · exact (h.row.lt k e).2
/-- A log stays as it is, whatever another one does. -/
theorem LogAt.other {w w' : World} {a b : Nat} {fv wv : Value} {D : Dk} {W : List ByteArray} (h : LogAt w a b fv wv D W) {a' b' : Nat} {g h2 g' h2' : Option Nat} (r : FrL a' b' g h2 g' h2' w w') (hd : Dis a b fv.ownBlock wv.ownBlock a' b' g h2) : LogAt w' a b fv wv D W := by
  have hk : ∀ k, Own a b fv.ownBlock wv.ownBlock k → w'.heap[k]? = w.heap[k]? := by
    intro k ho
    have hn := hd k ho
    exact r.block k (h.lt k ho) (fun e => hn (.inl e)) (fun e => hn (.inr (.inl e))) (fun e => hn (.inr (.inr (.inl e)))) (fun e => hn (.inr (.inr (.inr e))))
  refine ⟨⟨h.disk.ok, ?_, ownsRow_kept h.disk.row (fun k e _ => hk k (.inr (.inr (.inl e)))), h.disk.apart⟩, ?_, ownsRow_kept h.row (fun k e _ => hk k (.inr (.inr (.inr e)))), h.ab, h.fa, h.wa, h.wb, h.wf⟩
  · have := h.disk.blk
    unfold Blk at *
    rw [hk b (.inr (.inl rfl))]; exact this
  · have := h.blk
    unfold Blk at *
    rw [hk a (.inl rfl)]; exact this
/-- What another log has taken anew is not this log's. -/
theorem Dis.step {w w' : World} {a b : Nat} {g h g1 h1 : Option Nat} {a' b' : Nat} {g' h' : Option Nat} (d : Dis a b g h a' b' g' h') (r : FrL a b g h g1 h1 w w') (hl : ∀ k, Own a' b' g' h' k → k < w.heap.size) : Dis a b g1 h1 a' b' g' h' := by
  intro k h0 h2
  have hlt := hl k h2
  rcases h0 with e | e | e | e
  · exact d k (.inl e) h2
  · exact d k (.inr (.inl e)) h2
  · rcases r.own with e1 | e1 | ⟨j, e1, hj⟩
    · rw [e1] at e; cases e
    · rw [e1] at e; exact d k (.inr (.inr (.inl e))) h2
    · rw [e1] at e; cases e; omega
  · rcases r.own2 with e1 | e1 | ⟨j, e1, hj⟩
    · rw [e1] at e; cases e
    · rw [e1] at e; exact d k (.inr (.inr (.inr e))) h2
    · rw [e1] at e; cases e; omega
/-- A new log shares no block with one that was there. -/
theorem Dis.new {n : Nat} {a b a' b' : Nat} {g' h' : Option Nat} (ha : n ≤ a) (hb : n ≤ b) (hl : ∀ k, Own a' b' g' h' k → k < n) : Dis a b none none a' b' g' h' := by
  intro k h0 h2
  have := hl k h2
  rcases h0 with e | e | e | e
  · omega
  · omega
  · cases e
  · cases e
end Go.Proofs.YtlhohmlpcgbliaaDoor
namespace Go.Proofs.YtlhohmlpcgbliaaDoor
set_option maxRecDepth 100000
open Go.RowKit
attribute [local go_sem ↓] Go.wp_at_zero Go.wp_at_succ

/-- A function's code from a region on, wherever it stands. -/
def findD (n : Nat) : Code → Option Code
  | .seq a b => match a with
    | .region k ops d => if k = n then some (.seq (.region k ops d) b) else findD n b
    | a => (findD n a).or (findD n b)
  | .block _ c => findD n c
  | .loop c => findD n c
  | .scope c => findD n c
  | _ => none
def sfxD (f : Func) (n : Nat) : Code := (f.body.bind (findD n)).getD .skip

/-- What holds ahead of a round: d of the entries are in y, in k groups. -/
structure AlkI (w0 : World) (cb : Nat) (ts : List ByteArray) (g : Nat → Nat) (T : Dk) (d k o c ay az : Nat) (wr : World) : Prop where
  dle : d ≤ ts.length
  kd : k ≤ d
  cap : ts.length - d ≤ c
  sa : SA wr cb o (ts.drop d)
  bel : Below w0.heap.size w0 wr
  ex : ∃ (yb bz : Nat) (fvy fvz : Value) (Dy Dz Dx : Dk) (Ez : List ByteArray), LogAt wr ay yb fvy (.slice none 0 0) Dy [] ∧ Holds Dy (ts.take d) ∧ Same Dx Dy ∧ groF g (ts.length - k) k Dx (ts.drop d) = T ∧ LogAt wr az bz fvz (.slice none 0 0) Dz [] ∧ Holds Dz Ez ∧ Ez.length ≤ k ∧ Dis ay yb fvy.ownBlock none az bz fvz.ownBlock none ∧ (∀ j, Own ay yb fvy.ownBlock none j → w0.heap.size ≤ j) ∧ (∀ j, Own az bz fvz.ownBlock none j → w0.heap.size ≤ j)
theorem AlkI.copy {w0 : World} {cb : Nat} {ts : List ByteArray} {g : Nat → Nat} {T : Dk} {d k o c ay az : Nat} {wr : World} (h : AlkI w0 cb ts g T d k o c ay az wr) (ht : Table w0) (hg : 2 < w0.heap.size) :
    Calls Tryd.prog 43 #[.pointer (some ⟨ay, 0, none⟩)] wr fun e w' => ∃ a', e = .returned (.pointer (some ⟨a', 0, none⟩)) ∧ AlkI w0 cb ts g T d k o c a' az w' := by
  obtain ⟨yb, bz, fvy, fvz, Dy, Dz, Dx, Ez, hLy, hHy, hS, hT, hLz, hHz, hEz, hD, hoy, hoz⟩ := h.ex
  refine (copied_ok hLy hHy.again (table_at h.bel hg ht) (Nat.lt_of_lt_of_le hg h.bel.size)).mono ?_
  rintro e w' ⟨a', b', rfl, ha, hb, hL, hbl⟩
  have hsz := h.bel.size
  refine ⟨a', rfl, ⟨h.dle, h.kd, h.cap, h.sa.below hbl, h.bel.trans (hbl.mono hsz), b', bz, .slice none 0 0, fvz, Dk.of Dy.las.flatten, Dz, Dx, Ez, hL, hHy.again, hS.trans (Same.of hHy.nf hHy.ok hHy.fre), hT, hLz.below hbl, hHz, hEz, ?_, ?_, hoz⟩⟩
  · exact Dis.new ha hb (fun j hj => hLz.lt j hj)
  · intro j hj
    rcases hj with e | e | e | e
    · omega
    · omega
    · cases e
    · cases e

set_option maxHeartbeats 2000000 in
theorem al24_wp {c0 c1 c3 c4 c5 c6 c7 c8 c9 c10 c12 c13 c15 c16 c17 c18 c19 c20 c21 c22 c23 c24 c25 c26 c27 c28 c29 c30 c31 c32 c33 c34 c35 c36 c37 c38 c39 c40 c41 c42 c43 c44 c45 c46 c47 c48 c49 c50 c51 c52 c53 c54 c55 c56 c57 c58 c59 c60 c61 c62 c63 c64 c65 c66 c67 c68 c69 c70 c71 c72 c73 c74 c75 c76 c77 c78 c79 c80 c81 c82 c83 c84 c85 c86 c87 c88 c89 c90 c91 c92 c93 c94 c95 c96 c97 c98 c99 c100 c101 c102 c103 c104 c105 c106 : Value} (lv : Value) (cb : Nat) (ts : List ByteArray) (g : Nat → Nat) (T : Dk) (d k1 k o c ay az : Nat) (w0 w : World) (Q : Exit → Act → World → Prop) (h : AlkI w0 cb ts g T d k1 o c ay az w) (hR : RawI w0 lv) (ht : Table w0) (hg : 2 < w0.heap.size)
    (hQ : ∀ (u86 u87 u88 u89 u90 u91 u92 u93 u94 u95 u96 u97 u98 u99 u100 u101 : Value) (ay' : Nat) (w' : World), AlkI w0 cb ts g T d k1 o c ay' az w' → Q .normal ⟨#[c0, c1, lv, c3, c4, c5, c6, c7, c8, c9, c10, .pointer (some ⟨ay', 0, none⟩), c12, c13, .int .i64 (k : Int), c15, c16, c17, c18, c19, c20, c21, c22, c23, c24, c25, c26, c27, c28, c29, c30, c31, c32, c33, c34, c35, c36, c37, c38, c39, c40, c41, c42, c43, c44, c45, c46, c47, c48, c49, c50, c51, c52, c53, c54, c55, c56, c57, c58, c59, c60, c61, c62, c63, c64, c65, c66, c67, c68, c69, c70, c71, c72, c73, c74, c75, c76, c77, c78, c79, c80, c81, c82, c83, c84, c85, u86, u87, u88, u89, u90, u91, u92, u93, u94, u95, u96, u97, u98, u99, u100, u101, c102, c103, c104, c105, c106], []⟩ w') :
    Code.wp Tryd.prog (sfxD Tryd.f9 24) Q ⟨#[c0, c1, lv, c3, c4, c5, c6, c7, c8, c9, c10, .pointer (some ⟨ay, 0, none⟩), c12, c13, .int .i64 (k : Int), c15, c16, c17, c18, c19, c20, c21, c22, c23, c24, c25, c26, c27, c28, c29, c30, c31, c32, c33, c34, c35, c36, c37, c38, c39, c40, c41, c42, c43, c44, c45, c46, c47, c48, c49, c50, c51, c52, c53, c54, c55, c56, c57, c58, c59, c60, c61, c62, c63, c64, c65, c66, c67, c68, c69, c70, c71, c72, c73, c74, c75, c76, c77, c78, c79, c80, c81, c82, c83, c84, c85, c86, c87, c88, c89, c90, c91, c92, c93, c94, c95, c96, c97, c98, c99, c100, c101, c102, c103, c104, c105, c106], []⟩ w := by
  conv => arg 2; whnf
  obtain ⟨p, rn, rc, rfl, hraw⟩ := hR
  have hcp := h.copy ht hg
  have HI : Aside (AlkI w0 cb ts g T d k1 o c ay az w) := h
  have HQ : Aside (∀ (u86 u87 u88 u89 u90 u91 u92 u93 u94 u95 u96 u97 u98 u99 u100 u101 : Value) (ay' : Nat) (w' : World), AlkI w0 cb ts g T d k1 o c ay' az w' → Q .normal ⟨#[c0, c1, .slice p rn rc, c3, c4, c5, c6, c7, c8, c9, c10, .pointer (some ⟨ay', 0, none⟩), c12, c13, .int .i64 (k : Int), c15, c16, c17, c18, c19, c20, c21, c22, c23, c24, c25, c26, c27, c28, c29, c30, c31, c32, c33, c34, c35, c36, c37, c38, c39, c40, c41, c42, c43, c44, c45, c46, c47, c48, c49, c50, c51, c52, c53, c54, c55, c56, c57, c58, c59, c60, c61, c62, c63, c64, c65, c66, c67, c68, c69, c70, c71, c72, c73, c74, c75, c76, c77, c78, c79, c80, c81, c82, c83, c84, c85, u86, u87, u88, u89, u90, u91, u92, u93, u94, u95, u96, u97, u98, u99, u100, u101, c102, c103, c104, c105, c106], []⟩ w') := hQ
  clear h hQ ht hg
  by_cases hkr : k < rn
  · obtain ⟨gb, go', cv, rfl, hcell, hc1, hc2⟩ := hraw k hkr
    have hkr' : (k : Int) < (rn : Int) := by omega
    have hcell' : w.cell? ⟨gb, go' + k, none⟩ = some (.int .i64 cv) := by
      rw [HI.out.bel.cell (World.block_lt_of_cell? _ _ hcell)]; exact hcell
    clear hcell hraw
    cases hm : (cv.tmod 2 == 0) with
    | true =>
      go_wp2_with fail
      refine hcp.mono ?_
      rintro e w1 ⟨a', rfl, h1⟩
      have H1 : Aside (AlkI w0 cb ts g T d k1 o c a' az w1) := h1
      clear h1 hcp
      go_wp2
      exact HQ.out _ _ _ _ _ _ _ _ _ _ _ _ _ _ _ _ _ _ H1.out
    | false =>
      go_wp2
      exact HQ.out _ _ _ _ _ _ _ _ _ _ _ _ _ _ _ _ _ _ HI.out
  · have hkr' : ¬ (k : Int) < (rn : Int) := by omega
    clear hraw
    go_wp2
    exact HQ.out _ _ _ _ _ _ _ _ _ _ _ _ _ _ _ _ _ _ HI.out

/-- As AlkI, and n more wait in y. -/
structure AlkJ (w0 : World) (cb : Nat) (ts : List ByteArray) (g : Nat → Nat) (T : Dk) (d k e n o c ay az : Nat) (wr : World) : Prop where
  n1 : 1 ≤ n
  n12 : n ≤ 12
  dle : d + n ≤ ts.length
  kd : k ≤ d
  cap : ts.length - d ≤ c
  siz : ∀ s ∈ ts, s.size ≤ 40
  l64 : ts.length ≤ 64
  sa : SA wr cb o (ts.drop d)
  cbl : cb < w0.heap.size
  bel : Below w0.heap.size w0 wr
  ex : ∃ (yb bz : Nat) (fvy wvy fvz : Value) (Dy Dz Dx : Dk) (Ez : List ByteArray), LogAt wr ay yb fvy wvy Dy ((ts.drop d).take n) ∧ Holds Dy (ts.take d) ∧ Same Dx Dy ∧ groF g (ts.length - (k + 1)) (k + 1) (Dx.add ((ts.drop d).take n)) (ts.drop (d + n)) = T ∧ LogAt wr az bz fvz (.slice none 0 0) Dz [] ∧ Holds Dz Ez ∧ Ez.length ≤ e ∧ Dis ay yb fvy.ownBlock wvy.ownBlock az bz fvz.ownBlock none ∧ (∀ j, Own ay yb fvy.ownBlock wvy.ownBlock j → w0.heap.size ≤ j) ∧ (∀ j, Own az bz fvz.ownBlock none j → w0.heap.size ≤ j)
/-- y's Flush. -/
theorem AlkJ.flush {w0 : World} {cb : Nat} {ts : List ByteArray} {g : Nat → Nat} {T : Dk} {d k n o c ay az : Nat} {wr : World} (h : AlkJ w0 cb ts g T d k (k + 1) n o c ay az wr) (ht : Table w0) (hg : 2 < w0.heap.size) :
    Calls Tryd.prog 42 #[.pointer (some ⟨ay, 0, none⟩)] wr fun e w' => ∃ m, e = .returned (.tuple #[.int .i64 m, .int .i64 0]) ∧ AlkI w0 cb ts g T (d + n) (k + 1) (if c = n then o else o + n) (c - n) ay az w' := by
  obtain ⟨yb, bz, fvy, wvy, fvz, Dy, Dz, Dx, Ez, hLy, hHy, hS, hT, hLz, hHz, hEz, hD, hoy, hoz⟩ := h.ex
  have hd := h.dle
  have h64 := h.l64
  have hn1 := h.n1
  have hn2 := h.n12
  have hkd := h.kd
  have hcap := h.cap
  have hlen : ((ts.drop d).take n).length = n := by rw [List.length_take, List.length_drop]; omega
  have hz : ∀ s ∈ (ts.drop d).take n, s.size ≤ 40 := fun s hs => h.siz s (List.mem_of_mem_drop (List.mem_of_mem_take hs))
  have hN := hHy.ckN
  rw [List.length_take, Nat.min_eq_left (by omega)] at hN
  have hfd : Dy.flushed ((ts.drop d).take n) = Dy.add ((ts.drop d).take n) := by
    unfold Dk.flushed
    rw [if_neg (by rw [hlen]; omega)]
  have hH4 := add_spec hHy (W := (ts.drop d).take n) (by rw [hlen]; omega) hz (by rw [hlen, List.length_take]; omega)
  rw [show ts.take d ++ (ts.drop d).take n = ts.take (d + n) from (List.take_add ..).symm] at hH4
  refine (logFlush_any hLy hHy.nf.failed hHy.jn hz (by rw [hlen, hN]; omega) (by rw [hHy.fre]; simp) (env_of ht hg h.bel (hoy _ (.inr (.inl rfl))) (fun j hj => hoy j (.inr (.inr (.inl hj))))) (by rw [hfd]; exact hH4.nf.failed)).mono ?_
  rintro e w' ⟨rfl, fv', hL', hR'⟩
  rw [hfd] at hL'
  obtain ⟨hb4, hf4, _⟩ := FrL.below h.bel hR' (hoy _ (.inl rfl)) (hoy _ (.inr (.inl rfl))) (fun j hj => hoy j (.inr (.inr (.inl hj)))) (fun j hj => hoy j (.inr (.inr (.inr hj))))
  refine ⟨_, rfl, ⟨hd, by omega, by omega, ?_, hb4, yb, bz, fv', fvz, _, Dz, _, Ez, hL', hH4, hS.add _, hT, hLz.other hR' hD.symm, hHz, hEz, hD.step hR' (fun j hj => hLz.lt j hj), ?_, hoz⟩⟩
  · by_cases hj : n < ts.length - d
    · rw [if_neg (by omega)]
      have h1 : SA w' cb o (ts.drop d) := fun i s hs => by
        have h9 := h.sa i s hs
        rw [hb4.cell (p := ⟨cb, o + i, none⟩) h.cbl, ← h.bel.cell (p := ⟨cb, o + i, none⟩) h.cbl]; exact h9
      have := h1.drop n
      rw [List.drop_drop] at this
      exact this
    · rw [List.drop_eq_nil_of_le (by omega)]
      intro i s hs
      simp at hs
  · intro j hj
    rcases hj with e | e | e | e
    · rw [e]; exact hoy _ (.inl rfl)
    · rw [e]; exact hoy _ (.inr (.inl rfl))
    · exact hf4 j e
    · cases e

set_option maxHeartbeats 2000000 in
theorem al22_wp {c0 c1 c3 c4 c5 c6 c7 c8 c9 c10 c12 c16 c17 c18 c19 c20 c21 c22 c23 c24 c25 c26 c27 c28 c29 c30 c31 c32 c33 c34 c35 c36 c37 c38 c39 c40 c41 c42 c43 c44 c45 c46 c47 c48 c49 c50 c51 c52 c53 c54 c55 c56 c57 c58 c59 c60 c61 c62 c63 c64 c65 c66 c67 c68 c69 c70 c71 c72 c73 c74 c75 c76 c77 c78 c79 c80 c81 c82 c83 c84 c85 c86 c87 c88 c89 c90 c91 c92 c93 c94 c95 c96 c97 c98 c99 c100 c101 c102 c103 c104 c105 c106 : Value} (lv : Value) (cb : Nat) (ts : List ByteArray) (g : Nat → Nat) (T : Dk) (d k n r o c ay az : Nat) (w0 w : World) (Q : Exit → Act → World → Prop) (h : AlkJ w0 cb ts g T d k (k + 1) n o c ay az w) (hr : r = ts.length - d) (hR : RawI w0 lv) (ht : Table w0) (hg : 2 < w0.heap.size)
    (hQ : ∀ (u81 u82 u83 u84 u85 u86 u87 u88 u89 u90 u91 u92 u93 u94 u95 u96 u97 u98 u99 u100 u101 : Value) (ay' : Nat) (w' : World), AlkI w0 cb ts g T (d + n) (k + 1) (if c = n then o else o + n) (c - n) ay' az w' → Q .normal ⟨#[c0, c1, lv, c3, c4, c5, c6, c7, c8, c9, c10, .pointer (some ⟨ay', 0, none⟩), c12, .slice (some ⟨cb, if c = n then o else o + n, none⟩) (r - n) (c - n), .int .i64 (k : Int), .int .i64 (n : Int), c16, c17, c18, c19, c20, c21, c22, c23, c24, c25, c26, c27, c28, c29, c30, c31, c32, c33, c34, c35, c36, c37, c38, c39, c40, c41, c42, c43, c44, c45, c46, c47, c48, c49, c50, c51, c52, c53, c54, c55, c56, c57, c58, c59, c60, c61, c62, c63, c64, c65, c66, c67, c68, c69, c70, c71, c72, c73, c74, c75, c76, c77, c78, c79, c80, u81, u82, u83, u84, u85, u86, u87, u88, u89, u90, u91, u92, u93, u94, u95, u96, u97, u98, u99, u100, u101, c102, c103, c104, c105, c106], []⟩ w') :
    Code.wp Tryd.prog (sfxD Tryd.f9 22) Q ⟨#[c0, c1, lv, c3, c4, c5, c6, c7, c8, c9, c10, .pointer (some ⟨ay, 0, none⟩), c12, .slice (some ⟨cb, o, none⟩) r c, .int .i64 (k : Int), .int .i64 (n : Int), c16, c17, c18, c19, c20, c21, c22, c23, c24, c25, c26, c27, c28, c29, c30, c31, c32, c33, c34, c35, c36, c37, c38, c39, c40, c41, c42, c43, c44, c45, c46, c47, c48, c49, c50, c51, c52, c53, c54, c55, c56, c57, c58, c59, c60, c61, c62, c63, c64, c65, c66, c67, c68, c69, c70, c71, c72, c73, c74, c75, c76, c77, c78, c79, c80, c81, c82, c83, c84, c85, c86, c87, c88, c89, c90, c91, c92, c93, c94, c95, c96, c97, c98, c99, c100, c101, c102, c103, c104, c105, c106], []⟩ w := by
  conv => arg 2; whnf
  have hfl := h.flush ht hg
  have hdl := h.dle
  have hsl := fun wx => slice_tl wx cb o r c n (by omega) (by rw [hr]; exact h.cap)
  generalize (if c = n then o else o + n) = o7 at *
  have HP : Aside (RawI w0 lv ∧ Table w0 ∧ 2 < w0.heap.size) := ⟨hR, ht, hg⟩
  have HQ : Aside (∀ (u81 u82 u83 u84 u85 u86 u87 u88 u89 u90 u91 u92 u93 u94 u95 u96 u97 u98 u99 u100 u101 : Value) (ay' : Nat) (w' : World), AlkI w0 cb ts g T (d + n) (k + 1) o7 (c - n) ay' az w' → Q .normal ⟨#[c0, c1, lv, c3, c4, c5, c6, c7, c8, c9, c10, .pointer (some ⟨ay', 0, none⟩), c12, .slice (some ⟨cb, o7, none⟩) (r - n) (c - n), .int .i64 (k : Int), .int .i64 (n : Int), c16, c17, c18, c19, c20, c21, c22, c23, c24, c25, c26, c27, c28, c29, c30, c31, c32, c33, c34, c35, c36, c37, c38, c39, c40, c41, c42, c43, c44, c45, c46, c47, c48, c49, c50, c51, c52, c53, c54, c55, c56, c57, c58, c59, c60, c61, c62, c63, c64, c65, c66, c67, c68, c69, c70, c71, c72, c73, c74, c75, c76, c77, c78, c79, c80, u81, u82, u83, u84, u85, u86, u87, u88, u89, u90, u91, u92, u93, u94, u95, u96, u97, u98, u99, u100, u101, c102, c103, c104, c105, c106], []⟩ w') := hQ
  clear h hQ hR ht hg hdl hr
  refine wp_seq_k ?_
  intro K hK
  have HK : Aside (∀ a w, _ → K a w) := hK
  clear hK
  go_wp2_with fail
  refine hfl.mono ?_
  rintro e w1 ⟨m, rfl, h1⟩
  have H1 : Aside (AlkI w0 cb ts g T (d + n) (k + 1) o7 (c - n) ay az w1) := h1
  clear h1 hfl
  go_wp2
  refine HK.out _ _ ?_
  clear HK
  refine wp_seq_k ?_
  intro K hK
  have HK : Aside (∀ a w, _ → K a w) := hK
  clear hK
  go_wp2
  refine HK.out _ _ ?_
  refine al24_wp lv cb ts g T (d + n) (k + 1) k o7 (c - n) ay az w0 w1 Q H1.out HP.out.1 HP.out.2.1 HP.out.2.2 ?_
  intro u86 u87 u88 u89 u90 u91 u92 u93 u94 u95 u96 u97 u98 u99 u100 u101 ay' w' h2
  exact HQ.out _ _ _ _ _ _ _ _ _ _ _ _ _ _ _ _ _ _ _ _ _ _ _ h2
end Go.Proofs.YtlhohmlpcgbliaaDoor
namespace Go.Proofs.YtlhohmlpcgbliaaDoor
set_option maxRecDepth 100000
open Go.RowKit
attribute [local go_sem ↓] Go.wp_at_zero Go.wp_at_succ

theorem AlkJ.more {w0 : World} {cb : Nat} {ts : List ByteArray} {g : Nat → Nat} {T : Dk} {d k e n o c ay az : Nat} {wr : World} (h : AlkJ w0 cb ts g T d k e n o c ay az wr) {e' : Nat} (he : e ≤ e') : AlkJ w0 cb ts g T d k e' n o c ay az wr := by
  obtain ⟨yb, bz, fvy, wvy, fvz, Dy, Dz, Dx, Ez, hLy, hHy, hS, hT, hLz, hHz, hEz, hD, hoy, hoz⟩ := h.ex
  exact ⟨h.n1, h.n12, h.dle, h.kd, h.cap, h.siz, h.l64, h.sa, h.cbl, h.bel, yb, bz, fvy, wvy, fvz, Dy, Dz, Dx, Ez, hLy, hHy, hS, hT, hLz, hHz, Nat.le_trans hEz he, hD, hoy, hoz⟩
theorem AlkJ.below {w0 : World} {cb : Nat} {ts : List ByteArray} {g : Nat → Nat} {T : Dk} {d k e n o c ay az : Nat} {wr w' : World} (h : AlkJ w0 cb ts g T d k e n o c ay az wr) (hb : Below wr.heap.size wr w') : AlkJ w0 cb ts g T d k e n o c ay az w' := by
  obtain ⟨yb, bz, fvy, wvy, fvz, Dy, Dz, Dx, Ez, hLy, hHy, hS, hT, hLz, hHz, hEz, hD, hoy, hoz⟩ := h.ex
  exact ⟨h.n1, h.n12, h.dle, h.kd, h.cap, h.siz, h.l64, h.sa.below hb, h.cbl, h.bel.trans (hb.mono h.bel.size), yb, bz, fvy, wvy, fvz, Dy, Dz, Dx, Ez, hLy.below hb, hHy, hS, hT, hLz.below hb, hHz, hEz, hD, hoy, hoz⟩
/-- y's Submit. -/
theorem AlkI.submit {w0 : World} {cb : Nat} {ts : List ByteArray} {g : Nat → Nat} {T : Dk} {d k o c ay az : Nat} {wr : World} (h : AlkI w0 cb ts g T d k o c ay az wr) (hd : d < ts.length) {n : Nat} (hn : n = min (g k) (ts.length - d)) (hg1 : 1 ≤ g k) (hg12 : g k ≤ 12) (hsz : ∀ s ∈ ts, s.size ≤ 40) (h64 : ts.length ≤ 64) (hcb : cb < w0.heap.size) :
    Calls Tryd.prog 40 #[.pointer (some ⟨ay, 0, none⟩), .slice (some ⟨cb, o, none⟩) n c] wr fun e w' => e = .returned (.int .i64 0) ∧ AlkJ w0 cb ts g T d k k n o c ay az w' := by
  obtain ⟨yb, bz, fvy, fvz, Dy, Dz, Dx, Ez, hLy, hHy, hS, hT, hLz, hHz, hEz, hD, hoy, hoz⟩ := h.ex
  have hkd := h.kd
  have hlen : ((ts.drop d).take n).length = n := by rw [List.length_take, List.length_drop]; omega
  have hN := hHy.ckN
  rw [List.length_take, Nat.min_eq_left (by omega)] at hN
  have hs := submit_ok hLy hHy.nf.failed hHy.jn cb o c ((ts.drop d).take n) (h.sa.take _) (Nat.lt_of_lt_of_le hcb h.bel.size) (fun e => by have := hoy _ (.inl rfl); omega) (fun e => by have := hoy _ (.inr (.inl rfl)); omega) (fun e => by have := hoy _ (.inr (.inr (.inl e))); omega) (by simp [Value.ownBlock]) (fun s hs => hsz s (List.mem_of_mem_drop (List.mem_of_mem_take hs))) (by rw [hlen]; simp <;> omega) (by rw [hlen, hN]; simp; omega)
  rw [hlen, List.nil_append] at hs
  refine hs.mono ?_
  rintro e w' ⟨rfl, wv', hL', hR'⟩
  obtain ⟨hb4, hf4, hw4⟩ := FrL.below h.bel hR' (hoy _ (.inl rfl)) (hoy _ (.inr (.inl rfl))) (fun j hj => hoy j (.inr (.inr (.inl hj)))) (fun j hj => by simp [Value.ownBlock] at hj)
  refine ⟨rfl, ⟨by omega, by omega, by omega, hkd, h.cap, hsz, h64, ?_, hcb, hb4, yb, bz, fvy, wv', fvz, Dy, Dz, Dx, Ez, hL', hHy, hS, ?_, hLz.other hR' hD.symm, hHz, hEz, hD.step hR' (fun j hj => hLz.lt j hj), ?_, hoz⟩⟩
  · intro i s hi
    have h9 := h.sa i s hi
    rw [hb4.cell (p := ⟨cb, o + i, none⟩) hcb, ← h.bel.cell (p := ⟨cb, o + i, none⟩) hcb]; exact h9
  · rw [← groF_step hkd hd hn]; exact hT
  · intro j hj
    rcases hj with e | e | e | e
    · rw [e]; exact hoy _ (.inl rfl)
    · rw [e]; exact hoy _ (.inr (.inl rfl))
    · exact hf4 j e
    · exact hw4 j e
/-- As AlkJ, and one waits in z. -/
structure AlkZ (w0 : World) (cb : Nat) (ts : List ByteArray) (g : Nat → Nat) (T : Dk) (d k n o c ay az : Nat) (wr : World) : Prop where
  n1 : 1 ≤ n
  n12 : n ≤ 12
  dle : d + n ≤ ts.length
  kd : k ≤ d
  cap : ts.length - d ≤ c
  siz : ∀ s ∈ ts, s.size ≤ 40
  l64 : ts.length ≤ 64
  sa : SA wr cb o (ts.drop d)
  cbl : cb < w0.heap.size
  bel : Below w0.heap.size w0 wr
  ex : ∃ (yb bz : Nat) (fvy wvy fvz wvz : Value) (Dy Dz Dx : Dk) (Ez : List ByteArray) (x : ByteArray), LogAt wr ay yb fvy wvy Dy ((ts.drop d).take n) ∧ Holds Dy (ts.take d) ∧ Same Dx Dy ∧ groF g (ts.length - (k + 1)) (k + 1) (Dx.add ((ts.drop d).take n)) (ts.drop (d + n)) = T ∧ LogAt wr az bz fvz wvz Dz [x] ∧ x.size ≤ 40 ∧ Holds Dz Ez ∧ Ez.length ≤ k ∧ Dis ay yb fvy.ownBlock wvy.ownBlock az bz fvz.ownBlock wvz.ownBlock ∧ (∀ j, Own ay yb fvy.ownBlock wvy.ownBlock j → w0.heap.size ≤ j) ∧ (∀ j, Own az bz fvz.ownBlock wvz.ownBlock j → w0.heap.size ≤ j)
theorem AlkJ.zsub {w0 : World} {cb : Nat} {ts : List ByteArray} {g : Nat → Nat} {T : Dk} {d k n o c ay az : Nat} {wr : World} (h : AlkJ w0 cb ts g T d k k n o c ay az wr) {tb : Nat} {x : ByteArray} (hx : x.size ≤ 40) (hB : Blk (wr.alloc (.cells #[.string x] 9)) tb 9 [.string x]) (htb : tb = wr.heap.size) :
    Calls Tryd.prog 40 #[.pointer (some ⟨az, 0, none⟩), .slice (some ⟨tb, 0, none⟩) 1 1] (wr.alloc (.cells #[.string x] 9)) fun e w' => e = .returned (.int .i64 0) ∧ AlkZ w0 cb ts g T d k n o c ay az w' := by
  have hal : Below wr.heap.size wr (wr.alloc (.cells #[.string x] 9)) := (Below.refl _ _).alloc (Nat.le_refl _) _
  have hlz : ∃ (yb bz : Nat) (fvy wvy fvz : Value) (Dy Dz Dx : Dk) (Ez : List ByteArray), LogAt wr ay yb fvy wvy Dy ((ts.drop d).take n) ∧ Holds Dy (ts.take d) ∧ Same Dx Dy ∧ groF g (ts.length - (k + 1)) (k + 1) (Dx.add ((ts.drop d).take n)) (ts.drop (d + n)) = T ∧ LogAt wr az bz fvz (.slice none 0 0) Dz [] ∧ Holds Dz Ez ∧ Ez.length ≤ k ∧ Dis ay yb fvy.ownBlock wvy.ownBlock az bz fvz.ownBlock none ∧ (∀ j, Own ay yb fvy.ownBlock wvy.ownBlock j → w0.heap.size ≤ j) ∧ (∀ j, Own az bz fvz.ownBlock none j → w0.heap.size ≤ j) := h.ex
  obtain ⟨yb, bz, fvy, wvy, fvz, Dy, Dz, Dx, Ez, hLy, hHy, hS, hT, hLz, hHz, hEz, hD, hoy, hoz⟩ := hlz
  have hltz := hLz.lt
  have hd := h.dle
  have h64 := h.l64
  have hn1 := h.n1
  have hkd := h.kd
  have hbel := h.bel.trans (hal.mono h.bel.size)
  have hLy1 := hLy.below hal
  have hLz1 := hLz.below hal
  have hsa1 := h.sa.below hal
  have hN := hHz.ckN
  have hS1 : SA (wr.alloc (.cells #[.string x] 9)) tb 0 [x] := SA.of_blk (ss := [x]) hB
  generalize wr.alloc (.cells #[.string x] 9) = w1 at *
  have hs := submit_ok hLz1 hHz.nf.failed hHz.jn tb 0 1 [x] hS1 hB.lt (fun e => by have := hltz _ (.inl rfl); omega) (fun e => by have := hltz _ (.inr (.inl rfl)); omega) (fun e => by have := hltz _ (.inr (.inr (.inl e))); omega) (by simp [Value.ownBlock]) (fun s hs => by rw [List.mem_singleton.1 hs]; exact hx) (by simp) (by rw [hN]; simp; omega)
  rw [List.nil_append] at hs
  refine hs.mono ?_
  rintro e w' ⟨rfl, wv', hL', hR'⟩
  obtain ⟨hb4, hf4, hw4⟩ := FrL.below hbel hR' (hoz _ (.inl rfl)) (hoz _ (.inr (.inl rfl))) (fun j hj => hoz j (.inr (.inr (.inl hj)))) (fun j hj => by simp [Value.ownBlock] at hj)
  refine ⟨rfl, ⟨h.n1, h.n12, hd, hkd, h.cap, h.siz, h64, ?_, h.cbl, hb4, yb, bz, fvy, wvy, fvz, wv', Dy, Dz, Dx, Ez, x, hLy1.other hR' hD, hHy, hS, hT, hL', hx, hHz, hEz, (hD.symm.step hR' (fun j hj => hLy1.lt j hj)).symm, hoy, ?_⟩⟩
  · intro i s hi
    have h9 := h.sa i s hi
    rw [hb4.cell (p := ⟨cb, o + i, none⟩) h.cbl, ← h.bel.cell (p := ⟨cb, o + i, none⟩) h.cbl]; exact h9
  · intro j hj
    rcases hj with e | e | e | e
    · rw [e]; exact hoz _ (.inl rfl)
    · rw [e]; exact hoz _ (.inr (.inl rfl))
    · exact hf4 j e
    · exact hw4 j e
theorem AlkZ.zflush {w0 : World} {cb : Nat} {ts : List ByteArray} {g : Nat → Nat} {T : Dk} {d k n o c ay az : Nat} {wr : World} (h : AlkZ w0 cb ts g T d k n o c ay az wr) (ht : Table w0) (hg : 2 < w0.heap.size) :
    Calls Tryd.prog 42 #[.pointer (some ⟨az, 0, none⟩)] wr fun e w' => ∃ m, e = .returned (.tuple #[.int .i64 m, .int .i64 0]) ∧ AlkJ w0 cb ts g T d k (k + 1) n o c ay az w' := by
  obtain ⟨yb, bz, fvy, wvy, fvz, wvz, Dy, Dz, Dx, Ez, x, hLy, hHy, hS, hT, hLz, hx, hHz, hEz, hD, hoy, hoz⟩ := h.ex
  have hd := h.dle
  have h64 := h.l64
  have hn1 := h.n1
  have hkd := h.kd
  have hN := hHz.ckN
  have hz : ∀ s ∈ [x], s.size ≤ 40 := fun s hs => by rw [List.mem_singleton.1 hs]; exact hx
  have hfd : Dz.flushed [x] = Dz.add [x] := by
    unfold Dk.flushed
    rw [if_neg (by simp)]
  have hH4 := add_spec hHz (W := [x]) (by simp) hz (by simp; omega)
  refine (logFlush_any hLz hHz.nf.failed hHz.jn hz (by rw [hN]; simp; omega) (by rw [hHz.fre]; simp) (env_of ht hg h.bel (hoz _ (.inr (.inl rfl))) (fun j hj => hoz j (.inr (.inr (.inl hj))))) (by rw [hfd]; exact hH4.nf.failed)).mono ?_
  rintro e w' ⟨rfl, fv', hL', hR'⟩
  rw [hfd] at hL'
  obtain ⟨hb4, hf4, _⟩ := FrL.below h.bel hR' (hoz _ (.inl rfl)) (hoz _ (.inr (.inl rfl))) (fun j hj => hoz j (.inr (.inr (.inl hj)))) (fun j hj => hoz j (.inr (.inr (.inr hj))))
  refine ⟨_, rfl, ⟨h.n1, h.n12, hd, hkd, h.cap, h.siz, h64, ?_, h.cbl, hb4, yb, bz, fvy, wvy, fv', Dy, _, Dx, _, hLy.other hR' hD, hHy, hS, hT, hL', hH4, by simp; omega, (hD.symm.step hR' (fun j hj => hLy.lt j hj)).symm, hoy, ?_⟩⟩
  · intro i s hi
    have h9 := h.sa i s hi
    rw [hb4.cell (p := ⟨cb, o + i, none⟩) h.cbl, ← h.bel.cell (p := ⟨cb, o + i, none⟩) h.cbl]; exact h9
  · intro j hj
    rcases hj with e | e | e | e
    · rw [e]; exact hoz _ (.inl rfl)
    · rw [e]; exact hoz _ (.inr (.inl rfl))
    · exact hf4 j e
    · cases e

set_option maxHeartbeats 2000000 in
theorem al18_wp {c0 c1 c4 c5 c6 c7 c8 c9 c10 c16 c17 c18 c19 c20 c21 c22 c23 c24 c25 c26 c27 c28 c29 c30 c31 c32 c33 c34 c35 c36 c37 c38 c39 c40 c41 c42 c43 c44 c45 c46 c47 c48 c49 c50 c51 c52 c53 c54 c55 c56 c57 c58 c59 c60 c61 c62 c63 c64 c65 c66 c67 c68 c69 c70 c71 c72 c73 c74 c75 c76 c77 c78 c79 c80 c81 c82 c83 c84 c85 c86 c87 c88 c89 c90 c91 c92 c93 c94 c95 c96 c97 c98 c99 c100 c101 c102 c103 c104 c105 c106 : Value} (lv ov : Value) (os : List ByteArray) (cb : Nat) (ts : List ByteArray) (g : Nat → Nat) (T : Dk) (d k n r o c ay az : Nat) (w0 w : World) (Q : Exit → Act → World → Prop) (h : AlkI w0 cb ts g T d k o c ay az w) (hr : r = ts.length - d) (hd : d < ts.length) (hn : n = min (g k) r) (hg1 : 1 ≤ g k) (hg12 : g k ≤ 12) (hsz : ∀ s ∈ ts, s.size ≤ 40) (h64 : ts.length ≤ 64) (hcb : cb < w0.heap.size)
    (hR : RawI w0 lv) (hO : Strs w0 ov os) (hoz : ∀ s ∈ os, s.size ≤ 140737488355328) (ht : Table w0) (hg : 2 < w0.heap.size)
    (hQ : ∀ (u62 u63 u64 u65 u66 u67 u68 u69 u70 u71 u72 u73 u74 u75 u76 u77 u78 u79 u80 u81 u82 u83 u84 u85 u86 u87 u88 u89 u90 u91 u92 u93 u94 u95 u96 u97 u98 u99 u100 u101 : Value) (ay' : Nat) (w' : World), AlkI w0 cb ts g T (d + n) (k + 1) (if c = n then o else o + n) (c - n) ay' az w' → Q .normal ⟨#[c0, c1, lv, ov, c4, c5, c6, c7, c8, c9, c10, .pointer (some ⟨ay', 0, none⟩), .pointer (some ⟨az, 0, none⟩), .slice (some ⟨cb, if c = n then o else o + n, none⟩) (r - n) (c - n), .int .i64 (k : Int), .int .i64 (n : Int), c16, c17, c18, c19, c20, c21, c22, c23, c24, c25, c26, c27, c28, c29, c30, c31, c32, c33, c34, c35, c36, c37, c38, c39, c40, c41, c42, c43, c44, c45, c46, c47, c48, c49, c50, c51, c52, c53, c54, c55, c56, c57, c58, c59, c60, c61, u62, u63, u64, u65, u66, u67, u68, u69, u70, u71, u72, u73, u74, u75, u76, u77, u78, u79, u80, u81, u82, u83, u84, u85, u86, u87, u88, u89, u90, u91, u92, u93, u94, u95, u96, u97, u98, u99, u100, u101, c102, c103, c104, c105, c106], []⟩ w') :
    Code.wp Tryd.prog (sfxD Tryd.f9 18) Q ⟨#[c0, c1, lv, ov, c4, c5, c6, c7, c8, c9, c10, .pointer (some ⟨ay, 0, none⟩), .pointer (some ⟨az, 0, none⟩), .slice (some ⟨cb, o, none⟩) r c, .int .i64 (k : Int), .int .i64 (n : Int), c16, c17, c18, c19, c20, c21, c22, c23, c24, c25, c26, c27, c28, c29, c30, c31, c32, c33, c34, c35, c36, c37, c38, c39, c40, c41, c42, c43, c44, c45, c46, c47, c48, c49, c50, c51, c52, c53, c54, c55, c56, c57, c58, c59, c60, c61, c62, c63, c64, c65, c66, c67, c68, c69, c70, c71, c72, c73, c74, c75, c76, c77, c78, c79, c80, c81, c82, c83, c84, c85, c86, c87, c88, c89, c90, c91, c92, c93, c94, c95, c96, c97, c98, c99, c100, c101, c102, c103, c104, c105, c106], []⟩ w := by
  conv => arg 2; whnf
  have hcap := h.cap
  have hsub := h.submit hd (n := n) (by rw [hn, hr]) hg1 hg12 hsz h64 hcb
  have hsh := fun wx => slice_h wx cb o r c n (by omega)
  have HP : Aside (RawI w0 lv ∧ Table w0 ∧ 2 < w0.heap.size ∧ r = ts.length - d) := ⟨hR, ht, hg, hr⟩
  have HQ : Aside (∀ (u62 u63 u64 u65 u66 u67 u68 u69 u70 u71 u72 u73 u74 u75 u76 u77 u78 u79 u80 u81 u82 u83 u84 u85 u86 u87 u88 u89 u90 u91 u92 u93 u94 u95 u96 u97 u98 u99 u100 u101 : Value) (ay' : Nat) (w' : World), AlkI w0 cb ts g T (d + n) (k + 1) (if c = n then o else o + n) (c - n) ay' az w' → Q .normal ⟨#[c0, c1, lv, ov, c4, c5, c6, c7, c8, c9, c10, .pointer (some ⟨ay', 0, none⟩), .pointer (some ⟨az, 0, none⟩), .slice (some ⟨cb, if c = n then o else o + n, none⟩) (r - n) (c - n), .int .i64 (k : Int), .int .i64 (n : Int), c16, c17, c18, c19, c20, c21, c22, c23, c24, c25, c26, c27, c28, c29, c30, c31, c32, c33, c34, c35, c36, c37, c38, c39, c40, c41, c42, c43, c44, c45, c46, c47, c48, c49, c50, c51, c52, c53, c54, c55, c56, c57, c58, c59, c60, c61, u62, u63, u64, u65, u66, u67, u68, u69, u70, u71, u72, u73, u74, u75, u76, u77, u78, u79, u80, u81, u82, u83, u84, u85, u86, u87, u88, u89, u90, u91, u92, u93, u94, u95, u96, u97, u98, u99, u100, u101, c102, c103, c104, c105, c106], []⟩ w') := hQ
  clear h hQ hR ht hg hr hn hg1 hg12 hsz h64 hcb hcap hd
  obtain ⟨p, oc, rfl, hcell⟩ := hO
  refine wp_seq_k ?_
  intro K hK
  have HK : Aside (∀ a w, _ → K a w) := hK
  clear hK
  go_wp2_with fail
  refine hsub.mono ?_
  rintro e w1 ⟨rfl, h1⟩
  have H1 : Aside (AlkJ w0 cb ts g T d k k n o c ay az w1) := h1
  clear h1 hsub
  go_wp2
  refine HK.out _ _ ?_
  clear HK
  refine wp_seq_k ?_
  intro K hK
  have HK : Aside (∀ a w, _ → K a w) := hK
  clear hK
  by_cases hko : k < os.length
  · have hko' : (k : Int) < (os.length : Int) := by omega
    obtain ⟨s, hs⟩ : ∃ s, os[k]? = some s := ⟨_, List.getElem?_eq_getElem hko⟩
    obtain ⟨gb, go', rfl, hc⟩ := hcell k s hs
    have hc1 : w1.cell? ⟨gb, go' + k, none⟩ = some (.string s) := by
      rw [H1.out.bel.cell (World.block_lt_of_cell? _ _ hc)]; exact hc
    have hcut := cutE_any s w1 (hoz s (List.mem_of_getElem? hs))
    clear hc hcell hoz hs
    go_wp2_with fail
    refine hcut.mono ?_
    rintro e w2 ⟨x, rfl, hx, rfl⟩
    have hzs := H1.out.zsub hx (Blk.new w2 9 [.string x]) rfl
    clear hcut
    go_wp2_with fail
    refine hzs.mono ?_
    rintro e w3 ⟨rfl, h3⟩
    have hzf := h3.zflush HP.out.2.1 HP.out.2.2.1
    clear hzs h3
    go_wp2_with fail
    refine hzf.mono ?_
    rintro e w4 ⟨m, rfl, h4⟩
    have H4 : Aside (AlkJ w0 cb ts g T d k (k + 1) n o c ay az w4) := h4
    clear hzf h4
    go_wp2
    refine HK.out _ _ ?_
    refine al22_wp lv cb ts g T d k n r o c ay az w0 w4 Q H4.out HP.out.2.2.2 HP.out.1 HP.out.2.1 HP.out.2.2.1 ?_
    intro u81 u82 u83 u84 u85 u86 u87 u88 u89 u90 u91 u92 u93 u94 u95 u96 u97 u98 u99 u100 u101 ay' w' h5
    exact HQ.out _ _ _ _ _ _ _ _ _ _ _ _ _ _ _ _ _ _ _ _ _ _ _ _ _ _ _ _ _ _ _ _ _ _ _ _ _ _ _ _ _ _ h5
  · have hko' : ¬ (k : Int) < (os.length : Int) := by omega
    clear hcell hoz
    go_wp2
    refine HK.out _ _ ?_
    refine al22_wp lv cb ts g T d k n r o c ay az w0 w1 Q (H1.out.more (Nat.le_succ k)) HP.out.2.2.2 HP.out.1 HP.out.2.1 HP.out.2.2.1 ?_
    intro u81 u82 u83 u84 u85 u86 u87 u88 u89 u90 u91 u92 u93 u94 u95 u96 u97 u98 u99 u100 u101 ay' w' h5
    exact HQ.out _ _ _ _ _ _ _ _ _ _ _ _ _ _ _ _ _ _ _ _ _ _ _ _ _ _ _ _ _ _ _ _ _ _ _ _ _ _ _ _ _ _ h5
end Go.Proofs.YtlhohmlpcgbliaaDoor
namespace Go.Proofs.YtlhohmlpcgbliaaDoor
set_option maxRecDepth 100000
open Go.RowKit
attribute [local go_sem ↓] Go.wp_at_zero Go.wp_at_succ

/-- A text's first 40 bytes. -/
def cutS (s : ByteArray) : ByteArray := if s.size ≤ 40 then s else s.extract 0 40
theorem cutS_size (s : ByteArray) : (cutS s).size ≤ 40 := by
  unfold cutS
  split
  · assumption
  · rw [ByteArray.size_extract]; omega
set_option maxHeartbeats 400000 in
theorem cutS_any (s : ByteArray) (w : World) (hs : s.size ≤ 140737488355328) : Calls Tryd.prog 41 #[.string s] w fun e w' => e = .returned (.string (cutS s)) ∧ w' = w := by
  by_cases h : s.size ≤ 40
  · have HC : Aside (cutS s = s) := if_pos h
    generalize cutS s = t at *
    go_enter Tryd.func41, Tryd.ntmps41
    go_wp2
    go_ret
    exact ⟨by rw [HC.out]; rfl, rfl⟩
  · have HC : Aside (cutS s = s.extract 0 40) := if_neg h
    generalize cutS s = t at *
    go_enter Tryd.func41, Tryd.ntmps41
    go_wp2
    go_ret
    exact ⟨by rw [HC.out]; rfl, rfl⟩

theorem Dk.script_ok {D : Dk} (h : D.ok) (a k : Int) : (D.script a k).ok := ⟨h.las, h.sec, h.fre, h.few⟩
theorem Dk.script_like (D : Dk) (a k : Int) : Like (D.script a k) D := ⟨rfl, rfl⟩
theorem infoScr : (Tryd.prog.info? 134).map (·.size) = some 3 := by kernel_rfl

set_option maxHeartbeats 1000000 in
theorem diskFail_any (b : Nat) (after keep : Int) (fv : Value) (D : Dk) (w : World) (h : DiskAt w b fv D) :
    Calls Tryd.prog 81 #[.pointer (some ⟨b, 0, none⟩), .int .i64 after, .int .i64 keep] w fun e w' => e = .returned (.tuple #[]) ∧ DiskAt w' b fv (D.script after keep) ∧ Fr b fv.ownBlock fv.ownBlock w w' := by
  have h1 : DiskAt (w.setCell ⟨b, 25602, none⟩ (.bool true)) b fv { D with set := true } := h.put 2 (.bool true) fv { D with set := true } ⟨h.ok.las, h.ok.sec, h.ok.fre, h.ok.few⟩ rfl rfl rfl rfl
  have h2 : DiskAt ((w.setCell ⟨b, 25602, none⟩ (.bool true)).setCell ⟨b, 25603, none⟩ (.int .i64 after)) b fv { D with set := true, left := after } := h1.put 3 (.int .i64 after) fv { D with set := true, left := after } ⟨h.ok.las, h.ok.sec, h.ok.fre, h.ok.few⟩ rfl rfl rfl rfl
  have HD : Aside (DiskAt (((w.setCell ⟨b, 25602, none⟩ (.bool true)).setCell ⟨b, 25603, none⟩ (.int .i64 after)).setCell ⟨b, 25604, none⟩ (.int .i64 keep)) b fv (D.script after keep)) := h2.put 4 (.int .i64 keep) fv (D.script after keep) (Dk.script_ok h.ok _ _) rfl rfl rfl rfl
  have HF : Aside (Fr b fv.ownBlock fv.ownBlock w (((w.setCell ⟨b, 25602, none⟩ (.bool true)).setCell ⟨b, 25603, none⟩ (.int .i64 after)).setCell ⟨b, 25604, none⟩ (.int .i64 keep))) := ((Fr.setCell _ _ _ _ _ _ (.inr rfl)).trans (Fr.setCell _ _ _ _ _ _ (.inr rfl))).trans (Fr.setCell _ _ _ _ _ _ (.inr rfl))
  have c0 := h.cell 2
  have c1 := h1.cell 3
  have c2 := h2.cell 4
  have f0 := h.blk.frozen 25602
  have f1 := h1.blk.frozen 25603
  have f2 := h2.blk.frozen 25604
  simp only [List.getElem?_cons_succ, List.getElem?_cons_zero, Nat.reduceAdd] at c0 c1 c2
  clear h h1 h2
  go_enter Tryd.func81, Tryd.ntmps81
  go_wp2
  go_end0
  exact ⟨rfl, HD.out, HF.out⟩

set_option maxHeartbeats 1000000 in
theorem logFail_ok {w : World} {a b : Nat} {fv wv : Value} {D : Dk} {W : List ByteArray} (h : LogAt w a b fv wv D W) (hf : D.failed = false) (after : Nat) (keep : Int) : Calls Tryd.prog 50 #[.pointer (some ⟨a, 0, none⟩), .int .i64 (after : Int), .int .i64 keep] w fun e w' => e = .returned (.int .i64 0) ∧ LogAt w' a b fv wv (D.script (after : Int) keep) W ∧ FrL a b fv.ownBlock wv.ownBlock fv.ownBlock wv.ownBlock w w' := by
  have hc := h.blk.cell 0
  simp only [List.getElem?_cons_zero] at hc
  have hd := down_any h
  rw [hf] at hd
  have hp := diskFail_any b (after : Int) keep fv D w h.disk
  go_enter Tryd.func50, Tryd.ntmps50
  go_wp2_with fail
  refine hd.mono ?_
  rintro e w1 ⟨rfl, rfl⟩
  clear hf
  have hn : ¬ (after : Int) < 0 := by omega
  go_wp2_with fail
  refine hp.mono ?_
  rintro e w2 ⟨rfl, hd2, hr2⟩
  go_wp2
  go_ret
  exact ⟨rfl, h.fr hr2 hd2, FrL.of_fr hr2⟩

theorem wrA_len (start each : Nat) : ∀ (f : Nat) (R : Dk) (i : Nat) (cs : List (List Nat)), (wrA start each f R i cs).length ≤ f := by
  intro f
  induction f with
  | zero => intro R i cs; exact Nat.le_refl _
  | succ f ih =>
    intro R i cs
    rw [wrA]
    split
    · exact Nat.zero_le _
    · rw [List.length_cons]; exact Nat.succ_le_succ (ih _ _ _)
theorem grA_len : ∀ (f : Nat) (R : Dk) (first n l size : Nat), n ≤ 76 → (grA f R first n l size).length ≤ f * 100 := by
  intro f
  induction f with
  | zero => intro R _ _ _ _ _; exact Nat.zero_le _
  | succ f ih =>
    intro R first n l size hn
    rw [grA]
    split
    · rw [List.length_append]
      have h1 := wrA_len (tileAt l).1 4 ((R.hashes l (first / size) (n / size)).map bts).length R (first / size) ((R.hashes l (first / size) (n / size)).map bts)
      have h2 : ((R.hashes l (first / size) (n / size)).map bts).length ≤ 76 := by
        have : n / size ≤ n := Nat.div_le_self _ _
        rw [List.length_map]
        unfold Dk.hashes
        rw [List.length_map, List.length_range]
        generalize n / size = q1 at *
        generalize first / size = q0 at *
        omega
      have h3 := ih (R.rowWrite (tileAt l).1 4 (first / size) ((R.hashes l (first / size) (n / size)).map bts)) first n (l + 1) (size * 4) hn
      omega
    · exact Nat.zero_le _
theorem adA_len {R : Dk} {ss : List ByteArray} (hl : R.ckN + ss.length ≤ 76) : 3 ≤ (adA R ss).length ∧ (adA R ss).length ≤ 10000 := by
  unfold adA enA
  have h1 := wrA_len 2 3 (packs ss).length R 0 (packs ss)
  rw [packs_len] at h1
  have hj : (jwA R R.ckN ss).length = (wrA 2 3 (packs ss).length R 0 (packs ss)).length + 3 := by simp [jwA]
  rw [List.length_append, hj, packs_len]
  refine ⟨by omega, ?_⟩
  split
  · have h2 := wrA_len 6 3 (packs ss).length (R.jwrite R.ckN ss) R.ckN (packs ss)
    have h3 := grA_len (R.ckN + ss.length) ((R.jwrite R.ckN ss).rowWrite 6 3 R.ckN (packs ss)) R.ckN (R.ckN + ss.length) 0 1 hl
    rw [packs_len] at h2
    have h4 : (ptA (R.jwrite R.ckN ss) R.ckN ss ++ (ckA ((R.jwrite R.ckN ss).put R.ckN ss) (R.ckN + ss.length) ++ rmA)).length = (wrA 6 3 (packs ss).length (R.jwrite R.ckN ss) R.ckN (packs ss)).length + (grA (R.ckN + ss.length) ((R.jwrite R.ckN ss).rowWrite 6 3 R.ckN (packs ss)) R.ckN (R.ckN + ss.length) 0 1).length + 5 := by
      simp [ptA, ckA, rmA]; omega
    rw [h4, packs_len]
    omega
  · have : rmA.length = 2 := rfl
    omega
/-- The acts of a disk without a script are counted. -/
theorem nf_run_acts : ∀ (xs : List (Option (Nat × List Nat))) (R : Dk), R.nf → 0 ≤ R.acts → R.acts + xs.length ≤ 4611686018427387904 → (R.run xs).acts = R.acts + xs.length := by
  intro xs
  induction xs with
  | nil => intro R _ _ _; simp [Dk.run]
  | cons a r ih =>
    intro R hR h0 h1
    rw [List.length_cons] at h1
    have hw : wrap64 (R.acts + 1) = R.acts + 1 := by unfold wrap64; omega
    have hd : (R.doA a).acts = R.acts + 1 := by
      cases a with
      | none => show R.flush.acts = _; rw [hR.flush_eq]; exact hw
      | some x => show (R.write x.1 x.2).acts = _; rw [hR.write_eq]; exact hw
    show ((R.doA a).run r).acts = _
    rw [ih _ (hR.doA a) (by omega) (by rw [hd]; omega), hd, List.length_cons]
    omega
theorem nf_add_acts {R : Dk} (hR : R.nf) (ss : List ByteArray) (hl : R.ckN + ss.length ≤ 76) (h0 : 0 ≤ R.acts) (h1 : R.acts ≤ 1000000) : (R.add ss).acts = R.acts + (adA R ss).length := by
  have h2 := adA_len hl
  have h3 : R.add ss = R.run (adA R ss) := (does_add hR ss).at
  rw [h3, nf_run_acts _ _ hR h0 (by omega)]
end Go.Proofs.YtlhohmlpcgbliaaDoor
namespace Go.Proofs.YtlhohmlpcgbliaaDoor
set_option maxRecDepth 100000
open Go.RowKit
attribute [local go_sem ↓] Go.wp_at_zero Go.wp_at_succ

/-- A log whose blocks are all newer than a world B, of which nothing has changed. -/
structure Lg (B w : World) (a : Nat) (D : Dk) (W : List ByteArray) : Prop where
  bel : Below B.heap.size B w
  ex : ∃ (b : Nat) (fv wv : Value), LogAt w a b fv wv D W ∧ ∀ j, Own a b fv.ownBlock wv.ownBlock j → B.heap.size ≤ j
theorem Lg.below {B w w' : World} {a : Nat} {D : Dk} {W : List ByteArray} (h : Lg B w a D W) (hb : Below w.heap.size w w') : Lg B w' a D W := by
  obtain ⟨b, fv, wv, hL, ho⟩ := h.ex
  exact ⟨h.bel.trans (hb.mono h.bel.size), b, fv, wv, hL.below hb, ho⟩
theorem Lg.of_new {w w' : World} {a b : Nat} {D : Dk} (hL : LogAt w' a b (.slice none 0 0) (.slice none 0 0) D []) (hb : Below w.heap.size w w') (ha : w.heap.size ≤ a) (hbb : w.heap.size ≤ b) : Lg w w' a D [] := by
  refine ⟨hb, b, _, _, hL, ?_⟩
  intro j hj
  rcases hj with e | e | e | e
  · omega
  · omega
  · cases e
  · cases e
theorem Lg.copied {w : World} {a b : Nat} {fv wv : Value} {D : Dk} {W : List ByteArray} {E : List ByteArray} (h : LogAt w a b fv wv D W) (hH : Holds (Dk.of D.las.flatten) E) (ht : Table w) (hg : 2 < w.heap.size) :
    Calls Tryd.prog 43 #[.pointer (some ⟨a, 0, none⟩)] w fun e w' => ∃ a', e = .returned (.pointer (some ⟨a', 0, none⟩)) ∧ Lg w w' a' (Dk.of D.las.flatten) [] := by
  refine (copied_ok h hH ht hg).mono ?_
  rintro e w' ⟨a', b', rfl, ha, hb, hL, hbl⟩
  exact ⟨a', rfl, Lg.of_new hL hbl ha hb⟩
theorem Lg.submit {B w : World} {a : Nat} {D : Dk} (h : Lg B w a D []) (hf : D.failed = false) (hz1 : D.read 1 = zer) (x : ByteArray) (hx : x.size ≤ 40) (hn : D.ckN + 1 ≤ 64) :
    Calls Tryd.prog 40 #[.pointer (some ⟨a, 0, none⟩), .slice (some ⟨w.heap.size, 0, none⟩) 1 1] (w.alloc (.cells #[.string x] 9)) fun e w' => e = .returned (.int .i64 0) ∧ Lg B w' a D [x] := by
  have hal : Below w.heap.size w (w.alloc (.cells #[.string x] 9)) := (Below.refl _ _).alloc (Nat.le_refl _) _
  obtain ⟨b, fv, wv, hL, ho⟩ := h.ex
  have hlt := hL.lt
  have hB : Blk (w.alloc (.cells #[.string x] 9)) w.heap.size 9 [.string x] := Blk.new w 9 [.string x]
  have hS1 : SA (w.alloc (.cells #[.string x] 9)) w.heap.size 0 [x] := SA.of_blk (ss := [x]) hB
  have hs := submit_ok (hL.below hal) hf hz1 w.heap.size 0 1 [x] hS1 hB.lt (fun e => by have := hlt _ (.inl rfl); omega) (fun e => by have := hlt _ (.inr (.inl rfl)); omega) (fun e => by have := hlt _ (.inr (.inr (.inl e))); omega) (fun e => by have := hlt _ (.inr (.inr (.inr e))); omega) (fun s hs => by rw [List.mem_singleton.1 hs]; exact hx) (by simp) (by simp; omega)
  rw [List.nil_append] at hs
  refine hs.mono ?_
  rintro e w' ⟨rfl, wv', hL', hR'⟩
  obtain ⟨hb4, hf4, hw4⟩ := FrL.below (h.bel.trans (hal.mono h.bel.size)) hR' (ho _ (.inl rfl)) (ho _ (.inr (.inl rfl))) (fun j hj => ho j (.inr (.inr (.inl hj)))) (fun j hj => ho j (.inr (.inr (.inr hj))))
  refine ⟨rfl, hb4, b, fv, wv', hL', ?_⟩
  intro j hj
  rcases hj with e | e | e | e
  · rw [e]; exact ho _ (.inl rfl)
  · rw [e]; exact ho _ (.inr (.inl rfl))
  · exact hf4 j e
  · exact hw4 j e
theorem Lg.flush {B w : World} {a : Nat} {D : Dk} {W : List ByteArray} (h : Lg B w a D W) (hf : D.failed = false) (hz1 : D.read 1 = zer) (hz : ∀ s ∈ W, s.size ≤ 40) (hl : D.ckN + W.length ≤ 76) (hfe : D.fre = []) (h0 : 0 < W.length) (hok : (D.add W).failed = false) (ht : Table B) (hg : 2 < B.heap.size) :
    Calls Tryd.prog 42 #[.pointer (some ⟨a, 0, none⟩)] w fun e w' => e = .returned (.tuple #[.int .i64 ((D.add W).ckN : Int), .int .i64 0]) ∧ Lg B w' a (D.add W) [] := by
  obtain ⟨b, fv, wv, hL, ho⟩ := h.ex
  have hfd : D.flushed W = D.add W := by
    unfold Dk.flushed
    rw [if_neg (by omega)]
  have hs := logFlush_any hL hf hz1 hz hl (by rw [hfe]; simp) (env_of ht hg h.bel (ho _ (.inr (.inl rfl))) (fun j hj => ho j (.inr (.inr (.inl hj))))) (by rw [hfd]; exact hok)
  rw [hfd] at hs
  refine hs.mono ?_
  rintro e w' ⟨rfl, fv', hL', hR'⟩
  obtain ⟨hb4, hf4, _⟩ := FrL.below h.bel hR' (ho _ (.inl rfl)) (ho _ (.inr (.inl rfl))) (fun j hj => ho j (.inr (.inr (.inl hj)))) (fun j hj => ho j (.inr (.inr (.inr hj))))
  refine ⟨rfl, hb4, b, fv', _, hL', ?_⟩
  intro j hj
  rcases hj with e | e | e | e
  · rw [e]; exact ho _ (.inl rfl)
  · rw [e]; exact ho _ (.inr (.inl rfl))
  · exact hf4 j e
  · cases e
theorem Lg.flush_down {B w : World} {a : Nat} {D : Dk} {W : List ByteArray} (h : Lg B w a D W) (hf : D.failed = false) (hz1 : D.read 1 = zer) (hz : ∀ s ∈ W, s.size ≤ 40) (hl : D.ckN + W.length ≤ 76) (hfe : D.fre = []) (h0 : 0 < W.length) (hok : (D.add W).failed = true) (ht : Table B) (hg : 2 < B.heap.size) :
    Calls Tryd.prog 42 #[.pointer (some ⟨a, 0, none⟩)] w fun e w' => e = .returned (.tuple #[.int .i64 0, .int .i64 3]) ∧ Lg B w' a (D.add W) W := by
  obtain ⟨b, fv, wv, hL, ho⟩ := h.ex
  have hs := logFlush_down hL hf hz1 hz hl (by rw [hfe]; simp) (env_of ht hg h.bel (ho _ (.inr (.inl rfl))) (fun j hj => ho j (.inr (.inr (.inl hj))))) h0 hok
  refine hs.mono ?_
  rintro e w' ⟨rfl, fv', hL', hR'⟩
  obtain ⟨hb4, hf4, hw4⟩ := FrL.below h.bel hR' (ho _ (.inl rfl)) (ho _ (.inr (.inl rfl))) (fun j hj => ho j (.inr (.inr (.inl hj)))) (fun j hj => ho j (.inr (.inr (.inr hj))))
  refine ⟨rfl, hb4, b, fv', wv, hL', ?_⟩
  intro j hj
  rcases hj with e | e | e | e
  · rw [e]; exact ho _ (.inl rfl)
  · rw [e]; exact ho _ (.inr (.inl rfl))
  · exact hf4 j e
  · exact hw4 j e
theorem Lg.acts {B w : World} {a : Nat} {D : Dk} {W : List ByteArray} (h : Lg B w a D W) : Calls Tryd.prog 45 #[.pointer (some ⟨a, 0, none⟩)] w fun e w' => e = .returned (.int .i64 D.acts) ∧ w' = w := by
  obtain ⟨b, fv, wv, hL, ho⟩ := h.ex
  exact logActs_any hL
theorem Lg.bytes {B w : World} {a : Nat} {D : Dk} {W : List ByteArray} (h : Lg B w a D W) : Calls Tryd.prog 44 #[.pointer (some ⟨a, 0, none⟩)] w fun e w' => e = .returned (.string (strOf D.las.flatten)) ∧ Lg B w' a D W := by
  obtain ⟨b, fv, wv, hL, ho⟩ := h.ex
  refine (logBytes_any hL).mono ?_
  rintro e w' ⟨rfl, hb⟩
  exact ⟨rfl, h.below hb⟩
theorem Lg.fail {B w : World} {a : Nat} {D : Dk} {W : List ByteArray} (h : Lg B w a D W) (hf : D.failed = false) (after : Nat) (keep : Int) : Calls Tryd.prog 50 #[.pointer (some ⟨a, 0, none⟩), .int .i64 (after : Int), .int .i64 keep] w fun e w' => e = .returned (.int .i64 0) ∧ Lg B w' a (D.script (after : Int) keep) W := by
  obtain ⟨b, fv, wv, hL, ho⟩ := h.ex
  refine (logFail_ok hL hf after keep).mono ?_
  rintro e w' ⟨rfl, hL', hR'⟩
  obtain ⟨hb4, hf4, hw4⟩ := FrL.below h.bel hR' (ho _ (.inl rfl)) (ho _ (.inr (.inl rfl))) (fun j hj => ho j (.inr (.inr (.inl hj)))) (fun j hj => ho j (.inr (.inr (.inr hj))))
  exact ⟨rfl, hb4, b, fv, wv, hL', ho⟩

/-- A disk with a script over the adding of some entries: it lasts, or fails when the acts are done. -/
theorem script_in {Y R : Dk} {E : List ByteArray} (hH : Holds R E) (hL : Like Y R) (hf : Y.failed = false) (hs : Y.set = true) (W : List ByteArray) (hl : E.length + W.length ≤ 64) (h1 : ((adA R W).length : Int) ≤ Y.left) (h2 : Y.left ≤ 9223372036854775807) (h3 : 0 ≤ Y.acts) (h4 : Y.acts ≤ 1000000) :
    (Y.add W).failed = false ∧ (Y.add W).set = true ∧ (Y.add W).left = Y.left - (adA R W).length ∧ (Y.add W).acts = Y.acts + (adA R W).length ∧ (Y.add W).keep = Y.keep ∧ Like (Y.add W) (R.add W) := by
  have hd := does_add hH.nf W
  have e1 : Y.add W = Y.run (adA R W) := hd Y (.inr hL)
  have e2 : R.add W = R.run (adA R W) := hd.at
  have hb := adA_len (R := R) (ss := W) (by rw [hH.ckN]; omega)
  rw [e1, e2]
  exact run_in _ Y R hH.nf hL hf hs h1 h2 h3 (by omega)
theorem script_out {Y R : Dk} {E : List ByteArray} (hH : Holds R E) (hL : Like Y R) (hf : Y.failed = false) (hs : Y.set = true) (W : List ByteArray) (hl : E.length + W.length ≤ 64) (t : Nat) (ht : Y.left = t) (h1 : t < (adA R W).length) (h3 : 0 ≤ Y.acts) (h4 : Y.acts ≤ 1000000) :
    (Y.add W).failed = true ∧ (Y.add W).acts = Y.acts + t ∧ (Y.add W).fre = [] ∧ (Y.add W).las = failL Y.keep 0 (R.run ((adA R W).take t)).fre (R.run ((adA R W).take t)).las := by
  have hd := does_add hH.nf W
  have e1 : Y.add W = Y.run (adA R W) := hd Y (.inr hL)
  have hb := adA_len (R := R) (ss := W) (by rw [hH.ckN]; omega)
  rw [e1]
  exact run_out _ Y R hH.nf hL hf hs t ht h1 (by omega) h3 (by omega)
end Go.Proofs.YtlhohmlpcgbliaaDoor
namespace Go.Proofs.YtlhohmlpcgbliaaDoor
set_option maxRecDepth 100000
open Go.RowKit
attribute [local go_sem ↓] Go.wp_at_zero Go.wp_at_succ

set_option maxHeartbeats 2000000 in
theorem storeOpen_any (s : ByteArray) (w : World) (ht : Table w) (hg : 2 < w.heap.size) :
    Calls Tryd.prog 83 #[.string s] w fun e w' => Below w.heap.size w w' ∧ ((e = .returned (.tuple #[.agg #[.pointer none], .bool false]) ∧ ¬ (s.size = 25600 ∧ (Dk.of (bts s)).sound)) ∨ ∃ b, e = .returned (.tuple #[.agg #[.pointer (some ⟨b, 0, none⟩)], .bool true]) ∧ w.heap.size ≤ b ∧ s.size = 25600 ∧ (Dk.of (bts s)).sound ∧ DiskAt w' b (.slice none 0 0) (Dk.of (bts s))) := by
  have hb0 : Below w.heap.size w (w.alloc (.cells #[.pointer none] 97)) := (Below.refl _ _).alloc (Nat.le_refl _) _
  have hB0 : Blk (w.alloc (.cells #[.pointer none] 97)) w.heap.size 97 [.pointer none] := Blk.new w _ _
  have HT : Aside (Table w ∧ 2 < w.heap.size) := ⟨ht, hg⟩
  clear ht hg
  by_cases hs : s.size = 25600
  · have hop := open_any s (w.alloc (.cells #[.pointer none] 97)) hs
    generalize Dk.of (bts s) = D at *
    have HD : Aside (True ∧ s.size = 25600) := ⟨trivial, hs⟩
    clear hs
    go_enter Tryd.func83, Tryd.ntmps83
    go_wp2_with fail
    have hs0 : w.heap.size < (w.alloc (.cells #[.pointer none] 97)).heap.size := by simp
    generalize w.alloc (.cells #[.pointer none] 97) = w0 at *
    refine hop.mono ?_
    rintro e w1 ⟨rfl, hd1, hb1⟩
    clear hop
    have hw1 : Below w.heap.size w w1 := hb0.trans (hb1.mono hb0.size)
    have hB1 := hB0.below hb1 hs0
    have hso := sound_any w0.heap.size _ D w1 hd1 (table_at hw1 HT.out.2 HT.out.1) (Nat.lt_of_lt_of_le HT.out.2 hw1.size)
    go_wp2_with fail
    refine hso.mono ?_
    rintro e w2 ⟨r, rfl, hr, hb2⟩
    clear hso
    have HR : Aside (r = true ↔ D.sound) := hr
    clear hr
    have hw2 := hw1.trans (hb2.mono hw1.size)
    have hB2 := hB1.below hb2 hB1.lt
    have hd2 := hd1.below hb2
    have hc0 := hB2.cell 0
    have hf0 := hB2.frozen 0
    simp only [List.getElem?_cons_zero] at hc0
    cases r with
    | true =>
      have HB := hB2.set 0 (.pointer (some ⟨w0.heap.size, 0, none⟩))
      simp only [List.set_cons_zero] at HB
      have Hb : Below w.heap.size w (w2.setCell ⟨w.heap.size, 0, none⟩ (.pointer (some ⟨w0.heap.size, 0, none⟩))) := hw2.setCell (Nat.le_refl _) _
      have hd6 : DiskAt (w2.setCell ⟨w.heap.size, 0, none⟩ (.pointer (some ⟨w0.heap.size, 0, none⟩))) w0.heap.size (.slice none 0 0) D := ⟨hd2.ok, hd2.blk.set_other _ _ (by simp only; omega), ownsRow_setCell_other hd2.row (by simp [Value.ownBlock]) _, hd2.apart⟩
      go_wp2_with fail
      refine bodyPost_ret (results_ct Tryd.results83 (by rfl) (by rfl) HB.range Tryd.underlying97 rfl infoSto) rfl ⟨Hb, .inr ⟨w0.heap.size, rfl, by omega, HD.out.2, ?_, ?_⟩⟩
      · exact HR.out.1 trivial
      · exact hd6
    | false =>
      have HB := hB2.set 0 (.pointer none)
      simp only [List.set_cons_zero] at HB
      have Hb : Below w.heap.size w (w2.setCell ⟨w.heap.size, 0, none⟩ (.pointer none)) := hw2.setCell (Nat.le_refl _) _
      go_wp2_with fail
      refine bodyPost_ret (results_ct Tryd.results83 (by rfl) (by rfl) HB.range Tryd.underlying97 rfl infoSto) rfl ⟨Hb, .inl ⟨rfl, ?_⟩⟩
      rintro ⟨_, hh⟩
      exact absurd (HR.out.2 hh) (by simp)
  · have hop := open_bad s (w.alloc (.cells #[.pointer none] 97)) hs
    have HS : Aside (¬ s.size = 25600) := hs
    clear hs
    go_enter Tryd.func83, Tryd.ntmps83
    go_wp2_with fail
    generalize w.alloc (.cells #[.pointer none] 97) = w0 at *
    refine hop.mono ?_
    rintro e w1 ⟨rfl, rfl⟩
    clear hop
    have hc0 := hB0.cell 0
    have hf0 := hB0.frozen 0
    simp only [List.getElem?_cons_zero] at hc0
    have HB := hB0.set 0 (.pointer none)
    simp only [List.set_cons_zero] at HB
    have Hb : Below w.heap.size w (w1.setCell ⟨w.heap.size, 0, none⟩ (.pointer none)) := hb0.setCell (Nat.le_refl _) _
    go_wp2_with fail
    exact bodyPost_ret (results_ct Tryd.results83 (by rfl) (by rfl) HB.range Tryd.underlying97 rfl infoSto) rfl ⟨Hb, .inl ⟨rfl, fun hh => HS.out hh.1⟩⟩

set_option maxHeartbeats 2000000 in
theorem groveOpen_any (s : ByteArray) (w : World) (ht : Table w) (hg : 2 < w.heap.size) :
    Calls Tryd.prog 56 #[.string s] w fun e w' => Below w.heap.size w w' ∧ ((e = .returned (.tuple #[.pointer none, .int .i64 2]) ∧ ¬ (s.size = 25600 ∧ (Dk.of (bts s)).sound)) ∨ ∃ a, e = .returned (.tuple #[.pointer (some ⟨a, 0, none⟩), .int .i64 0]) ∧ s.size = 25600 ∧ (Dk.of (bts s)).sound ∧ Lg w w' a (Dk.of (bts s)) []) := by
  have hop0 := storeOpen_any s w ht hg
  clear ht hg
  generalize Dk.of (bts s) = D at *
  go_enter Tryd.func56, Tryd.ntmps56
  go_wp2_with fail
  refine hop0.mono ?_
  rintro e w1 ⟨hb1, ⟨rfl, hn⟩ | ⟨b, rfl, hb, hs, hso, hd1⟩⟩
  · clear hop0
    have HN : Aside (¬ (s.size = 25600 ∧ D.sound)) := hn
    clear hn
    have hb2 : Below w.heap.size w (w1.alloc (.cells #[.pointer none] 97)) := hb1.alloc hb1.size _
    go_wp2
    go_ret2
    exact ⟨hb2, .inl ⟨rfl, HN.out⟩⟩
  · clear hop0
    have HS : Aside (s.size = 25600 ∧ D.sound) := ⟨hs, hso⟩
    clear hs hso
    have hb2 : Below w.heap.size w (w1.alloc (.cells #[.pointer (some ⟨b, 0, none⟩)] 97)) := hb1.alloc hb1.size _
    have hB2 : Blk (w1.alloc (.cells #[.pointer (some ⟨b, 0, none⟩)] 97)) w1.heap.size 97 [.pointer (some ⟨b, 0, none⟩)] := Blk.new w1 _ _
    have hc2 := hB2.cell 0
    simp only [List.getElem?_cons_zero] at hc2
    have hd3 := (hd1.alloc (.cells #[.pointer (some ⟨b, 0, none⟩)] 97)).alloc (.cells #[.pointer (some ⟨b, 0, none⟩), .slice none 0 0] 99)
    have hA : Blk ((w1.alloc (.cells #[.pointer (some ⟨b, 0, none⟩)] 97)).alloc (.cells #[.pointer (some ⟨b, 0, none⟩), .slice none 0 0] 99)) (w1.heap.size + 1) 99 [.pointer (some ⟨b, 0, none⟩), .slice none 0 0] := by
      have := Blk.new (w1.alloc (.cells #[.pointer (some ⟨b, 0, none⟩)] 97)) 99 [.pointer (some ⟨b, 0, none⟩), .slice none 0 0]
      rw [show (w1.alloc (.cells #[.pointer (some ⟨b, 0, none⟩)] 97)).heap.size = w1.heap.size + 1 by simp] at this
      exact this
    have hlt := hd1.lt
    have hs1 := hb1.size
    go_wp2
    go_ret2
    refine ⟨hb2.alloc hb2.size _, .inr ⟨w1.heap.size + 1, rfl, HS.out.1, HS.out.2, ?_⟩⟩
    exact Lg.of_new ⟨hd3, hA, World.ownsRow_nil _ _ _ _, by omega, by simp [Value.ownBlock], by simp [Value.ownBlock], by simp [Value.ownBlock], fun k hk => by simp [Value.ownBlock] at hk⟩ (hb2.alloc hb2.size _) (by omega) hb
end Go.Proofs.YtlhohmlpcgbliaaDoor
