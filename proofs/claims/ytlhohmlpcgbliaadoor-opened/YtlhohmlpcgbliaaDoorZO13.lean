import Derived.Test.YtlhohmlpcgbliaaDoorZO5
namespace Go.Proofs.YtlhohmlpcgbliaaDoor
set_option maxRecDepth 100000
open Go.RowKit
attribute [local go_sem ↓] Go.wp_at_zero Go.wp_at_succ

set_option maxHeartbeats 2000000 in
theorem enP3_wp {c1 c2 c4 c5 c6 c7 c8 c9 c10 c11 c12 c13 c14 c15 c16 c17 c18 c19 c20 c21 c22 c23 c24 c25 c26 c27 c28 c29 c30 c31 c32 c33 c34 c35 c36 c37 c38 c39 c40 c41 c42 : Value} (b jb cc f : Nat) (p : Option Addr) (ss : List ByteArray) (fv : Value) (D : Dk) (w : World) (Q : Exit → Act → World → Prop) (h : DiskAt w b fv D) (hj : Blk w jb 126 [.int .i64 (f : Int), .slice p ss.length cc]) (hjb : jb ≠ b) (hjf : fv.ownBlock ≠ some jb)
    (hS : Strs w (.slice p ss.length cc) ss) (hz : ∀ s ∈ ss, s.size ≤ 40) (hl : ss.length ≤ 76) (hf : f ≤ 76) (hfe : D.fre.length < 900000)
    (hQ : ∀ (u15 u16 u17 u18 u19 u20 u21 u22 : Value) (fv' : Value) (w' : World), DiskAt w' b fv' (D.rowWrite 6 3 f (packs ss)) → Fr b fv.ownBlock fv'.ownBlock w w' → Q .normal ⟨#[.pointer (some ⟨b, 0, none⟩), c1, c2, .pointer (some ⟨jb, 0, none⟩), c4, c5, c6, c7, c8, c9, c10, c11, c12, c13, c14, u15, u16, u17, u18, u19, u20, u21, u22, c23, c24, c25, c26, c27, c28, c29, c30, c31, c32, c33, c34, c35, c36, c37, c38, c39, c40, c41, c42], []⟩ w') :
    Code.wp Tryd.prog (rgn Tryd.f103 3) Q ⟨#[.pointer (some ⟨b, 0, none⟩), c1, c2, .pointer (some ⟨jb, 0, none⟩), c4, c5, c6, c7, c8, c9, c10, c11, c12, c13, c14, c15, c16, c17, c18, c19, c20, c21, c22, c23, c24, c25, c26, c27, c28, c29, c30, c31, c32, c33, c34, c35, c36, c37, c38, c39, c40, c41, c42], []⟩ w := by
  have hjc : w.cell? ⟨jb, 0, none⟩ = some (.int .i64 (f : Int)) ∧ w.cell? ⟨jb, 1, none⟩ = some (.slice p ss.length cc) := ⟨by rw [hj.cell]; rfl, by rw [hj.cell]; rfl⟩
  have hS0 : (fun wx : World => wx.cell? ⟨jb, 0, none⟩ = some (.int .i64 (f : Int)) ∧ wx.cell? ⟨jb, 1, none⟩ = some (.slice p ss.length cc)) w.drew := hjc
  have hltj := hj.lt
  have hSb : ∀ wx, Below w.heap.size w wx → wx.cell? ⟨jb, 0, none⟩ = some (.int .i64 (f : Int)) ∧ wx.cell? ⟨jb, 1, none⟩ = some (.slice p ss.length cc) := fun wx hx => ⟨by rw [hx.cell (p := ⟨jb, 0, none⟩) hltj]; exact hjc.1, by rw [hx.cell (p := ⟨jb, 1, none⟩) hltj]; exact hjc.2⟩
  conv => arg 2; whnf
  refine wp_region_s (fun wx : World => wx.cell? ⟨jb, 0, none⟩ = some (.int .i64 (f : Int)) ∧ wx.cell? ⟨jb, 1, none⟩ = some (.slice p ss.length cc)) (by kernel_rfl) ?_
  refine wpS_pure (k := 1) (v := .pointer (some ⟨b, 0, none⟩)) (by rfl) (by kernel_rfl) (by kernel_rfl) (by kernel_rfl) (by rfl) (some 16) (by rfl) hS0 (fun _ _ => by kernel_rfl) ?_
  simp only [Act.put, List.setIfInBounds_toArray, List.set_cons_succ, List.set_cons_zero]
  refine wpS_pure (k := 2) (v := .pointer (some ⟨jb, 0, none⟩)) (by rfl) (by kernel_rfl) (by kernel_rfl) (by kernel_rfl) (by rfl) (some 17) (by rfl) hS0 (fun _ _ => by kernel_rfl) ?_
  simp only [Act.put, List.setIfInBounds_toArray, List.set_cons_succ, List.set_cons_zero]
  refine wpS_pure (k := 3) (v := .int .i64 (f : Int)) (by rfl) (by kernel_rfl) (by kernel_rfl) (by kernel_rfl) (by rfl) (some 18) (by rfl) hS0 (fun wx hx => exec_ld (by rfl) (by rfl) (loadInt wx jb 0 _ hx.1)) ?_
  simp only [Act.put, List.setIfInBounds_toArray, List.set_cons_succ, List.set_cons_zero]
  refine wpS_pure (k := 4) (v := .pointer (some ⟨jb, 1, none⟩)) (by rfl) (by kernel_rfl) (by kernel_rfl) (by kernel_rfl) (by rfl) (some 19) (by rfl) hS0 (fun _ _ => by kernel_rfl) ?_
  simp only [Act.put, List.setIfInBounds_toArray, List.set_cons_succ, List.set_cons_zero]
  refine wpS_pure (k := 5) (v := .slice p ss.length cc) (by rfl) (by kernel_rfl) (by kernel_rfl) (by kernel_rfl) (by rfl) (some 20) (by rfl) hS0 (fun wx hx => exec_ld (by rfl) (by rfl) (loadStrs wx jb 1 _ _ _ hx.2)) ?_
  simp only [Act.put, List.setIfInBounds_toArray, List.set_cons_succ, List.set_cons_zero]
  have hb0 : Below w.heap.size w w.drew := (Below.refl w.heap.size w).drew
  refine wpS_one (i := 0) (by kernel_rfl) (opS_call (f := 95) (vs := #[]) (by rfl) (by rfl) (some 15) (by rfl) (by kernel_rfl) ((bundles_any w.drew).mono ?_))
  rintro e w1 ⟨rfl, hb1⟩
  have hw1 : Below w.heap.size w w1 := hb0.trans hb1
  refine ⟨_, rfl, hSb w1 hw1, ?_⟩
  simp only [Act.put, List.setIfInBounds_toArray, List.set_cons_succ, List.set_cons_zero]
  refine wpS_one (i := 6) (by kernel_rfl) (opS_call (f := 122) (vs := #[.slice p ss.length cc]) (by rfl) (by rfl) (some 21) (by rfl) (by kernel_rfl) ((packed_any _ ss w1 (hS.below hw1) (by omega) hz).mono ?_))
  rintro e w2 ⟨rfl, hB2, hb2⟩
  have hw2 := hw1.trans (hb2.mono hw1.size)
  refine ⟨_, rfl, hSb w2 hw2, ?_⟩
  simp only [Act.put, List.setIfInBounds_toArray, List.set_cons_succ, List.set_cons_zero]
  have hdl := h.lt
  have hsz1 := hw1.size
  have hown : fv.ownBlock ≠ some w1.heap.size := fun e => by have := (h.row.lt _ e).2; omega
  have hrw := rowWrite3_any b w1.heap.size 0 ss.length 6 f fv D (ss.map packS) w2 (h.below hw2) (SA.of_blk hB2) hB2.lt (by omega) hown (fun s hs => by
    obtain ⟨x, hx, rfl⟩ := List.mem_map.1 hs
    have := packS_size (hz x hx)
    omega) (by simp) (by simp; omega) (by simp; omega) (by simp; omega)
  rw [List.length_map] at hrw
  refine wpS_one (i := 7) (by kernel_rfl) (opS_call (f := 121) (vs := #[rowV 6 3, .pointer (some ⟨b, 0, none⟩), .int .i64 (f : Int), .slice (some ⟨w1.heap.size, 0, none⟩) ss.length ss.length]) (by rfl) (by rfl) (some 22) (by rfl) (by kernel_rfl) (hrw.mono ?_))
  rintro e w3 ⟨rfl, fv3, h3, r3⟩
  have hjl2 : jb < w2.heap.size := Nat.lt_of_lt_of_le hltj hw2.size
  have hS3 := hSb w2 hw2
  refine ⟨_, rfl, ⟨by rw [World.cell?_of_block (a := ⟨jb, 0, none⟩) (r3.block jb hjl2 hjb hjf)]; exact hS3.1, by rw [World.cell?_of_block (a := ⟨jb, 1, none⟩) (r3.block jb hjl2 hjb hjf)]; exact hS3.2⟩, ?_⟩
  simp only [Act.put, List.setIfInBounds_toArray, List.set_cons_succ, List.set_cons_zero]
  refine wpAnyH_done (by kernel_rfl) ?_ _
  refine NoPanic.normal ?_
  exact hQ _ _ _ _ _ _ _ _ fv3 w3 h3 ((Fr.of_below hw2).trans r3)

set_option maxHeartbeats 4000000 in
theorem endP_any (b cc f : Nat) (p : Option Addr) (ss : List ByteArray) (fv : Value) (D : Dk) (w : World) (h : DiskAt w b fv D) (hS : Strs w (.slice p ss.length cc) ss) (hz : ∀ s ∈ ss, s.size ≤ 40) (hl : f + ss.length ≤ 76) (hfe : D.fre.length < 800000) (he : Env w b fv.ownBlock) :
    Calls Tryd.prog 103 #[.pointer (some ⟨b, 0, none⟩), jV f p ss.length cc] w fun e w' => e = .returned (.tuple #[]) ∧ ∃ fv', DiskAt w' b fv' (D.endJ f ss) ∧ Fr b fv.ownBlock fv'.ownBlock w w' := by
  have hb0 : Below w.heap.size w (w.alloc (.cells #[.int .i64 (f : Int), .slice p ss.length cc] 126)) := (Below.refl _ _).alloc (Nat.le_refl _) _
  have hJ0 : Blk (w.alloc (.cells #[.int .i64 (f : Int), .slice p ss.length cc] 126)) w.heap.size 126 [.int .i64 (f : Int), .slice p ss.length cc] := Blk.new w _ _
  have hlt := h.lt
  have hown := h.own_lt
  have h0 := h.below hb0
  have hS0 := hS.below hb0
  have he0 := he.below hb0
  have HE : Hid (D.endJ f ss = if D.ckN = f then ((D.put f ss).ckp (f + ss.length)).rmJ else D.rmJ) := rfl
  have hrl := rowWrite_len D 6 3 f (packs ss)
  rw [packs_len] at hrl
  have hgl := grwF_len (f + ss.length) (D.rowWrite 6 3 f (packs ss)) f (f + ss.length) 0 1 hl
  have HGR : Hid ((D.rowWrite 6 3 f (packs ss)).grow f (f + ss.length) = grwF (f + ss.length) (D.rowWrite 6 3 f (packs ss)) f (f + ss.length) 0 1) := rfl
  rw [← HGR.out] at hgl
  have hfl := ((D.rowWrite 6 3 f (packs ss)).grow f (f + ss.length)).flush_len
  have HP : Hid (D.put f ss = ((D.rowWrite 6 3 f (packs ss)).grow f (f + ss.length)).flush) := rfl
  have hck := readCheckpoint_any b fv D _ h0
  unfold jV
  go_enter Tryd.func103, Tryd.ntmps103
  go_wp2_with fail
  have hs0 : w.heap.size < (w.alloc (.cells #[.int .i64 (f : Int), .slice p ss.length cc] 126)).heap.size := by simp
  generalize w.alloc (.cells #[.int .i64 (f : Int), .slice p ss.length cc] 126) = w0 at *
  refine hck.mono ?_
  rintro e w1 ⟨rfl, hb1⟩
  clear hck
  have h1 := h0.below hb1
  have hJ1 := hJ0.below hb1 hJ0.lt
  have hS1 := hS0.below hb1
  have he1 := he0.below hb1
  have hs1 : w.heap.size < w1.heap.size := Nat.lt_of_lt_of_le hs0 hb1.size
  have r01 : Fr b fv.ownBlock fv.ownBlock w w1 := (Fr.of_below hb0).trans (Fr.of_below hb1)
  have hc0 := hJ1.cell 0
  have hc1 := hJ1.cell 1
  simp only [List.getElem?_cons_succ, List.getElem?_cons_zero] at hc0 hc1
  generalize strOf D.ckR = rt at *
  by_cases hq : D.ckN = f
  · rw [if_pos hq] at HE
    rw [hq]
    clear hq
    go_wp2_with fail
    refine enP3_wp b w.heap.size cc f p ss fv D w1 _ h1 hJ1 (by omega) hown hS1 hz (by omega) (by omega) (by omega) ?_
    intro u15 u16 u17 u18 u19 u20 u21 u22 fv2 w2 h2 r2
    generalize D.rowWrite 6 3 f (packs ss) = D2 at *
    have hJ2 := r2.blk hJ1 (by omega) hown
    have hown2 := r2.apart hs1 hown
    have he2 := he1.fr r2
    have hs2 : w.heap.size < w2.heap.size := Nat.lt_of_lt_of_le hs1 r2.size
    have R2 := r01.trans r2
    clear hJ1 hc0 hc1 h1 hS1 he1
    have hc0 := hJ2.cell 0
    have hc1 := hJ2.cell 1
    simp only [List.getElem?_cons_succ, List.getElem?_cons_zero] at hc0 hc1
    have hgt := growTiles_any b f (f + ss.length) fv2 D2 w2 h2 (by omega) hl (by omega) he2
    have hn9 : f + ss.length < 256 := by omega
    have hcn : ((f + ss.length : Nat) : Int) = (f : Int) + (ss.length : Int) := Int.natCast_add _ _
    generalize f + ss.length = n at *
    rw [hcn] at hgt
    go_wp2_with fail
    refine hgt.mono ?_
    rintro e w3 ⟨rfl, fv3, h3, r3⟩
    have he3 := he2.fr r3
    generalize D2.grow f n = D3 at *
    go_wp2_with fail
    refine (flush_any b fv3 D3 w3 h3).mono ?_
    rintro e w4 ⟨rfl, fv4, h4, r4⟩
    have he4 := he3.fr r4
    rw [← HP.out] at h4 hfl
    generalize D.put f ss = D4 at *
    have hsp := span_any b 0 n fv4 D4 w4 h4 (by omega) he4.table he4.lt
    rw [Nat.zero_add, hcn] at hsp
    have hss := span_size h4.ok 0 n (by omega)
    have HC : Hid (D4.ckp n = (D4.write 0 (ckSec n (bts (D4.span 0 n)))).flush) := rfl
    have hwc := fun wx (hx : Below w4.heap.size w4 wx) => writeCheckpoint_any b n (D4.span 0 n) fv4 D4 wx (h4.below hx) (by omega) (by omega) (by omega)
    rw [hcn] at hwc
    have hwl := Dk.write_len D4 0 (ckSec n (bts (D4.span 0 n)))
    have hwf := (D4.write 0 (ckSec n (bts (D4.span 0 n)))).flush_len
    rw [← HC.out] at hwf
    go_wp2_with fail
    refine hsp.mono ?_
    rintro e w5 ⟨rfl, hb5⟩
    go_wp2_with fail
    refine (hwc w5 hb5).mono ?_
    rintro e w6 ⟨rfl, fv6, h6, r6⟩
    rw [← HC.out] at h6
    generalize D4.ckp n = D6 at *
    go_wp2_with fail
    refine (removeJournal_any b fv6 D6 w6 h6 (by omega)).mono ?_
    rintro e w7 ⟨rfl, fv7, h7, r7⟩
    go_wp2
    go_end0
    exact ⟨rfl, fv7, by rw [HE.out]; exact h7, ((((R2.trans r3).trans r4).trans (Fr.of_below hb5)).trans r6).trans r7⟩
  · rw [if_neg hq] at HE
    have hq' : ¬ (D.ckN : Int) = (f : Int) := by omega
    generalize D.ckN = k at *
    go_wp2_with fail
    refine (removeJournal_any b fv D w1 h1 (by omega)).mono ?_
    rintro e w7 ⟨rfl, fv7, h7, r7⟩
    go_wp2
    go_end0
    exact ⟨rfl, fv7, by rw [HE.out]; exact h7, r01.trans r7⟩
end Go.Proofs.YtlhohmlpcgbliaaDoor
namespace Go.Proofs.YtlhohmlpcgbliaaDoor
set_option maxRecDepth 100000
open Go.RowKit
attribute [local go_sem ↓] Go.wp_at_zero Go.wp_at_succ

theorem jE_len (D : Dk) (n : Nat) : (D.jE n).length ≤ 12 := jents_len D n 12 0
theorem jE_siz {D : Dk} (h : D.ok) (n : Nat) : ∀ s ∈ D.jE n, s.size ≤ 40 := jents_siz h n 12 0 (by omega)
theorem Row.strs {w : World} {base : Nat} {v : Value} {ts : List ByteArray} (h : Row w base 9 v (strv ts)) : Strs w v ts := by
  by_cases h0 : ts.length = 0
  · obtain ⟨p, cap, rfl⟩ := row_slice h
    refine ⟨p, cap, rfl, fun i s hs => ?_⟩
    rw [List.eq_nil_of_length_eq_zero h0] at hs
    simp at hs
  · obtain ⟨g, cap, rfl, _, hcap, _, _, hlt, _⟩ := Row.form h (by rw [strv_length]; omega)
    have hsa := SA.of_row h (by omega)
    exact ⟨_, cap, by rw [strv_length], fun i s hs => ⟨g, 0, rfl, hsa i s hs⟩⟩

set_option maxHeartbeats 1000000 in
theorem pending_any (b : Nat) (fv : Value) (D : Dk) (w : World) (h : DiskAt w b fv D) :
    Calls Tryd.prog 100 #[stV b] w fun e w' => e = .returned (.bool (!decide (D.read 1 = zer))) ∧ Below w.heap.size w w' := by
  by_cases hz : D.read 1 = zer
  · rw [show (!decide (D.read 1 = zer)) = false by simp [hz]]
    exact pending_none b fv D w h hz
  · rw [show (!decide (D.read 1 = zer)) = true by simp [hz]]
    have hb0 : Below w.heap.size w (w.alloc (.cells #[.pointer (some ⟨b, 0, none⟩)] 97)) := (Below.refl _ _).alloc (Nat.le_refl _) _
    have hB0 : Blk (w.alloc (.cells #[.pointer (some ⟨b, 0, none⟩)] 97)) w.heap.size 97 [.pointer (some ⟨b, 0, none⟩)] := Blk.new w _ _
    have hc := hB0.cell 0
    simp only [List.getElem?_cons_zero] at hc
    have hrj := readJournal_some b fv D _ (h.below hb0) hz
    unfold stV
    clear hz
    go_enter Tryd.func100, Tryd.ntmps100
    go_wp2_with fail
    generalize w.alloc (.cells #[.pointer (some ⟨b, 0, none⟩)] 97) = w0 at *
    refine hrj.mono ?_
    rintro e w1 ⟨v, rfl, hrow, hb1⟩
    obtain ⟨p, cap, rfl⟩ := row_slice hrow
    have hb1' := hb0.trans (hb1.mono hb0.size)
    clear hrj hc hrow
    go_wp2
    go_ret
    exact ⟨rfl, hb1'.alloc hb1'.size _⟩

/-- The disk behind Recover. -/
def Dk.recv (D : Dk) : Dk := if D.read 1 = zer then D else D.endJ D.jF (D.jE D.jN)

set_option maxHeartbeats 2000000 in
theorem storeRecover_any (b : Nat) (fv : Value) (D : Dk) (w : World) (h : DiskAt w b fv D) (hl : D.jF + (D.jE D.jN).length ≤ 76) (hfe : D.fre.length < 800000) (he : Env w b fv.ownBlock) :
    Calls Tryd.prog 84 #[stV b] w fun e w' => e = .returned (.tuple #[]) ∧ ∃ fv', DiskAt w' b fv' D.recv ∧ Fr b fv.ownBlock fv'.ownBlock w w' := by
  have hb0 : Below w.heap.size w (w.alloc (.cells #[.pointer (some ⟨b, 0, none⟩)] 97)) := (Below.refl _ _).alloc (Nat.le_refl _) _
  have hB0 : Blk (w.alloc (.cells #[.pointer (some ⟨b, 0, none⟩)] 97)) w.heap.size 97 [.pointer (some ⟨b, 0, none⟩)] := Blk.new w _ _
  have hc := hB0.cell 0
  simp only [List.getElem?_cons_zero] at hc
  have hs0 : w.heap.size < (w.alloc (.cells #[.pointer (some ⟨b, 0, none⟩)] 97)).heap.size := by simp
  have h0 := h.below hb0
  have he0 := he.below hb0
  unfold stV
  by_cases hz : D.read 1 = zer
  · have HR : Aside (D.recv = D) := if_pos hz
    have hrj := readJournal_none b fv D _ h0 hz
    clear hz
    go_enter Tryd.func84, Tryd.ntmps84
    go_wp2_with fail
    generalize w.alloc (.cells #[.pointer (some ⟨b, 0, none⟩)] 97) = w0 at *
    refine hrj.mono ?_
    rintro e w1 ⟨rfl, hb1⟩
    have hb1' := hb0.trans (hb1.mono hb0.size)
    have hb2 : Below w.heap.size w (w1.alloc (.cells #[.int .i64 0, .slice none 0 0] 126)) := hb1'.alloc hb1'.size _
    have hd2 := (h0.below hb1).alloc (.cells #[.int .i64 0, .slice none 0 0] 126)
    clear hrj hc
    go_wp2
    go_end0
    exact ⟨rfl, fv, by rw [HR.out]; exact hd2, Fr.of_below hb2⟩
  · have HR : Aside (D.recv = D.endJ D.jF (D.jE D.jN)) := if_neg hz
    have hrj := readJournal_some b fv D _ h0 hz
    have hsz := jE_siz h.ok D.jN
    have hen := fun (cc : Nat) (p : Option Addr) (wx : World) (hx : Below (w.alloc (.cells #[.pointer (some ⟨b, 0, none⟩)] 97)).heap.size (w.alloc (.cells #[.pointer (some ⟨b, 0, none⟩)] 97)) wx) (hS : Strs wx (.slice p (D.jE D.jN).length cc) (D.jE D.jN)) => endP_any b cc D.jF p (D.jE D.jN) fv D wx (h0.below hx) hS hsz hl hfe (he0.below hx)
    clear hz hl hfe h he h0 he0 hsz
    generalize D.endJ D.jF (D.jE D.jN) = RR at *
    generalize D.jE D.jN = JE at *
    generalize D.jF = f at *
    go_enter Tryd.func84, Tryd.ntmps84
    go_wp2_with fail
    generalize w.alloc (.cells #[.pointer (some ⟨b, 0, none⟩)] 97) = w0 at *
    refine hrj.mono ?_
    rintro e w1 ⟨v, rfl, hrow, hb1⟩
    clear hrj hc
    obtain ⟨p, cap, rfl⟩ := row_slice hrow
    have hb2 : Below w0.heap.size w0 (w1.alloc (.cells #[.int .i64 (f : Int), .slice p JE.length cap] 126)) := hb1.alloc hb1.size _
    have hJ2 : Blk (w1.alloc (.cells #[.int .i64 (f : Int), .slice p JE.length cap] 126)) w1.heap.size 126 [.int .i64 (f : Int), .slice p JE.length cap] := Blk.new w1 _ _
    have hst : Strs (w1.alloc (.cells #[.int .i64 (f : Int), .slice p JE.length cap] 126)) (.slice p JE.length cap) JE := hrow.strs.below ((Below.refl _ _).alloc (Nat.le_refl _) _)
    have hB2 := hB0.below hb2 hs0
    have hen2 := hen cap p _ hb2 hst
    unfold jV at hen2
    clear hen hst hrow
    have hc0 := hB2.cell 0
    have hj0 := hJ2.cell 0
    have hj1 := hJ2.cell 1
    simp only [List.getElem?_cons_zero, List.getElem?_cons_succ] at hc0 hj0 hj1
    have HB2 : Aside (Below w.heap.size w (w1.alloc (.cells #[.int .i64 (f : Int), .slice p JE.length cap] 126))) := hb0.trans (hb2.mono hb0.size)
    go_wp2_with fail
    generalize w1.alloc (.cells #[.int .i64 (f : Int), .slice p JE.length cap] 126) = w2 at *
    refine hen2.mono ?_
    rintro e w3 ⟨rfl, fv3, h3, r3⟩
    clear hen2
    go_wp2
    go_end0
    exact ⟨rfl, fv3, by rw [HR.out]; exact h3, (Fr.of_below HB2.out).trans r3⟩

set_option maxHeartbeats 1000000 in
theorem logRecover_any {w : World} {a b : Nat} {fv wv : Value} {D : Dk} {W : List ByteArray} (h : LogAt w a b fv wv D W) (hf : D.failed = false) (hl : D.jF + (D.jE D.jN).length ≤ 76) (hfe : D.fre.length < 800000) (he : Env w b fv.ownBlock) :
    Calls Tryd.prog 57 #[.pointer (some ⟨a, 0, none⟩)] w fun e w' => ∃ c : Int, e = .returned (.int .i64 c) ∧ ((D.recv.failed = true ∧ c = 3) ∨ (D.recv.failed = false ∧ c = 0)) ∧ ∃ fv', LogAt w' a b fv' wv D.recv W ∧ FrL a b fv.ownBlock wv.ownBlock fv'.ownBlock wv.ownBlock w w' := by
  have hc := h.blk.cell 0
  simp only [List.getElem?_cons_zero] at hc
  have hd := down_any h
  rw [hf] at hd
  have hp := storeRecover_any b fv D w h.disk hl hfe he
  unfold stV at hp
  clear hl hfe he hf
  generalize D.recv = R at *
  go_enter Tryd.func57, Tryd.ntmps57
  go_wp2_with fail
  refine hd.mono ?_
  rintro e w1 ⟨rfl, rfl⟩
  go_wp2_with fail
  refine hp.mono ?_
  rintro e w2 ⟨rfl, fv2, hd2, hr2⟩
  have h2 := h.fr hr2 hd2
  have hdn := down_any h2
  clear hp hd hc
  go_wp2_with fail
  refine hdn.mono ?_
  rintro e w3 ⟨rfl, rfl⟩
  clear hdn
  have H2 : Aside (LogAt w3 a b fv2 wv R W ∧ FrL a b fv.ownBlock wv.ownBlock fv2.ownBlock wv.ownBlock w1 w3) := ⟨h2, FrL.of_fr hr2⟩
  clear h2 hd2 hr2
  generalize hrf : R.failed = rf at *
  have HF : Aside (R.failed = rf) := hrf
  clear hrf
  cases rf with
  | true =>
    go_wp2
    go_ret
    exact ⟨3, rfl, .inl ⟨by trivial, rfl⟩, fv2, H2.out⟩
  | false =>
    go_wp2
    go_ret
    exact ⟨0, rfl, .inr ⟨by trivial, rfl⟩, fv2, H2.out⟩
end Go.Proofs.YtlhohmlpcgbliaaDoor
namespace Go.Proofs.YtlhohmlpcgbliaaDoor
set_option maxRecDepth 100000
open Go.RowKit

/-- The disk holds the log of these entries; a journal may be pending. -/
structure Hold1 (D : Dk) (E : List ByteArray) : Prop where
  nf : D.nf
  ok : D.ok
  fre : D.fre = []
  len : E.length ≤ 64
  siz : ∀ s ∈ E, s.size ≤ 40
  ck : D.read 0 = ckSec E.length (bts (mth (E.map leafS)))
  ent : ∀ i s, E[i]? = some s → unpL (D.slot 6 3 i) = some (bts s)
  til : ∀ k, Tiled D (E.map leafS) E.length k
theorem Holds.one {D : Dk} {E : List ByteArray} (h : Holds D E) : Hold1 D E := ⟨h.nf, h.ok, h.fre, h.len, h.siz, h.ck, h.ent, h.til⟩
theorem Hold1.all {D : Dk} {E : List ByteArray} (h : Hold1 D E) (hz : D.read 1 = zer) : Holds D E := ⟨h.nf, h.ok, h.fre, h.len, h.siz, h.ck, hz, h.ent, h.til⟩
theorem Hold1.ckN {D : Dk} {E : List ByteArray} (h : Hold1 D E) : D.ckN = E.length := by
  unfold Dk.ckN
  rw [h.ck]
  exact (ck_n (by rw [bts_length, mth32])).1
theorem Hold1.ckR {D : Dk} {E : List ByteArray} (h : Hold1 D E) : D.ckR = bts (mth (E.map leafS)) := by
  unfold Dk.ckR
  rw [h.ck]
  exact (ck_n (by rw [bts_length, mth32])).2
theorem Hold1.entry {D : Dk} {E : List ByteArray} (h : Hold1 D E) {i : Nat} {s : ByteArray} (hs : E[i]? = some s) : D.entry i = s := by
  unfold Dk.entry
  rw [h.ent i s hs, Option.getD_some, strOf_bts]

/-- The journal is removed. -/
theorem rmJ_spec {D : Dk} {E : List ByteArray} (h : Hold1 D E) : Holds D.rmJ E := by
  have hp := put_one h.nf h.ok h.fre (i := 1) (s := zer) (by omega) zer_sec
  unfold Dk.rmJ
  refine ⟨hp.1, hp.2.1, hp.2.2.1, h.len, h.siz, ?_, ?_, ?_, ?_⟩
  · rw [hp.2.2.2 0 (by omega), if_neg (by omega)]; exact h.ck
  · rw [hp.2.2.2 1 (by omega), if_pos rfl]
  · intro i s hs
    have hi : i < E.length := (List.getElem?_eq_some_iff.1 hs).1
    have := h.len
    rw [slot_of_read (D := D) (by rw [hp.2.2.2 _ (by omega), if_neg (by omega)])]
    exact h.ent i s hs
  · intro k i hi
    have h0 := h.len
    have h1 := tile_sec (k := k) (i := i) (by omega)
    have h2 := (tileAt_le (k + 1)).1
    have h3 := tile_low k
    rw [slot_of_read (D := D) (by rw [hp.2.2.2 _ (by omega), if_neg (by omega)])]
    exact h.til k i hi
/-- What the journal tells of is added. -/
theorem endJ_spec {D : Dk} {E W : List ByteArray} (h : Hold1 D E) (hz : ∀ s ∈ W, s.size ≤ 40) (hl : E.length + W.length ≤ 64) : Holds (D.endJ E.length W) (E ++ W) := by
  unfold Dk.endJ
  rw [if_pos h.ckN]
  have hk4 := keys_nil h.fre
  have hr := rowWrite_spec (start := 6) (each := 3) (.inl rfl) D E.length (packs W) h.nf h.ok (by rw [hk4]; simp) (by rw [hk4]; simp) (packs_ok hz) (by rw [packs_len]; omega) (by rw [h.fre, packs_len]; simp; omega)
  have hEW : (E ++ W).length = E.length + W.length := List.length_append
  have rent : ∀ i s, (E ++ W)[i]? = some s → i < E.length + W.length → unpL ((D.rowWrite 6 3 E.length (packs W)).slot 6 3 i) = some (bts s) := by
    intro i s hs hi
    rw [hr.slot, packs_len]
    by_cases h1 : i < E.length
    · rw [List.getElem?_append_left h1] at hs
      rw [if_neg (by omega)]
      exact h.ent i s hs
    · rw [List.getElem?_append_right (by omega)] at hs
      rw [if_pos (by omega), packs_get hs]
      exact unp_pad (hz s (List.mem_of_getElem? hs))
  have rread : ∀ j, (j < 6 ∨ 28 ≤ j) → (D.rowWrite 6 3 E.length (packs W)).read j = D.read j := fun j hj => by
    apply hr.read
    rw [packs_len]
    by_cases hw0 : W.length = 0
    · exact .inl (List.eq_nil_of_length_eq_zero (by rw [packs_len]; exact hw0))
    · right
      omega
  have rtil : ∀ k, Tiled (D.rowWrite 6 3 E.length (packs W)) ((E ++ W).map leafS) E.length k := fun k i hi => by
    have h3 := tile_low k
    rw [slot_of_read (rread _ (.inr (by omega))), h.til k i hi, List.map_append, drop_app]
    have : (i + 1) * 4 ^ k = i * 4 ^ k + 4 ^ k := Nat.succ_mul _ _
    rw [List.length_map]
    omega
  have rkeys : ∀ x ∈ (D.rowWrite 6 3 E.length (packs W)).keys, x < 28 := fun x hx => by
    rcases hr.keys x hx with h1 | ⟨hne, _, h3⟩
    · rw [hk4] at h1; simp at h1
    · rw [packs_len] at h3
      have : 0 < W.length := by
        rw [← packs_len]
        cases hq : packs W with
        | nil => exact absurd hq hne
        | cons _ _ => simp
      omega
  have hfre := hr.fre
  rw [h.fre, packs_len] at hfre
  have hg := grow_spec (E := E ++ W) (first := E.length) (n := E.length + W.length) (by omega) hl (by rw [hEW]; exact Nat.le_refl _) _ hr.nf hr.ok hr.nd rkeys rent rtil (by simp at hfre; omega)
  unfold Dk.put
  generalize D.rowWrite 6 3 E.length (packs W) = D5 at *
  generalize D5.grow E.length (E.length + W.length) = D6 at *
  have hfl := hg.nf.flush
  have hok7 := hg.ok.flush
  have hrd7 := hg.nf.flush_read hg.ok hg.nd
  generalize D6.flush = D7 at *
  have til7 : ∀ k, Tiled D7 ((E ++ W).map leafS) (E.length + W.length) k := fun k i hi => by
    have h1 := tile_sec (k := k) (i := i) (by omega)
    have h2 := (tileAt_le (k + 1)).1
    rw [slot_of_read (hrd7 _ (by omega))]
    exact hg.tiled k i hi
  have hroot : D7.span 0 (E.length + W.length) = mth ((E ++ W).map leafS) := by
    rw [span_mth til7 (by rw [List.length_map, hEW]; exact Nat.le_refl _) (E.length + W.length) (E.length + W.length) 0 6 (Nat.le_refl _) (by show _ ≤ 64; exact hl) (Nat.dvd_zero _) (by omega), List.drop_zero, List.take_of_length_le (by rw [List.length_map, hEW]; exact Nat.le_refl _)]
  have low7 : ∀ j, j < 28 → D7.read j = D5.read j := fun j hj => by rw [hrd7 j (by omega), hg.read j hj]
  unfold Dk.ckp
  rw [hroot]
  have h32 := mth32 (E := E ++ W)
  have hp8 := put_one hfl.1 hok7 hfl.2 (i := 0) (s := ckSec (E.length + W.length) (bts (mth ((E ++ W).map leafS)))) (by omega) (ckSec_sec (by omega) (by omega))
  generalize (D7.write 0 (ckSec (E.length + W.length) (bts (mth ((E ++ W).map leafS))))).flush = D8 at *
  unfold Dk.rmJ
  have hp9 := put_one hp8.1 hp8.2.1 hp8.2.2.1 (i := 1) (s := zer) (by omega) zer_sec
  generalize (D8.write 1 zer).flush = D9 at *
  have hi9 : ∀ j, 2 ≤ j → j < 200 → D9.read j = D7.read j := fun j h1 h2 => by
    rw [hp9.2.2.2 j h2, if_neg (by omega), hp8.2.2.2 j h2, if_neg (by omega)]
  refine ⟨hp9.1, hp9.2.1, hp9.2.2.1, by rw [hEW]; exact hl, ?_, ?_, ?_, ?_, ?_⟩
  · intro s hs
    rcases List.mem_append.1 hs with h1 | h1
    · exact h.siz s h1
    · exact hz s h1
  · rw [hp9.2.2.2 0 (by omega), if_neg (by omega), hp8.2.2.2 0 (by omega), if_pos rfl, hEW]
  · rw [hp9.2.2.2 1 (by omega), if_pos rfl]
  · intro i s hs
    have hi : i < E.length + W.length := by rw [← hEW]; exact (List.getElem?_eq_some_iff.1 hs).1
    rw [slot_of_read (hi9 _ (by omega) (by omega)), slot_of_read (low7 _ (by omega))]
    exact rent i s hs hi
  · intro k i hi
    rw [hEW] at hi
    have h1 := tile_sec (k := k) (i := i) (by omega)
    have h2 := (tileAt_le (k + 1)).1
    have h3 := tile_low k
    rw [slot_of_read (hi9 _ (by omega) (by omega))]
    exact til7 k i hi

theorem endJ_done {D : Dk} {E : List ByteArray} (h : Hold1 D E) {f : Nat} {W : List ByteArray} (hf : f ≠ E.length) : Holds (D.endJ f W) E := by
  unfold Dk.endJ
  rw [if_neg (by rw [h.ckN]; omega)]
  exact rmJ_spec h
theorem recv_spec {D : Dk} {E : List ByteArray} (h : Hold1 D E) (hf : D.fits E.length) : ∃ E', Holds D.recv E' ∧ (E' = E ∨ (E' = E ++ D.jE D.jN ∧ D.read 1 ≠ zer ∧ D.jF = E.length)) := by
  unfold Dk.recv
  by_cases hz : D.read 1 = zer
  · rw [if_pos hz]
    exact ⟨E, h.all hz, .inl rfl⟩
  · rw [if_neg hz]
    rcases hf with h0 | ⟨h1, h2, h3⟩
    · exact absurd h0 hz
    · by_cases he : D.jF = E.length
      · rw [he]
        exact ⟨E ++ D.jE D.jN, endJ_spec h (jE_siz h.ok _) (by omega), .inr ⟨rfl, hz, rfl⟩⟩
      · exact ⟨E, endJ_done h he, .inl rfl⟩
theorem unpL_some {l e : List Nat} (h : unpL l = some e) (hb : ∀ x ∈ l, x < 256) : bts (strOf e) = e ∧ (strOf e).size ≤ 40 := by
  have h1 := unpL_len (l := l)
  have h2 := unpL_byt hb
  rw [h] at h1 h2
  exact ⟨bts_strOf (byt_ok h2), strOf_le h2 h1⟩
/-- A sound disk holds a log. -/
theorem sound_hold {D : Dk} (hnf : D.nf) (hok : D.ok) (hfr : D.fre = []) (hs : D.sound) : ∃ E, Hold1 D E ∧ D.fits E.length ∧ E.length = D.ckN := by
  obtain ⟨h64, hck, hti, hsp, hfi⟩ := hs
  have hsome : ∀ i, i < D.ckN → ∃ e, unpL (D.slot 6 3 i) = some e := fun i hi => by
    have := (hti 0 (by simp; omega) i (by simpa using hi)).1
    rw [Dk.hashF] at this
    exact Option.isSome_iff_exists.1 this
  have hE : ∀ i s, ((List.range D.ckN).map D.entry)[i]? = some s → unpL (D.slot 6 3 i) = some (bts s) ∧ s.size ≤ 40 := by
    intro i s hi
    have hl : i < D.ckN := by
      have := (List.getElem?_eq_some_iff.1 hi).1
      simpa using this
    rw [List.getElem?_map, List.getElem?_range hl] at hi
    have hi2 : D.entry i = s := by simpa using hi
    obtain ⟨e, he⟩ := hsome i hl
    have hb := slot_byt hok (start := 6) (each := 3) (i := i) (by omega)
    have hu := unpL_some he hb
    have : s = strOf e := by rw [← hi2, Dk.entry, he]; rfl
    rw [this, hu.1]
    exact ⟨he, hu.2⟩
  have hlen : ((List.range D.ckN).map D.entry).length = D.ckN := by simp
  have hsl : ∀ l i, (i + 1) * 4 ^ l ≤ D.ckN → D.slot (tileAt l).1 4 i = bts (D.hashB l i) := by
    intro l i hi
    have hp : 0 < 4 ^ l := Nat.pow_pos (by omega)
    have h1 : i < D.ckN / 4 ^ l := (Nat.le_div_iff_mul_le hp).2 hi
    have h2 : 4 ^ l ≤ D.ckN := Nat.le_trans (Nat.le_mul_of_pos_left _ (by omega)) hi
    have h3 := (hti l h2 i h1).2
    have h4 := tile_sec (k := l) (i := i) (by omega)
    have h5 := (tileAt_le (l + 1)).1
    rw [← h3, bts_strOf (byt_ok (slot_byt hok (by omega)))]
  have hT : ∀ l, Tiled D (((List.range D.ckN).map D.entry).map leafS) D.ckN l := by
    intro l
    induction l using Nat.strongRecOn with
    | _ l ih =>
      intro i hi
      rw [hsl l i hi, hashB_mth (fun i s h _ => (hE i s h).1) (by rw [hlen]; exact Nat.le_refl _) l i (fun k hk => ih k hk) hi]
  refine ⟨(List.range D.ckN).map D.entry, ⟨hnf, hok, hfr, by rw [hlen]; exact h64, fun s hs => ?_, ?_, fun i s h => (hE i s h).1, by rw [hlen]; exact hT⟩, by rw [hlen]; exact hfi, hlen⟩
  · obtain ⟨i, hi⟩ := List.getElem?_of_mem hs
    exact (hE i s hi).2
  · rw [hlen]
    have h1 := span_mth hT (by rw [List.length_map, hlen]; exact Nat.le_refl _) D.ckN D.ckN 0 6 (Nat.le_refl _) (by show _ ≤ 64; exact h64) (Nat.dvd_zero _) (by omega)
    rw [List.drop_zero, List.take_of_length_le (by rw [List.length_map, hlen]; exact Nat.le_refl _)] at h1
    rw [← h1, hsp, bts_strOf (byt_ok (ckR_byt hok))]
    exact hck
/-- A disk that holds a log is sound. -/
theorem Hold1.sound {D : Dk} {E : List ByteArray} (h : Hold1 D E) (hf : D.fits E.length) : D.sound := by
  have hn := h.ckN
  have hr := h.ckR
  unfold Dk.sound
  rw [hn, hr, strOf_bts]
  refine ⟨h.len, h.ck, ?_, ?_, hf⟩
  · intro l _ i hi
    have hp : 0 < 4 ^ l := Nat.pow_pos (by omega)
    have h1 : (i + 1) * 4 ^ l ≤ E.length := (Nat.le_div_iff_mul_le hp).1 hi
    refine ⟨?_, ?_⟩
    · cases l with
      | zero =>
        rw [Dk.hashF, h.ent i _ (List.getElem?_eq_getElem (by simpa using hi))]
        rfl
      | succ l => rfl
    · rw [h.til l i h1, hashB_mth (fun i s hs _ => h.ent i s hs) (Nat.le_refl _) l i (fun k _ => h.til k) h1, strOf_bts]
  · have h1 := span_mth h.til (by simp) E.length E.length 0 6 (Nat.le_refl _) (by have := h.len; simpa using this) (by simp) (by simp)
    rw [h1, List.drop_zero, List.take_of_length_le (by simp)]
end Go.Proofs.YtlhohmlpcgbliaaDoor
namespace Go.Proofs.YtlhohmlpcgbliaaDoor
set_option maxRecDepth 100000
open Go.RowKit
attribute [local go_sem ↓] Go.wp_at_zero Go.wp_at_succ

theorem beside_inc1 {E : List ByteArray} {D : Dk} {b : Nat} {fv : Value} (hH : Hold1 D E) : ∀ (N i a m j : Nat) (w : World), DiskAt w b fv D → Table w → 2 < w.heap.size → m ≤ N → N ≤ 64 → 1 ≤ m → m ≤ 2 ^ j → 2 ^ j ∣ a → a + m ≤ E.length → a ≤ i → i < a + m →
    GivesRow w 97 #[.int .i64 (i : Int), .int .i64 (a : Int), .int .i64 ((a + m : Nat) : Int), spanV b] (incF N (i - a) (((E.map leafS).drop a).take m)) := by
  intro N
  have hL : (E.map leafS).length = E.length := List.length_map _
  have hE := hH.len
  have hspan := fun (m a j : Nat) (h1 : m ≤ 2 ^ j) (h2 : 2 ^ j ∣ a) (h3 : a + m ≤ E.length) => span_mth hH.til (by rw [hL]; exact Nat.le_refl _) m m a j (Nat.le_refl _) h1 h2 h3
  induction N with
  | zero => intro i a m j w _ _ _ h1 _ h2; omega
  | succ N ih =>
    intro i a m j w hD ht hg hm hN h1 hj hd ham hai him
    have hl := sub_len (L := E.map leafS) (a := a) (m := m) (by omega)
    simp only [incF, hl]
    by_cases h2 : m < 2
    · rw [if_pos h2]
      obtain rfl : m = 1 := by omega
      exact be_none i a _ w
    · rw [if_neg h2]
      obtain ⟨h, hs, hd1, hd2, hle, hlt, hpos⟩ := cut_facts (by omega) hj hd
      rw [sub_take (by omega), sub_drop]
      have gl := gives_span b a (spl m) fv D w hD (by omega) ht hg
      have gr := gives_span b (a + spl m) (m - spl m) fv D w hD (by omega) ht hg
      rw [hspan (spl m) a h (by omega) hd1 (by omega)] at gl
      rw [hspan (m - spl m) (a + spl m) h hle hd2 (by omega)] at gr
      rw [show a + spl m + (m - spl m) = a + m by omega] at gr
      by_cases h5 : i < a + spl m
      · rw [if_pos (by omega)]
        have q := ih i a (spl m) h w hD ht hg (by omega) (by omega) (by omega) (by omega) hd1 (by omega) hai h5
        rw [Int.natCast_add] at q gr
        exact be_left i a m (stV b) _ _ w (by omega) (by omega) (by omega) h5 (Nat.le_trans (incF_length N _ _) (by omega)) q gr
      · rw [if_neg (by omega)]
        have q := ih i (a + spl m) (m - spl m) h w hD ht hg (by omega) (by omega) (by omega) hle hd2 (by omega) (by omega) (by omega)
        rw [show a + spl m + (m - spl m) = a + m by omega, show i - (a + spl m) = i - a - spl m by omega] at q
        rw [Int.natCast_add] at q gl
        exact be_right i a m (stV b) _ _ w (by omega) (by omega) (by omega) (by omega) (Nat.le_trans (incF_length N _ _) (by omega)) q gl

theorem beside_con1 {E : List ByteArray} {D : Dk} {b : Nat} {fv : Value} (hH : Hold1 D E) : ∀ (N i a m j : Nat) (w : World), DiskAt w b fv D → Table w → 2 < w.heap.size → m ≤ N → N ≤ 64 → 1 ≤ m → m ≤ 2 ^ j → 2 ^ j ∣ a → a + m ≤ E.length → a < i → i ≤ a + m →
    GivesRow w 99 #[.int .i64 (i : Int), .int .i64 (a : Int), .int .i64 ((a + m : Nat) : Int), spanV b] (conF N (i - a) (((E.map leafS).drop a).take m) (decide (a = 0))) := by
  intro N
  have hL : (E.map leafS).length = E.length := List.length_map _
  have hE := hH.len
  have hspan := fun (m a j : Nat) (h1 : m ≤ 2 ^ j) (h2 : 2 ^ j ∣ a) (h3 : a + m ≤ E.length) => span_mth hH.til (by rw [hL]; exact Nat.le_refl _) m m a j (Nat.le_refl _) h1 h2 h3
  induction N with
  | zero => intro i a m j w _ _ _ h1 _ h2; omega
  | succ N ih =>
    intro i a m j w hD ht hg hm hN h1 hj hd ham hai him
    have hl := sub_len (L := E.map leafS) (a := a) (m := m) (by omega)
    simp only [conF, hl]
    by_cases h2 : i = a + m
    · rw [if_pos (by omega)]
      by_cases h0 : a = 0
      · subst h0
        rw [if_pos (by simp)]
        rw [← h2]
        exact bs_none i _ w
      · rw [if_neg (by simpa using h0)]
        have g := gives_span b a m fv D w hD (by omega) ht hg
        rw [hspan m a j hj hd ham] at g
        rw [← h2] at g ⊢
        exact bs_one i a (stV b) _ w h0 g
    · rw [if_neg (by omega)]
      obtain ⟨h, hs, hd1, hd2, hle, hlt, hpos⟩ := cut_facts (m := m) (by omega) hj hd
      rw [sub_take (by omega), sub_drop]
      have gl := gives_span b a (spl m) fv D w hD (by omega) ht hg
      have gr := gives_span b (a + spl m) (m - spl m) fv D w hD (by omega) ht hg
      rw [hspan (spl m) a h (by omega) hd1 (by omega)] at gl
      rw [hspan (m - spl m) (a + spl m) h hle hd2 (by omega)] at gr
      rw [show a + spl m + (m - spl m) = a + m by omega] at gr
      by_cases h5 : i ≤ a + spl m
      · rw [if_pos (by omega)]
        have q := ih i a (spl m) h w hD ht hg (by omega) (by omega) (by omega) (by omega) hd1 (by omega) hai h5
        rw [Int.natCast_add] at q gr
        exact bs_left i a m (stV b) _ _ w (by omega) (by omega) (by omega) h5 (Nat.le_trans (conF_length N _ _ _) (by omega)) q gr
      · rw [if_neg (by omega)]
        have q := ih i (a + spl m) (m - spl m) h w hD ht hg (by omega) (by omega) (by omega) hle hd2 (by omega) (by omega) (by omega)
        rw [show a + spl m + (m - spl m) = a + m by omega, show i - (a + spl m) = i - a - spl m by omega, show decide (a + spl m = 0) = false from decide_eq_false (by omega)] at q
        rw [Int.natCast_add] at q gl
        exact bs_right i a m (stV b) _ _ w (by omega) (by omega) (by omega) (by omega) h2 (Nat.le_trans (conF_length N _ _ _) (by omega)) q gl
set_option maxHeartbeats 1000000 in
theorem logInclusion1 {w : World} {a b : Nat} {fv wv : Value} {D : Dk} {W E : List ByteArray} (h : LogAt w a b fv wv D W) (hH : Hold1 D E) (ht : Table w) (hg : 2 < w.heap.size) (i n : Nat) (hn : n ≤ E.length) (hi : i < n) : Calls Tryd.prog 38 #[.pointer (some ⟨a, 0, none⟩), .int .i64 (i : Int), .int .i64 (n : Int)] w fun e w' => ∃ v, e = .returned (.tuple #[v, .int .i64 0]) ∧ Row w' w.heap.size 9 v (strv (incF n i ((E.map leafS).take n))) ∧ Below w.heap.size w w' := by
  have hk := logCk_ok h hH.nf.failed
  rw [hH.ckN] at hk
  have hE := hH.len
  have hlg := fun wx (hx : Below w.heap.size w wx) => (h.below hx).blk.cell 0
  have hin : Aside (∀ wx, Below w.heap.size w wx → GivesRow wx 71 #[.int .i64 (i : Int), .int .i64 (n : Int), spanV b] (incF n i ((E.map leafS).take n))) := fun wx hx => by
    refine treeInclusion i n _ _ wx ?_
    have q := beside_inc1 hH n i 0 n 6 wx (h.below hx).disk (table_at hx hg ht) (Nat.lt_of_lt_of_le hg hx.size) (Nat.le_refl _) (by omega) (by omega) (by omega) (Nat.dvd_zero _) (by omega) (by omega) (by omega)
    rw [Nat.sub_zero, List.drop_zero, Nat.zero_add] at q
    exact q
  unfold spanV stV at hin
  have hmf : ∀ (fn : Fn) (first cap : Array Value) (w : World), (Instr.makeFunc fn first cap).run Tryd.prog w = .ok (.func fn first cap) w := fun _ _ _ _ => rfl
  have hi1 : ¬ (i : Int) < 0 := by omega
  have hi2 : ¬ (i : Int) ≥ (n : Int) := by omega
  generalize incF n i ((E.map leafS).take n) = xs at *
  generalize strOf D.ckR = rt at *
  have hnE : ¬ (n : Int) > (E.length : Int) := by omega
  generalize (E.length : Int) = al at *
  go_enter Tryd.func38, Tryd.ntmps38
  go_wp2_with fail
  refine hk.mono ?_
  rintro e w1 ⟨rfl, hb1⟩
  have hc := hlg w1 hb1
  simp only [List.getElem?_cons_zero] at hc
  have hin1 := hin.out w1 hb1
  unfold GivesRow at hin1
  clear hk hlg
  go_wp2_with fail
  refine hin1.mono ?_
  rintro e w2 ⟨v, rfl, hr, hb2⟩
  have hr2 := hr.mono hb1.size
  clear hin1 hr
  go_wp2
  go_ret2
  exact ⟨_, rfl, hr2, hb1.trans (hb2.mono hb1.size)⟩

set_option maxHeartbeats 1000000 in
theorem logConsistency1 {w : World} {a b : Nat} {fv wv : Value} {D : Dk} {W E : List ByteArray} (h : LogAt w a b fv wv D W) (hH : Hold1 D E) (ht : Table w) (hg : 2 < w.heap.size) (i n : Nat) (hn : n ≤ E.length) (hi1 : 1 ≤ i) (hi : i ≤ n) : Calls Tryd.prog 39 #[.pointer (some ⟨a, 0, none⟩), .int .i64 (i : Int), .int .i64 (n : Int)] w fun e w' => ∃ v, e = .returned (.tuple #[v, .int .i64 0]) ∧ Row w' w.heap.size 9 v (strv (conF n i ((E.map leafS).take n) true)) ∧ Below w.heap.size w w' := by
  have hk := logCk_ok h hH.nf.failed
  rw [hH.ckN] at hk
  have hE := hH.len
  have hlg := fun wx (hx : Below w.heap.size w wx) => (h.below hx).blk.cell 0
  have hin : Aside (∀ wx, Below w.heap.size w wx → GivesRow wx 73 #[.int .i64 (i : Int), .int .i64 (n : Int), spanV b] (conF n i ((E.map leafS).take n) true)) := fun wx hx => by
    refine treeConsistency i n _ _ wx ?_
    have q := beside_con1 hH n i 0 n 6 wx (h.below hx).disk (table_at hx hg ht) (Nat.lt_of_lt_of_le hg hx.size) (Nat.le_refl _) (by omega) (by omega) (by omega) (Nat.dvd_zero _) (by omega) (by omega) (by omega)
    rw [Nat.sub_zero, List.drop_zero, Nat.zero_add] at q
    exact q
  unfold spanV stV at hin
  have hmf : ∀ (fn : Fn) (first cap : Array Value) (w : World), (Instr.makeFunc fn first cap).run Tryd.prog w = .ok (.func fn first cap) w := fun _ _ _ _ => rfl
  have hi1 : ¬ (i : Int) < 1 := by omega
  have hi2 : ¬ (i : Int) > (n : Int) := by omega
  generalize conF n i ((E.map leafS).take n) true = xs at *
  generalize strOf D.ckR = rt at *
  have hnE : ¬ (n : Int) > (E.length : Int) := by omega
  generalize (E.length : Int) = al at *
  go_enter Tryd.func39, Tryd.ntmps39
  go_wp2_with fail
  refine hk.mono ?_
  rintro e w1 ⟨rfl, hb1⟩
  have hc := hlg w1 hb1
  simp only [List.getElem?_cons_zero] at hc
  have hin1 := hin.out w1 hb1
  unfold GivesRow at hin1
  clear hk hlg
  go_wp2_with fail
  refine hin1.mono ?_
  rintro e w2 ⟨v, rfl, hr, hb2⟩
  have hr2 := hr.mono hb1.size
  clear hin1 hr
  go_wp2
  go_ret2
  exact ⟨_, rfl, hr2, hb1.trans (hb2.mono hb1.size)⟩
set_option maxHeartbeats 400000 in
theorem nilNone_any (w : World) : Calls Tryd.prog 77 #[.pointer none] w fun e w' => e = .returned (.bool true) ∧ w' = w := by
  go_enter Tryd.func77, Tryd.ntmps77
  go_wp2
  go_ret
  exact ⟨rfl, rfl⟩
set_option maxHeartbeats 400000 in
theorem nilDown_any (w : World) : Calls Tryd.prog 68 #[.pointer none] w fun e w' => e = .returned (.bool true) ∧ w' = w := by
  have hd := nilNone_any w
  go_enter Tryd.func68, Tryd.ntmps68
  go_wp2_with fail
  refine hd.mono ?_
  rintro e w1 ⟨rfl, rfl⟩
  go_wp2
  go_ret
  exact ⟨rfl, rfl⟩
set_option maxHeartbeats 400000 in
theorem nilCk_any (w : World) : Calls Tryd.prog 36 #[.pointer none] w fun e w' => e = .returned (.tuple #[.int .i64 0, .string ⟨#[]⟩, .int .i64 3]) ∧ w' = w := by
  have hd := nilDown_any w
  go_enter Tryd.func36, Tryd.ntmps36
  go_wp2_with fail
  refine hd.mono ?_
  rintro e w1 ⟨rfl, rfl⟩
  go_wp2
  go_ret3
  exact ⟨rfl, rfl⟩
set_option maxHeartbeats 400000 in
theorem nilRefused_any (w : World) : Calls Tryd.prog 74 #[.pointer none] w fun e w' => e = .returned (.int .i64 3) ∧ w' = w := by
  have hd := nilDown_any w
  go_enter Tryd.func74, Tryd.ntmps74
  go_wp2_with fail
  refine hd.mono ?_
  rintro e w1 ⟨rfl, rfl⟩
  go_wp2
  go_ret
  exact ⟨rfl, rfl⟩
set_option maxHeartbeats 400000 in
theorem nilRecover_any (w : World) : Calls Tryd.prog 57 #[.pointer none] w fun e w' => e = .returned (.int .i64 3) ∧ w' = w := by
  have hd := nilDown_any w
  go_enter Tryd.func57, Tryd.ntmps57
  go_wp2_with fail
  refine hd.mono ?_
  rintro e w1 ⟨rfl, rfl⟩
  go_wp2
  go_ret
  exact ⟨rfl, rfl⟩
set_option maxHeartbeats 400000 in
theorem nilEntry_any (i : Int) (w : World) : Calls Tryd.prog 37 #[.pointer none, .int .i64 i] w fun e w' => e = .returned (.tuple #[.string ⟨#[]⟩, .int .i64 3]) ∧ w' = w := by
  have hd := nilCk_any w
  go_enter Tryd.func37, Tryd.ntmps37
  go_wp2_with fail
  refine hd.mono ?_
  rintro e w1 ⟨rfl, rfl⟩
  go_wp2
  go_ret2
  exact ⟨rfl, rfl⟩
set_option maxHeartbeats 400000 in
theorem nilInclusion_any (i n : Int) (w : World) : Calls Tryd.prog 38 #[.pointer none, .int .i64 i, .int .i64 n] w fun e w' => e = .returned (.tuple #[.slice none 0 0, .int .i64 3]) ∧ w' = w := by
  have hd := nilCk_any w
  go_enter Tryd.func38, Tryd.ntmps38
  go_wp2_with fail
  refine hd.mono ?_
  rintro e w1 ⟨rfl, rfl⟩
  go_wp2
  go_ret2
  exact ⟨rfl, rfl⟩
set_option maxHeartbeats 400000 in
theorem nilConsistency_any (i n : Int) (w : World) : Calls Tryd.prog 39 #[.pointer none, .int .i64 i, .int .i64 n] w fun e w' => e = .returned (.tuple #[.slice none 0 0, .int .i64 3]) ∧ w' = w := by
  have hd := nilCk_any w
  go_enter Tryd.func39, Tryd.ntmps39
  go_wp2_with fail
  refine hd.mono ?_
  rintro e w1 ⟨rfl, rfl⟩
  go_wp2
  go_ret2
  exact ⟨rfl, rfl⟩
set_option maxHeartbeats 400000 in
theorem nilSubmit_any (v : Value) (w : World) : Calls Tryd.prog 40 #[.pointer none, v] w fun e w' => e = .returned (.int .i64 3) ∧ w' = w := by
  have hd := nilRefused_any w
  go_enter Tryd.func40, Tryd.ntmps40
  go_wp2_with fail
  refine hd.mono ?_
  rintro e w1 ⟨rfl, rfl⟩
  go_wp2
  go_ret
  exact ⟨rfl, rfl⟩
set_option maxHeartbeats 400000 in
theorem nilFlush_any (w : World) : Calls Tryd.prog 42 #[.pointer none] w fun e w' => e = .returned (.tuple #[.int .i64 0, .int .i64 3]) ∧ w' = w := by
  have hd := nilRefused_any w
  go_enter Tryd.func42, Tryd.ntmps42
  go_wp2_with fail
  refine hd.mono ?_
  rintro e w1 ⟨rfl, rfl⟩
  go_wp2
  go_ret2
  exact ⟨rfl, rfl⟩
set_option maxHeartbeats 1000000 in
theorem logInclusion_zero {w : World} {a b : Nat} {fv wv : Value} {D : Dk} {W : List ByteArray} (h : LogAt w a b fv wv D W) (hf : D.failed = false) (h0 : D.ckN = 0) : Calls Tryd.prog 38 #[.pointer (some ⟨a, 0, none⟩), .int .i64 0, .int .i64 0] w fun e w' => e = .returned (.tuple #[.slice none 0 0, .int .i64 8]) ∧ Below w.heap.size w w' := by
  have hk := logCk_ok h hf
  rw [h0] at hk
  clear hf h0
  generalize strOf D.ckR = rt at *
  go_enter Tryd.func38, Tryd.ntmps38
  go_wp2_with fail
  refine hk.mono ?_
  rintro e w1 ⟨rfl, hb1⟩
  go_wp2
  go_ret2
  exact ⟨rfl, hb1⟩
set_option maxHeartbeats 1000000 in
theorem logConsistency_zero {w : World} {a b : Nat} {fv wv : Value} {D : Dk} {W : List ByteArray} (h : LogAt w a b fv wv D W) (hf : D.failed = false) (h0 : D.ckN = 0) : Calls Tryd.prog 39 #[.pointer (some ⟨a, 0, none⟩), .int .i64 1, .int .i64 0] w fun e w' => e = .returned (.tuple #[.slice none 0 0, .int .i64 8]) ∧ Below w.heap.size w w' := by
  have hk := logCk_ok h hf
  rw [h0] at hk
  clear hf h0
  generalize strOf D.ckR = rt at *
  go_enter Tryd.func39, Tryd.ntmps39
  go_wp2_with fail
  refine hk.mono ?_
  rintro e w1 ⟨rfl, hb1⟩
  go_wp2
  go_ret2
  exact ⟨rfl, hb1⟩
end Go.Proofs.YtlhohmlpcgbliaaDoor
namespace Go.Proofs.YtlhohmlpcgbliaaDoor
set_option maxRecDepth 100000
open Go.RowKit
attribute [local go_sem ↓] Go.wp_at_zero Go.wp_at_succ

set_option maxHeartbeats 4000000 in
theorem submit_full {w : World} {a b : Nat} {fv wv : Value} {D : Dk} {W : List ByteArray} (h : LogAt w a b fv wv D W) (hf : D.failed = false) (hz1 : D.read 1 = zer) (cb co cc : Nat) (ss : List ByteArray) (hS : SA w cb co ss) (hz : ∀ s ∈ ss, s.size ≤ 40) (hq : W.length + ss.length ≤ 12) (hn : 64 < D.ckN + (W.length + ss.length)) :
    Calls Tryd.prog 40 #[.pointer (some ⟨a, 0, none⟩), .slice (some ⟨cb, co, none⟩) ss.length cc] w fun e w' => e = .returned (.int .i64 7) ∧ Below w.heap.size w w' := by
  have hrf := refused_ok h hf hz1
  have hcb := ckN_lt h.disk.ok
  clear hz1 hf
  go_enter Tryd.func40, Tryd.ntmps40
  go_wp2_with fail
  refine hrf.mono ?_
  rintro e w1 ⟨rfl, hb1⟩
  clear hrf
  have h1 := h.below hb1
  have hS1 := hS.below hb1
  have hs1 := hb1.size
  have HS : Hid (SA w1 cb co ss) := hS1
  clear hS hS1
  go_wp2_with fail
  go_loopw [20] (fun v wr => ∃ k : Nat, k ≤ ss.length ∧ v = .int .i64 (k : Int) ∧ wr = w1) (fun v _ => ss.length - (intOf v).toNat)
  case atStart => exact ⟨0, by omega, rfl, rfl⟩
  case round =>
    obtain ⟨k, hk, rfl, rfl⟩ := hrel
    by_cases h8 : k < ss.length
    · obtain ⟨s, hs⟩ : ∃ s, ss[k]? = some s := ⟨_, List.getElem?_eq_getElem h8⟩
      have hcell := HS.out k s hs
      have hsz : s.size ≤ 40 := hz s (List.mem_of_getElem? hs)
      have hsz' : ¬ (s.size : Int) > 40 := by omega
      clear hs
      go_wp2
      go_roundw
      case rel => exact ⟨k + 1, by omega, by go_num, trivial⟩
      case measure => simp [intOf]; omega
    · have hk8 : k = ss.length := by omega
      subst hk8
      have hc0 := h1.blk.cell 0
      have hc1 := h1.blk.cell 1
      simp only [List.getElem?_cons_zero, List.getElem?_cons_succ] at hc0 hc1
      obtain ⟨p, cap, hwv⟩ := h1.wv
      rw [hwv] at hc1
      have hck := storeCk_any b fv D wr h1.disk
      unfold stV at hck
      have hq1 : ¬ ((W.length : Int) + (ss.length : Int)) > 12 := by omega
      have hq2 : 64 < ((D.ckN : Int) + ((W.length : Int) + (ss.length : Int))) := by omega
      generalize strOf D.ckR = rt at *
      have hS1 := HS.out
      go_wp2_with fail
      refine hck.mono ?_
      rintro e w2 ⟨rfl, hb2⟩
      clear hck hc0 hc1 hwv h1 hS1 HS
      go_wp2
      go_ret
      exact ⟨rfl, hb1.trans (hb2.mono hb1.size)⟩

theorem Lg.ckA {B w : World} {a : Nat} {D : Dk} {W E : List ByteArray} (h : Lg B w a D W) (hH : Hold1 D E) {n : Nat} (hn : E.length = n) : Calls Tryd.prog 36 #[.pointer (some ⟨a, 0, none⟩)] w fun e w' => ∃ r, e = .returned (.tuple #[.int .i64 (n : Int), .string r, .int .i64 0]) ∧ Lg B w' a D W := by
  subst hn
  obtain ⟨b, fv, wv, hL, ho⟩ := h.ex
  have := logCk_ok hL hH.nf.failed
  rw [hH.ckN] at this
  refine this.mono ?_
  rintro e w' ⟨rfl, hb⟩
  exact ⟨_, rfl, h.below hb⟩
theorem Lg.entryA {B w : World} {a : Nat} {D : Dk} {W E : List ByteArray} (h : Lg B w a D W) (hH : Hold1 D E) {n : Nat} (hn : E.length = n) : Calls Tryd.prog 37 #[.pointer (some ⟨a, 0, none⟩), .int .i64 ((n : Int) - 1)] w fun e w' => ∃ v, e = .returned v ∧ Lg B w' a D W := by
  subst hn
  obtain ⟨b, fv, wv, hL, ho⟩ := h.ex
  have hl := hH.len
  by_cases h0 : E.length = 0
  · refine (logEntry_range hL hH.nf.failed ((E.length : Int) - 1) (.inl (by omega))).mono ?_
    rintro e w' ⟨rfl, hb⟩
    exact ⟨_, rfl, h.below hb⟩
  · have e1 : ((E.length - 1 : Nat) : Int) = (E.length : Int) - 1 := by omega
    have := logEntry_ok hL hH.nf.failed (E.length - 1) (by rw [hH.ckN]; omega) (by omega)
    rw [e1] at this
    refine this.mono ?_
    rintro e w' ⟨rfl, hb⟩
    exact ⟨_, rfl, h.below hb⟩
theorem Lg.inclA {B w : World} {a : Nat} {D : Dk} {W E : List ByteArray} (h : Lg B w a D W) (hH : Hold1 D E) {n : Nat} (hn : E.length = n) (ht : Table B) (hg : 2 < B.heap.size) : Calls Tryd.prog 38 #[.pointer (some ⟨a, 0, none⟩), .int .i64 0, .int .i64 (n : Int)] w fun e w' => ∃ v, e = .returned v ∧ Lg B w' a D W := by
  subst hn
  obtain ⟨b, fv, wv, hL, ho⟩ := h.ex
  by_cases h0 : E.length = 0
  · rw [h0]
    refine (logInclusion_zero hL hH.nf.failed (by rw [hH.ckN]; exact h0)).mono ?_
    rintro e w' ⟨rfl, hb⟩
    exact ⟨_, rfl, h.below hb⟩
  · refine (logInclusion1 hL hH (table_at h.bel hg ht) (Nat.lt_of_lt_of_le hg h.bel.size) 0 E.length (Nat.le_refl _) (by omega)).mono ?_
    rintro e w' ⟨v, rfl, _, hb⟩
    exact ⟨_, rfl, h.below hb⟩
theorem Lg.consA {B w : World} {a : Nat} {D : Dk} {W E : List ByteArray} (h : Lg B w a D W) (hH : Hold1 D E) {n : Nat} (hn : E.length = n) (ht : Table B) (hg : 2 < B.heap.size) : Calls Tryd.prog 39 #[.pointer (some ⟨a, 0, none⟩), .int .i64 1, .int .i64 (n : Int)] w fun e w' => ∃ v, e = .returned v ∧ Lg B w' a D W := by
  subst hn
  obtain ⟨b, fv, wv, hL, ho⟩ := h.ex
  by_cases h0 : E.length = 0
  · rw [h0]
    refine (logConsistency_zero hL hH.nf.failed (by rw [hH.ckN]; exact h0)).mono ?_
    rintro e w' ⟨rfl, hb⟩
    exact ⟨_, rfl, h.below hb⟩
  · refine (logConsistency1 hL hH (table_at h.bel hg ht) (Nat.lt_of_lt_of_le hg h.bel.size) 1 E.length (Nat.le_refl _) (Nat.le_refl _) (by omega)).mono ?_
    rintro e w' ⟨v, rfl, _, hb⟩
    exact ⟨_, rfl, h.below hb⟩
theorem jFit {D : Dk} {n : Nat} (h : D.fits n) : D.jF + (D.jE D.jN).length ≤ 76 := by
  have hl := jE_len D D.jN
  rcases h with h | ⟨_, h, _⟩
  · have : D.jF = 0 := by
      unfold Dk.jF
      rw [h]
      rfl
    omega
  · omega
theorem Lg.recv {B w : World} {a : Nat} {D : Dk} {W E : List ByteArray} (h : Lg B w a D W) (hH : Hold1 D E) (hf : D.fits E.length) (ht : Table B) (hg : 2 < B.heap.size) : Calls Tryd.prog 57 #[.pointer (some ⟨a, 0, none⟩)] w fun e w' => e = .returned (.int .i64 0) ∧ Lg B w' a D.recv W := by
  obtain ⟨b, fv, wv, hL, ho⟩ := h.ex
  obtain ⟨E', hE, _⟩ := recv_spec hH hf
  refine (logRecover_any hL hH.nf.failed (jFit hf) (by rw [hH.fre]; simp) (env_of ht hg h.bel (ho _ (.inr (.inl rfl))) (fun j hj => ho j (.inr (.inr (.inl hj)))))).mono ?_
  rintro e w' ⟨c, rfl, hc, fv', hL', hR'⟩
  obtain ⟨hb4, hf4, hw4⟩ := FrL.below h.bel hR' (ho _ (.inl rfl)) (ho _ (.inr (.inl rfl))) (fun j hj => ho j (.inr (.inr (.inl hj)))) (fun j hj => ho j (.inr (.inr (.inr hj))))
  rcases hc with ⟨h1, _⟩ | ⟨_, rfl⟩
  · rw [hE.nf.failed] at h1; cases h1
  · refine ⟨rfl, hb4, b, fv', wv, hL', ?_⟩
    intro j hj
    rcases hj with e | e | e | e
    · rw [e]; exact ho _ (.inl rfl)
    · rw [e]; exact ho _ (.inr (.inl rfl))
    · exact hf4 j e
    · exact hw4 j e
/-- Two entries are submitted, to any log at rest. -/
theorem Lg.subA {B w : World} {a : Nat} {D : Dk} {E : List ByteArray} (h : Lg B w a D []) (hH : Holds D E) (x y : ByteArray) (hx : x.size ≤ 40) (hy : y.size ≤ 40) :
    Calls Tryd.prog 40 #[.pointer (some ⟨a, 0, none⟩), .slice (some ⟨w.heap.size, 0, none⟩) 2 2] (w.alloc (.cells #[.string x, .string y] 9)) fun e w' => ∃ v W', e = .returned v ∧ Lg B w' a D W' ∧ (∀ s ∈ W', s.size ≤ 40) ∧ W'.length ≤ 12 ∧ E.length + W'.length ≤ 64 := by
  have hal : Below w.heap.size w (w.alloc (.cells #[.string x, .string y] 9)) := (Below.refl _ _).alloc (Nat.le_refl _) _
  obtain ⟨b, fv, wv, hL, ho⟩ := h.ex
  have hlt := hL.lt
  have hB : Blk (w.alloc (.cells #[.string x, .string y] 9)) w.heap.size 9 [.string x, .string y] := Blk.new w 9 [.string x, .string y]
  have hS1 : SA (w.alloc (.cells #[.string x, .string y] 9)) w.heap.size 0 [x, y] := SA.of_blk (ss := [x, y]) hB
  have hz : ∀ s ∈ [x, y], s.size ≤ 40 := fun s hs => by
    rcases List.mem_cons.1 hs with rfl | h1
    · exact hx
    · rw [List.mem_singleton.1 h1]; exact hy
  by_cases hn : E.length + 2 ≤ 64
  · have hs := submit_ok (hL.below hal) hH.nf.failed hH.jn w.heap.size 0 2 [x, y] hS1 hB.lt (fun e => by have := hlt _ (.inl rfl); omega) (fun e => by have := hlt _ (.inr (.inl rfl)); omega) (fun e => by have := hlt _ (.inr (.inr (.inl e))); omega) (fun e => by have := hlt _ (.inr (.inr (.inr e))); omega) hz (by simp) (by rw [hH.ckN]; simp; omega)
    rw [List.nil_append] at hs
    refine hs.mono ?_
    rintro e w' ⟨rfl, wv', hL', hR'⟩
    obtain ⟨hb4, hf4, hw4⟩ := FrL.below (h.bel.trans (hal.mono h.bel.size)) hR' (ho _ (.inl rfl)) (ho _ (.inr (.inl rfl))) (fun j hj => ho j (.inr (.inr (.inl hj)))) (fun j hj => ho j (.inr (.inr (.inr hj))))
    refine ⟨_, [x, y], rfl, ⟨hb4, b, fv, wv', hL', ?_⟩, hz, by simp, by simp; omega⟩
    intro j hj
    rcases hj with e | e | e | e
    · rw [e]; exact ho _ (.inl rfl)
    · rw [e]; exact ho _ (.inr (.inl rfl))
    · exact hf4 j e
    · exact hw4 j e
  · have hs := submit_full (hL.below hal) hH.nf.failed hH.jn w.heap.size 0 2 [x, y] hS1 hz (by simp) (by rw [hH.ckN]; simp; omega)
    refine hs.mono ?_
    rintro e w' ⟨rfl, hb⟩
    exact ⟨_, [], rfl, (h.below hal).below hb, fun s hs => by simp at hs, by simp, by simpa using hH.len⟩
theorem Lg.flushA {B w : World} {a : Nat} {D : Dk} {W E : List ByteArray} (h : Lg B w a D W) (hH : Holds D E) (hz : ∀ s ∈ W, s.size ≤ 40) (hw : W.length ≤ 12) (hl : E.length + W.length ≤ 64) (ht : Table B) (hg : 2 < B.heap.size) :
    Calls Tryd.prog 42 #[.pointer (some ⟨a, 0, none⟩)] w fun e w' => ∃ v, e = .returned v ∧ Below B.heap.size B w' := by
  obtain ⟨b, fv, wv, hL, ho⟩ := h.ex
  have hok : (D.flushed W).failed = false := by
    unfold Dk.flushed
    split
    · exact hH.nf.failed
    · exact (add_spec hH hw hz hl).nf.failed
  refine (logFlush_any hL hH.nf.failed hH.jn hz (by rw [hH.ckN]; omega) (by rw [hH.fre]; simp) (env_of ht hg h.bel (ho _ (.inr (.inl rfl))) (fun j hj => ho j (.inr (.inr (.inl hj))))) hok).mono ?_
  rintro e w' ⟨rfl, fv', hL', hR'⟩
  exact ⟨_, rfl, (FrL.below h.bel hR' (ho _ (.inl rfl)) (ho _ (.inr (.inl rfl))) (fun j hj => ho j (.inr (.inr (.inl hj)))) (fun j hj => ho j (.inr (.inr (.inr hj))))).1⟩

end Go.Proofs.YtlhohmlpcgbliaaDoor
namespace Go.Proofs.YtlhohmlpcgbliaaDoor
set_option maxRecDepth 100000
open Go.RowKit
attribute [local go_sem ↓] Go.wp_at_zero Go.wp_at_succ

set_option maxHeartbeats 1000000 in
theorem op14_wp {c0 c1 c2 c3 c4 c5 c6 c7 c8 c9 c10 c11 c12 c15 c16 c17 c18 c19 c20 c21 c22 c23 c24 c25 c26 c27 c28 c29 c30 c31 c32 c33 c34 c35 c36 c37 c38 c39 c40 c41 c42 c43 c44 c45 c46 c47 c48 c49 c50 c51 c52 c53 c54 c55 c56 c57 c58 c59 c60 c61 c62 c63 c64 c65 c66 c67 c68 c69 c70 c71 c72 c73 c74 c75 c76 c77 c78 c79 c80 c81 c82 c83 c84 c85 c86 c87 c88 c89 c90 c91 c92 c93 c94 c95 c96 c97 c98 c99 c100 c101 c102 c103 c104 c105 c106 c107 c108 c109 c110 c111 c112 c113 c114 c115 : Value} (lb k : Nat) (s : ByteArray) (w : World) (Q : Exit → Act → World → Prop) (hk : k < 2) (hc : w.cell? ⟨lb, k, none⟩ = some (.string s)) (ht : Table w) (hg : 2 < w.heap.size)
    (hQ : ∀ (u15 u16 u17 u18 u19 u72 u73 u74 u75 u76 u77 u78 u79 u80 u81 u82 u83 u84 u85 u86 u87 u88 u89 u90 u91 u92 u93 u94 u95 u96 u97 u98 u99 u100 u101 u102 u103 u104 u105 u106 u107 u108 u109 u110 u111 u112 u113 u114 u115 : Value) (w' : World), Below w.heap.size w w' → Q .normal ⟨#[c0, c1, c2, c3, c4, c5, c6, c7, c8, c9, c10, c11, c12, .slice (some ⟨lb, 0, none⟩) 2 2, .int .i64 (k : Int), u15, u16, u17, u18, u19, c20, c21, c22, c23, c24, c25, c26, c27, c28, c29, c30, c31, c32, c33, c34, c35, c36, c37, c38, c39, c40, c41, c42, c43, c44, c45, c46, c47, c48, c49, c50, c51, c52, c53, c54, c55, c56, c57, c58, c59, c60, c61, c62, c63, c64, c65, c66, c67, c68, c69, c70, c71, u72, u73, u74, u75, u76, u77, u78, u79, u80, u81, u82, u83, u84, u85, u86, u87, u88, u89, u90, u91, u92, u93, u94, u95, u96, u97, u98, u99, u100, u101, u102, u103, u104, u105, u106, u107, u108, u109, u110, u111, u112, u113, u114, u115], []⟩ w') :
    Code.wp Tryd.prog (sfxD Tryd.f13 14) Q ⟨#[c0, c1, c2, c3, c4, c5, c6, c7, c8, c9, c10, c11, c12, .slice (some ⟨lb, 0, none⟩) 2 2, .int .i64 (k : Int), c15, c16, c17, c18, c19, c20, c21, c22, c23, c24, c25, c26, c27, c28, c29, c30, c31, c32, c33, c34, c35, c36, c37, c38, c39, c40, c41, c42, c43, c44, c45, c46, c47, c48, c49, c50, c51, c52, c53, c54, c55, c56, c57, c58, c59, c60, c61, c62, c63, c64, c65, c66, c67, c68, c69, c70, c71, c72, c73, c74, c75, c76, c77, c78, c79, c80, c81, c82, c83, c84, c85, c86, c87, c88, c89, c90, c91, c92, c93, c94, c95, c96, c97, c98, c99, c100, c101, c102, c103, c104, c105, c106, c107, c108, c109, c110, c111, c112, c113, c114, c115], []⟩ w := by
  conv => arg 2; whnf
  have hk' : (k : Int) < 2 := by omega
  have gop := groveOpen_any s w ht hg
  have HT : Aside (Table w ∧ 2 < w.heap.size) := ⟨ht, hg⟩
  have HQ : Aside (∀ (u15 u16 u17 u18 u19 u72 u73 u74 u75 u76 u77 u78 u79 u80 u81 u82 u83 u84 u85 u86 u87 u88 u89 u90 u91 u92 u93 u94 u95 u96 u97 u98 u99 u100 u101 u102 u103 u104 u105 u106 u107 u108 u109 u110 u111 u112 u113 u114 u115 : Value) (w' : World), Below w.heap.size w w' → Q .normal ⟨#[c0, c1, c2, c3, c4, c5, c6, c7, c8, c9, c10, c11, c12, .slice (some ⟨lb, 0, none⟩) 2 2, .int .i64 (k : Int), u15, u16, u17, u18, u19, c20, c21, c22, c23, c24, c25, c26, c27, c28, c29, c30, c31, c32, c33, c34, c35, c36, c37, c38, c39, c40, c41, c42, c43, c44, c45, c46, c47, c48, c49, c50, c51, c52, c53, c54, c55, c56, c57, c58, c59, c60, c61, c62, c63, c64, c65, c66, c67, c68, c69, c70, c71, u72, u73, u74, u75, u76, u77, u78, u79, u80, u81, u82, u83, u84, u85, u86, u87, u88, u89, u90, u91, u92, u93, u94, u95, u96, u97, u98, u99, u100, u101, u102, u103, u104, u105, u106, u107, u108, u109, u110, u111, u112, u113, u114, u115], []⟩ w') := hQ
  clear hQ ht hg
  go_wp2_with fail
  refine gop.mono ?_
  rintro e w1 ⟨hb1, ⟨rfl, hn⟩ | ⟨a, rfl, hs, hso, hL⟩⟩
  · clear gop hn
    go_wp2_with fail
    refine (nilCk_any w1).mono ?_
    rintro e w2 ⟨rfl, rfl⟩
    go_wp2_with fail
    refine (nilEntry_any _ w2).mono ?_
    rintro e w3 ⟨rfl, rfl⟩
    go_wp2_with fail
    refine (nilInclusion_any _ _ w3).mono ?_
    rintro e w4 ⟨rfl, rfl⟩
    go_wp2_with fail
    refine (nilConsistency_any _ _ w4).mono ?_
    rintro e w5 ⟨rfl, rfl⟩
    go_wp2_with fail
    refine (nilRecover_any w5).mono ?_
    rintro e w6 ⟨rfl, rfl⟩
    go_wp2_with fail
    refine (nilSubmit_any _ _).mono ?_
    rintro e w7 ⟨rfl, rfl⟩
    go_wp2_with fail
    refine (nilFlush_any _).mono ?_
    rintro e w8 ⟨rfl, rfl⟩
    go_wp2
    exact HQ.out _ _ _ _ _ _ _ _ _ _ _ _ _ _ _ _ _ _ _ _ _ _ _ _ _ _ _ _ _ _ _ _ _ _ _ _ _ _ _ _ _ _ _ _ _ _ _ _ _ _ (hb1.alloc hb1.size _)
  · have hok : (Dk.of (bts s)).ok := Dk.of_ok (by rw [bts_length]; exact hs) (bts_byte s)
    obtain ⟨E, hE, hfi, hEn⟩ := sound_hold (D := Dk.of (bts s)) ⟨rfl, rfl⟩ hok rfl hso
    obtain ⟨E', hE', hEr⟩ := recv_spec hE hfi
    clear hEn hEr
    clear gop hs hso hok hb1
    generalize Dk.of (bts s) = D at *
    have HE : Aside (Hold1 D E ∧ D.fits E.length ∧ Holds D.recv E') := ⟨hE, hfi, hE'⟩
    clear hE hfi hE'
    have hl := HE.out.1.len
    generalize hn : E.length = n at *
    have HN : Aside (E.length = n) := hn
    clear hn
    go_wp2_with fail
    refine (hL.ckA HE.out.1 HN.out).mono ?_
    rintro e w2 ⟨r, rfl, h2⟩
    clear hL
    go_wp2_with fail
    refine (h2.entryA HE.out.1 HN.out).mono ?_
    rintro e w3 ⟨v3, rfl, h3⟩
    clear h2
    go_wp2_with fail
    refine (h3.inclA HE.out.1 HN.out HT.out.1 HT.out.2).mono ?_
    rintro e w4 ⟨v4, rfl, h4⟩
    clear h3
    go_wp2_with fail
    refine (h4.consA HE.out.1 HN.out HT.out.1 HT.out.2).mono ?_
    rintro e w5 ⟨v5, rfl, h5⟩
    clear h4
    go_wp2_with fail
    refine (h5.recv HE.out.1 (by rw [HN.out]; exact HE.out.2.1) HT.out.1 HT.out.2).mono ?_
    rintro e w6 ⟨rfl, h6⟩
    clear h5
    have g7 := h6.subA HE.out.2.2 ⟨#[109, 111, 114, 101]⟩ ⟨#[]⟩ (by decide) (by decide)
    clear h6
    go_wp2_with fail
    refine g7.mono ?_
    rintro e w7 ⟨v7, W', rfl, h7, hz7, hw7, hl7⟩
    clear g7
    have g8 := h7.flushA HE.out.2.2 hz7 hw7 hl7 HT.out.1 HT.out.2
    clear h7 hz7
    go_wp2_with fail
    refine g8.mono ?_
    rintro e w8 ⟨v8, rfl, hb8⟩
    clear g8
    go_wp2
    exact HQ.out _ _ _ _ _ _ _ _ _ _ _ _ _ _ _ _ _ _ _ _ _ _ _ _ _ _ _ _ _ _ _ _ _ _ _ _ _ _ _ _ _ _ _ _ _ _ _ _ _ _ hb8
end Go.Proofs.YtlhohmlpcgbliaaDoor
namespace Go.Proofs.YtlhohmlpcgbliaaDoor
set_option maxRecDepth 100000
open Go.RowKit
attribute [local go_sem ↓] Go.wp_at_zero Go.wp_at_succ

/-- A list of texts: nil, or lying somewhere. -/
def LS (w : World) (v : Value) (ts : List ByteArray) : Prop := (v = .slice none 0 0 ∧ ts = []) ∨ ∃ cb co cc, v = .slice (some ⟨cb, co, none⟩) ts.length cc ∧ SA w cb co ts ∧ cb < w.heap.size ∧ ts.length ≤ cc
theorem LS.of_row {w : World} {base : Nat} {v : Value} {ts : List ByteArray} (h : Row w base 9 v (strv ts)) : LS w v ts := by
  by_cases h0 : ts.length = 0
  · have ht := List.eq_nil_of_length_eq_zero h0
    subst ht
    obtain ⟨_, h2⟩ := h
    rcases h2 with ⟨rfl, _⟩ | ⟨g, cap, cur, rfl, _, hg, _⟩
    · exact .inl ⟨rfl, rfl⟩
    · exact .inr ⟨g, 0, cap, rfl, (fun i s hs => by simp at hs), (Array.getElem?_eq_some_iff.1 hg).1, Nat.zero_le _⟩
  · obtain ⟨g, cap, rfl, _, hcap, _, _, hlt, _⟩ := Row.form h (by rw [strv_length]; omega)
    rw [strv_length] at hcap h ⊢
    exact .inr ⟨g, 0, cap, rfl, SA.of_row h (by omega), hlt, hcap⟩
theorem rawI_nil (w : World) : RawI w (.slice none 0 0) := ⟨none, 0, 0, rfl, fun i hi => by omega⟩
theorem grownL_any (v : Value) (ts : List ByteArray) (w : World) (hS : LS w v ts) (hl64 : ts.length ≤ 64) (hz : ∀ s ∈ ts, s.size ≤ 40) (ht : Table w) (hg : 2 < w.heap.size) :
    Calls Tryd.prog 35 #[v, .slice none 0 0] w fun e w' => ∃ (a b : Nat) (fv : Value) (D : Dk), e = .returned (.pointer (some ⟨a, 0, none⟩)) ∧ LogAt w' a b fv (.slice none 0 0) D [] ∧ Holds D ts ∧ Below w.heap.size w w' ∧ w.heap.size ≤ a ∧ w.heap.size ≤ b ∧ (∀ k, fv.ownBlock = some k → w.heap.size ≤ k) := by
  rcases hS with ⟨rfl, rfl⟩ | ⟨cb, co, cc, rfl, hSA, hcb, hcc⟩
  · refine (grownNil_any w ht hg).mono ?_
    rintro e w' ⟨a, b, rfl, hL, hb, ha, hbb⟩
    exact ⟨a, b, _, _, rfl, hL, fresh_holds, hb, ha, hbb, fun k hk => by simp [Value.ownBlock] at hk⟩
  · exact grown_any cb co cc (.slice none 0 0) ts w hSA hcb hcc hl64 hz (rawI_nil w) ht hg

set_option maxHeartbeats 400000 in
theorem obeys_in (k m : Nat) (w : World) (h : k < m) : Calls Tryd.prog 51 #[.int .i64 3, .int .i64 (k : Int), .int .i64 (k : Int), .int .i64 (m : Int)] w fun e w' => e = .returned (.bool true) ∧ w' = w := by
  have h' : (k : Int) < (m : Int) := by omega
  go_enter Tryd.func51, Tryd.ntmps51
  go_wp2
  go_ret
  exact ⟨rfl, rfl⟩
set_option maxHeartbeats 400000 in
theorem obeys_end (m : Nat) (w : World) : Calls Tryd.prog 51 #[.int .i64 0, .int .i64 (m : Int), .int .i64 (m : Int), .int .i64 (m : Int)] w fun e w' => e = .returned (.bool true) ∧ w' = w := by
  have h' : ¬ (m : Int) < (m : Int) := by omega
  go_enter Tryd.func51, Tryd.ntmps51
  go_wp2
  go_ret
  exact ⟨rfl, rfl⟩

/-- What the rest of Later hangs on: the disk C, two entries, and so many acts for each. -/
structure LatP (C : Dk) (E : List ByteArray) (t1 t2 : ByteArray) (n m : Nat) : Prop where
  h0 : Holds C E
  h1 : Holds (C.add [t1]) (E ++ [t1])
  h2 : Holds ((C.add [t1]).add [t2]) (E ++ [t1] ++ [t2])
  a0 : C.acts = 0
  a1 : (C.add [t1]).acts = n
  a2 : ((C.add [t1]).add [t2]).acts = (n : Int) + m
  s1 : t1.size ≤ 40
  s2 : t2.size ≤ 40
  n3 : 3 ≤ n
  n4 : n ≤ 10000
  m3 : 3 ≤ m
  m4 : m ≤ 10000
  len : E.length ≤ 60
  en : n = (adA C [t1]).length
  em : m = (adA (C.add [t1]) [t2]).length
theorem latP {C : Dk} {E : List ByteArray} (hH : Holds C E) (ha : C.acts = 0) {t1 t2 : ByteArray} (h1 : t1.size ≤ 40) (h2 : t2.size ≤ 40) (hl : E.length ≤ 60) : LatP C E t1 t2 (adA C [t1]).length (adA (C.add [t1]) [t2]).length := by
  have H1 := add_spec hH (W := [t1]) (by simp) (fun s hs => by rw [List.mem_singleton.1 hs]; exact h1) (by simp; omega)
  have H2 := add_spec H1 (W := [t2]) (by simp) (fun s hs => by rw [List.mem_singleton.1 hs]; exact h2) (by simp; omega)
  have b1 := adA_len (R := C) (ss := [t1]) (by rw [hH.ckN]; simp; omega)
  have b2 := adA_len (R := C.add [t1]) (ss := [t2]) (by rw [H1.ckN]; simp; omega)
  have e1 := nf_add_acts hH.nf [t1] (by rw [hH.ckN]; simp; omega) (by omega) (by omega)
  have e2 := nf_add_acts H1.nf [t2] (by rw [H1.ckN]; simp; omega) (by omega) (by omega)
  exact ⟨hH, H1, H2, ha, by rw [e1, ha]; simp, by rw [e2, e1, ha]; omega, h1, h2, b1.1, b1.2, b2.1, b2.2, hl, rfl, rfl⟩
/-- The disk that fails later. -/
theorem LatP.first {C : Dk} {E : List ByteArray} {t1 t2 : ByteArray} {n m : Nat} (h : LatP C E t1 t2 n m) (k : Nat) (hk : k ≤ m) (keep : Int) :
    ((C.script ((n + k : Nat) : Int) keep).add [t1]).failed = false ∧ ((C.script ((n + k : Nat) : Int) keep).add [t1]).set = true ∧ ((C.script ((n + k : Nat) : Int) keep).add [t1]).left = k ∧ ((C.script ((n + k : Nat) : Int) keep).add [t1]).acts = n ∧ Like ((C.script ((n + k : Nat) : Int) keep).add [t1]) (C.add [t1]) := by
  have hn := h.n4
  have hm := h.m4
  have hl := h.len
  have h9 := script_in h.h0 (Dk.script_like C ((n + k : Nat) : Int) keep) h.h0.nf.failed rfl [t1] (by simp; omega) (by rw [← h.en]; show (n : Int) ≤ ((n + k : Nat) : Int); omega) (by show ((n + k : Nat) : Int) ≤ _; omega) (by show 0 ≤ C.acts; rw [h.a0]; omega) (by show C.acts ≤ _; rw [h.a0]; omega)
  rw [← h.en] at h9
  refine ⟨h9.1, h9.2.1, ?_, ?_, h9.2.2.2.2.2⟩
  · rw [h9.2.2.1]; show ((n + k : Nat) : Int) - n = k; omega
  · rw [h9.2.2.2.1]; show C.acts + n = n; rw [h.a0]; omega
theorem LatP.second {C : Dk} {E : List ByteArray} {t1 t2 : ByteArray} {n m : Nat} (h : LatP C E t1 t2 n m) (k : Nat) {Y : Dk} (hf : Y.failed = false) (hs : Y.set = true) (hl : Y.left = k) (ha : Y.acts = n) (hL : Like Y (C.add [t1])) :
    (k < m → (Y.add [t2]).failed = true ∧ (Y.add [t2]).acts = (n : Int) + k) ∧ (k = m → (Y.add [t2]).failed = false ∧ (Y.add [t2]).acts = (n : Int) + m) := by
  have hn := h.n4
  have hm := h.m4
  have hl' := h.len
  refine ⟨fun hk => ?_, fun hk => ?_⟩
  · have h9 := script_out h.h1 hL hf hs [t2] (by simp; omega) k hl (by rw [← h.em]; exact hk) (by rw [ha]; omega) (by rw [ha]; omega)
    exact ⟨h9.1, by rw [h9.2.1, ha]⟩
  · have h9 := script_in h.h1 hL hf hs [t2] (by simp; omega) (by rw [← h.em, hl]; omega) (by rw [hl]; omega) (by rw [ha]; omega) (by rw [ha]; omega)
    rw [← h.em] at h9
    exact ⟨h9.1, by rw [h9.2.2.2.1, ha]⟩
theorem Like.rd {Y R : Dk} {E : List ByteArray} (hL : Like Y R) (hH : Holds R E) : Y.read 1 = zer ∧ Y.ckN = E.length ∧ Y.fre = [] := ⟨(hL.read 1).trans hH.jn, hL.ckN.trans hH.ckN, hL.fre.trans hH.fre⟩
end Go.Proofs.YtlhohmlpcgbliaaDoor
namespace Go.Proofs.YtlhohmlpcgbliaaDoor
set_option maxRecDepth 100000
open Go.RowKit
attribute [local go_sem ↓] Go.wp_at_zero Go.wp_at_succ

set_option maxRecDepth 100000 in
set_option maxHeartbeats 1000000 in
theorem entriesN_any (v : Value) (ss : List ByteArray) (w : World) (hS : Strs w v ss) (hn : ss.length ≤ 140737488355328) (hz : ∀ s ∈ ss, s.size ≤ 140737488355328) :
    Calls Tryd.prog 31 #[v] w fun e w' => ∃ v' ts, e = .returned v' ∧ Row w' w.heap.size 9 v' (strv ts) ∧ ts.length = min ss.length 64 ∧ (ts = [] → v' = .slice none 0 0) ∧ (∀ s ∈ ts, s.size ≤ 40) ∧ Below w.heap.size w w' := by
  obtain ⟨a, c, rfl, hcells⟩ := hS
  have HC : Hid (∀ (i : Nat) s, ss[i]? = some s → ∃ g off, a = some ⟨g, off, none⟩ ∧ w.cell? ⟨g, off + i, none⟩ = some (.string s)) := hcells
  have HZ : Hid (∀ s ∈ ss, s.size ≤ 140737488355328) := hz
  clear hcells hz
  go_enter Tryd.func31, Tryd.ntmps31
  try go_wp2
  go_loopw [3, 4] (fun v i wr => ∃ (k : Nat) (ts : List ByteArray), k ≤ ss.length ∧ k ≤ 64 ∧ i = .int .i64 k ∧ Row wr w.heap.size 9 v (strv ts) ∧ Hid (ts.length = k ∧ (∀ s ∈ ts, s.size ≤ 40) ∧ (ts = [] → v = .slice none 0 0)) ∧ Below w.heap.size w wr) (fun _ i _ => ss.length - (intOf i).toNat)
  case atStart => exact ⟨0, [], by omega, by omega, rfl, World.ownsRow_nil _ _ _ _, ⟨rfl, (fun s hs => by simp at hs), fun _ => rfl⟩, Below.refl _ _⟩
  case round =>
    obtain ⟨k, ts, hk, hk64, rfl, hrow, HTs, hb⟩ := hrel
    by_cases h8 : k < ss.length
    · by_cases h9 : k < 64
      · obtain ⟨s, hs⟩ : ∃ s, ss[k]? = some s := ⟨_, List.getElem?_eq_getElem h8⟩
        obtain ⟨g, off, rfl, hcell⟩ := HC.out k s hs
        have hcell' : wr.cell? ⟨g, off + k, none⟩ = some (.string s) := by
          rw [hb.cell (World.block_lt_of_cell? _ _ hcell)]; exact hcell
        have hcu := cutE_any s wr (HZ.out s (List.mem_of_getElem? hs))
        have hxl : (strv ts).length = k := by rw [strv_length]; exact HTs.out.1
        have HN : Hid (∀ t, strv ts ++ [.string t] = strv (ts ++ [t])) := fun t => by simp [strv]
        have hsz0 := hb.size
        clear hcell hs
        generalize strv ts = xs at *
        go_wp2_with (first | (go_at_call 41; refine hcu.mono ?_; rintro e w1 ⟨t, rfl, htz, hw1⟩; rw [hw1]; clear hw1) | (at_builtin; refine wpList_app elem_string rfl Tryd.underlying22 (by rfl) (.tmp 15) (.tmp 21) (by rfl) w.heap.size _ xs (by rfl) (hrow.alloc _) _ 1 1 [.string t] (by rfl) rfl (Blk.new _ 9 _) ?h1 ?hl ?hb ?hbs (w0 := w) (hb.alloc hsz0 _) (Nat.le_refl _) ?_))
        case h1 => intro u hu; simp at hu; subst hu; rfl
        case hl => omega
        case hb => omega
        case hbs => simp; omega
        intro v' w' hv' _ hb'
        rw [HN.out t] at hv'
        go_wp2
        go_roundw
        case rel => exact ⟨k + 1, ts ++ [t], by omega, by omega, by go_num, hv', ⟨by rw [List.length_append, HTs.out.1]; rfl, (fun x hx => by
          rcases List.mem_append.1 hx with h | h
          · exact HTs.out.2.1 x h
          · rw [List.mem_singleton.1 h]; exact htz), fun e => by simp at e⟩, hb'⟩
        case measure => simp [intOf]; omega
      · have hk8 : k = 64 := by omega
        subst hk8
        go_wp2
        go_ret
        exact ⟨_, ts, rfl, hrow, by rw [HTs.out.1]; omega, HTs.out.2.2, HTs.out.2.1, hb⟩
    · have hk8 : k = ss.length := by omega
      subst hk8
      go_wp2
      go_ret
      exact ⟨_, ts, rfl, hrow, by rw [HTs.out.1]; omega, HTs.out.2.2, HTs.out.2.1, hb⟩

/-- A block of bytes that a text was turned into. -/
def ByB (w : World) (b : Nat) (l : List Nat) : Prop := ∃ cs fr, w.heap[b]? = some (.cells cs 5 fr) ∧ l.length ≤ cs.size ∧ cs.size ≤ fr.1 ∧ ∀ (j : Nat) x, l[j]? = some x → cs[j]? = some (.int .u8 (x : Int))
theorem ByB.cell {w : World} {b : Nat} {l : List Nat} (h : ByB w b l) {j x : Nat} (hx : l[j]? = some x) : w.cell? ⟨b, j, none⟩ = some (.int .u8 (x : Int)) := by
  obtain ⟨cs, fr, hh, _, _, hc⟩ := h
  simp [World.cell?, hh, hc j x hx]
theorem ByB.frozen {w : World} {b : Nat} {l : List Nat} (h : ByB w b l) {j : Nat} (hj : j < l.length) : w.frozen? ⟨b, j, none⟩ = false := by
  obtain ⟨cs, fr, hh, h1, h2, hc⟩ := h
  simp [World.frozen?, hh]
  omega
theorem ByB.range {w : World} {b : Nat} {l : List Nat} (h : ByB w b l) : w.rangeAt b 0 (u8s l) := by
  intro j v hv
  have hj : j < l.length := by
    have := (List.getElem?_eq_some_iff.1 hv).1
    rwa [u8s_length] at this
  have h1 := u8s_get l j hj
  rw [h1] at hv
  injection hv with hv
  subst hv
  rw [Nat.zero_add]
  refine h.cell ?_
  rw [List.getD_eq_getElem?_getD, List.getElem?_eq_getElem hj]
  rfl
theorem ByB.lt {w : World} {b : Nat} {l : List Nat} (h : ByB w b l) : b < w.heap.size := by
  obtain ⟨cs, fr, hh, _⟩ := h
  exact (Array.getElem?_eq_some_iff.1 hh).1
theorem ByB.set {w : World} {b : Nat} {l : List Nat} (h : ByB w b l) (j x : Nat) (hj : j < l.length) : ByB (w.setCell ⟨b, j, none⟩ (.int .u8 (x : Int))) b (l.set j x) := by
  obtain ⟨cs, fr, hh, h1, h2, hc⟩ := h
  refine ⟨cs.setIfInBounds j (.int .u8 (x : Int)), fr, ?_, by simpa using h1, by simpa using h2, ?_⟩
  · simp [World.setCell, Array.getElem?_modify, hh]
  · intro i y hy
    by_cases hij : j = i
    · subst hij
      rw [List.getElem?_set_self hj] at hy
      injection hy with hy
      subst hy
      rw [Array.getElem?_setIfInBounds_self]
      simp
      omega
    · rw [List.getElem?_set_ne hij] at hy
      rw [Array.getElem?_setIfInBounds_ne hij]
      exact hc i y hy
theorem byB_new (w : World) (s : ByteArray) : ByB (Lib.bytesWorld w 5 s) w.heap.size (bts s) := by
  refine ⟨_, _, Lib.bytesWorld_at_new _ _ _, ?_, Nat.le_refl _, ?_⟩
  · rw [bts_length]
    simp [Lib.bytesCells]
  · intro j x hx
    have hj : j < s.size := by
      have := (List.getElem?_eq_some_iff.1 hx).1
      rwa [bts_length] at this
    have hxx : x = (s.data.toList.getD j 0).toNat := by
      have hx2 := hx
      simp only [bts, List.getElem?_map] at hx2
      cases hq : s.data.toList[j]? with
      | none => rw [hq] at hx2; simp at hx2
      | some y =>
        rw [hq] at hx2
        simp at hx2
        rw [List.getD_eq_getElem?_getD, hq]
        simp [hx2]
    have hc := Lib.bytesWorld_cell w 5 s j hj
    simp only [World.cell?, Lib.bytesWorld_at_new] at hc
    rw [hxx]
    simpa using hc
end Go.Proofs.YtlhohmlpcgbliaaDoor
namespace Go.Proofs.YtlhohmlpcgbliaaDoor
set_option maxRecDepth 100000
open Go.RowKit
attribute [local go_sem ↓] Go.wp_at_zero Go.wp_at_succ

theorem buildSlice2 (w : World) (a b : ByteArray) : (Instr.buildSlice 22 2 #[(0, .string a), (1, .string b)]).run Tryd.prog w = .ok (.slice (some ⟨w.heap.size, 0, none⟩) 2 2) (w.alloc (.cells #[.string a, .string b] 9)) := by kernel_rfl
def opQ (w0 : World) : Exit → Act → World → Prop := bodyPost Tryd.prog Tryd.f13 fun e w' => e = .returned (.bool true) ∧ Below w0.heap.size w0 w'

set_option maxHeartbeats 2000000 in
theorem op10_wp {c0 c1 c2 c4 c5 c6 c7 c8 c9 c11 c12 c13 c14 c15 c16 c17 c18 c19 c20 c21 c22 c23 c24 c25 c26 c27 c28 c29 c30 c31 c32 c33 c34 c35 c36 c37 c38 c39 c40 c41 c42 c43 c44 c45 c46 c47 c48 c49 c50 c51 c52 c53 c54 c55 c56 c57 c58 c59 c60 c61 c62 c63 c64 c65 c66 c67 c68 c69 c70 c71 c72 c73 c74 c75 c76 c77 c78 c79 c80 c81 c82 c83 c84 c85 c86 c87 c88 c89 c90 c91 c92 c93 c94 c95 c96 c97 c98 c99 c100 c101 c102 c103 c104 c105 c106 c107 c108 c109 c110 c111 c112 c113 c114 c115 : Value} (any : ByteArray) (cb cap : Nat) (l : List Nat) (wB w : World) (hl : l.length = 25600) (hB : ByB w cb l) (hb : Below wB.heap.size wB w) (ht : Table wB) (hg : 2 < wB.heap.size) :
    Code.wp Tryd.prog (sfxD Tryd.f13 10) (opQ wB) ⟨#[c0, c1, c2, .string any, c4, c5, c6, c7, c8, c9, .slice (some ⟨cb, 0, none⟩) 25600 cap, c11, c12, c13, c14, c15, c16, c17, c18, c19, c20, c21, c22, c23, c24, c25, c26, c27, c28, c29, c30, c31, c32, c33, c34, c35, c36, c37, c38, c39, c40, c41, c42, c43, c44, c45, c46, c47, c48, c49, c50, c51, c52, c53, c54, c55, c56, c57, c58, c59, c60, c61, c62, c63, c64, c65, c66, c67, c68, c69, c70, c71, c72, c73, c74, c75, c76, c77, c78, c79, c80, c81, c82, c83, c84, c85, c86, c87, c88, c89, c90, c91, c92, c93, c94, c95, c96, c97, c98, c99, c100, c101, c102, c103, c104, c105, c106, c107, c108, c109, c110, c111, c112, c113, c114, c115], []⟩ w := by
  conv => arg 2; whnf
  generalize hQ : opQ wB = Q
  have HQ : Aside (opQ wB = Q) := hQ
  clear hQ
  have T : Aside (∀ wx, Below wB.heap.size wB wx → Table wx ∧ 2 < wx.heap.size) := fun wx hx => ⟨table_at hx hg ht, Nat.lt_of_lt_of_le hg hx.size⟩
  have hcv := convert_range (cap := cap) hB.range
  rw [hl] at hcv
  generalize strOf l = s0 at *
  clear hl ht hg hB
  have hbs := fun wx => buildSlice2 wx s0 any
  have hL : Blk (w.alloc (.cells #[.string s0, .string any] 9)) w.heap.size 9 [.string s0, .string any] := Blk.new w _ _
  have HW : Aside (Below wB.heap.size wB (w.alloc (.cells #[.string s0, .string any] 9)) ∧ Blk (w.alloc (.cells #[.string s0, .string any] 9)) w.heap.size 9 [.string s0, .string any]) := ⟨hb.alloc hb.size _, hL⟩
  clear hL hb
  go_wp2_with fail
  generalize w.alloc (.cells #[.string s0, .string any] 9) = w1 at *
  generalize w.heap.size = lb at *
  clear hbs
  go_loopw [14] (fun v wr => ∃ k : Nat, k ≤ 2 ∧ v = .int .i64 (k : Int) ∧ Aside (Below w1.heap.size w1 wr)) (fun v _ => 2 - (intOf v).toNat)
  case atStart => exact ⟨0, by omega, rfl, Below.refl _ _⟩
  case round =>
    obtain ⟨k, hk, rfl, HB⟩ := hrel
    by_cases h2 : k < 2
    · have h2' : (k : Int) < 2 := by omega
      obtain ⟨s, hs⟩ : ∃ s, w1.cell? ⟨lb, k, none⟩ = some (.string s) := by
        rw [HW.out.2.cell]
        match k, h2 with
        | 0, _ => exact ⟨_, rfl⟩
        | 1, _ => exact ⟨_, rfl⟩
      have HC : Aside (w1.cell? ⟨lb, k, none⟩ = some (.string s)) := hs
      clear hs
      refine wp_seq_k ?_
      intro K hK
      have HK : Aside (∀ a w, _ → K a w) := hK
      clear hK
      go_wp2
      refine HK.out _ _ ?_
      clear HK
      refine wp_seq_k ?_
      intro K2 hK2
      have HK2 : Aside (∀ a w, _ → K2 a w) := hK2
      clear hK2
      refine wp_block ?_
      have hBw := HW.out.1.trans (HB.out.mono HW.out.1.size)
      refine op14_wp lb k s wr _ h2 (by rw [HB.out.cell (World.block_lt_of_cell? _ _ HC.out)]; exact HC.out) (T.out wr hBw).1 (T.out wr hBw).2 ?_
      intro u15 u16 u17 u18 u19 u72 u73 u74 u75 u76 u77 u78 u79 u80 u81 u82 u83 u84 u85 u86 u87 u88 u89 u90 u91 u92 u93 u94 u95 u96 u97 u98 u99 u100 u101 u102 u103 u104 u105 u106 u107 u108 u109 u110 u111 u112 u113 u114 u115 w2 hb2
      have H2 : Aside (Below w1.heap.size w1 w2) := HB.out.trans (hb2.mono HB.out.size)
      clear hb2 hBw
      refine HK2.out _ _ ?_
      clear HK2
      go_wp2
      go_roundw
      case rel => exact ⟨k + 1, by omega, by go_num, H2⟩
      case measure => simp [intOf]; omega
    · have h2' : ¬ (k : Int) < 2 := by omega
      go_wp2
      rw [← HQ.out]
      unfold opQ
      go_ret
      exact ⟨rfl, HW.out.1.trans (HB.out.mono HW.out.1.size)⟩

set_option maxHeartbeats 2000000 in
theorem op4_wp {c0 c4 c5 c6 c7 c8 c10 c11 c12 c13 c14 c15 c16 c17 c18 c19 c20 c21 c22 c23 c24 c25 c26 c27 c28 c29 c30 c31 c32 c33 c34 c35 c36 c37 c38 c39 c40 c41 c42 c43 c44 c45 c46 c47 c48 c49 c50 c51 c52 c53 c54 c55 c56 c57 c58 c59 c60 c61 c62 c63 c64 c65 c66 c67 c68 c69 c70 c71 c72 c73 c74 c75 c76 c77 c78 c79 c80 c81 c82 c83 c84 c85 c86 c87 c88 c89 c90 c91 c92 c93 c94 c95 c96 c97 c98 c99 c100 c101 c102 c103 c104 c105 c106 c107 c108 c109 c110 c111 c112 c113 c114 c115 : Value} (i : Int) (bb any : ByteArray) (a b : Nat) (fv : Value) (D : Dk) (wB w : World) (hi1 : -9223372036854775808 ≤ i) (hi2 : i ≤ 9223372036854775807) (hL : LogAt w a b fv (.slice none 0 0) D []) (hb : Below wB.heap.size wB w) (ht : Table wB) (hg : 2 < wB.heap.size) :
    Code.wp Tryd.prog (sfxD Tryd.f13 4) (opQ wB) ⟨#[c0, .int .i64 i, .string bb, .string any, c4, c5, c6, c7, c8, .pointer (some ⟨a, 0, none⟩), c10, c11, c12, c13, c14, c15, c16, c17, c18, c19, c20, c21, c22, c23, c24, c25, c26, c27, c28, c29, c30, c31, c32, c33, c34, c35, c36, c37, c38, c39, c40, c41, c42, c43, c44, c45, c46, c47, c48, c49, c50, c51, c52, c53, c54, c55, c56, c57, c58, c59, c60, c61, c62, c63, c64, c65, c66, c67, c68, c69, c70, c71, c72, c73, c74, c75, c76, c77, c78, c79, c80, c81, c82, c83, c84, c85, c86, c87, c88, c89, c90, c91, c92, c93, c94, c95, c96, c97, c98, c99, c100, c101, c102, c103, c104, c105, c106, c107, c108, c109, c110, c111, c112, c113, c114, c115], []⟩ w := by
  conv => arg 2; whnf
  generalize hQ : opQ wB = Q
  have HQ : Aside (opQ wB = Q) := hQ
  clear hQ
  have hby := logBytes_any hL
  have hsz : (strOf D.las.flatten).size = 25600 := by rw [strOf_size (flat_byt hL.disk.ok), hL.disk.ok.flat]
  generalize strOf D.las.flatten = s at *
  have HT : Aside (Table wB ∧ 2 < wB.heap.size) := ⟨ht, hg⟩
  clear ht hg hL
  go_wp2_with fail
  refine hby.mono ?_
  rintro e w1 ⟨rfl, hb1⟩
  clear hby
  have hcv := Lib.run_convert_string_bytes (P := Tryd.prog) w1 9 82 5 s Tryd.underlying9 Tryd.underlying82 Tryd.underlying5
  have hb2 : Below wB.heap.size wB (Lib.bytesWorld w1 5 s) := (hb.trans (hb1.mono hb.size)).trans ((below_bytes w1 s).mono (Nat.le_trans hb.size hb1.size))
  have hN := byB_new w1 s
  have hnl : (bts s).length = 25600 := by rw [bts_length]; exact hsz
  have hcb : wB.heap.size ≤ w1.heap.size := Nat.le_trans hb.size hb1.size
  have hge : s.size ≤ grownCap w1 s.size 0 5 := grownCap_ge w1 s.size 0 5
  rw [hsz] at hcv hge
  generalize grownCap w1 25600 0 5 = cap at *
  generalize Lib.bytesWorld w1 5 s = w2 at *
  generalize w1.heap.size = cb at *
  generalize bts s = l0 at *
  have HW : Aside (ByB w2 cb l0 ∧ l0.length = 25600 ∧ Below wB.heap.size wB w2) := ⟨hN, hnl, hb2⟩
  clear hN hnl hb2 hb1 hb hsz
  have hpk : Calls Tryd.prog 32 #[.int .i64 i, .int .i64 25600] w2 fun e w' => e = .returned (.int .i64 (pickV i 25600 : Nat)) ∧ w' = w2 := pickG_any i 25600 w2 hi1 hi2 (by omega) (by omega)
  have hpl := pickV_lt i 25600 (by omega)
  generalize pickV i 25600 = from' at *
  go_wp2_with fail
  refine hpk.mono ?_
  rintro e w3 ⟨rfl, rfl⟩
  clear hpk hcv
  go_wp2_with fail
  rename_i K hK
  have HK : Aside (∀ a w, _ → K a w) := hK
  clear hK
  go_loopw [12] (fun v wr => ∃ (k : Nat) (l : List Nat), k ≤ 25600 ∧ v = .int .i64 (k : Int) ∧ Aside (ByB wr cb l ∧ l.length = 25600 ∧ Below wB.heap.size wB wr)) (fun v _ => 25600 - (intOf v).toNat)
  case atStart => exact ⟨0, l0, by omega, rfl, HW⟩
  case round =>
    obtain ⟨k, l, hk, rfl, HL⟩ := hrel
    by_cases hkb : k < bb.size
    · have hkb' : (k : Int) < (bb.size : Int) := by omega
      by_cases hfk : from' + k < 25600
      · have hfk' : (from' : Int) + (k : Int) < 25600 := by omega
        obtain ⟨y, hy⟩ : ∃ y : Nat, l[from' + k]? = some y := ⟨_, List.getElem?_eq_getElem (by rw [HL.out.2.1]; exact hfk)⟩
        have hcell := HL.out.1.cell hy
        have hfz := HL.out.1.frozen (j := from' + k) (by rw [HL.out.2.1]; exact hfk)
        have hix := fun wx => index_st wx (bts bb) (bts_byte bb) k (by rw [bts_length]; exact hkb)
        rw [strOf_bts] at hix
        generalize (bts bb).getD k 0 = z at *
        have H2 : Aside (ByB (wr.setCell ⟨cb, from' + k, none⟩ (.int .u8 (z : Int))) cb (l.set (from' + k) z) ∧ (l.set (from' + k) z).length = 25600 ∧ Below wB.heap.size wB (wr.setCell ⟨cb, from' + k, none⟩ (.int .u8 (z : Int)))) :=
          ⟨HL.out.1.set _ _ (by rw [HL.out.2.1]; exact hfk), by rw [List.length_set]; exact HL.out.2.1, HL.out.2.2.setCell hcb _⟩
        clear hy
        go_wp2
        generalize wr.setCell ⟨cb, from' + k, none⟩ (.int .u8 (z : Int)) = w4 at *
        go_roundw
        case rel => exact ⟨k + 1, _, by omega, by go_num, H2⟩
        case measure => simp [intOf]; omega
      · have hfk' : ¬ (from' : Int) + (k : Int) < 25600 := by omega
        go_wp2
        refine HK.out _ _ ?_
        rw [← HQ.out]
        exact op10_wp any cb cap l wB wr HL.out.2.1 HL.out.1 HL.out.2.2 HT.out.1 HT.out.2
    · have hkb' : ¬ (k : Int) < (bb.size : Int) := by omega
      go_wp2
      refine HK.out _ _ ?_
      rw [← HQ.out]
      exact op10_wp any cb cap l wB wr HL.out.2.1 HL.out.1 HL.out.2.2 HT.out.1 HT.out.2
end Go.Proofs.YtlhohmlpcgbliaaDoor
