import Derived.Test.YtlhohmlpcgbliabGreatDoorZF4
namespace Go.Proofs.YtlhohmlpcgbliabGreatDoor
open Go.RowKit
attribute [local go_sem ↓] Go.wp_at_zero Go.wp_at_succ

theorem SA.strs {w : World} {b o c : Nat} {ss : List ByteArray} (h : SA w b o ss) : Strs w (.slice (some ⟨b, o, none⟩) ss.length c) ss := ⟨some ⟨b, o, none⟩, c, rfl, fun i s hs => ⟨b, o, rfl, h i s hs⟩⟩
theorem SA.fr {w w' : World} {b cb o : Nat} {g g' : Option Nat} {ss : List ByteArray} (h : SA w cb o ss) (r : Fr b g g' w w') (hl : cb < w.heap.size) (hb : cb ≠ b) (hg : g ≠ some cb) : SA w' cb o ss := fun i s hs => by
  rw [World.cell?_of_block (r.block cb hl hb hg)]; exact h i s hs
theorem SA.of_blk {w : World} {b : Nat} {t : TypeId} {ss : List ByteArray} (h : Blk w b t (strv ss)) : SA w b 0 ss := fun i s hs => by
  rw [Nat.zero_add, h.cell]
  simp only [strv, List.getElem?_map, hs]; rfl
theorem packS_size {e : ByteArray} (h : e.size ≤ 40) : (packS e).size ≤ 41 := by
  unfold packS
  rw [strOf_size]
  · simp; omega
  · intro x hx
    rcases List.mem_cons.1 hx with rfl | h3
    · omega
    · exact bts_byte e x h3
theorem Dk.act_len (D : Dk) : D.act.fre.length ≤ D.fre.length := by
  unfold Dk.act Dk.trip Dk.tick Dk.fail
  split <;> split <;> simp
theorem Dk.flush_len (D : Dk) : D.flush.fre.length ≤ D.fre.length := by
  unfold Dk.flush
  split
  · simp
  · exact D.act_len
theorem grwF_len : ∀ (f : Nat) (D : Dk) (first n l size : Nat), n ≤ 76 → (grwF f D first n l size).fre.length ≤ D.fre.length + f * 100 := by
  intro f
  induction f with
  | zero => intro D first n l size _; simp [grwF]
  | succ f ih =>
    intro D first n l size hn
    rw [grwF]
    split
    · refine Nat.le_trans (ih _ _ _ _ _ hn) ?_
      have h1 := rowWrite_len D (tileAt l).1 4 (first / size) ((D.hashes l (first / size) (n / size)).map bts)
      have h2 : ((D.hashes l (first / size) (n / size)).map bts).length = n / size - first / size := by simp [Dk.hashes]
      have h3 : n / size ≤ n := Nat.div_le_self _ _
      rw [h2] at h1
      have h4 : n / size - first / size ≤ 76 := Nat.le_trans (Nat.sub_le _ _) (Nat.le_trans h3 hn)
      omega
    · omega
/-- Entries as they are packed. -/
def packs (ss : List ByteArray) : List (List Nat) := (ss.map packS).map bts
theorem packs_len (ss : List ByteArray) : (packs ss).length = ss.length := by simp [packs]
def Dk.jwrite (D : Dk) (f : Nat) (ss : List ByteArray) : Dk := ((D.rowWrite 2 3 0 (packs ss)).flush.write 1 (hdSec f ss.length)).flush

set_option maxHeartbeats 2000000 in
theorem jwR1_wp {c0 c3 c4 c5 c6 c7 c8 c9 c10 c11 c12 c13 c14 c15 c16 c17 : Value} (b jb cb co cc f : Nat) (ss : List ByteArray) (fv : Value) (D : Dk) (w : World) (Q : Exit → Act → World → Prop) (h : DiskAt w b fv D) (hj : Blk w jb 144 [.int .i64 (f : Int), .slice (some ⟨cb, co, none⟩) ss.length cc]) (hjb : jb ≠ b) (hjf : fv.ownBlock ≠ some jb)
    (hS : SA w cb co ss) (hz : ∀ s ∈ ss, s.size ≤ 40) (hl : ss.length ≤ 76) (hfe : D.fre.length < 900000)
    (hQ : ∀ (u4 u5 u6 u7 u8 u9 : Value) (fv' : Value) (w' : World), DiskAt w' b fv' (D.rowWrite 2 3 0 (packs ss)) → Fr b fv.ownBlock fv'.ownBlock w w' → Q .normal ⟨#[c0, .pointer (some ⟨b, 0, none⟩), .pointer (some ⟨jb, 0, none⟩), c3, u4, u5, u6, u7, u8, u9, c10, c11, c12, c13, c14, c15, c16, c17], []⟩ w') :
    Code.wp Tryz.prog (rgn Tryz.f111 1) Q ⟨#[c0, .pointer (some ⟨b, 0, none⟩), .pointer (some ⟨jb, 0, none⟩), c3, c4, c5, c6, c7, c8, c9, c10, c11, c12, c13, c14, c15, c16, c17], []⟩ w := by
  have hjc : w.cell? ⟨jb, 0, none⟩ = some (.int .i64 (f : Int)) ∧ w.cell? ⟨jb, 1, none⟩ = some (.slice (some ⟨cb, co, none⟩) ss.length cc) := ⟨by rw [hj.cell]; rfl, by rw [hj.cell]; rfl⟩
  have hS0 : (fun wx : World => wx.cell? ⟨jb, 0, none⟩ = some (.int .i64 (f : Int)) ∧ wx.cell? ⟨jb, 1, none⟩ = some (.slice (some ⟨cb, co, none⟩) ss.length cc)) w.drew := hjc
  have hltj := hj.lt
  have hSb : ∀ wx, Below w.heap.size w wx → wx.cell? ⟨jb, 0, none⟩ = some (.int .i64 (f : Int)) ∧ wx.cell? ⟨jb, 1, none⟩ = some (.slice (some ⟨cb, co, none⟩) ss.length cc) := fun wx hx => ⟨by rw [hx.cell (p := ⟨jb, 0, none⟩) hltj]; exact hjc.1, by rw [hx.cell (p := ⟨jb, 1, none⟩) hltj]; exact hjc.2⟩
  conv => arg 2; whnf
  refine wp_region_s (fun wx : World => wx.cell? ⟨jb, 0, none⟩ = some (.int .i64 (f : Int)) ∧ wx.cell? ⟨jb, 1, none⟩ = some (.slice (some ⟨cb, co, none⟩) ss.length cc)) (by kernel_rfl) ?_
  refine wpS_pure (k := 1) (v := .pointer (some ⟨b, 0, none⟩)) (by rfl) (by kernel_rfl) (by kernel_rfl) (by kernel_rfl) (by rfl) (some 5) (by rfl) hS0 (fun _ _ => by kernel_rfl) ?_
  simp only [Act.put, List.setIfInBounds_toArray, List.set_cons_succ, List.set_cons_zero]
  refine wpS_pure (k := 2) (v := .pointer (some ⟨jb, 1, none⟩)) (by rfl) (by kernel_rfl) (by kernel_rfl) (by kernel_rfl) (by rfl) (some 6) (by rfl) hS0 (fun _ _ => by kernel_rfl) ?_
  simp only [Act.put, List.setIfInBounds_toArray, List.set_cons_succ, List.set_cons_zero]
  refine wpS_pure (k := 3) (v := .slice (some ⟨cb, co, none⟩) ss.length cc) (by rfl) (by kernel_rfl) (by kernel_rfl) (by kernel_rfl) (by rfl) (some 7) (by rfl) hS0 (fun wx hx => exec_ld (by rfl) (by rfl) (loadStrs wx jb 1 _ _ _ hx.2)) ?_
  simp only [Act.put, List.setIfInBounds_toArray, List.set_cons_succ, List.set_cons_zero]
  have hb0 : Below w.heap.size w w.drew := (Below.refl w.heap.size w).drew
  refine wpS_one (i := 0) (by kernel_rfl) (opS_call (f := 124) (vs := #[]) (by rfl) (by rfl) (some 4) (by rfl) (by kernel_rfl) ((added_any w.drew).mono ?_))
  rintro e w1 ⟨rfl, hb1⟩
  have hw1 : Below w.heap.size w w1 := hb0.trans hb1
  refine ⟨_, rfl, hSb w1 hw1, ?_⟩
  simp only [Act.put, List.setIfInBounds_toArray, List.set_cons_succ, List.set_cons_zero]
  refine wpS_one (i := 4) (by kernel_rfl) (opS_call (f := 126) (vs := #[.slice (some ⟨cb, co, none⟩) ss.length cc]) (by rfl) (by rfl) (some 8) (by rfl) (by kernel_rfl) ((packed_any _ ss w1 (hS.below hw1).strs (by omega) hz).mono ?_))
  rintro e w2 ⟨rfl, hB2, hb2⟩
  have hw2 := hw1.trans (hb2.mono hw1.size)
  refine ⟨_, rfl, hSb w2 hw2, ?_⟩
  simp only [Act.put, List.setIfInBounds_toArray, List.set_cons_succ, List.set_cons_zero]
  have hdl := h.lt
  have hsz1 := hw1.size
  have hown : fv.ownBlock ≠ some w1.heap.size := fun e => by have := (h.row.lt _ e).2; omega
  have hrw := rowWrite3_any b w1.heap.size 0 ss.length 2 0 fv D (ss.map packS) w2 (h.below hw2) (SA.of_blk hB2) hB2.lt (by omega) hown (fun s hs => by
    obtain ⟨x, hx, rfl⟩ := List.mem_map.1 hs
    have := packS_size (hz x hx)
    omega) (by simp) (by simp; omega) (by simp; omega) (by simp; omega)
  rw [List.length_map] at hrw
  refine wpS_one (i := 5) (by kernel_rfl) (opS_call (f := 125) (vs := #[rowV 2 3, .pointer (some ⟨b, 0, none⟩), .int .i64 0, .slice (some ⟨w1.heap.size, 0, none⟩) ss.length ss.length]) (by rfl) (by rfl) (some 9) (by rfl) (by kernel_rfl) (hrw.mono ?_))
  rintro e w3 ⟨rfl, fv3, h3, r3⟩
  have hjl2 : jb < w2.heap.size := Nat.lt_of_lt_of_le hltj hw2.size
  have hS3 := hSb w2 hw2
  refine ⟨_, rfl, ⟨by rw [World.cell?_of_block (a := ⟨jb, 0, none⟩) (r3.block jb hjl2 hjb hjf)]; exact hS3.1, by rw [World.cell?_of_block (a := ⟨jb, 1, none⟩) (r3.block jb hjl2 hjb hjf)]; exact hS3.2⟩, ?_⟩
  simp only [Act.put, List.setIfInBounds_toArray, List.set_cons_succ, List.set_cons_zero]
  refine wpAnyH_done (by kernel_rfl) ?_ _
  refine NoPanic.normal ?_
  exact hQ _ _ _ _ _ _ fv3 w3 h3 ((Fr.of_below hw2).trans r3)

set_option maxHeartbeats 2000000 in
theorem jwrite_any (b cb co cc f : Nat) (ss : List ByteArray) (fv : Value) (D : Dk) (w : World) (h : DiskAt w b fv D) (hS : SA w cb co ss) (hz : ∀ s ∈ ss, s.size ≤ 40) (hl : ss.length ≤ 76) (hf : f < 256) (hfe : D.fre.length < 900000) :
    Calls Tryz.prog 111 #[jV f (some ⟨cb, co, none⟩) ss.length cc, .pointer (some ⟨b, 0, none⟩)] w fun e w' => e = .returned (.tuple #[]) ∧ ∃ fv', DiskAt w' b fv' (D.jwrite f ss) ∧ Fr b fv.ownBlock fv'.ownBlock w w' := by
  have hb0 : Below w.heap.size w (w.alloc (.cells #[.int .i64 (f : Int), .slice (some ⟨cb, co, none⟩) ss.length cc] 144)) := (Below.refl _ _).alloc (Nat.le_refl _) _
  have hJ0 : Blk (w.alloc (.cells #[.int .i64 (f : Int), .slice (some ⟨cb, co, none⟩) ss.length cc] 144)) w.heap.size 144 [.int .i64 (f : Int), .slice (some ⟨cb, co, none⟩) ss.length cc] := Blk.new w _ _
  have hlt := h.lt
  have hown := h.own_lt
  have h0 := h.below hb0
  have hS0 := hS.below hb0
  have HJ : Hid (D.jwrite f ss = ((D.rowWrite 2 3 0 (packs ss)).flush.write 1 (hdSec f ss.length)).flush) := rfl
  have hrl := rowWrite_len D 2 3 0 (packs ss)
  rw [packs_len] at hrl
  have hfl := (D.rowWrite 2 3 0 (packs ss)).flush_len
  have hsec := hdSec_sec hf (n := ss.length) (by omega)
  unfold jV
  go_enter Tryz.func111, Tryz.ntmps111
  go_wp2_with fail
  have hs0 : w.heap.size < (w.alloc (.cells #[.int .i64 (f : Int), .slice (some ⟨cb, co, none⟩) ss.length cc] 144)).heap.size := by simp
  generalize w.alloc (.cells #[.int .i64 (f : Int), .slice (some ⟨cb, co, none⟩) ss.length cc] 144) = w0 at *
  refine jwR1_wp b w.heap.size cb co cc f ss fv D w0 _ h0 hJ0 (by omega) hown hS0 hz hl hfe ?_
  intro u4 u5 u6 u7 u8 u9 fv1 w1 h1 r1
  generalize D.rowWrite 2 3 0 (packs ss) = D1 at *
  have hJ1 := r1.blk hJ0 (by omega) hown
  have hown1 := r1.apart hs0 hown
  go_wp2_with fail
  refine (flush_any b fv1 D1 w1 h1).mono ?_
  rintro e w2 ⟨rfl, fv2, h2, r2⟩
  have hJ2 := r2.blk hJ1 (by omega) hown1
  have hc0 := hJ2.cell 0
  have hc1 := hJ2.cell 1
  simp only [List.getElem?_cons_succ, List.getElem?_cons_zero] at hc0 hc1
  have hhd := head_any f ss.length cc (some ⟨cb, co, none⟩) w2 hf (by omega)
  unfold jV at hhd
  generalize D1.flush = D2 at *
  generalize hdSec f ss.length = s at *
  go_wp2_with fail
  refine hhd.mono ?_
  rintro e w3 ⟨rfl, hb3⟩
  have hwr := write_any b fv2 D2 1 s w3 (h2.below hb3) (by omega) hsec (by omega)
  generalize (u8s s).toArray = arr at *
  go_wp2_with fail
  refine hwr.mono ?_
  rintro e w4 ⟨rfl, fv4, h4, r4⟩
  go_wp2_with fail
  refine (flush_any b fv4 _ w4 h4).mono ?_
  rintro e w5 ⟨rfl, fv5, h5, r5⟩
  go_wp2
  go_end0
  exact ⟨rfl, fv5, by rw [HJ.out]; exact h5, ((((Fr.of_below hb0).trans r1).trans r2).trans (Fr.of_below hb3)).trans (r4.trans r5)⟩
end Go.Proofs.YtlhohmlpcgbliabGreatDoor
namespace Go.Proofs.YtlhohmlpcgbliabGreatDoor
open Go.RowKit
attribute [local go_sem ↓] Go.wp_at_zero Go.wp_at_succ

def zer : List Nat := List.replicate 128 0
def Dk.rmJ (D : Dk) : Dk := (D.write 1 zer).flush
def Dk.put (D : Dk) (f : Nat) (ss : List ByteArray) : Dk := ((D.rowWrite 6 3 f (packs ss)).grow f (f + ss.length)).flush
def Dk.ckp (D : Dk) (n : Nat) : Dk := (D.write 0 (ckSec n (bts (D.span 0 n)))).flush
/-- What a journal tells of is added, if the checkpoint has it not yet; the journal is removed. -/
def Dk.endJ (D : Dk) (f : Nat) (ss : List ByteArray) : Dk := if D.ckN = f then ((D.put f ss).ckp (f + ss.length)).rmJ else D.rmJ

set_option maxHeartbeats 2000000 in
theorem enR3_wp {c1 c2 c4 c5 c6 c7 c8 c9 c10 c11 c12 c13 c14 c15 c16 c17 c18 c19 c20 c21 c22 c23 c24 c25 c26 c27 c28 c29 c30 c31 c32 c33 c34 c35 c36 c37 c38 c39 c40 c41 c42 : Value} (b jb cb co cc f : Nat) (ss : List ByteArray) (fv : Value) (D : Dk) (w : World) (Q : Exit → Act → World → Prop) (h : DiskAt w b fv D) (hj : Blk w jb 144 [.int .i64 (f : Int), .slice (some ⟨cb, co, none⟩) ss.length cc]) (hjb : jb ≠ b) (hjf : fv.ownBlock ≠ some jb)
    (hS : SA w cb co ss) (hz : ∀ s ∈ ss, s.size ≤ 40) (hl : ss.length ≤ 76) (hf : f ≤ 76) (hfe : D.fre.length < 900000)
    (hQ : ∀ (u15 u16 u17 u18 u19 u20 u21 u22 : Value) (fv' : Value) (w' : World), DiskAt w' b fv' (D.rowWrite 6 3 f (packs ss)) → Fr b fv.ownBlock fv'.ownBlock w w' → Q .normal ⟨#[.pointer (some ⟨b, 0, none⟩), c1, c2, .pointer (some ⟨jb, 0, none⟩), c4, c5, c6, c7, c8, c9, c10, c11, c12, c13, c14, u15, u16, u17, u18, u19, u20, u21, u22, c23, c24, c25, c26, c27, c28, c29, c30, c31, c32, c33, c34, c35, c36, c37, c38, c39, c40, c41, c42], []⟩ w') :
    Code.wp Tryz.prog (rgn Tryz.f112 3) Q ⟨#[.pointer (some ⟨b, 0, none⟩), c1, c2, .pointer (some ⟨jb, 0, none⟩), c4, c5, c6, c7, c8, c9, c10, c11, c12, c13, c14, c15, c16, c17, c18, c19, c20, c21, c22, c23, c24, c25, c26, c27, c28, c29, c30, c31, c32, c33, c34, c35, c36, c37, c38, c39, c40, c41, c42], []⟩ w := by
  have hjc : w.cell? ⟨jb, 0, none⟩ = some (.int .i64 (f : Int)) ∧ w.cell? ⟨jb, 1, none⟩ = some (.slice (some ⟨cb, co, none⟩) ss.length cc) := ⟨by rw [hj.cell]; rfl, by rw [hj.cell]; rfl⟩
  have hS0 : (fun wx : World => wx.cell? ⟨jb, 0, none⟩ = some (.int .i64 (f : Int)) ∧ wx.cell? ⟨jb, 1, none⟩ = some (.slice (some ⟨cb, co, none⟩) ss.length cc)) w.drew := hjc
  have hltj := hj.lt
  have hSb : ∀ wx, Below w.heap.size w wx → wx.cell? ⟨jb, 0, none⟩ = some (.int .i64 (f : Int)) ∧ wx.cell? ⟨jb, 1, none⟩ = some (.slice (some ⟨cb, co, none⟩) ss.length cc) := fun wx hx => ⟨by rw [hx.cell (p := ⟨jb, 0, none⟩) hltj]; exact hjc.1, by rw [hx.cell (p := ⟨jb, 1, none⟩) hltj]; exact hjc.2⟩
  conv => arg 2; whnf
  refine wp_region_s (fun wx : World => wx.cell? ⟨jb, 0, none⟩ = some (.int .i64 (f : Int)) ∧ wx.cell? ⟨jb, 1, none⟩ = some (.slice (some ⟨cb, co, none⟩) ss.length cc)) (by kernel_rfl) ?_
  refine wpS_pure (k := 1) (v := .pointer (some ⟨b, 0, none⟩)) (by rfl) (by kernel_rfl) (by kernel_rfl) (by kernel_rfl) (by rfl) (some 16) (by rfl) hS0 (fun _ _ => by kernel_rfl) ?_
  simp only [Act.put, List.setIfInBounds_toArray, List.set_cons_succ, List.set_cons_zero]
  refine wpS_pure (k := 2) (v := .pointer (some ⟨jb, 0, none⟩)) (by rfl) (by kernel_rfl) (by kernel_rfl) (by kernel_rfl) (by rfl) (some 17) (by rfl) hS0 (fun _ _ => by kernel_rfl) ?_
  simp only [Act.put, List.setIfInBounds_toArray, List.set_cons_succ, List.set_cons_zero]
  refine wpS_pure (k := 3) (v := .int .i64 (f : Int)) (by rfl) (by kernel_rfl) (by kernel_rfl) (by kernel_rfl) (by rfl) (some 18) (by rfl) hS0 (fun wx hx => exec_ld (by rfl) (by rfl) (loadInt wx jb 0 _ hx.1)) ?_
  simp only [Act.put, List.setIfInBounds_toArray, List.set_cons_succ, List.set_cons_zero]
  refine wpS_pure (k := 4) (v := .pointer (some ⟨jb, 1, none⟩)) (by rfl) (by kernel_rfl) (by kernel_rfl) (by kernel_rfl) (by rfl) (some 19) (by rfl) hS0 (fun _ _ => by kernel_rfl) ?_
  simp only [Act.put, List.setIfInBounds_toArray, List.set_cons_succ, List.set_cons_zero]
  refine wpS_pure (k := 5) (v := .slice (some ⟨cb, co, none⟩) ss.length cc) (by rfl) (by kernel_rfl) (by kernel_rfl) (by kernel_rfl) (by rfl) (some 20) (by rfl) hS0 (fun wx hx => exec_ld (by rfl) (by rfl) (loadStrs wx jb 1 _ _ _ hx.2)) ?_
  simp only [Act.put, List.setIfInBounds_toArray, List.set_cons_succ, List.set_cons_zero]
  have hb0 : Below w.heap.size w w.drew := (Below.refl w.heap.size w).drew
  refine wpS_one (i := 0) (by kernel_rfl) (opS_call (f := 96) (vs := #[]) (by rfl) (by rfl) (some 15) (by rfl) (by kernel_rfl) ((bundles_any w.drew).mono ?_))
  rintro e w1 ⟨rfl, hb1⟩
  have hw1 : Below w.heap.size w w1 := hb0.trans hb1
  refine ⟨_, rfl, hSb w1 hw1, ?_⟩
  simp only [Act.put, List.setIfInBounds_toArray, List.set_cons_succ, List.set_cons_zero]
  refine wpS_one (i := 6) (by kernel_rfl) (opS_call (f := 126) (vs := #[.slice (some ⟨cb, co, none⟩) ss.length cc]) (by rfl) (by rfl) (some 21) (by rfl) (by kernel_rfl) ((packed_any _ ss w1 (hS.below hw1).strs (by omega) hz).mono ?_))
  rintro e w2 ⟨rfl, hB2, hb2⟩
  have hw2 := hw1.trans (hb2.mono hw1.size)
  refine ⟨_, rfl, hSb w2 hw2, ?_⟩
  simp only [Act.put, List.setIfInBounds_toArray, List.set_cons_succ, List.set_cons_zero]
  have hdl := h.lt
  have hsz1 := hw1.size
  have hown : fv.ownBlock ≠ some w1.heap.size := fun e => by have := (h.row.lt _ e).2; omega
  have hrw := rowWrite3_any b w1.heap.size 0 ss.length 6 f fv D (ss.map packS) w2 (h.below hw2) (SA.of_blk hB2) hB2.lt (by omega) hown (fun s hs => by
    obtain ⟨x, hx, rfl⟩ := List.mem_map.1 hs
    have := packS_size (hz x hx)
    omega) (by simp) (by simp; omega) (by simp; omega) (by simp; omega)
  rw [List.length_map] at hrw
  refine wpS_one (i := 7) (by kernel_rfl) (opS_call (f := 125) (vs := #[rowV 6 3, .pointer (some ⟨b, 0, none⟩), .int .i64 (f : Int), .slice (some ⟨w1.heap.size, 0, none⟩) ss.length ss.length]) (by rfl) (by rfl) (some 22) (by rfl) (by kernel_rfl) (hrw.mono ?_))
  rintro e w3 ⟨rfl, fv3, h3, r3⟩
  have hjl2 : jb < w2.heap.size := Nat.lt_of_lt_of_le hltj hw2.size
  have hS3 := hSb w2 hw2
  refine ⟨_, rfl, ⟨by rw [World.cell?_of_block (a := ⟨jb, 0, none⟩) (r3.block jb hjl2 hjb hjf)]; exact hS3.1, by rw [World.cell?_of_block (a := ⟨jb, 1, none⟩) (r3.block jb hjl2 hjb hjf)]; exact hS3.2⟩, ?_⟩
  simp only [Act.put, List.setIfInBounds_toArray, List.set_cons_succ, List.set_cons_zero]
  refine wpAnyH_done (by kernel_rfl) ?_ _
  refine NoPanic.normal ?_
  exact hQ _ _ _ _ _ _ _ _ fv3 w3 h3 ((Fr.of_below hw2).trans r3)

set_option maxHeartbeats 4000000 in
theorem end_any (b cb co cc f : Nat) (ss : List ByteArray) (fv : Value) (D : Dk) (w : World) (h : DiskAt w b fv D) (hS : SA w cb co ss) (hz : ∀ s ∈ ss, s.size ≤ 40) (hl : f + ss.length ≤ 76) (hfe : D.fre.length < 800000) (he : Env w b fv.ownBlock) :
    Calls Tryz.prog 112 #[.pointer (some ⟨b, 0, none⟩), jV f (some ⟨cb, co, none⟩) ss.length cc] w fun e w' => e = .returned (.tuple #[]) ∧ ∃ fv', DiskAt w' b fv' (D.endJ f ss) ∧ Fr b fv.ownBlock fv'.ownBlock w w' := by
  have hb0 : Below w.heap.size w (w.alloc (.cells #[.int .i64 (f : Int), .slice (some ⟨cb, co, none⟩) ss.length cc] 144)) := (Below.refl _ _).alloc (Nat.le_refl _) _
  have hJ0 : Blk (w.alloc (.cells #[.int .i64 (f : Int), .slice (some ⟨cb, co, none⟩) ss.length cc] 144)) w.heap.size 144 [.int .i64 (f : Int), .slice (some ⟨cb, co, none⟩) ss.length cc] := Blk.new w _ _
  have hlt := h.lt
  have hown := h.own_lt
  have h0 := h.below hb0
  have hS0 := hS.below hb0
  have he0 := he.below hb0
  have HE : Hid (D.endJ f ss = if D.ckN = f then ((D.put f ss).ckp (f + ss.length)).rmJ else D.rmJ) := rfl
  have hrl := rowWrite_len D 6 3 f (packs ss)
  rw [packs_len] at hrl
  have hgl := grwF_len (f + ss.length) (D.rowWrite 6 3 f (packs ss)) f (f + ss.length) 0 1 hl
  have HGR : Hid ((D.rowWrite 6 3 f (packs ss)).grow f (f + ss.length) = grwF (f + ss.length) (D.rowWrite 6 3 f (packs ss)) f (f + ss.length) 0 1) := rfl
  rw [← HGR.out] at hgl
  have hfl := ((D.rowWrite 6 3 f (packs ss)).grow f (f + ss.length)).flush_len
  have HP : Hid (D.put f ss = ((D.rowWrite 6 3 f (packs ss)).grow f (f + ss.length)).flush) := rfl
  have hck := readCheckpoint_any b fv D _ h0
  unfold jV
  go_enter Tryz.func112, Tryz.ntmps112
  go_wp2_with fail
  have hs0 : w.heap.size < (w.alloc (.cells #[.int .i64 (f : Int), .slice (some ⟨cb, co, none⟩) ss.length cc] 144)).heap.size := by simp
  generalize w.alloc (.cells #[.int .i64 (f : Int), .slice (some ⟨cb, co, none⟩) ss.length cc] 144) = w0 at *
  refine hck.mono ?_
  rintro e w1 ⟨rfl, hb1⟩
  clear hck
  have h1 := h0.below hb1
  have hJ1 := hJ0.below hb1 hJ0.lt
  have hS1 := hS0.below hb1
  have he1 := he0.below hb1
  have hs1 : w.heap.size < w1.heap.size := Nat.lt_of_lt_of_le hs0 hb1.size
  have r01 : Fr b fv.ownBlock fv.ownBlock w w1 := (Fr.of_below hb0).trans (Fr.of_below hb1)
  have hc0 := hJ1.cell 0
  have hc1 := hJ1.cell 1
  simp only [List.getElem?_cons_succ, List.getElem?_cons_zero] at hc0 hc1
  generalize strOf D.ckR = rt at *
  by_cases hq : D.ckN = f
  · rw [if_pos hq] at HE
    rw [hq]
    clear hq
    go_wp2_with fail
    refine enR3_wp b w.heap.size cb co cc f ss fv D w1 _ h1 hJ1 (by omega) hown hS1 hz (by omega) (by omega) (by omega) ?_
    intro u15 u16 u17 u18 u19 u20 u21 u22 fv2 w2 h2 r2
    generalize D.rowWrite 6 3 f (packs ss) = D2 at *
    have hJ2 := r2.blk hJ1 (by omega) hown
    have hown2 := r2.apart hs1 hown
    have he2 := he1.fr r2
    have hs2 : w.heap.size < w2.heap.size := Nat.lt_of_lt_of_le hs1 r2.size
    have R2 := r01.trans r2
    clear hJ1 hc0 hc1 h1 hS1 he1
    have hc0 := hJ2.cell 0
    have hc1 := hJ2.cell 1
    simp only [List.getElem?_cons_succ, List.getElem?_cons_zero] at hc0 hc1
    have hgt := growTiles_any b f (f + ss.length) fv2 D2 w2 h2 (by omega) hl (by omega) he2
    have hn9 : f + ss.length < 256 := by omega
    have hcn : ((f + ss.length : Nat) : Int) = (f : Int) + (ss.length : Int) := Int.natCast_add _ _
    generalize f + ss.length = n at *
    rw [hcn] at hgt
    go_wp2_with fail
    refine hgt.mono ?_
    rintro e w3 ⟨rfl, fv3, h3, r3⟩
    have he3 := he2.fr r3
    generalize D2.grow f n = D3 at *
    go_wp2_with fail
    refine (flush_any b fv3 D3 w3 h3).mono ?_
    rintro e w4 ⟨rfl, fv4, h4, r4⟩
    have he4 := he3.fr r4
    rw [← HP.out] at h4 hfl
    generalize D.put f ss = D4 at *
    have hsp := span_any b 0 n fv4 D4 w4 h4 (by omega) he4.table he4.lt
    rw [Nat.zero_add, hcn] at hsp
    have hss := span_size h4.ok 0 n (by omega)
    have HC : Hid (D4.ckp n = (D4.write 0 (ckSec n (bts (D4.span 0 n)))).flush) := rfl
    have hwc := fun wx (hx : Below w4.heap.size w4 wx) => writeCheckpoint_any b n (D4.span 0 n) fv4 D4 wx (h4.below hx) (by omega) (by omega) (by omega)
    rw [hcn] at hwc
    have hwl := Dk.write_len D4 0 (ckSec n (bts (D4.span 0 n)))
    have hwf := (D4.write 0 (ckSec n (bts (D4.span 0 n)))).flush_len
    rw [← HC.out] at hwf
    go_wp2_with fail
    refine hsp.mono ?_
    rintro e w5 ⟨rfl, hb5⟩
    go_wp2_with fail
    refine (hwc w5 hb5).mono ?_
    rintro e w6 ⟨rfl, fv6, h6, r6⟩
    rw [← HC.out] at h6
    generalize D4.ckp n = D6 at *
    go_wp2_with fail
    refine (removeJournal_any b fv6 D6 w6 h6 (by omega)).mono ?_
    rintro e w7 ⟨rfl, fv7, h7, r7⟩
    go_wp2
    go_end0
    exact ⟨rfl, fv7, by rw [HE.out]; exact h7, ((((R2.trans r3).trans r4).trans (Fr.of_below hb5)).trans r6).trans r7⟩
  · rw [if_neg hq] at HE
    have hq' : ¬ (D.ckN : Int) = (f : Int) := by omega
    generalize D.ckN = k at *
    go_wp2_with fail
    refine (removeJournal_any b fv D w1 h1 (by omega)).mono ?_
    rintro e w7 ⟨rfl, fv7, h7, r7⟩
    go_wp2
    go_end0
    exact ⟨rfl, fv7, by rw [HE.out]; exact h7, r01.trans r7⟩
end Go.Proofs.YtlhohmlpcgbliabGreatDoor
namespace Go.Proofs.YtlhohmlpcgbliabGreatDoor
open Go.RowKit
attribute [local go_sem ↓] Go.wp_at_zero Go.wp_at_succ

/-- A store: the disk's address. -/
def stV (b : Nat) : Value := .agg #[.pointer (some ⟨b, 0, none⟩)]

set_option maxHeartbeats 1000000 in
theorem storeCk_any (b : Nat) (fv : Value) (D : Dk) (w : World) (h : DiskAt w b fv D) :
    Calls Tryz.prog 67 #[stV b] w fun e w' => e = .returned (.tuple #[.int .i64 (D.ckN : Int), .string (strOf D.ckR)]) ∧ Below w.heap.size w w' := by
  have hb0 : Below w.heap.size w (w.alloc (.cells #[.pointer (some ⟨b, 0, none⟩)] 60)) := (Below.refl _ _).alloc (Nat.le_refl _) _
  have hB0 : Blk (w.alloc (.cells #[.pointer (some ⟨b, 0, none⟩)] 60)) w.heap.size 60 [.pointer (some ⟨b, 0, none⟩)] := Blk.new w _ _
  have hc := hB0.cell 0
  simp only [List.getElem?_cons_zero] at hc
  have hck := readCheckpoint_any b fv D _ (h.below hb0)
  unfold stV
  go_enter Tryz.func67, Tryz.ntmps67
  go_wp2_with fail
  generalize w.alloc (.cells #[.pointer (some ⟨b, 0, none⟩)] 60) = w0 at *
  refine hck.mono ?_
  rintro e w1 ⟨rfl, hb1⟩
  go_wp2
  go_ret2
  exact ⟨rfl, hb0.trans (hb1.mono hb0.size)⟩

def Dk.add (D : Dk) (ss : List ByteArray) : Dk := (D.jwrite D.ckN ss).endJ D.ckN ss
theorem jwrite_len (D : Dk) (f : Nat) (ss : List ByteArray) : (D.jwrite f ss).fre.length ≤ D.fre.length + ss.length + 1 := by
  unfold Dk.jwrite
  have h1 := rowWrite_len D 2 3 0 (packs ss)
  rw [packs_len] at h1
  have h2 := (D.rowWrite 2 3 0 (packs ss)).flush_len
  have h3 := Dk.write_len (D.rowWrite 2 3 0 (packs ss)).flush 1 (hdSec f ss.length)
  have h4 := ((D.rowWrite 2 3 0 (packs ss)).flush.write 1 (hdSec f ss.length)).flush_len
  omega

set_option maxHeartbeats 2000000 in
theorem add_any' (b cb co cc : Nat) (ss : List ByteArray) (fv : Value) (D : Dk) (w : World) (h : DiskAt w b fv D) (hS : SA w cb co ss) (hcb : cb < w.heap.size) (hne : cb ≠ b) (hap : fv.ownBlock ≠ some cb) (hz : ∀ s ∈ ss, s.size ≤ 40) (hl : D.ckN + ss.length ≤ 76) (hfe : D.fre.length < 700000) (he : Env w b fv.ownBlock) :
    Calls Tryz.prog 92 #[stV b, .slice (some ⟨cb, co, none⟩) ss.length cc] w fun e w' => e = .returned (.tuple #[]) ∧ ∃ fv', DiskAt w' b fv' (D.add ss) ∧ Fr b fv.ownBlock fv'.ownBlock w w' := by
  have hb0 : Below w.heap.size w (w.alloc (.cells #[.pointer (some ⟨b, 0, none⟩)] 60)) := (Below.refl _ _).alloc (Nat.le_refl _) _
  have hB0 : Blk (w.alloc (.cells #[.pointer (some ⟨b, 0, none⟩)] 60)) w.heap.size 60 [.pointer (some ⟨b, 0, none⟩)] := Blk.new w _ _
  have hlt := h.lt
  have hown := h.own_lt
  have h0 := h.below hb0
  have hS0 := hS.below hb0
  have he0 := he.below hb0
  have HA : Hid (D.add ss = (D.jwrite D.ckN ss).endJ D.ckN ss) := rfl
  have hjl := jwrite_len D D.ckN ss
  have hs0 : w.heap.size < (w.alloc (.cells #[.pointer (some ⟨b, 0, none⟩)] 60)).heap.size := by simp
  have hc := hB0.cell 0
  simp only [List.getElem?_cons_zero] at hc
  have hck := storeCk_any b fv D _ h0
  unfold stV at *
  go_enter Tryz.func92, Tryz.ntmps92
  go_wp2_with fail
  generalize w.alloc (.cells #[.pointer (some ⟨b, 0, none⟩)] 60) = w0 at *
  refine hck.mono ?_
  rintro e w1 ⟨rfl, hb1⟩
  clear hck hc
  generalize strOf D.ckR = rt at *
  have h1 := h0.below hb1
  have hB1 := hB0.below hb1 hB0.lt
  have hS1 := hS0.below hb1
  have he1 := he0.below hb1
  have hs1 : w.heap.size < w1.heap.size := Nat.lt_of_lt_of_le hs0 hb1.size
  generalize D.ckN = f at *
  have hJ : Blk (w1.alloc (.cells #[.int .i64 (f : Int), .slice (some ⟨cb, co, none⟩) ss.length cc] 144)) w1.heap.size 144 [.int .i64 (f : Int), .slice (some ⟨cb, co, none⟩) ss.length cc] := Blk.new w1 _ _
  have hb2 : Below w1.heap.size w1 (w1.alloc (.cells #[.int .i64 (f : Int), .slice (some ⟨cb, co, none⟩) ss.length cc] 144)) := (Below.refl _ _).alloc (Nat.le_refl _) _
  have hB2 := hB1.alloc (.cells #[.int .i64 (f : Int), .slice (some ⟨cb, co, none⟩) ss.length cc] 144)
  have hc2 := hB2.cell 0
  simp only [List.getElem?_cons_zero] at hc2
  have hs2 : w1.heap.size < (w1.alloc (.cells #[.int .i64 (f : Int), .slice (some ⟨cb, co, none⟩) ss.length cc] 144)).heap.size := by simp
  go_wp2_with fail
  generalize w1.alloc (.cells #[.int .i64 (f : Int), .slice (some ⟨cb, co, none⟩) ss.length cc] 144) = w2 at *
  have h2 := h1.below hb2
  have hS2 := hS1.below hb2
  have he2 := he1.below hb2
  have r2 : Fr b fv.ownBlock fv.ownBlock w w2 := ((Fr.of_below hb0).trans (Fr.of_below hb1)).trans (Fr.of_below hb2)
  have hownj : fv.ownBlock ≠ some w1.heap.size := h1.own_lt
  have hjw := jwrite_any b cb co cc f ss fv D w2 h2 hS2 hz (by omega) (by omega) (by omega)
  unfold jV at hjw
  refine hjw.mono ?_
  rintro e w3 ⟨rfl, fv3, h3, r3⟩
  clear hjw hc2
  have hB3 := r3.blk hB2 (by omega) hown
  have hJ3 := r3.blk hJ (by omega) hownj
  have hc3 := hB3.cell 0
  have hj0 := hJ3.cell 0
  have hj1 := hJ3.cell 1
  simp only [List.getElem?_cons_zero, List.getElem?_cons_succ] at hc3 hj0 hj1
  have hS3 := hS2.fr r3 (by omega) hne hap
  have hen := end_any b cb co cc f ss fv3 (D.jwrite f ss) w3 h3 hS3 hz (by omega) (by omega) (he2.fr r3)
  unfold jV at hen
  generalize D.jwrite f ss = D3 at *
  go_wp2_with fail
  refine hen.mono ?_
  rintro e w4 ⟨rfl, fv4, h4, r4⟩
  go_wp2
  go_end0
  exact ⟨rfl, fv4, by rw [HA.out]; exact h4, (r2.trans r3).trans r4⟩

set_option maxHeartbeats 400000 in
theorem failed_any (b : Nat) (fv : Value) (D : Dk) (w : World) (h : DiskAt w b fv D) :
    Calls Tryz.prog 93 #[.pointer (some ⟨b, 0, none⟩)] w fun e w' => e = .returned (.bool D.failed) ∧ w' = w := by
  have c5 := h.cell 5
  simp only [List.getElem?_cons_succ, List.getElem?_cons_zero, Nat.reduceAdd] at c5
  go_enter Tryz.func93, Tryz.ntmps93
  go_wp2
  go_ret
  exact ⟨rfl, rfl⟩
set_option maxHeartbeats 400000 in
theorem acts_any (b : Nat) (fv : Value) (D : Dk) (w : World) (h : DiskAt w b fv D) :
    Calls Tryz.prog 89 #[.pointer (some ⟨b, 0, none⟩)] w fun e w' => e = .returned (.int .i64 D.acts) ∧ w' = w := by
  have c5 := h.cell 1
  simp only [List.getElem?_cons_succ, List.getElem?_cons_zero, Nat.reduceAdd] at c5
  go_enter Tryz.func89, Tryz.ntmps89
  go_wp2
  go_ret
  exact ⟨rfl, rfl⟩

/-- Entry i, as it lies in its bundle. -/
def Dk.entry (D : Dk) (i : Nat) : ByteArray := strOf ((unpL (D.slot 6 3 i)).getD [])
end Go.Proofs.YtlhohmlpcgbliabGreatDoor
