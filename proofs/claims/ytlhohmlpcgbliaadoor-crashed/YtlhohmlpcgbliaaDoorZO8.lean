import Derived.Test.YtlhohmlpcgbliaaDoorZO2
namespace Go.Proofs.YtlhohmlpcgbliaaDoor
set_option maxRecDepth 100000
open Go.RowKit
attribute [local go_sem ↓] Go.wp_at_zero Go.wp_at_succ

section
variable {P : Program} {ops : Array Oper} {Q : Exit → Act → World → Prop} {S : World → Prop}
theorem wpS_w {k fuel : Nat} {o : Oper} {v : Value} {listed : Array Bool} {a : Act} {w : World} (h0 : ops[k]? = some o) (hs : Region.noSelect ops = true) (hf : Region.free .any ops listed k = true)
    (hr : (Region.ready .any ops listed).contains k = true) (hgd : Region.wanted o (yielded ops a.tmps) = true) (d : Option Nat) (hd : o.dst = d) (hS : S w) (hv : ∀ wx, S wx → (execOp a.eval o).run P wx = .ok (.value v) wx)
    (h : wpAnyH P .any ops (NoPanic Q) S fuel (listed.setIfInBounds k true) (a.put d v) w) : wpAnyH P .any ops (NoPanic Q) S (fuel + 1) listed a w :=
  wpAnyH_take h0 hs hf hr (fun c a w hq => by cases hq) (.inl ⟨hgd, hv⟩) hS (by rw [hd]; exact h)
theorem wpS_not {k fuel : Nat} {o : Oper} {listed : Array Bool} {a : Act} {w : World} (h0 : ops[k]? = some o) (hs : Region.noSelect ops = true) (hf : Region.free .any ops listed k = true)
    (hr : (Region.ready .any ops listed).contains k = true) (hgd : Region.wanted o (yielded ops a.tmps) = false) (d : Option Nat) (hd : o.dst = d) (hS : S w)
    (h : wpAnyH P .any ops (NoPanic Q) S fuel (listed.setIfInBounds k true) (a.put d undef) w) : wpAnyH P .any ops (NoPanic Q) S (fuel + 1) listed a w :=
  wpAnyH_take h0 hs hf hr (fun c a w hq => by cases hq) (.inr ⟨hgd, rfl⟩) hS (by rw [hd]; exact h)
end
theorem loadJ {w : World} {b f n c : Nat} {p : Option Addr} (h : Blk w b 126 [.int .i64 (f : Int), .slice p n c]) : (Instr.loadAt 126 (.pointer (some ⟨b, 0, none⟩))).run Tryd.prog w = .ok (jV f p n c) w :=
  run_loadAt_mid w b 0 126 [.int .i64 (f : Int), .slice p n c] _ h.range Tryd.underlying126 rfl infoJ
theorem leq_b (x y : Int) {v : Bool} (h : decide (x ≤ y) = v) (w : World) : (binOp .leq 3 (.int .i64 x) (.int .i64 y)).run Tryd.prog w = .ok (.bool v) w := by
  subst h
  simp [go_sem]
theorem eql_b (x y : Int) {v : Bool} (h : (x == y) = v) (w : World) : (binOp .eql 3 (.int .i64 x) (.int .i64 y)).run Tryd.prog w = .ok (.bool v) w := by
  subst h
  simp [go_sem]

/-- The journal, if there is one, is whole, and adds to a log of n entries or has done so. -/
def Dk.fits (D : Dk) (n : Nat) : Prop := D.read 1 = zer ∨ (D.read 1 = hdSec D.jF (D.jE D.jN).length ∧ D.jF + (D.jE D.jN).length ≤ 64 ∧ (n = D.jF ∨ n = D.jF + (D.jE D.jN).length))

set_option maxHeartbeats 2000000 in
theorem jf1_wp {c2 c3 c4 c6 c8 c9 c10 c11 c12 c13 c14 c15 c16 c17 c18 c19 c20 c21 c22 c23 c24 c25 c26 c27 c28 c29 c30 c31 c32 c33 c34 c35 c36 c37 c38 c39 c40 : Value} (b jb f n c m : Nat) (p : Option Addr) (fv : Value) (D : Dk) (w : World) (Q : Exit → Act → World → Prop) (h : DiskAt w b fv D) (hJ : Blk w jb 126 [.int .i64 (f : Int), .slice p n c]) (hf : f < 256) (hn : n < 256) (h1 : decide (D.read 1 = hdSec f n) = false)
    (hQ : ∀ (u21 u22 u23 u24 u25 u26 u27 u28 u29 u30 u31 u32 u33 u34 u35 u36 u37 u38 u39 u40 : Value) (w' : World), Below w.heap.size w w' → Q .normal ⟨#[.pointer (some ⟨b, 0, none⟩), .int .i64 (m : Int), c2, c3, .bool false, .pointer (some ⟨jb, 0, none⟩), c6, .int .i64 ((f : Int) + (n : Int)), c8, c9, c10, c11, c12, c13, c14, c15, c16, c17, c18, c19, c20, u21, u22, u23, u24, u25, u26, u27, u28, u29, u30, u31, u32, u33, u34, u35, u36, u37, u38, u39, u40], []⟩ w') :
    Code.wp Tryd.prog (rgn Tryd.f130 5) Q ⟨#[.pointer (some ⟨b, 0, none⟩), .int .i64 (m : Int), c2, c3, c4, .pointer (some ⟨jb, 0, none⟩), c6, .int .i64 ((f : Int) + (n : Int)), c8, c9, c10, c11, c12, c13, c14, c15, c16, c17, c18, c19, c20, c21, c22, c23, c24, c25, c26, c27, c28, c29, c30, c31, c32, c33, c34, c35, c36, c37, c38, c39, c40], []⟩ w := by
  have hS : (fun wx : World => Below w.heap.size w wx) w.drew := (Below.refl w.heap.size w).drew
  have hsec := (h.ok.read (i := 1) (by omega)).len
  have hsh := (hdSec_sec hf hn).len
  have hread : ∀ wx, Below w.heap.size w wx → Calls Tryd.prog 116 #[.pointer (some ⟨b, 0, none⟩), .int .i64 1] wx fun e w' => e = .returned (.agg (u8s (D.read 1)).toArray) ∧ Below wx.heap.size wx w' :=
    fun wx hx => read_any b fv D 1 wx (h.below hx) (by omega)
  have hhead : ∀ wx, Calls Tryd.prog 125 #[jV f p n c] wx fun e w' => e = .returned (.agg (u8s (hdSec f n)).toArray) ∧ Below wx.heap.size wx w' := fun wx => head_any f n c p wx hf hn
  conv => arg 2; whnf
  refine wp_region_s (fun wx : World => Below w.heap.size w wx) (by kernel_rfl) ?_
  refine wpS_pure (k := 0) (v := .pointer (some ⟨b, 0, none⟩)) (by rfl) (by kernel_rfl) (by kernel_rfl) (by kernel_rfl) (by rfl) (some 21) (by rfl) hS (fun _ _ => by kernel_rfl) ?_
  simp only [Act.put, List.setIfInBounds_toArray, List.set_cons_succ, List.set_cons_zero]
  refine wpS_pure (k := 2) (v := jV f p n c) (by rfl) (by kernel_rfl) (by kernel_rfl) (by kernel_rfl) (by rfl) (some 23) (by rfl) hS (fun wx hx => exec_ld (by rfl) (by rfl) (loadJ (hJ.below hx hJ.lt))) ?_
  simp only [Act.put, List.setIfInBounds_toArray, List.set_cons_succ, List.set_cons_zero]
  have hb0 : Below w.heap.size w w.drew := hS
  refine wpS_one (i := 1) (by kernel_rfl) (opS_call (f := 116) (vs := #[.pointer (some ⟨b, 0, none⟩), .int .i64 1]) (by rfl) (by rfl) (some 22) (by rfl) (by kernel_rfl) ((hread _ hb0).mono ?_))
  rintro e w1 ⟨rfl, hb1⟩
  have hS1 : Below w.heap.size w w1 := hb0.trans (hb1.mono hb0.size)
  refine ⟨_, rfl, hS1, ?_⟩
  simp only [Act.put, List.setIfInBounds_toArray, List.set_cons_succ, List.set_cons_zero]
  refine wpS_one (i := 3) (by kernel_rfl) (opS_call (f := 125) (vs := #[jV f p n c]) (by rfl) (by rfl) (some 24) (by rfl) (by kernel_rfl) ((hhead w1).mono ?_))
  rintro e w2 ⟨rfl, hb2⟩
  have hS2 : Below w.heap.size w w2 := hS1.trans (hb2.mono hS1.size)
  refine ⟨_, rfl, hS2, ?_⟩
  simp only [Act.put, List.setIfInBounds_toArray, List.set_cons_succ, List.set_cons_zero]
  refine wpS_pure (k := 4) (v := .bool false) (by rfl) (by kernel_rfl) (by kernel_rfl) (by kernel_rfl) (by rfl) (some 25) (by rfl) hS2 (fun wx _ => exec_bop (by rfl) (by rfl) (by rfl) (run_eqGuard_agg wx .eql 130 _ _ _ _ (by kernel_rfl)) (by rw [eql_sec wx hsec hsh, h1])) ?_
  simp only [Act.put, List.setIfInBounds_toArray, List.set_cons_succ, List.set_cons_zero]
  refine wpS_pure (k := 5) (v := .bool false) (by rfl) (by kernel_rfl) (by kernel_rfl) (by kernel_rfl) (by rfl) (some 26) (by rfl) hS2 (fun _ _ => by kernel_rfl) ?_
  simp only [Act.put, List.setIfInBounds_toArray, List.set_cons_succ, List.set_cons_zero]
  refine wpS_not (k := 6) (by rfl) (by kernel_rfl) (by kernel_rfl) (by kernel_rfl) (by kernel_rfl) (some 27) (by rfl) hS2 ?_
  simp only [Act.put, List.setIfInBounds_toArray, List.set_cons_succ, List.set_cons_zero]
  refine wpS_not (k := 7) (by rfl) (by kernel_rfl) (by kernel_rfl) (by kernel_rfl) (by kernel_rfl) (some 28) (by rfl) hS2 ?_
  simp only [Act.put, List.setIfInBounds_toArray, List.set_cons_succ, List.set_cons_zero]
  refine wpS_pure (k := 8) (v := .bool false) (by rfl) (by kernel_rfl) (by kernel_rfl) (by kernel_rfl) (by rfl) (some 29) (by rfl) hS2 (fun _ _ => by kernel_rfl) ?_
  simp only [Act.put, List.setIfInBounds_toArray, List.set_cons_succ, List.set_cons_zero]
  refine wpS_pure (k := 9) (v := .bool false) (by rfl) (by kernel_rfl) (by kernel_rfl) (by kernel_rfl) (by rfl) (some 30) (by rfl) hS2 (fun _ _ => by kernel_rfl) ?_
  simp only [Act.put, List.setIfInBounds_toArray, List.set_cons_succ, List.set_cons_zero]
  refine wpS_not (k := 10) (by rfl) (by kernel_rfl) (by kernel_rfl) (by kernel_rfl) (by kernel_rfl) (some 31) (by rfl) hS2 ?_
  simp only [Act.put, List.setIfInBounds_toArray, List.set_cons_succ, List.set_cons_zero]
  refine wpS_not (k := 11) (by rfl) (by kernel_rfl) (by kernel_rfl) (by kernel_rfl) (by kernel_rfl) (some 32) (by rfl) hS2 ?_
  simp only [Act.put, List.setIfInBounds_toArray, List.set_cons_succ, List.set_cons_zero]
  refine wpS_not (k := 12) (by rfl) (by kernel_rfl) (by kernel_rfl) (by kernel_rfl) (by kernel_rfl) (some 33) (by rfl) hS2 ?_
  simp only [Act.put, List.setIfInBounds_toArray, List.set_cons_succ, List.set_cons_zero]
  refine wpS_not (k := 13) (by rfl) (by kernel_rfl) (by kernel_rfl) (by kernel_rfl) (by kernel_rfl) (some 34) (by rfl) hS2 ?_
  simp only [Act.put, List.setIfInBounds_toArray, List.set_cons_succ, List.set_cons_zero]
  refine wpS_not (k := 14) (by rfl) (by kernel_rfl) (by kernel_rfl) (by kernel_rfl) (by kernel_rfl) (some 35) (by rfl) hS2 ?_
  simp only [Act.put, List.setIfInBounds_toArray, List.set_cons_succ, List.set_cons_zero]
  refine wpS_not (k := 15) (by rfl) (by kernel_rfl) (by kernel_rfl) (by kernel_rfl) (by kernel_rfl) (some 36) (by rfl) hS2 ?_
  simp only [Act.put, List.setIfInBounds_toArray, List.set_cons_succ, List.set_cons_zero]
  refine wpS_not (k := 16) (by rfl) (by kernel_rfl) (by kernel_rfl) (by kernel_rfl) (by kernel_rfl) (some 37) (by rfl) hS2 ?_
  simp only [Act.put, List.setIfInBounds_toArray, List.set_cons_succ, List.set_cons_zero]
  refine wpS_not (k := 17) (by rfl) (by kernel_rfl) (by kernel_rfl) (by kernel_rfl) (by kernel_rfl) (some 38) (by rfl) hS2 ?_
  simp only [Act.put, List.setIfInBounds_toArray, List.set_cons_succ, List.set_cons_zero]
  refine wpS_not (k := 18) (by rfl) (by kernel_rfl) (by kernel_rfl) (by kernel_rfl) (by kernel_rfl) (some 39) (by rfl) hS2 ?_
  simp only [Act.put, List.setIfInBounds_toArray, List.set_cons_succ, List.set_cons_zero]
  refine wpS_pure (k := 19) (v := .bool false) (by rfl) (by kernel_rfl) (by kernel_rfl) (by kernel_rfl) (by rfl) (some 40) (by rfl) hS2 (fun _ _ => by kernel_rfl) ?_
  simp only [Act.put, List.setIfInBounds_toArray, List.set_cons_succ, List.set_cons_zero]
  refine wpS_pure (k := 20) (v := .bool false) (by rfl) (by kernel_rfl) (by kernel_rfl) (by kernel_rfl) (by rfl) (some 4) (by rfl) hS2 (fun _ _ => by kernel_rfl) ?_
  simp only [Act.put, List.setIfInBounds_toArray, List.set_cons_succ, List.set_cons_zero]
  refine wpAnyH_done (by kernel_rfl) ?_ _
  refine NoPanic.normal ?_
  exact hQ _ _ _ _ _ _ _ _ _ _ _ _ _ _ _ _ _ _ _ _ w2 hS2

set_option maxHeartbeats 2000000 in
theorem jf2_wp {c2 c3 c4 c6 c8 c9 c10 c11 c12 c13 c14 c15 c16 c17 c18 c19 c20 c21 c22 c23 c24 c25 c26 c27 c28 c29 c30 c31 c32 c33 c34 c35 c36 c37 c38 c39 c40 : Value} (b jb f n c m : Nat) (p : Option Addr) (fv : Value) (D : Dk) (w : World) (Q : Exit → Act → World → Prop) (h : DiskAt w b fv D) (hJ : Blk w jb 126 [.int .i64 (f : Int), .slice p n c]) (hf : f < 256) (hn : n < 256) (h1 : decide (D.read 1 = hdSec f n) = true) (h2 : decide ((f : Int) + (n : Int) ≤ 64) = false)
    (hQ : ∀ (u21 u22 u23 u24 u25 u26 u27 u28 u29 u30 u31 u32 u33 u34 u35 u36 u37 u38 u39 u40 : Value) (w' : World), Below w.heap.size w w' → Q .normal ⟨#[.pointer (some ⟨b, 0, none⟩), .int .i64 (m : Int), c2, c3, .bool false, .pointer (some ⟨jb, 0, none⟩), c6, .int .i64 ((f : Int) + (n : Int)), c8, c9, c10, c11, c12, c13, c14, c15, c16, c17, c18, c19, c20, u21, u22, u23, u24, u25, u26, u27, u28, u29, u30, u31, u32, u33, u34, u35, u36, u37, u38, u39, u40], []⟩ w') :
    Code.wp Tryd.prog (rgn Tryd.f130 5) Q ⟨#[.pointer (some ⟨b, 0, none⟩), .int .i64 (m : Int), c2, c3, c4, .pointer (some ⟨jb, 0, none⟩), c6, .int .i64 ((f : Int) + (n : Int)), c8, c9, c10, c11, c12, c13, c14, c15, c16, c17, c18, c19, c20, c21, c22, c23, c24, c25, c26, c27, c28, c29, c30, c31, c32, c33, c34, c35, c36, c37, c38, c39, c40], []⟩ w := by
  have hS : (fun wx : World => Below w.heap.size w wx) w.drew := (Below.refl w.heap.size w).drew
  have hsec := (h.ok.read (i := 1) (by omega)).len
  have hsh := (hdSec_sec hf hn).len
  have hread : ∀ wx, Below w.heap.size w wx → Calls Tryd.prog 116 #[.pointer (some ⟨b, 0, none⟩), .int .i64 1] wx fun e w' => e = .returned (.agg (u8s (D.read 1)).toArray) ∧ Below wx.heap.size wx w' :=
    fun wx hx => read_any b fv D 1 wx (h.below hx) (by omega)
  have hhead : ∀ wx, Calls Tryd.prog 125 #[jV f p n c] wx fun e w' => e = .returned (.agg (u8s (hdSec f n)).toArray) ∧ Below wx.heap.size wx w' := fun wx => head_any f n c p wx hf hn
  conv => arg 2; whnf
  refine wp_region_s (fun wx : World => Below w.heap.size w wx) (by kernel_rfl) ?_
  refine wpS_pure (k := 0) (v := .pointer (some ⟨b, 0, none⟩)) (by rfl) (by kernel_rfl) (by kernel_rfl) (by kernel_rfl) (by rfl) (some 21) (by rfl) hS (fun _ _ => by kernel_rfl) ?_
  simp only [Act.put, List.setIfInBounds_toArray, List.set_cons_succ, List.set_cons_zero]
  refine wpS_pure (k := 2) (v := jV f p n c) (by rfl) (by kernel_rfl) (by kernel_rfl) (by kernel_rfl) (by rfl) (some 23) (by rfl) hS (fun wx hx => exec_ld (by rfl) (by rfl) (loadJ (hJ.below hx hJ.lt))) ?_
  simp only [Act.put, List.setIfInBounds_toArray, List.set_cons_succ, List.set_cons_zero]
  have hb0 : Below w.heap.size w w.drew := hS
  refine wpS_one (i := 1) (by kernel_rfl) (opS_call (f := 116) (vs := #[.pointer (some ⟨b, 0, none⟩), .int .i64 1]) (by rfl) (by rfl) (some 22) (by rfl) (by kernel_rfl) ((hread _ hb0).mono ?_))
  rintro e w1 ⟨rfl, hb1⟩
  have hS1 : Below w.heap.size w w1 := hb0.trans (hb1.mono hb0.size)
  refine ⟨_, rfl, hS1, ?_⟩
  simp only [Act.put, List.setIfInBounds_toArray, List.set_cons_succ, List.set_cons_zero]
  refine wpS_one (i := 3) (by kernel_rfl) (opS_call (f := 125) (vs := #[jV f p n c]) (by rfl) (by rfl) (some 24) (by rfl) (by kernel_rfl) ((hhead w1).mono ?_))
  rintro e w2 ⟨rfl, hb2⟩
  have hS2 : Below w.heap.size w w2 := hS1.trans (hb2.mono hS1.size)
  refine ⟨_, rfl, hS2, ?_⟩
  simp only [Act.put, List.setIfInBounds_toArray, List.set_cons_succ, List.set_cons_zero]
  refine wpS_pure (k := 4) (v := .bool true) (by rfl) (by kernel_rfl) (by kernel_rfl) (by kernel_rfl) (by rfl) (some 25) (by rfl) hS2 (fun wx _ => exec_bop (by rfl) (by rfl) (by rfl) (run_eqGuard_agg wx .eql 130 _ _ _ _ (by kernel_rfl)) (by rw [eql_sec wx hsec hsh, h1])) ?_
  simp only [Act.put, List.setIfInBounds_toArray, List.set_cons_succ, List.set_cons_zero]
  refine wpS_pure (k := 5) (v := .bool true) (by rfl) (by kernel_rfl) (by kernel_rfl) (by kernel_rfl) (by rfl) (some 26) (by rfl) hS2 (fun _ _ => by kernel_rfl) ?_
  simp only [Act.put, List.setIfInBounds_toArray, List.set_cons_succ, List.set_cons_zero]
  refine wpS_w (k := 6) (v := .int .i64 ((f : Int) + (n : Int))) (by rfl) (by kernel_rfl) (by kernel_rfl) (by kernel_rfl) (by kernel_rfl) (some 27) (by rfl) hS2 (fun _ _ => by kernel_rfl) ?_
  simp only [Act.put, List.setIfInBounds_toArray, List.set_cons_succ, List.set_cons_zero]
  refine wpS_w (k := 7) (v := .bool false) (by rfl) (by kernel_rfl) (by kernel_rfl) (by kernel_rfl) (by kernel_rfl) (some 28) (by rfl) hS2 (fun wx _ => exec_bop (by rfl) (by rfl) (by rfl) (by kernel_rfl) (leq_b _ _ h2 wx)) ?_
  simp only [Act.put, List.setIfInBounds_toArray, List.set_cons_succ, List.set_cons_zero]
  refine wpS_pure (k := 8) (v := .bool false) (by rfl) (by kernel_rfl) (by kernel_rfl) (by kernel_rfl) (by rfl) (some 29) (by rfl) hS2 (fun _ _ => by kernel_rfl) ?_
  simp only [Act.put, List.setIfInBounds_toArray, List.set_cons_succ, List.set_cons_zero]
  refine wpS_pure (k := 9) (v := .bool false) (by rfl) (by kernel_rfl) (by kernel_rfl) (by kernel_rfl) (by rfl) (some 30) (by rfl) hS2 (fun _ _ => by kernel_rfl) ?_
  simp only [Act.put, List.setIfInBounds_toArray, List.set_cons_succ, List.set_cons_zero]
  refine wpS_not (k := 10) (by rfl) (by kernel_rfl) (by kernel_rfl) (by kernel_rfl) (by kernel_rfl) (some 31) (by rfl) hS2 ?_
  simp only [Act.put, List.setIfInBounds_toArray, List.set_cons_succ, List.set_cons_zero]
  refine wpS_not (k := 11) (by rfl) (by kernel_rfl) (by kernel_rfl) (by kernel_rfl) (by kernel_rfl) (some 32) (by rfl) hS2 ?_
  simp only [Act.put, List.setIfInBounds_toArray, List.set_cons_succ, List.set_cons_zero]
  refine wpS_not (k := 12) (by rfl) (by kernel_rfl) (by kernel_rfl) (by kernel_rfl) (by kernel_rfl) (some 33) (by rfl) hS2 ?_
  simp only [Act.put, List.setIfInBounds_toArray, List.set_cons_succ, List.set_cons_zero]
  refine wpS_not (k := 13) (by rfl) (by kernel_rfl) (by kernel_rfl) (by kernel_rfl) (by kernel_rfl) (some 34) (by rfl) hS2 ?_
  simp only [Act.put, List.setIfInBounds_toArray, List.set_cons_succ, List.set_cons_zero]
  refine wpS_not (k := 14) (by rfl) (by kernel_rfl) (by kernel_rfl) (by kernel_rfl) (by kernel_rfl) (some 35) (by rfl) hS2 ?_
  simp only [Act.put, List.setIfInBounds_toArray, List.set_cons_succ, List.set_cons_zero]
  refine wpS_not (k := 15) (by rfl) (by kernel_rfl) (by kernel_rfl) (by kernel_rfl) (by kernel_rfl) (some 36) (by rfl) hS2 ?_
  simp only [Act.put, List.setIfInBounds_toArray, List.set_cons_succ, List.set_cons_zero]
  refine wpS_not (k := 16) (by rfl) (by kernel_rfl) (by kernel_rfl) (by kernel_rfl) (by kernel_rfl) (some 37) (by rfl) hS2 ?_
  simp only [Act.put, List.setIfInBounds_toArray, List.set_cons_succ, List.set_cons_zero]
  refine wpS_not (k := 17) (by rfl) (by kernel_rfl) (by kernel_rfl) (by kernel_rfl) (by kernel_rfl) (some 38) (by rfl) hS2 ?_
  simp only [Act.put, List.setIfInBounds_toArray, List.set_cons_succ, List.set_cons_zero]
  refine wpS_not (k := 18) (by rfl) (by kernel_rfl) (by kernel_rfl) (by kernel_rfl) (by kernel_rfl) (some 39) (by rfl) hS2 ?_
  simp only [Act.put, List.setIfInBounds_toArray, List.set_cons_succ, List.set_cons_zero]
  refine wpS_pure (k := 19) (v := .bool false) (by rfl) (by kernel_rfl) (by kernel_rfl) (by kernel_rfl) (by rfl) (some 40) (by rfl) hS2 (fun _ _ => by kernel_rfl) ?_
  simp only [Act.put, List.setIfInBounds_toArray, List.set_cons_succ, List.set_cons_zero]
  refine wpS_pure (k := 20) (v := .bool false) (by rfl) (by kernel_rfl) (by kernel_rfl) (by kernel_rfl) (by rfl) (some 4) (by rfl) hS2 (fun _ _ => by kernel_rfl) ?_
  simp only [Act.put, List.setIfInBounds_toArray, List.set_cons_succ, List.set_cons_zero]
  refine wpAnyH_done (by kernel_rfl) ?_ _
  refine NoPanic.normal ?_
  exact hQ _ _ _ _ _ _ _ _ _ _ _ _ _ _ _ _ _ _ _ _ w2 hS2

set_option maxHeartbeats 2000000 in
theorem jf3_wp {c2 c3 c4 c6 c8 c9 c10 c11 c12 c13 c14 c15 c16 c17 c18 c19 c20 c21 c22 c23 c24 c25 c26 c27 c28 c29 c30 c31 c32 c33 c34 c35 c36 c37 c38 c39 c40 : Value} (b jb f n c m : Nat) (p : Option Addr) (fv : Value) (D : Dk) (w : World) (Q : Exit → Act → World → Prop) (h : DiskAt w b fv D) (hJ : Blk w jb 126 [.int .i64 (f : Int), .slice p n c]) (hf : f < 256) (hn : n < 256) (h1 : decide (D.read 1 = hdSec f n) = true) (h2 : decide ((f : Int) + (n : Int) ≤ 64) = true) (h3 : ((m : Int) == (f : Int)) = true)
    (hQ : ∀ (u21 u22 u23 u24 u25 u26 u27 u28 u29 u30 u31 u32 u33 u34 u35 u36 u37 u38 u39 u40 : Value) (w' : World), Below w.heap.size w w' → Q .normal ⟨#[.pointer (some ⟨b, 0, none⟩), .int .i64 (m : Int), c2, c3, .bool true, .pointer (some ⟨jb, 0, none⟩), c6, .int .i64 ((f : Int) + (n : Int)), c8, c9, c10, c11, c12, c13, c14, c15, c16, c17, c18, c19, c20, u21, u22, u23, u24, u25, u26, u27, u28, u29, u30, u31, u32, u33, u34, u35, u36, u37, u38, u39, u40], []⟩ w') :
    Code.wp Tryd.prog (rgn Tryd.f130 5) Q ⟨#[.pointer (some ⟨b, 0, none⟩), .int .i64 (m : Int), c2, c3, c4, .pointer (some ⟨jb, 0, none⟩), c6, .int .i64 ((f : Int) + (n : Int)), c8, c9, c10, c11, c12, c13, c14, c15, c16, c17, c18, c19, c20, c21, c22, c23, c24, c25, c26, c27, c28, c29, c30, c31, c32, c33, c34, c35, c36, c37, c38, c39, c40], []⟩ w := by
  have hS : (fun wx : World => Below w.heap.size w wx) w.drew := (Below.refl w.heap.size w).drew
  have hsec := (h.ok.read (i := 1) (by omega)).len
  have hsh := (hdSec_sec hf hn).len
  have hread : ∀ wx, Below w.heap.size w wx → Calls Tryd.prog 116 #[.pointer (some ⟨b, 0, none⟩), .int .i64 1] wx fun e w' => e = .returned (.agg (u8s (D.read 1)).toArray) ∧ Below wx.heap.size wx w' :=
    fun wx hx => read_any b fv D 1 wx (h.below hx) (by omega)
  have hhead : ∀ wx, Calls Tryd.prog 125 #[jV f p n c] wx fun e w' => e = .returned (.agg (u8s (hdSec f n)).toArray) ∧ Below wx.heap.size wx w' := fun wx => head_any f n c p wx hf hn
  conv => arg 2; whnf
  refine wp_region_s (fun wx : World => Below w.heap.size w wx) (by kernel_rfl) ?_
  refine wpS_pure (k := 0) (v := .pointer (some ⟨b, 0, none⟩)) (by rfl) (by kernel_rfl) (by kernel_rfl) (by kernel_rfl) (by rfl) (some 21) (by rfl) hS (fun _ _ => by kernel_rfl) ?_
  simp only [Act.put, List.setIfInBounds_toArray, List.set_cons_succ, List.set_cons_zero]
  refine wpS_pure (k := 2) (v := jV f p n c) (by rfl) (by kernel_rfl) (by kernel_rfl) (by kernel_rfl) (by rfl) (some 23) (by rfl) hS (fun wx hx => exec_ld (by rfl) (by rfl) (loadJ (hJ.below hx hJ.lt))) ?_
  simp only [Act.put, List.setIfInBounds_toArray, List.set_cons_succ, List.set_cons_zero]
  have hb0 : Below w.heap.size w w.drew := hS
  refine wpS_one (i := 1) (by kernel_rfl) (opS_call (f := 116) (vs := #[.pointer (some ⟨b, 0, none⟩), .int .i64 1]) (by rfl) (by rfl) (some 22) (by rfl) (by kernel_rfl) ((hread _ hb0).mono ?_))
  rintro e w1 ⟨rfl, hb1⟩
  have hS1 : Below w.heap.size w w1 := hb0.trans (hb1.mono hb0.size)
  refine ⟨_, rfl, hS1, ?_⟩
  simp only [Act.put, List.setIfInBounds_toArray, List.set_cons_succ, List.set_cons_zero]
  refine wpS_one (i := 3) (by kernel_rfl) (opS_call (f := 125) (vs := #[jV f p n c]) (by rfl) (by rfl) (some 24) (by rfl) (by kernel_rfl) ((hhead w1).mono ?_))
  rintro e w2 ⟨rfl, hb2⟩
  have hS2 : Below w.heap.size w w2 := hS1.trans (hb2.mono hS1.size)
  refine ⟨_, rfl, hS2, ?_⟩
  simp only [Act.put, List.setIfInBounds_toArray, List.set_cons_succ, List.set_cons_zero]
  refine wpS_pure (k := 4) (v := .bool true) (by rfl) (by kernel_rfl) (by kernel_rfl) (by kernel_rfl) (by rfl) (some 25) (by rfl) hS2 (fun wx _ => exec_bop (by rfl) (by rfl) (by rfl) (run_eqGuard_agg wx .eql 130 _ _ _ _ (by kernel_rfl)) (by rw [eql_sec wx hsec hsh, h1])) ?_
  simp only [Act.put, List.setIfInBounds_toArray, List.set_cons_succ, List.set_cons_zero]
  refine wpS_pure (k := 5) (v := .bool true) (by rfl) (by kernel_rfl) (by kernel_rfl) (by kernel_rfl) (by rfl) (some 26) (by rfl) hS2 (fun _ _ => by kernel_rfl) ?_
  simp only [Act.put, List.setIfInBounds_toArray, List.set_cons_succ, List.set_cons_zero]
  refine wpS_w (k := 6) (v := .int .i64 ((f : Int) + (n : Int))) (by rfl) (by kernel_rfl) (by kernel_rfl) (by kernel_rfl) (by kernel_rfl) (some 27) (by rfl) hS2 (fun _ _ => by kernel_rfl) ?_
  simp only [Act.put, List.setIfInBounds_toArray, List.set_cons_succ, List.set_cons_zero]
  refine wpS_w (k := 7) (v := .bool true) (by rfl) (by kernel_rfl) (by kernel_rfl) (by kernel_rfl) (by kernel_rfl) (some 28) (by rfl) hS2 (fun wx _ => exec_bop (by rfl) (by rfl) (by rfl) (by kernel_rfl) (leq_b _ _ h2 wx)) ?_
  simp only [Act.put, List.setIfInBounds_toArray, List.set_cons_succ, List.set_cons_zero]
  refine wpS_pure (k := 8) (v := .bool true) (by rfl) (by kernel_rfl) (by kernel_rfl) (by kernel_rfl) (by rfl) (some 29) (by rfl) hS2 (fun _ _ => by kernel_rfl) ?_
  simp only [Act.put, List.setIfInBounds_toArray, List.set_cons_succ, List.set_cons_zero]
  refine wpS_pure (k := 9) (v := .bool true) (by rfl) (by kernel_rfl) (by kernel_rfl) (by kernel_rfl) (by rfl) (some 30) (by rfl) hS2 (fun _ _ => by kernel_rfl) ?_
  simp only [Act.put, List.setIfInBounds_toArray, List.set_cons_succ, List.set_cons_zero]
  refine wpS_w (k := 10) (v := .int .i64 (m : Int)) (by rfl) (by kernel_rfl) (by kernel_rfl) (by kernel_rfl) (by kernel_rfl) (some 31) (by rfl) hS2 (fun _ _ => by kernel_rfl) ?_
  simp only [Act.put, List.setIfInBounds_toArray, List.set_cons_succ, List.set_cons_zero]
  refine wpS_w (k := 11) (v := .pointer (some ⟨jb, 0, none⟩)) (by rfl) (by kernel_rfl) (by kernel_rfl) (by kernel_rfl) (by kernel_rfl) (some 32) (by rfl) hS2 (fun _ _ => by kernel_rfl) ?_
  simp only [Act.put, List.setIfInBounds_toArray, List.set_cons_succ, List.set_cons_zero]
  refine wpS_w (k := 12) (v := .int .i64 (f : Int)) (by rfl) (by kernel_rfl) (by kernel_rfl) (by kernel_rfl) (by kernel_rfl) (some 33) (by rfl) hS2 (fun wx hx => exec_ld (by rfl) (by rfl) (loadInt wx jb 0 _ (by rw [(hJ.below hx hJ.lt).cell]; rfl))) ?_
  simp only [Act.put, List.setIfInBounds_toArray, List.set_cons_succ, List.set_cons_zero]
  refine wpS_w (k := 13) (v := .bool true) (by rfl) (by kernel_rfl) (by kernel_rfl) (by kernel_rfl) (by kernel_rfl) (some 34) (by rfl) hS2 (fun wx _ => exec_bop (by rfl) (by rfl) (by rfl) (by kernel_rfl) (eql_b _ _ h3 wx)) ?_
  simp only [Act.put, List.setIfInBounds_toArray, List.set_cons_succ, List.set_cons_zero]
  refine wpS_w (k := 14) (v := .bool true) (by rfl) (by kernel_rfl) (by kernel_rfl) (by kernel_rfl) (by kernel_rfl) (some 35) (by rfl) hS2 (fun _ _ => by kernel_rfl) ?_
  simp only [Act.put, List.setIfInBounds_toArray, List.set_cons_succ, List.set_cons_zero]
  refine wpS_not (k := 15) (by rfl) (by kernel_rfl) (by kernel_rfl) (by kernel_rfl) (by kernel_rfl) (some 36) (by rfl) hS2 ?_
  simp only [Act.put, List.setIfInBounds_toArray, List.set_cons_succ, List.set_cons_zero]
  refine wpS_not (k := 16) (by rfl) (by kernel_rfl) (by kernel_rfl) (by kernel_rfl) (by kernel_rfl) (some 37) (by rfl) hS2 ?_
  simp only [Act.put, List.setIfInBounds_toArray, List.set_cons_succ, List.set_cons_zero]
  refine wpS_not (k := 17) (by rfl) (by kernel_rfl) (by kernel_rfl) (by kernel_rfl) (by kernel_rfl) (some 38) (by rfl) hS2 ?_
  simp only [Act.put, List.setIfInBounds_toArray, List.set_cons_succ, List.set_cons_zero]
  refine wpS_w (k := 18) (v := .bool true) (by rfl) (by kernel_rfl) (by kernel_rfl) (by kernel_rfl) (by kernel_rfl) (some 39) (by rfl) hS2 (fun _ _ => by kernel_rfl) ?_
  simp only [Act.put, List.setIfInBounds_toArray, List.set_cons_succ, List.set_cons_zero]
  refine wpS_pure (k := 19) (v := .bool true) (by rfl) (by kernel_rfl) (by kernel_rfl) (by kernel_rfl) (by rfl) (some 40) (by rfl) hS2 (fun _ _ => by kernel_rfl) ?_
  simp only [Act.put, List.setIfInBounds_toArray, List.set_cons_succ, List.set_cons_zero]
  refine wpS_pure (k := 20) (v := .bool true) (by rfl) (by kernel_rfl) (by kernel_rfl) (by kernel_rfl) (by rfl) (some 4) (by rfl) hS2 (fun _ _ => by kernel_rfl) ?_
  simp only [Act.put, List.setIfInBounds_toArray, List.set_cons_succ, List.set_cons_zero]
  refine wpAnyH_done (by kernel_rfl) ?_ _
  refine NoPanic.normal ?_
  exact hQ _ _ _ _ _ _ _ _ _ _ _ _ _ _ _ _ _ _ _ _ w2 hS2

set_option maxHeartbeats 2000000 in
theorem jf4_wp {c2 c3 c4 c6 c8 c9 c10 c11 c12 c13 c14 c15 c16 c17 c18 c19 c20 c21 c22 c23 c24 c25 c26 c27 c28 c29 c30 c31 c32 c33 c34 c35 c36 c37 c38 c39 c40 : Value} (b jb f n c m : Nat) (p : Option Addr) (fv : Value) (D : Dk) (w : World) (Q : Exit → Act → World → Prop) (h : DiskAt w b fv D) (hJ : Blk w jb 126 [.int .i64 (f : Int), .slice p n c]) (hf : f < 256) (hn : n < 256) (h1 : decide (D.read 1 = hdSec f n) = true) (h2 : decide ((f : Int) + (n : Int) ≤ 64) = true) (h3 : ((m : Int) == (f : Int)) = false) (h4 : ((m : Int) == (f : Int) + (n : Int)) = true)
    (hQ : ∀ (u21 u22 u23 u24 u25 u26 u27 u28 u29 u30 u31 u32 u33 u34 u35 u36 u37 u38 u39 u40 : Value) (w' : World), Below w.heap.size w w' → Q .normal ⟨#[.pointer (some ⟨b, 0, none⟩), .int .i64 (m : Int), c2, c3, .bool true, .pointer (some ⟨jb, 0, none⟩), c6, .int .i64 ((f : Int) + (n : Int)), c8, c9, c10, c11, c12, c13, c14, c15, c16, c17, c18, c19, c20, u21, u22, u23, u24, u25, u26, u27, u28, u29, u30, u31, u32, u33, u34, u35, u36, u37, u38, u39, u40], []⟩ w') :
    Code.wp Tryd.prog (rgn Tryd.f130 5) Q ⟨#[.pointer (some ⟨b, 0, none⟩), .int .i64 (m : Int), c2, c3, c4, .pointer (some ⟨jb, 0, none⟩), c6, .int .i64 ((f : Int) + (n : Int)), c8, c9, c10, c11, c12, c13, c14, c15, c16, c17, c18, c19, c20, c21, c22, c23, c24, c25, c26, c27, c28, c29, c30, c31, c32, c33, c34, c35, c36, c37, c38, c39, c40], []⟩ w := by
  have hS : (fun wx : World => Below w.heap.size w wx) w.drew := (Below.refl w.heap.size w).drew
  have hsec := (h.ok.read (i := 1) (by omega)).len
  have hsh := (hdSec_sec hf hn).len
  have hread : ∀ wx, Below w.heap.size w wx → Calls Tryd.prog 116 #[.pointer (some ⟨b, 0, none⟩), .int .i64 1] wx fun e w' => e = .returned (.agg (u8s (D.read 1)).toArray) ∧ Below wx.heap.size wx w' :=
    fun wx hx => read_any b fv D 1 wx (h.below hx) (by omega)
  have hhead : ∀ wx, Calls Tryd.prog 125 #[jV f p n c] wx fun e w' => e = .returned (.agg (u8s (hdSec f n)).toArray) ∧ Below wx.heap.size wx w' := fun wx => head_any f n c p wx hf hn
  conv => arg 2; whnf
  refine wp_region_s (fun wx : World => Below w.heap.size w wx) (by kernel_rfl) ?_
  refine wpS_pure (k := 0) (v := .pointer (some ⟨b, 0, none⟩)) (by rfl) (by kernel_rfl) (by kernel_rfl) (by kernel_rfl) (by rfl) (some 21) (by rfl) hS (fun _ _ => by kernel_rfl) ?_
  simp only [Act.put, List.setIfInBounds_toArray, List.set_cons_succ, List.set_cons_zero]
  refine wpS_pure (k := 2) (v := jV f p n c) (by rfl) (by kernel_rfl) (by kernel_rfl) (by kernel_rfl) (by rfl) (some 23) (by rfl) hS (fun wx hx => exec_ld (by rfl) (by rfl) (loadJ (hJ.below hx hJ.lt))) ?_
  simp only [Act.put, List.setIfInBounds_toArray, List.set_cons_succ, List.set_cons_zero]
  have hb0 : Below w.heap.size w w.drew := hS
  refine wpS_one (i := 1) (by kernel_rfl) (opS_call (f := 116) (vs := #[.pointer (some ⟨b, 0, none⟩), .int .i64 1]) (by rfl) (by rfl) (some 22) (by rfl) (by kernel_rfl) ((hread _ hb0).mono ?_))
  rintro e w1 ⟨rfl, hb1⟩
  have hS1 : Below w.heap.size w w1 := hb0.trans (hb1.mono hb0.size)
  refine ⟨_, rfl, hS1, ?_⟩
  simp only [Act.put, List.setIfInBounds_toArray, List.set_cons_succ, List.set_cons_zero]
  refine wpS_one (i := 3) (by kernel_rfl) (opS_call (f := 125) (vs := #[jV f p n c]) (by rfl) (by rfl) (some 24) (by rfl) (by kernel_rfl) ((hhead w1).mono ?_))
  rintro e w2 ⟨rfl, hb2⟩
  have hS2 : Below w.heap.size w w2 := hS1.trans (hb2.mono hS1.size)
  refine ⟨_, rfl, hS2, ?_⟩
  simp only [Act.put, List.setIfInBounds_toArray, List.set_cons_succ, List.set_cons_zero]
  refine wpS_pure (k := 4) (v := .bool true) (by rfl) (by kernel_rfl) (by kernel_rfl) (by kernel_rfl) (by rfl) (some 25) (by rfl) hS2 (fun wx _ => exec_bop (by rfl) (by rfl) (by rfl) (run_eqGuard_agg wx .eql 130 _ _ _ _ (by kernel_rfl)) (by rw [eql_sec wx hsec hsh, h1])) ?_
  simp only [Act.put, List.setIfInBounds_toArray, List.set_cons_succ, List.set_cons_zero]
  refine wpS_pure (k := 5) (v := .bool true) (by rfl) (by kernel_rfl) (by kernel_rfl) (by kernel_rfl) (by rfl) (some 26) (by rfl) hS2 (fun _ _ => by kernel_rfl) ?_
  simp only [Act.put, List.setIfInBounds_toArray, List.set_cons_succ, List.set_cons_zero]
  refine wpS_w (k := 6) (v := .int .i64 ((f : Int) + (n : Int))) (by rfl) (by kernel_rfl) (by kernel_rfl) (by kernel_rfl) (by kernel_rfl) (some 27) (by rfl) hS2 (fun _ _ => by kernel_rfl) ?_
  simp only [Act.put, List.setIfInBounds_toArray, List.set_cons_succ, List.set_cons_zero]
  refine wpS_w (k := 7) (v := .bool true) (by rfl) (by kernel_rfl) (by kernel_rfl) (by kernel_rfl) (by kernel_rfl) (some 28) (by rfl) hS2 (fun wx _ => exec_bop (by rfl) (by rfl) (by rfl) (by kernel_rfl) (leq_b _ _ h2 wx)) ?_
  simp only [Act.put, List.setIfInBounds_toArray, List.set_cons_succ, List.set_cons_zero]
  refine wpS_pure (k := 8) (v := .bool true) (by rfl) (by kernel_rfl) (by kernel_rfl) (by kernel_rfl) (by rfl) (some 29) (by rfl) hS2 (fun _ _ => by kernel_rfl) ?_
  simp only [Act.put, List.setIfInBounds_toArray, List.set_cons_succ, List.set_cons_zero]
  refine wpS_pure (k := 9) (v := .bool true) (by rfl) (by kernel_rfl) (by kernel_rfl) (by kernel_rfl) (by rfl) (some 30) (by rfl) hS2 (fun _ _ => by kernel_rfl) ?_
  simp only [Act.put, List.setIfInBounds_toArray, List.set_cons_succ, List.set_cons_zero]
  refine wpS_w (k := 10) (v := .int .i64 (m : Int)) (by rfl) (by kernel_rfl) (by kernel_rfl) (by kernel_rfl) (by kernel_rfl) (some 31) (by rfl) hS2 (fun _ _ => by kernel_rfl) ?_
  simp only [Act.put, List.setIfInBounds_toArray, List.set_cons_succ, List.set_cons_zero]
  refine wpS_w (k := 11) (v := .pointer (some ⟨jb, 0, none⟩)) (by rfl) (by kernel_rfl) (by kernel_rfl) (by kernel_rfl) (by kernel_rfl) (some 32) (by rfl) hS2 (fun _ _ => by kernel_rfl) ?_
  simp only [Act.put, List.setIfInBounds_toArray, List.set_cons_succ, List.set_cons_zero]
  refine wpS_w (k := 12) (v := .int .i64 (f : Int)) (by rfl) (by kernel_rfl) (by kernel_rfl) (by kernel_rfl) (by kernel_rfl) (some 33) (by rfl) hS2 (fun wx hx => exec_ld (by rfl) (by rfl) (loadInt wx jb 0 _ (by rw [(hJ.below hx hJ.lt).cell]; rfl))) ?_
  simp only [Act.put, List.setIfInBounds_toArray, List.set_cons_succ, List.set_cons_zero]
  refine wpS_w (k := 13) (v := .bool false) (by rfl) (by kernel_rfl) (by kernel_rfl) (by kernel_rfl) (by kernel_rfl) (some 34) (by rfl) hS2 (fun wx _ => exec_bop (by rfl) (by rfl) (by rfl) (by kernel_rfl) (eql_b _ _ h3 wx)) ?_
  simp only [Act.put, List.setIfInBounds_toArray, List.set_cons_succ, List.set_cons_zero]
  refine wpS_w (k := 14) (v := .bool false) (by rfl) (by kernel_rfl) (by kernel_rfl) (by kernel_rfl) (by kernel_rfl) (some 35) (by rfl) hS2 (fun _ _ => by kernel_rfl) ?_
  simp only [Act.put, List.setIfInBounds_toArray, List.set_cons_succ, List.set_cons_zero]
  refine wpS_w (k := 15) (v := .int .i64 (m : Int)) (by rfl) (by kernel_rfl) (by kernel_rfl) (by kernel_rfl) (by kernel_rfl) (some 36) (by rfl) hS2 (fun _ _ => by kernel_rfl) ?_
  simp only [Act.put, List.setIfInBounds_toArray, List.set_cons_succ, List.set_cons_zero]
  refine wpS_w (k := 16) (v := .int .i64 ((f : Int) + (n : Int))) (by rfl) (by kernel_rfl) (by kernel_rfl) (by kernel_rfl) (by kernel_rfl) (some 37) (by rfl) hS2 (fun _ _ => by kernel_rfl) ?_
  simp only [Act.put, List.setIfInBounds_toArray, List.set_cons_succ, List.set_cons_zero]
  refine wpS_w (k := 17) (v := .bool true) (by rfl) (by kernel_rfl) (by kernel_rfl) (by kernel_rfl) (by kernel_rfl) (some 38) (by rfl) hS2 (fun wx _ => exec_bop (by rfl) (by rfl) (by rfl) (by kernel_rfl) (eql_b _ _ h4 wx)) ?_
  simp only [Act.put, List.setIfInBounds_toArray, List.set_cons_succ, List.set_cons_zero]
  refine wpS_w (k := 18) (v := .bool true) (by rfl) (by kernel_rfl) (by kernel_rfl) (by kernel_rfl) (by kernel_rfl) (some 39) (by rfl) hS2 (fun _ _ => by kernel_rfl) ?_
  simp only [Act.put, List.setIfInBounds_toArray, List.set_cons_succ, List.set_cons_zero]
  refine wpS_pure (k := 19) (v := .bool true) (by rfl) (by kernel_rfl) (by kernel_rfl) (by kernel_rfl) (by rfl) (some 40) (by rfl) hS2 (fun _ _ => by kernel_rfl) ?_
  simp only [Act.put, List.setIfInBounds_toArray, List.set_cons_succ, List.set_cons_zero]
  refine wpS_pure (k := 20) (v := .bool true) (by rfl) (by kernel_rfl) (by kernel_rfl) (by kernel_rfl) (by rfl) (some 4) (by rfl) hS2 (fun _ _ => by kernel_rfl) ?_
  simp only [Act.put, List.setIfInBounds_toArray, List.set_cons_succ, List.set_cons_zero]
  refine wpAnyH_done (by kernel_rfl) ?_ _
  refine NoPanic.normal ?_
  exact hQ _ _ _ _ _ _ _ _ _ _ _ _ _ _ _ _ _ _ _ _ w2 hS2

set_option maxHeartbeats 2000000 in
theorem jf5_wp {c2 c3 c4 c6 c8 c9 c10 c11 c12 c13 c14 c15 c16 c17 c18 c19 c20 c21 c22 c23 c24 c25 c26 c27 c28 c29 c30 c31 c32 c33 c34 c35 c36 c37 c38 c39 c40 : Value} (b jb f n c m : Nat) (p : Option Addr) (fv : Value) (D : Dk) (w : World) (Q : Exit → Act → World → Prop) (h : DiskAt w b fv D) (hJ : Blk w jb 126 [.int .i64 (f : Int), .slice p n c]) (hf : f < 256) (hn : n < 256) (h1 : decide (D.read 1 = hdSec f n) = true) (h2 : decide ((f : Int) + (n : Int) ≤ 64) = true) (h3 : ((m : Int) == (f : Int)) = false) (h4 : ((m : Int) == (f : Int) + (n : Int)) = false)
    (hQ : ∀ (u21 u22 u23 u24 u25 u26 u27 u28 u29 u30 u31 u32 u33 u34 u35 u36 u37 u38 u39 u40 : Value) (w' : World), Below w.heap.size w w' → Q .normal ⟨#[.pointer (some ⟨b, 0, none⟩), .int .i64 (m : Int), c2, c3, .bool false, .pointer (some ⟨jb, 0, none⟩), c6, .int .i64 ((f : Int) + (n : Int)), c8, c9, c10, c11, c12, c13, c14, c15, c16, c17, c18, c19, c20, u21, u22, u23, u24, u25, u26, u27, u28, u29, u30, u31, u32, u33, u34, u35, u36, u37, u38, u39, u40], []⟩ w') :
    Code.wp Tryd.prog (rgn Tryd.f130 5) Q ⟨#[.pointer (some ⟨b, 0, none⟩), .int .i64 (m : Int), c2, c3, c4, .pointer (some ⟨jb, 0, none⟩), c6, .int .i64 ((f : Int) + (n : Int)), c8, c9, c10, c11, c12, c13, c14, c15, c16, c17, c18, c19, c20, c21, c22, c23, c24, c25, c26, c27, c28, c29, c30, c31, c32, c33, c34, c35, c36, c37, c38, c39, c40], []⟩ w := by
  have hS : (fun wx : World => Below w.heap.size w wx) w.drew := (Below.refl w.heap.size w).drew
  have hsec := (h.ok.read (i := 1) (by omega)).len
  have hsh := (hdSec_sec hf hn).len
  have hread : ∀ wx, Below w.heap.size w wx → Calls Tryd.prog 116 #[.pointer (some ⟨b, 0, none⟩), .int .i64 1] wx fun e w' => e = .returned (.agg (u8s (D.read 1)).toArray) ∧ Below wx.heap.size wx w' :=
    fun wx hx => read_any b fv D 1 wx (h.below hx) (by omega)
  have hhead : ∀ wx, Calls Tryd.prog 125 #[jV f p n c] wx fun e w' => e = .returned (.agg (u8s (hdSec f n)).toArray) ∧ Below wx.heap.size wx w' := fun wx => head_any f n c p wx hf hn
  conv => arg 2; whnf
  refine wp_region_s (fun wx : World => Below w.heap.size w wx) (by kernel_rfl) ?_
  refine wpS_pure (k := 0) (v := .pointer (some ⟨b, 0, none⟩)) (by rfl) (by kernel_rfl) (by kernel_rfl) (by kernel_rfl) (by rfl) (some 21) (by rfl) hS (fun _ _ => by kernel_rfl) ?_
  simp only [Act.put, List.setIfInBounds_toArray, List.set_cons_succ, List.set_cons_zero]
  refine wpS_pure (k := 2) (v := jV f p n c) (by rfl) (by kernel_rfl) (by kernel_rfl) (by kernel_rfl) (by rfl) (some 23) (by rfl) hS (fun wx hx => exec_ld (by rfl) (by rfl) (loadJ (hJ.below hx hJ.lt))) ?_
  simp only [Act.put, List.setIfInBounds_toArray, List.set_cons_succ, List.set_cons_zero]
  have hb0 : Below w.heap.size w w.drew := hS
  refine wpS_one (i := 1) (by kernel_rfl) (opS_call (f := 116) (vs := #[.pointer (some ⟨b, 0, none⟩), .int .i64 1]) (by rfl) (by rfl) (some 22) (by rfl) (by kernel_rfl) ((hread _ hb0).mono ?_))
  rintro e w1 ⟨rfl, hb1⟩
  have hS1 : Below w.heap.size w w1 := hb0.trans (hb1.mono hb0.size)
  refine ⟨_, rfl, hS1, ?_⟩
  simp only [Act.put, List.setIfInBounds_toArray, List.set_cons_succ, List.set_cons_zero]
  refine wpS_one (i := 3) (by kernel_rfl) (opS_call (f := 125) (vs := #[jV f p n c]) (by rfl) (by rfl) (some 24) (by rfl) (by kernel_rfl) ((hhead w1).mono ?_))
  rintro e w2 ⟨rfl, hb2⟩
  have hS2 : Below w.heap.size w w2 := hS1.trans (hb2.mono hS1.size)
  refine ⟨_, rfl, hS2, ?_⟩
  simp only [Act.put, List.setIfInBounds_toArray, List.set_cons_succ, List.set_cons_zero]
  refine wpS_pure (k := 4) (v := .bool true) (by rfl) (by kernel_rfl) (by kernel_rfl) (by kernel_rfl) (by rfl) (some 25) (by rfl) hS2 (fun wx _ => exec_bop (by rfl) (by rfl) (by rfl) (run_eqGuard_agg wx .eql 130 _ _ _ _ (by kernel_rfl)) (by rw [eql_sec wx hsec hsh, h1])) ?_
  simp only [Act.put, List.setIfInBounds_toArray, List.set_cons_succ, List.set_cons_zero]
  refine wpS_pure (k := 5) (v := .bool true) (by rfl) (by kernel_rfl) (by kernel_rfl) (by kernel_rfl) (by rfl) (some 26) (by rfl) hS2 (fun _ _ => by kernel_rfl) ?_
  simp only [Act.put, List.setIfInBounds_toArray, List.set_cons_succ, List.set_cons_zero]
  refine wpS_w (k := 6) (v := .int .i64 ((f : Int) + (n : Int))) (by rfl) (by kernel_rfl) (by kernel_rfl) (by kernel_rfl) (by kernel_rfl) (some 27) (by rfl) hS2 (fun _ _ => by kernel_rfl) ?_
  simp only [Act.put, List.setIfInBounds_toArray, List.set_cons_succ, List.set_cons_zero]
  refine wpS_w (k := 7) (v := .bool true) (by rfl) (by kernel_rfl) (by kernel_rfl) (by kernel_rfl) (by kernel_rfl) (some 28) (by rfl) hS2 (fun wx _ => exec_bop (by rfl) (by rfl) (by rfl) (by kernel_rfl) (leq_b _ _ h2 wx)) ?_
  simp only [Act.put, List.setIfInBounds_toArray, List.set_cons_succ, List.set_cons_zero]
  refine wpS_pure (k := 8) (v := .bool true) (by rfl) (by kernel_rfl) (by kernel_rfl) (by kernel_rfl) (by rfl) (some 29) (by rfl) hS2 (fun _ _ => by kernel_rfl) ?_
  simp only [Act.put, List.setIfInBounds_toArray, List.set_cons_succ, List.set_cons_zero]
  refine wpS_pure (k := 9) (v := .bool true) (by rfl) (by kernel_rfl) (by kernel_rfl) (by kernel_rfl) (by rfl) (some 30) (by rfl) hS2 (fun _ _ => by kernel_rfl) ?_
  simp only [Act.put, List.setIfInBounds_toArray, List.set_cons_succ, List.set_cons_zero]
  refine wpS_w (k := 10) (v := .int .i64 (m : Int)) (by rfl) (by kernel_rfl) (by kernel_rfl) (by kernel_rfl) (by kernel_rfl) (some 31) (by rfl) hS2 (fun _ _ => by kernel_rfl) ?_
  simp only [Act.put, List.setIfInBounds_toArray, List.set_cons_succ, List.set_cons_zero]
  refine wpS_w (k := 11) (v := .pointer (some ⟨jb, 0, none⟩)) (by rfl) (by kernel_rfl) (by kernel_rfl) (by kernel_rfl) (by kernel_rfl) (some 32) (by rfl) hS2 (fun _ _ => by kernel_rfl) ?_
  simp only [Act.put, List.setIfInBounds_toArray, List.set_cons_succ, List.set_cons_zero]
  refine wpS_w (k := 12) (v := .int .i64 (f : Int)) (by rfl) (by kernel_rfl) (by kernel_rfl) (by kernel_rfl) (by kernel_rfl) (some 33) (by rfl) hS2 (fun wx hx => exec_ld (by rfl) (by rfl) (loadInt wx jb 0 _ (by rw [(hJ.below hx hJ.lt).cell]; rfl))) ?_
  simp only [Act.put, List.setIfInBounds_toArray, List.set_cons_succ, List.set_cons_zero]
  refine wpS_w (k := 13) (v := .bool false) (by rfl) (by kernel_rfl) (by kernel_rfl) (by kernel_rfl) (by kernel_rfl) (some 34) (by rfl) hS2 (fun wx _ => exec_bop (by rfl) (by rfl) (by rfl) (by kernel_rfl) (eql_b _ _ h3 wx)) ?_
  simp only [Act.put, List.setIfInBounds_toArray, List.set_cons_succ, List.set_cons_zero]
  refine wpS_w (k := 14) (v := .bool false) (by rfl) (by kernel_rfl) (by kernel_rfl) (by kernel_rfl) (by kernel_rfl) (some 35) (by rfl) hS2 (fun _ _ => by kernel_rfl) ?_
  simp only [Act.put, List.setIfInBounds_toArray, List.set_cons_succ, List.set_cons_zero]
  refine wpS_w (k := 15) (v := .int .i64 (m : Int)) (by rfl) (by kernel_rfl) (by kernel_rfl) (by kernel_rfl) (by kernel_rfl) (some 36) (by rfl) hS2 (fun _ _ => by kernel_rfl) ?_
  simp only [Act.put, List.setIfInBounds_toArray, List.set_cons_succ, List.set_cons_zero]
  refine wpS_w (k := 16) (v := .int .i64 ((f : Int) + (n : Int))) (by rfl) (by kernel_rfl) (by kernel_rfl) (by kernel_rfl) (by kernel_rfl) (some 37) (by rfl) hS2 (fun _ _ => by kernel_rfl) ?_
  simp only [Act.put, List.setIfInBounds_toArray, List.set_cons_succ, List.set_cons_zero]
  refine wpS_w (k := 17) (v := .bool false) (by rfl) (by kernel_rfl) (by kernel_rfl) (by kernel_rfl) (by kernel_rfl) (some 38) (by rfl) hS2 (fun wx _ => exec_bop (by rfl) (by rfl) (by rfl) (by kernel_rfl) (eql_b _ _ h4 wx)) ?_
  simp only [Act.put, List.setIfInBounds_toArray, List.set_cons_succ, List.set_cons_zero]
  refine wpS_w (k := 18) (v := .bool false) (by rfl) (by kernel_rfl) (by kernel_rfl) (by kernel_rfl) (by kernel_rfl) (some 39) (by rfl) hS2 (fun _ _ => by kernel_rfl) ?_
  simp only [Act.put, List.setIfInBounds_toArray, List.set_cons_succ, List.set_cons_zero]
  refine wpS_pure (k := 19) (v := .bool false) (by rfl) (by kernel_rfl) (by kernel_rfl) (by kernel_rfl) (by rfl) (some 40) (by rfl) hS2 (fun _ _ => by kernel_rfl) ?_
  simp only [Act.put, List.setIfInBounds_toArray, List.set_cons_succ, List.set_cons_zero]
  refine wpS_pure (k := 20) (v := .bool false) (by rfl) (by kernel_rfl) (by kernel_rfl) (by kernel_rfl) (by rfl) (some 4) (by rfl) hS2 (fun _ _ => by kernel_rfl) ?_
  simp only [Act.put, List.setIfInBounds_toArray, List.set_cons_succ, List.set_cons_zero]
  refine wpAnyH_done (by kernel_rfl) ?_ _
  refine NoPanic.normal ?_
  exact hQ _ _ _ _ _ _ _ _ _ _ _ _ _ _ _ _ _ _ _ _ w2 hS2

set_option maxHeartbeats 2000000 in
theorem fits_any (b m : Nat) (fv : Value) (D : Dk) (w : World) (h : DiskAt w b fv D) :
    Calls Tryd.prog 130 #[.pointer (some ⟨b, 0, none⟩), .int .i64 (m : Int)] w fun e w' => ∃ r : Bool, e = .returned (.bool r) ∧ (r = true ↔ D.fits m) ∧ Below w.heap.size w w' := by
  by_cases hz : D.read 1 = zer
  · refine (fits_none b (m : Int) fv D w h hz).mono ?_
    rintro e w' ⟨rfl, hb⟩
    exact ⟨true, rfl, ⟨fun _ => .inl hz, fun _ => rfl⟩, hb⟩
  · have hrj := readJournal_some b fv D w h hz
    have HD : Aside (DiskAt w b fv D) := h
    have HX : Aside (D.fits m ↔ (D.read 1 = hdSec D.jF (D.jE D.jN).length ∧ D.jF + (D.jE D.jN).length ≤ 64 ∧ (m = D.jF ∨ m = D.jF + (D.jE D.jN).length))) := by
      show _ ↔ _
      unfold Dk.fits
      constructor
      · rintro (h1 | h1)
        · exact absurd h1 hz
        · exact h1
      · exact fun h1 => .inr h1
    have hf : D.jF < 256 := byt_ok (h.ok.read (i := 1) (by omega)).byt 13
    have hl := jents_len D D.jN 12 0
    have hl' : (D.jE D.jN).length ≤ 12 := hl
    clear hz h hl
    generalize D.jE D.jN = JE at *
    generalize D.jF = f at *
    go_enter Tryd.func130, Tryd.ntmps130
    go_wp2_with fail
    refine hrj.mono ?_
    rintro e w1 ⟨v, rfl, hrow, hb1⟩
    clear hrj
    obtain ⟨p, cap, rfl⟩ := row_slice hrow
    clear hrow
    generalize JE.length = n at *
    have hJ : Blk (w1.alloc (.cells #[.int .i64 (f : Int), .slice p n cap] 126)) w1.heap.size 126 [.int .i64 (f : Int), .slice p n cap] := Blk.new w1 _ _
    have H2 : Aside (Below w.heap.size w (w1.alloc (.cells #[.int .i64 (f : Int), .slice p n cap] 126))) := hb1.alloc hb1.size _
    have hc0 := hJ.cell 0
    have hc1 := hJ.cell 1
    simp only [List.getElem?_cons_zero, List.getElem?_cons_succ] at hc0 hc1
    go_wp2_with fail
    generalize w1.alloc (.cells #[.int .i64 (f : Int), .slice p n cap] 126) = w2 at *
    clear hc0 hc1
    have hd2 := HD.out.below H2.out
    by_cases h1 : D.read 1 = hdSec f n
    · by_cases h2 : f + n ≤ 64
      · by_cases h3 : m = f
        · refine jf3_wp b w1.heap.size f n cap m p fv D w2 _ hd2 hJ hf (by omega) (decide_eq_true h1) (decide_eq_true (by omega)) (by simp; omega) ?_
          intro u21 u22 u23 u24 u25 u26 u27 u28 u29 u30 u31 u32 u33 u34 u35 u36 u37 u38 u39 u40 w3 hb3
          have H3 : Aside (Below w.heap.size w w3 ∧ D.fits m) := ⟨H2.out.trans (hb3.mono H2.out.size), HX.out.2 ⟨h1, h2, .inl h3⟩⟩
          clear h1 h2 h3 hb3
          go_wp2
          go_ret
          exact ⟨true, rfl, ⟨fun _ => H3.out.2, fun _ => rfl⟩, H3.out.1⟩
        · by_cases h4 : m = f + n
          · refine jf4_wp b w1.heap.size f n cap m p fv D w2 _ hd2 hJ hf (by omega) (decide_eq_true h1) (decide_eq_true (by omega)) (by simp; omega) (by simp; omega) ?_
            intro u21 u22 u23 u24 u25 u26 u27 u28 u29 u30 u31 u32 u33 u34 u35 u36 u37 u38 u39 u40 w3 hb3
            have H3 : Aside (Below w.heap.size w w3 ∧ D.fits m) := ⟨H2.out.trans (hb3.mono H2.out.size), HX.out.2 ⟨h1, h2, .inr h4⟩⟩
            clear h1 h2 h3 h4 hb3
            go_wp2
            go_ret
            exact ⟨true, rfl, ⟨fun _ => H3.out.2, fun _ => rfl⟩, H3.out.1⟩
          · refine jf5_wp b w1.heap.size f n cap m p fv D w2 _ hd2 hJ hf (by omega) (decide_eq_true h1) (decide_eq_true (by omega)) (by simp; omega) (by simp; omega) ?_
            intro u21 u22 u23 u24 u25 u26 u27 u28 u29 u30 u31 u32 u33 u34 u35 u36 u37 u38 u39 u40 w3 hb3
            have H3 : Aside (Below w.heap.size w w3 ∧ ¬ D.fits m) := ⟨H2.out.trans (hb3.mono H2.out.size), fun hh => by have := (HX.out.1 hh).2.2; omega⟩
            clear h1 h2 h3 h4 hb3
            go_wp2
            go_ret
            exact ⟨false, rfl, ⟨(fun hh => by cases hh), fun hh => absurd hh H3.out.2⟩, H3.out.1⟩
      · refine jf2_wp b w1.heap.size f n cap m p fv D w2 _ hd2 hJ hf (by omega) (decide_eq_true h1) (decide_eq_false (by omega)) ?_
        intro u21 u22 u23 u24 u25 u26 u27 u28 u29 u30 u31 u32 u33 u34 u35 u36 u37 u38 u39 u40 w3 hb3
        have H3 : Aside (Below w.heap.size w w3 ∧ ¬ D.fits m) := ⟨H2.out.trans (hb3.mono H2.out.size), fun hh => by have := (HX.out.1 hh).2.1; omega⟩
        clear h1 h2 hb3
        go_wp2
        go_ret
        exact ⟨false, rfl, ⟨(fun hh => by cases hh), fun hh => absurd hh H3.out.2⟩, H3.out.1⟩
    · refine jf1_wp b w1.heap.size f n cap m p fv D w2 _ hd2 hJ hf (by omega) (decide_eq_false h1) ?_
      intro u21 u22 u23 u24 u25 u26 u27 u28 u29 u30 u31 u32 u33 u34 u35 u36 u37 u38 u39 u40 w3 hb3
      have H3 : Aside (Below w.heap.size w w3 ∧ ¬ D.fits m) := ⟨H2.out.trans (hb3.mono H2.out.size), fun hh => h1 (HX.out.1 hh).1⟩
      clear h1 hb3
      go_wp2
      go_ret
      exact ⟨false, rfl, ⟨(fun hh => by cases hh), fun hh => absurd hh H3.out.2⟩, H3.out.1⟩
end Go.Proofs.YtlhohmlpcgbliaaDoor
namespace Go.Proofs.YtlhohmlpcgbliaaDoor
set_option maxRecDepth 100000
open Go.RowKit
attribute [local go_sem ↓] Go.wp_at_zero Go.wp_at_succ

/-- A log lies on the disk. -/
def Dk.sound (D : Dk) : Prop := D.ckN ≤ 64 ∧ D.read 0 = ckSec D.ckN D.ckR ∧ D.tilesOk D.ckN ∧ D.span 0 D.ckN = strOf D.ckR ∧ D.fits D.ckN
theorem ckR_byt {D : Dk} (h : D.ok) : ∀ x ∈ D.ckR, x < 256 := fun x hx => (h.read (i := 0) (by omega)).byt x (List.mem_of_mem_drop (List.mem_of_mem_take hx))
theorem ckR_len {D : Dk} (h : D.ok) : D.ckR.length = 32 := by
  have := (h.read (i := 0) (by omega)).len
  unfold Dk.ckR
  rw [List.length_take, List.length_drop, this]
  rfl
theorem ckN_lt {D : Dk} (h : D.ok) : D.ckN < 256 := byt_ok (h.read (i := 0) (by omega)).byt 16

set_option maxHeartbeats 4000000 in
theorem sound_any (b : Nat) (fv : Value) (D : Dk) (w : World) (h : DiskAt w b fv D) (ht : Table w) (hg : 2 < w.heap.size) :
    Calls Tryd.prog 105 #[.pointer (some ⟨b, 0, none⟩)] w fun e w' => ∃ r : Bool, e = .returned (.bool r) ∧ (r = true ↔ D.sound) ∧ Below w.heap.size w w' := by
  have HD : Aside (DiskAt w b fv D ∧ Table w ∧ 2 < w.heap.size) := ⟨h, ht, hg⟩
  have hck := readCheckpoint_any b fv D w h
  have hn256 := ckN_lt h.ok
  have hr32 : (strOf D.ckR).size = 32 := by rw [strOf_size (ckR_byt h.ok), ckR_len h.ok]
  have hbr : bts (strOf D.ckR) = D.ckR := bts_strOf (byt_ok (ckR_byt h.ok))
  have hs0 := (h.ok.read (i := 0) (by omega)).len
  have HS : Aside (D.sound ↔ (D.ckN ≤ 64 ∧ D.read 0 = ckSec D.ckN (bts (strOf D.ckR)) ∧ D.tilesOk D.ckN ∧ D.span 0 D.ckN = strOf D.ckR ∧ D.fits D.ckN)) := by
    show _ ↔ _
    rw [hbr]
    exact Iff.rfl
  have hcs : (ckSec D.ckN (bts (strOf D.ckR))).length = 128 := by
    rw [hbr]
    exact secOf_len (by simp [markC, ckR_len h.ok])
  clear hbr h ht hg
  generalize strOf D.ckR = rt at *
  generalize D.ckN = n at *
  go_enter Tryd.func105, Tryd.ntmps105
  go_wp2_with fail
  refine hck.mono ?_
  rintro e w1 ⟨rfl, hb1⟩
  clear hck
  by_cases h64 : n ≤ 64
  · have hn64 : ¬ (n : Int) > 64 := by omega
    have hrd : Calls Tryd.prog 116 #[.pointer (some ⟨b, 0, none⟩), .int .i64 0] w1 fun e w' => e = .returned (.agg (u8s (D.read 0)).toArray) ∧ Below w1.heap.size w1 w' := read_any b fv D 0 w1 (HD.out.1.below hb1) (by omega)
    have B1 : Aside (Below w.heap.size w w1) := hb1
    go_wp2_with fail
    refine hrd.mono ?_
    rintro e w2 ⟨rfl, hb2⟩
    have B2 : Aside (Below w.heap.size w w2) := B1.out.trans (hb2.mono B1.out.size)
    have hcp := checkpoint_any n rt w2 (by omega) (by omega)
    clear hrd hb1 hb2
    have heq := fun wx => equal_sec wx hs0 hcs
    generalize D.read 0 = s at *
    generalize ckSec n (bts rt) = s' at *
    go_wp2_with fail
    refine hcp.mono ?_
    rintro e w3 ⟨rfl, hb3⟩
    have B3 : Aside (Below w.heap.size w w3) := B2.out.trans (hb3.mono B2.out.size)
    clear hcp hb3
    generalize (u8s s).toArray = arr at *
    generalize (u8s s').toArray = arr' at *
    by_cases hss : s = s'
    · rw [show decide (s = s') = true by simpa using hss] at heq
      have HE : Aside (s = s') := hss
      clear hss
      have htl := tilesHold_any b n fv D w3 (HD.out.1.below B3.out) h64 (table_at B3.out HD.out.2.2 HD.out.2.1) (Nat.lt_of_lt_of_le HD.out.2.2 B3.out.size)
      go_wp2_with fail
      refine htl.mono ?_
      rintro e w4 ⟨r, rfl, hr, hb4⟩
      clear htl heq
      have B4 : Aside (Below w.heap.size w w4) := B3.out.trans (hb4.mono B3.out.size)
      clear hb4
      have HR : Aside (r = true ↔ D.tilesOk n) := hr
      clear hr
      cases r with
      | false =>
        go_wp2
        go_ret
        exact ⟨false, rfl, ⟨(fun hh => by cases hh), fun hh => absurd (HR.out.2 (HS.out.1 hh).2.2.1) (by simp)⟩, B4.out⟩
      | true =>
        have hsp : Calls Tryd.prog 98 #[.pointer (some ⟨b, 0, none⟩), .int .i64 0, .int .i64 (n : Int)] w4 fun e w' => e = .returned (.string (D.span 0 n)) ∧ Below w4.heap.size w4 w' := by
          have := span_any b 0 n fv D w4 (HD.out.1.below B4.out) (by omega) (table_at B4.out HD.out.2.2 HD.out.2.1) (Nat.lt_of_lt_of_le HD.out.2.2 B4.out.size)
          rw [Nat.zero_add] at this
          exact this
        generalize D.span 0 n = y at *
        go_wp2_with fail
        refine hsp.mono ?_
        rintro e w5 ⟨rfl, hb5⟩
        clear hsp
        have B5 : Aside (Below w.heap.size w w5) := B4.out.trans (hb5.mono B4.out.size)
        clear hb5
        by_cases hyr : y = rt
        · have hyb : (y.toList == rt.toList) = true := by rw [eqs]; exact decide_eq_true hyr
          have HYR : Aside (y = rt) := hyr
          clear hyr
          have hft := fits_any b n fv D w5 (HD.out.1.below B5.out)
          go_wp2_with fail
          refine hft.mono ?_
          rintro e w6 ⟨r, rfl, hr, hb6⟩
          have B6 : Aside (Below w.heap.size w w6 ∧ (r = true ↔ D.fits n)) := ⟨B5.out.trans (hb6.mono B5.out.size), hr⟩
          clear hft hb6 hr
          go_wp2
          go_ret
          refine ⟨r, rfl, ⟨fun hh => HS.out.2 ⟨h64, HE.out, HR.out.1 trivial, HYR.out, B6.out.2.1 hh⟩, fun hh => B6.out.2.2 (HS.out.1 hh).2.2.2.2⟩, B6.out.1⟩
        · have hyb : (y.toList == rt.toList) = false := by rw [eqs]; exact decide_eq_false hyr
          have HYR : Aside (¬ y = rt) := hyr
          clear hyr
          go_wp2
          go_ret
          exact ⟨false, rfl, ⟨(fun hh => by cases hh), fun hh => absurd (HS.out.1 hh).2.2.2.1 HYR.out⟩, B5.out⟩
    · rw [show decide (s = s') = false by simpa using hss] at heq
      have HE : Aside (¬ s = s') := hss
      clear hss
      go_wp2
      go_ret
      exact ⟨false, rfl, ⟨(fun hh => by cases hh), fun hh => absurd (HS.out.1 hh).2.1 HE.out⟩, B3.out⟩
  · have hn64 : (n : Int) > 64 := by omega
    go_wp2
    go_ret
    exact ⟨false, rfl, ⟨(fun hh => by cases hh), fun hh => absurd (HS.out.1 hh).1 h64⟩, hb1⟩
end Go.Proofs.YtlhohmlpcgbliaaDoor
namespace Go.Proofs.YtlhohmlpcgbliaaDoor
set_option maxRecDepth 100000
open Go.RowKit
attribute [local go_sem ↓] Go.wp_at_zero Go.wp_at_succ

set_option maxHeartbeats 2000000 in
theorem storeOpen_any (s : ByteArray) (w : World) (ht : Table w) (hg : 2 < w.heap.size) :
    Calls Tryd.prog 83 #[.string s] w fun e w' => Below w.heap.size w w' ∧ ((e = .returned (.tuple #[.agg #[.pointer none], .bool false]) ∧ ¬ (s.size = 25600 ∧ (Dk.of (bts s)).sound)) ∨ ∃ b, e = .returned (.tuple #[.agg #[.pointer (some ⟨b, 0, none⟩)], .bool true]) ∧ w.heap.size ≤ b ∧ s.size = 25600 ∧ (Dk.of (bts s)).sound ∧ DiskAt w' b (.slice none 0 0) (Dk.of (bts s))) := by
  have hb0 : Below w.heap.size w (w.alloc (.cells #[.pointer none] 97)) := (Below.refl _ _).alloc (Nat.le_refl _) _
  have hB0 : Blk (w.alloc (.cells #[.pointer none] 97)) w.heap.size 97 [.pointer none] := Blk.new w _ _
  have HT : Aside (Table w ∧ 2 < w.heap.size) := ⟨ht, hg⟩
  clear ht hg
  by_cases hs : s.size = 25600
  · have hop := open_any s (w.alloc (.cells #[.pointer none] 97)) hs
    generalize Dk.of (bts s) = D at *
    have HD : Aside (True ∧ s.size = 25600) := ⟨trivial, hs⟩
    clear hs
    go_enter Tryd.func83, Tryd.ntmps83
    go_wp2_with fail
    have hs0 : w.heap.size < (w.alloc (.cells #[.pointer none] 97)).heap.size := by simp
    generalize w.alloc (.cells #[.pointer none] 97) = w0 at *
    refine hop.mono ?_
    rintro e w1 ⟨rfl, hd1, hb1⟩
    clear hop
    have hw1 : Below w.heap.size w w1 := hb0.trans (hb1.mono hb0.size)
    have hB1 := hB0.below hb1 hs0
    have hso := sound_any w0.heap.size _ D w1 hd1 (table_at hw1 HT.out.2 HT.out.1) (Nat.lt_of_lt_of_le HT.out.2 hw1.size)
    go_wp2_with fail
    refine hso.mono ?_
    rintro e w2 ⟨r, rfl, hr, hb2⟩
    clear hso
    have HR : Aside (r = true ↔ D.sound) := hr
    clear hr
    have hw2 := hw1.trans (hb2.mono hw1.size)
    have hB2 := hB1.below hb2 hB1.lt
    have hd2 := hd1.below hb2
    have hc0 := hB2.cell 0
    have hf0 := hB2.frozen 0
    simp only [List.getElem?_cons_zero] at hc0
    cases r with
    | true =>
      have HB := hB2.set 0 (.pointer (some ⟨w0.heap.size, 0, none⟩))
      simp only [List.set_cons_zero] at HB
      have Hb : Below w.heap.size w (w2.setCell ⟨w.heap.size, 0, none⟩ (.pointer (some ⟨w0.heap.size, 0, none⟩))) := hw2.setCell (Nat.le_refl _) _
      have hd6 : DiskAt (w2.setCell ⟨w.heap.size, 0, none⟩ (.pointer (some ⟨w0.heap.size, 0, none⟩))) w0.heap.size (.slice none 0 0) D := ⟨hd2.ok, hd2.blk.set_other _ _ (by simp only; omega), ownsRow_setCell_other hd2.row (by simp [Value.ownBlock]) _, hd2.apart⟩
      go_wp2_with fail
      refine bodyPost_ret (results_ct Tryd.results83 (by rfl) (by rfl) HB.range Tryd.underlying97 rfl infoSto) rfl ⟨Hb, .inr ⟨w0.heap.size, rfl, by omega, HD.out.2, ?_, ?_⟩⟩
      · exact HR.out.1 trivial
      · exact hd6
    | false =>
      have HB := hB2.set 0 (.pointer none)
      simp only [List.set_cons_zero] at HB
      have Hb : Below w.heap.size w (w2.setCell ⟨w.heap.size, 0, none⟩ (.pointer none)) := hw2.setCell (Nat.le_refl _) _
      go_wp2_with fail
      refine bodyPost_ret (results_ct Tryd.results83 (by rfl) (by rfl) HB.range Tryd.underlying97 rfl infoSto) rfl ⟨Hb, .inl ⟨rfl, ?_⟩⟩
      rintro ⟨_, hh⟩
      exact absurd (HR.out.2 hh) (by simp)
  · have hop := open_bad s (w.alloc (.cells #[.pointer none] 97)) hs
    have HS : Aside (¬ s.size = 25600) := hs
    clear hs
    go_enter Tryd.func83, Tryd.ntmps83
    go_wp2_with fail
    generalize w.alloc (.cells #[.pointer none] 97) = w0 at *
    refine hop.mono ?_
    rintro e w1 ⟨rfl, rfl⟩
    clear hop
    have hc0 := hB0.cell 0
    have hf0 := hB0.frozen 0
    simp only [List.getElem?_cons_zero] at hc0
    have HB := hB0.set 0 (.pointer none)
    simp only [List.set_cons_zero] at HB
    have Hb : Below w.heap.size w (w1.setCell ⟨w.heap.size, 0, none⟩ (.pointer none)) := hb0.setCell (Nat.le_refl _) _
    go_wp2_with fail
    exact bodyPost_ret (results_ct Tryd.results83 (by rfl) (by rfl) HB.range Tryd.underlying97 rfl infoSto) rfl ⟨Hb, .inl ⟨rfl, fun hh => HS.out hh.1⟩⟩

set_option maxHeartbeats 2000000 in
theorem groveOpen_any (s : ByteArray) (w : World) (ht : Table w) (hg : 2 < w.heap.size) :
    Calls Tryd.prog 56 #[.string s] w fun e w' => Below w.heap.size w w' ∧ ((e = .returned (.tuple #[.pointer none, .int .i64 2]) ∧ ¬ (s.size = 25600 ∧ (Dk.of (bts s)).sound)) ∨ ∃ a, e = .returned (.tuple #[.pointer (some ⟨a, 0, none⟩), .int .i64 0]) ∧ s.size = 25600 ∧ (Dk.of (bts s)).sound ∧ Lg w w' a (Dk.of (bts s)) []) := by
  have hop0 := storeOpen_any s w ht hg
  clear ht hg
  generalize Dk.of (bts s) = D at *
  go_enter Tryd.func56, Tryd.ntmps56
  go_wp2_with fail
  refine hop0.mono ?_
  rintro e w1 ⟨hb1, ⟨rfl, hn⟩ | ⟨b, rfl, hb, hs, hso, hd1⟩⟩
  · clear hop0
    have HN : Aside (¬ (s.size = 25600 ∧ D.sound)) := hn
    clear hn
    have hb2 : Below w.heap.size w (w1.alloc (.cells #[.pointer none] 97)) := hb1.alloc hb1.size _
    go_wp2
    go_ret2
    exact ⟨hb2, .inl ⟨rfl, HN.out⟩⟩
  · clear hop0
    have HS : Aside (s.size = 25600 ∧ D.sound) := ⟨hs, hso⟩
    clear hs hso
    have hb2 : Below w.heap.size w (w1.alloc (.cells #[.pointer (some ⟨b, 0, none⟩)] 97)) := hb1.alloc hb1.size _
    have hB2 : Blk (w1.alloc (.cells #[.pointer (some ⟨b, 0, none⟩)] 97)) w1.heap.size 97 [.pointer (some ⟨b, 0, none⟩)] := Blk.new w1 _ _
    have hc2 := hB2.cell 0
    simp only [List.getElem?_cons_zero] at hc2
    have hd3 := (hd1.alloc (.cells #[.pointer (some ⟨b, 0, none⟩)] 97)).alloc (.cells #[.pointer (some ⟨b, 0, none⟩), .slice none 0 0] 99)
    have hA : Blk ((w1.alloc (.cells #[.pointer (some ⟨b, 0, none⟩)] 97)).alloc (.cells #[.pointer (some ⟨b, 0, none⟩), .slice none 0 0] 99)) (w1.heap.size + 1) 99 [.pointer (some ⟨b, 0, none⟩), .slice none 0 0] := by
      have := Blk.new (w1.alloc (.cells #[.pointer (some ⟨b, 0, none⟩)] 97)) 99 [.pointer (some ⟨b, 0, none⟩), .slice none 0 0]
      rw [show (w1.alloc (.cells #[.pointer (some ⟨b, 0, none⟩)] 97)).heap.size = w1.heap.size + 1 by simp] at this
      exact this
    have hlt := hd1.lt
    have hs1 := hb1.size
    go_wp2
    go_ret2
    refine ⟨hb2.alloc hb2.size _, .inr ⟨w1.heap.size + 1, rfl, HS.out.1, HS.out.2, ?_⟩⟩
    exact Lg.of_new ⟨hd3, hA, World.ownsRow_nil _ _ _ _, by omega, by simp [Value.ownBlock], by simp [Value.ownBlock], by simp [Value.ownBlock], fun k hk => by simp [Value.ownBlock] at hk⟩ (hb2.alloc hb2.size _) (by omega) hb
end Go.Proofs.YtlhohmlpcgbliaaDoor
namespace Go.Proofs.YtlhohmlpcgbliaaDoor
set_option maxRecDepth 100000
open Go.RowKit
attribute [local go_sem ↓] Go.wp_at_zero Go.wp_at_succ

set_option maxHeartbeats 2000000 in
theorem enP3_wp {c1 c2 c4 c5 c6 c7 c8 c9 c10 c11 c12 c13 c14 c15 c16 c17 c18 c19 c20 c21 c22 c23 c24 c25 c26 c27 c28 c29 c30 c31 c32 c33 c34 c35 c36 c37 c38 c39 c40 c41 c42 : Value} (b jb cc f : Nat) (p : Option Addr) (ss : List ByteArray) (fv : Value) (D : Dk) (w : World) (Q : Exit → Act → World → Prop) (h : DiskAt w b fv D) (hj : Blk w jb 126 [.int .i64 (f : Int), .slice p ss.length cc]) (hjb : jb ≠ b) (hjf : fv.ownBlock ≠ some jb)
    (hS : Strs w (.slice p ss.length cc) ss) (hz : ∀ s ∈ ss, s.size ≤ 40) (hl : ss.length ≤ 76) (hf : f ≤ 76) (hfe : D.fre.length < 900000)
    (hQ : ∀ (u15 u16 u17 u18 u19 u20 u21 u22 : Value) (fv' : Value) (w' : World), DiskAt w' b fv' (D.rowWrite 6 3 f (packs ss)) → Fr b fv.ownBlock fv'.ownBlock w w' → Q .normal ⟨#[.pointer (some ⟨b, 0, none⟩), c1, c2, .pointer (some ⟨jb, 0, none⟩), c4, c5, c6, c7, c8, c9, c10, c11, c12, c13, c14, u15, u16, u17, u18, u19, u20, u21, u22, c23, c24, c25, c26, c27, c28, c29, c30, c31, c32, c33, c34, c35, c36, c37, c38, c39, c40, c41, c42], []⟩ w') :
    Code.wp Tryd.prog (rgn Tryd.f103 3) Q ⟨#[.pointer (some ⟨b, 0, none⟩), c1, c2, .pointer (some ⟨jb, 0, none⟩), c4, c5, c6, c7, c8, c9, c10, c11, c12, c13, c14, c15, c16, c17, c18, c19, c20, c21, c22, c23, c24, c25, c26, c27, c28, c29, c30, c31, c32, c33, c34, c35, c36, c37, c38, c39, c40, c41, c42], []⟩ w := by
  have hjc : w.cell? ⟨jb, 0, none⟩ = some (.int .i64 (f : Int)) ∧ w.cell? ⟨jb, 1, none⟩ = some (.slice p ss.length cc) := ⟨by rw [hj.cell]; rfl, by rw [hj.cell]; rfl⟩
  have hS0 : (fun wx : World => wx.cell? ⟨jb, 0, none⟩ = some (.int .i64 (f : Int)) ∧ wx.cell? ⟨jb, 1, none⟩ = some (.slice p ss.length cc)) w.drew := hjc
  have hltj := hj.lt
  have hSb : ∀ wx, Below w.heap.size w wx → wx.cell? ⟨jb, 0, none⟩ = some (.int .i64 (f : Int)) ∧ wx.cell? ⟨jb, 1, none⟩ = some (.slice p ss.length cc) := fun wx hx => ⟨by rw [hx.cell (p := ⟨jb, 0, none⟩) hltj]; exact hjc.1, by rw [hx.cell (p := ⟨jb, 1, none⟩) hltj]; exact hjc.2⟩
  conv => arg 2; whnf
  refine wp_region_s (fun wx : World => wx.cell? ⟨jb, 0, none⟩ = some (.int .i64 (f : Int)) ∧ wx.cell? ⟨jb, 1, none⟩ = some (.slice p ss.length cc)) (by kernel_rfl) ?_
  refine wpS_pure (k := 1) (v := .pointer (some ⟨b, 0, none⟩)) (by rfl) (by kernel_rfl) (by kernel_rfl) (by kernel_rfl) (by rfl) (some 16) (by rfl) hS0 (fun _ _ => by kernel_rfl) ?_
  simp only [Act.put, List.setIfInBounds_toArray, List.set_cons_succ, List.set_cons_zero]
  refine wpS_pure (k := 2) (v := .pointer (some ⟨jb, 0, none⟩)) (by rfl) (by kernel_rfl) (by kernel_rfl) (by kernel_rfl) (by rfl) (some 17) (by rfl) hS0 (fun _ _ => by kernel_rfl) ?_
  simp only [Act.put, List.setIfInBounds_toArray, List.set_cons_succ, List.set_cons_zero]
  refine wpS_pure (k := 3) (v := .int .i64 (f : Int)) (by rfl) (by kernel_rfl) (by kernel_rfl) (by kernel_rfl) (by rfl) (some 18) (by rfl) hS0 (fun wx hx => exec_ld (by rfl) (by rfl) (loadInt wx jb 0 _ hx.1)) ?_
  simp only [Act.put, List.setIfInBounds_toArray, List.set_cons_succ, List.set_cons_zero]
  refine wpS_pure (k := 4) (v := .pointer (some ⟨jb, 1, none⟩)) (by rfl) (by kernel_rfl) (by kernel_rfl) (by kernel_rfl) (by rfl) (some 19) (by rfl) hS0 (fun _ _ => by kernel_rfl) ?_
  simp only [Act.put, List.setIfInBounds_toArray, List.set_cons_succ, List.set_cons_zero]
  refine wpS_pure (k := 5) (v := .slice p ss.length cc) (by rfl) (by kernel_rfl) (by kernel_rfl) (by kernel_rfl) (by rfl) (some 20) (by rfl) hS0 (fun wx hx => exec_ld (by rfl) (by rfl) (loadStrs wx jb 1 _ _ _ hx.2)) ?_
  simp only [Act.put, List.setIfInBounds_toArray, List.set_cons_succ, List.set_cons_zero]
  have hb0 : Below w.heap.size w w.drew := (Below.refl w.heap.size w).drew
  refine wpS_one (i := 0) (by kernel_rfl) (opS_call (f := 95) (vs := #[]) (by rfl) (by rfl) (some 15) (by rfl) (by kernel_rfl) ((bundles_any w.drew).mono ?_))
  rintro e w1 ⟨rfl, hb1⟩
  have hw1 : Below w.heap.size w w1 := hb0.trans hb1
  refine ⟨_, rfl, hSb w1 hw1, ?_⟩
  simp only [Act.put, List.setIfInBounds_toArray, List.set_cons_succ, List.set_cons_zero]
  refine wpS_one (i := 6) (by kernel_rfl) (opS_call (f := 122) (vs := #[.slice p ss.length cc]) (by rfl) (by rfl) (some 21) (by rfl) (by kernel_rfl) ((packed_any _ ss w1 (hS.below hw1) (by omega) hz).mono ?_))
  rintro e w2 ⟨rfl, hB2, hb2⟩
  have hw2 := hw1.trans (hb2.mono hw1.size)
  refine ⟨_, rfl, hSb w2 hw2, ?_⟩
  simp only [Act.put, List.setIfInBounds_toArray, List.set_cons_succ, List.set_cons_zero]
  have hdl := h.lt
  have hsz1 := hw1.size
  have hown : fv.ownBlock ≠ some w1.heap.size := fun e => by have := (h.row.lt _ e).2; omega
  have hrw := rowWrite3_any b w1.heap.size 0 ss.length 6 f fv D (ss.map packS) w2 (h.below hw2) (SA.of_blk hB2) hB2.lt (by omega) hown (fun s hs => by
    obtain ⟨x, hx, rfl⟩ := List.mem_map.1 hs
    have := packS_size (hz x hx)
    omega) (by simp) (by simp; omega) (by simp; omega) (by simp; omega)
  rw [List.length_map] at hrw
  refine wpS_one (i := 7) (by kernel_rfl) (opS_call (f := 121) (vs := #[rowV 6 3, .pointer (some ⟨b, 0, none⟩), .int .i64 (f : Int), .slice (some ⟨w1.heap.size, 0, none⟩) ss.length ss.length]) (by rfl) (by rfl) (some 22) (by rfl) (by kernel_rfl) (hrw.mono ?_))
  rintro e w3 ⟨rfl, fv3, h3, r3⟩
  have hjl2 : jb < w2.heap.size := Nat.lt_of_lt_of_le hltj hw2.size
  have hS3 := hSb w2 hw2
  refine ⟨_, rfl, ⟨by rw [World.cell?_of_block (a := ⟨jb, 0, none⟩) (r3.block jb hjl2 hjb hjf)]; exact hS3.1, by rw [World.cell?_of_block (a := ⟨jb, 1, none⟩) (r3.block jb hjl2 hjb hjf)]; exact hS3.2⟩, ?_⟩
  simp only [Act.put, List.setIfInBounds_toArray, List.set_cons_succ, List.set_cons_zero]
  refine wpAnyH_done (by kernel_rfl) ?_ _
  refine NoPanic.normal ?_
  exact hQ _ _ _ _ _ _ _ _ fv3 w3 h3 ((Fr.of_below hw2).trans r3)

set_option maxHeartbeats 4000000 in
theorem endP_any (b cc f : Nat) (p : Option Addr) (ss : List ByteArray) (fv : Value) (D : Dk) (w : World) (h : DiskAt w b fv D) (hS : Strs w (.slice p ss.length cc) ss) (hz : ∀ s ∈ ss, s.size ≤ 40) (hl : f + ss.length ≤ 76) (hfe : D.fre.length < 800000) (he : Env w b fv.ownBlock) :
    Calls Tryd.prog 103 #[.pointer (some ⟨b, 0, none⟩), jV f p ss.length cc] w fun e w' => e = .returned (.tuple #[]) ∧ ∃ fv', DiskAt w' b fv' (D.endJ f ss) ∧ Fr b fv.ownBlock fv'.ownBlock w w' := by
  have hb0 : Below w.heap.size w (w.alloc (.cells #[.int .i64 (f : Int), .slice p ss.length cc] 126)) := (Below.refl _ _).alloc (Nat.le_refl _) _
  have hJ0 : Blk (w.alloc (.cells #[.int .i64 (f : Int), .slice p ss.length cc] 126)) w.heap.size 126 [.int .i64 (f : Int), .slice p ss.length cc] := Blk.new w _ _
  have hlt := h.lt
  have hown := h.own_lt
  have h0 := h.below hb0
  have hS0 := hS.below hb0
  have he0 := he.below hb0
  have HE : Hid (D.endJ f ss = if D.ckN = f then ((D.put f ss).ckp (f + ss.length)).rmJ else D.rmJ) := rfl
  have hrl := rowWrite_len D 6 3 f (packs ss)
  rw [packs_len] at hrl
  have hgl := grwF_len (f + ss.length) (D.rowWrite 6 3 f (packs ss)) f (f + ss.length) 0 1 hl
  have HGR : Hid ((D.rowWrite 6 3 f (packs ss)).grow f (f + ss.length) = grwF (f + ss.length) (D.rowWrite 6 3 f (packs ss)) f (f + ss.length) 0 1) := rfl
  rw [← HGR.out] at hgl
  have hfl := ((D.rowWrite 6 3 f (packs ss)).grow f (f + ss.length)).flush_len
  have HP : Hid (D.put f ss = ((D.rowWrite 6 3 f (packs ss)).grow f (f + ss.length)).flush) := rfl
  have hck := readCheckpoint_any b fv D _ h0
  unfold jV
  go_enter Tryd.func103, Tryd.ntmps103
  go_wp2_with fail
  have hs0 : w.heap.size < (w.alloc (.cells #[.int .i64 (f : Int), .slice p ss.length cc] 126)).heap.size := by simp
  generalize w.alloc (.cells #[.int .i64 (f : Int), .slice p ss.length cc] 126) = w0 at *
  refine hck.mono ?_
  rintro e w1 ⟨rfl, hb1⟩
  clear hck
  have h1 := h0.below hb1
  have hJ1 := hJ0.below hb1 hJ0.lt
  have hS1 := hS0.below hb1
  have he1 := he0.below hb1
  have hs1 : w.heap.size < w1.heap.size := Nat.lt_of_lt_of_le hs0 hb1.size
  have r01 : Fr b fv.ownBlock fv.ownBlock w w1 := (Fr.of_below hb0).trans (Fr.of_below hb1)
  have hc0 := hJ1.cell 0
  have hc1 := hJ1.cell 1
  simp only [List.getElem?_cons_succ, List.getElem?_cons_zero] at hc0 hc1
  generalize strOf D.ckR = rt at *
  by_cases hq : D.ckN = f
  · rw [if_pos hq] at HE
    rw [hq]
    clear hq
    go_wp2_with fail
    refine enP3_wp b w.heap.size cc f p ss fv D w1 _ h1 hJ1 (by omega) hown hS1 hz (by omega) (by omega) (by omega) ?_
    intro u15 u16 u17 u18 u19 u20 u21 u22 fv2 w2 h2 r2
    generalize D.rowWrite 6 3 f (packs ss) = D2 at *
    have hJ2 := r2.blk hJ1 (by omega) hown
    have hown2 := r2.apart hs1 hown
    have he2 := he1.fr r2
    have hs2 : w.heap.size < w2.heap.size := Nat.lt_of_lt_of_le hs1 r2.size
    have R2 := r01.trans r2
    clear hJ1 hc0 hc1 h1 hS1 he1
    have hc0 := hJ2.cell 0
    have hc1 := hJ2.cell 1
    simp only [List.getElem?_cons_succ, List.getElem?_cons_zero] at hc0 hc1
    have hgt := growTiles_any b f (f + ss.length) fv2 D2 w2 h2 (by omega) hl (by omega) he2
    have hn9 : f + ss.length < 256 := by omega
    have hcn : ((f + ss.length : Nat) : Int) = (f : Int) + (ss.length : Int) := Int.natCast_add _ _
    generalize f + ss.length = n at *
    rw [hcn] at hgt
    go_wp2_with fail
    refine hgt.mono ?_
    rintro e w3 ⟨rfl, fv3, h3, r3⟩
    have he3 := he2.fr r3
    generalize D2.grow f n = D3 at *
    go_wp2_with fail
    refine (flush_any b fv3 D3 w3 h3).mono ?_
    rintro e w4 ⟨rfl, fv4, h4, r4⟩
    have he4 := he3.fr r4
    rw [← HP.out] at h4 hfl
    generalize D.put f ss = D4 at *
    have hsp := span_any b 0 n fv4 D4 w4 h4 (by omega) he4.table he4.lt
    rw [Nat.zero_add, hcn] at hsp
    have hss := span_size h4.ok 0 n (by omega)
    have HC : Hid (D4.ckp n = (D4.write 0 (ckSec n (bts (D4.span 0 n)))).flush) := rfl
    have hwc := fun wx (hx : Below w4.heap.size w4 wx) => writeCheckpoint_any b n (D4.span 0 n) fv4 D4 wx (h4.below hx) (by omega) (by omega) (by omega)
    rw [hcn] at hwc
    have hwl := Dk.write_len D4 0 (ckSec n (bts (D4.span 0 n)))
    have hwf := (D4.write 0 (ckSec n (bts (D4.span 0 n)))).flush_len
    rw [← HC.out] at hwf
    go_wp2_with fail
    refine hsp.mono ?_
    rintro e w5 ⟨rfl, hb5⟩
    go_wp2_with fail
    refine (hwc w5 hb5).mono ?_
    rintro e w6 ⟨rfl, fv6, h6, r6⟩
    rw [← HC.out] at h6
    generalize D4.ckp n = D6 at *
    go_wp2_with fail
    refine (removeJournal_any b fv6 D6 w6 h6 (by omega)).mono ?_
    rintro e w7 ⟨rfl, fv7, h7, r7⟩
    go_wp2
    go_end0
    exact ⟨rfl, fv7, by rw [HE.out]; exact h7, ((((R2.trans r3).trans r4).trans (Fr.of_below hb5)).trans r6).trans r7⟩
  · rw [if_neg hq] at HE
    have hq' : ¬ (D.ckN : Int) = (f : Int) := by omega
    generalize D.ckN = k at *
    go_wp2_with fail
    refine (removeJournal_any b fv D w1 h1 (by omega)).mono ?_
    rintro e w7 ⟨rfl, fv7, h7, r7⟩
    go_wp2
    go_end0
    exact ⟨rfl, fv7, by rw [HE.out]; exact h7, r01.trans r7⟩
end Go.Proofs.YtlhohmlpcgbliaaDoor
namespace Go.Proofs.YtlhohmlpcgbliaaDoor
set_option maxRecDepth 100000
open Go.RowKit
attribute [local go_sem ↓] Go.wp_at_zero Go.wp_at_succ

theorem jE_len (D : Dk) (n : Nat) : (D.jE n).length ≤ 12 := jents_len D n 12 0
theorem jE_siz {D : Dk} (h : D.ok) (n : Nat) : ∀ s ∈ D.jE n, s.size ≤ 40 := jents_siz h n 12 0 (by omega)
theorem Row.strs {w : World} {base : Nat} {v : Value} {ts : List ByteArray} (h : Row w base 9 v (strv ts)) : Strs w v ts := by
  by_cases h0 : ts.length = 0
  · obtain ⟨p, cap, rfl⟩ := row_slice h
    refine ⟨p, cap, rfl, fun i s hs => ?_⟩
    rw [List.eq_nil_of_length_eq_zero h0] at hs
    simp at hs
  · obtain ⟨g, cap, rfl, _, hcap, _, _, hlt, _⟩ := Row.form h (by rw [strv_length]; omega)
    have hsa := SA.of_row h (by omega)
    exact ⟨_, cap, by rw [strv_length], fun i s hs => ⟨g, 0, rfl, hsa i s hs⟩⟩

set_option maxHeartbeats 1000000 in
theorem pending_any (b : Nat) (fv : Value) (D : Dk) (w : World) (h : DiskAt w b fv D) :
    Calls Tryd.prog 100 #[stV b] w fun e w' => e = .returned (.bool (!decide (D.read 1 = zer))) ∧ Below w.heap.size w w' := by
  by_cases hz : D.read 1 = zer
  · rw [show (!decide (D.read 1 = zer)) = false by simp [hz]]
    exact pending_none b fv D w h hz
  · rw [show (!decide (D.read 1 = zer)) = true by simp [hz]]
    have hb0 : Below w.heap.size w (w.alloc (.cells #[.pointer (some ⟨b, 0, none⟩)] 97)) := (Below.refl _ _).alloc (Nat.le_refl _) _
    have hB0 : Blk (w.alloc (.cells #[.pointer (some ⟨b, 0, none⟩)] 97)) w.heap.size 97 [.pointer (some ⟨b, 0, none⟩)] := Blk.new w _ _
    have hc := hB0.cell 0
    simp only [List.getElem?_cons_zero] at hc
    have hrj := readJournal_some b fv D _ (h.below hb0) hz
    unfold stV
    clear hz
    go_enter Tryd.func100, Tryd.ntmps100
    go_wp2_with fail
    generalize w.alloc (.cells #[.pointer (some ⟨b, 0, none⟩)] 97) = w0 at *
    refine hrj.mono ?_
    rintro e w1 ⟨v, rfl, hrow, hb1⟩
    obtain ⟨p, cap, rfl⟩ := row_slice hrow
    have hb1' := hb0.trans (hb1.mono hb0.size)
    clear hrj hc hrow
    go_wp2
    go_ret
    exact ⟨rfl, hb1'.alloc hb1'.size _⟩

/-- The disk behind Recover. -/
def Dk.recv (D : Dk) : Dk := if D.read 1 = zer then D else D.endJ D.jF (D.jE D.jN)

set_option maxHeartbeats 2000000 in
theorem storeRecover_any (b : Nat) (fv : Value) (D : Dk) (w : World) (h : DiskAt w b fv D) (hl : D.jF + (D.jE D.jN).length ≤ 76) (hfe : D.fre.length < 800000) (he : Env w b fv.ownBlock) :
    Calls Tryd.prog 84 #[stV b] w fun e w' => e = .returned (.tuple #[]) ∧ ∃ fv', DiskAt w' b fv' D.recv ∧ Fr b fv.ownBlock fv'.ownBlock w w' := by
  have hb0 : Below w.heap.size w (w.alloc (.cells #[.pointer (some ⟨b, 0, none⟩)] 97)) := (Below.refl _ _).alloc (Nat.le_refl _) _
  have hB0 : Blk (w.alloc (.cells #[.pointer (some ⟨b, 0, none⟩)] 97)) w.heap.size 97 [.pointer (some ⟨b, 0, none⟩)] := Blk.new w _ _
  have hc := hB0.cell 0
  simp only [List.getElem?_cons_zero] at hc
  have hs0 : w.heap.size < (w.alloc (.cells #[.pointer (some ⟨b, 0, none⟩)] 97)).heap.size := by simp
  have h0 := h.below hb0
  have he0 := he.below hb0
  unfold stV
  by_cases hz : D.read 1 = zer
  · have HR : Aside (D.recv = D) := if_pos hz
    have hrj := readJournal_none b fv D _ h0 hz
    clear hz
    go_enter Tryd.func84, Tryd.ntmps84
    go_wp2_with fail
    generalize w.alloc (.cells #[.pointer (some ⟨b, 0, none⟩)] 97) = w0 at *
    refine hrj.mono ?_
    rintro e w1 ⟨rfl, hb1⟩
    have hb1' := hb0.trans (hb1.mono hb0.size)
    have hb2 : Below w.heap.size w (w1.alloc (.cells #[.int .i64 0, .slice none 0 0] 126)) := hb1'.alloc hb1'.size _
    have hd2 := (h0.below hb1).alloc (.cells #[.int .i64 0, .slice none 0 0] 126)
    clear hrj hc
    go_wp2
    go_end0
    exact ⟨rfl, fv, by rw [HR.out]; exact hd2, Fr.of_below hb2⟩
  · have HR : Aside (D.recv = D.endJ D.jF (D.jE D.jN)) := if_neg hz
    have hrj := readJournal_some b fv D _ h0 hz
    have hsz := jE_siz h.ok D.jN
    have hen := fun (cc : Nat) (p : Option Addr) (wx : World) (hx : Below (w.alloc (.cells #[.pointer (some ⟨b, 0, none⟩)] 97)).heap.size (w.alloc (.cells #[.pointer (some ⟨b, 0, none⟩)] 97)) wx) (hS : Strs wx (.slice p (D.jE D.jN).length cc) (D.jE D.jN)) => endP_any b cc D.jF p (D.jE D.jN) fv D wx (h0.below hx) hS hsz hl hfe (he0.below hx)
    clear hz hl hfe h he h0 he0 hsz
    generalize D.endJ D.jF (D.jE D.jN) = RR at *
    generalize D.jE D.jN = JE at *
    generalize D.jF = f at *
    go_enter Tryd.func84, Tryd.ntmps84
    go_wp2_with fail
    generalize w.alloc (.cells #[.pointer (some ⟨b, 0, none⟩)] 97) = w0 at *
    refine hrj.mono ?_
    rintro e w1 ⟨v, rfl, hrow, hb1⟩
    clear hrj hc
    obtain ⟨p, cap, rfl⟩ := row_slice hrow
    have hb2 : Below w0.heap.size w0 (w1.alloc (.cells #[.int .i64 (f : Int), .slice p JE.length cap] 126)) := hb1.alloc hb1.size _
    have hJ2 : Blk (w1.alloc (.cells #[.int .i64 (f : Int), .slice p JE.length cap] 126)) w1.heap.size 126 [.int .i64 (f : Int), .slice p JE.length cap] := Blk.new w1 _ _
    have hst : Strs (w1.alloc (.cells #[.int .i64 (f : Int), .slice p JE.length cap] 126)) (.slice p JE.length cap) JE := hrow.strs.below ((Below.refl _ _).alloc (Nat.le_refl _) _)
    have hB2 := hB0.below hb2 hs0
    have hen2 := hen cap p _ hb2 hst
    unfold jV at hen2
    clear hen hst hrow
    have hc0 := hB2.cell 0
    have hj0 := hJ2.cell 0
    have hj1 := hJ2.cell 1
    simp only [List.getElem?_cons_zero, List.getElem?_cons_succ] at hc0 hj0 hj1
    have HB2 : Aside (Below w.heap.size w (w1.alloc (.cells #[.int .i64 (f : Int), .slice p JE.length cap] 126))) := hb0.trans (hb2.mono hb0.size)
    go_wp2_with fail
    generalize w1.alloc (.cells #[.int .i64 (f : Int), .slice p JE.length cap] 126) = w2 at *
    refine hen2.mono ?_
    rintro e w3 ⟨rfl, fv3, h3, r3⟩
    clear hen2
    go_wp2
    go_end0
    exact ⟨rfl, fv3, by rw [HR.out]; exact h3, (Fr.of_below HB2.out).trans r3⟩

set_option maxHeartbeats 1000000 in
theorem logRecover_any {w : World} {a b : Nat} {fv wv : Value} {D : Dk} {W : List ByteArray} (h : LogAt w a b fv wv D W) (hf : D.failed = false) (hl : D.jF + (D.jE D.jN).length ≤ 76) (hfe : D.fre.length < 800000) (he : Env w b fv.ownBlock) :
    Calls Tryd.prog 57 #[.pointer (some ⟨a, 0, none⟩)] w fun e w' => ∃ c : Int, e = .returned (.int .i64 c) ∧ ((D.recv.failed = true ∧ c = 3) ∨ (D.recv.failed = false ∧ c = 0)) ∧ ∃ fv', LogAt w' a b fv' wv D.recv W ∧ FrL a b fv.ownBlock wv.ownBlock fv'.ownBlock wv.ownBlock w w' := by
  have hc := h.blk.cell 0
  simp only [List.getElem?_cons_zero] at hc
  have hd := down_any h
  rw [hf] at hd
  have hp := storeRecover_any b fv D w h.disk hl hfe he
  unfold stV at hp
  clear hl hfe he hf
  generalize D.recv = R at *
  go_enter Tryd.func57, Tryd.ntmps57
  go_wp2_with fail
  refine hd.mono ?_
  rintro e w1 ⟨rfl, rfl⟩
  go_wp2_with fail
  refine hp.mono ?_
  rintro e w2 ⟨rfl, fv2, hd2, hr2⟩
  have h2 := h.fr hr2 hd2
  have hdn := down_any h2
  clear hp hd hc
  go_wp2_with fail
  refine hdn.mono ?_
  rintro e w3 ⟨rfl, rfl⟩
  clear hdn
  have H2 : Aside (LogAt w3 a b fv2 wv R W ∧ FrL a b fv.ownBlock wv.ownBlock fv2.ownBlock wv.ownBlock w1 w3) := ⟨h2, FrL.of_fr hr2⟩
  clear h2 hd2 hr2
  generalize hrf : R.failed = rf at *
  have HF : Aside (R.failed = rf) := hrf
  clear hrf
  cases rf with
  | true =>
    go_wp2
    go_ret
    exact ⟨3, rfl, .inl ⟨by trivial, rfl⟩, fv2, H2.out⟩
  | false =>
    go_wp2
    go_ret
    exact ⟨0, rfl, .inr ⟨by trivial, rfl⟩, fv2, H2.out⟩
end Go.Proofs.YtlhohmlpcgbliaaDoor
namespace Go.Proofs.YtlhohmlpcgbliaaDoor
set_option maxRecDepth 100000
open Go.RowKit

/-- The disk holds the log of these entries; a journal may be pending. -/
structure Hold1 (D : Dk) (E : List ByteArray) : Prop where
  nf : D.nf
  ok : D.ok
  fre : D.fre = []
  len : E.length ≤ 64
  siz : ∀ s ∈ E, s.size ≤ 40
  ck : D.read 0 = ckSec E.length (bts (mth (E.map leafS)))
  ent : ∀ i s, E[i]? = some s → unpL (D.slot 6 3 i) = some (bts s)
  til : ∀ k, Tiled D (E.map leafS) E.length k
theorem Holds.one {D : Dk} {E : List ByteArray} (h : Holds D E) : Hold1 D E := ⟨h.nf, h.ok, h.fre, h.len, h.siz, h.ck, h.ent, h.til⟩
theorem Hold1.all {D : Dk} {E : List ByteArray} (h : Hold1 D E) (hz : D.read 1 = zer) : Holds D E := ⟨h.nf, h.ok, h.fre, h.len, h.siz, h.ck, hz, h.ent, h.til⟩
theorem Hold1.ckN {D : Dk} {E : List ByteArray} (h : Hold1 D E) : D.ckN = E.length := by
  unfold Dk.ckN
  rw [h.ck]
  exact (ck_n (by rw [bts_length, mth32])).1
theorem Hold1.ckR {D : Dk} {E : List ByteArray} (h : Hold1 D E) : D.ckR = bts (mth (E.map leafS)) := by
  unfold Dk.ckR
  rw [h.ck]
  exact (ck_n (by rw [bts_length, mth32])).2
theorem Hold1.entry {D : Dk} {E : List ByteArray} (h : Hold1 D E) {i : Nat} {s : ByteArray} (hs : E[i]? = some s) : D.entry i = s := by
  unfold Dk.entry
  rw [h.ent i s hs, Option.getD_some, strOf_bts]

/-- The journal is removed. -/
theorem rmJ_spec {D : Dk} {E : List ByteArray} (h : Hold1 D E) : Holds D.rmJ E := by
  have hp := put_one h.nf h.ok h.fre (i := 1) (s := zer) (by omega) zer_sec
  unfold Dk.rmJ
  refine ⟨hp.1, hp.2.1, hp.2.2.1, h.len, h.siz, ?_, ?_, ?_, ?_⟩
  · rw [hp.2.2.2 0 (by omega), if_neg (by omega)]; exact h.ck
  · rw [hp.2.2.2 1 (by omega), if_pos rfl]
  · intro i s hs
    have hi : i < E.length := (List.getElem?_eq_some_iff.1 hs).1
    have := h.len
    rw [slot_of_read (D := D) (by rw [hp.2.2.2 _ (by omega), if_neg (by omega)])]
    exact h.ent i s hs
  · intro k i hi
    have h0 := h.len
    have h1 := tile_sec (k := k) (i := i) (by omega)
    have h2 := (tileAt_le (k + 1)).1
    have h3 := tile_low k
    rw [slot_of_read (D := D) (by rw [hp.2.2.2 _ (by omega), if_neg (by omega)])]
    exact h.til k i hi
/-- What the journal tells of is added. -/
theorem endJ_spec {D : Dk} {E W : List ByteArray} (h : Hold1 D E) (hz : ∀ s ∈ W, s.size ≤ 40) (hl : E.length + W.length ≤ 64) : Holds (D.endJ E.length W) (E ++ W) := by
  unfold Dk.endJ
  rw [if_pos h.ckN]
  have hk4 := keys_nil h.fre
  have hr := rowWrite_spec (start := 6) (each := 3) (.inl rfl) D E.length (packs W) h.nf h.ok (by rw [hk4]; simp) (by rw [hk4]; simp) (packs_ok hz) (by rw [packs_len]; omega) (by rw [h.fre, packs_len]; simp; omega)
  have hEW : (E ++ W).length = E.length + W.length := List.length_append
  have rent : ∀ i s, (E ++ W)[i]? = some s → i < E.length + W.length → unpL ((D.rowWrite 6 3 E.length (packs W)).slot 6 3 i) = some (bts s) := by
    intro i s hs hi
    rw [hr.slot, packs_len]
    by_cases h1 : i < E.length
    · rw [List.getElem?_append_left h1] at hs
      rw [if_neg (by omega)]
      exact h.ent i s hs
    · rw [List.getElem?_append_right (by omega)] at hs
      rw [if_pos (by omega), packs_get hs]
      exact unp_pad (hz s (List.mem_of_getElem? hs))
  have rread : ∀ j, (j < 6 ∨ 28 ≤ j) → (D.rowWrite 6 3 E.length (packs W)).read j = D.read j := fun j hj => by
    apply hr.read
    rw [packs_len]
    by_cases hw0 : W.length = 0
    · exact .inl (List.eq_nil_of_length_eq_zero (by rw [packs_len]; exact hw0))
    · right
      omega
  have rtil : ∀ k, Tiled (D.rowWrite 6 3 E.length (packs W)) ((E ++ W).map leafS) E.length k := fun k i hi => by
    have h3 := tile_low k
    rw [slot_of_read (rread _ (.inr (by omega))), h.til k i hi, List.map_append, drop_app]
    have : (i + 1) * 4 ^ k = i * 4 ^ k + 4 ^ k := Nat.succ_mul _ _
    rw [List.length_map]
    omega
  have rkeys : ∀ x ∈ (D.rowWrite 6 3 E.length (packs W)).keys, x < 28 := fun x hx => by
    rcases hr.keys x hx with h1 | ⟨hne, _, h3⟩
    · rw [hk4] at h1; simp at h1
    · rw [packs_len] at h3
      have : 0 < W.length := by
        rw [← packs_len]
        cases hq : packs W with
        | nil => exact absurd hq hne
        | cons _ _ => simp
      omega
  have hfre := hr.fre
  rw [h.fre, packs_len] at hfre
  have hg := grow_spec (E := E ++ W) (first := E.length) (n := E.length + W.length) (by omega) hl (by rw [hEW]; exact Nat.le_refl _) _ hr.nf hr.ok hr.nd rkeys rent rtil (by simp at hfre; omega)
  unfold Dk.put
  generalize D.rowWrite 6 3 E.length (packs W) = D5 at *
  generalize D5.grow E.length (E.length + W.length) = D6 at *
  have hfl := hg.nf.flush
  have hok7 := hg.ok.flush
  have hrd7 := hg.nf.flush_read hg.ok hg.nd
  generalize D6.flush = D7 at *
  have til7 : ∀ k, Tiled D7 ((E ++ W).map leafS) (E.length + W.length) k := fun k i hi => by
    have h1 := tile_sec (k := k) (i := i) (by omega)
    have h2 := (tileAt_le (k + 1)).1
    rw [slot_of_read (hrd7 _ (by omega))]
    exact hg.tiled k i hi
  have hroot : D7.span 0 (E.length + W.length) = mth ((E ++ W).map leafS) := by
    rw [span_mth til7 (by rw [List.length_map, hEW]; exact Nat.le_refl _) (E.length + W.length) (E.length + W.length) 0 6 (Nat.le_refl _) (by show _ ≤ 64; exact hl) (Nat.dvd_zero _) (by omega), List.drop_zero, List.take_of_length_le (by rw [List.length_map, hEW]; exact Nat.le_refl _)]
  have low7 : ∀ j, j < 28 → D7.read j = D5.read j := fun j hj => by rw [hrd7 j (by omega), hg.read j hj]
  unfold Dk.ckp
  rw [hroot]
  have h32 := mth32 (E := E ++ W)
  have hp8 := put_one hfl.1 hok7 hfl.2 (i := 0) (s := ckSec (E.length + W.length) (bts (mth ((E ++ W).map leafS)))) (by omega) (ckSec_sec (by omega) (by omega))
  generalize (D7.write 0 (ckSec (E.length + W.length) (bts (mth ((E ++ W).map leafS))))).flush = D8 at *
  unfold Dk.rmJ
  have hp9 := put_one hp8.1 hp8.2.1 hp8.2.2.1 (i := 1) (s := zer) (by omega) zer_sec
  generalize (D8.write 1 zer).flush = D9 at *
  have hi9 : ∀ j, 2 ≤ j → j < 200 → D9.read j = D7.read j := fun j h1 h2 => by
    rw [hp9.2.2.2 j h2, if_neg (by omega), hp8.2.2.2 j h2, if_neg (by omega)]
  refine ⟨hp9.1, hp9.2.1, hp9.2.2.1, by rw [hEW]; exact hl, ?_, ?_, ?_, ?_, ?_⟩
  · intro s hs
    rcases List.mem_append.1 hs with h1 | h1
    · exact h.siz s h1
    · exact hz s h1
  · rw [hp9.2.2.2 0 (by omega), if_neg (by omega), hp8.2.2.2 0 (by omega), if_pos rfl, hEW]
  · rw [hp9.2.2.2 1 (by omega), if_pos rfl]
  · intro i s hs
    have hi : i < E.length + W.length := by rw [← hEW]; exact (List.getElem?_eq_some_iff.1 hs).1
    rw [slot_of_read (hi9 _ (by omega) (by omega)), slot_of_read (low7 _ (by omega))]
    exact rent i s hs hi
  · intro k i hi
    rw [hEW] at hi
    have h1 := tile_sec (k := k) (i := i) (by omega)
    have h2 := (tileAt_le (k + 1)).1
    have h3 := tile_low k
    rw [slot_of_read (hi9 _ (by omega) (by omega))]
    exact til7 k i hi

theorem endJ_done {D : Dk} {E : List ByteArray} (h : Hold1 D E) {f : Nat} {W : List ByteArray} (hf : f ≠ E.length) : Holds (D.endJ f W) E := by
  unfold Dk.endJ
  rw [if_neg (by rw [h.ckN]; omega)]
  exact rmJ_spec h
theorem recv_spec {D : Dk} {E : List ByteArray} (h : Hold1 D E) (hf : D.fits E.length) : ∃ E', Holds D.recv E' ∧ (E' = E ∨ (E' = E ++ D.jE D.jN ∧ D.read 1 ≠ zer ∧ D.jF = E.length)) := by
  unfold Dk.recv
  by_cases hz : D.read 1 = zer
  · rw [if_pos hz]
    exact ⟨E, h.all hz, .inl rfl⟩
  · rw [if_neg hz]
    rcases hf with h0 | ⟨h1, h2, h3⟩
    · exact absurd h0 hz
    · by_cases he : D.jF = E.length
      · rw [he]
        exact ⟨E ++ D.jE D.jN, endJ_spec h (jE_siz h.ok _) (by omega), .inr ⟨rfl, hz, rfl⟩⟩
      · exact ⟨E, endJ_done h he, .inl rfl⟩
/-- A disk that holds a log is sound. -/
theorem Hold1.sound {D : Dk} {E : List ByteArray} (h : Hold1 D E) (hf : D.fits E.length) : D.sound := by
  have hn := h.ckN
  have hr := h.ckR
  unfold Dk.sound
  rw [hn, hr, strOf_bts]
  refine ⟨h.len, h.ck, ?_, ?_, hf⟩
  · intro l _ i hi
    have hp : 0 < 4 ^ l := Nat.pow_pos (by omega)
    have h1 : (i + 1) * 4 ^ l ≤ E.length := (Nat.le_div_iff_mul_le hp).1 hi
    refine ⟨?_, ?_⟩
    · cases l with
      | zero =>
        rw [Dk.hashF, h.ent i _ (List.getElem?_eq_getElem (by simpa using hi))]
        rfl
      | succ l => rfl
    · rw [h.til l i h1, hashB_mth (fun i s hs _ => h.ent i s hs) (Nat.le_refl _) l i (fun k _ => h.til k) h1, strOf_bts]
  · have h1 := span_mth h.til (by simp) E.length E.length 0 6 (Nat.le_refl _) (by have := h.len; simpa using this) (by simp) (by simp)
    rw [h1, List.drop_zero, List.take_of_length_le (by simp)]
end Go.Proofs.YtlhohmlpcgbliaaDoor
