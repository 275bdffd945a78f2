import Derived.Test.YtlhohmlpcgbliaaDoorZV6
import Derived.Laws.StructEq
import Derived.Test.YtlhohmlpcgbliaaDoorZV2
import Derived.Test.YtlhohmlpcgbliaaDoorZQ3
namespace Go.Proofs.YtlhohmlpcgbliaaDoor
set_option maxRecDepth 100000
open Go.RowKit
attribute [local go_sem ↓] Go.wp_at_zero Go.wp_at_succ

section
variable {P : Program} {ops : Array Oper} {Q : Exit → Act → World → Prop} {S : World → Prop}
end


end Go.Proofs.YtlhohmlpcgbliaaDoor
namespace Go.Proofs.YtlhohmlpcgbliaaDoor
set_option maxRecDepth 100000
open Go.RowKit
attribute [local go_sem ↓] Go.wp_at_zero Go.wp_at_succ

end Go.Proofs.YtlhohmlpcgbliaaDoor
namespace Go.Proofs.YtlhohmlpcgbliaaDoor
set_option maxRecDepth 100000
open Go.RowKit
attribute [local go_sem ↓] Go.wp_at_zero Go.wp_at_succ

theorem flat2_get : ∀ (ps : List (ByteArray × ByteArray)) (k : Nat) (a b : ByteArray), ps[k]? = some (a, b) → (flat2 ps)[k * 2]? = some (.string a) ∧ (flat2 ps)[k * 2 + 1]? = some (.string b) := by
  intro ps
  induction ps with
  | nil => intro k a b h; simp at h
  | cons p r ih =>
    intro k a b h
    have e : flat2 (p :: r) = .string p.1 :: .string p.2 :: flat2 r := rfl
    rw [e]
    cases k with
    | zero =>
      have : p = (a, b) := by simpa using h
      subst this
      exact ⟨rfl, rfl⟩
    | succ k =>
      have := ih k a b (by simpa using h)
      rw [show (k + 1) * 2 = k * 2 + 1 + 1 by omega, show k * 2 + 1 + 1 + 1 = (k * 2 + 1) + 1 + 1 by omega]
      simpa using this

theorem Row2.form {w : World} {base : Nat} {v : Value} {ps : List (ByteArray × ByteArray)} (h : Row2 w base v ps) (h0 : 0 < ps.length) :
    ∃ g cap, v = .slice (some ⟨g, 0, none⟩) ps.length cap ∧ base ≤ g ∧ g < w.heap.size ∧ ∀ k a b, ps[k]? = some (a, b) → w.cell? ⟨g, k * 2, none⟩ = some (.string a) ∧ w.cell? ⟨g, k * 2 + 1, none⟩ = some (.string b) := by
  obtain ⟨h1, h2⟩ := h
  rcases h2 with ⟨_, h3⟩ | ⟨g, cap, cur, rfl, hb, hg, hn, hm, hs, ht⟩
  · omega
  · refine ⟨g, cap, rfl, hb, (Array.getElem?_eq_some_iff.1 hg).1, fun k a b hk => ?_⟩
    have hk1 : k < ps.length := (List.getElem?_eq_some_iff.1 hk).1
    obtain ⟨e1, e2⟩ := flat2_get ps k a b hk
    rw [← ht, List.getElem?_take_of_lt (by omega)] at e1 e2
    constructor
    · simp [World.cell?, hg] at e1 ⊢; exact e1
    · simp [World.cell?, hg] at e2 ⊢; exact e2

end Go.Proofs.YtlhohmlpcgbliaaDoor
namespace Go.Proofs.YtlhohmlpcgbliaaDoor
set_option maxRecDepth 100000
open Go.RowKit
attribute [local go_sem ↓] Go.wp_at_zero Go.wp_at_succ

end Go.Proofs.YtlhohmlpcgbliaaDoor
namespace Go.Proofs.YtlhohmlpcgbliaaDoor
set_option maxRecDepth 100000
open Go.RowKit
attribute [local go_sem ↓] Go.wp_at_zero Go.wp_at_succ

theorem RawI.below {w w' : World} {v : Value} (h : RawI w v) (hb : Below w.heap.size w w') : RawI w' v := by
  obtain ⟨p, n, c, rfl, h⟩ := h
  refine ⟨p, n, c, rfl, fun i hi => ?_⟩
  obtain ⟨b, o, z, e, hc, h1, h2⟩ := h i hi
  exact ⟨b, o, z, e, by rw [hb.cell (World.block_lt_of_cell? _ _ hc)]; exact hc, h1, h2⟩

end Go.Proofs.YtlhohmlpcgbliaaDoor
namespace Go.Proofs.YtlhohmlpcgbliaaDoor
set_option maxRecDepth 100000
open Go.RowKit
attribute [local go_sem ↓] Go.wp_at_zero Go.wp_at_succ

/-- A list of raw numbers, and the group sizes that they tell. -/
def RawG (w : World) (gv : Value) (g : Nat → Nat) : Prop := ∃ p rn rc, gv = .slice p rn rc ∧ (∀ k, k < rn → ∃ gb go' cv, p = some ⟨gb, go', none⟩ ∧ w.cell? ⟨gb, go' + k, none⟩ = some (.int .i64 cv) ∧ -9223372036854775808 ≤ cv ∧ cv ≤ 9223372036854775807 ∧ g k = 1 + pickV cv 12) ∧ ∀ k, rn ≤ k → g k = 12
theorem RawG.below {w w' : World} {v : Value} {g : Nat → Nat} (h : RawG w v g) (hb : Below w.heap.size w w') : RawG w' v g := by
  obtain ⟨p, rn, rc, rfl, hraw, hg⟩ := h
  refine ⟨p, rn, rc, rfl, fun k hk => ?_, hg⟩
  obtain ⟨gb, go', cv, h1, h2, h3⟩ := hraw k hk
  exact ⟨gb, go', cv, h1, by rw [hb.cell (World.block_lt_of_cell? _ _ h2)]; exact h2, h3⟩

set_option maxHeartbeats 2000000 in
theorem grownNil_any (w : World) (ht : Table w) (hg : 2 < w.heap.size) :
    Calls Tryd.prog 35 #[.slice none 0 0, .slice none 0 0] w fun e w' => ∃ (a b : Nat), e = .returned (.pointer (some ⟨a, 0, none⟩)) ∧ LogAt w' a b (.slice none 0 0) (.slice none 0 0) Dk.fresh [] ∧ Below w.heap.size w w' ∧ w.heap.size ≤ a ∧ w.heap.size ≤ b := by
  have hnew := groveNew_any w ht hg
  go_enter Tryd.func35, Tryd.ntmps35
  go_wp2_with fail
  refine hnew.mono ?_
  rintro e w1 ⟨a, b, rfl, ha, hb, hL1, hb1⟩
  clear hnew
  go_wp2_with fail
  go_loopw [0, 6] (fun l _ wr => l = .slice none 0 0 ∧ wr = w1) (fun _ _ _ => 0)
  case atStart => exact ⟨rfl, rfl⟩
  case round =>
    obtain ⟨rfl, rfl⟩ := hrel
    go_wp2
    go_ret
    exact ⟨a, b, rfl, hL1, hb1, ha, hb⟩
end Go.Proofs.YtlhohmlpcgbliaaDoor
namespace Go.Proofs.YtlhohmlpcgbliaaDoor
set_option maxRecDepth 100000
open Go.RowKit
attribute [local go_sem ↓] Go.wp_at_zero Go.wp_at_succ

end Go.Proofs.YtlhohmlpcgbliaaDoor
namespace Go.Proofs.YtlhohmlpcgbliaaDoor
set_option maxRecDepth 100000
open Go.RowKit
attribute [local go_sem ↓] Go.wp_at_zero Go.wp_at_succ

end Go.Proofs.YtlhohmlpcgbliaaDoor
namespace Go.Proofs.YtlhohmlpcgbliaaDoor
set_option maxRecDepth 100000
open Go.RowKit

end Go.Proofs.YtlhohmlpcgbliaaDoor
namespace Go.Proofs.YtlhohmlpcgbliaaDoor
set_option maxRecDepth 100000
open Go.RowKit
attribute [local go_sem ↓] Go.wp_at_zero Go.wp_at_succ


end Go.Proofs.YtlhohmlpcgbliaaDoor
namespace Go.Proofs.YtlhohmlpcgbliaaDoor
set_option maxRecDepth 100000
open Go.RowKit
attribute [local go_sem ↓] Go.wp_at_zero Go.wp_at_succ

end Go.Proofs.YtlhohmlpcgbliaaDoor
namespace Go.Proofs.YtlhohmlpcgbliaaDoor
set_option maxRecDepth 100000
open Go.RowKit
attribute [local go_sem ↓] Go.wp_at_zero Go.wp_at_succ

/-- Included answers so of every such list. -/
def InclAs (w0 : World) (leaf root : ByteArray) (i n : Nat) (l : List ByteArray) (r : Bool) : Prop := ∀ wx v, Below w0.heap.size w0 wx → Lst wx v l → Calls Tryd.prog 23 #[.string leaf, .int .i64 (i : Int), .int .i64 (n : Int), v, .string root] wx fun e w' => e = .returned (.bool r) ∧ Below wx.heap.size wx w'

/-- Extends answers so of every such list. -/
def ExtAs (w0 : World) (old root : ByteArray) (m n : Nat) (l : List ByteArray) (r : Bool) : Prop := ∀ wx v, Below w0.heap.size w0 wx → Lst wx v l → Calls Tryd.prog 24 #[.int .i64 (m : Int), .int .i64 (n : Int), .string old, .string root, v] wx fun e w' => e = .returned (.bool r) ∧ Below wx.heap.size wx w'

/-- What the rest of Shown hangs on. -/
structure ShH (w0 w : World) (i m n : Nat) (leaf root old other : ByteArray) (pv qv : Value) (P L : List ByteArray) (B : Bool) (base : Nat) : Prop where
  row : Row w base 9 pv (strv P)
  lq : Lst w qv L
  b0 : w0.heap.size ≤ base
  bw : base ≤ w.heap.size
  len : P.length ≤ 64
  m1 : 1 ≤ m
  mn : m ≤ n
  n64 : n ≤ 64
  bel : Below w0.heap.size w0 w
  inc : InclAs w0 leaf root i n (P ++ [other]) false
  inc2 : other ≠ root → InclAs w0 leaf other i n P false
  ext2 : other ≠ root → ExtAs w0 old other m n L false
  ext3 : ExtAs w0 other root m n L B
  np : other ≠ old → B = true → m ≠ n → m &&& (m - 1) = 0

theorem ShH.below {w0 w w' : World} {i m n : Nat} {leaf root old other : ByteArray} {pv qv : Value} {P L : List ByteArray} {B : Bool} {base : Nat} (h : ShH w0 w i m n leaf root old other pv qv P L B base) (hb : Below w.heap.size w w') : ShH w0 w' i m n leaf root old other pv qv P L B base :=
  ⟨h.row.below hb (Nat.le_refl _), h.lq.below hb, h.b0, Nat.le_trans h.bw hb.size, h.len, h.m1, h.mn, h.n64, h.bel.trans (hb.mono h.bel.size), h.inc, h.inc2, h.ext2, h.ext3, h.np⟩


end Go.Proofs.YtlhohmlpcgbliaaDoor
namespace Go.Proofs.YtlhohmlpcgbliaaDoor
set_option maxRecDepth 100000
open Go.RowKit
attribute [local go_sem ↓] Go.wp_at_zero Go.wp_at_succ

end Go.Proofs.YtlhohmlpcgbliaaDoor
namespace Go.Proofs.YtlhohmlpcgbliaaDoor
set_option maxRecDepth 100000
open Go.RowKit
attribute [local go_sem ↓] Go.wp_at_zero Go.wp_at_succ

end Go.Proofs.YtlhohmlpcgbliaaDoor
namespace Go.Proofs.YtlhohmlpcgbliaaDoor
set_option maxRecDepth 100000
open Go.RowKit
attribute [local go_sem ↓] Go.wp_at_zero Go.wp_at_succ

set_option maxHeartbeats 1000000 in
theorem fits_none (b : Nat) (n : Int) (fv : Value) (D : Dk) (w : World) (h : DiskAt w b fv D) (hz : D.read 1 = zer) :
    Calls Tryd.prog 130 #[.pointer (some ⟨b, 0, none⟩), .int .i64 n] w fun e w' => e = .returned (.bool true) ∧ Below w.heap.size w w' := by
  have hrj := readJournal_none b fv D w h hz
  clear hz
  go_enter Tryd.func130, Tryd.ntmps130
  go_wp2_with fail
  refine hrj.mono ?_
  rintro e w1 ⟨rfl, hb1⟩
  go_wp2
  go_ret
  exact ⟨rfl, hb1.alloc hb1.size _⟩
end Go.Proofs.YtlhohmlpcgbliaaDoor
namespace Go.Proofs.YtlhohmlpcgbliaaDoor
set_option maxRecDepth 100000
open Go.RowKit
attribute [local go_sem ↓] Go.wp_at_zero Go.wp_at_succ

set_option maxHeartbeats 1000000 in
theorem logBytes_any {w : World} {a b : Nat} {fv wv : Value} {D : Dk} {W : List ByteArray} (h : LogAt w a b fv wv D W) : Calls Tryd.prog 44 #[.pointer (some ⟨a, 0, none⟩)] w fun e w' => e = .returned (.string (strOf D.las.flatten)) ∧ Below w.heap.size w w' := by
  have hc := h.blk.cell 0
  simp only [List.getElem?_cons_zero] at hc
  have hd := none_any h
  have hp := bytes_any b fv D w h.disk
  generalize strOf D.las.flatten = s at *
  go_enter Tryd.func44, Tryd.ntmps44
  go_wp2_with fail
  refine hd.mono ?_
  rintro e w1 ⟨rfl, rfl⟩
  go_wp2_with fail
  refine hp.mono ?_
  rintro e w2 ⟨rfl, hb2⟩
  go_wp2
  go_ret
  exact ⟨rfl, hb2⟩
set_option maxHeartbeats 1000000 in
theorem logActs_any {w : World} {a b : Nat} {fv wv : Value} {D : Dk} {W : List ByteArray} (h : LogAt w a b fv wv D W) : Calls Tryd.prog 45 #[.pointer (some ⟨a, 0, none⟩)] w fun e w' => e = .returned (.int .i64 D.acts) ∧ w' = w := by
  have hc := h.blk.cell 0
  simp only [List.getElem?_cons_zero] at hc
  have hd := none_any h
  have hp := acts_any b fv D w h.disk
  generalize D.acts = s at *
  go_enter Tryd.func45, Tryd.ntmps45
  go_wp2_with fail
  refine hd.mono ?_
  rintro e w1 ⟨rfl, rfl⟩
  go_wp2_with fail
  refine hp.mono ?_
  rintro e w2 ⟨rfl, rfl⟩
  go_wp2
  go_ret
  exact ⟨rfl, rfl⟩
end Go.Proofs.YtlhohmlpcgbliaaDoor
namespace Go.Proofs.YtlhohmlpcgbliaaDoor
set_option maxRecDepth 100000
open Go.RowKit
attribute [local go_sem ↓] Go.wp_at_zero Go.wp_at_succ

set_option maxHeartbeats 2000000 in
theorem logFlush_down {w : World} {a b : Nat} {fv wv : Value} {D : Dk} {W : List ByteArray} (h : LogAt w a b fv wv D W) (hf : D.failed = false) (hz1 : D.read 1 = zer) (hz : ∀ s ∈ W, s.size ≤ 40) (hl : D.ckN + W.length ≤ 76) (hfe : D.fre.length < 700000) (he : Env w b fv.ownBlock) (hw0 : 0 < W.length) (hok : (D.add W).failed = true) :
    Calls Tryd.prog 42 #[.pointer (some ⟨a, 0, none⟩)] w fun e w' => e = .returned (.tuple #[.int .i64 0, .int .i64 3]) ∧ ∃ fv', LogAt w' a b fv' wv (D.add W) W ∧ FrL a b fv.ownBlock wv.ownBlock fv'.ownBlock wv.ownBlock w w' := by
  have hrf := refused_ok h hf hz1
  clear hz1 hf
  go_enter Tryd.func42, Tryd.ntmps42
  go_wp2_with fail
  refine hrf.mono ?_
  rintro e w1 ⟨rfl, hb1⟩
  clear hrf
  have h1 := h.below hb1
  have he1 := he.below hb1
  have R1 : FrL a b fv.ownBlock wv.ownBlock fv.ownBlock wv.ownBlock w w1 := FrL.of_below hb1
  have hc0 := h1.blk.cell 0
  have hc1 := h1.blk.cell 1
  simp only [List.getElem?_cons_zero, List.getElem?_cons_succ] at hc0 hc1
  obtain ⟨p, cap, hwv⟩ := h1.wv
  rw [hwv] at hc1
  obtain ⟨g, cap, hwv2, hcap, hgl, hSA⟩ := h1.wrow (by omega)
  have hgo : wv.ownBlock = some g := by rw [hwv2]; rfl
  have hw' : (0 : Int) < (W.length : Int) := by omega
  rw [← hwv, hwv2] at hc1
  go_wp2_with fail
  refine flR5_wp a b g cap W fv D w1 _ h1.disk hc0 hc1 h1.ab h1.fa hSA hgl (fun e => h1.wb (by rw [hgo, e])) (h1.wf g hgo) hz hl hfe he1 ?_
  intro u18 u19 u20 u21 u22 u23 u24 u25 u26 fv2 w2 hd2 r2
  have h2 := h1.fr r2 hd2
  have R2 := R1.trans (FrL.of_fr r2)
  clear hSA hwv hwv2 hgo hd2 hw'
  have hdn := down_any h2
  rw [hok] at hdn
  clear hok hc0 hc1
  go_wp2_with fail
  refine hdn.mono ?_
  rintro e w3 ⟨rfl, rfl⟩
  go_wp2
  go_ret2
  exact ⟨rfl, fv2, h2, R2⟩

/-- The disk with a script. -/
def Dk.script (D : Dk) (after keep : Int) : Dk := { D with set := true, left := after, keep := keep }
end Go.Proofs.YtlhohmlpcgbliaaDoor
namespace Go.Proofs.YtlhohmlpcgbliaaDoor
set_option maxRecDepth 100000
open Go.RowKit

/-- A row of one's own lies as it lay where its block has not changed. -/
theorem ownsRow_kept {w w' : World} {t : TypeId} {m n : Nat} {v : Value} {xs : List Value} (h : w.ownsRow 0 t m v n xs) (hb : ∀ k, v.ownBlock = some k → k < w.heap.size → w'.heap[k]? = w.heap[k]?) : w'.ownsRow 0 t m v n xs := by
  obtain ⟨h1, h2⟩ := h
  refine ⟨h1, ?_⟩
  rcases h2 with h0 | ⟨g, cap, cur, hv, hbg, hg, rr⟩
  · exact Or.inl h0
  · have hog : v.ownBlock = some g := by rw [hv]; rfl
    have hgl : g < w.heap.size := (Array.getElem?_eq_some_iff.1 hg).1
    exact Or.inr ⟨g, cap, cur, hv, hbg, by rw [hb g hog hgl]; exact hg, rr⟩
/-- A log's blocks. -/
def Own (a b : Nat) (g h : Option Nat) (k : Nat) : Prop := k = a ∨ k = b ∨ g = some k ∨ h = some k
/-- Two logs have no block in common. -/
def Dis (a b : Nat) (g h : Option Nat) (a' b' : Nat) (g' h' : Option Nat) : Prop := ∀ k, Own a b g h k → ¬ Own a' b' g' h' k
theorem Dis.symm {a b : Nat} {g h : Option Nat} {a' b' : Nat} {g' h' : Option Nat} (d : Dis a b g h a' b' g' h') : Dis a' b' g' h' a b g h := fun k h1 h2 => d k h2 h1
theorem LogAt.lt {w : World} {a b : Nat} {fv wv : Value} {D : Dk} {W : List ByteArray} (h : LogAt w a b fv wv D W) : ∀ k, Own a b fv.ownBlock wv.ownBlock k → k < w.heap.size := by
  intro k hk
  rcases hk with rfl | rfl | e | e
  · exact h.blk.lt
  · exact h.disk.lt
  · exact (h.disk.row.lt k e).2
  · exact (h.row.lt k e).2
/-- A log stays as it is, whatever another one does. -/
theorem LogAt.other {w w' : World} {a b : Nat} {fv wv : Value} {D : Dk} {W : List ByteArray} (h : LogAt w a b fv wv D W) {a' b' : Nat} {g h2 g' h2' : Option Nat} (r : FrL a' b' g h2 g' h2' w w') (hd : Dis a b fv.ownBlock wv.ownBlock a' b' g h2) : LogAt w' a b fv wv D W := by
  have hk : ∀ k, Own a b fv.ownBlock wv.ownBlock k → w'.heap[k]? = w.heap[k]? := by
    intro k ho
    have hn := hd k ho
    exact r.block k (h.lt k ho) (fun e => hn (.inl e)) (fun e => hn (.inr (.inl e))) (fun e => hn (.inr (.inr (.inl e)))) (fun e => hn (.inr (.inr (.inr e))))
  refine ⟨⟨h.disk.ok, ?_, ownsRow_kept h.disk.row (fun k e _ => hk k (.inr (.inr (.inl e)))), h.disk.apart⟩, ?_, ownsRow_kept h.row (fun k e _ => hk k (.inr (.inr (.inr e)))), h.ab, h.fa, h.wa, h.wb, h.wf⟩
  · have := h.disk.blk
    unfold Blk at *
    rw [hk b (.inr (.inl rfl))]; exact this
  · have := h.blk
    unfold Blk at *
    rw [hk a (.inl rfl)]; exact this
/-- What another log has taken anew is not this log's. -/
theorem Dis.step {w w' : World} {a b : Nat} {g h g1 h1 : Option Nat} {a' b' : Nat} {g' h' : Option Nat} (d : Dis a b g h a' b' g' h') (r : FrL a b g h g1 h1 w w') (hl : ∀ k, Own a' b' g' h' k → k < w.heap.size) : Dis a b g1 h1 a' b' g' h' := by
  intro k h0 h2
  have hlt := hl k h2
  rcases h0 with e | e | e | e
  · exact d k (.inl e) h2
  · exact d k (.inr (.inl e)) h2
  · rcases r.own with e1 | e1 | ⟨j, e1, hj⟩
    · rw [e1] at e; cases e
    · rw [e1] at e; exact d k (.inr (.inr (.inl e))) h2
    · rw [e1] at e; cases e; omega
  · rcases r.own2 with e1 | e1 | ⟨j, e1, hj⟩
    · rw [e1] at e; cases e
    · rw [e1] at e; exact d k (.inr (.inr (.inr e))) h2
    · rw [e1] at e; cases e; omega
/-- A new log shares no block with one that was there. -/
theorem Dis.new {n : Nat} {a b a' b' : Nat} {g' h' : Option Nat} (ha : n ≤ a) (hb : n ≤ b) (hl : ∀ k, Own a' b' g' h' k → k < n) : Dis a b none none a' b' g' h' := by
  intro k h0 h2
  have := hl k h2
  rcases h0 with e | e | e | e
  · omega
  · omega
  · cases e
  · cases e
end Go.Proofs.YtlhohmlpcgbliaaDoor
