import Derived.Test.YtlhohmlpcgbliabGreatDoorZK7
import Derived.Test.YtlhohmlpcgbliabGreatDoorZY2
namespace Go.Proofs.YtlhohmlpcgbliabGreatDoor
set_option maxRecDepth 100000
open Go.RowKit
attribute [local go_sem ↓] Go.wp_at_zero Go.wp_at_succ

/-- Included answers so of every such list. -/
def InclAs (w0 : World) (leaf root : ByteArray) (i n : Nat) (l : List ByteArray) (r : Bool) : Prop := ∀ wx v, Below w0.heap.size w0 wx → Lst wx v l → Calls Tryz.prog 19 #[.string leaf, .int .i64 (i : Int), .int .i64 (n : Int), v, .string root] wx fun e w' => e = .returned (.bool r) ∧ Below wx.heap.size wx w'

/-- Extends answers so of every such list. -/
def ExtAs (w0 : World) (old root : ByteArray) (m n : Nat) (l : List ByteArray) (r : Bool) : Prop := ∀ wx v, Below w0.heap.size w0 wx → Lst wx v l → Calls Tryz.prog 20 #[.int .i64 (m : Int), .int .i64 (n : Int), .string old, .string root, v] wx fun e w' => e = .returned (.bool r) ∧ Below wx.heap.size wx w'

/-- What the rest of Shown hangs on. -/
structure ShH (w0 w : World) (i m n : Nat) (leaf root old other : ByteArray) (pv qv : Value) (P L : List ByteArray) (B : Bool) (base : Nat) : Prop where
  row : Row w base 9 pv (strv P)
  lq : Lst w qv L
  b0 : w0.heap.size ≤ base
  bw : base ≤ w.heap.size
  len : P.length ≤ 64
  m1 : 1 ≤ m
  mn : m ≤ n
  n64 : n ≤ 64
  bel : Below w0.heap.size w0 w
  inc : InclAs w0 leaf root i n (P ++ [other]) false
  inc2 : other ≠ root → InclAs w0 leaf other i n P false
  ext2 : other ≠ root → ExtAs w0 old other m n L false
  ext3 : ExtAs w0 other root m n L B
  np : other ≠ old → B = true → m ≠ n → m &&& (m - 1) = 0

theorem ShH.below {w0 w w' : World} {i m n : Nat} {leaf root old other : ByteArray} {pv qv : Value} {P L : List ByteArray} {B : Bool} {base : Nat} (h : ShH w0 w i m n leaf root old other pv qv P L B base) (hb : Below w.heap.size w w') : ShH w0 w' i m n leaf root old other pv qv P L B base :=
  ⟨h.row.below hb (Nat.le_refl _), h.lq.below hb, h.b0, Nat.le_trans h.bw hb.size, h.len, h.m1, h.mn, h.n64, h.bel.trans (hb.mono h.bel.size), h.inc, h.inc2, h.ext2, h.ext3, h.np⟩


end Go.Proofs.YtlhohmlpcgbliabGreatDoor
namespace Go.Proofs.YtlhohmlpcgbliabGreatDoor
set_option maxRecDepth 100000
open Go.RowKit
attribute [local go_sem ↓] Go.wp_at_zero Go.wp_at_succ

end Go.Proofs.YtlhohmlpcgbliabGreatDoor
namespace Go.Proofs.YtlhohmlpcgbliabGreatDoor
set_option maxRecDepth 100000
open Go.RowKit
attribute [local go_sem ↓] Go.wp_at_zero Go.wp_at_succ

end Go.Proofs.YtlhohmlpcgbliabGreatDoor
namespace Go.Proofs.YtlhohmlpcgbliabGreatDoor
set_option maxRecDepth 100000
open Go.RowKit
attribute [local go_sem ↓] Go.wp_at_zero Go.wp_at_succ

set_option maxHeartbeats 1000000 in
theorem fits_none (b : Nat) (n : Int) (fv : Value) (D : Dk) (w : World) (h : DiskAt w b fv D) (hz : D.read 1 = zer) :
    Calls Tryz.prog 132 #[.pointer (some ⟨b, 0, none⟩), .int .i64 n] w fun e w' => e = .returned (.bool true) ∧ Below w.heap.size w w' := by
  have hrj := readJournal_none b fv D w h hz
  clear hz
  go_enter Tryz.func132, Tryz.ntmps132
  go_wp2_with fail
  refine hrj.mono ?_
  rintro e w1 ⟨rfl, hb1⟩
  go_wp2
  go_ret
  exact ⟨rfl, hb1.alloc hb1.size _⟩
end Go.Proofs.YtlhohmlpcgbliabGreatDoor
namespace Go.Proofs.YtlhohmlpcgbliabGreatDoor
set_option maxRecDepth 100000
open Go.RowKit
attribute [local go_sem ↓] Go.wp_at_zero Go.wp_at_succ

set_option maxHeartbeats 1000000 in
theorem logBytes_any {w : World} {a b : Nat} {fv wv : Value} {D : Dk} {W : List ByteArray} (h : LogAt w a b fv wv D W) : Calls Tryz.prog 74 #[.pointer (some ⟨a, 0, none⟩)] w fun e w' => e = .returned (.string (strOf D.las.flatten)) ∧ Below w.heap.size w w' := by
  have hc := h.blk.cell 0
  simp only [List.getElem?_cons_zero] at hc
  have hd := none_any h
  have hp := bytes_any b fv D w h.disk
  generalize strOf D.las.flatten = s at *
  go_enter Tryz.func74, Tryz.ntmps74
  go_wp2_with fail
  refine hd.mono ?_
  rintro e w1 ⟨rfl, rfl⟩
  go_wp2_with fail
  refine hp.mono ?_
  rintro e w2 ⟨rfl, hb2⟩
  go_wp2
  go_ret
  exact ⟨rfl, hb2⟩
set_option maxHeartbeats 1000000 in
theorem logActs_any {w : World} {a b : Nat} {fv wv : Value} {D : Dk} {W : List ByteArray} (h : LogAt w a b fv wv D W) : Calls Tryz.prog 61 #[.pointer (some ⟨a, 0, none⟩)] w fun e w' => e = .returned (.int .i64 D.acts) ∧ w' = w := by
  have hc := h.blk.cell 0
  simp only [List.getElem?_cons_zero] at hc
  have hd := none_any h
  have hp := acts_any b fv D w h.disk
  generalize D.acts = s at *
  go_enter Tryz.func61, Tryz.ntmps61
  go_wp2_with fail
  refine hd.mono ?_
  rintro e w1 ⟨rfl, rfl⟩
  go_wp2_with fail
  refine hp.mono ?_
  rintro e w2 ⟨rfl, rfl⟩
  go_wp2
  go_ret
  exact ⟨rfl, rfl⟩
end Go.Proofs.YtlhohmlpcgbliabGreatDoor
