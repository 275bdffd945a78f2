import Derived.Test.YteillcbajkhjkaaDoorX6
import Derived.Test.YteillcbajkhjkaaDoorFed
import Derived.Lib.SliceRun
namespace Go.Proofs.YteillcbajkhjkaaDoor
open Go.RowKit
attribute [local go_sem ↓] Go.wp_at_zero Go.wp_at_succ

/-- A string's bytes as numbers. -/
def bts (s : ByteArray) : List Nat := s.data.toList.map (·.toNat)
@[simp] theorem bts_length (s : ByteArray) : (bts s).length = s.size := by simp [bts]
theorem bts_ok (s : ByteArray) : Sha.bytesOk (bts s) := by
  intro i
  rw [List.getD_eq_getElem?_getD]
  simp only [bts, List.getElem?_map]
  cases h : s.data.toList[i]? with
  | none => simp
  | some x => simpa using x.toNat_lt
theorem bts_extract (s : ByteArray) (a b : Nat) : bts (s.extract a b) = ((bts s).drop a).take (b - a) := by
  simp [bts, ByteArray.data_extract, List.extract_eq_drop_take', List.map_take, List.map_drop]

theorem info5 : (Tryd.prog.info? 5).map (·.size) = some 1 := by kernel_rfl
theorem u8s_one (l : List Nat) : ∀ v ∈ u8s l, v.oneCell' = true := by
  intro v hv
  obtain ⟨x, _, rfl⟩ := List.mem_map.1 hv
  rfl

theorem run_copy_string (w : World) (b o dLen dCap : Nat) (s : ByteArray) (ty : TypeId) (n : Nat) (hn : n = min s.size dLen) (ht : w.there b o n) :
    (Builtin.copy_ #[52, 9] ty #[.slice (some ⟨b, o, none⟩) dLen dCap, .string s]).run Tryd.prog w = .ok (.int .i64 (n : Int)) (w.setCells b o (u8s ((bts s).take n))) := by
  have hc : List.take n (List.map (fun b => Value.int .u8 ((b.toNat : Nat) : Int)) s.data.toList) = u8s ((bts s).take n) := by
    simp only [bts, u8s, List.map_take, List.map_map]
    rfl
  have hl : (u8s ((bts s).take n)).length = n := by simp; omega
  have hst := run_storeCells_cells (P := Tryd.prog) b o (u8s ((bts s).take n)) 0 w (by rw [hl]; simpa using fun j hj => (ht j hj).1) (by rw [hl]; simpa using fun j hj => (ht j hj).2) (u8s_one _)
  have hm : Nat.min s.size dLen = n := hn.symm
  cases hq : (Tryd.prog.info? 5) with
  | none => have := info5; simp [hq] at this
  | some i =>
    rw [Nat.add_zero] at hst
    simp [Builtin.copy_, run_underlying Tryd.underlying52, Builtin.lenOf, Builtin.firstCells, sizeOf, typeInfo, hq, hm, hc, hst, goInt]

theorem u8s_append (a b : List Nat) : u8s (a ++ b) = u8s a ++ u8s b := by simp [u8s]
theorem u8s_take (a : List Nat) (n : Nat) : u8s (a.take n) = (u8s a).take n := by simp [u8s]
theorem u8s_drop (a : List Nat) (n : Nat) : u8s (a.drop n) = (u8s a).drop n := by simp [u8s]
theorem msg_put {s bl r : List Nat} {fi le : Int} (hs : s.length = 8) (hb : bl.length = 64) (f : Nat) (hf : f + r.length ≤ 64) : setL (msg s bl fi le) (8 + f) (u8s r) = msg s (Sha.put bl f r) fi le := by
  rw [setL_eq _ _ _ (by simp [msg, hs, hb]; omega)]
  unfold msg Sha.put
  rw [List.take_append, List.drop_append, List.take_append, List.drop_append]
  simp only [u32s_length, u8s_length, hs, hb, u8s_append, u8s_take, u8s_drop]
  have e5 : List.drop (8 + f + r.length) (u32s s) = [] := List.drop_eq_nil_of_le (by simp [hs]; omega)
  rw [List.take_of_length_le (by simp [hs]), e5, show 8 + f - 8 = f by omega, show f - 64 = 0 by omega, show 8 + f + r.length - 8 = f + r.length by omega, show f + r.length - 64 = 0 by omega]
  simp

theorem sliceAt_from (w : World) (b off : Nat) (l : Int) (h0 : 0 ≤ l) (h3 : l < 64) :
    (Instr.sliceAt 60 (.pointer (some ⟨b, off, none⟩)) (some (.int .i64 l)) none none).run Tryd.prog w = .ok (.slice (some ⟨b, off + l.toNat, none⟩) (64 - l.toNat) (64 - l.toNat)) w := by
  rw [run_sliceAt_array_l w 60 ⟨b, off, none⟩ Tryd.underlying60 .i64 l h0 (by rw [arr64]; exact Int.le_of_lt h3), elem64, size5, arr64]
  simp only [slicedAt, Result.andThen]
  rw [if_neg (by omega)]
  simp [Addr.add]

/-- The message at b has taken in l; its length says len. -/
def Fed (w : World) (b : Nat) (l : List Nat) (len : Int) : Prop :=
  ∃ bl, Sha.Held l bl ∧ Blk w b 63 (msg (Sha.behind l).list bl ((l.length % 64 : Nat) : Int) len)

def strLen : Value → Nat
  | .string s => s.size
  | _ => 0


end Go.Proofs.YteillcbajkhjkaaDoor
