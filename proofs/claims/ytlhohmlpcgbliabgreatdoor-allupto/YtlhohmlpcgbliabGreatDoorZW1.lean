import Derived.Test.YtlhohmlpcgbliabGreatDoorProg
import Derived.Test.YtlhohmlpcgbliabGreatDoorZSha
import Derived.WalkKit
import Derived.WalkSpells
import Derived.WalkLawsBesides
import Derived.Deep.QuietTactic
import Derived.BigQuiet
namespace Go.Proofs.YtlhohmlpcgbliabGreatDoor
open Go.RowKit

/-- The turns that the programs make. -/
def isTurn (k : Int) : Prop := k = 2 ∨ k = 6 ∨ k = 7 ∨ k = 11 ∨ k = 13 ∨ k = 17 ∨ k = 18 ∨ k = 19 ∨ k = 22 ∨ k = 25

theorem ret_i64 {a b : Int} {l : Prop} (h : a = b) (hl : l) : Ending.returned (Value.int .i64 a) = .returned (.int .i64 b) ∧ l := ⟨by rw [h], hl⟩
theorem ret_u32 {a b : Int} {l : Prop} (h : a = b) (hl : l) : Ending.returned (Value.int .u32 a) = .returned (.int .u32 b) ∧ l := ⟨by rw [h], hl⟩

set_option maxHeartbeats 1000000 in
theorem turned_any (x : Nat) (k : Int) (w : World) (hx : x < 4294967296) (hk : isTurn k) :
    Calls Tryz.prog 120 #[.int .u32 (x : Int), .int .i64 k] w fun e w' => e = .returned (.int .u32 (Sha.rotr x k.toNat : Int)) ∧ w' = w := by
  have h2 : bits .and .u64 (IntKind.u64.wrap (-2)) 31 = 30 := by decide
  have h6 : bits .and .u64 (IntKind.u64.wrap (-6)) 31 = 26 := by decide
  have h7 : bits .and .u64 (IntKind.u64.wrap (-7)) 31 = 25 := by decide
  have h11 : bits .and .u64 (IntKind.u64.wrap (-11)) 31 = 21 := by decide
  have h13 : bits .and .u64 (IntKind.u64.wrap (-13)) 31 = 19 := by decide
  have h17 : bits .and .u64 (IntKind.u64.wrap (-17)) 31 = 15 := by decide
  have h18 : bits .and .u64 (IntKind.u64.wrap (-18)) 31 = 14 := by decide
  have h19 : bits .and .u64 (IntKind.u64.wrap (-19)) 31 = 13 := by decide
  have h22 : bits .and .u64 (IntKind.u64.wrap (-22)) 31 = 10 := by decide
  have h25 : bits .and .u64 (IntKind.u64.wrap (-25)) 31 = 7 := by decide
  rcases hk with rfl | rfl | rfl | rfl | rfl | rfl | rfl | rfl | rfl | rfl
  · go_enter Tryz.func120, Tryz.ntmps120
    go_wp2
    go_ret
    exact ret_u32 (Sha.rot_bits x 2 30 _ _ hx rfl rfl rfl) rfl
  · go_enter Tryz.func120, Tryz.ntmps120
    go_wp2
    go_ret
    exact ret_u32 (Sha.rot_bits x 6 26 _ _ hx rfl rfl rfl) rfl
  · go_enter Tryz.func120, Tryz.ntmps120
    go_wp2
    go_ret
    exact ret_u32 (Sha.rot_bits x 7 25 _ _ hx rfl rfl rfl) rfl
  · go_enter Tryz.func120, Tryz.ntmps120
    go_wp2
    go_ret
    exact ret_u32 (Sha.rot_bits x 11 21 _ _ hx rfl rfl rfl) rfl
  · go_enter Tryz.func120, Tryz.ntmps120
    go_wp2
    go_ret
    exact ret_u32 (Sha.rot_bits x 13 19 _ _ hx rfl rfl rfl) rfl
  · go_enter Tryz.func120, Tryz.ntmps120
    go_wp2
    go_ret
    exact ret_u32 (Sha.rot_bits x 17 15 _ _ hx rfl rfl rfl) rfl
  · go_enter Tryz.func120, Tryz.ntmps120
    go_wp2
    go_ret
    exact ret_u32 (Sha.rot_bits x 18 14 _ _ hx rfl rfl rfl) rfl
  · go_enter Tryz.func120, Tryz.ntmps120
    go_wp2
    go_ret
    exact ret_u32 (Sha.rot_bits x 19 13 _ _ hx rfl rfl rfl) rfl
  · go_enter Tryz.func120, Tryz.ntmps120
    go_wp2
    go_ret
    exact ret_u32 (Sha.rot_bits x 22 10 _ _ hx rfl rfl rfl) rfl
  · go_enter Tryz.func120, Tryz.ntmps120
    go_wp2
    go_ret
    exact ret_u32 (Sha.rot_bits x 25 7 _ _ hx rfl rfl rfl) rfl

set_option maxHeartbeats 1000000 in
theorem turn_any (x : Nat) (k : Int) (w : World) (hx : x < 4294967296) (hk : isTurn k) :
    Calls Tryz.prog 81 #[.int .i64 (x : Int), .int .i64 k] w fun e w' => e = .returned (.int .i64 (Sha.rotr x k.toNat : Int)) ∧ ∃ m, w' = w.drewN m := by
  rcases hk with rfl | rfl | rfl | rfl | rfl | rfl | rfl | rfl | rfl | rfl
  all_goals
    go_enter Tryz.func81, Tryz.ntmps81
    go_wp2
    go_quiet (fail)
    go_wp2
    go_ret
    exact ret_i64 (by simp [Sha.rotr]) ⟨_, rfl⟩
end Go.Proofs.YtlhohmlpcgbliabGreatDoor
