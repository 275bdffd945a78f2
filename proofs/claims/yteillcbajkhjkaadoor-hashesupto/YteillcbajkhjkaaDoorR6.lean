import Derived.Test.YteillcbajkhjkaaDoorR5
namespace Go.Proofs.YteillcbajkhjkaaDoor
open Go.RowKit

/-- The two texts of digits. -/
def keysL : List UInt8 := [52, 50, 56, 97, 50, 102, 57, 56, 55, 49, 51, 55, 52, 52, 57, 49, 98, 53, 99, 48, 102, 98, 99, 102, 101, 57, 98, 53, 100, 98, 97, 53, 51, 57, 53, 54, 99, 50, 53, 98, 53, 57, 102, 49, 49, 49, 102, 49, 57, 50, 51, 102, 56, 50, 97, 52, 97, 98, 49, 99, 53, 101, 100, 53, 100, 56, 48, 55, 97, 97, 57, 56, 49, 50, 56, 51, 53, 98, 48, 49, 50, 52, 51, 49, 56, 53, 98, 101, 53, 53, 48, 99, 55, 100, 99, 51, 55, 50, 98, 101, 53, 100, 55, 52, 56, 48, 100, 101, 98, 49, 102, 101, 57, 98, 100, 99, 48, 54, 97, 55, 99, 49, 57, 98, 102, 49, 55, 52, 101, 52, 57, 98, 54, 57, 99, 49, 101, 102, 98, 101, 52, 55, 56, 54, 48, 102, 99, 49, 57, 100, 99, 54, 50, 52, 48, 99, 97, 49, 99, 99, 50, 100, 101, 57, 50, 99, 54, 102, 52, 97, 55, 52, 56, 52, 97, 97, 53, 99, 98, 48, 97, 57, 100, 99, 55, 54, 102, 57, 56, 56, 100, 97, 57, 56, 51, 101, 53, 49, 53, 50, 97, 56, 51, 49, 99, 54, 54, 100, 98, 48, 48, 51, 50, 55, 99, 56, 98, 102, 53, 57, 55, 102, 99, 55, 99, 54, 101, 48, 48, 98, 102, 51, 100, 53, 97, 55, 57, 49, 52, 55, 48, 54, 99, 97, 54, 51, 53, 49, 49, 52, 50, 57, 50, 57, 54, 55, 50, 55, 98, 55, 48, 97, 56, 53, 50, 101, 49, 98, 50, 49, 51, 56, 52, 100, 50, 99, 54, 100, 102, 99, 53, 51, 51, 56, 48, 100, 49, 51, 54, 53, 48, 97, 55, 51, 53, 52, 55, 54, 54, 97, 48, 97, 98, 98, 56, 49, 99, 50, 99, 57, 50, 101, 57, 50, 55, 50, 50, 99, 56, 53, 97, 50, 98, 102, 101, 56, 97, 49, 97, 56, 49, 97, 54, 54, 52, 98, 99, 50, 52, 98, 56, 98, 55, 48, 99, 55, 54, 99, 53, 49, 97, 51, 100, 49, 57, 50, 101, 56, 49, 57, 100, 54, 57, 57, 48, 54, 50, 52, 102, 52, 48, 101, 51, 53, 56, 53, 49, 48, 54, 97, 97, 48, 55, 48, 49, 57, 97, 52, 99, 49, 49, 54, 49, 101, 51, 55, 54, 99, 48, 56, 50, 55, 52, 56, 55, 55, 52, 99, 51, 52, 98, 48, 98, 99, 98, 53, 51, 57, 49, 99, 48, 99, 98, 51, 52, 101, 100, 56, 97, 97, 52, 97, 53, 98, 57, 99, 99, 97, 52, 102, 54, 56, 50, 101, 54, 102, 102, 51, 55, 52, 56, 102, 56, 50, 101, 101, 55, 56, 97, 53, 54, 51, 54, 102, 56, 52, 99, 56, 55, 56, 49, 52, 56, 99, 99, 55, 48, 50, 48, 56, 57, 48, 98, 101, 102, 102, 102, 97, 97, 52, 53, 48, 54, 99, 101, 98, 98, 101, 102, 57, 97, 51, 102, 55, 99, 54, 55, 49, 55, 56, 102, 50]
def firstL : List UInt8 := [54, 97, 48, 57, 101, 54, 54, 55, 98, 98, 54, 55, 97, 101, 56, 53, 51, 99, 54, 101, 102, 51, 55, 50, 97, 53, 52, 102, 102, 53, 51, 97, 53, 49, 48, 101, 53, 50, 55, 102, 57, 98, 48, 53, 54, 56, 56, 99, 49, 102, 56, 51, 100, 57, 97, 98, 53, 98, 101, 48, 99, 100, 49, 57]
def keysB : ByteArray := ⟨keysL.toArray⟩
def firstB : ByteArray := ⟨firstL.toArray⟩
theorem keysB_size : keysB.size = 512 := by decide +kernel
theorem firstB_size : firstB.size = 64 := by decide +kernel
theorem isHex_of {s : ByteArray} (h : (bts s).all (fun c => (48 ≤ c && c ≤ 57) || (97 ≤ c && c ≤ 102)) = true) : isHex (bts s) := by
  intro i
  rw [List.getD_eq_getElem?_getD]
  cases hq : (bts s)[i]? with
  | none => simp
  | some x =>
    have := List.all_eq_true.1 h x (List.mem_of_getElem? hq)
    simpa using this
theorem keysB_hex : isHex (bts keysB) := isHex_of (by decide +kernel)
theorem firstB_hex : isHex (bts firstB) := isHex_of (by decide +kernel)
theorem keysB_val (k : Nat) (h : k < 64) : hexK (bts keysB) k 8 = Sha.keys.getD k 0 := by
  have : ∀ j : Fin 64, hexK (bts keysB) j.val 8 = Sha.keys.getD j.val 0 := by decide +kernel
  exact this ⟨k, h⟩
theorem firstB_val (k : Nat) (h : k < 8) : hexK (bts firstB) k 8 = Sha.init.list.getD k 0 := by
  have : ∀ j : Fin 8, hexK (bts firstB) j.val 8 = Sha.init.list.getD j.val 0 := by decide +kernel
  exact this ⟨k, h⟩
theorem word_keys (k : Nat) (w : World) (h : k < 64) (s : ByteArray) (hs : s = keysB) :
    Calls Tryd.prog 40 #[.string s, .int .i64 (k : Int)] w fun e w' => e = .returned (.int .i64 (Sha.keys.getD k 0 : Int)) ∧ w' = w := by
  subst hs
  rw [← keysB_val k h]
  exact word_any keysB k w (by rw [keysB_size]; omega) (by rw [keysB_size]; omega) keysB_hex
theorem word_first (k : Nat) (w : World) (h : k < 8) (s : ByteArray) (hs : s = firstB) :
    Calls Tryd.prog 40 #[.string s, .int .i64 (k : Int)] w fun e w' => e = .returned (.int .i64 (Sha.init.list.getD k 0 : Int)) ∧ w' = w := by
  subst hs
  rw [← firstB_val k h]
  exact word_any firstB k w (by rw [firstB_size]; omega) (by rw [firstB_size]; omega) firstB_hex

end Go.Proofs.YteillcbajkhjkaaDoor
