import Derived.Test.YteillcbajkhjkaaDoorR18
namespace Go.Proofs.YteillcbajkhjkaaDoor
open Go.RowKit
attribute [local go_sem ↓] Go.wp_at_zero Go.wp_at_succ

theorem bts_append (a b : ByteArray) : bts (a ++ b) = bts a ++ bts b := by simp [bts]

set_option maxHeartbeats 400000 in
theorem leafRef_any (s : ByteArray) (w : World) (hs : s.size < 90000000000) :
    Calls Tryd.prog 13 #[.string s] w fun e w' => e = .returned (.string (leafS s)) ∧ Below w.heap.size w w' := by
  have hz : ((⟨#[0]⟩ : ByteArray) ++ s).size < 99999999999 := by
    have h1 : (⟨#[0]⟩ : ByteArray).size = 1 := rfl
    rw [ByteArray.size_append, h1]; omega
  have HE : Hid (shaS (bts ((⟨#[0]⟩ : ByteArray) ++ s)) = leafS s) := by
    show _ = _
    rw [bts_append]; rfl
  go_enter Tryd.func13, Tryd.ntmps13
  go_wp2_with (go_at_call 31; refine (hashRef_any _ _ hz).mono ?_; rintro e w' ⟨rfl, hb⟩)
  rw [HE.out]
  go_wp2_with fail
  go_ret
  exact ⟨rfl, hb⟩

set_option maxHeartbeats 400000 in
theorem nodeRef_any (a b : ByteArray) (w : World) (ha : a.size < 40000000000) (hbz : b.size < 40000000000) :
    Calls Tryd.prog 14 #[.string a, .string b] w fun e w' => e = .returned (.string (nodeS a b)) ∧ Below w.heap.size w w' := by
  have hz : ((⟨#[1]⟩ : ByteArray) ++ a ++ b).size < 99999999999 := by
    have h1 : (⟨#[1]⟩ : ByteArray).size = 1 := rfl
    rw [ByteArray.size_append, ByteArray.size_append, h1]; omega
  have HE : Hid (shaS (bts ((⟨#[1]⟩ : ByteArray) ++ a ++ b)) = nodeS a b) := by
    show _ = _
    rw [bts_append, bts_append, List.append_assoc]; rfl
  go_enter Tryd.func14, Tryd.ntmps14
  go_wp2_with (go_at_call 31; refine (hashRef_any _ _ hz).mono ?_; rintro e w' ⟨rfl, hb⟩)
  rw [HE.out]
  go_wp2_with fail
  go_ret
  exact ⟨rfl, hb⟩
end Go.Proofs.YteillcbajkhjkaaDoor
