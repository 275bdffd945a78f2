import Derived.Test.YtlhohmlpcgbliaaDoorZV1
namespace Go.Proofs.YtlhohmlpcgbliaaDoor
set_option maxRecDepth 100000
open Go.RowKit
attribute [local go_sem ↓] Go.wp_at_zero Go.wp_at_succ

set_option maxHeartbeats 400000 in
theorem cut_any (s : ByteArray) (w : World) (hs : s.size ≤ 140737488355328) : Calls Tryd.prog 41 #[.string s] w fun e w' => ∃ t, e = .returned (.string t) ∧ t.size ≤ 1048576 ∧ w' = w := by
  by_cases h : s.size ≤ 40
  · go_enter Tryd.func41, Tryd.ntmps41
    go_wp2
    go_ret
    exact ⟨s, rfl, by omega, rfl⟩
  · go_enter Tryd.func41, Tryd.ntmps41
    go_wp2
    go_ret
    exact ⟨_, rfl, by rw [ByteArray.size_extract]; omega, rfl⟩

set_option maxRecDepth 100000 in
set_option maxHeartbeats 1000000 in
theorem entries_any (v : Value) (ss : List ByteArray) (w : World) (hS : Strs w v ss) (hn : ss.length ≤ 140737488355328) (hz : ∀ s ∈ ss, s.size ≤ 140737488355328) :
    Calls Tryd.prog 31 #[v] w fun e w' => ∃ v' ts, e = .returned v' ∧ Row w' w.heap.size 9 v' (strv ts) ∧ ts.length ≤ 64 ∧ (∀ s ∈ ts, s.size ≤ 1048576) ∧ Below w.heap.size w w' := by
  obtain ⟨a, c, rfl, hcells⟩ := hS
  have HC : Hid (∀ (i : Nat) s, ss[i]? = some s → ∃ g off, a = some ⟨g, off, none⟩ ∧ w.cell? ⟨g, off + i, none⟩ = some (.string s)) := hcells
  have HZ : Hid (∀ s ∈ ss, s.size ≤ 140737488355328) := hz
  clear hcells hz
  go_enter Tryd.func31, Tryd.ntmps31
  try go_wp2
  go_loopw [3, 4] (fun v i wr => ∃ (k : Nat) (ts : List ByteArray), k ≤ ss.length ∧ k ≤ 64 ∧ i = .int .i64 k ∧ Row wr w.heap.size 9 v (strv ts) ∧ Hid (ts.length = k ∧ ∀ s ∈ ts, s.size ≤ 1048576) ∧ Below w.heap.size w wr) (fun _ i _ => ss.length - (intOf i).toNat)
  case atStart => exact ⟨0, [], by omega, by omega, rfl, World.ownsRow_nil _ _ _ _, ⟨rfl, fun s hs => by simp at hs⟩, Below.refl _ _⟩
  case round =>
    obtain ⟨k, ts, hk, hk64, rfl, hrow, HTs, hb⟩ := hrel
    by_cases h8 : k < ss.length
    · by_cases h9 : k < 64
      · obtain ⟨s, hs⟩ : ∃ s, ss[k]? = some s := ⟨_, List.getElem?_eq_getElem h8⟩
        obtain ⟨g, off, rfl, hcell⟩ := HC.out k s hs
        have hcell' : wr.cell? ⟨g, off + k, none⟩ = some (.string s) := by
          rw [hb.cell (World.block_lt_of_cell? _ _ hcell)]; exact hcell
        have hcu := cut_any s wr (HZ.out s (List.mem_of_getElem? hs))
        have hxl : (strv ts).length = k := by rw [strv_length]; exact HTs.out.1
        have HN : Hid (∀ t, strv ts ++ [.string t] = strv (ts ++ [t])) := fun t => by simp [strv]
        have hsz0 := hb.size
        clear hcell hs
        generalize strv ts = xs at *
        go_wp2_with (first | (go_at_call 41; refine hcu.mono ?_; rintro e w1 ⟨t, rfl, htz, hw1⟩; rw [hw1]; clear hw1) | (at_builtin; refine wpList_app elem_string rfl Tryd.underlying22 (by rfl) (.tmp 15) (.tmp 21) (by rfl) w.heap.size _ xs (by rfl) (hrow.alloc _) _ 1 1 [.string t] (by rfl) rfl (Blk.new _ 9 _) ?h1 ?hl ?hb ?hbs (w0 := w) (hb.alloc hsz0 _) (Nat.le_refl _) ?_))
        case h1 => intro u hu; simp at hu; subst hu; rfl
        case hl => omega
        case hb => omega
        case hbs => simp; omega
        intro v' w' hv' _ hb'
        rw [HN.out t] at hv'
        go_wp2
        go_roundw
        case rel => exact ⟨k + 1, ts ++ [t], by omega, by omega, by go_num, hv', ⟨by rw [List.length_append, HTs.out.1]; rfl, fun x hx => by
          rcases List.mem_append.1 hx with h | h
          · exact HTs.out.2 x h
          · rw [List.mem_singleton.1 h]; exact htz⟩, hb'⟩
        case measure => simp [intOf]; omega
      · have hk8 : k = 64 := by omega
        subst hk8
        go_wp2
        go_ret
        exact ⟨_, ts, rfl, hrow, by rw [HTs.out.1]; omega, HTs.out.2, hb⟩
    · have hk8 : k = ss.length := by omega
      subst hk8
      go_wp2
      go_ret
      exact ⟨_, ts, rfl, hrow, by rw [HTs.out.1]; exact hk64, HTs.out.2, hb⟩
end Go.Proofs.YtlhohmlpcgbliaaDoor
