import Derived.Test.YtlhohmlpcgbliaaDoorZJ17
import Derived.Test.YtlhohmlpcgbliaaDoorZCd3
import Derived.Test.YtlhohmlpcgbliaaDoorZCd4
import Derived.Deep.SlicePairs
namespace Go.Proofs.YtlhohmlpcgbliaaDoor
set_option maxRecDepth 100000
open Go.ChangeShapes Go.WideShapes Go.ChangeAt Go.RowKit

/-- An argument that is a list of failures. -/
theorem arg_fails {H : Type} {enc : TypeId × Value → H} {W : World} {base : Nat} {v : Value} {d : DataW H} {p : List MemPlace} (hv : Value.okWide Tryd.prog W .any base 74 v)
    (h : DataW.Trod enc Tryd.prog W 0 (fun _ => true) true 74 v d p) : ∃ q rn rc, v = .slice q rn rc ∧ (rn = 0 ∨ ∃ l sp, d = .slice l sp ∧ l.length = rn) ∧ ∀ i, i < rn → ∃ b o c e, q = some ⟨b, o, none⟩ ∧ W.cell? ⟨b, o + i * 2, none⟩ = some (.int .i64 c) ∧ W.cell? ⟨b, o + i * 2 + 1, none⟩ = some (.int .i64 e) ∧ -9223372036854775808 ≤ c ∧ c ≤ 9223372036854775807 := by
  obtain ⟨a, len, cap, rfl⟩ := okWide_slice Tryd.underlying74 hv
  obtain ⟨fuel, hf⟩ := h
  rcases Deep.open_slice_pairs Tryd.underlying74 Tryd.underlying73 (by kernel_rfl) rfl rfl (by kernel_rfl) (by kernel_rfl) hf with ⟨hc, hx⟩ | ⟨a', len', cap', m, n, V0, V1, D0, D1, P0, P1, hc, _, hl, _, hm, hx, hcell⟩
  · simp only [Value.cells, List.cons.injEq, and_true] at hc
    exact ⟨_, _, _, hc, .inl rfl, fun i hi => by omega⟩
  · simp only [Value.cells, List.cons.injEq, and_true] at hc
    have hlm : len' ≤ m := by rw [hm]; split <;> omega
    cases hx
    refine ⟨_, _, _, hc, .inr ⟨_, _, rfl, by simp⟩, fun i hi => ?_⟩
    obtain ⟨h1, h2, h3, h4⟩ := hcell i (by omega)
    obtain ⟨z, hz, _, hwf⟩ := DataW.trod_int Tryd.underlying3 h3
    obtain ⟨y, hy, _, _⟩ := DataW.trod_int Tryd.underlying3 h4
    have hV : V0 i = .int .i64 z := by simpa using hz
    have hU : V1 i = .int .i64 y := by simpa using hy
    have hs := spot_none (hcell 0 (by omega)).1
    obtain ⟨b, o, sp⟩ := a'
    obtain rfl : sp = none := hs
    rw [Addr.add_mid, hV] at h1
    rw [Addr.add_mid, hU] at h2
    simp only [Lit.wf, Bool.and_eq_true, decide_eq_true_eq] at hwf
    exact ⟨b, o, z, y, rfl, h1, by rw [Nat.add_assoc]; exact h2, hwf.1, hwf.2⟩
theorem sized_fails {H : Type} {ts : List TypeId} {ds : List (DataW H)} (h : (DataW.weightsEach Tryd.prog ts ds).all (· ≤ reachBytes) = true) {j : Nat} {d : DataW H} {rn : Nat} (ht : ts[j]? = some 74) (hd : ds[j]? = some d) (hs : rn = 0 ∨ ∃ l sp, d = .slice l sp ∧ l.length = rn) : rn ≤ 140737488355328 := by
  have hR := reachBytes_lt
  rcases hs with rfl | ⟨l, sp, rfl, hl⟩
  · omega
  · have h1 := sized_slice h ht hd Tryd.underlying74
    have hb : Tryd.prog.bytesOf 73 = 16 := by kernel_rfl
    rw [hb, hl] at h1
    omega
/-- An argument that is a failure. -/
theorem arg_fail {H : Type} {enc : TypeId × Value → H} {W : World} {base : Nat} {v : Value} {d : DataW H} {p : List MemPlace} (hv : Value.okWide Tryd.prog W .any base 73 v)
    (h : DataW.Trod enc Tryd.prog W 0 (fun _ => true) true 73 v d p) : ∃ f1 f2 : Int, v = .agg #[.int .i64 f1, .int .i64 f2] ∧ -9223372036854775808 ≤ f1 ∧ f1 ≤ 9223372036854775807 := by
  obtain ⟨cs, rfl, hcs⟩ := okWide_struct Tryd.underlying73 hv
  obtain ⟨fuel, hf⟩ := h
  obtain ⟨y0, y1, n, _, hl, h0, h1⟩ := trod_struct2 Tryd.underlying73 hf
  obtain ⟨z, hz, _, hwf⟩ := DataW.trod_int Tryd.underlying3 h0
  obtain ⟨y, hy, _, _⟩ := DataW.trod_int Tryd.underlying3 h1
  have hc2 : Tryd.prog.cellsOf 73 = 2 := by kernel_rfl
  have hc1 : Tryd.prog.cellsOf 3 = 1 := by kernel_rfl
  rw [hc2] at hcs
  obtain ⟨l⟩ := cs
  match l, hcs with
  | [u0, u1], _ =>
    simp [Value.cells, hc1] at hz hy
    simp only [Lit.wf, Bool.and_eq_true, decide_eq_true_eq] at hwf
    exact ⟨z, y, by rw [hz, hy], hwf.1, hwf.2⟩
end Go.Proofs.YtlhohmlpcgbliaaDoor
