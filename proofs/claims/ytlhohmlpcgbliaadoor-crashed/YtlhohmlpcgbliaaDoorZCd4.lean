import Derived.Test.YtlhohmlpcgbliaaDoorZCd3
import Derived.SizedLaws
namespace Go.Proofs.YtlhohmlpcgbliaaDoor
set_option maxRecDepth 100000
open Go.ChangeShapes Go.WideShapes Go.ChangeAt Go.RowKit

/-- A text, as it is read. -/
def strD {H : Type} (s : ByteArray) : DataW H := .lit (.string s.data.toList)

/-- An argument that is a list of texts, and its reading. -/
theorem arg_strs_d {H : Type} {enc : TypeId × Value → H} {W : World} {base : Nat} {v : Value} {d : DataW H} {p : List MemPlace} (hv : Value.okWide Tryd.prog W .any base 22 v)
    (h : DataW.Trod enc Tryd.prog W 0 (fun _ => true) true 22 v d p) :
    ∃ ss : List ByteArray, ((v = .slice none 0 0 ∧ ss = []) ∨ ∃ a c, v = .slice (some a) ss.length c ∧ ∀ (i : Nat) s, ss[i]? = some s → W.cell? (a.add i) = some (.string s)) ∧
      (∃ p c, v = .slice p ss.length c ∧ ss.length ≤ c) ∧ (ss = [] ∨ ∃ sp, d = .slice (ss.map strD) sp) := by
  obtain ⟨a, len, cap, rfl⟩ := okWide_slice Tryd.underlying22 hv
  obtain ⟨fuel, hf⟩ := h
  rcases Deep.open_strs Tryd.underlying22 Tryd.underlying9 (by kernel_rfl) hf with ⟨hc, hx⟩ | ⟨a', len', cap', m, Sx, hc, _, hl, _, hm, hx, hcell⟩
  · simp only [Value.cells, List.cons.injEq, and_true] at hc
    exact ⟨[], .inl ⟨hc, rfl⟩, ⟨_, _, hc, Nat.le_refl _⟩, .inl rfl⟩
  · simp only [Value.cells, List.cons.injEq, and_true] at hc
    cases hx
    have hlm : len' ≤ m := by rw [hm]; split <;> omega
    refine ⟨(List.range len').map Sx, .inr ⟨a', cap', by simpa using hc, fun i s hs => ?_⟩, ⟨_, _, by simpa using hc, by simpa using hl⟩, .inr ⟨_, by rw [List.map_map]; rfl⟩⟩
    rw [List.getElem?_map, Option.map_eq_some_iff] at hs
    obtain ⟨j, hj, rfl⟩ := hs
    obtain ⟨hj1, rfl⟩ := List.getElem?_eq_some_iff.1 hj
    rw [List.length_range] at hj1
    rw [List.getElem_range]
    exact (hcell i (by omega)).1

theorem weights_all {H : Type} {P : Program} {e : TypeId} {d : DataW H} : ∀ {l : List (DataW H)}, d ∈ l → ∀ n ∈ d.weights P e, n ∈ DataW.weightsAll P e l
  | x :: r, h, n, hn => by
    simp only [DataW.weightsAll, List.mem_append]
    rcases List.mem_cons.1 h with rfl | h
    · exact .inl hn
    · exact .inr (weights_all h n hn)

/-- What the form's own reach gives of a list of texts. -/
theorem sized_strs {H : Type} {ts : List TypeId} {ds : List (DataW H)} (h : (DataW.weightsEach Tryd.prog ts ds).all (· ≤ reachBytes) = true) {j : Nat} {d : DataW H} {ss : List ByteArray} (ht : ts[j]? = some 22) (hd : ds[j]? = some d) (hs : ss = [] ∨ ∃ sp, d = .slice (ss.map strD) sp) :
    ss.length ≤ 140737488355328 ∧ ∀ s ∈ ss, s.size ≤ 140737488355328 := by
  have hR := reachBytes_lt
  rcases hs with rfl | ⟨sp, rfl⟩
  · exact ⟨by simp, fun s hs => by simp at hs⟩
  · have h1 := sized_slice h ht hd Tryd.underlying22
    have hb : Tryd.prog.bytesOf 9 = 16 := by kernel_rfl
    rw [hb, List.length_map] at h1
    refine ⟨by omega, fun s hsm => ?_⟩
    have h2 := List.all_eq_true.1 h s.data.toList.length (DataW.weights_mem_each ht hd _ (by
      simp only [DataW.weights, Tryd.underlying22, List.mem_cons, List.mem_append]
      exact .inr (.inl (weights_all (List.mem_map_of_mem hsm) _ (by simp [strD, DataW.weights])))))
    have e : s.data.toList.length = s.size := by rw [Array.length_toList]; rfl
    rw [e] at h2
    have h3 : s.size ≤ reachBytes := by simpa using h2
    omega
end Go.Proofs.YtlhohmlpcgbliaaDoor
