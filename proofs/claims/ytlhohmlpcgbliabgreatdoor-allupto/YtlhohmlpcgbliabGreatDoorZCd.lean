import Derived.Test.YtlhohmlpcgbliabGreatDoorZX12
import Derived.Test.YtlhohmlpcgbliabGreatDoorCards
import Derived.ProofKit
import Derived.OpenShut
import Derived.Carry
import Derived.Deep.DeepHandedRow
import Derived.Lib.LaidTab
import Derived.Deep.Strs
namespace Go.Proofs.YtlhohmlpcgbliabGreatDoor
set_option maxRecDepth 100000
open Go.ChangeShapes Go.WideShapes Go.ChangeAt Go.RowKit

theorem laidOut' : laidOutB Tryz.prog = true := by kernel_rfl
theorem ownK : ownKnob Tryz.prog.godebug = none := by kernel_rfl

/-- Each of these types can be read and is a row of the table. -/
def rowed (P : Program) (ts : List TypeId) : Bool := ts.all fun t => P.readableRec t && decide (t < P.types.size)

theorem trodAll_below {H : Type} {enc : TypeId × Value → H} {P : Program} (hl : laidOutB P = true) {W W' : World} (hb : Below W.heap.size W W') :
    ∀ {ts : List TypeId} {vs : List Value} {ds : List (DataW H)} {ps : List MemPlace}, rowed P ts = true → DataW.TrodAll enc P W 0 (fun _ => true) true ts vs ds ps →
      DataW.TrodAll enc P W' 0 (fun b => decide (b < W.heap.size)) true ts vs ds ps
  | [], _, _, _, _, h => by
    obtain ⟨rfl, rfl, rfl⟩ := trodAll_nil h
    exact trodAll_mk0
  | t :: ts, _, _, _, hr, h => by
    have hlt := h.lt
    obtain ⟨v, vs, d, ds, p, q, rfl, rfl, rfl, h1, h2⟩ := trodAll_cons h
    simp only [rowed, List.all_cons, Bool.and_eq_true, decide_eq_true_eq] at hr
    exact ⟨p, q, Below.trod hl hr.1.1 hr.1.2 h1 hb (fun x hx => hlt x (List.mem_append.2 (.inl hx))), trodAll_below hl hb (by simpa [rowed] using hr.2) h2, rfl⟩

/-- What a law's row asks behind the call, where the call gave true and turned nothing old. -/
theorem post_true {H : Type} {enc : TypeId × Value → H} {P : Program} {f : Func} {s : ChangeSpec} {W W' : World} {args : Array Value} {ds gs : List (DataW H)} {before : List MemPlace} {tb : TypeId}
    (hl : laidOutB P = true) (hW : DataW.Whole enc P f.params.toList s.vars false W args.toList ds gs before) (hv : s.vars = []) (hfn : s.fn H (ds ++ gs) = { results := [.lit (.bool true)], args := ds })
    (hr : f.resultTypes = #[tb]) (ht : P.underlying tb = some .bool) (hrow : rowed P f.params.toList = true) (hb : Below W.heap.size W W') : s.post enc P f false true false false W args (.bool true) W' := by
  have hW' := hW
  obtain ⟨p, q, hA, hV, rfl, _, _⟩ := hW
  refine ⟨ds, gs, _, [], p, [], hW', ?_, ?_, ?_, hb.frame _, fun h => by cases h⟩
  · rw [hfn, hr]
    exact trodAll_cons_mk (shut_bool ht _) trodAll_mk0
  · rw [hfn]
    exact trodAll_below hl hb hrow hA
  · rw [hfn, hv]
    rfl

/-! ### What the bound gives -/
theorem bulk_one {H : Type} (d : DataW H) : 1 ≤ Rows.uptoBulk d := by
  cases d with
  | lit l => cases l <;> simp [Rows.uptoBulk]
  | nil => simp [Rows.uptoBulk]
  | ptr d => simp [Rows.uptoBulk]
  | slice elems spare => simp [Rows.uptoBulk]
  | agg parts => simp [Rows.uptoBulk]
  | iface t d => simp [Rows.uptoBulk]
  | map entries => simp [Rows.uptoBulk]
  | held h => simp [Rows.uptoBulk]
theorem bulk_part {H : Type} {d : DataW H} {l : List (DataW H)} (h : d ∈ l) : Rows.uptoBulk d ≤ Rows.uptoBulkAll l := by
  induction l with
  | nil => cases h
  | cons x r ih =>
    simp only [Rows.uptoBulkAll]
    cases List.mem_cons.1 h with
    | inl e => subst e; omega
    | inr e => have := ih e; omega
theorem bulk_length {H : Type} (l : List (DataW H)) : l.length ≤ Rows.uptoBulkAll l := by
  induction l with
  | nil => simp [Rows.uptoBulkAll]
  | cons x r ih => have := bulk_one x; simp only [Rows.uptoBulkAll, List.length_cons]; omega
theorem bulk_string {H : Type} (s : ByteArray) : Rows.uptoBulk (DataW.lit (H := H) (.string s.data.toList)) = s.size + 1 := by
  have e : s.data.toList.length = s.size := by rw [Array.length_toList]; rfl
  simp [Rows.uptoBulk, e]
theorem bulk_small {H : Type} {l : List (DataW H)} (hk : Rows.uptoSmall H l = true) : Rows.uptoBulkAll l ≤ 1048576 := of_decide_eq_true hk

/-- An argument that is a list of texts: nil, or cells that hold them; no more of them, and none longer, than its bulk. -/
theorem arg_strs {H : Type} {enc : TypeId × Value → H} {W : World} {base : Nat} {v : Value} {d : DataW H} {p : List MemPlace} (hv : Value.okWide Tryz.prog W .any base 22 v)
    (h : DataW.Trod enc Tryz.prog W 0 (fun _ => true) true 22 v d p) :
    ∃ ss : List ByteArray, ((v = .slice none 0 0 ∧ ss = []) ∨ ∃ a c, v = .slice (some a) ss.length c ∧ ∀ (i : Nat) s, ss[i]? = some s → W.cell? (a.add i) = some (.string s)) ∧
      (∃ p c, v = .slice p ss.length c ∧ ss.length ≤ c) ∧ ss.length < Rows.uptoBulk d ∧ ∀ s ∈ ss, s.size < Rows.uptoBulk d := by
  obtain ⟨a, len, cap, rfl⟩ := okWide_slice Tryz.underlying22 hv
  obtain ⟨fuel, hf⟩ := h
  rcases Deep.open_strs Tryz.underlying22 Tryz.underlying9 (by kernel_rfl) hf with ⟨hc, hx⟩ | ⟨a', len', cap', m, Sx, hc, _, hl, _, hm, hx, hcell⟩
  · simp only [Value.cells, List.cons.injEq, and_true] at hc
    cases hx
    exact ⟨[], .inl ⟨hc, rfl⟩, ⟨_, _, hc, Nat.le_refl _⟩, by simp [Rows.uptoBulk], fun s hs => by cases hs⟩
  · simp only [Value.cells, List.cons.injEq, and_true] at hc
    cases hx
    have hlm : len' ≤ m := by rw [hm]; split <;> omega
    refine ⟨(List.range len').map Sx, .inr ⟨a', cap', by simpa using hc, fun i s hs => ?_⟩, ⟨_, _, by simpa using hc, by simpa using hl⟩, ?_, fun s hs => ?_⟩
    · rw [List.getElem?_map, Option.map_eq_some_iff] at hs
      obtain ⟨j, hj, rfl⟩ := hs
      obtain ⟨hj1, rfl⟩ := List.getElem?_eq_some_iff.1 hj
      rw [List.length_range] at hj1
      rw [List.getElem_range]
      exact (hcell i (by omega)).1
    · have := bulk_length ((List.range len').map fun i => DataW.lit (H := H) (.string (Sx i).data.toList))
      simp only [Rows.uptoBulk]
      simp only [List.length_map, List.length_range] at this ⊢
      omega
    · obtain ⟨i, hi, rfl⟩ := List.mem_map.1 hs
      have := bulk_part (List.mem_map_of_mem (f := fun i => DataW.lit (H := H) (.string (Sx i).data.toList)) hi)
      rw [bulk_string] at this
      simp only [Rows.uptoBulk]
      omega

/-! ### The listed variables -/
/-- A table that stands anywhere on the list. -/
theorem tab_of {P : Program} {W : World} {name : String} {k : IntKind} {zs : List Int} {g : Nat} {t e : TypeId} {n : Nat}
    (hg : P.globalNamed name = some g) (hty : (P.globals[g]?).map (·.type) = some t) (ht : P.underlying t = some (.array n e)) (he : P.underlying e = some (.int k)) (hce : P.cellsOf e = 1) (hct : P.cellsOf t = n) (rest : List (String × DataW Unit)) :
    ∀ (pre : List (String × DataW Unit)) (ps : List MemPlace), DataW.LaidVars P W (pre ++ (name, Lib.tabData k zs) :: rest) ps → Lib.TabIs P W name k zs
  | [], _, h => by
    obtain ⟨g', t', cs, fuel, p, q, hg', ht', hvar, hd, _, _⟩ := h
    obtain rfl := Option.some.inj (hg.symm.trans hg')
    obtain rfl := Option.some.inj (hty.symm.trans ht')
    unfold Lib.TabIs
    rw [hvar, ← Lib.cells_of_tab ht he hce hct hd]
  | x :: pre, _, h => by
    obtain ⟨_, _, _, _, _, q, _, _, _, _, hr, _⟩ := h
    exact tab_of hg hty ht he hce hct rest pre q hr

theorem gRounds : Tryz.prog.globalNamed "grove/digest.rounds" = some 2 := by kernel_rfl
def keysI : List Int := Sha.keys.map fun (n : Nat) => (n : Int)
theorem rounds_data : Rows.laid_grove_digest_rounds (H := Unit) = Lib.tabData .u32 keysI := by kernel_rfl
theorem table_of {W : World} (rest pre : List (String × DataW Unit)) (ps : List MemPlace) (h : DataW.LaidVars Tryz.prog W (pre ++ ("grove/digest.rounds", Rows.laid_grove_digest_rounds) :: rest) ps) : Table W := by
  rw [rounds_data] at h
  have hT := tab_of gRounds (t := 156) (n := 64) (e := 114) (by kernel_rfl) Tryz.underlying156 Tryz.underlying114 (by kernel_rfl) (by kernel_rfl) rest pre ps h
  intro i hi
  have := hT.cell gRounds i (by simp only [keysI, List.length_map]; exact hi)
  rw [this]
  have hk : i < Sha.keys.length := hi
  simp [keysI, List.getD, hk]
theorem table_lt {W : World} (h : Table W) : 2 < W.heap.size := World.block_lt_of_cell? W _ (h 0 (by decide))
end Go.Proofs.YtlhohmlpcgbliabGreatDoor
