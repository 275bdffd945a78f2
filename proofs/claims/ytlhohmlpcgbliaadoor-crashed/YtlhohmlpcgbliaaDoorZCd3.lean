import Derived.Test.YtlhohmlpcgbliaaDoorZX14
import Derived.Test.YtlhohmlpcgbliaaDoorCards
import Derived.ProofKit
import Derived.OpenShut
import Derived.Carry
import Derived.Deep.DeepHandedRow
import Derived.Lib.LaidTab
import Derived.Deep.Strs
import Derived.Test.YtlhohmlpcgbliaaDoorZT3
import Derived.Test.YtlhohmlpcgbliaaDoorZV2
namespace Go.Proofs.YtlhohmlpcgbliaaDoor
set_option maxRecDepth 100000
open Go.ChangeShapes Go.WideShapes Go.ChangeAt Go.RowKit

theorem laidOut' : laidOutB Tryd.prog = true := by kernel_rfl
theorem ownK : ownKnob Tryd.prog.godebug = none := by kernel_rfl

/-- Each of these types can be read and is a row of the table. -/
def rowed (P : Program) (ts : List TypeId) : Bool := ts.all fun t => P.readableRec t && decide (t < P.types.size)

theorem trodAll_below {H : Type} {enc : TypeId × Value → H} {P : Program} (hl : laidOutB P = true) {W W' : World} (hb : Below W.heap.size W W') :
    ∀ {ts : List TypeId} {vs : List Value} {ds : List (DataW H)} {ps : List MemPlace}, rowed P ts = true → DataW.TrodAll enc P W 0 (fun _ => true) true ts vs ds ps →
      DataW.TrodAll enc P W' 0 (fun b => decide (b < W.heap.size)) true ts vs ds ps
  | [], _, _, _, _, h => by
    obtain ⟨rfl, rfl, rfl⟩ := trodAll_nil h
    exact trodAll_mk0
  | t :: ts, _, _, _, hr, h => by
    have hlt := h.lt
    obtain ⟨v, vs, d, ds, p, q, rfl, rfl, rfl, h1, h2⟩ := trodAll_cons h
    simp only [rowed, List.all_cons, Bool.and_eq_true, decide_eq_true_eq] at hr
    exact ⟨p, q, Below.trod hl hr.1.1 hr.1.2 h1 hb (fun x hx => hlt x (List.mem_append.2 (.inl hx))), trodAll_below hl hb (by simpa [rowed] using hr.2) h2, rfl⟩

/-- What a law's row asks behind the call, where the call gave true and turned nothing old. -/
theorem post_true {H : Type} {enc : TypeId × Value → H} {P : Program} {f : Func} {s : ChangeSpec} {W W' : World} {args : Array Value} {ds gs : List (DataW H)} {before : List MemPlace} {tb : TypeId}
    (hl : laidOutB P = true) (hW : DataW.Whole enc P f.params.toList s.vars false W args.toList ds gs before) (hv : s.vars = []) (hfn : s.fn H (ds ++ gs) = { results := [.lit (.bool true)], args := ds })
    (hr : f.resultTypes = #[tb]) (ht : P.underlying tb = some .bool) (hrow : rowed P f.params.toList = true) (hb : Below W.heap.size W W') : s.post enc P f false true false false W args (.bool true) W' := by
  have hW' := hW
  obtain ⟨p, q, hA, hV, rfl, _, _⟩ := hW
  refine ⟨ds, gs, _, [], p, [], hW', ?_, ?_, ?_, hb.frame _, fun h => by cases h⟩
  · rw [hfn, hr]
    exact trodAll_cons_mk (shut_bool ht _) trodAll_mk0
  · rw [hfn]
    exact trodAll_below hl hb hrow hA
  · rw [hfn, hv]
    rfl

/-! ### What the bound gives -/
/-! ### The listed variables -/
/-- A table that stands anywhere on the list. -/
theorem tab_of {P : Program} {W : World} {name : String} {k : IntKind} {zs : List Int} {g : Nat} {t e : TypeId} {n : Nat}
    (hg : P.globalNamed name = some g) (hty : (P.globals[g]?).map (·.type) = some t) (ht : P.underlying t = some (.array n e)) (he : P.underlying e = some (.int k)) (hce : P.cellsOf e = 1) (hct : P.cellsOf t = n) (rest : List (String × DataW Unit)) :
    ∀ (pre : List (String × DataW Unit)) (ps : List MemPlace), DataW.LaidVars P W (pre ++ (name, Lib.tabData k zs) :: rest) ps → Lib.TabIs P W name k zs
  | [], _, h => by
    obtain ⟨g', t', cs, fuel, p, q, hg', ht', hvar, hd, _, _⟩ := h
    obtain rfl := Option.some.inj (hg.symm.trans hg')
    obtain rfl := Option.some.inj (hty.symm.trans ht')
    unfold Lib.TabIs
    rw [hvar, ← Lib.cells_of_tab ht he hce hct hd]
  | x :: pre, _, h => by
    obtain ⟨_, _, _, _, _, q, _, _, _, _, hr, _⟩ := h
    exact tab_of hg hty ht he hce hct rest pre q hr

theorem gRounds : Tryd.prog.globalNamed "grove/digest.rounds" = some 2 := by kernel_rfl
def keysI : List Int := Sha.keys.map fun (n : Nat) => (n : Int)
theorem rounds_data : Rows.laid_grove_digest_rounds (H := Unit) = Lib.tabData .u32 keysI := by kernel_rfl
theorem table_of {W : World} (rest pre : List (String × DataW Unit)) (ps : List MemPlace) (h : DataW.LaidVars Tryd.prog W (pre ++ ("grove/digest.rounds", Rows.laid_grove_digest_rounds) :: rest) ps) : Table W := by
  rw [rounds_data] at h
  have hT := tab_of gRounds (t := 172) (n := 64) (e := 142) (by kernel_rfl) Tryd.underlying172 Tryd.underlying142 (by kernel_rfl) (by kernel_rfl) rest pre ps h
  intro i hi
  have := hT.cell gRounds i (by simp only [keysI, List.length_map]; exact hi)
  rw [this]
  have hk : i < Sha.keys.length := hi
  simp [keysI, List.getD, hk]
theorem table_lt {W : World} (h : Table W) : 2 < W.heap.size := World.block_lt_of_cell? W _ (h 0 (by decide))
end Go.Proofs.YtlhohmlpcgbliaaDoor
namespace Go.Proofs.YtlhohmlpcgbliaaDoor
set_option maxRecDepth 100000
open Go.RowKit

end Go.Proofs.YtlhohmlpcgbliaaDoor
namespace Go.Proofs.YtlhohmlpcgbliaaDoor
set_option maxRecDepth 100000
open Go.ChangeShapes Go.WideShapes Go.ChangeAt Go.RowKit

theorem spot_none {w : World} {a : Addr} {v : Value} (h0 : w.cell? (a.add 0) = some v) : a.spot = none := by
  obtain ⟨b, o, sp⟩ := a
  simp only [Addr.add, if_true, World.cell?] at h0
  split at h0
  · cases sp with
    | none => rfl
    | some x => simp at h0
  · cases h0

/-- An argument that is a list of numbers. -/
theorem arg_ints {H : Type} {enc : TypeId × Value → H} {W : World} {base : Nat} {v : Value} {d : DataW H} {p : List MemPlace} (hv : Value.okWide Tryd.prog W .any base 32 v)
    (h : DataW.Trod enc Tryd.prog W 0 (fun _ => true) true 32 v d p) : RawI W v := by
  obtain ⟨a, len, cap, rfl⟩ := okWide_slice Tryd.underlying32 hv
  obtain ⟨fuel, hf⟩ := h
  rcases Deep.open_slice1 Tryd.underlying32 (by kernel_rfl) hf with ⟨hc, hx⟩ | ⟨a', len', cap', m, n, V, D, Pl, hc, _, hl, _, hm, hx, hcell⟩
  · simp only [Value.cells, List.cons.injEq, and_true] at hc
    exact ⟨_, _, _, hc, fun i hi => by omega⟩
  · simp only [Value.cells, List.cons.injEq, and_true] at hc
    have hlm : len' ≤ m := by rw [hm]; split <;> omega
    refine ⟨_, _, _, hc, fun i hi => ?_⟩
    obtain ⟨h1, h2⟩ := hcell i (by omega)
    obtain ⟨z, hz, _, hwf⟩ := DataW.trod_int Tryd.underlying3 h2
    have hV : V i = .int .i64 z := by simpa using hz
    have hs := spot_none (hcell 0 (by omega)).1
    obtain ⟨b, o, sp⟩ := a'
    obtain rfl : sp = none := hs
    rw [Addr.add_mid, hV] at h1
    simp only [Lit.wf, Bool.and_eq_true, decide_eq_true_eq] at hwf
    exact ⟨b, o, z, rfl, h1, hwf.1, hwf.2⟩
end Go.Proofs.YtlhohmlpcgbliaaDoor
