import Derived.Test.YtlhohmlpcgbliaaGreatDoorZX14
import Derived.Test.YtlhohmlpcgbliaaGreatDoorCards
import Derived.ProofKit
import Derived.OpenShut
import Derived.Carry
import Derived.Deep.DeepHandedRow
import Derived.Lib.LaidTab
import Derived.Deep.Strs
import Derived.Test.YtlhohmlpcgbliaaGreatDoorZY21
namespace Go.Proofs.YtlhohmlpcgbliaaGreatDoor
set_option maxRecDepth 100000
open Go.ChangeShapes Go.WideShapes Go.ChangeAt Go.RowKit

theorem laidOut' : laidOutB Tryz.prog = true := by kernel_rfl
theorem ownK : ownKnob Tryz.prog.godebug = none := by kernel_rfl

/-- Each of these types can be read and is a row of the table. -/
def rowed (P : Program) (ts : List TypeId) : Bool := ts.all fun t => P.readableRec t && decide (t < P.types.size)

theorem trodAll_below {H : Type} {enc : TypeId × Value → H} {P : Program} (hl : laidOutB P = true) {W W' : World} (hb : Below W.heap.size W W') :
    ∀ {ts : List TypeId} {vs : List Value} {ds : List (DataW H)} {ps : List MemPlace}, rowed P ts = true → DataW.TrodAll enc P W 0 (fun _ => true) true ts vs ds ps →
      DataW.TrodAll enc P W' 0 (fun b => decide (b < W.heap.size)) true ts vs ds ps
  | [], _, _, _, _, h => by
    obtain ⟨rfl, rfl, rfl⟩ := trodAll_nil h
    exact trodAll_mk0
  | t :: ts, _, _, _, hr, h => by
    have hlt := h.lt
    obtain ⟨v, vs, d, ds, p, q, rfl, rfl, rfl, h1, h2⟩ := trodAll_cons h
    simp only [rowed, List.all_cons, Bool.and_eq_true, decide_eq_true_eq] at hr
    exact ⟨p, q, Below.trod hl hr.1.1 hr.1.2 h1 hb (fun x hx => hlt x (List.mem_append.2 (.inl hx))), trodAll_below hl hb (by simpa [rowed] using hr.2) h2, rfl⟩

/-- What a law's row asks behind the call, where the call gave true and turned nothing old. -/
theorem post_true {H : Type} {enc : TypeId × Value → H} {P : Program} {f : Func} {s : ChangeSpec} {W W' : World} {args : Array Value} {ds gs : List (DataW H)} {before : List MemPlace} {tb : TypeId}
    (hl : laidOutB P = true) (hW : DataW.Whole enc P f.params.toList s.vars false W args.toList ds gs before) (hv : s.vars = []) (hfn : s.fn H (ds ++ gs) = { results := [.lit (.bool true)], args := ds })
    (hr : f.resultTypes = #[tb]) (ht : P.underlying tb = some .bool) (hrow : rowed P f.params.toList = true) (hb : Below W.heap.size W W') : s.post enc P f false true false false W args (.bool true) W' := by
  have hW' := hW
  obtain ⟨p, q, hA, hV, rfl, _, _⟩ := hW
  refine ⟨ds, gs, _, [], p, [], hW', ?_, ?_, ?_, hb.frame _, fun h => by cases h⟩
  · rw [hfn, hr]
    exact trodAll_cons_mk (shut_bool ht _) trodAll_mk0
  · rw [hfn]
    exact trodAll_below hl hb hrow hA
  · rw [hfn, hv]
    rfl

/-! ### What the bound gives -/
theorem bulk_one {H : Type} (d : DataW H) : 1 ≤ Rows.uptoBulk d := by
  cases d with
  | lit l => cases l <;> simp [Rows.uptoBulk]
  | nil => simp [Rows.uptoBulk]
  | ptr d => simp [Rows.uptoBulk]
  | slice elems spare => simp [Rows.uptoBulk]
  | agg parts => simp [Rows.uptoBulk]
  | iface t d => simp [Rows.uptoBulk]
  | map entries => simp [Rows.uptoBulk]
  | held h => simp [Rows.uptoBulk]
theorem bulk_part {H : Type} {d : DataW H} {l : List (DataW H)} (h : d ∈ l) : Rows.uptoBulk d ≤ Rows.uptoBulkAll l := by
  induction l with
  | nil => cases h
  | cons x r ih =>
    simp only [Rows.uptoBulkAll]
    cases List.mem_cons.1 h with
    | inl e => subst e; omega
    | inr e => have := ih e; omega
theorem bulk_length {H : Type} (l : List (DataW H)) : l.length ≤ Rows.uptoBulkAll l := by
  induction l with
  | nil => simp [Rows.uptoBulkAll]
  | cons x r ih => have := bulk_one x; simp only [Rows.uptoBulkAll, List.length_cons]; omega
theorem bulk_small {H : Type} {l : List (DataW H)} (hk : Rows.uptoSmall H l = true) : Rows.uptoBulkAll l ≤ 1048576 := of_decide_eq_true hk

/-! ### The listed variables -/
/-- A table that stands anywhere on the list. -/
theorem tab_of {P : Program} {W : World} {name : String} {k : IntKind} {zs : List Int} {g : Nat} {t e : TypeId} {n : Nat}
    (hg : P.globalNamed name = some g) (hty : (P.globals[g]?).map (·.type) = some t) (ht : P.underlying t = some (.array n e)) (he : P.underlying e = some (.int k)) (hce : P.cellsOf e = 1) (hct : P.cellsOf t = n) (rest : List (String × DataW Unit)) :
    ∀ (pre : List (String × DataW Unit)) (ps : List MemPlace), DataW.LaidVars P W (pre ++ (name, Lib.tabData k zs) :: rest) ps → Lib.TabIs P W name k zs
  | [], _, h => by
    obtain ⟨g', t', cs, fuel, p, q, hg', ht', hvar, hd, _, _⟩ := h
    obtain rfl := Option.some.inj (hg.symm.trans hg')
    obtain rfl := Option.some.inj (hty.symm.trans ht')
    unfold Lib.TabIs
    rw [hvar, ← Lib.cells_of_tab ht he hce hct hd]
  | x :: pre, _, h => by
    obtain ⟨_, _, _, _, _, q, _, _, _, _, hr, _⟩ := h
    exact tab_of hg hty ht he hce hct rest pre q hr

theorem gRounds : Tryz.prog.globalNamed "grove/digest.rounds" = some 0 := by kernel_rfl
def keysI : List Int := Sha.keys.map fun (n : Nat) => (n : Int)
theorem rounds_data : Rows.laid_grove_digest_rounds (H := Unit) = Lib.tabData .u32 keysI := by kernel_rfl
theorem table_of {W : World} (rest pre : List (String × DataW Unit)) (ps : List MemPlace) (h : DataW.LaidVars Tryz.prog W (pre ++ ("grove/digest.rounds", Rows.laid_grove_digest_rounds) :: rest) ps) : Table W := by
  rw [rounds_data] at h
  have hT := tab_of gRounds (t := 149) (n := 64) (e := 115) (by kernel_rfl) Tryz.underlying149 Tryz.underlying115 (by kernel_rfl) (by kernel_rfl) rest pre ps h
  intro i hi
  have := hT.cell gRounds i (by simp only [keysI, List.length_map]; exact hi)
  rw [this]
  have hk : i < Sha.keys.length := hi
  simp [keysI, List.getD, hk]
theorem table_lt {W : World} (h : Table W) : 0 < W.heap.size := World.block_lt_of_cell? W _ (h 0 (by decide))
end Go.Proofs.YtlhohmlpcgbliaaGreatDoor
namespace Go.Proofs.YtlhohmlpcgbliaaGreatDoor
set_option maxRecDepth 100000
open Go.ChangeShapes Go.WideShapes Go.ChangeAt Go.RowKit

theorem spotY_none {w : World} {a : Addr} {v : Value} (h0 : w.cell? (a.add 0) = some v) : a.spot = none := by
  obtain ⟨b, o, sp⟩ := a
  simp only [Addr.add, if_true, World.cell?] at h0
  split at h0
  · cases sp with
    | none => rfl
    | some x => simp at h0
  · cases h0
theorem bulk_agg {H : Type} {d : DataW H} {l : List (DataW H)} (h : d ∈ l) : Rows.uptoBulk d < Rows.uptoBulk (.agg l) := by
  have := bulk_part h
  simp only [Rows.uptoBulk]
  omega

/-- An argument that is a script of calls. -/
theorem arg_calls {H : Type} {enc : TypeId × Value → H} {W : World} {base : Nat} {v : Value} {d : DataW H} {p : List MemPlace} (hv : Value.okWide Tryz.prog W .any base 22 v)
    (h : DataW.Trod enc Tryz.prog W 0 (fun _ => true) true 22 v d p) (hbk : Rows.uptoBulk d ≤ 1048576) : RawC W v := by
  obtain ⟨a, len, cap, rfl⟩ := okWide_slice Tryz.underlying22 hv
  obtain ⟨fuel, hf⟩ := h
  rcases Deep.open_slice Tryz.underlying22 hf with ⟨hc, hx⟩ | ⟨a', len', cap', m, n, D, Pl, hc, _, hl, _, hm, hx, hcell⟩
  · simp only [Value.cells, List.cons.injEq, and_true] at hc
    exact ⟨_, _, _, hc, by omega, fun i hi => by omega⟩
  · simp only [Value.cells, List.cons.injEq, and_true] at hc
    have ce : Tryz.prog.cellsOf 37 = 5 := by kernel_rfl
    have ci : Tryz.prog.cellsOf 3 = 1 := by kernel_rfl
    have cl : Tryz.prog.cellsOf 32 = 1 := by kernel_rfl
    rw [ce] at hcell
    have hlm : len' ≤ m := by rw [hm]; split <;> omega
    cases hx
    have hbl := bulk_length ((List.range len').map D)
    have hbe : ∀ i, i < len' → Rows.uptoBulk (D i) ≤ 1048576 := fun i hi => by
      have := bulk_part (List.mem_map_of_mem (f := D) (List.mem_range.2 hi))
      simp only [Rows.uptoBulk] at hbk
      omega
    refine ⟨_, _, _, hc, ?_, fun i hi => ?_⟩
    · simp only [Rows.uptoBulk] at hbk
      simp only [List.length_map, List.length_range] at hbl
      omega
    · have hs : a'.spot = none := by
        obtain ⟨cs0, h01, _⟩ := hcell 0 (by omega)
        obtain ⟨_, hlen0, hc0⟩ := World.cells?_some h01
        have := hc0 0 (by omega)
        rw [Deep.add_add, List.getElem?_eq_getElem (by omega)] at this
        simp only [Nat.zero_mul, Nat.zero_add] at this
        exact spotY_none this
      obtain ⟨sb, so, sp⟩ := a'
      obtain rfl : sp = none := hs
      obtain ⟨cs', h1, h2⟩ := hcell i (by omega)
      obtain ⟨_, hlen, hc1⟩ := World.cells?_some h1
      obtain ⟨xs, k, hk, hxy, _, hxl, hfd⟩ := DataW.trod_struct Tryz.underlying37 h2
      match xs, hxl, cs', hlen with
      | [y0, y1, y2, y3, y4], _, [v0, v1, v2, v3, v4], _ =>
        have g0 := hfd 0 _ rfl
        have g1 := hfd 1 _ rfl
        have g2 := hfd 2 _ rfl
        have g3 := hfd 3 _ rfl
        have g4 := hfd 4 _ rfl
        simp [ci, cl] at g0 g1 g2 g3 g4
        obtain ⟨z0, hz0, _, _⟩ := DataW.trod_int Tryz.underlying3 g0
        obtain ⟨z1, hz1, _, hw1⟩ := DataW.trod_int Tryz.underlying3 g1
        obtain ⟨z2, hz2, _, hw2⟩ := DataW.trod_int Tryz.underlying3 g2
        obtain ⟨z3, hz3, _, _⟩ := DataW.trod_int Tryz.underlying3 g3
        have e0 : v0 = .int .i64 z0 := by simpa using hz0
        have e1 : v1 = .int .i64 z1 := by simpa using hz1
        have e2 : v2 = .int .i64 z2 := by simpa using hz2
        have e3 : v3 = .int .i64 z3 := by simpa using hz3
        subst e0 e1 e2 e3
        simp only [Lit.wf, Bool.and_eq_true, decide_eq_true_eq] at hw1 hw2
        have hrange : W.rangeAt sb (so + i * 5) [.int .i64 z0, .int .i64 z1, .int .i64 z2, .int .i64 z3, v4] := fun j u hj => by
          have hj5 : j < 5 := (List.getElem?_eq_some_iff.1 hj).1
          have := hc1 j hj5
          rw [Addr.add_mid, Addr.add_mid, hj] at this
          exact this
        have hD : D i = .agg [y0.1, y1.1, y2.1, y3.1, y4.1] := by
          have := congrArg Prod.fst hxy
          simpa using this
        have hb4 : Rows.uptoBulk y4.1 < 1048576 := by
          have h5 := hbe i hi
          rw [hD] at h5
          have := bulk_agg (d := y4.1) (l := [y0.1, y1.1, y2.1, y3.1, y4.1]) (by simp)
          omega
        rcases Deep.open_strs Tryz.underlying32 Tryz.underlying9 (by kernel_rfl) g4 with ⟨hc4, _⟩ | ⟨a4, len4, cap4, m4, Sx, hc4, _, hl4, _, hm4, hx4, hcell4⟩
        · simp only [List.cons.injEq, and_true] at hc4
          exact ⟨sb, so, z0, z1, z2, z3, v4, [], rfl, hrange, hw1.1, hw1.2, hw2.1, hw2.2, .inl ⟨hc4, rfl⟩, by simp⟩
        · simp only [List.cons.injEq, and_true] at hc4
          have hlm4 : len4 ≤ m4 := by rw [hm4]; split <;> omega
          refine ⟨sb, so, z0, z1, z2, z3, v4, (List.range len4).map Sx, rfl, hrange, hw1.1, hw1.2, hw2.1, hw2.2, .inr ⟨a4, cap4, by simpa using hc4, fun j s hs => ?_⟩, ?_⟩
          · rw [List.getElem?_map, Option.map_eq_some_iff] at hs
            obtain ⟨j', hj', rfl⟩ := hs
            obtain ⟨hj1, rfl⟩ := List.getElem?_eq_some_iff.1 hj'
            rw [List.length_range] at hj1
            rw [List.getElem_range]
            exact (hcell4 j (by omega)).1
          · have hy4 : y4.1 = .slice ((List.range len4).map fun i => .lit (.string (Sx i).data.toList)) ((List.range (m4 - len4)).map fun j => .lit (.string (Sx (len4 + j)).data.toList)) := by rw [hx4]
            rw [hy4] at hb4
            have := bulk_length ((List.range len4).map fun i => DataW.lit (H := H) (.string (Sx i).data.toList))
            simp only [Rows.uptoBulk] at hb4
            simp only [List.length_map, List.length_range] at this ⊢
            omega
end Go.Proofs.YtlhohmlpcgbliaaGreatDoor
