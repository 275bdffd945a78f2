import Derived.Test.YtlhohmlpcgbliabGreatDoorZY2
import Derived.Deep.AppendLies
import Derived.Laws.OwnMore
import Derived.Test.YtlhohmlpcgbliabGreatDoorZQ3
namespace Go.Proofs.YtlhohmlpcgbliabGreatDoor
set_option maxRecDepth 100000
open Go.RowKit
attribute [local go_sem ↓] Go.wp_at_zero Go.wp_at_succ

/-- An append of nothing. -/
theorem run_append_zero {P : Program} (w : World) (base : Nat) (t ty e : TypeId) (i : TypeInfo) (size : Nat) (ht : P.underlying t = some (.slice e)) (hi : P.info? e = some i)
    (v : Value) (n : Nat) (xs : List Value) (hown : w.ownsRow base e size v n xs) (p : Option Addr) (c : Nat) :
    (Builtin.append_ #[t, t] ty #[v, .slice p 0 c]).run P w = .ok v w := by
  cases p with
  | none =>
    rcases hown.2 with ⟨rfl, rfl⟩ | ⟨g, cap, cur, rfl, _, _, hnc, _⟩
    · simp [Builtin.append_, run_underlying ht, sizeOf, typeInfo, hi, Builtin.lenOf, Builtin.firstCells]
    · simp [Builtin.append_, run_underlying ht, sizeOf, typeInfo, hi, Builtin.lenOf, Builtin.firstCells, hnc, storeCells]
  | some a =>
    rcases hown.2 with ⟨rfl, rfl⟩ | ⟨g, cap, cur, rfl, _, _, hnc, _⟩
    · simp [Builtin.append_, run_underlying ht, sizeOf, typeInfo, hi, Builtin.lenOf, Builtin.firstCells, loadCells, loadCellsFrom]
    · simp [Builtin.append_, run_underlying ht, sizeOf, typeInfo, hi, Builtin.lenOf, Builtin.firstCells, loadCells, loadCellsFrom, hnc, storeCells]

/-- An append of texts onto a row of texts. -/
theorem wp_appS {w : World} {o : Oper} {a : Act} {K : Act → World → Prop} {Q : Exit → Act → World → Prop} (s x : Operand)
    (ho : o.op = .call { callee := .builtin .append, args := #[s, x], argTypes := #[22, 22] }) (v : Value) (xs : List ByteArray) (hs : a.eval s = v) (hown : Row w 0 9 v (strv xs)) (u : Value) (ss : List ByteArray) (hx : a.eval x = u) (hS : Strs w u ss)
    (hlen : xs.length + ss.length ≤ 1000000000000)
    (h : ∀ v' w', Row w' 0 9 v' (strv (xs ++ ss)) → w.grownBy w' v.ownBlock → (v'.ownBlock = v.ownBlock ∨ v'.ownBlock = some w.heap.size) → K (a.put o.dst v') w') : o.wp Tryz.prog a w K Q := by
  obtain ⟨i, hi, hiz, his, hib⟩ := elem_string
  by_cases h0 : 0 < ss.length
  · obtain ⟨g, off, c, rfl, hSA⟩ := hS.nil_or h0
    refine wp_append_lies w s x 22 ho 0 9 i _ 1 16 Tryz.underlying22 hi hiz his hib rfl (by omega) v (strv xs).length (strv xs) hs hown ⟨g, off, none⟩ ss.length c (strv ss) hx (by simp) ?_ ?_ h0 (by unfold maxLen; rw [strv_length]; omega) (by rw [strv_length]; omega) (Nat.zero_le _) w.heap.size rfl ?_
    · intro j y hy
      rw [Addr.add_mid]
      simp only [strv, List.getElem?_map, Option.map_eq_some_iff] at hy
      obtain ⟨s', h1, rfl⟩ := hy
      exact hSA j s' h1
    · intro y hy
      obtain ⟨s', _, rfl⟩ := List.mem_map.1 hy
      rfl
    intro g2 cap2 w3 hown2 hgr hg _
    refine h _ w3 ?_ hgr ?_
    · unfold Row
      rw [strv_append, List.length_append, strv_length ss]
      exact hown2
    · rcases hg with e | e
      · exact .inl e.symm
      · exact .inr (by rw [e]; rfl)
  · have hss : ss = [] := List.length_eq_zero_iff.1 (by omega)
    subst hss
    obtain ⟨p, c, rfl, _⟩ := hS
    have hrun := run_append_zero (P := Tryz.prog) w 0 22 o.type 9 i 1 Tryz.underlying22 hi v _ (strv xs) hown p c
    have hh := h v w (by rw [List.append_nil]; exact hown) ⟨rfl, rfl, rfl, Nat.le_refl _, fun _ _ _ => rfl⟩ (.inl rfl)
    unfold Oper.wp execOp
    simp only [List.length_nil] at hx
    simp only [ho, resolve, invoke, builtin, Sem.run_bind, Sem.run_pure, Result.andThen_ok, List.map_toArray, List.map_cons, List.map_nil, hs, hx, hrun]
    exact hh
theorem wpList_appS {w : World} {ops : Array Oper} {rest : List Oper} {o : Oper} {a : Act} {Q : Exit → Act → World → Prop} (hgd : o.guard = none) (s x : Operand)
    (ho : o.op = .call { callee := .builtin .append, args := #[s, x], argTypes := #[22, 22] }) (v : Value) (xs : List ByteArray) (hs : a.eval s = v) (hown : Row w 0 9 v (strv xs)) (u : Value) (ss : List ByteArray) (hx : a.eval x = u) (hS : Strs w u ss)
    (hlen : xs.length + ss.length ≤ 1000000000000)
    (h : ∀ v' w', Row w' 0 9 v' (strv (xs ++ ss)) → w.grownBy w' v.ownBlock → (v'.ownBlock = v.ownBlock ∨ v'.ownBlock = some w.heap.size) → wpList Tryz.prog ops Q rest (a.put o.dst v') w') : wpList Tryz.prog ops Q (o :: rest) a w :=
  wpList_plain hgd fun _ hK => wp_appS s x ho v xs hs hown u ss hx hS hlen fun v' w' h1 h2 h3 => hK _ _ (h v' w' h1 h2 h3)

/-- The log behind an append to what waits, and its store. -/
theorem RefAt.wait {w w1 : World} {r : Nat} {ev uv uv' : Value} {E W ss : List ByteArray} (h : RefAt w r ev uv E W) (hrow : Row w1 0 9 uv' (strv (W ++ ss))) (hgr : w.grownBy w1 uv.ownBlock) (hg : uv'.ownBlock = uv.ownBlock ∨ uv'.ownBlock = some w.heap.size) :
    RefAt (w1.setCell ⟨r, 1, none⟩ uv') r ev uv' E (W ++ ss) ∧ FrL r r ev.ownBlock uv.ownBlock ev.ownBlock uv'.ownBlock w (w1.setCell ⟨r, 1, none⟩ uv') := by
  have hrl := h.blk.lt
  have hB1 : Blk w1 r 52 [ev, uv] := by
    unfold Blk
    rw [hgr.block r hrl (Ne.symm h.rb)]
    exact h.blk
  have hr' : uv'.ownBlock ≠ some r := by
    rcases hg with e | e
    · rw [e]; exact h.rb
    · rw [e]; simp; omega
  have her : Row w1 0 9 ev (strv E) := ownsRow_kept h.er fun k e hk => hgr.block k hk (fun e2 => h.eu k e e2.symm)
  refine ⟨⟨(hB1.set 1 uv').eq rfl, ownsRow_setCell_other her h.ra _, ownsRow_setCell_other hrow hr' _, fun k hk => ?_, h.ra, hr'⟩, ⟨hgr.os, hgr.tape, hgr.output, ?_, fun k hk h1 _ _ h4 => ?_, .inr (.inl rfl), ?_⟩⟩
  · rcases hg with e | e
    · rw [e]; exact h.eu k hk
    · have := (h.er.lt k hk).2
      rw [e]; simp; omega
  · simpa [World.setCell] using hgr.size
  · rw [Below.heap_setCell _ _ _ _ h1]
    exact hgr.block k hk (Ne.symm h4)
  · rcases hg with e | e
    · exact .inr (.inl e)
    · exact .inr (.inr ⟨_, e, Nat.le_refl _⟩)

set_option maxHeartbeats 4000000 in
/-- The document's Submit. -/
theorem refSubmit_any {w : World} {r : Nat} {ev uv : Value} {E W : List ByteArray} (h : RefAt w r ev uv E W) (hE : E.length ≤ 64) (hW : W.length ≤ 12) (v : Value) (ss : List ByteArray) (hS : Strs w v ss) (hn : ss.length ≤ 1000000000) :
    Calls Tryz.prog 63 #[.pointer (some ⟨r, 0, none⟩), v] w fun e w' => e = .returned (.int .i64 (subE E.length W.length ss)) ∧ ∃ uv', RefAt w' r ev uv' E (subW E.length W ss) ∧ FrL r r ev.ownBlock uv.ownBlock ev.ownBlock uv'.ownBlock w w' := by
  have HH : Hid (RefAt w r ev uv E W ∧ Strs w v ss) := ⟨h, hS⟩
  have hc0 := h.blk.cell 0
  have hc1 := h.blk.cell 1
  have hf1 := h.blk.frozen 1
  simp only [List.getElem?_cons_zero, List.getElem?_cons_succ] at hc0 hc1
  obtain ⟨pe, ce, hev, -, -, -⟩ := rowY_slice h.er
  obtain ⟨pu, cu, huv, -, -, -⟩ := rowY_slice h.ur
  subst hev huv
  obtain ⟨p, cc, rfl, hcells⟩ := hS
  have HS : Hid (∀ (i : Nat) s, ss[i]? = some s → ∃ g off, p = some ⟨g, off, none⟩ ∧ w.cell? ⟨g, off + i, none⟩ = some (.string s)) := hcells
  clear hcells h
  go_enter Tryz.func63, Tryz.ntmps63
  try go_wp2
  go_loopw [5] (fun v wr => ∃ k : Nat, k ≤ ss.length ∧ v = .int .i64 (k : Int) ∧ (∀ x ∈ ss.take k, x.size ≤ 40) ∧ wr = w) (fun v _ => ss.length - (intOf v).toNat)
  case atStart => exact ⟨0, by omega, rfl, by simp, rfl⟩
  case round =>
    obtain ⟨k, hk, rfl, h40, rfl⟩ := hrel
    by_cases h8 : k < ss.length
    · obtain ⟨s, hs⟩ : ∃ s, ss[k]? = some s := ⟨_, List.getElem?_eq_getElem h8⟩
      obtain ⟨g, off, rfl, hcell⟩ := HS.out k s hs
      by_cases hsz : s.size ≤ 40
      · have H40 : Hid (∀ x ∈ ss.take (k + 1), x.size ≤ 40) := take_le40 h40 hs hsz
        have hsz' : ¬ (s.size : Int) > 40 := by omega
        clear hs h40
        go_wp2
        go_roundw
        case rel => exact ⟨k + 1, by omega, by go_num, H40.out, trivial⟩
        case measure => simp [intOf]; omega
      · have hsz' : (s.size : Int) > 40 := by omega
        have HE : Hid (subE E.length W.length ss = 5) := subE_long hs (by omega)
        clear hs h40
        go_wp2
        go_ret
        refine ⟨by rw [HE.out]; rfl, _, ?_, FrL.refl _ _ _ _ _⟩
        rw [subW_not HE.out (by decide)]
        exact HH.out.1
    · have hk8 : k = ss.length := by omega
      subst hk8
      rw [List.take_length] at h40
      by_cases hq : W.length + ss.length ≤ 12
      · have hq1 : ¬ ((W.length : Int) + (ss.length : Int)) > 12 := by omega
        by_cases hfu : E.length + (W.length + ss.length) ≤ 64
        · have hq2 : ¬ ((E.length : Int) + (W.length : Int) + (ss.length : Int)) > 64 := by omega
          have HE : Hid (subE E.length W.length ss = 0) := subE_ok h40 hq hfu
          clear h40
          go_wp2_with fail
          go_quiet (fail)
          have hbq : Below wr.heap.size wr (wr.drewN nq) := Below.drewN' (Below.refl _ _) nq
          have H2 : Hid (RefAt (wr.drewN nq) r _ _ E W ∧ Strs (wr.drewN nq) _ ss ∧ FrL r r (Value.slice pe E.length ce).ownBlock (Value.slice pu W.length cu).ownBlock (Value.slice pe E.length ce).ownBlock (Value.slice pu W.length cu).ownBlock wr (wr.drewN nq)) := ⟨HH.out.1.below hbq, HH.out.2.below hbq, FrL.of_below hbq⟩
          have hd1 : (wr.drewN nq).cell? ⟨r, 1, none⟩ = some (.slice pu W.length cu) := hc1
          clear hc0 hc1 hf1 hbq HH HS
          generalize wr.drewN nq = w2 at *
          go_wp2_with (at_builtin; refine wpList_appS (by rfl) (.tmp 48) (.tmp 49) (by rfl) _ W (by rfl) H2.out.1.ur _ ss (by rfl) H2.out.2.1 (by omega) ?_)
          intro uv' w3 hrow hgr hg
          have HR : Hid (RefAt (w3.setCell ⟨r, 1, none⟩ uv') r _ uv' E (W ++ ss) ∧ FrL r r (Value.slice pe E.length ce).ownBlock (Value.slice pu W.length cu).ownBlock (Value.slice pe E.length ce).ownBlock uv'.ownBlock w2 (w3.setCell ⟨r, 1, none⟩ uv')) := H2.out.1.wait hrow hgr hg
          have hcr : w3.cell? ⟨r, 1, none⟩ = some (.slice pu W.length cu) := by
            rw [World.cell?_of_block (hgr.block r H2.out.1.blk.lt (Ne.symm H2.out.1.rb))]; exact hd1
          have hfr : w3.frozen? ⟨r, 1, none⟩ = false := by
            rw [World.frozen?_of_block (hgr.block r H2.out.1.blk.lt (Ne.symm H2.out.1.rb))]; exact H2.out.1.blk.frozen 1
          obtain ⟨pv, cv, hpv, -, -, -⟩ := rowY_slice hrow
          rw [List.length_append] at hpv
          subst hpv
          clear hd1 hrow hgr hg
          go_wp2
          go_ret
          refine ⟨by rw [HE.out]; rfl, _, ?_, H2.out.2.2.trans HR.out.2⟩
          rw [subW_ok HE.out]
          exact HR.out.1
        · have hq2 : ((E.length : Int) + (W.length : Int) + (ss.length : Int)) > 64 := by omega
          have HE : Hid (subE E.length W.length ss = 7) := subE_full h40 hq (by omega)
          clear h40
          go_wp2_with fail
          go_quiet (fail)
          go_wp2
          go_ret
          have hbq : Below wr.heap.size wr (wr.drewN nq) := Below.drewN' (Below.refl _ _) nq
          refine ⟨by rw [HE.out]; rfl, _, ?_, FrL.of_below hbq⟩
          rw [subW_not HE.out (by decide)]
          exact HH.out.1.below hbq
      · have hq1 : ((W.length : Int) + (ss.length : Int)) > 12 := by omega
        have HE : Hid (subE E.length W.length ss = 6) := subE_queue h40 (by omega)
        clear h40
        go_wp2
        go_ret
        refine ⟨by rw [HE.out]; rfl, _, ?_, FrL.refl _ _ _ _ _⟩
        rw [subW_not HE.out (by decide)]
        exact HH.out.1

/-- The log behind a Flush. -/
theorem RefAt.flush {w w1 : World} {r : Nat} {ev uv ev' : Value} {E W : List ByteArray} (h : RefAt w r ev uv E W) (hrow : Row w1 0 9 ev' (strv (E ++ W))) (hgr : w.grownBy w1 ev.ownBlock) (hg : ev'.ownBlock = ev.ownBlock ∨ ev'.ownBlock = some w.heap.size) :
    RefAt ((w1.setCell ⟨r, 0, none⟩ ev').setCell ⟨r, 1, none⟩ (.slice none 0 0)) r ev' (.slice none 0 0) (E ++ W) [] ∧ FrL r r ev.ownBlock uv.ownBlock ev'.ownBlock none w ((w1.setCell ⟨r, 0, none⟩ ev').setCell ⟨r, 1, none⟩ (.slice none 0 0)) := by
  have hrl := h.blk.lt
  have hB1 : Blk w1 r 52 [ev, uv] := by
    unfold Blk
    rw [hgr.block r hrl (Ne.symm h.ra)]
    exact h.blk
  have hr' : ev'.ownBlock ≠ some r := by
    rcases hg with e | e
    · rw [e]; exact h.ra
    · rw [e]; simp; omega
  refine ⟨⟨((hB1.set 0 ev').set 1 (.slice none 0 0)).eq rfl, ownsRow_setCell_other (ownsRow_setCell_other hrow hr' _) hr' _, World.ownsRow_nil _ _ _ _, fun k _ => by simp [Value.ownBlock], hr', by simp [Value.ownBlock]⟩, ⟨hgr.os, hgr.tape, hgr.output, ?_, fun k hk h1 _ h3 _ => ?_, ?_, .inl rfl⟩⟩
  · simpa [World.setCell] using hgr.size
  · rw [Below.heap_setCell _ _ _ _ h1, Below.heap_setCell _ _ _ _ h1]
    exact hgr.block k hk (Ne.symm h3)
  · rcases hg with e | e
    · exact .inr (.inl e)
    · exact .inr (.inr ⟨_, e, Nat.le_refl _⟩)
end Go.Proofs.YtlhohmlpcgbliabGreatDoor
namespace Go.Proofs.YtlhohmlpcgbliabGreatDoor
set_option maxRecDepth 100000
open Go.RowKit
attribute [local go_sem ↓] Go.wp_at_zero Go.wp_at_succ

set_option maxHeartbeats 2000000 in
theorem rfR3_wp {c1 c2 c3 c4 c5 c6 c7 c8 c9 c10 c11 c12 c13 c14 c15 c16 c17 c18 c19 c20 c21 c22 c23 c24 c25 : Value} (r ce cu : Nat) (pe pu : Option Addr) (E W : List ByteArray) (w : World) (Q : Exit → Act → World → Prop) (h : RefAt w r (.slice pe E.length ce) (.slice pu W.length cu) E W) (hl : E.length + W.length ≤ 1000000)
    (hQ : ∀ (u6 u7 u8 u9 u10 u11 u12 u13 u14 u15 u16 u17 : Value) (ev' : Value) (w1 : World), Row w1 0 9 ev' (strv (E ++ W)) → w.grownBy w1 (Value.slice pe E.length ce).ownBlock → (ev'.ownBlock = (Value.slice pe E.length ce).ownBlock ∨ ev'.ownBlock = some w.heap.size) → Q .normal ⟨#[.pointer (some ⟨r, 0, none⟩), c1, c2, c3, c4, c5, u6, u7, u8, u9, u10, u11, u12, u13, u14, u15, u16, u17, c18, c19, c20, c21, c22, c23, c24, c25], []⟩ (w1.setCell ⟨r, 0, none⟩ ev')) :
    Code.wp Tryz.prog (rgn Tryz.f65 3) Q ⟨#[.pointer (some ⟨r, 0, none⟩), c1, c2, c3, c4, c5, c6, c7, c8, c9, c10, c11, c12, c13, c14, c15, c16, c17, c18, c19, c20, c21, c22, c23, c24, c25], []⟩ w := by
  have hc0 := h.blk.cell 0
  have hc1 := h.blk.cell 1
  simp only [List.getElem?_cons_zero, List.getElem?_cons_succ] at hc0 hc1
  have hS : (fun wx : World => wx.cell? ⟨r, 0, none⟩ = some (.slice pe E.length ce) ∧ wx.cell? ⟨r, 1, none⟩ = some (.slice pu W.length cu)) w.drew := ⟨hc0, hc1⟩
  have hd : RefAt w.drew r (.slice pe E.length ce) (.slice pu W.length cu) E W := h.below (Below.refl w.heap.size w).drew
  conv => arg 2; whnf
  refine wp_region_z 12 (fun wx : World => wx.cell? ⟨r, 0, none⟩ = some (.slice pe E.length ce) ∧ wx.cell? ⟨r, 1, none⟩ = some (.slice pu W.length cu)) (by kernel_rfl) ?_
  refine wpAnyZ_pure (k := 0) (v := .pointer (some ⟨r, 0, none⟩)) (by rfl) (by kernel_rfl) (by kernel_rfl) (by kernel_rfl) (by rfl) (some 6) (by rfl) (by kernel_rfl) hS (fun wx hx => by kernel_rfl) ?_
  simp only [Act.put, List.setIfInBounds_toArray, List.set_cons_succ, List.set_cons_zero]
  refine wpAnyZ_pure (k := 1) (v := .pointer (some ⟨r, 0, none⟩)) (by rfl) (by kernel_rfl) (by kernel_rfl) (by kernel_rfl) (by rfl) (some 7) (by rfl) (by kernel_rfl) hS (fun wx hx => by kernel_rfl) ?_
  simp only [Act.put, List.setIfInBounds_toArray, List.set_cons_succ, List.set_cons_zero]
  refine wpAnyZ_pure (k := 2) (v := .pointer (some ⟨r, 0, none⟩)) (by rfl) (by kernel_rfl) (by kernel_rfl) (by kernel_rfl) (by rfl) (some 8) (by rfl) (by kernel_rfl) hS (fun wx hx => by kernel_rfl) ?_
  simp only [Act.put, List.setIfInBounds_toArray, List.set_cons_succ, List.set_cons_zero]
  refine wpAnyZ_pure (k := 3) (v := .pointer (some ⟨r, 0, none⟩)) (by rfl) (by kernel_rfl) (by kernel_rfl) (by kernel_rfl) (by rfl) (some 9) (by rfl) (by kernel_rfl) hS (fun wx hx => by kernel_rfl) ?_
  simp only [Act.put, List.setIfInBounds_toArray, List.set_cons_succ, List.set_cons_zero]
  refine wpAnyZ_pure (k := 4) (v := .slice pe E.length ce) (by rfl) (by kernel_rfl) (by kernel_rfl) (by kernel_rfl) (by rfl) (some 10) (by rfl) (by kernel_rfl) hS (fun wx hx => exec_ld (by rfl) (by rfl) (loadStrs wx r 0 _ _ _ hx.1)) ?_
  simp only [Act.put, List.setIfInBounds_toArray, List.set_cons_succ, List.set_cons_zero]
  refine wpAnyZ_pure (k := 5) (v := .pointer (some ⟨r, 0, none⟩)) (by rfl) (by kernel_rfl) (by kernel_rfl) (by kernel_rfl) (by rfl) (some 11) (by rfl) (by kernel_rfl) hS (fun wx hx => by kernel_rfl) ?_
  simp only [Act.put, List.setIfInBounds_toArray, List.set_cons_succ, List.set_cons_zero]
  refine wpAnyZ_pure (k := 6) (v := .pointer (some ⟨r, 0, none⟩)) (by rfl) (by kernel_rfl) (by kernel_rfl) (by kernel_rfl) (by rfl) (some 12) (by rfl) (by kernel_rfl) hS (fun wx hx => by kernel_rfl) ?_
  simp only [Act.put, List.setIfInBounds_toArray, List.set_cons_succ, List.set_cons_zero]
  refine wpAnyZ_pure (k := 7) (v := .pointer (some ⟨r, 1, none⟩)) (by rfl) (by kernel_rfl) (by kernel_rfl) (by kernel_rfl) (by rfl) (some 13) (by rfl) (by kernel_rfl) hS (fun wx hx => by kernel_rfl) ?_
  simp only [Act.put, List.setIfInBounds_toArray, List.set_cons_succ, List.set_cons_zero]
  refine wpAnyZ_pure (k := 8) (v := .slice pu W.length cu) (by rfl) (by kernel_rfl) (by kernel_rfl) (by kernel_rfl) (by rfl) (some 14) (by rfl) (by kernel_rfl) hS (fun wx hx => exec_ld (by rfl) (by rfl) (loadStrs wx r 1 _ _ _ hx.2)) ?_
  simp only [Act.put, List.setIfInBounds_toArray, List.set_cons_succ, List.set_cons_zero]
  refine wpAnyZ_op (i := 9) (by kernel_rfl) (by rfl) (by rfl) ?_
  refine wp_appS (.tmp 10) (.tmp 14) (by rfl) _ E (by rfl) hd.er _ W (by rfl) (row_strs hd.ur) (by omega) ?_
  intro ev' w1 hrow hgr hg
  have hB1 : Blk w1 r 52 [.slice pe E.length ce, .slice pu W.length cu] := by
    unfold Blk
    rw [hgr.block r hd.blk.lt (Ne.symm hd.ra)]
    exact hd.blk
  have k0 := hB1.cell 0
  have k1 := hB1.cell 1
  simp only [List.getElem?_cons_zero, List.getElem?_cons_succ] at k0 k1
  refine ⟨fun _ => ⟨k0, k1⟩, ?_⟩
  simp only [Act.put, List.setIfInBounds_toArray]
  refine wpAnyZ_val (i := 10) (v := .pointer (some ⟨r, 0, none⟩)) (w' := w1) (by kernel_rfl) (by rfl) (by rfl) (some 16) (by rfl) (by kernel_rfl) (fun _ => ⟨k0, k1⟩) ?_
  simp only [Act.put]
  refine wpAnyZ_val (i := 11) (v := .pointer (some ⟨r, 0, none⟩)) (w' := w1) (by kernel_rfl) (by rfl) (by rfl) (some 17) (by rfl) (by kernel_rfl) (fun _ => ⟨k0, k1⟩) ?_
  simp only [Act.put]
  obtain ⟨pv, cv, hpv, -, -, -⟩ := rowY_slice hrow
  refine wpAnyZ_skip (i := 12) (w' := w1.setCell ⟨r, 0, none⟩ ev') (by kernel_rfl) (by rfl) (by rfl) (by rfl) (exec_store (by rfl) (by rfl) (by rfl) (by rw [hpv]; exact storeStrs w1 r 0 _ _ _ _ k0 (hB1.frozen _))) (fun e => absurd rfl e) ?_
  refine wpAnyZ_done (by kernel_rfl) ?_
  refine NoPanic.normal ?_
  exact hQ _ _ _ _ _ _ _ _ _ _ _ _ ev' w1 hrow ⟨hgr.os, hgr.tape, hgr.output, hgr.size, hgr.block⟩ hg

set_option maxHeartbeats 2000000 in
theorem refFlush_any {w : World} {r : Nat} {ev uv : Value} {E W : List ByteArray} (h : RefAt w r ev uv E W) (hl : E.length + W.length ≤ 1000000) :
    Calls Tryz.prog 65 #[.pointer (some ⟨r, 0, none⟩)] w fun e w' => e = .returned (.tuple #[.int .i64 ((E.length + W.length : Nat) : Int), .int .i64 0]) ∧ ∃ ev', RefAt w' r ev' (.slice none 0 0) (E ++ W) [] ∧ FrL r r ev.ownBlock uv.ownBlock ev'.ownBlock none w w' := by
  have HH : Hid (RefAt w r ev uv E W) := h
  obtain ⟨pe, ce, hev, -, -, -⟩ := rowY_slice h.er
  obtain ⟨pu, cu, huv, -, -, -⟩ := rowY_slice h.ur
  subst hev huv
  clear h
  go_enter Tryz.func65, Tryz.ntmps65
  go_wp2_with fail
  refine rfR3_wp r ce cu pe pu E W w _ HH.out hl ?_
  intro u6 u7 u8 u9 u10 u11 u12 u13 u14 u15 u16 u17 ev' w1 hrow hgr hg
  have HR : Hid (RefAt ((w1.setCell ⟨r, 0, none⟩ ev').setCell ⟨r, 1, none⟩ (.slice none 0 0)) r ev' (.slice none 0 0) (E ++ W) [] ∧ FrL r r (Value.slice pe E.length ce).ownBlock (Value.slice pu W.length cu).ownBlock ev'.ownBlock none w ((w1.setCell ⟨r, 0, none⟩ ev').setCell ⟨r, 1, none⟩ (.slice none 0 0))) := HH.out.flush hrow hgr hg
  have hB1 : Blk w1 r 52 [.slice pe E.length ce, .slice pu W.length cu] := by
    unfold Blk
    rw [hgr.block r HH.out.blk.lt (Ne.symm HH.out.ra)]
    exact HH.out.blk
  have hB2 := hB1.set 0 ev'
  have k1 := hB2.cell 1
  have f1 := hB2.frozen 1
  have k2 := hB2.cell 0
  simp only [List.set_cons_zero, List.getElem?_cons_zero, List.getElem?_cons_succ] at k1 k2
  obtain ⟨pv, cv, hpv, -, -, -⟩ := rowY_slice hrow
  rw [List.length_append] at hpv
  subst hpv
  clear hrow hgr hg hB1 hB2 HH
  have e1 : Hid (((E.length + W.length : Nat) : Int) = (E.length : Int) + (W.length : Int)) := by show _ = _; omega
  generalize w1.setCell ⟨r, 0, none⟩ (.slice pv (E.length + W.length) cv) = w2 at *
  go_wp2
  go_ret2
  exact ⟨rfl, _, HR.out⟩

theorem refNil_submit (v : Value) (w : World) : Calls Tryz.prog 63 #[.pointer none, v] w fun e w' => e = .returned (.int .i64 3) ∧ w' = w := by
  go_enter Tryz.func63, Tryz.ntmps63
  go_wp2
  go_ret
  exact ⟨rfl, rfl⟩
theorem refNil_flush (w : World) : Calls Tryz.prog 65 #[.pointer none] w fun e w' => e = .returned (.tuple #[.int .i64 0, .int .i64 3]) ∧ w' = w := by
  go_enter Tryz.func65, Tryz.ntmps65
  go_wp2
  go_ret2
  exact ⟨rfl, rfl⟩
theorem refNil_ck (w : World) : Calls Tryz.prog 39 #[.pointer none] w fun e w' => e = .returned (.tuple #[.int .i64 0, .string ⟨#[]⟩, .int .i64 3]) ∧ w' = w := by
  go_enter Tryz.func39, Tryz.ntmps39
  go_wp2
  go_ret3
  exact ⟨rfl, rfl⟩
theorem refNil_entry (i : Int) (w : World) : Calls Tryz.prog 41 #[.pointer none, .int .i64 i] w fun e w' => e = .returned (.tuple #[.string ⟨#[]⟩, .int .i64 3]) ∧ w' = w := by
  go_enter Tryz.func41, Tryz.ntmps41
  go_wp2
  go_ret2
  exact ⟨rfl, rfl⟩
theorem refNil_incl (i n : Int) (w : World) : Calls Tryz.prog 43 #[.pointer none, .int .i64 i, .int .i64 n] w fun e w' => e = .returned (.tuple #[.slice none 0 0, .int .i64 3]) ∧ w' = w := by
  go_enter Tryz.func43, Tryz.ntmps43
  go_wp2
  go_ret2
  exact ⟨rfl, rfl⟩
theorem refNil_cons (i n : Int) (w : World) : Calls Tryz.prog 47 #[.pointer none, .int .i64 i, .int .i64 n] w fun e w' => e = .returned (.tuple #[.slice none 0 0, .int .i64 3]) ∧ w' = w := by
  go_enter Tryz.func47, Tryz.ntmps47
  go_wp2
  go_ret2
  exact ⟨rfl, rfl⟩

set_option maxHeartbeats 2000000 in
theorem rcR3_wp {c1 c2 c3 c4 c5 c6 c7 c8 c9 c10 c11 c12 c13 c14 c15 c16 c17 : Value} (r ce n : Nat) (pe : Option Addr) (z : ByteArray) (w : World) (Q : Exit → Act → World → Prop) (hl : r < w.heap.size) (hc0 : w.cell? ⟨r, 0, none⟩ = some (.slice pe n ce))
    (hc : ∀ wx, Below w.heap.size w wx → Calls Tryz.prog 12 #[.slice pe n ce] wx fun e w' => ∃ l, e = .returned l ∧ Below wx.heap.size wx w' ∧ ∀ wy, Below w'.heap.size w' wy → Calls Tryz.prog 15 #[l] wy fun e w'' => e = .returned (.string z) ∧ Below wy.heap.size wy w'')
    (hQ : ∀ (u7 u8 u9 u10 u11 u12 u13 u14 u15 u16 u17 : Value) (w' : World), Below w.heap.size w w' → Q .normal ⟨#[.pointer (some ⟨r, 0, none⟩), c1, .int .i64 (n : Int), .string z, .int .i64 0, c5, c6, u7, u8, u9, u10, u11, u12, u13, u14, u15, u16, u17], []⟩ w') :
    Code.wp Tryz.prog (rgn Tryz.f39 3) Q ⟨#[.pointer (some ⟨r, 0, none⟩), c1, c2, c3, c4, c5, c6, c7, c8, c9, c10, c11, c12, c13, c14, c15, c16, c17], []⟩ w := by
  have hC : ∀ wx, Below w.heap.size w wx → wx.cell? ⟨r, 0, none⟩ = some (.slice pe n ce) := fun wx hx => by rw [hx.cell (p := ⟨r, 0, none⟩) hl]; exact hc0
  have hS : (fun wx : World => Below w.heap.size w wx) w.drew := (Below.refl w.heap.size w).drew
  conv => arg 2; whnf
  refine wp_region_s (fun wx : World => Below w.heap.size w wx) (by kernel_rfl) ?_
  refine wpS_pure (k := 0) (v := .pointer (some ⟨r, 0, none⟩)) (by rfl) (by kernel_rfl) (by kernel_rfl) (by kernel_rfl) (by rfl) (some 7) (by rfl) hS (fun wx hx => by kernel_rfl) ?_
  simp only [Act.put, List.setIfInBounds_toArray, List.set_cons_succ, List.set_cons_zero]
  refine wpS_pure (k := 1) (v := .pointer (some ⟨r, 0, none⟩)) (by rfl) (by kernel_rfl) (by kernel_rfl) (by kernel_rfl) (by rfl) (some 8) (by rfl) hS (fun wx hx => by kernel_rfl) ?_
  simp only [Act.put, List.setIfInBounds_toArray, List.set_cons_succ, List.set_cons_zero]
  refine wpS_pure (k := 2) (v := .pointer (some ⟨r, 0, none⟩)) (by rfl) (by kernel_rfl) (by kernel_rfl) (by kernel_rfl) (by rfl) (some 9) (by rfl) hS (fun wx hx => by kernel_rfl) ?_
  simp only [Act.put, List.setIfInBounds_toArray, List.set_cons_succ, List.set_cons_zero]
  refine wpS_pure (k := 3) (v := .slice pe n ce) (by rfl) (by kernel_rfl) (by kernel_rfl) (by kernel_rfl) (by rfl) (some 10) (by rfl) hS (fun wx hx => exec_ld (by rfl) (by rfl) (loadStrs wx r 0 _ _ _ (hC wx hx))) ?_
  simp only [Act.put, List.setIfInBounds_toArray, List.set_cons_succ, List.set_cons_zero]
  refine wpS_pure (k := 4) (v := .int .i64 (n : Int)) (by rfl) (by kernel_rfl) (by kernel_rfl) (by kernel_rfl) (by rfl) (some 11) (by rfl) hS (fun wx hx => by kernel_rfl) ?_
  simp only [Act.put, List.setIfInBounds_toArray, List.set_cons_succ, List.set_cons_zero]
  refine wpS_pure (k := 5) (v := .pointer (some ⟨r, 0, none⟩)) (by rfl) (by kernel_rfl) (by kernel_rfl) (by kernel_rfl) (by rfl) (some 12) (by rfl) hS (fun wx hx => by kernel_rfl) ?_
  simp only [Act.put, List.setIfInBounds_toArray, List.set_cons_succ, List.set_cons_zero]
  refine wpS_pure (k := 6) (v := .pointer (some ⟨r, 0, none⟩)) (by rfl) (by kernel_rfl) (by kernel_rfl) (by kernel_rfl) (by rfl) (some 13) (by rfl) hS (fun wx hx => by kernel_rfl) ?_
  simp only [Act.put, List.setIfInBounds_toArray, List.set_cons_succ, List.set_cons_zero]
  refine wpS_pure (k := 7) (v := .pointer (some ⟨r, 0, none⟩)) (by rfl) (by kernel_rfl) (by kernel_rfl) (by kernel_rfl) (by rfl) (some 14) (by rfl) hS (fun wx hx => by kernel_rfl) ?_
  simp only [Act.put, List.setIfInBounds_toArray, List.set_cons_succ, List.set_cons_zero]
  refine wpS_pure (k := 8) (v := .slice pe n ce) (by rfl) (by kernel_rfl) (by kernel_rfl) (by kernel_rfl) (by rfl) (some 15) (by rfl) hS (fun wx hx => exec_ld (by rfl) (by rfl) (loadStrs wx r 0 _ _ _ (hC wx hx))) ?_
  simp only [Act.put, List.setIfInBounds_toArray, List.set_cons_succ, List.set_cons_zero]
  refine wpS_one (i := 9) (by kernel_rfl) (opS_call (f := 12) (vs := #[.slice pe n ce]) (by rfl) (by rfl) (some 16) (by rfl) (by kernel_rfl) ((hc _ hS).mono ?_))
  rintro e w1 ⟨l, rfl, hb1, hrt⟩
  have hS1 : Below w.heap.size w w1 := hS.trans hb1
  refine ⟨_, rfl, hS1, ?_⟩
  simp only [Act.put, List.setIfInBounds_toArray, List.set_cons_succ, List.set_cons_zero]
  refine wpS_one (i := 10) (by kernel_rfl) (opS_call (f := 15) (vs := #[l]) (by rfl) (by rfl) (some 17) (by rfl) (by kernel_rfl) ((hrt w1 (Below.refl _ _)).mono ?_))
  rintro e w2 ⟨rfl, hb2⟩
  have hS2 : Below w.heap.size w w2 := hS1.trans (hb2.mono hS1.size)
  refine ⟨_, rfl, hS2, ?_⟩
  simp only [Act.put, List.setIfInBounds_toArray, List.set_cons_succ, List.set_cons_zero]
  refine wpS_pure (k := 11) (v := .int .i64 (n : Int)) (by rfl) (by kernel_rfl) (by kernel_rfl) (by kernel_rfl) (by rfl) (some 2) (by rfl) hS2 (fun wx hx => by kernel_rfl) ?_
  simp only [Act.put, List.setIfInBounds_toArray, List.set_cons_succ, List.set_cons_zero]
  refine wpS_pure (k := 12) (v := .string z) (by rfl) (by kernel_rfl) (by kernel_rfl) (by kernel_rfl) (by rfl) (some 3) (by rfl) hS2 (fun wx hx => by kernel_rfl) ?_
  simp only [Act.put, List.setIfInBounds_toArray, List.set_cons_succ, List.set_cons_zero]
  refine wpS_pure (k := 13) (v := .int .i64 0) (by rfl) (by kernel_rfl) (by kernel_rfl) (by kernel_rfl) (by rfl) (some 4) (by rfl) hS2 (fun wx hx => by kernel_rfl) ?_
  simp only [Act.put, List.setIfInBounds_toArray, List.set_cons_succ, List.set_cons_zero]
  refine wpAnyH_done (by kernel_rfl) ?_ _
  refine NoPanic.normal ?_
  exact hQ _ _ _ _ _ _ _ _ _ _ _ w2 hS2
set_option maxHeartbeats 1000000 in
theorem refCk_any {w : World} {r : Nat} {ev uv : Value} {E W : List ByteArray} (h : RefAt w r ev uv E W) (hE : E.length ≤ 64) (hz : ∀ s ∈ E, s.size ≤ 40) :
    Calls Tryz.prog 39 #[.pointer (some ⟨r, 0, none⟩)] w fun e w' => e = .returned (.tuple #[.int .i64 (E.length : Int), .string (mth (E.map leafS)), .int .i64 0]) ∧ Below w.heap.size w w' := by
  have hc0 := h.blk.cell 0
  simp only [List.getElem?_cons_zero] at hc0
  have HL : Hid (∀ wx, Below w.heap.size w wx → Calls Tryz.prog 12 #[ev] wx fun e w' => ∃ l, e = .returned l ∧ Below wx.heap.size wx w' ∧ ∀ wy, Below w'.heap.size w' wy → Calls Tryz.prog 15 #[l] wy fun e w'' => e = .returned (.string (mth (E.map leafS))) ∧ Below wy.heap.size wy w'') := fun wx hx => ref_side ev E wx ((row_strs h.er).below hx) (by omega) (fun s hs => by have := hz s hs; omega)
  have hl := h.blk.lt
  obtain ⟨pe, ce, rfl, -, -, -⟩ := rowY_slice h.er
  generalize mth (E.map leafS) = z at *
  clear h hz
  go_enter Tryz.func39, Tryz.ntmps39
  go_wp2_with fail
  refine rcR3_wp r ce E.length pe z w _ hl hc0 HL.out ?_
  intro u7 u8 u9 u10 u11 u12 u13 u14 u15 u16 u17 w' hb
  clear hc0 HL
  go_wp2
  go_ret3
  exact ⟨rfl, hb⟩
set_option maxHeartbeats 1000000 in
theorem refEntry_ok {w : World} {r : Nat} {ev uv : Value} {E W : List ByteArray} (h : RefAt w r ev uv E W) (i : Nat) (s : ByteArray) (hs : E[i]? = some s) :
    Calls Tryz.prog 41 #[.pointer (some ⟨r, 0, none⟩), .int .i64 (i : Int)] w fun e w' => e = .returned (.tuple #[.string s, .int .i64 0]) ∧ w' = w := by
  have hc0 := h.blk.cell 0
  simp only [List.getElem?_cons_zero] at hc0
  have hi : i < E.length := (List.getElem?_eq_some_iff.1 hs).1
  obtain ⟨b, o, c, rfl, hSA⟩ := (row_strs h.er).nil_or (by omega)
  have hcell := hSA i s hs
  have hi0 : ¬ (i : Int) < 0 := by omega
  have hi1 : ¬ (i : Int) ≥ (E.length : Int) := by omega
  have hi2 : (i : Int) < (E.length : Int) := by omega
  clear h hs hSA
  go_enter Tryz.func41, Tryz.ntmps41
  go_wp2
  go_ret2
  exact ⟨rfl, rfl⟩
set_option maxHeartbeats 1000000 in
theorem refEntry_range {w : World} {r : Nat} {ev uv : Value} {E W : List ByteArray} (h : RefAt w r ev uv E W) (i : Int) (hi : i < 0 ∨ (E.length : Int) ≤ i) :
    Calls Tryz.prog 41 #[.pointer (some ⟨r, 0, none⟩), .int .i64 i] w fun e w' => e = .returned (.tuple #[.string ⟨#[]⟩, .int .i64 8]) ∧ w' = w := by
  have hc0 := h.blk.cell 0
  simp only [List.getElem?_cons_zero] at hc0
  obtain ⟨pe, ce, rfl, -, -, -⟩ := rowY_slice h.er
  clear h
  by_cases h0 : i < 0
  · clear hi
    go_enter Tryz.func41, Tryz.ntmps41
    go_wp2
    go_ret2
    exact ⟨rfl, rfl⟩
  · have hi1 : (E.length : Int) ≤ i := by omega
    clear hi
    go_enter Tryz.func41, Tryz.ntmps41
    go_wp2
    go_ret2
    exact ⟨rfl, rfl⟩
end Go.Proofs.YtlhohmlpcgbliabGreatDoor
namespace Go.Proofs.YtlhohmlpcgbliabGreatDoor
set_option maxRecDepth 100000
open Go.RowKit
attribute [local go_sem ↓] Go.wp_at_zero Go.wp_at_succ

/-- The store's method, bound to it. -/
def spanV (b : Nat) : Value := .func (.func 70) #[stV b] #[]

set_option maxHeartbeats 1000000 in
theorem storeSpan_any (b a n : Nat) (fv : Value) (D : Dk) (w : World) (h : DiskAt w b fv D) (ha : a + n < 500) (ht : Table w) (hg : 2 < w.heap.size) :
    Calls Tryz.prog 70 #[stV b, .int .i64 (a : Int), .int .i64 ((a + n : Nat) : Int)] w fun e w' => e = .returned (.string (D.span a n)) ∧ Below w.heap.size w w' := by
  have hb0 : Below w.heap.size w (w.alloc (.cells #[.pointer (some ⟨b, 0, none⟩)] 60)) := (Below.refl _ _).alloc (Nat.le_refl _) _
  have hB0 : Blk (w.alloc (.cells #[.pointer (some ⟨b, 0, none⟩)] 60)) w.heap.size 60 [.pointer (some ⟨b, 0, none⟩)] := Blk.new w _ _
  have hc := hB0.cell 0
  simp only [List.getElem?_cons_zero] at hc
  have hck := span_any b a n fv D _ (h.below hb0) ha (table_at hb0 hg ht) (Nat.lt_of_lt_of_le hg hb0.size)
  unfold stV
  generalize ((a + n : Nat) : Int) = tt at *
  go_enter Tryz.func70, Tryz.ntmps70
  go_wp2_with fail
  generalize w.alloc (.cells #[.pointer (some ⟨b, 0, none⟩)] 60) = w0 at *
  refine hck.mono ?_
  rintro e w1 ⟨rfl, hb1⟩
  go_wp2
  go_ret
  exact ⟨rfl, hb0.trans (hb1.mono hb0.size)⟩

theorem gives_span (b a n : Nat) (fv : Value) (D : Dk) (w : World) (h : DiskAt w b fv D) (ha : a + n < 500) (ht : Table w) (hg : 2 < w.heap.size) : Gives w 70 #[stV b, .int .i64 (a : Int), .int .i64 ((a + n : Nat) : Int)] (D.span a n) := fun wx hx =>
  storeSpan_any b a n fv D wx (h.below hx) ha (table_at hx hg ht) (Nat.lt_of_lt_of_le hg hx.size)

set_option maxHeartbeats 400000 in
theorem be_none (i a : Nat) (F : Value) (w : World) : GivesRow w 98 #[.int .i64 (i : Int), .int .i64 (a : Int), .int .i64 ((a + 1 : Nat) : Int), F] [] := by
  unfold GivesRow
  have e0 : ((a + 1 : Nat) : Int) - (a : Int) = 1 := by omega
  generalize ((a + 1 : Nat) : Int) = tt at *
  go_enter Tryz.func98, Tryz.ntmps98
  go_wp2
  go_ret
  exact ⟨_, rfl, World.ownsRow_nil _ _ _ _, Below.refl _ _⟩

set_option maxHeartbeats 1000000 in
theorem be_left (i a m : Nat) (S : Value) (xs : List ByteArray) (y : ByteArray) (w : World) (h2 : 2 ≤ m) (hm : a + m < 500) (hi5 : i < 500) (hi : i < a + spl m) (hxl : xs.length ≤ 1048576)
  (hrec : GivesRow w 98 #[.int .i64 (i : Int), .int .i64 (a : Int), .int .i64 ((a : Int) + ((spl m : Nat) : Int)), .func (.func 70) #[S] #[]] xs)
  (hspan : Gives w 70 #[S, .int .i64 ((a : Int) + ((spl m : Nat) : Int)), .int .i64 ((a + m : Nat) : Int)] y) :
    GivesRow w 98 #[.int .i64 (i : Int), .int .i64 (a : Int), .int .i64 ((a + m : Nat) : Int), .func (.func 70) #[S] #[]] (xs ++ [y]) := by
  unfold GivesRow
  have hsp := treeSplit_any m w h2 (by omega)
  have hlt := spl_lt h2
  have e0 : ((a + m : Nat) : Int) - (a : Int) = (m : Int) := by omega
  have h1' : ¬ (m : Int) = 1 := by omega
  generalize spl m = k at *
  have hi' : (i : Int) < (a : Int) + (k : Int) := by omega
  have HX : Aside (strv xs ++ [.string y] = strv (xs ++ [y])) := by show _ = _; simp [strv]
  have hxl2 : (strv xs).length ≤ 1048576 := by rw [strv_length]; exact hxl
  have htt : ((a + m : Nat) : Int) < 500 := by omega
  have htt0 : 0 ≤ ((a + m : Nat) : Int) := by omega
  generalize ((a + m : Nat) : Int) = tt at *
  unfold GivesRow at hrec
  clear hxl hi
  generalize hxs : strv xs = zs at *
  clear hxs
  go_enter Tryz.func98, Tryz.ntmps98
  go_wp2_with fail
  refine hsp.mono ?_
  rintro e w0 ⟨rfl, rfl⟩
  go_wp2_with fail
  refine hrec.mono ?_
  rintro e w1 ⟨v, rfl, hrow, hb⟩
  go_wp2_with fail
  refine (hspan _ hb).mono ?_
  rintro e w2 ⟨rfl, hb2⟩
  have hrow2 := hrow.below hb2 (Nat.le_refl _)
  have hb3 := hb.trans (hb2.mono hb.size)
  clear hrow hrec hspan hsp
  go_wp2_with (at_builtin; refine wpList_app elem_string rfl Tryz.underlying22 (by rfl) (.tmp 27) (.tmp 32) (by rfl) w0.heap.size _ zs (by rfl) (hrow2.alloc _) _ 1 1 [.string y] (by rfl) rfl (Blk.new _ 9 _) ?h1 ?hl ?hb ?hbs (w0 := w0) (hb3.alloc hb3.size _) (Nat.le_refl _) ?_)
  case h1 => intro u hu; simp at hu; subst hu; rfl
  case hl => omega
  case hb => omega
  case hbs => have := hb3.size; simp; omega
  intro v' w' hv' _ hb'
  rw [HX.out] at hv'
  go_wp2
  go_ret
  exact ⟨_, rfl, hv', hb'⟩

set_option maxHeartbeats 1000000 in
theorem be_right (i a m : Nat) (S : Value) (xs : List ByteArray) (y : ByteArray) (w : World) (h2 : 2 ≤ m) (hm : a + m < 500) (hi5 : i < 500) (hi : a + spl m ≤ i) (hxl : xs.length ≤ 1048576)
  (hrec : GivesRow w 98 #[.int .i64 (i : Int), .int .i64 ((a : Int) + ((spl m : Nat) : Int)), .int .i64 ((a + m : Nat) : Int), .func (.func 70) #[S] #[]] xs)
  (hspan : Gives w 70 #[S, .int .i64 (a : Int), .int .i64 ((a : Int) + ((spl m : Nat) : Int))] y) :
    GivesRow w 98 #[.int .i64 (i : Int), .int .i64 (a : Int), .int .i64 ((a + m : Nat) : Int), .func (.func 70) #[S] #[]] (xs ++ [y]) := by
  unfold GivesRow
  have hsp := treeSplit_any m w h2 (by omega)
  have hlt := spl_lt h2
  have e0 : ((a + m : Nat) : Int) - (a : Int) = (m : Int) := by omega
  have h1' : ¬ (m : Int) = 1 := by omega
  generalize spl m = k at *
  have hi' : ¬ (i : Int) < (a : Int) + (k : Int) := by omega
  have HX : Aside (strv xs ++ [.string y] = strv (xs ++ [y])) := by show _ = _; simp [strv]
  have hxl2 : (strv xs).length ≤ 1048576 := by rw [strv_length]; exact hxl
  have htt : ((a + m : Nat) : Int) < 500 := by omega
  have htt0 : 0 ≤ ((a + m : Nat) : Int) := by omega
  generalize ((a + m : Nat) : Int) = tt at *
  unfold GivesRow at hrec
  clear hxl hi
  generalize hxs : strv xs = zs at *
  clear hxs
  go_enter Tryz.func98, Tryz.ntmps98
  go_wp2_with fail
  refine hsp.mono ?_
  rintro e w0 ⟨rfl, rfl⟩
  go_wp2_with fail
  refine hrec.mono ?_
  rintro e w1 ⟨v, rfl, hrow, hb⟩
  go_wp2_with fail
  refine (hspan _ hb).mono ?_
  rintro e w2 ⟨rfl, hb2⟩
  have hrow2 := hrow.below hb2 (Nat.le_refl _)
  have hb3 := hb.trans (hb2.mono hb.size)
  clear hrow hrec hspan hsp
  go_wp2_with (at_builtin; refine wpList_app elem_string rfl Tryz.underlying22 (by rfl) (.tmp 38) (.tmp 43) (by rfl) w0.heap.size _ zs (by rfl) (hrow2.alloc _) _ 1 1 [.string y] (by rfl) rfl (Blk.new _ 9 _) ?h1 ?hl ?hb ?hbs (w0 := w0) (hb3.alloc hb3.size _) (Nat.le_refl _) ?_)
  case h1 => intro u hu; simp at hu; subst hu; rfl
  case hl => omega
  case hb => omega
  case hbs => have := hb3.size; simp; omega
  intro v' w' hv' _ hb'
  rw [HX.out] at hv'
  go_wp2
  go_ret
  exact ⟨_, rfl, hv', hb'⟩
end Go.Proofs.YtlhohmlpcgbliabGreatDoor
namespace Go.Proofs.YtlhohmlpcgbliabGreatDoor
set_option maxRecDepth 100000
open Go.RowKit
attribute [local go_sem ↓] Go.wp_at_zero Go.wp_at_succ

set_option maxHeartbeats 400000 in
theorem bs_none (i : Nat) (F : Value) (w : World) : GivesRow w 100 #[.int .i64 (i : Int), .int .i64 0, .int .i64 (i : Int), F] [] := by
  unfold GivesRow
  go_enter Tryz.func100, Tryz.ntmps100
  go_wp2
  go_ret
  exact ⟨_, rfl, World.ownsRow_nil _ _ _ _, Below.refl _ _⟩

set_option maxHeartbeats 1000000 in
theorem bs_one (i a : Nat) (S : Value) (y : ByteArray) (w : World) (ha : a ≠ 0) (hspan : Gives w 70 #[S, .int .i64 (a : Int), .int .i64 (i : Int)] y) : GivesRow w 100 #[.int .i64 (i : Int), .int .i64 (a : Int), .int .i64 (i : Int), .func (.func 70) #[S] #[]] [y] := by
  unfold GivesRow
  have ha' : ¬ (a : Int) = 0 := by omega
  go_enter Tryz.func100, Tryz.ntmps100
  go_wp2_with fail
  refine (hspan _ (Below.refl _ _)).mono ?_
  rintro e w2 ⟨rfl, hb2⟩
  go_wp2
  go_ret
  refine ⟨_, rfl, ?_, hb2.alloc hb2.size _⟩
  exact Row.lit' _ _ 9 [.string y] 1 rfl hb2.size (by decide)

set_option maxHeartbeats 1000000 in
theorem bs_left (i a m : Nat) (S : Value) (xs : List ByteArray) (y : ByteArray) (w : World) (h2 : 2 ≤ m) (hm : a + m < 500) (hi5 : i < 500) (hi : i ≤ a + spl m) (hxl : xs.length ≤ 1048576)
  (hrec : GivesRow w 100 #[.int .i64 (i : Int), .int .i64 (a : Int), .int .i64 ((a : Int) + ((spl m : Nat) : Int)), .func (.func 70) #[S] #[]] xs)
  (hspan : Gives w 70 #[S, .int .i64 ((a : Int) + ((spl m : Nat) : Int)), .int .i64 ((a + m : Nat) : Int)] y) :
    GivesRow w 100 #[.int .i64 (i : Int), .int .i64 (a : Int), .int .i64 ((a + m : Nat) : Int), .func (.func 70) #[S] #[]] (xs ++ [y]) := by
  unfold GivesRow
  have hsp := treeSplit_any m w h2 (by omega)
  have hlt := spl_lt h2
  have e0 : ((a + m : Nat) : Int) - (a : Int) = (m : Int) := by omega
  have h1' : ¬ (m : Int) = 1 := by omega
  have hne' : ¬ (i : Int) = ((a + m : Nat) : Int) := by omega
  generalize spl m = k at *
  have hi' : (i : Int) ≤ (a : Int) + (k : Int) := by omega
  have HX : Aside (strv xs ++ [.string y] = strv (xs ++ [y])) := by show _ = _; simp [strv]
  have hxl2 : (strv xs).length ≤ 1048576 := by rw [strv_length]; exact hxl
  have htt : ((a + m : Nat) : Int) < 500 := by omega
  have htt0 : 0 ≤ ((a + m : Nat) : Int) := by omega
  generalize ((a + m : Nat) : Int) = tt at *
  unfold GivesRow at hrec
  clear hxl hi
  generalize hxs : strv xs = zs at *
  clear hxs
  go_enter Tryz.func100, Tryz.ntmps100
  go_wp2_with fail
  refine hsp.mono ?_
  rintro e w0 ⟨rfl, rfl⟩
  go_wp2_with fail
  refine hrec.mono ?_
  rintro e w1 ⟨v, rfl, hrow, hb⟩
  go_wp2_with fail
  refine (hspan _ hb).mono ?_
  rintro e w2 ⟨rfl, hb2⟩
  have hrow2 := hrow.below hb2 (Nat.le_refl _)
  have hb3 := hb.trans (hb2.mono hb.size)
  clear hrow hrec hspan hsp
  go_wp2_with (at_builtin; refine wpList_app elem_string rfl Tryz.underlying22 (by rfl) (.tmp 38) (.tmp 43) (by rfl) w0.heap.size _ zs (by rfl) (hrow2.alloc _) _ 1 1 [.string y] (by rfl) rfl (Blk.new _ 9 _) ?h1 ?hl ?hb ?hbs (w0 := w0) (hb3.alloc hb3.size _) (Nat.le_refl _) ?_)
  case h1 => intro u hu; simp at hu; subst hu; rfl
  case hl => omega
  case hb => omega
  case hbs => have := hb3.size; simp; omega
  intro v' w' hv' _ hb'
  rw [HX.out] at hv'
  go_wp2
  go_ret
  exact ⟨_, rfl, hv', hb'⟩

set_option maxHeartbeats 1000000 in
theorem bs_right (i a m : Nat) (S : Value) (xs : List ByteArray) (y : ByteArray) (w : World) (h2 : 2 ≤ m) (hm : a + m < 500) (hi5 : i < 500) (hi : a + spl m < i) (hne : i ≠ a + m) (hxl : xs.length ≤ 1048576)
  (hrec : GivesRow w 100 #[.int .i64 (i : Int), .int .i64 ((a : Int) + ((spl m : Nat) : Int)), .int .i64 ((a + m : Nat) : Int), .func (.func 70) #[S] #[]] xs)
  (hspan : Gives w 70 #[S, .int .i64 (a : Int), .int .i64 ((a : Int) + ((spl m : Nat) : Int))] y) :
    GivesRow w 100 #[.int .i64 (i : Int), .int .i64 (a : Int), .int .i64 ((a + m : Nat) : Int), .func (.func 70) #[S] #[]] (xs ++ [y]) := by
  unfold GivesRow
  have hsp := treeSplit_any m w h2 (by omega)
  have hlt := spl_lt h2
  have e0 : ((a + m : Nat) : Int) - (a : Int) = (m : Int) := by omega
  have h1' : ¬ (m : Int) = 1 := by omega
  have hne' : ¬ (i : Int) = ((a + m : Nat) : Int) := by omega
  generalize spl m = k at *
  have hi' : ¬ (i : Int) ≤ (a : Int) + (k : Int) := by omega
  have HX : Aside (strv xs ++ [.string y] = strv (xs ++ [y])) := by show _ = _; simp [strv]
  have hxl2 : (strv xs).length ≤ 1048576 := by rw [strv_length]; exact hxl
  have htt : ((a + m : Nat) : Int) < 500 := by omega
  have htt0 : 0 ≤ ((a + m : Nat) : Int) := by omega
  generalize ((a + m : Nat) : Int) = tt at *
  unfold GivesRow at hrec
  clear hxl hi
  generalize hxs : strv xs = zs at *
  clear hxs
  go_enter Tryz.func100, Tryz.ntmps100
  go_wp2_with fail
  refine hsp.mono ?_
  rintro e w0 ⟨rfl, rfl⟩
  go_wp2_with fail
  refine hrec.mono ?_
  rintro e w1 ⟨v, rfl, hrow, hb⟩
  go_wp2_with fail
  refine (hspan _ hb).mono ?_
  rintro e w2 ⟨rfl, hb2⟩
  have hrow2 := hrow.below hb2 (Nat.le_refl _)
  have hb3 := hb.trans (hb2.mono hb.size)
  clear hrow hrec hspan hsp
  go_wp2_with (at_builtin; refine wpList_app elem_string rfl Tryz.underlying22 (by rfl) (.tmp 49) (.tmp 54) (by rfl) w0.heap.size _ zs (by rfl) (hrow2.alloc _) _ 1 1 [.string y] (by rfl) rfl (Blk.new _ 9 _) ?h1 ?hl ?hb ?hbs (w0 := w0) (hb3.alloc hb3.size _) (Nat.le_refl _) ?_)
  case h1 => intro u hu; simp at hu; subst hu; rfl
  case hl => omega
  case hb => omega
  case hbs => have := hb3.size; simp; omega
  intro v' w' hv' _ hb'
  rw [HX.out] at hv'
  go_wp2
  go_ret
  exact ⟨_, rfl, hv', hb'⟩
end Go.Proofs.YtlhohmlpcgbliabGreatDoor
namespace Go.Proofs.YtlhohmlpcgbliabGreatDoor
set_option maxRecDepth 100000
open Go.RowKit

/-- Where a part of a log's tree is cut. -/
theorem cut_facts {m a j : Nat} (h2 : 2 ≤ m) (hj : m ≤ 2 ^ j) (hd : 2 ^ j ∣ a) : ∃ h, spl m = 2 ^ h ∧ 2 ^ h ∣ a ∧ 2 ^ h ∣ a + spl m ∧ m - spl m ≤ 2 ^ h ∧ spl m < m ∧ 0 < spl m := by
  obtain ⟨h, hs⟩ := spl_pow m
  have h3 := spl_lt h2
  have h4 := spl_ge h2
  rw [hs] at h3 h4
  have h5 : h < j := (Nat.pow_lt_pow_iff_right (a := 2) (by omega)).1 (by omega)
  have h6 : 2 ^ h ∣ a := Nat.dvd_trans (Nat.pow_dvd_pow 2 (by omega)) hd
  refine ⟨h, hs, h6, ?_, by omega, by omega, spl_pos m⟩
  rw [hs]
  exact Nat.dvd_add h6 (Nat.dvd_refl _)

theorem sub_take {L : List ByteArray} {a m k : Nat} (h : k ≤ m) : ((L.drop a).take m).take k = (L.drop a).take k := by rw [List.take_take, Nat.min_eq_left h]
theorem sub_drop {L : List ByteArray} {a m k : Nat} : ((L.drop a).take m).drop k = (L.drop (a + k)).take (m - k) := by rw [List.drop_take, List.drop_drop]
theorem sub_len {L : List ByteArray} {a m : Nat} (h : a + m ≤ L.length) : ((L.drop a).take m).length = m := by rw [List.length_take, List.length_drop]; omega

theorem beside_inc {E : List ByteArray} {D : Dk} {b : Nat} {fv : Value} (hH : Holds D E) : ∀ (N i a m j : Nat) (w : World), DiskAt w b fv D → Table w → 2 < w.heap.size → m ≤ N → N ≤ 64 → 1 ≤ m → m ≤ 2 ^ j → 2 ^ j ∣ a → a + m ≤ E.length → a ≤ i → i < a + m →
    GivesRow w 98 #[.int .i64 (i : Int), .int .i64 (a : Int), .int .i64 ((a + m : Nat) : Int), spanV b] (incF N (i - a) (((E.map leafS).drop a).take m)) := by
  intro N
  have hL : (E.map leafS).length = E.length := List.length_map _
  have hE := hH.len
  have hspan := fun (m a j : Nat) (h1 : m ≤ 2 ^ j) (h2 : 2 ^ j ∣ a) (h3 : a + m ≤ E.length) => span_mth hH.til (by rw [hL]; exact Nat.le_refl _) m m a j (Nat.le_refl _) h1 h2 h3
  induction N with
  | zero => intro i a m j w _ _ _ h1 _ h2; omega
  | succ N ih =>
    intro i a m j w hD ht hg hm hN h1 hj hd ham hai him
    have hl := sub_len (L := E.map leafS) (a := a) (m := m) (by omega)
    simp only [incF, hl]
    by_cases h2 : m < 2
    · rw [if_pos h2]
      obtain rfl : m = 1 := by omega
      exact be_none i a _ w
    · rw [if_neg h2]
      obtain ⟨h, hs, hd1, hd2, hle, hlt, hpos⟩ := cut_facts (by omega) hj hd
      rw [sub_take (by omega), sub_drop]
      have gl := gives_span b a (spl m) fv D w hD (by omega) ht hg
      have gr := gives_span b (a + spl m) (m - spl m) fv D w hD (by omega) ht hg
      rw [hspan (spl m) a h (by omega) hd1 (by omega)] at gl
      rw [hspan (m - spl m) (a + spl m) h hle hd2 (by omega)] at gr
      rw [show a + spl m + (m - spl m) = a + m by omega] at gr
      by_cases h5 : i < a + spl m
      · rw [if_pos (by omega)]
        have q := ih i a (spl m) h w hD ht hg (by omega) (by omega) (by omega) (by omega) hd1 (by omega) hai h5
        rw [Int.natCast_add] at q gr
        exact be_left i a m (stV b) _ _ w (by omega) (by omega) (by omega) h5 (Nat.le_trans (incF_length N _ _) (by omega)) q gr
      · rw [if_neg (by omega)]
        have q := ih i (a + spl m) (m - spl m) h w hD ht hg (by omega) (by omega) (by omega) hle hd2 (by omega) (by omega) (by omega)
        rw [show a + spl m + (m - spl m) = a + m by omega, show i - (a + spl m) = i - a - spl m by omega] at q
        rw [Int.natCast_add] at q gl
        exact be_right i a m (stV b) _ _ w (by omega) (by omega) (by omega) (by omega) (Nat.le_trans (incF_length N _ _) (by omega)) q gl

theorem beside_con {E : List ByteArray} {D : Dk} {b : Nat} {fv : Value} (hH : Holds D E) : ∀ (N i a m j : Nat) (w : World), DiskAt w b fv D → Table w → 2 < w.heap.size → m ≤ N → N ≤ 64 → 1 ≤ m → m ≤ 2 ^ j → 2 ^ j ∣ a → a + m ≤ E.length → a < i → i ≤ a + m →
    GivesRow w 100 #[.int .i64 (i : Int), .int .i64 (a : Int), .int .i64 ((a + m : Nat) : Int), spanV b] (conF N (i - a) (((E.map leafS).drop a).take m) (decide (a = 0))) := by
  intro N
  have hL : (E.map leafS).length = E.length := List.length_map _
  have hE := hH.len
  have hspan := fun (m a j : Nat) (h1 : m ≤ 2 ^ j) (h2 : 2 ^ j ∣ a) (h3 : a + m ≤ E.length) => span_mth hH.til (by rw [hL]; exact Nat.le_refl _) m m a j (Nat.le_refl _) h1 h2 h3
  induction N with
  | zero => intro i a m j w _ _ _ h1 _ h2; omega
  | succ N ih =>
    intro i a m j w hD ht hg hm hN h1 hj hd ham hai him
    have hl := sub_len (L := E.map leafS) (a := a) (m := m) (by omega)
    simp only [conF, hl]
    by_cases h2 : i = a + m
    · rw [if_pos (by omega)]
      by_cases h0 : a = 0
      · subst h0
        rw [if_pos (by simp)]
        rw [← h2]
        exact bs_none i _ w
      · rw [if_neg (by simpa using h0)]
        have g := gives_span b a m fv D w hD (by omega) ht hg
        rw [hspan m a j hj hd ham] at g
        rw [← h2] at g ⊢
        exact bs_one i a (stV b) _ w h0 g
    · rw [if_neg (by omega)]
      obtain ⟨h, hs, hd1, hd2, hle, hlt, hpos⟩ := cut_facts (m := m) (by omega) hj hd
      rw [sub_take (by omega), sub_drop]
      have gl := gives_span b a (spl m) fv D w hD (by omega) ht hg
      have gr := gives_span b (a + spl m) (m - spl m) fv D w hD (by omega) ht hg
      rw [hspan (spl m) a h (by omega) hd1 (by omega)] at gl
      rw [hspan (m - spl m) (a + spl m) h hle hd2 (by omega)] at gr
      rw [show a + spl m + (m - spl m) = a + m by omega] at gr
      by_cases h5 : i ≤ a + spl m
      · rw [if_pos (by omega)]
        have q := ih i a (spl m) h w hD ht hg (by omega) (by omega) (by omega) (by omega) hd1 (by omega) hai h5
        rw [Int.natCast_add] at q gr
        exact bs_left i a m (stV b) _ _ w (by omega) (by omega) (by omega) h5 (Nat.le_trans (conF_length N _ _ _) (by omega)) q gr
      · rw [if_neg (by omega)]
        have q := ih i (a + spl m) (m - spl m) h w hD ht hg (by omega) (by omega) (by omega) hle hd2 (by omega) (by omega) (by omega)
        rw [show a + spl m + (m - spl m) = a + m by omega, show i - (a + spl m) = i - a - spl m by omega, show decide (a + spl m = 0) = false from decide_eq_false (by omega)] at q
        rw [Int.natCast_add] at q gl
        exact bs_right i a m (stV b) _ _ w (by omega) (by omega) (by omega) (by omega) h2 (Nat.le_trans (conF_length N _ _ _) (by omega)) q gl
end Go.Proofs.YtlhohmlpcgbliabGreatDoor
namespace Go.Proofs.YtlhohmlpcgbliabGreatDoor
set_option maxRecDepth 100000
open Go.RowKit
attribute [local go_sem ↓] Go.wp_at_zero Go.wp_at_succ


set_option maxHeartbeats 1000000 in
theorem treeInclusion (i n : Nat) (F : Value) (xs : List ByteArray) (w : World) (h : GivesRow w 98 #[.int .i64 (i : Int), .int .i64 0, .int .i64 (n : Int), F] xs) : GivesRow w 69 #[.int .i64 (i : Int), .int .i64 (n : Int), F] xs := by
  unfold GivesRow at *
  go_enter Tryz.func69, Tryz.ntmps69
  go_wp2_with fail
  refine h.mono ?_
  rintro e w1 ⟨v, rfl, hr, hb⟩
  go_wp2
  go_ret
  exact ⟨_, rfl, hr, hb⟩

set_option maxHeartbeats 1000000 in
theorem logInclusion_ok {w : World} {a b : Nat} {fv wv : Value} {D : Dk} {W E : List ByteArray} (h : LogAt w a b fv wv D W) (hH : Holds D E) (ht : Table w) (hg : 2 < w.heap.size) (i n : Nat) (hn : n ≤ E.length) (hi : i < n) : Calls Tryz.prog 42 #[.pointer (some ⟨a, 0, none⟩), .int .i64 (i : Int), .int .i64 (n : Int)] w fun e w' => ∃ v, e = .returned (.tuple #[v, .int .i64 0]) ∧ Row w' w.heap.size 9 v (strv (incF n i ((E.map leafS).take n))) ∧ Below w.heap.size w w' := by
  have hk := logCk_ok h hH.nf.failed
  rw [hH.ckN] at hk
  have hE := hH.len
  have hlg := fun wx (hx : Below w.heap.size w wx) => (h.below hx).blk.cell 0
  have hin : Aside (∀ wx, Below w.heap.size w wx → GivesRow wx 69 #[.int .i64 (i : Int), .int .i64 (n : Int), spanV b] (incF n i ((E.map leafS).take n))) := fun wx hx => by
    refine treeInclusion i n _ _ wx ?_
    have q := beside_inc hH n i 0 n 6 wx (h.below hx).disk (table_at hx hg ht) (Nat.lt_of_lt_of_le hg hx.size) (Nat.le_refl _) (by omega) (by omega) (by omega) (Nat.dvd_zero _) (by omega) (by omega) (by omega)
    rw [Nat.sub_zero, List.drop_zero, Nat.zero_add] at q
    exact q
  unfold spanV stV at hin
  have hmf : ∀ (fn : Fn) (first cap : Array Value) (w : World), (Instr.makeFunc fn first cap).run Tryz.prog w = .ok (.func fn first cap) w := fun _ _ _ _ => rfl
  have hi1 : ¬ (i : Int) < 0 := by omega
  have hi2 : ¬ (i : Int) ≥ (n : Int) := by omega
  generalize incF n i ((E.map leafS).take n) = xs at *
  generalize strOf D.ckR = rt at *
  have hnE : ¬ (n : Int) > (E.length : Int) := by omega
  generalize (E.length : Int) = al at *
  go_enter Tryz.func42, Tryz.ntmps42
  go_wp2_with fail
  refine hk.mono ?_
  rintro e w1 ⟨rfl, hb1⟩
  have hc := hlg w1 hb1
  simp only [List.getElem?_cons_zero] at hc
  have hin1 := hin.out w1 hb1
  unfold GivesRow at hin1
  clear hk hlg
  go_wp2_with fail
  refine hin1.mono ?_
  rintro e w2 ⟨v, rfl, hr, hb2⟩
  have hr2 := hr.mono hb1.size
  clear hin1 hr
  go_wp2
  go_ret2
  exact ⟨_, rfl, hr2, hb1.trans (hb2.mono hb1.size)⟩

set_option maxHeartbeats 1000000 in
theorem treeConsistency (i n : Nat) (F : Value) (xs : List ByteArray) (w : World) (h : GivesRow w 100 #[.int .i64 (i : Int), .int .i64 0, .int .i64 (n : Int), F] xs) : GivesRow w 71 #[.int .i64 (i : Int), .int .i64 (n : Int), F] xs := by
  unfold GivesRow at *
  go_enter Tryz.func71, Tryz.ntmps71
  go_wp2_with fail
  refine h.mono ?_
  rintro e w1 ⟨v, rfl, hr, hb⟩
  go_wp2
  go_ret
  exact ⟨_, rfl, hr, hb⟩

set_option maxHeartbeats 1000000 in
theorem logConsistency_ok {w : World} {a b : Nat} {fv wv : Value} {D : Dk} {W E : List ByteArray} (h : LogAt w a b fv wv D W) (hH : Holds D E) (ht : Table w) (hg : 2 < w.heap.size) (i n : Nat) (hn : n ≤ E.length) (hi1 : 1 ≤ i) (hi : i ≤ n) : Calls Tryz.prog 46 #[.pointer (some ⟨a, 0, none⟩), .int .i64 (i : Int), .int .i64 (n : Int)] w fun e w' => ∃ v, e = .returned (.tuple #[v, .int .i64 0]) ∧ Row w' w.heap.size 9 v (strv (conF n i ((E.map leafS).take n) true)) ∧ Below w.heap.size w w' := by
  have hk := logCk_ok h hH.nf.failed
  rw [hH.ckN] at hk
  have hE := hH.len
  have hlg := fun wx (hx : Below w.heap.size w wx) => (h.below hx).blk.cell 0
  have hin : Aside (∀ wx, Below w.heap.size w wx → GivesRow wx 71 #[.int .i64 (i : Int), .int .i64 (n : Int), spanV b] (conF n i ((E.map leafS).take n) true)) := fun wx hx => by
    refine treeConsistency i n _ _ wx ?_
    have q := beside_con hH n i 0 n 6 wx (h.below hx).disk (table_at hx hg ht) (Nat.lt_of_lt_of_le hg hx.size) (Nat.le_refl _) (by omega) (by omega) (by omega) (Nat.dvd_zero _) (by omega) (by omega) (by omega)
    rw [Nat.sub_zero, List.drop_zero, Nat.zero_add] at q
    exact q
  unfold spanV stV at hin
  have hmf : ∀ (fn : Fn) (first cap : Array Value) (w : World), (Instr.makeFunc fn first cap).run Tryz.prog w = .ok (.func fn first cap) w := fun _ _ _ _ => rfl
  have hi1 : ¬ (i : Int) < 1 := by omega
  have hi2 : ¬ (i : Int) > (n : Int) := by omega
  generalize conF n i ((E.map leafS).take n) true = xs at *
  generalize strOf D.ckR = rt at *
  have hnE : ¬ (n : Int) > (E.length : Int) := by omega
  generalize (E.length : Int) = al at *
  go_enter Tryz.func46, Tryz.ntmps46
  go_wp2_with fail
  refine hk.mono ?_
  rintro e w1 ⟨rfl, hb1⟩
  have hc := hlg w1 hb1
  simp only [List.getElem?_cons_zero] at hc
  have hin1 := hin.out w1 hb1
  unfold GivesRow at hin1
  clear hk hlg
  go_wp2_with fail
  refine hin1.mono ?_
  rintro e w2 ⟨v, rfl, hr, hb2⟩
  have hr2 := hr.mono hb1.size
  clear hin1 hr
  go_wp2
  go_ret2
  exact ⟨_, rfl, hr2, hb1.trans (hb2.mono hb1.size)⟩
end Go.Proofs.YtlhohmlpcgbliabGreatDoor
namespace Go.Proofs.YtlhohmlpcgbliabGreatDoor
set_option maxRecDepth 100000
open Go.RowKit
attribute [local go_sem ↓] Go.wp_at_zero Go.wp_at_succ

theorem incl_side (E : List ByteArray) (hE : E.length ≤ 64) (i n b c : Nat) (hn : n ≤ E.length) (hi : i < n) (w : World) (hS : SA w b 0 E) (hz : ∀ s ∈ E, s.size ≤ 40) :
    Calls Tryz.prog 12 #[.slice (some ⟨b, 0, none⟩) n c] w fun e w' => ∃ l, e = .returned l ∧ Below w.heap.size w w' ∧ GivesRow w' 17 #[.int .i64 (i : Int), l] (incF n i ((E.map leafS).take n)) := by
  have hlen : (E.take n).length = n := by rw [List.length_take]; omega
  have hz' : ∀ s ∈ E.take n, s.size ≤ 40 := fun s hs => hz s (List.mem_of_mem_take hs)
  have hSt : Strs w (.slice (some ⟨b, 0, none⟩) n c) (E.take n) := ⟨_, _, by rw [hlen], fun j s hs => ⟨b, 0, rfl, by
    rw [List.getElem?_take] at hs
    split at hs
    · exact hS j s hs
    · cases hs⟩⟩
  refine (leaves_any _ (E.take n) w hSt (by omega) (fun s hs => by have := hz' s hs; omega)).mono ?_
  rintro e w' ⟨l, rfl, hR, hb⟩
  refine ⟨l, rfl, hb, ?_⟩
  have h0 : 0 < ((E.take n).map leafS).length := by rw [List.length_map, hlen]; omega
  obtain ⟨g, cap, hv, _, hc, _⟩ := hR.form (by rw [strv_length]; exact h0)
  subst hv
  rw [strv_length] at hc
  have hq := inclusion_any n i ((E.take n).map leafS) g 0 cap w' (by rw [List.length_map, hlen]; exact Nat.le_refl _) (by omega) hc (by rw [List.length_map, hlen]; exact hi) (SA.of_row hR h0) (fun s hs => by
    obtain ⟨t, _, rfl⟩ := List.mem_map.1 hs
    rw [leafS_size]; omega)
  rw [strv_length, ← List.map_take]
  exact hq
theorem cons_side (E : List ByteArray) (hE : E.length ≤ 64) (i n b c : Nat) (hn : n ≤ E.length) (hi1 : 1 ≤ i) (hi : i ≤ n) (w : World) (hS : SA w b 0 E) (hz : ∀ s ∈ E, s.size ≤ 40) :
    Calls Tryz.prog 12 #[.slice (some ⟨b, 0, none⟩) n c] w fun e w' => ∃ l, e = .returned l ∧ Below w.heap.size w w' ∧ GivesRow w' 18 #[.int .i64 (i : Int), l, .bool true] (conF n i ((E.map leafS).take n) true) := by
  have hlen : (E.take n).length = n := by rw [List.length_take]; omega
  have hz' : ∀ s ∈ E.take n, s.size ≤ 40 := fun s hs => hz s (List.mem_of_mem_take hs)
  have hSt : Strs w (.slice (some ⟨b, 0, none⟩) n c) (E.take n) := ⟨_, _, by rw [hlen], fun j s hs => ⟨b, 0, rfl, by
    rw [List.getElem?_take] at hs
    split at hs
    · exact hS j s hs
    · cases hs⟩⟩
  refine (leaves_any _ (E.take n) w hSt (by omega) (fun s hs => by have := hz' s hs; omega)).mono ?_
  rintro e w' ⟨l, rfl, hR, hb⟩
  refine ⟨l, rfl, hb, ?_⟩
  have h0 : 0 < ((E.take n).map leafS).length := by rw [List.length_map, hlen]; omega
  obtain ⟨g, cap, hv, _, hc, _⟩ := hR.form (by rw [strv_length]; exact h0)
  subst hv
  rw [strv_length] at hc
  have hq := consistency_any n i ((E.take n).map leafS) true g 0 cap w' (by rw [List.length_map, hlen]; exact Nat.le_refl _) (by omega) hc hi1 (by rw [List.length_map, hlen]; exact hi) (SA.of_row hR h0) (fun s hs => by
    obtain ⟨t, _, rfl⟩ := List.mem_map.1 hs
    rw [leafS_size]; omega)
  rw [strv_length, ← List.map_take]
  exact hq

set_option maxHeartbeats 1000000 in
theorem refIncl_ok {w : World} {r : Nat} {ev uv : Value} {E W : List ByteArray} (h : RefAt w r ev uv E W) (hE : E.length ≤ 64) (hz : ∀ s ∈ E, s.size ≤ 40) (i n : Nat) (hn : n ≤ E.length) (hi : i < n) :
    Calls Tryz.prog 43 #[.pointer (some ⟨r, 0, none⟩), .int .i64 (i : Int), .int .i64 (n : Int)] w fun e w' => ∃ v, e = .returned (.tuple #[v, .int .i64 0]) ∧ Row w' w.heap.size 9 v (strv (incF n i ((E.map leafS).take n))) ∧ Below w.heap.size w w' := by
  have hc0 := h.blk.cell 0
  simp only [List.getElem?_cons_zero] at hc0
  obtain ⟨p, ce, rfl, hce, h1, h2⟩ := rowY_slice h.er
  obtain ⟨b, hb⟩ : ∃ b, p = some ⟨b, 0, none⟩ := by
    cases p with
    | none =>
      have := h2 (by simp [Value.ownBlock])
      subst this
      simp at hn
      omega
    | some a => exact ⟨a.block, (h1 a.block (by simp [Value.ownBlock])).1⟩
  have hSA := (h1 b (by rw [hb]; rfl)).2
  subst hb
  have HL : Hid (∀ wx, Below w.heap.size w wx → Calls Tryz.prog 12 #[.slice (some ⟨b, 0, none⟩) n ce] wx fun e w' => ∃ l, e = .returned l ∧ Below wx.heap.size wx w' ∧ GivesRow w' 17 #[.int .i64 (i : Int), l] (incF n i ((E.map leafS).take n))) := fun wx hx => incl_side E hE i n b ce hn hi wx (hSA.below hx) hz
  have hsl : ∀ wx, (Instr.sliceAt 22 (.slice (some ⟨b, 0, none⟩) E.length ce) none (some (.int .i64 (n : Int))) none).run Tryz.prog wx = .ok (.slice (some ⟨b, 0, none⟩) n ce) wx := fun wx => slice_h wx b 0 E.length ce n (by omega)
  have g1 : ¬ (n : Int) > (E.length : Int) := by omega
  have g2 : ¬ (i : Int) < 0 := by omega
  have g3 : ¬ (i : Int) ≥ (n : Int) := by omega
  generalize incF n i ((E.map leafS).take n) = xs at *
  clear h h1 h2 hSA hz
  go_enter Tryz.func43, Tryz.ntmps43
  go_wp2_with fail
  refine (HL.out w (Below.refl _ _)).mono ?_
  rintro e w1 ⟨l, rfl, hb1, hG⟩
  unfold GivesRow at hG
  clear hsl hc0 HL
  go_wp2_with fail
  refine hG.mono ?_
  rintro e w2 ⟨v, rfl, hR, hb2⟩
  have hR2 := hR.mono hb1.size
  have hb : Below w.heap.size w w2 := hb1.trans (hb2.mono hb1.size)
  clear hG hR hb1 hb2
  go_wp2
  go_ret2
  exact ⟨_, rfl, hR2, hb⟩
set_option maxHeartbeats 1000000 in
theorem refCons_ok {w : World} {r : Nat} {ev uv : Value} {E W : List ByteArray} (h : RefAt w r ev uv E W) (hE : E.length ≤ 64) (hz : ∀ s ∈ E, s.size ≤ 40) (i n : Nat) (hn : n ≤ E.length) (hi1 : 1 ≤ i) (hi : i ≤ n) :
    Calls Tryz.prog 47 #[.pointer (some ⟨r, 0, none⟩), .int .i64 (i : Int), .int .i64 (n : Int)] w fun e w' => ∃ v, e = .returned (.tuple #[v, .int .i64 0]) ∧ Row w' w.heap.size 9 v (strv (conF n i ((E.map leafS).take n) true)) ∧ Below w.heap.size w w' := by
  have hc0 := h.blk.cell 0
  simp only [List.getElem?_cons_zero] at hc0
  obtain ⟨p, ce, rfl, hce, h1, h2⟩ := rowY_slice h.er
  obtain ⟨b, hb⟩ : ∃ b, p = some ⟨b, 0, none⟩ := by
    cases p with
    | none =>
      have := h2 (by simp [Value.ownBlock])
      subst this
      simp at hn
      omega
    | some a => exact ⟨a.block, (h1 a.block (by simp [Value.ownBlock])).1⟩
  have hSA := (h1 b (by rw [hb]; rfl)).2
  subst hb
  have HL : Hid (∀ wx, Below w.heap.size w wx → Calls Tryz.prog 12 #[.slice (some ⟨b, 0, none⟩) n ce] wx fun e w' => ∃ l, e = .returned l ∧ Below wx.heap.size wx w' ∧ GivesRow w' 18 #[.int .i64 (i : Int), l, .bool true] (conF n i ((E.map leafS).take n) true)) := fun wx hx => cons_side E hE i n b ce hn hi1 hi wx (hSA.below hx) hz
  have hsl : ∀ wx, (Instr.sliceAt 22 (.slice (some ⟨b, 0, none⟩) E.length ce) none (some (.int .i64 (n : Int))) none).run Tryz.prog wx = .ok (.slice (some ⟨b, 0, none⟩) n ce) wx := fun wx => slice_h wx b 0 E.length ce n (by omega)
  have g1 : ¬ (n : Int) > (E.length : Int) := by omega
  have g2 : ¬ (i : Int) < 1 := by omega
  have g3 : ¬ (i : Int) > (n : Int) := by omega
  generalize conF n i ((E.map leafS).take n) true = xs at *
  clear h h1 h2 hSA hz
  go_enter Tryz.func47, Tryz.ntmps47
  go_wp2_with fail
  refine (HL.out w (Below.refl _ _)).mono ?_
  rintro e w1 ⟨l, rfl, hb1, hG⟩
  unfold GivesRow at hG
  clear hsl hc0 HL
  go_wp2_with fail
  refine hG.mono ?_
  rintro e w2 ⟨v, rfl, hR, hb2⟩
  have hR2 := hR.mono hb1.size
  have hb : Below w.heap.size w w2 := hb1.trans (hb2.mono hb1.size)
  clear hG hR hb1 hb2
  go_wp2
  go_ret2
  exact ⟨_, rfl, hR2, hb⟩

set_option maxHeartbeats 1000000 in
theorem refIncl_range {w : World} {r : Nat} {ev uv : Value} {E W : List ByteArray} (h : RefAt w r ev uv E W) (i n : Int) (hi : (E.length : Int) < n ∨ i < 0 ∨ n ≤ i) :
    Calls Tryz.prog 43 #[.pointer (some ⟨r, 0, none⟩), .int .i64 i, .int .i64 n] w fun e w' => e = .returned (.tuple #[.slice none 0 0, .int .i64 8]) ∧ w' = w := by
  have hc0 := h.blk.cell 0
  simp only [List.getElem?_cons_zero] at hc0
  obtain ⟨pe, ce, rfl, -, -, -⟩ := rowY_slice h.er
  clear h
  by_cases h0 : (E.length : Int) < n
  · clear hi
    go_enter Tryz.func43, Tryz.ntmps43
    go_wp2
    go_ret2
    exact ⟨rfl, rfl⟩
  · by_cases h1 : i < 0
    · clear hi
      have g0 : ¬ n > (E.length : Int) := by omega
      go_enter Tryz.func43, Tryz.ntmps43
      go_wp2
      go_ret2
      exact ⟨rfl, rfl⟩
    · have hi1 : n ≤ i := by omega
      have g0 : ¬ n > (E.length : Int) := by omega
      clear hi
      go_enter Tryz.func43, Tryz.ntmps43
      go_wp2
      go_ret2
      exact ⟨rfl, rfl⟩

set_option maxHeartbeats 1000000 in
theorem refCons_range {w : World} {r : Nat} {ev uv : Value} {E W : List ByteArray} (h : RefAt w r ev uv E W) (i n : Int) (hi : (E.length : Int) < n ∨ i < 1 ∨ n < i) :
    Calls Tryz.prog 47 #[.pointer (some ⟨r, 0, none⟩), .int .i64 i, .int .i64 n] w fun e w' => e = .returned (.tuple #[.slice none 0 0, .int .i64 8]) ∧ w' = w := by
  have hc0 := h.blk.cell 0
  simp only [List.getElem?_cons_zero] at hc0
  obtain ⟨pe, ce, rfl, -, -, -⟩ := rowY_slice h.er
  clear h
  by_cases h0 : (E.length : Int) < n
  · clear hi
    go_enter Tryz.func47, Tryz.ntmps47
    go_wp2
    go_ret2
    exact ⟨rfl, rfl⟩
  · by_cases h1 : i < 1
    · clear hi
      have g0 : ¬ n > (E.length : Int) := by omega
      go_enter Tryz.func47, Tryz.ntmps47
      go_wp2
      go_ret2
      exact ⟨rfl, rfl⟩
    · have hi1 : n < i := by omega
      have g0 : ¬ n > (E.length : Int) := by omega
      clear hi
      go_enter Tryz.func47, Tryz.ntmps47
      go_wp2
      go_ret2
      exact ⟨rfl, rfl⟩

set_option maxHeartbeats 1000000 in
theorem logIncl_range {w : World} {a b : Nat} {fv wv : Value} {D : Dk} {W : List ByteArray} (h : LogAt w a b fv wv D W) (hf : D.failed = false) (i n : Int) (hi : (D.ckN : Int) < n ∨ i < 0 ∨ n ≤ i) :
    Calls Tryz.prog 42 #[.pointer (some ⟨a, 0, none⟩), .int .i64 i, .int .i64 n] w fun e w' => e = .returned (.tuple #[.slice none 0 0, .int .i64 8]) ∧ Below w.heap.size w w' := by
  have hk := logCk_ok h hf
  clear hf
  generalize strOf D.ckR = rt at *
  generalize (D.ckN : Int) = m at *
  go_enter Tryz.func42, Tryz.ntmps42
  go_wp2_with fail
  refine hk.mono ?_
  rintro e w1 ⟨rfl, hb1⟩
  clear hk h
  by_cases h0 : m < n
  · clear hi
    go_wp2
    go_ret2
    exact ⟨rfl, hb1⟩
  · have g0 : ¬ n > m := by omega
    by_cases h1 : i < 0
    · clear hi
      go_wp2
      go_ret2
      exact ⟨rfl, hb1⟩
    · have hi1 : n ≤ i := by omega
      clear hi
      go_wp2
      go_ret2
      exact ⟨rfl, hb1⟩

set_option maxHeartbeats 1000000 in
theorem logCons_range {w : World} {a b : Nat} {fv wv : Value} {D : Dk} {W : List ByteArray} (h : LogAt w a b fv wv D W) (hf : D.failed = false) (i n : Int) (hi : (D.ckN : Int) < n ∨ i < 1 ∨ n < i) :
    Calls Tryz.prog 46 #[.pointer (some ⟨a, 0, none⟩), .int .i64 i, .int .i64 n] w fun e w' => e = .returned (.tuple #[.slice none 0 0, .int .i64 8]) ∧ Below w.heap.size w w' := by
  have hk := logCk_ok h hf
  clear hf
  generalize strOf D.ckR = rt at *
  generalize (D.ckN : Int) = m at *
  go_enter Tryz.func46, Tryz.ntmps46
  go_wp2_with fail
  refine hk.mono ?_
  rintro e w1 ⟨rfl, hb1⟩
  clear hk h
  by_cases h0 : m < n
  · clear hi
    go_wp2
    go_ret2
    exact ⟨rfl, hb1⟩
  · have g0 : ¬ n > m := by omega
    by_cases h1 : i < 1
    · clear hi
      go_wp2
      go_ret2
      exact ⟨rfl, hb1⟩
    · have hi1 : n < i := by omega
      clear hi
      go_wp2
      go_ret2
      exact ⟨rfl, hb1⟩
end Go.Proofs.YtlhohmlpcgbliabGreatDoor
namespace Go.Proofs.YtlhohmlpcgbliabGreatDoor
set_option maxRecDepth 100000
open Go.RowKit
attribute [local go_sem ↓] Go.wp_at_zero Go.wp_at_succ

/-- What holds a text that may be written holds it still. -/
def Stays (ys : List ByteArray) (w w' : World) : Prop := ∀ mk, (∀ s ∈ ys, s = mk) → ∀ b o, w.cell? ⟨b, o, none⟩ = some (.string mk) → w'.cell? ⟨b, o, none⟩ = some (.string mk)
theorem Stays.of_block {ys : List ByteArray} {w w' : World} (h : ∀ k, k < w.heap.size → w'.heap[k]? = w.heap[k]?) : Stays ys w w' := fun mk _ b o hc => by
  rw [World.cell?_of_block (h b (World.block_lt_of_cell? _ _ hc))]; exact hc
/-- An append behind which the row that it was made of still reads as it did. -/
theorem app_keep {w : World} {v : Value} {xs ys : List ByteArray} (hown : Row w 0 9 v (strv xs)) (ty : TypeId) (ad : Addr) (c : Nat) (hnews : ∀ (j : Nat) s, ys[j]? = some s → w.cell? (ad.add j) = some (.string s)) (h0 : 0 < ys.length) (hlen : xs.length + ys.length ≤ 1000000000000) :
    ∃ v' w', (Builtin.append_ #[22, 22] ty #[v, .slice (some ad) ys.length c]).run Tryz.prog w = .ok v' w' ∧ Row w' 0 9 v' (strv (xs ++ ys)) ∧ Row w' 0 9 v (strv xs) ∧ w.grownBy w' v.ownBlock ∧ (v'.ownBlock = v.ownBlock ∨ v'.ownBlock = some w.heap.size) ∧ Stays ys w w' := by
  obtain ⟨i, hi, hiz, his, hib⟩ := elem_string
  have hn : ∀ j u, (strv ys)[j]? = some u → w.cell? (ad.add j) = some u := fun j u hu => by
    simp only [strv, List.getElem?_map, Option.map_eq_some_iff] at hu
    obtain ⟨s, h1, rfl⟩ := hu
    exact hnews j s h1
  have h1 : ∀ u ∈ strv ys, u.oneCell' = true := fun u hu => by
    obtain ⟨s, _, rfl⟩ := List.mem_map.1 hu
    rfl
  have hl : (strv ys).length = ys.length * 1 := by simp
  obtain ⟨g, cap, w', hr, h2, h3, h4, _⟩ := run_append_lies (P := Tryz.prog) w 22 ty 0 9 i _ 1 16 Tryz.underlying22 hi hiz his hib rfl (by omega) v (strv xs).length (strv xs) hown ad ys.length c (strv ys) hl hn h1 h0 (by unfold maxLen; rw [strv_length]; omega) (by rw [strv_length]; omega) (Nat.zero_le _) w.heap.size rfl
  suffices hsuf : Row w' 0 9 v (strv xs) ∧ Stays ys w w' by
    refine ⟨_, w', hr, ?_, hsuf.1, h3, ?_, hsuf.2⟩
    · unfold Row
      rw [strv_append, List.length_append, strv_length ys]
      exact h2
    · rcases h4 with e | e
      · exact .inl e.symm
      · exact .inr (by rw [e]; rfl)
  rcases hown.2 with ⟨rfl, e0⟩ | ⟨g0, cap0, cur, rfl, hb, hg, hnc, hcm, hcs, ht⟩
  · exact ⟨⟨hown.1, .inl ⟨rfl, e0⟩⟩, Stays.of_block fun k hk => h3.block k hk (by simp [Value.ownBlock])⟩
  · by_cases hroom : (strv xs).length + ys.length ≤ cap0
    · have hfit : (strv xs).length * i.size + (strv ys).length ≤ cur.size := by rw [his, hcs, hl]; omega
      have hr2 := run_append_room (P := Tryz.prog) w 22 ty 9 i Tryz.underlying22 hi g0 (strv xs).length cap0 cur hg ad ys.length c (strv ys) (by rw [his]; exact hl) hn h1 hroom hfit
      rw [hr] at hr2
      injection hr2 with e1 e2
      have hg1 := setRow_heap w g0 cur (cur.toList.take ((strv xs).length * i.size) ++ strv ys ++ cur.toList.drop ((strv xs).length * i.size + (strv ys).length)).toArray 9 _ hg
      rw [← e2] at hg1
      rw [his, Nat.mul_one] at hg1 hfit
      rw [Nat.mul_one] at ht hcs
      have hlc : cur.toList.length = cap0 := by rw [Array.length_toList]; exact hcs
      refine ⟨⟨hown.1, .inr ⟨g0, cap0, _, rfl, hb, hg1, hnc, hcm, ?_, ?_⟩⟩, ?_⟩
      · simp only [List.size_toArray, List.length_append, List.length_take, List.length_drop, hlc]
        omega
      · rw [Nat.mul_one, List.append_assoc, ht]
        exact List.take_left
      · intro mk hmk b o hc
        by_cases hbg : b = g0
        · subst hbg
          have hc0 : cur[o]? = some (.string mk) := by
            rw [cell_of_row w b o cur 9 (0, 0) hg] at hc
            exact hc
          have hc1 : w'.cell? ⟨b, o, none⟩ = ((cur.toList.take (strv xs).length ++ strv ys ++ cur.toList.drop ((strv xs).length + (strv ys).length)).toArray)[o]? := cell_of_row w' b o _ 9 (0, 0) hg1
          rw [hc1, List.getElem?_toArray]
          have hcl : cur.toList[o]? = some (.string mk) := by rw [Array.getElem?_toList]; exact hc0
          have htk : (cur.toList.take (strv xs).length).length = (strv xs).length := by rw [List.length_take]; omega
          by_cases o1 : o < (strv xs).length
          · rw [List.append_assoc, List.getElem?_append_left (by rw [htk]; exact o1), List.getElem?_take, if_pos o1]
            exact hcl
          · by_cases o2 : o < (strv xs).length + (strv ys).length
            · rw [List.getElem?_append_left (by rw [List.length_append, htk]; exact o2), List.getElem?_append_right (by rw [htk]; omega), htk]
              have hlt : o - (strv xs).length < ys.length := by rw [strv_length ys] at o2; omega
              rw [strv, List.getElem?_map, List.getElem?_eq_getElem hlt, hmk _ (List.getElem_mem hlt)]
              rfl
            · rw [List.getElem?_append_right (by rw [List.length_append, htk]; omega), List.length_append, htk, List.getElem?_drop, Nat.add_sub_cancel' (by omega)]
              exact hcl
        · rw [World.cell?_of_block (h3.block b (World.block_lt_of_cell? _ _ hc) (by simp [Value.ownBlock]; exact hbg))]
          exact hc
    · have holds : ∀ j u, (strv xs)[j]? = some u → w.cell? ((⟨g0, 0, none⟩ : Addr).add j) = some u := hown.cells (g := g0) rfl
      have hr2 := run_append_grow (P := Tryz.prog) w 22 ty 9 i _ Tryz.underlying22 hi hiz ⟨g0, 0, none⟩ (strv xs).length cap0 (strv xs) (by rw [his]; omega) holds ad ys.length c (strv ys) (by rw [his]; exact hl) hn (by omega) (by rw [strv_length]; omega) (growslice_fits (by omega) (by rw [strv_length, hib]; omega))
      rw [hr] at hr2
      injection hr2 with e1 e2
      subst e2
      refine ⟨⟨hown.1, .inr ⟨g0, cap0, cur, rfl, hb, ?_, hnc, hcm, hcs, ht⟩⟩, Stays.of_block fun k hk => heap_alloc_old w.drew _ hk⟩
      rw [← hg]
      exact heap_alloc_old w.drew _ (Array.getElem?_eq_some_iff.1 hg).1
theorem wpList_appK {w : World} {ops : Array Oper} {rest : List Oper} {o : Oper} {a : Act} {Q : Exit → Act → World → Prop} (hgd : o.guard = none) (s x : Operand)
    (ho : o.op = .call { callee := .builtin .append, args := #[s, x], argTypes := #[22, 22] }) (v : Value) (xs : List ByteArray) (hs : a.eval s = v) (hown : Row w 0 9 v (strv xs)) (b m c : Nat) (ys : List ByteArray) (hx : a.eval x = .slice (some ⟨b, 0, none⟩) m c) (hm : ys.length = m) (hS : SA w b 0 ys) (h0 : 0 < m)
    (hlen : xs.length + m ≤ 1000000000000)
    (h : ∀ v' w', Row w' 0 9 v' (strv (xs ++ ys)) → Row w' 0 9 v (strv xs) → w.grownBy w' v.ownBlock → (v'.ownBlock = v.ownBlock ∨ v'.ownBlock = some w.heap.size) → Stays ys w w' → wpList Tryz.prog ops Q rest (a.put o.dst v') w') : wpList Tryz.prog ops Q (o :: rest) a w := by
  subst hm
  refine wpList_plain hgd fun _ hK => ?_
  obtain ⟨v', w', hr, h2, h3, h4, h5, h6⟩ := app_keep hown o.type ⟨b, 0, none⟩ c (fun j s hs => by rw [Addr.add_mid]; exact hS j s hs) h0 hlen
  have hh := hK _ _ (h v' w' h2 h3 h4 h5 h6)
  unfold Oper.wp execOp
  simp only [ho, resolve, invoke, builtin, Sem.run_bind, Sem.run_pure, Result.andThen_ok, List.map_toArray, List.map_cons, List.map_nil, hs, hx, hr]
  exact hh
theorem grown_trans {w w1 w2 : World} {row : Option Nat} (h : w.grownBy w1 row) (k : w1.grownBy w2 row) : w.grownBy w2 row :=
  ⟨k.os.trans h.os, k.tape.trans h.tape, k.output.trans h.output, Nat.le_trans h.size k.size, fun i hi hn => (k.block i (Nat.lt_of_lt_of_le hi h.size) hn).trans (h.block i hi hn)⟩
theorem grown_below {w w1 : World} {row : Option Nat} (h : Below w.heap.size w w1) : w.grownBy w1 row := ⟨h.os, h.tape, h.output, h.size, fun k hk _ => h.block k hk⟩
theorem mark_step (mk : ByteArray) (ss : List ByteArray) (k : Nat) (h : k < ss.length) : (strv (List.replicate k mk ++ ss.drop k)).set k (.string mk) = strv (List.replicate (k + 1) mk ++ ss.drop (k + 1)) := by
  have e : (List.replicate k mk ++ ss.drop k).set k mk = List.replicate (k + 1) mk ++ ss.drop (k + 1) := by
    rw [List.set_append_right _ _ (by simp), List.length_replicate, Nat.sub_self, List.drop_eq_getElem_cons h, List.set_cons_zero, List.replicate_succ', List.append_assoc]
    rfl
  rw [← e, strv, strv, List.map_set]
theorem mark_len (mk : ByteArray) (ss : List ByteArray) (k : Nat) (h : k ≤ ss.length) : (List.replicate k mk ++ ss.drop k).length = ss.length := by simp; omega
/-- A row that is full of its mark. -/
theorem MK.of_row {w : World} {v : Value} {mk : ByteArray} {n : Nat} (h : Row w 0 9 v (strv (List.replicate n mk))) (hn : n ≤ 1000000000000) : MK w v mk := by
  obtain ⟨p, cap, rfl, _, h1, h2⟩ := rowY_slice h
  rw [List.length_replicate]
  refine ⟨p, n, cap, rfl, hn, fun i hi => ?_⟩
  cases p with
  | none =>
    have := congrArg List.length (h2 (by simp [Value.ownBlock]))
    simp at this
    omega
  | some a =>
    obtain ⟨e1, e2⟩ := h1 a.block (by simp [Value.ownBlock])
    exact ⟨a.block, 0, e1, e2 i mk (by simp [hi])⟩

theorem MK.stays {w w' : World} {v : Value} {mk : ByteArray} {ys : List ByteArray} (h : MK w v mk) (hs : Stays ys w w') (hy : ∀ s ∈ ys, s = mk) : MK w' v mk := by
  obtain ⟨p, n, c, h1, h2, h3⟩ := h
  refine ⟨p, n, c, h1, h2, fun i hi => ?_⟩
  obtain ⟨b, o, h4, h5⟩ := h3 i hi
  exact ⟨b, o, h4, hs mk hy b (o + i) h5⟩
theorem MK.block {w w' : World} {v : Value} {mk : ByteArray} (h : MK w v mk) (hb : ∀ k, v.ownBlock = some k → k < w.heap.size → w'.heap[k]? = w.heap[k]?) : MK w' v mk := by
  obtain ⟨p, n, c, rfl, h2, h3⟩ := h
  refine ⟨p, n, c, rfl, h2, fun i hi => ?_⟩
  obtain ⟨b, o, rfl, h5⟩ := h3 i hi
  exact ⟨b, o, rfl, by rw [World.cell?_of_block (hb b rfl (World.block_lt_of_cell? _ _ h5))]; exact h5⟩
theorem MK.below {w w' : World} {v : Value} {mk : ByteArray} (h : MK w v mk) (hb : Below w.heap.size w w') : MK w' v mk := h.block fun k _ hk => hb.block k hk

/-- One append more onto the list: what it leaves. -/
theorem KA.step {w wr w3 : World} {v v1 : Value} {t : TypeId} {cs : List Value} {o : Obj} (hG : w.grownBy wr v.ownBlock) (hsz : w.heap.size < wr.heap.size) (hB : Blk wr w.heap.size t cs) (hap : v.ownBlock ≠ some w.heap.size) (hg : (wr.alloc o).grownBy w3 v.ownBlock) (ho : v1.ownBlock = v.ownBlock ∨ v1.ownBlock = some (wr.heap.size + 1)) (hlt : ∀ k, v1.ownBlock = some k → k < w3.heap.size) :
    w.grownBy w3 v.ownBlock ∧ w.heap.size < w3.heap.size ∧ Blk w3 w.heap.size t cs ∧ ∀ k, v1.ownBlock = some k → (v.ownBlock = some k ∨ w.heap.size < k) ∧ k < w3.heap.size := by
  have ha : Below wr.heap.size wr (wr.alloc o) := (Below.refl _ _).alloc (Nat.le_refl _) _
  have h1 := grown_trans hG (grown_trans (grown_below ha) hg)
  refine ⟨h1, Nat.lt_of_lt_of_le hsz (Nat.le_trans ha.size hg.size), ?_, fun k hk => ?_⟩
  · unfold Blk
    rw [hg.block _ (Nat.lt_of_lt_of_le hsz ha.size) (Ne.symm hap), ha.block _ hsz]
    exact hB
  · refine ⟨?_, hlt k hk⟩
    rcases ho with e | e
    · rw [e] at hk; exact .inl hk
    · rw [e] at hk
      injection hk with hk
      right; omega
theorem infoTx : (Tryz.prog.info? 74).map (·.size) = some 5 := by kernel_rfl
theorem KA.hid {P : Prop} (h : P) : Hid P := h

set_option maxHeartbeats 4000000 in
theorem kept_any (v : Value) (ss : List ByteArray) (n : Nat) (w : World) (h : Row w 0 9 v (strv ss)) (hl : ss.length ≤ 1000000000) (hn : n < 100000000) : Calls Tryz.prog 45 #[v, .int .i64 (n : Int)] w fun e w' => ∃ (g h i : Value) (mk : ByteArray), e = .returned (.agg #[v, g, h, i, .string mk]) ∧ MK w' v mk ∧ MK w' g mk ∧ MK w' h mk ∧ MK w' i mk ∧ w.grownBy w' v.ownBlock ∧ (∀ u, u = g ∨ u = h ∨ u = i → ∀ k, u.ownBlock = some k → (v.ownBlock = some k ∨ w.heap.size ≤ k) ∧ k < w'.heap.size) := by
  have hcv : (convert 78 9 (.slice (some ⟨w.heap.size + 1, 0, none⟩) 2 2)).run Tryz.prog ((w.alloc (.cells #[.slice none 0 0, .slice none 0 0, .slice none 0 0, .slice none 0 0, .string ⟨#[]⟩] 74)).alloc (.cells #[.int .u8 ((n : Int) % 256), .int .u8 ((n : Int) / 256 % 256)] 5)) = .ok (.string (strOf [n % 256, n / 256 % 256])) ((w.alloc (.cells #[.slice none 0 0, .slice none 0 0, .slice none 0 0, .slice none 0 0, .string ⟨#[]⟩] 74)).alloc (.cells #[.int .u8 ((n : Int) % 256), .int .u8 ((n : Int) / 256 % 256)] 5)) := by
    have hB := Blk.new (w.alloc (.cells #[.slice none 0 0, .slice none 0 0, .slice none 0 0, .slice none 0 0, .string ⟨#[]⟩] 74)) 5 (u8s [n % 256, n / 256 % 256])
    have := convert_range (cap := 2) (l := [n % 256, n / 256 % 256]) hB.range
    simp only [World.size_alloc] at this
    simpa [u8s] using this
  have hB0 := (Blk.new w 74 [.slice none 0 0, .slice none 0 0, .slice none 0 0, .slice none 0 0, .string ⟨#[]⟩]).alloc (.cells #[.int .u8 ((n : Int) % 256), .int .u8 ((n : Int) / 256 % 256)] 5)
  have hb2 : Below w.heap.size w ((w.alloc (.cells #[.slice none 0 0, .slice none 0 0, .slice none 0 0, .slice none 0 0, .string ⟨#[]⟩] 74)).alloc (.cells #[.int .u8 ((n : Int) % 256), .int .u8 ((n : Int) / 256 % 256)] 5)) := ((Below.refl _ _).alloc (Nat.le_refl _) _).alloc (by simp) _
  have H2 : Hid (Row w 0 9 v (strv ss)) := h
  obtain ⟨p, c, hv, -, -, -⟩ := rowY_slice h
  subst hv
  clear h
  have hx0 : ¬ (9223372036854775807 < 4 + (strOf [n % 256, n / 256 % 256]).size) := by
    rw [strOf_size (fun x hx => by simp at hx; omega)]
    simp
  generalize strOf [n % 256, n / 256 % 256] = x0 at *
  go_enter Tryz.func45, Tryz.ntmps45
  go_wp2_with fail
  clear hcv hx0
  have hs2 : w.heap.size < ((w.alloc (.cells #[.slice none 0 0, .slice none 0 0, .slice none 0 0, .slice none 0 0, .string ⟨#[]⟩] 74)).alloc (.cells #[.int .u8 ((n : Int) % 256), .int .u8 ((n : Int) / 256 % 256)] 5)).heap.size := by simp; omega
  generalize ((w.alloc (.cells #[.slice none 0 0, .slice none 0 0, .slice none 0 0, .slice none 0 0, .string ⟨#[]⟩] 74)).alloc (.cells #[.int .u8 ((n : Int) % 256), .int .u8 ((n : Int) / 256 % 256)] 5)) = w2 at *
  have H3 : Hid (Row w2 0 9 (.slice p ss.length c) (strv ss) ∧ (Value.slice p ss.length c).ownBlock ≠ some w.heap.size) := ⟨H2.out.below hb2 (Nat.le_refl _), fun e => by have := (H2.out.lt _ e).2; omega⟩
  generalize (⟨#[109, 97, 114, 107]⟩ ++ x0 : ByteArray) = mk at *
  clear H2
  try go_wp2
  go_loopw [6] (fun v wr => ∃ k : Nat, k ≤ ss.length ∧ v = .int .i64 (k : Int) ∧ Row wr 0 9 (.slice p ss.length c) (strv (List.replicate k mk ++ ss.drop k)) ∧ w2.grownBy wr (Value.slice p ss.length c).ownBlock) (fun v _ => ss.length - (intOf v).toNat)
  case atStart => exact ⟨0, by omega, rfl, by simpa using H3.out.1, ⟨rfl, rfl, rfl, Nat.le_refl _, fun _ _ _ => rfl⟩⟩
  case round =>
    obtain ⟨k, hk, rfl, hR, hG⟩ := hrel
    by_cases h8 : k < ss.length
    · obtain ⟨p', c', hp', -, hq, hz⟩ := rowY_slice hR
      rw [mark_len mk ss k hk] at hp'
      simp only [Value.slice.injEq] at hp'
      obtain ⟨rfl, -, rfl⟩ := hp'
      obtain ⟨g, rfl⟩ : ∃ g, p = some ⟨g, 0, none⟩ := by
        cases p with
        | none =>
          have := congrArg List.length (hz (by simp [Value.ownBlock]))
          rw [mark_len mk ss k hk, List.length_nil] at this
          omega
        | some a => exact ⟨a.block, (hq a.block (by simp [Value.ownBlock])).1⟩
      have hcell := (hq g rfl).2 k _ (List.getElem?_eq_getElem (by rw [mark_len mk ss k hk]; exact h8))
      rw [Nat.zero_add] at hcell
      have hlen : (strv (List.replicate k mk ++ ss.drop k)).length = ss.length := by rw [strv_length, mark_len mk ss k hk]
      have hR' : wr.ownsRow 0 9 1 (.slice (some ⟨g, 0, none⟩) ss.length c) ss.length (strv (List.replicate k mk ++ ss.drop k)) := by
        have := hR
        unfold Row at this
        rw [hlen] at this
        exact this
      have hf := hR'.frozenAt k
      have HS : Hid (Row (wr.setCell ⟨g, k, none⟩ (.string mk)) 0 9 (.slice (some ⟨g, 0, none⟩) ss.length c) (strv (List.replicate (k + 1) mk ++ ss.drop (k + 1))) ∧ w2.grownBy (wr.setCell ⟨g, k, none⟩ (.string mk)) (some g)) := by
        have := hR'.stored k (.string mk)
        rw [mark_step mk ss k h8] at this
        refine ⟨?_, grown_trans hG this.2⟩
        unfold Row
        rw [strv_length, mark_len mk ss (k + 1) h8]
        exact this.1
      clear hR hR' hq hz hG
      go_wp2
      go_roundw
      case rel => exact ⟨k + 1, by omega, by go_num, HS.out⟩
      case measure => simp [intOf]; omega
    · have hk8 : k = ss.length := by omega
      subst hk8
      rw [List.drop_length, List.append_nil] at hR
      have hBr : Blk wr w.heap.size 74 [.slice none 0 0, .slice none 0 0, .slice none 0 0, .slice none 0 0, .string ⟨#[]⟩] := by
        unfold Blk
        rw [hG.block _ hs2 (Ne.symm H3.out.2)]
        exact hB0
      have HB0 : Hid (Blk wr w.heap.size 74 [.slice none 0 0, .slice none 0 0, .slice none 0 0, .slice none 0 0, .string ⟨#[]⟩]) := hBr
      have HG : Hid (w.grownBy wr (Value.slice p ss.length c).ownBlock) := grown_trans (grown_below hb2) hG
      have hsz : w.heap.size < wr.heap.size := Nat.lt_of_lt_of_le hs2 hG.size
      have hap : (Value.slice p ss.length c).ownBlock ≠ some w.heap.size := H3.out.2
      clear hBr hB0 hG hb2 hs2 H3
      go_wp2_with (at_builtin; refine wpList_appK (by rfl) (.tmp 28) (.tmp 30) (by rfl) _ (List.replicate ss.length mk) (by rfl) (hR.alloc _) wr.heap.size 1 1 [mk] (by rfl) rfl (SA.of_blk (ss := [mk]) (Blk.new wr 9 [.string mk])) (by omega) (by rw [List.length_replicate]; omega) ?_)
      intro v1 w3 hv1 hR3 hg3 ho3 _
      have q3 := KA.step HG.out hsz HB0.out hap hg3 ho3 (fun k hk => (hv1.lt k hk).2)
      have m1 : MK w3 v1 mk := MK.of_row (n := ss.length + 1) (by rw [List.replicate_succ']; exact hv1) (by omega)
      clear hv1 hg3 ho3 hsz hR HG HB0
      have Q3 := KA.hid q3
      clear q3
      go_wp2_with (at_builtin; refine wpList_appK (by rfl) (.tmp 32) (.tmp 35) (by rfl) _ (List.replicate ss.length mk) (by rfl) (hR3.alloc _) w3.heap.size 2 2 [mk, mk] (by rfl) rfl (SA.of_blk (ss := [mk, mk]) (Blk.new w3 9 [.string mk, .string mk])) (by omega) (by rw [List.length_replicate]; omega) ?_)
      intro v2 w4 hv2 hR4 hg4 ho4 hs4
      have q4 := KA.step Q3.out.1 Q3.out.2.1 Q3.out.2.2.1 hap hg4 ho4 (fun k hk => (hv2.lt k hk).2)
      have m2 : MK w4 v2 mk := MK.of_row (n := ss.length + 2) (by rw [List.replicate_succ', List.replicate_succ', List.append_assoc]; exact hv2) (by omega)
      have m1' : MK w4 v1 mk := (m1.below ((Below.refl _ _).alloc (Nat.le_refl _) _)).stays hs4 (by simp)
      have z34 : w3.heap.size ≤ w4.heap.size := Nat.le_trans ((Below.refl w3.heap.size w3).alloc (Nat.le_refl _) (.cells #[.string mk, .string mk] 9)).size hg4.size
      clear hv2 hg4 ho4 hR3 m1 hs4
      have Q4 := KA.hid q4
      clear q4
      go_wp2_with (at_builtin; refine wpList_appK (by rfl) (.tmp 37) (.tmp 41) (by rfl) _ (List.replicate ss.length mk) (by rfl) (hR4.alloc _) w4.heap.size 3 3 [mk, mk, mk] (by rfl) rfl (SA.of_blk (ss := [mk, mk, mk]) (Blk.new w4 9 [.string mk, .string mk, .string mk])) (by omega) (by rw [List.length_replicate]; omega) ?_)
      intro v3 w5 hv3 hR5 hg5 ho5 hs5
      have q5 := KA.step Q4.out.1 Q4.out.2.1 Q4.out.2.2.1 hap hg5 ho5 (fun k hk => (hv3.lt k hk).2)
      have m3 : MK w5 v3 mk := MK.of_row (n := ss.length + 3) (by rw [List.replicate_succ', List.replicate_succ', List.replicate_succ', List.append_assoc, List.append_assoc]; exact hv3) (by omega)
      have m1 : MK w5 v1 mk := (m1'.below ((Below.refl _ _).alloc (Nat.le_refl _) _)).stays hs5 (by simp)
      have m2' : MK w5 v2 mk := (m2.below ((Below.refl _ _).alloc (Nat.le_refl _) _)).stays hs5 (by simp)
      have m0 : MK w5 (.slice p ss.length c) mk := MK.of_row hR5 (by omega)
      have z45 : w4.heap.size ≤ w5.heap.size := Nat.le_trans ((Below.refl w4.heap.size w4).alloc (Nat.le_refl _) (.cells #[.string mk, .string mk, .string mk] 9)).size hg5.size
      clear hv3 hg5 ho5 hR4 m1' m2 hs5 hR5
      have Q5 := KA.hid q5
      clear q5
      have HM : Hid (MK w5 (.slice p ss.length c) mk ∧ MK w5 v1 mk ∧ MK w5 v2 mk ∧ MK w5 v3 mk) := ⟨m0, m1, m2', m3⟩
      clear m0 m1 m2' m3
      obtain ⟨p1, n1, d1, rfl, -⟩ := HM.out.2.1
      obtain ⟨p2, n2, d2, rfl, -⟩ := HM.out.2.2.1
      obtain ⟨p3, n3, d3, rfl, -⟩ := HM.out.2.2.2
      have hB5 := Q5.out.2.2.1
      have k0 := hB5.cell 0
      have k1 := hB5.cell 1
      have k2 := hB5.cell 2
      have k3 := hB5.cell 3
      have k4 := hB5.cell 4
      simp only [List.getElem?_cons_zero, List.getElem?_cons_succ] at k0 k1 k2 k3 k4
      have hf := fun i => hB5.frozen i
      have HB := ((((hB5.set 0 (.slice p ss.length c)).set 1 (.slice p1 n1 d1)).set 2 (.slice p2 n2 d2)).set 3 (.slice p3 n3 d3)).set 4 (.string mk)
      simp only [List.set_cons_zero, List.set_cons_succ] at HB
      have HK : Hid (∀ k, k ≠ w.heap.size → (((((w5.setCell ⟨w.heap.size, 0, none⟩ (.slice p ss.length c)).setCell ⟨w.heap.size, 1, none⟩ (.slice p1 n1 d1)).setCell ⟨w.heap.size, 2, none⟩ (.slice p2 n2 d2)).setCell ⟨w.heap.size, 3, none⟩ (.slice p3 n3 d3)).setCell ⟨w.heap.size, 4, none⟩ (.string mk)).heap[k]? = w5.heap[k]?) := fun k hk => by
        rw [Below.heap_setCell _ _ _ _ hk, Below.heap_setCell _ _ _ _ hk, Below.heap_setCell _ _ _ _ hk, Below.heap_setCell _ _ _ _ hk, Below.heap_setCell _ _ _ _ hk]
      go_wp2
      have ne : ∀ (u : Value), (∀ k, u.ownBlock = some k → (Value.slice p ss.length c).ownBlock = some k ∨ w.heap.size < k) → ∀ k, u.ownBlock = some k → k ≠ w.heap.size := fun u hu k hk e => by
        rcases hu k hk with e1 | e1
        · rw [e] at e1; exact hap e1
        · omega
      refine bodyPost_ret (results_cell Tryz.results45 (by rfl) HB.range Tryz.underlying74 rfl infoTx) rfl ⟨_, _, _, mk, rfl, HM.out.1.block (fun k e _ => HK.out k (ne _ (fun k e => .inl e) k e)), HM.out.2.1.block (fun k e _ => HK.out k (ne _ (fun k e => (Q3.out.2.2.2 k e).1) k e)), HM.out.2.2.1.block (fun k e _ => HK.out k (ne _ (fun k e => (Q4.out.2.2.2 k e).1) k e)), HM.out.2.2.2.block (fun k e _ => HK.out k (ne _ (fun k e => (Q5.out.2.2.2 k e).1) k e)), ?_, ?_⟩
      · refine ⟨Q5.out.1.os, Q5.out.1.tape, Q5.out.1.output, ?_, fun k hk hn => ?_⟩
        · simpa [World.setCell] using Q5.out.1.size
        · rw [HK.out k (by omega)]
          exact Q5.out.1.block k hk hn
      · intro u hu k hk
        have : ((Value.slice p ss.length c).ownBlock = some k ∨ w.heap.size < k) ∧ k < w5.heap.size := by
          rcases hu with rfl | rfl | rfl
          · exact ⟨(Q3.out.2.2.2 k hk).1, Nat.lt_of_lt_of_le (Q3.out.2.2.2 k hk).2 (Nat.le_trans z34 z45)⟩
          · exact ⟨(Q4.out.2.2.2 k hk).1, Nat.lt_of_lt_of_le (Q4.out.2.2.2 k hk).2 z45⟩
          · exact Q5.out.2.2.2 k hk
        refine ⟨?_, by simpa [World.setCell] using this.2⟩
        rcases this.1 with e | e
        · exact .inl e
        · right; omega
end Go.Proofs.YtlhohmlpcgbliabGreatDoor
namespace Go.Proofs.YtlhohmlpcgbliabGreatDoor
set_option maxRecDepth 100000
open Go.RowKit
attribute [local go_sem ↓] Go.wp_at_zero Go.wp_at_succ

end Go.Proofs.YtlhohmlpcgbliabGreatDoor
