import Derived.Test.YtlhohmlpcgbliaaDoorZV2
import Derived.Deep.LoopGhost
import Derived.Test.YtlhohmlpcgbliaaDoorZF2
namespace Go.Proofs.YtlhohmlpcgbliaaDoor
set_option maxRecDepth 100000
open Go.RowKit
attribute [local go_sem ↓] Go.wp_at_zero Go.wp_at_succ

/-- Pairs of texts, cell by cell. -/
def flat2 (ps : List (ByteArray × ByteArray)) : List Value := ps.flatMap fun p => [.string p.1, .string p.2]
theorem flat2_length (ps : List (ByteArray × ByteArray)) : (flat2 ps).length = ps.length * 2 := by
  induction ps with
  | nil => rfl
  | cons p r ih => simp only [flat2, List.flatMap_cons, List.length_append, List.length_cons, List.length_nil] at ih ⊢; omega
theorem flat2_app (ps : List (ByteArray × ByteArray)) (a b : ByteArray) : flat2 ps ++ [.string a, .string b] = flat2 (ps ++ [(a, b)]) := by simp [flat2]
/-- A list of pairs of the call's own. -/
def Row2 (w : World) (base : Nat) (v : Value) (ps : List (ByteArray × ByteArray)) : Prop := w.ownsRow base 42 2 v ps.length (flat2 ps)
theorem info_node : ∃ i, Tryd.prog.info? 42 = some i ∧ i.zero = some (.agg #[.string ⟨#[]⟩, .string ⟨#[]⟩]) ∧ i.size = 2 ∧ i.bytes = 32 := by
  have h : (Tryd.prog.info? 42).map (fun i => (i.zero, i.size, i.bytes)) = some (some (.agg #[.string ⟨#[]⟩, .string ⟨#[]⟩]), 2, 32) := by kernel_rfl
  cases hq : Tryd.prog.info? 42 with
  | none => simp [hq] at h
  | some i => simp [hq] at h; exact ⟨i, rfl, h.1, h.2.1, h.2.2⟩

theorem wpList_app_node {w w0 : World} {B : Nat} {ops : Array Oper} {rest : List Oper} {o : Oper} {a : Act} {Q : Exit → Act → World → Prop} (hgd : o.guard = none) (s x : Operand)
    (ho : o.op = .call { callee := .builtin .append, args := #[s, x], argTypes := #[39, 39] }) (base : Nat) (v : Value) (ps : List (ByteArray × ByteArray)) (hs : a.eval s = v) (hown : Row2 w base v ps)
    (g c : Nat) (p q : ByteArray) (hx : a.eval x = .slice (some ⟨g, 0, none⟩) 1 c) (hnews : Blk w g 42 [.string p, .string q])
    (hlen : ps.length ≤ 1000000) (hbase : base ≤ w.heap.size) (hB : Below B w0 w) (hBb : B ≤ base)
    (h : ∀ v' w', Row2 w' base v' (ps ++ [(p, q)]) → Below B w0 w' → wpList Tryd.prog ops Q rest (a.put o.dst v') w') : wpList Tryd.prog ops Q (o :: rest) a w := by
  obtain ⟨i, hi, hiz, his, hib⟩ := info_node
  refine wpList_append_own w hgd s x 39 ho base 42 i _ 2 32 Tryd.underlying39 hi hiz his hib rfl (by omega) v ps.length (flat2 ps) hs hown ⟨g, 0, none⟩ 1 c [.string p, .string q] hx rfl ?_ ?_ (by unfold maxLen; omega) (by omega) hbase ?_
  · intro j u hu
    rw [Addr.add_mid, Nat.zero_add, hnews.cell]
    exact hu
  · intro u hu
    simp only [List.mem_cons, List.not_mem_nil, or_false] at hu
    rcases hu with rfl | rfl <;> rfl
  · intro v' w' h2 h3 _
    refine h v' w' ?_ (hB.grown h3 (Nat.le_trans hBb hbase) (fun k hk => Nat.le_trans hBb (hown.lt k hk).1))
    unfold Row2
    rw [← flat2_app, List.length_append]
    exact h2
end Go.Proofs.YtlhohmlpcgbliaaDoor
namespace Go.Proofs.YtlhohmlpcgbliaaDoor
set_option maxRecDepth 100000
open Go.RowKit
attribute [local go_sem ↓] Go.wp_at_zero Go.wp_at_succ

theorem Row2.below {w w' : World} {base B : Nat} {v : Value} {ps : List (ByteArray × ByteArray)} (h : Row2 w base v ps) (hb : Below B w w') (hB : w.heap.size ≤ B) : Row2 w' base v ps := by
  obtain ⟨h1, h2⟩ := h
  refine ⟨h1, ?_⟩
  rcases h2 with h2 | ⟨g, cap, cur, hv, hbs, hg, h3⟩
  · exact .inl h2
  · refine .inr ⟨g, cap, cur, hv, hbs, ?_, h3⟩
    rw [hb.block g (Nat.lt_of_lt_of_le (Array.getElem?_eq_some_iff.1 hg).1 hB)]; exact hg

theorem cw_l {h x : ByteArray} {i l : Nat} {r : List ByteArray} (h0 : l ≠ 0) (hl : l < 1099511627776) (hi : i % 2 = 1) : cw 40 h i l (x :: r) = (x, h) :: cw 40 (nodeS x h) (i / 2) (l / 2) r := by
  have e : cw (39 + 1) h i l (x :: r) = (x, h) :: cw 39 (nodeS x h) (i / 2) (l / 2) r := by
    generalize 39 = f
    simp only [cw]
    rw [if_neg h0, if_pos hi]
  exact e.trans (by rw [cw_fuel 39 40 _ _ _ _ (by omega) (by omega)])
theorem cw_r {h x : ByteArray} {i l : Nat} {r : List ByteArray} (h0 : l ≠ 0) (hl : l < 1099511627776) (hi : i % 2 = 0) (hil : i < l) : cw 40 h i l (x :: r) = (h, x) :: cw 40 (nodeS h x) (i / 2) (l / 2) r := by
  have e : cw (39 + 1) h i l (x :: r) = (h, x) :: cw 39 (nodeS h x) (i / 2) (l / 2) r := by
    generalize 39 = f
    simp only [cw]
    rw [if_neg h0, if_neg (by omega), if_pos hil]
  exact e.trans (by rw [cw_fuel 39 40 _ _ _ _ (by omega) (by omega)])
theorem cw_s {h : ByteArray} {i l : Nat} {r : List ByteArray} (h0 : l ≠ 0) (hl : l < 1099511627776) (hc : r = [] ∨ (i % 2 = 0 ∧ ¬ i < l)) : cw 40 h i l r = cw 40 h (i / 2) (l / 2) r := by
  have e : cw (39 + 1) h i l r = cw 39 h (i / 2) (l / 2) r := by
    generalize 39 = f
    simp only [cw]
    rw [if_neg h0]
    rcases hc with rfl | ⟨h1, h2⟩
    · split
      · rfl
      · split <;> rfl
    · rw [if_neg (by omega), if_neg h2]
  exact e.trans (cw_fuel 39 40 _ _ _ _ (by omega) (by omega))

set_option maxHeartbeats 1000000 in
set_option maxRecDepth 100000 in
theorem claimed_any (leaf : ByteArray) (i n : Nat) (v : Value) (ss : List ByteArray) (w : World) (hn1 : 1 ≤ n) (hn : n ≤ 1000) (hi : i < n) (hs : leaf.size < 144115188075855872) (hv : Lst w v ss) (hf : FewB ss) (ht : Table w) (hg : 2 < w.heap.size) :
    Calls Tryd.prog 33 #[.string leaf, .int .i64 (i : Int), .int .i64 (n : Int), v] w fun e w' => ∃ v', e = .returned v' ∧ Row2 w' w.heap.size v' (cw 40 leaf i (n - 1) ss) ∧ Below w.heap.size w w' := by
  have HV : Aside (Lst w v ss ∧ FewB ss ∧ Table w ∧ leaf.size < 144115188075855872) := ⟨hv, hf, ht, hs⟩
  clear hv hf ht hs
  generalize hR : cw 40 leaf i (n - 1) ss = R
  have HR : Aside (cw 40 leaf i (n - 1) ss = R) := hR
  clear hR
  obtain ⟨l, rfl⟩ : ∃ l, n = l + 1 := ⟨n - 1, by omega⟩
  rw [Nat.add_sub_cancel] at HR
  go_enter Tryd.func33, Tryd.ntmps33
  go_wp2
  go_loopg [1, 3, 9, 10, 11] l (fun gk s1 s3 s9 s10 s11 wr => ∃ (a b : Nat) (h : ByteArray) (ps : List (ByteArray × ByteArray)) (rr : List ByteArray), b ≤ gk ∧ s1 = .int .i64 (a : Int) ∧ s11 = .int .i64 (b : Int) ∧ s10 = .string h ∧
    Aside (Row2 wr w.heap.size s9 ps ∧ Lst w s3 rr ∧ ps ++ cw 40 h a b rr = R ∧ a ≤ b ∧ b < 1099511627776 ∧ h.size < 144115188075855872 ∧ FewB rr ∧ ps.length + b ≤ l ∧ Below w.heap.size w wr))
  case atStart => exact ⟨i, l, leaf, [], ss, Nat.le_refl _, rfl, by go_num, rfl, ⟨World.ownsRow_nil _ _ _ _, HV.out.1, HR.out, by omega, by omega, HV.out.2.2.2, HV.out.2.1, by simp, Below.refl _ _⟩⟩
  case round =>
    obtain ⟨a, b, h, ps, rr, hbg, rfl, rfl, rfl, HS⟩ := hrel
    by_cases hb0 : b = 0
    · subst hb0
      go_wp2
      go_ret
      obtain ⟨h1, _, h3, _, _, _, _, _, h4⟩ := HS.out
      rw [cw_zero, List.append_nil] at h3
      exact ⟨_, rfl, h3 ▸ h1, h4⟩
    · have hbp : (0 : Int) < (b : Int) := by omega
      have hb1 : ((b : Int) == 0) = false := by rw [beq_eq_false_iff_ne]; omega
      have HB0 : Aside (b ≠ 0) := hb0
      have hble : b ≤ 1000 := by have := HS.out.2.2.2.2.2.2.2.1; omega
      have hale : a ≤ 1000 := by have := HS.out.2.2.2.1; omega
      clear hb0
      obtain ⟨p3, c3, h3, hc3, hcell3⟩ := HS.out.2.1
      subst h3
      cases rr with
      | nil =>
        have HN : Aside (cw 40 h a b [] = cw 40 h (a / 2) (b / 2) []) := cw_s HB0.out (by omega) (.inl rfl)
        clear hcell3
        by_cases hodd : a % 2 = 1
        · have ho : ((a : Int) % 2 == 1) = true := by simp; omega
          have ho2 : ((a : Int) % 2 == 0) = false := by rw [beq_eq_false_iff_ne]; omega
          by_cases hlt : a < b
          · go_wp2
            go_roundg (b / 2)
            case measure => have := HB0.out; omega
            case rel =>
              obtain ⟨k1, k2, k3, k4, k5, k6, k7, k8, k9⟩ := HS.out
              exact ⟨a / 2, b / 2, h, ps, _, Nat.le_refl _, rfl, rfl, rfl, ⟨k1, k2, by rw [← HN.out]; exact k3, by omega, by omega, k6, k7, by omega, k9⟩⟩
          · go_wp2
            go_roundg (b / 2)
            case measure => have := HB0.out; omega
            case rel =>
              obtain ⟨k1, k2, k3, k4, k5, k6, k7, k8, k9⟩ := HS.out
              exact ⟨a / 2, b / 2, h, ps, _, Nat.le_refl _, rfl, rfl, rfl, ⟨k1, k2, by rw [← HN.out]; exact k3, by omega, by omega, k6, k7, by omega, k9⟩⟩
        · have ho : ((a : Int) % 2 == 1) = false := by rw [beq_eq_false_iff_ne]; omega
          have ho2 : ((a : Int) % 2 == 0) = true := by simp; omega
          by_cases hlt : a < b
          · go_wp2
            go_roundg (b / 2)
            case measure => have := HB0.out; omega
            case rel =>
              obtain ⟨k1, k2, k3, k4, k5, k6, k7, k8, k9⟩ := HS.out
              exact ⟨a / 2, b / 2, h, ps, _, Nat.le_refl _, rfl, rfl, rfl, ⟨k1, k2, by rw [← HN.out]; exact k3, by omega, by omega, k6, k7, by omega, k9⟩⟩
          · go_wp2
            go_roundg (b / 2)
            case measure => have := HB0.out; omega
            case rel =>
              obtain ⟨k1, k2, k3, k4, k5, k6, k7, k8, k9⟩ := HS.out
              exact ⟨a / 2, b / 2, h, ps, _, Nat.le_refl _, rfl, rfl, rfl, ⟨k1, k2, by rw [← HN.out]; exact k3, by omega, by omega, k6, k7, by omega, k9⟩⟩
      | cons x r =>
        obtain ⟨gg, oo, rfl, hx0⟩ := hcell3 0 x rfl
        rw [Nat.add_zero] at hx0
        have HX : Aside (w.cell? ⟨gg, oo, none⟩ = some (.string x)) := hx0
        have HZ : Aside (x.size ≤ 140737488355328 ∧ h.size < 144115188075855872) := ⟨HS.out.2.2.2.2.2.2.1.2 x (List.mem_cons_self ..), HS.out.2.2.2.2.2.1⟩
        have hxw : wr.cell? ⟨gg, oo, none⟩ = some (.string x) := by rw [HS.out.2.2.2.2.2.2.2.2.cell (World.block_lt_of_cell? _ _ hx0)]; exact hx0
        simp only [List.length_cons] at hc3
        obtain ⟨v3, hsl, HTL⟩ : ∃ v3, (∀ wx, (Instr.sliceAt 22 (.slice (some ⟨gg, oo, none⟩) (r.length + 1) c3) (some (.int .i64 1)) none none).run Tryd.prog wx = .ok v3 wx) ∧ Aside (Lst w v3 r) := ⟨_, fun wx => slice_tail wx gg oo r.length c3 hc3, Lst.tail HS.out.2.1⟩
        clear hcell3 hx0
        by_cases hodd : a % 2 = 1
        · have ho : ((a : Int) % 2 == 1) = true := by simp; omega
          have HN : Aside (cw 40 h a b (x :: r) = (x, h) :: cw 40 (nodeS x h) (a / 2) (b / 2) r) := cw_l HB0.out (by omega) hodd
          have hlen1 : ps.length ≤ 1000000 := by have := HS.out.2.2.2.2.2.2.2.1; omega
          have hsz0 := HS.out.2.2.2.2.2.2.2.2.size
          go_wp2_with (at_builtin; refine wpList_app_node (by rfl) (.tmp 27) (.tmp 33) (by rfl) w.heap.size _ ps (by rfl) (World.ownsRow.alloc HS.out.1 _) _ 1 x h (by rfl) (Blk.new _ 42 _) hlen1 ?hbs (w0 := w) (HS.out.2.2.2.2.2.2.2.2.alloc hsz0 _) (Nat.le_refl _) ?_)
          case hbs => simp; omega
          intro v' w1 hrow1 hbel1
          have hx1 : w1.cell? ⟨gg, oo, none⟩ = some (.string x) := by rw [hbel1.cell (World.block_lt_of_cell? _ _ HX.out)]; exact HX.out
          have g1 := groveNode_any x h w1 (by have := HZ.out.1; have := HZ.out.2; omega) (by have := HZ.out.1; have := HZ.out.2; omega) (table_at hbel1 hg HV.out.2.2.1) (Nat.lt_of_lt_of_le hg hbel1.size)
          clear hxw
          go_wp2_with (go_at_call 15; refine g1.mono ?_; rintro e w2 ⟨rfl, hb2⟩)
          go_roundg (b / 2)
          case measure => have := HB0.out; omega
          case rel =>
            obtain ⟨k1, k2, k3, k4, k5, k6, k7, k8, k9⟩ := HS.out
            have hb0 := HB0.out
            refine ⟨a / 2, b / 2, nodeS x h, ps ++ [(x, h)], r, Nat.le_refl _, rfl, rfl, rfl, ⟨hrow1.below hb2 (Nat.le_refl _), HTL.out, ?_, by omega, by omega, by rw [nodeS_size]; omega, ⟨by have := k7.1; simp at this; omega, fun y hy => k7.2 y (List.mem_cons_of_mem _ hy)⟩, by simp; omega, hbel1.trans (hb2.mono hbel1.size)⟩⟩
            rw [List.append_assoc, List.singleton_append, ← HN.out]
            exact k3
        · have ho : ((a : Int) % 2 == 1) = false := by rw [beq_eq_false_iff_ne]; omega
          have ho2 : ((a : Int) % 2 == 0) = true := by simp; omega
          by_cases hlt : a < b
          · have HN : Aside (cw 40 h a b (x :: r) = (h, x) :: cw 40 (nodeS h x) (a / 2) (b / 2) r) := cw_r HB0.out (by omega) (by omega) hlt
            have hlen1 : ps.length ≤ 1000000 := by have := HS.out.2.2.2.2.2.2.2.1; omega
            have hsz0 := HS.out.2.2.2.2.2.2.2.2.size
            go_wp2_with (at_builtin; refine wpList_app_node (by rfl) (.tmp 55) (.tmp 61) (by rfl) w.heap.size _ ps (by rfl) (World.ownsRow.alloc HS.out.1 _) _ 1 h x (by rfl) (Blk.new _ 42 _) hlen1 ?hbs (w0 := w) (HS.out.2.2.2.2.2.2.2.2.alloc hsz0 _) (Nat.le_refl _) ?_)
            case hbs => simp; omega
            intro v' w1 hrow1 hbel1
            have hx1 : w1.cell? ⟨gg, oo, none⟩ = some (.string x) := by rw [hbel1.cell (World.block_lt_of_cell? _ _ HX.out)]; exact HX.out
            have g1 := groveNode_any h x w1 (by have := HZ.out.1; have := HZ.out.2; omega) (by have := HZ.out.1; have := HZ.out.2; omega) (table_at hbel1 hg HV.out.2.2.1) (Nat.lt_of_lt_of_le hg hbel1.size)
            clear hxw
            go_wp2_with (go_at_call 15; refine g1.mono ?_; rintro e w2 ⟨rfl, hb2⟩)
            go_roundg (b / 2)
            case measure => have := HB0.out; omega
            case rel =>
              obtain ⟨k1, k2, k3, k4, k5, k6, k7, k8, k9⟩ := HS.out
              have hb0 := HB0.out
              refine ⟨a / 2, b / 2, nodeS h x, ps ++ [(h, x)], r, Nat.le_refl _, rfl, rfl, rfl, ⟨hrow1.below hb2 (Nat.le_refl _), HTL.out, ?_, by omega, by omega, by rw [nodeS_size]; omega, ⟨by have := k7.1; simp at this; omega, fun y hy => k7.2 y (List.mem_cons_of_mem _ hy)⟩, by simp; omega, hbel1.trans (hb2.mono hbel1.size)⟩⟩
              rw [List.append_assoc, List.singleton_append, ← HN.out]
              exact k3
          · have HN : Aside (cw 40 h a b (x :: r) = cw 40 h (a / 2) (b / 2) (x :: r)) := cw_s HB0.out (by omega) (.inr ⟨by omega, hlt⟩)
            go_wp2
            go_roundg (b / 2)
            case measure => have := HB0.out; omega
            case rel =>
              obtain ⟨k1, k2, k3, k4, k5, k6, k7, k8, k9⟩ := HS.out
              exact ⟨a / 2, b / 2, h, ps, _, Nat.le_refl _, rfl, rfl, rfl, ⟨k1, k2, by rw [← HN.out]; exact k3, by omega, by omega, k6, k7, by omega, k9⟩⟩
end Go.Proofs.YtlhohmlpcgbliaaDoor
namespace Go.Proofs.YtlhohmlpcgbliaaDoor
set_option maxRecDepth 100000
open Go.RowKit
attribute [local go_sem ↓] Go.wp_at_zero Go.wp_at_succ

section
variable {P : Program} {ops : Array Oper} {Q : Exit → Act → World → Prop}
/-- A store that comes up alone. -/
theorem wpAnyH_skip {i fuel : Nat} {o : Oper} {listed : Array Bool} {a : Act} {w w' : World} (hr : Region.ready .any ops listed = [i]) (hi : ops[i]? = some o) (hgd : o.guard = none) (hd : o.dst = none)
    (hx : (execOp a.eval o).run P w = .ok .skip w') (h : wpAnyH P .any ops Q (fun _ => True) fuel (listed.setIfInBounds i true) a w') : wpAnyH P .any ops Q (fun _ => True) (fuel + 1) listed a w := by
  refine wpAnyH_all hr (by simp) ?_
  intro j hj
  simp at hj
  subst hj
  unfold wpOp
  have hw : Region.wanted o (yielded ops a.tmps) = true := by simp [Region.wanted, hgd]
  simp only [hi, hw, if_true]
  refine .inl ?_
  unfold Oper.wp
  rw [hx]
  simp only [Oper.upon, hd]
  exact ⟨trivial, h⟩
end


theorem exec_store_node {a : Act} {o : Oper} {w : World} {x y : Operand} {r : Nat} {p q : ByteArray} {c0 c1 : Value} (ho : o.op = .store 42 x y) (hx : a.eval x = .pointer (some ⟨r, 0, none⟩)) (hy : a.eval y = .agg #[.string p, .string q]) (hB : Blk w r 42 [c0, c1]) :
    (execOp a.eval o).run Tryd.prog w = .ok .skip (w.setCells r 0 [.string p, .string q]) := by
  unfold execOp
  simp only [ho, hx, hy]
  have := run_storeAt_mid (P := Tryd.prog) w r 0 42 #[.string p, .string q] (hB.there 0 2 (by simp)) (by kernel_rfl) (by simp [Value.oneCell'])
  simp only [Sem.run_bind, this, Result.andThen_ok, Sem.run_pure]

set_option maxRecDepth 100000 in
set_option maxHeartbeats 1000000 in
theorem atR4_wp {c2 c3 c5 c6 c8 c9 c10 c11 c12 c13 c14 c15 c16 c17 c18 c19 c20 c21 c22 c23 c24 c25 c26 c27 : Value} (b o n c k i r : Nat) (x y : ByteArray) (c0 c1 : Value) (w : World) (Q : Exit → Act → World → Prop) (hk : k < n) (hc : n ≤ c) (hr : Blk w r 42 [c0, c1])
  (h1 : Gives w 17 #[.slice (some ⟨b, o, none⟩) k c] x) (h2 : Gives w 17 #[.slice (some ⟨b, o + k, none⟩) (n - k) (c - k)] y)
  (hQ : ∀ (u15 u16 u17 u18 u19 u20 u21 u22 u23 u24 u25 u26 u27 : Value) (w' : World), Below w.heap.size w w' → Q .normal ⟨#[.slice (some ⟨b, o, none⟩) n c, .int .i64 (i : Int), c2, c3, .pointer (some ⟨r, 0, none⟩), .bool (decide ((i : Int) < (k : Int))), .int .i64 (k : Int), .int .i64 (k : Int), c8, c9, c10, c11, c12, c13, c14, u15, u16, u17, u18, u19, u20, u21, u22, u23, u24, u25, u26, u27], []⟩ (w'.setCells r 0 [.string x, .string y])) :
  Code.wp Tryd.prog (rgn Tryd.f34 4) Q ⟨#[.slice (some ⟨b, o, none⟩) n c, .int .i64 (i : Int), c2, c3, .pointer (some ⟨r, 0, none⟩), c5, c6, .int .i64 (k : Int), c8, c9, c10, c11, c12, c13, c14, c15, c16, c17, c18, c19, c20, c21, c22, c23, c24, c25, c26, c27], []⟩ w := by
  conv => arg 2; whnf
  refine wp_region_any (by kernel_rfl) ?_
  refine wpAnyH_pure (k := 0) (v := .slice (some ⟨b, o, none⟩) n c) (by rfl) (by kernel_rfl) (by kernel_rfl) (by kernel_rfl) (by rfl) (some 15) (by rfl) (fun _ => by kernel_rfl) ?_
  simp only [Act.put, List.setIfInBounds_toArray, List.set_cons_succ, List.set_cons_zero]
  refine wpAnyH_pure (k := 1) (v := .int .i64 (k : Int)) (by rfl) (by kernel_rfl) (by kernel_rfl) (by kernel_rfl) (by rfl) (some 16) (by rfl) (fun _ => by kernel_rfl) ?_
  simp only [Act.put, List.setIfInBounds_toArray, List.set_cons_succ, List.set_cons_zero]
  refine wpAnyH_pure (k := 2) (v := .slice (some ⟨b, o, none⟩) k c) (by rfl) (by kernel_rfl) (by kernel_rfl) (by kernel_rfl) (by rfl) (some 17) (by rfl) (fun wx => exec_slice (by rfl) (by rfl) (by rfl) (by rfl) (by rfl) (slice_h wx b o n c k (by omega))) ?_
  simp only [Act.put, List.setIfInBounds_toArray, List.set_cons_succ, List.set_cons_zero]
  refine wpAnyH_pure (k := 4) (v := .slice (some ⟨b, o, none⟩) n c) (by rfl) (by kernel_rfl) (by kernel_rfl) (by kernel_rfl) (by rfl) (some 19) (by rfl) (fun _ => by kernel_rfl) ?_
  simp only [Act.put, List.setIfInBounds_toArray, List.set_cons_succ, List.set_cons_zero]
  refine wpAnyH_pure (k := 5) (v := .int .i64 (k : Int)) (by rfl) (by kernel_rfl) (by kernel_rfl) (by kernel_rfl) (by rfl) (some 20) (by rfl) (fun _ => by kernel_rfl) ?_
  simp only [Act.put, List.setIfInBounds_toArray, List.set_cons_succ, List.set_cons_zero]
  refine wpAnyH_pure (k := 6) (v := .slice (some ⟨b, o + k, none⟩) (n - k) (c - k)) (by rfl) (by kernel_rfl) (by kernel_rfl) (by kernel_rfl) (by rfl) (some 21) (by rfl) (fun wx => exec_slice (by rfl) (by rfl) (by rfl) (by rfl) (by rfl) (slice_l wx b o n c k hk hc)) ?_
  simp only [Act.put, List.setIfInBounds_toArray, List.set_cons_succ, List.set_cons_zero]
  refine wpAnyH_pure (k := 9) (v := .int .i64 (i : Int)) (by rfl) (by kernel_rfl) (by kernel_rfl) (by kernel_rfl) (by rfl) (some 24) (by rfl) (fun _ => by kernel_rfl) ?_
  simp only [Act.put, List.setIfInBounds_toArray, List.set_cons_succ, List.set_cons_zero]
  refine wpAnyH_pure (k := 10) (v := .int .i64 (k : Int)) (by rfl) (by kernel_rfl) (by kernel_rfl) (by kernel_rfl) (by rfl) (some 25) (by rfl) (fun _ => by kernel_rfl) ?_
  simp only [Act.put, List.setIfInBounds_toArray, List.set_cons_succ, List.set_cons_zero]
  refine wpAnyH_pure (k := 11) (v := .bool (decide ((i : Int) < (k : Int)))) (by rfl) (by kernel_rfl) (by kernel_rfl) (by kernel_rfl) (by rfl) (some 26) (by rfl) (fun _ => by kernel_rfl) ?_
  simp only [Act.put, List.setIfInBounds_toArray, List.set_cons_succ, List.set_cons_zero]
  refine wpAnyH_pure (k := 12) (v := .int .i64 (k : Int)) (by rfl) (by kernel_rfl) (by kernel_rfl) (by kernel_rfl) (by rfl) (some 27) (by rfl) (fun _ => by kernel_rfl) ?_
  simp only [Act.put, List.setIfInBounds_toArray, List.set_cons_succ, List.set_cons_zero]
  have hb0 : Below w.heap.size w w.drew := (Below.refl _ _).drew
  refine wpAnyH_call (i := 3) (f := 17) (vs := #[.slice (some ⟨b, o, none⟩) k c]) (by kernel_rfl) (by rfl) (by rfl) (some 18) (by rfl) (by kernel_rfl) ((h1 _ hb0).mono ?_)
  rintro e w1 ⟨rfl, hb1⟩
  refine ⟨_, rfl, ?_⟩
  simp only [Act.put, List.setIfInBounds_toArray, List.set_cons_succ, List.set_cons_zero]
  have hb2 : Below w.heap.size w w1 := hb0.trans (hb1.mono hb0.size)
  refine wpAnyH_call (i := 7) (f := 17) (vs := #[.slice (some ⟨b, o + k, none⟩) (n - k) (c - k)]) (by kernel_rfl) (by rfl) (by rfl) (some 22) (by rfl) (by kernel_rfl) ((h2 _ hb2).mono ?_)
  rintro e w2 ⟨rfl, hb3⟩
  refine ⟨_, rfl, ?_⟩
  simp only [Act.put, List.setIfInBounds_toArray, List.set_cons_succ, List.set_cons_zero]
  have hb4 : Below w.heap.size w w2 := hb2.trans (hb3.mono hb2.size)
  refine wpAnyH_put (i := 8) (v := .agg #[.string x, .string y]) (by kernel_rfl) (by rfl) (by rfl) (some 23) (by rfl) (by kernel_rfl) ?_
  simp only [Act.put, List.setIfInBounds_toArray, List.set_cons_succ, List.set_cons_zero]
  refine wpAnyH_skip (i := 13) (w' := w2.setCells r 0 [.string x, .string y]) (by kernel_rfl) (by rfl) (by rfl) (by rfl) (exec_store_node (by rfl) (by rfl) (by rfl) (hr.below hb4 hr.lt)) ?_
  refine wpAnyH_put (i := 14) (v := .bool (decide ((i : Int) < (k : Int)))) (by kernel_rfl) (by rfl) (by rfl) (some 5) (by rfl) (by kernel_rfl) ?_
  simp only [Act.put, List.setIfInBounds_toArray, List.set_cons_succ, List.set_cons_zero]
  refine wpAnyH_put (i := 15) (v := .int .i64 (k : Int)) (by kernel_rfl) (by rfl) (by rfl) (some 6) (by rfl) (by kernel_rfl) ?_
  simp only [Act.put, List.setIfInBounds_toArray, List.set_cons_succ, List.set_cons_zero]
  refine wpAnyH_done (by kernel_rfl) ?_ _
  refine NoPanic.normal ?_
  exact hQ _ _ _ _ _ _ _ _ _ _ _ _ _ _ hb4
end Go.Proofs.YtlhohmlpcgbliaaDoor
namespace Go.Proofs.YtlhohmlpcgbliaaDoor
set_option maxRecDepth 100000
open Go.RowKit
attribute [local go_sem ↓] Go.wp_at_zero Go.wp_at_succ

theorem results_at {fn : Func} (h : fn.results = #[.cell 4 42, .tmp 5, .tmp 6]) (tmps : Array Value) (w : World) (r : Nat) (x y : Value) (h4 : tmps.getD 4 undef = .pointer (some ⟨r, 0, none⟩)) (hB : Blk w r 42 [x, y]) :
    (results fn tmps).run Tryd.prog w = .ok (.tuple #[.agg #[x, y], tmps.getD 5 undef, tmps.getD 6 undef]) w := by
  have hl := run_loadVar_mid (P := Tryd.prog) w r 0 42 [x, y] _ hB.range Tryd.underlying42 rfl (by kernel_rfl)
  have h4' : tmps[4]?.getD undef = .pointer (some ⟨r, 0, none⟩) := by simpa using h4
  simp [results, h]
  rw [h4', show (asAddr (.pointer (some ⟨r, 0, none⟩))).run Tryd.prog w = .ok ⟨r, 0, none⟩ w from rfl, Result.andThen_ok, hl, Result.andThen_ok]

set_option maxHeartbeats 1000000 in
set_option maxRecDepth 100000 in
theorem at_walk (b o n c i : Nat) (x y : ByteArray) (w : World) (h2 : 2 ≤ n) (hn : n ≤ 1000) (hc : n ≤ c)
  (h1 : Gives w 17 #[.slice (some ⟨b, o, none⟩) (spl n) c] x) (h3 : Gives w 17 #[.slice (some ⟨b, o + spl n, none⟩) (n - spl n) (c - spl n)] y) :
    Calls Tryd.prog 34 #[.slice (some ⟨b, o, none⟩) n c, .int .i64 (i : Int)] w fun e w' => e = .returned (.tuple #[.agg #[.string x, .string y], .bool (decide (i < spl n)), .int .i64 ((spl n : Nat) : Int)]) ∧ Below w.heap.size w w' := by
  go_enter Tryd.func34, Tryd.ntmps34
  try go_wp2
  have HB : Aside (Blk (w.alloc (.cells #[.string ⟨#[]⟩, .string ⟨#[]⟩] 42)) w.heap.size 42 [.string ⟨#[]⟩, .string ⟨#[]⟩] ∧ Below w.heap.size w (w.alloc (.cells #[.string ⟨#[]⟩, .string ⟨#[]⟩] 42))) :=
    ⟨Blk.new w 42 [.string ⟨#[]⟩, .string ⟨#[]⟩], (Below.refl _ _).alloc (Nat.le_refl _) _⟩
  generalize w.alloc (.cells #[.string ⟨#[]⟩, .string ⟨#[]⟩] 42) = w0 at *
  go_loopw [7] (fun k wr => ∃ j p : Nat, Hid (p = 2 ^ j) ∧ p < n ∧ 0 < p ∧ k = .int .i64 (p : Int) ∧ wr = w0) (fun k _ => n - (intOf k).toNat)
  case atStart => exact ⟨0, 1, rfl, by omega, by omega, rfl, rfl⟩
  case round =>
    obtain ⟨j, p, HP, hpn, hp0, rfl, rfl⟩ := hrel
    by_cases h : 2 * p < n
    · go_wp2
      go_roundw
      case rel => exact ⟨j + 1, 2 * p, by show _ = _; rw [HP.out, Nat.pow_succ]; omega, h, by omega, by go_num, trivial⟩
      case measure => simp [intOf]; omega
    · have hS : spl n = p := by
        have hp := HP.out
        rw [hp] at hpn h
        rw [spl_of (n := n) (j := j) (by omega) (by omega), hp]
      have HS : Hid (spl n = p) := hS
      rw [hS] at h1 h3
      have hG1 : Gives wr 17 #[.slice (some ⟨b, o, none⟩) p c] x := fun wx hx => h1 wx (HB.out.2.trans (hx.mono HB.out.2.size))
      have hG2 : Gives wr 17 #[.slice (some ⟨b, o + p, none⟩) (n - p) (c - p)] y := fun wx hx => h3 wx (HB.out.2.trans (hx.mono HB.out.2.size))
      clear hS h1 h3
      go_wp2_with fail
      refine atR4_wp b o n c p i w.heap.size x y _ _ wr _ hpn hc HB.out.1 hG1 hG2 ?_
      intro u15 u16 u17 u18 u19 u20 u21 u22 u23 u24 u25 u26 u27 w' hb'
      have HW : Aside (Blk (w'.setCells w.heap.size 0 [.string x, .string y]) w.heap.size 42 [.string x, .string y] ∧ Below w.heap.size w (w'.setCells w.heap.size 0 [.string x, .string y])) := by
        have h5 := (HB.out.1.below hb' HB.out.1.lt).setCells 0 [.string x, .string y]
        have h6 := Below.setCells (HB.out.2.trans (hb'.mono HB.out.2.size)) w.heap.size 0 (Nat.le_refl _) [.string x, .string y]
        exact ⟨h5.eq rfl, h6⟩
      generalize w'.setCells w.heap.size 0 [.string x, .string y] = w9 at *
      go_wp2_with fail
      refine bodyPost_ret (results_at rfl _ w9 w.heap.size _ _ rfl HW.out.1) rfl ?_
      rw [HS.out]
      exact ⟨by simp, HW.out.2⟩

/-- The hash of the tree of these entries. -/
def rt (l : List ByteArray) : ByteArray := mth (l.map leafS)
theorem rt_two {l : List ByteArray} (h : 2 ≤ l.length) : rt l = nodeS (rt (l.take (spl l.length))) (rt (l.drop (spl l.length))) := by
  unfold rt
  rw [mth_two (by simpa using h), List.length_map, ← List.map_take, ← List.map_drop]

theorem gives_rt (b o c : Nat) (l : List ByteArray) (w : World) (hc : l.length ≤ c) (hn : l.length ≤ 1048576) (hS : SA w b o l) (hz : ∀ s ∈ l, s.size ≤ 1048576) (ht : Table w) (hg : 2 < w.heap.size) : Gives w 17 #[.slice (some ⟨b, o, none⟩) l.length c] (rt l) := fun wx hx =>
  groveRoot_any l b o c wx hc (by omega) (hS.below hx) (fun s hs => by have := hz s hs; omega) (table_at hx hg ht) (Nat.lt_of_lt_of_le hg hx.size)

theorem at_any (b o c i : Nat) (l : List ByteArray) (w : World) (h2 : 2 ≤ l.length) (hn : l.length ≤ 1000) (hc : l.length ≤ c) (hS : SA w b o l) (hz : ∀ s ∈ l, s.size ≤ 1048576) (ht : Table w) (hg : 2 < w.heap.size) :
    Calls Tryd.prog 34 #[.slice (some ⟨b, o, none⟩) l.length c, .int .i64 (i : Int)] w fun e w' => e = .returned (.tuple #[.agg #[.string (rt (l.take (spl l.length))), .string (rt (l.drop (spl l.length)))], .bool (decide (i < spl l.length)), .int .i64 ((spl l.length : Nat) : Int)]) ∧ Below w.heap.size w w' := by
  have h3 := spl_lt (n := l.length) h2
  have hlt : (l.take (spl l.length)).length = spl l.length := by rw [List.length_take]; omega
  have hld : (l.drop (spl l.length)).length = l.length - spl l.length := List.length_drop
  have g1 := gives_rt b o c (l.take (spl l.length)) w (by omega) (by omega) (hS.take _) (fun s hs => hz s (List.mem_of_mem_take hs)) ht hg
  have g2 := gives_rt b (o + spl l.length) (c - spl l.length) (l.drop (spl l.length)) w (by omega) (by omega) (hS.drop _) (fun s hs => hz s (List.mem_of_mem_drop hs)) ht hg
  rw [hlt] at g1
  rw [hld] at g2
  exact at_walk b o l.length c i _ _ w h2 hn hc g1 g2
end Go.Proofs.YtlhohmlpcgbliaaDoor
