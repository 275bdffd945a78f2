import Derived.Test.YtlhohmlpcgbliaaDoorZO13
import Derived.Laws.AppendOwnNone
namespace Go.Proofs.YtlhohmlpcgbliaaDoor
set_option maxRecDepth 100000
open Go.RowKit
attribute [local go_sem ↓] Go.wp_at_zero Go.wp_at_succ

theorem wpList_appLS {w w0 : World} {B : Nat} {ops : Array Oper} {rest : List Oper} {o : Oper} {a : Act} {Q : Exit → Act → World → Prop} (hgd : o.guard = none) (s x : Operand)
    (ho : o.op = .call { callee := .builtin .append, args := #[s, x], argTypes := #[22, 22] }) (base : Nat) (v vx : Value) (xs ts : List ByteArray) (hs : a.eval s = v) (hown : Row w base 9 v (strv xs))
    (hx : a.eval x = vx) (hL : LS w vx ts) (hlen : xs.length + ts.length ≤ 1000000) (hbase : base ≤ w.heap.size) (hB : Below B w0 w) (hBb : B ≤ base)
    (h : ∀ v' w', Row w' base 9 v' (strv (xs ++ ts)) → Below B w0 w' → wpList Tryd.prog ops Q rest (a.put o.dst v') w') : wpList Tryd.prog ops Q (o :: rest) a w := by
  obtain ⟨i, hi, hiz, his, hib⟩ := elem_string
  rcases hL with ⟨rfl, rfl⟩ | ⟨cb, co, cc, rfl, hSA, hcb, hcc⟩
  · refine wpList_append_own_none hgd s x 22 ho base 9 i 1 Tryd.underlying22 hi v _ _ hs hown hx ?_
    refine h v w ?_ hB
    rw [List.append_nil]
    exact hown
  · refine wpList_append_own w hgd s x 22 ho base 9 i _ 1 _ Tryd.underlying22 hi hiz his hib rfl (by omega) v _ _ hs hown ⟨cb, co, none⟩ ts.length cc (strv ts) hx (by rw [strv_length]; omega) ?_ ?_ (by rw [strv_length]; unfold maxLen; omega) (by rw [strv_length]; omega) hbase ?_
    · intro j u hu
      rw [Addr.add_mid]
      have hj : j < ts.length := by
        have := (List.getElem?_eq_some_iff.1 hu).1
        rwa [strv_length] at this
      have h1 : (strv ts)[j]? = some (.string ts[j]) := by simp [strv, hj]
      rw [h1] at hu
      injection hu with hu
      subst hu
      exact hSA j _ (List.getElem?_eq_getElem hj)
    · intro u hu
      simp only [strv, List.mem_map] at hu
      obtain ⟨y, _, rfl⟩ := hu
      rfl
    · intro v' w' h2 h3 _
      refine h v' w' ?_ (hB.grown h3 (Nat.le_trans hBb hbase) (fun k hk => Nat.le_trans hBb (hown.lt k hk).1))
      unfold Row
      rw [strv_length, List.length_append, strv_append]
      rw [strv_length] at h2
      exact h2

def sFirst : ByteArray := ⟨#[102, 105, 114, 115, 116]⟩

set_option maxHeartbeats 2000000 in
theorem opened_walk (v : Value) (ss : List ByteArray) (i : Int) (bb any : ByteArray) (w : World) (hS : Strs w v ss) (hn : ss.length ≤ 140737488355328) (hz : ∀ s ∈ ss, s.size ≤ 140737488355328) (hi1 : -9223372036854775808 ≤ i) (hi2 : i ≤ 9223372036854775807) (ht : Table w) (hg : 2 < w.heap.size) :
    Calls Tryd.prog 13 #[v, .int .i64 i, .string bb, .string any] w fun e w' => e = .returned (.bool true) ∧ Below w.heap.size w w' := by
  have HT : Aside (Table w ∧ 2 < w.heap.size ∧ -9223372036854775808 ≤ i ∧ i ≤ 9223372036854775807) := ⟨ht, hg, hi1, hi2⟩
  have HE : Aside (∀ wx, Below w.heap.size w wx → Calls Tryd.prog 31 #[v] wx fun e w' => ∃ v' ts, e = .returned v' ∧ Row w' wx.heap.size 9 v' (strv ts) ∧ ts.length = min ss.length 64 ∧ (ts = [] → v' = .slice none 0 0) ∧ (∀ s ∈ ts, s.size ≤ 40) ∧ Below wx.heap.size wx w') := fun wx hx => entriesN_any v ss wx (hS.below hx) hn hz
  clear ht hg hi1 hi2 hS hn hz
  have hb0 : Below w.heap.size w (w.alloc (.cells #[.string sFirst] 9)) := (Below.refl _ _).alloc (Nat.le_refl _) _
  have hr0 : Row (w.alloc (.cells #[.string sFirst] 9)) w.heap.size 9 (.slice (some ⟨w.heap.size, 0, none⟩) 1 1) (strv [sFirst]) := Row.lit w w.heap.size 9 [.string sFirst] (Nat.le_refl _) (by unfold maxLen; simp)
  have g1 := HE.out _ hb0
  go_enter Tryd.func13, Tryd.ntmps13
  go_wp2_with fail
  rename_i K hK K1 hK1
  have HK : Aside (∀ a w, _ → K a w) := hK
  clear hK
  refine g1.mono ?_
  rintro e w1 ⟨v1, ts, rfl, hrow1, hl1, hnil, htz, hb1⟩
  clear g1
  have hr1 := hr0.below hb1 (Nat.le_refl _)
  have hw1 : Below w.heap.size w w1 := hb0.trans (hb1.mono hb0.size)
  have hLS := LS.of_row hrow1
  have hsz1 := hw1.size
  clear hr0 hb0 hrow1 hnil hb1
  have hl64 : ts.length ≤ 64 := by omega
  go_wp2_with (at_builtin; refine wpList_appLS (by rfl) (.tmp 20) (.tmp 22) (by rfl) w.heap.size _ v1 [sFirst] ts (by rfl) hr1 (by rfl) hLS ?hl ?hb (w0 := w) (B := w.heap.size) hw1 (Nat.le_refl _) ?_)
  case hl => simp; omega
  case hb => omega
  intro v2 w2 hr2 hb2
  clear hr1 hw1 hLS
  obtain ⟨g, cap, rfl, _, hcap, _, _, hglt, _⟩ := Row.form hr2 (by rw [strv_length]; simp)
  have hsa := SA.of_row hr2 (by simp)
  have hxl : (sFirst :: ts).length = ts.length + 1 := rfl
  rw [strv_length, hxl] at hcap ⊢
  have HA : Aside (SA w2 g 0 (sFirst :: ts) ∧ g < w2.heap.size ∧ (∀ s ∈ sFirst :: ts, s.size ≤ 40) ∧ ts.length = min ss.length 64 ∧ Below w.heap.size w w2) := by
    refine ⟨hsa, hglt, fun s hs => ?_, hl1, hb2⟩
    rcases List.mem_cons.1 hs with h | h
    · rw [h]; decide
    · exact htz s h
  clear hr2 hsa hglt htz hl1
  have g2 := HE.out w2 hb2
  go_wp2_with fail
  refine g2.mono ?_
  rintro e w3 ⟨v3, ts2, rfl, hrow3, hl3, _, _, hb3⟩
  clear g2
  obtain ⟨p3, cap3, rfl⟩ := row_slice hrow3
  have HL : Aside (ts2.length = ts.length) := by show _ = _; rw [hl3, HA.out.2.2.2.1]
  rw [HL.out]
  have H3 : Aside (Below w2.heap.size w2 w3 ∧ Below w.heap.size w w3) := ⟨hb3, hb2.trans (hb3.mono hb2.size)⟩
  clear hrow3 hl3 hb3 hb2
  have hsl : ∀ wx, (Instr.sliceAt 22 (.slice (some ⟨g, 0, none⟩) (ts.length + 1) cap) none (some (.int .i64 (1 + (ts.length : Int) % 20))) none).run Tryd.prog wx = .ok (.slice (some ⟨g, 0, none⟩) (1 + ts.length % 20) cap) wx := fun wx => by
    have e1 : (1 + (ts.length : Int) % 20) = ((1 + ts.length % 20 : Nat) : Int) := by omega
    rw [e1]
    exact slice_h wx g 0 (ts.length + 1) cap (1 + ts.length % 20) (by omega)
  have HG : Aside (LS w3 (.slice (some ⟨g, 0, none⟩) (1 + ts.length % 20) cap) ((sFirst :: ts).take (1 + ts.length % 20))) := by
    right
    refine ⟨g, 0, cap, ?_, (HA.out.1.below H3.out.1).take _, Nat.lt_of_lt_of_le HA.out.2.1 H3.out.1.size, ?_⟩
    · rw [List.length_take, hxl, Nat.min_eq_left (by omega)]
    · rw [List.length_take]; omega
  have g4 := grownL_any _ _ w3 HG.out (by rw [List.length_take, hxl]; omega) (fun s hs => HA.out.2.2.1 s (List.mem_of_mem_take hs)) (table_at H3.out.2 HT.out.2.1 HT.out.1) (Nat.lt_of_lt_of_le HT.out.2.1 H3.out.2.size)
  go_wp2_with fail
  refine g4.mono ?_
  rintro e w5 ⟨a, b, fv, D, rfl, hL, hH, b5, _, _, _⟩
  clear g4 hH
  have H5 : Aside (LogAt w5 a b fv (.slice none 0 0) D [] ∧ Below w.heap.size w w5) := ⟨hL, H3.out.2.trans (b5.mono H3.out.2.size)⟩
  clear hL b5 hsl
  go_wp2
  refine HK.out _ _ ?_
  clear HK
  refine wp_seq_k ?_
  intro K2 hK2
  have HK2 : Aside (∀ a w, _ → K2 a w) := hK2
  clear hK2
  go_wp2
  refine HK2.out _ _ ?_
  exact op4_wp i bb any a b fv D w w5 HT.out.2.2.1 HT.out.2.2.2 H5.out.1 H5.out.2 HT.out.1 HT.out.2.1
end Go.Proofs.YtlhohmlpcgbliaaDoor
