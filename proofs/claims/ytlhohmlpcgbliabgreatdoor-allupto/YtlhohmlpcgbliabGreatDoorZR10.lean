import Derived.Test.YtlhohmlpcgbliabGreatDoorZR9
namespace Go.Proofs.YtlhohmlpcgbliabGreatDoor
set_option maxRecDepth 100000
open Go.RowKit
attribute [local go_sem ↓] Go.wp_at_zero Go.wp_at_succ

/-- An append of a slice's elements onto a slice of the call's own. -/
theorem wpList_appfrom {e t : TypeId} {z : Value} {bytes : Nat} (hel : Elem e z bytes) (hz : z.cells.size = 1) (ht : Tryz.prog.underlying t = some (.slice e))
    {w w0 : World} {B : Nat} {ops : Array Oper} {rest : List Oper} {o : Oper} {a : Act} {Q : Exit → Act → World → Prop} (hgd : o.guard = none) (s x : Operand)
    (ho : o.op = .call { callee := .builtin .append, args := #[s, x], argTypes := #[t, t] }) (base : Nat) (v : Value) (xs : List Value) (hs : a.eval s = v) (hown : Row w base e v xs)
    (g m c : Nat) (news : List Value) (hx : a.eval x = .slice (some ⟨g, 0, none⟩) m c) (hm : news.length = m) (hm0 : 0 < m) (hnews : ∀ j u, news[j]? = some u → w.cell? ⟨g, j, none⟩ = some u) (h1 : ∀ u ∈ news, u.oneCell' = true)
    (hlen : xs.length + m ≤ 1000000000000) (hby : bytes ≤ 16) (hbase : base ≤ w.heap.size) (hB : Below B w0 w) (hBb : B ≤ base)
    (h : ∀ g' cap' w', Row w' base e (.slice (some ⟨g', 0, none⟩) (xs.length + m) cap') (xs ++ news) → Below B w0 w' → wpList Tryz.prog ops Q rest (a.put o.dst (.slice (some ⟨g', 0, none⟩) (xs.length + m) cap')) w') : wpList Tryz.prog ops Q (o :: rest) a w := by
  obtain ⟨i, hi, hiz, his, hib⟩ := hel
  have hb : (xs.length + m) * bytes ≤ 140737488355328 := Nat.le_trans (Nat.mul_le_mul hlen hby) (by omega)
  refine wpList_append_own w hgd s x t ho base e i z 1 bytes ht hi hiz his hib hz (by omega) v xs.length xs hs hown ⟨g, 0, none⟩ m c news hx (by omega) ?_ h1 (by unfold maxLen; omega) hb hbase ?_
  · intro j u hu
    rw [Addr.add_mid, Nat.zero_add]
    exact hnews j u hu
  · intro v' w' h2 h3 _
    have hrow : Row w' base e v' (xs ++ news) := by
      unfold Row
      rw [List.length_append, hm]
      exact h2
    obtain ⟨g', cap', hv, _⟩ := hrow.form (by rw [List.length_append]; omega)
    rw [List.length_append, hm] at hv
    subst hv
    exact h g' cap' w' hrow (hB.grown h3 (Nat.le_trans hBb hbase) (fun k hk => Nat.le_trans hBb (hown.lt k hk).1))

theorem IntsAt.of_row {w : World} {base g n cap : Nat} {l : List Nat} (h : Row w base 3 (.slice (some ⟨g, 0, none⟩) n cap) (ints l)) (hl : 0 < l.length) : IntsAt w g l ∧ g < w.heap.size := by
  obtain ⟨g', cap', hv, _, _, _, hc, hlt, _⟩ := h.form (by rw [ints_length]; exact hl)
  injection hv with e1
  injection e1 with e1
  injection e1 with e1
  subst e1
  refine ⟨fun j hj => ?_, hlt⟩
  rw [hc j (by rw [ints_length]; exact hj), ints_get _ _ hj]

theorem ints_one (l : List Nat) : ∀ v ∈ ints l, v.oneCell' = true := by
  intro v hv
  obtain ⟨x, _, rfl⟩ := List.mem_map.1 hv
  rfl

set_option maxRecDepth 100000 in
set_option maxHeartbeats 2000000 in
theorem block_any (gh ch : Nat) (st : Sha.St) (s : ByteArray) (w : World) (hok : st.ok) (hs : s.size = 64) (hH : IntsAt w gh st.list) (hgh : gh < w.heap.size) :
    Calls Tryz.prog 53 #[.slice (some ⟨gh, 0, none⟩) 8 ch, .string s] w fun e w' => ∃ v, e = .returned v ∧ Row w' w.heap.size 3 v (ints (Sha.mix st (bts s)).list) ∧ Below w.heap.size w w' := by
  go_enter Tryz.func53, Tryz.ntmps53
  go_wp2_with fail
  refine blkB0_wp s w.heap.size _ w _ hs (Nat.le_refl _) (Below.refl _ _) ?_
  intro u6 u7 u8 u9 u10 u21 u22 u23 u24 u25 u26 u27 u28 u29 u30 u31 u32 u33 u34 u35 u36 u37 u38 u39 u40 u41 u42 u43 u44 u45 u46 u47 u48 u49 u50 u51 u52 u53 u54 u55 u56 u57 u58 u59 u60 u61 u62 u63 u64 u65 u66 u67 u68 u69 u70 u71 u72 u73 u74 u75 u76 u77 u78 u79 u80 u81 u82 u83 u84 u85 u86 u87 u88 u89 u90 u91 u92 u93 u94 u95 u96 u97 u98 u99 u100 u101 u102 u103 vw w1 hrow1 hb1
  have hl64 : (ints (Sha.sched (bts s) 64)).length = 64 := by rw [ints_length, Sha.sched_length]
  obtain ⟨gw, cw, hv, hgb, hnc, hcm, hcell, hgl, hfz⟩ := hrow1.form (by rw [hl64]; omega)
  rw [hl64] at hv
  subst hv
  obtain ⟨hW, hgw⟩ := IntsAt.of_row hrow1 (by rw [Sha.sched_length]; omega)
  have hH1 := hH.below hb1 hgh
  clear hcell hfz hrow1 hgb hnc hcm
  simp only [Exit.inBlock, if_true]
  have hsz1 := hb1.size
  have hr0 : Row (w1.alloc (.cells #[] 3)) w1.heap.size 3 (.slice (some ⟨w1.heap.size, 0, none⟩) 0 0) [] := Row.lit' w1 _ _ [] 0 rfl (Nat.le_refl _) (by omega)
  have hb0 : Below w1.heap.size w1 (w1.alloc (.cells #[] 3)) := (Below.refl _ _).alloc (Nat.le_refl _) _
  have hn0 : ∀ (j : Nat) u, (ints st.list)[j]? = some u → (w1.alloc (.cells #[] 3)).cell? ⟨gh, j, none⟩ = some u := by
    intro j u hu
    have hj : j < st.list.length := by simpa using (List.getElem?_eq_some_iff.1 hu).1
    rw [ints_get _ _ hj] at hu
    rw [← hu]
    exact hH1.below hb0 (by omega) j hj
  go_wp2_with (at_builtin; refine wpList_appfrom elem_int rfl Tryz.underlying23 (by rfl) (.tmp 104) (.tmp 105) (by rfl) w1.heap.size (.slice (some ⟨w1.heap.size, 0, none⟩) 0 0) [] (by rfl) hr0 gh 8 ch (ints st.list) (by rfl) rfl (by omega) hn0 (ints_one _) (by simp) (by omega) (by simp) (w0 := w1) hb0 (Nat.le_refl _) ?_)
  intro gv cv w2 hrow2 hb2
  obtain ⟨hV2, hgv2⟩ := IntsAt.of_row (l := st.list) hrow2 (by show 0 < 8; omega)
  have hW2 := hW.below hb2 hgw
  have hgw2 : gw < w2.heap.size := Nat.lt_of_lt_of_le hgw hb2.size
  have hH2 := hH1.below hb2 (Nat.lt_of_lt_of_le hgh hsz1)
  have hbw2 : Below w.heap.size w w2 := hb1.trans (hb2.mono hsz1)
  clear hrow2 hr0 hb0 hn0 hW hH1 hH hb2 hb1
  go_wp2_with fail
  refine blkB2_wp st (Sha.sched (bts s) 64) gw cw gv cv w2 _ hok (Sha.sched_length _ _) (Sha.sched_lt (bts_ok s) 64) hW2 hgw2 hV2 hgv2 ?_
  intro u12 u13 u14 u15 u16 u17 u18 u107 u108 u109 u110 u111 u112 u113 u114 u115 u116 u117 u118 u119 u120 u121 u122 u123 u124 u125 u126 u127 u128 u129 u130 u131 u132 u133 u134 u135 u136 u137 u138 u139 u140 u141 u142 u143 u144 u145 u146 u147 u148 u149 u150 u151 u152 u153 u154 u155 u156 u157 u158 u159 u160 u161 u162 u163 u164 u165 u166 u167 u168 u169 u170 u171 u172 u173 u174 u175 u176 u177 u178 u179 u180 u181 u182 u183 u184 u185 u186 u187 u188 u189 u190 u191 u192 u193 u194 u195 u196 u197 u198 u199 u200 u201 u202 u203 u204 g3 c3 w3 hI3 hg3 hb3
  simp only [Exit.inBlock, if_true]
  have hbw3 : Below w.heap.size w w3 := hbw2.trans (hb3.mono hbw2.size)
  have hH3 := hH2.below hb3 (Nat.lt_of_lt_of_le hgh hbw2.size)
  have hro := Sha.rounds_ok hok (Sha.sched (bts s) 64) 64
  have HM : Hid (Sha.mix st (bts s) = Sha.add st (Sha.rounds st (Sha.sched (bts s) 64) 64)) := rfl
  generalize Sha.rounds st (Sha.sched (bts s) 64) 64 = r at *
  clear hW2 hV2 hH2 hbw2 hb3
  go_wp2_with fail
  refine blkB4_wp st r gh ch g3 c3 w3 _ hok hro hH3 (Nat.lt_of_lt_of_le hgh hbw3.size) hI3 hg3 ?_
  intro u20 u205 u206 u207 u208 u209 u210 u211 u212 u213 u214 u215 u216 u217 u218 u219 u220 u221 v4 w4 hrow4 hb4
  simp only [Exit.inBlock, if_true]
  have hbw4 : Below w.heap.size w w4 := hbw3.trans (hb4.mono hbw3.size)
  have hrw : Row w4 w.heap.size 3 v4 (ints (Sha.add st r).list) := hrow4.mono hbw3.size
  clear hrow4 hI3 hH3
  go_wp2_with fail
  go_ret
  rw [HM.out]
  exact ⟨v4, rfl, hrw, hbw4⟩
end Go.Proofs.YtlhohmlpcgbliabGreatDoor
