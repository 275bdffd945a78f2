import Derived.Test.YtlhohmlpcgbliaaDoorZO10
import Derived.Test.YtlhohmlpcgbliaaDoorZM7
namespace Go.Proofs.YtlhohmlpcgbliaaDoor
set_option maxRecDepth 100000
open Go.RowKit
attribute [local go_sem ↓] Go.wp_at_zero Go.wp_at_succ

set_option maxHeartbeats 1000000 in
theorem op14_wp {c0 c1 c2 c3 c4 c5 c6 c7 c8 c9 c10 c11 c12 c15 c16 c17 c18 c19 c20 c21 c22 c23 c24 c25 c26 c27 c28 c29 c30 c31 c32 c33 c34 c35 c36 c37 c38 c39 c40 c41 c42 c43 c44 c45 c46 c47 c48 c49 c50 c51 c52 c53 c54 c55 c56 c57 c58 c59 c60 c61 c62 c63 c64 c65 c66 c67 c68 c69 c70 c71 c72 c73 c74 c75 c76 c77 c78 c79 c80 c81 c82 c83 c84 c85 c86 c87 c88 c89 c90 c91 c92 c93 c94 c95 c96 c97 c98 c99 c100 c101 c102 c103 c104 c105 c106 c107 c108 c109 c110 c111 c112 c113 c114 c115 : Value} (lb k : Nat) (s : ByteArray) (w : World) (Q : Exit → Act → World → Prop) (hk : k < 2) (hc : w.cell? ⟨lb, k, none⟩ = some (.string s)) (ht : Table w) (hg : 2 < w.heap.size)
    (hQ : ∀ (u15 u16 u17 u18 u19 u72 u73 u74 u75 u76 u77 u78 u79 u80 u81 u82 u83 u84 u85 u86 u87 u88 u89 u90 u91 u92 u93 u94 u95 u96 u97 u98 u99 u100 u101 u102 u103 u104 u105 u106 u107 u108 u109 u110 u111 u112 u113 u114 u115 : Value) (w' : World), Below w.heap.size w w' → Q .normal ⟨#[c0, c1, c2, c3, c4, c5, c6, c7, c8, c9, c10, c11, c12, .slice (some ⟨lb, 0, none⟩) 2 2, .int .i64 (k : Int), u15, u16, u17, u18, u19, c20, c21, c22, c23, c24, c25, c26, c27, c28, c29, c30, c31, c32, c33, c34, c35, c36, c37, c38, c39, c40, c41, c42, c43, c44, c45, c46, c47, c48, c49, c50, c51, c52, c53, c54, c55, c56, c57, c58, c59, c60, c61, c62, c63, c64, c65, c66, c67, c68, c69, c70, c71, u72, u73, u74, u75, u76, u77, u78, u79, u80, u81, u82, u83, u84, u85, u86, u87, u88, u89, u90, u91, u92, u93, u94, u95, u96, u97, u98, u99, u100, u101, u102, u103, u104, u105, u106, u107, u108, u109, u110, u111, u112, u113, u114, u115], []⟩ w') :
    Code.wp Tryd.prog (sfxD Tryd.f13 14) Q ⟨#[c0, c1, c2, c3, c4, c5, c6, c7, c8, c9, c10, c11, c12, .slice (some ⟨lb, 0, none⟩) 2 2, .int .i64 (k : Int), c15, c16, c17, c18, c19, c20, c21, c22, c23, c24, c25, c26, c27, c28, c29, c30, c31, c32, c33, c34, c35, c36, c37, c38, c39, c40, c41, c42, c43, c44, c45, c46, c47, c48, c49, c50, c51, c52, c53, c54, c55, c56, c57, c58, c59, c60, c61, c62, c63, c64, c65, c66, c67, c68, c69, c70, c71, c72, c73, c74, c75, c76, c77, c78, c79, c80, c81, c82, c83, c84, c85, c86, c87, c88, c89, c90, c91, c92, c93, c94, c95, c96, c97, c98, c99, c100, c101, c102, c103, c104, c105, c106, c107, c108, c109, c110, c111, c112, c113, c114, c115], []⟩ w := by
  conv => arg 2; whnf
  have hk' : (k : Int) < 2 := by omega
  have gop := groveOpen_any s w ht hg
  have HT : Aside (Table w ∧ 2 < w.heap.size) := ⟨ht, hg⟩
  have HQ : Aside (∀ (u15 u16 u17 u18 u19 u72 u73 u74 u75 u76 u77 u78 u79 u80 u81 u82 u83 u84 u85 u86 u87 u88 u89 u90 u91 u92 u93 u94 u95 u96 u97 u98 u99 u100 u101 u102 u103 u104 u105 u106 u107 u108 u109 u110 u111 u112 u113 u114 u115 : Value) (w' : World), Below w.heap.size w w' → Q .normal ⟨#[c0, c1, c2, c3, c4, c5, c6, c7, c8, c9, c10, c11, c12, .slice (some ⟨lb, 0, none⟩) 2 2, .int .i64 (k : Int), u15, u16, u17, u18, u19, c20, c21, c22, c23, c24, c25, c26, c27, c28, c29, c30, c31, c32, c33, c34, c35, c36, c37, c38, c39, c40, c41, c42, c43, c44, c45, c46, c47, c48, c49, c50, c51, c52, c53, c54, c55, c56, c57, c58, c59, c60, c61, c62, c63, c64, c65, c66, c67, c68, c69, c70, c71, u72, u73, u74, u75, u76, u77, u78, u79, u80, u81, u82, u83, u84, u85, u86, u87, u88, u89, u90, u91, u92, u93, u94, u95, u96, u97, u98, u99, u100, u101, u102, u103, u104, u105, u106, u107, u108, u109, u110, u111, u112, u113, u114, u115], []⟩ w') := hQ
  clear hQ ht hg
  go_wp2_with fail
  refine gop.mono ?_
  rintro e w1 ⟨hb1, ⟨rfl, hn⟩ | ⟨a, rfl, hs, hso, hL⟩⟩
  · clear gop hn
    go_wp2_with fail
    refine (nilCk_any w1).mono ?_
    rintro e w2 ⟨rfl, rfl⟩
    go_wp2_with fail
    refine (nilEntry_any _ w2).mono ?_
    rintro e w3 ⟨rfl, rfl⟩
    go_wp2_with fail
    refine (nilInclusion_any _ _ w3).mono ?_
    rintro e w4 ⟨rfl, rfl⟩
    go_wp2_with fail
    refine (nilConsistency_any _ _ w4).mono ?_
    rintro e w5 ⟨rfl, rfl⟩
    go_wp2_with fail
    refine (nilRecover_any w5).mono ?_
    rintro e w6 ⟨rfl, rfl⟩
    go_wp2_with fail
    refine (nilSubmit_any _ _).mono ?_
    rintro e w7 ⟨rfl, rfl⟩
    go_wp2_with fail
    refine (nilFlush_any _).mono ?_
    rintro e w8 ⟨rfl, rfl⟩
    go_wp2
    exact HQ.out _ _ _ _ _ _ _ _ _ _ _ _ _ _ _ _ _ _ _ _ _ _ _ _ _ _ _ _ _ _ _ _ _ _ _ _ _ _ _ _ _ _ _ _ _ _ _ _ _ _ (hb1.alloc hb1.size _)
  · have hok : (Dk.of (bts s)).ok := Dk.of_ok (by rw [bts_length]; exact hs) (bts_byte s)
    obtain ⟨E, hE, hfi, hEn⟩ := sound_hold (D := Dk.of (bts s)) ⟨rfl, rfl⟩ hok rfl hso
    obtain ⟨E', hE', hEr⟩ := recv_spec hE hfi
    clear hEn hEr
    clear gop hs hso hok hb1
    generalize Dk.of (bts s) = D at *
    have HE : Aside (Hold1 D E ∧ D.fits E.length ∧ Holds D.recv E') := ⟨hE, hfi, hE'⟩
    clear hE hfi hE'
    have hl := HE.out.1.len
    generalize hn : E.length = n at *
    have HN : Aside (E.length = n) := hn
    clear hn
    go_wp2_with fail
    refine (hL.ckA HE.out.1 HN.out).mono ?_
    rintro e w2 ⟨r, rfl, h2⟩
    clear hL
    go_wp2_with fail
    refine (h2.entryA HE.out.1 HN.out).mono ?_
    rintro e w3 ⟨v3, rfl, h3⟩
    clear h2
    go_wp2_with fail
    refine (h3.inclA HE.out.1 HN.out HT.out.1 HT.out.2).mono ?_
    rintro e w4 ⟨v4, rfl, h4⟩
    clear h3
    go_wp2_with fail
    refine (h4.consA HE.out.1 HN.out HT.out.1 HT.out.2).mono ?_
    rintro e w5 ⟨v5, rfl, h5⟩
    clear h4
    go_wp2_with fail
    refine (h5.recv HE.out.1 (by rw [HN.out]; exact HE.out.2.1) HT.out.1 HT.out.2).mono ?_
    rintro e w6 ⟨rfl, h6⟩
    clear h5
    have g7 := h6.subA HE.out.2.2 ⟨#[109, 111, 114, 101]⟩ ⟨#[]⟩ (by decide) (by decide)
    clear h6
    go_wp2_with fail
    refine g7.mono ?_
    rintro e w7 ⟨v7, W', rfl, h7, hz7, hw7, hl7⟩
    clear g7
    have g8 := h7.flushA HE.out.2.2 hz7 hw7 hl7 HT.out.1 HT.out.2
    clear h7 hz7
    go_wp2_with fail
    refine g8.mono ?_
    rintro e w8 ⟨v8, rfl, hb8⟩
    clear g8
    go_wp2
    exact HQ.out _ _ _ _ _ _ _ _ _ _ _ _ _ _ _ _ _ _ _ _ _ _ _ _ _ _ _ _ _ _ _ _ _ _ _ _ _ _ _ _ _ _ _ _ _ _ _ _ _ _ hb8
end Go.Proofs.YtlhohmlpcgbliaaDoor
namespace Go.Proofs.YtlhohmlpcgbliaaDoor
set_option maxRecDepth 100000
open Go.RowKit
attribute [local go_sem ↓] Go.wp_at_zero Go.wp_at_succ

set_option maxRecDepth 100000 in
set_option maxHeartbeats 1000000 in
theorem entriesN_any (v : Value) (ss : List ByteArray) (w : World) (hS : Strs w v ss) (hn : ss.length ≤ 140737488355328) (hz : ∀ s ∈ ss, s.size ≤ 140737488355328) :
    Calls Tryd.prog 31 #[v] w fun e w' => ∃ v' ts, e = .returned v' ∧ Row w' w.heap.size 9 v' (strv ts) ∧ ts.length = min ss.length 64 ∧ (ts = [] → v' = .slice none 0 0) ∧ (∀ s ∈ ts, s.size ≤ 40) ∧ Below w.heap.size w w' := by
  obtain ⟨a, c, rfl, hcells⟩ := hS
  have HC : Hid (∀ (i : Nat) s, ss[i]? = some s → ∃ g off, a = some ⟨g, off, none⟩ ∧ w.cell? ⟨g, off + i, none⟩ = some (.string s)) := hcells
  have HZ : Hid (∀ s ∈ ss, s.size ≤ 140737488355328) := hz
  clear hcells hz
  go_enter Tryd.func31, Tryd.ntmps31
  try go_wp2
  go_loopw [3, 4] (fun v i wr => ∃ (k : Nat) (ts : List ByteArray), k ≤ ss.length ∧ k ≤ 64 ∧ i = .int .i64 k ∧ Row wr w.heap.size 9 v (strv ts) ∧ Hid (ts.length = k ∧ (∀ s ∈ ts, s.size ≤ 40) ∧ (ts = [] → v = .slice none 0 0)) ∧ Below w.heap.size w wr) (fun _ i _ => ss.length - (intOf i).toNat)
  case atStart => exact ⟨0, [], by omega, by omega, rfl, World.ownsRow_nil _ _ _ _, ⟨rfl, (fun s hs => by simp at hs), fun _ => rfl⟩, Below.refl _ _⟩
  case round =>
    obtain ⟨k, ts, hk, hk64, rfl, hrow, HTs, hb⟩ := hrel
    by_cases h8 : k < ss.length
    · by_cases h9 : k < 64
      · obtain ⟨s, hs⟩ : ∃ s, ss[k]? = some s := ⟨_, List.getElem?_eq_getElem h8⟩
        obtain ⟨g, off, rfl, hcell⟩ := HC.out k s hs
        have hcell' : wr.cell? ⟨g, off + k, none⟩ = some (.string s) := by
          rw [hb.cell (World.block_lt_of_cell? _ _ hcell)]; exact hcell
        have hcu := cutE_any s wr (HZ.out s (List.mem_of_getElem? hs))
        have hxl : (strv ts).length = k := by rw [strv_length]; exact HTs.out.1
        have HN : Hid (∀ t, strv ts ++ [.string t] = strv (ts ++ [t])) := fun t => by simp [strv]
        have hsz0 := hb.size
        clear hcell hs
        generalize strv ts = xs at *
        go_wp2_with (first | (go_at_call 41; refine hcu.mono ?_; rintro e w1 ⟨t, rfl, htz, hw1⟩; rw [hw1]; clear hw1) | (at_builtin; refine wpList_app elem_string rfl Tryd.underlying22 (by rfl) (.tmp 15) (.tmp 21) (by rfl) w.heap.size _ xs (by rfl) (hrow.alloc _) _ 1 1 [.string t] (by rfl) rfl (Blk.new _ 9 _) ?h1 ?hl ?hb ?hbs (w0 := w) (hb.alloc hsz0 _) (Nat.le_refl _) ?_))
        case h1 => intro u hu; simp at hu; subst hu; rfl
        case hl => omega
        case hb => omega
        case hbs => simp; omega
        intro v' w' hv' _ hb'
        rw [HN.out t] at hv'
        go_wp2
        go_roundw
        case rel => exact ⟨k + 1, ts ++ [t], by omega, by omega, by go_num, hv', ⟨by rw [List.length_append, HTs.out.1]; rfl, (fun x hx => by
          rcases List.mem_append.1 hx with h | h
          · exact HTs.out.2.1 x h
          · rw [List.mem_singleton.1 h]; exact htz), fun e => by simp at e⟩, hb'⟩
        case measure => simp [intOf]; omega
      · have hk8 : k = 64 := by omega
        subst hk8
        go_wp2
        go_ret
        exact ⟨_, ts, rfl, hrow, by rw [HTs.out.1]; omega, HTs.out.2.2, HTs.out.2.1, hb⟩
    · have hk8 : k = ss.length := by omega
      subst hk8
      go_wp2
      go_ret
      exact ⟨_, ts, rfl, hrow, by rw [HTs.out.1]; omega, HTs.out.2.2, HTs.out.2.1, hb⟩

/-- A block of bytes that a text was turned into. -/
def ByB (w : World) (b : Nat) (l : List Nat) : Prop := ∃ cs fr, w.heap[b]? = some (.cells cs 5 fr) ∧ l.length ≤ cs.size ∧ cs.size ≤ fr.1 ∧ ∀ (j : Nat) x, l[j]? = some x → cs[j]? = some (.int .u8 (x : Int))
theorem ByB.cell {w : World} {b : Nat} {l : List Nat} (h : ByB w b l) {j x : Nat} (hx : l[j]? = some x) : w.cell? ⟨b, j, none⟩ = some (.int .u8 (x : Int)) := by
  obtain ⟨cs, fr, hh, _, _, hc⟩ := h
  simp [World.cell?, hh, hc j x hx]
theorem ByB.frozen {w : World} {b : Nat} {l : List Nat} (h : ByB w b l) {j : Nat} (hj : j < l.length) : w.frozen? ⟨b, j, none⟩ = false := by
  obtain ⟨cs, fr, hh, h1, h2, hc⟩ := h
  simp [World.frozen?, hh]
  omega
theorem ByB.range {w : World} {b : Nat} {l : List Nat} (h : ByB w b l) : w.rangeAt b 0 (u8s l) := by
  intro j v hv
  have hj : j < l.length := by
    have := (List.getElem?_eq_some_iff.1 hv).1
    rwa [u8s_length] at this
  have h1 := u8s_get l j hj
  rw [h1] at hv
  injection hv with hv
  subst hv
  rw [Nat.zero_add]
  refine h.cell ?_
  rw [List.getD_eq_getElem?_getD, List.getElem?_eq_getElem hj]
  rfl
theorem ByB.lt {w : World} {b : Nat} {l : List Nat} (h : ByB w b l) : b < w.heap.size := by
  obtain ⟨cs, fr, hh, _⟩ := h
  exact (Array.getElem?_eq_some_iff.1 hh).1
theorem ByB.set {w : World} {b : Nat} {l : List Nat} (h : ByB w b l) (j x : Nat) (hj : j < l.length) : ByB (w.setCell ⟨b, j, none⟩ (.int .u8 (x : Int))) b (l.set j x) := by
  obtain ⟨cs, fr, hh, h1, h2, hc⟩ := h
  refine ⟨cs.setIfInBounds j (.int .u8 (x : Int)), fr, ?_, by simpa using h1, by simpa using h2, ?_⟩
  · simp [World.setCell, Array.getElem?_modify, hh]
  · intro i y hy
    by_cases hij : j = i
    · subst hij
      rw [List.getElem?_set_self hj] at hy
      injection hy with hy
      subst hy
      rw [Array.getElem?_setIfInBounds_self]
      simp
      omega
    · rw [List.getElem?_set_ne hij] at hy
      rw [Array.getElem?_setIfInBounds_ne hij]
      exact hc i y hy
theorem byB_new (w : World) (s : ByteArray) : ByB (Lib.bytesWorld w 5 s) w.heap.size (bts s) := by
  refine ⟨_, _, Lib.bytesWorld_at_new _ _ _, ?_, Nat.le_refl _, ?_⟩
  · rw [bts_length]
    simp [Lib.bytesCells]
  · intro j x hx
    have hj : j < s.size := by
      have := (List.getElem?_eq_some_iff.1 hx).1
      rwa [bts_length] at this
    have hxx : x = (s.data.toList.getD j 0).toNat := by
      have hx2 := hx
      simp only [bts, List.getElem?_map] at hx2
      cases hq : s.data.toList[j]? with
      | none => rw [hq] at hx2; simp at hx2
      | some y =>
        rw [hq] at hx2
        simp at hx2
        rw [List.getD_eq_getElem?_getD, hq]
        simp [hx2]
    have hc := Lib.bytesWorld_cell w 5 s j hj
    simp only [World.cell?, Lib.bytesWorld_at_new] at hc
    rw [hxx]
    simpa using hc
end Go.Proofs.YtlhohmlpcgbliaaDoor
namespace Go.Proofs.YtlhohmlpcgbliaaDoor
set_option maxRecDepth 100000
open Go.RowKit
attribute [local go_sem ↓] Go.wp_at_zero Go.wp_at_succ

theorem buildSlice2 (w : World) (a b : ByteArray) : (Instr.buildSlice 22 2 #[(0, .string a), (1, .string b)]).run Tryd.prog w = .ok (.slice (some ⟨w.heap.size, 0, none⟩) 2 2) (w.alloc (.cells #[.string a, .string b] 9)) := by kernel_rfl
def opQ (w0 : World) : Exit → Act → World → Prop := bodyPost Tryd.prog Tryd.f13 fun e w' => e = .returned (.bool true) ∧ Below w0.heap.size w0 w'

set_option maxHeartbeats 2000000 in
theorem op10_wp {c0 c1 c2 c4 c5 c6 c7 c8 c9 c11 c12 c13 c14 c15 c16 c17 c18 c19 c20 c21 c22 c23 c24 c25 c26 c27 c28 c29 c30 c31 c32 c33 c34 c35 c36 c37 c38 c39 c40 c41 c42 c43 c44 c45 c46 c47 c48 c49 c50 c51 c52 c53 c54 c55 c56 c57 c58 c59 c60 c61 c62 c63 c64 c65 c66 c67 c68 c69 c70 c71 c72 c73 c74 c75 c76 c77 c78 c79 c80 c81 c82 c83 c84 c85 c86 c87 c88 c89 c90 c91 c92 c93 c94 c95 c96 c97 c98 c99 c100 c101 c102 c103 c104 c105 c106 c107 c108 c109 c110 c111 c112 c113 c114 c115 : Value} (any : ByteArray) (cb cap : Nat) (l : List Nat) (wB w : World) (hl : l.length = 25600) (hB : ByB w cb l) (hb : Below wB.heap.size wB w) (ht : Table wB) (hg : 2 < wB.heap.size) :
    Code.wp Tryd.prog (sfxD Tryd.f13 10) (opQ wB) ⟨#[c0, c1, c2, .string any, c4, c5, c6, c7, c8, c9, .slice (some ⟨cb, 0, none⟩) 25600 cap, c11, c12, c13, c14, c15, c16, c17, c18, c19, c20, c21, c22, c23, c24, c25, c26, c27, c28, c29, c30, c31, c32, c33, c34, c35, c36, c37, c38, c39, c40, c41, c42, c43, c44, c45, c46, c47, c48, c49, c50, c51, c52, c53, c54, c55, c56, c57, c58, c59, c60, c61, c62, c63, c64, c65, c66, c67, c68, c69, c70, c71, c72, c73, c74, c75, c76, c77, c78, c79, c80, c81, c82, c83, c84, c85, c86, c87, c88, c89, c90, c91, c92, c93, c94, c95, c96, c97, c98, c99, c100, c101, c102, c103, c104, c105, c106, c107, c108, c109, c110, c111, c112, c113, c114, c115], []⟩ w := by
  conv => arg 2; whnf
  generalize hQ : opQ wB = Q
  have HQ : Aside (opQ wB = Q) := hQ
  clear hQ
  have T : Aside (∀ wx, Below wB.heap.size wB wx → Table wx ∧ 2 < wx.heap.size) := fun wx hx => ⟨table_at hx hg ht, Nat.lt_of_lt_of_le hg hx.size⟩
  have hcv := convert_range (cap := cap) hB.range
  rw [hl] at hcv
  generalize strOf l = s0 at *
  clear hl ht hg hB
  have hbs := fun wx => buildSlice2 wx s0 any
  have hL : Blk (w.alloc (.cells #[.string s0, .string any] 9)) w.heap.size 9 [.string s0, .string any] := Blk.new w _ _
  have HW : Aside (Below wB.heap.size wB (w.alloc (.cells #[.string s0, .string any] 9)) ∧ Blk (w.alloc (.cells #[.string s0, .string any] 9)) w.heap.size 9 [.string s0, .string any]) := ⟨hb.alloc hb.size _, hL⟩
  clear hL hb
  go_wp2_with fail
  generalize w.alloc (.cells #[.string s0, .string any] 9) = w1 at *
  generalize w.heap.size = lb at *
  clear hbs
  go_loopw [14] (fun v wr => ∃ k : Nat, k ≤ 2 ∧ v = .int .i64 (k : Int) ∧ Aside (Below w1.heap.size w1 wr)) (fun v _ => 2 - (intOf v).toNat)
  case atStart => exact ⟨0, by omega, rfl, Below.refl _ _⟩
  case round =>
    obtain ⟨k, hk, rfl, HB⟩ := hrel
    by_cases h2 : k < 2
    · have h2' : (k : Int) < 2 := by omega
      obtain ⟨s, hs⟩ : ∃ s, w1.cell? ⟨lb, k, none⟩ = some (.string s) := by
        rw [HW.out.2.cell]
        match k, h2 with
        | 0, _ => exact ⟨_, rfl⟩
        | 1, _ => exact ⟨_, rfl⟩
      have HC : Aside (w1.cell? ⟨lb, k, none⟩ = some (.string s)) := hs
      clear hs
      refine wp_seq_k ?_
      intro K hK
      have HK : Aside (∀ a w, _ → K a w) := hK
      clear hK
      go_wp2
      refine HK.out _ _ ?_
      clear HK
      refine wp_seq_k ?_
      intro K2 hK2
      have HK2 : Aside (∀ a w, _ → K2 a w) := hK2
      clear hK2
      refine wp_block ?_
      have hBw := HW.out.1.trans (HB.out.mono HW.out.1.size)
      refine op14_wp lb k s wr _ h2 (by rw [HB.out.cell (World.block_lt_of_cell? _ _ HC.out)]; exact HC.out) (T.out wr hBw).1 (T.out wr hBw).2 ?_
      intro u15 u16 u17 u18 u19 u72 u73 u74 u75 u76 u77 u78 u79 u80 u81 u82 u83 u84 u85 u86 u87 u88 u89 u90 u91 u92 u93 u94 u95 u96 u97 u98 u99 u100 u101 u102 u103 u104 u105 u106 u107 u108 u109 u110 u111 u112 u113 u114 u115 w2 hb2
      have H2 : Aside (Below w1.heap.size w1 w2) := HB.out.trans (hb2.mono HB.out.size)
      clear hb2 hBw
      refine HK2.out _ _ ?_
      clear HK2
      go_wp2
      go_roundw
      case rel => exact ⟨k + 1, by omega, by go_num, H2⟩
      case measure => simp [intOf]; omega
    · have h2' : ¬ (k : Int) < 2 := by omega
      go_wp2
      rw [← HQ.out]
      unfold opQ
      go_ret
      exact ⟨rfl, HW.out.1.trans (HB.out.mono HW.out.1.size)⟩

set_option maxHeartbeats 2000000 in
theorem op4_wp {c0 c4 c5 c6 c7 c8 c10 c11 c12 c13 c14 c15 c16 c17 c18 c19 c20 c21 c22 c23 c24 c25 c26 c27 c28 c29 c30 c31 c32 c33 c34 c35 c36 c37 c38 c39 c40 c41 c42 c43 c44 c45 c46 c47 c48 c49 c50 c51 c52 c53 c54 c55 c56 c57 c58 c59 c60 c61 c62 c63 c64 c65 c66 c67 c68 c69 c70 c71 c72 c73 c74 c75 c76 c77 c78 c79 c80 c81 c82 c83 c84 c85 c86 c87 c88 c89 c90 c91 c92 c93 c94 c95 c96 c97 c98 c99 c100 c101 c102 c103 c104 c105 c106 c107 c108 c109 c110 c111 c112 c113 c114 c115 : Value} (i : Int) (bb any : ByteArray) (a b : Nat) (fv : Value) (D : Dk) (wB w : World) (hi1 : -9223372036854775808 ≤ i) (hi2 : i ≤ 9223372036854775807) (hL : LogAt w a b fv (.slice none 0 0) D []) (hb : Below wB.heap.size wB w) (ht : Table wB) (hg : 2 < wB.heap.size) :
    Code.wp Tryd.prog (sfxD Tryd.f13 4) (opQ wB) ⟨#[c0, .int .i64 i, .string bb, .string any, c4, c5, c6, c7, c8, .pointer (some ⟨a, 0, none⟩), c10, c11, c12, c13, c14, c15, c16, c17, c18, c19, c20, c21, c22, c23, c24, c25, c26, c27, c28, c29, c30, c31, c32, c33, c34, c35, c36, c37, c38, c39, c40, c41, c42, c43, c44, c45, c46, c47, c48, c49, c50, c51, c52, c53, c54, c55, c56, c57, c58, c59, c60, c61, c62, c63, c64, c65, c66, c67, c68, c69, c70, c71, c72, c73, c74, c75, c76, c77, c78, c79, c80, c81, c82, c83, c84, c85, c86, c87, c88, c89, c90, c91, c92, c93, c94, c95, c96, c97, c98, c99, c100, c101, c102, c103, c104, c105, c106, c107, c108, c109, c110, c111, c112, c113, c114, c115], []⟩ w := by
  conv => arg 2; whnf
  generalize hQ : opQ wB = Q
  have HQ : Aside (opQ wB = Q) := hQ
  clear hQ
  have hby := logBytes_any hL
  have hsz : (strOf D.las.flatten).size = 25600 := by rw [strOf_size (flat_byt hL.disk.ok), hL.disk.ok.flat]
  generalize strOf D.las.flatten = s at *
  have HT : Aside (Table wB ∧ 2 < wB.heap.size) := ⟨ht, hg⟩
  clear ht hg hL
  go_wp2_with fail
  refine hby.mono ?_
  rintro e w1 ⟨rfl, hb1⟩
  clear hby
  have hcv := Lib.run_convert_string_bytes (P := Tryd.prog) w1 9 82 5 s Tryd.underlying9 Tryd.underlying82 Tryd.underlying5
  have hb2 : Below wB.heap.size wB (Lib.bytesWorld w1 5 s) := (hb.trans (hb1.mono hb.size)).trans ((below_bytes w1 s).mono (Nat.le_trans hb.size hb1.size))
  have hN := byB_new w1 s
  have hnl : (bts s).length = 25600 := by rw [bts_length]; exact hsz
  have hcb : wB.heap.size ≤ w1.heap.size := Nat.le_trans hb.size hb1.size
  have hge : s.size ≤ grownCap w1 s.size 0 5 := grownCap_ge w1 s.size 0 5
  rw [hsz] at hcv hge
  generalize grownCap w1 25600 0 5 = cap at *
  generalize Lib.bytesWorld w1 5 s = w2 at *
  generalize w1.heap.size = cb at *
  generalize bts s = l0 at *
  have HW : Aside (ByB w2 cb l0 ∧ l0.length = 25600 ∧ Below wB.heap.size wB w2) := ⟨hN, hnl, hb2⟩
  clear hN hnl hb2 hb1 hb hsz
  have hpk : Calls Tryd.prog 32 #[.int .i64 i, .int .i64 25600] w2 fun e w' => e = .returned (.int .i64 (pickV i 25600 : Nat)) ∧ w' = w2 := pickG_any i 25600 w2 hi1 hi2 (by omega) (by omega)
  have hpl := pickV_lt i 25600 (by omega)
  generalize pickV i 25600 = from' at *
  go_wp2_with fail
  refine hpk.mono ?_
  rintro e w3 ⟨rfl, rfl⟩
  clear hpk hcv
  go_wp2_with fail
  rename_i K hK
  have HK : Aside (∀ a w, _ → K a w) := hK
  clear hK
  go_loopw [12] (fun v wr => ∃ (k : Nat) (l : List Nat), k ≤ 25600 ∧ v = .int .i64 (k : Int) ∧ Aside (ByB wr cb l ∧ l.length = 25600 ∧ Below wB.heap.size wB wr)) (fun v _ => 25600 - (intOf v).toNat)
  case atStart => exact ⟨0, l0, by omega, rfl, HW⟩
  case round =>
    obtain ⟨k, l, hk, rfl, HL⟩ := hrel
    by_cases hkb : k < bb.size
    · have hkb' : (k : Int) < (bb.size : Int) := by omega
      by_cases hfk : from' + k < 25600
      · have hfk' : (from' : Int) + (k : Int) < 25600 := by omega
        obtain ⟨y, hy⟩ : ∃ y : Nat, l[from' + k]? = some y := ⟨_, List.getElem?_eq_getElem (by rw [HL.out.2.1]; exact hfk)⟩
        have hcell := HL.out.1.cell hy
        have hfz := HL.out.1.frozen (j := from' + k) (by rw [HL.out.2.1]; exact hfk)
        have hix := fun wx => index_st wx (bts bb) (bts_byte bb) k (by rw [bts_length]; exact hkb)
        rw [strOf_bts] at hix
        generalize (bts bb).getD k 0 = z at *
        have H2 : Aside (ByB (wr.setCell ⟨cb, from' + k, none⟩ (.int .u8 (z : Int))) cb (l.set (from' + k) z) ∧ (l.set (from' + k) z).length = 25600 ∧ Below wB.heap.size wB (wr.setCell ⟨cb, from' + k, none⟩ (.int .u8 (z : Int)))) :=
          ⟨HL.out.1.set _ _ (by rw [HL.out.2.1]; exact hfk), by rw [List.length_set]; exact HL.out.2.1, HL.out.2.2.setCell hcb _⟩
        clear hy
        go_wp2
        generalize wr.setCell ⟨cb, from' + k, none⟩ (.int .u8 (z : Int)) = w4 at *
        go_roundw
        case rel => exact ⟨k + 1, _, by omega, by go_num, H2⟩
        case measure => simp [intOf]; omega
      · have hfk' : ¬ (from' : Int) + (k : Int) < 25600 := by omega
        go_wp2
        refine HK.out _ _ ?_
        rw [← HQ.out]
        exact op10_wp any cb cap l wB wr HL.out.2.1 HL.out.1 HL.out.2.2 HT.out.1 HT.out.2
    · have hkb' : ¬ (k : Int) < (bb.size : Int) := by omega
      go_wp2
      refine HK.out _ _ ?_
      rw [← HQ.out]
      exact op10_wp any cb cap l wB wr HL.out.2.1 HL.out.1 HL.out.2.2 HT.out.1 HT.out.2
end Go.Proofs.YtlhohmlpcgbliaaDoor
