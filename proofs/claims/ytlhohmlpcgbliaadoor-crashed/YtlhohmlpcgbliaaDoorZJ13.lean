import Derived.Test.YtlhohmlpcgbliaaDoorZO13
import Derived.Laws.AppendOwnNone
namespace Go.Proofs.YtlhohmlpcgbliaaDoor
set_option maxRecDepth 100000
open Go.RowKit
attribute [local go_sem ↓] Go.wp_at_zero Go.wp_at_succ

theorem wpList_appLS {w w0 : World} {B : Nat} {ops : Array Oper} {rest : List Oper} {o : Oper} {a : Act} {Q : Exit → Act → World → Prop} (hgd : o.guard = none) (s x : Operand)
    (ho : o.op = .call { callee := .builtin .append, args := #[s, x], argTypes := #[22, 22] }) (base : Nat) (v vx : Value) (xs ts : List ByteArray) (hs : a.eval s = v) (hown : Row w base 9 v (strv xs))
    (hx : a.eval x = vx) (hL : LS w vx ts) (hlen : xs.length + ts.length ≤ 1000000) (hbase : base ≤ w.heap.size) (hB : Below B w0 w) (hBb : B ≤ base)
    (h : ∀ v' w', Row w' base 9 v' (strv (xs ++ ts)) → Below B w0 w' → wpList Tryd.prog ops Q rest (a.put o.dst v') w') : wpList Tryd.prog ops Q (o :: rest) a w := by
  obtain ⟨i, hi, hiz, his, hib⟩ := elem_string
  rcases hL with ⟨rfl, rfl⟩ | ⟨cb, co, cc, rfl, hSA, hcb, hcc⟩
  · refine wpList_append_own_none hgd s x 22 ho base 9 i 1 Tryd.underlying22 hi v _ _ hs hown hx ?_
    refine h v w ?_ hB
    rw [List.append_nil]
    exact hown
  · refine wpList_append_own w hgd s x 22 ho base 9 i _ 1 _ Tryd.underlying22 hi hiz his hib rfl (by omega) v _ _ hs hown ⟨cb, co, none⟩ ts.length cc (strv ts) hx (by rw [strv_length]; omega) ?_ ?_ (by rw [strv_length]; unfold maxLen; omega) (by rw [strv_length]; omega) hbase ?_
    · intro j u hu
      rw [Addr.add_mid]
      have hj : j < ts.length := by
        have := (List.getElem?_eq_some_iff.1 hu).1
        rwa [strv_length] at this
      have h1 : (strv ts)[j]? = some (.string ts[j]) := by simp [strv, hj]
      rw [h1] at hu
      injection hu with hu
      subst hu
      exact hSA j _ (List.getElem?_eq_getElem hj)
    · intro u hu
      simp only [strv, List.mem_map] at hu
      obtain ⟨y, _, rfl⟩ := hu
      rfl
    · intro v' w' h2 h3 _
      refine h v' w' ?_ (hB.grown h3 (Nat.le_trans hBb hbase) (fun k hk => Nat.le_trans hBb (hown.lt k hk).1))
      unfold Row
      rw [strv_length, List.length_append, strv_append]
      rw [strv_length] at h2
      exact h2

end Go.Proofs.YtlhohmlpcgbliaaDoor
namespace Go.Proofs.YtlhohmlpcgbliaaDoor
set_option maxRecDepth 100000
open Go.RowKit
attribute [local go_sem ↓] Go.wp_at_zero Go.wp_at_succ

theorem Lg.wider {B B' w : World} {a : Nat} {D : Dk} {W : List ByteArray} (h : Lg B' w a D W) (hb : Below B.heap.size B B') : Lg B w a D W := by
  obtain ⟨b, fv, wv, hL, ho⟩ := h.ex
  exact ⟨hb.trans (h.bel.mono hb.size), b, fv, wv, hL, fun j hj => Nat.le_trans hb.size (ho j hj)⟩

set_option maxHeartbeats 2000000 in
theorem Lg.copied1 {w : World} {a b : Nat} {fv wv : Value} {D : Dk} {W : List ByteArray} (h : LogAt w a b fv wv D W) (hs : (Dk.of D.las.flatten).sound) (ht : Table w) (hg : 2 < w.heap.size) :
    Calls Tryd.prog 43 #[.pointer (some ⟨a, 0, none⟩)] w fun e w' => ∃ a', e = .returned (.pointer (some ⟨a', 0, none⟩)) ∧ Lg w w' a' (Dk.of D.las.flatten) [] := by
  have hby := logBytes_any h
  have hbf := bts_flat h.disk.ok
  have hsz : (strOf D.las.flatten).size = 25600 := by rw [strOf_size (flat_byt h.disk.ok), h.disk.ok.flat]
  rw [← hbf] at hs ⊢
  have hop := fun wx (hx : Below w.heap.size w wx) => groveOpen_any (strOf D.las.flatten) wx (table_at hx hg ht) (Nat.lt_of_lt_of_le hg hx.size)
  have HS : Aside ((Dk.of (bts (strOf D.las.flatten))).sound ∧ (strOf D.las.flatten).size = 25600) := ⟨hs, hsz⟩
  clear ht hg hbf hs h
  generalize Dk.of (bts (strOf D.las.flatten)) = D' at *
  generalize strOf D.las.flatten = s at *
  go_enter Tryd.func43, Tryd.ntmps43
  go_wp2_with fail
  refine hby.mono ?_
  rintro e w1 ⟨rfl, hb1⟩
  have hcv := Lib.run_convert_string_bytes (P := Tryd.prog) w1 9 82 5 s Tryd.underlying9 Tryd.underlying82 Tryd.underlying5
  have hb2 : Below w.heap.size w (Lib.bytesWorld w1 5 s) := hb1.trans ((below_bytes w1 s).mono hb1.size)
  have hcb := convert_range (cap := grownCap w1 s.size 0 5) (bytes_range w1 s)
  rw [bts_length, strOf_bts] at hcb
  generalize grownCap w1 s.size 0 5 = cap at *
  generalize Lib.bytesWorld w1 5 s = w2 at *
  have hop2 := hop w2 hb2
  clear hby hop hsz
  go_wp2_with fail
  refine hop2.mono ?_
  rintro e w3 ⟨hb3, h3⟩
  clear hop2
  rcases h3 with ⟨_, hno⟩ | ⟨a', rfl, _, _, hL⟩
  · exact absurd ⟨HS.out.2, HS.out.1⟩ hno
  · have HL : Aside (Lg w w3 a' D' []) := hL.wider hb2
    clear hL hb2 hb3
    go_wp2
    go_ret
    exact ⟨a', rfl, HL.out⟩

theorem rootLS {w : World} {v : Value} {l : List ByteArray} (hS : LS w v l) (hl : l.length ≤ 1000) (hz : ∀ s ∈ l, s.size ≤ 40) (ht : Table w) (hg : 2 < w.heap.size) :
    Calls Tryd.prog 17 #[v] w fun e w' => e = .returned (.string (mth (l.map leafS))) ∧ Below w.heap.size w w' := by
  rcases hS with ⟨rfl, rfl⟩ | ⟨cb, co, cc, rfl, hSA, hcb, hcc⟩
  · rw [List.map_nil, mth_nil]
    exact groveRoot_nil none 0 w ht hg
  · exact groveRoot_any l cb co cc w hcc (by omega) hSA (fun s hs => by have := hz s hs; omega) ht hg
theorem LS.slice {w : World} {v : Value} {l : List ByteArray} (hS : LS w v l) : ∃ p c, v = .slice p l.length c := by
  rcases hS with ⟨rfl, rfl⟩ | ⟨cb, co, cc, rfl, _⟩
  · exact ⟨none, 0, rfl⟩
  · exact ⟨_, _, rfl⟩

set_option maxHeartbeats 2000000 in
theorem is_false {w : World} {a b : Nat} {fv wv : Value} {D : Dk} {W H : List ByteArray} (h : LogAt w a b fv wv D W) (hH : Hold1 D H) (v : Value) (l : List ByteArray) (hS : LS w v l) (hne : H.length ≠ l.length) :
    Calls Tryd.prog 52 #[.pointer (some ⟨a, 0, none⟩), v] w fun e w' => e = .returned (.bool false) ∧ Below w.heap.size w w' := by
  have hk := logCk_ok h hH.nf.failed
  rw [hH.ckN] at hk
  have hE := hH.len
  obtain ⟨p, c, rfl⟩ := hS.slice
  clear h hH hS
  generalize strOf D.ckR = r at *
  generalize H.length = N at *
  generalize l.length = M at *
  have hne' : ¬ (N : Int) = (M : Int) := by omega
  go_enter Tryd.func52, Tryd.ntmps52
  go_wp2_with fail
  refine hk.mono ?_
  rintro e w1 ⟨rfl, hb1⟩
  clear hk
  go_wp2
  go_ret
  exact ⟨rfl, hb1⟩
end Go.Proofs.YtlhohmlpcgbliaaDoor
namespace Go.Proofs.YtlhohmlpcgbliaaDoor
set_option maxRecDepth 100000
open Go.RowKit
attribute [local go_sem ↓] Go.wp_at_zero Go.wp_at_succ

set_option maxHeartbeats 4000000 in
theorem is_true {w : World} {a b : Nat} {fv wv : Value} {D : Dk} {W H : List ByteArray} (h : LogAt w a b fv wv D W) (hH : Hold1 D H) (v : Value) (hS : LS w v H) (ht : Table w) (hg : 2 < w.heap.size) :
    Calls Tryd.prog 52 #[.pointer (some ⟨a, 0, none⟩), v] w fun e w' => e = .returned (.bool true) ∧ Below w.heap.size w w' := by
  have hk := logCk_ok h hH.nf.failed
  rw [hH.ckN, hH.ckR, strOf_bts] at hk
  have hE := hH.len
  have T : Aside (∀ wx, Below w.heap.size w wx → Table wx ∧ 2 < wx.heap.size) := fun wx hx => ⟨table_at hx hg ht, Nat.lt_of_lt_of_le hg hx.size⟩
  have HS : Aside (∀ wx, Below w.heap.size w wx → LS wx v H) := fun wx hx => by
    rcases hS with h1 | ⟨cb, co, cc, h1, h2, h3, h4⟩
    · exact .inl h1
    · exact .inr ⟨cb, co, cc, h1, h2.below hx, Nat.lt_of_lt_of_le h3 hx.size, h4⟩
  have HR : Aside (∀ wx, Below w.heap.size w wx → Calls Tryd.prog 17 #[v] wx fun e w' => e = .returned (.string (mth (H.map leafS))) ∧ Below wx.heap.size wx w') := fun wx hx => rootLS (HS.out wx hx) (by omega) hH.siz (T.out wx hx).1 (T.out wx hx).2
  have HE : Aside (∀ wx, Below w.heap.size w wx → ∀ (i : Nat) s, H[i]? = some s → Calls Tryd.prog 37 #[.pointer (some ⟨a, 0, none⟩), .int .i64 (i : Int)] wx fun e w' => e = .returned (.tuple #[.string s, .int .i64 0]) ∧ Below wx.heap.size wx w') := fun wx hx i s hs => by
    have hi : i < H.length := (List.getElem?_eq_some_iff.1 hs).1
    have h1 := logEntry_ok (h.below hx) hH.nf.failed i (by rw [hH.ckN]; exact hi) (by omega)
    rw [hH.entry hs] at h1
    exact h1
  have h32 : ∀ x ∈ H.map leafS, x.size ≤ 1048576 := fun x hx => by
    obtain ⟨y, _, rfl⟩ := List.mem_map.1 hx
    rw [leafS_size]; omega
  have HI : Aside (∀ wx, Below w.heap.size w wx → ∀ (i : Nat), i < H.length → Calls Tryd.prog 38 #[.pointer (some ⟨a, 0, none⟩), .int .i64 (i : Int), .int .i64 (H.length : Int)] wx fun e w' => ∃ u, e = .returned (.tuple #[u, .int .i64 0]) ∧ Lst w' u (incF H.length i (H.map leafS)) ∧ Below wx.heap.size wx w') := fun wx hx i hi => by
    have h1 := logInclusion1 (h.below hx) hH (T.out wx hx).1 (T.out wx hx).2 i H.length (Nat.le_refl _) hi
    rw [List.take_of_length_le (by simp)] at h1
    refine h1.mono ?_
    rintro e w' ⟨u, rfl, hr, hb⟩
    exact ⟨u, rfl, (LA.of_row hr).2, hb⟩
  have HL : Aside (∀ wx, Below w.heap.size w wx → ∀ (i : Nat) s, H[i]? = some s → Calls Tryd.prog 14 #[.string s] wx fun e w' => e = .returned (.string (leafS s)) ∧ Below wx.heap.size wx w') := fun wx hx i s hs => groveLeaf_any s wx (by have := hH.siz s (List.mem_of_getElem? hs); omega) (T.out wx hx).1 (T.out wx hx).2
  have HN : Aside (∀ wx, Below w.heap.size w wx → ∀ (i : Nat) s u, H[i]? = some s → Lst wx u (incF H.length i (H.map leafS)) → Calls Tryd.prog 23 #[.string (leafS s), .int .i64 (i : Int), .int .i64 (H.length : Int), u, .string (mth (H.map leafS))] wx fun e w' => e = .returned (.bool true) ∧ Below wx.heap.size wx w') := fun wx hx i s u hs hu => by
    have h1 := incl_right (H.map leafS) i (leafS s) (by rw [List.getElem?_map, hs]; rfl) (by simp; omega)
    rw [List.length_map] at h1
    have h2 := incl_big (leafS s) (mth (H.map leafS)) i H.length u _ wx (by rw [leafS_size]; omega) hu ⟨Nat.le_trans (incF_length _ _ _) (by omega), fun x hx => Nat.le_trans (incF_size _ _ _ h32 x hx) (by omega)⟩ (T.out wx hx).1 (T.out wx hx).2
    rw [h1] at h2
    exact h2
  clear h hH h32 ht hg
  generalize mth (H.map leafS) = root at *
  have hbe : (!decide (root = root)) = false := by simp
  rcases hS with ⟨rfl, rfl⟩ | ⟨cb, co, cc, rfl, hSA, _, _⟩
  · clear HE HI HL HN HS
    go_enter Tryd.func52, Tryd.ntmps52
    go_wp2_with fail
    refine hk.mono ?_
    rintro e w1 ⟨rfl, hb1⟩
    clear hk
    have g2 := HR.out w1 hb1
    go_wp2_with fail
    refine g2.mono ?_
    rintro e w2 ⟨rfl, hb2⟩
    have B2 : Aside (Below w.heap.size w w2) := hb1.trans (hb2.mono hb1.size)
    clear g2 hb1 hb2 HR
    go_wp2_with fail
    go_loopw [8] (fun i wr => i = .int .i64 0 ∧ wr = w2) (fun _ _ => 0)
    case atStart => exact ⟨rfl, rfl⟩
    case round =>
      obtain ⟨rfl, rfl⟩ := hrel
      go_wp2
      go_ret
      exact ⟨rfl, B2.out⟩
  · have HC : Aside (∀ wx, Below w.heap.size w wx → ∀ (i : Nat) s, H[i]? = some s → wx.cell? ⟨cb, co + i, none⟩ = some (.string s)) := fun wx hx => hSA.below hx
    clear hSA HS
    have HG : Aside (∀ (i : Nat), i < H.length → ∃ s, H[i]? = some s) := fun i hi => ⟨_, List.getElem?_eq_getElem hi⟩
    generalize H.length = N at *
    go_enter Tryd.func52, Tryd.ntmps52
    go_wp2_with fail
    refine hk.mono ?_
    rintro e w1 ⟨rfl, hb1⟩
    clear hk
    have g2 := HR.out w1 hb1
    go_wp2_with fail
    refine g2.mono ?_
    rintro e w2 ⟨rfl, hb2⟩
    have B2 : Aside (Below w.heap.size w w2) := hb1.trans (hb2.mono hb1.size)
    clear g2 hb1 hb2 HR
    go_wp2_with fail
    go_loopw [8] (fun i' wr => ∃ i : Nat, i ≤ N ∧ i' = .int .i64 (i : Int) ∧ Aside (Below w.heap.size w wr)) (fun i' _ => N - (intOf i').toNat)
    case atStart => exact ⟨0, by omega, rfl, B2⟩
    case round =>
      obtain ⟨i, hi, rfl, HB⟩ := hrel
      by_cases hiN : i < N
      · have hiN' : (i : Int) < (N : Int) := by omega
        obtain ⟨s, hs⟩ := HG.out i hiN
        have g3 := HE.out wr HB.out i s hs
        have HC2 : Aside (∀ wx, Below w.heap.size w wx → wx.cell? ⟨cb, co + i, none⟩ = some (.string s)) := fun wx hx => HC.out wx hx i s hs
        clear hs
        go_wp2_with fail
        refine g3.mono ?_
        rintro e w3 ⟨rfl, hb3⟩
        have B3 : Aside (Below w.heap.size w w3) := HB.out.trans (hb3.mono HB.out.size)
        have hcell := HC2.out w3 B3.out
        clear g3 hb3 HC2
        go_wp2
        go_roundw
        case rel => exact ⟨i + 1, by omega, by go_num, B3⟩
        case measure => simp [intOf]; omega
      · have hiN' : ¬ (i : Int) < (N : Int) := by omega
        by_cases h0 : N = 0
        · subst h0
          go_wp2
          go_ret
          exact ⟨rfl, HB.out⟩
        · have h0' : (0 : Int) < (N : Int) := by omega
          obtain ⟨m, hm⟩ : ∃ m, N / 2 = m := ⟨_, rfl⟩
          have hmN : m < N := by omega
          have hmN' : (m : Int) < (N : Int) := by omega
          have hdv : (N : Int).tdiv 2 = (m : Int) := by
            rw [Int.tdiv_eq_ediv_of_nonneg (by omega)]
            omega
          have hdw : (N : Int) / 2 = (m : Int) := by omega
          obtain ⟨s, hs⟩ := HG.out m hmN
          have g3 := HI.out wr HB.out m hmN
          have H5 : Aside (H[m]? = some s) := hs
          clear hs hm
          go_wp2_with fail
          refine g3.mono ?_
          rintro e w3 ⟨u, rfl, hu, hb3⟩
          have B3 : Aside (Below w.heap.size w w3 ∧ Lst w3 u (incF N m (H.map leafS))) := ⟨HB.out.trans (hb3.mono HB.out.size), hu⟩
          have hcell := HC.out w3 B3.out.1 m s H5.out
          have g4 := HL.out w3 B3.out.1 m s H5.out
          clear g3 hb3 hu
          go_wp2_with fail
          refine g4.mono ?_
          rintro e w4 ⟨rfl, hb4⟩
          have B4 : Aside (Below w.heap.size w w4) := B3.out.1.trans (hb4.mono B3.out.1.size)
          have g5 := HN.out w4 B4.out m s u H5.out (B3.out.2.below hb4)
          clear g4 hb4 hcell
          go_wp2_with fail
          refine g5.mono ?_
          rintro e w5 ⟨rfl, hb5⟩
          have B5 : Aside (Below w.heap.size w w5) := B4.out.trans (hb5.mono B4.out.size)
          clear g5 hb5
          go_wp2
          go_ret
          exact ⟨rfl, B5.out⟩
end Go.Proofs.YtlhohmlpcgbliaaDoor
namespace Go.Proofs.YtlhohmlpcgbliaaDoor
set_option maxRecDepth 100000
open Go.RowKit
attribute [local go_sem ↓] Go.wp_at_zero Go.wp_at_succ

set_option maxHeartbeats 1000000 in
theorem refused_pend {w : World} {a b : Nat} {fv wv : Value} {D : Dk} {W : List ByteArray} (h : LogAt w a b fv wv D W) (hf : D.failed = false) (hz : D.read 1 ≠ zer) : Calls Tryd.prog 74 #[.pointer (some ⟨a, 0, none⟩)] w fun e w' => e = .returned (.int .i64 4) ∧ Below w.heap.size w w' := by
  have hc := h.blk.cell 0
  simp only [List.getElem?_cons_zero] at hc
  have hd := down_any h
  rw [hf] at hd
  have hp := pending_any b fv D w h.disk
  rw [show (!decide (D.read 1 = zer)) = true by simp [hz]] at hp
  unfold stV at hp
  clear hz hf
  go_enter Tryd.func74, Tryd.ntmps74
  go_wp2_with fail
  refine hd.mono ?_
  rintro e w1 ⟨rfl, rfl⟩
  go_wp2_with fail
  refine hp.mono ?_
  rintro e w2 ⟨rfl, hb2⟩
  go_wp2
  go_ret
  exact ⟨rfl, hb2⟩
set_option maxHeartbeats 1000000 in
theorem refused_down {w : World} {a b : Nat} {fv wv : Value} {D : Dk} {W : List ByteArray} (h : LogAt w a b fv wv D W) (hf : D.failed = true) : Calls Tryd.prog 74 #[.pointer (some ⟨a, 0, none⟩)] w fun e w' => e = .returned (.int .i64 3) ∧ w' = w := by
  have hd := down_any h
  rw [hf] at hd
  clear hf
  go_enter Tryd.func74, Tryd.ntmps74
  go_wp2_with fail
  refine hd.mono ?_
  rintro e w1 ⟨rfl, rfl⟩
  go_wp2
  go_ret
  exact ⟨rfl, rfl⟩
/-- A Submit that is refused. -/
theorem submit_ref {w : World} {a : Nat} {c : Int} (hc : c = 3 ∨ c = 4) (v : Value) (h : Calls Tryd.prog 74 #[.pointer (some ⟨a, 0, none⟩)] w fun e w' => e = .returned (.int .i64 c) ∧ Below w.heap.size w w') :
    Calls Tryd.prog 40 #[.pointer (some ⟨a, 0, none⟩), v] w fun e w' => e = .returned (.int .i64 c) ∧ Below w.heap.size w w' := by
  have hc0 : ¬ c = 0 := by omega
  go_enter Tryd.func40, Tryd.ntmps40
  go_wp2_with fail
  refine h.mono ?_
  rintro e w1 ⟨rfl, hb1⟩
  rcases hc with rfl | rfl
  · go_wp2
    go_ret
    exact ⟨rfl, hb1⟩
  · go_wp2
    go_ret
    exact ⟨rfl, hb1⟩
/-- A Flush that is refused. -/
theorem flush_ref {w : World} {a : Nat} {c : Int} (hc : c = 3 ∨ c = 4) (h : Calls Tryd.prog 74 #[.pointer (some ⟨a, 0, none⟩)] w fun e w' => e = .returned (.int .i64 c) ∧ Below w.heap.size w w') :
    Calls Tryd.prog 42 #[.pointer (some ⟨a, 0, none⟩)] w fun e w' => e = .returned (.tuple #[.int .i64 0, .int .i64 c]) ∧ Below w.heap.size w w' := by
  go_enter Tryd.func42, Tryd.ntmps42
  go_wp2_with fail
  refine h.mono ?_
  rintro e w1 ⟨rfl, hb1⟩
  rcases hc with rfl | rfl
  · go_wp2
    go_ret2
    exact ⟨rfl, hb1⟩
  · go_wp2
    go_ret2
    exact ⟨rfl, hb1⟩

set_option maxHeartbeats 2000000 in
theorem submit_nil {w : World} {a b : Nat} {fv wv : Value} {D : Dk} (h : LogAt w a b fv wv D []) (hf : D.failed = false) (hz : D.read 1 = zer) (hn : D.ckN ≤ 64) :
    Calls Tryd.prog 40 #[.pointer (some ⟨a, 0, none⟩), .slice none 0 0] w fun e w' => e = .returned (.int .i64 0) ∧ Below w.heap.size w w' := by
  have hrf := refused_ok h hf hz
  clear hf hz
  go_enter Tryd.func40, Tryd.ntmps40
  go_wp2_with fail
  refine hrf.mono ?_
  rintro e w1 ⟨rfl, hb1⟩
  clear hrf
  have h1 := h.below hb1
  have hc0 := h1.blk.cell 0
  have hc1 := h1.blk.cell 1
  simp only [List.getElem?_cons_zero, List.getElem?_cons_succ] at hc0 hc1
  obtain ⟨p, cap, hwv⟩ := h1.wv
  rw [hwv, List.length_nil] at hc1
  have hck := storeCk_any b fv D w1 h1.disk
  unfold stV at hck
  clear hwv
  have hq2 : ¬ (64 : Int) < (D.ckN : Int) := by omega
  clear h h1
  generalize D.ckN = N at *
  generalize strOf D.ckR = r at *
  go_wp2_with fail
  go_loopw [20] (fun v wr => v = .int .i64 0 ∧ wr = w1) (fun _ _ => 0)
  case atStart => exact ⟨rfl, rfl⟩
  case round =>
    obtain ⟨rfl, rfl⟩ := hrel
    go_wp2_with fail
    refine hck.mono ?_
    rintro e w2 ⟨rfl, hb2⟩
    have B2 : Aside (Below w.heap.size w w2) := hb1.trans (hb2.mono hb1.size)
    clear hck hc0 hc1 hb1 hb2
    go_wp2_with fail
    go_loopw [52] (fun v wr => v = .int .i64 0 ∧ wr = w2) (fun _ _ => 0)
    case atStart => exact ⟨rfl, rfl⟩
    case round =>
      obtain ⟨rfl, rfl⟩ := hrel
      go_wp2
      go_ret
      exact ⟨rfl, B2.out⟩

set_option maxHeartbeats 400000 in
theorem isPending_of {w : World} {a : Nat} {c : Int} (hc : c = 0 ∨ c = 4) (h : Calls Tryd.prog 40 #[.pointer (some ⟨a, 0, none⟩), .slice none 0 0] w fun e w' => e = .returned (.int .i64 c) ∧ Below w.heap.size w w') :
    Calls Tryd.prog 54 #[.pointer (some ⟨a, 0, none⟩)] w fun e w' => e = .returned (.tuple #[.bool (decide (c = 4)), .bool true]) ∧ Below w.heap.size w w' := by
  go_enter Tryd.func54, Tryd.ntmps54
  go_wp2_with fail
  refine h.mono ?_
  rintro e w1 ⟨rfl, hb1⟩
  rcases hc with rfl | rfl
  · go_wp2
    go_ret2
    exact ⟨rfl, hb1⟩
  · go_wp2
    go_ret2
    exact ⟨rfl, hb1⟩
set_option maxHeartbeats 400000 in
theorem obeys_ge (k m : Nat) (w : World) (h : m ≤ k) : Calls Tryd.prog 51 #[.int .i64 0, .int .i64 (m : Int), .int .i64 (k : Int), .int .i64 (m : Int)] w fun e w' => e = .returned (.bool true) ∧ w' = w := by
  have h' : ¬ (k : Int) < (m : Int) := by omega
  go_enter Tryd.func51, Tryd.ntmps51
  go_wp2
  go_ret
  exact ⟨rfl, rfl⟩
end Go.Proofs.YtlhohmlpcgbliaaDoor
namespace Go.Proofs.YtlhohmlpcgbliaaDoor
set_option maxRecDepth 100000
open Go.RowKit
attribute [local go_sem ↓] Go.wp_at_zero Go.wp_at_succ

theorem Lg.recvC {B w : World} {a : Nat} {D : Dk} {W : List ByteArray} (h : Lg B w a D W) (hf : D.failed = false) (hl : D.jF + (D.jE D.jN).length ≤ 76) (hfe : D.fre = []) {c : Int} (hc3 : D.recv.failed = true → c = 3) (hc0 : D.recv.failed = false → c = 0) (ht : Table B) (hg : 2 < B.heap.size) : Calls Tryd.prog 57 #[.pointer (some ⟨a, 0, none⟩)] w fun e w' => e = .returned (.int .i64 c) ∧ Lg B w' a D.recv W := by
  obtain ⟨b, fv, wv, hL, ho⟩ := h.ex
  refine (logRecover_any hL hf hl (by rw [hfe]; simp) (env_of ht hg h.bel (ho _ (.inr (.inl rfl))) (fun j hj => ho j (.inr (.inr (.inl hj)))))).mono ?_
  rintro e w' ⟨c', rfl, hc, fv', hL', hR'⟩
  obtain ⟨hb4, hf4, hw4⟩ := FrL.below h.bel hR' (ho _ (.inl rfl)) (ho _ (.inr (.inl rfl))) (fun j hj => ho j (.inr (.inr (.inl hj)))) (fun j hj => ho j (.inr (.inr (.inr hj))))
  have hcc : c' = c := by
    rcases hc with ⟨h1, h2⟩ | ⟨h1, h2⟩
    · rw [h2, hc3 h1]
    · rw [h2, hc0 h1]
  refine ⟨by rw [hcc], hb4, b, fv', wv, hL', ?_⟩
  intro j hj
  rcases hj with e | e | e | e
  · rw [e]; exact ho _ (.inl rfl)
  · rw [e]; exact ho _ (.inr (.inl rfl))
  · exact hf4 j e
  · exact hw4 j e
/-- A disk as it comes out of its bytes. -/
def Fresh (X : Dk) : Prop := Dk.of X.las.flatten = X
theorem Fresh.of {m : List Nat} (h : (Dk.of m).ok) : Fresh (Dk.of m) := by
  unfold Fresh
  rw [Dk.of_flat _ h]
  rfl
theorem Fresh.num {X : Dk} (h : Fresh X) : X.acts = 0 ∧ X.nf := by
  unfold Fresh at h
  rw [← h]
  exact ⟨rfl, rfl, rfl⟩
/-- What a Recover does on a copy whose disk is to fail. -/
theorem RecP.step {P : Dk → Prop} {E W Z : List ByteArray} (p : RecP P E W Z) {X : Dk} (h : P X) (hX : Fresh X) (k : Nat) (keep : Int) (hk : k ≤ (rcA X).length + 1) :
    ∃ (c : Int) (d : Nat), ((X.script (k : Int) keep).recv.failed = true → c = 3) ∧ ((X.script (k : Int) keep).recv.failed = false → c = 0) ∧ (X.script (k : Int) keep).recv.acts = d ∧ d ≤ 10000 ∧
      (∀ wx, Calls Tryd.prog 51 #[.int .i64 c, .int .i64 (d : Int), .int .i64 (k : Int), .int .i64 ((rcA X).length : Int)] wx fun e w' => e = .returned (.bool true) ∧ w' = wx) ∧ P (Dk.of (X.script (k : Int) keep).recv.las.flatten) := by
  obtain ⟨ha, hnf⟩ := hX.num
  have hb := p.len X h
  by_cases hkn : k < (rcA X).length
  · obtain ⟨h1, h2, h3⟩ := recv_out p h hnf ha k keep hkn
    exact ⟨3, k, fun _ => rfl, (fun e => by rw [h1] at e; cases e), h2, by omega, fun wx => obeys_in k _ wx hkn, h3⟩
  · obtain ⟨h1, h2, h3⟩ := recv_in p h hnf ha k keep (by omega) (by omega)
    refine ⟨0, (rcA X).length, (fun e => by rw [h1] at e; cases e), fun _ => rfl, h2, hb, fun wx => obeys_ge k _ wx (by omega), ?_⟩
    rw [h3.las]
    have h4 := p.safe X h (rcA X).length keep
    have e2 : X.recv = X.run (rcA X) := (does_recv hnf).at
    rw [List.take_length, ← e2, (p.fin X h).fre] at h4
    exact h4
/-- Failures: raw numbers. -/
def RawF (w : World) (v : Value) : Prop := ∃ p rn rc, v = .slice p rn rc ∧ rn ≤ 140737488355328 ∧ ∀ i, i < rn → ∃ b o c d, p = some ⟨b, o, none⟩ ∧ w.cell? ⟨b, o + i * 2, none⟩ = some (.int .i64 c) ∧ w.cell? ⟨b, o + i * 2 + 1, none⟩ = some (.int .i64 d) ∧ -9223372036854775808 ≤ c ∧ c ≤ 9223372036854775807
theorem RawF.below {w w' : World} {v : Value} (h : RawF w v) (hb : Below w.heap.size w w') : RawF w' v := by
  obtain ⟨p, rn, rc, h1, h2, h3⟩ := h
  refine ⟨p, rn, rc, h1, h2, fun i hi => ?_⟩
  obtain ⟨b, o, c, d, h4, h5, h6, h7⟩ := h3 i hi
  exact ⟨b, o, c, d, h4, by rw [hb.cell (World.block_lt_of_cell? _ _ h5)]; exact h5, by rw [hb.cell (World.block_lt_of_cell? _ _ h6)]; exact h6, h7⟩
theorem LS.below {w w' : World} {v : Value} {l : List ByteArray} (h : LS w v l) (hb : Below w.heap.size w w') : LS w' v l := by
  rcases h with h1 | ⟨cb, co, cc, h1, h2, h3, h4⟩
  · exact .inl h1
  · exact .inr ⟨cb, co, cc, h1, h2.below hb, Nat.lt_of_lt_of_le h3 hb.size, h4⟩
/-- is, of the entries as they were and as they will be. -/
theorem RecP.is {P : Dk → Prop} {E W Z : List ByteArray} (p : RecP P E W Z) (h0 : 0 < W.length) {X : Dk} (h : P X) {w : World} {a b : Nat} {fv wv : Value} (hL : LogAt w a b fv wv X []) {vo vn : Value} (ho : LS w vo E) (hn : LS w vn (E ++ W)) (ht : Table w) (hg : 2 < w.heap.size) :
    ∃ x y : Bool, (x || y) = true ∧ (∀ wx, Below w.heap.size w wx → Calls Tryd.prog 52 #[.pointer (some ⟨a, 0, none⟩), vo] wx fun e w' => e = .returned (.bool x) ∧ Below wx.heap.size wx w') ∧ (∀ wx, Below w.heap.size w wx → Calls Tryd.prog 52 #[.pointer (some ⟨a, 0, none⟩), vn] wx fun e w' => e = .returned (.bool y) ∧ Below wx.heap.size wx w') := by
  obtain ⟨H, hH, _, hE⟩ := p.hold X h
  have T : ∀ wx, Below w.heap.size w wx → Table wx ∧ 2 < wx.heap.size := fun wx hx => ⟨table_at hx hg ht, Nat.lt_of_lt_of_le hg hx.size⟩
  rcases hE with rfl | rfl
  · exact ⟨true, false, rfl, fun wx hx => is_true (hL.below hx) hH vo (ho.below hx) (T wx hx).1 (T wx hx).2, fun wx hx => is_false (hL.below hx) hH vn _ (hn.below hx) (by rw [List.length_append]; omega)⟩
  · exact ⟨false, true, rfl, fun wx hx => is_false (hL.below hx) hH vo _ (ho.below hx) (by rw [List.length_append]; omega), fun wx hx => is_true (hL.below hx) hH vn (hn.below hx) (T wx hx).1 (T wx hx).2⟩
end Go.Proofs.YtlhohmlpcgbliaaDoor
namespace Go.Proofs.YtlhohmlpcgbliaaDoor
set_option maxRecDepth 100000
open Go.RowKit
attribute [local go_sem ↓] Go.wp_at_zero Go.wp_at_succ

set_option maxHeartbeats 8000000 in
theorem recovered_any {P : Dk → Prop} {E W Z : List ByteArray} (p : RecP P E W Z) (h0 : 0 < W.length) {B w : World} {a : Nat} {X : Dk} (hx : Lg B w a X []) (hP : P X) (hX : Fresh X) (vo vn vf : Value) (ho : LS B vo E) (hn : LS B vn (E ++ W)) (hR : RawF B vf) (ht : Table B) (hg : 2 < B.heap.size) :
    Calls Tryd.prog 55 #[.pointer (some ⟨a, 0, none⟩), vo, vn, vf] w fun e w' => ∃ a' X', e = .returned (.tuple #[.pointer (some ⟨a', 0, none⟩), .bool true]) ∧ Lg B w' a' X' [] ∧ Holds X' Z := by
  have T : Aside (∀ wx, Below B.heap.size B wx → Table wx ∧ 2 < wx.heap.size) := fun wx hx => ⟨table_at hx hg ht, Nat.lt_of_lt_of_le hg hx.size⟩
  have HG : Aside (RecP P E W Z ∧ 0 < W.length ∧ Table B ∧ 2 < B.heap.size ∧ LS B vo E ∧ LS B vn (E ++ W)) := ⟨p, h0, ht, hg, ho, hn⟩
  have HX : Aside (Lg B w a X [] ∧ P X ∧ Fresh X) := ⟨hx, hP, hX⟩
  obtain ⟨fp, rn, rc, rfl, hrn, hcells⟩ := hR
  have HC : Aside (∀ wx, Below B.heap.size B wx → ∀ i, i < rn → ∃ b o c d, fp = some ⟨b, o, none⟩ ∧ wx.cell? ⟨b, o + i * 2, none⟩ = some (.int .i64 c) ∧ wx.cell? ⟨b, o + i * 2 + 1, none⟩ = some (.int .i64 d) ∧ -9223372036854775808 ≤ c ∧ c ≤ 9223372036854775807) := fun wx hx i hi => by
    obtain ⟨b, o, c, d, h4, h5, h6, h7⟩ := hcells i hi
    exact ⟨b, o, c, d, h4, by rw [hx.cell (World.block_lt_of_cell? _ _ h5)]; exact h5, by rw [hx.cell (World.block_lt_of_cell? _ _ h6)]; exact h6, h7⟩
  clear p h0 hx hP hX ho hn ht hg hcells
  go_enter Tryd.func55, Tryd.ntmps55
  go_wp2_with fail
  go_loopw [0, 10] (fun u v wr => ∃ (i ai : Nat) (Xi : Dk), i ≤ rn ∧ u = .pointer (some ⟨ai, 0, none⟩) ∧ v = .int .i64 (i : Int) ∧ Aside (Lg B wr ai Xi [] ∧ P Xi ∧ Fresh Xi)) (fun _ v _ => rn - (intOf v).toNat)
  case atStart => exact ⟨0, a, X, by omega, rfl, rfl, HX⟩
  case round =>
    obtain ⟨i, ai, Xi, hi, rfl, rfl, HI⟩ := hrel
    clear HX
    by_cases hir : i < rn
    · have hir' : (i : Int) < (rn : Int) := by omega
      obtain ⟨H, hH, hfit, _⟩ := HG.out.1.hold Xi HI.out.2.1
      have hso : (Dk.of Xi.las.flatten).sound := by rw [show Dk.of Xi.las.flatten = Xi from HI.out.2.2]; exact hH.sound hfit
      have HH : Aside (Hold1 Xi H ∧ Xi.fits H.length) := ⟨hH, hfit⟩
      have hlen := HG.out.1.len Xi HI.out.2.1
      have hac := recv_acts HG.out.1 HI.out.2.1 HI.out.2.2.num.2 HI.out.2.2.num.1
      have HAC : Aside (Xi.recv.acts = (rcA Xi).length ∧ Xi.acts = 0) := ⟨hac, HI.out.2.2.num.1⟩
      have HST : Aside (∀ (k : Nat) (keep : Int), k ≤ (rcA Xi).length + 1 → ∃ (c : Int) (d : Nat), ((Xi.script (k : Int) keep).recv.failed = true → c = 3) ∧ ((Xi.script (k : Int) keep).recv.failed = false → c = 0) ∧ (Xi.script (k : Int) keep).recv.acts = d ∧ d ≤ 10000 ∧
        (∀ wx, Calls Tryd.prog 51 #[.int .i64 c, .int .i64 (d : Int), .int .i64 (k : Int), .int .i64 ((rcA Xi).length : Int)] wx fun e w' => e = .returned (.bool true) ∧ w' = wx) ∧ P (Dk.of (Xi.script (k : Int) keep).recv.las.flatten)) := fun k keep hk => HG.out.1.step HI.out.2.1 HI.out.2.2 k keep hk
      clear hac hH hfit
      have hB := HI.out.1.bel
      obtain ⟨b, fv, wv, hL, _⟩ := HI.out.1.ex
      have g1 := Lg.copied1 hL hso (T.out wr hB).1 (T.out wr hB).2
      rw [show Dk.of Xi.las.flatten = Xi from HI.out.2.2] at g1
      clear hL hso
      generalize (rcA Xi).length = N at *
      go_wp2_with fail
      refine g1.mono ?_
      rintro e w1 ⟨a1, rfl, h1⟩
      clear g1
      have g2 := h1.recv HH.out.1 HH.out.2 (T.out wr hB).1 (T.out wr hB).2
      clear h1
      go_wp2_with fail
      refine g2.mono ?_
      rintro e w2 ⟨rfl, h2⟩
      clear g2
      have g3 := h2.acts
      rw [HAC.out.1] at g3
      have B2 : Aside (Below wr.heap.size wr w2) := h2.bel
      clear h2
      go_wp2_with fail
      refine g3.mono ?_
      rintro e w3 ⟨rfl, rfl⟩
      clear g3
      have hx3 := HI.out.1.below B2.out
      obtain ⟨fb, fo, rc1, rd, rfl, hc1, hc2, hr1, hr2⟩ := HC.out w3 hx3.bel i hir
      have hpk : Calls Tryd.prog 32 #[.int .i64 rc1, .int .i64 ((N : Int) + 2)] w3 fun e w' => e = .returned (.int .i64 (pickV rc1 (N + 2) : Nat)) ∧ w' = w3 := pickG_any rc1 (N + 2) w3 hr1 hr2 (by omega) (by omega)
      have hkm : pickV rc1 (N + 2) ≤ N + 1 := Nat.le_of_lt_succ (pickV_lt rc1 (N + 2) (by omega))
      generalize pickV rc1 (N + 2) = k at *
      have H3 : Aside (Lg B w3 ai Xi []) := hx3
      clear hx3 hr1 hr2
      go_wp2_with fail
      refine hpk.mono ?_
      rintro e w4 ⟨rfl, rfl⟩
      clear hpk
      have g5 := H3.out.acts
      rw [HAC.out.2] at g5
      go_wp2_with fail
      refine g5.mono ?_
      rintro e w5 ⟨rfl, rfl⟩
      clear g5
      have g6 := H3.out.fail HI.out.2.2.num.2.failed k rd
      obtain ⟨c, d, hs1, hs2, hs3, hs4, hs5, hs6⟩ := HST.out k rd hkm
      have hyf : (Xi.script (k : Int) rd).failed = false := HI.out.2.2.num.2.failed
      have hyj : (Xi.script (k : Int) rd).jF + ((Xi.script (k : Int) rd).jE (Xi.script (k : Int) rd).jN).length ≤ 76 := jFit HH.out.2
      have hye : (Xi.script (k : Int) rd).fre = [] := HH.out.1.fre
      have HY : Aside ((Xi.script (k : Int) rd).failed = false ∧ (Xi.script (k : Int) rd).jF + ((Xi.script (k : Int) rd).jE (Xi.script (k : Int) rd).jN).length ≤ 76 ∧ (Xi.script (k : Int) rd).fre = [] ∧ ((Xi.script (k : Int) rd).recv.failed = true → c = 3) ∧ ((Xi.script (k : Int) rd).recv.failed = false → c = 0) ∧ (Xi.script (k : Int) rd).recv.acts = d ∧ P (Dk.of (Xi.script (k : Int) rd).recv.las.flatten)) := ⟨hyf, hyj, hye, hs1, hs2, hs3, hs6⟩
      clear hyf hyj hye hs1 hs2 hs3 hs6 HST
      generalize Xi.script (k : Int) rd = Y at *
      have HO : Aside (∀ wx, Calls Tryd.prog 51 #[.int .i64 c, .int .i64 (d : Int), .int .i64 (k : Int), .int .i64 (N : Int)] wx fun e w' => e = .returned (.bool true) ∧ w' = wx) := hs5
      clear hs5
      go_wp2_with fail
      refine g6.mono ?_
      rintro e w6 ⟨rfl, h6⟩
      clear g6
      have g7 := h6.recvC HY.out.1 HY.out.2.1 HY.out.2.2.1 HY.out.2.2.2.1 HY.out.2.2.2.2.1 HG.out.2.2.1 HG.out.2.2.2.1
      clear h6
      generalize hcv : Value.int .i64 c = cv at *
      go_wp2_with fail
      refine g7.mono ?_
      rintro e w7 ⟨rfl, h7⟩
      clear g7
      have g8 := h7.acts
      rw [HY.out.2.2.2.2.2.1] at g8
      go_wp2_with fail
      refine g8.mono ?_
      rintro e w8 ⟨rfl, rfl⟩
      clear g8
      have g9 := HO.out w8
      go_wp2_with fail
      refine g9.mono ?_
      rintro e w9 ⟨rfl, rfl⟩
      clear g9 HO
      have h9P := HY.out.2.2.2.2.2.2
      have hB9 := h7.bel
      obtain ⟨H9, hH9, hfit9, _⟩ := HG.out.1.hold _ h9P
      obtain ⟨b9, fv9, wv9, hL9, _⟩ := h7.ex
      have g10 := Lg.copied1 hL9 (hH9.sound hfit9) (T.out w9 hB9).1 (T.out w9 hB9).2
      have HF9 : Aside (Fresh (Dk.of Y.recv.las.flatten) ∧ P (Dk.of Y.recv.las.flatten) ∧ Below B.heap.size B w9) := ⟨Fresh.of hH9.ok, h9P, hB9⟩
      clear hL9 hH9 hfit9 h9P h7 hB9
      generalize Dk.of Y.recv.las.flatten = X2 at *
      go_wp2_with fail
      refine g10.mono ?_
      rintro e w10 ⟨a2, rfl, h10⟩
      clear g10
      have h10B := h10.wider HF9.out.2.2
      obtain ⟨b10, fv10, wv10, hL10, _⟩ := h10.ex
      obtain ⟨x, y, hxy, hi1, hi2⟩ := HG.out.1.is HG.out.2.1 HF9.out.2.1 hL10 (HG.out.2.2.2.2.1.below h10B.bel) (HG.out.2.2.2.2.2.below h10B.bel) (T.out w10 h10B.bel).1 (T.out w10 h10B.bel).2
      have H10 : Aside (Lg B w10 a2 X2 []) := h10B
      have HI2 : Aside (∀ wx, Below w10.heap.size w10 wx → Calls Tryd.prog 52 #[.pointer (some ⟨a2, 0, none⟩), vn] wx fun e w' => e = .returned (.bool y) ∧ Below wx.heap.size wx w') := hi2
      have g11 := hi1 w10 (Below.refl _ _)
      clear h10 h10B hL10 hi1 hi2
      go_wp2_with fail
      refine g11.mono ?_
      rintro e w11 ⟨rfl, b11⟩
      have g12 := HI2.out w11 b11
      have H11 : Aside (Lg B w11 a2 X2 []) := H10.out.below b11
      clear g11 b11 H10 HI2
      go_wp2_with fail
      refine g12.mono ?_
      rintro e w12 ⟨rfl, b12⟩
      have H12 : Aside (Lg B w12 a2 X2 [] ∧ P X2 ∧ Fresh X2) := ⟨H11.out.below b12, HF9.out.2.1, HF9.out.1⟩
      clear g12 b12 H11 HF9
      cases x with
      | true =>
        go_wp2
        go_roundw
        case rel => exact ⟨i + 1, a2, X2, by omega, rfl, by go_num, H12⟩
        case measure => simp [intOf]; omega
      | false =>
        have hy : y = true := by simpa using hxy
        subst hy
        go_wp2
        go_roundw
        case rel => exact ⟨i + 1, a2, X2, by omega, rfl, by go_num, H12⟩
        case measure => simp [intOf]; omega
    · have hir' : ¬ (i : Int) < (rn : Int) := by omega
      obtain ⟨H, hH, hfit, _⟩ := HG.out.1.hold Xi HI.out.2.1
      have g1 := HI.out.1.recv hH hfit HG.out.2.2.1 HG.out.2.2.2.1
      clear hH hfit
      go_wp2_with fail
      refine g1.mono ?_
      rintro e w1 ⟨rfl, h1⟩
      clear g1
      have hZ := HG.out.1.fin Xi HI.out.2.1
      obtain ⟨b1, fv1, wv1, hL1, _⟩ := h1.ex
      have g2 := isPending_of (.inl rfl) (submit_nil hL1 hZ.nf.failed hZ.jn (by rw [hZ.ckN]; exact hZ.len))
      have H1 : Aside (Lg B w1 ai Xi.recv [] ∧ Holds Xi.recv Z) := ⟨h1, hZ⟩
      clear h1 hZ hL1
      go_wp2_with fail
      refine g2.mono ?_
      rintro e w2 ⟨rfl, b2⟩
      have H2 : Aside (Lg B w2 ai Xi.recv [] ∧ Holds Xi.recv Z) := ⟨H1.out.1.below b2, H1.out.2⟩
      clear g2 b2
      go_wp2
      go_ret2
      exact ⟨ai, _, rfl, H2.out⟩
end Go.Proofs.YtlhohmlpcgbliaaDoor
namespace Go.Proofs.YtlhohmlpcgbliaaDoor
set_option maxRecDepth 100000
open Go.RowKit
attribute [local go_sem ↓] Go.wp_at_zero Go.wp_at_succ

section
variable {w : World} {a b : Nat} {fv wv : Value} {D : Dk} {W : List ByteArray}
set_option maxHeartbeats 400000 in
theorem ck_down (h : LogAt w a b fv wv D W) (hf : D.failed = true) : Calls Tryd.prog 36 #[.pointer (some ⟨a, 0, none⟩)] w fun e w' => e = .returned (.tuple #[.int .i64 0, .string ⟨#[]⟩, .int .i64 3]) ∧ w' = w := by
  have hd := down_any h
  rw [hf] at hd
  clear hf
  go_enter Tryd.func36, Tryd.ntmps36
  go_wp2_with fail
  refine hd.mono ?_
  rintro e w1 ⟨rfl, rfl⟩
  go_wp2
  go_ret3
  exact ⟨rfl, rfl⟩
set_option maxHeartbeats 400000 in
theorem entry_down (h : LogAt w a b fv wv D W) (hf : D.failed = true) (i : Int) : Calls Tryd.prog 37 #[.pointer (some ⟨a, 0, none⟩), .int .i64 i] w fun e w' => e = .returned (.tuple #[.string ⟨#[]⟩, .int .i64 3]) ∧ w' = w := by
  have hd := ck_down h hf
  clear hf
  go_enter Tryd.func37, Tryd.ntmps37
  go_wp2_with fail
  refine hd.mono ?_
  rintro e w1 ⟨rfl, rfl⟩
  go_wp2
  go_ret2
  exact ⟨rfl, rfl⟩
set_option maxHeartbeats 400000 in
theorem inclusion_down (h : LogAt w a b fv wv D W) (hf : D.failed = true) (i n : Int) : Calls Tryd.prog 38 #[.pointer (some ⟨a, 0, none⟩), .int .i64 i, .int .i64 n] w fun e w' => e = .returned (.tuple #[.slice none 0 0, .int .i64 3]) ∧ w' = w := by
  have hd := ck_down h hf
  clear hf
  go_enter Tryd.func38, Tryd.ntmps38
  go_wp2_with fail
  refine hd.mono ?_
  rintro e w1 ⟨rfl, rfl⟩
  go_wp2
  go_ret2
  exact ⟨rfl, rfl⟩
set_option maxHeartbeats 400000 in
theorem consistency_down (h : LogAt w a b fv wv D W) (hf : D.failed = true) (i n : Int) : Calls Tryd.prog 39 #[.pointer (some ⟨a, 0, none⟩), .int .i64 i, .int .i64 n] w fun e w' => e = .returned (.tuple #[.slice none 0 0, .int .i64 3]) ∧ w' = w := by
  have hd := ck_down h hf
  clear hf
  go_enter Tryd.func39, Tryd.ntmps39
  go_wp2_with fail
  refine hd.mono ?_
  rintro e w1 ⟨rfl, rfl⟩
  go_wp2
  go_ret2
  exact ⟨rfl, rfl⟩
set_option maxHeartbeats 400000 in
theorem fail_down (h : LogAt w a b fv wv D W) (hf : D.failed = true) (i n : Int) : Calls Tryd.prog 50 #[.pointer (some ⟨a, 0, none⟩), .int .i64 i, .int .i64 n] w fun e w' => e = .returned (.int .i64 3) ∧ w' = w := by
  have hd := down_any h
  rw [hf] at hd
  clear hf
  go_enter Tryd.func50, Tryd.ntmps50
  go_wp2_with fail
  refine hd.mono ?_
  rintro e w1 ⟨rfl, rfl⟩
  go_wp2
  go_ret
  exact ⟨rfl, rfl⟩
set_option maxHeartbeats 400000 in
theorem recover_down (h : LogAt w a b fv wv D W) (hf : D.failed = true) : Calls Tryd.prog 57 #[.pointer (some ⟨a, 0, none⟩)] w fun e w' => e = .returned (.int .i64 3) ∧ w' = w := by
  have hd := down_any h
  rw [hf] at hd
  clear hf
  go_enter Tryd.func57, Tryd.ntmps57
  go_wp2_with fail
  refine hd.mono ?_
  rintro e w1 ⟨rfl, rfl⟩
  go_wp2
  go_ret
  exact ⟨rfl, rfl⟩
set_option maxHeartbeats 400000 in
theorem waiting_any (h : LogAt w a b fv wv D W) : Calls Tryd.prog 82 #[.pointer (some ⟨a, 0, none⟩)] w fun e w' => e = .returned (.int .i64 (W.length : Int)) ∧ w' = w := by
  have hd := none_any h
  have hc1 := h.blk.cell 1
  simp only [List.getElem?_cons_zero, List.getElem?_cons_succ] at hc1
  obtain ⟨p, cap, hwv⟩ := h.wv
  rw [hwv] at hc1
  clear hwv
  go_enter Tryd.func82, Tryd.ntmps82
  go_wp2_with fail
  refine hd.mono ?_
  rintro e w1 ⟨rfl, rfl⟩
  go_wp2
  go_ret
  exact ⟨rfl, rfl⟩

set_option maxHeartbeats 4000000 in
theorem down_true (h : LogAt w a b fv wv D W) (hf : D.failed = true) (n : Nat) (hn : W.length = n) : Calls Tryd.prog 53 #[.pointer (some ⟨a, 0, none⟩), .int .i64 (n : Int)] w fun e w' => e = .returned (.bool true) ∧ Below w.heap.size w w' := by
  have HL : Aside (∀ wx, Below w.heap.size w wx → LogAt wx a b fv wv D W) := fun wx hx => h.below hx
  have HF : Aside (D.failed = true) := hf
  have HN : Aside (W.length = n) := hn
  have g1 := logActs_any h
  have g2 := logBytes_any h
  clear h hf hn
  have HA : Aside (∀ wx, Below w.heap.size w wx → Calls Tryd.prog 45 #[.pointer (some ⟨a, 0, none⟩)] wx fun e w' => e = .returned (.int .i64 D.acts) ∧ w' = wx) := fun wx hx => logActs_any (HL.out wx hx)
  have HB : Aside (∀ wx, Below w.heap.size w wx → Calls Tryd.prog 44 #[.pointer (some ⟨a, 0, none⟩)] wx fun e w' => e = .returned (.string (strOf D.las.flatten)) ∧ Below wx.heap.size wx w') := fun wx hx => logBytes_any (HL.out wx hx)
  generalize D.acts = ac at *
  generalize strOf D.las.flatten = by' at *
  go_enter Tryd.func53, Tryd.ntmps53
  go_wp2_with fail
  refine g1.mono ?_
  rintro e w1 ⟨rfl, rfl⟩
  clear g1
  go_wp2_with fail
  refine g2.mono ?_
  rintro e w2 ⟨rfl, b2⟩
  clear g2
  have B2 : Aside (Below w1.heap.size w1 (w2.alloc (.cells #[.string ⟨#[120]⟩] 9))) := b2.alloc b2.size _
  clear b2
  go_wp2_with fail
  generalize w2.alloc (.cells #[.string ⟨#[120]⟩] 9) = w3 at *
  have hL3 := HL.out w3 B2.out
  have hR3 : Calls Tryd.prog 74 #[.pointer (some ⟨a, 0, none⟩)] w3 fun e w' => e = .returned (.int .i64 3) ∧ Below w3.heap.size w3 w' := (refused_down hL3 HF.out).mono (fun e w' ⟨h1, h2⟩ => ⟨h1, by rw [h2]; exact Below.refl _ _⟩)
  refine (submit_ref (.inl rfl) _ hR3).mono ?_
  rintro e w4 ⟨rfl, b4⟩
  have B4 : Aside (Below w1.heap.size w1 w4) := B2.out.trans (b4.mono B2.out.size)
  clear hL3 hR3 b4 B2
  have hL4 := HL.out w4 B4.out
  have hR4 : Calls Tryd.prog 74 #[.pointer (some ⟨a, 0, none⟩)] w4 fun e w' => e = .returned (.int .i64 3) ∧ Below w4.heap.size w4 w' := (refused_down hL4 HF.out).mono (fun e w' ⟨h1, h2⟩ => ⟨h1, by rw [h2]; exact Below.refl _ _⟩)
  have g4 := flush_ref (.inl rfl) hR4
  clear hL4 hR4
  go_wp2_with fail
  refine g4.mono ?_
  rintro e w5 ⟨rfl, b5⟩
  have B5 : Aside (Below w1.heap.size w1 w5) := B4.out.trans (b5.mono B4.out.size)
  clear g4 b5 B4
  have HL5 : Aside (LogAt w5 a b fv wv D W) := HL.out w5 B5.out
  have g6 := recover_down HL5.out HF.out
  go_wp2_with fail
  refine g6.mono ?_
  rintro e w6 ⟨rfl, rfl⟩
  clear g6
  have g6 := ck_down HL5.out HF.out
  go_wp2_with fail
  refine g6.mono ?_
  rintro e w7 ⟨rfl, rfl⟩
  clear g6
  have g6 := entry_down HL5.out HF.out 0
  go_wp2_with fail
  refine g6.mono ?_
  rintro e w8 ⟨rfl, rfl⟩
  clear g6
  have g6 := inclusion_down HL5.out HF.out 0 1
  go_wp2_with fail
  refine g6.mono ?_
  rintro e w9 ⟨rfl, rfl⟩
  clear g6
  have g6 := consistency_down HL5.out HF.out 1 1
  go_wp2_with fail
  refine g6.mono ?_
  rintro e w10 ⟨rfl, rfl⟩
  clear g6
  have g6 := fail_down HL5.out HF.out 5 5
  go_wp2_with fail
  refine g6.mono ?_
  rintro e w11 ⟨rfl, rfl⟩
  clear g6
  have g6 := waiting_any HL5.out
  rw [HN.out] at g6
  go_wp2_with fail
  refine g6.mono ?_
  rintro e w12 ⟨rfl, rfl⟩
  clear g6
  have g6 := HA.out w12 B5.out
  go_wp2_with fail
  refine g6.mono ?_
  rintro e w13 ⟨rfl, rfl⟩
  clear g6
  have g6 := HB.out w13 B5.out
  go_wp2_with fail
  refine g6.mono ?_
  rintro e w14 ⟨rfl, b14⟩
  have B14 : Aside (Below w1.heap.size w1 w14) := B5.out.trans (b14.mono B5.out.size)
  clear g6 b14
  go_wp2
  go_ret
  exact ⟨rfl, B14.out⟩
end
end Go.Proofs.YtlhohmlpcgbliaaDoor
namespace Go.Proofs.YtlhohmlpcgbliaaDoor
set_option maxRecDepth 100000
open Go.RowKit
attribute [local go_sem ↓] Go.wp_at_zero Go.wp_at_succ

def crQ (w0 : World) : Exit → Act → World → Prop := bodyPost Tryd.prog Tryd.f12 fun e w' => e = .returned (.bool true) ∧ Below w0.heap.size w0 w'
def sZ : ByteArray := ⟨#[122]⟩

set_option maxHeartbeats 4000000 in
theorem cr45_wp {c0 c1 c2 c3 c4 c5 c6 c7 c8 c9 c10 c11 c12 c13 c14 c15 c16 c17 c18 c19 c20 c21 c22 c23 c24 c25 c26 c28 c29 c30 c31 c32 c33 c34 c36 c37 c38 c39 c40 c41 c42 c43 c44 c45 c46 c47 c48 c49 c50 c51 c52 c53 c54 c55 c56 c57 c58 c59 c60 c61 c62 c63 c64 c65 c66 c67 c68 c69 c70 c71 c72 c73 c74 c75 c76 c77 c78 c79 c80 c81 c82 c83 c84 c85 c86 c87 c88 c89 c90 c91 c92 c93 c94 c95 c96 c97 c98 c99 c100 c101 c102 c103 c104 c105 c106 c107 c108 c109 c110 c111 c112 c113 c114 c115 c116 c117 c118 c119 c120 c121 c122 c123 c124 c125 c126 c127 c128 c129 c130 c131 c132 c133 c134 c135 c136 c137 c138 c139 c140 c141 c142 c143 c144 c145 c146 c147 c148 c149 c150 c151 c152 c153 c154 c155 c156 c157 c158 c159 c160 c161 c162 c163 c164 c165 c166 c167 c168 c169 c170 c171 c172 c173 c174 c175 c176 c177 c178 c179 c180 c181 c182 c183 c184 c185 c186 c187 c188 c189 c190 c191 c192 c193 c194 c195 c196 c197 c198 c199 c200 c201 c202 c203 c204 c205 c206 c207 c208 c209 c210 c211 c212 c213 c214 c215 c216 c217 c218 c219 c220 c221 c222 c223 c224 c225 c226 c227 c228 c229 c230 c231 c232 c233 c234 c235 c236 c237 c238 c239 c240 c241 c242 c243 c244 c245 c246 c247 c248 : Value} (a : Nat) (X : Dk) (Z : List ByteArray) (ve : Value) (wB B w : World) (h : Lg B w a X []) (hZ : Holds X Z) (hl : Z.length ≤ 63) (hS : LS B ve Z) (hB : Below wB.heap.size wB B) (ht : Table B) (hg : 2 < B.heap.size) :
    Code.wp Tryd.prog (sfxD Tryd.f12 45) (crQ wB) ⟨#[c0, c1, c2, c3, c4, c5, c6, c7, c8, c9, c10, c11, c12, c13, c14, c15, c16, c17, c18, c19, c20, c21, c22, c23, c24, c25, c26, .pointer (some ⟨a, 0, none⟩), c28, c29, c30, c31, c32, c33, c34, ve, c36, c37, c38, c39, c40, c41, c42, c43, c44, c45, c46, c47, c48, c49, c50, c51, c52, c53, c54, c55, c56, c57, c58, c59, c60, c61, c62, c63, c64, c65, c66, c67, c68, c69, c70, c71, c72, c73, c74, c75, c76, c77, c78, c79, c80, c81, c82, c83, c84, c85, c86, c87, c88, c89, c90, c91, c92, c93, c94, c95, c96, c97, c98, c99, c100, c101, c102, c103, c104, c105, c106, c107, c108, c109, c110, c111, c112, c113, c114, c115, c116, c117, c118, c119, c120, c121, c122, c123, c124, c125, c126, c127, c128, c129, c130, c131, c132, c133, c134, c135, c136, c137, c138, c139, c140, c141, c142, c143, c144, c145, c146, c147, c148, c149, c150, c151, c152, c153, c154, c155, c156, c157, c158, c159, c160, c161, c162, c163, c164, c165, c166, c167, c168, c169, c170, c171, c172, c173, c174, c175, c176, c177, c178, c179, c180, c181, c182, c183, c184, c185, c186, c187, c188, c189, c190, c191, c192, c193, c194, c195, c196, c197, c198, c199, c200, c201, c202, c203, c204, c205, c206, c207, c208, c209, c210, c211, c212, c213, c214, c215, c216, c217, c218, c219, c220, c221, c222, c223, c224, c225, c226, c227, c228, c229, c230, c231, c232, c233, c234, c235, c236, c237, c238, c239, c240, c241, c242, c243, c244, c245, c246, c247, c248], []⟩ w := by
  conv => arg 2; whnf
  generalize hQ : crQ wB = Q
  have HQ : Aside (crQ wB = Q) := hQ
  clear hQ
  have T : Aside (∀ wx, Below B.heap.size B wx → Table wx ∧ 2 < wx.heap.size) := fun wx hx => ⟨table_at hx hg ht, Nat.lt_of_lt_of_le hg hx.size⟩
  have HG : Aside (Table B ∧ 2 < B.heap.size ∧ LS B ve Z ∧ Below wB.heap.size wB B ∧ Holds X Z ∧ Z.length ≤ 63) := ⟨ht, hg, hS, hB, hZ, hl⟩
  obtain ⟨b, fv, wv, hL, _⟩ := h.ex
  have g1 := is_true hL hZ.one ve (hS.below h.bel) (T.out w h.bel).1 (T.out w h.bel).2
  have HL : Aside (Lg B w a X []) := h
  have z1 : sZ.size ≤ 40 := by decide
  have hA := add_spec hZ (W := [sZ]) (by simp) (fun s hs => by rw [List.mem_singleton.1 hs]; exact z1) (by simp; omega)
  have HA : Aside (Holds (X.add [sZ]) (Z ++ [sZ])) := hA
  clear hA hL h hZ hl hB ht hg
  go_wp2_with fail
  refine g1.mono ?_
  rintro e w1 ⟨rfl, b1⟩
  clear g1
  have h1 := HL.out.below b1
  have g2 := h1.submit HG.out.2.2.2.2.1.nf.failed HG.out.2.2.2.2.1.jn sZ z1 (by rw [HG.out.2.2.2.2.1.ckN]; have := HG.out.2.2.2.2.2; omega)
  unfold sZ at g2
  clear b1 h1
  go_wp2_with fail
  refine g2.mono ?_
  rintro e w2 ⟨rfl, h2⟩
  clear g2
  have g3 := h2.flush HG.out.2.2.2.2.1.nf.failed HG.out.2.2.2.2.1.jn (fun s hs => by rw [List.mem_singleton.1 hs]; exact z1) (by rw [HG.out.2.2.2.2.1.ckN]; have := HG.out.2.2.2.2.2; simp; omega) HG.out.2.2.2.2.1.fre (by simp) HA.out.nf.failed HG.out.1 HG.out.2.1
  have HA2 : Aside (Holds (X.add [⟨#[122]⟩]) (Z ++ [⟨#[122]⟩])) := HA
  clear h2 HA
  generalize ((X.add [⟨#[122]⟩]).ckN : Int) = q1 at *
  generalize X.add [⟨#[122]⟩] = X2 at *
  go_wp2_with fail
  refine g3.mono ?_
  rintro e w3 ⟨rfl, h3⟩
  clear g3
  have hb0 : Below w3.heap.size w3 (w3.alloc (.cells #[] 9)) := (Below.refl _ _).alloc (Nat.le_refl _) _
  have hr0 : Row (w3.alloc (.cells #[] 9)) w3.heap.size 9 (.slice (some ⟨w3.heap.size, 0, none⟩) 0 0) (strv []) := Row.lit w3 w3.heap.size 9 [] (Nat.le_refl _) (by unfold maxLen; simp)
  have hLS := (HG.out.2.2.1.below h3.bel).below hb0
  have H3 : Aside (Lg B w3 a X2 [] ∧ Below w3.heap.size w3 (w3.alloc (.cells #[] 9)) ∧ Row (w3.alloc (.cells #[] 9)) w3.heap.size 9 (.slice (some ⟨w3.heap.size, 0, none⟩) 0 0) (strv []) ∧ LS (w3.alloc (.cells #[] 9)) ve Z) := ⟨h3, hb0, hr0, hLS⟩
  go_wp2_with (at_builtin; refine wpList_appLS (by rfl) (.tmp 231) (.tmp 232) (by rfl) w3.heap.size _ ve [] Z (by rfl) hr0 (by rfl) hLS ?hl ?hb (w0 := w3) (B := w3.heap.size) hb0 (Nat.le_refl _) ?_)
  case hl => have := HG.out.2.2.2.2.2; simp; omega
  case hb => exact hb0.size
  intro v4 w4 hr4 hb4
  have hr4' : Row w4 w3.heap.size 9 v4 (strv Z) := hr4
  clear h3 hb0 hr0 hLS hr4
  have hB5 : Blk (w4.alloc (.cells #[.string ⟨#[122]⟩] 9)) w4.heap.size 9 [.string ⟨#[122]⟩] := Blk.new w4 9 [.string ⟨#[122]⟩]
  have hLS : LS (w4.alloc (.cells #[.string ⟨#[122]⟩] 9)) (.slice (some ⟨w4.heap.size, 0, none⟩) 1 1) [⟨#[122]⟩] := .inr ⟨w4.heap.size, 0, 1, rfl, SA.of_blk (ss := [⟨#[122]⟩]) hB5, hB5.lt, by simp⟩
  have hb5 : Below w3.heap.size w3 (w4.alloc (.cells #[.string ⟨#[122]⟩] 9)) := hb4.alloc hb4.size _
  have hr5 := hr4'.alloc (.cells #[.string ⟨#[122]⟩] 9)
  go_wp2_with (at_builtin; refine wpList_appLS (by rfl) (.tmp 233) (.tmp 234) (by rfl) w3.heap.size _ _ Z [⟨#[122]⟩] (by rfl) hr5 (by rfl) hLS ?hl2 ?hb2 (w0 := w3) (B := w3.heap.size) hb5 (Nat.le_refl _) ?_)
  case hl2 => have := HG.out.2.2.2.2.2; simp; omega
  case hb2 => exact hb5.size
  intro v6 w6 hr6 hb6
  clear hr4' hB5 hLS hb5 hr5 hb4
  have h6 := H3.out.1.below hb6
  obtain ⟨b6, fv6, wv6, hL6, _⟩ := h6.ex
  have g7 := is_true hL6 HA2.out.one v6 (LS.of_row hr6) (T.out w6 h6.bel).1 (T.out w6 h6.bel).2
  have B6 : Aside (Below B.heap.size B w6) := h6.bel
  clear h6 hL6 hr6 hb6 H3
  go_wp2_with fail
  refine g7.mono ?_
  rintro e w7 ⟨rfl, b7⟩
  have B7 : Aside (Below wB.heap.size wB w7) := HG.out.2.2.2.1.trans ((B6.out.trans (b7.mono B6.out.size)).mono HG.out.2.2.2.1.size)
  clear g7 b7
  go_wp2
  rw [← HQ.out]
  unfold crQ
  go_ret
  exact ⟨rfl, B7.out⟩
end Go.Proofs.YtlhohmlpcgbliaaDoor
namespace Go.Proofs.YtlhohmlpcgbliaaDoor
set_option maxRecDepth 100000
open Go.RowKit
attribute [local go_sem ↓] Go.wp_at_zero Go.wp_at_succ

set_option maxHeartbeats 8000000 in
theorem cr33_wp {c0 c1 c2 c3 c5 c6 c7 c8 c9 c10 c12 c13 c15 c16 c17 c18 c19 c20 c21 c22 c23 c25 c26 c28 c29 c30 c31 c32 c33 c34 c35 c36 c37 c38 c39 c40 c41 c42 c43 c44 c45 c46 c47 c48 c49 c50 c51 c52 c53 c54 c55 c56 c57 c58 c59 c60 c61 c62 c63 c64 c65 c66 c67 c68 c69 c70 c71 c72 c73 c74 c75 c76 c77 c78 c79 c80 c81 c82 c83 c84 c85 c86 c87 c88 c89 c90 c91 c92 c93 c94 c95 c96 c97 c98 c99 c100 c101 c102 c103 c104 c105 c106 c107 c108 c109 c110 c111 c112 c113 c114 c115 c116 c117 c118 c119 c120 c121 c122 c123 c124 c125 c126 c127 c128 c129 c130 c131 c132 c133 c134 c135 c136 c137 c138 c139 c140 c141 c142 c143 c144 c145 c146 c147 c148 c149 c150 c151 c152 c153 c154 c155 c156 c157 c158 c159 c160 c161 c162 c163 c164 c165 c166 c167 c168 c169 c170 c171 c172 c173 c174 c175 c176 c177 c178 c179 c180 c181 c182 c183 c184 c185 c186 c187 c188 c189 c190 c191 c192 c193 c194 c195 c196 c197 c198 c199 c200 c201 c202 c203 c204 c205 c206 c207 c208 c209 c210 c211 c212 c213 c214 c215 c216 c217 c218 c219 c220 c221 c222 c223 c224 c225 c226 c227 c228 c229 c230 c231 c232 c233 c234 c235 c236 c237 c238 c239 c240 c241 c242 c243 c244 c245 c246 c247 c248 : Value} (a : Nat) (X : Dk) {E W Z : List ByteArray} {P : Dk → Prop} (vo vn vf ve : Value) (er fl : Int) (x y p : Bool) (wB B w : World) (hp : RecP P E W Z) (h0 : 0 < W.length) (hl : Z.length ≤ 63) (hP : P X) (hF : Fresh X) (ho : LS B vo E) (hn : LS B vn (E ++ W)) (hve : LS B ve Z) (hR : RawF B vf)
    (hw : ∀ wx, Below w.heap.size w wx → Calls Tryd.prog 52 #[.pointer (some ⟨a, 0, none⟩), vo] wx fun e w' => e = .returned (.bool x) ∧ Below wx.heap.size wx w')
    (hd : ∀ wx, Below w.heap.size w wx → Calls Tryd.prog 52 #[.pointer (some ⟨a, 0, none⟩), vn] wx fun e w' => e = .returned (.bool y) ∧ Below wx.heap.size wx w')
    (hpe : ∀ wx, Below w.heap.size w wx → Calls Tryd.prog 54 #[.pointer (some ⟨a, 0, none⟩)] wx fun e w' => e = .returned (.tuple #[.bool p, .bool true]) ∧ Below wx.heap.size wx w')
    (hfl : ∀ wx, Below w.heap.size w wx → Calls Tryd.prog 42 #[.pointer (some ⟨a, 0, none⟩)] wx fun e w' => ∃ q, e = .returned (.tuple #[.int .i64 q, .int .i64 fl]) ∧ Lg B w' a X [])
    (hc : (x = true ∧ y = false ∧ p = false ∧ fl = 0 ∧ er = 3 ∧ ve = vo) ∨ (x = true ∧ y = false ∧ p = true ∧ fl = 4 ∧ er = 3 ∧ ve = vn) ∨ (x = false ∧ y = true ∧ p = true ∧ fl = 4 ∧ er = 3 ∧ ve = vn) ∨ (x = false ∧ y = true ∧ p = false ∧ fl = 0 ∧ er = 3 ∧ ve = vn) ∨ (x = false ∧ y = true ∧ p = false ∧ fl = 0 ∧ er = 0 ∧ ve = vn))
    (hB : Below wB.heap.size wB B) (ht : Table B) (hg : 2 < B.heap.size) :
    Code.wp Tryd.prog (sfxD Tryd.f12 33) (crQ wB) ⟨#[c0, c1, c2, c3, vf, c5, c6, c7, c8, c9, c10, vo, c12, c13, vn, c15, c16, c17, c18, c19, c20, c21, c22, c23, .int .i64 er, c25, c26, .pointer (some ⟨a, 0, none⟩), c28, c29, c30, c31, c32, c33, c34, c35, c36, c37, c38, c39, c40, c41, c42, c43, c44, c45, c46, c47, c48, c49, c50, c51, c52, c53, c54, c55, c56, c57, c58, c59, c60, c61, c62, c63, c64, c65, c66, c67, c68, c69, c70, c71, c72, c73, c74, c75, c76, c77, c78, c79, c80, c81, c82, c83, c84, c85, c86, c87, c88, c89, c90, c91, c92, c93, c94, c95, c96, c97, c98, c99, c100, c101, c102, c103, c104, c105, c106, c107, c108, c109, c110, c111, c112, c113, c114, c115, c116, c117, c118, c119, c120, c121, c122, c123, c124, c125, c126, c127, c128, c129, c130, c131, c132, c133, c134, c135, c136, c137, c138, c139, c140, c141, c142, c143, c144, c145, c146, c147, c148, c149, c150, c151, c152, c153, c154, c155, c156, c157, c158, c159, c160, c161, c162, c163, c164, c165, c166, c167, c168, c169, c170, c171, c172, c173, c174, c175, c176, c177, c178, c179, c180, c181, c182, c183, c184, c185, c186, c187, c188, c189, c190, c191, c192, c193, c194, c195, c196, c197, c198, c199, c200, c201, c202, c203, c204, c205, c206, c207, c208, c209, c210, c211, c212, c213, c214, c215, c216, c217, c218, c219, c220, c221, c222, c223, c224, c225, c226, c227, c228, c229, c230, c231, c232, c233, c234, c235, c236, c237, c238, c239, c240, c241, c242, c243, c244, c245, c246, c247, c248], []⟩ w := by
  conv => arg 2; whnf
  generalize hQ : crQ wB = Q
  have HQ : Aside (crQ wB = Q) := hQ
  clear hQ
  have HG : Aside (RecP P E W Z ∧ 0 < W.length ∧ Z.length ≤ 63 ∧ P X ∧ Fresh X ∧ LS B vo E ∧ LS B vn (E ++ W) ∧ LS B ve Z ∧ RawF B vf ∧ Below wB.heap.size wB B ∧ Table B ∧ 2 < B.heap.size) := ⟨hp, h0, hl, hP, hF, ho, hn, hve, hR, hB, ht, hg⟩
  have HD : Aside (∀ wx, Below w.heap.size w wx → Calls Tryd.prog 52 #[.pointer (some ⟨a, 0, none⟩), vn] wx fun e w' => e = .returned (.bool y) ∧ Below wx.heap.size wx w') := hd
  have HP : Aside (∀ wx, Below w.heap.size w wx → Calls Tryd.prog 54 #[.pointer (some ⟨a, 0, none⟩)] wx fun e w' => e = .returned (.tuple #[.bool p, .bool true]) ∧ Below wx.heap.size wx w') := hpe
  have HF : Aside (∀ wx, Below w.heap.size w wx → Calls Tryd.prog 42 #[.pointer (some ⟨a, 0, none⟩)] wx fun e w' => ∃ q, e = .returned (.tuple #[.int .i64 q, .int .i64 fl]) ∧ Lg B w' a X []) := hfl
  have HC : Aside ((x = true ∧ y = false ∧ p = false ∧ fl = 0 ∧ er = 3 ∧ ve = vo) ∨ (x = true ∧ y = false ∧ p = true ∧ fl = 4 ∧ er = 3 ∧ ve = vn) ∨ (x = false ∧ y = true ∧ p = true ∧ fl = 4 ∧ er = 3 ∧ ve = vn) ∨ (x = false ∧ y = true ∧ p = false ∧ fl = 0 ∧ er = 3 ∧ ve = vn) ∨ (x = false ∧ y = true ∧ p = false ∧ fl = 0 ∧ er = 0 ∧ ve = vn)) := hc
  have g1 := hw w (Below.refl _ _)
  clear hp h0 hl hP hF ho hn hve hR hw hd hpe hfl hc hB ht hg
  go_wp2_with fail
  refine g1.mono ?_
  rintro e w1 ⟨rfl, b1⟩
  have B1 : Aside (Below w.heap.size w w1) := b1
  have g2 := HD.out w1 b1
  clear g1 b1 HD
  go_wp2_with fail
  refine g2.mono ?_
  rintro e w2 ⟨rfl, b2⟩
  have B2 : Aside (Below w.heap.size w w2) := B1.out.trans (b2.mono B1.out.size)
  have g3 := HP.out w2 B2.out
  clear g2 b2 HP B1
  go_wp2_with fail
  refine g3.mono ?_
  rintro e w3 ⟨rfl, b3⟩
  have B3 : Aside (Below w.heap.size w w3) := B2.out.trans (b3.mono B2.out.size)
  have g4 := HF.out w3 B3.out
  clear g3 b3 HF B2
  go_wp2_with fail
  rename_i K hK K1 hK1
  have HK : Aside (∀ a w, _ → K a w) := hK
  clear hK
  refine g4.mono ?_
  rintro e w4 ⟨q, rfl, h4⟩
  have g5 := recovered_any HG.out.1 HG.out.2.1 h4 HG.out.2.2.2.1 HG.out.2.2.2.2.1 vo vn vf HG.out.2.2.2.2.2.1 HG.out.2.2.2.2.2.2.1 HG.out.2.2.2.2.2.2.2.2.1 HG.out.2.2.2.2.2.2.2.2.2.2.1 HG.out.2.2.2.2.2.2.2.2.2.2.2
  clear g4 h4
  go_wp2
  refine HK.out _ _ ?_
  clear HK
  rcases HC.out with ⟨rfl, rfl, rfl, rfl, rfl, rfl⟩ | ⟨rfl, rfl, rfl, rfl, rfl, rfl⟩ | ⟨rfl, rfl, rfl, rfl, rfl, rfl⟩ | ⟨rfl, rfl, rfl, rfl, rfl, rfl⟩ | ⟨rfl, rfl, rfl, rfl, rfl, rfl⟩
  all_goals
    clear HC
    refine wp_seq_k ?_
    intro K4 hK4
    have HK4 : Aside (∀ a w, _ → K4 a w) := hK4
    clear hK4
    go_wp2
    refine HK4.out _ _ ?_
    clear HK4
    go_wp2_with fail
    rename_i K hK K1 hK1
    have HK : Aside (∀ a w, _ → K a w) := hK
    clear hK
    refine g5.mono ?_
    rintro e w5 ⟨a5, X5, rfl, h5, hZ5⟩
    have H5 : Aside (Lg B w5 a5 X5 [] ∧ Holds X5 Z) := ⟨h5, hZ5⟩
    clear g5 h5 hZ5
    go_wp2
    refine HK.out _ _ ?_
    clear HK
    refine wp_seq_k ?_
    intro K4 hK4
    have HK4 : Aside (∀ a w, _ → K4 a w) := hK4
    clear hK4
    go_wp2
    refine HK4.out _ _ ?_
    clear HK4
    refine wp_seq_k ?_
    intro K4 hK4
    have HK4 : Aside (∀ a w, _ → K4 a w) := hK4
    clear hK4
    go_wp2
    refine HK4.out _ _ ?_
    clear HK4
    refine wp_seq_k ?_
    intro K4 hK4
    have HK4 : Aside (∀ a w, _ → K4 a w) := hK4
    clear hK4
    go_wp2
    refine HK4.out _ _ ?_
    clear HK4
    rw [← HQ.out]
    exact cr45_wp a5 X5 Z _ wB B w5 H5.out.1 H5.out.2 HG.out.2.2.1 HG.out.2.2.2.2.2.2.2.1 HG.out.2.2.2.2.2.2.2.2.2.1 HG.out.2.2.2.2.2.2.2.2.2.2.1 HG.out.2.2.2.2.2.2.2.2.2.2.2
end Go.Proofs.YtlhohmlpcgbliaaDoor
namespace Go.Proofs.YtlhohmlpcgbliaaDoor
set_option maxRecDepth 100000
open Go.RowKit
attribute [local go_sem ↓] Go.wp_at_zero Go.wp_at_succ

/-- A Flush of nothing. -/
theorem Lg.flush0 {B w : World} {a : Nat} {D : Dk} {E : List ByteArray} (h : Lg B w a D []) (hH : Holds D E) (ht : Table B) (hg : 2 < B.heap.size) :
    Calls Tryd.prog 42 #[.pointer (some ⟨a, 0, none⟩)] w fun e w' => ∃ q, e = .returned (.tuple #[.int .i64 q, .int .i64 0]) ∧ Lg B w' a D [] := by
  obtain ⟨b, fv, wv, hL, ho⟩ := h.ex
  have hfd : D.flushed [] = D := if_pos rfl
  have hs := logFlush_any hL hH.nf.failed hH.jn (fun s hs => by simp at hs) (by rw [hH.ckN]; have := hH.len; simp; omega) (by rw [hH.fre]; simp) (env_of ht hg h.bel (ho _ (.inr (.inl rfl))) (fun j hj => ho j (.inr (.inr (.inl hj))))) (by rw [hfd]; exact hH.nf.failed)
  rw [hfd] at hs
  refine hs.mono ?_
  rintro e w' ⟨rfl, fv', hL', hR'⟩
  obtain ⟨hb4, hf4, _⟩ := FrL.below h.bel hR' (ho _ (.inl rfl)) (ho _ (.inr (.inl rfl))) (fun j hj => ho j (.inr (.inr (.inl hj)))) (fun j hj => ho j (.inr (.inr (.inr hj))))
  refine ⟨_, rfl, hb4, b, fv', _, hL', ?_⟩
  intro j hj
  rcases hj with e | e | e | e
  · rw [e]; exact ho _ (.inl rfl)
  · rw [e]; exact ho _ (.inr (.inl rfl))
  · exact hf4 j e
  · cases e
theorem Lg.pendNo {B w : World} {a : Nat} {D : Dk} {E : List ByteArray} (h : Lg B w a D []) (hH : Holds D E) : ∀ wx, Below w.heap.size w wx → Calls Tryd.prog 54 #[.pointer (some ⟨a, 0, none⟩)] wx fun e w' => e = .returned (.tuple #[.bool false, .bool true]) ∧ Below wx.heap.size wx w' := by
  intro wx hx
  obtain ⟨b, fv, wv, hL, _⟩ := h.ex
  have h1 := isPending_of (.inl rfl) (submit_nil (hL.below hx) hH.nf.failed hH.jn (by rw [hH.ckN]; exact hH.len))
  rw [show decide ((0 : Int) = 4) = false by decide] at h1
  exact h1
theorem Lg.pendYes {B w : World} {a : Nat} {D : Dk} {H E W : List ByteArray} (h : Lg B w a D []) (hH : Pend D H E W) : ∀ wx, Below w.heap.size w wx → Calls Tryd.prog 54 #[.pointer (some ⟨a, 0, none⟩)] wx fun e w' => e = .returned (.tuple #[.bool true, .bool true]) ∧ Below wx.heap.size wx w' := by
  intro wx hx
  obtain ⟨b, fv, wv, hL, _⟩ := h.ex
  have h1 := isPending_of (.inr rfl) (submit_ref (.inr rfl) (.slice none 0 0) (refused_pend (hL.below hx) hH.hold.nf.failed hH.num.1))
  rw [show decide ((4 : Int) = 4) = true by decide] at h1
  exact h1
theorem Lg.flushNot {B w : World} {a : Nat} {D : Dk} {H E W : List ByteArray} (h : Lg B w a D []) (hH : Pend D H E W) : ∀ wx, Below w.heap.size w wx → Calls Tryd.prog 42 #[.pointer (some ⟨a, 0, none⟩)] wx fun e w' => ∃ q, e = .returned (.tuple #[.int .i64 q, .int .i64 4]) ∧ Lg B w' a D [] := by
  intro wx hx
  obtain ⟨b, fv, wv, hL, _⟩ := h.ex
  refine (flush_ref (.inr rfl) (refused_pend (hL.below hx) hH.hold.nf.failed hH.num.1)).mono ?_
  rintro e w' ⟨rfl, hb⟩
  exact ⟨0, rfl, (h.below hx).below hb⟩

theorem cr33_of {c0 c1 c2 c3 c5 c6 c7 c8 c9 c10 c12 c13 c15 c16 c17 c18 c19 c20 c21 c22 c23 c25 c26 c28 c29 c30 c31 c32 c33 c34 c35 c36 c37 c38 c39 c40 c41 c42 c43 c44 c45 c46 c47 c48 c49 c50 c51 c52 c53 c54 c55 c56 c57 c58 c59 c60 c61 c62 c63 c64 c65 c66 c67 c68 c69 c70 c71 c72 c73 c74 c75 c76 c77 c78 c79 c80 c81 c82 c83 c84 c85 c86 c87 c88 c89 c90 c91 c92 c93 c94 c95 c96 c97 c98 c99 c100 c101 c102 c103 c104 c105 c106 c107 c108 c109 c110 c111 c112 c113 c114 c115 c116 c117 c118 c119 c120 c121 c122 c123 c124 c125 c126 c127 c128 c129 c130 c131 c132 c133 c134 c135 c136 c137 c138 c139 c140 c141 c142 c143 c144 c145 c146 c147 c148 c149 c150 c151 c152 c153 c154 c155 c156 c157 c158 c159 c160 c161 c162 c163 c164 c165 c166 c167 c168 c169 c170 c171 c172 c173 c174 c175 c176 c177 c178 c179 c180 c181 c182 c183 c184 c185 c186 c187 c188 c189 c190 c191 c192 c193 c194 c195 c196 c197 c198 c199 c200 c201 c202 c203 c204 c205 c206 c207 c208 c209 c210 c211 c212 c213 c214 c215 c216 c217 c218 c219 c220 c221 c222 c223 c224 c225 c226 c227 c228 c229 c230 c231 c232 c233 c234 c235 c236 c237 c238 c239 c240 c241 c242 c243 c244 c245 c246 c247 c248 : Value} (a : Nat) (X : Dk) {E W : List ByteArray} (vo vn vf : Value) (er : Int) (wB B w : World) (hX : Holds X E ∨ Cr2 E W X) (her : er = 3 ∨ (er = 0 ∧ Holds X (E ++ W))) (h0 : 0 < W.length) (hW : W.length ≤ 11) (hE : E.length ≤ 52) (hz : ∀ s ∈ W, s.size ≤ 40) (h : Lg B w a X []) (hF : Fresh X) (ho : LS B vo E) (hn : LS B vn (E ++ W)) (hR : RawF B vf)
    (hB : Below wB.heap.size wB B) (ht : Table B) (hg : 2 < B.heap.size) :
    Code.wp Tryd.prog (sfxD Tryd.f12 33) (crQ wB) ⟨#[c0, c1, c2, c3, vf, c5, c6, c7, c8, c9, c10, vo, c12, c13, vn, c15, c16, c17, c18, c19, c20, c21, c22, c23, .int .i64 er, c25, c26, .pointer (some ⟨a, 0, none⟩), c28, c29, c30, c31, c32, c33, c34, c35, c36, c37, c38, c39, c40, c41, c42, c43, c44, c45, c46, c47, c48, c49, c50, c51, c52, c53, c54, c55, c56, c57, c58, c59, c60, c61, c62, c63, c64, c65, c66, c67, c68, c69, c70, c71, c72, c73, c74, c75, c76, c77, c78, c79, c80, c81, c82, c83, c84, c85, c86, c87, c88, c89, c90, c91, c92, c93, c94, c95, c96, c97, c98, c99, c100, c101, c102, c103, c104, c105, c106, c107, c108, c109, c110, c111, c112, c113, c114, c115, c116, c117, c118, c119, c120, c121, c122, c123, c124, c125, c126, c127, c128, c129, c130, c131, c132, c133, c134, c135, c136, c137, c138, c139, c140, c141, c142, c143, c144, c145, c146, c147, c148, c149, c150, c151, c152, c153, c154, c155, c156, c157, c158, c159, c160, c161, c162, c163, c164, c165, c166, c167, c168, c169, c170, c171, c172, c173, c174, c175, c176, c177, c178, c179, c180, c181, c182, c183, c184, c185, c186, c187, c188, c189, c190, c191, c192, c193, c194, c195, c196, c197, c198, c199, c200, c201, c202, c203, c204, c205, c206, c207, c208, c209, c210, c211, c212, c213, c214, c215, c216, c217, c218, c219, c220, c221, c222, c223, c224, c225, c226, c227, c228, c229, c230, c231, c232, c233, c234, c235, c236, c237, c238, c239, c240, c241, c242, c243, c244, c245, c246, c247, c248], []⟩ w := by
  have T : ∀ wx, Below w.heap.size w wx → Table wx ∧ 2 < wx.heap.size := fun wx hx => by
    have h1 := h.bel.trans (hx.mono h.bel.size)
    exact ⟨table_at h1 hg ht, Nat.lt_of_lt_of_le hg h1.size⟩
  have LO : ∀ wx, Below w.heap.size w wx → LS wx vo E := fun wx hx => (ho.below h.bel).below hx
  have LN : ∀ wx, Below w.heap.size w wx → LS wx vn (E ++ W) := fun wx hx => (hn.below h.bel).below hx
  have hlen : (E ++ W).length = E.length + W.length := List.length_append
  obtain ⟨b, fv, wv, hL, _⟩ := h.ex
  have i1 : ∀ H, Hold1 X H → H = E → (∀ wx, Below w.heap.size w wx → Calls Tryd.prog 52 #[.pointer (some ⟨a, 0, none⟩), vo] wx fun e w' => e = .returned (.bool true) ∧ Below wx.heap.size wx w') ∧ (∀ wx, Below w.heap.size w wx → Calls Tryd.prog 52 #[.pointer (some ⟨a, 0, none⟩), vn] wx fun e w' => e = .returned (.bool false) ∧ Below wx.heap.size wx w') := by
    intro H hH e
    rw [e] at hH
    exact ⟨fun wx hx => is_true (hL.below hx) hH vo (LO wx hx) (T wx hx).1 (T wx hx).2, fun wx hx => is_false (hL.below hx) hH vn _ (LN wx hx) (by omega)⟩
  have i2 : ∀ H, Hold1 X H → H = E ++ W → (∀ wx, Below w.heap.size w wx → Calls Tryd.prog 52 #[.pointer (some ⟨a, 0, none⟩), vo] wx fun e w' => e = .returned (.bool false) ∧ Below wx.heap.size wx w') ∧ (∀ wx, Below w.heap.size w wx → Calls Tryd.prog 52 #[.pointer (some ⟨a, 0, none⟩), vn] wx fun e w' => e = .returned (.bool true) ∧ Below wx.heap.size wx w') := by
    intro H hH e
    rw [e] at hH
    exact ⟨fun wx hx => is_false (hL.below hx) hH vo _ (LO wx hx) (by omega), fun wx hx => is_true (hL.below hx) hH vn (LN wx hx) (T wx hx).1 (T wx hx).2⟩
  have hnot : ∀ H, X.ckN = H → H = E.length → er = 3 := fun H h1 h2 => by
    rcases her with h3 | ⟨_, h4⟩
    · exact h3
    · rw [h4.ckN] at h1; omega
  have hpend : ∀ H, Pend X H E W → er = 3 := fun H hp => by
    rcases her with h3 | ⟨_, h4⟩
    · exact h3
    · exact absurd h4.jn hp.num.1
  rcases hX with hX | hX | hX | hX
  · have hi := i1 E hX.one rfl
    exact cr33_wp a X vo vn vf vo er 0 true false false wB B w (recP_old E W) h0 (by omega) hX hF ho hn ho hR hi.1 hi.2 (h.pendNo hX) (fun wx hx => (h.below hx).flush0 hX ht hg) (.inl ⟨rfl, rfl, rfl, rfl, hnot _ rfl hX.ckN, rfl⟩) hB ht hg
  · have hi := i1 E hX.hold rfl
    exact cr33_wp a X vo vn vf vn er 4 true false true wB B w (recP_new h0 (by omega) hz (by omega)) h0 (by omega) (.inl hX) hF ho hn hn hR hi.1 hi.2 (h.pendYes hX) (h.flushNot hX) (.inr (.inl ⟨rfl, rfl, rfl, rfl, hpend _ hX, rfl⟩)) hB ht hg
  · have hi := i2 (E ++ W) hX.hold rfl
    exact cr33_wp a X vo vn vf vn er 4 false true true wB B w (recP_new h0 (by omega) hz (by omega)) h0 (by omega) (.inr (.inl hX)) hF ho hn hn hR hi.1 hi.2 (h.pendYes hX) (h.flushNot hX) (.inr (.inr (.inl ⟨rfl, rfl, rfl, rfl, hpend _ hX, rfl⟩))) hB ht hg
  · have hi := i2 (E ++ W) hX.one rfl
    refine cr33_wp a X vo vn vf vn er 0 false true false wB B w (recP_new h0 (by omega) hz (by omega)) h0 (by omega) (.inr (.inr hX)) hF ho hn hn hR hi.1 hi.2 (h.pendNo hX) (fun wx hx => (h.below hx).flush0 hX ht hg) ?_ hB ht hg
    rcases her with h3 | ⟨h3, _⟩
    · exact .inr (.inr (.inr (.inl ⟨rfl, rfl, rfl, rfl, h3, rfl⟩)))
    · exact .inr (.inr (.inr (.inr ⟨rfl, rfl, rfl, rfl, h3, rfl⟩)))
end Go.Proofs.YtlhohmlpcgbliaaDoor
namespace Go.Proofs.YtlhohmlpcgbliaaDoor
set_option maxRecDepth 100000
open Go.RowKit
attribute [local go_sem ↓] Go.wp_at_zero Go.wp_at_succ

/-- A log, and all that stood beside it (but O) in w1 stands as it was. -/
structure LgK (B w1 : World) (O : Nat → Prop) (w : World) (a : Nat) (D : Dk) (W : List ByteArray) : Prop where
  bel : Below B.heap.size B w
  siz : w1.heap.size ≤ w.heap.size
  oth : ∀ j, j < w1.heap.size → ¬ O j → w.heap[j]? = w1.heap[j]?
  ex : ∃ (b : Nat) (fv wv : Value), LogAt w a b fv wv D W ∧ (∀ j, Own a b fv.ownBlock wv.ownBlock j → B.heap.size ≤ j) ∧ ∀ j, Own a b fv.ownBlock wv.ownBlock j → O j ∨ w1.heap.size ≤ j
theorem LgK.step {B w1 : World} {O : Nat → Prop} {w : World} {a b : Nat} {fv wv fv' wv' : Value} {D' : Dk} {W' : List ByteArray} (hbel : Below B.heap.size B w) (hsiz : w1.heap.size ≤ w.heap.size) (hoth : ∀ j, j < w1.heap.size → ¬ O j → w.heap[j]? = w1.heap[j]?) (ho : ∀ j, Own a b fv.ownBlock wv.ownBlock j → B.heap.size ≤ j) (hO : ∀ j, Own a b fv.ownBlock wv.ownBlock j → O j ∨ w1.heap.size ≤ j) {w' : World} (hL : LogAt w' a b fv' wv' D' W') (r : FrL a b fv.ownBlock wv.ownBlock fv'.ownBlock wv'.ownBlock w w') : LgK B w1 O w' a D' W' := by
  obtain ⟨hb4, hf4, hw4⟩ := FrL.below hbel r (ho _ (.inl rfl)) (ho _ (.inr (.inl rfl))) (fun j hj => ho j (.inr (.inr (.inl hj)))) (fun j hj => ho j (.inr (.inr (.inr hj))))
  refine ⟨hb4, Nat.le_trans hsiz r.size, ?_, b, fv', wv', hL, ?_, ?_⟩
  · intro j hj hn
    have hno : ¬ Own a b fv.ownBlock wv.ownBlock j := fun e => by
      rcases hO j e with h1 | h1
      · exact hn h1
      · omega
    rw [r.block j (Nat.lt_of_lt_of_le hj hsiz) (fun e => hno (.inl e)) (fun e => hno (.inr (.inl e))) (fun e => hno (.inr (.inr (.inl e)))) (fun e => hno (.inr (.inr (.inr e))))]
    exact hoth j hj hn
  · intro j hj
    rcases hj with e | e | e | e
    · rw [e]; exact ho _ (.inl rfl)
    · rw [e]; exact ho _ (.inr (.inl rfl))
    · exact hf4 j e
    · exact hw4 j e
  · intro j hj
    rcases hj with e | e | e | e
    · exact hO j (.inl e)
    · exact hO j (.inr (.inl e))
    · rcases r.own with h1 | h1 | ⟨k, h1, h2⟩
      · rw [h1] at e; cases e
      · rw [h1] at e; exact hO j (.inr (.inr (.inl e)))
      · rw [h1] at e; injection e with e; right; omega
    · rcases r.own2 with h1 | h1 | ⟨k, h1, h2⟩
      · rw [h1] at e; cases e
      · rw [h1] at e; exact hO j (.inr (.inr (.inr e)))
      · rw [h1] at e; injection e with e; right; omega
theorem LgK.below {B w1 w w' : World} {O : Nat → Prop} {a : Nat} {D : Dk} {W : List ByteArray} (h : LgK B w1 O w a D W) (hb : Below w.heap.size w w') : LgK B w1 O w' a D W := by
  obtain ⟨b, fv, wv, hL, ho, hO⟩ := h.ex
  exact LgK.step h.bel h.siz h.oth ho hO (hL.below hb) (FrL.of_below hb)
theorem LgK.acts {B w1 w : World} {O : Nat → Prop} {a : Nat} {D : Dk} {W : List ByteArray} (h : LgK B w1 O w a D W) : Calls Tryd.prog 45 #[.pointer (some ⟨a, 0, none⟩)] w fun e w' => e = .returned (.int .i64 D.acts) ∧ w' = w := by
  obtain ⟨b, fv, wv, hL, _⟩ := h.ex
  exact logActs_any hL
theorem LgK.fail {B w1 w : World} {O : Nat → Prop} {a : Nat} {D : Dk} {W : List ByteArray} (h : LgK B w1 O w a D W) (hf : D.failed = false) (after : Nat) (keep : Int) : Calls Tryd.prog 50 #[.pointer (some ⟨a, 0, none⟩), .int .i64 (after : Int), .int .i64 keep] w fun e w' => e = .returned (.int .i64 0) ∧ LgK B w1 O w' a (D.script (after : Int) keep) W := by
  obtain ⟨b, fv, wv, hL, ho, hO⟩ := h.ex
  refine (logFail_ok hL hf after keep).mono ?_
  rintro e w' ⟨rfl, hL', hR'⟩
  exact ⟨rfl, LgK.step h.bel h.siz h.oth ho hO hL' hR'⟩
theorem LgK.submitS {B w1 w : World} {O : Nat → Prop} {a : Nat} {D : Dk} (h : LgK B w1 O w a D []) (hf : D.failed = false) (hz1 : D.read 1 = zer) (cb co cc : Nat) (ss : List ByteArray) (hS : SA w cb co ss) (hcb : cb < w1.heap.size) (hcO : ¬ O cb) (hz : ∀ s ∈ ss, s.size ≤ 40) (hq : ss.length ≤ 12) (hn : D.ckN + ss.length ≤ 64) :
    Calls Tryd.prog 40 #[.pointer (some ⟨a, 0, none⟩), .slice (some ⟨cb, co, none⟩) ss.length cc] w fun e w' => e = .returned (.int .i64 0) ∧ LgK B w1 O w' a D ss := by
  obtain ⟨b, fv, wv, hL, ho, hO⟩ := h.ex
  have hno : ∀ j, Own a b fv.ownBlock wv.ownBlock j → cb ≠ j := fun j hj e => by
    rcases hO j hj with h1 | h1
    · rw [← e] at h1; exact hcO h1
    · omega
  have hs := submit_ok hL hf hz1 cb co cc ss hS (Nat.lt_of_lt_of_le hcb h.siz) (hno a (.inl rfl)) (hno b (.inr (.inl rfl))) (fun e => hno cb (.inr (.inr (.inl e))) rfl) (fun e => hno cb (.inr (.inr (.inr e))) rfl) hz (by simpa using hq) (by simpa using hn)
  rw [List.nil_append] at hs
  refine hs.mono ?_
  rintro e w' ⟨rfl, wv', hL', hR'⟩
  exact ⟨rfl, LgK.step h.bel h.siz h.oth ho hO hL' hR'⟩
theorem LgK.flush {B w1 w : World} {O : Nat → Prop} {a : Nat} {D : Dk} {W : List ByteArray} (h : LgK B w1 O w a D W) (hf : D.failed = false) (hz1 : D.read 1 = zer) (hz : ∀ s ∈ W, s.size ≤ 40) (hl : D.ckN + W.length ≤ 76) (hfe : D.fre = []) (h0 : 0 < W.length) (hok : (D.add W).failed = false) (ht : Table B) (hg : 2 < B.heap.size) :
    Calls Tryd.prog 42 #[.pointer (some ⟨a, 0, none⟩)] w fun e w' => ∃ q, e = .returned (.tuple #[.int .i64 q, .int .i64 0]) ∧ LgK B w1 O w' a (D.add W) [] := by
  obtain ⟨b, fv, wv, hL, ho, hO⟩ := h.ex
  have hfd : D.flushed W = D.add W := by
    unfold Dk.flushed
    rw [if_neg (by omega)]
  have hs := logFlush_any hL hf hz1 hz hl (by rw [hfe]; simp) (env_of ht hg h.bel (ho _ (.inr (.inl rfl))) (fun j hj => ho j (.inr (.inr (.inl hj))))) (by rw [hfd]; exact hok)
  rw [hfd] at hs
  refine hs.mono ?_
  rintro e w' ⟨rfl, fv', hL', hR'⟩
  exact ⟨_, rfl, LgK.step h.bel h.siz h.oth ho hO hL' hR'⟩
theorem LgK.flush_down {B w1 w : World} {O : Nat → Prop} {a : Nat} {D : Dk} {W : List ByteArray} (h : LgK B w1 O w a D W) (hf : D.failed = false) (hz1 : D.read 1 = zer) (hz : ∀ s ∈ W, s.size ≤ 40) (hl : D.ckN + W.length ≤ 76) (hfe : D.fre = []) (h0 : 0 < W.length) (hok : (D.add W).failed = true) (ht : Table B) (hg : 2 < B.heap.size) :
    Calls Tryd.prog 42 #[.pointer (some ⟨a, 0, none⟩)] w fun e w' => ∃ q, e = .returned (.tuple #[.int .i64 q, .int .i64 3]) ∧ LgK B w1 O w' a (D.add W) W := by
  obtain ⟨b, fv, wv, hL, ho, hO⟩ := h.ex
  have hs := logFlush_down hL hf hz1 hz hl (by rw [hfe]; simp) (env_of ht hg h.bel (ho _ (.inr (.inl rfl))) (fun j hj => ho j (.inr (.inr (.inl hj))))) h0 hok
  refine hs.mono ?_
  rintro e w' ⟨rfl, fv', hL', hR'⟩
  exact ⟨0, rfl, LgK.step h.bel h.siz h.oth ho hO hL' hR'⟩
theorem LgK.row {B w1 w : World} {O : Nat → Prop} {a : Nat} {D : Dk} {W : List ByteArray} (h : LgK B w1 O w a D W) {base : Nat} {v : Value} {xs : List Value} (hr : Row w1 base 9 v xs) (hO : ∀ j, O j → j < base) : Row w 0 9 v xs := by
  refine ownsRow_kept (row_base hr (Nat.zero_le _)) (fun k e hk => h.oth k hk (fun ho => ?_))
  have h1 := hO k ho
  have h2 := (hr.lt k e).1
  omega
end Go.Proofs.YtlhohmlpcgbliaaDoor
