import Derived.Test.YtlhohmlpcgbliaaDoorZX14
import Derived.Maps.AppendAt
namespace Go.Proofs.YtlhohmlpcgbliaaDoor
set_option maxRecDepth 100000
open Go.RowKit
attribute [local go_sem ↓] Go.wp_at_zero Go.wp_at_succ

theorem Row.form {w : World} {base : Nat} {e : TypeId} {v : Value} {xs : List Value} (h : Row w base e v xs) (hne : 0 < xs.length) :
    ∃ g cap, v = .slice (some ⟨g, 0, none⟩) xs.length cap ∧ base ≤ g ∧ xs.length ≤ cap ∧ cap ≤ maxLen ∧ (∀ j, j < xs.length → w.cell? ⟨g, j, none⟩ = xs[j]?) ∧ g < w.heap.size ∧ (∀ j, w.frozen? ⟨g, j, none⟩ = false) := by
  obtain ⟨h1, h2⟩ := h
  rcases h2 with ⟨_, h0⟩ | ⟨g, cap, cur, rfl, hb, hg, hn, hm, hs, ht⟩
  · omega
  · refine ⟨g, cap, rfl, hb, hn, hm, ?_, (Array.getElem?_eq_some_iff.1 hg).1, ?_⟩
    · intro j hj
      have : xs[j]? = cur.toList[j]? := by
        rw [← ht, List.getElem?_take_of_lt (by omega)]
      simp [World.cell?, hg, this]
    · intro j
      simp [World.frozen?, hg]
theorem Row.below {w w' : World} {base B : Nat} {e : TypeId} {v : Value} {xs : List Value} (h : Row w base e v xs) (hb : Below B w w') (hB : w.heap.size ≤ B) : Row w' base e v xs := by
  obtain ⟨h1, h2⟩ := h
  refine ⟨h1, ?_⟩
  rcases h2 with h0 | ⟨g, cap, cur, hv, hbg, hg, r⟩
  · exact Or.inl h0
  · have : g < w.heap.size := (Array.getElem?_eq_some_iff.1 hg).1
    exact Or.inr ⟨g, cap, cur, hv, hbg, by rw [hb.block g (by omega)]; exact hg, r⟩
theorem Row.drewN {w : World} {base : Nat} {e : TypeId} {v : Value} {xs : List Value} (h : Row w base e v xs) (n : Nat) : Row (w.drewN n) base e v xs := h
theorem Row.mono {w : World} {base b' : Nat} {e : TypeId} {v : Value} {xs : List Value} (h : Row w base e v xs) (hb : b' ≤ base) : Row w b' e v xs := by
  obtain ⟨h1, h2⟩ := h
  refine ⟨h1, ?_⟩
  rcases h2 with h0 | ⟨g, cap, cur, hv, hbg, r⟩
  · exact Or.inl h0
  · exact Or.inr ⟨g, cap, cur, hv, by omega, r⟩
theorem Row.eq {w : World} {base : Nat} {e : TypeId} {v : Value} {xs ys : List Value} (h : Row w base e v xs) (he : xs = ys) : Row w base e v ys := he ▸ h
end Go.Proofs.YtlhohmlpcgbliaaDoor
namespace Go.Proofs.YtlhohmlpcgbliaaDoor
set_option maxRecDepth 100000
open Go.RowKit
attribute [local go_sem ↓] Go.wp_at_zero Go.wp_at_succ

theorem infoSec : (Tryd.prog.info? 130).map (·.size) = some 128 := by kernel_rfl
theorem infoWr : (Tryd.prog.info? 169).map (·.size) = some 129 := by kernel_rfl
theorem zeroSec : Tryd.zeroCells130 = (u8s (List.replicate 128 0)).toArray := by kernel_rfl
theorem Blk.part {w : World} {b : Nat} {t : TypeId} {cs : List Value} (h : Blk w b t cs) (o n : Nat) : w.rangeAt b o ((cs.drop o).take n) := fun j v hv => by
  rw [h.cell]
  rw [List.getElem?_take] at hv
  split at hv
  · rw [List.getElem?_drop] at hv; exact hv
  · cases hv
theorem Blk.newA (w : World) (t : TypeId) (cs : Array Value) : Blk (w.alloc (.cells cs t)) w.heap.size t cs.toList := Blk.new w t cs.toList
theorem DiskAt.sec {w : World} {b : Nat} {fv : Value} {D : Dk} (h : DiskAt w b fv D) (i : Nat) (hi : i < 200) : w.rangeAt b (i * 128) (u8s (D.las.getD i [])) := by
  rw [← h.ok.part fv i hi]; exact h.blk.part _ _
/-- Where the writes lie. -/
theorem DiskAt.fresh {w : World} {b : Nat} {fv : Value} {D : Dk} (h : DiskAt w b fv D) (h0 : 0 < D.fre.length) : ∃ g cap, fv = .slice (some ⟨g, 0, none⟩) D.fre.length cap ∧ g < w.heap.size ∧ g ≠ b ∧ ∀ i x, D.fre[i]? = some x → w.rangeAt g (i * 129) (.int .i64 (x.1 : Int) :: u8s x.2) := by
  obtain ⟨h1, h2⟩ := h.row
  rcases h2 with ⟨_, hn⟩ | ⟨g, cap, cur, rfl, hb, hg, hn, hm, hs, ht⟩
  · omega
  · refine ⟨g, cap, rfl, (Array.getElem?_eq_some_iff.1 hg).1, fun e => h.apart (by rw [e]; rfl), fun i x hx => ?_⟩
    have hl := h1
    rw [← flatW_part D.fre (fun x hx => (h.ok.fre x hx).2.len) i x hx]
    intro j v hv
    have hv' : (flatW D.fre)[i * 129 + j]? = some v := by
      rw [List.getElem?_take] at hv
      split at hv
      · rw [List.getElem?_drop] at hv; exact hv
      · cases hv
    rw [← ht, List.getElem?_take] at hv'
    split at hv'
    · simp only [World.cell?, hg]
      simpa using hv'
    · cases hv'
theorem DiskAt.fv {w : World} {b : Nat} {fv : Value} {D : Dk} (h : DiskAt w b fv D) : ∃ p cap, fv = .slice p D.fre.length cap := by
  obtain ⟨h1, h2⟩ := h.row
  rcases h2 with ⟨rfl, hn⟩ | ⟨g, cap, cur, rfl, hb, hg, hn, hm, hs, ht⟩
  · exact ⟨none, 0, by rw [hn]⟩
  · exact ⟨_, cap, rfl⟩

section
variable {ops : Array Oper} {rest : List Oper} {op : Oper} {a : Act} {w : World} {Q : Exit → Act → World → Prop}
theorem ldSec (hgd : op.guard = none) (x : Operand) (ho : op.op = .load 130 x) (b o : Nat) (hx : a.eval x = .pointer (some ⟨b, o, none⟩)) (s : List Nat) (hr : w.rangeAt b o (u8s s)) (hs : s.length = 128)
    (h : wpList Tryd.prog ops Q rest (a.put op.dst (.agg (u8s s).toArray)) w) : wpList Tryd.prog ops Q (op :: rest) a w :=
  wpList_load_mid hgd 130 x ho b o hx (u8s s) _ hr Tryd.underlying130 rfl (by rw [u8s_length, hs]; exact infoSec) h
theorem stSec (hgd : op.guard = none) (x y : Operand) (ho : op.op = .store 130 x y) (b o : Nat) (s : List Nat) (hx : a.eval x = .pointer (some ⟨b, o, none⟩)) (hy : a.eval y = .agg (u8s s).toArray) (ht : w.there b o 128) (hs : s.length = 128)
    (h : wpList Tryd.prog ops Q rest (a.put op.dst undef) (w.setCells b o (u8s s))) : wpList Tryd.prog ops Q (op :: rest) a w :=
  wpList_store_mid hgd 130 x y ho b o (u8s s).toArray hx hy (by rw [List.size_toArray, u8s_length, hs]; exact ht) (by rw [List.size_toArray, u8s_length, hs]; exact infoSec) (all_oneCell_toArray (u8s_one _)) h
theorem ldWr (hgd : op.guard = none) (x : Operand) (ho : op.op = .load 169 x) (b o : Nat) (hx : a.eval x = .pointer (some ⟨b, o, none⟩)) (n : Nat) (s : List Nat) (hr : w.rangeAt b o (.int .i64 (n : Int) :: u8s s)) (hs : s.length = 128)
    (h : wpList Tryd.prog ops Q rest (a.put op.dst (.agg (Value.int .i64 (n : Int) :: u8s s).toArray)) w) : wpList Tryd.prog ops Q (op :: rest) a w :=
  wpList_load_mid hgd 169 x ho b o hx (.int .i64 (n : Int) :: u8s s) _ hr Tryd.underlying169 rfl (by rw [List.length_cons, u8s_length, hs]; exact infoWr) h
theorem stWr (hgd : op.guard = none) (x y : Operand) (ho : op.op = .store 169 x y) (b o : Nat) (n : Nat) (s : List Nat) (hx : a.eval x = .pointer (some ⟨b, o, none⟩)) (hy : a.eval y = .agg (Value.int .i64 (n : Int) :: u8s s).toArray) (ht : w.there b o 129) (hs : s.length = 128)
    (h : wpList Tryd.prog ops Q rest (a.put op.dst undef) (w.setCells b o (.int .i64 (n : Int) :: u8s s))) : wpList Tryd.prog ops Q (op :: rest) a w :=
  wpList_store_mid hgd 169 x y ho b o (Value.int .i64 (n : Int) :: u8s s).toArray hx hy (by rw [List.size_toArray, List.length_cons, u8s_length, hs]; exact ht) (by rw [List.size_toArray, List.length_cons, u8s_length, hs]; exact infoWr)
    (all_oneCell_toArray (by intro v hv; rcases List.mem_cons.1 hv with rfl | h1; · rfl
                             · exact u8s_one _ v h1)) h
end
/-- A block of its own that was filled whole. -/
theorem Blk.fill {w : World} {b : Nat} {t : TypeId} {cs : List Value} (h : Blk w b t cs) (vs : List Value) (hl : vs.length = cs.length) : Blk (w.setCells b 0 vs) b t vs :=
  (h.setCells 0 vs).eq (by rw [setL_eq _ _ _ (by omega), List.take_zero, List.nil_append, List.drop_eq_nil_of_le (by omega), List.append_nil])

theorem find_none {f : List (Nat × List Nat)} {i k : Nat} (h : ∀ j x, j < k → f[j]? = some x → x.1 ≠ i) (hk : k = f.length) : (f.find? fun x => x.1 == i) = none := by
  rw [List.find?_eq_none]
  intro x hx
  obtain ⟨j, hj⟩ := List.mem_iff_getElem?.1 hx
  simp only [beq_iff_eq]
  exact h j x (by rw [hk]; exact (List.getElem?_eq_some_iff.1 hj).1) hj
theorem find_some {f : List (Nat × List Nat)} {i k : Nat} {x : Nat × List Nat} (h : ∀ j x, j < k → f[j]? = some x → x.1 ≠ i) (hk : f[k]? = some x) (hx : x.1 = i) : (f.find? fun x => x.1 == i) = some x := by
  rw [List.find?_eq_some_iff_getElem]
  have hlt := (List.getElem?_eq_some_iff.1 hk).1
  refine ⟨by simpa using hx, k, hlt, (List.getElem?_eq_some_iff.1 hk).2, fun j hj => ?_⟩
  simpa using h j _ hj (List.getElem?_eq_getElem (by omega))

set_option maxHeartbeats 1000000 in
theorem read_any (b : Nat) (fv : Value) (D : Dk) (i : Nat) (w : World) (h : DiskAt w b fv D) (hi : i < 200) :
    Calls Tryd.prog 116 #[.pointer (some ⟨b, 0, none⟩), .int .i64 (i : Int)] w fun e w' => e = .returned (.agg (u8s (D.read i)).toArray) ∧ Below w.heap.size w w' := by
  have hlt := h.lt
  obtain ⟨p, cap, hfv⟩ := h.fv
  have c0 := h.cell 0
  simp only [List.getElem?_cons_zero, Nat.add_zero] at c0
  rw [hfv] at c0
  have HD : Hid (DiskAt w b fv D) := h
  have HF : Hid (fv = .slice p D.fre.length cap) := hfv
  clear h hfv
  have hb0 : Below w.heap.size w (w.alloc (.cells Tryd.zeroCells130 130)) := (Below.refl _ _).alloc (Nat.le_refl _) _
  have hB0 := Blk.newA w 130 Tryd.zeroCells130
  have c0' : (w.alloc (.cells Tryd.zeroCells130 130)).cell? ⟨b, 25600, none⟩ = some (.slice p D.fre.length cap) := by rw [hb0.cell hlt]; exact c0
  go_enter Tryd.func116, Tryd.ntmps116
  go_wp2_with fail
  go_loopw [12] (fun v wr => ∃ k : Nat, k ≤ D.fre.length ∧ v = .int .i64 (k : Int) ∧ Below w.heap.size w wr ∧ Blk wr w.heap.size 130 Tryd.zeroCells130.toList ∧ (∀ j x, j < k → D.fre[j]? = some x → x.1 ≠ i)) (fun v _ => D.fre.length - (intOf v).toNat)
  case atStart => exact ⟨0, by omega, rfl, hb0, hB0, fun j x hj _ => by omega⟩
  case round =>
    obtain ⟨k, hk, rfl, hb, hB, hno⟩ := hrel
    clear hb0 hB0 c0' c0
    have HN : Hid (∀ j x, j < k → D.fre[j]? = some x → x.1 ≠ i) := hno
    clear hno
    have hzl : Tryd.zeroCells130.toList.length = 128 := by rw [zeroSec]; simp
    by_cases h8 : k < D.fre.length
    · obtain ⟨x, hx⟩ : ∃ x, D.fre[k]? = some x := ⟨_, List.getElem?_eq_getElem h8⟩
      obtain ⟨g, cap', e, hg, hgb, hr⟩ := HD.out.fresh (by omega)
      rw [HF.out] at e
      injection e with e1 e2 e3
      subst e1 e3
      have hxs := HD.out.ok.fre x (List.mem_of_getElem? hx)
      have hr0 : wr.rangeAt g (k * 129) (.int .i64 (x.1 : Int) :: u8s x.2) := fun j v hv => by
        have := hr k x hx j v hv
        rw [hb.cell hg]; exact this
      have hx2 := hxs.2.len
      have HX : Hid (D.fre[k]? = some x) := hx
      clear hx hr
      have hltB := hB.lt
      have hfew := HD.out.ok.few
      obtain ⟨n, s⟩ := x
      simp only at hxs hr0 hx2
      have hB2 : Blk (wr.alloc (.cells Tryd.zeroCells169 169)) wr.heap.size 169 Tryd.zeroCells169.toList := Blk.newA wr _ _
      have hzw : Tryd.zeroCells169.toList.length = 129 := by rw [Array.length_toList]; exact Tryd.zeroCells169_size
      have hth := hB2.there 0 129 (by omega)
      have hB3 := hB2.fill (.int .i64 (n : Int) :: u8s s) (by simp [hx2, hzw])
      have hBz := (hB.alloc (.cells Tryd.zeroCells169 169)).setCells_other wr.heap.size 0 (.int .i64 (n : Int) :: u8s s) (by omega)
      have hbb : Below w.heap.size w ((wr.alloc (.cells Tryd.zeroCells169 169)).setCells wr.heap.size 0 (.int .i64 (n : Int) :: u8s s)) := Below.setCells (hb.alloc hb.size _) _ _ hb.size _
      clear hB hB2 hzw
      have c1 : ((wr.alloc (.cells Tryd.zeroCells169 169)).setCells wr.heap.size 0 (.int .i64 (n : Int) :: u8s s)).cell? ⟨wr.heap.size, 0, none⟩ = some (.int .i64 (n : Int)) := by rw [hB3.cell]; rfl
      have hrs : ((wr.alloc (.cells Tryd.zeroCells169 169)).setCells wr.heap.size 0 (.int .i64 (n : Int) :: u8s s)).rangeAt wr.heap.size 1 (u8s s) := fun j v hv => by rw [hB3.cell, Nat.add_comm, List.getElem?_cons_succ]; exact hv
      by_cases hq : n = i
      · subst hq
        have hth2 := hBz.there 0 128 (by omega)
        have hB4 := hBz.fill (u8s s) (by simp [hx2, hzl])
        have hb4 := Below.setCells hbb w.heap.size 0 (Nat.le_refl _) (u8s s)
        have HR : D.read n = s := by
          unfold Dk.read
          rw [find_some HN.out HX.out rfl]; rfl
        go_wp2_with (first | refine ldWr (by rfl) (.tmp 14) (by rfl) g (k * 129) (by rfl) n s hr0 hx2 ?_ | refine stWr (by rfl) (.tmp 6) (.tmp 15) (by rfl) wr.heap.size 0 n s (by rfl) (by rfl) hth hx2 ?_ | refine ldSec (by rfl) (.tmp 20) (by rfl) wr.heap.size 1 (by rfl) s hrs hx2 ?_ | refine stSec (by rfl) (.tmp 4) (.tmp 21) (by rfl) w.heap.size 0 s (by rfl) (by rfl) hth2 hx2 ?_)
        refine bodyPost_ret (results_cell Tryd.results116 (by rfl) hB4.range Tryd.underlying130 rfl (by rw [u8s_length, hx2]; exact infoSec)) rfl ⟨rfl, hb4⟩
      · have hq' : ¬ ((n : Int) = (i : Int)) := by omega
        go_wp2_with (first | refine ldWr (by rfl) (.tmp 14) (by rfl) g (k * 129) (by rfl) n s hr0 hx2 ?_ | refine stWr (by rfl) (.tmp 6) (.tmp 15) (by rfl) wr.heap.size 0 n s (by rfl) (by rfl) hth hx2 ?_)
        go_roundw
        case rel =>
          refine ⟨k + 1, by omega, by go_num, hbb, hBz, fun j x hj hx => ?_⟩
          by_cases hjk : j = k
          · subst hjk
            rw [HX.out] at hx
            cases hx
            exact hq
          · exact HN.out j x (by omega) hx
        case measure => simp [intOf]; omega
    · have hk8 : k = D.fre.length := by omega
      have HR : D.read i = D.las.getD i [] := by
        unfold Dk.read
        rw [find_none HN.out hk8]; rfl
      subst hk8
      have hDs := (HD.out.below hb).sec i hi
      have hs : (D.las.getD i []).length = 128 := by
        have := (HD.out.ok.read hi).len
        rw [HR] at this; exact this
      have hth2 := hB.there 0 128 (by omega)
      have hB4 := hB.fill (u8s (D.las.getD i [])) (by simp only [u8s_length]; omega)
      have hb4 := Below.setCells hb w.heap.size 0 (Nat.le_refl _) (u8s (D.las.getD i []))
      have HR' : Hid (D.read i = D.las.getD i []) := HR
      clear HR
      generalize hgs : D.las.getD i [] = s at *
      go_wp2_with (first | refine ldSec (by rfl) (.tmp 27) (by rfl) b (i * 128) (by rfl) s hDs hs ?_ | refine stSec (by rfl) (.tmp 4) (.tmp 28) (by rfl) w.heap.size 0 s (by rfl) (by rfl) hth2 hs ?_)
      exact bodyPost_ret (results_cell Tryd.results116 (by rfl) hB4.range Tryd.underlying130 rfl (by rw [u8s_length, hs]; exact infoSec)) rfl ⟨by rw [HR'.out], hb4⟩
end Go.Proofs.YtlhohmlpcgbliaaDoor
