import Derived.Test.YtlhohmlpcgbliaaDoorZM7
namespace Go.Proofs.YtlhohmlpcgbliaaDoor
set_option maxRecDepth 100000
open Go.RowKit
attribute [local go_sem ↓] Go.wp_at_zero Go.wp_at_succ

/-- Sector i of a disk's bytes. -/
def secS (s : ByteArray) (i : Nat) : ByteArray := s.extract (i * 128) (i * 128 + 128)
/-- How many of the first k sectors differ. -/
def dif (a b : ByteArray) : Nat → Nat
  | 0 => 0
  | k + 1 => dif a b k + (if secS a k = secS b k then 0 else 1)
theorem dif_le (a b : ByteArray) : ∀ k, dif a b k ≤ k := by
  intro k
  induction k with
  | zero => exact Nat.le_refl _
  | succ k ih => rw [dif]; split <;> omega
theorem sliceStr2 (w : World) (s : ByteArray) (i j : Nat) (hij : i ≤ j) (hj : j ≤ s.size) : (Instr.sliceAt 9 (.string s) (some (.int .i64 (i : Int))) (some (.int .i64 (j : Int))) none).run Tryd.prog w = .ok (.string (s.extract i j)) w := by
  have h1 : (j : Int) ≤ (s.size : Int) := by omega
  have h2 : (i : Int) ≤ (j : Int) := by omega
  simp [go_sem, h1, h2]

set_option maxHeartbeats 400000 in
theorem sector_any (s : ByteArray) (i : Nat) (w : World) (hs : s.size = 25600) (hi : i < 200) : Calls Tryd.prog 80 #[.string s, .int .i64 (i : Int)] w fun e w' => e = .returned (.string (secS s i)) ∧ w' = w := by
  have hsl : ∀ wx, (Instr.sliceAt 9 (.string s) (some (.int .i64 ((i : Int) * 128))) (some (.int .i64 (((i : Int) + 1) * 128))) none).run Tryd.prog wx = .ok (.string (secS s i)) wx := fun wx => by
    have e1 : (i : Int) * 128 = ((i * 128 : Nat) : Int) := by omega
    have e2 : ((i : Int) + 1) * 128 = ((i * 128 + 128 : Nat) : Int) := by omega
    rw [e1, e2]
    exact sliceStr2 wx s (i * 128) (i * 128 + 128) (by omega) (by omega)
  generalize secS s i = y at *
  go_enter Tryd.func80, Tryd.ntmps80
  go_wp2
  go_ret
  exact ⟨rfl, rfl⟩

set_option maxHeartbeats 2000000 in
theorem differ_any (a b : ByteArray) (w : World) (ha : a.size = 25600) (hb : b.size = 25600) : Calls Tryd.prog 46 #[.string a, .string b] w fun e w' => e = .returned (.int .i64 (dif a b 200 : Nat)) ∧ Below w.heap.size w w' := by
  have hab : ¬ (a.size : Int) ≠ (b.size : Int) := by rw [ha, hb]; simp
  have HD : Aside (∀ k, dif a b (k + 1) = dif a b k + (if secS a k = secS b k then 0 else 1)) := fun _ => rfl
  have HL : Aside (∀ k, dif a b k ≤ k) := dif_le a b
  generalize hN0 : dif a b 200 = N0
  have HN0 : Aside (dif a b 200 = N0) := hN0
  clear hN0
  go_enter Tryd.func46, Tryd.ntmps46
  go_wp2_with fail
  go_loopw [5, 6] (fun u v wr => ∃ k x d : Nat, k ≤ 200 ∧ x = k * 128 ∧ d ≤ 200 ∧ u = .int .i64 (d : Int) ∧ v = .int .i64 (x : Int) ∧ Aside (d = dif a b k) ∧ Aside (Below w.heap.size w wr)) (fun _ v _ => 25600 - (intOf v).toNat)
  case atStart => exact ⟨0, 0, 0, by omega, rfl, by omega, rfl, rfl, rfl, Below.refl _ _⟩
  case round =>
    obtain ⟨k, x, d, hk, hx, hd, rfl, rfl, HE, HB⟩ := hrel
    have HX : Aside (x = k * 128) := hx
    by_cases hc : x + 128 ≤ 25600
    · have hc' : (x : Int) + 128 ≤ 25600 := by omega
      have hk2 : k < 200 := by omega
      have hsa : ∀ wx, (Instr.sliceAt 9 (.string a) (some (.int .i64 (x : Int))) (some (.int .i64 ((x : Int) + 128))) none).run Tryd.prog wx = .ok (.string (secS a k)) wx := fun wx => by
        have e2 : (x : Int) + 128 = ((x + 128 : Nat) : Int) := by omega
        rw [e2, hx]
        exact sliceStr2 wx a (k * 128) (k * 128 + 128) (by omega) (by omega)
      have hsb : ∀ wx, (Instr.sliceAt 9 (.string b) (some (.int .i64 (x : Int))) (some (.int .i64 ((x : Int) + 128))) none).run Tryd.prog wx = .ok (.string (secS b k)) wx := fun wx => by
        have e2 : (x : Int) + 128 = ((x + 128 : Nat) : Int) := by omega
        rw [e2, hx]
        exact sliceStr2 wx b (k * 128) (k * 128 + 128) (by omega) (by omega)
      have HN := HD.out k
      have hdk := HL.out k
      clear hx
      generalize secS a k = y1 at *
      generalize secS b k = y2 at *
      by_cases hy : y1 = y2
      · have hyb : (y1.toList == y2.toList) = true := by rw [eqs]; exact decide_eq_true hy
        rw [if_pos hy] at HN
        have HN2 : Aside (dif a b (k + 1) = dif a b k + 0) := HN
        clear HN hy
        go_wp2_with fail
        go_quiet (fail)
        go_wp2
        go_roundw
        case rel => exact ⟨k + 1, x + 128, d, by omega, by have := HX.out; omega, hd, rfl, by go_num, by rw [HN2.out, HE.out]; rfl, Below.drewN' HB.out _⟩
        case measure => simp [intOf]; omega
      · have hyb : (y1.toList == y2.toList) = false := by rw [eqs]; exact decide_eq_false hy
        rw [if_neg hy] at HN
        have HN2 : Aside (dif a b (k + 1) = dif a b k + 1) := HN
        have hd2 : d ≤ k := by rw [HE.out]; exact hdk
        clear HN hy
        go_wp2_with fail
        go_quiet (fail)
        go_wp2
        go_roundw
        case rel => exact ⟨k + 1, x + 128, d + 1, by omega, by have := HX.out; omega, by omega, by go_num, by go_num, by rw [HN2.out, HE.out]; rfl, Below.drewN' HB.out _⟩
        case measure => simp [intOf]; omega
    · have hc' : ¬ (x : Int) + 128 ≤ 25600 := by omega
      have hk2 : k = 200 := by omega
      have hdn : d = N0 := by rw [HE.out, hk2]; exact HN0.out
      have hx0 : 0 ≤ (x : Int) := by omega
      have hx1 : (x : Int) ≤ 25600 := by omega
      clear hx hk2 HE HD HL HN0 hc hk
      subst hdn
      generalize (x : Int) = xi at *
      go_wp2
      go_ret
      exact ⟨rfl, HB.out⟩
end Go.Proofs.YtlhohmlpcgbliaaDoor
namespace Go.Proofs.YtlhohmlpcgbliaaDoor
set_option maxRecDepth 100000
open Go.RowKit
attribute [local go_sem ↓] Go.wp_at_zero Go.wp_at_succ

/-- One of the first k has this sector as b has it. -/
def anyS (b : ByteArray) (ls : List ByteArray) (i : Nat) : Nat → Bool
  | 0 => false
  | k + 1 => anyS b ls i k || decide (secS (ls.getD k ⟨#[]⟩) i = secS b i)
theorem anyS_of {b : ByteArray} {ls : List ByteArray} {i j : Nat} (h : secS (ls.getD j ⟨#[]⟩) i = secS b i) : ∀ k, j < k → anyS b ls i k = true := by
  intro k
  induction k with
  | zero => intro h; omega
  | succ k ih =>
    intro hk
    rw [anyS]
    by_cases hj : j = k
    · subst hj; rw [decide_eq_true h, Bool.or_true]
    · rw [ih (by omega)]; rfl

set_option maxHeartbeats 4000000 in
theorem each_any (b : ByteArray) (g o c : Nat) (ls : List ByteArray) (w : World) (hb : b.size = 25600) (hS : SA w g o ls) (hz : ∀ s ∈ ls, s.size = 25600) (hl : ls.length ≤ 1000) (hall : ∀ i, i < 200 → ∃ j, j < ls.length ∧ secS (ls.getD j ⟨#[]⟩) i = secS b i) :
    Calls Tryd.prog 48 #[.string b, .slice (some ⟨g, o, none⟩) ls.length c] w fun e w' => e = .returned (.bool true) ∧ Below w.heap.size w w' := by
  have HS : Aside (SA w g o ls ∧ (∀ s ∈ ls, s.size = 25600) ∧ (∀ i, i < 200 → anyS b ls i ls.length = true)) := ⟨hS, hz, fun i hi => by obtain ⟨j, h1, h2⟩ := hall i hi; exact anyS_of h2 _ h1⟩
  have HD : Aside (∀ i k, anyS b ls i (k + 1) = (anyS b ls i k || decide (secS (ls.getD k ⟨#[]⟩) i = secS b i))) := fun _ _ => rfl
  clear hS hz hall
  go_enter Tryd.func48, Tryd.ntmps48
  go_wp2_with fail
  go_loopw [5] (fun v wr => ∃ k x : Nat, k ≤ 200 ∧ x = k * 128 ∧ v = .int .i64 (x : Int) ∧ Aside (Below w.heap.size w wr)) (fun v _ => 25600 - (intOf v).toNat)
  case atStart => exact ⟨0, 0, by omega, rfl, rfl, Below.refl _ _⟩
  case round =>
    obtain ⟨k, x, hk, hx, rfl, HB⟩ := hrel
    have HX : Aside (x = k * 128) := hx
    by_cases hc : x + 128 ≤ 25600
    · have hc' : (x : Int) + 128 ≤ 25600 := by omega
      have hk2 : k < 200 := by omega
      have hx1 : x ≤ 25600 := by omega
      have hsb : ∀ wx, (Instr.sliceAt 9 (.string b) (some (.int .i64 (x : Int))) (some (.int .i64 ((x : Int) + 128))) none).run Tryd.prog wx = .ok (.string (secS b k)) wx := fun wx => by
        have e2 : (x : Int) + 128 = ((x + 128 : Nat) : Int) := by omega
        rw [e2, hx]
        exact sliceStr2 wx b (k * 128) (k * 128 + 128) (by omega) (by omega)
      clear hx
      have HDk := HD.out k
      have HDK : Aside (∀ j, anyS b ls k (j + 1) = (anyS b ls k j || decide (secS (ls.getD j ⟨#[]⟩) k = secS b k))) := HDk
      clear HDk
      generalize secS b k = y2 at *
      go_wp2_with fail
      go_loopw [6, 7] (fun u v wy => ∃ (m : Nat) (f : Bool), m ≤ ls.length ∧ u = .bool f ∧ v = .int .i64 (m : Int) ∧ Aside (f = anyS b ls k m) ∧ Aside (Below w.heap.size w wy)) (fun _ v _ => ls.length - (intOf v).toNat)
      case atStart => exact ⟨0, false, by omega, rfl, rfl, rfl, HB⟩
      case round =>
        obtain ⟨m, f, hm, rfl, rfl, HF, HB2⟩ := hrel
        by_cases hml : m < ls.length
        · have hml' : (m : Int) < (ls.length : Int) := by omega
          obtain ⟨s, hs⟩ : ∃ s, ls[m]? = some s := ⟨_, List.getElem?_eq_getElem hml⟩
          have hcell : wr.cell? ⟨g, o + m, none⟩ = some (.string s) := (HS.out.1.below HB2.out) m s hs
          have hsz : s.size = 25600 := HS.out.2.1 s (List.mem_of_getElem? hs)
          have hsa : ∀ wx, (Instr.sliceAt 9 (.string s) (some (.int .i64 (x : Int))) (some (.int .i64 ((x : Int) + 128))) none).run Tryd.prog wx = .ok (.string (secS s k)) wx := fun wx => by
            have e2 : (x : Int) + 128 = ((x + 128 : Nat) : Int) := by omega
            rw [e2, HX.out]
            exact sliceStr2 wx s (k * 128) (k * 128 + 128) (by omega) (by omega)
          have HN : Aside (anyS b ls k (m + 1) = (f || decide (secS s k = y2))) := by
            show _ = _
            rw [HDK.out, ← HF.out, List.getD_eq_getElem?_getD, hs]
            rfl
          clear hs
          generalize secS s k = y1 at *
          cases f with
          | true =>
            have HN2 : Aside (anyS b ls k (m + 1) = true) := by show _ = _; rw [HN.out]; rfl
            clear hsa hcell HN
            go_wp2_with fail
            go_quiet (fail)
            go_wp2
            go_roundw
            case rel => exact ⟨m + 1, true, by omega, rfl, by go_num, HN2.out.symm, Below.drewN' HB2.out _⟩
            case measure => simp [intOf]; omega
          | false =>
            by_cases hy : y1 = y2
            · have hyb : (y1.toList == y2.toList) = true := by rw [eqs]; exact decide_eq_true hy
              have HN2 : Aside (anyS b ls k (m + 1) = true) := by show _ = _; rw [HN.out, decide_eq_true hy]; rfl
              clear hy HN
              go_wp2_with fail
              go_quiet (fail)
              go_wp2
              go_roundw
              case rel => exact ⟨m + 1, true, by omega, rfl, by go_num, HN2.out.symm, Below.drewN' HB2.out _⟩
              case measure => simp [intOf]; omega
            · have hyb : (y1.toList == y2.toList) = false := by rw [eqs]; exact decide_eq_false hy
              have HN2 : Aside (anyS b ls k (m + 1) = false) := by show _ = _; rw [HN.out, decide_eq_false hy]; rfl
              clear hy HN
              go_wp2_with fail
              go_quiet (fail)
              go_wp2
              go_roundw
              case rel => exact ⟨m + 1, false, by omega, rfl, by go_num, HN2.out.symm, Below.drewN' HB2.out _⟩
              case measure => simp [intOf]; omega
        · have hml' : ¬ (m : Int) < (ls.length : Int) := by omega
          have hf : f = true := by
            rw [HF.out, show m = ls.length by omega]
            exact HS.out.2.2 k hk2
          subst hf
          go_wp2
          go_roundw
          case rel => exact ⟨k + 1, x + 128, by omega, by have := HX.out; omega, by go_num, HB2⟩
          case measure => simp [intOf]; omega
    · have hc' : ¬ (x : Int) + 128 ≤ 25600 := by omega
      have hx0 : 0 ≤ (x : Int) := by omega
      have hx1 : (x : Int) ≤ 25600 := by omega
      clear hx hc hk HX
      generalize (x : Int) = xi at *
      go_wp2
      go_ret
      exact ⟨rfl, HB.out⟩
end Go.Proofs.YtlhohmlpcgbliaaDoor
namespace Go.Proofs.YtlhohmlpcgbliaaDoor
set_option maxRecDepth 100000
open Go.RowKit
attribute [local go_sem ↓] Go.wp_at_zero Go.wp_at_succ

theorem Lg.submitS {B w : World} {a : Nat} {D : Dk} (h : Lg B w a D []) (hf : D.failed = false) (hz1 : D.read 1 = zer) (cb co cc : Nat) (ss : List ByteArray) (hS : SA w cb co ss) (hcb : cb < B.heap.size) (hz : ∀ s ∈ ss, s.size ≤ 40) (hq : ss.length ≤ 12) (hn : D.ckN + ss.length ≤ 64) :
    Calls Tryd.prog 40 #[.pointer (some ⟨a, 0, none⟩), .slice (some ⟨cb, co, none⟩) ss.length cc] w fun e w' => e = .returned (.int .i64 0) ∧ Lg B w' a D ss := by
  obtain ⟨b, fv, wv, hL, ho⟩ := h.ex
  have hs := submit_ok hL hf hz1 cb co cc ss hS (Nat.lt_of_lt_of_le hcb h.bel.size) (fun e => by have := ho _ (.inl rfl); omega) (fun e => by have := ho _ (.inr (.inl rfl)); omega) (fun e => by have := ho _ (.inr (.inr (.inl e))); omega) (fun e => by have := ho _ (.inr (.inr (.inr e))); omega) hz (by simpa using hq) (by simpa using hn)
  rw [List.nil_append] at hs
  refine hs.mono ?_
  rintro e w' ⟨rfl, wv', hL', hR'⟩
  obtain ⟨hb4, hf4, hw4⟩ := FrL.below h.bel hR' (ho _ (.inl rfl)) (ho _ (.inr (.inl rfl))) (fun j hj => ho j (.inr (.inr (.inl hj)))) (fun j hj => ho j (.inr (.inr (.inr hj))))
  refine ⟨rfl, hb4, b, fv, wv', hL', ?_⟩
  intro j hj
  rcases hj with e | e | e | e
  · rw [e]; exact ho _ (.inl rfl)
  · rw [e]; exact ho _ (.inr (.inl rfl))
  · exact hf4 j e
  · exact hw4 j e
/-- A Flush, whether the disk fails in it or not. -/
theorem Lg.flushAny {B w : World} {a : Nat} {D : Dk} {W : List ByteArray} (h : Lg B w a D W) (hf : D.failed = false) (hz1 : D.read 1 = zer) (hz : ∀ s ∈ W, s.size ≤ 40) (hl : D.ckN + W.length ≤ 76) (hfe : D.fre = []) (h0 : 0 < W.length) (ht : Table B) (hg : 2 < B.heap.size) :
    Calls Tryd.prog 42 #[.pointer (some ⟨a, 0, none⟩)] w fun e w' => ∃ x y W', e = .returned (.tuple #[.int .i64 x, .int .i64 y]) ∧ Lg B w' a (D.add W) W' := by
  cases hq : (D.add W).failed with
  | false =>
    refine (h.flush hf hz1 hz hl hfe h0 hq ht hg).mono ?_
    rintro e w' ⟨rfl, h'⟩
    exact ⟨_, _, _, rfl, h'⟩
  | true =>
    refine (h.flush_down hf hz1 hz hl hfe h0 hq ht hg).mono ?_
    rintro e w' ⟨rfl, h'⟩
    exact ⟨_, _, _, rfl, h'⟩

/-- What lasts on a copy of the disk that is to fail behind so many acts of the adding of an entry. -/
def Dk.fby (C : Dk) (t : ByteArray) (j : Nat) (keep : Int) : List (List Nat) := ((C.script (j : Int) keep).add [t]).las

set_option maxHeartbeats 2000000 in
theorem failed_fby {w : World} {a b : Nat} {fv : Value} {D : Dk} {E : List ByteArray} (h : LogAt w a b fv (.slice none 0 0) D []) (hH : Holds (Dk.of D.las.flatten) E) (hl : E.length ≤ 60) (cb co cc : Nat) (t : ByteArray) (hS : SA w cb co [t]) (hcb : cb < w.heap.size) (htz : t.size ≤ 40) (j : Nat) (keep : Int) (ht : Table w) (hg : 2 < w.heap.size) :
    Calls Tryd.prog 47 #[.pointer (some ⟨a, 0, none⟩), .slice (some ⟨cb, co, none⟩) 1 cc, .int .i64 (j : Int), .int .i64 keep] w fun e w' => e = .returned (.string (strOf ((Dk.of D.las.flatten).fby t j keep).flatten)) ∧ Below w.heap.size w w' := by
  have g1 := Lg.copied h hH ht hg
  have HT : Aside (Table w ∧ 2 < w.heap.size ∧ SA w cb co [t] ∧ cb < w.heap.size) := ⟨ht, hg, hS, hcb⟩
  clear ht hg h hS hcb
  generalize Dk.of D.las.flatten = C at *
  have HH : Aside (Holds C E) := hH
  clear hH
  have HF : Aside (C.fby t j keep = ((C.script (j : Int) keep).add [t]).las) := rfl
  generalize C.fby t j keep = R at *
  go_enter Tryd.func47, Tryd.ntmps47
  go_wp2_with fail
  refine g1.mono ?_
  rintro e w1 ⟨a1, rfl, h1⟩
  clear g1
  have g2 : Calls Tryd.prog 40 #[.pointer (some ⟨a1, 0, none⟩), .slice (some ⟨cb, co, none⟩) 1 cc] w1 fun e w' => e = .returned (.int .i64 0) ∧ Lg w w' a1 C [t] := h1.submitS HH.out.nf.failed HH.out.jn cb co cc [t] (HT.out.2.2.1.below h1.bel) HT.out.2.2.2 (fun s hs => by rw [List.mem_singleton.1 hs]; exact htz) (by simp) (by rw [HH.out.ckN]; simp; omega)
  clear h1
  go_wp2_with fail
  refine g2.mono ?_
  rintro e w2 ⟨rfl, h2⟩
  clear g2
  have g3 := h2.fail HH.out.nf.failed j keep
  clear h2
  have hlk : Like (C.script (j : Int) keep) C := Dk.script_like _ _ _
  have hrd := hlk.rd HH.out
  have hf0 : (C.script (j : Int) keep).failed = false := HH.out.nf.failed
  generalize C.script (j : Int) keep = Y at *
  have HR : Aside (Y.read 1 = zer ∧ Y.ckN = E.length ∧ Y.fre = []) := hrd
  clear hlk hrd
  go_wp2_with fail
  refine g3.mono ?_
  rintro e w3 ⟨rfl, h3⟩
  clear g3
  have g4 := h3.flushAny hf0 HR.out.1 (fun s hs => by rw [List.mem_singleton.1 hs]; exact htz) (by rw [HR.out.2.1]; simp; omega) HR.out.2.2 (by simp) HT.out.1 HT.out.2.1
  clear h3 hf0
  go_wp2_with fail
  refine g4.mono ?_
  rintro e w4 ⟨x, y, W', rfl, h4⟩
  clear g4
  have g5 := h4.bytes
  rw [← HF.out] at g5
  clear h4
  go_wp2_with fail
  refine g5.mono ?_
  rintro e w5 ⟨rfl, h5⟩
  have H5 : Aside (Below w.heap.size w w5) := h5.bel
  clear g5 h5
  go_wp2
  go_ret
  exact ⟨rfl, H5.out⟩
end Go.Proofs.YtlhohmlpcgbliaaDoor
namespace Go.Proofs.YtlhohmlpcgbliaaDoor
set_option maxRecDepth 100000
open Go.RowKit

/-- A disk's sectors. -/
structure SecL (l : List (List Nat)) : Prop where
  len : l.length = 200
  sec : ∀ s ∈ l, Sec s
theorem Dk.ok.secL {D : Dk} (h : D.ok) : SecL D.las := ⟨h.las, h.sec⟩
theorem Dk.ok.secV {D : Dk} (h : D.ok) : SecL (putL D.fre D.las) := ⟨by rw [putL_length, h.las], putL_sec _ _ h.sec (fun x hx => (h.fre x hx).2)⟩

/-- Acts, one by one: what lasts, what is loose, and both together. -/
structure Acts (n : Nat) (act : Nat → Option (Nat × List Nat)) (L V : Nat → List (List Nat)) (F : Nat → List (Nat × List Nat)) : Prop where
  sl : ∀ j, j ≤ n → SecL (L j)
  sv : ∀ j, j ≤ n → SecL (V j)
  f0 : F 0 = []
  v : ∀ j, j ≤ n → V j = putL (F j) (L j)
  wr : ∀ j x, j < n → act j = some x → F (j + 1) = F j ++ [x] ∧ L (j + 1) = L j ∧ V (j + 1) = (V j).set x.1 x.2 ∧ x.1 < 200 ∧ Sec x.2
  fl : ∀ j, j < n → act j = none → F (j + 1) = [] ∧ L (j + 1) = V j ∧ V (j + 1) = V j
  nd : ∀ j, j ≤ n → ((F j).map (·.1)).Nodup
  few : n ≤ 60
  pos : 2 ≤ n
  last : act (n - 1) = none

/-- All acts are writes. -/
def allW (xs : List (Option (Nat × List Nat))) : Prop := ∀ a ∈ xs, ∃ x, a = some x
theorem wrA_allW (start each : Nat) : ∀ (f : Nat) (R : Dk) (i : Nat) (cs : List (List Nat)), allW (wrA start each f R i cs) := by
  intro f
  induction f with
  | zero => intro R i cs a ha; simp [wrA] at ha
  | succ f ih =>
    intro R i cs a ha
    rw [wrA] at ha
    split at ha
    · simp at ha
    · rcases List.mem_cons.1 ha with rfl | h1
      · exact ⟨_, rfl⟩
      · exact ih _ _ _ a h1
theorem grA_allW : ∀ (f : Nat) (R : Dk) (first n l size : Nat), allW (grA f R first n l size) := by
  intro f
  induction f with
  | zero => intro R _ _ _ _ a ha; simp [grA] at ha
  | succ f ih =>
    intro R first n l size a ha
    rw [grA] at ha
    split at ha
    · rcases List.mem_append.1 ha with h1 | h1
      · exact wrA_allW _ _ _ _ _ _ a h1
      · exact ih _ _ _ _ _ a h1
    · simp at ha
theorem allW_append {xs ys : List (Option (Nat × List Nat))} (h1 : allW xs) (h2 : allW ys) : allW (xs ++ ys) := fun a ha => by
  rcases List.mem_append.1 ha with h | h
  · exact h1 a h
  · exact h2 a h
/-- Writes only add to what is loose. -/
theorem run_writes : ∀ (xs : List (Option (Nat × List Nat))) (R : Dk), R.nf → allW xs → ∃ ys, (R.run xs).fre = R.fre ++ ys ∧ (R.run xs).las = R.las := by
  intro xs
  induction xs with
  | nil => intro R _ _; exact ⟨[], by simp [Dk.run], rfl⟩
  | cons a r ih =>
    intro R hR h
    obtain ⟨x, rfl⟩ := h a (List.mem_cons_self ..)
    obtain ⟨ys, h1, h2⟩ := ih (R.write x.1 x.2) (hR.write _ _).1 (fun a ha => h a (List.mem_cons_of_mem _ ha))
    refine ⟨x :: ys, ?_, ?_⟩
    · show ((R.write x.1 x.2).run r).fre = _
      rw [h1, hR.write_eq]
      simp
    · show ((R.write x.1 x.2).run r).las = _
      rw [h2, (hR.write _ _).2.2]
/-- At each stage all is well, and no sector is loose twice. -/
def Nice (R : Dk) (xs : List (Option (Nat × List Nat))) : Prop := ∀ j, (R.run (xs.take j)).keys.Nodup ∧ (R.run (xs.take j)).ok
theorem Nice.append {R : Dk} {xs ys : List (Option (Nat × List Nat))} (h1 : Nice R xs) (h2 : Nice (R.run xs) ys) : Nice R (xs ++ ys) := by
  intro j
  rw [List.take_append, Dk.run_append]
  by_cases hj : j ≤ xs.length
  · rw [show j - xs.length = 0 by omega, List.take_zero]
    exact h1 j
  · rw [List.take_of_length_le (by omega)]
    exact h2 _
theorem nice_writes {R : Dk} (hR : R.nf) {xs : List (Option (Nat × List Nat))} (hw : allW xs) (hn : (R.run xs).keys.Nodup) (hk : (R.run xs).ok) : Nice R xs := by
  intro j
  have h1 : (R.run xs) = (R.run (xs.take j)).run (xs.drop j) := by rw [← Dk.run_append, List.take_append_drop]
  obtain ⟨ys, h2, h3⟩ := run_writes (xs.drop j) (R.run (xs.take j)) (hR.run _) (fun a ha => hw a (List.mem_of_mem_drop ha))
  rw [h1] at hn hk
  refine ⟨?_, ?_⟩
  · unfold Dk.keys at *
    rw [h2, List.map_append] at hn
    exact (List.nodup_append.1 hn).1
  · refine ⟨by rw [← h3]; exact hk.las, by rw [← h3]; exact hk.sec, fun x hx => hk.fre x (by rw [h2]; exact List.mem_append_left _ hx), ?_⟩
    have := hk.few
    rw [h2, List.length_append] at this
    omega
theorem nice_flush {R : Dk} (hR : R.nf) (hn : R.keys.Nodup) (hk : R.ok) : Nice R [none] := by
  intro j
  cases j with
  | zero => exact ⟨hn, hk⟩
  | succ j =>
    show (R.flush.run _).keys.Nodup ∧ (R.flush.run _).ok
    simp only [List.take_nil]
    show R.flush.keys.Nodup ∧ R.flush.ok
    rw [keys_nil hR.flush.2]
    exact ⟨List.nodup_nil, hk.flush⟩
theorem nice_one {R : Dk} (hR : R.nf) (hf : R.fre = []) (hk : R.ok) (x : Nat × List Nat) (hx : x.1 < 200) (hs : Sec x.2) : Nice R [some x, none] := by
  have h1 : (R.write x.1 x.2).keys.Nodup := by
    rw [(hR.write _ _).2.1, keys_nil hf]; simp
  have h2 : (R.write x.1 x.2).ok := hk.write hx hs (by rw [hf]; simp)
  intro j
  match j with
  | 0 => show R.keys.Nodup ∧ R.ok; rw [keys_nil hf]; exact ⟨List.nodup_nil, hk⟩
  | 1 => exact ⟨h1, h2⟩
  | j + 2 =>
    show ((R.write x.1 x.2).flush.run _).keys.Nodup ∧ ((R.write x.1 x.2).flush.run _).ok
    simp only [List.take_nil]
    show (R.write x.1 x.2).flush.keys.Nodup ∧ (R.write x.1 x.2).flush.ok
    rw [keys_nil (hR.write _ _).1.flush.2]
    exact ⟨List.nodup_nil, h2.flush⟩
end Go.Proofs.YtlhohmlpcgbliaaDoor
namespace Go.Proofs.YtlhohmlpcgbliaaDoor
set_option maxRecDepth 100000
open Go.RowKit
attribute [local go_sem ↓] Go.wp_at_zero Go.wp_at_succ

/-- The journal's entries from slot k on: until there are so many, or one is none. -/
def jents (D : Dk) (count : Nat) : Nat → Nat → List ByteArray
  | _, 0 => []
  | k, f + 1 => if k = count then [] else match unpL (D.slot 2 3 k) with
    | none => []
    | some e => strOf e :: jents D count (k + 1) f
def Dk.jE (D : Dk) (count : Nat) : List ByteArray := jents D count 0 12
theorem jents_len (D : Dk) (count : Nat) : ∀ (f k : Nat), (jents D count k f).length ≤ f := by
  intro f
  induction f with
  | zero => intro k; exact Nat.le_refl _
  | succ f ih =>
    intro k
    rw [jents]
    split
    · exact Nat.zero_le _
    · split
      · exact Nat.zero_le _
      · rw [List.length_cons]; exact Nat.succ_le_succ (ih _)
theorem jents_siz {D : Dk} (h : D.ok) (count : Nat) : ∀ (f k : Nat), k + f ≤ 12 → ∀ s ∈ jents D count k f, s.size ≤ 40 := by
  intro f
  induction f with
  | zero => intro k _ s hs; simp [jents] at hs
  | succ f ih =>
    intro k hk s hs
    rw [jents] at hs
    split at hs
    · simp at hs
    · split at hs
      · simp at hs
      · rename_i e he
        rcases List.mem_cons.1 hs with rfl | h1
        · have hsb := slot_byt h (start := 2) (each := 3) (i := k) (by omega)
          have hul := unpL_len (l := D.slot 2 3 k)
          have hub := unpL_byt hsb
          rw [he] at hul hub
          exact strOf_le hub hul
        · exact ih (k + 1) (by omega) s h1

theorem row_slice {w : World} {base : Nat} {v : Value} {ts : List ByteArray} (h : Row w base 9 v (strv ts)) : ∃ p cap, v = .slice p ts.length cap := by
  obtain ⟨h1, h2⟩ := h
  rw [strv_length] at h2
  rcases h2 with ⟨rfl, hn⟩ | ⟨g, cap, cur, rfl, hb, hg, hn, hm, hs, ht⟩
  · exact ⟨none, 0, by rw [hn]⟩
  · exact ⟨_, cap, rfl⟩
theorem jents_stop {D : Dk} {count k f : Nat} (h : k = count ∨ unpL (D.slot 2 3 k) = none) : jents D count k f = [] := by
  cases f with
  | zero => rfl
  | succ f =>
    rw [jents]
    rcases h with h | h
    · rw [if_pos h]
    · split
      · rfl
      · rw [h]
theorem jents_go {D : Dk} {count k f : Nat} {e : List Nat} (h : k ≠ count) (he : unpL (D.slot 2 3 k) = some e) : jents D count k (f + 1) = strOf e :: jents D count (k + 1) f := by
  rw [jents, if_neg h, he]

theorem row_apart {w : World} {base lb : Nat} {v : Value} {xs cs : List Value} (h : Row w base 9 v xs) (hB : Blk w lb 130 cs) : v.ownBlock ≠ some lb := by
  obtain ⟨_, h2⟩ := h
  rcases h2 with ⟨rfl, _⟩ | ⟨g, cap, cur, rfl, _, hg, _⟩
  · simp [Value.ownBlock]
  · intro e
    have e1 : g = lb := by simpa [Value.ownBlock] using e
    subst e1
    unfold Blk at hB
    rw [hB] at hg
    have := Option.some.inj hg
    injection this with _ h3 _
    exact absurd h3 (by decide)

set_option maxHeartbeats 4000000 in
theorem readAdded_any (b count : Nat) (fv : Value) (D : Dk) (w : World) (h : DiskAt w b fv D) :
    Calls Tryd.prog 131 #[.pointer (some ⟨b, 0, none⟩), .int .i64 (count : Int)] w fun e w' => ∃ v, e = .returned v ∧ Row w' w.heap.size 9 v (strv (D.jE count)) ∧ Below w.heap.size w w' := by
  have HD : Aside (DiskAt w b fv D) := h
  have HJ : Aside (D.jE count = jents D count 0 12) := rfl
  clear h
  generalize D.jE count = JE at *
  go_enter Tryd.func131, Tryd.ntmps131
  go_wp2
  go_step3
  go_wp2
  go_step3
  go_wp2
  go_loopg [5, 6] 4 (fun g s5 s6 wr => ∃ (at' k : Nat) (es : List ByteArray), at' + g = 6 ∧ k + 6 = at' * 3 ∧ s6 = .int .i64 (at' : Int) ∧ Aside (es.length = k ∧ JE = es ++ jents D count k (12 - k) ∧ Row wr w.heap.size 9 s5 (strv es) ∧ Below w.heap.size w wr))
  case atStart => exact ⟨2, 0, [], rfl, rfl, rfl, ⟨rfl, HJ.out, World.ownsRow_nil _ _ _ _, Below.refl _ _⟩⟩
  case round =>
    obtain ⟨at', k, es, hag, hka, rfl, HS⟩ := hrel
    cases gk with
    | zero =>
      have hc' : ¬ (at' : Int) < 6 := by omega
      go_wp2
      try rw [Exit.noGoto_ret]
      go_ret
      obtain ⟨h1, h2, h3, h4⟩ := HS.out
      rw [show 12 - k = 0 by omega] at h2
      simp only [jents, List.append_nil] at h2
      rw [h2]
      exact ⟨_, rfl, h3, h4⟩
    | succ g =>
      have hc' : (at' : Int) < 6 := by omega
      have hrd := read_any b fv D at' wr (HD.out.below HS.out.2.2.2) (by omega)
      have hsl := (HD.out.ok.read (i := at') (by omega)).len
      have HSL : Aside (∀ i, i < 3 → slotL (D.read at') 3 i = D.slot 2 3 (k + i)) := fun i hi => by
        unfold Dk.slot slotL
        rw [show 2 + (k + i) / 3 = at' by omega, show (k + i) % 3 = i % 3 by omega]
      generalize D.read at' = s at *
      go_wp2_with fail
      refine hrd.mono ?_
      rintro e w3 ⟨rfl, hb3⟩
      clear hrd
      have hz : Tryd.zeroCells130.toList.length = 128 := by rw [zeroSec]; simp
      have hN := Blk.newA w3 130 Tryd.zeroCells130
      have hth := hN.there 0 128 (by omega)
      have hN4 := hN.fill (u8s s) (by simp [hsl, hz])
      have hb4 : Below wr.heap.size wr ((w3.alloc (.cells Tryd.zeroCells130 130)).setCells w3.heap.size 0 (u8s s)) := Below.setCells (hb3.alloc hb3.size _) _ _ hb3.size _
      clear hN
      go_wp2_with (first | ((with_reducible refine stSec ?_ (.tmp 7) (.tmp 17) ?_ w3.heap.size 0 s ?_ ?_ hth hsl ?_); rfl; rfl; rfl; rfl))
      have H4 : Aside (Below w.heap.size w ((w3.alloc (.cells Tryd.zeroCells130 130)).setCells w3.heap.size 0 (u8s s)) ∧ Blk ((w3.alloc (.cells Tryd.zeroCells130 130)).setCells w3.heap.size 0 (u8s s)) w3.heap.size 130 (u8s s) ∧ ∀ x, Row wr w.heap.size 9 x (strv es) → Row ((w3.alloc (.cells Tryd.zeroCells130 130)).setCells w3.heap.size 0 (u8s s)) w.heap.size 9 x (strv es)) :=
        ⟨HS.out.2.2.2.trans (hb4.mono HS.out.2.2.2.size), hN4, fun x hx => hx.below hb4 (Nat.le_refl _)⟩
      have HW : Aside (w.heap.size ≤ w3.heap.size) := Nat.le_trans HS.out.2.2.2.size hb3.size
      clear hth hN4 hb4 hz
      generalize (w3.alloc (.cells Tryd.zeroCells130 130)).setCells w3.heap.size 0 (u8s s) = w4 at *
      generalize w3.heap.size = lb at *
      clear hb3
      go_loopg [5, 18] 3 (fun g2 s5 s18 wz => ∃ (i : Nat) (es2 : List ByteArray), i + g2 = 3 ∧ s18 = .int .i64 (i : Int) ∧ Aside (es2.length = k + i ∧ JE = es2 ++ jents D count (k + i) (12 - (k + i)) ∧ Row wz w.heap.size 9 s5 (strv es2) ∧ Below w.heap.size w wz ∧ Blk wz lb 130 (u8s s)))
      case atStart => exact ⟨0, es, rfl, rfl, ⟨HS.out.1, HS.out.2.1, H4.out.2.2 _ HS.out.2.2.1, H4.out.1, H4.out.2.1⟩⟩
      case round =>
        obtain ⟨i, es2, hig, rfl, HS2⟩ := hrel
        cases gk with
        | zero =>
          have hi3 : ¬ (i : Int) < 3 := by omega
          go_wp2
          go_roundg g
          case measure => omega
          case rel =>
            obtain rfl : i = 3 := by omega
            exact ⟨at' + 1, k + 3, es2, by omega, by omega, by go_num, ⟨HS2.out.1, HS2.out.2.1, HS2.out.2.2.1, HS2.out.2.2.2.1⟩⟩
        | succ g2 =>
          have hi3 : (i : Int) < 3 := by omega
          have hi2 : i < 3 := by omega
          have hk11 : k + i ≤ 11 := by omega
          obtain ⟨p, cap, hv⟩ := row_slice HS2.out.2.2.1
          rw [HS2.out.1] at hv
          subst hv
          by_cases hkc : k + i = count
          · have hkc' : ((k : Int) + (i : Int) == (count : Int)) = true := by simp; omega
            have HX : Aside (JE = es2) := by
              have := HS2.out.2.1
              rw [jents_stop (.inl hkc), List.append_nil] at this
              exact this
            clear hkc
            go_wp2
            try rw [Exit.noGoto_ret]
            go_ret
            rw [HX.out]
            exact ⟨_, rfl, HS2.out.2.2.1, HS2.out.2.2.2.1⟩
          · have hkc' : ((k : Int) + (i : Int) == (count : Int)) = false := by simp; omega
            have HN : Aside (k + i ≠ count) := hkc
            clear hkc
            go_wp2_with fail
            refine (added_any wr).mono ?_
            rintro e w5 ⟨rfl, hb5⟩
            have H5 : Aside (Below w.heap.size w w5 ∧ Blk w5 lb 130 (u8s s) ∧ Row w5 w.heap.size 9 (.slice p (k + i) cap) (strv es2)) := ⟨HS2.out.2.2.2.1.trans (hb5.mono HS2.out.2.2.2.1.size), HS2.out.2.2.2.2.below hb5 HS2.out.2.2.2.2.lt, HS2.out.2.2.1.below hb5 (Nat.le_refl _)⟩
            clear hb5
            have hsa : Calls Tryd.prog 117 #[rowV 2 3, .pointer (some ⟨lb, 0, none⟩), .int .i64 (i : Int)] w5 fun e w' => e = .returned (.slice (some ⟨lb, i % 3 * 42, none⟩) 42 (128 - i % 3 * 42)) ∧ Below w5.heap.size w5 w' := slot_any 2 3 lb i w5 (.inl rfl) (by omega)
            have hl := slotL_length i hsl (.inl rfl)
            have HR : Aside (∀ wx, Below w5.heap.size w5 wx → wx.rangeAt lb (i % 3 * 42) (u8s (slotL s 3 i))) := by
              intro wx hx
              have hB6 := H5.out.2.1.below hx H5.out.2.1.lt
              have := hB6.part (i % 3 * 42) 42
              unfold slotL
              rw [u8s_take, u8s_drop]
              exact this
            have hsb := slot_byt HD.out.ok (start := 2) (each := 3) (i := k + i) (by omega)
            rw [HSL.out i hi2] at hl HR
            have HU : Aside (D.slot 2 3 (k + i) = D.slot 2 3 (k + i)) := rfl
            generalize hsd : D.slot 2 3 (k + i) = sl at *
            have HSD : Aside (D.slot 2 3 (k + i) = sl) := hsd
            clear hsd HU
            generalize i % 3 * 42 = off at *
            go_wp2_with fail
            refine hsa.mono ?_
            rintro e w6 ⟨rfl, hb6⟩
            have hcv := convert_range (cap := 128 - off) (HR.out w6 hb6)
            rw [show sl.length = 42 from hl] at hcv
            have hun := unpacked_any sl w6 (by rw [show sl.length = 42 from hl]; omega) hsb
            have H6 : Aside (Below w.heap.size w w6 ∧ Blk w6 lb 130 (u8s s) ∧ Row w6 w.heap.size 9 (.slice p (k + i) cap) (strv es2)) := ⟨H5.out.1.trans (hb6.mono H5.out.1.size), H5.out.2.1.below hb6 H5.out.2.1.lt, H5.out.2.2.below hb6 (Nat.le_refl _)⟩
            clear hsa hb6 hl HR hsb
            generalize hun0 : unpL sl = u at *
            have HU : Aside (unpL (D.slot 2 3 (k + i)) = u) := by show _ = _; rw [HSD.out, hun0]
            clear hun0
            generalize strOf sl = x at *
            go_wp2_with fail
            refine hun.mono ?_
            rintro e w7 ⟨rfl, rfl⟩
            clear hun hcv
            cases u with
            | none =>
              have HX : Aside (JE = es2) := by
                have := HS2.out.2.1
                rw [jents_stop (.inr HU.out), List.append_nil] at this
                exact this
              simp only [Option.isSome_none, Option.getD_none]
              go_wp2
              try rw [Exit.noGoto_ret]
              go_ret
              rw [HX.out]
              exact ⟨_, rfl, H6.out.2.2, H6.out.1⟩
            | some eb =>
              have HX : Aside (JE = (es2 ++ [strOf eb]) ++ jents D count (k + (i + 1)) (12 - (k + (i + 1)))) := by
                have := HS2.out.2.1
                rw [show 12 - (k + i) = (12 - (k + (i + 1))) + 1 by omega, jents_go HN.out HU.out] at this
                rw [List.append_assoc]
                exact this
              have HXX : Aside (strv es2 ++ [.string (strOf eb)] = strv (es2 ++ [strOf eb])) := by show _ = _; simp [strv]
              have hxl : (strv es2).length = k + i := by rw [strv_length]; exact HS2.out.1
              have hrow := H6.out.2.2
              have hsz7 := H6.out.1.size
              have HE : Aside (es2.length = k + i) := HS2.out.1
              simp only [Option.isSome_some, Option.getD_some]
              generalize strOf eb = y at *
              generalize strv es2 = xs at *
              go_wp2_with (at_builtin; refine wpList_app elem_string rfl Tryd.underlying22 (by rfl) (.tmp 35) (.tmp 37) (by rfl) w.heap.size _ xs (by rfl) (hrow.alloc _) _ 1 1 [.string y] (by rfl) rfl (Blk.new _ 9 _) ?h1 ?hl ?hb ?hbs (w0 := w) (B := w.heap.size) (H6.out.1.alloc H6.out.1.size _) (Nat.le_refl _) ?_)
              case h1 => intro u hu; simp at hu; subst hu; rfl
              case hl => omega
              case hb => omega
              case hbs => simp; omega
              intro vL w8 hrow8 hgr b8
              rw [HXX.out] at hrow8
              have H8 : Aside (Blk w8 lb 130 (u8s s) ∧ Row w8 w.heap.size 9 vL (strv (es2 ++ [y])) ∧ Below w.heap.size w w8) := by
                refine ⟨?_, hrow8, b8⟩
                have h9 := H6.out.2.1.alloc (.cells #[.string y] 9)
                have h10 := row_apart (hrow.alloc (.cells #[.string y] 9)) h9
                have h11 := hgr.block lb h9.lt (fun e => h10 e.symm)
                unfold Blk at *
                rw [h11]; exact h9
              clear hrow8 hgr b8 hrow
              go_wp2
              go_roundg g2
              case measure => omega
              case rel => exact ⟨i + 1, es2 ++ [y], by omega, by go_num, ⟨by rw [List.length_append, HE.out]; rfl, HX.out, H8.out.2.1, H8.out.2.2, H8.out.1⟩⟩
end Go.Proofs.YtlhohmlpcgbliaaDoor
namespace Go.Proofs.YtlhohmlpcgbliaaDoor
set_option maxRecDepth 100000
open Go.RowKit
attribute [local go_sem ↓] Go.wp_at_zero Go.wp_at_succ

/-- What a journal's head tells: the first entry's number, and how many there are. -/
def Dk.jF (D : Dk) : Nat := (D.read 1).getD 13 0
def Dk.jN (D : Dk) : Nat := (D.read 1).getD 14 0

theorem row_base {w : World} {b b' : Nat} {e : TypeId} {v : Value} {xs : List Value} (h : Row w b e v xs) (hb : b' ≤ b) : Row w b' e v xs := by
  obtain ⟨h1, h2⟩ := h
  refine ⟨h1, ?_⟩
  rcases h2 with h0 | ⟨g, cap, cur, hv, hbg, rr⟩
  · exact .inl h0
  · exact .inr ⟨g, cap, cur, hv, Nat.le_trans hb hbg, rr⟩
theorem exec_cv {P : Program} {o : Oper} {a : Act} {w : World} {t1 t2 : TypeId} {x : Operand} {v u : Value} (ho : o.op = .convert t1 t2 x) (hx : a.eval x = v) (hr : (convert t1 t2 v).run P w = .ok u w) : (execOp a.eval o).run P w = .ok (.value u) w := by
  unfold execOp
  simp only [ho, hx, Sem.run_bind, hr, Result.andThen_ok, Sem.run_pure]
theorem cvt_u8 (f : Nat) (hf : f < 256) (w : World) : (convert 5 3 (.int .u8 (f : Int))).run Tryd.prog w = .ok (.int .i64 (f : Int)) w := by
  have h : IntKind.i64.wrap (f : Int) = (f : Int) := IntWalk.i64_in _ ⟨by omega, by omega⟩
  simp [go_sem]
  exact h
theorem loadByte (w : World) (b o : Nat) (x : Int) (h : w.cell? ⟨b, o, none⟩ = some (.int .u8 x)) : (Instr.loadAt 5 (.pointer (some ⟨b, o, none⟩))).run Tryd.prog w = .ok (.int .u8 x) w := by
  simp [go_sem, h]
theorem ixByte (w : World) (b k : Nat) (hk : k < 128) : (Instr.indexAt 130 (.pointer (some ⟨b, 0, none⟩)) (.int .i64 (k : Int))).run Tryd.prog w = .ok (.pointer (some ⟨b, k, none⟩)) w := by
  have h : (k : Int) < 128 := by omega
  simp [go_sem, h]

set_option maxHeartbeats 2000000 in
theorem rjR4_wp {c0 c1 c2 c3 c5 c6 c7 c8 c9 c10 c11 c12 c13 c14 c15 c16 c17 c18 c19 c20 c21 c22 c23 : Value} (lb f cnt : Nat) (w : World) (Q : Exit → Act → World → Prop) (h13 : w.cell? ⟨lb, 13, none⟩ = some (.int .u8 (f : Int))) (h14 : w.cell? ⟨lb, 14, none⟩ = some (.int .u8 (cnt : Int))) (hf : f < 256) (hn : cnt < 256)
    (hQ : ∀ (u13 u14 u15 u16 u17 u18 : Value), Q .normal ⟨#[c0, c1, c2, c3, .pointer (some ⟨lb, 0, none⟩), .int .i64 (f : Int), .int .i64 (cnt : Int), c7, c8, c9, c10, c11, c12, u13, u14, u15, u16, u17, u18, c19, c20, c21, c22, c23], []⟩ w.drew) :
    Code.wp Tryd.prog (rgn Tryd.f106 4) Q ⟨#[c0, c1, c2, c3, .pointer (some ⟨lb, 0, none⟩), c5, c6, c7, c8, c9, c10, c11, c12, c13, c14, c15, c16, c17, c18, c19, c20, c21, c22, c23], []⟩ w := by
  have hS : (fun wx : World => wx = w.drew) w.drew := rfl
  have i13 : ∀ wx, (Instr.indexAt 130 (.pointer (some ⟨lb, 0, none⟩)) (.int .i64 13)).run Tryd.prog wx = .ok (.pointer (some ⟨lb, 13, none⟩)) wx := fun wx => ixByte wx lb 13 (by omega)
  have i14 : ∀ wx, (Instr.indexAt 130 (.pointer (some ⟨lb, 0, none⟩)) (.int .i64 14)).run Tryd.prog wx = .ok (.pointer (some ⟨lb, 14, none⟩)) wx := fun wx => ixByte wx lb 14 (by omega)
  conv => arg 2; whnf
  refine wp_region_s (fun wx : World => wx = w.drew) (by kernel_rfl) ?_
  refine wpS_pure (k := 0) (v := .pointer (some ⟨lb, 13, none⟩)) (by rfl) (by kernel_rfl) (by kernel_rfl) (by kernel_rfl) (by rfl) (some 13) (by rfl) hS (fun wx _ => exec_ix (by rfl) (by rfl) (by rfl) (i13 wx)) ?_
  simp only [Act.put, List.setIfInBounds_toArray, List.set_cons_succ, List.set_cons_zero]
  refine wpS_pure (k := 1) (v := .int .u8 (f : Int)) (by rfl) (by kernel_rfl) (by kernel_rfl) (by kernel_rfl) (by rfl) (some 14) (by rfl) hS (fun wx hx => exec_ld (by rfl) (by rfl) (loadByte wx lb 13 _ (by rw [hx]; exact h13))) ?_
  simp only [Act.put, List.setIfInBounds_toArray, List.set_cons_succ, List.set_cons_zero]
  refine wpS_pure (k := 2) (v := .int .i64 (f : Int)) (by rfl) (by kernel_rfl) (by kernel_rfl) (by kernel_rfl) (by rfl) (some 15) (by rfl) hS (fun wx _ => exec_cv (by rfl) (by rfl) (cvt_u8 f hf wx)) ?_
  simp only [Act.put, List.setIfInBounds_toArray, List.set_cons_succ, List.set_cons_zero]
  refine wpS_pure (k := 3) (v := .pointer (some ⟨lb, 14, none⟩)) (by rfl) (by kernel_rfl) (by kernel_rfl) (by kernel_rfl) (by rfl) (some 16) (by rfl) hS (fun wx _ => exec_ix (by rfl) (by rfl) (by rfl) (i14 wx)) ?_
  simp only [Act.put, List.setIfInBounds_toArray, List.set_cons_succ, List.set_cons_zero]
  refine wpS_pure (k := 4) (v := .int .u8 (cnt : Int)) (by rfl) (by kernel_rfl) (by kernel_rfl) (by kernel_rfl) (by rfl) (some 17) (by rfl) hS (fun wx hx => exec_ld (by rfl) (by rfl) (loadByte wx lb 14 _ (by rw [hx]; exact h14))) ?_
  simp only [Act.put, List.setIfInBounds_toArray, List.set_cons_succ, List.set_cons_zero]
  refine wpS_pure (k := 5) (v := .int .i64 (cnt : Int)) (by rfl) (by kernel_rfl) (by kernel_rfl) (by kernel_rfl) (by rfl) (some 18) (by rfl) hS (fun wx _ => exec_cv (by rfl) (by rfl) (cvt_u8 cnt hn wx)) ?_
  simp only [Act.put, List.setIfInBounds_toArray, List.set_cons_succ, List.set_cons_zero]
  refine wpS_pure (k := 6) (v := .int .i64 (f : Int)) (by rfl) (by kernel_rfl) (by kernel_rfl) (by kernel_rfl) (by rfl) (some 5) (by rfl) hS (fun _ _ => by kernel_rfl) ?_
  simp only [Act.put, List.setIfInBounds_toArray, List.set_cons_succ, List.set_cons_zero]
  refine wpS_pure (k := 7) (v := .int .i64 (cnt : Int)) (by rfl) (by kernel_rfl) (by kernel_rfl) (by kernel_rfl) (by rfl) (some 6) (by rfl) hS (fun _ _ => by kernel_rfl) ?_
  simp only [Act.put, List.setIfInBounds_toArray, List.set_cons_succ, List.set_cons_zero]
  refine wpAnyH_done (by kernel_rfl) ?_ _
  refine NoPanic.normal ?_
  exact hQ _ _ _ _ _ _

set_option maxHeartbeats 4000000 in
theorem readJournal_some (b : Nat) (fv : Value) (D : Dk) (w : World) (h : DiskAt w b fv D) (hz : D.read 1 ≠ zer) :
    Calls Tryd.prog 106 #[.pointer (some ⟨b, 0, none⟩)] w fun e w' => ∃ v, e = .returned (.tuple #[.agg #[.int .i64 (D.jF : Int), v], .bool true]) ∧ Row w' w.heap.size 9 v (strv (D.jE D.jN)) ∧ Below w.heap.size w w' := by
  have hb0 : Below w.heap.size w (w.alloc (.cells #[.int .i64 0, .slice none 0 0] 126)) := (Below.refl _ _).alloc (Nat.le_refl _) _
  have hJ0 : Blk (w.alloc (.cells #[.int .i64 0, .slice none 0 0] 126)) w.heap.size 126 [.int .i64 0, .slice none 0 0] := Blk.new w _ _
  have hrd : Calls Tryd.prog 116 #[.pointer (some ⟨b, 0, none⟩), .int .i64 1] (w.alloc (.cells #[.int .i64 0, .slice none 0 0] 126)) fun e w' => e = .returned (.agg (u8s (D.read 1)).toArray) ∧ Below (w.alloc (.cells #[.int .i64 0, .slice none 0 0] 126)).heap.size (w.alloc (.cells #[.int .i64 0, .slice none 0 0] 126)) w' := read_any b fv D 1 _ (h.below hb0) (by omega)
  have hsl := (h.ok.read (i := 1) (by omega)).len
  have hzz0 : zer.length = 128 := by simp [zer]
  have HF : Aside (D.jF = (D.read 1).getD 13 0 ∧ D.jN = (D.read 1).getD 14 0) := ⟨rfl, rfl⟩
  have HDD : Aside (DiskAt w b fv D) := h
  have HNZ : Aside (D.read 1 ≠ zer) := hz
  have HBY : Aside (∀ k, (D.read 1).getD k 0 < 256) := fun k => byt_ok (h.ok.read (i := 1) (by omega)).byt k
  have hzz : Tryd.zeroCells130 = (u8s zer).toArray := zeroSec
  have hzl : Tryd.zeroCells130.toList.length = 128 := by rw [zeroSec]; simp
  have hbd : ∀ wx, (Instr.build 130 #[]).run Tryd.prog wx = .ok (.agg Tryd.zeroCells130) wx := fun wx => run_build wx 130 _ _ (by kernel_rfl)
  go_enter Tryd.func106, Tryd.ntmps106
  go_wp2_with fail
  have hs0 : w.heap.size < (w.alloc (.cells #[.int .i64 0, .slice none 0 0] 126)).heap.size := by simp
  generalize w.alloc (.cells #[.int .i64 0, .slice none 0 0] 126) = w0 at *
  refine hrd.mono ?_
  rintro e w1 ⟨rfl, hb1⟩
  have hb2 : Below w0.heap.size w0 (w1.alloc (.cells Tryd.zeroCells130 130)) := hb1.alloc hb1.size _
  have hB := Blk.newA w1 130 Tryd.zeroCells130
  clear hz h
  generalize D.read 1 = s at *
  have hB3 := hB.fill (u8s s) (by simp [hsl, hzl])
  have hb3 := Below.setCells hb2 w1.heap.size 0 hb1.size (u8s s)
  have hJ3 := hJ0.below hb3 hJ0.lt
  have HZ : Hid (Tryd.zeroCells130 = (u8s zer).toArray) := hzz
  clear hzz
  have hth := hB.there 0 128 (by omega)
  have hrg := hB3.range
  have HA : Hid ((u8s s).toArray = (u8s s).toArray) := rfl
  go_wp2_with (first | ((with_reducible refine stSec ?_ (.tmp 4) (.tmp 8) ?_ w1.heap.size 0 s ?_ ?_ hth hsl ?_); rfl; rfl; rfl; rfl) | ((with_reducible refine ldSec ?_ (.tmp 4) ?_ w1.heap.size 0 ?_ s hrg hsl ?_); rfl; rfl; rfl; show Go.Shut _))
  try unfold Go.Shut
  clear hth hrg
  have H3 : Aside (Below w.heap.size w ((w1.alloc (.cells Tryd.zeroCells130 130)).setCells w1.heap.size 0 (u8s s))) := hb0.trans (hb3.mono hb0.size)
  generalize (w1.alloc (.cells Tryd.zeroCells130 130)).setCells w1.heap.size 0 (u8s s) = w3 at *
  have hc13 := hB3.cell 13
  have hc14 := hB3.cell 14
  rw [u8s_get s 13 (by omega)] at hc13
  rw [u8s_get s 14 (by omega)] at hc14
  clear hB3 hB hb2 hb3
  generalize hqa : (u8s s).toArray = arr at *
  clear HA
  refine .inl ?_
  refine eqlSec (by rfl) (.tmp 9) (.tmp 10) (by rfl) s zer arr Tryd.zeroCells130 (by rfl) (by rfl) hqa.symm HZ.out hsl hzz0 ?_
  have hd : decide (s = zer) = false := by simpa using HNZ.out
  rw [hd]
  refine wpList_nil ?_
  clear hqa HZ hbd hzl hd
  generalize Tryd.zeroCells130 = zz at *
  rw [← HF.out.1] at hc13
  rw [← HF.out.2] at hc14
  have hf256 : D.jF < 256 := by rw [HF.out.1]; exact HBY.out 13
  have hn256 : D.jN < 256 := by rw [HF.out.2]; exact HBY.out 14
  have hra := fun wx (hx : Below w.heap.size w wx) => readAdded_any b D.jN fv D wx (HDD.out.below hx)
  generalize hje : D.jE D.jN = JE at *
  generalize hjf : D.jF = f at *
  have HE : Aside (D.jE D.jN = JE ∧ D.jF = f) := ⟨hje, hjf⟩
  clear hje hjf
  generalize D.jN = cnt at hra hn256 hc14
  clear HF HBY
  go_wp2_with fail
  refine rjR4_wp w1.heap.size f cnt w3 _ hc13 hc14 hf256 hn256 ?_
  intro u13 u14 u15 u16 u17 u18
  have H4 : Aside (Below w.heap.size w w3.drew ∧ Blk w3.drew w.heap.size 126 [.int .i64 0, .slice none 0 0]) := ⟨H3.out.drew, hJ3⟩
  generalize w3.drew = w4 at *
  have hra4 := hra w4 H4.out.1
  clear hra hc13 hc14 hJ3 H3
  go_wp2_with fail
  refine hra4.mono ?_
  rintro e w5 ⟨v, rfl, hrow, hb5⟩
  clear hra4
  have hJ5 := H4.out.2.below hb5 H4.out.2.lt
  have hb6 : Below w.heap.size w w5 := H4.out.1.trans (hb5.mono H4.out.1.size)
  obtain ⟨p, cap, rfl⟩ := row_slice hrow
  have hc0 := hJ5.cell 0
  have hc1 := hJ5.cell 1
  have hf0 := hJ5.frozen 0
  have hf1 := hJ5.frozen 1
  simp only [List.getElem?_cons_zero, List.getElem?_cons_succ] at hc0 hc1
  have HJ := (hJ5.set 0 (.int .i64 (f : Int))).set 1 (.slice p JE.length cap)
  simp only [List.set_cons_zero, List.set_cons_succ] at HJ
  have Hb : Below w.heap.size w ((w5.setCell ⟨w.heap.size, 0, none⟩ (.int .i64 (f : Int))).setCell ⟨w.heap.size, 1, none⟩ (.slice p JE.length cap)) := (hb6.setCell (Nat.le_refl _) _).setCell (Nat.le_refl _) _
  have hc1' : (w5.setCell ⟨w.heap.size, 0, none⟩ (.int .i64 (f : Int))).cell? ⟨w.heap.size, 1, none⟩ = some (.slice none 0 0) := by rw [cell_set_off _ _ _ _ _ (by omega)]; exact hc1
  have hf1' := (hJ5.set 0 (.int .i64 (f : Int))).frozen 1
  have hl4 : w.heap.size < w4.heap.size := H4.out.2.lt
  have hown : (Value.slice p JE.length cap).ownBlock ≠ some w.heap.size := fun e => by have := (hrow.lt _ e).1; omega
  have HR : Aside (Row ((w5.setCell ⟨w.heap.size, 0, none⟩ (.int .i64 (f : Int))).setCell ⟨w.heap.size, 1, none⟩ (.slice p JE.length cap)) w.heap.size 9 (.slice p JE.length cap) (strv JE)) := row_base (ownsRow_setCell_other (ownsRow_setCell_other hrow hown _) hown _) (Nat.le_of_lt hl4)
  clear hrow hown
  go_wp2_with fail
  exact bodyPost_ret (results_ct Tryd.results106 (by rfl) (by rfl) HJ.range Tryd.underlying126 rfl infoJ) rfl ⟨.slice p JE.length cap, by rw [HE.out.2]; rfl, by rw [HE.out.1]; exact HR.out, Hb⟩
end Go.Proofs.YtlhohmlpcgbliaaDoor
