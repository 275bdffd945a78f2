import Derived.Test.YtlhohmlpcgbliabGreatDoorZX14
import Derived.Maps.AppendAt
namespace Go.Proofs.YtlhohmlpcgbliabGreatDoor
set_option maxRecDepth 100000
open Go.RowKit
attribute [local go_sem ↓] Go.wp_at_zero Go.wp_at_succ

theorem Row.form {w : World} {base : Nat} {e : TypeId} {v : Value} {xs : List Value} (h : Row w base e v xs) (hne : 0 < xs.length) :
    ∃ g cap, v = .slice (some ⟨g, 0, none⟩) xs.length cap ∧ base ≤ g ∧ xs.length ≤ cap ∧ cap ≤ maxLen ∧ (∀ j, j < xs.length → w.cell? ⟨g, j, none⟩ = xs[j]?) ∧ g < w.heap.size ∧ (∀ j, w.frozen? ⟨g, j, none⟩ = false) := by
  obtain ⟨h1, h2⟩ := h
  rcases h2 with ⟨_, h0⟩ | ⟨g, cap, cur, rfl, hb, hg, hn, hm, hs, ht⟩
  · omega
  · refine ⟨g, cap, rfl, hb, hn, hm, ?_, (Array.getElem?_eq_some_iff.1 hg).1, ?_⟩
    · intro j hj
      have : xs[j]? = cur.toList[j]? := by
        rw [← ht, List.getElem?_take_of_lt (by omega)]
      simp [World.cell?, hg, this]
    · intro j
      simp [World.frozen?, hg]
theorem Row.below {w w' : World} {base B : Nat} {e : TypeId} {v : Value} {xs : List Value} (h : Row w base e v xs) (hb : Below B w w') (hB : w.heap.size ≤ B) : Row w' base e v xs := by
  obtain ⟨h1, h2⟩ := h
  refine ⟨h1, ?_⟩
  rcases h2 with h0 | ⟨g, cap, cur, hv, hbg, hg, r⟩
  · exact Or.inl h0
  · have : g < w.heap.size := (Array.getElem?_eq_some_iff.1 hg).1
    exact Or.inr ⟨g, cap, cur, hv, hbg, by rw [hb.block g (by omega)]; exact hg, r⟩
theorem Row.drewN {w : World} {base : Nat} {e : TypeId} {v : Value} {xs : List Value} (h : Row w base e v xs) (n : Nat) : Row (w.drewN n) base e v xs := h
theorem Row.mono {w : World} {base b' : Nat} {e : TypeId} {v : Value} {xs : List Value} (h : Row w base e v xs) (hb : b' ≤ base) : Row w b' e v xs := by
  obtain ⟨h1, h2⟩ := h
  refine ⟨h1, ?_⟩
  rcases h2 with h0 | ⟨g, cap, cur, hv, hbg, r⟩
  · exact Or.inl h0
  · exact Or.inr ⟨g, cap, cur, hv, by omega, r⟩
theorem Row.eq {w : World} {base : Nat} {e : TypeId} {v : Value} {xs ys : List Value} (h : Row w base e v xs) (he : xs = ys) : Row w base e v ys := he ▸ h
/-- A new slice that a literal lays. -/
theorem Row.lit' (w : World) (base : Nat) (e : TypeId) (xs : List Value) (n : Nat) (hn : xs.length = n) (hb : base ≤ w.heap.size) (hm : n ≤ maxLen) : Row (w.alloc (.cells xs.toArray e)) base e (.slice (some ⟨w.heap.size, 0, none⟩) n n) xs := by
  subst hn; exact Row.lit w base e xs hb hm

/-- What an append onto a slice of the call's own does; the old cells are kept. -/
theorem run_app {e t : TypeId} {z : Value} {bytes : Nat} (hel : Elem e z bytes) (hz : z.cells.size = 1) (ht : Tryz.prog.underlying t = some (.slice e)) (ty : TypeId)
    (w : World) (base : Nat) (v : Value) (xs : List Value) (hown : Row w base e v xs) (g0 m c : Nat) (news : List Value) (hm : news.length = m) (hm0 : 0 < m) (hnews : Blk w g0 e news) (h1 : ∀ u ∈ news, u.oneCell' = true)
    (hlen : xs.length + m ≤ 1000000000000) (hby : bytes ≤ 16) (hbase : base ≤ w.heap.size) :
    ∃ g cap w', (Builtin.append_ #[t, t] ty #[v, .slice (some ⟨g0, 0, none⟩) m c]).run Tryz.prog w = .ok (.slice (some ⟨g, 0, none⟩) (xs.length + m) cap) w' ∧ Row w' base e (.slice (some ⟨g, 0, none⟩) (xs.length + m) cap) (xs ++ news) ∧ w.grownBy w' v.ownBlock ∧
      (∀ g1 c1 j, v = .slice (some ⟨g1, 0, none⟩) xs.length c1 → j < xs.length → w'.cell? ⟨g1, j, none⟩ = w.cell? ⟨g1, j, none⟩) := by
  obtain ⟨i, hi, hiz, his, hib⟩ := hel
  have hb : (xs.length + m) * bytes ≤ 140737488355328 := Nat.le_trans (Nat.mul_le_mul hlen hby) (by omega)
  have hnw : ∀ j u, news[j]? = some u → w.cell? ((⟨g0, 0, none⟩ : Addr).add j) = some u := by
    intro j u hu
    rw [Addr.add_mid, Nat.zero_add, hnews.cell]
    exact hu
  obtain ⟨v', w', hr, hown', hgr, hnil⟩ := run_append_own (P := Tryz.prog) w base t ty e i z 1 bytes ht hi hiz his hib hz (by omega) v xs.length xs hown ⟨g0, 0, none⟩ m c news (by omega) hnw h1 (by unfold maxLen; omega) hb hbase
  have hrow : Row w' base e v' (xs ++ news) := by
    unfold Row
    rw [List.length_append, hm]
    exact hown'
  obtain ⟨g, cap, rfl, _⟩ := hrow.form (by rw [List.length_append]; omega)
  rw [List.length_append, hm] at hr hrow
  refine ⟨g, cap, w', hr, hrow, hgr, ?_⟩
  intro g1 c1 j hv hj
  subst hv
  obtain ⟨_, h2⟩ := hown
  rcases h2 with ⟨h0, _⟩ | ⟨g2, cap2, cur, he, hbg, hg, hnc, hcm, hcs, htake⟩
  · cases h0
  · injection he with e1 _ e3
    injection e1 with e1
    injection e1 with e1
    subst e1 e3
    by_cases hroom : xs.length + m ≤ c1
    · have hr2 := run_append_room (P := Tryz.prog) w t ty e i ht hi g1 xs.length c1 cur hg ⟨g0, 0, none⟩ m c news (by rw [his]; omega) hnw h1 hroom (by rw [his]; omega)
      rw [hr2] at hr
      injection hr with _ hw
      subst hw
      have hgs := setRow_heap w g1 cur (cur.toList.take (xs.length * i.size) ++ news ++ cur.toList.drop (xs.length * i.size + news.length)).toArray e (0, 0) hg
      simp only [World.cell?, hgs, hg]
      rw [his]
      simp
      rw [List.getElem?_append_left (by simp; omega), List.getElem?_take_of_lt (by omega)]
      simp
    · have holds : ∀ j u, xs[j]? = some u → w.cell? ((⟨g1, 0, none⟩ : Addr).add j) = some u := by
        intro j u hu
        have hj2 : j < xs.length := (List.getElem?_eq_some_iff.1 hu).1
        rw [Addr.add_mid, Nat.zero_add]
        have : xs[j]? = cur.toList[j]? := by
          rw [← htake, List.getElem?_take_of_lt (by omega)]
        simp [World.cell?, hg]
        rw [← hu, this]
        simp
      have hr2 := run_append_grow (P := Tryz.prog) w t ty e i z ht hi hiz ⟨g1, 0, none⟩ xs.length c1 xs (by rw [his]; omega) holds ⟨g0, 0, none⟩ m c news (by rw [his]; omega) hnw (by omega) (by omega) (growslice_fits (by omega) (by rw [hib]; exact hb))
      rw [hr2] at hr
      injection hr with _ hw
      subst hw
      have hlt : g1 < w.heap.size := (Array.getElem?_eq_some_iff.1 hg).1
      exact World.cell?_of_block (Below.heap_alloc _ _ _ hlt)

end Go.Proofs.YtlhohmlpcgbliabGreatDoor
namespace Go.Proofs.YtlhohmlpcgbliabGreatDoor
set_option maxRecDepth 100000
open Go.RowKit
attribute [local go_sem ↓] Go.wp_at_zero Go.wp_at_succ

set_option maxHeartbeats 400000 in
theorem not_any (x : Nat) (w : World) (hx : x < 4294967296) :
    Calls Tryz.prog 82 #[.int .i64 (x : Int)] w fun e w' => e = .returned (.int .i64 ((4294967295 - x : Nat) : Int)) ∧ w' = w := by
  go_enter Tryz.func82, Tryz.ntmps82
  go_wp2
  go_ret
  exact ret_i64 (by omega) rfl

theorem int_i64 {a b : Int} (h : a = b) : Value.int .i64 a = .int .i64 b := by rw [h]
/-- A hexadecimal digit's value. -/
def digit (c : Nat) : Nat := if 97 ≤ c then c - 97 + 10 else c - 48
/-- The first k of eight digits. -/
def hexK (l : List Nat) (i : Nat) : Nat → Nat
  | 0 => 0
  | k + 1 => 16 * hexK l i k + digit (l.getD (8 * i + k) 0)
def isHex (l : List Nat) : Prop := ∀ i, 48 ≤ l.getD i 48 ∧ l.getD i 48 ≤ 57 ∨ 97 ≤ l.getD i 48 ∧ l.getD i 48 ≤ 102
theorem digit_lt {c : Nat} (h : 48 ≤ c ∧ c ≤ 57 ∨ 97 ≤ c ∧ c ≤ 102) : digit c < 16 := by unfold digit; split <;> omega

theorem byte_at (s : ByteArray) (i : Nat) (h : i < s.size) : (s[i].toNat : Nat) = (bts s).getD i 0 := by
  rw [List.getD_eq_getElem?_getD]
  simp [bts, h]
  rfl

set_option maxRecDepth 100000 in
set_option maxHeartbeats 400000 in
theorem word_any (s : ByteArray) (i : Nat) (w : World) (hs : 8 * i + 8 ≤ s.size) (hsz : s.size < 1000000) (hx : isHex (bts s)) :
    Calls Tryz.prog 52 #[.string s, .int .i64 (i : Int)] w fun e w' => e = .returned (.int .i64 (hexK (bts s) i 8 : Int)) ∧ w' = w := by
  go_enter Tryz.func52, Tryz.ntmps52
  go_wp2
  go_loop [5, 6] (fun n k => ∃ j : Nat, j ≤ 8 ∧ k = .int .i64 j ∧ n = .int .i64 (hexK (bts s) i j : Int) ∧ hexK (bts s) i j < 16 ^ j) (fun _ k => 8 - (intOf k).toNat)
  case atStart => exact ⟨0, by omega, rfl, rfl, by simp [hexK]⟩
  case round =>
    obtain ⟨j, hj, rfl, rfl, hb⟩ := hrel
    by_cases hlt : j < 8
    · have hb2 : hexK (bts s) i j < 268435456 := Nat.lt_of_lt_of_le hb (show 16 ^ j ≤ 16 ^ 7 from Nat.pow_le_pow_right (by omega) (by omega))
      have hi : 8 * i + j < s.size := by omega
      have hc := hx (8 * i + j)
      have hg : (bts s).getD (8 * i + j) 48 = (bts s).getD (8 * i + j) 0 := by
        rw [List.getD_eq_getElem?_getD, List.getD_eq_getElem?_getD, List.getElem?_eq_getElem (by simpa using hi)]
        rfl
      rw [hg, ← byte_at s _ hi] at hc
      have HN : Hid (hexK (bts s) i (j + 1) = 16 * hexK (bts s) i j + digit (s[8 * i + j].toNat)) := by
        show _ = _
        rw [byte_at s _ hi]; rfl
      have HB : Hid (hexK (bts s) i (j + 1) < 16 ^ (j + 1)) := by
        show _ < _
        rw [HN.out, Nat.pow_succ]
        have := digit_lt hc
        omega
      generalize hexK (bts s) i j = q at *
      by_cases h97 : 97 ≤ s[8 * i + j].toNat
      · have HD : Hid (digit (s[8 * i + j].toNat) = s[8 * i + j].toNat - 97 + 10) := by show _ = _; simp [digit, h97]
        go_wp2
        refine ⟨⟨j + 1, by omega, by go_num, ?_, HB.out⟩, by simp [intOf]; omega⟩
        rw [HN.out, HD.out]
        exact int_i64 (by omega)
      · have HD : Hid (digit (s[8 * i + j].toNat) = s[8 * i + j].toNat - 48) := by show _ = _; simp [digit, h97]
        go_wp2
        refine ⟨⟨j + 1, by omega, by go_num, ?_, HB.out⟩, by simp [intOf]; omega⟩
        rw [HN.out, HD.out]
        exact int_i64 (by omega)
    · have hj8 : j = 8 := by omega
      subst hj8
      go_wp2
      go_ret
      exact ⟨rfl, rfl⟩
end Go.Proofs.YtlhohmlpcgbliabGreatDoor
