import Derived.Test.YteillcbajkhjkaaDoorR16
namespace Go.Proofs.YteillcbajkhjkaaDoor
open Go.RowKit
attribute [local go_sem ↓] Go.wp_at_zero Go.wp_at_succ

theorem out_outK (s : Sha.St) : outK s.list 8 = Sha.out s := rfl

set_option maxRecDepth 100000 in
set_option maxHeartbeats 4000000 in
theorem hshB8_wp {c0 c1 c2 c3 c4 c5 c6 c7 c9 c10 c13 c14 c15 c16 c17 c18 c19 c20 c21 c22 c23 c24 c25 c26 c27 c28 c29 c30 c31 c32 c33 c34 c35 c36 c37 c38 c39 c40 c41 c42 c43 c44 c45 c46 c47 c48 c49 c50 c51 c52 c53 c54 c55 c56 c57 c58 c59 c60 c61 c62 c63 c64 c65 c66 c67 c68 c69 c70 c71 c72 c73 c74 c75 c76 c77 c78 c79 c80 c81 c82 c83 c84 c85 c86 c87 c88 c89 c90 c91 c92 c93 c94 c95 c96 c97 c98 c99 c100 c101 c102 : Value} (s : Sha.St) (g c : Nat) (w : World) (Q : Exit → Act → World → Prop) (hs : s.ok) (hI : IntsAt w g s.list) (hg : g < w.heap.size)
  (hQ : ∀ (u12 u68 u69 u70 u71 u72 u73 u74 u75 u76 u77 u78 u79 u80 u81 u82 u83 u84 u85 u86 u87 u88 u89 u90 u91 u92 u93 u94 u95 u96 u97 u98 u99 u100 : Value) (v' : Value) (w' : World), Row w' w.heap.size 5 v' (u8s (Sha.out s)) → Below w.heap.size w w' → Q (.exit 8) ⟨#[c0, c1, c2, c3, c4, c5, c6, c7, .slice (some ⟨g, 0, none⟩) 8 c, c9, c10, v', u12, c13, c14, c15, c16, c17, c18, c19, c20, c21, c22, c23, c24, c25, c26, c27, c28, c29, c30, c31, c32, c33, c34, c35, c36, c37, c38, c39, c40, c41, c42, c43, c44, c45, c46, c47, c48, c49, c50, c51, c52, c53, c54, c55, c56, c57, c58, c59, c60, c61, c62, c63, c64, c65, c66, c67, u68, u69, u70, u71, u72, u73, u74, u75, u76, u77, u78, u79, u80, u81, u82, u83, u84, u85, u86, u87, u88, u89, u90, u91, u92, u93, u94, u95, u96, u97, u98, u99, u100, c101, c102], []⟩ w') :
  Code.wp Tryd.prog hshB8 Q ⟨#[c0, c1, c2, c3, c4, c5, c6, c7, .slice (some ⟨g, 0, none⟩) 8 c, c9, c10, .slice none 0 0, .int .i64 0, c13, c14, c15, c16, c17, c18, c19, c20, c21, c22, c23, c24, c25, c26, c27, c28, c29, c30, c31, c32, c33, c34, c35, c36, c37, c38, c39, c40, c41, c42, c43, c44, c45, c46, c47, c48, c49, c50, c51, c52, c53, c54, c55, c56, c57, c58, c59, c60, c61, c62, c63, c64, c65, c66, c67, c68, c69, c70, c71, c72, c73, c74, c75, c76, c77, c78, c79, c80, c81, c82, c83, c84, c85, c86, c87, c88, c89, c90, c91, c92, c93, c94, c95, c96, c97, c98, c99, c100, c101, c102], []⟩ w := by
  conv => arg 2; whnf
  try go_wp2
  go_loopw [11, 12] (fun v i wr => ∃ k : Nat, k ≤ 8 ∧ i = .int .i64 k ∧ Row wr w.heap.size 5 v (u8s (outK s.list k)) ∧ Below w.heap.size w wr) (fun _ i _ => 8 - (intOf i).toNat)
  case atStart => exact ⟨0, by omega, rfl, World.ownsRow_nil _ _ _ _, Below.refl _ _⟩
  case round =>
    obtain ⟨k, hk, rfl, hrow, hb⟩ := hrel
    by_cases h8 : k < 8
    · have ex := hI.below hb hg k h8
      have lx := St.ok_get hs k
      have HN : Hid (u8s (outK s.list k) ++ u8s (outW (s.list.getD k 0)) = u8s (outK s.list (k + 1))) := by
        show _ = _
        rw [outK_succ s.list k h8, u8s_append]
      have hxl : (u8s (outK s.list k)).length ≤ 32 := by
        rw [u8s_length, outK_length _ _ (by show k ≤ 8; omega)]; omega
      generalize s.list.getD k 0 = x at *
      have HB : Hid (Below w.heap.size w wr) := hb
      have HS : Hid (w.heap.size ≤ wr.heap.size) := hb.size
      clear hQ hI hb
      go_wp2_with fail
      refine hshR24_wp g c k x w.heap.size _ _ _ w _ h8 lx hxl hrow ex HS.out HB.out hg ?_
      intro u72 u73 u74 u75 u76 u77 u78 u79 u80 u81 u82 u83 u84 u85 u86 u87 u88 u89 u90 u91 u92 u93 u94 u95 u96 u97 u98 u99 u100 v' w' hrow' hb'
      simp only [Exit.inBlock]
      go_wp2_with fail
      refine ⟨⟨k + 1, by omega, by go_num, ?_, hb'⟩, by simp [intOf]; omega⟩
      rw [← HN.out]
      exact hrow'
    · have hk8 : k = 8 := by omega
      subst hk8
      go_wp2
      exact hQ _ _ _ _ _ _ _ _ _ _ _ _ _ _ _ _ _ _ _ _ _ _ _ _ _ _ _ _ _ _ _ _ _ _ _ _ hrow hb

theorem convert_rowM {w : World} {base : Nat} {v : Value} {l : List Nat} (h : RowM w base v l) : (convert 52 9 v).run Tryd.prog w = .ok (.string (strOf l)) w := by
  obtain ⟨g, cap, cur, fr, rfl, _, hg, _, hn, hc, _, ht⟩ := h
  refine run_convert_bytes_arg w 52 5 Tryd.underlying52 Tryd.underlying5 g 0 l.length cap (l.map fun (x : Nat) => (x : Int)) (by simp) ?_ 9 Tryd.underlying9
  intro i hi
  have hx : cur.toList[i]? = (u8s l)[i]? := by
    rw [← ht, List.getElem?_take_of_lt (by simpa using hi)]
  rw [u8s_get l i hi] at hx
  simp only [World.cell?, hg, Nat.zero_add]
  simp at hx ⊢
  rw [hx]
  simp [hi]

theorem pad_len (l : List Nat) : (Sha.pad l).length = 64 * ((Sha.pad l).length / 64) := by
  have : (Sha.pad l).length = l.length + 1 + Sha.zeros l.length + 8 := by simp [Sha.pad, Sha.be8]; omega
  rw [this]
  unfold Sha.zeros
  omega
theorem pad_le (l : List Nat) : (Sha.pad l).length ≤ l.length + 73 := by
  have : (Sha.pad l).length = l.length + 1 + Sha.zeros l.length + 8 := by simp [Sha.pad, Sha.be8]; omega
  rw [this]
  unfold Sha.zeros
  omega
theorem pad_ok (s : ByteArray) : Sha.bytesOk (Sha.pad (bts s)) :=
  Sha.bytesOk_append (bts_ok s) (Sha.cons_ok (by omega) (Sha.bytesOk_append (Sha.bytesOk_replicate _ _ (by omega)) (Sha.be8_ok _)))
theorem below_bytes (w : World) (s : ByteArray) : Below w.heap.size w (Lib.bytesWorld w 5 s) :=
  ⟨rfl, rfl, rfl, by rw [Lib.bytesWorld_size]; omega, fun k hk => Lib.bytesWorld_at_old w _ s k hk⟩
end Go.Proofs.YteillcbajkhjkaaDoor
