import Derived.WalkKit
import Derived.BigQuiet
import Derived.Deep.RegionHeld3
import Derived.Test.YtlhohmlpcgbliabGreatDoorZR2
namespace Go.Proofs.YtlhohmlpcgbliabGreatDoor

/-- Operations that yield a value, whatever they do. -/
def plainB : Op → Bool
  | .move _ => true
  | .assign _ => true
  | .load _ _ => true
  | .binOp _ _ _ _ _ => true
  | .unOp _ _ _ => true
  | .convert _ _ _ => true
  | .slice _ _ _ _ _ => true
  | .fieldAddr _ _ _ => true
  | .indexAddr _ _ _ => true
  | .index _ _ _ => true
  | _ => false

theorem val_of {P : Program} {s : Sem Value} {w w' : World} {n : Next} (h : Sem.run P (do let x ← s; pure (Next.value x)) w = .ok n w') : ∃ u, n = .value u := by
  rw [Sem.run_bind] at h
  cases hr : Sem.run P s w with
  | ok x w1 =>
    rw [hr] at h
    simp at h
    exact ⟨x, h.1.symm⟩
  | halt x w1 =>
    rw [hr] at h
    simp at h

theorem plain_value {P : Program} {ρ : Operand → Value} {o : Oper} {w w' : World} {n : Next} (hp : plainB o.op = true) (h : (execOp ρ o).run P w = .ok n w') : ∃ u, n = .value u := by
  unfold execOp at h
  cases hop : o.op <;> (rw [hop] at hp; simp only [hop] at h; first | exact val_of h | (simp [plainB] at hp; done) | (simp at h; exact ⟨_, h.1.symm⟩))

section
variable {P : Program} {ops : Array Oper} {Q : Exit → Act → World → Prop} {S : World → Prop}

/-- Each of the next operations may come up in its turn, nobody else touches what it touches, and it is a plain one. -/
def headB (ops : Array Oper) : Nat → Nat → Array Bool → Bool
  | 0, _, _ => true
  | f + 1, k, listed => (Region.ready .any ops listed).contains k && Region.free .any ops listed k && (match ops[k]? with | some o => plainB o.op && o.guard.isNone | none => false) && headB ops f (k + 1) (listed.setIfInBounds k true)
def listedTo : Nat → Nat → Array Bool → Array Bool
  | 0, _, listed => listed
  | f + 1, k, listed => listedTo f (k + 1) (listed.setIfInBounds k true)

theorem held_of_quiet (hs : Region.noSelect ops = true) (hQ : ∀ c a a' w, Q (.panic c) a' w → Q (.panic c) a w) (fuel : Nat) (w : World) (hS : S w) :
    ∀ (l : List Oper) (k : Nat) (listed : Array Bool) (a : Act), (∀ j, j < l.length → l[j]? = ops[k + j]?) → headB ops l.length k listed = true →
      wpQuiet P ops S (fun a' => wpAnyH P .any ops Q S fuel (listedTo l.length k listed) a' w) l a → wpAnyH P .any ops Q S (l.length + fuel) listed a w
  | [], _, _, _, _, _, h => by simpa [wpQuiet, listedTo] using h
  | o :: l, k, listed, a, hl, hB, h => by
    have h0 : ops[k]? = some o := by simpa using (hl 0 (by simp)).symm
    simp only [List.length_cons, headB, Bool.and_eq_true, h0] at hB
    obtain ⟨⟨⟨hr, hf⟩, hp, hg⟩, hB'⟩ := hB
    have hgn : o.guard = none := by simpa using hg
    have hw : Region.wanted o (yielded ops a.tmps) = true := by simp [Region.wanted, hgn]
    simp only [wpQuiet, hw, if_true] at h
    obtain ⟨v, hv, hn⟩ := h
    have hy : YieldsIf P ops S o v a := by
      refine .inl ⟨hw, fun w1 hw1 => ?_⟩
      have h1 := hv w1 hw1
      unfold Oper.quietAt at h1
      cases hr1 : (execOp a.eval o).run P w1 with
      | ok n w2 =>
        obtain ⟨u, rfl⟩ := plain_value hp hr1
        rw [hr1] at h1
        simp only [Oper.quietUpon] at h1
        rw [h1.1, h1.2]
      | halt x w2 =>
        rw [hr1] at h1
        simp only [Oper.quietUpon] at h1
    have := held_of_quiet hs hQ fuel w hS l (k + 1) (listed.setIfInBounds k true) (a.put o.dst v) (fun j hj => by
      have := hl (j + 1) (by simp; omega)
      simpa [Nat.add_assoc, Nat.add_comm 1 j] using this) hB' hn
    rw [List.length_cons, Nat.add_right_comm]
    exact wpAnyH_take h0 hs hf hr (fun c a' w' hq => hQ c a' _ w' hq) hy hS this

/-- A region that draws its order: its first n operations only read (in every world that meets S); the rest is walked behind them. -/
theorem wp_region_head {id n : Nat} {l : List Oper} {a : Act} {w : World} (hm : P.follows .mixedOrders = true) (hs : Region.noSelect l.toArray = true) (hB : headB l.toArray n 0 (Array.replicate l.length false) = true) (hn : n ≤ l.length) (hS : S w.drew)
    (h : wpQuiet P l.toArray S (fun a' => wpAnyH P .any l.toArray (NoPanic Q) S (l.length - n) (listedTo n 0 (Array.replicate l.length false)) a' w.drew) (l.take n) a) : (Code.region id l.toArray true).wp P Q a w := by
  refine wp_region_noPanic (wp_region_held (S := S) hm ?_)
  have h1 := held_of_quiet (P := P) (ops := l.toArray) (Q := NoPanic Q) (S := S) hs (fun c a a' w hq => by cases hq) (l.length - n) w.drew hS (l.take n) 0 (Array.replicate l.length false) a (fun j hj => by
    simp at hj
    simp [List.getElem?_take]
    omega) (by rw [List.length_take, Nat.min_eq_left hn]; exact hB) (by rw [List.length_take, Nat.min_eq_left hn]; exact h)
  rw [List.length_take, Nat.min_eq_left hn, Nat.add_sub_cancel' hn] at h1
  simpa using h1

/-- The next operation comes up alone. -/
theorem wpAnyH_val {i fuel : Nat} {o : Oper} {listed : Array Bool} {a : Act} {w w' : World} {v : Value} (hr : Region.ready .any ops listed = [i]) (hi : ops[i]? = some o) (hgd : o.guard = none)
    (hv : (execOp a.eval o).run P w = .ok (.value v) w') (hS : S w') (h : wpAnyH P .any ops Q S fuel (listed.setIfInBounds i true) (a.put o.dst v) w') : wpAnyH P .any ops Q S (fuel + 1) listed a w := by
  refine wpAnyH_all hr (by simp) ?_
  intro j hj
  simp at hj
  subst hj
  unfold wpOp
  have hw : Region.wanted o (yielded ops a.tmps) = true := by simp [Region.wanted, hgd]
  simp only [hi, hw, if_true]
  refine .inl ?_
  unfold Oper.wp
  rw [hv]
  exact ⟨hS, h⟩
/-- An operation that yields its value in whatever world, in a head that leans on S. -/
theorem wpQuiet_pure {Q : Act → Prop} {o : Oper} {rest : List Oper} {a : Act} (hp : plainB o.op = true) (h : wpQuiet P ops (fun _ => True) (fun a' => wpQuiet P ops S Q rest a') [o] a) : wpQuiet P ops S Q (o :: rest) a := by
  simp only [wpQuiet] at h ⊢
  split
  · rename_i hw
    simp only [hw, if_true] at h
    obtain ⟨v, hv, hn⟩ := h
    refine ⟨v, fun w _ => ?_, hn⟩
    have h1 := hv w trivial
    unfold Oper.quietAt at *
    cases hr1 : (execOp a.eval o).run P w with
    | ok n w2 =>
      obtain ⟨u, rfl⟩ := plain_value hp hr1
      rw [hr1] at h1
      exact h1
    | halt x w2 =>
      rw [hr1] at h1
      exact h1
  · rename_i hw
    simp only [hw] at h
    exact h
end
end Go.Proofs.YtlhohmlpcgbliabGreatDoor
namespace Go.Proofs.YtlhohmlpcgbliabGreatDoor
set_option maxRecDepth 100000
open Go.RowKit
attribute [local go_sem ↓] Go.wp_at_zero Go.wp_at_succ

theorem exec_append {P : Program} {o : Oper} {a : Act} {w w' : World} {s x : Operand} {t : TypeId} {v1 v2 u : Value} (ho : o.op = .call { callee := .builtin .append, args := #[s, x], argTypes := #[t, t] }) (hs : a.eval s = v1) (hx : a.eval x = v2)
    (hr : (Builtin.append_ #[t, t] o.type #[v1, v2]).run P w = .ok u w') : (execOp a.eval o).run P w = .ok (.value u) w' := by
  unfold execOp
  simp only [ho, resolve, invoke, builtin, Sem.run_bind, Sem.run_pure, Result.andThen_ok, List.map_toArray, List.map_cons, List.map_nil, hs, hx, hr]

/-- An append, where it comes up alone. -/
theorem wpAnyH_app {e t : TypeId} {z : Value} {bytes : Nat} (hel : Elem e z bytes) (hz : z.cells.size = 1) (ht : Tryz.prog.underlying t = some (.slice e))
    {w w0 : World} {B i fuel : Nat} {ops : Array Oper} {o : Oper} {a : Act} {listed : Array Bool} {Q : Exit → Act → World → Prop} {S : World → Prop} (hrd : Region.ready .any ops listed = [i]) (hi : ops[i]? = some o) (hgd : o.guard = none) (s x : Operand)
    (ho : o.op = .call { callee := .builtin .append, args := #[s, x], argTypes := #[t, t] }) (base : Nat) (v : Value) (xs : List Value) (hs : a.eval s = v) (hown : Row w base e v xs)
    (g0 m c : Nat) (news : List Value) (hx : a.eval x = .slice (some ⟨g0, 0, none⟩) m c) (hm : news.length = m) (hm0 : 0 < m) (hnews : Blk w g0 e news) (h1 : ∀ u ∈ news, u.oneCell' = true)
    (hlen : xs.length + m ≤ 1000000000000) (hby : bytes ≤ 16) (hbase : base ≤ w.heap.size) (hB : Below B w0 w) (hBb : B ≤ base)
    (h : ∀ g cap w', Row w' base e (.slice (some ⟨g, 0, none⟩) (xs.length + m) cap) (xs ++ news) → w.grownBy w' v.ownBlock → (∀ g1 c1 j, v = .slice (some ⟨g1, 0, none⟩) xs.length c1 → j < xs.length → w'.cell? ⟨g1, j, none⟩ = w.cell? ⟨g1, j, none⟩) → Below B w0 w' →
      S w' ∧ wpAnyH Tryz.prog .any ops Q S fuel (listed.setIfInBounds i true) (a.put o.dst (.slice (some ⟨g, 0, none⟩) (xs.length + m) cap)) w') :
    wpAnyH Tryz.prog .any ops Q S (fuel + 1) listed a w := by
  obtain ⟨g, cap, w', hr, h2, h3, h4⟩ := run_app hel hz ht o.type w base v xs hown g0 m c news hm hm0 hnews h1 hlen hby hbase
  have h5 : Below B w0 w' := hB.grown h3 (Nat.le_trans hBb hbase) (fun k hk => Nat.le_trans hBb (hown.lt k hk).1)
  obtain ⟨h6, h7⟩ := h g cap w' h2 h3 h4 h5
  exact wpAnyH_val hrd hi hgd (exec_append ho hs hx hr) h6 h7

/-- A load of one cell, in a head that only reads. -/
theorem wpQuiet_load {P : Program} {ops : Array Oper} {C : World → Prop} {Q : Act → Prop} {rest : List Oper} {o : Oper} {a : Act} (hgd : o.guard = none) (ty : TypeId) (x : Operand) (ho : o.op = .load ty x) (ad : Addr) (v : Value) (hx : a.eval x = .pointer (some ad))
    (hc : ∀ w, C w → (Instr.loadAt ty (.pointer (some ad))).run P w = .ok v w) (h : wpQuiet P ops C Q rest (a.put o.dst v)) : wpQuiet P ops C Q (o :: rest) a := by
  refine wpQuiet_step fun K hK => ?_
  rw [if_pos (by simp [Region.wanted, hgd])]
  refine ⟨v, fun w hw => ?_, hK _ h⟩
  unfold Oper.quietAt execOp
  simp only [ho, hx, Sem.run_bind, hc w hw, Result.andThen_ok, Sem.run_pure]
  exact ⟨rfl, rfl⟩
theorem load_int (w : World) (b o : Nat) (x : Int) (h : w.cell? ⟨b, o, none⟩ = some (.int .i64 x)) : (Instr.loadAt 3 (.pointer (some ⟨b, o, none⟩))).run Tryz.prog w = .ok (.int .i64 x) w := by
  simp [go_sem, h]


theorem index_str (w : World) (s : ByteArray) (i : Nat) (z : Int) (hz : z = (i : Int)) (hi : i < s.size) :
    (Instr.index 9 (.string s) (.int .i64 z)).run Tryz.prog w = .ok (.int .u8 (((bts s).getD i 0 : Nat) : Int)) w := by
  subst hz
  have h1 : s[i]? = some s[i] := by simp [hi]
  simp [Instr.index, asIntOf, run_underlying Tryz.underlying9, h1]
  rw [byte_at s i hi, List.getD_eq_getElem?_getD]

theorem wr_id {z : Int} (h0 : 0 ≤ z) (h1 : z < 9223372036854775808) : IntKind.i64.wrap z = z := by rw [IntKind.wrap_i64]; omega

theorem ints_append (a b : List Nat) : ints (a ++ b) = ints a ++ ints b := by simp [ints]

set_option maxRecDepth 100000 in
set_option maxHeartbeats 1000000 in
theorem blkR6_wp {c0 c2 c3 c4 c7 c8 c9 c10 c11 c12 c13 c14 c15 c16 c17 c18 c19 c20 c21 c22 c23 c24 c25 c26 c27 c28 c29 c30 c31 c32 c33 c34 c35 c36 c37 c38 c39 c40 c41 c42 c43 c44 c45 c46 c47 c48 c49 c50 c51 c52 c53 c54 c55 c56 c57 c58 c59 c60 c61 c62 c63 c64 c65 c66 c67 c68 c69 c70 c71 c72 c73 c74 c75 c76 c77 c78 c79 c80 c81 c82 c83 c84 c85 c86 c87 c88 c89 c90 c91 c92 c93 c94 c95 c96 c97 c98 c99 c100 c101 c102 c103 c104 c105 c106 c107 c108 c109 c110 c111 c112 c113 c114 c115 c116 c117 c118 c119 c120 c121 c122 c123 c124 c125 c126 c127 c128 c129 c130 c131 c132 c133 c134 c135 c136 c137 c138 c139 c140 c141 c142 c143 c144 c145 c146 c147 c148 c149 c150 c151 c152 c153 c154 c155 c156 c157 c158 c159 c160 c161 c162 c163 c164 c165 c166 c167 c168 c169 c170 c171 c172 c173 c174 c175 c176 c177 c178 c179 c180 c181 c182 c183 c184 c185 c186 c187 c188 c189 c190 c191 c192 c193 c194 c195 c196 c197 c198 c199 c200 c201 c202 c203 c204 c205 c206 c207 c208 c209 c210 c211 c212 c213 c214 c215 c216 c217 c218 c219 c220 c221 c222 : Value} (s : ByteArray) (v : Value) (xs : List Value) (k base : Nat) (w w0 : World) (Q : Exit → Act → World → Prop) (hs : s.size = 64) (hk : k < 16) (hrow : Row w base 3 v xs) (hxs : xs.length ≤ 64) (hbase : base ≤ w.heap.size) (hbw : Below base w0 w)
  (hQ : ∀ (u27 u28 u29 u30 u31 u32 u33 u34 u35 u36 u37 u38 u39 u40 u41 u42 u43 u44 u45 u46 u47 u48 u49 u50 u51 u52 u53 u54 u55 u56 u57 u58 : Value) (v' : Value) (w' : World), Row w' base 3 v' (xs ++ [.int .i64 (Sha.be4 (bts s) k : Int)]) → Below base w0 w' → Q .normal ⟨#[c0, .string s, c2, c3, c4, v', .int .i64 (k : Int), c7, c8, c9, c10, c11, c12, c13, c14, c15, c16, c17, c18, c19, c20, c21, c22, c23, c24, c25, c26, u27, u28, u29, u30, u31, u32, u33, u34, u35, u36, u37, u38, u39, u40, u41, u42, u43, u44, u45, u46, u47, u48, u49, u50, u51, u52, u53, u54, u55, u56, u57, u58, c59, c60, c61, c62, c63, c64, c65, c66, c67, c68, c69, c70, c71, c72, c73, c74, c75, c76, c77, c78, c79, c80, c81, c82, c83, c84, c85, c86, c87, c88, c89, c90, c91, c92, c93, c94, c95, c96, c97, c98, c99, c100, c101, c102, c103, c104, c105, c106, c107, c108, c109, c110, c111, c112, c113, c114, c115, c116, c117, c118, c119, c120, c121, c122, c123, c124, c125, c126, c127, c128, c129, c130, c131, c132, c133, c134, c135, c136, c137, c138, c139, c140, c141, c142, c143, c144, c145, c146, c147, c148, c149, c150, c151, c152, c153, c154, c155, c156, c157, c158, c159, c160, c161, c162, c163, c164, c165, c166, c167, c168, c169, c170, c171, c172, c173, c174, c175, c176, c177, c178, c179, c180, c181, c182, c183, c184, c185, c186, c187, c188, c189, c190, c191, c192, c193, c194, c195, c196, c197, c198, c199, c200, c201, c202, c203, c204, c205, c206, c207, c208, c209, c210, c211, c212, c213, c214, c215, c216, c217, c218, c219, c220, c221, c222], []⟩ w') :
  Code.wp Tryz.prog (rgn Tryz.f53 6) Q ⟨#[c0, .string s, c2, c3, c4, v, .int .i64 (k : Int), c7, c8, c9, c10, c11, c12, c13, c14, c15, c16, c17, c18, c19, c20, c21, c22, c23, c24, c25, c26, c27, c28, c29, c30, c31, c32, c33, c34, c35, c36, c37, c38, c39, c40, c41, c42, c43, c44, c45, c46, c47, c48, c49, c50, c51, c52, c53, c54, c55, c56, c57, c58, c59, c60, c61, c62, c63, c64, c65, c66, c67, c68, c69, c70, c71, c72, c73, c74, c75, c76, c77, c78, c79, c80, c81, c82, c83, c84, c85, c86, c87, c88, c89, c90, c91, c92, c93, c94, c95, c96, c97, c98, c99, c100, c101, c102, c103, c104, c105, c106, c107, c108, c109, c110, c111, c112, c113, c114, c115, c116, c117, c118, c119, c120, c121, c122, c123, c124, c125, c126, c127, c128, c129, c130, c131, c132, c133, c134, c135, c136, c137, c138, c139, c140, c141, c142, c143, c144, c145, c146, c147, c148, c149, c150, c151, c152, c153, c154, c155, c156, c157, c158, c159, c160, c161, c162, c163, c164, c165, c166, c167, c168, c169, c170, c171, c172, c173, c174, c175, c176, c177, c178, c179, c180, c181, c182, c183, c184, c185, c186, c187, c188, c189, c190, c191, c192, c193, c194, c195, c196, c197, c198, c199, c200, c201, c202, c203, c204, c205, c206, c207, c208, c209, c210, c211, c212, c213, c214, c215, c216, c217, c218, c219, c220, c221, c222], []⟩ w := by
  conv => arg 2; whnf
  have b0 : 4 * k < s.size := by omega
  have b1 : 4 * k + 1 < s.size := by omega
  have b2 : 4 * k + 2 < s.size := by omega
  have b3 : 4 * k + 3 < s.size := by omega
  have i0 : (0 : Int) ≤ (k : Int) := by omega
  have i1 : (k : Int) < 16 := by omega
  have x0 := fun wx => index_str wx s (4 * k) (4 * (k : Int)) (by omega) b0
  have x1 := fun wx => index_str wx s (4 * k + 1) (4 * (k : Int) + 1) (by omega) b1
  have x2 := fun wx => index_str wx s (4 * k + 2) (4 * (k : Int) + 2) (by omega) b2
  have x3 := fun wx => index_str wx s (4 * k + 3) (4 * (k : Int) + 3) (by omega) b3
  have l0 := bts_ok s (4 * k)
  have l1 := bts_ok s (4 * k + 1)
  have l2 := bts_ok s (4 * k + 2)
  have l3 := bts_ok s (4 * k + 3)
  have HB : Hid (Sha.be4 (bts s) k = (((bts s).getD (4 * k) 0 * 256 + (bts s).getD (4 * k + 1) 0) * 256 + (bts s).getD (4 * k + 2) 0) * 256 + (bts s).getD (4 * k + 3) 0) := rfl
  generalize (bts s).getD (4 * k) 0 = y0 at *
  generalize (bts s).getD (4 * k + 1) 0 = y1 at *
  generalize (bts s).getD (4 * k + 2) 0 = y2 at *
  generalize (bts s).getD (4 * k + 3) 0 = y3 at *
  clear b0 b1 b2 b3 hs
  refine wp_region_head (S := fun _ => True) (n := 30) (by kernel_rfl) (by kernel_rfl) (by kernel_rfl) (by simp) trivial ?_
  simp only [List.take_succ_cons, List.take_zero]
  repeat (go_big_quiet_step (fail))
  refine wpQuiet_nil ?_
  refine wpAnyH_val (i := 30) (v := .slice (some ⟨w.heap.size, 0, none⟩) 1 1) (w' := (w.alloc (.cells #[.int .i64 ((((y0 : Int) * 256 + y1) * 256 + y2) * 256 + y3)] 3)).drew) (by kernel_rfl) (by rfl) (by rfl) (by kernel_rfl) trivial ?_
  refine wpAnyH_app elem_int rfl Tryz.underlying23 (i := 31) (by kernel_rfl) (by rfl) (by rfl) (.tmp 27) (.tmp 57) (by rfl) base v xs (by rfl) ((hrow.alloc _).drewN 1) w.heap.size 1 1 [.int .i64 ((((y0 : Int) * 256 + y1) * 256 + y2) * 256 + y3)] (by rfl) rfl (by omega) ((Blk.new w 3 _).drewN 1) (by simp [Value.oneCell']) (by omega) (by omega) (by simp; omega) (w0 := w0) (B := base) (Below.drewN' (hbw.alloc hbase _) 1) (Nat.le_refl _) ?_
  intro g cap w' hrow' _ _ hb'
  refine ⟨trivial, ?_⟩
  refine wpAnyH_val (i := 32) (v := .slice (some ⟨g, 0, none⟩) (xs.length + 1) cap) (w' := w') (by kernel_rfl) (by rfl) (by rfl) (by kernel_rfl) trivial ?_
  refine wpAnyH_done (by kernel_rfl) ?_ _
  refine NoPanic.normal ?_
  simp only [Act.put]
  refine hQ _ _ _ _ _ _ _ _ _ _ _ _ _ _ _ _ _ _ _ _ _ _ _ _ _ _ _ _ _ _ _ _ _ _ (hrow'.eq ?_) hb'
  rw [HB.out]
  simp
end Go.Proofs.YtlhohmlpcgbliabGreatDoor
namespace Go.Proofs.YtlhohmlpcgbliabGreatDoor
set_option maxRecDepth 100000
open Go.RowKit
attribute [local go_sem ↓] Go.wp_at_zero Go.wp_at_succ

/-- These cells hold these values. -/
def Cells (l : List (Addr × Value)) (w : World) : Prop := ∀ p ∈ l, w.cell? p.1 = some p.2
theorem Cells.two {a b : Addr} {x y : Value} {w : World} (h1 : w.cell? a = some x) (h2 : w.cell? b = some y) : Cells [(a, x), (b, y)] w := by
  intro p hp
  simp at hp
  rcases hp with rfl | rfl <;> assumption
theorem Cells.get {l : List (Addr × Value)} {w : World} (h : Cells l w) (a : Addr) (x : Value) (hm : (a, x) ∈ l) : w.cell? a = some x := h _ hm

set_option maxRecDepth 100000 in
set_option maxHeartbeats 1000000 in
theorem blkR11_wp {c0 c1 c2 c3 c4 c7 c8 c11 c12 c13 c14 c15 c16 c17 c18 c19 c20 c21 c22 c23 c24 c25 c26 c27 c28 c29 c30 c31 c32 c33 c34 c35 c36 c37 c38 c39 c40 c41 c42 c43 c44 c45 c46 c47 c48 c49 c50 c51 c52 c53 c54 c55 c56 c57 c58 c59 c60 c61 c62 c63 c64 c65 c66 c67 c68 c69 c70 c71 c72 c73 c74 c75 c76 c77 c78 c79 c80 c81 c82 c83 c84 c85 c86 c87 c88 c89 c90 c91 c92 c93 c94 c95 c96 c97 c98 c99 c100 c101 c102 c103 c104 c105 c106 c107 c108 c109 c110 c111 c112 c113 c114 c115 c116 c117 c118 c119 c120 c121 c122 c123 c124 c125 c126 c127 c128 c129 c130 c131 c132 c133 c134 c135 c136 c137 c138 c139 c140 c141 c142 c143 c144 c145 c146 c147 c148 c149 c150 c151 c152 c153 c154 c155 c156 c157 c158 c159 c160 c161 c162 c163 c164 c165 c166 c167 c168 c169 c170 c171 c172 c173 c174 c175 c176 c177 c178 c179 c180 c181 c182 c183 c184 c185 c186 c187 c188 c189 c190 c191 c192 c193 c194 c195 c196 c197 c198 c199 c200 c201 c202 c203 c204 c205 c206 c207 c208 c209 c210 c211 c212 c213 c214 c215 c216 c217 c218 c219 c220 c221 c222 : Value} (g cap k x16 x7 p q base : Nat) (xs : List Value) (w w0 : World) (Q : Exit → Act → World → Prop) (hk : 16 ≤ k) (hk2 : k < 64) (hlx : xs.length = k) (l16 : x16 < 4294967296) (l7 : x7 < 4294967296) (lp : p < 4294967296) (lq : q < 4294967296)
  (hrow : Row w base 3 (.slice (some ⟨g, 0, none⟩) k cap) xs) (e16 : w.cell? ⟨g, k - 16, none⟩ = some (.int .i64 (x16 : Int))) (e7 : w.cell? ⟨g, k - 7, none⟩ = some (.int .i64 (x7 : Int))) (hbase : base ≤ w.heap.size) (hbw : Below base w0 w) (hg : g < w.heap.size)
  (hQ : ∀ (u85 u86 u87 u88 u89 u90 u91 u92 u93 u94 u95 u96 u97 u98 u99 u100 u101 u102 u103 : Value) (v' : Value) (w' : World), Row w' base 3 v' (xs ++ [.int .i64 (((x16 + p + x7 + q) % 4294967296 : Nat) : Int)]) → Below base w0 w' → Q .normal ⟨#[c0, c1, c2, c3, c4, v', .int .i64 (k : Int), c7, c8, .int .i64 (p : Int), .int .i64 (q : Int), c11, c12, c13, c14, c15, c16, c17, c18, c19, c20, c21, c22, c23, c24, c25, c26, c27, c28, c29, c30, c31, c32, c33, c34, c35, c36, c37, c38, c39, c40, c41, c42, c43, c44, c45, c46, c47, c48, c49, c50, c51, c52, c53, c54, c55, c56, c57, c58, c59, c60, c61, c62, c63, c64, c65, c66, c67, c68, c69, c70, c71, c72, c73, c74, c75, c76, c77, c78, c79, c80, c81, c82, c83, c84, u85, u86, u87, u88, u89, u90, u91, u92, u93, u94, u95, u96, u97, u98, u99, u100, u101, u102, u103, c104, c105, c106, c107, c108, c109, c110, c111, c112, c113, c114, c115, c116, c117, c118, c119, c120, c121, c122, c123, c124, c125, c126, c127, c128, c129, c130, c131, c132, c133, c134, c135, c136, c137, c138, c139, c140, c141, c142, c143, c144, c145, c146, c147, c148, c149, c150, c151, c152, c153, c154, c155, c156, c157, c158, c159, c160, c161, c162, c163, c164, c165, c166, c167, c168, c169, c170, c171, c172, c173, c174, c175, c176, c177, c178, c179, c180, c181, c182, c183, c184, c185, c186, c187, c188, c189, c190, c191, c192, c193, c194, c195, c196, c197, c198, c199, c200, c201, c202, c203, c204, c205, c206, c207, c208, c209, c210, c211, c212, c213, c214, c215, c216, c217, c218, c219, c220, c221, c222], []⟩ w') :
  Code.wp Tryz.prog (rgn Tryz.f53 11) Q ⟨#[c0, c1, c2, c3, c4, .slice (some ⟨g, 0, none⟩) k cap, .int .i64 (k : Int), c7, c8, .int .i64 (p : Int), .int .i64 (q : Int), c11, c12, c13, c14, c15, c16, c17, c18, c19, c20, c21, c22, c23, c24, c25, c26, c27, c28, c29, c30, c31, c32, c33, c34, c35, c36, c37, c38, c39, c40, c41, c42, c43, c44, c45, c46, c47, c48, c49, c50, c51, c52, c53, c54, c55, c56, c57, c58, c59, c60, c61, c62, c63, c64, c65, c66, c67, c68, c69, c70, c71, c72, c73, c74, c75, c76, c77, c78, c79, c80, c81, c82, c83, c84, c85, c86, c87, c88, c89, c90, c91, c92, c93, c94, c95, c96, c97, c98, c99, c100, c101, c102, c103, c104, c105, c106, c107, c108, c109, c110, c111, c112, c113, c114, c115, c116, c117, c118, c119, c120, c121, c122, c123, c124, c125, c126, c127, c128, c129, c130, c131, c132, c133, c134, c135, c136, c137, c138, c139, c140, c141, c142, c143, c144, c145, c146, c147, c148, c149, c150, c151, c152, c153, c154, c155, c156, c157, c158, c159, c160, c161, c162, c163, c164, c165, c166, c167, c168, c169, c170, c171, c172, c173, c174, c175, c176, c177, c178, c179, c180, c181, c182, c183, c184, c185, c186, c187, c188, c189, c190, c191, c192, c193, c194, c195, c196, c197, c198, c199, c200, c201, c202, c203, c204, c205, c206, c207, c208, c209, c210, c211, c212, c213, c214, c215, c216, c217, c218, c219, c220, c221, c222], []⟩ w := by
  conv => arg 2; whnf
  have i0 : (16 : Int) ≤ (k : Int) := by omega
  have i1 : (k : Int) < 64 := by omega
  have HV : Hid (((x16 : Int) + p + x7 + q) % 4294967296 = (((x16 + p + x7 + q) % 4294967296 : Nat) : Int)) := by show _ = _; omega
  refine wp_region_head (S := Cells [(⟨g, k - 16, none⟩, .int .i64 (x16 : Int)), (⟨g, k - 7, none⟩, .int .i64 (x7 : Int))]) (n := 17) (by kernel_rfl) (by kernel_rfl) (by kernel_rfl) (by simp) (Cells.two e16 e7) ?_
  simp only [List.take_succ_cons, List.take_zero]
  iterate 5 (refine wpQuiet_pure (by rfl) ?_; go_big_quiet_step (fail); refine wpQuiet_nil ?_; show wpQuiet _ _ _ _ _ _)
  refine wpQuiet_load (by rfl) 3 (.tmp 89) (by rfl) ⟨g, k - 16, none⟩ (.int .i64 (x16 : Int)) (by rfl) (fun w hw => load_int w _ _ _ (hw.get _ _ (by simp))) ?_
  simp only [Act.put, List.setIfInBounds_toArray, List.set_cons_succ, List.set_cons_zero]
  iterate 6 (refine wpQuiet_pure (by rfl) ?_; go_big_quiet_step (fail); refine wpQuiet_nil ?_; show wpQuiet _ _ _ _ _ _)
  refine wpQuiet_load (by rfl) 3 (.tmp 96) (by rfl) ⟨g, k - 7, none⟩ (.int .i64 (x7 : Int)) (by rfl) (fun w hw => load_int w _ _ _ (hw.get _ _ (by simp))) ?_
  simp only [Act.put, List.setIfInBounds_toArray, List.set_cons_succ, List.set_cons_zero]
  iterate 4 (refine wpQuiet_pure (by rfl) ?_; go_big_quiet_step (fail); refine wpQuiet_nil ?_; show wpQuiet _ _ _ _ _ _)
  refine wpQuiet_nil ?_
  refine wpAnyH_val (i := 17) (v := .slice (some ⟨w.heap.size, 0, none⟩) 1 1) (w' := (w.alloc (.cells #[.int .i64 (((x16 : Int) + p + x7 + q) % 4294967296)] 3)).drew) (by kernel_rfl) (by rfl) (by rfl) (by kernel_rfl) (Cells.two ((World.cell?_of_block (Below.heap_alloc _ _ _ hg)).trans e16) ((World.cell?_of_block (Below.heap_alloc _ _ _ hg)).trans e7)) ?_
  refine wpAnyH_app elem_int rfl Tryz.underlying23 (i := 18) (by kernel_rfl) (by rfl) (by rfl) (.tmp 85) (.tmp 102) (by rfl) base (.slice (some ⟨g, 0, none⟩) k cap) xs (by rfl) ((hrow.alloc _).drewN 1) w.heap.size 1 1 [.int .i64 (((x16 : Int) + p + x7 + q) % 4294967296)] (by rfl) rfl (by omega) ((Blk.new w 3 _).drewN 1) (by simp [Value.oneCell']) (by omega) (by omega) (by simp; omega) (w0 := w0) (B := base) (Below.drewN' (hbw.alloc hbase _) 1) (Nat.le_refl _) ?_
  intro g' cap' w' hrow' _ hkeep hb'
  have s16 : w'.cell? ⟨g, k - 16, none⟩ = some (.int .i64 (x16 : Int)) := (hkeep g cap (k - 16) (by rw [hlx]) (by omega)).trans ((World.cell?_of_block (Below.heap_alloc _ _ _ hg)).trans e16)
  have s7 : w'.cell? ⟨g, k - 7, none⟩ = some (.int .i64 (x7 : Int)) := (hkeep g cap (k - 7) (by rw [hlx]) (by omega)).trans ((World.cell?_of_block (Below.heap_alloc _ _ _ hg)).trans e7)
  refine ⟨Cells.two s16 s7, ?_⟩
  refine wpAnyH_val (i := 19) (v := .slice (some ⟨g', 0, none⟩) (xs.length + 1) cap') (w' := w') (by kernel_rfl) (by rfl) (by rfl) (by kernel_rfl) (Cells.two s16 s7) ?_
  refine wpAnyH_done (by kernel_rfl) ?_ _
  refine NoPanic.normal ?_
  simp only [Act.put]
  rw [HV.out] at hrow'
  exact hQ _ _ _ _ _ _ _ _ _ _ _ _ _ _ _ _ _ _ _ _ _ hrow' hb'
end Go.Proofs.YtlhohmlpcgbliabGreatDoor
namespace Go.Proofs.YtlhohmlpcgbliabGreatDoor
set_option maxRecDepth 100000
open Go.RowKit
attribute [local go_sem ↓] Go.wp_at_zero Go.wp_at_succ

theorem i64_xor_nat (a b : Nat) (ha : a < 4294967296) (hb : b < 4294967296) : bits .xor .i64 (a : Int) (b : Int) = ((a ^^^ b : Nat) : Int) := by
  have hx := Sha.xor_lt ha hb
  show IntKind.i64.wrap ((BitVec.ofInt 64 (a : Int) ^^^ BitVec.ofInt 64 (b : Int)).toNat : Int) = _
  rw [BitVec.toNat_xor, ofInt_u64 a (by omega), ofInt_u64 b (by omega), IntKind.wrap_i64]
  omega
theorem i64_and_nat (a b : Nat) (ha : a < 4294967296) (hb : b < 4294967296) : bits .and .i64 (a : Int) (b : Int) = ((a &&& b : Nat) : Int) := by
  have hx := Sha.and_lt (a := a) hb
  show IntKind.i64.wrap ((BitVec.ofInt 64 (a : Int) &&& BitVec.ofInt 64 (b : Int)).toNat : Int) = _
  rw [BitVec.toNat_and, ofInt_u64 a (by omega), ofInt_u64 b (by omega), IntKind.wrap_i64]
  omega
theorem ss0_ref (x : Nat) (hx : x < 4294967296) : bits .xor .i64 (bits .xor .i64 (Sha.rotr x 7 : Int) (Sha.rotr x 18 : Int)) ((x : Int) / 8) = (Sha.ss0 x : Int) := by
  have a1 := Sha.rotr_lt x 7 hx (by omega)
  have a2 := Sha.rotr_lt x 18 hx (by omega)
  have e : (x : Int) / 8 = ((x / 8 : Nat) : Int) := by simp
  rw [e, i64_xor_nat _ _ a1 a2, i64_xor_nat _ _ (Sha.xor_lt a1 a2) (by omega)]; rfl
theorem ss1_ref (x : Nat) (hx : x < 4294967296) : bits .xor .i64 (bits .xor .i64 (Sha.rotr x 17 : Int) (Sha.rotr x 19 : Int)) ((x : Int) / 1024) = (Sha.ss1 x : Int) := by
  have a1 := Sha.rotr_lt x 17 hx (by omega)
  have a2 := Sha.rotr_lt x 19 hx (by omega)
  have e : (x : Int) / 1024 = ((x / 1024 : Nat) : Int) := by simp
  rw [e, i64_xor_nat _ _ a1 a2, i64_xor_nat _ _ (Sha.xor_lt a1 a2) (by omega)]; rfl
theorem bs1_ref (x : Nat) (hx : x < 4294967296) : bits .xor .i64 (bits .xor .i64 (Sha.rotr x 6 : Int) (Sha.rotr x 11 : Int)) (Sha.rotr x 25 : Int) = (Sha.bs1 x : Int) := by
  have a1 := Sha.rotr_lt x 6 hx (by omega)
  have a2 := Sha.rotr_lt x 11 hx (by omega)
  have a3 := Sha.rotr_lt x 25 hx (by omega)
  rw [i64_xor_nat _ _ a1 a2, i64_xor_nat _ _ (Sha.xor_lt a1 a2) a3]; rfl
theorem bs0_ref (x : Nat) (hx : x < 4294967296) : bits .xor .i64 (bits .xor .i64 (Sha.rotr x 2 : Int) (Sha.rotr x 13 : Int)) (Sha.rotr x 22 : Int) = (Sha.bs0 x : Int) := by
  have a1 := Sha.rotr_lt x 2 hx (by omega)
  have a2 := Sha.rotr_lt x 13 hx (by omega)
  have a3 := Sha.rotr_lt x 22 hx (by omega)
  rw [i64_xor_nat _ _ a1 a2, i64_xor_nat _ _ (Sha.xor_lt a1 a2) a3]; rfl
theorem ch_ref (e f g : Nat) (he : e < 4294967296) (hf : f < 4294967296) (hg : g < 4294967296) :
    bits .xor .i64 (bits .and .i64 (e : Int) (f : Int)) (bits .and .i64 ((4294967295 - e : Nat) : Int) (g : Int)) = (Sha.ch e f g : Int) := by
  rw [i64_and_nat _ _ he hf, i64_and_nat _ _ (by omega) hg, i64_xor_nat _ _ (Sha.and_lt hf) (Sha.and_lt hg)]; rfl
theorem maj_ref (a b c : Nat) (ha : a < 4294967296) (hb : b < 4294967296) (hc : c < 4294967296) :
    bits .xor .i64 (bits .xor .i64 (bits .and .i64 (a : Int) (b : Int)) (bits .and .i64 (a : Int) (c : Int))) (bits .and .i64 (b : Int) (c : Int)) = (Sha.maj a b c : Int) := by
  rw [i64_and_nat _ _ ha hb, i64_and_nat _ _ ha hc, i64_and_nat _ _ hb hc, i64_xor_nat _ _ (Sha.and_lt hb) (Sha.and_lt hc), i64_xor_nat _ _ (Sha.xor_lt (Sha.and_lt hb) (Sha.and_lt hc)) (Sha.and_lt hc)]; rfl

set_option maxRecDepth 100000 in
set_option maxHeartbeats 2000000 in
theorem blkB0_wp {c0 c2 c3 c4 c7 c8 c9 c10 c11 c12 c13 c14 c15 c16 c17 c18 c19 c20 c21 c22 c23 c24 c25 c26 c27 c28 c29 c30 c31 c32 c33 c34 c35 c36 c37 c38 c39 c40 c41 c42 c43 c44 c45 c46 c47 c48 c49 c50 c51 c52 c53 c54 c55 c56 c57 c58 c59 c60 c61 c62 c63 c64 c65 c66 c67 c68 c69 c70 c71 c72 c73 c74 c75 c76 c77 c78 c79 c80 c81 c82 c83 c84 c85 c86 c87 c88 c89 c90 c91 c92 c93 c94 c95 c96 c97 c98 c99 c100 c101 c102 c103 c104 c105 c106 c107 c108 c109 c110 c111 c112 c113 c114 c115 c116 c117 c118 c119 c120 c121 c122 c123 c124 c125 c126 c127 c128 c129 c130 c131 c132 c133 c134 c135 c136 c137 c138 c139 c140 c141 c142 c143 c144 c145 c146 c147 c148 c149 c150 c151 c152 c153 c154 c155 c156 c157 c158 c159 c160 c161 c162 c163 c164 c165 c166 c167 c168 c169 c170 c171 c172 c173 c174 c175 c176 c177 c178 c179 c180 c181 c182 c183 c184 c185 c186 c187 c188 c189 c190 c191 c192 c193 c194 c195 c196 c197 c198 c199 c200 c201 c202 c203 c204 c205 c206 c207 c208 c209 c210 c211 c212 c213 c214 c215 c216 c217 c218 c219 c220 c221 c222 : Value} (s : ByteArray) (base : Nat) (w w0 : World) (Q : Exit → Act → World → Prop) (hs : s.size = 64) (hb0 : base ≤ w0.heap.size) (hbw : Below base w0 w)
  (hQ : ∀ (u6 u7 u8 u9 u10 u21 u22 u23 u24 u25 u26 u27 u28 u29 u30 u31 u32 u33 u34 u35 u36 u37 u38 u39 u40 u41 u42 u43 u44 u45 u46 u47 u48 u49 u50 u51 u52 u53 u54 u55 u56 u57 u58 u59 u60 u61 u62 u63 u64 u65 u66 u67 u68 u69 u70 u71 u72 u73 u74 u75 u76 u77 u78 u79 u80 u81 u82 u83 u84 u85 u86 u87 u88 u89 u90 u91 u92 u93 u94 u95 u96 u97 u98 u99 u100 u101 u102 u103 : Value) (v' : Value) (w' : World), Row w' base 3 v' (ints (Sha.sched (bts s) 64)) → Below base w0 w' → Q (.exit 0) ⟨#[c0, .string s, c2, c3, c4, v', u6, u7, u8, u9, u10, c11, c12, c13, c14, c15, c16, c17, c18, c19, c20, u21, u22, u23, u24, u25, u26, u27, u28, u29, u30, u31, u32, u33, u34, u35, u36, u37, u38, u39, u40, u41, u42, u43, u44, u45, u46, u47, u48, u49, u50, u51, u52, u53, u54, u55, u56, u57, u58, u59, u60, u61, u62, u63, u64, u65, u66, u67, u68, u69, u70, u71, u72, u73, u74, u75, u76, u77, u78, u79, u80, u81, u82, u83, u84, u85, u86, u87, u88, u89, u90, u91, u92, u93, u94, u95, u96, u97, u98, u99, u100, u101, u102, u103, c104, c105, c106, c107, c108, c109, c110, c111, c112, c113, c114, c115, c116, c117, c118, c119, c120, c121, c122, c123, c124, c125, c126, c127, c128, c129, c130, c131, c132, c133, c134, c135, c136, c137, c138, c139, c140, c141, c142, c143, c144, c145, c146, c147, c148, c149, c150, c151, c152, c153, c154, c155, c156, c157, c158, c159, c160, c161, c162, c163, c164, c165, c166, c167, c168, c169, c170, c171, c172, c173, c174, c175, c176, c177, c178, c179, c180, c181, c182, c183, c184, c185, c186, c187, c188, c189, c190, c191, c192, c193, c194, c195, c196, c197, c198, c199, c200, c201, c202, c203, c204, c205, c206, c207, c208, c209, c210, c211, c212, c213, c214, c215, c216, c217, c218, c219, c220, c221, c222], []⟩ w') :
  Code.wp Tryz.prog (blc Tryz.f53 0) Q ⟨#[c0, .string s, c2, c3, c4, .slice none 0 0, .int .i64 0, c7, c8, c9, c10, c11, c12, c13, c14, c15, c16, c17, c18, c19, c20, c21, c22, c23, c24, c25, c26, c27, c28, c29, c30, c31, c32, c33, c34, c35, c36, c37, c38, c39, c40, c41, c42, c43, c44, c45, c46, c47, c48, c49, c50, c51, c52, c53, c54, c55, c56, c57, c58, c59, c60, c61, c62, c63, c64, c65, c66, c67, c68, c69, c70, c71, c72, c73, c74, c75, c76, c77, c78, c79, c80, c81, c82, c83, c84, c85, c86, c87, c88, c89, c90, c91, c92, c93, c94, c95, c96, c97, c98, c99, c100, c101, c102, c103, c104, c105, c106, c107, c108, c109, c110, c111, c112, c113, c114, c115, c116, c117, c118, c119, c120, c121, c122, c123, c124, c125, c126, c127, c128, c129, c130, c131, c132, c133, c134, c135, c136, c137, c138, c139, c140, c141, c142, c143, c144, c145, c146, c147, c148, c149, c150, c151, c152, c153, c154, c155, c156, c157, c158, c159, c160, c161, c162, c163, c164, c165, c166, c167, c168, c169, c170, c171, c172, c173, c174, c175, c176, c177, c178, c179, c180, c181, c182, c183, c184, c185, c186, c187, c188, c189, c190, c191, c192, c193, c194, c195, c196, c197, c198, c199, c200, c201, c202, c203, c204, c205, c206, c207, c208, c209, c210, c211, c212, c213, c214, c215, c216, c217, c218, c219, c220, c221, c222], []⟩ w := by
  conv => arg 2; whnf
  try go_wp2
  go_loopw [5, 6] (fun v i wr => ∃ k : Nat, k ≤ 64 ∧ i = .int .i64 k ∧ Row wr base 3 v (ints (Sha.sched (bts s) k)) ∧ Below base w0 wr) (fun _ i _ => 64 - (intOf i).toNat)
  case atStart => exact ⟨0, by omega, rfl, World.ownsRow_nil _ _ _ _, hbw⟩
  case round =>
    obtain ⟨k, hk, rfl, hrow, hb⟩ := hrel
    have hbs : base ≤ wr.heap.size := Nat.le_trans hb0 hb.size
    have hbo := bts_ok s
    have hln : (ints (Sha.sched (bts s) k)).length = k := by rw [ints_length, Sha.sched_length]
    by_cases h64 : k < 64
    · by_cases h16 : k < 16
      · go_wp2_with fail
        refine blkR6_wp s _ (ints (Sha.sched (bts s) k)) k base _ w0 _ hs h16 hrow (by omega) hbs hb ?_
        intro u27 u28 u29 u30 u31 u32 u33 u34 u35 u36 u37 u38 u39 u40 u41 u42 u43 u44 u45 u46 u47 u48 u49 u50 u51 u52 u53 u54 u55 u56 u57 u58 v' w' hrow' hb'
        go_wp2_with fail
        refine ⟨⟨k + 1, by omega, by go_num, hrow'.eq ?_, hb'⟩, by simp [intOf]; omega⟩
        rw [Sha.sched, if_pos h16, ints_append]
        rfl
      · obtain ⟨g, cap, hv, hgb, hnc, hcm, hcell, hgl, hfz⟩ := hrow.form (by rw [hln]; omega)
        rw [hln] at hcell hnc hv
        subst hv
        have hc : ∀ j, j < k → wr.cell? ⟨g, j, none⟩ = some (.int .i64 (((Sha.sched (bts s) k).getD j 0 : Nat) : Int)) := fun j hj => by
          rw [hcell j hj, ints_get _ _ (by rw [Sha.sched_length]; exact hj)]
        have hl := Sha.sched_lt hbo k
        have e2 := hc (k - 2) (by omega)
        have e15 := hc (k - 15) (by omega)
        have e7 := hc (k - 7) (by omega)
        have e16 := hc (k - 16) (by omega)
        have l2 := hl (k - 2)
        have l15 := hl (k - 15)
        have l7 := hl (k - 7)
        have l16 := hl (k - 16)
        have HN : Hid (Sha.next (Sha.sched (bts s) k) k = ((Sha.sched (bts s) k).getD (k - 16) 0 + Sha.ss0 ((Sha.sched (bts s) k).getD (k - 15) 0) + (Sha.sched (bts s) k).getD (k - 7) 0 + Sha.ss1 ((Sha.sched (bts s) k).getD (k - 2) 0)) % 4294967296) := rfl
        generalize (Sha.sched (bts s) k).getD (k - 2) 0 = x2 at *
        generalize (Sha.sched (bts s) k).getD (k - 15) 0 = x15 at *
        generalize (Sha.sched (bts s) k).getD (k - 7) 0 = x7 at *
        generalize (Sha.sched (bts s) k).getD (k - 16) 0 = x16 at *
        have HR : Hid _ := hrow
        have HB : Hid _ := hb
        clear hc hl hcell hrow hb hQ hbw hfz
        have i16 : (16 : Int) ≤ (k : Int) := by omega
        go_wp2_with fail
        refine (turn_any x15 7 _ l15 (by simp [isTurn])).mono ?_
        rintro e w1 ⟨rfl, m1, rfl⟩
        go_wp2_with fail
        refine (turn_any x15 18 _ l15 (by simp [isTurn])).mono ?_
        rintro e w1 ⟨rfl, m2, rfl⟩
        go_wp2_with fail
        refine (turn_any x2 17 _ l2 (by simp [isTurn])).mono ?_
        rintro e w1 ⟨rfl, m3, rfl⟩
        go_wp2_with fail
        refine (turn_any x2 19 _ l2 (by simp [isTurn])).mono ?_
        rintro e w1 ⟨rfl, m4, rfl⟩
        go_wp2_with fail
        rw [ss0_ref x15 l15, ss1_ref x2 l2]
        refine blkR11_wp g cap k x16 x7 (Sha.ss0 x15) (Sha.ss1 x2) base (ints (Sha.sched (bts s) k)) _ w0 _ (by omega) h64 hln l16 l7 (Sha.ss0_lt _ l15) (Sha.ss1_lt _ l2) (Row.drewN (v := .slice (some ⟨g, 0, none⟩) k cap) HR.out _) e16 e7 hbs (Below.drewN' HB.out _) hgl ?_
        intro u85 u86 u87 u88 u89 u90 u91 u92 u93 u94 u95 u96 u97 u98 u99 u100 u101 u102 u103 v' w' hrow' hb'
        go_wp2_with fail
        refine ⟨⟨k + 1, by omega, by go_num, hrow'.eq ?_, hb'⟩, by simp [intOf]; omega⟩
        rw [Sha.sched, if_neg h16, ints_append, HN.out]
        rfl
    · have hk4 : k = 64 := by omega
      subst hk4
      go_wp2
      exact hQ _ _ _ _ _ _ _ _ _ _ _ _ _ _ _ _ _ _ _ _ _ _ _ _ _ _ _ _ _ _ _ _ _ _ _ _ _ _ _ _ _ _ _ _ _ _ _ _ _ _ _ _ _ _ _ _ _ _ _ _ _ _ _ _ _ _ _ _ _ _ _ _ _ _ _ _ _ _ _ _ _ _ _ _ _ _ _ _ _ _ hrow hb
end Go.Proofs.YtlhohmlpcgbliabGreatDoor
namespace Go.Proofs.YtlhohmlpcgbliabGreatDoor
set_option maxRecDepth 100000
open Go.RowKit

/-- The two texts of digits. -/
def keysL : List UInt8 := [52, 50, 56, 97, 50, 102, 57, 56, 55, 49, 51, 55, 52, 52, 57, 49, 98, 53, 99, 48, 102, 98, 99, 102, 101, 57, 98, 53, 100, 98, 97, 53, 51, 57, 53, 54, 99, 50, 53, 98, 53, 57, 102, 49, 49, 49, 102, 49, 57, 50, 51, 102, 56, 50, 97, 52, 97, 98, 49, 99, 53, 101, 100, 53, 100, 56, 48, 55, 97, 97, 57, 56, 49, 50, 56, 51, 53, 98, 48, 49, 50, 52, 51, 49, 56, 53, 98, 101, 53, 53, 48, 99, 55, 100, 99, 51, 55, 50, 98, 101, 53, 100, 55, 52, 56, 48, 100, 101, 98, 49, 102, 101, 57, 98, 100, 99, 48, 54, 97, 55, 99, 49, 57, 98, 102, 49, 55, 52, 101, 52, 57, 98, 54, 57, 99, 49, 101, 102, 98, 101, 52, 55, 56, 54, 48, 102, 99, 49, 57, 100, 99, 54, 50, 52, 48, 99, 97, 49, 99, 99, 50, 100, 101, 57, 50, 99, 54, 102, 52, 97, 55, 52, 56, 52, 97, 97, 53, 99, 98, 48, 97, 57, 100, 99, 55, 54, 102, 57, 56, 56, 100, 97, 57, 56, 51, 101, 53, 49, 53, 50, 97, 56, 51, 49, 99, 54, 54, 100, 98, 48, 48, 51, 50, 55, 99, 56, 98, 102, 53, 57, 55, 102, 99, 55, 99, 54, 101, 48, 48, 98, 102, 51, 100, 53, 97, 55, 57, 49, 52, 55, 48, 54, 99, 97, 54, 51, 53, 49, 49, 52, 50, 57, 50, 57, 54, 55, 50, 55, 98, 55, 48, 97, 56, 53, 50, 101, 49, 98, 50, 49, 51, 56, 52, 100, 50, 99, 54, 100, 102, 99, 53, 51, 51, 56, 48, 100, 49, 51, 54, 53, 48, 97, 55, 51, 53, 52, 55, 54, 54, 97, 48, 97, 98, 98, 56, 49, 99, 50, 99, 57, 50, 101, 57, 50, 55, 50, 50, 99, 56, 53, 97, 50, 98, 102, 101, 56, 97, 49, 97, 56, 49, 97, 54, 54, 52, 98, 99, 50, 52, 98, 56, 98, 55, 48, 99, 55, 54, 99, 53, 49, 97, 51, 100, 49, 57, 50, 101, 56, 49, 57, 100, 54, 57, 57, 48, 54, 50, 52, 102, 52, 48, 101, 51, 53, 56, 53, 49, 48, 54, 97, 97, 48, 55, 48, 49, 57, 97, 52, 99, 49, 49, 54, 49, 101, 51, 55, 54, 99, 48, 56, 50, 55, 52, 56, 55, 55, 52, 99, 51, 52, 98, 48, 98, 99, 98, 53, 51, 57, 49, 99, 48, 99, 98, 51, 52, 101, 100, 56, 97, 97, 52, 97, 53, 98, 57, 99, 99, 97, 52, 102, 54, 56, 50, 101, 54, 102, 102, 51, 55, 52, 56, 102, 56, 50, 101, 101, 55, 56, 97, 53, 54, 51, 54, 102, 56, 52, 99, 56, 55, 56, 49, 52, 56, 99, 99, 55, 48, 50, 48, 56, 57, 48, 98, 101, 102, 102, 102, 97, 97, 52, 53, 48, 54, 99, 101, 98, 98, 101, 102, 57, 97, 51, 102, 55, 99, 54, 55, 49, 55, 56, 102, 50]
def firstL : List UInt8 := [54, 97, 48, 57, 101, 54, 54, 55, 98, 98, 54, 55, 97, 101, 56, 53, 51, 99, 54, 101, 102, 51, 55, 50, 97, 53, 52, 102, 102, 53, 51, 97, 53, 49, 48, 101, 53, 50, 55, 102, 57, 98, 48, 53, 54, 56, 56, 99, 49, 102, 56, 51, 100, 57, 97, 98, 53, 98, 101, 48, 99, 100, 49, 57]
def keysB : ByteArray := ⟨keysL.toArray⟩
def firstB : ByteArray := ⟨firstL.toArray⟩
theorem keysB_size : keysB.size = 512 := by decide +kernel
theorem firstB_size : firstB.size = 64 := by decide +kernel
theorem isHex_of {s : ByteArray} (h : (bts s).all (fun c => (48 ≤ c && c ≤ 57) || (97 ≤ c && c ≤ 102)) = true) : isHex (bts s) := by
  intro i
  rw [List.getD_eq_getElem?_getD]
  cases hq : (bts s)[i]? with
  | none => simp
  | some x =>
    have := List.all_eq_true.1 h x (List.mem_of_getElem? hq)
    simpa using this
theorem keysB_hex : isHex (bts keysB) := isHex_of (by decide +kernel)
theorem firstB_hex : isHex (bts firstB) := isHex_of (by decide +kernel)
theorem keysB_val (k : Nat) (h : k < 64) : hexK (bts keysB) k 8 = Sha.keys.getD k 0 := by
  have : ∀ j : Fin 64, hexK (bts keysB) j.val 8 = Sha.keys.getD j.val 0 := by decide +kernel
  exact this ⟨k, h⟩
theorem firstB_val (k : Nat) (h : k < 8) : hexK (bts firstB) k 8 = Sha.init.list.getD k 0 := by
  have : ∀ j : Fin 8, hexK (bts firstB) j.val 8 = Sha.init.list.getD j.val 0 := by decide +kernel
  exact this ⟨k, h⟩
theorem word_keys (k : Nat) (w : World) (h : k < 64) (s : ByteArray) (hs : s = keysB) :
    Calls Tryz.prog 52 #[.string s, .int .i64 (k : Int)] w fun e w' => e = .returned (.int .i64 (Sha.keys.getD k 0 : Int)) ∧ w' = w := by
  subst hs
  rw [← keysB_val k h]
  exact word_any keysB k w (by rw [keysB_size]; omega) (by rw [keysB_size]; omega) keysB_hex
theorem word_first (k : Nat) (w : World) (h : k < 8) (s : ByteArray) (hs : s = firstB) :
    Calls Tryz.prog 52 #[.string s, .int .i64 (k : Int)] w fun e w' => e = .returned (.int .i64 (Sha.init.list.getD k 0 : Int)) ∧ w' = w := by
  subst hs
  rw [← firstB_val k h]
  exact word_any firstB k w (by rw [firstB_size]; omega) (by rw [firstB_size]; omega) firstB_hex

end Go.Proofs.YtlhohmlpcgbliabGreatDoor
namespace Go.Proofs.YtlhohmlpcgbliabGreatDoor
set_option maxRecDepth 100000
open Go.RowKit
attribute [local go_sem ↓] Go.wp_at_zero Go.wp_at_succ


set_option maxRecDepth 100000 in
set_option maxHeartbeats 1000000 in
theorem blkR18_wp {c0 c1 c2 c3 c4 c5 c6 c7 c8 c9 c10 c12 c13 c15 c16 c17 c18 c19 c20 c21 c22 c23 c24 c25 c26 c27 c28 c29 c30 c31 c32 c33 c34 c35 c36 c37 c38 c39 c40 c41 c42 c43 c44 c45 c46 c47 c48 c49 c50 c51 c52 c53 c54 c55 c56 c57 c58 c59 c60 c61 c62 c63 c64 c65 c66 c67 c68 c69 c70 c71 c72 c73 c74 c75 c76 c77 c78 c79 c80 c81 c82 c83 c84 c85 c86 c87 c88 c89 c90 c91 c92 c93 c94 c95 c96 c97 c98 c99 c100 c101 c102 c103 c104 c105 c106 c107 c108 c109 c110 c111 c112 c113 c114 c115 c116 c117 c118 c119 c120 c121 c122 c123 c124 c125 c126 c127 c128 c129 c130 c131 c132 c133 c134 c135 c136 c137 c138 c139 c140 c141 c142 c143 c144 c145 c146 c147 c148 c149 c150 c151 c152 c153 c154 c155 c156 c157 c158 c159 c160 c161 c162 c163 c164 c165 c166 c167 c168 c169 c170 c171 c172 c173 c174 c175 c176 c177 c178 c179 c180 c181 c182 c183 c184 c185 c186 c187 c188 c189 c190 c191 c192 c193 c194 c195 c196 c197 c198 c199 c200 c201 c202 c203 c204 c205 c206 c207 c208 c209 c210 c211 c212 c213 c214 c215 c216 c217 c218 c219 c220 c221 c222 : Value} (gv cv e f g : Nat) (w : World) (Q : Exit → Act → World → Prop) (he : e < 4294967296) (hf : f < 4294967296) (hg : g < 4294967296)
  (k5 : w.cell? ⟨gv, 5, none⟩ = some (.int .i64 (f : Int))) (k6 : w.cell? ⟨gv, 6, none⟩ = some (.int .i64 (g : Int)))
  (hQ : ∀ (u117 u118 u119 u120 u121 u122 u123 u124 u125 u126 u127 u128 : Value) (n : Nat), Q .normal ⟨#[c0, c1, c2, c3, c4, c5, c6, c7, c8, c9, c10, .slice (some ⟨gv, 0, none⟩) 8 cv, c12, c13, .int .i64 (e : Int), .int .i64 (Sha.ch e f g : Int), c16, c17, c18, c19, c20, c21, c22, c23, c24, c25, c26, c27, c28, c29, c30, c31, c32, c33, c34, c35, c36, c37, c38, c39, c40, c41, c42, c43, c44, c45, c46, c47, c48, c49, c50, c51, c52, c53, c54, c55, c56, c57, c58, c59, c60, c61, c62, c63, c64, c65, c66, c67, c68, c69, c70, c71, c72, c73, c74, c75, c76, c77, c78, c79, c80, c81, c82, c83, c84, c85, c86, c87, c88, c89, c90, c91, c92, c93, c94, c95, c96, c97, c98, c99, c100, c101, c102, c103, c104, c105, c106, c107, c108, c109, c110, c111, c112, c113, c114, c115, c116, u117, u118, u119, u120, u121, u122, u123, u124, u125, u126, u127, u128, c129, c130, c131, c132, c133, c134, c135, c136, c137, c138, c139, c140, c141, c142, c143, c144, c145, c146, c147, c148, c149, c150, c151, c152, c153, c154, c155, c156, c157, c158, c159, c160, c161, c162, c163, c164, c165, c166, c167, c168, c169, c170, c171, c172, c173, c174, c175, c176, c177, c178, c179, c180, c181, c182, c183, c184, c185, c186, c187, c188, c189, c190, c191, c192, c193, c194, c195, c196, c197, c198, c199, c200, c201, c202, c203, c204, c205, c206, c207, c208, c209, c210, c211, c212, c213, c214, c215, c216, c217, c218, c219, c220, c221, c222], []⟩ (w.drewN n)) :
  Code.wp Tryz.prog (rgn Tryz.f53 18) Q ⟨#[c0, c1, c2, c3, c4, c5, c6, c7, c8, c9, c10, .slice (some ⟨gv, 0, none⟩) 8 cv, c12, c13, .int .i64 (e : Int), c15, c16, c17, c18, c19, c20, c21, c22, c23, c24, c25, c26, c27, c28, c29, c30, c31, c32, c33, c34, c35, c36, c37, c38, c39, c40, c41, c42, c43, c44, c45, c46, c47, c48, c49, c50, c51, c52, c53, c54, c55, c56, c57, c58, c59, c60, c61, c62, c63, c64, c65, c66, c67, c68, c69, c70, c71, c72, c73, c74, c75, c76, c77, c78, c79, c80, c81, c82, c83, c84, c85, c86, c87, c88, c89, c90, c91, c92, c93, c94, c95, c96, c97, c98, c99, c100, c101, c102, c103, c104, c105, c106, c107, c108, c109, c110, c111, c112, c113, c114, c115, c116, c117, c118, c119, c120, c121, c122, c123, c124, c125, c126, c127, c128, c129, c130, c131, c132, c133, c134, c135, c136, c137, c138, c139, c140, c141, c142, c143, c144, c145, c146, c147, c148, c149, c150, c151, c152, c153, c154, c155, c156, c157, c158, c159, c160, c161, c162, c163, c164, c165, c166, c167, c168, c169, c170, c171, c172, c173, c174, c175, c176, c177, c178, c179, c180, c181, c182, c183, c184, c185, c186, c187, c188, c189, c190, c191, c192, c193, c194, c195, c196, c197, c198, c199, c200, c201, c202, c203, c204, c205, c206, c207, c208, c209, c210, c211, c212, c213, c214, c215, c216, c217, c218, c219, c220, c221, c222], []⟩ w := by
  conv => arg 2; whnf
  have HC := ch_ref e f g he hf hg
  go_quiet ((go_at_call 82; exact Calls.quiet_of_same (not_any _ _ he)))
  exact hQ _ _ _ _ _ _ _ _ _ _ _ _ _

set_option maxRecDepth 100000 in
set_option maxHeartbeats 1000000 in
theorem blkR19_wp {c0 c1 c2 c3 c4 c5 c6 c7 c8 c9 c10 c12 c14 c15 c16 c17 c18 c19 c20 c21 c22 c23 c24 c25 c26 c27 c28 c29 c30 c31 c32 c33 c34 c35 c36 c37 c38 c39 c40 c41 c42 c43 c44 c45 c46 c47 c48 c49 c50 c51 c52 c53 c54 c55 c56 c57 c58 c59 c60 c61 c62 c63 c64 c65 c66 c67 c68 c69 c70 c71 c72 c73 c74 c75 c76 c77 c78 c79 c80 c81 c82 c83 c84 c85 c86 c87 c88 c89 c90 c91 c92 c93 c94 c95 c96 c97 c98 c99 c100 c101 c102 c103 c104 c105 c106 c107 c108 c109 c110 c111 c112 c113 c114 c115 c116 c117 c118 c119 c120 c121 c122 c123 c124 c125 c126 c127 c128 c129 c130 c131 c132 c133 c134 c135 c136 c137 c138 c139 c140 c141 c142 c143 c144 c145 c146 c147 c148 c149 c150 c151 c152 c153 c154 c155 c156 c157 c158 c159 c160 c161 c162 c163 c164 c165 c166 c167 c168 c169 c170 c171 c172 c173 c174 c175 c176 c177 c178 c179 c180 c181 c182 c183 c184 c185 c186 c187 c188 c189 c190 c191 c192 c193 c194 c195 c196 c197 c198 c199 c200 c201 c202 c203 c204 c205 c206 c207 c208 c209 c210 c211 c212 c213 c214 c215 c216 c217 c218 c219 c220 c221 c222 : Value} (gv cv a b c : Nat) (w : World) (Q : Exit → Act → World → Prop) (ha : a < 4294967296) (hb : b < 4294967296) (hc : c < 4294967296)
  (k1 : w.cell? ⟨gv, 1, none⟩ = some (.int .i64 (b : Int))) (k2 : w.cell? ⟨gv, 2, none⟩ = some (.int .i64 (c : Int)))
  (hQ : ∀ (u129 u130 u131 u132 u133 u134 u135 u136 u137 u138 u139 u140 u141 u142 u143 u144 u145 u146 u147 : Value) (n : Nat), Q .normal ⟨#[c0, c1, c2, c3, c4, c5, c6, c7, c8, c9, c10, .slice (some ⟨gv, 0, none⟩) 8 cv, c12, .int .i64 (a : Int), c14, c15, .int .i64 (Sha.maj a b c : Int), c17, c18, c19, c20, c21, c22, c23, c24, c25, c26, c27, c28, c29, c30, c31, c32, c33, c34, c35, c36, c37, c38, c39, c40, c41, c42, c43, c44, c45, c46, c47, c48, c49, c50, c51, c52, c53, c54, c55, c56, c57, c58, c59, c60, c61, c62, c63, c64, c65, c66, c67, c68, c69, c70, c71, c72, c73, c74, c75, c76, c77, c78, c79, c80, c81, c82, c83, c84, c85, c86, c87, c88, c89, c90, c91, c92, c93, c94, c95, c96, c97, c98, c99, c100, c101, c102, c103, c104, c105, c106, c107, c108, c109, c110, c111, c112, c113, c114, c115, c116, c117, c118, c119, c120, c121, c122, c123, c124, c125, c126, c127, c128, u129, u130, u131, u132, u133, u134, u135, u136, u137, u138, u139, u140, u141, u142, u143, u144, u145, u146, u147, c148, c149, c150, c151, c152, c153, c154, c155, c156, c157, c158, c159, c160, c161, c162, c163, c164, c165, c166, c167, c168, c169, c170, c171, c172, c173, c174, c175, c176, c177, c178, c179, c180, c181, c182, c183, c184, c185, c186, c187, c188, c189, c190, c191, c192, c193, c194, c195, c196, c197, c198, c199, c200, c201, c202, c203, c204, c205, c206, c207, c208, c209, c210, c211, c212, c213, c214, c215, c216, c217, c218, c219, c220, c221, c222], []⟩ (w.drewN n)) :
  Code.wp Tryz.prog (rgn Tryz.f53 19) Q ⟨#[c0, c1, c2, c3, c4, c5, c6, c7, c8, c9, c10, .slice (some ⟨gv, 0, none⟩) 8 cv, c12, .int .i64 (a : Int), c14, c15, c16, c17, c18, c19, c20, c21, c22, c23, c24, c25, c26, c27, c28, c29, c30, c31, c32, c33, c34, c35, c36, c37, c38, c39, c40, c41, c42, c43, c44, c45, c46, c47, c48, c49, c50, c51, c52, c53, c54, c55, c56, c57, c58, c59, c60, c61, c62, c63, c64, c65, c66, c67, c68, c69, c70, c71, c72, c73, c74, c75, c76, c77, c78, c79, c80, c81, c82, c83, c84, c85, c86, c87, c88, c89, c90, c91, c92, c93, c94, c95, c96, c97, c98, c99, c100, c101, c102, c103, c104, c105, c106, c107, c108, c109, c110, c111, c112, c113, c114, c115, c116, c117, c118, c119, c120, c121, c122, c123, c124, c125, c126, c127, c128, c129, c130, c131, c132, c133, c134, c135, c136, c137, c138, c139, c140, c141, c142, c143, c144, c145, c146, c147, c148, c149, c150, c151, c152, c153, c154, c155, c156, c157, c158, c159, c160, c161, c162, c163, c164, c165, c166, c167, c168, c169, c170, c171, c172, c173, c174, c175, c176, c177, c178, c179, c180, c181, c182, c183, c184, c185, c186, c187, c188, c189, c190, c191, c192, c193, c194, c195, c196, c197, c198, c199, c200, c201, c202, c203, c204, c205, c206, c207, c208, c209, c210, c211, c212, c213, c214, c215, c216, c217, c218, c219, c220, c221, c222], []⟩ w := by
  conv => arg 2; whnf
  have HM := maj_ref a b c ha hb hc
  go_quiet (fail)
  exact hQ _ _ _ _ _ _ _ _ _ _ _ _ _ _ _ _ _ _ _ _

set_option maxRecDepth 100000 in
set_option maxHeartbeats 1000000 in
theorem blkR20_wp {c0 c1 c2 c3 c4 c6 c7 c8 c9 c10 c13 c16 c17 c18 c19 c20 c21 c22 c23 c24 c25 c26 c27 c28 c29 c30 c31 c32 c33 c34 c35 c36 c37 c38 c39 c40 c41 c42 c43 c44 c45 c46 c47 c48 c49 c50 c51 c52 c53 c54 c55 c56 c57 c58 c59 c60 c61 c62 c63 c64 c65 c66 c67 c68 c69 c70 c71 c72 c73 c74 c75 c76 c77 c78 c79 c80 c81 c82 c83 c84 c85 c86 c87 c88 c89 c90 c91 c92 c93 c94 c95 c96 c97 c98 c99 c100 c101 c102 c103 c104 c105 c106 c107 c108 c109 c110 c111 c112 c113 c114 c115 c116 c117 c118 c119 c120 c121 c122 c123 c124 c125 c126 c127 c128 c129 c130 c131 c132 c133 c134 c135 c136 c137 c138 c139 c140 c141 c142 c143 c144 c145 c146 c147 c148 c149 c150 c151 c152 c153 c154 c155 c156 c157 c158 c159 c160 c161 c162 c163 c164 c165 c166 c167 c168 c169 c170 c171 c172 c173 c174 c175 c176 c177 c178 c179 c180 c181 c182 c183 c184 c185 c186 c187 c188 c189 c190 c191 c192 c193 c194 c195 c196 c197 c198 c199 c200 c201 c202 c203 c204 c205 c206 c207 c208 c209 c210 c211 c212 c213 c214 c215 c216 c217 c218 c219 c220 c221 c222 : Value} (gv cv gw cw k e x h wk : Nat) (w : World) (Q : Exit → Act → World → Prop) (hk : k < 64) (he : e < 4294967296) (hx : x < 4294967296) (hh : h < 4294967296) (hwk : wk < 4294967296)
  (k7 : w.cell? ⟨gv, 7, none⟩ = some (.int .i64 (h : Int))) (kw : w.cell? ⟨gw, k, none⟩ = some (.int .i64 (wk : Int)))
  (hQ : ∀ (u148 u149 u150 u151 u152 u153 u154 u155 u156 u157 u158 u159 u160 u161 u162 u163 u164 u165 u166 u167 u168 u169 : Value) (n : Nat), Q .normal ⟨#[c0, c1, c2, c3, c4, .slice (some ⟨gw, 0, none⟩) 64 cw, c6, c7, c8, c9, c10, .slice (some ⟨gv, 0, none⟩) 8 cv, .int .i64 (k : Int), c13, .int .i64 (e : Int), .int .i64 (x : Int), c16, .int .i64 ((h + Sha.bs1 e + x + Sha.keys.getD k 0 + wk : Nat) : Int), c18, c19, c20, c21, c22, c23, c24, c25, c26, c27, c28, c29, c30, c31, c32, c33, c34, c35, c36, c37, c38, c39, c40, c41, c42, c43, c44, c45, c46, c47, c48, c49, c50, c51, c52, c53, c54, c55, c56, c57, c58, c59, c60, c61, c62, c63, c64, c65, c66, c67, c68, c69, c70, c71, c72, c73, c74, c75, c76, c77, c78, c79, c80, c81, c82, c83, c84, c85, c86, c87, c88, c89, c90, c91, c92, c93, c94, c95, c96, c97, c98, c99, c100, c101, c102, c103, c104, c105, c106, c107, c108, c109, c110, c111, c112, c113, c114, c115, c116, c117, c118, c119, c120, c121, c122, c123, c124, c125, c126, c127, c128, c129, c130, c131, c132, c133, c134, c135, c136, c137, c138, c139, c140, c141, c142, c143, c144, c145, c146, c147, u148, u149, u150, u151, u152, u153, u154, u155, u156, u157, u158, u159, u160, u161, u162, u163, u164, u165, u166, u167, u168, u169, c170, c171, c172, c173, c174, c175, c176, c177, c178, c179, c180, c181, c182, c183, c184, c185, c186, c187, c188, c189, c190, c191, c192, c193, c194, c195, c196, c197, c198, c199, c200, c201, c202, c203, c204, c205, c206, c207, c208, c209, c210, c211, c212, c213, c214, c215, c216, c217, c218, c219, c220, c221, c222], []⟩ (w.drewN n)) :
  Code.wp Tryz.prog (rgn Tryz.f53 20) Q ⟨#[c0, c1, c2, c3, c4, .slice (some ⟨gw, 0, none⟩) 64 cw, c6, c7, c8, c9, c10, .slice (some ⟨gv, 0, none⟩) 8 cv, .int .i64 (k : Int), c13, .int .i64 (e : Int), .int .i64 (x : Int), c16, c17, c18, c19, c20, c21, c22, c23, c24, c25, c26, c27, c28, c29, c30, c31, c32, c33, c34, c35, c36, c37, c38, c39, c40, c41, c42, c43, c44, c45, c46, c47, c48, c49, c50, c51, c52, c53, c54, c55, c56, c57, c58, c59, c60, c61, c62, c63, c64, c65, c66, c67, c68, c69, c70, c71, c72, c73, c74, c75, c76, c77, c78, c79, c80, c81, c82, c83, c84, c85, c86, c87, c88, c89, c90, c91, c92, c93, c94, c95, c96, c97, c98, c99, c100, c101, c102, c103, c104, c105, c106, c107, c108, c109, c110, c111, c112, c113, c114, c115, c116, c117, c118, c119, c120, c121, c122, c123, c124, c125, c126, c127, c128, c129, c130, c131, c132, c133, c134, c135, c136, c137, c138, c139, c140, c141, c142, c143, c144, c145, c146, c147, c148, c149, c150, c151, c152, c153, c154, c155, c156, c157, c158, c159, c160, c161, c162, c163, c164, c165, c166, c167, c168, c169, c170, c171, c172, c173, c174, c175, c176, c177, c178, c179, c180, c181, c182, c183, c184, c185, c186, c187, c188, c189, c190, c191, c192, c193, c194, c195, c196, c197, c198, c199, c200, c201, c202, c203, c204, c205, c206, c207, c208, c209, c210, c211, c212, c213, c214, c215, c216, c217, c218, c219, c220, c221, c222], []⟩ w := by
  conv => arg 2; whnf
  have HB := bs1_ref e he
  have lk := Sha.keys_lt k
  have lb := Sha.bs1_lt e he
  have i0 : (0 : Int) ≤ (k : Int) := by omega
  have i1 : (k : Int) < 64 := by omega
  have hwd := fun wx s hs => word_keys k wx hk s hs
  have HK : Hid (IntKind.i64.wrap (IntKind.i64.wrap (IntKind.i64.wrap (IntKind.i64.wrap ((h : Int) + (Sha.bs1 e : Int)) + (x : Int)) + (Sha.keys.getD k 0 : Int)) + (wk : Int)) = ((h + Sha.bs1 e + x + Sha.keys.getD k 0 + wk : Nat) : Int)) := by
    show _ = _
    generalize Sha.keys.getD k 0 = key at *
    generalize Sha.bs1 e = b1 at *
    rw [wr_id (z := (h : Int) + b1) (by omega) (by omega), wr_id (z := (h : Int) + b1 + x) (by omega) (by omega), wr_id (z := (h : Int) + b1 + x + key) (by omega) (by omega), wr_id (z := (h : Int) + b1 + x + key + wk) (by omega) (by omega)]
    omega
  generalize Sha.keys.getD k 0 = key at *
  go_quiet ((first | (go_at_call 81; exact Calls.quiet_of (turn_any _ _ _ he (by simp [isTurn]))) | (go_at_call 52; exact Calls.quiet_of_same (hwd _ _ (by kernel_rfl)))))
  rw [HK.out]
  exact hQ _ _ _ _ _ _ _ _ _ _ _ _ _ _ _ _ _ _ _ _ _ _ _

theorem Cells.of {l : List (Addr × Value)} {w : World} (h : ∀ p ∈ l, w.cell? p.1 = some p.2) : Cells l w := h
theorem Cells.alloc {l : List (Addr × Value)} {w : World} (h : Cells l w) (o : Obj) : Cells l ((w.alloc o).drewN 1) := by
  intro p hp
  have hc := h p hp
  rw [World.cell?_drewN, ← hc]
  exact World.cell?_of_block (Below.heap_alloc _ _ _ (World.block_lt_of_cell? _ _ hc))

set_option maxRecDepth 100000 in
set_option maxHeartbeats 1000000 in
theorem blkR22_wp {c0 c1 c2 c3 c4 c5 c6 c7 c8 c9 c10 c12 c15 c16 c19 c20 c21 c22 c23 c24 c25 c26 c27 c28 c29 c30 c31 c32 c33 c34 c35 c36 c37 c38 c39 c40 c41 c42 c43 c44 c45 c46 c47 c48 c49 c50 c51 c52 c53 c54 c55 c56 c57 c58 c59 c60 c61 c62 c63 c64 c65 c66 c67 c68 c69 c70 c71 c72 c73 c74 c75 c76 c77 c78 c79 c80 c81 c82 c83 c84 c85 c86 c87 c88 c89 c90 c91 c92 c93 c94 c95 c96 c97 c98 c99 c100 c101 c102 c103 c104 c105 c106 c107 c108 c109 c110 c111 c112 c113 c114 c115 c116 c117 c118 c119 c120 c121 c122 c123 c124 c125 c126 c127 c128 c129 c130 c131 c132 c133 c134 c135 c136 c137 c138 c139 c140 c141 c142 c143 c144 c145 c146 c147 c148 c149 c150 c151 c152 c153 c154 c155 c156 c157 c158 c159 c160 c161 c162 c163 c164 c165 c166 c167 c168 c169 c170 c171 c172 c173 c174 c175 c176 c177 c178 c179 c180 c181 c182 c183 c184 c185 c186 c187 c188 c189 c190 c191 c192 c193 c194 c195 c196 c197 c198 c199 c200 c201 c202 c203 c204 c205 c206 c207 c208 c209 c210 c211 c212 c213 c214 c215 c216 c217 c218 c219 c220 c221 c222 : Value} (gv cv a b c d e f g t u : Nat) (w : World) (Q : Exit → Act → World → Prop) (ht : t < 4294967296000) (hu : u < 4294967296000) (hd : d < 4294967296)
  (hcs : Cells [(⟨gv, 1, none⟩, .int .i64 (b : Int)), (⟨gv, 2, none⟩, .int .i64 (c : Int)), (⟨gv, 3, none⟩, .int .i64 (d : Int)), (⟨gv, 5, none⟩, .int .i64 (f : Int)), (⟨gv, 6, none⟩, .int .i64 (g : Int))] w)
  (hQ : ∀ (u180 u181 u182 u183 u184 u185 u186 u187 u188 u189 u190 u191 u192 u193 u194 u195 u196 u197 u198 u199 u200 u201 u202 u203 u204 : Value), Q .normal ⟨#[c0, c1, c2, c3, c4, c5, c6, c7, c8, c9, c10, .slice (some ⟨w.heap.size, 0, none⟩) 8 8, c12, .int .i64 (a : Int), .int .i64 (e : Int), c15, c16, .int .i64 (t : Int), .int .i64 (u : Int), c19, c20, c21, c22, c23, c24, c25, c26, c27, c28, c29, c30, c31, c32, c33, c34, c35, c36, c37, c38, c39, c40, c41, c42, c43, c44, c45, c46, c47, c48, c49, c50, c51, c52, c53, c54, c55, c56, c57, c58, c59, c60, c61, c62, c63, c64, c65, c66, c67, c68, c69, c70, c71, c72, c73, c74, c75, c76, c77, c78, c79, c80, c81, c82, c83, c84, c85, c86, c87, c88, c89, c90, c91, c92, c93, c94, c95, c96, c97, c98, c99, c100, c101, c102, c103, c104, c105, c106, c107, c108, c109, c110, c111, c112, c113, c114, c115, c116, c117, c118, c119, c120, c121, c122, c123, c124, c125, c126, c127, c128, c129, c130, c131, c132, c133, c134, c135, c136, c137, c138, c139, c140, c141, c142, c143, c144, c145, c146, c147, c148, c149, c150, c151, c152, c153, c154, c155, c156, c157, c158, c159, c160, c161, c162, c163, c164, c165, c166, c167, c168, c169, c170, c171, c172, c173, c174, c175, c176, c177, c178, c179, u180, u181, u182, u183, u184, u185, u186, u187, u188, u189, u190, u191, u192, u193, u194, u195, u196, u197, u198, u199, u200, u201, u202, u203, u204, c205, c206, c207, c208, c209, c210, c211, c212, c213, c214, c215, c216, c217, c218, c219, c220, c221, c222], []⟩ ((w.alloc (.cells (ints [(t + u) % 4294967296, a, b, c, (d + t) % 4294967296, e, f, g]).toArray 3)).drewN 1)) :
  Code.wp Tryz.prog (rgn Tryz.f53 22) Q ⟨#[c0, c1, c2, c3, c4, c5, c6, c7, c8, c9, c10, .slice (some ⟨gv, 0, none⟩) 8 cv, c12, .int .i64 (a : Int), .int .i64 (e : Int), c15, c16, .int .i64 (t : Int), .int .i64 (u : Int), c19, c20, c21, c22, c23, c24, c25, c26, c27, c28, c29, c30, c31, c32, c33, c34, c35, c36, c37, c38, c39, c40, c41, c42, c43, c44, c45, c46, c47, c48, c49, c50, c51, c52, c53, c54, c55, c56, c57, c58, c59, c60, c61, c62, c63, c64, c65, c66, c67, c68, c69, c70, c71, c72, c73, c74, c75, c76, c77, c78, c79, c80, c81, c82, c83, c84, c85, c86, c87, c88, c89, c90, c91, c92, c93, c94, c95, c96, c97, c98, c99, c100, c101, c102, c103, c104, c105, c106, c107, c108, c109, c110, c111, c112, c113, c114, c115, c116, c117, c118, c119, c120, c121, c122, c123, c124, c125, c126, c127, c128, c129, c130, c131, c132, c133, c134, c135, c136, c137, c138, c139, c140, c141, c142, c143, c144, c145, c146, c147, c148, c149, c150, c151, c152, c153, c154, c155, c156, c157, c158, c159, c160, c161, c162, c163, c164, c165, c166, c167, c168, c169, c170, c171, c172, c173, c174, c175, c176, c177, c178, c179, c180, c181, c182, c183, c184, c185, c186, c187, c188, c189, c190, c191, c192, c193, c194, c195, c196, c197, c198, c199, c200, c201, c202, c203, c204, c205, c206, c207, c208, c209, c210, c211, c212, c213, c214, c215, c216, c217, c218, c219, c220, c221, c222], []⟩ w := by
  conv => arg 2; whnf
  refine wp_region_head (S := Cells [(⟨gv, 1, none⟩, .int .i64 (b : Int)), (⟨gv, 2, none⟩, .int .i64 (c : Int)), (⟨gv, 3, none⟩, .int .i64 (d : Int)), (⟨gv, 5, none⟩, .int .i64 (f : Int)), (⟨gv, 6, none⟩, .int .i64 (g : Int))]) (n := 24) (by kernel_rfl) (by kernel_rfl) (by kernel_rfl) (by simp) hcs ?_
  simp only [List.take_succ_cons, List.take_zero]
  iterate 7 (refine wpQuiet_pure (by rfl) ?_; go_big_quiet_step (fail); refine wpQuiet_nil ?_; show wpQuiet _ _ _ _ _ _)
  refine wpQuiet_load (by rfl) 3 (.tmp 186) (by rfl) ⟨gv, 1, none⟩ (.int .i64 (b : Int)) (by rfl) (fun w hw => load_int w _ _ _ (hw.get _ _ (by simp))) ?_
  simp only [Act.put, List.setIfInBounds_toArray, List.set_cons_succ, List.set_cons_zero]
  iterate 2 (refine wpQuiet_pure (by rfl) ?_; go_big_quiet_step (fail); refine wpQuiet_nil ?_; show wpQuiet _ _ _ _ _ _)
  refine wpQuiet_load (by rfl) 3 (.tmp 189) (by rfl) ⟨gv, 2, none⟩ (.int .i64 (c : Int)) (by rfl) (fun w hw => load_int w _ _ _ (hw.get _ _ (by simp))) ?_
  simp only [Act.put, List.setIfInBounds_toArray, List.set_cons_succ, List.set_cons_zero]
  iterate 2 (refine wpQuiet_pure (by rfl) ?_; go_big_quiet_step (fail); refine wpQuiet_nil ?_; show wpQuiet _ _ _ _ _ _)
  refine wpQuiet_load (by rfl) 3 (.tmp 192) (by rfl) ⟨gv, 3, none⟩ (.int .i64 (d : Int)) (by rfl) (fun w hw => load_int w _ _ _ (hw.get _ _ (by simp))) ?_
  simp only [Act.put, List.setIfInBounds_toArray, List.set_cons_succ, List.set_cons_zero]
  iterate 6 (refine wpQuiet_pure (by rfl) ?_; go_big_quiet_step (fail); refine wpQuiet_nil ?_; show wpQuiet _ _ _ _ _ _)
  refine wpQuiet_load (by rfl) 3 (.tmp 199) (by rfl) ⟨gv, 5, none⟩ (.int .i64 (f : Int)) (by rfl) (fun w hw => load_int w _ _ _ (hw.get _ _ (by simp))) ?_
  simp only [Act.put, List.setIfInBounds_toArray, List.set_cons_succ, List.set_cons_zero]
  iterate 2 (refine wpQuiet_pure (by rfl) ?_; go_big_quiet_step (fail); refine wpQuiet_nil ?_; show wpQuiet _ _ _ _ _ _)
  refine wpQuiet_load (by rfl) 3 (.tmp 202) (by rfl) ⟨gv, 6, none⟩ (.int .i64 (g : Int)) (by rfl) (fun w hw => load_int w _ _ _ (hw.get _ _ (by simp))) ?_
  simp only [Act.put, List.setIfInBounds_toArray, List.set_cons_succ, List.set_cons_zero]
  refine wpQuiet_nil ?_
  have e1 : ((t : Int) + u) % 4294967296 = (((t + u) % 4294967296 : Nat) : Int) := by omega
  have e2 : ((d : Int) + t) % 4294967296 = (((d + t) % 4294967296 : Nat) : Int) := by omega
  rw [e1, e2]
  refine wpAnyH_val (i := 24) (v := .slice (some ⟨w.heap.size, 0, none⟩) 8 8) (w' := (w.alloc (.cells (ints [(t + u) % 4294967296, a, b, c, (d + t) % 4294967296, e, f, g]).toArray 3)).drewN 1) (by kernel_rfl) (by rfl) (by rfl) (by kernel_rfl) (hcs.alloc _) ?_
  refine wpAnyH_val (i := 25) (v := .slice (some ⟨w.heap.size, 0, none⟩) 8 8) (w' := (w.alloc (.cells (ints [(t + u) % 4294967296, a, b, c, (d + t) % 4294967296, e, f, g]).toArray 3)).drewN 1) (by kernel_rfl) (by rfl) (by rfl) (by kernel_rfl) (hcs.alloc _) ?_
  refine wpAnyH_done (by kernel_rfl) ?_ _
  refine NoPanic.normal ?_
  simp only [Act.put]
  exact hQ _ _ _ _ _ _ _ _ _ _ _ _ _ _ _ _ _ _ _ _ _ _ _ _ _
end Go.Proofs.YtlhohmlpcgbliabGreatDoor
namespace Go.Proofs.YtlhohmlpcgbliabGreatDoor
set_option maxRecDepth 100000
open Go.RowKit
attribute [local go_sem ↓] Go.wp_at_zero Go.wp_at_succ


/-- A block's first cells hold these numbers. -/
def IntsAt (w : World) (g : Nat) (l : List Nat) : Prop := ∀ j, j < l.length → w.cell? ⟨g, j, none⟩ = some (.int .i64 ((l.getD j 0 : Nat) : Int))
theorem IntsAt.below {w w' : World} {g B : Nat} {l : List Nat} (h : IntsAt w g l) (hb : Below B w w') (hg : g < B) : IntsAt w' g l := fun j hj => by
  rw [hb.cell (p := ⟨g, j, none⟩) hg]; exact h j hj
theorem IntsAt.new (w : World) (l : List Nat) (e : TypeId) : IntsAt (w.alloc (.cells (ints l).toArray e)) w.heap.size l := fun j hj => by
  rw [(Blk.new w e (ints l)).cell, ints_get _ _ hj]

theorem usum (x y : Nat) (hx : x < 4294967296) (hy : y < 4294967296) : wrap64 ((x : Int) + (y : Int)) = ((x + y : Nat) : Int) := by
  rw [IntWalk.wrap64_in _ ⟨by omega, by omega⟩]; omega
theorem usum_lt (x y : Nat) (hx : x < 4294967296) (hy : y < 4294967296) : x + y < 4294967296000 := by omega
theorem tsum_lt (h b c k w : Nat) (h1 : h < 4294967296) (h2 : b < 4294967296) (h3 : c < 4294967296) (h4 : k < 4294967296) (h5 : w < 4294967296) : h + b + c + k + w < 4294967296000 := by omega
theorem step_list (r : Sha.St) (key wk : Nat) : (Sha.step r key wk).list = [(r.h + Sha.bs1 r.e + Sha.ch r.e r.f r.g + key + wk + (Sha.bs0 r.a + Sha.maj r.a r.b r.c)) % 4294967296, r.a, r.b, r.c, (r.d + (r.h + Sha.bs1 r.e + Sha.ch r.e r.f r.g + key + wk)) % 4294967296, r.e, r.f, r.g] := rfl

set_option maxRecDepth 100000 in
set_option maxHeartbeats 2000000 in
theorem blkB2_wp {c0 c1 c2 c3 c4 c6 c7 c8 c9 c10 c13 c14 c15 c16 c17 c18 c19 c20 c21 c22 c23 c24 c25 c26 c27 c28 c29 c30 c31 c32 c33 c34 c35 c36 c37 c38 c39 c40 c41 c42 c43 c44 c45 c46 c47 c48 c49 c50 c51 c52 c53 c54 c55 c56 c57 c58 c59 c60 c61 c62 c63 c64 c65 c66 c67 c68 c69 c70 c71 c72 c73 c74 c75 c76 c77 c78 c79 c80 c81 c82 c83 c84 c85 c86 c87 c88 c89 c90 c91 c92 c93 c94 c95 c96 c97 c98 c99 c100 c101 c102 c103 c104 c105 c106 c107 c108 c109 c110 c111 c112 c113 c114 c115 c116 c117 c118 c119 c120 c121 c122 c123 c124 c125 c126 c127 c128 c129 c130 c131 c132 c133 c134 c135 c136 c137 c138 c139 c140 c141 c142 c143 c144 c145 c146 c147 c148 c149 c150 c151 c152 c153 c154 c155 c156 c157 c158 c159 c160 c161 c162 c163 c164 c165 c166 c167 c168 c169 c170 c171 c172 c173 c174 c175 c176 c177 c178 c179 c180 c181 c182 c183 c184 c185 c186 c187 c188 c189 c190 c191 c192 c193 c194 c195 c196 c197 c198 c199 c200 c201 c202 c203 c204 c205 c206 c207 c208 c209 c210 c211 c212 c213 c214 c215 c216 c217 c218 c219 c220 c221 c222 : Value} (st : Sha.St) (ws : List Nat) (gw cw gv cv : Nat) (w : World) (Q : Exit → Act → World → Prop) (hok : st.ok) (hwl : ws.length = 64) (hws : ∀ i, ws.getD i 0 < 4294967296) (hW : IntsAt w gw ws) (hgw : gw < w.heap.size) (hV : IntsAt w gv st.list) (hgv : gv < w.heap.size)
  (hQ : ∀ (u12 u13 u14 u15 u16 u17 u18 u107 u108 u109 u110 u111 u112 u113 u114 u115 u116 u117 u118 u119 u120 u121 u122 u123 u124 u125 u126 u127 u128 u129 u130 u131 u132 u133 u134 u135 u136 u137 u138 u139 u140 u141 u142 u143 u144 u145 u146 u147 u148 u149 u150 u151 u152 u153 u154 u155 u156 u157 u158 u159 u160 u161 u162 u163 u164 u165 u166 u167 u168 u169 u170 u171 u172 u173 u174 u175 u176 u177 u178 u179 u180 u181 u182 u183 u184 u185 u186 u187 u188 u189 u190 u191 u192 u193 u194 u195 u196 u197 u198 u199 u200 u201 u202 u203 u204 : Value) (g' c' : Nat) (w' : World), IntsAt w' g' (Sha.rounds st ws 64).list → g' < w'.heap.size → Below w.heap.size w w' → Q (.exit 2) ⟨#[c0, c1, c2, c3, c4, .slice (some ⟨gw, 0, none⟩) 64 cw, c6, c7, c8, c9, c10, .slice (some ⟨g', 0, none⟩) 8 c', u12, u13, u14, u15, u16, u17, u18, c19, c20, c21, c22, c23, c24, c25, c26, c27, c28, c29, c30, c31, c32, c33, c34, c35, c36, c37, c38, c39, c40, c41, c42, c43, c44, c45, c46, c47, c48, c49, c50, c51, c52, c53, c54, c55, c56, c57, c58, c59, c60, c61, c62, c63, c64, c65, c66, c67, c68, c69, c70, c71, c72, c73, c74, c75, c76, c77, c78, c79, c80, c81, c82, c83, c84, c85, c86, c87, c88, c89, c90, c91, c92, c93, c94, c95, c96, c97, c98, c99, c100, c101, c102, c103, c104, c105, c106, u107, u108, u109, u110, u111, u112, u113, u114, u115, u116, u117, u118, u119, u120, u121, u122, u123, u124, u125, u126, u127, u128, u129, u130, u131, u132, u133, u134, u135, u136, u137, u138, u139, u140, u141, u142, u143, u144, u145, u146, u147, u148, u149, u150, u151, u152, u153, u154, u155, u156, u157, u158, u159, u160, u161, u162, u163, u164, u165, u166, u167, u168, u169, u170, u171, u172, u173, u174, u175, u176, u177, u178, u179, u180, u181, u182, u183, u184, u185, u186, u187, u188, u189, u190, u191, u192, u193, u194, u195, u196, u197, u198, u199, u200, u201, u202, u203, u204, c205, c206, c207, c208, c209, c210, c211, c212, c213, c214, c215, c216, c217, c218, c219, c220, c221, c222], []⟩ w') :
  Code.wp Tryz.prog (blc Tryz.f53 2) Q ⟨#[c0, c1, c2, c3, c4, .slice (some ⟨gw, 0, none⟩) 64 cw, c6, c7, c8, c9, c10, .slice (some ⟨gv, 0, none⟩) 8 cv, .int .i64 0, c13, c14, c15, c16, c17, c18, c19, c20, c21, c22, c23, c24, c25, c26, c27, c28, c29, c30, c31, c32, c33, c34, c35, c36, c37, c38, c39, c40, c41, c42, c43, c44, c45, c46, c47, c48, c49, c50, c51, c52, c53, c54, c55, c56, c57, c58, c59, c60, c61, c62, c63, c64, c65, c66, c67, c68, c69, c70, c71, c72, c73, c74, c75, c76, c77, c78, c79, c80, c81, c82, c83, c84, c85, c86, c87, c88, c89, c90, c91, c92, c93, c94, c95, c96, c97, c98, c99, c100, c101, c102, c103, c104, c105, c106, c107, c108, c109, c110, c111, c112, c113, c114, c115, c116, c117, c118, c119, c120, c121, c122, c123, c124, c125, c126, c127, c128, c129, c130, c131, c132, c133, c134, c135, c136, c137, c138, c139, c140, c141, c142, c143, c144, c145, c146, c147, c148, c149, c150, c151, c152, c153, c154, c155, c156, c157, c158, c159, c160, c161, c162, c163, c164, c165, c166, c167, c168, c169, c170, c171, c172, c173, c174, c175, c176, c177, c178, c179, c180, c181, c182, c183, c184, c185, c186, c187, c188, c189, c190, c191, c192, c193, c194, c195, c196, c197, c198, c199, c200, c201, c202, c203, c204, c205, c206, c207, c208, c209, c210, c211, c212, c213, c214, c215, c216, c217, c218, c219, c220, c221, c222], []⟩ w := by
  conv => arg 2; whnf
  try go_wp2
  go_loopw [11, 12] (fun v i wr => ∃ k g c : Nat, k ≤ 64 ∧ i = .int .i64 k ∧ v = .slice (some ⟨g, 0, none⟩) 8 c ∧ IntsAt wr g (Sha.rounds st ws k).list ∧ g < wr.heap.size ∧ Below w.heap.size w wr) (fun _ i _ => 64 - (intOf i).toNat)
  case atStart => exact ⟨0, gv, cv, by omega, rfl, rfl, hV, hgv, Below.refl _ _⟩
  case round =>
    obtain ⟨k, g, c, hk, rfl, rfl, hI, hg, hb⟩ := hrel
    by_cases h64 : k < 64
    · have kw := hW.below hb hgw k (by omega)
      have lw := hws k
      obtain ⟨o1, o2, o3, o4, o5, o6, o7, o8⟩ := Sha.rounds_ok hok ws k
      have k0 := hI 0 (by show 0 < 8; omega)
      have k1 := hI 1 (by show 1 < 8; omega)
      have k2 := hI 2 (by show 2 < 8; omega)
      have k3 := hI 3 (by show 3 < 8; omega)
      have k4 := hI 4 (by show 4 < 8; omega)
      have k5 := hI 5 (by show 5 < 8; omega)
      have k6 := hI 6 (by show 6 < 8; omega)
      have k7 := hI 7 (by show 7 < 8; omega)
      have HN : Hid ((Sha.rounds st ws (k + 1)).list = (Sha.step (Sha.rounds st ws k) (Sha.keys.getD k 0) (ws.getD k 0)).list) := rfl
      generalize ws.getD k 0 = wk at *
      generalize Sha.rounds st ws k = r at *
      change wr.cell? _ = some (.int .i64 (r.a : Int)) at k0
      change wr.cell? _ = some (.int .i64 (r.b : Int)) at k1
      change wr.cell? _ = some (.int .i64 (r.c : Int)) at k2
      change wr.cell? _ = some (.int .i64 (r.d : Int)) at k3
      change wr.cell? _ = some (.int .i64 (r.e : Int)) at k4
      change wr.cell? _ = some (.int .i64 (r.f : Int)) at k5
      change wr.cell? _ = some (.int .i64 (r.g : Int)) at k6
      change wr.cell? _ = some (.int .i64 (r.h : Int)) at k7
      have HB : Hid (Below w.heap.size w wr) := hb
      clear hI hQ hW hb hV hws
      go_wp2_with fail
      refine blkR18_wp g c r.e r.f r.g _ _ o5 o6 o7 k5 k6 ?_
      intro u117 u118 u119 u120 u121 u122 u123 u124 u125 u126 u127 u128 n1
      go_wp2_with fail
      refine blkR19_wp g c r.a r.b r.c _ _ o1 o2 o3 k1 k2 ?_
      intro u129 u130 u131 u132 u133 u134 u135 u136 u137 u138 u139 u140 u141 u142 u143 u144 u145 u146 u147 n2
      go_wp2_with fail
      refine blkR20_wp g c gw cw k r.e (Sha.ch r.e r.f r.g) r.h wk _ _ h64 o5 (Sha.ch_lt _ _ _ o6 o7) o8 lw k7 kw ?_
      intro u148 u149 u150 u151 u152 u153 u154 u155 u156 u157 u158 u159 u160 u161 u162 u163 u164 u165 u166 u167 u168 u169 n3
      go_wp2_with fail
      refine (turn_any r.a 2 _ o1 (by simp [isTurn])).mono ?_
      rintro e w1 ⟨rfl, m1, rfl⟩
      go_wp2_with fail
      refine (turn_any r.a 13 _ o1 (by simp [isTurn])).mono ?_
      rintro e w1 ⟨rfl, m2, rfl⟩
      go_wp2_with fail
      refine (turn_any r.a 22 _ o1 (by simp [isTurn])).mono ?_
      rintro e w1 ⟨rfl, m3, rfl⟩
      go_wp2_with fail
      rw [bs0_ref r.a o1]
      rw [usum _ _ (Sha.bs0_lt r.a o1) (Sha.maj_lt r.a r.b r.c o2 o3)]
      refine blkR22_wp g c r.a r.b r.c r.d r.e r.f r.g _ _ _ _ (tsum_lt _ _ _ _ _ o8 (Sha.bs1_lt r.e o5) (Sha.ch_lt r.e r.f r.g o6 o7) (Sha.keys_lt k) lw) (usum_lt _ _ (Sha.bs0_lt r.a o1) (Sha.maj_lt r.a r.b r.c o2 o3)) o4 (Cells.of (by intro p hp; simp at hp; rcases hp with rfl | rfl | rfl | rfl | rfl <;> assumption)) ?_
      intro u180 u181 u182 u183 u184 u185 u186 u187 u188 u189 u190 u191 u192 u193 u194 u195 u196 u197 u198 u199 u200 u201 u202 u203 u204
      have hbn := Below.drewN' ((Below.drewN' HB.out (n1 + n2 + n3 + m1 + m2 + m3)).alloc HB.out.size (.cells (ints (Sha.step r (Sha.keys.getD k 0) wk).list).toArray 3)) 1
      have hin := IntsAt.new (wr.drewN (n1 + n2 + n3 + m1 + m2 + m3)) (Sha.step r (Sha.keys.getD k 0) wk).list 3
      rw [step_list] at hbn hin
      have hsz : (wr.drewN (n1 + n2 + n3 + m1 + m2 + m3)).heap.size < ((wr.drewN (n1 + n2 + n3 + m1 + m2 + m3)).alloc (.cells (ints [(r.h + Sha.bs1 r.e + Sha.ch r.e r.f r.g + Sha.keys.getD k 0 + wk + (Sha.bs0 r.a + Sha.maj r.a r.b r.c)) % 4294967296, r.a, r.b, r.c, (r.d + (r.h + Sha.bs1 r.e + Sha.ch r.e r.f r.g + Sha.keys.getD k 0 + wk)) % 4294967296, r.e, r.f, r.g]).toArray 3)).heap.size := by simp
      rw [← step_list] at hbn hin hsz ⊢
      have HBN : Hid _ := hbn
      have HIN : Hid _ := hin
      have HSZ : Hid _ := hsz
      clear hbn hin hsz
      simp only [Exit.inBlock]
      go_wp2_with fail
      have hk' : Sha.keys[k]?.getD 0 = Sha.keys.getD k 0 := rfl
      rw [hk']
      refine ⟨⟨k + 1, (wr.drewN (n1 + n2 + n3 + m1 + m2 + m3)).heap.size, 8, by omega, by go_num, rfl, ?_, HSZ.out, HBN.out⟩, by simp [intOf]; omega⟩
      rw [HN.out]
      exact HIN.out
    · have hk4 : k = 64 := by omega
      subst hk4
      go_wp2
      exact hQ _ _ _ _ _ _ _ _ _ _ _ _ _ _ _ _ _ _ _ _ _ _ _ _ _ _ _ _ _ _ _ _ _ _ _ _ _ _ _ _ _ _ _ _ _ _ _ _ _ _ _ _ _ _ _ _ _ _ _ _ _ _ _ _ _ _ _ _ _ _ _ _ _ _ _ _ _ _ _ _ _ _ _ _ _ _ _ _ _ _ _ _ _ _ _ _ _ _ _ _ _ _ _ _ _ g c _ hI hg hb
end Go.Proofs.YtlhohmlpcgbliabGreatDoor
namespace Go.Proofs.YtlhohmlpcgbliabGreatDoor
set_option maxRecDepth 100000
open Go.RowKit
attribute [local go_sem ↓] Go.wp_at_zero Go.wp_at_succ


/-- A cell outside the row that was appended to. -/
theorem grown_cell {w w' : World} {base : Nat} {e : TypeId} {v : Value} {xs : List Value} {a : Addr} {x : Value} (hown : Row w base e v xs) (hg : w.grownBy w' v.ownBlock) (hc : w.cell? a = some x) (ha : a.block < base) : w'.cell? a = some x :=
  hg.cell hc (fun h => by have := (hown.lt a.block h.symm).1; omega)

set_option maxRecDepth 100000 in
set_option maxHeartbeats 1000000 in
theorem blkR27_wp {c1 c2 c3 c4 c5 c6 c7 c8 c9 c10 c12 c13 c14 c15 c16 c17 c18 c21 c22 c23 c24 c25 c26 c27 c28 c29 c30 c31 c32 c33 c34 c35 c36 c37 c38 c39 c40 c41 c42 c43 c44 c45 c46 c47 c48 c49 c50 c51 c52 c53 c54 c55 c56 c57 c58 c59 c60 c61 c62 c63 c64 c65 c66 c67 c68 c69 c70 c71 c72 c73 c74 c75 c76 c77 c78 c79 c80 c81 c82 c83 c84 c85 c86 c87 c88 c89 c90 c91 c92 c93 c94 c95 c96 c97 c98 c99 c100 c101 c102 c103 c104 c105 c106 c107 c108 c109 c110 c111 c112 c113 c114 c115 c116 c117 c118 c119 c120 c121 c122 c123 c124 c125 c126 c127 c128 c129 c130 c131 c132 c133 c134 c135 c136 c137 c138 c139 c140 c141 c142 c143 c144 c145 c146 c147 c148 c149 c150 c151 c152 c153 c154 c155 c156 c157 c158 c159 c160 c161 c162 c163 c164 c165 c166 c167 c168 c169 c170 c171 c172 c173 c174 c175 c176 c177 c178 c179 c180 c181 c182 c183 c184 c185 c186 c187 c188 c189 c190 c191 c192 c193 c194 c195 c196 c197 c198 c199 c200 c201 c202 c203 c204 c205 c206 c207 c208 c209 c210 c211 c212 c213 c214 c215 c216 c217 c218 c219 c220 c221 c222 : Value} (gh ch g c k x y base : Nat) (v : Value) (xs : List Value) (w w0 : World) (Q : Exit → Act → World → Prop) (hk : k < 8) (lx : x < 4294967296) (ly : y < 4294967296) (hxs : xs.length ≤ 8)
  (hrow : Row w base 3 v xs) (ex : w.cell? ⟨gh, k, none⟩ = some (.int .i64 (x : Int))) (ey : w.cell? ⟨g, k, none⟩ = some (.int .i64 (y : Int))) (hbase : base ≤ w.heap.size) (hbw : Below base w0 w) (hgh : gh < base) (hg : g < base)
  (hQ : ∀ (u209 u210 u211 u212 u213 u214 u215 u216 u217 u218 u219 u220 u221 : Value) (v' : Value) (w' : World), Row w' base 3 v' (xs ++ [.int .i64 (((x + y) % 4294967296 : Nat) : Int)]) → Below base w0 w' → Q .normal ⟨#[.slice (some ⟨gh, 0, none⟩) 8 ch, c1, c2, c3, c4, c5, c6, c7, c8, c9, c10, .slice (some ⟨g, 0, none⟩) 8 c, c12, c13, c14, c15, c16, c17, c18, v', .int .i64 (k : Int), c21, c22, c23, c24, c25, c26, c27, c28, c29, c30, c31, c32, c33, c34, c35, c36, c37, c38, c39, c40, c41, c42, c43, c44, c45, c46, c47, c48, c49, c50, c51, c52, c53, c54, c55, c56, c57, c58, c59, c60, c61, c62, c63, c64, c65, c66, c67, c68, c69, c70, c71, c72, c73, c74, c75, c76, c77, c78, c79, c80, c81, c82, c83, c84, c85, c86, c87, c88, c89, c90, c91, c92, c93, c94, c95, c96, c97, c98, c99, c100, c101, c102, c103, c104, c105, c106, c107, c108, c109, c110, c111, c112, c113, c114, c115, c116, c117, c118, c119, c120, c121, c122, c123, c124, c125, c126, c127, c128, c129, c130, c131, c132, c133, c134, c135, c136, c137, c138, c139, c140, c141, c142, c143, c144, c145, c146, c147, c148, c149, c150, c151, c152, c153, c154, c155, c156, c157, c158, c159, c160, c161, c162, c163, c164, c165, c166, c167, c168, c169, c170, c171, c172, c173, c174, c175, c176, c177, c178, c179, c180, c181, c182, c183, c184, c185, c186, c187, c188, c189, c190, c191, c192, c193, c194, c195, c196, c197, c198, c199, c200, c201, c202, c203, c204, c205, c206, c207, c208, u209, u210, u211, u212, u213, u214, u215, u216, u217, u218, u219, u220, u221, c222], []⟩ w') :
  Code.wp Tryz.prog (rgn Tryz.f53 27) Q ⟨#[.slice (some ⟨gh, 0, none⟩) 8 ch, c1, c2, c3, c4, c5, c6, c7, c8, c9, c10, .slice (some ⟨g, 0, none⟩) 8 c, c12, c13, c14, c15, c16, c17, c18, v, .int .i64 (k : Int), c21, c22, c23, c24, c25, c26, c27, c28, c29, c30, c31, c32, c33, c34, c35, c36, c37, c38, c39, c40, c41, c42, c43, c44, c45, c46, c47, c48, c49, c50, c51, c52, c53, c54, c55, c56, c57, c58, c59, c60, c61, c62, c63, c64, c65, c66, c67, c68, c69, c70, c71, c72, c73, c74, c75, c76, c77, c78, c79, c80, c81, c82, c83, c84, c85, c86, c87, c88, c89, c90, c91, c92, c93, c94, c95, c96, c97, c98, c99, c100, c101, c102, c103, c104, c105, c106, c107, c108, c109, c110, c111, c112, c113, c114, c115, c116, c117, c118, c119, c120, c121, c122, c123, c124, c125, c126, c127, c128, c129, c130, c131, c132, c133, c134, c135, c136, c137, c138, c139, c140, c141, c142, c143, c144, c145, c146, c147, c148, c149, c150, c151, c152, c153, c154, c155, c156, c157, c158, c159, c160, c161, c162, c163, c164, c165, c166, c167, c168, c169, c170, c171, c172, c173, c174, c175, c176, c177, c178, c179, c180, c181, c182, c183, c184, c185, c186, c187, c188, c189, c190, c191, c192, c193, c194, c195, c196, c197, c198, c199, c200, c201, c202, c203, c204, c205, c206, c207, c208, c209, c210, c211, c212, c213, c214, c215, c216, c217, c218, c219, c220, c221, c222], []⟩ w := by
  conv => arg 2; whnf
  have i0 : (0 : Int) ≤ (k : Int) := by omega
  have i1 : (k : Int) < 8 := by omega
  have HV : Hid (((x : Int) + y) % 4294967296 = (((x + y) % 4294967296 : Nat) : Int)) := by show _ = _; omega
  have hS := Cells.two ex ey
  refine wp_region_head (S := Cells [(⟨gh, k, none⟩, .int .i64 (x : Int)), (⟨g, k, none⟩, .int .i64 (y : Int))]) (n := 11) (by kernel_rfl) (by kernel_rfl) (by kernel_rfl) (by simp) hS ?_
  simp only [List.take_succ_cons, List.take_zero]
  iterate 4 (refine wpQuiet_pure (by rfl) ?_; go_big_quiet_step (fail); refine wpQuiet_nil ?_; show wpQuiet _ _ _ _ _ _)
  refine wpQuiet_load (by rfl) 3 (.tmp 212) (by rfl) ⟨gh, k, none⟩ (.int .i64 (x : Int)) (by rfl) (fun w hw => load_int w _ _ _ (hw.get _ _ (by simp))) ?_
  simp only [Act.put, List.setIfInBounds_toArray, List.set_cons_succ, List.set_cons_zero]
  iterate 3 (refine wpQuiet_pure (by rfl) ?_; go_big_quiet_step (fail); refine wpQuiet_nil ?_; show wpQuiet _ _ _ _ _ _)
  refine wpQuiet_load (by rfl) 3 (.tmp 216) (by rfl) ⟨g, k, none⟩ (.int .i64 (y : Int)) (by rfl) (fun w hw => load_int w _ _ _ (hw.get _ _ (by simp))) ?_
  simp only [Act.put, List.setIfInBounds_toArray, List.set_cons_succ, List.set_cons_zero]
  iterate 2 (refine wpQuiet_pure (by rfl) ?_; go_big_quiet_step (fail); refine wpQuiet_nil ?_; show wpQuiet _ _ _ _ _ _)
  refine wpQuiet_nil ?_
  rw [HV.out]
  refine wpAnyH_val (i := 11) (v := .slice (some ⟨w.heap.size, 0, none⟩) 1 1) (w' := (w.alloc (.cells #[.int .i64 (((x + y) % 4294967296 : Nat) : Int)] 3)).drewN 1) (by kernel_rfl) (by rfl) (by rfl) (by kernel_rfl) (hS.alloc _) ?_
  refine wpAnyH_app elem_int rfl Tryz.underlying23 (i := 12) (by kernel_rfl) (by rfl) (by rfl) (.tmp 209) (.tmp 220) (by rfl) base v xs (by rfl) ((hrow.alloc _).drewN 1) w.heap.size 1 1 [.int .i64 (((x + y) % 4294967296 : Nat) : Int)] (by rfl) rfl (by omega) ((Blk.new w 3 _).drewN 1) (by simp [Value.oneCell']) (by omega) (by omega) (by simp; omega) (w0 := w0) (B := base) (Below.drewN' (hbw.alloc hbase _) 1) (Nat.le_refl _) ?_
  intro g' cap' w' hrow' hgrow _ hb'
  have hS1 := hS.alloc (.cells #[.int .i64 (((x + y) % 4294967296 : Nat) : Int)] 3)
  have sx : w'.cell? ⟨gh, k, none⟩ = some (.int .i64 (x : Int)) := grown_cell ((hrow.alloc _).drewN 1) hgrow (hS1.get _ _ (by simp)) hgh
  have sy : w'.cell? ⟨g, k, none⟩ = some (.int .i64 (y : Int)) := grown_cell ((hrow.alloc _).drewN 1) hgrow (hS1.get _ _ (by simp)) hg
  refine ⟨Cells.two sx sy, ?_⟩
  refine wpAnyH_val (i := 13) (v := .slice (some ⟨g', 0, none⟩) (xs.length + 1) cap') (w' := w') (by kernel_rfl) (by rfl) (by rfl) (by kernel_rfl) (Cells.two sx sy) ?_
  refine wpAnyH_done (by kernel_rfl) ?_ _
  refine NoPanic.normal ?_
  simp only [Act.put]
  exact hQ _ _ _ _ _ _ _ _ _ _ _ _ _ _ _ hrow' hb'

theorem addK_take (s t : Sha.St) (k : Nat) (hk : k < 8) : (Sha.add s t).list.take (k + 1) = (Sha.add s t).list.take k ++ [(s.list.getD k 0 + t.list.getD k 0) % 4294967296] := by
  match k, hk with
  | 0, _ => rfl
  | 1, _ => rfl
  | 2, _ => rfl
  | 3, _ => rfl
  | 4, _ => rfl
  | 5, _ => rfl
  | 6, _ => rfl
  | 7, _ => rfl

set_option maxRecDepth 100000 in
set_option maxHeartbeats 2000000 in
theorem blkB4_wp {c1 c2 c3 c4 c5 c6 c7 c8 c9 c10 c12 c13 c14 c15 c16 c17 c18 c21 c22 c23 c24 c25 c26 c27 c28 c29 c30 c31 c32 c33 c34 c35 c36 c37 c38 c39 c40 c41 c42 c43 c44 c45 c46 c47 c48 c49 c50 c51 c52 c53 c54 c55 c56 c57 c58 c59 c60 c61 c62 c63 c64 c65 c66 c67 c68 c69 c70 c71 c72 c73 c74 c75 c76 c77 c78 c79 c80 c81 c82 c83 c84 c85 c86 c87 c88 c89 c90 c91 c92 c93 c94 c95 c96 c97 c98 c99 c100 c101 c102 c103 c104 c105 c106 c107 c108 c109 c110 c111 c112 c113 c114 c115 c116 c117 c118 c119 c120 c121 c122 c123 c124 c125 c126 c127 c128 c129 c130 c131 c132 c133 c134 c135 c136 c137 c138 c139 c140 c141 c142 c143 c144 c145 c146 c147 c148 c149 c150 c151 c152 c153 c154 c155 c156 c157 c158 c159 c160 c161 c162 c163 c164 c165 c166 c167 c168 c169 c170 c171 c172 c173 c174 c175 c176 c177 c178 c179 c180 c181 c182 c183 c184 c185 c186 c187 c188 c189 c190 c191 c192 c193 c194 c195 c196 c197 c198 c199 c200 c201 c202 c203 c204 c205 c206 c207 c208 c209 c210 c211 c212 c213 c214 c215 c216 c217 c218 c219 c220 c221 c222 : Value} (s t : Sha.St) (gh ch g c : Nat) (w : World) (Q : Exit → Act → World → Prop) (hs : s.ok) (ht : t.ok) (hH : IntsAt w gh s.list) (hgh : gh < w.heap.size) (hV : IntsAt w g t.list) (hg : g < w.heap.size)
  (hQ : ∀ (u20 u205 u206 u207 u208 u209 u210 u211 u212 u213 u214 u215 u216 u217 u218 u219 u220 u221 : Value) (v' : Value) (w' : World), Row w' w.heap.size 3 v' (ints (Sha.add s t).list) → Below w.heap.size w w' → Q (.exit 4) ⟨#[.slice (some ⟨gh, 0, none⟩) 8 ch, c1, c2, c3, c4, c5, c6, c7, c8, c9, c10, .slice (some ⟨g, 0, none⟩) 8 c, c12, c13, c14, c15, c16, c17, c18, v', u20, c21, c22, c23, c24, c25, c26, c27, c28, c29, c30, c31, c32, c33, c34, c35, c36, c37, c38, c39, c40, c41, c42, c43, c44, c45, c46, c47, c48, c49, c50, c51, c52, c53, c54, c55, c56, c57, c58, c59, c60, c61, c62, c63, c64, c65, c66, c67, c68, c69, c70, c71, c72, c73, c74, c75, c76, c77, c78, c79, c80, c81, c82, c83, c84, c85, c86, c87, c88, c89, c90, c91, c92, c93, c94, c95, c96, c97, c98, c99, c100, c101, c102, c103, c104, c105, c106, c107, c108, c109, c110, c111, c112, c113, c114, c115, c116, c117, c118, c119, c120, c121, c122, c123, c124, c125, c126, c127, c128, c129, c130, c131, c132, c133, c134, c135, c136, c137, c138, c139, c140, c141, c142, c143, c144, c145, c146, c147, c148, c149, c150, c151, c152, c153, c154, c155, c156, c157, c158, c159, c160, c161, c162, c163, c164, c165, c166, c167, c168, c169, c170, c171, c172, c173, c174, c175, c176, c177, c178, c179, c180, c181, c182, c183, c184, c185, c186, c187, c188, c189, c190, c191, c192, c193, c194, c195, c196, c197, c198, c199, c200, c201, c202, c203, c204, u205, u206, u207, u208, u209, u210, u211, u212, u213, u214, u215, u216, u217, u218, u219, u220, u221, c222], []⟩ w') :
  Code.wp Tryz.prog (blc Tryz.f53 4) Q ⟨#[.slice (some ⟨gh, 0, none⟩) 8 ch, c1, c2, c3, c4, c5, c6, c7, c8, c9, c10, .slice (some ⟨g, 0, none⟩) 8 c, c12, c13, c14, c15, c16, c17, c18, .slice none 0 0, .int .i64 0, c21, c22, c23, c24, c25, c26, c27, c28, c29, c30, c31, c32, c33, c34, c35, c36, c37, c38, c39, c40, c41, c42, c43, c44, c45, c46, c47, c48, c49, c50, c51, c52, c53, c54, c55, c56, c57, c58, c59, c60, c61, c62, c63, c64, c65, c66, c67, c68, c69, c70, c71, c72, c73, c74, c75, c76, c77, c78, c79, c80, c81, c82, c83, c84, c85, c86, c87, c88, c89, c90, c91, c92, c93, c94, c95, c96, c97, c98, c99, c100, c101, c102, c103, c104, c105, c106, c107, c108, c109, c110, c111, c112, c113, c114, c115, c116, c117, c118, c119, c120, c121, c122, c123, c124, c125, c126, c127, c128, c129, c130, c131, c132, c133, c134, c135, c136, c137, c138, c139, c140, c141, c142, c143, c144, c145, c146, c147, c148, c149, c150, c151, c152, c153, c154, c155, c156, c157, c158, c159, c160, c161, c162, c163, c164, c165, c166, c167, c168, c169, c170, c171, c172, c173, c174, c175, c176, c177, c178, c179, c180, c181, c182, c183, c184, c185, c186, c187, c188, c189, c190, c191, c192, c193, c194, c195, c196, c197, c198, c199, c200, c201, c202, c203, c204, c205, c206, c207, c208, c209, c210, c211, c212, c213, c214, c215, c216, c217, c218, c219, c220, c221, c222], []⟩ w := by
  conv => arg 2; whnf
  try go_wp2
  go_loopw [19, 20] (fun v i wr => ∃ k : Nat, k ≤ 8 ∧ i = .int .i64 k ∧ Row wr w.heap.size 3 v (ints ((Sha.add s t).list.take k)) ∧ Below w.heap.size w wr) (fun _ i _ => 8 - (intOf i).toNat)
  case atStart => exact ⟨0, by omega, rfl, World.ownsRow_nil _ _ _ _, Below.refl _ _⟩
  case round =>
    obtain ⟨k, hk, rfl, hrow, hb⟩ := hrel
    by_cases h8 : k < 8
    · have ex := hH.below hb hgh k h8
      have ey := hV.below hb hg k h8
      have lx := St.ok_get hs k
      have ly := St.ok_get ht k
      have HN : Hid (ints ((Sha.add s t).list.take (k + 1)) = ints ((Sha.add s t).list.take k) ++ [.int .i64 (((s.list.getD k 0 + t.list.getD k 0) % 4294967296 : Nat) : Int)]) := by
        show _ = _
        rw [addK_take s t k h8, ints_append]; rfl
      have hxl : (ints ((Sha.add s t).list.take k)).length ≤ 8 := by rw [ints_length, List.length_take]; omega
      generalize s.list.getD k 0 = x at *
      generalize t.list.getD k 0 = y at *
      have HB : Hid (Below w.heap.size w wr) := hb
      have HS : Hid (w.heap.size ≤ wr.heap.size) := hb.size
      clear hQ hH hV hb
      go_wp2_with fail
      refine blkR27_wp gh ch g c k x y w.heap.size _ _ _ w _ h8 lx ly hxl hrow ex ey HS.out HB.out hgh hg ?_
      intro u209 u210 u211 u212 u213 u214 u215 u216 u217 u218 u219 u220 u221 v' w' hrow' hb'
      simp only [Exit.inBlock]
      go_wp2_with fail
      refine ⟨⟨k + 1, by omega, by go_num, ?_, hb'⟩, by simp [intOf]; omega⟩
      rw [HN.out]
      exact hrow'
    · have hk8 : k = 8 := by omega
      subst hk8
      go_wp2
      exact hQ _ _ _ _ _ _ _ _ _ _ _ _ _ _ _ _ _ _ _ _ hrow hb
end Go.Proofs.YtlhohmlpcgbliabGreatDoor
