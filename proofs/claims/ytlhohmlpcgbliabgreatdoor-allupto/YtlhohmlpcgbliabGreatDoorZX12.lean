import Derived.Test.YtlhohmlpcgbliabGreatDoorZX10
import Derived.Laws.BytesArg
namespace Go.Proofs.YtlhohmlpcgbliabGreatDoor
open Go.RowKit
attribute [local go_sem ↓] Go.wp_at_zero Go.wp_at_succ

def outW (x : Nat) : List Nat := [x / 16777216, x / 65536 % 256, x / 256 % 256, x % 256]
def outK (l : List Nat) (k : Nat) : List Nat := (l.take k).flatMap outW
theorem outK_succ (l : List Nat) (k : Nat) (h : k < l.length) : outK l (k + 1) = outK l k ++ outW (l.getD k 0) := by
  unfold outK
  rw [List.take_succ_eq_append_getElem h, List.flatMap_append]
  simp [h]
theorem outK_length (l : List Nat) (k : Nat) (h : k ≤ l.length) : (outK l k).length = 4 * k := by
  induction k with
  | zero => simp [outK]
  | succ k ih => rw [outK_succ l k (by omega), List.length_append, ih (by omega)]; simp [outW]; omega

/-- What the program says of an element's type: one cell, so many bytes. -/
def Elem (e : TypeId) (z : Value) (bytes : Nat) : Prop := ∃ i, Tryz.prog.info? e = some i ∧ i.zero = some z ∧ i.size = 1 ∧ i.bytes = bytes
theorem elem_of {e : TypeId} {z : Value} {bytes : Nat} (h : (Tryz.prog.info? e).map (fun i => (i.zero, i.size, i.bytes)) = some (some z, 1, bytes)) : Elem e z bytes := by
  cases hq : Tryz.prog.info? e with
  | none => simp [hq] at h
  | some i => simp [hq] at h; exact ⟨i, hq, h.1, h.2.1, h.2.2⟩
theorem elem_u8 : Elem 5 (.int .u8 0) 1 := elem_of (by kernel_rfl)
theorem elem_int : Elem 3 (.int .i64 0) 8 := elem_of (by kernel_rfl)
theorem elem_string : Elem 9 (.string ⟨#[]⟩) 16 := elem_of (by kernel_rfl)

/-- A slice of the call's own: v reads xs; its row lies from base on. -/
def Row (w : World) (base : Nat) (e : TypeId) (v : Value) (xs : List Value) : Prop := w.ownsRow base e 1 v xs.length xs

/-- An append onto a slice of the call's own, of what lies in a block of its own. -/
theorem wpList_app {e t : TypeId} {z : Value} {bytes : Nat} (hel : Elem e z bytes) (hz : z.cells.size = 1) (ht : Tryz.prog.underlying t = some (.slice e))
    {w w0 : World} {B : Nat} {ops : Array Oper} {rest : List Oper} {o : Oper} {a : Act} {Q : Exit → Act → World → Prop} (hgd : o.guard = none) (s x : Operand)
    (ho : o.op = .call { callee := .builtin .append, args := #[s, x], argTypes := #[t, t] }) (base : Nat) (v : Value) (xs : List Value) (hs : a.eval s = v) (hown : Row w base e v xs)
    (g m c : Nat) (news : List Value) (hx : a.eval x = .slice (some ⟨g, 0, none⟩) m c) (hm : news.length = m) (hnews : Blk w g e news) (h1 : ∀ u ∈ news, u.oneCell' = true)
    (hlen : xs.length + m ≤ 1000000000000) (hby : bytes ≤ 16) (hbase : base ≤ w.heap.size) (hB : Below B w0 w) (hBb : B ≤ base)
    (h : ∀ v' w', Row w' base e v' (xs ++ news) → w.grownBy w' v.ownBlock → Below B w0 w' → wpList Tryz.prog ops Q rest (a.put o.dst v') w') : wpList Tryz.prog ops Q (o :: rest) a w := by
  obtain ⟨i, hi, hiz, his, hib⟩ := hel
  have hb : (xs.length + m) * bytes ≤ 140737488355328 := Nat.le_trans (Nat.mul_le_mul hlen hby) (by omega)
  refine wpList_append_own w hgd s x t ho base e i z 1 bytes ht hi hiz his hib hz (by omega) v xs.length xs hs hown ⟨g, 0, none⟩ m c news hx (by omega) ?_ h1 (by unfold maxLen; omega) hb hbase ?_
  · intro j u hu
    have hlt : j < news.length := (List.getElem?_eq_some_iff.1 hu).1
    rw [Addr.add_mid, Nat.zero_add, hnews.cell]
    exact hu
  · intro v' w' h2 h3 _
    refine h v' w' ?_ h3 (hB.grown h3 (Nat.le_trans hBb hbase) (fun k hk => Nat.le_trans hBb (hown.lt k hk).1))
    unfold Row
    rw [List.length_append, hm]
    exact h2
theorem Row.alloc {w : World} {base : Nat} {e : TypeId} {v : Value} {xs : List Value} (h : Row w base e v xs) (o : Obj) : Row (w.alloc o) base e v xs := World.ownsRow.alloc h o
theorem Row.lit (w : World) (base : Nat) (e : TypeId) (xs : List Value) (hb : base ≤ w.heap.size) (hm : xs.length ≤ maxLen) : Row (w.alloc (.cells xs.toArray e)) base e (.slice (some ⟨w.heap.size, 0, none⟩) xs.length xs.length) xs := by
  have := World.ownsRow_lit (base := base) (e := e) (size := 1) w xs.toArray xs.length hb hm (by simp)
  simpa [Row] using this

/-- A text of these bytes. -/
def strOf (l : List Nat) : ByteArray := strOfNums (l.map fun (x : Nat) => (x : Int))
theorem bts_strOf {l : List Nat} (h : Sha.bytesOk l) : bts (strOf l) = l := by
  unfold bts strOf
  rw [strOfNums_data, List.map_map, List.map_map]
  apply List.ext_getElem?
  intro i
  rw [List.getElem?_map]
  have := h i
  rw [List.getD_eq_getElem?_getD] at this
  cases hq : l[i]? with
  | none => simp
  | some x =>
    rw [hq] at this
    simp at this
    simp [Nat.mod_eq_of_lt this]
theorem strOf_bts (s : ByteArray) : strOf (bts s) = s := by
  have h := bts_strOf (bts_ok s)
  have hd : (strOf (bts s)).data.toList = s.data.toList := by
    unfold bts at h
    exact List.map_inj_right (fun _ _ e => UInt8.toNat_inj.1 e) |>.1 h
  have : (strOf (bts s)).data = s.data := Array.toList_inj.1 hd
  cases s
  cases hs : strOf (bts _)
  simp_all
theorem bts_inj {a b : ByteArray} (h : bts a = bts b) : a = b := by rw [← strOf_bts a, ← strOf_bts b, h]

theorem convert_row {w : World} {base : Nat} {v : Value} {l : List Nat} (h : Row w base 5 v (u8s l)) : (convert 78 9 v).run Tryz.prog w = .ok (.string (strOf l)) w := by
  unfold Row at h
  obtain ⟨_, h2⟩ := h
  rcases h2 with ⟨rfl, h0⟩ | ⟨g, cap, cur, rfl, _, hg, hn, _, _, ht⟩
  · have : l = [] := List.eq_nil_of_length_eq_zero (by simpa using h0)
    subst this
    rw [run_convert_bytes_nil w 78 5 Tryz.underlying78 Tryz.underlying5 0 0 9 Tryz.underlying9]
    rfl
  · rw [u8s_length]
    refine run_convert_bytes_arg w 78 5 Tryz.underlying78 Tryz.underlying5 g 0 l.length cap (l.map fun (x : Nat) => (x : Int)) (by simp) ?_ 9 Tryz.underlying9
    intro i hi
    have hx : cur.toList[i]? = (u8s l)[i]? := by
      rw [← ht, List.getElem?_take_of_lt (by simpa using hi)]
    rw [u8s_get l i hi] at hx
    simp only [World.cell?, hg, Nat.zero_add]
    simp at hx ⊢
    rw [hx]
    simp [hi]
theorem outW_ok {x : Nat} (h : x < 4294967296) : Sha.bytesOk (outW x) := by
  intro i
  match i with
  | 0 => show x / 16777216 < 256; omega
  | 1 => show x / 65536 % 256 < 256; omega
  | 2 => show x / 256 % 256 < 256; omega
  | 3 => show x % 256 < 256; omega
  | k + 4 => show List.getD [] k 0 < _; simp
theorem outK_ok (s : Sha.St) (h : s.ok) (k : Nat) (hk : k ≤ 8) : Sha.bytesOk (outK s.list k) := by
  induction k with
  | zero => intro i; simp [outK]
  | succ k ih => rw [outK_succ s.list k hk]; exact Sha.bytesOk_append (ih (by omega)) (outW_ok (St.ok_get h k))

set_option maxRecDepth 100000 in
set_option maxHeartbeats 1000000 in
theorem hash_any (b : Nat) (s : Sha.St) (bl : List Nat) (fi le : Int) (w : World) (hok : s.ok) (hm : Blk w b 119 (msg s.list bl fi le)) :
    Calls Tryz.prog 79 #[.pointer (some ⟨b, 0, none⟩)] w fun e w' => ∃ h : ByteArray, e = .returned (.string h) ∧ bts h = Sha.out s ∧ Below w.heap.size w w' := by
  have hlt := hm.lt
  have hmk : ∀ w : World, (Instr.makeSlice 78 (.int .i64 0) (.int .i64 32)).run Tryz.prog w = .ok (.slice (some ⟨w.heap.size, 0, none⟩) 0 32) (w.alloc (.cells (u8s (List.replicate 32 0)).toArray 5)) := fun _ => by kernel_rfl
  have hi : (Tryz.prog.info? 115).map (·.size) = some (u32s s.list).length := by kernel_rfl
  have hr : w.rangeAt b 0 (u32s s.list) := fun j v hv => by
    rw [Nat.zero_add, hm.cell]
    unfold msg
    rw [List.getElem?_append_left (List.getElem?_eq_some_iff.1 hv).1]
    exact hv
  have hr2 : (w.alloc (.cells (u8s (List.replicate 32 0)).toArray 5)).rangeAt b 0 (u32s s.list) := fun j v hv => by
    rw [← hr j v hv]
    exact World.cell?_of_block (Below.heap_alloc _ _ _ hlt)
  go_enter Tryz.func79, Tryz.ntmps79
  go_wp2_with (refine wpList_load_mid (by rfl) 115 (.tmp 9) (by rfl) b 0 (by rfl) (u32s s.list) _ hr2 Tryz.underlying115 rfl hi ?_)
  have hb0 : Below w.heap.size w (w.alloc (.cells (u8s (List.replicate 32 0)).toArray 5)) := (Below.refl _ _).alloc (Nat.le_refl _) _
  have hr0 : Row (w.alloc (.cells (u8s (List.replicate 32 0)).toArray 5)) w.heap.size 5 (.slice (some ⟨w.heap.size, 0, none⟩) 0 32) [] := World.ownsRow_made w _ 32 (Nat.le_refl _) (by unfold maxLen; omega) (by simp)
  go_loopw [3, 11] (fun v i wr => ∃ k : Nat, k ≤ 8 ∧ i = .int .i64 k ∧ Row wr w.heap.size 5 v (u8s (outK s.list k)) ∧ Below w.heap.size w wr) (fun _ i _ => 8 - (intOf i).toNat)
  case atStart => exact ⟨0, by omega, rfl, hr0, hb0⟩
  case round =>
    obtain ⟨k, hk, rfl, hrow, hbw⟩ := hrel
    clear hr0 hb0 hr2 hr hmk
    by_cases h8 : k < 8
    · have hix := fun wx => index_u32s wx 115 8 Tryz.underlying115 s.list rfl k h8
      have hlx := St.ok_get hok k
      generalize hx : s.list.getD k 0 = x at *
      have HX : Hid (s.list.getD k 0 = x) := hx
      clear hx hi
      have hsz := hbw.size
      have hl4 : (u8s (outK s.list k)).length = 4 * k := by rw [u8s_length]; exact outK_length _ _ (by show k ≤ 8; omega)
      have HNX : Hid (u8s (outK s.list k) ++ [.int .u8 ((x : Int) / 16777216), .int .u8 ((x : Int) / 65536 % 256), .int .u8 ((x : Int) / 256 % 256), .int .u8 ((x : Int) % 256)] = u8s (outK s.list (k + 1))) := by
        show _ = _
        rw [outK_succ s.list k h8, u8s_append, HX.out]
        simp [u8s, outW]
      go_wp2_with (at_builtin; refine wpList_app elem_u8 rfl Tryz.underlying78 (by rfl) (.tmp 14) (.tmp 26) (by rfl) w.heap.size _ (u8s (outK s.list k)) (by rfl) (hrow.alloc _) wr.heap.size 4 4 [.int .u8 ((x : Int) / 16777216), .int .u8 ((x : Int) / 65536 % 256), .int .u8 ((x : Int) / 256 % 256), .int .u8 ((x : Int) % 256)] (by rfl) rfl (Blk.new wr 5 _) ?h1 ?hl ?hb ?hbs (hbw.alloc hsz _) (Nat.le_refl _) ?_)
      case h1 => intro u hu; simp at hu; rcases hu with rfl | rfl | rfl | rfl <;> rfl
      case hl => rw [hl4]; omega
      case hb => omega
      case hbs => simp; omega
      intro v' w' hv' _ hb'
      rw [HNX.out] at hv'
      go_wp2
      go_roundw
      case rel => exact ⟨k + 1, by omega, by go_num, hv', hb'⟩
      case measure => simp [intOf]; omega
    · have hk8 : k = 8 := by omega
      subst hk8
      have hcv := convert_row hrow
      have HO : Hid (bts (strOf (outK s.list 8)) = Sha.out s) := bts_strOf (outK_ok s hok 8 (Nat.le_refl _))
      clear hrow hi hm
      generalize strOf (outK s.list 8) = h at *
      go_wp2
      go_ret
      exact ⟨h, rfl, HO.out, hbw⟩
end Go.Proofs.YtlhohmlpcgbliabGreatDoor
namespace Go.Proofs.YtlhohmlpcgbliabGreatDoor
open Go.RowKit
attribute [local go_sem ↓] Go.wp_at_zero Go.wp_at_succ

/-- The slice v reads the texts ps. -/
def Strs (w : World) (v : Value) (ps : List ByteArray) : Prop :=
  ∃ a c, v = .slice a ps.length c ∧ ∀ i s, ps[i]? = some s → ∃ g off, a = some ⟨g, off, none⟩ ∧ w.cell? ⟨g, off + i, none⟩ = some (.string s)
theorem Strs.below {w w' : World} {v : Value} {ps : List ByteArray} (h : Strs w v ps) (hb : Below w.heap.size w w') : Strs w' v ps := by
  obtain ⟨a, c, h1, h2⟩ := h
  refine ⟨a, c, h1, fun i s hs => ?_⟩
  obtain ⟨g, off, h3, h4⟩ := h2 i s hs
  exact ⟨g, off, h3, by rw [hb.cell (World.block_lt_of_cell? _ _ h4)]; exact h4⟩

/-- The bytes of all of them, one behind the other. -/
def flat (ps : List ByteArray) : List Nat := ps.flatMap bts
theorem flat_take (ps : List ByteArray) (k : Nat) (s : ByteArray) (h : ps[k]? = some s) : flat (ps.take (k + 1)) = flat (ps.take k) ++ bts s := by
  have hk : k < ps.length := (List.getElem?_eq_some_iff.1 h).1
  unfold flat
  rw [List.take_succ_eq_append_getElem hk, List.flatMap_append]
  have : ps[k] = s := (List.getElem?_eq_some_iff.1 h).2
  simp [this]
theorem flat_length_le (ps : List ByteArray) (k : Nat) : (flat (ps.take k)).length ≤ (flat ps).length := by
  unfold flat
  conv => rhs; rw [← List.take_append_drop k ps, List.flatMap_append]
  simp

set_option maxRecDepth 100000 in
set_option maxHeartbeats 1000000 in
theorem ofB0_wp {c0 c1 c2 c4 c5 c6 c7 c11 c12 c13 c14 c15 c16 c17 c18 : Value} (b : Nat) (v : Value) (ps : List ByteArray) (w : World) (Q : Exit → Act → World → Prop) (hp : Strs w v ps) (hf : Fed w b [] 0) (hlen : (flat ps).length < 576460752303423488) (hpl : ps.length < 9223372036854775807) (ht : Table w) (hg : 2 < w.heap.size) (hb : b ≠ 2) (hpb : ∀ (i : Nat) (s : ByteArray), ps[i]? = some s → ∀ a c, v = .slice (some a) ps.length c → a.block ≠ b)
  (hQ : ∀ (u5 u10 u11 u12 u13 u14 u15 u16 : Value) (w' : World), Kept w.heap.size b w w' → Fed w' b (flat ps) ((flat ps).length : Int) → Q (.exit 0) ⟨#[c0, c1, c2, .pointer (some ⟨b, 0, none⟩), c4, u5, c6, c7, v, .int .i64 (ps.length : Int), u10, u11, u12, u13, u14, u15, u16, c17, c18], []⟩ w') :
  Code.wp Tryz.prog (blc Tryz.f50 0) Q ⟨#[c0, c1, c2, .pointer (some ⟨b, 0, none⟩), c4, c5, c6, c7, v, .int .i64 (ps.length : Int), .int .i64 0, c11, c12, c13, c14, c15, c16, c17, c18], []⟩ w := by
  obtain ⟨a, c, rfl, hps⟩ := hp
  conv => arg 2; whnf
  try go_wp2
  go_loopw [10] (fun i wr => ∃ k : Nat, k ≤ ps.length ∧ i = .int .i64 k ∧ Kept w.heap.size b w wr ∧ Fed wr b (flat (ps.take k)) ((flat (ps.take k)).length : Int)) (fun i _ => ps.length - (intOf i).toNat)
  case atStart => exact ⟨0, by omega, rfl, Kept.refl _ _ _, hf⟩
  case round =>
    obtain ⟨k, hk, rfl, hkp, hfd⟩ := hrel
    by_cases hlt : k < ps.length
    · obtain ⟨g, off, rfl, hc⟩ := hps k ps[k] (List.getElem?_eq_getElem hlt)
      have hgb : g ≠ b := hpb k ps[k] (List.getElem?_eq_getElem hlt) _ _ rfl
      have hgl : g < w.heap.size := World.block_lt_of_cell? _ _ hc
      have hcr : wr.cell? ⟨g, off + k, none⟩ = some (.string ps[k]) := by
        rw [World.cell?_of_block (w := w) (a := ⟨g, off + k, none⟩) (hkp.block g hgl hgb)]; exact hc
      have HT : Hid (flat (ps.take (k + 1)) = flat (ps.take k) ++ bts ps[k]) := flat_take ps k _ (List.getElem?_eq_getElem hlt)
      have HL : Hid ((flat (ps.take k)).length + (ps[k]).size < 4611686018427387904) := by
        show _ < _
        have h1 := flat_length_le ps (k + 1)
        rw [HT.out, List.length_append, bts_length] at h1
        omega
      have HR : Hid (Table wr) := table_kept hkp hg hb ht
      have HG : Hid (2 < wr.heap.size) := Nat.lt_of_lt_of_le hg hkp.size
      generalize ps[k] = p at *
      clear hc hQ hf hps ht
      go_wp2_with fail
      refine (add_any b _ p _ hfd HL.out HR.out HG.out hb).mono ?_
      rintro e w2 ⟨rfl, hk2, hf2⟩
      go_wp2_with fail
      refine ⟨⟨k + 1, by omega, by go_num, hkp.trans (hk2.mono hkp.size), ?_⟩, by simp [intOf]; omega⟩
      rw [HT.out]
      exact hf2
    · have hk4 : k = ps.length := by omega
      subst hk4
      rw [List.take_length] at hfd
      go_wp2
      exact hQ _ _ _ _ _ _ _ _ _ hkp hfd
end Go.Proofs.YtlhohmlpcgbliabGreatDoor
