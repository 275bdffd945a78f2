import Derived.Test.YtlhohmlpcgbliaaDoorZX10
import Derived.Laws.BytesArg
namespace Go.Proofs.YtlhohmlpcgbliaaDoor
open Go.RowKit
attribute [local go_sem ↓] Go.wp_at_zero Go.wp_at_succ

def outW (x : Nat) : List Nat := [x / 16777216, x / 65536 % 256, x / 256 % 256, x % 256]
def outK (l : List Nat) (k : Nat) : List Nat := (l.take k).flatMap outW
theorem outK_succ (l : List Nat) (k : Nat) (h : k < l.length) : outK l (k + 1) = outK l k ++ outW (l.getD k 0) := by
  unfold outK
  rw [List.take_succ_eq_append_getElem h, List.flatMap_append]
  simp [h]
theorem outK_length (l : List Nat) (k : Nat) (h : k ≤ l.length) : (outK l k).length = 4 * k := by
  induction k with
  | zero => simp [outK]
  | succ k ih => rw [outK_succ l k (by omega), List.length_append, ih (by omega)]; simp [outW]; omega

/-- What the program says of an element's type: one cell, so many bytes. -/
def Elem (e : TypeId) (z : Value) (bytes : Nat) : Prop := ∃ i, Tryd.prog.info? e = some i ∧ i.zero = some z ∧ i.size = 1 ∧ i.bytes = bytes
theorem elem_of {e : TypeId} {z : Value} {bytes : Nat} (h : (Tryd.prog.info? e).map (fun i => (i.zero, i.size, i.bytes)) = some (some z, 1, bytes)) : Elem e z bytes := by
  cases hq : Tryd.prog.info? e with
  | none => simp [hq] at h
  | some i => simp [hq] at h; exact ⟨i, hq, h.1, h.2.1, h.2.2⟩
theorem elem_u8 : Elem 5 (.int .u8 0) 1 := elem_of (by kernel_rfl)
theorem elem_int : Elem 3 (.int .i64 0) 8 := elem_of (by kernel_rfl)
theorem elem_string : Elem 9 (.string ⟨#[]⟩) 16 := elem_of (by kernel_rfl)

/-- A slice of the call's own: v reads xs; its row lies from base on. -/
def Row (w : World) (base : Nat) (e : TypeId) (v : Value) (xs : List Value) : Prop := w.ownsRow base e 1 v xs.length xs

/-- An append onto a slice of the call's own, of what lies in a block of its own. -/
theorem wpList_app {e t : TypeId} {z : Value} {bytes : Nat} (hel : Elem e z bytes) (hz : z.cells.size = 1) (ht : Tryd.prog.underlying t = some (.slice e))
    {w w0 : World} {B : Nat} {ops : Array Oper} {rest : List Oper} {o : Oper} {a : Act} {Q : Exit → Act → World → Prop} (hgd : o.guard = none) (s x : Operand)
    (ho : o.op = .call { callee := .builtin .append, args := #[s, x], argTypes := #[t, t] }) (base : Nat) (v : Value) (xs : List Value) (hs : a.eval s = v) (hown : Row w base e v xs)
    (g m c : Nat) (news : List Value) (hx : a.eval x = .slice (some ⟨g, 0, none⟩) m c) (hm : news.length = m) (hnews : Blk w g e news) (h1 : ∀ u ∈ news, u.oneCell' = true)
    (hlen : xs.length + m ≤ 1000000000000) (hby : bytes ≤ 16) (hbase : base ≤ w.heap.size) (hB : Below B w0 w) (hBb : B ≤ base)
    (h : ∀ v' w', Row w' base e v' (xs ++ news) → w.grownBy w' v.ownBlock → Below B w0 w' → wpList Tryd.prog ops Q rest (a.put o.dst v') w') : wpList Tryd.prog ops Q (o :: rest) a w := by
  obtain ⟨i, hi, hiz, his, hib⟩ := hel
  have hb : (xs.length + m) * bytes ≤ 140737488355328 := Nat.le_trans (Nat.mul_le_mul hlen hby) (by omega)
  refine wpList_append_own w hgd s x t ho base e i z 1 bytes ht hi hiz his hib hz (by omega) v xs.length xs hs hown ⟨g, 0, none⟩ m c news hx (by omega) ?_ h1 (by unfold maxLen; omega) hb hbase ?_
  · intro j u hu
    have hlt : j < news.length := (List.getElem?_eq_some_iff.1 hu).1
    rw [Addr.add_mid, Nat.zero_add, hnews.cell]
    exact hu
  · intro v' w' h2 h3 _
    refine h v' w' ?_ h3 (hB.grown h3 (Nat.le_trans hBb hbase) (fun k hk => Nat.le_trans hBb (hown.lt k hk).1))
    unfold Row
    rw [List.length_append, hm]
    exact h2
theorem Row.alloc {w : World} {base : Nat} {e : TypeId} {v : Value} {xs : List Value} (h : Row w base e v xs) (o : Obj) : Row (w.alloc o) base e v xs := World.ownsRow.alloc h o
theorem Row.lit (w : World) (base : Nat) (e : TypeId) (xs : List Value) (hb : base ≤ w.heap.size) (hm : xs.length ≤ maxLen) : Row (w.alloc (.cells xs.toArray e)) base e (.slice (some ⟨w.heap.size, 0, none⟩) xs.length xs.length) xs := by
  have := World.ownsRow_lit (base := base) (e := e) (size := 1) w xs.toArray xs.length hb hm (by simp)
  simpa [Row] using this

/-- A text of these bytes. -/
def strOf (l : List Nat) : ByteArray := strOfNums (l.map fun (x : Nat) => (x : Int))
theorem bts_strOf {l : List Nat} (h : Sha.bytesOk l) : bts (strOf l) = l := by
  unfold bts strOf
  rw [strOfNums_data, List.map_map, List.map_map]
  apply List.ext_getElem?
  intro i
  rw [List.getElem?_map]
  have := h i
  rw [List.getD_eq_getElem?_getD] at this
  cases hq : l[i]? with
  | none => simp
  | some x =>
    rw [hq] at this
    simp at this
    simp [Nat.mod_eq_of_lt this]
theorem strOf_bts (s : ByteArray) : strOf (bts s) = s := by
  have h := bts_strOf (bts_ok s)
  have hd : (strOf (bts s)).data.toList = s.data.toList := by
    unfold bts at h
    exact List.map_inj_right (fun _ _ e => UInt8.toNat_inj.1 e) |>.1 h
  have : (strOf (bts s)).data = s.data := Array.toList_inj.1 hd
  cases s
  cases hs : strOf (bts _)
  simp_all
theorem bts_inj {a b : ByteArray} (h : bts a = bts b) : a = b := by rw [← strOf_bts a, ← strOf_bts b, h]

theorem convert_row {w : World} {base : Nat} {v : Value} {l : List Nat} (h : Row w base 5 v (u8s l)) : (convert 82 9 v).run Tryd.prog w = .ok (.string (strOf l)) w := by
  unfold Row at h
  obtain ⟨_, h2⟩ := h
  rcases h2 with ⟨rfl, h0⟩ | ⟨g, cap, cur, rfl, _, hg, hn, _, _, ht⟩
  · have : l = [] := List.eq_nil_of_length_eq_zero (by simpa using h0)
    subst this
    rw [run_convert_bytes_nil w 82 5 Tryd.underlying82 Tryd.underlying5 0 0 9 Tryd.underlying9]
    rfl
  · rw [u8s_length]
    refine run_convert_bytes_arg w 82 5 Tryd.underlying82 Tryd.underlying5 g 0 l.length cap (l.map fun (x : Nat) => (x : Int)) (by simp) ?_ 9 Tryd.underlying9
    intro i hi
    have hx : cur.toList[i]? = (u8s l)[i]? := by
      rw [← ht, List.getElem?_take_of_lt (by simpa using hi)]
    rw [u8s_get l i hi] at hx
    simp only [World.cell?, hg, Nat.zero_add]
    simp at hx ⊢
    rw [hx]
    simp [hi]
theorem outW_ok {x : Nat} (h : x < 4294967296) : Sha.bytesOk (outW x) := by
  intro i
  match i with
  | 0 => show x / 16777216 < 256; omega
  | 1 => show x / 65536 % 256 < 256; omega
  | 2 => show x / 256 % 256 < 256; omega
  | 3 => show x % 256 < 256; omega
  | k + 4 => show List.getD [] k 0 < _; simp
theorem outK_ok (s : Sha.St) (h : s.ok) (k : Nat) (hk : k ≤ 8) : Sha.bytesOk (outK s.list k) := by
  induction k with
  | zero => intro i; simp [outK]
  | succ k ih => rw [outK_succ s.list k hk]; exact Sha.bytesOk_append (ih (by omega)) (outW_ok (St.ok_get h k))

set_option maxRecDepth 100000 in
set_option maxHeartbeats 1000000 in
theorem hash_any (b : Nat) (s : Sha.St) (bl : List Nat) (fi le : Int) (w : World) (hok : s.ok) (hm : Blk w b 147 (msg s.list bl fi le)) :
    Calls Tryd.prog 109 #[.pointer (some ⟨b, 0, none⟩)] w fun e w' => ∃ h : ByteArray, e = .returned (.string h) ∧ bts h = Sha.out s ∧ Below w.heap.size w w' := by
  have hlt := hm.lt
  have hmk : ∀ w : World, (Instr.makeSlice 82 (.int .i64 0) (.int .i64 32)).run Tryd.prog w = .ok (.slice (some ⟨w.heap.size, 0, none⟩) 0 32) (w.alloc (.cells (u8s (List.replicate 32 0)).toArray 5)) := fun _ => by kernel_rfl
  have hi : (Tryd.prog.info? 143).map (·.size) = some (u32s s.list).length := by kernel_rfl
  have hr : w.rangeAt b 0 (u32s s.list) := fun j v hv => by
    rw [Nat.zero_add, hm.cell]
    unfold msg
    rw [List.getElem?_append_left (List.getElem?_eq_some_iff.1 hv).1]
    exact hv
  have hr2 : (w.alloc (.cells (u8s (List.replicate 32 0)).toArray 5)).rangeAt b 0 (u32s s.list) := fun j v hv => by
    rw [← hr j v hv]
    exact World.cell?_of_block (Below.heap_alloc _ _ _ hlt)
  go_enter Tryd.func109, Tryd.ntmps109
  go_wp2_with (refine wpList_load_mid (by rfl) 143 (.tmp 9) (by rfl) b 0 (by rfl) (u32s s.list) _ hr2 Tryd.underlying143 rfl hi ?_)
  have hb0 : Below w.heap.size w (w.alloc (.cells (u8s (List.replicate 32 0)).toArray 5)) := (Below.refl _ _).alloc (Nat.le_refl _) _
  have hr0 : Row (w.alloc (.cells (u8s (List.replicate 32 0)).toArray 5)) w.heap.size 5 (.slice (some ⟨w.heap.size, 0, none⟩) 0 32) [] := World.ownsRow_made w _ 32 (Nat.le_refl _) (by unfold maxLen; omega) (by simp)
  go_loopw [3, 11] (fun v i wr => ∃ k : Nat, k ≤ 8 ∧ i = .int .i64 k ∧ Row wr w.heap.size 5 v (u8s (outK s.list k)) ∧ Below w.heap.size w wr) (fun _ i _ => 8 - (intOf i).toNat)
  case atStart => exact ⟨0, by omega, rfl, hr0, hb0⟩
  case round =>
    obtain ⟨k, hk, rfl, hrow, hbw⟩ := hrel
    clear hr0 hb0 hr2 hr hmk
    by_cases h8 : k < 8
    · have hix := fun wx => index_u32s wx 143 8 Tryd.underlying143 s.list rfl k h8
      have hlx := St.ok_get hok k
      generalize hx : s.list.getD k 0 = x at *
      have HX : Hid (s.list.getD k 0 = x) := hx
      clear hx hi
      have hsz := hbw.size
      have hl4 : (u8s (outK s.list k)).length = 4 * k := by rw [u8s_length]; exact outK_length _ _ (by show k ≤ 8; omega)
      have HNX : Hid (u8s (outK s.list k) ++ [.int .u8 ((x : Int) / 16777216), .int .u8 ((x : Int) / 65536 % 256), .int .u8 ((x : Int) / 256 % 256), .int .u8 ((x : Int) % 256)] = u8s (outK s.list (k + 1))) := by
        show _ = _
        rw [outK_succ s.list k h8, u8s_append, HX.out]
        simp [u8s, outW]
      go_wp2_with (at_builtin; refine wpList_app elem_u8 rfl Tryd.underlying82 (by rfl) (.tmp 14) (.tmp 26) (by rfl) w.heap.size _ (u8s (outK s.list k)) (by rfl) (hrow.alloc _) wr.heap.size 4 4 [.int .u8 ((x : Int) / 16777216), .int .u8 ((x : Int) / 65536 % 256), .int .u8 ((x : Int) / 256 % 256), .int .u8 ((x : Int) % 256)] (by rfl) rfl (Blk.new wr 5 _) ?h1 ?hl ?hb ?hbs (hbw.alloc hsz _) (Nat.le_refl _) ?_)
      case h1 => intro u hu; simp at hu; rcases hu with rfl | rfl | rfl | rfl <;> rfl
      case hl => rw [hl4]; omega
      case hb => omega
      case hbs => simp; omega
      intro v' w' hv' _ hb'
      rw [HNX.out] at hv'
      go_wp2
      go_roundw
      case rel => exact ⟨k + 1, by omega, by go_num, hv', hb'⟩
      case measure => simp [intOf]; omega
    · have hk8 : k = 8 := by omega
      subst hk8
      have hcv := convert_row hrow
      have HO : Hid (bts (strOf (outK s.list 8)) = Sha.out s) := bts_strOf (outK_ok s hok 8 (Nat.le_refl _))
      clear hrow hi hm
      generalize strOf (outK s.list 8) = h at *
      go_wp2
      go_ret
      exact ⟨h, rfl, HO.out, hbw⟩
end Go.Proofs.YtlhohmlpcgbliaaDoor
namespace Go.Proofs.YtlhohmlpcgbliaaDoor
set_option maxRecDepth 100000
open Go.RowKit

/-- A sector's bytes. -/
structure Sec (s : List Nat) : Prop where
  len : s.length = 128
  byt : ∀ x ∈ s, x < 256
/-- A disk: its sectors as they last, what was written since, the acts, the script. -/
structure Dk where
  las : List (List Nat)
  fre : List (Nat × List Nat)
  acts : Int
  set : Bool
  left : Int
  keep : Int
  failed : Bool
structure Dk.ok (D : Dk) : Prop where
  las : D.las.length = 200
  sec : ∀ s ∈ D.las, Sec s
  fre : ∀ x ∈ D.fre, x.1 < 200 ∧ Sec x.2
  few : D.fre.length ≤ 1000000
/-- Does the i-th write last? -/
def kept (keep : Int) (i : Nat) : Bool := decide (i < 63) && (bits .and .i64 (keep / 2 ^ i) 1 == 1)
def failL (keep : Int) : Nat → List (Nat × List Nat) → List (List Nat) → List (List Nat)
  | _, [], l => l
  | i, x :: r, l => failL keep (i + 1) r (if kept keep i then l.set x.1 x.2 else l)
def putL (f : List (Nat × List Nat)) (l : List (List Nat)) : List (List Nat) := f.foldl (fun l x => l.set x.1 x.2) l
def Dk.fail (D : Dk) : Dk := { D with las := failL D.keep 0 D.fre D.las, fre := [], failed := true }
def Dk.trips (D : Dk) : Bool := D.set && (D.left == 0 && !D.failed)
def Dk.trip (D : Dk) : Dk := if D.trips then D.fail else D
def Dk.tick (D : Dk) : Dk := { D with left := wrap64 (D.left - 1), acts := wrap64 (D.acts + 1) }
/-- The disk behind one act's start. -/
def Dk.act (D : Dk) : Dk := if D.trip.failed then D.trip else D.trip.tick
def Dk.goes (D : Dk) : Bool := !D.trip.failed
def Dk.write (D : Dk) (at' : Nat) (s : List Nat) : Dk := if D.goes then { D.act with fre := D.act.fre ++ [(at', s)] } else D.act
def Dk.flush (D : Dk) : Dk := if D.goes then { D.act with las := putL D.act.fre D.act.las, fre := [] } else D.act
def Dk.read (D : Dk) (at' : Nat) : List Nat := ((D.fre.find? fun x => x.1 == at').map (·.2)).getD (D.las.getD at' [])

theorem failL_length (keep : Int) (f : List (Nat × List Nat)) : ∀ (i : Nat) (l : List (List Nat)), (failL keep i f l).length = l.length := by
  induction f with
  | nil => intro i l; rfl
  | cons x r ih => intro i l; rw [failL, ih]; split <;> simp
theorem failL_sec (keep : Int) (f : List (Nat × List Nat)) : ∀ (i : Nat) (l : List (List Nat)), (∀ s ∈ l, Sec s) → (∀ x ∈ f, Sec x.2) → ∀ s ∈ failL keep i f l, Sec s := by
  induction f with
  | nil => intro i l h _; exact h
  | cons x r ih =>
    intro i l h hf
    rw [failL]
    refine ih _ _ ?_ (fun y hy => hf y (List.mem_cons_of_mem _ hy))
    intro s hs
    split at hs
    · rcases List.mem_or_eq_of_mem_set hs with h1 | rfl
      · exact h s h1
      · exact hf x (List.mem_cons_self ..)
    · exact h s hs
theorem putL_length (f : List (Nat × List Nat)) : ∀ (l : List (List Nat)), (putL f l).length = l.length := by
  induction f with
  | nil => intro l; rfl
  | cons x r ih => intro l; rw [putL, List.foldl_cons]; exact (ih _).trans (by simp)
theorem putL_sec (f : List (Nat × List Nat)) : ∀ (l : List (List Nat)), (∀ s ∈ l, Sec s) → (∀ x ∈ f, Sec x.2) → ∀ s ∈ putL f l, Sec s := by
  induction f with
  | nil => intro l h _; exact h
  | cons x r ih =>
    intro l h hf
    rw [putL, List.foldl_cons]
    refine ih _ ?_ (fun y hy => hf y (List.mem_cons_of_mem _ hy))
    intro s hs
    rcases List.mem_or_eq_of_mem_set hs with h1 | rfl
    · exact h s h1
    · exact hf x (List.mem_cons_self ..)
theorem Dk.ok.fail {D : Dk} (h : D.ok) : D.fail.ok :=
  ⟨by simp [Dk.fail, failL_length, h.las], failL_sec _ _ _ _ h.sec (fun x hx => (h.fre x hx).2), fun x hx => by simp [Dk.fail] at hx, by simp [Dk.fail]⟩
theorem Dk.ok.trip {D : Dk} (h : D.ok) : D.trip.ok := by
  unfold Dk.trip; split
  · exact h.fail
  · exact h
theorem Dk.ok.tick {D : Dk} (h : D.ok) : D.tick.ok := ⟨h.las, h.sec, h.fre, h.few⟩
theorem Dk.ok.act {D : Dk} (h : D.ok) : D.act.ok := by
  unfold Dk.act; split
  · exact h.trip
  · exact h.trip.tick
theorem Dk.ok.flush {D : Dk} (h : D.ok) : D.flush.ok := by
  unfold Dk.flush; split
  · exact ⟨by simp [putL_length, h.act.las], putL_sec _ _ h.act.sec (fun x hx => (h.act.fre x hx).2), fun x hx => by simp at hx, by simp⟩
  · exact h.act
theorem Dk.ok.write {D : Dk} (h : D.ok) {i : Nat} {s : List Nat} (hi : i < 200) (hs : Sec s) (hf : D.fre.length < 1000000) : (D.write i s).ok := by
  have hl : D.act.fre.length ≤ D.fre.length := by
    unfold Dk.act Dk.trip Dk.tick Dk.fail
    split <;> split <;> simp
  unfold Dk.write; split
  · refine ⟨h.act.las, h.act.sec, fun x hx => ?_, by simp; omega⟩
    rcases List.mem_append.1 hx with h1 | h1
    · exact h.act.fre x h1
    · rw [List.mem_singleton] at h1; subst h1; exact ⟨hi, hs⟩
  · exact h.act
theorem Dk.ok.read {D : Dk} (h : D.ok) {i : Nat} (hi : i < 200) : Sec (D.read i) := by
  unfold Dk.read
  cases hq : D.fre.find? fun x => x.1 == i with
  | none =>
    have h1 := h.las
    simp only [Option.map_none, Option.getD_none]
    rw [List.getD_eq_getElem?_getD, List.getElem?_eq_getElem (by omega)]
    exact h.sec _ (List.getElem_mem _)
  | some x => exact (h.fre x (List.mem_of_find?_eq_some hq)).2

/-- Lists of one length, side by side. -/
theorem flat_length {l : List (List Nat)} (h : ∀ s ∈ l, s.length = 128) : l.flatten.length = l.length * 128 := by
  induction l with
  | nil => rfl
  | cons s r ih =>
    rw [List.flatten_cons, List.length_append, ih (fun x hx => h x (List.mem_cons_of_mem _ hx)), h s (List.mem_cons_self ..), List.length_cons]; omega
theorem flat_part {l : List (List Nat)} (h : ∀ s ∈ l, s.length = 128) : ∀ i, i < l.length → (l.flatten.drop (i * 128)).take 128 = l.getD i [] := by
  induction l with
  | nil => intro i hi; simp at hi
  | cons s r ih =>
    intro i hi
    have hs := h s (List.mem_cons_self ..)
    cases i with
    | zero => simp [← hs]
    | succ i =>
      rw [List.flatten_cons, List.drop_append, List.drop_eq_nil_of_le (by omega), List.nil_append, hs, show (i + 1) * 128 - 128 = i * 128 by omega, List.getD_cons_succ]
      exact ih (fun x hx => h x (List.mem_cons_of_mem _ hx)) i (by simpa using hi)
theorem flat_set {l : List (List Nat)} (h : ∀ s ∈ l, s.length = 128) (c : List Nat) : ∀ i, i < l.length → l.flatten.take (i * 128) ++ (c ++ l.flatten.drop (i * 128 + 128)) = (l.set i c).flatten := by
  induction l with
  | nil => intro i hi; simp at hi
  | cons s r ih =>
    intro i hi
    have hs := h s (List.mem_cons_self ..)
    cases i with
    | zero =>
      rw [List.flatten_cons, List.set_cons_zero, List.flatten_cons, List.drop_append, List.drop_eq_nil_of_le (by omega)]
      simp [hs]
    | succ i =>
      rw [List.set_cons_succ, List.flatten_cons, List.flatten_cons, ← ih (fun x hx => h x (List.mem_cons_of_mem _ hx)) i (by simpa using hi), List.take_append, List.drop_append, List.take_of_length_le (by omega), List.drop_eq_nil_of_le (by omega), hs,
        show (i + 1) * 128 - 128 = i * 128 by omega, show (i + 1) * 128 + 128 - 128 = i * 128 + 128 by omega]
      simp

/-- The cells of a disk. -/
def Dk.cells (D : Dk) (fv : Value) : List Value := u8s D.las.flatten ++ [fv, .int .i64 D.acts, .bool D.set, .int .i64 D.left, .int .i64 D.keep, .bool D.failed]
theorem Dk.ok.flat {D : Dk} (h : D.ok) : D.las.flatten.length = 25600 := by
  rw [flat_length (fun s hs => (h.sec s hs).len), h.las]
theorem Dk.ok.cells_len {D : Dk} (h : D.ok) (fv : Value) : (D.cells fv).length = 25606 := by
  simp only [Dk.cells, List.length_append, u8s_length, h.flat]; rfl
theorem Dk.ok.tail {D : Dk} (h : D.ok) (fv : Value) (k : Nat) : (D.cells fv)[25600 + k]? = [fv, .int .i64 D.acts, .bool D.set, .int .i64 D.left, .int .i64 D.keep, .bool D.failed][k]? := by
  unfold Dk.cells
  rw [List.getElem?_append_right (by simp [h.flat]), u8s_length, h.flat, Nat.add_sub_cancel_left]
theorem Dk.ok.setTail {D : Dk} (h : D.ok) (fv : Value) (k : Nat) (v : Value) : (D.cells fv).set (25600 + k) v = u8s D.las.flatten ++ ([fv, .int .i64 D.acts, .bool D.set, .int .i64 D.left, .int .i64 D.keep, .bool D.failed] : List Value).set k v := by
  unfold Dk.cells
  rw [List.set_append_right _ _ (by simp [h.flat]), u8s_length, h.flat, Nat.add_sub_cancel_left]
theorem Dk.ok.part {D : Dk} (h : D.ok) (fv : Value) (i : Nat) (hi : i < 200) : ((D.cells fv).drop (i * 128)).take 128 = u8s (D.las.getD i []) := by
  rw [← flat_part (fun s hs => (h.sec s hs).len) i (by rw [h.las]; exact hi)]
  unfold Dk.cells
  rw [List.drop_append_of_le_length (by simp [h.flat]; omega), List.take_append_of_le_length (by simp [h.flat]; omega)]
  simp [u8s, List.map_take, List.map_drop]
theorem Dk.ok.setSec {D : Dk} (h : D.ok) (fv : Value) (i : Nat) (hi : i < 200) (c : List Nat) (hc : c.length = 128) : setL (D.cells fv) (i * 128) (u8s c) = ({ D with las := D.las.set i c } : Dk).cells fv := by
  rw [setL_eq _ _ _ (by rw [h.cells_len, u8s_length, hc]; omega)]
  unfold Dk.cells
  simp only
  rw [← flat_set (fun s hs => (h.sec s hs).len) c i (by rw [h.las]; exact hi), List.take_append_of_le_length (by simp [h.flat]; omega), List.drop_append_of_le_length (by simp [h.flat, hc]; omega), u8s_length, hc]
  simp [u8s, List.map_take, List.map_drop]

/-- Writes, cell by cell. -/
def flatW (f : List (Nat × List Nat)) : List Value := f.flatMap fun x => .int .i64 (x.1 : Int) :: u8s x.2
theorem flatW_part (f : List (Nat × List Nat)) (h : ∀ x ∈ f, x.2.length = 128) : ∀ i x, f[i]? = some x → ((flatW f).drop (i * 129)).take 129 = .int .i64 (x.1 : Int) :: u8s x.2 := by
  induction f with
  | nil => intro i x hi; simp at hi
  | cons y r ih =>
    intro i x hi
    have hy := h y (List.mem_cons_self ..)
    have hl : (Value.int .i64 (y.1 : Int) :: u8s y.2).length = 129 := by simp [hy]
    rw [flatW, List.flatMap_cons]
    cases i with
    | zero =>
      simp only [List.getElem?_cons_zero, Option.some.injEq] at hi
      subst hi
      rw [Nat.zero_mul, List.drop_zero, List.take_append_of_le_length (by omega), List.take_of_length_le (by omega)]
    | succ i =>
      rw [List.drop_append, List.drop_eq_nil_of_le (by omega), List.nil_append, hl, show (i + 1) * 129 - 129 = i * 129 by omega]
      exact ih (fun z hz => h z (List.mem_cons_of_mem _ hz)) i x (by simpa using hi)

theorem ownsRow_below' {w w' : World} {base : Nat} {e : TypeId} {size : Nat} {v : Value} {n : Nat} {xs : List Value} (h : w.ownsRow base e size v n xs) (hb : Below w.heap.size w w') : w'.ownsRow base e size v n xs := by
  obtain ⟨h1, h2⟩ := h
  refine ⟨h1, ?_⟩
  rcases h2 with h0 | ⟨g, cap, cur, hv, hbg, hg, r⟩
  · exact Or.inl h0
  · have : g < w.heap.size := (Array.getElem?_eq_some_iff.1 hg).1
    exact Or.inr ⟨g, cap, cur, hv, hbg, by rw [hb.block g (by omega)]; exact hg, r⟩

/-- The disk D lies at b; the writes that do not last yet lie where fv says. -/
structure DiskAt (w : World) (b : Nat) (fv : Value) (D : Dk) : Prop where
  ok : D.ok
  blk : Blk w b 136 (D.cells fv)
  row : w.ownsRow 0 169 129 fv D.fre.length (flatW D.fre)
  apart : fv.ownBlock ≠ some b

/-- All but the disk's own blocks are as they were. -/
structure Fr (b : Nat) (g g' : Option Nat) (w w' : World) : Prop where
  os : w'.os = w.os
  tape : w'.tape = w.tape
  output : w'.output = w.output
  size : w.heap.size ≤ w'.heap.size
  block : ∀ k, k < w.heap.size → k ≠ b → g ≠ some k → w'.heap[k]? = w.heap[k]?
  own : g' = none ∨ g' = g ∨ ∃ k, g' = some k ∧ w.heap.size ≤ k
theorem Fr.refl (b : Nat) (g : Option Nat) (w : World) : Fr b g g w w := ⟨rfl, rfl, rfl, Nat.le_refl _, fun _ _ _ _ => rfl, .inr (.inl rfl)⟩
theorem Fr.trans {b : Nat} {g g1 g2 : Option Nat} {w w1 w2 : World} (h : Fr b g g1 w w1) (k : Fr b g1 g2 w1 w2) : Fr b g g2 w w2 := by
  refine ⟨k.os.trans h.os, k.tape.trans h.tape, k.output.trans h.output, Nat.le_trans h.size k.size, fun i hi hb hg => ?_, ?_⟩
  · refine (k.block i (Nat.lt_of_lt_of_le hi h.size) hb ?_).trans (h.block i hi hb hg)
    rcases h.own with e | e | ⟨j, e, hj⟩
    · rw [e]; simp
    · rw [e]; exact hg
    · rw [e]; simp; omega
  · rcases k.own with e | e | ⟨j, e, hj⟩
    · exact .inl e
    · rw [e]; exact h.own
    · exact .inr (.inr ⟨j, e, Nat.le_trans h.size hj⟩)
theorem Fr.of_below {b : Nat} {g : Option Nat} {w w' : World} (h : Below w.heap.size w w') : Fr b g g w w' := ⟨h.os, h.tape, h.output, h.size, fun k hk _ _ => h.block k hk, .inr (.inl rfl)⟩
theorem Fr.to_below {b : Nat} {g g' : Option Nat} {w w' : World} {B : Nat} (h : Fr b g g' w w') (hB : B ≤ w.heap.size) (hb : B ≤ b) (hg : ∀ k, g = some k → B ≤ k) : Below B w w' :=
  ⟨h.os, h.tape, h.output, h.size, fun k hk => h.block k (by omega) (by omega) (fun e => by have := hg k e; omega)⟩
theorem Fr.blk {b : Nat} {g g' : Option Nat} {w w' : World} (h : Fr b g g' w w') {c : Nat} {t : TypeId} {cs : List Value} (hc : Blk w c t cs) (hb : c ≠ b) (hg : g ≠ some c) : Blk w' c t cs := by
  have := hc.lt
  unfold Blk at *
  rw [h.block c this hb hg]; exact hc
theorem Fr.apart {b : Nat} {g g' : Option Nat} {w w' : World} (h : Fr b g g' w w') {c : Nat} (hc : c < w.heap.size) (hg : g ≠ some c) : g' ≠ some c := by
  rcases h.own with e | e | ⟨j, e, hj⟩
  · rw [e]; simp
  · rw [e]; exact hg
  · rw [e]; simp; omega
theorem DiskAt.lt {w : World} {b : Nat} {fv : Value} {D : Dk} (h : DiskAt w b fv D) : b < w.heap.size := h.blk.lt
theorem DiskAt.below {w w' : World} {b : Nat} {fv : Value} {D : Dk} (h : DiskAt w b fv D) (hb : Below w.heap.size w w') : DiskAt w' b fv D :=
  ⟨h.ok, h.blk.below hb h.lt, ownsRow_below' h.row hb, h.apart⟩
theorem DiskAt.drewN {w : World} {b : Nat} {fv : Value} {D : Dk} (h : DiskAt w b fv D) (n : Nat) : DiskAt (w.drewN n) b fv D := ⟨h.ok, h.blk, h.row, h.apart⟩
theorem DiskAt.alloc {w : World} {b : Nat} {fv : Value} {D : Dk} (h : DiskAt w b fv D) (o : Obj) : DiskAt (w.alloc o) b fv D := h.below ((Below.refl _ _).alloc (Nat.le_refl _) o)
theorem DiskAt.cell {w : World} {b : Nat} {fv : Value} {D : Dk} (h : DiskAt w b fv D) (k : Nat) : w.cell? ⟨b, 25600 + k, none⟩ = [fv, .int .i64 D.acts, .bool D.set, .int .i64 D.left, .int .i64 D.keep, .bool D.failed][k]? := by
  rw [h.blk.cell, h.ok.tail]
/-- The disk's own cell is written. -/
theorem DiskAt.put {w : World} {b : Nat} {fv : Value} {D : Dk} (h : DiskAt w b fv D) (k : Nat) (v fv' : Value) (D' : Dk) (hok : D'.ok) (hl : D'.las = D.las) (hf : fv' = fv) (hfr : D'.fre = D.fre) (hk : ([fv, .int .i64 D.acts, .bool D.set, .int .i64 D.left, .int .i64 D.keep, .bool D.failed] : List Value).set k v = [fv', .int .i64 D'.acts, .bool D'.set, .int .i64 D'.left, .int .i64 D'.keep, .bool D'.failed]) :
    DiskAt (w.setCell ⟨b, 25600 + k, none⟩ v) b fv' D' := by
  subst hf
  refine ⟨hok, (h.blk.set (25600 + k) v).eq ?_, ?_, h.apart⟩
  · rw [h.ok.setTail, hk, Dk.cells, hl]
  · rw [hfr]; exact ownsRow_setCell_other h.row h.apart v
/-- What does not last yet is let go. -/
theorem DiskAt.empty {w : World} {b : Nat} {fv : Value} {D : Dk} (h : DiskAt w b fv D) : DiskAt (w.setCell ⟨b, 25600, none⟩ (.slice none 0 0)) b (.slice none 0 0) { D with fre := [] } := by
  refine ⟨⟨h.ok.las, h.ok.sec, fun x hx => by simp at hx, by simp⟩, (h.blk.set (25600 + 0) _).eq ?_, World.ownsRow_nil _ _ _ _, by simp [Value.ownBlock]⟩
  rw [h.ok.setTail]; rfl
theorem Fr.setCell (b : Nat) (g g' : Option Nat) (w : World) (o : Nat) (v : Value) (hg : g' = none ∨ g' = g) : Fr b g g' w (w.setCell ⟨b, o, none⟩ v) :=
  ⟨rfl, rfl, rfl, by simp [World.setCell], fun k _ hk _ => Below.heap_setCell _ _ _ _ hk, hg.elim .inl (fun h => .inr (.inl h))⟩
theorem Fr.setCells (b : Nat) (g : Option Nat) (vs : List Value) : ∀ (w : World) (o : Nat), Fr b g g w (w.setCells b o vs) := by
  induction vs with
  | nil => intro w o; exact Fr.refl _ _ _
  | cons v r ih => intro w o; exact (Fr.setCell b g g w o v (.inr rfl)).trans (ih _ _)
theorem ownsRow_setCells_other {base : Nat} {e : TypeId} {size : Nat} {v : Value} {n : Nat} {xs : List Value} {b : Nat} (hb : v.ownBlock ≠ some b) (vs : List Value) : ∀ (w : World) (o : Nat), w.ownsRow base e size v n xs → (w.setCells b o vs).ownsRow base e size v n xs := by
  induction vs with
  | nil => intro w o h; exact h
  | cons u r ih => intro w o h; exact ih _ _ (ownsRow_setCell_other h hb u)
/-- A sector lasts now. -/
theorem DiskAt.putSec {w : World} {b : Nat} {fv : Value} {D : Dk} (h : DiskAt w b fv D) (i : Nat) (hi : i < 200) (c : List Nat) (hc : Sec c) : DiskAt (w.setCells b (i * 128) (u8s c)) b fv { D with las := D.las.set i c } := by
  refine ⟨⟨by simp [h.ok.las], ?_, h.ok.fre, h.ok.few⟩, (h.blk.setCells (i * 128) (u8s c)).eq (h.ok.setSec fv i hi c hc.len), ownsRow_setCells_other h.apart _ _ _ h.row, h.apart⟩
  intro s hs
  rcases List.mem_or_eq_of_mem_set hs with h1 | rfl
  · exact h.ok.sec s h1
  · exact hc
end Go.Proofs.YtlhohmlpcgbliaaDoor
namespace Go.Proofs.YtlhohmlpcgbliaaDoor
open Go.RowKit
attribute [local go_sem ↓] Go.wp_at_zero Go.wp_at_succ

/-- The slice v reads the texts ps. -/
def Strs (w : World) (v : Value) (ps : List ByteArray) : Prop :=
  ∃ a c, v = .slice a ps.length c ∧ ∀ i s, ps[i]? = some s → ∃ g off, a = some ⟨g, off, none⟩ ∧ w.cell? ⟨g, off + i, none⟩ = some (.string s)
theorem Strs.below {w w' : World} {v : Value} {ps : List ByteArray} (h : Strs w v ps) (hb : Below w.heap.size w w') : Strs w' v ps := by
  obtain ⟨a, c, h1, h2⟩ := h
  refine ⟨a, c, h1, fun i s hs => ?_⟩
  obtain ⟨g, off, h3, h4⟩ := h2 i s hs
  exact ⟨g, off, h3, by rw [hb.cell (World.block_lt_of_cell? _ _ h4)]; exact h4⟩

/-- The bytes of all of them, one behind the other. -/
def flat (ps : List ByteArray) : List Nat := ps.flatMap bts
theorem flat_take (ps : List ByteArray) (k : Nat) (s : ByteArray) (h : ps[k]? = some s) : flat (ps.take (k + 1)) = flat (ps.take k) ++ bts s := by
  have hk : k < ps.length := (List.getElem?_eq_some_iff.1 h).1
  unfold flat
  rw [List.take_succ_eq_append_getElem hk, List.flatMap_append]
  have : ps[k] = s := (List.getElem?_eq_some_iff.1 h).2
  simp [this]
theorem flat_length_le (ps : List ByteArray) (k : Nat) : (flat (ps.take k)).length ≤ (flat ps).length := by
  unfold flat
  conv => rhs; rw [← List.take_append_drop k ps, List.flatMap_append]
  simp

set_option maxRecDepth 100000 in
set_option maxHeartbeats 1000000 in
theorem ofB0_wp {c0 c1 c2 c4 c5 c6 c7 c11 c12 c13 c14 c15 c16 c17 c18 : Value} (b : Nat) (v : Value) (ps : List ByteArray) (w : World) (Q : Exit → Act → World → Prop) (hp : Strs w v ps) (hf : Fed w b [] 0) (hlen : (flat ps).length < 576460752303423488) (hpl : ps.length < 9223372036854775807) (ht : Table w) (hg : 2 < w.heap.size) (hb : b ≠ 2) (hpb : ∀ (i : Nat) (s : ByteArray), ps[i]? = some s → ∀ a c, v = .slice (some a) ps.length c → a.block ≠ b)
  (hQ : ∀ (u5 u10 u11 u12 u13 u14 u15 u16 : Value) (w' : World), Kept w.heap.size b w w' → Fed w' b (flat ps) ((flat ps).length : Int) → Q (.exit 0) ⟨#[c0, c1, c2, .pointer (some ⟨b, 0, none⟩), c4, u5, c6, c7, v, .int .i64 (ps.length : Int), u10, u11, u12, u13, u14, u15, u16, c17, c18], []⟩ w') :
  Code.wp Tryd.prog (blc Tryd.f85 0) Q ⟨#[c0, c1, c2, .pointer (some ⟨b, 0, none⟩), c4, c5, c6, c7, v, .int .i64 (ps.length : Int), .int .i64 0, c11, c12, c13, c14, c15, c16, c17, c18], []⟩ w := by
  obtain ⟨a, c, rfl, hps⟩ := hp
  conv => arg 2; whnf
  try go_wp2
  go_loopw [10] (fun i wr => ∃ k : Nat, k ≤ ps.length ∧ i = .int .i64 k ∧ Kept w.heap.size b w wr ∧ Fed wr b (flat (ps.take k)) ((flat (ps.take k)).length : Int)) (fun i _ => ps.length - (intOf i).toNat)
  case atStart => exact ⟨0, by omega, rfl, Kept.refl _ _ _, hf⟩
  case round =>
    obtain ⟨k, hk, rfl, hkp, hfd⟩ := hrel
    by_cases hlt : k < ps.length
    · obtain ⟨g, off, rfl, hc⟩ := hps k ps[k] (List.getElem?_eq_getElem hlt)
      have hgb : g ≠ b := hpb k ps[k] (List.getElem?_eq_getElem hlt) _ _ rfl
      have hgl : g < w.heap.size := World.block_lt_of_cell? _ _ hc
      have hcr : wr.cell? ⟨g, off + k, none⟩ = some (.string ps[k]) := by
        rw [World.cell?_of_block (w := w) (a := ⟨g, off + k, none⟩) (hkp.block g hgl hgb)]; exact hc
      have HT : Hid (flat (ps.take (k + 1)) = flat (ps.take k) ++ bts ps[k]) := flat_take ps k _ (List.getElem?_eq_getElem hlt)
      have HL : Hid ((flat (ps.take k)).length + (ps[k]).size < 4611686018427387904) := by
        show _ < _
        have h1 := flat_length_le ps (k + 1)
        rw [HT.out, List.length_append, bts_length] at h1
        omega
      have HR : Hid (Table wr) := table_kept hkp hg hb ht
      have HG : Hid (2 < wr.heap.size) := Nat.lt_of_lt_of_le hg hkp.size
      generalize ps[k] = p at *
      clear hc hQ hf hps ht
      go_wp2_with fail
      refine (add_any b _ p _ hfd HL.out HR.out HG.out hb).mono ?_
      rintro e w2 ⟨rfl, hk2, hf2⟩
      go_wp2_with fail
      refine ⟨⟨k + 1, by omega, by go_num, hkp.trans (hk2.mono hkp.size), ?_⟩, by simp [intOf]; omega⟩
      rw [HT.out]
      exact hf2
    · have hk4 : k = ps.length := by omega
      subst hk4
      rw [List.take_length] at hfd
      go_wp2
      exact hQ _ _ _ _ _ _ _ _ _ hkp hfd
end Go.Proofs.YtlhohmlpcgbliaaDoor
namespace Go.Proofs.YtlhohmlpcgbliaaDoor
open Go.RowKit
attribute [local go_sem ↓] Go.wp_at_zero Go.wp_at_succ

theorem msg_one (s bl : List Nat) (fi le : Int) : ∀ v ∈ msg s bl fi le, v.oneCell' = true := by
  intro v hv
  unfold msg at hv
  rcases List.mem_append.1 hv with h | h
  · exact u32s_one _ v h
  · rcases List.mem_append.1 h with h | h
    · exact u8s_one _ v h
    · simp at h; rcases h with rfl | rfl <;> rfl

/-- An operation that is reckoned apart. -/
theorem wpList_by {P : Program} {ops : Array Oper} {rest : List Oper} {o : Oper} {a : Act} {w : World} {Q : Exit → Act → World → Prop} {op : Op} (hgd : o.guard = none) (_ho : o.op = op) (v : Value) (w' : World)
    (hr : (execOp a.eval o).run P w = .ok (.value v) w') (h : wpList P ops Q rest (a.put o.dst v) w') : wpList P ops Q (o :: rest) a w :=
  wpList_plain hgd fun _ hK => by unfold Oper.wp; rw [hr]; exact hK _ _ h

/-- A message's cells at first: as it is made, and as it is laid out. -/
def mz : List Value := msg (List.replicate 8 0) (List.replicate 64 0) 0 0
def mi : List Value := msg Sha.init.list (List.replicate 64 0) 0 0
theorem mi_one : mi.toArray.all (·.oneCell') = true := all_oneCell_toArray (msg_one _ _ _ _)
theorem mi_info : (Tryd.prog.info? 147).map (·.size) = some mi.toArray.size := by kernel_rfl
theorem mz_there (w : World) : (w.alloc (.cells mz.toArray 147)).there w.heap.size 0 mi.toArray.size := (Blk.new w 147 mz).there 0 _ (Nat.le_refl _)
/-- The world behind a message's making. -/
def made (w : World) : World := (w.alloc (.cells mz.toArray 147)).setCells w.heap.size 0 mi
theorem made_blk (w : World) : Blk (made w) w.heap.size 147 mi :=
  ((Blk.new w 147 mz).setCells 0 mi).eq (by rw [setL_eq _ _ _ (Nat.le_refl _)]; rfl)
theorem made_below (w : World) : Below w.heap.size w (made w) := Below.setCells ((Below.refl _ _).alloc (Nat.le_refl _) _) _ _ (Nat.le_refl _) _

theorem fed_made (w : World) : Fed (made w) w.heap.size [] 0 := by
  refine ⟨List.replicate 64 0, Sha.held_nil, ?_⟩
  have e : msg (Sha.behind []).list (List.replicate 64 0) ((([] : List Nat).length % 64 : Nat) : Int) 0 = mi := by
    rw [Sha.behind_nil]; rfl
  rw [e]
  exact made_blk w


set_option maxRecDepth 100000 in
set_option maxHeartbeats 1000000 in
theorem ofR1_wp {c0 c1 c2 c3 c4 c5 c6 c7 c8 c9 c10 c11 c12 c13 c14 c15 c16 c17 c18 : Value} (w : World) (Q : Exit → Act → World → Prop)
  (hQ : ∀ (u6 u7 : Value), Q .normal ⟨#[c0, c1, c2, .pointer (some ⟨w.heap.size, 0, none⟩), c4, c5, u6, u7, c8, c9, c10, c11, c12, c13, c14, c15, c16, c17, c18], []⟩ (made w)) :
  Code.wp Tryd.prog (rgn Tryd.f85 1) Q ⟨#[c0, c1, c2, c3, c4, c5, c6, c7, c8, c9, c10, c11, c12, c13, c14, c15, c16, c17, c18], []⟩ w := by
  conv => arg 2; whnf
  refine wp_region_lit ?_
  refine wpList_by (op := .build 143 _) (by rfl) (by rfl) (.agg (u32s Sha.init.list).toArray) w (by kernel_rfl) ?_
  refine wpList_by (op := .build 147 #[(0, .tmp 6)]) (by rfl) (by rfl) (.agg mi.toArray) w (by kernel_rfl) ?_
  refine wpList_by (op := .alloc 147) (by rfl) (by rfl) (.pointer (some ⟨w.heap.size, 0, none⟩)) (w.alloc (.cells mz.toArray 147)) (by kernel_rfl) ?_
  refine wpList_store_mid (by rfl) 147 (.tmp 3) (.tmp 7) (by rfl) w.heap.size 0 mi.toArray (by rfl) (by rfl) (mz_there w) mi_info mi_one ?_
  refine wpList_nil ?_
  simp only [Act.put]
  exact hQ _ _

set_option maxRecDepth 100000 in
set_option maxHeartbeats 1000000 in
theorem of_any (v : Value) (ps : List ByteArray) (w : World) (hp : Strs w v ps) (hlen : (flat ps).length < 576460752303423488) (hpl : ps.length < 9223372036854775807) (ht : Table w) (hg : 2 < w.heap.size) :
    Calls Tryd.prog 85 #[v] w fun e w' => ∃ h : ByteArray, e = .returned (.string h) ∧ bts h = Sha.sha (flat ps) ∧ Below w.heap.size w w' := by
  have hb := made_below w
  have hp2 := hp.below hb
  have hps := hp
  have ht2 : Table (made w) := table_kept (Kept.of_below (b := w.heap.size) hb) hg (by omega) ht
  have hg2 : 2 < (made w).heap.size := Nat.lt_of_lt_of_le hg hb.size
  have hne : w.heap.size ≠ 2 := by omega
  have hfd := fed_made w
  have hpb : ∀ (i : Nat) (s : ByteArray), ps[i]? = some s → ∀ a c, v = .slice (some a) ps.length c → a.block ≠ w.heap.size := by
    intro i s hs a c hv
    obtain ⟨a', c', hv', h2⟩ := hps
    obtain ⟨g, off, h3, h4⟩ := h2 i s hs
    rw [hv'] at hv
    injection hv with e1 e2 e3
    subst e1
    injection h3 with e4
    subst e4
    have := World.block_lt_of_cell? _ _ h4
    exact Nat.ne_of_lt this
  obtain ⟨a, c, rfl, _⟩ := hp
  clear hps
  go_enter Tryd.func85, Tryd.ntmps85
  refine wp_seq ?_
  refine wp_region_lit ?_
  refine wpList_by (op := .assign _) (by rfl) (by rfl) (.string ⟨#[]⟩) w (by kernel_rfl) ?_
  refine wpList_nil ?_
  simp only [Act.put, Exit.then]
  refine wp_seq ?_
  refine ofR1_wp _ _ ?_
  intro u6 u7
  simp only [Exit.then]
  generalize made w = w1 at *
  go_wp2_with fail
  refine ofB0_wp w.heap.size _ ps _ _ hp2 hfd hlen hpl ht2 hg2 hne hpb ?_
  intro u5 u10 u11 u12 u13 u14 u15 u16 w2 hk2 hf2
  simp only [Exit.inBlock, if_true]
  have hk3 : Kept w.heap.size w.heap.size w w2 := (Kept.of_below hb).trans (hk2.mono hb.size)
  have ht3 := table_kept hk2 hg2 hne ht2
  have hg3 : 2 < w2.heap.size := Nat.lt_of_lt_of_le hg2 hk2.size
  go_wp2_with fail
  refine (pad_any w.heap.size (flat ps) _ hf2 hlen ht3 hg3 hne).mono ?_
  rintro e w3 ⟨rfl, hk4, bl, fi, le, _, hm4⟩
  have hk5 : Kept w.heap.size w.heap.size w w3 := hk3.trans (hk4.mono hk3.size)
  go_wp2_with fail
  refine (hash_any w.heap.size _ _ _ _ _ (Sha.behind_ok _) hm4).mono ?_
  rintro e w4 ⟨h, rfl, hh, hb4⟩
  go_wp2_with fail
  go_ret
  exact ⟨h, rfl, hh, (hk5.below (Nat.le_refl _) (Nat.le_refl _)).trans (hb4.mono hk5.size)⟩
end Go.Proofs.YtlhohmlpcgbliaaDoor
namespace Go.Proofs.YtlhohmlpcgbliaaDoor
open Go.RowKit
attribute [local go_sem ↓] Go.wp_at_zero Go.wp_at_succ

/-- The hash of these bytes, as a text. -/
def shaS (l : List Nat) : ByteArray := strOf (Sha.sha l)
theorem shaS_of {h : ByteArray} {l : List Nat} (e : bts h = Sha.sha l) : h = shaS l := by rw [shaS, ← e, strOf_bts]
theorem out_ok {s : Sha.St} (h : s.ok) : Sha.bytesOk (Sha.out s) := outK_ok s h 8 (Nat.le_refl _)
theorem sha_ok (l : List Nat) : Sha.bytesOk (Sha.sha l) := out_ok (Sha.mixAll_ok _ _ _ Sha.init_ok)
theorem bts_shaS (l : List Nat) : bts (shaS l) = Sha.sha l := bts_strOf (sha_ok l)
theorem sha_length (l : List Nat) : (Sha.sha l).length = 32 := rfl
theorem shaS_size (l : List Nat) : (shaS l).size = 32 := by rw [← bts_length, bts_shaS, sha_length]
def leafS (s : ByteArray) : ByteArray := shaS (0 :: bts s)
def nodeS (a b : ByteArray) : ByteArray := shaS (1 :: (bts a ++ bts b))

theorem strs_two (w : World) (a b : ByteArray) : Strs (w.alloc (.cells #[.string a, .string b] 9)) (.slice (some ⟨w.heap.size, 0, none⟩) 2 2) [a, b] := by
  refine ⟨some ⟨w.heap.size, 0, none⟩, 2, rfl, fun i s hs => ⟨w.heap.size, 0, rfl, ?_⟩⟩
  rw [(Blk.new w 9 [.string a, .string b]).cell]
  match i with
  | 0 => simp at hs; simp [hs]
  | 1 => simp at hs; simp [hs]
  | k + 2 => simp at hs
theorem strs_three (w : World) (a b c : ByteArray) : Strs (w.alloc (.cells #[.string a, .string b, .string c] 9)) (.slice (some ⟨w.heap.size, 0, none⟩) 3 3) [a, b, c] := by
  refine ⟨some ⟨w.heap.size, 0, none⟩, 3, rfl, fun i s hs => ⟨w.heap.size, 0, rfl, ?_⟩⟩
  rw [(Blk.new w 9 [.string a, .string b, .string c]).cell]
  match i with
  | 0 => simp at hs; simp [hs]
  | 1 => simp at hs; simp [hs]
  | 2 => simp at hs; simp [hs]
  | k + 3 => simp at hs

set_option maxHeartbeats 400000 in
theorem treeLeaf_any (s : ByteArray) (w : World) (hs : s.size < 288230376151711744) (ht : Table w) (hg : 2 < w.heap.size) :
    Calls Tryd.prog 58 #[.string s] w fun e w' => e = .returned (.string (leafS s)) ∧ Below w.heap.size w w' := by
  have hb : Below w.heap.size w (w.alloc (.cells #[.string ⟨#[0]⟩, .string s] 9)) := (Below.refl _ _).alloc (Nat.le_refl _) _
  have ht2 : Table (w.alloc (.cells #[.string ⟨#[0]⟩, .string s] 9)) := table_kept (Kept.of_below (b := w.heap.size) hb) hg (by omega) ht
  go_enter Tryd.func58, Tryd.ntmps58
  go_wp2_with fail
  refine (of_any _ [⟨#[0]⟩, s] _ (strs_two w _ _) ?_ ?_ ht2 (Nat.lt_of_lt_of_le hg hb.size)).mono ?_
  · have h1 : (⟨#[0]⟩ : ByteArray).size = 1 := rfl
    simp [flat, h1]; omega
  · simp
  rintro e w' ⟨h, rfl, hh, hb'⟩
  have HE : h = leafS s := shaS_of (by rw [hh]; simp [flat]; rfl)
  subst HE
  go_wp2_with fail
  go_ret
  exact ⟨rfl, hb.trans (hb'.mono hb.size)⟩

set_option maxHeartbeats 400000 in
theorem treeNode_any (a b : ByteArray) (w : World) (ha : a.size < 144115188075855872) (hbs : b.size < 144115188075855872) (ht : Table w) (hg : 2 < w.heap.size) :
    Calls Tryd.prog 59 #[.string a, .string b] w fun e w' => e = .returned (.string (nodeS a b)) ∧ Below w.heap.size w w' := by
  have hb : Below w.heap.size w (w.alloc (.cells #[.string ⟨#[1]⟩, .string a, .string b] 9)) := (Below.refl _ _).alloc (Nat.le_refl _) _
  have ht2 : Table (w.alloc (.cells #[.string ⟨#[1]⟩, .string a, .string b] 9)) := table_kept (Kept.of_below (b := w.heap.size) hb) hg (by omega) ht
  go_enter Tryd.func59, Tryd.ntmps59
  go_wp2_with fail
  refine (of_any _ [⟨#[1]⟩, a, b] _ (strs_three w _ _ _) ?_ ?_ ht2 (Nat.lt_of_lt_of_le hg hb.size)).mono ?_
  · have h1 : (⟨#[1]⟩ : ByteArray).size = 1 := rfl
    simp [flat, h1]; omega
  · simp
  rintro e w' ⟨h, rfl, hh, hb'⟩
  have HE : h = nodeS a b := shaS_of (by rw [hh]; simp [flat]; rfl)
  subst HE
  go_wp2_with fail
  go_ret
  exact ⟨rfl, hb.trans (hb'.mono hb.size)⟩

end Go.Proofs.YtlhohmlpcgbliaaDoor
