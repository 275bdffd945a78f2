import Derived.Test.YtlhohmlpcgbliabGreatDoorZE5
namespace Go.Proofs.YtlhohmlpcgbliabGreatDoor
set_option maxRecDepth 100000
open Go.RowKit
attribute [local go_sem ↓] Go.wp_at_zero Go.wp_at_succ

/-- Slot i of a sector is filled. -/
def putSlot (s : List Nat) (each i : Nat) (c : List Nat) : List Nat := s.take (i % each * (128 / each)) ++ (c ++ (List.replicate (128 / each - c.length) 0 ++ s.drop (i % each * (128 / each) + 128 / each)))
def fillS (each : Nat) : List Nat → Nat → List (List Nat) → List Nat
  | s, _, [] => s
  | s, i, c :: r => fillS each (putSlot s each i c) (i + 1) r
theorem fillS_snoc (each : Nat) (c : List Nat) (cs : List (List Nat)) : ∀ (s : List Nat) (i : Nat), fillS each s i (cs ++ [c]) = putSlot (fillS each s i cs) each (i + cs.length) c := by
  induction cs with
  | nil => intro s i; rfl
  | cons x r ih => intro s i; rw [List.cons_append, fillS, ih, fillS, List.length_cons, show i + 1 + r.length = i + (r.length + 1) by omega]
theorem putSlot_len {s : List Nat} {each i : Nat} {c : List Nat} (hs : s.length = 128) (he : each = 3 ∨ each = 4) (hc : c.length ≤ 128 / each) : (putSlot s each i c).length = 128 := by
  rcases he with rfl | rfl
  · simp [putSlot, hs] at *; omega
  · simp [putSlot, hs] at *; omega
theorem putSlot_sec {s : List Nat} {each i : Nat} {c : List Nat} (hs : Sec s) (he : each = 3 ∨ each = 4) (hc : c.length ≤ 128 / each) (hb : ∀ x ∈ c, x < 256) : Sec (putSlot s each i c) := by
  refine ⟨putSlot_len hs.len he hc, fun x hx => ?_⟩
  simp only [putSlot, List.mem_append] at hx
  rcases hx with h | h | h | h
  · exact hs.byt x (List.mem_of_mem_take h)
  · exact hb x h
  · rw [(List.mem_replicate.1 h).2]; omega
  · exact hs.byt x (List.mem_of_mem_drop h)
theorem fillS_sec {each : Nat} (he : each = 3 ∨ each = 4) (cs : List (List Nat)) : ∀ {s : List Nat} {i : Nat}, Sec s → (∀ c ∈ cs, c.length ≤ 128 / each ∧ ∀ x ∈ c, x < 256) → Sec (fillS each s i cs) := by
  induction cs with
  | nil => intro s i hs _; exact hs
  | cons c r ih =>
    intro s i hs h
    have h1 := h c (List.mem_cons_self ..)
    exact ih (putSlot_sec hs he h1.1 h1.2) (fun c hc => h c (List.mem_cons_of_mem _ hc))
/-- So many of the rest go into the sector of slot i. -/
def takes (each i n : Nat) : Nat := min n (each - i % each)
def wrF (start each : Nat) : Nat → Dk → Nat → List (List Nat) → Dk
  | 0, D, _, _ => D
  | f + 1, D, i, cs => if cs.length = 0 then D else
    wrF start each f (D.write (start + i / each) (fillS each (D.read (start + i / each)) i (cs.take (takes each i cs.length)))) (i + takes each i cs.length) (cs.drop (takes each i cs.length))
theorem wrF_nil (start each : Nat) (f : Nat) (D : Dk) (i : Nat) : wrF start each f D i [] = D := by
  cases f <;> rfl
def Dk.rowWrite (D : Dk) (start each i : Nat) (cs : List (List Nat)) : Dk := wrF start each cs.length D i cs

theorem put_slot3 {s : List Nat} (hs : s.length = 128) (each i : Nat) (he : each = 3 ∨ each = 4) (c : List Nat) (hc : c.length ≤ 128 / each) :
    setL (setL (u8s s) (i % each * (128 / each)) (u8s c)) (i % each * (128 / each) + c.length) (u8s (List.replicate (128 / each - c.length) 0)) = u8s (putSlot s each i c) := by
  have hb : i % each * (128 / each) + 128 / each ≤ 128 := by
    rcases he with rfl | rfl <;> omega
  have hz : 128 / each ≤ 128 := by rcases he with rfl | rfl <;> omega
  unfold putSlot
  generalize i % each * (128 / each) = o at *
  generalize 128 / each = z at *
  rw [setL_eq (u8s s) _ _ (by simp [hs]; omega)]
  rw [setL_eq _ _ _ (by simp [hs]; omega)]
  rw [← List.append_assoc ((u8s s).take o)]
  have hl : ((u8s s).take o ++ u8s c).length = o + c.length := by simp [hs]; omega
  rw [List.take_left' hl, List.drop_append, List.drop_eq_nil_of_le (by rw [hl]; omega), List.nil_append, hl, List.drop_drop, u8s_length, u8s_length, List.length_replicate]
  simp only [u8s_append, u8s_take, u8s_drop, List.append_assoc]
  congr 4
  omega
/-- A tail of a list of texts. -/
theorem slice_tl (w : World) (b o n c k : Nat) (hk : k ≤ n) (_hc : n ≤ c) : (Instr.sliceAt 22 (.slice (some ⟨b, o, none⟩) n c) (some (.int .i64 (k : Int))) none none).run Tryz.prog w = .ok (.slice (some ⟨b, if c = k then o else o + k, none⟩) (n - k) (c - k)) w := by
  rw [run_sliceAt_slice w 22 _ _ _ _ (by kernel_rfl), run_slice_l w 22 _ _ _ (by kernel_rfl) .i64 (k : Int) (by omega) (by omega)]
  by_cases h1 : c = k
  · simp [sliced, go_sem, h1]
  · simp [sliced, go_sem, Addr.add, h1]
theorem slice_tl8 (w : World) (b o n c k : Nat) (hk : k ≤ n) (_hc : n ≤ c) : (Instr.sliceAt 78 (.slice (some ⟨b, o, none⟩) n c) (some (.int .i64 (k : Int))) none none).run Tryz.prog w = .ok (.slice (some ⟨b, if c = k then o else o + k, none⟩) (n - k) (c - k)) w := by
  rw [run_sliceAt_slice w 78 _ _ _ _ (by kernel_rfl), run_slice_l w 78 _ _ _ (by kernel_rfl) .i64 (k : Int) (by omega) (by omega)]
  by_cases h1 : c = k
  · simp [sliced, go_sem, h1]
  · simp [sliced, go_sem, Addr.add, h1]
def sliceLen : Value → Nat
  | .slice _ n _ => n
  | _ => 0

set_option maxHeartbeats 4000000 in
theorem rowWrite3_any (b cb co cc start first : Nat) (fv : Value) (D : Dk) (ss : List ByteArray) (w : World) (h : DiskAt w b fv D) (hS : SA w cb co ss) (hcb : cb < w.heap.size) (hne : cb ≠ b) (hap : fv.ownBlock ≠ some cb) (hsz : ∀ s ∈ ss, s.size ≤ 42) (hcc : ss.length ≤ cc)
    (hst : start + (first + ss.length) / 3 < 200) (hfi : first + ss.length < 10000) (hfe : D.fre.length + ss.length < 1000000) :
    Calls Tryz.prog 125 #[rowV start 3, .pointer (some ⟨b, 0, none⟩), .int .i64 (first : Int), .slice (some ⟨cb, co, none⟩) ss.length cc] w fun e w' => e = .returned (.tuple #[]) ∧ ∃ fv', DiskAt w' b fv' (D.rowWrite start 3 first (ss.map bts)) ∧ Fr b fv.ownBlock fv'.ownBlock w w' := by
  have hb0 : Below w.heap.size w (w.alloc (.cells #[.int .i64 (start : Int), .int .i64 (3 : Int)] 129)) := (Below.refl _ _).alloc (Nat.le_refl _) _
  have hB0 : Blk (w.alloc (.cells #[.int .i64 (start : Int), .int .i64 (3 : Int)] 129)) w.heap.size 129 [.int .i64 (start : Int), .int .i64 (3 : Int)] := Blk.new w _ _
  have h1 := h.below hb0
  have r1 : Fr b fv.ownBlock fv.ownBlock w (w.alloc (.cells #[.int .i64 (start : Int), .int .i64 (3 : Int)] 129)) := Fr.of_below hb0
  have hS1 := hS.below hb0
  have hown := h.own_lt
  have hlt := h.lt
  have HW : Hid (D.rowWrite start 3 first (ss.map bts) = wrF start 3 ss.length D first (ss.map bts)) := by
    show _ = _
    unfold Dk.rowWrite
    rw [List.length_map]
  clear h hS
  show Calls Tryz.prog 125 #[.agg #[.int .i64 (start : Int), .int .i64 3], .pointer (some ⟨b, 0, none⟩), .int .i64 (first : Int), .slice (some ⟨cb, co, none⟩) ss.length cc] w _
  go_enter Tryz.func125, Tryz.ntmps125
  go_wp2_with fail
  have hs0 : w.heap.size < (w.alloc (.cells #[.int .i64 (start : Int), .int .i64 (3 : Int)] 129)).heap.size := by simp
  generalize w.alloc (.cells #[.int .i64 (start : Int), .int .i64 (3 : Int)] 129) = w0 at *
  go_loopw [2, 3] (fun u v wr => ∃ (f i o c : Nat) (rest : List ByteArray) (fv' : Value) (D' : Dk), rest.length ≤ f ∧ i + rest.length = first + ss.length ∧ rest.length ≤ c ∧ u = .int .i64 (i : Int) ∧ v = .slice (some ⟨cb, o, none⟩) rest.length c ∧ SA wr cb o rest ∧ DiskAt wr b fv' D' ∧ Fr b fv.ownBlock fv'.ownBlock w0 wr ∧ Blk wr w.heap.size 129 [.int .i64 (start : Int), .int .i64 (3 : Int)] ∧ D.rowWrite start 3 first (ss.map bts) = wrF start 3 f D' i (rest.map bts) ∧ (∀ s ∈ rest, s.size ≤ 42) ∧ D'.fre.length + rest.length < 1000000) (fun _ v _ => sliceLen v)
  case atStart => exact ⟨ss.length, first, co, cc, ss, fv, D, Nat.le_refl _, rfl, hcc, rfl, rfl, hS1, h1, Fr.refl _ _ _, hB0, HW.out, hsz, hfe⟩
  case round =>
    obtain ⟨f, i, o, c, rest, fv', D', hf, hir, hrc, rfl, rfl, hSr, hd, hr, hB, hw, hsr, hfr⟩ := hrel
    clear h1 hS1 hB0 HW
    have HW : Hid (D.rowWrite start 3 first (ss.map bts) = wrF start 3 f D' i (rest.map bts)) := hw
    clear hw
    by_cases h0 : rest.length = 0
    · have hnil : rest = [] := List.eq_nil_of_length_eq_zero h0
      subst hnil
      go_wp2
      go_end0
      exact ⟨rfl, fv', by rw [HW.out, List.map_nil, wrF_nil]; exact hd, r1.trans hr⟩
    · have hr0 := hB.cell 0
      have hr1 := hB.cell 1
      simp only [List.getElem?_cons_succ, List.getElem?_cons_zero] at hr0 hr1
      have h0' : 0 < rest.length := by omega
      have hi9 : i < 10000 := by omega
      have hst9 : start < 200 := by omega
      go_wp2_with fail
      go_quiet (fail)
      have hd1 := hd.drewN nq
      have hr1' := hr.drewN nq
      have hB1 := hB.drewN nq
      have hS1 : SA (wr.drewN nq) cb o rest := hSr
      clear hd hr hB hSr hr0 hr1
      have hat : start + i / 3 < 200 := by omega
      have hread : Calls Tryz.prog 113 #[.pointer (some ⟨b, 0, none⟩), .int .i64 ((start : Int) + (i : Int) / 3)] (wr.drewN nq) fun e w' => e = .returned (.agg (u8s (D'.read (start + i / 3))).toArray) ∧ Below (wr.drewN nq).heap.size (wr.drewN nq) w' := by
        have := read_any b fv' D' (start + i / 3) (wr.drewN nq) hd1 hat
        rw [Int.natCast_add, Int.natCast_ediv] at this
        exact this
      have hsec := hd1.ok.read hat
      have HF : Hid (wrF start 3 f D' i (rest.map bts) = wrF start 3 (f - 1) (D'.write (start + i / 3) (fillS 3 (D'.read (start + i / 3)) i ((rest.map bts).take (takes 3 i rest.length)))) (i + takes 3 i rest.length) ((rest.map bts).drop (takes 3 i rest.length))) := by
        show _ = _
        obtain ⟨g, rfl⟩ : ∃ g, f = g + 1 := ⟨f - 1, by omega⟩
        rw [wrF, if_neg (by simpa using h0), List.length_map, Nat.add_sub_cancel]
      generalize hqs : D'.read (start + i / 3) = s at *
      clear hqs
      have hsl := hsec.len
      have hz : Tryz.zeroCells89.toList.length = 128 := by rw [zeroSec]; simp
      generalize wr.drewN nq = w1 at *
      go_wp2_with fail
      refine hread.mono ?_
      rintro e w2 ⟨rfl, hb2⟩
      clear hread
      have hbb : Below w1.heap.size w1 (w2.alloc (.cells Tryz.zeroCells89 89)) := hb2.alloc hb2.size _
      have hL := Blk.newA w2 89 Tryz.zeroCells89
      have hL3 := hL.fill (u8s s) (by simp [hsl, hz])
      have hb3 := Below.setCells hbb w2.heap.size 0 hb2.size (u8s s)
      have hth := hL.there 0 128 (by omega)
      have hlb := hb2.size
      go_wp2_with (first | ((with_reducible refine stSec ?_ (.tmp 9) (.tmp 26) ?_ w2.heap.size 0 s ?_ ?_ hth hsl ?_); rfl; rfl; rfl; rfl))
      generalize (w2.alloc (.cells Tryz.zeroCells89 89)).setCells w2.heap.size 0 (u8s s) = w3 at *
      clear hbb hL hth hb2 hz
      generalize w2.heap.size = lb at *
      have hB3 := hB1.below hb3 hB1.lt
      have hr0 := hB3.cell 0
      have hr1 := hB3.cell 1
      simp only [List.getElem?_cons_succ, List.getElem?_cons_zero] at hr0 hr1
      go_quiet (fail)
      have e10 : min (rest.length : Int) (IntKind.i64.wrap (3 - (i : Int).tmod 3)) = ((takes 3 i rest.length : Nat) : Int) := by
        rw [Int.tmod_eq_emod_of_nonneg (by omega), IntWalk.i64_in _ ⟨by omega, by omega⟩]
        unfold takes
        omega
      rw [e10]
      clear e10
      have ht0 : 0 < takes 3 i rest.length := by unfold takes; omega
      have ht1 : takes 3 i rest.length ≤ rest.length := by unfold takes; omega
      generalize takes 3 i rest.length = t at *
      have hsh := fun wx => slice_h wx cb o rest.length c t (by omega)
      have hL4 := hL3.drewN nq
      have hb4 := Below.drewN' hb3 nq
      generalize w3.drewN nq = w4 at *
      clear hr0 hr1 hB3 hL3 hb3
      go_wp2_with fail
      go_loopw [41] (fun v wq => ∃ j : Nat, j ≤ t ∧ v = .int .i64 (j : Int) ∧ Blk wq lb 89 (u8s (fillS 3 s i ((rest.map bts).take j))) ∧ Below w1.heap.size w1 wq) (fun v _ => t - (intOf v).toNat)
      case atStart => exact ⟨0, by omega, rfl, hL4, hb4⟩
      case round =>
        obtain ⟨j, hj, rfl, hL, hb⟩ := hrel
        clear hL4 hb4 hsh
        have hBq := hB1.below hb hB1.lt
        have hr0 := hBq.cell 0
        have hr1 := hBq.cell 1
        simp only [List.getElem?_cons_succ, List.getElem?_cons_zero] at hr0 hr1
        by_cases h8 : j < t
        · obtain ⟨x, hx⟩ : ∃ x, rest[j]? = some x := ⟨_, List.getElem?_eq_getElem (by omega)⟩
          have hcx := hS1 j x hx
          have hcx' : wr.cell? ⟨cb, o + j, none⟩ = some (.string x) := by
            rw [hb.cell (World.block_lt_of_cell? _ _ hcx)]; exact hcx
          clear hcx
          have hxz : x.size ≤ 42 := hsr x (List.mem_of_getElem? hx)
          have hslot : Calls Tryz.prog 114 #[.agg #[.int .i64 (start : Int), .int .i64 3], .pointer (some ⟨lb, 0, none⟩), .int .i64 ((i : Int) + (j : Int))] wr fun e w' => e = .returned (.slice (some ⟨lb, (i + j) % 3 * (128 / 3), none⟩) (128 / 3) (128 - (i + j) % 3 * (128 / 3))) ∧ Below wr.heap.size wr w' := by
            have := slot_any start 3 lb (i + j) wr (by omega) (by omega)
            unfold rowV at this
            rw [Int.natCast_add] at this
            exact this
          have HN : Hid (fillS 3 s i ((rest.map bts).take (j + 1)) = putSlot (fillS 3 s i ((rest.map bts).take j)) 3 (i + j) (bts x)) := by
            show _ = _
            have hjl : j < (rest.map bts).length := by rw [List.length_map]; omega
            have hxe : (rest.map bts)[j] = bts x := by
              rw [List.getElem_map]
              rw [(List.getElem?_eq_some_iff.1 hx).2]
            rw [List.take_succ_eq_append_getElem hjl, hxe, fillS_snoc, List.length_take, Nat.min_eq_left (by omega)]
          have hS9 : (fillS 3 s i ((rest.map bts).take j)).length = 128 := by
            refine (fillS_sec (by omega) _ hsec ?_).len
            intro c hc
            obtain ⟨y, hy, rfl⟩ := List.mem_map.1 (List.mem_of_mem_take hc)
            exact ⟨by rw [bts_length]; exact hsr y hy, bts_byte y⟩
          generalize fillS 3 s i ((rest.map bts).take j) = sj at *
          clear hx
          have hltL := hL.lt
          go_wp2_with fail
          refine hslot.mono ?_
          rintro e w5 ⟨rfl, hb5⟩
          clear hslot
          have hL5 := hL.below hb5 hltL
          have hbw := hb.trans (hb5.mono hb.size)
          have hp := put_slot3 hS9 3 (i + j) (by omega) (bts x) (by rw [bts_length]; exact hxz)
          rw [bts_length] at hp
          have HP : Hid (setL (setL (u8s sj) ((i + j) % 3 * (128 / 3)) (u8s (bts x))) ((i + j) % 3 * (128 / 3) + x.size) (u8s (List.replicate (128 / 3 - x.size) 0)) = u8s (putSlot sj 3 (i + j) (bts x))) := hp
          clear hp
          have hof : (i + j) % 3 * (128 / 3) + 42 ≤ 128 := by omega
          have e42 : 128 / 3 = 42 := by decide
          rw [e42] at *
          generalize (i + j) % 3 * 42 = off at *
          have hcp := fun ty => run_copy_string w5 lb off 42 (128 - off) x ty x.size (by rw [Nat.min_eq_left hxz]) (hL5.there off x.size (by rw [u8s_length, hS9]; omega))
          rw [List.take_of_length_le (by simp)] at hcp
          have hL6 := hL5.setCells off (u8s (bts x))
          have hb6 := Below.setCells hbw lb off (by omega) (u8s (bts x))
          generalize w5.setCells lb off (u8s (bts x)) = w6 at *
          have hsl2 := slice_tl8 w6 lb off 42 (128 - off) x.size hxz (by omega)
          have ho2 : x.size < 42 → (if 128 - off = x.size then off else off + x.size) = off + x.size := fun h => by rw [if_neg (by omega)]
          generalize (if 128 - off = x.size then off else off + x.size) = o2 at *
          by_cases hxe : x.size = 42
          · have hclr := fun ty oo cc => run_clear0 w6 lb oo cc ty
            have HP' := HP.out
            rw [hxe, Nat.sub_self] at hsl2 HP'
            have hL7 := hL6.eq HP'
            have hmj : t - (j + 1) < t - j := by omega
            rw [hxe] at hcp
            go_wp2
            all_goals exact ⟨⟨j + 1, h8, by go_num, by rw [HN.out]; exact hL7, hb6⟩, by simpa [intOf] using hmj⟩
          · have ho3 := ho2 (by omega)
            subst ho3
            have hclr := fun ty => run_clear w6 lb (off + x.size) (42 - x.size) (128 - off - x.size) ty (by omega) (hL6.there (off + x.size) (42 - x.size) (by rw [setL_eq _ _ _ (by simp [hS9]; omega)]; simp [hS9]; omega))
            have hL7 := (hL6.setCells (off + x.size) (u8s (List.replicate (42 - x.size) 0))).eq HP.out
            have hb7 := Below.setCells hb6 lb (off + x.size) (by omega) (u8s (List.replicate (42 - x.size) 0))
            have hmj : t - (j + 1) < t - j := by omega
            go_wp2
            exact ⟨⟨j + 1, h8, by go_num, by rw [HN.out]; exact hL7, hb7⟩, by simpa [intOf] using hmj⟩
        · have hjt : j = t := by omega
          subst hjt
          have hS9 : Sec (fillS 3 s i ((rest.map bts).take j)) := by
            refine fillS_sec (by omega) _ hsec ?_
            intro c hc
            obtain ⟨y, hy, rfl⟩ := List.mem_map.1 (List.mem_of_mem_take hc)
            exact ⟨by rw [bts_length]; exact hsr y hy, bts_byte y⟩
          have hd5 := hd1.below hb
          have hwr : Calls Tryz.prog 85 #[.pointer (some ⟨b, 0, none⟩), .int .i64 ((start : Int) + (i : Int) / 3), .agg (u8s (fillS 3 s i ((rest.map bts).take j))).toArray] wr fun e w' => e = .returned (.tuple #[]) ∧ ∃ fv2, DiskAt w' b fv2 (D'.write (start + i / 3) (fillS 3 s i ((rest.map bts).take j))) ∧ Fr b fv'.ownBlock fv2.ownBlock wr w' := by
            have := write_any b fv' D' (start + i / 3) (fillS 3 s i ((rest.map bts).take j)) wr hd5 hat hS9 (by omega)
            rw [Int.natCast_add, Int.natCast_ediv] at this
            exact this
          have hwl := Dk.write_len D' (start + i / 3) (fillS 3 s i ((rest.map bts).take j))
          have hrg := hL.range
          have hS9l := hS9.len
          generalize fillS 3 s i ((rest.map bts).take j) = sj at *
          go_wp2_with (first | ((with_reducible refine ldSec ?_ (.tmp 9) ?_ lb 0 ?_ sj hrg hS9l ?_); rfl; rfl; rfl))
          refine hwr.mono ?_
          rintro e w6 ⟨rfl, fv2, hd6, r6⟩
          have hrr := (hr1'.trans (Fr.of_below hb)).trans r6
          have hapq : fv'.ownBlock ≠ some cb := hr1'.apart (by omega) hap
          have hapr : fv'.ownBlock ≠ some w.heap.size := hr1'.apart hs0 hown
          have hB6 := r6.blk hBq (by omega) hapr
          have hsz6 := hr1'.size
          have hS6 : SA w6 cb o rest := fun k y hy => by
            have hc := hS1 k y hy
            have hc2 : wr.cell? ⟨cb, o + k, none⟩ = some (.string y) := by
              rw [hb.cell (World.block_lt_of_cell? _ _ hc)]; exact hc
            rw [World.cell?_of_block (r6.block cb (by have := hb.size; omega) hne hapq)]
            exact hc2
          have hs7 := fun wx => slice_tl wx cb o rest.length c j ht1 hrc
          have ho7 : j < rest.length → (if c = j then o else o + j) = o + j := fun h => by rw [if_neg (by omega)]
          generalize (if c = j then o else o + j) = o7 at *
          have hS7 : SA w6 cb o7 (rest.drop j) := by
            by_cases hjr : j < rest.length
            · rw [ho7 hjr]; exact hS6.drop j
            · rw [List.drop_eq_nil_of_le (by omega)]
              intro k y hy
              simp at hy
          have hmj : rest.length - j < rest.length := by omega
          go_wp2_with fail
          go_quiet (fail)
          have hd8 := hd6.drewN nq
          have hr8 := hrr.drewN nq
          have hB8 := hB6.drewN nq
          have hS8 : SA (w6.drewN nq) cb o7 (rest.drop j) := hS7
          generalize w6.drewN nq = w8 at *
          go_wp2
          go_roundw
          case rel => exact ⟨f - 1, i + j, o7, c - j, rest.drop j, fv2, _, by rw [List.length_drop]; omega, by rw [List.length_drop]; omega, by rw [List.length_drop]; omega, by go_num, by rw [List.length_drop], hS8, hd8, hr8, hB8, by rw [HW.out, HF.out, ← List.map_drop], fun y hy => hsr y (List.mem_of_mem_drop hy), by rw [List.length_drop]; omega⟩
          case measure => simpa [sliceLen] using hmj

set_option maxHeartbeats 4000000 in
theorem rowWrite4_any (b cb co cc start first : Nat) (fv : Value) (D : Dk) (ss : List ByteArray) (w : World) (h : DiskAt w b fv D) (hS : SA w cb co ss) (hcb : cb < w.heap.size) (hne : cb ≠ b) (hap : fv.ownBlock ≠ some cb) (hsz : ∀ s ∈ ss, s.size ≤ 32) (hcc : ss.length ≤ cc)
    (hst : start + (first + ss.length) / 4 < 200) (hfi : first + ss.length < 10000) (hfe : D.fre.length + ss.length < 1000000) :
    Calls Tryz.prog 125 #[rowV start 4, .pointer (some ⟨b, 0, none⟩), .int .i64 (first : Int), .slice (some ⟨cb, co, none⟩) ss.length cc] w fun e w' => e = .returned (.tuple #[]) ∧ ∃ fv', DiskAt w' b fv' (D.rowWrite start 4 first (ss.map bts)) ∧ Fr b fv.ownBlock fv'.ownBlock w w' := by
  have hb0 : Below w.heap.size w (w.alloc (.cells #[.int .i64 (start : Int), .int .i64 (4 : Int)] 129)) := (Below.refl _ _).alloc (Nat.le_refl _) _
  have hB0 : Blk (w.alloc (.cells #[.int .i64 (start : Int), .int .i64 (4 : Int)] 129)) w.heap.size 129 [.int .i64 (start : Int), .int .i64 (4 : Int)] := Blk.new w _ _
  have h1 := h.below hb0
  have r1 : Fr b fv.ownBlock fv.ownBlock w (w.alloc (.cells #[.int .i64 (start : Int), .int .i64 (4 : Int)] 129)) := Fr.of_below hb0
  have hS1 := hS.below hb0
  have hown := h.own_lt
  have hlt := h.lt
  have HW : Hid (D.rowWrite start 4 first (ss.map bts) = wrF start 4 ss.length D first (ss.map bts)) := by
    show _ = _
    unfold Dk.rowWrite
    rw [List.length_map]
  clear h hS
  show Calls Tryz.prog 125 #[.agg #[.int .i64 (start : Int), .int .i64 4], .pointer (some ⟨b, 0, none⟩), .int .i64 (first : Int), .slice (some ⟨cb, co, none⟩) ss.length cc] w _
  go_enter Tryz.func125, Tryz.ntmps125
  go_wp2_with fail
  have hs0 : w.heap.size < (w.alloc (.cells #[.int .i64 (start : Int), .int .i64 (4 : Int)] 129)).heap.size := by simp
  generalize w.alloc (.cells #[.int .i64 (start : Int), .int .i64 (4 : Int)] 129) = w0 at *
  go_loopw [2, 3] (fun u v wr => ∃ (f i o c : Nat) (rest : List ByteArray) (fv' : Value) (D' : Dk), rest.length ≤ f ∧ i + rest.length = first + ss.length ∧ rest.length ≤ c ∧ u = .int .i64 (i : Int) ∧ v = .slice (some ⟨cb, o, none⟩) rest.length c ∧ SA wr cb o rest ∧ DiskAt wr b fv' D' ∧ Fr b fv.ownBlock fv'.ownBlock w0 wr ∧ Blk wr w.heap.size 129 [.int .i64 (start : Int), .int .i64 (4 : Int)] ∧ D.rowWrite start 4 first (ss.map bts) = wrF start 4 f D' i (rest.map bts) ∧ (∀ s ∈ rest, s.size ≤ 32) ∧ D'.fre.length + rest.length < 1000000) (fun _ v _ => sliceLen v)
  case atStart => exact ⟨ss.length, first, co, cc, ss, fv, D, Nat.le_refl _, rfl, hcc, rfl, rfl, hS1, h1, Fr.refl _ _ _, hB0, HW.out, hsz, hfe⟩
  case round =>
    obtain ⟨f, i, o, c, rest, fv', D', hf, hir, hrc, rfl, rfl, hSr, hd, hr, hB, hw, hsr, hfr⟩ := hrel
    clear h1 hS1 hB0 HW
    have HW : Hid (D.rowWrite start 4 first (ss.map bts) = wrF start 4 f D' i (rest.map bts)) := hw
    clear hw
    by_cases h0 : rest.length = 0
    · have hnil : rest = [] := List.eq_nil_of_length_eq_zero h0
      subst hnil
      go_wp2
      go_end0
      exact ⟨rfl, fv', by rw [HW.out, List.map_nil, wrF_nil]; exact hd, r1.trans hr⟩
    · have hr0 := hB.cell 0
      have hr1 := hB.cell 1
      simp only [List.getElem?_cons_succ, List.getElem?_cons_zero] at hr0 hr1
      have h0' : 0 < rest.length := by omega
      have hi9 : i < 10000 := by omega
      have hst9 : start < 200 := by omega
      go_wp2_with fail
      go_quiet (fail)
      have hd1 := hd.drewN nq
      have hr1' := hr.drewN nq
      have hB1 := hB.drewN nq
      have hS1 : SA (wr.drewN nq) cb o rest := hSr
      clear hd hr hB hSr hr0 hr1
      have hat : start + i / 4 < 200 := by omega
      have hread : Calls Tryz.prog 113 #[.pointer (some ⟨b, 0, none⟩), .int .i64 ((start : Int) + (i : Int) / 4)] (wr.drewN nq) fun e w' => e = .returned (.agg (u8s (D'.read (start + i / 4))).toArray) ∧ Below (wr.drewN nq).heap.size (wr.drewN nq) w' := by
        have := read_any b fv' D' (start + i / 4) (wr.drewN nq) hd1 hat
        rw [Int.natCast_add, Int.natCast_ediv] at this
        exact this
      have hsec := hd1.ok.read hat
      have HF : Hid (wrF start 4 f D' i (rest.map bts) = wrF start 4 (f - 1) (D'.write (start + i / 4) (fillS 4 (D'.read (start + i / 4)) i ((rest.map bts).take (takes 4 i rest.length)))) (i + takes 4 i rest.length) ((rest.map bts).drop (takes 4 i rest.length))) := by
        show _ = _
        obtain ⟨g, rfl⟩ : ∃ g, f = g + 1 := ⟨f - 1, by omega⟩
        rw [wrF, if_neg (by simpa using h0), List.length_map, Nat.add_sub_cancel]
      generalize hqs : D'.read (start + i / 4) = s at *
      clear hqs
      have hsl := hsec.len
      have hz : Tryz.zeroCells89.toList.length = 128 := by rw [zeroSec]; simp
      generalize wr.drewN nq = w1 at *
      go_wp2_with fail
      refine hread.mono ?_
      rintro e w2 ⟨rfl, hb2⟩
      clear hread
      have hbb : Below w1.heap.size w1 (w2.alloc (.cells Tryz.zeroCells89 89)) := hb2.alloc hb2.size _
      have hL := Blk.newA w2 89 Tryz.zeroCells89
      have hL3 := hL.fill (u8s s) (by simp [hsl, hz])
      have hb3 := Below.setCells hbb w2.heap.size 0 hb2.size (u8s s)
      have hth := hL.there 0 128 (by omega)
      have hlb := hb2.size
      go_wp2_with (first | ((with_reducible refine stSec ?_ (.tmp 9) (.tmp 26) ?_ w2.heap.size 0 s ?_ ?_ hth hsl ?_); rfl; rfl; rfl; rfl))
      generalize (w2.alloc (.cells Tryz.zeroCells89 89)).setCells w2.heap.size 0 (u8s s) = w3 at *
      clear hbb hL hth hb2 hz
      generalize w2.heap.size = lb at *
      have hB3 := hB1.below hb3 hB1.lt
      have hr0 := hB3.cell 0
      have hr1 := hB3.cell 1
      simp only [List.getElem?_cons_succ, List.getElem?_cons_zero] at hr0 hr1
      go_quiet (fail)
      have e10 : min (rest.length : Int) (IntKind.i64.wrap (4 - (i : Int).tmod 4)) = ((takes 4 i rest.length : Nat) : Int) := by
        rw [Int.tmod_eq_emod_of_nonneg (by omega), IntWalk.i64_in _ ⟨by omega, by omega⟩]
        unfold takes
        omega
      rw [e10]
      clear e10
      have ht0 : 0 < takes 4 i rest.length := by unfold takes; omega
      have ht1 : takes 4 i rest.length ≤ rest.length := by unfold takes; omega
      generalize takes 4 i rest.length = t at *
      have hsh := fun wx => slice_h wx cb o rest.length c t (by omega)
      have hL4 := hL3.drewN nq
      have hb4 := Below.drewN' hb3 nq
      generalize w3.drewN nq = w4 at *
      clear hr0 hr1 hB3 hL3 hb3
      go_wp2_with fail
      go_loopw [41] (fun v wq => ∃ j : Nat, j ≤ t ∧ v = .int .i64 (j : Int) ∧ Blk wq lb 89 (u8s (fillS 4 s i ((rest.map bts).take j))) ∧ Below w1.heap.size w1 wq) (fun v _ => t - (intOf v).toNat)
      case atStart => exact ⟨0, by omega, rfl, hL4, hb4⟩
      case round =>
        obtain ⟨j, hj, rfl, hL, hb⟩ := hrel
        clear hL4 hb4 hsh
        have hBq := hB1.below hb hB1.lt
        have hr0 := hBq.cell 0
        have hr1 := hBq.cell 1
        simp only [List.getElem?_cons_succ, List.getElem?_cons_zero] at hr0 hr1
        by_cases h8 : j < t
        · obtain ⟨x, hx⟩ : ∃ x, rest[j]? = some x := ⟨_, List.getElem?_eq_getElem (by omega)⟩
          have hcx := hS1 j x hx
          have hcx' : wr.cell? ⟨cb, o + j, none⟩ = some (.string x) := by
            rw [hb.cell (World.block_lt_of_cell? _ _ hcx)]; exact hcx
          clear hcx
          have hxz : x.size ≤ 32 := hsr x (List.mem_of_getElem? hx)
          have hslot : Calls Tryz.prog 114 #[.agg #[.int .i64 (start : Int), .int .i64 4], .pointer (some ⟨lb, 0, none⟩), .int .i64 ((i : Int) + (j : Int))] wr fun e w' => e = .returned (.slice (some ⟨lb, (i + j) % 4 * (128 / 4), none⟩) (128 / 4) (128 - (i + j) % 4 * (128 / 4))) ∧ Below wr.heap.size wr w' := by
            have := slot_any start 4 lb (i + j) wr (by omega) (by omega)
            unfold rowV at this
            rw [Int.natCast_add] at this
            exact this
          have HN : Hid (fillS 4 s i ((rest.map bts).take (j + 1)) = putSlot (fillS 4 s i ((rest.map bts).take j)) 4 (i + j) (bts x)) := by
            show _ = _
            have hjl : j < (rest.map bts).length := by rw [List.length_map]; omega
            have hxe : (rest.map bts)[j] = bts x := by
              rw [List.getElem_map]
              rw [(List.getElem?_eq_some_iff.1 hx).2]
            rw [List.take_succ_eq_append_getElem hjl, hxe, fillS_snoc, List.length_take, Nat.min_eq_left (by omega)]
          have hS9 : (fillS 4 s i ((rest.map bts).take j)).length = 128 := by
            refine (fillS_sec (by omega) _ hsec ?_).len
            intro c hc
            obtain ⟨y, hy, rfl⟩ := List.mem_map.1 (List.mem_of_mem_take hc)
            exact ⟨by rw [bts_length]; exact hsr y hy, bts_byte y⟩
          generalize fillS 4 s i ((rest.map bts).take j) = sj at *
          clear hx
          have hltL := hL.lt
          go_wp2_with fail
          refine hslot.mono ?_
          rintro e w5 ⟨rfl, hb5⟩
          clear hslot
          have hL5 := hL.below hb5 hltL
          have hbw := hb.trans (hb5.mono hb.size)
          have hp := put_slot3 hS9 4 (i + j) (by omega) (bts x) (by rw [bts_length]; exact hxz)
          rw [bts_length] at hp
          have HP : Hid (setL (setL (u8s sj) ((i + j) % 4 * (128 / 4)) (u8s (bts x))) ((i + j) % 4 * (128 / 4) + x.size) (u8s (List.replicate (128 / 4 - x.size) 0)) = u8s (putSlot sj 4 (i + j) (bts x))) := hp
          clear hp
          have hof : (i + j) % 4 * (128 / 4) + 32 ≤ 128 := by omega
          have e42 : 128 / 4 = 32 := by decide
          rw [e42] at *
          generalize (i + j) % 4 * 32 = off at *
          have hcp := fun ty => run_copy_string w5 lb off 32 (128 - off) x ty x.size (by rw [Nat.min_eq_left hxz]) (hL5.there off x.size (by rw [u8s_length, hS9]; omega))
          rw [List.take_of_length_le (by simp)] at hcp
          have hL6 := hL5.setCells off (u8s (bts x))
          have hb6 := Below.setCells hbw lb off (by omega) (u8s (bts x))
          generalize w5.setCells lb off (u8s (bts x)) = w6 at *
          have hsl2 := slice_tl8 w6 lb off 32 (128 - off) x.size hxz (by omega)
          have ho2 : x.size < 32 → (if 128 - off = x.size then off else off + x.size) = off + x.size := fun h => by rw [if_neg (by omega)]
          generalize (if 128 - off = x.size then off else off + x.size) = o2 at *
          by_cases hxe : x.size = 32
          · have hclr := fun ty oo cc => run_clear0 w6 lb oo cc ty
            have HP' := HP.out
            rw [hxe, Nat.sub_self] at hsl2 HP'
            have hL7 := hL6.eq HP'
            have hmj : t - (j + 1) < t - j := by omega
            rw [hxe] at hcp
            go_wp2
            all_goals exact ⟨⟨j + 1, h8, by go_num, by rw [HN.out]; exact hL7, hb6⟩, by simpa [intOf] using hmj⟩
          · have ho3 := ho2 (by omega)
            subst ho3
            have hclr := fun ty => run_clear w6 lb (off + x.size) (32 - x.size) (128 - off - x.size) ty (by omega) (hL6.there (off + x.size) (32 - x.size) (by rw [setL_eq _ _ _ (by simp [hS9]; omega)]; simp [hS9]; omega))
            have hL7 := (hL6.setCells (off + x.size) (u8s (List.replicate (32 - x.size) 0))).eq HP.out
            have hb7 := Below.setCells hb6 lb (off + x.size) (by omega) (u8s (List.replicate (32 - x.size) 0))
            have hmj : t - (j + 1) < t - j := by omega
            go_wp2
            exact ⟨⟨j + 1, h8, by go_num, by rw [HN.out]; exact hL7, hb7⟩, by simpa [intOf] using hmj⟩
        · have hjt : j = t := by omega
          subst hjt
          have hS9 : Sec (fillS 4 s i ((rest.map bts).take j)) := by
            refine fillS_sec (by omega) _ hsec ?_
            intro c hc
            obtain ⟨y, hy, rfl⟩ := List.mem_map.1 (List.mem_of_mem_take hc)
            exact ⟨by rw [bts_length]; exact hsr y hy, bts_byte y⟩
          have hd5 := hd1.below hb
          have hwr : Calls Tryz.prog 85 #[.pointer (some ⟨b, 0, none⟩), .int .i64 ((start : Int) + (i : Int) / 4), .agg (u8s (fillS 4 s i ((rest.map bts).take j))).toArray] wr fun e w' => e = .returned (.tuple #[]) ∧ ∃ fv2, DiskAt w' b fv2 (D'.write (start + i / 4) (fillS 4 s i ((rest.map bts).take j))) ∧ Fr b fv'.ownBlock fv2.ownBlock wr w' := by
            have := write_any b fv' D' (start + i / 4) (fillS 4 s i ((rest.map bts).take j)) wr hd5 hat hS9 (by omega)
            rw [Int.natCast_add, Int.natCast_ediv] at this
            exact this
          have hwl := Dk.write_len D' (start + i / 4) (fillS 4 s i ((rest.map bts).take j))
          have hrg := hL.range
          have hS9l := hS9.len
          generalize fillS 4 s i ((rest.map bts).take j) = sj at *
          go_wp2_with (first | ((with_reducible refine ldSec ?_ (.tmp 9) ?_ lb 0 ?_ sj hrg hS9l ?_); rfl; rfl; rfl))
          refine hwr.mono ?_
          rintro e w6 ⟨rfl, fv2, hd6, r6⟩
          have hrr := (hr1'.trans (Fr.of_below hb)).trans r6
          have hapq : fv'.ownBlock ≠ some cb := hr1'.apart (by omega) hap
          have hapr : fv'.ownBlock ≠ some w.heap.size := hr1'.apart hs0 hown
          have hB6 := r6.blk hBq (by omega) hapr
          have hsz6 := hr1'.size
          have hS6 : SA w6 cb o rest := fun k y hy => by
            have hc := hS1 k y hy
            have hc2 : wr.cell? ⟨cb, o + k, none⟩ = some (.string y) := by
              rw [hb.cell (World.block_lt_of_cell? _ _ hc)]; exact hc
            rw [World.cell?_of_block (r6.block cb (by have := hb.size; omega) hne hapq)]
            exact hc2
          have hs7 := fun wx => slice_tl wx cb o rest.length c j ht1 hrc
          have ho7 : j < rest.length → (if c = j then o else o + j) = o + j := fun h => by rw [if_neg (by omega)]
          generalize (if c = j then o else o + j) = o7 at *
          have hS7 : SA w6 cb o7 (rest.drop j) := by
            by_cases hjr : j < rest.length
            · rw [ho7 hjr]; exact hS6.drop j
            · rw [List.drop_eq_nil_of_le (by omega)]
              intro k y hy
              simp at hy
          have hmj : rest.length - j < rest.length := by omega
          go_wp2_with fail
          go_quiet (fail)
          have hd8 := hd6.drewN nq
          have hr8 := hrr.drewN nq
          have hB8 := hB6.drewN nq
          have hS8 : SA (w6.drewN nq) cb o7 (rest.drop j) := hS7
          generalize w6.drewN nq = w8 at *
          go_wp2
          go_roundw
          case rel => exact ⟨f - 1, i + j, o7, c - j, rest.drop j, fv2, _, by rw [List.length_drop]; omega, by rw [List.length_drop]; omega, by rw [List.length_drop]; omega, by go_num, by rw [List.length_drop], hS8, hd8, hr8, hB8, by rw [HW.out, HF.out, ← List.map_drop], fun y hy => hsr y (List.mem_of_mem_drop hy), by rw [List.length_drop]; omega⟩
          case measure => simpa [sliceLen] using hmj
end Go.Proofs.YtlhohmlpcgbliabGreatDoor
namespace Go.Proofs.YtlhohmlpcgbliabGreatDoor
open Go.RowKit
attribute [local go_sem ↓] Go.wp_at_zero Go.wp_at_succ

/-- What hash i of a level must be, by what lies below. -/
def Dk.hashB (D : Dk) : Nat → Nat → ByteArray
  | 0, i => leafS (strOf ((unpL (D.slot 6 3 i)).getD []))
  | l + 1, i => mth ((List.range 4).map fun j => strOf (D.slot (tileAt l).1 4 (4 * i + j)))
def Dk.hashF (D : Dk) : Nat → Nat → Bool
  | 0, i => (unpL (D.slot 6 3 i)).isSome
  | _ + 1, _ => true
theorem slot_len {D : Dk} (h : D.ok) {start each i : Nat} (he : each = 3 ∨ each = 4) (hi : start + i / each < 200) : (D.slot start each i).length = 128 / each := slotL_length i (h.read hi).len he
theorem slot_byt {D : Dk} (h : D.ok) {start each i : Nat} (hi : start + i / each < 200) : ∀ x ∈ D.slot start each i, x < 256 := fun x hx => (h.read hi).byt x (List.mem_of_mem_drop (List.mem_of_mem_take hx))
theorem strOf_le {l : List Nat} (h : ∀ x ∈ l, x < 256) {n : Nat} (hl : l.length ≤ n) : (strOf l).size ≤ n := by rw [strOf_size h]; exact hl
theorem unpL_len {l : List Nat} : ((unpL l).getD []).length ≤ 40 := by
  unfold unpL
  split
  · simp only [Option.getD_some, List.length_take, List.length_drop]; omega
  · simp
theorem unpL_byt {l : List Nat} (h : ∀ x ∈ l, x < 256) : ∀ x ∈ (unpL l).getD [], x < 256 := by
  unfold unpL
  split
  · intro x hx; exact h x (List.mem_of_mem_drop (List.mem_of_mem_take hx))
  · intro x hx; simp at hx

set_option maxHeartbeats 1000000 in
theorem hashBelow0_any (b i : Nat) (fv : Value) (D : Dk) (w : World) (h : DiskAt w b fv D) (hi : i < 100) (ht : Table w) (hg : 2 < w.heap.size) :
    Calls Tryz.prog 134 #[.pointer (some ⟨b, 0, none⟩), .int .i64 0, .int .i64 (i : Int)] w fun e w' => e = .returned (.tuple #[.string (D.hashB 0 i), .bool (D.hashF 0 i)]) ∧ Below w.heap.size w w' := by
  have hsl := slot_len h.ok (start := 6) (each := 3) (i := i) (by omega) (by omega)
  have hsb := slot_byt h.ok (start := 6) (each := 3) (i := i) (by omega)
  have hul := unpL_len (l := D.slot 6 3 i)
  have hub := unpL_byt hsb
  have hus := strOf_le hub hul
  have HN : Hid (D.hashB 0 i = leafS (strOf ((unpL (D.slot 6 3 i)).getD [])) ∧ D.hashF 0 i = (unpL (D.slot 6 3 i)).isSome) := ⟨rfl, rfl⟩
  have hbu := bundles_any w
  go_enter Tryz.func134, Tryz.ntmps134
  go_wp2_with fail
  refine hbu.mono ?_
  rintro e w1 ⟨rfl, hb1⟩
  have hrr := rowRead_any b i 6 3 fv D w1 (h.below hb1) (by omega) (by omega) (by omega)
  go_wp2_with fail
  refine hrr.mono ?_
  rintro e w2 ⟨rfl, hb2⟩
  have hun := unpacked_any (D.slot 6 3 i) w2 (by rw [hsl]; omega) hsb
  go_wp2_with fail
  refine hun.mono ?_
  rintro e w3 ⟨rfl, rfl⟩
  have hb2' := hb1.trans (hb2.mono hb1.size)
  have hlf := treeLeaf_any (strOf ((unpL (D.slot 6 3 i)).getD [])) w3 (by omega) (table_at hb2' hg ht) (Nat.lt_of_lt_of_le hg hb2'.size)
  go_wp2_with fail
  refine hlf.mono ?_
  rintro e w4 ⟨rfl, hb4⟩
  go_wp2
  go_ret2
  rw [HN.out.1, HN.out.2]
  exact ⟨rfl, hb2'.trans (hb4.mono hb2'.size)⟩

set_option maxHeartbeats 2000000 in
theorem hashBelowM_any (b l m i : Nat) (hm : m = l + 1) (fv : Value) (D : Dk) (w : World) (h : DiskAt w b fv D) (hl : l < 100) (hi : i < 100) (ht : Table w) (hg : 2 < w.heap.size) :
    Calls Tryz.prog 134 #[.pointer (some ⟨b, 0, none⟩), .int .i64 (m : Int), .int .i64 (i : Int)] w fun e w' => e = .returned (.tuple #[.string (D.hashB (l + 1) i), .bool (D.hashF (l + 1) i)]) ∧ Below w.heap.size w w' := by
  have hT := (tileAt_le l).1
  have HN : Hid (D.hashB (l + 1) i = mth ((List.range 4).map fun j => strOf (D.slot (tileAt l).1 4 (4 * i + j))) ∧ D.hashF (l + 1) i = true) := ⟨rfl, rfl⟩
  have hl1 : ¬ ((m : Int) = 0) := by omega
  have hm1 : 1 ≤ m ∧ m < 1000 := by omega
  have hl2 : ((m : Int) == 0) = false := by simpa using hl1
  have HM : Hid (m = l + 1) := hm
  clear hm
  go_enter Tryz.func134, Tryz.ntmps134
  go_wp2_with fail
  go_loopw [10, 11] (fun v u wr => ∃ k p : Nat, k ≤ 4 ∧ p = 4 * i + k ∧ u = .int .i64 (p : Int) ∧ Row wr w.heap.size 9 v (strv ((List.range k).map fun j => strOf (D.slot (tileAt l).1 4 (4 * i + j)))) ∧ Below w.heap.size w wr) (fun _ u _ => 4 * i + 4 - (intOf u).toNat)
  case atStart => exact ⟨0, i * 4, by omega, by omega, by go_num, World.ownsRow_nil _ _ _ _, Below.refl _ _⟩
  case round =>
    obtain ⟨k, p, hk, hp, rfl, hrow, hb⟩ := hrel
    have HP : Hid (p = 4 * i + k) := hp
    have hp9 : p < 1000 := by omega
    by_cases h8 : k < 4
    · have ht1 : Calls Tryz.prog 116 #[.int .i64 ((m : Int) - 1)] wr fun e w' => e = .returned (rowV (tileAt l).1 4) ∧ Below wr.heap.size wr w' := by
        have e1 : (m : Int) - 1 = (l : Int) := by rw [HM.out]; omega
        rw [e1]
        exact tiles_any l wr (by omega)
      have HX : Hid (strv ((List.range k).map fun j => strOf (D.slot (tileAt l).1 4 (4 * i + j))) ++ [.string (strOf (D.slot (tileAt l).1 4 (4 * i + k)))] = strv ((List.range (k + 1)).map fun j => strOf (D.slot (tileAt l).1 4 (4 * i + j)))) := by
        show _ = _
        rw [List.range_succ, List.map_append, strv_append]; rfl
      have hxl : (strv ((List.range k).map fun j => strOf (D.slot (tileAt l).1 4 (4 * i + j)))).length = k := by simp
      generalize strv ((List.range k).map fun j => strOf (D.slot (tileAt l).1 4 (4 * i + j))) = xs at *
      have hlt4 : (p : Int) < ((i : Int) + 1) * 4 := by omega
      have hbd : (tileAt l).1 + p / 4 < 200 := by omega
      rw [← hp] at HX
      have hmj : 4 * i + 4 - (p + 1) < 4 * i + 4 - p := by omega
      clear hp
      go_wp2_with fail
      refine ht1.mono ?_
      rintro e w1 ⟨rfl, hb1⟩
      have hb1' := hb.trans (hb1.mono hb.size)
      have hrr := rowRead_any b p (tileAt l).1 4 fv D w1 (h.below hb1') (by omega) (by omega) hbd
      generalize strOf (D.slot (tileAt l).1 4 p) = x at *
      clear hlt4 ht1
      have hsz0 := hb.size
      go_wp2_with fail
      refine hrr.mono ?_
      rintro e w2 ⟨rfl, hb2⟩
      have hb2' := hb1'.trans (hb2.mono hb1'.size)
      have hrow2 := (hrow.below hb1 (Nat.le_refl _)).below hb2 (Nat.le_refl _)
      clear hrr
      go_wp2_with (at_builtin; refine wpList_app elem_string rfl Tryz.underlying22 (by rfl) (.tmp 34) (.tmp 41) (by rfl) w.heap.size _ xs (by rfl) (hrow2.alloc _) _ 1 1 [.string x] (by rfl) rfl (Blk.new _ 9 _) ?h1 ?hl ?hb ?hbs (w0 := w) (hb2'.alloc hb2'.size _) (Nat.le_refl _) ?_)
      case h1 => intro u hu; simp at hu; subst hu; rfl
      case hl => omega
      case hb => omega
      case hbs => have := hb2'.size; simp; omega
      intro v' w' hv' _ hb'
      rw [HX.out] at hv'
      go_wp2
      go_roundw
      case rel => exact ⟨k + 1, p + 1, by omega, by rw [HP.out]; omega, by go_num, hv', hb'⟩
      case measure => simpa [intOf] using hmj
    · have hk4 : k = 4 := by omega
      subst hk4
      have h0 : 0 < ((List.range 4).map fun j => strOf (D.slot (tileAt l).1 4 (4 * i + j))).length := by simp
      have hll : ((List.range 4).map fun j => strOf (D.slot (tileAt l).1 4 (4 * i + j))).length = 4 := by simp
      have hss : ∀ s ∈ (List.range 4).map fun j => strOf (D.slot (tileAt l).1 4 (4 * i + j)), s.size < 144115188075855872 := by
        intro s hs
        obtain ⟨j, hj, rfl⟩ := List.mem_map.1 hs
        have hj4 := List.mem_range.1 hj
        have hbd : (tileAt l).1 + (4 * i + j) / 4 < 200 := by omega
        rw [strOf_size (slot_byt h.ok hbd), slot_len h.ok (by omega) hbd]
        omega
      generalize ((List.range 4).map fun j => strOf (D.slot (tileAt l).1 4 (4 * i + j))) = ss at *
      obtain ⟨g, cap, hv, _, hcap, _, _, _, _⟩ := hrow.form (by rw [strv_length]; exact h0)
      rw [strv_length] at hv hcap
      subst hv
      have hSA := SA.of_row hrow h0
      have hj := treeJoin_any ss g 0 cap wr hcap (by omega) hSA hss (table_at hb hg ht) (Nat.lt_of_lt_of_le hg hb.size)
      have hge : ¬ (p : Int) < ((i : Int) + 1) * 4 := by omega
      clear hp hll h0 hss hrow hSA hcap hk h8
      go_wp2_with fail
      refine hj.mono ?_
      rintro e w3 ⟨rfl, hb3⟩
      go_wp2
      go_ret2
      rw [HN.out.1, HN.out.2]
      exact ⟨rfl, hb.trans (hb3.mono hb.size)⟩
theorem hashBelow_any (b l i : Nat) (fv : Value) (D : Dk) (w : World) (h : DiskAt w b fv D) (hl : l < 100) (hi : i < 100) (ht : Table w) (hg : 2 < w.heap.size) :
    Calls Tryz.prog 134 #[.pointer (some ⟨b, 0, none⟩), .int .i64 (l : Int), .int .i64 (i : Int)] w fun e w' => e = .returned (.tuple #[.string (D.hashB l i), .bool (D.hashF l i)]) ∧ Below w.heap.size w w' := by
  cases l with
  | zero => exact hashBelow0_any b i fv D w h hi ht hg
  | succ l => exact hashBelowM_any b l (l + 1) i rfl fv D w h (by omega) hi ht hg
end Go.Proofs.YtlhohmlpcgbliabGreatDoor
namespace Go.Proofs.YtlhohmlpcgbliabGreatDoor
open Go.RowKit
attribute [local go_sem ↓] Go.wp_at_zero Go.wp_at_succ

def spnF : Nat → Dk → Nat → Nat → ByteArray
  | 0, _, _, _ => shaS []
  | f + 1, D, a, n => if n = 0 then shaS [] else if (lev n).2 = 1 then strOf (D.slot (tileAt (lev n).1).1 4 (a / n)) else nodeS (spnF f D a (spl n)) (spnF f D (a + spl n) (n - spl n))
/-- The hash of the tree of the n entries from a on. -/
def Dk.span (D : Dk) (a n : Nat) : ByteArray := spnF n D a n
theorem spnF_eq (D : Dk) : ∀ (f g a n : Nat), n ≤ f → n ≤ g → spnF f D a n = spnF g D a n := by
  intro f
  induction f with
  | zero =>
    intro g a n h1 _
    obtain rfl : n = 0 := by omega
    cases g with
    | zero => rfl
    | succ g => rw [spnF, spnF, if_pos rfl]
  | succ f ih =>
    intro g a n h1 h2
    cases g with
    | zero =>
      obtain rfl : n = 0 := by omega
      rw [spnF, spnF, if_pos rfl]
    | succ g =>
      rw [spnF, spnF]
      by_cases h0 : n = 0
      · rw [if_pos h0, if_pos h0]
      · rw [if_neg h0, if_neg h0]
        by_cases hv : (lev n).2 = 1
        · rw [if_pos hv, if_pos hv]
        · have hn2 : 2 ≤ n := by
            rcases Nat.lt_or_ge n 2 with h | h
            · obtain rfl : n = 1 := by omega
              exact absurd rfl hv
            · exact h
          have h3 := spl_lt hn2
          have h4 := spl_pos n
          rw [if_neg hv, if_neg hv, ih g a (spl n) (by omega) (by omega), ih g (a + spl n) (n - spl n) (by omega) (by omega)]
theorem Dk.span_zero (D : Dk) (a : Nat) : D.span a 0 = shaS [] := rfl
theorem Dk.span_tile (D : Dk) (a n : Nat) (h0 : n ≠ 0) (hv : (lev n).2 = 1) : D.span a n = strOf (D.slot (tileAt (lev n).1).1 4 (a / n)) := by
  unfold Dk.span
  obtain ⟨m, rfl⟩ : ∃ m, n = m + 1 := ⟨n - 1, by omega⟩
  rw [spnF, if_neg h0, if_pos hv]
theorem Dk.span_two (D : Dk) (a n : Nat) (h0 : n ≠ 0) (hv : (lev n).2 ≠ 1) : 2 ≤ n ∧ D.span a n = nodeS (D.span a (spl n)) (D.span (a + spl n) (n - spl n)) := by
  have hn2 : 2 ≤ n := by
    rcases Nat.lt_or_ge n 2 with h | h
    · obtain rfl : n = 1 := by omega
      exact absurd rfl hv
    · exact h
  have h3 := spl_lt hn2
  have h4 := spl_pos n
  refine ⟨hn2, ?_⟩
  unfold Dk.span
  have e : spnF n D a n = spnF (n - 1 + 1) D a n := by rw [Nat.sub_add_cancel (by omega)]
  rw [e, spnF, if_neg h0, if_neg hv, spnF_eq D (n - 1) (spl n) a (spl n) (by omega) (by omega), spnF_eq D (n - 1) (n - spl n) (a + spl n) (n - spl n) (by omega) (by omega)]
theorem span_size {D : Dk} (h : D.ok) (a n : Nat) (ha : a < 500) : (D.span a n).size ≤ 32 := by
  by_cases h0 : n = 0
  · subst h0; rw [Dk.span_zero, shaS_size]; omega
  · by_cases hv : (lev n).2 = 1
    · rw [Dk.span_tile D a n h0 hv]
      have hT := (tileAt_le (lev n).1).1
      have h1 : a / n ≤ a := Nat.div_le_self _ _
      have hbd : (tileAt (lev n).1).1 + a / n / 4 < 200 := by omega
      rw [strOf_size (slot_byt h hbd), slot_len h (by omega) hbd]
      omega
    · rw [(Dk.span_two D a n h0 hv).2, nodeS_size]; omega
theorem quo_gen (i e : Nat) (w : World) (he : 1 ≤ e) (hi : i < 100000) : (binOp .quo 3 (.int .i64 (i : Int)) (.int .i64 (e : Int))).run Tryz.prog w = .ok (.int .i64 ((i / e : Nat) : Int)) w := by
  have h2 := Nat.div_le_self i e
  have h3 : ((i / e : Nat) : Int) = (i : Int) / (e : Int) := Int.natCast_ediv _ _
  have h : IntKind.i64.wrap ((i : Int) / (e : Int)) = (i : Int) / (e : Int) := by
    rw [← h3]
    generalize i / e = q at *
    exact IntWalk.i64_in _ ⟨by omega, by omega⟩
  have h4 : (i : Int).tdiv (e : Int) = (i : Int) / (e : Int) := Int.tdiv_eq_ediv_of_nonneg (by omega)
  have h5 : e ≠ 0 := by omega
  simp [go_sem, h5, h4]
  exact h

set_option maxHeartbeats 2000000 in
theorem spR6_wp {c2 c3 c4 c5 c6 c9 c10 c11 c12 c13 c14 c15 c16 c17 c18 c19 c20 c21 c22 c23 c24 c25 c26 c27 c28 c29 c30 c31 c32 c33 c34 c35 c36 c37 c38 c39 c40 c41 c42 : Value} (b a n l : Nat) (fv : Value) (D : Dk) (w : World) (Q : Exit → Act → World → Prop) (h : DiskAt w b fv D) (ha : a < 500) (hn : 1 ≤ n) (hl : l < 1000)
    (hQ : ∀ (u23 u24 u25 u26 u27 u28 u29 : Value) (w' : World), Below w.heap.size w w' → Q .normal ⟨#[.pointer (some ⟨b, 0, none⟩), .int .i64 (a : Int), c2, c3, c4, c5, .string (strOf (D.slot (tileAt l).1 4 (a / n))), .int .i64 (n : Int), .int .i64 (l : Int), c9, c10, c11, c12, c13, c14, c15, c16, c17, c18, c19, c20, c21, c22, u23, u24, u25, u26, u27, u28, u29, c30, c31, c32, c33, c34, c35, c36, c37, c38, c39, c40, c41, c42], []⟩ w') :
    Code.wp Tryz.prog (rgn Tryz.f99 6) Q ⟨#[.pointer (some ⟨b, 0, none⟩), .int .i64 (a : Int), c2, c3, c4, c5, c6, .int .i64 (n : Int), .int .i64 (l : Int), c9, c10, c11, c12, c13, c14, c15, c16, c17, c18, c19, c20, c21, c22, c23, c24, c25, c26, c27, c28, c29, c30, c31, c32, c33, c34, c35, c36, c37, c38, c39, c40, c41, c42], []⟩ w := by
  have hS : (fun wx : World => Below w.heap.size w wx) w.drew := (Below.refl w.heap.size w).drew
  have hT := (tileAt_le l).1
  have h1 : a / n ≤ a := Nat.div_le_self _ _
  have hrd : ∀ wx, Below w.heap.size w wx → Calls Tryz.prog 97 #[rowV (tileAt l).1 4, .pointer (some ⟨b, 0, none⟩), .int .i64 ((a / n : Nat) : Int)] wx fun e w' => e = .returned (.string (strOf (D.slot (tileAt l).1 4 (a / n)))) ∧ Below wx.heap.size wx w' :=
    fun wx hx => rowRead_any b (a / n) (tileAt l).1 4 fv D wx (h.below hx) (by omega) (by omega) (by omega)
  generalize strOf (D.slot (tileAt l).1 4 (a / n)) = x at *
  conv => arg 2; whnf
  refine wp_region_s (fun wx : World => Below w.heap.size w wx) (by kernel_rfl) ?_
  refine wpS_pure (k := 0) (v := .int .i64 (l : Int)) (by rfl) (by kernel_rfl) (by kernel_rfl) (by kernel_rfl) (by rfl) (some 23) (by rfl) hS (fun _ _ => by kernel_rfl) ?_
  simp only [Act.put, List.setIfInBounds_toArray, List.set_cons_succ, List.set_cons_zero]
  refine wpS_pure (k := 2) (v := .pointer (some ⟨b, 0, none⟩)) (by rfl) (by kernel_rfl) (by kernel_rfl) (by kernel_rfl) (by rfl) (some 25) (by rfl) hS (fun _ _ => by kernel_rfl) ?_
  simp only [Act.put, List.setIfInBounds_toArray, List.set_cons_succ, List.set_cons_zero]
  refine wpS_pure (k := 3) (v := .int .i64 (a : Int)) (by rfl) (by kernel_rfl) (by kernel_rfl) (by kernel_rfl) (by rfl) (some 26) (by rfl) hS (fun _ _ => by kernel_rfl) ?_
  simp only [Act.put, List.setIfInBounds_toArray, List.set_cons_succ, List.set_cons_zero]
  refine wpS_pure (k := 4) (v := .int .i64 (n : Int)) (by rfl) (by kernel_rfl) (by kernel_rfl) (by kernel_rfl) (by rfl) (some 27) (by rfl) hS (fun _ _ => by kernel_rfl) ?_
  simp only [Act.put, List.setIfInBounds_toArray, List.set_cons_succ, List.set_cons_zero]
  refine wpS_pure (k := 5) (v := .int .i64 ((a / n : Nat) : Int)) (by rfl) (by kernel_rfl) (by kernel_rfl) (by kernel_rfl) (by rfl) (some 28) (by rfl) hS (fun wx _ => exec_bop (by rfl) (by rfl) (by rfl) (by kernel_rfl) (quo_gen a n wx hn (by omega))) ?_
  simp only [Act.put, List.setIfInBounds_toArray, List.set_cons_succ, List.set_cons_zero]
  refine wpS_one (i := 1) (by kernel_rfl) (opS_call (f := 116) (vs := #[.int .i64 (l : Int)]) (by rfl) (by rfl) (some 24) (by rfl) (by kernel_rfl) ((tiles_any l w.drew hl).mono ?_))
  rintro e w1 ⟨rfl, hb1⟩
  have hb1' : Below w.heap.size w w1 := (Below.refl w.heap.size w).drew.trans hb1
  refine ⟨_, rfl, hb1', ?_⟩
  simp only [Act.put, List.setIfInBounds_toArray, List.set_cons_succ, List.set_cons_zero]
  refine wpS_one (i := 6) (by kernel_rfl) (opS_call (f := 97) (vs := #[rowV (tileAt l).1 4, .pointer (some ⟨b, 0, none⟩), .int .i64 ((a / n : Nat) : Int)]) (by rfl) (by rfl) (some 29) (by rfl) (by kernel_rfl) ((hrd w1 hb1').mono ?_))
  rintro e w2 ⟨rfl, hb2⟩
  have hb2' := hb1'.trans (hb2.mono hb1'.size)
  refine ⟨_, rfl, hb2', ?_⟩
  simp only [Act.put, List.setIfInBounds_toArray, List.set_cons_succ, List.set_cons_zero]
  refine wpS_one (i := 7) (by kernel_rfl) (opS_val (w' := w2) (v := .string x) (by rfl) (by rfl) (some 6) (by rfl) (by kernel_rfl) ⟨hb2', ?_⟩)
  simp only [Act.put, List.setIfInBounds_toArray, List.set_cons_succ, List.set_cons_zero]
  refine wpAnyH_done (by kernel_rfl) ?_ _
  refine NoPanic.normal ?_
  exact hQ _ _ _ _ _ _ _ _ hb2'

theorem span_all (N : Nat) : ∀ (b a n : Nat) (fv : Value) (D : Dk) (w : World), n ≤ N → DiskAt w b fv D → a + n < 500 → Table w → 2 < w.heap.size →
    Calls Tryz.prog 99 #[.pointer (some ⟨b, 0, none⟩), .int .i64 (a : Int), .int .i64 ((a + n : Nat) : Int)] w fun e w' => e = .returned (.string (D.span a n)) ∧ Below w.heap.size w w' := by
  induction N with
  | zero =>
    intro b a n fv D w hn h ha ht hg
    obtain rfl : n = 0 := by omega
    rw [Dk.span_zero]
    have hj := treeJoin_nil none 0 w ht hg
    rw [Nat.add_zero]
    go_enter Tryz.func99, Tryz.ntmps99
    go_wp2_with fail
    refine hj.mono ?_
    rintro e w1 ⟨rfl, hb1⟩
    go_wp2
    go_ret
    exact ⟨rfl, hb1⟩
  | succ N ih =>
    intro b a n fv D w hn h ha ht hg
    by_cases h0 : n = 0
    · subst h0
      rw [Dk.span_zero]
      have hj := treeJoin_nil none 0 w ht hg
      rw [Nat.add_zero]
      go_enter Tryz.func99, Tryz.ntmps99
      go_wp2_with fail
      refine hj.mono ?_
      rintro e w1 ⟨rfl, hb1⟩
      go_wp2
      go_ret
      exact ⟨rfl, hb1⟩
    · have hlv := levelOf_any n w (by omega) (by omega)
      have hle := levF_le n n
      have e0 : ((a + n : Nat) : Int) - (a : Int) = (n : Int) := by omega
      have h0' : ¬ (n : Int) = 0 := by omega
      have HE : Hid (lev n = levF n n) := rfl
      rw [← HE.out] at hle
      by_cases hv : (lev n).2 = 1
      · rw [Dk.span_tile D a n h0 hv]
        have hv' : decide ((lev n).2 = 1) = true := by simpa using hv
        rw [hv'] at hlv
        generalize (lev n).1 = l at *
        clear hv hv' HE
        generalize ((a + n : Nat) : Int) = tt at *
        go_enter Tryz.func99, Tryz.ntmps99
        go_wp2_with fail
        refine hlv.mono ?_
        rintro e w1 ⟨rfl, rfl⟩
        go_wp2_with fail
        refine spR6_wp b a n l fv D w1 _ h (by omega) (by omega) (by omega) ?_
        intro u23 u24 u25 u26 u27 u28 u29 w2 hb2
        go_wp2_with fail
        go_ret
        exact ⟨rfl, hb2⟩
      · obtain ⟨hn2, hsp⟩ := Dk.span_two D a n h0 hv
        rw [hsp]
        have hv' : decide ((lev n).2 = 1) = false := by simpa using hv
        rw [hv'] at hlv
        generalize (lev n).1 = l at *
        have hlt := spl_lt hn2
        have hps := spl_pos n
        have hspl := fun wx => treeSplit_any n wx hn2 (by omega)
        have hz1 := span_size h.ok a (spl n) (by omega)
        have hz2 := span_size h.ok (a + spl n) (n - spl n) (by omega)
        have ih1 : ∀ wx, Below w.heap.size w wx → Calls Tryz.prog 99 #[.pointer (some ⟨b, 0, none⟩), .int .i64 (a : Int), .int .i64 ((a : Int) + ((spl n : Nat) : Int))] wx fun e w' => e = .returned (.string (D.span a (spl n))) ∧ Below wx.heap.size wx w' := fun wx hx => by
          have := ih b a (spl n) fv D wx (by omega) (h.below hx) (by omega) (table_at hx hg ht) (Nat.lt_of_lt_of_le hg hx.size)
          rw [Int.natCast_add] at this
          exact this
        have ih2 : ∀ wx, Below w.heap.size w wx → Calls Tryz.prog 99 #[.pointer (some ⟨b, 0, none⟩), .int .i64 ((a : Int) + ((spl n : Nat) : Int)), .int .i64 ((a + n : Nat) : Int)] wx fun e w' => e = .returned (.string (D.span (a + spl n) (n - spl n))) ∧ Below wx.heap.size wx w' := fun wx hx => by
          have := ih b (a + spl n) (n - spl n) fv D wx (by omega) (h.below hx) (by omega) (table_at hx hg ht) (Nat.lt_of_lt_of_le hg hx.size)
          rw [Int.natCast_add, show a + spl n + (n - spl n) = a + n by omega] at this
          exact this
        clear hv hv' HE hsp
        generalize ((a + n : Nat) : Int) = tt at *
        generalize D.span a (spl n) = x at *
        generalize D.span (a + spl n) (n - spl n) = y at *
        generalize spl n = k at *
        go_enter Tryz.func99, Tryz.ntmps99
        go_wp2_with fail
        refine hlv.mono ?_
        rintro e w1 ⟨rfl, rfl⟩
        go_wp2_with fail
        refine (hspl _).mono ?_
        rintro e w1 ⟨rfl, rfl⟩
        go_wp2_with fail
        refine (ih1 _ (Below.refl _ _)).mono ?_
        rintro e w2 ⟨rfl, hb2⟩
        go_wp2_with fail
        refine (ih2 w2 hb2).mono ?_
        rintro e w3 ⟨rfl, hb3⟩
        have hb3' := hb2.trans (hb3.mono hb2.size)
        go_wp2_with fail
        refine (treeNode_any x y w3 (by omega) (by omega) (table_at hb3' hg ht) (Nat.lt_of_lt_of_le hg hb3'.size)).mono ?_
        rintro e w4 ⟨rfl, hb4⟩
        go_wp2
        go_ret
        exact ⟨rfl, hb3'.trans (hb4.mono hb3'.size)⟩
theorem span_any (b a n : Nat) (fv : Value) (D : Dk) (w : World) (h : DiskAt w b fv D) (ha : a + n < 500) (ht : Table w) (hg : 2 < w.heap.size) :
    Calls Tryz.prog 99 #[.pointer (some ⟨b, 0, none⟩), .int .i64 (a : Int), .int .i64 ((a + n : Nat) : Int)] w fun e w' => e = .returned (.string (D.span a n)) ∧ Below w.heap.size w w' :=
  span_all n b a n fv D w (Nat.le_refl _) h ha ht hg
end Go.Proofs.YtlhohmlpcgbliabGreatDoor
namespace Go.Proofs.YtlhohmlpcgbliabGreatDoor
open Go.RowKit
attribute [local go_sem ↓] Go.wp_at_zero Go.wp_at_succ

/-- The table of round constants lies apart from the disk. -/
structure Env (w : World) (b : Nat) (g : Option Nat) : Prop where
  table : Table w
  lt : 2 < w.heap.size
  nb : 2 ≠ b
  nf : g ≠ some 2
theorem Env.below {w w' : World} {b : Nat} {g : Option Nat} (h : Env w b g) (hb : Below w.heap.size w w') : Env w' b g := ⟨table_at hb h.lt h.table, Nat.lt_of_lt_of_le h.lt hb.size, h.nb, h.nf⟩
theorem Env.drewN {w : World} {b : Nat} {g : Option Nat} (h : Env w b g) (n : Nat) : Env (w.drewN n) b g := ⟨h.table, h.lt, h.nb, h.nf⟩
theorem Env.fr {w w' : World} {b : Nat} {g g' : Option Nat} (h : Env w b g) (r : Fr b g g' w w') : Env w' b g' := by
  refine ⟨fun i hi => ?_, Nat.lt_of_lt_of_le h.lt r.size, h.nb, r.apart h.lt h.nf⟩
  rw [World.cell?_of_block (r.block _ h.lt h.nb h.nf)]
  exact h.table i hi
theorem wrF_len (start each : Nat) : ∀ (f : Nat) (D : Dk) (i : Nat) (cs : List (List Nat)), (wrF start each f D i cs).fre.length ≤ D.fre.length + f := by
  intro f
  induction f with
  | zero => intro D i cs; exact Nat.le_refl _
  | succ f ih =>
    intro D i cs
    rw [wrF]
    split
    · omega
    · refine Nat.le_trans (ih _ _ _) ?_
      have := Dk.write_len D (start + i / each) (fillS each (D.read (start + i / each)) i (cs.take (takes each i cs.length)))
      omega
theorem rowWrite_len (D : Dk) (start each i : Nat) (cs : List (List Nat)) : (D.rowWrite start each i cs).fre.length ≤ D.fre.length + cs.length := wrF_len _ _ _ _ _ _
/-- The hashes of a level from one on, up to another. -/
def Dk.hashes (D : Dk) (l q0 q1 : Nat) : List ByteArray := (List.range (q1 - q0)).map fun j => D.hashB l (q0 + j)
def grwF : Nat → Dk → Nat → Nat → Nat → Nat → Dk
  | 0, D, _, _, _, _ => D
  | f + 1, D, first, n, l, size => if first / size < n / size then grwF f (D.rowWrite (tileAt l).1 4 (first / size) ((D.hashes l (first / size) (n / size)).map bts)) first n (l + 1) (size * 4) else D
def Dk.grow (D : Dk) (first n : Nat) : Dk := grwF n D first n 0 1
theorem hashB_size (D : Dk) (l i : Nat) : (D.hashB l i).size = 32 := by
  cases l with
  | zero => exact leafS_size _
  | succ l =>
    rw [Dk.hashB, mth_two (by simp), nodeS_size]

set_option maxHeartbeats 2000000 in
theorem gtR9_wp {c2 c3 c4 c5 c9 c10 c11 c12 c13 c14 c15 c16 c17 c18 c19 c20 c21 c22 c23 c24 c25 c26 c27 c28 c29 c30 c31 c32 c33 c34 c35 c36 c37 c38 c39 c40 c41 c42 c43 c44 c45 c46 c47 c48 c49 c50 c51 : Value} (b l first size g cap : Nat) (ss : List ByteArray) (fv : Value) (D : Dk) (w : World) (Q : Exit → Act → World → Prop) (h : DiskAt w b fv D) (hS : SA w g 0 ss) (hgl : g < w.heap.size) (hgb : g ≠ b) (hgf : fv.ownBlock ≠ some g) (hsz : ∀ s ∈ ss, s.size ≤ 32) (hcc : ss.length ≤ cap)
    (hl : l < 1000) (hs1 : 1 ≤ size) (hf1 : first < 100) (hsl : ss.length < 100) (hfe : D.fre.length + ss.length < 1000000)
    (hQ : ∀ (u44 u45 u46 u47 u48 u49 u50 u51 : Value) (fv' : Value) (w' : World), DiskAt w' b fv' (D.rowWrite (tileAt l).1 4 (first / size) (ss.map bts)) → Fr b fv.ownBlock fv'.ownBlock w w' → Q .normal ⟨#[.pointer (some ⟨b, 0, none⟩), .int .i64 (first : Int), c2, c3, c4, c5, .int .i64 (l : Int), .int .i64 (size : Int), .slice (some ⟨g, 0, none⟩) ss.length cap, c9, c10, c11, c12, c13, c14, c15, c16, c17, c18, c19, c20, c21, c22, c23, c24, c25, c26, c27, c28, c29, c30, c31, c32, c33, c34, c35, c36, c37, c38, c39, c40, c41, c42, c43, u44, u45, u46, u47, u48, u49, u50, u51], []⟩ w') :
    Code.wp Tryz.prog (rgn Tryz.f128 9) Q ⟨#[.pointer (some ⟨b, 0, none⟩), .int .i64 (first : Int), c2, c3, c4, c5, .int .i64 (l : Int), .int .i64 (size : Int), .slice (some ⟨g, 0, none⟩) ss.length cap, c9, c10, c11, c12, c13, c14, c15, c16, c17, c18, c19, c20, c21, c22, c23, c24, c25, c26, c27, c28, c29, c30, c31, c32, c33, c34, c35, c36, c37, c38, c39, c40, c41, c42, c43, c44, c45, c46, c47, c48, c49, c50, c51], []⟩ w := by
  have hS0 : (fun _ : World => True) w.drew := trivial
  have hT := (tileAt_le l).1
  have h1 : first / size ≤ first := Nat.div_le_self _ _
  conv => arg 2; whnf
  refine wp_region_s (fun _ : World => True) (by kernel_rfl) ?_
  refine wpS_pure (k := 0) (v := .int .i64 (l : Int)) (by rfl) (by kernel_rfl) (by kernel_rfl) (by kernel_rfl) (by rfl) (some 44) (by rfl) hS0 (fun _ _ => by kernel_rfl) ?_
  simp only [Act.put, List.setIfInBounds_toArray, List.set_cons_succ, List.set_cons_zero]
  refine wpS_pure (k := 2) (v := .pointer (some ⟨b, 0, none⟩)) (by rfl) (by kernel_rfl) (by kernel_rfl) (by kernel_rfl) (by rfl) (some 46) (by rfl) hS0 (fun _ _ => by kernel_rfl) ?_
  simp only [Act.put, List.setIfInBounds_toArray, List.set_cons_succ, List.set_cons_zero]
  refine wpS_pure (k := 3) (v := .int .i64 (first : Int)) (by rfl) (by kernel_rfl) (by kernel_rfl) (by kernel_rfl) (by rfl) (some 47) (by rfl) hS0 (fun _ _ => by kernel_rfl) ?_
  simp only [Act.put, List.setIfInBounds_toArray, List.set_cons_succ, List.set_cons_zero]
  refine wpS_pure (k := 4) (v := .int .i64 (size : Int)) (by rfl) (by kernel_rfl) (by kernel_rfl) (by kernel_rfl) (by rfl) (some 48) (by rfl) hS0 (fun _ _ => by kernel_rfl) ?_
  simp only [Act.put, List.setIfInBounds_toArray, List.set_cons_succ, List.set_cons_zero]
  refine wpS_pure (k := 5) (v := .int .i64 ((first / size : Nat) : Int)) (by rfl) (by kernel_rfl) (by kernel_rfl) (by kernel_rfl) (by rfl) (some 49) (by rfl) hS0 (fun wx _ => exec_bop (by rfl) (by rfl) (by rfl) (by kernel_rfl) (quo_gen first size wx hs1 (by omega))) ?_
  simp only [Act.put, List.setIfInBounds_toArray, List.set_cons_succ, List.set_cons_zero]
  refine wpS_pure (k := 6) (v := .slice (some ⟨g, 0, none⟩) ss.length cap) (by rfl) (by kernel_rfl) (by kernel_rfl) (by kernel_rfl) (by rfl) (some 50) (by rfl) hS0 (fun _ _ => by kernel_rfl) ?_
  simp only [Act.put, List.setIfInBounds_toArray, List.set_cons_succ, List.set_cons_zero]
  refine wpS_one (i := 1) (by kernel_rfl) (opS_call (f := 116) (vs := #[.int .i64 (l : Int)]) (by rfl) (by rfl) (some 45) (by rfl) (by kernel_rfl) ((tiles_any l w.drew hl).mono ?_))
  rintro e w1 ⟨rfl, hb1⟩
  have hb1' : Below w.heap.size w w1 := (Below.refl w.heap.size w).drew.trans hb1
  refine ⟨_, rfl, trivial, ?_⟩
  simp only [Act.put, List.setIfInBounds_toArray, List.set_cons_succ, List.set_cons_zero]
  have hw := rowWrite4_any b g 0 cap (tileAt l).1 (first / size) fv D ss w1 (h.below hb1') (hS.below hb1') (Nat.lt_of_lt_of_le hgl hb1'.size) hgb hgf hsz hcc (by omega) (by omega) hfe
  refine wpS_one (i := 7) (by kernel_rfl) (opS_call (f := 125) (vs := #[rowV (tileAt l).1 4, .pointer (some ⟨b, 0, none⟩), .int .i64 ((first / size : Nat) : Int), .slice (some ⟨g, 0, none⟩) ss.length cap]) (by rfl) (by rfl) (some 51) (by rfl) (by kernel_rfl) (hw.mono ?_))
  rintro e w2 ⟨rfl, fv2, h2, r2⟩
  refine ⟨_, rfl, trivial, ?_⟩
  simp only [Act.put, List.setIfInBounds_toArray, List.set_cons_succ, List.set_cons_zero]
  refine wpAnyH_done (by kernel_rfl) ?_ _
  refine NoPanic.normal ?_
  exact hQ _ _ _ _ _ _ _ _ fv2 w2 h2 ((Fr.of_below hb1').trans r2)

set_option maxHeartbeats 4000000 in
theorem growTiles_any (b first n : Nat) (fv : Value) (D : Dk) (w : World) (h : DiskAt w b fv D) (hfn : first ≤ n) (hn : n ≤ 76) (hfe : D.fre.length < 900000) (he : Env w b fv.ownBlock) :
    Calls Tryz.prog 128 #[.pointer (some ⟨b, 0, none⟩), .int .i64 (first : Int), .int .i64 (n : Int)] w fun e w' => e = .returned (.tuple #[]) ∧ ∃ fv', DiskAt w' b fv' (D.grow first n) ∧ Fr b fv.ownBlock fv'.ownBlock w w' := by
  have HG : Hid (D.grow first n = grwF n D first n 0 1) := rfl
  have h0 := h.lt
  go_enter Tryz.func128, Tryz.ntmps128
  go_wp2_with fail
  go_loopw [6, 7] (fun u v wr => ∃ (f l size : Nat) (fv' : Value) (D' : Dk), n / size ≤ f ∧ f ≤ 76 ∧ l + f ≤ 76 ∧ 1 ≤ size ∧ size < 1000000000 ∧ u = .int .i64 (l : Int) ∧ v = .int .i64 (size : Int) ∧ DiskAt wr b fv' D' ∧ Fr b fv.ownBlock fv'.ownBlock w wr ∧ D.grow first n = grwF f D' first n l size ∧ D'.fre.length + f * 100 < 950000) (fun _ v _ => n + 1 - (intOf v).toNat)
  case atStart => exact ⟨n, 0, 1, fv, D, by simp, hn, by omega, by omega, by omega, rfl, rfl, h, Fr.refl _ _ _, HG.out, by omega⟩
  case round =>
    obtain ⟨f, l, size, fv', D', hf, hf76, hlf, hs1, hs9, rfl, rfl, hd, hr, hgw, hfr⟩ := hrel
    have HW : Hid (D.grow first n = grwF f D' first n l size) := hgw
    clear hgw
    have hq0 := fun wx => quo_gen first size wx hs1 (by omega)
    have hq1 := fun wx => quo_gen n size wx hs1 (by omega)
    have he' := he.fr hr
    have hq0n : first / size ≤ first := Nat.div_le_self _ _
    have hq1n : n / size ≤ n := Nat.div_le_self _ _
    by_cases hc : first / size < n / size
    · have hsn : size ≤ n := by
        rcases Nat.lt_or_ge n size with h9 | h9
        · rw [Nat.div_eq_of_lt h9] at hc; exact absurd hc (Nat.not_lt_zero _)
        · exact h9
      have HF : Hid (grwF f D' first n l size = grwF (f - 1) (D'.rowWrite (tileAt l).1 4 (first / size) ((D'.hashes l (first / size) (n / size)).map bts)) first n (l + 1) (size * 4)) := by
        show _ = _
        obtain ⟨g, rfl⟩ : ∃ g, f = g + 1 := ⟨f - 1, by have := Nat.lt_of_le_of_lt (Nat.zero_le _) hc; have := Nat.lt_of_lt_of_le this hf; omega⟩
        rw [grwF, if_pos hc, Nat.add_sub_cancel]
      have hf4 : n / (size * 4) ≤ f - 1 := by
        rw [← Nat.div_div_eq_div_mul]
        have := Nat.lt_of_le_of_lt (Nat.zero_le _) hc
        generalize n / size = qq at *
        omega
      have hlen : (D'.hashes l (first / size) (n / size)).length = n / size - first / size := by simp [Dk.hashes]
      have hrl := rowWrite_len D' (tileAt l).1 4 (first / size) ((D'.hashes l (first / size) (n / size)).map bts)
      rw [List.length_map, hlen] at hrl
      have ei0 : (first : Int) / (size : Int) = ((first / size : Nat) : Int) := (Int.natCast_ediv _ _).symm
      have ei1 : (n : Int) / (size : Int) = ((n / size : Nat) : Int) := (Int.natCast_ediv _ _).symm
      generalize hg0 : first / size = q0 at *
      generalize hg1 : n / size = q1 at *
      have HG0 : Hid (first / size = q0) := hg0
      clear hg0 hg1 hq0 hq1
      have hc' : (q0 : Int) < (q1 : Int) := by omega
      go_wp2_with fail
      go_quiet (fail)
      have hd1 := hd.drewN nq
      have hr1 := hr.drewN nq
      have he1 := he'.drewN nq
      generalize wr.drewN nq = w1 at *
      clear hd hr he'
      have hlt1 := hd1.lt
      have hown1 : ∀ k, fv'.ownBlock = some k → k < w1.heap.size := fun k hk => (hd1.row.lt k hk).2
      go_wp2_with fail
      go_loopw [8, 9] (fun v u wq => ∃ j p : Nat, j ≤ q1 - q0 ∧ p = q0 + j ∧ u = .int .i64 (p : Int) ∧ Row wq w1.heap.size 9 v (strv ((List.range j).map fun x => D'.hashB l (q0 + x))) ∧ Below w1.heap.size w1 wq) (fun _ u _ => q1 - (intOf u).toNat)
      case atStart => exact ⟨0, q0, by omega, by omega, rfl, World.ownsRow_nil _ _ _ _, Below.refl _ _⟩
      case round =>
        obtain ⟨j, p, hj, hp, rfl, hrow, hb⟩ := hrel
        have HP : Hid (p = q0 + j) := hp
        have hp9 : p ≤ 76 := by omega
        by_cases h8 : j < q1 - q0
        · have hpq : (p : Int) < (q1 : Int) := by omega
          have hhb := hashBelow_any b l p fv' D' wr (hd1.below hb) (by omega) (by omega) (he1.below hb).table (he1.below hb).lt
          have HX : Hid (strv ((List.range j).map fun x => D'.hashB l (q0 + x)) ++ [.string (D'.hashB l p)] = strv ((List.range (j + 1)).map fun x => D'.hashB l (q0 + x))) := by
            show _ = _
            rw [hp, List.range_succ, List.map_append, strv_append]; rfl
          have hxl : (strv ((List.range j).map fun x => D'.hashB l (q0 + x))).length = j := by simp
          have hmj : q1 - (p + 1) < q1 - p := by omega
          generalize strv ((List.range j).map fun x => D'.hashB l (q0 + x)) = xs at *
          generalize D'.hashB l p = x at *
          generalize D'.hashF l p = okk at *
          clear hp
          have hsz0 := hb.size
          go_wp2_with fail
          refine hhb.mono ?_
          rintro e w2 ⟨rfl, hb2⟩
          have hb2' := hb.trans (hb2.mono hb.size)
          have hrow2 := hrow.below hb2 (Nat.le_refl _)
          clear hhb
          go_wp2_with (at_builtin; refine wpList_app elem_string rfl Tryz.underlying22 (by rfl) (.tmp 40) (.tmp 42) (by rfl) w1.heap.size _ xs (by rfl) (hrow2.alloc _) _ 1 1 [.string x] (by rfl) rfl (Blk.new _ 9 _) ?h1 ?hl ?hb ?hbs (w0 := w1) (hb2'.alloc hb2'.size _) (Nat.le_refl _) ?_)
          case h1 => intro u hu; simp at hu; subst hu; rfl
          case hl => omega
          case hb => omega
          case hbs => have := hb2'.size; simp; omega
          intro v' w' hv' _ hb'
          rw [HX.out] at hv'
          go_wp2
          go_roundw
          case rel => exact ⟨j + 1, p + 1, by omega, by rw [HP.out]; omega, by go_num, hv', hb'⟩
          case measure => simpa [intOf] using hmj
        · have hjq : j = q1 - q0 := by omega
          subst hjq
          have hpq : ¬ (p : Int) < (q1 : Int) := by omega
          have HH : Hid (D'.hashes l q0 q1 = (List.range (q1 - q0)).map fun x => D'.hashB l (q0 + x)) := rfl
          have hss : ∀ s ∈ (List.range (q1 - q0)).map fun x => D'.hashB l (q0 + x), s.size ≤ 32 := by
            intro s hs
            obtain ⟨x, _, rfl⟩ := List.mem_map.1 hs
            rw [hashB_size]; omega
          have hll : ((List.range (q1 - q0)).map fun x => D'.hashB l (q0 + x)).length = q1 - q0 := by simp
          generalize ((List.range (q1 - q0)).map fun x => D'.hashB l (q0 + x)) = ss at *
          have h00 : 0 < ss.length := by omega
          obtain ⟨g, cap, hv, hgb, hcap, _, _, hglt, _⟩ := hrow.form (by rw [strv_length]; exact h00)
          rw [strv_length] at hv hcap
          subst hv
          have hSA := SA.of_row hrow h00
          have hdq := hd1.below hb
          have hs4 : size * 4 < 1000000000 := by omega
          have hb1 : ss.length < 100 := by omega
          have hb2 : D'.fre.length + ss.length < 1000000 := by omega
          clear hp hrow hlen hll
          rw [HH.out] at HF
          go_wp2_with fail
          refine gtR9_wp b l first size g cap ss fv' D' wr _ hdq hSA hglt (by omega) (fun e => by have := hown1 g e; omega) hss hcap (by omega) hs1 (by omega) hb1 hb2 ?_
          intro u44 u45 u46 u47 u48 u49 u50 u51 fv2 w2 hd2 r2
          rw [HG0.out] at hd2
          have hrr := (hr1.trans (Fr.of_below hb)).trans r2
          rw [HH.out] at hrl
          clear hss hSA hcap
          go_wp2
          go_roundw
          case rel => exact ⟨f - 1, l + 1, size * 4, fv2, _, hf4, by omega, by omega, by omega, hs4, by go_num, by go_num, hd2, hrr, by rw [HW.out, HF.out], by omega⟩
          case measure => simp [intOf]; omega
    · have HF : Hid (grwF f D' first n l size = D') := by
        show _ = _
        cases f with
        | zero => rfl
        | succ g => rw [grwF, if_neg hc]
      have ei0 : (first : Int) / (size : Int) = ((first / size : Nat) : Int) := (Int.natCast_ediv _ _).symm
      have ei1 : (n : Int) / (size : Int) = ((n / size : Nat) : Int) := (Int.natCast_ediv _ _).symm
      generalize first / size = q0 at *
      generalize n / size = q1 at *
      clear hq0 hq1
      have hc' : ¬ (q0 : Int) < (q1 : Int) := by omega
      go_wp2_with fail
      go_quiet (fail)
      have hd1 := hd.drewN nq
      have hr1 := hr.drewN nq
      generalize wr.drewN nq = w1 at *
      go_wp2
      go_end0
      exact ⟨rfl, fv', by rw [HW.out, HF.out]; exact hd1, hr1⟩
end Go.Proofs.YtlhohmlpcgbliabGreatDoor
namespace Go.Proofs.YtlhohmlpcgbliabGreatDoor
open Go.RowKit
attribute [local go_sem ↓] Go.wp_at_zero Go.wp_at_succ

section
variable {P : Program} {ops : Array Oper} {Q : Exit → Act → World → Prop} {C : World → Prop} {z : Nat}
theorem wpAnyZ_call {i fuel : Nat} {o : Oper} {listed : Array Bool} {a : Act} {w : World} {f : FuncId} {vs : Array Value} (hr : Region.ready .any ops listed = [i]) (hi : ops[i]? = some o) (hgd : o.guard = none) (d : Option Nat) (hd : o.dst = d)
    (hx : (execOp a.eval o).run P w = .ok (.enter f vs) w) (hc : Calls P f vs w fun e w' => ∃ v, e = .returned v ∧ (i ≠ z → C w') ∧ wpAnyZ P ops Q C z fuel (listed.setIfInBounds i true) (a.put d v) w') : wpAnyZ P ops Q C z (fuel + 1) listed a w := by
  refine wpAnyZ_op hr hi hgd ?_
  unfold Oper.wp
  rw [hx, Oper.upon_enter]
  refine hc.mono ?_
  rintro e w' ⟨v, rfl, h⟩
  rw [← hd] at h
  exact h
end
theorem buildSlice3 (w : World) (a b c : ByteArray) : (Instr.buildSlice 22 3 #[(0, .string a), (1, .string b), (2, .string c)]).run Tryz.prog w = .ok (.slice (some ⟨w.heap.size, 0, none⟩) 3 3) (w.alloc (.cells #[.string a, .string b, .string c] 9)) := by kernel_rfl
theorem loadStrs (w : World) (b o : Nat) (p : Option Addr) (n c : Nat) (h : w.cell? ⟨b, o, none⟩ = some (.slice p n c)) : (Instr.loadAt 22 (.pointer (some ⟨b, o, none⟩))).run Tryz.prog w = .ok (.slice p n c) w := by
  simp [go_sem, h]
def jV (first : Nat) (p : Option Addr) (n c : Nat) : Value := .agg #[.int .i64 (first : Int), .slice p n c]
theorem infoJ : (Tryz.prog.info? 144).map (·.size) = some 2 := by kernel_rfl
theorem hdSec_sec {f n : Nat} (hf : f < 256) (hn : n < 256) : Sec (hdSec f n) := by
  refine secOf_sec (by simp [markJ]) ?_
  intro x hx
  rcases List.mem_append.1 hx with h1 | h1
  · have : ∀ y ∈ markJ, y < 256 := by decide
    exact this x h1
  · simp at h1; omega

set_option maxHeartbeats 2000000 in
theorem hdR1_wp {c0 c3 c4 c5 c6 c7 c8 c9 c10 c11 : Value} (jb hb f n c : Nat) (p : Option Addr) (w : World) (Q : Exit → Act → World → Prop) (hj : Blk w jb 144 [.int .i64 (f : Int), .slice p n c]) (hB : Blk w hb 89 Tryz.zeroCells89.toList) (hf : f < 256) (hn : n < 256)
    (hQ : ∀ (u3 u4 u5 u6 u7 u8 u9 u10 u11 : Value) (w1 : World), Below w.heap.size w w1 → Q .normal ⟨#[c0, .pointer (some ⟨jb, 0, none⟩), .pointer (some ⟨hb, 0, none⟩), u3, u4, u5, u6, u7, u8, u9, u10, u11], []⟩ (w1.setCells hb 0 (u8s (hdSec f n)))) :
    Code.wp Tryz.prog (rgn Tryz.f127 1) Q ⟨#[c0, .pointer (some ⟨jb, 0, none⟩), .pointer (some ⟨hb, 0, none⟩), c3, c4, c5, c6, c7, c8, c9, c10, c11], []⟩ w := by
  have hC : (fun wx : World => Below w.heap.size w wx) w.drew := (Below.refl w.heap.size w).drew
  have hlt := hj.lt
  have hltB := hB.lt
  have hz : Tryz.zeroCells89.toList.length = 128 := by rw [zeroSec]; simp
  have hsl := (hdSec_sec hf hn).len
  have hb1' := bts_numS hf
  have hb2' := bts_numS hn
  conv => arg 2; whnf
  refine wp_region_z 9 (fun wx : World => Below w.heap.size w wx) (by kernel_rfl) ?_
  refine wpAnyZ_pure (k := 0) (v := .pointer (some ⟨jb, 0, none⟩)) (by rfl) (by kernel_rfl) (by kernel_rfl) (by kernel_rfl) (by rfl) (some 3) (by rfl) (by kernel_rfl) hC (fun _ _ => by kernel_rfl) ?_
  simp only [Act.put, List.setIfInBounds_toArray, List.set_cons_succ, List.set_cons_zero]
  refine wpAnyZ_pure (k := 1) (v := .int .i64 (f : Int)) (by rfl) (by kernel_rfl) (by kernel_rfl) (by kernel_rfl) (by rfl) (some 4) (by rfl) (by kernel_rfl) hC (fun wx hx => exec_ld (by rfl) (by rfl) (loadInt wx jb 0 _ (by rw [hx.cell (p := ⟨jb, 0, none⟩) hlt, hj.cell]; rfl))) ?_
  simp only [Act.put, List.setIfInBounds_toArray, List.set_cons_succ, List.set_cons_zero]
  refine wpAnyZ_pure (k := 3) (v := .pointer (some ⟨jb, 1, none⟩)) (by rfl) (by kernel_rfl) (by kernel_rfl) (by kernel_rfl) (by rfl) (some 6) (by rfl) (by kernel_rfl) hC (fun _ _ => by kernel_rfl) ?_
  simp only [Act.put, List.setIfInBounds_toArray, List.set_cons_succ, List.set_cons_zero]
  refine wpAnyZ_pure (k := 4) (v := .slice p n c) (by rfl) (by kernel_rfl) (by kernel_rfl) (by kernel_rfl) (by rfl) (some 7) (by rfl) (by kernel_rfl) hC (fun wx hx => exec_ld (by rfl) (by rfl) (loadStrs wx jb 1 p n c (by rw [hx.cell (p := ⟨jb, 1, none⟩) hlt, hj.cell]; rfl))) ?_
  simp only [Act.put, List.setIfInBounds_toArray, List.set_cons_succ, List.set_cons_zero]
  refine wpAnyZ_pure (k := 5) (v := .int .i64 (n : Int)) (by rfl) (by kernel_rfl) (by kernel_rfl) (by kernel_rfl) (by rfl) (some 8) (by rfl) (by kernel_rfl) hC (fun _ _ => by kernel_rfl) ?_
  simp only [Act.put, List.setIfInBounds_toArray, List.set_cons_succ, List.set_cons_zero]
  have hb0 : Below w.heap.size w w.drew := hC
  refine wpAnyZ_call (i := 2) (f := 108) (vs := #[.int .i64 (f : Int)]) (by kernel_rfl) (by rfl) (by rfl) (some 5) (by rfl) (by kernel_rfl) ((number_any f _ hf).mono ?_)
  rintro e w1 ⟨rfl, hb1⟩
  have hw1 : Below w.heap.size w w1 := hb0.trans hb1
  refine ⟨_, rfl, fun _ => hw1, ?_⟩
  simp only [Act.put, List.setIfInBounds_toArray, List.set_cons_succ, List.set_cons_zero]
  refine wpAnyZ_call (i := 6) (f := 108) (vs := #[.int .i64 (n : Int)]) (by kernel_rfl) (by rfl) (by rfl) (some 9) (by rfl) (by kernel_rfl) ((number_any n w1 hn).mono ?_)
  rintro e w2 ⟨rfl, hb2⟩
  have hw2 : Below w.heap.size w w2 := hw1.trans (hb2.mono hw1.size)
  refine ⟨_, rfl, fun _ => hw2, ?_⟩
  simp only [Act.put, List.setIfInBounds_toArray, List.set_cons_succ, List.set_cons_zero]
  have hst := strs_three w2 ⟨#[103, 114, 111, 118, 101, 32, 106, 111, 117, 114, 110, 97, 108]⟩ (numS f) (numS n)
  have hfl : flat [⟨#[103, 114, 111, 118, 101, 32, 106, 111, 117, 114, 110, 97, 108]⟩, numS f, numS n] = markJ ++ [f, n] := by
    simp only [flat, List.flatMap_cons, List.flatMap_nil, hb1', hb2']
    simp; rfl
  have hb3 : Below w2.heap.size w2 (w2.alloc (.cells #[.string ⟨#[103, 114, 111, 118, 101, 32, 106, 111, 117, 114, 110, 97, 108]⟩, .string (numS f), .string (numS n)] 9)) := (Below.refl _ _).alloc (Nat.le_refl _) _
  have hw3 := hw2.trans (hb3.mono hw2.size)
  refine wpAnyZ_val (i := 7) (v := .slice (some ⟨w2.heap.size, 0, none⟩) 3 3) (by kernel_rfl) (by rfl) (by rfl) (some 10) (by rfl) (exec_buildSlice (by rfl) (by kernel_rfl) (buildSlice3 w2 _ _ _)) (fun _ => hw3) ?_
  simp only [Act.put, List.setIfInBounds_toArray, List.set_cons_succ, List.set_cons_zero]
  have hso := sectorOf_any _ _ _ hst (by rw [hfl]; simp [markJ]) (by simp)
  rw [hfl] at hso
  have HE : hdSec f n = secOf (markJ ++ [f, n]) := rfl
  rw [← HE] at hso
  refine wpAnyZ_call (i := 8) (f := 107) (vs := #[.slice (some ⟨w2.heap.size, 0, none⟩) 3 3]) (by kernel_rfl) (by rfl) (by rfl) (some 11) (by rfl) (by kernel_rfl) (hso.mono ?_)
  rintro e w4 ⟨rfl, hb4⟩
  have hw4 := hw3.trans (hb4.mono hw3.size)
  refine ⟨_, rfl, fun _ => hw4, ?_⟩
  simp only [Act.put, List.setIfInBounds_toArray, List.set_cons_succ, List.set_cons_zero]
  have hB4 := hB.below hw4 hltB
  refine wpAnyZ_skip (i := 9) (by kernel_rfl) (by rfl) (by rfl) (by rfl) (exec_store (by rfl) (by rfl) (by rfl) (storeSec (hB4.there 0 128 (by omega)) hsl)) (fun e => absurd rfl e) ?_
  refine wpAnyZ_done (by kernel_rfl) ?_
  refine NoPanic.normal ?_
  exact hQ _ _ _ _ _ _ _ _ _ w4 hw4

set_option maxHeartbeats 1000000 in
theorem head_any (f n c : Nat) (p : Option Addr) (w : World) (hf : f < 256) (hn : n < 256) : Calls Tryz.prog 127 #[jV f p n c] w fun e w' => e = .returned (.agg (u8s (hdSec f n)).toArray) ∧ Below w.heap.size w w' := by
  have hb0 : Below w.heap.size w ((w.alloc (.cells #[.int .i64 (f : Int), .slice p n c] 144)).alloc (.cells Tryz.zeroCells89 89)) := ((Below.refl _ _).alloc (Nat.le_refl _) _).alloc (by simp) _
  have hJ0 : Blk ((w.alloc (.cells #[.int .i64 (f : Int), .slice p n c] 144)).alloc (.cells Tryz.zeroCells89 89)) w.heap.size 144 [.int .i64 (f : Int), .slice p n c] := (Blk.new w _ _).alloc _
  have hB0 : Blk ((w.alloc (.cells #[.int .i64 (f : Int), .slice p n c] 144)).alloc (.cells Tryz.zeroCells89 89)) (w.heap.size + 1) 89 Tryz.zeroCells89.toList := by
    have := Blk.newA (w.alloc (.cells #[.int .i64 (f : Int), .slice p n c] 144)) 89 Tryz.zeroCells89
    rw [World.size_alloc] at this
    exact this
  have hz : Tryz.zeroCells89.toList.length = 128 := by rw [zeroSec]; simp
  have hsl := (hdSec_sec hf hn).len
  unfold jV
  go_enter Tryz.func127, Tryz.ntmps127
  go_wp2_with fail
  generalize ((w.alloc (.cells #[.int .i64 (f : Int), .slice p n c] 144)).alloc (.cells Tryz.zeroCells89 89)) = w0 at *
  refine hdR1_wp w.heap.size (w.heap.size + 1) f n c p w0 _ hJ0 hB0 hf hn ?_
  intro u3 u4 u5 u6 u7 u8 u9 u10 u11 w1 hb1
  have hB1 := (hB0.below hb1 hB0.lt).fill (u8s (hdSec f n)) (by simp [hsl, hz])
  have hb2 := Below.setCells (hb0.trans (hb1.mono hb0.size)) (w.heap.size + 1) 0 (by omega) (u8s (hdSec f n))
  go_wp2_with fail
  exact bodyPost_ret (results_cell Tryz.results127 (by rfl) hB1.range Tryz.underlying89 rfl (by rw [u8s_length, hsl]; exact infoSec)) rfl ⟨rfl, hb2⟩

set_option maxHeartbeats 1000000 in
theorem removeJournal_any (b : Nat) (fv : Value) (D : Dk) (w : World) (h : DiskAt w b fv D) (hf : D.fre.length < 1000000) :
    Calls Tryz.prog 129 #[.pointer (some ⟨b, 0, none⟩)] w fun e w' => e = .returned (.tuple #[]) ∧ ∃ fv', DiskAt w' b fv' (D.write 1 (List.replicate 128 0)).flush ∧ Fr b fv.ownBlock fv'.ownBlock w w' := by
  have hs : Sec (List.replicate 128 0) := ⟨by simp, fun x hx => by rw [(List.mem_replicate.1 hx).2]; omega⟩
  have hw := write_any b fv D 1 (List.replicate 128 0) w h (by omega) hs hf
  rw [← zeroSec] at hw
  have hbd : ∀ wx, (Instr.build 89 #[]).run Tryz.prog wx = .ok (.agg Tryz.zeroCells89) wx := fun wx => run_build wx 89 _ _ (by kernel_rfl)
  go_enter Tryz.func129, Tryz.ntmps129
  go_wp2_with fail
  refine hw.mono ?_
  rintro e w2 ⟨rfl, fv2, h2, r2⟩
  go_wp2_with fail
  refine (flush_any b fv2 _ w2 h2).mono ?_
  rintro e w3 ⟨rfl, fv3, h3, r3⟩
  go_wp2
  go_end0
  exact ⟨rfl, fv3, h3, r2.trans r3⟩
end Go.Proofs.YtlhohmlpcgbliabGreatDoor
