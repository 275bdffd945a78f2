import Derived.Test.YtlhohmlpcgbliabGreatDoorZO7
import Derived.Test.YtlhohmlpcgbliabGreatDoorZK7
namespace Go.Proofs.YtlhohmlpcgbliabGreatDoor
set_option maxRecDepth 100000
open Go.RowKit

/-- The disk holds the log of these entries; a journal may be pending. -/
structure Hold1 (D : Dk) (E : List ByteArray) : Prop where
  nf : D.nf
  ok : D.ok
  fre : D.fre = []
  len : E.length ≤ 64
  siz : ∀ s ∈ E, s.size ≤ 40
  ck : D.read 0 = ckSec E.length (bts (mth (E.map leafS)))
  ent : ∀ i s, E[i]? = some s → unpL (D.slot 6 3 i) = some (bts s)
  til : ∀ k, Tiled D (E.map leafS) E.length k
theorem Holds.one {D : Dk} {E : List ByteArray} (h : Holds D E) : Hold1 D E := ⟨h.nf, h.ok, h.fre, h.len, h.siz, h.ck, h.ent, h.til⟩
theorem Hold1.all {D : Dk} {E : List ByteArray} (h : Hold1 D E) (hz : D.read 1 = zer) : Holds D E := ⟨h.nf, h.ok, h.fre, h.len, h.siz, h.ck, hz, h.ent, h.til⟩
theorem Hold1.ckN {D : Dk} {E : List ByteArray} (h : Hold1 D E) : D.ckN = E.length := by
  unfold Dk.ckN
  rw [h.ck]
  exact (ck_n (by rw [bts_length, mth32])).1
theorem Hold1.ckR {D : Dk} {E : List ByteArray} (h : Hold1 D E) : D.ckR = bts (mth (E.map leafS)) := by
  unfold Dk.ckR
  rw [h.ck]
  exact (ck_n (by rw [bts_length, mth32])).2
theorem Hold1.entry {D : Dk} {E : List ByteArray} (h : Hold1 D E) {i : Nat} {s : ByteArray} (hs : E[i]? = some s) : D.entry i = s := by
  unfold Dk.entry
  rw [h.ent i s hs, Option.getD_some, strOf_bts]

/-- The journal is removed. -/
theorem rmJ_spec {D : Dk} {E : List ByteArray} (h : Hold1 D E) : Holds D.rmJ E := by
  have hp := put_one h.nf h.ok h.fre (i := 1) (s := zer) (by omega) zer_sec
  unfold Dk.rmJ
  refine ⟨hp.1, hp.2.1, hp.2.2.1, h.len, h.siz, ?_, ?_, ?_, ?_⟩
  · rw [hp.2.2.2 0 (by omega), if_neg (by omega)]; exact h.ck
  · rw [hp.2.2.2 1 (by omega), if_pos rfl]
  · intro i s hs
    have hi : i < E.length := (List.getElem?_eq_some_iff.1 hs).1
    have := h.len
    rw [slot_of_read (D := D) (by rw [hp.2.2.2 _ (by omega), if_neg (by omega)])]
    exact h.ent i s hs
  · intro k i hi
    have h0 := h.len
    have h1 := tile_sec (k := k) (i := i) (by omega)
    have h2 := (tileAt_le (k + 1)).1
    have h3 := tile_low k
    rw [slot_of_read (D := D) (by rw [hp.2.2.2 _ (by omega), if_neg (by omega)])]
    exact h.til k i hi
/-- What the journal tells of is added. -/
theorem endJ_spec {D : Dk} {E W : List ByteArray} (h : Hold1 D E) (hz : ∀ s ∈ W, s.size ≤ 40) (hl : E.length + W.length ≤ 64) : Holds (D.endJ E.length W) (E ++ W) := by
  unfold Dk.endJ
  rw [if_pos h.ckN]
  have hk4 := keys_nil h.fre
  have hr := rowWrite_spec (start := 6) (each := 3) (.inl rfl) D E.length (packs W) h.nf h.ok (by rw [hk4]; simp) (by rw [hk4]; simp) (packs_ok hz) (by rw [packs_len]; omega) (by rw [h.fre, packs_len]; simp; omega)
  have hEW : (E ++ W).length = E.length + W.length := List.length_append
  have rent : ∀ i s, (E ++ W)[i]? = some s → i < E.length + W.length → unpL ((D.rowWrite 6 3 E.length (packs W)).slot 6 3 i) = some (bts s) := by
    intro i s hs hi
    rw [hr.slot, packs_len]
    by_cases h1 : i < E.length
    · rw [List.getElem?_append_left h1] at hs
      rw [if_neg (by omega)]
      exact h.ent i s hs
    · rw [List.getElem?_append_right (by omega)] at hs
      rw [if_pos (by omega), packs_get hs]
      exact unp_pad (hz s (List.mem_of_getElem? hs))
  have rread : ∀ j, (j < 6 ∨ 28 ≤ j) → (D.rowWrite 6 3 E.length (packs W)).read j = D.read j := fun j hj => by
    apply hr.read
    rw [packs_len]
    by_cases hw0 : W.length = 0
    · exact .inl (List.eq_nil_of_length_eq_zero (by rw [packs_len]; exact hw0))
    · right
      omega
  have rtil : ∀ k, Tiled (D.rowWrite 6 3 E.length (packs W)) ((E ++ W).map leafS) E.length k := fun k i hi => by
    have h3 := tile_low k
    rw [slot_of_read (rread _ (.inr (by omega))), h.til k i hi, List.map_append, drop_app]
    have : (i + 1) * 4 ^ k = i * 4 ^ k + 4 ^ k := Nat.succ_mul _ _
    rw [List.length_map]
    omega
  have rkeys : ∀ x ∈ (D.rowWrite 6 3 E.length (packs W)).keys, x < 28 := fun x hx => by
    rcases hr.keys x hx with h1 | ⟨hne, _, h3⟩
    · rw [hk4] at h1; simp at h1
    · rw [packs_len] at h3
      have : 0 < W.length := by
        rw [← packs_len]
        cases hq : packs W with
        | nil => exact absurd hq hne
        | cons _ _ => simp
      omega
  have hfre := hr.fre
  rw [h.fre, packs_len] at hfre
  have hg := grow_spec (E := E ++ W) (first := E.length) (n := E.length + W.length) (by omega) hl (by rw [hEW]; exact Nat.le_refl _) _ hr.nf hr.ok hr.nd rkeys rent rtil (by simp at hfre; omega)
  unfold Dk.put
  generalize D.rowWrite 6 3 E.length (packs W) = D5 at *
  generalize D5.grow E.length (E.length + W.length) = D6 at *
  have hfl := hg.nf.flush
  have hok7 := hg.ok.flush
  have hrd7 := hg.nf.flush_read hg.ok hg.nd
  generalize D6.flush = D7 at *
  have til7 : ∀ k, Tiled D7 ((E ++ W).map leafS) (E.length + W.length) k := fun k i hi => by
    have h1 := tile_sec (k := k) (i := i) (by omega)
    have h2 := (tileAt_le (k + 1)).1
    rw [slot_of_read (hrd7 _ (by omega))]
    exact hg.tiled k i hi
  have hroot : D7.span 0 (E.length + W.length) = mth ((E ++ W).map leafS) := by
    rw [span_mth til7 (by rw [List.length_map, hEW]; exact Nat.le_refl _) (E.length + W.length) (E.length + W.length) 0 6 (Nat.le_refl _) (by show _ ≤ 64; exact hl) (Nat.dvd_zero _) (by omega), List.drop_zero, List.take_of_length_le (by rw [List.length_map, hEW]; exact Nat.le_refl _)]
  have low7 : ∀ j, j < 28 → D7.read j = D5.read j := fun j hj => by rw [hrd7 j (by omega), hg.read j hj]
  unfold Dk.ckp
  rw [hroot]
  have h32 := mth32 (E := E ++ W)
  have hp8 := put_one hfl.1 hok7 hfl.2 (i := 0) (s := ckSec (E.length + W.length) (bts (mth ((E ++ W).map leafS)))) (by omega) (ckSec_sec (by omega) (by omega))
  generalize (D7.write 0 (ckSec (E.length + W.length) (bts (mth ((E ++ W).map leafS))))).flush = D8 at *
  unfold Dk.rmJ
  have hp9 := put_one hp8.1 hp8.2.1 hp8.2.2.1 (i := 1) (s := zer) (by omega) zer_sec
  generalize (D8.write 1 zer).flush = D9 at *
  have hi9 : ∀ j, 2 ≤ j → j < 200 → D9.read j = D7.read j := fun j h1 h2 => by
    rw [hp9.2.2.2 j h2, if_neg (by omega), hp8.2.2.2 j h2, if_neg (by omega)]
  refine ⟨hp9.1, hp9.2.1, hp9.2.2.1, by rw [hEW]; exact hl, ?_, ?_, ?_, ?_, ?_⟩
  · intro s hs
    rcases List.mem_append.1 hs with h1 | h1
    · exact h.siz s h1
    · exact hz s h1
  · rw [hp9.2.2.2 0 (by omega), if_neg (by omega), hp8.2.2.2 0 (by omega), if_pos rfl, hEW]
  · rw [hp9.2.2.2 1 (by omega), if_pos rfl]
  · intro i s hs
    have hi : i < E.length + W.length := by rw [← hEW]; exact (List.getElem?_eq_some_iff.1 hs).1
    rw [slot_of_read (hi9 _ (by omega) (by omega)), slot_of_read (low7 _ (by omega))]
    exact rent i s hs hi
  · intro k i hi
    rw [hEW] at hi
    have h1 := tile_sec (k := k) (i := i) (by omega)
    have h2 := (tileAt_le (k + 1)).1
    have h3 := tile_low k
    rw [slot_of_read (hi9 _ (by omega) (by omega))]
    exact til7 k i hi

theorem endJ_done {D : Dk} {E : List ByteArray} (h : Hold1 D E) {f : Nat} {W : List ByteArray} (hf : f ≠ E.length) : Holds (D.endJ f W) E := by
  unfold Dk.endJ
  rw [if_neg (by rw [h.ckN]; omega)]
  exact rmJ_spec h
theorem recv_spec {D : Dk} {E : List ByteArray} (h : Hold1 D E) (hf : D.fits E.length) : ∃ E', Holds D.recv E' ∧ (E' = E ∨ (E' = E ++ D.jE D.jN ∧ D.read 1 ≠ zer ∧ D.jF = E.length)) := by
  unfold Dk.recv
  by_cases hz : D.read 1 = zer
  · rw [if_pos hz]
    exact ⟨E, h.all hz, .inl rfl⟩
  · rw [if_neg hz]
    rcases hf with h0 | ⟨h1, h2, h3⟩
    · exact absurd h0 hz
    · by_cases he : D.jF = E.length
      · rw [he]
        exact ⟨E ++ D.jE D.jN, endJ_spec h (jE_siz h.ok _) (by omega), .inr ⟨rfl, hz, rfl⟩⟩
      · exact ⟨E, endJ_done h he, .inl rfl⟩
end Go.Proofs.YtlhohmlpcgbliabGreatDoor
namespace Go.Proofs.YtlhohmlpcgbliabGreatDoor
set_option maxRecDepth 100000
open Go.RowKit
attribute [local go_sem ↓] Go.wp_at_zero Go.wp_at_succ

set_option maxHeartbeats 400000 in
theorem nilNone_any (w : World) : Calls Tryz.prog 88 #[.pointer none] w fun e w' => e = .returned (.bool true) ∧ w' = w := by
  go_enter Tryz.func88, Tryz.ntmps88
  go_wp2
  go_ret
  exact ⟨rfl, rfl⟩
set_option maxHeartbeats 400000 in
theorem nilDown_any (w : World) : Calls Tryz.prog 66 #[.pointer none] w fun e w' => e = .returned (.bool true) ∧ w' = w := by
  have hd := nilNone_any w
  go_enter Tryz.func66, Tryz.ntmps66
  go_wp2_with fail
  refine hd.mono ?_
  rintro e w1 ⟨rfl, rfl⟩
  go_wp2
  go_ret
  exact ⟨rfl, rfl⟩
set_option maxHeartbeats 400000 in
theorem nilCk_any (w : World) : Calls Tryz.prog 38 #[.pointer none] w fun e w' => e = .returned (.tuple #[.int .i64 0, .string ⟨#[]⟩, .int .i64 3]) ∧ w' = w := by
  have hd := nilDown_any w
  go_enter Tryz.func38, Tryz.ntmps38
  go_wp2_with fail
  refine hd.mono ?_
  rintro e w1 ⟨rfl, rfl⟩
  go_wp2
  go_ret3
  exact ⟨rfl, rfl⟩
set_option maxHeartbeats 400000 in
theorem nilRefused_any (w : World) : Calls Tryz.prog 90 #[.pointer none] w fun e w' => e = .returned (.int .i64 3) ∧ w' = w := by
  have hd := nilDown_any w
  go_enter Tryz.func90, Tryz.ntmps90
  go_wp2_with fail
  refine hd.mono ?_
  rintro e w1 ⟨rfl, rfl⟩
  go_wp2
  go_ret
  exact ⟨rfl, rfl⟩
set_option maxHeartbeats 400000 in
theorem nilRecover_any (w : World) : Calls Tryz.prog 73 #[.pointer none] w fun e w' => e = .returned (.int .i64 3) ∧ w' = w := by
  have hd := nilDown_any w
  go_enter Tryz.func73, Tryz.ntmps73
  go_wp2_with fail
  refine hd.mono ?_
  rintro e w1 ⟨rfl, rfl⟩
  go_wp2
  go_ret
  exact ⟨rfl, rfl⟩
set_option maxHeartbeats 400000 in
theorem nilEntry_any (i : Int) (w : World) : Calls Tryz.prog 40 #[.pointer none, .int .i64 i] w fun e w' => e = .returned (.tuple #[.string ⟨#[]⟩, .int .i64 3]) ∧ w' = w := by
  have hd := nilCk_any w
  go_enter Tryz.func40, Tryz.ntmps40
  go_wp2_with fail
  refine hd.mono ?_
  rintro e w1 ⟨rfl, rfl⟩
  go_wp2
  go_ret2
  exact ⟨rfl, rfl⟩
set_option maxHeartbeats 400000 in
theorem nilInclusion_any (i n : Int) (w : World) : Calls Tryz.prog 42 #[.pointer none, .int .i64 i, .int .i64 n] w fun e w' => e = .returned (.tuple #[.slice none 0 0, .int .i64 3]) ∧ w' = w := by
  have hd := nilCk_any w
  go_enter Tryz.func42, Tryz.ntmps42
  go_wp2_with fail
  refine hd.mono ?_
  rintro e w1 ⟨rfl, rfl⟩
  go_wp2
  go_ret2
  exact ⟨rfl, rfl⟩
set_option maxHeartbeats 400000 in
theorem nilConsistency_any (i n : Int) (w : World) : Calls Tryz.prog 46 #[.pointer none, .int .i64 i, .int .i64 n] w fun e w' => e = .returned (.tuple #[.slice none 0 0, .int .i64 3]) ∧ w' = w := by
  have hd := nilCk_any w
  go_enter Tryz.func46, Tryz.ntmps46
  go_wp2_with fail
  refine hd.mono ?_
  rintro e w1 ⟨rfl, rfl⟩
  go_wp2
  go_ret2
  exact ⟨rfl, rfl⟩
set_option maxHeartbeats 400000 in
theorem nilSubmit_any (v : Value) (w : World) : Calls Tryz.prog 62 #[.pointer none, v] w fun e w' => e = .returned (.int .i64 3) ∧ w' = w := by
  have hd := nilRefused_any w
  go_enter Tryz.func62, Tryz.ntmps62
  go_wp2_with fail
  refine hd.mono ?_
  rintro e w1 ⟨rfl, rfl⟩
  go_wp2
  go_ret
  exact ⟨rfl, rfl⟩
set_option maxHeartbeats 400000 in
theorem nilFlush_any (w : World) : Calls Tryz.prog 64 #[.pointer none] w fun e w' => e = .returned (.tuple #[.int .i64 0, .int .i64 3]) ∧ w' = w := by
  have hd := nilRefused_any w
  go_enter Tryz.func64, Tryz.ntmps64
  go_wp2_with fail
  refine hd.mono ?_
  rintro e w1 ⟨rfl, rfl⟩
  go_wp2
  go_ret2
  exact ⟨rfl, rfl⟩
end Go.Proofs.YtlhohmlpcgbliabGreatDoor
namespace Go.Proofs.YtlhohmlpcgbliabGreatDoor
set_option maxRecDepth 100000
open Go.RowKit
attribute [local go_sem ↓] Go.wp_at_zero Go.wp_at_succ

theorem jFit {D : Dk} {n : Nat} (h : D.fits n) : D.jF + (D.jE D.jN).length ≤ 76 := by
  have hl := jE_len D D.jN
  rcases h with h | ⟨_, h, _⟩
  · have : D.jF = 0 := by
      unfold Dk.jF
      rw [h]
      rfl
    omega
  · omega
theorem Lg.recv {B w : World} {a : Nat} {D : Dk} {W E : List ByteArray} (h : Lg B w a D W) (hH : Hold1 D E) (hf : D.fits E.length) (ht : Table B) (hg : 2 < B.heap.size) : Calls Tryz.prog 73 #[.pointer (some ⟨a, 0, none⟩)] w fun e w' => e = .returned (.int .i64 0) ∧ Lg B w' a D.recv W := by
  obtain ⟨b, fv, wv, hL, ho⟩ := h.ex
  obtain ⟨E', hE, _⟩ := recv_spec hH hf
  refine (logRecover_any hL hH.nf.failed (jFit hf) (by rw [hH.fre]; simp) (env_of ht hg h.bel (ho _ (.inr (.inl rfl))) (fun j hj => ho j (.inr (.inr (.inl hj)))))).mono ?_
  rintro e w' ⟨c, rfl, hc, fv', hL', hR'⟩
  obtain ⟨hb4, hf4, hw4⟩ := FrL.below h.bel hR' (ho _ (.inl rfl)) (ho _ (.inr (.inl rfl))) (fun j hj => ho j (.inr (.inr (.inl hj)))) (fun j hj => ho j (.inr (.inr (.inr hj))))
  rcases hc with ⟨h1, _⟩ | ⟨_, rfl⟩
  · rw [hE.nf.failed] at h1; cases h1
  · refine ⟨rfl, hb4, b, fv', wv, hL', ?_⟩
    intro j hj
    rcases hj with e | e | e | e
    · rw [e]; exact ho _ (.inl rfl)
    · rw [e]; exact ho _ (.inr (.inl rfl))
    · exact hf4 j e
    · exact hw4 j e
end Go.Proofs.YtlhohmlpcgbliabGreatDoor
namespace Go.Proofs.YtlhohmlpcgbliabGreatDoor
set_option maxRecDepth 100000
open Go.RowKit
attribute [local go_sem ↓] Go.wp_at_zero Go.wp_at_succ

set_option maxHeartbeats 400000 in
theorem nilActs_any (w : World) : Calls Tryz.prog 61 #[.pointer none] w fun e w' => e = .returned (.int .i64 0) ∧ w' = w := by
  have hd := nilNone_any w
  go_enter Tryz.func61, Tryz.ntmps61
  go_wp2_with fail
  refine hd.mono ?_
  rintro e w1 ⟨rfl, rfl⟩
  go_wp2
  go_ret
  exact ⟨rfl, rfl⟩
set_option maxHeartbeats 400000 in
theorem nilWaiting_any (w : World) : Calls Tryz.prog 72 #[.pointer none] w fun e w' => e = .returned (.int .i64 0) ∧ w' = w := by
  have hd := nilNone_any w
  go_enter Tryz.func72, Tryz.ntmps72
  go_wp2_with fail
  refine hd.mono ?_
  rintro e w1 ⟨rfl, rfl⟩
  go_wp2
  go_ret
  exact ⟨rfl, rfl⟩
set_option maxHeartbeats 400000 in
theorem nilBytes_any (w : World) : Calls Tryz.prog 74 #[.pointer none] w fun e w' => e = .returned (.string ⟨#[]⟩) ∧ w' = w := by
  have hd := nilNone_any w
  go_enter Tryz.func74, Tryz.ntmps74
  go_wp2_with fail
  refine hd.mono ?_
  rintro e w1 ⟨rfl, rfl⟩
  go_wp2
  go_ret
  exact ⟨rfl, rfl⟩
set_option maxHeartbeats 400000 in
theorem nilFail_any (a k : Int) (w : World) : Calls Tryz.prog 76 #[.pointer none, .int .i64 a, .int .i64 k] w fun e w' => e = .returned (.int .i64 3) ∧ w' = w := by
  have hd := nilDown_any w
  go_enter Tryz.func76, Tryz.ntmps76
  go_wp2_with fail
  refine hd.mono ?_
  rintro e w1 ⟨rfl, rfl⟩
  go_wp2
  go_ret
  exact ⟨rfl, rfl⟩
set_option maxHeartbeats 400000 in
theorem logFail_neg {w : World} {a b : Nat} {fv wv : Value} {D : Dk} {W : List ByteArray} (h : LogAt w a b fv wv D W) (hf : D.failed = false) (after keep : Int) (ha : after < 0) : Calls Tryz.prog 76 #[.pointer (some ⟨a, 0, none⟩), .int .i64 after, .int .i64 keep] w fun e w' => e = .returned (.int .i64 1) ∧ w' = w := by
  have hd := down_any h
  rw [hf] at hd
  clear hf
  go_enter Tryz.func76, Tryz.ntmps76
  go_wp2_with fail
  refine hd.mono ?_
  rintro e w1 ⟨rfl, rfl⟩
  go_wp2
  go_ret
  exact ⟨rfl, rfl⟩
set_option maxHeartbeats 400000 in
theorem logWaiting_any {w : World} {a b : Nat} {fv wv : Value} {D : Dk} {W : List ByteArray} (h : LogAt w a b fv wv D W) : Calls Tryz.prog 72 #[.pointer (some ⟨a, 0, none⟩)] w fun e w' => e = .returned (.int .i64 (W.length : Int)) ∧ w' = w := by
  have hd := none_any h
  have hc1 := h.blk.cell 1
  simp only [List.getElem?_cons_zero, List.getElem?_cons_succ] at hc1
  obtain ⟨p, cap, hwv⟩ := h.wv
  rw [hwv] at hc1
  clear hwv h
  go_enter Tryz.func72, Tryz.ntmps72
  go_wp2_with fail
  refine hd.mono ?_
  rintro e w1 ⟨rfl, rfl⟩
  go_wp2
  go_ret
  exact ⟨rfl, rfl⟩

/-! ### Two logs, two of the document's, and lists: whose block is whose -/
/-- A log of the program. -/
structure XS where
  a : Nat
  b : Nat
  fv : Value
  wv : Value
  D : Dk
  W : List ByteArray
/-- One of the document's. -/
structure YS where
  r : Nat
  ev : Value
  uv : Value
  E : List ByteArray
  W : List ByteArray
def XS.at (x : XS) (w : World) : Prop := LogAt w x.a x.b x.fv x.wv x.D x.W
def XS.own (x : XS) (k : Nat) : Prop := Own x.a x.b x.fv.ownBlock x.wv.ownBlock k
def YS.at (y : YS) (w : World) : Prop := RefAt w y.r y.ev y.uv y.E y.W
def YS.own (y : YS) (k : Nat) : Prop := Own y.r y.r y.ev.ownBlock y.uv.ownBlock k
def xp : Option XS → Value
  | none => .pointer none
  | some x => .pointer (some ⟨x.a, 0, none⟩)
def yp : Option YS → Value
  | none => .pointer none
  | some y => .pointer (some ⟨y.r, 0, none⟩)
def upd {α : Type} (X : Nat → Option α) (k : Nat) (v : Option α) : Nat → Option α := fun j => if j = k then v else X j
/-- Which colour a block has when those from n on have the colour c. -/
def ncol (col : Nat → Nat) (n c : Nat) : Nat → Nat := fun k => if k < n then col k else c
theorem ncol_old {col : Nat → Nat} {n c k : Nat} (h : k < n) : ncol col n c k = col k := if_pos h
theorem ncol_new {col : Nat → Nat} {n c k : Nat} (h : n ≤ k) : ncol col n c k = c := if_neg (by omega)
/-- Only blocks of one colour have changed. -/
structure Chg (col : Nat → Nat) (c : Nat) (w w' : World) : Prop where
  os : w'.os = w.os
  tape : w'.tape = w.tape
  output : w'.output = w.output
  size : w.heap.size ≤ w'.heap.size
  block : ∀ k, k < w.heap.size → col k ≠ c → w'.heap[k]? = w.heap[k]?
theorem Chg.of_below {col : Nat → Nat} {c : Nat} {w w' : World} (h : Below w.heap.size w w') : Chg col c w w' := ⟨h.os, h.tape, h.output, h.size, fun k hk _ => h.block k hk⟩
theorem Chg.of_frl {col : Nat → Nat} {c : Nat} {w w' : World} {a b : Nat} {g h g' h' : Option Nat} (r : FrL a b g h g' h' w w') (hc : ∀ j, Own a b g h j → col j = c) : Chg col c w w' :=
  ⟨r.os, r.tape, r.output, r.size, fun k hk hn => r.block k hk (fun e => hn (hc k (.inl e))) (fun e => hn (hc k (.inr (.inl e)))) (fun e => hn (hc k (.inr (.inr (.inl e))))) (fun e => hn (hc k (.inr (.inr (.inr e)))))⟩
theorem Chg.of_grown {col : Nat → Nat} {c : Nat} {w w' : World} {row : Option Nat} (r : w.grownBy w' row) (hc : ∀ j, row = some j → col j = c) : Chg col c w w' :=
  ⟨r.os, r.tape, r.output, r.size, fun k hk hn => r.block k hk (fun e => hn (hc k e.symm))⟩
/-- A list of a game's: it reads as its mark; its block has the lists' colour. -/
def ML (w : World) (col : Nat → Nat) (v : Value) (mk : ByteArray) : Prop := MK w v mk ∧ ∀ j, v.ownBlock = some j → j < w.heap.size ∧ col j = 3
/-- A game: the logs, and what came out. -/
structure Gm (B w : World) (gm : Nat) (X : Nat → Option XS) (Y : Nat → Option YS) (T : List (List Value)) (av : Value) (col : Nat → Nat) : Prop where
  bel : Below B.heap.size B w
  low : ∀ j, col j ≠ 0 → B.heap.size ≤ j
  blk : Blk w gm 49 [xp (X 0), xp (X 1), xp (X 2), yp (Y 0), yp (Y 1), yp (Y 2), av]
  gmc : col gm = 1
  xat : ∀ k, k < 3 → ∀ x, X k = some x → x.at w ∧ ∀ j, x.own j → col j = 10 + k
  yat : ∀ k, k < 3 → ∀ y, Y k = some y → y.at w ∧ ∀ j, y.own j → col j = 20 + k
  all : w.ownsRow 0 74 5 av T.length T.flatten
  avc : ∀ j, av.ownBlock = some j → col j = 2
  tex : ∀ t ∈ T, ∃ l g h i mk, t = [l, g, h, i, .string mk] ∧ ML w col l mk ∧ ML w col g mk ∧ ML w col h mk ∧ ML w col i mk
/-- What has a colour lies above the base; so what is no colour's stays. -/
theorem Gm.base {B w w' : World} {gm : Nat} {X : Nat → Option XS} {Y : Nat → Option YS} {T : List (List Value)} {av : Value} {col : Nat → Nat} (G : Gm B w gm X Y T av col) {c : Nat} (h : Chg col c w w') (hc : c ≠ 0) : Below B.heap.size B w' := by
  refine G.bel.trans ⟨h.os, h.tape, h.output, h.size, fun k hk => h.block k (Nat.lt_of_lt_of_le hk G.bel.size) (fun e => ?_)⟩
  have := G.low k (by rw [e]; exact hc)
  omega
theorem ML.keep {w w' : World} {col col' : Nat → Nat} {v : Value} {mk : ByteArray} (h : ML w col v mk) (hs : w.heap.size ≤ w'.heap.size) (hb : ∀ k, k < w.heap.size → col k = 3 → w'.heap[k]? = w.heap[k]? ∧ col' k = 3) : ML w' col' v mk :=
  ⟨h.1.block (fun k e hk => (hb k hk (h.2 k e).2).1), fun j e => ⟨Nat.lt_of_lt_of_le (h.2 j e).1 hs, (hb j (h.2 j e).1 (h.2 j e).2).2⟩⟩
/-- A change of one colour, c, and colours that keep all others: what is not of that colour stands. -/
theorem Gm.rest {B w w' : World} {gm : Nat} {X : Nat → Option XS} {Y : Nat → Option YS} {T : List (List Value)} {av : Value} {col col' : Nat → Nat} (G : Gm B w gm X Y T av col) {c : Nat} (h : Chg col c w w') (hcol : ∀ k, k < w.heap.size → col' k = col k) :
    (c ≠ 1 → Blk w' gm 49 [xp (X 0), xp (X 1), xp (X 2), yp (Y 0), yp (Y 1), yp (Y 2), av]) ∧ col' gm = 1 ∧
    (∀ k, k < 3 → c ≠ 10 + k → ∀ x, X k = some x → x.at w' ∧ ∀ j, x.own j → col' j = 10 + k) ∧
    (∀ k, k < 3 → c ≠ 20 + k → ∀ y, Y k = some y → y.at w' ∧ ∀ j, y.own j → col' j = 20 + k) ∧
    (c ≠ 2 → w'.ownsRow 0 74 5 av T.length T.flatten) ∧ (∀ j, av.ownBlock = some j → col' j = 2) ∧
    (c ≠ 3 → ∀ t ∈ T, ∃ l g h i mk, t = [l, g, h, i, .string mk] ∧ ML w' col' l mk ∧ ML w' col' g mk ∧ ML w' col' h mk ∧ ML w' col' i mk) := by
  refine ⟨fun hc => ?_, ?_, fun k hk hc x hx => ?_, fun k hk hc y hy => ?_, fun hc => ?_, fun j hj => ?_, fun hc t ht => ?_⟩
  · unfold Blk
    rw [h.block gm G.blk.lt (by rw [G.gmc]; omega)]
    exact G.blk
  · rw [hcol gm G.blk.lt, G.gmc]
  · obtain ⟨h1, h2⟩ := G.xat k hk x hx
    exact ⟨h1.keep fun j hj => h.block j (h1.lt j hj) (by rw [h2 j hj]; omega), fun j hj => by rw [hcol j (h1.lt j hj)]; exact h2 j hj⟩
  · obtain ⟨h1, h2⟩ := G.yat k hk y hy
    exact ⟨h1.keep fun j hj => h.block j (h1.lt j hj) (by rw [h2 j hj]; omega), fun j hj => by rw [hcol j (h1.lt j hj)]; exact h2 j hj⟩
  · exact ownsRow_kept G.all fun j hj hl => h.block j hl (by rw [G.avc j hj]; omega)
  · rw [hcol j (G.all.lt j hj).2]
    exact G.avc j hj
  · obtain ⟨l, g, hh, i, mk, e, h1, h2, h3, h4⟩ := G.tex t ht
    have hb : ∀ k, k < w.heap.size → col k = 3 → w'.heap[k]? = w.heap[k]? ∧ col' k = 3 := fun k hk hk3 => ⟨h.block k hk (by rw [hk3]; omega), by rw [hcol k hk]; exact hk3⟩
    exact ⟨l, g, hh, i, mk, e, h1.keep h.size hb, h2.keep h.size hb, h3.keep h.size hb, h4.keep h.size hb⟩
/-- Nothing old has changed; new blocks have the colour c. -/
theorem Gm.below {B w w' : World} {gm : Nat} {X : Nat → Option XS} {Y : Nat → Option YS} {T : List (List Value)} {av : Value} {col : Nat → Nat} (G : Gm B w gm X Y T av col) (h : Below w.heap.size w w') (c : Nat) : Gm B w' gm X Y T av (ncol col w.heap.size c) := by
  have hc : Chg col 7 w w' := Chg.of_below h
  obtain ⟨h1, h2, h3, h4, h5, h6, h7⟩ := G.rest hc (col' := ncol col w.heap.size c) fun k hk => ncol_old hk
  refine ⟨G.base hc (by omega), fun j hj => ?_, h1 (by omega), h2, fun k hk => h3 k hk (by omega), fun k hk => h4 k hk (by omega), h5 (by omega), h6, h7 (by omega)⟩
  by_cases hl : j < w.heap.size
  · rw [ncol_old hl] at hj; exact G.low j hj
  · have := G.bel.size; omega
/-- A list that is being made (colour 4) changes. -/
theorem Gm.list {B w w' : World} {gm : Nat} {X : Nat → Option XS} {Y : Nat → Option YS} {T : List (List Value)} {av : Value} {col : Nat → Nat} (G : Gm B w gm X Y T av col) (h : Chg col 4 w w') (c : Nat) : Gm B w' gm X Y T av (ncol col w.heap.size c) := by
  obtain ⟨h1, h2, h3, h4, h5, h6, h7⟩ := G.rest h (col' := ncol col w.heap.size c) fun k hk => ncol_old hk
  refine ⟨G.base h (by omega), fun j hj => ?_, h1 (by omega), h2, fun k hk => h3 k hk (by omega), fun k hk => h4 k hk (by omega), h5 (by omega), h6, h7 (by omega)⟩
  by_cases hl : j < w.heap.size
  · rw [ncol_old hl] at hj; exact G.low j hj
  · have := G.bel.size; omega
theorem own_new {col : Nat → Nat} {n c : Nat} {a b : Nat} {g h g' h' : Option Nat} (hold : ∀ j, Own a b g h j → col j = c) (hlt : ∀ j, Own a b g h j → j < n) (hg : g' = none ∨ g' = g ∨ ∃ k, g' = some k ∧ n ≤ k) (hh : h' = none ∨ h' = h ∨ ∃ k, h' = some k ∧ n ≤ k) : ∀ j, Own a b g' h' j → ncol col n c j = c := by
  have old : ∀ j, Own a b g h j → ncol col n c j = c := fun j hj => by rw [ncol_old (hlt j hj)]; exact hold j hj
  intro j hj
  rcases hj with e | e | e | e
  · exact old j (.inl e)
  · exact old j (.inr (.inl e))
  · rcases hg with e1 | e1 | ⟨k, e1, hk⟩
    · rw [e1] at e; cases e
    · rw [e1] at e; exact old j (.inr (.inr (.inl e)))
    · rw [e1] at e; injection e with e; exact ncol_new (by omega)
  · rcases hh with e1 | e1 | ⟨k, e1, hk⟩
    · rw [e1] at e; cases e
    · rw [e1] at e; exact old j (.inr (.inr (.inr e)))
    · rw [e1] at e; injection e with e; exact ncol_new (by omega)
theorem upd_same {α : Type} (X : Nat → Option α) (k : Nat) (v : Option α) : upd X k v k = v := if_pos rfl
theorem upd_other {α : Type} (X : Nat → Option α) (k j : Nat) (v : Option α) (h : j ≠ k) : upd X k v j = X j := if_neg h
theorem xp_upd {X : Nat → Option XS} {k : Nat} {x x' : XS} (hx : X k = some x) (ha : x'.a = x.a) (j : Nat) : xp (upd X k (some x') j) = xp (X j) := by
  by_cases e : j = k
  · subst e
    rw [upd_same, hx, xp, xp, ha]
  · rw [upd_other _ _ _ _ e]
theorem yp_upd {Y : Nat → Option YS} {k : Nat} {y y' : YS} (hy : Y k = some y) (ha : y'.r = y.r) (j : Nat) : yp (upd Y k (some y') j) = yp (Y j) := by
  by_cases e : j = k
  · subst e
    rw [upd_same, hy, yp, yp, ha]
  · rw [upd_other _ _ _ _ e]
/-- A call of the log k. -/
theorem Gm.stepX {B w w' : World} {gm : Nat} {X : Nat → Option XS} {Y : Nat → Option YS} {T : List (List Value)} {av : Value} {col : Nat → Nat} (G : Gm B w gm X Y T av col) {k : Nat} (hk : k < 3) {x : XS} (hx : X k = some x) {fv' wv' : Value} {D' : Dk} {W' : List ByteArray} (hL : LogAt w' x.a x.b fv' wv' D' W') (r : FrL x.a x.b x.fv.ownBlock x.wv.ownBlock fv'.ownBlock wv'.ownBlock w w') :
    Gm B w' gm (upd X k (some ⟨x.a, x.b, fv', wv', D', W'⟩)) Y T av (ncol col w.heap.size (10 + k)) := by
  obtain ⟨hx1, hx2⟩ := G.xat k hk x hx
  have hc : Chg col (10 + k) w w' := Chg.of_frl r hx2
  obtain ⟨h1, h2, h3, h4, h5, h6, h7⟩ := G.rest hc (col' := ncol col w.heap.size (10 + k)) fun k hk => ncol_old hk
  refine ⟨G.base hc (by omega), fun j hj => ?_, ?_, h2, fun j hj z hz => ?_, fun j hj => h4 j hj (by omega), h5 (by omega), h6, h7 (by omega)⟩
  · by_cases hl : j < w.heap.size
    · rw [ncol_old hl] at hj; exact G.low j hj
    · have := G.bel.size; omega
  · have e := fun j => xp_upd (x' := ⟨x.a, x.b, fv', wv', D', W'⟩) hx rfl j
    rw [e, e, e]
    exact h1 (by omega)
  · by_cases e : j = k
    · subst e
      rw [upd_same] at hz
      injection hz with hz
      subst hz
      exact ⟨hL, own_new hx2 hx1.lt r.own r.own2⟩
    · rw [upd_other _ _ _ _ e] at hz
      exact h3 j hj (by omega) z hz
/-- A call of the document's log k. -/
theorem Gm.stepY {B w w' : World} {gm : Nat} {X : Nat → Option XS} {Y : Nat → Option YS} {T : List (List Value)} {av : Value} {col : Nat → Nat} (G : Gm B w gm X Y T av col) {k : Nat} (hk : k < 3) {y : YS} (hy : Y k = some y) {ev' uv' : Value} {E' W' : List ByteArray} (hL : RefAt w' y.r ev' uv' E' W') (r : FrL y.r y.r y.ev.ownBlock y.uv.ownBlock ev'.ownBlock uv'.ownBlock w w') :
    Gm B w' gm X (upd Y k (some ⟨y.r, ev', uv', E', W'⟩)) T av (ncol col w.heap.size (20 + k)) := by
  obtain ⟨hx1, hx2⟩ := G.yat k hk y hy
  have hc : Chg col (20 + k) w w' := Chg.of_frl r hx2
  obtain ⟨h1, h2, h3, h4, h5, h6, h7⟩ := G.rest hc (col' := ncol col w.heap.size (20 + k)) fun k hk => ncol_old hk
  refine ⟨G.base hc (by omega), fun j hj => ?_, ?_, h2, fun j hj => h3 j hj (by omega), fun j hj z hz => ?_, h5 (by omega), h6, h7 (by omega)⟩
  · by_cases hl : j < w.heap.size
    · rw [ncol_old hl] at hj; exact G.low j hj
    · have := G.bel.size; omega
  · have e := fun j => yp_upd (y' := ⟨y.r, ev', uv', E', W'⟩) hy rfl j
    rw [e, e, e]
    exact h1 (by omega)
  · by_cases e : j = k
    · subst e
      rw [upd_same] at hz
      injection hz with hz
      subst hz
      exact ⟨hL, own_new hx2 hx1.lt r.own r.own2⟩
    · rw [upd_other _ _ _ _ e] at hz
      exact h4 j hj (by omega) z hz
end Go.Proofs.YtlhohmlpcgbliabGreatDoor
namespace Go.Proofs.YtlhohmlpcgbliabGreatDoor
set_option maxRecDepth 100000
open Go.RowKit
attribute [local go_sem ↓] Go.wp_at_zero Go.wp_at_succ

theorem Gm.cx {B w : World} {gm : Nat} {X : Nat → Option XS} {Y : Nat → Option YS} {T : List (List Value)} {av : Value} {col : Nat → Nat} (G : Gm B w gm X Y T av col) {k : Nat} (hk : k < 3) : w.cell? ⟨gm, k, none⟩ = some (xp (X k)) := by
  rw [G.blk.cell]
  match k, hk with
  | 0, _ => rfl
  | 1, _ => rfl
  | 2, _ => rfl
theorem Gm.cy {B w : World} {gm : Nat} {X : Nat → Option XS} {Y : Nat → Option YS} {T : List (List Value)} {av : Value} {col : Nat → Nat} (G : Gm B w gm X Y T av col) {k : Nat} (hk : k < 3) : w.cell? ⟨gm, 3 + k, none⟩ = some (yp (Y k)) := by
  rw [G.blk.cell]
  match k, hk with
  | 0, _ => rfl
  | 1, _ => rfl
  | 2, _ => rfl
theorem Gm.ca {B w : World} {gm : Nat} {X : Nat → Option XS} {Y : Nat → Option YS} {T : List (List Value)} {av : Value} {col : Nat → Nat} (G : Gm B w gm X Y T av col) : w.cell? ⟨gm, 6, none⟩ = some av := by
  rw [G.blk.cell]
  rfl
theorem Gm.av {B w : World} {gm : Nat} {X : Nat → Option XS} {Y : Nat → Option YS} {T : List (List Value)} {av : Value} {col : Nat → Nat} (G : Gm B w gm X Y T av col) : ∃ p c, av = .slice p T.length c := by
  rcases G.all.2 with ⟨rfl, h0⟩ | ⟨g, cap, cur, rfl, _⟩
  · exact ⟨none, 0, by rw [h0]⟩
  · exact ⟨_, _, rfl⟩
theorem set_cons_lt {X : Nat → Option XS} {ys : List Value} {k : Nat} (hk : k < 3) (x : XS) : ([xp (X 0), xp (X 1), xp (X 2)] ++ ys).set k (xp (some x)) = [xp (upd X k (some x) 0), xp (upd X k (some x) 1), xp (upd X k (some x) 2)] ++ ys := by
  match k, hk with
  | 0, _ => rfl
  | 1, _ => rfl
  | 2, _ => rfl
theorem set_cons_y {Y : Nat → Option YS} {a b c d : Value} {k : Nat} (hk : k < 3) (y : YS) : [a, b, c, yp (Y 0), yp (Y 1), yp (Y 2), d].set (3 + k) (yp (some y)) = [a, b, c, yp (upd Y k (some y) 0), yp (upd Y k (some y) 1), yp (upd Y k (some y) 2), d] := by
  match k, hk with
  | 0, _ => rfl
  | 1, _ => rfl
  | 2, _ => rfl
/-- A new log takes a place. -/
theorem Gm.setX {B w w' : World} {gm : Nat} {X : Nat → Option XS} {Y : Nat → Option YS} {T : List (List Value)} {av : Value} {col : Nat → Nat} (G : Gm B w gm X Y T av col) {k : Nat} (hk : k < 3) (hb : Below w.heap.size w w') (x : XS) (hx : x.at w') (hn : ∀ j, x.own j → w.heap.size ≤ j) :
    Gm B (w'.setCell ⟨gm, k, none⟩ (xp (some x))) gm (upd X k (some x)) Y T av (ncol col w.heap.size (10 + k)) := by
  have hgl := G.blk.lt
  have G1 := G.below hb (10 + k)
  have hc : Chg (ncol col w.heap.size (10 + k)) 1 w' (w'.setCell ⟨gm, k, none⟩ (xp (some x))) := ⟨rfl, rfl, rfl, by simp [World.setCell], fun j _ hj => Below.heap_setCell _ _ _ _ (fun e => hj (by rw [e]; exact G1.gmc))⟩
  obtain ⟨h1, h2, h3, h4, h5, h6, h7⟩ := G1.rest hc (col' := ncol col w.heap.size (10 + k)) fun _ _ => rfl
  refine ⟨G1.base hc (by omega), G1.low, ?_, h2, fun j hj z hz => ?_, fun j hj => h4 j hj (by omega), h5 (by omega), h6, h7 (by omega)⟩
  · have := G1.blk.set k (xp (some x))
    exact this.eq (set_cons_lt hk x)
  · by_cases e : j = k
    · subst e
      rw [upd_same] at hz
      injection hz with hz
      subst hz
      refine ⟨hx.keep fun i hi => Below.heap_setCell _ _ _ _ (fun e => ?_), fun i hi => ncol_new (hn i hi)⟩
      have := hn i hi
      rw [e] at this
      simp only at this
      omega
    · rw [upd_other _ _ _ _ e] at hz
      exact h3 j hj (by omega) z hz
theorem Gm.setY {B w w' : World} {gm : Nat} {X : Nat → Option XS} {Y : Nat → Option YS} {T : List (List Value)} {av : Value} {col : Nat → Nat} (G : Gm B w gm X Y T av col) {k : Nat} (hk : k < 3) (hb : Below w.heap.size w w') (y : YS) (hx : y.at w') (hn : ∀ j, y.own j → w.heap.size ≤ j) :
    Gm B (w'.setCell ⟨gm, 3 + k, none⟩ (yp (some y))) gm X (upd Y k (some y)) T av (ncol col w.heap.size (20 + k)) := by
  have hgl := G.blk.lt
  have G1 := G.below hb (20 + k)
  have hc : Chg (ncol col w.heap.size (20 + k)) 1 w' (w'.setCell ⟨gm, 3 + k, none⟩ (yp (some y))) := ⟨rfl, rfl, rfl, by simp [World.setCell], fun j _ hj => Below.heap_setCell _ _ _ _ (fun e => hj (by rw [e]; exact G1.gmc))⟩
  obtain ⟨h1, h2, h3, h4, h5, h6, h7⟩ := G1.rest hc (col' := ncol col w.heap.size (20 + k)) fun _ _ => rfl
  refine ⟨G1.base hc (by omega), G1.low, ?_, h2, fun j hj => h3 j hj (by omega), fun j hj z hz => ?_, h5 (by omega), h6, h7 (by omega)⟩
  · have := G1.blk.set (3 + k) (yp (some y))
    exact this.eq (set_cons_y hk y)
  · by_cases e : j = k
    · subst e
      rw [upd_same] at hz
      injection hz with hz
      subst hz
      refine ⟨hx.keep fun i hi => Below.heap_setCell _ _ _ _ (fun e => ?_), fun i hi => ncol_new (hn i hi)⟩
      have := hn i hi
      rw [e] at this
      simp only at this
      omega
    · rw [upd_other _ _ _ _ e] at hz
      exact h4 j hj (by omega) z hz
/-- A game at its start. -/
theorem Gm.start {B w w' : World} (hb : Below B.heap.size B w) (hB : Blk w' w.heap.size 49 [.pointer none, .pointer none, .pointer none, .pointer none, .pointer none, .pointer none, .slice none 0 0]) (hw : Below w.heap.size w w') :
    Gm B w' w.heap.size (fun _ => none) (fun _ => none) [] (.slice none 0 0) (fun j => if j = w.heap.size then 1 else 0) := by
  refine ⟨hb.trans (hw.mono hb.size), fun j hj => ?_, hB, if_pos rfl, (fun k _ x hx => by cases hx), (fun k _ x hx => by cases hx), World.ownsRow_nil _ _ _ _, (fun j hj => by simp [Value.ownBlock] at hj), (fun t ht => by simp at ht)⟩
  have : j = w.heap.size := by
    by_cases e : j = w.heap.size
    · exact e
    · simp [e] at hj
  have := hb.size
  omega
def cut4 (col : Nat → Nat) : Nat → Nat := fun j => if col j = 4 then 3 else col j
theorem cut4_of {col : Nat → Nat} {j c : Nat} (h : col j = c) (hc : c ≠ 4) : cut4 col j = c := by
  unfold cut4
  rw [h, if_neg hc]
theorem cut4_list {col : Nat → Nat} {j : Nat} (h : col j = 4) : cut4 col j = 3 := if_pos h
/-- A list that has been made is one of the lists. -/
theorem Gm.push {B w w2 : World} {gm : Nat} {X : Nat → Option XS} {Y : Nat → Option YS} {T : List (List Value)} {av av' : Value} {col : Nat → Nat} {l g h i : Value} {mk : ByteArray} (G : Gm B w gm X Y T av col)
    (hl : ∀ u, u = l ∨ u = g ∨ u = h ∨ u = i → MK w u mk ∧ ∀ j, u.ownBlock = some j → j < w.heap.size ∧ col j = 4)
    (hrow : w2.ownsRow 0 74 5 av' (T.length + 1) (T.flatten ++ [l, g, h, i, .string mk])) (hgr : w.grownBy w2 av.ownBlock) (hg : av'.ownBlock = av.ownBlock ∨ av'.ownBlock = some w.heap.size) :
    Gm B (w2.setCell ⟨gm, 6, none⟩ av') gm X Y (T ++ [[l, g, h, i, .string mk]]) av' (cut4 (ncol col w.heap.size 2)) := by
  have hgl := G.blk.lt
  have hc : Chg col 2 w w2 := Chg.of_grown hgr G.avc
  obtain ⟨h1, h2, h3, h4, -, -, h7⟩ := G.rest hc (col' := ncol col w.heap.size 2) fun k hk => ncol_old hk
  have hBg := h1 (by omega)
  have hgs : ∀ j, ncol col w.heap.size 2 j ≠ 1 → (w2.setCell ⟨gm, 6, none⟩ av').heap[j]? = w2.heap[j]? := fun j hj => Below.heap_setCell _ _ _ _ (fun e => hj (by rw [e]; exact h2))
  have hav : ∀ j, av'.ownBlock = some j → ncol col w.heap.size 2 j = 2 := fun j hj => by
    rcases hg with e | e
    · rw [e] at hj
      rw [ncol_old (G.all.lt j hj).2]
      exact G.avc j hj
    · rw [e] at hj
      injection hj with hj
      exact ncol_new (by omega)
  have hML : ∀ u, u = l ∨ u = g ∨ u = h ∨ u = i → ML (w2.setCell ⟨gm, 6, none⟩ av') (cut4 (ncol col w.heap.size 2)) u mk := fun u hu => by
    obtain ⟨k1, k2⟩ := hl u hu
    refine ⟨k1.block fun j hj hlt => ?_, fun j hj => ⟨?_, cut4_list (by rw [ncol_old (k2 j hj).1]; exact (k2 j hj).2)⟩⟩
    · rw [hgs j (by rw [ncol_old hlt, (k2 j hj).2]; omega)]
      exact hc.block j hlt (by rw [(k2 j hj).2]; omega)
    · have := (k2 j hj).1
      have := hgr.size
      simp [World.setCell]
      omega
  refine ⟨?_, fun j hj => ?_, ?_, cut4_of h2 (by omega), fun k hk x hx => ?_, fun k hk y hy => ?_, ?_, fun j hj => cut4_of (hav j hj) (by omega), fun t ht => ?_⟩
  · refine (G.base hc (by omega)).trans ⟨rfl, rfl, rfl, by simp [World.setCell], fun k hk => Below.heap_setCell _ _ _ _ (fun e => ?_)⟩
    have := G.low gm (by rw [G.gmc]; omega)
    rw [e] at hk
    simp only at hk
    omega
  · by_cases hlt : j < w.heap.size
    · refine G.low j (fun e => hj (cut4_of (by rw [ncol_old hlt]; exact e) (by omega)))
    · have := G.bel.size; omega
  · exact (hBg.set 6 av').eq rfl
  · obtain ⟨k1, k2⟩ := h3 k hk (by omega) x hx
    exact ⟨k1.keep fun j hj => hgs j (by rw [k2 j hj]; omega), fun j hj => cut4_of (k2 j hj) (by omega)⟩
  · obtain ⟨k1, k2⟩ := h4 k hk (by omega) y hy
    exact ⟨k1.keep fun j hj => hgs j (by rw [k2 j hj]; omega), fun j hj => cut4_of (k2 j hj) (by omega)⟩
  · rw [List.length_append, List.flatten_append]
    have := ownsRow_setCell_other hrow (a := ⟨gm, 6, none⟩) (fun e => by
      have := hav gm e
      rw [h2] at this
      omega) av'
    simpa using this
  · rw [List.mem_append] at ht
    rcases ht with ht | ht
    · obtain ⟨l', g', hh, i', mk', e, k1, k2, k3, k4⟩ := h7 (by omega) t ht
      have hb : ∀ k, k < w2.heap.size → ncol col w.heap.size 2 k = 3 → (w2.setCell ⟨gm, 6, none⟩ av').heap[k]? = w2.heap[k]? ∧ cut4 (ncol col w.heap.size 2) k = 3 := fun k _ hk3 => ⟨hgs k (by rw [hk3]; omega), cut4_of hk3 (by omega)⟩
      have hsz : w2.heap.size ≤ (w2.setCell ⟨gm, 6, none⟩ av').heap.size := by simp [World.setCell]
      exact ⟨l', g', hh, i', mk', e, k1.keep hsz hb, k2.keep hsz hb, k3.keep hsz hb, k4.keep hsz hb⟩
    · rw [List.mem_singleton] at ht
      exact ⟨l, g, h, i, mk, ht, hML l (.inl rfl), hML g (.inr (.inl rfl)), hML h (.inr (.inr (.inl rfl))), hML i (.inr (.inr (.inr rfl)))⟩
end Go.Proofs.YtlhohmlpcgbliabGreatDoor
namespace Go.Proofs.YtlhohmlpcgbliabGreatDoor
set_option maxRecDepth 100000
open Go.RowKit

/-- What the document says of a log: its entries, and those that wait. -/
abbrev AS := List ByteArray × List ByteArray
def RelX : Option XS → Option AS → Int → Prop
  | none, none, n => n = 0
  | some x, some p, n => Holds x.D p.1 ∧ x.W = p.2 ∧ p.2.length ≤ 12 ∧ (∀ s ∈ p.2, s.size ≤ 40) ∧ p.1.length + p.2.length ≤ 64 ∧ x.D.acts = n
  | _, _, _ => False
def RelY : Option YS → Option AS → Prop
  | none, none => True
  | some y, some p => y.E = p.1 ∧ y.W = p.2
  | _, _ => False
/-- A game; what the document says of the program's logs, of its own; the acts. -/
def GA (B w : World) (gm : Nat) (P R : Nat → Option AS) (N : Nat → Int) (T : List (List Value)) (av : Value) (col : Nat → Nat) : Prop :=
  ∃ X Y, Gm B w gm X Y T av col ∧ (∀ k, k < 3 → RelX (X k) (P k) (N k)) ∧ ∀ k, k < 3 → RelY (Y k) (R k)
def updI (N : Nat → Int) (k : Nat) (n : Int) : Nat → Int := fun j => if j = k then n else N j
theorem updI_same (N : Nat → Int) (k : Nat) (n : Int) : updI N k n k = n := if_pos rfl
theorem updI_other (N : Nat → Int) (k j : Nat) (n : Int) (h : j ≠ k) : updI N k n j = N j := if_neg h
/-- What an entry of the list may be. -/
structure Fine (p : Option AS) : Prop where
  ok : ∀ q, p = some q → q.1.length ≤ 64 ∧ (∀ s ∈ q.1, s.size ≤ 40) ∧ q.2.length ≤ 12 ∧ (∀ s ∈ q.2, s.size ≤ 40) ∧ q.1.length + q.2.length ≤ 64
theorem RelX.fine {x : Option XS} {p : Option AS} {n : Int} (h : RelX x p n) : Fine p := by
  refine ⟨fun q hq => ?_⟩
  subst hq
  cases x with
  | none => exact h.elim
  | some x => exact ⟨h.1.len, h.1.siz, h.2.2.1, h.2.2.2.1, h.2.2.2.2.1⟩

section
variable {B w : World} {gm : Nat} {P R : Nat → Option AS} {N : Nat → Int} {T : List (List Value)} {av : Value} {col : Nat → Nat}
theorem GA.bel (G : GA B w gm P R N T av col) : Below B.heap.size B w := by
  obtain ⟨X, Y, h, _⟩ := G
  exact h.bel
theorem GA.low (G : GA B w gm P R N T av col) : ∀ j, col j ≠ 0 → B.heap.size ≤ j := by
  obtain ⟨X, Y, h, _⟩ := G
  exact h.low
theorem GA.gmc (G : GA B w gm P R N T av col) : col gm = 1 := by
  obtain ⟨X, Y, h, _⟩ := G
  exact h.gmc
theorem GA.gl (G : GA B w gm P R N T av col) : gm < w.heap.size := by
  obtain ⟨X, Y, h, _⟩ := G
  exact h.blk.lt
theorem GA.cx (G : GA B w gm P R N T av col) {k : Nat} (hk : k < 3) : ∃ v, w.cell? ⟨gm, k, none⟩ = some v := by
  obtain ⟨X, Y, h, _⟩ := G
  exact ⟨_, h.cx hk⟩
theorem GA.cy (G : GA B w gm P R N T av col) {k : Nat} (hk : k < 3) : ∃ v, w.cell? ⟨gm, 3 + k, none⟩ = some v := by
  obtain ⟨X, Y, h, _⟩ := G
  exact ⟨_, h.cy hk⟩
theorem GA.ca (G : GA B w gm P R N T av col) : w.cell? ⟨gm, 6, none⟩ = some av := by
  obtain ⟨X, Y, h, _⟩ := G
  exact h.ca
theorem GA.frozen (G : GA B w gm P R N T av col) (i : Nat) : w.frozen? ⟨gm, i, none⟩ = false := by
  obtain ⟨X, Y, h, _⟩ := G
  exact h.blk.frozen i
theorem GA.shp (G : GA B w gm P R N T av col) : ∃ p c, av = .slice p T.length c := by
  obtain ⟨X, Y, h, _⟩ := G
  exact h.av
theorem GA.fine (G : GA B w gm P R N T av col) {k : Nat} (hk : k < 3) : Fine (P k) := by
  obtain ⟨X, Y, _, h, _⟩ := G
  exact (h k hk).fine
theorem GA.below {w' : World} (G : GA B w gm P R N T av col) (h : Below w.heap.size w w') (c : Nat) : GA B w' gm P R N T av (ncol col w.heap.size c) := by
  obtain ⟨X, Y, h1, h2, h3⟩ := G
  exact ⟨X, Y, h1.below h c, h2, h3⟩
theorem GA.list {w' : World} (G : GA B w gm P R N T av col) (h : Chg col 4 w w') (c : Nat) : GA B w' gm P R N T av (ncol col w.heap.size c) := by
  obtain ⟨X, Y, h1, h2, h3⟩ := G
  exact ⟨X, Y, h1.list h c, h2, h3⟩
/-- The pointer at a place: nil, or a log's. -/
theorem GA.xcase (G : GA B w gm P R N T av col) {k : Nat} (hk : k < 3) {v : Value} (hv : w.cell? ⟨gm, k, none⟩ = some v) :
    (v = .pointer none ∧ P k = none ∧ N k = 0) ∨ ∃ (x : XS) (p : AS), v = .pointer (some ⟨x.a, 0, none⟩) ∧ P k = some p ∧ x.at w ∧ RelX (some x) (some p) (N k) ∧ (∀ j, x.own j → col j = 10 + k) ∧
      ∀ w' fv' wv' D' W' p' n', LogAt w' x.a x.b fv' wv' D' W' → FrL x.a x.b x.fv.ownBlock x.wv.ownBlock fv'.ownBlock wv'.ownBlock w w' → RelX (some ⟨x.a, x.b, fv', wv', D', W'⟩) (some p') n' →
        GA B w' gm (upd P k (some p')) R (updI N k n') T av (ncol col w.heap.size (10 + k)) := by
  obtain ⟨X, Y, h, h2, h3⟩ := G
  have e := h.cx hk
  rw [hv] at e
  injection e with e
  have hr := h2 k hk
  cases hx : X k with
  | none =>
    rw [hx] at e hr
    cases hp : P k with
    | none => rw [hp] at hr; exact .inl ⟨e, rfl, hr⟩
    | some p => rw [hp] at hr; exact hr.elim
  | some x =>
    rw [hx] at e hr
    cases hp : P k with
    | none => rw [hp] at hr; exact hr.elim
    | some p =>
      rw [hp] at hr
      obtain ⟨k1, k2⟩ := h.xat k hk x hx
      refine .inr ⟨x, p, e, rfl, k1, hr, k2, fun w' fv' wv' D' W' p' n' hL hR hrel => ⟨_, Y, h.stepX hk hx hL hR, fun j hj => ?_, h3⟩⟩
      by_cases ej : j = k
      · subst ej
        rw [upd_same, upd_same]
        rw [updI_same]
        exact hrel
      · rw [upd_other _ _ _ _ ej, upd_other _ _ _ _ ej]
        rw [updI_other _ _ _ _ ej]
        exact h2 j hj
theorem GA.ycase (G : GA B w gm P R N T av col) {k : Nat} (hk : k < 3) {v : Value} (hv : w.cell? ⟨gm, 3 + k, none⟩ = some v) :
    (v = .pointer none ∧ R k = none) ∨ ∃ y : YS, v = .pointer (some ⟨y.r, 0, none⟩) ∧ R k = some (y.E, y.W) ∧ y.at w ∧ (∀ j, y.own j → col j = 20 + k) ∧
      ∀ w' ev' uv' E' W', RefAt w' y.r ev' uv' E' W' → FrL y.r y.r y.ev.ownBlock y.uv.ownBlock ev'.ownBlock uv'.ownBlock w w' →
        GA B w' gm P (upd R k (some (E', W'))) N T av (ncol col w.heap.size (20 + k)) := by
  obtain ⟨X, Y, h, h2, h3⟩ := G
  have e := h.cy hk
  rw [hv] at e
  injection e with e
  have hr := h3 k hk
  cases hx : Y k with
  | none =>
    rw [hx] at e hr
    cases hp : R k with
    | none => exact .inl ⟨e, rfl⟩
    | some p => rw [hp] at hr; exact hr.elim
  | some y =>
    rw [hx] at e hr
    cases hp : R k with
    | none => rw [hp] at hr; exact hr.elim
    | some p =>
      rw [hp] at hr
      obtain ⟨k1, k2⟩ := h.yat k hk y hx
      refine .inr ⟨y, e, by rw [hr.1, hr.2], k1, k2, fun w' ev' uv' E' W' hL hR => ⟨X, _, h.stepY hk hx hL hR, h2, fun j hj => ?_⟩⟩
      by_cases ej : j = k
      · subst ej
        rw [upd_same, upd_same]
        exact ⟨rfl, rfl⟩
      · rw [upd_other _ _ _ _ ej, upd_other _ _ _ _ ej]
        exact h3 j hj
end
theorem upd_id {α : Type} (X : Nat → Option α) (k : Nat) {v : Option α} (h : X k = v) : upd X k v = X := by
  funext j
  by_cases e : j = k
  · subst e; rw [upd_same, h]
  · rw [upd_other _ _ _ _ e]
theorem if_id (N : Nat → Int) (k : Nat) {n : Int} (h : N k = n) : updI N k n = N := by
  funext j
  by_cases e : j = k
  · subst e; rw [updI_same, h]
  · rw [updI_other _ _ _ _ e]

/-! ### What the calls answer -/
def subA (p : Option AS) (ss : List ByteArray) : Int := match p with
  | none => 3
  | some q => subE q.1.length q.2.length ss
def subP (ss : List ByteArray) (p : Option AS) : Option AS := p.map fun q => (q.1, subW q.1.length q.2 ss)
theorem subW_fine {E W ss : List ByteArray} (hl : W.length ≤ 12) (hz : ∀ s ∈ W, s.size ≤ 40) (hn : E.length + W.length ≤ 64) : (subW E.length W ss).length ≤ 12 ∧ (∀ s ∈ subW E.length W ss, s.size ≤ 40) ∧ E.length + (subW E.length W ss).length ≤ 64 := by
  by_cases h : subE E.length W.length ss = 0
  · rw [subW_ok h]
    unfold subE at h
    by_cases h1 : ss.any (fun s => decide (40 < s.size)) = true
    · rw [if_pos h1] at h; omega
    · rw [if_neg h1] at h
      by_cases h2 : 12 < W.length + ss.length
      · rw [if_pos h2] at h; omega
      · rw [if_neg h2] at h
        by_cases h3 : 64 < E.length + (W.length + ss.length)
        · rw [if_pos h3] at h; omega
        · refine ⟨by rw [List.length_append]; omega, fun s hs => ?_, by rw [List.length_append]; omega⟩
          rw [List.mem_append] at hs
          rcases hs with hs | hs
          · exact hz s hs
          · by_cases h4 : 40 < s.size
            · exact absurd (List.any_eq_true.2 ⟨s, hs, by simpa using h4⟩) h1
            · omega
  · rw [subW_not (c := subE E.length W.length ss) rfl h]
    exact ⟨hl, hz, hn⟩
section
variable {B w : World} {gm : Nat} {P R : Nat → Option AS} {N : Nat → Int} {T : List (List Value)} {av : Value} {col : Nat → Nat}
theorem GA.acts (G : GA B w gm P R N T av col) {k : Nat} (hk : k < 3) {v : Value} (hv : w.cell? ⟨gm, k, none⟩ = some v) : Calls Tryz.prog 61 #[v] w fun e w' => e = .returned (.int .i64 (N k)) ∧ w' = w := by
  rcases G.xcase hk hv with ⟨rfl, _, h0⟩ | ⟨x, p, rfl, _, hx, hr, _⟩
  · rw [h0]; exact nilActs_any w
  · rw [← hr.2.2.2.2.2]
    exact logActs_any hx
theorem GA.submit (G : GA B w gm P R N T av col) {k : Nat} (hk : k < 3) {v u : Value} (hv : w.cell? ⟨gm, k, none⟩ = some v) {ss : List ByteArray} (hS : Strs w u ss) (hn : ss.length ≤ 1000000000000) (hu : ∀ j, u.ownBlock = some j → col j ≠ 10 + k) :
    Calls Tryz.prog 62 #[v, u] w fun e w' => e = .returned (.int .i64 (subA (P k) ss)) ∧ Chg col (10 + k) w w' ∧ GA B w' gm (upd P k (subP ss (P k))) R N T av (ncol col w.heap.size (10 + k)) := by
  rcases G.xcase hk hv with ⟨rfl, hp, _⟩ | ⟨x, p, rfl, hp, hx, hr, hc, hstep⟩
  · refine (nilSubmit_any u w).mono ?_
    rintro e w' ⟨rfl, rfl⟩
    refine ⟨by rw [hp]; rfl, Chg.of_below (Below.refl _ _), ?_⟩
    rw [hp, upd_id P k (v := subP ss none) (by rw [hp]; rfl)]
    exact G.below (Below.refl _ _) _
  · obtain ⟨hH, hW, hl, hz, hn2, ha⟩ := hr
    have hl' : x.W.length ≤ 12 := by rw [hW]; exact hl
    refine (submit_all hx hH.nf.failed hH.jn (by rw [hH.ckN]; omega) hl' u ss hS hn (fun j hj ho => hu j hj (hc j ho))).mono ?_
    rintro e w' ⟨rfl, wv', hL, hR⟩
    rw [hH.ckN, hW] at *
    refine ⟨by rw [hp]; rfl, Chg.of_frl hR hc, ?_⟩
    obtain ⟨f1, f2, f3⟩ := subW_fine (E := p.1) (ss := ss) hl hz hn2
    have := hstep w' _ _ _ _ (p.1, subW p.1.length p.2 ss) (N k) hL hR ⟨hH, rfl, f1, f2, f3, ha⟩
    rw [if_id N k rfl] at this
    rw [hp]
    exact this
theorem GA.refSubmit (G : GA B w gm P R N T av col) {k : Nat} (hk : k < 3) {v u : Value} (hv : w.cell? ⟨gm, 3 + k, none⟩ = some v) (hf : Fine (R k)) {ss : List ByteArray} (hS : Strs w u ss) (hn : ss.length ≤ 1000000000) :
    Calls Tryz.prog 63 #[v, u] w fun e w' => e = .returned (.int .i64 (subA (R k) ss)) ∧ Chg col (20 + k) w w' ∧ GA B w' gm P (upd R k (subP ss (R k))) N T av (ncol col w.heap.size (20 + k)) := by
  rcases G.ycase hk hv with ⟨rfl, hp⟩ | ⟨y, rfl, hp, hy, hc, hstep⟩
  · refine (refNil_submit u w).mono ?_
    rintro e w' ⟨rfl, rfl⟩
    refine ⟨by rw [hp]; rfl, Chg.of_below (Below.refl _ _), ?_⟩
    rw [hp, upd_id R k (v := subP ss none) (by rw [hp]; rfl)]
    exact G.below (Below.refl _ _) _
  · obtain ⟨f1, f2, f3, f4, f5⟩ := hf.ok _ hp
    refine (refSubmit_any hy f1 f3 u ss hS hn).mono ?_
    rintro e w' ⟨rfl, uv', hL, hR⟩
    refine ⟨by rw [hp]; rfl, Chg.of_frl hR hc, ?_⟩
    rw [hp]
    exact hstep w' _ _ _ _ hL hR
end
end Go.Proofs.YtlhohmlpcgbliabGreatDoor
namespace Go.Proofs.YtlhohmlpcgbliabGreatDoor
set_option maxRecDepth 100000
open Go.RowKit
attribute [local go_sem ↓] Go.wp_at_zero Go.wp_at_succ

/-- A list of texts: nil, or lying somewhere. -/
def LS (w : World) (v : Value) (ts : List ByteArray) : Prop := (v = .slice none 0 0 ∧ ts = []) ∨ ∃ cb co cc, v = .slice (some ⟨cb, co, none⟩) ts.length cc ∧ SA w cb co ts ∧ cb < w.heap.size ∧ ts.length ≤ cc
theorem LS.of_row {w : World} {base : Nat} {v : Value} {ts : List ByteArray} (h : Row w base 9 v (strv ts)) : LS w v ts := by
  by_cases h0 : ts.length = 0
  · have ht := List.eq_nil_of_length_eq_zero h0
    subst ht
    obtain ⟨_, h2⟩ := h
    rcases h2 with ⟨rfl, _⟩ | ⟨g, cap, cur, rfl, _, hg, _⟩
    · exact .inl ⟨rfl, rfl⟩
    · exact .inr ⟨g, 0, cap, rfl, (fun i s hs => by simp at hs), (Array.getElem?_eq_some_iff.1 hg).1, Nat.zero_le _⟩
  · obtain ⟨g, cap, rfl, _, hcap, _, _, hlt, _⟩ := Row.form h (by rw [strv_length]; omega)
    rw [strv_length] at hcap h ⊢
    exact .inr ⟨g, 0, cap, rfl, SA.of_row h (by omega), hlt, hcap⟩
end Go.Proofs.YtlhohmlpcgbliabGreatDoor
namespace Go.Proofs.YtlhohmlpcgbliabGreatDoor
set_option maxRecDepth 100000
open Go.RowKit
attribute [local go_sem ↓] Go.wp_at_zero Go.wp_at_succ

end Go.Proofs.YtlhohmlpcgbliabGreatDoor
namespace Go.Proofs.YtlhohmlpcgbliabGreatDoor
set_option maxRecDepth 100000
open Go.RowKit
attribute [local go_sem ↓] Go.wp_at_zero Go.wp_at_succ

end Go.Proofs.YtlhohmlpcgbliabGreatDoor
namespace Go.Proofs.YtlhohmlpcgbliabGreatDoor
set_option maxRecDepth 100000
open Go.RowKit
attribute [local go_sem ↓] Go.wp_at_zero Go.wp_at_succ

end Go.Proofs.YtlhohmlpcgbliabGreatDoor
namespace Go.Proofs.YtlhohmlpcgbliabGreatDoor
set_option maxRecDepth 100000
open Go.RowKit
attribute [local go_sem ↓] Go.wp_at_zero Go.wp_at_succ

end Go.Proofs.YtlhohmlpcgbliabGreatDoor
namespace Go.Proofs.YtlhohmlpcgbliabGreatDoor
set_option maxRecDepth 100000
open Go.RowKit
attribute [local go_sem ↓] Go.wp_at_zero Go.wp_at_succ

end Go.Proofs.YtlhohmlpcgbliabGreatDoor
namespace Go.Proofs.YtlhohmlpcgbliabGreatDoor
set_option maxRecDepth 100000
open Go.RowKit

/-- A disk's sectors. -/
structure SecL (l : List (List Nat)) : Prop where
  len : l.length = 200
  sec : ∀ s ∈ l, Sec s
/-- Acts, one by one: what lasts, what is loose, and both together. -/
structure Acts (n : Nat) (act : Nat → Option (Nat × List Nat)) (L V : Nat → List (List Nat)) (F : Nat → List (Nat × List Nat)) : Prop where
  sl : ∀ j, j ≤ n → SecL (L j)
  sv : ∀ j, j ≤ n → SecL (V j)
  f0 : F 0 = []
  v : ∀ j, j ≤ n → V j = putL (F j) (L j)
  wr : ∀ j x, j < n → act j = some x → F (j + 1) = F j ++ [x] ∧ L (j + 1) = L j ∧ V (j + 1) = (V j).set x.1 x.2 ∧ x.1 < 200 ∧ Sec x.2
  fl : ∀ j, j < n → act j = none → F (j + 1) = [] ∧ L (j + 1) = V j ∧ V (j + 1) = V j
  nd : ∀ j, j ≤ n → ((F j).map (·.1)).Nodup
  few : n ≤ 60
  pos : 2 ≤ n
  last : act (n - 1) = none

/-- At each stage all is well, and no sector is loose twice. -/
def Nice (R : Dk) (xs : List (Option (Nat × List Nat))) : Prop := ∀ j, (R.run (xs.take j)).keys.Nodup ∧ (R.run (xs.take j)).ok
theorem Nice.append {R : Dk} {xs ys : List (Option (Nat × List Nat))} (h1 : Nice R xs) (h2 : Nice (R.run xs) ys) : Nice R (xs ++ ys) := by
  intro j
  rw [List.take_append, Dk.run_append]
  by_cases hj : j ≤ xs.length
  · rw [show j - xs.length = 0 by omega, List.take_zero]
    exact h1 j
  · rw [List.take_of_length_le (by omega)]
    exact h2 _
end Go.Proofs.YtlhohmlpcgbliabGreatDoor
namespace Go.Proofs.YtlhohmlpcgbliabGreatDoor
set_option maxRecDepth 100000
open Go.RowKit

end Go.Proofs.YtlhohmlpcgbliabGreatDoor
namespace Go.Proofs.YtlhohmlpcgbliabGreatDoor
set_option maxRecDepth 100000
open Go.RowKit

end Go.Proofs.YtlhohmlpcgbliabGreatDoor
namespace Go.Proofs.YtlhohmlpcgbliabGreatDoor
set_option maxRecDepth 100000
open Go.RowKit

/-- A disk's bytes. -/
def btx (l : List (List Nat)) : ByteArray := strOf l.flatten
theorem SecL.flat {l : List (List Nat)} (h : SecL l) : l.flatten.length = 25600 := by
  rw [flat_length (fun s hs => (h.sec s hs).len), h.len]
theorem SecL.byt {l : List (List Nat)} (h : SecL l) : ∀ x ∈ l.flatten, x < 256 := by
  intro x hx
  obtain ⟨s, hs, h1⟩ := List.mem_flatten.1 hx
  exact (h.sec s hs).byt x h1
theorem SecL.get {l : List (List Nat)} (h : SecL l) {i : Nat} (hi : i < 200) : Sec (l.getD i []) := by
  have h1 := h.len
  rw [List.getD_eq_getElem?_getD, List.getElem?_eq_getElem (by omega)]
  exact h.sec _ (List.getElem_mem _)
theorem SecL.size {l : List (List Nat)} (h : SecL l) : (btx l).size = 25600 := by
  unfold btx
  rw [strOf_size h.byt, h.flat]
theorem SecL.set {l : List (List Nat)} (h : SecL l) (i : Nat) {s : List Nat} (hs : Sec s) : SecL (l.set i s) := by
  refine ⟨by rw [List.length_set]; exact h.len, fun x hx => ?_⟩
  rcases List.mem_or_eq_of_mem_set hx with h1 | rfl
  · exact h.sec x h1
  · exact hs
section
variable {n : Nat} {act : Nat → Option (Nat × List Nat)} {L V : Nat → List (List Nat)} {F : Nat → List (Nat × List Nat)}
/-- Where the last flush was. -/
theorem Acts.flush (A : Acts n act L V F) : ∀ k, k ≤ n → ∃ f, f ≤ k ∧ (f = 0 ∨ V f = V (f - 1)) ∧ L k = V f ∧ (F k).length = k - f ∧ ∀ q, q < k - f → act (f + q) = (F k)[q]? := by
  intro k
  induction k with
  | zero =>
    intro _
    refine ⟨0, Nat.le_refl _, .inl rfl, ?_, by rw [A.f0]; rfl, fun q hq => by omega⟩
    rw [A.v 0 (by omega), A.f0]
    rfl
  | succ k ih =>
    intro hk
    cases hx : act k with
    | none =>
      have h := A.fl k (by omega) hx
      exact ⟨k + 1, Nat.le_refl _, .inr (by rw [h.2.2]; rfl), by rw [h.2.1, h.2.2], by rw [h.1]; simp, fun q hq => by omega⟩
    | some x =>
      have h := A.wr k x (by omega) hx
      obtain ⟨f, h1, h2, h3, h4, h5⟩ := ih (by omega)
      refine ⟨f, by omega, h2, by rw [h.2.1, h3], by rw [h.1, List.length_append, h4]; simp; omega, fun q hq => ?_⟩
      rw [h.1]
      by_cases hqk : q < k - f
      · rw [List.getElem?_append_left (by rw [h4]; exact hqk)]
        exact h5 q hqk
      · obtain rfl : q = k - f := by omega
        rw [List.getElem?_append_right (by rw [h4]; exact Nat.le_refl _), h4, Nat.sub_self, show f + (k - f) = k by omega, hx]
        rfl
end
end Go.Proofs.YtlhohmlpcgbliabGreatDoor
namespace Go.Proofs.YtlhohmlpcgbliabGreatDoor
set_option maxRecDepth 100000
open Go.RowKit

/-- Behind each act, whatever is kept, the disk is so. -/
def SafeA (P : Dk → Prop) (R : Dk) (xs : List (Option (Nat × List Nat))) : Prop := ∀ (j : Nat) (keep : Int), P (Dk.of (failL keep 0 (R.run (xs.take j)).fre (R.run (xs.take j)).las).flatten)
theorem SafeA.append {P : Dk → Prop} {R : Dk} {xs ys : List (Option (Nat × List Nat))} (h1 : SafeA P R xs) (h2 : SafeA P (R.run xs) ys) : SafeA P R (xs ++ ys) := by
  intro j keep
  rw [List.take_append, Dk.run_append]
  by_cases hj : j ≤ xs.length
  · rw [show j - xs.length = 0 by omega, List.take_zero]
    exact h1 j keep
  · rw [List.take_of_length_le (by omega)]
    exact h2 _ keep
theorem SafeA.mono {P Q : Dk → Prop} {R : Dk} {xs : List (Option (Nat × List Nat))} (h : SafeA P R xs) (hq : ∀ X, P X → Q X) : SafeA Q R xs := fun j keep => hq _ (h j keep)
end Go.Proofs.YtlhohmlpcgbliabGreatDoor
namespace Go.Proofs.YtlhohmlpcgbliabGreatDoor
set_option maxRecDepth 100000
open Go.RowKit

theorem hd_n (f n : Nat) : (hdSec f n).getD 13 0 = f ∧ (hdSec f n).getD 14 0 = n ∧ hdSec f n ≠ zer := by
  refine ⟨rfl, rfl, fun h => ?_⟩
  have h1 := congrArg (fun l : List Nat => l.getD 0 0) h
  have h2 : (hdSec f n).getD 0 0 ≠ 0 := by
    show markJ.getD 0 0 ≠ 0
    decide
  exact h2 (h1.trans (by decide))
theorem Hold1.mix {D Z X : Dk} {E : List ByteArray} (h : Hold1 D E) (xnf : X.nf) (xok : X.ok) (xfre : X.fre = []) (h0 : X.read 0 = D.read 0) (ze : ∀ i s, E[i]? = some s → unpL (Z.slot 6 3 i) = some (bts s)) (zt : ∀ k, Tiled Z (E.map leafS) E.length k) (hr : ∀ i, 6 ≤ i → i < 200 → X.read i = D.read i ∨ X.read i = Z.read i) : Hold1 X E := by
  refine ⟨xnf, xok, xfre, h.len, h.siz, by rw [h0]; exact h.ck, ?_, ?_⟩
  · intro i s hs
    have hi : i < E.length := (List.getElem?_eq_some_iff.1 hs).1
    have := h.len
    rcases hr (6 + i / 3) (by omega) (by omega) with h1 | h1
    · rw [slot_of_read h1]; exact h.ent i s hs
    · rw [slot_of_read h1]; exact ze i s hs
  · intro k i hi
    have h0 := h.len
    have h1 := tile_sec (k := k) (i := i) (by omega)
    have h2 := (tileAt_le (k + 1)).1
    have h3 := tile_low k
    rcases hr ((tileAt k).1 + i / 4) (by omega) (by omega) with h4 | h4
    · rw [slot_of_read h4]; exact h.til k i hi
    · rw [slot_of_read h4]; exact zt k i hi
/-- A journal that tells of W behind E is pending; the log holds H. -/
structure Pend (X : Dk) (H E W : List ByteArray) : Prop where
  hold : Hold1 X H
  hd : X.read 1 = hdSec E.length W.length
  je : X.jE W.length = W
end Go.Proofs.YtlhohmlpcgbliabGreatDoor
namespace Go.Proofs.YtlhohmlpcgbliabGreatDoor
set_option maxRecDepth 100000
open Go.RowKit

theorem Pend.num {X : Dk} {H E W : List ByteArray} (h : Pend X H E W) : X.read 1 ≠ zer ∧ X.jF = E.length ∧ X.jN = W.length ∧ X.jE X.jN = W := by
  have h1 := hd_n E.length W.length
  have h2 : X.jN = W.length := by unfold Dk.jN; rw [h.hd]; exact h1.2.1
  exact ⟨by rw [h.hd]; exact h1.2.2, by unfold Dk.jF; rw [h.hd]; exact h1.1, h2, by rw [h2]; exact h.je⟩
theorem Pend.fits {X : Dk} {H E W : List ByteArray} (h : Pend X H E W) (hl : E.length + W.length ≤ 64) (hH : H = E ∨ H = E ++ W) : X.fits H.length := by
  obtain ⟨_, h2, h3, h4⟩ := h.num
  right
  rw [h4, h2]
  refine ⟨h.hd, hl, ?_⟩
  rcases hH with rfl | rfl
  · exact .inl rfl
  · exact .inr List.length_append
theorem Holds.recv {X : Dk} {E : List ByteArray} (h : Holds X E) : X.recv = X := if_pos h.jn
end Go.Proofs.YtlhohmlpcgbliabGreatDoor
namespace Go.Proofs.YtlhohmlpcgbliabGreatDoor
set_option maxRecDepth 100000
open Go.RowKit

def fluA (p : Option AS) : Int × Int := match p with
  | none => (0, 3)
  | some q => (((q.1.length + q.2.length : Nat) : Int), 0)
def fluP (p : Option AS) : Option AS := p.map fun q => (q.1 ++ q.2, [])
def chkA (p : Option AS) : Int × ByteArray × Int := match p with
  | none => (0, ⟨#[]⟩, 3)
  | some q => ((q.1.length : Int), mth (q.1.map leafS), 0)
def entA (p : Option AS) (i : Int) : ByteArray × Int := match p with
  | none => (⟨#[]⟩, 3)
  | some q => if i < 0 ∨ (q.1.length : Int) ≤ i then (⟨#[]⟩, 8) else (q.1.getD i.toNat ⟨#[]⟩, 0)
def incA (p : Option AS) (i n : Int) : List ByteArray × Int := match p with
  | none => ([], 3)
  | some q => if (q.1.length : Int) < n ∨ i < 0 ∨ n ≤ i then ([], 8) else (incF n.toNat i.toNat ((q.1.map leafS).take n.toNat), 0)
def conA (p : Option AS) (i n : Int) : List ByteArray × Int := match p with
  | none => ([], 3)
  | some q => if (q.1.length : Int) < n ∨ i < 1 ∨ n < i then ([], 8) else (conF n.toNat i.toNat ((q.1.map leafS).take n.toNat) true, 0)
def waiA (p : Option AS) : Nat := match p with
  | none => 0
  | some q => q.2.length
def recA (p : Option AS) : Int := match p with
  | none => 3
  | some _ => 0
def faiA (p : Option AS) : Int := match p with
  | none => 3
  | some _ => 1

theorem flushed_holds {D : Dk} {E W : List ByteArray} (h : Holds D E) (hW : W.length ≤ 12) (hz : ∀ s ∈ W, s.size ≤ 40) (hl : E.length + W.length ≤ 64) : Holds (D.flushed W) (E ++ W) := by
  unfold Dk.flushed
  split
  · rename_i h0
    rw [List.length_eq_zero_iff.1 h0, List.append_nil]
    exact h
  · exact add_spec h hW hz hl
theorem getD_of {E : List ByteArray} {i : Int} (h0 : ¬ i < 0) (h1 : ¬ (E.length : Int) ≤ i) : E[i.toNat]? = some (E.getD i.toNat ⟨#[]⟩) := by
  have hl : i.toNat < E.length := by omega
  simp [List.getD, hl]
section
variable {B w : World} {gm : Nat} {P R : Nat → Option AS} {N : Nat → Int} {T : List (List Value)} {av : Value} {col : Nat → Nat}
theorem GA.flush (G : GA B w gm P R N T av col) {k : Nat} (hk : k < 3) (ht : Table B) (hg : 2 < B.heap.size) {v : Value} (hv : w.cell? ⟨gm, k, none⟩ = some v) :
    Calls Tryz.prog 64 #[v] w fun e w' => e = .returned (.tuple #[.int .i64 (fluA (P k)).1, .int .i64 (fluA (P k)).2]) ∧ Chg col (10 + k) w w' ∧ ∃ n', (∀ q, P k = some q → q.2 = [] → n' = N k) ∧ GA B w' gm (upd P k (fluP (P k))) R (updI N k n') T av (ncol col w.heap.size (10 + k)) := by
  rcases G.xcase hk hv with ⟨rfl, hp, _⟩ | ⟨x, p, rfl, hp, hx, hr, hc, hstep⟩
  · refine (nilFlush_any w).mono ?_
    rintro e w' ⟨rfl, rfl⟩
    refine ⟨by rw [hp]; rfl, Chg.of_below (Below.refl _ _), N k, fun _ _ _ => rfl, ?_⟩
    rw [hp, upd_id P k (v := fluP none) (by rw [hp]; rfl), if_id N k rfl]
    exact G.below (Below.refl _ _) _
  · obtain ⟨hH, hW, hl, hz, hn2, ha⟩ := hr
    have hlow : ∀ j, x.own j → B.heap.size ≤ j := fun j hj => G.low j (by rw [hc j hj]; omega)
    have hF := flushed_holds hH hl hz hn2
    rw [← hW] at hF
    refine (logFlush_any hx hH.nf.failed hH.jn (by rw [hW]; exact hz) (by rw [hH.ckN, hW]; omega) (by rw [hH.fre]; simp) (env_of ht hg G.bel (hlow _ (.inr (.inl rfl))) (fun j hj => hlow j (.inr (.inr (.inl hj))))) hF.nf.failed).mono ?_
    rintro e w' ⟨rfl, fv', hL, hR⟩
    refine ⟨by rw [hp, hF.ckN, List.length_append, hW]; rfl, Chg.of_frl hR hc, (x.D.flushed x.W).acts, fun q hq h0 => ?_, ?_⟩
    · rw [hp] at hq
      injection hq with hq
      subst hq
      rw [hW, h0]
      exact ha
    · rw [hW] at hF
      have := hstep w' _ _ _ _ (p.1 ++ p.2, []) (x.D.flushed x.W).acts hL hR ⟨by rw [hW]; exact hF, rfl, by simp, fun s hs => by simp at hs, by simpa using hn2, rfl⟩
      rw [hp]
      exact this
theorem GA.refFlush (G : GA B w gm P R N T av col) {k : Nat} (hk : k < 3) {v : Value} (hv : w.cell? ⟨gm, 3 + k, none⟩ = some v) (hf : Fine (R k)) :
    Calls Tryz.prog 65 #[v] w fun e w' => e = .returned (.tuple #[.int .i64 (fluA (R k)).1, .int .i64 (fluA (R k)).2]) ∧ Chg col (20 + k) w w' ∧ GA B w' gm P (upd R k (fluP (R k))) N T av (ncol col w.heap.size (20 + k)) := by
  rcases G.ycase hk hv with ⟨rfl, hp⟩ | ⟨y, rfl, hp, hy, hc, hstep⟩
  · refine (refNil_flush w).mono ?_
    rintro e w' ⟨rfl, rfl⟩
    refine ⟨by rw [hp]; rfl, Chg.of_below (Below.refl _ _), ?_⟩
    rw [hp, upd_id R k (v := fluP none) (by rw [hp]; rfl)]
    exact G.below (Below.refl _ _) _
  · obtain ⟨f1, f2, f3, f4, f5⟩ := hf.ok _ hp
    refine (refFlush_any hy (by simp only at f5; omega)).mono ?_
    rintro e w' ⟨rfl, ev', hL, hR⟩
    refine ⟨by rw [hp]; rfl, Chg.of_frl hR hc, ?_⟩
    rw [hp]
    exact hstep w' _ _ _ _ hL hR
theorem GA.ck (G : GA B w gm P R N T av col) {k : Nat} (hk : k < 3) {v : Value} (hv : w.cell? ⟨gm, k, none⟩ = some v) : Calls Tryz.prog 38 #[v] w fun e w' => e = .returned (.tuple #[.int .i64 (chkA (P k)).1, .string (chkA (P k)).2.1, .int .i64 (chkA (P k)).2.2]) ∧ Below w.heap.size w w' := by
  rcases G.xcase hk hv with ⟨rfl, hp, _⟩ | ⟨x, p, rfl, hp, hx, hr, hc, hstep⟩
  · refine (nilCk_any w).mono ?_
    rintro e w' ⟨rfl, rfl⟩
    exact ⟨by rw [hp]; rfl, Below.refl _ _⟩
  · have := logCk_ok hx hr.1.nf.failed
    rw [hr.1.ckN, hr.1.ckR, strOf_bts] at this
    rw [hp]
    exact this
theorem GA.refCk (G : GA B w gm P R N T av col) {k : Nat} (hk : k < 3) {v : Value} (hv : w.cell? ⟨gm, 3 + k, none⟩ = some v) (hf : Fine (R k)) : Calls Tryz.prog 39 #[v] w fun e w' => e = .returned (.tuple #[.int .i64 (chkA (R k)).1, .string (chkA (R k)).2.1, .int .i64 (chkA (R k)).2.2]) ∧ Below w.heap.size w w' := by
  rcases G.ycase hk hv with ⟨rfl, hp⟩ | ⟨y, rfl, hp, hy, hc, hstep⟩
  · refine (refNil_ck w).mono ?_
    rintro e w' ⟨rfl, rfl⟩
    exact ⟨by rw [hp]; rfl, Below.refl _ _⟩
  · obtain ⟨f1, f2, f3, f4, f5⟩ := hf.ok _ hp
    rw [hp]
    exact refCk_any hy f1 f2
theorem GA.entry (G : GA B w gm P R N T av col) {k : Nat} (hk : k < 3) {v : Value} (hv : w.cell? ⟨gm, k, none⟩ = some v) (i : Int) : Calls Tryz.prog 40 #[v, .int .i64 i] w fun e w' => e = .returned (.tuple #[.string (entA (P k) i).1, .int .i64 (entA (P k) i).2]) ∧ Below w.heap.size w w' := by
  rcases G.xcase hk hv with ⟨rfl, hp, _⟩ | ⟨x, p, rfl, hp, hx, hr, hc, hstep⟩
  · refine (nilEntry_any i w).mono ?_
    rintro e w' ⟨rfl, rfl⟩
    exact ⟨by rw [hp]; rfl, Below.refl _ _⟩
  · rw [hp]
    unfold entA
    by_cases hi : i < 0 ∨ (p.1.length : Int) ≤ i
    · simp only [if_pos hi]
      exact logEntry_range hx hr.1.nf.failed i (by rw [hr.1.ckN]; exact hi)
    · simp only [if_neg hi]
      have h0 : ¬ i < 0 := fun h => hi (.inl h)
      have h1 : ¬ (p.1.length : Int) ≤ i := fun h => hi (.inr h)
      have hl := hr.1.len
      have := logEntry_ok hx hr.1.nf.failed i.toNat (by rw [hr.1.ckN]; omega) (by omega)
      rw [hr.1.entry (getD_of h0 h1), Int.toNat_of_nonneg (by omega)] at this
      exact this
theorem GA.refEntry (G : GA B w gm P R N T av col) {k : Nat} (hk : k < 3) {v : Value} (hv : w.cell? ⟨gm, 3 + k, none⟩ = some v) (i : Int) : Calls Tryz.prog 41 #[v, .int .i64 i] w fun e w' => e = .returned (.tuple #[.string (entA (R k) i).1, .int .i64 (entA (R k) i).2]) ∧ Below w.heap.size w w' := by
  rcases G.ycase hk hv with ⟨rfl, hp⟩ | ⟨y, rfl, hp, hy, hc, hstep⟩
  · refine (refNil_entry i w).mono ?_
    rintro e w' ⟨rfl, rfl⟩
    exact ⟨by rw [hp]; rfl, Below.refl _ _⟩
  · rw [hp]
    unfold entA
    by_cases hi : i < 0 ∨ (y.E.length : Int) ≤ i
    · simp only [if_pos hi]
      refine (refEntry_range hy i hi).mono ?_
      rintro e w' ⟨rfl, rfl⟩
      exact ⟨rfl, Below.refl _ _⟩
    · simp only [if_neg hi]
      have h0 : ¬ i < 0 := fun h => hi (.inl h)
      have h1 : ¬ (y.E.length : Int) ≤ i := fun h => hi (.inr h)
      have := refEntry_ok hy i.toNat _ (getD_of h0 h1)
      rw [Int.toNat_of_nonneg (by omega)] at this
      refine this.mono ?_
      rintro e w' ⟨rfl, rfl⟩
      exact ⟨rfl, Below.refl _ _⟩
theorem GA.incl (G : GA B w gm P R N T av col) {k : Nat} (hk : k < 3) (ht : Table B) (hg : 2 < B.heap.size) {v : Value} (hv : w.cell? ⟨gm, k, none⟩ = some v) (i n : Int) : Calls Tryz.prog 42 #[v, .int .i64 i, .int .i64 n] w fun e w' => ∃ u, e = .returned (.tuple #[u, .int .i64 (incA (P k) i n).2]) ∧ Row w' w.heap.size 9 u (strv (incA (P k) i n).1) ∧ Below w.heap.size w w' := by
  rcases G.xcase hk hv with ⟨rfl, hp, _⟩ | ⟨x, p, rfl, hp, hx, hr, hc, hstep⟩
  · refine (nilInclusion_any i n w).mono ?_
    rintro e w' ⟨rfl, rfl⟩
    rw [hp]
    exact ⟨_, rfl, World.ownsRow_nil _ _ _ _, Below.refl _ _⟩
  · rw [hp]
    unfold incA
    by_cases hi : (p.1.length : Int) < n ∨ i < 0 ∨ n ≤ i
    · simp only [if_pos hi]
      refine (logIncl_range hx hr.1.nf.failed i n (by rw [hr.1.ckN]; exact hi)).mono ?_
      rintro e w' ⟨rfl, hb⟩
      exact ⟨_, rfl, World.ownsRow_nil _ _ _ _, hb⟩
    · simp only [if_neg hi]
      have h0 : ¬ i < 0 := fun h => hi (.inr (.inl h))
      have h1 : ¬ n ≤ i := fun h => hi (.inr (.inr h))
      have h2 : ¬ (p.1.length : Int) < n := fun h => hi (.inl h)
      have := logInclusion_ok hx hr.1 (table_at G.bel hg ht) (Nat.lt_of_lt_of_le hg G.bel.size) i.toNat n.toNat (by omega) (by omega)
      rw [Int.toNat_of_nonneg (by omega), Int.toNat_of_nonneg (by omega)] at this
      exact this
theorem GA.cons (G : GA B w gm P R N T av col) {k : Nat} (hk : k < 3) (ht : Table B) (hg : 2 < B.heap.size) {v : Value} (hv : w.cell? ⟨gm, k, none⟩ = some v) (i n : Int) : Calls Tryz.prog 46 #[v, .int .i64 i, .int .i64 n] w fun e w' => ∃ u, e = .returned (.tuple #[u, .int .i64 (conA (P k) i n).2]) ∧ Row w' w.heap.size 9 u (strv (conA (P k) i n).1) ∧ Below w.heap.size w w' := by
  rcases G.xcase hk hv with ⟨rfl, hp, _⟩ | ⟨x, p, rfl, hp, hx, hr, hc, hstep⟩
  · refine (nilConsistency_any i n w).mono ?_
    rintro e w' ⟨rfl, rfl⟩
    rw [hp]
    exact ⟨_, rfl, World.ownsRow_nil _ _ _ _, Below.refl _ _⟩
  · rw [hp]
    unfold conA
    by_cases hi : (p.1.length : Int) < n ∨ i < 1 ∨ n < i
    · simp only [if_pos hi]
      refine (logCons_range hx hr.1.nf.failed i n (by rw [hr.1.ckN]; exact hi)).mono ?_
      rintro e w' ⟨rfl, hb⟩
      exact ⟨_, rfl, World.ownsRow_nil _ _ _ _, hb⟩
    · simp only [if_neg hi]
      have h0 : ¬ i < 1 := fun h => hi (.inr (.inl h))
      have h1 : ¬ n < i := fun h => hi (.inr (.inr h))
      have h2 : ¬ (p.1.length : Int) < n := fun h => hi (.inl h)
      have := logConsistency_ok hx hr.1 (table_at G.bel hg ht) (Nat.lt_of_lt_of_le hg G.bel.size) i.toNat n.toNat (by omega) (by omega) (by omega)
      rw [Int.toNat_of_nonneg (by omega), Int.toNat_of_nonneg (by omega)] at this
      exact this
theorem GA.refIncl (G : GA B w gm P R N T av col) {k : Nat} (hk : k < 3) {v : Value} (hv : w.cell? ⟨gm, 3 + k, none⟩ = some v) (hf : Fine (R k)) (i n : Int) : Calls Tryz.prog 43 #[v, .int .i64 i, .int .i64 n] w fun e w' => ∃ u, e = .returned (.tuple #[u, .int .i64 (incA (R k) i n).2]) ∧ Row w' w.heap.size 9 u (strv (incA (R k) i n).1) ∧ Below w.heap.size w w' := by
  rcases G.ycase hk hv with ⟨rfl, hp⟩ | ⟨y, rfl, hp, hy, hc, hstep⟩
  · refine (refNil_incl i n w).mono ?_
    rintro e w' ⟨rfl, rfl⟩
    rw [hp]
    exact ⟨_, rfl, World.ownsRow_nil _ _ _ _, Below.refl _ _⟩
  · obtain ⟨f1, f2, f3, f4, f5⟩ := hf.ok _ hp
    rw [hp]
    unfold incA
    by_cases hi : (y.E.length : Int) < n ∨ i < 0 ∨ n ≤ i
    · simp only [if_pos hi]
      refine (refIncl_range hy i n hi).mono ?_
      rintro e w' ⟨rfl, rfl⟩
      exact ⟨_, rfl, World.ownsRow_nil _ _ _ _, Below.refl _ _⟩
    · simp only [if_neg hi]
      have h0 : ¬ i < 0 := fun h => hi (.inr (.inl h))
      have h1 : ¬ n ≤ i := fun h => hi (.inr (.inr h))
      have h2 : ¬ (y.E.length : Int) < n := fun h => hi (.inl h)
      have := refIncl_ok hy f1 f2 i.toNat n.toNat (by omega) (by omega)
      rw [Int.toNat_of_nonneg (by omega), Int.toNat_of_nonneg (by omega)] at this
      exact this
theorem GA.refCons (G : GA B w gm P R N T av col) {k : Nat} (hk : k < 3) {v : Value} (hv : w.cell? ⟨gm, 3 + k, none⟩ = some v) (hf : Fine (R k)) (i n : Int) : Calls Tryz.prog 47 #[v, .int .i64 i, .int .i64 n] w fun e w' => ∃ u, e = .returned (.tuple #[u, .int .i64 (conA (R k) i n).2]) ∧ Row w' w.heap.size 9 u (strv (conA (R k) i n).1) ∧ Below w.heap.size w w' := by
  rcases G.ycase hk hv with ⟨rfl, hp⟩ | ⟨y, rfl, hp, hy, hc, hstep⟩
  · refine (refNil_cons i n w).mono ?_
    rintro e w' ⟨rfl, rfl⟩
    rw [hp]
    exact ⟨_, rfl, World.ownsRow_nil _ _ _ _, Below.refl _ _⟩
  · obtain ⟨f1, f2, f3, f4, f5⟩ := hf.ok _ hp
    rw [hp]
    unfold conA
    by_cases hi : (y.E.length : Int) < n ∨ i < 1 ∨ n < i
    · simp only [if_pos hi]
      refine (refCons_range hy i n hi).mono ?_
      rintro e w' ⟨rfl, rfl⟩
      exact ⟨_, rfl, World.ownsRow_nil _ _ _ _, Below.refl _ _⟩
    · simp only [if_neg hi]
      have h0 : ¬ i < 1 := fun h => hi (.inr (.inl h))
      have h1 : ¬ n < i := fun h => hi (.inr (.inr h))
      have h2 : ¬ (y.E.length : Int) < n := fun h => hi (.inl h)
      have := refCons_ok hy f1 f2 i.toNat n.toNat (by omega) (by omega) (by omega)
      rw [Int.toNat_of_nonneg (by omega), Int.toNat_of_nonneg (by omega)] at this
      exact this
theorem GA.waiting (G : GA B w gm P R N T av col) {k : Nat} (hk : k < 3) {v : Value} (hv : w.cell? ⟨gm, k, none⟩ = some v) : Calls Tryz.prog 72 #[v] w fun e w' => e = .returned (.int .i64 (waiA (P k) : Int)) ∧ w' = w := by
  rcases G.xcase hk hv with ⟨rfl, hp, _⟩ | ⟨x, p, rfl, hp, hx, hr, hc, hstep⟩
  · rw [hp]; exact nilWaiting_any w
  · rw [hp]
    have := logWaiting_any hx
    rw [hr.2.1] at this
    exact this
theorem GA.recover (G : GA B w gm P R N T av col) {k : Nat} (hk : k < 3) (ht : Table B) (hg : 2 < B.heap.size) {v : Value} (hv : w.cell? ⟨gm, k, none⟩ = some v) : Calls Tryz.prog 73 #[v] w fun e w' => e = .returned (.int .i64 (recA (P k))) ∧ Chg col (10 + k) w w' ∧ GA B w' gm P R N T av (ncol col w.heap.size (10 + k)) := by
  rcases G.xcase hk hv with ⟨rfl, hp, _⟩ | ⟨x, p, rfl, hp, hx, hr, hc, hstep⟩
  · refine (nilRecover_any w).mono ?_
    rintro e w' ⟨rfl, rfl⟩
    exact ⟨by rw [hp]; rfl, Chg.of_below (Below.refl _ _), G.below (Below.refl _ _) _⟩
  · have hlow : ∀ j, x.own j → B.heap.size ≤ j := fun j hj => G.low j (by rw [hc j hj]; omega)
    refine (logRecover_any hx hr.1.nf.failed (jFit (n := 0) (.inl hr.1.jn)) (by rw [hr.1.fre]; simp) (env_of ht hg G.bel (hlow _ (.inr (.inl rfl))) (fun j hj => hlow j (.inr (.inr (.inl hj)))))).mono ?_
    rintro e w' ⟨c, rfl, hcc, fv', hL, hR⟩
    rw [hr.1.recv] at hcc hL
    have hc0 : c = 0 := by
      rcases hcc with ⟨h1, _⟩ | ⟨_, h1⟩
      · rw [hr.1.nf.failed] at h1; cases h1
      · exact h1
    refine ⟨by rw [hp, hc0]; rfl, Chg.of_frl hR hc, ?_⟩
    have := hstep w' _ _ _ _ p (N k) hL hR hr
    rw [if_id N k rfl, upd_id P k hp] at this
    exact this
theorem GA.bytes (G : GA B w gm P R N T av col) {k : Nat} (hk : k < 3) {v : Value} (hv : w.cell? ⟨gm, k, none⟩ = some v) : Calls Tryz.prog 74 #[v] w fun e w' => ∃ s, e = .returned (.string s) ∧ Below w.heap.size w w' ∧ (P k = none → s = ⟨#[]⟩ ∧ N k = 0) ∧ ∀ q, P k = some q → s.size = 25600 ∧ Holds (Dk.of (bts s)) q.1 := by
  rcases G.xcase hk hv with ⟨rfl, hp, h0⟩ | ⟨x, p, rfl, hp, hx, hr, hc, hstep⟩
  · refine (nilBytes_any w).mono ?_
    rintro e w' ⟨rfl, rfl⟩
    exact ⟨_, rfl, Below.refl _ _, fun _ => ⟨rfl, h0⟩, fun q hq => by rw [hp] at hq; cases hq⟩
  · refine (logBytes_any hx).mono ?_
    rintro e w' ⟨rfl, hb⟩
    refine ⟨_, rfl, hb, fun h => (by rw [hp] at h; cases h), fun q hq => ?_⟩
    rw [hp] at hq
    injection hq with hq
    subst hq
    rw [bts_flat hr.1.ok, strOf_size (flat_byt hr.1.ok), hr.1.ok.flat]
    exact ⟨rfl, hr.1.again⟩
theorem GA.fail (G : GA B w gm P R N T av col) {k : Nat} (hk : k < 3) {v : Value} (hv : w.cell? ⟨gm, k, none⟩ = some v) (a b : Int) (ha : a < 0) : Calls Tryz.prog 76 #[v, .int .i64 a, .int .i64 b] w fun e w' => e = .returned (.int .i64 (faiA (P k))) ∧ w' = w := by
  rcases G.xcase hk hv with ⟨rfl, hp, _⟩ | ⟨x, p, rfl, hp, hx, hr, hc, hstep⟩
  · rw [hp]; exact nilFail_any a b w
  · rw [hp]; exact logFail_neg hx hr.1.nf.failed a b ha
end
end Go.Proofs.YtlhohmlpcgbliabGreatDoor
namespace Go.Proofs.YtlhohmlpcgbliabGreatDoor
set_option maxRecDepth 100000
open Go.RowKit
attribute [local go_sem ↓] Go.wp_at_zero Go.wp_at_succ

/-- A list with room behind it, and the one that it was made of. -/
def RM (w : World) (r L : Value) (ss : List ByteArray) : Prop :=
  (r = .slice none 0 0 ∧ L = .slice none 0 0 ∧ ss = []) ∨ ∃ (a : Addr) (c g : Nat), L = .slice (some a) ss.length c ∧ (∀ (i : Nat) s, ss[i]? = some s → w.cell? (a.add i) = some (.string s)) ∧ r = .slice (some ⟨g, 0, none⟩) ss.length (ss.length + 8) ∧ Blk w g 9 (strv (roomL ss 8))
theorem RM.args {w : World} {r L : Value} {ss : List ByteArray} (h : RM w r L ss) : ArgS w L ss := by
  rcases h with ⟨_, h2, h3⟩ | ⟨a, c, g, h1, h2, _⟩
  · exact .inl ⟨h2, h3⟩
  · exact .inr ⟨a, c, h1, h2⟩
theorem roomy_rm (L : Value) (ss : List ByteArray) (w : World) (h : ArgS w L ss) (hn : ss.length ≤ 1000000000) :
    Calls Tryz.prog 9 #[L] w fun e w' => ∃ r, e = .returned r ∧ RM w' r L ss ∧ Below w.heap.size w w' ∧ ∀ j, r.ownBlock = some j → w.heap.size ≤ j := by
  rcases h with ⟨rfl, rfl⟩ | ⟨a, c, rfl, h⟩
  · refine (roomy_nil w).mono ?_
    rintro e w' ⟨rfl, rfl⟩
    exact ⟨_, rfl, .inl ⟨rfl, rfl, rfl⟩, Below.refl _ _, fun j hj => by simp [Value.ownBlock] at hj⟩
  · refine (roomy_some a c ss w (by omega) h).mono ?_
    rintro e w' ⟨rfl, hB, hb⟩
    refine ⟨_, rfl, .inr ⟨a, c, _, rfl, fun i s hs => ?_, rfl, hB⟩, hb, fun j hj => by simp [Value.ownBlock] at hj; omega⟩
    have h1 := h i s hs
    rw [hb.cell (World.block_lt_of_cell? _ _ h1)]
    exact h1
theorem RM.row {w : World} {r L : Value} {ss : List ByteArray} (h : RM w r L ss) (hn : ss.length ≤ 1000000000) : Row w 0 9 r (strv ss) := by
  rcases h with ⟨rfl, _, rfl⟩ | ⟨a, c, g, _, _, rfl, hB⟩
  · exact World.ownsRow_nil _ _ _ _
  · refine ⟨by simp, .inr ⟨g, ss.length + 8, (strv (roomL ss 8)).toArray, by rw [strv_length], Nat.zero_le _, hB, by rw [strv_length]; omega, by unfold maxLen; omega, ?_, ?_⟩⟩
    · rw [List.size_toArray, strv_length, roomL_length _ _ (by omega), Nat.mul_one]
    · show List.take ((strv ss).length * 1) (strv (roomL ss 8)) = strv ss
      rw [Nat.mul_one, roomL, strv_append]
      exact List.take_left
theorem addr_add_block (a : Addr) (i : Nat) : (a.add i).block = a.block := by
  unfold Addr.add
  split <;> rfl
theorem RM.keep {w w' : World} {r L : Value} {ss : List ByteArray} (h : RM w r L ss) (hr : ∀ k, r.ownBlock = some k → k < w.heap.size → w'.heap[k]? = w.heap[k]?) (hL : ss ≠ [] → ∀ k, L.ownBlock = some k → k < w.heap.size → w'.heap[k]? = w.heap[k]?) : RM w' r L ss := by
  rcases h with h | ⟨a, c, g, h1, h2, h3, h4⟩
  · exact .inl h
  · refine .inr ⟨a, c, g, h1, fun i s hs => ?_, h3, ?_⟩
    · have hc := h2 i s hs
      have hlt := World.block_lt_of_cell? _ _ hc
      have hb := addr_add_block a i
      have hbb : w'.heap[(a.add i).block]? = w.heap[(a.add i).block]? := by
        rw [hb] at hlt ⊢
        exact hL (fun e => by rw [e] at hs; simp at hs) a.block (by rw [h1]; rfl) hlt
      rw [World.cell?_of_block hbb]
      exact hc
    · have := h4.lt
      unfold Blk at *
      rw [hr g (by rw [h3]; rfl) this]
      exact h4
theorem RM.whole {w : World} {r L : Value} {ss : List ByteArray} (h : RM w r L ss) (hn : ss.length ≤ 1000000000) : Calls Tryz.prog 11 #[r, L] w fun e w' => e = .returned (.bool true) ∧ Below w.heap.size w w' := by
  have hA := h.args
  rcases h with ⟨rfl, rfl, rfl⟩ | ⟨a, c, g, rfl, h2, rfl, h4⟩
  · refine (whole_nil w).mono ?_
    rintro e w' ⟨rfl, rfl⟩
    exact ⟨rfl, Below.refl _ _⟩
  · refine (whole_some a g c ss w (by omega) hA.strs h4).mono ?_
    rintro e w' ⟨rfl, d, rfl⟩
    exact ⟨rfl, Below.drewN' (Below.refl _ _) d⟩
/-- What a step leaves: a game in which the program's logs are the document's. -/
def Done (B : World) (gm : Nat) (T : List (List Value)) (w' : World) : Prop := ∃ A' N' T' av' col', GA B w' gm A' A' N' T' av' col' ∧ T'.length ≤ T.length + 1

theorem elem_texts : ∃ i, Tryz.prog.info? 74 = some i ∧ i.zero = some (.agg #[.slice none 0 0, .slice none 0 0, .slice none 0 0, .slice none 0 0, .string ⟨#[]⟩]) ∧ i.size = 5 ∧ i.bytes = 112 := by
  have h : (Tryz.prog.info? 74).map (fun i => (i.zero, i.size, i.bytes)) = some (some (.agg #[.slice none 0 0, .slice none 0 0, .slice none 0 0, .slice none 0 0, .string ⟨#[]⟩]), 5, 112) := by kernel_rfl
  cases hq : Tryz.prog.info? 74 with
  | none => simp [hq] at h
  | some i => simp [hq] at h; exact ⟨i, rfl, h.1, h.2.1, h.2.2⟩
theorem buildTx (w : World) (p0 p1 p2 p3 : Option Addr) (n0 n1 n2 n3 d0 d1 d2 d3 : Nat) (mk : ByteArray) : (Instr.buildSlice 47 1 #[(0, .agg #[.slice p0 n0 d0, .slice p1 n1 d1, .slice p2 n2 d2, .slice p3 n3 d3, .string mk])]).run Tryz.prog w = .ok (.slice (some ⟨w.heap.size, 0, none⟩) 1 1) (w.alloc (.cells #[.slice p0 n0 d0, .slice p1 n1 d1, .slice p2 n2 d2, .slice p3 n3 d3, .string mk] 74)) := by kernel_rfl
theorem loadTx (w : World) (b o : Nat) (p : Option Addr) (n c : Nat) (h : w.cell? ⟨b, o, none⟩ = some (.slice p n c)) : (Instr.loadAt 47 (.pointer (some ⟨b, o, none⟩))).run Tryz.prog w = .ok (.slice p n c) w := by
  simp [go_sem, h]
theorem storeTx (w : World) (b o : Nat) (u : Value) (p : Option Addr) (n c : Nat) (h : w.cell? ⟨b, o, none⟩ = some u) (hf : w.frozen? ⟨b, o, none⟩ = false) : (Instr.storeAt 47 (.pointer (some ⟨b, o, none⟩)) (.slice p n c)).run Tryz.prog w = .ok () (w.setCell ⟨b, o, none⟩ (.slice p n c)) := by
  simp [go_sem, h, hf]
section
variable {B w : World} {gm : Nat} {P R : Nat → Option AS} {N : Nat → Int} {T : List (List Value)} {av : Value} {col : Nat → Nat}
theorem GA.row (G : GA B w gm P R N T av col) : w.ownsRow 0 74 5 av T.length T.flatten := by
  obtain ⟨X, Y, h, _⟩ := G
  exact h.all
theorem GA.avc (G : GA B w gm P R N T av col) : ∀ j, av.ownBlock = some j → col j = 2 := by
  obtain ⟨X, Y, h, _⟩ := G
  exact h.avc
theorem GA.tex (G : GA B w gm P R N T av col) : ∀ t ∈ T, ∃ l g h i mk, t = [l, g, h, i, .string mk] ∧ MK w l mk ∧ MK w g mk ∧ MK w h mk ∧ MK w i mk := by
  obtain ⟨X, Y, h, _⟩ := G
  intro t ht
  obtain ⟨l, g, hh, i, mk, e, h1, h2, h3, h4⟩ := h.tex t ht
  exact ⟨l, g, hh, i, mk, e, h1.1, h2.1, h3.1, h4.1⟩
theorem GA.push {w2 : World} {av' : Value} {l g h i : Value} {mk : ByteArray} (G : GA B w gm P R N T av col)
    (hl : ∀ u, u = l ∨ u = g ∨ u = h ∨ u = i → MK w u mk ∧ ∀ j, u.ownBlock = some j → j < w.heap.size ∧ col j = 4)
    (hrow : w2.ownsRow 0 74 5 av' (T.length + 1) (T.flatten ++ [l, g, h, i, .string mk])) (hgr : w.grownBy w2 av.ownBlock) (hg : av'.ownBlock = av.ownBlock ∨ av'.ownBlock = some w.heap.size) :
    GA B (w2.setCell ⟨gm, 6, none⟩ av') gm P R N (T ++ [[l, g, h, i, .string mk]]) av' (cut4 (ncol col w.heap.size 2)) := by
  obtain ⟨X, Y, h1, h2, h3⟩ := G
  exact ⟨X, Y, h1.push hl hrow hgr hg, h2, h3⟩
/-- What kept has made. -/
theorem GA.kept {w1 : World} {r g h i : Value} {mk : ByteArray} (G : GA B w gm P R N T av col) (hrc : ∀ j, r.ownBlock = some j → j < w.heap.size ∧ col j = 4) (m0 : MK w1 r mk) (m1 : MK w1 g mk) (m2 : MK w1 h mk) (m3 : MK w1 i mk) (hgr : w.grownBy w1 r.ownBlock) (ho : ∀ u, u = g ∨ u = h ∨ u = i → ∀ k, u.ownBlock = some k → (r.ownBlock = some k ∨ w.heap.size ≤ k) ∧ k < w1.heap.size) (o : Obj) :
    GA B (w1.alloc o) gm P R N T av (ncol (ncol col w.heap.size 4) w1.heap.size 0) ∧ ∀ u, u = r ∨ u = g ∨ u = h ∨ u = i → MK (w1.alloc o) u mk ∧ ∀ j, u.ownBlock = some j → j < (w1.alloc o).heap.size ∧ ncol (ncol col w.heap.size 4) w1.heap.size 0 j = 4 := by
  have hb : Below w1.heap.size w1 (w1.alloc o) := (Below.refl _ _).alloc (Nat.le_refl _) _
  refine ⟨(G.list (Chg.of_grown hgr fun j hj => (hrc j hj).2) 4).below hb 0, fun u hu => ?_⟩
  have old : ∀ j, r.ownBlock = some j → j < w1.heap.size ∧ ncol col w.heap.size 4 j = 4 := fun j hj => ⟨Nat.lt_of_lt_of_le (hrc j hj).1 hgr.size, by rw [ncol_old (hrc j hj).1]; exact (hrc j hj).2⟩
  have fin : (∀ j, u.ownBlock = some j → j < w1.heap.size ∧ ncol col w.heap.size 4 j = 4) → ∀ j, u.ownBlock = some j → j < (w1.alloc o).heap.size ∧ ncol (ncol col w.heap.size 4) w1.heap.size 0 j = 4 := fun hh j hj => ⟨Nat.lt_of_lt_of_le (hh j hj).1 hb.size, by rw [ncol_old (hh j hj).1]; exact (hh j hj).2⟩
  have new : (u = g ∨ u = h ∨ u = i) → ∀ j, u.ownBlock = some j → j < w1.heap.size ∧ ncol col w.heap.size 4 j = 4 := fun hu j hj => by
    obtain ⟨h1, h2⟩ := ho u hu j hj
    refine ⟨h2, ?_⟩
    rcases h1 with e | e
    · exact (old j e).2
    · exact ncol_new e
  rcases hu with rfl | hu
  · exact ⟨m0.below hb, fin old⟩
  · refine ⟨?_, fin (new hu)⟩
    rcases hu with rfl | rfl | rfl
    · exact m1.below hb
    · exact m2.below hb
    · exact m3.below hb
end
end Go.Proofs.YtlhohmlpcgbliabGreatDoor
