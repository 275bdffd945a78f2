import Derived.WalkKit
namespace Go.Proofs.YtlhohmlpcgbliabGreatDoor.Sha

/-! SHA-256 over natural numbers: the one function that both sides are held against. -/

def rotr (x r : Nat) : Nat := x / 2 ^ r + x % 2 ^ r * 2 ^ (32 - r)
def bs0 (x : Nat) : Nat := rotr x 2 ^^^ rotr x 13 ^^^ rotr x 22
def bs1 (x : Nat) : Nat := rotr x 6 ^^^ rotr x 11 ^^^ rotr x 25
def ss0 (x : Nat) : Nat := rotr x 7 ^^^ rotr x 18 ^^^ x / 8
def ss1 (x : Nat) : Nat := rotr x 17 ^^^ rotr x 19 ^^^ x / 1024
def ch (e f g : Nat) : Nat := (e &&& f) ^^^ ((4294967295 - e) &&& g)
def maj (a b c : Nat) : Nat := (a &&& b) ^^^ (a &&& c) ^^^ (b &&& c)

theorem rotr_lt (x r : Nat) (hx : x < 4294967296) (hr : r ≤ 32) : rotr x r < 4294967296 := by
  unfold rotr
  have h1 : x / 2 ^ r < 2 ^ (32 - r) := by
    rw [Nat.div_lt_iff_lt_mul (Nat.two_pow_pos r), ← Nat.pow_add, show 32 - r + r = 32 by omega]
    exact hx
  have h2 : x % 2 ^ r < 2 ^ r := Nat.mod_lt _ (Nat.two_pow_pos r)
  have h3 : (x % 2 ^ r + 1) * 2 ^ (32 - r) ≤ 2 ^ r * 2 ^ (32 - r) := Nat.mul_le_mul_right _ h2
  rw [← Nat.pow_add, show r + (32 - r) = 32 by omega, Nat.add_mul] at h3
  omega

theorem xor_lt {a b : Nat} (ha : a < 4294967296) (hb : b < 4294967296) : a ^^^ b < 4294967296 := Nat.xor_lt_two_pow (n := 32) ha hb
theorem and_lt {a b : Nat} (hb : b < 4294967296) : a &&& b < 4294967296 := Nat.and_lt_two_pow (n := 32) a hb

theorem bs0_lt (x : Nat) (hx : x < 4294967296) : bs0 x < 4294967296 :=
  xor_lt (xor_lt (rotr_lt x 2 hx (by omega)) (rotr_lt x 13 hx (by omega))) (rotr_lt x 22 hx (by omega))
theorem bs1_lt (x : Nat) (hx : x < 4294967296) : bs1 x < 4294967296 :=
  xor_lt (xor_lt (rotr_lt x 6 hx (by omega)) (rotr_lt x 11 hx (by omega))) (rotr_lt x 25 hx (by omega))
theorem ss0_lt (x : Nat) (hx : x < 4294967296) : ss0 x < 4294967296 :=
  xor_lt (xor_lt (rotr_lt x 7 hx (by omega)) (rotr_lt x 18 hx (by omega))) (by omega)
theorem ss1_lt (x : Nat) (hx : x < 4294967296) : ss1 x < 4294967296 :=
  xor_lt (xor_lt (rotr_lt x 17 hx (by omega)) (rotr_lt x 19 hx (by omega))) (by omega)
theorem ch_lt (e f g : Nat) (hf : f < 4294967296) (hg : g < 4294967296) : ch e f g < 4294967296 := xor_lt (and_lt hf) (and_lt hg)
theorem maj_lt (a b c : Nat) (hb : b < 4294967296) (hc : c < 4294967296) : maj a b c < 4294967296 := xor_lt (xor_lt (and_lt hb) (and_lt hc)) (and_lt hc)

/-- The eight numbers. -/
structure St where
  a : Nat
  b : Nat
  c : Nat
  d : Nat
  e : Nat
  f : Nat
  g : Nat
  h : Nat

def St.ok (s : St) : Prop := s.a < 4294967296 ∧ s.b < 4294967296 ∧ s.c < 4294967296 ∧ s.d < 4294967296 ∧ s.e < 4294967296 ∧ s.f < 4294967296 ∧ s.g < 4294967296 ∧ s.h < 4294967296
def St.list (s : St) : List Nat := [s.a, s.b, s.c, s.d, s.e, s.f, s.g, s.h]

def step (s : St) (k w : Nat) : St :=
  ⟨(s.h + bs1 s.e + ch s.e s.f s.g + k + w + (bs0 s.a + maj s.a s.b s.c)) % 4294967296, s.a, s.b, s.c,
   (s.d + (s.h + bs1 s.e + ch s.e s.f s.g + k + w)) % 4294967296, s.e, s.f, s.g⟩

theorem step_ok {s : St} (h : s.ok) (k w : Nat) : (step s k w).ok := by
  obtain ⟨h1, h2, h3, h4, h5, h6, h7, h8⟩ := h
  exact ⟨Nat.mod_lt _ (by decide), h1, h2, h3, Nat.mod_lt _ (by decide), h5, h6, h7⟩

def keys : List Nat := [1116352408, 1899447441, 3049323471, 3921009573, 961987163, 1508970993, 2453635748, 2870763221, 3624381080, 310598401, 607225278, 1426881987, 1925078388, 2162078206, 2614888103, 3248222580, 3835390401, 4022224774, 264347078, 604807628, 770255983, 1249150122, 1555081692, 1996064986, 2554220882, 2821834349, 2952996808, 3210313671, 3336571891, 3584528711, 113926993, 338241895, 666307205, 773529912, 1294757372, 1396182291, 1695183700, 1986661051, 2177026350, 2456956037, 2730485921, 2820302411, 3259730800, 3345764771, 3516065817, 3600352804, 4094571909, 275423344, 430227734, 506948616, 659060556, 883997877, 958139571, 1322822218, 1537002063, 1747873779, 1955562222, 2024104815, 2227730452, 2361852424, 2428436474, 2756734187, 3204031479, 3329325298]
def init : St := ⟨1779033703, 3144134277, 1013904242, 2773480762, 1359893119, 2600822924, 528734635, 1541459225⟩
theorem init_ok : init.ok := by simp [init, St.ok]
theorem keys_lt (i : Nat) : keys.getD i 0 < 4294967296 := by
  by_cases h : i < 64
  · have : ∀ j : Fin 64, keys.getD j.val 0 < 4294967296 := by decide +kernel
    exact this ⟨i, h⟩
  · rw [List.getD_eq_getElem?_getD, List.getElem?_eq_none (by show 64 ≤ i; omega)]; simp

/-- A block's word number i, of its bytes. -/
def be4 (bl : List Nat) (i : Nat) : Nat := ((bl.getD (4 * i) 0 * 256 + bl.getD (4 * i + 1) 0) * 256 + bl.getD (4 * i + 2) 0) * 256 + bl.getD (4 * i + 3) 0
def next (w : List Nat) (i : Nat) : Nat := (w.getD (i - 16) 0 + ss0 (w.getD (i - 15) 0) + w.getD (i - 7) 0 + ss1 (w.getD (i - 2) 0)) % 4294967296
/-- The first n words of a block's schedule. -/
def sched (bl : List Nat) : Nat → List Nat
  | 0 => []
  | i + 1 => sched bl i ++ [if i < 16 then be4 bl i else next (sched bl i) i]

theorem sched_length (bl : List Nat) (n : Nat) : (sched bl n).length = n := by
  induction n with
  | zero => rfl
  | succ n ih => simp [sched, ih]

def bytesOk (bl : List Nat) : Prop := ∀ i, bl.getD i 0 < 256
theorem be4_lt {bl : List Nat} (h : bytesOk bl) (i : Nat) : be4 bl i < 4294967296 := by
  have h0 := h (4 * i); have h1 := h (4 * i + 1); have h2 := h (4 * i + 2); have h3 := h (4 * i + 3)
  unfold be4; omega

theorem sched_lt {bl : List Nat} (h : bytesOk bl) (n : Nat) : ∀ i, (sched bl n).getD i 0 < 4294967296 := by
  induction n with
  | zero => intro i; simp [sched]
  | succ n ih =>
    intro i
    simp only [sched, List.getD_eq_getElem?_getD, List.getElem?_append, sched_length]
    by_cases hi : i < n
    · simpa [hi, List.getD_eq_getElem?_getD] using ih i
    · simp only [hi, if_false]
      by_cases hi2 : i = n
      · subst hi2
        simp only [Nat.sub_self, List.getElem?_cons_zero, Option.getD_some]
        split
        · exact be4_lt h _
        · exact Nat.mod_lt _ (by decide)
      · rw [List.getElem?_eq_none (by simp; omega)]; simp

/-- The eight numbers behind i rounds. -/
def rounds (s : St) (w : List Nat) : Nat → St
  | 0 => s
  | i + 1 => step (rounds s w i) (keys.getD i 0) (w.getD i 0)
theorem rounds_ok {s : St} (h : s.ok) (w : List Nat) (n : Nat) : (rounds s w n).ok := by
  induction n with
  | zero => exact h
  | succ n ih => exact step_ok ih _ _

def add (s t : St) : St :=
  ⟨(s.a + t.a) % 4294967296, (s.b + t.b) % 4294967296, (s.c + t.c) % 4294967296, (s.d + t.d) % 4294967296, (s.e + t.e) % 4294967296, (s.f + t.f) % 4294967296, (s.g + t.g) % 4294967296, (s.h + t.h) % 4294967296⟩
theorem add_ok (s t : St) : (add s t).ok := by
  refine ⟨?_, ?_, ?_, ?_, ?_, ?_, ?_, ?_⟩ <;> exact Nat.mod_lt _ (by decide)

/-- A block worked into the eight numbers. -/
def mix (s : St) (bl : List Nat) : St := add s (rounds s (sched bl 64) 64)
theorem mix_ok (s : St) (bl : List Nat) : (mix s bl).ok := add_ok _ _

/-- All whole blocks of 64 bytes, from the front on. -/
def mixAll : Nat → St → List Nat → St
  | 0, s, _ => s
  | n + 1, s, l => mixAll n (mix s (l.take 64)) (l.drop 64)

def be8 (n : Nat) : List Nat := [n / 72057594037927936 % 256, n / 281474976710656 % 256, n / 1099511627776 % 256, n / 4294967296 % 256, n / 16777216 % 256, n / 65536 % 256, n / 256 % 256, n % 256]
/-- How many zeros stand behind the mark. -/
def zeros (n : Nat) : Nat := (119 - n % 64) % 64
def pad (l : List Nat) : List Nat := l ++ 128 :: (List.replicate (zeros l.length) 0 ++ be8 (8 * l.length))
def out (s : St) : List Nat := s.list.flatMap fun x => [x / 16777216, x / 65536 % 256, x / 256 % 256, x % 256]
/-- SHA-256. -/
def sha (l : List Nat) : List Nat := out (mixAll ((pad l).length / 64) init (pad l))

end Go.Proofs.YtlhohmlpcgbliabGreatDoor.Sha
namespace Go.Proofs.YtlhohmlpcgbliabGreatDoor.Sha

theorem rot_or (x r s : Nat) (hx : x < 4294967296) (hr : r + s = 32) : (x * 2 ^ s) % 4294967296 ||| x / 2 ^ r = rotr x r := by
  have e : (4294967296 : Nat) = 2 ^ r * 2 ^ s := by rw [← Nat.pow_add, hr]
  have h1 : (x * 2 ^ s) % 4294967296 = 2 ^ s * (x % 2 ^ r) := by
    rw [e, Nat.mul_mod_mul_right, Nat.mul_comm]
  have h2 : x / 2 ^ r < 2 ^ s := by
    rw [Nat.div_lt_iff_lt_mul (Nat.two_pow_pos r), ← Nat.pow_add, show s + r = 32 by omega]
    exact hx
  rw [h1, ← Nat.two_pow_add_eq_or_of_lt h2]
  unfold rotr
  rw [show 32 - r = s by omega, Nat.mul_comm, Nat.add_comm]

/-- .. as the walk spells it. -/
theorem rot_bits (x r s : Nat) (p q : Int) (hx : x < 4294967296) (hr : r + s = 32) (hp : p = ((2 ^ s : Nat) : Int)) (hq : q = ((2 ^ r : Nat) : Int)) :
    bits .or .u32 ((x : Int) * p % 4294967296) ((x : Int) / q) = ((rotr x r : Nat) : Int) := by
  subst hp hq
  have h1 : (x : Int) * ((2 ^ s : Nat) : Int) % 4294967296 = (((x * 2 ^ s) % 4294967296 : Nat) : Int) := by simp
  have h2 : (x : Int) / ((2 ^ r : Nat) : Int) = ((x / 2 ^ r : Nat) : Int) := by simp
  rw [h1, h2, u32_or_nat _ _ (Nat.mod_lt _ (by decide)) (Nat.lt_of_le_of_lt (Nat.div_le_self _ _) hx), rot_or x r s hx hr]

end Go.Proofs.YtlhohmlpcgbliabGreatDoor.Sha
