/-
  How many bits of a word are 1: the sum by halves, as math/bits reckons it. No program in sight.
-/
import Derived.Test.YtgpligkheipoaaaDoorBit
namespace Go.Proofs.YtgpligkheipoaaaDoor

/-- how many of the places i .. i+k-1 are true -/
def popFrom (f : Nat → Bool) : Nat → Nat → Nat
  | _, 0 => 0
  | i, k + 1 => popFrom f (i + 1) k + (f i).toNat
/-- how many bits of a word are 1 -/
def popv (x : Nat) : Nat := popFrom x.testBit 0 64
theorem popFrom_congr (f g : Nat → Bool) : ∀ k i, (∀ j, i ≤ j → j < i + k → f j = g j) → popFrom f i k = popFrom g i k
  | 0, _, _ => rfl
  | k + 1, i, h => by unfold popFrom; rw [popFrom_congr f g k (i + 1) (fun j a b => h j (by omega) (by omega)), h i (Nat.le_refl _) (by omega)]
theorem popFrom_shift (f g : Nat → Bool) (d : Nat) : ∀ k i, (∀ j, f (j + d) = g j) → popFrom f (i + d) k = popFrom g i k
  | 0, _, _ => rfl
  | k + 1, i, h => by unfold popFrom; rw [show i + d + 1 = i + 1 + d by omega, popFrom_shift f g d k (i + 1) h, h i]
theorem popFrom_add (f : Nat → Bool) : ∀ k m i, popFrom f i (k + m) = popFrom f (i + k) m + popFrom f i k
  | 0, m, i => by simp [popFrom]
  | k + 1, m, i => by
    rw [show k + 1 + m = (k + m) + 1 by omega]
    show popFrom f (i + 1) (k + m) + (f i).toNat = _
    rw [popFrom_add f k m (i + 1), show i + 1 + k = i + (k + 1) by omega]
    show _ = _ + (popFrom f (i + 1) k + (f i).toNat)
    omega
theorem popFrom_le (f : Nat → Bool) : ∀ k i, popFrom f i k ≤ k
  | 0, _ => Nat.le_refl _
  | k + 1, i => by unfold popFrom; have := popFrom_le f k (i + 1); have := Bool.toNat_le (f i); omega

/-- of a byte -/
def popB (x : Nat) : Nat := popFrom x.testBit 0 8
theorem popB_le (x : Nat) : popB x ≤ 8 := popFrom_le _ _ _
/-- the three steps within a byte -/
def b1 (x : Nat) : Nat := ((x / 2) &&& 85) + (x &&& 85)
def b2 (x : Nat) : Nat := ((x / 4) &&& 51) + (x &&& 51)
theorem byte_steps : ∀ x, x < 256 → b1 x < 256 ∧ b2 (b1 x) < 256 ∧ (b2 (b1 x) + b2 (b1 x) / 16) &&& 15 = popB x ∧ b2 (b1 x) % 16 ≤ 4 ∧ b2 (b1 x) / 16 ≤ 4 := by decide +kernel

theorem p8 {n : Nat} (h : n < 256) : n < 2 ^ 8 := h
theorem c8 (x y : Nat) : x * 256 + y = 2 ^ 8 * x + y := by rw [Nat.mul_comm x 256]
theorem and_split (x m y n : Nat) (hy : y < 256) (hn : n < 256) : (x * 256 + y) &&& (m * 256 + n) = (x &&& m) * 256 + (y &&& n) := by
  have hl : y &&& n < 2 ^ 8 := Nat.and_lt_two_pow _ (p8 hn)
  rw [c8 x y, c8 m n, c8 (x &&& m) (y &&& n)]
  have hy' := p8 hy
  have hn' := p8 hn
  apply Nat.eq_of_testBit_eq
  intro j
  rw [Nat.testBit_and, Nat.testBit_two_pow_mul_add _ hy', Nat.testBit_two_pow_mul_add _ hn', Nat.testBit_two_pow_mul_add _ hl]
  by_cases h : j < 8 <;> simp [h]

/-- a word of k bytes, the lowest first -/
def bytes (d : Nat → Nat) : Nat → Nat → Nat
  | _, 0 => 0
  | i, k + 1 => bytes d (i + 1) k * 256 + d i
theorem bytes_congr (d e : Nat → Nat) (h : ∀ j, d j = e j) : ∀ k i, bytes d i k = bytes e i k
  | 0, _ => rfl
  | k + 1, i => by unfold bytes; rw [bytes_congr d e h k (i + 1), h i]
/-- x / 2^r & (a mask of bytes each below 2^(8-r)) goes byte by byte -/
theorem shift_and (r m : Nat) (hm : m < 256) (hr : r = 2 ∧ m < 128 ∨ r = 4 ∧ m < 64 ∨ r = 1) (d : Nat → Nat) (hd : ∀ j, d j < 256) : ∀ k i, (bytes d i k / r) &&& bytes (fun _ => m) i k = bytes (fun j => (d j / r) &&& m) i k
  | 0, _ => by simp [bytes]
  | k + 1, i => by
    show ((bytes d (i + 1) k * 256 + d i) / r) &&& (bytes (fun _ => m) (i + 1) k * 256 + m) = bytes (fun j => (d j / r) &&& m) (i + 1) k * 256 + ((d i / r) &&& m)
    have hi := hd i
    rw [← shift_and r m hm hr d hd k (i + 1)]
    generalize bytes (fun _ => m) (i + 1) k = M
    generalize bytes d (i + 1) k = X
    generalize d i = y at *
    rcases hr with ⟨rfl, h⟩ | ⟨rfl, h⟩ | rfl
    · have e : (X * 256 + y) / 2 = X / 2 * 256 + (X % 2 * 128 + y / 2) := by omega
      have e2 : (X % 2 * 128 + y / 2) &&& m = (y / 2) &&& m := by
        apply Nat.eq_of_testBit_eq
        intro j
        rw [Nat.testBit_and, Nat.testBit_and, show X % 2 * 128 + y / 2 = 2 ^ 7 * (X % 2) + y / 2 by omega, Nat.testBit_two_pow_mul_add _ (by omega)]
        by_cases c : j < 7
        · simp [c]
        · rw [Nat.testBit_lt_two_pow (x := m) (Nat.lt_of_lt_of_le (show m < 2 ^ 7 by omega) (Nat.pow_le_pow_right (n := 2) (by decide) (by omega)))]; simp
      rw [e, and_split _ _ _ _ (by omega) hm, e2]
    · have e : (X * 256 + y) / 4 = X / 4 * 256 + (X % 4 * 64 + y / 4) := by omega
      have e2 : (X % 4 * 64 + y / 4) &&& m = (y / 4) &&& m := by
        apply Nat.eq_of_testBit_eq
        intro j
        rw [Nat.testBit_and, Nat.testBit_and, show X % 4 * 64 + y / 4 = 2 ^ 6 * (X % 4) + y / 4 by omega, Nat.testBit_two_pow_mul_add _ (by omega)]
        by_cases c : j < 6
        · simp [c]
        · rw [Nat.testBit_lt_two_pow (x := m) (Nat.lt_of_lt_of_le (show m < 2 ^ 6 by omega) (Nat.pow_le_pow_right (n := 2) (by decide) (by omega)))]; simp
      rw [e, and_split _ _ _ _ (by omega) hm, e2]
    · rw [Nat.div_one, Nat.div_one, Nat.div_one, and_split _ _ _ _ hi hm]
theorem bytes_add (d e : Nat → Nat) : ∀ k i, bytes d i k + bytes e i k = bytes (fun j => d j + e j) i k
  | 0, _ => rfl
  | k + 1, i => by unfold bytes; rw [← bytes_add d e k (i + 1)]; omega
theorem bytes_le (d : Nat → Nat) (m : Nat) (h : ∀ j, d j ≤ m) : ∀ k i, bytes d i k ≤ bytes (fun _ => m) i k
  | 0, _ => Nat.le_refl _
  | k + 1, i => by unfold bytes; have := bytes_le d m h k (i + 1); have := h i; omega
theorem bytes_of (x : Nat) : ∀ k i, x / 256 ^ (i + k) = 0 → bytes (fun j => x / 256 ^ j % 256) i k = x / 256 ^ i
  | 0, i, h => by simpa [bytes] using h.symm
  | k + 1, i, h => by
    unfold bytes
    rw [bytes_of x k (i + 1) (by rw [show i + 1 + k = i + (k + 1) by omega]; exact h), Nat.pow_succ, ← Nat.div_div_eq_div_mul]
    omega
def m1 : Nat := 6148914691236517205
def m2 : Nat := 3689348814741910323
def m4 : Nat := 1085102592571150095
def o1 (x : Nat) : Nat := ((x / 2) &&& m1) + (x &&& m1)
def o2 (x : Nat) : Nat := ((x / 4) &&& m2) + (x &&& m2)
def o3 (x : Nat) : Nat := (x / 16 + x) &&& m4
theorem o1_bytes (d : Nat → Nat) (hd : ∀ j, d j < 256) : o1 (bytes d 0 8) = bytes (fun j => b1 (d j)) 0 8 := by
  unfold o1
  rw [show m1 = bytes (fun _ => 85) 0 8 from rfl]
  have a := shift_and 2 85 (by decide) (.inl ⟨rfl, by decide⟩) d hd 8 0
  have b := shift_and 1 85 (by decide) (.inr (.inr rfl)) d hd 8 0
  simp only [Nat.div_one] at b
  rw [a, b, bytes_add]; rfl
theorem o2_bytes (d : Nat → Nat) (hd : ∀ j, d j < 256) : o2 (bytes d 0 8) = bytes (fun j => b2 (d j)) 0 8 := by
  unfold o2
  rw [show m2 = bytes (fun _ => 51) 0 8 from rfl]
  have a := shift_and 4 51 (by decide) (.inr (.inl ⟨rfl, by decide⟩)) d hd 8 0
  have b := shift_and 1 51 (by decide) (.inr (.inr rfl)) d hd 8 0
  simp only [Nat.div_one] at b
  rw [a, b, bytes_add]; rfl
theorem o3_bytes (d : Nat → Nat) (hd : ∀ j, d j % 16 ≤ 4 ∧ d j / 16 ≤ 4) : ∀ k i, (bytes d i k / 16 + bytes d i k) &&& bytes (fun _ => 15) i k = bytes (fun j => (d j + d j / 16) &&& 15) i k
  | 0, _ => by simp [bytes]
  | k + 1, i => by
    show ((bytes d (i + 1) k * 256 + d i) / 16 + (bytes d (i + 1) k * 256 + d i)) &&& (bytes (fun _ => 15) (i + 1) k * 256 + 15) = bytes (fun j => (d j + d j / 16) &&& 15) (i + 1) k * 256 + ((d i + d i / 16) &&& 15)
    rw [← o3_bytes d hd k (i + 1)]
    obtain ⟨h1, h2⟩ := hd i
    have hX : bytes d (i + 1) k % 16 ≤ 4 := by
      cases k with
      | zero => simp [bytes]
      | succ k => have := hd (i + 1); show (bytes d (i + 1 + 1) k * 256 + d (i + 1)) % 16 ≤ 4; omega
    generalize bytes (fun _ => 15) (i + 1) k = M
    generalize bytes d (i + 1) k = X at *
    generalize d i = y at *
    have e : (X * 256 + y) / 16 + (X * 256 + y) = (X / 16 + X) * 256 + (X % 16 * 16 + y / 16 + y) := by omega
    have e2 : (X % 16 * 16 + y / 16 + y) &&& 15 = (y + y / 16) &&& 15 := by
      have q : ∀ z, z &&& 15 = z % 16 := fun z => Nat.and_two_pow_sub_one_eq_mod z 4
      rw [q, q]; omega
    rw [e, and_split _ _ _ _ (by omega) (by decide), e2]
/-- what is left behind the masks -/
def o4 (x : Nat) : Nat := (x + x / 256) + (x + x / 256) / 65536
def o5 (x : Nat) : Nat := (o4 x + o4 x / 4294967296) % 128
theorem five1 (a0 a1 a2 a3 a4 a5 a6 a7 : Nat) (h0 : a0 ≤ 8) : ((((((((0 * 256 + a7) * 256 + a6) * 256 + a5) * 256 + a4) * 256 + a3) * 256 + a2) * 256 + a1) * 256 + a0) + ((((((((0 * 256 + a7) * 256 + a6) * 256 + a5) * 256 + a4) * 256 + a3) * 256 + a2) * 256 + a1) * 256 + a0) / 256 = (((((((a7 * 256 + (a6 + a7)) * 256 + (a5 + a6)) * 256 + (a4 + a5)) * 256 + (a3 + a4)) * 256 + (a2 + a3)) * 256 + (a1 + a2)) * 256 + (a0 + a1)) := by omega
theorem five2 (a0 a1 a2 a3 a4 a5 a6 a7 : Nat) (h0 : a0 ≤ 8) (h1 : a1 ≤ 8) (h2 : a2 ≤ 8) : (((((((a7 * 256 + (a6 + a7)) * 256 + (a5 + a6)) * 256 + (a4 + a5)) * 256 + (a3 + a4)) * 256 + (a2 + a3)) * 256 + (a1 + a2)) * 256 + (a0 + a1)) + (((((((a7 * 256 + (a6 + a7)) * 256 + (a5 + a6)) * 256 + (a4 + a5)) * 256 + (a3 + a4)) * 256 + (a2 + a3)) * 256 + (a1 + a2)) * 256 + (a0 + a1)) / 65536 = (((((((a7 * 256 + (a6 + a7)) * 256 + (a5 + a6 + a7)) * 256 + (a4 + a5 + a6 + a7)) * 256 + (a3 + a4 + a5 + a6)) * 256 + (a2 + a3 + a4 + a5)) * 256 + (a1 + a2 + a3 + a4)) * 256 + (a0 + a1 + a2 + a3)) := by omega
theorem five3 (a0 a1 a2 a3 a4 a5 a6 a7 : Nat) (h0 : a0 ≤ 8) (h1 : a1 ≤ 8) (h2 : a2 ≤ 8) (h3 : a3 ≤ 8) (h4 : a4 ≤ 8) (h5 : a5 ≤ 8) (h6 : a6 ≤ 8) : (((((((a7 * 256 + (a6 + a7)) * 256 + (a5 + a6 + a7)) * 256 + (a4 + a5 + a6 + a7)) * 256 + (a3 + a4 + a5 + a6)) * 256 + (a2 + a3 + a4 + a5)) * 256 + (a1 + a2 + a3 + a4)) * 256 + (a0 + a1 + a2 + a3)) / 4294967296 = (((a7 * 256 + (a6 + a7)) * 256 + (a5 + a6 + a7)) * 256 + (a4 + a5 + a6 + a7)) := by omega
theorem five4 (a0 a1 a2 a3 a4 a5 a6 a7 : Nat) (h0 : a0 ≤ 8) (h1 : a1 ≤ 8) (h2 : a2 ≤ 8) (h3 : a3 ≤ 8) (h4 : a4 ≤ 8) (h5 : a5 ≤ 8) (h6 : a6 ≤ 8) (h7 : a7 ≤ 8) :
    ((((((((a7 * 256 + (a6 + a7)) * 256 + (a5 + a6 + a7)) * 256 + (a4 + a5 + a6 + a7)) * 256 + (a3 + a4 + a5 + a6)) * 256 + (a2 + a3 + a4 + a5)) * 256 + (a1 + a2 + a3 + a4)) * 256 + (a0 + a1 + a2 + a3)) + (((a7 * 256 + (a6 + a7)) * 256 + (a5 + a6 + a7)) * 256 + (a4 + a5 + a6 + a7))) % 128 = a0 + a1 + a2 + a3 + a4 + a5 + a6 + a7 ∧
    ((((((((a7 * 256 + (a6 + a7)) * 256 + (a5 + a6 + a7)) * 256 + (a4 + a5 + a6 + a7)) * 256 + (a3 + a4 + a5 + a6)) * 256 + (a2 + a3 + a4 + a5)) * 256 + (a1 + a2 + a3 + a4)) * 256 + (a0 + a1 + a2 + a3)) + (((a7 * 256 + (a6 + a7)) * 256 + (a5 + a6 + a7)) * 256 + (a4 + a5 + a6 + a7))) < 18446744073709551616 := ⟨by omega, by omega⟩
theorem o5_bytes (d : Nat → Nat) (hd : ∀ j, d j ≤ 8) : o5 (bytes d 0 8) = d 0 + d 1 + d 2 + d 3 + d 4 + d 5 + d 6 + d 7 ∧ o4 (bytes d 0 8) + o4 (bytes d 0 8) / 4294967296 < 18446744073709551616 := by
  have eb : bytes d 0 8 = (((((((0 * 256 + d 7) * 256 + d 6) * 256 + d 5) * 256 + d 4) * 256 + d 3) * 256 + d 2) * 256 + d 1) * 256 + d 0 := rfl
  have e4 : o4 (bytes d 0 8) = (((((((d 7 * 256 + (d 6 + d 7)) * 256 + (d 5 + d 6 + d 7)) * 256 + (d 4 + d 5 + d 6 + d 7)) * 256 + (d 3 + d 4 + d 5 + d 6)) * 256 + (d 2 + d 3 + d 4 + d 5)) * 256 + (d 1 + d 2 + d 3 + d 4)) * 256 + (d 0 + d 1 + d 2 + d 3)) := by
    unfold o4
    rw [eb, five1 _ _ _ _ _ _ _ _ (hd 0), five2 _ _ _ _ _ _ _ _ (hd 0) (hd 1) (hd 2)]
  have e5 := five4 (d 0) (d 1) (d 2) (d 3) (d 4) (d 5) (d 6) (d 7) (hd 0) (hd 1) (hd 2) (hd 3) (hd 4) (hd 5) (hd 6) (hd 7)
  unfold o5
  rw [e4, five3 _ _ _ _ _ _ _ _ (hd 0) (hd 1) (hd 2) (hd 3) (hd 4) (hd 5) (hd 6)]
  exact e5
/-- The sum by halves is the number of ones, and no step of it overflows. -/
theorem pop_steps (x : Nat) (hx : x < 18446744073709551616) : o5 (o3 (o2 (o1 x))) = popv x ∧ o1 x < 18446744073709551616 ∧ o2 (o1 x) < 18446744073709551616 ∧
    o2 (o1 x) / 16 + o2 (o1 x) < 18446744073709551616 ∧ o3 (o2 (o1 x)) + o3 (o2 (o1 x)) / 256 < 18446744073709551616 ∧ o4 (o3 (o2 (o1 x))) < 18446744073709551616 ∧ o4 (o3 (o2 (o1 x))) + o4 (o3 (o2 (o1 x))) / 4294967296 < 18446744073709551616 := by
  have hb : bytes (fun j => x / 256 ^ j % 256) 0 8 = x := by rw [bytes_of x 8 0 (Nat.div_eq_of_lt hx)]; simp
  have hd : ∀ j, x / 256 ^ j % 256 < 256 := fun j => Nat.mod_lt _ (by decide)
  have s1 := o1_bytes _ hd
  have s2 := o2_bytes _ (fun j => (byte_steps _ (hd j)).1)
  have q4 : ∀ j, b2 (b1 (x / 256 ^ j % 256)) % 16 ≤ 4 ∧ b2 (b1 (x / 256 ^ j % 256)) / 16 ≤ 4 := fun j => (byte_steps _ (hd j)).2.2.2
  have s3 := o3_bytes _ q4 8 0
  rw [hb] at s1
  rw [← s1] at s2
  rw [← s2] at s3
  have e3 : bytes (fun j => (b2 (b1 (x / 256 ^ j % 256)) + b2 (b1 (x / 256 ^ j % 256)) / 16) &&& 15) 0 8 = bytes (fun j => popB (x / 256 ^ j % 256)) 0 8 :=
    bytes_congr _ _ (fun j => (byte_steps _ (hd j)).2.2.1) 8 0
  have s3' : o3 (o2 (o1 x)) = bytes (fun j => popB (x / 256 ^ j % 256)) 0 8 := s3.trans e3
  obtain ⟨s5, l5⟩ := o5_bytes (fun j => popB (x / 256 ^ j % 256)) (fun j => popB_le _)
  rw [← s3'] at s5 l5
  have l1 : o1 x < 18446744073709551616 := by
    rw [s1]
    have h := bytes_le _ 255 (fun j => Nat.le_of_lt_succ (byte_steps _ (hd j)).1) 8 0
    exact Nat.lt_of_le_of_lt h (by decide)
  have l2 : o2 (o1 x) / 16 + o2 (o1 x) < 18446744073709551616 := by
    rw [s2]
    have h := bytes_le _ 68 (fun j => show b2 (b1 (x / 256 ^ j % 256)) ≤ 68 by have := q4 j; omega) 8 0
    have c : bytes (fun _ => 68) 0 8 = 4919131752989213764 := by decide
    rw [c] at h
    clear hd q4 hb s1 s2 s3 e3 s3' s5 l5 l1
    omega
  have eb : ∀ j, popB (x / 256 ^ j % 256) = popFrom x.testBit (8 * j) 8 := fun j => by
    have c : ∀ i, x.testBit (i + 8 * j) = (x / 256 ^ j).testBit i := fun i => by
      rw [show (256 : Nat) = 2 ^ 8 from rfl, ← Nat.pow_mul, Nat.testBit_div_two_pow, Nat.add_comm]
    have e := popFrom_shift x.testBit (x / 256 ^ j).testBit (8 * j) 8 0 c
    rw [Nat.zero_add] at e
    rw [e]
    refine popFrom_congr _ _ 8 0 (fun i _ hi => ?_)
    rw [show (256 : Nat) = 2 ^ 8 from rfl, Nat.testBit_mod_two_pow]
    simp; omega
  have ep : popv x = popB (x / 256 ^ 0 % 256) + popB (x / 256 ^ 1 % 256) + popB (x / 256 ^ 2 % 256) + popB (x / 256 ^ 3 % 256) + popB (x / 256 ^ 4 % 256) + popB (x / 256 ^ 5 % 256) + popB (x / 256 ^ 6 % 256) + popB (x / 256 ^ 7 % 256) := by
    simp only [eb]
    unfold popv
    have a1 := popFrom_add x.testBit 8 56 0; have a2 := popFrom_add x.testBit 8 48 8; have a3 := popFrom_add x.testBit 8 40 16; have a4 := popFrom_add x.testBit 8 32 24
    have a5 := popFrom_add x.testBit 8 24 32; have a6 := popFrom_add x.testBit 8 16 40; have a7 := popFrom_add x.testBit 8 8 48
    simp only [Nat.reduceAdd, Nat.reduceMul] at *
    omega
  refine ⟨s5.trans ep.symm, l1, by omega, l2, ?_, ?_, l5⟩
  · unfold o4 at l5; omega
  · omega

/-- the places of the ones, rising -/
def placesFrom (f : Nat → Bool) : Nat → Nat → List Nat
  | _, 0 => []
  | i, k + 1 => (if f i then [i] else []) ++ placesFrom f (i + 1) k
def placesv (x : Nat) : List Nat := placesFrom x.testBit 0 64
theorem placesFrom_len (f : Nat → Bool) : ∀ k i, (placesFrom f i k).length = popFrom f i k
  | 0, _ => rfl
  | k + 1, i => by
    unfold placesFrom popFrom
    rw [List.length_append, placesFrom_len f k (i + 1)]
    cases f i <;> simp <;> omega
theorem placesv_len (x : Nat) : (placesv x).length = popv x := placesFrom_len _ _ _
theorem placesFrom_snoc (f : Nat → Bool) : ∀ k i, placesFrom f i (k + 1) = placesFrom f i k ++ (if f (i + k) then [i + k] else [])
  | 0, i => by simp [placesFrom]
  | k + 1, i => by
    show (if f i then [i] else []) ++ placesFrom f (i + 1) (k + 1) = ((if f i then [i] else []) ++ placesFrom f (i + 1) k) ++ _
    rw [placesFrom_snoc f k (i + 1), List.append_assoc, show i + 1 + k = i + (k + 1) by omega]
theorem placesFrom_lt (f : Nat → Bool) : ∀ k i, ∀ p ∈ placesFrom f i k, p < i + k
  | 0, _ => fun p h => by simp [placesFrom] at h
  | k + 1, i => fun p h => by
    unfold placesFrom at h
    rcases List.mem_append.1 h with h | h
    · cases c : f i <;> simp [c] at h
      omega
    · have := placesFrom_lt f k (i + 1) p h; omega
/-- how many ones a mask has -/
theorem popFrom_none (f : Nat → Bool) : ∀ k i, (∀ j, i ≤ j → j < i + k → f j = false) → popFrom f i k = 0
  | 0, _, _ => rfl
  | k + 1, i, h => by unfold popFrom; rw [popFrom_none f k (i + 1) (fun j a b => h j (by omega) (by omega)), h i (Nat.le_refl _) (by omega)]; rfl
theorem popFrom_all (f : Nat → Bool) : ∀ k i, (∀ j, i ≤ j → j < i + k → f j = true) → popFrom f i k = k
  | 0, _, _ => rfl
  | k + 1, i, h => by unfold popFrom; rw [popFrom_all f k (i + 1) (fun j a b => h j (by omega) (by omega)), h i (Nat.le_refl _) (by omega)]; rfl
theorem popv_mask {a s : Nat} (h : a + s ≤ 64) : popv (maskv a s) = s := by
  unfold popv
  have e1 := popFrom_add (maskv a s).testBit a (64 - a) 0
  have e2 := popFrom_add (maskv a s).testBit s (64 - a - s) a
  rw [show a + (64 - a) = 64 by omega, Nat.zero_add] at e1
  rw [show s + (64 - a - s) = 64 - a by omega] at e2
  have z1 : popFrom (maskv a s).testBit 0 a = 0 := popFrom_none _ _ _ (fun j _ hj => by rw [testBit_maskv]; exact decide_eq_false (by omega))
  have z2 : popFrom (maskv a s).testBit a s = s := popFrom_all _ _ _ (fun j _ hj => by rw [testBit_maskv]; exact decide_eq_true (by omega))
  have z3 : popFrom (maskv a s).testBit (a + s) (64 - a - s) = 0 := popFrom_none _ _ _ (fun j _ hj => by rw [testBit_maskv]; exact decide_eq_false (by omega))
  omega
attribute [irreducible] popv placesv
end Go.Proofs.YtgpligkheipoaaaDoor
