/-
  Plain numbers of 128 bits as two words: no program in sight.
-/
import Derived.Below
namespace Go.Proofs.Ytibaloamgpcghaa
open Go.RowKit

/-- A word of 64 bits. -/
def Word (x : Int) : Prop := 0 ≤ x ∧ x < 18446744073709551616
/-- The upper and the lower word of a number. -/
def hi (n : Nat) : Int := ((n / 18446744073709551616 : Nat) : Int)
def lo (n : Nat) : Int := ((n % 18446744073709551616 : Nat) : Int)
def N128 (n : Nat) : Prop := n < 340282366920938463463374607431768211456
def most : Nat := 340282366920938463463374607431768211455

theorem word_lo (n : Nat) : Word (lo n) := by unfold Word lo; omega
theorem word_hi {n : Nat} (h : N128 n) : Word (hi n) := by unfold Word hi N128 at *; omega
theorem of_words {h l : Int} (a : Word h) (b : Word l) : ∃ n : Nat, N128 n ∧ h = hi n ∧ l = lo n := by
  obtain ⟨a1, a2⟩ := a; obtain ⟨b1, b2⟩ := b
  refine ⟨(h * 18446744073709551616 + l).toNat, ?_, ?_, ?_⟩ <;> simp only [N128, hi, lo] <;> omega
theorem N128_most : N128 most := by unfold N128 most; omega
theorem N128_0 : N128 0 := by unfold N128; omega
theorem val (n : Nat) : (n : Int) = hi n * 18446744073709551616 + lo n := by unfold hi lo; omega
theorem hi_lo_inj {a b : Nat} (h : hi a = hi b) (l : lo a = lo b) : a = b := by unfold hi lo at *; omega
theorem hi_of_lt {n : Nat} (h : n < 18446744073709551616) : hi n = 0 := by unfold hi; omega
theorem lo_of_lt {n : Nat} (h : n < 18446744073709551616) : lo n = n := by unfold lo; omega
theorem hi_0 : hi 0 = 0 := by unfold hi; rfl
theorem lo_0 : lo 0 = 0 := by unfold lo; rfl
theorem hi_most : hi most = 18446744073709551615 := by unfold hi most; rfl
theorem lo_most : lo most = 18446744073709551615 := by unfold lo most; rfl

/-! ### the sum -/
def addok (a b : Nat) : Bool := decide (a + b < 340282366920938463463374607431768211456)
def addv (a b : Nat) : Nat := if a + b < 340282366920938463463374607431768211456 then a + b else most
theorem addok_t {a b : Nat} (h : N128 (a + b)) : addok a b = true := by unfold addok; exact decide_eq_true h
theorem addok_f {a b : Nat} (h : ¬ N128 (a + b)) : addok a b = false := by unfold addok; exact decide_eq_false h
theorem addv_t {a b : Nat} (h : N128 (a + b)) : addv a b = a + b := by unfold addv; exact if_pos h
theorem addv_f {a b : Nat} (h : ¬ N128 (a + b)) : addv a b = most := by unfold addv; exact if_neg h
theorem N128_addv (a b : Nat) : N128 (addv a b) := by
  by_cases h : N128 (a + b)
  · rw [addv_t h]; exact h
  · rw [addv_f h]; exact N128_most
theorem add_lo (a b : Nat) : (lo a + lo b) % 18446744073709551616 = lo (a + b) := by unfold lo; omega
theorem add_hi {a b : Nat} (h : N128 (a + b)) : (hi a + hi b + (lo a + lo b) / 18446744073709551616) % 18446744073709551616 = hi (a + b) := by unfold hi lo N128 at *; omega
theorem add_c {a b : Nat} (h : N128 (a + b)) : (hi a + hi b + (lo a + lo b) / 18446744073709551616) / 18446744073709551616 = 0 := by unfold hi lo N128 at *; omega
theorem add_c1 {a b : Nat} (ha : N128 a) (hb : N128 b) (h : ¬ N128 (a + b)) : (hi a + hi b + (lo a + lo b) / 18446744073709551616) / 18446744073709551616 = 1 := by unfold hi lo N128 at *; omega
theorem add_k (a b : Nat) : 0 ≤ (lo a + lo b) / 18446744073709551616 ∧ (lo a + lo b) / 18446744073709551616 ≤ 1 := by unfold lo; omega

/-! ### the difference -/
/-- a borrow -/
def bor (x y : Int) : Int := if x < y then 1 else 0
theorem bor_b (x y : Int) : 0 ≤ bor x y ∧ bor x y ≤ 1 := by unfold bor; split <;> omega
def subok (a b : Nat) : Bool := decide (b ≤ a)
def subv (a b : Nat) : Nat := a - b
theorem sub_lo {a b : Nat} (h : b ≤ a) : (lo a - lo b) % 18446744073709551616 = lo (a - b) := by unfold lo; omega
theorem sub_hi {a b : Nat} (ha : N128 a) (h : b ≤ a) : (hi a - hi b - bor (lo a) (lo b)) % 18446744073709551616 = hi (a - b) := by
  unfold hi lo bor N128 at *; split <;> omega
theorem sub_c {a b : Nat} (h : b ≤ a) : bor (hi a) (hi b + bor (lo a) (lo b)) = 0 := by
  have e : ¬ hi a < hi b + bor (lo a) (lo b) := by unfold hi lo bor; split <;> omega
  rw [show bor (hi a) (hi b + bor (lo a) (lo b)) = if hi a < hi b + bor (lo a) (lo b) then 1 else 0 from rfl, if_neg e]
theorem sub_c1 {a b : Nat} (h : a < b) : bor (hi a) (hi b + bor (lo a) (lo b)) = 1 := by
  have e : hi a < hi b + bor (lo a) (lo b) := by unfold hi lo bor; split <;> omega
  rw [show bor (hi a) (hi b + bor (lo a) (lo b)) = if hi a < hi b + bor (lo a) (lo b) then 1 else 0 from rfl, if_pos e]

/-! ### the product, the quotient -/
def mulok (a n : Nat) : Bool := decide (a * n < 340282366920938463463374607431768211456)
def mulv (a n : Nat) : Nat := if a * n < 340282366920938463463374607431768211456 then a * n else most
theorem mulok_t {a n : Nat} (h : N128 (a * n)) : mulok a n = true := by unfold mulok; exact decide_eq_true h
theorem mulok_f {a n : Nat} (h : ¬ N128 (a * n)) : mulok a n = false := by unfold mulok; exact decide_eq_false h
theorem mulv_t {a n : Nat} (h : N128 (a * n)) : mulv a n = a * n := by unfold mulv; exact if_pos h
theorem mulv_f {a n : Nat} (h : ¬ N128 (a * n)) : mulv a n = most := by unfold mulv; exact if_neg h
theorem N128_mulv (a n : Nat) : N128 (mulv a n) := by
  by_cases h : N128 (a * n)
  · rw [mulv_t h]; exact h
  · rw [mulv_f h]; exact N128_most
theorem mul_parts (a n : Nat) : ((a * n : Nat) : Int) = hi a * n * 18446744073709551616 + lo a * n := by
  rw [Int.natCast_mul, val a, Int.add_mul, Int.mul_assoc, Int.mul_comm 18446744073709551616, ← Int.mul_assoc]
theorem prod_word {x y : Int} (hx : Word x) (hy : Word y) : 0 ≤ x * y ∧ x * y ≤ 340282366920938463426481119284349108225 := by
  obtain ⟨a, b⟩ := hx; obtain ⟨c, d⟩ := hy
  refine ⟨Int.mul_nonneg a c, ?_⟩
  have h1 := Int.mul_le_mul_of_nonneg_right (show x ≤ 18446744073709551615 by omega) c
  have h2 := Int.mul_le_mul_of_nonneg_left (show y ≤ 18446744073709551615 by omega) (show (0 : Int) ≤ 18446744073709551615 by omega)
  omega
theorem mul_lo (a n : Nat) : lo (a * n) = lo a * n % 18446744073709551616 := by
  have h := mul_parts a n
  unfold lo at *
  generalize hP : ((a % 18446744073709551616 : Nat) : Int) * n = P at *
  generalize hi a * n = Q at *
  generalize a * n = c at *
  omega
theorem mul_hi {a n : Nat} (hn : Word n) (h : N128 (a * n)) : hi (a * n) = (hi a * n % 18446744073709551616 + lo a * n / 18446744073709551616) % 18446744073709551616 := by
  have e := mul_parts a n
  have b := prod_word (word_lo a) hn
  generalize lo a * n = P at *
  generalize hi a * n = Q at *
  generalize a * n = c at *
  unfold hi N128 at *
  omega
theorem mul_fit {a n : Nat} (ha : N128 a) (hn : Word n) : N128 (a * n) ↔ hi a * n / 18446744073709551616 = 0 ∧ (hi a * n % 18446744073709551616 + lo a * n / 18446744073709551616) / 18446744073709551616 = 0 := by
  have e := mul_parts a n
  have b := prod_word (word_lo a) hn
  have b2 := prod_word (word_hi ha) hn
  generalize lo a * n = P at *
  generalize hi a * n = Q at *
  generalize a * n = c at *
  unfold N128 at *
  omega
theorem mul_k {a n : Nat} (ha : N128 a) (hn : Word n) : 0 ≤ hi a * n / 18446744073709551616 ∧ 0 ≤ lo a * n / 18446744073709551616 ∧ lo a * n / 18446744073709551616 < 18446744073709551616 := by
  have b := prod_word (word_lo a) hn
  have b2 := prod_word (word_hi ha) hn
  generalize lo a * n = P at *
  generalize hi a * n = Q at *
  omega

theorem div_parts (a n : Nat) (hn : 0 < n) : hi (a / n) = hi a / n ∧ lo (a / n) = (hi a % n * 18446744073709551616 + lo a) / n ∧ ((a % n : Nat) : Int) = (hi a % n * 18446744073709551616 + lo a) % n := by
  have hp : (0 : Int) < n := by omega
  have e0 : (a : Int) = (hi a % n * 18446744073709551616 + lo a) + n * (hi a / n * 18446744073709551616) := by
    have d := Int.mul_ediv_add_emod (hi a) n
    have v := val a
    rw [← Int.mul_assoc]
    generalize hi a / n = q at *
    generalize hi a % n = r at *
    generalize hi a = H at *
    rw [v, ← d, Int.add_mul]
    omega
  have m0 := Int.emod_nonneg (hi a) (show (n : Int) ≠ 0 by omega)
  have m1 := Int.emod_lt_of_pos (hi a) hp
  have lw := word_lo a
  have h1 : (hi a % n * 18446744073709551616 + lo a) / n < 18446744073709551616 := by
    refine Int.ediv_lt_of_lt_mul hp ?_
    have := Int.mul_le_mul_of_nonneg_right (show hi a % n + 1 ≤ n by omega) (show (0 : Int) ≤ 18446744073709551616 by omega)
    unfold Word at lw
    rw [Int.mul_comm 18446744073709551616]
    omega
  have h0 : 0 ≤ (hi a % n * 18446744073709551616 + lo a) / n := Int.ediv_nonneg (by unfold Word at lw; omega) (by omega)
  have q : ((a / n : Nat) : Int) = (hi a % n * 18446744073709551616 + lo a) / n + hi a / n * 18446744073709551616 := by
    rw [Int.natCast_ediv, e0, Int.add_mul_ediv_left _ _ (by omega)]
  refine ⟨?_, ?_, ?_⟩
  · unfold hi at q ⊢; unfold hi at h0 h1; generalize a / n = c at *; omega
  · unfold lo at q h0 h1 ⊢; generalize a / n = c at *; omega
  · rw [Int.natCast_emod, e0, Int.add_mul_emod_self_left]

/-! ### the order -/
def cmpv (a b : Nat) : Int := if a < b then -1 else if a = b then 0 else 1
theorem lt_hi {a b : Nat} (h : hi a < hi b) : a < b := by unfold hi at h; omega
theorem lt_lo {a b : Nat} (e : hi a = hi b) : (lo a < lo b) ↔ a < b := by unfold hi lo at *; omega
def ltv (a b : Nat) : Bool := decide (a < b)
/-- the order of two pairs of words -/
def ltw (ah al bh bl : Int) : Bool := if ah = bh then decide (al < bl) else decide (ah < bh)
theorem ltw_eq (ah al bl : Int) : ltw ah al ah bl = decide (al < bl) := by unfold ltw; exact if_pos rfl
theorem ltw_ne {ah al bh bl : Int} (h : ¬ ah = bh) : ltw ah al bh bl = decide (ah < bh) := by unfold ltw; exact if_neg h
theorem ltw_v (a b : Nat) : ltw (hi a) (lo a) (hi b) (lo b) = ltv a b := by
  by_cases h : hi a = hi b
  · rw [h, ltw_eq]; unfold ltv; exact decide_eq_decide.2 (lt_lo h)
  · rw [ltw_ne h]; unfold ltv hi at *; exact decide_eq_decide.2 (by omega)
def cmpw (ah al bh bl : Int) : Int := if ah = bh ∧ al = bl then 0 else if ltw ah al bh bl then -1 else 1
theorem cmpw_v (a b : Nat) : cmpw (hi a) (lo a) (hi b) (lo b) = cmpv a b := by
  unfold cmpw cmpv; rw [ltw_v]; unfold ltv
  by_cases h : a = b
  · subst h; simp
  · have e : ¬ (hi a = hi b ∧ lo a = lo b) := fun k => h (hi_lo_inj k.1 k.2)
    rw [if_neg e]; simp [h]

/-! ### digits of 32 bits -/
def dig (a j : Nat) : Int := ((a / 4294967296 ^ j % 4294967296 : Nat) : Int)
theorem dig_b (a j : Nat) : 0 ≤ dig a j ∧ dig a j < 4294967296 := by unfold dig; omega
theorem dig0 (a : Nat) : dig a 0 = lo a % 4294967296 := by unfold dig lo; simp
theorem dig1 (a : Nat) : dig a 1 = lo a / 4294967296 := by unfold dig lo; simp; omega
theorem dig2 (a : Nat) : dig a 2 = hi a % 4294967296 := by unfold dig hi; simp
theorem dig3 {a : Nat} (h : N128 a) : dig a 3 = hi a / 4294967296 := by unfold dig hi N128 at *; simp; omega
theorem dig4 {a : Nat} (h : N128 a) : dig a 4 = 0 := by unfold dig N128 at *; simp; omega
theorem dig5 {a : Nat} (h : N128 a) : dig a 5 = 0 := by unfold dig N128 at *; simp; omega
theorem dig_split (a j : Nat) : a / 4294967296 ^ j = a / 4294967296 ^ (j + 1) * 4294967296 + a / 4294967296 ^ j % 4294967296 := by
  rw [Nat.pow_succ, ← Nat.div_div_eq_div_mul]; omega
theorem dig_lt {a b j : Nat} (h : a / 4294967296 ^ (j + 1) = b / 4294967296 ^ (j + 1)) (l : dig a j < dig b j) : a < b := by
  have x := dig_split a j; have y := dig_split b j
  unfold dig at l
  have : a / 4294967296 ^ j < b / 4294967296 ^ j := by omega
  rcases Nat.lt_or_ge a b with c | c
  · exact c
  · exact absurd (Nat.div_le_div_right (c := 4294967296 ^ j) c) (by omega)
theorem dig_eq {a b j : Nat} (h : a / 4294967296 ^ (j + 1) = b / 4294967296 ^ (j + 1)) (l : dig a j = dig b j) : a / 4294967296 ^ j = b / 4294967296 ^ j := by
  have x := dig_split a j; have y := dig_split b j
  unfold dig at l
  omega
theorem whole_hi {a : Nat} (h : N128 a) : dig a 3 * 4294967296 + dig a 2 = hi a := by rw [dig3 h, dig2]; omega
theorem whole_lo (a : Nat) : dig a 1 * 4294967296 + dig a 0 = lo a := by rw [dig1, dig0]; omega
/-- a number, or the greatest one and false -/
def capv (s : Nat) : Nat := if s < 340282366920938463463374607431768211456 then s else most
def okv (s : Nat) : Bool := decide (s < 340282366920938463463374607431768211456)
theorem addv_cap (a b : Nat) : addv a b = capv (a + b) := rfl
theorem addok_cap (a b : Nat) : addok a b = okv (a + b) := rfl
theorem mulv_cap (a b : Nat) : mulv a b = capv (a * b) := rfl
theorem mulok_cap (a b : Nat) : mulok a b = okv (a * b) := rfl
theorem capv_t {s : Nat} (h : N128 s) : capv s = s := if_pos h
theorem capv_f {s : Nat} (h : ¬ N128 s) : capv s = most := if_neg h
theorem okv_t {s : Nat} (h : N128 s) : okv s = true := decide_eq_true h
theorem okv_f {s : Nat} (h : ¬ N128 s) : okv s = false := decide_eq_false h
theorem big_dig {s : Nat} (h : ¬ N128 s) (b : s < 4294967296 ^ 6) : dig s 4 ≠ 0 ∨ dig s 5 ≠ 0 := by
  unfold dig N128 at *
  simp at *
  omega
/-! ### the sum, digit by digit -/
def car (a b k : Nat) : Int := (((a % 4294967296 ^ k + b % 4294967296 ^ k) / 4294967296 ^ k : Nat) : Int)
theorem add_split (a b P : Nat) (hP : 0 < P) : (a + b) / P = a / P + b / P + (a % P + b % P) / P := by
  have ea := Nat.div_add_mod a P; have eb := Nat.div_add_mod b P
  have : a + b = (a % P + b % P) + P * (a / P + b / P) := by rw [Nat.mul_add]; omega
  rw [this, Nat.add_mul_div_left _ _ hP]; omega
theorem mod_split (a P : Nat) : a % (P * 4294967296) = a % P + P * (a / P % 4294967296) := Nat.mod_mul
theorem pow_pos32 (k : Nat) : 0 < 4294967296 ^ k := Nat.pow_pos (by omega)
theorem car_b (a b k : Nat) : 0 ≤ car a b k ∧ car a b k ≤ 1 := by
  unfold car
  have hp := pow_pos32 k
  have h1 := Nat.mod_lt a hp; have h2 := Nat.mod_lt b hp
  have : (a % 4294967296 ^ k + b % 4294967296 ^ k) / 4294967296 ^ k < 2 := Nat.div_lt_of_lt_mul (by omega)
  generalize (a % 4294967296 ^ k + b % 4294967296 ^ k) / 4294967296 ^ k = z at *
  omega
theorem car_0 (a b : Nat) : car a b 0 = 0 := by unfold car; simp [Nat.mod_one]
theorem car_dig (a b k : Nat) : (dig a k + dig b k + car a b k) % 4294967296 = dig (a + b) k := by
  unfold dig car
  rw [add_split a b _ (pow_pos32 k)]
  generalize a / 4294967296 ^ k = x
  generalize b / 4294967296 ^ k = y
  generalize (a % 4294967296 ^ k + b % 4294967296 ^ k) / 4294967296 ^ k = z
  omega
theorem car_succ (a b k : Nat) : (dig a k + dig b k + car a b k) / 4294967296 = car a b (k + 1) := by
  unfold dig car
  rw [Nat.pow_succ, mod_split a, mod_split b]
  have hp := pow_pos32 k
  generalize 4294967296 ^ k = P at *
  have : (a % P + P * (a / P % 4294967296) + (b % P + P * (b / P % 4294967296))) = (a % P + b % P) + P * (a / P % 4294967296 + b / P % 4294967296) := by rw [Nat.mul_add]; omega
  rw [this, ← Nat.div_div_eq_div_mul, Nat.add_mul_div_left _ _ hp]
  generalize a / P % 4294967296 = x
  generalize b / P % 4294967296 = y
  generalize (a % P + b % P) / P = z
  omega
theorem cmpv_lt {a b : Nat} (h : a < b) : cmpv a b = -1 := by unfold cmpv; exact if_pos h
theorem cmpv_gt {a b : Nat} (h : b < a) : cmpv a b = 1 := by unfold cmpv; rw [if_neg (by omega), if_neg (by omega)]
theorem cmpv_eq (a : Nat) : cmpv a a = 0 := by unfold cmpv; simp

attribute [irreducible] hi lo dig car most bor
end Go.Proofs.Ytibaloamgpcghaa
