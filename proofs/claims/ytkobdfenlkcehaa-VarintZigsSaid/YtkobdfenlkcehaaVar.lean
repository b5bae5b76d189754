/-
  Words as bytes, in groups of seven bits; lists of words. No program in sight.
-/
import Derived.Lib.ItoaNum
import Derived.Lib.Hide
namespace Go.Proofs.Ytkobdfenlkcehaa

/-! ### the bytes of a word -/
def encF : Nat → Nat → List Nat
  | 0, _ => []
  | f + 1, x => if x < 128 then [x] else (128 + x % 128) :: encF f (x / 128)
def enc (x : Nat) : List Nat := encF 10 x
theorem encF_last {f x : Nat} (h : x < 128) : encF (f + 1) x = [x] := by rw [encF, if_pos h]
theorem encF_more {f x : Nat} (h : ¬ x < 128) : encF (f + 1) x = (128 + x % 128) :: encF f (x / 128) := by rw [encF, if_neg h]
theorem pow128_succ (f : Nat) : 128 ^ (f + 1) = 128 ^ f * 128 := Nat.pow_succ ..
theorem div128_lt {x f : Nat} (h : x < 128 ^ (f + 1)) : x / 128 < 128 ^ f := by rw [pow128_succ] at h; omega
theorem word_pow {x : Nat} (h : x < 18446744073709551616) : x < 128 ^ 10 := by
  have : (128 : Nat) ^ 10 = 1180591620717411303424 := by decide
  omega
theorem encF_byte : ∀ f x, ∀ b ∈ encF f x, b < 256
  | 0, _, b, h => by simp [encF] at h
  | f + 1, x, b, h => by
    by_cases c : x < 128
    · rw [encF_last c] at h; simp at h; omega
    · rw [encF_more c] at h
      simp at h
      rcases h with h | h
      · omega
      · exact encF_byte f _ b h
theorem encF_len : ∀ f x, (encF f x).length ≤ f
  | 0, _ => by simp [encF]
  | f + 1, x => by
    by_cases c : x < 128
    · rw [encF_last c]; simp
    · rw [encF_more c]; have := encF_len f (x / 128); simp; omega
theorem encF_pos (f x : Nat) : 0 < (encF (f + 1) x).length := by
  by_cases c : x < 128
  · rw [encF_last c]; simp
  · rw [encF_more c]; simp
theorem enc_len (x : Nat) : (enc x).length ≤ 10 := encF_len 10 x
theorem enc_pos (x : Nat) : 0 < (enc x).length := encF_pos 9 x
theorem enc_byte (x : Nat) : ∀ b ∈ enc x, b < 256 := encF_byte 10 x

/-! ### how many bytes -/
theorem encF_size : ∀ f x, x < 128 ^ f → 0 < f → x < 128 ^ (encF f x).length ∧ ((encF f x).length = 1 ∨ 128 ^ ((encF f x).length - 1) ≤ x)
  | 0, _, _, h => absurd h (by omega)
  | f + 1, x, h, _ => by
    by_cases c : x < 128
    · rw [encF_last c]; simp; omega
    · have h' := div128_lt h
      have hf : 0 < f := by
        cases f with
        | zero => simp at h'; omega
        | succ f => omega
      obtain ⟨a, b⟩ := encF_size f (x / 128) h' hf
      rw [encF_more c, List.length_cons]
      generalize (encF f (x / 128)).length = n at *
      refine ⟨by rw [pow128_succ]; omega, .inr ?_⟩
      rw [Nat.add_sub_cancel]
      rcases b with rfl | b
      · simp; omega
      · cases n with
        | zero => simp; omega
        | succ n =>
          rw [Nat.add_sub_cancel] at b
          rw [pow128_succ]; omega
theorem pow2_7 (n : Nat) : 128 ^ n = 2 ^ (7 * n) := by rw [Nat.pow_mul]
theorem size_len {x : Nat} (h : x < 18446744073709551616) : (Lib.bitLen (x ||| 1) + 6) / 7 = (enc x).length := by
  obtain ⟨a, b⟩ := encF_size 10 x (word_pow h) (by omega)
  have le : x ≤ x ||| 1 := Nat.left_le_or
  have one : 1 ≤ x ||| 1 := Nat.right_le_or
  have l64 : x ||| 1 < 2 ^ 64 := Nat.or_lt_two_pow h (by decide)
  have hb := Lib.bitLenAux_bounds 64 (x ||| 1) l64 (by omega)
  change 1 ≤ Lib.bitLen (x ||| 1) ∧ 2 ^ (Lib.bitLen (x ||| 1) - 1) ≤ x ||| 1 ∧ x ||| 1 < 2 ^ Lib.bitLen (x ||| 1) at hb
  have np := encF_pos 9 x
  change 0 < (enc x).length at np
  change x < 128 ^ (enc x).length at a
  change (enc x).length = 1 ∨ 128 ^ ((enc x).length - 1) ≤ x at b
  generalize (enc x).length = n at *
  have up : x ||| 1 < 2 ^ (7 * n) := Nat.or_lt_two_pow (by rw [← pow2_7]; exact a) (by
    have : 2 ^ 7 ≤ 2 ^ (7 * n) := Nat.pow_le_pow_right (by decide) (by omega)
    simp at this; omega)
  generalize x ||| 1 = m at *
  generalize Lib.bitLen m = l at *
  obtain ⟨l1, l2, l3⟩ := hb
  have c1 : l ≤ 7 * n := by
    rcases Nat.lt_or_ge (7 * n) l with c | c
    · have : 2 ^ (7 * n) ≤ 2 ^ (l - 1) := Nat.pow_le_pow_right (by decide) (by omega)
      omega
    · exact c
  have c2 : 7 * (n - 1) < l := by
    rcases b with rfl | b
    · simp; omega
    · rw [pow2_7] at b
      rcases Nat.lt_or_ge (7 * (n - 1)) l with c | c
      · exact c
      · have : 2 ^ l ≤ 2 ^ (7 * (n - 1)) := Nat.pow_le_pow_right (by decide) c
        omega
  omega
theorem bitLen_le {m : Nat} (h : m < 18446744073709551616) : Lib.bitLen m ≤ 64 := by
  by_cases c : m = 0
  · subst c; decide
  · have hb := Lib.bitLenAux_bounds 64 m h c
    change 1 ≤ Lib.bitLen m ∧ 2 ^ (Lib.bitLen m - 1) ≤ m ∧ m < 2 ^ Lib.bitLen m at hb
    rcases Nat.lt_or_ge 64 (Lib.bitLen m) with c | c
    · have : 2 ^ 64 ≤ 2 ^ (Lib.bitLen m - 1) := Nat.pow_le_pow_right (by decide) (by omega)
      omega
    · exact c

/-! ### the word that bytes begin with -/
/-- the groups of the bytes, the least one first -/
def val : List Nat → Nat
  | [] => 0
  | c :: l => c % 128 + 128 * val l
theorem val_lt : ∀ l, val l < 128 ^ l.length
  | [] => by simp [val]
  | c :: l => by
    have := val_lt l
    rw [val, List.length_cons, pow128_succ]; omega
theorem val_snoc : ∀ l c, val (l ++ [c]) = val l + c % 128 * 128 ^ l.length
  | [], c => by simp [val]
  | d :: l, c => by
    rw [List.cons_append, val, val, val_snoc l c, List.length_cons, pow128_succ, Nat.mul_add, Nat.add_assoc]
    congr 2
    rw [Nat.mul_comm (128 ^ l.length) 128, Nat.mul_left_comm]
/-- what is read from place i on, when w has been read: the word, the bytes' number, the error's number -/
def getF : Nat → Nat → List Nat → Nat × Nat × Nat
  | _, _, [] => (0, 0, 6)
  | i, w, c :: l =>
    if i = 10 ∨ (i = 9 ∧ 1 < c % 128) then (0, 0, 7)
    else if 128 ≤ c then getF (i + 1) (w + c % 128 * 128 ^ i) l
    else if c = 0 ∧ 0 < i then (0, 0, 5)
    else (w + c % 128 * 128 ^ i, i + 1, 0)
def getv (b : List Nat) : Nat × Nat × Nat := getF 0 0 b
theorem getF_long {i w c : Nat} {l : List Nat} (h : i = 10 ∨ (i = 9 ∧ 1 < c % 128)) : getF i w (c :: l) = (0, 0, 7) := by rw [getF, if_pos h]
theorem getF_more {i w c : Nat} {l : List Nat} (h : ¬ (i = 10 ∨ (i = 9 ∧ 1 < c % 128))) (hc : 128 ≤ c) : getF i w (c :: l) = getF (i + 1) (w + c % 128 * 128 ^ i) l := by rw [getF, if_neg h, if_pos hc]
theorem getF_form {i w c : Nat} {l : List Nat} (h : ¬ (i = 10 ∨ (i = 9 ∧ 1 < c % 128))) (hc : ¬ 128 ≤ c) (h0 : c = 0 ∧ 0 < i) : getF i w (c :: l) = (0, 0, 5) := by rw [getF, if_neg h, if_neg hc, if_pos h0]
theorem getF_ok {i w c : Nat} {l : List Nat} (h : ¬ (i = 10 ∨ (i = 9 ∧ 1 < c % 128))) (hc : ¬ 128 ≤ c) (h0 : ¬ (c = 0 ∧ 0 < i)) : getF i w (c :: l) = (w + c % 128 * 128 ^ i, i + 1, 0) := by rw [getF, if_neg h, if_neg hc, if_neg h0]

/-- what holds at the head of a loop over the bytes: i of them read, w their word so far -/
structure GInv (b : List Nat) (i w : Nat) : Prop where
  le : i ≤ b.length
  ten : i ≤ 10
  low : w < 128 ^ i
  word : w < 18446744073709551616
  val : w = val (b.take i)
  eq : getv b = getF i w (b.drop i)
theorem GInv.start (b : List Nat) : GInv b 0 0 := ⟨by omega, by omega, by simp, by omega, by simp [Proofs.Ytkobdfenlkcehaa.val], rfl⟩
theorem take_snoc {b : List Nat} {i : Nat} (h : i < b.length) : b.take (i + 1) = b.take i ++ [b.getD i 0] := by
  rw [List.take_add_one, List.getElem?_eq_getElem h, List.getD_eq_getElem?_getD, List.getElem?_eq_getElem h]; rfl
theorem drop_getD {b : List Nat} {i : Nat} (h : i < b.length) : b.drop i = b.getD i 0 :: b.drop (i + 1) := by
  rw [List.drop_eq_getElem_cons h, List.getD_eq_getElem?_getD, List.getElem?_eq_getElem h]; rfl
theorem pow_low {i : Nat} (h : i ≤ 8) : 128 ^ (i + 1) ≤ 9223372036854775808 := by
  have : 128 ^ (i + 1) ≤ 128 ^ 9 := Nat.pow_le_pow_right (by decide) (by omega)
  have e : (128 : Nat) ^ 9 = 9223372036854775808 := by decide
  omega
/-- the word with one group more -/
theorem GInv.sum {b : List Nat} {i w : Nat} (I : GInv b i w) (h : ¬ (i = 10 ∨ (i = 9 ∧ 1 < b.getD i 0 % 128))) :
    w + b.getD i 0 % 128 * 128 ^ i < 128 ^ (i + 1) ∧ w + b.getD i 0 % 128 * 128 ^ i < 18446744073709551616 := by
  have low := I.low
  have ten := I.ten
  generalize b.getD i 0 = c at *
  have h1 : w + c % 128 * 128 ^ i < 128 ^ (i + 1) := by
    have : c % 128 ≤ 127 := by omega
    have : c % 128 * 128 ^ i ≤ 127 * 128 ^ i := Nat.mul_le_mul_right _ this
    rw [pow128_succ]; omega
  refine ⟨h1, ?_⟩
  by_cases i9 : i = 9
  · subst i9
    have e : (128 : Nat) ^ 9 = 9223372036854775808 := by decide
    rw [e] at low ⊢
    have : c % 128 ≤ 1 := by omega
    omega
  · have := pow_low (show i ≤ 8 by omega)
    omega
theorem GInv.more {b : List Nat} {i w : Nat} (I : GInv b i w) (hi : i < b.length) (h : ¬ (i = 10 ∨ (i = 9 ∧ 1 < b.getD i 0 % 128))) (hc : 128 ≤ b.getD i 0) : GInv b (i + 1) (w + b.getD i 0 % 128 * 128 ^ i) := by
  obtain ⟨s1, s2⟩ := I.sum h
  have ten := I.ten
  refine ⟨by omega, by omega, s1, s2, ?_, ?_⟩
  · rw [take_snoc hi, val_snoc, ← I.val, List.length_take, Nat.min_eq_left (by omega)]
  · rw [I.eq, drop_getD hi, getF_more h hc]
theorem GInv.long {b : List Nat} {i w : Nat} (I : GInv b i w) (hi : i < b.length) (h : i = 10 ∨ (i = 9 ∧ 1 < b.getD i 0 % 128)) : getv b = (0, 0, 7) := by
  rw [I.eq, drop_getD hi, getF_long h]
theorem GInv.form {b : List Nat} {i w : Nat} (I : GInv b i w) (hi : i < b.length) (h : ¬ (i = 10 ∨ (i = 9 ∧ 1 < b.getD i 0 % 128))) (hc : ¬ 128 ≤ b.getD i 0) (h0 : b.getD i 0 = 0 ∧ 0 < i) : getv b = (0, 0, 5) := by
  rw [I.eq, drop_getD hi, getF_form h hc h0]
theorem GInv.ok {b : List Nat} {i w : Nat} (I : GInv b i w) (hi : i < b.length) (h : ¬ (i = 10 ∨ (i = 9 ∧ 1 < b.getD i 0 % 128))) (hc : ¬ 128 ≤ b.getD i 0) (h0 : ¬ (b.getD i 0 = 0 ∧ 0 < i)) : getv b = (w + b.getD i 0 % 128 * 128 ^ i, i + 1, 0) := by
  rw [I.eq, drop_getD hi, getF_ok h hc h0]
theorem GInv.short {b : List Nat} {w : Nat} (I : GInv b b.length w) : getv b = (0, 0, 6) := by
  rw [I.eq, List.drop_length]; rfl
/-- the word, from its groups -/
theorem GInv.sumval {b : List Nat} {i w : Nat} (I : GInv b i w) (hi : i < b.length) : w + b.getD i 0 % 128 * 128 ^ i = Proofs.Ytkobdfenlkcehaa.val (b.take (i + 1)) := by
  rw [take_snoc hi, val_snoc, ← I.val, List.length_take, Nat.min_eq_left (by omega)]
/-- the groups of the bytes from place k on, of those up to n -/
def vfrom (b : List Nat) (n k : Nat) : Nat := val ((b.take n).drop k)
theorem vfrom_end (b : List Nat) (n : Nat) : vfrom b n n = 0 := by
  unfold vfrom
  rw [List.drop_eq_nil_of_le (by rw [List.length_take]; omega)]; rfl
theorem vfrom_zero (b : List Nat) (n : Nat) : vfrom b n 0 = val (b.take n) := rfl
theorem vfrom_step {b : List Nat} {n k : Nat} (hk : k < n) (hn : n ≤ b.length) : vfrom b n k = b.getD k 0 % 128 + 128 * vfrom b n (k + 1) := by
  unfold vfrom
  have h : k < (b.take n).length := by rw [List.length_take]; omega
  rw [drop_getD h, val]
  congr 2
  rw [List.getD_eq_getElem?_getD, List.getD_eq_getElem?_getD, List.getElem?_take, if_pos hk]
theorem vfrom_le {b : List Nat} {n : Nat} (hn : n ≤ b.length) : ∀ k, k ≤ n → vfrom b n k ≤ vfrom b n 0
  | 0, _ => Nat.le_refl _
  | k + 1, h => by
    have := vfrom_le hn k (by omega)
    have e := vfrom_step (show k < n by omega) hn
    omega

/-! ### what Put encoded -/
theorem getF_enc : ∀ (f i p y : Nat) (r : List Nat), i + f = 10 → y < 128 ^ f → y * 128 ^ i < 18446744073709551616 → (0 < i → 1 ≤ y) → getF i p (encF f y ++ r) = (p + y * 128 ^ i, i + (encF f y).length, 0)
  | 0, i, p, y, r, hi, hy, _, h1 => by simp at hy; have := h1 (by omega); omega
  | f + 1, i, p, y, r, hi, hy, hw, h1 => by
    have nine : i = 9 → y ≤ 1 := by
      rintro rfl
      have e : (128 : Nat) ^ 9 = 9223372036854775808 := by decide
      rw [e] at hw; omega
    by_cases c : y < 128
    · rw [encF_last c, List.cons_append, getF_ok (by omega) (by omega) (by omega), Nat.mod_eq_of_lt c]; rfl
    · have h9 : i ≠ 9 := fun e => by have := nine e; omega
      rw [encF_more c, List.cons_append, getF_more (by omega) (by omega)]
      have e : (128 + y % 128) % 128 = y % 128 := by omega
      have ep : y / 128 * 128 ^ (i + 1) + y % 128 * 128 ^ i = y * 128 ^ i := by
        rw [pow128_succ, Nat.mul_comm (128 ^ i) 128, ← Nat.mul_assoc, ← Nat.add_mul]
        congr 1; omega
      rw [e, getF_enc f (i + 1) _ (y / 128) r (by omega) (div128_lt hy) (by omega) (fun _ => by omega), List.length_cons]
      simp only [Prod.mk.injEq, and_true]
      omega
theorem getv_enc {x : Nat} (h : x < 18446744073709551616) (r : List Nat) : getv (enc x ++ r) = (x, (enc x).length, 0) := by
  unfold getv enc
  rw [getF_enc 10 0 0 x r (by omega) (word_pow h) (by simpa using h) (fun h => by omega)]
  simp
/-! ### what was read has just these bytes -/
theorem getF_bytes : ∀ (l : List Nat) (i p w n : Nat), (∀ b ∈ l, b < 256) → i ≤ 10 → getF i p l = (w, n, 0) → i ≤ 9 ∧ ∃ y m, w = p + y * 128 ^ i ∧ n = i + m ∧ 1 ≤ m ∧ m ≤ l.length ∧ l.take m = encF (10 - i) y ∧ (0 < i → 1 ≤ y)
  | [], i, p, w, n, _, _, h => by simp [getF] at h
  | c :: l, i, p, w, n, hb, hi, h => by
    have c256 := hb c (by simp)
    by_cases k : i = 10 ∨ (i = 9 ∧ 1 < c % 128)
    · rw [getF_long k] at h; simp at h
    · refine ⟨by omega, ?_⟩
      by_cases hc : 128 ≤ c
      · rw [getF_more k hc] at h
        obtain ⟨i8, y, m, e1, e2, m1, m2, e3, y1⟩ := getF_bytes l (i + 1) _ w n (fun b hb' => hb b (by simp [hb'])) (by omega) h
        have y1 := y1 (by omega)
        refine ⟨c % 128 + 128 * y, m + 1, ?_, by omega, by omega, by simp; omega, ?_, fun _ => by omega⟩
        · rw [e1, pow128_succ, Nat.add_mul, Nat.add_assoc, Nat.mul_comm (128 ^ i) 128, ← Nat.mul_assoc, Nat.mul_comm y 128]
        · rw [List.take_succ_cons, e3, show 10 - i = (10 - (i + 1)) + 1 by omega, encF_more (by omega)]
          congr 1
          · omega
          · congr 1; omega
      · by_cases h0 : c = 0 ∧ 0 < i
        · rw [getF_form k hc h0] at h; simp at h
        · rw [getF_ok k hc h0] at h
          simp only [Prod.mk.injEq, and_true] at h
          obtain ⟨h1, h2⟩ := h
          refine ⟨c, 1, by rw [← h1, Nat.mod_eq_of_lt (by omega)], by omega, by omega, by simp, ?_, fun h => by omega⟩
          rw [show 10 - i = (9 - i) + 1 by omega, encF_last (by omega)]; rfl
theorem getv_bytes {b : List Nat} (hb : ∀ c ∈ b, c < 256) {w n : Nat} (h : getv b = (w, n, 0)) : 1 ≤ n ∧ n ≤ b.length ∧ b.take n = enc w := by
  obtain ⟨_, y, m, e1, e2, m1, m2, e3, _⟩ := getF_bytes b 0 0 w n hb (by omega) h
  simp at e1 e2
  subst e1; subst e2
  exact ⟨m1, m2, e3⟩
theorem getF_word : ∀ (l : List Nat) (i p : Nat), i ≤ 10 → p < 128 ^ i → (getF i p l).1 < 18446744073709551616 ∧ (getF i p l).2.1 ≤ i + l.length
  | [], i, p, _, _ => by simp [getF]
  | c :: l, i, p, hi, hp => by
    have h127 : c % 128 * 128 ^ i ≤ 127 * 128 ^ i := Nat.mul_le_mul_right _ (by omega)
    by_cases k : i = 10 ∨ (i = 9 ∧ 1 < c % 128)
    · rw [getF_long k]; simp
    · by_cases hc : 128 ≤ c
      · rw [getF_more k hc]
        have := getF_word l (i + 1) (p + c % 128 * 128 ^ i) (by omega) (by rw [pow128_succ]; omega)
        rw [List.length_cons]
        omega
      · by_cases h0 : c = 0 ∧ 0 < i
        · rw [getF_form k hc h0]; simp
        · rw [getF_ok k hc h0]
          refine ⟨?_, by simp⟩
          simp only
          by_cases i9 : i = 9
          · subst i9
            have e : (128 : Nat) ^ 9 = 9223372036854775808 := by decide
            rw [e] at hp ⊢
            have : c % 128 ≤ 1 := by omega
            omega
          · have := pow_low (show i ≤ 8 by omega)
            rw [pow128_succ] at this
            omega
theorem getv_word (b : List Nat) : (getv b).1 < 18446744073709551616 := (getF_word b 0 0 (by omega) (by simp)).1
theorem getv_le (b : List Nat) : (getv b).2.1 ≤ b.length := by have := (getF_word b 0 0 (by omega) (by simp)).2; rw [Nat.zero_add] at this; exact this
theorem getF_codes : ∀ (l : List Nat) (i p : Nat), (getF i p l).2.2 < 8 ∧ ((getF i p l).2.2 = 0 → 1 ≤ (getF i p l).2.1)
  | [], i, p => by simp [getF]
  | c :: l, i, p => by
    by_cases k : i = 10 ∨ (i = 9 ∧ 1 < c % 128)
    · rw [getF_long k]; simp
    · by_cases hc : 128 ≤ c
      · rw [getF_more k hc]; exact getF_codes l (i + 1) _
      · by_cases h0 : c = 0 ∧ 0 < i
        · rw [getF_form k hc h0]; simp
        · rw [getF_ok k hc h0]; simp
theorem getv_pos {b : List Nat} (h : (getv b).2.2 = 0) : 1 ≤ (getv b).2.1 := (getF_codes b 0 0).2 h

/-! ### lists of words -/
def allv (ws : List Nat) : List Nat := ws.flatMap enc
theorem allv_snoc {ws : List Nat} {k : Nat} (h : k < ws.length) : allv (ws.take (k + 1)) = allv (ws.take k) ++ enc (ws.getD k 0) := by
  unfold allv
  rw [take_snoc h, List.flatMap_append]; simp
theorem allv_len : ∀ ws, (allv ws).length ≤ 10 * ws.length
  | [] => by simp [allv]
  | w :: ws => by
    have := allv_len ws
    have := enc_len w
    unfold allv at *
    rw [List.flatMap_cons, List.length_append, List.length_cons]; omega
theorem allv_byte (ws : List Nat) : ∀ b ∈ allv ws, b < 256 := by
  intro b h
  unfold allv at h
  obtain ⟨w, _, h⟩ := List.mem_flatMap.1 h
  exact enc_byte w b h
def splitF : Nat → List Nat → List Nat → List Nat × Nat
  | 0, acc, _ => (acc, 0)
  | f + 1, acc, b => if b = [] then (acc, 0) else if (getv b).2.2 = 0 then splitF f (acc ++ [(getv b).1]) (b.drop (getv b).2.1) else ([], (getv b).2.2)
def splitv (b : List Nat) : List Nat × Nat := splitF b.length [] b
theorem splitF_nil (f : Nat) (acc : List Nat) : splitF f acc [] = (acc, 0) := by
  cases f with
  | zero => rfl
  | succ f => rw [splitF, if_pos rfl]
theorem splitF_ok {f : Nat} {acc b : List Nat} (h : b ≠ []) (hc : (getv b).2.2 = 0) : splitF (f + 1) acc b = splitF f (acc ++ [(getv b).1]) (b.drop (getv b).2.1) := by rw [splitF, if_neg h, if_pos hc]
theorem splitF_err {f : Nat} {acc b : List Nat} (h : b ≠ []) (hc : (getv b).2.2 ≠ 0) : splitF (f + 1) acc b = ([], (getv b).2.2) := by rw [splitF, if_neg h, if_neg hc]
theorem splitF_all : ∀ (ws : List Nat) (f : Nat) (acc : List Nat), (∀ w ∈ ws, w < 18446744073709551616) → (allv ws).length ≤ f → splitF f acc (allv ws) = (acc ++ ws, 0)
  | [], f, acc, _, _ => by rw [show allv [] = [] from rfl, splitF_nil]; simp
  | w :: ws, f, acc, hw, hf => by
    have e : allv (w :: ws) = enc w ++ allv ws := by unfold allv; rw [List.flatMap_cons]
    rw [e] at hf ⊢
    have g := getv_enc (hw w (by simp)) (allv ws)
    have p := enc_pos w
    rw [List.length_append] at hf
    cases f with
    | zero => omega
    | succ f =>
      have ne : enc w ++ allv ws ≠ [] := fun h => by have := congrArg List.length h; simp at this; rw [this.1] at p; simp at p
      rw [splitF_ok ne (by rw [g]), g]
      simp only
      rw [List.drop_left, splitF_all ws f _ (fun v hv => hw v (by simp [hv])) (by omega)]
      simp
theorem splitv_all {ws : List Nat} (h : ∀ w ∈ ws, w < 18446744073709551616) : splitv (allv ws) = (ws, 0) := by
  unfold splitv; rw [splitF_all ws _ [] h (Nat.le_refl _)]; simp
theorem splitF_back : ∀ (f : Nat) (acc b : List Nat), (∀ c ∈ b, c < 256) → b.length ≤ f → (splitF f acc b).2 = 0 → ∃ ws, (splitF f acc b).1 = acc ++ ws ∧ allv ws = b ∧ ∀ w ∈ ws, w < 18446744073709551616
  | 0, acc, b, _, hf, _ => by
    have : b = [] := List.eq_nil_of_length_eq_zero (by omega)
    subst this
    exact ⟨[], by simp [splitF], rfl, by simp⟩
  | f + 1, acc, b, hb, hf, h => by
    by_cases c0 : b = []
    · subst c0
      rw [splitF_nil]
      exact ⟨[], by simp, rfl, by simp⟩
    · by_cases c : (getv b).2.2 = 0
      · rw [splitF_ok c0 c] at h ⊢
        obtain ⟨n1, n2, n3⟩ := getv_bytes hb (w := (getv b).1) (n := (getv b).2.1) (by rw [← c])
        obtain ⟨ws, e1, e2, e3⟩ := splitF_back f _ (b.drop (getv b).2.1) (fun x hx => hb x (List.mem_of_mem_drop hx)) (by rw [List.length_drop]; omega) h
        refine ⟨(getv b).1 :: ws, by rw [e1]; simp, ?_, ?_⟩
        · unfold allv at *
          rw [List.flatMap_cons, e2, ← n3, List.take_append_drop]
        · intro x hx
          simp at hx
          rcases hx with rfl | hx
          · exact getv_word b
          · exact e3 x hx
      · rw [splitF_err c0 c] at h
        exact absurd h c
theorem splitv_back {b : List Nat} (hb : ∀ c ∈ b, c < 256) (h : (splitv b).2 = 0) : allv (splitv b).1 = b ∧ ∀ w ∈ (splitv b).1, w < 18446744073709551616 := by
  obtain ⟨ws, e1, e2, e3⟩ := splitF_back b.length [] b hb (Nat.le_refl _) h
  unfold splitv
  rw [e1, List.nil_append]
  exact ⟨e2, e3⟩
theorem splitF_len : ∀ (f : Nat) (acc b : List Nat), (splitF f acc b).1.length ≤ acc.length + f
  | 0, acc, b => by simp [splitF]
  | f + 1, acc, b => by
    rw [splitF]
    split
    · simp
    · split
      · have := splitF_len f (acc ++ [(getv b).1]) (b.drop (getv b).2.1)
        simp at this; omega
      · simp
theorem splitv_len (b : List Nat) : (splitv b).1.length ≤ b.length := by have := splitF_len b.length [] b; rw [List.length_nil, Nat.zero_add] at this; exact this

/-! ### numbers as words -/
def zig (n : Int) : Nat := if n < 0 then (-2 * n - 1).toNat else (2 * n).toNat
def zag (w : Nat) : Int := if w % 2 = 1 then -((w / 2 : Nat) : Int) - 1 else ((w / 2 : Nat) : Int)
theorem zag_zig (n : Int) : zag (zig n) = n := by
  unfold zag zig
  split <;> split <;> omega
theorem zig_zag (w : Nat) : zig (zag w) = w := by
  unfold zag zig
  split <;> split <;> omega
theorem zig_odd (n : Int) : zig n % 2 = 1 ↔ n < 0 := by
  unfold zig
  split <;> omega
theorem zig_lt {n : Int} (h1 : -9223372036854775808 ≤ n) (h2 : n ≤ 9223372036854775807) : zig n < 18446744073709551616 := by
  unfold zig
  split <;> omega
theorem zag_whole {w : Nat} (h : w < 18446744073709551616) : -9223372036854775808 ≤ zag w ∧ zag w ≤ 9223372036854775807 := by
  unfold zag
  split <;> omega
theorem enc_one (x : Nat) : (enc x).length = 1 ↔ x < 128 := by
  unfold enc
  constructor
  · intro h
    rcases Nat.lt_or_ge x 128 with c | c
    · exact c
    · rw [encF_more (by omega)] at h
      have := encF_pos 8 (x / 128)
      simp at h
      rw [h] at this
      simp at this
  · intro h; rw [encF_last h]; rfl
theorem zig_small (n : Int) : (enc (zig n)).length = 1 ↔ (-64 ≤ n ∧ n ≤ 63) := by
  rw [enc_one]
  unfold zig
  split <;> omega

end Go.Proofs.Ytkobdfenlkcehaa
