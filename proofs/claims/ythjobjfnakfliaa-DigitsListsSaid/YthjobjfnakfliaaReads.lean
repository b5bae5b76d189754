/-
  What text is a number's, and which number's. No program in sight.
-/
import Derived.Test.YthjobjfnakfliaaDig
import Derived.Lib.IndexBytes
namespace Go.Proofs.Ythjobjfnakfliaa

def isDig (s : ByteArray) (i : Nat) : Prop := ∀ h : i < s.size, 48 ≤ (s[i].toNat : Int) ∧ (s[i].toNat : Int) ≤ 57
def headOk (s : ByteArray) : Prop := ∃ h : 0 < s.size, s.size = 1 ∨ ¬ (s[0].toNat : Int) = 48
def decP (s : ByteArray) : Prop := headOk s ∧ ∀ i, isDig s i
theorem first_bad (p : Nat → Prop) : ∀ n, (∀ i, i < n → p i) ∨ ∃ i, i < n ∧ ¬ p i ∧ ∀ j, j < i → p j
  | 0 => .inl fun i h => absurd h (by omega)
  | n + 1 => by
    rcases first_bad p n with h | ⟨i, h1, h2, h3⟩
    · by_cases c : p n
      · exact .inl fun i hi => by
          by_cases e : i = n
          · exact e ▸ c
          · exact h i (by omega)
      · exact .inr ⟨n, by omega, c, h⟩
    · exact .inr ⟨i, by omega, h2, h3⟩
theorem bad_cases {s : ByteArray} (hh : headOk s) (h : ¬ decP s) : ∃ i, i < s.size ∧ ¬ isDig s i ∧ ∀ j, j < i → isDig s j := by
  rcases first_bad (isDig s) s.size with a | a
  · exact absurd ⟨hh, fun i => by
      by_cases c : i < s.size
      · exact a i c
      · exact fun d => absurd d c⟩ h
  · exact a
theorem not_nil {s : ByteArray} (h : 0 < s.size) : ¬ s.toList = [] ∧ s.toList.isEmpty = false := by
  have l := toList_len s
  cases c : s.toList with
  | nil => rw [c] at l; simp at l; omega
  | cons a b => simp
theorem is_nil {s : ByteArray} (h : s.size = 0) : s.toList = [] := List.eq_nil_of_length_eq_zero (by rw [toList_len]; exact h)
theorem head_at {s : ByteArray} {c : UInt8} {l : List UInt8} (h : s.toList = c :: l) (h0 : 0 < s.size) : s[0] = c := by
  have hz : 0 < s.data.size := by show 0 < s.size; omega
  have : s.data.toList = c :: l := by rw [← toList_data]; exact h
  show s.data[0] = c
  rw [← Array.getElem_toList]; simp [this]
theorem one_is {s : ByteArray} (h : s.size = 1) (h0 : (s[0].toNat : Int) = 48) : s.toList = [48] := by
  have l := toList_len s
  rw [h] at l
  obtain ⟨c, hc⟩ := List.length_eq_one_iff.1 l
  have e : s[0] = c := head_at hc (by omega)
  rw [e] at h0
  have : c = 48 := UInt8.toNat_inj.1 (by have : c.toNat = 48 := by omega
                                         simpa using this)
  rw [hc, this]
theorem one_zero {s : ByteArray} (h : s.size = 1) (h0 : (s[0].toNat : Int) = 48) : (!s.toList == [48]) = false := by
  rw [one_is h h0]; rfl
theorem long_not {s : ByteArray} (h : ¬ s.size = 1) : (!s.toList == [48]) = true := by
  have l := toList_len s
  cases c : (s.toList == [48]) with
  | false => rfl
  | true => rw [beq_iff_eq.1 c] at l; simp at l; omega

/-! ### the number of digits -/
def dstep (v : Nat) (c : UInt8) : Nat := v * 10 + (c.toNat - 48)
def dval (v : Nat) (l : List UInt8) : Nat := l.foldl dstep v
theorem dval_nil (v : Nat) : dval v [] = v := rfl
theorem dval_cons (v : Nat) (c : UInt8) (l : List UInt8) : dval v (c :: l) = dval (v * 10 + (c.toNat - 48)) l := by
  unfold dval
  rw [List.foldl_cons, dstep]
theorem dval_ge (l : List UInt8) : ∀ v : Nat, v * 10 ^ l.length ≤ dval v l := by
  induction l with
  | nil => intro v; simp [dval_nil]
  | cons c l ih =>
    intro v
    rw [dval_cons]
    refine Nat.le_trans ?_ (ih _)
    rw [List.length_cons, Nat.pow_succ, Nat.mul_comm (10 ^ l.length) 10, ← Nat.mul_assoc]
    exact Nat.mul_le_mul_right _ (by omega)
theorem dval_le (l : List UInt8) (v : Nat) : v ≤ dval v l := by
  refine Nat.le_trans ?_ (dval_ge l v)
  have : 0 < 10 ^ l.length := Nat.pow_pos (by omega)
  exact Nat.le_mul_of_pos_right _ this
theorem dval_append : ∀ (l : List UInt8) (v : Nat) (m : List UInt8), dval v (l ++ m) = dval (dval v l) m
  | [], v, m => rfl
  | c :: l, v, m => by rw [List.cons_append, dval_cons, dval_cons]; exact dval_append l _ m
theorem dval_text : ∀ f a, a < 10 ^ f → 0 < f → dval 0 ((dtextF f a).map byt) = a
  | 0, a, h, h0 => by omega
  | f + 1, a, h, _ => by
    by_cases c : a / 10 = 0
    · rw [dtextF_last c]
      simp only [List.map_cons, List.map_nil, dval_cons, dval_nil]
      rw [byt_nat (by omega) (by omega)]; omega
    · have hf : 0 < f := by
        cases f with
        | zero => have := div10_lt h; omega
        | succ g => omega
      rw [dtextF_more c, List.map_append, dval_append, dval_text f (a / 10) (div10_lt h) hf]
      simp only [List.map_cons, List.map_nil, dval_cons, dval_nil]
      rw [byt_nat (by omega) (by omega)]; omega
/-- more than 19 digits, the first of which is no zero: greater than every int -/
theorem dval_long {s : ByteArray} (h0 : 0 < s.size) (h1 : ¬ (s[0].toNat : Int) = 48) (h2 : isDig s 0) (hl : 19 < s.size) : 10000000000000000000 ≤ dval 0 s.toList := by
  obtain ⟨d0, d1⟩ := h2 h0
  have l := toList_len s
  cases c : s.toList with
  | nil => rw [c] at l; simp at l; omega
  | cons a b =>
    rw [head_at c h0] at d0 h1
    rw [c] at l
    simp at l
    rw [dval_cons]
    refine Nat.le_trans ?_ (dval_ge b _)
    have p : 10 ^ 19 ≤ 10 ^ b.length := Nat.pow_le_pow_right (by omega) (by omega)
    have e : 10 ^ 19 = 10000000000000000000 := by decide
    have q : 1 ≤ 0 * 10 + (a.toNat - 48) := by omega
    have r := Nat.mul_le_mul q p
    omega

/-! ### the answer of Read -/
def most (neg : Bool) : Nat := if neg then 9223372036854775808 else 9223372036854775807
def signed (neg : Bool) (v : Nat) : Int := if neg then -(v : Int) else (v : Int)
open Classical in
/-- sign, digits -/
noncomputable def readT (neg : Bool) (t : ByteArray) : Int × Int :=
  if decP t ∧ ¬ (neg = true ∧ t.toList = [48]) then
    if dval 0 t.toList ≤ most neg then (signed neg (dval 0 t.toList), 0) else (0, 2)
  else (0, 5)
theorem readT_form {neg : Bool} {t : ByteArray} (h : ¬ decP t ∨ (neg = true ∧ t.toList = [48])) : readT neg t = (0, 5) := by
  unfold readT; rw [if_neg (by rintro ⟨a, b⟩; rcases h with h | h; exact h a; exact b h)]
theorem readT_range {neg : Bool} {t : ByteArray} (h : decP t) (h1 : ¬ (neg = true ∧ t.toList = [48])) (h2 : most neg < dval 0 t.toList) : readT neg t = (0, 2) := by
  unfold readT; rw [if_pos ⟨h, h1⟩, if_neg (by omega)]
theorem readT_ok {neg : Bool} {t : ByteArray} {v : Nat} (h : decP t) (h1 : ¬ (neg = true ∧ t.toList = [48])) (h2 : dval 0 t.toList = v) (h3 : v ≤ most neg) : readT neg t = (signed neg v, 0) := by
  unfold readT; rw [if_pos ⟨h, h1⟩, if_pos (by omega), h2]
/-- which sign a text has, and which digits behind it -/
structure Split (s t : ByteArray) (neg : Bool) : Prop where
  plus : neg = false → t = s ∧ ∀ h : 0 < s.size, ¬ (s[0].toNat : Int) = 45
  minus : neg = true → s.toList = 45 :: t.toList ∧ s.size = t.size + 1 ∧ s.extract 1 s.size = t ∧ ∃ h : 0 < s.size, (s[0].toNat : Int) = 45
def tailOf (l : List UInt8) : ByteArray := ⟨l.toArray⟩
theorem tailOf_list (l : List UInt8) : (tailOf l).toList = l := by rw [toList_data]; simp [tailOf]
theorem tailOf_self (s : ByteArray) : tailOf s.toList = s := by rw [toList_data]; rfl
theorem bytes_ext {s t : ByteArray} (h : s.toList = t.toList) : s = t := by rw [← tailOf_self s, ← tailOf_self t, h]
def negOf (s : ByteArray) : Bool := s.toList.head? == some 45
def digsOf (s : ByteArray) : ByteArray := if negOf s then tailOf s.toList.tail else s
theorem split_of (s : ByteArray) : Split s (digsOf s) (negOf s) := by
  cases c : s.toList with
  | nil =>
    have n : negOf s = false := by unfold negOf; rw [c]; rfl
    refine ⟨fun _ => ⟨by unfold digsOf; rw [n]; rfl, fun h => ?_⟩, fun h => ?_⟩
    · have l := toList_len s
      rw [c] at l; simp at l; omega
    · rw [n] at h; cases h
  | cons a b =>
    have l := toList_len s
    rw [c] at l
    simp at l
    have h0 : 0 < s.size := by omega
    have hd := head_at c h0
    by_cases e : a = 45
    · have n : negOf s = true := by unfold negOf; rw [c, e]; rfl
      have d : digsOf s = tailOf b := by unfold digsOf; rw [n, c]; rfl
      refine ⟨fun h => ?_, fun _ => ?_⟩
      · rw [n] at h; cases h
      rw [d, tailOf_list]
      have sz : (tailOf b).size = b.length := by rw [← toList_len, tailOf_list]
      refine ⟨by rw [c, e], by omega, ?_, h0, by rw [hd, e]; rfl⟩
      apply bytes_ext
      rw [tailOf_list, toList_data]
      have : s.data.toList = a :: b := by rw [← toList_data]; exact c
      rw [Lib.extract_to_end, this]; rfl
    · have n : negOf s = false := by unfold negOf; rw [c]; simp [e]
      refine ⟨fun _ => ⟨by unfold digsOf; rw [n]; rfl, fun h => ?_⟩, fun h => ?_⟩
      · rw [hd]
        intro k
        exact e (UInt8.toNat_inj.1 (by have : a.toNat = 45 := by omega
                                       simpa using this))
      · rw [n] at h; cases h
noncomputable def readv (s : ByteArray) : Int × Int := readT (negOf s) (digsOf s)

attribute [irreducible] most dval readT
end Go.Proofs.Ythjobjfnakfliaa
