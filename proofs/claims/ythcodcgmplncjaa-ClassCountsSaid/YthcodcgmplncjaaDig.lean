/-
  Figures, decimal and hexadecimal; texts as lists of bytes. No program in sight.
-/
import Derived.Laws.BytesArg
import Derived.Lib.Hide
import Derived.Lib.Strings
namespace Go.Proofs.Ythcodcgmplncjaa

/-! ### decimal -/
/-- the text of a number of at most f digits, as bytes -/
def dtextF : Nat → Nat → List Int
  | 0, _ => []
  | f + 1, a => if a / 10 = 0 then [48 + ((a % 10 : Nat) : Int)] else dtextF f (a / 10) ++ [48 + ((a % 10 : Nat) : Int)]
def dtext (a : Nat) : List Int := dtextF 19 a
theorem dtextF_last {f a : Nat} (h : a / 10 = 0) : dtextF (f + 1) a = [48 + ((a % 10 : Nat) : Int)] := by unfold dtextF; rw [if_pos h]
theorem dtextF_more {f a : Nat} (h : a / 10 ≠ 0) : dtextF (f + 1) a = dtextF f (a / 10) ++ [48 + ((a % 10 : Nat) : Int)] := by
  rw [dtextF.eq_def]; simp only; rw [if_neg h]
theorem pow10_succ (f : Nat) : 10 ^ (f + 1) = 10 ^ f * 10 := Nat.pow_succ ..
theorem div10_lt {a f : Nat} (h : a < 10 ^ (f + 1)) : a / 10 < 10 ^ f := by rw [pow10_succ] at h; omega
theorem dtextF_digits : ∀ f a, ∀ x ∈ dtextF f a, 48 ≤ x ∧ x ≤ 57
  | 0, _, x, h => by simp [dtextF] at h
  | f + 1, a, x, h => by
    by_cases c : a / 10 = 0
    · rw [dtextF_last c] at h; simp at h; omega
    · rw [dtextF_more c] at h
      simp at h
      rcases h with h | h
      · exact dtextF_digits f (a / 10) x h
      · omega
theorem dtextF_len : ∀ f a, (dtextF f a).length ≤ f
  | 0, _ => by simp [dtextF]
  | f + 1, a => by
    by_cases c : a / 10 = 0
    · rw [dtextF_last c]; simp
    · rw [dtextF_more c]; have := dtextF_len f (a / 10); simp; omega
theorem dtextF_head : ∀ f a, a < 10 ^ (f + 1) → ∃ c l, dtextF (f + 1) a = c :: l ∧ (l = [] ∨ c ≠ 48) ∧ (a ≠ 0 → c ≠ 48)
  | 0, a, h => by
    have e : a / 10 = 0 := by omega
    rw [dtextF_last e]
    exact ⟨_, [], rfl, .inl rfl, fun h0 => by omega⟩
  | f + 1, a, h => by
    by_cases e : a / 10 = 0
    · rw [dtextF_last e]
      exact ⟨_, [], rfl, .inl rfl, fun h0 => by omega⟩
    · obtain ⟨c, l, e1, _, e3⟩ := dtextF_head f (a / 10) (div10_lt h)
      rw [dtextF_more e, e1]
      exact ⟨c, l ++ [48 + ((a % 10 : Nat) : Int)], rfl, .inr (e3 e), fun _ => e3 e⟩

/-- what holds at the head of a loop that lays a number's digits from below: k digits s so far, x what is left -/
structure DInv (a k x f : Nat) (s : List Int) : Prop where
  sl : s.length = k
  len : f + k = 19
  lt : x < 10 ^ f
  last : k ≠ 0 → x = 0 → dtext a = s
  more : x ≠ 0 ∨ k = 0 → dtext a = dtextF f x ++ s
theorem DInv.start {a : Nat} (h : a < 10 ^ 19) : DInv a 0 a 19 [] := ⟨rfl, rfl, h, fun h => absurd rfl h, fun _ => by simp [dtext]⟩
theorem DInv.fpos {a k x f : Nat} {s : List Int} (I : DInv a k x f s) (go : x ≠ 0 ∨ k = 0) : ∃ g, f = g + 1 := by
  cases f with
  | zero =>
    rcases go with g | g
    · exact absurd (Nat.lt_one_iff.1 I.lt) g
    · have := I.len; omega
  | succ g => exact ⟨g, rfl⟩
theorem DInv.next {a k x f : Nat} {s : List Int} (I : DInv a k x (f + 1) s) (go : x ≠ 0 ∨ k = 0) : DInv a (k + 1) (x / 10) f ((48 + ((x % 10 : Nat) : Int)) :: s) := by
  have e := I.more go
  refine ⟨by have := I.sl; simp; omega, by have := I.len; omega, div10_lt I.lt, fun _ h => ?_, fun h => ?_⟩
  · rw [dtextF_last h] at e; exact e
  · have hx := h.resolve_right (by omega)
    rw [dtextF_more hx, List.append_assoc] at e; exact e

/-- the text of an integer -/
def itext (n : Int) : List Int := if n < 0 then 45 :: dtext n.natAbs else dtext n.natAbs

/-! ### hexadecimal -/
def hexd (n : Nat) : Int := if n ≤ 9 then 48 + (n : Int) else 87 + (n : Int)
def htextF : Nat → Nat → List Int
  | 0, _ => []
  | f + 1, x => htextF f (x / 16) ++ [hexd (x % 16)]
def htext (x : Nat) : List Int := htextF 16 x
theorem htextF_len : ∀ f x, (htextF f x).length = f
  | 0, _ => rfl
  | f + 1, x => by rw [htextF, List.length_append, htextF_len f]; rfl
theorem htext_step {x y f : Nat} {s : List Int} (e : htext x = htextF (f + 1) y ++ s) : htext x = htextF f (y / 16) ++ (hexd (y % 16) :: s) := by
  rw [e, htextF, List.append_assoc]; rfl
/-- the places filled so far, from behind, of n -/
def drow (m : Nat) (s : List Int) (j : Nat) : Value := .int .u8 (if j < m then 0 else s.getD (j - m) 0)
theorem drow_cons (m : Nat) (s : List Int) (d : Int) (j : Nat) : (if j = m then .int .u8 d else drow (m + 1) s j) = drow m (d :: s) j := by
  by_cases h : j = m
  · subst h; rw [if_pos rfl]; unfold drow; rw [if_neg (by omega)]; simp
  · rw [if_neg h]; unfold drow
    by_cases h2 : j < m
    · rw [if_pos (by omega), if_pos h2]
    · rw [if_neg (by omega), if_neg h2, show j - m = (j - (m + 1)) + 1 by omega]; simp
theorem hexd_lo {n : Nat} (h : n < 10) : hexd n = 48 + (n : Int) := by unfold hexd; rw [if_pos (by omega)]
theorem hexd_hi {n : Nat} (h : ¬ n < 10) : hexd n = 87 + (n : Int) := by unfold hexd; rw [if_neg (by omega)]

/-- a figure's number -/
def hval (c : Nat) : Option Nat := if 48 ≤ c ∧ c ≤ 57 then some (c - 48) else if 97 ≤ c ∧ c ≤ 102 then some (c - 87) else none
def hrun : Nat → List UInt8 → Option Nat
  | v, [] => some v
  | v, c :: l => match hval c.toNat with
    | some d => hrun (v * 16 + d) l
    | none => none
theorem hval_lt {c d : Nat} (h : hval c = some d) : d < 16 := by
  unfold hval at h
  split at h
  · have := Option.some.inj h; omega
  · split at h
    · have := Option.some.inj h; omega
    · cases h

/-! ### texts as bytes -/
theorem toList_data (s : ByteArray) : s.toList = s.data.toList := ByteArray.toList_eq s
theorem toList_len (s : ByteArray) : s.toList.length = s.size := by rw [toList_data]; show s.data.toList.length = s.data.size; simp
theorem drop_cons {s : ByteArray} {k : Nat} (h : k < s.size) : s.toList.drop k = s[k] :: s.toList.drop (k + 1) := by
  rw [toList_data]; exact List.drop_eq_getElem_cons (by simpa using h)
theorem drop_end {s : ByteArray} : s.toList.drop s.size = [] := List.drop_eq_nil_of_le (by rw [toList_len]; omega)
def byt (n : Int) : UInt8 := UInt8.ofNat n.toNat
theorem byt_nat {n : Int} (h0 : 0 ≤ n) (h1 : n ≤ 255) : (byt n).toNat = n.toNat := by
  unfold byt; simp; omega
theorem str_list (xs : List Int) : (strOfNums xs).toList = xs.map byt := by rw [toList_data, strOfNums_data]; rfl
theorem str_get (xs : List Int) (i : Nat) (h : i < (strOfNums xs).size) (h2 : i < xs.length) : (strOfNums xs)[i] = byt xs[i] := by
  show (strOfNums xs).data[i] = _
  rw [← Array.getElem_toList]
  simp [strOfNums, byt]

/-! ### the word of a text of figures -/
theorem hexd_val {n : Nat} (h : n < 16) : hval (byt (hexd n)).toNat = some n := by
  unfold hexd
  split
  · rw [byt_nat (by omega) (by omega)]; unfold hval; rw [if_pos (by omega)]; congr 1; omega
  · rw [byt_nat (by omega) (by omega)]; unfold hval; rw [if_neg (by omega), if_pos (by omega)]; congr 1; omega
theorem hrun_append : ∀ (l : List UInt8) (v : Nat) (m : List UInt8), hrun v (l ++ m) = (hrun v l).bind fun u => hrun u m
  | [], v, m => rfl
  | c :: l, v, m => by
    rw [List.cons_append, hrun, hrun]
    split
    · exact hrun_append l _ m
    · rfl
theorem hrun_text : ∀ f x, x < 16 ^ f → hrun 0 ((htextF f x).map byt) = some x
  | 0, x, h => by
    have : x = 0 := by simpa using h
    subst this; rfl
  | f + 1, x, h => by
    have h' : x / 16 < 16 ^ f := by rw [Nat.pow_succ] at h; omega
    rw [htextF, List.map_append, hrun_append, hrun_text f (x / 16) h']
    simp only [Option.bind_some, List.map_cons, List.map_nil, hrun, hexd_val (show x % 16 < 16 by omega)]
    congr 1; omega

attribute [irreducible] hexd drow dtext htext hval
end Go.Proofs.Ythcodcgmplncjaa
