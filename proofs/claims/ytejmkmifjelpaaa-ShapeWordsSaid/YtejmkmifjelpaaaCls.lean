/-
  The class of a size; how many of a list are of a class; the n-th of things that are counted by class. No program in sight.
-/
import Derived.Lib.ItoaNum
namespace Go.Proofs.Ytejmkmifjelpaaa

/-- the class of so many words -/
def clsF (n : Int) : Nat → Nat → Nat
  | 0, c => c
  | f + 1, c => if n ≤ ((2 ^ c : Nat) : Int) then c else clsF n f (c + 1)
def cls (n : Int) : Nat := clsF n 13 0
theorem clsF_is (n : Int) : ∀ f c, (0 < c → ((2 ^ (c - 1) : Nat) : Int) < n) → clsF n f c ≤ c + f ∧ (clsF n f c < c + f → n ≤ ((2 ^ clsF n f c : Nat) : Int)) ∧ (0 < clsF n f c → ((2 ^ (clsF n f c - 1) : Nat) : Int) < n)
  | 0, c, h => ⟨Nat.le_refl _, fun h => by simp [clsF] at h, h⟩
  | f + 1, c, h => by
    unfold clsF
    by_cases k : n ≤ ((2 ^ c : Nat) : Int)
    · rw [if_pos k]
      exact ⟨by omega, fun _ => k, h⟩
    · rw [if_neg k]
      have := clsF_is n f (c + 1) (fun _ => by rw [Nat.add_sub_cancel]; omega)
      rw [show c + 1 + f = c + (f + 1) by omega] at this
      exact this
theorem cls_is (n : Int) : cls n ≤ 13 ∧ (cls n < 13 → n ≤ ((2 ^ cls n : Nat) : Int)) ∧ (0 < cls n → ((2 ^ (cls n - 1) : Nat) : Int) < n) := by
  have := clsF_is n 13 0 (fun h => by omega)
  rw [Nat.zero_add] at this
  exact this
theorem cls_le (n : Int) : cls n ≤ 13 := (cls_is n).1
theorem pow_up {a b : Nat} (h : a ≤ b) : 2 ^ a ≤ 2 ^ b := Nat.pow_le_pow_right (by decide) h
theorem cls_of (n : Int) (c : Nat) (h : c ≤ 13) (h1 : c < 13 → n ≤ ((2 ^ c : Nat) : Int)) (h2 : 0 < c → ((2 ^ (c - 1) : Nat) : Int) < n) : cls n = c := by
  obtain ⟨k, k1, k2⟩ := cls_is n
  generalize cls n = r at *
  rcases Nat.lt_trichotomy r c with l | l | l
  · have a := k1 (by omega)
    have b := h2 (by omega)
    have := pow_up (show r ≤ c - 1 by omega)
    omega
  · exact l
  · have a := h1 (by omega)
    have b := k2 (by omega)
    have := pow_up (show c ≤ r - 1 by omega)
    omega
theorem fourteen {c : Nat} (h : c ≤ 13) : c = 0 ∨ c = 1 ∨ c = 2 ∨ c = 3 ∨ c = 4 ∨ c = 5 ∨ c = 6 ∨ c = 7 ∨ c = 8 ∨ c = 9 ∨ c = 10 ∨ c = 11 ∨ c = 12 ∨ c = 13 := by omega
theorem cls_low {n : Int} (h : n ≤ 1) : cls n = 0 := cls_of n 0 (by omega) (fun _ => by simpa using h) (fun h => by omega)
theorem cls_bits {n : Int} (h : 2 ≤ n) (hm : n ≤ 9223372036854775807) : cls n = min (Lib.bitLen (n - 1).toNat) 13 := by
  obtain ⟨m, hm2⟩ : ∃ m : Nat, (n - 1).toNat = m := ⟨_, rfl⟩
  have hb := Lib.bitLenAux_bounds 64 m (by omega) (by omega)
  rw [hm2]
  change 1 ≤ Lib.bitLen m ∧ 2 ^ (Lib.bitLen m - 1) ≤ m ∧ m < 2 ^ Lib.bitLen m at hb
  generalize Lib.bitLen m = b at *
  obtain ⟨b1, b2, b3⟩ := hb
  by_cases c : b ≤ 13
  · rw [Nat.min_eq_left c]
    exact cls_of n b c (fun _ => by omega) (fun _ => by omega)
  · rw [Nat.min_eq_right (by omega)]
    refine cls_of n 13 (by omega) (fun h => by omega) (fun _ => ?_)
    have : 2 ^ 13 ≤ 2 ^ (b - 1) := Nat.pow_le_pow_right (by decide) (by omega)
    simp at this ⊢
    omega
/-- the least and the greatest size of a class -/
def blo (c : Nat) : Nat := 2 ^ c / 2 + 1
def bhi (c : Nat) : Nat := 2 ^ c
theorem within {n : Int} (h1 : 1 ≤ n) (h2 : n ≤ 8192) {c : Nat} (h : c ≤ 13) : ((blo c : Nat) : Int) ≤ n ∧ n ≤ ((bhi c : Nat) : Int) ↔ cls n = c := by
  unfold blo bhi
  have e : c = 0 ∨ (0 < c ∧ 2 ^ c / 2 = 2 ^ (c - 1)) := by
    cases c with
    | zero => exact .inl rfl
    | succ c => right; rw [Nat.pow_succ, Nat.mul_div_cancel _ (by decide)]; simp
  constructor
  · rintro ⟨a, b⟩
    refine cls_of n c h (fun _ => b) (fun h0 => ?_)
    have := (e.resolve_left (by omega)).2
    omega
  · rintro rfl
    obtain ⟨k, k1, k2⟩ := cls_is n
    generalize cls n = r at *
    constructor
    · rcases e with rfl | ⟨r0, e⟩
      · simp; omega
      · have := k2 r0
        omega
    · by_cases r13 : r = 13
      · subst r13; simp; omega
      · exact k1 (by omega)
theorem cls_mono {a b : Int} (h : a ≤ b) : cls a ≤ cls b := by
  obtain ⟨_, _, a2⟩ := cls_is a
  obtain ⟨_, b1, _⟩ := cls_is b
  have := cls_le a
  generalize cls a = r at *
  generalize cls b = s at *
  apply Nat.le_of_not_lt
  intro l
  have p := a2 (by omega)
  have q := b1 (by omega)
  have := pow_up (show s ≤ r - 1 by omega)
  omega
theorem b_small {c : Nat} (h : c ≤ 13) : blo c ≤ 4097 ∧ bhi c ≤ 8192 := by
  rcases fourteen h with rfl | rfl | rfl | rfl | rfl | rfl | rfl | rfl | rfl | rfl | rfl | rfl | rfl | rfl <;> decide

/-! ### counts -/
def cnt (zs : List Int) (j : Nat) : Nat := zs.countP fun z => cls z == j
theorem cnt_nil (j : Nat) : cnt [] j = 0 := rfl
theorem cnt_step (zs : List Int) (k : Nat) (hk : k < zs.length) (j : Nat) : cnt (zs.take (k + 1)) j = if j = cls (zs.getD k 0) then cnt (zs.take k) j + 1 else cnt (zs.take k) j := by
  unfold cnt
  rw [List.take_add_one, List.countP_append, List.getElem?_eq_getElem hk]
  simp only [List.getD, List.getElem?_eq_getElem hk, Option.toList_some, Option.getD_some, List.countP_singleton, beq_iff_eq]
  by_cases e : cls zs[k] = j
  · simp [e]
  · simp [e, show ¬ j = cls zs[k] from fun h => e h.symm]
theorem cnt_le (zs : List Int) (j : Nat) : cnt zs j ≤ zs.length := List.countP_le_length
theorem cnt_take_le (zs : List Int) (k j : Nat) : cnt (zs.take k) j ≤ k := Nat.le_trans (cnt_le _ _) (by simp; omega)
/-- the sum of n of them from k on -/
def csum (f : Nat → Nat) : Nat → Nat → Nat
  | 0, _ => 0
  | n + 1, k => f k + csum f n (k + 1)
theorem csum_snoc (f : Nat → Nat) : ∀ n k, csum f (n + 1) k = csum f n k + f (k + n)
  | 0, k => by simp [csum]
  | n + 1, k => by
    rw [csum, csum_snoc f n (k + 1), csum]
    rw [show k + 1 + n = k + (n + 1) by omega]
    omega
theorem csum_le (f : Nat → Nat) : ∀ n m k, n ≤ m → csum f n k ≤ csum f m k
  | 0, _, _, _ => by simp [csum]
  | n + 1, 0, _, h => by omega
  | n + 1, m + 1, k, h => by
    have := csum_le f n m (k + 1) (by omega)
    simp only [csum]
    omega
theorem csum_add (f g : Nat → Nat) : ∀ n k, csum (fun j => f j + g j) n k = csum f n k + csum g n k
  | 0, _ => rfl
  | n + 1, k => by
    have := csum_add f g n (k + 1)
    simp only [csum, this]
    omega
theorem csum_one (c : Nat) : ∀ n k, k ≤ c → csum (fun j => if c = j then 1 else 0) n k = if c < k + n then 1 else 0
  | 0, k, h => by simp [csum]; omega
  | n + 1, k, h => by
    simp only [csum]
    by_cases e : c = k
    · subst e
      have z : ∀ n k, c < k → csum (fun j => if c = j then 1 else 0) n k = 0 := by
        intro n
        induction n with
        | zero => intro k _; rfl
        | succ n ih => intro k hk; simp only [csum]; rw [ih (k + 1) (by omega), if_neg (by omega)]
      rw [z n (c + 1) (by omega)]
      simp
    · rw [csum_one c n (k + 1) (by omega), if_neg e, show k + 1 + n = k + (n + 1) by omega]
      simp
theorem csum_cnt : ∀ zs : List Int, csum (cnt zs) 14 0 = zs.length
  | [] => by simp [csum, cnt]
  | z :: r => by
    have h : cnt (z :: r) = fun j => cnt r j + (if cls z = j then 1 else 0) := by
      funext j; unfold cnt; rw [List.countP_cons]; simp
    rw [h, csum_add, csum_cnt r, csum_one (cls z) 14 0 (by omega), if_pos (by have := cls_le z; omega)]
    simp

/-! ### the class of the one that has so many before it -/
def rk (f : Nat → Int) : Nat → Nat → Int → Option Nat
  | 0, _, _ => none
  | n + 1, k, a => if a < f k then some k else rk f n (k + 1) (if 0 < f k then a - f k else a)
def rankv (f : Nat → Int) (a : Int) : Option Nat := if a < 0 then none else rk f 14 0 a
theorem rk_hit {f : Nat → Int} {n k : Nat} {a : Int} (h : a < f k) : rk f (n + 1) k a = some k := by unfold rk; rw [if_pos h]
theorem rk_go {f : Nat → Int} {n k : Nat} {a : Int} (h : ¬ a < f k) : rk f (n + 1) k a = rk f n (k + 1) (if 0 < f k then a - f k else a) := by rw [rk]; rw [if_neg h]
theorem rk_some (f : Nat → Nat) : ∀ (n k : Nat) (a : Int), 0 ≤ a → a < (csum f n k : Nat) → ∃ j, rk (fun i => ((f i : Nat) : Int)) n k a = some j ∧ j < k + n ∧ 0 < f j
  | 0, k, a, h0, h => by simp [csum] at h; omega
  | n + 1, k, a, h0, h => by
    simp only [csum] at h
    by_cases c : a < (f k : Int)
    · exact ⟨k, rk_hit (f := fun i => ((f i : Nat) : Int)) c, by omega, by omega⟩
    · have e : (if 0 < (f k : Int) then a - (f k : Int) else a) = a - (f k : Int) := by split <;> omega
      obtain ⟨j, hj, hl, hp⟩ := rk_some f n (k + 1) (a - (f k : Int)) (by omega) (by omega)
      exact ⟨j, by rw [rk_go (f := fun i => ((f i : Nat) : Int)) c]; show rk _ n (k + 1) (if 0 < (f k : Int) then a - (f k : Int) else a) = _; rw [e]; exact hj, by omega, hp⟩
theorem rank_cnt (zs : List Int) (h : zs ≠ []) : ∃ j, rankv (fun i => (cnt zs i : Int)) ((zs.length : Int) - 1) = some j ∧ j < 14 ∧ 0 < cnt zs j := by
  have hl : 0 < zs.length := List.length_pos_iff.2 h
  unfold rankv
  rw [if_neg (by omega)]
  obtain ⟨j, hj, hl, hp⟩ := rk_some (cnt zs) 14 0 ((zs.length : Int) - 1) (by omega) (by rw [csum_cnt]; omega)
  exact ⟨j, hj, by omega, hp⟩
theorem rank_nil (f : Nat → Int) : rankv f (-1) = none := by unfold rankv; rw [if_pos (by omega)]
theorem rank_lt (f : Nat → Int) : ∀ (n k : Nat) (a : Int) (j : Nat), rk f n k a = some j → j < k + n
  | 0, k, a, j, h => by simp [rk] at h
  | n + 1, k, a, j, h => by
    by_cases c : a < f k
    · rw [rk_hit c] at h; cases h; omega
    · rw [rk_go c] at h
      have := rank_lt f n (k + 1) _ j h
      omega
attribute [irreducible] cls cnt csum rk rankv blo bhi
end Go.Proofs.Ytejmkmifjelpaaa
