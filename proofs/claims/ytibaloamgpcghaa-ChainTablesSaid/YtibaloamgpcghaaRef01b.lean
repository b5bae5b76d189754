/-
  Contracts of package haymowref01: the sum, the difference.
-/
import Derived.Test.YtibaloamgpcghaaRef01
import Derived.LoopTactic
import Derived.Deep.QuietTactic
import Derived.BigQuiet
import Derived.WalkSmall
import Derived.Deep.RegionWith
import Derived.Deep.RegionHeld3
import Derived.Deep.DeepCutAuto
import Derived.Deep.CutBlock
namespace Go.Proofs.Ytibaloamgpcghaa
open Go.RowKit
set_option linter.unusedVariables false


/-- what the sum's parts hold after k rounds -/
def outs (s k j : Nat) : Value := .int .u64 (if j < k then dig s j else 0)
theorem outs_lt {s k j : Nat} (h : j < k) : outs s k j = fd s j := by unfold outs fd; rw [if_pos h]
theorem outs_ge {s k j : Nat} (h : ¬ j < k) : outs s k j = .int .u64 0 := by unfold outs; rw [if_neg h]
theorem outs_succ (s k j : Nat) : (if j = k then fd s k else outs s k j) = outs s (k + 1) j := by
  by_cases h : j = k
  · subst h; rw [if_pos rfl, outs_lt (by omega)]
  · rw [if_neg h]; unfold outs
    by_cases h2 : j < k
    · rw [if_pos h2, if_pos (by omega)]
    · rw [if_neg h2, if_neg (by omega)]

theorem dig_top {s : Nat} (h : s < 1461501637330902918203684832716283019655932542976) : dig s 5 = 0 := by unfold dig; simp; omega

/-! ### the difference -/
def brw (a b k : Nat) : Int := if a % 4294967296 ^ k < b % 4294967296 ^ k then 1 else 0
theorem brw_b (a b k : Nat) : 0 ≤ brw a b k ∧ brw a b k ≤ 1 := by unfold brw; split <;> omega
theorem brw_0 (a b : Nat) : brw a b 0 = 0 := by unfold brw; simp [Nat.mod_one]
theorem sub_split {a b P : Nat} (hP : 0 < P) (h : b ≤ a) : (((a - b) / P : Nat) : Int) = ((a / P : Nat) : Int) - ((b / P : Nat) : Int) - (if a % P < b % P then 1 else 0) := by
  have ea := Nat.div_add_mod a P; have eb := Nat.div_add_mod b P
  have ma := Nat.mod_lt a hP; have mb := Nat.mod_lt b hP
  have hq : b / P ≤ a / P := Nat.div_le_div_right h
  by_cases c : a % P < b % P
  · rw [if_pos c]
    have hne : b / P ≠ a / P := fun e => by rw [e] at eb; omega
    have hlt : b / P + 1 ≤ a / P := by omega
    have e : a - b = (a % P + P - b % P) + P * (a / P - b / P - 1) := by
      have : P * (a / P - b / P - 1) + P + P * (b / P) = P * (a / P) := by
        rw [show P * (a / P - b / P - 1) + P + P * (b / P) = P * ((a / P - b / P - 1) + 1 + b / P) by rw [Nat.mul_add, Nat.mul_add, Nat.mul_one]]
        congr 1; omega
      omega
    rw [e, Nat.add_mul_div_left _ _ hP, Nat.div_eq_of_lt (by omega)]
    omega
  · rw [if_neg c]
    have e : a - b = (a % P - b % P) + P * (a / P - b / P) := by
      have : P * (a / P - b / P) + P * (b / P) = P * (a / P) := by rw [← Nat.mul_add]; congr 1; omega
      omega
    rw [e, Nat.add_mul_div_left _ _ hP, Nat.div_eq_of_lt (by omega)]
    omega
theorem brw_dig {a b : Nat} (h : b ≤ a) (k : Nat) : (dig a k + 4294967296 - dig b k - brw a b k) % 4294967296 = dig (a - b) k := by
  have e := sub_split (pow_pos32 k) h
  have hq : b / 4294967296 ^ k ≤ a / 4294967296 ^ k := Nat.div_le_div_right h
  unfold dig brw
  generalize a / 4294967296 ^ k = x at *
  generalize b / 4294967296 ^ k = y at *
  generalize (a - b) / 4294967296 ^ k = z at *
  generalize (if a % 4294967296 ^ k < b % 4294967296 ^ k then (1 : Int) else 0) = t at *
  omega
theorem brw_succ (a b k : Nat) : 1 - (dig a k + 4294967296 - dig b k - brw a b k) / 4294967296 = brw a b (k + 1) := by
  have hP := pow_pos32 k
  have ma := Nat.mod_lt a hP; have mb := Nat.mod_lt b hP
  unfold dig brw
  rw [Nat.pow_succ, mod_split a, mod_split b]
  have xa := Nat.mod_lt (a / 4294967296 ^ k) (show 0 < 4294967296 by omega)
  have xb := Nat.mod_lt (b / 4294967296 ^ k) (show 0 < 4294967296 by omega)
  generalize a / 4294967296 ^ k % 4294967296 = x at *
  generalize b / 4294967296 ^ k % 4294967296 = y at *
  generalize a % 4294967296 ^ k = r at *
  generalize b % 4294967296 ^ k = s at *
  generalize 4294967296 ^ k = P at *
  rcases Nat.lt_trichotomy x y with c | c | c
  · have m : P * x + P ≤ P * y := by rw [← Nat.mul_succ]; exact Nat.mul_le_mul_left P c
    rw [if_pos (show r + P * x < s + P * y by omega)]
    split <;> omega
  · subst c
    by_cases d : r < s
    · rw [if_pos d, if_pos (by omega)]; omega
    · rw [if_neg d, if_neg (by omega)]; omega
  · have m : P * y + P ≤ P * x := by rw [← Nat.mul_succ]; exact Nat.mul_le_mul_left P c
    rw [if_neg (show ¬ r + P * x < s + P * y by omega)]
    split <;> omega
attribute [irreducible] brw
end Go.Proofs.Ytibaloamgpcghaa
