/-
  Headers in plain numbers; contracts of the parts of package header that call no field, and of haymowref12: each for any argument.
-/
import Derived.Test.YtkbljgclflaokaaGreatDoorFld
import Derived.WalkKit
import Derived.RowKit3
import Derived.Below
import Derived.Lib.Hide
import Derived.WalkSmall
import Derived.WalkSpells
import Derived.StillTactics
import Derived.LoopTactic
import Derived.KernelRfl
import Derived.Outline
import Derived.Deep.Cut
import Derived.Deep.DeepCutAuto
import Derived.Deep.RegionHeld3
import Derived.Deep.QuietTactic
import Derived.BigQuiet
namespace Go.Proofs.YtkbljgclflaokaaGreatDoor
open Go.RowKit
set_option linter.unusedVariables false

/-- a header as the program has it -/
abbrev hd (p r s a : Int) (l : Bool) : Value := .agg #[.int .i64 p, .int .i64 r, .int .i64 s, .int .i64 a, .bool l]
abbrev hc (p r s a : Int) (l : Bool) : Obj := .cells #[.int .i64 p, .int .i64 r, .int .i64 s, .int .i64 a, .bool l] 55
def bn (l : Bool) : Nat := if l then 1 else 0
/-- the word of a header -/
def hw (P R S A : Nat) (l : Bool) : Nat := 4611686018427387904 + bn l * 4294967296 + A * 536870912 + S * 16777216 + R * 4096 + P
/-- is a word a header's? -/
def isH (x : Nat) : Bool := decide (x / 4611686018427387904 = 1 ∧ x / 8589934592 % 536870912 = 0)
/-- is a word that of a moved object? -/
def isF (x : Nat) : Bool := decide (x / 4611686018427387904 = 2 ∧ x / 4194304 % 1099511627776 = 0)
theorem bn_cases (l : Bool) : (l = true ∧ bn l = 1) ∨ (l = false ∧ bn l = 0) := by cases l <;> simp [bn]
theorem bn_le (l : Bool) : bn l ≤ 1 := by cases l <;> simp [bn]
theorem bn_of (n : Nat) (h : n < 2) : bn (decide (n = 1)) = n := by
  have : n = 0 ∨ n = 1 := by omega
  rcases this with rfl | rfl <;> rfl
theorem isH_hw {P R S A : Nat} {l : Bool} (hP : P < 4096) (hR : R < 4096) (hS : S < 32) (hA : A < 8) : isH (hw P R S A l) = true ∧ hw P R S A l % 4096 = P ∧ hw P R S A l / 4096 % 4096 = R ∧ hw P R S A l / 16777216 % 32 = S ∧ hw P R S A l / 536870912 % 8 = A ∧ hw P R S A l / 4294967296 % 2 = bn l ∧ hw P R S A l < 9223372036854775808 := by
  unfold isH hw
  have := bn_le l
  generalize bn l = L at *
  refine ⟨decide_eq_true ⟨by omega, by omega⟩, by omega, by omega, by omega, by omega, by omega, by omega⟩
theorem hw_of {x : Nat} (hx : x < 18446744073709551616) (h : isH x = true) : hw (x % 4096) (x / 4096 % 4096) (x / 16777216 % 32) (x / 536870912 % 8) (decide (x / 4294967296 % 2 = 1)) = x := by
  unfold isH at h
  have ⟨h1, h2⟩ := of_decide_eq_true h
  unfold hw
  rw [bn_of _ (by omega)]
  omega
theorem hw_not {x : Nat} (hx : x < 18446744073709551616) (h : isH x = false) : hw (x % 4096) (x / 4096 % 4096) (x / 16777216 % 32) (x / 536870912 % 8) (decide (x / 4294967296 % 2 = 1)) ≠ x := by
  intro e
  have k := (isH_hw (P := x % 4096) (R := x / 4096 % 4096) (S := x / 16777216 % 32) (A := x / 536870912 % 8) (l := decide (x / 4294967296 % 2 = 1)) (by omega) (by omega) (by omega) (by omega)).1
  rw [e, h] at k; cases k
theorem isF_iff {x : Nat} (hx : x < 18446744073709551616) : isF x = decide (9223372036854775808 ≤ x ∧ x - 9223372036854775808 < 4194304) := by
  unfold isF
  apply Bool.eq_iff_iff.2
  rw [decide_eq_true_iff, decide_eq_true_iff]
  omega
theorem isF_isH {x : Nat} (h : isF x = true) : isH x = false := by
  unfold isF at h
  unfold isH
  have ⟨h1, _⟩ := of_decide_eq_true h
  exact decide_eq_false (by omega)
/-- what a header is refused for: 20, 21, 2; 0: it may be -/
def chk (p r s a : Int) : Int := if 0 ≤ p ∧ p ≤ 4095 ∧ 0 ≤ r ∧ r ≤ 4095 then (if 0 ≤ s ∧ s ≤ 31 then (if 0 ≤ a ∧ a ≤ 7 then 0 else 2) else 21) else 20
theorem chk_p {p r s a : Int} (h : ¬ (0 ≤ p ∧ p ≤ 4095 ∧ 0 ≤ r ∧ r ≤ 4095)) : chk p r s a = 20 := if_neg h
theorem chk_s {p r s a : Int} (h : 0 ≤ p ∧ p ≤ 4095 ∧ 0 ≤ r ∧ r ≤ 4095) (k : ¬ (0 ≤ s ∧ s ≤ 31)) : chk p r s a = 21 := by unfold chk; rw [if_pos h, if_neg k]
theorem chk_a {p r s a : Int} (h : 0 ≤ p ∧ p ≤ 4095 ∧ 0 ≤ r ∧ r ≤ 4095) (k : 0 ≤ s ∧ s ≤ 31) (m : ¬ (0 ≤ a ∧ a ≤ 7)) : chk p r s a = 2 := by unfold chk; rw [if_pos h, if_pos k, if_neg m]
theorem chk_ok {p r s a : Int} (h : 0 ≤ p ∧ p ≤ 4095 ∧ 0 ≤ r ∧ r ≤ 4095) (k : 0 ≤ s ∧ s ≤ 31) (m : 0 ≤ a ∧ a ≤ 7) : chk p r s a = 0 := by unfold chk; rw [if_pos h, if_pos k, if_pos m]
theorem chk_cases (p r s a : Int) : (∃ P R S A : Nat, p = P ∧ r = R ∧ s = S ∧ a = A ∧ P < 4096 ∧ R < 4096 ∧ S < 32 ∧ A < 8 ∧ chk p r s a = 0) ∨ (chk p r s a = 20 ∨ chk p r s a = 21 ∨ chk p r s a = 2) := by
  by_cases h : 0 ≤ p ∧ p ≤ 4095 ∧ 0 ≤ r ∧ r ≤ 4095
  · by_cases k : 0 ≤ s ∧ s ≤ 31
    · by_cases m : 0 ≤ a ∧ a ≤ 7
      · exact .inl ⟨p.toNat, r.toNat, s.toNat, a.toNat, by omega, by omega, by omega, by omega, by omega, by omega, by omega, by omega, chk_ok h k m⟩
      · exact .inr (.inr (.inr (chk_a h k m)))
    · exact .inr (.inr (.inl (chk_s h k)))
  · exact .inr (.inl (chk_p h))
theorem ne_nat {y x : Nat} (h : y ≠ x) : ((y : Int) != (x : Int)) = true := by simp; omega
theorem eq_nat {y x : Nat} (h : y = x) : ((y : Int) != (x : Int)) = false := by subst h; simp
attribute [irreducible] hw isH isF chk bn
theorem iswithin_any (n m : Int) (w : World) : Calls Tryz.prog 70 #[.int .i64 n, .int .i64 m] w fun e w' => e = .returned (.bool (decide (0 ≤ n ∧ n ≤ m))) ∧ w = w' := by
  by_cases c1 : 0 ≤ n
  · by_cases c2 : n ≤ m
    · rw [decide_eq_true (p := 0 ≤ n ∧ n ≤ m) ⟨c1, c2⟩]
      go_enter Tryz.func70, Tryz.ntmps70
      go_wp2_with fail
      go_ret
      exact ⟨rfl, rfl⟩
    · rw [decide_eq_false (p := 0 ≤ n ∧ n ≤ m) (fun h => c2 h.2)]
      go_enter Tryz.func70, Tryz.ntmps70
      go_wp2_with fail
      go_ret
      exact ⟨rfl, rfl⟩
  · rw [decide_eq_false (p := 0 ≤ n ∧ n ≤ m) (fun h => c1 h.1)]
    go_enter Tryz.func70, Tryz.ntmps70
    go_wp2_with fail
    go_ret
    exact ⟨rfl, rfl⟩

set_option maxRecDepth 100000 in
theorem check_parts (p r s a : Int) (l : Bool) (b1 b2 b3 b4 : Bool) (h1 : decide (0 ≤ p ∧ p ≤ 4095) = b1) (h2 : decide (0 ≤ r ∧ r ≤ 4095) = b2) (h3 : decide (0 ≤ s ∧ s ≤ 31) = b3) (h4 : decide (0 ≤ a ∧ a ≤ 7) = b4) (w : World) :
    Calls Tryz.prog 47 #[hd p r s a l] w fun e w' => e = .returned (.int .i64 (if b1 && b2 then (if b3 then (if b4 then 0 else 2) else 21) else 20)) ∧ w.alloc (hc p r s a l) = w' := by
  have W1 := fun w => iswithin_any p 4095 w
  have W2 := fun w => iswithin_any r 4095 w
  have W3 := fun w => iswithin_any s 31 w
  have W4 := fun w => iswithin_any a 7 w
  rw [h1] at W1
  rw [h2] at W2
  rw [h3] at W3
  rw [h4] at W4
  have H1 := Lib.hid W1
  have H2 := Lib.hid W2
  have H3 := Lib.hid W3
  have H4 := Lib.hid W4
  clear W1 W2 W3 W4 h1 h2 h3 h4
  have X : (b1 = false) ∨ (b1 = true ∧ b2 = false) ∨ (b1 = true ∧ b2 = true ∧ b3 = false) ∨ (b1 = true ∧ b2 = true ∧ b3 = true ∧ b4 = false) ∨ (b1 = true ∧ b2 = true ∧ b3 = true ∧ b4 = true) := by
    cases b1 <;> cases b2 <;> cases b3 <;> cases b4 <;> simp
  rcases X with rfl | ⟨rfl, rfl⟩ | ⟨rfl, rfl, rfl⟩ | ⟨rfl, rfl, rfl, rfl⟩ | ⟨rfl, rfl, rfl, rfl⟩
  all_goals
    go_enter Tryz.func47, Tryz.ntmps47
    go_wp2_with (go_at_call 70; (first | with_reducible refine (H1.out _).mono ?_ | with_reducible refine (H2.out _).mono ?_ | with_reducible refine (H3.out _).mono ?_ | with_reducible refine (H4.out _).mono ?_); rintro e w1 ⟨rfl, rfl⟩)
    go_ret
    exact ⟨rfl, rfl⟩
theorem check_any (p r s a : Int) (l : Bool) (w : World) :
    Calls Tryz.prog 47 #[hd p r s a l] w fun e w' => e = .returned (.int .i64 (chk p r s a)) ∧ w.alloc (hc p r s a l) = w' := by
  refine (check_parts p r s a l _ _ _ _ rfl rfl rfl rfl w).mono ?_
  rintro e w' ⟨rfl, rfl⟩
  refine ⟨?_, rfl⟩
  unfold chk
  congr 2
  simp only [Bool.and_eq_true, decide_eq_true_eq, and_assoc]

set_option maxRecDepth 100000 in
theorem words_any (P R S A : Nat) (l : Bool) (hP : P < 4096) (hR : R < 4096) (hS : S < 32) (hA : A < 8) (w : World) :
    Calls Tryz.prog 54 #[hd P R S A l] w fun e w' => e = .returned (.int .i64 (1 + (P : Int) + (R : Int))) ∧ Below w.heap.size w w' := by
  have C := Lib.hid (fun w => check_any P R S A l w)
  rw [chk_ok (by omega) (by omega) (by omega)] at C
  obtain ⟨x, hx⟩ : ∃ x : Int, 1 + (P : Int) = x := ⟨_, rfl⟩
  obtain ⟨y, hy⟩ : ∃ y : Int, x + (R : Int) = y := ⟨_, rfl⟩
  have s1 : IntKind.i64.wrap x = x := by rw [IntKind.wrap_i64]; omega
  have s2 : IntKind.i64.wrap y = y := by rw [IntKind.wrap_i64]; omega
  have t1 : wrap64 x = x := by unfold wrap64; omega
  have t2 : wrap64 y = y := by unfold wrap64; omega
  have E := Lib.hid (show 1 + (P : Int) + (R : Int) = y by omega)
  clear hP hR hS hA
  go_enter Tryz.func54, Tryz.ntmps54
  go_wp2_with (go_at_call 47; with_reducible refine (C.out _).mono ?_; rintro e w1 ⟨rfl, rfl⟩)
  go_ret
  exact ⟨by rw [E.out]; rfl, (by repeat (first | exact Below.refl _ _ | (with_reducible assumption) | refine bAlloc ?_ _ | refine below_drewN ?_ _ | refine Below.drew ?_ | (refine bSet ?_ (by first | (dsimp only; omega) | (simp; done) | (simp; omega)) _) | refine bTrans ?_ (by assumption)))⟩

end Go.Proofs.YtkbljgclflaokaaGreatDoor
