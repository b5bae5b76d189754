/-
  Headers in plain numbers; contracts of the parts of package header that call no field, and of haymowref12: each for any argument.
-/
import Derived.Test.YtcfdjbjfnciifaaDoorFld
import Derived.WalkKit
import Derived.RowKit3
import Derived.Below
import Derived.Lib.Hide
import Derived.WalkSmall
import Derived.WalkSpells
import Derived.StillTactics
import Derived.LoopTactic
import Derived.KernelRfl
import Derived.Outline
import Derived.Deep.Cut
import Derived.Deep.DeepCutAuto
import Derived.Deep.RegionHeld3
import Derived.Deep.QuietTactic
import Derived.BigQuiet
namespace Go.Proofs.YtcfdjbjfnciifaaDoor
open Go.RowKit
set_option linter.unusedVariables false

/-- a header as the program has it -/
abbrev hd (p r s a : Int) (l : Bool) : Value := .agg #[.int .i64 p, .int .i64 r, .int .i64 s, .int .i64 a, .bool l]
abbrev hc (p r s a : Int) (l : Bool) : Obj := .cells #[.int .i64 p, .int .i64 r, .int .i64 s, .int .i64 a, .bool l] 25
def bn (l : Bool) : Nat := if l then 1 else 0
/-- the word of a header -/
def hw (P R S A : Nat) (l : Bool) : Nat := 4611686018427387904 + bn l * 4294967296 + A * 536870912 + S * 16777216 + R * 4096 + P
/-- is a word a header's? -/
def isH (x : Nat) : Bool := decide (x / 4611686018427387904 = 1 ∧ x / 8589934592 % 536870912 = 0)
/-- is a word that of a moved object? -/
def isF (x : Nat) : Bool := decide (x / 4611686018427387904 = 2 ∧ x / 4194304 % 1099511627776 = 0)
theorem bn_cases (l : Bool) : (l = true ∧ bn l = 1) ∨ (l = false ∧ bn l = 0) := by cases l <;> simp [bn]
theorem bn_le (l : Bool) : bn l ≤ 1 := by cases l <;> simp [bn]
theorem bn_of (n : Nat) (h : n < 2) : bn (decide (n = 1)) = n := by
  have : n = 0 ∨ n = 1 := by omega
  rcases this with rfl | rfl <;> rfl
theorem isH_hw {P R S A : Nat} {l : Bool} (hP : P < 4096) (hR : R < 4096) (hS : S < 32) (hA : A < 8) : isH (hw P R S A l) = true ∧ hw P R S A l % 4096 = P ∧ hw P R S A l / 4096 % 4096 = R ∧ hw P R S A l / 16777216 % 32 = S ∧ hw P R S A l / 536870912 % 8 = A ∧ hw P R S A l / 4294967296 % 2 = bn l ∧ hw P R S A l < 9223372036854775808 := by
  unfold isH hw
  have := bn_le l
  generalize bn l = L at *
  refine ⟨decide_eq_true ⟨by omega, by omega⟩, by omega, by omega, by omega, by omega, by omega, by omega⟩
theorem hw_of {x : Nat} (hx : x < 18446744073709551616) (h : isH x = true) : hw (x % 4096) (x / 4096 % 4096) (x / 16777216 % 32) (x / 536870912 % 8) (decide (x / 4294967296 % 2 = 1)) = x := by
  unfold isH at h
  have ⟨h1, h2⟩ := of_decide_eq_true h
  unfold hw
  rw [bn_of _ (by omega)]
  omega
theorem hw_not {x : Nat} (hx : x < 18446744073709551616) (h : isH x = false) : hw (x % 4096) (x / 4096 % 4096) (x / 16777216 % 32) (x / 536870912 % 8) (decide (x / 4294967296 % 2 = 1)) ≠ x := by
  intro e
  have k := (isH_hw (P := x % 4096) (R := x / 4096 % 4096) (S := x / 16777216 % 32) (A := x / 536870912 % 8) (l := decide (x / 4294967296 % 2 = 1)) (by omega) (by omega) (by omega) (by omega)).1
  rw [e, h] at k; cases k
theorem isF_iff {x : Nat} (hx : x < 18446744073709551616) : isF x = decide (9223372036854775808 ≤ x ∧ x - 9223372036854775808 < 4194304) := by
  unfold isF
  apply Bool.eq_iff_iff.2
  rw [decide_eq_true_iff, decide_eq_true_iff]
  omega
theorem isF_isH {x : Nat} (h : isF x = true) : isH x = false := by
  unfold isF at h
  unfold isH
  have ⟨h1, _⟩ := of_decide_eq_true h
  exact decide_eq_false (by omega)
/-- what a header is refused for: 20, 21, 2; 0: it may be -/
def chk (p r s a : Int) : Int := if 0 ≤ p ∧ p ≤ 4095 ∧ 0 ≤ r ∧ r ≤ 4095 then (if 0 ≤ s ∧ s ≤ 31 then (if 0 ≤ a ∧ a ≤ 7 then 0 else 2) else 21) else 20
theorem chk_p {p r s a : Int} (h : ¬ (0 ≤ p ∧ p ≤ 4095 ∧ 0 ≤ r ∧ r ≤ 4095)) : chk p r s a = 20 := if_neg h
theorem chk_s {p r s a : Int} (h : 0 ≤ p ∧ p ≤ 4095 ∧ 0 ≤ r ∧ r ≤ 4095) (k : ¬ (0 ≤ s ∧ s ≤ 31)) : chk p r s a = 21 := by unfold chk; rw [if_pos h, if_neg k]
theorem chk_a {p r s a : Int} (h : 0 ≤ p ∧ p ≤ 4095 ∧ 0 ≤ r ∧ r ≤ 4095) (k : 0 ≤ s ∧ s ≤ 31) (m : ¬ (0 ≤ a ∧ a ≤ 7)) : chk p r s a = 2 := by unfold chk; rw [if_pos h, if_pos k, if_neg m]
theorem chk_ok {p r s a : Int} (h : 0 ≤ p ∧ p ≤ 4095 ∧ 0 ≤ r ∧ r ≤ 4095) (k : 0 ≤ s ∧ s ≤ 31) (m : 0 ≤ a ∧ a ≤ 7) : chk p r s a = 0 := by unfold chk; rw [if_pos h, if_pos k, if_pos m]
theorem chk_cases (p r s a : Int) : (∃ P R S A : Nat, p = P ∧ r = R ∧ s = S ∧ a = A ∧ P < 4096 ∧ R < 4096 ∧ S < 32 ∧ A < 8 ∧ chk p r s a = 0) ∨ (chk p r s a = 20 ∨ chk p r s a = 21 ∨ chk p r s a = 2) := by
  by_cases h : 0 ≤ p ∧ p ≤ 4095 ∧ 0 ≤ r ∧ r ≤ 4095
  · by_cases k : 0 ≤ s ∧ s ≤ 31
    · by_cases m : 0 ≤ a ∧ a ≤ 7
      · exact .inl ⟨p.toNat, r.toNat, s.toNat, a.toNat, by omega, by omega, by omega, by omega, by omega, by omega, by omega, by omega, chk_ok h k m⟩
      · exact .inr (.inr (.inr (chk_a h k m)))
    · exact .inr (.inr (.inl (chk_s h k)))
  · exact .inr (.inl (chk_p h))
theorem ne_nat {y x : Nat} (h : y ≠ x) : ((y : Int) != (x : Int)) = true := by simp; omega
theorem eq_nat {y x : Nat} (h : y = x) : ((y : Int) != (x : Int)) = false := by subst h; simp
attribute [irreducible] hw isH isF chk bn
theorem iswithin_any (n m : Int) (w : World) : Calls Tryd.prog 20 #[.int .i64 n, .int .i64 m] w fun e w' => e = .returned (.bool (decide (0 ≤ n ∧ n ≤ m))) ∧ w = w' := by
  by_cases c1 : 0 ≤ n
  · by_cases c2 : n ≤ m
    · rw [decide_eq_true (p := 0 ≤ n ∧ n ≤ m) ⟨c1, c2⟩]
      go_enter Tryd.func20, Tryd.ntmps20
      go_wp2_with fail
      go_ret
      exact ⟨rfl, rfl⟩
    · rw [decide_eq_false (p := 0 ≤ n ∧ n ≤ m) (fun h => c2 h.2)]
      go_enter Tryd.func20, Tryd.ntmps20
      go_wp2_with fail
      go_ret
      exact ⟨rfl, rfl⟩
  · rw [decide_eq_false (p := 0 ≤ n ∧ n ≤ m) (fun h => c1 h.1)]
    go_enter Tryd.func20, Tryd.ntmps20
    go_wp2_with fail
    go_ret
    exact ⟨rfl, rfl⟩

set_option maxRecDepth 100000 in
theorem check_parts (p r s a : Int) (l : Bool) (b1 b2 b3 b4 : Bool) (h1 : decide (0 ≤ p ∧ p ≤ 4095) = b1) (h2 : decide (0 ≤ r ∧ r ≤ 4095) = b2) (h3 : decide (0 ≤ s ∧ s ≤ 31) = b3) (h4 : decide (0 ≤ a ∧ a ≤ 7) = b4) (w : World) :
    Calls Tryd.prog 9 #[hd p r s a l] w fun e w' => e = .returned (.int .i64 (if b1 && b2 then (if b3 then (if b4 then 0 else 2) else 21) else 20)) ∧ w.alloc (hc p r s a l) = w' := by
  have W1 := fun w => iswithin_any p 4095 w
  have W2 := fun w => iswithin_any r 4095 w
  have W3 := fun w => iswithin_any s 31 w
  have W4 := fun w => iswithin_any a 7 w
  rw [h1] at W1
  rw [h2] at W2
  rw [h3] at W3
  rw [h4] at W4
  have H1 := Lib.hid W1
  have H2 := Lib.hid W2
  have H3 := Lib.hid W3
  have H4 := Lib.hid W4
  clear W1 W2 W3 W4 h1 h2 h3 h4
  have X : (b1 = false) ∨ (b1 = true ∧ b2 = false) ∨ (b1 = true ∧ b2 = true ∧ b3 = false) ∨ (b1 = true ∧ b2 = true ∧ b3 = true ∧ b4 = false) ∨ (b1 = true ∧ b2 = true ∧ b3 = true ∧ b4 = true) := by
    cases b1 <;> cases b2 <;> cases b3 <;> cases b4 <;> simp
  rcases X with rfl | ⟨rfl, rfl⟩ | ⟨rfl, rfl, rfl⟩ | ⟨rfl, rfl, rfl, rfl⟩ | ⟨rfl, rfl, rfl, rfl⟩
  all_goals
    go_enter Tryd.func9, Tryd.ntmps9
    go_wp2_with (go_at_call 20; (first | with_reducible refine (H1.out _).mono ?_ | with_reducible refine (H2.out _).mono ?_ | with_reducible refine (H3.out _).mono ?_ | with_reducible refine (H4.out _).mono ?_); rintro e w1 ⟨rfl, rfl⟩)
    go_ret
    exact ⟨rfl, rfl⟩
theorem check_any (p r s a : Int) (l : Bool) (w : World) :
    Calls Tryd.prog 9 #[hd p r s a l] w fun e w' => e = .returned (.int .i64 (chk p r s a)) ∧ w.alloc (hc p r s a l) = w' := by
  refine (check_parts p r s a l _ _ _ _ rfl rfl rfl rfl w).mono ?_
  rintro e w' ⟨rfl, rfl⟩
  refine ⟨?_, rfl⟩
  unfold chk
  congr 2
  simp only [Bool.and_eq_true, decide_eq_true_eq, and_assoc]

set_option maxHeartbeats 1000000 in
set_option maxRecDepth 100000 in
theorem refcheck_any (p r s a : Int) (l : Bool) (w : World) :
    Calls Tryd.prog 7 #[hd p r s a l] w fun e w' => e = .returned (.int .i64 (chk p r s a)) ∧ Below w.heap.size w w' := by
  by_cases c1 : p < 0
  · rw [chk_p (by omega)]
    go_enter Tryd.func7, Tryd.ntmps7
    go_wp2_with fail
    go_quiet (fail)
    go_wp2_with fail
    go_ret
    exact ⟨rfl, (by repeat (first | exact Below.refl _ _ | (with_reducible assumption) | refine bAlloc ?_ _ | refine below_drewN ?_ _ | refine Below.drew ?_ | (refine bSet ?_ (by first | (dsimp only; omega) | (simp; done) | (simp; omega)) _) | refine bTrans ?_ (by assumption)))⟩
  by_cases c2 : 4095 < p
  · rw [chk_p (by omega)]
    go_enter Tryd.func7, Tryd.ntmps7
    go_wp2_with fail
    go_quiet (fail)
    go_wp2_with fail
    go_ret
    exact ⟨rfl, (by repeat (first | exact Below.refl _ _ | (with_reducible assumption) | refine bAlloc ?_ _ | refine below_drewN ?_ _ | refine Below.drew ?_ | (refine bSet ?_ (by first | (dsimp only; omega) | (simp; done) | (simp; omega)) _) | refine bTrans ?_ (by assumption)))⟩
  by_cases c3 : r < 0
  · rw [chk_p (by omega)]
    go_enter Tryd.func7, Tryd.ntmps7
    go_wp2_with fail
    go_quiet (fail)
    go_wp2_with fail
    go_ret
    exact ⟨rfl, (by repeat (first | exact Below.refl _ _ | (with_reducible assumption) | refine bAlloc ?_ _ | refine below_drewN ?_ _ | refine Below.drew ?_ | (refine bSet ?_ (by first | (dsimp only; omega) | (simp; done) | (simp; omega)) _) | refine bTrans ?_ (by assumption)))⟩
  by_cases c4 : 4095 < r
  · rw [chk_p (by omega)]
    go_enter Tryd.func7, Tryd.ntmps7
    go_wp2_with fail
    go_quiet (fail)
    go_wp2_with fail
    go_ret
    exact ⟨rfl, (by repeat (first | exact Below.refl _ _ | (with_reducible assumption) | refine bAlloc ?_ _ | refine below_drewN ?_ _ | refine Below.drew ?_ | (refine bSet ?_ (by first | (dsimp only; omega) | (simp; done) | (simp; omega)) _) | refine bTrans ?_ (by assumption)))⟩
  by_cases c5 : s < 0
  · rw [chk_s (by omega) (by omega)]
    go_enter Tryd.func7, Tryd.ntmps7
    go_wp2_with fail
    go_quiet (fail)
    go_wp2_with fail
    go_ret
    exact ⟨rfl, (by repeat (first | exact Below.refl _ _ | (with_reducible assumption) | refine bAlloc ?_ _ | refine below_drewN ?_ _ | refine Below.drew ?_ | (refine bSet ?_ (by first | (dsimp only; omega) | (simp; done) | (simp; omega)) _) | refine bTrans ?_ (by assumption)))⟩
  by_cases c6 : 31 < s
  · rw [chk_s (by omega) (by omega)]
    go_enter Tryd.func7, Tryd.ntmps7
    go_wp2_with fail
    go_quiet (fail)
    go_wp2_with fail
    go_ret
    exact ⟨rfl, (by repeat (first | exact Below.refl _ _ | (with_reducible assumption) | refine bAlloc ?_ _ | refine below_drewN ?_ _ | refine Below.drew ?_ | (refine bSet ?_ (by first | (dsimp only; omega) | (simp; done) | (simp; omega)) _) | refine bTrans ?_ (by assumption)))⟩
  by_cases c7 : a < 0
  · rw [chk_a (by omega) (by omega) (by omega)]
    go_enter Tryd.func7, Tryd.ntmps7
    go_wp2_with fail
    go_quiet (fail)
    go_wp2_with fail
    go_ret
    exact ⟨rfl, (by repeat (first | exact Below.refl _ _ | (with_reducible assumption) | refine bAlloc ?_ _ | refine below_drewN ?_ _ | refine Below.drew ?_ | (refine bSet ?_ (by first | (dsimp only; omega) | (simp; done) | (simp; omega)) _) | refine bTrans ?_ (by assumption)))⟩
  by_cases c8 : 7 < a
  · rw [chk_a (by omega) (by omega) (by omega)]
    go_enter Tryd.func7, Tryd.ntmps7
    go_wp2_with fail
    go_quiet (fail)
    go_wp2_with fail
    go_ret
    exact ⟨rfl, (by repeat (first | exact Below.refl _ _ | (with_reducible assumption) | refine bAlloc ?_ _ | refine below_drewN ?_ _ | refine Below.drew ?_ | (refine bSet ?_ (by first | (dsimp only; omega) | (simp; done) | (simp; omega)) _) | refine bTrans ?_ (by assumption)))⟩
  rw [chk_ok (by omega) (by omega) (by omega)]
  go_enter Tryd.func7, Tryd.ntmps7
  go_wp2_with fail
  go_quiet (fail)
  go_wp2_with fail
  go_ret
  exact ⟨rfl, (by repeat (first | exact Below.refl _ _ | (with_reducible assumption) | refine bAlloc ?_ _ | refine below_drewN ?_ _ | refine Below.drew ?_ | (refine bSet ?_ (by first | (dsimp only; omega) | (simp; done) | (simp; omega)) _) | refine bTrans ?_ (by assumption)))⟩

set_option maxRecDepth 100000 in
theorem refpack_any (P R S A : Nat) (l : Bool) (hP : P < 4096) (hR : R < 4096) (hS : S < 32) (hA : A < 8) (w : World) :
    Calls Tryd.prog 12 #[hd P R S A l] w fun e w' => e = .returned (.int .u64 (hw P R S A l : Nat)) ∧ w.alloc (hc P R S A l) = w' := by
  have uP : IntKind.u64.wrap (P : Int) = P := by rw [IntKind.wrap_u64]; omega
  have uR : IntKind.u64.wrap (R : Int) = R := by rw [IntKind.wrap_u64]; omega
  have uS : IntKind.u64.wrap (S : Int) = S := by rw [IntKind.wrap_u64]; omega
  have uA : IntKind.u64.wrap (A : Int) = A := by rw [IntKind.wrap_u64]; omega
  have mR : IntKind.u64.wrap ((R : Int) * 4096) = (R : Int) * 4096 := by rw [IntKind.wrap_u64]; omega
  have mS : IntKind.u64.wrap ((S : Int) * 16777216) = (S : Int) * 16777216 := by rw [IntKind.wrap_u64]; omega
  have mA : IntKind.u64.wrap ((A : Int) * 536870912) = (A : Int) * 536870912 := by rw [IntKind.wrap_u64]; omega
  cases l
  · have E := Lib.hid (show ((hw P R S A false : Nat) : Int) = 4611686018427387904 + (A : Int) * 536870912 + (S : Int) * 16777216 + (R : Int) * 4096 + (P : Int) by unfold hw bn; simp)
    have s1 : IntKind.u64.wrap (4611686018427387904 + (A : Int) * 536870912) = 4611686018427387904 + (A : Int) * 536870912 := by rw [IntKind.wrap_u64]; omega
    have s2 : IntKind.u64.wrap (4611686018427387904 + (A : Int) * 536870912 + (S : Int) * 16777216) = 4611686018427387904 + (A : Int) * 536870912 + (S : Int) * 16777216 := by rw [IntKind.wrap_u64]; omega
    have s3 : IntKind.u64.wrap (4611686018427387904 + (A : Int) * 536870912 + (S : Int) * 16777216 + (R : Int) * 4096) = 4611686018427387904 + (A : Int) * 536870912 + (S : Int) * 16777216 + (R : Int) * 4096 := by rw [IntKind.wrap_u64]; omega
    have s4 : IntKind.u64.wrap (4611686018427387904 + (A : Int) * 536870912 + (S : Int) * 16777216 + (R : Int) * 4096 + (P : Int)) = 4611686018427387904 + (A : Int) * 536870912 + (S : Int) * 16777216 + (R : Int) * 4096 + (P : Int) := by rw [IntKind.wrap_u64]; omega
    clear hP hR hS hA
    go_enter Tryd.func12, Tryd.ntmps12
    go_wp2_with fail
    go_ret
    exact ⟨by rw [E.out]; rfl, rfl⟩
  · have E := Lib.hid (show ((hw P R S A true : Nat) : Int) = 4611686022722355200 + (A : Int) * 536870912 + (S : Int) * 16777216 + (R : Int) * 4096 + (P : Int) by unfold hw bn; simp)
    have s1 : IntKind.u64.wrap (4611686022722355200 + (A : Int) * 536870912) = 4611686022722355200 + (A : Int) * 536870912 := by rw [IntKind.wrap_u64]; omega
    have s2 : IntKind.u64.wrap (4611686022722355200 + (A : Int) * 536870912 + (S : Int) * 16777216) = 4611686022722355200 + (A : Int) * 536870912 + (S : Int) * 16777216 := by rw [IntKind.wrap_u64]; omega
    have s3 : IntKind.u64.wrap (4611686022722355200 + (A : Int) * 536870912 + (S : Int) * 16777216 + (R : Int) * 4096) = 4611686022722355200 + (A : Int) * 536870912 + (S : Int) * 16777216 + (R : Int) * 4096 := by rw [IntKind.wrap_u64]; omega
    have s4 : IntKind.u64.wrap (4611686022722355200 + (A : Int) * 536870912 + (S : Int) * 16777216 + (R : Int) * 4096 + (P : Int)) = 4611686022722355200 + (A : Int) * 536870912 + (S : Int) * 16777216 + (R : Int) * 4096 + (P : Int) := by rw [IntKind.wrap_u64]; omega
    clear hP hR hS hA
    go_enter Tryd.func12, Tryd.ntmps12
    go_wp2_with fail
    go_ret
    exact ⟨by rw [E.out]; rfl, rfl⟩

set_option maxRecDepth 100000 in
theorem words_any (P R S A : Nat) (l : Bool) (hP : P < 4096) (hR : R < 4096) (hS : S < 32) (hA : A < 8) (w : World) :
    Calls Tryd.prog 14 #[hd P R S A l] w fun e w' => e = .returned (.int .i64 (1 + (P : Int) + (R : Int))) ∧ Below w.heap.size w w' := by
  have C := Lib.hid (fun w => check_any P R S A l w)
  rw [chk_ok (by omega) (by omega) (by omega)] at C
  obtain ⟨x, hx⟩ : ∃ x : Int, 1 + (P : Int) = x := ⟨_, rfl⟩
  obtain ⟨y, hy⟩ : ∃ y : Int, x + (R : Int) = y := ⟨_, rfl⟩
  have s1 : IntKind.i64.wrap x = x := by rw [IntKind.wrap_i64]; omega
  have s2 : IntKind.i64.wrap y = y := by rw [IntKind.wrap_i64]; omega
  have t1 : wrap64 x = x := by unfold wrap64; omega
  have t2 : wrap64 y = y := by unfold wrap64; omega
  have E := Lib.hid (show 1 + (P : Int) + (R : Int) = y by omega)
  clear hP hR hS hA
  go_enter Tryd.func14, Tryd.ntmps14
  go_wp2_with (go_at_call 9; with_reducible refine (C.out _).mono ?_; rintro e w1 ⟨rfl, rfl⟩)
  go_ret
  exact ⟨by rw [E.out]; rfl, (by repeat (first | exact Below.refl _ _ | (with_reducible assumption) | refine bAlloc ?_ _ | refine below_drewN ?_ _ | refine Below.drew ?_ | (refine bSet ?_ (by first | (dsimp only; omega) | (simp; done) | (simp; omega)) _) | refine bTrans ?_ (by assumption)))⟩

set_option maxRecDepth 100000 in
theorem refolder_any (P R S A : Nat) (l : Bool) (hA : A < 8) (w : World) :
    Calls Tryd.prog 13 #[hd P R S A l] w fun e w' => e = .returned (hd P R S (min (A + 1) 7 : Nat) l) ∧ Below w.heap.size w w' := by
  by_cases c : A < 7
  · have e : min (A + 1) 7 = A + 1 := by omega
    rw [e]
    have c' : (A : Int) < 7 := by omega
    have s1 : wrap64 ((A : Int) + 1) = (A : Int) + 1 := by unfold wrap64; omega
    clear hA c e
    go_enter Tryd.func13, Tryd.ntmps13
    go_wp2_with fail
    exact bodyPost_ret (v := hd P R S _ l) (by simp [results, Tryd.results13, go_sem]) rfl ⟨rfl, (by repeat (first | exact Below.refl _ _ | (with_reducible assumption) | refine bAlloc ?_ _ | refine below_drewN ?_ _ | refine Below.drew ?_ | (refine bSet ?_ (by first | (dsimp only; omega) | (simp; done) | (simp; omega)) _) | refine bTrans ?_ (by assumption)))⟩
  · obtain rfl : A = 7 := by omega
    rw [show min (7 + 1) 7 = 7 from rfl]
    clear hA c
    go_enter Tryd.func13, Tryd.ntmps13
    go_wp2_with fail
    exact bodyPost_ret (v := hd P R S _ l) (by simp [results, Tryd.results13, go_sem]) rfl ⟨rfl, (by repeat (first | exact Below.refl _ _ | (with_reducible assumption) | refine bAlloc ?_ _ | refine below_drewN ?_ _ | refine Below.drew ?_ | (refine bSet ?_ (by first | (dsimp only; omega) | (simp; done) | (simp; omega)) _) | refine bTrans ?_ (by assumption)))⟩

set_option maxRecDepth 100000 in
theorem refforw_any (x : Nat) (hx : x < 18446744073709551616) (n : Nat) (hn : n = if isF x then x % 4194304 else 0) (w : World) :
    Calls Tryd.prog 17 #[.int .u64 (x : Int)] w fun e w' => e = .returned (.tuple #[.int .i64 (n : Int), .bool (isF x)]) ∧ w = w' := by
  have E := isF_iff hx
  by_cases c : x < 9223372036854775808
  · rw [decide_eq_false (p := 9223372036854775808 ≤ x ∧ x - 9223372036854775808 < 4194304) (by omega)] at E
    rw [E] at hn ⊢
    obtain rfl : n = 0 := hn
    have c' : (x : Int) < 9223372036854775808 := by omega
    clear hx c E
    go_enter Tryd.func17, Tryd.ntmps17
    go_wp2_with fail
    go_ret2
    exact ⟨rfl, rfl⟩
  · obtain ⟨y, hy⟩ : ∃ y, x = 9223372036854775808 + y := ⟨x - 9223372036854775808, by omega⟩
    have q : IntKind.u64.wrap ((x : Int) - 9223372036854775808) = (y : Int) := by rw [IntKind.wrap_u64]; omega
    have c' : ¬ (x : Int) < 9223372036854775808 := by omega
    by_cases d : y < 4194304
    · rw [decide_eq_true (p := 9223372036854775808 ≤ x ∧ x - 9223372036854775808 < 4194304) (by omega)] at E
      rw [E, if_pos rfl] at hn
      rw [E]
      obtain rfl : n = y := by omega
      have d' : ¬ 4194304 ≤ (n : Int) := by omega
      have i : IntKind.i64.wrap (n : Int) = (n : Int) := by rw [IntKind.wrap_i64]; omega
      have i2 : wrap64 (n : Int) = (n : Int) := by unfold wrap64; omega
      clear hx c E d hn hy
      go_enter Tryd.func17, Tryd.ntmps17
      go_wp2_with fail
      go_ret2
      exact ⟨rfl, rfl⟩
    · rw [decide_eq_false (p := 9223372036854775808 ≤ x ∧ x - 9223372036854775808 < 4194304) (by omega)] at E
      rw [E] at hn ⊢
      obtain rfl : n = 0 := hn
      have d' : 4194304 ≤ (y : Int) := by omega
      clear hx c E d hy
      go_enter Tryd.func17, Tryd.ntmps17
      go_wp2_with fail
      go_ret2
      exact ⟨rfl, rfl⟩

end Go.Proofs.YtcfdjbjfnciifaaDoor
