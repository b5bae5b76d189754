/-
  Contracts of package ref and of haymowref11: each for any argument.
-/
import Derived.Test.YtkbljgclflaokaaGreatDoorChecked
import Derived.WalkKit
import Derived.RowKit3
import Derived.Below
import Derived.Lib.Hide
import Derived.WalkSmall
import Derived.WalkSpells
import Derived.StillTactics
import Derived.LoopTactic
import Derived.KernelRfl
import Derived.Outline
import Derived.Deep.Cut
import Derived.Deep.DeepCutAuto
import Derived.Deep.RegionHeld3
import Derived.Deep.QuietTactic
namespace Go.Proofs.YtkbljgclflaokaaGreatDoor
open Go.RowKit
set_option linter.unusedVariables false

/-- what an int may be -/
def Whole (n : Int) : Prop := -9223372036854775808 ≤ n ∧ n ≤ 9223372036854775807
/-- the kind of a word -/
def kd (x : Nat) : Nat := if x = 0 then 0 else if x % 2 = 1 ∧ x / 2 < 4194304 then 1 else if x % 2 = 0 ∧ x / 2 ≤ 1048576 then 2 else 3
/-- its number -/
def nr (x : Nat) : Nat := if kd x = 1 ∨ kd x = 2 then x / 2 else 0

theorem kd_zero : kd 0 = 0 := by unfold kd; rfl
theorem kd_small {x : Nat} (h1 : x % 2 = 1) (h2 : x / 2 < 4194304) : kd x = 1 := by unfold kd; rw [if_neg (by omega), if_pos ⟨h1, h2⟩]
theorem kd_large {x : Nat} (h0 : x ≠ 0) (h1 : x % 2 = 0) (h2 : x / 2 ≤ 1048576) : kd x = 2 := by unfold kd; rw [if_neg h0, if_neg (by omega), if_pos ⟨h1, h2⟩]
theorem kd_bad1 {x : Nat} (h1 : x % 2 = 1) (h2 : ¬ x / 2 < 4194304) : kd x = 3 := by unfold kd; rw [if_neg (by omega), if_neg (by omega), if_neg (by omega)]
theorem kd_bad2 {x : Nat} (h1 : x % 2 = 0) (h2 : ¬ x / 2 ≤ 1048576) : kd x = 3 := by unfold kd; rw [if_neg (by omega), if_neg (by omega), if_neg (by omega)]
theorem kd_le (x : Nat) : kd x = 0 ∨ kd x = 1 ∨ kd x = 2 ∨ kd x = 3 := by unfold kd; repeat' split
                                                                          all_goals simp
theorem nr_of {x : Nat} (h : kd x = 1 ∨ kd x = 2) : nr x = x / 2 := by unfold nr; rw [if_pos h]
theorem nr_no {x : Nat} (h : ¬ (kd x = 1 ∨ kd x = 2)) : nr x = 0 := by unfold nr; rw [if_neg h]
attribute [irreducible] kd nr
set_option maxRecDepth 100000 in
theorem tosmall_ok (n : Nat) (hn : n < 4194304) (w : World) : Calls Tryz.prog 52 #[.int .i64 (n : Int)] w fun e w' => e = .returned (.tuple #[.int .u64 ((2 * n + 1 : Nat) : Int), .int .i64 0]) ∧ w = w' := by
  have a1 : IntKind.u64.wrap (n : Int) = (n : Int) := by rw [IntKind.wrap_u64]; omega
  have a2 : IntKind.u64.wrap (2 * (n : Int)) = 2 * (n : Int) := by rw [IntKind.wrap_u64]; omega
  have a3 : IntKind.u64.wrap (2 * (n : Int) + 1) = 2 * (n : Int) + 1 := by rw [IntKind.wrap_u64]; omega
  have c1 : ¬ (n : Int) < 0 := by omega
  have c2 : ¬ (4194304 : Int) ≤ (n : Int) := by omega
  go_enter Tryz.func52, Tryz.ntmps52
  go_wp2_with fail
  go_ret2
  exact ⟨by first | rfl | go_num, rfl⟩
set_option maxRecDepth 100000 in
theorem tosmall_no (n : Int) (hn : n < 0 ∨ 4194304 ≤ n) (w : World) : Calls Tryz.prog 52 #[.int .i64 n] w fun e w' => e = .returned (.tuple #[.int .u64 0, .int .i64 2]) ∧ w = w' := by
  by_cases c1 : n < 0
  · clear hn
    go_enter Tryz.func52, Tryz.ntmps52
    go_wp2_with fail
    go_ret2
    exact ⟨rfl, rfl⟩
  · have c2 : (4194304 : Int) ≤ n := by omega
    clear hn
    go_enter Tryz.func52, Tryz.ntmps52
    go_wp2_with fail
    go_ret2
    exact ⟨rfl, rfl⟩
set_option maxRecDepth 100000 in
theorem tolarge_ok (n : Nat) (h0 : 1 ≤ n) (hn : n ≤ 1048576) (w : World) : Calls Tryz.prog 50 #[.int .i64 (n : Int)] w fun e w' => e = .returned (.tuple #[.int .u64 ((2 * n : Nat) : Int), .int .i64 0]) ∧ w = w' := by
  have a1 : IntKind.u64.wrap (n : Int) = (n : Int) := by rw [IntKind.wrap_u64]; omega
  have a2 : IntKind.u64.wrap (2 * (n : Int)) = 2 * (n : Int) := by rw [IntKind.wrap_u64]; omega
  have c1 : ¬ (n : Int) < 1 := by omega
  have c2 : ¬ (1048576 : Int) < (n : Int) := by omega
  go_enter Tryz.func50, Tryz.ntmps50
  go_wp2_with fail
  go_ret2
  exact ⟨by first | rfl | go_num, rfl⟩
set_option maxRecDepth 100000 in
theorem tolarge_no (n : Int) (hn : n < 1 ∨ 1048576 < n) (w : World) : Calls Tryz.prog 50 #[.int .i64 n] w fun e w' => e = .returned (.tuple #[.int .u64 0, .int .i64 2]) ∧ w = w' := by
  by_cases c1 : n < 1
  · clear hn
    go_enter Tryz.func50, Tryz.ntmps50
    go_wp2_with fail
    go_ret2
    exact ⟨rfl, rfl⟩
  · have c2 : (1048576 : Int) < n := by omega
    clear hn
    go_enter Tryz.func50, Tryz.ntmps50
    go_wp2_with fail
    go_ret2
    exact ⟨rfl, rfl⟩

set_option maxRecDepth 100000 in
theorem kind_any (x : Nat) (hx : x < 18446744073709551616) (w : World) : Calls Tryz.prog 28 #[.int .u64 (x : Int)] w fun e w' => e = .returned (.int .i64 (kd x : Nat)) ∧ w = w' := by
  have eq : (x : Int) / 2 = ((x / 2 : Nat) : Int) := by omega
  have em : (x : Int) % 2 = ((x % 2 : Nat) : Int) := by omega
  have wq : IntKind.u64.wrap ((x / 2 : Nat) : Int) = ((x / 2 : Nat) : Int) := by rw [IntKind.wrap_u64]; omega
  have wm : IntKind.u64.wrap ((x % 2 : Nat) : Int) = ((x % 2 : Nat) : Int) := by rw [IntKind.wrap_u64]; omega
  by_cases z : x = 0
  · subst z
    rw [kd_zero]
    clear eq em wq wm
    go_enter Tryz.func28, Tryz.ntmps28
    go_wp2_with fail
    go_ret
    exact ⟨rfl, rfl⟩
  have t0 : ((x : Int) == 0) = false := by simp; omega
  rcases Nat.mod_two_eq_zero_or_one x with m | m
  · have t1 : (((x % 2 : Nat) : Int) == 1) = false := by simp; omega
    by_cases c : x / 2 ≤ 1048576
    · have E := Lib.hid (kd_large z m c)
      have c3 : ((x / 2 : Nat) : Int) ≤ 1048576 := by omega
      clear z m c
      generalize x / 2 = q at *
      generalize x % 2 = r at *
      go_enter Tryz.func28, Tryz.ntmps28
      go_wp2_with fail
      go_ret
      exact ⟨by rw [E.out]; rfl, rfl⟩
    · have E := Lib.hid (kd_bad2 m c)
      have c3 : ¬ ((x / 2 : Nat) : Int) ≤ 1048576 := by omega
      clear z m c
      generalize x / 2 = q at *
      generalize x % 2 = r at *
      go_enter Tryz.func28, Tryz.ntmps28
      go_wp2_with fail
      go_ret
      exact ⟨by rw [E.out]; rfl, rfl⟩
  · have t1 : (((x % 2 : Nat) : Int) == 1) = true := by simp; omega
    by_cases c : x / 2 < 4194304
    · have E := Lib.hid (kd_small m c)
      have c3 : ((x / 2 : Nat) : Int) < 4194304 := by omega
      clear z m c
      generalize x / 2 = q at *
      generalize x % 2 = r at *
      go_enter Tryz.func28, Tryz.ntmps28
      go_wp2_with fail
      go_ret
      exact ⟨by rw [E.out]; rfl, rfl⟩
    · have E := Lib.hid (kd_bad1 m c)
      have c3 : ¬ ((x / 2 : Nat) : Int) < 4194304 := by omega
      clear z m c
      generalize x / 2 = q at *
      generalize x % 2 = r at *
      go_enter Tryz.func28, Tryz.ntmps28
      go_wp2_with fail
      go_ret
      exact ⟨by rw [E.out]; rfl, rfl⟩

set_option maxRecDepth 100000 in
theorem rat_any (x : Nat) (hx : x < 18446744073709551616) (w : World) : Calls Tryz.prog 32 #[.int .u64 (x : Int)] w fun e w' => e = .returned (.int .i64 (nr x : Nat)) ∧ w = w' := by
  have eq : (x : Int) / 2 = ((x / 2 : Nat) : Int) := by omega
  have wq : IntKind.u64.wrap ((x / 2 : Nat) : Int) = ((x / 2 : Nat) : Int) := by rw [IntKind.wrap_u64]; omega
  have wi : IntKind.i64.wrap ((x / 2 : Nat) : Int) = ((x / 2 : Nat) : Int) := by rw [IntKind.wrap_i64]; omega
  have K := Lib.hid (fun w => kind_any x hx w)
  have four := kd_le x
  have ny := Lib.hid (@nr_of x)
  have nn := Lib.hid (@nr_no x)
  clear hx
  generalize kd x = k at *
  generalize nr x = y at *
  generalize x / 2 = q at *
  rcases four with rfl | rfl | rfl | rfl
  · have E := Lib.hid (nn.out (by omega))
    clear nn ny
    go_enter Tryz.func32, Tryz.ntmps32
    go_wp2_with (go_at_call 28; refine (K.out _).mono ?_; rintro e w1 ⟨rfl, rfl⟩)
    go_ret
    exact ⟨by rw [E.out]; rfl, rfl⟩
  · have E := Lib.hid (ny.out (by omega))
    clear nn ny
    go_enter Tryz.func32, Tryz.ntmps32
    go_wp2_with (go_at_call 28; refine (K.out _).mono ?_; rintro e w1 ⟨rfl, rfl⟩)
    go_ret
    exact ⟨by rw [E.out]; rfl, rfl⟩
  · have E := Lib.hid (ny.out (by omega))
    clear nn ny
    go_enter Tryz.func32, Tryz.ntmps32
    go_wp2_with (go_at_call 28; refine (K.out _).mono ?_; rintro e w1 ⟨rfl, rfl⟩)
    go_ret
    exact ⟨by rw [E.out]; rfl, rfl⟩
  · have E := Lib.hid (nn.out (by omega))
    clear nn ny
    go_enter Tryz.func32, Tryz.ntmps32
    go_wp2_with (go_at_call 28; refine (K.out _).mono ?_; rintro e w1 ⟨rfl, rfl⟩)
    go_ret
    exact ⟨by rw [E.out]; rfl, rfl⟩

/-! ### the document's answers -/
/-! ### the chapter's examples -/
theorem awake_small (w : World) : Calls Tryz.prog 52 #[.int .i64 5] w fun e w' => e = .returned (.tuple #[.int .u64 11, .int .i64 0]) ∧ w = w' := tosmall_ok 5 (by omega) w
theorem awake_large (w : World) : Calls Tryz.prog 50 #[.int .i64 5] w fun e w' => e = .returned (.tuple #[.int .u64 10, .int .i64 0]) ∧ w = w' := tolarge_ok 5 (by omega) (by omega) w
theorem awake_kind (w : World) : Calls Tryz.prog 28 #[.int .u64 11] w fun e w' => e = .returned (.int .i64 1) ∧ w = w' := by
  have h := kind_any 11 (by omega) w
  rw [kd_small (by omega) (by omega)] at h
  exact h
end Go.Proofs.YtkbljgclflaokaaGreatDoor
