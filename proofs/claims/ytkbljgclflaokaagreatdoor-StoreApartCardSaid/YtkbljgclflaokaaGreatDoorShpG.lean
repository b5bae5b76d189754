/-
  Contracts of shape.Slot, Cell. The header of a word that was packed.
-/
import Derived.Test.YtkbljgclflaokaaGreatDoorShp
import Derived.Test.YtkbljgclflaokaaGreatDoorHdrG
import Derived.Test.YtkbljgclflaokaaGreatDoorHdrP
namespace Go.Proofs.YtkbljgclflaokaaGreatDoor
open Go.RowKit
set_option linter.unusedVariables false

set_option maxRecDepth 100000 in
theorem slot_no (p r n : Int) (h : rt p r = false ∨ n < 0 ∨ p ≤ n) (w : World) : Calls Tryz.prog 41 #[sh p r, .int .i64 n] w fun e w' => e = .returned (.tuple #[.int .i64 0, .int .i64 32]) ∧ Below w.heap.size w w' := by
  have C := fun w => shright_any p r w
  cases hr : rt p r
  · rw [hr] at C
    have H := Lib.hid C
    clear C h hr
    go_enter Tryz.func41, Tryz.ntmps41
    go_wp2_with (go_at_call 53; (with_reducible refine (H.out _).mono ?_); rintro e w1 ⟨rfl, hb1⟩; obtain ⟨x0, x1⟩ := ((srow_alloc w p r).below hb1).scells)
    go_ret2
    exact ⟨rfl, (by repeat (first | exact Below.refl _ _ | (with_reducible assumption) | refine bAlloc ?_ _ | refine below_drewN ?_ _ | refine Below.drew ?_ | (refine bSet ?_ (by first | (dsimp only; omega) | (simp; done) | (simp; omega)) _) | refine bTrans ?_ (by assumption)))⟩
  · rw [hr] at C
    have h := h.resolve_left (by simp [hr])
    have H := Lib.hid C
    clear C hr
    by_cases c : n < 0
    · clear h
      go_enter Tryz.func41, Tryz.ntmps41
      go_wp2_with (go_at_call 53; (with_reducible refine (H.out _).mono ?_); rintro e w1 ⟨rfl, hb1⟩; obtain ⟨x0, x1⟩ := ((srow_alloc w p r).below hb1).scells)
      go_ret2
      exact ⟨rfl, (by repeat (first | exact Below.refl _ _ | (with_reducible assumption) | refine bAlloc ?_ _ | refine below_drewN ?_ _ | refine Below.drew ?_ | (refine bSet ?_ (by first | (dsimp only; omega) | (simp; done) | (simp; omega)) _) | refine bTrans ?_ (by assumption)))⟩
    · have h := h.resolve_left c
      go_enter Tryz.func41, Tryz.ntmps41
      go_wp2_with (go_at_call 53; (with_reducible refine (H.out _).mono ?_); rintro e w1 ⟨rfl, hb1⟩; obtain ⟨x0, x1⟩ := ((srow_alloc w p r).below hb1).scells)
      go_ret2
      exact ⟨rfl, (by repeat (first | exact Below.refl _ _ | (with_reducible assumption) | refine bAlloc ?_ _ | refine below_drewN ?_ _ | refine Below.drew ?_ | (refine bSet ?_ (by first | (dsimp only; omega) | (simp; done) | (simp; omega)) _) | refine bTrans ?_ (by assumption)))⟩

set_option maxRecDepth 100000 in
theorem slot_ok (p r n : Int) (hr : rt p r = true) (h0 : 0 ≤ n) (h1 : n < p) (w : World) : Calls Tryz.prog 41 #[sh p r, .int .i64 n] w fun e w' => e = .returned (.tuple #[.int .i64 (1 + n), .int .i64 0]) ∧ Below w.heap.size w w' := by
  have C := fun w => shright_any p r w
  have k := rt_yes hr
  rw [hr] at C
  have H := Lib.hid C
  have s1 : IntKind.i64.wrap (1 + n) = 1 + n := by rw [IntKind.wrap_i64]; omega
  have t1 : wrap64 (1 + n) = 1 + n := by unfold wrap64; omega
  clear C hr k
  go_enter Tryz.func41, Tryz.ntmps41
  go_wp2_with (go_at_call 53; (with_reducible refine (H.out _).mono ?_); rintro e w1 ⟨rfl, hb1⟩; obtain ⟨x0, x1⟩ := ((srow_alloc w p r).below hb1).scells)
  go_ret2
  exact ⟨rfl, (by repeat (first | exact Below.refl _ _ | (with_reducible assumption) | refine bAlloc ?_ _ | refine below_drewN ?_ _ | refine Below.drew ?_ | (refine bSet ?_ (by first | (dsimp only; omega) | (simp; done) | (simp; omega)) _) | refine bTrans ?_ (by assumption)))⟩

set_option maxRecDepth 100000 in
theorem cell_no (p r n : Int) (h : rt p r = false ∨ n < 0 ∨ r ≤ n) (w : World) : Calls Tryz.prog 43 #[sh p r, .int .i64 n] w fun e w' => e = .returned (.tuple #[.int .i64 0, .int .i64 32]) ∧ Below w.heap.size w w' := by
  have C := fun w => shright_any p r w
  cases hr : rt p r
  · rw [hr] at C
    have H := Lib.hid C
    clear C h hr
    go_enter Tryz.func43, Tryz.ntmps43
    go_wp2_with (go_at_call 53; (with_reducible refine (H.out _).mono ?_); rintro e w1 ⟨rfl, hb1⟩; obtain ⟨x0, x1⟩ := ((srow_alloc w p r).below hb1).scells)
    go_ret2
    exact ⟨rfl, (by repeat (first | exact Below.refl _ _ | (with_reducible assumption) | refine bAlloc ?_ _ | refine below_drewN ?_ _ | refine Below.drew ?_ | (refine bSet ?_ (by first | (dsimp only; omega) | (simp; done) | (simp; omega)) _) | refine bTrans ?_ (by assumption)))⟩
  · rw [hr] at C
    have h := h.resolve_left (by simp [hr])
    have H := Lib.hid C
    clear C hr
    by_cases c : n < 0
    · clear h
      go_enter Tryz.func43, Tryz.ntmps43
      go_wp2_with (go_at_call 53; (with_reducible refine (H.out _).mono ?_); rintro e w1 ⟨rfl, hb1⟩; obtain ⟨x0, x1⟩ := ((srow_alloc w p r).below hb1).scells)
      go_ret2
      exact ⟨rfl, (by repeat (first | exact Below.refl _ _ | (with_reducible assumption) | refine bAlloc ?_ _ | refine below_drewN ?_ _ | refine Below.drew ?_ | (refine bSet ?_ (by first | (dsimp only; omega) | (simp; done) | (simp; omega)) _) | refine bTrans ?_ (by assumption)))⟩
    · have h := h.resolve_left c
      go_enter Tryz.func43, Tryz.ntmps43
      go_wp2_with (go_at_call 53; (with_reducible refine (H.out _).mono ?_); rintro e w1 ⟨rfl, hb1⟩; obtain ⟨x0, x1⟩ := ((srow_alloc w p r).below hb1).scells)
      go_ret2
      exact ⟨rfl, (by repeat (first | exact Below.refl _ _ | (with_reducible assumption) | refine bAlloc ?_ _ | refine below_drewN ?_ _ | refine Below.drew ?_ | (refine bSet ?_ (by first | (dsimp only; omega) | (simp; done) | (simp; omega)) _) | refine bTrans ?_ (by assumption)))⟩

set_option maxRecDepth 100000 in
theorem cell_ok (p r n : Int) (hr : rt p r = true) (h0 : 0 ≤ n) (h1 : n < r) (w : World) : Calls Tryz.prog 43 #[sh p r, .int .i64 n] w fun e w' => e = .returned (.tuple #[.int .i64 (1 + p + n), .int .i64 0]) ∧ Below w.heap.size w w' := by
  have C := fun w => shright_any p r w
  have k := rt_yes hr
  rw [hr] at C
  have H := Lib.hid C
  have s1 : IntKind.i64.wrap (1 + p) = 1 + p := by rw [IntKind.wrap_i64]; omega
  have t1 : wrap64 (1 + p) = 1 + p := by unfold wrap64; omega
  have s2 : IntKind.i64.wrap (1 + p + n) = 1 + p + n := by rw [IntKind.wrap_i64]; omega
  have t2 : wrap64 (1 + p + n) = 1 + p + n := by unfold wrap64; omega
  clear C hr k
  go_enter Tryz.func43, Tryz.ntmps43
  go_wp2_with (go_at_call 53; (with_reducible refine (H.out _).mono ?_); rintro e w1 ⟨rfl, hb1⟩; obtain ⟨x0, x1⟩ := ((srow_alloc w p r).below hb1).scells)
  go_ret2
  exact ⟨rfl, (by repeat (first | exact Below.refl _ _ | (with_reducible assumption) | refine bAlloc ?_ _ | refine below_drewN ?_ _ | refine Below.drew ?_ | (refine bSet ?_ (by first | (dsimp only; omega) | (simp; done) | (simp; omega)) _) | refine bTrans ?_ (by assumption)))⟩

theorem hw_lt {P R S A : Nat} {l : Bool} (hP : P < 4096) (hR : R < 4096) (hS : S < 32) (hA : A < 8) : hw P R S A l < 18446744073709551616 := by
  unfold hw
  have := bn_le l
  omega
/-- Unpack of a header word -/
theorem unpack_hw (P R S A : Nat) (l : Bool) (hP : P < 4096) (hR : R < 4096) (hS : S < 32) (hA : A < 8) (w : World) (F : FT w) :
    Calls Tryz.prog 39 #[.int .u64 (hw P R S A l : Nat)] w fun e w' => e = .returned (.tuple #[hd P R S A l, .int .i64 0]) ∧ Below w.heap.size w w' := by
  have hb := bn_le l
  refine unpack_yes (hw P R S A l) P R S A (bn l) l (hw_lt hP hR hS hA) ?_ ?_ ?_ ?_ ?_ ?_ ?_ ?_ w F
  · rw [g8]; unfold hw; omega
  · rw [g5]; unfold hw; omega
  · rw [g0]; unfold hw; omega
  · rw [g1]; unfold hw; omega
  · rw [g2]; unfold hw; omega
  · rw [g3]; unfold hw; omega
  · rw [g4]; unfold hw; omega
  · cases l <;> (unfold bn; rfl)
end Go.Proofs.YtkbljgclflaokaaGreatDoor
