/-
  haymowref12.Unpack: the header that a word is, if it is one.
-/
import Derived.Test.YtkbljgclflaokaaGreatDoorHdr
namespace Go.Proofs.YtkbljgclflaokaaGreatDoor
open Go.RowKit
set_option linter.unusedVariables false

theorem wu {n : Nat} (h : n < 18446744073709551616) : IntKind.u64.wrap (n : Int) = (n : Int) := by rw [IntKind.wrap_u64]; omega
theorem wi {n : Nat} (h : n < 4096) : IntKind.i64.wrap (n : Int) = (n : Int) := by rw [IntKind.wrap_i64]; omega
theorem wj {n : Nat} (h : n < 4096) : wrap64 (n : Int) = (n : Int) := by unfold wrap64; omega
theorem isone (n : Nat) : ((n : Int) == 1) = decide (n = 1) := by rw [Bool.eq_iff_iff]; simp; omega
end Go.Proofs.YtkbljgclflaokaaGreatDoor
