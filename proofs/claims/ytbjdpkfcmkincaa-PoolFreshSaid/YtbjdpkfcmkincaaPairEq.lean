/-
  Two arrays of two integers, compared.
-/
import Derived.Test.YtbjdpkfcmkincaaFreshP
import Derived.Laws.StructEq
import Derived.ChangeKeysEq
namespace Go.Proofs.Ytbjdpkfcmkincaa
open Go.RowKit
set_option linter.unusedVariables false

theorem cells_intP : Try.prog.cellsOf 3 = 1 := by kernel_rfl
theorem part_0 (x y : Value) (w : World) : (part 3 #[x, y] 0).run Try.prog w = .ok x w := by simp [part, Try.isAgg3]
theorem part_1 (x y : Value) (w : World) : (part 3 #[x, y] 1).run Try.prog w = .ok y w := by simp [part, Try.isAgg3]
theorem run_eql_pair (a b c d : Int) (w : World) : (binOp .eql 81 (.agg #[.int .i64 a, .int .i64 b]) (.agg #[.int .i64 c, .int .i64 d])).run Try.prog w = .ok (.bool ((a == c) && (b == d))) w := by
  obtain ⟨i, hi⟩ : ∃ i, Try.prog.info? 3 = some i := Option.isSome_iff_exists.1 (by kernel_rfl)
  rw [run_eql_struct, show (10000 : Nat) = 9999 + 1 from rfl, run_equalIn_array (w := w) 9999 _ _ Try.underlying81 hi]
  have e : List.range 2 = [0, 1] := rfl
  rw [e, cells_intP]
  simp only [Op.eqItems, Sem.run_bind, Nat.mul_one, part_0, Result.andThen_ok]
  rw [show (9999 : Nat) = 9998 + 1 from rfl, run_equalIn_int _ _ _ _ _ _ _ Try.underlying3]
  cases h : (a == c)
  · simp
  · simp only [Result.andThen_ok, Bool.not_true, Bool.false_eq_true, if_false, Bool.true_and, Sem.run_bind, part_1]
    rw [run_equalIn_int _ _ _ _ _ _ _ Try.underlying3]
    cases (b == d) <;> simp
end Go.Proofs.Ytbjdpkfcmkincaa
