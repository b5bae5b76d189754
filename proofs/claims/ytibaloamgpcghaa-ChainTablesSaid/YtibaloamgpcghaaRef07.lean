/-
  Contracts of package haymowref07, and of the law's kind.
-/
import Derived.Test.YtibaloamgpcghaaRef01b
import Derived.Test.YtibaloamgpcghaaMtr
namespace Go.Proofs.Ytibaloamgpcghaa
open Go.RowKit
set_option linter.unusedVariables false

/-- a state as the program has it -/
abbrev sv (a b : Nat) (h g : Int) : Value := .agg #[.int .u64 (hi a), .int .u64 (lo a), .int .u64 (hi b), .int .u64 (lo b), .int .i64 h, .int .i64 g]
/-! ### Step -/
theorem wrapu (t : Nat) (ht : t ≤ 9223372036854775807) : IntKind.u64.wrap (t : Int) = (t : Int) := by rw [IntKind.wrap_u64]; omega
end Go.Proofs.Ytibaloamgpcghaa
