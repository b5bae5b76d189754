/-
  Contracts of package meter: the counters.
-/
import Derived.Test.YtibaloamgpcghaaMeter
namespace Go.Proofs.Ytibaloamgpcghaa
open Go.RowKit
set_option linter.unusedVariables false

/-! ### Of -/
/-! ### Steps -/
end Go.Proofs.Ytibaloamgpcghaa
