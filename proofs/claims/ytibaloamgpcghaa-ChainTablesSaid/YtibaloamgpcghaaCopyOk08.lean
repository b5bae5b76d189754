/-
  haymowref08.Copy, where it copies.
-/
import Derived.Test.YtibaloamgpcghaaCopy08
namespace Go.Proofs.Ytibaloamgpcghaa
open Go.RowKit
set_option linter.unusedVariables false

end Go.Proofs.Ytibaloamgpcghaa
