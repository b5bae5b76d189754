/-
  haymowref08.Write.
-/
import Derived.Test.YtibaloamgpcghaaRead08
namespace Go.Proofs.Ytibaloamgpcghaa
open Go.RowKit
set_option linter.unusedVariables false

end Go.Proofs.Ytibaloamgpcghaa
