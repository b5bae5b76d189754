/-
  haymowref08.Close.
-/
import Derived.Test.YtibaloamgpcghaaWrite08
namespace Go.Proofs.Ytibaloamgpcghaa
open Go.RowKit
set_option linter.unusedVariables false

end Go.Proofs.Ytibaloamgpcghaa
