/-
  haymowref08.Grow, where it answers an errno.
-/
import Derived.Test.YtibaloamgpcghaaWrite08
namespace Go.Proofs.Ytibaloamgpcghaa
open Go.RowKit
set_option linter.unusedVariables false

end Go.Proofs.Ytibaloamgpcghaa
