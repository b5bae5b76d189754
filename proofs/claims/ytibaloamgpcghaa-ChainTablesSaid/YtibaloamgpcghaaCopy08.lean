/-
  haymowref08.Copy, where it answers an errno.
-/
import Derived.Test.YtibaloamgpcghaaZero08
namespace Go.Proofs.Ytibaloamgpcghaa
open Go.RowKit
set_option linter.unusedVariables false

end Go.Proofs.Ytibaloamgpcghaa
