/-
  Contracts of package haymowref01.
-/
import Derived.Test.YtibaloamgpcghaaWide
import Derived.Test.YtibaloamgpcghaaRow
import Derived.LoopTactic
import Derived.Deep.QuietTactic
import Derived.BigQuiet
import Derived.WalkSmall
import Derived.Deep.RegionWith
import Derived.Deep.RegionHeld3
import Derived.Deep.DeepCutAuto
import Derived.Deep.CutBlock
namespace Go.Proofs.Ytibaloamgpcghaa
open Go.RowKit
set_option linter.unusedVariables false

/-- the four parts of a number -/
abbrev fv (a b c d : Int) : Value := .agg #[.int .u64 a, .int .u64 b, .int .u64 c, .int .u64 d, .int .u64 0, .int .u64 0]
/-- the parts of a number, as values -/
def fd (a j : Nat) : Value := .int .u64 (dig a j)
theorem fd_row (a : Nat) (ha : N128 a) (j : Nat) (hj : j < 6) : (#[Value.int .u64 (lo a % 4294967296), .int .u64 (lo a / 4294967296), .int .u64 (hi a % 4294967296), .int .u64 (hi a / 4294967296), .int .u64 0, .int .u64 0] : Array Value)[j]? = some (fd a j) := by
  have h : j = 0 ∨ j = 1 ∨ j = 2 ∨ j = 3 ∨ j = 4 ∨ j = 5 := by omega
  rcases h with rfl | rfl | rfl | rfl | rfl | rfl <;> simp [fd, dig0, dig1, dig2, dig3 ha, dig4 ha, dig5 ha]
/-- Two new blocks hold the parts of two numbers. -/
def Two (W : World) (a b : Nat) (x y : Value) (wx : World) : Prop := ∃ g1 g2 : Nat, x = .pointer (some ⟨g1, 0, none⟩) ∧ y = .pointer (some ⟨g2, 0, none⟩) ∧ W.heap.size ≤ g1 ∧ W.heap.size ≤ g2 ∧ Row wx g1 6 (fd a) ∧ Row wx g2 6 (fd b) ∧ Below W.heap.size W wx

end Go.Proofs.Ytibaloamgpcghaa
