/-
  What the last text of this claim leans on, part 6: Gq3.
-/
import Derived.Test.YtdkomlgkkepioaaDoorJw5
namespace Go.Proofs.YtdkomlgkkepioaaDoor
open Go.RowKit
set_option linter.unusedVariables false

/-- A row's cell. -/
def rb (a b x : Nat) : Bool := if x < 64 then a.testBit x else b.testBit (x - 64)
end Go.Proofs.YtdkomlgkkepioaaDoor

