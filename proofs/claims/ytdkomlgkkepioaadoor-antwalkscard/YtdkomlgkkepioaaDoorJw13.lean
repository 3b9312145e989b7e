/-
  What the last text of this claim leans on, part 13: Gb2, Gb3, Bkg, Bkh, Ga2, Ga3, Ga4, Gb4, Gb5, Ga6, Ga7, Ga8, Gc2.
-/
import Derived.Test.YtdkomlgkkepioaaDoorJw8
import Derived.Test.YtdkomlgkkepioaaDoorJw7
import Derived.Test.YtdkomlgkkepioaaDoorJw10
import Derived.Test.YtdkomlgkkepioaaDoorJw2
import Derived.Test.YtdkomlgkkepioaaDoorJw12
import Derived.BigRegion
import Derived.Deep.RegionHeld3
import Derived.Deep.CutRange
import Derived.Laws.BitsAllLaws
namespace Go.Proofs.YtdkomlgkkepioaaDoor
open Go.RowKit
set_option linter.unusedVariables false
end Go.Proofs.YtdkomlgkkepioaaDoor

namespace Go.Proofs.YtdkomlgkkepioaaDoor
open Go.RowKit
set_option linter.unusedVariables false
def re4 : Nat → Int | 0 => 1 | 1 => 0 | 2 => -1 | 3 => 0 | _ => 0
def im4 : Nat → Int | 0 => 0 | 1 => 1 | 2 => 0 | 3 => -1 | _ => 0
def re6 : Nat → Int | 0 => 1 | 1 => 0 | 2 => -1 | 3 => -1 | 4 => 0 | 5 => 1 | _ => 0
def im6 : Nat → Int | 0 => 0 | 1 => 1 | 2 => 1 | 3 => 0 | 4 => -1 | 5 => -1 | _ => 0
/-- How far a direction goes to the right, and up. -/
def reG (K d : Nat) : Int := if K = 4 then re4 d else re6 d
def imG (K d : Nat) : Int := if K = 4 then im4 d else im6 d
/-- The directions as they lie. -/
def DI (w : World) (g K : Nat) : Prop := ∀ d, d < K → w.cell? ⟨g, d, none⟩ = some (.complex .f64 (fI (reG K d)) (fI (imG K d)))
theorem DI.block {w w' : World} {g K : Nat} (h : DI w g K) (e : w'.heap[g]? = w.heap[g]?) : DI w' g K := fun d hd => (World.cell?_of_block (w := w) (a := ⟨g, d, none⟩) e).trans (h d hd)
end Go.Proofs.YtdkomlgkkepioaaDoor

namespace Go.Proofs.YtdkomlgkkepioaaDoor
open Go.RowKit
set_option linter.unusedVariables false
end Go.Proofs.YtdkomlgkkepioaaDoor

namespace Go.Proofs.YtdkomlgkkepioaaDoor
open Go.RowKit
set_option linter.unusedVariables false
end Go.Proofs.YtdkomlgkkepioaaDoor

namespace Go.Proofs.YtdkomlgkkepioaaDoor
open Go.RowKit
set_option linter.unusedVariables false
end Go.Proofs.YtdkomlgkkepioaaDoor

namespace Go.Proofs.YtdkomlgkkepioaaDoor
open Go.RowKit
set_option linter.unusedVariables false
end Go.Proofs.YtdkomlgkkepioaaDoor

namespace Go.Proofs.YtdkomlgkkepioaaDoor
open Go.RowKit
set_option linter.unusedVariables false
end Go.Proofs.YtdkomlgkkepioaaDoor

namespace Go.Proofs.YtdkomlgkkepioaaDoor
open Go.RowKit
set_option linter.unusedVariables false
end Go.Proofs.YtdkomlgkkepioaaDoor

namespace Go.Proofs.YtdkomlgkkepioaaDoor
open Go.RowKit
set_option linter.unusedVariables false
end Go.Proofs.YtdkomlgkkepioaaDoor

namespace Go.Proofs.YtdkomlgkkepioaaDoor
open Go.RowKit
set_option linter.unusedVariables false
end Go.Proofs.YtdkomlgkkepioaaDoor

namespace Go.Proofs.YtdkomlgkkepioaaDoor
open Go.RowKit
set_option linter.unusedVariables false
end Go.Proofs.YtdkomlgkkepioaaDoor

namespace Go.Proofs.YtdkomlgkkepioaaDoor
open Go.RowKit
set_option linter.unusedVariables false
end Go.Proofs.YtdkomlgkkepioaaDoor

namespace Go.Proofs.YtdkomlgkkepioaaDoor
open Go.RowKit
set_option linter.unusedVariables false
end Go.Proofs.YtdkomlgkkepioaaDoor

