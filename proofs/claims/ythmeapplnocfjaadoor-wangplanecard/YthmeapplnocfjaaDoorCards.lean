/-
  DERIVED. GIVEN WITH THE SEED: THE CARDS: each row of YthmeapplnocfjaaDoorRows.lean that lists a variable, with what it lists TIED to the program's text (the seventh form; the later family's looks); each row that meets fmt, with fmt's text TOLD by the authors' own Lean function (tested against real Go, not proved from fmt's source: count such statements apart). THE CARD IS WHAT COUNTS. Prove the row's statement (the work); the ties are given (YthmeapplnocfjaaDoorTie.lean); close each card by the builder's one call (the guide's Derived/Test/ToyasCard.lean, 'card_holds'). Laid BY PROGRAM, IN A SANDBOX (cutbox-door.mjs). By AI agents, Wed Nov 11 2026. No macro, syntax, notation, axiom, sorry.
-/
import Derived.Test.YthmeapplnocfjaaDoorRows
import GoSem.ClaimSeven
namespace Go.Proofs.YthmeapplnocfjaaDoor
namespace Rows

/-- THE TIED CARD OF 'edenlaw6.WangFits'. -/
def wangFitsCard : Claim7 := { stood := { row := wangFitsRow, standIns := [], harness := (true, "edb4bc2d14a449811f3eb80cca4ac29764229257a89bd6271eb0cac43e94bb9b"), looks := true }, kinds := [], alts := [], laidByText := true, laidKinds := [.data, .data, .handle], laidTests := true, laidLooks := .later }
def WangFitsCardSaid : Prop := Claim7.holds Tryd.pinned (.plain (OpenSpec.ofChange wangFitsSpec)) wangFitsCard

/-- THE TIED CARD OF 'edenlaw6.WangDecides'. -/
def wangDecidesCard : Claim7 := { stood := { row := wangDecidesRow, standIns := [], harness := (true, "edb4bc2d14a449811f3eb80cca4ac29764229257a89bd6271eb0cac43e94bb9b"), looks := true }, kinds := [], alts := [], laidByText := true, laidKinds := [.data, .data, .handle], laidTests := true, laidLooks := .later }
def WangDecidesCardSaid : Prop := Claim7.holds Tryd.pinned (.plain (OpenSpec.ofChange wangDecidesSpec)) wangDecidesCard

/-- THE TIED CARD OF 'edenlaw6.WangPlane'. -/
def wangPlaneCard : Claim7 := { stood := { row := wangPlaneRow, standIns := [], harness := (true, "edb4bc2d14a449811f3eb80cca4ac29764229257a89bd6271eb0cac43e94bb9b"), looks := true }, kinds := [], alts := [], laidByText := true, laidKinds := [.data, .data], laidTests := true, laidLooks := .later }
def WangPlaneCardSaid : Prop := Claim7.holds Tryd.pinned (.plain (OpenSpec.ofChange wangPlaneSpec)) wangPlaneCard

/-- THE SECOND FORM's CARD OF 'edenlaw6.WangFits'. -/
def wangFitsUptoCard : Claim7 := { stood := { row := wangFitsUptoRow, standIns := [], harness := (true, "edb4bc2d14a449811f3eb80cca4ac29764229257a89bd6271eb0cac43e94bb9b"), looks := true }, kinds := [], alts := [], laidByText := true, laidKinds := [.data, .data, .handle], laidTests := true, laidLooks := .later }
def WangFitsUptoCardSaid : Prop := Claim7.holds Tryd.pinned (.plain (OpenSpec.upto wangFitsSpec)) wangFitsUptoCard

/-- THE SECOND FORM's CARD OF 'edenlaw6.WangDecides'. -/
def wangDecidesUptoCard : Claim7 := { stood := { row := wangDecidesUptoRow, standIns := [], harness := (true, "edb4bc2d14a449811f3eb80cca4ac29764229257a89bd6271eb0cac43e94bb9b"), looks := true }, kinds := [], alts := [], laidByText := true, laidKinds := [.data, .data, .handle], laidTests := true, laidLooks := .later }
def WangDecidesUptoCardSaid : Prop := Claim7.holds Tryd.pinned (.plain (OpenSpec.upto wangDecidesSpec)) wangDecidesUptoCard

/-- THE SECOND FORM's CARD OF 'edenlaw6.WangPlane'. -/
def wangPlaneUptoCard : Claim7 := { stood := { row := wangPlaneUptoRow, standIns := [], harness := (true, "edb4bc2d14a449811f3eb80cca4ac29764229257a89bd6271eb0cac43e94bb9b"), looks := true }, kinds := [], alts := [], laidByText := true, laidKinds := [.data, .data], laidTests := true, laidLooks := .later }
def WangPlaneUptoCardSaid : Prop := Claim7.holds Tryd.pinned (.plain (OpenSpec.upto wangPlaneSpec)) wangPlaneUptoCard
end Rows
end Go.Proofs.YthmeapplnocfjaaDoor
