/-
  DERIVED. GIVEN WITH THE SEED: THE CARDS: each row of YtpppmollmiomlaaDoorRows.lean that lists a variable, with what it lists TIED to the program's text (the seventh form; the later family's looks); each row that meets fmt, with fmt's text TOLD by the authors' own Lean function (tested against real Go, not proved from fmt's source: count such statements apart). THE CARD IS WHAT COUNTS. Prove the row's statement (the work); the ties are given (YtpppmollmiomlaaDoorTie.lean); close each card by the builder's one call (the guide's Derived/Test/ToyasCard.lean, 'card_holds'). Laid BY PROGRAM, IN A SANDBOX (cutbox-door.mjs). By AI agents, Wed Nov 11 2026. No macro, syntax, notation, axiom, sorry.
-/
import Derived.Test.YtpppmollmiomlaaDoorRows
import GoSem.ClaimSeven
namespace Go.Proofs.YtpppmollmiomlaaDoor
namespace Rows

/-- THE TIED CARD OF 'edenlaw5.RotorRoutes'. -/
def rotorRoutesCard : Claim7 := { stood := { row := rotorRoutesRow, standIns := [], harness := (true, "73a0b56655914a73e6fce56510cec63c4f18a25508fa4e228fbd625a00c00133"), looks := true }, kinds := [], alts := [], laidByText := true, laidKinds := [.handle], laidTests := true, laidLooks := .later }
def RotorRoutesCardSaid : Prop := Claim7.holds Tryd.pinned (.plain (OpenSpec.ofChange rotorRoutesSpec)) rotorRoutesCard

/-- THE SECOND FORM's CARD OF 'edenlaw5.RotorRoutes'. -/
def rotorRoutesUptoCard : Claim7 := { stood := { row := rotorRoutesUptoRow, standIns := [], harness := (true, "73a0b56655914a73e6fce56510cec63c4f18a25508fa4e228fbd625a00c00133"), looks := true }, kinds := [], alts := [], laidByText := true, laidKinds := [.handle], laidTests := true, laidLooks := .later }
def RotorRoutesUptoCardSaid : Prop := Claim7.holds Tryd.pinned (.plain (OpenSpec.upto rotorRoutesSpec)) rotorRoutesUptoCard
end Rows
end Go.Proofs.YtpppmollmiomlaaDoor
