/-
  DERIVED. GIVEN WITH THE SEED: THE CARDS: each row of YtfdbgkdbmlmigaaDoorRows.lean that lists a variable, with what it lists TIED to the program's text (the seventh form; the later family's looks); each row that meets fmt, with fmt's text TOLD by the authors' own Lean function (tested against real Go, not proved from fmt's source: count such statements apart). THE CARD IS WHAT COUNTS. Prove the row's statement (the work); the ties are given (YtfdbgkdbmlmigaaDoorTie.lean); close each card by the builder's one call (the guide's Derived/Test/ToyasCard.lean, 'card_holds'). Laid BY PROGRAM, IN A SANDBOX (cutbox-door.mjs). By AI agents, Wed Nov 11 2026. No macro, syntax, notation, axiom, sorry.
-/
import Derived.Test.YtfdbgkdbmlmigaaDoorRows
import GoSem.ClaimSeven
namespace Go.Proofs.YtfdbgkdbmlmigaaDoor
namespace Rows

/-- THE TIED CARD OF 'edenlaw3.PlaneParent'. -/
def planeParentCard : Claim7 := { stood := { row := planeParentRow, standIns := [], harness := (true, "26415d8465251fca8fb58a9a97ec28eae6509c2ab30b0740e4f476f6abf6dcac"), looks := true }, kinds := [], alts := [], laidByText := true, laidKinds := [.handle], laidTests := true, laidLooks := .later }
def PlaneParentCardSaid : Prop := Claim7.holds Tryd.pinned (.plain (OpenSpec.ofChange planeParentSpec)) planeParentCard

/-- THE SECOND FORM's CARD OF 'edenlaw3.PlaneParent'. -/
def planeParentUptoCard : Claim7 := { stood := { row := planeParentUptoRow, standIns := [], harness := (true, "26415d8465251fca8fb58a9a97ec28eae6509c2ab30b0740e4f476f6abf6dcac"), looks := true }, kinds := [], alts := [], laidByText := true, laidKinds := [.handle], laidTests := true, laidLooks := .later }
def PlaneParentUptoCardSaid : Prop := Claim7.holds Tryd.pinned (.plain (OpenSpec.upto planeParentSpec)) planeParentUptoCard
end Rows
end Go.Proofs.YtfdbgkdbmlmigaaDoor
