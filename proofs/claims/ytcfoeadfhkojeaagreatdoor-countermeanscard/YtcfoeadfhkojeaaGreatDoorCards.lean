/-
  DERIVED. GIVEN WITH THE SEED: THE CARDS: each row of YtcfoeadfhkojeaaGreatDoorRows.lean that lists a variable, with what it lists TIED to the program's text (the seventh form; the later family's looks); each row that meets fmt, with fmt's text TOLD by the authors' own Lean function (tested against real Go, not proved from fmt's source: count such statements apart). THE CARD IS WHAT COUNTS. Prove the row's statement (the work); the ties are given (YtcfoeadfhkojeaaGreatDoorTie.lean); close each card by the builder's one call (the guide's Derived/Test/ToyasCard.lean, 'card_holds'). Laid BY PROGRAM, IN A SANDBOX (cutbox-door.mjs). By AI agents, Wed Nov 11 2026. No macro, syntax, notation, axiom, sorry.
-/
import Derived.Test.YtcfoeadfhkojeaaGreatDoorRows
import GoSem.ClaimSeven
namespace Go.Proofs.YtcfoeadfhkojeaaGreatDoor
namespace Rows

/-- THE TIED CARD OF 'edenlaw4.CounterMeans'. -/
def counterMeansCard : Claim7 := { stood := { row := counterMeansRow, standIns := [], harness := (true, "fc2fbcdb9b3e5ff41a8c824e2e61b1b4134d64a0d7b0b233e203fed8751d5d1b"), looks := true }, kinds := [], alts := [], laidByText := true, laidKinds := [.data, .data, .data, .data, .handle, .sentinel, .data, .data, .data, .pinned], laidTests := true, laidLooks := .later }
def CounterMeansCardSaid : Prop := Claim7.holds Tryz.pinned (.plain (OpenSpec.ofChange counterMeansSpec)) counterMeansCard

/-- THE SECOND FORM's CARD OF 'edenlaw4.CounterMeans'. -/
def counterMeansUptoCard : Claim7 := { stood := { row := counterMeansUptoRow, standIns := [], harness := (true, "fc2fbcdb9b3e5ff41a8c824e2e61b1b4134d64a0d7b0b233e203fed8751d5d1b"), looks := true }, kinds := [], alts := [], laidByText := true, laidKinds := [.data, .data, .data, .data, .handle, .sentinel, .data, .data, .data, .pinned], laidTests := true, laidLooks := .later }
def CounterMeansUptoCardSaid : Prop := Claim7.holds Tryz.pinned (.plain (OpenSpec.upto counterMeansSpec)) counterMeansUptoCard
end Rows
end Go.Proofs.YtcfoeadfhkojeaaGreatDoor
