/-
  DERIVED. GIVEN WITH THE SEED: THE CARDS: each row of YtncinpkbiphpoaaDoorRows.lean that lists a variable, with what it lists TIED to the program's text (the seventh form; the later family's looks); each row that meets fmt, with fmt's text TOLD by the authors' own Lean function (tested against real Go, not proved from fmt's source: count such statements apart). THE CARD IS WHAT COUNTS. Prove the row's statement (the work); the ties are given (YtncinpkbiphpoaaDoorTie.lean); close each card by the builder's one call (the guide's Derived/Test/ToyasCard.lean, 'card_holds'). Laid BY PROGRAM, IN A SANDBOX (cutbox-door.mjs). By AI agents, Wed Nov 11 2026. No macro, syntax, notation, axiom, sorry.
-/
import Derived.Test.YtncinpkbiphpoaaDoorRows
import GoSem.ClaimSeven
namespace Go.Proofs.YtncinpkbiphpoaaDoor
namespace Rows

/-- THE TIED CARD OF 'edenlaw4.CounterReads'. -/
def counterReadsCard : Claim7 := { stood := { row := counterReadsRow, standIns := [], harness := (true, "3e65199699a5c6309a649c9f73f51a9e0b1e98b04c84f305bfa52b03c9942222"), looks := true }, kinds := [], alts := [], laidByText := true, laidKinds := [.data, .handle, .data, .data, .pinned], laidTests := true, laidLooks := .later }
def CounterReadsCardSaid : Prop := Claim7.holds Tryd.pinned (.plain (OpenSpec.ofChange counterReadsSpec)) counterReadsCard

/-- THE SECOND FORM's CARD OF 'edenlaw4.CounterReads'. -/
def counterReadsUptoCard : Claim7 := { stood := { row := counterReadsUptoRow, standIns := [], harness := (true, "3e65199699a5c6309a649c9f73f51a9e0b1e98b04c84f305bfa52b03c9942222"), looks := true }, kinds := [], alts := [], laidByText := true, laidKinds := [.data, .handle, .data, .data, .pinned], laidTests := true, laidLooks := .later }
def CounterReadsUptoCardSaid : Prop := Claim7.holds Tryd.pinned (.plain (OpenSpec.upto counterReadsSpec)) counterReadsUptoCard
end Rows
end Go.Proofs.YtncinpkbiphpoaaDoor
