/-
  DERIVED. GIVEN WITH THE SEED: THE CARDS: each row of YtelocgefaommmaaDoorRows.lean that lists a variable, with what it lists TIED to the program's text (the seventh form; the later family's looks); each row that meets fmt, with fmt's text TOLD by the authors' own Lean function (tested against real Go, not proved from fmt's source: count such statements apart). THE CARD IS WHAT COUNTS. Prove the row's statement (the work); the ties are given (YtelocgefaommmaaDoorTie.lean); close each card by the builder's one call (the guide's Derived/Test/ToyasCard.lean, 'card_holds'). Laid BY PROGRAM, IN A SANDBOX (cutbox-door.mjs). By AI agents, Wed Nov 11 2026. No macro, syntax, notation, axiom, sorry.
-/
import Derived.Test.YtelocgefaommmaaDoorRows
import GoSem.ClaimSeven
namespace Go.Proofs.YtelocgefaommmaaDoor
namespace Rows

/-- THE TIED CARD OF 'edenlaw3.HashPuts'. -/
def hashPutsCard : Claim7 := { stood := { row := hashPutsRow, standIns := [], harness := (true, "87378a84a5bc2c1464c1e57cbdfbd77f7306ad7eac0a285956417454dde08a68"), looks := false }, kinds := [], alts := [], laidByText := true, laidKinds := [.data], laidTests := true, laidLooks := .later }
def HashPutsCardSaid : Prop := Claim7.holds Tryd.pinned (.plain (OpenSpec.ofChange hashPutsSpec)) hashPutsCard

/-- THE SECOND FORM's CARD OF 'edenlaw3.HashPuts'. -/
def hashPutsUptoCard : Claim7 := { stood := { row := hashPutsUptoRow, standIns := [], harness := (true, "87378a84a5bc2c1464c1e57cbdfbd77f7306ad7eac0a285956417454dde08a68"), looks := false }, kinds := [], alts := [], laidByText := true, laidKinds := [.data], laidTests := true, laidLooks := .later }
def HashPutsUptoCardSaid : Prop := Claim7.holds Tryd.pinned (.plain (OpenSpec.upto hashPutsSpec)) hashPutsUptoCard
end Rows
end Go.Proofs.YtelocgefaommmaaDoor
