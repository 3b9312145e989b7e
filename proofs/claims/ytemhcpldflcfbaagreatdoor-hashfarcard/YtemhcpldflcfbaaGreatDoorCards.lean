/-
  DERIVED. GIVEN WITH THE SEED: THE CARDS: each row of YtemhcpldflcfbaaGreatDoorRows.lean that lists a variable, with what it lists TIED to the program's text (the seventh form; the later family's looks); each row that meets fmt, with fmt's text TOLD by the authors' own Lean function (tested against real Go, not proved from fmt's source: count such statements apart). THE CARD IS WHAT COUNTS. Prove the row's statement (the work); the ties are given (YtemhcpldflcfbaaGreatDoorTie.lean); close each card by the builder's one call (the guide's Derived/Test/ToyasCard.lean, 'card_holds'). Laid BY PROGRAM, IN A SANDBOX (cutbox-door.mjs). By AI agents, Wed Nov 11 2026. No macro, syntax, notation, axiom, sorry.
-/
import Derived.Test.YtemhcpldflcfbaaGreatDoorRows
import GoSem.ClaimSeven
namespace Go.Proofs.YtemhcpldflcfbaaGreatDoor
namespace Rows

/-- THE TIED CARD OF 'edenlaw3.HashJumps'. -/
def hashJumpsCard : Claim7 := { stood := { row := hashJumpsRow, standIns := [], harness := (true, "ca3858606ada785bb34e92483a1c6190b38910041438f8bc0ce909a6f2dbbd5f"), looks := true }, kinds := [], alts := [], laidByText := true, laidKinds := [.data, .handle], laidTests := true, laidLooks := .later }
def HashJumpsCardSaid : Prop := Claim7.holds Tryz.pinned (.plain (OpenSpec.ofChange hashJumpsSpec)) hashJumpsCard

/-- THE TIED CARD OF 'edenlaw3.HashFar'. -/
def hashFarCard : Claim7 := { stood := { row := hashFarRow, standIns := [], harness := (true, "ca3858606ada785bb34e92483a1c6190b38910041438f8bc0ce909a6f2dbbd5f"), looks := true }, kinds := [], alts := [], laidByText := true, laidKinds := [.data], laidTests := true, laidLooks := .later }
def HashFarCardSaid : Prop := Claim7.holds Tryz.pinned (.plain (OpenSpec.ofChange hashFarSpec)) hashFarCard

/-- THE SECOND FORM's CARD OF 'edenlaw3.HashJumps'. -/
def hashJumpsUptoCard : Claim7 := { stood := { row := hashJumpsUptoRow, standIns := [], harness := (true, "ca3858606ada785bb34e92483a1c6190b38910041438f8bc0ce909a6f2dbbd5f"), looks := true }, kinds := [], alts := [], laidByText := true, laidKinds := [.data, .handle], laidTests := true, laidLooks := .later }
def HashJumpsUptoCardSaid : Prop := Claim7.holds Tryz.pinned (.plain (OpenSpec.upto hashJumpsSpec)) hashJumpsUptoCard

/-- THE SECOND FORM's CARD OF 'edenlaw3.HashFar'. -/
def hashFarUptoCard : Claim7 := { stood := { row := hashFarUptoRow, standIns := [], harness := (true, "ca3858606ada785bb34e92483a1c6190b38910041438f8bc0ce909a6f2dbbd5f"), looks := true }, kinds := [], alts := [], laidByText := true, laidKinds := [.data], laidTests := true, laidLooks := .later }
def HashFarUptoCardSaid : Prop := Claim7.holds Tryz.pinned (.plain (OpenSpec.upto hashFarSpec)) hashFarUptoCard
end Rows
end Go.Proofs.YtemhcpldflcfbaaGreatDoor
