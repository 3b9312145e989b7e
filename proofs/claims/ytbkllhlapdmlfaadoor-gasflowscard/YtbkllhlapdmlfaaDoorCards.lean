/-
  DERIVED. GIVEN WITH THE SEED: THE CARDS: each row of YtbkllhlapdmlfaaDoorRows.lean that lists a variable, with what it lists TIED to the program's text (the seventh form; the later family's looks); each row that meets fmt, with fmt's text TOLD by the authors' own Lean function (tested against real Go, not proved from fmt's source: count such statements apart). THE CARD IS WHAT COUNTS. Prove the row's statement (the work); the ties are given (YtbkllhlapdmlfaaDoorTie.lean); close each card by the builder's one call (the guide's Derived/Test/ToyasCard.lean, 'card_holds'). Laid BY PROGRAM, IN A SANDBOX (cutbox-door.mjs). By AI agents, Wed Nov 11 2026. No macro, syntax, notation, axiom, sorry.
-/
import Derived.Test.YtbkllhlapdmlfaaDoorRows
import GoSem.ClaimSeven
namespace Go.Proofs.YtbkllhlapdmlfaaDoor
namespace Rows

/-- THE TIED CARD OF 'edenlaw3.PlaneParent'. -/
def planeParentCard : Claim7 := { stood := { row := planeParentRow, standIns := [], harness := (true, "acd6807e159ea404187a4db6f2ff814ddad4154f2df023955de7c7199ffa4964"), looks := true }, kinds := [], alts := [], laidByText := true, laidKinds := [.handle], laidTests := true, laidLooks := .later }
def PlaneParentCardSaid : Prop := Claim7.holds Tryd.pinned (.plain (OpenSpec.ofChange planeParentSpec)) planeParentCard

/-- THE TIED CARD OF 'edenlaw3.PlaneEden'. -/
def planeEdenCard : Claim7 := { stood := { row := planeEdenRow, standIns := [], harness := (true, "acd6807e159ea404187a4db6f2ff814ddad4154f2df023955de7c7199ffa4964"), looks := true }, kinds := [], alts := [], laidByText := true, laidKinds := [.data, .handle], laidTests := true, laidLooks := .later }
def PlaneEdenCardSaid : Prop := Claim7.holds Tryd.pinned (.plain (OpenSpec.ofChange planeEdenSpec)) planeEdenCard

/-- THE TIED CARD OF 'edenlaw3.HashPuts'. -/
def hashPutsCard : Claim7 := { stood := { row := hashPutsRow, standIns := [], harness := (true, "acd6807e159ea404187a4db6f2ff814ddad4154f2df023955de7c7199ffa4964"), looks := true }, kinds := [], alts := [], laidByText := true, laidKinds := [.data], laidTests := true, laidLooks := .later }
def HashPutsCardSaid : Prop := Claim7.holds Tryd.pinned (.plain (OpenSpec.ofChange hashPutsSpec)) hashPutsCard

/-- THE TIED CARD OF 'edenlaw3.GasFlows'. -/
def gasFlowsCard : Claim7 := { stood := { row := gasFlowsRow, standIns := [], harness := (true, "acd6807e159ea404187a4db6f2ff814ddad4154f2df023955de7c7199ffa4964"), looks := true }, kinds := [], alts := [], laidByText := true, laidKinds := [.handle], laidTests := true, laidLooks := .later }
def GasFlowsCardSaid : Prop := Claim7.holds Tryd.pinned (.plain (OpenSpec.ofChange gasFlowsSpec)) gasFlowsCard

/-- THE TIED CARD OF 'edenlaw4.AntWalks'. -/
def antWalksCard : Claim7 := { stood := { row := antWalksRow, standIns := [], harness := (true, "acd6807e159ea404187a4db6f2ff814ddad4154f2df023955de7c7199ffa4964"), looks := true }, kinds := [], alts := [], laidByText := true, laidKinds := [.handle], laidTests := true, laidLooks := .later }
def AntWalksCardSaid : Prop := Claim7.holds Tryd.pinned (.plain (OpenSpec.ofChange antWalksSpec)) antWalksCard

/-- THE SECOND FORM's CARD OF 'edenlaw3.PlaneParent'. -/
def planeParentUptoCard : Claim7 := { stood := { row := planeParentUptoRow, standIns := [], harness := (true, "acd6807e159ea404187a4db6f2ff814ddad4154f2df023955de7c7199ffa4964"), looks := true }, kinds := [], alts := [], laidByText := true, laidKinds := [.handle], laidTests := true, laidLooks := .later }
def PlaneParentUptoCardSaid : Prop := Claim7.holds Tryd.pinned (.plain (OpenSpec.upto planeParentSpec)) planeParentUptoCard

/-- THE SECOND FORM's CARD OF 'edenlaw3.PlaneEden'. -/
def planeEdenUptoCard : Claim7 := { stood := { row := planeEdenUptoRow, standIns := [], harness := (true, "acd6807e159ea404187a4db6f2ff814ddad4154f2df023955de7c7199ffa4964"), looks := true }, kinds := [], alts := [], laidByText := true, laidKinds := [.data, .handle], laidTests := true, laidLooks := .later }
def PlaneEdenUptoCardSaid : Prop := Claim7.holds Tryd.pinned (.plain (OpenSpec.upto planeEdenSpec)) planeEdenUptoCard

/-- THE SECOND FORM's CARD OF 'edenlaw3.HashPuts'. -/
def hashPutsUptoCard : Claim7 := { stood := { row := hashPutsUptoRow, standIns := [], harness := (true, "acd6807e159ea404187a4db6f2ff814ddad4154f2df023955de7c7199ffa4964"), looks := true }, kinds := [], alts := [], laidByText := true, laidKinds := [.data], laidTests := true, laidLooks := .later }
def HashPutsUptoCardSaid : Prop := Claim7.holds Tryd.pinned (.plain (OpenSpec.upto hashPutsSpec)) hashPutsUptoCard

/-- THE SECOND FORM's CARD OF 'edenlaw3.GasFlows'. -/
def gasFlowsUptoCard : Claim7 := { stood := { row := gasFlowsUptoRow, standIns := [], harness := (true, "acd6807e159ea404187a4db6f2ff814ddad4154f2df023955de7c7199ffa4964"), looks := true }, kinds := [], alts := [], laidByText := true, laidKinds := [.handle], laidTests := true, laidLooks := .later }
def GasFlowsUptoCardSaid : Prop := Claim7.holds Tryd.pinned (.plain (OpenSpec.upto gasFlowsSpec)) gasFlowsUptoCard

/-- THE SECOND FORM's CARD OF 'edenlaw4.AntWalks'. -/
def antWalksUptoCard : Claim7 := { stood := { row := antWalksUptoRow, standIns := [], harness := (true, "acd6807e159ea404187a4db6f2ff814ddad4154f2df023955de7c7199ffa4964"), looks := true }, kinds := [], alts := [], laidByText := true, laidKinds := [.handle], laidTests := true, laidLooks := .later }
def AntWalksUptoCardSaid : Prop := Claim7.holds Tryd.pinned (.plain (OpenSpec.upto antWalksSpec)) antWalksUptoCard
end Rows
end Go.Proofs.YtbkllhlapdmlfaaDoor
