/-
  DERIVED. GIVEN WITH THE SEED: THE CARDS: each row of YtjjdjdodhedihaaDoorRows.lean that lists a variable, with what it lists TIED to the program's text (the seventh form; the later family's looks); each row that meets fmt, with fmt's text TOLD by the authors' own Lean function (tested against real Go, not proved from fmt's source: count such statements apart). THE CARD IS WHAT COUNTS. Prove the row's statement (the work); the ties are given (YtjjdjdodhedihaaDoorTie.lean); close each card by the builder's one call (the guide's Derived/Test/ToyasCard.lean, 'card_holds'). Laid BY PROGRAM, IN A SANDBOX (cutbox-door.mjs). By AI agents, Wed Nov 11 2026. No macro, syntax, notation, axiom, sorry.
-/
import Derived.Test.YtjjdjdodhedihaaDoorRows
import GoSem.ClaimSeven
namespace Go.Proofs.YtjjdjdodhedihaaDoor
namespace Rows

/-- THE TIED CARD OF 'edenlaw2.OntoGarden'. -/
def ontoGardenCard : Claim7 := { stood := { row := ontoGardenRow, standIns := [], harness := (true, "7cd8d9850d8885ae61298cb57b724710b399026c21cb3a2f2dcb369963abf76f"), looks := true }, kinds := [], alts := [], laidByText := true, laidKinds := [.data, .data], laidTests := true, laidLooks := .later }
def OntoGardenCardSaid : Prop := Claim7.holds Tryd.pinned (.plain (OpenSpec.ofChange ontoGardenSpec)) ontoGardenCard

/-- THE TIED CARD OF 'edenlaw2.SumsLinear'. -/
def sumsLinearCard : Claim7 := { stood := { row := sumsLinearRow, standIns := [], harness := (true, "7cd8d9850d8885ae61298cb57b724710b399026c21cb3a2f2dcb369963abf76f"), looks := true }, kinds := [], alts := [], laidByText := true, laidKinds := [.handle], laidTests := true, laidLooks := .later }
def SumsLinearCardSaid : Prop := Claim7.holds Tryd.pinned (.plain (OpenSpec.ofChange sumsLinearSpec)) sumsLinearCard

/-- THE TIED CARD OF 'edenlaw2.SumsOnto'. -/
def sumsOntoCard : Claim7 := { stood := { row := sumsOntoRow, standIns := [], harness := (true, "7cd8d9850d8885ae61298cb57b724710b399026c21cb3a2f2dcb369963abf76f"), looks := true }, kinds := [], alts := [], laidByText := true, laidKinds := [.data, .data], laidTests := true, laidLooks := .later }
def SumsOntoCardSaid : Prop := Claim7.holds Tryd.pinned (.plain (OpenSpec.ofChange sumsOntoSpec)) sumsOntoCard

/-- THE TIED CARD OF 'edenlaw3.PlaneGrows'. -/
def planeGrowsCard : Claim7 := { stood := { row := planeGrowsRow, standIns := [], harness := (true, "7cd8d9850d8885ae61298cb57b724710b399026c21cb3a2f2dcb369963abf76f"), looks := true }, kinds := [], alts := [], laidByText := true, laidKinds := [.data, .handle], laidTests := true, laidLooks := .later }
def PlaneGrowsCardSaid : Prop := Claim7.holds Tryd.pinned (.plain (OpenSpec.ofChange planeGrowsSpec)) planeGrowsCard

/-- THE TIED CARD OF 'edenlaw3.PlaneAgain'. -/
def planeAgainCard : Claim7 := { stood := { row := planeAgainRow, standIns := [], harness := (true, "7cd8d9850d8885ae61298cb57b724710b399026c21cb3a2f2dcb369963abf76f"), looks := true }, kinds := [], alts := [], laidByText := true, laidKinds := [.data, .handle], laidTests := true, laidLooks := .later }
def PlaneAgainCardSaid : Prop := Claim7.holds Tryd.pinned (.plain (OpenSpec.ofChange planeAgainSpec)) planeAgainCard

/-- THE TIED CARD OF 'edenlaw3.PlaneParent'. -/
def planeParentCard : Claim7 := { stood := { row := planeParentRow, standIns := [], harness := (true, "7cd8d9850d8885ae61298cb57b724710b399026c21cb3a2f2dcb369963abf76f"), looks := true }, kinds := [], alts := [], laidByText := true, laidKinds := [.handle], laidTests := true, laidLooks := .later }
def PlaneParentCardSaid : Prop := Claim7.holds Tryd.pinned (.plain (OpenSpec.ofChange planeParentSpec)) planeParentCard

/-- THE TIED CARD OF 'edenlaw3.PlaneEden'. -/
def planeEdenCard : Claim7 := { stood := { row := planeEdenRow, standIns := [], harness := (true, "7cd8d9850d8885ae61298cb57b724710b399026c21cb3a2f2dcb369963abf76f"), looks := true }, kinds := [], alts := [], laidByText := true, laidKinds := [.data, .handle], laidTests := true, laidLooks := .later }
def PlaneEdenCardSaid : Prop := Claim7.holds Tryd.pinned (.plain (OpenSpec.ofChange planeEdenSpec)) planeEdenCard

/-- THE TIED CARD OF 'edenlaw3.PlaneTurns'. -/
def planeTurnsCard : Claim7 := { stood := { row := planeTurnsRow, standIns := [], harness := (true, "7cd8d9850d8885ae61298cb57b724710b399026c21cb3a2f2dcb369963abf76f"), looks := true }, kinds := [], alts := [], laidByText := true, laidKinds := [.data], laidTests := true, laidLooks := .later }
def PlaneTurnsCardSaid : Prop := Claim7.holds Tryd.pinned (.plain (OpenSpec.ofChange planeTurnsSpec)) planeTurnsCard

/-- THE SECOND FORM's CARD OF 'edenlaw2.OntoGarden'. -/
def ontoGardenUptoCard : Claim7 := { stood := { row := ontoGardenUptoRow, standIns := [], harness := (true, "7cd8d9850d8885ae61298cb57b724710b399026c21cb3a2f2dcb369963abf76f"), looks := true }, kinds := [], alts := [], laidByText := true, laidKinds := [.data, .data], laidTests := true, laidLooks := .later }
def OntoGardenUptoCardSaid : Prop := Claim7.holds Tryd.pinned (.plain (OpenSpec.upto ontoGardenSpec)) ontoGardenUptoCard

/-- THE SECOND FORM's CARD OF 'edenlaw2.SumsLinear'. -/
def sumsLinearUptoCard : Claim7 := { stood := { row := sumsLinearUptoRow, standIns := [], harness := (true, "7cd8d9850d8885ae61298cb57b724710b399026c21cb3a2f2dcb369963abf76f"), looks := true }, kinds := [], alts := [], laidByText := true, laidKinds := [.handle], laidTests := true, laidLooks := .later }
def SumsLinearUptoCardSaid : Prop := Claim7.holds Tryd.pinned (.plain (OpenSpec.upto sumsLinearSpec)) sumsLinearUptoCard

/-- THE SECOND FORM's CARD OF 'edenlaw2.SumsOnto'. -/
def sumsOntoUptoCard : Claim7 := { stood := { row := sumsOntoUptoRow, standIns := [], harness := (true, "7cd8d9850d8885ae61298cb57b724710b399026c21cb3a2f2dcb369963abf76f"), looks := true }, kinds := [], alts := [], laidByText := true, laidKinds := [.data, .data], laidTests := true, laidLooks := .later }
def SumsOntoUptoCardSaid : Prop := Claim7.holds Tryd.pinned (.plain (OpenSpec.upto sumsOntoSpec)) sumsOntoUptoCard

/-- THE SECOND FORM's CARD OF 'edenlaw3.PlaneGrows'. -/
def planeGrowsUptoCard : Claim7 := { stood := { row := planeGrowsUptoRow, standIns := [], harness := (true, "7cd8d9850d8885ae61298cb57b724710b399026c21cb3a2f2dcb369963abf76f"), looks := true }, kinds := [], alts := [], laidByText := true, laidKinds := [.data, .handle], laidTests := true, laidLooks := .later }
def PlaneGrowsUptoCardSaid : Prop := Claim7.holds Tryd.pinned (.plain (OpenSpec.upto planeGrowsSpec)) planeGrowsUptoCard

/-- THE SECOND FORM's CARD OF 'edenlaw3.PlaneAgain'. -/
def planeAgainUptoCard : Claim7 := { stood := { row := planeAgainUptoRow, standIns := [], harness := (true, "7cd8d9850d8885ae61298cb57b724710b399026c21cb3a2f2dcb369963abf76f"), looks := true }, kinds := [], alts := [], laidByText := true, laidKinds := [.data, .handle], laidTests := true, laidLooks := .later }
def PlaneAgainUptoCardSaid : Prop := Claim7.holds Tryd.pinned (.plain (OpenSpec.upto planeAgainSpec)) planeAgainUptoCard

/-- THE SECOND FORM's CARD OF 'edenlaw3.PlaneParent'. -/
def planeParentUptoCard : Claim7 := { stood := { row := planeParentUptoRow, standIns := [], harness := (true, "7cd8d9850d8885ae61298cb57b724710b399026c21cb3a2f2dcb369963abf76f"), looks := true }, kinds := [], alts := [], laidByText := true, laidKinds := [.handle], laidTests := true, laidLooks := .later }
def PlaneParentUptoCardSaid : Prop := Claim7.holds Tryd.pinned (.plain (OpenSpec.upto planeParentSpec)) planeParentUptoCard

/-- THE SECOND FORM's CARD OF 'edenlaw3.PlaneEden'. -/
def planeEdenUptoCard : Claim7 := { stood := { row := planeEdenUptoRow, standIns := [], harness := (true, "7cd8d9850d8885ae61298cb57b724710b399026c21cb3a2f2dcb369963abf76f"), looks := true }, kinds := [], alts := [], laidByText := true, laidKinds := [.data, .handle], laidTests := true, laidLooks := .later }
def PlaneEdenUptoCardSaid : Prop := Claim7.holds Tryd.pinned (.plain (OpenSpec.upto planeEdenSpec)) planeEdenUptoCard

/-- THE SECOND FORM's CARD OF 'edenlaw3.PlaneTurns'. -/
def planeTurnsUptoCard : Claim7 := { stood := { row := planeTurnsUptoRow, standIns := [], harness := (true, "7cd8d9850d8885ae61298cb57b724710b399026c21cb3a2f2dcb369963abf76f"), looks := true }, kinds := [], alts := [], laidByText := true, laidKinds := [.data], laidTests := true, laidLooks := .later }
def PlaneTurnsUptoCardSaid : Prop := Claim7.holds Tryd.pinned (.plain (OpenSpec.upto planeTurnsSpec)) planeTurnsUptoCard
end Rows
end Go.Proofs.YtjjdjdodhedihaaDoor
