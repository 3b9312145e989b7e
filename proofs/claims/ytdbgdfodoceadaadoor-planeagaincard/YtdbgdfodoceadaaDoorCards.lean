/-
  DERIVED. GIVEN WITH THE SEED: THE CARDS: each row of YtdbgdfodoceadaaDoorRows.lean that lists a variable, with what it lists TIED to the program's text (the seventh form; the later family's looks); each row that meets fmt, with fmt's text TOLD by the authors' own Lean function (tested against real Go, not proved from fmt's source: count such statements apart). THE CARD IS WHAT COUNTS. Prove the row's statement (the work); the ties are given (YtdbgdfodoceadaaDoorTie.lean); close each card by the builder's one call (the guide's Derived/Test/ToyasCard.lean, 'card_holds'). Laid BY PROGRAM, IN A SANDBOX (cutbox-door.mjs). By AI agents, Wed Nov 11 2026. No macro, syntax, notation, axiom, sorry.
-/
import Derived.Test.YtdbgdfodoceadaaDoorRows
import GoSem.ClaimSeven
namespace Go.Proofs.YtdbgdfodoceadaaDoor
namespace Rows

/-- THE TIED CARD OF 'edenlaw3.PlaneGrows'. -/
def planeGrowsCard : Claim7 := { stood := { row := planeGrowsRow, standIns := [], harness := (true, "13c3dd374aa35e054bfc46be09b8456619ba412896696d035e370d1e01a56e47"), looks := true }, kinds := [], alts := [], laidByText := true, laidKinds := [.data, .handle], laidTests := true, laidLooks := .later }
def PlaneGrowsCardSaid : Prop := Claim7.holds Tryd.pinned (.plain (OpenSpec.ofChange planeGrowsSpec)) planeGrowsCard

/-- THE TIED CARD OF 'edenlaw3.PlaneAgain'. -/
def planeAgainCard : Claim7 := { stood := { row := planeAgainRow, standIns := [], harness := (true, "13c3dd374aa35e054bfc46be09b8456619ba412896696d035e370d1e01a56e47"), looks := true }, kinds := [], alts := [], laidByText := true, laidKinds := [.data, .handle], laidTests := true, laidLooks := .later }
def PlaneAgainCardSaid : Prop := Claim7.holds Tryd.pinned (.plain (OpenSpec.ofChange planeAgainSpec)) planeAgainCard

/-- THE TIED CARD OF 'edenlaw3.PlaneParent'. -/
def planeParentCard : Claim7 := { stood := { row := planeParentRow, standIns := [], harness := (true, "13c3dd374aa35e054bfc46be09b8456619ba412896696d035e370d1e01a56e47"), looks := true }, kinds := [], alts := [], laidByText := true, laidKinds := [.handle], laidTests := true, laidLooks := .later }
def PlaneParentCardSaid : Prop := Claim7.holds Tryd.pinned (.plain (OpenSpec.ofChange planeParentSpec)) planeParentCard

/-- THE TIED CARD OF 'edenlaw3.PlaneEden'. -/
def planeEdenCard : Claim7 := { stood := { row := planeEdenRow, standIns := [], harness := (true, "13c3dd374aa35e054bfc46be09b8456619ba412896696d035e370d1e01a56e47"), looks := true }, kinds := [], alts := [], laidByText := true, laidKinds := [.data, .handle], laidTests := true, laidLooks := .later }
def PlaneEdenCardSaid : Prop := Claim7.holds Tryd.pinned (.plain (OpenSpec.ofChange planeEdenSpec)) planeEdenCard

/-- THE TIED CARD OF 'edenlaw3.PlaneTurns'. -/
def planeTurnsCard : Claim7 := { stood := { row := planeTurnsRow, standIns := [], harness := (true, "13c3dd374aa35e054bfc46be09b8456619ba412896696d035e370d1e01a56e47"), looks := true }, kinds := [], alts := [], laidByText := true, laidKinds := [.data], laidTests := true, laidLooks := .later }
def PlaneTurnsCardSaid : Prop := Claim7.holds Tryd.pinned (.plain (OpenSpec.ofChange planeTurnsSpec)) planeTurnsCard

/-- THE TIED CARD OF 'edenlaw3.HashPuts'. -/
def hashPutsCard : Claim7 := { stood := { row := hashPutsRow, standIns := [], harness := (true, "13c3dd374aa35e054bfc46be09b8456619ba412896696d035e370d1e01a56e47"), looks := true }, kinds := [], alts := [], laidByText := true, laidKinds := [.data], laidTests := true, laidLooks := .later }
def HashPutsCardSaid : Prop := Claim7.holds Tryd.pinned (.plain (OpenSpec.ofChange hashPutsSpec)) hashPutsCard

/-- THE TIED CARD OF 'edenlaw3.BlocksRun'. -/
def blocksRunCard : Claim7 := { stood := { row := blocksRunRow, standIns := [], harness := (true, "13c3dd374aa35e054bfc46be09b8456619ba412896696d035e370d1e01a56e47"), looks := true }, kinds := [], alts := [], laidByText := true, laidKinds := [.handle], laidTests := true, laidLooks := .later }
def BlocksRunCardSaid : Prop := Claim7.holds Tryd.pinned (.plain (OpenSpec.ofChange blocksRunSpec)) blocksRunCard

/-- THE SECOND FORM's CARD OF 'edenlaw3.PlaneGrows'. -/
def planeGrowsUptoCard : Claim7 := { stood := { row := planeGrowsUptoRow, standIns := [], harness := (true, "13c3dd374aa35e054bfc46be09b8456619ba412896696d035e370d1e01a56e47"), looks := true }, kinds := [], alts := [], laidByText := true, laidKinds := [.data, .handle], laidTests := true, laidLooks := .later }
def PlaneGrowsUptoCardSaid : Prop := Claim7.holds Tryd.pinned (.plain (OpenSpec.upto planeGrowsSpec)) planeGrowsUptoCard

/-- THE SECOND FORM's CARD OF 'edenlaw3.PlaneAgain'. -/
def planeAgainUptoCard : Claim7 := { stood := { row := planeAgainUptoRow, standIns := [], harness := (true, "13c3dd374aa35e054bfc46be09b8456619ba412896696d035e370d1e01a56e47"), looks := true }, kinds := [], alts := [], laidByText := true, laidKinds := [.data, .handle], laidTests := true, laidLooks := .later }
def PlaneAgainUptoCardSaid : Prop := Claim7.holds Tryd.pinned (.plain (OpenSpec.upto planeAgainSpec)) planeAgainUptoCard

/-- THE SECOND FORM's CARD OF 'edenlaw3.PlaneParent'. -/
def planeParentUptoCard : Claim7 := { stood := { row := planeParentUptoRow, standIns := [], harness := (true, "13c3dd374aa35e054bfc46be09b8456619ba412896696d035e370d1e01a56e47"), looks := true }, kinds := [], alts := [], laidByText := true, laidKinds := [.handle], laidTests := true, laidLooks := .later }
def PlaneParentUptoCardSaid : Prop := Claim7.holds Tryd.pinned (.plain (OpenSpec.upto planeParentSpec)) planeParentUptoCard

/-- THE SECOND FORM's CARD OF 'edenlaw3.PlaneEden'. -/
def planeEdenUptoCard : Claim7 := { stood := { row := planeEdenUptoRow, standIns := [], harness := (true, "13c3dd374aa35e054bfc46be09b8456619ba412896696d035e370d1e01a56e47"), looks := true }, kinds := [], alts := [], laidByText := true, laidKinds := [.data, .handle], laidTests := true, laidLooks := .later }
def PlaneEdenUptoCardSaid : Prop := Claim7.holds Tryd.pinned (.plain (OpenSpec.upto planeEdenSpec)) planeEdenUptoCard

/-- THE SECOND FORM's CARD OF 'edenlaw3.PlaneTurns'. -/
def planeTurnsUptoCard : Claim7 := { stood := { row := planeTurnsUptoRow, standIns := [], harness := (true, "13c3dd374aa35e054bfc46be09b8456619ba412896696d035e370d1e01a56e47"), looks := true }, kinds := [], alts := [], laidByText := true, laidKinds := [.data], laidTests := true, laidLooks := .later }
def PlaneTurnsUptoCardSaid : Prop := Claim7.holds Tryd.pinned (.plain (OpenSpec.upto planeTurnsSpec)) planeTurnsUptoCard

/-- THE SECOND FORM's CARD OF 'edenlaw3.HashPuts'. -/
def hashPutsUptoCard : Claim7 := { stood := { row := hashPutsUptoRow, standIns := [], harness := (true, "13c3dd374aa35e054bfc46be09b8456619ba412896696d035e370d1e01a56e47"), looks := true }, kinds := [], alts := [], laidByText := true, laidKinds := [.data], laidTests := true, laidLooks := .later }
def HashPutsUptoCardSaid : Prop := Claim7.holds Tryd.pinned (.plain (OpenSpec.upto hashPutsSpec)) hashPutsUptoCard

/-- THE SECOND FORM's CARD OF 'edenlaw3.BlocksRun'. -/
def blocksRunUptoCard : Claim7 := { stood := { row := blocksRunUptoRow, standIns := [], harness := (true, "13c3dd374aa35e054bfc46be09b8456619ba412896696d035e370d1e01a56e47"), looks := true }, kinds := [], alts := [], laidByText := true, laidKinds := [.handle], laidTests := true, laidLooks := .later }
def BlocksRunUptoCardSaid : Prop := Claim7.holds Tryd.pinned (.plain (OpenSpec.upto blocksRunSpec)) blocksRunUptoCard
end Rows
end Go.Proofs.YtdbgdfodoceadaaDoor
