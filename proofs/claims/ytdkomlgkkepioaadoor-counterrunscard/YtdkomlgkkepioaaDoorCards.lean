/-
  DERIVED. GIVEN WITH THE SEED: THE CARDS: each row of YtdkomlgkkepioaaDoorRows.lean that lists a variable, with what it lists TIED to the program's text (the seventh form; the later family's looks); each row that meets fmt, with fmt's text TOLD by the authors' own Lean function (tested against real Go, not proved from fmt's source: count such statements apart). THE CARD IS WHAT COUNTS. Prove the row's statement (the work); the ties are given (YtdkomlgkkepioaaDoorTie.lean); close each card by the builder's one call (the guide's Derived/Test/ToyasCard.lean, 'card_holds'). Laid BY PROGRAM, IN A SANDBOX (cutbox-door.mjs). By AI agents, Wed Nov 11 2026. No macro, syntax, notation, axiom, sorry.
-/
import Derived.Test.YtdkomlgkkepioaaDoorRows
import GoSem.ClaimSeven
namespace Go.Proofs.YtdkomlgkkepioaaDoor
namespace Rows

/-- THE TIED CARD OF 'edenlaw3.PlaneParent'. -/
def planeParentCard : Claim7 := { stood := { row := planeParentRow, standIns := [], harness := (true, "bc8cfca2d874549f0a992c94c1490e08d2f80f8b8aacdb592acc88604ecbe75f"), looks := true }, kinds := [], alts := [], laidByText := true, laidKinds := [.handle], laidTests := true, laidLooks := .later }
def PlaneParentCardSaid : Prop := Claim7.holds Tryd.pinned (.plain (OpenSpec.ofChange planeParentSpec)) planeParentCard

/-- THE TIED CARD OF 'edenlaw3.PlaneEden'. -/
def planeEdenCard : Claim7 := { stood := { row := planeEdenRow, standIns := [], harness := (true, "bc8cfca2d874549f0a992c94c1490e08d2f80f8b8aacdb592acc88604ecbe75f"), looks := true }, kinds := [], alts := [], laidByText := true, laidKinds := [.data, .handle], laidTests := true, laidLooks := .later }
def PlaneEdenCardSaid : Prop := Claim7.holds Tryd.pinned (.plain (OpenSpec.ofChange planeEdenSpec)) planeEdenCard

/-- THE TIED CARD OF 'edenlaw3.HashPuts'. -/
def hashPutsCard : Claim7 := { stood := { row := hashPutsRow, standIns := [], harness := (true, "bc8cfca2d874549f0a992c94c1490e08d2f80f8b8aacdb592acc88604ecbe75f"), looks := true }, kinds := [], alts := [], laidByText := true, laidKinds := [.data], laidTests := true, laidLooks := .later }
def HashPutsCardSaid : Prop := Claim7.holds Tryd.pinned (.plain (OpenSpec.ofChange hashPutsSpec)) hashPutsCard

/-- THE TIED CARD OF 'edenlaw4.AntWalks'. -/
def antWalksCard : Claim7 := { stood := { row := antWalksRow, standIns := [], harness := (true, "bc8cfca2d874549f0a992c94c1490e08d2f80f8b8aacdb592acc88604ecbe75f"), looks := true }, kinds := [], alts := [], laidByText := true, laidKinds := [.handle], laidTests := true, laidLooks := .later }
def AntWalksCardSaid : Prop := Claim7.holds Tryd.pinned (.plain (OpenSpec.ofChange antWalksSpec)) antWalksCard

/-- THE TIED CARD OF 'edenlaw4.CounterReads'. -/
def counterReadsCard : Claim7 := { stood := { row := counterReadsRow, standIns := [], harness := (true, "bc8cfca2d874549f0a992c94c1490e08d2f80f8b8aacdb592acc88604ecbe75f"), looks := true }, kinds := [], alts := [], laidByText := true, laidKinds := [.data, .handle, .data, .data, .pinned], laidTests := true, laidLooks := .later }
def CounterReadsCardSaid : Prop := Claim7.holds Tryd.pinned (.plain (OpenSpec.ofChange counterReadsSpec)) counterReadsCard

/-- THE TIED CARD OF 'edenlaw4.CounterRuns'. -/
def counterRunsCard : Claim7 := { stood := { row := counterRunsRow, standIns := [], harness := (true, "bc8cfca2d874549f0a992c94c1490e08d2f80f8b8aacdb592acc88604ecbe75f"), looks := true }, kinds := [], alts := [], laidByText := true, laidKinds := [.data, .data, .data, .handle, .sentinel, .data, .data, .data], laidTests := true, laidLooks := .later }
def CounterRunsCardSaid : Prop := Claim7.holds Tryd.pinned (.plain (OpenSpec.ofChange counterRunsSpec)) counterRunsCard

/-- THE TIED CARD OF 'edenlaw4.CounterPlays'. -/
def counterPlaysCard : Claim7 := { stood := { row := counterPlaysRow, standIns := [], harness := (true, "bc8cfca2d874549f0a992c94c1490e08d2f80f8b8aacdb592acc88604ecbe75f"), looks := true }, kinds := [], alts := [], laidByText := true, laidKinds := [.handle, .sentinel], laidTests := true, laidLooks := .later }
def CounterPlaysCardSaid : Prop := Claim7.holds Tryd.pinned (.plain (OpenSpec.ofChange counterPlaysSpec)) counterPlaysCard

/-- THE SECOND FORM's CARD OF 'edenlaw3.PlaneParent'. -/
def planeParentUptoCard : Claim7 := { stood := { row := planeParentUptoRow, standIns := [], harness := (true, "bc8cfca2d874549f0a992c94c1490e08d2f80f8b8aacdb592acc88604ecbe75f"), looks := true }, kinds := [], alts := [], laidByText := true, laidKinds := [.handle], laidTests := true, laidLooks := .later }
def PlaneParentUptoCardSaid : Prop := Claim7.holds Tryd.pinned (.plain (OpenSpec.upto planeParentSpec)) planeParentUptoCard

/-- THE SECOND FORM's CARD OF 'edenlaw3.PlaneEden'. -/
def planeEdenUptoCard : Claim7 := { stood := { row := planeEdenUptoRow, standIns := [], harness := (true, "bc8cfca2d874549f0a992c94c1490e08d2f80f8b8aacdb592acc88604ecbe75f"), looks := true }, kinds := [], alts := [], laidByText := true, laidKinds := [.data, .handle], laidTests := true, laidLooks := .later }
def PlaneEdenUptoCardSaid : Prop := Claim7.holds Tryd.pinned (.plain (OpenSpec.upto planeEdenSpec)) planeEdenUptoCard

/-- THE SECOND FORM's CARD OF 'edenlaw3.HashPuts'. -/
def hashPutsUptoCard : Claim7 := { stood := { row := hashPutsUptoRow, standIns := [], harness := (true, "bc8cfca2d874549f0a992c94c1490e08d2f80f8b8aacdb592acc88604ecbe75f"), looks := true }, kinds := [], alts := [], laidByText := true, laidKinds := [.data], laidTests := true, laidLooks := .later }
def HashPutsUptoCardSaid : Prop := Claim7.holds Tryd.pinned (.plain (OpenSpec.upto hashPutsSpec)) hashPutsUptoCard

/-- THE SECOND FORM's CARD OF 'edenlaw4.AntWalks'. -/
def antWalksUptoCard : Claim7 := { stood := { row := antWalksUptoRow, standIns := [], harness := (true, "bc8cfca2d874549f0a992c94c1490e08d2f80f8b8aacdb592acc88604ecbe75f"), looks := true }, kinds := [], alts := [], laidByText := true, laidKinds := [.handle], laidTests := true, laidLooks := .later }
def AntWalksUptoCardSaid : Prop := Claim7.holds Tryd.pinned (.plain (OpenSpec.upto antWalksSpec)) antWalksUptoCard

/-- THE SECOND FORM's CARD OF 'edenlaw4.CounterReads'. -/
def counterReadsUptoCard : Claim7 := { stood := { row := counterReadsUptoRow, standIns := [], harness := (true, "bc8cfca2d874549f0a992c94c1490e08d2f80f8b8aacdb592acc88604ecbe75f"), looks := true }, kinds := [], alts := [], laidByText := true, laidKinds := [.data, .handle, .data, .data, .pinned], laidTests := true, laidLooks := .later }
def CounterReadsUptoCardSaid : Prop := Claim7.holds Tryd.pinned (.plain (OpenSpec.upto counterReadsSpec)) counterReadsUptoCard

/-- THE SECOND FORM's CARD OF 'edenlaw4.CounterRuns'. -/
def counterRunsUptoCard : Claim7 := { stood := { row := counterRunsUptoRow, standIns := [], harness := (true, "bc8cfca2d874549f0a992c94c1490e08d2f80f8b8aacdb592acc88604ecbe75f"), looks := true }, kinds := [], alts := [], laidByText := true, laidKinds := [.data, .data, .data, .handle, .sentinel, .data, .data, .data], laidTests := true, laidLooks := .later }
def CounterRunsUptoCardSaid : Prop := Claim7.holds Tryd.pinned (.plain (OpenSpec.upto counterRunsSpec)) counterRunsUptoCard

/-- THE SECOND FORM's CARD OF 'edenlaw4.CounterPlays'. -/
def counterPlaysUptoCard : Claim7 := { stood := { row := counterPlaysUptoRow, standIns := [], harness := (true, "bc8cfca2d874549f0a992c94c1490e08d2f80f8b8aacdb592acc88604ecbe75f"), looks := true }, kinds := [], alts := [], laidByText := true, laidKinds := [.handle, .sentinel], laidTests := true, laidLooks := .later }
def CounterPlaysUptoCardSaid : Prop := Claim7.holds Tryd.pinned (.plain (OpenSpec.upto counterPlaysSpec)) counterPlaysUptoCard
end Rows
end Go.Proofs.YtdkomlgkkepioaaDoor
