/-
  DERIVED. GIVEN WITH THE SEED: THE CARDS: each row of YtopcgkncmhhkmaaDoorRows.lean that lists a variable, with what it lists TIED to the program's text (the seventh form; the later family's looks); each row that meets fmt, with fmt's text TOLD by the authors' own Lean function (tested against real Go, not proved from fmt's source: count such statements apart). THE CARD IS WHAT COUNTS. Prove the row's statement (the work); the ties are given (YtopcgkncmhhkmaaDoorTie.lean); close each card by the builder's one call (the guide's Derived/Test/ToyasCard.lean, 'card_holds'). Laid BY PROGRAM, IN A SANDBOX (cutbox-door.mjs). By AI agents, Wed Nov 11 2026. No macro, syntax, notation, axiom, sorry.
-/
import Derived.Test.YtopcgkncmhhkmaaDoorRows
import GoSem.ClaimSeven
namespace Go.Proofs.YtopcgkncmhhkmaaDoor
namespace Rows

/-- THE TIED CARD OF 'edenlaw6.SpinsCounts'. -/
def spinsCountsCard : Claim7 := { stood := { row := spinsCountsRow, standIns := [], harness := (true, "3f0e5df47713b9812d697e4136eedcf08e4749f421bc7b8ed4030b1671506355"), looks := true }, kinds := [], alts := [], laidByText := true, laidKinds := [.data, .data, .handle], laidTests := true, laidLooks := .later }
def SpinsCountsCardSaid : Prop := Claim7.holds Tryd.pinned (.plain (OpenSpec.ofChange spinsCountsSpec)) spinsCountsCard

/-- THE TIED CARD OF 'edenlaw6.SpinsDual'. -/
def spinsDualCard : Claim7 := { stood := { row := spinsDualRow, standIns := [], harness := (true, "3f0e5df47713b9812d697e4136eedcf08e4749f421bc7b8ed4030b1671506355"), looks := true }, kinds := [], alts := [], laidByText := true, laidKinds := [.data, .data], laidTests := true, laidLooks := .later }
def SpinsDualCardSaid : Prop := Claim7.holds Tryd.pinned (.plain (OpenSpec.ofChange spinsDualSpec)) spinsDualCard

/-- THE SECOND FORM's CARD OF 'edenlaw6.SpinsCounts'. -/
def spinsCountsUptoCard : Claim7 := { stood := { row := spinsCountsUptoRow, standIns := [], harness := (true, "3f0e5df47713b9812d697e4136eedcf08e4749f421bc7b8ed4030b1671506355"), looks := true }, kinds := [], alts := [], laidByText := true, laidKinds := [.data, .data, .handle], laidTests := true, laidLooks := .later }
def SpinsCountsUptoCardSaid : Prop := Claim7.holds Tryd.pinned (.plain (OpenSpec.upto spinsCountsSpec)) spinsCountsUptoCard

/-- THE SECOND FORM's CARD OF 'edenlaw6.SpinsDual'. -/
def spinsDualUptoCard : Claim7 := { stood := { row := spinsDualUptoRow, standIns := [], harness := (true, "3f0e5df47713b9812d697e4136eedcf08e4749f421bc7b8ed4030b1671506355"), looks := true }, kinds := [], alts := [], laidByText := true, laidKinds := [.data, .data], laidTests := true, laidLooks := .later }
def SpinsDualUptoCardSaid : Prop := Claim7.holds Tryd.pinned (.plain (OpenSpec.upto spinsDualSpec)) spinsDualUptoCard
end Rows
end Go.Proofs.YtopcgkncmhhkmaaDoor
