/-
  DERIVED. GIVEN WITH THE SEED: THE CARDS: each row of YtpajdmhgonmgoaaDoorRows.lean that lists a variable, with what it lists TIED to the program's text (the seventh form; the later family's looks); each row that meets fmt, with fmt's text TOLD by the authors' own Lean function (tested against real Go, not proved from fmt's source: count such statements apart). THE CARD IS WHAT COUNTS. Prove the row's statement (the work); the ties are given (YtpajdmhgonmgoaaDoorTie.lean); close each card by the builder's one call (the guide's Derived/Test/ToyasCard.lean, 'card_holds'). Laid BY PROGRAM, IN A SANDBOX (cutbox-door.mjs). By AI agents, Wed Nov 11 2026. No macro, syntax, notation, axiom, sorry.
-/
import Derived.Test.YtpajdmhgonmgoaaDoorRows
import GoSem.ClaimSeven
namespace Go.Proofs.YtpajdmhgonmgoaaDoor
namespace Rows

/-- THE TIED CARD OF 'edenlaw5.SandSettles'. -/
def sandSettlesCard : Claim7 := { stood := { row := sandSettlesRow, standIns := [], harness := (true, "6bcac2e478a4907aadb9d480fb67da2e33eafc12627d7fe7dcadb997f31739e0"), looks := true }, kinds := [], alts := [], goes := true, laidByText := true, laidKinds := [.handle], laidTests := true, laidLooks := .later }
def SandSettlesCardSaid : Prop := Claim7.holds Tryd.pinned (.plain (OpenSpec.ofChange sandSettlesSpec)) sandSettlesCard

/-- THE TIED CARD OF 'edenlaw5.SandOrder'. -/
def sandOrderCard : Claim7 := { stood := { row := sandOrderRow, standIns := [], harness := (true, "6bcac2e478a4907aadb9d480fb67da2e33eafc12627d7fe7dcadb997f31739e0"), looks := true }, kinds := [], alts := [], goes := true, laidByText := true, laidKinds := [.handle], laidTests := true, laidLooks := .later }
def SandOrderCardSaid : Prop := Claim7.holds Tryd.pinned (.plain (OpenSpec.ofChange sandOrderSpec)) sandOrderCard

/-- THE SECOND FORM's CARD OF 'edenlaw5.SandSettles'. -/
def sandSettlesUptoCard : Claim7 := { stood := { row := sandSettlesUptoRow, standIns := [], harness := (true, "6bcac2e478a4907aadb9d480fb67da2e33eafc12627d7fe7dcadb997f31739e0"), looks := true }, kinds := [], alts := [], goes := true, laidByText := true, laidKinds := [.handle], laidTests := true, laidLooks := .later }
def SandSettlesUptoCardSaid : Prop := Claim7.holds Tryd.pinned (.plain (OpenSpec.upto sandSettlesSpec)) sandSettlesUptoCard

/-- THE SECOND FORM's CARD OF 'edenlaw5.SandOrder'. -/
def sandOrderUptoCard : Claim7 := { stood := { row := sandOrderUptoRow, standIns := [], harness := (true, "6bcac2e478a4907aadb9d480fb67da2e33eafc12627d7fe7dcadb997f31739e0"), looks := true }, kinds := [], alts := [], goes := true, laidByText := true, laidKinds := [.handle], laidTests := true, laidLooks := .later }
def SandOrderUptoCardSaid : Prop := Claim7.holds Tryd.pinned (.plain (OpenSpec.upto sandOrderSpec)) sandOrderUptoCard
end Rows
end Go.Proofs.YtpajdmhgonmgoaaDoor
