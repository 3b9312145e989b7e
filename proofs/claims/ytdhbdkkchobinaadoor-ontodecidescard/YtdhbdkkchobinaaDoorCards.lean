/-
  DERIVED. GIVEN WITH THE SEED: THE CARDS: each row of YtdhbdkkchobinaaDoorRows.lean that lists a variable, with what it lists TIED to the program's text (the seventh form; the later family's looks); each row that meets fmt, with fmt's text TOLD by the authors' own Lean function (tested against real Go, not proved from fmt's source: count such statements apart). THE CARD IS WHAT COUNTS. Prove the row's statement (the work); the ties are given (YtdhbdkkchobinaaDoorTie.lean); close each card by the builder's one call (the guide's Derived/Test/ToyasCard.lean, 'card_holds'). Laid BY PROGRAM, IN A SANDBOX (cutbox-door.mjs). By AI agents, Wed Nov 11 2026. No macro, syntax, notation, axiom, sorry.
-/
import Derived.Test.YtdhbdkkchobinaaDoorRows
import GoSem.ClaimSeven
namespace Go.Proofs.YtdhbdkkchobinaaDoor
namespace Rows

/-- THE TIED CARD OF 'edenlaw1.RulesParses'. -/
def rulesParsesCard : Claim7 := { stood := { row := rulesParsesRow, standIns := [], harness := (true, "5fb3d2698889a94b9cdceee72e39a82e3cca62e7a8fbda6ce9fcc1bdf9e39400"), looks := true }, kinds := [], alts := [], laidByText := true, laidKinds := [.handle], laidTests := true, laidLooks := .later }
def RulesParsesCardSaid : Prop := Claim7.holds Tryd.pinned (.plain (OpenSpec.ofChange rulesParsesSpec)) rulesParsesCard

/-- THE TIED CARD OF 'edenlaw1.RulesPrints'. -/
def rulesPrintsCard : Claim7 := { stood := { row := rulesPrintsRow, standIns := [], harness := (true, "5fb3d2698889a94b9cdceee72e39a82e3cca62e7a8fbda6ce9fcc1bdf9e39400"), looks := true }, kinds := [], alts := [], laidByText := true, laidKinds := [.data, .data, .data, .handle], laidTests := true, laidLooks := .later }
def RulesPrintsCardSaid : Prop := Claim7.holds Tryd.pinned (.plain (OpenSpec.ofChange rulesPrintsSpec)) rulesPrintsCard

/-- THE TIED CARD OF 'edenlaw1.RulesBack'. -/
def rulesBackCard : Claim7 := { stood := { row := rulesBackRow, standIns := [], harness := (true, "5fb3d2698889a94b9cdceee72e39a82e3cca62e7a8fbda6ce9fcc1bdf9e39400"), looks := true }, kinds := [], alts := [], laidByText := true, laidKinds := [.data, .data, .data], laidTests := true, laidLooks := .later }
def RulesBackCardSaid : Prop := Claim7.holds Tryd.pinned (.plain (OpenSpec.ofChange rulesBackSpec)) rulesBackCard

/-- THE TIED CARD OF 'edenlaw1.PatternWrites'. -/
def patternWritesCard : Claim7 := { stood := { row := patternWritesRow, standIns := [], harness := (true, "5fb3d2698889a94b9cdceee72e39a82e3cca62e7a8fbda6ce9fcc1bdf9e39400"), looks := true }, kinds := [], alts := [], laidByText := true, laidKinds := [.data, .data, .data, .handle], laidTests := true, laidLooks := .later }
def PatternWritesCardSaid : Prop := Claim7.holds Tryd.pinned (.plain (OpenSpec.ofChange patternWritesSpec)) patternWritesCard

/-- THE TIED CARD OF 'edenlaw1.PatternReads'. -/
def patternReadsCard : Claim7 := { stood := { row := patternReadsRow, standIns := [], harness := (true, "5fb3d2698889a94b9cdceee72e39a82e3cca62e7a8fbda6ce9fcc1bdf9e39400"), looks := true }, kinds := [], alts := [], laidByText := true, laidKinds := [.handle], laidTests := true, laidLooks := .later }
def PatternReadsCardSaid : Prop := Claim7.holds Tryd.pinned (.plain (OpenSpec.ofChange patternReadsSpec)) patternReadsCard

/-- THE TIED CARD OF 'edenlaw1.PatternBack'. -/
def patternBackCard : Claim7 := { stood := { row := patternBackRow, standIns := [], harness := (true, "5fb3d2698889a94b9cdceee72e39a82e3cca62e7a8fbda6ce9fcc1bdf9e39400"), looks := true }, kinds := [], alts := [], laidByText := true, laidKinds := [.data, .data, .data], laidTests := true, laidLooks := .later }
def PatternBackCardSaid : Prop := Claim7.holds Tryd.pinned (.plain (OpenSpec.ofChange patternBackSpec)) patternBackCard

/-- THE TIED CARD OF 'edenlaw2.LineSteps'. -/
def lineStepsCard : Claim7 := { stood := { row := lineStepsRow, standIns := [], harness := (true, "5fb3d2698889a94b9cdceee72e39a82e3cca62e7a8fbda6ce9fcc1bdf9e39400"), looks := true }, kinds := [], alts := [], laidByText := true, laidKinds := [.handle], laidTests := true, laidLooks := .later }
def LineStepsCardSaid : Prop := Claim7.holds Tryd.pinned (.plain (OpenSpec.ofChange lineStepsSpec)) lineStepsCard

/-- THE TIED CARD OF 'edenlaw2.LineCycles'. -/
def lineCyclesCard : Claim7 := { stood := { row := lineCyclesRow, standIns := [], harness := (true, "5fb3d2698889a94b9cdceee72e39a82e3cca62e7a8fbda6ce9fcc1bdf9e39400"), looks := true }, kinds := [], alts := [], laidByText := true, laidKinds := [.handle], laidTests := true, laidLooks := .later }
def LineCyclesCardSaid : Prop := Claim7.holds Tryd.pinned (.plain (OpenSpec.ofChange lineCyclesSpec)) lineCyclesCard

/-- THE TIED CARD OF 'edenlaw2.LineMakes'. -/
def lineMakesCard : Claim7 := { stood := { row := lineMakesRow, standIns := [], harness := (true, "5fb3d2698889a94b9cdceee72e39a82e3cca62e7a8fbda6ce9fcc1bdf9e39400"), looks := true }, kinds := [], alts := [], laidByText := true, laidKinds := [.handle], laidTests := true, laidLooks := .later }
def LineMakesCardSaid : Prop := Claim7.holds Tryd.pinned (.plain (OpenSpec.ofChange lineMakesSpec)) lineMakesCard

/-- THE TIED CARD OF 'edenlaw2.OntoDecides'. -/
def ontoDecidesCard : Claim7 := { stood := { row := ontoDecidesRow, standIns := [], harness := (true, "5fb3d2698889a94b9cdceee72e39a82e3cca62e7a8fbda6ce9fcc1bdf9e39400"), looks := true }, kinds := [], alts := [], laidByText := true, laidKinds := [.data, .data, .handle], laidTests := true, laidLooks := .later }
def OntoDecidesCardSaid : Prop := Claim7.holds Tryd.pinned (.plain (OpenSpec.ofChange ontoDecidesSpec)) ontoDecidesCard

/-- THE TIED CARD OF 'edenlaw2.OntoParents'. -/
def ontoParentsCard : Claim7 := { stood := { row := ontoParentsRow, standIns := [], harness := (true, "5fb3d2698889a94b9cdceee72e39a82e3cca62e7a8fbda6ce9fcc1bdf9e39400"), looks := true }, kinds := [], alts := [], laidByText := true, laidKinds := [.handle], laidTests := true, laidLooks := .later }
def OntoParentsCardSaid : Prop := Claim7.holds Tryd.pinned (.plain (OpenSpec.ofChange ontoParentsSpec)) ontoParentsCard

/-- THE TIED CARD OF 'edenlaw2.OntoGarden'. -/
def ontoGardenCard : Claim7 := { stood := { row := ontoGardenRow, standIns := [], harness := (true, "5fb3d2698889a94b9cdceee72e39a82e3cca62e7a8fbda6ce9fcc1bdf9e39400"), looks := true }, kinds := [], alts := [], laidByText := true, laidKinds := [.data, .data], laidTests := true, laidLooks := .later }
def OntoGardenCardSaid : Prop := Claim7.holds Tryd.pinned (.plain (OpenSpec.ofChange ontoGardenSpec)) ontoGardenCard

/-- THE TIED CARD OF 'edenlaw2.OntoInverse'. -/
def ontoInverseCard : Claim7 := { stood := { row := ontoInverseRow, standIns := [], harness := (true, "5fb3d2698889a94b9cdceee72e39a82e3cca62e7a8fbda6ce9fcc1bdf9e39400"), looks := true }, kinds := [], alts := [], laidByText := true, laidKinds := [.handle], laidTests := true, laidLooks := .later }
def OntoInverseCardSaid : Prop := Claim7.holds Tryd.pinned (.plain (OpenSpec.ofChange ontoInverseSpec)) ontoInverseCard

/-- THE TIED CARD OF 'edenlaw2.SumsLinear'. -/
def sumsLinearCard : Claim7 := { stood := { row := sumsLinearRow, standIns := [], harness := (true, "5fb3d2698889a94b9cdceee72e39a82e3cca62e7a8fbda6ce9fcc1bdf9e39400"), looks := true }, kinds := [], alts := [], laidByText := true, laidKinds := [.handle], laidTests := true, laidLooks := .later }
def SumsLinearCardSaid : Prop := Claim7.holds Tryd.pinned (.plain (OpenSpec.ofChange sumsLinearSpec)) sumsLinearCard

/-- THE TIED CARD OF 'edenlaw2.SumsOnto'. -/
def sumsOntoCard : Claim7 := { stood := { row := sumsOntoRow, standIns := [], harness := (true, "5fb3d2698889a94b9cdceee72e39a82e3cca62e7a8fbda6ce9fcc1bdf9e39400"), looks := true }, kinds := [], alts := [], laidByText := true, laidKinds := [.data, .data], laidTests := true, laidLooks := .later }
def SumsOntoCardSaid : Prop := Claim7.holds Tryd.pinned (.plain (OpenSpec.ofChange sumsOntoSpec)) sumsOntoCard

/-- THE SECOND FORM's CARD OF 'edenlaw1.RulesParses'. -/
def rulesParsesUptoCard : Claim7 := { stood := { row := rulesParsesUptoRow, standIns := [], harness := (true, "5fb3d2698889a94b9cdceee72e39a82e3cca62e7a8fbda6ce9fcc1bdf9e39400"), looks := true }, kinds := [], alts := [], laidByText := true, laidKinds := [.handle], laidTests := true, laidLooks := .later }
def RulesParsesUptoCardSaid : Prop := Claim7.holds Tryd.pinned (.plain (OpenSpec.upto rulesParsesSpec)) rulesParsesUptoCard

/-- THE SECOND FORM's CARD OF 'edenlaw1.RulesPrints'. -/
def rulesPrintsUptoCard : Claim7 := { stood := { row := rulesPrintsUptoRow, standIns := [], harness := (true, "5fb3d2698889a94b9cdceee72e39a82e3cca62e7a8fbda6ce9fcc1bdf9e39400"), looks := true }, kinds := [], alts := [], laidByText := true, laidKinds := [.data, .data, .data, .handle], laidTests := true, laidLooks := .later }
def RulesPrintsUptoCardSaid : Prop := Claim7.holds Tryd.pinned (.plain (OpenSpec.upto rulesPrintsSpec)) rulesPrintsUptoCard

/-- THE SECOND FORM's CARD OF 'edenlaw1.RulesBack'. -/
def rulesBackUptoCard : Claim7 := { stood := { row := rulesBackUptoRow, standIns := [], harness := (true, "5fb3d2698889a94b9cdceee72e39a82e3cca62e7a8fbda6ce9fcc1bdf9e39400"), looks := true }, kinds := [], alts := [], laidByText := true, laidKinds := [.data, .data, .data], laidTests := true, laidLooks := .later }
def RulesBackUptoCardSaid : Prop := Claim7.holds Tryd.pinned (.plain (OpenSpec.upto rulesBackSpec)) rulesBackUptoCard

/-- THE SECOND FORM's CARD OF 'edenlaw1.PatternWrites'. -/
def patternWritesUptoCard : Claim7 := { stood := { row := patternWritesUptoRow, standIns := [], harness := (true, "5fb3d2698889a94b9cdceee72e39a82e3cca62e7a8fbda6ce9fcc1bdf9e39400"), looks := true }, kinds := [], alts := [], laidByText := true, laidKinds := [.data, .data, .data, .handle], laidTests := true, laidLooks := .later }
def PatternWritesUptoCardSaid : Prop := Claim7.holds Tryd.pinned (.plain (OpenSpec.upto patternWritesSpec)) patternWritesUptoCard

/-- THE SECOND FORM's CARD OF 'edenlaw1.PatternReads'. -/
def patternReadsUptoCard : Claim7 := { stood := { row := patternReadsUptoRow, standIns := [], harness := (true, "5fb3d2698889a94b9cdceee72e39a82e3cca62e7a8fbda6ce9fcc1bdf9e39400"), looks := true }, kinds := [], alts := [], laidByText := true, laidKinds := [.handle], laidTests := true, laidLooks := .later }
def PatternReadsUptoCardSaid : Prop := Claim7.holds Tryd.pinned (.plain (OpenSpec.upto patternReadsSpec)) patternReadsUptoCard

/-- THE SECOND FORM's CARD OF 'edenlaw1.PatternBack'. -/
def patternBackUptoCard : Claim7 := { stood := { row := patternBackUptoRow, standIns := [], harness := (true, "5fb3d2698889a94b9cdceee72e39a82e3cca62e7a8fbda6ce9fcc1bdf9e39400"), looks := true }, kinds := [], alts := [], laidByText := true, laidKinds := [.data, .data, .data], laidTests := true, laidLooks := .later }
def PatternBackUptoCardSaid : Prop := Claim7.holds Tryd.pinned (.plain (OpenSpec.upto patternBackSpec)) patternBackUptoCard

/-- THE SECOND FORM's CARD OF 'edenlaw2.LineSteps'. -/
def lineStepsUptoCard : Claim7 := { stood := { row := lineStepsUptoRow, standIns := [], harness := (true, "5fb3d2698889a94b9cdceee72e39a82e3cca62e7a8fbda6ce9fcc1bdf9e39400"), looks := true }, kinds := [], alts := [], laidByText := true, laidKinds := [.handle], laidTests := true, laidLooks := .later }
def LineStepsUptoCardSaid : Prop := Claim7.holds Tryd.pinned (.plain (OpenSpec.upto lineStepsSpec)) lineStepsUptoCard

/-- THE SECOND FORM's CARD OF 'edenlaw2.LineCycles'. -/
def lineCyclesUptoCard : Claim7 := { stood := { row := lineCyclesUptoRow, standIns := [], harness := (true, "5fb3d2698889a94b9cdceee72e39a82e3cca62e7a8fbda6ce9fcc1bdf9e39400"), looks := true }, kinds := [], alts := [], laidByText := true, laidKinds := [.handle], laidTests := true, laidLooks := .later }
def LineCyclesUptoCardSaid : Prop := Claim7.holds Tryd.pinned (.plain (OpenSpec.upto lineCyclesSpec)) lineCyclesUptoCard

/-- THE SECOND FORM's CARD OF 'edenlaw2.LineMakes'. -/
def lineMakesUptoCard : Claim7 := { stood := { row := lineMakesUptoRow, standIns := [], harness := (true, "5fb3d2698889a94b9cdceee72e39a82e3cca62e7a8fbda6ce9fcc1bdf9e39400"), looks := true }, kinds := [], alts := [], laidByText := true, laidKinds := [.handle], laidTests := true, laidLooks := .later }
def LineMakesUptoCardSaid : Prop := Claim7.holds Tryd.pinned (.plain (OpenSpec.upto lineMakesSpec)) lineMakesUptoCard

/-- THE SECOND FORM's CARD OF 'edenlaw2.OntoDecides'. -/
def ontoDecidesUptoCard : Claim7 := { stood := { row := ontoDecidesUptoRow, standIns := [], harness := (true, "5fb3d2698889a94b9cdceee72e39a82e3cca62e7a8fbda6ce9fcc1bdf9e39400"), looks := true }, kinds := [], alts := [], laidByText := true, laidKinds := [.data, .data, .handle], laidTests := true, laidLooks := .later }
def OntoDecidesUptoCardSaid : Prop := Claim7.holds Tryd.pinned (.plain (OpenSpec.upto ontoDecidesSpec)) ontoDecidesUptoCard

/-- THE SECOND FORM's CARD OF 'edenlaw2.OntoParents'. -/
def ontoParentsUptoCard : Claim7 := { stood := { row := ontoParentsUptoRow, standIns := [], harness := (true, "5fb3d2698889a94b9cdceee72e39a82e3cca62e7a8fbda6ce9fcc1bdf9e39400"), looks := true }, kinds := [], alts := [], laidByText := true, laidKinds := [.handle], laidTests := true, laidLooks := .later }
def OntoParentsUptoCardSaid : Prop := Claim7.holds Tryd.pinned (.plain (OpenSpec.upto ontoParentsSpec)) ontoParentsUptoCard

/-- THE SECOND FORM's CARD OF 'edenlaw2.OntoGarden'. -/
def ontoGardenUptoCard : Claim7 := { stood := { row := ontoGardenUptoRow, standIns := [], harness := (true, "5fb3d2698889a94b9cdceee72e39a82e3cca62e7a8fbda6ce9fcc1bdf9e39400"), looks := true }, kinds := [], alts := [], laidByText := true, laidKinds := [.data, .data], laidTests := true, laidLooks := .later }
def OntoGardenUptoCardSaid : Prop := Claim7.holds Tryd.pinned (.plain (OpenSpec.upto ontoGardenSpec)) ontoGardenUptoCard

/-- THE SECOND FORM's CARD OF 'edenlaw2.OntoInverse'. -/
def ontoInverseUptoCard : Claim7 := { stood := { row := ontoInverseUptoRow, standIns := [], harness := (true, "5fb3d2698889a94b9cdceee72e39a82e3cca62e7a8fbda6ce9fcc1bdf9e39400"), looks := true }, kinds := [], alts := [], laidByText := true, laidKinds := [.handle], laidTests := true, laidLooks := .later }
def OntoInverseUptoCardSaid : Prop := Claim7.holds Tryd.pinned (.plain (OpenSpec.upto ontoInverseSpec)) ontoInverseUptoCard

/-- THE SECOND FORM's CARD OF 'edenlaw2.SumsLinear'. -/
def sumsLinearUptoCard : Claim7 := { stood := { row := sumsLinearUptoRow, standIns := [], harness := (true, "5fb3d2698889a94b9cdceee72e39a82e3cca62e7a8fbda6ce9fcc1bdf9e39400"), looks := true }, kinds := [], alts := [], laidByText := true, laidKinds := [.handle], laidTests := true, laidLooks := .later }
def SumsLinearUptoCardSaid : Prop := Claim7.holds Tryd.pinned (.plain (OpenSpec.upto sumsLinearSpec)) sumsLinearUptoCard

/-- THE SECOND FORM's CARD OF 'edenlaw2.SumsOnto'. -/
def sumsOntoUptoCard : Claim7 := { stood := { row := sumsOntoUptoRow, standIns := [], harness := (true, "5fb3d2698889a94b9cdceee72e39a82e3cca62e7a8fbda6ce9fcc1bdf9e39400"), looks := true }, kinds := [], alts := [], laidByText := true, laidKinds := [.data, .data], laidTests := true, laidLooks := .later }
def SumsOntoUptoCardSaid : Prop := Claim7.holds Tryd.pinned (.plain (OpenSpec.upto sumsOntoSpec)) sumsOntoUptoCard
end Rows
end Go.Proofs.YtdhbdkkchobinaaDoor
