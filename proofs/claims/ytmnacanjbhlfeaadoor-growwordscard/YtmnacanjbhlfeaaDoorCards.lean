/-
  DERIVED. GIVEN WITH THE SEED: THE CARDS: each row of YtmnacanjbhlfeaaDoorRows.lean that lists a variable, with what it lists TIED to the program's text (the seventh form; the later family's looks); each row that meets fmt, with fmt's text TOLD by the authors' own Lean function (tested against real Go, not proved from fmt's source: count such statements apart). THE CARD IS WHAT COUNTS. Prove the row's statement (the work); the ties are given (YtmnacanjbhlfeaaDoorTie.lean); close each card by the builder's one call (the guide's Derived/Test/ToyasCard.lean, 'card_holds'). Laid BY PROGRAM, IN A SANDBOX (cutbox-door.mjs). By AI agents, Wed Nov 11 2026. No macro, syntax, notation, axiom, sorry.
-/
import Derived.Test.YtmnacanjbhlfeaaDoorRows
import GoSem.ClaimSeven
namespace Go.Proofs.YtmnacanjbhlfeaaDoor
namespace Rows

/-- THE TIED CARD OF 'edenlaw6.GrowWords'. -/
def growWordsCard : Claim7 := { stood := { row := growWordsRow, standIns := [], harness := (true, "7d577ae541768d43353be0f144bbd8f26a6dea28beae21157cb6e42be2ec8faf"), looks := true }, kinds := [], alts := [], laidByText := true, laidKinds := [.handle], laidTests := true, laidLooks := .later }
def GrowWordsCardSaid : Prop := Claim7.holds Tryd.pinned (.plain (OpenSpec.ofChange growWordsSpec)) growWordsCard

/-- THE TIED CARD OF 'edenlaw6.GrowLetters'. -/
def growLettersCard : Claim7 := { stood := { row := growLettersRow, standIns := [], harness := (true, "7d577ae541768d43353be0f144bbd8f26a6dea28beae21157cb6e42be2ec8faf"), looks := true }, kinds := [], alts := [], laidByText := true, laidKinds := [.handle], laidTests := true, laidLooks := .later }
def GrowLettersCardSaid : Prop := Claim7.holds Tryd.pinned (.plain (OpenSpec.ofChange growLettersSpec)) growLettersCard

/-- THE SECOND FORM's CARD OF 'edenlaw6.GrowWords'. -/
def growWordsUptoCard : Claim7 := { stood := { row := growWordsUptoRow, standIns := [], harness := (true, "7d577ae541768d43353be0f144bbd8f26a6dea28beae21157cb6e42be2ec8faf"), looks := true }, kinds := [], alts := [], laidByText := true, laidKinds := [.handle], laidTests := true, laidLooks := .later }
def GrowWordsUptoCardSaid : Prop := Claim7.holds Tryd.pinned (.plain (OpenSpec.upto growWordsSpec)) growWordsUptoCard

/-- THE SECOND FORM's CARD OF 'edenlaw6.GrowLetters'. -/
def growLettersUptoCard : Claim7 := { stood := { row := growLettersUptoRow, standIns := [], harness := (true, "7d577ae541768d43353be0f144bbd8f26a6dea28beae21157cb6e42be2ec8faf"), looks := true }, kinds := [], alts := [], laidByText := true, laidKinds := [.handle], laidTests := true, laidLooks := .later }
def GrowLettersUptoCardSaid : Prop := Claim7.holds Tryd.pinned (.plain (OpenSpec.upto growLettersSpec)) growLettersUptoCard
end Rows
end Go.Proofs.YtmnacanjbhlfeaaDoor
