/-
  What the last text of this claim leans on, part 14: As, Err, OpenP, OpenZs.
-/
import Derived.Test.YtopcgkncmhhkmaaDoorProg
import Derived.Test.YtopcgkncmhhkmaaDoorZd1
import Derived.Test.YtopcgkncmhhkmaaDoorRows
import Derived.Test.YtopcgkncmhhkmaaDoorCards
import Derived.Test.YtopcgkncmhhkmaaDoorTie
import Derived.Test.YtopcgkncmhhkmaaDoorZd9
import Derived.WalkKit
import Derived.LaidEql
import Derived.Stop.Asserts
import Derived.RowKitTokens
import Derived.WalkSpells
import Derived.WalkLawsBesides
import Derived.ProofKit
import Derived.OpenShut
import Derived.ChangeSame
import Derived.ChangeSlices
import Derived.ChangeVars
import Derived.JoinedOf
import Derived.RowKit
import Derived.LaidLaws
import Derived.LaidHandle
import Derived.LaidSub
import Derived.Lay
import Derived.Carry
import Derived.Stop.Joined
import Derived.SevenTiedAt
import Derived.Lib.LaidTab
namespace Go.Proofs.YtopcgkncmhhkmaaDoor
open Go.RowKit Go.Extern.Stop Go.Stop Go.Extern

end Go.Proofs.YtopcgkncmhhkmaaDoor

namespace Go.Proofs.YtopcgkncmhhkmaaDoor
open Go.RowKit

/-- The cell of errors.errorType holds the handle of the type error. -/
def Handle (w : World) : Prop := w.cell? ⟨0, 0, none⟩ = some (.iface 81 (.agg #[.pointer (some ⟨3, 25, none⟩)]))

theorem Handle.lt {w : World} (hg : Handle w) : 0 < w.heap.size := by
  unfold Handle at hg
  rcases Nat.lt_or_ge 0 w.heap.size with h | h
  · exact h
  · simp [World.cell?, Array.getElem?_eq_none h] at hg

end Go.Proofs.YtopcgkncmhhkmaaDoor

namespace Go.Proofs.YtopcgkncmhhkmaaDoor
open Go.ChangeShapes Go.WideShapes Go.ChangeAt Go.RowKit
open Go.ChangeMaps (setBlock shut_map_nil open_string shut_string keptBut_setBlock frozen?_setBlock heap_setBlock_same)
set_option linter.unusedVariables false

theorem ownP : ownKnob Tryd.prog.godebug = none := by kernel_rfl
end Go.Proofs.YtopcgkncmhhkmaaDoor

namespace Go.Proofs.YtopcgkncmhhkmaaDoor
open Go.ChangeShapes Go.WideShapes Go.ChangeAt Go.RowKit
set_option linter.unusedVariables false

theorem tzAt : Tryd.prog.globalNamed "math/bits.deBruijn64tab" = some 2 := by kernel_rfl
theorem tz_of_laid {W : World} {l : List (String × DataW Unit)} (he : (l.filter fun x => x.1 == "math/bits.deBruijn64tab") = [("math/bits.deBruijn64tab", Lib.tabData .u8 (Lib.deBruijn64tab.map fun (x : Nat) => (x : Int)))])
    (h : laidMet Tryd.prog l W) : TzTab W := by
  have h1 := h.filter fun x => x.1 == "math/bits.deBruijn64tab"
  rw [he] at h1
  have h2 := Lib.tabIs_of_head tzAt (show (Tryd.prog.globals[2]?).map (·.type) = some 95 by kernel_rfl) Tryd.underlying95 Tryd.underlying5 (by kernel_rfl) (by kernel_rfl) h1
  intro j hj
  have hl : Lib.deBruijn64tab.length = 64 := by decide
  have h3 := h2.cell tzAt j (by rw [List.length_map, hl]; exact hj)
  rw [h3]
  have hj' : j < Lib.deBruijn64tab.length := by rw [hl]; exact hj
  simp [List.getD, hj']
end Go.Proofs.YtopcgkncmhhkmaaDoor

