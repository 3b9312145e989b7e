/-
  What the last text of this claim leans on, part 10: Ga4, Gb4, Gb5, Ga6, Ga7, Ga8, Gc2.
-/
import Derived.Test.YtbkllhlapdmlfaaQn9
import Derived.Deep.CutRange
import Derived.Laws.BitsAllLaws
import Derived.BigRegion
import Derived.Deep.RegionHeld3
namespace Go.Proofs.Ytbkllhlapdmlfaa
open Go.RowKit
set_option linter.unusedVariables false
end Go.Proofs.Ytbkllhlapdmlfaa

namespace Go.Proofs.Ytbkllhlapdmlfaa
open Go.RowKit
set_option linter.unusedVariables false
def u16F (f : Nat → Nat) (j : Nat) : Value := .int .u16 (f j : Int)
def OR (w : World) (g n : Nat) (f : Nat → Nat) : Prop := w.heap[g]? = some (.cells (arrF (n * 6) (u16F f)) 86 (0, 0))
theorem OR.cell {w : World} {g n : Nat} {f : Nat → Nat} (h : OR w g n f) {k : Nat} (hk : k < n * 6) : w.cell? ⟨g, k, none⟩ = some (.int .u16 (f k : Int)) := by
  rw [cell_of_row w _ _ _ _ _ h, arrF_get _ hk]; rfl
end Go.Proofs.Ytbkllhlapdmlfaa

namespace Go.Proofs.Ytbkllhlapdmlfaa
open Go.RowKit
set_option linter.unusedVariables false
/-- What stands while the table is filled. -/
structure SR (w w3 wr : World) (n : Nat) (f : Nat → Nat) : Prop where
  keep : ∀ j, j < w3.heap.size → j ≠ w.heap.size + 1 → wr.heap[j]? = w3.heap[j]?
  tab : OR wr (w.heap.size + 1) n f
  below : Below w.heap.size w wr
  size : w3.heap.size ≤ wr.heap.size
theorem SR.drew {w w3 wr : World} {n : Nat} {f : Nat → Nat} (h : SR w w3 wr n f) : SR w w3 wr.drew n f := ⟨h.keep, h.tab, h.below.drew, h.size⟩
end Go.Proofs.Ytbkllhlapdmlfaa

namespace Go.Proofs.Ytbkllhlapdmlfaa
open Go.RowKit
set_option linter.unusedVariables false
end Go.Proofs.Ytbkllhlapdmlfaa

namespace Go.Proofs.Ytbkllhlapdmlfaa
open Go.RowKit
set_option linter.unusedVariables false
end Go.Proofs.Ytbkllhlapdmlfaa

namespace Go.Proofs.Ytbkllhlapdmlfaa
open Go.RowKit
set_option linter.unusedVariables false
/-- The table while it is made. -/
structure MB (w wr : World) (M : Nat → Nat) : Prop where
  tab : wr.heap[w.heap.size]? = some (.cells (arrF 128 (u8F M)) 81 (0, 0))
  below : Below w.heap.size w wr
theorem MB.cell {w wr : World} {M : Nat → Nat} (h : MB w wr M) {j : Nat} (hj : j < 128) : wr.cell? ⟨w.heap.size, j, none⟩ = some (.int .u8 (M j : Int)) ∧ wr.frozen? ⟨w.heap.size, j, none⟩ = false := by
  exact ⟨by rw [cell_of_row wr _ _ _ _ _ h.tab, arrF_get _ hj]; rfl, frozen_of_row wr _ _ _ _ h.tab⟩
theorem MB.drew {w wr : World} {M : Nat → Nat} (h : MB w wr M) : MB w wr.drew M := ⟨h.tab, h.below.drew⟩
theorem MB.lt {w wr : World} {M : Nat → Nat} (h : MB w wr M) : w.heap.size < wr.heap.size := lt_of_block h.tab
end Go.Proofs.Ytbkllhlapdmlfaa

namespace Go.Proofs.Ytbkllhlapdmlfaa
open Go.RowKit
set_option linter.unusedVariables false
end Go.Proofs.Ytbkllhlapdmlfaa

