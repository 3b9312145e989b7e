/-
  What the last text of this claim leans on, part 4: Rk6, Parse, Ref4, Pr5, Gp1, Bk1, Gq1, Gq3, Gr1, Gr2, Gq5, Gr3, Gr4, Bk2, Bk3, Bk4, Bk5, Bk6, Ga9, Aa2.
-/
import Derived.Test.YtbkllhlapdmlfaaQn3
import Derived.Test.YtbkllhlapdmlfaaQn1
import Derived.Test.YtbkllhlapdmlfaaQn2
import Derived.Defers
import Derived.Recover
import Derived.Laws.IdiomStrings
import Derived.Laws.BytesArg
import Derived.Laws.Bits64b
import Derived.Laws.BitsAllLaws
import Derived.Lib.TrailingZeros
import Derived.Lib.BitFns
import Derived.ChangeKeysEq
import Derived.Deep.RegionHeld3
import Derived.OwnWalk
import Derived.Deep.DeepAppendRoom
import Derived.BigRegion
import Derived.Deep.CutRange
namespace Go.Proofs.Ytbkllhlapdmlfaa
open Go.RowKit
set_option linter.unusedVariables false

theorem Tab.alloc {w : World} {v : Value} {xs : List Int} (h : Tab w v xs) (o : Obj) : Tab (w.alloc o) v xs := by
  rcases h with h | ⟨g, cap, hv, hg, hc⟩
  · exact Or.inl h
  · have e : (w.alloc o).heap[g]? = w.heap[g]? := Below.heap_alloc _ _ _ hg
    exact Or.inr ⟨g, cap, hv, by rw [World.size_alloc]; omega, fun k hk => (World.cell?_of_block (w := w) (a := ⟨g, k, none⟩) e).trans (hc k hk)⟩
theorem Tab.drewN {w : World} {v : Value} {xs : List Int} (h : Tab w v xs) (n : Nat) : Tab (w.drewN n) v xs := h

end Go.Proofs.Ytbkllhlapdmlfaa

namespace Go.Proofs.Ytbkllhlapdmlfaa
open Go.RowKit
set_option linter.unusedVariables false

/-- The seven cells of a rule at g: they are there. -/
structure Seven (w : World) (g : Nat) (v0 v1 v2 v3 v4 v5 v6 : Value) : Prop where
  c0 : w.cell? ⟨g, 0, none⟩ = some v0
  c1 : w.cell? ⟨g, 1, none⟩ = some v1
  c2 : w.cell? ⟨g, 2, none⟩ = some v2
  c3 : w.cell? ⟨g, 3, none⟩ = some v3
  c4 : w.cell? ⟨g, 4, none⟩ = some v4
  c5 : w.cell? ⟨g, 5, none⟩ = some v5
  c6 : w.cell? ⟨g, 6, none⟩ = some v6
theorem Tab.block {w w' : World} {v : Value} {xs : List Int} (h : Tab w v xs) (hs : w'.heap.size = w.heap.size) (hb : ∀ g k c, v = .slice (some ⟨g, 0, none⟩) k c → w'.heap[g]? = w.heap[g]?) : Tab w' v xs := by
  rcases h with h | ⟨g, cap, hv, hg, hc⟩
  · exact Or.inl h
  · exact Or.inr ⟨g, cap, hv, by rw [hs]; exact hg, fun k hk => (World.cell?_of_block (w := w) (a := ⟨g, k, none⟩) (hb g _ _ hv)).trans (hc k hk)⟩

end Go.Proofs.Ytbkllhlapdmlfaa

namespace Go.Proofs.Ytbkllhlapdmlfaa
open Go.RowKit
set_option linter.unusedVariables false

theorem Seven.block {w w' : World} {g : Nat} {v0 v1 v2 v3 v4 v5 v6 : Value} (h : Seven w g v0 v1 v2 v3 v4 v5 v6) (e : w'.heap[g]? = w.heap[g]?) : Seven w' g v0 v1 v2 v3 v4 v5 v6 := by
  obtain ⟨c0, c1, c2, c3, c4, c5, c6⟩ := h
  exact ⟨(World.cell?_of_block (w := w) (a := ⟨g, 0, none⟩) e).trans c0, (World.cell?_of_block (w := w) (a := ⟨g, 1, none⟩) e).trans c1, (World.cell?_of_block (w := w) (a := ⟨g, 2, none⟩) e).trans c2, (World.cell?_of_block (w := w) (a := ⟨g, 3, none⟩) e).trans c3, (World.cell?_of_block (w := w) (a := ⟨g, 4, none⟩) e).trans c4, (World.cell?_of_block (w := w) (a := ⟨g, 5, none⟩) e).trans c5, (World.cell?_of_block (w := w) (a := ⟨g, 6, none⟩) e).trans c6⟩
end Go.Proofs.Ytbkllhlapdmlfaa

namespace Go.Proofs.Ytbkllhlapdmlfaa
open Go.RowKit
set_option linter.unusedVariables false

end Go.Proofs.Ytbkllhlapdmlfaa

namespace Go.Proofs.Ytbkllhlapdmlfaa
open Go.RowKit
set_option linter.unusedVariables false

end Go.Proofs.Ytbkllhlapdmlfaa

namespace Go.Proofs.Ytbkllhlapdmlfaa
open Go.RowKit
set_option linter.unusedVariables false
def d0 (n : Nat) : Nat := n % 2
def d1 (n : Nat) : Nat := n / 2 % 2
def d2 (n : Nat) : Nat := n / 4 % 2
def d3 (n : Nat) : Nat := n / 8
end Go.Proofs.Ytbkllhlapdmlfaa

namespace Go.Proofs.Ytbkllhlapdmlfaa
set_option linter.unusedVariables false

end Go.Proofs.Ytbkllhlapdmlfaa

namespace Go.Proofs.Ytbkllhlapdmlfaa
open Go.RowKit
set_option linter.unusedVariables false

/-- A row's cell. -/
def rb (a b x : Nat) : Bool := if x < 64 then a.testBit x else b.testBit (x - 64)
end Go.Proofs.Ytbkllhlapdmlfaa

namespace Go.Proofs.Ytbkllhlapdmlfaa
open Go.RowKit
set_option linter.unusedVariables false

end Go.Proofs.Ytbkllhlapdmlfaa

namespace Go.Proofs.Ytbkllhlapdmlfaa
open Go.RowKit
set_option linter.unusedVariables false

end Go.Proofs.Ytbkllhlapdmlfaa

namespace Go.Proofs.Ytbkllhlapdmlfaa
open Go.RowKit
set_option linter.unusedVariables false

theorem lt_of_block {w : World} {p : Nat} {o : Obj} (h : w.heap[p]? = some o) : p < w.heap.size := (Array.getElem?_eq_some_iff.1 h).1
end Go.Proofs.Ytbkllhlapdmlfaa

namespace Go.Proofs.Ytbkllhlapdmlfaa
open Go.RowKit
set_option linter.unusedVariables false

/-- An array, told by a function. -/
def arrF (n : Nat) (f : Nat → Value) : Array Value := ((List.range n).map f).toArray
theorem arrF_get {n k : Nat} (f : Nat → Value) (h : k < n) : (arrF n f)[k]? = some (f k) := by simp [arrF, h]
theorem arrF_ext {n : Nat} {f g : Nat → Value} (h : ∀ k, k < n → f k = g k) : arrF n f = arrF n g := by
  unfold arrF
  congr 1
  apply List.map_congr_left
  intro k hk
  exact h k (List.mem_range.1 hk)
theorem arrF_set (n i : Nat) (f : Nat → Value) (v : Value) : (arrF n f).setIfInBounds i v = arrF n (fun k => if k = i then v else f k) := by
  apply Array.ext
  · simp [arrF]
  · intro k h1 h2
    simp only [arrF, List.getElem_toArray, List.getElem_map, List.getElem_range]
    by_cases q : k = i
    · simp [q]
    · simp [q, Ne.symm q]
end Go.Proofs.Ytbkllhlapdmlfaa

namespace Go.Proofs.Ytbkllhlapdmlfaa
open Go.RowKit
set_option linter.unusedVariables false
theorem heap_atX (w : World) (o : Obj) (k : Nat) (h : k = w.heap.size) : (w.alloc o).heap[k]? = some o := by subst h; exact heap_alloc_new w o
end Go.Proofs.Ytbkllhlapdmlfaa

namespace Go.Proofs.Ytbkllhlapdmlfaa
open Go.RowKit
set_option linter.unusedVariables false
/-- A table of blocks as it lies. -/
structure TbB (w : World) (a : Option Addr) (tv : Nat → Nat) : Prop where
  lt : ∀ k, k < 16 → tv k < 16
  cells : ∃ g off, a = some ⟨g, off, none⟩ ∧ g < w.heap.size ∧ ∀ k, k < 16 → w.cell? ⟨g, off + k, none⟩ = some (.int .i64 (tv k : Int))
theorem TbB.below {w w' : World} {a : Option Addr} {tv : Nat → Nat} (h : TbB w a tv) (b : Below w.heap.size w w') : TbB w' a tv := by
  obtain ⟨g, off, e, hg, hc⟩ := h.cells
  exact ⟨h.lt, g, off, e, Nat.lt_of_lt_of_le hg b.size, fun k hk => (World.cell?_of_block (w := w) (a := ⟨g, off + k, none⟩) (b.block g hg)).trans (hc k hk)⟩
def dg (n k : Nat) : Nat := n / 2 ^ k % 2
end Go.Proofs.Ytbkllhlapdmlfaa

namespace Go.Proofs.Ytbkllhlapdmlfaa
open Go.RowKit
set_option linter.unusedVariables false
end Go.Proofs.Ytbkllhlapdmlfaa

namespace Go.Proofs.Ytbkllhlapdmlfaa
open Go.RowKit
set_option linter.unusedVariables false
end Go.Proofs.Ytbkllhlapdmlfaa

namespace Go.Proofs.Ytbkllhlapdmlfaa
open Go.RowKit
set_option linter.unusedVariables false
/-- Cells that lie at a block's head and may be written. -/
def CA (w : World) (g n : Nat) (f : Nat → Nat) : Prop := ∃ cur, w.heap[g]? = some (.cells cur 3 (0, 0)) ∧ n ≤ cur.size ∧ ∀ k, k < n → cur[k]? = some (.int .i64 (f k : Int))
theorem CA.cell {w : World} {g n : Nat} {f : Nat → Nat} (h : CA w g n f) {k : Nat} (hk : k < n) : w.cell? ⟨g, k, none⟩ = some (.int .i64 (f k : Int)) ∧ w.frozen? ⟨g, k, none⟩ = false := by
  obtain ⟨cur, h1, h2, h3⟩ := h
  exact ⟨by rw [cell_of_row w _ _ _ _ _ h1]; exact h3 k hk, frozen_of_row w _ _ _ _ h1⟩
theorem CA.block {w w' : World} {g n : Nat} {f : Nat → Nat} (h : CA w g n f) (e : w'.heap[g]? = w.heap[g]?) : CA w' g n f := by
  obtain ⟨cur, h1, h2, h3⟩ := h
  exact ⟨cur, e.trans h1, h2, h3⟩
theorem CA.lt {w : World} {g n : Nat} {f : Nat → Nat} (h : CA w g n f) : g < w.heap.size := by
  obtain ⟨cur, h1, -⟩ := h
  exact lt_of_block h1
/-- What is kept while the cells of one block of memory are written. -/
structure SP (w wr : World) (B gc n : Nat) (f : Nat → Nat) : Prop where
  keep : ∀ k, k < w.heap.size → k ≠ gc → wr.heap[k]? = w.heap[k]?
  ca : CA wr gc n f
  size : w.heap.size ≤ wr.heap.size
  below : Below B w wr
end Go.Proofs.Ytbkllhlapdmlfaa

namespace Go.Proofs.Ytbkllhlapdmlfaa
open Go.RowKit
set_option linter.unusedVariables false
theorem errOf_posB {f : Nat} (h : f ≠ 0) : errOf f = .iface 74 (.int .i64 (f : Int)) := by unfold errOf; rw [if_neg h]
end Go.Proofs.Ytbkllhlapdmlfaa

namespace Go.Proofs.Ytbkllhlapdmlfaa
open Go.RowKit
set_option linter.unusedVariables false
end Go.Proofs.Ytbkllhlapdmlfaa

namespace Go.Proofs.Ytbkllhlapdmlfaa
open Go.RowKit
set_option linter.unusedVariables false
def nearA (x y : Int) : Bool := decide (-1000000 ≤ x) && decide (x ≤ 1000000) && decide (-1000000 ≤ y) && decide (y ≤ 1000000)
set_option maxRecDepth 100000 in
theorem isNear_any (x y : Int) (w : World) : Calls Try.prog 40 #[.int .i64 x, .int .i64 y] w fun e w' => e = .returned (.bool (nearA x y)) ∧ w' = w := by
  by_cases h1 : -1000000 ≤ x
  · by_cases h2 : x ≤ 1000000
    · by_cases h3 : -1000000 ≤ y
      · by_cases h4 : y ≤ 1000000
        · have NE := hide' (show nearA x y = true by unfold nearA; simp [h1, h2, h3, h4])
          go_enter Try.func40, Try.ntmps40
          go_wp2
          go_ret
          rw [NE.out]; exact ⟨rfl, rfl⟩
        · have NE := hide' (show nearA x y = false by unfold nearA; simp [h1, h2, h3, h4])
          go_enter Try.func40, Try.ntmps40
          go_wp2
          go_ret
          rw [NE.out]; exact ⟨rfl, rfl⟩
      · have NE := hide' (show nearA x y = false by unfold nearA; simp [h1, h2, h3])
        go_enter Try.func40, Try.ntmps40
        go_wp2
        go_ret
        rw [NE.out]; exact ⟨rfl, rfl⟩
    · have NE := hide' (show nearA x y = false by unfold nearA; simp [h1, h2])
      go_enter Try.func40, Try.ntmps40
      go_wp2
      go_ret
      rw [NE.out]; exact ⟨rfl, rfl⟩
  · have NE := hide' (show nearA x y = false by unfold nearA; simp [h1])
    go_enter Try.func40, Try.ntmps40
    go_wp2
    go_ret
    rw [NE.out]; exact ⟨rfl, rfl⟩
def cmpA (a b : Int) : Int := if a < b then -1 else if b < a then 1 else 0
set_option maxRecDepth 100000 in
theorem isNaN_any (x : Int) (w : World) : Calls Try.prog 67 #[.int .i64 x] w fun e w' => e = .returned (.bool false) ∧ w' = w := by
  go_enter Try.func67, Try.ntmps67
  go_wp2
  go_ret
  exact ⟨rfl, rfl⟩
set_option maxRecDepth 100000 in
theorem cmpInt_any (a b : Int) (w : World) : Calls Try.prog 51 #[.int .i64 a, .int .i64 b] w fun e w' => e = .returned (.int .i64 (cmpA a b)) ∧ w' = w := by
  have HN := fun x V => isNaN_any x V
  by_cases h1 : a < b
  · have CE := hide' (show cmpA a b = -1 by unfold cmpA; rw [if_pos h1])
    go_enter Try.func51, Try.ntmps51
    go_wp2_with (go_at_call 67; refine (HN _ _).mono ?_; rintro e w' ⟨rfl, rfl⟩)
    go_ret
    rw [CE.out]; exact ⟨rfl, rfl⟩
  · by_cases h2 : b < a
    · have CE := hide' (show cmpA a b = 1 by unfold cmpA; rw [if_neg h1, if_pos h2])
      go_enter Try.func51, Try.ntmps51
      go_wp2_with (go_at_call 67; refine (HN _ _).mono ?_; rintro e w' ⟨rfl, rfl⟩)
      go_ret
      rw [CE.out]; exact ⟨rfl, rfl⟩
    · have CE := hide' (show cmpA a b = 0 by unfold cmpA; rw [if_neg h1, if_neg h2])
      go_enter Try.func51, Try.ntmps51
      go_wp2_with (go_at_call 67; refine (HN _ _).mono ?_; rintro e w' ⟨rfl, rfl⟩)
      go_ret
      rw [CE.out]; exact ⟨rfl, rfl⟩
/-- A spot: right, down, colour. -/
abbrev SpotT := Int × Int × Int
def plcA (p q : SpotT) : Int := if p.2.1 = q.2.1 then cmpA p.1 q.1 else cmpA p.2.1 q.2.1
def spV (p : SpotT) : Array Value := #[.int .i64 p.1, .int .i64 p.2.1, .int .i64 p.2.2]
set_option maxRecDepth 100000 in
theorem byPlace_any (p q : SpotT) (w : World) : Calls Try.prog 45 #[.agg (spV p), .agg (spV q)] w fun e w' => e = .returned (.int .i64 (plcA p q)) ∧ w' = (w.alloc (.cells (spV p) 73)).alloc (.cells (spV q) 73) := by
  obtain ⟨a1, a2, a3⟩ := p
  obtain ⟨b1, b2, b3⟩ := q
  have HC := fun x y V => cmpInt_any x y V
  unfold spV
  by_cases h1 : a2 = b2
  · subst h1
    have CE := hide' (show plcA (a1, a2, a3) (b1, a2, b3) = cmpA a1 b1 by unfold plcA; rw [if_pos rfl])
    go_enter Try.func45, Try.ntmps45
    go_wp2_with (go_at_call 51; refine (HC _ _ _).mono ?_; rintro e w' ⟨rfl, rfl⟩)
    go_ret
    rw [CE.out]; exact ⟨rfl, rfl⟩
  · have CE := hide' (show plcA (a1, a2, a3) (b1, b2, b3) = cmpA a2 b2 by unfold plcA; rw [if_neg h1])
    have n1 : (a2 == b2) = false := by simp [h1]
    go_enter Try.func45, Try.ntmps45
    go_wp2_with (go_at_call 51; refine (HC _ _ _).mono ?_; rintro e w' ⟨rfl, rfl⟩)
    go_ret
    rw [CE.out]; exact ⟨rfl, rfl⟩
end Go.Proofs.Ytbkllhlapdmlfaa

