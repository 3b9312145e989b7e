/-
  What the last text of this claim leans on, part 8: Ref4, Pr5, Pr6, Pr7, Pr8, Pr9, Pr10, Pr11, Pr12, Pr13, Pr14.
-/
import Derived.Test.YtjjdjdodhedihaaDoorJl2
import Derived.Test.YtjjdjdodhedihaaDoorJl7
import Derived.Laws.IdiomStrings
import Derived.Laws.BytesArg
import Derived.WalkSmall
import Derived.Deep.RegionWith
import Derived.Lib.ItoaLen
import Derived.Deep.RegionHeld3
import Derived.Deep.CutRange
namespace Go.Proofs.YtjjdjdodhedihaaDoor
open Go.RowKit
set_option linter.unusedVariables false

/-- edenref1.Parse in the midst of a table: its result's block, its rule's, its empty rule's; the table grows. -/
structure RefW (w wr : World) (k st ra : Int) (v : Value) (xs : List Int) : Prop where
  below : Below w.heap.size w wr
  size : w.heap.size + 3 ≤ wr.heap.size
  res : Seven wr w.heap.size (.int .i64 0) (.int .i64 0) (.int .i64 0) (.int .i64 0) (.int .i64 0) (.slice none 0 0) (.string ⟨#[]⟩)
  rr : Seven wr (w.heap.size + 1) (.int .i64 k) (.int .i64 0) (.int .i64 0) (.int .i64 st) (.int .i64 ra) v (.string ⟨#[]⟩)
  no : Seven wr (w.heap.size + 1 + 1) (.int .i64 0) (.int .i64 0) (.int .i64 0) (.int .i64 0) (.int .i64 0) (.slice none 0 0) (.string ⟨#[]⟩)
  fz : ∀ b j, w.heap.size ≤ b → b < w.heap.size + 3 → wr.frozen? ⟨b, j, none⟩ = false
  own : wr.ownsRow (w.heap.size + 3) 3 1 v xs.length (xs.map fun x => .int .i64 x)

theorem Seven.block {w w' : World} {g : Nat} {v0 v1 v2 v3 v4 v5 v6 : Value} (h : Seven w g v0 v1 v2 v3 v4 v5 v6) (e : w'.heap[g]? = w.heap[g]?) : Seven w' g v0 v1 v2 v3 v4 v5 v6 := by
  obtain ⟨c0, c1, c2, c3, c4, c5, c6⟩ := h
  exact ⟨(World.cell?_of_block (w := w) (a := ⟨g, 0, none⟩) e).trans c0, (World.cell?_of_block (w := w) (a := ⟨g, 1, none⟩) e).trans c1, (World.cell?_of_block (w := w) (a := ⟨g, 2, none⟩) e).trans c2, (World.cell?_of_block (w := w) (a := ⟨g, 3, none⟩) e).trans c3, (World.cell?_of_block (w := w) (a := ⟨g, 4, none⟩) e).trans c4, (World.cell?_of_block (w := w) (a := ⟨g, 5, none⟩) e).trans c5, (World.cell?_of_block (w := w) (a := ⟨g, 6, none⟩) e).trans c6⟩
theorem Seven.set5 {w : World} {g : Nat} {v0 v1 v2 v3 v4 v5 v6 : Value} (h : Seven w g v0 v1 v2 v3 v4 v5 v6) (u : Value) : Seven (w.setCell ⟨g, 5, none⟩ u) g v0 v1 v2 v3 v4 u v6 := by
  obtain ⟨c0, c1, c2, c3, c4, c5, c6⟩ := h
  constructor <;> simp [go_sem, c0, c1, c2, c3, c4, c5, c6]

theorem RefW.start (w : World) (k st ra : Int) : RefW w (((w.alloc (.cells zeroCells 24)).alloc (.cells #[.int .i64 k, .int .i64 0, .int .i64 0, .int .i64 st, .int .i64 ra, .slice none 0 0, .string ⟨#[]⟩] 24)).alloc (.cells zeroCells 24)) k st ra (.slice none 0 0) [] := by
  refine ⟨?_, by simp, ?_, ?_, ?_, ?_, ⟨by simp, Or.inl ⟨rfl, by simp⟩⟩⟩
  · exact (((Below.refl _ _).alloc (Nat.le_refl _) _).alloc (by simp) _).alloc (by simp; omega) _
  · constructor <;> simp [go_sem, zeroCells]
  · constructor <;> simp [go_sem]
  · constructor <;> simp [go_sem, zeroCells]
  · intro b j h1 h2
    have h3 : b = w.heap.size ∨ b = w.heap.size + 1 ∨ b = w.heap.size + 1 + 1 := by omega
    rcases h3 with rfl | rfl | rfl <;> simp [go_sem]

theorem RefW.push {w wr w' : World} {k st ra : Int} {v v' : Value} {xs : List Int} {x : Int} (h : RefW w wr k st ra v xs)
    (hg : (wr.alloc (.cells #[.int .i64 x] 3)).grownBy w' v.ownBlock) (ho : w'.ownsRow (w.heap.size + 3) 3 1 v' (xs.length + 1) ((xs.map fun x => .int .i64 x) ++ [.int .i64 x])) :
    RefW w (w'.setCell ⟨w.heap.size + 1, 5, none⟩ v') k st ra v' (xs ++ [x]) := by
  have hz := h.size
  have hob := ownsRow_block h.own
  have hb : ∀ b, b < w.heap.size + 3 → w'.heap[b]? = wr.heap[b]? := fun b hb => by
    rw [hg.block b (by rw [World.size_alloc]; omega) (fun e => by have := hob b e.symm; omega)]
    exact Below.heap_alloc _ _ _ (by omega)
  have hsz : wr.heap.size + 1 ≤ w'.heap.size := by have := hg.size; rw [World.size_alloc] at this; exact this
  have B1 : Below w.heap.size w w' := (h.below.alloc (by omega) _).trans ⟨hg.os, hg.tape, hg.output, hg.size, fun b hbb => hg.block b (by rw [World.size_alloc]; omega) (fun e => by have := hob b e.symm; omega)⟩
  refine ⟨B1.setCell (by simp) _, by rw [World.size_setCell]; omega, ?_, ?_, ?_, ?_, ?_⟩
  · exact (h.res.block (hb _ (by omega))).other (by simp) _
  · exact (h.rr.block (hb _ (by omega))).set5 _
  · exact (h.no.block (hb _ (by omega))).other (by simp) _
  · intro b j h1 h2
    rw [World.frozen?_setCell, World.frozen?_of_block (w := wr) (a := ⟨b, j, none⟩) (hb b h2)]
    exact h.fz b j h1 h2
  · have := ownsRow_setCell_below ho (a := ⟨w.heap.size + 1, 5, none⟩) (by simp) v'
    simpa using this

end Go.Proofs.YtjjdjdodhedihaaDoor

namespace Go.Proofs.YtjjdjdodhedihaaDoor
open Go.RowKit
set_option linter.unusedVariables false

def bval (b : UInt8) : Value := .int .u8 (b.toNat : Int)

/-- The digits of the bits below k. -/
def dl (n k : Nat) : List UInt8 := ((List.range k).filter fun i => n / 2 ^ i % 2 == 1).map fun i => UInt8.ofNat (48 + i)
/-- Bytes of the call's own, gathered so far. -/
structure Row8 (w wr : World) (v : Value) (l : List UInt8) : Prop where
  below : Below w.heap.size w wr
  own : wr.ownsRow w.heap.size 5 1 v l.length (l.map bval)
theorem Row8.start (w : World) : Row8 w w (.slice none 0 0) [] := ⟨Below.refl _ _, by simp, Or.inl ⟨rfl, by simp⟩⟩
theorem Row8.push {w wr w' : World} {v v' : Value} {l : List UInt8} {b : UInt8} {x : Value} (h : Row8 w wr v l) (hx : bval b = x)
    (hg : (wr.alloc (.cells #[x] 5)).grownBy w' v.ownBlock) (ho : w'.ownsRow w.heap.size 5 1 v' (l.length + 1) (l.map bval ++ [x])) : Row8 w w' v' (l ++ [b]) := by
  have hz := h.below.size
  have hob := ownsRow_block h.own
  refine ⟨(h.below.alloc hz _).trans ⟨hg.os, hg.tape, hg.output, hg.size, fun k hk => hg.block k (by rw [World.size_alloc]; omega) (fun e => by have := hob k e.symm; omega)⟩, ?_⟩
  simpa [hx] using ho

end Go.Proofs.YtjjdjdodhedihaaDoor

namespace Go.Proofs.YtjjdjdodhedihaaDoor
open Go.RowKit
set_option linter.unusedVariables false

/-- At block g a list of n bytes of the call's own, the first k of which are f's. -/
structure FillB (w0 w : World) (g n k : Nat) (f : Nat → UInt8) : Prop where
  below : Below w0.heap.size w0 w
  ge : w0.heap.size ≤ g
  lt : g < w.heap.size
  cells : ∀ j, j < n → ∃ v, w.cell? ⟨g, j, none⟩ = some v ∧ (j < k → v = bval (f j))
  fz : ∀ j, w.frozen? ⟨g, j, none⟩ = false
theorem FillB.start (w : World) (n : Nat) (f : Nat → UInt8) (z : Value) (t : TypeId) : FillB w (w.alloc (.cells (madeCells #[z] n) t)) w.heap.size n 0 f := by
  refine ⟨(Below.refl _ _).alloc (Nat.le_refl _) _, Nat.le_refl _, by simp, fun j hj => ⟨(madeCells #[z] n)[j]'(by rw [size_madeCells]; exact hj), ?_, by omega⟩, fun j => by simp⟩
  rw [World.cell?_alloc_at _ _ _ _ rfl]
  exact Array.getElem?_eq_getElem (by rw [size_madeCells]; exact hj)
theorem FillB.step {w0 w : World} {g n k : Nat} {f : Nat → UInt8} (h : FillB w0 w g n k f) (hk : k < n) {x : Value} (hx : bval (f k) = x) : FillB w0 (w.setCell ⟨g, k, none⟩ x) g n (k + 1) f := by
  refine ⟨h.below.setCell h.ge _, h.ge, by rw [World.size_setCell]; exact h.lt, fun j hj => ?_, fun j => by rw [World.frozen?_setCell]; exact h.fz j⟩
  by_cases e : j = k
  · subst e
    obtain ⟨v, hv, -⟩ := h.cells j hj
    exact ⟨_, World.cell?_setCell_same _ _ _ hv, fun _ => hx.symm⟩
  · obtain ⟨v, hv, hv'⟩ := h.cells j hj
    refine ⟨v, ?_, fun _ => hv' (by omega)⟩
    exact (World.cell?_setCell_other _ ⟨g, k, none⟩ ⟨g, j, none⟩ _ (fun q => e (congrArg Addr.off q).symm)).trans hv
end Go.Proofs.YtjjdjdodhedihaaDoor

namespace Go.Proofs.YtjjdjdodhedihaaDoor
open Go.RowKit
set_option linter.unusedVariables false

end Go.Proofs.YtjjdjdodhedihaaDoor

namespace Go.Proofs.YtjjdjdodhedihaaDoor
open Go.RowKit
set_option linter.unusedVariables false

/-- The rule's copy lies at block b with these fields, and nothing older has turned. -/
def SL (w : World) (o : Out) (v : Value) (w' : World) : Prop :=
  w'.cell? ⟨w.heap.size, 3, none⟩ = some (.int .i64 o.states) ∧ w'.cell? ⟨w.heap.size, 4, none⟩ = some (.int .i64 o.radius) ∧ w'.cell? ⟨w.heap.size, 5, none⟩ = some v ∧ Hid (w.heap.size + 1 ≤ w'.heap.size ∧ Below w.heap.size w w')
theorem SL.next {w w1 w2 : World} {o : Out} {v : Value} (h : SL w o v w1) (hb : Below w1.heap.size w1 w2) : SL w o v w2 := by
  obtain ⟨h1, h2, h3, h4⟩ := h
  obtain ⟨h4, h5⟩ := h4.out
  have e : ∀ k, w2.cell? ⟨w.heap.size, k, none⟩ = w1.cell? ⟨w.heap.size, k, none⟩ := fun k =>
    World.cell?_of_block (w := w1) (a := ⟨w.heap.size, k, none⟩) (hb.block w.heap.size (by omega))
  exact ⟨(e 3).trans h1, (e 4).trans h2, (e 5).trans h3, hide' ⟨Nat.le_trans h4 hb.size, h5.trans (hb.mono (by omega))⟩⟩
theorem SL.start (w : World) (o : Out) (a : Option Addr) (n c : Nat) : SL w o (.slice a n c) ((w.alloc (.cells #[.int .i64 o.kind, .int .i64 o.born, .int .i64 o.stay, .int .i64 o.states, .int .i64 o.radius, .slice a n c, .string o.turns] 24)).drew) := by
  refine ⟨cell_all_new _ _ _ _, cell_all_new _ _ _ _, cell_all_new _ _ _ _, hide' ⟨?_, ((Below.refl _ _).alloc (Nat.le_refl _) _).drew⟩⟩
  simp

end Go.Proofs.YtjjdjdodhedihaaDoor

namespace Go.Proofs.YtjjdjdodhedihaaDoor
open Go.RowKit
set_option linter.unusedVariables false

/-- Two fields of the rule's copy, and nothing older has turned. -/
def SB (w : World) (o : Out) (w' : World) : Prop :=
  w'.cell? ⟨w.heap.size, 1, none⟩ = some (.int .i64 o.born) ∧ w'.cell? ⟨w.heap.size, 2, none⟩ = some (.int .i64 o.stay) ∧ Hid (w.heap.size + 1 ≤ w'.heap.size ∧ Below w.heap.size w w')
theorem SB.next {w w1 w2 : World} {o : Out} (h : SB w o w1) (hb : Below w1.heap.size w1 w2) : SB w o w2 := by
  obtain ⟨h1, h2, h4⟩ := h
  obtain ⟨h4, h5⟩ := h4.out
  have e : ∀ k, w2.cell? ⟨w.heap.size, k, none⟩ = w1.cell? ⟨w.heap.size, k, none⟩ := fun k =>
    World.cell?_of_block (w := w1) (a := ⟨w.heap.size, k, none⟩) (hb.block w.heap.size (by omega))
  exact ⟨(e 1).trans h1, (e 2).trans h2, hide' ⟨Nat.le_trans h4 hb.size, h5.trans (hb.mono (by omega))⟩⟩

end Go.Proofs.YtjjdjdodhedihaaDoor

namespace Go.Proofs.YtjjdjdodhedihaaDoor
open Go.RowKit
set_option linter.unusedVariables false

end Go.Proofs.YtjjdjdodhedihaaDoor

namespace Go.Proofs.YtjjdjdodhedihaaDoor
open Go.RowKit
set_option linter.unusedVariables false

end Go.Proofs.YtjjdjdodhedihaaDoor

namespace Go.Proofs.YtjjdjdodhedihaaDoor
open Go.RowKit
set_option linter.unusedVariables false

end Go.Proofs.YtjjdjdodhedihaaDoor

namespace Go.Proofs.YtjjdjdodhedihaaDoor
open Go.RowKit
set_option linter.unusedVariables false

end Go.Proofs.YtjjdjdodhedihaaDoor

namespace Go.Proofs.YtjjdjdodhedihaaDoor
open Go.RowKit
set_option linter.unusedVariables false

theorem wrapq (p : Nat) (hp : p ≤ 100000) : wrap64 (p : Int) = (p : Int) := by
  simp [wrap64]; omega

theorem ent_small : ∀ n, n < 5 → ∀ m, m < 11 → entOf n m ≤ 4096 → 2 ≤ n → entOf n m = n ^ (2 * m + 1) := by decide +kernel
theorem ent_is (n m : Nat) (hn : 2 ≤ n) (hn' : n ≤ 4) (h : entOf n m ≤ 4096) : entOf n m = n ^ (2 * m + 1) ∧ m ≤ 10 := by
  by_cases hm : m ≤ 10
  · exact ⟨ent_small n (by omega) m (by omega) h hn, hm⟩
  · have := ent_far n m hn hn' (by omega)
    omega
end Go.Proofs.YtjjdjdodhedihaaDoor

