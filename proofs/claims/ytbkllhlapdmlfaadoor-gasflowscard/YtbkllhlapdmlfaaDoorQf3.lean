/-
  What the last text of this claim leans on, part 3: Ref4, Pr5, Gp1, Bk1, Gq1, Gq3, Gr1, Gr2, Gq5, Gr3, Gr4, Bk2, Bk3, Bk4, Bk5, Bk6.
-/
import Derived.Test.YtbkllhlapdmlfaaDoorQf1
import Derived.Test.YtbkllhlapdmlfaaDoorQf2
import Derived.Laws.IdiomStrings
import Derived.Laws.BytesArg
import Derived.Laws.Bits64b
import Derived.Laws.BitsAllLaws
import Derived.Lib.TrailingZeros
import Derived.Lib.BitFns
import Derived.ChangeKeysEq
import Derived.Deep.RegionHeld3
import Derived.OwnWalk
import Derived.Deep.DeepAppendRoom
import Derived.BigRegion
namespace Go.Proofs.YtbkllhlapdmlfaaDoor
open Go.RowKit
set_option linter.unusedVariables false

/-- edenref1.Parse in the midst of a table: its result's block, its rule's, its empty rule's; the table grows. -/
structure RefW (w wr : World) (k st ra : Int) (v : Value) (xs : List Int) : Prop where
  below : Below w.heap.size w wr
  size : w.heap.size + 3 ≤ wr.heap.size
  res : Seven wr w.heap.size (.int .i64 0) (.int .i64 0) (.int .i64 0) (.int .i64 0) (.int .i64 0) (.slice none 0 0) (.string ⟨#[]⟩)
  rr : Seven wr (w.heap.size + 1) (.int .i64 k) (.int .i64 0) (.int .i64 0) (.int .i64 st) (.int .i64 ra) v (.string ⟨#[]⟩)
  no : Seven wr (w.heap.size + 1 + 1) (.int .i64 0) (.int .i64 0) (.int .i64 0) (.int .i64 0) (.int .i64 0) (.slice none 0 0) (.string ⟨#[]⟩)
  fz : ∀ b j, w.heap.size ≤ b → b < w.heap.size + 3 → wr.frozen? ⟨b, j, none⟩ = false
  own : wr.ownsRow (w.heap.size + 3) 3 1 v xs.length (xs.map fun x => .int .i64 x)

theorem Seven.block {w w' : World} {g : Nat} {v0 v1 v2 v3 v4 v5 v6 : Value} (h : Seven w g v0 v1 v2 v3 v4 v5 v6) (e : w'.heap[g]? = w.heap[g]?) : Seven w' g v0 v1 v2 v3 v4 v5 v6 := by
  obtain ⟨c0, c1, c2, c3, c4, c5, c6⟩ := h
  exact ⟨(World.cell?_of_block (w := w) (a := ⟨g, 0, none⟩) e).trans c0, (World.cell?_of_block (w := w) (a := ⟨g, 1, none⟩) e).trans c1, (World.cell?_of_block (w := w) (a := ⟨g, 2, none⟩) e).trans c2, (World.cell?_of_block (w := w) (a := ⟨g, 3, none⟩) e).trans c3, (World.cell?_of_block (w := w) (a := ⟨g, 4, none⟩) e).trans c4, (World.cell?_of_block (w := w) (a := ⟨g, 5, none⟩) e).trans c5, (World.cell?_of_block (w := w) (a := ⟨g, 6, none⟩) e).trans c6⟩
theorem Seven.set5 {w : World} {g : Nat} {v0 v1 v2 v3 v4 v5 v6 : Value} (h : Seven w g v0 v1 v2 v3 v4 v5 v6) (u : Value) : Seven (w.setCell ⟨g, 5, none⟩ u) g v0 v1 v2 v3 v4 u v6 := by
  obtain ⟨c0, c1, c2, c3, c4, c5, c6⟩ := h
  constructor <;> simp [go_sem, c0, c1, c2, c3, c4, c5, c6]

theorem RefW.start (w : World) (k st ra : Int) : RefW w (((w.alloc (.cells zeroCells 24)).alloc (.cells #[.int .i64 k, .int .i64 0, .int .i64 0, .int .i64 st, .int .i64 ra, .slice none 0 0, .string ⟨#[]⟩] 24)).alloc (.cells zeroCells 24)) k st ra (.slice none 0 0) [] := by
  refine ⟨?_, by simp, ?_, ?_, ?_, ?_, ⟨by simp, Or.inl ⟨rfl, by simp⟩⟩⟩
  · exact (((Below.refl _ _).alloc (Nat.le_refl _) _).alloc (by simp) _).alloc (by simp; omega) _
  · constructor <;> simp [go_sem, zeroCells]
  · constructor <;> simp [go_sem]
  · constructor <;> simp [go_sem, zeroCells]
  · intro b j h1 h2
    have h3 : b = w.heap.size ∨ b = w.heap.size + 1 ∨ b = w.heap.size + 1 + 1 := by omega
    rcases h3 with rfl | rfl | rfl <;> simp [go_sem]

theorem RefW.push {w wr w' : World} {k st ra : Int} {v v' : Value} {xs : List Int} {x : Int} (h : RefW w wr k st ra v xs)
    (hg : (wr.alloc (.cells #[.int .i64 x] 3)).grownBy w' v.ownBlock) (ho : w'.ownsRow (w.heap.size + 3) 3 1 v' (xs.length + 1) ((xs.map fun x => .int .i64 x) ++ [.int .i64 x])) :
    RefW w (w'.setCell ⟨w.heap.size + 1, 5, none⟩ v') k st ra v' (xs ++ [x]) := by
  have hz := h.size
  have hob := ownsRow_block h.own
  have hb : ∀ b, b < w.heap.size + 3 → w'.heap[b]? = wr.heap[b]? := fun b hb => by
    rw [hg.block b (by rw [World.size_alloc]; omega) (fun e => by have := hob b e.symm; omega)]
    exact Below.heap_alloc _ _ _ (by omega)
  have hsz : wr.heap.size + 1 ≤ w'.heap.size := by have := hg.size; rw [World.size_alloc] at this; exact this
  have B1 : Below w.heap.size w w' := (h.below.alloc (by omega) _).trans ⟨hg.os, hg.tape, hg.output, hg.size, fun b hbb => hg.block b (by rw [World.size_alloc]; omega) (fun e => by have := hob b e.symm; omega)⟩
  refine ⟨B1.setCell (by simp) _, by rw [World.size_setCell]; omega, ?_, ?_, ?_, ?_, ?_⟩
  · exact (h.res.block (hb _ (by omega))).other (by simp) _
  · exact (h.rr.block (hb _ (by omega))).set5 _
  · exact (h.no.block (hb _ (by omega))).other (by simp) _
  · intro b j h1 h2
    rw [World.frozen?_setCell, World.frozen?_of_block (w := wr) (a := ⟨b, j, none⟩) (hb b h2)]
    exact h.fz b j h1 h2
  · have := ownsRow_setCell_below ho (a := ⟨w.heap.size + 1, 5, none⟩) (by simp) v'
    simpa using this

end Go.Proofs.YtbkllhlapdmlfaaDoor

namespace Go.Proofs.YtbkllhlapdmlfaaDoor
open Go.RowKit
set_option linter.unusedVariables false

def bval (b : UInt8) : Value := .int .u8 (b.toNat : Int)

/-- The digits of the bits below k. -/
def dl (n k : Nat) : List UInt8 := ((List.range k).filter fun i => n / 2 ^ i % 2 == 1).map fun i => UInt8.ofNat (48 + i)
/-- Bytes of the call's own, gathered so far. -/
structure Row8 (w wr : World) (v : Value) (l : List UInt8) : Prop where
  below : Below w.heap.size w wr
  own : wr.ownsRow w.heap.size 5 1 v l.length (l.map bval)
theorem Row8.start (w : World) : Row8 w w (.slice none 0 0) [] := ⟨Below.refl _ _, by simp, Or.inl ⟨rfl, by simp⟩⟩
theorem Row8.push {w wr w' : World} {v v' : Value} {l : List UInt8} {b : UInt8} {x : Value} (h : Row8 w wr v l) (hx : bval b = x)
    (hg : (wr.alloc (.cells #[x] 5)).grownBy w' v.ownBlock) (ho : w'.ownsRow w.heap.size 5 1 v' (l.length + 1) (l.map bval ++ [x])) : Row8 w w' v' (l ++ [b]) := by
  have hz := h.below.size
  have hob := ownsRow_block h.own
  refine ⟨(h.below.alloc hz _).trans ⟨hg.os, hg.tape, hg.output, hg.size, fun k hk => hg.block k (by rw [World.size_alloc]; omega) (fun e => by have := hob k e.symm; omega)⟩, ?_⟩
  simpa [hx] using ho

end Go.Proofs.YtbkllhlapdmlfaaDoor

namespace Go.Proofs.YtbkllhlapdmlfaaDoor
open Go.RowKit
set_option linter.unusedVariables false

end Go.Proofs.YtbkllhlapdmlfaaDoor

namespace Go.Proofs.YtbkllhlapdmlfaaDoor
open Go.RowKit
set_option linter.unusedVariables false
def d0 (n : Nat) : Nat := n % 2
def d1 (n : Nat) : Nat := n / 2 % 2
def d2 (n : Nat) : Nat := n / 4 % 2
def d3 (n : Nat) : Nat := n / 8
end Go.Proofs.YtbkllhlapdmlfaaDoor

namespace Go.Proofs.YtbkllhlapdmlfaaDoor
set_option linter.unusedVariables false

end Go.Proofs.YtbkllhlapdmlfaaDoor

namespace Go.Proofs.YtbkllhlapdmlfaaDoor
open Go.RowKit
set_option linter.unusedVariables false

/-- A row's cell. -/
def rb (a b x : Nat) : Bool := if x < 64 then a.testBit x else b.testBit (x - 64)
end Go.Proofs.YtbkllhlapdmlfaaDoor

namespace Go.Proofs.YtbkllhlapdmlfaaDoor
open Go.RowKit
set_option linter.unusedVariables false

/-- The library's table as it is laid. -/
def TzTab (w : World) : Prop := ∀ j, j < 64 → w.cell? ⟨1, j, none⟩ = some (.int .u8 (Lib.deBruijn64tab.getD j 0))
theorem tz_lt {w : World} (h : TzTab w) : 1 < w.heap.size := by
  rcases Nat.lt_or_ge 1 w.heap.size with k | k
  · exact k
  · have := h 0 (by omega); simp [World.cell?, Array.getElem?_eq_none k] at this
theorem TzTab.below {w w' : World} (h : TzTab w) (hb : Below w.heap.size w w') : TzTab w' := fun j hj => (World.cell?_of_block (w := w) (a := ⟨1, j, none⟩) (hb.block _ (tz_lt h))).trans (h j hj)
end Go.Proofs.YtbkllhlapdmlfaaDoor

namespace Go.Proofs.YtbkllhlapdmlfaaDoor
open Go.RowKit
set_option linter.unusedVariables false

end Go.Proofs.YtbkllhlapdmlfaaDoor

namespace Go.Proofs.YtbkllhlapdmlfaaDoor
open Go.RowKit
set_option linter.unusedVariables false

theorem lt_of_block {w : World} {p : Nat} {o : Obj} (h : w.heap[p]? = some o) : p < w.heap.size := (Array.getElem?_eq_some_iff.1 h).1
end Go.Proofs.YtbkllhlapdmlfaaDoor

namespace Go.Proofs.YtbkllhlapdmlfaaDoor
open Go.RowKit
set_option linter.unusedVariables false

/-- An array, told by a function. -/
def arrF (n : Nat) (f : Nat → Value) : Array Value := ((List.range n).map f).toArray
theorem arrF_get {n k : Nat} (f : Nat → Value) (h : k < n) : (arrF n f)[k]? = some (f k) := by simp [arrF, h]
theorem arrF_ext {n : Nat} {f g : Nat → Value} (h : ∀ k, k < n → f k = g k) : arrF n f = arrF n g := by
  unfold arrF
  congr 1
  apply List.map_congr_left
  intro k hk
  exact h k (List.mem_range.1 hk)
theorem arrF_set (n i : Nat) (f : Nat → Value) (v : Value) : (arrF n f).setIfInBounds i v = arrF n (fun k => if k = i then v else f k) := by
  apply Array.ext
  · simp [arrF]
  · intro k h1 h2
    simp only [arrF, List.getElem_toArray, List.getElem_map, List.getElem_range]
    by_cases q : k = i
    · simp [q]
    · simp [q, Ne.symm q]
def orA (X : Nat → Nat) (h : Nat) : Nat → Nat
  | 0 => 0
  | y + 1 => orA X h y ||| X (y * 2 + h)
/-- The first row that has something, and behind the last. -/
def livF (X : Nat → Nat) : Nat → Nat
  | 0 => 0
  | y + 1 => if X (y * 2) = 0 ∧ X (y * 2 + 1) = 0 then livF X y else if orA X 0 y = 0 ∧ orA X 1 y = 0 then y else livF X y
def livT (X : Nat → Nat) : Nat → Nat
  | 0 => 0
  | y + 1 => if X (y * 2) = 0 ∧ X (y * 2 + 1) = 0 then livT X y else y + 1
/-- What lies there while the rows are looked through. -/
structure LV (w wr : World) (X : Nat → Nat) (y : Nat) : Prop where
  below : Below w.heap.size w wr
  b0 : wr.heap[w.heap.size]? = some (.cells #[.int .i64 0, .int .i64 ((livF X y : Nat) : Int)] 252 (0, 0))
  b1 : wr.heap[w.heap.size + 1]? = some (.cells #[.int .i64 0, .int .i64 ((livT X y : Nat) : Int)] 252 (0, 0))
  b2 : wr.heap[w.heap.size + 1 + 1]? = some (.cells #[.int .u64 ((orA X 0 y : Nat) : Int), .int .u64 ((orA X 1 y : Nat) : Int)] 170 (0, 0))
theorem LV.next {w wr w' : World} {X : Nat → Nat} {y : Nat} (h : LV w wr X y) (b : Below wr.heap.size wr w') : LV w w' X y :=
  ⟨h.below.trans (b.mono h.below.size), (b.block _ (lt_of_block h.b0)).trans h.b0, (b.block _ (lt_of_block h.b1)).trans h.b1, (b.block _ (lt_of_block h.b2)).trans h.b2⟩
theorem LV.zero {w wr : World} {X : Nat → Nat} {y : Nat} (h : LV w wr X y) (h0 : X (y * 2) = 0) (h1 : X (y * 2 + 1) = 0) : LV w wr X (y + 1) := by
  refine ⟨h.below, ?_, ?_, ?_⟩
  · rw [livF, if_pos ⟨h0, h1⟩]; exact h.b0
  · rw [livT, if_pos ⟨h0, h1⟩]; exact h.b1
  · rw [orA, orA, show y * 2 + 0 = y * 2 from rfl, h0, h1, Nat.or_zero, Nat.or_zero]; exact h.b2
theorem LV.two {w wr : World} {X : Nat → Nat} {y : Nat} (h : LV w wr X y) (h0 : ¬ (X (y * 2) = 0 ∧ X (y * 2 + 1) = 0)) (ha : ¬ (orA X 0 y = 0 ∧ orA X 1 y = 0)) (t : Int) (o0 o1 : Nat) (ht : t = ((y + 1 : Nat) : Int)) (e0 : o0 = orA X 0 y ||| X (y * 2)) (e1 : o1 = orA X 1 y ||| X (y * 2 + 1)) :
    LV w (((wr.setCell ⟨w.heap.size + 1, 1, none⟩ (.int .i64 t)).setCell ⟨w.heap.size + 1 + 1, 0, none⟩ (.int .u64 (o0 : Int))).setCell ⟨w.heap.size + 1 + 1, 1, none⟩ (.int .u64 (o1 : Int))) X (y + 1) := by
  subst ht e0 e1
  refine ⟨((h.below.setCell (by simp) _).setCell (by simp; omega) _).setCell (by simp; omega) _, ?_, ?_, ?_⟩
  · rw [Below.heap_setCell _ _ _ _ (by simp; omega), Below.heap_setCell _ _ _ _ (by simp; omega), Below.heap_setCell _ _ _ _ (by simp), livF, if_neg h0, if_neg ha]; exact h.b0
  · rw [Below.heap_setCell _ _ _ _ (by simp), Below.heap_setCell _ _ _ _ (by simp), heap_setCell_same _ _ _ _ _ _ h.b1, livT, if_neg h0]; rfl
  · have e1 := heap_setCell_same (wr.setCell ⟨w.heap.size + 1, 1, none⟩ (.int .i64 ((y + 1 : Nat) : Int))) (w.heap.size + 1 + 1) 0 _ _ (.int .u64 ((orA X 0 y ||| X (y * 2) : Nat) : Int)) ((Below.heap_setCell _ _ _ _ (by simp)).trans h.b2)
    rw [heap_setCell_same _ _ _ _ _ _ e1, orA, orA]; rfl
theorem LV.one {w wr : World} {X : Nat → Nat} {y : Nat} (h : LV w wr X y) (h0 : ¬ (X (y * 2) = 0 ∧ X (y * 2 + 1) = 0)) (ha : orA X 0 y = 0 ∧ orA X 1 y = 0) (t : Int) (o0 o1 : Nat) (ht : t = ((y + 1 : Nat) : Int)) (e0 : o0 = orA X 0 y ||| X (y * 2)) (e1 : o1 = orA X 1 y ||| X (y * 2 + 1)) :
    LV w ((((wr.setCell ⟨w.heap.size, 1, none⟩ (.int .i64 (y : Int))).setCell ⟨w.heap.size + 1, 1, none⟩ (.int .i64 t)).setCell ⟨w.heap.size + 1 + 1, 0, none⟩ (.int .u64 (o0 : Int))).setCell ⟨w.heap.size + 1 + 1, 1, none⟩ (.int .u64 (o1 : Int))) X (y + 1) := by
  subst ht e0 e1
  refine ⟨(((h.below.setCell (by simp) _).setCell (by simp) _).setCell (by simp; omega) _).setCell (by simp; omega) _, ?_, ?_, ?_⟩
  · rw [Below.heap_setCell _ _ _ _ (by simp; omega), Below.heap_setCell _ _ _ _ (by simp; omega), Below.heap_setCell _ _ _ _ (by simp), heap_setCell_same _ _ _ _ _ _ h.b0, livF, if_neg h0, if_pos ha]; rfl
  · have e1 := (Below.heap_setCell wr ⟨w.heap.size, 1, none⟩ (.int .i64 (y : Int)) (w.heap.size + 1) (by simp)).trans h.b1
    rw [Below.heap_setCell _ _ _ _ (by simp), Below.heap_setCell _ _ _ _ (by simp), heap_setCell_same _ _ _ _ _ _ e1, livT, if_neg h0]; rfl
  · have e0 := (Below.heap_setCell wr ⟨w.heap.size, 1, none⟩ (.int .i64 (y : Int)) (w.heap.size + 1 + 1) (by simp; omega)).trans h.b2
    have e1 := heap_setCell_same ((wr.setCell ⟨w.heap.size, 1, none⟩ (.int .i64 (y : Int))).setCell ⟨w.heap.size + 1, 1, none⟩ (.int .i64 ((y + 1 : Nat) : Int))) (w.heap.size + 1 + 1) 0 _ _ (.int .u64 ((orA X 0 y ||| X (y * 2) : Nat) : Int)) ((Below.heap_setCell _ _ _ _ (by simp)).trans e0)
    rw [heap_setCell_same _ _ _ _ _ _ e1, orA, orA]; rfl
theorem two_other {w : World} {g : Nat} {o : Obj} (h : w.heap[g]? = some o) (b i : Nat) (v : Value) (hn : g ≠ b) : (w.setCell ⟨b, i, none⟩ v).heap[g]? = some o := (Below.heap_setCell _ _ _ _ hn).trans h
theorem drew_block {w : World} {g : Nat} {o : Obj} (h : w.heap[g]? = some o) : w.drew.heap[g]? = some o := h
end Go.Proofs.YtbkllhlapdmlfaaDoor

namespace Go.Proofs.YtbkllhlapdmlfaaDoor
open Go.RowKit
set_option linter.unusedVariables false
theorem heap_atX (w : World) (o : Obj) (k : Nat) (h : k = w.heap.size) : (w.alloc o).heap[k]? = some o := by subst h; exact heap_alloc_new w o
end Go.Proofs.YtbkllhlapdmlfaaDoor

namespace Go.Proofs.YtbkllhlapdmlfaaDoor
open Go.RowKit
set_option linter.unusedVariables false
/-- What lies there while a block is written. -/
structure AX (w w4 wr : World) (B p : Nat) (T : TypeId) (n : Nat) (G : Nat → Value) : Prop where
  keep : ∀ k, k < B → k ≠ p → wr.heap[k]? = w4.heap[k]?
  out : wr.heap[p]? = some (.cells (arrF n G) T (0, 0))
  below : Below w.heap.size w wr
  size : B ≤ wr.heap.size
theorem AX.next {w w4 wr w' : World} {B p : Nat} {T : TypeId} {n : Nat} {G : Nat → Value} (h : AX w w4 wr B p T n G) (b : Below wr.heap.size wr w') : AX w w4 w' B p T n G :=
  ⟨fun k hk hn => (b.block k (Nat.lt_of_lt_of_le hk h.size)).trans (h.keep k hk hn), (b.block _ (lt_of_block h.out)).trans h.out, h.below.trans (b.mono h.below.size), Nat.le_trans h.size b.size⟩
theorem AX.set {w w4 wr : World} {B p : Nat} {T : TypeId} {n : Nat} {G : Nat → Value} (h : AX w w4 wr B p T n G) (hp : w.heap.size ≤ p) (i : Nat) (v : Value) : AX w w4 (wr.setCell ⟨p, i, none⟩ v) B p T n (fun k => if k = i then v else G k) :=
  ⟨fun k hk hn => (Below.heap_setCell _ _ _ _ hn).trans (h.keep k hk hn), by rw [heap_setCell_same _ _ _ _ _ _ h.out, arrF_set], h.below.setCell hp _, by rw [World.size_setCell]; exact h.size⟩
theorem AX.ext {w w4 wr : World} {B p : Nat} {T : TypeId} {n : Nat} {G G' : Nat → Value} (h : AX w w4 wr B p T n G) (e : ∀ k, k < n → G k = G' k) : AX w w4 wr B p T n G' := ⟨h.keep, by rw [← arrF_ext e]; exact h.out, h.below, h.size⟩
/-- A table of blocks as it lies. -/
structure TbB (w : World) (a : Option Addr) (tv : Nat → Nat) : Prop where
  lt : ∀ k, k < 16 → tv k < 16
  cells : ∃ g off, a = some ⟨g, off, none⟩ ∧ g < w.heap.size ∧ ∀ k, k < 16 → w.cell? ⟨g, off + k, none⟩ = some (.int .i64 (tv k : Int))
theorem TbB.below {w w' : World} {a : Option Addr} {tv : Nat → Nat} (h : TbB w a tv) (b : Below w.heap.size w w') : TbB w' a tv := by
  obtain ⟨g, off, e, hg, hc⟩ := h.cells
  exact ⟨h.lt, g, off, e, Nat.lt_of_lt_of_le hg b.size, fun k hk => (World.cell?_of_block (w := w) (a := ⟨g, off + k, none⟩) (b.block g hg)).trans (hc k hk)⟩
def dg (n k : Nat) : Nat := n / 2 ^ k % 2
end Go.Proofs.YtbkllhlapdmlfaaDoor

namespace Go.Proofs.YtbkllhlapdmlfaaDoor
open Go.RowKit
set_option linter.unusedVariables false
end Go.Proofs.YtbkllhlapdmlfaaDoor

namespace Go.Proofs.YtbkllhlapdmlfaaDoor
open Go.RowKit
set_option linter.unusedVariables false
theorem wrap_nB (n : Nat) (h : n ≤ 1000000) : IntKind.i64.wrap (n : Int) = (n : Int) := by simp [IntKind.wrap, IntKind.bits, IntKind.signed]; omega
end Go.Proofs.YtbkllhlapdmlfaaDoor

namespace Go.Proofs.YtbkllhlapdmlfaaDoor
open Go.RowKit
set_option linter.unusedVariables false
/-- Cells that lie at a block's head and may be written. -/
def CA (w : World) (g n : Nat) (f : Nat → Nat) : Prop := ∃ cur, w.heap[g]? = some (.cells cur 3 (0, 0)) ∧ n ≤ cur.size ∧ ∀ k, k < n → cur[k]? = some (.int .i64 (f k : Int))
theorem CA.cell {w : World} {g n : Nat} {f : Nat → Nat} (h : CA w g n f) {k : Nat} (hk : k < n) : w.cell? ⟨g, k, none⟩ = some (.int .i64 (f k : Int)) ∧ w.frozen? ⟨g, k, none⟩ = false := by
  obtain ⟨cur, h1, h2, h3⟩ := h
  exact ⟨by rw [cell_of_row w _ _ _ _ _ h1]; exact h3 k hk, frozen_of_row w _ _ _ _ h1⟩
theorem CA.set {w : World} {g n : Nat} {f : Nat → Nat} (h : CA w g n f) (i v : Nat) : CA (w.setCell ⟨g, i, none⟩ (.int .i64 (v : Int))) g n (fun k => if k = i then v else f k) := by
  obtain ⟨cur, h1, h2, h3⟩ := h
  refine ⟨cur.setIfInBounds i (.int .i64 (v : Int)), by rw [heap_setCell_same _ _ _ _ _ _ h1], by simpa using h2, fun k hk => ?_⟩
  dsimp only
  by_cases e : k = i
  · subst e
    rw [if_pos rfl, Array.getElem?_setIfInBounds_self_of_lt (by omega)]
  · rw [if_neg e, Array.getElem?_setIfInBounds_ne (by omega)]
    exact h3 k hk
theorem CA.ext {w : World} {g n : Nat} {f f' : Nat → Nat} (h : CA w g n f) (e : ∀ k, k < n → f k = f' k) : CA w g n f' := by
  obtain ⟨cur, h1, h2, h3⟩ := h
  exact ⟨cur, h1, h2, fun k hk => by rw [← e k hk]; exact h3 k hk⟩
theorem CA.block {w w' : World} {g n : Nat} {f : Nat → Nat} (h : CA w g n f) (e : w'.heap[g]? = w.heap[g]?) : CA w' g n f := by
  obtain ⟨cur, h1, h2, h3⟩ := h
  exact ⟨cur, e.trans h1, h2, h3⟩
theorem CA.lt {w : World} {g n : Nat} {f : Nat → Nat} (h : CA w g n f) : g < w.heap.size := by
  obtain ⟨cur, h1, -⟩ := h
  exact lt_of_block h1
/-- What is kept while the cells of one block of memory are written. -/
structure SP (w wr : World) (B gc n : Nat) (f : Nat → Nat) : Prop where
  keep : ∀ k, k < w.heap.size → k ≠ gc → wr.heap[k]? = w.heap[k]?
  ca : CA wr gc n f
  size : w.heap.size ≤ wr.heap.size
  below : Below B w wr
theorem SP.next {w wr w' : World} {B gc n : Nat} {f : Nat → Nat} (h : SP w wr B gc n f) (hB : B ≤ wr.heap.size) (b : Below wr.heap.size wr w') : SP w w' B gc n f :=
  ⟨fun k hk hn => (b.block k (Nat.lt_of_lt_of_le hk h.size)).trans (h.keep k hk hn), h.ca.block (b.block _ h.ca.lt), Nat.le_trans h.size b.size, h.below.trans (b.mono hB)⟩
theorem SP.set {w wr : World} {B gc n : Nat} {f : Nat → Nat} (h : SP w wr B gc n f) (hB : B ≤ gc) (i v : Nat) : SP w (wr.setCell ⟨gc, i, none⟩ (.int .i64 (v : Int))) B gc n (fun k => if k = i then v else f k) :=
  ⟨fun k hk hn => (Below.heap_setCell _ _ _ _ hn).trans (h.keep k hk hn), h.ca.set i v, by rw [World.size_setCell]; exact h.size, h.below.setCell hB _⟩
theorem SP.ext {w wr : World} {B gc n : Nat} {f f' : Nat → Nat} (h : SP w wr B gc n f) (e : ∀ k, k < n → f k = f' k) : SP w wr B gc n f' := ⟨h.keep, h.ca.ext e, h.size, h.below⟩
end Go.Proofs.YtbkllhlapdmlfaaDoor

namespace Go.Proofs.YtbkllhlapdmlfaaDoor
open Go.RowKit
set_option linter.unusedVariables false
theorem errOf_posB {f : Nat} (h : f ≠ 0) : errOf f = .iface 83 (.int .i64 (f : Int)) := by unfold errOf; rw [if_neg h]
end Go.Proofs.YtbkllhlapdmlfaaDoor

