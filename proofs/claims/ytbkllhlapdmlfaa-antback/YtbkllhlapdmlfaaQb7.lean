/-
  What the last text of this claim leans on, part 7: Ref3, Rk5, Rk6, Parse, Ref4, Pr5, Gp1, Bk1.
-/
import Derived.Test.YtbkllhlapdmlfaaQb2
import Derived.Test.YtbkllhlapdmlfaaQb4
import Derived.Test.YtbkllhlapdmlfaaQb6
import Derived.Defers
import Derived.Recover
import Derived.Laws.IdiomStrings
import Derived.Laws.BytesArg
namespace Go.Proofs.Ytbkllhlapdmlfaa
open Go.RowKit
set_option linter.unusedVariables false

def RefParsed (x : Out ⊕ Nat) (w : World) (e : Ending) (w' : World) : Prop :=
  match x with
  | .inr a => e = .returned (.tuple #[.agg zeroCells, .int .i64 (a : Int), .bool false]) ∧ Below w.heap.size w w'
  | .inl o => ∃ v, e = .returned (.tuple #[o.val v, .int .i64 0, .bool true]) ∧ Tab w' v o.table ∧ Below w.heap.size w w'
theorem RefParsed.bad {a : Nat} {w w' : World} (h : Below w.heap.size w w') : RefParsed (.inr a) w (.returned (.tuple #[.agg zeroCells, .int .i64 (a : Int), .bool false])) w' := ⟨rfl, h⟩

theorem not_empty {s : ByteArray} (h : 0 < s.size) : s.toList.isEmpty = false := by
  rw [ByteArray.toList_eq]
  cases hl : s.data.toList with
  | nil =>
    have h2 : s.data.size = 0 := by rw [← Array.length_toList, hl]; rfl
    have h3 : s.size = s.data.size := rfl
    omega
  | cons _ _ => rfl

end Go.Proofs.Ytbkllhlapdmlfaa

namespace Go.Proofs.Ytbkllhlapdmlfaa
open Go.RowKit
set_option linter.unusedVariables false

theorem set7_tab {w : World} {v : Value} {xs : List Int} (h : Tab w v xs) {g : Nat} {v0 v1 v2 v3 v4 v5 v6 : Value} {w0 : World} (hf : Fresh w0 v) (hg : g < w0.heap.size) :
    Tab (((((((w.setCell ⟨g, 0, none⟩ v0).setCell ⟨g, 1, none⟩ v1).setCell ⟨g, 2, none⟩ v2).setCell ⟨g, 3, none⟩ v3).setCell ⟨g, 4, none⟩ v4).setCell ⟨g, 5, none⟩ v5).setCell ⟨g, 6, none⟩ v6) v xs := by
  have hne : ∀ g' c, v = .slice (some ⟨g', 0, none⟩) xs.length c → g' ≠ g := fun g' c q => by have := hf g' _ c q; omega
  exact ((((((h.other _ hne).other _ hne).other _ hne).other _ hne).other _ hne).other _ hne).other _ hne
theorem Fresh.old {w w' : World} {v : Value} (h : Fresh w' v) (hs : w.heap.size ≤ w'.heap.size) : Fresh w v := fun g k c q => Nat.le_trans hs (h g k c q)

end Go.Proofs.Ytbkllhlapdmlfaa

namespace Go.Proofs.Ytbkllhlapdmlfaa
open Go.RowKit
set_option linter.unusedVariables false

/-- What reading a whole text comes to. -/
def Ruled (x : Out ⊕ Nat) (b : Nat) (s : ByteArray) (w : World) (e : Ending) (w' : World) : Prop :=
  match x with
  | .inr a => e = .panicked oops ∧ At b s a w' ∧ Rd b w w'
  | .inl o => ∃ v, e = .returned (o.val v) ∧ Tab w' v o.table ∧ Fresh w v ∧ At b s s.size w' ∧ Rd b w w'
theorem Ruled.bad {b : Nat} {s : ByteArray} {w w' : World} {a : Nat} (ha : At b s a w') (hr : Rd b w w') : Ruled (.inr a) b s w (.panicked oops) w' := ⟨rfl, ha, hr⟩

theorem Tab.alloc {w : World} {v : Value} {xs : List Int} (h : Tab w v xs) (o : Obj) : Tab (w.alloc o) v xs := by
  rcases h with h | ⟨g, cap, hv, hg, hc⟩
  · exact Or.inl h
  · have e : (w.alloc o).heap[g]? = w.heap[g]? := Below.heap_alloc _ _ _ hg
    exact Or.inr ⟨g, cap, hv, by rw [World.size_alloc]; omega, fun k hk => (World.cell?_of_block (w := w) (a := ⟨g, k, none⟩) e).trans (hc k hk)⟩
theorem Tab.drewN {w : World} {v : Value} {xs : List Int} (h : Tab w v xs) (n : Nat) : Tab (w.drewN n) v xs := h

end Go.Proofs.Ytbkllhlapdmlfaa

namespace Go.Proofs.Ytbkllhlapdmlfaa
open Go.RowKit
set_option linter.unusedVariables false

/-- The seven cells of a rule at g. -/
def setRule (w : World) (g : Nat) (v0 v1 v2 v3 v4 v5 v6 : Value) : World :=
  ((((((w.setCell ⟨g, 0, none⟩ v0).setCell ⟨g, 1, none⟩ v1).setCell ⟨g, 2, none⟩ v2).setCell ⟨g, 3, none⟩ v3).setCell ⟨g, 4, none⟩ v4).setCell ⟨g, 5, none⟩ v5).setCell ⟨g, 6, none⟩ v6

/-- The seven cells of a rule at g: they are there. -/
structure Seven (w : World) (g : Nat) (v0 v1 v2 v3 v4 v5 v6 : Value) : Prop where
  c0 : w.cell? ⟨g, 0, none⟩ = some v0
  c1 : w.cell? ⟨g, 1, none⟩ = some v1
  c2 : w.cell? ⟨g, 2, none⟩ = some v2
  c3 : w.cell? ⟨g, 3, none⟩ = some v3
  c4 : w.cell? ⟨g, 4, none⟩ = some v4
  c5 : w.cell? ⟨g, 5, none⟩ = some v5
  c6 : w.cell? ⟨g, 6, none⟩ = some v6
theorem Seven.set {w : World} {g : Nat} {u0 u1 u2 u3 u4 u5 u6 v0 v1 v2 v3 v4 v5 v6 : Value} (h : Seven w g u0 u1 u2 u3 u4 u5 u6) : Seven (setRule w g v0 v1 v2 v3 v4 v5 v6) g v0 v1 v2 v3 v4 v5 v6 := by
  obtain ⟨c0, c1, c2, c3, c4, c5, c6⟩ := h
  unfold setRule
  constructor <;> simp [go_sem, c0, c1, c2, c3, c4, c5, c6]
theorem Seven.other {w : World} {g : Nat} {v0 v1 v2 v3 v4 v5 v6 : Value} (h : Seven w g v0 v1 v2 v3 v4 v5 v6) {p : Addr} (hp : p.block ≠ g) (u : Value) : Seven (w.setCell p u) g v0 v1 v2 v3 v4 v5 v6 := by
  have e : (w.setCell p u).heap[g]? = w.heap[g]? := Below.heap_setCell _ _ _ _ (fun q => hp q.symm)
  obtain ⟨c0, c1, c2, c3, c4, c5, c6⟩ := h
  exact ⟨(World.cell?_of_block (w := w) (a := ⟨g, 0, none⟩) e).trans c0, (World.cell?_of_block (w := w) (a := ⟨g, 1, none⟩) e).trans c1, (World.cell?_of_block (w := w) (a := ⟨g, 2, none⟩) e).trans c2, (World.cell?_of_block (w := w) (a := ⟨g, 3, none⟩) e).trans c3, (World.cell?_of_block (w := w) (a := ⟨g, 4, none⟩) e).trans c4, (World.cell?_of_block (w := w) (a := ⟨g, 5, none⟩) e).trans c5, (World.cell?_of_block (w := w) (a := ⟨g, 6, none⟩) e).trans c6⟩
theorem setRule_block (w : World) (g k : Nat) (v0 v1 v2 v3 v4 v5 v6 : Value) (hk : k ≠ g) : (setRule w g v0 v1 v2 v3 v4 v5 v6).heap[k]? = w.heap[k]? := by
  unfold setRule
  rw [Below.heap_setCell _ _ _ _ hk, Below.heap_setCell _ _ _ _ hk, Below.heap_setCell _ _ _ _ hk, Below.heap_setCell _ _ _ _ hk, Below.heap_setCell _ _ _ _ hk, Below.heap_setCell _ _ _ _ hk, Below.heap_setCell _ _ _ _ hk]
theorem setRule_size (w : World) (g : Nat) (v0 v1 v2 v3 v4 v5 v6 : Value) : (setRule w g v0 v1 v2 v3 v4 v5 v6).heap.size = w.heap.size := by
  unfold setRule
  simp only [World.size_setCell]
theorem setRule_below {B : Nat} {w0 w : World} (h : Below B w0 w) {g : Nat} (hg : B ≤ g) (v0 v1 v2 v3 v4 v5 v6 : Value) : Below B w0 (setRule w g v0 v1 v2 v3 v4 v5 v6) := by
  unfold setRule
  exact ((((((h.setCell hg _).setCell hg _).setCell hg _).setCell hg _).setCell hg _).setCell hg _).setCell hg _
theorem Tab.block {w w' : World} {v : Value} {xs : List Int} (h : Tab w v xs) (hs : w'.heap.size = w.heap.size) (hb : ∀ g k c, v = .slice (some ⟨g, 0, none⟩) k c → w'.heap[g]? = w.heap[g]?) : Tab w' v xs := by
  rcases h with h | ⟨g, cap, hv, hg, hc⟩
  · exact Or.inl h
  · exact Or.inr ⟨g, cap, hv, by rw [hs]; exact hg, fun k hk => (World.cell?_of_block (w := w) (a := ⟨g, k, none⟩) (hb g _ _ hv)).trans (hc k hk)⟩

/-- What Parse answers where the text is a rule's. -/
def ParsedOk (o : Out) (w : World) (e : Ending) (w' : World) : Prop := ∃ v, e = .returned (.tuple #[o.val v, .int .i64 0, .nilIface]) ∧ Tab w' v o.table ∧ Fresh w v ∧ Below w.heap.size w w'
/-- What Parse answers where it is none: the first fault is at a. -/
def ParsedNo (a : Nat) (w : World) (e : Ending) (w' : World) : Prop := e = .returned (.tuple #[.agg zeroCells, .int .i64 (a : Int), .iface 74 (.int .i64 2)]) ∧ Below w.heap.size w w'

end Go.Proofs.Ytbkllhlapdmlfaa

namespace Go.Proofs.Ytbkllhlapdmlfaa
open Go.RowKit
set_option linter.unusedVariables false

/-- edenref1.Parse in the midst of a table: its result's block, its rule's, its empty rule's; the table grows. -/
structure RefW (w wr : World) (k st ra : Int) (v : Value) (xs : List Int) : Prop where
  below : Below w.heap.size w wr
  size : w.heap.size + 3 ≤ wr.heap.size
  res : Seven wr w.heap.size (.int .i64 0) (.int .i64 0) (.int .i64 0) (.int .i64 0) (.int .i64 0) (.slice none 0 0) (.string ⟨#[]⟩)
  rr : Seven wr (w.heap.size + 1) (.int .i64 k) (.int .i64 0) (.int .i64 0) (.int .i64 st) (.int .i64 ra) v (.string ⟨#[]⟩)
  no : Seven wr (w.heap.size + 1 + 1) (.int .i64 0) (.int .i64 0) (.int .i64 0) (.int .i64 0) (.int .i64 0) (.slice none 0 0) (.string ⟨#[]⟩)
  fz : ∀ b j, w.heap.size ≤ b → b < w.heap.size + 3 → wr.frozen? ⟨b, j, none⟩ = false
  own : wr.ownsRow (w.heap.size + 3) 3 1 v xs.length (xs.map fun x => .int .i64 x)

theorem Seven.block {w w' : World} {g : Nat} {v0 v1 v2 v3 v4 v5 v6 : Value} (h : Seven w g v0 v1 v2 v3 v4 v5 v6) (e : w'.heap[g]? = w.heap[g]?) : Seven w' g v0 v1 v2 v3 v4 v5 v6 := by
  obtain ⟨c0, c1, c2, c3, c4, c5, c6⟩ := h
  exact ⟨(World.cell?_of_block (w := w) (a := ⟨g, 0, none⟩) e).trans c0, (World.cell?_of_block (w := w) (a := ⟨g, 1, none⟩) e).trans c1, (World.cell?_of_block (w := w) (a := ⟨g, 2, none⟩) e).trans c2, (World.cell?_of_block (w := w) (a := ⟨g, 3, none⟩) e).trans c3, (World.cell?_of_block (w := w) (a := ⟨g, 4, none⟩) e).trans c4, (World.cell?_of_block (w := w) (a := ⟨g, 5, none⟩) e).trans c5, (World.cell?_of_block (w := w) (a := ⟨g, 6, none⟩) e).trans c6⟩
theorem Seven.set5 {w : World} {g : Nat} {v0 v1 v2 v3 v4 v5 v6 : Value} (h : Seven w g v0 v1 v2 v3 v4 v5 v6) (u : Value) : Seven (w.setCell ⟨g, 5, none⟩ u) g v0 v1 v2 v3 v4 u v6 := by
  obtain ⟨c0, c1, c2, c3, c4, c5, c6⟩ := h
  constructor <;> simp [go_sem, c0, c1, c2, c3, c4, c5, c6]

theorem RefW.start (w : World) (k st ra : Int) : RefW w (((w.alloc (.cells zeroCells 37)).alloc (.cells #[.int .i64 k, .int .i64 0, .int .i64 0, .int .i64 st, .int .i64 ra, .slice none 0 0, .string ⟨#[]⟩] 37)).alloc (.cells zeroCells 37)) k st ra (.slice none 0 0) [] := by
  refine ⟨?_, by simp, ?_, ?_, ?_, ?_, ⟨by simp, Or.inl ⟨rfl, by simp⟩⟩⟩
  · exact (((Below.refl _ _).alloc (Nat.le_refl _) _).alloc (by simp) _).alloc (by simp; omega) _
  · constructor <;> simp [go_sem, zeroCells]
  · constructor <;> simp [go_sem]
  · constructor <;> simp [go_sem, zeroCells]
  · intro b j h1 h2
    have h3 : b = w.heap.size ∨ b = w.heap.size + 1 ∨ b = w.heap.size + 1 + 1 := by omega
    rcases h3 with rfl | rfl | rfl <;> simp [go_sem]

theorem RefW.push {w wr w' : World} {k st ra : Int} {v v' : Value} {xs : List Int} {x : Int} (h : RefW w wr k st ra v xs)
    (hg : (wr.alloc (.cells #[.int .i64 x] 3)).grownBy w' v.ownBlock) (ho : w'.ownsRow (w.heap.size + 3) 3 1 v' (xs.length + 1) ((xs.map fun x => .int .i64 x) ++ [.int .i64 x])) :
    RefW w (w'.setCell ⟨w.heap.size + 1, 5, none⟩ v') k st ra v' (xs ++ [x]) := by
  have hz := h.size
  have hob := ownsRow_block h.own
  have hb : ∀ b, b < w.heap.size + 3 → w'.heap[b]? = wr.heap[b]? := fun b hb => by
    rw [hg.block b (by rw [World.size_alloc]; omega) (fun e => by have := hob b e.symm; omega)]
    exact Below.heap_alloc _ _ _ (by omega)
  have hsz : wr.heap.size + 1 ≤ w'.heap.size := by have := hg.size; rw [World.size_alloc] at this; exact this
  have B1 : Below w.heap.size w w' := (h.below.alloc (by omega) _).trans ⟨hg.os, hg.tape, hg.output, hg.size, fun b hbb => hg.block b (by rw [World.size_alloc]; omega) (fun e => by have := hob b e.symm; omega)⟩
  refine ⟨B1.setCell (by simp) _, by rw [World.size_setCell]; omega, ?_, ?_, ?_, ?_, ?_⟩
  · exact (h.res.block (hb _ (by omega))).other (by simp) _
  · exact (h.rr.block (hb _ (by omega))).set5 _
  · exact (h.no.block (hb _ (by omega))).other (by simp) _
  · intro b j h1 h2
    rw [World.frozen?_setCell, World.frozen?_of_block (w := wr) (a := ⟨b, j, none⟩) (hb b h2)]
    exact h.fz b j h1 h2
  · have := ownsRow_setCell_below ho (a := ⟨w.heap.size + 1, 5, none⟩) (by simp) v'
    simpa using this

end Go.Proofs.Ytbkllhlapdmlfaa

namespace Go.Proofs.Ytbkllhlapdmlfaa
open Go.RowKit
set_option linter.unusedVariables false

def bval (b : UInt8) : Value := .int .u8 (b.toNat : Int)

/-- The digits of the bits below k. -/
def dl (n k : Nat) : List UInt8 := ((List.range k).filter fun i => n / 2 ^ i % 2 == 1).map fun i => UInt8.ofNat (48 + i)
theorem dl_succ_yes (n k : Nat) (h : n / 2 ^ k % 2 = 1) : dl n (k + 1) = dl n k ++ [UInt8.ofNat (48 + k)] := by
  unfold dl; rw [List.range_succ, List.filter_append]; simp [h]
theorem dl_succ_no (n k : Nat) (h : ¬ n / 2 ^ k % 2 = 1) : dl n (k + 1) = dl n k := by
  unfold dl; rw [List.range_succ, List.filter_append]; simp [h]
theorem dl_len (n k : Nat) : (dl n k).length ≤ k := by
  unfold dl; simp; exact Nat.le_trans (List.length_filter_le _ _) (by simp)
theorem bval_dig (k : Nat) (h : k ≤ 200) : bval (UInt8.ofNat (48 + k)) = .int .u8 (48 + (k : Int)) := by
  unfold bval
  have : (UInt8.ofNat (48 + k)).toNat = 48 + k := by simp; omega
  rw [this]; simp

theorem and_bit' (n k : Nat) (hn : n ≤ 511) : bits BinOp.and IntKind.i64 ((n : Int) / 2 ^ k) 1 = ((n / 2 ^ k % 2 : Nat) : Int) := by
  rw [show ((n : Int) / 2 ^ k) = ((n / 2 ^ k : Nat) : Int) by simp]
  have hl : n / 2 ^ k ≤ n := Nat.div_le_self _ _
  have := i64_and_nat (n / 2 ^ k) 1 (by omega) (by omega)
  simp only [Nat.and_one_is_mod] at this
  exact this

/-- Bytes of the call's own, gathered so far. -/
structure Row8 (w wr : World) (v : Value) (l : List UInt8) : Prop where
  below : Below w.heap.size w wr
  own : wr.ownsRow w.heap.size 5 1 v l.length (l.map bval)
theorem Row8.start (w : World) : Row8 w w (.slice none 0 0) [] := ⟨Below.refl _ _, by simp, Or.inl ⟨rfl, by simp⟩⟩
theorem Row8.push {w wr w' : World} {v v' : Value} {l : List UInt8} {b : UInt8} {x : Value} (h : Row8 w wr v l) (hx : bval b = x)
    (hg : (wr.alloc (.cells #[x] 5)).grownBy w' v.ownBlock) (ho : w'.ownsRow w.heap.size 5 1 v' (l.length + 1) (l.map bval ++ [x])) : Row8 w w' v' (l ++ [b]) := by
  have hz := h.below.size
  have hob := ownsRow_block h.own
  refine ⟨(h.below.alloc hz _).trans ⟨hg.os, hg.tape, hg.output, hg.size, fun k hk => hg.block k (by rw [World.size_alloc]; omega) (fun e => by have := hob k e.symm; omega)⟩, ?_⟩
  simpa [hx] using ho

theorem and_pow (n m k : Nat) (hn : n ≤ 511) (hm : m ≤ 512) (h : m = 2 ^ k) : ((bits BinOp.and IntKind.i64 (n : Int) (m : Int)) != 0) = true ↔ n / 2 ^ k % 2 = 1 := by
  rw [i64_and_nat n m (by omega) (by omega), bne_iff_ne, h]
  have ht : n.testBit k = decide (n / 2 ^ k % 2 = 1) := Nat.testBit_eq_decide_div_mod_eq
  constructor
  · intro hne
    cases q : n.testBit k with
    | true => rw [q] at ht; simpa using ht.symm
    | false =>
      exfalso
      apply hne
      have : n &&& 2 ^ k = 0 := by
        apply Nat.eq_of_testBit_eq
        intro i
        rw [Nat.testBit_and, Nat.testBit_two_pow]
        by_cases e : k = i
        · subst e; simp [q]
        · simp [e]
      rw [this]; rfl
  · intro hq he
    have h0 : n &&& 2 ^ k = 0 := by exact_mod_cast he
    have h1 : (n &&& 2 ^ k).testBit k = true := by
      rw [Nat.testBit_and, Nat.testBit_two_pow, ht]; simp [hq]
    rw [h0] at h1
    simp at h1

end Go.Proofs.Ytbkllhlapdmlfaa

namespace Go.Proofs.Ytbkllhlapdmlfaa
open Go.RowKit
set_option linter.unusedVariables false

/-- A bit of a number. -/
def bitN (n i : Nat) : Nat := n / 2 ^ i % 2

/-- What becomes of a cell that has so many neighbours. -/
def becN (born stay : Nat) (c : Int) (n : Nat) : Nat := if c = 1 then bitN stay n else bitN born n
end Go.Proofs.Ytbkllhlapdmlfaa

namespace Go.Proofs.Ytbkllhlapdmlfaa
open Go.RowKit
set_option linter.unusedVariables false
def d0 (n : Nat) : Nat := n % 2
def d1 (n : Nat) : Nat := n / 2 % 2
def d2 (n : Nat) : Nat := n / 4 % 2
def d3 (n : Nat) : Nat := n / 8
def blkV (n : Nat) : Array Value := #[.int .i64 (d0 n : Int), .int .i64 (d1 n : Int), .int .i64 (d2 n : Int), .int .i64 (d3 n : Int)]
theorem and16 : ∀ n : Fin 16, bits BinOp.and IntKind.i64 (n.val : Int) 1 = ((n.val % 2 : Nat) : Int) := by decide
theorem and_one (n : Nat) (hn : n < 16) : bits BinOp.and IntKind.i64 (n : Int) 1 = ((n % 2 : Nat) : Int) := and16 ⟨n, hn⟩
theorem or16 : ∀ a b c d : Fin 2, bits BinOp.or IntKind.i64 (bits BinOp.or IntKind.i64 (bits BinOp.or IntKind.i64 (a.val : Int) ((b.val : Int) * 2)) ((c.val : Int) * 4)) ((d.val : Int) * 8) = ((a.val + 2 * b.val + 4 * c.val + 8 * d.val : Nat) : Int) := by decide
end Go.Proofs.Ytbkllhlapdmlfaa

