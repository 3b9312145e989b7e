/-
  What the last text of this claim leans on, part 10: Li9, Lj1, Ob1, Ob2, Ob3, Ob4, Oc1, Oc2.
-/
import Derived.Test.YtjjdjdodhedihaaDoorJl9
import Derived.Test.YtjjdjdodhedihaaDoorJl2
import Derived.Test.YtjjdjdodhedihaaDoorJl1
import Derived.Deep.RegionHeld3
import Derived.RangeFuncNested
import Derived.RangeFuncBound
import Derived.RangeFuncCalls
import Derived.RangeFuncLeaves
import Derived.Shelf.Abstract
import Derived.Shelf.RegionOpen
import Derived.OwnWalkIn
import Derived.TacticsInMore
import Derived.LoopNIn
import Derived.LoopIn
import Derived.RangeFuncBox
import Derived.Maps.AppendAt
namespace Go.Proofs.YtjjdjdodhedihaaDoor
open Go.RowKit
set_option linter.unusedVariables false

theorem ownsRow_cel {w : World} {base : Nat} {e : TypeId} {v : Value} {xs : List Int} (h : w.ownsRow base e 1 v (0 + xs.length) ([] ++ xs.map fun x => .int .i64 x)) (h0 : 0 < xs.length) :
    ∃ g cap, v = .slice (some ⟨g, 0, none⟩) xs.length cap ∧ base ≤ g ∧ xs.length ≤ cap ∧ cap ≤ maxLen ∧ Cel w g xs := by
  rw [Nat.zero_add, List.nil_append] at h
  rcases h.2 with ⟨hv, hn⟩ | ⟨g, cap, cur, hv, hg, hh, hc, hm, hs, ht⟩
  · omega
  · refine ⟨g, cap, hv, hg, hc, hm, (Array.getElem?_eq_some_iff.1 hh).1, fun k hk => ?_, fun k => by simp [World.frozen?, hh]⟩
    have h1 : (cur.toList.take (xs.length * 1))[k]? = some (.int .i64 xs[k]) := by
      rw [ht, List.getElem?_map, List.getElem?_eq_getElem hk]; rfl
    rw [List.getElem?_take] at h1
    simp only [World.cell?, hh]
    have : k < xs.length * 1 := by omega
    rw [if_pos this] at h1
    rw [show xs.getD k 0 = xs[k] by simp [List.getD, hk]]
    simpa using h1
theorem news_ints {w : World} {xs : List Int} {a : Addr} {n c : Nat} (h : ArgP w xs (some a) n c) : ∀ (j : Nat) (u : Value), (xs.map fun x => Value.int .i64 x)[j]? = some u → w.cell? (a.add j) = some u := by
  intro j u hu
  rw [List.getElem?_map] at hu
  obtain ⟨x, hx, rfl⟩ := Option.map_eq_some_iff.1 hu
  obtain ⟨hj, he⟩ := List.getElem?_eq_some_iff.1 hx
  obtain ⟨g, off, e, hg, hc⟩ := h.cells j hj
  injection e with e1
  subst e1
  have ea : (⟨g, off, none⟩ : Addr).add j = ⟨g, off + j, none⟩ := by
    unfold Addr.add
    split
    · rename_i hz; subst hz; rfl
    · rfl
  rw [ea, hc, he]
theorem grown_below {w w' : World} (h : w.grownBy w' none) : Below w.heap.size w w' := ⟨h.os, h.tape, h.output, h.size, fun k hk => h.block k hk (by simp)⟩

end Go.Proofs.YtjjdjdodhedihaaDoor

namespace Go.Proofs.YtjjdjdodhedihaaDoor
open Go.RowKit
set_option linter.unusedVariables false

/-- A list whose block was made since, its capacity in bounds. -/
def FreshL (w : World) (v : Value) : Prop := ∀ g k c, v = .slice (some ⟨g, 0, none⟩) k c → w.heap.size ≤ g ∧ k ≤ c ∧ c ≤ maxLen
/-- A list that is answered, with no error. -/
def ListPost (xs : List Int) (w : World) (e : Ending) (w' : World) : Prop :=
  ∃ v, e = .returned (.tuple #[v, .nilIface]) ∧ Tab w' v xs ∧ FreshL w v ∧ Below w.heap.size w w'
/-- An error that is told. -/
def ListErr (f : Nat) (w : World) (e : Ending) (w' : World) : Prop :=
  e = .returned (.tuple #[.slice none 0 0, .iface 85 (.int .i64 (f : Int))]) ∧ Below w.heap.size w w'
theorem Cel.tabC {w : World} {g n c : Nat} {xs : List Int} (h : Cel w g xs) (hn : xs.length = n) : Tab w (.slice (some ⟨g, 0, none⟩) n c) xs := by
  subst hn
  exact Or.inr ⟨g, c, rfl, h.lt, fun k hk => by rw [h.cells k hk]; simp [List.getD, hk]⟩
theorem FreshL.mk {w : World} {g k c : Nat} (h : w.heap.size ≤ g) (h1 : k ≤ c) (h2 : c ≤ maxLen) : FreshL w (.slice (some ⟨g, 0, none⟩) k c) := fun g' _ _ q => by
  injection q with q1 q2 q3
  injection q1 with q4
  injection q4 with q5
  subst q2 q3 q5
  exact ⟨h, h1, h2⟩
theorem FreshL.nil (w : World) : FreshL w (.slice none 0 0) := fun _ _ _ h => by injection h with h1; cases h1
end Go.Proofs.YtjjdjdodhedihaaDoor

namespace Go.Proofs.YtjjdjdodhedihaaDoor
open Go.RowKit
set_option linter.unusedVariables false

theorem places_of {S R : Nat} {T : List Int} {tn : Nat} (hL : LineOk S R T) (ht : tn = T.length) : tn / S = S ^ (2 * R) := by
  rw [ht]; exact places_div hL.s2 hL.len

/-- A graph in a box of its own. -/
structure GB (p S R n : Nat) (v : Value) (w : World) : Prop where
  c0 : w.cell? ⟨p, 0, none⟩ = some (.int .i64 (S : Int))
  c1 : w.cell? ⟨p, 1, none⟩ = some (.int .i64 (2 * (R : Int)))
  c2 : w.cell? ⟨p, 2, none⟩ = some (.int .i64 (n : Int))
  c3 : w.cell? ⟨p, 3, none⟩ = some v
theorem GB.lt {p S R n : Nat} {v : Value} {w : World} (h : GB p S R n v w) : p < w.heap.size := by
  have h0 := h.c0
  unfold World.cell? at h0
  by_cases hp : p < w.heap.size
  · exact hp
  · simp only [Array.getElem?_eq_none (Nat.le_of_not_lt hp)] at h0
    cases h0
theorem GB.block {p S R n : Nat} {v : Value} {w w' : World} (h : GB p S R n v w) (e : w'.heap[p]? = w.heap[p]?) : GB p S R n v w' :=
  ⟨(World.cell?_of_block (w := w) (a := ⟨p, 0, none⟩) e).trans h.c0, (World.cell?_of_block (w := w) (a := ⟨p, 1, none⟩) e).trans h.c1, (World.cell?_of_block (w := w) (a := ⟨p, 2, none⟩) e).trans h.c2, (World.cell?_of_block (w := w) (a := ⟨p, 3, none⟩) e).trans h.c3⟩
theorem GB.next {p S R n : Nat} {v : Value} {w w' : World} (h : GB p S R n v w) (hb : Below w.heap.size w w') : GB p S R n v w' := h.block (hb.block p h.lt)
theorem GB.new (w : World) (S R n : Nat) (v : Value) (t : TypeId) : GB w.heap.size S R n v (w.alloc (.cells #[.int .i64 (S : Int), .int .i64 (2 * (R : Int)), .int .i64 (n : Int), v] t)) :=
  ⟨by rw [World.cell?_alloc_at _ _ _ _ rfl]; rfl, by rw [World.cell?_alloc_at _ _ _ _ rfl]; rfl, by rw [World.cell?_alloc_at _ _ _ _ rfl]; rfl, by rw [World.cell?_alloc_at _ _ _ _ rfl]; rfl⟩

end Go.Proofs.YtjjdjdodhedihaaDoor

namespace Go.Proofs.YtjjdjdodhedihaaDoor
open Go.RowKit
set_option linter.unusedVariables false

/-- The graph's box and a list of the call's own. -/
structure PS (w wr : World) (S R n : Nat) (v : Value) (g : Nat) (xs : List Int) : Prop where
  gb : GB w.heap.size S R n v wr
  bl : Below w.heap.size w wr
  cl : Cel wr g xs
  lt : w.heap.size < g
theorem PS.below {w wr w' : World} {S R n g : Nat} {v : Value} {xs : List Int} (h : PS w wr S R n v g xs) (hb : Below wr.heap.size wr w') : PS w w' S R n v g xs :=
  ⟨h.gb.next hb, h.bl.trans (hb.mono h.bl.size), h.cl.below hb, h.lt⟩
theorem heap_setCell_other (w : World) (g i k : Nat) (v : Value) (h : k ≠ g) : (w.setCell ⟨g, i, none⟩ v).heap[k]? = w.heap[k]? := RowKit.Below.heap_setCell _ _ _ _ h
theorem PS.set {w wr : World} {S R n g : Nat} {v : Value} {xs : List Int} (h : PS w wr S R n v g xs) (i : Nat) (x : Int) (hi : i < xs.length) : PS w (wr.setCell ⟨g, i, none⟩ (.int .i64 x)) S R n v g (xs.set i x) :=
  ⟨h.gb.block (heap_setCell_other _ _ _ _ _ (by have := h.lt; omega)), h.bl.setCell (Nat.le_of_lt h.lt) _, h.cl.set i x hi, h.lt⟩
theorem PS.setOther {w wr : World} {S R n g f : Nat} {v : Value} {xs : List Int} (h : PS w wr S R n v g xs) (hf : w.heap.size < f) (hne : g ≠ f) (i : Nat) (u : Value) : PS w (wr.setCell ⟨f, i, none⟩ u) S R n v g xs :=
  ⟨h.gb.block (heap_setCell_other _ _ _ _ _ (by omega)), h.bl.setCell (Nat.le_of_lt hf) _, h.cl.block (by simp) (heap_setCell_other _ _ _ _ _ hne), h.lt⟩
theorem PS.drew {w wr : World} {S R n g : Nat} {v : Value} {xs : List Int} (h : PS w wr S R n v g xs) : PS w wr.drew S R n v g xs :=
  ⟨⟨h.gb.c0, h.gb.c1, h.gb.c2, h.gb.c3⟩, h.bl.drew, ⟨h.cl.lt, h.cl.cells, h.cl.fz⟩, h.lt⟩
theorem PS.at {w wr : World} {S R n g : Nat} {v : Value} {xs : List Int} (h : PS w wr S R n v g xs) {i : Nat} (hi : i < xs.length) : wr.cell? ⟨g, i, none⟩ = some (.int .i64 (xs.getD i 0)) := h.cl.cells i hi
theorem PS.new {w wr : World} {S R n g : Nat} {v : Value} {xs : List Int} (h : PS w wr S R n v g xs) (N : Nat) (t : TypeId) : PS w (wr.alloc (.cells (madeCells #[.int .i64 0] N) t)) S R n v wr.heap.size (List.replicate N 0) :=
  ⟨h.gb.block (Below.heap_alloc _ _ _ h.gb.lt), h.bl.alloc h.bl.size _, Cel.made wr N t, Nat.lt_of_lt_of_le h.gb.lt (Nat.le_refl _)⟩
theorem PS.start (w : World) (S R n : Nat) (v : Value) (t t' : TypeId) : PS w ((w.alloc (.cells #[.int .i64 (S : Int), .int .i64 (2 * (R : Int)), .int .i64 (n : Int), v] t)).alloc (.cells (madeCells #[.int .i64 0] n) t')) S R n v (w.heap.size + 1) (List.replicate n 0) := by
  have b := GB.new w S R n v t
  have c := Cel.made (w.alloc (.cells #[.int .i64 (S : Int), .int .i64 (2 * (R : Int)), .int .i64 (n : Int), v] t)) n t'
  rw [World.size_alloc] at c
  exact ⟨b.block (Below.heap_alloc _ _ _ b.lt), ((Below.refl _ _).alloc (Nat.le_refl _) _).alloc (by simp) _, c, by omega⟩

end Go.Proofs.YtjjdjdodhedihaaDoor

namespace Go.Proofs.YtjjdjdodhedihaaDoor
open Go.RowKit
set_option linter.unusedVariables false

/-- The rule's box and a list of the call's own. -/
structure QS (w wr : World) (S R : Nat) (v : Value) (g : Nat) (xs : List Int) : Prop where
  rb : RB w.heap.size S R v wr
  bl : Below w.heap.size w wr
  cl : Cel wr g xs
  lt : w.heap.size < g
theorem QS.below {w wr w' : World} {S R g : Nat} {v : Value} {xs : List Int} (h : QS w wr S R v g xs) (hb : Below wr.heap.size wr w') : QS w w' S R v g xs :=
  ⟨h.rb.next hb, h.bl.trans (hb.mono h.bl.size), h.cl.below hb, h.lt⟩
theorem QS.set {w wr : World} {S R g : Nat} {v : Value} {xs : List Int} (h : QS w wr S R v g xs) (i : Nat) (x : Int) (hi : i < xs.length) : QS w (wr.setCell ⟨g, i, none⟩ (.int .i64 x)) S R v g (xs.set i x) :=
  ⟨h.rb.block (heap_setCell_other _ _ _ _ _ (by have := h.lt; omega)), h.bl.setCell (Nat.le_of_lt h.lt) _, h.cl.set i x hi, h.lt⟩
theorem QS.setOther {w wr : World} {S R g f : Nat} {v : Value} {xs : List Int} (h : QS w wr S R v g xs) (hf : w.heap.size < f) (hne : g ≠ f) (i : Nat) (u : Value) : QS w (wr.setCell ⟨f, i, none⟩ u) S R v g xs :=
  ⟨h.rb.block (heap_setCell_other _ _ _ _ _ (by omega)), h.bl.setCell (Nat.le_of_lt hf) _, h.cl.block (by simp) (heap_setCell_other _ _ _ _ _ hne), h.lt⟩
theorem QS.drew {w wr : World} {S R g : Nat} {v : Value} {xs : List Int} (h : QS w wr S R v g xs) : QS w wr.drew S R v g xs :=
  ⟨h.rb.block rfl, h.bl.drew, ⟨h.cl.lt, h.cl.cells, h.cl.fz⟩, h.lt⟩
theorem QS.new {w wr : World} {S R g : Nat} {v : Value} {xs : List Int} (h : QS w wr S R v g xs) (N : Nat) (t : TypeId) : QS w (wr.alloc (.cells (madeCells #[.int .i64 0] N) t)) S R v wr.heap.size (List.replicate N 0) :=
  ⟨h.rb.alloc _, h.bl.alloc h.bl.size _, Cel.made wr N t, Nat.lt_of_lt_of_le h.rb.lt (Nat.le_refl _)⟩

end Go.Proofs.YtjjdjdodhedihaaDoor

namespace Go.Proofs.YtjjdjdodhedihaaDoor
open Go.RowKit
set_option linter.unusedVariables false

def SMg (w : World) (S R : Nat) (ta : Option Addr) (tn tc : Nat) (w' : World) : Prop := w'.cell? ⟨w.heap.size, 0, none⟩ = some (.int .i64 2) ∧ w'.cell? ⟨w.heap.size, 1, none⟩ = some (.int .i64 0) ∧ w'.cell? ⟨w.heap.size, 2, none⟩ = some (.int .i64 0) ∧ w'.cell? ⟨w.heap.size, 3, none⟩ = some (.int .i64 (S : Int)) ∧ w'.cell? ⟨w.heap.size, 4, none⟩ = some (.int .i64 (R : Int)) ∧ w'.cell? ⟨w.heap.size, 5, none⟩ = some (.slice ta tn tc) ∧ w'.cell? ⟨w.heap.size, 6, none⟩ = some (.string ⟨#[]⟩)
theorem SMg.of {w w' : World} {S R : Nat} {ta : Option Addr} {tn tc : Nat} (h : RB w.heap.size S R (.slice ta tn tc) w') : SMg w S R ta tn tc w' := by
  obtain ⟨x0, x1, x2, x3, x4, x5, x6⟩ := h
  exact ⟨x0, x1, x2, x3, x4, x5, x6⟩

theorem SMg.stored {w w2 : World} {S R : Nat} {ta : Option Addr} {tn tc : Nat} (h : RB w.heap.size S R (.slice ta tn tc) w2) (a b c d : Value) :
    SMg w S R ta tn tc ((((w2.setCell ⟨w.heap.size + 1, 0, none⟩ a).setCell ⟨w.heap.size + 1, 1, none⟩ b).setCell ⟨w.heap.size + 1, 2, none⟩ c).setCell ⟨w.heap.size + 1, 3, none⟩ d) :=
  SMg.of (h.block (by rw [heap_setCell_other _ _ _ _ _ (by omega), heap_setCell_other _ _ _ _ _ (by omega), heap_setCell_other _ _ _ _ _ (by omega), heap_setCell_other _ _ _ _ _ (by omega)]))

end Go.Proofs.YtjjdjdodhedihaaDoor

namespace Go.Proofs.YtjjdjdodhedihaaDoor
open Go.RowKit Go.Shelf
set_option linter.unusedVariables false
attribute [local go_sem] Oper.semAt_some

/-- What a round keeps: all below a block, and two blocks more. -/
def KB (B0 pg pf : Nat) (W W' : World) : Prop := W.heap.size ≤ W'.heap.size ∧ ∀ k, (k < B0 ∨ k = pg ∨ k = pf) → W'.heap[k]? = W.heap[k]?
theorem KB.refl (B0 pg pf : Nat) (W : World) : KB B0 pg pf W W := ⟨Nat.le_refl _, fun _ _ => rfl⟩
theorem KB.trans {B0 pg pf : Nat} {A B C : World} (h : KB B0 pg pf A B) (k : KB B0 pg pf B C) : KB B0 pg pf A C := ⟨Nat.le_trans h.1 k.1, fun i hi => (k.2 i hi).trans (h.2 i hi)⟩
theorem KB.below {B0 pg pf : Nat} {A B : World} (h : Below A.heap.size A B) (h1 : pg < A.heap.size) (h2 : pf < A.heap.size) (h3 : B0 ≤ A.heap.size) : KB B0 pg pf A B := ⟨h.size, fun k hk => h.block k (by omega)⟩
theorem grown_of_below {w w' : World} (h : Below w.heap.size w w') : w.grownBy w' none := ⟨h.os, h.tape, h.output, h.size, fun k hk _ => h.block k hk⟩
/-- A pair in a box. -/
structure PB (p a b : Nat) (w : World) : Prop where
  c0 : w.cell? ⟨p, 0, none⟩ = some (.int .i64 (a : Int))
  c1 : w.cell? ⟨p, 1, none⟩ = some (.int .i64 (b : Int))
theorem PB.block {p a b : Nat} {w w' : World} (h : PB p a b w) (e : w'.heap[p]? = w.heap[p]?) : PB p a b w' :=
  ⟨(World.cell?_of_block (w := w) (a := ⟨p, 0, none⟩) e).trans h.c0, (World.cell?_of_block (w := w) (a := ⟨p, 1, none⟩) e).trans h.c1⟩
theorem PB.lt {p a b : Nat} {w : World} (h : PB p a b w) : p < w.heap.size := by
  have h0 := h.c0
  unfold World.cell? at h0
  by_cases hp : p < w.heap.size
  · exact hp
  · simp only [Array.getElem?_eq_none (Nat.le_of_not_lt hp)] at h0
    cases h0

/-- What the iterator reads, between two rounds. -/
structure WI (W : World) (S R n p q : Nat) (T : List Int) (ta : Option Addr) (tn tc pg pf B0 : Nat) : Prop where
  gb : GB pg S R n (.slice ta tn tc) W
  pb : PB pf p q W
  at_ : ArgP W T ta tn tc
theorem WI.next {W W' : World} {S R n p q : Nat} {T : List Int} {ta : Option Addr} {tn tc pg pf B0 : Nat} (h : WI W S R n p q T ta tn tc pg pf B0) (k : Below W.heap.size W W') : WI W' S R n p q T ta tn tc pg pf B0 :=
  ⟨h.gb.next k, h.pb.block (k.block pf h.pb.lt), h.at_.below k⟩

end Go.Proofs.YtjjdjdodhedihaaDoor

namespace Go.Proofs.YtjjdjdodhedihaaDoor
open Go.RowKit
set_option linter.unusedVariables false

/-- A block of cells, as it lies. -/
def Blk (w : World) (p : Nat) (cs : Array Value) (t : TypeId) : Prop := w.heap[p]? = some (.cells cs t (0, 0))
theorem Blk.lt {w : World} {p : Nat} {cs : Array Value} {t : TypeId} (h : Blk w p cs t) : p < w.heap.size := (Array.getElem?_eq_some_iff.1 h).1
theorem Blk.cell {w : World} {p : Nat} {cs : Array Value} {t : TypeId} (h : Blk w p cs t) (i : Nat) : w.cell? ⟨p, i, none⟩ = cs[i]? := by simp [World.cell?, show w.heap[p]? = _ from h]
theorem Blk.frozen {w : World} {p : Nat} {cs : Array Value} {t : TypeId} (h : Blk w p cs t) (i : Nat) : w.frozen? ⟨p, i, none⟩ = false := by simp [World.frozen?, show w.heap[p]? = _ from h]
theorem Blk.new (w : World) (cs : Array Value) (t : TypeId) : Blk (w.alloc (.cells cs t)) w.heap.size cs t := World.alloc_heap_new w _
theorem Blk.alloc {w : World} {p : Nat} {cs : Array Value} {t : TypeId} (h : Blk w p cs t) (o : Obj) : Blk (w.alloc o) p cs t := (Below.heap_alloc w o p h.lt).trans h
theorem Blk.of {w w' : World} {p : Nat} {cs : Array Value} {t : TypeId} (h : Blk w p cs t) (e : w'.heap[p]? = w.heap[p]?) : Blk w' p cs t := e.trans h
theorem Blk.set {w : World} {p : Nat} {cs : Array Value} {t : TypeId} (h : Blk w p cs t) (i : Nat) (v : Value) : Blk (w.setCell ⟨p, i, none⟩ v) p (cs.setIfInBounds i v) t := by
  obtain ⟨hlt, hk⟩ := Array.getElem?_eq_some_iff.1 h
  show (w.heap.modify p _)[p]? = _
  rw [Array.getElem?_eq_getElem (by rw [Array.size_modify]; exact hlt), Array.getElem_modify_self, hk]
  rfl
theorem Blk.setOther {w : World} {p g i : Nat} {cs : Array Value} {t : TypeId} (h : Blk w p cs t) (hne : p ≠ g) (v : Value) : Blk (w.setCell ⟨g, i, none⟩ v) p cs t := h.of (heap_setCell_other _ _ _ _ _ hne)

/-- A stop: a pair of places, the cells by which it was come to, the number of the one ahead. -/
structure Stp where
  p : Nat
  q : Nat
  a : Nat
  b : Nat
  h : Int
def Stp.cells (s : Stp) : List Value := [.int .i64 (s.p : Int), .int .i64 (s.q : Int), .int .i64 (s.a : Int), .int .i64 (s.b : Int), .int .i64 s.h]
def stCells (st : List Stp) : List Value := st.flatMap Stp.cells
theorem stCells_at (st : List Stp) : ∀ (i k : Nat) (hi : i < st.length), k < 5 → (stCells st)[i * 5 + k]? = (st[i].cells)[k]? := by
  induction st with
  | nil => intro i k hi; simp at hi
  | cons s r ih =>
    intro i k hi hk
    have e : stCells (s :: r) = s.cells ++ stCells r := rfl
    have hl : s.cells.length = 5 := rfl
    rw [e]
    cases i with
    | zero => rw [List.getElem?_append_left (by omega)]; simp
    | succ i =>
      rw [List.getElem?_append_right (by omega), hl, show (i + 1) * 5 + k - 5 = i * 5 + k by omega]
      exact ih i k (by simpa using hi) hk

/-- What search holds: what was seen, where it stopped. -/
structure VS (W : World) (S R n : Nat) (v3 : Value) (pg ps gs pt B0 : Nat) (sn : List Bool) (st : List Stp) : Prop where
  gb : Blk W pg #[.int .i64 (S : Int), .int .i64 (2 * (R : Int)), .int .i64 (n : Int), v3] 79
  sb : Blk W ps #[.slice (some ⟨gs, 0, none⟩) (n * n) (n * n)] 90
  sc : Blk W gs (sn.map Value.bool).toArray 4
  sl : sn.length = n * n
  tv : ∃ v, Blk W pt #[v] 164 ∧ W.ownsRow B0 166 5 v st.length (stCells st)
  b1 : B0 ≤ pg
  b2 : B0 ≤ ps
  b3 : B0 ≤ gs
  b4 : B0 ≤ pt

/-- What a visit may turn: the two, the stops' row; all else lies as it lay. -/
structure VK (gs pt B0 : Nat) (W W' : World) : Prop where
  bl : Below B0 W W'
  same : ∀ k o, W.heap[k]? = some o → k ≠ gs → k ≠ pt → (∀ c f, o ≠ .cells c 166 f) → W'.heap[k]? = some o
theorem VK.refl (gs pt B0 : Nat) (W : World) : VK gs pt B0 W W := ⟨Below.refl _ _, fun _ _ h _ _ _ => h⟩
theorem VK.trans {gs pt B0 : Nat} {A B C : World} (h : VK gs pt B0 A B) (k : VK gs pt B0 B C) : VK gs pt B0 A C :=
  ⟨h.bl.trans k.bl, fun i o h0 h1 h2 h3 => k.same i o (h.same i o h0 h1 h2 h3) h1 h2 h3⟩
theorem VK.below {gs pt B0 : Nat} {A B : World} (h : Below A.heap.size A B) (hB : B0 ≤ A.heap.size) : VK gs pt B0 A B :=
  ⟨h.mono hB, fun k o h0 _ _ _ => (h.block k (Array.getElem?_eq_some_iff.1 h0).1).trans h0⟩
theorem VK.blk {gs pt B0 : Nat} {A B : World} (h : VK gs pt B0 A B) {p : Nat} {cs : Array Value} {t : TypeId} (hp : Blk A p cs t) (h1 : p ≠ gs) (h2 : p ≠ pt) (ht : t ≠ 166) : Blk B p cs t :=
  h.same p _ hp h1 h2 (fun c f e => by injection e with _ e _; exact ht e)
/-- Was a pair seen? -/
def wasSeen (n : Nat) (sn : List Bool) (p q : Nat) : Bool := sn.getD (p * n + q) false
theorem VS.next {W W' : World} {S R n : Nat} {v3 : Value} {pg ps gs pt B0 : Nat} {sn : List Bool} {st : List Stp} (h : VS W S R n v3 pg ps gs pt B0 sn st) (k : Below W.heap.size W W') : VS W' S R n v3 pg ps gs pt B0 sn st := by
  obtain ⟨v, tb, tr⟩ := h.tv
  refine ⟨h.gb.of (k.block pg h.gb.lt), h.sb.of (k.block ps h.sb.lt), h.sc.of (k.block gs h.sc.lt), h.sl, ⟨v, tb.of (k.block pt tb.lt), tr.kept (grown_of_below k) (Classical.em _)⟩, h.b1, h.b2, h.b3, h.b4⟩
end Go.Proofs.YtjjdjdodhedihaaDoor

