/-
  What the last text of this claim leans on, part 38: Pr15, Pr16, Pr17, Pr18, Pr19, Ll5, Ll6, Ll7, Of7, Oj7.
-/
import Derived.Test.YtdhbdkkchobinaaDoorJd9
import Derived.Test.YtdhbdkkchobinaaDoorJd29
import Derived.Test.YtdhbdkkchobinaaDoorJd10
import Derived.Test.YtdhbdkkchobinaaDoorJd26
import Derived.Test.YtdhbdkkchobinaaDoorJd33
import Derived.Test.YtdhbdkkchobinaaDoorJd37
import Derived.Test.YtdhbdkkchobinaaDoorJd22
namespace Go.Proofs.YtdhbdkkchobinaaDoor
open Go.RowKit
set_option linter.unusedVariables false

/-- At block g a list of n ints of the call's own; what stands at f i, for i below k, is xs' i-th. -/
structure ScI (w0 w : World) (g n k : Nat) (f : Nat → Nat) (xs : List Int) : Prop where
  below : Below w0.heap.size w0 w
  ge : w0.heap.size ≤ g
  lt : g < w.heap.size
  cells : ∀ j, j < n → ∃ v, w.cell? ⟨g, j, none⟩ = some v ∧ (∀ i, i < k → f i = j → v = .int .i64 (xs.getD i 0))
  fz : ∀ j, w.frozen? ⟨g, j, none⟩ = false
theorem ScI.start (w : World) (n : Nat) (f : Nat → Nat) (xs : List Int) (z : Value) (t : TypeId) : ScI w (w.alloc (.cells (madeCells #[z] n) t)) w.heap.size n 0 f xs := by
  refine ⟨(Below.refl _ _).alloc (Nat.le_refl _) _, Nat.le_refl _, by simp, fun j hj => ⟨(madeCells #[z] n)[j]'(by rw [size_madeCells]; exact hj), ?_, fun i hi => by omega⟩, fun j => by simp⟩
  rw [World.cell?_alloc_at _ _ _ _ rfl]
  exact Array.getElem?_eq_getElem (by rw [size_madeCells]; exact hj)
theorem ScI.step {w0 w : World} {g n k : Nat} {f : Nat → Nat} {xs : List Int} (h : ScI w0 w g n k f xs) (hk : f k < n) (hinj : ∀ i, i < k → f i ≠ f k) {x : Int} (hx : xs.getD k 0 = x) : ScI w0 (w.setCell ⟨g, f k, none⟩ (.int .i64 x)) g n (k + 1) f xs := by
  refine ⟨h.below.setCell h.ge _, h.ge, by rw [World.size_setCell]; exact h.lt, fun j hj => ?_, fun j => by rw [World.frozen?_setCell]; exact h.fz j⟩
  by_cases e : j = f k
  · subst e
    obtain ⟨v, hv, -⟩ := h.cells _ hj
    refine ⟨_, World.cell?_setCell_same _ _ _ hv, fun i hi he => ?_⟩
    by_cases q : i = k
    · subst q; rw [hx]
    · exact absurd he (hinj i (by omega))
  · obtain ⟨v, hv, hv'⟩ := h.cells j hj
    refine ⟨v, ?_, fun i hi he => hv' i (by have : i ≠ k := fun q => e (by rw [← he, q]); omega) he⟩
    exact (World.cell?_setCell_other _ ⟨g, f k, none⟩ ⟨g, j, none⟩ _ (fun q => e (congrArg Addr.off q).symm)).trans hv

end Go.Proofs.YtdhbdkkchobinaaDoor

namespace Go.Proofs.YtdhbdkkchobinaaDoor
open Go.RowKit
set_option linter.unusedVariables false

end Go.Proofs.YtdhbdkkchobinaaDoor

namespace Go.Proofs.YtdhbdkkchobinaaDoor
open Go.RowKit
set_option linter.unusedVariables false

end Go.Proofs.YtdhbdkkchobinaaDoor

namespace Go.Proofs.YtdhbdkkchobinaaDoor
open Go.RowKit
set_option linter.unusedVariables false

def SM (w : World) (o : Out) (a : Option Addr) (n c : Nat) (w' : World) : Prop := w'.cell? ⟨w.heap.size, 0, none⟩ = some (.int .i64 o.kind) ∧ w'.cell? ⟨w.heap.size, 1, none⟩ = some (.int .i64 o.born) ∧ w'.cell? ⟨w.heap.size, 2, none⟩ = some (.int .i64 o.stay) ∧ w'.cell? ⟨w.heap.size, 3, none⟩ = some (.int .i64 o.states) ∧ w'.cell? ⟨w.heap.size, 4, none⟩ = some (.int .i64 o.radius) ∧ w'.cell? ⟨w.heap.size, 5, none⟩ = some (.slice a n c) ∧ w'.cell? ⟨w.heap.size, 6, none⟩ = some (.string o.turns) ∧ Hid (w.heap.size + 2 ≤ w'.heap.size ∧ Below w.heap.size w w')
theorem SM.block {w w1 w2 : World} {o : Out} {a : Option Addr} {n c : Nat} (h : SM w o a n c w1) (e : w2.heap[w.heap.size]? = w1.heap[w.heap.size]?) (hz : w.heap.size + 2 ≤ w2.heap.size) (hb : Below w.heap.size w w2) : SM w o a n c w2 := by
  obtain ⟨h0, h1, h2, h3, h4, h5, h6, h7⟩ := h
  obtain ⟨c0, c1, c2, c3, c4, c5, c6⟩ := Seven.block (g := w.heap.size) ⟨h0, h1, h2, h3, h4, h5, h6⟩ e
  exact ⟨c0, c1, c2, c3, c4, c5, c6, hide' ⟨hz, hb⟩⟩
theorem SM.next {w w1 w2 : World} {o : Out} {a : Option Addr} {n c : Nat} (h : SM w o a n c w1) (hb : Below w1.heap.size w1 w2) : SM w o a n c w2 := by
  have h7 := h.2.2.2.2.2.2.2.out
  exact h.block (hb.block _ (by omega)) (Nat.le_trans h7.1 hb.size) (h7.2.trans (hb.mono h7.2.size))
end Go.Proofs.YtdhbdkkchobinaaDoor

namespace Go.Proofs.YtdhbdkkchobinaaDoor
open Go.RowKit
set_option linter.unusedVariables false

theorem cell_block_lt {w : World} {a : Addr} {v : Value} (h : w.cell? a = some v) : a.block < w.heap.size := by
  rcases Nat.lt_or_ge a.block w.heap.size with q | q
  · exact q
  · have e : w.heap[a.block]? = none := Array.getElem?_eq_none q
    simp only [World.cell?, e] at h
    cases h
/-- A list of ints reads so, from its start on. -/
def Reads0 (w : World) (a : Option Addr) (xs : List Int) : Prop := ∀ k (h : k < xs.length), ∃ g, a = some ⟨g, 0, none⟩ ∧ w.cell? ⟨g, k, none⟩ = some (.int .i64 xs[k])
theorem Reads0.below {w w' : World} {a : Option Addr} {xs : List Int} (h : Reads0 w a xs) (hb : Below w.heap.size w w') : Reads0 w' a xs := fun k hk => by
  obtain ⟨g, e, hc⟩ := h k hk
  exact ⟨g, e, (World.cell?_of_block (w := w) (a := ⟨g, k, none⟩) (hb.block g (cell_block_lt hc))).trans hc⟩
theorem Reads0.nil (w : World) (a : Option Addr) : Reads0 w a [] := fun k hk => by simp at hk

/-- At block g a list of n ints of the call's own, the cells from k on are f's. -/
structure FillD (w0 w : World) (g n k : Nat) (f : Nat → Int) : Prop where
  below : Below w0.heap.size w0 w
  ge : w0.heap.size ≤ g
  lt : g < w.heap.size
  cells : ∀ j, j < n → ∃ v, w.cell? ⟨g, j, none⟩ = some v ∧ (k ≤ j → v = .int .i64 (f j))
  fz : ∀ j, w.frozen? ⟨g, j, none⟩ = false
theorem FillD.start (w : World) (n : Nat) (f : Nat → Int) (z : Value) (t : TypeId) : FillD w (w.alloc (.cells (madeCells #[z] n) t)) w.heap.size n n f := by
  refine ⟨(Below.refl _ _).alloc (Nat.le_refl _) _, Nat.le_refl _, by simp, fun j hj => ⟨(madeCells #[z] n)[j]'(by rw [size_madeCells]; exact hj), ?_, by omega⟩, fun j => by simp⟩
  rw [World.cell?_alloc_at _ _ _ _ rfl]
  exact Array.getElem?_eq_getElem (by rw [size_madeCells]; exact hj)
theorem FillD.step {w0 w : World} {g n k : Nat} {f : Nat → Int} (h : FillD w0 w g n (k + 1) f) (hk : k < n) {x : Int} (hx : f k = x) : FillD w0 (w.setCell ⟨g, k, none⟩ (.int .i64 x)) g n k f := by
  refine ⟨h.below.setCell h.ge _, h.ge, by rw [World.size_setCell]; exact h.lt, fun j hj => ?_, fun j => by rw [World.frozen?_setCell]; exact h.fz j⟩
  by_cases e : j = k
  · subst e
    obtain ⟨v, hv, -⟩ := h.cells j hj
    exact ⟨_, World.cell?_setCell_same _ _ _ hv, fun _ => by rw [hx]⟩
  · obtain ⟨v, hv, hv'⟩ := h.cells j hj
    refine ⟨v, ?_, fun q => hv' (by omega)⟩
    exact (World.cell?_setCell_other _ ⟨g, k, none⟩ ⟨g, j, none⟩ _ (fun q => e (congrArg Addr.off q).symm)).trans hv

/-- The j-th cell of the window of m, of long cells: the highest digit first. -/
def winAt (s long m j : Nat) : Nat := m / s ^ (long - 1 - j) % s

end Go.Proofs.YtdhbdkkchobinaaDoor

namespace Go.Proofs.YtdhbdkkchobinaaDoor
open Go.RowKit
set_option linter.unusedVariables false

end Go.Proofs.YtdhbdkkchobinaaDoor

namespace Go.Proofs.YtdhbdkkchobinaaDoor
open Go.RowKit
set_option linter.unusedVariables false

end Go.Proofs.YtdhbdkkchobinaaDoor

namespace Go.Proofs.YtdhbdkkchobinaaDoor
open Go.RowKit
set_option linter.unusedVariables false

/-- The rule that grows, in its box at P; what lies below it stays. -/
structure CM (w0 wr : World) (P S K : Nat) (v : Value) (xs : List Int) : Prop where
  below : Below P w0 wr
  sz : P + 1 ≤ wr.heap.size
  rb : RB P S K v wr
  fz : ∀ k, wr.frozen? ⟨P, k, none⟩ = false
  own : wr.ownsRow (P + 1) 3 1 v xs.length (xs.map fun x => .int .i64 x)
theorem CM.next {w0 wr w' : World} {P S K : Nat} {v : Value} {xs : List Int} (h : CM w0 wr P S K v xs) (hb : Below wr.heap.size wr w') : CM w0 w' P S K v xs := by
  have := h.sz
  have := hb.size
  exact ⟨h.below.trans (hb.mono (by omega)), by omega, h.rb.next hb, fun k => (World.frozen?_of_block (w := wr) (a := ⟨P, k, none⟩) (hb.block P (by omega))).trans (h.fz k), ownsRow_keepB h.own fun k _ hk => hb.block k hk⟩
theorem CM.grown {w0 wr w' : World} {P S K : Nat} {v : Value} {xs : List Int} (h : CM w0 wr P S K v xs) {x : Int} (hg : (wr.alloc (.cells #[.int .i64 x] 3)).grownBy w' v.ownBlock) : ∀ k, k < P + 1 → w'.heap[k]? = wr.heap[k]? := fun k hk => by
  have hz := h.sz
  have hob := ownsRow_lt h.own
  rw [hg.block k (by rw [World.size_alloc]; omega) (fun e => by have := (hob k e.symm).1; omega)]
  exact Below.heap_alloc _ _ _ (by omega)
theorem cellO {w : World} {p k j : Nat} {u v : Value} (h : w.cell? ⟨p, k, none⟩ = some v) (hj : j ≠ k) : (w.setCell ⟨p, j, none⟩ u).cell? ⟨p, k, none⟩ = some v :=
  (World.cell?_setCell_other _ ⟨p, j, none⟩ ⟨p, k, none⟩ _ (fun q => hj (congrArg Addr.off q))).trans h
theorem CM.push {w0 wr w' : World} {P S K : Nat} {v v' : Value} {xs : List Int} {x : Int} (h : CM w0 wr P S K v xs) (hg : (wr.alloc (.cells #[.int .i64 x] 3)).grownBy w' v.ownBlock) (ho : w'.ownsRow (P + 1) 3 1 v' (xs.length + 1) ((xs.map fun x => .int .i64 x) ++ [.int .i64 x])) :
    CM w0 (w'.setCell ⟨P, 5, none⟩ v') P S K v' (xs ++ [x]) := by
  have hk := h.grown hg
  have hz := h.sz
  have hsz : wr.heap.size + 1 ≤ w'.heap.size := by have := hg.size; rw [World.size_alloc] at this; exact this
  have hb : Below P w0 w' := h.below.trans ⟨hg.os, hg.tape, hg.output, by omega, fun k hkk => hk k (by omega)⟩
  have r := h.rb.block (hk P (by omega))
  refine ⟨hb.setCell (Nat.le_refl _) _, by rw [World.size_setCell]; omega, ⟨cellO r.c0 (by omega), cellO r.c1 (by omega), cellO r.c2 (by omega), cellO r.c3 (by omega), cellO r.c4 (by omega), World.cell?_setCell_same _ _ _ r.c5, cellO r.c6 (by omega)⟩, fun k => by rw [World.frozen?_setCell]; exact (World.frozen?_of_block (w := wr) (a := ⟨P, k, none⟩) (hk P (by omega))).trans (h.fz k), ?_⟩
  have := ownsRow_setCell_below ho (a := ⟨P, 5, none⟩) (by simp) v'
  simpa using this
theorem CM.start (w : World) (P S K : Nat) (hP : w.heap.size = P) (t : TypeId) : CM (w.alloc (.cells #[.int .i64 2, .int .i64 0, .int .i64 0, .int .i64 (S : Int), .int .i64 (K : Int), .slice none 0 0, .string ⟨#[]⟩] t)) (w.alloc (.cells #[.int .i64 2, .int .i64 0, .int .i64 0, .int .i64 (S : Int), .int .i64 (K : Int), .slice none 0 0, .string ⟨#[]⟩] t)) P S K (.slice none 0 0) [] := by
  subst hP
  exact ⟨Below.refl _ _, by simp, RB.new w S K _ t, fun k => by simp, ⟨by simp, Or.inl ⟨rfl, by simp⟩⟩⟩
end Go.Proofs.YtdhbdkkchobinaaDoor

namespace Go.Proofs.YtdhbdkkchobinaaDoor
open Go.RowKit
set_option linter.unusedVariables false

/-- A word read off a number. -/
def winL (S long x : Nat) : List Int := (List.range long).map fun j => ((winAt S long x j : Nat) : Int)
theorem winL_length (S long x : Nat) : (winL S long x).length = long := by simp [winL]
theorem winL_at {S long x j : Nat} (h : j < long) : (winL S long x).getD j 0 = ((winAt S long x j : Nat) : Int) := by simp [winL, List.getD, h]
theorem winL_ok {S long x : Nat} (hS : 0 < S) : cellsOk S (winL S long x) := by
  intro y hy
  obtain ⟨j, _, rfl⟩ := List.mem_map.1 hy
  have := Nat.mod_lt (x / S ^ (long - 1 - j)) hS
  unfold winAt
  omega
theorem win_digits {S long x i : Nat} (hS : 0 < S) : ∀ m, i + m ≤ long → wn (S : Int) (fun t => (winL S long x).getD t 0) i m = ((x / S ^ (long - i - m) % S ^ m : Nat) : Int)
  | 0, _ => by simp [wn, Nat.mod_one]
  | m + 1, h => by
    rw [wn, win_digits hS m (by omega), winL_at (by omega)]
    unfold winAt
    obtain ⟨D, hD⟩ : ∃ D, long - i - (m + 1) = D := ⟨_, rfl⟩
    rw [show long - 1 - (i + m) = D by omega, show long - i - m = D + 1 by omega, hD, Nat.pow_succ S D, ← Nat.div_div_eq_div_mul, Nat.pow_succ S m, Nat.mul_comm (S ^ m) S, Nat.mod_mul]
    push_cast
    rw [Int.mul_comm, Int.add_comm]
end Go.Proofs.YtdhbdkkchobinaaDoor

namespace Go.Proofs.YtdhbdkkchobinaaDoor
open Go.RowKit
set_option linter.unusedVariables false

/-- A place spelled, from the right, down to a cell. -/
def spelT (S m p j : Nat) : List Int := (List.range m).map fun k => if j ≤ k then ((winAt S m p k : Nat) : Int) else 0
theorem spelT_full (S m p : Nat) : spelT S m p 0 = winL S m p := by simp [spelT, winL]
theorem spelT_none (S m p : Nat) : spelT S m p m = List.replicate m 0 := by
  apply List.ext_getElem (by simp [spelT])
  intro k h1 h2
  simp only [spelT, List.getElem_map, List.getElem_range, List.getElem_replicate]
  rw [if_neg (by simpa [spelT] using h1)]
def valsI (xs : List Int) : Array Value := (xs.map fun y => Value.int .i64 y).toArray
theorem valsI_set (xs : List Int) (i : Nat) (x : Int) : (valsI xs).setIfInBounds i (.int .i64 x) = valsI (xs.set i x) := by
  simp [valsI, List.map_set]
theorem spelT_set {S m p j : Nat} (h0 : 0 < j) (hj : j ≤ m) : (spelT S m p j).set (j - 1) ((winAt S m p (j - 1) : Nat) : Int) = spelT S m p (j - 1) := by
  apply List.ext_getElem (by simp [spelT])
  intro k h1 h2
  rw [List.getElem_set]
  simp only [spelT, List.getElem_map, List.getElem_range]
  by_cases e : j - 1 = k
  · subst e; rw [if_pos rfl, if_pos (Nat.le_refl _)]
  · rw [if_neg e]
    by_cases d : j ≤ k
    · rw [if_pos d, if_pos (by omega)]
    · rw [if_neg d, if_neg (by omega)]
theorem Blk.ints_cell {w : World} {g : Nat} {xs : List Int} {t : TypeId} (h : Blk w g (valsI xs) t) {k : Nat} (hk : k < xs.length) : w.cell? ⟨g, k, none⟩ = some (.int .i64 (xs.getD k 0)) := by
  rw [h.cell k]
  simp [valsI, hk, List.getD]
/-- A word that is answered, a row of the caller's own. -/
def RowPost (xs : List Int) (w : World) (e : Ending) (w' : World) : Prop := ∃ g, e = .returned (.slice (some ⟨g, 0, none⟩) xs.length xs.length) ∧ Blk w' g (valsI xs) 3 ∧ w.heap.size ≤ g ∧ Below w.heap.size w w'

set_option maxRecDepth 100000 in
set_option maxHeartbeats 6400000 in
theorem word_any (S R n p : Nat) (ta : Option Addr) (tn tc : Nat) (w : World) (s2 : 2 ≤ S) (s4 : S ≤ 4) (hR : R ≤ 10) (hp : p < 4096) :
    Calls Tryd.prog 190 #[.agg #[.int .i64 (S : Int), .int .i64 (2 * (R : Int)), .int .i64 (n : Int), .slice ta tn tc], .int .i64 (p : Int)] w (RowPost (winL S (2 * R) p) w) := by
  obtain ⟨w1, hw1⟩ : ∃ w1, w.alloc (.cells #[.int .i64 (S : Int), .int .i64 (2 * (R : Int)), .int .i64 (n : Int), .slice ta tn tc] 150) = w1 := ⟨_, rfl⟩
  have BB := hide' (show Below w.heap.size w w1 by rw [← hw1]; exact (Below.refl _ _).alloc (Nat.le_refl _) _)
  have GX := hide' (show GB w.heap.size S R n (.slice ta tn tc) w1 by rw [← hw1]; exact GB.new w S R n _ _)
  obtain ⟨m, hm⟩ : ∃ m, 2 * R = m := ⟨_, rfl⟩
  have qm : 2 * (R : Int) = (m : Int) := by omega
  have m20 : m ≤ 20 := by omega
  have WL := hide' (winL_length S m p)
  obtain ⟨out, hout⟩ : ∃ out, winL S m p = out := ⟨_, rfl⟩
  have OUT := hide' (show spelT S m p 0 = out by rw [spelT_full, hout])
  rw [hout] at WL
  rw [hm, hout]
  have hmk := run_make_row' (P := Tryd.prog) 22 3 (.int .i64 0) 8 Tryd.underlying22 info_int rfl .i64 .i64 m (by omega) (by omega)
  obtain ⟨g, hg⟩ : ∃ g, w1.heap.size = g := ⟨_, rfl⟩
  have GW := hide' (show w.heap.size < g by rw [← hg, ← hw1]; simp)
  have P0 := hide' (show Blk (w1.alloc (.cells (madeCells #[.int .i64 0] m) 3)) g (valsI (spelT S m p m)) 3 from by
    rw [← hg, spelT_none]
    have : valsI (List.replicate m 0) = madeCells #[.int .i64 0] m := by
      apply Array.ext'
      rw [toList_madeCells_one]
      simp [valsI]
    rw [this]
    exact Blk.new _ _ _)
  have B0 := hide' (show Below w.heap.size w (w1.alloc (.cells (madeCells #[.int .i64 0] m) 3)) from BB.out.alloc BB.out.size _)
  have G0 := hide' (GX.out.next ((Below.refl _ _).alloc (Nat.le_refl _) (.cells (madeCells #[.int .i64 0] m) 3)))
  rw [qm] at hw1
  clear hm hout
  obtain ⟨c0, c1, c2, c3⟩ := GX.out
  rw [qm] at c1
  obtain ⟨d0, d1, d2, d3⟩ := G0.out
  rw [qm] at d1
  rw [qm]
  go_enter Tryd.func190, Tryd.ntmps190
  go_wp2
  try rw [hg]
  clear c0 c1 c2 c3 hw1 hg d0 d1 d2 d3
  go_loopw [1, 6] (fun pv iv wr => ∃ (j : Nat) (x : Nat), pv = .int .i64 (x : Int) ∧ iv = .int .i64 ((j : Int) - 1) ∧ j ≤ m ∧ x ≤ p ∧ Hid (x = p / S ^ (m - j) ∧ Blk wr g (valsI (spelT S m p j)) 3 ∧ GB w.heap.size S R n (.slice ta tn tc) wr ∧ Below w.heap.size w wr)) (fun _ iv _ => (intOf iv + 1).toNat)
  case atStart => exact ⟨m, p, rfl, rfl, by omega, Nat.le_refl _, hide' ⟨by simp, P0.out, G0.out, B0.out⟩⟩
  case round =>
    clear P0 G0 B0
    obtain ⟨j, x, rfl, rfl, hj, hx, H⟩ := hrel
    by_cases d : (0 : Int) ≤ (j : Int) - 1
    · obtain ⟨i, rfl⟩ : ∃ i, j = i + 1 := ⟨j - 1, by omega⟩
      have qi : ((i + 1 : Nat) : Int) - 1 = (i : Int) := by omega
      obtain ⟨c0, c1, c2, c3⟩ := H.out.2.2.1
      obtain ⟨y, hy⟩ : ∃ y, x / S = y := ⟨_, rfl⟩
      obtain ⟨z, hz⟩ : ∃ z, x % S = z := ⟨_, rfl⟩
      have e1 : (x : Int).tdiv (S : Int) = (y : Int) := by rw [Int.tdiv_eq_ediv_of_nonneg (by omega), ← hy]; simp
      have e2 : (x : Int).tmod (S : Int) = (z : Int) := by rw [Int.tmod_eq_emod_of_nonneg (by omega), ← hz]; simp
      have n2 : ¬ (S : Int) = 0 := by omega
      have zS : z < S := by rw [← hz]; exact Nat.mod_lt _ (by omega)
      have yx : y ≤ x := by rw [← hy]; exact Nat.div_le_self _ _
      have ci := H.out.2.1.ints_cell (k := i) (by simp [spelT]; omega)
      have fi := H.out.2.1.frozen i
      have NX := hide' (show (valsI (spelT S m p (i + 1))).setIfInBounds i (.int .i64 (z : Int)) = valsI (spelT S m p i) by
        rw [valsI_set]
        have := spelT_set (S := S) (m := m) (p := p) (j := i + 1) (by omega) hj
        rw [Nat.add_sub_cancel] at this
        rw [← this, show winAt S m p i = z by unfold winAt; rw [← hz, H.out.1, show m - 1 - i = m - (i + 1) by omega]])
      have NY := hide' (show y = p / S ^ (m - i) by rw [← hy, H.out.1, show m - i = (m - (i + 1)) + 1 by omega, Nat.pow_succ, Nat.div_div_eq_div_mul])
      clear hy hz
      have gne : ¬ g = w.heap.size := by have := GW.out; omega
      have gne' : ¬ w.heap.size = g := by have := GW.out; omega
      rw [qi] at d ⊢
      clear qi
      go_wp2
      refine ⟨⟨i, y, rfl, by go_num, by omega, by omega, hide' ⟨NY.out, ?_, ?_, ?_⟩⟩, by simp [intOf]⟩
      · rw [← NX.out]; exact H.out.2.1.set i _
      · exact H.out.2.2.1.block (heap_setCell_other _ _ _ _ _ (by have := GW.out; omega))
      · exact H.out.2.2.2.setCell (p := ⟨g, i, none⟩) (by show w.heap.size ≤ g; have := GW.out; omega) _
    · have j0 : j = 0 := by omega
      subst j0
      have FI := hide' (show Blk wr g (valsI out) 3 by rw [← OUT.out]; exact H.out.2.1)
      have BF := hide' H.out.2.2.2
      clear H
      go_wp2
      go_ret
      exact ⟨g, by rw [WL.out]; rfl, FI.out, Nat.le_of_lt GW.out, BF.out⟩
end Go.Proofs.YtdhbdkkchobinaaDoor

