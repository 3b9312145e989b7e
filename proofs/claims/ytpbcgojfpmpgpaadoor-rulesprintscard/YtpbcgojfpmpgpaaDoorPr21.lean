/-
  edenref1.Mirror at a line rule: what holds between its rounds.
-/
import Derived.Test.YtpbcgojfpmpgpaaDoorPr20
namespace Go.Proofs.YtpbcgojfpmpgpaaDoor
open Go.RowKit
set_option linter.unusedVariables false

/-- One cell of the window read from behind. -/
theorem rv_step (s long t acc m : Nat) (ht : t < long) : rv s (long - t) acc (m / s ^ t) = rv s (long - (t + 1)) (acc * s + winAt s long m (long - 1 - t)) (m / s ^ (t + 1)) := by
  rw [show long - t = (long - (t + 1)) + 1 by omega]
  show rv s (long - (t + 1)) (acc * s + m / s ^ t % s) (m / s ^ t / s) = _
  unfold winAt
  rw [show long - 1 - (long - 1 - t) = t by omega, Nat.div_div_eq_div_mul, ← Nat.pow_succ]

/-- edenref1.Mirror in the midst of a table: the argument's copy, the result's block, the mirror's; its table grows. -/
structure RefM (w wr : World) (o : Out) (a : Option Addr) (n c : Nat) (v : Value) (xs : List Int) : Prop where
  below : Below w.heap.size w wr
  size : w.heap.size + 3 ≤ wr.heap.size
  arg : Seven wr w.heap.size (.int .i64 o.kind) (.int .i64 o.born) (.int .i64 o.stay) (.int .i64 o.states) (.int .i64 o.radius) (.slice a n c) (.string o.turns)
  res : Seven wr (w.heap.size + 1) (.int .i64 0) (.int .i64 0) (.int .i64 0) (.int .i64 0) (.int .i64 0) (.slice none 0 0) (.string ⟨#[]⟩)
  mm : Seven wr (w.heap.size + 1 + 1) (.int .i64 o.kind) (.int .i64 o.born) (.int .i64 o.stay) (.int .i64 o.states) (.int .i64 o.radius) v (.string o.turns)
  fz : ∀ b j, w.heap.size ≤ b → b < w.heap.size + 3 → wr.frozen? ⟨b, j, none⟩ = false
  own : wr.ownsRow (w.heap.size + 3) 3 1 v xs.length (xs.map fun x => .int .i64 x)
theorem RefM.start (w : World) (o : Out) (a : Option Addr) (n c : Nat) : RefM w ((((w.alloc (.cells #[.int .i64 o.kind, .int .i64 o.born, .int .i64 o.stay, .int .i64 o.states, .int .i64 o.radius, .slice a n c, .string o.turns] 24)).alloc (.cells #[.int .i64 0, .int .i64 0, .int .i64 0, .int .i64 0, .int .i64 0, .slice none 0 0, .string ⟨#[]⟩] 24)).alloc (.cells #[.int .i64 o.kind, .int .i64 o.born, .int .i64 o.stay, .int .i64 o.states, .int .i64 o.radius, .slice a n c, .string o.turns] 24)).setCell ⟨w.heap.size + 1 + 1, 5, none⟩ (.slice none 0 0)) o a n c (.slice none 0 0) [] := by
  have h : ∃ W3, W3 = ((w.alloc (.cells #[.int .i64 o.kind, .int .i64 o.born, .int .i64 o.stay, .int .i64 o.states, .int .i64 o.radius, .slice a n c, .string o.turns] 24)).alloc (.cells #[.int .i64 0, .int .i64 0, .int .i64 0, .int .i64 0, .int .i64 0, .slice none 0 0, .string ⟨#[]⟩] 24)).alloc (.cells #[.int .i64 o.kind, .int .i64 o.born, .int .i64 o.stay, .int .i64 o.states, .int .i64 o.radius, .slice a n c, .string o.turns] 24) := ⟨_, rfl⟩
  obtain ⟨W3, hW⟩ := h
  rw [← hW]
  have A : Seven W3 w.heap.size (.int .i64 o.kind) (.int .i64 o.born) (.int .i64 o.stay) (.int .i64 o.states) (.int .i64 o.radius) (.slice a n c) (.string o.turns) := by rw [hW]; constructor <;> simp [go_sem]
  have B : Seven W3 (w.heap.size + 1) (.int .i64 0) (.int .i64 0) (.int .i64 0) (.int .i64 0) (.int .i64 0) (.slice none 0 0) (.string ⟨#[]⟩) := by rw [hW]; constructor <;> simp [go_sem]
  have C : Seven W3 (w.heap.size + 1 + 1) (.int .i64 o.kind) (.int .i64 o.born) (.int .i64 o.stay) (.int .i64 o.states) (.int .i64 o.radius) (.slice a n c) (.string o.turns) := by rw [hW]; constructor <;> simp [go_sem]
  refine ⟨Below.setCell ?_ (by simp; omega) _, by rw [World.size_setCell, hW]; simp, A.other (by simp; omega) _, B.other (by simp) _, C.set5 _, ?_, ⟨by simp, Or.inl ⟨rfl, by simp⟩⟩⟩
  · rw [hW]; exact (((Below.refl _ _).alloc (Nat.le_refl _) _).alloc (by simp) _).alloc (by simp; omega) _
  · intro b j h1 h2
    rw [World.frozen?_setCell, hW]
    have h3 : b = w.heap.size ∨ b = w.heap.size + 1 ∨ b = w.heap.size + 1 + 1 := by omega
    rcases h3 with rfl | rfl | rfl <;> simp [go_sem]
theorem RefM.next {w wr w' : World} {o : Out} {a : Option Addr} {n c : Nat} {v : Value} {xs : List Int} (h : RefM w wr o a n c v xs) (hb : Below wr.heap.size wr w') : RefM w w' o a n c v xs := by
  have hz := h.size
  have e : ∀ b, b < w.heap.size + 3 → w'.heap[b]? = wr.heap[b]? := fun b hh => hb.block b (by omega)
  refine ⟨h.below.trans (hb.mono h.below.size), Nat.le_trans hz hb.size, h.arg.block (e _ (by omega)), h.res.block (e _ (by omega)), h.mm.block (e _ (by omega)), ?_, ?_⟩
  · intro b j h1 h2
    rw [World.frozen?_of_block (w := wr) (a := ⟨b, j, none⟩) (e b h2)]
    exact h.fz b j h1 h2
  · refine h.own.kept (row := none) ⟨hb.os, hb.tape, hb.output, hb.size, fun k hk _ => hb.block k hk⟩ ?_
    cases q : v.ownBlock with
    | none => exact Or.inl rfl
    | some k => exact Or.inr (by simp)
theorem RefM.push {w wr w' : World} {o : Out} {a : Option Addr} {n c : Nat} {v v' : Value} {xs : List Int} {x : Int} (h : RefM w wr o a n c v xs)
    (hg : (wr.alloc (.cells #[.int .i64 x] 3)).grownBy w' v.ownBlock) (ho : w'.ownsRow (w.heap.size + 3) 3 1 v' (xs.length + 1) ((xs.map fun x => .int .i64 x) ++ [.int .i64 x])) :
    RefM w (w'.setCell ⟨w.heap.size + 1 + 1, 5, none⟩ v') o a n c v' (xs ++ [x]) := by
  have hz := h.size
  have hob := ownsRow_block h.own
  have hb : ∀ b, b < w.heap.size + 3 → w'.heap[b]? = wr.heap[b]? := fun b hb => by
    rw [hg.block b (by rw [World.size_alloc]; omega) (fun e => by have := hob b e.symm; omega)]
    exact Below.heap_alloc _ _ _ (by omega)
  have hsz : wr.heap.size + 1 ≤ w'.heap.size := by have := hg.size; rw [World.size_alloc] at this; exact this
  have B1 : Below w.heap.size w w' := (h.below.alloc (by omega) _).trans ⟨hg.os, hg.tape, hg.output, hg.size, fun b hbb => hg.block b (by rw [World.size_alloc]; omega) (fun e => by have := hob b e.symm; omega)⟩
  refine ⟨B1.setCell (by simp; omega) _, by rw [World.size_setCell]; omega, ?_, ?_, ?_, ?_, ?_⟩
  · exact (h.arg.block (hb _ (by omega))).other (by simp; omega) _
  · exact (h.res.block (hb _ (by omega))).other (by simp) _
  · exact (h.mm.block (hb _ (by omega))).set5 _
  · intro b j h1 h2
    rw [World.frozen?_setCell, World.frozen?_of_block (w := wr) (a := ⟨b, j, none⟩) (hb b h2)]
    exact h.fz b j h1 h2
  · have := ownsRow_setCell_below ho (a := ⟨w.heap.size + 1 + 1, 5, none⟩) (by simp) v'
    simpa using this
end Go.Proofs.YtpbcgojfpmpgpaaDoor
