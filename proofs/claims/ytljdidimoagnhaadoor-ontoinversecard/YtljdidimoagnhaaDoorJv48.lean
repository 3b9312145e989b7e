/-
  What the last text of this claim leans on, part 48: Ln1.
-/
import Derived.Test.YtljdidimoagnhaaDoorJv47
import Derived.Test.YtljdidimoagnhaaDoorJv31
namespace Go.Proofs.YtljdidimoagnhaaDoor
open Go.RowKit
set_option linter.unusedVariables false

/-- Seven values in a box. -/
structure S7 (p : Nat) (v0 v1 v2 v3 v4 v5 v6 : Value) (w : World) : Prop where
  c0 : w.cell? ⟨p, 0, none⟩ = some v0
  c1 : w.cell? ⟨p, 1, none⟩ = some v1
  c2 : w.cell? ⟨p, 2, none⟩ = some v2
  c3 : w.cell? ⟨p, 3, none⟩ = some v3
  c4 : w.cell? ⟨p, 4, none⟩ = some v4
  c5 : w.cell? ⟨p, 5, none⟩ = some v5
  c6 : w.cell? ⟨p, 6, none⟩ = some v6
  fz : ∀ k, w.frozen? ⟨p, k, none⟩ = false
theorem S7.lt {p : Nat} {v0 v1 v2 v3 v4 v5 v6 : Value} {w : World} (h : S7 p v0 v1 v2 v3 v4 v5 v6 w) : p < w.heap.size := cell_lt h.c0
theorem S7.block {p : Nat} {v0 v1 v2 v3 v4 v5 v6 : Value} {w w' : World} (h : S7 p v0 v1 v2 v3 v4 v5 v6 w) (e : w'.heap[p]? = w.heap[p]?) : S7 p v0 v1 v2 v3 v4 v5 v6 w' :=
  ⟨(World.cell?_of_block (w := w) (a := ⟨p, 0, none⟩) e).trans h.c0, (World.cell?_of_block (w := w) (a := ⟨p, 1, none⟩) e).trans h.c1, (World.cell?_of_block (w := w) (a := ⟨p, 2, none⟩) e).trans h.c2, (World.cell?_of_block (w := w) (a := ⟨p, 3, none⟩) e).trans h.c3, (World.cell?_of_block (w := w) (a := ⟨p, 4, none⟩) e).trans h.c4, (World.cell?_of_block (w := w) (a := ⟨p, 5, none⟩) e).trans h.c5, (World.cell?_of_block (w := w) (a := ⟨p, 6, none⟩) e).trans h.c6, fun k => (World.frozen?_of_block (w := w) (a := ⟨p, k, none⟩) e).trans (h.fz k)⟩
theorem S7.next {p : Nat} {v0 v1 v2 v3 v4 v5 v6 : Value} {w w' : World} (h : S7 p v0 v1 v2 v3 v4 v5 v6 w) (hb : Below w.heap.size w w') : S7 p v0 v1 v2 v3 v4 v5 v6 w' := h.block (hb.block p h.lt)
theorem S7.alloc {p : Nat} {v0 v1 v2 v3 v4 v5 v6 : Value} {w : World} (h : S7 p v0 v1 v2 v3 v4 v5 v6 w) (o : Obj) : S7 p v0 v1 v2 v3 v4 v5 v6 (w.alloc o) := h.block (Below.heap_alloc _ _ _ h.lt)
theorem S7.new (w : World) (v0 v1 v2 v3 v4 v5 v6 : Value) (t : TypeId) : S7 w.heap.size v0 v1 v2 v3 v4 v5 v6 (w.alloc (.cells #[v0, v1, v2, v3, v4, v5, v6] t)) :=
  ⟨by rw [World.cell?_alloc_at _ _ _ _ rfl]; rfl, by rw [World.cell?_alloc_at _ _ _ _ rfl]; rfl, by rw [World.cell?_alloc_at _ _ _ _ rfl]; rfl, by rw [World.cell?_alloc_at _ _ _ _ rfl]; rfl, by rw [World.cell?_alloc_at _ _ _ _ rfl]; rfl, by rw [World.cell?_alloc_at _ _ _ _ rfl]; rfl, by rw [World.cell?_alloc_at _ _ _ _ rfl]; rfl, fun k => by simp⟩
theorem S7.keep {p q : Nat} {v0 v1 v2 v3 v4 v5 v6 : Value} {w : World} (h : S7 p v0 v1 v2 v3 v4 v5 v6 w) (hq : p ≠ q) (u0 u1 u2 u3 u4 u5 u6 : Value) : S7 p v0 v1 v2 v3 v4 v5 v6 ((((((((w.setCell ⟨q, 0, none⟩ u0).setCell ⟨q, 1, none⟩ u1).setCell ⟨q, 2, none⟩ u2).setCell ⟨q, 3, none⟩ u3).setCell ⟨q, 4, none⟩ u4).setCell ⟨q, 5, none⟩ u5).setCell ⟨q, 6, none⟩ u6)) := h.block (seven_heap w q p _ _ _ _ _ _ _ hq)
theorem S7.store {p : Nat} {v0 v1 v2 v3 v4 v5 v6 : Value} {w : World} (h : S7 p v0 v1 v2 v3 v4 v5 v6 w) (u0 u1 u2 u3 u4 u5 u6 : Value) : S7 p u0 u1 u2 u3 u4 u5 u6 ((((((((w.setCell ⟨p, 0, none⟩ u0).setCell ⟨p, 1, none⟩ u1).setCell ⟨p, 2, none⟩ u2).setCell ⟨p, 3, none⟩ u3).setCell ⟨p, 4, none⟩ u4).setCell ⟨p, 5, none⟩ u5).setCell ⟨p, 6, none⟩ u6)) := by
  have s0 : ∀ (w : World) (k : Nat) (v u : Value), w.cell? ⟨p, k, none⟩ = some v → (w.setCell ⟨p, k, none⟩ u).cell? ⟨p, k, none⟩ = some u := fun w k v u h => World.cell?_setCell_same _ _ _ h
  refine ⟨?_, ?_, ?_, ?_, ?_, ?_, ?_, fun k => by simp only [World.frozen?_setCell]; exact h.fz k⟩
  · exact cellO (cellO (cellO (cellO (cellO (cellO (s0 _ _ _ _ (h.c0)) (by omega)) (by omega)) (by omega)) (by omega)) (by omega)) (by omega)
  · exact cellO (cellO (cellO (cellO (cellO (s0 _ _ _ _ (cellO (h.c1) (by omega))) (by omega)) (by omega)) (by omega)) (by omega)) (by omega)
  · exact cellO (cellO (cellO (cellO (s0 _ _ _ _ (cellO (cellO (h.c2) (by omega)) (by omega))) (by omega)) (by omega)) (by omega)) (by omega)
  · exact cellO (cellO (cellO (s0 _ _ _ _ (cellO (cellO (cellO (h.c3) (by omega)) (by omega)) (by omega))) (by omega)) (by omega)) (by omega)
  · exact cellO (cellO (s0 _ _ _ _ (cellO (cellO (cellO (cellO (h.c4) (by omega)) (by omega)) (by omega)) (by omega))) (by omega)) (by omega)
  · exact cellO (s0 _ _ _ _ (cellO (cellO (cellO (cellO (cellO (h.c5) (by omega)) (by omega)) (by omega)) (by omega)) (by omega))) (by omega)
  · exact s0 _ _ _ _ (cellO (cellO (cellO (cellO (cellO (cellO (h.c6) (by omega)) (by omega)) (by omega)) (by omega)) (by omega)) (by omega))
theorem reads_seven {w : World} {p : Nat} {a : Option Addr} {xs : List Int} (h : Reads0 w a xs) (hp : ∀ g, a = some ⟨g, 0, none⟩ → g ≠ p) (u0 u1 u2 u3 u4 u5 u6 : Value) : Reads0 ((((((((w.setCell ⟨p, 0, none⟩ u0).setCell ⟨p, 1, none⟩ u1).setCell ⟨p, 2, none⟩ u2).setCell ⟨p, 3, none⟩ u3).setCell ⟨p, 4, none⟩ u4).setCell ⟨p, 5, none⟩ u5).setCell ⟨p, 6, none⟩ u6)) a xs :=
  reads_of_block h fun g e => seven_heap w p g _ _ _ _ _ _ _ (hp g e)
theorem reads_lt {w : World} {a : Option Addr} {xs : List Int} (h : Reads0 w a xs) (hx : 0 < xs.length) : ∀ g, a = some ⟨g, 0, none⟩ → g < w.heap.size := fun g e => by
  obtain ⟨g', e', hc⟩ := h 0 hx
  rw [e'] at e
  injection e with e
  injection e with e
  subst e
  exact cell_lt hc
theorem Cel.reads {w : World} {g : Nat} {xs : List Int} (h : Cel w g xs) : Reads0 w (some ⟨g, 0, none⟩) xs := fun k hk => ⟨g, rfl, by rw [h.cells k hk]; simp [List.getD, hk]⟩
theorem same_line (S K : Nat) (T : List Int) (a b : Option Addr) (ca cb : Nat) (w : World) (hm : T.length ≤ maxLen) (ha : Reads0 w a T) (hb : Reads0 w b T) :
    Calls Tryd.prog 18 #[.agg #[.int .i64 2, .int .i64 0, .int .i64 0, .int .i64 (S : Int), .int .i64 (K : Int), .slice a T.length ca, .string ⟨#[]⟩], .agg #[.int .i64 2, .int .i64 0, .int .i64 0, .int .i64 (S : Int), .int .i64 (K : Int), .slice b T.length cb, .string ⟨#[]⟩]] w fun e w' => e = .returned (.bool true) ∧ Below w.heap.size w w' :=
  Same_any ⟨2, 0, 0, (S : Int), (K : Int), T, ⟨#[]⟩⟩ a b T.length ca cb w rfl hm ha hb
theorem same_zero (w : World) :
    Calls Tryd.prog 18 #[.agg #[.int .i64 0, .int .i64 0, .int .i64 0, .int .i64 0, .int .i64 0, .slice none 0 0, .string ⟨#[]⟩], .agg #[.int .i64 0, .int .i64 0, .int .i64 0, .int .i64 0, .int .i64 0, .slice none 0 0, .string ⟨#[]⟩]] w fun e w' => e = .returned (.bool true) ∧ Below w.heap.size w w' :=
  Same_any ⟨0, 0, 0, 0, 0, [], ⟨#[]⟩⟩ none none 0 0 0 w rfl (Nat.zero_le _) (Reads0.nil _ _) (Reads0.nil _ _)
theorem fault_nil_line (S R : Nat) (T : List Int) (a : Option Addr) (n c : Nat) (w : World) (hL : LineOk S R T) (hT : ArgP w T a n c) :
    Calls Tryd.prog 29 #[.agg #[.int .i64 2, .int .i64 0, .int .i64 0, .int .i64 (S : Int), .int .i64 (R : Int), .slice a n c, .string ⟨#[]⟩], .slice none 0 0] w fun e w' => e = .returned (.int .i64 0) ∧ Below w.heap.size w w' :=
  (lineFault_line S R T a n c [] none 0 0 w hL hT ⟨rfl, Nat.zero_le _, fun k hk => by simp at hk⟩).mono fun e w' ⟨h1, h2⟩ => ⟨by rw [h1, wordE_ok (by simp) (fun x hx => by simp at hx)]; rfl, h2⟩
theorem madeL_small {S R : Nat} {F : List Int → Int} (h : S ^ (2 * R + 1) ≤ 4096) : (madeL S R F).length ≤ maxLen := by rw [madeL_length]; unfold maxLen; omega
theorem madeL_pos {S R : Nat} {F : List Int → Int} (h : 2 ≤ S) : 0 < (madeL S R F).length := by rw [madeL_length]; exact Nat.pow_pos (by omega)
end Go.Proofs.YtljdidimoagnhaaDoor

