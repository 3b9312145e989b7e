/-
  edenlaw1.PatternReads, walked: at every text it returns true.
-/
import Derived.Test.YtpbcgojfpmpgpaaDoorDa5
import Derived.Test.YtpbcgojfpmpgpaaDoorAl1
import Derived.Test.YtpbcgojfpmpgpaaDoorErr
namespace Go.Proofs.YtpbcgojfpmpgpaaDoor
open Go.RowKit
set_option linter.unusedVariables false

/-- What the program says of a text, and what the document says, are the same. -/
def Pair (Fr : World → Value → Prop) (f g : Nat) (s : ByteArray) : Prop :=
  ∃ (W H a k : Int) (errv : Value) (xs : List Int),
    (∀ w, Calls Tryd.prog f #[.string s] w fun e w' => ∃ va, e = .returned (.tuple #[.agg #[.int .i64 W, .int .i64 H, va], .int .i64 a, errv]) ∧ Tab w' va xs ∧ Below w.heap.size w w' ∧ xs.length ≤ maxLen ∧ Fr w va) ∧
    (∀ w, Calls Tryd.prog g #[.string s] w fun e w' => ∃ vb, e = .returned (.tuple #[.agg #[.int .i64 W, .int .i64 H, vb], .int .i64 a, .int .i64 k]) ∧ Tab w' vb xs ∧ Below w.heap.size w w' ∧ Fr w vb) ∧
    (∀ w, Handle w → Calls Tryd.prog 11 #[errv, .int .i64 k] w fun e w' => e = .returned (.bool true) ∧ Below w.heap.size w w')

theorem err_nil_true (w : World) : Calls Tryd.prog 11 #[.nilIface, .int .i64 0] w fun e w' => e = .returned (.bool true) ∧ Below w.heap.size w w' :=
  (error_nil 0 w).mono fun e w' ⟨h1, h2⟩ => ⟨h1, by rw [h2]; exact Below.refl _ _⟩
theorem err_some_true (k : Int) (w : World) (hg : Handle w) : Calls Tryd.prog 11 #[.iface 72 (.int .i64 k), .int .i64 k] w fun e w' => e = .returned (.bool true) ∧ Below w.heap.size w w' :=
  (error_errno k k w hg).mono fun e w' ⟨h1, h2⟩ => ⟨by rw [h1]; simp, h2⟩
theorem tab_nil (w : World) : Tab w (.slice none 0 0) [] := Or.inl ⟨rfl, rfl⟩

theorem pair_runs (s : ByteArray) (hs : s.size ≤ maxLen) : Pair (fun _ _ => True) 35 36 s := by
  cases hx : runsS s with
  | inl x =>
    obtain ⟨W, H, xs⟩ := x
    refine ⟨W, H, 0, 0, .nilIface, xs, fun w => (pParseRuns_any s w hs).mono ?_, fun w => (refParseRuns_any s w hs).mono ?_, fun w _ => err_nil_true w⟩
    · rintro e w' ⟨hb, (⟨W', H', xs', g, h1, h2, h3, h4, h5, h6⟩ | ⟨a, f, h1, -⟩)⟩
      · rw [hx] at h1
        cases h1
        exact ⟨_, h2, h3.tab h4, hb, by have := Nat.mul_le_mul h5 h6; unfold maxLen; omega, trivial⟩
      · rw [hx] at h1; cases h1
    · rintro e w' ⟨hb, (⟨W', H', xs', g, h1, h2, h3, h4, -, -⟩ | ⟨a, f, h1, -, -⟩)⟩
      · rw [hx] at h1
        cases h1
        exact ⟨_, h2, h3.tab h4, hb, trivial⟩
      · rw [hx] at h1; cases h1
  | inr x =>
    obtain ⟨a, f⟩ := x
    refine ⟨0, 0, (a : Int), (f : Int), .iface 72 (.int .i64 (f : Int)), [], fun w => (pParseRuns_any s w hs).mono ?_, fun w => (refParseRuns_any s w hs).mono ?_, fun w hg => err_some_true _ w hg⟩
    · rintro e w' ⟨hb, (⟨W', H', xs', g, h1, -⟩ | ⟨a', f', h1, h2⟩)⟩
      · rw [hx] at h1; cases h1
      · rw [hx] at h1
        cases h1
        exact ⟨_, h2, tab_nil _, hb, by unfold maxLen; simp, trivial⟩
    · rintro e w' ⟨hb, (⟨W', H', xs', g, h1, -⟩ | ⟨a', f', h1, -, h2⟩)⟩
      · rw [hx] at h1; cases h1
      · rw [hx] at h1
        cases h1
        exact ⟨_, h2, tab_nil _, hb, trivial⟩

theorem pair_draw (s : ByteArray) (hs : s.size ≤ maxLen) : Pair Fresh 37 38 s := by
  cases hx : drawS s with
  | inl x =>
    obtain ⟨W, H, xs⟩ := x
    refine ⟨W, H, 0, 0, .nilIface, xs, fun w => (pParseDraw_any s w hs).mono ?_, fun w => (refParseDraw_any s w hs).mono ?_, fun w _ => err_nil_true w⟩
    · rintro e w' ⟨hb, (⟨W', H', xs', v, h1, h2, h3, h4, h5⟩ | ⟨a, f, h1, -⟩)⟩
      · rw [hx] at h1
        cases h1
        exact ⟨_, h2, h3, hb, by unfold maxLen; omega, h5⟩
      · rw [hx] at h1; cases h1
    · rintro e w' ⟨hb, (⟨W', H', xs', v, h1, h2, h3, h4, h5⟩ | ⟨a, f, h1, -, -⟩)⟩
      · rw [hx] at h1
        cases h1
        exact ⟨_, h2, h3, hb, h5⟩
      · rw [hx] at h1; cases h1
  | inr x =>
    obtain ⟨a, f⟩ := x
    refine ⟨0, 0, (a : Int), (f : Int), .iface 72 (.int .i64 (f : Int)), [], fun w => (pParseDraw_any s w hs).mono ?_, fun w => (refParseDraw_any s w hs).mono ?_, fun w hg => err_some_true _ w hg⟩
    · rintro e w' ⟨hb, (⟨W', H', xs', v, h1, -⟩ | ⟨a', f', h1, h2⟩)⟩
      · rw [hx] at h1; cases h1
      · rw [hx] at h1
        cases h1
        exact ⟨_, h2, tab_nil _, hb, by unfold maxLen; simp, Fresh.nil _⟩
    · rintro e w' ⟨hb, (⟨W', H', xs', v, h1, -⟩ | ⟨a', f', h1, -, h2⟩)⟩
      · rw [hx] at h1; cases h1
      · rw [hx] at h1
        cases h1
        exact ⟨_, h2, tab_nil _, hb, Fresh.nil _⟩

/-- A pattern that lies in a block of its own. -/
structure PB (p : Nat) (a b c : Value) (w : World) : Prop where
  c0 : w.cell? ⟨p, 0, none⟩ = some a
  c1 : w.cell? ⟨p, 1, none⟩ = some b
  c2 : w.cell? ⟨p, 2, none⟩ = some c
  fz : ∀ k, w.frozen? ⟨p, k, none⟩ = false
theorem PB.lt {p : Nat} {a b c : Value} {w : World} (h : PB p a b c w) : p < w.heap.size := by
  rcases Nat.lt_or_ge p w.heap.size with k | k
  · exact k
  · have := h.c0; simp [World.cell?, Array.getElem?_eq_none k] at this
theorem PB.block {p : Nat} {a b c : Value} {w w' : World} (h : PB p a b c w) (e : w'.heap[p]? = w.heap[p]?) : PB p a b c w' :=
  ⟨(World.cell?_of_block (w := w) (a := ⟨p, 0, none⟩) e).trans h.c0, (World.cell?_of_block (w := w) (a := ⟨p, 1, none⟩) e).trans h.c1, (World.cell?_of_block (w := w) (a := ⟨p, 2, none⟩) e).trans h.c2, fun k => (World.frozen?_of_block (w := w) (a := ⟨p, k, none⟩) e).trans (h.fz k)⟩
theorem PB.next {p : Nat} {a b c : Value} {w w' : World} (h : PB p a b c w) (hb : Below w.heap.size w w') : PB p a b c w' := h.block (hb.block p h.lt)
theorem PB.new (w : World) (a b c : Value) (t : TypeId) : PB w.heap.size a b c (w.alloc (.cells #[a, b, c] t)) :=
  ⟨cell_new_at _ _ _ _, cell_new_at _ _ _ _, cell_new_at _ _ _ _, fun k => by simp⟩
theorem PB.store {p : Nat} {a b c : Value} {w : World} (h : PB p a b c w) (a' b' c' : Value) : PB p a' b' c' (((w.setCell ⟨p, 0, none⟩ a').setCell ⟨p, 1, none⟩ b').setCell ⟨p, 2, none⟩ c') :=
  ⟨cell_other (cell_other (cell_same h.c0) (by omega)) (by omega), cell_other (cell_same (cell_other h.c1 (by omega))) (by omega), cell_same (cell_other (cell_other h.c2 (by omega)) (by omega)), fun k => by rw [World.frozen?_setCell, World.frozen?_setCell, World.frozen?_setCell]; exact h.fz k⟩
theorem stored_block (w : World) (p q : Nat) (a b c : Value) (h : q ≠ p) : (((w.setCell ⟨p, 0, none⟩ a).setCell ⟨p, 1, none⟩ b).setCell ⟨p, 2, none⟩ c).heap[q]? = w.heap[q]? :=
  (Below.heap_setCell _ _ _ _ h).trans ((Below.heap_setCell _ _ _ _ h).trans (Below.heap_setCell _ _ _ _ h))
theorem tab_stored {w : World} {v : Value} {xs : List Int} (h : Tab w v xs) (p : Nat) (a b c : Value) (hp : p < w.heap.size) (hv : ∀ g k cap, v = .slice (some ⟨g, 0, none⟩) k cap → g ≠ p) : Tab (((w.setCell ⟨p, 0, none⟩ a).setCell ⟨p, 1, none⟩ b).setCell ⟨p, 2, none⟩ c) v xs := by
  rcases h with h | ⟨g, cap, e, hg, hc⟩
  · exact Or.inl h
  · exact Or.inr ⟨g, cap, e, by rw [World.size_setCell, World.size_setCell, World.size_setCell]; exact hg, fun k hk => (World.cell?_of_block (w := w) (a := ⟨g, k, none⟩) (stored_block w p g a b c (hv g _ _ e))).trans (hc k hk)⟩
end Go.Proofs.YtpbcgojfpmpgpaaDoor
