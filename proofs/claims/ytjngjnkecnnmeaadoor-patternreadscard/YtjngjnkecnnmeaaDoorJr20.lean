/-
  What the last text of this claim leans on, part 20: LawR, LawS.
-/
import Derived.Test.YtjngjnkecnnmeaaDoorJr18
import Derived.Test.YtjngjnkecnnmeaaDoorJr19
namespace Go.Proofs.YtjngjnkecnnmeaaDoor
open Go.RowKit
set_option linter.unusedVariables false

/-- What the program says of a text, and what the document says, are the same. -/
def Pair (Fr : World → Value → Prop) (f g : Nat) (s : ByteArray) : Prop :=
  ∃ (W H a k : Int) (errv : Value) (xs : List Int),
    (∀ w, Calls Tryd.prog f #[.string s] w fun e w' => ∃ va, e = .returned (.tuple #[.agg #[.int .i64 W, .int .i64 H, va], .int .i64 a, errv]) ∧ Tab w' va xs ∧ Below w.heap.size w w' ∧ xs.length ≤ maxLen ∧ Fr w va) ∧
    (∀ w, Calls Tryd.prog g #[.string s] w fun e w' => ∃ vb, e = .returned (.tuple #[.agg #[.int .i64 W, .int .i64 H, vb], .int .i64 a, .int .i64 k]) ∧ Tab w' vb xs ∧ Below w.heap.size w w' ∧ Fr w vb) ∧
    (∀ w, Handle w → Calls Tryd.prog 15 #[errv, .int .i64 k] w fun e w' => e = .returned (.bool true) ∧ Below w.heap.size w w')

theorem pair_runs (s : ByteArray) (hs : s.size ≤ maxLen) : Pair (fun _ _ => True) 39 40 s := by
  cases hx : runsS s with
  | inl x =>
    obtain ⟨W, H, xs⟩ := x
    refine ⟨W, H, 0, 0, .nilIface, xs, fun w => (pParseRuns_any s w hs).mono ?_, fun w => (refParseRuns_any s w hs).mono ?_, fun w _ => err_nil_true w⟩
    · rintro e w' ⟨hb, (⟨W', H', xs', g, h1, h2, h3, h4, h5, h6⟩ | ⟨a, f, h1, -⟩)⟩
      · rw [hx] at h1
        cases h1
        exact ⟨_, h2, h3.tab h4, hb, by have := Nat.mul_le_mul h5 h6; unfold maxLen; omega, trivial⟩
      · rw [hx] at h1; cases h1
    · rintro e w' ⟨hb, (⟨W', H', xs', g, h1, h2, h3, h4, -, -⟩ | ⟨a, f, h1, -, -⟩)⟩
      · rw [hx] at h1
        cases h1
        exact ⟨_, h2, h3.tab h4, hb, trivial⟩
      · rw [hx] at h1; cases h1
  | inr x =>
    obtain ⟨a, f⟩ := x
    refine ⟨0, 0, (a : Int), (f : Int), .iface 87 (.int .i64 (f : Int)), [], fun w => (pParseRuns_any s w hs).mono ?_, fun w => (refParseRuns_any s w hs).mono ?_, fun w hg => err_some_true _ w hg⟩
    · rintro e w' ⟨hb, (⟨W', H', xs', g, h1, -⟩ | ⟨a', f', h1, h2⟩)⟩
      · rw [hx] at h1; cases h1
      · rw [hx] at h1
        cases h1
        exact ⟨_, h2, tab_nil _, hb, by unfold maxLen; simp, trivial⟩
    · rintro e w' ⟨hb, (⟨W', H', xs', g, h1, -⟩ | ⟨a', f', h1, -, h2⟩)⟩
      · rw [hx] at h1; cases h1
      · rw [hx] at h1
        cases h1
        exact ⟨_, h2, tab_nil _, hb, trivial⟩

theorem pair_draw (s : ByteArray) (hs : s.size ≤ maxLen) : Pair Fresh 41 42 s := by
  cases hx : drawS s with
  | inl x =>
    obtain ⟨W, H, xs⟩ := x
    refine ⟨W, H, 0, 0, .nilIface, xs, fun w => (pParseDraw_any s w hs).mono ?_, fun w => (refParseDraw_any s w hs).mono ?_, fun w _ => err_nil_true w⟩
    · rintro e w' ⟨hb, (⟨W', H', xs', v, h1, h2, h3, h4, h5⟩ | ⟨a, f, h1, -⟩)⟩
      · rw [hx] at h1
        cases h1
        exact ⟨_, h2, h3, hb, by unfold maxLen; omega, h5⟩
      · rw [hx] at h1; cases h1
    · rintro e w' ⟨hb, (⟨W', H', xs', v, h1, h2, h3, h4, h5⟩ | ⟨a, f, h1, -, -⟩)⟩
      · rw [hx] at h1
        cases h1
        exact ⟨_, h2, h3, hb, h5⟩
      · rw [hx] at h1; cases h1
  | inr x =>
    obtain ⟨a, f⟩ := x
    refine ⟨0, 0, (a : Int), (f : Int), .iface 87 (.int .i64 (f : Int)), [], fun w => (pParseDraw_any s w hs).mono ?_, fun w => (refParseDraw_any s w hs).mono ?_, fun w hg => err_some_true _ w hg⟩
    · rintro e w' ⟨hb, (⟨W', H', xs', v, h1, -⟩ | ⟨a', f', h1, h2⟩)⟩
      · rw [hx] at h1; cases h1
      · rw [hx] at h1
        cases h1
        exact ⟨_, h2, tab_nil _, hb, by unfold maxLen; simp, Fresh.nil _⟩
    · rintro e w' ⟨hb, (⟨W', H', xs', v, h1, -⟩ | ⟨a', f', h1, -, h2⟩)⟩
      · rw [hx] at h1; cases h1
      · rw [hx] at h1
        cases h1
        exact ⟨_, h2, tab_nil _, hb, Fresh.nil _⟩

/-- A pattern that lies in a block of its own. -/
structure PB (p : Nat) (a b c : Value) (w : World) : Prop where
  c0 : w.cell? ⟨p, 0, none⟩ = some a
  c1 : w.cell? ⟨p, 1, none⟩ = some b
  c2 : w.cell? ⟨p, 2, none⟩ = some c
  fz : ∀ k, w.frozen? ⟨p, k, none⟩ = false
theorem PB.lt {p : Nat} {a b c : Value} {w : World} (h : PB p a b c w) : p < w.heap.size := by
  rcases Nat.lt_or_ge p w.heap.size with k | k
  · exact k
  · have := h.c0; simp [World.cell?, Array.getElem?_eq_none k] at this
theorem PB.block {p : Nat} {a b c : Value} {w w' : World} (h : PB p a b c w) (e : w'.heap[p]? = w.heap[p]?) : PB p a b c w' :=
  ⟨(World.cell?_of_block (w := w) (a := ⟨p, 0, none⟩) e).trans h.c0, (World.cell?_of_block (w := w) (a := ⟨p, 1, none⟩) e).trans h.c1, (World.cell?_of_block (w := w) (a := ⟨p, 2, none⟩) e).trans h.c2, fun k => (World.frozen?_of_block (w := w) (a := ⟨p, k, none⟩) e).trans (h.fz k)⟩
theorem PB.next {p : Nat} {a b c : Value} {w w' : World} (h : PB p a b c w) (hb : Below w.heap.size w w') : PB p a b c w' := h.block (hb.block p h.lt)
theorem PB.new (w : World) (a b c : Value) (t : TypeId) : PB w.heap.size a b c (w.alloc (.cells #[a, b, c] t)) :=
  ⟨cell_new_at _ _ _ _, cell_new_at _ _ _ _, cell_new_at _ _ _ _, fun k => by simp⟩
theorem PB.store {p : Nat} {a b c : Value} {w : World} (h : PB p a b c w) (a' b' c' : Value) : PB p a' b' c' (((w.setCell ⟨p, 0, none⟩ a').setCell ⟨p, 1, none⟩ b').setCell ⟨p, 2, none⟩ c') :=
  ⟨cell_other (cell_other (cell_same h.c0) (by omega)) (by omega), cell_other (cell_same (cell_other h.c1 (by omega))) (by omega), cell_same (cell_other (cell_other h.c2 (by omega)) (by omega)), fun k => by rw [World.frozen?_setCell, World.frozen?_setCell, World.frozen?_setCell]; exact h.fz k⟩
end Go.Proofs.YtjngjnkecnnmeaaDoor

namespace Go.Proofs.YtjngjnkecnnmeaaDoor
open Go.RowKit
set_option linter.unusedVariables false

set_option maxRecDepth 100000 in
set_option maxHeartbeats 6400000 in
theorem law_reads (s : ByteArray) (w : World) (hs : s.size ≤ maxLen) (hg : Handle w) :
    Calls Tryd.prog 7 #[.string s] w fun e w' => e = .returned (.bool true) ∧ Below w.heap.size w w' := by
  obtain ⟨W, H, a, k, errv, xs, p1, g1, e1⟩ := pair_runs s hs
  obtain ⟨W', H', a', k', errv', xs', p2, g2, e2⟩ := pair_draw s hs
  have P1 := hide' p1
  have G1 := hide' g1
  have E1 := hide' e1
  have P2 := hide' p2
  have G2 := hide' g2
  have E2 := hide' e2
  have HG := hide' hg
  have n0 : (a != a) = false := by simp
  have n1 : (a' == a') = true := by simp
  clear p1 g1 e1 p2 g2 e2 hg
  go_enter Tryd.func7, Tryd.ntmps7
  go_wp2_with fail
  refine (P1.out _).mono ?_
  rintro e w1 ⟨va, rfl, ta, b1, hl, -⟩
  obtain ⟨a1, m1, c1, rfl⟩ := ta.slice
  have T1 := hide' ta
  have B1 := hide' b1
  have Q1 := hide' (PB.new w1 (.int .i64 W) (.int .i64 H) (.slice a1 m1 c1) 51)
  have z1 := b1.size
  clear ta b1
  go_wp2_with fail
  refine (G1.out _).mono ?_
  rintro e w2 ⟨vb, rfl, tb, b2, -⟩
  obtain ⟨a2, m2, c2, rfl⟩ := tb.slice
  have z2 := b2.size
  rw [World.size_alloc] at z2
  have Q2 := hide' ((Q1.out.next b2).block (w' := w2.alloc (.cells #[.int .i64 W, .int .i64 H, .slice a2 m2 c2] 51)) (Below.heap_alloc _ _ _ (by omega)))
  have R2 := hide' (PB.new w2 (.int .i64 W) (.int .i64 H) (.slice a2 m2 c2) 51)
  have TA := hide' (show Tab (w2.alloc (.cells #[.int .i64 W, .int .i64 H, .slice a2 m2 c2] 51)) (.slice a1 m1 c1) xs from (tab_below (T1.out.alloc' _) b2).alloc' _)
  have TB := hide' (show Tab (w2.alloc (.cells #[.int .i64 W, .int .i64 H, .slice a2 m2 c2] 51)) (.slice a2 m2 c2) xs from tb.alloc' _)
  have B2 := hide' (show Below w.heap.size w (w2.alloc (.cells #[.int .i64 W, .int .i64 H, .slice a2 m2 c2] 51)) from ((B1.out.alloc z1 _).trans (b2.mono (by rw [World.size_alloc]; omega))).alloc (by omega) _)
  clear tb b2 Q1 T1 B1
  go_wp2_with fail
  refine (E1.out _ (HG.out.below B2.out)).mono ?_
  rintro e w3 ⟨rfl, b3⟩
  have z3 := b3.size
  rw [World.size_alloc] at z3
  have Q3 := hide' (Q2.out.next b3)
  have R3 := hide' (R2.out.next b3)
  have TA3 := hide' (tab_below TA.out b3)
  have TB3 := hide' (tab_below TB.out b3)
  have B3 := hide' (B2.out.trans (b3.mono (by rw [World.size_alloc]; omega)))
  obtain ⟨x0, x1, x2, -⟩ := Q3.out
  obtain ⟨y0, y1, y2, -⟩ := R3.out
  clear b3 Q2 R2 TA TB B2
  go_wp2_with fail
  refine (Alike_same W H _ _ xs _ TA3.out TB3.out hl).mono ?_
  rintro e w4 ⟨rfl, b4⟩
  have z4 := b4.size
  have Q4 := hide' (Q3.out.next b4)
  have R4 := hide' (R3.out.next b4)
  have B4 := hide' (B3.out.trans (b4.mono (by omega)))
  clear b4 Q3 R3 TA3 TB3 B3 x0 x1 x2 y0 y1 y2
  go_wp2_with fail
  refine (P2.out _).mono ?_
  rintro e w5 ⟨va', rfl, ta, b5, hl', fa⟩
  obtain ⟨a5, m5, c5, rfl⟩ := ta.slice
  have z5 := b5.size
  have Q5 := hide' (Q4.out.next b5)
  have R5 := hide' (R4.out.next b5)
  have TA5 := hide' (tab_stored ta w1.heap.size (.int .i64 W') (.int .i64 H') (.slice a5 m5 c5) (by omega) (fun g k c e => by have := fa g k c e; omega))
  have S5 := hide' (Q5.out.store (.int .i64 W') (.int .i64 H') (.slice a5 m5 c5))
  have U5 := hide' (R5.out.block (stored_block w5 w1.heap.size w2.heap.size (.int .i64 W') (.int .i64 H') (.slice a5 m5 c5) (by omega)))
  have B5 := hide' (below_stored (B4.out.trans (b5.mono (by omega))) w1.heap.size (by omega) (.int .i64 W') (.int .i64 H') (.slice a5 m5 c5))
  have FA := hide' fa
  obtain ⟨x0, x1, x2, xf⟩ := Q5.out
  have f0 := xf 0
  have f1 := xf 1
  have f2 := xf 2
  clear ta b5 fa Q4 R4 B4 xf
  go_wp2_with fail
  refine (G2.out _).mono ?_
  rintro e w6 ⟨vb', rfl, tb, b6, fb⟩
  obtain ⟨a6, m6, c6, rfl⟩ := tb.slice
  have z6 := b6.size
  rw [stored_size] at z6
  have Q6 := hide' (S5.out.next b6)
  have R6 := hide' (U5.out.next b6)
  have TA6 := hide' (tab_stored (tab_below TA5.out b6) w2.heap.size (.int .i64 W') (.int .i64 H') (.slice a6 m6 c6) (by omega) (fun g k c e => by have := FA.out g k c e; omega))
  have TB6 := hide' (tab_stored tb w2.heap.size (.int .i64 W') (.int .i64 H') (.slice a6 m6 c6) (by omega) (fun g k c e => by have := fb g k c e; rw [stored_size] at this; omega))
  have S6 := hide' (R6.out.store (.int .i64 W') (.int .i64 H') (.slice a6 m6 c6))
  have U6 := hide' (Q6.out.block (stored_block w6 w2.heap.size w1.heap.size (.int .i64 W') (.int .i64 H') (.slice a6 m6 c6) (by omega)))
  have B6 := hide' (below_stored (B5.out.trans (b6.mono (by rw [stored_size]; omega))) w2.heap.size (by omega) (.int .i64 W') (.int .i64 H') (.slice a6 m6 c6))
  clear x0 x1 x2 f0 f1 f2
  obtain ⟨y0, y1, y2, yf⟩ := R6.out
  have f0 := yf 0
  have f1 := yf 1
  have f2 := yf 2
  clear tb b6 fb Q5 R5 S5 U5 TA5 B5 yf
  go_wp2_with fail
  refine (E2.out _ (HG.out.below B6.out)).mono ?_
  rintro e w7 ⟨rfl, b7⟩
  have z7 := b7.size
  rw [stored_size] at z7
  have TA7 := hide' (tab_below TA6.out b7)
  have TB7 := hide' (tab_below TB6.out b7)
  have B7 := hide' (B6.out.trans (b7.mono (by rw [stored_size]; omega)))
  clear y0 y1 y2 f0 f1 f2
  obtain ⟨x0, x1, x2, -⟩ := U6.out.next b7
  obtain ⟨y0, y1, y2, -⟩ := S6.out.next b7
  clear b7 S6 U6 TA6 TB6 B6 Q6 R6
  go_wp2_with fail
  refine (Alike_same W' H' _ _ xs' _ TA7.out TB7.out hl').mono ?_
  rintro e w8 ⟨rfl, b8⟩
  have B8 := hide' (B7.out.trans (b8.mono (by omega)))
  clear b8 B7
  go_wp2
  go_ret
  exact ⟨rfl, B8.out⟩
end Go.Proofs.YtjngjnkecnnmeaaDoor

