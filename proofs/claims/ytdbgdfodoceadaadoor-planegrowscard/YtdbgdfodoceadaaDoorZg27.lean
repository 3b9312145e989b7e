/-
  What the last text of this claim leans on, part 27: Gt8.
-/
import Derived.Test.YtdbgdfodoceadaaDoorZg26
namespace Go.Proofs.YtdbgdfodoceadaaDoor
open Go.RowKit
set_option linter.unusedVariables false
def GrowBad (f : Nat) (w : World) (e : Ending) (w' : World) : Prop := e = .returned (.tuple #[.agg #[.int .i64 0, .int .i64 0, .slice none 0 0], .int .i64 0, .int .i64 0, errOf f]) ∧ Below w.heap.size w w'
def GrowPost (born stay : Nat) (s0 : Gst) (m : Nat) (w : World) (e : Ending) (w' : World) : Prop :=
  (growG born stay s0 m = none ∧ GrowBad 4 w e w') ∨
  (∃ u q, growG born stay s0 m = some u ∧ e = .returned (.tuple #[.agg #[.int .i64 (u.P.W : Int), .int .i64 (u.P.H : Int), .slice (some ⟨q, 0, none⟩) u.P.xs.length u.P.xs.length], .int .i64 u.r, .int .i64 u.d, .nilIface]) ∧ Tab w' (.slice (some ⟨q, 0, none⟩) u.P.xs.length u.P.xs.length) u.P.xs ∧ Below w.heap.size w w')
theorem shape_sides {W H : Int} {xs : List Int} (h : shapeF W H xs = 0) : ∃ Wn Hn : Nat, W = (Wn : Int) ∧ H = (Hn : Int) ∧ Wn ≤ 100 ∧ Hn ≤ 100 ∧ xs.length = Wn * Hn ∧ ∀ k, 0 ≤ xs.getD k 0 ∧ xs.getD k 0 ≤ 1 := by
  unfold shapeF at h
  split at h
  · rename_i hs
    split at h
    · rename_i hl
      split at h
      · rename_i ha
        simp only [Bool.and_eq_true] at hs
        unfold sideB at hs
        simp at hs
        refine ⟨W.toNat, H.toNat, by omega, by omega, by omega, by omega, ?_, fun k => ?_⟩
        · have e : ((W.toNat * H.toNat : Nat) : Int) = W * H := by rw [Int.natCast_mul, Int.toNat_of_nonneg (by omega), Int.toNat_of_nonneg (by omega)]
          omega
        · by_cases q : k < xs.length
          · have := List.all_eq_true.1 ha xs[k] (List.getElem_mem q)
            have e : xs.getD k 0 = xs[k] := by simp [List.getD, q]
            rw [e]
            unfold cellB at this
            simp at this
            omega
          · have e : xs.getD k 0 = 0 := by simp [List.getD, q]
            rw [e]; omega
      · omega
    · omega
  · omega
set_option maxRecDepth 100000 in
set_option maxHeartbeats 12800000 in
theorem grow_bad (o : Out) (ta : Option Addr) (tn tc : Nat) (W H : Int) (xs : List Int) (a : Option Addr) (n c : Nat) (N : Int) (f : Nat) (w : World) (hR : ArgR w o ta tn tc) (hP : ArgP w xs a n c) (hf : ∀ g, grE o W H xs g → (g ≠ 0 ∧ f = g) ∨ (g = 0 ∧ f = 1 ∧ (N < 0 ∨ 100000 < N))) :
    Calls Tryd.prog 16 #[.agg #[.int .i64 o.kind, .int .i64 o.born, .int .i64 o.stay, .int .i64 o.states, .int .i64 o.radius, .slice ta tn tc, .string o.turns], .agg #[.int .i64 W, .int .i64 H, .slice a n c], .int .i64 N] w (GrowBad f w) := by
  obtain ⟨w1, hw1⟩ : ∃ w1, ((w.alloc (.cells #[.int .i64 o.kind, .int .i64 o.born, .int .i64 o.stay, .int .i64 o.states, .int .i64 o.radius, .slice ta tn tc, .string o.turns] 24)).alloc (.cells #[.int .i64 W, .int .i64 H, .slice a n c] 26)).alloc (.cells #[.int .i64 0, .int .i64 0, .slice none 0 0] 26) = w1 := ⟨_, rfl⟩
  have BB := hide' (show Below w.heap.size w w1 by rw [← hw1]; repeat (first | exact Below.refl _ _ | refine Below.alloc ?_ (by simp; try omega) _))
  have g0 : w1.heap[w.heap.size]? = some (.cells #[.int .i64 o.kind, .int .i64 o.born, .int .i64 o.stay, .int .i64 o.states, .int .i64 o.radius, .slice ta tn tc, .string o.turns] 24 (0, 0)) := by rw [← hw1, Below.heap_alloc _ _ _ (by simp; try omega), Below.heap_alloc _ _ _ (by simp; try omega)]; exact heap_atX _ _ _ (by simp)
  have g1 : w1.heap[w.heap.size + 1]? = some (.cells #[.int .i64 W, .int .i64 H, .slice a n c] 26 (0, 0)) := by rw [← hw1, Below.heap_alloc _ _ _ (by simp; try omega)]; exact heap_atX _ _ _ (by simp)
  have g2 : w1.heap[w.heap.size + 1 + 1]? = some (.cells #[.int .i64 0, .int .i64 0, .slice none 0 0] 26 (0, 0)) := by rw [← hw1]; exact heap_atX _ _ _ (by simp)
  have x0 := cell_of_row w1 _ 0 _ _ _ g0
  have x1 := cell_of_row w1 _ 1 _ _ _ g0
  have x2 := cell_of_row w1 _ 2 _ _ _ g0
  have x3 := cell_of_row w1 _ 3 _ _ _ g0
  have x4 := cell_of_row w1 _ 4 _ _ _ g0
  have x5 := cell_of_row w1 _ 5 _ _ _ g0
  have x6 := cell_of_row w1 _ 6 _ _ _ g0
  simp at x0 x1 x2 x3 x4 x5 x6
  have y0 := cell_of_row w1 _ 0 _ _ _ g1
  have y1 := cell_of_row w1 _ 1 _ _ _ g1
  have y2 := cell_of_row w1 _ 2 _ _ _ g1
  simp at y0 y1 y2
  have CC := hide' (checkGrowth_any o ta tn tc W H xs a n c w1 (hR.below BB.out) (hP.below BB.out))
  have G2 := hide' g2
  have HF := hide' hf
  clear hR hP g0 g1 g2 hf
  go_enter Tryd.func16, Tryd.ntmps16
  go_wp2_with fail
  refine CC.out.mono ?_
  rintro e w2 ⟨⟨g, hg, rfl⟩, b2⟩
  have e2 := (b2.block _ (lt_of_block G2.out)).trans G2.out
  have r0 := cell_of_row w2 _ 0 _ _ _ e2
  have r1 := cell_of_row w2 _ 1 _ _ _ e2
  have r2 := cell_of_row w2 _ 2 _ _ _ e2
  simp at r0 r1 r2
  have f0 := frozen_of_row w2 _ 0 _ _ e2
  have f1 := frozen_of_row w2 _ 1 _ _ e2
  have f2 := frozen_of_row w2 _ 2 _ _ e2
  have BQ := hide' (BB.out.trans (b2.mono BB.out.size))
  have HC := HF.out g hg
  clear hg b2 hw1 e2 x0 x1 x2 x3 x4 x5 x6 y0 y1 y2
  rcases HC with ⟨g0, rfl⟩ | ⟨rfl, rfl, hN⟩
  · rw [show errOf f = .iface 77 (.int .i64 (f : Int)) from if_neg g0]
    have EF := hide' (show errOf f = .iface 77 (.int .i64 (f : Int)) from if_neg g0)
    clear g0
    go_wp2
    refine bodyPost_ret (v := .tuple #[.agg #[.int .i64 0, .int .i64 0, .slice none 0 0], .int .i64 0, .int .i64 0, .iface 77 (.int .i64 (f : Int))]) (by simp [results, Tryd.results16, go_sem, r0, r1, r2]) rfl ?_
    exact ⟨by rw [EF.out], ((BQ.out.setCell (by simp; omega) _).setCell (by simp; omega) _).setCell (by simp; omega) _⟩
  · rw [show errOf 0 = .nilIface from rfl]
    have tst : decide (N < 0) = true ∨ (decide (N < 0) = false ∧ 100000 < N) := by
      by_cases t : N < 0
      · left; simp [t]
      · right; exact ⟨by simp; omega, by omega⟩
    clear hN
    rcases tst with t1 | ⟨t1, t2⟩
    all_goals (
      go_wp2
      refine bodyPost_ret (v := .tuple #[.agg #[.int .i64 0, .int .i64 0, .slice none 0 0], .int .i64 0, .int .i64 0, .iface 77 (.int .i64 1)]) (by simp [results, Tryd.results16, go_sem, r0, r1, r2]) rfl ?_
      exact ⟨rfl, ((BQ.out.setCell (by simp; omega) _).setCell (by simp; omega) _).setCell (by simp; omega) _⟩)
end Go.Proofs.YtdbgdfodoceadaaDoor

