/-
  What the last text of this claim leans on, part 17: Ob4.
-/
import Derived.Test.YtdhbdkkchobinaaJz16
import Derived.Deep.RegionHeld3
namespace Go.Proofs.Ytdhbdkkchobinaa
open Go.RowKit
set_option linter.unusedVariables false

def SMg (w : World) (S R : Nat) (ta : Option Addr) (tn tc : Nat) (w' : World) : Prop := w'.cell? ⟨w.heap.size, 0, none⟩ = some (.int .i64 2) ∧ w'.cell? ⟨w.heap.size, 1, none⟩ = some (.int .i64 0) ∧ w'.cell? ⟨w.heap.size, 2, none⟩ = some (.int .i64 0) ∧ w'.cell? ⟨w.heap.size, 3, none⟩ = some (.int .i64 (S : Int)) ∧ w'.cell? ⟨w.heap.size, 4, none⟩ = some (.int .i64 (R : Int)) ∧ w'.cell? ⟨w.heap.size, 5, none⟩ = some (.slice ta tn tc) ∧ w'.cell? ⟨w.heap.size, 6, none⟩ = some (.string ⟨#[]⟩)
theorem SMg.of {w w' : World} {S R : Nat} {ta : Option Addr} {tn tc : Nat} (h : RB w.heap.size S R (.slice ta tn tc) w') : SMg w S R ta tn tc w' := by
  obtain ⟨x0, x1, x2, x3, x4, x5, x6⟩ := h
  exact ⟨x0, x1, x2, x3, x4, x5, x6⟩

theorem SMg.stored {w w2 : World} {S R : Nat} {ta : Option Addr} {tn tc : Nat} (h : RB w.heap.size S R (.slice ta tn tc) w2) (a b c d : Value) :
    SMg w S R ta tn tc ((((w2.setCell ⟨w.heap.size + 1, 0, none⟩ a).setCell ⟨w.heap.size + 1, 1, none⟩ b).setCell ⟨w.heap.size + 1, 2, none⟩ c).setCell ⟨w.heap.size + 1, 3, none⟩ d) :=
  SMg.of (h.block (by rw [heap_setCell_other _ _ _ _ _ (by omega), heap_setCell_other _ _ _ _ _ (by omega), heap_setCell_other _ _ _ _ _ (by omega), heap_setCell_other _ _ _ _ _ (by omega)]))

theorem stored4 {w2 : World} {p : Nat} {z0 z1 z2 z3 : Value} (h0 : w2.cell? ⟨p, 0, none⟩ = some z0) (h1 : w2.cell? ⟨p, 1, none⟩ = some z1) (h2 : w2.cell? ⟨p, 2, none⟩ = some z2) (h3 : w2.cell? ⟨p, 3, none⟩ = some z3) (a b c d : Value) {W : World}
    (e : W = ((((w2.setCell ⟨p, 0, none⟩ a).setCell ⟨p, 1, none⟩ b).setCell ⟨p, 2, none⟩ c).setCell ⟨p, 3, none⟩ d)) :
    W.cell? ⟨p, 0, none⟩ = some a ∧ W.cell? ⟨p, 1, none⟩ = some b ∧ W.cell? ⟨p, 2, none⟩ = some c ∧ W.cell? ⟨p, 3, none⟩ = some d := by
  subst e
  have o : ∀ (W : World) (i j : Nat) (u : Value), i ≠ j → (W.setCell ⟨p, i, none⟩ u).cell? ⟨p, j, none⟩ = W.cell? ⟨p, j, none⟩ := fun W i j u h => World.cell?_setCell_other _ ⟨p, i, none⟩ ⟨p, j, none⟩ _ (fun q => h (congrArg Addr.off q))
  refine ⟨?_, ?_, ?_, ?_⟩
  · rw [o _ 3 0 _ (by decide), o _ 2 0 _ (by decide), o _ 1 0 _ (by decide)]; exact World.cell?_setCell_same _ _ _ h0
  · rw [o _ 3 1 _ (by decide), o _ 2 1 _ (by decide)]; exact World.cell?_setCell_same _ _ _ (by rw [o _ 0 1 _ (by decide)]; exact h1)
  · rw [o _ 3 2 _ (by decide)]; exact World.cell?_setCell_same _ _ _ (by rw [o _ 1 2 _ (by decide), o _ 0 2 _ (by decide)]; exact h2)
  · exact World.cell?_setCell_same _ _ _ (by rw [o _ 2 3 _ (by decide), o _ 1 3 _ (by decide), o _ 0 3 _ (by decide)]; exact h3)
theorem below4 {w w2 : World} {p : Nat} (h : Below w.heap.size w w2) (hp : w.heap.size ≤ p) (a b c d : Value) : Below w.heap.size w ((((w2.setCell ⟨p, 0, none⟩ a).setCell ⟨p, 1, none⟩ b).setCell ⟨p, 2, none⟩ c).setCell ⟨p, 3, none⟩ d) :=
  (((h.setCell (p := ⟨p, 0, none⟩) hp _).setCell (p := ⟨p, 1, none⟩) hp _).setCell (p := ⟨p, 2, none⟩) hp _).setCell (p := ⟨p, 3, none⟩) hp _

set_option maxRecDepth 100000 in
set_option maxHeartbeats 3200000 in
theorem graphOf_any (S R : Nat) (T : List Int) (ta : Option Addr) (tn tc n : Nat) (w : World) (hL : LineOk S R T) (hn : tn / S = n) (ht : tn ≤ 4096) :
    Calls Try.prog 35 #[.agg #[.int .i64 2, .int .i64 0, .int .i64 0, .int .i64 (S : Int), .int .i64 (R : Int), .slice ta tn tc, .string ⟨#[]⟩]] w fun e w' => e = .returned (.agg #[.int .i64 (S : Int), .int .i64 (2 * (R : Int)), .int .i64 (n : Int), .slice ta tn tc]) ∧ Below w.heap.size w w' := by
  obtain ⟨w1, hw1⟩ : ∃ w1, (w.alloc (.cells #[.int .i64 2, .int .i64 0, .int .i64 0, .int .i64 (S : Int), .int .i64 (R : Int), .slice ta tn tc, .string ⟨#[]⟩] 28)).alloc (.cells #[.int .i64 0, .int .i64 0, .int .i64 0, .slice none 0 0] 63) = w1 := ⟨_, rfl⟩
  have BB := hide' (show Below w.heap.size w w1 by rw [← hw1]; exact ((Below.refl _ _).alloc (Nat.le_refl _) _).alloc (by simp) _)
  have RX := hide' (show RB w.heap.size S R (.slice ta tn tc) w1.drew by rw [← hw1]; exact ((RB.new w S R _ _).alloc _).block rfl)
  have s1 : w1.heap.size = w.heap.size + 2 := by rw [← hw1]; simp
  have ZC0 := hide' (show w1.cell? ⟨w.heap.size + 1, 0, none⟩ = some (.int .i64 0) by rw [← hw1, World.cell?_alloc_at _ _ _ _ (by simp)]; rfl)
  have ZC1 := hide' (show w1.cell? ⟨w.heap.size + 1, 1, none⟩ = some (.int .i64 0) by rw [← hw1, World.cell?_alloc_at _ _ _ _ (by simp)]; rfl)
  have ZC2 := hide' (show w1.cell? ⟨w.heap.size + 1, 2, none⟩ = some (.int .i64 0) by rw [← hw1, World.cell?_alloc_at _ _ _ _ (by simp)]; rfl)
  have ZC3 := hide' (show w1.cell? ⟨w.heap.size + 1, 3, none⟩ = some (.slice none 0 0) by rw [← hw1, World.cell?_alloc_at _ _ _ _ (by simp)]; rfl)
  have ZF := hide' (show ∀ k, w1.frozen? ⟨w.heap.size + 1, k, none⟩ = false by
    intro k
    rw [← hw1]; simp)
  have HP := hide' (fun (wr : World) => placesOf_any S R ta tn tc n wr hL.s2 hL.s4 hn ht)
  have r10 := hL.r10
  have S0 := hide' (SMg.of RX.out)
  clear hL hn
  go_enter Try.func35, Try.ntmps35
  go_upto_region 1 with fail
  go_region_held3 (fun w' => w'.cell? ⟨w.heap.size, 0, none⟩ = some (.int .i64 2) ∧ w'.cell? ⟨w.heap.size, 1, none⟩ = some (.int .i64 0) ∧ w'.cell? ⟨w.heap.size, 2, none⟩ = some (.int .i64 0) ∧ w'.cell? ⟨w.heap.size, 3, none⟩ = some (.int .i64 (S : Int)) ∧ w'.cell? ⟨w.heap.size, 4, none⟩ = some (.int .i64 (R : Int)) ∧ w'.cell? ⟨w.heap.size, 5, none⟩ = some (.slice ta tn tc) ∧ w'.cell? ⟨w.heap.size, 6, none⟩ = some (.string ⟨#[]⟩)) (first | exact S0.out | exact S2.out | exact SMg.stored R2.out _ _ _ _)
    ((go_at_call 38; refine (HP.out _).mono ?_; rintro e w2 ⟨rfl, b2⟩; have B2 := hide' b2; have R2 := hide' (RX.out.next b2); have S2 := hide' (SMg.of R2.out); clear b2; have hb := B2.out.block (w.heap.size + 1) (show w.heap.size + 1 < w1.heap.size by omega); have z0 := (World.cell?_of_block (w := w1) (a := ⟨w.heap.size + 1, 0, none⟩) hb).trans ZC0.out; have z1 := (World.cell?_of_block (w := w1) (a := ⟨w.heap.size + 1, 1, none⟩) hb).trans ZC1.out; have z2 := (World.cell?_of_block (w := w1) (a := ⟨w.heap.size + 1, 2, none⟩) hb).trans ZC2.out; have z3 := (World.cell?_of_block (w := w1) (a := ⟨w.heap.size + 1, 3, none⟩) hb).trans ZC3.out; have f0 := (World.frozen?_of_block (w := w1) (a := ⟨w.heap.size + 1, 0, none⟩) hb).trans (ZF.out 0); have f1 := (World.frozen?_of_block (w := w1) (a := ⟨w.heap.size + 1, 1, none⟩) hb).trans (ZF.out 1); have f2 := (World.frozen?_of_block (w := w1) (a := ⟨w.heap.size + 1, 2, none⟩) hb).trans (ZF.out 2); have f3 := (World.frozen?_of_block (w := w1) (a := ⟨w.heap.size + 1, 3, none⟩) hb).trans (ZF.out 3); clear hb))
  have WR : IntKind.i64.wrap (2 * (R : Int)) = 2 * (R : Int) := by simp [IntKind.wrap, IntKind.bits, IntKind.signed]; omega
  have BF := hide' (below4 (p := w.heap.size + 1) (BB.out.drew.trans (B2.out.mono (by show w.heap.size ≤ w1.heap.size; omega))) (by omega) (.int .i64 (S : Int)) (.int .i64 (2 * (R : Int))) (.int .i64 (n : Int)) (.slice ta tn tc))
  obtain ⟨W, hW⟩ : ∃ W, W = ((((w2.setCell ⟨w.heap.size + 1, 0, none⟩ (.int .i64 (S : Int))).setCell ⟨w.heap.size + 1, 1, none⟩ (.int .i64 (2 * (R : Int)))).setCell ⟨w.heap.size + 1, 2, none⟩ (.int .i64 (n : Int))).setCell ⟨w.heap.size + 1, 3, none⟩ (.slice ta tn tc)) := ⟨_, rfl⟩
  obtain ⟨g0, g1, g2, g3⟩ := stored4 z0 z1 z2 z3 _ _ _ _ hW
  rw [← hW] at BF
  simp only [WR]
  rw [← hW]
  clear z0 z1 z2 z3
  go_wp2
  refine bodyPost_ret (v := .agg #[.int .i64 (S : Int), .int .i64 (2 * (R : Int)), .int .i64 (n : Int), .slice ta tn tc]) (by simp [results, Try.results35, go_sem, g0, g1, g2, g3]) rfl ?_
  exact ⟨rfl, BF.out⟩
end Go.Proofs.Ytdhbdkkchobinaa

