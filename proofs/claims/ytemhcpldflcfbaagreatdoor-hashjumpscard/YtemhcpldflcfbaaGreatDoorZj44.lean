/-
  What the last text of this claim leans on, part 44: Hs6.
-/
import Derived.Test.YtemhcpldflcfbaaGreatDoorZj40
import Derived.Test.YtemhcpldflcfbaaGreatDoorZj43
namespace Go.Proofs.YtemhcpldflcfbaaGreatDoor
open Go.RowKit
set_option linter.unusedVariables false
set_option maxRecDepth 100000 in
set_option maxHeartbeats 3200000 in
theorem cells_no (spb : Nat) (x y W H : Int) (w : World) (hbad : ¬ ((0 ≤ W ∧ W ≤ 100) ∧ (0 ≤ H ∧ H ≤ 100) ∧ ¬ (x < -1000000000000 ∨ 1000000000000 < x) ∧ ¬ (y < -1000000000000 ∨ 1000000000000 < y))) :
  Calls Tryz.prog 14 #[.pointer (some ⟨spb, 0, none⟩), .int .i64 x, .int .i64 y, .int .i64 W, .int .i64 H] w fun e w' => (∃ v, e = .returned (.tuple #[v, .iface 56 (.int .i64 1)])) ∧ Below w.heap.size w w' := by
 obtain ⟨w1, hw1⟩ : ∃ w1, w.alloc (.cells #[.int .i64 0, .int .i64 0, .slice none 0 0] 26) = w1 := ⟨_, rfl⟩
 have HW1 := hide' hw1
 have B1 := hide' (show Below w.heap.size w w1 by rw [← hw1]; exact (Below.refl _ _).alloc (Nat.le_refl _) _)
 have R1 := hide' (show w1.heap[w.heap.size]? = some (.cells #[.int .i64 0, .int .i64 0, .slice none 0 0] 26 (0, 0)) by rw [← hw1]; exact heap_alloc_new _ _)
 have SI1 := hide' (isSide_any W)
 have SI2 := hide' (isSide_any H)
 have FA1 := hide' (isFar_any x)
 have FA2 := hide' (isFar_any y)
 obtain ⟨d1, h1⟩ : ∃ d, decide (0 ≤ W ∧ W ≤ 100) = d := ⟨_, rfl⟩
 obtain ⟨d2, h2⟩ : ∃ d, decide (0 ≤ H ∧ H ≤ 100) = d := ⟨_, rfl⟩
 obtain ⟨d3, h3⟩ : ∃ d, decide (x < -1000000000000 ∨ 1000000000000 < x) = d := ⟨_, rfl⟩
 obtain ⟨d4, h4⟩ : ∃ d, decide (y < -1000000000000 ∨ 1000000000000 < y) = d := ⟨_, rfl⟩
 have key : d1 = false ∨ (d1 = true ∧ d2 = false) ∨ (d1 = true ∧ d2 = true ∧ d3 = true) ∨ (d1 = true ∧ d2 = true ∧ d3 = false ∧ d4 = true) := by
  cases d1
  ·exact Or.inl rfl
  ·cases d2
   ·exact Or.inr (Or.inl ⟨rfl, rfl⟩)
   ·cases d3
    ·cases d4
     ·exact absurd ⟨of_decide_eq_true h1, of_decide_eq_true h2, of_decide_eq_false h3, of_decide_eq_false h4⟩ hbad
     ·exact Or.inr (Or.inr (Or.inr ⟨rfl, rfl, rfl, rfl⟩))
    ·exact Or.inr (Or.inr (Or.inl ⟨rfl, rfl, rfl⟩))
 rw [h1] at SI1
 rw [h2] at SI2
 rw [h3] at FA1
 rw [h4] at FA2
 clear h1 h2 h3 h4 hbad hw1
 have c0 := frozen_of_row w1 _ 0 _ _ R1.out
 have c1 := frozen_of_row w1 _ 1 _ _ R1.out
 have c2 := frozen_of_row w1 _ 2 _ _ R1.out
 have r0 := cell_of_row w1 _ 0 _ _ _ R1.out
 have r1 := cell_of_row w1 _ 1 _ _ _ R1.out
 have r2 := cell_of_row w1 _ 2 _ _ _ R1.out
 simp at r0 r1 r2
 rcases key with rfl | ⟨rfl, rfl⟩ | ⟨rfl, rfl, rfl⟩ | ⟨rfl, rfl, rfl, rfl⟩
 ·go_enter Tryz.func14, Tryz.ntmps14
  go_upto_region 1 with fail
  rw [HW1.out]
  go_wp2_with fail
  refine (SI1.out _).mono ?_
  rintro e w2 ⟨rfl, rfl⟩
  go_wp2
  obtain ⟨X, hX⟩ : ∃ X, ((w2.setCell ⟨w.heap.size, 0, none⟩ (.int .i64 0)).setCell ⟨w.heap.size, 1, none⟩ (.int .i64 0)).setCell ⟨w.heap.size, 2, none⟩ (.slice none 0 0) = X := ⟨_, rfl⟩
  have GX := three_row R1.out (.int .i64 0) (.int .i64 0) (.slice none 0 0)
  rw [hX] at GX ⊢
  have BX : Below w.heap.size w X := by
   rw [← hX]
   exact ((B1.out.setCell (by simp) _).setCell (by simp) _).setCell (by simp) _
  have m0 := cell_of_row X _ 0 _ _ _ GX
  have m1 := cell_of_row X _ 1 _ _ _ GX
  have m2 := cell_of_row X _ 2 _ _ _ GX
  simp at m0 m1 m2
  refine bodyPost_ret (v := .tuple #[.agg #[.int .i64 0, .int .i64 0, .slice none 0 0], .iface 56 (.int .i64 1)]) (by simp [results, Tryz.results14, go_sem, m0, m1, m2]) rfl ?_
  exact ⟨⟨_, rfl⟩, BX⟩
 ·go_enter Tryz.func14, Tryz.ntmps14
  go_upto_region 1 with fail
  rw [HW1.out]
  go_wp2_with fail
  refine (SI1.out _).mono ?_
  rintro e w2 ⟨rfl, rfl⟩
  go_wp2_with fail
  refine (SI2.out _).mono ?_
  rintro e w3 ⟨rfl, rfl⟩
  go_wp2
  obtain ⟨X, hX⟩ : ∃ X, ((w3.setCell ⟨w.heap.size, 0, none⟩ (.int .i64 0)).setCell ⟨w.heap.size, 1, none⟩ (.int .i64 0)).setCell ⟨w.heap.size, 2, none⟩ (.slice none 0 0) = X := ⟨_, rfl⟩
  have GX := three_row R1.out (.int .i64 0) (.int .i64 0) (.slice none 0 0)
  rw [hX] at GX ⊢
  have BX : Below w.heap.size w X := by
   rw [← hX]
   exact ((B1.out.setCell (by simp) _).setCell (by simp) _).setCell (by simp) _
  have m0 := cell_of_row X _ 0 _ _ _ GX
  have m1 := cell_of_row X _ 1 _ _ _ GX
  have m2 := cell_of_row X _ 2 _ _ _ GX
  simp at m0 m1 m2
  refine bodyPost_ret (v := .tuple #[.agg #[.int .i64 0, .int .i64 0, .slice none 0 0], .iface 56 (.int .i64 1)]) (by simp [results, Tryz.results14, go_sem, m0, m1, m2]) rfl ?_
  exact ⟨⟨_, rfl⟩, BX⟩
 ·go_enter Tryz.func14, Tryz.ntmps14
  go_upto_region 1 with fail
  rw [HW1.out]
  go_wp2_with fail
  refine (SI1.out _).mono ?_
  rintro e w2 ⟨rfl, rfl⟩
  go_wp2_with fail
  refine (SI2.out _).mono ?_
  rintro e w3 ⟨rfl, rfl⟩
  go_wp2_with fail
  refine (FA1.out _).mono ?_
  rintro e w4 ⟨rfl, rfl⟩
  go_wp2
  obtain ⟨X, hX⟩ : ∃ X, ((w4.setCell ⟨w.heap.size, 0, none⟩ (.int .i64 0)).setCell ⟨w.heap.size, 1, none⟩ (.int .i64 0)).setCell ⟨w.heap.size, 2, none⟩ (.slice none 0 0) = X := ⟨_, rfl⟩
  have GX := three_row R1.out (.int .i64 0) (.int .i64 0) (.slice none 0 0)
  rw [hX] at GX ⊢
  have BX : Below w.heap.size w X := by
   rw [← hX]
   exact ((B1.out.setCell (by simp) _).setCell (by simp) _).setCell (by simp) _
  have m0 := cell_of_row X _ 0 _ _ _ GX
  have m1 := cell_of_row X _ 1 _ _ _ GX
  have m2 := cell_of_row X _ 2 _ _ _ GX
  simp at m0 m1 m2
  refine bodyPost_ret (v := .tuple #[.agg #[.int .i64 0, .int .i64 0, .slice none 0 0], .iface 56 (.int .i64 1)]) (by simp [results, Tryz.results14, go_sem, m0, m1, m2]) rfl ?_
  exact ⟨⟨_, rfl⟩, BX⟩
 ·go_enter Tryz.func14, Tryz.ntmps14
  go_upto_region 1 with fail
  rw [HW1.out]
  go_wp2_with fail
  refine (SI1.out _).mono ?_
  rintro e w2 ⟨rfl, rfl⟩
  go_wp2_with fail
  refine (SI2.out _).mono ?_
  rintro e w3 ⟨rfl, rfl⟩
  go_wp2_with fail
  refine (FA1.out _).mono ?_
  rintro e w4 ⟨rfl, rfl⟩
  go_wp2_with fail
  refine (FA2.out _).mono ?_
  rintro e w5 ⟨rfl, rfl⟩
  go_wp2
  obtain ⟨X, hX⟩ : ∃ X, ((w5.setCell ⟨w.heap.size, 0, none⟩ (.int .i64 0)).setCell ⟨w.heap.size, 1, none⟩ (.int .i64 0)).setCell ⟨w.heap.size, 2, none⟩ (.slice none 0 0) = X := ⟨_, rfl⟩
  have GX := three_row R1.out (.int .i64 0) (.int .i64 0) (.slice none 0 0)
  rw [hX] at GX ⊢
  have BX : Below w.heap.size w X := by
   rw [← hX]
   exact ((B1.out.setCell (by simp) _).setCell (by simp) _).setCell (by simp) _
  have m0 := cell_of_row X _ 0 _ _ _ GX
  have m1 := cell_of_row X _ 1 _ _ _ GX
  have m2 := cell_of_row X _ 2 _ _ _ GX
  simp at m0 m1 m2
  refine bodyPost_ret (v := .tuple #[.agg #[.int .i64 0, .int .i64 0, .slice none 0 0], .iface 56 (.int .i64 1)]) (by simp [results, Tryz.results14, go_sem, m0, m1, m2]) rfl ?_
  exact ⟨⟨_, rfl⟩, BX⟩
theorem win_tab {V : World} {wb W N : Nat} {gf : Nat → Int} {F : Int → Int → Int} {x y : Int} (h : WinA V wb N gf) (hg : ∀ i, i < N → gf i = F (x + ((i % W : Nat) : Int)) (y + ((i / W : Nat) : Int))) : Tab V (.slice (some ⟨wb, 0, none⟩) N N) (wnL F x y W N) := by
 refine Or.inr ⟨wb, N, by rw [wnL_length], lt_of_block h, fun k hk => ?_⟩
 rw [wnL_length] at hk
 have := cell_of_row V wb k _ _ _ h
 rw [arrF_get _ hk] at this
 rw [this]
 have e : (wnL F x y W N)[k]'(by rw [wnL_length]; exact hk) = F (x + ((k % W : Nat) : Int)) (y + ((k / W : Nat) : Int)) := by simp [wnL]
 rw [e, hg k hk]
end Go.Proofs.YtemhcpldflcfbaaGreatDoor
