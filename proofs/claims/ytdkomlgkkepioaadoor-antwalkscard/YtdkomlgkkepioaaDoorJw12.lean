/-
  What the last text of this claim leans on, part 12: Ab5, Ab6, Gc1.
-/
import Derived.Test.YtdkomlgkkepioaaDoorJw11
import Derived.Test.YtdkomlgkkepioaaDoorJw7
namespace Go.Proofs.YtdkomlgkkepioaaDoor
open Go.RowKit Ieee
set_option linter.unusedVariables false
theorem IsI_eq {a b : Nat} {n m : Int} (ha : IsI a n) (hb : IsI b m) : (FloatKind.f64.format.order a b == some .eq) = decide (n = m) := by
  obtain ⟨s, k, e, h1, v1⟩ := ha
  obtain ⟨t, j, i, h2, v2⟩ := hb
  have : FloatKind.f64.format.order a b = some (compare (signed s k (e - min e i).toNat) (signed t j (i - min e i).toNat)) := by
    show (double.read a).order (double.read b) = _
    rw [h1, h2]
    rfl
  rw [this, v1.scaled (by omega), v2.scaled (by omega)]
  have hp : (0 : Int) < 2 ^ (-(min e i)).toNat := Int.pow_pos (by decide)
  by_cases q : n = m
  · subst q; simp
  · have hne : n * 2 ^ (-(min e i)).toNat ≠ m * 2 ^ (-(min e i)).toNat := fun h => q (Int.eq_of_mul_eq_mul_right (by omega) h)
    obtain ⟨A, hA⟩ : ∃ A, n * 2 ^ (-(min e i)).toNat = A := ⟨_, rfl⟩
    obtain ⟨C, hC⟩ : ∃ C, m * 2 ^ (-(min e i)).toNat = C := ⟨_, rfl⟩
    rw [hA, hC] at hne ⊢
    have : compare A C = .lt ∨ compare A C = .gt := by
      unfold compare instOrdInt
      simp only [compareOfLessAndEq]
      by_cases l : A < C
      · left; rw [if_pos l]
      · right; rw [if_neg l, if_neg hne]
    rcases this with h | h <;> rw [h] <;> simp [q]
def fcV : Array Value := #[.complex .f64 0 4607182418800017408, .complex .f64 4607182418800017408 0, .complex .f64 0 13830554455654793216, .complex .f64 13830554455654793216 0]
set_option maxRecDepth 100000 in
theorem facings_any (w : World) : Calls Tryd.prog 118 #[] w fun e w' => e = .returned (.agg fcV) ∧ Below w.heap.size w w' := by
  unfold fcV
  obtain ⟨w1, hw1⟩ : ∃ w1, w.alloc (.cells #[.complex .f64 0 0, .complex .f64 0 0, .complex .f64 0 0, .complex .f64 0 0] 218) = w1 := ⟨_, rfl⟩
  have BB := hide' (show Below w.heap.size w w1 by rw [← hw1]; exact (Below.refl _ _).alloc (Nat.le_refl _) _)
  have g1 : w1.heap[w.heap.size]? = some (.cells #[.complex .f64 0 0, .complex .f64 0 0, .complex .f64 0 0, .complex .f64 0 0] 218 (0, 0)) := by rw [← hw1]; exact heap_alloc_new _ _
  have r0 := cell_of_row w1 _ 0 _ _ _ g1
  have r1 := cell_of_row w1 _ 1 _ _ _ g1
  have r2 := cell_of_row w1 _ 2 _ _ _ g1
  have r3 := cell_of_row w1 _ 3 _ _ _ g1
  simp at r0 r1 r2 r3
  have f0 := frozen_of_row w1 _ 0 _ _ g1
  have f1 := frozen_of_row w1 _ 1 _ _ g1
  have f2 := frozen_of_row w1 _ 2 _ _ g1
  have f3 := frozen_of_row w1 _ 3 _ _ g1
  have l1 := lt_of_block g1
  have hst := fun p q V a m => run_store Tryd.prog V a (.complex .f64 p q) m rfl
  clear g1
  go_enter Tryd.func118, Tryd.ntmps118
  go_upto_region 1 with fail
  clear hw1
  go_wp2
  refine bodyPost_ret (v := .agg #[.complex .f64 0 4607182418800017408, .complex .f64 4607182418800017408 0, .complex .f64 0 13830554455654793216, .complex .f64 13830554455654793216 0]) (by simp [results, Tryd.results118, go_sem, r0, r1, r2, r3]) rfl ?_
  exact ⟨rfl, (((BB.out.setCell (by simp) _).setCell (by simp) _).setCell (by simp) _).setCell (by simp) _⟩
end Go.Proofs.YtdkomlgkkepioaaDoor

namespace Go.Proofs.YtdkomlgkkepioaaDoor
open Go.RowKit
set_option linter.unusedVariables false
theorem index_fc0 (w : World) : (Instr.index 218 (.agg #[.complex .f64 0 4607182418800017408, .complex .f64 4607182418800017408 0, .complex .f64 0 13830554455654793216, .complex .f64 13830554455654793216 0]) (.int .i64 0)).run Tryd.prog w = .ok (.complex .f64 0 4607182418800017408) w := by kernel_rfl
theorem index_fc1 (w : World) : (Instr.index 218 (.agg #[.complex .f64 0 4607182418800017408, .complex .f64 4607182418800017408 0, .complex .f64 0 13830554455654793216, .complex .f64 13830554455654793216 0]) (.int .i64 1)).run Tryd.prog w = .ok (.complex .f64 4607182418800017408 0) w := by kernel_rfl
theorem index_fc2 (w : World) : (Instr.index 218 (.agg #[.complex .f64 0 4607182418800017408, .complex .f64 4607182418800017408 0, .complex .f64 0 13830554455654793216, .complex .f64 13830554455654793216 0]) (.int .i64 2)).run Tryd.prog w = .ok (.complex .f64 0 13830554455654793216) w := by kernel_rfl
theorem index_fc3 (w : World) : (Instr.index 218 (.agg #[.complex .f64 0 4607182418800017408, .complex .f64 4607182418800017408 0, .complex .f64 0 13830554455654793216, .complex .f64 13830554455654793216 0]) (.int .i64 3)).run Tryd.prog w = .ok (.complex .f64 13830554455654793216 0) w := by kernel_rfl
set_option maxRecDepth 100000 in
set_option maxHeartbeats 6400000 in
theorem walker_0 (kb tb mb L : Nat) (x y : Int) (w : World) (h : WkB w kb tb mb L x y 0) (hx : inC x) (hy : inC y) :
    Calls Tryd.prog 71 #[.pointer (some ⟨kb, 0, none⟩)] w fun e w' => e = .returned (.agg #[.int .i64 x, .int .i64 y, .int .i64 0]) ∧ Below w.heap.size w w' := by
  obtain ⟨ra, ia, rd, id, hb, i1, i2, i3, i4⟩ := h.blk
  have LK := hide' (lt_of_block hb)
  have HB := hide' hb
  obtain ⟨w1, hw1⟩ : ∃ w1, w.alloc (.cells #[.int .i64 0, .int .i64 0, .int .i64 0] 50) = w1 := ⟨_, rfl⟩
  have BB := hide' (show Below w.heap.size w w1 by rw [← hw1]; exact (Below.refl _ _).alloc (Nat.le_refl _) _)
  have g1 : w1.heap[w.heap.size]? = some (.cells #[.int .i64 0, .int .i64 0, .int .i64 0] 50 (0, 0)) := by rw [← hw1]; exact heap_alloc_new _ _
  have HH := hide' (here_any kb tb mb L 0 x y w1 ⟨ra, ia, rd, id, (BB.out.block kb LK.out).trans hb, i1, i2, i3, i4⟩ hx hy)
  have FC := hide' (fun V => facings_any V)
  unfold fcV at FC
  have G1 := hide' g1
  have i3 : IsI rd (0) := i3
  have i4 : IsI id (1) := i4
  have o0 : (FloatKind.f64.format.order 0 rd == some .eq) = true := by rw [IsI_eq IsI_zero i3]; decide
  have o1 : (FloatKind.f64.format.order 4607182418800017408 rd == some .eq) = false := by rw [IsI_eq IsI_one i3]; decide
  have o2 : (FloatKind.f64.format.order 13830554455654793216 rd == some .eq) = false := by rw [IsI_eq IsI_mone i3]; decide
  have p0 : (FloatKind.f64.format.order 0 id == some .eq) = false := by rw [IsI_eq IsI_zero i4]; decide
  have p1 : (FloatKind.f64.format.order 4607182418800017408 id == some .eq) = true := by rw [IsI_eq IsI_one i4]; decide
  have p2 : (FloatKind.f64.format.order 13830554455654793216 id == some .eq) = false := by rw [IsI_eq IsI_mone i4]; decide
  clear h hb i1 i2 i3 i4 g1
  go_enter Tryd.func71, Tryd.ntmps71
  go_upto_region 1 with fail
  clear hw1
  go_wp2_with fail
  refine HH.out.mono ?_
  rintro e w2 ⟨rfl, b2⟩
  have z2 := b2.size
  have z1 : w.heap.size < w1.heap.size := lt_of_block G1.out
  obtain ⟨u2, hu2⟩ : ∃ u2, w2.alloc (.cells #[.int .i64 x, .int .i64 y] 216) = u2 := ⟨_, rfl⟩
  have v0 : u2.cell? ⟨w2.heap.size, 0, none⟩ = some (.int .i64 x) := by rw [← hu2]; exact cell_of_row _ _ 0 _ _ _ (heap_alloc_new _ _)
  have v1 : u2.cell? ⟨w2.heap.size, 1, none⟩ = some (.int .i64 y) := by rw [← hu2]; exact cell_of_row _ _ 1 _ _ _ (heap_alloc_new _ _)
  have zu : u2.heap.size = w2.heap.size + 1 := by rw [← hu2]; simp
  have B2 := hide' (show Below w1.heap.size w1 u2 by rw [← hu2]; exact b2.alloc z2 _)
  have G3 := hide' (show (u2.alloc (.cells #[.int .i64 x, .int .i64 y, .int .i64 0] 50)).heap[u2.heap.size]? = some (.cells #[.int .i64 x, .int .i64 y, .int .i64 0] 50 (0, 0)) from heap_alloc_new _ _)
  have B3 := hide' (show Below w1.heap.size w1 (u2.alloc (.cells #[.int .i64 x, .int .i64 y, .int .i64 0] 50)) from B2.out.alloc (by omega) _)
  clear b2
  go_upto_region 2 with fail
  try rw [hu2]
  clear hu2
  have ZU := hide' zu
  clear zu
  go_wp2_with fail
  refine (FC.out _).mono ?_
  clear v0 v1
  rintro e w4 ⟨rfl, b4⟩
  have C4 := hide' (B3.out.trans (b4.mono B3.out.size))
  have BW := hide' (BB.out.trans (C4.out.mono BB.out.size))
  have g4 := (b4.block _ (lt_of_block G3.out)).trans G3.out
  have gk := (BW.out.block kb LK.out).trans HB.out
  have gr := (C4.out.block _ z1).trans G1.out
  have c3 := cell_of_row w4 _ 3 _ _ _ gk
  unfold wkV at c3
  have t0 := cell_of_row w4 _ 0 _ _ _ g4
  have t1 := cell_of_row w4 _ 1 _ _ _ g4
  have t2 := cell_of_row w4 _ 2 _ _ _ g4
  have r0 := cell_of_row w4 _ 0 _ _ _ gr
  have r1 := cell_of_row w4 _ 1 _ _ _ gr
  have r2 := cell_of_row w4 _ 2 _ _ _ gr
  simp at c3 t0 t1 t2 r0 r1 r2
  have ft := frozen_of_row w4 _ 2 _ _ g4
  have lt' := lt_of_block g4
  have fr0 := frozen_of_row w4 _ 0 _ _ gr
  have fr1 := frozen_of_row w4 _ 1 _ _ gr
  have fr2 := frozen_of_row w4 _ 2 _ _ gr
  have lr := lt_of_block gr
  have zu := ZU.out
  have ne1 : ¬ u2.heap.size = w.heap.size := by omega
  have ne2 : ¬ w.heap.size = u2.heap.size := by omega
  have lk := lt_of_block gk
  have nk : ¬ u2.heap.size = kb := by have := LK.out; omega
  have nk2 : ¬ kb = u2.heap.size := by have := LK.out; omega
  have le2 : w.heap.size ≤ u2.heap.size := by omega
  clear g4 gk gr b4 zu
  go_wp2
  have x0 := index_fc0
  have x1 := index_fc1
  have x2 := index_fc2
  have x3 := index_fc3
  refine wp_loop_rounds 5 ?_
  rw [rounds_succ]
  go_wp2
  rw [rounds_succ]
  go_wp2
  rw [rounds_succ]
  go_wp2
  rw [rounds_succ]
  go_wp2
  rw [rounds_succ]
  go_wp2
  refine bodyPost_ret (v := .agg #[.int .i64 x, .int .i64 y, .int .i64 0]) (by simp [results, Tryd.results71, go_sem, r0, r1, r2]) rfl ?_
  exact ⟨rfl, (((BW.out.setCell (by simpa using le2) _).setCell (by simp) _).setCell (by simp) _).setCell (by simp) _⟩
set_option maxRecDepth 100000 in
set_option maxHeartbeats 6400000 in
theorem walker_1 (kb tb mb L : Nat) (x y : Int) (w : World) (h : WkB w kb tb mb L x y 1) (hx : inC x) (hy : inC y) :
    Calls Tryd.prog 71 #[.pointer (some ⟨kb, 0, none⟩)] w fun e w' => e = .returned (.agg #[.int .i64 x, .int .i64 y, .int .i64 1]) ∧ Below w.heap.size w w' := by
  obtain ⟨ra, ia, rd, id, hb, i1, i2, i3, i4⟩ := h.blk
  have LK := hide' (lt_of_block hb)
  have HB := hide' hb
  obtain ⟨w1, hw1⟩ : ∃ w1, w.alloc (.cells #[.int .i64 0, .int .i64 0, .int .i64 0] 50) = w1 := ⟨_, rfl⟩
  have BB := hide' (show Below w.heap.size w w1 by rw [← hw1]; exact (Below.refl _ _).alloc (Nat.le_refl _) _)
  have g1 : w1.heap[w.heap.size]? = some (.cells #[.int .i64 0, .int .i64 0, .int .i64 0] 50 (0, 0)) := by rw [← hw1]; exact heap_alloc_new _ _
  have HH := hide' (here_any kb tb mb L 1 x y w1 ⟨ra, ia, rd, id, (BB.out.block kb LK.out).trans hb, i1, i2, i3, i4⟩ hx hy)
  have FC := hide' (fun V => facings_any V)
  unfold fcV at FC
  have G1 := hide' g1
  have i3 : IsI rd (1) := i3
  have i4 : IsI id (0) := i4
  have o0 : (FloatKind.f64.format.order 0 rd == some .eq) = false := by rw [IsI_eq IsI_zero i3]; decide
  have o1 : (FloatKind.f64.format.order 4607182418800017408 rd == some .eq) = true := by rw [IsI_eq IsI_one i3]; decide
  have o2 : (FloatKind.f64.format.order 13830554455654793216 rd == some .eq) = false := by rw [IsI_eq IsI_mone i3]; decide
  have p0 : (FloatKind.f64.format.order 0 id == some .eq) = true := by rw [IsI_eq IsI_zero i4]; decide
  have p1 : (FloatKind.f64.format.order 4607182418800017408 id == some .eq) = false := by rw [IsI_eq IsI_one i4]; decide
  have p2 : (FloatKind.f64.format.order 13830554455654793216 id == some .eq) = false := by rw [IsI_eq IsI_mone i4]; decide
  clear h hb i1 i2 i3 i4 g1
  go_enter Tryd.func71, Tryd.ntmps71
  go_upto_region 1 with fail
  clear hw1
  go_wp2_with fail
  refine HH.out.mono ?_
  rintro e w2 ⟨rfl, b2⟩
  have z2 := b2.size
  have z1 : w.heap.size < w1.heap.size := lt_of_block G1.out
  obtain ⟨u2, hu2⟩ : ∃ u2, w2.alloc (.cells #[.int .i64 x, .int .i64 y] 216) = u2 := ⟨_, rfl⟩
  have v0 : u2.cell? ⟨w2.heap.size, 0, none⟩ = some (.int .i64 x) := by rw [← hu2]; exact cell_of_row _ _ 0 _ _ _ (heap_alloc_new _ _)
  have v1 : u2.cell? ⟨w2.heap.size, 1, none⟩ = some (.int .i64 y) := by rw [← hu2]; exact cell_of_row _ _ 1 _ _ _ (heap_alloc_new _ _)
  have zu : u2.heap.size = w2.heap.size + 1 := by rw [← hu2]; simp
  have B2 := hide' (show Below w1.heap.size w1 u2 by rw [← hu2]; exact b2.alloc z2 _)
  have G3 := hide' (show (u2.alloc (.cells #[.int .i64 x, .int .i64 y, .int .i64 0] 50)).heap[u2.heap.size]? = some (.cells #[.int .i64 x, .int .i64 y, .int .i64 0] 50 (0, 0)) from heap_alloc_new _ _)
  have B3 := hide' (show Below w1.heap.size w1 (u2.alloc (.cells #[.int .i64 x, .int .i64 y, .int .i64 0] 50)) from B2.out.alloc (by omega) _)
  clear b2
  go_upto_region 2 with fail
  try rw [hu2]
  clear hu2
  have ZU := hide' zu
  clear zu
  go_wp2_with fail
  refine (FC.out _).mono ?_
  clear v0 v1
  rintro e w4 ⟨rfl, b4⟩
  have C4 := hide' (B3.out.trans (b4.mono B3.out.size))
  have BW := hide' (BB.out.trans (C4.out.mono BB.out.size))
  have g4 := (b4.block _ (lt_of_block G3.out)).trans G3.out
  have gk := (BW.out.block kb LK.out).trans HB.out
  have gr := (C4.out.block _ z1).trans G1.out
  have c3 := cell_of_row w4 _ 3 _ _ _ gk
  unfold wkV at c3
  have t0 := cell_of_row w4 _ 0 _ _ _ g4
  have t1 := cell_of_row w4 _ 1 _ _ _ g4
  have t2 := cell_of_row w4 _ 2 _ _ _ g4
  have r0 := cell_of_row w4 _ 0 _ _ _ gr
  have r1 := cell_of_row w4 _ 1 _ _ _ gr
  have r2 := cell_of_row w4 _ 2 _ _ _ gr
  simp at c3 t0 t1 t2 r0 r1 r2
  have ft := frozen_of_row w4 _ 2 _ _ g4
  have lt' := lt_of_block g4
  have fr0 := frozen_of_row w4 _ 0 _ _ gr
  have fr1 := frozen_of_row w4 _ 1 _ _ gr
  have fr2 := frozen_of_row w4 _ 2 _ _ gr
  have lr := lt_of_block gr
  have zu := ZU.out
  have ne1 : ¬ u2.heap.size = w.heap.size := by omega
  have ne2 : ¬ w.heap.size = u2.heap.size := by omega
  have lk := lt_of_block gk
  have nk : ¬ u2.heap.size = kb := by have := LK.out; omega
  have nk2 : ¬ kb = u2.heap.size := by have := LK.out; omega
  have le2 : w.heap.size ≤ u2.heap.size := by omega
  clear g4 gk gr b4 zu
  go_wp2
  have x0 := index_fc0
  have x1 := index_fc1
  have x2 := index_fc2
  have x3 := index_fc3
  refine wp_loop_rounds 5 ?_
  rw [rounds_succ]
  go_wp2
  rw [rounds_succ]
  go_wp2
  rw [rounds_succ]
  go_wp2
  rw [rounds_succ]
  go_wp2
  rw [rounds_succ]
  go_wp2
  refine bodyPost_ret (v := .agg #[.int .i64 x, .int .i64 y, .int .i64 1]) (by simp [results, Tryd.results71, go_sem, r0, r1, r2]) rfl ?_
  exact ⟨rfl, (((BW.out.setCell (by simpa using le2) _).setCell (by simp) _).setCell (by simp) _).setCell (by simp) _⟩
set_option maxRecDepth 100000 in
set_option maxHeartbeats 6400000 in
theorem walker_2 (kb tb mb L : Nat) (x y : Int) (w : World) (h : WkB w kb tb mb L x y 2) (hx : inC x) (hy : inC y) :
    Calls Tryd.prog 71 #[.pointer (some ⟨kb, 0, none⟩)] w fun e w' => e = .returned (.agg #[.int .i64 x, .int .i64 y, .int .i64 2]) ∧ Below w.heap.size w w' := by
  obtain ⟨ra, ia, rd, id, hb, i1, i2, i3, i4⟩ := h.blk
  have LK := hide' (lt_of_block hb)
  have HB := hide' hb
  obtain ⟨w1, hw1⟩ : ∃ w1, w.alloc (.cells #[.int .i64 0, .int .i64 0, .int .i64 0] 50) = w1 := ⟨_, rfl⟩
  have BB := hide' (show Below w.heap.size w w1 by rw [← hw1]; exact (Below.refl _ _).alloc (Nat.le_refl _) _)
  have g1 : w1.heap[w.heap.size]? = some (.cells #[.int .i64 0, .int .i64 0, .int .i64 0] 50 (0, 0)) := by rw [← hw1]; exact heap_alloc_new _ _
  have HH := hide' (here_any kb tb mb L 2 x y w1 ⟨ra, ia, rd, id, (BB.out.block kb LK.out).trans hb, i1, i2, i3, i4⟩ hx hy)
  have FC := hide' (fun V => facings_any V)
  unfold fcV at FC
  have G1 := hide' g1
  have i3 : IsI rd (0) := i3
  have i4 : IsI id (-1) := i4
  have o0 : (FloatKind.f64.format.order 0 rd == some .eq) = true := by rw [IsI_eq IsI_zero i3]; decide
  have o1 : (FloatKind.f64.format.order 4607182418800017408 rd == some .eq) = false := by rw [IsI_eq IsI_one i3]; decide
  have o2 : (FloatKind.f64.format.order 13830554455654793216 rd == some .eq) = false := by rw [IsI_eq IsI_mone i3]; decide
  have p0 : (FloatKind.f64.format.order 0 id == some .eq) = false := by rw [IsI_eq IsI_zero i4]; decide
  have p1 : (FloatKind.f64.format.order 4607182418800017408 id == some .eq) = false := by rw [IsI_eq IsI_one i4]; decide
  have p2 : (FloatKind.f64.format.order 13830554455654793216 id == some .eq) = true := by rw [IsI_eq IsI_mone i4]; decide
  clear h hb i1 i2 i3 i4 g1
  go_enter Tryd.func71, Tryd.ntmps71
  go_upto_region 1 with fail
  clear hw1
  go_wp2_with fail
  refine HH.out.mono ?_
  rintro e w2 ⟨rfl, b2⟩
  have z2 := b2.size
  have z1 : w.heap.size < w1.heap.size := lt_of_block G1.out
  obtain ⟨u2, hu2⟩ : ∃ u2, w2.alloc (.cells #[.int .i64 x, .int .i64 y] 216) = u2 := ⟨_, rfl⟩
  have v0 : u2.cell? ⟨w2.heap.size, 0, none⟩ = some (.int .i64 x) := by rw [← hu2]; exact cell_of_row _ _ 0 _ _ _ (heap_alloc_new _ _)
  have v1 : u2.cell? ⟨w2.heap.size, 1, none⟩ = some (.int .i64 y) := by rw [← hu2]; exact cell_of_row _ _ 1 _ _ _ (heap_alloc_new _ _)
  have zu : u2.heap.size = w2.heap.size + 1 := by rw [← hu2]; simp
  have B2 := hide' (show Below w1.heap.size w1 u2 by rw [← hu2]; exact b2.alloc z2 _)
  have G3 := hide' (show (u2.alloc (.cells #[.int .i64 x, .int .i64 y, .int .i64 0] 50)).heap[u2.heap.size]? = some (.cells #[.int .i64 x, .int .i64 y, .int .i64 0] 50 (0, 0)) from heap_alloc_new _ _)
  have B3 := hide' (show Below w1.heap.size w1 (u2.alloc (.cells #[.int .i64 x, .int .i64 y, .int .i64 0] 50)) from B2.out.alloc (by omega) _)
  clear b2
  go_upto_region 2 with fail
  try rw [hu2]
  clear hu2
  have ZU := hide' zu
  clear zu
  go_wp2_with fail
  refine (FC.out _).mono ?_
  clear v0 v1
  rintro e w4 ⟨rfl, b4⟩
  have C4 := hide' (B3.out.trans (b4.mono B3.out.size))
  have BW := hide' (BB.out.trans (C4.out.mono BB.out.size))
  have g4 := (b4.block _ (lt_of_block G3.out)).trans G3.out
  have gk := (BW.out.block kb LK.out).trans HB.out
  have gr := (C4.out.block _ z1).trans G1.out
  have c3 := cell_of_row w4 _ 3 _ _ _ gk
  unfold wkV at c3
  have t0 := cell_of_row w4 _ 0 _ _ _ g4
  have t1 := cell_of_row w4 _ 1 _ _ _ g4
  have t2 := cell_of_row w4 _ 2 _ _ _ g4
  have r0 := cell_of_row w4 _ 0 _ _ _ gr
  have r1 := cell_of_row w4 _ 1 _ _ _ gr
  have r2 := cell_of_row w4 _ 2 _ _ _ gr
  simp at c3 t0 t1 t2 r0 r1 r2
  have ft := frozen_of_row w4 _ 2 _ _ g4
  have lt' := lt_of_block g4
  have fr0 := frozen_of_row w4 _ 0 _ _ gr
  have fr1 := frozen_of_row w4 _ 1 _ _ gr
  have fr2 := frozen_of_row w4 _ 2 _ _ gr
  have lr := lt_of_block gr
  have zu := ZU.out
  have ne1 : ¬ u2.heap.size = w.heap.size := by omega
  have ne2 : ¬ w.heap.size = u2.heap.size := by omega
  have lk := lt_of_block gk
  have nk : ¬ u2.heap.size = kb := by have := LK.out; omega
  have nk2 : ¬ kb = u2.heap.size := by have := LK.out; omega
  have le2 : w.heap.size ≤ u2.heap.size := by omega
  clear g4 gk gr b4 zu
  go_wp2
  have x0 := index_fc0
  have x1 := index_fc1
  have x2 := index_fc2
  have x3 := index_fc3
  refine wp_loop_rounds 5 ?_
  rw [rounds_succ]
  go_wp2
  rw [rounds_succ]
  go_wp2
  rw [rounds_succ]
  go_wp2
  rw [rounds_succ]
  go_wp2
  rw [rounds_succ]
  go_wp2
  refine bodyPost_ret (v := .agg #[.int .i64 x, .int .i64 y, .int .i64 2]) (by simp [results, Tryd.results71, go_sem, r0, r1, r2]) rfl ?_
  exact ⟨rfl, (((BW.out.setCell (by simpa using le2) _).setCell (by simp) _).setCell (by simp) _).setCell (by simp) _⟩
set_option maxRecDepth 100000 in
set_option maxHeartbeats 6400000 in
theorem walker_3 (kb tb mb L : Nat) (x y : Int) (w : World) (h : WkB w kb tb mb L x y 3) (hx : inC x) (hy : inC y) :
    Calls Tryd.prog 71 #[.pointer (some ⟨kb, 0, none⟩)] w fun e w' => e = .returned (.agg #[.int .i64 x, .int .i64 y, .int .i64 3]) ∧ Below w.heap.size w w' := by
  obtain ⟨ra, ia, rd, id, hb, i1, i2, i3, i4⟩ := h.blk
  have LK := hide' (lt_of_block hb)
  have HB := hide' hb
  obtain ⟨w1, hw1⟩ : ∃ w1, w.alloc (.cells #[.int .i64 0, .int .i64 0, .int .i64 0] 50) = w1 := ⟨_, rfl⟩
  have BB := hide' (show Below w.heap.size w w1 by rw [← hw1]; exact (Below.refl _ _).alloc (Nat.le_refl _) _)
  have g1 : w1.heap[w.heap.size]? = some (.cells #[.int .i64 0, .int .i64 0, .int .i64 0] 50 (0, 0)) := by rw [← hw1]; exact heap_alloc_new _ _
  have HH := hide' (here_any kb tb mb L 3 x y w1 ⟨ra, ia, rd, id, (BB.out.block kb LK.out).trans hb, i1, i2, i3, i4⟩ hx hy)
  have FC := hide' (fun V => facings_any V)
  unfold fcV at FC
  have G1 := hide' g1
  have i3 : IsI rd (-1) := i3
  have i4 : IsI id (0) := i4
  have o0 : (FloatKind.f64.format.order 0 rd == some .eq) = false := by rw [IsI_eq IsI_zero i3]; decide
  have o1 : (FloatKind.f64.format.order 4607182418800017408 rd == some .eq) = false := by rw [IsI_eq IsI_one i3]; decide
  have o2 : (FloatKind.f64.format.order 13830554455654793216 rd == some .eq) = true := by rw [IsI_eq IsI_mone i3]; decide
  have p0 : (FloatKind.f64.format.order 0 id == some .eq) = true := by rw [IsI_eq IsI_zero i4]; decide
  have p1 : (FloatKind.f64.format.order 4607182418800017408 id == some .eq) = false := by rw [IsI_eq IsI_one i4]; decide
  have p2 : (FloatKind.f64.format.order 13830554455654793216 id == some .eq) = false := by rw [IsI_eq IsI_mone i4]; decide
  clear h hb i1 i2 i3 i4 g1
  go_enter Tryd.func71, Tryd.ntmps71
  go_upto_region 1 with fail
  clear hw1
  go_wp2_with fail
  refine HH.out.mono ?_
  rintro e w2 ⟨rfl, b2⟩
  have z2 := b2.size
  have z1 : w.heap.size < w1.heap.size := lt_of_block G1.out
  obtain ⟨u2, hu2⟩ : ∃ u2, w2.alloc (.cells #[.int .i64 x, .int .i64 y] 216) = u2 := ⟨_, rfl⟩
  have v0 : u2.cell? ⟨w2.heap.size, 0, none⟩ = some (.int .i64 x) := by rw [← hu2]; exact cell_of_row _ _ 0 _ _ _ (heap_alloc_new _ _)
  have v1 : u2.cell? ⟨w2.heap.size, 1, none⟩ = some (.int .i64 y) := by rw [← hu2]; exact cell_of_row _ _ 1 _ _ _ (heap_alloc_new _ _)
  have zu : u2.heap.size = w2.heap.size + 1 := by rw [← hu2]; simp
  have B2 := hide' (show Below w1.heap.size w1 u2 by rw [← hu2]; exact b2.alloc z2 _)
  have G3 := hide' (show (u2.alloc (.cells #[.int .i64 x, .int .i64 y, .int .i64 0] 50)).heap[u2.heap.size]? = some (.cells #[.int .i64 x, .int .i64 y, .int .i64 0] 50 (0, 0)) from heap_alloc_new _ _)
  have B3 := hide' (show Below w1.heap.size w1 (u2.alloc (.cells #[.int .i64 x, .int .i64 y, .int .i64 0] 50)) from B2.out.alloc (by omega) _)
  clear b2
  go_upto_region 2 with fail
  try rw [hu2]
  clear hu2
  have ZU := hide' zu
  clear zu
  go_wp2_with fail
  refine (FC.out _).mono ?_
  clear v0 v1
  rintro e w4 ⟨rfl, b4⟩
  have C4 := hide' (B3.out.trans (b4.mono B3.out.size))
  have BW := hide' (BB.out.trans (C4.out.mono BB.out.size))
  have g4 := (b4.block _ (lt_of_block G3.out)).trans G3.out
  have gk := (BW.out.block kb LK.out).trans HB.out
  have gr := (C4.out.block _ z1).trans G1.out
  have c3 := cell_of_row w4 _ 3 _ _ _ gk
  unfold wkV at c3
  have t0 := cell_of_row w4 _ 0 _ _ _ g4
  have t1 := cell_of_row w4 _ 1 _ _ _ g4
  have t2 := cell_of_row w4 _ 2 _ _ _ g4
  have r0 := cell_of_row w4 _ 0 _ _ _ gr
  have r1 := cell_of_row w4 _ 1 _ _ _ gr
  have r2 := cell_of_row w4 _ 2 _ _ _ gr
  simp at c3 t0 t1 t2 r0 r1 r2
  have ft := frozen_of_row w4 _ 2 _ _ g4
  have lt' := lt_of_block g4
  have fr0 := frozen_of_row w4 _ 0 _ _ gr
  have fr1 := frozen_of_row w4 _ 1 _ _ gr
  have fr2 := frozen_of_row w4 _ 2 _ _ gr
  have lr := lt_of_block gr
  have zu := ZU.out
  have ne1 : ¬ u2.heap.size = w.heap.size := by omega
  have ne2 : ¬ w.heap.size = u2.heap.size := by omega
  have lk := lt_of_block gk
  have nk : ¬ u2.heap.size = kb := by have := LK.out; omega
  have nk2 : ¬ kb = u2.heap.size := by have := LK.out; omega
  have le2 : w.heap.size ≤ u2.heap.size := by omega
  clear g4 gk gr b4 zu
  go_wp2
  have x0 := index_fc0
  have x1 := index_fc1
  have x2 := index_fc2
  have x3 := index_fc3
  refine wp_loop_rounds 5 ?_
  rw [rounds_succ]
  go_wp2
  rw [rounds_succ]
  go_wp2
  rw [rounds_succ]
  go_wp2
  rw [rounds_succ]
  go_wp2
  rw [rounds_succ]
  go_wp2
  refine bodyPost_ret (v := .agg #[.int .i64 x, .int .i64 y, .int .i64 3]) (by simp [results, Tryd.results71, go_sem, r0, r1, r2]) rfl ?_
  exact ⟨rfl, (((BW.out.setCell (by simpa using le2) _).setCell (by simp) _).setCell (by simp) _).setCell (by simp) _⟩
theorem walker_any (kb tb mb L d : Nat) (x y : Int) (w : World) (h : WkB w kb tb mb L x y d) (hd : d < 4) (hx : inC x) (hy : inC y) :
    Calls Tryd.prog 71 #[.pointer (some ⟨kb, 0, none⟩)] w fun e w' => e = .returned (.agg #[.int .i64 x, .int .i64 y, .int .i64 (d : Int)]) ∧ Below w.heap.size w w' := by
  rcases (by omega : d = 0 ∨ d = 1 ∨ d = 2 ∨ d = 3) with rfl | rfl | rfl | rfl
  · exact walker_0 kb tb mb L x y w h hx hy
  · exact walker_1 kb tb mb L x y w h hx hy
  · exact walker_2 kb tb mb L x y w h hx hy
  · exact walker_3 kb tb mb L x y w h hx hy
end Go.Proofs.YtdkomlgkkepioaaDoor

namespace Go.Proofs.YtdkomlgkkepioaaDoor
open Go.RowKit
set_option linter.unusedVariables false
end Go.Proofs.YtdkomlgkkepioaaDoor

