/-
  What the last text of this claim leans on, part 9: Ab6, Gc1, Gb2, Gb3, Bkg, Bkh, Ga2, Ga3.
-/
import Derived.Test.YtbkllhlapdmlfaaQn8
import Derived.Test.YtbkllhlapdmlfaaQn4
import Derived.Test.YtbkllhlapdmlfaaQn5
import Derived.Test.YtbkllhlapdmlfaaQn7
import Derived.Test.YtbkllhlapdmlfaaQn6
import Derived.Test.YtbkllhlapdmlfaaQn2
import Derived.BigRegion
import Derived.Deep.RegionHeld3
import Derived.Deep.CutRange
namespace Go.Proofs.Ytbkllhlapdmlfaa
open Go.RowKit
set_option linter.unusedVariables false
theorem index_fc0 (w : World) : (Instr.index 96 (.agg #[.complex .f64 0 4607182418800017408, .complex .f64 4607182418800017408 0, .complex .f64 0 13830554455654793216, .complex .f64 13830554455654793216 0]) (.int .i64 0)).run Try.prog w = .ok (.complex .f64 0 4607182418800017408) w := by kernel_rfl
theorem index_fc1 (w : World) : (Instr.index 96 (.agg #[.complex .f64 0 4607182418800017408, .complex .f64 4607182418800017408 0, .complex .f64 0 13830554455654793216, .complex .f64 13830554455654793216 0]) (.int .i64 1)).run Try.prog w = .ok (.complex .f64 4607182418800017408 0) w := by kernel_rfl
theorem index_fc2 (w : World) : (Instr.index 96 (.agg #[.complex .f64 0 4607182418800017408, .complex .f64 4607182418800017408 0, .complex .f64 0 13830554455654793216, .complex .f64 13830554455654793216 0]) (.int .i64 2)).run Try.prog w = .ok (.complex .f64 0 13830554455654793216) w := by kernel_rfl
theorem index_fc3 (w : World) : (Instr.index 96 (.agg #[.complex .f64 0 4607182418800017408, .complex .f64 4607182418800017408 0, .complex .f64 0 13830554455654793216, .complex .f64 13830554455654793216 0]) (.int .i64 3)).run Try.prog w = .ok (.complex .f64 13830554455654793216 0) w := by kernel_rfl
set_option maxRecDepth 100000 in
set_option maxHeartbeats 6400000 in
theorem walker_0 (kb tb mb L : Nat) (x y : Int) (w : World) (h : WkB w kb tb mb L x y 0) (hx : inC x) (hy : inC y) :
    Calls Try.prog 31 #[.pointer (some ⟨kb, 0, none⟩)] w fun e w' => e = .returned (.agg #[.int .i64 x, .int .i64 y, .int .i64 0]) ∧ Below w.heap.size w w' := by
  obtain ⟨ra, ia, rd, id, hb, i1, i2, i3, i4⟩ := h.blk
  have LK := hide' (lt_of_block hb)
  have HB := hide' hb
  obtain ⟨w1, hw1⟩ : ∃ w1, w.alloc (.cells #[.int .i64 0, .int .i64 0, .int .i64 0] 40) = w1 := ⟨_, rfl⟩
  have BB := hide' (show Below w.heap.size w w1 by rw [← hw1]; exact (Below.refl _ _).alloc (Nat.le_refl _) _)
  have g1 : w1.heap[w.heap.size]? = some (.cells #[.int .i64 0, .int .i64 0, .int .i64 0] 40 (0, 0)) := by rw [← hw1]; exact heap_alloc_new _ _
  have HH := hide' (here_any kb tb mb L 0 x y w1 ⟨ra, ia, rd, id, (BB.out.block kb LK.out).trans hb, i1, i2, i3, i4⟩ hx hy)
  have FC := hide' (fun V => facings_any V)
  unfold fcV at FC
  have G1 := hide' g1
  have i3 : IsI rd (0) := i3
  have i4 : IsI id (1) := i4
  have o0 : (FloatKind.f64.format.order 0 rd == some .eq) = true := by rw [IsI_eq IsI_zero i3]; decide
  have o1 : (FloatKind.f64.format.order 4607182418800017408 rd == some .eq) = false := by rw [IsI_eq IsI_one i3]; decide
  have o2 : (FloatKind.f64.format.order 13830554455654793216 rd == some .eq) = false := by rw [IsI_eq IsI_mone i3]; decide
  have p0 : (FloatKind.f64.format.order 0 id == some .eq) = false := by rw [IsI_eq IsI_zero i4]; decide
  have p1 : (FloatKind.f64.format.order 4607182418800017408 id == some .eq) = true := by rw [IsI_eq IsI_one i4]; decide
  have p2 : (FloatKind.f64.format.order 13830554455654793216 id == some .eq) = false := by rw [IsI_eq IsI_mone i4]; decide
  clear h hb i1 i2 i3 i4 g1
  go_enter Try.func31, Try.ntmps31
  go_upto_region 1 with fail
  clear hw1
  go_wp2_with fail
  refine HH.out.mono ?_
  rintro e w2 ⟨rfl, b2⟩
  have z2 := b2.size
  have z1 : w.heap.size < w1.heap.size := lt_of_block G1.out
  obtain ⟨u2, hu2⟩ : ∃ u2, w2.alloc (.cells #[.int .i64 x, .int .i64 y] 95) = u2 := ⟨_, rfl⟩
  have v0 : u2.cell? ⟨w2.heap.size, 0, none⟩ = some (.int .i64 x) := by rw [← hu2]; exact cell_of_row _ _ 0 _ _ _ (heap_alloc_new _ _)
  have v1 : u2.cell? ⟨w2.heap.size, 1, none⟩ = some (.int .i64 y) := by rw [← hu2]; exact cell_of_row _ _ 1 _ _ _ (heap_alloc_new _ _)
  have zu : u2.heap.size = w2.heap.size + 1 := by rw [← hu2]; simp
  have B2 := hide' (show Below w1.heap.size w1 u2 by rw [← hu2]; exact b2.alloc z2 _)
  have G3 := hide' (show (u2.alloc (.cells #[.int .i64 x, .int .i64 y, .int .i64 0] 40)).heap[u2.heap.size]? = some (.cells #[.int .i64 x, .int .i64 y, .int .i64 0] 40 (0, 0)) from heap_alloc_new _ _)
  have B3 := hide' (show Below w1.heap.size w1 (u2.alloc (.cells #[.int .i64 x, .int .i64 y, .int .i64 0] 40)) from B2.out.alloc (by omega) _)
  clear b2
  go_upto_region 2 with fail
  try rw [hu2]
  clear hu2
  have ZU := hide' zu
  clear zu
  go_wp2_with fail
  refine (FC.out _).mono ?_
  clear v0 v1
  rintro e w4 ⟨rfl, b4⟩
  have C4 := hide' (B3.out.trans (b4.mono B3.out.size))
  have BW := hide' (BB.out.trans (C4.out.mono BB.out.size))
  have g4 := (b4.block _ (lt_of_block G3.out)).trans G3.out
  have gk := (BW.out.block kb LK.out).trans HB.out
  have gr := (C4.out.block _ z1).trans G1.out
  have c3 := cell_of_row w4 _ 3 _ _ _ gk
  unfold wkV at c3
  have t0 := cell_of_row w4 _ 0 _ _ _ g4
  have t1 := cell_of_row w4 _ 1 _ _ _ g4
  have t2 := cell_of_row w4 _ 2 _ _ _ g4
  have r0 := cell_of_row w4 _ 0 _ _ _ gr
  have r1 := cell_of_row w4 _ 1 _ _ _ gr
  have r2 := cell_of_row w4 _ 2 _ _ _ gr
  simp at c3 t0 t1 t2 r0 r1 r2
  have ft := frozen_of_row w4 _ 2 _ _ g4
  have lt' := lt_of_block g4
  have fr0 := frozen_of_row w4 _ 0 _ _ gr
  have fr1 := frozen_of_row w4 _ 1 _ _ gr
  have fr2 := frozen_of_row w4 _ 2 _ _ gr
  have lr := lt_of_block gr
  have zu := ZU.out
  have ne1 : ¬ u2.heap.size = w.heap.size := by omega
  have ne2 : ¬ w.heap.size = u2.heap.size := by omega
  have lk := lt_of_block gk
  have nk : ¬ u2.heap.size = kb := by have := LK.out; omega
  have nk2 : ¬ kb = u2.heap.size := by have := LK.out; omega
  have le2 : w.heap.size ≤ u2.heap.size := by omega
  clear g4 gk gr b4 zu
  go_wp2
  have x0 := index_fc0
  have x1 := index_fc1
  have x2 := index_fc2
  have x3 := index_fc3
  refine wp_loop_rounds 5 ?_
  rw [rounds_succ]
  go_wp2
  rw [rounds_succ]
  go_wp2
  rw [rounds_succ]
  go_wp2
  rw [rounds_succ]
  go_wp2
  rw [rounds_succ]
  go_wp2
  refine bodyPost_ret (v := .agg #[.int .i64 x, .int .i64 y, .int .i64 0]) (by simp [results, Try.results31, go_sem, r0, r1, r2]) rfl ?_
  exact ⟨rfl, (((BW.out.setCell (by simpa using le2) _).setCell (by simp) _).setCell (by simp) _).setCell (by simp) _⟩
set_option maxRecDepth 100000 in
set_option maxHeartbeats 6400000 in
theorem walker_1 (kb tb mb L : Nat) (x y : Int) (w : World) (h : WkB w kb tb mb L x y 1) (hx : inC x) (hy : inC y) :
    Calls Try.prog 31 #[.pointer (some ⟨kb, 0, none⟩)] w fun e w' => e = .returned (.agg #[.int .i64 x, .int .i64 y, .int .i64 1]) ∧ Below w.heap.size w w' := by
  obtain ⟨ra, ia, rd, id, hb, i1, i2, i3, i4⟩ := h.blk
  have LK := hide' (lt_of_block hb)
  have HB := hide' hb
  obtain ⟨w1, hw1⟩ : ∃ w1, w.alloc (.cells #[.int .i64 0, .int .i64 0, .int .i64 0] 40) = w1 := ⟨_, rfl⟩
  have BB := hide' (show Below w.heap.size w w1 by rw [← hw1]; exact (Below.refl _ _).alloc (Nat.le_refl _) _)
  have g1 : w1.heap[w.heap.size]? = some (.cells #[.int .i64 0, .int .i64 0, .int .i64 0] 40 (0, 0)) := by rw [← hw1]; exact heap_alloc_new _ _
  have HH := hide' (here_any kb tb mb L 1 x y w1 ⟨ra, ia, rd, id, (BB.out.block kb LK.out).trans hb, i1, i2, i3, i4⟩ hx hy)
  have FC := hide' (fun V => facings_any V)
  unfold fcV at FC
  have G1 := hide' g1
  have i3 : IsI rd (1) := i3
  have i4 : IsI id (0) := i4
  have o0 : (FloatKind.f64.format.order 0 rd == some .eq) = false := by rw [IsI_eq IsI_zero i3]; decide
  have o1 : (FloatKind.f64.format.order 4607182418800017408 rd == some .eq) = true := by rw [IsI_eq IsI_one i3]; decide
  have o2 : (FloatKind.f64.format.order 13830554455654793216 rd == some .eq) = false := by rw [IsI_eq IsI_mone i3]; decide
  have p0 : (FloatKind.f64.format.order 0 id == some .eq) = true := by rw [IsI_eq IsI_zero i4]; decide
  have p1 : (FloatKind.f64.format.order 4607182418800017408 id == some .eq) = false := by rw [IsI_eq IsI_one i4]; decide
  have p2 : (FloatKind.f64.format.order 13830554455654793216 id == some .eq) = false := by rw [IsI_eq IsI_mone i4]; decide
  clear h hb i1 i2 i3 i4 g1
  go_enter Try.func31, Try.ntmps31
  go_upto_region 1 with fail
  clear hw1
  go_wp2_with fail
  refine HH.out.mono ?_
  rintro e w2 ⟨rfl, b2⟩
  have z2 := b2.size
  have z1 : w.heap.size < w1.heap.size := lt_of_block G1.out
  obtain ⟨u2, hu2⟩ : ∃ u2, w2.alloc (.cells #[.int .i64 x, .int .i64 y] 95) = u2 := ⟨_, rfl⟩
  have v0 : u2.cell? ⟨w2.heap.size, 0, none⟩ = some (.int .i64 x) := by rw [← hu2]; exact cell_of_row _ _ 0 _ _ _ (heap_alloc_new _ _)
  have v1 : u2.cell? ⟨w2.heap.size, 1, none⟩ = some (.int .i64 y) := by rw [← hu2]; exact cell_of_row _ _ 1 _ _ _ (heap_alloc_new _ _)
  have zu : u2.heap.size = w2.heap.size + 1 := by rw [← hu2]; simp
  have B2 := hide' (show Below w1.heap.size w1 u2 by rw [← hu2]; exact b2.alloc z2 _)
  have G3 := hide' (show (u2.alloc (.cells #[.int .i64 x, .int .i64 y, .int .i64 0] 40)).heap[u2.heap.size]? = some (.cells #[.int .i64 x, .int .i64 y, .int .i64 0] 40 (0, 0)) from heap_alloc_new _ _)
  have B3 := hide' (show Below w1.heap.size w1 (u2.alloc (.cells #[.int .i64 x, .int .i64 y, .int .i64 0] 40)) from B2.out.alloc (by omega) _)
  clear b2
  go_upto_region 2 with fail
  try rw [hu2]
  clear hu2
  have ZU := hide' zu
  clear zu
  go_wp2_with fail
  refine (FC.out _).mono ?_
  clear v0 v1
  rintro e w4 ⟨rfl, b4⟩
  have C4 := hide' (B3.out.trans (b4.mono B3.out.size))
  have BW := hide' (BB.out.trans (C4.out.mono BB.out.size))
  have g4 := (b4.block _ (lt_of_block G3.out)).trans G3.out
  have gk := (BW.out.block kb LK.out).trans HB.out
  have gr := (C4.out.block _ z1).trans G1.out
  have c3 := cell_of_row w4 _ 3 _ _ _ gk
  unfold wkV at c3
  have t0 := cell_of_row w4 _ 0 _ _ _ g4
  have t1 := cell_of_row w4 _ 1 _ _ _ g4
  have t2 := cell_of_row w4 _ 2 _ _ _ g4
  have r0 := cell_of_row w4 _ 0 _ _ _ gr
  have r1 := cell_of_row w4 _ 1 _ _ _ gr
  have r2 := cell_of_row w4 _ 2 _ _ _ gr
  simp at c3 t0 t1 t2 r0 r1 r2
  have ft := frozen_of_row w4 _ 2 _ _ g4
  have lt' := lt_of_block g4
  have fr0 := frozen_of_row w4 _ 0 _ _ gr
  have fr1 := frozen_of_row w4 _ 1 _ _ gr
  have fr2 := frozen_of_row w4 _ 2 _ _ gr
  have lr := lt_of_block gr
  have zu := ZU.out
  have ne1 : ¬ u2.heap.size = w.heap.size := by omega
  have ne2 : ¬ w.heap.size = u2.heap.size := by omega
  have lk := lt_of_block gk
  have nk : ¬ u2.heap.size = kb := by have := LK.out; omega
  have nk2 : ¬ kb = u2.heap.size := by have := LK.out; omega
  have le2 : w.heap.size ≤ u2.heap.size := by omega
  clear g4 gk gr b4 zu
  go_wp2
  have x0 := index_fc0
  have x1 := index_fc1
  have x2 := index_fc2
  have x3 := index_fc3
  refine wp_loop_rounds 5 ?_
  rw [rounds_succ]
  go_wp2
  rw [rounds_succ]
  go_wp2
  rw [rounds_succ]
  go_wp2
  rw [rounds_succ]
  go_wp2
  rw [rounds_succ]
  go_wp2
  refine bodyPost_ret (v := .agg #[.int .i64 x, .int .i64 y, .int .i64 1]) (by simp [results, Try.results31, go_sem, r0, r1, r2]) rfl ?_
  exact ⟨rfl, (((BW.out.setCell (by simpa using le2) _).setCell (by simp) _).setCell (by simp) _).setCell (by simp) _⟩
set_option maxRecDepth 100000 in
set_option maxHeartbeats 6400000 in
theorem walker_2 (kb tb mb L : Nat) (x y : Int) (w : World) (h : WkB w kb tb mb L x y 2) (hx : inC x) (hy : inC y) :
    Calls Try.prog 31 #[.pointer (some ⟨kb, 0, none⟩)] w fun e w' => e = .returned (.agg #[.int .i64 x, .int .i64 y, .int .i64 2]) ∧ Below w.heap.size w w' := by
  obtain ⟨ra, ia, rd, id, hb, i1, i2, i3, i4⟩ := h.blk
  have LK := hide' (lt_of_block hb)
  have HB := hide' hb
  obtain ⟨w1, hw1⟩ : ∃ w1, w.alloc (.cells #[.int .i64 0, .int .i64 0, .int .i64 0] 40) = w1 := ⟨_, rfl⟩
  have BB := hide' (show Below w.heap.size w w1 by rw [← hw1]; exact (Below.refl _ _).alloc (Nat.le_refl _) _)
  have g1 : w1.heap[w.heap.size]? = some (.cells #[.int .i64 0, .int .i64 0, .int .i64 0] 40 (0, 0)) := by rw [← hw1]; exact heap_alloc_new _ _
  have HH := hide' (here_any kb tb mb L 2 x y w1 ⟨ra, ia, rd, id, (BB.out.block kb LK.out).trans hb, i1, i2, i3, i4⟩ hx hy)
  have FC := hide' (fun V => facings_any V)
  unfold fcV at FC
  have G1 := hide' g1
  have i3 : IsI rd (0) := i3
  have i4 : IsI id (-1) := i4
  have o0 : (FloatKind.f64.format.order 0 rd == some .eq) = true := by rw [IsI_eq IsI_zero i3]; decide
  have o1 : (FloatKind.f64.format.order 4607182418800017408 rd == some .eq) = false := by rw [IsI_eq IsI_one i3]; decide
  have o2 : (FloatKind.f64.format.order 13830554455654793216 rd == some .eq) = false := by rw [IsI_eq IsI_mone i3]; decide
  have p0 : (FloatKind.f64.format.order 0 id == some .eq) = false := by rw [IsI_eq IsI_zero i4]; decide
  have p1 : (FloatKind.f64.format.order 4607182418800017408 id == some .eq) = false := by rw [IsI_eq IsI_one i4]; decide
  have p2 : (FloatKind.f64.format.order 13830554455654793216 id == some .eq) = true := by rw [IsI_eq IsI_mone i4]; decide
  clear h hb i1 i2 i3 i4 g1
  go_enter Try.func31, Try.ntmps31
  go_upto_region 1 with fail
  clear hw1
  go_wp2_with fail
  refine HH.out.mono ?_
  rintro e w2 ⟨rfl, b2⟩
  have z2 := b2.size
  have z1 : w.heap.size < w1.heap.size := lt_of_block G1.out
  obtain ⟨u2, hu2⟩ : ∃ u2, w2.alloc (.cells #[.int .i64 x, .int .i64 y] 95) = u2 := ⟨_, rfl⟩
  have v0 : u2.cell? ⟨w2.heap.size, 0, none⟩ = some (.int .i64 x) := by rw [← hu2]; exact cell_of_row _ _ 0 _ _ _ (heap_alloc_new _ _)
  have v1 : u2.cell? ⟨w2.heap.size, 1, none⟩ = some (.int .i64 y) := by rw [← hu2]; exact cell_of_row _ _ 1 _ _ _ (heap_alloc_new _ _)
  have zu : u2.heap.size = w2.heap.size + 1 := by rw [← hu2]; simp
  have B2 := hide' (show Below w1.heap.size w1 u2 by rw [← hu2]; exact b2.alloc z2 _)
  have G3 := hide' (show (u2.alloc (.cells #[.int .i64 x, .int .i64 y, .int .i64 0] 40)).heap[u2.heap.size]? = some (.cells #[.int .i64 x, .int .i64 y, .int .i64 0] 40 (0, 0)) from heap_alloc_new _ _)
  have B3 := hide' (show Below w1.heap.size w1 (u2.alloc (.cells #[.int .i64 x, .int .i64 y, .int .i64 0] 40)) from B2.out.alloc (by omega) _)
  clear b2
  go_upto_region 2 with fail
  try rw [hu2]
  clear hu2
  have ZU := hide' zu
  clear zu
  go_wp2_with fail
  refine (FC.out _).mono ?_
  clear v0 v1
  rintro e w4 ⟨rfl, b4⟩
  have C4 := hide' (B3.out.trans (b4.mono B3.out.size))
  have BW := hide' (BB.out.trans (C4.out.mono BB.out.size))
  have g4 := (b4.block _ (lt_of_block G3.out)).trans G3.out
  have gk := (BW.out.block kb LK.out).trans HB.out
  have gr := (C4.out.block _ z1).trans G1.out
  have c3 := cell_of_row w4 _ 3 _ _ _ gk
  unfold wkV at c3
  have t0 := cell_of_row w4 _ 0 _ _ _ g4
  have t1 := cell_of_row w4 _ 1 _ _ _ g4
  have t2 := cell_of_row w4 _ 2 _ _ _ g4
  have r0 := cell_of_row w4 _ 0 _ _ _ gr
  have r1 := cell_of_row w4 _ 1 _ _ _ gr
  have r2 := cell_of_row w4 _ 2 _ _ _ gr
  simp at c3 t0 t1 t2 r0 r1 r2
  have ft := frozen_of_row w4 _ 2 _ _ g4
  have lt' := lt_of_block g4
  have fr0 := frozen_of_row w4 _ 0 _ _ gr
  have fr1 := frozen_of_row w4 _ 1 _ _ gr
  have fr2 := frozen_of_row w4 _ 2 _ _ gr
  have lr := lt_of_block gr
  have zu := ZU.out
  have ne1 : ¬ u2.heap.size = w.heap.size := by omega
  have ne2 : ¬ w.heap.size = u2.heap.size := by omega
  have lk := lt_of_block gk
  have nk : ¬ u2.heap.size = kb := by have := LK.out; omega
  have nk2 : ¬ kb = u2.heap.size := by have := LK.out; omega
  have le2 : w.heap.size ≤ u2.heap.size := by omega
  clear g4 gk gr b4 zu
  go_wp2
  have x0 := index_fc0
  have x1 := index_fc1
  have x2 := index_fc2
  have x3 := index_fc3
  refine wp_loop_rounds 5 ?_
  rw [rounds_succ]
  go_wp2
  rw [rounds_succ]
  go_wp2
  rw [rounds_succ]
  go_wp2
  rw [rounds_succ]
  go_wp2
  rw [rounds_succ]
  go_wp2
  refine bodyPost_ret (v := .agg #[.int .i64 x, .int .i64 y, .int .i64 2]) (by simp [results, Try.results31, go_sem, r0, r1, r2]) rfl ?_
  exact ⟨rfl, (((BW.out.setCell (by simpa using le2) _).setCell (by simp) _).setCell (by simp) _).setCell (by simp) _⟩
set_option maxRecDepth 100000 in
set_option maxHeartbeats 6400000 in
theorem walker_3 (kb tb mb L : Nat) (x y : Int) (w : World) (h : WkB w kb tb mb L x y 3) (hx : inC x) (hy : inC y) :
    Calls Try.prog 31 #[.pointer (some ⟨kb, 0, none⟩)] w fun e w' => e = .returned (.agg #[.int .i64 x, .int .i64 y, .int .i64 3]) ∧ Below w.heap.size w w' := by
  obtain ⟨ra, ia, rd, id, hb, i1, i2, i3, i4⟩ := h.blk
  have LK := hide' (lt_of_block hb)
  have HB := hide' hb
  obtain ⟨w1, hw1⟩ : ∃ w1, w.alloc (.cells #[.int .i64 0, .int .i64 0, .int .i64 0] 40) = w1 := ⟨_, rfl⟩
  have BB := hide' (show Below w.heap.size w w1 by rw [← hw1]; exact (Below.refl _ _).alloc (Nat.le_refl _) _)
  have g1 : w1.heap[w.heap.size]? = some (.cells #[.int .i64 0, .int .i64 0, .int .i64 0] 40 (0, 0)) := by rw [← hw1]; exact heap_alloc_new _ _
  have HH := hide' (here_any kb tb mb L 3 x y w1 ⟨ra, ia, rd, id, (BB.out.block kb LK.out).trans hb, i1, i2, i3, i4⟩ hx hy)
  have FC := hide' (fun V => facings_any V)
  unfold fcV at FC
  have G1 := hide' g1
  have i3 : IsI rd (-1) := i3
  have i4 : IsI id (0) := i4
  have o0 : (FloatKind.f64.format.order 0 rd == some .eq) = false := by rw [IsI_eq IsI_zero i3]; decide
  have o1 : (FloatKind.f64.format.order 4607182418800017408 rd == some .eq) = false := by rw [IsI_eq IsI_one i3]; decide
  have o2 : (FloatKind.f64.format.order 13830554455654793216 rd == some .eq) = true := by rw [IsI_eq IsI_mone i3]; decide
  have p0 : (FloatKind.f64.format.order 0 id == some .eq) = true := by rw [IsI_eq IsI_zero i4]; decide
  have p1 : (FloatKind.f64.format.order 4607182418800017408 id == some .eq) = false := by rw [IsI_eq IsI_one i4]; decide
  have p2 : (FloatKind.f64.format.order 13830554455654793216 id == some .eq) = false := by rw [IsI_eq IsI_mone i4]; decide
  clear h hb i1 i2 i3 i4 g1
  go_enter Try.func31, Try.ntmps31
  go_upto_region 1 with fail
  clear hw1
  go_wp2_with fail
  refine HH.out.mono ?_
  rintro e w2 ⟨rfl, b2⟩
  have z2 := b2.size
  have z1 : w.heap.size < w1.heap.size := lt_of_block G1.out
  obtain ⟨u2, hu2⟩ : ∃ u2, w2.alloc (.cells #[.int .i64 x, .int .i64 y] 95) = u2 := ⟨_, rfl⟩
  have v0 : u2.cell? ⟨w2.heap.size, 0, none⟩ = some (.int .i64 x) := by rw [← hu2]; exact cell_of_row _ _ 0 _ _ _ (heap_alloc_new _ _)
  have v1 : u2.cell? ⟨w2.heap.size, 1, none⟩ = some (.int .i64 y) := by rw [← hu2]; exact cell_of_row _ _ 1 _ _ _ (heap_alloc_new _ _)
  have zu : u2.heap.size = w2.heap.size + 1 := by rw [← hu2]; simp
  have B2 := hide' (show Below w1.heap.size w1 u2 by rw [← hu2]; exact b2.alloc z2 _)
  have G3 := hide' (show (u2.alloc (.cells #[.int .i64 x, .int .i64 y, .int .i64 0] 40)).heap[u2.heap.size]? = some (.cells #[.int .i64 x, .int .i64 y, .int .i64 0] 40 (0, 0)) from heap_alloc_new _ _)
  have B3 := hide' (show Below w1.heap.size w1 (u2.alloc (.cells #[.int .i64 x, .int .i64 y, .int .i64 0] 40)) from B2.out.alloc (by omega) _)
  clear b2
  go_upto_region 2 with fail
  try rw [hu2]
  clear hu2
  have ZU := hide' zu
  clear zu
  go_wp2_with fail
  refine (FC.out _).mono ?_
  clear v0 v1
  rintro e w4 ⟨rfl, b4⟩
  have C4 := hide' (B3.out.trans (b4.mono B3.out.size))
  have BW := hide' (BB.out.trans (C4.out.mono BB.out.size))
  have g4 := (b4.block _ (lt_of_block G3.out)).trans G3.out
  have gk := (BW.out.block kb LK.out).trans HB.out
  have gr := (C4.out.block _ z1).trans G1.out
  have c3 := cell_of_row w4 _ 3 _ _ _ gk
  unfold wkV at c3
  have t0 := cell_of_row w4 _ 0 _ _ _ g4
  have t1 := cell_of_row w4 _ 1 _ _ _ g4
  have t2 := cell_of_row w4 _ 2 _ _ _ g4
  have r0 := cell_of_row w4 _ 0 _ _ _ gr
  have r1 := cell_of_row w4 _ 1 _ _ _ gr
  have r2 := cell_of_row w4 _ 2 _ _ _ gr
  simp at c3 t0 t1 t2 r0 r1 r2
  have ft := frozen_of_row w4 _ 2 _ _ g4
  have lt' := lt_of_block g4
  have fr0 := frozen_of_row w4 _ 0 _ _ gr
  have fr1 := frozen_of_row w4 _ 1 _ _ gr
  have fr2 := frozen_of_row w4 _ 2 _ _ gr
  have lr := lt_of_block gr
  have zu := ZU.out
  have ne1 : ¬ u2.heap.size = w.heap.size := by omega
  have ne2 : ¬ w.heap.size = u2.heap.size := by omega
  have lk := lt_of_block gk
  have nk : ¬ u2.heap.size = kb := by have := LK.out; omega
  have nk2 : ¬ kb = u2.heap.size := by have := LK.out; omega
  have le2 : w.heap.size ≤ u2.heap.size := by omega
  clear g4 gk gr b4 zu
  go_wp2
  have x0 := index_fc0
  have x1 := index_fc1
  have x2 := index_fc2
  have x3 := index_fc3
  refine wp_loop_rounds 5 ?_
  rw [rounds_succ]
  go_wp2
  rw [rounds_succ]
  go_wp2
  rw [rounds_succ]
  go_wp2
  rw [rounds_succ]
  go_wp2
  rw [rounds_succ]
  go_wp2
  refine bodyPost_ret (v := .agg #[.int .i64 x, .int .i64 y, .int .i64 3]) (by simp [results, Try.results31, go_sem, r0, r1, r2]) rfl ?_
  exact ⟨rfl, (((BW.out.setCell (by simpa using le2) _).setCell (by simp) _).setCell (by simp) _).setCell (by simp) _⟩
theorem walker_any (kb tb mb L d : Nat) (x y : Int) (w : World) (h : WkB w kb tb mb L x y d) (hd : d < 4) (hx : inC x) (hy : inC y) :
    Calls Try.prog 31 #[.pointer (some ⟨kb, 0, none⟩)] w fun e w' => e = .returned (.agg #[.int .i64 x, .int .i64 y, .int .i64 (d : Int)]) ∧ Below w.heap.size w w' := by
  rcases (by omega : d = 0 ∨ d = 1 ∨ d = 2 ∨ d = 3) with rfl | rfl | rfl | rfl
  · exact walker_0 kb tb mb L x y w h hx hy
  · exact walker_1 kb tb mb L x y w h hx hy
  · exact walker_2 kb tb mb L x y w h hx hy
  · exact walker_3 kb tb mb L x y w h hx hy
end Go.Proofs.Ytbkllhlapdmlfaa

namespace Go.Proofs.Ytbkllhlapdmlfaa
open Go.RowKit
set_option linter.unusedVariables false
end Go.Proofs.Ytbkllhlapdmlfaa

namespace Go.Proofs.Ytbkllhlapdmlfaa
open Go.RowKit
set_option linter.unusedVariables false
end Go.Proofs.Ytbkllhlapdmlfaa

namespace Go.Proofs.Ytbkllhlapdmlfaa
open Go.RowKit
set_option linter.unusedVariables false
def re4 : Nat → Int | 0 => 1 | 1 => 0 | 2 => -1 | 3 => 0 | _ => 0
def im4 : Nat → Int | 0 => 0 | 1 => 1 | 2 => 0 | 3 => -1 | _ => 0
def re6 : Nat → Int | 0 => 1 | 1 => 0 | 2 => -1 | 3 => -1 | 4 => 0 | 5 => 1 | _ => 0
def im6 : Nat → Int | 0 => 0 | 1 => 1 | 2 => 1 | 3 => 0 | 4 => -1 | 5 => -1 | _ => 0
/-- How far a direction goes to the right, and up. -/
def reG (K d : Nat) : Int := if K = 4 then re4 d else re6 d
def imG (K d : Nat) : Int := if K = 4 then im4 d else im6 d
/-- The directions as they lie. -/
def DI (w : World) (g K : Nat) : Prop := ∀ d, d < K → w.cell? ⟨g, d, none⟩ = some (.complex .f64 (fI (reG K d)) (fI (imG K d)))
theorem DI.block {w w' : World} {g K : Nat} (h : DI w g K) (e : w'.heap[g]? = w.heap[g]?) : DI w' g K := fun d hd => (World.cell?_of_block (w := w) (a := ⟨g, d, none⟩) e).trans (h d hd)
end Go.Proofs.Ytbkllhlapdmlfaa

namespace Go.Proofs.Ytbkllhlapdmlfaa
open Go.RowKit
set_option linter.unusedVariables false
end Go.Proofs.Ytbkllhlapdmlfaa

namespace Go.Proofs.Ytbkllhlapdmlfaa
open Go.RowKit
set_option linter.unusedVariables false
end Go.Proofs.Ytbkllhlapdmlfaa

namespace Go.Proofs.Ytbkllhlapdmlfaa
open Go.RowKit
set_option linter.unusedVariables false
def u8F (f : Nat → Nat) (k : Nat) : Value := .int .u8 (f k : Int)
/-- Cells that lie in bytes at a block's head. -/
def CU (w : World) (g n : Nat) (f : Nat → Nat) : Prop := w.heap[g]? = some (.cells (arrF n (u8F f)) 65 (0, 0))
theorem CU.cell {w : World} {g n : Nat} {f : Nat → Nat} (h : CU w g n f) {k : Nat} (hk : k < n) : w.cell? ⟨g, k, none⟩ = some (.int .u8 (f k : Int)) := by
  rw [cell_of_row w _ _ _ _ _ h, arrF_get _ hk]; rfl
theorem CU.lt {w : World} {g n : Nat} {f : Nat → Nat} (h : CU w g n f) : g < w.heap.size := lt_of_block h
theorem CU.block {w w' : World} {g n : Nat} {f : Nat → Nat} (h : CU w g n f) (e : w'.heap[g]? = w.heap[g]?) : CU w' g n f := e.trans h
end Go.Proofs.Ytbkllhlapdmlfaa

namespace Go.Proofs.Ytbkllhlapdmlfaa
open Go.RowKit
set_option linter.unusedVariables false
end Go.Proofs.Ytbkllhlapdmlfaa

