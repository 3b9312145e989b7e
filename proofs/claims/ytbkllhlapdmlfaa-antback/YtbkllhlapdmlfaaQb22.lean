/-
  What the last text of this claim leans on, part 22: Ab6, Gc1.
-/
import Derived.Test.YtbkllhlapdmlfaaQb21
import Derived.Test.YtbkllhlapdmlfaaQb12
namespace Go.Proofs.Ytbkllhlapdmlfaa
open Go.RowKit
set_option linter.unusedVariables false
theorem index_fc0 (w : World) : (Instr.index 96 (.agg #[.complex .f64 0 4607182418800017408, .complex .f64 4607182418800017408 0, .complex .f64 0 13830554455654793216, .complex .f64 13830554455654793216 0]) (.int .i64 0)).run Try.prog w = .ok (.complex .f64 0 4607182418800017408) w := by kernel_rfl
theorem index_fc1 (w : World) : (Instr.index 96 (.agg #[.complex .f64 0 4607182418800017408, .complex .f64 4607182418800017408 0, .complex .f64 0 13830554455654793216, .complex .f64 13830554455654793216 0]) (.int .i64 1)).run Try.prog w = .ok (.complex .f64 4607182418800017408 0) w := by kernel_rfl
theorem index_fc2 (w : World) : (Instr.index 96 (.agg #[.complex .f64 0 4607182418800017408, .complex .f64 4607182418800017408 0, .complex .f64 0 13830554455654793216, .complex .f64 13830554455654793216 0]) (.int .i64 2)).run Try.prog w = .ok (.complex .f64 0 13830554455654793216) w := by kernel_rfl
theorem index_fc3 (w : World) : (Instr.index 96 (.agg #[.complex .f64 0 4607182418800017408, .complex .f64 4607182418800017408 0, .complex .f64 0 13830554455654793216, .complex .f64 13830554455654793216 0]) (.int .i64 3)).run Try.prog w = .ok (.complex .f64 13830554455654793216 0) w := by kernel_rfl
set_option maxRecDepth 100000 in
set_option maxHeartbeats 6400000 in
theorem walker_0 (kb tb mb L : Nat) (x y : Int) (w : World) (h : WkB w kb tb mb L x y 0) (hx : inC x) (hy : inC y) :
    Calls Try.prog 31 #[.pointer (some ⟨kb, 0, none⟩)] w fun e w' => e = .returned (.agg #[.int .i64 x, .int .i64 y, .int .i64 0]) ∧ Below w.heap.size w w' := by
  obtain ⟨ra, ia, rd, id, hb, i1, i2, i3, i4⟩ := h.blk
  have LK := hide' (lt_of_block hb)
  have HB := hide' hb
  obtain ⟨w1, hw1⟩ : ∃ w1, w.alloc (.cells #[.int .i64 0, .int .i64 0, .int .i64 0] 40) = w1 := ⟨_, rfl⟩
  have BB := hide' (show Below w.heap.size w w1 by rw [← hw1]; exact (Below.refl _ _).alloc (Nat.le_refl _) _)
  have g1 : w1.heap[w.heap.size]? = some (.cells #[.int .i64 0, .int .i64 0, .int .i64 0] 40 (0, 0)) := by rw [← hw1]; exact heap_alloc_new _ _
  have HH := hide' (here_any kb tb mb L 0 x y w1 ⟨ra, ia, rd, id, (BB.out.block kb LK.out).trans hb, i1, i2, i3, i4⟩ hx hy)
  have FC := hide' (fun V => facings_any V)
  unfold fcV at FC
  have G1 := hide' g1
  have i3 : IsI rd (0) := i3
  have i4 : IsI id (1) := i4
  have o0 : (FloatKind.f64.format.order 0 rd == some .eq) = true := by rw [IsI_eq IsI_zero i3]; decide
  have o1 : (FloatKind.f64.format.order 4607182418800017408 rd == some .eq) = false := by rw [IsI_eq IsI_one i3]; decide
  have o2 : (FloatKind.f64.format.order 13830554455654793216 rd == some .eq) = false := by rw [IsI_eq IsI_mone i3]; decide
  have p0 : (FloatKind.f64.format.order 0 id == some .eq) = false := by rw [IsI_eq IsI_zero i4]; decide
  have p1 : (FloatKind.f64.format.order 4607182418800017408 id == some .eq) = true := by rw [IsI_eq IsI_one i4]; decide
  have p2 : (FloatKind.f64.format.order 13830554455654793216 id == some .eq) = false := by rw [IsI_eq IsI_mone i4]; decide
  clear h hb i1 i2 i3 i4 g1
  go_enter Try.func31, Try.ntmps31
  go_upto_region 1 with fail
  clear hw1
  go_wp2_with fail
  refine HH.out.mono ?_
  rintro e w2 ⟨rfl, b2⟩
  have z2 := b2.size
  have z1 : w.heap.size < w1.heap.size := lt_of_block G1.out
  obtain ⟨u2, hu2⟩ : ∃ u2, w2.alloc (.cells #[.int .i64 x, .int .i64 y] 95) = u2 := ⟨_, rfl⟩
  have v0 : u2.cell? ⟨w2.heap.size, 0, none⟩ = some (.int .i64 x) := by rw [← hu2]; exact cell_of_row _ _ 0 _ _ _ (heap_alloc_new _ _)
  have v1 : u2.cell? ⟨w2.heap.size, 1, none⟩ = some (.int .i64 y) := by rw [← hu2]; exact cell_of_row _ _ 1 _ _ _ (heap_alloc_new _ _)
  have zu : u2.heap.size = w2.heap.size + 1 := by rw [← hu2]; simp
  have B2 := hide' (show Below w1.heap.size w1 u2 by rw [← hu2]; exact b2.alloc z2 _)
  have G3 := hide' (show (u2.alloc (.cells #[.int .i64 x, .int .i64 y, .int .i64 0] 40)).heap[u2.heap.size]? = some (.cells #[.int .i64 x, .int .i64 y, .int .i64 0] 40 (0, 0)) from heap_alloc_new _ _)
  have B3 := hide' (show Below w1.heap.size w1 (u2.alloc (.cells #[.int .i64 x, .int .i64 y, .int .i64 0] 40)) from B2.out.alloc (by omega) _)
  clear b2
  go_upto_region 2 with fail
  try rw [hu2]
  clear hu2
  have ZU := hide' zu
  clear zu
  go_wp2_with fail
  refine (FC.out _).mono ?_
  clear v0 v1
  rintro e w4 ⟨rfl, b4⟩
  have C4 := hide' (B3.out.trans (b4.mono B3.out.size))
  have BW := hide' (BB.out.trans (C4.out.mono BB.out.size))
  have g4 := (b4.block _ (lt_of_block G3.out)).trans G3.out
  have gk := (BW.out.block kb LK.out).trans HB.out
  have gr := (C4.out.block _ z1).trans G1.out
  have c3 := cell_of_row w4 _ 3 _ _ _ gk
  unfold wkV at c3
  have t0 := cell_of_row w4 _ 0 _ _ _ g4
  have t1 := cell_of_row w4 _ 1 _ _ _ g4
  have t2 := cell_of_row w4 _ 2 _ _ _ g4
  have r0 := cell_of_row w4 _ 0 _ _ _ gr
  have r1 := cell_of_row w4 _ 1 _ _ _ gr
  have r2 := cell_of_row w4 _ 2 _ _ _ gr
  simp at c3 t0 t1 t2 r0 r1 r2
  have ft := frozen_of_row w4 _ 2 _ _ g4
  have lt' := lt_of_block g4
  have fr0 := frozen_of_row w4 _ 0 _ _ gr
  have fr1 := frozen_of_row w4 _ 1 _ _ gr
  have fr2 := frozen_of_row w4 _ 2 _ _ gr
  have lr := lt_of_block gr
  have zu := ZU.out
  have ne1 : ¬ u2.heap.size = w.heap.size := by omega
  have ne2 : ¬ w.heap.size = u2.heap.size := by omega
  have lk := lt_of_block gk
  have nk : ¬ u2.heap.size = kb := by have := LK.out; omega
  have nk2 : ¬ kb = u2.heap.size := by have := LK.out; omega
  have le2 : w.heap.size ≤ u2.heap.size := by omega
  clear g4 gk gr b4 zu
  go_wp2
  have x0 := index_fc0
  have x1 := index_fc1
  have x2 := index_fc2
  have x3 := index_fc3
  refine wp_loop_rounds 5 ?_
  rw [rounds_succ]
  go_wp2
  rw [rounds_succ]
  go_wp2
  rw [rounds_succ]
  go_wp2
  rw [rounds_succ]
  go_wp2
  rw [rounds_succ]
  go_wp2
  refine bodyPost_ret (v := .agg #[.int .i64 x, .int .i64 y, .int .i64 0]) (by simp [results, Try.results31, go_sem, r0, r1, r2]) rfl ?_
  exact ⟨rfl, (((BW.out.setCell (by simpa using le2) _).setCell (by simp) _).setCell (by simp) _).setCell (by simp) _⟩
set_option maxRecDepth 100000 in
set_option maxHeartbeats 6400000 in
theorem walker_1 (kb tb mb L : Nat) (x y : Int) (w : World) (h : WkB w kb tb mb L x y 1) (hx : inC x) (hy : inC y) :
    Calls Try.prog 31 #[.pointer (some ⟨kb, 0, none⟩)] w fun e w' => e = .returned (.agg #[.int .i64 x, .int .i64 y, .int .i64 1]) ∧ Below w.heap.size w w' := by
  obtain ⟨ra, ia, rd, id, hb, i1, i2, i3, i4⟩ := h.blk
  have LK := hide' (lt_of_block hb)
  have HB := hide' hb
  obtain ⟨w1, hw1⟩ : ∃ w1, w.alloc (.cells #[.int .i64 0, .int .i64 0, .int .i64 0] 40) = w1 := ⟨_, rfl⟩
  have BB := hide' (show Below w.heap.size w w1 by rw [← hw1]; exact (Below.refl _ _).alloc (Nat.le_refl _) _)
  have g1 : w1.heap[w.heap.size]? = some (.cells #[.int .i64 0, .int .i64 0, .int .i64 0] 40 (0, 0)) := by rw [← hw1]; exact heap_alloc_new _ _
  have HH := hide' (here_any kb tb mb L 1 x y w1 ⟨ra, ia, rd, id, (BB.out.block kb LK.out).trans hb, i1, i2, i3, i4⟩ hx hy)
  have FC := hide' (fun V => facings_any V)
  unfold fcV at FC
  have G1 := hide' g1
  have i3 : IsI rd (1) := i3
  have i4 : IsI id (0) := i4
  have o0 : (FloatKind.f64.format.order 0 rd == some .eq) = false := by rw [IsI_eq IsI_zero i3]; decide
  have o1 : (FloatKind.f64.format.order 4607182418800017408 rd == some .eq) = true := by rw [IsI_eq IsI_one i3]; decide
  have o2 : (FloatKind.f64.format.order 13830554455654793216 rd == some .eq) = false := by rw [IsI_eq IsI_mone i3]; decide
  have p0 : (FloatKind.f64.format.order 0 id == some .eq) = true := by rw [IsI_eq IsI_zero i4]; decide
  have p1 : (FloatKind.f64.format.order 4607182418800017408 id == some .eq) = false := by rw [IsI_eq IsI_one i4]; decide
  have p2 : (FloatKind.f64.format.order 13830554455654793216 id == some .eq) = false := by rw [IsI_eq IsI_mone i4]; decide
  clear h hb i1 i2 i3 i4 g1
  go_enter Try.func31, Try.ntmps31
  go_upto_region 1 with fail
  clear hw1
  go_wp2_with fail
  refine HH.out.mono ?_
  rintro e w2 ⟨rfl, b2⟩
  have z2 := b2.size
  have z1 : w.heap.size < w1.heap.size := lt_of_block G1.out
  obtain ⟨u2, hu2⟩ : ∃ u2, w2.alloc (.cells #[.int .i64 x, .int .i64 y] 95) = u2 := ⟨_, rfl⟩
  have v0 : u2.cell? ⟨w2.heap.size, 0, none⟩ = some (.int .i64 x) := by rw [← hu2]; exact cell_of_row _ _ 0 _ _ _ (heap_alloc_new _ _)
  have v1 : u2.cell? ⟨w2.heap.size, 1, none⟩ = some (.int .i64 y) := by rw [← hu2]; exact cell_of_row _ _ 1 _ _ _ (heap_alloc_new _ _)
  have zu : u2.heap.size = w2.heap.size + 1 := by rw [← hu2]; simp
  have B2 := hide' (show Below w1.heap.size w1 u2 by rw [← hu2]; exact b2.alloc z2 _)
  have G3 := hide' (show (u2.alloc (.cells #[.int .i64 x, .int .i64 y, .int .i64 0] 40)).heap[u2.heap.size]? = some (.cells #[.int .i64 x, .int .i64 y, .int .i64 0] 40 (0, 0)) from heap_alloc_new _ _)
  have B3 := hide' (show Below w1.heap.size w1 (u2.alloc (.cells #[.int .i64 x, .int .i64 y, .int .i64 0] 40)) from B2.out.alloc (by omega) _)
  clear b2
  go_upto_region 2 with fail
  try rw [hu2]
  clear hu2
  have ZU := hide' zu
  clear zu
  go_wp2_with fail
  refine (FC.out _).mono ?_
  clear v0 v1
  rintro e w4 ⟨rfl, b4⟩
  have C4 := hide' (B3.out.trans (b4.mono B3.out.size))
  have BW := hide' (BB.out.trans (C4.out.mono BB.out.size))
  have g4 := (b4.block _ (lt_of_block G3.out)).trans G3.out
  have gk := (BW.out.block kb LK.out).trans HB.out
  have gr := (C4.out.block _ z1).trans G1.out
  have c3 := cell_of_row w4 _ 3 _ _ _ gk
  unfold wkV at c3
  have t0 := cell_of_row w4 _ 0 _ _ _ g4
  have t1 := cell_of_row w4 _ 1 _ _ _ g4
  have t2 := cell_of_row w4 _ 2 _ _ _ g4
  have r0 := cell_of_row w4 _ 0 _ _ _ gr
  have r1 := cell_of_row w4 _ 1 _ _ _ gr
  have r2 := cell_of_row w4 _ 2 _ _ _ gr
  simp at c3 t0 t1 t2 r0 r1 r2
  have ft := frozen_of_row w4 _ 2 _ _ g4
  have lt' := lt_of_block g4
  have fr0 := frozen_of_row w4 _ 0 _ _ gr
  have fr1 := frozen_of_row w4 _ 1 _ _ gr
  have fr2 := frozen_of_row w4 _ 2 _ _ gr
  have lr := lt_of_block gr
  have zu := ZU.out
  have ne1 : ¬ u2.heap.size = w.heap.size := by omega
  have ne2 : ¬ w.heap.size = u2.heap.size := by omega
  have lk := lt_of_block gk
  have nk : ¬ u2.heap.size = kb := by have := LK.out; omega
  have nk2 : ¬ kb = u2.heap.size := by have := LK.out; omega
  have le2 : w.heap.size ≤ u2.heap.size := by omega
  clear g4 gk gr b4 zu
  go_wp2
  have x0 := index_fc0
  have x1 := index_fc1
  have x2 := index_fc2
  have x3 := index_fc3
  refine wp_loop_rounds 5 ?_
  rw [rounds_succ]
  go_wp2
  rw [rounds_succ]
  go_wp2
  rw [rounds_succ]
  go_wp2
  rw [rounds_succ]
  go_wp2
  rw [rounds_succ]
  go_wp2
  refine bodyPost_ret (v := .agg #[.int .i64 x, .int .i64 y, .int .i64 1]) (by simp [results, Try.results31, go_sem, r0, r1, r2]) rfl ?_
  exact ⟨rfl, (((BW.out.setCell (by simpa using le2) _).setCell (by simp) _).setCell (by simp) _).setCell (by simp) _⟩
set_option maxRecDepth 100000 in
set_option maxHeartbeats 6400000 in
theorem walker_2 (kb tb mb L : Nat) (x y : Int) (w : World) (h : WkB w kb tb mb L x y 2) (hx : inC x) (hy : inC y) :
    Calls Try.prog 31 #[.pointer (some ⟨kb, 0, none⟩)] w fun e w' => e = .returned (.agg #[.int .i64 x, .int .i64 y, .int .i64 2]) ∧ Below w.heap.size w w' := by
  obtain ⟨ra, ia, rd, id, hb, i1, i2, i3, i4⟩ := h.blk
  have LK := hide' (lt_of_block hb)
  have HB := hide' hb
  obtain ⟨w1, hw1⟩ : ∃ w1, w.alloc (.cells #[.int .i64 0, .int .i64 0, .int .i64 0] 40) = w1 := ⟨_, rfl⟩
  have BB := hide' (show Below w.heap.size w w1 by rw [← hw1]; exact (Below.refl _ _).alloc (Nat.le_refl _) _)
  have g1 : w1.heap[w.heap.size]? = some (.cells #[.int .i64 0, .int .i64 0, .int .i64 0] 40 (0, 0)) := by rw [← hw1]; exact heap_alloc_new _ _
  have HH := hide' (here_any kb tb mb L 2 x y w1 ⟨ra, ia, rd, id, (BB.out.block kb LK.out).trans hb, i1, i2, i3, i4⟩ hx hy)
  have FC := hide' (fun V => facings_any V)
  unfold fcV at FC
  have G1 := hide' g1
  have i3 : IsI rd (0) := i3
  have i4 : IsI id (-1) := i4
  have o0 : (FloatKind.f64.format.order 0 rd == some .eq) = true := by rw [IsI_eq IsI_zero i3]; decide
  have o1 : (FloatKind.f64.format.order 4607182418800017408 rd == some .eq) = false := by rw [IsI_eq IsI_one i3]; decide
  have o2 : (FloatKind.f64.format.order 13830554455654793216 rd == some .eq) = false := by rw [IsI_eq IsI_mone i3]; decide
  have p0 : (FloatKind.f64.format.order 0 id == some .eq) = false := by rw [IsI_eq IsI_zero i4]; decide
  have p1 : (FloatKind.f64.format.order 4607182418800017408 id == some .eq) = false := by rw [IsI_eq IsI_one i4]; decide
  have p2 : (FloatKind.f64.format.order 13830554455654793216 id == some .eq) = true := by rw [IsI_eq IsI_mone i4]; decide
  clear h hb i1 i2 i3 i4 g1
  go_enter Try.func31, Try.ntmps31
  go_upto_region 1 with fail
  clear hw1
  go_wp2_with fail
  refine HH.out.mono ?_
  rintro e w2 ⟨rfl, b2⟩
  have z2 := b2.size
  have z1 : w.heap.size < w1.heap.size := lt_of_block G1.out
  obtain ⟨u2, hu2⟩ : ∃ u2, w2.alloc (.cells #[.int .i64 x, .int .i64 y] 95) = u2 := ⟨_, rfl⟩
  have v0 : u2.cell? ⟨w2.heap.size, 0, none⟩ = some (.int .i64 x) := by rw [← hu2]; exact cell_of_row _ _ 0 _ _ _ (heap_alloc_new _ _)
  have v1 : u2.cell? ⟨w2.heap.size, 1, none⟩ = some (.int .i64 y) := by rw [← hu2]; exact cell_of_row _ _ 1 _ _ _ (heap_alloc_new _ _)
  have zu : u2.heap.size = w2.heap.size + 1 := by rw [← hu2]; simp
  have B2 := hide' (show Below w1.heap.size w1 u2 by rw [← hu2]; exact b2.alloc z2 _)
  have G3 := hide' (show (u2.alloc (.cells #[.int .i64 x, .int .i64 y, .int .i64 0] 40)).heap[u2.heap.size]? = some (.cells #[.int .i64 x, .int .i64 y, .int .i64 0] 40 (0, 0)) from heap_alloc_new _ _)
  have B3 := hide' (show Below w1.heap.size w1 (u2.alloc (.cells #[.int .i64 x, .int .i64 y, .int .i64 0] 40)) from B2.out.alloc (by omega) _)
  clear b2
  go_upto_region 2 with fail
  try rw [hu2]
  clear hu2
  have ZU := hide' zu
  clear zu
  go_wp2_with fail
  refine (FC.out _).mono ?_
  clear v0 v1
  rintro e w4 ⟨rfl, b4⟩
  have C4 := hide' (B3.out.trans (b4.mono B3.out.size))
  have BW := hide' (BB.out.trans (C4.out.mono BB.out.size))
  have g4 := (b4.block _ (lt_of_block G3.out)).trans G3.out
  have gk := (BW.out.block kb LK.out).trans HB.out
  have gr := (C4.out.block _ z1).trans G1.out
  have c3 := cell_of_row w4 _ 3 _ _ _ gk
  unfold wkV at c3
  have t0 := cell_of_row w4 _ 0 _ _ _ g4
  have t1 := cell_of_row w4 _ 1 _ _ _ g4
  have t2 := cell_of_row w4 _ 2 _ _ _ g4
  have r0 := cell_of_row w4 _ 0 _ _ _ gr
  have r1 := cell_of_row w4 _ 1 _ _ _ gr
  have r2 := cell_of_row w4 _ 2 _ _ _ gr
  simp at c3 t0 t1 t2 r0 r1 r2
  have ft := frozen_of_row w4 _ 2 _ _ g4
  have lt' := lt_of_block g4
  have fr0 := frozen_of_row w4 _ 0 _ _ gr
  have fr1 := frozen_of_row w4 _ 1 _ _ gr
  have fr2 := frozen_of_row w4 _ 2 _ _ gr
  have lr := lt_of_block gr
  have zu := ZU.out
  have ne1 : ¬ u2.heap.size = w.heap.size := by omega
  have ne2 : ¬ w.heap.size = u2.heap.size := by omega
  have lk := lt_of_block gk
  have nk : ¬ u2.heap.size = kb := by have := LK.out; omega
  have nk2 : ¬ kb = u2.heap.size := by have := LK.out; omega
  have le2 : w.heap.size ≤ u2.heap.size := by omega
  clear g4 gk gr b4 zu
  go_wp2
  have x0 := index_fc0
  have x1 := index_fc1
  have x2 := index_fc2
  have x3 := index_fc3
  refine wp_loop_rounds 5 ?_
  rw [rounds_succ]
  go_wp2
  rw [rounds_succ]
  go_wp2
  rw [rounds_succ]
  go_wp2
  rw [rounds_succ]
  go_wp2
  rw [rounds_succ]
  go_wp2
  refine bodyPost_ret (v := .agg #[.int .i64 x, .int .i64 y, .int .i64 2]) (by simp [results, Try.results31, go_sem, r0, r1, r2]) rfl ?_
  exact ⟨rfl, (((BW.out.setCell (by simpa using le2) _).setCell (by simp) _).setCell (by simp) _).setCell (by simp) _⟩
set_option maxRecDepth 100000 in
set_option maxHeartbeats 6400000 in
theorem walker_3 (kb tb mb L : Nat) (x y : Int) (w : World) (h : WkB w kb tb mb L x y 3) (hx : inC x) (hy : inC y) :
    Calls Try.prog 31 #[.pointer (some ⟨kb, 0, none⟩)] w fun e w' => e = .returned (.agg #[.int .i64 x, .int .i64 y, .int .i64 3]) ∧ Below w.heap.size w w' := by
  obtain ⟨ra, ia, rd, id, hb, i1, i2, i3, i4⟩ := h.blk
  have LK := hide' (lt_of_block hb)
  have HB := hide' hb
  obtain ⟨w1, hw1⟩ : ∃ w1, w.alloc (.cells #[.int .i64 0, .int .i64 0, .int .i64 0] 40) = w1 := ⟨_, rfl⟩
  have BB := hide' (show Below w.heap.size w w1 by rw [← hw1]; exact (Below.refl _ _).alloc (Nat.le_refl _) _)
  have g1 : w1.heap[w.heap.size]? = some (.cells #[.int .i64 0, .int .i64 0, .int .i64 0] 40 (0, 0)) := by rw [← hw1]; exact heap_alloc_new _ _
  have HH := hide' (here_any kb tb mb L 3 x y w1 ⟨ra, ia, rd, id, (BB.out.block kb LK.out).trans hb, i1, i2, i3, i4⟩ hx hy)
  have FC := hide' (fun V => facings_any V)
  unfold fcV at FC
  have G1 := hide' g1
  have i3 : IsI rd (-1) := i3
  have i4 : IsI id (0) := i4
  have o0 : (FloatKind.f64.format.order 0 rd == some .eq) = false := by rw [IsI_eq IsI_zero i3]; decide
  have o1 : (FloatKind.f64.format.order 4607182418800017408 rd == some .eq) = false := by rw [IsI_eq IsI_one i3]; decide
  have o2 : (FloatKind.f64.format.order 13830554455654793216 rd == some .eq) = true := by rw [IsI_eq IsI_mone i3]; decide
  have p0 : (FloatKind.f64.format.order 0 id == some .eq) = true := by rw [IsI_eq IsI_zero i4]; decide
  have p1 : (FloatKind.f64.format.order 4607182418800017408 id == some .eq) = false := by rw [IsI_eq IsI_one i4]; decide
  have p2 : (FloatKind.f64.format.order 13830554455654793216 id == some .eq) = false := by rw [IsI_eq IsI_mone i4]; decide
  clear h hb i1 i2 i3 i4 g1
  go_enter Try.func31, Try.ntmps31
  go_upto_region 1 with fail
  clear hw1
  go_wp2_with fail
  refine HH.out.mono ?_
  rintro e w2 ⟨rfl, b2⟩
  have z2 := b2.size
  have z1 : w.heap.size < w1.heap.size := lt_of_block G1.out
  obtain ⟨u2, hu2⟩ : ∃ u2, w2.alloc (.cells #[.int .i64 x, .int .i64 y] 95) = u2 := ⟨_, rfl⟩
  have v0 : u2.cell? ⟨w2.heap.size, 0, none⟩ = some (.int .i64 x) := by rw [← hu2]; exact cell_of_row _ _ 0 _ _ _ (heap_alloc_new _ _)
  have v1 : u2.cell? ⟨w2.heap.size, 1, none⟩ = some (.int .i64 y) := by rw [← hu2]; exact cell_of_row _ _ 1 _ _ _ (heap_alloc_new _ _)
  have zu : u2.heap.size = w2.heap.size + 1 := by rw [← hu2]; simp
  have B2 := hide' (show Below w1.heap.size w1 u2 by rw [← hu2]; exact b2.alloc z2 _)
  have G3 := hide' (show (u2.alloc (.cells #[.int .i64 x, .int .i64 y, .int .i64 0] 40)).heap[u2.heap.size]? = some (.cells #[.int .i64 x, .int .i64 y, .int .i64 0] 40 (0, 0)) from heap_alloc_new _ _)
  have B3 := hide' (show Below w1.heap.size w1 (u2.alloc (.cells #[.int .i64 x, .int .i64 y, .int .i64 0] 40)) from B2.out.alloc (by omega) _)
  clear b2
  go_upto_region 2 with fail
  try rw [hu2]
  clear hu2
  have ZU := hide' zu
  clear zu
  go_wp2_with fail
  refine (FC.out _).mono ?_
  clear v0 v1
  rintro e w4 ⟨rfl, b4⟩
  have C4 := hide' (B3.out.trans (b4.mono B3.out.size))
  have BW := hide' (BB.out.trans (C4.out.mono BB.out.size))
  have g4 := (b4.block _ (lt_of_block G3.out)).trans G3.out
  have gk := (BW.out.block kb LK.out).trans HB.out
  have gr := (C4.out.block _ z1).trans G1.out
  have c3 := cell_of_row w4 _ 3 _ _ _ gk
  unfold wkV at c3
  have t0 := cell_of_row w4 _ 0 _ _ _ g4
  have t1 := cell_of_row w4 _ 1 _ _ _ g4
  have t2 := cell_of_row w4 _ 2 _ _ _ g4
  have r0 := cell_of_row w4 _ 0 _ _ _ gr
  have r1 := cell_of_row w4 _ 1 _ _ _ gr
  have r2 := cell_of_row w4 _ 2 _ _ _ gr
  simp at c3 t0 t1 t2 r0 r1 r2
  have ft := frozen_of_row w4 _ 2 _ _ g4
  have lt' := lt_of_block g4
  have fr0 := frozen_of_row w4 _ 0 _ _ gr
  have fr1 := frozen_of_row w4 _ 1 _ _ gr
  have fr2 := frozen_of_row w4 _ 2 _ _ gr
  have lr := lt_of_block gr
  have zu := ZU.out
  have ne1 : ¬ u2.heap.size = w.heap.size := by omega
  have ne2 : ¬ w.heap.size = u2.heap.size := by omega
  have lk := lt_of_block gk
  have nk : ¬ u2.heap.size = kb := by have := LK.out; omega
  have nk2 : ¬ kb = u2.heap.size := by have := LK.out; omega
  have le2 : w.heap.size ≤ u2.heap.size := by omega
  clear g4 gk gr b4 zu
  go_wp2
  have x0 := index_fc0
  have x1 := index_fc1
  have x2 := index_fc2
  have x3 := index_fc3
  refine wp_loop_rounds 5 ?_
  rw [rounds_succ]
  go_wp2
  rw [rounds_succ]
  go_wp2
  rw [rounds_succ]
  go_wp2
  rw [rounds_succ]
  go_wp2
  rw [rounds_succ]
  go_wp2
  refine bodyPost_ret (v := .agg #[.int .i64 x, .int .i64 y, .int .i64 3]) (by simp [results, Try.results31, go_sem, r0, r1, r2]) rfl ?_
  exact ⟨rfl, (((BW.out.setCell (by simpa using le2) _).setCell (by simp) _).setCell (by simp) _).setCell (by simp) _⟩
theorem walker_any (kb tb mb L d : Nat) (x y : Int) (w : World) (h : WkB w kb tb mb L x y d) (hd : d < 4) (hx : inC x) (hy : inC y) :
    Calls Try.prog 31 #[.pointer (some ⟨kb, 0, none⟩)] w fun e w' => e = .returned (.agg #[.int .i64 x, .int .i64 y, .int .i64 (d : Int)]) ∧ Below w.heap.size w w' := by
  rcases (by omega : d = 0 ∨ d = 1 ∨ d = 2 ∨ d = 3) with rfl | rfl | rfl | rfl
  · exact walker_0 kb tb mb L x y w h hx hy
  · exact walker_1 kb tb mb L x y w h hx hy
  · exact walker_2 kb tb mb L x y w h hx hy
  · exact walker_3 kb tb mb L x y w h hx hy
end Go.Proofs.Ytbkllhlapdmlfaa

namespace Go.Proofs.Ytbkllhlapdmlfaa
open Go.RowKit
set_option linter.unusedVariables false
def GasBad (f : Nat) (w : World) (e : Ending) (w' : World) : Prop := e = .returned (.tuple #[.agg #[.int .i64 0, .int .i64 0, .int .i64 0, .slice none 0 0], errOf f]) ∧ Below w.heap.size w w'
set_option maxRecDepth 100000 in
set_option maxHeartbeats 3200000 in
theorem gasRun_bad (K W H : Int) (xs : List Int) (a : Option Addr) (n c : Nat) (cs : List Int) (b' : Option Addr) (m d' : Nat) (k : Int) (w : World) (hP : ArgP w xs a n c) (hC : ArgP w cs b' m d') (h0 : runGE K W H xs cs k ≠ 0) :
    Calls Try.prog 7 #[.agg #[.int .i64 K, .int .i64 W, .int .i64 H, .slice a n c], .slice b' m d', .int .i64 k] w (GasBad (runGE K W H xs cs k) w) := by
  obtain ⟨w1, hw1⟩ : ∃ w1, (w.alloc (.cells #[.int .i64 K, .int .i64 W, .int .i64 H, .slice a n c] 24)).alloc (.cells #[.int .i64 0, .int .i64 0, .int .i64 0, .slice none 0 0] 24) = w1 := ⟨_, rfl⟩
  have BB := hide' (show Below w.heap.size w w1 by rw [← hw1]; exact ((Below.refl _ _).alloc (Nat.le_refl _) _).alloc (by simp) _)
  have g1 : w1.heap[w.heap.size]? = some (.cells #[.int .i64 K, .int .i64 W, .int .i64 H, .slice a n c] 24 (0, 0)) := by rw [← hw1, Below.heap_alloc _ _ _ (by simp)]; exact heap_alloc_new _ _
  have g2 : w1.heap[w.heap.size + 1]? = some (.cells #[.int .i64 0, .int .i64 0, .int .i64 0, .slice none 0 0] 24 (0, 0)) := by rw [← hw1]; exact heap_atX _ _ _ (by simp)
  have s1 : w1.heap.size = w.heap.size + 1 + 1 := by rw [← hw1]; simp
  have c0 := cell_of_row w1 _ 0 _ _ _ g1
  have c1 := cell_of_row w1 _ 1 _ _ _ g1
  have c2 := cell_of_row w1 _ 2 _ _ _ g1
  have c3 := cell_of_row w1 _ 3 _ _ _ g1
  simp at c0 c1 c2 c3
  have CC := hide' (checkRun_G K W H xs a n c cs b' m d' k w1 (hP.below BB.out) (hC.below BB.out))
  have EI := hide' (errOf_posB h0)
  unfold GasBad
  rw [EI.out] at CC ⊢
  have G2 := hide' g2
  clear hP hC h0 g1 g2
  go_enter Try.func7, Try.ntmps7
  go_upto_region 1 with fail
  clear hw1
  go_wp2_with fail
  refine CC.out.mono ?_
  rintro e w2 ⟨rfl, b⟩
  have B2 := hide' (BB.out.trans (b.mono BB.out.size))
  have e2 := (b.block (w.heap.size + 1) (by omega)).trans G2.out
  have r0 := cell_of_row w2 _ 0 _ _ _ e2
  have r1 := cell_of_row w2 _ 1 _ _ _ e2
  have r2 := cell_of_row w2 _ 2 _ _ _ e2
  have r3 := cell_of_row w2 _ 3 _ _ _ e2
  simp at r0 r1 r2 r3
  have f0 := frozen_of_row w2 _ 0 _ _ e2
  have f1 := frozen_of_row w2 _ 1 _ _ e2
  have f2 := frozen_of_row w2 _ 2 _ _ e2
  have f3 := frozen_of_row w2 _ 3 _ _ e2
  have l1 := lt_of_block e2
  clear b c0 c1 c2 c3 e2
  go_wp2
  refine bodyPost_ret (v := .tuple #[.agg #[.int .i64 0, .int .i64 0, .int .i64 0, .slice none 0 0], .iface 74 (.int .i64 ((runGE K W H xs cs k : Nat) : Int))]) (by simp [results, Try.results7, go_sem, r0, r1, r2, r3]) rfl ?_
  exact ⟨rfl, (((B2.out.setCell (by simp) _).setCell (by simp) _).setCell (by simp) _).setCell (by simp) _⟩
end Go.Proofs.Ytbkllhlapdmlfaa

