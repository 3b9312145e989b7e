/-
  What the last text of this claim leans on, part 10: LawPp2.
-/
import Derived.Test.YtfdbgkdbmlmigaaDoorZp8
namespace Go.Proofs.YtfdbgkdbmlmigaaDoor
open Go.RowKit
set_option linter.unusedVariables false
set_option maxRecDepth 100000 in
set_option maxHeartbeats 6400000 in
theorem law_pp_yes (o : Out) (ta : Option Addr) (tn tc : Nat) (W H : Int) (xs : List Int) (a : Option Addr) (n c : Nat) (f : Nat) (w : World) (hR : ArgR w o ta tn tc) (hP : ArgP w xs a n c) (hg : Handle w) (hf : plaE o W H xs f) (f0 : f = 0) (h5 : ¬ 5 < W) (g5 : ¬ 5 < H)
    (qW qH : Int) (ys : List Int) (hy : ys.length ≤ maxLen)
    (rg : ∀ V, Below w.heap.size w V → Calls Tryd.prog 5 #[.agg #[.int .i64 o.kind, .int .i64 o.born, .int .i64 o.stay, .int .i64 o.states, .int .i64 o.radius, .slice ta tn tc, .string o.turns], .agg #[.int .i64 W, .int .i64 H, .slice a n c]] V (RefP qW qH true ys V))
    (pg : ∀ V, Below w.heap.size w V → Calls Tryd.prog 6 #[.agg #[.int .i64 o.kind, .int .i64 o.born, .int .i64 o.stay, .int .i64 o.states, .int .i64 o.radius, .slice ta tn tc, .string o.turns], .agg #[.int .i64 W, .int .i64 H, .slice a n c]] V (PlaP qW qH 0 ys V)) :
    Calls Tryd.prog 3 #[.agg #[.int .i64 o.kind, .int .i64 o.born, .int .i64 o.stay, .int .i64 o.states, .int .i64 o.radius, .slice ta tn tc, .string o.turns], .agg #[.int .i64 W, .int .i64 H, .slice a n c]] w fun e w' => e = .returned (.bool true) ∧ Below w.heap.size w w' := by
  obtain ⟨w1, hw1⟩ : ∃ w1, (w.alloc (.cells #[.int .i64 o.kind, .int .i64 o.born, .int .i64 o.stay, .int .i64 o.states, .int .i64 o.radius, .slice ta tn tc, .string o.turns] 24)).alloc (.cells #[.int .i64 W, .int .i64 H, .slice a n c] 26) = w1 := ⟨_, rfl⟩
  have BB := hide' (show Below w.heap.size w w1 by rw [← hw1]; exact ((Below.refl _ _).alloc (Nat.le_refl _) _).alloc (by simp) _)
  have g0 : w1.heap[w.heap.size]? = some (.cells #[.int .i64 o.kind, .int .i64 o.born, .int .i64 o.stay, .int .i64 o.states, .int .i64 o.radius, .slice ta tn tc, .string o.turns] 24 (0, 0)) := by rw [← hw1, Below.heap_alloc _ _ _ (by simp; try omega)]; exact heap_atP _ _ _ (by simp)
  have g1 : w1.heap[w.heap.size + 1]? = some (.cells #[.int .i64 W, .int .i64 H, .slice a n c] 26 (0, 0)) := by rw [← hw1]; exact heap_atP _ _ _ (by simp)
  have HG := hide' (fun (V : World) (h : Below w1.heap.size w1 V) => hg.below (BB.out.trans (h.mono BB.out.size)))
  have FC := hide' (fun (V : World) (h : Below w1.heap.size w1 V) => show Calls Tryd.prog 4 #[.agg #[.int .i64 o.kind, .int .i64 o.born, .int .i64 o.stay, .int .i64 o.states, .int .i64 o.radius, .slice ta tn tc, .string o.turns], .agg #[.int .i64 W, .int .i64 H, .slice a n c]] V (fun e w' => e = .returned (.int .i64 0) ∧ Below V.heap.size V w') from by
    refine (refPlaneFault_any o ta tn tc W H xs a n c V (hR.below (BB.out.trans (h.mono BB.out.size))) (hP.below (BB.out.trans (h.mono BB.out.size)))).mono ?_
    rintro e w' ⟨⟨f', hf', rfl⟩, b⟩
    rw [plaE_only hf' hf, f0]
    exact ⟨rfl, b⟩)
  have RG := hide' (fun (V : World) (h : Below w1.heap.size w1 V) => rg V (BB.out.trans (h.mono BB.out.size)))
  have LY := hide' hy
  have PGC := hide' (fun (V : World) (h : Below w1.heap.size w1 V) => pg V (BB.out.trans (h.mono BB.out.size)))
  have SV := hide' (fun (V : World) (h : Below w1.heap.size w1 V) => show V.cell? ⟨w.heap.size, 0, none⟩ = some (.int .i64 o.kind) ∧ V.cell? ⟨w.heap.size, 1, none⟩ = some (.int .i64 o.born) ∧ V.cell? ⟨w.heap.size, 2, none⟩ = some (.int .i64 o.stay) ∧ V.cell? ⟨w.heap.size, 3, none⟩ = some (.int .i64 o.states) ∧ V.cell? ⟨w.heap.size, 4, none⟩ = some (.int .i64 o.radius) ∧ V.cell? ⟨w.heap.size, 5, none⟩ = some (.slice ta tn tc) ∧ V.cell? ⟨w.heap.size, 6, none⟩ = some (.string o.turns) ∧ V.cell? ⟨w.heap.size + 1, 0, none⟩ = some (.int .i64 W) ∧ V.cell? ⟨w.heap.size + 1, 1, none⟩ = some (.int .i64 H) ∧ V.cell? ⟨w.heap.size + 1, 2, none⟩ = some (.slice a n c) from by
    have e0 := (h.block _ (lt_of_block g0)).trans g0
    have e1 := (h.block _ (lt_of_block g1)).trans g1
    exact ⟨cell_of_row V _ 0 _ _ _ e0, cell_of_row V _ 1 _ _ _ e0, cell_of_row V _ 2 _ _ _ e0, cell_of_row V _ 3 _ _ _ e0, cell_of_row V _ 4 _ _ _ e0, cell_of_row V _ 5 _ _ _ e0, cell_of_row V _ 6 _ _ _ e0, cell_of_row V _ 0 _ _ _ e1, cell_of_row V _ 1 _ _ _ e1, cell_of_row V _ 2 _ _ _ e1⟩)
  have C0 := hide' (Below.refl w1.heap.size w1)
  have l1 := lt_of_block g1
  obtain ⟨x0, x1, x2, x3, x4, x5, x6, y0, y1, y2⟩ := SV.out w1 C0.out
  clear hR hP hg hf g0 g1 f0 pg rg hy
  go_enter Tryd.func3, Tryd.ntmps3
  go_wp2_with fail
  refine (FC.out w1 C0.out).mono ?_
  rintro e w2 ⟨rfl, b⟩
  have C1 := hide' (C0.out.trans (b.mono C0.out.size))
  clear hw1 b x0 x1 x2 x3 x4 x5 x6 y0 y1 y2 C0
  obtain ⟨-, -, -, -, -, -, -, z0, z1, -⟩ := SV.out _ C1.out
  have C2 := hide' (C1.out.alloc C1.out.size (.cells #[.int .i64 0, .int .i64 0, .slice none 0 0] 26))
  have GN := hide' (heap_atP w2 (.cells #[.int .i64 0, .int .i64 0, .slice none 0 0] 26) _ rfl)
  have s2 := C1.out.size
  obtain ⟨x0, x1, x2, x3, x4, x5, x6, y0, y1, y2⟩ := SV.out _ C2.out
  go_wp2_with fail
  refine (RG.out _ C2.out).mono ?_
  rintro e w3 ⟨v, rfl, tv, fv, b⟩
  obtain ⟨va, ca, rfl, -⟩ := tv.parts
  obtain ⟨yl, hyl⟩ : ∃ yl, ys.length = yl := ⟨_, rfl⟩
  rw [hyl] at tv fv ⊢
  have gm := (b.block _ (lt_of_block GN.out)).trans GN.out
  clear GN
  have lb := lt_of_block gm
  have GN := hide' (three_rowP gm (.int .i64 qW) (.int .i64 qH) (.slice va yl ca))
  have T7 := hide' (tab_stored tv w2.heap.size (.int .i64 qW) (.int .i64 qH) (.slice va yl ca) lb (fun g k cap h => by have := fv g k cap h; simp at this; omega))
  have K3 := hide' (C2.out.trans (b.mono C2.out.size))
  have C3 := hide' (below_stored K3.out w2.heap.size s2 (.int .i64 qW) (.int .i64 qH) (.slice va yl ca))
  have f0 := frozen_of_row w3 _ 0 _ _ gm
  have f1 := frozen_of_row w3 _ 1 _ _ gm
  have f2 := frozen_of_row w3 _ 2 _ _ gm
  have r0 := cell_of_row w3 _ 0 _ _ _ gm
  have r1 := cell_of_row w3 _ 1 _ _ _ gm
  have r2 := cell_of_row w3 _ 2 _ _ _ gm
  simp at r0 r1 r2
  clear b x0 x1 x2 x3 x4 x5 x6 y0 y1 y2 tv fv gm C2 z0 z1
  obtain ⟨x0, x1, x2, x3, x4, x5, x6, y0, y1, y2⟩ := SV.out _ K3.out
  have ne1 : ¬ w.heap.size = w2.heap.size := by omega
  have ne2 : ¬ w2.heap.size = w.heap.size := by omega
  have ne3 : ¬ w.heap.size + 1 = w2.heap.size := by omega
  have ne4 : ¬ w2.heap.size = w.heap.size + 1 := by omega
  go_wp2_with fail
  obtain ⟨X, hX⟩ : ∃ X, ((w3.setCell ⟨w2.heap.size, 0, none⟩ (.int .i64 qW)).setCell ⟨w2.heap.size, 1, none⟩ (.int .i64 qH)).setCell ⟨w2.heap.size, 2, none⟩ (.slice va yl ca) = X := ⟨_, rfl⟩
  rw [hX] at C3 GN T7 ⊢
  refine (PGC.out _ C3.out).mono ?_
  rintro e w4 ⟨vc, rfl, tc', b⟩
  obtain ⟨vv, vd, rfl, -⟩ := tc'.parts
  rw [hyl] at tc' ⊢
  have D0 := hide' (C3.out.trans (b.mono C3.out.size))
  have GM := hide' ((b.block _ (lt_of_block GN.out)).trans GN.out)
  have T8 := hide' (tab_below T7.out b)
  have U8 := hide' tc'
  clear hX b x0 x1 x2 x3 x4 x5 x6 y0 y1 y2 C3 GN T7 tc' f0 f1 f2 r0 r1 r2 K3 ne1 ne2 ne3 ne4
  have Q1 := hide' (heap_atP w4 (.cells #[.int .i64 qW, .int .i64 qH, .slice vv yl vd] 26) _ rfl)
  have D1 := hide' (D0.out.alloc D0.out.size (.cells #[.int .i64 qW, .int .i64 qH, .slice vv yl vd] 26))
  have GK := hide' ((Below.heap_alloc w4 (.cells #[.int .i64 qW, .int .i64 qH, .slice vv yl vd] 26) _ (lt_of_block GM.out)).trans GM.out)
  have T9 := hide' (T8.out.alloc' (.cells #[.int .i64 qW, .int .i64 qH, .slice vv yl vd] 26))
  have U9 := hide' (U8.out.alloc' (.cells #[.int .i64 qW, .int .i64 qH, .slice vv yl vd] 26))
  go_wp2_with fail
  refine (errSameC_any 0 _ (HG.out _ D1.out)).mono ?_
  rintro e w5 ⟨rfl, b⟩
  have D2 := hide' (D1.out.trans (b.mono D1.out.size))
  have GL := hide' ((b.block _ (lt_of_block GK.out)).trans GK.out)
  have QL := hide' ((b.block _ (lt_of_block Q1.out)).trans Q1.out)
  have TA := hide' (tab_below T9.out b)
  have UA := hide' (tab_below U9.out b)
  clear b D1 Q1 D0 GM GK T8 U8 T9 U9
  have r0 := cell_of_row w5 _ 0 _ _ _ GL.out
  have r1 := cell_of_row w5 _ 1 _ _ _ GL.out
  have r2 := cell_of_row w5 _ 2 _ _ _ GL.out
  have q0 := cell_of_row w5 _ 0 _ _ _ QL.out
  have q1 := cell_of_row w5 _ 1 _ _ _ QL.out
  have q2 := cell_of_row w5 _ 2 _ _ _ QL.out
  simp at r0 r1 r2 q0 q1 q2
  go_wp2_with fail
  refine (Alike_same qW qH (.slice vv yl vd) (.slice va yl ca) ys _ UA.out TA.out LY.out).mono ?_
  rintro e w6 ⟨rfl, b⟩
  have D3 := hide' (D2.out.trans (b.mono D2.out.size))
  clear b D2 GL QL q0 q1 q2 r0 r1 r2 TA UA
  go_wp2
  go_ret
  exact ⟨rfl, BB.out.trans (D3.out.mono BB.out.size)⟩
set_option maxRecDepth 100000 in
set_option maxHeartbeats 6400000 in
theorem law_pp_no (o : Out) (ta : Option Addr) (tn tc : Nat) (W H : Int) (xs : List Int) (a : Option Addr) (n c : Nat) (f : Nat) (w : World) (hR : ArgR w o ta tn tc) (hP : ArgP w xs a n c) (hg : Handle w) (hf : plaE o W H xs f) (f0 : f = 0) (h5 : ¬ 5 < W) (g5 : ¬ 5 < H)
    (qW qH : Int) (ys : List Int) (hy : ys.length ≤ maxLen)
    (rg : ∀ V, Below w.heap.size w V → Calls Tryd.prog 5 #[.agg #[.int .i64 o.kind, .int .i64 o.born, .int .i64 o.stay, .int .i64 o.states, .int .i64 o.radius, .slice ta tn tc, .string o.turns], .agg #[.int .i64 W, .int .i64 H, .slice a n c]] V (RefP qW qH false ys V))
    (pg : ∀ V, Below w.heap.size w V → Calls Tryd.prog 6 #[.agg #[.int .i64 o.kind, .int .i64 o.born, .int .i64 o.stay, .int .i64 o.states, .int .i64 o.radius, .slice ta tn tc, .string o.turns], .agg #[.int .i64 W, .int .i64 H, .slice a n c]] V (PlaP qW qH 5 ys V)) :
    Calls Tryd.prog 3 #[.agg #[.int .i64 o.kind, .int .i64 o.born, .int .i64 o.stay, .int .i64 o.states, .int .i64 o.radius, .slice ta tn tc, .string o.turns], .agg #[.int .i64 W, .int .i64 H, .slice a n c]] w fun e w' => e = .returned (.bool true) ∧ Below w.heap.size w w' := by
  obtain ⟨w1, hw1⟩ : ∃ w1, (w.alloc (.cells #[.int .i64 o.kind, .int .i64 o.born, .int .i64 o.stay, .int .i64 o.states, .int .i64 o.radius, .slice ta tn tc, .string o.turns] 24)).alloc (.cells #[.int .i64 W, .int .i64 H, .slice a n c] 26) = w1 := ⟨_, rfl⟩
  have BB := hide' (show Below w.heap.size w w1 by rw [← hw1]; exact ((Below.refl _ _).alloc (Nat.le_refl _) _).alloc (by simp) _)
  have g0 : w1.heap[w.heap.size]? = some (.cells #[.int .i64 o.kind, .int .i64 o.born, .int .i64 o.stay, .int .i64 o.states, .int .i64 o.radius, .slice ta tn tc, .string o.turns] 24 (0, 0)) := by rw [← hw1, Below.heap_alloc _ _ _ (by simp; try omega)]; exact heap_atP _ _ _ (by simp)
  have g1 : w1.heap[w.heap.size + 1]? = some (.cells #[.int .i64 W, .int .i64 H, .slice a n c] 26 (0, 0)) := by rw [← hw1]; exact heap_atP _ _ _ (by simp)
  have HG := hide' (fun (V : World) (h : Below w1.heap.size w1 V) => hg.below (BB.out.trans (h.mono BB.out.size)))
  have FC := hide' (fun (V : World) (h : Below w1.heap.size w1 V) => show Calls Tryd.prog 4 #[.agg #[.int .i64 o.kind, .int .i64 o.born, .int .i64 o.stay, .int .i64 o.states, .int .i64 o.radius, .slice ta tn tc, .string o.turns], .agg #[.int .i64 W, .int .i64 H, .slice a n c]] V (fun e w' => e = .returned (.int .i64 0) ∧ Below V.heap.size V w') from by
    refine (refPlaneFault_any o ta tn tc W H xs a n c V (hR.below (BB.out.trans (h.mono BB.out.size))) (hP.below (BB.out.trans (h.mono BB.out.size)))).mono ?_
    rintro e w' ⟨⟨f', hf', rfl⟩, b⟩
    rw [plaE_only hf' hf, f0]
    exact ⟨rfl, b⟩)
  have RG := hide' (fun (V : World) (h : Below w1.heap.size w1 V) => rg V (BB.out.trans (h.mono BB.out.size)))
  have LY := hide' hy
  have PGC := hide' (fun (V : World) (h : Below w1.heap.size w1 V) => pg V (BB.out.trans (h.mono BB.out.size)))
  have SV := hide' (fun (V : World) (h : Below w1.heap.size w1 V) => show V.cell? ⟨w.heap.size, 0, none⟩ = some (.int .i64 o.kind) ∧ V.cell? ⟨w.heap.size, 1, none⟩ = some (.int .i64 o.born) ∧ V.cell? ⟨w.heap.size, 2, none⟩ = some (.int .i64 o.stay) ∧ V.cell? ⟨w.heap.size, 3, none⟩ = some (.int .i64 o.states) ∧ V.cell? ⟨w.heap.size, 4, none⟩ = some (.int .i64 o.radius) ∧ V.cell? ⟨w.heap.size, 5, none⟩ = some (.slice ta tn tc) ∧ V.cell? ⟨w.heap.size, 6, none⟩ = some (.string o.turns) ∧ V.cell? ⟨w.heap.size + 1, 0, none⟩ = some (.int .i64 W) ∧ V.cell? ⟨w.heap.size + 1, 1, none⟩ = some (.int .i64 H) ∧ V.cell? ⟨w.heap.size + 1, 2, none⟩ = some (.slice a n c) from by
    have e0 := (h.block _ (lt_of_block g0)).trans g0
    have e1 := (h.block _ (lt_of_block g1)).trans g1
    exact ⟨cell_of_row V _ 0 _ _ _ e0, cell_of_row V _ 1 _ _ _ e0, cell_of_row V _ 2 _ _ _ e0, cell_of_row V _ 3 _ _ _ e0, cell_of_row V _ 4 _ _ _ e0, cell_of_row V _ 5 _ _ _ e0, cell_of_row V _ 6 _ _ _ e0, cell_of_row V _ 0 _ _ _ e1, cell_of_row V _ 1 _ _ _ e1, cell_of_row V _ 2 _ _ _ e1⟩)
  have C0 := hide' (Below.refl w1.heap.size w1)
  have l1 := lt_of_block g1
  obtain ⟨x0, x1, x2, x3, x4, x5, x6, y0, y1, y2⟩ := SV.out w1 C0.out
  clear hR hP hg hf g0 g1 f0 pg rg hy
  go_enter Tryd.func3, Tryd.ntmps3
  go_wp2_with fail
  refine (FC.out w1 C0.out).mono ?_
  rintro e w2 ⟨rfl, b⟩
  have C1 := hide' (C0.out.trans (b.mono C0.out.size))
  clear hw1 b x0 x1 x2 x3 x4 x5 x6 y0 y1 y2 C0
  obtain ⟨-, -, -, -, -, -, -, z0, z1, -⟩ := SV.out _ C1.out
  have C2 := hide' (C1.out.alloc C1.out.size (.cells #[.int .i64 0, .int .i64 0, .slice none 0 0] 26))
  have GN := hide' (heap_atP w2 (.cells #[.int .i64 0, .int .i64 0, .slice none 0 0] 26) _ rfl)
  have s2 := C1.out.size
  obtain ⟨x0, x1, x2, x3, x4, x5, x6, y0, y1, y2⟩ := SV.out _ C2.out
  go_wp2_with fail
  refine (RG.out _ C2.out).mono ?_
  rintro e w3 ⟨v, rfl, tv, fv, b⟩
  obtain ⟨va, ca, rfl, -⟩ := tv.parts
  obtain ⟨yl, hyl⟩ : ∃ yl, ys.length = yl := ⟨_, rfl⟩
  rw [hyl] at tv fv ⊢
  have gm := (b.block _ (lt_of_block GN.out)).trans GN.out
  clear GN
  have lb := lt_of_block gm
  have GN := hide' (three_rowP gm (.int .i64 qW) (.int .i64 qH) (.slice va yl ca))
  have T7 := hide' (tab_stored tv w2.heap.size (.int .i64 qW) (.int .i64 qH) (.slice va yl ca) lb (fun g k cap h => by have := fv g k cap h; simp at this; omega))
  have K3 := hide' (C2.out.trans (b.mono C2.out.size))
  have C3 := hide' (below_stored K3.out w2.heap.size s2 (.int .i64 qW) (.int .i64 qH) (.slice va yl ca))
  have f0 := frozen_of_row w3 _ 0 _ _ gm
  have f1 := frozen_of_row w3 _ 1 _ _ gm
  have f2 := frozen_of_row w3 _ 2 _ _ gm
  have r0 := cell_of_row w3 _ 0 _ _ _ gm
  have r1 := cell_of_row w3 _ 1 _ _ _ gm
  have r2 := cell_of_row w3 _ 2 _ _ _ gm
  simp at r0 r1 r2
  clear b x0 x1 x2 x3 x4 x5 x6 y0 y1 y2 tv fv gm C2 z0 z1
  obtain ⟨x0, x1, x2, x3, x4, x5, x6, y0, y1, y2⟩ := SV.out _ K3.out
  have ne1 : ¬ w.heap.size = w2.heap.size := by omega
  have ne2 : ¬ w2.heap.size = w.heap.size := by omega
  have ne3 : ¬ w.heap.size + 1 = w2.heap.size := by omega
  have ne4 : ¬ w2.heap.size = w.heap.size + 1 := by omega
  go_wp2_with fail
  obtain ⟨X, hX⟩ : ∃ X, ((w3.setCell ⟨w2.heap.size, 0, none⟩ (.int .i64 qW)).setCell ⟨w2.heap.size, 1, none⟩ (.int .i64 qH)).setCell ⟨w2.heap.size, 2, none⟩ (.slice va yl ca) = X := ⟨_, rfl⟩
  rw [hX] at C3 GN T7 ⊢
  refine (PGC.out _ C3.out).mono ?_
  rintro e w4 ⟨vc, rfl, tc', b⟩
  obtain ⟨vv, vd, rfl, -⟩ := tc'.parts
  rw [hyl] at tc' ⊢
  have D0 := hide' (C3.out.trans (b.mono C3.out.size))
  have GM := hide' ((b.block _ (lt_of_block GN.out)).trans GN.out)
  have T8 := hide' (tab_below T7.out b)
  have U8 := hide' tc'
  clear hX b x0 x1 x2 x3 x4 x5 x6 y0 y1 y2 C3 GN T7 tc' f0 f1 f2 r0 r1 r2 K3 ne1 ne2 ne3 ne4
  have Q1 := hide' (heap_atP w4 (.cells #[.int .i64 qW, .int .i64 qH, .slice vv yl vd] 26) _ rfl)
  have D1 := hide' (D0.out.alloc D0.out.size (.cells #[.int .i64 qW, .int .i64 qH, .slice vv yl vd] 26))
  have GK := hide' ((Below.heap_alloc w4 (.cells #[.int .i64 qW, .int .i64 qH, .slice vv yl vd] 26) _ (lt_of_block GM.out)).trans GM.out)
  have T9 := hide' (T8.out.alloc' (.cells #[.int .i64 qW, .int .i64 qH, .slice vv yl vd] 26))
  have U9 := hide' (U8.out.alloc' (.cells #[.int .i64 qW, .int .i64 qH, .slice vv yl vd] 26))
  go_wp2_with fail
  refine (errSameC_any 5 _ (HG.out _ D1.out)).mono ?_
  rintro e w5 ⟨rfl, b⟩
  have D2 := hide' (D1.out.trans (b.mono D1.out.size))
  have GL := hide' ((b.block _ (lt_of_block GK.out)).trans GK.out)
  have QL := hide' ((b.block _ (lt_of_block Q1.out)).trans Q1.out)
  have TA := hide' (tab_below T9.out b)
  have UA := hide' (tab_below U9.out b)
  clear b D1 Q1 D0 GM GK T8 U8 T9 U9
  have r0 := cell_of_row w5 _ 0 _ _ _ GL.out
  have r1 := cell_of_row w5 _ 1 _ _ _ GL.out
  have r2 := cell_of_row w5 _ 2 _ _ _ GL.out
  have q0 := cell_of_row w5 _ 0 _ _ _ QL.out
  have q1 := cell_of_row w5 _ 1 _ _ _ QL.out
  have q2 := cell_of_row w5 _ 2 _ _ _ QL.out
  simp at r0 r1 r2 q0 q1 q2
  go_wp2_with fail
  refine (Alike_same qW qH (.slice vv yl vd) (.slice va yl ca) ys _ UA.out TA.out LY.out).mono ?_
  rintro e w6 ⟨rfl, b⟩
  have D3 := hide' (D2.out.trans (b.mono D2.out.size))
  clear b D2 GL QL q0 q1 q2 r0 r1 r2 TA UA
  go_wp2
  go_ret
  exact ⟨rfl, BB.out.trans (D3.out.mono BB.out.size)⟩
end Go.Proofs.YtfdbgkdbmlmigaaDoor

