/-
  What the last text of this claim leans on, part 9: LawPp1.
-/
import Derived.Test.YtfdbgkdbmlmigaaDoorZp8
namespace Go.Proofs.YtfdbgkdbmlmigaaDoor
open Go.RowKit
set_option linter.unusedVariables false
set_option maxRecDepth 100000 in
set_option maxHeartbeats 6400000 in
theorem law_pp_bad (o : Out) (ta : Option Addr) (tn tc : Nat) (W H : Int) (xs : List Int) (a : Option Addr) (n c : Nat) (f : Nat) (w : World) (hR : ArgR w o ta tn tc) (hP : ArgP w xs a n c) (hg : Handle w) (hf : plaE o W H xs f) (f0 : f ≠ 0)
    (pg : ∀ V, Below w.heap.size w V → Calls Tryd.prog 6 #[.agg #[.int .i64 o.kind, .int .i64 o.born, .int .i64 o.stay, .int .i64 o.states, .int .i64 o.radius, .slice ta tn tc, .string o.turns], .agg #[.int .i64 W, .int .i64 H, .slice a n c]] V (PlaP 0 0 f [] V)) :
    Calls Tryd.prog 3 #[.agg #[.int .i64 o.kind, .int .i64 o.born, .int .i64 o.stay, .int .i64 o.states, .int .i64 o.radius, .slice ta tn tc, .string o.turns], .agg #[.int .i64 W, .int .i64 H, .slice a n c]] w fun e w' => e = .returned (.bool true) ∧ Below w.heap.size w w' := by
  obtain ⟨w1, hw1⟩ : ∃ w1, (w.alloc (.cells #[.int .i64 o.kind, .int .i64 o.born, .int .i64 o.stay, .int .i64 o.states, .int .i64 o.radius, .slice ta tn tc, .string o.turns] 24)).alloc (.cells #[.int .i64 W, .int .i64 H, .slice a n c] 26) = w1 := ⟨_, rfl⟩
  have BB := hide' (show Below w.heap.size w w1 by rw [← hw1]; exact ((Below.refl _ _).alloc (Nat.le_refl _) _).alloc (by simp) _)
  have g0 : w1.heap[w.heap.size]? = some (.cells #[.int .i64 o.kind, .int .i64 o.born, .int .i64 o.stay, .int .i64 o.states, .int .i64 o.radius, .slice ta tn tc, .string o.turns] 24 (0, 0)) := by rw [← hw1, Below.heap_alloc _ _ _ (by simp; try omega)]; exact heap_atP _ _ _ (by simp)
  have g1 : w1.heap[w.heap.size + 1]? = some (.cells #[.int .i64 W, .int .i64 H, .slice a n c] 26 (0, 0)) := by rw [← hw1]; exact heap_atP _ _ _ (by simp)
  have HG := hide' (fun (V : World) (h : Below w1.heap.size w1 V) => hg.below (BB.out.trans (h.mono BB.out.size)))
  have FC := hide' (fun (V : World) (h : Below w1.heap.size w1 V) => show Calls Tryd.prog 4 #[.agg #[.int .i64 o.kind, .int .i64 o.born, .int .i64 o.stay, .int .i64 o.states, .int .i64 o.radius, .slice ta tn tc, .string o.turns], .agg #[.int .i64 W, .int .i64 H, .slice a n c]] V (fun e w' => e = .returned (.int .i64 (f : Int)) ∧ Below V.heap.size V w') from by
    refine (refPlaneFault_any o ta tn tc W H xs a n c V (hR.below (BB.out.trans (h.mono BB.out.size))) (hP.below (BB.out.trans (h.mono BB.out.size)))).mono ?_
    rintro e w' ⟨⟨f', hf', rfl⟩, b⟩
    rw [plaE_only hf' hf]
    exact ⟨rfl, b⟩)
  have PGC := hide' (fun (V : World) (h : Below w1.heap.size w1 V) => pg V (BB.out.trans (h.mono BB.out.size)))
  have SV := hide' (fun (V : World) (h : Below w1.heap.size w1 V) => show V.cell? ⟨w.heap.size, 0, none⟩ = some (.int .i64 o.kind) ∧ V.cell? ⟨w.heap.size, 1, none⟩ = some (.int .i64 o.born) ∧ V.cell? ⟨w.heap.size, 2, none⟩ = some (.int .i64 o.stay) ∧ V.cell? ⟨w.heap.size, 3, none⟩ = some (.int .i64 o.states) ∧ V.cell? ⟨w.heap.size, 4, none⟩ = some (.int .i64 o.radius) ∧ V.cell? ⟨w.heap.size, 5, none⟩ = some (.slice ta tn tc) ∧ V.cell? ⟨w.heap.size, 6, none⟩ = some (.string o.turns) ∧ V.cell? ⟨w.heap.size + 1, 0, none⟩ = some (.int .i64 W) ∧ V.cell? ⟨w.heap.size + 1, 1, none⟩ = some (.int .i64 H) ∧ V.cell? ⟨w.heap.size + 1, 2, none⟩ = some (.slice a n c) from by
    have e0 := (h.block _ (lt_of_block g0)).trans g0
    have e1 := (h.block _ (lt_of_block g1)).trans g1
    exact ⟨cell_of_row V _ 0 _ _ _ e0, cell_of_row V _ 1 _ _ _ e0, cell_of_row V _ 2 _ _ _ e0, cell_of_row V _ 3 _ _ _ e0, cell_of_row V _ 4 _ _ _ e0, cell_of_row V _ 5 _ _ _ e0, cell_of_row V _ 6 _ _ _ e0, cell_of_row V _ 0 _ _ _ e1, cell_of_row V _ 1 _ _ _ e1, cell_of_row V _ 2 _ _ _ e1⟩)
  have C0 := hide' (Below.refl w1.heap.size w1)
  have l1 := lt_of_block g1
  obtain ⟨x0, x1, x2, x3, x4, x5, x6, y0, y1, y2⟩ := SV.out w1 C0.out
  have k0 : ((f : Int) == 0) = false := by simp; omega
  have ER := hide' (show errOf f = .iface 45 (.int .i64 (f : Int)) by unfold errOf; rw [if_neg f0])
  clear hR hP hg hf g0 g1 f0 pg
  go_enter Tryd.func3, Tryd.ntmps3
  go_wp2_with fail
  refine (FC.out w1 C0.out).mono ?_
  rintro e w2 ⟨rfl, b⟩
  have C1 := hide' (C0.out.trans (b.mono C0.out.size))
  clear hw1 b x0 x1 x2 x3 x4 x5 x6 y0 y1 y2 C0
  obtain ⟨-, -, -, -, -, -, -, z0, z1, -⟩ := SV.out _ C1.out
  have C2 := hide' (C1.out.alloc C1.out.size (.cells #[.int .i64 0, .int .i64 0, .slice none 0 0] 26))
  have GN := hide' (heap_atP w2 (.cells #[.int .i64 0, .int .i64 0, .slice none 0 0] 26) _ rfl)
  have s2 := C1.out.size
  obtain ⟨x0, x1, x2, x3, x4, x5, x6, y0, y1, y2⟩ := SV.out _ C2.out
  go_wp2_with fail
  obtain ⟨X, hX⟩ : ∃ X, w2.alloc (.cells #[.int .i64 0, .int .i64 0, .slice none 0 0] 26) = X := ⟨_, rfl⟩
  rw [hX] at C2 GN ⊢
  have C3 := hide' C2.out
  have T7 := hide' (tab_nil X)
  refine (PGC.out _ C3.out).mono ?_
  rintro e w4 ⟨vc, rfl, tc', b⟩
  obtain ⟨vv, vd, rfl, -⟩ := tc'.parts
  simp only [List.length_nil] at tc' ⊢
  have D0 := hide' (C3.out.trans (b.mono C3.out.size))
  have GM := hide' ((b.block _ (lt_of_block GN.out)).trans GN.out)
  have T8 := hide' (tab_below T7.out b)
  have U8 := hide' tc'
  clear hX b x0 x1 x2 x3 x4 x5 x6 y0 y1 y2 C3 GN T7 tc' C2 z0 z1
  have Q1 := hide' (heap_atP w4 (.cells #[.int .i64 0, .int .i64 0, .slice vv 0 vd] 26) _ rfl)
  have D1 := hide' (D0.out.alloc D0.out.size (.cells #[.int .i64 0, .int .i64 0, .slice vv 0 vd] 26))
  have GK := hide' ((Below.heap_alloc w4 (.cells #[.int .i64 0, .int .i64 0, .slice vv 0 vd] 26) _ (lt_of_block GM.out)).trans GM.out)
  have T9 := hide' (T8.out.alloc' (.cells #[.int .i64 0, .int .i64 0, .slice vv 0 vd] 26))
  have U9 := hide' (U8.out.alloc' (.cells #[.int .i64 0, .int .i64 0, .slice vv 0 vd] 26))
  go_wp2_with fail
  refine (errSameC_any f _ (HG.out _ D1.out)).mono ?_
  rintro e w5 ⟨rfl, b⟩
  have D2 := hide' (D1.out.trans (b.mono D1.out.size))
  have GL := hide' ((b.block _ (lt_of_block GK.out)).trans GK.out)
  have QL := hide' ((b.block _ (lt_of_block Q1.out)).trans Q1.out)
  have TA := hide' (tab_below T9.out b)
  have UA := hide' (tab_below U9.out b)
  clear b D1 Q1 D0 GM GK T8 U8 T9 U9
  have r0 := cell_of_row w5 _ 0 _ _ _ GL.out
  have r1 := cell_of_row w5 _ 1 _ _ _ GL.out
  have r2 := cell_of_row w5 _ 2 _ _ _ GL.out
  have q0 := cell_of_row w5 _ 0 _ _ _ QL.out
  have q1 := cell_of_row w5 _ 1 _ _ _ QL.out
  have q2 := cell_of_row w5 _ 2 _ _ _ QL.out
  simp at r0 r1 r2 q0 q1 q2
  go_wp2_with fail
  refine (Alike_same 0 0 (.slice vv 0 vd) (.slice none 0 0) [] _ UA.out TA.out (by unfold maxLen; simp)).mono ?_
  rintro e w6 ⟨rfl, b⟩
  have D3 := hide' (D2.out.trans (b.mono D2.out.size))
  clear b D2 GL QL q0 q1 q2 r0 r1 r2 TA UA
  go_wp2
  go_ret
  exact ⟨rfl, BB.out.trans (D3.out.mono BB.out.size)⟩
set_option maxRecDepth 100000 in
set_option maxHeartbeats 6400000 in
theorem law_pp_wideW (o : Out) (ta : Option Addr) (tn tc : Nat) (W H : Int) (xs : List Int) (a : Option Addr) (n c : Nat) (f : Nat) (w : World) (hR : ArgR w o ta tn tc) (hP : ArgP w xs a n c) (hg : Handle w) (hf : plaE o W H xs f) (f0 : f = 0) (h5 : 5 < W)
    (pg : ∀ V, Below w.heap.size w V → Calls Tryd.prog 6 #[.agg #[.int .i64 o.kind, .int .i64 o.born, .int .i64 o.stay, .int .i64 o.states, .int .i64 o.radius, .slice ta tn tc, .string o.turns], .agg #[.int .i64 W, .int .i64 H, .slice a n c]] V (PlaP 0 0 4 [] V)) :
    Calls Tryd.prog 3 #[.agg #[.int .i64 o.kind, .int .i64 o.born, .int .i64 o.stay, .int .i64 o.states, .int .i64 o.radius, .slice ta tn tc, .string o.turns], .agg #[.int .i64 W, .int .i64 H, .slice a n c]] w fun e w' => e = .returned (.bool true) ∧ Below w.heap.size w w' := by
  obtain ⟨w1, hw1⟩ : ∃ w1, (w.alloc (.cells #[.int .i64 o.kind, .int .i64 o.born, .int .i64 o.stay, .int .i64 o.states, .int .i64 o.radius, .slice ta tn tc, .string o.turns] 24)).alloc (.cells #[.int .i64 W, .int .i64 H, .slice a n c] 26) = w1 := ⟨_, rfl⟩
  have BB := hide' (show Below w.heap.size w w1 by rw [← hw1]; exact ((Below.refl _ _).alloc (Nat.le_refl _) _).alloc (by simp) _)
  have g0 : w1.heap[w.heap.size]? = some (.cells #[.int .i64 o.kind, .int .i64 o.born, .int .i64 o.stay, .int .i64 o.states, .int .i64 o.radius, .slice ta tn tc, .string o.turns] 24 (0, 0)) := by rw [← hw1, Below.heap_alloc _ _ _ (by simp; try omega)]; exact heap_atP _ _ _ (by simp)
  have g1 : w1.heap[w.heap.size + 1]? = some (.cells #[.int .i64 W, .int .i64 H, .slice a n c] 26 (0, 0)) := by rw [← hw1]; exact heap_atP _ _ _ (by simp)
  have HG := hide' (fun (V : World) (h : Below w1.heap.size w1 V) => hg.below (BB.out.trans (h.mono BB.out.size)))
  have FC := hide' (fun (V : World) (h : Below w1.heap.size w1 V) => show Calls Tryd.prog 4 #[.agg #[.int .i64 o.kind, .int .i64 o.born, .int .i64 o.stay, .int .i64 o.states, .int .i64 o.radius, .slice ta tn tc, .string o.turns], .agg #[.int .i64 W, .int .i64 H, .slice a n c]] V (fun e w' => e = .returned (.int .i64 0) ∧ Below V.heap.size V w') from by
    refine (refPlaneFault_any o ta tn tc W H xs a n c V (hR.below (BB.out.trans (h.mono BB.out.size))) (hP.below (BB.out.trans (h.mono BB.out.size)))).mono ?_
    rintro e w' ⟨⟨f', hf', rfl⟩, b⟩
    rw [plaE_only hf' hf, f0]
    exact ⟨rfl, b⟩)
  have PGC := hide' (fun (V : World) (h : Below w1.heap.size w1 V) => pg V (BB.out.trans (h.mono BB.out.size)))
  have SV := hide' (fun (V : World) (h : Below w1.heap.size w1 V) => show V.cell? ⟨w.heap.size, 0, none⟩ = some (.int .i64 o.kind) ∧ V.cell? ⟨w.heap.size, 1, none⟩ = some (.int .i64 o.born) ∧ V.cell? ⟨w.heap.size, 2, none⟩ = some (.int .i64 o.stay) ∧ V.cell? ⟨w.heap.size, 3, none⟩ = some (.int .i64 o.states) ∧ V.cell? ⟨w.heap.size, 4, none⟩ = some (.int .i64 o.radius) ∧ V.cell? ⟨w.heap.size, 5, none⟩ = some (.slice ta tn tc) ∧ V.cell? ⟨w.heap.size, 6, none⟩ = some (.string o.turns) ∧ V.cell? ⟨w.heap.size + 1, 0, none⟩ = some (.int .i64 W) ∧ V.cell? ⟨w.heap.size + 1, 1, none⟩ = some (.int .i64 H) ∧ V.cell? ⟨w.heap.size + 1, 2, none⟩ = some (.slice a n c) from by
    have e0 := (h.block _ (lt_of_block g0)).trans g0
    have e1 := (h.block _ (lt_of_block g1)).trans g1
    exact ⟨cell_of_row V _ 0 _ _ _ e0, cell_of_row V _ 1 _ _ _ e0, cell_of_row V _ 2 _ _ _ e0, cell_of_row V _ 3 _ _ _ e0, cell_of_row V _ 4 _ _ _ e0, cell_of_row V _ 5 _ _ _ e0, cell_of_row V _ 6 _ _ _ e0, cell_of_row V _ 0 _ _ _ e1, cell_of_row V _ 1 _ _ _ e1, cell_of_row V _ 2 _ _ _ e1⟩)
  have C0 := hide' (Below.refl w1.heap.size w1)
  have l1 := lt_of_block g1
  obtain ⟨x0, x1, x2, x3, x4, x5, x6, y0, y1, y2⟩ := SV.out w1 C0.out
  clear hR hP hg hf g0 g1 f0 pg
  go_enter Tryd.func3, Tryd.ntmps3
  go_wp2_with fail
  refine (FC.out w1 C0.out).mono ?_
  rintro e w2 ⟨rfl, b⟩
  have C1 := hide' (C0.out.trans (b.mono C0.out.size))
  clear hw1 b x0 x1 x2 x3 x4 x5 x6 y0 y1 y2 C0
  obtain ⟨-, -, -, -, -, -, -, z0, z1, -⟩ := SV.out _ C1.out
  have C2 := hide' (C1.out.alloc C1.out.size (.cells #[.int .i64 0, .int .i64 0, .slice none 0 0] 26))
  have GN := hide' (heap_atP w2 (.cells #[.int .i64 0, .int .i64 0, .slice none 0 0] 26) _ rfl)
  have s2 := C1.out.size
  obtain ⟨x0, x1, x2, x3, x4, x5, x6, y0, y1, y2⟩ := SV.out _ C2.out
  go_wp2_with fail
  obtain ⟨X, hX⟩ : ∃ X, w2.alloc (.cells #[.int .i64 0, .int .i64 0, .slice none 0 0] 26) = X := ⟨_, rfl⟩
  rw [hX] at C2 GN ⊢
  have C3 := hide' C2.out
  have T7 := hide' (tab_nil X)
  refine (PGC.out _ C3.out).mono ?_
  rintro e w4 ⟨vc, rfl, tc', b⟩
  obtain ⟨vv, vd, rfl, -⟩ := tc'.parts
  simp only [List.length_nil] at tc' ⊢
  have D0 := hide' (C3.out.trans (b.mono C3.out.size))
  have GM := hide' ((b.block _ (lt_of_block GN.out)).trans GN.out)
  have T8 := hide' (tab_below T7.out b)
  have U8 := hide' tc'
  clear hX b x0 x1 x2 x3 x4 x5 x6 y0 y1 y2 C3 GN T7 tc' C2 z0 z1
  have Q1 := hide' (heap_atP w4 (.cells #[.int .i64 0, .int .i64 0, .slice vv 0 vd] 26) _ rfl)
  have D1 := hide' (D0.out.alloc D0.out.size (.cells #[.int .i64 0, .int .i64 0, .slice vv 0 vd] 26))
  have GK := hide' ((Below.heap_alloc w4 (.cells #[.int .i64 0, .int .i64 0, .slice vv 0 vd] 26) _ (lt_of_block GM.out)).trans GM.out)
  have T9 := hide' (T8.out.alloc' (.cells #[.int .i64 0, .int .i64 0, .slice vv 0 vd] 26))
  have U9 := hide' (U8.out.alloc' (.cells #[.int .i64 0, .int .i64 0, .slice vv 0 vd] 26))
  go_wp2_with fail
  refine (errSameC_any 4 _ (HG.out _ D1.out)).mono ?_
  rintro e w5 ⟨rfl, b⟩
  have D2 := hide' (D1.out.trans (b.mono D1.out.size))
  have GL := hide' ((b.block _ (lt_of_block GK.out)).trans GK.out)
  have QL := hide' ((b.block _ (lt_of_block Q1.out)).trans Q1.out)
  have TA := hide' (tab_below T9.out b)
  have UA := hide' (tab_below U9.out b)
  clear b D1 Q1 D0 GM GK T8 U8 T9 U9
  have r0 := cell_of_row w5 _ 0 _ _ _ GL.out
  have r1 := cell_of_row w5 _ 1 _ _ _ GL.out
  have r2 := cell_of_row w5 _ 2 _ _ _ GL.out
  have q0 := cell_of_row w5 _ 0 _ _ _ QL.out
  have q1 := cell_of_row w5 _ 1 _ _ _ QL.out
  have q2 := cell_of_row w5 _ 2 _ _ _ QL.out
  simp at r0 r1 r2 q0 q1 q2
  go_wp2_with fail
  refine (Alike_same 0 0 (.slice vv 0 vd) (.slice none 0 0) [] _ UA.out TA.out (by unfold maxLen; simp)).mono ?_
  rintro e w6 ⟨rfl, b⟩
  have D3 := hide' (D2.out.trans (b.mono D2.out.size))
  clear b D2 GL QL q0 q1 q2 r0 r1 r2 TA UA
  go_wp2
  go_ret
  exact ⟨rfl, BB.out.trans (D3.out.mono BB.out.size)⟩
set_option maxRecDepth 100000 in
set_option maxHeartbeats 6400000 in
theorem law_pp_wideH (o : Out) (ta : Option Addr) (tn tc : Nat) (W H : Int) (xs : List Int) (a : Option Addr) (n c : Nat) (f : Nat) (w : World) (hR : ArgR w o ta tn tc) (hP : ArgP w xs a n c) (hg : Handle w) (hf : plaE o W H xs f) (f0 : f = 0) (h5 : ¬ 5 < W) (g5 : 5 < H)
    (pg : ∀ V, Below w.heap.size w V → Calls Tryd.prog 6 #[.agg #[.int .i64 o.kind, .int .i64 o.born, .int .i64 o.stay, .int .i64 o.states, .int .i64 o.radius, .slice ta tn tc, .string o.turns], .agg #[.int .i64 W, .int .i64 H, .slice a n c]] V (PlaP 0 0 4 [] V)) :
    Calls Tryd.prog 3 #[.agg #[.int .i64 o.kind, .int .i64 o.born, .int .i64 o.stay, .int .i64 o.states, .int .i64 o.radius, .slice ta tn tc, .string o.turns], .agg #[.int .i64 W, .int .i64 H, .slice a n c]] w fun e w' => e = .returned (.bool true) ∧ Below w.heap.size w w' := by
  obtain ⟨w1, hw1⟩ : ∃ w1, (w.alloc (.cells #[.int .i64 o.kind, .int .i64 o.born, .int .i64 o.stay, .int .i64 o.states, .int .i64 o.radius, .slice ta tn tc, .string o.turns] 24)).alloc (.cells #[.int .i64 W, .int .i64 H, .slice a n c] 26) = w1 := ⟨_, rfl⟩
  have BB := hide' (show Below w.heap.size w w1 by rw [← hw1]; exact ((Below.refl _ _).alloc (Nat.le_refl _) _).alloc (by simp) _)
  have g0 : w1.heap[w.heap.size]? = some (.cells #[.int .i64 o.kind, .int .i64 o.born, .int .i64 o.stay, .int .i64 o.states, .int .i64 o.radius, .slice ta tn tc, .string o.turns] 24 (0, 0)) := by rw [← hw1, Below.heap_alloc _ _ _ (by simp; try omega)]; exact heap_atP _ _ _ (by simp)
  have g1 : w1.heap[w.heap.size + 1]? = some (.cells #[.int .i64 W, .int .i64 H, .slice a n c] 26 (0, 0)) := by rw [← hw1]; exact heap_atP _ _ _ (by simp)
  have HG := hide' (fun (V : World) (h : Below w1.heap.size w1 V) => hg.below (BB.out.trans (h.mono BB.out.size)))
  have FC := hide' (fun (V : World) (h : Below w1.heap.size w1 V) => show Calls Tryd.prog 4 #[.agg #[.int .i64 o.kind, .int .i64 o.born, .int .i64 o.stay, .int .i64 o.states, .int .i64 o.radius, .slice ta tn tc, .string o.turns], .agg #[.int .i64 W, .int .i64 H, .slice a n c]] V (fun e w' => e = .returned (.int .i64 0) ∧ Below V.heap.size V w') from by
    refine (refPlaneFault_any o ta tn tc W H xs a n c V (hR.below (BB.out.trans (h.mono BB.out.size))) (hP.below (BB.out.trans (h.mono BB.out.size)))).mono ?_
    rintro e w' ⟨⟨f', hf', rfl⟩, b⟩
    rw [plaE_only hf' hf, f0]
    exact ⟨rfl, b⟩)
  have PGC := hide' (fun (V : World) (h : Below w1.heap.size w1 V) => pg V (BB.out.trans (h.mono BB.out.size)))
  have SV := hide' (fun (V : World) (h : Below w1.heap.size w1 V) => show V.cell? ⟨w.heap.size, 0, none⟩ = some (.int .i64 o.kind) ∧ V.cell? ⟨w.heap.size, 1, none⟩ = some (.int .i64 o.born) ∧ V.cell? ⟨w.heap.size, 2, none⟩ = some (.int .i64 o.stay) ∧ V.cell? ⟨w.heap.size, 3, none⟩ = some (.int .i64 o.states) ∧ V.cell? ⟨w.heap.size, 4, none⟩ = some (.int .i64 o.radius) ∧ V.cell? ⟨w.heap.size, 5, none⟩ = some (.slice ta tn tc) ∧ V.cell? ⟨w.heap.size, 6, none⟩ = some (.string o.turns) ∧ V.cell? ⟨w.heap.size + 1, 0, none⟩ = some (.int .i64 W) ∧ V.cell? ⟨w.heap.size + 1, 1, none⟩ = some (.int .i64 H) ∧ V.cell? ⟨w.heap.size + 1, 2, none⟩ = some (.slice a n c) from by
    have e0 := (h.block _ (lt_of_block g0)).trans g0
    have e1 := (h.block _ (lt_of_block g1)).trans g1
    exact ⟨cell_of_row V _ 0 _ _ _ e0, cell_of_row V _ 1 _ _ _ e0, cell_of_row V _ 2 _ _ _ e0, cell_of_row V _ 3 _ _ _ e0, cell_of_row V _ 4 _ _ _ e0, cell_of_row V _ 5 _ _ _ e0, cell_of_row V _ 6 _ _ _ e0, cell_of_row V _ 0 _ _ _ e1, cell_of_row V _ 1 _ _ _ e1, cell_of_row V _ 2 _ _ _ e1⟩)
  have C0 := hide' (Below.refl w1.heap.size w1)
  have l1 := lt_of_block g1
  obtain ⟨x0, x1, x2, x3, x4, x5, x6, y0, y1, y2⟩ := SV.out w1 C0.out
  clear hR hP hg hf g0 g1 f0 pg
  go_enter Tryd.func3, Tryd.ntmps3
  go_wp2_with fail
  refine (FC.out w1 C0.out).mono ?_
  rintro e w2 ⟨rfl, b⟩
  have C1 := hide' (C0.out.trans (b.mono C0.out.size))
  clear hw1 b x0 x1 x2 x3 x4 x5 x6 y0 y1 y2 C0
  obtain ⟨-, -, -, -, -, -, -, z0, z1, -⟩ := SV.out _ C1.out
  have C2 := hide' (C1.out.alloc C1.out.size (.cells #[.int .i64 0, .int .i64 0, .slice none 0 0] 26))
  have GN := hide' (heap_atP w2 (.cells #[.int .i64 0, .int .i64 0, .slice none 0 0] 26) _ rfl)
  have s2 := C1.out.size
  obtain ⟨x0, x1, x2, x3, x4, x5, x6, y0, y1, y2⟩ := SV.out _ C2.out
  go_wp2_with fail
  obtain ⟨X, hX⟩ : ∃ X, w2.alloc (.cells #[.int .i64 0, .int .i64 0, .slice none 0 0] 26) = X := ⟨_, rfl⟩
  rw [hX] at C2 GN ⊢
  have C3 := hide' C2.out
  have T7 := hide' (tab_nil X)
  refine (PGC.out _ C3.out).mono ?_
  rintro e w4 ⟨vc, rfl, tc', b⟩
  obtain ⟨vv, vd, rfl, -⟩ := tc'.parts
  simp only [List.length_nil] at tc' ⊢
  have D0 := hide' (C3.out.trans (b.mono C3.out.size))
  have GM := hide' ((b.block _ (lt_of_block GN.out)).trans GN.out)
  have T8 := hide' (tab_below T7.out b)
  have U8 := hide' tc'
  clear hX b x0 x1 x2 x3 x4 x5 x6 y0 y1 y2 C3 GN T7 tc' C2 z0 z1
  have Q1 := hide' (heap_atP w4 (.cells #[.int .i64 0, .int .i64 0, .slice vv 0 vd] 26) _ rfl)
  have D1 := hide' (D0.out.alloc D0.out.size (.cells #[.int .i64 0, .int .i64 0, .slice vv 0 vd] 26))
  have GK := hide' ((Below.heap_alloc w4 (.cells #[.int .i64 0, .int .i64 0, .slice vv 0 vd] 26) _ (lt_of_block GM.out)).trans GM.out)
  have T9 := hide' (T8.out.alloc' (.cells #[.int .i64 0, .int .i64 0, .slice vv 0 vd] 26))
  have U9 := hide' (U8.out.alloc' (.cells #[.int .i64 0, .int .i64 0, .slice vv 0 vd] 26))
  go_wp2_with fail
  refine (errSameC_any 4 _ (HG.out _ D1.out)).mono ?_
  rintro e w5 ⟨rfl, b⟩
  have D2 := hide' (D1.out.trans (b.mono D1.out.size))
  have GL := hide' ((b.block _ (lt_of_block GK.out)).trans GK.out)
  have QL := hide' ((b.block _ (lt_of_block Q1.out)).trans Q1.out)
  have TA := hide' (tab_below T9.out b)
  have UA := hide' (tab_below U9.out b)
  clear b D1 Q1 D0 GM GK T8 U8 T9 U9
  have r0 := cell_of_row w5 _ 0 _ _ _ GL.out
  have r1 := cell_of_row w5 _ 1 _ _ _ GL.out
  have r2 := cell_of_row w5 _ 2 _ _ _ GL.out
  have q0 := cell_of_row w5 _ 0 _ _ _ QL.out
  have q1 := cell_of_row w5 _ 1 _ _ _ QL.out
  have q2 := cell_of_row w5 _ 2 _ _ _ QL.out
  simp at r0 r1 r2 q0 q1 q2
  go_wp2_with fail
  refine (Alike_same 0 0 (.slice vv 0 vd) (.slice none 0 0) [] _ UA.out TA.out (by unfold maxLen; simp)).mono ?_
  rintro e w6 ⟨rfl, b⟩
  have D3 := hide' (D2.out.trans (b.mono D2.out.size))
  clear b D2 GL QL q0 q1 q2 r0 r1 r2 TA UA
  go_wp2
  go_ret
  exact ⟨rfl, BB.out.trans (D3.out.mono BB.out.size)⟩
end Go.Proofs.YtfdbgkdbmlmigaaDoor

