/-
  What the last text of this claim leans on, part 28: Gv0, LawAg.
-/
import Derived.Test.YtdbgdfodoceadaaDoorZa9
import Derived.Test.YtdbgdfodoceadaaDoorZa24
import Derived.Test.YtdbgdfodoceadaaDoorZa27
import Derived.Laws.StructEq
namespace Go.Proofs.YtdbgdfodoceadaaDoor
open Go.RowKit
set_option linter.unusedVariables false
set_option maxRecDepth 100000 in
theorem again_eq (a b c a' b' c' : Int) (w : World) : (Op.equalIn 10000 43 (.agg #[.int .i64 a, .int .i64 b, .int .i64 c]) (.agg #[.int .i64 a', .int .i64 b', .int .i64 c'])).run Tryd.prog w = .ok (a == a' && (b == b' && c == c')) w := by
  have hu := Tryd.underlying43
  have hf : Tryd.prog.underlying 43 = some (.struct (Tryd.prog.fieldsOf 43)) := by rw [Program.fieldsOf, hu]
  rw [run_equalIn_struct w 9999 _ _ _ hf (by kernel_rfl)]
  rw [Program.fieldsOf, hu]
  have hi := Tryd.underlying3
  have p : ∀ (k : Nat) (xs : Array Value) (v : Value), xs[k]? = some v → (part 3 xs k).run Tryd.prog w = .ok v w := fun k xs v h => by simp [part, isAgg, run_underlying hi, h]
  simp only [Op.eqFields, Sem.run_bind, Sem.run_ite]
  have n0 : ("Period" ≠ "_") = True := by simp
  have n1 : ("Right" ≠ "_") = True := by simp
  have n2 : ("Down" ≠ "_") = True := by simp
  simp only [n0, n1, n2, if_true]
  simp only [p 0 #[.int .i64 a, .int .i64 b, .int .i64 c] (.int .i64 a) rfl, p 0 #[.int .i64 a', .int .i64 b', .int .i64 c'] (.int .i64 a') rfl, Result.andThen_ok, run_equalIn_int w 9998 3 .i64 .i64 _ _ hi]
  cases h1 : (a == a')
  · simp
  · simp only [Bool.not_true, Bool.false_eq_true, if_false, p 1 #[.int .i64 a, .int .i64 b, .int .i64 c] (.int .i64 b) rfl, p 1 #[.int .i64 a', .int .i64 b', .int .i64 c'] (.int .i64 b') rfl, Result.andThen_ok, run_equalIn_int w 9998 3 .i64 .i64 _ _ hi]
    cases h2 : (b == b')
    · simp
    · simp only [Bool.not_true, Bool.false_eq_true, if_false, p 2 #[.int .i64 a, .int .i64 b, .int .i64 c] (.int .i64 c) rfl, p 2 #[.int .i64 a', .int .i64 b', .int .i64 c'] (.int .i64 c') rfl, Result.andThen_ok, run_equalIn_int w 9998 3 .i64 .i64 _ _ hi]
      cases h3 : (c == c') <;> simp
end Go.Proofs.YtdbgdfodoceadaaDoor

namespace Go.Proofs.YtdbgdfodoceadaaDoor
open Go.RowKit
set_option linter.unusedVariables false
theorem three_bel {B : Nat} {a w : World} (h : Below B a w) {g : Nat} (hg : B ≤ g) (x0 x1 x2 : Value) : Below B a (((w.setCell ⟨g, 0, none⟩ x0).setCell ⟨g, 1, none⟩ x1).setCell ⟨g, 2, none⟩ x2) := ((h.setCell hg _).setCell hg _).setCell hg _
set_option maxRecDepth 100000 in
set_option maxHeartbeats 6400000 in
theorem law_again_bad (o : Out) (ta : Option Addr) (tn tc : Nat) (W H : Int) (xs : List Int) (a : Option Addr) (n c : Nat) (N : Int) (f : Nat) (w : World) (hR : ArgR w o ta tn tc) (hP : ArgP w xs a n c) (hg : Handle w) (hf : plaE o W H xs f) (f0 : f ≠ 0) :
    Calls Tryd.prog 4 #[.agg #[.int .i64 o.kind, .int .i64 o.born, .int .i64 o.stay, .int .i64 o.states, .int .i64 o.radius, .slice ta tn tc, .string o.turns], .agg #[.int .i64 W, .int .i64 H, .slice a n c], .int .i64 N] w fun e w' => e = .returned (.bool true) ∧ Below w.heap.size w w' := by
  obtain ⟨w1, hw1⟩ : ∃ w1, (w.alloc (.cells #[.int .i64 o.kind, .int .i64 o.born, .int .i64 o.stay, .int .i64 o.states, .int .i64 o.radius, .slice ta tn tc, .string o.turns] 24)).alloc (.cells #[.int .i64 W, .int .i64 H, .slice a n c] 26) = w1 := ⟨_, rfl⟩
  have BB := hide' (show Below w.heap.size w w1 by rw [← hw1]; exact ((Below.refl _ _).alloc (Nat.le_refl _) _).alloc (by simp) _)
  have g0 : w1.heap[w.heap.size]? = some (.cells #[.int .i64 o.kind, .int .i64 o.born, .int .i64 o.stay, .int .i64 o.states, .int .i64 o.radius, .slice ta tn tc, .string o.turns] 24 (0, 0)) := by rw [← hw1, Below.heap_alloc _ _ _ (by simp; try omega)]; exact heap_atX _ _ _ (by simp)
  have g1 : w1.heap[w.heap.size + 1]? = some (.cells #[.int .i64 W, .int .i64 H, .slice a n c] 26 (0, 0)) := by rw [← hw1]; exact heap_atX _ _ _ (by simp)
  have HG := hide' (fun (V : World) (h : Below w1.heap.size w1 V) => hg.below (BB.out.trans (h.mono BB.out.size)))
  have SV := hide' (fun (V : World) (h : Below w1.heap.size w1 V) => show V.cell? ⟨w.heap.size, 0, none⟩ = some (.int .i64 o.kind) ∧ V.cell? ⟨w.heap.size, 1, none⟩ = some (.int .i64 o.born) ∧ V.cell? ⟨w.heap.size, 2, none⟩ = some (.int .i64 o.stay) ∧ V.cell? ⟨w.heap.size, 3, none⟩ = some (.int .i64 o.states) ∧ V.cell? ⟨w.heap.size, 4, none⟩ = some (.int .i64 o.radius) ∧ V.cell? ⟨w.heap.size, 5, none⟩ = some (.slice ta tn tc) ∧ V.cell? ⟨w.heap.size, 6, none⟩ = some (.string o.turns) ∧ V.cell? ⟨w.heap.size + 1, 0, none⟩ = some (.int .i64 W) ∧ V.cell? ⟨w.heap.size + 1, 1, none⟩ = some (.int .i64 H) ∧ V.cell? ⟨w.heap.size + 1, 2, none⟩ = some (.slice a n c) from by
    have e0 := (h.block _ (lt_of_block g0)).trans g0
    have e1 := (h.block _ (lt_of_block g1)).trans g1
    exact ⟨cell_of_row V _ 0 _ _ _ e0, cell_of_row V _ 1 _ _ _ e0, cell_of_row V _ 2 _ _ _ e0, cell_of_row V _ 3 _ _ _ e0, cell_of_row V _ 4 _ _ _ e0, cell_of_row V _ 5 _ _ _ e0, cell_of_row V _ 6 _ _ _ e0, cell_of_row V _ 0 _ _ _ e1, cell_of_row V _ 1 _ _ _ e1, cell_of_row V _ 2 _ _ _ e1⟩)
  have FC := hide' (fun (V : World) (h : Below w1.heap.size w1 V) => show Calls Tryd.prog 10 #[.agg #[.int .i64 o.kind, .int .i64 o.born, .int .i64 o.stay, .int .i64 o.states, .int .i64 o.radius, .slice ta tn tc, .string o.turns], .agg #[.int .i64 W, .int .i64 H, .slice a n c]] V (fun e w' => e = .returned (.int .i64 (f : Int)) ∧ Below V.heap.size V w') from by
    refine (refPlaneFault_any o ta tn tc W H xs a n c V (hR.below (BB.out.trans (h.mono BB.out.size))) (hP.below (BB.out.trans (h.mono BB.out.size)))).mono ?_
    rintro e w' ⟨⟨f', hf', rfl⟩, b⟩
    rw [plaE_only hf' hf]
    exact ⟨rfl, b⟩)
  have PC := hide' (fun (V : World) (h : Below w1.heap.size w1 V) => again_bad o ta tn tc W H xs a n c N f V (hR.below (BB.out.trans (h.mono BB.out.size))) (hP.below (BB.out.trans (h.mono BB.out.size))) (fun g h => by
    rcases h with ⟨g', h1, h2, h3⟩ | ⟨h1, _, _⟩ | ⟨h1, _, _⟩
    · exact Or.inl ⟨by omega, by rw [h3]; exact plaE_only hf h1⟩
    · exact absurd (plaE_only hf h1) f0
    · exact absurd (plaE_only hf h1) f0))
  have k0 : ((f : Int) == 0) = false := by simp; omega
  have C0 := hide' (Below.refl w1.heap.size w1)
  have qe := fun w => again_eq 0 0 0 0 0 0 w
  simp only [beq_self_eq_true, Bool.and_self] at qe
  obtain ⟨x0, x1, x2, x3, x4, x5, x6, y0, y1, y2⟩ := SV.out w1 C0.out
  clear hR hP hg hf f0 g0 g1
  go_enter Tryd.func4, Tryd.ntmps4
  go_wp2_with fail
  refine (FC.out w1 C0.out).mono ?_
  rintro e w2 ⟨rfl, b⟩
  have C1 := hide' (C0.out.trans (b.mono C0.out.size))
  clear hw1 b x0 x1 x2 x3 x4 x5 x6 y0 y1 y2 C0
  have C2 := hide' (C1.out.alloc C1.out.size (.cells #[.int .i64 0, .int .i64 0, .int .i64 0] 43))
  have ga : (w2.alloc (.cells #[.int .i64 0, .int .i64 0, .int .i64 0] 43)).heap[w2.heap.size]? = some (.cells #[.int .i64 0, .int .i64 0, .int .i64 0] 43 (0, 0)) := heap_alloc_new _ _
  have GA := hide' ga
  clear ga
  obtain ⟨x0, x1, x2, x3, x4, x5, x6, y0, y1, y2⟩ := SV.out _ C2.out
  go_wp2_with fail
  refine (PC.out _ C2.out).mono ?_
  unfold AgainBad
  rintro e w3 ⟨rfl, b⟩
  have C3 := hide' (C2.out.trans (b.mono C2.out.size))
  have GB := hide' ((b.block _ (lt_of_block GA.out)).trans GA.out)
  clear b x0 x1 x2 x3 x4 x5 x6 y0 y1 y2 C2 GA C1
  have C4 := hide' (C3.out.alloc C3.out.size (.cells #[.int .i64 0, .int .i64 0, .int .i64 0] 43))
  have GC := hide' ((Below.heap_alloc w3 (.cells #[.int .i64 0, .int .i64 0, .int .i64 0] 43) _ (lt_of_block GB.out)).trans GB.out)
  have ga : (w3.alloc (.cells #[.int .i64 0, .int .i64 0, .int .i64 0] 43)).heap[w3.heap.size]? = some (.cells #[.int .i64 0, .int .i64 0, .int .i64 0] 43 (0, 0)) := heap_alloc_new _ _
  have GD := hide' ga
  clear ga GB C3
  go_wp2_with fail
  refine (err_any f _ (HG.out _ C4.out)).mono ?_
  rintro e w4 ⟨rfl, b⟩
  have C5 := hide' (C4.out.trans (b.mono C4.out.size))
  have e1 := (b.block _ (lt_of_block GC.out)).trans GC.out
  have e2 := (b.block _ (lt_of_block GD.out)).trans GD.out
  have p0 := cell_of_row w4 _ 0 _ _ _ e1
  have p1 := cell_of_row w4 _ 1 _ _ _ e1
  have p2 := cell_of_row w4 _ 2 _ _ _ e1
  have q0 := cell_of_row w4 _ 0 _ _ _ e2
  have q1 := cell_of_row w4 _ 1 _ _ _ e2
  have q2 := cell_of_row w4 _ 2 _ _ _ e2
  simp at p0 p1 p2 q0 q1 q2
  clear b e1 e2 GC GD C4
  go_wp2
  go_ret
  exact ⟨rfl, BB.out.trans (C5.out.mono BB.out.size)⟩
set_option maxRecDepth 100000 in
set_option maxHeartbeats 6400000 in
theorem law_again_good (o : Out) (ta : Option Addr) (tn tc : Nat) (W H : Int) (xs : List Int) (a : Option Addr) (n c : Nat) (N : Int) (w : World) (hR : ArgR w o ta tn tc) (hP : ArgP w xs a n c) (hg : Handle w) (hf : plaE o W H xs 0)
    (gn gr gd : Int) (k : Nat)
    (rg : ∀ V, Below w.heap.size w V → Calls Tryd.prog 17 #[.agg #[.int .i64 o.kind, .int .i64 o.born, .int .i64 o.stay, .int .i64 o.states, .int .i64 o.radius, .slice ta tn tc, .string o.turns], .agg #[.int .i64 W, .int .i64 H, .slice a n c], .int .i64 N] V (fun e w' => e = .returned (.tuple #[.agg #[.int .i64 gn, .int .i64 gr, .int .i64 gd], .int .i64 (k : Int)]) ∧ Below V.heap.size V w'))
    (pg : ∀ V, Below w.heap.size w V → Calls Tryd.prog 18 #[.agg #[.int .i64 o.kind, .int .i64 o.born, .int .i64 o.stay, .int .i64 o.states, .int .i64 o.radius, .slice ta tn tc, .string o.turns], .agg #[.int .i64 W, .int .i64 H, .slice a n c], .int .i64 N] V (fun e w' => e = .returned (.tuple #[.agg #[.int .i64 gn, .int .i64 gr, .int .i64 gd], errOf k]) ∧ Below V.heap.size V w')) :
    Calls Tryd.prog 4 #[.agg #[.int .i64 o.kind, .int .i64 o.born, .int .i64 o.stay, .int .i64 o.states, .int .i64 o.radius, .slice ta tn tc, .string o.turns], .agg #[.int .i64 W, .int .i64 H, .slice a n c], .int .i64 N] w fun e w' => e = .returned (.bool true) ∧ Below w.heap.size w w' := by
  obtain ⟨w1, hw1⟩ : ∃ w1, (w.alloc (.cells #[.int .i64 o.kind, .int .i64 o.born, .int .i64 o.stay, .int .i64 o.states, .int .i64 o.radius, .slice ta tn tc, .string o.turns] 24)).alloc (.cells #[.int .i64 W, .int .i64 H, .slice a n c] 26) = w1 := ⟨_, rfl⟩
  have BB := hide' (show Below w.heap.size w w1 by rw [← hw1]; exact ((Below.refl _ _).alloc (Nat.le_refl _) _).alloc (by simp) _)
  have g0 : w1.heap[w.heap.size]? = some (.cells #[.int .i64 o.kind, .int .i64 o.born, .int .i64 o.stay, .int .i64 o.states, .int .i64 o.radius, .slice ta tn tc, .string o.turns] 24 (0, 0)) := by rw [← hw1, Below.heap_alloc _ _ _ (by simp; try omega)]; exact heap_atX _ _ _ (by simp)
  have g1 : w1.heap[w.heap.size + 1]? = some (.cells #[.int .i64 W, .int .i64 H, .slice a n c] 26 (0, 0)) := by rw [← hw1]; exact heap_atX _ _ _ (by simp)
  have HG := hide' (fun (V : World) (h : Below w1.heap.size w1 V) => hg.below (BB.out.trans (h.mono BB.out.size)))
  have SV := hide' (fun (V : World) (h : Below w1.heap.size w1 V) => show V.cell? ⟨w.heap.size, 0, none⟩ = some (.int .i64 o.kind) ∧ V.cell? ⟨w.heap.size, 1, none⟩ = some (.int .i64 o.born) ∧ V.cell? ⟨w.heap.size, 2, none⟩ = some (.int .i64 o.stay) ∧ V.cell? ⟨w.heap.size, 3, none⟩ = some (.int .i64 o.states) ∧ V.cell? ⟨w.heap.size, 4, none⟩ = some (.int .i64 o.radius) ∧ V.cell? ⟨w.heap.size, 5, none⟩ = some (.slice ta tn tc) ∧ V.cell? ⟨w.heap.size, 6, none⟩ = some (.string o.turns) ∧ V.cell? ⟨w.heap.size + 1, 0, none⟩ = some (.int .i64 W) ∧ V.cell? ⟨w.heap.size + 1, 1, none⟩ = some (.int .i64 H) ∧ V.cell? ⟨w.heap.size + 1, 2, none⟩ = some (.slice a n c) from by
    have e0 := (h.block _ (lt_of_block g0)).trans g0
    have e1 := (h.block _ (lt_of_block g1)).trans g1
    exact ⟨cell_of_row V _ 0 _ _ _ e0, cell_of_row V _ 1 _ _ _ e0, cell_of_row V _ 2 _ _ _ e0, cell_of_row V _ 3 _ _ _ e0, cell_of_row V _ 4 _ _ _ e0, cell_of_row V _ 5 _ _ _ e0, cell_of_row V _ 6 _ _ _ e0, cell_of_row V _ 0 _ _ _ e1, cell_of_row V _ 1 _ _ _ e1, cell_of_row V _ 2 _ _ _ e1⟩)
  have FC := hide' (fun (V : World) (h : Below w1.heap.size w1 V) => show Calls Tryd.prog 10 #[.agg #[.int .i64 o.kind, .int .i64 o.born, .int .i64 o.stay, .int .i64 o.states, .int .i64 o.radius, .slice ta tn tc, .string o.turns], .agg #[.int .i64 W, .int .i64 H, .slice a n c]] V (fun e w' => e = .returned (.int .i64 0) ∧ Below V.heap.size V w') from by
    refine (refPlaneFault_any o ta tn tc W H xs a n c V (hR.below (BB.out.trans (h.mono BB.out.size))) (hP.below (BB.out.trans (h.mono BB.out.size)))).mono ?_
    rintro e w' ⟨⟨f', hf', rfl⟩, b⟩
    rw [plaE_only hf' hf]
    exact ⟨rfl, b⟩)
  have RC := hide' (fun (V : World) (h : Below w1.heap.size w1 V) => rg V (BB.out.trans (h.mono BB.out.size)))
  have PC := hide' (fun (V : World) (h : Below w1.heap.size w1 V) => pg V (BB.out.trans (h.mono BB.out.size)))
  have C0 := hide' (Below.refl w1.heap.size w1)
  have qe := fun w => again_eq gn gr gd gn gr gd w
  simp only [beq_self_eq_true, Bool.and_self] at qe
  have l1 := lt_of_block g1
  obtain ⟨x0, x1, x2, x3, x4, x5, x6, y0, y1, y2⟩ := SV.out w1 C0.out
  clear hR hP hg hf rg pg g0 g1
  go_enter Tryd.func4, Tryd.ntmps4
  go_wp2_with fail
  refine (FC.out w1 C0.out).mono ?_
  rintro e w2 ⟨rfl, b⟩
  have C1 := hide' (C0.out.trans (b.mono C0.out.size))
  have s2 := C1.out.size
  clear hw1 b x0 x1 x2 x3 x4 x5 x6 y0 y1 y2 C0
  have C2 := hide' (C1.out.alloc C1.out.size (.cells #[.int .i64 0, .int .i64 0, .int .i64 0] 43))
  have ga : (w2.alloc (.cells #[.int .i64 0, .int .i64 0, .int .i64 0] 43)).heap[w2.heap.size]? = some (.cells #[.int .i64 0, .int .i64 0, .int .i64 0] 43 (0, 0)) := heap_alloc_new _ _
  have GA := hide' ga
  clear ga
  obtain ⟨x0, x1, x2, x3, x4, x5, x6, y0, y1, y2⟩ := SV.out _ C2.out
  go_wp2_with fail
  refine (RC.out _ C2.out).mono ?_
  rintro e w3 ⟨rfl, b⟩
  have K3 := hide' (C2.out.trans (b.mono C2.out.size))
  have C3 := hide' (three_bel K3.out (g := w2.heap.size) s2 (.int .i64 gn) (.int .i64 gr) (.int .i64 gd))
  have gb := (b.block _ (lt_of_block GA.out)).trans GA.out
  have GB := hide' (three_row gb (.int .i64 gn) (.int .i64 gr) (.int .i64 gd))
  have r0 := cell_of_row w3 _ 0 _ _ _ gb
  have r1 := cell_of_row w3 _ 1 _ _ _ gb
  have r2 := cell_of_row w3 _ 2 _ _ _ gb
  simp at r0 r1 r2
  have f0 := frozen_of_row w3 _ 0 _ _ gb
  have f1 := frozen_of_row w3 _ 1 _ _ gb
  have f2 := frozen_of_row w3 _ 2 _ _ gb
  clear b x0 x1 x2 x3 x4 x5 x6 y0 y1 y2 C2 GA C1 gb
  obtain ⟨x0, x1, x2, x3, x4, x5, x6, y0, y1, y2⟩ := SV.out _ K3.out
  have ne1 : ¬ w.heap.size = w2.heap.size := by omega
  have ne2 : ¬ w2.heap.size = w.heap.size := by omega
  have ne3 : ¬ w.heap.size + 1 = w2.heap.size := by omega
  have ne4 : ¬ w2.heap.size = w.heap.size + 1 := by omega
  go_wp2_with fail
  obtain ⟨X, hX⟩ : ∃ X, ((w3.setCell ⟨w2.heap.size, 0, none⟩ (.int .i64 gn)).setCell ⟨w2.heap.size, 1, none⟩ (.int .i64 gr)).setCell ⟨w2.heap.size, 2, none⟩ (.int .i64 gd) = X := ⟨_, rfl⟩
  rw [hX] at C3 GB ⊢
  refine (PC.out _ C3.out).mono ?_
  rintro e w4 ⟨rfl, b⟩
  have C4 := hide' (C3.out.trans (b.mono C3.out.size))
  have GC := hide' ((b.block _ (lt_of_block GB.out)).trans GB.out)
  clear hX b x0 x1 x2 x3 x4 x5 x6 y0 y1 y2 C3 GB K3 r0 r1 r2 f0 f1 f2 ne1 ne2 ne3 ne4
  have C5 := hide' (C4.out.alloc C4.out.size (.cells #[.int .i64 gn, .int .i64 gr, .int .i64 gd] 43))
  have GD := hide' ((Below.heap_alloc w4 (.cells #[.int .i64 gn, .int .i64 gr, .int .i64 gd] 43) _ (lt_of_block GC.out)).trans GC.out)
  have ga : (w4.alloc (.cells #[.int .i64 gn, .int .i64 gr, .int .i64 gd] 43)).heap[w4.heap.size]? = some (.cells #[.int .i64 gn, .int .i64 gr, .int .i64 gd] 43 (0, 0)) := heap_alloc_new _ _
  have GE := hide' ga
  clear ga C4 GC
  go_wp2_with fail
  refine (err_any k _ (HG.out _ C5.out)).mono ?_
  rintro e w5 ⟨rfl, b⟩
  have C6 := hide' (C5.out.trans (b.mono C5.out.size))
  have e1 := (b.block _ (lt_of_block GD.out)).trans GD.out
  have e2 := (b.block _ (lt_of_block GE.out)).trans GE.out
  have p0 := cell_of_row w5 _ 0 _ _ _ e1
  have p1 := cell_of_row w5 _ 1 _ _ _ e1
  have p2 := cell_of_row w5 _ 2 _ _ _ e1
  have q0 := cell_of_row w5 _ 0 _ _ _ e2
  have q1 := cell_of_row w5 _ 1 _ _ _ e2
  have q2 := cell_of_row w5 _ 2 _ _ _ e2
  simp at p0 p1 p2 q0 q1 q2
  clear b e1 e2 GD GE C5
  go_wp2
  go_ret
  exact ⟨rfl, BB.out.trans (C6.out.mono BB.out.size)⟩
theorem law_again_all (o : Out) (ta : Option Addr) (tn tc : Nat) (W H : Int) (xs : List Int) (a : Option Addr) (n c : Nat) (N : Int) (w : World) (hR : ArgR w o ta tn tc) (hP : ArgP w xs a n c) (hg : Handle w) (hT : TzTab w) :
    Calls Tryd.prog 4 #[.agg #[.int .i64 o.kind, .int .i64 o.born, .int .i64 o.stay, .int .i64 o.states, .int .i64 o.radius, .slice ta tn tc, .string o.turns], .agg #[.int .i64 W, .int .i64 H, .slice a n c], .int .i64 N] w fun e w' => e = .returned (.bool true) ∧ Below w.heap.size w w' := by
  obtain ⟨f, hf⟩ := plaE_some o W H xs
  by_cases f0 : f = 0
  · subst f0
    obtain ⟨born, stay, hb, hs, b5, s5, hk, hsh⟩ := pla_good hf
    obtain ⟨Wn, Hn, rfl, rfl, hW, hH, hn, hx⟩ := shape_sides hsh
    have bn : bitN born 0 = born % 2 := by simp [bitN]
    by_cases bad : bitN born 0 = 1 ∨ N < 1 ∨ 64 < N
    · refine law_again_good o ta tn tc Wn Hn xs a n c N w hR hP hg hf 0 0 0 1 ?_ ?_
      · intro V hV
        have t := refAgain_bad o.kind o.states o.radius born stay ta tn tc o.turns Wn Hn a n c N V b5 bad
        rw [← hb, ← hs] at t
        exact t
      · intro V hV
        refine again_bad o ta tn tc (Wn : Int) (Hn : Int) xs a n c N 1 V (hR.below hV) (hP.below hV) ?_
        rintro g (⟨g', h1, h2, h3⟩ | ⟨h1, h2, h3⟩ | ⟨h1, h2, h3⟩)
        · exact absurd (plaE_only h1 hf) h2
        · exact Or.inl ⟨by omega, h3.symm⟩
        · refine Or.inr ⟨h3, rfl, ?_⟩
          rcases bad with u | u
          · rw [bn] at u; rw [hb] at h2; omega
          · exact u
    · obtain ⟨m, rfl⟩ : ∃ m : Nat, N = (m : Int) := ⟨N.toNat, by omega⟩
      have hm1 : 1 ≤ m := by omega
      have hm : m ≤ 64 := by omega
      have b0 : bitN born 0 = 0 := by omega
      have bt : born.testBit 0 = false := by
        rw [Nat.testBit_eq_decide_div_mod_eq]
        rw [bitN] at b0
        simp only [b0]; rfl
      have h0 : ∀ g, grE o (Wn : Int) (Hn : Int) xs g → g = 0 := by
        rintro g (⟨g', h1, h2, h3⟩ | ⟨h1, h2, h3⟩ | ⟨h1, h2, h3⟩)
        · exact absurd (plaE_only h1 hf) h2
        · rw [hb] at h2; omega
        · exact h3
      refine law_again_good o ta tn tc Wn Hn xs a n c m w hR hP hg hf (agA born stay (firstG ⟨Wn, Hn, xs⟩) m).n (agA born stay (firstG ⟨Wn, Hn, xs⟩) m).r (agA born stay (firstG ⟨Wn, Hn, xs⟩) m).d (agA born stay (firstG ⟨Wn, Hn, xs⟩) m).f ?_ ?_
      · intro V hV
        have t := refAgain_ok o.kind o.states o.radius born stay ta tn tc o.turns Wn Hn xs a n c m V b5 s5 (hP.below hV) (hP.len.trans hn) hx hW hH b0 hm1 hm
        rw [← hb, ← hs] at t
        exact t
      · intro V hV
        exact again_good o ta tn tc Wn Hn xs a n c born stay m V (hR.below hV) (hP.below hV) (hT.below hV) h0 hb hs b5 s5 bt hn hx hW hH hm1 hm
  · exact law_again_bad o ta tn tc W H xs a n c N f w hR hP hg hf f0
end Go.Proofs.YtdbgdfodoceadaaDoor

