/-
  What the last text of this claim leans on, part 29: LawTu.
-/
import Derived.Test.YtdbgdfodoceadaaDoorZt28
namespace Go.Proofs.YtdbgdfodoceadaaDoor
open Go.RowKit
set_option linter.unusedVariables false
set_option maxRecDepth 100000 in
set_option maxHeartbeats 6400000 in
theorem law_turns_a (o : Out) (ta : Option Addr) (tn tc : Nat) (W H : Int) (a : Option Addr) (n c : Nat) (k : Int) (f1 : Nat) (w : World) (hT : TzTab w)
    (tp : ∀ V, Below w.heap.size w V → Calls Tryd.prog 24 #[.agg #[.int .i64 W, .int .i64 H, .slice a n c], .int .i64 k] V (ErrPost f1 V))
    (tor : ∀ V, Below w.heap.size w V → Calls Tryd.prog 11 #[.agg #[.int .i64 o.kind, .int .i64 o.born, .int .i64 o.stay, .int .i64 o.states, .int .i64 o.radius, .slice ta tn tc, .string o.turns], .agg #[.int .i64 W, .int .i64 H, .slice a n c]] V (PatAny V)) :
    Calls Tryd.prog 7 #[.agg #[.int .i64 o.kind, .int .i64 o.born, .int .i64 o.stay, .int .i64 o.states, .int .i64 o.radius, .slice ta tn tc, .string o.turns], .agg #[.int .i64 W, .int .i64 H, .slice a n c], .int .i64 k] w fun e w' => e = .returned (.bool true) ∧ Below w.heap.size w w' := by
  obtain ⟨w1, hw1⟩ : ∃ w1, (w.alloc (.cells #[.int .i64 o.kind, .int .i64 o.born, .int .i64 o.stay, .int .i64 o.states, .int .i64 o.radius, .slice ta tn tc, .string o.turns] 24)).alloc (.cells #[.int .i64 W, .int .i64 H, .slice a n c] 26) = w1 := ⟨_, rfl⟩
  have BB := hide' (show Below w.heap.size w w1 by rw [← hw1]; exact ((Below.refl _ _).alloc (Nat.le_refl _) _).alloc (by simp) _)
  have g0 : w1.heap[w.heap.size]? = some (.cells #[.int .i64 o.kind, .int .i64 o.born, .int .i64 o.stay, .int .i64 o.states, .int .i64 o.radius, .slice ta tn tc, .string o.turns] 24 (0, 0)) := by rw [← hw1, Below.heap_alloc _ _ _ (by simp; try omega)]; exact heap_atX _ _ _ (by simp)
  have g1 : w1.heap[w.heap.size + 1]? = some (.cells #[.int .i64 W, .int .i64 H, .slice a n c] 26 (0, 0)) := by rw [← hw1]; exact heap_atX _ _ _ (by simp)
  have SV := hide' (fun (V : World) (h : Below w1.heap.size w1 V) => show V.cell? ⟨w.heap.size, 0, none⟩ = some (.int .i64 o.kind) ∧ V.cell? ⟨w.heap.size, 1, none⟩ = some (.int .i64 o.born) ∧ V.cell? ⟨w.heap.size, 2, none⟩ = some (.int .i64 o.stay) ∧ V.cell? ⟨w.heap.size, 3, none⟩ = some (.int .i64 o.states) ∧ V.cell? ⟨w.heap.size, 4, none⟩ = some (.int .i64 o.radius) ∧ V.cell? ⟨w.heap.size, 5, none⟩ = some (.slice ta tn tc) ∧ V.cell? ⟨w.heap.size, 6, none⟩ = some (.string o.turns) ∧ V.cell? ⟨w.heap.size + 1, 0, none⟩ = some (.int .i64 W) ∧ V.cell? ⟨w.heap.size + 1, 1, none⟩ = some (.int .i64 H) ∧ V.cell? ⟨w.heap.size + 1, 2, none⟩ = some (.slice a n c) from by
    have e0 := (h.block _ (lt_of_block g0)).trans g0
    have e1 := (h.block _ (lt_of_block g1)).trans g1
    exact ⟨cell_of_row V _ 0 _ _ _ e0, cell_of_row V _ 1 _ _ _ e0, cell_of_row V _ 2 _ _ _ e0, cell_of_row V _ 3 _ _ _ e0, cell_of_row V _ 4 _ _ _ e0, cell_of_row V _ 5 _ _ _ e0, cell_of_row V _ 6 _ _ _ e0, cell_of_row V _ 0 _ _ _ e1, cell_of_row V _ 1 _ _ _ e1, cell_of_row V _ 2 _ _ _ e1⟩)
  have BW := hide' (fun (V : World) (h : Below w1.heap.size w1 V) => BB.out.trans (h.mono BB.out.size))
  have LV := hide' (fun (V : World) (h : Below w1.heap.size w1 V) => lives_any V (hT.below (BW.out V h)))
  have TP := hide' (fun (V : World) (h : Below w1.heap.size w1 V) => tp V (BW.out V h))
  have TO := hide' (fun (V : World) (h : Below w1.heap.size w1 V) => tor V (BW.out V h))
  have C0 := hide' (Below.refl w1.heap.size w1)
  obtain ⟨x0, x1, x2, x3, x4, x5, x6, y0, y1, y2⟩ := SV.out w1 C0.out
  clear tp tor hT g0 g1
  go_enter Tryd.func7, Tryd.ntmps7
  go_wp2_with fail
  refine (LV.out w1 C0.out).mono ?_
  rintro e w2 ⟨rfl, b⟩
  have C1 := hide' (C0.out.trans (b.mono C0.out.size))
  clear hw1 b x0 x1 x2 x3 x4 x5 x6 y0 y1 y2 C0
  obtain ⟨x0, x1, x2, x3, x4, x5, x6, y0, y1, y2⟩ := SV.out _ C1.out
  go_wp2_with fail
  refine (TP.out w2 C1.out).mono ?_
  rintro e w3 ⟨rfl, b⟩
  have C2 := hide' ((C1.out.trans (b.mono C1.out.size)).alloc (by have := C1.out.size; have := b.size; omega) (.cells #[.int .i64 0, .int .i64 0, .slice none 0 0] 26))
  clear b x0 x1 x2 x3 x4 x5 x6 y0 y1 y2 C1
  obtain ⟨x0, x1, x2, x3, x4, x5, x6, y0, y1, y2⟩ := SV.out _ C2.out
  go_wp2_with fail
  refine (TO.out _ C2.out).mono ?_
  rintro e w4 ⟨pW, pH, pa, pn, pc, f, rfl, b⟩
  have C3 := hide' ((C2.out.trans (b.mono C2.out.size)).alloc (by have := C2.out.size; have := b.size; omega) (.cells #[.int .i64 pW, .int .i64 pH, .slice pa pn pc] 26))
  clear b x0 x1 x2 x3 x4 x5 x6 y0 y1 y2 C2
  go_wp2
  go_ret
  exact ⟨rfl, BW.out _ C3.out⟩
set_option maxRecDepth 100000 in
set_option maxHeartbeats 6400000 in
theorem law_turns_b (o : Out) (ta : Option Addr) (tn tc : Nat) (W H : Int) (a : Option Addr) (n c : Nat) (k : Int) (qW qH : Int) (qs : List Int) (f : Nat) (f0 : f ≠ 0) (w : World) (hT : TzTab w)
    (tp : ∀ V, Below w.heap.size w V → Calls Tryd.prog 24 #[.agg #[.int .i64 W, .int .i64 H, .slice a n c], .int .i64 k] V (PatOut qW qH qs V))
    (tor : ∀ V, Below w.heap.size w V → Calls Tryd.prog 11 #[.agg #[.int .i64 o.kind, .int .i64 o.born, .int .i64 o.stay, .int .i64 o.states, .int .i64 o.radius, .slice ta tn tc, .string o.turns], .agg #[.int .i64 W, .int .i64 H, .slice a n c]] V (TorBad f V)) :
    Calls Tryd.prog 7 #[.agg #[.int .i64 o.kind, .int .i64 o.born, .int .i64 o.stay, .int .i64 o.states, .int .i64 o.radius, .slice ta tn tc, .string o.turns], .agg #[.int .i64 W, .int .i64 H, .slice a n c], .int .i64 k] w fun e w' => e = .returned (.bool true) ∧ Below w.heap.size w w' := by
  obtain ⟨w1, hw1⟩ : ∃ w1, (w.alloc (.cells #[.int .i64 o.kind, .int .i64 o.born, .int .i64 o.stay, .int .i64 o.states, .int .i64 o.radius, .slice ta tn tc, .string o.turns] 24)).alloc (.cells #[.int .i64 W, .int .i64 H, .slice a n c] 26) = w1 := ⟨_, rfl⟩
  have BB := hide' (show Below w.heap.size w w1 by rw [← hw1]; exact ((Below.refl _ _).alloc (Nat.le_refl _) _).alloc (by simp) _)
  have g0 : w1.heap[w.heap.size]? = some (.cells #[.int .i64 o.kind, .int .i64 o.born, .int .i64 o.stay, .int .i64 o.states, .int .i64 o.radius, .slice ta tn tc, .string o.turns] 24 (0, 0)) := by rw [← hw1, Below.heap_alloc _ _ _ (by simp; try omega)]; exact heap_atX _ _ _ (by simp)
  have g1 : w1.heap[w.heap.size + 1]? = some (.cells #[.int .i64 W, .int .i64 H, .slice a n c] 26 (0, 0)) := by rw [← hw1]; exact heap_atX _ _ _ (by simp)
  have SV := hide' (fun (V : World) (h : Below w1.heap.size w1 V) => show V.cell? ⟨w.heap.size, 0, none⟩ = some (.int .i64 o.kind) ∧ V.cell? ⟨w.heap.size, 1, none⟩ = some (.int .i64 o.born) ∧ V.cell? ⟨w.heap.size, 2, none⟩ = some (.int .i64 o.stay) ∧ V.cell? ⟨w.heap.size, 3, none⟩ = some (.int .i64 o.states) ∧ V.cell? ⟨w.heap.size, 4, none⟩ = some (.int .i64 o.radius) ∧ V.cell? ⟨w.heap.size, 5, none⟩ = some (.slice ta tn tc) ∧ V.cell? ⟨w.heap.size, 6, none⟩ = some (.string o.turns) ∧ V.cell? ⟨w.heap.size + 1, 0, none⟩ = some (.int .i64 W) ∧ V.cell? ⟨w.heap.size + 1, 1, none⟩ = some (.int .i64 H) ∧ V.cell? ⟨w.heap.size + 1, 2, none⟩ = some (.slice a n c) from by
    have e0 := (h.block _ (lt_of_block g0)).trans g0
    have e1 := (h.block _ (lt_of_block g1)).trans g1
    exact ⟨cell_of_row V _ 0 _ _ _ e0, cell_of_row V _ 1 _ _ _ e0, cell_of_row V _ 2 _ _ _ e0, cell_of_row V _ 3 _ _ _ e0, cell_of_row V _ 4 _ _ _ e0, cell_of_row V _ 5 _ _ _ e0, cell_of_row V _ 6 _ _ _ e0, cell_of_row V _ 0 _ _ _ e1, cell_of_row V _ 1 _ _ _ e1, cell_of_row V _ 2 _ _ _ e1⟩)
  have BW := hide' (fun (V : World) (h : Below w1.heap.size w1 V) => BB.out.trans (h.mono BB.out.size))
  have LV := hide' (fun (V : World) (h : Below w1.heap.size w1 V) => lives_any V (hT.below (BW.out V h)))
  have TP := hide' (fun (V : World) (h : Below w1.heap.size w1 V) => tp V (BW.out V h))
  have TO := hide' (fun (V : World) (h : Below w1.heap.size w1 V) => tor V (BW.out V h))
  have C0 := hide' (Below.refl w1.heap.size w1)
  obtain ⟨x0, x1, x2, x3, x4, x5, x6, y0, y1, y2⟩ := SV.out w1 C0.out
  have ER := hide' (errOf_pos f0)
  clear tp tor hT g0 g1
  go_enter Tryd.func7, Tryd.ntmps7
  go_wp2_with fail
  refine (LV.out w1 C0.out).mono ?_
  rintro e w2 ⟨rfl, b⟩
  have C1 := hide' (C0.out.trans (b.mono C0.out.size))
  clear hw1 b x0 x1 x2 x3 x4 x5 x6 y0 y1 y2 C0
  obtain ⟨x0, x1, x2, x3, x4, x5, x6, y0, y1, y2⟩ := SV.out _ C1.out
  go_wp2_with fail
  refine (TP.out w2 C1.out).mono ?_
  rintro e w3 ⟨pa, pn, pc, rfl, -, b⟩
  have C2 := hide' ((C1.out.trans (b.mono C1.out.size)).alloc (by have := C1.out.size; have := b.size; omega) (.cells #[.int .i64 qW, .int .i64 qH, .slice pa pn pc] 26))
  clear b x0 x1 x2 x3 x4 x5 x6 y0 y1 y2 C1
  obtain ⟨x0, x1, x2, x3, x4, x5, x6, y0, y1, y2⟩ := SV.out _ C2.out
  go_wp2_with fail
  refine (TO.out _ C2.out).mono ?_
  unfold TorBad
  rw [ER.out]
  rintro e w4 ⟨rfl, b⟩
  have C3 := hide' ((C2.out.trans (b.mono C2.out.size)).alloc (by have := C2.out.size; have := b.size; omega) (.cells #[.int .i64 0, .int .i64 0, .slice none 0 0] 26))
  clear b x0 x1 x2 x3 x4 x5 x6 y0 y1 y2 C2
  go_wp2
  go_ret
  exact ⟨rfl, BW.out _ C3.out⟩
set_option maxRecDepth 100000 in
set_option maxHeartbeats 12800000 in
theorem law_turns_c (o : Out) (ta : Option Addr) (tn tc : Nat) (W H : Int) (a : Option Addr) (n c : Nat) (k : Int) (qW qH aW aH bW bH : Int) (qs ds bs : List Int) (x y : AgR) (hS : AgS x y) (xn : -10000 ≤ x.r ∧ x.r ≤ 10000 ∧ -10000 ≤ x.d ∧ x.d ≤ 10000) (yn : -10000 ≤ y.r ∧ y.r ≤ 10000 ∧ -10000 ≤ y.d ∧ y.d ≤ 10000) (w : World) (hT : TzTab w)
    (tp : ∀ V, Below w.heap.size w V → Calls Tryd.prog 24 #[.agg #[.int .i64 W, .int .i64 H, .slice a n c], .int .i64 k] V (PatOut qW qH qs V))
    (tor : ∀ V, Below w.heap.size w V → Calls Tryd.prog 11 #[.agg #[.int .i64 o.kind, .int .i64 o.born, .int .i64 o.stay, .int .i64 o.states, .int .i64 o.radius, .slice ta tn tc, .string o.turns], .agg #[.int .i64 W, .int .i64 H, .slice a n c]] V (PatOut aW aH ds V))
    (tq : ∀ V a n c, Below w.heap.size w V → ArgP V qs a n c → Calls Tryd.prog 11 #[.agg #[.int .i64 o.kind, .int .i64 o.born, .int .i64 o.stay, .int .i64 o.states, .int .i64 o.radius, .slice ta tn tc, .string o.turns], .agg #[.int .i64 qW, .int .i64 qH, .slice a n c]] V (PatOut bW bH bs V))
    (tt : ∀ V a n c, Below w.heap.size w V → ArgP V ds a n c → Calls Tryd.prog 24 #[.agg #[.int .i64 aW, .int .i64 aH, .slice a n c], .int .i64 k] V (PatOut bW bH bs V))
    (ag : ∀ V, Below w.heap.size w V → Calls Tryd.prog 18 #[.agg #[.int .i64 o.kind, .int .i64 o.born, .int .i64 o.stay, .int .i64 o.states, .int .i64 o.radius, .slice ta tn tc, .string o.turns], .agg #[.int .i64 W, .int .i64 H, .slice a n c], .int .i64 16] V (AgainPost x V))
    (aq : ∀ V a n c, Below w.heap.size w V → ArgP V qs a n c → Calls Tryd.prog 18 #[.agg #[.int .i64 o.kind, .int .i64 o.born, .int .i64 o.stay, .int .i64 o.states, .int .i64 o.radius, .slice ta tn tc, .string o.turns], .agg #[.int .i64 qW, .int .i64 qH, .slice a n c], .int .i64 16] V (AgainPost y V)) :
    Calls Tryd.prog 7 #[.agg #[.int .i64 o.kind, .int .i64 o.born, .int .i64 o.stay, .int .i64 o.states, .int .i64 o.radius, .slice ta tn tc, .string o.turns], .agg #[.int .i64 W, .int .i64 H, .slice a n c], .int .i64 k] w fun e w' => e = .returned (.bool true) ∧ Below w.heap.size w w' := by
  obtain ⟨w1, hw1⟩ : ∃ w1, (w.alloc (.cells #[.int .i64 o.kind, .int .i64 o.born, .int .i64 o.stay, .int .i64 o.states, .int .i64 o.radius, .slice ta tn tc, .string o.turns] 24)).alloc (.cells #[.int .i64 W, .int .i64 H, .slice a n c] 26) = w1 := ⟨_, rfl⟩
  have BB := hide' (show Below w.heap.size w w1 by rw [← hw1]; exact ((Below.refl _ _).alloc (Nat.le_refl _) _).alloc (by simp) _)
  have g0 : w1.heap[w.heap.size]? = some (.cells #[.int .i64 o.kind, .int .i64 o.born, .int .i64 o.stay, .int .i64 o.states, .int .i64 o.radius, .slice ta tn tc, .string o.turns] 24 (0, 0)) := by rw [← hw1, Below.heap_alloc _ _ _ (by simp; try omega)]; exact heap_atX _ _ _ (by simp)
  have g1 : w1.heap[w.heap.size + 1]? = some (.cells #[.int .i64 W, .int .i64 H, .slice a n c] 26 (0, 0)) := by rw [← hw1]; exact heap_atX _ _ _ (by simp)
  have SV := hide' (fun (V : World) (h : Below w1.heap.size w1 V) => show V.cell? ⟨w.heap.size, 0, none⟩ = some (.int .i64 o.kind) ∧ V.cell? ⟨w.heap.size, 1, none⟩ = some (.int .i64 o.born) ∧ V.cell? ⟨w.heap.size, 2, none⟩ = some (.int .i64 o.stay) ∧ V.cell? ⟨w.heap.size, 3, none⟩ = some (.int .i64 o.states) ∧ V.cell? ⟨w.heap.size, 4, none⟩ = some (.int .i64 o.radius) ∧ V.cell? ⟨w.heap.size, 5, none⟩ = some (.slice ta tn tc) ∧ V.cell? ⟨w.heap.size, 6, none⟩ = some (.string o.turns) ∧ V.cell? ⟨w.heap.size + 1, 0, none⟩ = some (.int .i64 W) ∧ V.cell? ⟨w.heap.size + 1, 1, none⟩ = some (.int .i64 H) ∧ V.cell? ⟨w.heap.size + 1, 2, none⟩ = some (.slice a n c) from by
    have e0 := (h.block _ (lt_of_block g0)).trans g0
    have e1 := (h.block _ (lt_of_block g1)).trans g1
    exact ⟨cell_of_row V _ 0 _ _ _ e0, cell_of_row V _ 1 _ _ _ e0, cell_of_row V _ 2 _ _ _ e0, cell_of_row V _ 3 _ _ _ e0, cell_of_row V _ 4 _ _ _ e0, cell_of_row V _ 5 _ _ _ e0, cell_of_row V _ 6 _ _ _ e0, cell_of_row V _ 0 _ _ _ e1, cell_of_row V _ 1 _ _ _ e1, cell_of_row V _ 2 _ _ _ e1⟩)
  have BW := hide' (fun (V : World) (h : Below w1.heap.size w1 V) => BB.out.trans (h.mono BB.out.size))
  have LV := hide' (fun (V : World) (h : Below w1.heap.size w1 V) => lives_any V (hT.below (BW.out V h)))
  have TP := hide' (fun (V : World) (h : Below w1.heap.size w1 V) => tp V (BW.out V h))
  have TO := hide' (fun (V : World) (h : Below w1.heap.size w1 V) => tor V (BW.out V h))
  have TQ := hide' (fun (V : World) a n c (h : Below w1.heap.size w1 V) => tq V a n c (BW.out V h))
  have TT := hide' (fun (V : World) a n c (h : Below w1.heap.size w1 V) => tt V a n c (BW.out V h))
  have AG := hide' (fun (V : World) (h : Below w1.heap.size w1 V) => ag V (BW.out V h))
  have AQ := hide' (fun (V : World) a n c (h : Below w1.heap.size w1 V) => aq V a n c (BW.out V h))
  have HS := hide' hS
  have XN := hide' xn
  have YN := hide' yn
  have C0 := hide' (Below.refl w1.heap.size w1)
  obtain ⟨x0, x1, x2, x3, x4, x5, x6, y0, y1, y2⟩ := SV.out w1 C0.out
  clear tp tor tq tt ag aq hT g0 g1 hS xn yn
  go_enter Tryd.func7, Tryd.ntmps7
  go_wp2_with fail
  refine (LV.out w1 C0.out).mono ?_
  rintro e w2 ⟨rfl, b⟩
  have C1 := hide' (C0.out.trans (b.mono C0.out.size))
  clear hw1 b x0 x1 x2 x3 x4 x5 x6 y0 y1 y2 C0
  obtain ⟨x0, x1, x2, x3, x4, x5, x6, y0, y1, y2⟩ := SV.out _ C1.out
  go_wp2_with fail
  refine (TP.out w2 C1.out).mono ?_
  rintro e w3 ⟨qa, qn, qc, rfl, ap, b⟩
  have C2 := hide' (C1.out.trans (b.mono C1.out.size))
  clear b x0 x1 x2 x3 x4 x5 x6 y0 y1 y2 C1
  have Aq := hide' ap
  clear ap
  have C3 := hide' (C2.out.alloc C2.out.size (.cells #[.int .i64 qW, .int .i64 qH, .slice qa qn qc] 26))
  have Aq0 := hide' (Aq.out.alloc (.cells #[.int .i64 qW, .int .i64 qH, .slice qa qn qc] 26))
  have Gq0 := hide' (show (w3.alloc (.cells #[.int .i64 qW, .int .i64 qH, .slice qa qn qc] 26)).heap[w3.heap.size]? = some (.cells #[.int .i64 qW, .int .i64 qH, .slice qa qn qc] 26 (0, 0)) from heap_alloc_new _ _)
  clear Aq C2
  obtain ⟨x0, x1, x2, x3, x4, x5, x6, y0, y1, y2⟩ := SV.out _ C3.out
  go_wp2_with fail
  refine (TO.out _ C3.out).mono ?_
  rintro e w4 ⟨da, dn, dc, rfl, ap, b⟩
  have C4 := hide' (C3.out.trans (b.mono C3.out.size))
  have Gq4 := hide' ((b.block _ (lt_of_block Gq0.out)).trans Gq0.out)
  have Aq4 := hide' (Aq0.out.below b)
  clear b x0 x1 x2 x3 x4 x5 x6 y0 y1 y2 C3 Gq0 Aq0
  have Ad := hide' ap
  clear ap
  have C5 := hide' (C4.out.alloc C4.out.size (.cells #[.int .i64 aW, .int .i64 aH, .slice da dn dc] 26))
  have Gq5 := hide' ((Below.heap_alloc _ (.cells #[.int .i64 aW, .int .i64 aH, .slice da dn dc] 26) _ (lt_of_block Gq4.out)).trans Gq4.out)
  have Aq5 := hide' (Aq4.out.alloc (.cells #[.int .i64 aW, .int .i64 aH, .slice da dn dc] 26))
  have Ad0 := hide' (Ad.out.alloc (.cells #[.int .i64 aW, .int .i64 aH, .slice da dn dc] 26))
  have Gd0 := hide' (show (w4.alloc (.cells #[.int .i64 aW, .int .i64 aH, .slice da dn dc] 26)).heap[w4.heap.size]? = some (.cells #[.int .i64 aW, .int .i64 aH, .slice da dn dc] 26 (0, 0)) from heap_alloc_new _ _)
  clear Ad C4 Gq4 Aq4
  have z0 := cell_of_row _ _ 0 _ _ _ Gq5.out
  have z1 := cell_of_row _ _ 1 _ _ _ Gq5.out
  have z2 := cell_of_row _ _ 2 _ _ _ Gq5.out
  simp at z0 z1 z2
  obtain ⟨x0, x1, x2, x3, x4, x5, x6, y0, y1, y2⟩ := SV.out _ C5.out
  go_wp2_with fail
  refine (TQ.out _ qa qn qc C5.out Aq5.out).mono ?_
  rintro e w5 ⟨ea, en, ec, rfl, ap, b⟩
  have C6 := hide' (C5.out.trans (b.mono C5.out.size))
  have Gq6 := hide' ((b.block _ (lt_of_block Gq5.out)).trans Gq5.out)
  have Aq6 := hide' (Aq5.out.below b)
  have Gd6 := hide' ((b.block _ (lt_of_block Gd0.out)).trans Gd0.out)
  have Ad6 := hide' (Ad0.out.below b)
  clear b x0 x1 x2 x3 x4 x5 x6 y0 y1 y2 C5 Gq5 Aq5 Gd0 Ad0
  have Ae := hide' ap
  clear ap
  have C7 := hide' (C6.out.alloc C6.out.size (.cells #[.int .i64 bW, .int .i64 bH, .slice ea en ec] 26))
  have Gq7 := hide' ((Below.heap_alloc _ (.cells #[.int .i64 bW, .int .i64 bH, .slice ea en ec] 26) _ (lt_of_block Gq6.out)).trans Gq6.out)
  have Aq7 := hide' (Aq6.out.alloc (.cells #[.int .i64 bW, .int .i64 bH, .slice ea en ec] 26))
  have Gd7 := hide' ((Below.heap_alloc _ (.cells #[.int .i64 bW, .int .i64 bH, .slice ea en ec] 26) _ (lt_of_block Gd6.out)).trans Gd6.out)
  have Ad7 := hide' (Ad6.out.alloc (.cells #[.int .i64 bW, .int .i64 bH, .slice ea en ec] 26))
  have Ae0 := hide' (Ae.out.alloc (.cells #[.int .i64 bW, .int .i64 bH, .slice ea en ec] 26))
  have Ge0 := hide' (show (w5.alloc (.cells #[.int .i64 bW, .int .i64 bH, .slice ea en ec] 26)).heap[w5.heap.size]? = some (.cells #[.int .i64 bW, .int .i64 bH, .slice ea en ec] 26 (0, 0)) from heap_alloc_new _ _)
  clear Ae C6 Gq6 Aq6 Gd6 Ad6
  clear z0 z1 z2
  have z0 := cell_of_row _ _ 0 _ _ _ Gd7.out
  have z1 := cell_of_row _ _ 1 _ _ _ Gd7.out
  have z2 := cell_of_row _ _ 2 _ _ _ Gd7.out
  simp at z0 z1 z2
  obtain ⟨x0, x1, x2, x3, x4, x5, x6, y0, y1, y2⟩ := SV.out _ C7.out
  go_wp2_with fail
  refine (TT.out _ da dn dc C7.out Ad7.out).mono ?_
  rintro e w6 ⟨fa, fn, fc, rfl, ap, b⟩
  have C8 := hide' (C7.out.trans (b.mono C7.out.size))
  have Gq8 := hide' ((b.block _ (lt_of_block Gq7.out)).trans Gq7.out)
  have Aq8 := hide' (Aq7.out.below b)
  have Gd8 := hide' ((b.block _ (lt_of_block Gd7.out)).trans Gd7.out)
  have Ad8 := hide' (Ad7.out.below b)
  have Ge8 := hide' ((b.block _ (lt_of_block Ge0.out)).trans Ge0.out)
  have Ae8 := hide' (Ae0.out.below b)
  clear b x0 x1 x2 x3 x4 x5 x6 y0 y1 y2 C7 Gq7 Aq7 Gd7 Ad7 Ge0 Ae0
  have Af := hide' ap
  clear ap
  have C9 := hide' (C8.out.alloc C8.out.size (.cells #[.int .i64 bW, .int .i64 bH, .slice fa fn fc] 26))
  have Gq9 := hide' ((Below.heap_alloc _ (.cells #[.int .i64 bW, .int .i64 bH, .slice fa fn fc] 26) _ (lt_of_block Gq8.out)).trans Gq8.out)
  have Aq9 := hide' (Aq8.out.alloc (.cells #[.int .i64 bW, .int .i64 bH, .slice fa fn fc] 26))
  have Gd9 := hide' ((Below.heap_alloc _ (.cells #[.int .i64 bW, .int .i64 bH, .slice fa fn fc] 26) _ (lt_of_block Gd8.out)).trans Gd8.out)
  have Ad9 := hide' (Ad8.out.alloc (.cells #[.int .i64 bW, .int .i64 bH, .slice fa fn fc] 26))
  have Ge9 := hide' ((Below.heap_alloc _ (.cells #[.int .i64 bW, .int .i64 bH, .slice fa fn fc] 26) _ (lt_of_block Ge8.out)).trans Ge8.out)
  have Ae9 := hide' (Ae8.out.alloc (.cells #[.int .i64 bW, .int .i64 bH, .slice fa fn fc] 26))
  have Af0 := hide' (Af.out.alloc (.cells #[.int .i64 bW, .int .i64 bH, .slice fa fn fc] 26))
  have Gf0 := hide' (show (w6.alloc (.cells #[.int .i64 bW, .int .i64 bH, .slice fa fn fc] 26)).heap[w6.heap.size]? = some (.cells #[.int .i64 bW, .int .i64 bH, .slice fa fn fc] 26 (0, 0)) from heap_alloc_new _ _)
  clear Af C8 Gq8 Aq8 Gd8 Ad8 Ge8 Ae8
  clear z0 z1 z2
  have z0 := cell_of_row _ _ 0 _ _ _ Ge9.out
  have z1 := cell_of_row _ _ 1 _ _ _ Ge9.out
  have z2 := cell_of_row _ _ 2 _ _ _ Ge9.out
  simp at z0 z1 z2
  have v0 := cell_of_row _ _ 0 _ _ _ Gf0.out
  have v1 := cell_of_row _ _ 1 _ _ _ Gf0.out
  have v2 := cell_of_row _ _ 2 _ _ _ Gf0.out
  simp at v0 v1 v2
  go_wp2_with fail
  refine (Alike_any bW bH bW bH bs bs ea fa en ec fn fc _ Ae9.out Af0.out).mono ?_
  simp only [decide_true, beq_self_eq_true, Bool.and_self]
  rintro e w7 ⟨rfl, b⟩
  have C10 := hide' (C9.out.trans (b.mono C9.out.size))
  have Gq10 := hide' ((b.block _ (lt_of_block Gq9.out)).trans Gq9.out)
  have Aq10 := hide' (Aq9.out.below b)
  clear b C9 Gq9 Aq9 z0 z1 z2 v0 v1 v2
  have HN := hide' (show y.n = x.n from HS.out.1.symm)
  by_cases xf : x.f = 0
  · have XE := hide' (show errOf x.f = .nilIface by rw [xf]; rfl)
    have YE := hide' (show errOf y.f = .nilIface by rw [← HS.out.2.1, xf]; rfl)
    obtain ⟨xn, xr, xd, xz⟩ := x
    obtain ⟨yn', yr, yd, yz⟩ := y
    dsimp only at HN XE YE XN YN HS AG AQ
    have q1 := sq_near XN.out.1 XN.out.2.1
    have q2 := sq_near XN.out.2.2.1 XN.out.2.2.2
    have q3 := sq_near YN.out.1 YN.out.2.1
    have q4 := sq_near YN.out.2.2.1 YN.out.2.2.2
    have hsq : xr * xr + xd * xd = yr * yr + yd * yd := HS.out.2.2
    have m1 : IntKind.i64.wrap (xr * xr) = xr * xr := wrap_near (by omega) (by omega)
    have m2 : IntKind.i64.wrap (xd * xd) = xd * xd := wrap_near (by omega) (by omega)
    have m3 : IntKind.i64.wrap (yr * yr) = yr * yr := wrap_near (by omega) (by omega)
    have m4 : IntKind.i64.wrap (yd * yd) = yd * yd := wrap_near (by omega) (by omega)
    have m5 : IntKind.i64.wrap (xr * xr + xd * xd) = xr * xr + xd * xd := wrap_near (by omega) (by omega)
    have m6 : IntKind.i64.wrap (yr * yr + yd * yd) = xr * xr + xd * xd := by rw [← hsq]; exact m5
    have hn : yn' = xn := HN.out
    subst hn
    clear xf q1 q2 q3 q4 hsq
    obtain ⟨x0, x1, x2, x3, x4, x5, x6, y0, y1, y2⟩ := SV.out _ C10.out
    go_wp2_with fail
    refine (AG.out _ C10.out).mono ?_
    unfold AgainPost agV
    rw [XE.out]
    rintro e w8 ⟨rfl, b⟩
    have C11 := hide' (C10.out.trans (b.mono C10.out.size))
    have Gq11 := hide' ((b.block _ (lt_of_block Gq10.out)).trans Gq10.out)
    have Aq11 := hide' (Aq10.out.below b)
    clear b x0 x1 x2 x3 x4 x5 x6 y0 y1 y2 C10 Gq10 Aq10 
    have C12 := hide' (C11.out.alloc C11.out.size (.cells #[.int .i64 (yn' : Int), .int .i64 xr, .int .i64 xd] 43))
    have Gq12 := hide' ((Below.heap_alloc _ (.cells #[.int .i64 (yn' : Int), .int .i64 xr, .int .i64 xd] 43) _ (lt_of_block Gq11.out)).trans Gq11.out)
    have Aq12 := hide' (Aq11.out.alloc (.cells #[.int .i64 (yn' : Int), .int .i64 xr, .int .i64 xd] 43))
    have Gx0 := hide' (show (w8.alloc (.cells #[.int .i64 (yn' : Int), .int .i64 xr, .int .i64 xd] 43)).heap[w8.heap.size]? = some (.cells #[.int .i64 (yn' : Int), .int .i64 xr, .int .i64 xd] 43 (0, 0)) from heap_alloc_new _ _)
    clear C11 Gq11 Aq11
    have z0 := cell_of_row _ _ 0 _ _ _ Gq12.out
    have z1 := cell_of_row _ _ 1 _ _ _ Gq12.out
    have z2 := cell_of_row _ _ 2 _ _ _ Gq12.out
    simp at z0 z1 z2
    obtain ⟨x0, x1, x2, x3, x4, x5, x6, y0, y1, y2⟩ := SV.out _ C12.out
    go_wp2_with fail
    refine (AQ.out _ qa qn qc C12.out Aq12.out).mono ?_
    unfold AgainPost agV
    rw [YE.out]
    rintro e w9 ⟨rfl, b⟩
    have C13 := hide' (C12.out.trans (b.mono C12.out.size))
    have Gq13 := hide' ((b.block _ (lt_of_block Gq12.out)).trans Gq12.out)
    have Aq13 := hide' (Aq12.out.below b)
    have Gx13 := hide' ((b.block _ (lt_of_block Gx0.out)).trans Gx0.out)
    clear b x0 x1 x2 x3 x4 x5 x6 y0 y1 y2 C12 Gq12 Aq12 Gx0 z0 z1 z2
    have C14 := hide' (C13.out.alloc C13.out.size (.cells #[.int .i64 (yn' : Int), .int .i64 yr, .int .i64 yd] 43))
    have Gq14 := hide' ((Below.heap_alloc _ (.cells #[.int .i64 (yn' : Int), .int .i64 yr, .int .i64 yd] 43) _ (lt_of_block Gq13.out)).trans Gq13.out)
    have Aq14 := hide' (Aq13.out.alloc (.cells #[.int .i64 (yn' : Int), .int .i64 yr, .int .i64 yd] 43))
    have Gx14 := hide' ((Below.heap_alloc _ (.cells #[.int .i64 (yn' : Int), .int .i64 yr, .int .i64 yd] 43) _ (lt_of_block Gx13.out)).trans Gx13.out)
    have Gy0 := hide' (show (w9.alloc (.cells #[.int .i64 (yn' : Int), .int .i64 yr, .int .i64 yd] 43)).heap[w9.heap.size]? = some (.cells #[.int .i64 (yn' : Int), .int .i64 yr, .int .i64 yd] 43 (0, 0)) from heap_alloc_new _ _)
    clear C13 Gq13 Aq13 Gx13
    have z0 := cell_of_row _ _ 0 _ _ _ Gx14.out
    have v0 := cell_of_row _ _ 0 _ _ _ Gy0.out
    have z1 := cell_of_row _ _ 1 _ _ _ Gx14.out
    have v1 := cell_of_row _ _ 1 _ _ _ Gy0.out
    have z2 := cell_of_row _ _ 2 _ _ _ Gx14.out
    have v2 := cell_of_row _ _ 2 _ _ _ Gy0.out
    simp at z0 z1 z2 v0 v1 v2
    go_wp2
    go_ret
    exact ⟨rfl, BW.out _ C14.out⟩
  · have XE := hide' (errOf_pos xf)
    have YE := hide' (errOf_pos (show y.f ≠ 0 by rw [← HS.out.2.1]; exact xf))
    clear xf
    obtain ⟨x0, x1, x2, x3, x4, x5, x6, y0, y1, y2⟩ := SV.out _ C10.out
    go_wp2_with fail
    refine (AG.out _ C10.out).mono ?_
    unfold AgainPost agV
    rw [XE.out]
    rintro e w8 ⟨rfl, b⟩
    have C11 := hide' (C10.out.trans (b.mono C10.out.size))
    have Gq11 := hide' ((b.block _ (lt_of_block Gq10.out)).trans Gq10.out)
    have Aq11 := hide' (Aq10.out.below b)
    clear b x0 x1 x2 x3 x4 x5 x6 y0 y1 y2 C10 Gq10 Aq10 
    have C12 := hide' (C11.out.alloc C11.out.size (.cells #[.int .i64 (x.n : Int), .int .i64 x.r, .int .i64 x.d] 43))
    have Gq12 := hide' ((Below.heap_alloc _ (.cells #[.int .i64 (x.n : Int), .int .i64 x.r, .int .i64 x.d] 43) _ (lt_of_block Gq11.out)).trans Gq11.out)
    have Aq12 := hide' (Aq11.out.alloc (.cells #[.int .i64 (x.n : Int), .int .i64 x.r, .int .i64 x.d] 43))
    have Gx0 := hide' (show (w8.alloc (.cells #[.int .i64 (x.n : Int), .int .i64 x.r, .int .i64 x.d] 43)).heap[w8.heap.size]? = some (.cells #[.int .i64 (x.n : Int), .int .i64 x.r, .int .i64 x.d] 43 (0, 0)) from heap_alloc_new _ _)
    clear C11 Gq11 Aq11
    have z0 := cell_of_row _ _ 0 _ _ _ Gq12.out
    have z1 := cell_of_row _ _ 1 _ _ _ Gq12.out
    have z2 := cell_of_row _ _ 2 _ _ _ Gq12.out
    simp at z0 z1 z2
    obtain ⟨x0, x1, x2, x3, x4, x5, x6, y0, y1, y2⟩ := SV.out _ C12.out
    go_wp2_with fail
    refine (AQ.out _ qa qn qc C12.out Aq12.out).mono ?_
    unfold AgainPost agV
    rw [YE.out]
    rintro e w9 ⟨rfl, b⟩
    have C13 := hide' (C12.out.trans (b.mono C12.out.size))
    have Gq13 := hide' ((b.block _ (lt_of_block Gq12.out)).trans Gq12.out)
    have Aq13 := hide' (Aq12.out.below b)
    have Gx13 := hide' ((b.block _ (lt_of_block Gx0.out)).trans Gx0.out)
    clear b x0 x1 x2 x3 x4 x5 x6 y0 y1 y2 C12 Gq12 Aq12 Gx0 z0 z1 z2
    have C14 := hide' (C13.out.alloc C13.out.size (.cells #[.int .i64 (y.n : Int), .int .i64 y.r, .int .i64 y.d] 43))
    have Gq14 := hide' ((Below.heap_alloc _ (.cells #[.int .i64 (y.n : Int), .int .i64 y.r, .int .i64 y.d] 43) _ (lt_of_block Gq13.out)).trans Gq13.out)
    have Aq14 := hide' (Aq13.out.alloc (.cells #[.int .i64 (y.n : Int), .int .i64 y.r, .int .i64 y.d] 43))
    have Gx14 := hide' ((Below.heap_alloc _ (.cells #[.int .i64 (y.n : Int), .int .i64 y.r, .int .i64 y.d] 43) _ (lt_of_block Gx13.out)).trans Gx13.out)
    have Gy0 := hide' (show (w9.alloc (.cells #[.int .i64 (y.n : Int), .int .i64 y.r, .int .i64 y.d] 43)).heap[w9.heap.size]? = some (.cells #[.int .i64 (y.n : Int), .int .i64 y.r, .int .i64 y.d] 43 (0, 0)) from heap_alloc_new _ _)
    clear C13 Gq13 Aq13 Gx13
    go_wp2
    go_ret
    exact ⟨rfl, BW.out _ C14.out⟩
theorem law_turns_all (o : Out) (ta : Option Addr) (tn tc : Nat) (W H : Int) (xs : List Int) (a : Option Addr) (n c : Nat) (k : Int) (w : World) (hR : ArgR w o ta tn tc) (hP : ArgP w xs a n c) (hT : TzTab w) :
    Calls Tryd.prog 7 #[.agg #[.int .i64 o.kind, .int .i64 o.born, .int .i64 o.stay, .int .i64 o.states, .int .i64 o.radius, .slice ta tn tc, .string o.turns], .agg #[.int .i64 W, .int .i64 H, .slice a n c], .int .i64 k] w fun e w' => e = .returned (.bool true) ∧ Below w.heap.size w w' := by
  by_cases hsh : shapeF W H xs = 0
  · by_cases hk : k < 0 ∨ 7 < k
    · exact law_turns_a o ta tn tc W H a n c k 1 w hT (fun V hV => pTurn_k W H k xs a n c V (hP.below hV) hsh hk) (fun V hV => torus_any o ta tn tc W H xs a n c V (hR.below hV) (hP.below hV))
    · obtain ⟨j, rfl⟩ : ∃ j : Nat, k = (j : Int) := ⟨k.toNat, by omega⟩
      have hj : j < 8 := by omega
      obtain ⟨Wn, Hn, rfl, rfl, hW, hH, hn, hx⟩ := shape_sides hsh
      have bp : bitsP ⟨Wn, Hn, xs⟩ := ⟨hn, hx⟩
      have tp : ∀ V, Below w.heap.size w V → Calls Tryd.prog 24 #[.agg #[.int .i64 (Wn : Int), .int .i64 (Hn : Int), .slice a n c], .int .i64 (j : Int)] V (PatOut (((⟨Wn, Hn, xs⟩ : Pat).turn j).W : Int) (((⟨Wn, Hn, xs⟩ : Pat).turn j).H : Int) ((⟨Wn, Hn, xs⟩ : Pat).turn j).xs V) := fun V hV => turn_arg ⟨Wn, Hn, xs⟩ j a n c V (hP.below hV) bp hW hH hj
      obtain ⟨f, hf⟩ := plaE_has o (Wn : Int) (Hn : Int) xs
      by_cases f0 : f = 0
      · subst f0
        obtain ⟨born, stay, hb, hs, b5, s5, _, _⟩ := pla_good hf
        obtain ⟨sW, sH⟩ := turn_sides (p := ⟨Wn, Hn, xs⟩) bp.1 hj hW hH
        have bq := bp.turn j
        have hfq := plaE_turn (p := ⟨Wn, Hn, xs⟩) hf bq sW sH
        have bt : bitsP (torP born stay ⟨Wn, Hn, xs⟩) := ⟨torL_length .., fun k => by
          unfold torP torL
          exact mapR_bits _ _ (fun i => by unfold torV; have := becN_le born stay (xs.getD i 0) (torS Wn Hn xs (i % Wn) (i / Wn) 9).toNat; dsimp only; omega) k⟩
        refine law_turns_c o ta tn tc (Wn : Int) (Hn : Int) a n c (j : Int) _ _ (Wn : Int) (Hn : Int) (((⟨Wn, Hn, xs⟩ : Pat).turn j).W : Int) (((⟨Wn, Hn, xs⟩ : Pat).turn j).H : Int) _ (torL born stay Wn Hn xs) (torL born stay ((⟨Wn, Hn, xs⟩ : Pat).turn j).W ((⟨Wn, Hn, xs⟩ : Pat).turn j).H ((⟨Wn, Hn, xs⟩ : Pat).turn j).xs) (agX born stay ⟨Wn, Hn, xs⟩) (agX born stay ((⟨Wn, Hn, xs⟩ : Pat).turn j)) (agX_turn bp j) (agX_near (p := ⟨Wn, Hn, xs⟩) hx hW hH) (agX_near bq.2 sW sH) w hT tp ?_ ?_ ?_ ?_ ?_
        · exact fun V hV => torus_arg o ta tn tc Wn Hn xs a n c born stay V (hR.below hV) (hP.below hV) hf hb hs b5 s5 hn hx hW hH
        · exact fun V a n c hV hA => torus_arg o ta tn tc _ _ _ a n c born stay V (hR.below hV) hA hfq hb hs b5 s5 bq.1 bq.2 sW sH
        · intro V a n c hV hA
          have t := turn_arg (torP born stay ⟨Wn, Hn, xs⟩) j a n c V hA bt hW hH hj
          rw [← torP_turn] at t
          exact t
        · exact fun V hV => again_arg o ta tn tc ⟨Wn, Hn, xs⟩ a n c born stay V (hR.below hV) (hP.below hV) (hT.below hV) hf hb hs b5 s5 bp hW hH
        · exact fun V a n c hV hA => again_arg o ta tn tc _ a n c born stay V (hR.below hV) hA (hT.below hV) hfq hb hs b5 s5 bq sW sH
      · exact law_turns_b o ta tn tc (Wn : Int) (Hn : Int) a n c (j : Int) _ _ _ f f0 w hT tp (fun V hV => torus_bad o ta tn tc (Wn : Int) (Hn : Int) xs a n c f V (hR.below hV) (hP.below hV) hf f0)
  · exact law_turns_a o ta tn tc W H a n c k (shapeF W H xs) w hT (fun V hV => pTurn_bad W H k xs a n c V (hP.below hV) hsh) (fun V hV => torus_any o ta tn tc W H xs a n c V (hR.below hV) (hP.below hV))
end Go.Proofs.YtdbgdfodoceadaaDoor

