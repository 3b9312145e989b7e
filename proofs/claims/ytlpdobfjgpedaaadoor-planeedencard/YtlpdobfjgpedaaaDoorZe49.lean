/-
  What the last text of this claim leans on, part 49: LawEdc, LawEdd.
-/
import Derived.Test.YtlpdobfjgpedaaaDoorZe47
namespace Go.Proofs.YtlpdobfjgpedaaaDoor
open Go.RowKit
set_option linter.unusedVariables false
set_option maxRecDepth 100000 in
set_option maxHeartbeats 12800000 in
theorem law_eden_c1 (o : Out) (ta : Option Addr) (tn tc : Nat) (W H : Int) (a : Option Addr) (n c : Nat) (X Y : Int) (d : Option Addr) (k l : Nat) (f : Nat) (f0 : f ≠ 0) (sh : Nat) (s0 : (sh : Int) ≠ 0) (g : Nat) (gn : g ≠ 0) (w : World) (hT : TzTab w)
    (par : ∀ V, Below w.heap.size w V → Calls Tryd.prog 8 #[.agg #[.int .i64 o.kind, .int .i64 o.born, .int .i64 o.stay, .int .i64 o.states, .int .i64 o.radius, .slice ta tn tc, .string o.turns], .agg #[.int .i64 W, .int .i64 H, .slice a n c]] V (TorBad f V))
    (err : ∀ V, Below w.heap.size w V → Calls Tryd.prog 9 #[.iface 54 (.int .i64 (f : Int)), .int .i64 5] V (BoolIs true V))
    (shp : ∀ V, Below w.heap.size w V → Calls Tryd.prog 13 #[.agg #[.int .i64 X, .int .i64 Y, .slice d k l]] V (fun e w' => e = .returned (.int .i64 (sh : Int)) ∧ Below V.heap.size V w'))
    (tor : ∀ V, Below w.heap.size w V → Calls Tryd.prog 14 #[.agg #[.int .i64 o.kind, .int .i64 o.born, .int .i64 o.stay, .int .i64 o.states, .int .i64 o.radius, .slice ta tn tc, .string o.turns], .agg #[.int .i64 X, .int .i64 Y, .slice d k l]] V (TorBad g V)) :
    Calls Tryd.prog 4 #[.agg #[.int .i64 o.kind, .int .i64 o.born, .int .i64 o.stay, .int .i64 o.states, .int .i64 o.radius, .slice ta tn tc, .string o.turns], .agg #[.int .i64 W, .int .i64 H, .slice a n c], .agg #[.int .i64 X, .int .i64 Y, .slice d k l]] w fun e w' => e = .returned (.bool true) ∧ Below w.heap.size w w' := by
  obtain ⟨w1, hw1⟩ : ∃ w1, ((w.alloc (.cells #[.int .i64 o.kind, .int .i64 o.born, .int .i64 o.stay, .int .i64 o.states, .int .i64 o.radius, .slice ta tn tc, .string o.turns] 24)).alloc (.cells #[.int .i64 W, .int .i64 H, .slice a n c] 26)).alloc (.cells #[.int .i64 X, .int .i64 Y, .slice d k l] 26) = w1 := ⟨_, rfl⟩
  have BB := hide' (show Below w.heap.size w w1 by rw [← hw1]; exact (((Below.refl _ _).alloc (Nat.le_refl _) _).alloc (by simp) _).alloc (by simp; try omega) _)
  have g0 : w1.heap[w.heap.size]? = some (.cells #[.int .i64 o.kind, .int .i64 o.born, .int .i64 o.stay, .int .i64 o.states, .int .i64 o.radius, .slice ta tn tc, .string o.turns] 24 (0, 0)) := by rw [← hw1, Below.heap_alloc _ _ _ (by simp; try omega), Below.heap_alloc _ _ _ (by simp; try omega)]; exact heap_atX _ _ _ (by simp)
  have g1 : w1.heap[w.heap.size + 1]? = some (.cells #[.int .i64 W, .int .i64 H, .slice a n c] 26 (0, 0)) := by rw [← hw1, Below.heap_alloc _ _ _ (by simp; try omega)]; exact heap_atX _ _ _ (by simp)
  have g2 : w1.heap[w.heap.size + 1 + 1]? = some (.cells #[.int .i64 X, .int .i64 Y, .slice d k l] 26 (0, 0)) := by rw [← hw1]; exact heap_atX _ _ _ (by simp)
  have SV := hide' (fun (V : World) (h : Below w1.heap.size w1 V) => show V.cell? ⟨w.heap.size, 0, none⟩ = some (.int .i64 o.kind) ∧ V.cell? ⟨w.heap.size, 1, none⟩ = some (.int .i64 o.born) ∧ V.cell? ⟨w.heap.size, 2, none⟩ = some (.int .i64 o.stay) ∧ V.cell? ⟨w.heap.size, 3, none⟩ = some (.int .i64 o.states) ∧ V.cell? ⟨w.heap.size, 4, none⟩ = some (.int .i64 o.radius) ∧ V.cell? ⟨w.heap.size, 5, none⟩ = some (.slice ta tn tc) ∧ V.cell? ⟨w.heap.size, 6, none⟩ = some (.string o.turns) ∧ V.cell? ⟨w.heap.size + 1, 0, none⟩ = some (.int .i64 W) ∧ V.cell? ⟨w.heap.size + 1, 1, none⟩ = some (.int .i64 H) ∧ V.cell? ⟨w.heap.size + 1, 2, none⟩ = some (.slice a n c) ∧ V.cell? ⟨w.heap.size + 1 + 1, 0, none⟩ = some (.int .i64 X) ∧ V.cell? ⟨w.heap.size + 1 + 1, 1, none⟩ = some (.int .i64 Y) ∧ V.cell? ⟨w.heap.size + 1 + 1, 2, none⟩ = some (.slice d k l) from by
    have e0 := (h.block _ (lt_of_block g0)).trans g0
    have e1 := (h.block _ (lt_of_block g1)).trans g1
    have e2 := (h.block _ (lt_of_block g2)).trans g2
    exact ⟨cell_of_row V _ 0 _ _ _ e0, cell_of_row V _ 1 _ _ _ e0, cell_of_row V _ 2 _ _ _ e0, cell_of_row V _ 3 _ _ _ e0, cell_of_row V _ 4 _ _ _ e0, cell_of_row V _ 5 _ _ _ e0, cell_of_row V _ 6 _ _ _ e0, cell_of_row V _ 0 _ _ _ e1, cell_of_row V _ 1 _ _ _ e1, cell_of_row V _ 2 _ _ _ e1, cell_of_row V _ 0 _ _ _ e2, cell_of_row V _ 1 _ _ _ e2, cell_of_row V _ 2 _ _ _ e2⟩)
  have BW := hide' (fun (V : World) (h : Below w1.heap.size w1 V) => BB.out.trans (h.mono BB.out.size))
  have LV := hide' (fun (V : World) (h : Below w1.heap.size w1 V) => lives_any V (hT.below (BW.out V h)))
  have PA := hide' (fun (V : World) (h : Below w1.heap.size w1 V) => par V (BW.out V h))
  have ER := hide' (fun (V : World) (h : Below w1.heap.size w1 V) => err V (BW.out V h))
  have SH := hide' (fun (V : World) (h : Below w1.heap.size w1 V) => shp V (BW.out V h))
  have TO := hide' (fun (V : World) (h : Below w1.heap.size w1 V) => tor V (BW.out V h))
  have EF := hide' (errOf_is5 f0)
  have EG := hide' (errOf_is5 gn)
  have C0 := hide' (Below.refl w1.heap.size w1)
  obtain ⟨x0, x1, x2, x3, x4, x5, x6, y0, y1, y2, z0, z1, z2⟩ := SV.out w1 C0.out
  clear hT g0 g1 g2 par err shp tor f0 gn
  go_enter Tryd.func4, Tryd.ntmps4
  go_wp2_with fail
  refine (LV.out w1 C0.out).mono ?_
  rintro e w2 ⟨rfl, b⟩
  clear hw1 x0 x1 x2 x3 x4 x5 x6 y0 y1 y2 z0 z1 z2
  have C1 := hide' (C0.out.trans (b.mono C0.out.size))
  clear b C0
  obtain ⟨x0, x1, x2, x3, x4, x5, x6, y0, y1, y2, z0, z1, z2⟩ := SV.out _ C1.out
  go_wp2_with fail
  refine (PA.out w2 C1.out).mono ?_
  unfold TorBad
  rw [EF.out]
  rintro e w3 ⟨rfl, b⟩
  clear x0 x1 x2 x3 x4 x5 x6 y0 y1 y2 z0 z1 z2
  have C2 := hide' (C1.out.trans (b.mono C1.out.size))
  clear b C1
  have C3 := hide' (C2.out.alloc C2.out.size (.cells #[.int .i64 0, .int .i64 0, .slice none 0 0] 26))
  clear C2
  go_wp2_with fail
  refine (ER.out _ C3.out).mono ?_
  rintro e w4 ⟨rfl, b⟩
  have C4 := hide' (C3.out.trans (b.mono C3.out.size))
  clear b C3
  obtain ⟨x0, x1, x2, x3, x4, x5, x6, y0, y1, y2, z0, z1, z2⟩ := SV.out _ C4.out
  go_wp2_with fail
  refine (SH.out _ C4.out).mono ?_
  rintro e w5 ⟨rfl, b⟩
  clear x0 x1 x2 x3 x4 x5 x6 y0 y1 y2 z0 z1 z2
  have C5 := hide' (C4.out.trans (b.mono C4.out.size))
  clear b C4
  obtain ⟨x0, x1, x2, x3, x4, x5, x6, y0, y1, y2, z0, z1, z2⟩ := SV.out _ C5.out
  go_wp2_with fail
  refine (TO.out _ C5.out).mono ?_
  unfold TorBad
  rw [EG.out]
  rintro e w6 ⟨rfl, b⟩
  clear x0 x1 x2 x3 x4 x5 x6 y0 y1 y2 z0 z1 z2
  have C6 := hide' (C5.out.trans (b.mono C5.out.size))
  clear b C5
  have C7 := hide' (C6.out.alloc C6.out.size (.cells #[.int .i64 0, .int .i64 0, .slice none 0 0] 26))
  clear C6
  have Gb0 := hide' (show (w6.alloc (.cells #[.int .i64 0, .int .i64 0, .slice none 0 0] 26)).heap[w6.heap.size]? = some (.cells #[.int .i64 0, .int .i64 0, .slice none 0 0] 26 (0, 0)) from heap_alloc_new _ _)
  go_wp2
  go_ret
  exact ⟨rfl, BW.out _ C7.out⟩
set_option maxRecDepth 100000 in
set_option maxHeartbeats 12800000 in
theorem law_eden_c2 (o : Out) (ta : Option Addr) (tn tc : Nat) (W H : Int) (a : Option Addr) (n c : Nat) (X Y : Int) (d : Option Addr) (k l : Nat) (f : Nat) (f0 : f ≠ 0) (sh : Nat) (s0 : (sh : Int) ≠ 0) (bW bH : Int) (hout : bW < 2 ∨ bH < 2 ∨ 7 < bW ∨ 7 < bH) (w : World) (hT : TzTab w)
    (par : ∀ V, Below w.heap.size w V → Calls Tryd.prog 8 #[.agg #[.int .i64 o.kind, .int .i64 o.born, .int .i64 o.stay, .int .i64 o.states, .int .i64 o.radius, .slice ta tn tc, .string o.turns], .agg #[.int .i64 W, .int .i64 H, .slice a n c]] V (TorBad f V))
    (err : ∀ V, Below w.heap.size w V → Calls Tryd.prog 9 #[.iface 54 (.int .i64 (f : Int)), .int .i64 5] V (BoolIs true V))
    (shp : ∀ V, Below w.heap.size w V → Calls Tryd.prog 13 #[.agg #[.int .i64 X, .int .i64 Y, .slice d k l]] V (fun e w' => e = .returned (.int .i64 (sh : Int)) ∧ Below V.heap.size V w'))
    (tor : ∀ V, Below w.heap.size w V → Calls Tryd.prog 14 #[.agg #[.int .i64 o.kind, .int .i64 o.born, .int .i64 o.stay, .int .i64 o.states, .int .i64 o.radius, .slice ta tn tc, .string o.turns], .agg #[.int .i64 X, .int .i64 Y, .slice d k l]] V (PatAs bW bH V)) :
    Calls Tryd.prog 4 #[.agg #[.int .i64 o.kind, .int .i64 o.born, .int .i64 o.stay, .int .i64 o.states, .int .i64 o.radius, .slice ta tn tc, .string o.turns], .agg #[.int .i64 W, .int .i64 H, .slice a n c], .agg #[.int .i64 X, .int .i64 Y, .slice d k l]] w fun e w' => e = .returned (.bool true) ∧ Below w.heap.size w w' := by
  obtain ⟨w1, hw1⟩ : ∃ w1, ((w.alloc (.cells #[.int .i64 o.kind, .int .i64 o.born, .int .i64 o.stay, .int .i64 o.states, .int .i64 o.radius, .slice ta tn tc, .string o.turns] 24)).alloc (.cells #[.int .i64 W, .int .i64 H, .slice a n c] 26)).alloc (.cells #[.int .i64 X, .int .i64 Y, .slice d k l] 26) = w1 := ⟨_, rfl⟩
  have BB := hide' (show Below w.heap.size w w1 by rw [← hw1]; exact (((Below.refl _ _).alloc (Nat.le_refl _) _).alloc (by simp) _).alloc (by simp; try omega) _)
  have g0 : w1.heap[w.heap.size]? = some (.cells #[.int .i64 o.kind, .int .i64 o.born, .int .i64 o.stay, .int .i64 o.states, .int .i64 o.radius, .slice ta tn tc, .string o.turns] 24 (0, 0)) := by rw [← hw1, Below.heap_alloc _ _ _ (by simp; try omega), Below.heap_alloc _ _ _ (by simp; try omega)]; exact heap_atX _ _ _ (by simp)
  have g1 : w1.heap[w.heap.size + 1]? = some (.cells #[.int .i64 W, .int .i64 H, .slice a n c] 26 (0, 0)) := by rw [← hw1, Below.heap_alloc _ _ _ (by simp; try omega)]; exact heap_atX _ _ _ (by simp)
  have g2 : w1.heap[w.heap.size + 1 + 1]? = some (.cells #[.int .i64 X, .int .i64 Y, .slice d k l] 26 (0, 0)) := by rw [← hw1]; exact heap_atX _ _ _ (by simp)
  have SV := hide' (fun (V : World) (h : Below w1.heap.size w1 V) => show V.cell? ⟨w.heap.size, 0, none⟩ = some (.int .i64 o.kind) ∧ V.cell? ⟨w.heap.size, 1, none⟩ = some (.int .i64 o.born) ∧ V.cell? ⟨w.heap.size, 2, none⟩ = some (.int .i64 o.stay) ∧ V.cell? ⟨w.heap.size, 3, none⟩ = some (.int .i64 o.states) ∧ V.cell? ⟨w.heap.size, 4, none⟩ = some (.int .i64 o.radius) ∧ V.cell? ⟨w.heap.size, 5, none⟩ = some (.slice ta tn tc) ∧ V.cell? ⟨w.heap.size, 6, none⟩ = some (.string o.turns) ∧ V.cell? ⟨w.heap.size + 1, 0, none⟩ = some (.int .i64 W) ∧ V.cell? ⟨w.heap.size + 1, 1, none⟩ = some (.int .i64 H) ∧ V.cell? ⟨w.heap.size + 1, 2, none⟩ = some (.slice a n c) ∧ V.cell? ⟨w.heap.size + 1 + 1, 0, none⟩ = some (.int .i64 X) ∧ V.cell? ⟨w.heap.size + 1 + 1, 1, none⟩ = some (.int .i64 Y) ∧ V.cell? ⟨w.heap.size + 1 + 1, 2, none⟩ = some (.slice d k l) from by
    have e0 := (h.block _ (lt_of_block g0)).trans g0
    have e1 := (h.block _ (lt_of_block g1)).trans g1
    have e2 := (h.block _ (lt_of_block g2)).trans g2
    exact ⟨cell_of_row V _ 0 _ _ _ e0, cell_of_row V _ 1 _ _ _ e0, cell_of_row V _ 2 _ _ _ e0, cell_of_row V _ 3 _ _ _ e0, cell_of_row V _ 4 _ _ _ e0, cell_of_row V _ 5 _ _ _ e0, cell_of_row V _ 6 _ _ _ e0, cell_of_row V _ 0 _ _ _ e1, cell_of_row V _ 1 _ _ _ e1, cell_of_row V _ 2 _ _ _ e1, cell_of_row V _ 0 _ _ _ e2, cell_of_row V _ 1 _ _ _ e2, cell_of_row V _ 2 _ _ _ e2⟩)
  have BW := hide' (fun (V : World) (h : Below w1.heap.size w1 V) => BB.out.trans (h.mono BB.out.size))
  have LV := hide' (fun (V : World) (h : Below w1.heap.size w1 V) => lives_any V (hT.below (BW.out V h)))
  have PA := hide' (fun (V : World) (h : Below w1.heap.size w1 V) => par V (BW.out V h))
  have ER := hide' (fun (V : World) (h : Below w1.heap.size w1 V) => err V (BW.out V h))
  have SH := hide' (fun (V : World) (h : Below w1.heap.size w1 V) => shp V (BW.out V h))
  have TO := hide' (fun (V : World) (h : Below w1.heap.size w1 V) => tor V (BW.out V h))
  have EF := hide' (errOf_is5 f0)
  have HO := hide' hout
  have C0 := hide' (Below.refl w1.heap.size w1)
  obtain ⟨x0, x1, x2, x3, x4, x5, x6, y0, y1, y2, z0, z1, z2⟩ := SV.out w1 C0.out
  clear hT g0 g1 g2 par err shp tor f0 hout
  go_enter Tryd.func4, Tryd.ntmps4
  go_wp2_with fail
  refine (LV.out w1 C0.out).mono ?_
  rintro e w2 ⟨rfl, b⟩
  clear hw1 x0 x1 x2 x3 x4 x5 x6 y0 y1 y2 z0 z1 z2
  have C1 := hide' (C0.out.trans (b.mono C0.out.size))
  clear b C0
  obtain ⟨x0, x1, x2, x3, x4, x5, x6, y0, y1, y2, z0, z1, z2⟩ := SV.out _ C1.out
  go_wp2_with fail
  refine (PA.out w2 C1.out).mono ?_
  unfold TorBad
  rw [EF.out]
  rintro e w3 ⟨rfl, b⟩
  clear x0 x1 x2 x3 x4 x5 x6 y0 y1 y2 z0 z1 z2
  have C2 := hide' (C1.out.trans (b.mono C1.out.size))
  clear b C1
  have C3 := hide' (C2.out.alloc C2.out.size (.cells #[.int .i64 0, .int .i64 0, .slice none 0 0] 26))
  clear C2
  go_wp2_with fail
  refine (ER.out _ C3.out).mono ?_
  rintro e w4 ⟨rfl, b⟩
  have C4 := hide' (C3.out.trans (b.mono C3.out.size))
  clear b C3
  obtain ⟨x0, x1, x2, x3, x4, x5, x6, y0, y1, y2, z0, z1, z2⟩ := SV.out _ C4.out
  go_wp2_with fail
  refine (SH.out _ C4.out).mono ?_
  rintro e w5 ⟨rfl, b⟩
  clear x0 x1 x2 x3 x4 x5 x6 y0 y1 y2 z0 z1 z2
  have C5 := hide' (C4.out.trans (b.mono C4.out.size))
  clear b C4
  obtain ⟨x0, x1, x2, x3, x4, x5, x6, y0, y1, y2, z0, z1, z2⟩ := SV.out _ C5.out
  go_wp2_with fail
  refine (TO.out _ C5.out).mono ?_
  rintro e w6 ⟨ba, bn, bc, rfl, b⟩
  clear x0 x1 x2 x3 x4 x5 x6 y0 y1 y2 z0 z1 z2
  have C6 := hide' (C5.out.trans (b.mono C5.out.size))
  clear b C5
  have C7 := hide' (C6.out.alloc C6.out.size (.cells #[.int .i64 bW, .int .i64 bH, .slice ba bn bc] 26))
  clear C6
  have Gb0 := hide' (show (w6.alloc (.cells #[.int .i64 bW, .int .i64 bH, .slice ba bn bc] 26)).heap[w6.heap.size]? = some (.cells #[.int .i64 bW, .int .i64 bH, .slice ba bn bc] 26 (0, 0)) from heap_alloc_new _ _)
  have v0 := cell_of_row _ _ 0 _ _ _ Gb0.out
  have v1 := cell_of_row _ _ 1 _ _ _ Gb0.out
  have v2 := cell_of_row _ _ 2 _ _ _ Gb0.out
  simp at v0 v1 v2
  by_cases u1 : bW < 2
  · go_wp2
    go_ret
    exact ⟨rfl, BW.out _ C7.out⟩
  · by_cases u2 : bH < 2
    · go_wp2
      go_ret
      exact ⟨rfl, BW.out _ C7.out⟩
    · by_cases u3 : 7 < bW
      · go_wp2
        go_ret
        exact ⟨rfl, BW.out _ C7.out⟩
      · have u4 : 7 < bH := by have := HO.out; omega
        go_wp2
        go_ret
        exact ⟨rfl, BW.out _ C7.out⟩
set_option maxRecDepth 100000 in
set_option maxHeartbeats 12800000 in
theorem law_eden_c3 (o : Out) (ta : Option Addr) (tn tc : Nat) (W H : Int) (a : Option Addr) (n c : Nat) (X Y : Int) (d : Option Addr) (k l : Nat) (f : Nat) (f0 : f ≠ 0) (sh : Nat) (s0 : (sh : Int) ≠ 0) (A B W2 H2 : Nat) (bs : List Int) (hl : bs.length = A * B) (eW : (A : Int) - 2 = (W2 : Int)) (eH : (B : Int) - 2 = (H2 : Int)) (A7 : A ≤ 7) (B7 : B ≤ 7) (R2 : Int → Int → List Int → Prop) (w : World) (hT : TzTab w)
    (par : ∀ V, Below w.heap.size w V → Calls Tryd.prog 8 #[.agg #[.int .i64 o.kind, .int .i64 o.born, .int .i64 o.stay, .int .i64 o.states, .int .i64 o.radius, .slice ta tn tc, .string o.turns], .agg #[.int .i64 W, .int .i64 H, .slice a n c]] V (TorBad f V))
    (err : ∀ V, Below w.heap.size w V → Calls Tryd.prog 9 #[.iface 54 (.int .i64 (f : Int)), .int .i64 5] V (BoolIs true V))
    (shp : ∀ V, Below w.heap.size w V → Calls Tryd.prog 13 #[.agg #[.int .i64 X, .int .i64 Y, .slice d k l]] V (fun e w' => e = .returned (.int .i64 (sh : Int)) ∧ Below V.heap.size V w'))
    (tor : ∀ V, Below w.heap.size w V → Calls Tryd.prog 14 #[.agg #[.int .i64 o.kind, .int .i64 o.born, .int .i64 o.stay, .int .i64 o.states, .int .i64 o.radius, .slice ta tn tc, .string o.turns], .agg #[.int .i64 X, .int .i64 Y, .slice d k l]] V (TorIn A B bs V))
    (par2 : ∀ V a' n' c', Below w.heap.size w V → ArgP V (midR A bs H2) a' n' c' → n' ≤ c' → c' ≤ maxLen → Calls Tryd.prog 8 #[.agg #[.int .i64 o.kind, .int .i64 o.born, .int .i64 o.stay, .int .i64 o.states, .int .i64 o.radius, .slice ta tn tc, .string o.turns], .agg #[.int .i64 (W2 : Int), .int .i64 (H2 : Int), .slice a' n' c']] V (PaGood R2 V))
    (mad2 : ∀ V W' H' ys b m q a' n' c', Below w.heap.size w V → R2 W' H' ys → ArgP V ys b m q → ArgP V (midR A bs H2) a' n' c' → Calls Tryd.prog 12 #[.agg #[.int .i64 o.kind, .int .i64 o.born, .int .i64 o.stay, .int .i64 o.states, .int .i64 o.radius, .slice ta tn tc, .string o.turns], .agg #[.int .i64 W', .int .i64 H', .slice b m q], .agg #[.int .i64 (W2 : Int), .int .i64 (H2 : Int), .slice a' n' c']] V (BoolIs true V)) :
    Calls Tryd.prog 4 #[.agg #[.int .i64 o.kind, .int .i64 o.born, .int .i64 o.stay, .int .i64 o.states, .int .i64 o.radius, .slice ta tn tc, .string o.turns], .agg #[.int .i64 W, .int .i64 H, .slice a n c], .agg #[.int .i64 X, .int .i64 Y, .slice d k l]] w fun e w' => e = .returned (.bool true) ∧ Below w.heap.size w w' := by
  obtain ⟨w1, hw1⟩ : ∃ w1, ((w.alloc (.cells #[.int .i64 o.kind, .int .i64 o.born, .int .i64 o.stay, .int .i64 o.states, .int .i64 o.radius, .slice ta tn tc, .string o.turns] 24)).alloc (.cells #[.int .i64 W, .int .i64 H, .slice a n c] 26)).alloc (.cells #[.int .i64 X, .int .i64 Y, .slice d k l] 26) = w1 := ⟨_, rfl⟩
  have BB := hide' (show Below w.heap.size w w1 by rw [← hw1]; exact (((Below.refl _ _).alloc (Nat.le_refl _) _).alloc (by simp) _).alloc (by simp; try omega) _)
  have g0 : w1.heap[w.heap.size]? = some (.cells #[.int .i64 o.kind, .int .i64 o.born, .int .i64 o.stay, .int .i64 o.states, .int .i64 o.radius, .slice ta tn tc, .string o.turns] 24 (0, 0)) := by rw [← hw1, Below.heap_alloc _ _ _ (by simp; try omega), Below.heap_alloc _ _ _ (by simp; try omega)]; exact heap_atX _ _ _ (by simp)
  have g1 : w1.heap[w.heap.size + 1]? = some (.cells #[.int .i64 W, .int .i64 H, .slice a n c] 26 (0, 0)) := by rw [← hw1, Below.heap_alloc _ _ _ (by simp; try omega)]; exact heap_atX _ _ _ (by simp)
  have g2 : w1.heap[w.heap.size + 1 + 1]? = some (.cells #[.int .i64 X, .int .i64 Y, .slice d k l] 26 (0, 0)) := by rw [← hw1]; exact heap_atX _ _ _ (by simp)
  have SV := hide' (fun (V : World) (h : Below w1.heap.size w1 V) => show V.cell? ⟨w.heap.size, 0, none⟩ = some (.int .i64 o.kind) ∧ V.cell? ⟨w.heap.size, 1, none⟩ = some (.int .i64 o.born) ∧ V.cell? ⟨w.heap.size, 2, none⟩ = some (.int .i64 o.stay) ∧ V.cell? ⟨w.heap.size, 3, none⟩ = some (.int .i64 o.states) ∧ V.cell? ⟨w.heap.size, 4, none⟩ = some (.int .i64 o.radius) ∧ V.cell? ⟨w.heap.size, 5, none⟩ = some (.slice ta tn tc) ∧ V.cell? ⟨w.heap.size, 6, none⟩ = some (.string o.turns) ∧ V.cell? ⟨w.heap.size + 1, 0, none⟩ = some (.int .i64 W) ∧ V.cell? ⟨w.heap.size + 1, 1, none⟩ = some (.int .i64 H) ∧ V.cell? ⟨w.heap.size + 1, 2, none⟩ = some (.slice a n c) ∧ V.cell? ⟨w.heap.size + 1 + 1, 0, none⟩ = some (.int .i64 X) ∧ V.cell? ⟨w.heap.size + 1 + 1, 1, none⟩ = some (.int .i64 Y) ∧ V.cell? ⟨w.heap.size + 1 + 1, 2, none⟩ = some (.slice d k l) from by
    have e0 := (h.block _ (lt_of_block g0)).trans g0
    have e1 := (h.block _ (lt_of_block g1)).trans g1
    have e2 := (h.block _ (lt_of_block g2)).trans g2
    exact ⟨cell_of_row V _ 0 _ _ _ e0, cell_of_row V _ 1 _ _ _ e0, cell_of_row V _ 2 _ _ _ e0, cell_of_row V _ 3 _ _ _ e0, cell_of_row V _ 4 _ _ _ e0, cell_of_row V _ 5 _ _ _ e0, cell_of_row V _ 6 _ _ _ e0, cell_of_row V _ 0 _ _ _ e1, cell_of_row V _ 1 _ _ _ e1, cell_of_row V _ 2 _ _ _ e1, cell_of_row V _ 0 _ _ _ e2, cell_of_row V _ 1 _ _ _ e2, cell_of_row V _ 2 _ _ _ e2⟩)
  have BW := hide' (fun (V : World) (h : Below w1.heap.size w1 V) => BB.out.trans (h.mono BB.out.size))
  have LV := hide' (fun (V : World) (h : Below w1.heap.size w1 V) => lives_any V (hT.below (BW.out V h)))
  have PA := hide' (fun (V : World) (h : Below w1.heap.size w1 V) => par V (BW.out V h))
  have ER := hide' (fun (V : World) (h : Below w1.heap.size w1 V) => err V (BW.out V h))
  have SH := hide' (fun (V : World) (h : Below w1.heap.size w1 V) => shp V (BW.out V h))
  have TO := hide' (fun (V : World) (h : Below w1.heap.size w1 V) => tor V (BW.out V h))
  have PM := hide' (fun (V : World) a' n' c' (h : Below w1.heap.size w1 V) => par2 V a' n' c' (BW.out V h))
  have MM := hide' (fun (V : World) W' H' ys b m q a' n' c' (h : Below w1.heap.size w1 V) => mad2 V W' H' ys b m q a' n' c' (BW.out V h))
  have HL := hide' hl
  have EF := hide' (errOf_is5 f0)
  have C0 := hide' (Below.refl w1.heap.size w1)
  obtain ⟨x0, x1, x2, x3, x4, x5, x6, y0, y1, y2, z0, z1, z2⟩ := SV.out w1 C0.out
  clear hT g0 g1 g2 par err shp tor par2 mad2 f0 hl
  go_enter Tryd.func4, Tryd.ntmps4
  go_wp2_with fail
  refine (LV.out w1 C0.out).mono ?_
  rintro e w2 ⟨rfl, b⟩
  clear hw1 x0 x1 x2 x3 x4 x5 x6 y0 y1 y2 z0 z1 z2
  have C1 := hide' (C0.out.trans (b.mono C0.out.size))
  clear b C0
  obtain ⟨x0, x1, x2, x3, x4, x5, x6, y0, y1, y2, z0, z1, z2⟩ := SV.out _ C1.out
  go_wp2_with fail
  refine (PA.out w2 C1.out).mono ?_
  unfold TorBad
  rw [EF.out]
  rintro e w3 ⟨rfl, b⟩
  clear x0 x1 x2 x3 x4 x5 x6 y0 y1 y2 z0 z1 z2
  have C2 := hide' (C1.out.trans (b.mono C1.out.size))
  clear b C1
  have C3 := hide' (C2.out.alloc C2.out.size (.cells #[.int .i64 0, .int .i64 0, .slice none 0 0] 26))
  clear C2
  go_wp2_with fail
  refine (ER.out _ C3.out).mono ?_
  rintro e w4 ⟨rfl, b⟩
  have C4 := hide' (C3.out.trans (b.mono C3.out.size))
  clear b C3
  obtain ⟨x0, x1, x2, x3, x4, x5, x6, y0, y1, y2, z0, z1, z2⟩ := SV.out _ C4.out
  go_wp2_with fail
  refine (SH.out _ C4.out).mono ?_
  rintro e w5 ⟨rfl, b⟩
  clear x0 x1 x2 x3 x4 x5 x6 y0 y1 y2 z0 z1 z2
  have C5 := hide' (C4.out.trans (b.mono C4.out.size))
  clear b C4
  obtain ⟨x0, x1, x2, x3, x4, x5, x6, y0, y1, y2, z0, z1, z2⟩ := SV.out _ C5.out
  go_wp2_with fail
  refine (TO.out _ C5.out).mono ?_
  rintro e w6 ⟨q, rfl, ap, b⟩
  clear x0 x1 x2 x3 x4 x5 x6 y0 y1 y2 z0 z1 z2
  have C6 := hide' (C5.out.trans (b.mono C5.out.size))
  clear b C5
  obtain ⟨N, hN⟩ : ∃ N, A * B = N := ⟨_, rfl⟩
  rw [hN] at ap HL ⊢
  have HN := hide' hN
  clear hN
  have Ab := hide' ap
  clear ap
  have C7 := hide' (C6.out.alloc C6.out.size (.cells #[.int .i64 (A : Int), .int .i64 (B : Int), .slice (some ⟨q, 0, none⟩) N N] 26))
  clear C6
  have Ab0 := hide' (Ab.out.alloc (.cells #[.int .i64 (A : Int), .int .i64 (B : Int), .slice (some ⟨q, 0, none⟩) N N] 26))
  clear Ab
  have Gb0 := hide' (show (w6.alloc (.cells #[.int .i64 (A : Int), .int .i64 (B : Int), .slice (some ⟨q, 0, none⟩) N N] 26)).heap[w6.heap.size]? = some (.cells #[.int .i64 (A : Int), .int .i64 (B : Int), .slice (some ⟨q, 0, none⟩) N N] 26 (0, 0)) from heap_alloc_new _ _)
  have A2 : 2 ≤ A := by omega
  have B2 : 2 ≤ B := by omega
  obtain ⟨U, hU⟩ : ∃ U, w6.alloc (.cells #[.int .i64 (A : Int), .int .i64 (B : Int), .slice (some ⟨q, 0, none⟩) N N] 26) = U := ⟨_, rfl⟩
  obtain ⟨gb, hgb⟩ : ∃ gb, w6.heap.size = gb := ⟨_, rfl⟩
  rw [hU] at C7 Gb0 Ab0
  rw [hgb] at Gb0
  have US := hide' (show w6.heap.size + 1 = U.heap.size by rw [← hU]; simp)
  have HU := hide' hU
  have HGB := hide' hgb
  clear hU hgb
  have v0 := cell_of_row _ _ 0 _ _ _ Gb0.out
  have v1 := cell_of_row _ _ 1 _ _ _ Gb0.out
  have v2 := cell_of_row _ _ 2 _ _ _ Gb0.out
  simp at v0 v1 v2
  have MS0 := hide' (show MSt U (U.alloc (.cells #[.int .i64 (W2 : Int), .int .i64 (H2 : Int), .slice none 0 0] 26)) W2 H2 (midR A bs 0) (.slice none 0 0) from ⟨heap_alloc_new _ _, World.ownsRow_nil _ _ _ _, (Below.refl _ _).alloc (Nat.le_refl _) _, by simp⟩)
  obtain ⟨it, hit, hz⟩ := Option.map_eq_some_iff.1 info_intP
  simp only [Prod.mk.injEq] at hz
  obtain ⟨hz0, hz1, hz2⟩ := hz
  go_wp2
  rw [US.out, HU.out, HGB.out]
  clear v0 v1 v2
  go_loopw [17] (fun yv wr => ∃ (y j : Nat) (v : Value), yv = .int .i64 (y : Int) ∧ y = j + 1 ∧ j ≤ H2 ∧ Hid (MSt U wr W2 H2 (midR A bs j) v)) (fun yv _ => B - (intOf yv).toNat)
  case atStart => exact ⟨1, 0, _, rfl, rfl, by omega, MS0⟩
  case round =>
    obtain ⟨y, j, v, rfl, hyj, hj, MS⟩ := hrel
    have GB := hide' ((MS.out.bel.block _ (lt_of_block Gb0.out)).trans Gb0.out)
    have v0 := cell_of_row _ _ 0 _ _ _ GB.out
    have v1 := cell_of_row _ _ 1 _ _ _ GB.out
    have v2 := cell_of_row _ _ 2 _ _ _ GB.out
    simp at v0 v1 v2
    obtain ⟨ma, mq, rfl⟩ := own_sl MS.out.own
    obtain ⟨gm, hgm⟩ : ∃ gm, U.heap.size = gm := ⟨_, rfl⟩
    have HGM := hide' hgm
    have u0 := cell_of_row _ _ 0 _ _ _ MS.out.blk
    have u1 := cell_of_row _ _ 1 _ _ _ MS.out.blk
    have u2 := cell_of_row _ _ 2 _ _ _ MS.out.blk
    simp at u0 u1 u2
    rw [hgm] at u0 u1 u2 ⊢
    clear hgm
    have B1 : (B : Int) - 1 = ((H2 + 1 : Nat) : Int) := by omega
    by_cases dy : (y : Int) < ((H2 + 1 : Nat) : Int)
    · obtain ⟨L, hL⟩ : ∃ L, y * A = L := ⟨_, rfl⟩
      obtain ⟨zs, hzs⟩ : ∃ zs, (bs.drop ((j + 1) * A + 1)).take (A - 2) = zs := ⟨_, rfl⟩
      have RL := row_len (W := A) (H := B) (k := j) (bs := bs) (HL.out.trans HN.out.symm) A2 (by omega)
      rw [← hyj, hL, HN.out] at RL
      rw [← hyj, hL] at hzs
      rw [hzs] at RL
      have NW := hide' (row_news (V := wr) (Ab0.out.below MS.out.bel) (d := L + 1) (m := A - 2) (by rw [HL.out]; omega))
      rw [hzs] at NW
      have MR := hide' (show midR A bs (j + 1) = midR A bs j ++ zs by rw [midR, ← hyj, hL, hzs])
      have ML := hide' (midR_len (H := B) (HL.out.trans HN.out.symm) A2 j (by omega))
      have ML2 := hide' (show (midR A bs j).length ≤ 49 by rw [ML.out]; exact Nat.le_trans (Nat.mul_le_mul (show j ≤ 7 by omega) (show A - 2 ≤ 7 by omega)) (by omega))
      have MSD : MSt U wr.drew W2 H2 (midR A bs j) (.slice ma (midR A bs j).length mq) := ⟨MS.out.blk, MS.out.own.drew, MS.out.bel.drew, MS.out.siz⟩
      have PSH := hide' (fun (X7 : World) (r7 : Value) (hg : wr.drew.grownBy X7 (Value.slice ma (midR A bs j).length mq).ownBlock) (ho : X7.ownsRow (U.heap.size + 1) 3 1 r7 ((midR A bs j).length + zs.length) ((midR A bs j).map (Value.int .i64) ++ zs.map (Value.int .i64))) => (MSD.push hg ho).2)
      have MID := hide' (fun (X7 : World) (hg : wr.drew.grownBy X7 (Value.slice ma (midR A bs j).length mq).ownBlock) => MSD.mid hg)
      clear MSD
      have OW := hide' MS.out.own
      obtain ⟨nl, hnl⟩ : ∃ nl, (midR A bs j).length = nl := ⟨_, rfl⟩
      rw [hnl] at PSH OW ML2 u2 MID
      obtain ⟨D, hD⟩ : ∃ D, L + 1 = D := ⟨_, rfl⟩
      obtain ⟨T, hTt⟩ : ∃ T, L + A = T := ⟨_, rfl⟩
      obtain ⟨M, hM⟩ : ∃ M, D + W2 = M := ⟨_, rfl⟩
      rw [hD] at NW
      have eL : (y : Int) * (A : Int) = (L : Int) := by rw [← hL]; simp
      have eD : (L : Int) + 1 = (D : Int) := by omega
      have eT : (L : Int) + (A : Int) = (T : Int) := by omega
      have eM : (T : Int) - 1 = (M : Int) := by omega
      have L49 : N ≤ 49 := by rw [← HN.out]; exact Nat.mul_le_mul A7 B7
      have D0 : (0 : Int) ≤ (D : Int) := by omega
      have DM : (D : Int) ≤ (M : Int) := by omega
      have Mc : (M : Int) ≤ (N : Int) := by omega
      have cD : ¬ N = D := by omega
      have zl : zs.length = W2 := by rw [RL.1]; omega
      have ZL := hide' (show (zs.map (Value.int .i64)).length = W2 * 1 by simp [zl])
      have SZ := hide' MS.out.siz
      rw [zl] at PSH
      have sV := ML2.out
      have MD := hide' (show M - D = W2 by omega)
      rw [HGM.out] at PSH OW MID
      have e1 : IntKind.i64.wrap ((y : Int) * (A : Int)) = (L : Int) := by rw [eL]; exact wrap_near (by omega) (by omega)
      have e2 : IntKind.i64.wrap ((L : Int) + 1) = (D : Int) := by rw [eD]; exact wrap_near (by omega) (by omega)
      have e3 : IntKind.i64.wrap ((L : Int) + (A : Int)) = (T : Int) := by rw [eT]; exact wrap_near (by omega) (by omega)
      have e4 : IntKind.i64.wrap ((T : Int) - 1) = (M : Int) := by rw [eM]; exact wrap_near (by omega) (by omega)
      have mx : max (M : Int) 0 = (M : Int) := by omega
      have tD : ((D : Int)).toNat = D := by omega
      have tM : ((M : Int)).toNat = M := by omega
      have M0 : (0 : Int) ≤ (M : Int) := by omega
      have HYJ := hide' hyj
      have mdw : M - D = W2 := MD.out
      clear RL hzs hL hnl hD hTt hM zl eL eD eT eM hyj
      have OWD := hide' (fun (Y : World) (hY : Y.heap = wr.heap) => show Y.ownsRow (gm + 1) 3 1 (.slice ma nl mq) nl ((midR A bs j).map (Value.int .i64)) from own_keep OW.out (fun b _ => by rw [hY]))
      have NWD := hide' (fun (Y : World) (hY : Y.heap = wr.heap) => show ∀ j u, (zs.map (Value.int .i64))[j]? = some u → Y.cell? ((⟨q, D, none⟩ : Addr).add j) = some u from fun j u hu => by rw [← NW.out j u hu]; simp only [World.cell?, hY])
      have du2 : wr.drew.cell? ⟨gm, 2, none⟩ = some (.slice ma nl mq) := u2
      have dv0 : wr.drew.cell? ⟨gb, 0, none⟩ = some (.int .i64 (A : Int)) := v0
      have dv2 : wr.drew.cell? ⟨gb, 2, none⟩ = some (.slice (some ⟨q, 0, none⟩) N N) := v2
      go_wp2
      refine regionD (by kernel_rfl) _ [.pointer (some ⟨gm, 2, none⟩), .slice ma nl mq, .pointer (some ⟨gb, 2, none⟩), .slice (some ⟨q, 0, none⟩) N N, .int .i64 (y : Int), .pointer (some ⟨gb, 0, none⟩), .int .i64 (A : Int), .int .i64 (L : Int), .int .i64 (D : Int), .int .i64 (y : Int), .pointer (some ⟨gb, 0, none⟩), .int .i64 (A : Int), .int .i64 (L : Int), .pointer (some ⟨gb, 0, none⟩), .int .i64 (A : Int), .int .i64 (T : Int), .int .i64 (M : Int), .slice (some ⟨q, D, none⟩) W2 (N - D)] (.pointer (some ⟨gm, 2, none⟩)) (fun v' w' => wr.drew.grownBy w' (Value.slice ma nl mq).ownBlock ∧ w'.ownsRow (gm + 1) 3 1 v' (nl + W2) ((midR A bs j).map (Value.int .i64) ++ zs.map (Value.int .i64))) ⟨gm, 2, none⟩ rfl rfl (by simp) rfl rfl (by kernel_rfl) (by kernel_rfl) ?hp ?h19 ?h18 ?h20 ?hQ
      case hp =>
        intro a9 ha i9 o9 v9 hdp ho hv
        have t14 : a9.tmps[14]? = some (.pointer (some ⟨gb, 0, none⟩)) := (ha 14 (by omega)).trans rfl
        have t16 : a9.tmps[16]? = some (.pointer (some ⟨gm, 0, none⟩)) := (ha 16 (by omega)).trans rfl
        have t17 : a9.tmps[17]? = some (.int .i64 (y : Int)) := (ha 17 (by omega)).trans rfl
        rcases i9 with _ | _ | _ | _ | _ | _ | _ | _ | _ | _ | _ | _ | _ | _ | _ | _ | _ | _ | i9
        · obtain rfl := Option.some.inj ho
          obtain rfl := Option.some.inj hv
          simp [execOp, Act.eval, go_sem, t16]
        · obtain rfl := Option.some.inj ho
          obtain rfl := Option.some.inj hv
          have d0 : a9.tmps[96]? = some _ := hdp 0 _ (by simp [depsD]) rfl
          simp [execOp, Act.eval, go_sem, d0, du2]
        · obtain rfl := Option.some.inj ho
          obtain rfl := Option.some.inj hv
          simp [execOp, Act.eval, go_sem, t14]
        · obtain rfl := Option.some.inj ho
          obtain rfl := Option.some.inj hv
          have d2 : a9.tmps[98]? = some _ := hdp 2 _ (by simp [depsD]) rfl
          simp [execOp, Act.eval, go_sem, d2, dv2]
        · obtain rfl := Option.some.inj ho
          obtain rfl := Option.some.inj hv
          simp [execOp, Act.eval, go_sem, t17]
        · obtain rfl := Option.some.inj ho
          obtain rfl := Option.some.inj hv
          simp [execOp, Act.eval, go_sem, t14]
        · obtain rfl := Option.some.inj ho
          obtain rfl := Option.some.inj hv
          have d5 : a9.tmps[101]? = some _ := hdp 5 _ (by simp [depsD]) rfl
          simp [execOp, Act.eval, go_sem, d5, dv0]
        · obtain rfl := Option.some.inj ho
          obtain rfl := Option.some.inj hv
          have d4 : a9.tmps[100]? = some _ := hdp 4 _ (by simp [depsD]) rfl
          have d6 : a9.tmps[102]? = some _ := hdp 6 _ (by simp [depsD]) rfl
          simp [execOp, Act.eval, go_sem, d4, d6, e1]
        · obtain rfl := Option.some.inj ho
          obtain rfl := Option.some.inj hv
          have d7 : a9.tmps[103]? = some _ := hdp 7 _ (by simp [depsD]) rfl
          simp [execOp, Act.eval, go_sem, d7, e2]
        · obtain rfl := Option.some.inj ho
          obtain rfl := Option.some.inj hv
          simp [execOp, Act.eval, go_sem, t17]
        · obtain rfl := Option.some.inj ho
          obtain rfl := Option.some.inj hv
          simp [execOp, Act.eval, go_sem, t14]
        · obtain rfl := Option.some.inj ho
          obtain rfl := Option.some.inj hv
          have d10 : a9.tmps[106]? = some _ := hdp 10 _ (by simp [depsD]) rfl
          simp [execOp, Act.eval, go_sem, d10, dv0]
        · obtain rfl := Option.some.inj ho
          obtain rfl := Option.some.inj hv
          have d9 : a9.tmps[105]? = some _ := hdp 9 _ (by simp [depsD]) rfl
          have d11 : a9.tmps[107]? = some _ := hdp 11 _ (by simp [depsD]) rfl
          simp [execOp, Act.eval, go_sem, d9, d11, e1]
        · obtain rfl := Option.some.inj ho
          obtain rfl := Option.some.inj hv
          simp [execOp, Act.eval, go_sem, t14]
        · obtain rfl := Option.some.inj ho
          obtain rfl := Option.some.inj hv
          have d13 : a9.tmps[109]? = some _ := hdp 13 _ (by simp [depsD]) rfl
          simp [execOp, Act.eval, go_sem, d13, dv0]
        · obtain rfl := Option.some.inj ho
          obtain rfl := Option.some.inj hv
          have d12 : a9.tmps[108]? = some _ := hdp 12 _ (by simp [depsD]) rfl
          have d14 : a9.tmps[110]? = some _ := hdp 14 _ (by simp [depsD]) rfl
          simp [execOp, Act.eval, go_sem, d12, d14, e3]
        · obtain rfl := Option.some.inj ho
          obtain rfl := Option.some.inj hv
          have d15 : a9.tmps[111]? = some _ := hdp 15 _ (by simp [depsD]) rfl
          simp [execOp, Act.eval, go_sem, d15, e4]
        · obtain rfl := Option.some.inj ho
          obtain rfl := Option.some.inj hv
          have d3 : a9.tmps[99]? = some _ := hdp 3 _ (by simp [depsD]) rfl
          have d8 : a9.tmps[104]? = some _ := hdp 8 _ (by simp [depsD]) rfl
          have d16 : a9.tmps[112]? = some _ := hdp 16 _ (by simp [depsD]) rfl
          simp [execOp, Act.eval, go_sem, d3, d8, d16, D0, DM, Mc, cD, mdw]
        · cases hv
      case h19 =>
        intro a9 w9 o9 ha ho
        have t16 : a9.tmps[16]? = some (.pointer (some ⟨gm, 0, none⟩)) := (ha 16 (by omega)).trans rfl
        obtain rfl := Option.some.inj ho
        simp [execOp, Act.eval, go_sem, t16]
      case h18 =>
        intro a9 o9 K9 hv ho hK
        obtain rfl := Option.some.inj ho
        exact wp_append_own wr.drew (.tmp 97) (.tmp 113) 22 rfl (gm + 1) 3 it (.int .i64 0) 1 8 Tryd.underlying22 hit hz0 hz1 hz2 rfl (by decide) (.slice ma nl mq) nl _ (eval_ofE (hv 1 _ rfl)) (OWD.out _ rfl) ⟨q, D, none⟩ W2 (N - D) (zs.map (Value.int .i64)) (eval_ofE (hv 17 _ rfl)) ZL.out (NWD.out _ rfl) (fun u hu => by obtain ⟨x, _, rfl⟩ := List.mem_map.1 hu; rfl) (by unfold maxLen; omega) (by omega) (by have := SZ.out; rw [HGM.out] at this; exact this) (fun v' w' h2 h3 _ => hK v' w' ⟨h3, h2⟩)
      case h20 =>
        intro a9 o9 v' w8 K9 pa h115 h114 ho hK
        obtain ⟨hgrow, hown1⟩ := pa
        obtain ⟨a7, q7, rfl⟩ := own_sl hown1
        obtain rfl := Option.some.inj ho
        have x5 := cell_of_row w8 _ 2 _ _ _ (MID.out w8 hgrow)
        have x6 := frozen_of_row w8 _ 2 _ _ (MID.out w8 hgrow)
        simp at x5
        unfold Oper.wp
        simp [execOp, Act.eval, go_sem, h115, h114, x5, x6]
        exact hK
      case hQ =>
        rintro v' w8 ⟨hgrow, hown1⟩
        obtain ⟨a7, q7, rfl⟩ := own_sl hown1
        have PF := hide' (PSH.out w8 _ hgrow hown1)
        clear hgrow hown1
        simp only [putsFrom, List.cons_append, List.nil_append]
        go_wp2
        exact ⟨⟨y + 1, j + 1, _, by go_num, by have := HYJ.out; omega, by have := HYJ.out; omega, hide' (by rw [MR.out]; exact PF.out)⟩, by simp [intOf]; omega⟩
    · obtain rfl : j = H2 := by omega
      obtain ⟨ma', mq', em, AM, mle, mmx⟩ := own_argL rfl MS.out.own
      cases em
      have AMH := hide' AM
      have MLE := hide' mle
      have MMX := hide' mmx
      have CR := hide' (C7.out.trans (MS.out.bel.mono C7.out.size))
      have GM := hide' MS.out.blk
      rw [HGM.out] at GM
      obtain ⟨nl, hnl⟩ : ∃ nl, (midR A bs j).length = nl := ⟨_, rfl⟩
      rw [hnl] at AMH MLE GM u2
      clear AM mle mmx hnl MS
      obtain ⟨x0, x1, x2, x3, x4, x5, x6, y0, y1, y2, z0, z1, z2⟩ := SV.out _ CR.out
      go_wp2_with fail
      refine (PM.out wr _ _ _ CR.out AMH.out MLE.out MMX.out).mono ?_
      rintro e w8 ⟨cW, cH, cs, ca, cn, cc, rfl, ap, hr, b⟩
      have HR2 := hide' hr
      have AC := hide' ap
      have CR2 := hide' (CR.out.trans (b.mono CR.out.size))
      have GM2 := hide' ((b.block _ (lt_of_block GM.out)).trans GM.out)
      have AM2 := hide' (AMH.out.below b)
      clear x0 x1 x2 x3 x4 x5 x6 y0 y1 y2 z0 z1 z2 ap hr b u0 u1 u2 v0 v1 v2 GB
      have CR3 := hide' (CR2.out.alloc CR2.out.size (.cells #[.int .i64 cW, .int .i64 cH, .slice ca cn cc] 26))
      have GM3 := hide' ((Below.heap_alloc _ (.cells #[.int .i64 cW, .int .i64 cH, .slice ca cn cc] 26) _ (lt_of_block GM2.out)).trans GM2.out)
      have AM3 := hide' (AM2.out.alloc (.cells #[.int .i64 cW, .int .i64 cH, .slice ca cn cc] 26))
      have AC3 := hide' (AC.out.alloc (.cells #[.int .i64 cW, .int .i64 cH, .slice ca cn cc] 26))
      have u0 := cell_of_row _ _ 0 _ _ _ GM3.out
      have u1 := cell_of_row _ _ 1 _ _ _ GM3.out
      have u2 := cell_of_row _ _ 2 _ _ _ GM3.out
      simp only [List.getElem?_toArray, List.getElem?_cons_zero, List.getElem?_cons_succ] at u0 u1 u2
      obtain ⟨x0, x1, x2, x3, x4, x5, x6, y0, y1, y2, z0, z1, z2⟩ := SV.out _ CR3.out
      go_wp2_with fail
      refine (MM.out _ _ _ _ _ _ _ _ _ _ CR3.out HR2.out AC3.out AM3.out).mono ?_
      rintro e w9 ⟨rfl, b⟩
      have CR4 := hide' (CR3.out.trans (b.mono CR3.out.size))
      clear x0 x1 x2 x3 x4 x5 x6 y0 y1 y2 z0 z1 z2 b u0 u1 u2
      go_wp2
      go_ret
      exact ⟨rfl, BW.out _ CR4.out⟩
end Go.Proofs.YtlpdobfjgpedaaaDoor

namespace Go.Proofs.YtlpdobfjgpedaaaDoor
open Go.RowKit
set_option linter.unusedVariables false
set_option maxRecDepth 100000 in
set_option maxHeartbeats 12800000 in
theorem law_eden_d1 (o : Out) (ta : Option Addr) (tn tc : Nat) (W H : Int) (a : Option Addr) (n c : Nat) (X Y : Int) (d : Option Addr) (k l : Nat) (f : Nat) (f0 : f ≠ 0) (g : Nat) (gn : g ≠ 0) (w : World) (hT : TzTab w)
    (par : ∀ V, Below w.heap.size w V → Calls Tryd.prog 8 #[.agg #[.int .i64 o.kind, .int .i64 o.born, .int .i64 o.stay, .int .i64 o.states, .int .i64 o.radius, .slice ta tn tc, .string o.turns], .agg #[.int .i64 W, .int .i64 H, .slice a n c]] V (TorBad f V))
    (err : ∀ V, Below w.heap.size w V → Calls Tryd.prog 9 #[.iface 54 (.int .i64 (f : Int)), .int .i64 5] V (BoolIs true V))
    (shp : ∀ V, Below w.heap.size w V → Calls Tryd.prog 13 #[.agg #[.int .i64 X, .int .i64 Y, .slice d k l]] V (fun e w' => e = .returned (.int .i64 0) ∧ Below V.heap.size V w'))
    (mad : ∀ V, Below w.heap.size w V → Calls Tryd.prog 12 #[.agg #[.int .i64 o.kind, .int .i64 o.born, .int .i64 o.stay, .int .i64 o.states, .int .i64 o.radius, .slice ta tn tc, .string o.turns], .agg #[.int .i64 X, .int .i64 Y, .slice d k l], .agg #[.int .i64 W, .int .i64 H, .slice a n c]] V (BoolIs false V))
    (tor : ∀ V, Below w.heap.size w V → Calls Tryd.prog 14 #[.agg #[.int .i64 o.kind, .int .i64 o.born, .int .i64 o.stay, .int .i64 o.states, .int .i64 o.radius, .slice ta tn tc, .string o.turns], .agg #[.int .i64 X, .int .i64 Y, .slice d k l]] V (TorBad g V)) :
    Calls Tryd.prog 4 #[.agg #[.int .i64 o.kind, .int .i64 o.born, .int .i64 o.stay, .int .i64 o.states, .int .i64 o.radius, .slice ta tn tc, .string o.turns], .agg #[.int .i64 W, .int .i64 H, .slice a n c], .agg #[.int .i64 X, .int .i64 Y, .slice d k l]] w fun e w' => e = .returned (.bool true) ∧ Below w.heap.size w w' := by
  obtain ⟨w1, hw1⟩ : ∃ w1, ((w.alloc (.cells #[.int .i64 o.kind, .int .i64 o.born, .int .i64 o.stay, .int .i64 o.states, .int .i64 o.radius, .slice ta tn tc, .string o.turns] 24)).alloc (.cells #[.int .i64 W, .int .i64 H, .slice a n c] 26)).alloc (.cells #[.int .i64 X, .int .i64 Y, .slice d k l] 26) = w1 := ⟨_, rfl⟩
  have BB := hide' (show Below w.heap.size w w1 by rw [← hw1]; exact (((Below.refl _ _).alloc (Nat.le_refl _) _).alloc (by simp) _).alloc (by simp; try omega) _)
  have g0 : w1.heap[w.heap.size]? = some (.cells #[.int .i64 o.kind, .int .i64 o.born, .int .i64 o.stay, .int .i64 o.states, .int .i64 o.radius, .slice ta tn tc, .string o.turns] 24 (0, 0)) := by rw [← hw1, Below.heap_alloc _ _ _ (by simp; try omega), Below.heap_alloc _ _ _ (by simp; try omega)]; exact heap_atX _ _ _ (by simp)
  have g1 : w1.heap[w.heap.size + 1]? = some (.cells #[.int .i64 W, .int .i64 H, .slice a n c] 26 (0, 0)) := by rw [← hw1, Below.heap_alloc _ _ _ (by simp; try omega)]; exact heap_atX _ _ _ (by simp)
  have g2 : w1.heap[w.heap.size + 1 + 1]? = some (.cells #[.int .i64 X, .int .i64 Y, .slice d k l] 26 (0, 0)) := by rw [← hw1]; exact heap_atX _ _ _ (by simp)
  have SV := hide' (fun (V : World) (h : Below w1.heap.size w1 V) => show V.cell? ⟨w.heap.size, 0, none⟩ = some (.int .i64 o.kind) ∧ V.cell? ⟨w.heap.size, 1, none⟩ = some (.int .i64 o.born) ∧ V.cell? ⟨w.heap.size, 2, none⟩ = some (.int .i64 o.stay) ∧ V.cell? ⟨w.heap.size, 3, none⟩ = some (.int .i64 o.states) ∧ V.cell? ⟨w.heap.size, 4, none⟩ = some (.int .i64 o.radius) ∧ V.cell? ⟨w.heap.size, 5, none⟩ = some (.slice ta tn tc) ∧ V.cell? ⟨w.heap.size, 6, none⟩ = some (.string o.turns) ∧ V.cell? ⟨w.heap.size + 1, 0, none⟩ = some (.int .i64 W) ∧ V.cell? ⟨w.heap.size + 1, 1, none⟩ = some (.int .i64 H) ∧ V.cell? ⟨w.heap.size + 1, 2, none⟩ = some (.slice a n c) ∧ V.cell? ⟨w.heap.size + 1 + 1, 0, none⟩ = some (.int .i64 X) ∧ V.cell? ⟨w.heap.size + 1 + 1, 1, none⟩ = some (.int .i64 Y) ∧ V.cell? ⟨w.heap.size + 1 + 1, 2, none⟩ = some (.slice d k l) from by
    have e0 := (h.block _ (lt_of_block g0)).trans g0
    have e1 := (h.block _ (lt_of_block g1)).trans g1
    have e2 := (h.block _ (lt_of_block g2)).trans g2
    exact ⟨cell_of_row V _ 0 _ _ _ e0, cell_of_row V _ 1 _ _ _ e0, cell_of_row V _ 2 _ _ _ e0, cell_of_row V _ 3 _ _ _ e0, cell_of_row V _ 4 _ _ _ e0, cell_of_row V _ 5 _ _ _ e0, cell_of_row V _ 6 _ _ _ e0, cell_of_row V _ 0 _ _ _ e1, cell_of_row V _ 1 _ _ _ e1, cell_of_row V _ 2 _ _ _ e1, cell_of_row V _ 0 _ _ _ e2, cell_of_row V _ 1 _ _ _ e2, cell_of_row V _ 2 _ _ _ e2⟩)
  have BW := hide' (fun (V : World) (h : Below w1.heap.size w1 V) => BB.out.trans (h.mono BB.out.size))
  have LV := hide' (fun (V : World) (h : Below w1.heap.size w1 V) => lives_any V (hT.below (BW.out V h)))
  have PA := hide' (fun (V : World) (h : Below w1.heap.size w1 V) => par V (BW.out V h))
  have ER := hide' (fun (V : World) (h : Below w1.heap.size w1 V) => err V (BW.out V h))
  have SH := hide' (fun (V : World) (h : Below w1.heap.size w1 V) => shp V (BW.out V h))
  have TO := hide' (fun (V : World) (h : Below w1.heap.size w1 V) => tor V (BW.out V h))
  have MA := hide' (fun (V : World) (h : Below w1.heap.size w1 V) => mad V (BW.out V h))
  have EF := hide' (errOf_is5 f0)
  have EG := hide' (errOf_is5 gn)
  have C0 := hide' (Below.refl w1.heap.size w1)
  obtain ⟨x0, x1, x2, x3, x4, x5, x6, y0, y1, y2, z0, z1, z2⟩ := SV.out w1 C0.out
  clear hT g0 g1 g2 par err shp mad tor f0 gn
  go_enter Tryd.func4, Tryd.ntmps4
  go_wp2_with fail
  refine (LV.out w1 C0.out).mono ?_
  rintro e w2 ⟨rfl, b⟩
  clear hw1 x0 x1 x2 x3 x4 x5 x6 y0 y1 y2 z0 z1 z2
  have C1 := hide' (C0.out.trans (b.mono C0.out.size))
  clear b C0
  obtain ⟨x0, x1, x2, x3, x4, x5, x6, y0, y1, y2, z0, z1, z2⟩ := SV.out _ C1.out
  go_wp2_with fail
  refine (PA.out w2 C1.out).mono ?_
  unfold TorBad
  rw [EF.out]
  rintro e w3 ⟨rfl, b⟩
  clear x0 x1 x2 x3 x4 x5 x6 y0 y1 y2 z0 z1 z2
  have C2 := hide' (C1.out.trans (b.mono C1.out.size))
  clear b C1
  have C3 := hide' (C2.out.alloc C2.out.size (.cells #[.int .i64 0, .int .i64 0, .slice none 0 0] 26))
  clear C2
  go_wp2_with fail
  refine (ER.out _ C3.out).mono ?_
  rintro e w4 ⟨rfl, b⟩
  have C4 := hide' (C3.out.trans (b.mono C3.out.size))
  clear b C3
  obtain ⟨x0, x1, x2, x3, x4, x5, x6, y0, y1, y2, z0, z1, z2⟩ := SV.out _ C4.out
  go_wp2_with fail
  refine (SH.out _ C4.out).mono ?_
  rintro e w5 ⟨rfl, b⟩
  clear x0 x1 x2 x3 x4 x5 x6 y0 y1 y2 z0 z1 z2
  have C5 := hide' (C4.out.trans (b.mono C4.out.size))
  clear b C4
  obtain ⟨x0, x1, x2, x3, x4, x5, x6, y0, y1, y2, z0, z1, z2⟩ := SV.out _ C5.out
  go_wp2_with fail
  refine (MA.out _ C5.out).mono ?_
  rintro e w6 ⟨rfl, b⟩
  clear x0 x1 x2 x3 x4 x5 x6 y0 y1 y2 z0 z1 z2
  have C6 := hide' (C5.out.trans (b.mono C5.out.size))
  clear b C5
  obtain ⟨x0, x1, x2, x3, x4, x5, x6, y0, y1, y2, z0, z1, z2⟩ := SV.out _ C6.out
  go_wp2_with fail
  refine (TO.out _ C6.out).mono ?_
  unfold TorBad
  rw [EG.out]
  rintro e w7 ⟨rfl, b⟩
  clear x0 x1 x2 x3 x4 x5 x6 y0 y1 y2 z0 z1 z2
  have C7 := hide' (C6.out.trans (b.mono C6.out.size))
  clear b C6
  have C8 := hide' (C7.out.alloc C7.out.size (.cells #[.int .i64 0, .int .i64 0, .slice none 0 0] 26))
  clear C7
  have Gb0 := hide' (show (w7.alloc (.cells #[.int .i64 0, .int .i64 0, .slice none 0 0] 26)).heap[w7.heap.size]? = some (.cells #[.int .i64 0, .int .i64 0, .slice none 0 0] 26 (0, 0)) from heap_alloc_new _ _)
  go_wp2
  go_ret
  exact ⟨rfl, BW.out _ C8.out⟩
set_option maxRecDepth 100000 in
set_option maxHeartbeats 12800000 in
theorem law_eden_d2 (o : Out) (ta : Option Addr) (tn tc : Nat) (W H : Int) (a : Option Addr) (n c : Nat) (X Y : Int) (d : Option Addr) (k l : Nat) (f : Nat) (f0 : f ≠ 0) (bW bH : Int) (hout : bW < 2 ∨ bH < 2 ∨ 7 < bW ∨ 7 < bH) (w : World) (hT : TzTab w)
    (par : ∀ V, Below w.heap.size w V → Calls Tryd.prog 8 #[.agg #[.int .i64 o.kind, .int .i64 o.born, .int .i64 o.stay, .int .i64 o.states, .int .i64 o.radius, .slice ta tn tc, .string o.turns], .agg #[.int .i64 W, .int .i64 H, .slice a n c]] V (TorBad f V))
    (err : ∀ V, Below w.heap.size w V → Calls Tryd.prog 9 #[.iface 54 (.int .i64 (f : Int)), .int .i64 5] V (BoolIs true V))
    (shp : ∀ V, Below w.heap.size w V → Calls Tryd.prog 13 #[.agg #[.int .i64 X, .int .i64 Y, .slice d k l]] V (fun e w' => e = .returned (.int .i64 0) ∧ Below V.heap.size V w'))
    (mad : ∀ V, Below w.heap.size w V → Calls Tryd.prog 12 #[.agg #[.int .i64 o.kind, .int .i64 o.born, .int .i64 o.stay, .int .i64 o.states, .int .i64 o.radius, .slice ta tn tc, .string o.turns], .agg #[.int .i64 X, .int .i64 Y, .slice d k l], .agg #[.int .i64 W, .int .i64 H, .slice a n c]] V (BoolIs false V))
    (tor : ∀ V, Below w.heap.size w V → Calls Tryd.prog 14 #[.agg #[.int .i64 o.kind, .int .i64 o.born, .int .i64 o.stay, .int .i64 o.states, .int .i64 o.radius, .slice ta tn tc, .string o.turns], .agg #[.int .i64 X, .int .i64 Y, .slice d k l]] V (PatAs bW bH V)) :
    Calls Tryd.prog 4 #[.agg #[.int .i64 o.kind, .int .i64 o.born, .int .i64 o.stay, .int .i64 o.states, .int .i64 o.radius, .slice ta tn tc, .string o.turns], .agg #[.int .i64 W, .int .i64 H, .slice a n c], .agg #[.int .i64 X, .int .i64 Y, .slice d k l]] w fun e w' => e = .returned (.bool true) ∧ Below w.heap.size w w' := by
  obtain ⟨w1, hw1⟩ : ∃ w1, ((w.alloc (.cells #[.int .i64 o.kind, .int .i64 o.born, .int .i64 o.stay, .int .i64 o.states, .int .i64 o.radius, .slice ta tn tc, .string o.turns] 24)).alloc (.cells #[.int .i64 W, .int .i64 H, .slice a n c] 26)).alloc (.cells #[.int .i64 X, .int .i64 Y, .slice d k l] 26) = w1 := ⟨_, rfl⟩
  have BB := hide' (show Below w.heap.size w w1 by rw [← hw1]; exact (((Below.refl _ _).alloc (Nat.le_refl _) _).alloc (by simp) _).alloc (by simp; try omega) _)
  have g0 : w1.heap[w.heap.size]? = some (.cells #[.int .i64 o.kind, .int .i64 o.born, .int .i64 o.stay, .int .i64 o.states, .int .i64 o.radius, .slice ta tn tc, .string o.turns] 24 (0, 0)) := by rw [← hw1, Below.heap_alloc _ _ _ (by simp; try omega), Below.heap_alloc _ _ _ (by simp; try omega)]; exact heap_atX _ _ _ (by simp)
  have g1 : w1.heap[w.heap.size + 1]? = some (.cells #[.int .i64 W, .int .i64 H, .slice a n c] 26 (0, 0)) := by rw [← hw1, Below.heap_alloc _ _ _ (by simp; try omega)]; exact heap_atX _ _ _ (by simp)
  have g2 : w1.heap[w.heap.size + 1 + 1]? = some (.cells #[.int .i64 X, .int .i64 Y, .slice d k l] 26 (0, 0)) := by rw [← hw1]; exact heap_atX _ _ _ (by simp)
  have SV := hide' (fun (V : World) (h : Below w1.heap.size w1 V) => show V.cell? ⟨w.heap.size, 0, none⟩ = some (.int .i64 o.kind) ∧ V.cell? ⟨w.heap.size, 1, none⟩ = some (.int .i64 o.born) ∧ V.cell? ⟨w.heap.size, 2, none⟩ = some (.int .i64 o.stay) ∧ V.cell? ⟨w.heap.size, 3, none⟩ = some (.int .i64 o.states) ∧ V.cell? ⟨w.heap.size, 4, none⟩ = some (.int .i64 o.radius) ∧ V.cell? ⟨w.heap.size, 5, none⟩ = some (.slice ta tn tc) ∧ V.cell? ⟨w.heap.size, 6, none⟩ = some (.string o.turns) ∧ V.cell? ⟨w.heap.size + 1, 0, none⟩ = some (.int .i64 W) ∧ V.cell? ⟨w.heap.size + 1, 1, none⟩ = some (.int .i64 H) ∧ V.cell? ⟨w.heap.size + 1, 2, none⟩ = some (.slice a n c) ∧ V.cell? ⟨w.heap.size + 1 + 1, 0, none⟩ = some (.int .i64 X) ∧ V.cell? ⟨w.heap.size + 1 + 1, 1, none⟩ = some (.int .i64 Y) ∧ V.cell? ⟨w.heap.size + 1 + 1, 2, none⟩ = some (.slice d k l) from by
    have e0 := (h.block _ (lt_of_block g0)).trans g0
    have e1 := (h.block _ (lt_of_block g1)).trans g1
    have e2 := (h.block _ (lt_of_block g2)).trans g2
    exact ⟨cell_of_row V _ 0 _ _ _ e0, cell_of_row V _ 1 _ _ _ e0, cell_of_row V _ 2 _ _ _ e0, cell_of_row V _ 3 _ _ _ e0, cell_of_row V _ 4 _ _ _ e0, cell_of_row V _ 5 _ _ _ e0, cell_of_row V _ 6 _ _ _ e0, cell_of_row V _ 0 _ _ _ e1, cell_of_row V _ 1 _ _ _ e1, cell_of_row V _ 2 _ _ _ e1, cell_of_row V _ 0 _ _ _ e2, cell_of_row V _ 1 _ _ _ e2, cell_of_row V _ 2 _ _ _ e2⟩)
  have BW := hide' (fun (V : World) (h : Below w1.heap.size w1 V) => BB.out.trans (h.mono BB.out.size))
  have LV := hide' (fun (V : World) (h : Below w1.heap.size w1 V) => lives_any V (hT.below (BW.out V h)))
  have PA := hide' (fun (V : World) (h : Below w1.heap.size w1 V) => par V (BW.out V h))
  have ER := hide' (fun (V : World) (h : Below w1.heap.size w1 V) => err V (BW.out V h))
  have SH := hide' (fun (V : World) (h : Below w1.heap.size w1 V) => shp V (BW.out V h))
  have TO := hide' (fun (V : World) (h : Below w1.heap.size w1 V) => tor V (BW.out V h))
  have MA := hide' (fun (V : World) (h : Below w1.heap.size w1 V) => mad V (BW.out V h))
  have EF := hide' (errOf_is5 f0)
  have HO := hide' hout
  have C0 := hide' (Below.refl w1.heap.size w1)
  obtain ⟨x0, x1, x2, x3, x4, x5, x6, y0, y1, y2, z0, z1, z2⟩ := SV.out w1 C0.out
  clear hT g0 g1 g2 par err shp mad tor f0 hout
  go_enter Tryd.func4, Tryd.ntmps4
  go_wp2_with fail
  refine (LV.out w1 C0.out).mono ?_
  rintro e w2 ⟨rfl, b⟩
  clear hw1 x0 x1 x2 x3 x4 x5 x6 y0 y1 y2 z0 z1 z2
  have C1 := hide' (C0.out.trans (b.mono C0.out.size))
  clear b C0
  obtain ⟨x0, x1, x2, x3, x4, x5, x6, y0, y1, y2, z0, z1, z2⟩ := SV.out _ C1.out
  go_wp2_with fail
  refine (PA.out w2 C1.out).mono ?_
  unfold TorBad
  rw [EF.out]
  rintro e w3 ⟨rfl, b⟩
  clear x0 x1 x2 x3 x4 x5 x6 y0 y1 y2 z0 z1 z2
  have C2 := hide' (C1.out.trans (b.mono C1.out.size))
  clear b C1
  have C3 := hide' (C2.out.alloc C2.out.size (.cells #[.int .i64 0, .int .i64 0, .slice none 0 0] 26))
  clear C2
  go_wp2_with fail
  refine (ER.out _ C3.out).mono ?_
  rintro e w4 ⟨rfl, b⟩
  have C4 := hide' (C3.out.trans (b.mono C3.out.size))
  clear b C3
  obtain ⟨x0, x1, x2, x3, x4, x5, x6, y0, y1, y2, z0, z1, z2⟩ := SV.out _ C4.out
  go_wp2_with fail
  refine (SH.out _ C4.out).mono ?_
  rintro e w5 ⟨rfl, b⟩
  clear x0 x1 x2 x3 x4 x5 x6 y0 y1 y2 z0 z1 z2
  have C5 := hide' (C4.out.trans (b.mono C4.out.size))
  clear b C4
  obtain ⟨x0, x1, x2, x3, x4, x5, x6, y0, y1, y2, z0, z1, z2⟩ := SV.out _ C5.out
  go_wp2_with fail
  refine (MA.out _ C5.out).mono ?_
  rintro e w6 ⟨rfl, b⟩
  clear x0 x1 x2 x3 x4 x5 x6 y0 y1 y2 z0 z1 z2
  have C6 := hide' (C5.out.trans (b.mono C5.out.size))
  clear b C5
  obtain ⟨x0, x1, x2, x3, x4, x5, x6, y0, y1, y2, z0, z1, z2⟩ := SV.out _ C6.out
  go_wp2_with fail
  refine (TO.out _ C6.out).mono ?_
  rintro e w7 ⟨ba, bn, bc, rfl, b⟩
  clear x0 x1 x2 x3 x4 x5 x6 y0 y1 y2 z0 z1 z2
  have C7 := hide' (C6.out.trans (b.mono C6.out.size))
  clear b C6
  have C8 := hide' (C7.out.alloc C7.out.size (.cells #[.int .i64 bW, .int .i64 bH, .slice ba bn bc] 26))
  clear C7
  have Gb0 := hide' (show (w7.alloc (.cells #[.int .i64 bW, .int .i64 bH, .slice ba bn bc] 26)).heap[w7.heap.size]? = some (.cells #[.int .i64 bW, .int .i64 bH, .slice ba bn bc] 26 (0, 0)) from heap_alloc_new _ _)
  have v0 := cell_of_row _ _ 0 _ _ _ Gb0.out
  have v1 := cell_of_row _ _ 1 _ _ _ Gb0.out
  have v2 := cell_of_row _ _ 2 _ _ _ Gb0.out
  simp at v0 v1 v2
  by_cases u1 : bW < 2
  · go_wp2
    go_ret
    exact ⟨rfl, BW.out _ C8.out⟩
  · by_cases u2 : bH < 2
    · go_wp2
      go_ret
      exact ⟨rfl, BW.out _ C8.out⟩
    · by_cases u3 : 7 < bW
      · go_wp2
        go_ret
        exact ⟨rfl, BW.out _ C8.out⟩
      · have u4 : 7 < bH := by have := HO.out; omega
        go_wp2
        go_ret
        exact ⟨rfl, BW.out _ C8.out⟩
set_option maxRecDepth 100000 in
set_option maxHeartbeats 12800000 in
theorem law_eden_d3 (o : Out) (ta : Option Addr) (tn tc : Nat) (W H : Int) (a : Option Addr) (n c : Nat) (X Y : Int) (d : Option Addr) (k l : Nat) (f : Nat) (f0 : f ≠ 0) (A B W2 H2 : Nat) (bs : List Int) (hl : bs.length = A * B) (eW : (A : Int) - 2 = (W2 : Int)) (eH : (B : Int) - 2 = (H2 : Int)) (A7 : A ≤ 7) (B7 : B ≤ 7) (R2 : Int → Int → List Int → Prop) (w : World) (hT : TzTab w)
    (par : ∀ V, Below w.heap.size w V → Calls Tryd.prog 8 #[.agg #[.int .i64 o.kind, .int .i64 o.born, .int .i64 o.stay, .int .i64 o.states, .int .i64 o.radius, .slice ta tn tc, .string o.turns], .agg #[.int .i64 W, .int .i64 H, .slice a n c]] V (TorBad f V))
    (err : ∀ V, Below w.heap.size w V → Calls Tryd.prog 9 #[.iface 54 (.int .i64 (f : Int)), .int .i64 5] V (BoolIs true V))
    (shp : ∀ V, Below w.heap.size w V → Calls Tryd.prog 13 #[.agg #[.int .i64 X, .int .i64 Y, .slice d k l]] V (fun e w' => e = .returned (.int .i64 0) ∧ Below V.heap.size V w'))
    (mad : ∀ V, Below w.heap.size w V → Calls Tryd.prog 12 #[.agg #[.int .i64 o.kind, .int .i64 o.born, .int .i64 o.stay, .int .i64 o.states, .int .i64 o.radius, .slice ta tn tc, .string o.turns], .agg #[.int .i64 X, .int .i64 Y, .slice d k l], .agg #[.int .i64 W, .int .i64 H, .slice a n c]] V (BoolIs false V))
    (tor : ∀ V, Below w.heap.size w V → Calls Tryd.prog 14 #[.agg #[.int .i64 o.kind, .int .i64 o.born, .int .i64 o.stay, .int .i64 o.states, .int .i64 o.radius, .slice ta tn tc, .string o.turns], .agg #[.int .i64 X, .int .i64 Y, .slice d k l]] V (TorIn A B bs V))
    (par2 : ∀ V a' n' c', Below w.heap.size w V → ArgP V (midR A bs H2) a' n' c' → n' ≤ c' → c' ≤ maxLen → Calls Tryd.prog 8 #[.agg #[.int .i64 o.kind, .int .i64 o.born, .int .i64 o.stay, .int .i64 o.states, .int .i64 o.radius, .slice ta tn tc, .string o.turns], .agg #[.int .i64 (W2 : Int), .int .i64 (H2 : Int), .slice a' n' c']] V (PaGood R2 V))
    (mad2 : ∀ V W' H' ys b m q a' n' c', Below w.heap.size w V → R2 W' H' ys → ArgP V ys b m q → ArgP V (midR A bs H2) a' n' c' → Calls Tryd.prog 12 #[.agg #[.int .i64 o.kind, .int .i64 o.born, .int .i64 o.stay, .int .i64 o.states, .int .i64 o.radius, .slice ta tn tc, .string o.turns], .agg #[.int .i64 W', .int .i64 H', .slice b m q], .agg #[.int .i64 (W2 : Int), .int .i64 (H2 : Int), .slice a' n' c']] V (BoolIs true V)) :
    Calls Tryd.prog 4 #[.agg #[.int .i64 o.kind, .int .i64 o.born, .int .i64 o.stay, .int .i64 o.states, .int .i64 o.radius, .slice ta tn tc, .string o.turns], .agg #[.int .i64 W, .int .i64 H, .slice a n c], .agg #[.int .i64 X, .int .i64 Y, .slice d k l]] w fun e w' => e = .returned (.bool true) ∧ Below w.heap.size w w' := by
  obtain ⟨w1, hw1⟩ : ∃ w1, ((w.alloc (.cells #[.int .i64 o.kind, .int .i64 o.born, .int .i64 o.stay, .int .i64 o.states, .int .i64 o.radius, .slice ta tn tc, .string o.turns] 24)).alloc (.cells #[.int .i64 W, .int .i64 H, .slice a n c] 26)).alloc (.cells #[.int .i64 X, .int .i64 Y, .slice d k l] 26) = w1 := ⟨_, rfl⟩
  have BB := hide' (show Below w.heap.size w w1 by rw [← hw1]; exact (((Below.refl _ _).alloc (Nat.le_refl _) _).alloc (by simp) _).alloc (by simp; try omega) _)
  have g0 : w1.heap[w.heap.size]? = some (.cells #[.int .i64 o.kind, .int .i64 o.born, .int .i64 o.stay, .int .i64 o.states, .int .i64 o.radius, .slice ta tn tc, .string o.turns] 24 (0, 0)) := by rw [← hw1, Below.heap_alloc _ _ _ (by simp; try omega), Below.heap_alloc _ _ _ (by simp; try omega)]; exact heap_atX _ _ _ (by simp)
  have g1 : w1.heap[w.heap.size + 1]? = some (.cells #[.int .i64 W, .int .i64 H, .slice a n c] 26 (0, 0)) := by rw [← hw1, Below.heap_alloc _ _ _ (by simp; try omega)]; exact heap_atX _ _ _ (by simp)
  have g2 : w1.heap[w.heap.size + 1 + 1]? = some (.cells #[.int .i64 X, .int .i64 Y, .slice d k l] 26 (0, 0)) := by rw [← hw1]; exact heap_atX _ _ _ (by simp)
  have SV := hide' (fun (V : World) (h : Below w1.heap.size w1 V) => show V.cell? ⟨w.heap.size, 0, none⟩ = some (.int .i64 o.kind) ∧ V.cell? ⟨w.heap.size, 1, none⟩ = some (.int .i64 o.born) ∧ V.cell? ⟨w.heap.size, 2, none⟩ = some (.int .i64 o.stay) ∧ V.cell? ⟨w.heap.size, 3, none⟩ = some (.int .i64 o.states) ∧ V.cell? ⟨w.heap.size, 4, none⟩ = some (.int .i64 o.radius) ∧ V.cell? ⟨w.heap.size, 5, none⟩ = some (.slice ta tn tc) ∧ V.cell? ⟨w.heap.size, 6, none⟩ = some (.string o.turns) ∧ V.cell? ⟨w.heap.size + 1, 0, none⟩ = some (.int .i64 W) ∧ V.cell? ⟨w.heap.size + 1, 1, none⟩ = some (.int .i64 H) ∧ V.cell? ⟨w.heap.size + 1, 2, none⟩ = some (.slice a n c) ∧ V.cell? ⟨w.heap.size + 1 + 1, 0, none⟩ = some (.int .i64 X) ∧ V.cell? ⟨w.heap.size + 1 + 1, 1, none⟩ = some (.int .i64 Y) ∧ V.cell? ⟨w.heap.size + 1 + 1, 2, none⟩ = some (.slice d k l) from by
    have e0 := (h.block _ (lt_of_block g0)).trans g0
    have e1 := (h.block _ (lt_of_block g1)).trans g1
    have e2 := (h.block _ (lt_of_block g2)).trans g2
    exact ⟨cell_of_row V _ 0 _ _ _ e0, cell_of_row V _ 1 _ _ _ e0, cell_of_row V _ 2 _ _ _ e0, cell_of_row V _ 3 _ _ _ e0, cell_of_row V _ 4 _ _ _ e0, cell_of_row V _ 5 _ _ _ e0, cell_of_row V _ 6 _ _ _ e0, cell_of_row V _ 0 _ _ _ e1, cell_of_row V _ 1 _ _ _ e1, cell_of_row V _ 2 _ _ _ e1, cell_of_row V _ 0 _ _ _ e2, cell_of_row V _ 1 _ _ _ e2, cell_of_row V _ 2 _ _ _ e2⟩)
  have BW := hide' (fun (V : World) (h : Below w1.heap.size w1 V) => BB.out.trans (h.mono BB.out.size))
  have LV := hide' (fun (V : World) (h : Below w1.heap.size w1 V) => lives_any V (hT.below (BW.out V h)))
  have PA := hide' (fun (V : World) (h : Below w1.heap.size w1 V) => par V (BW.out V h))
  have ER := hide' (fun (V : World) (h : Below w1.heap.size w1 V) => err V (BW.out V h))
  have SH := hide' (fun (V : World) (h : Below w1.heap.size w1 V) => shp V (BW.out V h))
  have TO := hide' (fun (V : World) (h : Below w1.heap.size w1 V) => tor V (BW.out V h))
  have MA := hide' (fun (V : World) (h : Below w1.heap.size w1 V) => mad V (BW.out V h))
  have PM := hide' (fun (V : World) a' n' c' (h : Below w1.heap.size w1 V) => par2 V a' n' c' (BW.out V h))
  have MM := hide' (fun (V : World) W' H' ys b m q a' n' c' (h : Below w1.heap.size w1 V) => mad2 V W' H' ys b m q a' n' c' (BW.out V h))
  have HL := hide' hl
  have EF := hide' (errOf_is5 f0)
  have C0 := hide' (Below.refl w1.heap.size w1)
  obtain ⟨x0, x1, x2, x3, x4, x5, x6, y0, y1, y2, z0, z1, z2⟩ := SV.out w1 C0.out
  clear hT g0 g1 g2 par err shp mad tor par2 mad2 f0 hl
  go_enter Tryd.func4, Tryd.ntmps4
  go_wp2_with fail
  refine (LV.out w1 C0.out).mono ?_
  rintro e w2 ⟨rfl, b⟩
  clear hw1 x0 x1 x2 x3 x4 x5 x6 y0 y1 y2 z0 z1 z2
  have C1 := hide' (C0.out.trans (b.mono C0.out.size))
  clear b C0
  obtain ⟨x0, x1, x2, x3, x4, x5, x6, y0, y1, y2, z0, z1, z2⟩ := SV.out _ C1.out
  go_wp2_with fail
  refine (PA.out w2 C1.out).mono ?_
  unfold TorBad
  rw [EF.out]
  rintro e w3 ⟨rfl, b⟩
  clear x0 x1 x2 x3 x4 x5 x6 y0 y1 y2 z0 z1 z2
  have C2 := hide' (C1.out.trans (b.mono C1.out.size))
  clear b C1
  have C3 := hide' (C2.out.alloc C2.out.size (.cells #[.int .i64 0, .int .i64 0, .slice none 0 0] 26))
  clear C2
  go_wp2_with fail
  refine (ER.out _ C3.out).mono ?_
  rintro e w4 ⟨rfl, b⟩
  have C4 := hide' (C3.out.trans (b.mono C3.out.size))
  clear b C3
  obtain ⟨x0, x1, x2, x3, x4, x5, x6, y0, y1, y2, z0, z1, z2⟩ := SV.out _ C4.out
  go_wp2_with fail
  refine (SH.out _ C4.out).mono ?_
  rintro e w5 ⟨rfl, b⟩
  clear x0 x1 x2 x3 x4 x5 x6 y0 y1 y2 z0 z1 z2
  have C5 := hide' (C4.out.trans (b.mono C4.out.size))
  clear b C4
  obtain ⟨x0, x1, x2, x3, x4, x5, x6, y0, y1, y2, z0, z1, z2⟩ := SV.out _ C5.out
  go_wp2_with fail
  refine (MA.out _ C5.out).mono ?_
  rintro e w6 ⟨rfl, b⟩
  clear x0 x1 x2 x3 x4 x5 x6 y0 y1 y2 z0 z1 z2
  have C6 := hide' (C5.out.trans (b.mono C5.out.size))
  clear b C5
  obtain ⟨x0, x1, x2, x3, x4, x5, x6, y0, y1, y2, z0, z1, z2⟩ := SV.out _ C6.out
  go_wp2_with fail
  refine (TO.out _ C6.out).mono ?_
  rintro e w7 ⟨q, rfl, ap, b⟩
  clear x0 x1 x2 x3 x4 x5 x6 y0 y1 y2 z0 z1 z2
  have C7 := hide' (C6.out.trans (b.mono C6.out.size))
  clear b C6
  obtain ⟨N, hN⟩ : ∃ N, A * B = N := ⟨_, rfl⟩
  rw [hN] at ap HL ⊢
  have HN := hide' hN
  clear hN
  have Ab := hide' ap
  clear ap
  have C8 := hide' (C7.out.alloc C7.out.size (.cells #[.int .i64 (A : Int), .int .i64 (B : Int), .slice (some ⟨q, 0, none⟩) N N] 26))
  clear C7
  have Ab0 := hide' (Ab.out.alloc (.cells #[.int .i64 (A : Int), .int .i64 (B : Int), .slice (some ⟨q, 0, none⟩) N N] 26))
  clear Ab
  have Gb0 := hide' (show (w7.alloc (.cells #[.int .i64 (A : Int), .int .i64 (B : Int), .slice (some ⟨q, 0, none⟩) N N] 26)).heap[w7.heap.size]? = some (.cells #[.int .i64 (A : Int), .int .i64 (B : Int), .slice (some ⟨q, 0, none⟩) N N] 26 (0, 0)) from heap_alloc_new _ _)
  have A2 : 2 ≤ A := by omega
  have B2 : 2 ≤ B := by omega
  obtain ⟨U, hU⟩ : ∃ U, w7.alloc (.cells #[.int .i64 (A : Int), .int .i64 (B : Int), .slice (some ⟨q, 0, none⟩) N N] 26) = U := ⟨_, rfl⟩
  obtain ⟨gb, hgb⟩ : ∃ gb, w7.heap.size = gb := ⟨_, rfl⟩
  rw [hU] at C8 Gb0 Ab0
  rw [hgb] at Gb0
  have US := hide' (show w7.heap.size + 1 = U.heap.size by rw [← hU]; simp)
  have HU := hide' hU
  have HGB := hide' hgb
  clear hU hgb
  have v0 := cell_of_row _ _ 0 _ _ _ Gb0.out
  have v1 := cell_of_row _ _ 1 _ _ _ Gb0.out
  have v2 := cell_of_row _ _ 2 _ _ _ Gb0.out
  simp at v0 v1 v2
  have MS0 := hide' (show MSt U (U.alloc (.cells #[.int .i64 (W2 : Int), .int .i64 (H2 : Int), .slice none 0 0] 26)) W2 H2 (midR A bs 0) (.slice none 0 0) from ⟨heap_alloc_new _ _, World.ownsRow_nil _ _ _ _, (Below.refl _ _).alloc (Nat.le_refl _) _, by simp⟩)
  obtain ⟨it, hit, hz⟩ := Option.map_eq_some_iff.1 info_intP
  simp only [Prod.mk.injEq] at hz
  obtain ⟨hz0, hz1, hz2⟩ := hz
  go_wp2
  rw [US.out, HU.out, HGB.out]
  clear v0 v1 v2
  go_loopw [17] (fun yv wr => ∃ (y j : Nat) (v : Value), yv = .int .i64 (y : Int) ∧ y = j + 1 ∧ j ≤ H2 ∧ Hid (MSt U wr W2 H2 (midR A bs j) v)) (fun yv _ => B - (intOf yv).toNat)
  case atStart => exact ⟨1, 0, _, rfl, rfl, by omega, MS0⟩
  case round =>
    obtain ⟨y, j, v, rfl, hyj, hj, MS⟩ := hrel
    have GB := hide' ((MS.out.bel.block _ (lt_of_block Gb0.out)).trans Gb0.out)
    have v0 := cell_of_row _ _ 0 _ _ _ GB.out
    have v1 := cell_of_row _ _ 1 _ _ _ GB.out
    have v2 := cell_of_row _ _ 2 _ _ _ GB.out
    simp at v0 v1 v2
    obtain ⟨ma, mq, rfl⟩ := own_sl MS.out.own
    obtain ⟨gm, hgm⟩ : ∃ gm, U.heap.size = gm := ⟨_, rfl⟩
    have HGM := hide' hgm
    have u0 := cell_of_row _ _ 0 _ _ _ MS.out.blk
    have u1 := cell_of_row _ _ 1 _ _ _ MS.out.blk
    have u2 := cell_of_row _ _ 2 _ _ _ MS.out.blk
    simp at u0 u1 u2
    rw [hgm] at u0 u1 u2 ⊢
    clear hgm
    have B1 : (B : Int) - 1 = ((H2 + 1 : Nat) : Int) := by omega
    by_cases dy : (y : Int) < ((H2 + 1 : Nat) : Int)
    · obtain ⟨L, hL⟩ : ∃ L, y * A = L := ⟨_, rfl⟩
      obtain ⟨zs, hzs⟩ : ∃ zs, (bs.drop ((j + 1) * A + 1)).take (A - 2) = zs := ⟨_, rfl⟩
      have RL := row_len (W := A) (H := B) (k := j) (bs := bs) (HL.out.trans HN.out.symm) A2 (by omega)
      rw [← hyj, hL, HN.out] at RL
      rw [← hyj, hL] at hzs
      rw [hzs] at RL
      have NW := hide' (row_news (V := wr) (Ab0.out.below MS.out.bel) (d := L + 1) (m := A - 2) (by rw [HL.out]; omega))
      rw [hzs] at NW
      have MR := hide' (show midR A bs (j + 1) = midR A bs j ++ zs by rw [midR, ← hyj, hL, hzs])
      have ML := hide' (midR_len (H := B) (HL.out.trans HN.out.symm) A2 j (by omega))
      have ML2 := hide' (show (midR A bs j).length ≤ 49 by rw [ML.out]; exact Nat.le_trans (Nat.mul_le_mul (show j ≤ 7 by omega) (show A - 2 ≤ 7 by omega)) (by omega))
      have MSD : MSt U wr.drew W2 H2 (midR A bs j) (.slice ma (midR A bs j).length mq) := ⟨MS.out.blk, MS.out.own.drew, MS.out.bel.drew, MS.out.siz⟩
      have PSH := hide' (fun (X7 : World) (r7 : Value) (hg : wr.drew.grownBy X7 (Value.slice ma (midR A bs j).length mq).ownBlock) (ho : X7.ownsRow (U.heap.size + 1) 3 1 r7 ((midR A bs j).length + zs.length) ((midR A bs j).map (Value.int .i64) ++ zs.map (Value.int .i64))) => (MSD.push hg ho).2)
      have MID := hide' (fun (X7 : World) (hg : wr.drew.grownBy X7 (Value.slice ma (midR A bs j).length mq).ownBlock) => MSD.mid hg)
      clear MSD
      have OW := hide' MS.out.own
      obtain ⟨nl, hnl⟩ : ∃ nl, (midR A bs j).length = nl := ⟨_, rfl⟩
      rw [hnl] at PSH OW ML2 u2 MID
      obtain ⟨D, hD⟩ : ∃ D, L + 1 = D := ⟨_, rfl⟩
      obtain ⟨T, hTt⟩ : ∃ T, L + A = T := ⟨_, rfl⟩
      obtain ⟨M, hM⟩ : ∃ M, D + W2 = M := ⟨_, rfl⟩
      rw [hD] at NW
      have eL : (y : Int) * (A : Int) = (L : Int) := by rw [← hL]; simp
      have eD : (L : Int) + 1 = (D : Int) := by omega
      have eT : (L : Int) + (A : Int) = (T : Int) := by omega
      have eM : (T : Int) - 1 = (M : Int) := by omega
      have L49 : N ≤ 49 := by rw [← HN.out]; exact Nat.mul_le_mul A7 B7
      have D0 : (0 : Int) ≤ (D : Int) := by omega
      have DM : (D : Int) ≤ (M : Int) := by omega
      have Mc : (M : Int) ≤ (N : Int) := by omega
      have cD : ¬ N = D := by omega
      have zl : zs.length = W2 := by rw [RL.1]; omega
      have ZL := hide' (show (zs.map (Value.int .i64)).length = W2 * 1 by simp [zl])
      have SZ := hide' MS.out.siz
      rw [zl] at PSH
      have sV := ML2.out
      have MD := hide' (show M - D = W2 by omega)
      rw [HGM.out] at PSH OW MID
      have e1 : IntKind.i64.wrap ((y : Int) * (A : Int)) = (L : Int) := by rw [eL]; exact wrap_near (by omega) (by omega)
      have e2 : IntKind.i64.wrap ((L : Int) + 1) = (D : Int) := by rw [eD]; exact wrap_near (by omega) (by omega)
      have e3 : IntKind.i64.wrap ((L : Int) + (A : Int)) = (T : Int) := by rw [eT]; exact wrap_near (by omega) (by omega)
      have e4 : IntKind.i64.wrap ((T : Int) - 1) = (M : Int) := by rw [eM]; exact wrap_near (by omega) (by omega)
      have mx : max (M : Int) 0 = (M : Int) := by omega
      have tD : ((D : Int)).toNat = D := by omega
      have tM : ((M : Int)).toNat = M := by omega
      have M0 : (0 : Int) ≤ (M : Int) := by omega
      have HYJ := hide' hyj
      have mdw : M - D = W2 := MD.out
      clear RL hzs hL hnl hD hTt hM zl eL eD eT eM hyj
      have OWD := hide' (fun (Y : World) (hY : Y.heap = wr.heap) => show Y.ownsRow (gm + 1) 3 1 (.slice ma nl mq) nl ((midR A bs j).map (Value.int .i64)) from own_keep OW.out (fun b _ => by rw [hY]))
      have NWD := hide' (fun (Y : World) (hY : Y.heap = wr.heap) => show ∀ j u, (zs.map (Value.int .i64))[j]? = some u → Y.cell? ((⟨q, D, none⟩ : Addr).add j) = some u from fun j u hu => by rw [← NW.out j u hu]; simp only [World.cell?, hY])
      have du2 : wr.drew.cell? ⟨gm, 2, none⟩ = some (.slice ma nl mq) := u2
      have dv0 : wr.drew.cell? ⟨gb, 0, none⟩ = some (.int .i64 (A : Int)) := v0
      have dv2 : wr.drew.cell? ⟨gb, 2, none⟩ = some (.slice (some ⟨q, 0, none⟩) N N) := v2
      go_wp2
      refine regionD (by kernel_rfl) _ [.pointer (some ⟨gm, 2, none⟩), .slice ma nl mq, .pointer (some ⟨gb, 2, none⟩), .slice (some ⟨q, 0, none⟩) N N, .int .i64 (y : Int), .pointer (some ⟨gb, 0, none⟩), .int .i64 (A : Int), .int .i64 (L : Int), .int .i64 (D : Int), .int .i64 (y : Int), .pointer (some ⟨gb, 0, none⟩), .int .i64 (A : Int), .int .i64 (L : Int), .pointer (some ⟨gb, 0, none⟩), .int .i64 (A : Int), .int .i64 (T : Int), .int .i64 (M : Int), .slice (some ⟨q, D, none⟩) W2 (N - D)] (.pointer (some ⟨gm, 2, none⟩)) (fun v' w' => wr.drew.grownBy w' (Value.slice ma nl mq).ownBlock ∧ w'.ownsRow (gm + 1) 3 1 v' (nl + W2) ((midR A bs j).map (Value.int .i64) ++ zs.map (Value.int .i64))) ⟨gm, 2, none⟩ rfl rfl (by simp) rfl rfl (by kernel_rfl) (by kernel_rfl) ?hp ?h19 ?h18 ?h20 ?hQ
      case hp =>
        intro a9 ha i9 o9 v9 hdp ho hv
        have t14 : a9.tmps[14]? = some (.pointer (some ⟨gb, 0, none⟩)) := (ha 14 (by omega)).trans rfl
        have t16 : a9.tmps[16]? = some (.pointer (some ⟨gm, 0, none⟩)) := (ha 16 (by omega)).trans rfl
        have t17 : a9.tmps[17]? = some (.int .i64 (y : Int)) := (ha 17 (by omega)).trans rfl
        rcases i9 with _ | _ | _ | _ | _ | _ | _ | _ | _ | _ | _ | _ | _ | _ | _ | _ | _ | _ | i9
        · obtain rfl := Option.some.inj ho
          obtain rfl := Option.some.inj hv
          simp [execOp, Act.eval, go_sem, t16]
        · obtain rfl := Option.some.inj ho
          obtain rfl := Option.some.inj hv
          have d0 : a9.tmps[96]? = some _ := hdp 0 _ (by simp [depsD]) rfl
          simp [execOp, Act.eval, go_sem, d0, du2]
        · obtain rfl := Option.some.inj ho
          obtain rfl := Option.some.inj hv
          simp [execOp, Act.eval, go_sem, t14]
        · obtain rfl := Option.some.inj ho
          obtain rfl := Option.some.inj hv
          have d2 : a9.tmps[98]? = some _ := hdp 2 _ (by simp [depsD]) rfl
          simp [execOp, Act.eval, go_sem, d2, dv2]
        · obtain rfl := Option.some.inj ho
          obtain rfl := Option.some.inj hv
          simp [execOp, Act.eval, go_sem, t17]
        · obtain rfl := Option.some.inj ho
          obtain rfl := Option.some.inj hv
          simp [execOp, Act.eval, go_sem, t14]
        · obtain rfl := Option.some.inj ho
          obtain rfl := Option.some.inj hv
          have d5 : a9.tmps[101]? = some _ := hdp 5 _ (by simp [depsD]) rfl
          simp [execOp, Act.eval, go_sem, d5, dv0]
        · obtain rfl := Option.some.inj ho
          obtain rfl := Option.some.inj hv
          have d4 : a9.tmps[100]? = some _ := hdp 4 _ (by simp [depsD]) rfl
          have d6 : a9.tmps[102]? = some _ := hdp 6 _ (by simp [depsD]) rfl
          simp [execOp, Act.eval, go_sem, d4, d6, e1]
        · obtain rfl := Option.some.inj ho
          obtain rfl := Option.some.inj hv
          have d7 : a9.tmps[103]? = some _ := hdp 7 _ (by simp [depsD]) rfl
          simp [execOp, Act.eval, go_sem, d7, e2]
        · obtain rfl := Option.some.inj ho
          obtain rfl := Option.some.inj hv
          simp [execOp, Act.eval, go_sem, t17]
        · obtain rfl := Option.some.inj ho
          obtain rfl := Option.some.inj hv
          simp [execOp, Act.eval, go_sem, t14]
        · obtain rfl := Option.some.inj ho
          obtain rfl := Option.some.inj hv
          have d10 : a9.tmps[106]? = some _ := hdp 10 _ (by simp [depsD]) rfl
          simp [execOp, Act.eval, go_sem, d10, dv0]
        · obtain rfl := Option.some.inj ho
          obtain rfl := Option.some.inj hv
          have d9 : a9.tmps[105]? = some _ := hdp 9 _ (by simp [depsD]) rfl
          have d11 : a9.tmps[107]? = some _ := hdp 11 _ (by simp [depsD]) rfl
          simp [execOp, Act.eval, go_sem, d9, d11, e1]
        · obtain rfl := Option.some.inj ho
          obtain rfl := Option.some.inj hv
          simp [execOp, Act.eval, go_sem, t14]
        · obtain rfl := Option.some.inj ho
          obtain rfl := Option.some.inj hv
          have d13 : a9.tmps[109]? = some _ := hdp 13 _ (by simp [depsD]) rfl
          simp [execOp, Act.eval, go_sem, d13, dv0]
        · obtain rfl := Option.some.inj ho
          obtain rfl := Option.some.inj hv
          have d12 : a9.tmps[108]? = some _ := hdp 12 _ (by simp [depsD]) rfl
          have d14 : a9.tmps[110]? = some _ := hdp 14 _ (by simp [depsD]) rfl
          simp [execOp, Act.eval, go_sem, d12, d14, e3]
        · obtain rfl := Option.some.inj ho
          obtain rfl := Option.some.inj hv
          have d15 : a9.tmps[111]? = some _ := hdp 15 _ (by simp [depsD]) rfl
          simp [execOp, Act.eval, go_sem, d15, e4]
        · obtain rfl := Option.some.inj ho
          obtain rfl := Option.some.inj hv
          have d3 : a9.tmps[99]? = some _ := hdp 3 _ (by simp [depsD]) rfl
          have d8 : a9.tmps[104]? = some _ := hdp 8 _ (by simp [depsD]) rfl
          have d16 : a9.tmps[112]? = some _ := hdp 16 _ (by simp [depsD]) rfl
          simp [execOp, Act.eval, go_sem, d3, d8, d16, D0, DM, Mc, cD, mdw]
        · cases hv
      case h19 =>
        intro a9 w9 o9 ha ho
        have t16 : a9.tmps[16]? = some (.pointer (some ⟨gm, 0, none⟩)) := (ha 16 (by omega)).trans rfl
        obtain rfl := Option.some.inj ho
        simp [execOp, Act.eval, go_sem, t16]
      case h18 =>
        intro a9 o9 K9 hv ho hK
        obtain rfl := Option.some.inj ho
        exact wp_append_own wr.drew (.tmp 97) (.tmp 113) 22 rfl (gm + 1) 3 it (.int .i64 0) 1 8 Tryd.underlying22 hit hz0 hz1 hz2 rfl (by decide) (.slice ma nl mq) nl _ (eval_ofE (hv 1 _ rfl)) (OWD.out _ rfl) ⟨q, D, none⟩ W2 (N - D) (zs.map (Value.int .i64)) (eval_ofE (hv 17 _ rfl)) ZL.out (NWD.out _ rfl) (fun u hu => by obtain ⟨x, _, rfl⟩ := List.mem_map.1 hu; rfl) (by unfold maxLen; omega) (by omega) (by have := SZ.out; rw [HGM.out] at this; exact this) (fun v' w' h2 h3 _ => hK v' w' ⟨h3, h2⟩)
      case h20 =>
        intro a9 o9 v' w8 K9 pa h115 h114 ho hK
        obtain ⟨hgrow, hown1⟩ := pa
        obtain ⟨a7, q7, rfl⟩ := own_sl hown1
        obtain rfl := Option.some.inj ho
        have x5 := cell_of_row w8 _ 2 _ _ _ (MID.out w8 hgrow)
        have x6 := frozen_of_row w8 _ 2 _ _ (MID.out w8 hgrow)
        simp at x5
        unfold Oper.wp
        simp [execOp, Act.eval, go_sem, h115, h114, x5, x6]
        exact hK
      case hQ =>
        rintro v' w8 ⟨hgrow, hown1⟩
        obtain ⟨a7, q7, rfl⟩ := own_sl hown1
        have PF := hide' (PSH.out w8 _ hgrow hown1)
        clear hgrow hown1
        simp only [putsFrom, List.cons_append, List.nil_append]
        go_wp2
        exact ⟨⟨y + 1, j + 1, _, by go_num, by have := HYJ.out; omega, by have := HYJ.out; omega, hide' (by rw [MR.out]; exact PF.out)⟩, by simp [intOf]; omega⟩
    · obtain rfl : j = H2 := by omega
      obtain ⟨ma', mq', em, AM, mle, mmx⟩ := own_argL rfl MS.out.own
      cases em
      have AMH := hide' AM
      have MLE := hide' mle
      have MMX := hide' mmx
      have CR := hide' (C8.out.trans (MS.out.bel.mono C8.out.size))
      have GM := hide' MS.out.blk
      rw [HGM.out] at GM
      obtain ⟨nl, hnl⟩ : ∃ nl, (midR A bs j).length = nl := ⟨_, rfl⟩
      rw [hnl] at AMH MLE GM u2
      clear AM mle mmx hnl MS
      obtain ⟨x0, x1, x2, x3, x4, x5, x6, y0, y1, y2, z0, z1, z2⟩ := SV.out _ CR.out
      go_wp2_with fail
      refine (PM.out wr _ _ _ CR.out AMH.out MLE.out MMX.out).mono ?_
      rintro e w8 ⟨cW, cH, cs, ca, cn, cc, rfl, ap, hr, b⟩
      have HR2 := hide' hr
      have AC := hide' ap
      have CR2 := hide' (CR.out.trans (b.mono CR.out.size))
      have GM2 := hide' ((b.block _ (lt_of_block GM.out)).trans GM.out)
      have AM2 := hide' (AMH.out.below b)
      clear x0 x1 x2 x3 x4 x5 x6 y0 y1 y2 z0 z1 z2 ap hr b u0 u1 u2 v0 v1 v2 GB
      have CR3 := hide' (CR2.out.alloc CR2.out.size (.cells #[.int .i64 cW, .int .i64 cH, .slice ca cn cc] 26))
      have GM3 := hide' ((Below.heap_alloc _ (.cells #[.int .i64 cW, .int .i64 cH, .slice ca cn cc] 26) _ (lt_of_block GM2.out)).trans GM2.out)
      have AM3 := hide' (AM2.out.alloc (.cells #[.int .i64 cW, .int .i64 cH, .slice ca cn cc] 26))
      have AC3 := hide' (AC.out.alloc (.cells #[.int .i64 cW, .int .i64 cH, .slice ca cn cc] 26))
      have u0 := cell_of_row _ _ 0 _ _ _ GM3.out
      have u1 := cell_of_row _ _ 1 _ _ _ GM3.out
      have u2 := cell_of_row _ _ 2 _ _ _ GM3.out
      simp only [List.getElem?_toArray, List.getElem?_cons_zero, List.getElem?_cons_succ] at u0 u1 u2
      obtain ⟨x0, x1, x2, x3, x4, x5, x6, y0, y1, y2, z0, z1, z2⟩ := SV.out _ CR3.out
      go_wp2_with fail
      refine (MM.out _ _ _ _ _ _ _ _ _ _ CR3.out HR2.out AC3.out AM3.out).mono ?_
      rintro e w9 ⟨rfl, b⟩
      have CR4 := hide' (CR3.out.trans (b.mono CR3.out.size))
      clear x0 x1 x2 x3 x4 x5 x6 y0 y1 y2 z0 z1 z2 b u0 u1 u2
      go_wp2
      go_ret
      exact ⟨rfl, BW.out _ CR4.out⟩
end Go.Proofs.YtlpdobfjgpedaaaDoor

