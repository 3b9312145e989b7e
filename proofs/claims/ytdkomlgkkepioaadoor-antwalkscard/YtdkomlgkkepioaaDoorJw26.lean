/-
  What the last text of this claim leans on, part 26: Ag2.
-/
import Derived.Test.YtdkomlgkkepioaaDoorJw24
import Derived.Test.YtdkomlgkkepioaaDoorJw16
import Derived.Test.YtdkomlgkkepioaaDoorJw25
import Derived.Deep.CutRange
namespace Go.Proofs.YtdkomlgkkepioaaDoor
open Go.RowKit
set_option linter.unusedVariables false
theorem turns_ofA {o : Out} {xs : List SpotT} {x y d k : Int} (h : AntOk o xs x y d k) : turnsP o.turns := by
  obtain ⟨hg, k3, _⟩ := h
  rcases hg with ⟨h, _⟩ | ⟨h, _⟩ | ⟨_, h, _⟩
  · omega
  · omega
  · exact h
theorem start_ofA {o : Out} {xs : List SpotT} {x y : Int} {d : Nat} {k : Int} (h : AntOk o xs x y (d : Int) k) : OkA o.turns.size ⟨colT xs xs.length, x, y, d⟩ := by
  have tp := turns_ofA h
  obtain ⟨_, _, sE, _, d0, d3, _⟩ := h
  exact ⟨fun u v => colT_lt (by have := tp.1; omega) sE xs.length (by omega) u v, by show d < 4; omega⟩
set_option maxRecDepth 100000 in
set_option maxHeartbeats 12800000 in
theorem law_walks_ok (o : Out) (a : Option Addr) (n c : Nat) (xs : List SpotT) (b : Option Addr) (m e : Nat) (x y : Int) (d k : Nat) (w : World) (hR : ArgR w o a n c) (hS : ArgS w xs b m e) (hG : Handle w) (hok : AntOk o xs x y (d : Int) (k : Int)) :
    Calls Tryd.prog 6 #[.agg #[.int .i64 o.kind, .int .i64 o.born, .int .i64 o.stay, .int .i64 o.states, .int .i64 o.radius, .slice a n c, .string o.turns], .slice b m e, .agg #[.int .i64 x, .int .i64 y, .int .i64 (d : Int)], .int .i64 (k : Int)] w fun e' w' => e' = .returned (.bool true) ∧ Below w.heap.size w w' := by
  have hl := hS.len
  obtain ⟨w1, hw1⟩ : ∃ w1, (w.alloc (.cells #[.int .i64 o.kind, .int .i64 o.born, .int .i64 o.stay, .int .i64 o.states, .int .i64 o.radius, .slice a n c, .string o.turns] 24)).alloc (.cells #[.int .i64 x, .int .i64 y, .int .i64 (d : Int)] 50) = w1 := ⟨_, rfl⟩
  have BB := hide' (show Below w.heap.size w w1 by rw [← hw1]; exact ((Below.refl _ _).alloc (Nat.le_refl _) _).alloc (by simp) _)
  have g1 : w1.heap[w.heap.size]? = some (.cells #[.int .i64 o.kind, .int .i64 o.born, .int .i64 o.stay, .int .i64 o.states, .int .i64 o.radius, .slice a n c, .string o.turns] 24 (0, 0)) := by rw [← hw1, Below.heap_alloc _ _ _ (by simp)]; exact heap_alloc_new _ _
  have g2 : w1.heap[w.heap.size + 1]? = some (.cells #[.int .i64 x, .int .i64 y, .int .i64 (d : Int)] 50 (0, 0)) := by rw [← hw1]; exact heap_atX _ _ _ (by simp)
  have SV := hide' (fun (V : World) (h : Below w1.heap.size w1 V) => show V.cell? ⟨w.heap.size, 0, none⟩ = some (.int .i64 o.kind) ∧ V.cell? ⟨w.heap.size, 1, none⟩ = some (.int .i64 o.born) ∧ V.cell? ⟨w.heap.size, 2, none⟩ = some (.int .i64 o.stay) ∧ V.cell? ⟨w.heap.size, 3, none⟩ = some (.int .i64 o.states) ∧ V.cell? ⟨w.heap.size, 4, none⟩ = some (.int .i64 o.radius) ∧ V.cell? ⟨w.heap.size, 5, none⟩ = some (.slice a n c) ∧ V.cell? ⟨w.heap.size, 6, none⟩ = some (.string o.turns) ∧ V.cell? ⟨w.heap.size + 1, 0, none⟩ = some (.int .i64 x) ∧ V.cell? ⟨w.heap.size + 1, 1, none⟩ = some (.int .i64 y) ∧ V.cell? ⟨w.heap.size + 1, 2, none⟩ = some (.int .i64 (d : Int)) from by
    have e1 := (h.block _ (lt_of_block g1)).trans g1
    have e2 := (h.block _ (lt_of_block g2)).trans g2
    exact ⟨cell_of_row V _ 0 _ _ _ e1, cell_of_row V _ 1 _ _ _ e1, cell_of_row V _ 2 _ _ _ e1, cell_of_row V _ 3 _ _ _ e1, cell_of_row V _ 4 _ _ _ e1, cell_of_row V _ 5 _ _ _ e1, cell_of_row V _ 6 _ _ _ e1, cell_of_row V _ 0 _ _ _ e2, cell_of_row V _ 1 _ _ _ e2, cell_of_row V _ 2 _ _ _ e2⟩)
  have BW := hide' (fun (V : World) (h : Below w1.heap.size w1 V) => BB.out.trans (h.mono BB.out.size))
  have HRV := hide' (fun (V : World) (h : Below w1.heap.size w1 V) => hR.below (BW.out V h))
  have HSV := hide' (fun (V : World) (h : Below w1.heap.size w1 V) => hS.below (BW.out V h))
  have HGV := hide' (fun (V : World) (h : Below w1.heap.size w1 V) => hG.below (BW.out V h))
  have CK := hide' (fun (V : World) (h : Below w1.heap.size w1 V) => antCheck_any xs b m e V (HSV.out V h))
  have RS := hide' (fun (V : World) (h : Below w1.heap.size w1 V) => refSpots_any 26 xs b m e V (HSV.out V h))
  have ES := hide' (fun (s : Nat) (V : World) (h : Below w1.heap.size w1 V) => errSame_any s V (HGV.out V h))
  obtain ⟨st, hst⟩ : ∃ st, runA (trB o.turns) o.turns.size ⟨colT xs m, x, y, d⟩ k = st := ⟨_, rfl⟩
  obtain ⟨bt', hbt⟩ : ∃ bt', backA (trB o.turns) o.turns.size ⟨colT xs m, x, y, d⟩ k = bt' := ⟨_, rfl⟩
  have FA := hide' (fun (V : World) (h : Below w1.heap.size w1 V) => show Calls Tryd.prog 26 #[.agg #[.int .i64 o.kind, .int .i64 o.born, .int .i64 o.stay, .int .i64 o.states, .int .i64 o.radius, .slice a n c, .string o.turns], .slice b m e, .agg #[.int .i64 x, .int .i64 y, .int .i64 (d : Int)], .int .i64 (k : Int)] V fun e' w' => e' = .returned (.int .i64 0) ∧ Below V.heap.size V w' from (refFaultW_any o a n c xs b m e x y d k V (HRV.out V h) (HSV.out V h)).mono fun e' w' ⟨f, hf, he, hb⟩ => by
    obtain rfl := antErr_one hf (antErr_ok hok)
    exact ⟨he, hb⟩)
  have RU := hide' (fun (V : World) (h : Below w1.heap.size w1 V) => antRun_good o a n c xs b m e x y d k V (HRV.out V h) (HSV.out V h) hok)
  have BA := hide' (fun (V : World) (h : Below w1.heap.size w1 V) => antBack_good o a n c xs b m e x y d k V (HRV.out V h) (HSV.out V h) hok)
  have tp := turns_ofA hok
  have k5 : k ≤ 100000 := by have := hok.2.2.2.2.2.2.2; omega
  have d4 : d < 4 := by have := hok.2.2.2.2.2.1; omega
  have RF := hide' (fun (V : World) (h : Below w1.heap.size w1 V) => by have q := refRun_any o a n c xs b m e x y d k V (HSV.out V h) tp hok.2.2.1 hok.2.2.2.1 d4 k5 (start_ofA hok); rw [← hl] at q; exact q)
  have RB := hide' (fun (V : World) (h : Below w1.heap.size w1 V) => by have q := refRunB_any o a n c xs b m e x y d k V (HSV.out V h) tp hok.2.2.1 hok.2.2.2.1 d4 k5 (start_ofA hok); rw [← hl] at q; exact q)
  rw [hst] at RU RF
  rw [hbt] at BA RB
  have EN := hide' (fun (V : World) => show Calls Tryd.prog 13 #[.nilIface, .int .i64 0] V fun e w' => e = .returned (.bool true) ∧ Below V.heap.size V w' from (error_nil 0 V).mono fun e w' ⟨h1, h2⟩ => ⟨h1, by rw [h2]; exact Below.refl _ _⟩)
  have C1 := hide' (Below.refl w1.heap.size w1)
  obtain ⟨c0, c1, c2, c3, c4, c5, c6, d0, d1, d2⟩ := SV.out _ C1.out
  clear hR hS hG hok g1 g2 hst hbt tp k5 d4 hl
  go_enter Tryd.func6, Tryd.ntmps6
  go_upto_region 1 with fail
  clear hw1
  obtain ⟨sp, hsp⟩ : ∃ sp, spotE 26 xs = sp := ⟨_, rfl⟩
  rw [hsp] at CK RS
  clear hsp
  go_wp2_with fail
  refine (CK.out _ C1.out).mono ?_
  rintro e' w2 ⟨rfl, b'⟩
  have C2 := hide' (C1.out.trans (b'.mono C1.out.size))
  clear b' c0 c1 c2 c3 c4 c5 c6 d0 d1 d2
  obtain ⟨c0, c1, c2, c3, c4, c5, c6, d0, d1, d2⟩ := SV.out _ C2.out
  go_wp2_with fail
  refine (RS.out _ C2.out).mono ?_
  rintro e' w3 ⟨rfl, b'⟩
  have C3 := hide' (C2.out.trans (b'.mono C2.out.size))
  clear b' c0 c1 c2 c3 c4 c5 c6 d0 d1 d2
  obtain ⟨c0, c1, c2, c3, c4, c5, c6, d0, d1, d2⟩ := SV.out _ C3.out
  go_wp2_with fail
  refine (ES.out sp _ C3.out).mono ?_
  rintro e' w4 ⟨rfl, b'⟩
  have C4 := hide' (C3.out.trans (b'.mono C3.out.size))
  clear b' c0 c1 c2 c3 c4 c5 c6 d0 d1 d2
  obtain ⟨c0, c1, c2, c3, c4, c5, c6, d0, d1, d2⟩ := SV.out _ C4.out
  go_wp2_with fail
  refine (FA.out _ C4.out).mono ?_
  rintro e' w5 ⟨rfl, b'⟩
  have C5 := hide' (C4.out.trans (b'.mono C4.out.size))
  clear b' c0 c1 c2 c3 c4 c5 c6 d0 d1 d2
  obtain ⟨c0, c1, c2, c3, c4, c5, c6, d0, d1, d2⟩ := SV.out _ C5.out
  go_wp2_with fail
  refine (RU.out _ C5.out).mono ?_
  rintro e' w6 ⟨ys, g, q, rfl, ay, so, b'⟩
  have AY6 := hide' ay
  have SO := hide' so
  have YN := hide' ay.len
  clear ay so
  obtain ⟨yn, hyn⟩ : ∃ yn, ys.length = yn := ⟨_, rfl⟩
  rw [hyn] at AY6 ⊢
  clear hyn
  have C6 := hide' (C5.out.trans (b'.mono C5.out.size))
  clear b' c0 c1 c2 c3 c4 c5 c6 d0 d1 d2
  obtain ⟨c0, c1, c2, c3, c4, c5, c6, d0, d1, d2⟩ := SV.out _ C6.out
  have C7 := hide' (show Below w1.heap.size w1 (w6.alloc (.cells #[.int .i64 st.x, .int .i64 st.y, .int .i64 (st.d : Int)] 50)) from C6.out.alloc C6.out.size _)
  obtain ⟨w7, hw7⟩ : ∃ w7, w6.alloc (.cells #[.int .i64 st.x, .int .i64 st.y, .int .i64 (st.d : Int)] 50) = w7 := ⟨_, rfl⟩
  have r7_6 := hide' (show w7.heap[w6.heap.size]? = some (.cells #[.int .i64 st.x, .int .i64 st.y, .int .i64 (st.d : Int)] 50 (0, 0)) by rw [← hw7]; exact heap_alloc_new _ _)
  have AY7 := hide' (AY6.out.below (show Below w6.heap.size w6 w7 by rw [← hw7]; exact (Below.refl _ _).alloc (Nat.le_refl _) _))
  rw [hw7] at C7
  have HW7 := hide' hw7
  clear hw7
  go_upto_region 8 with fail
  rw [HW7.out]
  clear HW7 c0 c1 c2 c3 c4 c5 c6 d0 d1 d2
  obtain ⟨c0, c1, c2, c3, c4, c5, c6, d0, d1, d2⟩ := SV.out _ C7.out
  go_wp2_with fail
  refine (EN.out _).mono ?_
  rintro e' w8 ⟨rfl, b'⟩
  have C8 := hide' (C7.out.trans (b'.mono C7.out.size))
  have r8_6 := hide' ((b'.block _ (lt_of_block r7_6.out)).trans r7_6.out)
  have AY8 := hide' (AY7.out.below b')
  clear b' c0 c1 c2 c3 c4 c5 c6 d0 d1 d2
  obtain ⟨c0, c1, c2, c3, c4, c5, c6, d0, d1, d2⟩ := SV.out _ C8.out
  go_wp2_with fail
  refine (BA.out _ C8.out).mono ?_
  rintro e' w9 ⟨zs, g2, q2, rfl, az, so2, b'⟩
  have AZ9 := hide' az
  have SO2 := hide' so2
  clear az so2
  obtain ⟨zn, hzn⟩ : ∃ zn, zs.length = zn := ⟨_, rfl⟩
  rw [hzn] at AZ9 ⊢
  clear hzn
  have C9 := hide' (C8.out.trans (b'.mono C8.out.size))
  have r9_6 := hide' ((b'.block _ (lt_of_block r8_6.out)).trans r8_6.out)
  have AY9 := hide' (AY8.out.below b')
  clear b' c0 c1 c2 c3 c4 c5 c6 d0 d1 d2
  obtain ⟨c0, c1, c2, c3, c4, c5, c6, d0, d1, d2⟩ := SV.out _ C9.out
  have C10 := hide' (show Below w1.heap.size w1 (w9.alloc (.cells #[.int .i64 bt'.x, .int .i64 bt'.y, .int .i64 (bt'.d : Int)] 50)) from C9.out.alloc C9.out.size _)
  obtain ⟨w10, hw10⟩ : ∃ w10, w9.alloc (.cells #[.int .i64 bt'.x, .int .i64 bt'.y, .int .i64 (bt'.d : Int)] 50) = w10 := ⟨_, rfl⟩
  have r10_9 := hide' (show w10.heap[w9.heap.size]? = some (.cells #[.int .i64 bt'.x, .int .i64 bt'.y, .int .i64 (bt'.d : Int)] 50 (0, 0)) by rw [← hw10]; exact heap_alloc_new _ _)
  have r10_6 := hide' ((show w10.heap[w6.heap.size]? = w9.heap[w6.heap.size]? by rw [← hw10]; exact Below.heap_alloc _ _ _ (lt_of_block r9_6.out)).trans r9_6.out)
  have AY10 := hide' (AY9.out.below (show Below w9.heap.size w9 w10 by rw [← hw10]; exact (Below.refl _ _).alloc (Nat.le_refl _) _))
  have AZ10 := hide' (AZ9.out.below (show Below w9.heap.size w9 w10 by rw [← hw10]; exact (Below.refl _ _).alloc (Nat.le_refl _) _))
  rw [hw10] at C10
  have HW10 := hide' hw10
  clear hw10
  go_upto_region 10 with fail
  rw [HW10.out]
  clear HW10 c0 c1 c2 c3 c4 c5 c6 d0 d1 d2
  obtain ⟨c0, c1, c2, c3, c4, c5, c6, d0, d1, d2⟩ := SV.out _ C10.out
  go_wp2_with fail
  refine (EN.out _).mono ?_
  rintro e' w11 ⟨rfl, b'⟩
  have C11 := hide' (C10.out.trans (b'.mono C10.out.size))
  have r11_6 := hide' ((b'.block _ (lt_of_block r10_6.out)).trans r10_6.out)
  have r11_9 := hide' ((b'.block _ (lt_of_block r10_9.out)).trans r10_9.out)
  have AY11 := hide' (AY10.out.below b')
  have AZ11 := hide' (AZ10.out.below b')
  clear b' c0 c1 c2 c3 c4 c5 c6 d0 d1 d2
  obtain ⟨c0, c1, c2, c3, c4, c5, c6, d0, d1, d2⟩ := SV.out _ C11.out
  have C12 := hide' (show Below w1.heap.size w1 (w11.alloc (.cells #[.int .i64 0, .int .i64 0, .int .i64 0] 50)) from C11.out.alloc C11.out.size _)
  obtain ⟨w12, hw12⟩ : ∃ w12, w11.alloc (.cells #[.int .i64 0, .int .i64 0, .int .i64 0] 50) = w12 := ⟨_, rfl⟩
  have r12_11 := hide' (show w12.heap[w11.heap.size]? = some (.cells #[.int .i64 0, .int .i64 0, .int .i64 0] 50 (0, 0)) by rw [← hw12]; exact heap_alloc_new _ _)
  have r12_6 := hide' ((show w12.heap[w6.heap.size]? = w11.heap[w6.heap.size]? by rw [← hw12]; exact Below.heap_alloc _ _ _ (lt_of_block r11_6.out)).trans r11_6.out)
  have r12_9 := hide' ((show w12.heap[w9.heap.size]? = w11.heap[w9.heap.size]? by rw [← hw12]; exact Below.heap_alloc _ _ _ (lt_of_block r11_9.out)).trans r11_9.out)
  have AY12 := hide' (AY11.out.below (show Below w11.heap.size w11 w12 by rw [← hw12]; exact (Below.refl _ _).alloc (Nat.le_refl _) _))
  have AZ12 := hide' (AZ11.out.below (show Below w11.heap.size w11 w12 by rw [← hw12]; exact (Below.refl _ _).alloc (Nat.le_refl _) _))
  rw [hw12] at C12
  have HW12 := hide' hw12
  clear hw12
  go_upto_region 14 with fail
  rw [HW12.out]
  clear HW12 c0 c1 c2 c3 c4 c5 c6 d0 d1 d2
  obtain ⟨c0, c1, c2, c3, c4, c5, c6, d0, d1, d2⟩ := SV.out _ C12.out
  go_wp2_with fail
  refine (RF.out _ C12.out).mono ?_
  rintro e' w13 ⟨ys2, b2, qb, rfl, ay2, so3, b'⟩
  have A213 := hide' ay2
  have SO3 := hide' so3
  clear ay2 so3
  obtain ⟨yn2, hyn2⟩ : ∃ yn, ys2.length = yn := ⟨_, rfl⟩
  rw [hyn2] at A213 ⊢
  clear hyn2
  have C13 := hide' (C12.out.trans (b'.mono C12.out.size))
  have r13_6 := hide' ((b'.block _ (lt_of_block r12_6.out)).trans r12_6.out)
  have r13_9 := hide' ((b'.block _ (lt_of_block r12_9.out)).trans r12_9.out)
  have AY13 := hide' (AY12.out.below b')
  have AZ13 := hide' (AZ12.out.below b')
  clear b' c0 c1 c2 c3 c4 c5 c6 d0 d1 d2
  obtain ⟨c0, c1, c2, c3, c4, c5, c6, d0, d1, d2⟩ := SV.out _ C13.out
  have C14 := hide' (show Below w1.heap.size w1 (w13.alloc (.cells #[.int .i64 st.x, .int .i64 st.y, .int .i64 (st.d : Int)] 50)) from C13.out.alloc C13.out.size _)
  obtain ⟨w14, hw14⟩ : ∃ w14, w13.alloc (.cells #[.int .i64 st.x, .int .i64 st.y, .int .i64 (st.d : Int)] 50) = w14 := ⟨_, rfl⟩
  have r14_13 := hide' (show w14.heap[w13.heap.size]? = some (.cells #[.int .i64 st.x, .int .i64 st.y, .int .i64 (st.d : Int)] 50 (0, 0)) by rw [← hw14]; exact heap_alloc_new _ _)
  have r14_6 := hide' ((show w14.heap[w6.heap.size]? = w13.heap[w6.heap.size]? by rw [← hw14]; exact Below.heap_alloc _ _ _ (lt_of_block r13_6.out)).trans r13_6.out)
  have r14_9 := hide' ((show w14.heap[w9.heap.size]? = w13.heap[w9.heap.size]? by rw [← hw14]; exact Below.heap_alloc _ _ _ (lt_of_block r13_9.out)).trans r13_9.out)
  have AY14 := hide' (AY13.out.below (show Below w13.heap.size w13 w14 by rw [← hw14]; exact (Below.refl _ _).alloc (Nat.le_refl _) _))
  have AZ14 := hide' (AZ13.out.below (show Below w13.heap.size w13 w14 by rw [← hw14]; exact (Below.refl _ _).alloc (Nat.le_refl _) _))
  have A214 := hide' (A213.out.below (show Below w13.heap.size w13 w14 by rw [← hw14]; exact (Below.refl _ _).alloc (Nat.le_refl _) _))
  rw [hw14] at C14
  have HW14 := hide' hw14
  clear hw14
  go_upto_region 17 with fail
  rw [HW14.out]
  clear HW14 c0 c1 c2 c3 c4 c5 c6 d0 d1 d2
  obtain ⟨c0, c1, c2, c3, c4, c5, c6, d0, d1, d2⟩ := SV.out _ C14.out
  go_wp2_with fail
  refine (RB.out _ C14.out).mono ?_
  rintro e' w15 ⟨zs2, b3, qc, rfl, az2, so4, b'⟩
  have A315 := hide' az2
  have SO4 := hide' so4
  clear az2 so4
  obtain ⟨zn2, hzn2⟩ : ∃ yn, zs2.length = yn := ⟨_, rfl⟩
  rw [hzn2] at A315 ⊢
  clear hzn2
  have C15 := hide' (C14.out.trans (b'.mono C14.out.size))
  have r15_6 := hide' ((b'.block _ (lt_of_block r14_6.out)).trans r14_6.out)
  have r15_9 := hide' ((b'.block _ (lt_of_block r14_9.out)).trans r14_9.out)
  have r15_13 := hide' ((b'.block _ (lt_of_block r14_13.out)).trans r14_13.out)
  have AY15 := hide' (AY14.out.below b')
  have AZ15 := hide' (AZ14.out.below b')
  have A215 := hide' (A214.out.below b')
  clear b' c0 c1 c2 c3 c4 c5 c6 d0 d1 d2
  obtain ⟨c0, c1, c2, c3, c4, c5, c6, d0, d1, d2⟩ := SV.out _ C15.out
  have C16 := hide' (show Below w1.heap.size w1 (w15.alloc (.cells #[.int .i64 bt'.x, .int .i64 bt'.y, .int .i64 (bt'.d : Int)] 50)) from C15.out.alloc C15.out.size _)
  obtain ⟨w16, hw16⟩ : ∃ w16, w15.alloc (.cells #[.int .i64 bt'.x, .int .i64 bt'.y, .int .i64 (bt'.d : Int)] 50) = w16 := ⟨_, rfl⟩
  have r16_15 := hide' (show w16.heap[w15.heap.size]? = some (.cells #[.int .i64 bt'.x, .int .i64 bt'.y, .int .i64 (bt'.d : Int)] 50 (0, 0)) by rw [← hw16]; exact heap_alloc_new _ _)
  have r16_6 := hide' ((show w16.heap[w6.heap.size]? = w15.heap[w6.heap.size]? by rw [← hw16]; exact Below.heap_alloc _ _ _ (lt_of_block r15_6.out)).trans r15_6.out)
  have r16_9 := hide' ((show w16.heap[w9.heap.size]? = w15.heap[w9.heap.size]? by rw [← hw16]; exact Below.heap_alloc _ _ _ (lt_of_block r15_9.out)).trans r15_9.out)
  have r16_13 := hide' ((show w16.heap[w13.heap.size]? = w15.heap[w13.heap.size]? by rw [← hw16]; exact Below.heap_alloc _ _ _ (lt_of_block r15_13.out)).trans r15_13.out)
  have AY16 := hide' (AY15.out.below (show Below w15.heap.size w15 w16 by rw [← hw16]; exact (Below.refl _ _).alloc (Nat.le_refl _) _))
  have AZ16 := hide' (AZ15.out.below (show Below w15.heap.size w15 w16 by rw [← hw16]; exact (Below.refl _ _).alloc (Nat.le_refl _) _))
  have A216 := hide' (A215.out.below (show Below w15.heap.size w15 w16 by rw [← hw16]; exact (Below.refl _ _).alloc (Nat.le_refl _) _))
  have A316 := hide' (A315.out.below (show Below w15.heap.size w15 w16 by rw [← hw16]; exact (Below.refl _ _).alloc (Nat.le_refl _) _))
  rw [hw16] at C16
  have HW16 := hide' hw16
  clear hw16
  go_upto_region 18 with fail
  rw [HW16.out]
  clear HW16 c0 c1 c2 c3 c4 c5 c6 d0 d1 d2
  obtain ⟨c0, c1, c2, c3, c4, c5, c6, d0, d1, d2⟩ := SV.out _ C16.out
  have E1 := hide' (spots_one SO.out SO3.out)
  have E2 := hide' (spots_one SO2.out SO4.out)
  have SS1 := hide' (show Calls Tryd.prog 30 #[.slice (some ⟨g, 0, none⟩) yn q, .slice b2 yn2 qb] w16 fun e w' => e = .returned (.bool true) ∧ Below w16.heap.size w16 w' from (spots_same ys ys2 _ _ _ _ _ _ w16 AY16.out A216.out).mono fun e w' ⟨h1, h2⟩ => ⟨by rw [h1, decide_eq_true E1.out], h2⟩)
  go_wp2_with fail
  refine (SS1.out).mono ?_
  rintro e' w17 ⟨rfl, b'⟩
  have C17 := hide' (C16.out.trans (b'.mono C16.out.size))
  have r17_6 := hide' ((b'.block _ (lt_of_block r16_6.out)).trans r16_6.out)
  have r17_9 := hide' ((b'.block _ (lt_of_block r16_9.out)).trans r16_9.out)
  have r17_13 := hide' ((b'.block _ (lt_of_block r16_13.out)).trans r16_13.out)
  have r17_15 := hide' ((b'.block _ (lt_of_block r16_15.out)).trans r16_15.out)
  have AZ17 := hide' (AZ16.out.below b')
  have A317 := hide' (A316.out.below b')
  clear b' c0 c1 c2 c3 c4 c5 c6 d0 d1 d2
  obtain ⟨c0, c1, c2, c3, c4, c5, c6, d0, d1, d2⟩ := SV.out _ C17.out
  have SS2 := hide' (show Calls Tryd.prog 30 #[.slice (some ⟨g2, 0, none⟩) zn q2, .slice b3 zn2 qc] w17 fun e w' => e = .returned (.bool true) ∧ Below w17.heap.size w17 w' from (spots_same zs zs2 _ _ _ _ _ _ w17 AZ17.out A317.out).mono fun e w' ⟨h1, h2⟩ => ⟨by rw [h1, decide_eq_true E2.out], h2⟩)
  go_wp2_with fail
  refine (SS2.out).mono ?_
  rintro e' w18 ⟨rfl, b'⟩
  have C18 := hide' (C17.out.trans (b'.mono C17.out.size))
  have r18_6 := hide' ((b'.block _ (lt_of_block r17_6.out)).trans r17_6.out)
  have r18_9 := hide' ((b'.block _ (lt_of_block r17_9.out)).trans r17_9.out)
  have r18_13 := hide' ((b'.block _ (lt_of_block r17_13.out)).trans r17_13.out)
  have r18_15 := hide' ((b'.block _ (lt_of_block r17_15.out)).trans r17_15.out)
  clear b' c0 c1 c2 c3 c4 c5 c6 d0 d1 d2
  obtain ⟨c0, c1, c2, c3, c4, c5, c6, d0, d1, d2⟩ := SV.out _ C18.out
  have p0 := cell_of_row w18 _ 0 _ _ _ r18_6.out
  have p1 := cell_of_row w18 _ 1 _ _ _ r18_6.out
  have p2 := cell_of_row w18 _ 2 _ _ _ r18_6.out
  simp at p0 p1 p2
  have q0 := cell_of_row w18 _ 0 _ _ _ r18_9.out
  have q1 := cell_of_row w18 _ 1 _ _ _ r18_9.out
  have q2 := cell_of_row w18 _ 2 _ _ _ r18_9.out
  simp at q0 q1 q2
  have s0 := cell_of_row w18 _ 0 _ _ _ r18_13.out
  have s1 := cell_of_row w18 _ 1 _ _ _ r18_13.out
  have s2 := cell_of_row w18 _ 2 _ _ _ r18_13.out
  simp at s0 s1 s2
  have u0 := cell_of_row w18 _ 0 _ _ _ r18_15.out
  have u1 := cell_of_row w18 _ 1 _ _ _ r18_15.out
  have u2 := cell_of_row w18 _ 2 _ _ _ r18_15.out
  simp at u0 u1 u2
  have WE := fun V => (walker_eq (st.x, st.y, (st.d : Int)) (st.x, st.y, (st.d : Int)) V).trans (by rw [decide_eq_true rfl])
  have WE2 := fun V => (walker_eq (bt'.x, bt'.y, (bt'.d : Int)) (bt'.x, bt'.y, (bt'.d : Int)) V).trans (by rw [decide_eq_true rfl])
  simp only at WE WE2
  go_wp2
  go_ret
  exact ⟨rfl, BW.out _ C18.out⟩
/-- AntWalks holds at every argument. -/
theorem law_walks_all (o : Out) (a : Option Addr) (n c : Nat) (xs : List SpotT) (b : Option Addr) (m e : Nat) (x y d k : Int) (w : World) (hR : ArgR w o a n c) (hS : ArgS w xs b m e) (hG : Handle w) :
    Calls Tryd.prog 6 #[.agg #[.int .i64 o.kind, .int .i64 o.born, .int .i64 o.stay, .int .i64 o.states, .int .i64 o.radius, .slice a n c, .string o.turns], .slice b m e, .agg #[.int .i64 x, .int .i64 y, .int .i64 d], .int .i64 k] w fun e' w' => e' = .returned (.bool true) ∧ Below w.heap.size w w' := by
  by_cases hok : AntOk o xs x y d k
  · obtain ⟨d, rfl⟩ : ∃ j : Nat, d = (j : Int) := ⟨d.toNat, by have := hok.2.2.2.2; omega⟩
    obtain ⟨k, rfl⟩ : ∃ j : Nat, k = (j : Int) := ⟨k.toNat, by have := hok.2.2.2.2; omega⟩
    exact law_walks_ok o a n c xs b m e x y d k w hR hS hG hok
  · exact law_walks_bad o a n c xs b m e x y d k w hR hS hG hok
end Go.Proofs.YtdkomlgkkepioaaDoor

