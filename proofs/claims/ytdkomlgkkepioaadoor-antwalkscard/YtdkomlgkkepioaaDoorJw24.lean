/-
  What the last text of this claim leans on, part 24: Ag1, Ac2.
-/
import Derived.Test.YtdkomlgkkepioaaDoorJw22
import Derived.Test.YtdkomlgkkepioaaDoorJw23
import Derived.Test.YtdkomlgkkepioaaDoorJw15
import Derived.Deep.CutRange
namespace Go.Proofs.YtdkomlgkkepioaaDoor
open Go.RowKit
set_option linter.unusedVariables false
theorem errSame_any (s : Nat) (w : World) (hg : Handle w) : Calls Tryd.prog 13 #[errOf s, .int .i64 (s : Int)] w fun e w' => e = .returned (.bool true) ∧ Below w.heap.size w w' := by
  by_cases h : s = 0
  · subst h
    refine (error_nil 0 w).mono ?_
    rintro e w' ⟨rfl, rfl⟩
    exact ⟨rfl, Below.refl _ _⟩
  · have := error_errno (s : Int) (s : Int) w hg
    unfold errOf
    rw [if_neg h]
    refine this.mono ?_
    rintro e w' ⟨rfl, b⟩
    exact ⟨by simp, b⟩
theorem antErr_ok {o : Out} {xs : List SpotT} {x y d k : Int} (h : AntOk o xs x y d k) : AntErr o xs x y d k 0 := Or.inr (Or.inr (Or.inr (Or.inr ⟨h, rfl⟩)))
theorem antErr_zero {o : Out} {xs : List SpotT} {x y d k : Int} (h : AntErr o xs x y d k 0) : AntOk o xs x y d k := by
  rcases h with ⟨_, e⟩ | ⟨_, _, e⟩ | ⟨_, _, c, e⟩ | ⟨_, _, _, _, e⟩ | ⟨q, _⟩
  · cases e
  · cases e
  · exact absurd e.symm c
  · cases e
  · exact q
set_option maxRecDepth 100000 in
set_option maxHeartbeats 12800000 in
theorem law_walks_bad (o : Out) (a : Option Addr) (n c : Nat) (xs : List SpotT) (b : Option Addr) (m e : Nat) (x y d k : Int) (w : World) (hR : ArgR w o a n c) (hS : ArgS w xs b m e) (hG : Handle w) (hno : ¬ AntOk o xs x y d k) :
    Calls Tryd.prog 6 #[.agg #[.int .i64 o.kind, .int .i64 o.born, .int .i64 o.stay, .int .i64 o.states, .int .i64 o.radius, .slice a n c, .string o.turns], .slice b m e, .agg #[.int .i64 x, .int .i64 y, .int .i64 d], .int .i64 k] w fun e' w' => e' = .returned (.bool true) ∧ Below w.heap.size w w' := by
  obtain ⟨w1, hw1⟩ : ∃ w1, (w.alloc (.cells #[.int .i64 o.kind, .int .i64 o.born, .int .i64 o.stay, .int .i64 o.states, .int .i64 o.radius, .slice a n c, .string o.turns] 24)).alloc (.cells #[.int .i64 x, .int .i64 y, .int .i64 d] 50) = w1 := ⟨_, rfl⟩
  have BB := hide' (show Below w.heap.size w w1 by rw [← hw1]; exact ((Below.refl _ _).alloc (Nat.le_refl _) _).alloc (by simp) _)
  have g1 : w1.heap[w.heap.size]? = some (.cells #[.int .i64 o.kind, .int .i64 o.born, .int .i64 o.stay, .int .i64 o.states, .int .i64 o.radius, .slice a n c, .string o.turns] 24 (0, 0)) := by rw [← hw1, Below.heap_alloc _ _ _ (by simp)]; exact heap_alloc_new _ _
  have g2 : w1.heap[w.heap.size + 1]? = some (.cells #[.int .i64 x, .int .i64 y, .int .i64 d] 50 (0, 0)) := by rw [← hw1]; exact heap_atX _ _ _ (by simp)
  have SV := hide' (fun (V : World) (h : Below w1.heap.size w1 V) => show V.cell? ⟨w.heap.size, 0, none⟩ = some (.int .i64 o.kind) ∧ V.cell? ⟨w.heap.size, 1, none⟩ = some (.int .i64 o.born) ∧ V.cell? ⟨w.heap.size, 2, none⟩ = some (.int .i64 o.stay) ∧ V.cell? ⟨w.heap.size, 3, none⟩ = some (.int .i64 o.states) ∧ V.cell? ⟨w.heap.size, 4, none⟩ = some (.int .i64 o.radius) ∧ V.cell? ⟨w.heap.size, 5, none⟩ = some (.slice a n c) ∧ V.cell? ⟨w.heap.size, 6, none⟩ = some (.string o.turns) ∧ V.cell? ⟨w.heap.size + 1, 0, none⟩ = some (.int .i64 x) ∧ V.cell? ⟨w.heap.size + 1, 1, none⟩ = some (.int .i64 y) ∧ V.cell? ⟨w.heap.size + 1, 2, none⟩ = some (.int .i64 d) from by
    have e1 := (h.block _ (lt_of_block g1)).trans g1
    have e2 := (h.block _ (lt_of_block g2)).trans g2
    exact ⟨cell_of_row V _ 0 _ _ _ e1, cell_of_row V _ 1 _ _ _ e1, cell_of_row V _ 2 _ _ _ e1, cell_of_row V _ 3 _ _ _ e1, cell_of_row V _ 4 _ _ _ e1, cell_of_row V _ 5 _ _ _ e1, cell_of_row V _ 6 _ _ _ e1, cell_of_row V _ 0 _ _ _ e2, cell_of_row V _ 1 _ _ _ e2, cell_of_row V _ 2 _ _ _ e2⟩)
  have BW := hide' (fun (V : World) (h : Below w1.heap.size w1 V) => BB.out.trans (h.mono BB.out.size))
  have HRV := hide' (fun (V : World) (h : Below w1.heap.size w1 V) => hR.below (BW.out V h))
  have HSV := hide' (fun (V : World) (h : Below w1.heap.size w1 V) => hS.below (BW.out V h))
  have HGV := hide' (fun (V : World) (h : Below w1.heap.size w1 V) => hG.below (BW.out V h))
  have CK := hide' (fun (V : World) (h : Below w1.heap.size w1 V) => antCheck_any xs b m e V (HSV.out V h))
  have RS := hide' (fun (V : World) (h : Below w1.heap.size w1 V) => refSpots_any 26 xs b m e V (HSV.out V h))
  have ES := hide' (fun (s : Nat) (V : World) (h : Below w1.heap.size w1 V) => errSame_any s V (HGV.out V h))
  have FA := hide' (fun (V : World) (h : Below w1.heap.size w1 V) => refFaultW_any o a n c xs b m e x y d k V (HRV.out V h) (HSV.out V h))
  have RU := hide' (fun (V : World) (h : Below w1.heap.size w1 V) => antRun_bad o a n c xs b m e x y d k V (HRV.out V h) (HSV.out V h) hno)
  have BA := hide' (fun (V : World) (h : Below w1.heap.size w1 V) => antBack_bad o a n c xs b m e x y d k V (HRV.out V h) (HSV.out V h) hno)
  have NO := hide' hno
  have C1 := hide' (Below.refl w1.heap.size w1)
  obtain ⟨c0, c1, c2, c3, c4, c5, c6, d0, d1, d2⟩ := SV.out _ C1.out
  clear hR hS hG hno g1 g2
  go_enter Tryd.func6, Tryd.ntmps6
  go_upto_region 1 with fail
  clear hw1
  obtain ⟨sp, hsp⟩ : ∃ sp, spotE 26 xs = sp := ⟨_, rfl⟩
  rw [hsp] at CK RS
  clear hsp
  go_wp2_with fail
  refine (CK.out _ C1.out).mono ?_
  rintro e' w2 ⟨rfl, b'⟩
  have C2 := hide' (C1.out.trans (b'.mono C1.out.size))
  clear b' c0 c1 c2 c3 c4 c5 c6 d0 d1 d2
  obtain ⟨c0, c1, c2, c3, c4, c5, c6, d0, d1, d2⟩ := SV.out _ C2.out
  go_wp2_with fail
  refine (RS.out _ C2.out).mono ?_
  rintro e' w3 ⟨rfl, b'⟩
  have C3 := hide' (C2.out.trans (b'.mono C2.out.size))
  clear b' c0 c1 c2 c3 c4 c5 c6 d0 d1 d2
  obtain ⟨c0, c1, c2, c3, c4, c5, c6, d0, d1, d2⟩ := SV.out _ C3.out
  go_wp2_with fail
  refine (ES.out sp _ C3.out).mono ?_
  rintro e' w4 ⟨rfl, b'⟩
  have C4 := hide' (C3.out.trans (b'.mono C3.out.size))
  clear b' c0 c1 c2 c3 c4 c5 c6 d0 d1 d2
  obtain ⟨c0, c1, c2, c3, c4, c5, c6, d0, d1, d2⟩ := SV.out _ C4.out
  go_wp2_with fail
  refine (FA.out _ C4.out).mono ?_
  rintro e' w5 ⟨f, hf, rfl, b'⟩
  have C5 := hide' (C4.out.trans (b'.mono C4.out.size))
  clear b' c0 c1 c2 c3 c4 c5 c6 d0 d1 d2
  obtain ⟨c0, c1, c2, c3, c4, c5, c6, d0, d1, d2⟩ := SV.out _ C5.out
  have f0 : ¬ f = 0 := fun q => NO.out (antErr_zero (by rw [← q]; exact hf))
  have HF := hide' hf
  have fz : ((f : Int) == 0) = false := by simp; exact f0
  have fi : ¬ (f : Int) = 0 := by omega
  have EI := hide' (show errOf f = .iface 94 (.int .i64 (f : Int)) by unfold errOf; rw [if_neg f0])
  clear hf f0
  go_wp2_with fail
  refine (RU.out _ C5.out).mono ?_
  rintro e' w6 ⟨f', hf', -, rfl, b'⟩
  obtain rfl := antErr_one hf' HF.out
  have C6 := hide' (C5.out.trans (b'.mono C5.out.size))
  clear b' hf' c0 c1 c2 c3 c4 c5 c6 d0 d1 d2
  obtain ⟨c0, c1, c2, c3, c4, c5, c6, d0, d1, d2⟩ := SV.out _ C6.out
  have C7 := hide' (show Below w1.heap.size w1 (w6.alloc (.cells #[.int .i64 0, .int .i64 0, .int .i64 0] 50)) from C6.out.alloc C6.out.size _)
  obtain ⟨w7, hw7⟩ : ∃ w7, w6.alloc (.cells #[.int .i64 0, .int .i64 0, .int .i64 0] 50) = w7 := ⟨_, rfl⟩
  have r7_6 := hide' (show w7.heap[w6.heap.size]? = some (.cells #[.int .i64 0, .int .i64 0, .int .i64 0] 50 (0, 0)) by rw [← hw7]; exact heap_alloc_new _ _)
  rw [hw7] at C7
  have HW7 := hide' hw7
  clear hw7
  go_upto_region 8 with fail
  rw [HW7.out]
  clear HW7 c0 c1 c2 c3 c4 c5 c6 d0 d1 d2
  obtain ⟨c0, c1, c2, c3, c4, c5, c6, d0, d1, d2⟩ := SV.out _ C7.out
  go_wp2_with fail
  refine (ES.out f' _ C7.out).mono ?_
  rintro e' w8 ⟨rfl, b'⟩
  have C8 := hide' (C7.out.trans (b'.mono C7.out.size))
  have r8_6 := hide' ((b'.block _ (lt_of_block r7_6.out)).trans r7_6.out)
  clear b' c0 c1 c2 c3 c4 c5 c6 d0 d1 d2
  obtain ⟨c0, c1, c2, c3, c4, c5, c6, d0, d1, d2⟩ := SV.out _ C8.out
  go_wp2_with fail
  refine (BA.out _ C8.out).mono ?_
  rintro e' w9 ⟨f2, hf2, -, rfl, b'⟩
  obtain rfl := antErr_one hf2 HF.out
  have C9 := hide' (C8.out.trans (b'.mono C8.out.size))
  have r9_6 := hide' ((b'.block _ (lt_of_block r8_6.out)).trans r8_6.out)
  clear b' c0 c1 c2 c3 c4 c5 c6 d0 d1 d2
  obtain ⟨c0, c1, c2, c3, c4, c5, c6, d0, d1, d2⟩ := SV.out _ C9.out
  clear hf2
  have C10 := hide' (show Below w1.heap.size w1 (w9.alloc (.cells #[.int .i64 0, .int .i64 0, .int .i64 0] 50)) from C9.out.alloc C9.out.size _)
  obtain ⟨w10, hw10⟩ : ∃ w10, w9.alloc (.cells #[.int .i64 0, .int .i64 0, .int .i64 0] 50) = w10 := ⟨_, rfl⟩
  have r10_9 := hide' (show w10.heap[w9.heap.size]? = some (.cells #[.int .i64 0, .int .i64 0, .int .i64 0] 50 (0, 0)) by rw [← hw10]; exact heap_alloc_new _ _)
  have r10_6 := hide' ((show w10.heap[w6.heap.size]? = w9.heap[w6.heap.size]? by rw [← hw10]; exact Below.heap_alloc _ _ _ (lt_of_block r9_6.out)).trans r9_6.out)
  rw [hw10] at C10
  have HW10 := hide' hw10
  clear hw10
  go_upto_region 10 with fail
  rw [HW10.out]
  clear HW10 c0 c1 c2 c3 c4 c5 c6 d0 d1 d2
  obtain ⟨c0, c1, c2, c3, c4, c5, c6, d0, d1, d2⟩ := SV.out _ C10.out
  go_wp2_with fail
  refine (ES.out f2 _ C10.out).mono ?_
  rintro e' w11 ⟨rfl, b'⟩
  have C11 := hide' (C10.out.trans (b'.mono C10.out.size))
  have r11_6 := hide' ((b'.block _ (lt_of_block r10_6.out)).trans r10_6.out)
  have r11_9 := hide' ((b'.block _ (lt_of_block r10_9.out)).trans r10_9.out)
  clear b' c0 c1 c2 c3 c4 c5 c6 d0 d1 d2
  obtain ⟨c0, c1, c2, c3, c4, c5, c6, d0, d1, d2⟩ := SV.out _ C11.out
  have C12 := hide' (show Below w1.heap.size w1 (w11.alloc (.cells #[.int .i64 0, .int .i64 0, .int .i64 0] 50)) from C11.out.alloc C11.out.size _)
  obtain ⟨w12, hw12⟩ : ∃ w12, w11.alloc (.cells #[.int .i64 0, .int .i64 0, .int .i64 0] 50) = w12 := ⟨_, rfl⟩
  have r12_11 := hide' (show w12.heap[w11.heap.size]? = some (.cells #[.int .i64 0, .int .i64 0, .int .i64 0] 50 (0, 0)) by rw [← hw12]; exact heap_alloc_new _ _)
  have r12_6 := hide' ((show w12.heap[w6.heap.size]? = w11.heap[w6.heap.size]? by rw [← hw12]; exact Below.heap_alloc _ _ _ (lt_of_block r11_6.out)).trans r11_6.out)
  have r12_9 := hide' ((show w12.heap[w9.heap.size]? = w11.heap[w9.heap.size]? by rw [← hw12]; exact Below.heap_alloc _ _ _ (lt_of_block r11_9.out)).trans r11_9.out)
  rw [hw12] at C12
  have HW12 := hide' hw12
  clear hw12
  go_upto_region 14 with fail
  rw [HW12.out]
  clear HW12 c0 c1 c2 c3 c4 c5 c6 d0 d1 d2
  obtain ⟨c0, c1, c2, c3, c4, c5, c6, d0, d1, d2⟩ := SV.out _ C12.out
  have p0 := cell_of_row w12 _ 0 _ _ _ r12_6.out
  have p1 := cell_of_row w12 _ 1 _ _ _ r12_6.out
  have p2 := cell_of_row w12 _ 2 _ _ _ r12_6.out
  simp at p0 p1 p2
  have q0 := cell_of_row w12 _ 0 _ _ _ r12_9.out
  have q1 := cell_of_row w12 _ 1 _ _ _ r12_9.out
  have q2 := cell_of_row w12 _ 2 _ _ _ r12_9.out
  simp at q0 q1 q2
  have s0 := cell_of_row w12 _ 0 _ _ _ r12_11.out
  have s1 := cell_of_row w12 _ 1 _ _ _ r12_11.out
  have s2 := cell_of_row w12 _ 2 _ _ _ r12_11.out
  simp at s0 s1 s2
  have WE := fun V => (walker_eq (0, 0, 0) (0, 0, 0) V).trans (by rw [decide_eq_true rfl])
  simp only at WE
  go_wp2
  go_ret
  exact ⟨rfl, BW.out _ C12.out⟩
end Go.Proofs.YtdkomlgkkepioaaDoor

namespace Go.Proofs.YtdkomlgkkepioaaDoor
open Go.RowKit
set_option linter.unusedVariables false
set_option maxRecDepth 100000 in
set_option maxHeartbeats 12800000 in
theorem antRun_good (o : Out) (a : Option Addr) (n c : Nat) (xs : List SpotT) (b : Option Addr) (m e : Nat) (x y : Int) (d k : Nat) (w : World) (hR : ArgR w o a n c) (hS : ArgS w xs b m e) (hok : AntOk o xs x y (d : Int) (k : Int)) :
    Calls Tryd.prog 27 #[.agg #[.int .i64 o.kind, .int .i64 o.born, .int .i64 o.stay, .int .i64 o.states, .int .i64 o.radius, .slice a n c, .string o.turns], .slice b m e, .agg #[.int .i64 x, .int .i64 y, .int .i64 (d : Int)], .int .i64 (k : Int)] w fun e' w' => ∃ ys g q, e' = .returned (.tuple #[.slice (some ⟨g, 0, none⟩) ys.length q, .agg #[.int .i64 (runA (trB o.turns) o.turns.size ⟨colT xs m, x, y, d⟩ k).x, .int .i64 (runA (trB o.turns) o.turns.size ⟨colT xs m, x, y, d⟩ k).y, .int .i64 ((runA (trB o.turns) o.turns.size ⟨colT xs m, x, y, d⟩ k).d : Int)], .nilIface]) ∧ ArgS w' ys (some ⟨g, 0, none⟩) ys.length q ∧ SpotsOut (runA (trB o.turns) o.turns.size ⟨colT xs m, x, y, d⟩ k).col ys ∧ Below w.heap.size w w' := by
  obtain ⟨hg, k3, sE, hxy, dn0, dn3, kn0, kn1⟩ := hok
  have hok : AntOk o xs x y (d : Int) (k : Int) := ⟨hg, k3, sE, hxy, dn0, dn3, kn0, kn1⟩
  obtain ⟨L1, L26, -⟩ : turnsP o.turns := by
    rcases hg with ⟨h, _⟩ | ⟨h, _⟩ | ⟨_, h, _⟩
    · omega
    · omega
    · exact h
  have ml := hS.len
  have mb' : m ≤ 4000004000001 := by rw [ml]; exact spots_few sE
  have d4 : d < 4 := by omega
  obtain ⟨w1, hw1⟩ : ∃ w1, ((w.alloc (.cells #[.int .i64 o.kind, .int .i64 o.born, .int .i64 o.stay, .int .i64 o.states, .int .i64 o.radius, .slice a n c, .string o.turns] 24)).alloc (.cells #[.int .i64 x, .int .i64 y, .int .i64 (d : Int)] 50)).alloc (.cells #[.int .i64 0, .int .i64 0, .int .i64 0] 50) = w1 := ⟨_, rfl⟩
  have BB := hide' (show Below w.heap.size w w1 by rw [← hw1]; repeat (first | exact Below.refl _ _ | refine Below.alloc ?_ (by simp; try omega) _))
  have g0 : w1.heap[w.heap.size]? = some (.cells #[.int .i64 o.kind, .int .i64 o.born, .int .i64 o.stay, .int .i64 o.states, .int .i64 o.radius, .slice a n c, .string o.turns] 24 (0, 0)) := by rw [← hw1, Below.heap_alloc _ _ _ (by simp; try omega), Below.heap_alloc _ _ _ (by simp; try omega)]; exact heap_atX _ _ _ (by simp)
  have g1 : w1.heap[w.heap.size + 1]? = some (.cells #[.int .i64 x, .int .i64 y, .int .i64 (d : Int)] 50 (0, 0)) := by rw [← hw1, Below.heap_alloc _ _ _ (by simp; try omega)]; exact heap_atX _ _ _ (by simp)
  have g2 : w1.heap[w.heap.size + 1 + 1]? = some (.cells #[.int .i64 0, .int .i64 0, .int .i64 0] 50 (0, 0)) := by rw [← hw1]; exact heap_atX _ _ _ (by simp)
  have z1 : w1.heap.size = w.heap.size + 1 + 1 + 1 := by rw [← hw1]; simp
  have SV := hide' (fun (V : World) (h : Below w1.heap.size w1 V) => show V.cell? ⟨w.heap.size, 0, none⟩ = some (.int .i64 o.kind) ∧ V.cell? ⟨w.heap.size, 1, none⟩ = some (.int .i64 o.born) ∧ V.cell? ⟨w.heap.size, 2, none⟩ = some (.int .i64 o.stay) ∧ V.cell? ⟨w.heap.size, 3, none⟩ = some (.int .i64 o.states) ∧ V.cell? ⟨w.heap.size, 4, none⟩ = some (.int .i64 o.radius) ∧ V.cell? ⟨w.heap.size, 5, none⟩ = some (.slice a n c) ∧ V.cell? ⟨w.heap.size, 6, none⟩ = some (.string o.turns) ∧ V.cell? ⟨w.heap.size + 1, 0, none⟩ = some (.int .i64 x) ∧ V.cell? ⟨w.heap.size + 1, 1, none⟩ = some (.int .i64 y) ∧ V.cell? ⟨w.heap.size + 1, 2, none⟩ = some (.int .i64 (d : Int)) from by
    have e1 := (h.block _ (lt_of_block g0)).trans g0
    have e2 := (h.block _ (lt_of_block g1)).trans g1
    exact ⟨cell_of_row V _ 0 _ _ _ e1, cell_of_row V _ 1 _ _ _ e1, cell_of_row V _ 2 _ _ _ e1, cell_of_row V _ 3 _ _ _ e1, cell_of_row V _ 4 _ _ _ e1, cell_of_row V _ 5 _ _ _ e1, cell_of_row V _ 6 _ _ _ e1, cell_of_row V _ 0 _ _ _ e2, cell_of_row V _ 1 _ _ _ e2, cell_of_row V _ 2 _ _ _ e2⟩)
  have RS := hide' (fun (V : World) (h : Below w1.heap.size w1 V) => show V.heap[w.heap.size + 1 + 1]? = some (.cells #[.int .i64 0, .int .i64 0, .int .i64 0] 50 (0, 0)) from (h.block _ (lt_of_block g2)).trans g2)
  have BW := hide' (fun (V : World) (h : Below w1.heap.size w1 V) => BB.out.trans (h.mono BB.out.size))
  have CK := hide' (checkWalk_any o a n c xs b m e x y (d : Int) (k : Int) w1 (hR.below BB.out) (hS.below BB.out))
  have BG' := hide' (fun (V : World) (h : Below w1.heap.size w1 V) => begin_any o.turns xs b m e x y d V (hS.below (BW.out V h)) L1 L26 sE hxy d4)
  have HOK := hide' hok
  have XY := hide' (near_iff hxy)
  obtain ⟨T, hT⟩ : ∃ T, trB o.turns = T := ⟨_, rfl⟩
  obtain ⟨L, hL⟩ : ∃ L, o.turns.size = L := ⟨_, rfl⟩
  obtain ⟨S0, hS0⟩ : ∃ S0 : AntS, S0 = ⟨colT xs m, x, y, d⟩ := ⟨_, rfl⟩
  rw [hT, hL, ← hS0] at BG' ⊢
  rw [hL] at L26
  have X0 := hide' (show -1000000 ≤ S0.x ∧ S0.x ≤ 1000000 ∧ -1000000 ≤ S0.y ∧ S0.y ≤ 1000000 by rw [hS0]; exact XY.out)
  have kl : k ≤ 100000 := by omega
  obtain ⟨c0, c1, c2, c3, c4, c5, c6, d0, d1, d2⟩ := SV.out w1 (Below.refl _ _)
  clear hR hS g0 g1 g2 hok hg k3 sE hxy hT hL hS0 dn0 dn3 kn0 kn1 XY L1 ml
  go_enter Tryd.func27, Tryd.ntmps27
  go_upto_region 1 with fail
  clear hw1
  go_wp2_with fail
  refine CK.out.mono ?_
  rintro e' w2 ⟨f, hf, rfl, b2⟩
  have f0 : f = 0 := by
    obtain ⟨q1, q2, q3, q4⟩ := HOK.out
    rcases hf with ⟨h1, _⟩ | ⟨_, h1, _⟩ | ⟨_, _, h1, h⟩ | ⟨_, _, _, h1, _⟩ | ⟨_, h⟩
    · exact absurd q1 h1
    · exact absurd q2 h1
    · exact absurd q3 h1
    · exact absurd q4 h1
    · exact h
  subst f0
  rw [show errOf 0 = .nilIface from rfl]
  have C2 := hide' b2
  clear c0 c1 c2 c3 c4 c5 c6 d0 d1 d2 hf b2
  obtain ⟨c0, c1, c2, c3, c4, c5, c6, d0, d1, d2⟩ := SV.out w2 C2.out
  go_wp2_with fail
  refine (BG'.out w2 C2.out).mono ?_
  rintro e' w3 ⟨kb, tb, mb, rfl, wk, ⟨ge1, ge2, ge3⟩, b3⟩
  have C3 := hide' (C2.out.trans (b3.mono C2.out.size))
  have WK0 := hide' wk
  have s2 := C2.out.size
  clear c0 c1 c2 c3 c4 c5 c6 d0 d1 d2 wk b3
  go_wp2
  go_loopw [28] (fun iv wr => ∃ i : Nat, iv = .int .i64 (i : Int) ∧ i ≤ k ∧ Hid (WK wr kb tb mb (m + i) L T (runA T L S0 i)) ∧ Hid (Below w1.heap.size w1 wr)) (fun iv _ => ((k : Int) - intOf iv).toNat)
  case atStart => exact ⟨0, by go_num, by omega, WK0, C3⟩
  case round =>
    obtain ⟨i, rfl, hi, HW, HB⟩ := hrel
    have NR := runA_near T L S0 X0.out i
    by_cases di : (i : Int) < (k : Int)
    · have ST := hide' (step_anyA kb tb mb (m + i) L w1.heap.size T (runA T L S0 i) wr HW.out (by omega) (by omega) L26 (by omega) ⟨by omega, by omega, by omega⟩)
      clear NR
      go_wp2_with fail
      refine ST.out.mono ?_
      rintro e' w4 ⟨rfl, wk4, b4⟩
      have W4 := hide' (show WK w4 kb tb mb (m + (i + 1)) L T (runA T L S0 (i + 1)) from wk4)
      have B4 := hide' (HB.out.trans b4)
      clear wk4 b4
      go_wp2
      exact ⟨⟨i + 1, by go_num, by omega, W4, B4⟩, by simp [intOf]; omega⟩
    · have ik : i = k := by omega
      have HW' := HW.out
      rw [ik] at HW' NR
      have SP := hide' (spots_anyA kb tb mb (m + k) L T (runA T L S0 k) wr HW' (by omega))
      have WB := hide' HW'.bl
      have D4 := hide' HW'.ok.d
      have LT := hide' HW'.lt
      obtain ⟨st, hst⟩ : ∃ st, runA T L S0 k = st := ⟨_, rfl⟩
      rw [hst] at SP WB D4 NR
      have NRH := hide' NR
      have HST := hide' hst
      clear HW HW' hst ik NR
      go_wp2_with fail
      refine SP.out.mono ?_
      rintro e' w5 ⟨ys, g, q, rfl, ay, so, ⟨-, gge⟩, b5⟩
      have C5 := hide' (HB.out.trans (b5.mono HB.out.size))
      have WB5 := hide' (show WkB w5 kb tb mb L st.x st.y st.d from by
        obtain ⟨ra, ia, rd, id, hb, i1⟩ := WB.out.blk
        exact ⟨ra, ia, rd, id, (b5.block kb LT.out.1).trans hb, i1⟩)
      have WC := hide' (walker_any kb tb mb L st.d st.x st.y w5 WB5.out D4.out (by have := NRH.out; unfold inC; omega) (by have := NRH.out; unfold inC; omega))
      have AY := hide' ay
      have SO := hide' so
      clear ay so b5
      go_wp2_with fail
      refine WC.out.mono ?_
      rintro e' w6 ⟨rfl, b6⟩
      have C6 := hide' (C5.out.trans (b6.mono C5.out.size))
      have AY6 := hide' (AY.out.below b6)
      have e2 := RS.out w6 C6.out
      have r0 := cell_of_row w6 _ 0 _ _ _ e2
      have r1 := cell_of_row w6 _ 1 _ _ _ e2
      have r2 := cell_of_row w6 _ 2 _ _ _ e2
      simp at r0 r1 r2
      have f0 := frozen_of_row w6 _ 0 _ _ e2
      have f1 := frozen_of_row w6 _ 1 _ _ e2
      have f2 := frozen_of_row w6 _ 2 _ _ e2
      have l2 := lt_of_block e2
      have HBS := HB.out.size
      have gn : g ≠ w.heap.size + 1 + 1 := by omega
      have FIN := hide' (show ArgS ((((w6.setCell ⟨w.heap.size + 1 + 1, 0, none⟩ (.int .i64 st.x)).setCell ⟨w.heap.size + 1 + 1, 1, none⟩ (.int .i64 st.y)).setCell ⟨w.heap.size + 1 + 1, 2, none⟩ (.int .i64 (st.d : Int)))) ys (some ⟨g, 0, none⟩) ys.length q from
        ⟨rfl, AY6.out.max, fun k hk => by
          obtain ⟨g', off, e', hg', p0, p1, p2⟩ := AY6.out.cells k hk
          cases e'
          have hb : (((w6.setCell ⟨w.heap.size + 1 + 1, 0, none⟩ (.int .i64 st.x)).setCell ⟨w.heap.size + 1 + 1, 1, none⟩ (.int .i64 st.y)).setCell ⟨w.heap.size + 1 + 1, 2, none⟩ (.int .i64 (st.d : Int))).heap[g]? = w6.heap[g]? := by
            rw [Below.heap_setCell _ _ _ _ (by simpa using gn), Below.heap_setCell _ _ _ _ (by simpa using gn), Below.heap_setCell _ _ _ _ (by simpa using gn)]
          exact ⟨g, 0, rfl, by rw [World.size_setCell, World.size_setCell, World.size_setCell]; exact hg', (World.cell?_of_block (w := w6) (a := ⟨g, 0 + k * 3, none⟩) hb).trans p0, (World.cell?_of_block (w := w6) (a := ⟨g, 0 + k * 3 + 1, none⟩) hb).trans p1, (World.cell?_of_block (w := w6) (a := ⟨g, 0 + k * 3 + 2, none⟩) hb).trans p2⟩⟩)
      have BF := hide' ((((BW.out _ C6.out).setCell (show w.heap.size ≤ (⟨w.heap.size + 1 + 1, 0, none⟩ : Addr).block by simp; omega) (.int .i64 st.x)).setCell (show w.heap.size ≤ (⟨w.heap.size + 1 + 1, 1, none⟩ : Addr).block by simp; omega) (.int .i64 st.y)).setCell (show w.heap.size ≤ (⟨w.heap.size + 1 + 1, 2, none⟩ : Addr).block by simp; omega) (.int .i64 (st.d : Int)))
      clear b6 e2 gge gn HBS
      go_wp2
      refine bodyPost_ret (v := .tuple #[.slice (some ⟨g, 0, none⟩) ys.length q, .agg #[.int .i64 st.x, .int .i64 st.y, .int .i64 (st.d : Int)], .nilIface]) (by simp [results, Tryd.results27, go_sem, r0, r1, r2]) rfl ?_
      rw [HST.out]
      exact ⟨ys, g, q, rfl, FIN.out, SO.out, BF.out⟩
end Go.Proofs.YtdkomlgkkepioaaDoor

