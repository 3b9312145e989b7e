/-
  What the last text of this claim leans on, part 15: Ac6, OpenT.
-/
import Derived.Test.YtbkllhlapdmlfaaQn14
import Derived.Test.YtbkllhlapdmlfaaQn2
import Derived.Test.YtbkllhlapdmlfaaRows
import Derived.WalkKit
import Derived.ProofKit
import Derived.OpenShut
import Derived.ChangeSame
import Derived.ChangeSlices
import Derived.ChangeVars
import Derived.RowKit
import Derived.Carry
namespace Go.Proofs.Ytbkllhlapdmlfaa
open Go.RowKit
set_option linter.unusedVariables false
set_option maxRecDepth 100000 in
set_option maxHeartbeats 6400000 in
theorem never_bad (o : Out) (a : Option Addr) (n c : Nat) (xs : List SpotT) (b : Option Addr) (m e : Nat) (x y d k : Int) (w : World) (hR : ArgR w o a n c) (hS : ArgS w xs b m e) (hno : ¬ AntOk o xs x y d k) :
    Calls Try.prog 5 #[.agg #[.int .i64 o.kind, .int .i64 o.born, .int .i64 o.stay, .int .i64 o.states, .int .i64 o.radius, .slice a n c, .string o.turns], .slice b m e, .agg #[.int .i64 x, .int .i64 y, .int .i64 d], .int .i64 k] w fun e' w' => e' = .returned (.bool true) ∧ Below w.heap.size w w' := by
  obtain ⟨w1, hw1⟩ : ∃ w1, (w.alloc (.cells #[.int .i64 o.kind, .int .i64 o.born, .int .i64 o.stay, .int .i64 o.states, .int .i64 o.radius, .slice a n c, .string o.turns] 37)).alloc (.cells #[.int .i64 x, .int .i64 y, .int .i64 d] 40) = w1 := ⟨_, rfl⟩
  have BB := hide' (show Below w.heap.size w w1 by rw [← hw1]; exact ((Below.refl _ _).alloc (Nat.le_refl _) _).alloc (by simp) _)
  have g0 : w1.heap[w.heap.size]? = some (.cells #[.int .i64 o.kind, .int .i64 o.born, .int .i64 o.stay, .int .i64 o.states, .int .i64 o.radius, .slice a n c, .string o.turns] 37 (0, 0)) := by rw [← hw1, Below.heap_alloc _ _ _ (by simp)]; exact heap_alloc_new _ _
  have g1 : w1.heap[w.heap.size + 1]? = some (.cells #[.int .i64 x, .int .i64 y, .int .i64 d] 40 (0, 0)) := by rw [← hw1]; exact heap_atX _ _ _ (by simp)
  have SV := hide' (fun (V : World) (h : Below w1.heap.size w1 V) => show V.cell? ⟨w.heap.size, 0, none⟩ = some (.int .i64 o.kind) ∧ V.cell? ⟨w.heap.size, 1, none⟩ = some (.int .i64 o.born) ∧ V.cell? ⟨w.heap.size, 2, none⟩ = some (.int .i64 o.stay) ∧ V.cell? ⟨w.heap.size, 3, none⟩ = some (.int .i64 o.states) ∧ V.cell? ⟨w.heap.size, 4, none⟩ = some (.int .i64 o.radius) ∧ V.cell? ⟨w.heap.size, 5, none⟩ = some (.slice a n c) ∧ V.cell? ⟨w.heap.size, 6, none⟩ = some (.string o.turns) ∧ V.cell? ⟨w.heap.size + 1, 0, none⟩ = some (.int .i64 x) ∧ V.cell? ⟨w.heap.size + 1, 1, none⟩ = some (.int .i64 y) ∧ V.cell? ⟨w.heap.size + 1, 2, none⟩ = some (.int .i64 d) from by
    have e1 := (h.block _ (lt_of_block g0)).trans g0
    have e2 := (h.block _ (lt_of_block g1)).trans g1
    exact ⟨cell_of_row V _ 0 _ _ _ e1, cell_of_row V _ 1 _ _ _ e1, cell_of_row V _ 2 _ _ _ e1, cell_of_row V _ 3 _ _ _ e1, cell_of_row V _ 4 _ _ _ e1, cell_of_row V _ 5 _ _ _ e1, cell_of_row V _ 6 _ _ _ e1, cell_of_row V _ 0 _ _ _ e2, cell_of_row V _ 1 _ _ _ e2, cell_of_row V _ 2 _ _ _ e2⟩)
  have BW := hide' (fun (V : World) (h : Below w1.heap.size w1 V) => BB.out.trans (h.mono BB.out.size))
  have FA := hide' (fun V => fact_ant V)
  have RU := hide' (fun (V : World) (h : Below w1.heap.size w1 V) => antRun_bad o a n c xs b m e x y d k V (hR.below (BW.out V h)) (hS.below (BW.out V h)) hno)
  clear hR hS hno
  clear g0 g1
  go_enter Try.func5, Try.ntmps5
  go_upto_region 1 with fail
  clear hw1
  go_wp2_with fail
  refine (FA.out _).mono ?_
  rintro e' w2 ⟨gf, qf, rfl, b2⟩
  have C2 := hide' (b2.alloc b2.size (.cells #[.int .i64 1, .int .i64 0, .int .i64 1] 40))
  have v0 : (w2.alloc (.cells #[.int .i64 1, .int .i64 0, .int .i64 1] 40)).cell? ⟨w2.heap.size, 0, none⟩ = some (.int .i64 1) := cell_of_row _ _ 0 _ _ _ (heap_alloc_new _ _)
  have v2 : (w2.alloc (.cells #[.int .i64 1, .int .i64 0, .int .i64 1] 40)).cell? ⟨w2.heap.size, 2, none⟩ = some (.int .i64 1) := cell_of_row _ _ 2 _ _ _ (heap_alloc_new _ _)
  clear b2
  go_upto_region 4 with fail
  clear v0 v2
  obtain ⟨c0, c1, c2, c3, c4, c5, c6, d0, d1, d2⟩ := SV.out _ C2.out
  go_wp2_with fail
  refine (RU.out _ C2.out).mono ?_
  rintro e' w3 ⟨f, -, f0, rfl, b3⟩
  have EP := hide' (errOf_posB f0)
  rw [EP.out]
  have C3 := hide' ((C2.out.trans (b3.mono C2.out.size)).alloc (by have := C2.out.size; have := b3.size; omega) (.cells #[.int .i64 0, .int .i64 0, .int .i64 0] 40))
  clear c0 c1 c2 c3 c4 c5 c6 d0 d1 d2 b3 f0
  go_wp2
  go_ret
  exact ⟨rfl, BW.out _ C3.out⟩
set_option maxRecDepth 100000 in
set_option maxHeartbeats 6400000 in
theorem never_none (o : Out) (a : Option Addr) (n c : Nat) (xs : List SpotT) (b : Option Addr) (m e : Nat) (x y : Int) (d : Nat) (w : World) (hR : ArgR w o a n c) (hS : ArgS w xs b m e) (hok : AntOk o xs x y (d : Int) ((0 : Nat) : Int)) :
    Calls Try.prog 5 #[.agg #[.int .i64 o.kind, .int .i64 o.born, .int .i64 o.stay, .int .i64 o.states, .int .i64 o.radius, .slice a n c, .string o.turns], .slice b m e, .agg #[.int .i64 x, .int .i64 y, .int .i64 (d : Int)], .int .i64 0] w fun e' w' => e' = .returned (.bool true) ∧ Below w.heap.size w w' := by
  obtain ⟨w1, hw1⟩ : ∃ w1, (w.alloc (.cells #[.int .i64 o.kind, .int .i64 o.born, .int .i64 o.stay, .int .i64 o.states, .int .i64 o.radius, .slice a n c, .string o.turns] 37)).alloc (.cells #[.int .i64 x, .int .i64 y, .int .i64 (d : Int)] 40) = w1 := ⟨_, rfl⟩
  have BB := hide' (show Below w.heap.size w w1 by rw [← hw1]; exact ((Below.refl _ _).alloc (Nat.le_refl _) _).alloc (by simp) _)
  have g0 : w1.heap[w.heap.size]? = some (.cells #[.int .i64 o.kind, .int .i64 o.born, .int .i64 o.stay, .int .i64 o.states, .int .i64 o.radius, .slice a n c, .string o.turns] 37 (0, 0)) := by rw [← hw1, Below.heap_alloc _ _ _ (by simp)]; exact heap_alloc_new _ _
  have g1 : w1.heap[w.heap.size + 1]? = some (.cells #[.int .i64 x, .int .i64 y, .int .i64 (d : Int)] 40 (0, 0)) := by rw [← hw1]; exact heap_atX _ _ _ (by simp)
  have SV := hide' (fun (V : World) (h : Below w1.heap.size w1 V) => show V.cell? ⟨w.heap.size, 0, none⟩ = some (.int .i64 o.kind) ∧ V.cell? ⟨w.heap.size, 1, none⟩ = some (.int .i64 o.born) ∧ V.cell? ⟨w.heap.size, 2, none⟩ = some (.int .i64 o.stay) ∧ V.cell? ⟨w.heap.size, 3, none⟩ = some (.int .i64 o.states) ∧ V.cell? ⟨w.heap.size, 4, none⟩ = some (.int .i64 o.radius) ∧ V.cell? ⟨w.heap.size, 5, none⟩ = some (.slice a n c) ∧ V.cell? ⟨w.heap.size, 6, none⟩ = some (.string o.turns) ∧ V.cell? ⟨w.heap.size + 1, 0, none⟩ = some (.int .i64 x) ∧ V.cell? ⟨w.heap.size + 1, 1, none⟩ = some (.int .i64 y) ∧ V.cell? ⟨w.heap.size + 1, 2, none⟩ = some (.int .i64 (d : Int)) from by
    have e1 := (h.block _ (lt_of_block g0)).trans g0
    have e2 := (h.block _ (lt_of_block g1)).trans g1
    exact ⟨cell_of_row V _ 0 _ _ _ e1, cell_of_row V _ 1 _ _ _ e1, cell_of_row V _ 2 _ _ _ e1, cell_of_row V _ 3 _ _ _ e1, cell_of_row V _ 4 _ _ _ e1, cell_of_row V _ 5 _ _ _ e1, cell_of_row V _ 6 _ _ _ e1, cell_of_row V _ 0 _ _ _ e2, cell_of_row V _ 1 _ _ _ e2, cell_of_row V _ 2 _ _ _ e2⟩)
  have BW := hide' (fun (V : World) (h : Below w1.heap.size w1 V) => BB.out.trans (h.mono BB.out.size))
  have FA := hide' (fun V => fact_ant V)
  have RU := hide' (fun (V : World) (h : Below w1.heap.size w1 V) => antRun_good o a n c xs b m e x y d 0 V (hR.below (BW.out V h)) (hS.below (BW.out V h)) hok)
  obtain ⟨st, hst⟩ : ∃ st, runA (trB o.turns) o.turns.size ⟨colT xs m, x, y, d⟩ 0 = st := ⟨_, rfl⟩
  rw [hst] at RU
  clear hR hS hok hst
  clear g0 g1
  go_enter Try.func5, Try.ntmps5
  go_upto_region 1 with fail
  clear hw1
  go_wp2_with fail
  refine (FA.out _).mono ?_
  rintro e' w2 ⟨gf, qf, rfl, b2⟩
  have C2 := hide' (b2.alloc b2.size (.cells #[.int .i64 1, .int .i64 0, .int .i64 1] 40))
  have v0 : (w2.alloc (.cells #[.int .i64 1, .int .i64 0, .int .i64 1] 40)).cell? ⟨w2.heap.size, 0, none⟩ = some (.int .i64 1) := cell_of_row _ _ 0 _ _ _ (heap_alloc_new _ _)
  have v2 : (w2.alloc (.cells #[.int .i64 1, .int .i64 0, .int .i64 1] 40)).cell? ⟨w2.heap.size, 2, none⟩ = some (.int .i64 1) := cell_of_row _ _ 2 _ _ _ (heap_alloc_new _ _)
  clear b2
  go_upto_region 4 with fail
  clear v0 v2
  obtain ⟨c0, c1, c2, c3, c4, c5, c6, d0, d1, d2⟩ := SV.out _ C2.out
  go_wp2_with fail
  refine (RU.out _ C2.out).mono ?_
  rintro e' w3 ⟨ys, g, q, rfl, -, -, b3⟩
  have C3 := hide' ((C2.out.trans (b3.mono C2.out.size)).alloc (by have := C2.out.size; have := b3.size; omega) (.cells #[.int .i64 st.x, .int .i64 st.y, .int .i64 (st.d : Int)] 40))
  clear c0 c1 c2 c3 c4 c5 c6 d0 d1 d2 b3
  go_wp2
  go_ret
  exact ⟨rfl, BW.out _ C3.out⟩
set_option maxRecDepth 100000 in
set_option maxHeartbeats 12800000 in
theorem never_some (o : Out) (a : Option Addr) (n c : Nat) (xs : List SpotT) (b : Option Addr) (m e : Nat) (x y : Int) (d k : Nat) (w : World) (hR : ArgR w o a n c) (hS : ArgS w xs b m e) (hok : AntOk o xs x y (d : Int) (k : Int)) (k1 : 1 ≤ k) :
    Calls Try.prog 5 #[.agg #[.int .i64 o.kind, .int .i64 o.born, .int .i64 o.stay, .int .i64 o.states, .int .i64 o.radius, .slice a n c, .string o.turns], .slice b m e, .agg #[.int .i64 x, .int .i64 y, .int .i64 (d : Int)], .int .i64 (k : Int)] w fun e' w' => e' = .returned (.bool true) ∧ Below w.heap.size w w' := by
  obtain ⟨hg, kind3, sE, hxy, dn0, dn3, kn0, kn1⟩ := hok
  have hok : AntOk o xs x y (d : Int) (k : Int) := ⟨hg, kind3, sE, hxy, dn0, dn3, kn0, kn1⟩
  obtain ⟨L1, L26, -⟩ : turnsP o.turns := by
    rcases hg with ⟨h, _⟩ | ⟨h, _⟩ | ⟨_, h, _⟩
    · omega
    · omega
    · exact h
  have ml := hS.len
  obtain ⟨w1, hw1⟩ : ∃ w1, (w.alloc (.cells #[.int .i64 o.kind, .int .i64 o.born, .int .i64 o.stay, .int .i64 o.states, .int .i64 o.radius, .slice a n c, .string o.turns] 37)).alloc (.cells #[.int .i64 x, .int .i64 y, .int .i64 (d : Int)] 40) = w1 := ⟨_, rfl⟩
  have BB := hide' (show Below w.heap.size w w1 by rw [← hw1]; exact ((Below.refl _ _).alloc (Nat.le_refl _) _).alloc (by simp) _)
  have g0 : w1.heap[w.heap.size]? = some (.cells #[.int .i64 o.kind, .int .i64 o.born, .int .i64 o.stay, .int .i64 o.states, .int .i64 o.radius, .slice a n c, .string o.turns] 37 (0, 0)) := by rw [← hw1, Below.heap_alloc _ _ _ (by simp)]; exact heap_alloc_new _ _
  have g1 : w1.heap[w.heap.size + 1]? = some (.cells #[.int .i64 x, .int .i64 y, .int .i64 (d : Int)] 40 (0, 0)) := by rw [← hw1]; exact heap_atX _ _ _ (by simp)
  have SV := hide' (fun (V : World) (h : Below w1.heap.size w1 V) => show V.cell? ⟨w.heap.size, 0, none⟩ = some (.int .i64 o.kind) ∧ V.cell? ⟨w.heap.size, 1, none⟩ = some (.int .i64 o.born) ∧ V.cell? ⟨w.heap.size, 2, none⟩ = some (.int .i64 o.stay) ∧ V.cell? ⟨w.heap.size, 3, none⟩ = some (.int .i64 o.states) ∧ V.cell? ⟨w.heap.size, 4, none⟩ = some (.int .i64 o.radius) ∧ V.cell? ⟨w.heap.size, 5, none⟩ = some (.slice a n c) ∧ V.cell? ⟨w.heap.size, 6, none⟩ = some (.string o.turns) ∧ V.cell? ⟨w.heap.size + 1, 0, none⟩ = some (.int .i64 x) ∧ V.cell? ⟨w.heap.size + 1, 1, none⟩ = some (.int .i64 y) ∧ V.cell? ⟨w.heap.size + 1, 2, none⟩ = some (.int .i64 (d : Int)) from by
    have e1 := (h.block _ (lt_of_block g0)).trans g0
    have e2 := (h.block _ (lt_of_block g1)).trans g1
    exact ⟨cell_of_row V _ 0 _ _ _ e1, cell_of_row V _ 1 _ _ _ e1, cell_of_row V _ 2 _ _ _ e1, cell_of_row V _ 3 _ _ _ e1, cell_of_row V _ 4 _ _ _ e1, cell_of_row V _ 5 _ _ _ e1, cell_of_row V _ 6 _ _ _ e1, cell_of_row V _ 0 _ _ _ e2, cell_of_row V _ 1 _ _ _ e2, cell_of_row V _ 2 _ _ _ e2⟩)
  have BW := hide' (fun (V : World) (h : Below w1.heap.size w1 V) => BB.out.trans (h.mono BB.out.size))
  have FA := hide' (fun V => fact_ant V)
  have RU := hide' (fun (V : World) (h : Below w1.heap.size w1 V) => antRun_good o a n c xs b m e x y d k V (hR.below (BW.out V h)) (hS.below (BW.out V h)) hok)
  have NV := hide' (fun (ys : List SpotT) (so : SpotsOut (runA (trB o.turns) o.turns.size ⟨colT xs m, x, y, d⟩ k).col ys) (hy : ys = xs) (hx : ((runA (trB o.turns) o.turns.size ⟨colT xs m, x, y, d⟩ k).x, (runA (trB o.turns) o.turns.size ⟨colT xs m, x, y, d⟩ k).y, ((runA (trB o.turns) o.turns.size ⟨colT xs m, x, y, d⟩ k).d : Int)) = (x, y, (d : Int))) (hl : ∃ j, j < o.turns.size ∧ bt o.turns j = 76) (hr : ∃ j, j < o.turns.size ∧ bt o.turns j ≠ 76) => show False from by
    obtain ⟨jl, jl1, jl2⟩ := hl
    obtain ⟨jr, jr1, jr2⟩ := hr
    have tp : turnsP o.turns := by
      rcases hg with ⟨h, _⟩ | ⟨h, _⟩ | ⟨_, h, _⟩
      · omega
      · omega
      · exact h
    have jr3 : bt o.turns jr = 82 := by
      rcases tp.2.2 jr jr1 with h | h
      · exact absurd h jr2
      · exact h
    subst hy
    have cc := spots_col so (show SpotsOut (colT ys m) ys by rw [ml]; exact spots_self sE)
    simp only [Prod.mk.injEq] at hx
    have e : runA (trB o.turns) o.turns.size ⟨colT ys m, x, y, d⟩ k = ⟨colT ys m, x, y, d⟩ := by
      revert cc hx so
      generalize runA (trB o.turns) o.turns.size ⟨colT ys m, x, y, d⟩ k = S
      rintro so cc ⟨e1, e2, e3⟩
      obtain ⟨col', x', y', d'⟩ := S
      simp only at cc e1 e2 e3
      rw [cc, e1, e2, show d' = d by omega]
    exact never_back (s := ⟨colT ys m, x, y, d⟩) ⟨fun u v => colT_lt (by omega) sE m (by omega) u v, by show d < 4; omega⟩ k1 jl1 jr1 (by unfold trB; rw [jl2]; decide) (by unfold trB; rw [jr3]; decide) e)
  have HS := hide' (fun (V : World) (h : Below w1.heap.size w1 V) => hS.below (BW.out V h))
  obtain ⟨st, hst⟩ : ∃ st, runA (trB o.turns) o.turns.size ⟨colT xs m, x, y, d⟩ k = st := ⟨_, rfl⟩
  rw [hst] at RU NV
  obtain ⟨L, hL⟩ : ∃ L, o.turns.size = L := ⟨_, rfl⟩
  have HL := hide' hL
  have k1i : ¬ (k : Int) < 1 := by omega
  clear hR hS hok hst hg kind3 sE hxy dn0 dn3 kn0 ml
  rw [hL] at L26 L1
  clear g0 g1
  go_enter Try.func5, Try.ntmps5
  go_upto_region 1 with fail
  clear hw1
  go_wp2_with fail
  refine (FA.out _).mono ?_
  rintro e' w2 ⟨gf, qf, rfl, b2⟩
  have C2 := hide' (b2.alloc b2.size (.cells #[.int .i64 1, .int .i64 0, .int .i64 1] 40))
  have v0 : (w2.alloc (.cells #[.int .i64 1, .int .i64 0, .int .i64 1] 40)).cell? ⟨w2.heap.size, 0, none⟩ = some (.int .i64 1) := cell_of_row _ _ 0 _ _ _ (heap_alloc_new _ _)
  have v2 : (w2.alloc (.cells #[.int .i64 1, .int .i64 0, .int .i64 1] 40)).cell? ⟨w2.heap.size, 2, none⟩ = some (.int .i64 1) := cell_of_row _ _ 2 _ _ _ (heap_alloc_new _ _)
  clear b2
  go_upto_region 4 with fail
  clear v0 v2
  obtain ⟨c0, c1, c2, c3, c4, c5, c6, d0, d1, d2⟩ := SV.out _ C2.out
  go_wp2_with fail
  refine (RU.out _ C2.out).mono ?_
  rintro e' w3 ⟨ys, g, q, rfl, ay, so, b3⟩
  have z3 := b3.size
  have z2 := C2.out.size
  obtain ⟨w4, hw4⟩ : ∃ w4, w3.alloc (.cells #[.int .i64 st.x, .int .i64 st.y, .int .i64 (st.d : Int)] 40) = w4 := ⟨_, rfl⟩
  have g4 : w4.heap[w3.heap.size]? = some (.cells #[.int .i64 st.x, .int .i64 st.y, .int .i64 (st.d : Int)] 40 (0, 0)) := by rw [← hw4]; exact heap_alloc_new _ _
  have C4 := hide' (show Below w1.heap.size w1 w4 by rw [← hw4]; exact (C2.out.trans (b3.mono C2.out.size)).alloc (by omega) _)
  have AY := hide' (show ArgS w4 ys (some ⟨g, 0, none⟩) ys.length q by rw [← hw4]; exact ay.below ((Below.refl _ _).alloc (Nat.le_refl _) _))
  have G4 := hide' g4
  have SO := hide' so
  clear c0 c1 c2 c3 c4 c5 c6 d0 d1 d2 b3 ay so g4
  go_upto_region 5 with fail
  try rw [hw4]
  clear hw4
  obtain ⟨c0, c1, c2, c3, c4, c5, c6, d0, d1, d2⟩ := SV.out _ C4.out
  go_wp2
  go_loopw [15, 16, 17] (fun lv rv iv wr => ∃ (i : Nat) (bl br : Bool), iv = .int .i64 (i : Int) ∧ lv = .bool bl ∧ rv = .bool br ∧ i ≤ L ∧ Hid (bl = true → ∃ j, j < i ∧ bt o.turns j = 76) ∧ Hid (br = true → ∃ j, j < i ∧ bt o.turns j ≠ 76) ∧ w4 = wr) (fun _ _ iv _ => ((L : Int) - intOf iv).toNat)
  case atStart => exact ⟨0, false, false, by go_num, rfl, rfl, by omega, hide' (fun h => by cases h), hide' (fun h => by cases h), rfl⟩
  case round =>
    obtain ⟨i, bl, br, rfl, rfl, rfl, hi, BL, BR, rfl⟩ := hrel
    by_cases di : (i : Int) < (L : Int)
    · have is : i < o.turns.size := by have := HL.out; omega
      have eb := bt_lt o.turns i is
      by_cases r : bt o.turns i = 76
      · have rb : ((o.turns[i].toNat : Int) == 76) = true := by rw [eb]; simp [r]
        have ri : (o.turns[i].toNat : Int) = 76 := by omega
        have NL := hide' (show true = true → ∃ j, j < i + 1 ∧ bt o.turns j = 76 from fun _ => ⟨i, by omega, r⟩)
        have NR := hide' (show br = true → ∃ j, j < i + 1 ∧ bt o.turns j ≠ 76 from fun h => by
          obtain ⟨j, h1, h2⟩ := BR.out h
          exact ⟨j, by omega, h2⟩)
        clear eb r BL BR
        go_wp2
        exact ⟨⟨i + 1, true, br, by go_num, rfl, rfl, by omega, hide' (fun _ => ⟨i, by omega, by have := bt_lt o.turns i is; omega⟩), NR, by first | rfl | trivial | simp⟩, by simp [intOf]; omega⟩
      · have rb : ((o.turns[i].toNat : Int) == 76) = false := by rw [eb]; simp; omega
        have ri : ¬ (o.turns[i].toNat : Int) = 76 := by omega
        have NL := hide' (show bl = true → ∃ j, j < i + 1 ∧ bt o.turns j = 76 from fun h => by
          obtain ⟨j, h1, h2⟩ := BL.out h
          exact ⟨j, by omega, h2⟩)
        clear eb r BL BR
        go_wp2
        exact ⟨⟨i + 1, bl, true, by go_num, rfl, rfl, by omega, NL, hide' (fun _ => ⟨i, by omega, by have := bt_lt o.turns i is; omega⟩), by first | rfl | trivial | simp⟩, by simp [intOf]; omega⟩
    · have iL : i = L := by omega
      have SS := hide' (spots_same ys xs (some ⟨g, 0, none⟩) b ys.length q m e w4 AY.out (HS.out _ C4.out))
      obtain ⟨β, hβ⟩ : ∃ β, decide (ys = xs) = β := ⟨_, rfl⟩
      rw [hβ] at SS
      have HBE := hide' hβ
      have LI := hide' iL
      clear hβ iL
      go_wp2_with fail
      refine SS.out.mono ?_
      clear c0 c1 c2 c3 c4 c5 c6 d0 d1 d2
      rintro e' w5 ⟨rfl, b5⟩
      have C5 := hide' (C4.out.trans (b5.mono C4.out.size))
      have g5 := (b5.block _ (lt_of_block G4.out)).trans G4.out
      have t0 := cell_of_row w5 _ 0 _ _ _ g5
      have t1 := cell_of_row w5 _ 1 _ _ _ g5
      have t2 := cell_of_row w5 _ 2 _ _ _ g5
      simp at t0 t1 t2
      obtain ⟨c0, c1, c2, c3, c4, c5, c6, d0, d1, d2⟩ := SV.out _ C5.out
      have WE := fun V => walker_eq (st.x, st.y, (st.d : Int)) (x, y, (d : Int)) V
      simp only at WE
      clear b5 g5
      cases bl
      · go_wp2
        go_ret
        exact ⟨rfl, BW.out _ C5.out⟩
      · cases br
        · go_wp2
          go_ret
          exact ⟨rfl, BW.out _ C5.out⟩
        · cases β
          · go_wp2
            go_ret
            exact ⟨rfl, BW.out _ C5.out⟩
          · by_cases we : (st.x, st.y, (st.d : Int)) = (x, y, (d : Int))
            · exact absurd (NV.out ys SO.out (of_decide_eq_true HBE.out) we (by
                obtain ⟨j, h1, h2⟩ := BL.out rfl
                exact ⟨j, by have := LI.out; have := HL.out; omega, h2⟩) (by
                obtain ⟨j, h1, h2⟩ := BR.out rfl
                exact ⟨j, by have := LI.out; have := HL.out; omega, h2⟩)) (fun h => h)
            · have WF := fun V => (WE V).trans (by rw [decide_eq_false we])
              clear WE we
              go_wp2
              go_ret
              exact ⟨rfl, BW.out _ C5.out⟩
theorem law_never_all (o : Out) (a : Option Addr) (n c : Nat) (xs : List SpotT) (b : Option Addr) (m e : Nat) (x y d k : Int) (w : World) (hR : ArgR w o a n c) (hS : ArgS w xs b m e) :
    Calls Try.prog 5 #[.agg #[.int .i64 o.kind, .int .i64 o.born, .int .i64 o.stay, .int .i64 o.states, .int .i64 o.radius, .slice a n c, .string o.turns], .slice b m e, .agg #[.int .i64 x, .int .i64 y, .int .i64 d], .int .i64 k] w fun e' w' => e' = .returned (.bool true) ∧ Below w.heap.size w w' := by
  by_cases hok : AntOk o xs x y d k
  · have h := hok
    obtain ⟨_, _, _, _, h1, h2, h3, h4⟩ := h
    obtain ⟨dn, rfl⟩ : ∃ dn : Nat, d = (dn : Int) := ⟨d.toNat, by omega⟩
    obtain ⟨kn, rfl⟩ : ∃ kn : Nat, k = (kn : Int) := ⟨k.toNat, by omega⟩
    by_cases k0 : kn = 0
    · subst k0; exact never_none o a n c xs b m e x y dn w hR hS hok
    · exact never_some o a n c xs b m e x y dn kn w hR hS hok (by omega)
  · exact never_bad o a n c xs b m e x y d k w hR hS hok
end Go.Proofs.Ytbkllhlapdmlfaa

namespace Go.Proofs.Ytbkllhlapdmlfaa
open Go.ChangeShapes Go.WideShapes Go.ChangeAt Go.RowKit
open Go.ChangeMaps (setBlock shut_map_nil open_string shut_string keptBut_setBlock frozen?_setBlock heap_setBlock_same)
set_option linter.unusedVariables false

theorem laidOutP : laidOutB Try.prog = true := by kernel_rfl
theorem ownP : ownKnob Try.prog.godebug = none := by kernel_rfl
/-- A list of ints as it is read. -/
theorem ints_arg {H : Type} {enc : TypeId × Value → H} {W : World} {fuel : Nat} {cs : List Value} {x : DataW H × List MemPlace}
    (h : DataW.trod enc Try.prog W 0 (fun _ => true) true fuel 22 cs = some x) :
    ∃ (xs : List Int) (a : Option Addr) (c : Nat), cs = [.slice a xs.length c] ∧ ArgP W xs a xs.length c ∧ xs.length ≤ c ∧ c ≤ maxLen := by
  have q3 : Try.prog.cellsOf 3 = 1 := by kernel_rfl
  rcases open_ints Try.underlying22 Try.underlying3 q3 h with ⟨rfl, -⟩ | ⟨a, len, cap, zs, rfl, hb, hlc, hcm, hzl, -, hcell, hwf⟩
  · exact ⟨[], none, 0, rfl, ⟨rfl, by simp, fun k hk => absurd hk (by simp)⟩, by simp, by simp⟩
  · simp only [if_true] at hzl
    have hl : (zs.take len).length = len := by simp; omega
    refine ⟨zs.take len, some a, cap, by rw [hl], ⟨rfl, by omega, fun k hk => ?_⟩, by omega, hcm⟩
    have hk' : k < len ∧ k < zs.length := by simp only [List.length_take] at hk; omega
    have hc0 := hcell 0 (by omega)
    have hck := hcell k hk'.2
    obtain ⟨g, off, sp⟩ := a
    have hsp : sp = none := by
      cases sp with
      | none => rfl
      | some q =>
        exfalso
        simp [Addr.add, World.cell?] at hc0
        split at hc0 <;> simp at hc0
    subst hsp
    have ea : (⟨g, off, none⟩ : Addr).add k = ⟨g, off + k, none⟩ := by
      unfold Addr.add
      split
      · rename_i hz; subst hz; rfl
      · rfl
    rw [ea] at hck
    refine ⟨g, off, rfl, ?_, ?_⟩
    · rcases Nat.lt_or_ge g W.heap.size with q | q
      · exact q
      · simp [World.cell?, Array.getElem?_eq_none q] at hck
    · rw [hck]
      simp [List.getD, hk'.2]

set_option maxRecDepth 100000 in
theorem open_ruleQ {H : Type} {enc : TypeId × Value → H} {W : World} {base : Nat} {v : Value} {d : DataW H} {p : List MemPlace}
    (hv : Value.okWide Try.prog W .any base 37 v) (h : DataW.Trod enc Try.prog W 0 (fun _ => true) true 37 v d p) :
    ∃ (o : Out) (a : Option Addr) (c : Nat), v = .agg #[.int .i64 o.kind, .int .i64 o.born, .int .i64 o.stay, .int .i64 o.states, .int .i64 o.radius, .slice a o.table.length c, .string o.turns] ∧ ArgR W o a o.table.length c ∧ o.table.length ≤ c ∧ c ≤ maxLen := by
  obtain ⟨cs, rfl, hsz⟩ := okWide_struct Try.underlying37 hv
  obtain ⟨fuel, h⟩ := h
  obtain ⟨xs, m, _, hx, hl, hlen, hf⟩ := DataW.trod_struct Try.underlying37 h
  have f0 := hf 0 _ rfl
  have f1 := hf 1 _ rfl
  have f2 := hf 2 _ rfl
  have f3 := hf 3 _ rfl
  have f4 := hf 4 _ rfl
  have f5 := hf 5 _ rfl
  have f6 := hf 6 _ rfl
  clear hf hx h hv hl
  have q3 : Try.prog.cellsOf 3 = 1 := by kernel_rfl
  have k22 : Try.prog.cellsOf 22 = 1 := by kernel_rfl
  have k9 : Try.prog.cellsOf 9 = 1 := by kernel_rfl
  rw [show Try.prog.cellsOf 37 = 7 by kernel_rfl] at hsz
  obtain ⟨cl⟩ := cs
  match cl, hsz with
  | [c0, c1, c2, c3, c4, c5, c6], _ =>
  match xs, hlen with
  | [y0, y1, y2, y3, y4, y5, y6], _ =>
  simp [Value.cells, q3, k22, k9] at f0 f1 f2 f3 f4 f5 f6
  obtain ⟨k0, e0, -, w0⟩ := DataW.trod_int Try.underlying3 f0
  obtain ⟨k1, e1, -, w1⟩ := DataW.trod_int Try.underlying3 f1
  obtain ⟨k2, e2, -, w2⟩ := DataW.trod_int Try.underlying3 f2
  obtain ⟨k3, e3, -, w3⟩ := DataW.trod_int Try.underlying3 f3
  obtain ⟨k4, e4, -, w4⟩ := DataW.trod_int Try.underlying3 f4
  obtain ⟨t, e6, -, ht⟩ := DataW.trod_string Try.underlying9 f6
  have hr : k4 ≤ 9223372036854775807 := by
    simp only [Lit.wf, Bool.and_eq_true, decide_eq_true_eq] at w4
    have := w4.2
    exact Int.le_trans this (by decide)
  obtain ⟨zs, a, c, e5, ha, h1, h2⟩ := ints_arg f5
  simp only [List.cons.injEq, and_true] at e0 e1 e2 e3 e4 e5 e6
  subst e0 e1 e2 e3 e4 e5 e6
  exact ⟨⟨k0, k1, k2, k3, k4, zs, t⟩, a, c, rfl, ⟨rfl, ha.max, ht, ha.cells, hr⟩, h1, h2⟩
end Go.Proofs.Ytbkllhlapdmlfaa

