/-
  What the last text of this claim leans on, part 31: Ad1, Ad3.
-/
import Derived.Test.YtbkllhlapdmlfaaQb21
import Derived.Test.YtbkllhlapdmlfaaQb30
namespace Go.Proofs.Ytbkllhlapdmlfaa
open Go.RowKit
set_option linter.unusedVariables false
theorem IsI_mzero : IsI 9223372036854775808 0 := by
  refine ⟨true, 0, -1074, by decide +kernel, by decide, by rw [Int.zero_mul]; rfl⟩
theorem neg_tu (b : Bool) (w : World) : (Go.Op.unary .neg (.complex .f64 0 (tuN b))).run Try.prog w = .ok (.complex .f64 9223372036854775808 (tuN (!b))) w := by
  cases b <;> kernel_rfl
theorem turn_mulB (t : Nat → Bool) (c : Nat) {d : Nat} (h : d < 4) : dxA d * 0 - -(dyA d) * (if (!t c) = true then -1 else 1) = dxA (bckA t c d) ∧ dxA d * (if (!t c) = true then -1 else 1) + -(dyA d) * 0 = -(dyA (bckA t c d)) := by
  unfold bckA
  rcases (by omega : d = 0 ∨ d = 1 ∨ d = 2 ∨ d = 3) with rfl | rfl | rfl | rfl <;> cases t c <;> simp [dxA, dyA]
set_option maxRecDepth 100000 in
set_option maxHeartbeats 12800000 in
theorem undo_anyA (kb tb mb n L B : Nat) (t : Nat → Bool) (s : AntS) (w : World) (h : WK w kb tb mb n L t s) (hx : -2000000 ≤ s.x ∧ s.x ≤ 2000000) (hy : -2000000 ≤ s.y ∧ s.y ≤ 2000000) (L26 : L ≤ 26) (n63 : n < 4611686018427387904) (hB : B ≤ mb ∧ B ≤ kb ∧ B ≤ tb) :
    Calls Try.prog 32 #[.pointer (some ⟨kb, 0, none⟩)] w fun e w' => e = .returned (.tuple #[]) ∧ WK w' kb tb mb (n + 1) L t (undoA t L s) ∧ Below B w w' := by
  obtain ⟨col, x, y, d⟩ := s
  obtain ⟨ra, ia, rd, id, hb, j1, j2, j3, j4⟩ := h.bl.blk
  obtain ⟨D, hm, hc⟩ := h.mp
  simp only at hb j1 j2 j3 j4 hc hx hy
  have OK := h.ok
  have d4 : d < 4 := OK.d
  have nx := dx_near d
  have ny := dy_near d
  obtain ⟨ar, ai, ea, k1, k2⟩ := csub_gen j1 j2 j3 j4 (by omega) (by omega)
  rw [show -y - -(dyA d) = -(y - dyA d) by omega] at k2
  have HU := hide' (undo_ok (t := t) OK)
  have HS : Hid (undoA t L ⟨col, x, y, d⟩ = { col := setA col (x - dxA d) (y - dyA d) ((col (x - dxA d) (y - dyA d) + L - 1) % L), x := x - dxA d, y := y - dyA d, d := bckA t ((col (x - dxA d) (y - dyA d) + L - 1) % L) d }) := hide' rfl
  have ix : inC (x - dxA d) := by unfold inC; omega
  have iy : inC (y - dyA d) := by unfold inC; omega
  obtain ⟨X, hX⟩ : ∃ X, x - dxA d = X := ⟨_, rfl⟩
  obtain ⟨Y, hY⟩ : ∃ Y, y - dyA d = Y := ⟨_, rfl⟩
  rw [hX] at k1 ix
  rw [hY] at k2 iy
  have c1 : col X Y < L := OK.col X Y
  obtain ⟨q, hq⟩ : ∃ q, col X Y = q := ⟨_, rfl⟩
  rw [hq] at c1
  obtain ⟨v, hv⟩ : ∃ v, (q + L - 1) % L = v := ⟨_, rfl⟩
  have vL : v < L := by rw [← hv]; exact Nat.mod_lt _ (by omega)
  obtain ⟨re, im, em, i1, i2⟩ := cmul_gen j3 j4 IsI_mzero (IsI_tu (!t v)) nx (by omega) (by omega) (by cases t v <;> simp)
  rw [(turn_mulB t v d4).1] at i1
  rw [(turn_mulB t v d4).2] at i2
  have LT := h.lt
  have NE := hide' h.ne
  have TU := hide' h.tu
  have HM := hide' hm
  have HC := hide' hc
  have gk := hb
  have c2 := cell_of_row w _ 2 _ _ _ gk
  have c3 := cell_of_row w _ 3 _ _ _ gk
  unfold wkV at c2 c3
  simp at c2 c3
  have f2 := frozen_of_row w _ 2 _ _ gk
  have lk := lt_of_block gk
  have hsub := fun t V => run_complex_sum (P := Try.prog) V .sub (Or.inr rfl) t .f64 _ _ _ _ _ _ ea
  have hst := fun V a m => run_store Try.prog V a (.complex .f64 ar ai) m rfl
  obtain ⟨w0, hw0⟩ : ∃ w0, (w.setCell ⟨kb, 2, none⟩ (.complex .f64 ar ai)).drew = w0 := ⟨_, rfl⟩
  have GK := hide' gk
  clear h hb gk
  go_enter Try.func32, Try.ntmps32
  go_upto_region 0 with fail
  go_region
  have z0 : w0.heap.size = w.heap.size := by rw [← hw0]; exact World.size_setCell _ _ _
  have gk0 : w0.heap[kb]? = some (.cells (wkV tb L mb ar ai rd id) 93 (0, 0)) := by rw [← hw0]; show (w.setCell _ _).heap[kb]? = _; rw [heap_setCell_same _ _ _ _ _ _ GK.out]; rfl
  have k0 : ∀ j, j ≠ kb → w0.heap[j]? = w.heap[j]? := fun j hj => by rw [← hw0]; show (w.setCell _ _).heap[j]? = _; exact Below.heap_setCell _ _ _ _ (by simpa using hj)
  have hm0 : w0.ownsMap Try.prog 95 (plainElem Try.prog 3) mb n D := by
    obtain ⟨es, clock, hb', r⟩ := HM.out
    exact ⟨es, clock, (k0 mb (fun e => NE.out.2.1 e.symm)).trans hb', r⟩
  have HR := hide' (here_any kb tb mb L d X Y w0 ⟨⟨ar, ai, rd, id, gk0, k1, k2, j3, j4⟩⟩ ix iy)
  have B0 := hide' (show Below B w w0 by rw [← hw0]; exact ((Below.refl B w).setCell (by simp; omega) _).drew)
  have GK0 := hide' gk0
  have K0 := hide' k0
  have HM0 := hide' hm0
  have LT0 : kb < w0.heap.size ∧ tb < w0.heap.size := by rw [z0]; exact LT
  clear hw0 c2 c3 f2 lk hsub hst gk0 k0 hm0
  go_wp2_with fail
  refine HR.out.mono ?_
  rintro e w1 ⟨rfl, b1⟩
  obtain ⟨w2, hw2⟩ : ∃ w2, w1.alloc (.cells #[.int .i64 X, .int .i64 Y] 95) = w2 := ⟨_, rfl⟩
  have s1 := b1.size
  have B2 := hide' (show Below w0.heap.size w0 w2 by rw [← hw2]; exact b1.alloc s1 _)
  have z2 : w2.heap.size = w1.heap.size + 1 := by rw [← hw2]; simp
  have g2 : w2.heap[w1.heap.size]? = some (.cells #[.int .i64 X, .int .i64 Y] 95 (0, 0)) := by rw [← hw2]; exact heap_alloc_new _ _
  have gk : w2.heap[kb]? = _ := (B2.out.block kb LT0.1).trans GK0.out
  have ml := HM0.out.lt
  have hm2 : w2.ownsMap Try.prog 95 (plainElem Try.prog 3) mb n D := by
    obtain ⟨es, clock, hb', r⟩ := HM0.out
    exact ⟨es, clock, (B2.out.block mb ml).trans hb', r⟩
  obtain ⟨q', hlk, hat, -⟩ := (hm2.drew).lookup_int (t := 91) lawC Try.underlying91 Try.underlying3 (zeroI _) (key_cell ix iy)
  have hqq : q' = (q : Int) := by
    rw [HC.out.at' X Y ix iy, hq] at hat
    injection hat with hat
    injection hat with _ hat
    exact hat.symm
  rw [hqq] at hlk
  have c0 := cell_of_row w2 _ 0 _ _ _ gk
  have c1' := cell_of_row w2 _ 1 _ _ _ gk
  have v0 := cell_of_row w2 _ 0 _ _ _ g2
  have v1 := cell_of_row w2 _ 1 _ _ _ g2
  unfold wkV at c0 c1'
  simp at c0 c1' v0 v1
  go_upto_region 1 with fail
  try rw [hw2]
  clear hw2
  have B3 := hide' (show Below B w w2.drew from (B0.out.trans (B2.out.mono (by omega))).drew)
  have tv : (((q : Int) - 1) + (L : Int)).tmod (L : Int) = (v : Int) := by
    rw [show ((q : Int) - 1) + (L : Int) = ((q + L - 1 : Nat) : Int) by omega, Int.tmod_eq_emod_of_nonneg (by omega), ← hv]; simp
  have PC := hide' (paint_any v kb tb mb n L B n63 ar ai rd id X Y ((q : Int) - 1) D col w2.drew gk hm2.drew HC.out ix iy (by omega) L26 (by omega) tv vL hB.1 (by show B ≤ w2.heap.size; have := LT.1; omega))
  have GK2 := hide' gk
  have G2 := hide' g2
  have HV := hide' hv
  have wq : IntKind.i64.wrap ((q : Int) - 1) = (q : Int) - 1 := by simp [IntKind.wrap, IntKind.bits, IntKind.signed]; omega
  clear gk g2 hm2 hqq hat tv
  go_region_with (go_at_call 43; refine PC.out.mono ?_; rintro e w4 ⟨rfl, ⟨D4, hm4, hc4⟩, k4, b4, s4⟩)
  all_goals
    have ml2 : w1.heap.size ≠ mb := by omega
    have gk4 := (k4 kb NE.out.2.1 (by show kb < w2.heap.size; have := LT0.1; omega)).trans GK2.out
    have g4 := (k4 w1.heap.size ml2 (by show w1.heap.size < w2.heap.size; omega)).trans G2.out
    have tb4 : w4.heap[tb]? = w.heap[tb]? := (k4 tb NE.out.2.2 (by show tb < w2.heap.size; have := LT0.2; omega)).trans ((B2.out.block tb LT0.2).trans (K0.out tb (fun e => NE.out.1 e.symm)))
    have tc : w4.cell? ⟨tb, v, none⟩ = some (tuV (t v)) := (World.cell?_of_block (w := w) (a := ⟨tb, v, none⟩) tb4).trans (TU.out v vL)
    rw [tuV_eq] at tc
    have s4' : w2.heap.size ≤ w4.heap.size := s4
    obtain ⟨q'', hlk4, hat4, -⟩ := (hm4.drew).lookup_int (t := 91) lawC Try.underlying91 Try.underlying3 (zeroI _) (key_cell ix iy)
    have hq4 : q'' = (v : Int) := by
      rw [hc4.at' X Y ix iy, show setA col X Y v X Y = v by simp [setA]] at hat4
      injection hat4 with hat4
      injection hat4 with _ hat4
      exact hat4.symm
    rw [hq4] at hlk4
    have e0 := cell_of_row w4 _ 0 _ _ _ gk4
    have e1 := cell_of_row w4 _ 1 _ _ _ gk4
    have e3 := cell_of_row w4 _ 3 _ _ _ gk4
    have u0 := cell_of_row w4 _ 0 _ _ _ g4
    have u1 := cell_of_row w4 _ 1 _ _ _ g4
    unfold wkV at e0 e1 e3
    simp at e0 e1 e3 u0 u1
    have f3 := frozen_of_row w4 _ 3 _ _ gk4
    have lk := lt_of_block gk4
    have qi : (v : Int) < (L : Int) := by omega
    have q0 : (0 : Int) ≤ (v : Int) := by omega
    have hneg := fun V => neg_tu (t v) V
    have hmul := fun t V => run_complex_mul (P := Try.prog) V t _ _ _ _ _ _ em
    have hst := fun V a m => run_store Try.prog V a (.complex .f64 re im) m rfl
    have FIN := hide' (show WK (w4.setCell ⟨kb, 3, none⟩ (.complex .f64 re im)).drew kb tb mb (n + 1) L t (undoA t L ⟨col, x, y, d⟩) ∧ Below B w (w4.setCell ⟨kb, 3, none⟩ (.complex .f64 re im)).drew from by
      have OU := HU.out
      rw [HS.out] at OU ⊢
      rw [hX, hY, hq, HV.out] at OU ⊢
      refine ⟨⟨⟨ar, ai, re, im, ?_, k1, k2, i1, i2⟩, fun c hc' => ?_, ⟨D4, ?_, hc4⟩, OU, NE.out, ?_⟩, ?_⟩
      · show (w4.setCell _ _).heap[kb]? = _
        rw [heap_setCell_same _ _ _ _ _ _ gk4]; rfl
      · have hb' : ((w4.setCell ⟨kb, 3, none⟩ (.complex .f64 re im)).drew).heap[tb]? = w.heap[tb]? := by
          show (w4.setCell _ _).heap[tb]? = _
          rw [Below.heap_setCell _ _ _ _ (by simpa using fun e => NE.out.1 e.symm), tb4]
        exact (World.cell?_of_block (w := w) (a := ⟨tb, c, none⟩) hb').trans (TU.out c hc')
      · exact (hm4.setCell (a := ⟨kb, 3, none⟩) (fun e => NE.out.2.1 e.symm) _).drew
      · refine ⟨?_, ?_⟩
        · show kb < (w4.setCell _ _).heap.size
          rw [World.size_setCell]; exact lk
        · show tb < (w4.setCell _ _).heap.size
          rw [World.size_setCell]; have := LT0.2; omega
      · exact ((B3.out.trans b4).setCell (by simp; omega) _).drew)
    clear gk4 hm4 hc4 k4 b4 s4 g4 tb4 c0 c1' v0 v1 hlk hat4 hq4
    go_upto_region 2 with fail
    go_region
    go_wp2
    go_end0
    exact ⟨rfl, FIN.out.1, FIN.out.2⟩
end Go.Proofs.Ytbkllhlapdmlfaa

namespace Go.Proofs.Ytbkllhlapdmlfaa
open Go.RowKit
set_option linter.unusedVariables false
theorem backA_near (T : Nat → Bool) (L : Nat) (s : AntS) (h : -1000000 ≤ s.x ∧ s.x ≤ 1000000 ∧ -1000000 ≤ s.y ∧ s.y ≤ 1000000) : ∀ i : Nat, -1000000 - (i : Int) ≤ (backA T L s i).x ∧ (backA T L s i).x ≤ 1000000 + (i : Int) ∧ -1000000 - (i : Int) ≤ (backA T L s i).y ∧ (backA T L s i).y ≤ 1000000 + (i : Int)
  | 0 => by show _ ≤ s.x ∧ s.x ≤ _ ∧ _ ≤ s.y ∧ s.y ≤ _; simpa using h
  | i + 1 => by
    have ih := backA_near T L s h i
    have dx := dx_near (backA T L s i).d
    have dy := dy_near (backA T L s i).d
    rw [backA]
    unfold undoA
    simp only
    push_cast
    omega
set_option maxRecDepth 100000 in
set_option maxHeartbeats 12800000 in
theorem antBack_good (o : Out) (a : Option Addr) (n c : Nat) (xs : List SpotT) (b : Option Addr) (m e : Nat) (x y : Int) (d k : Nat) (w : World) (hR : ArgR w o a n c) (hS : ArgS w xs b m e) (hok : AntOk o xs x y (d : Int) (k : Int)) :
    Calls Try.prog 13 #[.agg #[.int .i64 o.kind, .int .i64 o.born, .int .i64 o.stay, .int .i64 o.states, .int .i64 o.radius, .slice a n c, .string o.turns], .slice b m e, .agg #[.int .i64 x, .int .i64 y, .int .i64 (d : Int)], .int .i64 (k : Int)] w fun e' w' => ∃ ys g q, e' = .returned (.tuple #[.slice (some ⟨g, 0, none⟩) ys.length q, .agg #[.int .i64 (backA (trB o.turns) o.turns.size ⟨colT xs m, x, y, d⟩ k).x, .int .i64 (backA (trB o.turns) o.turns.size ⟨colT xs m, x, y, d⟩ k).y, .int .i64 ((backA (trB o.turns) o.turns.size ⟨colT xs m, x, y, d⟩ k).d : Int)], .nilIface]) ∧ ArgS w' ys (some ⟨g, 0, none⟩) ys.length q ∧ SpotsOut (backA (trB o.turns) o.turns.size ⟨colT xs m, x, y, d⟩ k).col ys ∧ Below w.heap.size w w' := by
  obtain ⟨hg, k3, sE, hxy, dn0, dn3, kn0, kn1⟩ := hok
  have hok : AntOk o xs x y (d : Int) (k : Int) := ⟨hg, k3, sE, hxy, dn0, dn3, kn0, kn1⟩
  obtain ⟨L1, L26, -⟩ : turnsP o.turns := by
    rcases hg with ⟨h, _⟩ | ⟨h, _⟩ | ⟨_, h, _⟩
    · omega
    · omega
    · exact h
  have ml := hS.len
  have mb' : m ≤ 4000004000001 := by rw [ml]; exact spots_few sE
  have d4 : d < 4 := by omega
  obtain ⟨w1, hw1⟩ : ∃ w1, ((w.alloc (.cells #[.int .i64 o.kind, .int .i64 o.born, .int .i64 o.stay, .int .i64 o.states, .int .i64 o.radius, .slice a n c, .string o.turns] 37)).alloc (.cells #[.int .i64 x, .int .i64 y, .int .i64 (d : Int)] 40)).alloc (.cells #[.int .i64 0, .int .i64 0, .int .i64 0] 40) = w1 := ⟨_, rfl⟩
  have BB := hide' (show Below w.heap.size w w1 by rw [← hw1]; repeat (first | exact Below.refl _ _ | refine Below.alloc ?_ (by simp; try omega) _))
  have g0 : w1.heap[w.heap.size]? = some (.cells #[.int .i64 o.kind, .int .i64 o.born, .int .i64 o.stay, .int .i64 o.states, .int .i64 o.radius, .slice a n c, .string o.turns] 37 (0, 0)) := by rw [← hw1, Below.heap_alloc _ _ _ (by simp; try omega), Below.heap_alloc _ _ _ (by simp; try omega)]; exact heap_atX _ _ _ (by simp)
  have g1 : w1.heap[w.heap.size + 1]? = some (.cells #[.int .i64 x, .int .i64 y, .int .i64 (d : Int)] 40 (0, 0)) := by rw [← hw1, Below.heap_alloc _ _ _ (by simp; try omega)]; exact heap_atX _ _ _ (by simp)
  have g2 : w1.heap[w.heap.size + 1 + 1]? = some (.cells #[.int .i64 0, .int .i64 0, .int .i64 0] 40 (0, 0)) := by rw [← hw1]; exact heap_atX _ _ _ (by simp)
  have z1 : w1.heap.size = w.heap.size + 1 + 1 + 1 := by rw [← hw1]; simp
  have SV := hide' (fun (V : World) (h : Below w1.heap.size w1 V) => show V.cell? ⟨w.heap.size, 0, none⟩ = some (.int .i64 o.kind) ∧ V.cell? ⟨w.heap.size, 1, none⟩ = some (.int .i64 o.born) ∧ V.cell? ⟨w.heap.size, 2, none⟩ = some (.int .i64 o.stay) ∧ V.cell? ⟨w.heap.size, 3, none⟩ = some (.int .i64 o.states) ∧ V.cell? ⟨w.heap.size, 4, none⟩ = some (.int .i64 o.radius) ∧ V.cell? ⟨w.heap.size, 5, none⟩ = some (.slice a n c) ∧ V.cell? ⟨w.heap.size, 6, none⟩ = some (.string o.turns) ∧ V.cell? ⟨w.heap.size + 1, 0, none⟩ = some (.int .i64 x) ∧ V.cell? ⟨w.heap.size + 1, 1, none⟩ = some (.int .i64 y) ∧ V.cell? ⟨w.heap.size + 1, 2, none⟩ = some (.int .i64 (d : Int)) from by
    have e1 := (h.block _ (lt_of_block g0)).trans g0
    have e2 := (h.block _ (lt_of_block g1)).trans g1
    exact ⟨cell_of_row V _ 0 _ _ _ e1, cell_of_row V _ 1 _ _ _ e1, cell_of_row V _ 2 _ _ _ e1, cell_of_row V _ 3 _ _ _ e1, cell_of_row V _ 4 _ _ _ e1, cell_of_row V _ 5 _ _ _ e1, cell_of_row V _ 6 _ _ _ e1, cell_of_row V _ 0 _ _ _ e2, cell_of_row V _ 1 _ _ _ e2, cell_of_row V _ 2 _ _ _ e2⟩)
  have RS := hide' (fun (V : World) (h : Below w1.heap.size w1 V) => show V.heap[w.heap.size + 1 + 1]? = some (.cells #[.int .i64 0, .int .i64 0, .int .i64 0] 40 (0, 0)) from (h.block _ (lt_of_block g2)).trans g2)
  have BW := hide' (fun (V : World) (h : Below w1.heap.size w1 V) => BB.out.trans (h.mono BB.out.size))
  have CK := hide' (checkWalk_any o a n c xs b m e x y (d : Int) (k : Int) w1 (hR.below BB.out) (hS.below BB.out))
  have BG' := hide' (fun (V : World) (h : Below w1.heap.size w1 V) => begin_any o.turns xs b m e x y d V (hS.below (BW.out V h)) L1 L26 sE hxy d4)
  have HOK := hide' hok
  have XY := hide' (near_iff hxy)
  obtain ⟨T, hT⟩ : ∃ T, trB o.turns = T := ⟨_, rfl⟩
  obtain ⟨L, hL⟩ : ∃ L, o.turns.size = L := ⟨_, rfl⟩
  obtain ⟨S0, hS0⟩ : ∃ S0 : AntS, S0 = ⟨colT xs m, x, y, d⟩ := ⟨_, rfl⟩
  rw [hT, hL, ← hS0] at BG' ⊢
  rw [hL] at L26
  have X0 := hide' (show -1000000 ≤ S0.x ∧ S0.x ≤ 1000000 ∧ -1000000 ≤ S0.y ∧ S0.y ≤ 1000000 by rw [hS0]; exact XY.out)
  have kl : k ≤ 100000 := by omega
  obtain ⟨c0, c1, c2, c3, c4, c5, c6, d0, d1, d2⟩ := SV.out w1 (Below.refl _ _)
  clear hR hS g0 g1 g2 hok hg k3 sE hxy hT hL hS0 dn0 dn3 kn0 kn1 XY L1 ml
  go_enter Try.func13, Try.ntmps13
  go_upto_region 1 with fail
  clear hw1
  go_wp2_with fail
  refine CK.out.mono ?_
  rintro e' w2 ⟨f, hf, rfl, b2⟩
  have f0 : f = 0 := by
    obtain ⟨q1, q2, q3, q4⟩ := HOK.out
    rcases hf with ⟨h1, _⟩ | ⟨_, h1, _⟩ | ⟨_, _, h1, h⟩ | ⟨_, _, _, h1, _⟩ | ⟨_, h⟩
    · exact absurd q1 h1
    · exact absurd q2 h1
    · exact absurd q3 h1
    · exact absurd q4 h1
    · exact h
  subst f0
  rw [show errOf 0 = .nilIface from rfl]
  have C2 := hide' b2
  clear c0 c1 c2 c3 c4 c5 c6 d0 d1 d2 hf b2
  obtain ⟨c0, c1, c2, c3, c4, c5, c6, d0, d1, d2⟩ := SV.out w2 C2.out
  go_wp2_with fail
  refine (BG'.out w2 C2.out).mono ?_
  rintro e' w3 ⟨kb, tb, mb, rfl, wk, ⟨ge1, ge2, ge3⟩, b3⟩
  have C3 := hide' (C2.out.trans (b3.mono C2.out.size))
  have WK0 := hide' wk
  have s2 := C2.out.size
  clear c0 c1 c2 c3 c4 c5 c6 d0 d1 d2 wk b3
  go_wp2
  go_loopw [28] (fun iv wr => ∃ i : Nat, iv = .int .i64 (i : Int) ∧ i ≤ k ∧ Hid (WK wr kb tb mb (m + i) L T (backA T L S0 i)) ∧ Hid (Below w1.heap.size w1 wr)) (fun iv _ => ((k : Int) - intOf iv).toNat)
  case atStart => exact ⟨0, by go_num, by omega, WK0, C3⟩
  case round =>
    obtain ⟨i, rfl, hi, HW, HB⟩ := hrel
    have NR := backA_near T L S0 X0.out i
    by_cases di : (i : Int) < (k : Int)
    · have ST := hide' (undo_anyA kb tb mb (m + i) L w1.heap.size T (backA T L S0 i) wr HW.out (by omega) (by omega) L26 (by omega) ⟨by omega, by omega, by omega⟩)
      clear NR
      go_wp2_with fail
      refine ST.out.mono ?_
      rintro e' w4 ⟨rfl, wk4, b4⟩
      have W4 := hide' (show WK w4 kb tb mb (m + (i + 1)) L T (backA T L S0 (i + 1)) from wk4)
      have B4 := hide' (HB.out.trans b4)
      clear wk4 b4
      go_wp2
      exact ⟨⟨i + 1, by go_num, by omega, W4, B4⟩, by simp [intOf]; omega⟩
    · have ik : i = k := by omega
      have HW' := HW.out
      rw [ik] at HW' NR
      have SP := hide' (spots_anyA kb tb mb (m + k) L T (backA T L S0 k) wr HW' (by omega))
      have WB := hide' HW'.bl
      have D4 := hide' HW'.ok.d
      have LT := hide' HW'.lt
      obtain ⟨st, hst⟩ : ∃ st, backA T L S0 k = st := ⟨_, rfl⟩
      rw [hst] at SP WB D4 NR
      have NRH := hide' NR
      have HST := hide' hst
      clear HW HW' hst ik NR
      go_wp2_with fail
      refine SP.out.mono ?_
      rintro e' w5 ⟨ys, g, q, rfl, ay, so, ⟨-, gge⟩, b5⟩
      have C5 := hide' (HB.out.trans (b5.mono HB.out.size))
      have WB5 := hide' (show WkB w5 kb tb mb L st.x st.y st.d from by
        obtain ⟨ra, ia, rd, id, hb, i1⟩ := WB.out.blk
        exact ⟨ra, ia, rd, id, (b5.block kb LT.out.1).trans hb, i1⟩)
      have WC := hide' (walker_any kb tb mb L st.d st.x st.y w5 WB5.out D4.out (by have := NRH.out; unfold inC; omega) (by have := NRH.out; unfold inC; omega))
      have AY := hide' ay
      have SO := hide' so
      clear ay so b5
      go_wp2_with fail
      refine WC.out.mono ?_
      rintro e' w6 ⟨rfl, b6⟩
      have C6 := hide' (C5.out.trans (b6.mono C5.out.size))
      have AY6 := hide' (AY.out.below b6)
      have e2 := RS.out w6 C6.out
      have r0 := cell_of_row w6 _ 0 _ _ _ e2
      have r1 := cell_of_row w6 _ 1 _ _ _ e2
      have r2 := cell_of_row w6 _ 2 _ _ _ e2
      simp at r0 r1 r2
      have f0 := frozen_of_row w6 _ 0 _ _ e2
      have f1 := frozen_of_row w6 _ 1 _ _ e2
      have f2 := frozen_of_row w6 _ 2 _ _ e2
      have l2 := lt_of_block e2
      have HBS := HB.out.size
      have gn : g ≠ w.heap.size + 1 + 1 := by omega
      have FIN := hide' (show ArgS ((((w6.setCell ⟨w.heap.size + 1 + 1, 0, none⟩ (.int .i64 st.x)).setCell ⟨w.heap.size + 1 + 1, 1, none⟩ (.int .i64 st.y)).setCell ⟨w.heap.size + 1 + 1, 2, none⟩ (.int .i64 (st.d : Int)))) ys (some ⟨g, 0, none⟩) ys.length q from
        ⟨rfl, AY6.out.max, fun k hk => by
          obtain ⟨g', off, e', hg', p0, p1, p2⟩ := AY6.out.cells k hk
          cases e'
          have hb : (((w6.setCell ⟨w.heap.size + 1 + 1, 0, none⟩ (.int .i64 st.x)).setCell ⟨w.heap.size + 1 + 1, 1, none⟩ (.int .i64 st.y)).setCell ⟨w.heap.size + 1 + 1, 2, none⟩ (.int .i64 (st.d : Int))).heap[g]? = w6.heap[g]? := by
            rw [Below.heap_setCell _ _ _ _ (by simpa using gn), Below.heap_setCell _ _ _ _ (by simpa using gn), Below.heap_setCell _ _ _ _ (by simpa using gn)]
          exact ⟨g, 0, rfl, by rw [World.size_setCell, World.size_setCell, World.size_setCell]; exact hg', (World.cell?_of_block (w := w6) (a := ⟨g, 0 + k * 3, none⟩) hb).trans p0, (World.cell?_of_block (w := w6) (a := ⟨g, 0 + k * 3 + 1, none⟩) hb).trans p1, (World.cell?_of_block (w := w6) (a := ⟨g, 0 + k * 3 + 2, none⟩) hb).trans p2⟩⟩)
      have BF := hide' ((((BW.out _ C6.out).setCell (show w.heap.size ≤ (⟨w.heap.size + 1 + 1, 0, none⟩ : Addr).block by simp; omega) (.int .i64 st.x)).setCell (show w.heap.size ≤ (⟨w.heap.size + 1 + 1, 1, none⟩ : Addr).block by simp; omega) (.int .i64 st.y)).setCell (show w.heap.size ≤ (⟨w.heap.size + 1 + 1, 2, none⟩ : Addr).block by simp; omega) (.int .i64 (st.d : Int)))
      clear b6 e2 gge gn HBS
      go_wp2
      refine bodyPost_ret (v := .tuple #[.slice (some ⟨g, 0, none⟩) ys.length q, .agg #[.int .i64 st.x, .int .i64 st.y, .int .i64 (st.d : Int)], .nilIface]) (by simp [results, Try.results13, go_sem, r0, r1, r2]) rfl ?_
      rw [HST.out]
      exact ⟨ys, g, q, rfl, FIN.out, SO.out, BF.out⟩
end Go.Proofs.Ytbkllhlapdmlfaa

