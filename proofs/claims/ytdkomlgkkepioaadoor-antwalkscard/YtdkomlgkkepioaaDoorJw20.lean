/-
  What the last text of this claim leans on, part 20: Af6, Ad1.
-/
import Derived.Test.YtdkomlgkkepioaaDoorJw11
namespace Go.Proofs.YtdkomlgkkepioaaDoor
open Go.RowKit
set_option linter.unusedVariables false
set_option linter.unusedSimpArgs false
set_option maxRecDepth 100000 in
set_option maxHeartbeats 1600000 in
theorem ahead_0p (x y : Int) (w : World) (hx : inC x) (hy : inC y) : Calls Tryd.prog 73 #[.agg #[.int .i64 x, .int .i64 y, .int .i64 0], .int .i64 1] w fun e w' => e = .returned (.agg #[.int .i64 (x), .int .i64 (y - 1), .int .i64 0]) ∧ Below w.heap.size w w' := by
  unfold inC at hx hy
  have a1 : wrap64 (x + 1) = x + 1 := by simp [wrap64]; omega
  have a2 : wrap64 (x - 1) = x - 1 := by simp [wrap64]; omega
  have a3 : wrap64 (y + 1) = y + 1 := by simp [wrap64]; omega
  have a4 : wrap64 (y - 1) = y - 1 := by simp [wrap64]; omega
  have b1 : x - -1 = x + 1 := by omega
  have b2 : x + -1 = x - 1 := by omega
  have b3 : y - -1 = y + 1 := by omega
  have b4 : y + -1 = y - 1 := by omega
  clear hx hy
  go_enter Tryd.func73, Tryd.ntmps73
  go_wp2
  refine bodyPost_ret (v := .agg #[.int .i64 (x), .int .i64 (y - 1), .int .i64 0]) (by simp [results, Tryd.results73, go_sem, a1, a2, a3, a4, b1, b2, b3, b4]) rfl ?_
  refine ⟨rfl, ?_⟩
  repeat (first | exact Below.refl _ _ | refine Below.setCell ?_ (by simp) _ | refine Below.alloc ?_ (by simp; try omega) _)
set_option maxRecDepth 100000 in
set_option maxHeartbeats 1600000 in
theorem ahead_0m (x y : Int) (w : World) (hx : inC x) (hy : inC y) : Calls Tryd.prog 73 #[.agg #[.int .i64 x, .int .i64 y, .int .i64 0], .int .i64 (-1)] w fun e w' => e = .returned (.agg #[.int .i64 (x), .int .i64 (y + 1), .int .i64 0]) ∧ Below w.heap.size w w' := by
  unfold inC at hx hy
  have a1 : wrap64 (x + 1) = x + 1 := by simp [wrap64]; omega
  have a2 : wrap64 (x - 1) = x - 1 := by simp [wrap64]; omega
  have a3 : wrap64 (y + 1) = y + 1 := by simp [wrap64]; omega
  have a4 : wrap64 (y - 1) = y - 1 := by simp [wrap64]; omega
  have b1 : x - -1 = x + 1 := by omega
  have b2 : x + -1 = x - 1 := by omega
  have b3 : y - -1 = y + 1 := by omega
  have b4 : y + -1 = y - 1 := by omega
  clear hx hy
  go_enter Tryd.func73, Tryd.ntmps73
  go_wp2
  refine bodyPost_ret (v := .agg #[.int .i64 (x), .int .i64 (y + 1), .int .i64 0]) (by simp [results, Tryd.results73, go_sem, a1, a2, a3, a4, b1, b2, b3, b4]) rfl ?_
  refine ⟨rfl, ?_⟩
  repeat (first | exact Below.refl _ _ | refine Below.setCell ?_ (by simp) _ | refine Below.alloc ?_ (by simp; try omega) _)
set_option maxRecDepth 100000 in
set_option maxHeartbeats 1600000 in
theorem ahead_1p (x y : Int) (w : World) (hx : inC x) (hy : inC y) : Calls Tryd.prog 73 #[.agg #[.int .i64 x, .int .i64 y, .int .i64 1], .int .i64 1] w fun e w' => e = .returned (.agg #[.int .i64 (x + 1), .int .i64 (y), .int .i64 1]) ∧ Below w.heap.size w w' := by
  unfold inC at hx hy
  have a1 : wrap64 (x + 1) = x + 1 := by simp [wrap64]; omega
  have a2 : wrap64 (x - 1) = x - 1 := by simp [wrap64]; omega
  have a3 : wrap64 (y + 1) = y + 1 := by simp [wrap64]; omega
  have a4 : wrap64 (y - 1) = y - 1 := by simp [wrap64]; omega
  have b1 : x - -1 = x + 1 := by omega
  have b2 : x + -1 = x - 1 := by omega
  have b3 : y - -1 = y + 1 := by omega
  have b4 : y + -1 = y - 1 := by omega
  clear hx hy
  go_enter Tryd.func73, Tryd.ntmps73
  go_wp2
  refine bodyPost_ret (v := .agg #[.int .i64 (x + 1), .int .i64 (y), .int .i64 1]) (by simp [results, Tryd.results73, go_sem, a1, a2, a3, a4, b1, b2, b3, b4]) rfl ?_
  refine ⟨rfl, ?_⟩
  repeat (first | exact Below.refl _ _ | refine Below.setCell ?_ (by simp) _ | refine Below.alloc ?_ (by simp; try omega) _)
set_option maxRecDepth 100000 in
set_option maxHeartbeats 1600000 in
theorem ahead_1m (x y : Int) (w : World) (hx : inC x) (hy : inC y) : Calls Tryd.prog 73 #[.agg #[.int .i64 x, .int .i64 y, .int .i64 1], .int .i64 (-1)] w fun e w' => e = .returned (.agg #[.int .i64 (x - 1), .int .i64 (y), .int .i64 1]) ∧ Below w.heap.size w w' := by
  unfold inC at hx hy
  have a1 : wrap64 (x + 1) = x + 1 := by simp [wrap64]; omega
  have a2 : wrap64 (x - 1) = x - 1 := by simp [wrap64]; omega
  have a3 : wrap64 (y + 1) = y + 1 := by simp [wrap64]; omega
  have a4 : wrap64 (y - 1) = y - 1 := by simp [wrap64]; omega
  have b1 : x - -1 = x + 1 := by omega
  have b2 : x + -1 = x - 1 := by omega
  have b3 : y - -1 = y + 1 := by omega
  have b4 : y + -1 = y - 1 := by omega
  clear hx hy
  go_enter Tryd.func73, Tryd.ntmps73
  go_wp2
  refine bodyPost_ret (v := .agg #[.int .i64 (x - 1), .int .i64 (y), .int .i64 1]) (by simp [results, Tryd.results73, go_sem, a1, a2, a3, a4, b1, b2, b3, b4]) rfl ?_
  refine ⟨rfl, ?_⟩
  repeat (first | exact Below.refl _ _ | refine Below.setCell ?_ (by simp) _ | refine Below.alloc ?_ (by simp; try omega) _)
set_option maxRecDepth 100000 in
set_option maxHeartbeats 1600000 in
theorem ahead_2p (x y : Int) (w : World) (hx : inC x) (hy : inC y) : Calls Tryd.prog 73 #[.agg #[.int .i64 x, .int .i64 y, .int .i64 2], .int .i64 1] w fun e w' => e = .returned (.agg #[.int .i64 (x), .int .i64 (y + 1), .int .i64 2]) ∧ Below w.heap.size w w' := by
  unfold inC at hx hy
  have a1 : wrap64 (x + 1) = x + 1 := by simp [wrap64]; omega
  have a2 : wrap64 (x - 1) = x - 1 := by simp [wrap64]; omega
  have a3 : wrap64 (y + 1) = y + 1 := by simp [wrap64]; omega
  have a4 : wrap64 (y - 1) = y - 1 := by simp [wrap64]; omega
  have b1 : x - -1 = x + 1 := by omega
  have b2 : x + -1 = x - 1 := by omega
  have b3 : y - -1 = y + 1 := by omega
  have b4 : y + -1 = y - 1 := by omega
  clear hx hy
  go_enter Tryd.func73, Tryd.ntmps73
  go_wp2
  refine bodyPost_ret (v := .agg #[.int .i64 (x), .int .i64 (y + 1), .int .i64 2]) (by simp [results, Tryd.results73, go_sem, a1, a2, a3, a4, b1, b2, b3, b4]) rfl ?_
  refine ⟨rfl, ?_⟩
  repeat (first | exact Below.refl _ _ | refine Below.setCell ?_ (by simp) _ | refine Below.alloc ?_ (by simp; try omega) _)
set_option maxRecDepth 100000 in
set_option maxHeartbeats 1600000 in
theorem ahead_2m (x y : Int) (w : World) (hx : inC x) (hy : inC y) : Calls Tryd.prog 73 #[.agg #[.int .i64 x, .int .i64 y, .int .i64 2], .int .i64 (-1)] w fun e w' => e = .returned (.agg #[.int .i64 (x), .int .i64 (y - 1), .int .i64 2]) ∧ Below w.heap.size w w' := by
  unfold inC at hx hy
  have a1 : wrap64 (x + 1) = x + 1 := by simp [wrap64]; omega
  have a2 : wrap64 (x - 1) = x - 1 := by simp [wrap64]; omega
  have a3 : wrap64 (y + 1) = y + 1 := by simp [wrap64]; omega
  have a4 : wrap64 (y - 1) = y - 1 := by simp [wrap64]; omega
  have b1 : x - -1 = x + 1 := by omega
  have b2 : x + -1 = x - 1 := by omega
  have b3 : y - -1 = y + 1 := by omega
  have b4 : y + -1 = y - 1 := by omega
  clear hx hy
  go_enter Tryd.func73, Tryd.ntmps73
  go_wp2
  refine bodyPost_ret (v := .agg #[.int .i64 (x), .int .i64 (y - 1), .int .i64 2]) (by simp [results, Tryd.results73, go_sem, a1, a2, a3, a4, b1, b2, b3, b4]) rfl ?_
  refine ⟨rfl, ?_⟩
  repeat (first | exact Below.refl _ _ | refine Below.setCell ?_ (by simp) _ | refine Below.alloc ?_ (by simp; try omega) _)
set_option maxRecDepth 100000 in
set_option maxHeartbeats 1600000 in
theorem ahead_3p (x y : Int) (w : World) (hx : inC x) (hy : inC y) : Calls Tryd.prog 73 #[.agg #[.int .i64 x, .int .i64 y, .int .i64 3], .int .i64 1] w fun e w' => e = .returned (.agg #[.int .i64 (x - 1), .int .i64 (y), .int .i64 3]) ∧ Below w.heap.size w w' := by
  unfold inC at hx hy
  have a1 : wrap64 (x + 1) = x + 1 := by simp [wrap64]; omega
  have a2 : wrap64 (x - 1) = x - 1 := by simp [wrap64]; omega
  have a3 : wrap64 (y + 1) = y + 1 := by simp [wrap64]; omega
  have a4 : wrap64 (y - 1) = y - 1 := by simp [wrap64]; omega
  have b1 : x - -1 = x + 1 := by omega
  have b2 : x + -1 = x - 1 := by omega
  have b3 : y - -1 = y + 1 := by omega
  have b4 : y + -1 = y - 1 := by omega
  clear hx hy
  go_enter Tryd.func73, Tryd.ntmps73
  go_wp2
  refine bodyPost_ret (v := .agg #[.int .i64 (x - 1), .int .i64 (y), .int .i64 3]) (by simp [results, Tryd.results73, go_sem, a1, a2, a3, a4, b1, b2, b3, b4]) rfl ?_
  refine ⟨rfl, ?_⟩
  repeat (first | exact Below.refl _ _ | refine Below.setCell ?_ (by simp) _ | refine Below.alloc ?_ (by simp; try omega) _)
set_option maxRecDepth 100000 in
set_option maxHeartbeats 1600000 in
theorem ahead_3m (x y : Int) (w : World) (hx : inC x) (hy : inC y) : Calls Tryd.prog 73 #[.agg #[.int .i64 x, .int .i64 y, .int .i64 3], .int .i64 (-1)] w fun e w' => e = .returned (.agg #[.int .i64 (x + 1), .int .i64 (y), .int .i64 3]) ∧ Below w.heap.size w w' := by
  unfold inC at hx hy
  have a1 : wrap64 (x + 1) = x + 1 := by simp [wrap64]; omega
  have a2 : wrap64 (x - 1) = x - 1 := by simp [wrap64]; omega
  have a3 : wrap64 (y + 1) = y + 1 := by simp [wrap64]; omega
  have a4 : wrap64 (y - 1) = y - 1 := by simp [wrap64]; omega
  have b1 : x - -1 = x + 1 := by omega
  have b2 : x + -1 = x - 1 := by omega
  have b3 : y - -1 = y + 1 := by omega
  have b4 : y + -1 = y - 1 := by omega
  clear hx hy
  go_enter Tryd.func73, Tryd.ntmps73
  go_wp2
  refine bodyPost_ret (v := .agg #[.int .i64 (x + 1), .int .i64 (y), .int .i64 3]) (by simp [results, Tryd.results73, go_sem, a1, a2, a3, a4, b1, b2, b3, b4]) rfl ?_
  refine ⟨rfl, ?_⟩
  repeat (first | exact Below.refl _ _ | refine Below.setCell ?_ (by simp) _ | refine Below.alloc ?_ (by simp; try omega) _)
end Go.Proofs.YtdkomlgkkepioaaDoor

namespace Go.Proofs.YtdkomlgkkepioaaDoor
open Go.RowKit
set_option linter.unusedVariables false
theorem IsI_mzero : IsI 9223372036854775808 0 := by
  refine ⟨true, 0, -1074, by decide +kernel, by decide, by rw [Int.zero_mul]; rfl⟩
theorem neg_tu (b : Bool) (w : World) : (Go.Op.unary .neg (.complex .f64 0 (tuN b))).run Tryd.prog w = .ok (.complex .f64 9223372036854775808 (tuN (!b))) w := by
  cases b <;> kernel_rfl
theorem turn_mulB (t : Nat → Bool) (c : Nat) {d : Nat} (h : d < 4) : dxA d * 0 - -(dyA d) * (if (!t c) = true then -1 else 1) = dxA (bckA t c d) ∧ dxA d * (if (!t c) = true then -1 else 1) + -(dyA d) * 0 = -(dyA (bckA t c d)) := by
  unfold bckA
  rcases (by omega : d = 0 ∨ d = 1 ∨ d = 2 ∨ d = 3) with rfl | rfl | rfl | rfl <;> cases t c <;> simp [dxA, dyA]
set_option maxRecDepth 100000 in
set_option maxHeartbeats 12800000 in
theorem undo_anyA (kb tb mb n L B : Nat) (t : Nat → Bool) (s : AntS) (w : World) (h : WK w kb tb mb n L t s) (hx : -2000000 ≤ s.x ∧ s.x ≤ 2000000) (hy : -2000000 ≤ s.y ∧ s.y ≤ 2000000) (L26 : L ≤ 26) (n63 : n < 4611686018427387904) (hB : B ≤ mb ∧ B ≤ kb ∧ B ≤ tb) :
    Calls Tryd.prog 72 #[.pointer (some ⟨kb, 0, none⟩)] w fun e w' => e = .returned (.tuple #[]) ∧ WK w' kb tb mb (n + 1) L t (undoA t L s) ∧ Below B w w' := by
  obtain ⟨col, x, y, d⟩ := s
  obtain ⟨ra, ia, rd, id, hb, j1, j2, j3, j4⟩ := h.bl.blk
  obtain ⟨D, hm, hc⟩ := h.mp
  simp only at hb j1 j2 j3 j4 hc hx hy
  have OK := h.ok
  have d4 : d < 4 := OK.d
  have nx := dx_near d
  have ny := dy_near d
  obtain ⟨ar, ai, ea, k1, k2⟩ := csub_gen j1 j2 j3 j4 (by omega) (by omega)
  rw [show -y - -(dyA d) = -(y - dyA d) by omega] at k2
  have HU := hide' (undo_ok (t := t) OK)
  have HS : Hid (undoA t L ⟨col, x, y, d⟩ = { col := setA col (x - dxA d) (y - dyA d) ((col (x - dxA d) (y - dyA d) + L - 1) % L), x := x - dxA d, y := y - dyA d, d := bckA t ((col (x - dxA d) (y - dyA d) + L - 1) % L) d }) := hide' rfl
  have ix : inC (x - dxA d) := by unfold inC; omega
  have iy : inC (y - dyA d) := by unfold inC; omega
  obtain ⟨X, hX⟩ : ∃ X, x - dxA d = X := ⟨_, rfl⟩
  obtain ⟨Y, hY⟩ : ∃ Y, y - dyA d = Y := ⟨_, rfl⟩
  rw [hX] at k1 ix
  rw [hY] at k2 iy
  have c1 : col X Y < L := OK.col X Y
  obtain ⟨q, hq⟩ : ∃ q, col X Y = q := ⟨_, rfl⟩
  rw [hq] at c1
  obtain ⟨v, hv⟩ : ∃ v, (q + L - 1) % L = v := ⟨_, rfl⟩
  have vL : v < L := by rw [← hv]; exact Nat.mod_lt _ (by omega)
  obtain ⟨re, im, em, i1, i2⟩ := cmul_gen j3 j4 IsI_mzero (IsI_tu (!t v)) nx (by omega) (by omega) (by cases t v <;> simp)
  rw [(turn_mulB t v d4).1] at i1
  rw [(turn_mulB t v d4).2] at i2
  have LT := h.lt
  have NE := hide' h.ne
  have TU := hide' h.tu
  have HM := hide' hm
  have HC := hide' hc
  have gk := hb
  have c2 := cell_of_row w _ 2 _ _ _ gk
  have c3 := cell_of_row w _ 3 _ _ _ gk
  unfold wkV at c2 c3
  simp at c2 c3
  have f2 := frozen_of_row w _ 2 _ _ gk
  have lk := lt_of_block gk
  have hsub := fun t V => run_complex_sum (P := Tryd.prog) V .sub (Or.inr rfl) t .f64 _ _ _ _ _ _ ea
  have hst := fun V a m => run_store Tryd.prog V a (.complex .f64 ar ai) m rfl
  obtain ⟨w0, hw0⟩ : ∃ w0, (w.setCell ⟨kb, 2, none⟩ (.complex .f64 ar ai)).drew = w0 := ⟨_, rfl⟩
  have GK := hide' gk
  clear h hb gk
  go_enter Tryd.func72, Tryd.ntmps72
  go_upto_region 0 with fail
  go_region
  have z0 : w0.heap.size = w.heap.size := by rw [← hw0]; exact World.size_setCell _ _ _
  have gk0 : w0.heap[kb]? = some (.cells (wkV tb L mb ar ai rd id) 214 (0, 0)) := by rw [← hw0]; show (w.setCell _ _).heap[kb]? = _; rw [heap_setCell_same _ _ _ _ _ _ GK.out]; rfl
  have k0 : ∀ j, j ≠ kb → w0.heap[j]? = w.heap[j]? := fun j hj => by rw [← hw0]; show (w.setCell _ _).heap[j]? = _; exact Below.heap_setCell _ _ _ _ (by simpa using hj)
  have hm0 : w0.ownsMap Tryd.prog 216 (plainElem Tryd.prog 3) mb n D := by
    obtain ⟨es, clock, hb', r⟩ := HM.out
    exact ⟨es, clock, (k0 mb (fun e => NE.out.2.1 e.symm)).trans hb', r⟩
  have HR := hide' (here_any kb tb mb L d X Y w0 ⟨⟨ar, ai, rd, id, gk0, k1, k2, j3, j4⟩⟩ ix iy)
  have B0 := hide' (show Below B w w0 by rw [← hw0]; exact ((Below.refl B w).setCell (by simp; omega) _).drew)
  have GK0 := hide' gk0
  have K0 := hide' k0
  have HM0 := hide' hm0
  have LT0 : kb < w0.heap.size ∧ tb < w0.heap.size := by rw [z0]; exact LT
  clear hw0 c2 c3 f2 lk hsub hst gk0 k0 hm0
  go_wp2_with fail
  refine HR.out.mono ?_
  rintro e w1 ⟨rfl, b1⟩
  obtain ⟨w2, hw2⟩ : ∃ w2, w1.alloc (.cells #[.int .i64 X, .int .i64 Y] 216) = w2 := ⟨_, rfl⟩
  have s1 := b1.size
  have B2 := hide' (show Below w0.heap.size w0 w2 by rw [← hw2]; exact b1.alloc s1 _)
  have z2 : w2.heap.size = w1.heap.size + 1 := by rw [← hw2]; simp
  have g2 : w2.heap[w1.heap.size]? = some (.cells #[.int .i64 X, .int .i64 Y] 216 (0, 0)) := by rw [← hw2]; exact heap_alloc_new _ _
  have gk : w2.heap[kb]? = _ := (B2.out.block kb LT0.1).trans GK0.out
  have ml := HM0.out.lt
  have hm2 : w2.ownsMap Tryd.prog 216 (plainElem Tryd.prog 3) mb n D := by
    obtain ⟨es, clock, hb', r⟩ := HM0.out
    exact ⟨es, clock, (B2.out.block mb ml).trans hb', r⟩
  obtain ⟨q', hlk, hat, -⟩ := (hm2.drew).lookup_int (t := 211) lawC Tryd.underlying211 Tryd.underlying3 (zeroI _) (key_cell ix iy)
  have hqq : q' = (q : Int) := by
    rw [HC.out.at' X Y ix iy, hq] at hat
    injection hat with hat
    injection hat with _ hat
    exact hat.symm
  rw [hqq] at hlk
  have c0 := cell_of_row w2 _ 0 _ _ _ gk
  have c1' := cell_of_row w2 _ 1 _ _ _ gk
  have v0 := cell_of_row w2 _ 0 _ _ _ g2
  have v1 := cell_of_row w2 _ 1 _ _ _ g2
  unfold wkV at c0 c1'
  simp at c0 c1' v0 v1
  go_upto_region 1 with fail
  try rw [hw2]
  clear hw2
  have B3 := hide' (show Below B w w2.drew from (B0.out.trans (B2.out.mono (by omega))).drew)
  have tv : (((q : Int) - 1) + (L : Int)).tmod (L : Int) = (v : Int) := by
    rw [show ((q : Int) - 1) + (L : Int) = ((q + L - 1 : Nat) : Int) by omega, Int.tmod_eq_emod_of_nonneg (by omega), ← hv]; simp
  have PC := hide' (paint_any v kb tb mb n L B n63 ar ai rd id X Y ((q : Int) - 1) D col w2.drew gk hm2.drew HC.out ix iy (by omega) L26 (by omega) tv vL hB.1 (by show B ≤ w2.heap.size; have := LT.1; omega))
  have GK2 := hide' gk
  have G2 := hide' g2
  have HV := hide' hv
  have wq : IntKind.i64.wrap ((q : Int) - 1) = (q : Int) - 1 := by simp [IntKind.wrap, IntKind.bits, IntKind.signed]; omega
  clear gk g2 hm2 hqq hat tv
  go_region_with (go_at_call 120; refine PC.out.mono ?_; rintro e w4 ⟨rfl, ⟨D4, hm4, hc4⟩, k4, b4, s4⟩)
  all_goals
    have ml2 : w1.heap.size ≠ mb := by omega
    have gk4 := (k4 kb NE.out.2.1 (by show kb < w2.heap.size; have := LT0.1; omega)).trans GK2.out
    have g4 := (k4 w1.heap.size ml2 (by show w1.heap.size < w2.heap.size; omega)).trans G2.out
    have tb4 : w4.heap[tb]? = w.heap[tb]? := (k4 tb NE.out.2.2 (by show tb < w2.heap.size; have := LT0.2; omega)).trans ((B2.out.block tb LT0.2).trans (K0.out tb (fun e => NE.out.1 e.symm)))
    have tc : w4.cell? ⟨tb, v, none⟩ = some (tuV (t v)) := (World.cell?_of_block (w := w) (a := ⟨tb, v, none⟩) tb4).trans (TU.out v vL)
    rw [tuV_eq] at tc
    have s4' : w2.heap.size ≤ w4.heap.size := s4
    obtain ⟨q'', hlk4, hat4, -⟩ := (hm4.drew).lookup_int (t := 211) lawC Tryd.underlying211 Tryd.underlying3 (zeroI _) (key_cell ix iy)
    have hq4 : q'' = (v : Int) := by
      rw [hc4.at' X Y ix iy, show setA col X Y v X Y = v by simp [setA]] at hat4
      injection hat4 with hat4
      injection hat4 with _ hat4
      exact hat4.symm
    rw [hq4] at hlk4
    have e0 := cell_of_row w4 _ 0 _ _ _ gk4
    have e1 := cell_of_row w4 _ 1 _ _ _ gk4
    have e3 := cell_of_row w4 _ 3 _ _ _ gk4
    have u0 := cell_of_row w4 _ 0 _ _ _ g4
    have u1 := cell_of_row w4 _ 1 _ _ _ g4
    unfold wkV at e0 e1 e3
    simp at e0 e1 e3 u0 u1
    have f3 := frozen_of_row w4 _ 3 _ _ gk4
    have lk := lt_of_block gk4
    have qi : (v : Int) < (L : Int) := by omega
    have q0 : (0 : Int) ≤ (v : Int) := by omega
    have hneg := fun V => neg_tu (t v) V
    have hmul := fun t V => run_complex_mul (P := Tryd.prog) V t _ _ _ _ _ _ em
    have hst := fun V a m => run_store Tryd.prog V a (.complex .f64 re im) m rfl
    have FIN := hide' (show WK (w4.setCell ⟨kb, 3, none⟩ (.complex .f64 re im)).drew kb tb mb (n + 1) L t (undoA t L ⟨col, x, y, d⟩) ∧ Below B w (w4.setCell ⟨kb, 3, none⟩ (.complex .f64 re im)).drew from by
      have OU := HU.out
      rw [HS.out] at OU ⊢
      rw [hX, hY, hq, HV.out] at OU ⊢
      refine ⟨⟨⟨ar, ai, re, im, ?_, k1, k2, i1, i2⟩, fun c hc' => ?_, ⟨D4, ?_, hc4⟩, OU, NE.out, ?_⟩, ?_⟩
      · show (w4.setCell _ _).heap[kb]? = _
        rw [heap_setCell_same _ _ _ _ _ _ gk4]; rfl
      · have hb' : ((w4.setCell ⟨kb, 3, none⟩ (.complex .f64 re im)).drew).heap[tb]? = w.heap[tb]? := by
          show (w4.setCell _ _).heap[tb]? = _
          rw [Below.heap_setCell _ _ _ _ (by simpa using fun e => NE.out.1 e.symm), tb4]
        exact (World.cell?_of_block (w := w) (a := ⟨tb, c, none⟩) hb').trans (TU.out c hc')
      · exact (hm4.setCell (a := ⟨kb, 3, none⟩) (fun e => NE.out.2.1 e.symm) _).drew
      · refine ⟨?_, ?_⟩
        · show kb < (w4.setCell _ _).heap.size
          rw [World.size_setCell]; exact lk
        · show tb < (w4.setCell _ _).heap.size
          rw [World.size_setCell]; have := LT0.2; omega
      · exact ((B3.out.trans b4).setCell (by simp; omega) _).drew)
    clear gk4 hm4 hc4 k4 b4 s4 g4 tb4 c0 c1' v0 v1 hlk hat4 hq4
    go_upto_region 2 with fail
    go_region
    go_wp2
    go_end0
    exact ⟨rfl, FIN.out.1, FIN.out.2⟩
end Go.Proofs.YtdkomlgkkepioaaDoor

