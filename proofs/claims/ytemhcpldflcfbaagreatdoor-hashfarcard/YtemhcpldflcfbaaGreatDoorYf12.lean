/-
  What the last text of this claim leans on, part 12: Hc2, Hc3.
-/
import Derived.Test.YtemhcpldflcfbaaGreatDoorYf11
namespace Go.Proofs.YtemhcpldflcfbaaGreatDoor
open Go.RowKit
set_option linter.unusedVariables false
def arr16 (f : Nat → Nat) : Array Value := #[.int .i32 ((f 0 : Nat) : Int), .int .i32 ((f 1 : Nat) : Int), .int .i32 ((f 2 : Nat) : Int), .int .i32 ((f 3 : Nat) : Int), .int .i32 ((f 4 : Nat) : Int), .int .i32 ((f 5 : Nat) : Int), .int .i32 ((f 6 : Nat) : Int), .int .i32 ((f 7 : Nat) : Int), .int .i32 ((f 8 : Nat) : Int), .int .i32 ((f 9 : Nat) : Int), .int .i32 ((f 10 : Nat) : Int), .int .i32 ((f 11 : Nat) : Int), .int .i32 ((f 12 : Nat) : Int), .int .i32 ((f 13 : Nat) : Int), .int .i32 ((f 14 : Nat) : Int), .int .i32 ((f 15 : Nat) : Int)]
theorem set16 {f : Nat → Nat} {i v : Nat} (hi : i < 16) : (arr16 f).setIfInBounds i (.int .i32 (v : Int)) = arr16 (fun j => if j = i then v else f j) := by
 have : i = 0 ∨ i = 1 ∨ i = 2 ∨ i = 3 ∨ i = 4 ∨ i = 5 ∨ i = 6 ∨ i = 7 ∨ i = 8 ∨ i = 9 ∨ i = 10 ∨ i = 11 ∨ i = 12 ∨ i = 13 ∨ i = 14 ∨ i = 15 := by omega
 rcases this with rfl | rfl | rfl | rfl | rfl | rfl | rfl | rfl | rfl | rfl | rfl | rfl | rfl | rfl | rfl | rfl <;> rfl
theorem get16 {f : Nat → Nat} {i : Nat} (hi : i < 16) : (arr16 f)[i]? = some (.int .i32 (f i : Int)) := by
 have : i = 0 ∨ i = 1 ∨ i = 2 ∨ i = 3 ∨ i = 4 ∨ i = 5 ∨ i = 6 ∨ i = 7 ∨ i = 8 ∨ i = 9 ∨ i = 10 ∨ i = 11 ∨ i = 12 ∨ i = 13 ∨ i = 14 ∨ i = 15 := by omega
 rcases this with rfl | rfl | rfl | rfl | rfl | rfl | rfl | rfl | rfl | rfl | rfl | rfl | rfl | rfl | rfl | rfl <;> rfl
theorem ext16 {f g : Nat → Nat} (h : ∀ j, j < 16 → f j = g j) : arr16 f = arr16 g := by
 unfold arr16
 rw [h 0 (by omega), h 1 (by omega), h 2 (by omega), h 3 (by omega), h 4 (by omega), h 5 (by omega), h 6 (by omega), h 7 (by omega), h 8 (by omega), h 9 (by omega), h 10 (by omega), h 11 (by omega), h 12 (by omega), h 13 (by omega), h 14 (by omega), h 15 (by omega)]
def GrQ (qs : List Sq) (t i : Nat) (og : Nat → Nat) : Prop := ∀ j, j < 16 → j / 8 * 2 + j % 4 / 2 < i → og j = gridQ qs t j
theorem GrQ.step {qs : List Sq} {t i c : Nat} {og : Nat → Nat} (h : GrQ qs t i og) (hi : i < 4) (hc : c = i / 2 * 8 + i % 2 * 2) : GrQ qs t (i + 1) (fun j => if j = c + 5 then (sqA qs (prt (sqA qs t) i)).d else if j = c + 4 then (sqA qs (prt (sqA qs t) i)).c else if j = c + 1 then (sqA qs (prt (sqA qs t) i)).b else if j = c then (sqA qs (prt (sqA qs t) i)).a else og j) := by
 intro j hj hq
 subst hc
 by_cases e : j / 8 * 2 + j % 4 / 2 = i
 ·subst e
  have : j = 0 ∨ j = 1 ∨ j = 2 ∨ j = 3 ∨ j = 4 ∨ j = 5 ∨ j = 6 ∨ j = 7 ∨ j = 8 ∨ j = 9 ∨ j = 10 ∨ j = 11 ∨ j = 12 ∨ j = 13 ∨ j = 14 ∨ j = 15 := by omega
  rcases this with rfl | rfl | rfl | rfl | rfl | rfl | rfl | rfl | rfl | rfl | rfl | rfl | rfl | rfl | rfl | rfl <;> simp [gridQ, prt]
 ·simp only []
  rw [if_neg (by omega), if_neg (by omega), if_neg (by omega), if_neg (by omega)]
  exact h j hj (by omega)
def GdP (qs : List Sq) (t : Nat) (w : World) (e : Ending) (w' : World) : Prop := e = .returned (.agg (arr16 (gridQ qs t))) ∧ Below w.heap.size w w'
set_option maxRecDepth 100000 in
set_option maxHeartbeats 6400000 in
theorem grid_stk {mp : Option (Nat × Nat)} (sb B g cap : Nat) (qs : List Sq) (t : Nat) (w : World) (h : StkA w sb B g cap qs mp) (ht : t < qs.length) (hp : ∀ i, prt (sqA qs t) i < qs.length) :
  Calls Tryz.prog 82 #[.pointer (some ⟨sb, 0, none⟩), .int .i32 (t : Int)] w (GdP qs t w) := by
 have HK := hide' h
 have HT := hide' ht
 have HP := hide' hp
 obtain ⟨rb, hrb⟩ : ∃ rb, w.heap.size = rb := ⟨_, rfl⟩
 obtain ⟨w2, hw2⟩ : ∃ w2, (w.alloc (.cells #[.int .i32 0, .int .i32 0, .int .i32 0, .int .i32 0, .int .i32 0, .int .i32 0, .int .i32 0, .int .i32 0, .int .i32 0, .int .i32 0, .int .i32 0, .int .i32 0, .int .i32 0, .int .i32 0, .int .i32 0, .int .i32 0] 154)).alloc (.cells #[.int .i32 0, .int .i32 0, .int .i32 0, .int .i32 0, .int .i32 0, .int .i32 0, .int .i32 0, .int .i32 0, .int .i32 0, .int .i32 0, .int .i32 0, .int .i32 0, .int .i32 0, .int .i32 0, .int .i32 0, .int .i32 0] 154) = w2 := ⟨_, rfl⟩
 have HW2 := hide' hw2
 have HRB := hide' hrb
 have B2 := hide' (show Below w.heap.size w w2 by rw [← hw2]; exact ((Below.refl _ _).alloc (Nat.le_refl _) _).alloc (by simp) _)
 have R2 := hide' (show w2.heap[rb]? = some (.cells (arr16 fun _ => 0) 154 (0, 0)) by rw [← hw2, ← hrb]; exact (heap_alloc_old _ _ (by simp)).trans (heap_alloc_new w _))
 have O2 := hide' (show w2.heap[rb + 1]? = some (.cells (arr16 fun _ => 0) 154 (0, 0)) by rw [← hw2]; exact heap_atX _ _ _ (by simp [hrb]))
 have Z2 := hide' (show w2.heap.size = rb + 2 by rw [← hw2]; simp [hrb])
 have K2 := hide' (h.below B2.out)
 obtain ⟨qn, hqn⟩ : ∃ n, qs.length = n := ⟨_, rfl⟩
 have HQN := hide' hqn
 obtain ⟨p0, hp0⟩ : ∃ p, (sqA qs t).a = p := ⟨_, rfl⟩
 obtain ⟨p1, hp1⟩ : ∃ p, (sqA qs t).b = p := ⟨_, rfl⟩
 obtain ⟨p2, hp2⟩ : ∃ p, (sqA qs t).c = p := ⟨_, rfl⟩
 obtain ⟨p3, hp3⟩ : ∃ p, (sqA qs t).d = p := ⟨_, rfl⟩
 have HPP := hide' (And.intro hp0 (And.intro hp1 (And.intro hp2 hp3)))
 have IX := hide' (fun (i : Nat) (hi : i < 4) (V : World) => index_p4 (a := p0) (b := p1) (c := p2) (d := p3) hi V)
 clear hw2 hrb h ht hp hqn hp0 hp1 hp2 hp3
 go_enter Tryz.func82, Tryz.ntmps82
 go_upto_region 2 with fail
 rw [HW2.out, HRB.out]
 have c0 := K2.out.c0
 obtain ⟨q0, q1, q2, q3, -, -⟩ := K2.out.cells HT.out
 have lt := HT.out
 rw [HQN.out] at c0 lt
 rw [HPP.out.1] at q0
 rw [HPP.out.2.1] at q1
 rw [HPP.out.2.2.1] at q2
 rw [HPP.out.2.2.2] at q3
 have l1 : (t : Int) < (qn : Int) := by omega
 go_wp2
 clear c0 q0 q1 q2 q3 l1 lt
 go_loopw [18] (fun iv wr => ∃ (i : Nat) (og : Nat → Nat), iv = .int .i64 (i : Int) ∧ i ≤ 4 ∧ Hid (wr.heap[rb + 1]? = some (.cells (arr16 og) 154 (0, 0))) ∧ Hid (GrQ qs t i og) ∧ Hid (KpW (rb + 1) w2 wr)) (fun iv _ => 4 - (intOf iv).toNat)
 case atStart => exact ⟨0, _, rfl, by omega, O2, hide' (fun j _ h => absurd h (by omega)), hide' (KpW.of_below (Below.refl _ _))⟩
 case round =>
  obtain ⟨i, og, rfl, hi, HO, HGQ, HKP⟩ := hrel
  by_cases di : i < 4
  ·have d1 : (i : Int) < 4 := by omega
   have ix := IX.out i di
   obtain ⟨pt, hpt⟩ : ∃ t, p4 p0 p1 p2 p3 i = t := ⟨_, rfl⟩
   rw [hpt] at ix
   have HPT := hide' (show prt (sqA qs t) i = pt by rw [← p4_prt, HPP.out.1, HPP.out.2.1, HPP.out.2.2.1, HPP.out.2.2.2]; exact hpt)
   clear hpt
   have KR := hide' (show StkA wr sb B g cap qs mp from K2.out.keepM (HKP.out.keep _ K2.out.lt.1 (fun e => by have := HK.out.lt.1; have := HRB.out; omega)) (HKP.out.keep _ K2.out.lt.2 (fun e => by have := HK.out.lt.2; have := HRB.out; omega)) (fun k q => HKP.out.keep _ (K2.out.map.lt q) (fun e => by have := HK.out.map.lt q; have := HRB.out; omega)))
   have c0 := KR.out.c0
   have ptl : pt < qs.length := by rw [← HPT.out]; exact HP.out i
   obtain ⟨q0, q1, q2, q3, -, -⟩ := KR.out.cells ptl
   rw [HQN.out] at c0 ptl
   have l1 : (pt : Int) < (qn : Int) := by omega
   obtain ⟨v0, hv0⟩ : ∃ v, (sqA qs pt).a = v := ⟨_, rfl⟩
   obtain ⟨v1, hv1⟩ : ∃ v, (sqA qs pt).b = v := ⟨_, rfl⟩
   obtain ⟨v2, hv2⟩ : ∃ v, (sqA qs pt).c = v := ⟨_, rfl⟩
   obtain ⟨v3, hv3⟩ : ∃ v, (sqA qs pt).d = v := ⟨_, rfl⟩
   rw [hv0] at q0
   rw [hv1] at q1
   rw [hv2] at q2
   rw [hv3] at q3
   have HV := hide' (And.intro hv0 (And.intro hv1 (And.intro hv2 hv3)))
   obtain ⟨cc, hcc⟩ : ∃ c, i / 2 * 8 + i % 2 * 2 = c := ⟨_, rfl⟩
   have HCC := hide' hcc
   have cb : cc + 5 < 16 := by omega
   have e1 : (i : Int) / 2 * 8 + (i : Int) % 2 * 2 = (cc : Int) := by omega
   clear hv0 hv1 hv2 hv3 ptl hcc
   obtain ⟨ib, hib⟩ : ∃ ib, wr.heap.size = ib := ⟨_, rfl⟩
   obtain ⟨w3, hw3⟩ : ∃ w3, wr.alloc (.cells #[.int .i32 (v0 : Int), .int .i32 (v1 : Int), .int .i32 (v2 : Int), .int .i32 (v3 : Int)] 87) = w3 := ⟨_, rfl⟩
   have HW3 := hide' hw3
   have HIB := hide' hib
   have I3 := hide' (show w3.heap[ib]? = some (.cells #[.int .i32 (v0 : Int), .int .i32 (v1 : Int), .int .i32 (v2 : Int), .int .i32 (v3 : Int)] 87 (0, 0)) by rw [← hw3, ← hib]; exact heap_alloc_new _ _)
   have O3 := hide' (show w3.heap[rb + 1]? = some (.cells (arr16 og) 154 (0, 0)) by rw [← hw3]; exact (heap_alloc_old _ _ (lt_of_block HO.out)).trans HO.out)
   have L3 := hide' (show rb + 1 < ib by rw [← hib]; exact lt_of_block HO.out)
   have P3 := hide' (show KpW (rb + 1) w2 w3 by rw [← hw3]; exact HKP.out.trans (KpW.of_below ((Below.refl _ _).alloc (Nat.le_refl _) _)))
   clear hw3 hib
   go_upto_region 7 with fail
   rw [HW3.out, HIB.out]
   clear c0 q0 q1 q2 q3 l1 ix
   obtain ⟨c1, hc1⟩ : ∃ c1, cc + 1 = c1 := ⟨_, rfl⟩
   obtain ⟨c4, hc4⟩ : ∃ c1, cc + 4 = c1 := ⟨_, rfl⟩
   obtain ⟨c5, hc5⟩ : ∃ c1, cc + 5 = c1 := ⟨_, rfl⟩
   have HC := hide' (And.intro hc1 (And.intro hc4 hc5))
   have a1 : (cc : Int) + 1 = (c1 : Int) := by omega
   have a4 : (cc : Int) + 4 = (c4 : Int) := by omega
   have a5 : (cc : Int) + 5 = (c5 : Int) := by omega
   have u0 : (cc : Int) < 16 := by omega
   have u1 : (c1 : Int) < 16 := by omega
   have u4 : (c4 : Int) < 16 := by omega
   have u5 : (c5 : Int) < 16 := by omega
   have n0 : IntKind.i64.wrap (cc : Int) = (cc : Int) := by simp [IntKind.wrap, IntKind.bits, IntKind.signed]; omega
   have n1 : IntKind.i64.wrap (c1 : Int) = (c1 : Int) := by simp [IntKind.wrap, IntKind.bits, IntKind.signed]; omega
   have n4 : IntKind.i64.wrap (c4 : Int) = (c4 : Int) := by simp [IntKind.wrap, IntKind.bits, IntKind.signed]; omega
   have n5 : IntKind.i64.wrap (c5 : Int) = (c5 : Int) := by simp [IntKind.wrap, IntKind.bits, IntKind.signed]; omega
   have i0 := cell_of_row w3 ib 0 _ _ _ I3.out
   have i1 := cell_of_row w3 ib 1 _ _ _ I3.out
   have r0 := (cell_of_row w3 (rb + 1) cc _ _ _ O3.out).trans (get16 (by omega))
   have r1 := (cell_of_row w3 (rb + 1) c1 _ _ _ O3.out).trans (get16 (by omega))
   have f0 := frozen_of_row w3 (rb + 1) cc _ _ O3.out
   have f1 := frozen_of_row w3 (rb + 1) c1 _ _ O3.out
   simp at i0 i1
   have z1 : ¬ ib = rb + 1 := by have := L3.out; omega
   have z2 : ¬ rb + 1 = ib := by have := L3.out; omega
   have z3 : ¬ cc = c1 := by omega
   have z4 : ¬ c1 = cc := by omega
   have z5 : ¬ c4 = c5 := by omega
   have z6 : ¬ c5 = c4 := by omega
   clear hc1 hc4 hc5 e1 cb
   go_region
   obtain ⟨w4, hw4⟩ : ∃ w4, ((w3.setCell ⟨rb + 1, cc, none⟩ (.int .i32 (v0 : Int))).setCell ⟨rb + 1, c1, none⟩ (.int .i32 (v1 : Int))).drew = w4 := ⟨_, rfl⟩
   have I4 := hide' (show w4.heap[ib]? = some (.cells #[.int .i32 (v0 : Int), .int .i32 (v1 : Int), .int .i32 (v2 : Int), .int .i32 (v3 : Int)] 87 (0, 0)) by rw [← hw4]; exact (Below.heap_setCell _ _ _ _ z1).trans ((Below.heap_setCell _ _ _ _ z1).trans I3.out))
   have O4 := hide' (show w4.heap[rb + 1]? = some (.cells (arr16 (fun j => if j = c1 then v1 else if j = cc then v0 else og j)) 154 (0, 0)) by
    rw [← hw4]
    have h1 : (w3.setCell ⟨rb + 1, cc, none⟩ (.int .i32 (v0 : Int))).heap[rb + 1]? = some (.cells ((arr16 og).setIfInBounds cc (.int .i32 (v0 : Int))) 154 (0, 0)) := heap_setCell_same _ _ _ _ _ _ O3.out
    rw [set16 (by omega)] at h1
    have h2 := heap_setCell_same _ _ c1 _ _ (.int .i32 (v1 : Int)) h1
    rw [set16 (by omega)] at h2
    exact h2)
   have P4 := hide' (show KpW (rb + 1) w2 w4 by rw [← hw4]; exact ((P3.out.set _).set _).drew)
   rw [hw4]
   clear hw4 i0 i1 r0 r1 f0 f1
   have i2 := cell_of_row w4 ib 2 _ _ _ I4.out
   have i3 := cell_of_row w4 ib 3 _ _ _ I4.out
   have r4 := (cell_of_row w4 (rb + 1) c4 _ _ _ O4.out).trans (get16 (by omega))
   have r5 := (cell_of_row w4 (rb + 1) c5 _ _ _ O4.out).trans (get16 (by omega))
   have f4 := frozen_of_row w4 (rb + 1) c4 _ _ O4.out
   have f5 := frozen_of_row w4 (rb + 1) c5 _ _ O4.out
   simp at i2 i3
   go_upto_region 8 with fail
   go_region
   obtain ⟨w5, hw5⟩ : ∃ w5, ((w4.setCell ⟨rb + 1, c4, none⟩ (.int .i32 (v2 : Int))).setCell ⟨rb + 1, c5, none⟩ (.int .i32 (v3 : Int))).drew = w5 := ⟨_, rfl⟩
   have O5 := hide' (show w5.heap[rb + 1]? = some (.cells (arr16 (fun j => if j = c5 then v3 else if j = c4 then v2 else if j = c1 then v1 else if j = cc then v0 else og j)) 154 (0, 0)) by
    rw [← hw5]
    have h1 : (w4.setCell ⟨rb + 1, c4, none⟩ (.int .i32 (v2 : Int))).heap[rb + 1]? = some (.cells ((arr16 (fun j => if j = c1 then v1 else if j = cc then v0 else og j)).setIfInBounds c4 (.int .i32 (v2 : Int))) 154 (0, 0)) := heap_setCell_same _ _ _ _ _ _ O4.out
    rw [set16 (by omega)] at h1
    have h2 := heap_setCell_same _ _ c5 _ _ (.int .i32 (v3 : Int)) h1
    rw [set16 (by omega)] at h2
    exact h2)
   have P5 := hide' (show KpW (rb + 1) w2 w5 by rw [← hw5]; exact ((P4.out.set _).set _).drew)
   rw [hw5]
   have G5 := hide' (show GrQ qs t (i + 1) (fun j => if j = c5 then v3 else if j = c4 then v2 else if j = c1 then v1 else if j = cc then v0 else og j) by
    have := HGQ.out.step di HCC.out.symm
    rw [HPT.out, HV.out.1, HV.out.2.1, HV.out.2.2.1, HV.out.2.2.2, HC.out.1, HC.out.2.1, HC.out.2.2] at this
    exact this)
   clear hw5 i2 i3 r4 r5 f4 f5 n0 n1 n4 n5 z1 z2 z3 z4 z5 z6 a1 a4 a5 u0 u1 u4 u5
   go_wp2
   exact ⟨⟨i + 1, _, by go_num, by omega, O5, G5, P5⟩, by simp [intOf]; omega⟩
  ·have d1 : ¬ (i : Int) < 4 := by omega
   obtain rfl : i = 4 := by omega
   have gp : wr.heap[rb + 1]? = some (.cells (arr16 (gridQ qs t)) 154 (0, 0)) := by
    rw [HO.out, ext16 (fun j hj => HGQ.out j hj (by omega))]
   have gb := (HKP.out.keep rb (by have := Z2.out; omega) (by omega)).trans R2.out
   obtain ⟨Zb, hZ⟩ : ∃ Z, arr16 (gridQ qs t) = Z := ⟨_, rfl⟩
   have zs : Zb.size = 16 := by rw [← hZ]; rfl
   have za : Zb.all (·.oneCell') = true := by rw [← hZ]; simp [arr16, Value.oneCell']
   rw [hZ] at gp
   have HZ := hide' hZ
   have BF := hide' (show Below w.heap.size w wr from B2.out.trans ⟨HKP.out.os, HKP.out.tape, HKP.out.output, HKP.out.size, fun k hk => HKP.out.keep k (by have := B2.out.size; omega) (by have := HRB.out; omega)⟩)
   have lw : w.heap.size ≤ rb := by have := HRB.out; omega
   clear hZ
   go_wp2_with (first
    | (refine wpList_load_row rfl 154 _ rfl (rb + 1) rfl 154 Zb (0, 0) _ gp Tryz.underlying154 rfl (by rw [zs]; kernel_rfl) ?_)
    | (refine wpList_store_row rfl 154 _ _ rfl rb Zb rfl rfl 154 _ gb (by rw [zs]; kernel_rfl) (by rw [zs]; rfl) za ?_))
   refine bodyPost_ret (v := .agg Zb) (results_cell_row Tryz.results82 _ _ rb 154 _ (0, 0) _ rfl (setRow_heap _ _ _ _ _ _ gb) Tryz.underlying154 rfl (by rw [zs]; kernel_rfl)) rfl ?_
   exact ⟨by rw [HZ.out], below_setRow BF.out lw _⟩
theorem index16_0 (g0 g1 g2 g3 g4 g5 g6 g7 g8 g9 g10 g11 g12 g13 g14 g15 : Nat) (w : World) : (Instr.index 154 (.agg #[.int .i32 (g0 : Int), .int .i32 (g1 : Int), .int .i32 (g2 : Int), .int .i32 (g3 : Int), .int .i32 (g4 : Int), .int .i32 (g5 : Int), .int .i32 (g6 : Int), .int .i32 (g7 : Int), .int .i32 (g8 : Int), .int .i32 (g9 : Int), .int .i32 (g10 : Int), .int .i32 (g11 : Int), .int .i32 (g12 : Int), .int .i32 (g13 : Int), .int .i32 (g14 : Int), .int .i32 (g15 : Int)]) (.int .i64 0)).run Tryz.prog w = .ok (.int .i32 (g0 : Int)) w := by kernel_rfl
theorem index16_1 (g0 g1 g2 g3 g4 g5 g6 g7 g8 g9 g10 g11 g12 g13 g14 g15 : Nat) (w : World) : (Instr.index 154 (.agg #[.int .i32 (g0 : Int), .int .i32 (g1 : Int), .int .i32 (g2 : Int), .int .i32 (g3 : Int), .int .i32 (g4 : Int), .int .i32 (g5 : Int), .int .i32 (g6 : Int), .int .i32 (g7 : Int), .int .i32 (g8 : Int), .int .i32 (g9 : Int), .int .i32 (g10 : Int), .int .i32 (g11 : Int), .int .i32 (g12 : Int), .int .i32 (g13 : Int), .int .i32 (g14 : Int), .int .i32 (g15 : Int)]) (.int .i64 1)).run Tryz.prog w = .ok (.int .i32 (g1 : Int)) w := by kernel_rfl
theorem index16_2 (g0 g1 g2 g3 g4 g5 g6 g7 g8 g9 g10 g11 g12 g13 g14 g15 : Nat) (w : World) : (Instr.index 154 (.agg #[.int .i32 (g0 : Int), .int .i32 (g1 : Int), .int .i32 (g2 : Int), .int .i32 (g3 : Int), .int .i32 (g4 : Int), .int .i32 (g5 : Int), .int .i32 (g6 : Int), .int .i32 (g7 : Int), .int .i32 (g8 : Int), .int .i32 (g9 : Int), .int .i32 (g10 : Int), .int .i32 (g11 : Int), .int .i32 (g12 : Int), .int .i32 (g13 : Int), .int .i32 (g14 : Int), .int .i32 (g15 : Int)]) (.int .i64 2)).run Tryz.prog w = .ok (.int .i32 (g2 : Int)) w := by kernel_rfl
theorem index16_3 (g0 g1 g2 g3 g4 g5 g6 g7 g8 g9 g10 g11 g12 g13 g14 g15 : Nat) (w : World) : (Instr.index 154 (.agg #[.int .i32 (g0 : Int), .int .i32 (g1 : Int), .int .i32 (g2 : Int), .int .i32 (g3 : Int), .int .i32 (g4 : Int), .int .i32 (g5 : Int), .int .i32 (g6 : Int), .int .i32 (g7 : Int), .int .i32 (g8 : Int), .int .i32 (g9 : Int), .int .i32 (g10 : Int), .int .i32 (g11 : Int), .int .i32 (g12 : Int), .int .i32 (g13 : Int), .int .i32 (g14 : Int), .int .i32 (g15 : Int)]) (.int .i64 3)).run Tryz.prog w = .ok (.int .i32 (g3 : Int)) w := by kernel_rfl
theorem index16_4 (g0 g1 g2 g3 g4 g5 g6 g7 g8 g9 g10 g11 g12 g13 g14 g15 : Nat) (w : World) : (Instr.index 154 (.agg #[.int .i32 (g0 : Int), .int .i32 (g1 : Int), .int .i32 (g2 : Int), .int .i32 (g3 : Int), .int .i32 (g4 : Int), .int .i32 (g5 : Int), .int .i32 (g6 : Int), .int .i32 (g7 : Int), .int .i32 (g8 : Int), .int .i32 (g9 : Int), .int .i32 (g10 : Int), .int .i32 (g11 : Int), .int .i32 (g12 : Int), .int .i32 (g13 : Int), .int .i32 (g14 : Int), .int .i32 (g15 : Int)]) (.int .i64 4)).run Tryz.prog w = .ok (.int .i32 (g4 : Int)) w := by kernel_rfl
theorem index16_5 (g0 g1 g2 g3 g4 g5 g6 g7 g8 g9 g10 g11 g12 g13 g14 g15 : Nat) (w : World) : (Instr.index 154 (.agg #[.int .i32 (g0 : Int), .int .i32 (g1 : Int), .int .i32 (g2 : Int), .int .i32 (g3 : Int), .int .i32 (g4 : Int), .int .i32 (g5 : Int), .int .i32 (g6 : Int), .int .i32 (g7 : Int), .int .i32 (g8 : Int), .int .i32 (g9 : Int), .int .i32 (g10 : Int), .int .i32 (g11 : Int), .int .i32 (g12 : Int), .int .i32 (g13 : Int), .int .i32 (g14 : Int), .int .i32 (g15 : Int)]) (.int .i64 5)).run Tryz.prog w = .ok (.int .i32 (g5 : Int)) w := by kernel_rfl
theorem index16_6 (g0 g1 g2 g3 g4 g5 g6 g7 g8 g9 g10 g11 g12 g13 g14 g15 : Nat) (w : World) : (Instr.index 154 (.agg #[.int .i32 (g0 : Int), .int .i32 (g1 : Int), .int .i32 (g2 : Int), .int .i32 (g3 : Int), .int .i32 (g4 : Int), .int .i32 (g5 : Int), .int .i32 (g6 : Int), .int .i32 (g7 : Int), .int .i32 (g8 : Int), .int .i32 (g9 : Int), .int .i32 (g10 : Int), .int .i32 (g11 : Int), .int .i32 (g12 : Int), .int .i32 (g13 : Int), .int .i32 (g14 : Int), .int .i32 (g15 : Int)]) (.int .i64 6)).run Tryz.prog w = .ok (.int .i32 (g6 : Int)) w := by kernel_rfl
theorem index16_7 (g0 g1 g2 g3 g4 g5 g6 g7 g8 g9 g10 g11 g12 g13 g14 g15 : Nat) (w : World) : (Instr.index 154 (.agg #[.int .i32 (g0 : Int), .int .i32 (g1 : Int), .int .i32 (g2 : Int), .int .i32 (g3 : Int), .int .i32 (g4 : Int), .int .i32 (g5 : Int), .int .i32 (g6 : Int), .int .i32 (g7 : Int), .int .i32 (g8 : Int), .int .i32 (g9 : Int), .int .i32 (g10 : Int), .int .i32 (g11 : Int), .int .i32 (g12 : Int), .int .i32 (g13 : Int), .int .i32 (g14 : Int), .int .i32 (g15 : Int)]) (.int .i64 7)).run Tryz.prog w = .ok (.int .i32 (g7 : Int)) w := by kernel_rfl
theorem index16_8 (g0 g1 g2 g3 g4 g5 g6 g7 g8 g9 g10 g11 g12 g13 g14 g15 : Nat) (w : World) : (Instr.index 154 (.agg #[.int .i32 (g0 : Int), .int .i32 (g1 : Int), .int .i32 (g2 : Int), .int .i32 (g3 : Int), .int .i32 (g4 : Int), .int .i32 (g5 : Int), .int .i32 (g6 : Int), .int .i32 (g7 : Int), .int .i32 (g8 : Int), .int .i32 (g9 : Int), .int .i32 (g10 : Int), .int .i32 (g11 : Int), .int .i32 (g12 : Int), .int .i32 (g13 : Int), .int .i32 (g14 : Int), .int .i32 (g15 : Int)]) (.int .i64 8)).run Tryz.prog w = .ok (.int .i32 (g8 : Int)) w := by kernel_rfl
theorem index16_9 (g0 g1 g2 g3 g4 g5 g6 g7 g8 g9 g10 g11 g12 g13 g14 g15 : Nat) (w : World) : (Instr.index 154 (.agg #[.int .i32 (g0 : Int), .int .i32 (g1 : Int), .int .i32 (g2 : Int), .int .i32 (g3 : Int), .int .i32 (g4 : Int), .int .i32 (g5 : Int), .int .i32 (g6 : Int), .int .i32 (g7 : Int), .int .i32 (g8 : Int), .int .i32 (g9 : Int), .int .i32 (g10 : Int), .int .i32 (g11 : Int), .int .i32 (g12 : Int), .int .i32 (g13 : Int), .int .i32 (g14 : Int), .int .i32 (g15 : Int)]) (.int .i64 9)).run Tryz.prog w = .ok (.int .i32 (g9 : Int)) w := by kernel_rfl
theorem index16_10 (g0 g1 g2 g3 g4 g5 g6 g7 g8 g9 g10 g11 g12 g13 g14 g15 : Nat) (w : World) : (Instr.index 154 (.agg #[.int .i32 (g0 : Int), .int .i32 (g1 : Int), .int .i32 (g2 : Int), .int .i32 (g3 : Int), .int .i32 (g4 : Int), .int .i32 (g5 : Int), .int .i32 (g6 : Int), .int .i32 (g7 : Int), .int .i32 (g8 : Int), .int .i32 (g9 : Int), .int .i32 (g10 : Int), .int .i32 (g11 : Int), .int .i32 (g12 : Int), .int .i32 (g13 : Int), .int .i32 (g14 : Int), .int .i32 (g15 : Int)]) (.int .i64 10)).run Tryz.prog w = .ok (.int .i32 (g10 : Int)) w := by kernel_rfl
theorem index16_11 (g0 g1 g2 g3 g4 g5 g6 g7 g8 g9 g10 g11 g12 g13 g14 g15 : Nat) (w : World) : (Instr.index 154 (.agg #[.int .i32 (g0 : Int), .int .i32 (g1 : Int), .int .i32 (g2 : Int), .int .i32 (g3 : Int), .int .i32 (g4 : Int), .int .i32 (g5 : Int), .int .i32 (g6 : Int), .int .i32 (g7 : Int), .int .i32 (g8 : Int), .int .i32 (g9 : Int), .int .i32 (g10 : Int), .int .i32 (g11 : Int), .int .i32 (g12 : Int), .int .i32 (g13 : Int), .int .i32 (g14 : Int), .int .i32 (g15 : Int)]) (.int .i64 11)).run Tryz.prog w = .ok (.int .i32 (g11 : Int)) w := by kernel_rfl
theorem index16_12 (g0 g1 g2 g3 g4 g5 g6 g7 g8 g9 g10 g11 g12 g13 g14 g15 : Nat) (w : World) : (Instr.index 154 (.agg #[.int .i32 (g0 : Int), .int .i32 (g1 : Int), .int .i32 (g2 : Int), .int .i32 (g3 : Int), .int .i32 (g4 : Int), .int .i32 (g5 : Int), .int .i32 (g6 : Int), .int .i32 (g7 : Int), .int .i32 (g8 : Int), .int .i32 (g9 : Int), .int .i32 (g10 : Int), .int .i32 (g11 : Int), .int .i32 (g12 : Int), .int .i32 (g13 : Int), .int .i32 (g14 : Int), .int .i32 (g15 : Int)]) (.int .i64 12)).run Tryz.prog w = .ok (.int .i32 (g12 : Int)) w := by kernel_rfl
theorem index16_13 (g0 g1 g2 g3 g4 g5 g6 g7 g8 g9 g10 g11 g12 g13 g14 g15 : Nat) (w : World) : (Instr.index 154 (.agg #[.int .i32 (g0 : Int), .int .i32 (g1 : Int), .int .i32 (g2 : Int), .int .i32 (g3 : Int), .int .i32 (g4 : Int), .int .i32 (g5 : Int), .int .i32 (g6 : Int), .int .i32 (g7 : Int), .int .i32 (g8 : Int), .int .i32 (g9 : Int), .int .i32 (g10 : Int), .int .i32 (g11 : Int), .int .i32 (g12 : Int), .int .i32 (g13 : Int), .int .i32 (g14 : Int), .int .i32 (g15 : Int)]) (.int .i64 13)).run Tryz.prog w = .ok (.int .i32 (g13 : Int)) w := by kernel_rfl
theorem index16_14 (g0 g1 g2 g3 g4 g5 g6 g7 g8 g9 g10 g11 g12 g13 g14 g15 : Nat) (w : World) : (Instr.index 154 (.agg #[.int .i32 (g0 : Int), .int .i32 (g1 : Int), .int .i32 (g2 : Int), .int .i32 (g3 : Int), .int .i32 (g4 : Int), .int .i32 (g5 : Int), .int .i32 (g6 : Int), .int .i32 (g7 : Int), .int .i32 (g8 : Int), .int .i32 (g9 : Int), .int .i32 (g10 : Int), .int .i32 (g11 : Int), .int .i32 (g12 : Int), .int .i32 (g13 : Int), .int .i32 (g14 : Int), .int .i32 (g15 : Int)]) (.int .i64 14)).run Tryz.prog w = .ok (.int .i32 (g14 : Int)) w := by kernel_rfl
theorem index16_15 (g0 g1 g2 g3 g4 g5 g6 g7 g8 g9 g10 g11 g12 g13 g14 g15 : Nat) (w : World) : (Instr.index 154 (.agg #[.int .i32 (g0 : Int), .int .i32 (g1 : Int), .int .i32 (g2 : Int), .int .i32 (g3 : Int), .int .i32 (g4 : Int), .int .i32 (g5 : Int), .int .i32 (g6 : Int), .int .i32 (g7 : Int), .int .i32 (g8 : Int), .int .i32 (g9 : Int), .int .i32 (g10 : Int), .int .i32 (g11 : Int), .int .i32 (g12 : Int), .int .i32 (g13 : Int), .int .i32 (g14 : Int), .int .i32 (g15 : Int)]) (.int .i64 15)).run Tryz.prog w = .ok (.int .i32 (g15 : Int)) w := by kernel_rfl
theorem index16 (f : Nat → Nat) {i : Nat} (hi : i < 16) (w : World) : (Instr.index 154 (.agg (arr16 f)) (.int .i64 (i : Int))).run Tryz.prog w = .ok (.int .i32 (f i : Int)) w := by
 have : i = 0 ∨ i = 1 ∨ i = 2 ∨ i = 3 ∨ i = 4 ∨ i = 5 ∨ i = 6 ∨ i = 7 ∨ i = 8 ∨ i = 9 ∨ i = 10 ∨ i = 11 ∨ i = 12 ∨ i = 13 ∨ i = 14 ∨ i = 15 := by omega
 rcases this with rfl | rfl | rfl | rfl | rfl | rfl | rfl | rfl | rfl | rfl | rfl | rfl | rfl | rfl | rfl | rfl
 ·exact index16_0 (f 0) (f 1) (f 2) (f 3) (f 4) (f 5) (f 6) (f 7) (f 8) (f 9) (f 10) (f 11) (f 12) (f 13) (f 14) (f 15) w
 ·exact index16_1 (f 0) (f 1) (f 2) (f 3) (f 4) (f 5) (f 6) (f 7) (f 8) (f 9) (f 10) (f 11) (f 12) (f 13) (f 14) (f 15) w
 ·exact index16_2 (f 0) (f 1) (f 2) (f 3) (f 4) (f 5) (f 6) (f 7) (f 8) (f 9) (f 10) (f 11) (f 12) (f 13) (f 14) (f 15) w
 ·exact index16_3 (f 0) (f 1) (f 2) (f 3) (f 4) (f 5) (f 6) (f 7) (f 8) (f 9) (f 10) (f 11) (f 12) (f 13) (f 14) (f 15) w
 ·exact index16_4 (f 0) (f 1) (f 2) (f 3) (f 4) (f 5) (f 6) (f 7) (f 8) (f 9) (f 10) (f 11) (f 12) (f 13) (f 14) (f 15) w
 ·exact index16_5 (f 0) (f 1) (f 2) (f 3) (f 4) (f 5) (f 6) (f 7) (f 8) (f 9) (f 10) (f 11) (f 12) (f 13) (f 14) (f 15) w
 ·exact index16_6 (f 0) (f 1) (f 2) (f 3) (f 4) (f 5) (f 6) (f 7) (f 8) (f 9) (f 10) (f 11) (f 12) (f 13) (f 14) (f 15) w
 ·exact index16_7 (f 0) (f 1) (f 2) (f 3) (f 4) (f 5) (f 6) (f 7) (f 8) (f 9) (f 10) (f 11) (f 12) (f 13) (f 14) (f 15) w
 ·exact index16_8 (f 0) (f 1) (f 2) (f 3) (f 4) (f 5) (f 6) (f 7) (f 8) (f 9) (f 10) (f 11) (f 12) (f 13) (f 14) (f 15) w
 ·exact index16_9 (f 0) (f 1) (f 2) (f 3) (f 4) (f 5) (f 6) (f 7) (f 8) (f 9) (f 10) (f 11) (f 12) (f 13) (f 14) (f 15) w
 ·exact index16_10 (f 0) (f 1) (f 2) (f 3) (f 4) (f 5) (f 6) (f 7) (f 8) (f 9) (f 10) (f 11) (f 12) (f 13) (f 14) (f 15) w
 ·exact index16_11 (f 0) (f 1) (f 2) (f 3) (f 4) (f 5) (f 6) (f 7) (f 8) (f 9) (f 10) (f 11) (f 12) (f 13) (f 14) (f 15) w
 ·exact index16_12 (f 0) (f 1) (f 2) (f 3) (f 4) (f 5) (f 6) (f 7) (f 8) (f 9) (f 10) (f 11) (f 12) (f 13) (f 14) (f 15) w
 ·exact index16_13 (f 0) (f 1) (f 2) (f 3) (f 4) (f 5) (f 6) (f 7) (f 8) (f 9) (f 10) (f 11) (f 12) (f 13) (f 14) (f 15) w
 ·exact index16_14 (f 0) (f 1) (f 2) (f 3) (f 4) (f 5) (f 6) (f 7) (f 8) (f 9) (f 10) (f 11) (f 12) (f 13) (f 14) (f 15) w
 ·exact index16_15 (f 0) (f 1) (f 2) (f 3) (f 4) (f 5) (f 6) (f 7) (f 8) (f 9) (f 10) (f 11) (f 12) (f 13) (f 14) (f 15) w
def FarQ (f : Nat → Nat) : Prop := ∃ i j, i < 16 ∧ j < 16 ∧ f i ≠ 0 ∧ f j ≠ 0 ∧ (i % 4 + 2 ≤ j % 4 ∨ i / 4 + 2 ≤ j / 4)
def CoP (f : Nat → Nat) (w : World) (e : Ending) (w' : World) : Prop := (∃ (x y : Nat) (ok : Bool), e = .returned (.tuple #[.int .i64 (x : Int), .int .i64 (y : Int), .bool ok]) ∧ (ok = true → x ≤ 2 ∧ y ≤ 2 ∧ ∀ i, i < 16 → f i ≠ 0 → (x ≤ i % 4 ∧ i % 4 ≤ x + 1) ∧ (y ≤ i / 4 ∧ i / 4 ≤ y + 1)) ∧ (ok = false → FarQ f)) ∧ Below w.heap.size w w'
def CoB (f : Nat → Nat) (j l u r d : Nat) : Prop := l ≤ 3 ∧ u ≤ 3 ∧ r ≤ 3 ∧ d ≤ 3 ∧ ∀ i, i < j → f i ≠ 0 → l ≤ i % 4 ∧ i % 4 ≤ r ∧ u ≤ i / 4 ∧ i / 4 ≤ d
theorem CoB.skip {f : Nat → Nat} {j l u r d : Nat} (h : CoB f j l u r d) (hz : f j = 0) : CoB f (j + 1) l u r d := ⟨h.1, h.2.1, h.2.2.1, h.2.2.2.1, fun i hi hn => by
 by_cases e : i = j
 ·subst e; exact absurd hz hn
 ·exact h.2.2.2.2 i (by omega) hn⟩
theorem CoB.put {f : Nat → Nat} {j l u r d : Nat} (h : CoB f j l u r d) (hj : j < 16) : CoB f (j + 1) (min l (j % 4)) (min u (j / 4)) (max r (j % 4)) (max d (j / 4)) := ⟨by have := h.1; omega, by have := h.2.1; omega, by have := h.2.2.1; omega, by have := h.2.2.2.1; omega, fun i hi hn => by
 by_cases e : i = j
 ·subst e; omega
 ·have := h.2.2.2.2 i (by omega) hn
  omega⟩
theorem CoB.done {f : Nat → Nat} {l u r d : Nat} (h : CoB f 16 l u r d) (h1 : (r : Int) - (l : Int) < 2) (h2 : (d : Int) - (u : Int) < 2) : min l 2 ≤ 2 ∧ min u 2 ≤ 2 ∧ ∀ i, i < 16 → f i ≠ 0 → (min l 2 ≤ i % 4 ∧ i % 4 ≤ min l 2 + 1) ∧ (min u 2 ≤ i / 4 ∧ i / 4 ≤ min u 2 + 1) := ⟨by omega, by omega, fun i hi hn => by
 have := h.2.2.2.2 i hi hn
 omega⟩
def CoT (f : Nat → Nat) (j l u r d : Nat) : Prop := (l = 3 ∧ u = 3 ∧ r = 0 ∧ d = 0) ∨ ((∃ i, i < j ∧ f i ≠ 0 ∧ i % 4 = l) ∧ (∃ i, i < j ∧ f i ≠ 0 ∧ i / 4 = u) ∧ (∃ i, i < j ∧ f i ≠ 0 ∧ i % 4 = r) ∧ (∃ i, i < j ∧ f i ≠ 0 ∧ i / 4 = d))
theorem CoT.skip {f : Nat → Nat} {j l u r d : Nat} (h : CoT f j l u r d) : CoT f (j + 1) l u r d := by
 rcases h with h | ⟨⟨a, a1, a2⟩, ⟨b, b1, b2⟩, ⟨c, c1, c2⟩, ⟨e, e1, e2⟩⟩
 ·exact Or.inl h
 ·exact Or.inr ⟨⟨a, by omega, a2⟩, ⟨b, by omega, b2⟩, ⟨c, by omega, c2⟩, ⟨e, by omega, e2⟩⟩
theorem CoT.put {f : Nat → Nat} {j l u r d : Nat} (h : CoT f j l u r d) (hj : j < 16) (hf : f j ≠ 0) : CoT f (j + 1) (min l (j % 4)) (min u (j / 4)) (max r (j % 4)) (max d (j / 4)) := by
 refine Or.inr ?_
 rcases h with ⟨rfl, rfl, rfl, rfl⟩ | ⟨⟨a, a1, a2, a3⟩, ⟨b, b1, b2, b3⟩, ⟨c, c1, c2, c3⟩, ⟨e, e1, e2, e3⟩⟩
 ·exact ⟨⟨j, by omega, hf, by omega⟩, ⟨j, by omega, hf, by omega⟩, ⟨j, by omega, hf, by omega⟩, ⟨j, by omega, hf, by omega⟩⟩
 ·refine ⟨?_, ?_, ?_, ?_⟩
  ·by_cases q : l ≤ j % 4
   ·exact ⟨a, by omega, a2, by omega⟩
   ·exact ⟨j, by omega, hf, by omega⟩
  ·by_cases q : u ≤ j / 4
   ·exact ⟨b, by omega, b2, by omega⟩
   ·exact ⟨j, by omega, hf, by omega⟩
  ·by_cases q : j % 4 ≤ r
   ·exact ⟨c, by omega, c2, by omega⟩
   ·exact ⟨j, by omega, hf, by omega⟩
  ·by_cases q : j / 4 ≤ d
   ·exact ⟨e, by omega, e2, by omega⟩
   ·exact ⟨j, by omega, hf, by omega⟩
theorem CoT.far {f : Nat → Nat} {l u r d : Nat} (h : CoT f 16 l u r d) (hn : ¬ ((r : Int) - (l : Int) < 2 ∧ (d : Int) - (u : Int) < 2)) : FarQ f := by
 rcases h with ⟨rfl, rfl, rfl, rfl⟩ | ⟨⟨a, a1, a2, a3⟩, ⟨b, b1, b2, b3⟩, ⟨c, c1, c2, c3⟩, ⟨e, e1, e2, e3⟩⟩
 ·omega
 ·by_cases q : (r : Int) - (l : Int) < 2
  ·exact ⟨b, e, b1, e1, b2, e2, by omega⟩
  ·exact ⟨a, c, a1, c1, a2, c2, by omega⟩
def CoI (f : Nat → Nat) (j l u r d : Nat) : Prop := CoB f j l u r d ∧ CoT f j l u r d
set_option maxRecDepth 100000 in
set_option maxHeartbeats 6400000 in
theorem corner_any (f : Nat → Nat) (Z : Array Value) (hZ : arr16 f = Z) (w : World) : Calls Tryz.prog 83 #[.agg Z] w (CoP f w) := by
 obtain ⟨w1, hw1⟩ : ∃ w1, w.alloc (.cells Z 154) = w1 := ⟨_, rfl⟩
 have HW1 := hide' hw1
 have B1 := hide' (show Below w.heap.size w w1 by rw [← hw1]; exact (Below.refl _ _).alloc (Nat.le_refl _) _)
 have gp : w1.heap[w.heap.size]? = some (.cells Z 154 (0, 0)) := by rw [← hw1]; exact heap_alloc_new _ _
 have zs : Z.size = 16 := by rw [← hZ]; rfl
 have IX := hide' (fun (i : Nat) (hi : i < 16) (V : World) => show (Instr.index 154 (.agg Z) (.int .i64 (i : Int))).run Tryz.prog V = .ok (.int .i32 (f i : Int)) V by rw [← hZ]; exact index16 f hi V)
 clear hw1 hZ
 go_enter Tryz.func83, Tryz.ntmps83
 go_upto_region 1 with fail
 rw [HW1.out]
 go_wp2_with (first
  | (refine wpList_load_row rfl 154 _ rfl (w.heap.size) rfl 154 Z (0, 0) _ gp Tryz.underlying154 rfl (by rw [zs]; kernel_rfl) ?_))
 clear gp
 go_loopw [5, 6, 7, 8, 12] (fun lv uv rv dv iv wr => ∃ (j l u r d : Nat), iv = .int .i64 (j : Int) ∧ lv = .int .i64 (l : Int) ∧ uv = .int .i64 (u : Int) ∧ rv = .int .i64 (r : Int) ∧ dv = .int .i64 (d : Int) ∧ j ≤ 16 ∧ Hid (CoI f j l u r d) ∧ wr = w1) (fun _ _ _ _ iv _ => 16 - (intOf iv).toNat)
 case atStart => exact ⟨0, 3, 3, 0, 0, rfl, rfl, rfl, rfl, rfl, by omega, hide' ⟨⟨by omega, by omega, by omega, by omega, fun i h => absurd h (by omega)⟩, Or.inl ⟨rfl, rfl, rfl, rfl⟩⟩, rfl⟩
 case round =>
  obtain ⟨j, l, u, r, d, rfl, rfl, rfl, rfl, rfl, hj, HC, rfl⟩ := hrel
  by_cases dj : j < 16
  ·have d1 : (j : Int) < 16 := by omega
   have ix := IX.out j dj
   obtain ⟨fj, hfj⟩ : ∃ x, f j = x := ⟨_, rfl⟩
   rw [hfj] at ix
   by_cases z : fj = 0
   ·subst z
    have C2 := hide' (show CoI f (j + 1) l u r d from ⟨HC.out.1.skip hfj, HC.out.2.skip⟩)
    clear hfj
    go_wp2
    exact ⟨⟨j + 1, l, u, r, d, by go_num, rfl, rfl, rfl, rfl, by omega, C2, trivial⟩, by simp [intOf]; omega⟩
   ·have m0 : ((fj : Int) == 0) = false := by simp; omega
    have m1 : ((fj : Int) != 0) = true := by simp; omega
    have C2 := hide' (show CoI f (j + 1) (min l (j % 4)) (min u (j / 4)) (max r (j % 4)) (max d (j / 4)) from ⟨HC.out.1.put dj, HC.out.2.put dj (by rw [hfj]; exact z)⟩)
    clear hfj z
    go_wp2
    exact ⟨⟨j + 1, min l (j % 4), min u (j / 4), max r (j % 4), max d (j / 4), by go_num, by rw [show ((min l (j % 4) : Nat) : Int) = min (l : Int) ((j : Int) % 4) by omega], by rw [show ((min u (j / 4) : Nat) : Int) = min (u : Int) ((j : Int) / 4) by omega], by rw [show ((max r (j % 4) : Nat) : Int) = max (r : Int) ((j : Int) % 4) by omega], by rw [show ((max d (j / 4) : Nat) : Int) = max (d : Int) ((j : Int) / 4) by omega], by omega, C2, trivial⟩, by simp [intOf]; omega⟩
  ·have d1 : ¬ (j : Int) < 16 := by omega
   obtain rfl : j = 16 := by omega
   have hl := HC.out.1.1
   have hu := HC.out.1.2.1
   have hr := HC.out.1.2.2.1
   have hd := HC.out.1.2.2.2.1
   have e1 : wrap64 ((r : Int) - (l : Int)) = (r : Int) - (l : Int) := by unfold wrap64; omega
   have e2 : wrap64 ((d : Int) - (u : Int)) = (d : Int) - (u : Int) := by unfold wrap64; omega
   have ml : ((min l 2 : Nat) : Int) = min (l : Int) 2 := by omega
   have mu : ((min u 2 : Nat) : Int) = min (u : Int) 2 := by omega
   have ML := hide' (And.intro ml mu)
   clear hl hu hr hd ml mu
   by_cases k1 : (r : Int) - (l : Int) < 2
   ·by_cases k2 : (d : Int) - (u : Int) < 2
    ·have FIN := hide' (show CoP f w (.returned (.tuple #[.int .i64 (min (l : Int) 2), .int .i64 (min (u : Int) 2), .bool true])) wr from ⟨⟨min l 2, min u 2, true, by rw [ML.out.1, ML.out.2], fun _ => HC.out.1.done k1 k2, (fun h => by cases h)⟩, B1.out⟩)
     go_wp2
     refine bodyPost_ret (by simp [results, Tryz.results83, go_sem]; rfl) rfl ?_
     exact FIN.out
    ·have FIN := hide' (show CoP f w (.returned (.tuple #[.int .i64 (min (l : Int) 2), .int .i64 (min (u : Int) 2), .bool false])) wr from ⟨⟨min l 2, min u 2, false, by rw [ML.out.1, ML.out.2], (fun h => by cases h), fun _ => HC.out.2.far (fun h => k2 h.2)⟩, B1.out⟩)
     go_wp2
     refine bodyPost_ret (by simp [results, Tryz.results83, go_sem]; rfl) rfl ?_
     exact FIN.out
   ·have FIN := hide' (show CoP f w (.returned (.tuple #[.int .i64 (min (l : Int) 2), .int .i64 (min (u : Int) 2), .bool false])) wr from ⟨⟨min l 2, min u 2, false, by rw [ML.out.1, ML.out.2], (fun h => by cases h), fun _ => HC.out.2.far (fun h => k1 h.1)⟩, B1.out⟩)
    go_wp2
    refine bodyPost_ret (by simp [results, Tryz.results83, go_sem]; rfl) rfl ?_
    exact FIN.out
end Go.Proofs.YtemhcpldflcfbaaGreatDoor
