/-
  What the last text of this claim leans on, part 14: Hc2.
-/
import Derived.Test.YtelocgefaommmaaDoorZh13
namespace Go.Proofs.YtelocgefaommmaaDoor
open Go.RowKit
set_option linter.unusedVariables false
/-- Sixteen numbers. -/
def arr16 (f : Nat → Nat) : Array Value := #[.int .i32 ((f 0 : Nat) : Int), .int .i32 ((f 1 : Nat) : Int), .int .i32 ((f 2 : Nat) : Int), .int .i32 ((f 3 : Nat) : Int), .int .i32 ((f 4 : Nat) : Int), .int .i32 ((f 5 : Nat) : Int), .int .i32 ((f 6 : Nat) : Int), .int .i32 ((f 7 : Nat) : Int), .int .i32 ((f 8 : Nat) : Int), .int .i32 ((f 9 : Nat) : Int), .int .i32 ((f 10 : Nat) : Int), .int .i32 ((f 11 : Nat) : Int), .int .i32 ((f 12 : Nat) : Int), .int .i32 ((f 13 : Nat) : Int), .int .i32 ((f 14 : Nat) : Int), .int .i32 ((f 15 : Nat) : Int)]
theorem set16 {f : Nat → Nat} {i v : Nat} (hi : i < 16) : (arr16 f).setIfInBounds i (.int .i32 (v : Int)) = arr16 (fun j => if j = i then v else f j) := by
  have : i = 0 ∨ i = 1 ∨ i = 2 ∨ i = 3 ∨ i = 4 ∨ i = 5 ∨ i = 6 ∨ i = 7 ∨ i = 8 ∨ i = 9 ∨ i = 10 ∨ i = 11 ∨ i = 12 ∨ i = 13 ∨ i = 14 ∨ i = 15 := by omega
  rcases this with rfl | rfl | rfl | rfl | rfl | rfl | rfl | rfl | rfl | rfl | rfl | rfl | rfl | rfl | rfl | rfl <;> rfl
theorem get16 {f : Nat → Nat} {i : Nat} (hi : i < 16) : (arr16 f)[i]? = some (.int .i32 (f i : Int)) := by
  have : i = 0 ∨ i = 1 ∨ i = 2 ∨ i = 3 ∨ i = 4 ∨ i = 5 ∨ i = 6 ∨ i = 7 ∨ i = 8 ∨ i = 9 ∨ i = 10 ∨ i = 11 ∨ i = 12 ∨ i = 13 ∨ i = 14 ∨ i = 15 := by omega
  rcases this with rfl | rfl | rfl | rfl | rfl | rfl | rfl | rfl | rfl | rfl | rfl | rfl | rfl | rfl | rfl | rfl <;> rfl
theorem ext16 {f g : Nat → Nat} (h : ∀ j, j < 16 → f j = g j) : arr16 f = arr16 g := by
  unfold arr16
  rw [h 0 (by omega), h 1 (by omega), h 2 (by omega), h 3 (by omega), h 4 (by omega), h 5 (by omega), h 6 (by omega), h 7 (by omega), h 8 (by omega), h 9 (by omega), h 10 (by omega), h 11 (by omega), h 12 (by omega), h 13 (by omega), h 14 (by omega), h 15 (by omega)]
/-- The parts of the parts so far. -/
def GrQ (qs : List Sq) (t i : Nat) (og : Nat → Nat) : Prop := ∀ j, j < 16 → j / 8 * 2 + j % 4 / 2 < i → og j = gridQ qs t j
theorem GrQ.step {qs : List Sq} {t i c : Nat} {og : Nat → Nat} (h : GrQ qs t i og) (hi : i < 4) (hc : c = i / 2 * 8 + i % 2 * 2) : GrQ qs t (i + 1) (fun j => if j = c + 5 then (sqA qs (prt (sqA qs t) i)).d else if j = c + 4 then (sqA qs (prt (sqA qs t) i)).c else if j = c + 1 then (sqA qs (prt (sqA qs t) i)).b else if j = c then (sqA qs (prt (sqA qs t) i)).a else og j) := by
  intro j hj hq
  subst hc
  by_cases e : j / 8 * 2 + j % 4 / 2 = i
  · subst e
    have : j = 0 ∨ j = 1 ∨ j = 2 ∨ j = 3 ∨ j = 4 ∨ j = 5 ∨ j = 6 ∨ j = 7 ∨ j = 8 ∨ j = 9 ∨ j = 10 ∨ j = 11 ∨ j = 12 ∨ j = 13 ∨ j = 14 ∨ j = 15 := by omega
    rcases this with rfl | rfl | rfl | rfl | rfl | rfl | rfl | rfl | rfl | rfl | rfl | rfl | rfl | rfl | rfl | rfl <;> simp [gridQ, prt]
  · simp only []
    rw [if_neg (by omega), if_neg (by omega), if_neg (by omega), if_neg (by omega)]
    exact h j hj (by omega)
def GdP (qs : List Sq) (t : Nat) (w : World) (e : Ending) (w' : World) : Prop := e = .returned (.agg (arr16 (gridQ qs t))) ∧ Below w.heap.size w w'
set_option maxRecDepth 100000 in
set_option maxHeartbeats 6400000 in
theorem grid_stk (sb B g cap : Nat) (qs : List Sq) (t : Nat) (w : World) (h : StkA w sb B g cap qs) (ht : t < qs.length) (hp : ∀ i, prt (sqA qs t) i < qs.length) :
    Calls Tryd.prog 35 #[.pointer (some ⟨sb, 0, none⟩), .int .i32 (t : Int)] w (GdP qs t w) := by
  have HK := hide' h
  have HT := hide' ht
  have HP := hide' hp
  obtain ⟨rb, hrb⟩ : ∃ rb, w.heap.size = rb := ⟨_, rfl⟩
  obtain ⟨w2, hw2⟩ : ∃ w2, (w.alloc (.cells #[.int .i32 0, .int .i32 0, .int .i32 0, .int .i32 0, .int .i32 0, .int .i32 0, .int .i32 0, .int .i32 0, .int .i32 0, .int .i32 0, .int .i32 0, .int .i32 0, .int .i32 0, .int .i32 0, .int .i32 0, .int .i32 0] 85)).alloc (.cells #[.int .i32 0, .int .i32 0, .int .i32 0, .int .i32 0, .int .i32 0, .int .i32 0, .int .i32 0, .int .i32 0, .int .i32 0, .int .i32 0, .int .i32 0, .int .i32 0, .int .i32 0, .int .i32 0, .int .i32 0, .int .i32 0] 85) = w2 := ⟨_, rfl⟩
  have HW2 := hide' hw2
  have HRB := hide' hrb
  have B2 := hide' (show Below w.heap.size w w2 by rw [← hw2]; exact ((Below.refl _ _).alloc (Nat.le_refl _) _).alloc (by simp) _)
  have R2 := hide' (show w2.heap[rb]? = some (.cells (arr16 fun _ => 0) 85 (0, 0)) by rw [← hw2, ← hrb]; exact (heap_alloc_old _ _ (by simp)).trans (heap_alloc_new w _))
  have O2 := hide' (show w2.heap[rb + 1]? = some (.cells (arr16 fun _ => 0) 85 (0, 0)) by rw [← hw2]; exact heap_atX _ _ _ (by simp [hrb]))
  have Z2 := hide' (show w2.heap.size = rb + 2 by rw [← hw2]; simp [hrb])
  have K2 := hide' (h.below B2.out)
  obtain ⟨qn, hqn⟩ : ∃ n, qs.length = n := ⟨_, rfl⟩
  have HQN := hide' hqn
  obtain ⟨p0, hp0⟩ : ∃ p, (sqA qs t).a = p := ⟨_, rfl⟩
  obtain ⟨p1, hp1⟩ : ∃ p, (sqA qs t).b = p := ⟨_, rfl⟩
  obtain ⟨p2, hp2⟩ : ∃ p, (sqA qs t).c = p := ⟨_, rfl⟩
  obtain ⟨p3, hp3⟩ : ∃ p, (sqA qs t).d = p := ⟨_, rfl⟩
  have HPP := hide' (And.intro hp0 (And.intro hp1 (And.intro hp2 hp3)))
  have IX := hide' (fun (i : Nat) (hi : i < 4) (V : World) => index_p4 (a := p0) (b := p1) (c := p2) (d := p3) hi V)
  clear hw2 hrb h ht hp hqn hp0 hp1 hp2 hp3
  go_enter Tryd.func35, Tryd.ntmps35
  go_upto_region 2 with fail
  rw [HW2.out, HRB.out]
  have c0 := cell_of_row w2 sb 0 _ _ _ K2.out.blk
  obtain ⟨q0, q1, q2, q3, -, -⟩ := K2.out.cells HT.out
  have lt := HT.out
  simp at c0
  rw [HQN.out] at c0 lt
  rw [HPP.out.1] at q0
  rw [HPP.out.2.1] at q1
  rw [HPP.out.2.2.1] at q2
  rw [HPP.out.2.2.2] at q3
  have l1 : (t : Int) < (qn : Int) := by omega
  go_wp2
  clear c0 q0 q1 q2 q3 l1 lt
  go_loopw [18] (fun iv wr => ∃ (i : Nat) (og : Nat → Nat), iv = .int .i64 (i : Int) ∧ i ≤ 4 ∧ Hid (wr.heap[rb + 1]? = some (.cells (arr16 og) 85 (0, 0))) ∧ Hid (GrQ qs t i og) ∧ Hid (KpW (rb + 1) w2 wr)) (fun iv _ => 4 - (intOf iv).toNat)
  case atStart => exact ⟨0, _, rfl, by omega, O2, hide' (fun j _ h => absurd h (by omega)), hide' (KpW.of_below (Below.refl _ _))⟩
  case round =>
    obtain ⟨i, og, rfl, hi, HO, HGQ, HKP⟩ := hrel
    by_cases di : i < 4
    · have d1 : (i : Int) < 4 := by omega
      have ix := IX.out i di
      obtain ⟨pt, hpt⟩ : ∃ t, p4 p0 p1 p2 p3 i = t := ⟨_, rfl⟩
      rw [hpt] at ix
      have HPT := hide' (show prt (sqA qs t) i = pt by rw [← p4_prt, HPP.out.1, HPP.out.2.1, HPP.out.2.2.1, HPP.out.2.2.2]; exact hpt)
      clear hpt
      have KR := hide' (show StkA wr sb B g cap qs from K2.out.keep (HKP.out.keep _ K2.out.lt.1 (fun e => by have := HK.out.lt.1; have := HRB.out; omega)) (HKP.out.keep _ K2.out.lt.2 (fun e => by have := HK.out.lt.2; have := HRB.out; omega)))
      have c0 := cell_of_row wr sb 0 _ _ _ KR.out.blk
      have ptl : pt < qs.length := by rw [← HPT.out]; exact HP.out i
      obtain ⟨q0, q1, q2, q3, -, -⟩ := KR.out.cells ptl
      simp at c0
      rw [HQN.out] at c0 ptl
      have l1 : (pt : Int) < (qn : Int) := by omega
      obtain ⟨v0, hv0⟩ : ∃ v, (sqA qs pt).a = v := ⟨_, rfl⟩
      obtain ⟨v1, hv1⟩ : ∃ v, (sqA qs pt).b = v := ⟨_, rfl⟩
      obtain ⟨v2, hv2⟩ : ∃ v, (sqA qs pt).c = v := ⟨_, rfl⟩
      obtain ⟨v3, hv3⟩ : ∃ v, (sqA qs pt).d = v := ⟨_, rfl⟩
      rw [hv0] at q0
      rw [hv1] at q1
      rw [hv2] at q2
      rw [hv3] at q3
      have HV := hide' (And.intro hv0 (And.intro hv1 (And.intro hv2 hv3)))
      obtain ⟨cc, hcc⟩ : ∃ c, i / 2 * 8 + i % 2 * 2 = c := ⟨_, rfl⟩
      have HCC := hide' hcc
      have cb : cc + 5 < 16 := by omega
      have e1 : (i : Int) / 2 * 8 + (i : Int) % 2 * 2 = (cc : Int) := by omega
      clear hv0 hv1 hv2 hv3 ptl hcc
      obtain ⟨ib, hib⟩ : ∃ ib, wr.heap.size = ib := ⟨_, rfl⟩
      obtain ⟨w3, hw3⟩ : ∃ w3, wr.alloc (.cells #[.int .i32 (v0 : Int), .int .i32 (v1 : Int), .int .i32 (v2 : Int), .int .i32 (v3 : Int)] 77) = w3 := ⟨_, rfl⟩
      have HW3 := hide' hw3
      have HIB := hide' hib
      have I3 := hide' (show w3.heap[ib]? = some (.cells #[.int .i32 (v0 : Int), .int .i32 (v1 : Int), .int .i32 (v2 : Int), .int .i32 (v3 : Int)] 77 (0, 0)) by rw [← hw3, ← hib]; exact heap_alloc_new _ _)
      have O3 := hide' (show w3.heap[rb + 1]? = some (.cells (arr16 og) 85 (0, 0)) by rw [← hw3]; exact (heap_alloc_old _ _ (lt_of_block HO.out)).trans HO.out)
      have L3 := hide' (show rb + 1 < ib by rw [← hib]; exact lt_of_block HO.out)
      have P3 := hide' (show KpW (rb + 1) w2 w3 by rw [← hw3]; exact HKP.out.trans (KpW.of_below ((Below.refl _ _).alloc (Nat.le_refl _) _)))
      clear hw3 hib
      go_upto_region 7 with fail
      rw [HW3.out, HIB.out]
      clear c0 q0 q1 q2 q3 l1 ix
      obtain ⟨c1, hc1⟩ : ∃ c1, cc + 1 = c1 := ⟨_, rfl⟩
      obtain ⟨c4, hc4⟩ : ∃ c1, cc + 4 = c1 := ⟨_, rfl⟩
      obtain ⟨c5, hc5⟩ : ∃ c1, cc + 5 = c1 := ⟨_, rfl⟩
      have HC := hide' (And.intro hc1 (And.intro hc4 hc5))
      have a1 : (cc : Int) + 1 = (c1 : Int) := by omega
      have a4 : (cc : Int) + 4 = (c4 : Int) := by omega
      have a5 : (cc : Int) + 5 = (c5 : Int) := by omega
      have u0 : (cc : Int) < 16 := by omega
      have u1 : (c1 : Int) < 16 := by omega
      have u4 : (c4 : Int) < 16 := by omega
      have u5 : (c5 : Int) < 16 := by omega
      have n0 : IntKind.i64.wrap (cc : Int) = (cc : Int) := by simp [IntKind.wrap, IntKind.bits, IntKind.signed]; omega
      have n1 : IntKind.i64.wrap (c1 : Int) = (c1 : Int) := by simp [IntKind.wrap, IntKind.bits, IntKind.signed]; omega
      have n4 : IntKind.i64.wrap (c4 : Int) = (c4 : Int) := by simp [IntKind.wrap, IntKind.bits, IntKind.signed]; omega
      have n5 : IntKind.i64.wrap (c5 : Int) = (c5 : Int) := by simp [IntKind.wrap, IntKind.bits, IntKind.signed]; omega
      have i0 := cell_of_row w3 ib 0 _ _ _ I3.out
      have i1 := cell_of_row w3 ib 1 _ _ _ I3.out
      have r0 := (cell_of_row w3 (rb + 1) cc _ _ _ O3.out).trans (get16 (by omega))
      have r1 := (cell_of_row w3 (rb + 1) c1 _ _ _ O3.out).trans (get16 (by omega))
      have f0 := frozen_of_row w3 (rb + 1) cc _ _ O3.out
      have f1 := frozen_of_row w3 (rb + 1) c1 _ _ O3.out
      simp at i0 i1
      have z1 : ¬ ib = rb + 1 := by have := L3.out; omega
      have z2 : ¬ rb + 1 = ib := by have := L3.out; omega
      have z3 : ¬ cc = c1 := by omega
      have z4 : ¬ c1 = cc := by omega
      have z5 : ¬ c4 = c5 := by omega
      have z6 : ¬ c5 = c4 := by omega
      clear hc1 hc4 hc5 e1 cb
      go_region
      obtain ⟨w4, hw4⟩ : ∃ w4, ((w3.setCell ⟨rb + 1, cc, none⟩ (.int .i32 (v0 : Int))).setCell ⟨rb + 1, c1, none⟩ (.int .i32 (v1 : Int))).drew = w4 := ⟨_, rfl⟩
      have I4 := hide' (show w4.heap[ib]? = some (.cells #[.int .i32 (v0 : Int), .int .i32 (v1 : Int), .int .i32 (v2 : Int), .int .i32 (v3 : Int)] 77 (0, 0)) by rw [← hw4]; exact (Below.heap_setCell _ _ _ _ z1).trans ((Below.heap_setCell _ _ _ _ z1).trans I3.out))
      have O4 := hide' (show w4.heap[rb + 1]? = some (.cells (arr16 (fun j => if j = c1 then v1 else if j = cc then v0 else og j)) 85 (0, 0)) by
        rw [← hw4]
        have h1 : (w3.setCell ⟨rb + 1, cc, none⟩ (.int .i32 (v0 : Int))).heap[rb + 1]? = some (.cells ((arr16 og).setIfInBounds cc (.int .i32 (v0 : Int))) 85 (0, 0)) := heap_setCell_same _ _ _ _ _ _ O3.out
        rw [set16 (by omega)] at h1
        have h2 := heap_setCell_same _ _ c1 _ _ (.int .i32 (v1 : Int)) h1
        rw [set16 (by omega)] at h2
        exact h2)
      have P4 := hide' (show KpW (rb + 1) w2 w4 by rw [← hw4]; exact ((P3.out.set _).set _).drew)
      rw [hw4]
      clear hw4 i0 i1 r0 r1 f0 f1
      have i2 := cell_of_row w4 ib 2 _ _ _ I4.out
      have i3 := cell_of_row w4 ib 3 _ _ _ I4.out
      have r4 := (cell_of_row w4 (rb + 1) c4 _ _ _ O4.out).trans (get16 (by omega))
      have r5 := (cell_of_row w4 (rb + 1) c5 _ _ _ O4.out).trans (get16 (by omega))
      have f4 := frozen_of_row w4 (rb + 1) c4 _ _ O4.out
      have f5 := frozen_of_row w4 (rb + 1) c5 _ _ O4.out
      simp at i2 i3
      go_upto_region 8 with fail
      go_region
      obtain ⟨w5, hw5⟩ : ∃ w5, ((w4.setCell ⟨rb + 1, c4, none⟩ (.int .i32 (v2 : Int))).setCell ⟨rb + 1, c5, none⟩ (.int .i32 (v3 : Int))).drew = w5 := ⟨_, rfl⟩
      have O5 := hide' (show w5.heap[rb + 1]? = some (.cells (arr16 (fun j => if j = c5 then v3 else if j = c4 then v2 else if j = c1 then v1 else if j = cc then v0 else og j)) 85 (0, 0)) by
        rw [← hw5]
        have h1 : (w4.setCell ⟨rb + 1, c4, none⟩ (.int .i32 (v2 : Int))).heap[rb + 1]? = some (.cells ((arr16 (fun j => if j = c1 then v1 else if j = cc then v0 else og j)).setIfInBounds c4 (.int .i32 (v2 : Int))) 85 (0, 0)) := heap_setCell_same _ _ _ _ _ _ O4.out
        rw [set16 (by omega)] at h1
        have h2 := heap_setCell_same _ _ c5 _ _ (.int .i32 (v3 : Int)) h1
        rw [set16 (by omega)] at h2
        exact h2)
      have P5 := hide' (show KpW (rb + 1) w2 w5 by rw [← hw5]; exact ((P4.out.set _).set _).drew)
      rw [hw5]
      have G5 := hide' (show GrQ qs t (i + 1) (fun j => if j = c5 then v3 else if j = c4 then v2 else if j = c1 then v1 else if j = cc then v0 else og j) by
        have := HGQ.out.step di HCC.out.symm
        rw [HPT.out, HV.out.1, HV.out.2.1, HV.out.2.2.1, HV.out.2.2.2, HC.out.1, HC.out.2.1, HC.out.2.2] at this
        exact this)
      clear hw5 i2 i3 r4 r5 f4 f5 n0 n1 n4 n5 z1 z2 z3 z4 z5 z6 a1 a4 a5 u0 u1 u4 u5
      go_wp2
      exact ⟨⟨i + 1, _, by go_num, by omega, O5, G5, P5⟩, by simp [intOf]; omega⟩
    · have d1 : ¬ (i : Int) < 4 := by omega
      obtain rfl : i = 4 := by omega
      have gp : wr.heap[rb + 1]? = some (.cells (arr16 (gridQ qs t)) 85 (0, 0)) := by
        rw [HO.out, ext16 (fun j hj => HGQ.out j hj (by omega))]
      have gb := (HKP.out.keep rb (by have := Z2.out; omega) (by omega)).trans R2.out
      obtain ⟨Zb, hZ⟩ : ∃ Z, arr16 (gridQ qs t) = Z := ⟨_, rfl⟩
      have zs : Zb.size = 16 := by rw [← hZ]; rfl
      have za : Zb.all (·.oneCell') = true := by rw [← hZ]; simp [arr16, Value.oneCell']
      rw [hZ] at gp
      have HZ := hide' hZ
      have BF := hide' (show Below w.heap.size w wr from B2.out.trans ⟨HKP.out.os, HKP.out.tape, HKP.out.output, HKP.out.size, fun k hk => HKP.out.keep k (by have := B2.out.size; omega) (by have := HRB.out; omega)⟩)
      have lw : w.heap.size ≤ rb := by have := HRB.out; omega
      clear hZ
      go_wp2_with (first
        | (refine wpList_load_row rfl 85 _ rfl (rb + 1) rfl 85 Zb (0, 0) _ gp Tryd.underlying85 rfl (by rw [zs]; kernel_rfl) ?_)
        | (refine wpList_store_row rfl 85 _ _ rfl rb Zb rfl rfl 85 _ gb (by rw [zs]; kernel_rfl) (by rw [zs]; rfl) za ?_))
      refine bodyPost_ret (v := .agg Zb) (results_cell_row Tryd.results35 _ _ rb 85 _ (0, 0) _ rfl (setRow_heap _ _ _ _ _ _ gb) Tryd.underlying85 rfl (by rw [zs]; kernel_rfl)) rfl ?_
      exact ⟨by rw [HZ.out], below_setRow BF.out lw _⟩
end Go.Proofs.YtelocgefaommmaaDoor

