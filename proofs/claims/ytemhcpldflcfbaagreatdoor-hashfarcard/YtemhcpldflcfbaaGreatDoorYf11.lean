/-
  What the last text of this claim leans on, part 11: Ha8, Hb2, Ha9, Hc1.
-/
import Derived.Test.YtemhcpldflcfbaaGreatDoorYf10
import Derived.Test.YtemhcpldflcfbaaGreatDoorYf5
import Derived.Lib.TrailingZeros
namespace Go.Proofs.YtemhcpldflcfbaaGreatDoor
open Go.RowKit
set_option linter.unusedVariables false
theorem four_set {p : Nat → Nat} {i v : Nat} (hi : i < 4) : (#[Value.int .i32 (p 0 : Int), .int .i32 (p 1 : Int), .int .i32 (p 2 : Int), .int .i32 (p 3 : Int)]).setIfInBounds i (.int .i32 (v : Int)) = #[.int .i32 (((fun j => if j = i then v else p j) 0 : Nat) : Int), .int .i32 (((fun j => if j = i then v else p j) 1 : Nat) : Int), .int .i32 (((fun j => if j = i then v else p j) 2 : Nat) : Int), .int .i32 (((fun j => if j = i then v else p j) 3 : Nat) : Int)] := by
 have : i = 0 ∨ i = 1 ∨ i = 2 ∨ i = 3 := by omega
 rcases this with rfl | rfl | rfl | rfl <;> rfl
theorem four_get {p : Nat → Nat} {i : Nat} (hi : i < 4) : (#[Value.int .i32 (p 0 : Int), .int .i32 (p 1 : Int), .int .i32 (p 2 : Int), .int .i32 (p 3 : Int)])[i]? = some (.int .i32 (p i : Int)) := by
 have : i = 0 ∨ i = 1 ∨ i = 2 ∨ i = 3 := by omega
 rcases this with rfl | rfl | rfl | rfl <;> rfl
def LayC (n : Nat) : Prop := ∀ (L sb B g cap : Nat) (qs : List Sq) (t : Nat) (x y : Int) (W H : Nat) (xs : List Int) (a : Option Addr) (m c : Nat) (w : World), L = n + 3 → StkA w sb B g cap qs → B ≤ w.heap.size → qs.length + cntQ n ≤ 2000000 → WFQ qs n t → -288230376151711744 ≤ x → x + sideI n ≤ 288230376151711744 → -288230376151711744 ≤ y → y + sideI n ≤ 288230376151711744 → W ≤ 100 → H ≤ 100 → (∀ V, Below B w V → ArgP V xs a m c) → xs.length = W * H → (∀ i, 0 ≤ xs.getD i 0 ∧ xs.getD i 0 ≤ 1) →
  Calls Tryz.prog 53 #[.pointer (some ⟨sb, 0, none⟩), .int .i32 (t : Int), .int .i64 (L : Int), .int .i64 x, .int .i64 y, .agg #[.int .i64 (W : Int), .int .i64 (H : Int), .slice a m c]] w (LyP sb B g W H xs qs n t x y w)
set_option maxRecDepth 100000 in
set_option maxHeartbeats 3200000 in
theorem lay_apart (n L sb B g cap : Nat) (qs : List Sq) (t : Nat) (x y : Int) (W H : Nat) (xs : List Int) (a : Option Addr) (m c : Nat) (w : World) (hL : L = n + 3) (hn : n ≤ 43) (h : StkA w sb B g cap qs) (hw : WFQ qs n t) (hx : -288230376151711744 ≤ x ∧ x + sideI n ≤ 288230376151711744) (hy : -288230376151711744 ≤ y ∧ y + sideI n ≤ 288230376151711744) (ap : apartB n x y W H = true) :
  Calls Tryz.prog 53 #[.pointer (some ⟨sb, 0, none⟩), .int .i32 (t : Int), .int .i64 (L : Int), .int .i64 x, .int .i64 y, .agg #[.int .i64 (W : Int), .int .i64 (H : Int), .slice a m c]] w (LyP sb B g W H xs qs n t x y w) := by
 have HK := hide' h
 obtain ⟨w1, hw1⟩ : ∃ w1, w.alloc (.cells #[.int .i64 (W : Int), .int .i64 (H : Int), .slice a m c] 26) = w1 := ⟨_, rfl⟩
 have B1 := hide' (show Below w.heap.size w w1 by rw [← hw1]; exact (Below.refl _ _).alloc (Nat.le_refl _) _)
 have F1 := hide' (show w1.heap[w.heap.size]? = some (.cells #[.int .i64 (W : Int), .int .i64 (H : Int), .slice a m c] 26 (0, 0)) by rw [← hw1]; exact heap_alloc_new _ _)
 have HW1 := hide' hw1
 have y0 := cell_of_row w1 _ 0 _ _ _ F1.out
 have y1 := cell_of_row w1 _ 1 _ _ _ F1.out
 have y2 := cell_of_row w1 _ 2 _ _ _ F1.out
 simp at y0 y1 y2
 have AC := hide' (isApart_any n L x y W H a m c w1 hL (by omega) (by have := sideI_pos n; omega) (by have := sideI_pos n; omega))
 rw [ap] at AC
 have LQ := hide' (show LayQ W H (cellF W xs) qs n t x y qs t from LayQ.apart hw (of_decide_eq_true ap))
 clear hw1 h hw hx hy ap hL hn
 go_enter Tryz.func53, Tryz.ntmps53
 go_upto_region 1 with fail
 rw [HW1.out]
 go_wp2_with fail
 refine AC.out.mono ?_
 rintro e w2 ⟨rfl, b⟩
 have B2 := hide' (B1.out.trans (b.mono B1.out.size))
 clear b y0 y1 y2
 go_wp2
 go_ret
 exact ⟨g, cap, qs, t, rfl, HK.out.below B2.out, ⟨[], by simp, by simp⟩, LQ.out, KpS.of_below B2.out⟩
set_option maxRecDepth 100000 in
set_option maxHeartbeats 6400000 in
theorem lay_four (n : Nat) (ih : LayC n) (L sb B g cap : Nat) (qs : List Sq) (t : Nat) (x y : Int) (W H : Nat) (xs : List Int) (a : Option Addr) (m c : Nat) (w : World) (hL : L = n + 4) (hn : n ≤ 42) (h : StkA w sb B g cap qs) (hB : B ≤ w.heap.size) (hlen : qs.length + cntQ (n + 1) ≤ 2000000) (hw : WFQ qs (n + 1) t) (hx : -288230376151711744 ≤ x ∧ x + sideI (n + 1) ≤ 288230376151711744) (hy : -288230376151711744 ≤ y ∧ y + sideI (n + 1) ≤ 288230376151711744) (hW : W ≤ 100) (hH : H ≤ 100) (hP : ∀ V, Below B w V → ArgP V xs a m c) (hm : xs.length = W * H) (hb : ∀ i, 0 ≤ xs.getD i 0 ∧ xs.getD i 0 ≤ 1) (ap : apartB (n + 1) x y W H = false) :
  Calls Tryz.prog 53 #[.pointer (some ⟨sb, 0, none⟩), .int .i32 (t : Int), .int .i64 (L : Int), .int .i64 x, .int .i64 y, .agg #[.int .i64 (W : Int), .int .i64 (H : Int), .slice a m c]] w (LyP sb B g W H xs qs (n + 1) t x y w) := by
 have HK := hide' h
 obtain ⟨w1, hw1⟩ : ∃ w1, w.alloc (.cells #[.int .i64 (W : Int), .int .i64 (H : Int), .slice a m c] 26) = w1 := ⟨_, rfl⟩
 have B1 := hide' (show Below w.heap.size w w1 by rw [← hw1]; exact (Below.refl _ _).alloc (Nat.le_refl _) _)
 have F1 := hide' (show w1.heap[w.heap.size]? = some (.cells #[.int .i64 (W : Int), .int .i64 (H : Int), .slice a m c] 26 (0, 0)) by rw [← hw1]; exact heap_alloc_new _ _)
 have Z1 := hide' (show w1.heap.size = w.heap.size + 1 by rw [← hw1]; simp)
 have HW1 := hide' hw1
 have y0 := cell_of_row w1 _ 0 _ _ _ F1.out
 have y1 := cell_of_row w1 _ 1 _ _ _ F1.out
 have y2 := cell_of_row w1 _ 2 _ _ _ F1.out
 simp at y0 y1 y2
 have sn := sideI_next n
 have sp := sideI_pos n
 have AC := hide' (isApart_any (n + 1) L x y W H a m c w1 (by omega) (by omega) (by omega) (by omega))
 rw [ap] at AC
 have ht := hw.lt h.st
 obtain ⟨L', hL'⟩ : ∃ L', n + 3 = L' := ⟨_, rfl⟩
 have f1 : (L : Int) - 1 = (L' : Int) := by omega
 have f2 : 3 < (L : Int) := by omega
 have f3 : L' ≤ 47 := by omega
 obtain ⟨sd, hsd⟩ : ∃ sd, sideI n = sd := ⟨_, rfl⟩
 have sl := sideI_le (n := n) (by omega)
 have e1 : wrap64 (2 ^ L') = sd := by
  have : (2 : Int) ^ L' = sd := by rw [← hL', ← hsd, sideI_nat]; push_cast; rfl
  rw [this]; unfold wrap64; omega
 have SD := hide' (And.intro hsd hL')
 have BD := hide' (And.intro hx hy)
 rw [sn, hsd] at BD
 have PS := hide' (And.intro hlen (And.intro hw ht))
 have AR := hide' (And.intro hP (And.intro hm hb))
 have HWH := hide' (And.intro hW hH)
 have HBB := hide' hB
 obtain ⟨qn, hqn⟩ : ∃ n, qs.length = n := ⟨_, rfl⟩
 have HQN := hide' hqn
 obtain ⟨p0, hp0⟩ : ∃ p, (sqA qs t).a = p := ⟨_, rfl⟩
 obtain ⟨p1, hp1⟩ : ∃ p, (sqA qs t).b = p := ⟨_, rfl⟩
 obtain ⟨p2, hp2⟩ : ∃ p, (sqA qs t).c = p := ⟨_, rfl⟩
 obtain ⟨p3, hp3⟩ : ∃ p, (sqA qs t).d = p := ⟨_, rfl⟩
 have HPP := hide' (And.intro hp0 (And.intro hp1 (And.intro hp2 hp3)))
 clear hw1 h hw hx hy ap hL hn hlen hP hm hb hB hW hH ht sn sp hsd sl hL' hp0 hp1 hp2 hp3 hqn
 go_enter Tryz.func53, Tryz.ntmps53
 go_upto_region 1 with fail
 rw [HW1.out]
 go_wp2_with fail
 refine AC.out.mono ?_
 rintro e w2 ⟨rfl, b⟩
 have B2 := hide' (B1.out.trans (b.mono B1.out.size))
 have F2 := hide' ((b.block _ (lt_of_block F1.out)).trans F1.out)
 have K2 := hide' (HK.out.below B2.out)
 have c0 := cell_of_row w2 sb 0 _ _ _ K2.out.blk
 obtain ⟨q0, q1, q2, q3, -, -⟩ := K2.out.cells PS.out.2.2
 have lt := PS.out.2.2
 simp at c0
 rw [HQN.out] at c0 lt
 rw [HPP.out.1] at q0
 rw [HPP.out.2.1] at q1
 rw [HPP.out.2.2.1] at q2
 rw [HPP.out.2.2.2] at q3
 have l1 : (t : Int) < (qn : Int) := by omega
 clear b y0 y1 y2 lt
 go_upto_region 6 with fail
 rw [e1]
 clear e1 c0 q0 q1 q2 q3
 obtain ⟨pb, hpb⟩ : ∃ pb, w2.heap.size = pb := ⟨_, rfl⟩
 obtain ⟨w3, hw3⟩ : ∃ w3, w2.alloc (.cells #[.int .i32 (p0 : Int), .int .i32 (p1 : Int), .int .i32 (p2 : Int), .int .i32 (p3 : Int)] 87) = w3 := ⟨_, rfl⟩
 have B3 := hide' (show Below w.heap.size w w3 by rw [← hw3]; exact B2.out.alloc B2.out.size _)
 have F3 := hide' (show w3.heap[w.heap.size]? = some (.cells #[.int .i64 (W : Int), .int .i64 (H : Int), .slice a m c] 26 (0, 0)) by rw [← hw3]; exact (heap_alloc_old _ _ (lt_of_block F2.out)).trans F2.out)
 have G3 := hide' (show w3.heap[pb]? = some (.cells #[.int .i32 (p0 : Int), .int .i32 (p1 : Int), .int .i32 (p2 : Int), .int .i32 (p3 : Int)] 87 (0, 0)) by rw [← hw3, ← hpb]; exact heap_alloc_new _ _)
 have Z3 := hide' (show w2.heap.size = pb ∧ w.heap.size < pb from ⟨hpb, by rw [← hpb]; exact lt_of_block F2.out⟩)
 have B23 := hide' (show Below w2.heap.size w2 w3 by rw [← hw3]; exact (Below.refl _ _).alloc (Nat.le_refl _) _)
 have K3 := hide' (HK.out.below B3.out)
 rw [hw3, hpb]
 clear hw3 hpb
 have r0 := cell_of_row w3 pb 0 _ _ _ G3.out
 have r1 := cell_of_row w3 pb 1 _ _ _ G3.out
 have r2 := cell_of_row w3 pb 2 _ _ _ G3.out
 have r3 := cell_of_row w3 pb 3 _ _ _ G3.out
 simp at r0 r1 r2 r3
 have IX := hide' (fun (i : Nat) (hi : i < 4) (V : World) => index_p4 (a := p0) (b := p1) (c := p2) (d := p3) hi V)
 go_wp2
 clear r0 r1 r2 r3
 go_loopw [41] (fun iv wr => ∃ (i : Nat) (p : Nat → Nat) (g' cap' : Nat) (qs' : List Sq), iv = .int .i64 (i : Int) ∧ i ≤ 4 ∧ Hid (StkA wr sb B g' cap' qs') ∧ Hid (∃ ms, qs' = qs ++ ms ∧ ms.length ≤ i * cntQ n) ∧ Hid (wr.heap[pb]? = some (.cells #[.int .i32 (p 0 : Int), .int .i32 (p 1 : Int), .int .i32 (p 2 : Int), .int .i32 (p 3 : Int)] 87 (0, 0))) ∧ Hid (∀ j, j < 4 → (j < i → LayQ W H (cellF W xs) qs n (p4 p0 p1 p2 p3 j) (x + (j : Int) % 2 * sd) (y + (j : Int) / 2 * sd) qs' (p j)) ∧ (i ≤ j → p j = p4 p0 p1 p2 p3 j)) ∧ Hid (KpS sb g g' w2 wr)) (fun iv _ => 4 - (intOf iv).toNat)
 case atStart => exact ⟨0, p4 p0 p1 p2 p3, g, cap, qs, rfl, by omega, K3, hide' ⟨[], by simp, by simp⟩, G3, hide' (fun j hj => ⟨fun h => absurd h (by omega), fun _ => rfl⟩), hide' (KpS.of_below B23.out)⟩
 case round =>
  obtain ⟨i, p, g', cap', qs', rfl, hi, KR, HMS, HG, HLY, HKP⟩ := hrel
  by_cases di : i < 4
  ·have d1 : (i : Int) < 4 := by omega
   have ix := IX.out i di
   obtain ⟨pt, hpt⟩ : ∃ t, p4 p0 p1 p2 p3 i = t := ⟨_, rfl⟩
   rw [hpt] at ix
   have HPT := hide' hpt
   clear hpt
   have FR := hide' (show wr.heap[w.heap.size]? = some (.cells #[.int .i64 (W : Int), .int .i64 (H : Int), .slice a m c] 26 (0, 0)) from (HKP.out.keep _ (by have := Z3.out; omega) (by have := HK.out.lt; omega) (by have := HK.out.lt; omega)).trans F2.out)
   have y0 := cell_of_row wr _ 0 _ _ _ FR.out
   have y1 := cell_of_row wr _ 1 _ _ _ FR.out
   have y2 := cell_of_row wr _ 2 _ _ _ FR.out
   simp at y0 y1 y2
   obtain ⟨X, hX⟩ : ∃ X, x + (i : Int) % 2 * sd = X := ⟨_, rfl⟩
   obtain ⟨Y, hY⟩ : ∃ Y, y + (i : Int) / 2 * sd = Y := ⟨_, rfl⟩
   have sb1 : 8 ≤ sd ∧ sd ≤ 281474976710656 := by rw [← SD.out.1]; exact ⟨sideI_pos n, sideI_le (by have := SD.out.2; omega)⟩
   have bd := BD.out
   have XY := hide' (show (wrap64 (x + wrap64 ((i : Int) % 2 * sd)) = X ∧ wrap64 (y + wrap64 ((i : Int) / 2 * sd)) = Y) ∧ (-288230376151711744 ≤ X ∧ X + sd ≤ 288230376151711744) ∧ (-288230376151711744 ≤ Y ∧ Y + sd ≤ 288230376151711744) by
    rw [← hX, ← hY]
    have : i = 0 ∨ i = 1 ∨ i = 2 ∨ i = 3 := by omega
    rcases this with rfl | rfl | rfl | rfl <;> simp [wrap64] <;> omega)
   have HXY := hide' (And.intro hX hY)
   clear hX hY sb1 bd
   go_wp2_with fail
   rw [XY.out.1.1, XY.out.1.2]
   have ws := (PS.out.2.1).parts HK.out.st
   have wpt : WFQ qs n pt := by
    rw [← HPT.out]; unfold p4
    rw [← HPP.out.1, ← HPP.out.2.1, ← HPP.out.2.2.1, ← HPP.out.2.2.2]
    split; exact ws.1; split; exact ws.2.1; split; exact ws.2.2.1; exact ws.2.2.2
   have BW := hide' (show Below B w wr from (B2.out.mono HBB.out).trans (HKP.out.below HK.out.le HK.out.rowB.1 (Nat.le_trans HBB.out B2.out.size)))
   have WPT := hide' wpt
   clear ws wpt
   obtain ⟨ms, ems, lms⟩ := HMS.out
   refine (ih L' sb B g' cap' qs' pt X Y W H xs a m c wr SD.out.2.symm KR.out (Nat.le_trans HBB.out BW.out.size) ?_ (by rw [ems]; exact WPT.out.app _) XY.out.2.1.1 (by rw [SD.out.1]; exact XY.out.2.1.2) XY.out.2.2.1 (by rw [SD.out.1]; exact XY.out.2.2.2) HWH.out.1 HWH.out.2 (fun V hV => AR.out.1 V (BW.out.trans hV)) AR.out.2.1 AR.out.2.2).mono ?_
   ·have h1 := PS.out.1
    rw [show cntQ (n + 1) = 4 * cntQ n + 1 from rfl] at h1
    rw [ems, List.length_append]
    have : i * cntQ n ≤ 3 * cntQ n := Nat.mul_le_mul_right _ (by omega)
    omega
   rintro e w4 ⟨g2, cap2, qs2, t2, rfl, hs, ⟨m2, em2, lm2⟩, hq, hk⟩
   have gp := hk.keep pb (Nat.lt_of_lt_of_le (lt_of_block HG.out) (Nat.le_refl _)) (KR.out.ne_four HG.out (by decide) (by decide)).1 (KR.out.ne_four HG.out (by decide) (by decide)).2
   have G4 := hide' (gp.trans HG.out)
   have NP := hide' (hs.ne_four G4.out (by decide) (by decide))
   have f4 := frozen_of_row w4 pb i _ _ G4.out
   have r4 := (cell_of_row w4 pb i _ _ _ G4.out).trans (four_get di)
   have N1 := hide' (show StkA (w4.setCell ⟨pb, i, none⟩ (.int .i32 (t2 : Int))) sb B g2 cap2 qs2 from hs.set NP.out.1 NP.out.2 _)
   have N2 := hide' (show ∃ ms, qs2 = qs ++ ms ∧ ms.length ≤ (i + 1) * cntQ n from ⟨ms ++ m2, by rw [em2, ems, List.append_assoc], by rw [List.length_append, Nat.succ_mul]; omega⟩)
   have N3 := hide' (show (w4.setCell ⟨pb, i, none⟩ (.int .i32 (t2 : Int))).heap[pb]? = _ from (heap_setCell_same _ _ _ _ _ _ G4.out).trans (by rw [four_set di]))
   have N4 := hide' (show ∀ j, j < 4 → (j < i + 1 → LayQ W H (cellF W xs) qs n (p4 p0 p1 p2 p3 j) (x + (j : Int) % 2 * sd) (y + (j : Int) / 2 * sd) qs2 ((fun j => if j = i then t2 else p j) j)) ∧ (i + 1 ≤ j → (fun j => if j = i then t2 else p j) j = p4 p0 p1 p2 p3 j) from fun j hj => by
    by_cases e : j = i
    ·subst e
     refine ⟨fun _ => ?_, fun h => absurd h (by omega)⟩
     simp only [if_true]
     rw [HPT.out, HXY.out.1, HXY.out.2]
     rw [ems] at hq
     exact hq.from HK.out.st WPT.out
    ·simp only [if_neg e]
     refine ⟨fun h => ?_, fun h => (HLY.out j hj).2 (by omega)⟩
     rw [em2]
     exact ((HLY.out j hj).1 (by omega)).app KR.out.st m2)
   have N5 := hide' (show KpS sb g g2 w2 (w4.setCell ⟨pb, i, none⟩ (.int .i32 (t2 : Int))) from (HKP.out.trans hk).set (by have := Z3.out.1; omega) _)
   clear gp hs hq hk y0 y1 y2 em2 lm2 ems lms
   go_wp2
   exact ⟨⟨i + 1, _, g2, cap2, qs2, by go_num, by omega, N1, N2, N3, N4, N5⟩, by simp [intOf]; omega⟩
  ·have d1 : ¬ (i : Int) < 4 := by omega
   obtain rfl : i = 4 := by omega
   have r0 := cell_of_row wr pb 0 _ _ _ HG.out
   have r1 := cell_of_row wr pb 1 _ _ _ HG.out
   have r2 := cell_of_row wr pb 2 _ _ _ HG.out
   have r3 := cell_of_row wr pb 3 _ _ _ HG.out
   simp at r0 r1 r2 r3
   have L0 := hide' ((HLY.out 0 (by omega)).1 (by omega))
   have L1 := hide' ((HLY.out 1 (by omega)).1 (by omega))
   have L2 := hide' ((HLY.out 2 (by omega)).1 (by omega))
   have L3 := hide' ((HLY.out 3 (by omega)).1 (by omega))
   obtain ⟨v0, hv0⟩ : ∃ v, p 0 = v := ⟨_, rfl⟩
   obtain ⟨v1, hv1⟩ : ∃ v, p 1 = v := ⟨_, rfl⟩
   obtain ⟨v2, hv2⟩ : ∃ v, p 2 = v := ⟨_, rfl⟩
   obtain ⟨v3, hv3⟩ : ∃ v, p 3 = v := ⟨_, rfl⟩
   rw [hv0] at L0 r0
   rw [hv1] at L1 r1
   rw [hv2] at L2 r2
   rw [hv3] at L3 r3
   obtain ⟨ms, ems, lms⟩ := HMS.out
   have EM := hide' (And.intro ems lms)
   have BW := hide' (show Below B w wr from (B2.out.mono HBB.out).trans (HKP.out.below HK.out.le HK.out.rowB.1 (Nat.le_trans HBB.out B2.out.size)))
   have QL := hide' (show qs'.length ≤ 2000000 by
    have h1 := PS.out.1
    rw [show cntQ (n + 1) = 4 * cntQ n + 1 from rfl] at h1
    rw [ems, List.length_append]; omega)
   clear hv0 hv1 hv2 hv3 ems lms
   go_wp2_with fail
   refine (join_stk sb B g' cap' qs' v0 v1 v2 v3 pb 4 wr KR.out (Nat.le_trans HBB.out BW.out.size) QL.out (L0.out.wf.lt KR.out.st) (L1.out.wf.lt KR.out.st) (L2.out.wf.lt KR.out.st) (L3.out.wf.lt KR.out.st) r0 r1 r2 r3).mono ?_
   rintro e w4 ⟨g2, cap2, qs2, t2, rfl, hs, hj, hk⟩
   have LQ := hide' (show LayQ W H (cellF W xs) qs (n + 1) t x y qs2 t2 by
    have a0 := L0.out
    have a1 := L1.out
    have a2 := L2.out
    have a3 := L3.out
    simp [p4] at a0 a1 a2 a3
    rw [← HPP.out.1] at a0
    rw [← HPP.out.2.1] at a1
    rw [← HPP.out.2.2.1] at a2
    rw [← HPP.out.2.2.2] at a3
    rw [← SD.out.1] at a1 a2 a3
    exact LayQ.join KR.out.st a0 a1 a2 a3 hj)
   have HS := hide' hs
   have HJ := hide' hj
   have HK2 := hide' (show KpS sb g g2 w w4 from (KpS.of_below B2.out).trans (HKP.out.trans hk))
   clear hs hj hk r0 r1 r2 r3
   go_wp2
   go_ret
   obtain ⟨m2, e2, l2⟩ := HJ.out.app
   exact ⟨g2, cap2, qs2, t2, rfl, HS.out, ⟨ms ++ m2, by rw [e2, EM.out.1, List.append_assoc], by rw [List.length_append, show cntQ (n + 1) = 4 * cntQ n + 1 from rfl]; have := EM.out.2; omega⟩, LQ.out, HK2.out⟩
theorem lay_any : ∀ n, n ≤ 43 → LayC n
 | 0, _ => by
  intro L sb B g cap qs t x y W H xs a m c w hL h hB hlen hw x1 x2 y1 y2 hW hH hP hm hb
  subst hL
  by_cases ap : apartB 0 x y W H = true
  ·exact lay_apart 0 3 sb B g cap qs t x y W H xs a m c w rfl (by omega) h hw ⟨x1, x2⟩ ⟨y1, y2⟩ ap
  ·have hk : (sqA qs t).k < 2 ^ 64 := by
    rcases hw with rfl | hw
    ·rw [h.st.2.2.2.2.2]; omega
    ·exact hw.2.2
   have s8 : sideI 0 = 8 := by decide
   rw [s8] at x2 y2
   exact lay_eight sb B g cap qs t _ x y W H xs a m c w h hB (by have : cntQ 0 = 1 := rfl; omega) (hw.lt h.st) rfl hk (by omega) (by omega) hW hH (hP w (Below.refl _ _)) hm hb (by simpa using ap)
 | n + 1, hn => by
  intro L sb B g cap qs t x y W H xs a m c w hL h hB hlen hw x1 x2 y1 y2 hW hH hP hm hb
  by_cases ap : apartB (n + 1) x y W H = true
  ·exact lay_apart (n + 1) L sb B g cap qs t x y W H xs a m c w hL hn h hw ⟨x1, x2⟩ ⟨y1, y2⟩ ap
  ·exact lay_four n (lay_any n (by omega)) L sb B g cap qs t x y W H xs a m c w (by omega) (by omega) h hB hlen hw ⟨x1, x2⟩ ⟨y1, y2⟩ hW hH hP hm hb (by simpa using ap)
def ShP (W H : Nat) (P : Nat → Nat → Prop) (g g' : Nat → Int) : Prop := ∀ u v : Nat, u < W → v < H → (P u v → g' (v * W + u) = 1) ∧ (¬ P u v → g' (v * W + u) = g (v * W + u))
theorem ShP.refl {W H : Nat} {P : Nat → Nat → Prop} {g : Nat → Int} (h : ∀ u v, u < W → v < H → ¬ P u v) : ShP W H P g g := fun u v hu hv => ⟨fun p => absurd p (h u v hu hv), fun _ => rfl⟩
theorem ShP.trans {W H : Nat} {P Q R : Nat → Nat → Prop} {g g1 g2 : Nat → Int} (h : ShP W H P g g1) (k : ShP W H Q g1 g2) (e : ∀ u v, u < W → v < H → (R u v ↔ P u v ∨ Q u v)) : ShP W H R g g2 := fun u v hu hv => by
 have hh := h u v hu hv
 have kk := k u v hu hv
 have ee := e u v hu hv
 by_cases q : Q u v
 ·exact ⟨fun _ => kk.1 q, fun r => absurd (ee.2 (Or.inr q)) r⟩
 ·constructor
  ·intro r
   rcases ee.1 r with p | p
   ·rw [kk.2 q]; exact hh.1 p
   ·exact absurd p q
  ·intro r
   rw [kk.2 q]; exact hh.2 fun p => r (ee.2 (Or.inl p))
theorem ShP.congr {W H : Nat} {P Q : Nat → Nat → Prop} {g g1 : Nat → Int} (h : ShP W H P g g1) (e : ∀ u v, u < W → v < H → (Q u v ↔ P u v)) : ShP W H Q g g1 := fun u v hu hv => by
 have hh := h u v hu hv
 have ee := e u v hu hv
 exact ⟨fun q => hh.1 (ee.1 q), fun q => hh.2 fun p => q (ee.2 p)⟩
theorem place_one {W u v a b : Nat} (hu : u < W) (ha : a < W) (e : v * W + u = b * W + a) : u = a ∧ v = b := by
 have h1 : (v * W + u) % W = u := by rw [Nat.mul_comm, Nat.mul_add_mod, Nat.mod_eq_of_lt hu]
 have h2 : (b * W + a) % W = a := by rw [Nat.mul_comm, Nat.mul_add_mod, Nat.mod_eq_of_lt ha]
 have h3 : u = a := by rw [← h1, e, h2]
 refine ⟨h3, ?_⟩
 subst h3
 have : v * W = b * W := by omega
 exact Nat.eq_of_mul_eq_mul_right (by omega) this
theorem ShP.one {W H : Nat} (g : Nat → Int) {a b : Nat} (ha : a < W) : ShP W H (fun u v => u = a ∧ v = b) g (fun i => if i = b * W + a then 1 else g i) := fun u v hu hv => by
 constructor
 ·rintro ⟨rfl, rfl⟩; simp
 ·intro h
  simp only []
  rw [if_neg]
  intro e
  exact h (place_one hu ha e)
def ShQ (W H : Nat) (qs : List Sq) (n t : Nat) (x y : Int) : (Nat → Int) → (Nat → Int) → Prop := ShP W H (fun u v => valQ qs n t ((u : Int) - x) ((v : Int) - y) = 1)
theorem ShQ.nil {W H : Nat} {qs : List Sq} (hS : StQ qs) (n : Nat) (x y : Int) (g : Nat → Int) : ShQ W H qs n 0 x y g g := ShP.refl fun u v _ _ h => by rw [val_nil hS] at h; omega
theorem ShQ.apart {W H : Nat} {qs : List Sq} {n t : Nat} {x y : Int} (h : (W : Int) ≤ x ∨ (H : Int) ≤ y ∨ x + sideI n ≤ 0 ∨ y + sideI n ≤ 0) (g : Nat → Int) : ShQ W H qs n t x y g g := ShP.refl fun u v hu hv e => by
 rw [val_out n t _ _ (by omega)] at e; omega
structure KpW (wb : Nat) (V V' : World) : Prop where
 os : V'.os = V.os
 tape : V'.tape = V.tape
 output : V'.output = V.output
 size : V.heap.size ≤ V'.heap.size
 keep : ∀ k, k < V.heap.size → k ≠ wb → V'.heap[k]? = V.heap[k]?
theorem KpW.of_below {wb : Nat} {V V' : World} (h : Below V.heap.size V V') : KpW wb V V' := ⟨h.os, h.tape, h.output, h.size, fun k hk _ => h.block k hk⟩
theorem KpW.trans {wb : Nat} {V V' V'' : World} (h : KpW wb V V') (k : KpW wb V' V'') : KpW wb V V'' := ⟨k.os.trans h.os, k.tape.trans h.tape, k.output.trans h.output, Nat.le_trans h.size k.size, fun i hi h1 => (k.keep i (Nat.lt_of_lt_of_le hi h.size) h1).trans (h.keep i hi h1)⟩
theorem KpW.set {wb i : Nat} {V U : World} (h : KpW wb V U) (v : Value) : KpW wb V (U.setCell ⟨wb, i, none⟩ v) :=
 ⟨h.os, h.tape, h.output, by rw [World.size_setCell]; exact h.size, fun k hk h1 => (Below.heap_setCell _ _ _ _ h1).trans (h.keep k hk h1)⟩
theorem KpW.drew {wb : Nat} {V U : World} (h : KpW wb V U) : KpW wb V U.drew := ⟨h.os, h.tape, h.output, h.size, h.keep⟩
def WinA (V : World) (wb N : Nat) (gf : Nat → Int) : Prop := V.heap[wb]? = some (.cells (arrF N fun i => .int .i64 (gf i)) 3 (0, 0))
theorem WinA.below {V V' : World} {wb N : Nat} {gf : Nat → Int} (h : WinA V wb N gf) (b : Below V.heap.size V V') : WinA V' wb N gf := (b.block _ (lt_of_block h)).trans h
theorem WinA.set {V : World} {wb N i : Nat} {gf : Nat → Int} (h : WinA V wb N gf) (z : Int) : WinA (V.setCell ⟨wb, i, none⟩ (.int .i64 z)) wb N (fun j => if j = i then z else gf j) := by
 unfold WinA
 rw [heap_setCell_same _ _ _ _ _ _ h, arrF_set]
 congr 2
 exact arrF_ext fun k _ => by by_cases e : k = i <;> simp [e]
theorem WinA.cell {V : World} {wb N i : Nat} {gf : Nat → Int} (h : WinA V wb N gf) (hi : i < N) : V.cell? ⟨wb, i, none⟩ = some (.int .i64 (gf i)) := (cell_of_row V wb i _ _ _ h).trans (arrF_get _ hi)
theorem p4_prt (qs : List Sq) (t j : Nat) : p4 (sqA qs t).a (sqA qs t).b (sqA qs t).c (sqA qs t).d j = prt (sqA qs t) j := rfl
end Go.Proofs.YtemhcpldflcfbaaGreatDoor
