/-
  What the last text of this claim leans on, part 36: Ad8.
-/
import Derived.Test.YtbkllhlapdmlfaaQb35
namespace Go.Proofs.Ytbkllhlapdmlfaa
open Go.RowKit
set_option linter.unusedVariables false
set_option maxRecDepth 100000 in
set_option maxHeartbeats 12800000 in
theorem antback_some (o : Out) (a : Option Addr) (n c : Nat) (xs : List SpotT) (b : Option Addr) (e : Nat) (x y : Int) (d k : Nat) (j : Int) (w : World) (hR : ArgR w o a n c) (hS : ArgS w xs b xs.length e) (hok : AntOk o xs x y (d : Int) (k : Int)) :
    Calls Try.prog 4 #[.agg #[.int .i64 o.kind, .int .i64 o.born, .int .i64 o.stay, .int .i64 o.states, .int .i64 o.radius, .slice a n c, .string o.turns], .slice b xs.length e, .agg #[.int .i64 x, .int .i64 y, .int .i64 (d : Int)], .int .i64 (k : Int), .int .i64 j] w fun e' w' => e' = .returned (.bool true) ∧ Below w.heap.size w w' := by
  have kn := hok.2.2.2.2.2.2
  obtain ⟨w1, hw1⟩ : ∃ w1, (w.alloc (.cells #[.int .i64 o.kind, .int .i64 o.born, .int .i64 o.stay, .int .i64 o.states, .int .i64 o.radius, .slice a n c, .string o.turns] 37)).alloc (.cells #[.int .i64 x, .int .i64 y, .int .i64 (d : Int)] 40) = w1 := ⟨_, rfl⟩
  have BB := hide' (show Below w.heap.size w w1 by rw [← hw1]; exact ((Below.refl _ _).alloc (Nat.le_refl _) _).alloc (by simp) _)
  have g0 : w1.heap[w.heap.size]? = some (.cells #[.int .i64 o.kind, .int .i64 o.born, .int .i64 o.stay, .int .i64 o.states, .int .i64 o.radius, .slice a n c, .string o.turns] 37 (0, 0)) := by rw [← hw1, Below.heap_alloc _ _ _ (by simp)]; exact heap_alloc_new _ _
  have g1 : w1.heap[w.heap.size + 1]? = some (.cells #[.int .i64 x, .int .i64 y, .int .i64 (d : Int)] 40 (0, 0)) := by rw [← hw1]; exact heap_atX _ _ _ (by simp)
  have SV := hide' (fun (V : World) (h : Below w1.heap.size w1 V) => show V.cell? ⟨w.heap.size, 0, none⟩ = some (.int .i64 o.kind) ∧ V.cell? ⟨w.heap.size, 1, none⟩ = some (.int .i64 o.born) ∧ V.cell? ⟨w.heap.size, 2, none⟩ = some (.int .i64 o.stay) ∧ V.cell? ⟨w.heap.size, 3, none⟩ = some (.int .i64 o.states) ∧ V.cell? ⟨w.heap.size, 4, none⟩ = some (.int .i64 o.radius) ∧ V.cell? ⟨w.heap.size, 5, none⟩ = some (.slice a n c) ∧ V.cell? ⟨w.heap.size, 6, none⟩ = some (.string o.turns) ∧ V.cell? ⟨w.heap.size + 1, 0, none⟩ = some (.int .i64 x) ∧ V.cell? ⟨w.heap.size + 1, 1, none⟩ = some (.int .i64 y) ∧ V.cell? ⟨w.heap.size + 1, 2, none⟩ = some (.int .i64 (d : Int)) from by
    have e1 := (h.block _ (lt_of_block g0)).trans g0
    have e2 := (h.block _ (lt_of_block g1)).trans g1
    exact ⟨cell_of_row V _ 0 _ _ _ e1, cell_of_row V _ 1 _ _ _ e1, cell_of_row V _ 2 _ _ _ e1, cell_of_row V _ 3 _ _ _ e1, cell_of_row V _ 4 _ _ _ e1, cell_of_row V _ 5 _ _ _ e1, cell_of_row V _ 6 _ _ _ e1, cell_of_row V _ 0 _ _ _ e2, cell_of_row V _ 1 _ _ _ e2, cell_of_row V _ 2 _ _ _ e2⟩)
  have BW := hide' (fun (V : World) (h : Below w1.heap.size w1 V) => BB.out.trans (h.mono BB.out.size))
  have FA := hide' (fun V => fact_ant V)
  have AR := hide' (fun (V : World) (h : Below w1.heap.size w1 V) => hR.below (BW.out V h))
  have AS := hide' (fun (V : World) (h : Below w1.heap.size w1 V) => hS.below (BW.out V h))
  have RU := hide' (fun (V : World) (h : Below w1.heap.size w1 V) => run_first o a n c xs b xs.length e x y d k V (AR.out V h) (AS.out V h) hok)
  have BU := hide' (fun (V : World) (h : Below w1.heap.size w1 V) => back_first o a n c xs b xs.length e x y d k V (AR.out V h) (AS.out V h) hok)
  have BH := hide' (fun ys b' e' V st => back_home o a n c xs ys x y d k b' e' V hok st)
  have RH := hide' (fun ys b' e' V st => run_home o a n c xs ys x y d k b' e' V hok st)
  have RM := hide' (fun ys jn b' e' V st => run_more o a n c xs ys x y d k jn b' e' V hok st)
  have HOK := hide' hok
  obtain ⟨st, hst⟩ : ∃ st, runA (trB o.turns) o.turns.size (s0A xs x y d) k = st := ⟨_, rfl⟩
  obtain ⟨bt, hbt⟩ : ∃ bt, backA (trB o.turns) o.turns.size (s0A xs x y d) k = bt := ⟨_, rfl⟩
  rw [hst] at RU
  rw [hbt] at BU
  have HST := hide' hst
  have HBT := hide' hbt
  clear hR hS hok hst hbt
  clear g0 g1
  go_enter Try.func4, Try.ntmps4
  go_upto_region 1 with fail
  clear hw1
  go_wp2_with fail
  refine (FA.out _).mono ?_
  rintro e' w2 ⟨gf, qf, rfl, b2⟩
  have C2 := hide' (b2.alloc b2.size (.cells #[.int .i64 1, .int .i64 0, .int .i64 1] 40))
  have v0 : (w2.alloc (.cells #[.int .i64 1, .int .i64 0, .int .i64 1] 40)).cell? ⟨w2.heap.size, 0, none⟩ = some (.int .i64 1) := cell_of_row _ _ 0 _ _ _ (heap_alloc_new _ _)
  have v2 : (w2.alloc (.cells #[.int .i64 1, .int .i64 0, .int .i64 1] 40)).cell? ⟨w2.heap.size, 2, none⟩ = some (.int .i64 1) := cell_of_row _ _ 2 _ _ _ (heap_alloc_new _ _)
  clear b2
  go_upto_region 4 with fail
  clear v0 v2
  obtain ⟨c0, c1, c2, c3, c4, c5, c6, d0, d1, d2⟩ := SV.out _ C2.out
  go_wp2_with fail
  refine (RU.out _ C2.out).mono ?_
  rintro e' w3 ⟨ys, g, q, rfl, ay, so, b3⟩
  have z3 := b3.size
  have z2 := C2.out.size
  obtain ⟨w4, hw4⟩ : ∃ w4, w3.alloc (.cells #[.int .i64 st.x, .int .i64 st.y, .int .i64 (st.d : Int)] 40) = w4 := ⟨_, rfl⟩
  have g4 : w4.heap[w3.heap.size]? = some (.cells #[.int .i64 st.x, .int .i64 st.y, .int .i64 (st.d : Int)] 40 (0, 0)) := by rw [← hw4]; exact heap_alloc_new _ _
  have C4 := hide' (show Below w1.heap.size w1 w4 by rw [← hw4]; exact (C2.out.trans (b3.mono C2.out.size)).alloc (by omega) _)
  have AY := hide' (show ArgS w4 ys (some ⟨g, 0, none⟩) ys.length q by rw [← hw4]; exact ay.below ((Below.refl _ _).alloc (Nat.le_refl _) _))
  have G4 := hide' g4
  have SO := hide' so
  have s0 := cell_of_row w4 _ 0 _ _ _ g4
  have s1 := cell_of_row w4 _ 1 _ _ _ g4
  have s2 := cell_of_row w4 _ 2 _ _ _ g4
  simp at s0 s1 s2
  have FT := hide' (fits_any ys (some ⟨g, 0, none⟩) ys.length q st.x st.y (st.d : Int) w4 AY.out)
  obtain ⟨β, hβ⟩ : ∃ β, fitK ys (nearA st.x st.y) ys.length = β := ⟨_, rfl⟩
  rw [hβ] at FT
  have HB := hide' hβ
  clear c0 c1 c2 c3 c4 c5 c6 d0 d1 d2 b3 ay so g4 hβ
  go_upto_region 5 with fail
  try rw [hw4]
  clear hw4
  go_wp2_with fail
  refine FT.out.mono ?_
  rintro e' w5 ⟨rfl, b5⟩
  have C5 := hide' (C4.out.trans (b5.mono C4.out.size))
  have g5 := (b5.block _ (lt_of_block G4.out)).trans G4.out
  have AY5 := hide' (AY.out.below b5)
  have G5 := hide' g5
  have z4 := lt_of_block G4.out
  have z5 := b5.size
  clear s0 s1 s2 b5
  cases β
  · go_wp2
    go_ret
    exact ⟨rfl, BW.out _ C5.out⟩
  have t0 := cell_of_row w5 _ 0 _ _ _ g5
  have t1 := cell_of_row w5 _ 1 _ _ _ g5
  have t2 := cell_of_row w5 _ 2 _ _ _ g5
  simp at t0 t1 t2
  obtain ⟨c0, c1, c2, c3, c4, c5, c6, d0, d1, d2⟩ := SV.out _ C5.out
  have BK := hide' (BH.out ys (some ⟨g, 0, none⟩) q w5 st HST.out SO.out HB.out (AR.out _ C5.out) AY5.out)
  clear g5
  go_upto_region 7 with fail
  go_wp2_with fail
  refine BK.out.mono ?_
  rintro e' w6 ⟨g6, q6, rfl, az, b6⟩
  have C6 := hide' (C5.out.trans (b6.mono C5.out.size))
  obtain ⟨w7, hw7⟩ : ∃ w7, w6.alloc (.cells #[.int .i64 x, .int .i64 y, .int .i64 (d : Int)] 40) = w7 := ⟨_, rfl⟩
  have b7 : Below w6.heap.size w6 w7 := by rw [← hw7]; exact (Below.refl _ _).alloc (Nat.le_refl _) _
  have G7 := hide' (show w7.heap[w6.heap.size]? = some (.cells #[.int .i64 x, .int .i64 y, .int .i64 (d : Int)] 40 (0, 0)) by rw [← hw7]; exact heap_alloc_new _ _)
  have C7 := hide' (C6.out.trans (b7.mono C6.out.size))
  have G57 := hide' ((b7.block _ (show w3.heap.size < w6.heap.size by have := b6.size; omega)).trans ((b6.block _ (show w3.heap.size < w5.heap.size by omega)).trans G5.out))
  have AY7 := hide' ((AY5.out.below b6).below b7)
  have SS := hide' (spots_same xs xs (some ⟨g6, 0, none⟩) b xs.length q6 xs.length e w7 (az.below b7) (AS.out _ C7.out))
  rw [decide_eq_true (rfl : xs = xs)] at SS
  clear c0 c1 c2 c3 c4 c5 c6 d0 d1 d2 t0 t1 t2 az b6 b7
  go_wp2_with fail
  try rw [hw7]
  clear hw7
  refine SS.out.mono ?_
  rintro e' w8 ⟨rfl, b8⟩
  have C8 := hide' (C7.out.trans (b8.mono C7.out.size))
  have g8 := (b8.block _ (lt_of_block G7.out)).trans G7.out
  have G58 := hide' ((b8.block _ (lt_of_block G57.out)).trans G57.out)
  have AY8 := hide' (AY7.out.below b8)
  have y0 := cell_of_row w8 _ 0 _ _ _ g8
  have y1 := cell_of_row w8 _ 1 _ _ _ g8
  have y2 := cell_of_row w8 _ 2 _ _ _ g8
  simp at y0 y1 y2
  obtain ⟨c0, c1, c2, c3, c4, c5, c6, d0, d1, d2⟩ := SV.out _ C8.out
  have WE := fun V => (walker_eq (x, y, (d : Int)) (x, y, (d : Int)) V).trans (by rw [decide_eq_true rfl])
  simp only at WE
  have BUK := hide' (fun (V : World) (h : Below w1.heap.size w1 V) => BU.out V h)
  clear b8 g8
  go_wp2_with fail
  refine (BU.out _ C8.out).mono ?_
  rintro e' w9 ⟨zs, g9, q9, rfl, az, sz, b9⟩
  have z9 := b9.size
  have C9 := hide' (C8.out.trans (b9.mono C8.out.size))
  obtain ⟨wa, hwa⟩ : ∃ wa, w9.alloc (.cells #[.int .i64 bt.x, .int .i64 bt.y, .int .i64 (bt.d : Int)] 40) = wa := ⟨_, rfl⟩
  have ba : Below w9.heap.size w9 wa := by rw [← hwa]; exact (Below.refl _ _).alloc (Nat.le_refl _) _
  have ga : wa.heap[w9.heap.size]? = some (.cells #[.int .i64 bt.x, .int .i64 bt.y, .int .i64 (bt.d : Int)] 40 (0, 0)) := by rw [← hwa]; exact heap_alloc_new _ _
  have Ca := hide' (C9.out.trans (ba.mono C9.out.size))
  have G5a := hide' ((ba.block _ (Nat.lt_of_lt_of_le (lt_of_block G58.out) z9)).trans ((b9.block _ (lt_of_block G58.out)).trans G58.out))
  have AYa := hide' ((AY8.out.below b9).below ba)
  have AZa := hide' (az.below ba)
  have SZ := hide' sz
  have Ga := hide' ga
  have s0 := cell_of_row wa _ 0 _ _ _ ga
  have s1 := cell_of_row wa _ 1 _ _ _ ga
  have s2 := cell_of_row wa _ 2 _ _ _ ga
  simp at s0 s1 s2
  have FT2 := hide' (fits_any zs (some ⟨g9, 0, none⟩) zs.length q9 bt.x bt.y (bt.d : Int) wa AZa.out)
  obtain ⟨γ, hγ⟩ : ∃ γ, fitK zs (nearA bt.x bt.y) zs.length = γ := ⟨_, rfl⟩
  rw [hγ] at FT2
  have HG := hide' hγ
  clear c0 c1 c2 c3 c4 c5 c6 d0 d1 d2 WE y0 y1 y2 b9 ba ga az sz hγ
  go_wp2_with fail
  try rw [hwa]
  clear hwa
  refine FT2.out.mono ?_
  rintro e' wb ⟨rfl, bb⟩
  have Cb := hide' (Ca.out.trans (bb.mono Ca.out.size))
  have Gub := hide' ((bb.block _ (lt_of_block Ga.out)).trans Ga.out)
  have G5b := hide' ((bb.block _ (lt_of_block G5a.out)).trans G5a.out)
  have AYb := hide' (AYa.out.below bb)
  have AZb := hide' (AZa.out.below bb)
  have zub : w1.heap.size ≤ w9.heap.size := C9.out.size
  clear s0 s1 s2 bb
  cases γ
  · obtain ⟨wt, hwt⟩ : ∃ wt, wt = wb := ⟨_, rfl⟩
    subst hwt
    have Ct := Cb
    have G5t := G5b
    have Gut := Gub
    have AYt := AYb
    clear Cb G5b Gub AYb AZb
    obtain ⟨c0, c1, c2, c3, c4, c5, c6, d0, d1, d2⟩ := SV.out _ Ct.out
    have t0 := cell_of_row wt _ 0 _ _ _ G5t.out
    have t1 := cell_of_row wt _ 1 _ _ _ G5t.out
    have t2 := cell_of_row wt _ 2 _ _ _ G5t.out
    simp at t0 t1 t2
    have zt := lt_of_block Gut.out
    by_cases jb : j < 0 ∨ 100000 < j
    · have MB := hide' (more_bad o a n c ys j (some ⟨g, 0, none⟩) q wt st jb (AR.out _ Ct.out) AYt.out)
      clear jb
      go_wp2_with fail
      refine MB.out.mono ?_
      rintro e' wf ⟨f, f0, rfl, bf⟩
      have EP := hide' (errOf_posB f0)
      rw [EP.out]
      have gu := (bf.block _ zt).trans Gut.out
      have Cf := hide' (Ct.out.trans (bf.mono Ct.out.size))
      have r0 := cell_of_row wf _ 0 _ _ _ gu
      have r1 := cell_of_row wf _ 1 _ _ _ gu
      have r2 := cell_of_row wf _ 2 _ _ _ gu
      simp at r0 r1 r2
      have f0' := frozen_of_row wf _ 0 _ _ gu
      have f1' := frozen_of_row wf _ 1 _ _ gu
      have f2' := frozen_of_row wf _ 2 _ _ gu
      have l2 := lt_of_block gu
      have zu := Ct.out.size
      have zw := Cf.out.size
      clear c0 c1 c2 c3 c4 c5 c6 d0 d1 d2 t0 t1 t2 bf f0 gu
      go_wp2
      go_ret
      exact ⟨rfl, BW.out _ (((Cf.out.setCell (by simp; omega) _).setCell (by simp; omega) _).setCell (by simp; omega) _)⟩
    · obtain ⟨jn, rfl⟩ : ∃ jn : Nat, j = (jn : Int) := ⟨j.toNat, by omega⟩
      have j1 : jn ≤ 100000 := by omega
      have RMM := hide' (RM.out ys jn (some ⟨g, 0, none⟩) q wt st HST.out SO.out HB.out j1 (AR.out _ Ct.out) AYt.out)
      have kk : k ≤ 100000 := by omega
      obtain ⟨rt, hrt⟩ : ∃ rt, runA (trB o.turns) o.turns.size (s0A xs x y d) (k + jn) = rt := ⟨_, rfl⟩
      rw [hrt] at RMM
      have HRT := hide' hrt
      clear hrt jb
      go_wp2_with fail
      refine RMM.out.mono ?_
      rintro e' wf ⟨vs, gv, qv, rfl, av, sv, bf, fr⟩
      have gu := (bf.block _ zt).trans Gut.out
      have Cf := hide' (Ct.out.trans (bf.mono Ct.out.size))
      have r0 := cell_of_row wf _ 0 _ _ _ gu
      have r1 := cell_of_row wf _ 1 _ _ _ gu
      have r2 := cell_of_row wf _ 2 _ _ _ gu
      simp at r0 r1 r2
      have f0' := frozen_of_row wf _ 0 _ _ gu
      have f1' := frozen_of_row wf _ 1 _ _ gu
      have f2' := frozen_of_row wf _ 2 _ _ gu
      have l2 := lt_of_block gu
      have zu := Ct.out.size
      have zw := Cf.out.size
      have gn : gv ≠ w9.heap.size := by omega
      obtain ⟨wg, hwg⟩ : ∃ wg, ((wf.setCell ⟨w9.heap.size, 0, none⟩ (.int .i64 rt.x)).setCell ⟨w9.heap.size, 1, none⟩ (.int .i64 rt.y)).setCell ⟨w9.heap.size, 2, none⟩ (.int .i64 (rt.d : Int)) = wg := ⟨_, rfl⟩
      have hbv : wg.heap[gv]? = wf.heap[gv]? := by rw [← hwg, Below.heap_setCell _ _ _ _ (by simpa using gn), Below.heap_setCell _ _ _ _ (by simpa using gn), Below.heap_setCell _ _ _ _ (by simpa using gn)]
      have zg : wg.heap.size = wf.heap.size := by rw [← hwg, World.size_setCell, World.size_setCell, World.size_setCell]
      have AV := hide' (show ArgS wg vs (some ⟨gv, 0, none⟩) vs.length qv from ⟨rfl, av.max, fun i hi => by
        obtain ⟨g', off, e', hg', p0, p1, p2⟩ := av.cells i hi
        cases e'
        exact ⟨gv, 0, rfl, by rw [zg]; exact hg', (World.cell?_of_block (w := wf) (a := ⟨gv, 0 + i * 3, none⟩) hbv).trans p0, (World.cell?_of_block (w := wf) (a := ⟨gv, 0 + i * 3 + 1, none⟩) hbv).trans p1, (World.cell?_of_block (w := wf) (a := ⟨gv, 0 + i * 3 + 2, none⟩) hbv).trans p2⟩⟩)
      have GUG := hide' (show wg.heap[w9.heap.size]? = some (.cells #[.int .i64 rt.x, .int .i64 rt.y, .int .i64 (rt.d : Int)] 40 (0, 0)) by
        rw [← hwg, heap_setCell_same _ _ _ _ _ _ (heap_setCell_same _ _ _ _ _ _ (heap_setCell_same _ _ _ _ _ _ gu))]; rfl)
      have Cg := hide' (show Below w1.heap.size w1 wg by rw [← hwg]; exact ((Cf.out.setCell (by simp; omega) _).setCell (by simp; omega) _).setCell (by simp; omega) _)
      have SVS := hide' sv
      clear c0 c1 c2 c3 c4 c5 c6 d0 d1 d2 t0 t1 t2 bf gu av sv hbv gn fr
      by_cases big : (k : Int) > 100000 - (jn : Int)
      · go_wp2
        go_ret
        exact ⟨rfl, BW.out _ Cg.out⟩
      · have hok3 : AntOk o xs x y (d : Int) ((k + jn : Nat) : Int) := by
          obtain ⟨h1, h2, h3, h4, h5, h6, h7, h8⟩ := HOK.out
          exact ⟨h1, h2, h3, h4, h5, h6, by omega, by push_cast; omega⟩
        have R2 := hide' (run_first o a n c xs b xs.length e x y d (k + jn) wg (AR.out _ Cg.out) (AS.out _ Cg.out) hok3)
        rw [HRT.out, show ((k + jn : Nat) : Int) = (k : Int) + (jn : Int) by push_cast; rfl] at R2
        obtain ⟨c0, c1, c2, c3, c4, c5, c6, d0, d1, d2⟩ := SV.out _ Cg.out
        clear hok3
        go_wp2_with fail
        try rw [hwg]
        clear hwg
        refine R2.out.mono ?_
        rintro e' wh ⟨us, gw, qw, rfl, au, su, bh⟩
        have uv : us = vs := spots_one su SVS.out
        subst uv
        have Ch := hide' (Cg.out.trans (bh.mono Cg.out.size))
        obtain ⟨wi, hwi⟩ : ∃ wi, wh.alloc (.cells #[.int .i64 rt.x, .int .i64 rt.y, .int .i64 (rt.d : Int)] 40) = wi := ⟨_, rfl⟩
        have bi : Below wh.heap.size wh wi := by rw [← hwi]; exact (Below.refl _ _).alloc (Nat.le_refl _) _
        have GI := hide' (show wi.heap[wh.heap.size]? = some (.cells #[.int .i64 rt.x, .int .i64 rt.y, .int .i64 (rt.d : Int)] 40 (0, 0)) by rw [← hwi]; exact heap_alloc_new _ _)
        have Ci := hide' (Ch.out.trans (bi.mono Ch.out.size))
        have GUI := hide' ((bi.block _ (Nat.lt_of_lt_of_le (lt_of_block GUG.out) bh.size)).trans ((bh.block _ (lt_of_block GUG.out)).trans GUG.out))
        have SS2 := hide' (spots_same us us (some ⟨gv, 0, none⟩) (some ⟨gw, 0, none⟩) us.length qv us.length qw wi ((AV.out.below bh).below bi) (au.below bi))
        rw [decide_eq_true (rfl : us = us)] at SS2
        clear c0 c1 c2 c3 c4 c5 c6 d0 d1 d2 au su bh bi r0 r1 r2 f0' f1' f2' l2
        go_wp2_with fail
        try rw [hwi]
        clear hwi
        refine SS2.out.mono ?_
        rintro e' wj ⟨rfl, bj⟩
        have Cj := hide' (Ci.out.trans (bj.mono Ci.out.size))
        have gj := (bj.block _ (lt_of_block GI.out)).trans GI.out
        have gk := (bj.block _ (lt_of_block GUI.out)).trans GUI.out
        have i0 := cell_of_row wj _ 0 _ _ _ gj
        have i1 := cell_of_row wj _ 1 _ _ _ gj
        have i2 := cell_of_row wj _ 2 _ _ _ gj
        have k0 := cell_of_row wj _ 0 _ _ _ gk
        have k1 := cell_of_row wj _ 1 _ _ _ gk
        have k2 := cell_of_row wj _ 2 _ _ _ gk
        simp at i0 i1 i2 k0 k1 k2
        have WE2 := fun V => (walker_eq (rt.x, rt.y, (rt.d : Int)) (rt.x, rt.y, (rt.d : Int)) V).trans (by rw [decide_eq_true rfl])
        simp only at WE2
        clear bj gj gk
        go_wp2
        go_ret
        exact ⟨rfl, BW.out _ Cj.out⟩

  · have p0 := cell_of_row wb _ 0 _ _ _ Gub.out
    have p1 := cell_of_row wb _ 1 _ _ _ Gub.out
    have p2 := cell_of_row wb _ 2 _ _ _ Gub.out
    simp at p0 p1 p2
    obtain ⟨c0, c1, c2, c3, c4, c5, c6, d0, d1, d2⟩ := SV.out _ Cb.out
    have RHM := hide' (RH.out zs (some ⟨g9, 0, none⟩) q9 wb bt HBT.out SZ.out HG.out (AR.out _ Cb.out) AZb.out)
    go_wp2_with fail
    refine RHM.out.mono ?_
    rintro e' wc ⟨gc, qc, rfl, ac, bc⟩
    have Cc := hide' (Cb.out.trans (bc.mono Cb.out.size))
    obtain ⟨wd, hwd⟩ : ∃ wd, wc.alloc (.cells #[.int .i64 x, .int .i64 y, .int .i64 (d : Int)] 40) = wd := ⟨_, rfl⟩
    have bd : Below wc.heap.size wc wd := by rw [← hwd]; exact (Below.refl _ _).alloc (Nat.le_refl _) _
    have Gd := hide' (show wd.heap[wc.heap.size]? = some (.cells #[.int .i64 x, .int .i64 y, .int .i64 (d : Int)] 40 (0, 0)) by rw [← hwd]; exact heap_alloc_new _ _)
    have Cd := hide' (Cc.out.trans (bd.mono Cc.out.size))
    have Gud := hide' ((bd.block _ (Nat.lt_of_lt_of_le (lt_of_block Gub.out) bc.size)).trans ((bc.block _ (lt_of_block Gub.out)).trans Gub.out))
    have G5d := hide' ((bd.block _ (Nat.lt_of_lt_of_le (lt_of_block G5b.out) bc.size)).trans ((bc.block _ (lt_of_block G5b.out)).trans G5b.out))
    have AYd := hide' ((AYb.out.below bc).below bd)
    have SS3 := hide' (spots_same xs xs (some ⟨gc, 0, none⟩) b xs.length qc xs.length e wd (ac.below bd) (AS.out _ Cd.out))
    rw [decide_eq_true (rfl : xs = xs)] at SS3
    clear c0 c1 c2 c3 c4 c5 c6 d0 d1 d2 p0 p1 p2 ac bc bd
    go_wp2_with fail
    try rw [hwd]
    clear hwd
    refine SS3.out.mono ?_
    rintro e' wt ⟨rfl, bt'⟩
    have Ct := hide' (Cd.out.trans (bt'.mono Cd.out.size))
    have gd := (bt'.block _ (lt_of_block Gd.out)).trans Gd.out
    have Gut := hide' ((bt'.block _ (lt_of_block Gud.out)).trans Gud.out)
    have G5t := hide' ((bt'.block _ (lt_of_block G5d.out)).trans G5d.out)
    have AYt := hide' (AYd.out.below bt')
    have y0 := cell_of_row wt _ 0 _ _ _ gd
    have y1 := cell_of_row wt _ 1 _ _ _ gd
    have y2 := cell_of_row wt _ 2 _ _ _ gd
    simp at y0 y1 y2
    have WE := fun V => (walker_eq (x, y, (d : Int)) (x, y, (d : Int)) V).trans (by rw [decide_eq_true rfl])
    simp only at WE
    clear bt' gd Cb G5b Gub AYb AZb
    obtain ⟨c0, c1, c2, c3, c4, c5, c6, d0, d1, d2⟩ := SV.out _ Ct.out
    have t0 := cell_of_row wt _ 0 _ _ _ G5t.out
    have t1 := cell_of_row wt _ 1 _ _ _ G5t.out
    have t2 := cell_of_row wt _ 2 _ _ _ G5t.out
    simp at t0 t1 t2
    have zt := lt_of_block Gut.out
    by_cases jb : j < 0 ∨ 100000 < j
    · have MB := hide' (more_bad o a n c ys j (some ⟨g, 0, none⟩) q wt st jb (AR.out _ Ct.out) AYt.out)
      clear jb
      go_wp2_with fail
      refine MB.out.mono ?_
      rintro e' wf ⟨f, f0, rfl, bf⟩
      have EP := hide' (errOf_posB f0)
      rw [EP.out]
      have gu := (bf.block _ zt).trans Gut.out
      have Cf := hide' (Ct.out.trans (bf.mono Ct.out.size))
      have r0 := cell_of_row wf _ 0 _ _ _ gu
      have r1 := cell_of_row wf _ 1 _ _ _ gu
      have r2 := cell_of_row wf _ 2 _ _ _ gu
      simp at r0 r1 r2
      have f0' := frozen_of_row wf _ 0 _ _ gu
      have f1' := frozen_of_row wf _ 1 _ _ gu
      have f2' := frozen_of_row wf _ 2 _ _ gu
      have l2 := lt_of_block gu
      have zu := Ct.out.size
      have zw := Cf.out.size
      clear c0 c1 c2 c3 c4 c5 c6 d0 d1 d2 t0 t1 t2 bf f0 gu
      go_wp2
      go_ret
      exact ⟨rfl, BW.out _ (((Cf.out.setCell (by simp; omega) _).setCell (by simp; omega) _).setCell (by simp; omega) _)⟩
    · obtain ⟨jn, rfl⟩ : ∃ jn : Nat, j = (jn : Int) := ⟨j.toNat, by omega⟩
      have j1 : jn ≤ 100000 := by omega
      have RMM := hide' (RM.out ys jn (some ⟨g, 0, none⟩) q wt st HST.out SO.out HB.out j1 (AR.out _ Ct.out) AYt.out)
      have kk : k ≤ 100000 := by omega
      obtain ⟨rt, hrt⟩ : ∃ rt, runA (trB o.turns) o.turns.size (s0A xs x y d) (k + jn) = rt := ⟨_, rfl⟩
      rw [hrt] at RMM
      have HRT := hide' hrt
      clear hrt jb
      go_wp2_with fail
      refine RMM.out.mono ?_
      rintro e' wf ⟨vs, gv, qv, rfl, av, sv, bf, fr⟩
      have gu := (bf.block _ zt).trans Gut.out
      have Cf := hide' (Ct.out.trans (bf.mono Ct.out.size))
      have r0 := cell_of_row wf _ 0 _ _ _ gu
      have r1 := cell_of_row wf _ 1 _ _ _ gu
      have r2 := cell_of_row wf _ 2 _ _ _ gu
      simp at r0 r1 r2
      have f0' := frozen_of_row wf _ 0 _ _ gu
      have f1' := frozen_of_row wf _ 1 _ _ gu
      have f2' := frozen_of_row wf _ 2 _ _ gu
      have l2 := lt_of_block gu
      have zu := Ct.out.size
      have zw := Cf.out.size
      have gn : gv ≠ w9.heap.size := by omega
      obtain ⟨wg, hwg⟩ : ∃ wg, ((wf.setCell ⟨w9.heap.size, 0, none⟩ (.int .i64 rt.x)).setCell ⟨w9.heap.size, 1, none⟩ (.int .i64 rt.y)).setCell ⟨w9.heap.size, 2, none⟩ (.int .i64 (rt.d : Int)) = wg := ⟨_, rfl⟩
      have hbv : wg.heap[gv]? = wf.heap[gv]? := by rw [← hwg, Below.heap_setCell _ _ _ _ (by simpa using gn), Below.heap_setCell _ _ _ _ (by simpa using gn), Below.heap_setCell _ _ _ _ (by simpa using gn)]
      have zg : wg.heap.size = wf.heap.size := by rw [← hwg, World.size_setCell, World.size_setCell, World.size_setCell]
      have AV := hide' (show ArgS wg vs (some ⟨gv, 0, none⟩) vs.length qv from ⟨rfl, av.max, fun i hi => by
        obtain ⟨g', off, e', hg', p0, p1, p2⟩ := av.cells i hi
        cases e'
        exact ⟨gv, 0, rfl, by rw [zg]; exact hg', (World.cell?_of_block (w := wf) (a := ⟨gv, 0 + i * 3, none⟩) hbv).trans p0, (World.cell?_of_block (w := wf) (a := ⟨gv, 0 + i * 3 + 1, none⟩) hbv).trans p1, (World.cell?_of_block (w := wf) (a := ⟨gv, 0 + i * 3 + 2, none⟩) hbv).trans p2⟩⟩)
      have GUG := hide' (show wg.heap[w9.heap.size]? = some (.cells #[.int .i64 rt.x, .int .i64 rt.y, .int .i64 (rt.d : Int)] 40 (0, 0)) by
        rw [← hwg, heap_setCell_same _ _ _ _ _ _ (heap_setCell_same _ _ _ _ _ _ (heap_setCell_same _ _ _ _ _ _ gu))]; rfl)
      have Cg := hide' (show Below w1.heap.size w1 wg by rw [← hwg]; exact ((Cf.out.setCell (by simp; omega) _).setCell (by simp; omega) _).setCell (by simp; omega) _)
      have SVS := hide' sv
      clear c0 c1 c2 c3 c4 c5 c6 d0 d1 d2 t0 t1 t2 bf gu av sv hbv gn fr
      by_cases big : (k : Int) > 100000 - (jn : Int)
      · go_wp2
        go_ret
        exact ⟨rfl, BW.out _ Cg.out⟩
      · have hok3 : AntOk o xs x y (d : Int) ((k + jn : Nat) : Int) := by
          obtain ⟨h1, h2, h3, h4, h5, h6, h7, h8⟩ := HOK.out
          exact ⟨h1, h2, h3, h4, h5, h6, by omega, by push_cast; omega⟩
        have R2 := hide' (run_first o a n c xs b xs.length e x y d (k + jn) wg (AR.out _ Cg.out) (AS.out _ Cg.out) hok3)
        rw [HRT.out, show ((k + jn : Nat) : Int) = (k : Int) + (jn : Int) by push_cast; rfl] at R2
        obtain ⟨c0, c1, c2, c3, c4, c5, c6, d0, d1, d2⟩ := SV.out _ Cg.out
        clear hok3
        go_wp2_with fail
        try rw [hwg]
        clear hwg
        refine R2.out.mono ?_
        rintro e' wh ⟨us, gw, qw, rfl, au, su, bh⟩
        have uv : us = vs := spots_one su SVS.out
        subst uv
        have Ch := hide' (Cg.out.trans (bh.mono Cg.out.size))
        obtain ⟨wi, hwi⟩ : ∃ wi, wh.alloc (.cells #[.int .i64 rt.x, .int .i64 rt.y, .int .i64 (rt.d : Int)] 40) = wi := ⟨_, rfl⟩
        have bi : Below wh.heap.size wh wi := by rw [← hwi]; exact (Below.refl _ _).alloc (Nat.le_refl _) _
        have GI := hide' (show wi.heap[wh.heap.size]? = some (.cells #[.int .i64 rt.x, .int .i64 rt.y, .int .i64 (rt.d : Int)] 40 (0, 0)) by rw [← hwi]; exact heap_alloc_new _ _)
        have Ci := hide' (Ch.out.trans (bi.mono Ch.out.size))
        have GUI := hide' ((bi.block _ (Nat.lt_of_lt_of_le (lt_of_block GUG.out) bh.size)).trans ((bh.block _ (lt_of_block GUG.out)).trans GUG.out))
        have SS2 := hide' (spots_same us us (some ⟨gv, 0, none⟩) (some ⟨gw, 0, none⟩) us.length qv us.length qw wi ((AV.out.below bh).below bi) (au.below bi))
        rw [decide_eq_true (rfl : us = us)] at SS2
        clear c0 c1 c2 c3 c4 c5 c6 d0 d1 d2 au su bh bi r0 r1 r2 f0' f1' f2' l2
        go_wp2_with fail
        try rw [hwi]
        clear hwi
        refine SS2.out.mono ?_
        rintro e' wj ⟨rfl, bj⟩
        have Cj := hide' (Ci.out.trans (bj.mono Ci.out.size))
        have gj := (bj.block _ (lt_of_block GI.out)).trans GI.out
        have gk := (bj.block _ (lt_of_block GUI.out)).trans GUI.out
        have i0 := cell_of_row wj _ 0 _ _ _ gj
        have i1 := cell_of_row wj _ 1 _ _ _ gj
        have i2 := cell_of_row wj _ 2 _ _ _ gj
        have k0 := cell_of_row wj _ 0 _ _ _ gk
        have k1 := cell_of_row wj _ 1 _ _ _ gk
        have k2 := cell_of_row wj _ 2 _ _ _ gk
        simp at i0 i1 i2 k0 k1 k2
        have WE2 := fun V => (walker_eq (rt.x, rt.y, (rt.d : Int)) (rt.x, rt.y, (rt.d : Int)) V).trans (by rw [decide_eq_true rfl])
        simp only at WE2
        clear bj gj gk
        go_wp2
        go_ret
        exact ⟨rfl, BW.out _ Cj.out⟩

end Go.Proofs.Ytbkllhlapdmlfaa

