/-
  What the last text of this claim leans on, part 47: LawL1, LawL2.
-/
import Derived.Test.YtjngjnkecnnmeaaDoorJb46
namespace Go.Proofs.YtjngjnkecnnmeaaDoor
open Go.RowKit
set_option linter.unusedVariables false

set_option maxRecDepth 100000 in
set_option maxHeartbeats 12800000 in
theorem law_back_ok_t_lo (W H : Nat) (k : Nat) (xs : List Int) (a : Option Addr) (c : Nat) (w : World) (hP : ArgP w xs a xs.length c) (hT : PowT w) (hc : xs.length ≤ c) (hcm : c ≤ maxLen) (lW : W ≤ 100) (lH : H ≤ 100) (hs : shapeF W H xs = 0) (hn : xs.length = W * H) (hk : k < 8) (ht0 : alikeB ⟨W, H, xs⟩ (drawnP W H xs) = true) (k4 : (k : Int) < 4) :
    Calls Tryd.prog 8 #[.agg #[.int .i64 (W : Int), .int .i64 (H : Int), .slice a xs.length c], .int .i64 (k : Int)] w fun e w' => e = .returned (.bool true) ∧ Below w.heap.size w w' := by
  obtain ⟨w1, hw1⟩ : ∃ w1, w.alloc (.cells #[.int .i64 (W : Int), .int .i64 (H : Int), .slice a xs.length c] 51) = w1 := ⟨_, rfl⟩
  have AP := hide' (show ArgP w1 xs a xs.length c by rw [← hw1]; exact hP.alloc _)
  have BX := hide' (show TB w.heap.size (.int .i64 (W : Int)) (.int .i64 (H : Int)) (.slice a xs.length c) w1 by rw [← hw1]; exact TB.new w _ _ _ _)
  have BB := hide' (show Below w.heap.size w w1 by rw [← hw1]; exact (Below.refl _ _).alloc (Nat.le_refl _) _)
  have HS := hide' hs
  have HT := hide' (hT.below BB.out)
  have HN := hide' hn
  have LW := hide' lW
  have LH := hide' lH
  have HC := hide' hc
  have HCM := hide' hcm
  have OK := hide' (show Pat.ok ⟨W, H, xs⟩ from hn)
  have BT := hide' (shape_bits01 hs)
  have RR := hide' (runs_back W H xs lW lH hn BT.out)
  have RD := hide' (draw_back W H xs lW lH hn BT.out)
  have SR := hide' (runs_size W H xs lW lH)
  have SD := hide' (draw_size W H xs lW lH)
  unfold txt at RR RD
  have FP := hide' (show Fits xs.length ⟨W, H, xs⟩ from ⟨OK.out, lW, lH, rfl⟩)
  have MP := hide' (show xs.length ≤ maxLen from FP.out.max)
  obtain ⟨rs, hrs⟩ : ∃ rs, (⟨(runsB ⟨W, H, xs⟩).toArray⟩ : ByteArray) = rs := ⟨_, rfl⟩
  obtain ⟨ds, hds⟩ : ∃ ds, (⟨(drawRows W xs H).toArray⟩ : ByteArray) = ds := ⟨_, rfl⟩
  rw [hrs] at RR SR
  rw [hds] at RD SD
  have RS := hide' hrs
  have DS := hide' hds
  obtain ⟨dp, hdp⟩ : ∃ dp, drawnP W H xs = dp := ⟨_, rfl⟩
  have DP := hide' (show drawS ds = .inl (dp.W, dp.H, dp.xs) by rw [RD.out, ← hdp]; rfl)
  have DM := hide' (show dp.xs.length ≤ maxLen by rw [← hdp]; exact MP.out)
  have T0 := hide' (show alikeB ⟨W, H, xs⟩ ⟨dp.W, dp.H, dp.xs⟩ = true by rw [← hdp]; exact ht0)
  have S0 := hide' (alikeB_self ⟨W, H, xs⟩)
  obtain ⟨up, hup⟩ : ∃ up, Pat.turn ⟨W, H, xs⟩ k = up := ⟨_, rfl⟩
  have UP := hide' hup
  have FU := hide' (turn_fits FP.out k hk)
  rw [hup] at FU
  have UB := hide' (show shapeF up.W up.H up.xs = 0 by rw [← hup]; exact turn_shape hs lW lH hn hk)
  have UU := hide' (show up.turn (undo k) = ⟨W, H, xs⟩ by rw [← hup]; exact turn_undo _ OK.out k hk)
  have UK := hide' (undo_lt hk)
  obtain ⟨cp, hcp⟩ : ∃ cp, canonP ⟨W, H, xs⟩ = cp := ⟨_, rfl⟩
  have CP := hide' hcp
  have CU := hide' (show canonP up = cp by rw [← hup, canon_turn _ k hk, hcp])
  have FT := hide' (trim_fits ⟨W, H, xs⟩ lW lH)
  have FC := hide' (show Fits (trimP ⟨W, H, xs⟩).1.xs.length (canonP ⟨W, H, xs⟩) from best_fits FT.out 7 (by omega))
  rw [hcp] at FC
  have i1 : ¬ (k : Int) < 0 := by omega
  have i2 : (k : Int) < 8 := by omega
  obtain ⟨j, hj⟩ : ∃ j, undo k = j := ⟨_, rfl⟩
  rw [hj] at UU UK
  have HJ := hide' hj
  have S1 := hide' (alikeB_self cp)
  have HK := hide' hk
  clear hup hcp hj hk
  clear hP hT hs hn hrs hds hdp lW lH hc hcm ht0
  have C0 := hide' (Below.refl w1.heap.size w1)
  obtain ⟨x0, x1, x2, -⟩ := BX.out
  go_enter Tryd.func8, Tryd.ntmps8
  go_wp2_with fail
  refine (parseRuns_ok factS ⟨2, 1, [0, 1]⟩ _ (by decide) fact_runs).mono ?_
  rintro e w2 ⟨v2, rfl, t2, f2, b⟩
  have C1 := hide' (C0.out.trans (b.mono C0.out.size))
  obtain ⟨a2, c2, rfl, -⟩ := t2.arg (by decide)
  clear hw1
  have C1' := hide' (C1.out.alloc C1.out.size (.cells #[.int .i64 2, .int .i64 1, .slice a2 2 c2] 51))
  clear C1
  have C1 := C1'
  clear C1'
  have Q0 := hide' (PV.new (q := ⟨2, 1, [0, 1]⟩) t2 51)
  obtain ⟨gq, hgq, q3, q4⟩ := fact_cell t2
  subst hgq
  clear t2 f2
  clear b x0 x1 x2 C0
  obtain ⟨x0, x1, x2, -⟩ := BX.out.next C1.out
  obtain ⟨q0, q1, q2, -⟩ := Q0.out.tb
  go_wp2_with fail
  refine (pRuns W H xs a xs.length c _ (AP.out.below C1.out) (HT.out.below C1.out) HC.out HCM.out LW.out LH.out HS.out HN.out).mono ?_
  rw [RS.out]
  rintro e w3 ⟨rfl, b⟩
  clear Q0
  have C2 := hide' (C1.out.trans (b.mono C1.out.size))
  clear q0 q1 q2 q3 q4
  clear b x0 x1 x2 C1
  obtain ⟨x0, x1, x2, -⟩ := BX.out.next C2.out
  go_wp2_with fail
  refine (parseRuns_ok rs ⟨W, H, xs⟩ _ SR.out RR.out).mono ?_
  rintro e w4 ⟨v4, rfl, t4, f4, b⟩
  have C3 := hide' (C2.out.trans (b.mono C2.out.size))
  obtain ⟨a4, c4, rfl, -⟩ := t4.arg MP.out
  have C3' := hide' (C3.out.alloc C3.out.size (.cells #[.int .i64 (W : Int), .int .i64 (H : Int), .slice a4 xs.length c4] 51))
  clear C3
  have C3 := C3'
  clear C3'
  have Z := hide' (PV.new (q := ⟨W, H, xs⟩) t4 51)
  clear t4 f4
  have HZ := hide' (show w1.heap.size ≤ w4.heap.size from (C2.out.trans (b.mono C2.out.size)).size)
  have ZB := hide' (show BoxZ _ _ from ⟨_, _, _, Z.out.tb⟩)
  clear b x0 x1 x2 C2
  obtain ⟨x0, x1, x2, -⟩ := BX.out.next C3.out
  obtain ⟨_, _, e0, ap⟩ := Z.out.tab.arg MP.out
  injection e0 with e1 _ e2
  subst e1 e2
  have AZ := hide' ap
  clear ap
  obtain ⟨q0, q1, q2, -⟩ := Z.out.tb
  go_wp2_with fail
  refine (back_P W H W H xs xs a _ c _ _ (AP.out.below C3.out) AZ.out).mono ?_
  rw [S0.out]
  rintro e w5 ⟨rfl, b⟩
  clear q0 q1 q2
  clear Z
  have C4 := hide' (C3.out.trans (b.mono C3.out.size))
  have ZB' := hide' (ZB.out.next b)
  clear ZB
  have ZB := ZB'
  clear ZB'
  clear AZ
  clear b x0 x1 x2 C3
  obtain ⟨x0, x1, x2, -⟩ := BX.out.next C4.out
  go_wp2_with fail
  refine (pDraw W H xs a xs.length c _ (AP.out.below C4.out) HC.out HCM.out LW.out LH.out HS.out HN.out).mono ?_
  rw [DS.out]
  rintro e w6 ⟨rfl, b⟩
  have C5 := hide' (C4.out.trans (b.mono C4.out.size))
  have ZB' := hide' (ZB.out.next b)
  clear ZB
  have ZB := ZB'
  clear ZB'
  clear b x0 x1 x2 C4
  obtain ⟨x0, x1, x2, -⟩ := BX.out.next C5.out
  go_wp2_with fail
  refine (parseDraw_ok ds dp _ SD.out DP.out).mono ?_
  rintro e w7 ⟨v7, rfl, t7, f7, b⟩
  have zl := ZB.out.lt
  have C6 := hide' (C5.out.trans (b.mono C5.out.size))
  have ZB' := hide' (ZB.out.next b)
  clear ZB
  have ZB := ZB'
  clear ZB'
  obtain ⟨a7, c7, rfl, -⟩ := t7.arg DM.out
  have C6' := hide' (below_stored C6.out (w4.heap.size) HZ.out (.int .i64 (dp.W : Int)) (.int .i64 (dp.H : Int)) (.slice a7 dp.xs.length c7))
  clear C6
  have C6 := C6'
  clear C6'
  have ZD := hide' (BoxZ.put (q := dp) ZB.out t7 (fun g k c e => by have := f7 g k c e; omega))
  obtain ⟨za, zb, zc, z0, z1, z2, zf⟩ := ZB.out
  have g0 := zf 0
  have g1 := zf 1
  have g2 := zf 2
  clear zl ZB zf t7 f7
  clear b x0 x1 x2 C5
  obtain ⟨x0, x1, x2, -⟩ := BX.out.next C6.out
  obtain ⟨y0, y1, y2, -⟩ := ZD.out.tb
  obtain ⟨_, _, e0, ap⟩ := ZD.out.tab.arg DM.out
  injection e0 with e1 _ e2
  subst e1 e2
  have AZ := hide' ap
  clear ap
  go_wp2_with fail
  refine (back_P W H dp.W dp.H xs dp.xs a _ c _ _ (AP.out.below C6.out) AZ.out).mono ?_
  rw [T0.out]
  rintro e w8 ⟨rfl, b⟩
  have C7 := hide' (C6.out.trans (b.mono C6.out.size))
  clear AZ ZD y0 y1 y2 z0 z1 z2 g0 g1 g2
  clear b x0 x1 x2 C6
  obtain ⟨x0, x1, x2, -⟩ := BX.out.next C7.out
  go_wp2_with fail
  refine (pTurn_ok' W H k xs a c _ (AP.out.below C7.out) OK.out LW.out LH.out HS.out HK.out).mono ?_
  rintro e w9 ⟨v9, rfl, t9, f9, b⟩
  have C8 := hide' (C7.out.trans (b.mono C7.out.size))
  rw [UP.out] at t9 ⊢
  obtain ⟨a9, c9, rfl, -⟩ := t9.arg FU.out.max
  have C8' := hide' (C8.out.alloc C8.out.size (.cells #[.int .i64 (up.W : Int), .int .i64 (up.H : Int), .slice a9 up.xs.length c9] 51))
  clear C8
  have C8 := C8'
  clear C8'
  have U := hide' (PV.new (q := up) t9 51)
  have CL := hide' (FreshC.caps f9 t9 rfl)
  clear t9 f9
  clear b x0 x1 x2 C7
  obtain ⟨x0, x1, x2, -⟩ := BX.out.next C8.out
  obtain ⟨_, _, e0, ap⟩ := U.out.tab.arg FU.out.max
  injection e0 with e1 _ e2
  subst e1 e2
  have AU := hide' ap
  clear ap
  obtain ⟨q0, q1, q2, -⟩ := U.out.tb
  go_wp2_with fail
  refine (pTurn_at up.W up.H j _ up.xs _ _ _ AU.out FU.out.ok FU.out.w FU.out.h UB.out UK.out (by have h := HJ.out; unfold undo at h; split at h <;> omega)).mono ?_
  rintro e w10 ⟨v10, rfl, t10, f10, b⟩
  clear q0 q1 q2
  have C9 := hide' (C8.out.trans (b.mono C8.out.size))
  have U' := hide' (U.out.next b)
  clear U
  have U := U'
  clear U'
  rw [UU.out] at t10 ⊢
  obtain ⟨a10, c10, rfl, -⟩ := t10.arg MP.out
  have AU' := hide' (AU.out.below b)
  clear AU
  have C9' := hide' (C9.out.alloc C9.out.size (.cells #[.int .i64 (W : Int), .int .i64 (H : Int), .slice a10 xs.length c10] 51))
  clear C9
  have C9 := C9'
  clear C9'
  have U' := hide' (U.out.alloc (.cells #[.int .i64 (W : Int), .int .i64 (H : Int), .slice a10 xs.length c10] 51))
  clear U
  have U := U'
  clear U'
  have V := hide' (PV.new (q := ⟨W, H, xs⟩) t10 51)
  clear t10 f10
  clear b x0 x1 x2 C8
  obtain ⟨x0, x1, x2, -⟩ := BX.out.next C9.out
  obtain ⟨_, _, e0, ap⟩ := V.out.tab.arg MP.out
  injection e0 with e1 _ e2
  subst e1 e2
  have AV := hide' ap
  clear ap
  obtain ⟨q0, q1, q2, -⟩ := V.out.tb
  go_wp2_with fail
  refine (back_P W H W H xs xs a _ c _ _ (AP.out.below C9.out) AV.out).mono ?_
  rw [S0.out]
  rintro e w11 ⟨rfl, b⟩
  clear q0 q1 q2
  clear V
  have C10 := hide' (C9.out.trans (b.mono C9.out.size))
  have U' := hide' (U.out.next b)
  clear U
  have U := U'
  clear U'
  clear AV
  clear b x0 x1 x2 C9
  obtain ⟨x0, x1, x2, -⟩ := BX.out.next C10.out
  go_wp2_with fail
  refine (pCanon W H xs a xs.length c _ (AP.out.below C10.out) HC.out HCM.out LW.out LH.out HS.out HN.out).mono ?_
  rintro e w12 ⟨v12, rfl, t12, f12, b⟩
  have C11 := hide' (C10.out.trans (b.mono C10.out.size))
  have U' := hide' (U.out.next b)
  clear U
  have U := U'
  clear U'
  rw [CP.out] at t12 ⊢
  obtain ⟨a12, c12, rfl, -⟩ := t12.arg FC.out.max
  have C11' := hide' (C11.out.alloc C11.out.size (.cells #[.int .i64 (cp.W : Int), .int .i64 (cp.H : Int), .slice a12 cp.xs.length c12] 51))
  clear C11
  have C11 := C11'
  clear C11'
  have U' := hide' (U.out.alloc (.cells #[.int .i64 (cp.W : Int), .int .i64 (cp.H : Int), .slice a12 cp.xs.length c12] 51))
  clear U
  have U := U'
  clear U'
  have A := hide' (PV.new (q := cp) t12 51)
  clear t12 f12
  clear b x0 x1 x2 C10
  obtain ⟨x0, x1, x2, -⟩ := BX.out.next C11.out
  obtain ⟨au, cu, e0, ap⟩ := U.out.tab.arg FU.out.max
  injection e0 with e1 _ e2
  subst e1 e2
  have AU := hide' ap
  clear ap AU'
  obtain ⟨q0, q1, q2, -⟩ := U.out.tb
  go_wp2_with fail
  refine (pCanon up.W up.H up.xs _ up.xs.length _ _ AU.out CL.out.1 CL.out.2 FU.out.w FU.out.h UB.out FU.out.ok).mono ?_
  rintro e w13 ⟨v13, rfl, t13, f13, b⟩
  clear q0 q1 q2
  clear U
  have C12 := hide' (C11.out.trans (b.mono C11.out.size))
  have A' := hide' (A.out.next b)
  clear A
  have A := A'
  clear A'
  rw [CU.out] at t13 ⊢
  obtain ⟨a13, c13, rfl, -⟩ := t13.arg FC.out.max
  clear AU
  have C12' := hide' (C12.out.alloc C12.out.size (.cells #[.int .i64 (cp.W : Int), .int .i64 (cp.H : Int), .slice a13 cp.xs.length c13] 51))
  clear C12
  have C12 := C12'
  clear C12'
  have A' := hide' (A.out.alloc (.cells #[.int .i64 (cp.W : Int), .int .i64 (cp.H : Int), .slice a13 cp.xs.length c13] 51))
  clear A
  have A := A'
  clear A'
  have B := hide' (PV.new (q := cp) t13 51)
  clear t13 f13
  clear b x0 x1 x2 C11
  obtain ⟨x0, x1, x2, -⟩ := BX.out.next C12.out
  obtain ⟨q0, q1, q2, -⟩ := A.out.tb
  obtain ⟨y0, y1, y2, -⟩ := B.out.tb
  go_wp2_with fail
  refine (Alike_same cp.W cp.H _ _ cp.xs _ A.out.tab B.out.tab FC.out.max).mono ?_
  rintro e w14 ⟨rfl, b⟩
  clear q0 q1 q2
  clear y0 y1 y2
  clear A
  clear B
  have C13 := hide' (C12.out.trans (b.mono C12.out.size))
  clear b x0 x1 x2 C12
  obtain ⟨x0, x1, x2, -⟩ := BX.out.next C13.out
  go_wp2
  go_ret
  exact ⟨rfl, BB.out.trans (C13.out.mono BB.out.size)⟩
end Go.Proofs.YtjngjnkecnnmeaaDoor

namespace Go.Proofs.YtjngjnkecnnmeaaDoor
open Go.RowKit
set_option linter.unusedVariables false

set_option maxRecDepth 100000 in
set_option maxHeartbeats 12800000 in
theorem law_back_ok_t_hi (W H : Nat) (k : Nat) (xs : List Int) (a : Option Addr) (c : Nat) (w : World) (hP : ArgP w xs a xs.length c) (hT : PowT w) (hc : xs.length ≤ c) (hcm : c ≤ maxLen) (lW : W ≤ 100) (lH : H ≤ 100) (hs : shapeF W H xs = 0) (hn : xs.length = W * H) (hk : k < 8) (ht0 : alikeB ⟨W, H, xs⟩ (drawnP W H xs) = true) (k4 : ¬ (k : Int) < 4) :
    Calls Tryd.prog 8 #[.agg #[.int .i64 (W : Int), .int .i64 (H : Int), .slice a xs.length c], .int .i64 (k : Int)] w fun e w' => e = .returned (.bool true) ∧ Below w.heap.size w w' := by
  obtain ⟨w1, hw1⟩ : ∃ w1, w.alloc (.cells #[.int .i64 (W : Int), .int .i64 (H : Int), .slice a xs.length c] 51) = w1 := ⟨_, rfl⟩
  have AP := hide' (show ArgP w1 xs a xs.length c by rw [← hw1]; exact hP.alloc _)
  have BX := hide' (show TB w.heap.size (.int .i64 (W : Int)) (.int .i64 (H : Int)) (.slice a xs.length c) w1 by rw [← hw1]; exact TB.new w _ _ _ _)
  have BB := hide' (show Below w.heap.size w w1 by rw [← hw1]; exact (Below.refl _ _).alloc (Nat.le_refl _) _)
  have HS := hide' hs
  have HT := hide' (hT.below BB.out)
  have HN := hide' hn
  have LW := hide' lW
  have LH := hide' lH
  have HC := hide' hc
  have HCM := hide' hcm
  have OK := hide' (show Pat.ok ⟨W, H, xs⟩ from hn)
  have BT := hide' (shape_bits01 hs)
  have RR := hide' (runs_back W H xs lW lH hn BT.out)
  have RD := hide' (draw_back W H xs lW lH hn BT.out)
  have SR := hide' (runs_size W H xs lW lH)
  have SD := hide' (draw_size W H xs lW lH)
  unfold txt at RR RD
  have FP := hide' (show Fits xs.length ⟨W, H, xs⟩ from ⟨OK.out, lW, lH, rfl⟩)
  have MP := hide' (show xs.length ≤ maxLen from FP.out.max)
  obtain ⟨rs, hrs⟩ : ∃ rs, (⟨(runsB ⟨W, H, xs⟩).toArray⟩ : ByteArray) = rs := ⟨_, rfl⟩
  obtain ⟨ds, hds⟩ : ∃ ds, (⟨(drawRows W xs H).toArray⟩ : ByteArray) = ds := ⟨_, rfl⟩
  rw [hrs] at RR SR
  rw [hds] at RD SD
  have RS := hide' hrs
  have DS := hide' hds
  obtain ⟨dp, hdp⟩ : ∃ dp, drawnP W H xs = dp := ⟨_, rfl⟩
  have DP := hide' (show drawS ds = .inl (dp.W, dp.H, dp.xs) by rw [RD.out, ← hdp]; rfl)
  have DM := hide' (show dp.xs.length ≤ maxLen by rw [← hdp]; exact MP.out)
  have T0 := hide' (show alikeB ⟨W, H, xs⟩ ⟨dp.W, dp.H, dp.xs⟩ = true by rw [← hdp]; exact ht0)
  have S0 := hide' (alikeB_self ⟨W, H, xs⟩)
  obtain ⟨up, hup⟩ : ∃ up, Pat.turn ⟨W, H, xs⟩ k = up := ⟨_, rfl⟩
  have UP := hide' hup
  have FU := hide' (turn_fits FP.out k hk)
  rw [hup] at FU
  have UB := hide' (show shapeF up.W up.H up.xs = 0 by rw [← hup]; exact turn_shape hs lW lH hn hk)
  have UU := hide' (show up.turn (undo k) = ⟨W, H, xs⟩ by rw [← hup]; exact turn_undo _ OK.out k hk)
  have UK := hide' (undo_lt hk)
  obtain ⟨cp, hcp⟩ : ∃ cp, canonP ⟨W, H, xs⟩ = cp := ⟨_, rfl⟩
  have CP := hide' hcp
  have CU := hide' (show canonP up = cp by rw [← hup, canon_turn _ k hk, hcp])
  have FT := hide' (trim_fits ⟨W, H, xs⟩ lW lH)
  have FC := hide' (show Fits (trimP ⟨W, H, xs⟩).1.xs.length (canonP ⟨W, H, xs⟩) from best_fits FT.out 7 (by omega))
  rw [hcp] at FC
  have i1 : ¬ (k : Int) < 0 := by omega
  have i2 : (k : Int) < 8 := by omega
  obtain ⟨j, hj⟩ : ∃ j, undo k = j := ⟨_, rfl⟩
  rw [hj] at UU UK
  have HJ := hide' hj
  have S1 := hide' (alikeB_self cp)
  have HK := hide' hk
  clear hup hcp hj hk
  clear hP hT hs hn hrs hds hdp lW lH hc hcm ht0
  have C0 := hide' (Below.refl w1.heap.size w1)
  obtain ⟨x0, x1, x2, -⟩ := BX.out
  go_enter Tryd.func8, Tryd.ntmps8
  go_wp2_with fail
  refine (parseRuns_ok factS ⟨2, 1, [0, 1]⟩ _ (by decide) fact_runs).mono ?_
  rintro e w2 ⟨v2, rfl, t2, f2, b⟩
  have C1 := hide' (C0.out.trans (b.mono C0.out.size))
  obtain ⟨a2, c2, rfl, -⟩ := t2.arg (by decide)
  clear hw1
  have C1' := hide' (C1.out.alloc C1.out.size (.cells #[.int .i64 2, .int .i64 1, .slice a2 2 c2] 51))
  clear C1
  have C1 := C1'
  clear C1'
  have Q0 := hide' (PV.new (q := ⟨2, 1, [0, 1]⟩) t2 51)
  obtain ⟨gq, hgq, q3, q4⟩ := fact_cell t2
  subst hgq
  clear t2 f2
  clear b x0 x1 x2 C0
  obtain ⟨x0, x1, x2, -⟩ := BX.out.next C1.out
  obtain ⟨q0, q1, q2, -⟩ := Q0.out.tb
  go_wp2_with fail
  refine (pRuns W H xs a xs.length c _ (AP.out.below C1.out) (HT.out.below C1.out) HC.out HCM.out LW.out LH.out HS.out HN.out).mono ?_
  rw [RS.out]
  rintro e w3 ⟨rfl, b⟩
  clear Q0
  have C2 := hide' (C1.out.trans (b.mono C1.out.size))
  clear q0 q1 q2 q3 q4
  clear b x0 x1 x2 C1
  obtain ⟨x0, x1, x2, -⟩ := BX.out.next C2.out
  go_wp2_with fail
  refine (parseRuns_ok rs ⟨W, H, xs⟩ _ SR.out RR.out).mono ?_
  rintro e w4 ⟨v4, rfl, t4, f4, b⟩
  have C3 := hide' (C2.out.trans (b.mono C2.out.size))
  obtain ⟨a4, c4, rfl, -⟩ := t4.arg MP.out
  have C3' := hide' (C3.out.alloc C3.out.size (.cells #[.int .i64 (W : Int), .int .i64 (H : Int), .slice a4 xs.length c4] 51))
  clear C3
  have C3 := C3'
  clear C3'
  have Z := hide' (PV.new (q := ⟨W, H, xs⟩) t4 51)
  clear t4 f4
  have HZ := hide' (show w1.heap.size ≤ w4.heap.size from (C2.out.trans (b.mono C2.out.size)).size)
  have ZB := hide' (show BoxZ _ _ from ⟨_, _, _, Z.out.tb⟩)
  clear b x0 x1 x2 C2
  obtain ⟨x0, x1, x2, -⟩ := BX.out.next C3.out
  obtain ⟨_, _, e0, ap⟩ := Z.out.tab.arg MP.out
  injection e0 with e1 _ e2
  subst e1 e2
  have AZ := hide' ap
  clear ap
  obtain ⟨q0, q1, q2, -⟩ := Z.out.tb
  go_wp2_with fail
  refine (back_P W H W H xs xs a _ c _ _ (AP.out.below C3.out) AZ.out).mono ?_
  rw [S0.out]
  rintro e w5 ⟨rfl, b⟩
  clear q0 q1 q2
  clear Z
  have C4 := hide' (C3.out.trans (b.mono C3.out.size))
  have ZB' := hide' (ZB.out.next b)
  clear ZB
  have ZB := ZB'
  clear ZB'
  clear AZ
  clear b x0 x1 x2 C3
  obtain ⟨x0, x1, x2, -⟩ := BX.out.next C4.out
  go_wp2_with fail
  refine (pDraw W H xs a xs.length c _ (AP.out.below C4.out) HC.out HCM.out LW.out LH.out HS.out HN.out).mono ?_
  rw [DS.out]
  rintro e w6 ⟨rfl, b⟩
  have C5 := hide' (C4.out.trans (b.mono C4.out.size))
  have ZB' := hide' (ZB.out.next b)
  clear ZB
  have ZB := ZB'
  clear ZB'
  clear b x0 x1 x2 C4
  obtain ⟨x0, x1, x2, -⟩ := BX.out.next C5.out
  go_wp2_with fail
  refine (parseDraw_ok ds dp _ SD.out DP.out).mono ?_
  rintro e w7 ⟨v7, rfl, t7, f7, b⟩
  have zl := ZB.out.lt
  have C6 := hide' (C5.out.trans (b.mono C5.out.size))
  have ZB' := hide' (ZB.out.next b)
  clear ZB
  have ZB := ZB'
  clear ZB'
  obtain ⟨a7, c7, rfl, -⟩ := t7.arg DM.out
  have C6' := hide' (below_stored C6.out (w4.heap.size) HZ.out (.int .i64 (dp.W : Int)) (.int .i64 (dp.H : Int)) (.slice a7 dp.xs.length c7))
  clear C6
  have C6 := C6'
  clear C6'
  have ZD := hide' (BoxZ.put (q := dp) ZB.out t7 (fun g k c e => by have := f7 g k c e; omega))
  obtain ⟨za, zb, zc, z0, z1, z2, zf⟩ := ZB.out
  have g0 := zf 0
  have g1 := zf 1
  have g2 := zf 2
  clear zl ZB zf t7 f7
  clear b x0 x1 x2 C5
  obtain ⟨x0, x1, x2, -⟩ := BX.out.next C6.out
  obtain ⟨y0, y1, y2, -⟩ := ZD.out.tb
  obtain ⟨_, _, e0, ap⟩ := ZD.out.tab.arg DM.out
  injection e0 with e1 _ e2
  subst e1 e2
  have AZ := hide' ap
  clear ap
  go_wp2_with fail
  refine (back_P W H dp.W dp.H xs dp.xs a _ c _ _ (AP.out.below C6.out) AZ.out).mono ?_
  rw [T0.out]
  rintro e w8 ⟨rfl, b⟩
  have C7 := hide' (C6.out.trans (b.mono C6.out.size))
  clear AZ ZD y0 y1 y2 z0 z1 z2 g0 g1 g2
  clear b x0 x1 x2 C6
  obtain ⟨x0, x1, x2, -⟩ := BX.out.next C7.out
  go_wp2_with fail
  refine (pTurn_ok' W H k xs a c _ (AP.out.below C7.out) OK.out LW.out LH.out HS.out HK.out).mono ?_
  rintro e w9 ⟨v9, rfl, t9, f9, b⟩
  have C8 := hide' (C7.out.trans (b.mono C7.out.size))
  rw [UP.out] at t9 ⊢
  obtain ⟨a9, c9, rfl, -⟩ := t9.arg FU.out.max
  have C8' := hide' (C8.out.alloc C8.out.size (.cells #[.int .i64 (up.W : Int), .int .i64 (up.H : Int), .slice a9 up.xs.length c9] 51))
  clear C8
  have C8 := C8'
  clear C8'
  have U := hide' (PV.new (q := up) t9 51)
  have CL := hide' (FreshC.caps f9 t9 rfl)
  clear t9 f9
  clear b x0 x1 x2 C7
  obtain ⟨x0, x1, x2, -⟩ := BX.out.next C8.out
  obtain ⟨_, _, e0, ap⟩ := U.out.tab.arg FU.out.max
  injection e0 with e1 _ e2
  subst e1 e2
  have AU := hide' ap
  clear ap
  obtain ⟨q0, q1, q2, -⟩ := U.out.tb
  go_wp2_with fail
  refine (pTurn_at up.W up.H j _ up.xs _ _ _ AU.out FU.out.ok FU.out.w FU.out.h UB.out UK.out (by have h := HJ.out; unfold undo at h; split at h <;> omega)).mono ?_
  rintro e w10 ⟨v10, rfl, t10, f10, b⟩
  clear q0 q1 q2
  have C9 := hide' (C8.out.trans (b.mono C8.out.size))
  have U' := hide' (U.out.next b)
  clear U
  have U := U'
  clear U'
  rw [UU.out] at t10 ⊢
  obtain ⟨a10, c10, rfl, -⟩ := t10.arg MP.out
  have AU' := hide' (AU.out.below b)
  clear AU
  have C9' := hide' (C9.out.alloc C9.out.size (.cells #[.int .i64 (W : Int), .int .i64 (H : Int), .slice a10 xs.length c10] 51))
  clear C9
  have C9 := C9'
  clear C9'
  have U' := hide' (U.out.alloc (.cells #[.int .i64 (W : Int), .int .i64 (H : Int), .slice a10 xs.length c10] 51))
  clear U
  have U := U'
  clear U'
  have V := hide' (PV.new (q := ⟨W, H, xs⟩) t10 51)
  clear t10 f10
  clear b x0 x1 x2 C8
  obtain ⟨x0, x1, x2, -⟩ := BX.out.next C9.out
  obtain ⟨_, _, e0, ap⟩ := V.out.tab.arg MP.out
  injection e0 with e1 _ e2
  subst e1 e2
  have AV := hide' ap
  clear ap
  obtain ⟨q0, q1, q2, -⟩ := V.out.tb
  go_wp2_with fail
  refine (back_P W H W H xs xs a _ c _ _ (AP.out.below C9.out) AV.out).mono ?_
  rw [S0.out]
  rintro e w11 ⟨rfl, b⟩
  clear q0 q1 q2
  clear V
  have C10 := hide' (C9.out.trans (b.mono C9.out.size))
  have U' := hide' (U.out.next b)
  clear U
  have U := U'
  clear U'
  clear AV
  clear b x0 x1 x2 C9
  obtain ⟨x0, x1, x2, -⟩ := BX.out.next C10.out
  go_wp2_with fail
  refine (pCanon W H xs a xs.length c _ (AP.out.below C10.out) HC.out HCM.out LW.out LH.out HS.out HN.out).mono ?_
  rintro e w12 ⟨v12, rfl, t12, f12, b⟩
  have C11 := hide' (C10.out.trans (b.mono C10.out.size))
  have U' := hide' (U.out.next b)
  clear U
  have U := U'
  clear U'
  rw [CP.out] at t12 ⊢
  obtain ⟨a12, c12, rfl, -⟩ := t12.arg FC.out.max
  have C11' := hide' (C11.out.alloc C11.out.size (.cells #[.int .i64 (cp.W : Int), .int .i64 (cp.H : Int), .slice a12 cp.xs.length c12] 51))
  clear C11
  have C11 := C11'
  clear C11'
  have U' := hide' (U.out.alloc (.cells #[.int .i64 (cp.W : Int), .int .i64 (cp.H : Int), .slice a12 cp.xs.length c12] 51))
  clear U
  have U := U'
  clear U'
  have A := hide' (PV.new (q := cp) t12 51)
  clear t12 f12
  clear b x0 x1 x2 C10
  obtain ⟨x0, x1, x2, -⟩ := BX.out.next C11.out
  obtain ⟨au, cu, e0, ap⟩ := U.out.tab.arg FU.out.max
  injection e0 with e1 _ e2
  subst e1 e2
  have AU := hide' ap
  clear ap AU'
  obtain ⟨q0, q1, q2, -⟩ := U.out.tb
  go_wp2_with fail
  refine (pCanon up.W up.H up.xs _ up.xs.length _ _ AU.out CL.out.1 CL.out.2 FU.out.w FU.out.h UB.out FU.out.ok).mono ?_
  rintro e w13 ⟨v13, rfl, t13, f13, b⟩
  clear q0 q1 q2
  clear U
  have C12 := hide' (C11.out.trans (b.mono C11.out.size))
  have A' := hide' (A.out.next b)
  clear A
  have A := A'
  clear A'
  rw [CU.out] at t13 ⊢
  obtain ⟨a13, c13, rfl, -⟩ := t13.arg FC.out.max
  clear AU
  have C12' := hide' (C12.out.alloc C12.out.size (.cells #[.int .i64 (cp.W : Int), .int .i64 (cp.H : Int), .slice a13 cp.xs.length c13] 51))
  clear C12
  have C12 := C12'
  clear C12'
  have A' := hide' (A.out.alloc (.cells #[.int .i64 (cp.W : Int), .int .i64 (cp.H : Int), .slice a13 cp.xs.length c13] 51))
  clear A
  have A := A'
  clear A'
  have B := hide' (PV.new (q := cp) t13 51)
  clear t13 f13
  clear b x0 x1 x2 C11
  obtain ⟨x0, x1, x2, -⟩ := BX.out.next C12.out
  obtain ⟨q0, q1, q2, -⟩ := A.out.tb
  obtain ⟨y0, y1, y2, -⟩ := B.out.tb
  go_wp2_with fail
  refine (Alike_same cp.W cp.H _ _ cp.xs _ A.out.tab B.out.tab FC.out.max).mono ?_
  rintro e w14 ⟨rfl, b⟩
  clear q0 q1 q2
  clear y0 y1 y2
  clear A
  clear B
  have C13 := hide' (C12.out.trans (b.mono C12.out.size))
  clear b x0 x1 x2 C12
  obtain ⟨x0, x1, x2, -⟩ := BX.out.next C13.out
  go_wp2
  go_ret
  exact ⟨rfl, BB.out.trans (C13.out.mono BB.out.size)⟩
end Go.Proofs.YtjngjnkecnnmeaaDoor

