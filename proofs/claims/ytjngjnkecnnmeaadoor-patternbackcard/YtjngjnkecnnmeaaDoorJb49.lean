/-
  What the last text of this claim leans on, part 49: LawY.
-/
import Derived.Test.YtjngjnkecnnmeaaDoorJb37
namespace Go.Proofs.YtjngjnkecnnmeaaDoor
open Go.RowKit
set_option linter.unusedVariables false

set_option maxRecDepth 100000 in
set_option maxHeartbeats 12800000 in
theorem law_writes_lo (W H : Nat) (k : Int) (xs : List Int) (a : Option Addr) (c : Nat) (w : World) (hP : ArgP w xs a xs.length c) (hg : Handle w) (hT : PowT w) (hc : xs.length ≤ c) (hcm : c ≤ maxLen) (lW : W ≤ 100) (lH : H ≤ 100) (hs : shapeF W H xs = 0) (hn : xs.length = W * H) (hk : k < 0) :
    Calls Tryd.prog 6 #[.agg #[.int .i64 (W : Int), .int .i64 (H : Int), .slice a xs.length c], .int .i64 k] w fun e w' => e = .returned (.bool true) ∧ Below w.heap.size w w' := by
  obtain ⟨w1, hw1⟩ : ∃ w1, w.alloc (.cells #[.int .i64 (W : Int), .int .i64 (H : Int), .slice a xs.length c] 51) = w1 := ⟨_, rfl⟩
  have AP := hide' (show ArgP w1 xs a xs.length c by rw [← hw1]; exact hP.alloc _)
  have BX := hide' (show TB w.heap.size (.int .i64 (W : Int)) (.int .i64 (H : Int)) (.slice a xs.length c) w1 by rw [← hw1]; exact TB.new w _ _ _ _)
  have BB := hide' (show Below w.heap.size w w1 by rw [← hw1]; exact (Below.refl _ _).alloc (Nat.le_refl _) _)
  have HG := hide' (hg.below BB.out)
  have HT := hide' (hT.below BB.out)
  have HS := hide' hs
  have HN := hide' hn
  have LW := hide' lW
  have LH := hide' lH
  have HC := hide' hc
  have HCM := hide' hcm
  have OK := hide' (show Pat.ok ⟨W, H, xs⟩ from hn)
  have FT := hide' (trim_fits ⟨W, H, xs⟩ lW lH)
  have FP := hide' (show Fits xs.length ⟨W, H, xs⟩ from ⟨OK.out, lW, lH, rfl⟩)
  have FC := hide' (show Fits (trimP ⟨W, H, xs⟩).1.xs.length (canonP ⟨W, H, xs⟩) from best_fits FT.out 7 (by omega))
  obtain ⟨rs, hrs⟩ : ∃ rs, (⟨(runsB ⟨W, H, xs⟩).toArray⟩ : ByteArray) = rs := ⟨_, rfl⟩
  obtain ⟨ds, hds⟩ : ∃ ds, (⟨(drawRows W xs H).toArray⟩ : ByteArray) = ds := ⟨_, rfl⟩
  obtain ⟨⟨tp, tx, ty⟩, htp⟩ : ∃ tp, trimP ⟨W, H, xs⟩ = tp := ⟨_, rfl⟩
  obtain ⟨cp, hcp⟩ : ∃ cp, canonP ⟨W, H, xs⟩ = cp := ⟨_, rfl⟩
  rw [htp] at FT FC
  rw [hcp] at FC
  have RS := hide' hrs
  have DS := hide' hds
  have TP := hide' htp
  have CP := hide' hcp
  have i1 : k < 0 := hk
  have HK := hide' (show k < 0 ∨ 7 < k from Or.inl hk)
  clear hP hg hT hs hn hrs hds htp hcp lW lH hc hcm hk
  have C0 := hide' (Below.refl w1.heap.size w1)
  obtain ⟨x0, x1, x2, -⟩ := BX.out
  go_enter Tryd.func6, Tryd.ntmps6
  go_wp2_with fail
  refine (Shape_P W H xs a xs.length c _ (AP.out.below C0.out)).mono ?_
  rw [HS.out]
  rintro e w2 ⟨rfl, b⟩
  have C1 := hide' (C0.out.trans (b.mono C0.out.size))
  clear hw1
  clear b x0 x1 x2 C0
  obtain ⟨x0, x1, x2, -⟩ := BX.out.next C1.out
  go_wp2_with fail
  refine (Check_P W H xs a xs.length c _ (AP.out.below C1.out)).mono ?_
  rw [HS.out, show errOf 0 = .nilIface from rfl]
  rintro e w3 ⟨rfl, b⟩
  have C2 := hide' (C1.out.trans (b.mono C1.out.size))
  clear b x0 x1 x2 C1
  obtain ⟨x0, x1, x2, -⟩ := BX.out.next C2.out
  go_wp2_with fail
  refine (err_nil_true _).mono ?_
  rintro e w4 ⟨rfl, b⟩
  have C3 := hide' (C2.out.trans (b.mono C2.out.size))
  clear b x0 x1 x2 C2
  obtain ⟨x0, x1, x2, -⟩ := BX.out.next C3.out
  go_wp2_with fail
  refine (pRuns W H xs a xs.length c _ (AP.out.below C3.out) (HT.out.below C3.out) HC.out HCM.out LW.out LH.out HS.out HN.out).mono ?_
  rw [RS.out]
  rintro e w5 ⟨rfl, b⟩
  have C4 := hide' (C3.out.trans (b.mono C3.out.size))
  clear b x0 x1 x2 C3
  obtain ⟨x0, x1, x2, -⟩ := BX.out.next C4.out
  go_wp2_with fail
  refine (err_nil_true _).mono ?_
  rintro e w6 ⟨rfl, b⟩
  have C5 := hide' (C4.out.trans (b.mono C4.out.size))
  clear b x0 x1 x2 C4
  obtain ⟨x0, x1, x2, -⟩ := BX.out.next C5.out
  go_wp2_with fail
  refine (pDraw W H xs a xs.length c _ (AP.out.below C5.out) HC.out HCM.out LW.out LH.out HS.out HN.out).mono ?_
  rw [DS.out]
  rintro e w7 ⟨rfl, b⟩
  have C6 := hide' (C5.out.trans (b.mono C5.out.size))
  clear b x0 x1 x2 C5
  obtain ⟨x0, x1, x2, -⟩ := BX.out.next C6.out
  go_wp2_with fail
  refine (err_nil_true _).mono ?_
  rintro e w8 ⟨rfl, b⟩
  have C7 := hide' (C6.out.trans (b.mono C6.out.size))
  clear b x0 x1 x2 C6
  obtain ⟨x0, x1, x2, -⟩ := BX.out.next C7.out
  go_wp2_with fail
  refine (pTrim W H xs a xs.length c _ (AP.out.below C7.out) HC.out HCM.out LW.out LH.out HS.out HN.out).mono ?_
  rintro e w9 ⟨v9, rfl, t9, f9, b⟩
  have C8 := hide' (C7.out.trans (b.mono C7.out.size))
  rw [TP.out] at t9 ⊢
  obtain ⟨a9, c9, rfl, -⟩ := t9.arg FT.out.max
  have C8' := hide' (C8.out.alloc C8.out.size (.cells #[.int .i64 (tp.W : Int), .int .i64 (tp.H : Int), .slice a9 tp.xs.length c9] 51))
  clear C8
  have C8 := C8'
  clear C8'
  have Q1 := hide' (PV.new (q := tp) t9 51)
  clear t9 f9
  clear b x0 x1 x2 C7
  obtain ⟨x0, x1, x2, -⟩ := BX.out.next C8.out
  go_wp2_with fail
  refine (err_nil_true _).mono ?_
  rintro e w10 ⟨rfl, b⟩
  have C9 := hide' (C8.out.trans (b.mono C8.out.size))
  have Q1' := hide' (Q1.out.next b)
  clear Q1
  have Q1 := Q1'
  clear Q1'
  clear b x0 x1 x2 C8
  obtain ⟨x0, x1, x2, -⟩ := BX.out.next C9.out
  go_wp2_with fail
  refine (pCanon W H xs a xs.length c _ (AP.out.below C9.out) HC.out HCM.out LW.out LH.out HS.out HN.out).mono ?_
  rintro e w11 ⟨v11, rfl, t11, f11, b⟩
  have C10 := hide' (C9.out.trans (b.mono C9.out.size))
  have Q1' := hide' (Q1.out.next b)
  clear Q1
  have Q1 := Q1'
  clear Q1'
  rw [CP.out] at t11 ⊢
  obtain ⟨a11, c11, rfl, -⟩ := t11.arg FC.out.max
  have C10' := hide' (C10.out.alloc C10.out.size (.cells #[.int .i64 (cp.W : Int), .int .i64 (cp.H : Int), .slice a11 cp.xs.length c11] 51))
  clear C10
  have C10 := C10'
  clear C10'
  have Q1' := hide' (Q1.out.alloc (.cells #[.int .i64 (cp.W : Int), .int .i64 (cp.H : Int), .slice a11 cp.xs.length c11] 51))
  clear Q1
  have Q1 := Q1'
  clear Q1'
  have Q2 := hide' (PV.new (q := cp) t11 51)
  clear t11 f11
  clear b x0 x1 x2 C9
  obtain ⟨x0, x1, x2, -⟩ := BX.out.next C10.out
  go_wp2_with fail
  refine (err_nil_true _).mono ?_
  rintro e w12 ⟨rfl, b⟩
  have C11 := hide' (C10.out.trans (b.mono C10.out.size))
  have Q1' := hide' (Q1.out.next b)
  clear Q1
  have Q1 := Q1'
  clear Q1'
  have Q2' := hide' (Q2.out.next b)
  clear Q2
  have Q2 := Q2'
  clear Q2'
  clear b x0 x1 x2 C10
  obtain ⟨x0, x1, x2, -⟩ := BX.out.next C11.out
  go_wp2_with fail
  refine (pTurn_k W H k xs a xs.length c _ (AP.out.below C11.out) HS.out HK.out).mono ?_
  unfold ErrPost
  rintro e w13 ⟨rfl, b⟩
  have C12 := hide' (C11.out.trans (b.mono C11.out.size))
  have Q1' := hide' (Q1.out.next b)
  clear Q1
  have Q1 := Q1'
  clear Q1'
  have Q2' := hide' (Q2.out.next b)
  clear Q2
  have Q2 := Q2'
  clear Q2'
  have C12' := hide' (C12.out.alloc C12.out.size (.cells #[.int .i64 0, .int .i64 0, .slice none 0 0] 51))
  clear C12
  have C12 := C12'
  clear C12'
  have Q1' := hide' (Q1.out.alloc (.cells #[.int .i64 0, .int .i64 0, .slice none 0 0] 51))
  clear Q1
  have Q1 := Q1'
  clear Q1'
  have Q2' := hide' (Q2.out.alloc (.cells #[.int .i64 0, .int .i64 0, .slice none 0 0] 51))
  clear Q2
  have Q2 := Q2'
  clear Q2'
  clear b x0 x1 x2 C11
  obtain ⟨x0, x1, x2, -⟩ := BX.out.next C12.out
  go_wp2_with fail
  refine (err_some_true 1 _ (HG.out.below C12.out)).mono ?_
  rintro e w14 ⟨rfl, b⟩
  have C13 := hide' (C12.out.trans (b.mono C12.out.size))
  have Q1' := hide' (Q1.out.next b)
  clear Q1
  have Q1 := Q1'
  clear Q1'
  have Q2' := hide' (Q2.out.next b)
  clear Q2
  have Q2 := Q2'
  clear Q2'
  clear b x0 x1 x2 C12
  obtain ⟨x0, x1, x2, -⟩ := BX.out.next C13.out
  go_wp2_with fail
  refine (refRuns W H xs a xs.length c _ (AP.out.below C13.out) LW.out LH.out HN.out).mono ?_
  rw [RS.out]
  rintro e w15 ⟨rfl, b⟩
  have C14 := hide' (C13.out.trans (b.mono C13.out.size))
  have Q1' := hide' (Q1.out.next b)
  clear Q1
  have Q1 := Q1'
  clear Q1'
  have Q2' := hide' (Q2.out.next b)
  clear Q2
  have Q2 := Q2'
  clear Q2'
  clear b x0 x1 x2 C13
  obtain ⟨x0, x1, x2, -⟩ := BX.out.next C14.out
  go_wp2_with fail
  refine (refDraw W H xs a xs.length c _ (AP.out.below C14.out) LW.out LH.out HN.out).mono ?_
  rw [DS.out]
  rintro e w16 ⟨rfl, b⟩
  have C15 := hide' (C14.out.trans (b.mono C14.out.size))
  have Q1' := hide' (Q1.out.next b)
  clear Q1
  have Q1 := Q1'
  clear Q1'
  have Q2' := hide' (Q2.out.next b)
  clear Q2
  have Q2 := Q2'
  clear Q2'
  clear b x0 x1 x2 C14
  obtain ⟨x0, x1, x2, -⟩ := BX.out.next C15.out
  go_wp2_with fail
  refine (refTrim W H xs a xs.length c _ (AP.out.below C15.out) LW.out LH.out HN.out).mono ?_
  rintro e w17 ⟨v17, rfl, t17, f17, b⟩
  have C16 := hide' (C15.out.trans (b.mono C15.out.size))
  have Q1' := hide' (Q1.out.next b)
  clear Q1
  have Q1 := Q1'
  clear Q1'
  have Q2' := hide' (Q2.out.next b)
  clear Q2
  have Q2 := Q2'
  clear Q2'
  rw [TP.out] at t17 ⊢
  obtain ⟨a17, c17, rfl, -⟩ := t17.arg FT.out.max
  have C16' := hide' (C16.out.alloc C16.out.size (.cells #[.int .i64 (tp.W : Int), .int .i64 (tp.H : Int), .slice a17 tp.xs.length c17] 51))
  clear C16
  have C16 := C16'
  clear C16'
  have HZ := hide' (show w1.heap.size ≤ w17.heap.size from (C15.out.trans (b.mono C15.out.size)).size)
  have Q1' := hide' (Q1.out.fix (.cells #[.int .i64 (tp.W : Int), .int .i64 (tp.H : Int), .slice a17 tp.xs.length c17] 51))
  clear Q1
  have Q1 := Q1'
  clear Q1'
  have Q2' := hide' (Q2.out.fix (.cells #[.int .i64 (tp.W : Int), .int .i64 (tp.H : Int), .slice a17 tp.xs.length c17] 51))
  clear Q2
  have Q2 := Q2'
  clear Q2'
  have Z := hide' (PV.new (q := tp) t17 51)
  clear t17 f17
  have ZB := hide' (show BoxZ _ _ from ⟨_, _, _, Z.out.tb⟩)
  clear b x0 x1 x2 C15
  obtain ⟨x0, x1, x2, -⟩ := BX.out.next C16.out
  obtain ⟨q0, q1, q2, -⟩ := Q1.out.pv.tb
  obtain ⟨z0, z1, z2, -⟩ := Z.out.tb
  go_wp2_with fail
  refine (Alike_same tp.W tp.H _ _ tp.xs _ Q1.out.pv.tab Z.out.tab FT.out.max).mono ?_
  rintro e w18 ⟨rfl, b⟩
  clear q0 q1 q2
  clear z0 z1 z2
  clear Q1
  clear Z
  have C17 := hide' (C16.out.trans (b.mono C16.out.size))
  have Q2' := hide' (Q2.out.next b)
  clear Q2
  have Q2 := Q2'
  clear Q2'
  have ZB' := hide' (ZB.out.next b)
  clear ZB
  have ZB := ZB'
  clear ZB'
  clear b x0 x1 x2 C16
  obtain ⟨x0, x1, x2, -⟩ := BX.out.next C17.out
  go_wp2_with fail
  refine (refCanon W H xs a xs.length c _ (AP.out.below C17.out) LW.out LH.out HN.out).mono ?_
  rintro e w19 ⟨v19, rfl, t19, f19, b⟩
  have zl := ZB.out.lt
  have C18 := hide' (C17.out.trans (b.mono C17.out.size))
  have Q2' := hide' (Q2.out.next b)
  clear Q2
  have Q2 := Q2'
  clear Q2'
  have ZB' := hide' (ZB.out.next b)
  clear ZB
  have ZB := ZB'
  clear ZB'
  rw [CP.out] at t19 ⊢
  obtain ⟨a19, c19, rfl, -⟩ := t19.arg FC.out.max
  have C18' := hide' (below_stored C18.out (w17.heap.size) HZ.out (.int .i64 (cp.W : Int)) (.int .i64 (cp.H : Int)) (.slice a19 cp.xs.length c19))
  clear C18
  have C18 := C18'
  clear C18'
  have Q2' := hide' (Q2.out.store ZB.out.lt (.int .i64 (cp.W : Int)) (.int .i64 (cp.H : Int)) (.slice a19 cp.xs.length c19))
  clear Q2
  have Q2 := Q2'
  clear Q2'
  have ZC := hide' (BoxZ.put (q := cp) ZB.out t19 (fun g k c e => by have := f19 g k c e; omega))
  obtain ⟨za, zb, zc, z0, z1, z2, zf⟩ := ZB.out
  have g0 := zf 0
  have g1 := zf 1
  have g2 := zf 2
  have ZB' := hide' (show BoxZ _ _ from ⟨_, _, _, ZC.out.tb⟩)
  clear zl ZB zf t19 f19
  have ZB := ZB'
  clear ZB'
  clear b x0 x1 x2 C17
  obtain ⟨x0, x1, x2, -⟩ := BX.out.next C18.out
  obtain ⟨y0, y1, y2, -⟩ := ZC.out.tb
  obtain ⟨q0, q1, q2, -⟩ := Q2.out.pv.tb
  go_wp2_with fail
  refine (Alike_same cp.W cp.H _ _ cp.xs _ Q2.out.pv.tab ZC.out.tab FC.out.max).mono ?_
  rintro e w20 ⟨rfl, b⟩
  clear q0 q1 q2
  clear Q2
  have C19 := hide' (C18.out.trans (b.mono C18.out.size))
  have ZB' := hide' (ZB.out.next b)
  clear ZB
  have ZB := ZB'
  clear ZB'
  clear b x0 x1 x2 C18
  obtain ⟨x0, x1, x2, -⟩ := BX.out.next C19.out
  clear y0 y1 y2 z0 z1 z2 g0 g1 g2 ZC
  have k2 : ((tx : Int) == (tx : Int)) = true := by simp
  have k3 : ((ty : Int) == (ty : Int)) = true := by simp
  go_wp2
  go_ret
  exact ⟨rfl, BB.out.trans (C19.out.mono BB.out.size)⟩

set_option maxRecDepth 100000 in
set_option maxHeartbeats 12800000 in
theorem law_writes_hi (W H : Nat) (k : Int) (xs : List Int) (a : Option Addr) (c : Nat) (w : World) (hP : ArgP w xs a xs.length c) (hg : Handle w) (hT : PowT w) (hc : xs.length ≤ c) (hcm : c ≤ maxLen) (lW : W ≤ 100) (lH : H ≤ 100) (hs : shapeF W H xs = 0) (hn : xs.length = W * H) (hk : 7 < k) :
    Calls Tryd.prog 6 #[.agg #[.int .i64 (W : Int), .int .i64 (H : Int), .slice a xs.length c], .int .i64 k] w fun e w' => e = .returned (.bool true) ∧ Below w.heap.size w w' := by
  obtain ⟨w1, hw1⟩ : ∃ w1, w.alloc (.cells #[.int .i64 (W : Int), .int .i64 (H : Int), .slice a xs.length c] 51) = w1 := ⟨_, rfl⟩
  have AP := hide' (show ArgP w1 xs a xs.length c by rw [← hw1]; exact hP.alloc _)
  have BX := hide' (show TB w.heap.size (.int .i64 (W : Int)) (.int .i64 (H : Int)) (.slice a xs.length c) w1 by rw [← hw1]; exact TB.new w _ _ _ _)
  have BB := hide' (show Below w.heap.size w w1 by rw [← hw1]; exact (Below.refl _ _).alloc (Nat.le_refl _) _)
  have HG := hide' (hg.below BB.out)
  have HT := hide' (hT.below BB.out)
  have HS := hide' hs
  have HN := hide' hn
  have LW := hide' lW
  have LH := hide' lH
  have HC := hide' hc
  have HCM := hide' hcm
  have OK := hide' (show Pat.ok ⟨W, H, xs⟩ from hn)
  have FT := hide' (trim_fits ⟨W, H, xs⟩ lW lH)
  have FP := hide' (show Fits xs.length ⟨W, H, xs⟩ from ⟨OK.out, lW, lH, rfl⟩)
  have FC := hide' (show Fits (trimP ⟨W, H, xs⟩).1.xs.length (canonP ⟨W, H, xs⟩) from best_fits FT.out 7 (by omega))
  obtain ⟨rs, hrs⟩ : ∃ rs, (⟨(runsB ⟨W, H, xs⟩).toArray⟩ : ByteArray) = rs := ⟨_, rfl⟩
  obtain ⟨ds, hds⟩ : ∃ ds, (⟨(drawRows W xs H).toArray⟩ : ByteArray) = ds := ⟨_, rfl⟩
  obtain ⟨⟨tp, tx, ty⟩, htp⟩ : ∃ tp, trimP ⟨W, H, xs⟩ = tp := ⟨_, rfl⟩
  obtain ⟨cp, hcp⟩ : ∃ cp, canonP ⟨W, H, xs⟩ = cp := ⟨_, rfl⟩
  rw [htp] at FT FC
  rw [hcp] at FC
  have RS := hide' hrs
  have DS := hide' hds
  have TP := hide' htp
  have CP := hide' hcp
  have i1 : ¬ k < 0 := by omega
  have i2 : 7 < k := hk
  have HK := hide' (show k < 0 ∨ 7 < k from Or.inr hk)
  clear hP hg hT hs hn hrs hds htp hcp lW lH hc hcm hk
  have C0 := hide' (Below.refl w1.heap.size w1)
  obtain ⟨x0, x1, x2, -⟩ := BX.out
  go_enter Tryd.func6, Tryd.ntmps6
  go_wp2_with fail
  refine (Shape_P W H xs a xs.length c _ (AP.out.below C0.out)).mono ?_
  rw [HS.out]
  rintro e w2 ⟨rfl, b⟩
  have C1 := hide' (C0.out.trans (b.mono C0.out.size))
  clear hw1
  clear b x0 x1 x2 C0
  obtain ⟨x0, x1, x2, -⟩ := BX.out.next C1.out
  go_wp2_with fail
  refine (Check_P W H xs a xs.length c _ (AP.out.below C1.out)).mono ?_
  rw [HS.out, show errOf 0 = .nilIface from rfl]
  rintro e w3 ⟨rfl, b⟩
  have C2 := hide' (C1.out.trans (b.mono C1.out.size))
  clear b x0 x1 x2 C1
  obtain ⟨x0, x1, x2, -⟩ := BX.out.next C2.out
  go_wp2_with fail
  refine (err_nil_true _).mono ?_
  rintro e w4 ⟨rfl, b⟩
  have C3 := hide' (C2.out.trans (b.mono C2.out.size))
  clear b x0 x1 x2 C2
  obtain ⟨x0, x1, x2, -⟩ := BX.out.next C3.out
  go_wp2_with fail
  refine (pRuns W H xs a xs.length c _ (AP.out.below C3.out) (HT.out.below C3.out) HC.out HCM.out LW.out LH.out HS.out HN.out).mono ?_
  rw [RS.out]
  rintro e w5 ⟨rfl, b⟩
  have C4 := hide' (C3.out.trans (b.mono C3.out.size))
  clear b x0 x1 x2 C3
  obtain ⟨x0, x1, x2, -⟩ := BX.out.next C4.out
  go_wp2_with fail
  refine (err_nil_true _).mono ?_
  rintro e w6 ⟨rfl, b⟩
  have C5 := hide' (C4.out.trans (b.mono C4.out.size))
  clear b x0 x1 x2 C4
  obtain ⟨x0, x1, x2, -⟩ := BX.out.next C5.out
  go_wp2_with fail
  refine (pDraw W H xs a xs.length c _ (AP.out.below C5.out) HC.out HCM.out LW.out LH.out HS.out HN.out).mono ?_
  rw [DS.out]
  rintro e w7 ⟨rfl, b⟩
  have C6 := hide' (C5.out.trans (b.mono C5.out.size))
  clear b x0 x1 x2 C5
  obtain ⟨x0, x1, x2, -⟩ := BX.out.next C6.out
  go_wp2_with fail
  refine (err_nil_true _).mono ?_
  rintro e w8 ⟨rfl, b⟩
  have C7 := hide' (C6.out.trans (b.mono C6.out.size))
  clear b x0 x1 x2 C6
  obtain ⟨x0, x1, x2, -⟩ := BX.out.next C7.out
  go_wp2_with fail
  refine (pTrim W H xs a xs.length c _ (AP.out.below C7.out) HC.out HCM.out LW.out LH.out HS.out HN.out).mono ?_
  rintro e w9 ⟨v9, rfl, t9, f9, b⟩
  have C8 := hide' (C7.out.trans (b.mono C7.out.size))
  rw [TP.out] at t9 ⊢
  obtain ⟨a9, c9, rfl, -⟩ := t9.arg FT.out.max
  have C8' := hide' (C8.out.alloc C8.out.size (.cells #[.int .i64 (tp.W : Int), .int .i64 (tp.H : Int), .slice a9 tp.xs.length c9] 51))
  clear C8
  have C8 := C8'
  clear C8'
  have Q1 := hide' (PV.new (q := tp) t9 51)
  clear t9 f9
  clear b x0 x1 x2 C7
  obtain ⟨x0, x1, x2, -⟩ := BX.out.next C8.out
  go_wp2_with fail
  refine (err_nil_true _).mono ?_
  rintro e w10 ⟨rfl, b⟩
  have C9 := hide' (C8.out.trans (b.mono C8.out.size))
  have Q1' := hide' (Q1.out.next b)
  clear Q1
  have Q1 := Q1'
  clear Q1'
  clear b x0 x1 x2 C8
  obtain ⟨x0, x1, x2, -⟩ := BX.out.next C9.out
  go_wp2_with fail
  refine (pCanon W H xs a xs.length c _ (AP.out.below C9.out) HC.out HCM.out LW.out LH.out HS.out HN.out).mono ?_
  rintro e w11 ⟨v11, rfl, t11, f11, b⟩
  have C10 := hide' (C9.out.trans (b.mono C9.out.size))
  have Q1' := hide' (Q1.out.next b)
  clear Q1
  have Q1 := Q1'
  clear Q1'
  rw [CP.out] at t11 ⊢
  obtain ⟨a11, c11, rfl, -⟩ := t11.arg FC.out.max
  have C10' := hide' (C10.out.alloc C10.out.size (.cells #[.int .i64 (cp.W : Int), .int .i64 (cp.H : Int), .slice a11 cp.xs.length c11] 51))
  clear C10
  have C10 := C10'
  clear C10'
  have Q1' := hide' (Q1.out.alloc (.cells #[.int .i64 (cp.W : Int), .int .i64 (cp.H : Int), .slice a11 cp.xs.length c11] 51))
  clear Q1
  have Q1 := Q1'
  clear Q1'
  have Q2 := hide' (PV.new (q := cp) t11 51)
  clear t11 f11
  clear b x0 x1 x2 C9
  obtain ⟨x0, x1, x2, -⟩ := BX.out.next C10.out
  go_wp2_with fail
  refine (err_nil_true _).mono ?_
  rintro e w12 ⟨rfl, b⟩
  have C11 := hide' (C10.out.trans (b.mono C10.out.size))
  have Q1' := hide' (Q1.out.next b)
  clear Q1
  have Q1 := Q1'
  clear Q1'
  have Q2' := hide' (Q2.out.next b)
  clear Q2
  have Q2 := Q2'
  clear Q2'
  clear b x0 x1 x2 C10
  obtain ⟨x0, x1, x2, -⟩ := BX.out.next C11.out
  go_wp2_with fail
  refine (pTurn_k W H k xs a xs.length c _ (AP.out.below C11.out) HS.out HK.out).mono ?_
  unfold ErrPost
  rintro e w13 ⟨rfl, b⟩
  have C12 := hide' (C11.out.trans (b.mono C11.out.size))
  have Q1' := hide' (Q1.out.next b)
  clear Q1
  have Q1 := Q1'
  clear Q1'
  have Q2' := hide' (Q2.out.next b)
  clear Q2
  have Q2 := Q2'
  clear Q2'
  have C12' := hide' (C12.out.alloc C12.out.size (.cells #[.int .i64 0, .int .i64 0, .slice none 0 0] 51))
  clear C12
  have C12 := C12'
  clear C12'
  have Q1' := hide' (Q1.out.alloc (.cells #[.int .i64 0, .int .i64 0, .slice none 0 0] 51))
  clear Q1
  have Q1 := Q1'
  clear Q1'
  have Q2' := hide' (Q2.out.alloc (.cells #[.int .i64 0, .int .i64 0, .slice none 0 0] 51))
  clear Q2
  have Q2 := Q2'
  clear Q2'
  clear b x0 x1 x2 C11
  obtain ⟨x0, x1, x2, -⟩ := BX.out.next C12.out
  go_wp2_with fail
  refine (err_some_true 1 _ (HG.out.below C12.out)).mono ?_
  rintro e w14 ⟨rfl, b⟩
  have C13 := hide' (C12.out.trans (b.mono C12.out.size))
  have Q1' := hide' (Q1.out.next b)
  clear Q1
  have Q1 := Q1'
  clear Q1'
  have Q2' := hide' (Q2.out.next b)
  clear Q2
  have Q2 := Q2'
  clear Q2'
  clear b x0 x1 x2 C12
  obtain ⟨x0, x1, x2, -⟩ := BX.out.next C13.out
  go_wp2_with fail
  refine (refRuns W H xs a xs.length c _ (AP.out.below C13.out) LW.out LH.out HN.out).mono ?_
  rw [RS.out]
  rintro e w15 ⟨rfl, b⟩
  have C14 := hide' (C13.out.trans (b.mono C13.out.size))
  have Q1' := hide' (Q1.out.next b)
  clear Q1
  have Q1 := Q1'
  clear Q1'
  have Q2' := hide' (Q2.out.next b)
  clear Q2
  have Q2 := Q2'
  clear Q2'
  clear b x0 x1 x2 C13
  obtain ⟨x0, x1, x2, -⟩ := BX.out.next C14.out
  go_wp2_with fail
  refine (refDraw W H xs a xs.length c _ (AP.out.below C14.out) LW.out LH.out HN.out).mono ?_
  rw [DS.out]
  rintro e w16 ⟨rfl, b⟩
  have C15 := hide' (C14.out.trans (b.mono C14.out.size))
  have Q1' := hide' (Q1.out.next b)
  clear Q1
  have Q1 := Q1'
  clear Q1'
  have Q2' := hide' (Q2.out.next b)
  clear Q2
  have Q2 := Q2'
  clear Q2'
  clear b x0 x1 x2 C14
  obtain ⟨x0, x1, x2, -⟩ := BX.out.next C15.out
  go_wp2_with fail
  refine (refTrim W H xs a xs.length c _ (AP.out.below C15.out) LW.out LH.out HN.out).mono ?_
  rintro e w17 ⟨v17, rfl, t17, f17, b⟩
  have C16 := hide' (C15.out.trans (b.mono C15.out.size))
  have Q1' := hide' (Q1.out.next b)
  clear Q1
  have Q1 := Q1'
  clear Q1'
  have Q2' := hide' (Q2.out.next b)
  clear Q2
  have Q2 := Q2'
  clear Q2'
  rw [TP.out] at t17 ⊢
  obtain ⟨a17, c17, rfl, -⟩ := t17.arg FT.out.max
  have C16' := hide' (C16.out.alloc C16.out.size (.cells #[.int .i64 (tp.W : Int), .int .i64 (tp.H : Int), .slice a17 tp.xs.length c17] 51))
  clear C16
  have C16 := C16'
  clear C16'
  have HZ := hide' (show w1.heap.size ≤ w17.heap.size from (C15.out.trans (b.mono C15.out.size)).size)
  have Q1' := hide' (Q1.out.fix (.cells #[.int .i64 (tp.W : Int), .int .i64 (tp.H : Int), .slice a17 tp.xs.length c17] 51))
  clear Q1
  have Q1 := Q1'
  clear Q1'
  have Q2' := hide' (Q2.out.fix (.cells #[.int .i64 (tp.W : Int), .int .i64 (tp.H : Int), .slice a17 tp.xs.length c17] 51))
  clear Q2
  have Q2 := Q2'
  clear Q2'
  have Z := hide' (PV.new (q := tp) t17 51)
  clear t17 f17
  have ZB := hide' (show BoxZ _ _ from ⟨_, _, _, Z.out.tb⟩)
  clear b x0 x1 x2 C15
  obtain ⟨x0, x1, x2, -⟩ := BX.out.next C16.out
  obtain ⟨q0, q1, q2, -⟩ := Q1.out.pv.tb
  obtain ⟨z0, z1, z2, -⟩ := Z.out.tb
  go_wp2_with fail
  refine (Alike_same tp.W tp.H _ _ tp.xs _ Q1.out.pv.tab Z.out.tab FT.out.max).mono ?_
  rintro e w18 ⟨rfl, b⟩
  clear q0 q1 q2
  clear z0 z1 z2
  clear Q1
  clear Z
  have C17 := hide' (C16.out.trans (b.mono C16.out.size))
  have Q2' := hide' (Q2.out.next b)
  clear Q2
  have Q2 := Q2'
  clear Q2'
  have ZB' := hide' (ZB.out.next b)
  clear ZB
  have ZB := ZB'
  clear ZB'
  clear b x0 x1 x2 C16
  obtain ⟨x0, x1, x2, -⟩ := BX.out.next C17.out
  go_wp2_with fail
  refine (refCanon W H xs a xs.length c _ (AP.out.below C17.out) LW.out LH.out HN.out).mono ?_
  rintro e w19 ⟨v19, rfl, t19, f19, b⟩
  have zl := ZB.out.lt
  have C18 := hide' (C17.out.trans (b.mono C17.out.size))
  have Q2' := hide' (Q2.out.next b)
  clear Q2
  have Q2 := Q2'
  clear Q2'
  have ZB' := hide' (ZB.out.next b)
  clear ZB
  have ZB := ZB'
  clear ZB'
  rw [CP.out] at t19 ⊢
  obtain ⟨a19, c19, rfl, -⟩ := t19.arg FC.out.max
  have C18' := hide' (below_stored C18.out (w17.heap.size) HZ.out (.int .i64 (cp.W : Int)) (.int .i64 (cp.H : Int)) (.slice a19 cp.xs.length c19))
  clear C18
  have C18 := C18'
  clear C18'
  have Q2' := hide' (Q2.out.store ZB.out.lt (.int .i64 (cp.W : Int)) (.int .i64 (cp.H : Int)) (.slice a19 cp.xs.length c19))
  clear Q2
  have Q2 := Q2'
  clear Q2'
  have ZC := hide' (BoxZ.put (q := cp) ZB.out t19 (fun g k c e => by have := f19 g k c e; omega))
  obtain ⟨za, zb, zc, z0, z1, z2, zf⟩ := ZB.out
  have g0 := zf 0
  have g1 := zf 1
  have g2 := zf 2
  have ZB' := hide' (show BoxZ _ _ from ⟨_, _, _, ZC.out.tb⟩)
  clear zl ZB zf t19 f19
  have ZB := ZB'
  clear ZB'
  clear b x0 x1 x2 C17
  obtain ⟨x0, x1, x2, -⟩ := BX.out.next C18.out
  obtain ⟨y0, y1, y2, -⟩ := ZC.out.tb
  obtain ⟨q0, q1, q2, -⟩ := Q2.out.pv.tb
  go_wp2_with fail
  refine (Alike_same cp.W cp.H _ _ cp.xs _ Q2.out.pv.tab ZC.out.tab FC.out.max).mono ?_
  rintro e w20 ⟨rfl, b⟩
  clear q0 q1 q2
  clear Q2
  have C19 := hide' (C18.out.trans (b.mono C18.out.size))
  have ZB' := hide' (ZB.out.next b)
  clear ZB
  have ZB := ZB'
  clear ZB'
  clear b x0 x1 x2 C18
  obtain ⟨x0, x1, x2, -⟩ := BX.out.next C19.out
  clear y0 y1 y2 z0 z1 z2 g0 g1 g2 ZC
  have k2 : ((tx : Int) == (tx : Int)) = true := by simp
  have k3 : ((ty : Int) == (ty : Int)) = true := by simp
  go_wp2
  go_ret
  exact ⟨rfl, BB.out.trans (C19.out.mono BB.out.size)⟩

theorem shape_good {W H : Int} {xs : List Int} (h : shapeF W H xs = 0) : ∃ Wn Hn : Nat, W = (Wn : Int) ∧ H = (Hn : Int) ∧ Wn ≤ 100 ∧ Hn ≤ 100 ∧ xs.length = Wn * Hn := by
  unfold shapeF at h
  split at h
  · rename_i q
    rw [Bool.and_eq_true] at q
    obtain ⟨Wn, rfl, lW⟩ := side_nat q.1
    obtain ⟨Hn, rfl, lH⟩ := side_nat q.2
    split at h
    · rename_i q2
      exact ⟨Wn, Hn, rfl, rfl, lW, lH, by rw [← Int.natCast_mul] at q2; omega⟩
    · cases h
  · cases h

/-- At every pattern and number. -/
theorem law_writes_all (W H k : Int) (xs : List Int) (a : Option Addr) (c : Nat) (w : World) (hP : ArgP w xs a xs.length c) (hc : xs.length ≤ c) (hcm : c ≤ maxLen) (hg : Handle w) (hT : PowT w) :
    Calls Tryd.prog 6 #[.agg #[.int .i64 W, .int .i64 H, .slice a xs.length c], .int .i64 k] w fun e w' => e = .returned (.bool true) ∧ Below w.heap.size w w' := by
  by_cases hs : shapeF W H xs = 0
  · obtain ⟨Wn, Hn, rfl, rfl, lW, lH, hn⟩ := shape_good hs
    by_cases k0 : k < 0
    · exact law_writes_lo Wn Hn k xs a c w hP hg hT hc hcm lW lH hs hn k0
    · by_cases k7 : 7 < k
      · exact law_writes_hi Wn Hn k xs a c w hP hg hT hc hcm lW lH hs hn k7
      · obtain ⟨kn, rfl⟩ : ∃ kn : Nat, k = (kn : Int) := ⟨k.toNat, by omega⟩
        exact law_writes_ok Wn Hn kn xs a c w hP hg hT hc hcm lW lH hs hn (by omega)
  · exact law_writes_bad W H k xs a xs.length c w hP hg hs
end Go.Proofs.YtjngjnkecnnmeaaDoor

