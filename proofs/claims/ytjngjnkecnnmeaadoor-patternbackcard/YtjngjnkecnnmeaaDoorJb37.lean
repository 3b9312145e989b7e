/-
  What the last text of this claim leans on, part 37: LawX.
-/
import Derived.Test.YtjngjnkecnnmeaaDoorJb36
namespace Go.Proofs.YtjngjnkecnnmeaaDoor
open Go.RowKit
set_option linter.unusedVariables false

/-- A pattern in a box of its own. -/
structure PV (w : World) (p : Nat) (q : Pat) (v : Value) : Prop where
  tb : TB p (.int .i64 (q.W : Int)) (.int .i64 (q.H : Int)) v w
  tab : Tab w v q.xs
theorem PV.next {w w' : World} {p : Nat} {q : Pat} {v : Value} (h : PV w p q v) (hb : Below w.heap.size w w') : PV w' p q v := ⟨h.tb.next hb, h.tab.nextB hb⟩
theorem PV.alloc {w : World} {p : Nat} {q : Pat} {v : Value} (h : PV w p q v) (o : Obj) : PV (w.alloc o) p q v := h.next ((Below.refl _ _).alloc (Nat.le_refl _) o)
theorem PV.new {w : World} {q : Pat} {v : Value} (h : Tab w v q.xs) (t : TypeId) : PV (w.alloc (.cells #[.int .i64 (q.W : Int), .int .i64 (q.H : Int), v] t)) w.heap.size q v := ⟨TB.new _ _ _ _ _, h.nextB ((Below.refl _ _).alloc (Nat.le_refl _) _)⟩
/-- And apart from another box. -/
structure PVn (z : Nat) (w : World) (p : Nat) (q : Pat) (v : Value) : Prop where
  pv : PV w p q v
  pz : p ≠ z
  ne : ∀ g k c, v = .slice (some ⟨g, 0, none⟩) k c → g ≠ z
theorem PV.fix {w : World} {p : Nat} {q : Pat} {v : Value} (h : PV w p q v) (o : Obj) : PVn w.heap.size (w.alloc o) p q v :=
  ⟨h.alloc o, by have := h.tb.lt; omega, fun g k c e => by have := h.tab.lt e; omega⟩
theorem PVn.next {z : Nat} {w w' : World} {p : Nat} {q : Pat} {v : Value} (h : PVn z w p q v) (hb : Below w.heap.size w w') : PVn z w' p q v := ⟨h.pv.next hb, h.pz, h.ne⟩
theorem PVn.store {z : Nat} {w : World} {p : Nat} {q : Pat} {v : Value} (h : PVn z w p q v) (hz : z < w.heap.size) (a b c : Value) : PVn z (((w.setCell ⟨z, 0, none⟩ a).setCell ⟨z, 1, none⟩ b).setCell ⟨z, 2, none⟩ c) p q v :=
  ⟨⟨h.pv.tb.block (stored_blk _ _ _ _ _ _ h.pz), tab_stored h.pv.tab z a b c hz h.ne⟩, h.pz, h.ne⟩
/-- A box, whatever it holds. -/
def BoxZ (z : Nat) (w : World) : Prop := ∃ a b c, TB z a b c w
theorem BoxZ.next {z : Nat} {w w' : World} (h : BoxZ z w) (hb : Below w.heap.size w w') : BoxZ z w' := by obtain ⟨a, b, c, h⟩ := h; exact ⟨a, b, c, h.next hb⟩
theorem BoxZ.lt {z : Nat} {w : World} (h : BoxZ z w) : z < w.heap.size := by obtain ⟨a, b, c, h⟩ := h; exact h.lt
theorem BoxZ.put {z : Nat} {w : World} {q : Pat} {v : Value} (h : BoxZ z w) (t : Tab w v q.xs) (hv : ∀ g k c, v = .slice (some ⟨g, 0, none⟩) k c → g ≠ z) :
    PV (((w.setCell ⟨z, 0, none⟩ (.int .i64 (q.W : Int))).setCell ⟨z, 1, none⟩ (.int .i64 (q.H : Int))).setCell ⟨z, 2, none⟩ v) z q v := by
  have hz := h.lt
  obtain ⟨a, b, c, h⟩ := h
  exact ⟨h.store _ _ _, tab_stored t z _ _ _ hz hv⟩

def TurnOkPost (q : Pat) (w : World) (e : Ending) (w' : World) : Prop :=
  ∃ v, e = .returned (.tuple #[.agg #[.int .i64 (q.W : Int), .int .i64 (q.H : Int), v], .nilIface]) ∧ Tab w' v q.xs ∧ FreshC w v ∧ Below w.heap.size w w'
theorem pTurn_ok' (W H k : Nat) (xs : List Int) (a : Option Addr) (c : Nat) (w : World) (hP : ArgP w xs a xs.length c) (hp : Pat.ok ⟨W, H, xs⟩) (lW : W ≤ 100) (lH : H ≤ 100) (hs : shapeF W H xs = 0) (hk : k < 8) :
    Calls Tryd.prog 32 #[.agg #[.int .i64 (W : Int), .int .i64 (H : Int), .slice a xs.length c], .int .i64 (k : Int)] w (TurnOkPost (Pat.turn ⟨W, H, xs⟩ k) w) :=
  pTurn_ok ⟨W, H, xs⟩ k a c w hP hp lW lH hs hk
theorem refTurn' (W H k : Nat) (xs : List Int) (a : Option Addr) (c : Nat) (w : World) (hP : ArgP w xs a xs.length c) (hp : Pat.ok ⟨W, H, xs⟩) (lW : W ≤ 100) (lH : H ≤ 100) (hk : k < 8) :
    Calls Tryd.prog 38 #[.agg #[.int .i64 (W : Int), .int .i64 (H : Int), .slice a xs.length c], .int .i64 (k : Int)] w (TurnedPost (Pat.turn ⟨W, H, xs⟩ k) w) :=
  refTurn_any ⟨W, H, xs⟩ k a c w hP hp lW lH hk

set_option maxRecDepth 100000 in
set_option maxHeartbeats 12800000 in
theorem law_writes_ok (W H : Nat) (k : Nat) (xs : List Int) (a : Option Addr) (c : Nat) (w : World) (hP : ArgP w xs a xs.length c) (hg : Handle w) (hT : PowT w) (hc : xs.length ≤ c) (hcm : c ≤ maxLen) (lW : W ≤ 100) (lH : H ≤ 100) (hs : shapeF W H xs = 0) (hn : xs.length = W * H) (hk : k < 8) :
    Calls Tryd.prog 6 #[.agg #[.int .i64 (W : Int), .int .i64 (H : Int), .slice a xs.length c], .int .i64 (k : Int)] w fun e w' => e = .returned (.bool true) ∧ Below w.heap.size w w' := by
  obtain ⟨w1, hw1⟩ : ∃ w1, w.alloc (.cells #[.int .i64 (W : Int), .int .i64 (H : Int), .slice a xs.length c] 51) = w1 := ⟨_, rfl⟩
  have AP := hide' (show ArgP w1 xs a xs.length c by rw [← hw1]; exact hP.alloc _)
  have BX := hide' (show TB w.heap.size (.int .i64 (W : Int)) (.int .i64 (H : Int)) (.slice a xs.length c) w1 by rw [← hw1]; exact TB.new w _ _ _ _)
  have BB := hide' (show Below w.heap.size w w1 by rw [← hw1]; exact (Below.refl _ _).alloc (Nat.le_refl _) _)
  have HG := hide' (hg.below BB.out)
  have HT := hide' (hT.below BB.out)
  have HS := hide' hs
  have HN := hide' hn
  have LW := hide' lW
  have LH := hide' lH
  have HC := hide' hc
  have HCM := hide' hcm
  have OK := hide' (show Pat.ok ⟨W, H, xs⟩ from hn)
  have FT := hide' (trim_fits ⟨W, H, xs⟩ lW lH)
  have FP := hide' (show Fits xs.length ⟨W, H, xs⟩ from ⟨OK.out, lW, lH, rfl⟩)
  have FC := hide' (show Fits (trimP ⟨W, H, xs⟩).1.xs.length (canonP ⟨W, H, xs⟩) from best_fits FT.out 7 (by omega))
  obtain ⟨rs, hrs⟩ : ∃ rs, (⟨(runsB ⟨W, H, xs⟩).toArray⟩ : ByteArray) = rs := ⟨_, rfl⟩
  obtain ⟨ds, hds⟩ : ∃ ds, (⟨(drawRows W xs H).toArray⟩ : ByteArray) = ds := ⟨_, rfl⟩
  obtain ⟨⟨tp, tx, ty⟩, htp⟩ : ∃ tp, trimP ⟨W, H, xs⟩ = tp := ⟨_, rfl⟩
  obtain ⟨cp, hcp⟩ : ∃ cp, canonP ⟨W, H, xs⟩ = cp := ⟨_, rfl⟩
  rw [htp] at FT FC
  rw [hcp] at FC
  have RS := hide' hrs
  have DS := hide' hds
  have TP := hide' htp
  have CP := hide' hcp
  have i1 : ¬ (k : Int) < 0 := by omega
  have i2 : ¬ (7 : Int) < (k : Int) := by omega
  have HK := hide' hk
  obtain ⟨up, hup⟩ : ∃ up, Pat.turn ⟨W, H, xs⟩ k = up := ⟨_, rfl⟩
  have UP := hide' hup
  have FU := hide' (turn_fits FP.out k hk)
  rw [hup] at FU
  clear hup
  clear hP hg hT hs hn hrs hds htp hcp lW lH hc hcm hk
  have C0 := hide' (Below.refl w1.heap.size w1)
  obtain ⟨x0, x1, x2, -⟩ := BX.out
  go_enter Tryd.func6, Tryd.ntmps6
  go_wp2_with fail
  refine (Shape_P W H xs a xs.length c _ (AP.out.below C0.out)).mono ?_
  rw [HS.out]
  rintro e w2 ⟨rfl, b⟩
  have C1 := hide' (C0.out.trans (b.mono C0.out.size))
  clear hw1
  clear b x0 x1 x2 C0
  obtain ⟨x0, x1, x2, -⟩ := BX.out.next C1.out
  go_wp2_with fail
  refine (Check_P W H xs a xs.length c _ (AP.out.below C1.out)).mono ?_
  rw [HS.out, show errOf 0 = .nilIface from rfl]
  rintro e w3 ⟨rfl, b⟩
  have C2 := hide' (C1.out.trans (b.mono C1.out.size))
  clear b x0 x1 x2 C1
  obtain ⟨x0, x1, x2, -⟩ := BX.out.next C2.out
  go_wp2_with fail
  refine (err_nil_true _).mono ?_
  rintro e w4 ⟨rfl, b⟩
  have C3 := hide' (C2.out.trans (b.mono C2.out.size))
  clear b x0 x1 x2 C2
  obtain ⟨x0, x1, x2, -⟩ := BX.out.next C3.out
  go_wp2_with fail
  refine (pRuns W H xs a xs.length c _ (AP.out.below C3.out) (HT.out.below C3.out) HC.out HCM.out LW.out LH.out HS.out HN.out).mono ?_
  rw [RS.out]
  rintro e w5 ⟨rfl, b⟩
  have C4 := hide' (C3.out.trans (b.mono C3.out.size))
  clear b x0 x1 x2 C3
  obtain ⟨x0, x1, x2, -⟩ := BX.out.next C4.out
  go_wp2_with fail
  refine (err_nil_true _).mono ?_
  rintro e w6 ⟨rfl, b⟩
  have C5 := hide' (C4.out.trans (b.mono C4.out.size))
  clear b x0 x1 x2 C4
  obtain ⟨x0, x1, x2, -⟩ := BX.out.next C5.out
  go_wp2_with fail
  refine (pDraw W H xs a xs.length c _ (AP.out.below C5.out) HC.out HCM.out LW.out LH.out HS.out HN.out).mono ?_
  rw [DS.out]
  rintro e w7 ⟨rfl, b⟩
  have C6 := hide' (C5.out.trans (b.mono C5.out.size))
  clear b x0 x1 x2 C5
  obtain ⟨x0, x1, x2, -⟩ := BX.out.next C6.out
  go_wp2_with fail
  refine (err_nil_true _).mono ?_
  rintro e w8 ⟨rfl, b⟩
  have C7 := hide' (C6.out.trans (b.mono C6.out.size))
  clear b x0 x1 x2 C6
  obtain ⟨x0, x1, x2, -⟩ := BX.out.next C7.out
  go_wp2_with fail
  refine (pTrim W H xs a xs.length c _ (AP.out.below C7.out) HC.out HCM.out LW.out LH.out HS.out HN.out).mono ?_
  rintro e w9 ⟨v9, rfl, t9, f9, b⟩
  have C8 := hide' (C7.out.trans (b.mono C7.out.size))
  rw [TP.out] at t9 ⊢
  obtain ⟨a9, c9, rfl, -⟩ := t9.arg FT.out.max
  have C8' := hide' (C8.out.alloc C8.out.size (.cells #[.int .i64 (tp.W : Int), .int .i64 (tp.H : Int), .slice a9 tp.xs.length c9] 51))
  clear C8
  have C8 := C8'
  clear C8'
  have Q1 := hide' (PV.new (q := tp) t9 51)
  clear t9 f9
  clear b x0 x1 x2 C7
  obtain ⟨x0, x1, x2, -⟩ := BX.out.next C8.out
  go_wp2_with fail
  refine (err_nil_true _).mono ?_
  rintro e w10 ⟨rfl, b⟩
  have C9 := hide' (C8.out.trans (b.mono C8.out.size))
  have Q1' := hide' (Q1.out.next b)
  clear Q1
  have Q1 := Q1'
  clear Q1'
  clear b x0 x1 x2 C8
  obtain ⟨x0, x1, x2, -⟩ := BX.out.next C9.out
  go_wp2_with fail
  refine (pCanon W H xs a xs.length c _ (AP.out.below C9.out) HC.out HCM.out LW.out LH.out HS.out HN.out).mono ?_
  rintro e w11 ⟨v11, rfl, t11, f11, b⟩
  have C10 := hide' (C9.out.trans (b.mono C9.out.size))
  have Q1' := hide' (Q1.out.next b)
  clear Q1
  have Q1 := Q1'
  clear Q1'
  rw [CP.out] at t11 ⊢
  obtain ⟨a11, c11, rfl, -⟩ := t11.arg FC.out.max
  have C10' := hide' (C10.out.alloc C10.out.size (.cells #[.int .i64 (cp.W : Int), .int .i64 (cp.H : Int), .slice a11 cp.xs.length c11] 51))
  clear C10
  have C10 := C10'
  clear C10'
  have Q1' := hide' (Q1.out.alloc (.cells #[.int .i64 (cp.W : Int), .int .i64 (cp.H : Int), .slice a11 cp.xs.length c11] 51))
  clear Q1
  have Q1 := Q1'
  clear Q1'
  have Q2 := hide' (PV.new (q := cp) t11 51)
  clear t11 f11
  clear b x0 x1 x2 C9
  obtain ⟨x0, x1, x2, -⟩ := BX.out.next C10.out
  go_wp2_with fail
  refine (err_nil_true _).mono ?_
  rintro e w12 ⟨rfl, b⟩
  have C11 := hide' (C10.out.trans (b.mono C10.out.size))
  have Q1' := hide' (Q1.out.next b)
  clear Q1
  have Q1 := Q1'
  clear Q1'
  have Q2' := hide' (Q2.out.next b)
  clear Q2
  have Q2 := Q2'
  clear Q2'
  clear b x0 x1 x2 C10
  obtain ⟨x0, x1, x2, -⟩ := BX.out.next C11.out
  go_wp2_with fail
  refine (pTurn_ok' W H k xs a c _ (AP.out.below C11.out) OK.out LW.out LH.out HS.out HK.out).mono ?_
  rintro e w13 ⟨v13, rfl, t13, f13, b⟩
  have C12 := hide' (C11.out.trans (b.mono C11.out.size))
  have Q1' := hide' (Q1.out.next b)
  clear Q1
  have Q1 := Q1'
  clear Q1'
  have Q2' := hide' (Q2.out.next b)
  clear Q2
  have Q2 := Q2'
  clear Q2'
  rw [UP.out] at t13 ⊢
  obtain ⟨a13, c13, rfl, -⟩ := t13.arg FU.out.max
  have C12' := hide' (C12.out.alloc C12.out.size (.cells #[.int .i64 (up.W : Int), .int .i64 (up.H : Int), .slice a13 up.xs.length c13] 51))
  clear C12
  have C12 := C12'
  clear C12'
  have Q1' := hide' (Q1.out.alloc (.cells #[.int .i64 (up.W : Int), .int .i64 (up.H : Int), .slice a13 up.xs.length c13] 51))
  clear Q1
  have Q1 := Q1'
  clear Q1'
  have Q2' := hide' (Q2.out.alloc (.cells #[.int .i64 (up.W : Int), .int .i64 (up.H : Int), .slice a13 up.xs.length c13] 51))
  clear Q2
  have Q2 := Q2'
  clear Q2'
  have Q3 := hide' (PV.new (q := up) t13 51)
  clear t13 f13
  clear b x0 x1 x2 C11
  obtain ⟨x0, x1, x2, -⟩ := BX.out.next C12.out
  go_wp2_with fail
  refine (err_nil_true _).mono ?_
  rintro e w14 ⟨rfl, b⟩
  have C13 := hide' (C12.out.trans (b.mono C12.out.size))
  have Q1' := hide' (Q1.out.next b)
  clear Q1
  have Q1 := Q1'
  clear Q1'
  have Q2' := hide' (Q2.out.next b)
  clear Q2
  have Q2 := Q2'
  clear Q2'
  have Q3' := hide' (Q3.out.next b)
  clear Q3
  have Q3 := Q3'
  clear Q3'
  clear b x0 x1 x2 C12
  obtain ⟨x0, x1, x2, -⟩ := BX.out.next C13.out
  go_wp2_with fail
  refine (refRuns W H xs a xs.length c _ (AP.out.below C13.out) LW.out LH.out HN.out).mono ?_
  rw [RS.out]
  rintro e w15 ⟨rfl, b⟩
  have C14 := hide' (C13.out.trans (b.mono C13.out.size))
  have Q1' := hide' (Q1.out.next b)
  clear Q1
  have Q1 := Q1'
  clear Q1'
  have Q2' := hide' (Q2.out.next b)
  clear Q2
  have Q2 := Q2'
  clear Q2'
  have Q3' := hide' (Q3.out.next b)
  clear Q3
  have Q3 := Q3'
  clear Q3'
  clear b x0 x1 x2 C13
  obtain ⟨x0, x1, x2, -⟩ := BX.out.next C14.out
  go_wp2_with fail
  refine (refDraw W H xs a xs.length c _ (AP.out.below C14.out) LW.out LH.out HN.out).mono ?_
  rw [DS.out]
  rintro e w16 ⟨rfl, b⟩
  have C15 := hide' (C14.out.trans (b.mono C14.out.size))
  have Q1' := hide' (Q1.out.next b)
  clear Q1
  have Q1 := Q1'
  clear Q1'
  have Q2' := hide' (Q2.out.next b)
  clear Q2
  have Q2 := Q2'
  clear Q2'
  have Q3' := hide' (Q3.out.next b)
  clear Q3
  have Q3 := Q3'
  clear Q3'
  clear b x0 x1 x2 C14
  obtain ⟨x0, x1, x2, -⟩ := BX.out.next C15.out
  go_wp2_with fail
  refine (refTrim W H xs a xs.length c _ (AP.out.below C15.out) LW.out LH.out HN.out).mono ?_
  rintro e w17 ⟨v17, rfl, t17, f17, b⟩
  have C16 := hide' (C15.out.trans (b.mono C15.out.size))
  have Q1' := hide' (Q1.out.next b)
  clear Q1
  have Q1 := Q1'
  clear Q1'
  have Q2' := hide' (Q2.out.next b)
  clear Q2
  have Q2 := Q2'
  clear Q2'
  have Q3' := hide' (Q3.out.next b)
  clear Q3
  have Q3 := Q3'
  clear Q3'
  rw [TP.out] at t17 ⊢
  obtain ⟨a17, c17, rfl, -⟩ := t17.arg FT.out.max
  have C16' := hide' (C16.out.alloc C16.out.size (.cells #[.int .i64 (tp.W : Int), .int .i64 (tp.H : Int), .slice a17 tp.xs.length c17] 51))
  clear C16
  have C16 := C16'
  clear C16'
  have HZ := hide' (show w1.heap.size ≤ w17.heap.size from (C15.out.trans (b.mono C15.out.size)).size)
  have Q1' := hide' (Q1.out.fix (.cells #[.int .i64 (tp.W : Int), .int .i64 (tp.H : Int), .slice a17 tp.xs.length c17] 51))
  clear Q1
  have Q1 := Q1'
  clear Q1'
  have Q2' := hide' (Q2.out.fix (.cells #[.int .i64 (tp.W : Int), .int .i64 (tp.H : Int), .slice a17 tp.xs.length c17] 51))
  clear Q2
  have Q2 := Q2'
  clear Q2'
  have Q3' := hide' (Q3.out.fix (.cells #[.int .i64 (tp.W : Int), .int .i64 (tp.H : Int), .slice a17 tp.xs.length c17] 51))
  clear Q3
  have Q3 := Q3'
  clear Q3'
  have Z := hide' (PV.new (q := tp) t17 51)
  clear t17 f17
  have ZB := hide' (show BoxZ _ _ from ⟨_, _, _, Z.out.tb⟩)
  clear b x0 x1 x2 C15
  obtain ⟨x0, x1, x2, -⟩ := BX.out.next C16.out
  obtain ⟨q0, q1, q2, -⟩ := Q1.out.pv.tb
  obtain ⟨z0, z1, z2, -⟩ := Z.out.tb
  go_wp2_with fail
  refine (Alike_same tp.W tp.H _ _ tp.xs _ Q1.out.pv.tab Z.out.tab FT.out.max).mono ?_
  rintro e w18 ⟨rfl, b⟩
  clear q0 q1 q2
  clear z0 z1 z2
  clear Q1
  clear Z
  have C17 := hide' (C16.out.trans (b.mono C16.out.size))
  have Q2' := hide' (Q2.out.next b)
  clear Q2
  have Q2 := Q2'
  clear Q2'
  have Q3' := hide' (Q3.out.next b)
  clear Q3
  have Q3 := Q3'
  clear Q3'
  have ZB' := hide' (ZB.out.next b)
  clear ZB
  have ZB := ZB'
  clear ZB'
  clear b x0 x1 x2 C16
  obtain ⟨x0, x1, x2, -⟩ := BX.out.next C17.out
  go_wp2_with fail
  refine (refCanon W H xs a xs.length c _ (AP.out.below C17.out) LW.out LH.out HN.out).mono ?_
  rintro e w19 ⟨v19, rfl, t19, f19, b⟩
  have zl := ZB.out.lt
  have C18 := hide' (C17.out.trans (b.mono C17.out.size))
  have Q2' := hide' (Q2.out.next b)
  clear Q2
  have Q2 := Q2'
  clear Q2'
  have Q3' := hide' (Q3.out.next b)
  clear Q3
  have Q3 := Q3'
  clear Q3'
  have ZB' := hide' (ZB.out.next b)
  clear ZB
  have ZB := ZB'
  clear ZB'
  rw [CP.out] at t19 ⊢
  obtain ⟨a19, c19, rfl, -⟩ := t19.arg FC.out.max
  have C18' := hide' (below_stored C18.out (w17.heap.size) HZ.out (.int .i64 (cp.W : Int)) (.int .i64 (cp.H : Int)) (.slice a19 cp.xs.length c19))
  clear C18
  have C18 := C18'
  clear C18'
  have Q2' := hide' (Q2.out.store ZB.out.lt (.int .i64 (cp.W : Int)) (.int .i64 (cp.H : Int)) (.slice a19 cp.xs.length c19))
  clear Q2
  have Q2 := Q2'
  clear Q2'
  have Q3' := hide' (Q3.out.store ZB.out.lt (.int .i64 (cp.W : Int)) (.int .i64 (cp.H : Int)) (.slice a19 cp.xs.length c19))
  clear Q3
  have Q3 := Q3'
  clear Q3'
  have ZC := hide' (BoxZ.put (q := cp) ZB.out t19 (fun g k c e => by have := f19 g k c e; omega))
  obtain ⟨za, zb, zc, z0, z1, z2, zf⟩ := ZB.out
  have g0 := zf 0
  have g1 := zf 1
  have g2 := zf 2
  have ZB' := hide' (show BoxZ _ _ from ⟨_, _, _, ZC.out.tb⟩)
  clear zl ZB zf t19 f19
  have ZB := ZB'
  clear ZB'
  clear b x0 x1 x2 C17
  obtain ⟨x0, x1, x2, -⟩ := BX.out.next C18.out
  obtain ⟨y0, y1, y2, -⟩ := ZC.out.tb
  obtain ⟨q0, q1, q2, -⟩ := Q2.out.pv.tb
  go_wp2_with fail
  refine (Alike_same cp.W cp.H _ _ cp.xs _ Q2.out.pv.tab ZC.out.tab FC.out.max).mono ?_
  rintro e w20 ⟨rfl, b⟩
  clear q0 q1 q2
  clear Q2
  have C19 := hide' (C18.out.trans (b.mono C18.out.size))
  have Q3' := hide' (Q3.out.next b)
  clear Q3
  have Q3 := Q3'
  clear Q3'
  have ZB' := hide' (ZB.out.next b)
  clear ZB
  have ZB := ZB'
  clear ZB'
  clear b x0 x1 x2 C18
  obtain ⟨x0, x1, x2, -⟩ := BX.out.next C19.out
  clear y0 y1 y2 z0 z1 z2 g0 g1 g2 ZC
  go_wp2_with fail
  refine (refTurn' W H k xs a c _ (AP.out.below C19.out) OK.out LW.out LH.out HK.out).mono ?_
  rintro e w21 ⟨v21, rfl, t21, f21, b⟩
  have zl := ZB.out.lt
  have C20 := hide' (C19.out.trans (b.mono C19.out.size))
  have Q3' := hide' (Q3.out.next b)
  clear Q3
  have Q3 := Q3'
  clear Q3'
  have ZB' := hide' (ZB.out.next b)
  clear ZB
  have ZB := ZB'
  clear ZB'
  rw [UP.out] at t21 ⊢
  obtain ⟨a21, c21, rfl, -⟩ := t21.arg FU.out.max
  have C20' := hide' (below_stored C20.out (w17.heap.size) HZ.out (.int .i64 (up.W : Int)) (.int .i64 (up.H : Int)) (.slice a21 up.xs.length c21))
  clear C20
  have C20 := C20'
  clear C20'
  have Q3' := hide' (Q3.out.store ZB.out.lt (.int .i64 (up.W : Int)) (.int .i64 (up.H : Int)) (.slice a21 up.xs.length c21))
  clear Q3
  have Q3 := Q3'
  clear Q3'
  have ZU := hide' (BoxZ.put (q := up) ZB.out t21 (fun g k c e => by have := f21 g k c e; omega))
  obtain ⟨za, zb, zc, z0, z1, z2, zf⟩ := ZB.out
  have g0 := zf 0
  have g1 := zf 1
  have g2 := zf 2
  have ZB' := hide' (show BoxZ _ _ from ⟨_, _, _, ZU.out.tb⟩)
  clear zl ZB zf t21 f21
  have ZB := ZB'
  clear ZB'
  clear b x0 x1 x2 C19
  obtain ⟨x0, x1, x2, -⟩ := BX.out.next C20.out
  obtain ⟨y0, y1, y2, -⟩ := ZU.out.tb
  obtain ⟨q0, q1, q2, -⟩ := Q3.out.pv.tb
  go_wp2_with fail
  refine (Alike_same up.W up.H _ _ up.xs _ Q3.out.pv.tab ZU.out.tab FU.out.max).mono ?_
  rintro e w22 ⟨rfl, b⟩
  clear q0 q1 q2
  clear Q3
  have C21 := hide' (C20.out.trans (b.mono C20.out.size))
  have ZB' := hide' (ZB.out.next b)
  clear ZB
  have ZB := ZB'
  clear ZB'
  clear b x0 x1 x2 C20
  obtain ⟨x0, x1, x2, -⟩ := BX.out.next C21.out
  have k2 : ((tx : Int) == (tx : Int)) = true := by simp
  have k3 : ((ty : Int) == (ty : Int)) = true := by simp
  go_wp2
  go_ret
  exact ⟨rfl, BB.out.trans (C21.out.mono BB.out.size)⟩
end Go.Proofs.YtjngjnkecnnmeaaDoor

