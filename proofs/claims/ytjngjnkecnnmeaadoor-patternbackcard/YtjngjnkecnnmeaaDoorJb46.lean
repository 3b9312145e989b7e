/-
  What the last text of this claim leans on, part 46: Bd1, Bd2, LawK.
-/
import Derived.Test.YtjngjnkecnnmeaaDoorJb37
import Derived.Test.YtjngjnkecnnmeaaDoorJb38
import Derived.Test.YtjngjnkecnnmeaaDoorJb40
import Derived.Test.YtjngjnkecnnmeaaDoorJb42
import Derived.Test.YtjngjnkecnnmeaaDoorJb45
namespace Go.Proofs.YtjngjnkecnnmeaaDoor
open Go.RowKit
set_option linter.unusedVariables false

def alikeB (p q : Pat) : Bool := decide (p.xs = q.xs) && ((p.W : Int) == (q.W : Int)) && ((p.H : Int) == (q.H : Int))
theorem alikeB_self (p : Pat) : alikeB p p = true := by unfold alikeB; simp
theorem Alike_P (W H W' H' : Nat) (xs ys : List Int) (a b : Option Addr) (c d : Nat) (w : World) (hA : ArgP w xs a xs.length c) (hB : ArgP w ys b ys.length d) :
    Calls Tryd.prog 33 #[.agg #[.int .i64 (W : Int), .int .i64 (H : Int), .slice a xs.length c], .agg #[.int .i64 (W' : Int), .int .i64 (H' : Int), .slice b ys.length d]] w fun e w' => e = .returned (.bool (alikeB ⟨W, H, xs⟩ ⟨W', H', ys⟩)) ∧ Below w.heap.size w w' :=
  Alike_any W H W' H' xs ys a b xs.length c ys.length d w hA hB

set_option maxHeartbeats 1600000 in
theorem back_P (W H W' H' : Nat) (xs ys : List Int) (a b : Option Addr) (c d : Nat) (w : World) (hA : ArgP w xs a xs.length c) (hB : ArgP w ys b ys.length d) :
    Calls Tryd.prog 43 #[.agg #[.int .i64 (W : Int), .int .i64 (H : Int), .slice a xs.length c], .agg #[.int .i64 (W' : Int), .int .i64 (H' : Int), .slice b ys.length d], .nilIface] w fun e w' => e = .returned (.bool (alikeB ⟨W, H, xs⟩ ⟨W', H', ys⟩)) ∧ Below w.heap.size w w' := by
  have B := hide' (((Below.refl w.heap.size w).alloc (Nat.le_refl _) (.cells #[.int .i64 (W : Int), .int .i64 (H : Int), .slice a xs.length c] 51)).alloc (by simp) (.cells #[.int .i64 (W' : Int), .int .i64 (H' : Int), .slice b ys.length d] 51))
  have AA := hide' (hA.below B.out)
  have AB := hide' (hB.below B.out)
  obtain ⟨r, hr⟩ : ∃ r, alikeB ⟨W, H, xs⟩ ⟨W', H', ys⟩ = r := ⟨_, rfl⟩
  have HR := hide' hr
  clear hA hB
  rw [hr]
  clear hr
  cases r
  all_goals
    go_enter Tryd.func43, Tryd.ntmps43
    go_wp2_with fail
    refine (Alike_P W H W' H' xs ys a b c d _ AA.out AB.out).mono ?_
    rw [HR.out]
    rintro e w1 ⟨rfl, b1⟩
    have B1 := hide' (B.out.trans (b1.mono B.out.size))
    clear b1
    go_wp2
    go_ret
    exact ⟨rfl, B1.out⟩

def ReadPost (q : Pat) (w : World) (e : Ending) (w' : World) : Prop :=
  ∃ v, e = .returned (.tuple #[.agg #[.int .i64 (q.W : Int), .int .i64 (q.H : Int), v], .int .i64 0, .nilIface]) ∧ Tab w' v q.xs ∧ True ∧ Below w.heap.size w w'
def ReadPostF (q : Pat) (w : World) (e : Ending) (w' : World) : Prop :=
  ∃ v, e = .returned (.tuple #[.agg #[.int .i64 (q.W : Int), .int .i64 (q.H : Int), v], .int .i64 0, .nilIface]) ∧ Tab w' v q.xs ∧ Fresh w v ∧ Below w.heap.size w w'
theorem parseRuns_ok (s : ByteArray) (q : Pat) (w : World) (hs : s.size ≤ maxLen) (h : runsS s = .inl (q.W, q.H, q.xs)) :
    Calls Tryd.prog 39 #[.string s] w (ReadPost q w) := by
  refine (pParseRuns_any s w hs).mono ?_
  rintro e w' ⟨hb, (⟨W', H', xs', g, h1, h2, h3, h4, h5, h6⟩ | ⟨a, f, h1, -⟩)⟩
  · rw [h] at h1
    injection h1 with h1
    injection h1 with e1 h1
    injection h1 with e2 e3
    subst e1 e2 e3
    exact ⟨_, h2, h3.tab h4, trivial, hb⟩
  · rw [h] at h1; cases h1
theorem parseDraw_ok (s : ByteArray) (q : Pat) (w : World) (hs : s.size ≤ maxLen) (h : drawS s = .inl (q.W, q.H, q.xs)) :
    Calls Tryd.prog 41 #[.string s] w (ReadPostF q w) := by
  refine (pParseDraw_any s w hs).mono ?_
  rintro e w' ⟨hb, (⟨W', H', xs', v, h1, h2, h3, h4, h5⟩ | ⟨a, f, h1, -⟩)⟩
  · rw [h] at h1
    injection h1 with h1
    injection h1 with e1 h1
    injection h1 with e2 e3
    subst e1 e2 e3
    exact ⟨_, h2, h3, h5, hb⟩
  · rw [h] at h1; cases h1

theorem shape_bits01 {W H : Int} {xs : List Int} (h : shapeF W H xs = 0) : bits xs := by
  intro x hx
  unfold shapeF at h
  split at h
  · split at h
    · split at h
      · rename_i q
        have := (List.all_eq_true.1 q) x hx
        exact (cellB_iff x).1 this
      · cases h
    · cases h
  · cases h
theorem runs_size (W H : Nat) (xs : List Int) (hW : W ≤ 100) (hH : H ≤ 100) : (⟨(runsB ⟨W, H, xs⟩).toArray⟩ : ByteArray).size ≤ maxLen := by
  have h1 := (rowsF_sum W xs hW H hH).1
  have h2 := (rowsF_sum W xs hW H hH).2.1
  have h3 : H * W ≤ 10000 := Nat.mul_le_mul hH hW
  have a1 := dec_lt3 W hW
  have a2 := dec_lt3 H hH
  show (runsB ⟨W, H, xs⟩).toArray.size ≤ _
  rw [List.size_toArray, runsB_is]
  simp [headB]
  unfold maxLen
  omega
theorem draw_size (W H : Nat) (xs : List Int) (hW : W ≤ 100) (hH : H ≤ 100) : (⟨(drawRows W xs H).toArray⟩ : ByteArray).size ≤ maxLen := by
  have h1 := drawRows_le W xs hW H
  show (drawRows W xs H).toArray.size ≤ _
  rw [List.size_toArray]
  unfold maxLen
  omega
def factS : ByteArray := ⟨#[120, 32, 61, 32, 50, 44, 32, 121, 32, 61, 32, 49, 10, 98, 111, 33, 10]⟩
theorem fact_runs : runsS factS = .inl (2, 1, [0, 1]) := by
  have h := runs_back 2 1 [0, 1] (by omega) (by omega) rfl (by intro x hx; simp at hx; omega)
  have e : factS = txt (runsB ⟨2, 1, [0, 1]⟩) := by
    unfold factS txt
    congr 1
    simp [runsB, dec_small, rowsF, endF, cntF, nextF, runsF, timesB, tagB]
  rw [e]
  exact h
def drawnP (W H : Nat) (xs : List Int) : Pat := ⟨if H = 0 then 0 else W, H, xs⟩
end Go.Proofs.YtjngjnkecnnmeaaDoor

namespace Go.Proofs.YtjngjnkecnnmeaaDoor
open Go.RowKit
set_option linter.unusedVariables false

theorem fact_cell {w : World} {a : Option Addr} {c : Nat} (h : Tab w (.slice a 2 c) [0, 1]) : ∃ g, a = some ⟨g, 0, none⟩ ∧ w.cell? ⟨g, 1, none⟩ = some (.int .i64 1) ∧ g < w.heap.size := by
  rcases h with ⟨h, -⟩ | ⟨g, cap, e, hg, hc⟩
  · cases h
  · injection e with e1
    exact ⟨g, e1, hc 1 (by simp), hg⟩
theorem FreshC.caps {w w' : World} {a : Option Addr} {n c : Nat} {xs : List Int} {v : Value} (f : FreshC w v) (t : Tab w' v xs) (e : v = .slice a n c) : n ≤ c ∧ c ≤ maxLen := by
  rcases t with ⟨h1, h2⟩ | ⟨g, cap, h1, -⟩
  · rw [h2] at e
    injection e with e1 e2 e3
    subst e2 e3
    exact ⟨Nat.le_refl _, Nat.zero_le _⟩
  · have := f g _ _ h1
    rw [h1] at e
    injection e with e1 e2 e3
    subst e2 e3
    exact this.2
theorem getD_bits {xs : List Int} (h : bits xs) (i : Nat) : xs.getD i 0 = 0 ∨ xs.getD i 0 = 1 := by
  rcases Nat.lt_or_ge i xs.length with q | q
  · rw [List.getD_eq_getElem?_getD, List.getElem?_eq_getElem q]
    exact h _ (List.getElem_mem q)
  · rw [List.getD_eq_getElem?_getD, List.getElem?_eq_none q]
    exact Or.inl rfl
theorem turn_all {p : Pat} (h : bits p.xs) (hp : p.ok) (k : Nat) (hk : k < 8) : bits (p.turn k).xs := by
  rw [turn_is p hp k hk]
  intro x hx
  have hx' : x ∈ refTurn p k := hx
  unfold refTurn at hx'
  obtain ⟨i, -, rfl⟩ := List.mem_map.1 hx'
  exact getD_bits h _
theorem shape_of {W H : Nat} {xs : List Int} (lW : W ≤ 100) (lH : H ≤ 100) (hn : xs.length = W * H) (hb : bits xs) : shapeF W H xs = 0 := by
  unfold shapeF
  rw [show sideB (W : Int) = true by unfold sideB; simp; omega, show sideB (H : Int) = true by unfold sideB; simp; omega]
  rw [if_pos (show (true && true) = true from rfl), if_pos (by rw [hn]; simp), if_pos]
  rw [List.all_eq_true]
  intro x hx
  exact (cellB_iff x).2 (hb x hx)
theorem turn_shape {W H k : Nat} {xs : List Int} (hs : shapeF W H xs = 0) (lW : W ≤ 100) (lH : H ≤ 100) (hn : xs.length = W * H) (hk : k < 8) : shapeF (Pat.turn ⟨W, H, xs⟩ k).W (Pat.turn ⟨W, H, xs⟩ k).H (Pat.turn ⟨W, H, xs⟩ k).xs = 0 := by
  have f := turn_fits (show Fits xs.length ⟨W, H, xs⟩ from ⟨hn, lW, lH, rfl⟩) k hk
  exact shape_of f.w f.h f.ok (turn_all (p := ⟨W, H, xs⟩) (shape_bits01 hs) hn k hk)
theorem pTurn_at (W H k : Nat) (K : Int) (xs : List Int) (a : Option Addr) (c : Nat) (w : World) (hP : ArgP w xs a xs.length c) (hp : Pat.ok ⟨W, H, xs⟩) (lW : W ≤ 100) (lH : H ≤ 100) (hs : shapeF W H xs = 0) (hk : k < 8) (hK : K = (k : Int)) :
    Calls Tryd.prog 32 #[.agg #[.int .i64 (W : Int), .int .i64 (H : Int), .slice a xs.length c], .int .i64 K] w (TurnOkPost (Pat.turn ⟨W, H, xs⟩ k) w) := by
  subst hK
  exact pTurn_ok' W H k xs a c w hP hp lW lH hs hk
end Go.Proofs.YtjngjnkecnnmeaaDoor

namespace Go.Proofs.YtjngjnkecnnmeaaDoor
open Go.RowKit
set_option linter.unusedVariables false

set_option maxRecDepth 100000 in
set_option maxHeartbeats 6400000 in
theorem law_back_bad (W H k : Int) (xs : List Int) (a : Option Addr) (c : Nat) (w : World) (hP : ArgP w xs a xs.length c) (hs : shapeF W H xs ≠ 0) :
    Calls Tryd.prog 8 #[.agg #[.int .i64 W, .int .i64 H, .slice a xs.length c], .int .i64 k] w fun e w' => e = .returned (.bool true) ∧ Below w.heap.size w w' := by
  obtain ⟨w1, hw1⟩ : ∃ w1, w.alloc (.cells #[.int .i64 W, .int .i64 H, .slice a xs.length c] 51) = w1 := ⟨_, rfl⟩
  have AP := hide' (show ArgP w1 xs a xs.length c by rw [← hw1]; exact hP.alloc _)
  have BX := hide' (show TB w.heap.size (.int .i64 W) (.int .i64 H) (.slice a xs.length c) w1 by rw [← hw1]; exact TB.new w _ _ _ _)
  have BB := hide' (show Below w.heap.size w w1 by rw [← hw1]; exact (Below.refl _ _).alloc (Nat.le_refl _) _)
  have HS := hide' hs
  obtain ⟨f, hf⟩ : ∃ f, shapeF W H xs = f := ⟨_, rfl⟩
  have HF := hide' hf
  clear hP hs hf
  have C0 := hide' (Below.refl w1.heap.size w1)
  obtain ⟨x0, x1, x2, -⟩ := BX.out
  go_enter Tryd.func8, Tryd.ntmps8
  go_wp2_with fail
  refine (parseRuns_ok factS ⟨2, 1, [0, 1]⟩ _ (by decide) fact_runs).mono ?_
  rintro e w2 ⟨v2, rfl, t2, f2, b⟩
  have C1 := hide' (C0.out.trans (b.mono C0.out.size))
  obtain ⟨a2, c2, rfl, -⟩ := t2.arg (by decide)
  clear hw1
  have C1' := hide' (C1.out.alloc C1.out.size (.cells #[.int .i64 2, .int .i64 1, .slice a2 2 c2] 51))
  clear C1
  have C1 := C1'
  clear C1'
  have Q0 := hide' (PV.new (q := ⟨2, 1, [0, 1]⟩) t2 51)
  obtain ⟨gq, hgq, q3, q4⟩ := fact_cell t2
  subst hgq
  clear t2 f2
  clear b x0 x1 x2 C0
  obtain ⟨x0, x1, x2, -⟩ := BX.out.next C1.out
  obtain ⟨q0, q1, q2, -⟩ := Q0.out.tb
  go_wp2_with fail
  refine (pRuns_bad W H xs a xs.length c _ (AP.out.below C1.out) HS.out).mono ?_
  rw [HF.out]
  rintro e w3 ⟨rfl, b⟩
  have C2 := hide' (C1.out.trans (b.mono C1.out.size))
  have Q0' := hide' (Q0.out.next b)
  clear Q0
  have Q0 := Q0'
  clear Q0'
  clear b x0 x1 x2 C1
  obtain ⟨x0, x1, x2, -⟩ := BX.out.next C2.out
  go_wp2
  go_ret
  exact ⟨rfl, BB.out.trans (C2.out.mono BB.out.size)⟩

set_option maxRecDepth 100000 in
set_option maxHeartbeats 12800000 in
theorem law_back_kbad_t (W H : Nat) (k : Int) (xs : List Int) (a : Option Addr) (c : Nat) (w : World) (hP : ArgP w xs a xs.length c) (hT : PowT w) (hc : xs.length ≤ c) (hcm : c ≤ maxLen) (lW : W ≤ 100) (lH : H ≤ 100) (hs : shapeF W H xs = 0) (hn : xs.length = W * H) (hk : k < 0 ∨ 7 < k) (ht0 : alikeB ⟨W, H, xs⟩ (drawnP W H xs) = true) :
    Calls Tryd.prog 8 #[.agg #[.int .i64 (W : Int), .int .i64 (H : Int), .slice a xs.length c], .int .i64 k] w fun e w' => e = .returned (.bool true) ∧ Below w.heap.size w w' := by
  obtain ⟨w1, hw1⟩ : ∃ w1, w.alloc (.cells #[.int .i64 (W : Int), .int .i64 (H : Int), .slice a xs.length c] 51) = w1 := ⟨_, rfl⟩
  have AP := hide' (show ArgP w1 xs a xs.length c by rw [← hw1]; exact hP.alloc _)
  have BX := hide' (show TB w.heap.size (.int .i64 (W : Int)) (.int .i64 (H : Int)) (.slice a xs.length c) w1 by rw [← hw1]; exact TB.new w _ _ _ _)
  have BB := hide' (show Below w.heap.size w w1 by rw [← hw1]; exact (Below.refl _ _).alloc (Nat.le_refl _) _)
  have HS := hide' hs
  have HT := hide' (hT.below BB.out)
  have HN := hide' hn
  have LW := hide' lW
  have LH := hide' lH
  have HC := hide' hc
  have HCM := hide' hcm
  have OK := hide' (show Pat.ok ⟨W, H, xs⟩ from hn)
  have BT := hide' (shape_bits01 hs)
  have RR := hide' (runs_back W H xs lW lH hn BT.out)
  have RD := hide' (draw_back W H xs lW lH hn BT.out)
  have SR := hide' (runs_size W H xs lW lH)
  have SD := hide' (draw_size W H xs lW lH)
  unfold txt at RR RD
  have FP := hide' (show Fits xs.length ⟨W, H, xs⟩ from ⟨OK.out, lW, lH, rfl⟩)
  have MP := hide' (show xs.length ≤ maxLen from FP.out.max)
  obtain ⟨rs, hrs⟩ : ∃ rs, (⟨(runsB ⟨W, H, xs⟩).toArray⟩ : ByteArray) = rs := ⟨_, rfl⟩
  obtain ⟨ds, hds⟩ : ∃ ds, (⟨(drawRows W xs H).toArray⟩ : ByteArray) = ds := ⟨_, rfl⟩
  rw [hrs] at RR SR
  rw [hds] at RD SD
  have RS := hide' hrs
  have DS := hide' hds
  obtain ⟨dp, hdp⟩ : ∃ dp, drawnP W H xs = dp := ⟨_, rfl⟩
  have DP := hide' (show drawS ds = .inl (dp.W, dp.H, dp.xs) by rw [RD.out, ← hdp]; rfl)
  have DM := hide' (show dp.xs.length ≤ maxLen by rw [← hdp]; exact MP.out)
  have T0 := hide' (show alikeB ⟨W, H, xs⟩ ⟨dp.W, dp.H, dp.xs⟩ = true by rw [← hdp]; exact ht0)
  have S0 := hide' (alikeB_self ⟨W, H, xs⟩)
  have HK := hide' hk
  clear hk
  clear hP hT hs hn hrs hds hdp lW lH hc hcm ht0
  have C0 := hide' (Below.refl w1.heap.size w1)
  obtain ⟨x0, x1, x2, -⟩ := BX.out
  go_enter Tryd.func8, Tryd.ntmps8
  go_wp2_with fail
  refine (parseRuns_ok factS ⟨2, 1, [0, 1]⟩ _ (by decide) fact_runs).mono ?_
  rintro e w2 ⟨v2, rfl, t2, f2, b⟩
  have C1 := hide' (C0.out.trans (b.mono C0.out.size))
  obtain ⟨a2, c2, rfl, -⟩ := t2.arg (by decide)
  clear hw1
  have C1' := hide' (C1.out.alloc C1.out.size (.cells #[.int .i64 2, .int .i64 1, .slice a2 2 c2] 51))
  clear C1
  have C1 := C1'
  clear C1'
  have Q0 := hide' (PV.new (q := ⟨2, 1, [0, 1]⟩) t2 51)
  obtain ⟨gq, hgq, q3, q4⟩ := fact_cell t2
  subst hgq
  clear t2 f2
  clear b x0 x1 x2 C0
  obtain ⟨x0, x1, x2, -⟩ := BX.out.next C1.out
  obtain ⟨q0, q1, q2, -⟩ := Q0.out.tb
  go_wp2_with fail
  refine (pRuns W H xs a xs.length c _ (AP.out.below C1.out) (HT.out.below C1.out) HC.out HCM.out LW.out LH.out HS.out HN.out).mono ?_
  rw [RS.out]
  rintro e w3 ⟨rfl, b⟩
  clear Q0
  have C2 := hide' (C1.out.trans (b.mono C1.out.size))
  clear q0 q1 q2 q3 q4
  clear b x0 x1 x2 C1
  obtain ⟨x0, x1, x2, -⟩ := BX.out.next C2.out
  go_wp2_with fail
  refine (parseRuns_ok rs ⟨W, H, xs⟩ _ SR.out RR.out).mono ?_
  rintro e w4 ⟨v4, rfl, t4, f4, b⟩
  have C3 := hide' (C2.out.trans (b.mono C2.out.size))
  obtain ⟨a4, c4, rfl, -⟩ := t4.arg MP.out
  have C3' := hide' (C3.out.alloc C3.out.size (.cells #[.int .i64 (W : Int), .int .i64 (H : Int), .slice a4 xs.length c4] 51))
  clear C3
  have C3 := C3'
  clear C3'
  have Z := hide' (PV.new (q := ⟨W, H, xs⟩) t4 51)
  clear t4 f4
  have HZ := hide' (show w1.heap.size ≤ w4.heap.size from (C2.out.trans (b.mono C2.out.size)).size)
  have ZB := hide' (show BoxZ _ _ from ⟨_, _, _, Z.out.tb⟩)
  clear b x0 x1 x2 C2
  obtain ⟨x0, x1, x2, -⟩ := BX.out.next C3.out
  obtain ⟨_, _, e0, ap⟩ := Z.out.tab.arg MP.out
  injection e0 with e1 _ e2
  subst e1 e2
  have AZ := hide' ap
  clear ap
  obtain ⟨q0, q1, q2, -⟩ := Z.out.tb
  go_wp2_with fail
  refine (back_P W H W H xs xs a _ c _ _ (AP.out.below C3.out) AZ.out).mono ?_
  rw [S0.out]
  rintro e w5 ⟨rfl, b⟩
  clear q0 q1 q2
  clear Z
  have C4 := hide' (C3.out.trans (b.mono C3.out.size))
  have ZB' := hide' (ZB.out.next b)
  clear ZB
  have ZB := ZB'
  clear ZB'
  clear AZ
  clear b x0 x1 x2 C3
  obtain ⟨x0, x1, x2, -⟩ := BX.out.next C4.out
  go_wp2_with fail
  refine (pDraw W H xs a xs.length c _ (AP.out.below C4.out) HC.out HCM.out LW.out LH.out HS.out HN.out).mono ?_
  rw [DS.out]
  rintro e w6 ⟨rfl, b⟩
  have C5 := hide' (C4.out.trans (b.mono C4.out.size))
  have ZB' := hide' (ZB.out.next b)
  clear ZB
  have ZB := ZB'
  clear ZB'
  clear b x0 x1 x2 C4
  obtain ⟨x0, x1, x2, -⟩ := BX.out.next C5.out
  go_wp2_with fail
  refine (parseDraw_ok ds dp _ SD.out DP.out).mono ?_
  rintro e w7 ⟨v7, rfl, t7, f7, b⟩
  have zl := ZB.out.lt
  have C6 := hide' (C5.out.trans (b.mono C5.out.size))
  have ZB' := hide' (ZB.out.next b)
  clear ZB
  have ZB := ZB'
  clear ZB'
  obtain ⟨a7, c7, rfl, -⟩ := t7.arg DM.out
  have C6' := hide' (below_stored C6.out (w4.heap.size) HZ.out (.int .i64 (dp.W : Int)) (.int .i64 (dp.H : Int)) (.slice a7 dp.xs.length c7))
  clear C6
  have C6 := C6'
  clear C6'
  have ZD := hide' (BoxZ.put (q := dp) ZB.out t7 (fun g k c e => by have := f7 g k c e; omega))
  obtain ⟨za, zb, zc, z0, z1, z2, zf⟩ := ZB.out
  have g0 := zf 0
  have g1 := zf 1
  have g2 := zf 2
  clear zl ZB zf t7 f7
  clear b x0 x1 x2 C5
  obtain ⟨x0, x1, x2, -⟩ := BX.out.next C6.out
  obtain ⟨y0, y1, y2, -⟩ := ZD.out.tb
  obtain ⟨_, _, e0, ap⟩ := ZD.out.tab.arg DM.out
  injection e0 with e1 _ e2
  subst e1 e2
  have AZ := hide' ap
  clear ap
  go_wp2_with fail
  refine (back_P W H dp.W dp.H xs dp.xs a _ c _ _ (AP.out.below C6.out) AZ.out).mono ?_
  rw [T0.out]
  rintro e w8 ⟨rfl, b⟩
  have C7 := hide' (C6.out.trans (b.mono C6.out.size))
  clear AZ ZD y0 y1 y2 z0 z1 z2 g0 g1 g2
  clear b x0 x1 x2 C6
  obtain ⟨x0, x1, x2, -⟩ := BX.out.next C7.out
  go_wp2_with fail
  refine (pTurn_k W H k xs a xs.length c _ (AP.out.below C7.out) HS.out HK.out).mono ?_
  unfold ErrPost
  rintro e w9 ⟨rfl, b⟩
  have C8 := hide' (C7.out.trans (b.mono C7.out.size))
  clear b x0 x1 x2 C7
  obtain ⟨x0, x1, x2, -⟩ := BX.out.next C8.out
  go_wp2
  go_ret
  exact ⟨rfl, BB.out.trans ((C8.out.alloc C8.out.size _).mono BB.out.size)⟩

set_option maxRecDepth 100000 in
set_option maxHeartbeats 12800000 in
theorem law_back_kbad_f (W H : Nat) (k : Int) (xs : List Int) (a : Option Addr) (c : Nat) (w : World) (hP : ArgP w xs a xs.length c) (hT : PowT w) (hc : xs.length ≤ c) (hcm : c ≤ maxLen) (lW : W ≤ 100) (lH : H ≤ 100) (hs : shapeF W H xs = 0) (hn : xs.length = W * H) (hk : k < 0 ∨ 7 < k) (ht0 : alikeB ⟨W, H, xs⟩ (drawnP W H xs) = false) (hH : ¬ (0 : Int) < (H : Int)) :
    Calls Tryd.prog 8 #[.agg #[.int .i64 (W : Int), .int .i64 (H : Int), .slice a xs.length c], .int .i64 k] w fun e w' => e = .returned (.bool true) ∧ Below w.heap.size w w' := by
  obtain ⟨w1, hw1⟩ : ∃ w1, w.alloc (.cells #[.int .i64 (W : Int), .int .i64 (H : Int), .slice a xs.length c] 51) = w1 := ⟨_, rfl⟩
  have AP := hide' (show ArgP w1 xs a xs.length c by rw [← hw1]; exact hP.alloc _)
  have BX := hide' (show TB w.heap.size (.int .i64 (W : Int)) (.int .i64 (H : Int)) (.slice a xs.length c) w1 by rw [← hw1]; exact TB.new w _ _ _ _)
  have BB := hide' (show Below w.heap.size w w1 by rw [← hw1]; exact (Below.refl _ _).alloc (Nat.le_refl _) _)
  have HS := hide' hs
  have HT := hide' (hT.below BB.out)
  have HN := hide' hn
  have LW := hide' lW
  have LH := hide' lH
  have HC := hide' hc
  have HCM := hide' hcm
  have OK := hide' (show Pat.ok ⟨W, H, xs⟩ from hn)
  have BT := hide' (shape_bits01 hs)
  have RR := hide' (runs_back W H xs lW lH hn BT.out)
  have RD := hide' (draw_back W H xs lW lH hn BT.out)
  have SR := hide' (runs_size W H xs lW lH)
  have SD := hide' (draw_size W H xs lW lH)
  unfold txt at RR RD
  have FP := hide' (show Fits xs.length ⟨W, H, xs⟩ from ⟨OK.out, lW, lH, rfl⟩)
  have MP := hide' (show xs.length ≤ maxLen from FP.out.max)
  obtain ⟨rs, hrs⟩ : ∃ rs, (⟨(runsB ⟨W, H, xs⟩).toArray⟩ : ByteArray) = rs := ⟨_, rfl⟩
  obtain ⟨ds, hds⟩ : ∃ ds, (⟨(drawRows W xs H).toArray⟩ : ByteArray) = ds := ⟨_, rfl⟩
  rw [hrs] at RR SR
  rw [hds] at RD SD
  have RS := hide' hrs
  have DS := hide' hds
  obtain ⟨dp, hdp⟩ : ∃ dp, drawnP W H xs = dp := ⟨_, rfl⟩
  have DP := hide' (show drawS ds = .inl (dp.W, dp.H, dp.xs) by rw [RD.out, ← hdp]; rfl)
  have DM := hide' (show dp.xs.length ≤ maxLen by rw [← hdp]; exact MP.out)
  have T0 := hide' (show alikeB ⟨W, H, xs⟩ ⟨dp.W, dp.H, dp.xs⟩ = false by rw [← hdp]; exact ht0)
  have S0 := hide' (alikeB_self ⟨W, H, xs⟩)
  have HK := hide' hk
  clear hk
  clear hP hT hs hn hrs hds hdp lW lH hc hcm ht0
  have C0 := hide' (Below.refl w1.heap.size w1)
  obtain ⟨x0, x1, x2, -⟩ := BX.out
  go_enter Tryd.func8, Tryd.ntmps8
  go_wp2_with fail
  refine (parseRuns_ok factS ⟨2, 1, [0, 1]⟩ _ (by decide) fact_runs).mono ?_
  rintro e w2 ⟨v2, rfl, t2, f2, b⟩
  have C1 := hide' (C0.out.trans (b.mono C0.out.size))
  obtain ⟨a2, c2, rfl, -⟩ := t2.arg (by decide)
  clear hw1
  have C1' := hide' (C1.out.alloc C1.out.size (.cells #[.int .i64 2, .int .i64 1, .slice a2 2 c2] 51))
  clear C1
  have C1 := C1'
  clear C1'
  have Q0 := hide' (PV.new (q := ⟨2, 1, [0, 1]⟩) t2 51)
  obtain ⟨gq, hgq, q3, q4⟩ := fact_cell t2
  subst hgq
  clear t2 f2
  clear b x0 x1 x2 C0
  obtain ⟨x0, x1, x2, -⟩ := BX.out.next C1.out
  obtain ⟨q0, q1, q2, -⟩ := Q0.out.tb
  go_wp2_with fail
  refine (pRuns W H xs a xs.length c _ (AP.out.below C1.out) (HT.out.below C1.out) HC.out HCM.out LW.out LH.out HS.out HN.out).mono ?_
  rw [RS.out]
  rintro e w3 ⟨rfl, b⟩
  clear Q0
  have C2 := hide' (C1.out.trans (b.mono C1.out.size))
  clear q0 q1 q2 q3 q4
  clear b x0 x1 x2 C1
  obtain ⟨x0, x1, x2, -⟩ := BX.out.next C2.out
  go_wp2_with fail
  refine (parseRuns_ok rs ⟨W, H, xs⟩ _ SR.out RR.out).mono ?_
  rintro e w4 ⟨v4, rfl, t4, f4, b⟩
  have C3 := hide' (C2.out.trans (b.mono C2.out.size))
  obtain ⟨a4, c4, rfl, -⟩ := t4.arg MP.out
  have C3' := hide' (C3.out.alloc C3.out.size (.cells #[.int .i64 (W : Int), .int .i64 (H : Int), .slice a4 xs.length c4] 51))
  clear C3
  have C3 := C3'
  clear C3'
  have Z := hide' (PV.new (q := ⟨W, H, xs⟩) t4 51)
  clear t4 f4
  have HZ := hide' (show w1.heap.size ≤ w4.heap.size from (C2.out.trans (b.mono C2.out.size)).size)
  have ZB := hide' (show BoxZ _ _ from ⟨_, _, _, Z.out.tb⟩)
  clear b x0 x1 x2 C2
  obtain ⟨x0, x1, x2, -⟩ := BX.out.next C3.out
  obtain ⟨_, _, e0, ap⟩ := Z.out.tab.arg MP.out
  injection e0 with e1 _ e2
  subst e1 e2
  have AZ := hide' ap
  clear ap
  obtain ⟨q0, q1, q2, -⟩ := Z.out.tb
  go_wp2_with fail
  refine (back_P W H W H xs xs a _ c _ _ (AP.out.below C3.out) AZ.out).mono ?_
  rw [S0.out]
  rintro e w5 ⟨rfl, b⟩
  clear q0 q1 q2
  clear Z
  have C4 := hide' (C3.out.trans (b.mono C3.out.size))
  have ZB' := hide' (ZB.out.next b)
  clear ZB
  have ZB := ZB'
  clear ZB'
  clear AZ
  clear b x0 x1 x2 C3
  obtain ⟨x0, x1, x2, -⟩ := BX.out.next C4.out
  go_wp2_with fail
  refine (pDraw W H xs a xs.length c _ (AP.out.below C4.out) HC.out HCM.out LW.out LH.out HS.out HN.out).mono ?_
  rw [DS.out]
  rintro e w6 ⟨rfl, b⟩
  have C5 := hide' (C4.out.trans (b.mono C4.out.size))
  have ZB' := hide' (ZB.out.next b)
  clear ZB
  have ZB := ZB'
  clear ZB'
  clear b x0 x1 x2 C4
  obtain ⟨x0, x1, x2, -⟩ := BX.out.next C5.out
  go_wp2_with fail
  refine (parseDraw_ok ds dp _ SD.out DP.out).mono ?_
  rintro e w7 ⟨v7, rfl, t7, f7, b⟩
  have zl := ZB.out.lt
  have C6 := hide' (C5.out.trans (b.mono C5.out.size))
  have ZB' := hide' (ZB.out.next b)
  clear ZB
  have ZB := ZB'
  clear ZB'
  obtain ⟨a7, c7, rfl, -⟩ := t7.arg DM.out
  have C6' := hide' (below_stored C6.out (w4.heap.size) HZ.out (.int .i64 (dp.W : Int)) (.int .i64 (dp.H : Int)) (.slice a7 dp.xs.length c7))
  clear C6
  have C6 := C6'
  clear C6'
  have ZD := hide' (BoxZ.put (q := dp) ZB.out t7 (fun g k c e => by have := f7 g k c e; omega))
  obtain ⟨za, zb, zc, z0, z1, z2, zf⟩ := ZB.out
  have g0 := zf 0
  have g1 := zf 1
  have g2 := zf 2
  clear zl ZB zf t7 f7
  clear b x0 x1 x2 C5
  obtain ⟨x0, x1, x2, -⟩ := BX.out.next C6.out
  obtain ⟨y0, y1, y2, -⟩ := ZD.out.tb
  obtain ⟨_, _, e0, ap⟩ := ZD.out.tab.arg DM.out
  injection e0 with e1 _ e2
  subst e1 e2
  have AZ := hide' ap
  clear ap
  go_wp2_with fail
  refine (back_P W H dp.W dp.H xs dp.xs a _ c _ _ (AP.out.below C6.out) AZ.out).mono ?_
  rw [T0.out]
  rintro e w8 ⟨rfl, b⟩
  have C7 := hide' (C6.out.trans (b.mono C6.out.size))
  clear AZ ZD y0 y1 y2 z0 z1 z2 g0 g1 g2
  clear b x0 x1 x2 C6
  obtain ⟨x0, x1, x2, -⟩ := BX.out.next C7.out
  go_wp2_with fail
  refine (pTurn_k W H k xs a xs.length c _ (AP.out.below C7.out) HS.out HK.out).mono ?_
  unfold ErrPost
  rintro e w9 ⟨rfl, b⟩
  have C8 := hide' (C7.out.trans (b.mono C7.out.size))
  clear b x0 x1 x2 C7
  obtain ⟨x0, x1, x2, -⟩ := BX.out.next C8.out
  go_wp2
  go_ret
  exact ⟨rfl, BB.out.trans ((C8.out.alloc C8.out.size _).mono BB.out.size)⟩
end Go.Proofs.YtjngjnkecnnmeaaDoor

