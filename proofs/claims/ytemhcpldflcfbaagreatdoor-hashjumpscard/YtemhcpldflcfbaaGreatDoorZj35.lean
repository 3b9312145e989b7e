/-
  What the last text of this claim leans on, part 35: Hp5, Hr1, As, Err, Er1, Gp2, Gs1, Gq2, Gq4, Gq6.
-/
import Derived.Test.YtemhcpldflcfbaaGreatDoorZj34
import Derived.Test.YtemhcpldflcfbaaGreatDoorZj9
import Derived.Test.YtemhcpldflcfbaaGreatDoorProg
import Derived.Test.YtemhcpldflcfbaaGreatDoorZj4
import Derived.Test.YtemhcpldflcfbaaGreatDoorZj14
import Derived.Test.YtemhcpldflcfbaaGreatDoorZj15
import Derived.Test.YtemhcpldflcfbaaGreatDoorZj5
import Derived.Test.YtemhcpldflcfbaaGreatDoorZj6
import Derived.WalkKit
import Derived.LaidEql
import Derived.Stop.Asserts
import Derived.RowKitTokens
import Derived.WalkSpells
import Derived.WalkLawsBesides
import Derived.Deep.RegionHeld3
import Derived.BigQuiet
namespace Go.Proofs.YtemhcpldflcfbaaGreatDoor
open Go.RowKit
set_option linter.unusedVariables false
def PutQ (spb B : Nat) (b s o : Int) (tv : Value) (M2 : Int) (F : Int → Int → Int) (K2 : Nat) (w : World) (e : Ending) (w' : World) : Prop := e = .returned .nilIface ∧ SpB w' spb B b s o tv M2 F K2 ∧ Below B w w'
theorem SpB.below {w w' : World} {spb B : Nat} {b s o M : Int} {tv : Value} {F : Int → Int → Int} {K : Nat} (h : SpB w spb B b s o tv M F K) (hb : Below w.heap.size w w') : SpB w' spb B b s o tv M F K := by
 obtain ⟨h0, sb, t, L, fr, fd, n, g, cap, qs, kp, h1, h2, h3⟩ := h
 exact ⟨h0, sb, t, L, fr, fd, n, g, cap, qs, kp, (hb.block _ (lt_of_block h1)).trans h1, h2.keepF (h2.stk.below hb), h3⟩
theorem SpB.lt {w : World} {spb B : Nat} {b s o M : Int} {tv : Value} {F : Int → Int → Int} {K : Nat} (h : SpB w spb B b s o tv M F K) : spb < w.heap.size ∧ B ≤ w.heap.size := by
 obtain ⟨h0, sb, t, L, fr, fd, n, g, cap, qs, kp, h1, h2⟩ := h
 have := lt_of_block h1
 exact ⟨this, by omega⟩
theorem FldA.none {w : World} {B sb t L : Nat} {fr fd M : Int} {n g cap : Nat} {qs : List Sq} {mp : Option (Nat × Nat)} (h : FldA w B sb t L fr fd M (fun _ _ => 0) n g cap qs mp) (tg : TgtF n fun _ _ => 0) : t = 0 ∧ L = 4 := by
 have n1 : n = 1 := by
  have := h.one
  rcases tg with q | ⟨_, _, _, _, q, _⟩
  ·omega
  ·exact absurd rfl q
 refine ⟨Classical.byContradiction fun q => ?_, by have := h.lev; omega⟩
 obtain ⟨x, y, _, _, hv⟩ := wf_lives h.stk.st h.wf q
 have := h.val (x + fr) (y + fd)
 rw [show x + fr - fr = x by omega, show y + fd - fd = y by omega] at this
 exact hv this
theorem pt_none {W H : Nat} (e : W * H = 0) (xs : List Int) (r0 d0 : Int) : ptF W H xs r0 d0 = fun _ _ => 0 := by
 funext u v
 unfold ptF
 rw [if_neg]
 intro q
 have : W = 0 ∨ H = 0 := Nat.mul_eq_zero.1 e
 unfold inP at q
 omega
set_option maxRecDepth 100000 in
set_option maxHeartbeats 12800000 in
theorem put_new (spb B : Nat) (b s o : Int) (tv : Value) (M : Int) (K : Nat) (w : World) (hS : SpB w spb B b s o tv M (fun _ _ => 0) K) (W H : Nat) (xs : List Int) (a : Option Addr) (m c : Nat) (hsh : shapeF (W : Int) (H : Int) xs = 0) (hW : W ≤ 100) (hH : H ≤ 100) (hm : xs.length = W * H) (hb : ∀ i, 0 ≤ xs.getD i 0 ∧ xs.getD i 0 ≤ 1) (hP : ∀ V, Below B w V → ArgP V xs a m c) (r0 d0 : Int) (hr : -1000000000000 ≤ r0 ∧ r0 ≤ 1000000000000) (hd : -1000000000000 ≤ d0 ∧ d0 ≤ 1000000000000) (hK : K ≤ 90) (hM4 : M ≤ 1000000001000) :
  Calls Tryz.prog 9 #[.pointer (some ⟨spb, 0, none⟩), .agg #[.int .i64 (W : Int), .int .i64 (H : Int), .slice a m c], .int .i64 r0, .int .i64 d0] w (PutQ spb B b s o tv 1000000001000 (ptF W H xs r0 d0) 3200 w) := by
 obtain ⟨w1, hw1⟩ : ∃ w1, w.alloc (.cells #[.int .i64 (W : Int), .int .i64 (H : Int), .slice a m c] 26) = w1 := ⟨_, rfl⟩
 have HW1 := hide' hw1
 have B1 := hide' (show Below w.heap.size w w1 by rw [← hw1]; exact (Below.refl _ _).alloc (Nat.le_refl _) _)
 have F1 := hide' (show w1.heap[w.heap.size]? = some (.cells #[.int .i64 (W : Int), .int .i64 (H : Int), .slice a m c] 26 (0, 0)) by rw [← hw1]; exact heap_alloc_new _ _)
 have ap := hP w (Below.refl _ _)
 have CC := hide' (Check_P (W : Int) (H : Int) xs a m c w1 (ap.below B1.out))
 rw [hsh] at CC
 have LS := hide' hS.lt
 have HS := hide' hS
 have AP := hide' hP
 have ML := hide' ap.len
 have HA := hide' (And.intro hW (And.intro hH (And.intro hm hb)))
 have HB := hide' (And.intro hr (And.intro hd (And.intro hK hM4)))
 have FA1 := hide' (isFar_any r0)
 have FA2 := hide' (isFar_any d0)
 rw [decide_eq_false (show ¬ (r0 < -1000000000000 ∨ 1000000000000 < r0) by omega)] at FA1
 rw [decide_eq_false (show ¬ (d0 < -1000000000000 ∨ 1000000000000 < d0) by omega)] at FA2
 have y0 := cell_of_row w1 _ 0 _ _ _ F1.out
 have y1 := cell_of_row w1 _ 1 _ _ _ F1.out
 have y2 := cell_of_row w1 _ 2 _ _ _ F1.out
 simp at y0 y1 y2
 clear hw1 hS hsh hW hH hm hb hP ap hr hd hK hM4
 go_enter Tryz.func9, Tryz.ntmps9
 go_upto_region 1 with fail
 rw [HW1.out]
 go_wp2_with fail
 refine CC.out.mono ?_
 rw [show errOf 0 = .nilIface from rfl]
 rintro e w2 ⟨rfl, b2⟩
 have B2 := hide' (B1.out.trans (b2.mono B1.out.size))
 have F2 := hide' ((b2.block _ (lt_of_block F1.out)).trans F1.out)
 clear b2 y0 y1 y2
 go_wp2_with fail
 refine (FA1.out w2).mono ?_
 rintro e w3 ⟨rfl, rfl⟩
 go_wp2_with fail
 refine (FA2.out w3).mono ?_
 rintro e w4 ⟨rfl, rfl⟩
 have y0 := cell_of_row w4 _ 0 _ _ _ F2.out
 have y1 := cell_of_row w4 _ 1 _ _ _ F2.out
 have y2 := cell_of_row w4 _ 2 _ _ _ F2.out
 simp at y0 y1 y2
 by_cases m0 : m = 0
 ·have e0 : W * H = 0 := by rw [← HA.out.2.2.1, ← ML.out]; exact m0
  have FIN := hide' (show PutQ spb B b s o tv 1000000001000 (ptF W H xs r0 d0) 3200 w (.returned .nilIface) w4 from by
   obtain ⟨h0, sb, t, L, fr, fd, n, g, cap, qs, kp, h1, h2, h3, h4, h5⟩ := HS.out.below B2.out
   have hb := HB.out
   rw [pt_none e0]
   exact ⟨rfl, ⟨h0, sb, t, L, fr, fd, n, g, cap, qs, kp, h1, h2.mono hb.2.2.2, h3, by omega, by omega⟩, B2.out.mono LS.out.2⟩)
  have z : ((m : Int) == 0) = true := by simp [m0]
  subst m0
  clear e0
  go_wp2
  go_ret
  exact FIN.out
 ·have z : ((m : Int) == 0) = false := by simp; omega
  have M0 := hide' m0
  clear m0
  obtain ⟨h0, sb, t, L, fr, fd, n, g, cap, qs, kp, h1, h2, htg, h3, h4⟩ := HS.out.below B2.out
  obtain ⟨rfl, rfl⟩ := h2.none htg
  have k0 := h1
  unfold spD at k0
  have s11 := cell_of_row w4 spb 11 _ _ _ k0
  have s12 := cell_of_row w4 spb 12 _ _ _ k0
  have s13 := cell_of_row w4 spb 13 _ _ _ k0
  have s14 := cell_of_row w4 spb 14 _ _ _ k0
  have s15 := cell_of_row w4 spb 15 _ _ _ k0
  simp at s11 s12 s13 s14 s15
  have WH1 : 1 ≤ W ∧ 1 ≤ H := by
   have e0 : W * H ≠ 0 := by rw [← HA.out.2.2.1, ← ML.out]; exact M0.out
   refine ⟨Nat.one_le_iff_ne_zero.2 fun e => e0 ?_, Nat.one_le_iff_ne_zero.2 fun e => e0 ?_⟩
   ·rw [e, Nat.zero_mul]
   ·rw [e, Nat.mul_zero]
  have bw : B ≤ w4.heap.size := by have := LS.out.2; have := B2.out.size; omega
  have hb := HB.out
  have LC := hide' (laid_empty B sb fr fd M n g cap qs w4.drew (h2.keepF h2.stk.drewS) W H xs a m c r0 d0 hb.1 hb.2.1 ⟨WH1.1, HA.out.1⟩ ⟨WH1.2, HA.out.2.1⟩ (fun V hV => AP.out V ((B2.out.mono LS.out.2).trans ⟨hV.os, hV.tape, hV.output, hV.size, hV.block⟩)) HA.out.2.2.1 HA.out.2.2.2 bw (by have := hb.2.2.1; omega))
  have NS := hide' (h2.stk.ne_four h1 (by decide) (by decide))
  have H1 := hide' h1
  have KP := hide' (show kp ≤ 90 by have := hb.2.2.1; omega)
  have H0 := hide' h0
  clear h0 h1 h2 h3 h4 htg k0 WH1 bw hb
  go_upto_region 8 with fail
  go_region_with (go_at_call 26; refine LC.out.mono ?_; rintro e w5 ⟨sb5, t5, L5, fr5, fd5, n5, g5, cap5, qs5, mp5, rfl, f5, l5, b5, k5, tg5, hm5⟩; obtain rfl : mp5 = none := (by rcases hm5 with e | e <;> exact e); have TG5 := hide' tg5; have h5 := (k5.keep spb (lt_of_block H1.out) NS.out.1 NS.out.2).trans H1.out; have k0 := h5; unfold spD at k0; have d11 := cell_of_row w5 spb 11 _ _ _ k0; have d12 := cell_of_row w5 spb 12 _ _ _ k0; have d13 := cell_of_row w5 spb 13 _ _ _ k0; have d14 := cell_of_row w5 spb 14 _ _ _ k0; have d15 := cell_of_row w5 spb 15 _ _ _ k0; have f11 := frozen_of_row w5 spb 11 _ _ k0; have f12 := frozen_of_row w5 spb 12 _ _ k0; have f13 := frozen_of_row w5 spb 13 _ _ k0; have f14 := frozen_of_row w5 spb 14 _ _ k0; have f15 := frozen_of_row w5 spb 15 _ _ k0; simp at d11 d12 d13 d14 d15)
  all_goals
   obtain ⟨w6, hw6⟩ : ∃ w6, ((((w5.setCell ⟨spb, 11, none⟩ (.pointer (some ⟨sb5, 0, none⟩))).setCell ⟨spb, 12, none⟩ (.int .i32 (t5 : Int))).setCell ⟨spb, 13, none⟩ (.int .i64 (L5 : Int))).setCell ⟨spb, 14, none⟩ (.int .i64 fr5)).setCell ⟨spb, 15, none⟩ (.int .i64 fd5) = w6 := ⟨_, rfl⟩
   have ns := f5.stk.ne_four h5 (by decide) (by decide)
   have S6 := hide' (show w6.heap[spb]? = some (spD b s o tv (.pointer (some ⟨sb5, 0, none⟩)) (t5 : Int) (L5 : Int) fr5 fd5 (kp : Int)) by rw [← hw6]; exact sq_set h5)
   have A6 := hide' (show FldA w6 B sb5 t5 L5 fr5 fd5 1000000001000 (ptF W H xs r0 d0) n5 g5 cap5 qs5 from ⟨by rw [← hw6]; exact f5.stk.keep (five_othQ (fun e => ns.1 e.symm) _ _ _ _ _ _ _ _ _ _) (five_othQ (fun e => ns.2 e.symm) _ _ _ _ _ _ _ _ _ _), f5.wf, f5.lev, f5.one, f5.hi, f5.r1, f5.r2, f5.d1, f5.d2, f5.val⟩)
   have hB0 := H0.out
   have B6 := hide' (show Below B w w6 by
    rw [← hw6]
    exact (((((((B2.out.mono LS.out.2).trans ⟨b5.os, b5.tape, b5.output, b5.size, b5.block⟩).setCell hB0 _).setCell hB0 _).setCell hB0 _).setCell hB0 _).setCell hB0 _))
   have L6 := hide' l5
   rw [hw6]
   clear f5 l5 b5 k5 tg5 hm5 h5 k0 d11 d12 d13 d14 d15 f11 f12 f13 f14 f15 hw6 ns s11 s12 s13 s14 s15 y0 y1 y2 hB0
   have k0 := S6.out
   unfold spD at k0
   have e11 := cell_of_row w6 spb 11 _ _ _ k0
   have e12 := cell_of_row w6 spb 12 _ _ _ k0
   have e13 := cell_of_row w6 spb 13 _ _ _ k0
   have e14 := cell_of_row w6 spb 14 _ _ _ k0
   have e15 := cell_of_row w6 spb 15 _ _ _ k0
   have e16 := cell_of_row w6 spb 16 _ _ _ k0
   have e0 := cell_of_row w6 sb5 0 _ _ _ A6.out.stk.blk
   obtain ⟨ln, hln⟩ : ∃ ln, qs5.length = ln := ⟨_, rfl⟩
   rw [hln] at e0
   simp at e11 e12 e13 e14 e15 e16 e0
   have HLN := hide' hln
   have hb := HB.out
   have kpb := KP.out
   obtain ⟨k2, hk2⟩ : ∃ k2, 2 * kp = k2 := ⟨_, rfl⟩
   obtain ⟨k3, hk3⟩ : ∃ k3, k2 + 100 = k3 := ⟨_, rfl⟩
   have a1 : (2 : Int) * (kp : Int) = (k2 : Int) := by omega
   have a2 : (k2 : Int) + 100 = (k3 : Int) := by omega
   have a3 : IntKind.i64.wrap (k2 : Int) = (k2 : Int) := by simp [IntKind.wrap, IntKind.bits, IntKind.signed]; omega
   have a4 : IntKind.i64.wrap (k3 : Int) = (k3 : Int) := by simp [IntKind.wrap, IntKind.bits, IntKind.signed]; omega
   clear k0 hln hb kpb hk2 hk3
   go_upto_region 9 with fail
   go_region
   clear a1 a2 a3 a4
   have hdw : w6.drew.heap = w6.heap := rfl
   have FIN := hide' (show PutQ spb B b s o tv 1000000001000 (ptF W H xs r0 d0) 3200 w (.returned .nilIface) w6.drew from
    ⟨rfl, ⟨H0.out, sb5, t5, L5, fr5, fd5, n5, g5, cap5, qs5, kp, S6.out, A6.out.keepF A6.out.stk.drewS, TG5.out, by have := L6.out; omega, by have := KP.out; omega⟩, B6.out.drew⟩)
   by_cases gt : (k3 : Int) < (ln : Int)
   ·go_wp2_with fail
    refine (keep_new none spb B sb5 t5 L5 b s o tv (.pointer (some ⟨sb5, 0, none⟩)) t5 L5 fr5 fd5 kp fr5 fd5 1000000001000 (ptF W H xs r0 d0) n5 g5 cap5 qs5 w6.drew S6.out (A6.out.keepF A6.out.stk.drewS) (by omega) (by omega) H0.out (by have := L6.out; have := A6.out.hi; omega) 3200 (by have := L6.out; have := A6.out.hi; omega)).mono ?_
    rintro e w7 ⟨rfl, s7, b7⟩
    have FIN2 := hide' (show PutQ spb B b s o tv 1000000001000 (ptF W H xs r0 d0) 3200 w (.returned .nilIface) w7 from ⟨rfl, s7, B6.out.trans ⟨b7.os, b7.tape, b7.output, b7.size, b7.block⟩⟩)
    clear s7 b7 e11 e12 e13 e14 e15 e16 e0
    go_wp2
    go_ret
    exact FIN2.out
   ·clear e11 e12 e13 e14 e15 e16 e0
    go_wp2
    go_ret
    exact FIN.out
set_option maxRecDepth 100000 in
set_option maxHeartbeats 3200000 in
theorem put_bad (spb : Nat) (W H : Int) (xs : List Int) (a : Option Addr) (m c : Nat) (r0 d0 : Int) (w : World) (hP : ArgP w xs a m c) (hsh : shapeF W H xs ≠ 0) :
  Calls Tryz.prog 9 #[.pointer (some ⟨spb, 0, none⟩), .agg #[.int .i64 W, .int .i64 H, .slice a m c], .int .i64 r0, .int .i64 d0] w fun e w' => e = .returned (errOf (shapeF W H xs)) ∧ Below w.heap.size w w' := by
 obtain ⟨w1, hw1⟩ : ∃ w1, w.alloc (.cells #[.int .i64 W, .int .i64 H, .slice a m c] 26) = w1 := ⟨_, rfl⟩
 have HW1 := hide' hw1
 have B1 := hide' (show Below w.heap.size w w1 by rw [← hw1]; exact (Below.refl _ _).alloc (Nat.le_refl _) _)
 have F1 := hide' (show w1.heap[w.heap.size]? = some (.cells #[.int .i64 W, .int .i64 H, .slice a m c] 26 (0, 0)) by rw [← hw1]; exact heap_alloc_new _ _)
 have CC := hide' (Check_P W H xs a m c w1 (hP.below B1.out))
 obtain ⟨f, hf⟩ : ∃ f, shapeF W H xs = f := ⟨_, rfl⟩
 rw [hf] at CC hsh ⊢
 have e0 : errOf f = .iface 56 (.int .i64 (f : Int)) := if_neg hsh
 rw [e0] at CC ⊢
 have y0 := cell_of_row w1 _ 0 _ _ _ F1.out
 have y1 := cell_of_row w1 _ 1 _ _ _ F1.out
 have y2 := cell_of_row w1 _ 2 _ _ _ F1.out
 simp at y0 y1 y2
 clear hw1 hP hsh hf e0
 go_enter Tryz.func9, Tryz.ntmps9
 go_upto_region 1 with fail
 rw [HW1.out]
 go_wp2_with fail
 refine CC.out.mono ?_
 rintro e w2 ⟨rfl, b2⟩
 have B2 := hide' (B1.out.trans (b2.mono B1.out.size))
 clear b2 y0 y1 y2
 go_wp2
 go_ret
 exact ⟨rfl, B2.out⟩
set_option maxRecDepth 100000 in
set_option maxHeartbeats 3200000 in
theorem put_far (spb : Nat) (W H : Int) (xs : List Int) (a : Option Addr) (m c : Nat) (r0 d0 : Int) (w : World) (hP : ArgP w xs a m c) (hsh : shapeF W H xs = 0) (hf : (r0 < -1000000000000 ∨ 1000000000000 < r0) ∨ (d0 < -1000000000000 ∨ 1000000000000 < d0)) :
  Calls Tryz.prog 9 #[.pointer (some ⟨spb, 0, none⟩), .agg #[.int .i64 W, .int .i64 H, .slice a m c], .int .i64 r0, .int .i64 d0] w fun e w' => e = .returned (.iface 56 (.int .i64 1)) ∧ Below w.heap.size w w' := by
 obtain ⟨w1, hw1⟩ : ∃ w1, w.alloc (.cells #[.int .i64 W, .int .i64 H, .slice a m c] 26) = w1 := ⟨_, rfl⟩
 have HW1 := hide' hw1
 have B1 := hide' (show Below w.heap.size w w1 by rw [← hw1]; exact (Below.refl _ _).alloc (Nat.le_refl _) _)
 have F1 := hide' (show w1.heap[w.heap.size]? = some (.cells #[.int .i64 W, .int .i64 H, .slice a m c] 26 (0, 0)) by rw [← hw1]; exact heap_alloc_new _ _)
 have CC := hide' (Check_P W H xs a m c w1 (hP.below B1.out))
 rw [hsh] at CC
 have FA1 := hide' (isFar_any r0)
 have FA2 := hide' (isFar_any d0)
 have y0 := cell_of_row w1 _ 0 _ _ _ F1.out
 have y1 := cell_of_row w1 _ 1 _ _ _ F1.out
 have y2 := cell_of_row w1 _ 2 _ _ _ F1.out
 simp at y0 y1 y2
 clear hw1 hP hsh
 by_cases f1 : r0 < -1000000000000 ∨ 1000000000000 < r0
 ·rw [decide_eq_true f1] at FA1
  clear f1 hf
  go_enter Tryz.func9, Tryz.ntmps9
  go_upto_region 1 with fail
  rw [HW1.out]
  go_wp2_with fail
  refine CC.out.mono ?_
  rw [show errOf 0 = .nilIface from rfl]
  rintro e w2 ⟨rfl, b2⟩
  have B2 := hide' (B1.out.trans (b2.mono B1.out.size))
  clear b2 y0 y1 y2
  go_wp2_with fail
  refine (FA1.out w2).mono ?_
  rintro e w3 ⟨rfl, rfl⟩
  go_wp2
  go_ret
  exact ⟨rfl, B2.out⟩
 ·have f2 : d0 < -1000000000000 ∨ 1000000000000 < d0 := by omega
  rw [decide_eq_false f1] at FA1
  rw [decide_eq_true f2] at FA2
  clear f1 f2 hf
  go_enter Tryz.func9, Tryz.ntmps9
  go_upto_region 1 with fail
  rw [HW1.out]
  go_wp2_with fail
  refine CC.out.mono ?_
  rw [show errOf 0 = .nilIface from rfl]
  rintro e w2 ⟨rfl, b2⟩
  have B2 := hide' (B1.out.trans (b2.mono B1.out.size))
  clear b2 y0 y1 y2
  go_wp2_with fail
  refine (FA1.out w2).mono ?_
  rintro e w3 ⟨rfl, rfl⟩
  go_wp2_with fail
  refine (FA2.out w3).mono ?_
  rintro e w4 ⟨rfl, rfl⟩
  go_wp2
  go_ret
  exact ⟨rfl, B2.out⟩
def LvP (F : Int → Int → Int) (w : World) (e : Ending) (w' : World) : Prop := ∃ (qs : List Sq) (n t : Nat) (fr fd : Int), (StQ qs ∧ WFQ qs n t ∧ ∀ u v, valQ qs n t (u - fr) (v - fd) = F u v) ∧ e = .returned (.int .i64 ((lvC qs n t : Nat) : Int)) ∧ w' = w.drew
set_option maxRecDepth 100000 in
set_option maxHeartbeats 3200000 in
theorem livingS_any (spb B : Nat) (b s o : Int) (tv : Value) (M : Int) (F : Int → Int → Int) (K : Nat) (l r v d : Int) (w : World) (hS : SpB w spb B b s o tv M F K) (hF : InBx F l r v d) (hW : r - l ≤ 8300) (hH : d - v ≤ 8300) :
  Calls Tryz.prog 10 #[.pointer (some ⟨spb, 0, none⟩)] w (LvP F w) := by
 obtain ⟨hB, sb, t, L, fr, fd, n, g, cap, qs, kp, hs, hf, tg, hl, hkp⟩ := hS
 have n12 : n ≤ 12 := tg.low hF hW hH
 have lt := hf.wf.lt hf.stk.st
 have hs' := hs
 unfold spD at hs'
 have c11 := cell_of_row w spb 11 _ _ _ hs'
 have c12 := cell_of_row w spb 12 _ _ _ hs'
 have c0 := hf.stk.c0
 have q5 := (hf.stk.cells lt).2.2.2.2.2
 rw [lv_is hf.stk.st hf.stk.lv (by omega) hf.wf] at q5
 simp at c11 c12
 have FIN := hide' (show LvP F w (.returned (.int .i64 ((lvC qs n t : Nat) : Int))) w.drew from ⟨qs, n, t, fr, fd, ⟨hf.stk.st, hf.wf, hf.val⟩, rfl, rfl⟩)
 obtain ⟨N, hN⟩ : ∃ x, qs.length = x := ⟨_, rfl⟩
 rw [hN] at c0 lt
 have l1 : (t : Int) < (N : Int) := by omega
 obtain ⟨c, hc⟩ : ∃ x, lvC qs n t = x := ⟨_, rfl⟩
 rw [hc] at q5 FIN
 clear hs hs' hf tg hl hkp hF hW hH n12 hN hc lt
 go_enter Tryz.func10, Tryz.ntmps10
 go_upto_region 1 with fail
 go_region
 go_wp2
 go_ret
 exact FIN.out
set_option maxRecDepth 100000 in
set_option maxHeartbeats 3200000 in
theorem jump_neg (spb : Nat) (k : Int) (w : World) (hk : k < 0 ∨ 40 < k) :
  Calls Tryz.prog 11 #[.pointer (some ⟨spb, 0, none⟩), .int .i64 k] w fun e w' => e = .returned (.iface 56 (.int .i64 1)) ∧ w' = w := by
 by_cases h1 : k < 0
 ·clear hk
  go_enter Tryz.func11, Tryz.ntmps11
  go_wp2
  go_ret
  exact ⟨rfl, rfl⟩
 ·have h2 : 40 < k := by omega
  clear hk
  go_enter Tryz.func11, Tryz.ntmps11
  go_wp2
  go_ret
  exact ⟨rfl, rfl⟩
open Go.RowKit Go.Extern.Stop Go.Stop Go.Extern
theorem valueOfP (t : Addr) (w : World) : (ReflectliteValue.unpack (.iface 118 (.pointer (some t)))).run Tryz.prog w
  = .ok (.agg #[.pointer (some ⟨2, 118, none⟩), .pointer (some ⟨w.heap.size, 0, none⟩), .int .u64 150]) (w.alloc (.cells #[.pointer (some t)] 118)) := by kernel_rfl
theorem typeP (a : Addr) (w : World) : (ReflectliteValue.methodAny (ReflectliteValue.valueError "reflectlite.Value.Type" 0) (fun t _ _ _ => ReflectliteType.toType t) #[.agg #[.pointer (some ⟨2, 118, none⟩), .pointer (some a), .int .u64 150]]).run Tryz.prog w
  = .ok (.iface 205 (.agg #[.pointer (some ⟨2, 118, none⟩)])) w := by kernel_rfl
theorem kindP (w : World) : ((ReflectliteType.abiMethod fun t => Functor.map (fun a : Nat => Value.int IntKind.u8 (a : Int)) (Rtype.kind t)) #[.pointer (some ⟨2, 118, none⟩)]).run Tryz.prog w = .ok (.int .u8 22) w := by kernel_rfl
theorem kindE (w : World) : ((ReflectliteType.abiMethod fun t => Functor.map (fun a : Nat => Value.int IntKind.u8 (a : Int)) (Rtype.kind t)) #[.pointer (some ⟨2, 56, none⟩)]).run Tryz.prog w = .ok (.int .u8 2) w := by kernel_rfl
theorem methodKind (h : Value) (w : World) : (Go.method 369 205 (.agg #[h]) "Kind").run Tryz.prog w = .ok (160, h) w := by kernel_rfl
theorem rlm (z : Sem Value) (f : TypeId → Addr → Nat → Nat → Sem Value) (v : Value) :
  ReflectliteValue.method z f #[v] = (do match ← ReflectliteValue.parts v with | none => z | some (t, a, fl) => f t a fl (fl % 32)) := rfl
theorem partsP (a : Addr) (w : World) : (ReflectliteValue.parts (.agg #[.pointer (some ⟨2, 118, none⟩), .pointer (some a), .int .u64 150])).run Tryz.prog w = .ok (some (118, a, 150)) w := by kernel_rfl
theorem isNilP (a p : Addr) (W : World) (ha : W.cell? a = some (.pointer (some p))) :
  (ReflectliteValue.method (ReflectliteValue.valueError "reflectlite.Value.IsNil" 0) ReflectliteValue.isNil #[.agg #[.pointer (some ⟨2, 118, none⟩), .pointer (some a), .int .u64 150]]).run Tryz.prog W = .ok (.bool false) W := by
 rw [rlm]
 simp only [Sem.run_bind, partsP, Result.andThen]
 simp [ReflectliteValue.isNil, loadVar, isAgg, underlying, Tryz.underlying118, ha, Result.andThen]
theorem methodElem (h : Value) (w : World) : (Go.method 369 205 (.agg #[h]) "Elem").run Tryz.prog w = .ok (170, .agg #[h]) w := by kernel_rfl
theorem methodImplements (h : Value) (w : World) : (Go.method 369 205 (.agg #[h]) "Implements").run Tryz.prog w = .ok (171, .agg #[h]) w := by kernel_rfl
theorem methodAssignableTo (h : Value) (w : World) : (Go.method 369 205 (.agg #[h]) "AssignableTo").run Tryz.prog w = .ok (168, .agg #[h]) w := by kernel_rfl
theorem elemP (w : World) : (ReflectliteType.method ReflectliteType.elem #[.agg #[.pointer (some ⟨2, 118, none⟩)]]).run Tryz.prog w = .ok (.iface 205 (.agg #[.pointer (some ⟨2, 56, none⟩)])) w := by kernel_rfl
theorem implementsE (w : World) : (ReflectliteType.relation "Implements" ReflectliteType.implements_ #[.agg #[.pointer (some ⟨2, 56, none⟩)], .iface 205 (.agg #[.pointer (some ⟨2, 29, none⟩)])]).run Tryz.prog w = .ok (.bool true) w := by kernel_rfl
theorem typeOfE (v : Value) (w : World) : (ReflectliteType.typeOf #[.iface 56 v]).run Tryz.prog w = .ok (.iface 205 (.agg #[.pointer (some ⟨2, 56, none⟩)])) w := by kernel_rfl
theorem assignableE (w : World) : (ReflectliteType.relation "AssignableTo" ReflectliteType.assignableTo #[.agg #[.pointer (some ⟨2, 56, none⟩)], .iface 205 (.agg #[.pointer (some ⟨2, 56, none⟩)])]).run Tryz.prog w = .ok (.bool true) w := by kernel_rfl
theorem valueOfE (n : Int) (w : World) : (ReflectliteValue.unpack (.iface 56 (.int .i64 n))).run Tryz.prog w
  = .ok (.agg #[.pointer (some ⟨2, 56, none⟩), .pointer (some ⟨w.heap.size, 0, none⟩), .int .u64 130]) (w.alloc (.cells #[.int .i64 n] 56)) := by kernel_rfl
theorem elemOfP (w : World) : (Rtype.elem? 118).run Tryz.prog w = .ok (some 56) w := by kernel_rfl
theorem mkE (p : Addr) (w : World) : (ReflectliteValue.mk 56 p ReflectliteValue.flagAddr).run Tryz.prog w = .ok (.agg #[.pointer (some ⟨2, 56, none⟩), .pointer (some p), .int .u64 386]) w := by kernel_rfl
theorem elemVP (a p : Addr) (W : World) (ha : W.cell? a = some (.pointer (some p))) :
  (ReflectliteValue.method (ReflectliteValue.valueError "reflectlite.Value.Elem" 0) ReflectliteValue.elem #[.agg #[.pointer (some ⟨2, 118, none⟩), .pointer (some a), .int .u64 150]]).run Tryz.prog W
   = .ok (.agg #[.pointer (some ⟨2, 56, none⟩), .pointer (some p), .int .u64 386]) W := by
 rw [rlm]
 simp only [Sem.run_bind, partsP, Result.andThen]
 simp [ReflectliteValue.elem, loadVar, isAgg, underlying, Tryz.underlying118, ha, Result.andThen, elemOfP, mkE]
theorem rls (v x : Value) : ReflectliteValue.set #[v, x] = (do
  let (some (dst, a, fl), some (src, b, _)) := (← ReflectliteValue.parts v, ← ReflectliteValue.parts x)
   | unsupported (.noEntry "extern/(internal/reflectlite.Value).Set.zeroValue")
  if fl / ReflectliteValue.flagAddr % 2 == 0 then unsupported (.noEntry "extern/(internal/reflectlite.Value).Set.unaddressable")
  let val ← loadVar src b
  if ← Rtype.directlyAssignable dst src then storeVar dst a val
  else if ← Rtype.implements dst src then
   if (← Rtype.kind src) == 20 then
    match val with
    | .nilIface => unsupported (.noEntry "extern/reflectlite: a nil value of one interface type handed on as a value of another")
    | _ => storeVar dst a val
   else storeVar dst a (.iface src val)
  else panicString ("reflectlite.Set: value of type " ++ (← Rtype.spelt src) ++ " is not assignable to type " ++ (← Rtype.spelt dst))
  pure (.tuple #[])) := rfl
theorem partsEa (a : Addr) (w : World) : (ReflectliteValue.parts (.agg #[.pointer (some ⟨2, 56, none⟩), .pointer (some a), .int .u64 386])).run Tryz.prog w = .ok (some (56, a, 386)) w := by kernel_rfl
theorem partsE (a : Addr) (w : World) : (ReflectliteValue.parts (.agg #[.pointer (some ⟨2, 56, none⟩), .pointer (some a), .int .u64 130])).run Tryz.prog w = .ok (some (56, a, 130)) w := by kernel_rfl
theorem directE (w : World) : (Rtype.directlyAssignable 56 56).run Tryz.prog w = .ok true w := by kernel_rfl
theorem setE (ta b : Addr) (n : Int) (old : Value) (W : World) (hb : W.cell? b = some (.int .i64 n)) (ht : W.cell? ta = some old) (hf : W.frozen? ta = false) :
  (ReflectliteValue.set #[.agg #[.pointer (some ⟨2, 56, none⟩), .pointer (some ta), .int .u64 386], .agg #[.pointer (some ⟨2, 56, none⟩), .pointer (some b), .int .u64 130]]).run Tryz.prog W
   = .ok (.tuple #[]) (W.setCell ta (.int .i64 n)) := by
 rw [rls]
 simp only [Sem.run_bind, partsEa, partsE, Result.andThen]
 simp [ReflectliteValue.flagAddr, loadVar, isAgg, underlying, Tryz.underlying56, hb, Result.andThen, directE, storeVar, Value.cells, storeCells, Addr.add]
 rw [run_store Tryz.prog W ta _ _ (by rfl)]
 simp [ht, hf]
set_option maxRecDepth 100000 in
set_option maxHeartbeats 4000000 in
theorem as_hit (n : Int) (t : Addr) (old : Value) (w : World) (hg : w.cell? ⟨0, 0, none⟩ = some (.iface 205 (.agg #[.pointer (some ⟨2, 29, none⟩)]))) (ht0 : w.cell? t = some old) (hf0 : w.frozen? t = false) :
  Calls Tryz.prog 49 #[.iface 56 (.int .i64 n), .iface 118 (.pointer (some t))] w fun ev w' => ev = .returned (.bool true) ∧ w' = ((((w.alloc (.cells #[.pointer (some t)] 118)).alloc (.cells #[.pointer (some ⟨2, 118, none⟩), .pointer (some ⟨w.heap.size, 0, none⟩), .int .u64 150] 165)).alloc (.cells #[.pointer (some ⟨2, 118, none⟩), .pointer (some ⟨w.heap.size, 0, none⟩), .int .u64 150] 165)).alloc (.cells #[.int .i64 n] 56)).setCell t (.int .i64 n) := by
 have h6 := @run_callFunc_extern Tryz.prog 86 _ (fun args => ReflectliteValue.unpack (args.getD 0 (.tuple #[]))) Tryz.func86 (by kernel_rfl) (by kernel_rfl) (by kernel_rfl) (by kernel_rfl)
 have h7 := @run_callFunc_extern Tryz.prog 87 _ (ReflectliteValue.methodAny (ReflectliteValue.valueError "reflectlite.Value.Type" 0) (fun t _ _ _ => ReflectliteType.toType t)) Tryz.func87 (by kernel_rfl) (by kernel_rfl) (by kernel_rfl) (by kernel_rfl)
 have h8 := @run_callFunc_extern Tryz.prog 88 _ (ReflectliteValue.method (ReflectliteValue.valueError "reflectlite.Value.IsNil" 0) ReflectliteValue.isNil) Tryz.func88 (by kernel_rfl) (by kernel_rfl) (by kernel_rfl) (by kernel_rfl)
 have h27 := @run_callFunc_extern Tryz.prog 160 _ (ReflectliteType.abiMethod fun t => do pure (.int .u8 (← Rtype.kind t))) Tryz.func160 (by kernel_rfl) (by kernel_rfl) (by kernel_rfl) (by kernel_rfl)
 have h37 := @run_callFunc_extern Tryz.prog 170 _ (ReflectliteType.method ReflectliteType.elem) Tryz.func170 (by kernel_rfl) (by kernel_rfl) (by kernel_rfl) (by kernel_rfl)
 have h38 := @run_callFunc_extern Tryz.prog 171 _ (ReflectliteType.relation "Implements" ReflectliteType.implements_) Tryz.func171 (by kernel_rfl) (by kernel_rfl) (by kernel_rfl) (by kernel_rfl)
 have h10 := @run_callFunc_extern Tryz.prog 109 _ ReflectliteType.typeOf Tryz.func109 (by kernel_rfl) (by kernel_rfl) (by kernel_rfl) (by kernel_rfl)
 have h35 := @run_callFunc_extern Tryz.prog 168 _ (ReflectliteType.relation "AssignableTo" ReflectliteType.assignableTo) Tryz.func168 (by kernel_rfl) (by kernel_rfl) (by kernel_rfl) (by kernel_rfl)
 have h11 := @run_callFunc_extern Tryz.prog 110 _ (ReflectliteValue.method (ReflectliteValue.valueError "reflectlite.Value.Elem" 0) ReflectliteValue.elem) Tryz.func110 (by kernel_rfl) (by kernel_rfl) (by kernel_rfl) (by kernel_rfl)
 have h12 := @run_callFunc_extern Tryz.prog 111 _ ReflectliteValue.set Tryz.func111 (by kernel_rfl) (by kernel_rfl) (by kernel_rfl) (by kernel_rfl)
 have tO := typeOfE
 have mA := methodAssignableTo
 have a25 := assignableE
 have v25 := valueOfE
 have f6 := valueOfP
 have f7 := typeP
 have mK := methodKind
 have mE := methodElem
 have mI := methodImplements
 have k27 := kindP
 have k25 := kindE
 have e27 := elemP
 have i25 := implementsE
 have n8 := isNilP ⟨w.heap.size, 0, none⟩ t ((w.alloc (.cells #[.pointer (some t)] 118)).alloc (.cells #[.pointer (some ⟨2, 118, none⟩), .pointer (some ⟨w.heap.size, 0, none⟩), .int .u64 150] 165)) (by simp)
 have hlt : 0 < w.heap.size := by
  rcases Nat.lt_or_ge 0 w.heap.size with h | h
  ·exact h
  ·simp [World.cell?, Array.getElem?_eq_none h] at hg
 have hg2 : ((w.alloc (.cells #[.pointer (some t)] 118)).alloc (.cells #[.pointer (some ⟨2, 118, none⟩), .pointer (some ⟨w.heap.size, 0, none⟩), .int .u64 150] 165)).cell? ⟨0, 0, none⟩ = some (.iface 205 (.agg #[.pointer (some ⟨2, 29, none⟩)])) := by
  rw [World.cell?_alloc_lt _ _ ⟨0, 0, none⟩ (by simp <;> omega), World.cell?_alloc_lt _ _ ⟨0, 0, none⟩ hlt]; exact hg
 have htl : t.block < w.heap.size := by
  rcases Nat.lt_or_ge t.block w.heap.size with h | h
  ·exact h
  ·simp [World.cell?, Array.getElem?_eq_none h] at ht0
 have el := elemVP ⟨w.heap.size, 0, none⟩ t (((w.alloc (.cells #[.pointer (some t)] 118)).alloc (.cells #[.pointer (some ⟨2, 118, none⟩), .pointer (some ⟨w.heap.size, 0, none⟩), .int .u64 150] 165)).alloc (.cells #[.pointer (some ⟨2, 118, none⟩), .pointer (some ⟨w.heap.size, 0, none⟩), .int .u64 150] 165)) (by rw [World.cell?_alloc_lt _ _ ⟨w.heap.size, 0, none⟩ (by simp; omega)]; simp)
 have st := setE t ⟨w.heap.size + 1 + 1 + 1, 0, none⟩ n old ((((w.alloc (.cells #[.pointer (some t)] 118)).alloc (.cells #[.pointer (some ⟨2, 118, none⟩), .pointer (some ⟨w.heap.size, 0, none⟩), .int .u64 150] 165)).alloc (.cells #[.pointer (some ⟨2, 118, none⟩), .pointer (some ⟨w.heap.size, 0, none⟩), .int .u64 150] 165)).alloc (.cells #[.int .i64 n] 56))
  (by rw [World.cell?_alloc_at _ _ _ _ (by simp)]; rfl)
  (by rw [World.cell?_alloc_lt _ _ t (by simp; omega), World.cell?_alloc_lt _ _ t (by simp; omega), World.cell?_alloc_lt _ _ t (by simp; omega), World.cell?_alloc_lt _ _ t htl]; exact ht0)
  (by rw [World.frozen?_alloc_old _ _ t (by simp; omega), World.frozen?_alloc_old _ _ t (by simp; omega), World.frozen?_alloc_old _ _ t (by simp; omega), World.frozen?_alloc_old _ _ t (Nat.ne_of_lt htl)]; exact hf0)
 go_enter Tryz.func49, Tryz.ntmps49
 go_wp2
 refine wp_loop_rounds 1 ?_
 rw [rounds_succ]
 go_wp2
 go_ret
 exact ⟨rfl, rfl⟩
theorem told_nil (w : World) :
  Calls Tryz.prog 23 #[.nilIface] w fun e w' => e = .returned (.int .i64 0) ∧ w' = w := by
 go_enter Tryz.func23, Tryz.ntmps23
 go_wp2
 go_ret
 exact ⟨rfl, rfl⟩
def Handle (w : World) : Prop := w.cell? ⟨0, 0, none⟩ = some (.iface 205 (.agg #[.pointer (some ⟨2, 29, none⟩)]))
theorem Handle.lt {w : World} (hg : Handle w) : 0 < w.heap.size := by
 unfold Handle at hg
 rcases Nat.lt_or_ge 0 w.heap.size with h | h
 ·exact h
 ·simp [World.cell?, Array.getElem?_eq_none h] at hg
theorem Handle.below {w w' : World} (hg : Handle w) (h : Below w.heap.size w w') : Handle w' := by
 have := hg.lt
 unfold Handle at hg ⊢
 rw [h.cell (p := ⟨0, 0, none⟩) this]; exact hg
set_option maxHeartbeats 1000000 in
theorem told_errno (n : Int) (w : World) (hg : Handle w) :
  Calls Tryz.prog 23 #[.iface 56 (.int .i64 n)] w fun e w' => e = .returned (.int .i64 n) ∧ Below w.heap.size w w' := by
 have hlt := hg.lt
 have hgA : (w.alloc (.cells #[.int .i64 0] 56)).cell? ⟨0, 0, none⟩ = some (.iface 205 (.agg #[.pointer (some ⟨2, 29, none⟩)])) := by
  rw [World.cell?_alloc_lt _ _ ⟨0, 0, none⟩ hlt]; exact hg
 have htA : (w.alloc (.cells #[.int .i64 0] 56)).cell? ⟨w.heap.size, 0, none⟩ = some (.int .i64 0) := by simp
 have hfA : (w.alloc (.cells #[.int .i64 0] 56)).frozen? ⟨w.heap.size, 0, none⟩ = false := by simp
 clear hg hlt
 go_enter Tryz.func23, Tryz.ntmps23
 go_wp2_with (go_at_call 49; refine (as_hit _ _ (.int .i64 0) _ hgA htA hfA).mono ?_; rintro e w' ⟨rfl, rfl⟩)
 go_ret
 refine ⟨rfl, ?_⟩
 repeat (first | exact Below.refl _ _ | refine Below.setCell ?_ (by simp) _ | refine Below.alloc ?_ (by simp; try omega) _)
set_option maxHeartbeats 400000 in
theorem error_nil (n : Int) (w : World) :
  Calls Tryz.prog 7 #[.nilIface, .int .i64 n] w fun e w' => e = .returned (.bool (0 == n)) ∧ w' = w := by
 go_enter Tryz.func7, Tryz.ntmps7
 go_wp2_with (go_at_call 23; refine (told_nil _).mono ?_; rintro e w' ⟨rfl, rfl⟩)
 go_ret
 exact ⟨rfl, rfl⟩
set_option maxHeartbeats 400000 in
theorem error_errno (k n : Int) (w : World) (hg : Handle w) :
  Calls Tryz.prog 7 #[.iface 56 (.int .i64 k), .int .i64 n] w fun e w' => e = .returned (.bool (k == n)) ∧ Below w.heap.size w w' := by
 go_enter Tryz.func7, Tryz.ntmps7
 go_wp2_with (go_at_call 23; refine (told_errno k _ hg).mono ?_; rintro e w' ⟨rfl, hb⟩)
 go_ret
 exact ⟨rfl, hb⟩
theorem err_nil_true (w : World) : Calls Tryz.prog 7 #[.nilIface, .int .i64 0] w fun e w' => e = .returned (.bool true) ∧ Below w.heap.size w w' :=
 (error_nil 0 w).mono fun e w' ⟨h1, h2⟩ => ⟨h1, by rw [h2]; exact Below.refl _ _⟩
theorem err_some_true (k : Int) (w : World) (hg : Handle w) : Calls Tryz.prog 7 #[.iface 56 (.int .i64 k), .int .i64 k] w fun e w' => e = .returned (.bool true) ∧ Below w.heap.size w w' :=
 (error_errno k k w hg).mono fun e w' ⟨h1, h2⟩ => ⟨by rw [h1]; simp, h2⟩
theorem tab_below {w w' : World} {v : Value} {xs : List Int} (h : Tab w v xs) (hb : Below w.heap.size w w') : Tab w' v xs := by
 rcases h with h | ⟨g, cap, hv, hg, hc⟩
 ·exact Or.inl h
 ·exact Or.inr ⟨g, cap, hv, Nat.lt_of_lt_of_le hg hb.size, fun k hk => (World.cell?_of_block (w := w) (a := ⟨g, k, none⟩) (hb.block g hg)).trans (hc k hk)⟩
theorem ArgP.atP {w : World} {xs : List Int} {a : Option Addr} {n c : Nat} (h : ArgP w xs a n c) {k : Nat} (hk : k < n) : ∃ g off, a = some ⟨g, off, none⟩ ∧ w.cell? ⟨g, off + k, none⟩ = some (.int .i64 (xs.getD k 0)) := by
 have hl := h.len
 obtain ⟨g, off, e, hg, hc⟩ := h.cells k (by omega)
 exact ⟨g, off, e, by rw [hc]; simp [List.getD, show k < xs.length by omega]⟩
structure TX (w w4 wr : World) (Y : Nat → Nat) : Prop where
 keep : ∀ k, k < w.heap.size + 1 + 1 → wr.heap[k]? = w4.heap[k]?
 sheet : wr.heap[w.heap.size + 1 + 1]? = some (.cells (arrF 204 (uF Y)) 108 (0, 0))
 below : Below w.heap.size w wr
theorem TX.set {w w4 wr : World} {Y : Nat → Nat} (h : TX w w4 wr Y) (i v : Nat) : TX w w4 (wr.setCell ⟨w.heap.size + 1 + 1, i, none⟩ (.int .u64 (v : Int))) (fun k => if k = i then v else Y k) := by
 refine ⟨fun k hk => (Below.heap_setCell _ _ _ _ (by simp; omega)).trans (h.keep k hk), ?_, h.below.setCell (by simp; omega) _⟩
 rw [heap_setCell_same _ _ _ _ _ _ h.sheet, arrF_set]
 rw [arrF_ext (fun k _ => show (if k = i then Value.int .u64 (v : Int) else uF Y k) = uF (fun k => if k = i then v else Y k) k by unfold uF; by_cases q : k = i <;> simp [q])]
theorem TX.ext {w w4 wr : World} {Y Y' : Nat → Nat} (h : TX w w4 wr Y) (e : ∀ k, k < 204 → Y k = Y' k) : TX w w4 wr Y' :=
 ⟨h.keep, by rw [arrF_ext (fun k hk => show uF Y' k = uF Y k by unfold uF; rw [e k hk])]; exact h.sheet, h.below⟩
theorem TX.drewN {w w4 wr : World} {Y : Nat → Nat} (h : TX w w4 wr Y) (n : Nat) : TX w w4 (wr.drewN n) Y := ⟨h.keep, h.sheet, below_drewN h.below n⟩


structure LX (w w3 wr : World) (x y : Nat) : Prop where
 keep : ∀ k, k < w3.heap.size → k ≠ w.heap.size + 1 + 1 + 1 + 1 + 1 → wr.heap[k]? = w3.heap[k]?
 out : wr.heap[w.heap.size + 1 + 1 + 1 + 1 + 1]? = some (.cells #[.int .u64 (x : Int), .int .u64 (y : Int)] 106 (0, 0))
 below : Below w.heap.size w wr
 size : w3.heap.size ≤ wr.heap.size
theorem LX.next {w w3 wr w' : World} {x y : Nat} (h : LX w w3 wr x y) (b : Below wr.heap.size wr w') : LX w w3 w' x y :=
 ⟨fun k hk hn => (b.block k (Nat.lt_of_lt_of_le hk h.size)).trans (h.keep k hk hn), (b.block _ (lt_of_block h.out)).trans h.out, h.below.trans (b.mono h.below.size), Nat.le_trans h.size b.size⟩
end Go.Proofs.YtemhcpldflcfbaaGreatDoor
