/-
  What the last text of this claim leans on, part 37: Hp4, Hp5, Hq1, Hq2.
-/
import Derived.Test.YtemhcpldflcfbaaGreatDoorYf36
import Derived.Test.YtemhcpldflcfbaaGreatDoorYf2
import Derived.Test.YtemhcpldflcfbaaGreatDoorYf9
import Derived.Test.YtemhcpldflcfbaaGreatDoorYf18
import Derived.Test.YtemhcpldflcfbaaGreatDoorYf5
import Derived.Deep.CutRange
namespace Go.Proofs.YtemhcpldflcfbaaGreatDoor
open Go.RowKit
set_option linter.unusedVariables false
set_option maxRecDepth 100000 in
theorem isFar_any (x : Int) (w : World) : Calls Tryz.prog 25 #[.int .i64 x] w fun e w' => e = .returned (.bool (decide (x < -1000000000000 ∨ 1000000000000 < x))) ∧ w' = w := by
 by_cases h1 : x < -1000000000000
 ·rw [decide_eq_true (Or.inl h1)]
  go_enter Tryz.func25, Tryz.ntmps25
  go_wp2
  go_ret
  exact ⟨rfl, rfl⟩
 ·by_cases h2 : 1000000000000 < x
  ·rw [decide_eq_true (Or.inr h2)]
   go_enter Tryz.func25, Tryz.ntmps25
   go_wp2
   go_ret
   exact ⟨rfl, rfl⟩
  ·rw [decide_eq_false (by omega)]
   go_enter Tryz.func25, Tryz.ntmps25
   go_wp2
   go_ret
   exact ⟨rfl, rfl⟩
def YesNew (o : Out) : Prop := Good o ∧ o.kind = 1 ∧ ∃ b : Nat, o.born = (b : Int) ∧ b ≤ 511 ∧ b % 2 = 0
theorem and_oneH {b : Nat} (h : b ≤ 511) : bits .and .i64 (b : Int) 1 = ((b % 2 : Nat) : Int) := by
 have : ∀ b : Fin 512, bits .and .i64 ((b.val : Nat) : Int) 1 = ((b.val % 2 : Nat) : Int) := by decide +kernel
 exact this ⟨b, by omega⟩
def NyQ (o : Out) (w : World) (e : Ending) (w' : World) : Prop := ∃ (spb b s : Nat), (o.born = (b : Int) ∧ o.stay = (s : Int) ∧ b ≤ 511 ∧ s ≤ 511 ∧ b % 2 = 0) ∧ e = .returned (.tuple #[.pointer (some ⟨spb, 0, none⟩), .nilIface]) ∧ SpB w' spb w.heap.size (b : Int) (s : Int) 0 (.pointer none) 16 (fun _ _ => 0) 22 ∧ Below w.heap.size w w'
set_option maxRecDepth 100000 in
set_option maxHeartbeats 6400000 in
theorem new_yes (o : Out) (ta : Option Addr) (tn tc : Nat) (w : World) (hR : ArgR w o ta tn tc) (hy : YesNew o) :
  Calls Tryz.prog 5 #[.agg #[.int .i64 o.kind, .int .i64 o.born, .int .i64 o.stay, .int .i64 o.states, .int .i64 o.radius, .slice ta tn tc, .string o.turns]] w (NyQ o w) := by
 obtain ⟨hg, hk, b, e1, e2, e3⟩ := hy
 obtain ⟨s, es, ls⟩ : ∃ s : Nat, o.stay = (s : Int) ∧ s ≤ 511 := by
  rcases hg with ⟨_, _, h1, _⟩ | ⟨h, _⟩ | ⟨h, _⟩
  ·unfold bitsB at h1
   simp at h1
   exact ⟨o.stay.toNat, by omega, by omega⟩
  ·omega
  ·omega
 have HBS := hide' (And.intro e1 (And.intro es (And.intro e2 (And.intro ls e3))))
 obtain ⟨w1, hw1⟩ : ∃ w1, w.alloc (.cells #[.int .i64 o.kind, .int .i64 o.born, .int .i64 o.stay, .int .i64 o.states, .int .i64 o.radius, .slice ta tn tc, .string o.turns] 24) = w1 := ⟨_, rfl⟩
 have HW1 := hide' hw1
 have B1 := hide' (show Below w.heap.size w w1 by rw [← hw1]; exact (Below.refl _ _).alloc (Nat.le_refl _) _)
 have G1 := hide' (show w1.heap[w.heap.size]? = some (.cells #[.int .i64 o.kind, .int .i64 o.born, .int .i64 o.stay, .int .i64 o.states, .int .i64 o.radius, .slice ta tn tc, .string o.turns] 24 (0, 0)) by rw [← hw1]; exact heap_alloc_new _ _)
 have CC := hide' (Check_any o ta tn tc w1 (hR.below B1.out))
 have x0 := cell_of_row w1 _ 0 _ _ _ G1.out
 have x1 := cell_of_row w1 _ 1 _ _ _ G1.out
 have x2 := cell_of_row w1 _ 2 _ _ _ G1.out
 have x3 := cell_of_row w1 _ 3 _ _ _ G1.out
 have x4 := cell_of_row w1 _ 4 _ _ _ G1.out
 have x5 := cell_of_row w1 _ 5 _ _ _ G1.out
 have x6 := cell_of_row w1 _ 6 _ _ _ G1.out
 simp at x0 x1 x2 x3 x4 x5 x6
 have k1 : (o.kind != 1) = false := by simp [hk]
 have k2 : (o.kind == 1) = true := by simp [hk]
 have an := and_oneH e2
 rw [e3] at an
 have HG := hide' hg
 have E1 := hide' e1
 clear hw1 hR hg hk e1 e2 e3 es ls
 go_enter Tryz.func5, Tryz.ntmps5
 go_upto_region 1 with fail
 rw [HW1.out]
 go_wp2_with fail
 refine CC.out.mono ?_
 rintro e w2 ⟨⟨rfl, g⟩ | ⟨rfl, g⟩, bb⟩
 ·have G2 := (bb.block _ (lt_of_block G1.out)).trans G1.out
  have B2 := hide' (B1.out.trans (bb.mono B1.out.size))
  clear x0 x1 x2 x3 x4 x5 x6
  have x0 := cell_of_row w2 _ 0 _ _ _ G2
  have x1 := cell_of_row w2 _ 1 _ _ _ G2
  have x2 := cell_of_row w2 _ 2 _ _ _ G2
  simp at x0 x1 x2
  rw [E1.out] at x1
  clear g bb G2
  go_wp2_with fail
  obtain ⟨w3, hw3⟩ : ∃ w3, w2.alloc (.cells #[.int .i64 1, .int .i64 (b : Int), .int .i64 o.stay, .int .i64 0, .int .i64 0, .slice none 0 0, .string ⟨#[]⟩, .int .u32 0, .int .i32 0, .int .u32 0, .pointer none, .pointer none, .int .i32 0, .int .i64 0, .int .i64 0, .int .i64 0, .int .i64 0] 74) = w3 := ⟨_, rfl⟩
  have S3 := hide' (show w3.heap[w2.heap.size]? = some (spD (b : Int) o.stay 0 (.pointer none) (.pointer none) 0 0 0 0 0) by rw [← hw3]; exact heap_alloc_new _ _)
  have B3 := hide' (show Below w.heap.size w w3 by rw [← hw3]; exact B2.out.alloc B2.out.size _)
  rw [hw3]
  clear hw3
  refine (emptyField_any w3).mono ?_
  rintro e w4 ⟨sb, g, rfl, hs, b4⟩
  have S4 := hide' ((b4.block _ (lt_of_block S3.out)).trans S3.out)
  have K4 := hide' hs
  have B4 := hide' (B3.out.trans (b4.mono B3.out.size))
  have Z3 := hide' (And.intro B2.out.size (And.intro B3.out.size (lt_of_block S3.out)))
  clear hs b4 x0 x1 x2
  go_wp2_with fail
  have s16 : sideI 1 = 16 := by decide
  refine (keep_new none w2.heap.size w.heap.size sb 0 4 (b : Int) o.stay 0 (.pointer none) (.pointer none) 0 0 0 0 0 0 0 16 (fun _ _ => 0) 1 g 1 [zQ] w4 S4.out ⟨K4.out.weakB (by have := Z3.out; omega), WFQ.nil _ _, rfl, by omega, by omega, by omega, by omega, by omega, by omega, fun u v => val_nil K4.out.st _ _ _⟩ (by omega) (by omega) (by have := Z3.out; omega) (by decide) 22 (by decide)).mono ?_
  rintro e w5 ⟨rfl, sp5, b5⟩
  have SP := hide' sp5
  have B5 := hide' (B4.out.trans b5)
  clear sp5 b5 s16
  go_wp2
  go_ret2
  exact ⟨w2.heap.size, b, s, HBS.out, rfl, by rw [← HBS.out.2.1]; exact SP.out, B5.out⟩
 ·exact absurd HG.out g
def PutQ (spb B : Nat) (b s o : Int) (tv : Value) (M2 : Int) (F : Int → Int → Int) (K2 : Nat) (w : World) (e : Ending) (w' : World) : Prop := e = .returned .nilIface ∧ SpB w' spb B b s o tv M2 F K2 ∧ Below B w w'
theorem SpB.below {w w' : World} {spb B : Nat} {b s o M : Int} {tv : Value} {F : Int → Int → Int} {K : Nat} (h : SpB w spb B b s o tv M F K) (hb : Below w.heap.size w w') : SpB w' spb B b s o tv M F K := by
 obtain ⟨h0, sb, t, L, fr, fd, n, g, cap, qs, kp, h1, h2, h3⟩ := h
 exact ⟨h0, sb, t, L, fr, fd, n, g, cap, qs, kp, (hb.block _ (lt_of_block h1)).trans h1, h2.keepF (h2.stk.below hb), h3⟩
theorem SpB.lt {w : World} {spb B : Nat} {b s o M : Int} {tv : Value} {F : Int → Int → Int} {K : Nat} (h : SpB w spb B b s o tv M F K) : spb < w.heap.size ∧ B ≤ w.heap.size := by
 obtain ⟨h0, sb, t, L, fr, fd, n, g, cap, qs, kp, h1, h2⟩ := h
 have := lt_of_block h1
 exact ⟨this, by omega⟩
theorem FldA.none {w : World} {B sb t L : Nat} {fr fd M : Int} {n g cap : Nat} {qs : List Sq} {mp : Option (Nat × Nat)} (h : FldA w B sb t L fr fd M (fun _ _ => 0) n g cap qs mp) (tg : TgtF n fun _ _ => 0) : t = 0 ∧ L = 4 := by
 have n1 : n = 1 := by
  have := h.one
  rcases tg with q | ⟨_, _, _, _, q, _⟩
  ·omega
  ·exact absurd rfl q
 refine ⟨Classical.byContradiction fun q => ?_, by have := h.lev; omega⟩
 obtain ⟨x, y, _, _, hv⟩ := wf_lives h.stk.st h.wf q
 have := h.val (x + fr) (y + fd)
 rw [show x + fr - fr = x by omega, show y + fd - fd = y by omega] at this
 exact hv this
theorem pt_none {W H : Nat} (e : W * H = 0) (xs : List Int) (r0 d0 : Int) : ptF W H xs r0 d0 = fun _ _ => 0 := by
 funext u v
 unfold ptF
 rw [if_neg]
 intro q
 have : W = 0 ∨ H = 0 := Nat.mul_eq_zero.1 e
 unfold inP at q
 omega
set_option maxRecDepth 100000 in
set_option maxHeartbeats 12800000 in
theorem put_new (spb B : Nat) (b s o : Int) (tv : Value) (M : Int) (K : Nat) (w : World) (hS : SpB w spb B b s o tv M (fun _ _ => 0) K) (W H : Nat) (xs : List Int) (a : Option Addr) (m c : Nat) (hsh : shapeF (W : Int) (H : Int) xs = 0) (hW : W ≤ 100) (hH : H ≤ 100) (hm : xs.length = W * H) (hb : ∀ i, 0 ≤ xs.getD i 0 ∧ xs.getD i 0 ≤ 1) (hP : ∀ V, Below B w V → ArgP V xs a m c) (r0 d0 : Int) (hr : -1000000000000 ≤ r0 ∧ r0 ≤ 1000000000000) (hd : -1000000000000 ≤ d0 ∧ d0 ≤ 1000000000000) (hK : K ≤ 90) (hM4 : M ≤ 1000000001000) :
  Calls Tryz.prog 9 #[.pointer (some ⟨spb, 0, none⟩), .agg #[.int .i64 (W : Int), .int .i64 (H : Int), .slice a m c], .int .i64 r0, .int .i64 d0] w (PutQ spb B b s o tv 1000000001000 (ptF W H xs r0 d0) 3200 w) := by
 obtain ⟨w1, hw1⟩ : ∃ w1, w.alloc (.cells #[.int .i64 (W : Int), .int .i64 (H : Int), .slice a m c] 26) = w1 := ⟨_, rfl⟩
 have HW1 := hide' hw1
 have B1 := hide' (show Below w.heap.size w w1 by rw [← hw1]; exact (Below.refl _ _).alloc (Nat.le_refl _) _)
 have F1 := hide' (show w1.heap[w.heap.size]? = some (.cells #[.int .i64 (W : Int), .int .i64 (H : Int), .slice a m c] 26 (0, 0)) by rw [← hw1]; exact heap_alloc_new _ _)
 have ap := hP w (Below.refl _ _)
 have CC := hide' (Check_P (W : Int) (H : Int) xs a m c w1 (ap.below B1.out))
 rw [hsh] at CC
 have LS := hide' hS.lt
 have HS := hide' hS
 have AP := hide' hP
 have ML := hide' ap.len
 have HA := hide' (And.intro hW (And.intro hH (And.intro hm hb)))
 have HB := hide' (And.intro hr (And.intro hd (And.intro hK hM4)))
 have FA1 := hide' (isFar_any r0)
 have FA2 := hide' (isFar_any d0)
 rw [decide_eq_false (show ¬ (r0 < -1000000000000 ∨ 1000000000000 < r0) by omega)] at FA1
 rw [decide_eq_false (show ¬ (d0 < -1000000000000 ∨ 1000000000000 < d0) by omega)] at FA2
 have y0 := cell_of_row w1 _ 0 _ _ _ F1.out
 have y1 := cell_of_row w1 _ 1 _ _ _ F1.out
 have y2 := cell_of_row w1 _ 2 _ _ _ F1.out
 simp at y0 y1 y2
 clear hw1 hS hsh hW hH hm hb hP ap hr hd hK hM4
 go_enter Tryz.func9, Tryz.ntmps9
 go_upto_region 1 with fail
 rw [HW1.out]
 go_wp2_with fail
 refine CC.out.mono ?_
 rw [show errOf 0 = .nilIface from rfl]
 rintro e w2 ⟨rfl, b2⟩
 have B2 := hide' (B1.out.trans (b2.mono B1.out.size))
 have F2 := hide' ((b2.block _ (lt_of_block F1.out)).trans F1.out)
 clear b2 y0 y1 y2
 go_wp2_with fail
 refine (FA1.out w2).mono ?_
 rintro e w3 ⟨rfl, rfl⟩
 go_wp2_with fail
 refine (FA2.out w3).mono ?_
 rintro e w4 ⟨rfl, rfl⟩
 have y0 := cell_of_row w4 _ 0 _ _ _ F2.out
 have y1 := cell_of_row w4 _ 1 _ _ _ F2.out
 have y2 := cell_of_row w4 _ 2 _ _ _ F2.out
 simp at y0 y1 y2
 by_cases m0 : m = 0
 ·have e0 : W * H = 0 := by rw [← HA.out.2.2.1, ← ML.out]; exact m0
  have FIN := hide' (show PutQ spb B b s o tv 1000000001000 (ptF W H xs r0 d0) 3200 w (.returned .nilIface) w4 from by
   obtain ⟨h0, sb, t, L, fr, fd, n, g, cap, qs, kp, h1, h2, h3, h4, h5⟩ := HS.out.below B2.out
   have hb := HB.out
   rw [pt_none e0]
   exact ⟨rfl, ⟨h0, sb, t, L, fr, fd, n, g, cap, qs, kp, h1, h2.mono hb.2.2.2, h3, by omega, by omega⟩, B2.out.mono LS.out.2⟩)
  have z : ((m : Int) == 0) = true := by simp [m0]
  subst m0
  clear e0
  go_wp2
  go_ret
  exact FIN.out
 ·have z : ((m : Int) == 0) = false := by simp; omega
  have M0 := hide' m0
  clear m0
  obtain ⟨h0, sb, t, L, fr, fd, n, g, cap, qs, kp, h1, h2, htg, h3, h4⟩ := HS.out.below B2.out
  obtain ⟨rfl, rfl⟩ := h2.none htg
  have k0 := h1
  unfold spD at k0
  have s11 := cell_of_row w4 spb 11 _ _ _ k0
  have s12 := cell_of_row w4 spb 12 _ _ _ k0
  have s13 := cell_of_row w4 spb 13 _ _ _ k0
  have s14 := cell_of_row w4 spb 14 _ _ _ k0
  have s15 := cell_of_row w4 spb 15 _ _ _ k0
  simp at s11 s12 s13 s14 s15
  have WH1 : 1 ≤ W ∧ 1 ≤ H := by
   have e0 : W * H ≠ 0 := by rw [← HA.out.2.2.1, ← ML.out]; exact M0.out
   refine ⟨Nat.one_le_iff_ne_zero.2 fun e => e0 ?_, Nat.one_le_iff_ne_zero.2 fun e => e0 ?_⟩
   ·rw [e, Nat.zero_mul]
   ·rw [e, Nat.mul_zero]
  have bw : B ≤ w4.heap.size := by have := LS.out.2; have := B2.out.size; omega
  have hb := HB.out
  have LC := hide' (laid_empty B sb fr fd M n g cap qs w4.drew (h2.keepF h2.stk.drewS) W H xs a m c r0 d0 hb.1 hb.2.1 ⟨WH1.1, HA.out.1⟩ ⟨WH1.2, HA.out.2.1⟩ (fun V hV => AP.out V ((B2.out.mono LS.out.2).trans ⟨hV.os, hV.tape, hV.output, hV.size, hV.block⟩)) HA.out.2.2.1 HA.out.2.2.2 bw (by have := hb.2.2.1; omega))
  have NS := hide' (h2.stk.ne_four h1 (by decide) (by decide))
  have H1 := hide' h1
  have KP := hide' (show kp ≤ 90 by have := hb.2.2.1; omega)
  have H0 := hide' h0
  clear h0 h1 h2 h3 h4 htg k0 WH1 bw hb
  go_upto_region 8 with fail
  go_region_with (go_at_call 26; refine LC.out.mono ?_; rintro e w5 ⟨sb5, t5, L5, fr5, fd5, n5, g5, cap5, qs5, mp5, rfl, f5, l5, b5, k5, tg5, hm5⟩; obtain rfl : mp5 = none := (by rcases hm5 with e | e <;> exact e); have TG5 := hide' tg5; have h5 := (k5.keep spb (lt_of_block H1.out) NS.out.1 NS.out.2).trans H1.out; have k0 := h5; unfold spD at k0; have d11 := cell_of_row w5 spb 11 _ _ _ k0; have d12 := cell_of_row w5 spb 12 _ _ _ k0; have d13 := cell_of_row w5 spb 13 _ _ _ k0; have d14 := cell_of_row w5 spb 14 _ _ _ k0; have d15 := cell_of_row w5 spb 15 _ _ _ k0; have f11 := frozen_of_row w5 spb 11 _ _ k0; have f12 := frozen_of_row w5 spb 12 _ _ k0; have f13 := frozen_of_row w5 spb 13 _ _ k0; have f14 := frozen_of_row w5 spb 14 _ _ k0; have f15 := frozen_of_row w5 spb 15 _ _ k0; simp at d11 d12 d13 d14 d15)
  all_goals
   obtain ⟨w6, hw6⟩ : ∃ w6, ((((w5.setCell ⟨spb, 11, none⟩ (.pointer (some ⟨sb5, 0, none⟩))).setCell ⟨spb, 12, none⟩ (.int .i32 (t5 : Int))).setCell ⟨spb, 13, none⟩ (.int .i64 (L5 : Int))).setCell ⟨spb, 14, none⟩ (.int .i64 fr5)).setCell ⟨spb, 15, none⟩ (.int .i64 fd5) = w6 := ⟨_, rfl⟩
   have ns := f5.stk.ne_four h5 (by decide) (by decide)
   have S6 := hide' (show w6.heap[spb]? = some (spD b s o tv (.pointer (some ⟨sb5, 0, none⟩)) (t5 : Int) (L5 : Int) fr5 fd5 (kp : Int)) by rw [← hw6]; exact sq_set h5)
   have A6 := hide' (show FldA w6 B sb5 t5 L5 fr5 fd5 1000000001000 (ptF W H xs r0 d0) n5 g5 cap5 qs5 from ⟨by rw [← hw6]; exact f5.stk.keep (five_othQ (fun e => ns.1 e.symm) _ _ _ _ _ _ _ _ _ _) (five_othQ (fun e => ns.2 e.symm) _ _ _ _ _ _ _ _ _ _), f5.wf, f5.lev, f5.one, f5.hi, f5.r1, f5.r2, f5.d1, f5.d2, f5.val⟩)
   have hB0 := H0.out
   have B6 := hide' (show Below B w w6 by
    rw [← hw6]
    exact (((((((B2.out.mono LS.out.2).trans ⟨b5.os, b5.tape, b5.output, b5.size, b5.block⟩).setCell hB0 _).setCell hB0 _).setCell hB0 _).setCell hB0 _).setCell hB0 _))
   have L6 := hide' l5
   rw [hw6]
   clear f5 l5 b5 k5 tg5 hm5 h5 k0 d11 d12 d13 d14 d15 f11 f12 f13 f14 f15 hw6 ns s11 s12 s13 s14 s15 y0 y1 y2 hB0
   have k0 := S6.out
   unfold spD at k0
   have e11 := cell_of_row w6 spb 11 _ _ _ k0
   have e12 := cell_of_row w6 spb 12 _ _ _ k0
   have e13 := cell_of_row w6 spb 13 _ _ _ k0
   have e14 := cell_of_row w6 spb 14 _ _ _ k0
   have e15 := cell_of_row w6 spb 15 _ _ _ k0
   have e16 := cell_of_row w6 spb 16 _ _ _ k0
   have e0 := cell_of_row w6 sb5 0 _ _ _ A6.out.stk.blk
   obtain ⟨ln, hln⟩ : ∃ ln, qs5.length = ln := ⟨_, rfl⟩
   rw [hln] at e0
   simp at e11 e12 e13 e14 e15 e16 e0
   have HLN := hide' hln
   have hb := HB.out
   have kpb := KP.out
   obtain ⟨k2, hk2⟩ : ∃ k2, 2 * kp = k2 := ⟨_, rfl⟩
   obtain ⟨k3, hk3⟩ : ∃ k3, k2 + 100 = k3 := ⟨_, rfl⟩
   have a1 : (2 : Int) * (kp : Int) = (k2 : Int) := by omega
   have a2 : (k2 : Int) + 100 = (k3 : Int) := by omega
   have a3 : IntKind.i64.wrap (k2 : Int) = (k2 : Int) := by simp [IntKind.wrap, IntKind.bits, IntKind.signed]; omega
   have a4 : IntKind.i64.wrap (k3 : Int) = (k3 : Int) := by simp [IntKind.wrap, IntKind.bits, IntKind.signed]; omega
   clear k0 hln hb kpb hk2 hk3
   go_upto_region 9 with fail
   go_region
   clear a1 a2 a3 a4
   have hdw : w6.drew.heap = w6.heap := rfl
   have FIN := hide' (show PutQ spb B b s o tv 1000000001000 (ptF W H xs r0 d0) 3200 w (.returned .nilIface) w6.drew from
    ⟨rfl, ⟨H0.out, sb5, t5, L5, fr5, fd5, n5, g5, cap5, qs5, kp, S6.out, A6.out.keepF A6.out.stk.drewS, TG5.out, by have := L6.out; omega, by have := KP.out; omega⟩, B6.out.drew⟩)
   by_cases gt : (k3 : Int) < (ln : Int)
   ·go_wp2_with fail
    refine (keep_new none spb B sb5 t5 L5 b s o tv (.pointer (some ⟨sb5, 0, none⟩)) t5 L5 fr5 fd5 kp fr5 fd5 1000000001000 (ptF W H xs r0 d0) n5 g5 cap5 qs5 w6.drew S6.out (A6.out.keepF A6.out.stk.drewS) (by omega) (by omega) H0.out (by have := L6.out; have := A6.out.hi; omega) 3200 (by have := L6.out; have := A6.out.hi; omega)).mono ?_
    rintro e w7 ⟨rfl, s7, b7⟩
    have FIN2 := hide' (show PutQ spb B b s o tv 1000000001000 (ptF W H xs r0 d0) 3200 w (.returned .nilIface) w7 from ⟨rfl, s7, B6.out.trans ⟨b7.os, b7.tape, b7.output, b7.size, b7.block⟩⟩)
    clear s7 b7 e11 e12 e13 e14 e15 e16 e0
    go_wp2
    go_ret
    exact FIN2.out
   ·clear e11 e12 e13 e14 e15 e16 e0
    go_wp2
    go_ret
    exact FIN.out
structure BxF (V : Int → Int → Int) (l u r d : Int) : Prop where
 inn : ∀ x y, V x y ≠ 0 → l ≤ x ∧ x < r ∧ u ≤ y ∧ y < d
 hl : ∃ y, V l y ≠ 0
 hr : ∃ y, V (r - 1) y ≠ 0
 hu : ∃ x, V x u ≠ 0
 hd : ∃ x, V x (d - 1) ≠ 0
theorem BxF.only {V : Int → Int → Int} {l u r d l' u' r' d' : Int} (h : BxF V l u r d) (k : BxF V l' u' r' d') : l = l' ∧ u = u' ∧ r = r' ∧ d = d' := by
 obtain ⟨y1, a1⟩ := h.hl
 obtain ⟨y2, a2⟩ := h.hr
 obtain ⟨x3, a3⟩ := h.hu
 obtain ⟨x4, a4⟩ := h.hd
 obtain ⟨y5, b1⟩ := k.hl
 obtain ⟨y6, b2⟩ := k.hr
 obtain ⟨x7, b3⟩ := k.hu
 obtain ⟨x8, b4⟩ := k.hd
 have := k.inn _ _ a1
 have := k.inn _ _ a2
 have := k.inn _ _ a3
 have := k.inn _ _ a4
 have := h.inn _ _ b1
 have := h.inn _ _ b2
 have := h.inn _ _ b3
 have := h.inn _ _ b4
 omega
theorem BxF.shift {V G : Int → Int → Int} {l u r d a b : Int} (h : BxF V l u r d) (e : ∀ x y, V (x - a) (y - b) = G x y) : BxF G (a + l) (b + u) (a + r) (b + d) := by
 have f : ∀ x y, V x y = G (a + x) (b + y) := fun x y => by rw [← e, show a + x - a = x by omega, show b + y - b = y by omega]
 obtain ⟨y1, a1⟩ := h.hl
 obtain ⟨y2, a2⟩ := h.hr
 obtain ⟨x3, a3⟩ := h.hu
 obtain ⟨x4, a4⟩ := h.hd
 rw [f] at a1 a2 a3 a4
 refine ⟨fun x y q => ?_, ⟨_, a1⟩, ⟨_, by rw [show a + r - 1 = a + (r - 1) by omega]; exact a2⟩, ⟨_, a3⟩, ⟨_, by rw [show b + d - 1 = b + (d - 1) by omega]; exact a4⟩⟩
 rw [← e] at q
 have := h.inn _ _ q
 omega
def colE (k : Nat) : Nat → Nat
 | 0 => 0
 | n + 1 => colE k n ||| (k >>> (8 * n)) % 256
theorem col_lt (k : Nat) : ∀ n, colE k n < 256
 | 0 => by show (0 : Nat) < 256; decide
 | n + 1 => Nat.or_lt_two_pow (n := 8) (col_lt k n) (Nat.mod_lt _ (by decide))
theorem col_bit (k : Nat) {x : Nat} (hx : x < 8) : ∀ n, (colE k n).testBit x = true ↔ ∃ y, y < n ∧ k.testBit (8 * y + x) = true
 | 0 => by
  show Nat.testBit 0 x = true ↔ _
  rw [Nat.zero_testBit]
  exact ⟨fun h => (by cases h), fun ⟨y, h, _⟩ => absurd h (by omega)⟩
 | n + 1 => by
  show (colE k n ||| (k >>> (8 * n)) % 256).testBit x = true ↔ _
  rw [Nat.testBit_or, Bool.or_eq_true, col_bit k hx n, show (256 : Nat) = 2 ^ 8 by decide, Nat.testBit_mod_two_pow, decide_eq_true hx, Bool.true_and, Nat.testBit_shiftRight]
  constructor
  ·rintro (⟨y, h1, h2⟩ | h)
   ·exact ⟨y, by omega, h2⟩
   ·exact ⟨n, by omega, h⟩
  ·rintro ⟨y, h1, h2⟩
   by_cases e : y = n
   ·subst e; exact Or.inr h2
   ·exact Or.inl ⟨y, by omega, h2⟩
theorem tz8_low : ∀ n : Fin 256, n.val ≠ 0 → (n.val.testBit (Lib.trailingZeros8 n.val) = true ∧ ∀ j : Fin 8, j.val < Lib.trailingZeros8 n.val → n.val.testBit j.val = false) ∧ Lib.trailingZeros8 n.val < 8 := by decide +kernel
theorem bit_alive {k : Nat} {x y : Int} : bitQ k x y ≠ 0 ↔ ∃ a b : Nat, x = a ∧ y = b ∧ a < 8 ∧ b < 8 ∧ k.testBit (8 * b + a) = true := by
 constructor
 ·intro h
  have c : 0 ≤ x ∧ x < 8 ∧ 0 ≤ y ∧ y < 8 := Classical.byContradiction fun c => h (bit_out c)
  refine ⟨x.toNat, y.toNat, by omega, by omega, by omega, by omega, ?_⟩
  rw [show x = ((x.toNat : Nat) : Int) by omega, show y = ((y.toNat : Nat) : Int) by omega, bitQ_nat _ (by omega) (by omega)] at h
  cases e : k.testBit (8 * y.toNat + x.toNat) with
  | true => rfl
  | false => rw [e] at h; exact absurd rfl h
 ·rintro ⟨a, b, rfl, rfl, ha, hb, e⟩
  rw [bitQ_nat _ ha hb, e]
  decide
theorem eight_box {k : Nat} (k0 : k ≠ 0) (hk : k < 18446744073709551616) : BxF (bitQ k) ((Lib.trailingZeros8 (colE k 8) : Nat) : Int) ((tzN k / 8 : Nat) : Int) ((Lib.bitLen (colE k 8) : Nat) : Int) (((Lib.bitLen k + 7) / 8 : Nat) : Int) := by
 have kp : 0 < k := by omega
 have cz := ctz_low kp hk
 have cl := ctz_le kp hk
 have bt := bitLen_top 64 k kp hk (by omega)
 have tz : tzN k = Lib.ctz 64 k := if_neg k0
 rw [tz]
 obtain ⟨z, hz⟩ : ∃ z, Lib.ctz 64 k = z := ⟨_, rfl⟩
 obtain ⟨e, he⟩ : ∃ z, Lib.bitLen k = z := ⟨_, rfl⟩
 rw [hz] at cz cl ⊢
 rw [he] at bt ⊢
 have c0 : colE k 8 ≠ 0 := fun q => by
  have := (col_bit k (x := z % 8) (by omega) 8).2 ⟨z / 8, by omega, by rw [show 8 * (z / 8) + z % 8 = z by omega]; exact cz.1⟩
  rw [q, Nat.zero_testBit] at this
  cases this
 obtain ⟨⟨t1, t2⟩, t3⟩ := tz8_low ⟨colE k 8, col_lt k 8⟩ c0
 have b8 := bitLen_top 8 (colE k 8) (by omega) (col_lt k 8) (by omega)
 simp only at t1 t2 t3
 obtain ⟨a, ha⟩ : ∃ z, Lib.trailingZeros8 (colE k 8) = z := ⟨_, rfl⟩
 obtain ⟨b, hb⟩ : ∃ z, Lib.bitLen (colE k 8) = z := ⟨_, rfl⟩
 rw [ha] at t1 t2 t3 ⊢
 rw [hb] at b8 ⊢
 obtain ⟨y1, hy1, e1⟩ := (col_bit k t3 8).1 t1
 obtain ⟨y2, hy2, e2⟩ := (col_bit k (x := b - 1) (by omega) 8).1 b8.2.2.1
 refine ⟨fun x y q => ?_, ⟨(y1 : Int), bit_alive.2 ⟨a, y1, rfl, rfl, t3, hy1, e1⟩⟩, ⟨(y2 : Int), bit_alive.2 ⟨b - 1, y2, by omega, rfl, by omega, hy2, e2⟩⟩, ⟨((z % 8 : Nat) : Int), bit_alive.2 ⟨z % 8, z / 8, rfl, rfl, by omega, by omega, by rw [show 8 * (z / 8) + z % 8 = z by omega]; exact cz.1⟩⟩, ⟨(((e - 1) % 8 : Nat) : Int), bit_alive.2 ⟨(e - 1) % 8, (e + 7) / 8 - 1, rfl, by omega, by omega, by omega, by rw [show 8 * ((e + 7) / 8 - 1) + (e - 1) % 8 = e - 1 by omega]; exact bt.2.2.1⟩⟩⟩
 obtain ⟨c, d, rfl, rfl, hc, hd, ev⟩ := bit_alive.1 q
 have cb := (col_bit k hc 8).2 ⟨d, hd, ev⟩
 have q1 : a ≤ c := Classical.byContradiction fun g => by
  have := t2 ⟨c, hc⟩ (show c < a by omega)
  simp only at this
  rw [this] at cb
  cases cb
 have q2 : c < b := Classical.byContradiction fun g => by
  rw [b8.2.2.2 c (by omega)] at cb
  cases cb
 have q3 : z ≤ 8 * d + c := Classical.byContradiction fun g => by
  rw [cz.2 _ (by omega)] at ev
  cases ev
 have q4 : 8 * d + c < e := Classical.byContradiction fun g => by
  rw [bt.2.2.2 _ (by omega)] at ev
  cases ev
 omega
def SpP (k : Nat) (w : World) (e : Ending) (w' : World) : Prop := ∃ l u r d : Nat, e = .returned (.agg #[.int .i64 (l : Int), .int .i64 (u : Int), .int .i64 (r : Int), .int .i64 (d : Int)]) ∧ (r ≤ 8 ∧ d ≤ 8 ∧ l < r ∧ u < d) ∧ BxF (bitQ k) (l : Int) (u : Int) (r : Int) (d : Int) ∧ Below w.heap.size w w'
theorem tz8_any (x : Nat) (w : World) (h : x < 256) : Calls Tryz.prog 125 #[.int .u8 (x : Int)] w fun e w' => e = .returned (.int .i64 ((Lib.trailingZeros8 x : Nat) : Int)) ∧ w' = w := by
 have := Tryz.bits_TrailingZeros8 (x : Int) w (by omega) (by omega)
 rw [Int.toNat_natCast] at this
 exact this
theorem len8_any (x : Nat) (w : World) (h : x < 256) : Calls Tryz.prog 126 #[.int .u8 (x : Int)] w fun e w' => e = .returned (.int .i64 ((Lib.bitLen x : Nat) : Int)) ∧ w' = w := by
 have := Tryz.bits_Len8 (x : Int) w (by omega) (by omega)
 rw [Int.toNat_natCast] at this
 exact this
theorem or_u8 {a b : Nat} (ha : a < 256) (hb : b < 256) : bits .or .u8 (a : Int) (b : Int) = ((a ||| b : Nat) : Int) := by
 have hx : a ||| b < 2 ^ 8 := Nat.or_lt_two_pow ha hb
 have t : ∀ x : Nat, x < 256 → (BitVec.ofInt 8 (x : Int)).toNat = x := fun x h => by
  rw [BitVec.ofInt_natCast, BitVec.toNat_ofNat]; exact Nat.mod_eq_of_lt (by omega)
 show IntKind.u8.wrap ((BitVec.ofInt 8 (a : Int) ||| BitVec.ofInt 8 (b : Int)).toNat : Int) = _
 rw [BitVec.toNat_or, t a ha, t b hb]
 simp [IntKind.wrap, IntKind.signed, IntKind.bits]
 omega
theorem shr_col (k i : Nat) : (k : Int) / 2 ^ (8 * i) % 256 = (((k >>> (8 * i)) % 256 : Nat) : Int) := by
 rw [Nat.shiftRight_eq_div_pow, Int.natCast_emod, Int.natCast_ediv, Int.natCast_pow]
 rfl
theorem span_res {w : World} {g : Nat} {x0 x1 x2 x3 : Value} {t : TypeId} (h : w.heap[g]? = some (.cells #[x0, x1, x2, x3] t (0, 0))) (a b c d : Value) : ((((w.setCell ⟨g, 0, none⟩ a).setCell ⟨g, 1, none⟩ b).setCell ⟨g, 2, none⟩ c).setCell ⟨g, 3, none⟩ d).heap[g]? = some (.cells #[a, b, c, d] t (0, 0)) := by
 have h0 : (w.setCell ⟨g, 0, none⟩ a).heap[g]? = some (.cells #[a, x1, x2, x3] t (0, 0)) := by rw [heap_setCell_same _ _ _ _ _ _ h]; rfl
 have h1 : ((w.setCell ⟨g, 0, none⟩ a).setCell ⟨g, 1, none⟩ b).heap[g]? = some (.cells #[a, b, x2, x3] t (0, 0)) := by rw [heap_setCell_same _ _ _ _ _ _ h0]; rfl
 have h2 : (((w.setCell ⟨g, 0, none⟩ a).setCell ⟨g, 1, none⟩ b).setCell ⟨g, 2, none⟩ c).heap[g]? = some (.cells #[a, b, c, x3] t (0, 0)) := by rw [heap_setCell_same _ _ _ _ _ _ h1]; rfl
 rw [heap_setCell_same _ _ _ _ _ _ h2]; rfl
set_option maxRecDepth 100000 in
set_option maxHeartbeats 6400000 in
theorem span_any (k : Nat) (w : World) (k0 : k ≠ 0) (hk : k < 18446744073709551616) (hT : ∀ V, Below w.heap.size w V → TzTab V) :
  Calls Tryz.prog 100 #[.int .u64 (k : Int)] w (SpP k w) := by
 obtain ⟨rb, hrb⟩ : ∃ x, w.heap.size = x := ⟨_, rfl⟩
 have HRB := hide' hrb
 obtain ⟨w1, hw1⟩ : ∃ x, w.alloc (.cells #[.int .i64 0, .int .i64 0, .int .i64 0, .int .i64 0] 99) = x := ⟨_, rfl⟩
 have HW1 := hide' hw1
 have B1 := hide' (show Below w.heap.size w w1 by rw [← hw1]; exact (Below.refl _ _).alloc (Nat.le_refl _) _)
 have R1 := hide' (show w1.heap[rb]? = some (.cells #[.int .i64 0, .int .i64 0, .int .i64 0, .int .i64 0] 99 (0, 0)) by rw [← hw1, ← hrb]; exact heap_alloc_new _ _)
 have BX := hide' (eight_box k0 hk)
 have HK := hide' (And.intro k0 hk)
 have TT := hide' (hT w1 B1.out)
 have C8 := hide' (col_lt k 8)
 have L8 := hide' (show Lib.bitLen (colE k 8) ≤ 8 from Lib.bitLen_le8 ⟨_, col_lt k 8⟩)
 have L64 := hide' (bitLen_le64 hk)
 have Z64 := hide' (tzN_le hk)
 clear hrb hw1 hT k0
 go_enter Tryz.func100, Tryz.ntmps100
 go_upto_region 2 with fail
 rw [HW1.out, HRB.out]
 go_wp2
 go_loopw [3, 5] (fun cv iv wr => ∃ (i : Nat), cv = .int .u8 ((colE k i : Nat) : Int) ∧ iv = .int .i64 (i : Int) ∧ i ≤ 8 ∧ w1 = wr) (fun _ iv _ => 8 - (intOf iv).toNat)
 case atStart => exact ⟨0, rfl, rfl, by omega, rfl⟩
 case round =>
  obtain ⟨i, rfl, rfl, hi, rfl⟩ := hrel
  by_cases di : i < 8
  ·have d1 : (i : Int) < 8 := by omega
   have cl := col_lt k i
   obtain ⟨c, hc⟩ : ∃ c, colE k i = c := ⟨_, rfl⟩
   have e1 := or_u8 (a := c) (b := (k >>> (8 * i)) % 256) (by rw [← hc]; exact cl) (Nat.mod_lt _ (by decide))
   have e2 := shr_col k i
   have e3 : colE k (i + 1) = c ||| (k >>> (8 * i)) % 256 := by rw [← hc]; rfl
   rw [hc]
   have E := hide' (And.intro e1 (And.intro e2 e3))
   clear e1 e2 e3 hc cl
   go_wp2
   exact ⟨⟨i + 1, by rw [E.out.2.1, E.out.1, E.out.2.2], by go_num, by omega, trivial⟩, by simp [intOf]; omega⟩
  ·have d1 : ¬ (i : Int) < 8 := by omega
   obtain rfl : i = 8 := by omega
   have T8 := hide' (tz8_any (colE k 8) w1 C8.out)
   have N8 := hide' (len8_any (colE k 8) w1 C8.out)
   have T64 := hide' (tzN_any k w1 hk TT.out)
   have N64 := hide' (len_any k w1 hk)
   obtain ⟨c8, hc8⟩ : ∃ x, colE k 8 = x := ⟨_, rfl⟩
   obtain ⟨a, ha⟩ : ∃ x, Lib.trailingZeros8 (colE k 8) = x := ⟨_, rfl⟩
   obtain ⟨b, hb⟩ : ∃ x, Lib.bitLen (colE k 8) = x := ⟨_, rfl⟩
   obtain ⟨z, hz⟩ : ∃ x, tzN k = x := ⟨_, rfl⟩
   obtain ⟨e, he⟩ : ∃ x, Lib.bitLen k = x := ⟨_, rfl⟩
   rw [ha, hb, hz, he] at BX
   rw [ha, hc8] at T8
   rw [hb, hc8] at N8
   rw [hz] at T64 Z64
   rw [he] at N64 L64
   rw [hb] at L8
   rw [hc8]
   obtain ⟨u, hu⟩ : ∃ x, z / 8 = x := ⟨_, rfl⟩
   obtain ⟨f, hf⟩ : ∃ x, e + 7 = x := ⟨_, rfl⟩
   obtain ⟨d, hd⟩ : ∃ x, f / 8 = x := ⟨_, rfl⟩
   rw [hu, hf, hd] at BX
   have q1 : (z : Int) / 8 = (u : Int) := by omega
   have q2 : (e : Int) + 7 = (f : Int) := by omega
   have q3 : (f : Int) / 8 = (d : Int) := by omega
   have zl : z ≤ 64 := Z64.out
   have el : e ≤ 64 := L64.out
   have DL := hide' (show d ≤ 8 by omega)
   have r0 := cell_of_row w1 rb 0 _ _ _ R1.out
   have r1 := cell_of_row w1 rb 1 _ _ _ R1.out
   have r2 := cell_of_row w1 rb 2 _ _ _ R1.out
   have r3 := cell_of_row w1 rb 3 _ _ _ R1.out
   have f0 := frozen_of_row w1 rb 0 _ _ R1.out
   have f1 := frozen_of_row w1 rb 1 _ _ R1.out
   have f2 := frozen_of_row w1 rb 2 _ _ R1.out
   have f3 := frozen_of_row w1 rb 3 _ _ R1.out
   simp at r0 r1 r2 r3
   clear hc8 ha hb hz he hu hf hd
   go_wp2_with fail
   refine T8.out.mono ?_
   rintro o w2 ⟨rfl, e2⟩
   rw [e2]
   clear e2
   go_wp2_with fail
   refine N8.out.mono ?_
   rintro o w2 ⟨rfl, e2⟩
   rw [e2]
   clear e2
   go_wp2_with fail
   refine T64.out.mono ?_
   rintro o w2 ⟨rfl, e2⟩
   rw [e2]
   clear e2
   go_wp2_with fail
   refine N64.out.mono ?_
   rintro o w2 ⟨rfl, e2⟩
   rw [e2]
   clear e2
   go_wp2
   obtain ⟨X, hX⟩ : ∃ X, (((w1.setCell ⟨rb, 0, none⟩ (.int .i64 (a : Int))).setCell ⟨rb, 1, none⟩ (.int .i64 (u : Int))).setCell ⟨rb, 2, none⟩ (.int .i64 (b : Int))).setCell ⟨rb, 3, none⟩ (.int .i64 (d : Int)) = X := ⟨_, rfl⟩
   have GX : X.heap[rb]? = some (.cells #[.int .i64 (a : Int), .int .i64 (u : Int), .int .i64 (b : Int), .int .i64 (d : Int)] 99 (0, 0)) := by rw [← hX]; exact span_res R1.out _ _ _ _
   have lw : w.heap.size ≤ rb := by have := HRB.out; omega
   have BXX : Below w.heap.size w X := by rw [← hX]; exact (((B1.out.setCell lw _).setCell lw _).setCell lw _).setCell lw _
   rw [hX]
   have i0 := cell_of_row X _ 0 _ _ _ GX
   have i1 := cell_of_row X _ 1 _ _ _ GX
   have i2 := cell_of_row X _ 2 _ _ _ GX
   have i3 := cell_of_row X _ 3 _ _ _ GX
   simp at i0 i1 i2 i3
   refine bodyPost_ret (v := .agg #[.int .i64 (a : Int), .int .i64 (u : Int), .int .i64 (b : Int), .int .i64 (d : Int)]) (by simp [results, Tryz.results100, go_sem, i0, i1, i2, i3]) rfl ?_
   have bx := BX.out
   obtain ⟨y1, v1⟩ := bx.hl
   obtain ⟨x2, v2⟩ := bx.hu
   have n1 := bx.inn _ _ v1
   have n2 := bx.inn _ _ v2
   exact ⟨a, u, b, d, rfl, ⟨L8.out, DL.out, by omega, by omega⟩, bx, BXX⟩
end Go.Proofs.YtemhcpldflcfbaaGreatDoor
