/-
  What the last text of this claim leans on, part 27: Hf3, Hf4.
-/
import Derived.Test.YtelocgefaommmaaDoorZh25
import Derived.Test.YtelocgefaommmaaDoorZh26
import Derived.Test.YtelocgefaommmaaDoorZh9
namespace Go.Proofs.YtelocgefaommmaaDoor
open Go.RowKit
set_option linter.unusedVariables false
def PutP (spb B : Nat) (b s : Int) (M2 : Int) (F : Int → Int → Int) (K2 : Nat) (w : World) (e : Ending) (w' : World) : Prop := e = .returned .nilIface ∧ SpA w' spb B b s M2 F K2 ∧ Below B w w'
theorem SpA.below {w w' : World} {spb B : Nat} {b s M : Int} {F : Int → Int → Int} {K : Nat} (h : SpA w spb B b s M F K) (hb : Below w.heap.size w w') : SpA w' spb B b s M F K := by
  obtain ⟨h0, sb, t, L, fr, fd, n, g, cap, qs, kp, h1, h2, h3, h4⟩ := h
  exact ⟨h0, sb, t, L, fr, fd, n, g, cap, qs, kp, (hb.block _ (lt_of_block h1)).trans h1, ⟨h2.stk.below hb, h2.wf, h2.lev, h2.one, h2.hi, h2.r1, h2.r2, h2.d1, h2.d2, h2.val⟩, h3, h4⟩
theorem SpA.lt {w : World} {spb B : Nat} {b s M : Int} {F : Int → Int → Int} {K : Nat} (h : SpA w spb B b s M F K) : spb < w.heap.size ∧ B ≤ w.heap.size := by
  obtain ⟨h0, sb, t, L, fr, fd, n, g, cap, qs, kp, h1, h2, h3, h4⟩ := h
  have := lt_of_block h1
  exact ⟨this, by omega⟩
set_option maxRecDepth 100000 in
set_option maxHeartbeats 12800000 in
theorem put_any (spb B : Nat) (b s M : Int) (F : Int → Int → Int) (K : Nat) (w : World) (hS : SpA w spb B b s M F K) (W H : Nat) (xs : List Int) (a : Option Addr) (m c : Nat) (hsh : shapeF (W : Int) (H : Int) xs = 0) (hW : W ≤ 100) (hH : H ≤ 100) (hm : xs.length = W * H) (hb : ∀ i, 0 ≤ xs.getD i 0 ∧ xs.getD i 0 ≤ 1) (hP : ∀ V, Below B w V → ArgP V xs a m c) (r0 d0 : Int) (hr : -200 ≤ r0 ∧ r0 ≤ 200) (hd : -200 ≤ d0 ∧ d0 ≤ 200) (h16 : 16 ≤ M) (hM : M ≤ 1300) (N : Nat) (hN : ∀ k, sideI k ≤ 8 * M + 2000 → k ≤ N) (N10 : N ≤ 10) (hK : K ≤ 100000) (M2 : Int) (hM2 : ∀ k, k + 1 ≤ N → 2 * M + 200 + sideI k ≤ M2) (hM3 : M2 ≤ 100000) (hM4 : M ≤ M2) (hN2 : ∀ k, sideI k ≤ 2 * M2 → k ≤ N) :
    Calls Tryd.prog 7 #[.pointer (some ⟨spb, 0, none⟩), .agg #[.int .i64 (W : Int), .int .i64 (H : Int), .slice a m c], .int .i64 r0, .int .i64 d0] w (PutP spb B b s M2 (ovrF W H xs r0 d0 F) (K + 80 + cntQ N) w) := by
  obtain ⟨w1, hw1⟩ : ∃ w1, w.alloc (.cells #[.int .i64 (W : Int), .int .i64 (H : Int), .slice a m c] 26) = w1 := ⟨_, rfl⟩
  have HW1 := hide' hw1
  have B1 := hide' (show Below w.heap.size w w1 by rw [← hw1]; exact (Below.refl _ _).alloc (Nat.le_refl _) _)
  have F1 := hide' (show w1.heap[w.heap.size]? = some (.cells #[.int .i64 (W : Int), .int .i64 (H : Int), .slice a m c] 26 (0, 0)) by rw [← hw1]; exact heap_alloc_new _ _)
  have ap := hP w (Below.refl _ _)
  have CC := hide' (Check_P (W : Int) (H : Int) xs a m c w1 (ap.below B1.out))
  rw [hsh] at CC
  have LS := hide' hS.lt
  have HS := hide' hS
  have AP := hide' hP
  have ML := hide' ap.len
  have HA := hide' (And.intro hW (And.intro hH (And.intro hm hb)))
  have HB := hide' (And.intro hr (And.intro hd (And.intro h16 (And.intro hM (And.intro N10 (And.intro hK (And.intro hM3 hM4)))))))
  have HN := hide' (And.intro hN (And.intro hM2 hN2))
  have FA1 := hide' (fun V => isFar_no r0 V (by omega))
  have FA2 := hide' (fun V => isFar_no d0 V (by omega))
  have y0 := cell_of_row w1 _ 0 _ _ _ F1.out
  have y1 := cell_of_row w1 _ 1 _ _ _ F1.out
  have y2 := cell_of_row w1 _ 2 _ _ _ F1.out
  simp at y0 y1 y2
  clear hw1 hS hsh hW hH hm hb hP ap hr hd h16 hM hN N10 hK hM2 hM3 hM4 hN2
  go_enter Tryd.func7, Tryd.ntmps7
  go_upto_region 1 with fail
  rw [HW1.out]
  go_wp2_with fail
  refine CC.out.mono ?_
  rw [show errOf 0 = .nilIface from rfl]
  rintro e w2 ⟨rfl, b2⟩
  have B2 := hide' (B1.out.trans (b2.mono B1.out.size))
  have F2 := hide' ((b2.block _ (lt_of_block F1.out)).trans F1.out)
  clear b2 y0 y1 y2
  go_wp2_with fail
  refine (FA1.out w2).mono ?_
  rintro e w3 ⟨rfl, rfl⟩
  go_wp2_with fail
  refine (FA2.out w3).mono ?_
  rintro e w4 ⟨rfl, rfl⟩
  have y0 := cell_of_row w4 _ 0 _ _ _ F2.out
  have y1 := cell_of_row w4 _ 1 _ _ _ F2.out
  have y2 := cell_of_row w4 _ 2 _ _ _ F2.out
  simp at y0 y1 y2
  by_cases m0 : m = 0
  · have e0 : W * H = 0 := by rw [← HA.out.2.2.1, ← ML.out]; exact m0
    have FIN := hide' (show PutP spb B b s M2 (ovrF W H xs r0 d0 F) (K + 80 + cntQ N) w (.returned .nilIface) w4 from by
      have e1 : ovrF W H xs r0 d0 F = F := by
        funext u v
        unfold ovrF
        rw [if_neg]
        intro q
        have : W = 0 ∨ H = 0 := Nat.mul_eq_zero.1 e0
        omega
      have hs := HS.out.below B2.out
      obtain ⟨h0, sb, t, L, fr, fd, n, g, cap, qs, kp, h1, h2, h3, h4⟩ := hs
      refine ⟨rfl, ⟨h0, sb, t, L, fr, fd, n, g, cap, qs, kp, h1, ?_, by omega, by omega⟩, B2.out.mono LS.out.2⟩
      rw [e1]
      exact h2.mono HB.out.2.2.2.2.2.2.2)
    have z : ((m : Int) == 0) = true := by simp [m0]
    subst m0
    clear e0
    go_wp2
    go_ret
    exact FIN.out
  · have z : ((m : Int) == 0) = false := by simp; omega
    have M0 := hide' m0
    clear m0
    obtain ⟨h0, sb, t, L, fr, fd, n, g, cap, qs, kp, h1, h2, h3, h4⟩ := HS.out.below B2.out
    have k0 := h1
    unfold spC at k0
    have s11 := cell_of_row w4 spb 11 _ _ _ k0
    have s12 := cell_of_row w4 spb 12 _ _ _ k0
    have s13 := cell_of_row w4 spb 13 _ _ _ k0
    have s14 := cell_of_row w4 spb 14 _ _ _ k0
    have s15 := cell_of_row w4 spb 15 _ _ _ k0
    simp at s11 s12 s13 s14 s15
    have WH1 : 1 ≤ W ∧ 1 ≤ H := by
      have e0 : W * H ≠ 0 := by rw [← HA.out.2.2.1, ← ML.out]; exact M0.out
      refine ⟨Nat.one_le_iff_ne_zero.2 fun e => e0 ?_, Nat.one_le_iff_ne_zero.2 fun e => e0 ?_⟩
      · rw [e, Nat.zero_mul]
      · rw [e, Nat.mul_zero]
    have bw : B ≤ w4.heap.size := by have := LS.out.2; have := B2.out.size; omega
    have hb := HB.out
    have LC := hide' (laid_any B sb t L fr fd M F n g cap qs w4.drew ⟨h2.stk.drewS, h2.wf, h2.lev, h2.one, h2.hi, h2.r1, h2.r2, h2.d1, h2.d2, h2.val⟩ W H xs a m c r0 d0 hb.1 hb.2.1 ⟨WH1.1, HA.out.1⟩ ⟨WH1.2, HA.out.2.1⟩ (fun V hV => AP.out V ((B2.out.mono LS.out.2).trans ⟨hV.os, hV.tape, hV.output, hV.size, hV.block⟩)) HA.out.2.2.1 HA.out.2.2.2 hb.2.2.1 hb.2.2.2.1 bw N HN.out.1 hb.2.2.2.2.1 K h3 hb.2.2.2.2.2.1 M2 HN.out.2.1 hb.2.2.2.2.2.2.1)
    have NS := hide' (h2.stk.ne_four h1 (by decide) (by decide))
    have H1 := hide' h1
    have KP := hide' (show kp ≤ K + 80 + cntQ N by omega)
    have H0 := hide' h0
    clear h0 h1 h2 h3 h4 k0 WH1 bw hb
    go_upto_region 8 with fail
    go_region_with (go_at_call 16; refine LC.out.mono ?_; rintro e w5 ⟨sb5, t5, L5, fr5, fd5, n5, g5, cap5, qs5, rfl, f5, l5, b5, k5⟩; have h5 := (k5.keep spb (lt_of_block H1.out) NS.out.1 NS.out.2).trans H1.out; have k0 := h5; unfold spC at k0; have d11 := cell_of_row w5 spb 11 _ _ _ k0; have d12 := cell_of_row w5 spb 12 _ _ _ k0; have d13 := cell_of_row w5 spb 13 _ _ _ k0; have d14 := cell_of_row w5 spb 14 _ _ _ k0; have d15 := cell_of_row w5 spb 15 _ _ _ k0; have f11 := frozen_of_row w5 spb 11 _ _ k0; have f12 := frozen_of_row w5 spb 12 _ _ k0; have f13 := frozen_of_row w5 spb 13 _ _ k0; have f14 := frozen_of_row w5 spb 14 _ _ k0; have f15 := frozen_of_row w5 spb 15 _ _ k0; simp at d11 d12 d13 d14 d15)
    all_goals
      obtain ⟨w6, hw6⟩ : ∃ w6, ((((w5.setCell ⟨spb, 11, none⟩ (.pointer (some ⟨sb5, 0, none⟩))).setCell ⟨spb, 12, none⟩ (.int .i32 (t5 : Int))).setCell ⟨spb, 13, none⟩ (.int .i64 (L5 : Int))).setCell ⟨spb, 14, none⟩ (.int .i64 fr5)).setCell ⟨spb, 15, none⟩ (.int .i64 fd5) = w6 := ⟨_, rfl⟩
      have ns := f5.stk.ne_four h5 (by decide) (by decide)
      have S6 := hide' (show w6.heap[spb]? = some (spC b s (.pointer (some ⟨sb5, 0, none⟩)) (t5 : Int) (L5 : Int) fr5 fd5 (kp : Int)) by rw [← hw6]; exact sp_set h5)
      have A6 := hide' (show FldA w6 B sb5 t5 L5 fr5 fd5 M2 (ovrF W H xs r0 d0 F) n5 g5 cap5 qs5 from ⟨by rw [← hw6]; exact f5.stk.keep (five_oth (fun e => ns.1 e.symm) _ _ _ _ _ _ _ _ _ _) (five_oth (fun e => ns.2 e.symm) _ _ _ _ _ _ _ _ _ _), f5.wf, f5.lev, f5.one, f5.hi, f5.r1, f5.r2, f5.d1, f5.d2, f5.val⟩)
      have hB0 := H0.out
      have B6 := hide' (show Below B w w6 by
        rw [← hw6]
        exact (((((((B2.out.mono LS.out.2).trans ⟨b5.os, b5.tape, b5.output, b5.size, b5.block⟩).setCell hB0 _).setCell hB0 _).setCell hB0 _).setCell hB0 _).setCell hB0 _))
      have L6 := hide' l5
      rw [hw6]
      clear f5 l5 b5 k5 h5 k0 d11 d12 d13 d14 d15 f11 f12 f13 f14 f15 hw6 ns s11 s12 s13 s14 s15 y0 y1 y2 hB0
      have k0 := S6.out
      unfold spC at k0
      have e11 := cell_of_row w6 spb 11 _ _ _ k0
      have e12 := cell_of_row w6 spb 12 _ _ _ k0
      have e13 := cell_of_row w6 spb 13 _ _ _ k0
      have e14 := cell_of_row w6 spb 14 _ _ _ k0
      have e15 := cell_of_row w6 spb 15 _ _ _ k0
      have e16 := cell_of_row w6 spb 16 _ _ _ k0
      have e0 := cell_of_row w6 sb5 0 _ _ _ A6.out.stk.blk
      obtain ⟨ln, hln⟩ : ∃ ln, qs5.length = ln := ⟨_, rfl⟩
      rw [hln] at e0
      simp at e11 e12 e13 e14 e15 e16 e0
      have HLN := hide' hln
      have hb := HB.out
      have kpb := KP.out
      have c10 := cntQ_mono hb.2.2.2.2.1
      rw [cntQ_ten] at c10
      obtain ⟨k2, hk2⟩ : ∃ k2, 2 * kp = k2 := ⟨_, rfl⟩
      obtain ⟨k3, hk3⟩ : ∃ k3, k2 + 100 = k3 := ⟨_, rfl⟩
      have a1 : (2 : Int) * (kp : Int) = (k2 : Int) := by omega
      have a2 : (k2 : Int) + 100 = (k3 : Int) := by omega
      have a3 : IntKind.i64.wrap (k2 : Int) = (k2 : Int) := by simp [IntKind.wrap, IntKind.bits, IntKind.signed]; omega
      have a4 : IntKind.i64.wrap (k3 : Int) = (k3 : Int) := by simp [IntKind.wrap, IntKind.bits, IntKind.signed]; omega
      clear k0 hln hb kpb c10 hk2 hk3
      go_upto_region 9 with fail
      go_region
      clear a1 a2 a3 a4
      have hdw : w6.drew.heap = w6.heap := rfl
      have FIN := hide' (show PutP spb B b s M2 (ovrF W H xs r0 d0 F) (K + 80 + cntQ N) w (.returned .nilIface) w6.drew from
        ⟨rfl, ⟨H0.out, sb5, t5, L5, fr5, fd5, n5, g5, cap5, qs5, kp, S6.out, ⟨A6.out.stk.drewS, A6.out.wf, A6.out.lev, A6.out.one, A6.out.hi, A6.out.r1, A6.out.r2, A6.out.d1, A6.out.d2, A6.out.val⟩, by have := L6.out; omega, KP.out⟩, B6.out.drew⟩)
      by_cases gt : (k3 : Int) < (ln : Int)
      · go_wp2_with fail
        refine (keep_any spb B sb5 t5 L5 b s (.pointer (some ⟨sb5, 0, none⟩)) t5 L5 fr5 fd5 kp fr5 fd5 M2 (ovrF W H xs r0 d0 F) n5 g5 cap5 qs5 w6.drew S6.out ⟨A6.out.stk.drewS, A6.out.wf, A6.out.lev, A6.out.one, A6.out.hi, A6.out.r1, A6.out.r2, A6.out.d1, A6.out.d2, A6.out.val⟩ (by have := HB.out; omega) (by have := HB.out; omega) H0.out (by have := L6.out; have := A6.out.hi; have := HB.out.2.2.2.2.2.1; have c10 := cntQ_mono HB.out.2.2.2.2.1; rw [cntQ_ten] at c10; omega) N HN.out.2.2 HB.out.2.2.2.2.1 (K + 80 + cntQ N) (by omega)).mono ?_
        rintro e w7 ⟨rfl, s7, b7⟩
        have FIN2 := hide' (show PutP spb B b s M2 (ovrF W H xs r0 d0 F) (K + 80 + cntQ N) w (.returned .nilIface) w7 from ⟨rfl, s7, B6.out.trans ⟨b7.os, b7.tape, b7.output, b7.size, b7.block⟩⟩)
        clear s7 b7 e11 e12 e13 e14 e15 e16 e0
        go_wp2
        go_ret
        exact FIN2.out
      · clear e11 e12 e13 e14 e15 e16 e0
        go_wp2
        go_ret
        exact FIN.out
end Go.Proofs.YtelocgefaommmaaDoor

namespace Go.Proofs.YtelocgefaommmaaDoor
open Go.RowKit
set_option linter.unusedVariables false
theorem info_intH : (Tryd.prog.info? 3).map (fun i => (i.zero, i.size, i.bytes)) = some (some (.int .i64 0), 1, 8) := by kernel_rfl
theorem mk_400 (w : World) : (Instr.makeSlice 22 (.int .i64 400) (.int .i64 400)).run Tryd.prog w = .ok (.slice (some ⟨w.heap.size, 0, none⟩) 400 400) (w.alloc (.cells (arrF 400 fun _ => .int .i64 0) 3)) := by
  rw [← made_allH]
  exact run_make_row' (P := Tryd.prog) 22 3 (.int .i64 0) 8 Tryd.underlying22 info_intH rfl .i64 .i64 400 (by omega) (by omega) w
def CeP (F : Int → Int → Int) (x y : Int) (w : World) (e : Ending) (w' : World) : Prop := ∃ (cb : Nat) (gf : Nat → Int), e = .returned (.tuple #[.agg #[.int .i64 20, .int .i64 20, .slice (some ⟨cb, 0, none⟩) 400 400], .nilIface]) ∧ WinA w' cb 400 gf ∧ (∀ u v : Nat, u < 20 → v < 20 → gf (v * 20 + u) = F (x + (u : Int)) (y + (v : Int))) ∧ Below w.heap.size w w'
theorem ce_keep {w6 w7 : World} {spb rb sb t L : Nat} {fr fd : Int} (e1 : w7.heap[spb]? = w6.heap[spb]?) (e2 : w7.heap[rb + 2]? = w6.heap[rb + 2]?) (h : w6.cell? ⟨spb, 11, none⟩ = some (.pointer (some ⟨sb, 0, none⟩)) ∧ w6.cell? ⟨spb, 12, none⟩ = some (.int .i32 (t : Int)) ∧ w6.cell? ⟨spb, 13, none⟩ = some (.int .i64 (L : Int)) ∧ w6.cell? ⟨spb, 14, none⟩ = some (.int .i64 fr) ∧ w6.cell? ⟨spb, 15, none⟩ = some (.int .i64 fd) ∧ w6.cell? ⟨rb + 2, 0, none⟩ = some (.int .i64 20) ∧ w6.cell? ⟨rb + 2, 1, none⟩ = some (.int .i64 20) ∧ w6.cell? ⟨rb + 2, 2, none⟩ = some (.slice (some ⟨rb + 1, 0, none⟩) 400 400)) : w7.cell? ⟨spb, 11, none⟩ = some (.pointer (some ⟨sb, 0, none⟩)) ∧ w7.cell? ⟨spb, 12, none⟩ = some (.int .i32 (t : Int)) ∧ w7.cell? ⟨spb, 13, none⟩ = some (.int .i64 (L : Int)) ∧ w7.cell? ⟨spb, 14, none⟩ = some (.int .i64 fr) ∧ w7.cell? ⟨spb, 15, none⟩ = some (.int .i64 fd) ∧ w7.cell? ⟨rb + 2, 0, none⟩ = some (.int .i64 20) ∧ w7.cell? ⟨rb + 2, 1, none⟩ = some (.int .i64 20) ∧ w7.cell? ⟨rb + 2, 2, none⟩ = some (.slice (some ⟨rb + 1, 0, none⟩) 400 400) := by
  obtain ⟨p0, p1, p2, p3, p4, p5, p6, p7⟩ := h
  exact ⟨(World.cell?_of_block (w := w6) (a := ⟨spb, 11, none⟩) e1).trans p0, (World.cell?_of_block (w := w6) (a := ⟨spb, 12, none⟩) e1).trans p1, (World.cell?_of_block (w := w6) (a := ⟨spb, 13, none⟩) e1).trans p2, (World.cell?_of_block (w := w6) (a := ⟨spb, 14, none⟩) e1).trans p3, (World.cell?_of_block (w := w6) (a := ⟨spb, 15, none⟩) e1).trans p4, (World.cell?_of_block (w := w6) (a := ⟨rb + 2, 0, none⟩) e2).trans p5, (World.cell?_of_block (w := w6) (a := ⟨rb + 2, 1, none⟩) e2).trans p6, (World.cell?_of_block (w := w6) (a := ⟨rb + 2, 2, none⟩) e2).trans p7⟩
set_option maxRecDepth 100000 in
set_option maxHeartbeats 12800000 in
theorem cells_any (spb B : Nat) (b s M : Int) (F : Int → Int → Int) (K : Nat) (w : World) (hS : SpA w spb B b s M F K) (x y : Int) (hx : -200 ≤ x ∧ x ≤ 200) (hy : -200 ≤ y ∧ y ≤ 200) (hM : M ≤ 100000) (hT : ∀ V, Below B w V → TzTab V) :
    Calls Tryd.prog 8 #[.pointer (some ⟨spb, 0, none⟩), .int .i64 x, .int .i64 y, .int .i64 20, .int .i64 20] w (CeP F x y w) := by
  obtain ⟨w1, hw1⟩ : ∃ w1, w.alloc (.cells #[.int .i64 0, .int .i64 0, .slice none 0 0] 26) = w1 := ⟨_, rfl⟩
  have HW1 := hide' hw1
  obtain ⟨rb, hrb⟩ : ∃ rb, w.heap.size = rb := ⟨_, rfl⟩
  have HRB := hide' hrb
  have B1 := hide' (show Below w.heap.size w w1 by rw [← hw1]; exact (Below.refl _ _).alloc (Nat.le_refl _) _)
  have R1 := hide' (show w1.heap[rb]? = some (.cells #[.int .i64 0, .int .i64 0, .slice none 0 0] 26 (0, 0)) by rw [← hw1, ← hrb]; exact heap_alloc_new _ _)
  have Z1 := hide' (show w1.heap.size = rb + 1 by rw [← hw1, ← hrb]; simp)
  have HS := hide' hS
  have FA1 := hide' (fun V => isFar_no x V (by omega))
  have FA2 := hide' (fun V => isFar_no y V (by omega))
  have HXY := hide' (And.intro hx (And.intro hy hM))
  have HT := hide' hT
  clear hw1 hrb hS hx hy hM hT
  go_enter Tryd.func8, Tryd.ntmps8
  go_upto_region 1 with fail
  rw [HW1.out, HRB.out]
  go_wp2_with fail
  refine (isSide_20 w1).mono ?_
  rintro e w2 ⟨rfl, rfl⟩
  go_wp2_with fail
  refine (isSide_20 w2).mono ?_
  rintro e w3 ⟨rfl, rfl⟩
  go_wp2_with fail
  refine (FA1.out w3).mono ?_
  rintro e w4 ⟨rfl, rfl⟩
  go_wp2_with fail
  refine (FA2.out w4).mono ?_
  rintro e w5 ⟨rfl, rfl⟩
  have mk := mk_400
  obtain ⟨w6, hw6⟩ : ∃ w6, (w5.alloc (.cells (arrF 400 fun _ => .int .i64 0) 3)).alloc (.cells #[.int .i64 20, .int .i64 20, .slice (some ⟨w5.heap.size, 0, none⟩) 400 400] 26) = w6 := ⟨_, rfl⟩
  have HW6 := hide' hw6
  have C6 := hide' (show WinA w6 (rb + 1) 400 (fun _ => 0) by rw [← hw6]; exact (heap_alloc_old _ _ (by simp [Z1.out])).trans (heap_atX _ _ _ Z1.out.symm))
  have O6 := hide' (show w6.heap[rb + 2]? = some (.cells #[.int .i64 20, .int .i64 20, .slice (some ⟨rb + 1, 0, none⟩) 400 400] 26 (0, 0)) by rw [← hw6, ← Z1.out]; exact heap_atX _ _ _ (by simp [Z1.out]))
  have B6 := hide' (show Below w5.heap.size w5 w6 by rw [← hw6]; exact ((Below.refl _ _).alloc (Nat.le_refl _) _).alloc (by simp) _)
  have R6 := hide' ((B6.out.block _ (lt_of_block R1.out)).trans R1.out)
  have BW := hide' (show Below w.heap.size w w6 from B1.out.trans (B6.out.mono B1.out.size))
  clear hw6
  go_upto_region 4 with fail
  rw [HW6.out]
  try rw [Z1.out]
  obtain ⟨h0, sb, t, L, fr, fd, n, g, cap, qs, kp, h1, h2, h3, h4⟩ := HS.out.below BW.out
  have k0 := h1
  unfold spC at k0
  have s11 := cell_of_row w6 spb 11 _ _ _ k0
  have s12 := cell_of_row w6 spb 12 _ _ _ k0
  have s13 := cell_of_row w6 spb 13 _ _ _ k0
  have s14 := cell_of_row w6 spb 14 _ _ _ k0
  have s15 := cell_of_row w6 spb 15 _ _ _ k0
  have o0 := cell_of_row w6 (rb + 2) 0 _ _ _ O6.out
  have o1 := cell_of_row w6 (rb + 2) 1 _ _ _ O6.out
  have o2 := cell_of_row w6 (rb + 2) 2 _ _ _ O6.out
  simp at s11 s12 s13 s14 s15 o0 o1 o2
  obtain ⟨X0, hX0⟩ : ∃ z, fr - x = z := ⟨_, rfl⟩
  obtain ⟨Y0, hY0⟩ : ∃ z, fd - y = z := ⟨_, rfl⟩
  have hxy := HXY.out
  have a1 : IntKind.i64.wrap X0 = X0 := by simp [IntKind.wrap, IntKind.bits, IntKind.signed]; have := h2.r1; have := h2.r2; have := sideI_pos n; omega
  have a2 : IntKind.i64.wrap Y0 = Y0 := by simp [IntKind.wrap, IntKind.bits, IntKind.signed]; have := h2.d1; have := h2.d2; have := sideI_pos n; omega
  have SC := hide' (show Calls Tryd.prog 18 #[.pointer (some ⟨sb, 0, none⟩), .int .i32 (t : Int), .int .i64 (L : Int), .int .i64 X0, .int .i64 Y0, .agg #[.int .i64 20, .int .i64 20, .slice (some ⟨rb + 1, 0, none⟩) 400 400]] w6.drew (ShO 20 20 (rb + 1) qs n t X0 Y0 (fun _ => 0) w6.drew) from
    show_any n (by have := h2.hi; omega) L sb B g cap qs t X0 Y0 20 20 (rb + 1) (fun _ => 0) w6.drew h2.lev h2.stk.drewS h2.wf (by have := h2.r1; omega) (by have := h2.r2; omega) (by have := h2.d1; omega) (by have := h2.d2; omega) (by omega) (by omega) C6.out (fun V hV => HT.out V ((BW.out.mono HS.out.lt.2).trans ⟨hV.os, hV.tape, hV.output, hV.size, fun k hk => hV.keep k (by show k < w6.heap.size; have := BW.out.size; have := HS.out.lt.2; omega) (by have := HRB.out; have := HS.out.lt.2; omega)⟩)))
  have SA := hide' (And.intro s11 (And.intro s12 (And.intro s13 (And.intro s14 (And.intro s15 (And.intro o0 (And.intro o1 o2)))))))
  have KK := hide' (show ∀ V, KpW (rb + 1) w6.drew V → V.cell? ⟨spb, 11, none⟩ = some (.pointer (some ⟨sb, 0, none⟩)) ∧ V.cell? ⟨spb, 12, none⟩ = some (.int .i32 (t : Int)) ∧ V.cell? ⟨spb, 13, none⟩ = some (.int .i64 (L : Int)) ∧ V.cell? ⟨spb, 14, none⟩ = some (.int .i64 fr) ∧ V.cell? ⟨spb, 15, none⟩ = some (.int .i64 fd) ∧ V.cell? ⟨rb + 2, 0, none⟩ = some (.int .i64 20) ∧ V.cell? ⟨rb + 2, 1, none⟩ = some (.int .i64 20) ∧ V.cell? ⟨rb + 2, 2, none⟩ = some (.slice (some ⟨rb + 1, 0, none⟩) 400 400) from fun V hkw => by
    have hsp := HS.out.lt.1
    have hrb := HRB.out
    have zz : w6.drew.heap.size = rb + 3 := by show w6.heap.size = _; rw [← HW6.out]; simp [Z1.out]
    exact ce_keep (hkw.keep spb (by omega) (by omega)) (hkw.keep (rb + 2) (by omega) (by omega)) SA.out)
  have HV := hide' (And.intro h2.val (And.intro hX0 hY0))
  have LE := hide' (fun u v => val_le (qs := qs) n t u v)
  clear h0 h1 h2 h3 h4 k0 hxy
  go_region_held3 (fun V => V.cell? ⟨spb, 11, none⟩ = some (.pointer (some ⟨sb, 0, none⟩)) ∧ V.cell? ⟨spb, 12, none⟩ = some (.int .i32 (t : Int)) ∧ V.cell? ⟨spb, 13, none⟩ = some (.int .i64 (L : Int)) ∧ V.cell? ⟨spb, 14, none⟩ = some (.int .i64 fr) ∧ V.cell? ⟨spb, 15, none⟩ = some (.int .i64 fd) ∧ V.cell? ⟨rb + 2, 0, none⟩ = some (.int .i64 20) ∧ V.cell? ⟨rb + 2, 1, none⟩ = some (.int .i64 20) ∧ V.cell? ⟨rb + 2, 2, none⟩ = some (.slice (some ⟨rb + 1, 0, none⟩) 400 400)) (first | exact SA.out | exact KW.out | go_keep | fail) (first | (go_at_call 18; refine SC.out.mono ?_; rintro e w7 ⟨gf, rfl, hwin, hsh, hkw⟩; have KW := hide' (KK.out w7 hkw)) | fail)
  have R7 := hide' (show w7.heap[rb]? = some (.cells #[.int .i64 0, .int .i64 0, .slice none 0 0] 26 (0, 0)) from (hkw.keep rb (lt_of_block R6.out) (by omega)).trans R6.out)
  have BB := hide' (show Below w.heap.size w w7 from BW.out.trans ⟨hkw.os, hkw.tape, hkw.output, hkw.size, fun k hk => hkw.keep k (Nat.lt_of_lt_of_le hk BW.out.size) (by have := HRB.out; omega)⟩)
  have WN := hide' hwin
  have GF := hide' (show ∀ u v : Nat, u < 20 → v < 20 → gf (v * 20 + u) = F (x + (u : Int)) (y + (v : Int)) from fun u v hu hv => by
    have h := hsh u v hu hv
    dsimp only at h
    obtain ⟨q1, q2, q3⟩ := HV.out
    have e1 : ((u : Int) - X0) = (x + (u : Int)) - fr := by omega
    have e2 : ((v : Int) - Y0) = (y + (v : Int)) - fd := by omega
    rw [e1, e2, q1] at h
    have le := LE.out ((x + (u : Int)) - fr) ((y + (v : Int)) - fd)
    rw [q1] at le
    by_cases c : F (x + (u : Int)) (y + (v : Int)) = 1
    · rw [h.1 c, c]
    · rw [h.2 c]; show (0 : Int) = _; omega)
  clear o0 o1 o2
  have o := KW.out
  obtain ⟨_, _, _, _, _, o0, o1, o2⟩ := o
  have i0 := cell_of_row w7 rb 0 _ _ _ R7.out
  have i1 := cell_of_row w7 rb 1 _ _ _ R7.out
  have i2 := cell_of_row w7 rb 2 _ _ _ R7.out
  have j0 := frozen_of_row w7 rb 0 _ _ R7.out
  have j1 := frozen_of_row w7 rb 1 _ _ R7.out
  have j2 := frozen_of_row w7 rb 2 _ _ R7.out
  simp at i0 i1 i2
  clear s11 s12 s13 s14 s15 hkw hsh hwin a1 a2 SA HV LE SC mk KK
  go_wp2
  clear i0 i1 i2 j0 j1 j2 o0 o1 o2
  obtain ⟨X, hX⟩ : ∃ X, ((w7.setCell ⟨rb, 0, none⟩ (.int .i64 20)).setCell ⟨rb, 1, none⟩ (.int .i64 20)).setCell ⟨rb, 2, none⟩ (.slice (some ⟨rb + 1, 0, none⟩) 400 400) = X := ⟨_, rfl⟩
  have GX : X.heap[rb]? = some (.cells #[.int .i64 20, .int .i64 20, .slice (some ⟨rb + 1, 0, none⟩) 400 400] 26 (0, 0)) := by
    rw [← hX]
    have h0 := heap_setCell_same w7 rb 0 _ _ (.int .i64 20) R7.out
    have h1 := heap_setCell_same _ rb 1 _ _ (.int .i64 20) h0
    have h2 := heap_setCell_same _ rb 2 _ _ (.slice (some ⟨rb + 1, 0, none⟩) 400 400) h1
    simpa using h2
  have WX : WinA X (rb + 1) 400 gf := by
    rw [← hX]
    exact (Below.heap_setCell _ _ _ _ (by simp)).trans ((Below.heap_setCell _ _ _ _ (by simp)).trans ((Below.heap_setCell _ _ _ _ (by simp)).trans WN.out))
  have BX : Below w.heap.size w X := by
    rw [← hX]
    have := HRB.out
    exact ((BB.out.setCell (by simp; omega) _).setCell (by simp; omega) _).setCell (by simp; omega) _
  rw [hX]
  clear hX
  have i0 := cell_of_row X rb 0 _ _ _ GX
  have i1 := cell_of_row X rb 1 _ _ _ GX
  have i2 := cell_of_row X rb 2 _ _ _ GX
  simp at i0 i1 i2
  refine bodyPost_ret (v := .tuple #[.agg #[.int .i64 20, .int .i64 20, .slice (some ⟨rb + 1, 0, none⟩) 400 400], .nilIface]) (by simp [results, Tryd.results8, go_sem, i0, i1, i2]) rfl ?_
  exact ⟨rb + 1, gf, rfl, WX, GF.out, BX⟩
end Go.Proofs.YtelocgefaommmaaDoor

