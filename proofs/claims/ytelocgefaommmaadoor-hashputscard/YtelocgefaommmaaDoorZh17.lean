/-
  What the last text of this claim leans on, part 17: Hc6, Hc7, Gr5, Gr6, Wb1.
-/
import Derived.Test.YtelocgefaommmaaDoorZh16
import Derived.Test.YtelocgefaommmaaDoorZh7
import Derived.Test.YtelocgefaommmaaDoorZh9
import Derived.OwnWalk
namespace Go.Proofs.YtelocgefaommmaaDoor
open Go.RowKit
set_option linter.unusedVariables false
/-- move's contract at a level. -/
def MoveC (n : Nat) : Prop := ∀ (mb fs gf cf ts Bt gt ct nb N : Nat) (qs rs : List Sq) (nu : Nat → Nat) (t : Nat) (w : World), MvA w mb fs gf cf ts Bt gt ct nb N qs rs nu → Bt ≤ w.heap.size → rs.length + cntQ n ≤ 2000000 → WFQ qs n t →
    Calls Tryd.prog 38 #[.pointer (some ⟨mb, 0, none⟩), .int .i32 (t : Int)] w (MvP mb fs gf cf ts Bt gt nb N qs rs n t w)
theorem MvA.lts {w : World} {mb fs gf cf ts Bt gt ct nb N : Nat} {qs rs : List Sq} {nu : Nat → Nat} (h : MvA w mb fs gf cf ts Bt gt ct nb N qs rs nu) : (mb < w.heap.size ∧ nb < w.heap.size) ∧ (fs < w.heap.size ∧ gf < w.heap.size) ∧ (ts < w.heap.size ∧ gt < w.heap.size) := ⟨⟨lt_of_block h.mov, lt_of_block h.num⟩, h.frm.lt, h.too.lt⟩
theorem MvA.setq {w : World} {mb fs gf cf ts Bt gt ct nb N : Nat} {qs rs : List Sq} {nu : Nat → Nat} (h : MvA w mb fs gf cf ts Bt gt ct nb N qs rs nu) {q i : Nat} (h1 : q ≠ mb) (h2 : q ≠ nb) (h3 : q ≠ fs) (h4 : q ≠ gf) (h5 : q ≠ ts) (h6 : q ≠ gt) (v : Value) : MvA (w.setCell ⟨q, i, none⟩ v) mb fs gf cf ts Bt gt ct nb N qs rs nu :=
  ⟨(Below.heap_setCell _ _ _ _ (fun e => h1 e.symm)).trans h.mov, h.frm.set h3 h4 v, h.too.set h5 h6 v, (Below.heap_setCell _ _ _ _ (fun e => h2 e.symm)).trans h.num, h.len, h.fb, h.mem⟩
theorem six_set {p : Nat → Nat} {i v : Nat} (hi : i < 4) (a b : Value) : (#[Value.int .i32 (p 0 : Int), .int .i32 (p 1 : Int), .int .i32 (p 2 : Int), .int .i32 (p 3 : Int), a, b]).setIfInBounds i (.int .i32 (v : Int)) = #[.int .i32 (((fun j => if j = i then v else p j) 0 : Nat) : Int), .int .i32 (((fun j => if j = i then v else p j) 1 : Nat) : Int), .int .i32 (((fun j => if j = i then v else p j) 2 : Nat) : Int), .int .i32 (((fun j => if j = i then v else p j) 3 : Nat) : Int), a, b] := by
  have : i = 0 ∨ i = 1 ∨ i = 2 ∨ i = 3 := by omega
  rcases this with rfl | rfl | rfl | rfl <;> rfl
theorem six_get {p : Nat → Nat} {i : Nat} (hi : i < 4) (a b : Value) : (#[Value.int .i32 (p 0 : Int), .int .i32 (p 1 : Int), .int .i32 (p 2 : Int), .int .i32 (p 3 : Int), a, b])[i]? = some (.int .i32 (p i : Int)) := by
  have : i = 0 ∨ i = 1 ∨ i = 2 ∨ i = 3 := by omega
  rcases this with rfl | rfl | rfl | rfl <;> rfl
def mvY (ts nb qb : Nat) (k : Nat) : Prop := k = ts ∨ k = nb ∨ k = qb
set_option maxRecDepth 100000 in
set_option maxHeartbeats 12800000 in
theorem move_four (n : Nat) (ih : MoveC n) (mb fs gf cf ts Bt gt ct nb N : Nat) (qs rs : List Sq) (nu : Nat → Nat) (t : Nat) (w : World) (h : MvA w mb fs gf cf ts Bt gt ct nb N qs rs nu) (hB : Bt ≤ w.heap.size) (hl : rs.length + cntQ (n + 1) ≤ 2000000) (hw : WFQ qs (n + 1) t) (t0 : t ≠ 0) (hz : nu t = 0) :
    Calls Tryd.prog 38 #[.pointer (some ⟨mb, 0, none⟩), .int .i32 (t : Int)] w (MvP mb fs gf cf ts Bt gt nb N qs rs (n + 1) t w) := by
  have HK := hide' h
  have HW := hide' hw
  have HT0 := hide' t0
  have lt := hw.lt h.frm.st
  obtain ⟨q0, q1, q2, q3, q4, q5⟩ := h.frm.cells lt
  have hk0 : (sqA qs t).k = 0 := by
    rcases hw with e | e
    · exact absurd e t0
    · exact e.2.1
  obtain ⟨p0, hp0⟩ : ∃ v, (sqA qs t).a = v := ⟨_, rfl⟩
  obtain ⟨p1, hp1⟩ : ∃ v, (sqA qs t).b = v := ⟨_, rfl⟩
  obtain ⟨p2, hp2⟩ : ∃ v, (sqA qs t).c = v := ⟨_, rfl⟩
  obtain ⟨p3, hp3⟩ : ∃ v, (sqA qs t).d = v := ⟨_, rfl⟩
  obtain ⟨l, hll⟩ : ∃ v, (sqA qs t).l = v := ⟨_, rfl⟩
  rw [hp0] at q0
  rw [hp1] at q1
  rw [hp2] at q2
  rw [hp3] at q3
  rw [hk0] at q4
  rw [hll] at q5
  have HPP := hide' (And.intro hp0 (And.intro hp1 (And.intro hp2 hp3)))
  have m0 := cell_of_row w mb 0 _ _ _ h.mov
  have m2 := cell_of_row w mb 2 _ _ _ h.mov
  rw [← h.len] at lt
  have nt := (cell_of_row w nb t _ _ _ h.num).trans (arrF_get _ lt)
  have s0 := cell_of_row w fs 0 _ _ _ h.frm.blk
  rw [← h.len] at s0
  rw [hz] at nt
  simp at m0 m2 nt s0 q4
  have z0 : ((t : Int) == 0) = false := by simp; omega
  have l1 : (t : Int) < (N : Int) := by omega
  obtain ⟨w1, hw1⟩ : ∃ w1, w.alloc (.cells #[.int .i32 (p0 : Int), .int .i32 (p1 : Int), .int .i32 (p2 : Int), .int .i32 (p3 : Int), .int .u64 0, .int .i64 l] 80) = w1 := ⟨_, rfl⟩
  obtain ⟨qb, hqb⟩ : ∃ qb, w.heap.size = qb := ⟨_, rfl⟩
  have HW1 := hide' hw1
  have HQB := hide' hqb
  have Z1 := hide' (show w1.heap.size = qb + 1 by rw [← hw1, ← hqb]; simp)
  have B1 := hide' (show Below w.heap.size w w1 by rw [← hw1]; exact (Below.refl _ _).alloc (Nat.le_refl _) _)
  have A1 := hide' (h.keep B1.out)
  have X1 := hide' (show w1.heap[qb]? = some (.cells #[.int .i32 (p0 : Int), .int .i32 (p1 : Int), .int .i32 (p2 : Int), .int .i32 (p3 : Int), .int .u64 0, .int .i64 l] 80 (0, 0)) by rw [← hw1, ← hqb]; exact heap_alloc_new _ _)
  have HB := hide' (Nat.le_trans hB B1.out.size)
  have HL := hide' hl
  have LN := hide' lt
  have LTS := hide' h.lts
  have IX := hide' (fun (i : Nat) (hi : i < 4) (V : World) => index_p4 (a := p0) (b := p1) (c := p2) (d := p3) hi V)
  clear h hw t0 hz hk0 hp0 hp1 hp2 hp3 hll lt hw1 hqb hB hl
  go_enter Tryd.func38, Tryd.ntmps38
  go_upto_region 4 with fail
  rw [HW1.out, HQB.out]
  clear q0 q1 q2 q3 q4 q5 m0 m2 nt s0
  have x0 := cell_of_row w1 qb 0 _ _ _ X1.out
  have x1 := cell_of_row w1 qb 1 _ _ _ X1.out
  have x2 := cell_of_row w1 qb 2 _ _ _ X1.out
  have x3 := cell_of_row w1 qb 3 _ _ _ X1.out
  have x4 := cell_of_row w1 qb 4 _ _ _ X1.out
  simp at x0 x1 x2 x3 x4
  go_wp2
  clear x0 x1 x2 x3 x4
  go_loopw [62] (fun iv wr => ∃ (i : Nat) (p : Nat → Nat) (g' cap' : Nat) (rs' : List Sq) (nu' : Nat → Nat), iv = .int .i64 (i : Int) ∧ i ≤ 4 ∧ Hid (MvA wr mb fs gf cf ts Bt g' cap' nb N qs rs' nu') ∧ Hid (∃ ms, rs' = rs ++ ms ∧ ms.length ≤ i * cntQ n) ∧ Hid (wr.heap[qb]? = some (.cells #[.int .i32 (p 0 : Int), .int .i32 (p 1 : Int), .int .i32 (p 2 : Int), .int .i32 (p 3 : Int), .int .u64 0, .int .i64 l] 80 (0, 0))) ∧ Hid (∀ j, j < 4 → (j < i → WFQ rs' n (p j) ∧ ∀ x y, valQ rs' n (p j) x y = valQ qs n (p4 p0 p1 p2 p3 j) x y) ∧ (i ≤ j → p j = p4 p0 p1 p2 p3 j)) ∧ Hid (KpX (mvY ts nb qb) gt g' w1 wr)) (fun iv _ => 4 - (intOf iv).toNat)
  case atStart => exact ⟨0, p4 p0 p1 p2 p3, gt, ct, rs, nu, rfl, by omega, A1, hide' ⟨[], by simp, by simp⟩, X1, hide' (fun j hj => ⟨fun h => absurd h (by omega), fun _ => rfl⟩), hide' (KpX.of_below (Below.refl _ _))⟩
  case round =>
    obtain ⟨i, p, g', cap', rs', nu', rfl, hi, KR, HMS, HG, HLY, HKP⟩ := hrel
    have GN := hide' (show g' ≠ qb by have := HKP.out.new; have := Z1.out; have := LTS.out.2.2.2; have := HQB.out; omega)
    by_cases di : i < 4
    · have d1 : (i : Int) < 4 := by omega
      have ix := IX.out i di
      obtain ⟨pt, hpt⟩ : ∃ t, p4 p0 p1 p2 p3 i = t := ⟨_, rfl⟩
      rw [hpt] at ix
      have HPT := hide' hpt
      clear hpt
      go_wp2_with fail
      have ws := HW.out.parts HK.out.frm.st
      have wpt : WFQ qs n pt := by
        rw [← HPT.out]; unfold p4
        rw [← HPP.out.1, ← HPP.out.2.1, ← HPP.out.2.2.1, ← HPP.out.2.2.2]
        split; exact ws.1; split; exact ws.2.1; split; exact ws.2.2.1; exact ws.2.2.2
      obtain ⟨ms, ems, lms⟩ := HMS.out
      refine (ih mb fs gf cf ts Bt g' cap' nb N qs rs' nu' pt wr KR.out (Nat.le_trans HB.out HKP.out.size) ?_ wpt).mono ?_
      · have h1 := HL.out
        rw [show cntQ (n + 1) = 4 * cntQ n + 1 from rfl] at h1
        rw [ems, List.length_append]
        have : i * cntQ n ≤ 3 * cntQ n := Nat.mul_le_mul_right _ (by omega)
        omega
      rintro e w4 ⟨g2, cap2, rs2, nu2, t2, rfl, hs, ⟨m2, em2, lm2⟩, hq, hv, hk⟩
      have szq : qb < wr.heap.size := lt_of_block HG.out
      have gp := hk.keep qb szq (fun e => by
        have := LTS.out; have := HQB.out
        rcases e with e | e <;> omega) (fun e => GN.out e.symm)
      have G4 := hide' (gp.trans HG.out)
      have g2n : g2 ≠ qb := by have := hk.new; have := GN.out; omega
      have f4 := frozen_of_row w4 qb i _ _ G4.out
      have r4 := (cell_of_row w4 qb i _ _ _ G4.out).trans (six_get di _ _)
      have N1 := hide' (show MvA (w4.setCell ⟨qb, i, none⟩ (.int .i32 (t2 : Int))) mb fs gf cf ts Bt g2 cap2 nb N qs rs2 nu2 from hs.setq (by have := LTS.out; have := HQB.out; omega) (by have := LTS.out; have := HQB.out; omega) (by have := LTS.out; have := HQB.out; omega) (by have := LTS.out; have := HQB.out; omega) (by have := LTS.out; have := HQB.out; omega) (fun e => g2n e.symm) _)
      have N2 := hide' (show ∃ ms, rs2 = rs ++ ms ∧ ms.length ≤ (i + 1) * cntQ n from ⟨ms ++ m2, by rw [em2, ems, List.append_assoc], by rw [List.length_append, Nat.succ_mul]; omega⟩)
      have N3 := hide' (show (w4.setCell ⟨qb, i, none⟩ (.int .i32 (t2 : Int))).heap[qb]? = _ from (heap_setCell_same _ _ _ _ _ _ G4.out).trans (by rw [six_set di]))
      have N4 := hide' (show ∀ j, j < 4 → (j < i + 1 → WFQ rs2 n ((fun j => if j = i then t2 else p j) j) ∧ ∀ x y, valQ rs2 n ((fun j => if j = i then t2 else p j) j) x y = valQ qs n (p4 p0 p1 p2 p3 j) x y) ∧ (i + 1 ≤ j → (fun j => if j = i then t2 else p j) j = p4 p0 p1 p2 p3 j) from fun j hj => by
        by_cases e : j = i
        · subst e
          refine ⟨fun _ => ?_, fun h => absurd h (by omega)⟩
          simp only [if_true]
          rw [HPT.out]
          exact ⟨hq, hv⟩
        · simp only [if_neg e]
          refine ⟨fun h => ?_, fun h => (HLY.out j hj).2 (by omega)⟩
          obtain ⟨a1, a2⟩ := (HLY.out j hj).1 (by omega)
          rw [em2]
          exact ⟨a1.app m2, fun x y => by rw [a1.val KR.out.too.st]; exact a2 x y⟩)
      have N5 := hide' (show KpX (mvY ts nb qb) gt g2 w1 (w4.setCell ⟨qb, i, none⟩ (.int .i32 (t2 : Int))) from (HKP.out.trans (hk.weak (fun k e => by rcases e with e | e; exact Or.inl e; exact Or.inr (Or.inl e)))).set (show mvY ts nb qb qb from Or.inr (Or.inr rfl)) _)
      clear gp hs hq hv hk em2 lm2 ems lms ws wpt szq g2n
      go_wp2
      exact ⟨⟨i + 1, _, g2, cap2, rs2, nu2, by go_num, by omega, N1, N2, N3, N4, N5⟩, by simp [intOf]; omega⟩
    · have d1 : ¬ (i : Int) < 4 := by omega
      obtain rfl : i = 4 := by omega
      obtain ⟨v0, hv0⟩ : ∃ v, p 0 = v := ⟨_, rfl⟩
      obtain ⟨v1, hv1⟩ : ∃ v, p 1 = v := ⟨_, rfl⟩
      obtain ⟨v2, hv2⟩ : ∃ v, p 2 = v := ⟨_, rfl⟩
      obtain ⟨v3, hv3⟩ : ∃ v, p 3 = v := ⟨_, rfl⟩
      have L0 := hide' ((HLY.out 0 (by omega)).1 (by omega))
      have L1 := hide' ((HLY.out 1 (by omega)).1 (by omega))
      have L2 := hide' ((HLY.out 2 (by omega)).1 (by omega))
      have L3 := hide' ((HLY.out 3 (by omega)).1 (by omega))
      rw [hv0] at L0 HG
      rw [hv1] at L1 HG
      rw [hv2] at L2 HG
      rw [hv3] at L3 HG
      clear hv0 hv1 hv2 hv3
      have r0 := cell_of_row wr qb 0 _ _ _ HG.out
      have r1 := cell_of_row wr qb 1 _ _ _ HG.out
      have r2 := cell_of_row wr qb 2 _ _ _ HG.out
      have r3 := cell_of_row wr qb 3 _ _ _ HG.out
      have m1 := cell_of_row wr mb 1 _ _ _ KR.out.mov
      have m2 := cell_of_row wr mb 2 _ _ _ KR.out.mov
      simp at r0 r1 r2 r3 m1 m2
      obtain ⟨ms, ems, lms⟩ := HMS.out
      have EM := hide' (And.intro ems lms)
      have QL := hide' (show rs'.length ≤ 2000000 by
        have h1 := HL.out
        rw [show cntQ (n + 1) = 4 * cntQ n + 1 from rfl] at h1
        rw [ems, List.length_append]; omega)
      clear ems lms
      have EC := hide' (join_stk ts Bt g' cap' rs' v0 v1 v2 v3 qb 4 wr.drew KR.out.too.drewS (Nat.le_trans HB.out HKP.out.size) QL.out (L0.out.1.lt KR.out.too.st) (L1.out.1.lt KR.out.too.st) (L2.out.1.lt KR.out.too.st) (L3.out.1.lt KR.out.too.st) r0 r1 r2 r3)
      go_upto_region 12 with fail
      go_region_with (go_at_call 37; refine EC.out.mono ?_; rintro e w4 ⟨g2, cap2, rs2, t2, rfl, hs, hj, hk⟩; have y2 : w4.cell? ⟨mb, 2, none⟩ = some (.slice (some ⟨nb, 0, none⟩) N N) := (World.cell?_of_block (a := ⟨mb, 2, none⟩) (hk.keep mb (lt_of_block KR.out.mov) KR.out.apart.1.1 KR.out.apart.1.2.1)).trans m2; have hnb := (hk.keep nb (lt_of_block KR.out.num) KR.out.apart.2.2.2.1 KR.out.apart.2.2.2.2).trans KR.out.num; have y3 := (cell_of_row w4 nb t _ _ _ hnb).trans (arrF_get _ LN.out); have y4 := frozen_of_row w4 nb t _ _ hnb)
      all_goals
        have FIN := hide' (show MvP mb fs gf cf ts Bt gt nb N qs rs (n + 1) t w (.returned (.int .i32 (t2 : Int))) (w4.setCell ⟨nb, t, none⟩ (.int .i32 (t2 : Int))) from by
          obtain ⟨m2', e1, e2⟩ := hj.app
          have hv : ∀ x y, valQ rs2 (n + 1) t2 x y = valQ qs (n + 1) t x y := fun x y => by
            rw [hj.val KR.out.too.st L0.out.1 L1.out.1 L2.out.1 L3.out.1, val_step, L0.out.2, L1.out.2, L2.out.2, L3.out.2, HPP.out.1, HPP.out.2.1, HPP.out.2.2.1, HPP.out.2.2.2]
            rfl
          have hwf := hj.wf KR.out.too.st L0.out.1 L1.out.1 L2.out.1 L3.out.1
          have kx : KpX (fun k => k = ts) g' g2 wr w4 := KpX.of_kps hk.drewL rfl
          have ky : KpX (mvY ts nb qb) gt g2 w1 (w4.setCell ⟨nb, t, none⟩ (.int .i32 (t2 : Int))) := (HKP.out.trans (kx.weak (fun k e => Or.inl e))).set (show mvY ts nb qb nb from Or.inr (Or.inl rfl)) _
          refine ⟨g2, cap2, rs2, _, t2, rfl, KR.out.grown hs kx (fun k e => Or.inl e) e1 HT0.out HW.out hwf hv, ⟨ms ++ m2', by rw [e1, EM.out.1, List.append_assoc], by rw [List.length_append, show cntQ (n + 1) = 4 * cntQ n + 1 from rfl]; have := EM.out.2; omega⟩, hwf, hv, ?_⟩
          refine ⟨ky.os.trans B1.out.os, ky.tape.trans B1.out.tape, ky.output.trans B1.out.output, Nat.le_trans B1.out.size ky.size, fun k hk1 hk2 hk3 => ?_, ?_⟩
          · have := HQB.out
            exact (ky.keep k (by have := B1.out.size; omega) (fun e => by rcases e with e | e | e; exact hk2 (Or.inl e); exact hk2 (Or.inr e); omega) hk3).trans (B1.out.block k hk1)
          · rcases ky.new with e | e
            · exact Or.inl e
            · exact Or.inr (Nat.le_trans B1.out.size e))
        clear hs hj hk hnb
        have a3 : ¬ mb = nb := KR.out.apart.1.2.2
        have a4 : ¬ nb = mb := fun e => KR.out.apart.1.2.2 e.symm
        go_wp2
        go_ret
        exact FIN.out
theorem move_any : ∀ n, MoveC n
  | 0 => by
    intro mb fs gf cf ts Bt gt ct nb N qs rs nu t w h hB hl hw
    by_cases t0 : t = 0
    · subst t0; exact move_zero mb fs gf cf ts Bt gt ct nb N qs rs nu 0 w h
    · by_cases hz : nu t = 0
      · exact move_eight mb fs gf cf ts Bt gt ct nb N qs rs nu t w h hB (by omega) hw t0 hz
      · exact move_known mb fs gf cf ts Bt gt ct nb N qs rs nu 0 t w h hw t0 hz
  | n + 1 => by
    intro mb fs gf cf ts Bt gt ct nb N qs rs nu t w h hB hl hw
    by_cases t0 : t = 0
    · subst t0; exact move_zero mb fs gf cf ts Bt gt ct nb N qs rs nu (n + 1) w h
    · by_cases hz : nu t = 0
      · exact move_four n (move_any n) mb fs gf cf ts Bt gt ct nb N qs rs nu t w h hB hl hw t0 hz
      · exact move_known mb fs gf cf ts Bt gt ct nb N qs rs nu (n + 1) t w h hw t0 hz
end Go.Proofs.YtelocgefaommmaaDoor

namespace Go.Proofs.YtelocgefaommmaaDoor
open Go.RowKit
set_option linter.unusedVariables false
theorem StkA.weakB {w : World} {sb B B' g cap : Nat} {qs : List Sq} (h : StkA w sb B g cap qs) (hb : B' ≤ B) : StkA w sb B' g cap qs := ⟨h.blk, by
  refine ⟨h.row.1, ?_⟩
  rcases h.row.2 with h1 | ⟨g', cap', cur, e, h2, r⟩
  · exact Or.inl h1
  · exact Or.inr ⟨g', cap', cur, e, Nat.le_trans hb h2, r⟩, Nat.le_trans hb h.le, h.st⟩
theorem st_nil : StQ [zQ] := ⟨by simp, rfl, rfl, rfl, rfl, rfl⟩
def NwP (w : World) (e : Ending) (w' : World) : Prop := ∃ sb g, e = .returned (.pointer (some ⟨sb, 0, none⟩)) ∧ StkA w' sb w.heap.size g 1 [zQ] ∧ Below w.heap.size w w'
theorem mk_sq (w : World) : (Instr.makeSlice 65 (.int .i64 1) (.int .i64 1)).run Tryd.prog w = .ok (.slice (some ⟨w.heap.size, 0, none⟩) 1 1) (w.alloc (bxQ zQ)) := by kernel_rfl
set_option maxRecDepth 100000 in
set_option maxHeartbeats 3200000 in
theorem newStock_any (w : World) : Calls Tryd.prog 22 #[] w (NwP w) := by
  have mk := mk_sq w
  obtain ⟨w1, hw1⟩ : ∃ w1, w.alloc (bxQ zQ) = w1 := ⟨_, rfl⟩
  rw [hw1] at mk
  have Z1 := hide' (show w1.heap.size = w.heap.size + 1 by rw [← hw1]; simp)
  have G1 := hide' (show w1.heap[w.heap.size]? = some (bxQ zQ) by rw [← hw1]; exact heap_alloc_new _ _)
  have B1 := hide' (show Below w.heap.size w w1 by rw [← hw1]; exact (Below.refl _ _).alloc (Nat.le_refl _) _)
  have FIN := hide' (show NwP w (.returned (.pointer (some ⟨w1.heap.size, 0, none⟩))) (w1.alloc (.cells #[.slice (some ⟨w.heap.size, 0, none⟩) 1 1, .map none, .map none] 69)) from
    ⟨w1.heap.size, w.heap.size, rfl, ⟨heap_alloc_new _ _, ⟨rfl, Or.inr ⟨w.heap.size, 1, _, rfl, Nat.le_refl _, (heap_alloc_old _ _ (by have := Z1.out; omega)).trans G1.out, Nat.le_refl _, by unfold maxLen; omega, rfl, rfl⟩⟩, by have := Z1.out; omega, st_nil⟩, B1.out.alloc B1.out.size _⟩)
  clear hw1
  go_enter Tryd.func22, Tryd.ntmps22
  go_wp2
  go_ret
  exact FIN.out
def EmP (w : World) (e : Ending) (w' : World) : Prop := ∃ sb g, e = .returned (.agg #[.pointer (some ⟨sb, 0, none⟩), .int .i32 0, .int .i64 4, .int .i64 0, .int .i64 0]) ∧ StkA w' sb w.heap.size g 1 [zQ] ∧ Below w.heap.size w w'
theorem five_stored {w : World} {g : Nat} {x0 x1 x2 x3 x4 : Value} {t : TypeId} (h : w.heap[g]? = some (.cells #[x0, x1, x2, x3, x4] t (0, 0))) (a b c d e : Value) :
    (((((w.setCell ⟨g, 0, none⟩ a).setCell ⟨g, 1, none⟩ b).setCell ⟨g, 2, none⟩ c).setCell ⟨g, 3, none⟩ d).setCell ⟨g, 4, none⟩ e).heap[g]? = some (.cells #[a, b, c, d, e] t (0, 0)) := by
  have h0 : (w.setCell ⟨g, 0, none⟩ a).heap[g]? = some (.cells #[a, x1, x2, x3, x4] t (0, 0)) := by rw [heap_setCell_same _ _ _ _ _ _ h]; rfl
  have h1 : ((w.setCell ⟨g, 0, none⟩ a).setCell ⟨g, 1, none⟩ b).heap[g]? = some (.cells #[a, b, x2, x3, x4] t (0, 0)) := by rw [heap_setCell_same _ _ _ _ _ _ h0]; rfl
  have h2 : (((w.setCell ⟨g, 0, none⟩ a).setCell ⟨g, 1, none⟩ b).setCell ⟨g, 2, none⟩ c).heap[g]? = some (.cells #[a, b, c, x3, x4] t (0, 0)) := by rw [heap_setCell_same _ _ _ _ _ _ h1]; rfl
  have h3 : ((((w.setCell ⟨g, 0, none⟩ a).setCell ⟨g, 1, none⟩ b).setCell ⟨g, 2, none⟩ c).setCell ⟨g, 3, none⟩ d).heap[g]? = some (.cells #[a, b, c, d, x4] t (0, 0)) := by rw [heap_setCell_same _ _ _ _ _ _ h2]; rfl
  rw [heap_setCell_same _ _ _ _ _ _ h3]; rfl
theorem five_else {w : World} {g k : Nat} (hk : k ≠ g) (x0 x1 x2 x3 x4 : Value) : (((((w.setCell ⟨g, 0, none⟩ x0).setCell ⟨g, 1, none⟩ x1).setCell ⟨g, 2, none⟩ x2).setCell ⟨g, 3, none⟩ x3).setCell ⟨g, 4, none⟩ x4).heap[k]? = w.heap[k]? := by
  rw [Below.heap_setCell _ _ _ _ (by simpa using hk), Below.heap_setCell _ _ _ _ (by simpa using hk), Below.heap_setCell _ _ _ _ (by simpa using hk), Below.heap_setCell _ _ _ _ (by simpa using hk), Below.heap_setCell _ _ _ _ (by simpa using hk)]
theorem five_below {B : Nat} {a w : World} (h : Below B a w) {g : Nat} (hg : B ≤ g) (x0 x1 x2 x3 x4 : Value) : Below B a (((((w.setCell ⟨g, 0, none⟩ x0).setCell ⟨g, 1, none⟩ x1).setCell ⟨g, 2, none⟩ x2).setCell ⟨g, 3, none⟩ x3).setCell ⟨g, 4, none⟩ x4) :=
  ((((h.setCell hg _).setCell hg _).setCell hg _).setCell hg _).setCell hg _
set_option maxRecDepth 100000 in
set_option maxHeartbeats 3200000 in
theorem emptyField_any (w : World) : Calls Tryd.prog 12 #[] w (EmP w) := by
  obtain ⟨w1, hw1⟩ : ∃ w1, w.alloc (.cells #[.pointer none, .int .i32 0, .int .i64 0, .int .i64 0, .int .i64 0] 56) = w1 := ⟨_, rfl⟩
  have HW1 := hide' hw1
  have Z1 := hide' (show w1.heap.size = w.heap.size + 1 by rw [← hw1]; simp)
  have G1 := hide' (show w1.heap[w.heap.size]? = some (.cells #[.pointer none, .int .i32 0, .int .i64 0, .int .i64 0, .int .i64 0] 56 (0, 0)) by rw [← hw1]; exact heap_alloc_new _ _)
  have B1 := hide' (show Below w.heap.size w w1 by rw [← hw1]; exact (Below.refl _ _).alloc (Nat.le_refl _) _)
  clear hw1
  go_enter Tryd.func12, Tryd.ntmps12
  go_upto_region 1 with fail
  rw [HW1.out]
  go_wp2_with fail
  refine (newStock_any w1).mono ?_
  rintro e w2 ⟨sb, g, rfl, hs, b⟩
  have G2 := (b.block _ (lt_of_block G1.out)).trans G1.out
  have c0 := cell_of_row w2 _ 0 _ _ _ G2
  have c1 := cell_of_row w2 _ 1 _ _ _ G2
  have c2 := cell_of_row w2 _ 2 _ _ _ G2
  have c3 := cell_of_row w2 _ 3 _ _ _ G2
  have c4 := cell_of_row w2 _ 4 _ _ _ G2
  have f0 := frozen_of_row w2 _ 0 _ _ G2
  have f1 := frozen_of_row w2 _ 1 _ _ G2
  have f2 := frozen_of_row w2 _ 2 _ _ G2
  have f3 := frozen_of_row w2 _ 3 _ _ G2
  have f4 := frozen_of_row w2 _ 4 _ _ G2
  simp at c0 c1 c2 c3 c4
  have GG := hide' G2
  have HS := hide' hs
  have BB := hide' b
  clear hs b G2
  go_wp2
  obtain ⟨X, hX⟩ : ∃ X, ((((w2.setCell ⟨w.heap.size, 0, none⟩ (.pointer (some ⟨sb, 0, none⟩))).setCell ⟨w.heap.size, 1, none⟩ (.int .i32 0)).setCell ⟨w.heap.size, 2, none⟩ (.int .i64 4)).setCell ⟨w.heap.size, 3, none⟩ (.int .i64 0)).setCell ⟨w.heap.size, 4, none⟩ (.int .i64 0) = X := ⟨_, rfl⟩
  have GX : X.heap[w.heap.size]? = some (.cells #[.pointer (some ⟨sb, 0, none⟩), .int .i32 0, .int .i64 4, .int .i64 0, .int .i64 0] 56 (0, 0)) := by rw [← hX]; exact five_stored GG.out _ _ _ _ _
  have nz := HS.out.le
  have ng := HS.out.rowB.1
  have z1 := Z1.out
  have SX : StkA X sb w.heap.size g 1 [zQ] := by
    rw [← hX]
    exact (HS.out.weakB (by omega)).keep (five_else (by omega) _ _ _ _ _) (five_else (by omega) _ _ _ _ _)
  have BX : Below w.heap.size w X := by
    rw [← hX]
    exact five_below (B1.out.trans (BB.out.mono (by omega))) (Nat.le_refl _) _ _ _ _ _
  rw [hX]
  clear hX c0 c1 c2 c3 c4 f0 f1 f2 f3 f4
  have i0 := cell_of_row X _ 0 _ _ _ GX
  have i1 := cell_of_row X _ 1 _ _ _ GX
  have i2 := cell_of_row X _ 2 _ _ _ GX
  have i3 := cell_of_row X _ 3 _ _ _ GX
  have i4 := cell_of_row X _ 4 _ _ _ GX
  simp at i0 i1 i2 i3 i4
  refine bodyPost_ret (v := .agg #[.pointer (some ⟨sb, 0, none⟩), .int .i32 0, .int .i64 4, .int .i64 0, .int .i64 0]) (by simp [results, Tryd.results12, go_sem, i0, i1, i2, i3, i4]) rfl ?_
  exact ⟨sb, g, rfl, SX, BX⟩
end Go.Proofs.YtelocgefaommmaaDoor

namespace Go.Proofs.YtelocgefaommmaaDoor
open Go.RowKit
set_option linter.unusedVariables false
end Go.Proofs.YtelocgefaommmaaDoor

namespace Go.Proofs.YtelocgefaommmaaDoor
open Go.RowKit
set_option linter.unusedVariables false
end Go.Proofs.YtelocgefaommmaaDoor

namespace Go.Proofs.YtelocgefaommmaaDoor
open Go.RowKit
set_option linter.unusedVariables false

/-- The pattern mirrored; turned by a quarter (as wide as it was high). -/
def mirP (W H : Nat) (xs : List Int) : List Int := (List.range (W * H)).map fun q => xs.getD (q / W * W + (W - 1 - q % W)) 0
def qtrP (W H : Nat) (xs : List Int) : List Int := (List.range (H * W)).map fun q => xs.getD ((H - 1 - q % H) * W + q / H) 0
theorem mk_lt {W H x y : Nat} (hx : x < W) (hy : y < H) : y * W + x < W * H := by
  have := Nat.mul_le_mul_right W (show y + 1 ≤ H by omega)
  rw [Nat.add_mul, Nat.mul_comm H W] at this
  omega
/-- At block g a list of n ints of the call's own; what stands at f i, for i below k, is xs' i-th. -/
structure ScJ (w0 w : World) (g n k : Nat) (f : Nat → Nat) (xs : List Int) : Prop where
  below : Below w0.heap.size w0 w
  ge : w0.heap.size ≤ g
  lt : g < w.heap.size
  cells : ∀ j, j < n → ∃ v, w.cell? ⟨g, j, none⟩ = some v ∧ (∀ i, i < k → f i = j → v = .int .i64 (xs.getD i 0))
  fz : ∀ j, w.frozen? ⟨g, j, none⟩ = false
theorem ScJ.start {w0 w : World} {g n : Nat} (f : Nat → Nat) (xs ys : List Int) (hb : Below w0.heap.size w0 w) (hg : w0.heap.size ≤ g) (hc : Cel w g ys) (hn : ys.length = n) : ScJ w0 w g n 0 f xs :=
  ⟨hb, hg, hc.lt, fun j hj => ⟨_, hc.cells j (by omega), fun i hi => by omega⟩, hc.fz⟩
theorem ScJ.cel {w0 w : World} {g n : Nat} {f fi : Nat → Nat} {xs : List Int} (h : ScJ w0 w g n n f xs) (h1 : ∀ j, j < n → fi j < n) (h2 : ∀ j, j < n → f (fi j) = j) : Cel w g ((List.range n).map fun j => xs.getD (fi j) 0) := by
  refine ⟨h.lt, fun k hk => ?_, h.fz⟩
  simp only [List.length_map, List.length_range] at hk
  obtain ⟨v, hv, hv'⟩ := h.cells k hk
  rw [hv, hv' (fi k) (h1 k hk) (h2 k hk)]
  simp [List.getD, hk]
end Go.Proofs.YtelocgefaommmaaDoor

