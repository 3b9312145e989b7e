/-
  What the last text of this claim leans on, part 26: Hp1, Hp2.
-/
import Derived.Test.YtemhcpldflcfbaaGreatDoorYf21
import Derived.Test.YtemhcpldflcfbaaGreatDoorYf25
import Derived.Test.YtemhcpldflcfbaaGreatDoorYf11
namespace Go.Proofs.YtemhcpldflcfbaaGreatDoor
open Go.RowKit
set_option linter.unusedVariables false
def ptF (W H : Nat) (xs : List Int) (r0 d0 : Int) (u v : Int) : Int := if inP W H (u - r0) (v - d0) then cellF W xs (u - r0) (v - d0) else 0
structure LzI (w wr : World) (B sb gq fb W H : Nat) (a : Option Addr) (m c : Nat) (r0 d0 : Int) (Q t L : Nat) (fr fd : Int) (n g cap : Nat) (qs : List Sq) : Prop where
 box : wr.heap[fb]? = some (.cells #[.pointer (some ⟨sb, 0, none⟩), .int .i32 (t : Int), .int .i64 (L : Int), .int .i64 fr, .int .i64 fd] 72 (0, 0))
 pat : wr.heap[fb + 1]? = some (.cells #[.int .i64 (W : Int), .int .i64 (H : Int), .slice a m c] 26 (0, 0))
 res : wr.heap[fb + 2]? = some (.cells #[.pointer none, .int .i32 0, .int .i64 0, .int .i64 0, .int .i64 0] 72 (0, 0))
 stk : StkA wr sb B g cap qs
 wf : WFQ qs n t
 lev : L = n + 3
 one : 1 ≤ n
 low : n ≤ 5
 cr : 2 * fr + sideI n = 2 * r0 + 16
 cd : 2 * fd + sideI n = 2 * d0 + 16
 val : ∀ u v, valQ qs n t (u - fr) (v - fd) = 0
 len : qs.length ≤ Q + 5 * n
 kps : KpS sb gq g w wr
set_option maxRecDepth 100000 in
set_option maxHeartbeats 12800000 in
theorem laid_empty (B sb : Nat) (fr0 fd0 M0 : Int) (n0 g cap : Nat) (qs : List Sq) (w : World) (h : FldA w B sb 0 4 fr0 fd0 M0 (fun _ _ => 0) n0 g cap qs) (W H : Nat) (xs : List Int) (a : Option Addr) (m c : Nat) (r0 d0 : Int) (hr : -1000000000000 ≤ r0 ∧ r0 ≤ 1000000000000) (hd : -1000000000000 ≤ d0 ∧ d0 ≤ 1000000000000) (hW : 1 ≤ W ∧ W ≤ 100) (hH : 1 ≤ H ∧ H ≤ 100) (hP : ∀ V, Below B w V → ArgP V xs a m c) (hm : xs.length = W * H) (hb : ∀ i, 0 ≤ xs.getD i 0 ∧ xs.getD i 0 ≤ 1) (hB : B ≤ w.heap.size) (hq : qs.length ≤ 100) :
  Calls Tryz.prog 26 #[.agg #[.pointer (some ⟨sb, 0, none⟩), .int .i32 0, .int .i64 4, .int .i64 fr0, .int .i64 fd0], .agg #[.int .i64 (W : Int), .int .i64 (H : Int), .slice a m c], .int .i64 r0, .int .i64 d0] w (TrM none B 1000000001000 (ptF W H xs r0 d0) 3000 sb g w) := by
 obtain ⟨w2, hw2⟩ : ∃ w2, ((w.alloc (.cells #[.pointer (some ⟨sb, 0, none⟩), .int .i32 0, .int .i64 4, .int .i64 fr0, .int .i64 fd0] 72)).alloc (.cells #[.int .i64 (W : Int), .int .i64 (H : Int), .slice a m c] 26)).alloc (.cells #[.pointer none, .int .i32 0, .int .i64 0, .int .i64 0, .int .i64 0] 72) = w2 := ⟨_, rfl⟩
 obtain ⟨fb, hfbb⟩ : ∃ fb, w.heap.size = fb := ⟨_, rfl⟩
 have HW2 := hide' hw2
 have HFB := hide' hfbb
 have B2 := hide' (show Below w.heap.size w w2 by rw [← hw2]; exact (((Below.refl _ _).alloc (Nat.le_refl _) _).alloc (by simp) _).alloc (by simp; omega) _)
 have F2 := hide' (show w2.heap[fb]? = some (.cells #[.pointer (some ⟨sb, 0, none⟩), .int .i32 0, .int .i64 4, .int .i64 fr0, .int .i64 fd0] 72 (0, 0)) by rw [← hw2, ← hfbb]; exact (heap_alloc_old _ _ (by simp; omega)).trans ((heap_alloc_old _ _ (by simp)).trans (heap_alloc_new w _)))
 have P2 := hide' (show w2.heap[fb + 1]? = some (.cells #[.int .i64 (W : Int), .int .i64 (H : Int), .slice a m c] 26 (0, 0)) by rw [← hw2]; exact (heap_alloc_old _ _ (by simp [hfbb])).trans (heap_atX _ _ _ (by simp [hfbb])))
 have R2 := hide' (show w2.heap[fb + 2]? = some (.cells #[.pointer none, .int .i32 0, .int .i64 0, .int .i64 0, .int .i64 0] 72 (0, 0)) by rw [← hw2]; exact heap_atX _ _ _ (by simp [hfbb]))
 have S2 := hide' (h.stk.below B2.out)
 have HH := hide' (And.intro hr (And.intro hd (And.intro hW (And.intro hH (And.intro hP (And.intro hm (And.intro hb (And.intro hB hq))))))))
 have HSB := hide' (And.intro h.stk.le h.stk.rowB.1)
 obtain rfl : n0 = 1 := by have := h.lev; omega
 have WV := hide' (And.intro h.wf (fun u v => show valQ qs 1 0 (u - r0) (v - d0) = 0 from val_nil h.stk.st 1 _ _))
 have f1 := cell_of_row w2 fb 1 _ _ _ F2.out
 have f3 := cell_of_row w2 fb 3 _ _ _ F2.out
 have f4 := cell_of_row w2 fb 4 _ _ _ F2.out
 have v3 := frozen_of_row w2 fb 3 _ _ F2.out
 have v4 := frozen_of_row w2 fb 4 _ _ F2.out
 simp at f1 f3 f4
 obtain ⟨w3, hw3⟩ : ∃ x, (w2.setCell ⟨fb, 3, none⟩ (.int .i64 r0)).setCell ⟨fb, 4, none⟩ (.int .i64 d0) = x := ⟨_, rfl⟩
 have HW3 := hide' hw3
 obtain ⟨gq, hgq⟩ : ∃ x, g = x := ⟨_, rfl⟩
 have I3 := hide' (show LzI w w3 B sb g fb W H a m c r0 d0 100 0 4 r0 d0 1 g cap qs from by
  have n1 := S2.out.ne_four F2.out (by decide) (by decide)
  have e : ∀ q, q ≠ fb → w3.heap[q]? = w2.heap[q]? := fun q hq => by rw [← hw3, Below.heap_setCell _ _ _ _ (by simpa using hq), Below.heap_setCell _ _ _ _ (by simpa using hq)]
  have b3 : w3.heap[fb]? = some (.cells #[.pointer (some ⟨sb, 0, none⟩), .int .i32 0, .int .i64 4, .int .i64 r0, .int .i64 d0] 72 (0, 0)) := by
   rw [← hw3]
   have h0 : (w2.setCell ⟨fb, 3, none⟩ (.int .i64 r0)).heap[fb]? = some (.cells #[.pointer (some ⟨sb, 0, none⟩), .int .i32 0, .int .i64 4, .int .i64 r0, .int .i64 fd0] 72 (0, 0)) := by rw [heap_setCell_same _ _ _ _ _ _ F2.out]; rfl
   rw [heap_setCell_same _ _ _ _ _ _ h0]; rfl
  have qf : w.heap.size ≤ fb := by omega
  refine ⟨b3, (e _ (by omega)).trans P2.out, (e _ (by omega)).trans R2.out, S2.out.keep (e _ (fun q => n1.1 q.symm)) (e _ (fun q => n1.2 q.symm)), WV.out.1, rfl, by omega, by omega, by rw [show sideI 1 = 16 by decide], by rw [show sideI 1 = 16 by decide], WV.out.2, by have := HH.out.2.2.2.2.2.2.2.2; omega, ?_⟩
  rw [← hw3]
  exact ((KpS.of_below B2.out).set qf _).set qf _)
 clear hw2 hfbb h hr hd hW hH hP hm hb hB hq hw3 hgq
 go_enter Tryz.func26, Tryz.ntmps26
 go_upto_region 1 with fail
 rw [HW2.out, HFB.out]
 go_upto_region 3 with fail
 rw [HW3.out]
 clear f1 f3 f4 v3 v4
 go_loopw [16] (fun _ wr => ∃ (t L : Nat) (fr fd : Int) (n g' cap : Nat) (qs : List Sq), Hid (LzI w wr B sb g fb W H a m c r0 d0 100 t L fr fd n g' cap qs)) (fun _ wr => 40 - levW fb wr)
 case atStart => exact ⟨0, 4, r0, d0, 1, g, cap, qs, I3⟩
 case round =>
  obtain ⟨t', L', fr', fd', n', g', cap', qs', HI⟩ := hrel
  have sp := sideI_pos n'
  have s256 : sideI n' ≤ 256 := by
   have := sideI_mono (a := n') (b := 5) HI.out.low
   rw [show sideI 5 = 256 by decide] at this
   exact this
  have GEO := hide' (show (-1000000000500 ≤ fr' ∧ fr' ≤ 1000000000500) ∧ (-1000000000500 ≤ fd' ∧ fd' ≤ 1000000000500) by
   have := HI.out.cr
   have := HI.out.cd
   have := HH.out.1
   have := HH.out.2.1
   omega)
  have SD := hide' (And.intro sp s256)
  have ONE := hide' (show hasB n' fr' fd' r0 d0 = true from decide_eq_true (by
   have := HI.out.cr
   have := HI.out.cd
   have o := HI.out.one
   have := sideI_mono (a := 1) (b := n') o
   rw [show sideI 1 = 16 by decide] at this
   omega))
  have geo := GEO.out
  have rd := And.intro HH.out.1 (And.intro HH.out.2.1 (And.intro HH.out.2.2.1 HH.out.2.2.2.1))
  have HA1 := hide' (has_any n' L' sb (t' : Int) fr' fd' r0 d0 wr HI.out.lev (by have := HI.out.low; omega) (by omega) (by omega) (by omega) (by omega))
  rw [ONE.out] at HA1
  obtain ⟨u1, hu1⟩ : ∃ u1, r0 + (W : Int) - 1 = u1 := ⟨_, rfl⟩
  obtain ⟨v1, hv1⟩ : ∃ v1, d0 + (H : Int) - 1 = v1 := ⟨_, rfl⟩
  have HA2 := hide' (fun (V : World) => has_any n' L' sb (t' : Int) fr' fd' u1 v1 V HI.out.lev (by have := HI.out.low; omega) (by omega) (by omega) (by omega) (by omega))
  obtain ⟨ru, hru⟩ : ∃ ru, r0 + (W : Int) = ru := ⟨_, rfl⟩
  obtain ⟨rv, hrv⟩ : ∃ rv, d0 + (H : Int) = rv := ⟨_, rfl⟩
  have e1 : wrap64 (r0 + (W : Int)) = ru := by rw [hru]; unfold wrap64; omega
  have e2 : wrap64 (ru - 1) = u1 := by unfold wrap64; omega
  have e3 : wrap64 (d0 + (H : Int)) = rv := by rw [hrv]; unfold wrap64; omega
  have e4 : wrap64 (rv - 1) = v1 := by unfold wrap64; omega
  have HUV := hide' (And.intro hu1 hv1)
  clear geo rd hu1 hv1 hru hrv sp s256
  have c0 := cell_of_row wr fb 0 _ _ _ HI.out.box
  have c1 := cell_of_row wr fb 1 _ _ _ HI.out.box
  have c2 := cell_of_row wr fb 2 _ _ _ HI.out.box
  have c3 := cell_of_row wr fb 3 _ _ _ HI.out.box
  have c4 := cell_of_row wr fb 4 _ _ _ HI.out.box
  simp at c0 c1 c2 c3 c4
  go_wp2_with fail
  refine HA1.out.mono ?_
  rintro e w4 ⟨rfl, b4⟩
  have B4 := hide' b4
  have x4 := (b4.block _ (lt_of_block HI.out.box)).trans HI.out.box
  have y4 := (b4.block _ (lt_of_block HI.out.pat)).trans HI.out.pat
  clear c0 c1 c2 c3 c4 b4
  have c0 := cell_of_row w4 fb 0 _ _ _ x4
  have c1 := cell_of_row w4 fb 1 _ _ _ x4
  have c2 := cell_of_row w4 fb 2 _ _ _ x4
  have c3 := cell_of_row w4 fb 3 _ _ _ x4
  have c4 := cell_of_row w4 fb 4 _ _ _ x4
  have p0 := cell_of_row w4 (fb + 1) 0 _ _ _ y4
  have p1 := cell_of_row w4 (fb + 1) 1 _ _ _ y4
  simp at c0 c1 c2 c3 c4 p0 p1
  clear x4 y4
  go_wp2_with fail
  refine (HA2.out w4).mono ?_
  rintro e w5 ⟨rfl, b5⟩
  have B5 := hide' (B4.out.trans (b5.mono B4.out.size))
  have x5 := (B5.out.block _ (lt_of_block HI.out.box)).trans HI.out.box
  have y5 := (B5.out.block _ (lt_of_block HI.out.pat)).trans HI.out.pat
  clear c0 c1 c2 c3 c4 b5 p0 p1
  have c0 := cell_of_row w5 fb 0 _ _ _ x5
  have c1 := cell_of_row w5 fb 1 _ _ _ x5
  have c2 := cell_of_row w5 fb 2 _ _ _ x5
  have c3 := cell_of_row w5 fb 3 _ _ _ x5
  have c4 := cell_of_row w5 fb 4 _ _ _ x5
  have p0 := cell_of_row w5 (fb + 1) 0 _ _ _ y5
  have p1 := cell_of_row w5 (fb + 1) 1 _ _ _ y5
  have p2 := cell_of_row w5 (fb + 1) 2 _ _ _ y5
  simp at c0 c1 c2 c3 c4 p0 p1 p2
  have n1 := HI.out.stk.ne_four HI.out.box (by decide) (by decide)
  have n2 := HI.out.stk.ne_four HI.out.pat (by decide) (by decide)
  have n3 := HI.out.stk.ne_four HI.out.res (by decide) (by decide)
  have NF := hide' (And.intro n1 (And.intro n2 n3))
  clear x5 y5 n1 n2 n3
  cases h2 : hasB n' fr' fd' u1 v1 with
  | false =>
   have FAR := hide' (of_decide_eq_false h2)
   obtain ⟨q, rfl⟩ : ∃ q, n' = q + 1 := ⟨n' - 1, by have := HI.out.one; omega⟩
   have LOW := hide' (show q + 2 ≤ 5 by
    refine Classical.byContradiction fun hc => ?_
    have e5 : q + 1 = 5 := by have := HI.out.low; omega
    have f := FAR.out
    have c1 := HI.out.cr
    have c2 := HI.out.cd
    have uv := HUV.out
    have wh := And.intro HH.out.2.2.1 HH.out.2.2.2.1
    rw [e5, show sideI 5 = 256 by decide] at f c1 c2
    omega)
   obtain ⟨L1, hL1⟩ : ∃ L1, q + 5 = L1 := ⟨_, rfl⟩
   obtain ⟨fr2, hfr2⟩ : ∃ z, fr' - sideI q = z := ⟨_, rfl⟩
   obtain ⟨fd2, hfd2⟩ : ∃ z, fd' - sideI q = z := ⟨_, rfl⟩
   have PAD := hide' (padded_any none B sb t' L' fr' fd' (fun _ _ => 0) q g' cap' qs' w5 (HI.out.stk.below B5.out) HI.out.wf (by have := HI.out.lev; omega) (by have := LOW.out; omega) HI.out.val (by have := GEO.out; omega) (by have := GEO.out; omega) (by have := B5.out.size; have := HI.out.kps.size; have := HH.out.2.2.2.2.2.2.2.1; omega) (by have := HI.out.len; have := LOW.out; omega) L1 hL1.symm fr2 fd2 hfr2.symm hfd2.symm)
   have HLF := hide' (And.intro hL1.symm (And.intro hfr2.symm hfd2.symm))
   clear h2 p0 p1 p2 e1 e2 e3 e4 hL1 hfr2 hfd2
   go_wp2_with fail
   refine PAD.out.mono ?_
   rintro e w6 ⟨t2, g2, cap2, qs2, rfl, s1, s2, s3, s4, s5⟩
   have X6 := hide' ((s5.keep fb (Nat.lt_of_lt_of_le (lt_of_block HI.out.box) B5.out.size) NF.out.1.1 NF.out.1.2).trans ((B5.out.block _ (lt_of_block HI.out.box)).trans HI.out.box))
   have z0 := cell_of_row w6 fb 0 _ _ _ X6.out
   have z1 := cell_of_row w6 fb 1 _ _ _ X6.out
   have z2 := cell_of_row w6 fb 2 _ _ _ X6.out
   have z3 := cell_of_row w6 fb 3 _ _ _ X6.out
   have z4 := cell_of_row w6 fb 4 _ _ _ X6.out
   have q0' := frozen_of_row w6 fb 0 _ _ X6.out
   have q1' := frozen_of_row w6 fb 1 _ _ X6.out
   have q2' := frozen_of_row w6 fb 2 _ _ X6.out
   have q3' := frozen_of_row w6 fb 3 _ _ X6.out
   have q4' := frozen_of_row w6 fb 4 _ _ X6.out
   simp at z0 z1 z2 z3 z4
   obtain ⟨X, hX⟩ : ∃ X, ((((w6.setCell ⟨fb, 0, none⟩ (.pointer (some ⟨sb, 0, none⟩))).setCell ⟨fb, 1, none⟩ (.int .i32 (t2 : Int))).setCell ⟨fb, 2, none⟩ (.int .i64 (L1 : Int))).setCell ⟨fb, 3, none⟩ (.int .i64 fr2)).setCell ⟨fb, 4, none⟩ (.int .i64 fd2) = X := ⟨_, rfl⟩
   have FN := hide' (show LzI w X B sb g fb W H a m c r0 d0 100 t2 L1 fr2 fd2 (q + 1 + 1) g2 cap2 qs2 ∧ 40 - levW fb X < 40 - levW fb wr from by
    have k2 := (s5.keep (fb + 1) (Nat.lt_of_lt_of_le (lt_of_block HI.out.pat) B5.out.size) NF.out.2.1.1 NF.out.2.1.2).trans ((B5.out.block _ (lt_of_block HI.out.pat)).trans HI.out.pat)
    have k3 := (s5.keep (fb + 2) (Nat.lt_of_lt_of_le (lt_of_block HI.out.res) B5.out.size) NF.out.2.2.1 NF.out.2.2.2).trans ((B5.out.block _ (lt_of_block HI.out.res)).trans HI.out.res)
    have m1 := s1.ne_four X6.out (by decide) (by decide)
    have qf : w.heap.size ≤ fb := by have := HFB.out; omega
    have hl := HLF.out
    have sn1 := sideI_next q
    have sn2 := sideI_next (q + 1)
    have eX : X.heap[fb]? = some (.cells #[.pointer (some ⟨sb, 0, none⟩), .int .i32 (t2 : Int), .int .i64 (L1 : Int), .int .i64 fr2, .int .i64 fd2] 72 (0, 0)) := by rw [← hX]; exact five_stored X6.out _ _ _ _ _
    refine ⟨⟨eX, by rw [← hX]; exact (five_else (by omega) _ _ _ _ _).trans k2, by rw [← hX]; exact (five_else (by omega) _ _ _ _ _).trans k3, by rw [← hX]; exact s1.keep (five_else (fun e => m1.1 e.symm) _ _ _ _ _) (five_else (fun e => m1.2 e.symm) _ _ _ _ _), s2, by omega, by omega, LOW.out, by have := HI.out.cr; omega, by have := HI.out.cd; omega, s3, by have := HI.out.len; omega, ?_⟩, ?_⟩
    ·rw [← hX]
     exact (((((HI.out.kps.trans ((KpS.of_below B5.out).trans s5)).set qf _).set qf _).set qf _).set qf _).set qf _
    ·rw [levW_of eX, levW_of HI.out.box]
     have := HI.out.lev
     have := LOW.out
     omega)
   have HX := hide' hX
   clear s1 s2 s3 s4 s5 hX c0 c1 c2 c3 c4
   go_wp2
   rw [HX.out]
   exact ⟨⟨t2, L1, fr2, fd2, q + 1 + 1, g2, cap2, qs2, hide' FN.out.1⟩, FN.out.2⟩
  | true =>
   have IN := hide' (of_decide_eq_true h2)
   obtain ⟨X0, hX0⟩ : ∃ x, fr' - r0 = x := ⟨_, rfl⟩
   obtain ⟨Y0, hY0⟩ : ∃ x, fd' - d0 = x := ⟨_, rfl⟩
   have XYB := hide' (show (-600 ≤ X0 ∧ X0 ≤ 600) ∧ (-600 ≤ Y0 ∧ Y0 ≤ 600) by have := HI.out.cr; have := HI.out.cd; have := SD.out; omega)
   have g1 : wrap64 (fr' - r0) = X0 := by rw [hX0]; have := XYB.out; unfold wrap64; omega
   have g2 : wrap64 (fd' - d0) = Y0 := by rw [hY0]; have := XYB.out; unfold wrap64; omega
   have XY := hide' (And.intro hX0 hY0)
   have CN := hide' (show cntQ n' ≤ 1400 by
    have : n' = 0 ∨ n' = 1 ∨ n' = 2 ∨ n' = 3 ∨ n' = 4 ∨ n' = 5 := by have := HI.out.low; omega
    rcases this with e | e | e | e | e | e <;> rw [e] <;> decide)
   have BW := hide' (show Below B w w5 from (HI.out.kps.below HSB.out.1 HSB.out.2 HH.out.2.2.2.2.2.2.2.1).trans (B5.out.mono (Nat.le_trans HH.out.2.2.2.2.2.2.2.1 HI.out.kps.size)))
   have LY := hide' (lay_any n' (by have := HI.out.low; omega) L' sb B g' cap' qs' t' X0 Y0 W H xs a m c w5 HI.out.lev (HI.out.stk.below B5.out) (Nat.le_trans HH.out.2.2.2.2.2.2.2.1 BW.out.size) (by have := CN.out; have := HI.out.len; have := HI.out.low; omega) HI.out.wf (by have := XYB.out; omega) (by have := XYB.out; have := SD.out; omega) (by have := XYB.out; omega) (by have := XYB.out; have := SD.out; omega) HH.out.2.2.1.2 HH.out.2.2.2.1.2 (fun V hV => HH.out.2.2.2.2.1 V (BW.out.trans hV)) HH.out.2.2.2.2.2.1 HH.out.2.2.2.2.2.2.1)
   clear h2 e1 e2 e3 e4 hX0 hY0
   go_wp2_with fail
   rw [g1, g2]
   refine LY.out.mono ?_
   rintro e w6 ⟨g6, cap6, qs6, t6, rfl, hs, ⟨ms, em, lm⟩, hlq, hkp⟩
   have kb := (hkp.keep fb (Nat.lt_of_lt_of_le (lt_of_block HI.out.box) B5.out.size) NF.out.1.1 NF.out.1.2).trans ((B5.out.block _ (lt_of_block HI.out.box)).trans HI.out.box)
   have kr := (hkp.keep (fb + 2) (Nat.lt_of_lt_of_le (lt_of_block HI.out.res) B5.out.size) NF.out.2.2.1 NF.out.2.2.2).trans ((B5.out.block _ (lt_of_block HI.out.res)).trans HI.out.res)
   have m1 := hs.ne_four kb (by decide) (by decide)
   obtain ⟨w7, hw7⟩ : ∃ x, w6.setCell ⟨fb, 1, none⟩ (.int .i32 (t6 : Int)) = x := ⟨_, rfl⟩
   have qf : w.heap.size ≤ fb := by have := HFB.out; omega
   have e7 : w7.heap[fb]? = some (.cells #[.pointer (some ⟨sb, 0, none⟩), .int .i32 (t6 : Int), .int .i64 (L' : Int), .int .i64 fr', .int .i64 fd'] 72 (0, 0)) := by rw [← hw7, heap_setCell_same _ _ _ _ _ _ kb]; rfl
   have r7 : w7.heap[fb + 2]? = some (.cells #[.pointer none, .int .i32 0, .int .i64 0, .int .i64 0, .int .i64 0] 72 (0, 0)) := by rw [← hw7]; exact (Below.heap_setCell _ _ _ _ (by show fb + 2 ≠ fb; omega)).trans kr
   have S7 := hide' (show StkA w7 sb B g6 cap6 qs6 by rw [← hw7]; exact hs.set m1.1 m1.2 _)
   have K7 := hide' (show KpS sb g g6 w w7 by rw [← hw7]; exact (HI.out.kps.trans ((KpS.of_below B5.out).trans hkp)).set qf _)
   have E7 := hide' (And.intro e7 r7)
   have QL := hide' (show qs6.length ≤ 1600 by have := CN.out; have := HI.out.len; have := HI.out.low; rw [em, List.length_append]; omega)
   have FA := hide' (show FldA w7 B sb t6 L' fr' fd' 1000000001000 (ptF W H xs r0 d0) n' g6 cap6 qs6 from by
    have geo := GEO.out
    have sd := SD.out
    refine ⟨S7.out, hlq.wf, HI.out.lev, HI.out.one, by have := HI.out.low; omega, by omega, by omega, by omega, by omega, fun u v => ?_⟩
    have x1 : X0 + (u - fr') = u - r0 := by have := XY.out.1; omega
    have y1 : Y0 + (v - fd') = v - d0 := by have := XY.out.2; omega
    have uv := HUV.out
    have inn := IN.out
    have cr := HI.out.cr
    have cd := HI.out.cd
    unfold ptF
    by_cases ip : inP W H (u - r0) (v - d0)
    ·rw [if_pos ip, ← x1, ← y1]
     have ip2 := ip
     unfold inP at ip2
     have o := sideI_mono (a := 1) (b := n') HI.out.one
     rw [show sideI 1 = 16 by decide] at o
     exact hlq.on (u - fr') (v - fd') (by omega) (by omega) (by omega) (by omega) (by rw [x1, y1]; exact ip)
    ·rw [if_neg ip, ← HI.out.val u v]
     exact hlq.off (u - fr') (v - fd') (by rw [x1, y1]; exact ip))
   have d1' := cell_of_row w6 fb 1 _ _ _ kb
   have f1' := frozen_of_row w6 fb 1 _ _ kb
   simp at d1'
   have HW7 := hide' hw7
   clear hs em lm hlq hkp kb kr m1 hw7 e7 r7 c0 c1 c2 c3 c4 p0 p1 p2 g1 g2 qf
   go_upto_region 6 with fail
   rw [HW7.out]
   clear d1' f1'
   have c0 := cell_of_row w7 fb 0 _ _ _ E7.out.1
   have c1 := cell_of_row w7 fb 1 _ _ _ E7.out.1
   have c2 := cell_of_row w7 fb 2 _ _ _ E7.out.1
   have c3 := cell_of_row w7 fb 3 _ _ _ E7.out.1
   have c4 := cell_of_row w7 fb 4 _ _ _ E7.out.1
   simp at c0 c1 c2 c3 c4
   go_wp2_with fail
   refine (trimmed_any none B sb t6 L' fr' fd' 1000000001000 (ptF W H xs r0 d0) n' g6 cap6 qs6 w7 FA.out (by omega) (by omega) (Nat.le_trans HH.out.2.2.2.2.2.2.2.1 K7.out.size) (by have := QL.out; have := HI.out.low; omega)).mono ?_
   rintro e w8 ⟨sb8, t8, L8, fr8, fd8, n8, g8, cap8, qs8, mp8, rfl, hf8, hl8, hb8, hk8, tg8, hm8⟩
   obtain rfl : mp8 = none := by rcases hm8 with e | e <;> exact e
   have n3 := S7.out.ne_four E7.out.2 (by decide) (by decide)
   have r8 := (hk8.keep (fb + 2) (lt_of_block E7.out.2) n3.1 n3.2).trans E7.out.2
   have z0 := cell_of_row w8 (fb + 2) 0 _ _ _ r8
   have z1 := cell_of_row w8 (fb + 2) 1 _ _ _ r8
   have z2 := cell_of_row w8 (fb + 2) 2 _ _ _ r8
   have z3 := cell_of_row w8 (fb + 2) 3 _ _ _ r8
   have z4 := cell_of_row w8 (fb + 2) 4 _ _ _ r8
   have v0 := frozen_of_row w8 (fb + 2) 0 _ _ r8
   have v1' := frozen_of_row w8 (fb + 2) 1 _ _ r8
   have v2 := frozen_of_row w8 (fb + 2) 2 _ _ r8
   have v3 := frozen_of_row w8 (fb + 2) 3 _ _ r8
   have v4 := frozen_of_row w8 (fb + 2) 4 _ _ r8
   simp at z0 z1 z2 z3 z4
   have H8 := hide' (And.intro hf8 (And.intro hl8 (And.intro hb8 (And.intro hk8 (And.intro r8 tg8)))))
   clear hf8 hl8 hb8 hk8 r8 n3 c0 c1 c2 c3 c4 tg8 hm8
   go_wp2
   obtain ⟨X, hX⟩ : ∃ X, ((((w8.setCell ⟨fb + 2, 0, none⟩ (.pointer (some ⟨sb8, 0, none⟩))).setCell ⟨fb + 2, 1, none⟩ (.int .i32 (t8 : Int))).setCell ⟨fb + 2, 2, none⟩ (.int .i64 (L8 : Int))).setCell ⟨fb + 2, 3, none⟩ (.int .i64 fr8)).setCell ⟨fb + 2, 4, none⟩ (.int .i64 fd8) = X := ⟨_, rfl⟩
   have GX : X.heap[fb + 2]? = some (.cells #[.pointer (some ⟨sb8, 0, none⟩), .int .i32 (t8 : Int), .int .i64 (L8 : Int), .int .i64 fr8, .int .i64 fd8] 72 (0, 0)) := by rw [← hX]; exact five_stored H8.out.2.2.2.2.1 _ _ _ _ _
   have rn := H8.out.1.stk.ne_four H8.out.2.2.2.2.1 (by decide) (by decide)
   have SX : StkA X sb8 B g8 cap8 qs8 := by
    rw [← hX]
    exact H8.out.1.stk.keep (five_else (fun e => rn.1 e.symm) _ _ _ _ _) (five_else (fun e => rn.2 e.symm) _ _ _ _ _)
   have hfb := And.intro HFB.out HH.out.2.2.2.2.2.2.2.1
   have BX : Below B w X := by
    rw [← hX]
    exact five_belowH ((K7.out.below HSB.out.1 HSB.out.2 HH.out.2.2.2.2.2.2.2.1).trans H8.out.2.2.1) (by omega) _ _ _ _ _
   have KX : KpF sb g w X := by
    have k8 := H8.out.2.2.2.1
    refine ⟨by rw [← hX]; exact k8.os.trans K7.out.os, by rw [← hX]; exact k8.tape.trans K7.out.tape, by rw [← hX]; exact k8.output.trans K7.out.output, BX.size, fun k q1 q2 q3 _ => ?_⟩
    rw [← hX]
    refine (five_else (by omega) _ _ _ _ _).trans ((k8.keep k (Nat.lt_of_lt_of_le q1 K7.out.size) q2 ?_).trans (K7.out.keep k q1 q2 q3))
    rcases K7.out.new with e | e <;> omega
   rw [hX]
   clear hX z0 z1 z2 z3 z4 v0 v1' v2 v3 v4
   have i0 := cell_of_row X _ 0 _ _ _ GX
   have i1 := cell_of_row X _ 1 _ _ _ GX
   have i2 := cell_of_row X _ 2 _ _ _ GX
   have i3 := cell_of_row X _ 3 _ _ _ GX
   have i4 := cell_of_row X _ 4 _ _ _ GX
   simp at i0 i1 i2 i3 i4
   refine bodyPost_ret (v := .agg #[.pointer (some ⟨sb8, 0, none⟩), .int .i32 (t8 : Int), .int .i64 (L8 : Int), .int .i64 fr8, .int .i64 fd8]) (by simp [results, Tryz.results26, go_sem, i0, i1, i2, i3, i4]) rfl ?_
   have f8 := H8.out.1
   exact ⟨sb8, t8, L8, fr8, fd8, n8, g8, cap8, qs8, none, rfl, ⟨SX, f8.wf, f8.lev, f8.one, f8.hi, f8.r1, f8.r2, f8.d1, f8.d2, f8.val⟩, by have := H8.out.2.1; have := QL.out; have := HI.out.low; omega, BX, KX, H8.out.2.2.2.2.2, Or.inr rfl⟩
def spD (b s o : Int) (tv pt : Value) (t L : Int) (fr fd kp : Int) : Obj := .cells #[.int .i64 1, .int .i64 b, .int .i64 s, .int .i64 0, .int .i64 0, .slice none 0 0, .string ⟨#[]⟩, .int .u32 o, .int .i32 0, .int .u32 0, tv, pt, .int .i32 t, .int .i64 L, .int .i64 fr, .int .i64 fd, .int .i64 kp] 74 (0, 0)
def SpB (w : World) (spb B : Nat) (b s o : Int) (tv : Value) (M : Int) (F : Int → Int → Int) (K : Nat) : Prop :=
 B ≤ spb ∧ ∃ (sb t L : Nat) (fr fd : Int) (n g cap : Nat) (qs : List Sq) (kp : Nat), w.heap[spb]? = some (spD b s o tv (.pointer (some ⟨sb, 0, none⟩)) t L fr fd kp) ∧ FldA w B sb t L fr fd M F n g cap qs ∧ TgtF n F ∧ qs.length ≤ K ∧ kp ≤ K
def KeQ (spb B : Nat) (b s o : Int) (tv : Value) (M : Int) (F : Int → Int → Int) (K : Nat) (w : World) (e : Ending) (w' : World) : Prop := e = .returned (.tuple #[]) ∧ SpB w' spb B b s o tv M F K ∧ Below B w w'
theorem sq_set {w : World} {spb : Nat} {b s o : Int} {tv pt pt2 : Value} {t L fr fd kp t2 L2 fr2 fd2 : Int} (h : w.heap[spb]? = some (spD b s o tv pt t L fr fd kp)) :
  (((((w.setCell ⟨spb, 11, none⟩ pt2).setCell ⟨spb, 12, none⟩ (.int .i32 t2)).setCell ⟨spb, 13, none⟩ (.int .i64 L2)).setCell ⟨spb, 14, none⟩ (.int .i64 fr2)).setCell ⟨spb, 15, none⟩ (.int .i64 fd2)).heap[spb]? = some (spD b s o tv pt2 t2 L2 fr2 fd2 kp) := by
 unfold spD at *
 have h0 := heap_setCell_same w spb 11 _ _ pt2 h
 have h1 := heap_setCell_same _ spb 12 _ _ (.int .i32 t2) h0
 have h2 := heap_setCell_same _ spb 13 _ _ (.int .i64 L2) h1
 have h3 := heap_setCell_same _ spb 14 _ _ (.int .i64 fr2) h2
 have h4 := heap_setCell_same _ spb 15 _ _ (.int .i64 fd2) h3
 rw [h4]; rfl
theorem sq_kept {w : World} {spb : Nat} {b s o : Int} {tv pt : Value} {t L fr fd kp kp2 : Int} (h : w.heap[spb]? = some (spD b s o tv pt t L fr fd kp)) : (w.setCell ⟨spb, 16, none⟩ (.int .i64 kp2)).heap[spb]? = some (spD b s o tv pt t L fr fd kp2) := by
 unfold spD at *
 rw [heap_setCell_same w spb 16 _ _ (.int .i64 kp2) h]; rfl
theorem five_othQ {w : World} {g k : Nat} (hk : k ≠ g) (o1 o2 o3 o4 o5 : Nat) (x0 x1 x2 x3 x4 : Value) : (((((w.setCell ⟨g, o1, none⟩ x0).setCell ⟨g, o2, none⟩ x1).setCell ⟨g, o3, none⟩ x2).setCell ⟨g, o4, none⟩ x3).setCell ⟨g, o5, none⟩ x4).heap[k]? = w.heap[k]? := by
 rw [Below.heap_setCell _ _ _ _ (by simpa using hk), Below.heap_setCell _ _ _ _ (by simpa using hk), Below.heap_setCell _ _ _ _ (by simpa using hk), Below.heap_setCell _ _ _ _ (by simpa using hk), Below.heap_setCell _ _ _ _ (by simpa using hk)]
set_option maxRecDepth 100000 in
set_option maxHeartbeats 12800000 in
theorem keep_new (mp : Option (Nat × Nat)) (spb B sb t L : Nat) (b s o : Int) (tv pt : Value) (t1 L1 fr1 fd1 kp1 : Int) (fr fd M : Int) (F : Int → Int → Int) (n g cap : Nat) (qs : List Sq) (w : World) (hs : w.heap[spb]? = some (spD b s o tv pt t1 L1 fr1 fd1 kp1)) (h : FldA w B sb t L fr fd M F n g cap qs mp) (h16 : 16 ≤ M) (hM : M ≤ 144115188075855872) (hB : B ≤ spb) (hl : qs.length + n ≤ 1900000) (K : Nat) (hK : 1 + (qs.length + n) ≤ K) :
  Calls Tryz.prog 20 #[.pointer (some ⟨spb, 0, none⟩), .agg #[.pointer (some ⟨sb, 0, none⟩), .int .i32 (t : Int), .int .i64 (L : Int), .int .i64 fr, .int .i64 fd]] w (KeQ spb B b s o tv M F K w) := by
 obtain ⟨w2, hw2⟩ : ∃ w2, w.alloc (.cells #[.pointer (some ⟨sb, 0, none⟩), .int .i32 (t : Int), .int .i64 (L : Int), .int .i64 fr, .int .i64 fd] 72) = w2 := ⟨_, rfl⟩
 have HW2 := hide' hw2
 have B2 := hide' (show Below w.heap.size w w2 by rw [← hw2]; exact (Below.refl _ _).alloc (Nat.le_refl _) _)
 have F2 := hide' (show w2.heap[w.heap.size]? = some (.cells #[.pointer (some ⟨sb, 0, none⟩), .int .i32 (t : Int), .int .i64 (L : Int), .int .i64 fr, .int .i64 fd] 72 (0, 0)) by rw [← hw2]; exact heap_alloc_new _ _)
 have S2 := hide' ((B2.out.block _ (lt_of_block hs)).trans hs)
 have A2 := hide' (show FldA w2 B sb t L fr fd M F n g cap qs mp from ⟨h.stk.below B2.out, h.wf, h.lev, h.one, h.hi, h.r1, h.r2, h.d1, h.d2, h.val⟩)
 have HH := hide' (And.intro h16 (And.intro hM (And.intro hB (And.intro hl hK))))
 have LS := hide' (lt_of_block hs)
 have c0 := cell_of_row w2 _ 0 _ _ _ F2.out
 have c1 := cell_of_row w2 _ 1 _ _ _ F2.out
 have c2 := cell_of_row w2 _ 2 _ _ _ F2.out
 have c3 := cell_of_row w2 _ 3 _ _ _ F2.out
 have c4 := cell_of_row w2 _ 4 _ _ _ F2.out
 simp at c0 c1 c2 c3 c4
 clear hw2 hs h h16 hM hB hl hK
 go_enter Tryz.func20, Tryz.ntmps20
 go_upto_region 1 with fail
 rw [HW2.out]
 go_wp2_with fail
 refine (trimmed_any mp B sb t L fr fd M F n g cap qs w2 A2.out HH.out.1 (by have := HH.out.2.1; omega) (by have := B2.out.size; have := HH.out.2.2.1; have := LS.out; omega) HH.out.2.2.2.1).mono ?_
 rintro e w3 ⟨sb3, t3, L3, fr3, fd3, n3, g3, cap3, qs3, mp3, rfl, f3, l3, b3, k3, tg3, -⟩
 have TG := hide' tg3
 have sn := A2.out.stk.ne_four S2.out (by decide) (by decide)
 have S3 := hide' ((k3.keepM spb (lt_of_block S2.out) sn.1 sn.2 (A2.out.stk.nomap S2.out)).trans S2.out)
 have A3 := hide' f3
 have B3 := hide' ((B2.out.mono (by have := HH.out.2.2.1; have := LS.out; omega)).trans b3)
 have QL := hide' l3
 clear f3 l3 b3 k3 tg3 sn c0 c1 c2 c3 c4
 go_wp2_with fail
 refine (newStock_any w3).mono ?_
 rintro e w4 ⟨ts, gt, rfl, hts, b4⟩
 have S4 := hide' ((b4.block _ (lt_of_block S3.out)).trans S3.out)
 have T4 := hide' hts
 have A4 := hide' (A3.out.stk.below b4)
 have LT3 := hide' A3.out.stk.lt
 have B4 := hide' b4
 clear hts b4
 go_wp2_with fail
 refine (moved_any sb3 g3 cap3 ts w3.heap.size gt 1 qs3 [zQ] n3 t3 L3 fr3 fd3 w4 (A4.out.weakB (Nat.zero_le _)) T4.out ⟨LT3.out, fun k e => A3.out.stk.map.lt e⟩ B4.out.size (by have := QL.out; have := HH.out.2.2.2.1; simp; omega) A3.out.wf).mono ?_
 rintro e w5 ⟨g5, cap5, rs5, t5, rfl, s5, wf5, v5, l5, b5⟩
 have hB := HH.out.2.2.1
 have bsz := And.intro B2.out.size (And.intro B3.out.size B4.out.size)
 have ls := LS.out
 have S5 := hide' ((b5.block _ (by have := lt_of_block S3.out; omega)).trans S4.out)
 have ns := s5.ne_four S5.out (by decide) (by decide)
 have R5 := hide' s5
 have NS := hide' ns
 have W5 := hide' (And.intro wf5 v5)
 have LN5 := hide' (show rs5.length ≤ K by have : [zQ].length = 1 := rfl; have := HH.out.2.2.2.2; have := QL.out; omega)
 have B5 := hide' (show Below B w w5 from B3.out.trans ((B4.out.mono (by omega)).trans (b5.mono (by omega))))
 obtain ⟨w6, hw6⟩ : ∃ w6, ((((w5.setCell ⟨spb, 11, none⟩ (.pointer (some ⟨ts, 0, none⟩))).setCell ⟨spb, 12, none⟩ (.int .i32 (t5 : Int))).setCell ⟨spb, 13, none⟩ (.int .i64 (L3 : Int))).setCell ⟨spb, 14, none⟩ (.int .i64 fr3)).setCell ⟨spb, 15, none⟩ (.int .i64 fd3) = w6 := ⟨_, rfl⟩
 have S6 := hide' (show w6.heap[spb]? = some (spD b s o tv (.pointer (some ⟨ts, 0, none⟩)) (t5 : Int) (L3 : Int) fr3 fd3 kp1) by rw [← hw6]; exact sq_set S5.out)
 have R6 := hide' (show StkA w6 ts w3.heap.size g5 cap5 rs5 by rw [← hw6]; exact R5.out.keep (five_othQ (fun e => NS.out.1 e.symm) _ _ _ _ _ _ _ _ _ _) (five_othQ (fun e => NS.out.2 e.symm) _ _ _ _ _ _ _ _ _ _))
 have B6 := hide' (show Below B w w6 by rw [← hw6]; exact ((((B5.out.setCell hB _).setCell hB _).setCell hB _).setCell hB _).setCell hB _)
 have HW6 := hide' hw6
 have k0 := S5.out
 unfold spD at k0
 have d11 := cell_of_row w5 spb 11 _ _ _ k0
 have d12 := cell_of_row w5 spb 12 _ _ _ k0
 have d13 := cell_of_row w5 spb 13 _ _ _ k0
 have d14 := cell_of_row w5 spb 14 _ _ _ k0
 have d15 := cell_of_row w5 spb 15 _ _ _ k0
 have f11 := frozen_of_row w5 spb 11 _ _ k0
 have f12 := frozen_of_row w5 spb 12 _ _ k0
 have f13 := frozen_of_row w5 spb 13 _ _ k0
 have f14 := frozen_of_row w5 spb 14 _ _ k0
 have f15 := frozen_of_row w5 spb 15 _ _ k0
 simp at d11 d12 d13 d14 d15
 clear s5 wf5 v5 l5 b5 ns hw6 k0 hB bsz ls
 go_upto_region 2 with fail
 rw [HW6.out]
 clear d11 d12 d13 d14 d15 f11 f12 f13 f14 f15
 have k0 := S6.out
 unfold spD at k0
 have d11 := cell_of_row w6 spb 11 _ _ _ k0
 have d16 := cell_of_row w6 spb 16 _ _ _ k0
 have f16 := frozen_of_row w6 spb 16 _ _ k0
 have e0 := cell_of_row w6 ts 0 _ _ _ R6.out.blk
 obtain ⟨rn, hrn⟩ : ∃ n, rs5.length = n := ⟨_, rfl⟩
 rw [hrn] at e0
 simp at d11 d16 e0
 obtain ⟨X, hX⟩ : ∃ X, w6.setCell ⟨spb, 16, none⟩ (.int .i64 (rn : Int)) = X := ⟨_, rfl⟩
 have HX := hide' hX
 have FIN := hide' (show KeQ spb B b s o tv M F K w (.returned (.tuple #[])) X from by
  have a3 := A3.out
  have hB := HH.out.2.2.1
  have s6 := R6.out.ne_four k0 (by decide) (by decide)
  have bz : B ≤ w3.heap.size := by have := B3.out.size; have := LS.out; omega
  refine ⟨rfl, ⟨hB, ts, t5, L3, fr3, fd3, n3, g5, cap5, rs5, rn, by rw [← hX]; exact sq_kept S6.out, ⟨by rw [← hX]; exact (R6.out.weakB bz).set s6.1 s6.2 _, W5.out.1, a3.lev, a3.one, a3.hi, a3.r1, a3.r2, a3.d1, a3.d2, fun u v => by rw [W5.out.2]; exact a3.val u v⟩, TG.out, LN5.out, by rw [← hrn]; exact LN5.out⟩, by rw [← hX]; exact B6.out.setCell hB _⟩)
 clear k0 hX hrn
 go_wp2
 rw [HX.out]
 go_end0
 exact FIN.out
end Go.Proofs.YtemhcpldflcfbaaGreatDoor
