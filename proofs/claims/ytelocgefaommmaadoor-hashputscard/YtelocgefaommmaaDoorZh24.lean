/-
  What the last text of this claim leans on, part 24: He1.
-/
import Derived.Test.YtelocgefaommmaaDoorZh23
namespace Go.Proofs.YtelocgefaommmaaDoor
open Go.RowKit
set_option linter.unusedVariables false
theorem cntQ_mono {n m : Nat} (h : n ≤ m) : cntQ n ≤ cntQ m := by
  induction m with
  | zero => obtain rfl : n = 0 := by omega
            exact Nat.le_refl _
  | succ m ih =>
    by_cases e : n = m + 1
    · rw [e]; exact Nat.le_refl _
    · have := ih (by omega)
      rw [show cntQ (m + 1) = 4 * cntQ m + 1 from rfl]; omega
theorem cntQ_ten : cntQ 10 = 1398101 := by decide
/-- What a plane becomes over which a pattern is laid. -/
def ovrF (W H : Nat) (xs : List Int) (r0 d0 : Int) (F : Int → Int → Int) (u v : Int) : Int := if inP W H (u - r0) (v - d0) then cellF W xs (u - r0) (v - d0) else F u v
/-- What stands while a field is widened. -/
structure LdI (w wr : World) (B sb gq fb W H : Nat) (a : Option Addr) (m c : Nat) (M : Int) (F : Int → Int → Int) (Q t L : Nat) (fr fd : Int) (n g cap : Nat) (qs : List Sq) : Prop where
  box : wr.heap[fb]? = some (.cells #[.pointer (some ⟨sb, 0, none⟩), .int .i32 (t : Int), .int .i64 (L : Int), .int .i64 fr, .int .i64 fd] 56 (0, 0))
  pat : wr.heap[fb + 1]? = some (.cells #[.int .i64 (W : Int), .int .i64 (H : Int), .slice a m c] 26 (0, 0))
  res : wr.heap[fb + 2]? = some (.cells #[.pointer none, .int .i32 0, .int .i64 0, .int .i64 0, .int .i64 0] 56 (0, 0))
  stk : StkA wr sb B g cap qs
  wf : WFQ qs (n + 1) t
  lev : L = n + 4
  r1 : -(2 * M + 200) ≤ fr + sideI n
  r2 : fr + sideI n ≤ 2 * M + 200
  d1 : -(2 * M + 200) ≤ fd + sideI n
  d2 : fd + sideI n ≤ 2 * M + 200
  sz : sideI (n + 1) ≤ 8 * M + 2000
  val : ∀ u v, valQ qs (n + 1) t (u - fr) (v - fd) = F u v
  len : qs.length ≤ Q + 5 * (n + 1)
  kps : KpS sb gq g w wr
set_option maxRecDepth 100000 in
set_option maxHeartbeats 12800000 in
theorem laid_some (B sb t L : Nat) (fr fd M : Int) (F : Int → Int → Int) (n g cap : Nat) (qs : List Sq) (w : World) (h : FldA w B sb t L fr fd M F n g cap qs) (W H : Nat) (xs : List Int) (a : Option Addr) (m c : Nat) (r0 d0 : Int) (hr : -200 ≤ r0 ∧ r0 ≤ 200) (hd : -200 ≤ d0 ∧ d0 ≤ 200) (hW : 1 ≤ W ∧ W ≤ 100) (hH : 1 ≤ H ∧ H ≤ 100) (hP : ∀ V, Below B w V → ArgP V xs a m c) (hm : xs.length = W * H) (hb : ∀ i, 0 ≤ xs.getD i 0 ∧ xs.getD i 0 ≤ 1) (h16 : 16 ≤ M) (hM : M ≤ 1300) (hB : B ≤ w.heap.size) (N : Nat) (hN : ∀ k, sideI k ≤ 8 * M + 2000 → k ≤ N) (N10 : N ≤ 10) (Q : Nat) (hq : qs.length ≤ Q) (hQ : Q ≤ 100000) (M2 : Int) (hM2 : ∀ k, k + 1 ≤ N → 2 * M + 200 + sideI k ≤ M2) (hM3 : M2 ≤ 100000) (t0 : t ≠ 0) :
    Calls Tryd.prog 16 #[.agg #[.pointer (some ⟨sb, 0, none⟩), .int .i32 (t : Int), .int .i64 (L : Int), .int .i64 fr, .int .i64 fd], .agg #[.int .i64 (W : Int), .int .i64 (H : Int), .slice a m c], .int .i64 r0, .int .i64 d0] w (TrP B M2 (ovrF W H xs r0 d0 F) (Q + 60 + cntQ N + 20) sb g w) := by
  obtain ⟨w2, hw2⟩ : ∃ w2, ((w.alloc (.cells #[.pointer (some ⟨sb, 0, none⟩), .int .i32 (t : Int), .int .i64 (L : Int), .int .i64 fr, .int .i64 fd] 56)).alloc (.cells #[.int .i64 (W : Int), .int .i64 (H : Int), .slice a m c] 26)).alloc (.cells #[.pointer none, .int .i32 0, .int .i64 0, .int .i64 0, .int .i64 0] 56) = w2 := ⟨_, rfl⟩
  obtain ⟨fb, hfbb⟩ : ∃ fb, w.heap.size = fb := ⟨_, rfl⟩
  have HW2 := hide' hw2
  have HFB := hide' hfbb
  have B2 := hide' (show Below w.heap.size w w2 by rw [← hw2]; exact (((Below.refl _ _).alloc (Nat.le_refl _) _).alloc (by simp) _).alloc (by simp; omega) _)
  have F2 := hide' (show w2.heap[fb]? = some (.cells #[.pointer (some ⟨sb, 0, none⟩), .int .i32 (t : Int), .int .i64 (L : Int), .int .i64 fr, .int .i64 fd] 56 (0, 0)) by rw [← hw2, ← hfbb]; exact (heap_alloc_old _ _ (by simp; omega)).trans ((heap_alloc_old _ _ (by simp)).trans (heap_alloc_new w _)))
  have P2 := hide' (show w2.heap[fb + 1]? = some (.cells #[.int .i64 (W : Int), .int .i64 (H : Int), .slice a m c] 26 (0, 0)) by rw [← hw2]; exact (heap_alloc_old _ _ (by simp; omega)).trans (heap_atX _ _ _ (by simp [hfbb])))
  have R2 := hide' (show w2.heap[fb + 2]? = some (.cells #[.pointer none, .int .i32 0, .int .i64 0, .int .i64 0, .int .i64 0] 56 (0, 0)) by rw [← hw2]; exact heap_atX _ _ _ (by simp; omega))
  have K2 := hide' (h.stk.below B2.out)
  have f1 := cell_of_row w2 fb 1 _ _ _ F2.out
  simp at f1
  obtain ⟨n0, hn0⟩ : ∃ k, n = k + 1 := ⟨n - 1, by have := h.one; omega⟩
  subst hn0
  have s0 := sideI_next n0
  have sp := sideI_pos n0
  obtain ⟨gq, hgq⟩ : ∃ gq, g = gq := ⟨_, rfl⟩
  have z0 : ((t : Int) == 0) = false := by simp; omega
  have I2 := hide' (show LdI w w2 B sb gq fb W H a m c M F Q t L fr fd n0 g cap qs from ⟨F2.out, P2.out, R2.out, K2.out, h.wf, by have := h.lev; omega, by have := h.r1; have := h.r2; omega, by have := h.r1; have := h.r2; omega, by have := h.d1; have := h.d2; omega, by have := h.d1; have := h.d2; omega, by have := h.r1; have := h.r2; omega, h.val, by omega, by rw [← hgq]; exact KpS.of_below B2.out⟩)
  have HBB := hide' (And.intro hB (And.intro h.stk.le h.stk.rowB.1))
  rw [hgq] at HBB
  have HNN := hide' (And.intro hN (And.intro N10 (And.intro hQ (And.intro h16 hM))))
  have HRD := hide' (And.intro hr hd)
  have HMM := hide' (And.intro hM2 hM3)
  have HWH := hide' (And.intro hW hH)
  have HPX := hide' (And.intro hP (And.intro hm hb))
  rw [show TrP B M2 (ovrF W H xs r0 d0 F) (Q + 60 + cntQ N + 20) sb g w = TrP B M2 (ovrF W H xs r0 d0 F) (Q + 60 + cntQ N + 20) sb gq w by rw [hgq]]
  clear hw2 hfbb h hgq hM2 hM3 hB hN N10 hQ h16 hM hr hd hW hH hP hm hb hq s0 sp t0
  go_enter Tryd.func16, Tryd.ntmps16
  go_upto_region 1 with fail
  rw [HW2.out, HFB.out]
  go_upto_region 3 with fail
  clear f1
  go_loopw [16] (fun _ wr => ∃ (t L : Nat) (fr fd : Int) (n g cap : Nat) (qs : List Sq), Hid (LdI w wr B sb gq fb W H a m c M F Q t L fr fd n g cap qs)) (fun _ wr => 40 - levW fb wr)
  case atStart => exact ⟨t, L, fr, fd, n0, g, cap, qs, I2⟩
  case round =>
    obtain ⟨t', L', fr', fd', n', g', cap', qs', HI⟩ := hrel
    have c0 := cell_of_row wr fb 0 _ _ _ HI.out.box
    have c1 := cell_of_row wr fb 1 _ _ _ HI.out.box
    have c2 := cell_of_row wr fb 2 _ _ _ HI.out.box
    have c3 := cell_of_row wr fb 3 _ _ _ HI.out.box
    have c4 := cell_of_row wr fb 4 _ _ _ HI.out.box
    simp at c0 c1 c2 c3 c4
    have nb : n' + 1 ≤ 10 := by have := HNN.out.1 (n' + 1) HI.out.sz; have := HNN.out.2.1; omega
    have NB := hide' nb
    have sn := sideI_next n'
    have sp := sideI_pos n'
    have bd := And.intro HI.out.r1 (And.intro HI.out.r2 (And.intro HI.out.d1 (And.intro HI.out.d2 HI.out.sz)))
    have mm := HNN.out.2.2.2
    have rd := HRD.out
    have wh := HWH.out
    have HA1 := hide' (has_any (n' + 1) L' sb (t' : Int) fr' fd' r0 d0 wr HI.out.lev (by omega) (by omega) (by omega) (by omega) (by omega))
    obtain ⟨u1, hu1⟩ : ∃ u1, r0 + (W : Int) - 1 = u1 := ⟨_, rfl⟩
    obtain ⟨v1, hv1⟩ : ∃ v1, d0 + (H : Int) - 1 = v1 := ⟨_, rfl⟩
    have HA2 := hide' (fun (V : World) => has_any (n' + 1) L' sb (t' : Int) fr' fd' u1 v1 V HI.out.lev (by omega) (by omega) (by omega) (by omega) (by omega))
    obtain ⟨ru, hru⟩ : ∃ ru, r0 + (W : Int) = ru := ⟨_, rfl⟩
    obtain ⟨rv, hrv⟩ : ∃ rv, d0 + (H : Int) = rv := ⟨_, rfl⟩
    have e1 : wrap64 (r0 + (W : Int)) = ru := by rw [hru]; unfold wrap64; omega
    have e2 : wrap64 (ru - 1) = u1 := by unfold wrap64; omega
    have e3 : wrap64 (d0 + (H : Int)) = rv := by rw [hrv]; unfold wrap64; omega
    have e4 : wrap64 (rv - 1) = v1 := by unfold wrap64; omega
    have HUV := hide' (And.intro hu1 hv1)
    have FAR := hide' (fun (hf : hasB (n' + 1) fr' fd' r0 d0 = false ∨ hasB (n' + 1) fr' fd' u1 v1 = false) => show sideI (n' + 2) ≤ 8 * M + 2000 from by
      have s2 : sideI (n' + 2) = 2 * sideI (n' + 1) := sideI_next (n' + 1)
      rcases hf with hf | hf
      · have := of_decide_eq_false hf
        omega
      · have := of_decide_eq_false hf
        omega)
    clear sn sp bd mm rd wh hu1 hv1 hru hrv nb
    have PADC := hide' (fun (V : World) (hV : Below wr.heap.size wr V) (L1 : Nat) (hL1 : L1 = n' + 5) (fr2 fd2 : Int) (h1 : fr2 = fr' - sideI n') (h2 : fd2 = fd' - sideI n') => padded_any B sb t' L' fr' fd' F n' g' cap' qs' V (HI.out.stk.below hV) HI.out.wf HI.out.lev (by have := NB.out; omega) HI.out.val (by have := HI.out.r1; have := HI.out.r2; have := HNN.out.2.2.2; have := sideI_pos n'; have := sideI_le (n := n') (by have := NB.out; omega); omega) (by have := HI.out.d1; have := HI.out.d2; have := HNN.out.2.2.2; have := sideI_pos n'; have := sideI_le (n := n') (by have := NB.out; omega); omega) (by have := HI.out.kps.size; have := HBB.out.1; have := hV.size; omega) (by have := HI.out.len; have := NB.out; have := HNN.out.2.2.1; omega) L1 hL1 fr2 fd2 h1 h2)
    have NXT := hide' (fun (V : World) (hV : Below wr.heap.size wr V) (hs : sideI (n' + 2) ≤ 8 * M + 2000) (L1 : Nat) (hL1 : L1 = n' + 5) (fr2 fd2 : Int) (h1 : fr2 = fr' - sideI n') (h2 : fd2 = fd' - sideI n') (t2 g2 cap2 : Nat) (qs2 : List Sq) (W4 X : World) (s1 : StkA W4 sb B g2 cap2 qs2) (s2 : WFQ qs2 (n' + 1 + 1) t2) (s3 : ∀ u v, valQ qs2 (n' + 1 + 1) t2 (u - fr2) (v - fd2) = F u v) (s4 : qs2.length ≤ qs'.length + 5) (s5 : KpS sb g' g2 V W4) (hX : ((((W4.setCell ⟨fb, 0, none⟩ (.pointer (some ⟨sb, 0, none⟩))).setCell ⟨fb, 1, none⟩ (.int .i32 (t2 : Int))).setCell ⟨fb, 2, none⟩ (.int .i64 (L1 : Int))).setCell ⟨fb, 3, none⟩ (.int .i64 fr2)).setCell ⟨fb, 4, none⟩ (.int .i64 fd2) = X) => show LdI w X B sb gq fb W H a m c M F Q t2 L1 fr2 fd2 (n' + 1) g2 cap2 qs2 ∧ 40 - levW fb X < 40 - levW fb wr from by
      have n1 := HI.out.stk.ne_four HI.out.box (by decide) (by decide)
      have n2 := HI.out.stk.ne_four HI.out.pat (by decide) (by decide)
      have n3 := HI.out.stk.ne_four HI.out.res (by decide) (by decide)
      have kb := (s5.keep fb (Nat.lt_of_lt_of_le (lt_of_block HI.out.box) hV.size) n1.1 n1.2).trans ((hV.block _ (lt_of_block HI.out.box)).trans HI.out.box)
      have kp := (s5.keep (fb + 1) (Nat.lt_of_lt_of_le (lt_of_block HI.out.pat) hV.size) n2.1 n2.2).trans ((hV.block _ (lt_of_block HI.out.pat)).trans HI.out.pat)
      have kr := (s5.keep (fb + 2) (Nat.lt_of_lt_of_le (lt_of_block HI.out.res) hV.size) n3.1 n3.2).trans ((hV.block _ (lt_of_block HI.out.res)).trans HI.out.res)
      have m1 := s1.ne_four kb (by decide) (by decide)
      have qf : w.heap.size ≤ fb := by have := HFB.out; omega
      have eX : X.heap[fb]? = some (.cells #[.pointer (some ⟨sb, 0, none⟩), .int .i32 (t2 : Int), .int .i64 (L1 : Int), .int .i64 fr2, .int .i64 fd2] 56 (0, 0)) := by rw [← hX]; exact five_stored kb _ _ _ _ _
      have sn := sideI_next n'
      refine ⟨⟨eX, by rw [← hX]; exact (five_else (by omega) _ _ _ _ _).trans kp, by rw [← hX]; exact (five_else (by omega) _ _ _ _ _).trans kr, by rw [← hX]; exact s1.keep (five_else (fun e => m1.1 e.symm) _ _ _ _ _) (five_else (fun e => m1.2 e.symm) _ _ _ _ _), s2, by omega, by have := HI.out.r1; omega, by have := HI.out.r2; omega, by have := HI.out.d1; omega, by have := HI.out.d2; omega, hs, s3, by have := HI.out.len; omega, ?_⟩, ?_⟩
      · rw [← hX]
        exact (((((HI.out.kps.trans ((KpS.of_below hV).trans s5)).set qf _).set qf _).set qf _).set qf _).set qf _
      · rw [levW_of eX, levW_of HI.out.box]
        have := HI.out.lev
        have := NB.out
        omega)
    obtain ⟨L1, hL1⟩ : ∃ L1, n' + 5 = L1 := ⟨_, rfl⟩
    obtain ⟨fr2, hfr2⟩ : ∃ z, fr' - sideI n' = z := ⟨_, rfl⟩
    obtain ⟨fd2, hfd2⟩ : ∃ z, fd' - sideI n' = z := ⟨_, rfl⟩
    have HLF := hide' (And.intro hL1.symm (And.intro hfr2.symm hfd2.symm))
    clear hL1 hfr2 hfd2
    go_wp2_with fail
    refine HA1.out.mono ?_
    rintro e w4 ⟨rfl, b4⟩
    have B4 := hide' b4
    have x4 := (b4.block _ (lt_of_block HI.out.box)).trans HI.out.box
    have y4 := (b4.block _ (lt_of_block HI.out.pat)).trans HI.out.pat
    clear c0 c1 c2 c3 c4 b4
    have c0 := cell_of_row w4 fb 0 _ _ _ x4
    have c1 := cell_of_row w4 fb 1 _ _ _ x4
    have c2 := cell_of_row w4 fb 2 _ _ _ x4
    have c3 := cell_of_row w4 fb 3 _ _ _ x4
    have c4 := cell_of_row w4 fb 4 _ _ _ x4
    have p0 := cell_of_row w4 (fb + 1) 0 _ _ _ y4
    have p1 := cell_of_row w4 (fb + 1) 1 _ _ _ y4
    simp at c0 c1 c2 c3 c4 p0 p1
    clear x4 y4
    cases h1 : hasB (n' + 1) fr' fd' r0 d0 with
    | false =>
      have FR := hide' (FAR.out (Or.inl h1))
      clear h1 p0 p1 e1 e2 e3 e4
      go_wp2_with fail
      refine (PADC.out w4 B4.out L1 HLF.out.1 fr2 fd2 HLF.out.2.1 HLF.out.2.2).mono ?_
      rintro e w6 ⟨t2, g2, cap2, qs2, rfl, s1, s2, s3, s4, s5⟩
      have n1 := HI.out.stk.ne_four HI.out.box (by decide) (by decide)
      have kb := (s5.keep fb (Nat.lt_of_lt_of_le (lt_of_block HI.out.box) B4.out.size) n1.1 n1.2).trans ((B4.out.block _ (lt_of_block HI.out.box)).trans HI.out.box)
      have z0' := cell_of_row w6 fb 0 _ _ _ kb
      have z1' := cell_of_row w6 fb 1 _ _ _ kb
      have z2' := cell_of_row w6 fb 2 _ _ _ kb
      have z3' := cell_of_row w6 fb 3 _ _ _ kb
      have z4' := cell_of_row w6 fb 4 _ _ _ kb
      have q0' := frozen_of_row w6 fb 0 _ _ kb
      have q1' := frozen_of_row w6 fb 1 _ _ kb
      have q2' := frozen_of_row w6 fb 2 _ _ kb
      have q3' := frozen_of_row w6 fb 3 _ _ kb
      have q4' := frozen_of_row w6 fb 4 _ _ kb
      simp at z0' z1' z2' z3' z4'
      obtain ⟨X, hX⟩ : ∃ X, ((((w6.setCell ⟨fb, 0, none⟩ (.pointer (some ⟨sb, 0, none⟩))).setCell ⟨fb, 1, none⟩ (.int .i32 (t2 : Int))).setCell ⟨fb, 2, none⟩ (.int .i64 (L1 : Int))).setCell ⟨fb, 3, none⟩ (.int .i64 fr2)).setCell ⟨fb, 4, none⟩ (.int .i64 fd2) = X := ⟨_, rfl⟩
      have FN := hide' (NXT.out w4 B4.out FR.out L1 HLF.out.1 fr2 fd2 HLF.out.2.1 HLF.out.2.2 t2 g2 cap2 qs2 w6 X s1 s2 s3 s4 s5 hX)
      have HX := hide' hX
      clear s1 s2 s3 s4 s5 n1 kb hX c0 c1 c2 c3 c4
      go_wp2
      rw [HX.out]
      exact ⟨⟨t2, L1, fr2, fd2, n' + 1, g2, cap2, qs2, hide' FN.out.1⟩, FN.out.2⟩
    | true =>
      go_wp2_with fail
      refine (HA2.out w4).mono ?_
      rintro e w5 ⟨rfl, b5⟩
      have B5 := hide' (B4.out.trans (b5.mono B4.out.size))
      have x4 := (B5.out.block _ (lt_of_block HI.out.box)).trans HI.out.box
      have y4 := (B5.out.block _ (lt_of_block HI.out.pat)).trans HI.out.pat
      clear c0 c1 c2 c3 c4 b5 p0 p1
      have c0 := cell_of_row w5 fb 0 _ _ _ x4
      have c1 := cell_of_row w5 fb 1 _ _ _ x4
      have c2 := cell_of_row w5 fb 2 _ _ _ x4
      have c3 := cell_of_row w5 fb 3 _ _ _ x4
      have c4 := cell_of_row w5 fb 4 _ _ _ x4
      have p0 := cell_of_row w5 (fb + 1) 0 _ _ _ y4
      have p1 := cell_of_row w5 (fb + 1) 1 _ _ _ y4
      have p2 := cell_of_row w5 (fb + 1) 2 _ _ _ y4
      simp at c0 c1 c2 c3 c4 p0 p1 p2
      clear x4 y4
      cases h2 : hasB (n' + 1) fr' fd' u1 v1 with
      | false =>
        have FR := hide' (FAR.out (Or.inr h2))
        clear h1 h2 p0 p1 p2 e1 e2 e3 e4
        go_wp2_with fail
        refine (PADC.out w5 B5.out L1 HLF.out.1 fr2 fd2 HLF.out.2.1 HLF.out.2.2).mono ?_
        rintro e w6 ⟨t2, g2, cap2, qs2, rfl, s1, s2, s3, s4, s5⟩
        have n1 := HI.out.stk.ne_four HI.out.box (by decide) (by decide)
        have kb := (s5.keep fb (Nat.lt_of_lt_of_le (lt_of_block HI.out.box) B5.out.size) n1.1 n1.2).trans ((B5.out.block _ (lt_of_block HI.out.box)).trans HI.out.box)
        have z0' := cell_of_row w6 fb 0 _ _ _ kb
        have z1' := cell_of_row w6 fb 1 _ _ _ kb
        have z2' := cell_of_row w6 fb 2 _ _ _ kb
        have z3' := cell_of_row w6 fb 3 _ _ _ kb
        have z4' := cell_of_row w6 fb 4 _ _ _ kb
        have q0' := frozen_of_row w6 fb 0 _ _ kb
        have q1' := frozen_of_row w6 fb 1 _ _ kb
        have q2' := frozen_of_row w6 fb 2 _ _ kb
        have q3' := frozen_of_row w6 fb 3 _ _ kb
        have q4' := frozen_of_row w6 fb 4 _ _ kb
        simp at z0' z1' z2' z3' z4'
        obtain ⟨X, hX⟩ : ∃ X, ((((w6.setCell ⟨fb, 0, none⟩ (.pointer (some ⟨sb, 0, none⟩))).setCell ⟨fb, 1, none⟩ (.int .i32 (t2 : Int))).setCell ⟨fb, 2, none⟩ (.int .i64 (L1 : Int))).setCell ⟨fb, 3, none⟩ (.int .i64 fr2)).setCell ⟨fb, 4, none⟩ (.int .i64 fd2) = X := ⟨_, rfl⟩
        have FN := hide' (NXT.out w5 B5.out FR.out L1 HLF.out.1 fr2 fd2 HLF.out.2.1 HLF.out.2.2 t2 g2 cap2 qs2 w6 X s1 s2 s3 s4 s5 hX)
        have HX := hide' hX
        clear s1 s2 s3 s4 s5 n1 kb hX c0 c1 c2 c3 c4
        go_wp2
        rw [HX.out]
        exact ⟨⟨t2, L1, fr2, fd2, n' + 1, g2, cap2, qs2, hide' FN.out.1⟩, FN.out.2⟩
      | true =>
        have IN := hide' (And.intro (of_decide_eq_true h1) (of_decide_eq_true h2))
        clear h1 h2 e1 e2 e3 e4
        obtain ⟨X0, hX0⟩ : ∃ z, fr' - r0 = z := ⟨_, rfl⟩
        obtain ⟨Y0, hY0⟩ : ∃ z, fd' - d0 = z := ⟨_, rfl⟩
        have sp := sideI_pos n'
        have sn := sideI_next n'
        have bd := And.intro HI.out.r1 (And.intro HI.out.r2 (And.intro HI.out.d1 (And.intro HI.out.d2 HI.out.sz)))
        have mm := HNN.out.2.2.2
        have rd := HRD.out
        have e1 : wrap64 (fr' - r0) = X0 := by rw [hX0]; unfold wrap64; omega
        have e2 : wrap64 (fd' - d0) = Y0 := by rw [hY0]; unfold wrap64; omega
        have BW5 := hide' (show Below B w w5 from (HI.out.kps.below HBB.out.2.1 HBB.out.2.2 HBB.out.1).trans (B5.out.mono (Nat.le_trans HBB.out.1 HI.out.kps.size)))
        have cn : cntQ (n' + 1) ≤ 1398101 := by rw [← cntQ_ten]; exact cntQ_mono NB.out
        have LC := hide' (lay_any (n' + 1) (by have := NB.out; omega) L' sb B g' cap' qs' t' X0 Y0 W H xs a m c w5 HI.out.lev (HI.out.stk.below B5.out) (by have := BW5.out.size; have := HBB.out.1; omega) (by have := HI.out.len; have := NB.out; have := HNN.out.2.2.1; omega) HI.out.wf (by omega) (by omega) (by omega) (by omega) HWH.out.1.2 HWH.out.2.2 (fun V hV => HPX.out.1 V (BW5.out.trans hV)) HPX.out.2.1 HPX.out.2.2)
        have XY := hide' (And.intro hX0 hY0)
        clear hX0 hY0 sp sn bd mm rd cn
        go_wp2_with fail
        refine LC.out.mono ?_
        rintro e w6 ⟨g2, cap2, qs2, t2, rfl, hs, ⟨ms, em, lm⟩, hlq, hkp⟩
        have n1 := HI.out.stk.ne_four HI.out.box (by decide) (by decide)
        have n3 := HI.out.stk.ne_four HI.out.res (by decide) (by decide)
        have kb := (hkp.keep fb (Nat.lt_of_lt_of_le (lt_of_block HI.out.box) B5.out.size) n1.1 n1.2).trans ((B5.out.block _ (lt_of_block HI.out.box)).trans HI.out.box)
        have kr := (hkp.keep (fb + 2) (Nat.lt_of_lt_of_le (lt_of_block HI.out.res) B5.out.size) n3.1 n3.2).trans ((B5.out.block _ (lt_of_block HI.out.res)).trans HI.out.res)
        have m1 := hs.ne_four kb (by decide) (by decide)
        have qf : w.heap.size ≤ fb := by have := HFB.out; omega
        obtain ⟨w7, hw7⟩ : ∃ w7, w6.setCell ⟨fb, 1, none⟩ (.int .i32 (t2 : Int)) = w7 := ⟨_, rfl⟩
        have e7 : w7.heap[fb]? = some (.cells #[.pointer (some ⟨sb, 0, none⟩), .int .i32 (t2 : Int), .int .i64 (L' : Int), .int .i64 fr', .int .i64 fd'] 56 (0, 0)) := by rw [← hw7, heap_setCell_same _ _ _ _ _ _ kb]; rfl
        have r7 : w7.heap[fb + 2]? = some (.cells #[.pointer none, .int .i32 0, .int .i64 0, .int .i64 0, .int .i64 0] 56 (0, 0)) := by rw [← hw7]; exact (Below.heap_setCell _ _ _ _ (by show fb + 2 ≠ fb; omega)).trans kr
        have S7 := hide' (show StkA w7 sb B g2 cap2 qs2 by rw [← hw7]; exact hs.set m1.1 m1.2 _)
        have K7 := hide' (show KpS sb gq g2 w w7 by rw [← hw7]; exact (HI.out.kps.trans ((KpS.of_below B5.out).trans hkp)).set qf _)
        have E7 := hide' (And.intro e7 r7)
        have QL := hide' (show qs2.length ≤ Q + 50 + cntQ N by
          have h1 := HI.out.len
          have h2 := cntQ_mono (HNN.out.1 (n' + 1) HI.out.sz)
          have h3 := NB.out
          rw [em, List.length_append]
          omega)
        have FA := hide' (show FldA w7 B sb t2 L' fr' fd' M2 (ovrF W H xs r0 d0 F) (n' + 1) g2 cap2 qs2 from by
          have sp := sideI_pos n'
          have sn := sideI_next n'
          have bd := And.intro HI.out.r1 (And.intro HI.out.r2 (And.intro HI.out.d1 (And.intro HI.out.d2 HI.out.sz)))
          have uv := HUV.out
          have inn := IN.out
          have hm2 := HMM.out.1 n' (HNN.out.1 (n' + 1) HI.out.sz)
          refine ⟨S7.out, hlq.wf, HI.out.lev, by omega, by have := NB.out; omega, by omega, by omega, by omega, by omega, fun u v => ?_⟩
          have x1 : X0 + (u - fr') = u - r0 := by have := XY.out.1; omega
          have y1 : Y0 + (v - fd') = v - d0 := by have := XY.out.2; omega
          unfold ovrF
          by_cases ip : inP W H (u - r0) (v - d0)
          · rw [if_pos ip, ← x1, ← y1]
            exact hlq.on (u - fr') (v - fd') (by omega) (by omega) (by omega) (by omega) (by rw [x1, y1]; exact ip)
          · rw [if_neg ip, ← HI.out.val u v]
            exact hlq.off (u - fr') (v - fd') (by rw [x1, y1]; exact ip))
        have d1' := cell_of_row w6 fb 1 _ _ _ kb
        have f1' := frozen_of_row w6 fb 1 _ _ kb
        simp at d1'
        have HW7 := hide' hw7
        clear hs em lm hlq hkp n1 n3 kb kr m1 hw7 e7 r7 c0 c1 c2 c3 c4 p0 p1 p2 e1 e2
        go_upto_region 6 with fail
        rw [HW7.out]
        clear d1' f1'
        have c0 := cell_of_row w7 fb 0 _ _ _ E7.out.1
        have c1 := cell_of_row w7 fb 1 _ _ _ E7.out.1
        have c2 := cell_of_row w7 fb 2 _ _ _ E7.out.1
        have c3 := cell_of_row w7 fb 3 _ _ _ E7.out.1
        have c4 := cell_of_row w7 fb 4 _ _ _ E7.out.1
        simp at c0 c1 c2 c3 c4
        go_wp2_with fail
        refine (trimmed_any B sb t2 L' fr' fd' M2 (ovrF W H xs r0 d0 F) (n' + 1) g2 cap2 qs2 w7 FA.out (by have := HNN.out.2.2.2; have := sideI_pos n'; have := HMM.out.1 n' (HNN.out.1 (n' + 1) HI.out.sz); omega) (by have := HMM.out.2; omega) (by have := K7.out.size; have := HBB.out.1; omega) (by have := QL.out; have := NB.out; have := HNN.out.2.2.1; have := cntQ_mono HNN.out.2.1; rw [cntQ_ten] at this; omega)).mono ?_
        rintro e w8 ⟨sb8, t8, L8, fr8, fd8, n8, g8, cap8, qs8, rfl, hf8, hl8, hb8, hk8⟩
        have n3 := S7.out.ne_four E7.out.2 (by decide) (by decide)
        have r8 := (hk8.keep (fb + 2) (lt_of_block E7.out.2) n3.1 n3.2).trans E7.out.2
        have z0' := cell_of_row w8 (fb + 2) 0 _ _ _ r8
        have z1' := cell_of_row w8 (fb + 2) 1 _ _ _ r8
        have z2' := cell_of_row w8 (fb + 2) 2 _ _ _ r8
        have z3' := cell_of_row w8 (fb + 2) 3 _ _ _ r8
        have z4' := cell_of_row w8 (fb + 2) 4 _ _ _ r8
        have g0 := frozen_of_row w8 (fb + 2) 0 _ _ r8
        have g1 := frozen_of_row w8 (fb + 2) 1 _ _ r8
        have g2' := frozen_of_row w8 (fb + 2) 2 _ _ r8
        have g3 := frozen_of_row w8 (fb + 2) 3 _ _ r8
        have g4 := frozen_of_row w8 (fb + 2) 4 _ _ r8
        simp at z0' z1' z2' z3' z4'
        have H8 := hide' (And.intro hf8 (And.intro hl8 (And.intro hb8 (And.intro hk8 r8))))
        clear hf8 hl8 hb8 hk8 r8 n3 c0 c1 c2 c3 c4
        go_wp2
        obtain ⟨X, hX⟩ : ∃ X, ((((w8.setCell ⟨fb + 2, 0, none⟩ (.pointer (some ⟨sb8, 0, none⟩))).setCell ⟨fb + 2, 1, none⟩ (.int .i32 (t8 : Int))).setCell ⟨fb + 2, 2, none⟩ (.int .i64 (L8 : Int))).setCell ⟨fb + 2, 3, none⟩ (.int .i64 fr8)).setCell ⟨fb + 2, 4, none⟩ (.int .i64 fd8) = X := ⟨_, rfl⟩
        have GX : X.heap[fb + 2]? = some (.cells #[.pointer (some ⟨sb8, 0, none⟩), .int .i32 (t8 : Int), .int .i64 (L8 : Int), .int .i64 fr8, .int .i64 fd8] 56 (0, 0)) := by rw [← hX]; exact five_stored H8.out.2.2.2.2 _ _ _ _ _
        have rn := H8.out.1.stk.ne_four H8.out.2.2.2.2 (by decide) (by decide)
        have SX : StkA X sb8 B g8 cap8 qs8 := by
          rw [← hX]
          exact H8.out.1.stk.keep (five_else (fun e => rn.1 e.symm) _ _ _ _ _) (five_else (fun e => rn.2 e.symm) _ _ _ _ _)
        have BX : Below B w X := by
          rw [← hX]
          exact five_below ((K7.out.below HBB.out.2.1 HBB.out.2.2 HBB.out.1).trans H8.out.2.2.1) (by have := HFB.out; have := HBB.out.1; omega) _ _ _ _ _
        have KX : KpF sb gq w X := by
          have k8 := H8.out.2.2.2.1
          refine ⟨by rw [← hX]; exact k8.os.trans K7.out.os, by rw [← hX]; exact k8.tape.trans K7.out.tape, by rw [← hX]; exact k8.output.trans K7.out.output, BX.size, fun k q1 q2 q3 => ?_⟩
          rw [← hX]
          refine (five_else (by have := HFB.out; omega) _ _ _ _ _).trans ((k8.keep k (Nat.lt_of_lt_of_le q1 K7.out.size) q2 ?_).trans (K7.out.keep k q1 q2 q3))
          rcases K7.out.new with e | e <;> omega
        rw [hX]
        clear hX z0' z1' z2' z3' z4' g0 g1 g2' g3 g4
        have i0 := cell_of_row X _ 0 _ _ _ GX
        have i1 := cell_of_row X _ 1 _ _ _ GX
        have i2 := cell_of_row X _ 2 _ _ _ GX
        have i3 := cell_of_row X _ 3 _ _ _ GX
        have i4 := cell_of_row X _ 4 _ _ _ GX
        simp at i0 i1 i2 i3 i4
        refine bodyPost_ret (v := .agg #[.pointer (some ⟨sb8, 0, none⟩), .int .i32 (t8 : Int), .int .i64 (L8 : Int), .int .i64 fr8, .int .i64 fd8]) (by simp [results, Tryd.results16, go_sem, i0, i1, i2, i3, i4]) rfl ?_
        have f8 := H8.out.1
        exact ⟨sb8, t8, L8, fr8, fd8, n8, g8, cap8, qs8, rfl, ⟨SX, f8.wf, f8.lev, f8.one, f8.hi, f8.r1, f8.r2, f8.d1, f8.d2, f8.val⟩, by have := H8.out.2.1; have := QL.out; have := NB.out; omega, BX, KX⟩
end Go.Proofs.YtelocgefaommmaaDoor

