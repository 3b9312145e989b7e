/-
  What the last text of this claim leans on, part 24: LawT5.
-/
import Derived.Test.YtjngjnkecnnmeaaJt20
namespace Go.Proofs.Ytjngjnkecnnmeaa
open Go.RowKit
set_option linter.unusedVariables false

set_option maxRecDepth 100000 in
set_option maxHeartbeats 6400000 in
theorem law_shifts_ok_e_ok_ok (S Ra : Nat) (Ta : List Int) (Rb : Nat) (Tb : List Int) (ta : Option Addr) (na ca : Nat) (tb : Option Addr) (nb cb : Nat) (ws : List Int) (wa : Option Addr) (wc : Nat) (b : Int) (k : Nat) (w : World) (hLa : LineOk S Ra Ta) (hTa : ArgP w Ta ta na ca) (hW : ArgP w ws wa ws.length wc) (he : wordE S ws = 0) (h0 : ws.length = 0) (hLb : LineOk S Rb Tb) (hTb : ArgP w Tb tb nb cb) (hsz : S ^ (2 * (Ra + Rb) + 1) ≤ 4096) (hk : Ra ≤ k) (hkz : S ^ (2 * k + 1) ≤ 4096) :
    Calls Try.prog 4 #[.agg #[.int .i64 2, .int .i64 0, .int .i64 0, .int .i64 (S : Int), .int .i64 (Ra : Int), .slice ta na ca, .string ⟨#[]⟩], .agg #[.int .i64 2, .int .i64 0, .int .i64 0, .int .i64 (S : Int), .int .i64 (Rb : Int), .slice tb nb cb, .string ⟨#[]⟩], .slice wa ws.length wc, .int .i64 b, .int .i64 (k : Int)] w fun e w' => e = .returned (.bool true) ∧ Below w.heap.size w w' := by
  obtain ⟨w1, hw1⟩ : ∃ w1, (w.alloc (.cells #[.int .i64 2, .int .i64 0, .int .i64 0, .int .i64 (S : Int), .int .i64 (Ra : Int), .slice ta na ca, .string ⟨#[]⟩] 28)).alloc (.cells #[.int .i64 2, .int .i64 0, .int .i64 0, .int .i64 (S : Int), .int .i64 (Rb : Int), .slice tb nb cb, .string ⟨#[]⟩] 28) = w1 := ⟨_, rfl⟩
  have BB := hide' (show Below w.heap.size w w1 by rw [← hw1]; exact ((Below.refl _ _).alloc (Nat.le_refl _) _).alloc (by simp) _)
  have RA := hide' (show RB w.heap.size S Ra (.slice ta na ca) w1 by
    rw [← hw1]
    exact (RB.new w S Ra (.slice ta na ca) 28).block (Below.heap_alloc _ _ _ (by simp)))
  have RBB := hide' (show RB (w.heap.size + 1) S Rb (.slice tb nb cb) w1 by
    have h := RB.new (w.alloc (.cells #[.int .i64 2, .int .i64 0, .int .i64 0, .int .i64 (S : Int), .int .i64 (Ra : Int), .slice ta na ca, .string ⟨#[]⟩] 28)) S Rb (.slice tb nb cb) 28
    rw [World.size_alloc, hw1] at h
    exact h)
  have AT := hide' (hTa.below BB.out)
  have AW := hide' (hW.below BB.out)
  have HLa := hide' hLa
  have HE := hide' he
  have s2 := hLa.s2
  have s4 := hLa.s4
  obtain ⟨hl, hok⟩ := wordE_zero he
  have HO := hide' hok
  have hlw : ws.length ≤ 1000 := hl
  have wm : ws.length ≤ maxLen := by unfold maxLen; omega
  obtain ⟨xs, hxs⟩ : ∃ xs, stepL S Ra Ta ws = xs := ⟨_, rfl⟩
  have XS := hide' hxs
  have XL := hide' (show xs.length = ws.length by rw [← hxs, stepL_length])
  have XO := hide' (show cellsOk S xs by rw [← hxs]; exact stepL_ok (by omega) hLa.lenI hLa.ok hok)
  have XE := hide' (show wordE S xs = 0 from wordE_ok (by rw [XL.out]; omega) XO.out)
  have n1 : ((ws.length : Int) != (ws.length : Int)) = false := by simp
  have d0 : ¬ (0 : Int) < (ws.length : Int) := by omega
  have H0 := hide' h0
  clear h0
  have ATb := hide' (hTb.below BB.out)
  have HLb := hide' hLb
  have HSZ := hide' hsz
  have CS := hide' (compose_step S Ra Rb Ta Tb ws (by omega) hok)
  have CL := hide' (compose_line S Ra Rb Ta Tb hLa hLb hsz)
  rw [hxs] at CS
  obtain ⟨K, hK⟩ : ∃ K, Ra + Rb = K := ⟨_, rfl⟩
  have HK := hide' hK
  obtain ⟨FF, hFF⟩ : ∃ FF : List Int → Int, (fun ds => (applyL S Rb Tb (applyL S Ra Ta ds)).getD 0 0) = FF := ⟨_, rfl⟩
  have FH := hide' hFF
  rw [hK, hFF] at CS CL
  obtain ⟨TT, hTT⟩ : ∃ TT, madeL S K FF = TT := ⟨_, rfl⟩
  have TH := hide' hTT
  rw [hTT] at CS CL
  obtain ⟨ys, hys⟩ : ∃ ys, stepL S Rb Tb xs = ys := ⟨_, rfl⟩
  have YS := hide' hys
  rw [hys] at CS
  have YM := hide' (show ys.length ≤ maxLen by rw [← hys, stepL_length, XL.out]; exact wm)
  clear hK hFF hTT hys hsz hTb hLb
  have WS := hide' (widen_step S Ra k Ta ws (by omega) hk hok)
  have WL := hide' (widen_line S Ra k Ta hLa hk hkz)
  have KZ := hide' hkz
  rw [hxs] at WS
  obtain ⟨GG, hGG⟩ : ∃ GG : List Int → Int, (fun ds : List Int => (applyL S Ra Ta ((ds.drop (k - Ra)).take (2 * Ra + 1))).getD 0 0) = GG := ⟨_, rfl⟩
  have GH := hide' hGG
  rw [hGG] at WS WL
  obtain ⟨UU, hUU⟩ : ∃ UU, madeL S k GG = UU := ⟨_, rfl⟩
  have UH := hide' hUU
  rw [hUU] at WS WL
  clear hGG hUU hkz
  have XM := hide' (show xs.length ≤ maxLen by rw [XL.out]; exact wm)
  clear hTa hW hLa he hl hok hxs
  have F1 := hide' (cel_two w1 1 0 3)
  have F2 := hide' (cel_two (w1.alloc (.cells #[.int .i64 1, .int .i64 0] 3)) 0 1 3)
  have F1b := hide' (F1.out.below ((Below.refl _ _).alloc (Nat.le_refl _) (.cells #[.int .i64 0, .int .i64 1] 3)))
  rw [World.size_alloc] at F2
  have C0 := hide' (show Below w1.heap.size w1 ((w1.alloc (.cells #[.int .i64 1, .int .i64 0] 3)).alloc (.cells #[.int .i64 0, .int .i64 1] 3)) from ((Below.refl _ _).alloc (Nat.le_refl _) _).alloc (by simp) _)
  obtain ⟨x0, x1, x2, x3, x4, x5, x6⟩ := RA.out.next C0.out
  obtain ⟨y0, y1, y2, y3, y4, y5, y6⟩ := RBB.out.next C0.out
  go_enter Try.func4, Try.ntmps4
  go_wp2_with fail
  refine (fact_step w1.heap.size (w1.heap.size + 1) _ F1b.out F2.out).mono ?_
  rintro e w2 ⟨v2, rfl, t2, -, b⟩
  have C1 := hide' (C0.out.trans (b.mono C0.out.size))
  obtain ⟨g2, c2, rfl, k20, k21⟩ := fact_tab t2
  clear b t2 hw1 F1 F1b F2 C0 x0 x1 x2 x3 x4 x5 x6 y0 y1 y2 y3 y4 y5 y6
  obtain ⟨x0, x1, x2, x3, x4, x5, x6⟩ := RA.out.next C1.out
  obtain ⟨y0, y1, y2, y3, y4, y5, y6⟩ := RBB.out.next C1.out
  have KS := hide' (lineStep_ok S Ra Ta ta na ca ws wa wc _ HLa.out (AT.out.below C1.out) (AW.out.below C1.out) HE.out)
  rw [XS.out] at KS
  go_wp2_with fail
  refine (KS.out).mono ?_
  rintro e w2 ⟨v2, rfl, t2, -, b⟩
  clear x0 x1 x2 x3 x4 x5 x6 y0 y1 y2 y3 y4 y5 y6
  have C2 := hide' (C1.out.trans (b.mono C1.out.size))
  obtain ⟨a2, c2, rfl, p2⟩ := t2.argT XM.out
  have PX := hide' p2
  clear t2 p2
  clear KS k20 k21
  rw [XL.out] at PX ⊢
  clear b C1
  obtain ⟨x0, x1, x2, x3, x4, x5, x6⟩ := RA.out.next C2.out
  obtain ⟨y0, y1, y2, y3, y4, y5, y6⟩ := RBB.out.next C2.out
  have KC := hide' (compose_ok S Ra Ta Rb Tb ta na ca tb nb cb _ HLa.out (AT.out.below C2.out) HLb.out (ATb.out.below C2.out) HSZ.out)
  rw [HK.out, FH.out, TH.out] at KC
  go_wp2_with fail
  refine (KC.out).mono ?_
  rintro e w3 ⟨g3, N3, rfl, hN3, hg3, ce3, b⟩
  subst hN3
  clear x0 x1 x2 x3 x4 x5 x6 y0 y1 y2 y3 y4 y5 y6
  have C3 := hide' (C2.out.trans (b.mono C2.out.size))
  have PX' := hide' (PX.out.below b)
  clear PX
  have PX := PX'
  clear PX'
  have HPC := hide' C3.out.size
  have PT := hide' (show ArgP w3 TT (some ⟨g3, 0, none⟩) TT.length TT.length from ce3.argP rfl (by have := CL.out.max; unfold maxLen; omega))
  clear ce3 hg3 KC b C2
  have PX0 := hide' PX.out
  have CX := hide' ((Below.refl w3.heap.size w3).alloc (Nat.le_refl _) (.cells #[.int .i64 2, .int .i64 0, .int .i64 0, .int .i64 (S : Int), .int .i64 (K : Int), .slice (some ⟨g3, 0, none⟩) TT.length TT.length, .string ⟨#[]⟩] 28))
  have C3' := hide' (C3.out.alloc C3.out.size (.cells #[.int .i64 2, .int .i64 0, .int .i64 0, .int .i64 (S : Int), .int .i64 (K : Int), .slice (some ⟨g3, 0, none⟩) TT.length TT.length, .string ⟨#[]⟩] 28))
  clear C3
  have C3 := C3'
  clear C3'
  have PX' := hide' (PX.out.alloc (.cells #[.int .i64 2, .int .i64 0, .int .i64 0, .int .i64 (S : Int), .int .i64 (K : Int), .slice (some ⟨g3, 0, none⟩) TT.length TT.length, .string ⟨#[]⟩] 28))
  clear PX
  have PX := PX'
  clear PX'
  have PT' := hide' (PT.out.alloc (.cells #[.int .i64 2, .int .i64 0, .int .i64 0, .int .i64 (S : Int), .int .i64 (K : Int), .slice (some ⟨g3, 0, none⟩) TT.length TT.length, .string ⟨#[]⟩] 28))
  clear PT
  have PT := PT'
  clear PT'
  have CB := hide' (S7.new w3 (.int .i64 2) (.int .i64 0) (.int .i64 0) (.int .i64 (S : Int)) (.int .i64 (K : Int)) (.slice (some ⟨g3, 0, none⟩) TT.length TT.length) (.string ⟨#[]⟩) 28)
  obtain ⟨x0, x1, x2, x3, x4, x5, x6⟩ := RA.out.next C3.out
  obtain ⟨y0, y1, y2, y3, y4, y5, y6⟩ := RBB.out.next C3.out
  have KB := hide' (lineStep_ok S Rb Tb tb nb cb xs a2 c2 _ HLb.out (ATb.out.below C3.out) (by rw [XL.out]; exact PX.out) XE.out)
  rw [XL.out, YS.out] at KB
  go_wp2_with fail
  refine (KB.out).mono ?_
  rintro e w4 ⟨v4, rfl, t4, -, b⟩
  clear x0 x1 x2 x3 x4 x5 x6 y0 y1 y2 y3 y4 y5 y6
  have C4 := hide' (C3.out.trans (b.mono C3.out.size))
  have CB' := hide' (CB.out.next b)
  clear CB
  have CB := CB'
  clear CB'
  have PX' := hide' (PX.out.below b)
  clear PX
  have PX := PX'
  clear PX'
  have PT' := hide' (PT.out.below b)
  clear PT
  have PT := PT'
  clear PT'
  have CX' := hide' (CX.out.trans (b.mono CX.out.size))
  clear CX
  have CX := CX'
  clear CX'
  obtain ⟨a4, c4, rfl, p4⟩ := t4.argT YM.out
  have PB := hide' p4
  clear t4 p4
  clear KB
  clear b C3
  obtain ⟨x0, x1, x2, x3, x4, x5, x6⟩ := RA.out.next C4.out
  obtain ⟨y0, y1, y2, y3, y4, y5, y6⟩ := RBB.out.next C4.out
  have KT := hide' (lineStep_ok S K TT (some ⟨g3, 0, none⟩) TT.length TT.length ws wa wc _ CL.out PT.out (AW.out.below C4.out) HE.out)
  rw [CS.out] at KT
  obtain ⟨q0, q1, q2, q3, q4, q5, q6, -⟩ := CB.out
  go_wp2_with fail
  refine (KT.out).mono ?_
  rintro e w5 ⟨v5, rfl, t5, -, b⟩
  clear q0 q1 q2 q3 q4 q5 q6
  clear x0 x1 x2 x3 x4 x5 x6 y0 y1 y2 y3 y4 y5 y6
  clear PT
  have C5 := hide' (C4.out.trans (b.mono C4.out.size))
  have CB' := hide' (CB.out.next b)
  clear CB
  have CB := CB'
  clear CB'
  have PX' := hide' (PX.out.below b)
  clear PX
  have PX := PX'
  clear PX'
  have PB' := hide' (PB.out.below b)
  clear PB
  have PB := PB'
  clear PB'
  have CX' := hide' (CX.out.trans (b.mono CX.out.size))
  clear CX
  have CX := CX'
  clear CX'
  obtain ⟨a5, c5, rfl, p5⟩ := t5.argT YM.out
  have PD := hide' p5
  clear t5 p5
  clear KT
  clear b C4
  obtain ⟨x0, x1, x2, x3, x4, x5, x6⟩ := RA.out.next C5.out
  obtain ⟨y0, y1, y2, y3, y4, y5, y6⟩ := RBB.out.next C5.out
  go_wp2_with fail
  refine (Ints_bothT _ _ _ _ _ _ _ _ PB.out PD.out).mono ?_
  rintro e w6 ⟨rfl, b⟩
  clear x0 x1 x2 x3 x4 x5 x6 y0 y1 y2 y3 y4 y5 y6
  clear PB
  clear PD
  have C6 := hide' (C5.out.trans (b.mono C5.out.size))
  have CB' := hide' (CB.out.next b)
  clear CB
  have CB := CB'
  clear CB'
  have PX' := hide' (PX.out.below b)
  clear PX
  have PX := PX'
  clear PX'
  have CX' := hide' (CX.out.trans (b.mono CX.out.size))
  clear CX
  have CX := CX'
  clear CX'
  clear b C5
  obtain ⟨x0, x1, x2, x3, x4, x5, x6⟩ := RA.out.next C6.out
  obtain ⟨y0, y1, y2, y3, y4, y5, y6⟩ := RBB.out.next C6.out
  have pcl := CB.out.lt
  have KW := hide' (widen_ok S Ra Ta k ta na ca _ HLa.out (AT.out.below C6.out) hk KZ.out)
  rw [GH.out, UH.out] at KW
  go_wp2_with fail
  refine (KW.out).mono ?_
  rintro e w7 ⟨g7, N7, rfl, hN7, hg7, ce7, b⟩
  subst hN7
  clear x0 x1 x2 x3 x4 x5 x6 y0 y1 y2 y3 y4 y5 y6
  have C7 := hide' (C6.out.trans (b.mono C6.out.size))
  have CB' := hide' (CB.out.next b)
  clear CB
  have CB := CB'
  clear CB'
  have PX' := hide' (PX.out.below b)
  clear PX
  have PX := PX'
  clear PX'
  have CX' := hide' (CX.out.trans (b.mono CX.out.size))
  clear CX
  have CX := CX'
  clear CX'
  have PU := hide' ce7
  have hug := hg7
  clear ce7 hg7 KW
  clear b C6
  obtain ⟨p0, p1, p2, p3, p4, p5, p6, pf⟩ := CB.out
  have pf0 := pf 0
  have pf1 := pf 1
  have pf2 := pf 2
  have pf3 := pf 3
  have pf4 := pf 4
  have pf5 := pf 5
  have pf6 := pf 6
  clear pf
  have C7' := hide' (seven_below C7.out HPC.out (.int .i64 2) (.int .i64 0) (.int .i64 0) (.int .i64 (S : Int)) (.int .i64 (k : Int)) (.slice (some ⟨g7, 0, none⟩) UU.length UU.length) (.string ⟨#[]⟩))
  clear C7
  have C7 := C7'
  clear C7'
  have CB' := hide' (CB.out.store (.int .i64 2) (.int .i64 0) (.int .i64 0) (.int .i64 (S : Int)) (.int .i64 (k : Int)) (.slice (some ⟨g7, 0, none⟩) UU.length UU.length) (.string ⟨#[]⟩))
  clear CB
  have CB := CB'
  clear CB'
  have CX' := hide' (seven_below CX.out (Nat.le_refl _) (.int .i64 2) (.int .i64 0) (.int .i64 0) (.int .i64 (S : Int)) (.int .i64 (k : Int)) (.slice (some ⟨g7, 0, none⟩) UU.length UU.length) (.string ⟨#[]⟩))
  clear CX
  have CX := CX'
  clear CX'
  clear PX
  have PX := hide' (PX0.out.below CX.out)
  clear PX0 CX
  have PU' := hide' (show ArgP _ UU (some ⟨g7, 0, none⟩) UU.length UU.length from ((seven_cel PU.out (p := w3.heap.size) (by omega) (.int .i64 2) (.int .i64 0) (.int .i64 0) (.int .i64 (S : Int)) (.int .i64 (k : Int)) (.slice (some ⟨g7, 0, none⟩) UU.length UU.length) (.string ⟨#[]⟩)).argP rfl (by have := WL.out.max; unfold maxLen; omega)))
  clear PU
  have PU := PU'
  clear PU'
  obtain ⟨x0, x1, x2, x3, x4, x5, x6⟩ := RA.out.next C7.out
  obtain ⟨y0, y1, y2, y3, y4, y5, y6⟩ := RBB.out.next C7.out
  have KU := hide' (lineStep_ok S k UU (some ⟨g7, 0, none⟩) UU.length UU.length ws wa wc _ WL.out PU.out (AW.out.below C7.out) HE.out)
  rw [WS.out] at KU
  obtain ⟨q0, q1, q2, q3, q4, q5, q6, -⟩ := CB.out
  go_wp2_with fail
  refine (KU.out).mono ?_
  rintro e w8 ⟨v8, rfl, t8, -, b⟩
  clear q0 q1 q2 q3 q4 q5 q6
  clear x0 x1 x2 x3 x4 x5 x6 y0 y1 y2 y3 y4 y5 y6
  clear PU
  have C8 := hide' (C7.out.trans (b.mono C7.out.size))
  have CB' := hide' (CB.out.next b)
  clear CB
  have CB := CB'
  clear CB'
  have PX' := hide' (PX.out.below b)
  clear PX
  have PX := PX'
  clear PX'
  obtain ⟨a8, c8, rfl, p8⟩ := t8.argT XM.out
  have PE := hide' p8
  clear t8 p8
  clear KU
  rw [XL.out] at PE ⊢
  clear b C7
  obtain ⟨x0, x1, x2, x3, x4, x5, x6⟩ := RA.out.next C8.out
  obtain ⟨y0, y1, y2, y3, y4, y5, y6⟩ := RBB.out.next C8.out
  clear p0 p1 p2 p3 p4 p5 p6 pf0 pf1 pf2 pf3 pf4 pf5 pf6
  go_wp2_with fail
  refine (Ints_bothT xs _ _ _ _ _ _ _ PX.out PE.out).mono ?_
  rintro e w9 ⟨rfl, b⟩
  clear x0 x1 x2 x3 x4 x5 x6 y0 y1 y2 y3 y4 y5 y6
  clear PX
  clear PE
  have C9 := hide' (C8.out.trans (b.mono C8.out.size))
  have CB' := hide' (CB.out.next b)
  clear CB
  have CB := CB'
  clear CB'
  clear b C8
  obtain ⟨x0, x1, x2, x3, x4, x5, x6⟩ := RA.out.next C9.out
  obtain ⟨y0, y1, y2, y3, y4, y5, y6⟩ := RBB.out.next C9.out
  go_wp2
  go_ret
  exact ⟨rfl, BB.out.trans (C9.out.mono BB.out.size)⟩
end Go.Proofs.Ytjngjnkecnnmeaa

