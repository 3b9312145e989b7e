/-
  What the last text of this claim leans on, part 28: LawT9.
-/
import Derived.Test.YtjngjnkecnnmeaaJt20
namespace Go.Proofs.Ytjngjnkecnnmeaa
open Go.RowKit
set_option linter.unusedVariables false

set_option maxRecDepth 100000 in
set_option maxHeartbeats 6400000 in
theorem law_shifts_ok_n_ok_ok (S Ra : Nat) (Ta : List Int) (Rb : Nat) (Tb : List Int) (ta : Option Addr) (na ca : Nat) (tb : Option Addr) (nb cb : Nat) (ws : List Int) (wa : Option Addr) (wc : Nat) (b : Int) (k : Nat) (w : World) (hLa : LineOk S Ra Ta) (hTa : ArgP w Ta ta na ca) (hW : ArgP w ws wa ws.length wc) (he : wordE S ws = 0) (h0 : 0 < ws.length) (hLb : LineOk S Rb Tb) (hTb : ArgP w Tb tb nb cb) (hsz : S ^ (2 * (Ra + Rb) + 1) ≤ 4096) (hk : Ra ≤ k) (hkz : S ^ (2 * k + 1) ≤ 4096) :
    Calls Try.prog 4 #[.agg #[.int .i64 2, .int .i64 0, .int .i64 0, .int .i64 (S : Int), .int .i64 (Ra : Int), .slice ta na ca, .string ⟨#[]⟩], .agg #[.int .i64 2, .int .i64 0, .int .i64 0, .int .i64 (S : Int), .int .i64 (Rb : Int), .slice tb nb cb, .string ⟨#[]⟩], .slice wa ws.length wc, .int .i64 b, .int .i64 (k : Int)] w fun e w' => e = .returned (.bool true) ∧ Below w.heap.size w w' := by
  obtain ⟨w1, hw1⟩ : ∃ w1, (w.alloc (.cells #[.int .i64 2, .int .i64 0, .int .i64 0, .int .i64 (S : Int), .int .i64 (Ra : Int), .slice ta na ca, .string ⟨#[]⟩] 28)).alloc (.cells #[.int .i64 2, .int .i64 0, .int .i64 0, .int .i64 (S : Int), .int .i64 (Rb : Int), .slice tb nb cb, .string ⟨#[]⟩] 28) = w1 := ⟨_, rfl⟩
  have BB := hide' (show Below w.heap.size w w1 by rw [← hw1]; exact ((Below.refl _ _).alloc (Nat.le_refl _) _).alloc (by simp) _)
  have RA := hide' (show RB w.heap.size S Ra (.slice ta na ca) w1 by
    rw [← hw1]
    exact (RB.new w S Ra (.slice ta na ca) 28).block (Below.heap_alloc _ _ _ (by simp)))
  have RBB := hide' (show RB (w.heap.size + 1) S Rb (.slice tb nb cb) w1 by
    have h := RB.new (w.alloc (.cells #[.int .i64 2, .int .i64 0, .int .i64 0, .int .i64 (S : Int), .int .i64 (Ra : Int), .slice ta na ca, .string ⟨#[]⟩] 28)) S Rb (.slice tb nb cb) 28
    rw [World.size_alloc, hw1] at h
    exact h)
  have AT := hide' (hTa.below BB.out)
  have AW := hide' (hW.below BB.out)
  have HLa := hide' hLa
  have HE := hide' he
  have s2 := hLa.s2
  have s4 := hLa.s4
  obtain ⟨hl, hok⟩ := wordE_zero he
  have HO := hide' hok
  have hlw : ws.length ≤ 1000 := hl
  have wm : ws.length ≤ maxLen := by unfold maxLen; omega
  obtain ⟨xs, hxs⟩ : ∃ xs, stepL S Ra Ta ws = xs := ⟨_, rfl⟩
  have XS := hide' hxs
  have XL := hide' (show xs.length = ws.length by rw [← hxs, stepL_length])
  have XO := hide' (show cellsOk S xs by rw [← hxs]; exact stepL_ok (by omega) hLa.lenI hLa.ok hok)
  have XE := hide' (show wordE S xs = 0 from wordE_ok (by rw [XL.out]; omega) XO.out)
  have n1 : ((ws.length : Int) != (ws.length : Int)) = false := by simp
  have d0 : (0 : Int) < (ws.length : Int) := by omega
  have ME := hide' (show wordE S (movedL ws b) = 0 from wordE_ok (by rw [movedL_length]; omega) (movedL_ok hok b))
  have MS := hide' (show stepL S Ra Ta (movedL ws b) = movedL xs b by rw [shift_step, hxs])
  have MXL := hide' (show (movedL xs b).length ≤ maxLen by rw [movedL_length, XL.out]; exact wm)
  have MWL := hide' (show (movedL ws b).length ≤ maxLen by rw [movedL_length]; exact wm)
  have H0 := hide' h0
  clear h0
  have ATb := hide' (hTb.below BB.out)
  have HLb := hide' hLb
  have HSZ := hide' hsz
  have CS := hide' (compose_step S Ra Rb Ta Tb ws (by omega) hok)
  have CL := hide' (compose_line S Ra Rb Ta Tb hLa hLb hsz)
  rw [hxs] at CS
  obtain ⟨K, hK⟩ : ∃ K, Ra + Rb = K := ⟨_, rfl⟩
  have HK := hide' hK
  obtain ⟨FF, hFF⟩ : ∃ FF : List Int → Int, (fun ds => (applyL S Rb Tb (applyL S Ra Ta ds)).getD 0 0) = FF := ⟨_, rfl⟩
  have FH := hide' hFF
  rw [hK, hFF] at CS CL
  obtain ⟨TT, hTT⟩ : ∃ TT, madeL S K FF = TT := ⟨_, rfl⟩
  have TH := hide' hTT
  rw [hTT] at CS CL
  obtain ⟨ys, hys⟩ : ∃ ys, stepL S Rb Tb xs = ys := ⟨_, rfl⟩
  have YS := hide' hys
  rw [hys] at CS
  have YM := hide' (show ys.length ≤ maxLen by rw [← hys, stepL_length, XL.out]; exact wm)
  clear hK hFF hTT hys hsz hTb hLb
  have WS := hide' (widen_step S Ra k Ta ws (by omega) hk hok)
  have WL := hide' (widen_line S Ra k Ta hLa hk hkz)
  have KZ := hide' hkz
  rw [hxs] at WS
  obtain ⟨GG, hGG⟩ : ∃ GG : List Int → Int, (fun ds : List Int => (applyL S Ra Ta ((ds.drop (k - Ra)).take (2 * Ra + 1))).getD 0 0) = GG := ⟨_, rfl⟩
  have GH := hide' hGG
  rw [hGG] at WS WL
  obtain ⟨UU, hUU⟩ : ∃ UU, madeL S k GG = UU := ⟨_, rfl⟩
  have UH := hide' hUU
  rw [hUU] at WS WL
  clear hGG hUU hkz
  have XM := hide' (show xs.length ≤ maxLen by rw [XL.out]; exact wm)
  clear hTa hW hLa he hl hok hxs
  have F1 := hide' (cel_two w1 1 0 3)
  have F2 := hide' (cel_two (w1.alloc (.cells #[.int .i64 1, .int .i64 0] 3)) 0 1 3)
  have F1b := hide' (F1.out.below ((Below.refl _ _).alloc (Nat.le_refl _) (.cells #[.int .i64 0, .int .i64 1] 3)))
  rw [World.size_alloc] at F2
  have C0 := hide' (show Below w1.heap.size w1 ((w1.alloc (.cells #[.int .i64 1, .int .i64 0] 3)).alloc (.cells #[.int .i64 0, .int .i64 1] 3)) from ((Below.refl _ _).alloc (Nat.le_refl _) _).alloc (by simp) _)
  obtain ⟨x0, x1, x2, x3, x4, x5, x6⟩ := RA.out.next C0.out
  obtain ⟨y0, y1, y2, y3, y4, y5, y6⟩ := RBB.out.next C0.out
  go_enter Try.func4, Try.ntmps4
  go_wp2_with fail
  refine (fact_step w1.heap.size (w1.heap.size + 1) _ F1b.out F2.out).mono ?_
  rintro e w2 ⟨v2, rfl, t2, -, b⟩
  have C1 := hide' (C0.out.trans (b.mono C0.out.size))
  obtain ⟨g2, c2, rfl, k20, k21⟩ := fact_tab t2
  clear b t2 hw1 F1 F1b F2 C0 x0 x1 x2 x3 x4 x5 x6 y0 y1 y2 y3 y4 y5 y6
  obtain ⟨x0, x1, x2, x3, x4, x5, x6⟩ := RA.out.next C1.out
  obtain ⟨y0, y1, y2, y3, y4, y5, y6⟩ := RBB.out.next C1.out
  have KS := hide' (lineStep_ok S Ra Ta ta na ca ws wa wc _ HLa.out (AT.out.below C1.out) (AW.out.below C1.out) HE.out)
  rw [XS.out] at KS
  go_wp2_with fail
  refine (KS.out).mono ?_
  rintro e w2 ⟨v2, rfl, t2, -, b⟩
  clear x0 x1 x2 x3 x4 x5 x6 y0 y1 y2 y3 y4 y5 y6
  have C2 := hide' (C1.out.trans (b.mono C1.out.size))
  obtain ⟨a2, c2, rfl, p2⟩ := t2.argT XM.out
  have PX := hide' p2
  clear t2 p2
  clear KS k20 k21
  rw [XL.out] at PX ⊢
  clear b C1
  obtain ⟨x0, x1, x2, x3, x4, x5, x6⟩ := RA.out.next C2.out
  obtain ⟨y0, y1, y2, y3, y4, y5, y6⟩ := RBB.out.next C2.out
  have D0 := hide' (show Below w2.heap.size w2 w2.drew from (Below.refl _ _).drew)
  have KM := hide' (moved_any ws wa wc b w2.drew (((AW.out.below C2.out)).below D0.out) (by omega) hlw)
  have ATd := hide' (((AT.out.below C2.out)).below D0.out)
  go_wp2
  go_region_with
    (first
      | (go_at_call 7; refine KM.out.mono ?_; rintro e w2m ⟨vm, rfl, tm, bm⟩; obtain ⟨am, cm, rfl, pm⟩ := tm.argT MWL.out; have DM := hide' (D0.out.trans (bm.mono (by have := D0.out.size; omega))); have PM := hide' pm; obtain ⟨z0, z1, z2, z3, z4, z5, z6⟩ := RA.out.next (C2.out.trans (DM.out.mono C2.out.size)); clear tm pm bm)
      | (go_at_call 6; refine (lineStep_ok S Ra Ta ta na ca (movedL ws b) am cm _ HLa.out (((AT.out.below C2.out)).below DM.out) PM.out ME.out).mono ?_; rintro e w3 ⟨v3, rfl, t3, -, bs⟩; rw [MS.out] at t3; obtain ⟨a3, c3, rfl, p3⟩ := t3.argT MXL.out; have DS := hide' (DM.out.trans (bs.mono (by have := DM.out.size; omega))); have PY := hide' p3; clear t3 p3 bs))
  all_goals
    clear x0 x1 x2 x3 x4 x5 x6 y0 y1 y2 y3 y4 y5 y6 KM ATd
    have b := DS.out
    have C3 := hide' (C2.out.trans (b.mono C2.out.size))
    have PX' := hide' (PX.out.below b)
    clear PX
    have PX := PX'
    clear PX'
    clear b C2 DM PM DS D0
    obtain ⟨x0, x1, x2, x3, x4, x5, x6⟩ := RA.out.next C3.out
    obtain ⟨y0, y1, y2, y3, y4, y5, y6⟩ := RBB.out.next C3.out
    have KZm := hide' (moved_any xs a2 c2 b w3 (by rw [XL.out]; exact PX.out) (by rw [XL.out]; omega) (by rw [XL.out]; exact hlw))
    rw [XL.out] at KZm
    go_wp2_with fail
    refine (KZm.out).mono ?_
    rintro e w4 ⟨v4, rfl, t4, b⟩
    clear x0 x1 x2 x3 x4 x5 x6 y0 y1 y2 y3 y4 y5 y6
    have C4 := hide' (C3.out.trans (b.mono C3.out.size))
    have PX' := hide' (PX.out.below b)
    clear PX
    have PX := PX'
    clear PX'
    have PY' := hide' (PY.out.below b)
    clear PY
    have PY := PY'
    clear PY'
    obtain ⟨a4, c4, rfl, p4⟩ := t4.argT MXL.out
    have PZ := hide' p4
    clear t4 p4
    clear KZm
    clear b C3
    obtain ⟨x0, x1, x2, x3, x4, x5, x6⟩ := RA.out.next C4.out
    obtain ⟨y0, y1, y2, y3, y4, y5, y6⟩ := RBB.out.next C4.out
    go_wp2_with fail
    refine (Ints_bothT _ _ _ _ _ _ _ _ PY.out PZ.out).mono ?_
    rintro e w5 ⟨rfl, b⟩
    clear x0 x1 x2 x3 x4 x5 x6 y0 y1 y2 y3 y4 y5 y6
    clear PY
    clear PZ
    have C5 := hide' (C4.out.trans (b.mono C4.out.size))
    have PX' := hide' (PX.out.below b)
    clear PX
    have PX := PX'
    clear PX'
    clear b C4
    obtain ⟨x0, x1, x2, x3, x4, x5, x6⟩ := RA.out.next C5.out
    obtain ⟨y0, y1, y2, y3, y4, y5, y6⟩ := RBB.out.next C5.out
    have KC := hide' (compose_ok S Ra Ta Rb Tb ta na ca tb nb cb _ HLa.out (AT.out.below C5.out) HLb.out (ATb.out.below C5.out) HSZ.out)
    rw [HK.out, FH.out, TH.out] at KC
    go_wp2_with fail
    refine (KC.out).mono ?_
    rintro e w6 ⟨g6, N6, rfl, hN6, hg6, ce6, b⟩
    subst hN6
    clear x0 x1 x2 x3 x4 x5 x6 y0 y1 y2 y3 y4 y5 y6
    have C6 := hide' (C5.out.trans (b.mono C5.out.size))
    have PX' := hide' (PX.out.below b)
    clear PX
    have PX := PX'
    clear PX'
    have HPC := hide' C6.out.size
    have PT := hide' (show ArgP w6 TT (some ⟨g6, 0, none⟩) TT.length TT.length from ce6.argP rfl (by have := CL.out.max; unfold maxLen; omega))
    clear ce6 hg6 KC b C5
    have PX0 := hide' PX.out
    have CX := hide' ((Below.refl w6.heap.size w6).alloc (Nat.le_refl _) (.cells #[.int .i64 2, .int .i64 0, .int .i64 0, .int .i64 (S : Int), .int .i64 (K : Int), .slice (some ⟨g6, 0, none⟩) TT.length TT.length, .string ⟨#[]⟩] 28))
    have C6' := hide' (C6.out.alloc C6.out.size (.cells #[.int .i64 2, .int .i64 0, .int .i64 0, .int .i64 (S : Int), .int .i64 (K : Int), .slice (some ⟨g6, 0, none⟩) TT.length TT.length, .string ⟨#[]⟩] 28))
    clear C6
    have C6 := C6'
    clear C6'
    have PX' := hide' (PX.out.alloc (.cells #[.int .i64 2, .int .i64 0, .int .i64 0, .int .i64 (S : Int), .int .i64 (K : Int), .slice (some ⟨g6, 0, none⟩) TT.length TT.length, .string ⟨#[]⟩] 28))
    clear PX
    have PX := PX'
    clear PX'
    have PT' := hide' (PT.out.alloc (.cells #[.int .i64 2, .int .i64 0, .int .i64 0, .int .i64 (S : Int), .int .i64 (K : Int), .slice (some ⟨g6, 0, none⟩) TT.length TT.length, .string ⟨#[]⟩] 28))
    clear PT
    have PT := PT'
    clear PT'
    have CB := hide' (S7.new w6 (.int .i64 2) (.int .i64 0) (.int .i64 0) (.int .i64 (S : Int)) (.int .i64 (K : Int)) (.slice (some ⟨g6, 0, none⟩) TT.length TT.length) (.string ⟨#[]⟩) 28)
    obtain ⟨x0, x1, x2, x3, x4, x5, x6⟩ := RA.out.next C6.out
    obtain ⟨y0, y1, y2, y3, y4, y5, y6⟩ := RBB.out.next C6.out
    have KB := hide' (lineStep_ok S Rb Tb tb nb cb xs a2 c2 _ HLb.out (ATb.out.below C6.out) (by rw [XL.out]; exact PX.out) XE.out)
    rw [XL.out, YS.out] at KB
    go_wp2_with fail
    refine (KB.out).mono ?_
    rintro e w7 ⟨v7, rfl, t7, -, b⟩
    clear x0 x1 x2 x3 x4 x5 x6 y0 y1 y2 y3 y4 y5 y6
    have C7 := hide' (C6.out.trans (b.mono C6.out.size))
    have CB' := hide' (CB.out.next b)
    clear CB
    have CB := CB'
    clear CB'
    have PX' := hide' (PX.out.below b)
    clear PX
    have PX := PX'
    clear PX'
    have PT' := hide' (PT.out.below b)
    clear PT
    have PT := PT'
    clear PT'
    have CX' := hide' (CX.out.trans (b.mono CX.out.size))
    clear CX
    have CX := CX'
    clear CX'
    obtain ⟨a7, c7, rfl, p7⟩ := t7.argT YM.out
    have PB := hide' p7
    clear t7 p7
    clear KB
    clear b C6
    obtain ⟨x0, x1, x2, x3, x4, x5, x6⟩ := RA.out.next C7.out
    obtain ⟨y0, y1, y2, y3, y4, y5, y6⟩ := RBB.out.next C7.out
    have KT := hide' (lineStep_ok S K TT (some ⟨g6, 0, none⟩) TT.length TT.length ws wa wc _ CL.out PT.out (AW.out.below C7.out) HE.out)
    rw [CS.out] at KT
    obtain ⟨q0, q1, q2, q3, q4, q5, q6, -⟩ := CB.out
    go_wp2_with fail
    refine (KT.out).mono ?_
    rintro e w8 ⟨v8, rfl, t8, -, b⟩
    clear q0 q1 q2 q3 q4 q5 q6
    clear x0 x1 x2 x3 x4 x5 x6 y0 y1 y2 y3 y4 y5 y6
    clear PT
    have C8 := hide' (C7.out.trans (b.mono C7.out.size))
    have CB' := hide' (CB.out.next b)
    clear CB
    have CB := CB'
    clear CB'
    have PX' := hide' (PX.out.below b)
    clear PX
    have PX := PX'
    clear PX'
    have PB' := hide' (PB.out.below b)
    clear PB
    have PB := PB'
    clear PB'
    have CX' := hide' (CX.out.trans (b.mono CX.out.size))
    clear CX
    have CX := CX'
    clear CX'
    obtain ⟨a8, c8, rfl, p8⟩ := t8.argT YM.out
    have PD := hide' p8
    clear t8 p8
    clear KT
    clear b C7
    obtain ⟨x0, x1, x2, x3, x4, x5, x6⟩ := RA.out.next C8.out
    obtain ⟨y0, y1, y2, y3, y4, y5, y6⟩ := RBB.out.next C8.out
    go_wp2_with fail
    refine (Ints_bothT _ _ _ _ _ _ _ _ PB.out PD.out).mono ?_
    rintro e w9 ⟨rfl, b⟩
    clear x0 x1 x2 x3 x4 x5 x6 y0 y1 y2 y3 y4 y5 y6
    clear PB
    clear PD
    have C9 := hide' (C8.out.trans (b.mono C8.out.size))
    have CB' := hide' (CB.out.next b)
    clear CB
    have CB := CB'
    clear CB'
    have PX' := hide' (PX.out.below b)
    clear PX
    have PX := PX'
    clear PX'
    have CX' := hide' (CX.out.trans (b.mono CX.out.size))
    clear CX
    have CX := CX'
    clear CX'
    clear b C8
    obtain ⟨x0, x1, x2, x3, x4, x5, x6⟩ := RA.out.next C9.out
    obtain ⟨y0, y1, y2, y3, y4, y5, y6⟩ := RBB.out.next C9.out
    have pcl := CB.out.lt
    have KW := hide' (widen_ok S Ra Ta k ta na ca _ HLa.out (AT.out.below C9.out) hk KZ.out)
    rw [GH.out, UH.out] at KW
    go_wp2_with fail
    refine (KW.out).mono ?_
    rintro e w10 ⟨g10, N10, rfl, hN10, hg10, ce10, b⟩
    subst hN10
    clear x0 x1 x2 x3 x4 x5 x6 y0 y1 y2 y3 y4 y5 y6
    have C10 := hide' (C9.out.trans (b.mono C9.out.size))
    have CB' := hide' (CB.out.next b)
    clear CB
    have CB := CB'
    clear CB'
    have PX' := hide' (PX.out.below b)
    clear PX
    have PX := PX'
    clear PX'
    have CX' := hide' (CX.out.trans (b.mono CX.out.size))
    clear CX
    have CX := CX'
    clear CX'
    have PU := hide' ce10
    have hug := hg10
    clear ce10 hg10 KW
    clear b C9
    obtain ⟨p0, p1, p2, p3, p4, p5, p6, pf⟩ := CB.out
    have pf0 := pf 0
    have pf1 := pf 1
    have pf2 := pf 2
    have pf3 := pf 3
    have pf4 := pf 4
    have pf5 := pf 5
    have pf6 := pf 6
    clear pf
    have C10' := hide' (seven_below C10.out HPC.out (.int .i64 2) (.int .i64 0) (.int .i64 0) (.int .i64 (S : Int)) (.int .i64 (k : Int)) (.slice (some ⟨g10, 0, none⟩) UU.length UU.length) (.string ⟨#[]⟩))
    clear C10
    have C10 := C10'
    clear C10'
    have CB' := hide' (CB.out.store (.int .i64 2) (.int .i64 0) (.int .i64 0) (.int .i64 (S : Int)) (.int .i64 (k : Int)) (.slice (some ⟨g10, 0, none⟩) UU.length UU.length) (.string ⟨#[]⟩))
    clear CB
    have CB := CB'
    clear CB'
    have CX' := hide' (seven_below CX.out (Nat.le_refl _) (.int .i64 2) (.int .i64 0) (.int .i64 0) (.int .i64 (S : Int)) (.int .i64 (k : Int)) (.slice (some ⟨g10, 0, none⟩) UU.length UU.length) (.string ⟨#[]⟩))
    clear CX
    have CX := CX'
    clear CX'
    clear PX
    have PX := hide' (PX0.out.below CX.out)
    clear PX0 CX
    have PU' := hide' (show ArgP _ UU (some ⟨g10, 0, none⟩) UU.length UU.length from ((seven_cel PU.out (p := w6.heap.size) (by omega) (.int .i64 2) (.int .i64 0) (.int .i64 0) (.int .i64 (S : Int)) (.int .i64 (k : Int)) (.slice (some ⟨g10, 0, none⟩) UU.length UU.length) (.string ⟨#[]⟩)).argP rfl (by have := WL.out.max; unfold maxLen; omega)))
    clear PU
    have PU := PU'
    clear PU'
    obtain ⟨x0, x1, x2, x3, x4, x5, x6⟩ := RA.out.next C10.out
    obtain ⟨y0, y1, y2, y3, y4, y5, y6⟩ := RBB.out.next C10.out
    have KU := hide' (lineStep_ok S k UU (some ⟨g10, 0, none⟩) UU.length UU.length ws wa wc _ WL.out PU.out (AW.out.below C10.out) HE.out)
    rw [WS.out] at KU
    obtain ⟨q0, q1, q2, q3, q4, q5, q6, -⟩ := CB.out
    go_wp2_with fail
    refine (KU.out).mono ?_
    rintro e w11 ⟨v11, rfl, t11, -, b⟩
    clear q0 q1 q2 q3 q4 q5 q6
    clear x0 x1 x2 x3 x4 x5 x6 y0 y1 y2 y3 y4 y5 y6
    clear PU
    have C11 := hide' (C10.out.trans (b.mono C10.out.size))
    have CB' := hide' (CB.out.next b)
    clear CB
    have CB := CB'
    clear CB'
    have PX' := hide' (PX.out.below b)
    clear PX
    have PX := PX'
    clear PX'
    obtain ⟨a11, c11, rfl, p11⟩ := t11.argT XM.out
    have PE := hide' p11
    clear t11 p11
    clear KU
    rw [XL.out] at PE ⊢
    clear b C10
    obtain ⟨x0, x1, x2, x3, x4, x5, x6⟩ := RA.out.next C11.out
    obtain ⟨y0, y1, y2, y3, y4, y5, y6⟩ := RBB.out.next C11.out
    clear p0 p1 p2 p3 p4 p5 p6 pf0 pf1 pf2 pf3 pf4 pf5 pf6
    go_wp2_with fail
    refine (Ints_bothT xs _ _ _ _ _ _ _ PX.out PE.out).mono ?_
    rintro e w12 ⟨rfl, b⟩
    clear x0 x1 x2 x3 x4 x5 x6 y0 y1 y2 y3 y4 y5 y6
    clear PX
    clear PE
    have C12 := hide' (C11.out.trans (b.mono C11.out.size))
    have CB' := hide' (CB.out.next b)
    clear CB
    have CB := CB'
    clear CB'
    clear b C11
    obtain ⟨x0, x1, x2, x3, x4, x5, x6⟩ := RA.out.next C12.out
    obtain ⟨y0, y1, y2, y3, y4, y5, y6⟩ := RBB.out.next C12.out
    go_wp2
    go_ret
    exact ⟨rfl, BB.out.trans (C12.out.mono BB.out.size)⟩
end Go.Proofs.Ytjngjnkecnnmeaa

