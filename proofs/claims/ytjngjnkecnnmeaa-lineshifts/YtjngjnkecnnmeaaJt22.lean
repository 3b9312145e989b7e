/-
  What the last text of this claim leans on, part 22: LawT3.
-/
import Derived.Test.YtjngjnkecnnmeaaJt20
namespace Go.Proofs.Ytjngjnkecnnmeaa
open Go.RowKit
set_option linter.unusedVariables false

set_option maxRecDepth 100000 in
set_option maxHeartbeats 6400000 in
theorem law_shifts_ok_e_err_ok (S Ra : Nat) (Ta : List Int) (o' : Out) (ta : Option Addr) (na ca : Nat) (tb : Option Addr) (nb cb : Nat) (ws : List Int) (wa : Option Addr) (wc : Nat) (b : Int) (k : Nat) (w : World) (hLa : LineOk S Ra Ta) (hTa : ArgP w Ta ta na ca) (hW : ArgP w ws wa ws.length wc) (he : wordE S ws = 0) (h0 : ws.length = 0) (f : Nat) (hCE : ∀ wr, Below w.heap.size w wr → Calls Try.prog 9 #[.agg #[.int .i64 2, .int .i64 0, .int .i64 0, .int .i64 (S : Int), .int .i64 (Ra : Int), .slice ta na ca, .string ⟨#[]⟩], .agg #[.int .i64 o'.kind, .int .i64 o'.born, .int .i64 o'.stay, .int .i64 o'.states, .int .i64 o'.radius, .slice tb nb cb, .string o'.turns]] wr (RuleErr f wr)) (hk : Ra ≤ k) (hkz : S ^ (2 * k + 1) ≤ 4096) :
    Calls Try.prog 4 #[.agg #[.int .i64 2, .int .i64 0, .int .i64 0, .int .i64 (S : Int), .int .i64 (Ra : Int), .slice ta na ca, .string ⟨#[]⟩], .agg #[.int .i64 o'.kind, .int .i64 o'.born, .int .i64 o'.stay, .int .i64 o'.states, .int .i64 o'.radius, .slice tb nb cb, .string o'.turns], .slice wa ws.length wc, .int .i64 b, .int .i64 (k : Int)] w fun e w' => e = .returned (.bool true) ∧ Below w.heap.size w w' := by
  obtain ⟨w1, hw1⟩ : ∃ w1, (w.alloc (.cells #[.int .i64 2, .int .i64 0, .int .i64 0, .int .i64 (S : Int), .int .i64 (Ra : Int), .slice ta na ca, .string ⟨#[]⟩] 28)).alloc (.cells #[.int .i64 o'.kind, .int .i64 o'.born, .int .i64 o'.stay, .int .i64 o'.states, .int .i64 o'.radius, .slice tb nb cb, .string o'.turns] 28) = w1 := ⟨_, rfl⟩
  have BB := hide' (show Below w.heap.size w w1 by rw [← hw1]; exact ((Below.refl _ _).alloc (Nat.le_refl _) _).alloc (by simp) _)
  have RA := hide' (show RB w.heap.size S Ra (.slice ta na ca) w1 by
    rw [← hw1]
    exact (RB.new w S Ra (.slice ta na ca) 28).block (Below.heap_alloc _ _ _ (by simp)))
  have RBB := hide' (show RBo (w.heap.size + 1) o' (.slice tb nb cb) w1 by
    have h := RBo.new (w.alloc (.cells #[.int .i64 2, .int .i64 0, .int .i64 0, .int .i64 (S : Int), .int .i64 (Ra : Int), .slice ta na ca, .string ⟨#[]⟩] 28)) o' (.slice tb nb cb) 28
    rw [World.size_alloc, hw1] at h
    exact h)
  have AT := hide' (hTa.below BB.out)
  have AW := hide' (hW.below BB.out)
  have HLa := hide' hLa
  have HE := hide' he
  have s2 := hLa.s2
  have s4 := hLa.s4
  obtain ⟨hl, hok⟩ := wordE_zero he
  have HO := hide' hok
  have hlw : ws.length ≤ 1000 := hl
  have wm : ws.length ≤ maxLen := by unfold maxLen; omega
  obtain ⟨xs, hxs⟩ : ∃ xs, stepL S Ra Ta ws = xs := ⟨_, rfl⟩
  have XS := hide' hxs
  have XL := hide' (show xs.length = ws.length by rw [← hxs, stepL_length])
  have XO := hide' (show cellsOk S xs by rw [← hxs]; exact stepL_ok (by omega) hLa.lenI hLa.ok hok)
  have XE := hide' (show wordE S xs = 0 from wordE_ok (by rw [XL.out]; omega) XO.out)
  have n1 : ((ws.length : Int) != (ws.length : Int)) = false := by simp
  have d0 : ¬ (0 : Int) < (ws.length : Int) := by omega
  have H0 := hide' h0
  clear h0
  have CE := hide' (fun wr (h : Below w1.heap.size w1 wr) => hCE wr (BB.out.trans (h.mono BB.out.size)))
  clear hCE
  have WS := hide' (widen_step S Ra k Ta ws (by omega) hk hok)
  have WL := hide' (widen_line S Ra k Ta hLa hk hkz)
  have KZ := hide' hkz
  rw [hxs] at WS
  obtain ⟨GG, hGG⟩ : ∃ GG : List Int → Int, (fun ds : List Int => (applyL S Ra Ta ((ds.drop (k - Ra)).take (2 * Ra + 1))).getD 0 0) = GG := ⟨_, rfl⟩
  have GH := hide' hGG
  rw [hGG] at WS WL
  obtain ⟨UU, hUU⟩ : ∃ UU, madeL S k GG = UU := ⟨_, rfl⟩
  have UH := hide' hUU
  rw [hUU] at WS WL
  clear hGG hUU hkz
  have XM := hide' (show xs.length ≤ maxLen by rw [XL.out]; exact wm)
  clear hTa hW hLa he hl hok hxs
  have F1 := hide' (cel_two w1 1 0 3)
  have F2 := hide' (cel_two (w1.alloc (.cells #[.int .i64 1, .int .i64 0] 3)) 0 1 3)
  have F1b := hide' (F1.out.below ((Below.refl _ _).alloc (Nat.le_refl _) (.cells #[.int .i64 0, .int .i64 1] 3)))
  rw [World.size_alloc] at F2
  have C0 := hide' (show Below w1.heap.size w1 ((w1.alloc (.cells #[.int .i64 1, .int .i64 0] 3)).alloc (.cells #[.int .i64 0, .int .i64 1] 3)) from ((Below.refl _ _).alloc (Nat.le_refl _) _).alloc (by simp) _)
  obtain ⟨x0, x1, x2, x3, x4, x5, x6⟩ := RA.out.next C0.out
  obtain ⟨y0, y1, y2, y3, y4, y5, y6⟩ := RBB.out.next C0.out
  go_enter Try.func4, Try.ntmps4
  go_wp2_with fail
  refine (fact_step w1.heap.size (w1.heap.size + 1) _ F1b.out F2.out).mono ?_
  rintro e w2 ⟨v2, rfl, t2, -, b⟩
  have C1 := hide' (C0.out.trans (b.mono C0.out.size))
  obtain ⟨g2, c2, rfl, k20, k21⟩ := fact_tab t2
  clear b t2 hw1 F1 F1b F2 C0 x0 x1 x2 x3 x4 x5 x6 y0 y1 y2 y3 y4 y5 y6
  obtain ⟨x0, x1, x2, x3, x4, x5, x6⟩ := RA.out.next C1.out
  obtain ⟨y0, y1, y2, y3, y4, y5, y6⟩ := RBB.out.next C1.out
  have KS := hide' (lineStep_ok S Ra Ta ta na ca ws wa wc _ HLa.out (AT.out.below C1.out) (AW.out.below C1.out) HE.out)
  rw [XS.out] at KS
  go_wp2_with fail
  refine (KS.out).mono ?_
  rintro e w2 ⟨v2, rfl, t2, -, b⟩
  clear x0 x1 x2 x3 x4 x5 x6 y0 y1 y2 y3 y4 y5 y6
  have C2 := hide' (C1.out.trans (b.mono C1.out.size))
  obtain ⟨a2, c2, rfl, p2⟩ := t2.argT XM.out
  have PX := hide' p2
  clear t2 p2
  clear KS k20 k21
  rw [XL.out] at PX ⊢
  clear b C1
  obtain ⟨x0, x1, x2, x3, x4, x5, x6⟩ := RA.out.next C2.out
  obtain ⟨y0, y1, y2, y3, y4, y5, y6⟩ := RBB.out.next C2.out
  go_wp2_with fail
  refine (CE.out _ C2.out).mono ?_
  unfold RuleErr
  rintro e w3 ⟨rfl, b⟩
  clear x0 x1 x2 x3 x4 x5 x6 y0 y1 y2 y3 y4 y5 y6
  have C3 := hide' (C2.out.trans (b.mono C2.out.size))
  have PX' := hide' (PX.out.below b)
  clear PX
  have PX := PX'
  clear PX'
  have HPC := hide' C3.out.size
  clear b C2 CE
  have PX0 := hide' PX.out
  have CX := hide' ((Below.refl w3.heap.size w3).alloc (Nat.le_refl _) (.cells #[.int .i64 0, .int .i64 0, .int .i64 0, .int .i64 0, .int .i64 0, .slice none 0 0, .string ⟨#[]⟩] 28))
  have C3' := hide' (C3.out.alloc C3.out.size (.cells #[.int .i64 0, .int .i64 0, .int .i64 0, .int .i64 0, .int .i64 0, .slice none 0 0, .string ⟨#[]⟩] 28))
  clear C3
  have C3 := C3'
  clear C3'
  have PX' := hide' (PX.out.alloc (.cells #[.int .i64 0, .int .i64 0, .int .i64 0, .int .i64 0, .int .i64 0, .slice none 0 0, .string ⟨#[]⟩] 28))
  clear PX
  have PX := PX'
  clear PX'
  have CB := hide' (S7.new w3 (.int .i64 0) (.int .i64 0) (.int .i64 0) (.int .i64 0) (.int .i64 0) (.slice none 0 0) (.string ⟨#[]⟩) 28)
  obtain ⟨x0, x1, x2, x3, x4, x5, x6⟩ := RA.out.next C3.out
  obtain ⟨y0, y1, y2, y3, y4, y5, y6⟩ := RBB.out.next C3.out
  have pcl := CB.out.lt
  have KW := hide' (widen_ok S Ra Ta k ta na ca _ HLa.out (AT.out.below C3.out) hk KZ.out)
  rw [GH.out, UH.out] at KW
  go_wp2_with fail
  refine (KW.out).mono ?_
  rintro e w4 ⟨g4, N4, rfl, hN4, hg4, ce4, b⟩
  subst hN4
  clear x0 x1 x2 x3 x4 x5 x6 y0 y1 y2 y3 y4 y5 y6
  have C4 := hide' (C3.out.trans (b.mono C3.out.size))
  have CB' := hide' (CB.out.next b)
  clear CB
  have CB := CB'
  clear CB'
  have PX' := hide' (PX.out.below b)
  clear PX
  have PX := PX'
  clear PX'
  have CX' := hide' (CX.out.trans (b.mono CX.out.size))
  clear CX
  have CX := CX'
  clear CX'
  have PU := hide' ce4
  have hug := hg4
  clear ce4 hg4 KW
  clear b C3
  obtain ⟨p0, p1, p2, p3, p4, p5, p6, pf⟩ := CB.out
  have pf0 := pf 0
  have pf1 := pf 1
  have pf2 := pf 2
  have pf3 := pf 3
  have pf4 := pf 4
  have pf5 := pf 5
  have pf6 := pf 6
  clear pf
  have C4' := hide' (seven_below C4.out HPC.out (.int .i64 2) (.int .i64 0) (.int .i64 0) (.int .i64 (S : Int)) (.int .i64 (k : Int)) (.slice (some ⟨g4, 0, none⟩) UU.length UU.length) (.string ⟨#[]⟩))
  clear C4
  have C4 := C4'
  clear C4'
  have CB' := hide' (CB.out.store (.int .i64 2) (.int .i64 0) (.int .i64 0) (.int .i64 (S : Int)) (.int .i64 (k : Int)) (.slice (some ⟨g4, 0, none⟩) UU.length UU.length) (.string ⟨#[]⟩))
  clear CB
  have CB := CB'
  clear CB'
  have CX' := hide' (seven_below CX.out (Nat.le_refl _) (.int .i64 2) (.int .i64 0) (.int .i64 0) (.int .i64 (S : Int)) (.int .i64 (k : Int)) (.slice (some ⟨g4, 0, none⟩) UU.length UU.length) (.string ⟨#[]⟩))
  clear CX
  have CX := CX'
  clear CX'
  clear PX
  have PX := hide' (PX0.out.below CX.out)
  clear PX0 CX
  have PU' := hide' (show ArgP _ UU (some ⟨g4, 0, none⟩) UU.length UU.length from ((seven_cel PU.out (p := w3.heap.size) (by omega) (.int .i64 2) (.int .i64 0) (.int .i64 0) (.int .i64 (S : Int)) (.int .i64 (k : Int)) (.slice (some ⟨g4, 0, none⟩) UU.length UU.length) (.string ⟨#[]⟩)).argP rfl (by have := WL.out.max; unfold maxLen; omega)))
  clear PU
  have PU := PU'
  clear PU'
  obtain ⟨x0, x1, x2, x3, x4, x5, x6⟩ := RA.out.next C4.out
  obtain ⟨y0, y1, y2, y3, y4, y5, y6⟩ := RBB.out.next C4.out
  have KU := hide' (lineStep_ok S k UU (some ⟨g4, 0, none⟩) UU.length UU.length ws wa wc _ WL.out PU.out (AW.out.below C4.out) HE.out)
  rw [WS.out] at KU
  obtain ⟨q0, q1, q2, q3, q4, q5, q6, -⟩ := CB.out
  go_wp2_with fail
  refine (KU.out).mono ?_
  rintro e w5 ⟨v5, rfl, t5, -, b⟩
  clear q0 q1 q2 q3 q4 q5 q6
  clear x0 x1 x2 x3 x4 x5 x6 y0 y1 y2 y3 y4 y5 y6
  clear PU
  have C5 := hide' (C4.out.trans (b.mono C4.out.size))
  have CB' := hide' (CB.out.next b)
  clear CB
  have CB := CB'
  clear CB'
  have PX' := hide' (PX.out.below b)
  clear PX
  have PX := PX'
  clear PX'
  obtain ⟨a5, c5, rfl, p5⟩ := t5.argT XM.out
  have PE := hide' p5
  clear t5 p5
  clear KU
  rw [XL.out] at PE ⊢
  clear b C4
  obtain ⟨x0, x1, x2, x3, x4, x5, x6⟩ := RA.out.next C5.out
  obtain ⟨y0, y1, y2, y3, y4, y5, y6⟩ := RBB.out.next C5.out
  clear p0 p1 p2 p3 p4 p5 p6 pf0 pf1 pf2 pf3 pf4 pf5 pf6
  go_wp2_with fail
  refine (Ints_bothT xs _ _ _ _ _ _ _ PX.out PE.out).mono ?_
  rintro e w6 ⟨rfl, b⟩
  clear x0 x1 x2 x3 x4 x5 x6 y0 y1 y2 y3 y4 y5 y6
  clear PX
  clear PE
  have C6 := hide' (C5.out.trans (b.mono C5.out.size))
  have CB' := hide' (CB.out.next b)
  clear CB
  have CB := CB'
  clear CB'
  clear b C5
  obtain ⟨x0, x1, x2, x3, x4, x5, x6⟩ := RA.out.next C6.out
  obtain ⟨y0, y1, y2, y3, y4, y5, y6⟩ := RBB.out.next C6.out
  go_wp2
  go_ret
  exact ⟨rfl, BB.out.trans (C6.out.mono BB.out.size)⟩
end Go.Proofs.Ytjngjnkecnnmeaa

