/-
  What the last text of this claim leans on, part 25: LawT6.
-/
import Derived.Test.YtjngjnkecnnmeaaJt20
namespace Go.Proofs.Ytjngjnkecnnmeaa
open Go.RowKit
set_option linter.unusedVariables false

set_option maxRecDepth 100000 in
set_option maxHeartbeats 6400000 in
theorem law_shifts_ok_n_err_err (S Ra : Nat) (Ta : List Int) (o' : Out) (ta : Option Addr) (na ca : Nat) (tb : Option Addr) (nb cb : Nat) (ws : List Int) (wa : Option Addr) (wc : Nat) (b : Int) (k : Int) (w : World) (hLa : LineOk S Ra Ta) (hTa : ArgP w Ta ta na ca) (hW : ArgP w ws wa ws.length wc) (he : wordE S ws = 0) (h0 : 0 < ws.length) (f : Nat) (hCE : ∀ wr, Below w.heap.size w wr → Calls Try.prog 9 #[.agg #[.int .i64 2, .int .i64 0, .int .i64 0, .int .i64 (S : Int), .int .i64 (Ra : Int), .slice ta na ca, .string ⟨#[]⟩], .agg #[.int .i64 o'.kind, .int .i64 o'.born, .int .i64 o'.stay, .int .i64 o'.states, .int .i64 o'.radius, .slice tb nb cb, .string o'.turns]] wr (RuleErr f wr)) (f2 : Nat) (hWE : ∀ wr, Below w.heap.size w wr → Calls Try.prog 10 #[.agg #[.int .i64 2, .int .i64 0, .int .i64 0, .int .i64 (S : Int), .int .i64 (Ra : Int), .slice ta na ca, .string ⟨#[]⟩], .int .i64 k] wr (RuleErr f2 wr)) :
    Calls Try.prog 4 #[.agg #[.int .i64 2, .int .i64 0, .int .i64 0, .int .i64 (S : Int), .int .i64 (Ra : Int), .slice ta na ca, .string ⟨#[]⟩], .agg #[.int .i64 o'.kind, .int .i64 o'.born, .int .i64 o'.stay, .int .i64 o'.states, .int .i64 o'.radius, .slice tb nb cb, .string o'.turns], .slice wa ws.length wc, .int .i64 b, .int .i64 k] w fun e w' => e = .returned (.bool true) ∧ Below w.heap.size w w' := by
  obtain ⟨w1, hw1⟩ : ∃ w1, (w.alloc (.cells #[.int .i64 2, .int .i64 0, .int .i64 0, .int .i64 (S : Int), .int .i64 (Ra : Int), .slice ta na ca, .string ⟨#[]⟩] 28)).alloc (.cells #[.int .i64 o'.kind, .int .i64 o'.born, .int .i64 o'.stay, .int .i64 o'.states, .int .i64 o'.radius, .slice tb nb cb, .string o'.turns] 28) = w1 := ⟨_, rfl⟩
  have BB := hide' (show Below w.heap.size w w1 by rw [← hw1]; exact ((Below.refl _ _).alloc (Nat.le_refl _) _).alloc (by simp) _)
  have RA := hide' (show RB w.heap.size S Ra (.slice ta na ca) w1 by
    rw [← hw1]
    exact (RB.new w S Ra (.slice ta na ca) 28).block (Below.heap_alloc _ _ _ (by simp)))
  have RBB := hide' (show RBo (w.heap.size + 1) o' (.slice tb nb cb) w1 by
    have h := RBo.new (w.alloc (.cells #[.int .i64 2, .int .i64 0, .int .i64 0, .int .i64 (S : Int), .int .i64 (Ra : Int), .slice ta na ca, .string ⟨#[]⟩] 28)) o' (.slice tb nb cb) 28
    rw [World.size_alloc, hw1] at h
    exact h)
  have AT := hide' (hTa.below BB.out)
  have AW := hide' (hW.below BB.out)
  have HLa := hide' hLa
  have HE := hide' he
  have s2 := hLa.s2
  have s4 := hLa.s4
  obtain ⟨hl, hok⟩ := wordE_zero he
  have HO := hide' hok
  have hlw : ws.length ≤ 1000 := hl
  have wm : ws.length ≤ maxLen := by unfold maxLen; omega
  obtain ⟨xs, hxs⟩ : ∃ xs, stepL S Ra Ta ws = xs := ⟨_, rfl⟩
  have XS := hide' hxs
  have XL := hide' (show xs.length = ws.length by rw [← hxs, stepL_length])
  have XO := hide' (show cellsOk S xs by rw [← hxs]; exact stepL_ok (by omega) hLa.lenI hLa.ok hok)
  have XE := hide' (show wordE S xs = 0 from wordE_ok (by rw [XL.out]; omega) XO.out)
  have n1 : ((ws.length : Int) != (ws.length : Int)) = false := by simp
  have d0 : (0 : Int) < (ws.length : Int) := by omega
  have ME := hide' (show wordE S (movedL ws b) = 0 from wordE_ok (by rw [movedL_length]; omega) (movedL_ok hok b))
  have MS := hide' (show stepL S Ra Ta (movedL ws b) = movedL xs b by rw [shift_step, hxs])
  have MXL := hide' (show (movedL xs b).length ≤ maxLen by rw [movedL_length, XL.out]; exact wm)
  have MWL := hide' (show (movedL ws b).length ≤ maxLen by rw [movedL_length]; exact wm)
  have H0 := hide' h0
  clear h0
  have CE := hide' (fun wr (h : Below w1.heap.size w1 wr) => hCE wr (BB.out.trans (h.mono BB.out.size)))
  clear hCE
  have WE := hide' (fun wr (h : Below w1.heap.size w1 wr) => hWE wr (BB.out.trans (h.mono BB.out.size)))
  clear hWE
  have XM := hide' (show xs.length ≤ maxLen by rw [XL.out]; exact wm)
  clear hTa hW hLa he hl hok hxs
  have F1 := hide' (cel_two w1 1 0 3)
  have F2 := hide' (cel_two (w1.alloc (.cells #[.int .i64 1, .int .i64 0] 3)) 0 1 3)
  have F1b := hide' (F1.out.below ((Below.refl _ _).alloc (Nat.le_refl _) (.cells #[.int .i64 0, .int .i64 1] 3)))
  rw [World.size_alloc] at F2
  have C0 := hide' (show Below w1.heap.size w1 ((w1.alloc (.cells #[.int .i64 1, .int .i64 0] 3)).alloc (.cells #[.int .i64 0, .int .i64 1] 3)) from ((Below.refl _ _).alloc (Nat.le_refl _) _).alloc (by simp) _)
  obtain ⟨x0, x1, x2, x3, x4, x5, x6⟩ := RA.out.next C0.out
  obtain ⟨y0, y1, y2, y3, y4, y5, y6⟩ := RBB.out.next C0.out
  go_enter Try.func4, Try.ntmps4
  go_wp2_with fail
  refine (fact_step w1.heap.size (w1.heap.size + 1) _ F1b.out F2.out).mono ?_
  rintro e w2 ⟨v2, rfl, t2, -, b⟩
  have C1 := hide' (C0.out.trans (b.mono C0.out.size))
  obtain ⟨g2, c2, rfl, k20, k21⟩ := fact_tab t2
  clear b t2 hw1 F1 F1b F2 C0 x0 x1 x2 x3 x4 x5 x6 y0 y1 y2 y3 y4 y5 y6
  obtain ⟨x0, x1, x2, x3, x4, x5, x6⟩ := RA.out.next C1.out
  obtain ⟨y0, y1, y2, y3, y4, y5, y6⟩ := RBB.out.next C1.out
  have KS := hide' (lineStep_ok S Ra Ta ta na ca ws wa wc _ HLa.out (AT.out.below C1.out) (AW.out.below C1.out) HE.out)
  rw [XS.out] at KS
  go_wp2_with fail
  refine (KS.out).mono ?_
  rintro e w2 ⟨v2, rfl, t2, -, b⟩
  clear x0 x1 x2 x3 x4 x5 x6 y0 y1 y2 y3 y4 y5 y6
  have C2 := hide' (C1.out.trans (b.mono C1.out.size))
  obtain ⟨a2, c2, rfl, p2⟩ := t2.argT XM.out
  have PX := hide' p2
  clear t2 p2
  clear KS k20 k21
  rw [XL.out] at PX ⊢
  clear b C1
  obtain ⟨x0, x1, x2, x3, x4, x5, x6⟩ := RA.out.next C2.out
  obtain ⟨y0, y1, y2, y3, y4, y5, y6⟩ := RBB.out.next C2.out
  have D0 := hide' (show Below w2.heap.size w2 w2.drew from (Below.refl _ _).drew)
  have KM := hide' (moved_any ws wa wc b w2.drew (((AW.out.below C2.out)).below D0.out) (by omega) hlw)
  have ATd := hide' (((AT.out.below C2.out)).below D0.out)
  go_wp2
  go_region_with
    (first
      | (go_at_call 7; refine KM.out.mono ?_; rintro e w2m ⟨vm, rfl, tm, bm⟩; obtain ⟨am, cm, rfl, pm⟩ := tm.argT MWL.out; have DM := hide' (D0.out.trans (bm.mono (by have := D0.out.size; omega))); have PM := hide' pm; obtain ⟨z0, z1, z2, z3, z4, z5, z6⟩ := RA.out.next (C2.out.trans (DM.out.mono C2.out.size)); clear tm pm bm)
      | (go_at_call 6; refine (lineStep_ok S Ra Ta ta na ca (movedL ws b) am cm _ HLa.out (((AT.out.below C2.out)).below DM.out) PM.out ME.out).mono ?_; rintro e w3 ⟨v3, rfl, t3, -, bs⟩; rw [MS.out] at t3; obtain ⟨a3, c3, rfl, p3⟩ := t3.argT MXL.out; have DS := hide' (DM.out.trans (bs.mono (by have := DM.out.size; omega))); have PY := hide' p3; clear t3 p3 bs))
  all_goals
    clear x0 x1 x2 x3 x4 x5 x6 y0 y1 y2 y3 y4 y5 y6 KM ATd
    have b := DS.out
    have C3 := hide' (C2.out.trans (b.mono C2.out.size))
    have PX' := hide' (PX.out.below b)
    clear PX
    have PX := PX'
    clear PX'
    clear b C2 DM PM DS D0
    obtain ⟨x0, x1, x2, x3, x4, x5, x6⟩ := RA.out.next C3.out
    obtain ⟨y0, y1, y2, y3, y4, y5, y6⟩ := RBB.out.next C3.out
    have KZm := hide' (moved_any xs a2 c2 b w3 (by rw [XL.out]; exact PX.out) (by rw [XL.out]; omega) (by rw [XL.out]; exact hlw))
    rw [XL.out] at KZm
    go_wp2_with fail
    refine (KZm.out).mono ?_
    rintro e w4 ⟨v4, rfl, t4, b⟩
    clear x0 x1 x2 x3 x4 x5 x6 y0 y1 y2 y3 y4 y5 y6
    have C4 := hide' (C3.out.trans (b.mono C3.out.size))
    have PX' := hide' (PX.out.below b)
    clear PX
    have PX := PX'
    clear PX'
    have PY' := hide' (PY.out.below b)
    clear PY
    have PY := PY'
    clear PY'
    obtain ⟨a4, c4, rfl, p4⟩ := t4.argT MXL.out
    have PZ := hide' p4
    clear t4 p4
    clear KZm
    clear b C3
    obtain ⟨x0, x1, x2, x3, x4, x5, x6⟩ := RA.out.next C4.out
    obtain ⟨y0, y1, y2, y3, y4, y5, y6⟩ := RBB.out.next C4.out
    go_wp2_with fail
    refine (Ints_bothT _ _ _ _ _ _ _ _ PY.out PZ.out).mono ?_
    rintro e w5 ⟨rfl, b⟩
    clear x0 x1 x2 x3 x4 x5 x6 y0 y1 y2 y3 y4 y5 y6
    clear PY
    clear PZ
    have C5 := hide' (C4.out.trans (b.mono C4.out.size))
    have PX' := hide' (PX.out.below b)
    clear PX
    have PX := PX'
    clear PX'
    clear b C4
    obtain ⟨x0, x1, x2, x3, x4, x5, x6⟩ := RA.out.next C5.out
    obtain ⟨y0, y1, y2, y3, y4, y5, y6⟩ := RBB.out.next C5.out
    go_wp2_with fail
    refine (CE.out _ C5.out).mono ?_
    unfold RuleErr
    rintro e w6 ⟨rfl, b⟩
    clear x0 x1 x2 x3 x4 x5 x6 y0 y1 y2 y3 y4 y5 y6
    have C6 := hide' (C5.out.trans (b.mono C5.out.size))
    have PX' := hide' (PX.out.below b)
    clear PX
    have PX := PX'
    clear PX'
    have HPC := hide' C6.out.size
    clear b C5 CE
    have C6' := hide' (C6.out.alloc C6.out.size (.cells #[.int .i64 0, .int .i64 0, .int .i64 0, .int .i64 0, .int .i64 0, .slice none 0 0, .string ⟨#[]⟩] 28))
    clear C6
    have C6 := C6'
    clear C6'
    have PX' := hide' (PX.out.alloc (.cells #[.int .i64 0, .int .i64 0, .int .i64 0, .int .i64 0, .int .i64 0, .slice none 0 0, .string ⟨#[]⟩] 28))
    clear PX
    have PX := PX'
    clear PX'
    have CB := hide' (S7.new w6 (.int .i64 0) (.int .i64 0) (.int .i64 0) (.int .i64 0) (.int .i64 0) (.slice none 0 0) (.string ⟨#[]⟩) 28)
    obtain ⟨x0, x1, x2, x3, x4, x5, x6⟩ := RA.out.next C6.out
    obtain ⟨y0, y1, y2, y3, y4, y5, y6⟩ := RBB.out.next C6.out
    have pcl := CB.out.lt
    go_wp2_with fail
    refine (WE.out _ C6.out).mono ?_
    unfold RuleErr
    rintro e w7 ⟨rfl, b⟩
    clear x0 x1 x2 x3 x4 x5 x6 y0 y1 y2 y3 y4 y5 y6
    have C7 := hide' (C6.out.trans (b.mono C6.out.size))
    have CB' := hide' (CB.out.next b)
    clear CB
    have CB := CB'
    clear CB'
    have PX' := hide' (PX.out.below b)
    clear PX
    have PX := PX'
    clear PX'
    clear WE
    clear b C6
    obtain ⟨p0, p1, p2, p3, p4, p5, p6, pf⟩ := CB.out
    have pf0 := pf 0
    have pf1 := pf 1
    have pf2 := pf 2
    have pf3 := pf 3
    have pf4 := pf 4
    have pf5 := pf 5
    have pf6 := pf 6
    clear pf
    have C7' := hide' (seven_below C7.out HPC.out (.int .i64 0) (.int .i64 0) (.int .i64 0) (.int .i64 0) (.int .i64 0) (.slice none 0 0) (.string ⟨#[]⟩))
    clear C7
    have C7 := C7'
    clear C7'
    have CB' := hide' (CB.out.store (.int .i64 0) (.int .i64 0) (.int .i64 0) (.int .i64 0) (.int .i64 0) (.slice none 0 0) (.string ⟨#[]⟩))
    clear CB
    have CB := CB'
    clear CB'
    clear PX
    obtain ⟨x0, x1, x2, x3, x4, x5, x6⟩ := RA.out.next C7.out
    obtain ⟨y0, y1, y2, y3, y4, y5, y6⟩ := RBB.out.next C7.out
    go_wp2
    go_ret
    exact ⟨rfl, BB.out.trans (C7.out.mono BB.out.size)⟩
end Go.Proofs.Ytjngjnkecnnmeaa

