/-
  What the last text of this claim leans on, part 34: LawN.
-/
import Derived.Test.YtljdidimoagnhaaDoorJv33
namespace Go.Proofs.YtljdidimoagnhaaDoor
open Go.RowKit
set_option linter.unusedVariables false

/-- Two lists that are the same. -/
theorem Ints_both (xs : List Int) (a b : Option Addr) (n c m d : Nat) (w : World) (hA : ArgP w xs a n c) (hB : ArgP w xs b m d) :
    Calls Tryd.prog 28 #[.slice a n c, .slice b m d] w fun e w' => e = .returned (.bool true) ∧ Below w.heap.size w w' :=
  (Ints_any xs xs a b n c m d w hA hB).mono fun e w' ⟨h1, q, h2⟩ => ⟨by rw [h1]; simp, by rw [h2]; exact below_drewN (Below.refl _ _) q⟩

set_option maxRecDepth 100000 in
set_option maxHeartbeats 6400000 in
theorem law_steps_off (o : Out) (ta : Option Addr) (tn tc : Nat) (ws : List Int) (wa : Option Addr) (wc : Nat) (k : Int) (w : World) (hR : ArgR w o ta tn tc) (h : ¬ (Good o ∧ o.kind = 2)) (hg : Handle w) :
    Calls Tryd.prog 9 #[.agg #[.int .i64 o.kind, .int .i64 o.born, .int .i64 o.stay, .int .i64 o.states, .int .i64 o.radius, .slice ta tn tc, .string o.turns], .slice wa ws.length wc, .int .i64 k] w fun e w' => e = .returned (.bool true) ∧ Below w.heap.size w w' := by
  obtain ⟨w1, hw1⟩ : ∃ w1, w.alloc (.cells #[.int .i64 o.kind, .int .i64 o.born, .int .i64 o.stay, .int .i64 o.states, .int .i64 o.radius, .slice ta tn tc, .string o.turns] 24) = w1 := ⟨_, rfl⟩
  have BB := hide' (show Below w.heap.size w w1 by rw [← hw1]; exact (Below.refl _ _).alloc (Nat.le_refl _) _)
  have RX := hide' (show RBo w.heap.size o (.slice ta tn tc) w1 by rw [← hw1]; exact RBo.new w o _ _)
  have AT := hide' (show ArgR w1 o ta tn tc by rw [← hw1]; exact hR.alloc _)
  have HH := hide' h
  clear hR h
  have HG := hide' (hg.below BB.out)
  clear hg
  have C0 := hide' (Below.refl w1.heap.size w1)
  obtain ⟨x0, x1, x2, x3, x4, x5, x6⟩ := RX.out
  go_enter Tryd.func9, Tryd.ntmps9
  go_wp2_with fail
  refine (lineFault_off o ta tn tc (.slice wa ws.length wc) _ (AT.out.below C0.out) HH.out).mono ?_
  rintro e w2 ⟨rfl, b⟩
  have C1 := hide' (C0.out.trans (b.mono C0.out.size))
  clear hw1
  clear b x0 x1 x2 x3 x4 x5 x6 C0
  obtain ⟨x0, x1, x2, x3, x4, x5, x6⟩ := RX.out.next C1.out
  go_wp2_with fail
  refine (lineStep_off o ta tn tc (.slice wa ws.length wc) _ (AT.out.below C1.out) HH.out).mono ?_
  unfold ListErr
  rintro e w3 ⟨rfl, b⟩
  have C2 := hide' (C1.out.trans (b.mono C1.out.size))
  clear b x0 x1 x2 x3 x4 x5 x6 C1
  obtain ⟨x0, x1, x2, x3, x4, x5, x6⟩ := RX.out.next C2.out
  go_wp2_with fail
  refine (err_some_true 1 _ (HG.out.below C2.out)).mono ?_
  rintro e w4 ⟨rfl, b⟩
  have C3 := hide' (C2.out.trans (b.mono C2.out.size))
  clear b x0 x1 x2 x3 x4 x5 x6 C2
  obtain ⟨x0, x1, x2, x3, x4, x5, x6⟩ := RX.out.next C3.out
  go_wp2_with fail
  refine (lineApply_off o ta tn tc (.slice wa ws.length wc) _ (AT.out.below C3.out) HH.out).mono ?_
  unfold ListErr
  rintro e w5 ⟨rfl, b⟩
  have C4 := hide' (C3.out.trans (b.mono C3.out.size))
  clear b x0 x1 x2 x3 x4 x5 x6 C3
  obtain ⟨x0, x1, x2, x3, x4, x5, x6⟩ := RX.out.next C4.out
  go_wp2_with fail
  refine (err_some_true 1 _ (HG.out.below C4.out)).mono ?_
  rintro e w6 ⟨rfl, b⟩
  have C5 := hide' (C4.out.trans (b.mono C4.out.size))
  clear b x0 x1 x2 x3 x4 x5 x6 C4
  obtain ⟨x0, x1, x2, x3, x4, x5, x6⟩ := RX.out.next C5.out
  go_wp2_with fail
  refine (lineRun_off o ta tn tc (.slice wa ws.length wc) k _ (AT.out.below C5.out) HH.out).mono ?_
  unfold ListErr
  rintro e w7 ⟨rfl, b⟩
  have C6 := hide' (C5.out.trans (b.mono C5.out.size))
  clear b x0 x1 x2 x3 x4 x5 x6 C5
  obtain ⟨x0, x1, x2, x3, x4, x5, x6⟩ := RX.out.next C6.out
  go_wp2_with fail
  refine (err_some_true 1 _ (HG.out.below C6.out)).mono ?_
  rintro e w8 ⟨rfl, b⟩
  have C7 := hide' (C6.out.trans (b.mono C6.out.size))
  clear b x0 x1 x2 x3 x4 x5 x6 C6
  obtain ⟨x0, x1, x2, x3, x4, x5, x6⟩ := RX.out.next C7.out
  go_wp2
  go_ret
  exact ⟨rfl, BB.out.trans (C7.out.mono BB.out.size)⟩

set_option maxRecDepth 100000 in
set_option maxHeartbeats 6400000 in
theorem law_steps_word (S R : Nat) (T : List Int) (ta : Option Addr) (tn tc : Nat) (ws : List Int) (wa : Option Addr) (wc : Nat) (k : Int) (w : World) (hL : LineOk S R T) (hT : ArgP w T ta tn tc) (hW : ArgP w ws wa ws.length wc) (hwc : ws.length ≤ wc) (hcm : wc ≤ maxLen) (hg : Handle w) (he : wordE S ws ≠ 0) :
    Calls Tryd.prog 9 #[.agg #[.int .i64 2, .int .i64 0, .int .i64 0, .int .i64 (S : Int), .int .i64 (R : Int), .slice ta tn tc, .string ⟨#[]⟩], .slice wa ws.length wc, .int .i64 k] w fun e w' => e = .returned (.bool true) ∧ Below w.heap.size w w' := by
  obtain ⟨w1, hw1⟩ : ∃ w1, w.alloc (.cells #[.int .i64 2, .int .i64 0, .int .i64 0, .int .i64 (S : Int), .int .i64 (R : Int), .slice ta tn tc, .string ⟨#[]⟩] 24) = w1 := ⟨_, rfl⟩
  have BB := hide' (show Below w.heap.size w w1 by rw [← hw1]; exact (Below.refl _ _).alloc (Nat.le_refl _) _)
  have RX := hide' (show RB w.heap.size S R (.slice ta tn tc) w1 by rw [← hw1]; exact RB.new w S R _ _)
  have AT := hide' (hT.below BB.out)
  have AW := hide' (hW.below BB.out)
  have HL := hide' hL
  have HE := hide' he
  have HWC := hide' hwc
  have HCM := hide' hcm
  obtain ⟨f, hf⟩ : ∃ f, wordE S ws = f := ⟨_, rfl⟩
  have HF := hide' hf
  have k0 : ((f : Int) == 0) = false := by rw [beq_eq_false_iff_ne]; rw [hf] at he; omega
  have k1 : ((f : Int) != 0) = true := by rw [bne_iff_ne]; rw [hf] at he; omega
  clear hf
  clear hT hW hL he hwc hcm
  have HG := hide' (hg.below BB.out)
  clear hg
  have C0 := hide' (Below.refl w1.heap.size w1)
  obtain ⟨x0, x1, x2, x3, x4, x5, x6⟩ := RX.out
  go_enter Tryd.func9, Tryd.ntmps9
  go_wp2_with fail
  refine (lineFault_line S R T ta tn tc ws wa ws.length wc _ HL.out (AT.out.below C0.out) (AW.out.below C0.out)).mono ?_
  rw [HF.out]
  rintro e w2 ⟨rfl, b⟩
  have C1 := hide' (C0.out.trans (b.mono C0.out.size))
  clear hw1
  clear b x0 x1 x2 x3 x4 x5 x6 C0
  obtain ⟨x0, x1, x2, x3, x4, x5, x6⟩ := RX.out.next C1.out
  go_wp2_with fail
  refine (lineStep_word S R T ta tn tc ws wa wc _ HL.out (AT.out.below C1.out) (AW.out.below C1.out) HE.out).mono ?_
  rw [HF.out]
  unfold ListErr
  rintro e w3 ⟨rfl, b⟩
  have C2 := hide' (C1.out.trans (b.mono C1.out.size))
  clear b x0 x1 x2 x3 x4 x5 x6 C1
  obtain ⟨x0, x1, x2, x3, x4, x5, x6⟩ := RX.out.next C2.out
  go_wp2_with fail
  refine (err_some_true (f : Int) _ (HG.out.below C2.out)).mono ?_
  rintro e w4 ⟨rfl, b⟩
  have C3 := hide' (C2.out.trans (b.mono C2.out.size))
  clear b x0 x1 x2 x3 x4 x5 x6 C2
  obtain ⟨x0, x1, x2, x3, x4, x5, x6⟩ := RX.out.next C3.out
  go_wp2_with fail
  refine (lineApply_word S R T ta tn tc ws wa wc _ HL.out (AT.out.below C3.out) (AW.out.below C3.out) HE.out).mono ?_
  rw [HF.out]
  unfold ListErr
  rintro e w5 ⟨rfl, b⟩
  have C4 := hide' (C3.out.trans (b.mono C3.out.size))
  clear b x0 x1 x2 x3 x4 x5 x6 C3
  obtain ⟨x0, x1, x2, x3, x4, x5, x6⟩ := RX.out.next C4.out
  go_wp2_with fail
  refine (err_some_true (f : Int) _ (HG.out.below C4.out)).mono ?_
  rintro e w6 ⟨rfl, b⟩
  have C5 := hide' (C4.out.trans (b.mono C4.out.size))
  clear b x0 x1 x2 x3 x4 x5 x6 C4
  obtain ⟨x0, x1, x2, x3, x4, x5, x6⟩ := RX.out.next C5.out
  go_wp2_with fail
  refine (lineRun_word S R T ta tn tc ws wa wc k _ HL.out (AT.out.below C5.out) (AW.out.below C5.out) HE.out).mono ?_
  rw [HF.out]
  unfold ListErr
  rintro e w7 ⟨rfl, b⟩
  have C6 := hide' (C5.out.trans (b.mono C5.out.size))
  clear b x0 x1 x2 x3 x4 x5 x6 C5
  obtain ⟨x0, x1, x2, x3, x4, x5, x6⟩ := RX.out.next C6.out
  go_wp2_with fail
  refine (err_some_true (f : Int) _ (HG.out.below C6.out)).mono ?_
  rintro e w8 ⟨rfl, b⟩
  have C7 := hide' (C6.out.trans (b.mono C6.out.size))
  clear b x0 x1 x2 x3 x4 x5 x6 C6
  obtain ⟨x0, x1, x2, x3, x4, x5, x6⟩ := RX.out.next C7.out
  go_wp2
  go_ret
  exact ⟨rfl, BB.out.trans (C7.out.mono BB.out.size)⟩

set_option maxRecDepth 100000 in
set_option maxHeartbeats 6400000 in
theorem law_steps_lo (S R : Nat) (T : List Int) (ta : Option Addr) (tn tc : Nat) (ws : List Int) (wa : Option Addr) (wc : Nat) (k : Int) (w : World) (hL : LineOk S R T) (hT : ArgP w T ta tn tc) (hW : ArgP w ws wa ws.length wc) (hwc : ws.length ≤ wc) (hcm : wc ≤ maxLen) (hg : Handle w) (he : wordE S ws = 0) (hk : k < 0) :
    Calls Tryd.prog 9 #[.agg #[.int .i64 2, .int .i64 0, .int .i64 0, .int .i64 (S : Int), .int .i64 (R : Int), .slice ta tn tc, .string ⟨#[]⟩], .slice wa ws.length wc, .int .i64 k] w fun e w' => e = .returned (.bool true) ∧ Below w.heap.size w w' := by
  obtain ⟨w1, hw1⟩ : ∃ w1, w.alloc (.cells #[.int .i64 2, .int .i64 0, .int .i64 0, .int .i64 (S : Int), .int .i64 (R : Int), .slice ta tn tc, .string ⟨#[]⟩] 24) = w1 := ⟨_, rfl⟩
  have BB := hide' (show Below w.heap.size w w1 by rw [← hw1]; exact (Below.refl _ _).alloc (Nat.le_refl _) _)
  have RX := hide' (show RB w.heap.size S R (.slice ta tn tc) w1 by rw [← hw1]; exact RB.new w S R _ _)
  have AT := hide' (hT.below BB.out)
  have AW := hide' (hW.below BB.out)
  have HL := hide' hL
  have HE := hide' he
  have HWC := hide' hwc
  have HCM := hide' hcm
  obtain ⟨hl, hok⟩ := wordE_zero he
  have HO := hide' hok
  have HLW := hide' hl
  have MS := hide' (show (stepL S R T ws).length ≤ maxLen by rw [stepL_length]; unfold maxLen; omega)
  have MA := hide' (show (applyL S R T ws).length ≤ maxLen by rw [applyL_length]; unfold maxLen; omega)
  clear hl hok
  have i1 : k < 0 := hk
  have HK := hide' hk
  clear hk
  clear hT hW hL he hwc hcm
  have HG := hide' (hg.below BB.out)
  clear hg
  have C0 := hide' (Below.refl w1.heap.size w1)
  obtain ⟨x0, x1, x2, x3, x4, x5, x6⟩ := RX.out
  go_enter Tryd.func9, Tryd.ntmps9
  go_wp2_with fail
  refine (lineFault_line S R T ta tn tc ws wa ws.length wc _ HL.out (AT.out.below C0.out) (AW.out.below C0.out)).mono ?_
  rw [HE.out]
  rintro e w2 ⟨rfl, b⟩
  have C1 := hide' (C0.out.trans (b.mono C0.out.size))
  clear hw1
  clear b x0 x1 x2 x3 x4 x5 x6 C0
  obtain ⟨x0, x1, x2, x3, x4, x5, x6⟩ := RX.out.next C1.out
  go_wp2_with fail
  refine (lineStep_ok S R T ta tn tc ws wa wc _ HL.out (AT.out.below C1.out) (AW.out.below C1.out) HE.out).mono ?_
  rintro e w3 ⟨v3, rfl, t3, -, b⟩
  have C2 := hide' (C1.out.trans (b.mono C1.out.size))
  obtain ⟨a3, c3, rfl, p3⟩ := t3.argL MS.out
  have PA := hide' p3
  clear t3 p3
  clear b x0 x1 x2 x3 x4 x5 x6 C1
  obtain ⟨x0, x1, x2, x3, x4, x5, x6⟩ := RX.out.next C2.out
  go_wp2_with fail
  refine (err_nil_true _).mono ?_
  rintro e w4 ⟨rfl, b⟩
  have C3 := hide' (C2.out.trans (b.mono C2.out.size))
  have PA' := hide' (PA.out.below b)
  clear PA
  have PA := PA'
  clear PA'
  clear b x0 x1 x2 x3 x4 x5 x6 C2
  obtain ⟨x0, x1, x2, x3, x4, x5, x6⟩ := RX.out.next C3.out
  go_wp2_with fail
  refine (lineApply_ok S R T ta tn tc ws wa wc _ HL.out (AT.out.below C3.out) (AW.out.below C3.out) HWC.out HCM.out HE.out).mono ?_
  rintro e w5 ⟨v5, rfl, t5, -, b⟩
  have C4 := hide' (C3.out.trans (b.mono C3.out.size))
  have PA' := hide' (PA.out.below b)
  clear PA
  have PA := PA'
  clear PA'
  obtain ⟨a5, c5, rfl, p5⟩ := t5.argL MA.out
  have PB := hide' p5
  clear t5 p5
  clear b x0 x1 x2 x3 x4 x5 x6 C3
  obtain ⟨x0, x1, x2, x3, x4, x5, x6⟩ := RX.out.next C4.out
  go_wp2_with fail
  refine (err_nil_true _).mono ?_
  rintro e w6 ⟨rfl, b⟩
  have C5 := hide' (C4.out.trans (b.mono C4.out.size))
  have PA' := hide' (PA.out.below b)
  clear PA
  have PA := PA'
  clear PA'
  have PB' := hide' (PB.out.below b)
  clear PB
  have PB := PB'
  clear PB'
  clear b x0 x1 x2 x3 x4 x5 x6 C4
  obtain ⟨x0, x1, x2, x3, x4, x5, x6⟩ := RX.out.next C5.out
  go_wp2_with fail
  refine (lineRun_lo S R T ta tn tc ws wa wc k _ HL.out (AT.out.below C5.out) (AW.out.below C5.out) HE.out HK.out).mono ?_
  unfold ListErr
  rintro e w7 ⟨rfl, b⟩
  have C6 := hide' (C5.out.trans (b.mono C5.out.size))
  have PA' := hide' (PA.out.below b)
  clear PA
  have PA := PA'
  clear PA'
  have PB' := hide' (PB.out.below b)
  clear PB
  have PB := PB'
  clear PB'
  clear b x0 x1 x2 x3 x4 x5 x6 C5
  obtain ⟨x0, x1, x2, x3, x4, x5, x6⟩ := RX.out.next C6.out
  go_wp2_with fail
  refine (err_some_true 1 _ (HG.out.below C6.out)).mono ?_
  rintro e w8 ⟨rfl, b⟩
  have C7 := hide' (C6.out.trans (b.mono C6.out.size))
  have PA' := hide' (PA.out.below b)
  clear PA
  have PA := PA'
  clear PA'
  have PB' := hide' (PB.out.below b)
  clear PB
  have PB := PB'
  clear PB'
  clear b x0 x1 x2 x3 x4 x5 x6 C6
  obtain ⟨x0, x1, x2, x3, x4, x5, x6⟩ := RX.out.next C7.out
  go_wp2_with fail
  refine (refStep_any S R T ta tn tc ws wa wc _ HL.out (AT.out.below C7.out) (AW.out.below C7.out) HO.out HLW.out).mono ?_
  rintro e w9 ⟨v9, rfl, t9, -, b⟩
  have C8 := hide' (C7.out.trans (b.mono C7.out.size))
  have PA' := hide' (PA.out.below b)
  clear PA
  have PA := PA'
  clear PA'
  have PB' := hide' (PB.out.below b)
  clear PB
  have PB := PB'
  clear PB'
  obtain ⟨a9, c9, rfl, p9⟩ := t9.argL MS.out
  have PX := hide' p9
  clear t9 p9
  clear b x0 x1 x2 x3 x4 x5 x6 C7
  obtain ⟨x0, x1, x2, x3, x4, x5, x6⟩ := RX.out.next C8.out
  go_wp2_with fail
  refine (refApply_any S R T ta tn tc ws wa wc _ HL.out (AT.out.below C8.out) (AW.out.below C8.out) HO.out (by have := HLW.out; omega)).mono ?_
  rintro e w10 ⟨v10, rfl, t10, -, b⟩
  have C9 := hide' (C8.out.trans (b.mono C8.out.size))
  have PA' := hide' (PA.out.below b)
  clear PA
  have PA := PA'
  clear PA'
  have PB' := hide' (PB.out.below b)
  clear PB
  have PB := PB'
  clear PB'
  have PX' := hide' (PX.out.below b)
  clear PX
  have PX := PX'
  clear PX'
  obtain ⟨a10, c10, rfl, p10⟩ := t10.argL MA.out
  have PY := hide' p10
  clear t10 p10
  clear b x0 x1 x2 x3 x4 x5 x6 C8
  obtain ⟨x0, x1, x2, x3, x4, x5, x6⟩ := RX.out.next C9.out
  go_wp2_with fail
  refine (Ints_both _ _ _ _ _ _ _ _ PA.out PX.out).mono ?_
  rintro e w11 ⟨rfl, b⟩
  have C10 := hide' (C9.out.trans (b.mono C9.out.size))
  clear PA
  clear PX
  have PB' := hide' (PB.out.below b)
  clear PB
  have PB := PB'
  clear PB'
  have PY' := hide' (PY.out.below b)
  clear PY
  have PY := PY'
  clear PY'
  clear b x0 x1 x2 x3 x4 x5 x6 C9
  obtain ⟨x0, x1, x2, x3, x4, x5, x6⟩ := RX.out.next C10.out
  go_wp2_with fail
  refine (Ints_both _ _ _ _ _ _ _ _ PB.out PY.out).mono ?_
  rintro e w12 ⟨rfl, b⟩
  have C11 := hide' (C10.out.trans (b.mono C10.out.size))
  clear PB
  clear PY
  clear b x0 x1 x2 x3 x4 x5 x6 C10
  obtain ⟨x0, x1, x2, x3, x4, x5, x6⟩ := RX.out.next C11.out
  go_wp2
  go_ret
  exact ⟨rfl, BB.out.trans (C11.out.mono BB.out.size)⟩

set_option maxRecDepth 100000 in
set_option maxHeartbeats 6400000 in
theorem law_steps_hi (S R : Nat) (T : List Int) (ta : Option Addr) (tn tc : Nat) (ws : List Int) (wa : Option Addr) (wc : Nat) (k : Int) (w : World) (hL : LineOk S R T) (hT : ArgP w T ta tn tc) (hW : ArgP w ws wa ws.length wc) (hwc : ws.length ≤ wc) (hcm : wc ≤ maxLen) (hg : Handle w) (he : wordE S ws = 0) (hk : 100000 < k) :
    Calls Tryd.prog 9 #[.agg #[.int .i64 2, .int .i64 0, .int .i64 0, .int .i64 (S : Int), .int .i64 (R : Int), .slice ta tn tc, .string ⟨#[]⟩], .slice wa ws.length wc, .int .i64 k] w fun e w' => e = .returned (.bool true) ∧ Below w.heap.size w w' := by
  obtain ⟨w1, hw1⟩ : ∃ w1, w.alloc (.cells #[.int .i64 2, .int .i64 0, .int .i64 0, .int .i64 (S : Int), .int .i64 (R : Int), .slice ta tn tc, .string ⟨#[]⟩] 24) = w1 := ⟨_, rfl⟩
  have BB := hide' (show Below w.heap.size w w1 by rw [← hw1]; exact (Below.refl _ _).alloc (Nat.le_refl _) _)
  have RX := hide' (show RB w.heap.size S R (.slice ta tn tc) w1 by rw [← hw1]; exact RB.new w S R _ _)
  have AT := hide' (hT.below BB.out)
  have AW := hide' (hW.below BB.out)
  have HL := hide' hL
  have HE := hide' he
  have HWC := hide' hwc
  have HCM := hide' hcm
  obtain ⟨hl, hok⟩ := wordE_zero he
  have HO := hide' hok
  have HLW := hide' hl
  have MS := hide' (show (stepL S R T ws).length ≤ maxLen by rw [stepL_length]; unfold maxLen; omega)
  have MA := hide' (show (applyL S R T ws).length ≤ maxLen by rw [applyL_length]; unfold maxLen; omega)
  clear hl hok
  have i1 : ¬ k < 0 := by omega
  have i2 : 100000 < k := hk
  have HK := hide' hk
  clear hk
  clear hT hW hL he hwc hcm
  have HG := hide' (hg.below BB.out)
  clear hg
  have C0 := hide' (Below.refl w1.heap.size w1)
  obtain ⟨x0, x1, x2, x3, x4, x5, x6⟩ := RX.out
  go_enter Tryd.func9, Tryd.ntmps9
  go_wp2_with fail
  refine (lineFault_line S R T ta tn tc ws wa ws.length wc _ HL.out (AT.out.below C0.out) (AW.out.below C0.out)).mono ?_
  rw [HE.out]
  rintro e w2 ⟨rfl, b⟩
  have C1 := hide' (C0.out.trans (b.mono C0.out.size))
  clear hw1
  clear b x0 x1 x2 x3 x4 x5 x6 C0
  obtain ⟨x0, x1, x2, x3, x4, x5, x6⟩ := RX.out.next C1.out
  go_wp2_with fail
  refine (lineStep_ok S R T ta tn tc ws wa wc _ HL.out (AT.out.below C1.out) (AW.out.below C1.out) HE.out).mono ?_
  rintro e w3 ⟨v3, rfl, t3, -, b⟩
  have C2 := hide' (C1.out.trans (b.mono C1.out.size))
  obtain ⟨a3, c3, rfl, p3⟩ := t3.argL MS.out
  have PA := hide' p3
  clear t3 p3
  clear b x0 x1 x2 x3 x4 x5 x6 C1
  obtain ⟨x0, x1, x2, x3, x4, x5, x6⟩ := RX.out.next C2.out
  go_wp2_with fail
  refine (err_nil_true _).mono ?_
  rintro e w4 ⟨rfl, b⟩
  have C3 := hide' (C2.out.trans (b.mono C2.out.size))
  have PA' := hide' (PA.out.below b)
  clear PA
  have PA := PA'
  clear PA'
  clear b x0 x1 x2 x3 x4 x5 x6 C2
  obtain ⟨x0, x1, x2, x3, x4, x5, x6⟩ := RX.out.next C3.out
  go_wp2_with fail
  refine (lineApply_ok S R T ta tn tc ws wa wc _ HL.out (AT.out.below C3.out) (AW.out.below C3.out) HWC.out HCM.out HE.out).mono ?_
  rintro e w5 ⟨v5, rfl, t5, -, b⟩
  have C4 := hide' (C3.out.trans (b.mono C3.out.size))
  have PA' := hide' (PA.out.below b)
  clear PA
  have PA := PA'
  clear PA'
  obtain ⟨a5, c5, rfl, p5⟩ := t5.argL MA.out
  have PB := hide' p5
  clear t5 p5
  clear b x0 x1 x2 x3 x4 x5 x6 C3
  obtain ⟨x0, x1, x2, x3, x4, x5, x6⟩ := RX.out.next C4.out
  go_wp2_with fail
  refine (err_nil_true _).mono ?_
  rintro e w6 ⟨rfl, b⟩
  have C5 := hide' (C4.out.trans (b.mono C4.out.size))
  have PA' := hide' (PA.out.below b)
  clear PA
  have PA := PA'
  clear PA'
  have PB' := hide' (PB.out.below b)
  clear PB
  have PB := PB'
  clear PB'
  clear b x0 x1 x2 x3 x4 x5 x6 C4
  obtain ⟨x0, x1, x2, x3, x4, x5, x6⟩ := RX.out.next C5.out
  go_wp2_with fail
  refine (lineRun_hi S R T ta tn tc ws wa wc k _ HL.out (AT.out.below C5.out) (AW.out.below C5.out) HE.out HK.out).mono ?_
  unfold ListErr
  rintro e w7 ⟨rfl, b⟩
  have C6 := hide' (C5.out.trans (b.mono C5.out.size))
  have PA' := hide' (PA.out.below b)
  clear PA
  have PA := PA'
  clear PA'
  have PB' := hide' (PB.out.below b)
  clear PB
  have PB := PB'
  clear PB'
  clear b x0 x1 x2 x3 x4 x5 x6 C5
  obtain ⟨x0, x1, x2, x3, x4, x5, x6⟩ := RX.out.next C6.out
  go_wp2_with fail
  refine (err_some_true 1 _ (HG.out.below C6.out)).mono ?_
  rintro e w8 ⟨rfl, b⟩
  have C7 := hide' (C6.out.trans (b.mono C6.out.size))
  have PA' := hide' (PA.out.below b)
  clear PA
  have PA := PA'
  clear PA'
  have PB' := hide' (PB.out.below b)
  clear PB
  have PB := PB'
  clear PB'
  clear b x0 x1 x2 x3 x4 x5 x6 C6
  obtain ⟨x0, x1, x2, x3, x4, x5, x6⟩ := RX.out.next C7.out
  go_wp2_with fail
  refine (refStep_any S R T ta tn tc ws wa wc _ HL.out (AT.out.below C7.out) (AW.out.below C7.out) HO.out HLW.out).mono ?_
  rintro e w9 ⟨v9, rfl, t9, -, b⟩
  have C8 := hide' (C7.out.trans (b.mono C7.out.size))
  have PA' := hide' (PA.out.below b)
  clear PA
  have PA := PA'
  clear PA'
  have PB' := hide' (PB.out.below b)
  clear PB
  have PB := PB'
  clear PB'
  obtain ⟨a9, c9, rfl, p9⟩ := t9.argL MS.out
  have PX := hide' p9
  clear t9 p9
  clear b x0 x1 x2 x3 x4 x5 x6 C7
  obtain ⟨x0, x1, x2, x3, x4, x5, x6⟩ := RX.out.next C8.out
  go_wp2_with fail
  refine (refApply_any S R T ta tn tc ws wa wc _ HL.out (AT.out.below C8.out) (AW.out.below C8.out) HO.out (by have := HLW.out; omega)).mono ?_
  rintro e w10 ⟨v10, rfl, t10, -, b⟩
  have C9 := hide' (C8.out.trans (b.mono C8.out.size))
  have PA' := hide' (PA.out.below b)
  clear PA
  have PA := PA'
  clear PA'
  have PB' := hide' (PB.out.below b)
  clear PB
  have PB := PB'
  clear PB'
  have PX' := hide' (PX.out.below b)
  clear PX
  have PX := PX'
  clear PX'
  obtain ⟨a10, c10, rfl, p10⟩ := t10.argL MA.out
  have PY := hide' p10
  clear t10 p10
  clear b x0 x1 x2 x3 x4 x5 x6 C8
  obtain ⟨x0, x1, x2, x3, x4, x5, x6⟩ := RX.out.next C9.out
  go_wp2_with fail
  refine (Ints_both _ _ _ _ _ _ _ _ PA.out PX.out).mono ?_
  rintro e w11 ⟨rfl, b⟩
  have C10 := hide' (C9.out.trans (b.mono C9.out.size))
  clear PA
  clear PX
  have PB' := hide' (PB.out.below b)
  clear PB
  have PB := PB'
  clear PB'
  have PY' := hide' (PY.out.below b)
  clear PY
  have PY := PY'
  clear PY'
  clear b x0 x1 x2 x3 x4 x5 x6 C9
  obtain ⟨x0, x1, x2, x3, x4, x5, x6⟩ := RX.out.next C10.out
  go_wp2_with fail
  refine (Ints_both _ _ _ _ _ _ _ _ PB.out PY.out).mono ?_
  rintro e w12 ⟨rfl, b⟩
  have C11 := hide' (C10.out.trans (b.mono C10.out.size))
  clear PB
  clear PY
  clear b x0 x1 x2 x3 x4 x5 x6 C10
  obtain ⟨x0, x1, x2, x3, x4, x5, x6⟩ := RX.out.next C11.out
  go_wp2
  go_ret
  exact ⟨rfl, BB.out.trans (C11.out.mono BB.out.size)⟩

set_option maxRecDepth 100000 in
set_option maxHeartbeats 6400000 in
theorem law_steps_ok (S R : Nat) (T : List Int) (ta : Option Addr) (tn tc : Nat) (ws : List Int) (wa : Option Addr) (wc : Nat) (k : Nat) (w : World) (hL : LineOk S R T) (hT : ArgP w T ta tn tc) (hW : ArgP w ws wa ws.length wc) (hwc : ws.length ≤ wc) (hcm : wc ≤ maxLen) (hg : Handle w) (he : wordE S ws = 0) (hk : k ≤ 100000) :
    Calls Tryd.prog 9 #[.agg #[.int .i64 2, .int .i64 0, .int .i64 0, .int .i64 (S : Int), .int .i64 (R : Int), .slice ta tn tc, .string ⟨#[]⟩], .slice wa ws.length wc, .int .i64 (k : Int)] w fun e w' => e = .returned (.bool true) ∧ Below w.heap.size w w' := by
  obtain ⟨w1, hw1⟩ : ∃ w1, w.alloc (.cells #[.int .i64 2, .int .i64 0, .int .i64 0, .int .i64 (S : Int), .int .i64 (R : Int), .slice ta tn tc, .string ⟨#[]⟩] 24) = w1 := ⟨_, rfl⟩
  have BB := hide' (show Below w.heap.size w w1 by rw [← hw1]; exact (Below.refl _ _).alloc (Nat.le_refl _) _)
  have RX := hide' (show RB w.heap.size S R (.slice ta tn tc) w1 by rw [← hw1]; exact RB.new w S R _ _)
  have AT := hide' (hT.below BB.out)
  have AW := hide' (hW.below BB.out)
  have HL := hide' hL
  have HE := hide' he
  have HWC := hide' hwc
  have HCM := hide' hcm
  obtain ⟨hl, hok⟩ := wordE_zero he
  have HO := hide' hok
  have HLW := hide' hl
  have MS := hide' (show (stepL S R T ws).length ≤ maxLen by rw [stepL_length]; unfold maxLen; omega)
  have MA := hide' (show (applyL S R T ws).length ≤ maxLen by rw [applyL_length]; unfold maxLen; omega)
  clear hl hok
  have i1 : ¬ (k : Int) < 0 := by omega
  have i2 : ¬ (100000 : Int) < (k : Int) := by omega
  have HK := hide' hk
  have MR := hide' (show (runL S R T k ws).length ≤ maxLen by rw [runL_length]; have := HLW.out; unfold maxLen; omega)
  clear hk
  clear hT hW hL he hwc hcm
  have HG := hide' (hg.below BB.out)
  clear hg
  have C0 := hide' (Below.refl w1.heap.size w1)
  obtain ⟨x0, x1, x2, x3, x4, x5, x6⟩ := RX.out
  go_enter Tryd.func9, Tryd.ntmps9
  go_wp2_with fail
  refine (lineFault_line S R T ta tn tc ws wa ws.length wc _ HL.out (AT.out.below C0.out) (AW.out.below C0.out)).mono ?_
  rw [HE.out]
  rintro e w2 ⟨rfl, b⟩
  have C1 := hide' (C0.out.trans (b.mono C0.out.size))
  clear hw1
  clear b x0 x1 x2 x3 x4 x5 x6 C0
  obtain ⟨x0, x1, x2, x3, x4, x5, x6⟩ := RX.out.next C1.out
  go_wp2_with fail
  refine (lineStep_ok S R T ta tn tc ws wa wc _ HL.out (AT.out.below C1.out) (AW.out.below C1.out) HE.out).mono ?_
  rintro e w3 ⟨v3, rfl, t3, -, b⟩
  have C2 := hide' (C1.out.trans (b.mono C1.out.size))
  obtain ⟨a3, c3, rfl, p3⟩ := t3.argL MS.out
  have PA := hide' p3
  clear t3 p3
  clear b x0 x1 x2 x3 x4 x5 x6 C1
  obtain ⟨x0, x1, x2, x3, x4, x5, x6⟩ := RX.out.next C2.out
  go_wp2_with fail
  refine (err_nil_true _).mono ?_
  rintro e w4 ⟨rfl, b⟩
  have C3 := hide' (C2.out.trans (b.mono C2.out.size))
  have PA' := hide' (PA.out.below b)
  clear PA
  have PA := PA'
  clear PA'
  clear b x0 x1 x2 x3 x4 x5 x6 C2
  obtain ⟨x0, x1, x2, x3, x4, x5, x6⟩ := RX.out.next C3.out
  go_wp2_with fail
  refine (lineApply_ok S R T ta tn tc ws wa wc _ HL.out (AT.out.below C3.out) (AW.out.below C3.out) HWC.out HCM.out HE.out).mono ?_
  rintro e w5 ⟨v5, rfl, t5, -, b⟩
  have C4 := hide' (C3.out.trans (b.mono C3.out.size))
  have PA' := hide' (PA.out.below b)
  clear PA
  have PA := PA'
  clear PA'
  obtain ⟨a5, c5, rfl, p5⟩ := t5.argL MA.out
  have PB := hide' p5
  clear t5 p5
  clear b x0 x1 x2 x3 x4 x5 x6 C3
  obtain ⟨x0, x1, x2, x3, x4, x5, x6⟩ := RX.out.next C4.out
  go_wp2_with fail
  refine (err_nil_true _).mono ?_
  rintro e w6 ⟨rfl, b⟩
  have C5 := hide' (C4.out.trans (b.mono C4.out.size))
  have PA' := hide' (PA.out.below b)
  clear PA
  have PA := PA'
  clear PA'
  have PB' := hide' (PB.out.below b)
  clear PB
  have PB := PB'
  clear PB'
  clear b x0 x1 x2 x3 x4 x5 x6 C4
  obtain ⟨x0, x1, x2, x3, x4, x5, x6⟩ := RX.out.next C5.out
  go_wp2_with fail
  refine (lineRun_ok S R T ta tn tc ws wa wc k _ HL.out (AT.out.below C5.out) (AW.out.below C5.out) HE.out HK.out).mono ?_
  rintro e w7 ⟨v7, rfl, t7, -, b⟩
  have C6 := hide' (C5.out.trans (b.mono C5.out.size))
  have PA' := hide' (PA.out.below b)
  clear PA
  have PA := PA'
  clear PA'
  have PB' := hide' (PB.out.below b)
  clear PB
  have PB := PB'
  clear PB'
  obtain ⟨a7, c7, rfl, p7⟩ := t7.argL MR.out
  have PC := hide' p7
  clear t7 p7
  clear b x0 x1 x2 x3 x4 x5 x6 C5
  obtain ⟨x0, x1, x2, x3, x4, x5, x6⟩ := RX.out.next C6.out
  go_wp2_with fail
  refine (err_nil_true _).mono ?_
  rintro e w8 ⟨rfl, b⟩
  have C7 := hide' (C6.out.trans (b.mono C6.out.size))
  have PA' := hide' (PA.out.below b)
  clear PA
  have PA := PA'
  clear PA'
  have PB' := hide' (PB.out.below b)
  clear PB
  have PB := PB'
  clear PB'
  have PC' := hide' (PC.out.below b)
  clear PC
  have PC := PC'
  clear PC'
  clear b x0 x1 x2 x3 x4 x5 x6 C6
  obtain ⟨x0, x1, x2, x3, x4, x5, x6⟩ := RX.out.next C7.out
  go_wp2_with fail
  refine (refStep_any S R T ta tn tc ws wa wc _ HL.out (AT.out.below C7.out) (AW.out.below C7.out) HO.out HLW.out).mono ?_
  rintro e w9 ⟨v9, rfl, t9, -, b⟩
  have C8 := hide' (C7.out.trans (b.mono C7.out.size))
  have PA' := hide' (PA.out.below b)
  clear PA
  have PA := PA'
  clear PA'
  have PB' := hide' (PB.out.below b)
  clear PB
  have PB := PB'
  clear PB'
  have PC' := hide' (PC.out.below b)
  clear PC
  have PC := PC'
  clear PC'
  obtain ⟨a9, c9, rfl, p9⟩ := t9.argL MS.out
  have PX := hide' p9
  clear t9 p9
  clear b x0 x1 x2 x3 x4 x5 x6 C7
  obtain ⟨x0, x1, x2, x3, x4, x5, x6⟩ := RX.out.next C8.out
  go_wp2_with fail
  refine (refApply_any S R T ta tn tc ws wa wc _ HL.out (AT.out.below C8.out) (AW.out.below C8.out) HO.out (by have := HLW.out; omega)).mono ?_
  rintro e w10 ⟨v10, rfl, t10, -, b⟩
  have C9 := hide' (C8.out.trans (b.mono C8.out.size))
  have PA' := hide' (PA.out.below b)
  clear PA
  have PA := PA'
  clear PA'
  have PB' := hide' (PB.out.below b)
  clear PB
  have PB := PB'
  clear PB'
  have PC' := hide' (PC.out.below b)
  clear PC
  have PC := PC'
  clear PC'
  have PX' := hide' (PX.out.below b)
  clear PX
  have PX := PX'
  clear PX'
  obtain ⟨a10, c10, rfl, p10⟩ := t10.argL MA.out
  have PY := hide' p10
  clear t10 p10
  clear b x0 x1 x2 x3 x4 x5 x6 C8
  obtain ⟨x0, x1, x2, x3, x4, x5, x6⟩ := RX.out.next C9.out
  go_wp2_with fail
  refine (Ints_both _ _ _ _ _ _ _ _ PA.out PX.out).mono ?_
  rintro e w11 ⟨rfl, b⟩
  have C10 := hide' (C9.out.trans (b.mono C9.out.size))
  clear PA
  clear PX
  have PB' := hide' (PB.out.below b)
  clear PB
  have PB := PB'
  clear PB'
  have PC' := hide' (PC.out.below b)
  clear PC
  have PC := PC'
  clear PC'
  have PY' := hide' (PY.out.below b)
  clear PY
  have PY := PY'
  clear PY'
  clear b x0 x1 x2 x3 x4 x5 x6 C9
  obtain ⟨x0, x1, x2, x3, x4, x5, x6⟩ := RX.out.next C10.out
  go_wp2_with fail
  refine (Ints_both _ _ _ _ _ _ _ _ PB.out PY.out).mono ?_
  rintro e w12 ⟨rfl, b⟩
  have C11 := hide' (C10.out.trans (b.mono C10.out.size))
  clear PB
  clear PY
  have PC' := hide' (PC.out.below b)
  clear PC
  have PC := PC'
  clear PC'
  clear b x0 x1 x2 x3 x4 x5 x6 C10
  obtain ⟨x0, x1, x2, x3, x4, x5, x6⟩ := RX.out.next C11.out
  go_wp2_with fail
  refine (refRun_any S R T ta tn tc ws wa wc k _ HL.out (AT.out.below C11.out) (AW.out.below C11.out) HO.out HLW.out HK.out).mono ?_
  rintro e w13 ⟨a13, c13, rfl, p13, b⟩
  have C12 := hide' (C11.out.trans (b.mono C11.out.size))
  have PC' := hide' (PC.out.below b)
  clear PC
  have PC := PC'
  clear PC'
  have PZ := hide' p13
  clear p13
  clear b x0 x1 x2 x3 x4 x5 x6 C11
  obtain ⟨x0, x1, x2, x3, x4, x5, x6⟩ := RX.out.next C12.out
  go_wp2_with fail
  refine (Ints_both _ _ _ _ _ _ _ _ PC.out PZ.out).mono ?_
  rintro e w14 ⟨rfl, b⟩
  have C13 := hide' (C12.out.trans (b.mono C12.out.size))
  clear PC
  clear PZ
  clear b x0 x1 x2 x3 x4 x5 x6 C12
  obtain ⟨x0, x1, x2, x3, x4, x5, x6⟩ := RX.out.next C13.out
  go_wp2
  go_ret
  exact ⟨rfl, BB.out.trans (C13.out.mono BB.out.size)⟩

/-- At every rule, word and number. -/
theorem law_steps_all (o : Out) (ta : Option Addr) (tn tc : Nat) (ws : List Int) (wa : Option Addr) (wc : Nat) (k : Int) (w : World) (hR : ArgR w o ta tn tc) (hW : ArgP w ws wa ws.length wc) (hwc : ws.length ≤ wc) (hcm : wc ≤ maxLen) (hg : Handle w) :
    Calls Tryd.prog 9 #[.agg #[.int .i64 o.kind, .int .i64 o.born, .int .i64 o.stay, .int .i64 o.states, .int .i64 o.radius, .slice ta tn tc, .string o.turns], .slice wa ws.length wc, .int .i64 k] w fun e w' => e = .returned (.bool true) ∧ Below w.heap.size w w' := by
  by_cases h : Good o ∧ o.kind = 2
  · obtain ⟨S, R, e, hL⟩ := good_line o h.1 h.2
    have hT : ArgP w o.table ta tn tc := ⟨hR.len, hR.max, hR.cells⟩
    obtain ⟨T, hTe⟩ : ∃ T, o.table = T := ⟨_, rfl⟩
    rw [hTe] at e hL hT
    subst e
    by_cases he : wordE S ws = 0
    · by_cases k0 : k < 0
      · exact law_steps_lo S R T ta tn tc ws wa wc k w hL hT hW hwc hcm hg he k0
      · by_cases k1 : 100000 < k
        · exact law_steps_hi S R T ta tn tc ws wa wc k w hL hT hW hwc hcm hg he k1
        · obtain ⟨kn, rfl⟩ : ∃ kn : Nat, k = (kn : Int) := ⟨k.toNat, by omega⟩
          exact law_steps_ok S R T ta tn tc ws wa wc kn w hL hT hW hwc hcm hg he (by omega)
    · exact law_steps_word S R T ta tn tc ws wa wc k w hL hT hW hwc hcm hg he
  · exact law_steps_off o ta tn tc ws wa wc k w hR h hg
end Go.Proofs.YtljdidimoagnhaaDoor

