/-
  What the last text of this claim leans on, part 36: Gh6.
-/
import Derived.Test.YtjjdjdodhedihaaDoorJl32
namespace Go.Proofs.YtjjdjdodhedihaaDoor
open Go.RowKit
set_option linter.unusedVariables false

set_option maxRecDepth 100000 in
set_option maxHeartbeats 12800000 in
theorem law_slin_ok (S R : Nat) (T : List Int) (ta : Option Addr) (tn tc : Nat) (ws : List Int) (wa : Option Addr) (wc : Nat) (k : Int) (wt : List Int) (ua : Option Addr) (uc : Nat) (w : World) (hL : LineOk S R T) (hT : ArgP w T ta tn tc) (hW : ArgP w ws wa ws.length wc) (hU : ArgP w wt ua wt.length uc) (hg : Handle w) (hlin0 : LinP S R T) (hf0 : wordE S ws = 0) (d1 : ¬ k < 0) (d2 : ¬ 1000000000000000000 < k) :
    Calls Tryd.prog 4 #[.agg #[.int .i64 2, .int .i64 0, .int .i64 0, .int .i64 (S : Int), .int .i64 (R : Int), .slice ta tn tc, .string ⟨#[]⟩], .slice wa ws.length wc, .int .i64 k, .slice ua wt.length uc] w fun e w' => e = .returned (.bool true) ∧ Below w.heap.size w w' := by
  obtain ⟨w1, hw1⟩ : ∃ w1, w.alloc (.cells #[.int .i64 2, .int .i64 0, .int .i64 0, .int .i64 (S : Int), .int .i64 (R : Int), .slice ta tn tc, .string ⟨#[]⟩] 24) = w1 := ⟨_, rfl⟩
  have BB := hide' (show Below w.heap.size w w1 by rw [← hw1]; exact (Below.refl _ _).alloc (Nat.le_refl _) _)
  have RX := hide' (show RB w.heap.size S R (.slice ta tn tc) w1 by rw [← hw1]; exact RB.new w S R _ _)
  have AT := hide' (hT.below BB.out)
  have AW := hide' (hW.below BB.out)
  have AU := hide' (hU.below BB.out)
  have HG := hide' (hg.below BB.out)
  have s4 := hL.s4
  have s2 := hL.s2
  have r10 := hL.r10
  obtain ⟨f, hf⟩ : ∃ f, wordE S ws = f := ⟨_, rfl⟩
  have HF := hide' hf
  have F0 := hide' (fun (W : World) (h : ArgP W T ta tn tc) => lineFault_line S R T ta tn tc [] none 0 0 W hL h (argP_nil' W))
  rw [wordE_ok (S := S) (ws := []) (by simp) (fun x hx => by simp at hx)] at F0
  have FA := hide' (fun (W : World) (h : ArgP W T ta tn tc) (h2 : ArgP W ws wa ws.length wc) => lineFault_line S R T ta tn tc ws wa ws.length wc W hL h h2)
  rw [hf] at FA
  have LI := hide' (fun (W : World) (h : ArgP W T ta tn tc) => linear_line S R T ta tn tc W hL h)
  have RL := hide' (fun (W : World) (h : ArgP W T ta tn tc) => refLinear_any S R T ta tn tc W hL h)
  have JU := hide' (fun (W : World) (h : ArgP W T ta tn tc) (h2 : ArgP W ws wa ws.length wc) => jump_line S R T ta tn tc ws wa wc k W hL h h2)
  unfold JumpPost at JU
  rw [hf] at JU
  have FAR := hide' (fun (n0 : Nat) (ca : Option Addr) (cc : Nat) (W : World) (hlin : LinP S R T) (hC : ArgP W (numL S R T) ca (2 * R + 1) cc) (h2 : ArgP W ws wa ws.length wc) (he : f = 0) (hn : n0 ≤ 1000000000000000000) => far_any S R n0 T ws ta tn tc ca cc wa wc W hL hlin hC h2 (hf.trans he) hn)
  have RLN := hide' (fun (n0 : Nat) (he : f = 0) => show (runL S R T n0 ws).length ≤ maxLen by rw [runL_length]; have := (wordE_zero (hf.trans he)).1; unfold maxLen; omega)
  have KE := hide' (fun (W : World) (h : ArgP W T ta tn tc) (h2 : ArgP W wt ua wt.length uc) => keepsT_line S R _ T wt ta tn tc ua uc W hL h h2 rfl)
  have RK := hide' (fun (W : World) (h : ArgP W T ta tn tc) (h2 : ArgP W wt ua wt.length uc) (h3 : wtE S wt = 0) => refKeeps_any S R _ T wt ta tn tc ua wt.length uc W hL h h2 (wtE_wts h3).1 (wtE_wts h3).2 rfl)
  obtain ⟨K, hK⟩ : ∃ K, 2 * R + 1 = K := ⟨_, rfl⟩
  have K21 : K ≤ 21 := by omega
  have LEN := hide' (show (numL S R T).length = K by rw [← hK]; exact numL_length S R T)
  unfold LinPost at LI
  unfold RefLinPost at RL
  rw [hK] at LI RL FAR
  have HLIN0 := hide' hlin0
  have HF0 := hide' (show wordE S ws = f from hf)
  rw [hf] at hf0
  have HF1 := hide' hf0
  clear hT hL hW hU hg hf hK hlin0 hf0
  have C0 := hide' (Below.refl w1.heap.size w1)
  obtain ⟨x0, x1, x2, x3, x4, x5, x6⟩ := RX.out
  go_enter Tryd.func4, Tryd.ntmps4
  go_wp2_with fail
  refine (F0.out _ (AT.out.below C0.out)).mono ?_
  rintro e w2 ⟨rfl, b⟩
  clear hw1
  have C1 := hide' (C0.out.trans (b.mono C0.out.size))
  clear b x0 x1 x2 x3 x4 x5 x6 C0
  obtain ⟨x0, x1, x2, x3, x4, x5, x6⟩ := RX.out.next C1.out
  go_wp2_with fail
  refine (LI.out _ (AT.out.below C1.out)).mono ?_
  rintro e w3 ⟨hor, b⟩
  have C2 := hide' (C1.out.trans (b.mono C1.out.size))
  clear b x0 x1 x2 x3 x4 x5 x6 C1
  obtain ⟨x0, x1, x2, x3, x4, x5, x6⟩ := RX.out.next C2.out
  rcases hor with ⟨hlin, g, rfl, cl, _⟩ | ⟨hno, _⟩
  case inr => exact absurd HLIN0.out hno
  · have CL3 := hide' (show ArgP w3 (numL S R T) (some ⟨g, 0, none⟩) K K from cl.argP LEN.out (by unfold maxLen; omega))
    have HLIN := hide' hlin
    clear cl hlin
    go_wp2_with fail
    refine (RL.out _ (AT.out.below C2.out)).mono ?_
    rintro e w4 ⟨hor, b⟩
    have CL4 := hide' (CL3.out.below b)
    clear CL3
    have C3 := hide' (C2.out.trans (b.mono C2.out.size))
    clear b x0 x1 x2 x3 x4 x5 x6 C2
    obtain ⟨x0, x1, x2, x3, x4, x5, x6⟩ := RX.out.next C3.out
    rcases hor with ⟨_, g2, c2, rfl, ad⟩ | ⟨hno, _⟩
    case inr => exact absurd HLIN.out hno
    have AD4 := hide' ad
    clear ad
    go_wp2_with fail
    refine (err_nil_true _).mono ?_
    rintro e w5 ⟨rfl, b⟩
    have CL5 := hide' (CL4.out.below b)
    have AD5 := hide' (AD4.out.below b)
    clear CL4 AD4
    have C4 := hide' (C3.out.trans (b.mono C3.out.size))
    clear b x0 x1 x2 x3 x4 x5 x6 C3
    obtain ⟨x0, x1, x2, x3, x4, x5, x6⟩ := RX.out.next C4.out
    go_wp2_with fail
    refine (Ints_both (numL S R T) _ _ _ _ _ _ _ CL5.out AD5.out).mono ?_
    rintro e w6 ⟨rfl, b⟩
    have AD6 := hide' (AD5.out.below b)
    clear CL5 AD5
    have C5 := hide' (C4.out.trans (b.mono C4.out.size))
    clear b x0 x1 x2 x3 x4 x5 x6 C4
    obtain ⟨x0, x1, x2, x3, x4, x5, x6⟩ := RX.out.next C5.out
    go_wp2_with fail
    refine (FA.out _ (AT.out.below C5.out) (AW.out.below C5.out)).mono ?_
    rintro e w7 ⟨rfl, b⟩
    have AD7 := hide' (AD6.out.below b)
    clear AD6
    have C6 := hide' (C5.out.trans (b.mono C5.out.size))
    clear b x0 x1 x2 x3 x4 x5 x6 C5
    obtain ⟨x0, x1, x2, x3, x4, x5, x6⟩ := RX.out.next C6.out
    have f0 : f = 0 := HF1.out
    subst f0
    go_wp2_with fail
    refine (JU.out _ (AT.out.below C6.out) (AW.out.below C6.out)).mono ?_
    rintro e w8 (⟨h, _⟩ | ⟨_, h, _⟩ | ⟨_, _, h, _⟩ | ⟨_, _, k0, k1, hj⟩)
    case inl => exact absurd rfl h
    case inr.inl => exact absurd HLIN.out h
    case inr.inr.inl => exact absurd ⟨by omega, by omega⟩ h
    obtain ⟨v, rfl, tb, _, b⟩ := hj
    obtain ⟨n0, hn0⟩ : ∃ n0 : Nat, k = (n0 : Int) := ⟨k.toNat, by omega⟩
    subst hn0
    rw [Int.toNat_natCast] at tb
    obtain ⟨va, vc, rfl, ax⟩ := tb.argL (RLN.out n0 (by first | trivial | rfl))
    obtain ⟨Z, hZ⟩ : ∃ Z, runL S R T n0 ws = Z := ⟨_, rfl⟩
    rw [hZ] at ax ⊢
    have AX8 := hide' ax
    have AD8 := hide' (AD7.out.below b)
    have FAR2 := hide' (fun (ca : Option Addr) (cc : Nat) (W : World) (hC : ArgP W (numL S R T) ca K cc) (h2 : ArgP W ws wa ws.length wc) => FAR.out n0 ca cc W HLIN.out hC h2 (by first | trivial | rfl) (by omega))
    rw [hZ] at FAR2
    clear tb ax hZ AD7
    have C7 := hide' (C6.out.trans (b.mono C6.out.size))
    clear b x0 x1 x2 x3 x4 x5 x6 C6
    obtain ⟨x0, x1, x2, x3, x4, x5, x6⟩ := RX.out.next C7.out
    go_wp2_with fail
    refine (err_nil_true _).mono ?_
    rintro e w9 ⟨rfl, b⟩
    have AX9 := hide' (AX8.out.below b)
    have AD9 := hide' (AD8.out.below b)
    clear AX8 AD8
    have C8 := hide' (C7.out.trans (b.mono C7.out.size))
    clear b x0 x1 x2 x3 x4 x5 x6 C7
    obtain ⟨x0, x1, x2, x3, x4, x5, x6⟩ := RX.out.next C8.out
    go_wp2_with fail
    refine (FAR2.out _ _ _ AD9.out (AW.out.below C8.out)).mono ?_
    unfold FarAns
    rintro e w10 ⟨⟨ya, yc, rfl, ay⟩, b⟩
    have AX10 := hide' (AX9.out.below b)
    have AY10 := hide' ay
    clear AX9 AD9 ay
    have C9 := hide' (C8.out.trans (b.mono C8.out.size))
    clear b x0 x1 x2 x3 x4 x5 x6 C8
    obtain ⟨x0, x1, x2, x3, x4, x5, x6⟩ := RX.out.next C9.out
    go_wp2_with fail
    refine (Ints_both Z _ _ _ _ _ _ _ AX10.out AY10.out).mono ?_
    rintro e w11 ⟨rfl, b⟩
    have C10 := hide' (C9.out.trans (b.mono C9.out.size))
    clear b x0 x1 x2 x3 x4 x5 x6 C9
    obtain ⟨x0, x1, x2, x3, x4, x5, x6⟩ := RX.out.next C10.out
    by_cases dl : (wt.length : Int) = (S : Int)
    · have dl1 : ((wt.length : Int) != (S : Int)) = false := by simp [dl]
      have HDL := hide' (show wt.length = S by omega)
      clear dl
      go_wp2
      clear x0 x1 x2 x3 x4 x5 x6
      go_loopw [9, 19] (fun ev iv wr => ∃ i f : Nat, iv = .int .i64 (i : Int) ∧ ev = .int .i64 (f : Int) ∧ i ≤ wt.length ∧ wr = w11 ∧ Hid ((f = 0 ∧ ∀ j, j < i → -1000 ≤ wt.getD j 0 ∧ wt.getD j 0 ≤ 1000) ∨ (f = 1 ∧ wtE S wt = 1))) (fun _ iv _ => wt.length - (intOf iv).toNat)
      case atStart => exact ⟨0, 0, rfl, rfl, by omega, rfl, hide' (Or.inl ⟨rfl, fun j hj => by omega⟩)⟩
      case round =>
        obtain ⟨i, f2, rfl, rfl, hi, rfl, HI⟩ := hrel
        have hl4 : wt.length ≤ 4 := by have := HDL.out; omega
        obtain ⟨x0, x1, x2, x3, x4, x5, x6⟩ := RX.out.next C10.out
        by_cases di : (i : Int) < (wt.length : Int)
        · by_cases df : f2 = 0
          · subst df
            have HJ := hide' (show ∀ j, j < i → -1000 ≤ wt.getD j 0 ∧ wt.getD j 0 ≤ 1000 by rcases HI.out with ⟨_, h⟩ | ⟨h, _⟩; exact h; cases h)
            obtain ⟨gu, ou, rfl, hu⟩ := (AU.out.below C10.out).at (k := i) (by omega)
            obtain ⟨z, hz⟩ : ∃ z, wt.getD i 0 = z := ⟨_, rfl⟩
            rw [hz] at hu
            have HZ := hide' hz
            clear hz
            by_cases d1 : z < -1000
            · have NB := hide' (show wtE S wt = 1 from wtE_bad (k := i) HDL.out (by omega) (Or.inl (by rw [HZ.out]; exact d1)))
              go_wp2
              exact ⟨⟨i + 1, 1, by go_num, rfl, by omega, by first | trivial | rfl, hide' (Or.inr ⟨rfl, NB.out⟩)⟩, by simp [intOf]; omega⟩
            · by_cases d2 : 1000 < z
              · have NB := hide' (show wtE S wt = 1 from wtE_bad (k := i) HDL.out (by omega) (Or.inr (by rw [HZ.out]; exact d2)))
                go_wp2
                exact ⟨⟨i + 1, 1, by go_num, rfl, by omega, by first | trivial | rfl, hide' (Or.inr ⟨rfl, NB.out⟩)⟩, by simp [intOf]; omega⟩
              · have NB := hide' (show ∀ j, j < i + 1 → -1000 ≤ wt.getD j 0 ∧ wt.getD j 0 ≤ 1000 from fun j hj => by
                  rcases Nat.lt_or_ge j i with q | q
                  · exact HJ.out j q
                  · rw [show j = i by omega, HZ.out]; omega)
                go_wp2
                exact ⟨⟨i + 1, 0, by go_num, rfl, by omega, by first | trivial | rfl, hide' (Or.inl ⟨rfl, NB.out⟩)⟩, by simp [intOf]; omega⟩
          · have f1 : f2 = 1 := by rcases HI.out with ⟨h, _⟩ | ⟨h, _⟩; exact absurd h df; exact h
            subst f1
            have WE := hide' (show wtE S wt = 1 by rcases HI.out with ⟨h, _⟩ | ⟨_, h⟩; cases h; exact h)
            clear df
            go_wp2_with fail
            refine (KE.out _ (AT.out.below C10.out) (AU.out.below C10.out)).mono ?_
            rw [WE.out]
            rintro e wk (⟨_, hk⟩ | ⟨h0, _⟩)
            case inr => cases h0
            obtain ⟨rfl, b⟩ := hk
            have D1 := hide' (C10.out.trans (b.mono C10.out.size))
            clear b x0 x1 x2 x3 x4 x5 x6
            obtain ⟨x0, x1, x2, x3, x4, x5, x6⟩ := RX.out.next D1.out
            go_wp2_with fail
            refine (err_some_true 1 _ (HG.out.below D1.out)).mono ?_
            rintro e wm ⟨rfl, b⟩
            have D2 := hide' (D1.out.trans (b.mono D1.out.size))
            clear b x0 x1 x2 x3 x4 x5 x6
            go_wp2
            go_ret
            exact ⟨rfl, BB.out.trans (D2.out.mono BB.out.size)⟩
        · by_cases df : f2 = 0
          · subst df
            have WE := hide' (show wtE S wt = 0 from wtE_ok HDL.out (fun j hj => by rcases HI.out with ⟨_, h⟩ | ⟨h, _⟩; exact h j (by omega); cases h))
            go_wp2_with fail
            refine (KE.out _ (AT.out.below C10.out) (AU.out.below C10.out)).mono ?_
            rw [WE.out]
            rintro e wk (⟨h0, _⟩ | ⟨_, hk⟩)
            case inl => exact absurd rfl h0
            obtain ⟨⟨β, rfl, hβ⟩, b⟩ := hk
            have D1 := hide' (C10.out.trans (b.mono C10.out.size))
            have HBT := hide' hβ
            clear b x0 x1 x2 x3 x4 x5 x6 hβ
            obtain ⟨x0, x1, x2, x3, x4, x5, x6⟩ := RX.out.next D1.out
            go_wp2_with fail
            refine (err_nil_true _).mono ?_
            rintro e wm ⟨rfl, b⟩
            have D2 := hide' (D1.out.trans (b.mono D1.out.size))
            clear b x0 x1 x2 x3 x4 x5 x6
            obtain ⟨x0, x1, x2, x3, x4, x5, x6⟩ := RX.out.next D2.out
            go_wp2_with fail
            refine (RK.out _ (AT.out.below D2.out) (AU.out.below D2.out) WE.out).mono ?_
            rintro e wo ⟨⟨γ, rfl, hγ⟩, b⟩
            have D3 := hide' (D2.out.trans (b.mono D2.out.size))
            have eq : β = γ := by rw [Bool.eq_iff_iff, HBT.out, hγ]
            subst eq
            clear b x0 x1 x2 x3 x4 x5 x6 hγ
            cases β <;> (go_wp2; go_ret; exact ⟨rfl, BB.out.trans (D3.out.mono BB.out.size)⟩)
          · have f1 : f2 = 1 := by rcases HI.out with ⟨h, _⟩ | ⟨h, _⟩; exact absurd h df; exact h
            subst f1
            have WE := hide' (show wtE S wt = 1 by rcases HI.out with ⟨h, _⟩ | ⟨_, h⟩; cases h; exact h)
            clear df
            go_wp2_with fail
            refine (KE.out _ (AT.out.below C10.out) (AU.out.below C10.out)).mono ?_
            rw [WE.out]
            rintro e wk (⟨_, hk⟩ | ⟨h0, _⟩)
            case inr => cases h0
            obtain ⟨rfl, b⟩ := hk
            have D1 := hide' (C10.out.trans (b.mono C10.out.size))
            clear b x0 x1 x2 x3 x4 x5 x6
            obtain ⟨x0, x1, x2, x3, x4, x5, x6⟩ := RX.out.next D1.out
            go_wp2_with fail
            refine (err_some_true 1 _ (HG.out.below D1.out)).mono ?_
            rintro e wm ⟨rfl, b⟩
            have D2 := hide' (D1.out.trans (b.mono D1.out.size))
            clear b x0 x1 x2 x3 x4 x5 x6
            go_wp2
            go_ret
            exact ⟨rfl, BB.out.trans (D2.out.mono BB.out.size)⟩
    · have dl1 : ((wt.length : Int) != (S : Int)) = true := by simp [dl]
      have WE := hide' (show wtE S wt = 3 from wtE_shape (by omega))
      clear dl
      go_wp2
      go_loopw [9, 19] (fun ev iv wr => ev = .int .i64 3 ∧ iv = .int .i64 0 ∧ wr = w11) (fun _ _ _ => 0)
      case atStart => exact ⟨rfl, rfl, rfl⟩
      case round =>
        obtain ⟨rfl, rfl, rfl⟩ := hrel
        by_cases dw : (0 : Int) < (wt.length : Int)
        · go_wp2_with fail
          refine (KE.out _ (AT.out.below C10.out) (AU.out.below C10.out)).mono ?_
          rw [WE.out]
          rintro e wk (⟨_, hk⟩ | ⟨h0, _⟩)
          case inr => cases h0
          obtain ⟨rfl, b⟩ := hk
          have D1 := hide' (C10.out.trans (b.mono C10.out.size))
          clear b x0 x1 x2 x3 x4 x5 x6
          obtain ⟨x0, x1, x2, x3, x4, x5, x6⟩ := RX.out.next D1.out
          go_wp2_with fail
          refine (err_some_true 3 _ (HG.out.below D1.out)).mono ?_
          rintro e wm ⟨rfl, b⟩
          have D2 := hide' (D1.out.trans (b.mono D1.out.size))
          clear b x0 x1 x2 x3 x4 x5 x6
          go_wp2
          go_ret
          exact ⟨rfl, BB.out.trans (D2.out.mono BB.out.size)⟩
        · go_wp2_with fail
          refine (KE.out _ (AT.out.below C10.out) (AU.out.below C10.out)).mono ?_
          rw [WE.out]
          rintro e wk (⟨_, hk⟩ | ⟨h0, _⟩)
          case inr => cases h0
          obtain ⟨rfl, b⟩ := hk
          have D1 := hide' (C10.out.trans (b.mono C10.out.size))
          clear b x0 x1 x2 x3 x4 x5 x6
          obtain ⟨x0, x1, x2, x3, x4, x5, x6⟩ := RX.out.next D1.out
          go_wp2_with fail
          refine (err_some_true 3 _ (HG.out.below D1.out)).mono ?_
          rintro e wm ⟨rfl, b⟩
          have D2 := hide' (D1.out.trans (b.mono D1.out.size))
          clear b x0 x1 x2 x3 x4 x5 x6
          go_wp2
          go_ret
          exact ⟨rfl, BB.out.trans (D2.out.mono BB.out.size)⟩
end Go.Proofs.YtjjdjdodhedihaaDoor

