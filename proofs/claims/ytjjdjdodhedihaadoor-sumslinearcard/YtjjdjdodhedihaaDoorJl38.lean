/-
  What the last text of this claim leans on, part 38: Gh8, Gh9, OpenP.
-/
import Derived.Test.YtjjdjdodhedihaaDoorJl32
import Derived.Test.YtjjdjdodhedihaaDoorJl33
import Derived.Test.YtjjdjdodhedihaaDoorJl34
import Derived.Test.YtjjdjdodhedihaaDoorJl35
import Derived.Test.YtjjdjdodhedihaaDoorJl36
import Derived.Test.YtjjdjdodhedihaaDoorJl37
import Derived.Test.YtjjdjdodhedihaaDoorJl2
import Derived.Test.YtjjdjdodhedihaaDoorRows
import Derived.Test.YtjjdjdodhedihaaDoorCards
import Derived.Test.YtjjdjdodhedihaaDoorTie
import Derived.Test.YtjjdjdodhedihaaDoorJl13
import Derived.ProofKit
import Derived.OpenShut
import Derived.ChangeSame
import Derived.ChangeSlices
import Derived.ChangeVars
import Derived.JoinedOf
import Derived.RowKit
import Derived.RowKitTokens
import Derived.LaidLaws
import Derived.LaidHandle
import Derived.LaidSub
import Derived.Lay
import Derived.Carry
import Derived.Stop.Joined
import Derived.SevenTiedAt
namespace Go.Proofs.YtjjdjdodhedihaaDoor
open Go.RowKit
set_option linter.unusedVariables false

set_option maxRecDepth 100000 in
set_option maxHeartbeats 12800000 in
theorem law_slin_nf (S R : Nat) (T : List Int) (ta : Option Addr) (tn tc : Nat) (ws : List Int) (wa : Option Addr) (wc : Nat) (k : Int) (wt : List Int) (ua : Option Addr) (uc : Nat) (w : World) (hL : LineOk S R T) (hT : ArgP w T ta tn tc) (hW : ArgP w ws wa ws.length wc) (hU : ArgP w wt ua wt.length uc) (hg : Handle w) (hlin0 : ¬ LinP S R T) (hf0 : wordE S ws ≠ 0) :
    Calls Tryd.prog 4 #[.agg #[.int .i64 2, .int .i64 0, .int .i64 0, .int .i64 (S : Int), .int .i64 (R : Int), .slice ta tn tc, .string ⟨#[]⟩], .slice wa ws.length wc, .int .i64 k, .slice ua wt.length uc] w fun e w' => e = .returned (.bool true) ∧ Below w.heap.size w w' := by
  obtain ⟨w1, hw1⟩ : ∃ w1, w.alloc (.cells #[.int .i64 2, .int .i64 0, .int .i64 0, .int .i64 (S : Int), .int .i64 (R : Int), .slice ta tn tc, .string ⟨#[]⟩] 24) = w1 := ⟨_, rfl⟩
  have BB := hide' (show Below w.heap.size w w1 by rw [← hw1]; exact (Below.refl _ _).alloc (Nat.le_refl _) _)
  have RX := hide' (show RB w.heap.size S R (.slice ta tn tc) w1 by rw [← hw1]; exact RB.new w S R _ _)
  have AT := hide' (hT.below BB.out)
  have AW := hide' (hW.below BB.out)
  have AU := hide' (hU.below BB.out)
  have HG := hide' (hg.below BB.out)
  have s4 := hL.s4
  have s2 := hL.s2
  have r10 := hL.r10
  obtain ⟨f, hf⟩ : ∃ f, wordE S ws = f := ⟨_, rfl⟩
  have HF := hide' hf
  have F0 := hide' (fun (W : World) (h : ArgP W T ta tn tc) => lineFault_line S R T ta tn tc [] none 0 0 W hL h (argP_nil' W))
  rw [wordE_ok (S := S) (ws := []) (by simp) (fun x hx => by simp at hx)] at F0
  have FA := hide' (fun (W : World) (h : ArgP W T ta tn tc) (h2 : ArgP W ws wa ws.length wc) => lineFault_line S R T ta tn tc ws wa ws.length wc W hL h h2)
  rw [hf] at FA
  have LI := hide' (fun (W : World) (h : ArgP W T ta tn tc) => linear_line S R T ta tn tc W hL h)
  have RL := hide' (fun (W : World) (h : ArgP W T ta tn tc) => refLinear_any S R T ta tn tc W hL h)
  have JU := hide' (fun (W : World) (h : ArgP W T ta tn tc) (h2 : ArgP W ws wa ws.length wc) => jump_line S R T ta tn tc ws wa wc k W hL h h2)
  unfold JumpPost at JU
  rw [hf] at JU
  have FAR := hide' (fun (n0 : Nat) (ca : Option Addr) (cc : Nat) (W : World) (hlin : LinP S R T) (hC : ArgP W (numL S R T) ca (2 * R + 1) cc) (h2 : ArgP W ws wa ws.length wc) (he : f = 0) (hn : n0 ≤ 1000000000000000000) => far_any S R n0 T ws ta tn tc ca cc wa wc W hL hlin hC h2 (hf.trans he) hn)
  have RLN := hide' (fun (n0 : Nat) (he : f = 0) => show (runL S R T n0 ws).length ≤ maxLen by rw [runL_length]; have := (wordE_zero (hf.trans he)).1; unfold maxLen; omega)
  have KE := hide' (fun (W : World) (h : ArgP W T ta tn tc) (h2 : ArgP W wt ua wt.length uc) => keepsT_line S R _ T wt ta tn tc ua uc W hL h h2 rfl)
  have RK := hide' (fun (W : World) (h : ArgP W T ta tn tc) (h2 : ArgP W wt ua wt.length uc) (h3 : wtE S wt = 0) => refKeeps_any S R _ T wt ta tn tc ua wt.length uc W hL h h2 (wtE_wts h3).1 (wtE_wts h3).2 rfl)
  obtain ⟨K, hK⟩ : ∃ K, 2 * R + 1 = K := ⟨_, rfl⟩
  have K21 : K ≤ 21 := by omega
  have LEN := hide' (show (numL S R T).length = K by rw [← hK]; exact numL_length S R T)
  unfold LinPost at LI
  unfold RefLinPost at RL
  rw [hK] at LI RL FAR
  have HLIN0 := hide' hlin0
  have HF0 := hide' (show wordE S ws = f from hf)
  rw [hf] at hf0
  have HF1 := hide' hf0
  clear hT hL hW hU hg hf hK hlin0 hf0
  have C0 := hide' (Below.refl w1.heap.size w1)
  obtain ⟨x0, x1, x2, x3, x4, x5, x6⟩ := RX.out
  go_enter Tryd.func4, Tryd.ntmps4
  go_wp2_with fail
  refine (F0.out _ (AT.out.below C0.out)).mono ?_
  rintro e w2 ⟨rfl, b⟩
  clear hw1
  have C1 := hide' (C0.out.trans (b.mono C0.out.size))
  clear b x0 x1 x2 x3 x4 x5 x6 C0
  obtain ⟨x0, x1, x2, x3, x4, x5, x6⟩ := RX.out.next C1.out
  go_wp2_with fail
  refine (LI.out _ (AT.out.below C1.out)).mono ?_
  rintro e w3 ⟨hor, b⟩
  have C2 := hide' (C1.out.trans (b.mono C1.out.size))
  clear b x0 x1 x2 x3 x4 x5 x6 C1
  obtain ⟨x0, x1, x2, x3, x4, x5, x6⟩ := RX.out.next C2.out
  rcases hor with ⟨hlin, _⟩ | ⟨hno, rfl⟩
  case inl => exact absurd hlin HLIN0.out
  · have HNO := hide' hno
    clear hno
    go_wp2_with fail
    refine (RL.out _ (AT.out.below C2.out)).mono ?_
    rintro e w4 ⟨hor, b⟩
    have C3 := hide' (C2.out.trans (b.mono C2.out.size))
    clear b x0 x1 x2 x3 x4 x5 x6 C2
    obtain ⟨x0, x1, x2, x3, x4, x5, x6⟩ := RX.out.next C3.out
    rcases hor with ⟨hlin, _⟩ | ⟨_, rfl⟩
    case inl => exact absurd hlin HNO.out
    go_wp2_with fail
    refine (err_some_true 5 _ (HG.out.below C3.out)).mono ?_
    rintro e w5 ⟨rfl, b⟩
    have C4 := hide' (C3.out.trans (b.mono C3.out.size))
    clear b x0 x1 x2 x3 x4 x5 x6 C3
    obtain ⟨x0, x1, x2, x3, x4, x5, x6⟩ := RX.out.next C4.out
    go_wp2_with fail
    refine (Ints_both [] none none 0 0 0 0 _ (argP_nil' _) (argP_nil' _)).mono ?_
    rintro e w6 ⟨rfl, b⟩
    have C5 := hide' (C4.out.trans (b.mono C4.out.size))
    clear b x0 x1 x2 x3 x4 x5 x6 C4
    obtain ⟨x0, x1, x2, x3, x4, x5, x6⟩ := RX.out.next C5.out
    go_wp2_with fail
    refine (FA.out _ (AT.out.below C5.out) (AW.out.below C5.out)).mono ?_
    rintro e w7 ⟨rfl, b⟩
    have C6 := hide' (C5.out.trans (b.mono C5.out.size))
    clear b x0 x1 x2 x3 x4 x5 x6 C5
    obtain ⟨x0, x1, x2, x3, x4, x5, x6⟩ := RX.out.next C6.out
    have f1 : ((f : Int) == 0) = false := by have := HF1.out; simp; omega
    go_wp2_with fail
    refine (JU.out _ (AT.out.below C6.out) (AW.out.below C6.out)).mono ?_
    rintro e w8 (⟨_, hj⟩ | ⟨h, _⟩ | ⟨h, _⟩ | ⟨h, _⟩)
    case inr.inl => exact absurd h HF1.out
    case inr.inr.inl => exact absurd h HF1.out
    case inr.inr.inr => exact absurd h HF1.out
    unfold ListErr at hj
    obtain ⟨rfl, b⟩ := hj
    have C7 := hide' (C6.out.trans (b.mono C6.out.size))
    clear b x0 x1 x2 x3 x4 x5 x6 C6
    obtain ⟨x0, x1, x2, x3, x4, x5, x6⟩ := RX.out.next C7.out
    go_wp2_with fail
    refine (err_some_true _ _ (HG.out.below C7.out)).mono ?_
    rintro e w9 ⟨rfl, b⟩
    have C8 := hide' (C7.out.trans (b.mono C7.out.size))
    clear b x0 x1 x2 x3 x4 x5 x6 C7
    obtain ⟨x0, x1, x2, x3, x4, x5, x6⟩ := RX.out.next C8.out
    go_wp2_with fail
    refine (Ints_both [] none none 0 0 0 0 _ (argP_nil' _) (argP_nil' _)).mono ?_
    rintro e w10 ⟨rfl, b⟩
    have C9 := hide' (C8.out.trans (b.mono C8.out.size))
    clear b x0 x1 x2 x3 x4 x5 x6 C8
    obtain ⟨x0, x1, x2, x3, x4, x5, x6⟩ := RX.out.next C9.out
    by_cases dl : (wt.length : Int) = (S : Int)
    · have dl1 : ((wt.length : Int) != (S : Int)) = false := by simp [dl]
      have HDL := hide' (show wt.length = S by omega)
      clear dl
      go_wp2
      clear x0 x1 x2 x3 x4 x5 x6
      go_loopw [9, 19] (fun ev iv wr => ∃ i f : Nat, iv = .int .i64 (i : Int) ∧ ev = .int .i64 (f : Int) ∧ i ≤ wt.length ∧ wr = w10 ∧ Hid ((f = 0 ∧ ∀ j, j < i → -1000 ≤ wt.getD j 0 ∧ wt.getD j 0 ≤ 1000) ∨ (f = 1 ∧ wtE S wt = 1))) (fun _ iv _ => wt.length - (intOf iv).toNat)
      case atStart => exact ⟨0, 0, rfl, rfl, by omega, rfl, hide' (Or.inl ⟨rfl, fun j hj => by omega⟩)⟩
      case round =>
        obtain ⟨i, f2, rfl, rfl, hi, rfl, HI⟩ := hrel
        have hl4 : wt.length ≤ 4 := by have := HDL.out; omega
        obtain ⟨x0, x1, x2, x3, x4, x5, x6⟩ := RX.out.next C9.out
        by_cases di : (i : Int) < (wt.length : Int)
        · by_cases df : f2 = 0
          · subst df
            have HJ := hide' (show ∀ j, j < i → -1000 ≤ wt.getD j 0 ∧ wt.getD j 0 ≤ 1000 by rcases HI.out with ⟨_, h⟩ | ⟨h, _⟩; exact h; cases h)
            obtain ⟨gu, ou, rfl, hu⟩ := (AU.out.below C9.out).at (k := i) (by omega)
            obtain ⟨z, hz⟩ : ∃ z, wt.getD i 0 = z := ⟨_, rfl⟩
            rw [hz] at hu
            have HZ := hide' hz
            clear hz
            by_cases d1 : z < -1000
            · have NB := hide' (show wtE S wt = 1 from wtE_bad (k := i) HDL.out (by omega) (Or.inl (by rw [HZ.out]; exact d1)))
              go_wp2
              exact ⟨⟨i + 1, 1, by go_num, rfl, by omega, by first | trivial | rfl, hide' (Or.inr ⟨rfl, NB.out⟩)⟩, by simp [intOf]; omega⟩
            · by_cases d2 : 1000 < z
              · have NB := hide' (show wtE S wt = 1 from wtE_bad (k := i) HDL.out (by omega) (Or.inr (by rw [HZ.out]; exact d2)))
                go_wp2
                exact ⟨⟨i + 1, 1, by go_num, rfl, by omega, by first | trivial | rfl, hide' (Or.inr ⟨rfl, NB.out⟩)⟩, by simp [intOf]; omega⟩
              · have NB := hide' (show ∀ j, j < i + 1 → -1000 ≤ wt.getD j 0 ∧ wt.getD j 0 ≤ 1000 from fun j hj => by
                  rcases Nat.lt_or_ge j i with q | q
                  · exact HJ.out j q
                  · rw [show j = i by omega, HZ.out]; omega)
                go_wp2
                exact ⟨⟨i + 1, 0, by go_num, rfl, by omega, by first | trivial | rfl, hide' (Or.inl ⟨rfl, NB.out⟩)⟩, by simp [intOf]; omega⟩
          · have f1 : f2 = 1 := by rcases HI.out with ⟨h, _⟩ | ⟨h, _⟩; exact absurd h df; exact h
            subst f1
            have WE := hide' (show wtE S wt = 1 by rcases HI.out with ⟨h, _⟩ | ⟨_, h⟩; cases h; exact h)
            clear df
            go_wp2_with fail
            refine (KE.out _ (AT.out.below C9.out) (AU.out.below C9.out)).mono ?_
            rw [WE.out]
            rintro e wk (⟨_, hk⟩ | ⟨h0, _⟩)
            case inr => cases h0
            obtain ⟨rfl, b⟩ := hk
            have D1 := hide' (C9.out.trans (b.mono C9.out.size))
            clear b x0 x1 x2 x3 x4 x5 x6
            obtain ⟨x0, x1, x2, x3, x4, x5, x6⟩ := RX.out.next D1.out
            go_wp2_with fail
            refine (err_some_true 1 _ (HG.out.below D1.out)).mono ?_
            rintro e wm ⟨rfl, b⟩
            have D2 := hide' (D1.out.trans (b.mono D1.out.size))
            clear b x0 x1 x2 x3 x4 x5 x6
            go_wp2
            go_ret
            exact ⟨rfl, BB.out.trans (D2.out.mono BB.out.size)⟩
        · by_cases df : f2 = 0
          · subst df
            have WE := hide' (show wtE S wt = 0 from wtE_ok HDL.out (fun j hj => by rcases HI.out with ⟨_, h⟩ | ⟨h, _⟩; exact h j (by omega); cases h))
            go_wp2_with fail
            refine (KE.out _ (AT.out.below C9.out) (AU.out.below C9.out)).mono ?_
            rw [WE.out]
            rintro e wk (⟨h0, _⟩ | ⟨_, hk⟩)
            case inl => exact absurd rfl h0
            obtain ⟨⟨β, rfl, hβ⟩, b⟩ := hk
            have D1 := hide' (C9.out.trans (b.mono C9.out.size))
            have HBT := hide' hβ
            clear b x0 x1 x2 x3 x4 x5 x6 hβ
            obtain ⟨x0, x1, x2, x3, x4, x5, x6⟩ := RX.out.next D1.out
            go_wp2_with fail
            refine (err_nil_true _).mono ?_
            rintro e wm ⟨rfl, b⟩
            have D2 := hide' (D1.out.trans (b.mono D1.out.size))
            clear b x0 x1 x2 x3 x4 x5 x6
            obtain ⟨x0, x1, x2, x3, x4, x5, x6⟩ := RX.out.next D2.out
            go_wp2_with fail
            refine (RK.out _ (AT.out.below D2.out) (AU.out.below D2.out) WE.out).mono ?_
            rintro e wo ⟨⟨γ, rfl, hγ⟩, b⟩
            have D3 := hide' (D2.out.trans (b.mono D2.out.size))
            have eq : β = γ := by rw [Bool.eq_iff_iff, HBT.out, hγ]
            subst eq
            clear b x0 x1 x2 x3 x4 x5 x6 hγ
            cases β <;> (go_wp2; go_ret; exact ⟨rfl, BB.out.trans (D3.out.mono BB.out.size)⟩)
          · have f1 : f2 = 1 := by rcases HI.out with ⟨h, _⟩ | ⟨h, _⟩; exact absurd h df; exact h
            subst f1
            have WE := hide' (show wtE S wt = 1 by rcases HI.out with ⟨h, _⟩ | ⟨_, h⟩; cases h; exact h)
            clear df
            go_wp2_with fail
            refine (KE.out _ (AT.out.below C9.out) (AU.out.below C9.out)).mono ?_
            rw [WE.out]
            rintro e wk (⟨_, hk⟩ | ⟨h0, _⟩)
            case inr => cases h0
            obtain ⟨rfl, b⟩ := hk
            have D1 := hide' (C9.out.trans (b.mono C9.out.size))
            clear b x0 x1 x2 x3 x4 x5 x6
            obtain ⟨x0, x1, x2, x3, x4, x5, x6⟩ := RX.out.next D1.out
            go_wp2_with fail
            refine (err_some_true 1 _ (HG.out.below D1.out)).mono ?_
            rintro e wm ⟨rfl, b⟩
            have D2 := hide' (D1.out.trans (b.mono D1.out.size))
            clear b x0 x1 x2 x3 x4 x5 x6
            go_wp2
            go_ret
            exact ⟨rfl, BB.out.trans (D2.out.mono BB.out.size)⟩
    · have dl1 : ((wt.length : Int) != (S : Int)) = true := by simp [dl]
      have WE := hide' (show wtE S wt = 3 from wtE_shape (by omega))
      clear dl
      go_wp2
      go_loopw [9, 19] (fun ev iv wr => ev = .int .i64 3 ∧ iv = .int .i64 0 ∧ wr = w10) (fun _ _ _ => 0)
      case atStart => exact ⟨rfl, rfl, rfl⟩
      case round =>
        obtain ⟨rfl, rfl, rfl⟩ := hrel
        by_cases dw : (0 : Int) < (wt.length : Int)
        · go_wp2_with fail
          refine (KE.out _ (AT.out.below C9.out) (AU.out.below C9.out)).mono ?_
          rw [WE.out]
          rintro e wk (⟨_, hk⟩ | ⟨h0, _⟩)
          case inr => cases h0
          obtain ⟨rfl, b⟩ := hk
          have D1 := hide' (C9.out.trans (b.mono C9.out.size))
          clear b x0 x1 x2 x3 x4 x5 x6
          obtain ⟨x0, x1, x2, x3, x4, x5, x6⟩ := RX.out.next D1.out
          go_wp2_with fail
          refine (err_some_true 3 _ (HG.out.below D1.out)).mono ?_
          rintro e wm ⟨rfl, b⟩
          have D2 := hide' (D1.out.trans (b.mono D1.out.size))
          clear b x0 x1 x2 x3 x4 x5 x6
          go_wp2
          go_ret
          exact ⟨rfl, BB.out.trans (D2.out.mono BB.out.size)⟩
        · go_wp2_with fail
          refine (KE.out _ (AT.out.below C9.out) (AU.out.below C9.out)).mono ?_
          rw [WE.out]
          rintro e wk (⟨_, hk⟩ | ⟨h0, _⟩)
          case inr => cases h0
          obtain ⟨rfl, b⟩ := hk
          have D1 := hide' (C9.out.trans (b.mono C9.out.size))
          clear b x0 x1 x2 x3 x4 x5 x6
          obtain ⟨x0, x1, x2, x3, x4, x5, x6⟩ := RX.out.next D1.out
          go_wp2_with fail
          refine (err_some_true 3 _ (HG.out.below D1.out)).mono ?_
          rintro e wm ⟨rfl, b⟩
          have D2 := hide' (D1.out.trans (b.mono D1.out.size))
          clear b x0 x1 x2 x3 x4 x5 x6
          go_wp2
          go_ret
          exact ⟨rfl, BB.out.trans (D2.out.mono BB.out.size)⟩
end Go.Proofs.YtjjdjdodhedihaaDoor

namespace Go.Proofs.YtjjdjdodhedihaaDoor
open Go.RowKit
set_option linter.unusedVariables false

theorem law_slin_all (o : Out) (ta : Option Addr) (tn tc : Nat) (ws : List Int) (wa : Option Addr) (wc : Nat) (k : Int) (wt : List Int) (ua : Option Addr) (uc : Nat) (w : World) (hR : ArgR w o ta tn tc) (hW : ArgP w ws wa ws.length wc) (hU : ArgP w wt ua wt.length uc) (hg : Handle w) :
    Calls Tryd.prog 4 #[.agg #[.int .i64 o.kind, .int .i64 o.born, .int .i64 o.stay, .int .i64 o.states, .int .i64 o.radius, .slice ta tn tc, .string o.turns], .slice wa ws.length wc, .int .i64 k, .slice ua wt.length uc] w fun e w' => e = .returned (.bool true) ∧ Below w.heap.size w w' := by
  by_cases h : Good o ∧ o.kind = 2
  · obtain ⟨S, R, e, hL⟩ := good_line o h.1 h.2
    have hT : ArgP w o.table ta tn tc := ⟨hR.len, hR.max, hR.cells⟩
    obtain ⟨T, hTe⟩ : ∃ T, o.table = T := ⟨_, rfl⟩
    rw [hTe] at e hL hT
    subst e
    by_cases hl : LinP S R T
    · by_cases hf : wordE S ws = 0
      · by_cases d1 : k < 0
        · exact law_slin_lo S R T ta tn tc ws wa wc k wt ua uc w hL hT hW hU hg hl hf d1
        · by_cases d2 : 1000000000000000000 < k
          · exact law_slin_hi S R T ta tn tc ws wa wc k wt ua uc w hL hT hW hU hg hl hf d1 d2
          · exact law_slin_ok S R T ta tn tc ws wa wc k wt ua uc w hL hT hW hU hg hl hf d1 d2
      · exact law_slin_wf S R T ta tn tc ws wa wc k wt ua uc w hL hT hW hU hg hl hf
    · by_cases hf : wordE S ws = 0
      · exact law_slin_no S R T ta tn tc ws wa wc k wt ua uc w hL hT hW hU hg hl hf
      · exact law_slin_nf S R T ta tn tc ws wa wc k wt ua uc w hL hT hW hU hg hl hf
  · exact law_slin_off o ta tn tc _ k wt ua uc w hR h hg
end Go.Proofs.YtjjdjdodhedihaaDoor

namespace Go.Proofs.YtjjdjdodhedihaaDoor
open Go.ChangeShapes Go.WideShapes Go.ChangeAt Go.RowKit
open Go.ChangeMaps (setBlock shut_map_nil open_string shut_string keptBut_setBlock frozen?_setBlock heap_setBlock_same)
set_option linter.unusedVariables false

theorem laidOutP : laidOutB Tryd.prog = true := by kernel_rfl
theorem ownP : ownKnob Tryd.prog.godebug = none := by kernel_rfl
theorem errorTypeAtP : Tryd.prog.globalNamed "errors.errorType" = some 0 := by kernel_rfl
theorem rtypeAtP : (Tryd.prog.cutTypes.find? (·.1 == "internal/reflectlite.rtype")).map (·.2) = some 201 := by kernel_rfl
theorem oneRowP : ((List.range 249).filter fun t => Tryd.prog.rowNamed t [101, 114, 114, 111, 114]) = [26] := by kernel_rfl
theorem typesSizeP : Tryd.prog.types.size = 249 := by kernel_rfl

/-- What the condition on the listed variable gives a walk: its one cell. -/
theorem handle_laid {W : World} (h : handlesMet Tryd.prog [("errors.errorType", Rows.laid_errors_errorType)] W) : Handle W := by
  obtain ⟨name, u, ty, e1, e2, e3, e4, e5⟩ := h _ (List.mem_singleton.2 rfl)
  have en : name = [101, 114, 114, 111, 114] := (Option.some.inj e1).symm
  subst en
  obtain rfl := Option.some.inj (rtypeAtP.symm.trans e2)
  have hm : ty ∈ (List.range 249).filter fun t => Tryd.prog.rowNamed t [101, 114, 114, 111, 114] := List.mem_filter.2 ⟨List.mem_range.2 (by rw [← typesSizeP]; exact e3), e4⟩
  rw [oneRowP] at hm
  obtain rfl := List.mem_singleton.1 hm
  have hh : typeHandle Tryd.prog 26 = .pointer (some ⟨3, 26, none⟩) := by kernel_rfl
  rw [hh] at e5
  simpa [Handle] using World.var?_cell errorTypeAtP e5 0

/-- The variable's cell laid. -/
def layBlockP (o : Obj) : Obj := match o with
  | .cells _ t frozen => .cells #[.iface 201 (.agg #[.pointer (some ⟨3, 26, none⟩)])] t frozen
  | o => o
def layWorldP (w : World) : World := { w with heap := w.heap.modify 0 layBlockP }

/-- A list of ints as it is read. -/
theorem ints_arg {H : Type} {enc : TypeId × Value → H} {W : World} {fuel : Nat} {cs : List Value} {x : DataW H × List MemPlace}
    (h : DataW.trod enc Tryd.prog W 0 (fun _ => true) true fuel 22 cs = some x) :
    ∃ (xs : List Int) (a : Option Addr) (c : Nat), cs = [.slice a xs.length c] ∧ ArgP W xs a xs.length c ∧ xs.length ≤ c ∧ c ≤ maxLen := by
  have q3 : Tryd.prog.cellsOf 3 = 1 := by kernel_rfl
  rcases open_ints Tryd.underlying22 Tryd.underlying3 q3 h with ⟨rfl, -⟩ | ⟨a, len, cap, zs, rfl, hb, hlc, hcm, hzl, -, hcell, hwf⟩
  · exact ⟨[], none, 0, rfl, ⟨rfl, by simp, fun k hk => absurd hk (by simp)⟩, by simp, by simp⟩
  · simp only [if_true] at hzl
    have hl : (zs.take len).length = len := by simp; omega
    refine ⟨zs.take len, some a, cap, by rw [hl], ⟨rfl, by omega, fun k hk => ?_⟩, by omega, hcm⟩
    have hk' : k < len ∧ k < zs.length := by simp only [List.length_take] at hk; omega
    have hc0 := hcell 0 (by omega)
    have hck := hcell k hk'.2
    obtain ⟨g, off, sp⟩ := a
    have hsp : sp = none := by
      cases sp with
      | none => rfl
      | some q =>
        exfalso
        simp [Addr.add, World.cell?] at hc0
        split at hc0 <;> simp at hc0
    subst hsp
    have ea : (⟨g, off, none⟩ : Addr).add k = ⟨g, off + k, none⟩ := by
      unfold Addr.add
      split
      · rename_i hz; subst hz; rfl
      · rfl
    rw [ea] at hck
    refine ⟨g, off, rfl, ?_, ?_⟩
    · rcases Nat.lt_or_ge g W.heap.size with q | q
      · exact q
      · simp [World.cell?, Array.getElem?_eq_none q] at hck
    · rw [hck]
      simp [List.getD, hk'.2]

set_option maxRecDepth 100000 in
/-- A list of ints that came in. -/
theorem open_list {H : Type} {enc : TypeId × Value → H} {W : World} {base : Nat} {v : Value} {d : DataW H} {p : List MemPlace}
    (hv : Value.okWide Tryd.prog W .any base 22 v) (h : DataW.Trod enc Tryd.prog W 0 (fun _ => true) true 22 v d p) :
    ∃ (xs : List Int) (a : Option Addr) (c : Nat), v = .slice a xs.length c ∧ ArgP W xs a xs.length c ∧ xs.length ≤ c ∧ c ≤ maxLen := by
  obtain ⟨a0, n0, c0, rfl⟩ := okWide_slice Tryd.underlying22 hv
  obtain ⟨fuel, h⟩ := h
  obtain ⟨xs, a, c, e, ha, h1, h2⟩ := ints_arg h
  simp [Value.cells] at e
  obtain ⟨rfl, rfl, rfl⟩ := e
  exact ⟨xs, _, _, rfl, ha, h1, h2⟩
end Go.Proofs.YtjjdjdodhedihaaDoor

