/-
  What the last text of this claim leans on, part 30: Ge4, OpenP, OpenQ.
-/
import Derived.Test.YtjjdjdodhedihaaDoorJs29
import Derived.Test.YtjjdjdodhedihaaDoorJs3
import Derived.Test.YtjjdjdodhedihaaDoorRows
import Derived.Test.YtjjdjdodhedihaaDoorCards
import Derived.Test.YtjjdjdodhedihaaDoorTie
import Derived.Test.YtjjdjdodhedihaaDoorJs17
import Derived.Test.YtjjdjdodhedihaaDoorJs4
import Derived.ProofKit
import Derived.OpenShut
import Derived.ChangeSame
import Derived.ChangeSlices
import Derived.ChangeVars
import Derived.JoinedOf
import Derived.RowKit
import Derived.RowKitTokens
import Derived.LaidLaws
import Derived.LaidHandle
import Derived.LaidSub
import Derived.Lay
import Derived.Carry
import Derived.Stop.Joined
import Derived.SevenTiedAt
namespace Go.Proofs.YtjjdjdodhedihaaDoor
open Go.RowKit
set_option linter.unusedVariables false

set_option maxRecDepth 100000 in
set_option maxHeartbeats 12800000 in
theorem law_sonto_off (o : Out) (ta : Option Addr) (tn tc : Nat) (w : World) (hR : ArgR w o ta tn tc) (h : ¬ (Good o ∧ o.kind = 2)) :
    Calls Tryd.prog 5 #[.agg #[.int .i64 o.kind, .int .i64 o.born, .int .i64 o.stay, .int .i64 o.states, .int .i64 o.radius, .slice ta tn tc, .string o.turns]] w fun e w' => e = .returned (.bool true) ∧ Below w.heap.size w w' := by
  obtain ⟨w1, hw1⟩ : ∃ w1, w.alloc (.cells #[.int .i64 o.kind, .int .i64 o.born, .int .i64 o.stay, .int .i64 o.states, .int .i64 o.radius, .slice ta tn tc, .string o.turns] 24) = w1 := ⟨_, rfl⟩
  have BB := hide' (show Below w.heap.size w w1 by rw [← hw1]; exact (Below.refl _ _).alloc (Nat.le_refl _) _)
  have RX := hide' (show RBo w.heap.size o (.slice ta tn tc) w1 by rw [← hw1]; exact RBo.new w o _ _)
  have AT := hide' (show ArgR w1 o ta tn tc by rw [← hw1]; exact hR.alloc _)
  have LI := hide' (fun (W : World) (h' : ArgR W o ta tn tc) => linear_off o ta tn tc W h' h)
  clear hR h
  obtain ⟨w2, hw2⟩ : ∃ w2, w1.alloc (.cells #[.int .i64 0, .int .i64 1] 3) = w2 := ⟨_, rfl⟩
  have C0 := hide' (show Below w1.heap.size w1 w2 by rw [← hw2]; exact (Below.refl _ _).alloc (Nat.le_refl _) _)
  have FA := hide' (show ArgP w2 [0, 1] (some ⟨w1.heap.size, 0, none⟩) 2 2 by
    refine ⟨rfl, by unfold maxLen; omega, fun k hk => ⟨w1.heap.size, 0, rfl, by rw [← hw2]; simp, ?_⟩⟩
    rw [← hw2, World.cell?_alloc_at _ _ _ _ rfl]
    have : k = 0 ∨ k = 1 := by simp at hk; omega
    rcases this with rfl | rfl <;> rfl)
  have FO := hide' (fact_linear w1.heap.size w2 FA.out)
  obtain ⟨x0, x1, x2, x3, x4, x5, x6⟩ := RX.out.next C0.out
  go_enter Tryd.func5, Tryd.ntmps5
  go_wp2_with fail
  refine (show Calls Tryd.prog _ _ _ _ from FO.out).mono ?_
  rintro e w4 ⟨⟨g', rfl, fc⟩, b⟩
  have C2 := hide' (C0.out.trans (b.mono C0.out.size))
  clear b x0 x1 x2 x3 x4 x5 x6 C0 FO FA hw1 hw2
  obtain ⟨x0, x1, x2, x3, x4, x5, x6⟩ := RX.out.next C2.out
  go_wp2_with fail
  refine (LI.out _ (AT.out.below C2.out)).mono ?_
  unfold ListErr
  rintro e w5 ⟨rfl, b⟩
  clear fc
  have C3 := hide' (C2.out.trans (b.mono C2.out.size))
  clear b x0 x1 x2 x3 x4 x5 x6 C2
  obtain ⟨x0, x1, x2, x3, x4, x5, x6⟩ := RX.out.next C3.out
  go_wp2
  go_ret
  exact ⟨rfl, BB.out.trans (C3.out.mono BB.out.size)⟩

set_option maxRecDepth 100000 in
set_option maxHeartbeats 12800000 in
theorem law_sonto_not (S R : Nat) (T : List Int) (ta : Option Addr) (tn tc : Nat) (w : World) (hL : LineOk S R T) (hT : ArgP w T ta tn tc) (hl : ¬ LinP S R T) :
    Calls Tryd.prog 5 #[.agg #[.int .i64 2, .int .i64 0, .int .i64 0, .int .i64 (S : Int), .int .i64 (R : Int), .slice ta tn tc, .string ⟨#[]⟩]] w fun e w' => e = .returned (.bool true) ∧ Below w.heap.size w w' := by
  obtain ⟨w1, hw1⟩ : ∃ w1, w.alloc (.cells #[.int .i64 2, .int .i64 0, .int .i64 0, .int .i64 (S : Int), .int .i64 (R : Int), .slice ta tn tc, .string ⟨#[]⟩] 24) = w1 := ⟨_, rfl⟩
  have BB := hide' (show Below w.heap.size w w1 by rw [← hw1]; exact (Below.refl _ _).alloc (Nat.le_refl _) _)
  have RX := hide' (show RB w.heap.size S R (.slice ta tn tc) w1 by rw [← hw1]; exact RB.new w S R _ _)
  have AT := hide' (hT.below BB.out)
  have LI := hide' (fun (W : World) (h' : ArgP W T ta tn tc) => linear_line S R T ta tn tc W hL h')
  have HN := hide' hl
  clear hT hL hl
  obtain ⟨w2, hw2⟩ : ∃ w2, w1.alloc (.cells #[.int .i64 0, .int .i64 1] 3) = w2 := ⟨_, rfl⟩
  have C0 := hide' (show Below w1.heap.size w1 w2 by rw [← hw2]; exact (Below.refl _ _).alloc (Nat.le_refl _) _)
  have FA := hide' (show ArgP w2 [0, 1] (some ⟨w1.heap.size, 0, none⟩) 2 2 by
    refine ⟨rfl, by unfold maxLen; omega, fun k hk => ⟨w1.heap.size, 0, rfl, by rw [← hw2]; simp, ?_⟩⟩
    rw [← hw2, World.cell?_alloc_at _ _ _ _ rfl]
    have : k = 0 ∨ k = 1 := by simp at hk; omega
    rcases this with rfl | rfl <;> rfl)
  have FO := hide' (fact_linear w1.heap.size w2 FA.out)
  obtain ⟨x0, x1, x2, x3, x4, x5, x6⟩ := RX.out.next C0.out
  go_enter Tryd.func5, Tryd.ntmps5
  go_wp2_with fail
  refine (show Calls Tryd.prog _ _ _ _ from FO.out).mono ?_
  rintro e w4 ⟨⟨g', rfl, fc⟩, b⟩
  have C2 := hide' (C0.out.trans (b.mono C0.out.size))
  clear b x0 x1 x2 x3 x4 x5 x6 C0 FO FA hw1 hw2
  obtain ⟨x0, x1, x2, x3, x4, x5, x6⟩ := RX.out.next C2.out
  go_wp2_with fail
  refine (LI.out _ (AT.out.below C2.out)).mono ?_
  rintro e w5 ⟨⟨q, _⟩ | ⟨_, rfl⟩, b⟩
  · exact absurd q HN.out
  clear fc
  have C3 := hide' (C2.out.trans (b.mono C2.out.size))
  clear b x0 x1 x2 x3 x4 x5 x6 C2
  obtain ⟨x0, x1, x2, x3, x4, x5, x6⟩ := RX.out.next C3.out
  go_wp2
  go_ret
  exact ⟨rfl, BB.out.trans (C3.out.mono BB.out.size)⟩

set_option maxRecDepth 100000 in
set_option maxHeartbeats 12800000 in
theorem law_sonto_bad (S R : Nat) (T : List Int) (ta : Option Addr) (tn tc : Nat) (w : World) (hL : LineOk S R T) (hT : ArgP w T ta tn tc) (hl : LinP S R T) (he : askE S R [] ≠ 0) :
    Calls Tryd.prog 5 #[.agg #[.int .i64 2, .int .i64 0, .int .i64 0, .int .i64 (S : Int), .int .i64 (R : Int), .slice ta tn tc, .string ⟨#[]⟩]] w fun e w' => e = .returned (.bool true) ∧ Below w.heap.size w w' := by
  obtain ⟨w1, hw1⟩ : ∃ w1, w.alloc (.cells #[.int .i64 2, .int .i64 0, .int .i64 0, .int .i64 (S : Int), .int .i64 (R : Int), .slice ta tn tc, .string ⟨#[]⟩] 24) = w1 := ⟨_, rfl⟩
  have BB := hide' (show Below w.heap.size w w1 by rw [← hw1]; exact (Below.refl _ _).alloc (Nat.le_refl _) _)
  have RX := hide' (show RB w.heap.size S R (.slice ta tn tc) w1 by rw [← hw1]; exact RB.new w S R _ _)
  have AT := hide' (hT.below BB.out)
  have LI := hide' (fun (W : World) (h' : ArgP W T ta tn tc) => linear_line S R T ta tn tc W hL h')
  have HN := hide' hl
  obtain ⟨f, hf⟩ : ∃ f, askE S R [] = f := ⟨_, rfl⟩
  have ON := hide' (fun (W : World) (h : ArgP W T ta tn tc) => onto_bad S R T ta tn tc W hL h he)
  have OE := hide' (fun (W : World) (h : ArgP W T ta tn tc) => one_bad S R T ta tn tc W hL h he)
  rw [hf] at ON OE
  clear hT hL hl he hf
  obtain ⟨w2, hw2⟩ : ∃ w2, w1.alloc (.cells #[.int .i64 0, .int .i64 1] 3) = w2 := ⟨_, rfl⟩
  have C0 := hide' (show Below w1.heap.size w1 w2 by rw [← hw2]; exact (Below.refl _ _).alloc (Nat.le_refl _) _)
  have FA := hide' (show ArgP w2 [0, 1] (some ⟨w1.heap.size, 0, none⟩) 2 2 by
    refine ⟨rfl, by unfold maxLen; omega, fun k hk => ⟨w1.heap.size, 0, rfl, by rw [← hw2]; simp, ?_⟩⟩
    rw [← hw2, World.cell?_alloc_at _ _ _ _ rfl]
    have : k = 0 ∨ k = 1 := by simp at hk; omega
    rcases this with rfl | rfl <;> rfl)
  have FO := hide' (fact_linear w1.heap.size w2 FA.out)
  obtain ⟨x0, x1, x2, x3, x4, x5, x6⟩ := RX.out.next C0.out
  go_enter Tryd.func5, Tryd.ntmps5
  go_wp2_with fail
  refine (show Calls Tryd.prog _ _ _ _ from FO.out).mono ?_
  rintro e w4 ⟨⟨g', rfl, fc⟩, b⟩
  have C2 := hide' (C0.out.trans (b.mono C0.out.size))
  clear b x0 x1 x2 x3 x4 x5 x6 C0 FO FA hw1 hw2
  obtain ⟨x0, x1, x2, x3, x4, x5, x6⟩ := RX.out.next C2.out
  go_wp2_with fail
  refine (LI.out _ (AT.out.below C2.out)).mono ?_
  rintro e w5 ⟨⟨_, g, rfl, cl, _⟩ | ⟨q, _⟩, b⟩
  case inr => exact absurd HN.out q
  clear fc cl
  have C3 := hide' (C2.out.trans (b.mono C2.out.size))
  clear b x0 x1 x2 x3 x4 x5 x6 C2
  obtain ⟨x0, x1, x2, x3, x4, x5, x6⟩ := RX.out.next C3.out
  go_wp2_with fail
  refine (ON.out _ (AT.out.below C3.out)).mono ?_
  unfold OntoErr
  rintro e w6 ⟨rfl, b⟩
  have C4 := hide' (C3.out.trans (b.mono C3.out.size))
  clear b x0 x1 x2 x3 x4 x5 x6 C3
  obtain ⟨x0, x1, x2, x3, x4, x5, x6⟩ := RX.out.next C4.out
  go_wp2_with fail
  refine (OE.out _ (AT.out.below C4.out)).mono ?_
  unfold OneErr
  rintro e w7 ⟨rfl, b⟩
  have C5 := hide' (C4.out.trans (b.mono C4.out.size))
  clear b x0 x1 x2 x3 x4 x5 x6 C4
  obtain ⟨x0, x1, x2, x3, x4, x5, x6⟩ := RX.out.next C5.out
  go_wp2
  go_ret
  exact ⟨rfl, BB.out.trans (C5.out.mono BB.out.size)⟩

set_option maxRecDepth 100000 in
set_option maxHeartbeats 12800000 in
theorem law_sonto_ok (S R : Nat) (T : List Int) (ta : Option Addr) (tn tc : Nat) (w : World) (hL : LineOk S R T) (hT : ArgP w T ta tn tc) (hl : LinP S R T) (he : askE S R [] = 0) (hz : TzTab w) :
    Calls Tryd.prog 5 #[.agg #[.int .i64 2, .int .i64 0, .int .i64 0, .int .i64 (S : Int), .int .i64 (R : Int), .slice ta tn tc, .string ⟨#[]⟩]] w fun e w' => e = .returned (.bool true) ∧ Below w.heap.size w w' := by
  obtain ⟨w1, hw1⟩ : ∃ w1, w.alloc (.cells #[.int .i64 2, .int .i64 0, .int .i64 0, .int .i64 (S : Int), .int .i64 (R : Int), .slice ta tn tc, .string ⟨#[]⟩] 24) = w1 := ⟨_, rfl⟩
  have BB := hide' (show Below w.heap.size w w1 by rw [← hw1]; exact (Below.refl _ _).alloc (Nat.le_refl _) _)
  have RX := hide' (show RB w.heap.size S R (.slice ta tn tc) w1 by rw [← hw1]; exact RB.new w S R _ _)
  have AT := hide' (hT.below BB.out)
  have LI := hide' (fun (W : World) (h' : ArgP W T ta tn tc) => linear_line S R T ta tn tc W hL h')
  have HN := hide' hl
  have TZ := hide' (hz.below BB.out)
  obtain ⟨cs, hcs⟩ : ∃ cs, numL S R T = cs := ⟨_, rfl⟩
  obtain ⟨K, hK⟩ : ∃ K, 2 * R + 1 = K := ⟨_, rfl⟩
  have hc2 : ∀ i, numC S R T i = cs.getD i 0 := fun i => by unfold numC; rw [hcs]
  have hnc : numC S R T = fun i => cs.getD i 0 := funext hc2
  have ON := hide' (fun (W : World) (h : ArgP W T ta tn tc) (h2 : TzTab W) => onto_sum S R _ T ta tn tc W hL h he rfl h2 hl)
  have OE := hide' (fun (W : World) (h : ArgP W T ta tn tc) => one_sum S R _ T ta tn tc W hL h he rfl hl)
  obtain ⟨C, hC⟩ : ∃ C : Nat → Int, (fun i => cs.getD i 0) = C := ⟨_, rfl⟩
  have HC := hide' (fun i => congrFun hC i)
  rw [hnc, hK, hC] at ON OE
  obtain ⟨AF, hAF⟩ : ∃ AF, allB S K C 4 = AF := ⟨_, rfl⟩
  obtain ⟨OF, hOF⟩ : ∃ OF, oneB S K C 4 = OF := ⟨_, rfl⟩
  have HAF := hide' hAF
  have HOF := hide' hOF
  rw [hAF] at ON
  rw [hOF] at OE
  clear hAF hOF hC
  have CO := hide' (show cellsOk S cs by rw [← hcs]; exact numL_ok hL)
  have CLn := hide' (show cs.length = K by rw [← hcs, ← hK]; exact numL_length S R T)
  have K21 : K ≤ 21 := by have := hL.r10; omega
  have s4 := hL.s4
  have s2 := hL.s2
  have LI2 := hide' (fun (W : World) (h' : ArgP W T ta tn tc) => (linear_line S R T ta tn tc W hL h'))
  clear LI
  unfold LinPost at LI2
  rw [hcs, hK] at LI2
  clear hT hL hl he hz hnc hc2 hcs hK
  obtain ⟨w2, hw2⟩ : ∃ w2, w1.alloc (.cells #[.int .i64 0, .int .i64 1] 3) = w2 := ⟨_, rfl⟩
  have C0 := hide' (show Below w1.heap.size w1 w2 by rw [← hw2]; exact (Below.refl _ _).alloc (Nat.le_refl _) _)
  have FA := hide' (show ArgP w2 [0, 1] (some ⟨w1.heap.size, 0, none⟩) 2 2 by
    refine ⟨rfl, by unfold maxLen; omega, fun k hk => ⟨w1.heap.size, 0, rfl, by rw [← hw2]; simp, ?_⟩⟩
    rw [← hw2, World.cell?_alloc_at _ _ _ _ rfl]
    have : k = 0 ∨ k = 1 := by simp at hk; omega
    rcases this with rfl | rfl <;> rfl)
  have FO := hide' (fact_linear w1.heap.size w2 FA.out)
  obtain ⟨x0, x1, x2, x3, x4, x5, x6⟩ := RX.out.next C0.out
  go_enter Tryd.func5, Tryd.ntmps5
  go_wp2_with fail
  refine (show Calls Tryd.prog _ _ _ _ from FO.out).mono ?_
  rintro e w4 ⟨⟨g', rfl, fc⟩, b⟩
  have C2 := hide' (C0.out.trans (b.mono C0.out.size))
  clear b x0 x1 x2 x3 x4 x5 x6 C0 FO FA hw1 hw2
  obtain ⟨x0, x1, x2, x3, x4, x5, x6⟩ := RX.out.next C2.out
  go_wp2_with fail
  refine (LI2.out _ (AT.out.below C2.out)).mono ?_
  rintro e w5 ⟨⟨_, g, rfl, cl, hg⟩ | ⟨q, _⟩, b⟩
  case inr => exact absurd HN.out q
  have CL := hide' cl
  clear fc cl hg
  have C3 := hide' (C2.out.trans (b.mono C2.out.size))
  clear b x0 x1 x2 x3 x4 x5 x6 C2
  obtain ⟨x0, x1, x2, x3, x4, x5, x6⟩ := RX.out.next C3.out
  go_wp2_with fail
  refine (ON.out _ (AT.out.below C3.out) (TZ.out.below C3.out)).mono ?_
  rintro e w6 ⟨⟨v, rfl⟩, b⟩
  have CL6 := hide' (CL.out.below b)
  clear CL
  have C4 := hide' (C3.out.trans (b.mono C3.out.size))
  clear b x0 x1 x2 x3 x4 x5 x6 C3
  obtain ⟨x0, x1, x2, x3, x4, x5, x6⟩ := RX.out.next C4.out
  go_wp2_with fail
  refine (OE.out _ (AT.out.below C4.out)).mono ?_
  rintro e w7 ⟨⟨v1, v2, rfl⟩, b⟩
  have CL7 := hide' (CL6.out.below b)
  clear CL6
  have C5 := hide' (C4.out.trans (b.mono C4.out.size))
  clear b x0 x1 x2 x3 x4 x5 x6 C4
  obtain ⟨x0, x1, x2, x3, x4, x5, x6⟩ := RX.out.next C5.out
  have AC := hide' (show ArgP w7 cs (some ⟨g, 0, none⟩) K K from CL7.out.argP CLn.out (by unfold maxLen; omega))
  clear CL7
  go_wp2
  skip
  go_loopw [14, 15, 16] (fun av ov pv wr => ∃ P q : Nat, 2 ≤ P ∧ P ≤ 4 ∧ pv = .int .i64 (P : Int) ∧ av = .bool (allB S K C P) ∧ ov = .bool (oneB S K C P) ∧ wr = w7.drewN q) (fun _ _ pv _ => 4 - (intOf pv).toNat)
  case atStart => exact ⟨2, 0, by omega, by omega, rfl, by rw [allB_two], by rw [oneB_two], rfl⟩
  case round =>
    obtain ⟨P, q, P2, P4, rfl, rfl, rfl, rfl⟩ := hrel
    obtain ⟨A, hA⟩ : ∃ A, allB S K C P = A := ⟨_, rfl⟩
    obtain ⟨O, hO⟩ : ∃ O, oneB S K C P = O := ⟨_, rfl⟩
    have HA := hide' hA
    have HO := hide' hO
    rw [hA, hO]
    clear hA hO
    by_cases d : (P : Int) ≤ 3
    · have p23 : P = 2 ∨ P = 3 := by omega
      have PR := hide' (fun W => prime_any P S W p23 s4)
      have n0 : ¬ (P : Int) = 0 := by omega
      have HP := hide' p23
      clear p23
      go_wp2_with fail
      refine (PR.out _).mono ?_
      rintro e w8 ⟨rfl, rfl⟩
      skip
      by_cases dv : S % P = 0
      · have dv1 : decide (S % P = 0) = true := by simp [dv]
        have HD := hide' dv
        rw [dv1]
        clear dv1 dv
        go_wp2
        go_loopw [17, 18] (fun nv iv wr => ∃ i q : Nat, i ≤ K ∧ iv = .int .i64 (i : Int) ∧ nv = .int .i64 ((cntP P C i : Nat) : Int) ∧ wr = w7.drewN q) (fun _ iv _ => K - (intOf iv).toNat)
        case atStart => exact ⟨0, q, by omega, rfl, rfl, rfl⟩
        case round =>
          obtain ⟨i, q, hi, rfl, rfl, rfl⟩ := hrel
          obtain ⟨N, hN⟩ : ∃ N, cntP P C i = N := ⟨_, rfl⟩
          have nb : N ≤ 21 := by rw [← hN]; exact Nat.le_trans (cntP_le _ _ _) (by omega)
          have HN2 := hide' hN
          rw [hN]
          clear hN
          by_cases di : (i : Int) < (K : Int)
          · obtain ⟨gc, oc, eg, hc⟩ := AC.out.at (k := i) (by omega)
            have ck := cellsOk_at CO.out (k := i) (by have := CLn.out; omega)
            obtain ⟨cv, hcv⟩ : ∃ cv, cs.getD i 0 = cv := ⟨_, rfl⟩
            rw [hcv] at hc ck
            injection eg with eg
            injection eg with eg1 eg2 eg3
            subst eg1
            subst eg2
            rw [Nat.zero_add] at hc
            have e1 : cv.tmod (P : Int) = cv % (P : Int) := Int.tmod_eq_emod_of_nonneg ck.1
            obtain ⟨z, hz2⟩ : ∃ z, cv % (P : Int) = z := ⟨_, rfl⟩
            have NX := hide' (show cntP P C (i + 1) = N + if z = 0 then 0 else 1 by rw [cntP, HN2.out, ← HC.out i, hcv, hz2])
            rw [hz2] at e1
            have zb : -3 ≤ z ∧ z ≤ 3 := by rw [← hz2]; have := Int.emod_nonneg cv n0; have := Int.emod_lt_of_pos cv (show (0 : Int) < P by omega); omega
            clear hcv hz2
            by_cases dz : z = 0
            · subst dz
              skip
              go_wp2
              exact ⟨⟨i + 1, _, by omega, by go_num, by rw [NX.out]; rfl, rfl⟩, by simp [intOf]; omega⟩
            · have dz1 : (z != 0) = true := by simp [dz]
              go_wp2
              exact ⟨⟨i + 1, _, by omega, by go_num, by rw [NX.out, if_neg dz]; go_num, rfl⟩, by simp [intOf]; omega⟩
          · have iK : i = K := by omega
            subst iK
            skip
            have NA := hide' (show allB S i C (P + 1) = (A && decide (0 < N)) by rw [allB_next HP.out HD.out, HA.out, HN2.out])
            have NO := hide' (show oneB S i C (P + 1) = (O && decide (N = 1)) by rw [oneB_next HP.out HD.out, HO.out, HN2.out])
            by_cases g0 : (0 : Int) < (N : Int)
            · have N0 : decide (0 < N) = true := by simp; omega
              by_cases g1 : (N : Int) = 1
              · have N1 : decide (N = 1) = true := by simp; omega
                have g1b : ((N : Int) == 1) = true := by simp; omega
                clear g1
                cases A <;> cases O <;> (go_wp2; exact ⟨⟨P + 1, _, by omega, by omega, by go_num, by rw [NA.out, N0]; rfl, by rw [NO.out, N1]; rfl, rfl⟩, by simp [intOf]; omega⟩)
              · have N1 : decide (N = 1) = false := by simp; omega
                have g1b : ((N : Int) == 1) = false := by simp; omega
                clear g1
                cases A <;> cases O <;> (go_wp2; exact ⟨⟨P + 1, _, by omega, by omega, by go_num, by rw [NA.out, N0]; rfl, by rw [NO.out, N1]; rfl, rfl⟩, by simp [intOf]; omega⟩)
            · have N0 : decide (0 < N) = false := by simp; omega
              have N1 : decide (N = 1) = false := by simp; omega
              have g1b : ((N : Int) == 1) = false := by simp; omega
              cases A <;> cases O <;> (go_wp2; exact ⟨⟨P + 1, _, by omega, by omega, by go_num, by rw [NA.out, N0]; rfl, by rw [NO.out, N1]; rfl, rfl⟩, by simp [intOf]; omega⟩)
      · have dv1 : decide (S % P = 0) = false := by simp [dv]
        have NA := hide' (show allB S K C (P + 1) = A by rw [allB_skip HP.out dv, HA.out])
        have NO := hide' (show oneB S K C (P + 1) = O by rw [oneB_skip HP.out dv, HO.out])
        rw [dv1]
        clear dv1 dv
        go_wp2
        exact ⟨⟨P + 1, _, by omega, by omega, by go_num, by rw [NA.out], by rw [NO.out], rfl⟩, by simp [intOf]; omega⟩
    · have P4' : P = 4 := by omega
      subst P4'
      have hAA := HA.out
      have hOO := HO.out
      rw [HAF.out] at hAA
      rw [HOF.out] at hOO
      subst hAA
      subst hOO
      skip
      cases AF <;> cases OF <;> (go_wp2; go_ret; exact ⟨rfl, BB.out.trans ((below_drewN C5.out _).mono BB.out.size)⟩)

theorem law_sonto_all (o : Out) (ta : Option Addr) (tn tc : Nat) (w : World) (hR : ArgR w o ta tn tc) (hz : TzTab w) :
    Calls Tryd.prog 5 #[.agg #[.int .i64 o.kind, .int .i64 o.born, .int .i64 o.stay, .int .i64 o.states, .int .i64 o.radius, .slice ta tn tc, .string o.turns]] w fun e w' => e = .returned (.bool true) ∧ Below w.heap.size w w' := by
  by_cases h : Good o ∧ o.kind = 2
  · obtain ⟨S, R, e, hL⟩ := good_line o h.1 h.2
    have hT : ArgP w o.table ta tn tc := ⟨hR.len, hR.max, hR.cells⟩
    obtain ⟨T, hTe⟩ : ∃ T, o.table = T := ⟨_, rfl⟩
    rw [hTe] at e hL hT
    subst e
    by_cases hl : LinP S R T
    · by_cases he : askE S R [] = 0
      · exact law_sonto_ok S R T ta tn tc w hL hT hl he hz
      · exact law_sonto_bad S R T ta tn tc w hL hT hl he
    · exact law_sonto_not S R T ta tn tc w hL hT hl
  · exact law_sonto_off o ta tn tc w hR h
end Go.Proofs.YtjjdjdodhedihaaDoor

namespace Go.Proofs.YtjjdjdodhedihaaDoor
open Go.ChangeShapes Go.WideShapes Go.ChangeAt Go.RowKit
open Go.ChangeMaps (setBlock shut_map_nil open_string shut_string keptBut_setBlock frozen?_setBlock heap_setBlock_same)
set_option linter.unusedVariables false

theorem laidOutP : laidOutB Tryd.prog = true := by kernel_rfl
theorem ownP : ownKnob Tryd.prog.godebug = none := by kernel_rfl
/-- A list of ints as it is read. -/
theorem ints_arg {H : Type} {enc : TypeId × Value → H} {W : World} {fuel : Nat} {cs : List Value} {x : DataW H × List MemPlace}
    (h : DataW.trod enc Tryd.prog W 0 (fun _ => true) true fuel 22 cs = some x) :
    ∃ (xs : List Int) (a : Option Addr) (c : Nat), cs = [.slice a xs.length c] ∧ ArgP W xs a xs.length c ∧ xs.length ≤ c ∧ c ≤ maxLen := by
  have q3 : Tryd.prog.cellsOf 3 = 1 := by kernel_rfl
  rcases open_ints Tryd.underlying22 Tryd.underlying3 q3 h with ⟨rfl, -⟩ | ⟨a, len, cap, zs, rfl, hb, hlc, hcm, hzl, -, hcell, hwf⟩
  · exact ⟨[], none, 0, rfl, ⟨rfl, by simp, fun k hk => absurd hk (by simp)⟩, by simp, by simp⟩
  · simp only [if_true] at hzl
    have hl : (zs.take len).length = len := by simp; omega
    refine ⟨zs.take len, some a, cap, by rw [hl], ⟨rfl, by omega, fun k hk => ?_⟩, by omega, hcm⟩
    have hk' : k < len ∧ k < zs.length := by simp only [List.length_take] at hk; omega
    have hc0 := hcell 0 (by omega)
    have hck := hcell k hk'.2
    obtain ⟨g, off, sp⟩ := a
    have hsp : sp = none := by
      cases sp with
      | none => rfl
      | some q =>
        exfalso
        simp [Addr.add, World.cell?] at hc0
        split at hc0 <;> simp at hc0
    subst hsp
    have ea : (⟨g, off, none⟩ : Addr).add k = ⟨g, off + k, none⟩ := by
      unfold Addr.add
      split
      · rename_i hz; subst hz; rfl
      · rfl
    rw [ea] at hck
    refine ⟨g, off, rfl, ?_, ?_⟩
    · rcases Nat.lt_or_ge g W.heap.size with q | q
      · exact q
      · simp [World.cell?, Array.getElem?_eq_none q] at hck
    · rw [hck]
      simp [List.getD, hk'.2]

end Go.Proofs.YtjjdjdodhedihaaDoor

namespace Go.Proofs.YtjjdjdodhedihaaDoor
open Go.ChangeShapes Go.WideShapes Go.ChangeAt Go.RowKit
set_option linter.unusedVariables false

set_option maxRecDepth 100000 in
theorem open_ruleQ {H : Type} {enc : TypeId × Value → H} {W : World} {base : Nat} {v : Value} {d : DataW H} {p : List MemPlace}
    (hv : Value.okWide Tryd.prog W .any base 24 v) (h : DataW.Trod enc Tryd.prog W 0 (fun _ => true) true 24 v d p) :
    ∃ (o : Out) (a : Option Addr) (c : Nat), v = .agg #[.int .i64 o.kind, .int .i64 o.born, .int .i64 o.stay, .int .i64 o.states, .int .i64 o.radius, .slice a o.table.length c, .string o.turns] ∧ ArgR W o a o.table.length c ∧ o.table.length ≤ c ∧ c ≤ maxLen := by
  obtain ⟨cs, rfl, hsz⟩ := okWide_struct Tryd.underlying24 hv
  obtain ⟨fuel, h⟩ := h
  obtain ⟨xs, m, _, hx, hl, hlen, hf⟩ := DataW.trod_struct Tryd.underlying24 h
  have f0 := hf 0 _ rfl
  have f1 := hf 1 _ rfl
  have f2 := hf 2 _ rfl
  have f3 := hf 3 _ rfl
  have f4 := hf 4 _ rfl
  have f5 := hf 5 _ rfl
  have f6 := hf 6 _ rfl
  clear hf hx h hv hl
  have q3 : Tryd.prog.cellsOf 3 = 1 := by kernel_rfl
  have k22 : Tryd.prog.cellsOf 22 = 1 := by kernel_rfl
  have k9 : Tryd.prog.cellsOf 9 = 1 := by kernel_rfl
  rw [show Tryd.prog.cellsOf 24 = 7 by kernel_rfl] at hsz
  obtain ⟨cl⟩ := cs
  match cl, hsz with
  | [c0, c1, c2, c3, c4, c5, c6], _ =>
  match xs, hlen with
  | [y0, y1, y2, y3, y4, y5, y6], _ =>
  simp [Value.cells, q3, k22, k9] at f0 f1 f2 f3 f4 f5 f6
  obtain ⟨k0, e0, -, w0⟩ := DataW.trod_int Tryd.underlying3 f0
  obtain ⟨k1, e1, -, w1⟩ := DataW.trod_int Tryd.underlying3 f1
  obtain ⟨k2, e2, -, w2⟩ := DataW.trod_int Tryd.underlying3 f2
  obtain ⟨k3, e3, -, w3⟩ := DataW.trod_int Tryd.underlying3 f3
  obtain ⟨k4, e4, -, w4⟩ := DataW.trod_int Tryd.underlying3 f4
  obtain ⟨t, e6, -, ht⟩ := DataW.trod_string Tryd.underlying9 f6
  have hr : k4 ≤ 9223372036854775807 := by
    simp only [Lit.wf, Bool.and_eq_true, decide_eq_true_eq] at w4
    have := w4.2
    exact Int.le_trans this (by decide)
  obtain ⟨zs, a, c, e5, ha, h1, h2⟩ := ints_arg f5
  simp only [List.cons.injEq, and_true] at e0 e1 e2 e3 e4 e5 e6
  subst e0 e1 e2 e3 e4 e5 e6
  exact ⟨⟨k0, k1, k2, k3, k4, zs, t⟩, a, c, rfl, ⟨rfl, ha.max, ht, ha.cells, hr⟩, h1, h2⟩
end Go.Proofs.YtjjdjdodhedihaaDoor

