/-
  edenlaw1.RulesPrints, walked at what is no rule; the whole.
-/
import Derived.Test.YtpbcgojfpmpgpaaDoorLawB
namespace Go.Proofs.YtpbcgojfpmpgpaaDoor
open Go.RowKit
set_option linter.unusedVariables false

set_option maxRecDepth 100000 in
set_option maxHeartbeats 3200000 in
theorem law_prints_bad (o : Out) (a : Option Addr) (n c : Nat) (w : World) (hR : ArgR w o a n c) (hP : PowT w) (hH : Handle w) (hg : ¬ Good o) :
    Calls Tryd.prog 4 #[.agg #[.int .i64 o.kind, .int .i64 o.born, .int .i64 o.stay, .int .i64 o.states, .int .i64 o.radius, .slice a n c, .string o.turns]] w fun e w' => e = .returned (.bool true) ∧ Below w.heap.size w w' := by
  obtain ⟨x, k, p1, p2⟩ := Print_both o a n c
  have P1 := hide' p1
  have P2 := hide' p2
  have HR := hide' hR
  have HP := hide' hP
  have HH := hide' hH
  have HG := hide' hg
  have L0 := hide' (LawR.start w o a n c)
  clear p1 p2 hR hP hH hg
  go_enter Tryd.func4, Tryd.ntmps4
  go_wp2_with fail
  refine (Fault_any o a n c _ (HR.out.below L0.out.below)).mono ?_
  rintro e w1 ⟨he, b1⟩
  rcases he with ⟨rfl, g⟩ | ⟨rfl, g⟩
  case inl => exact absurd g HG.out
  clear g
  have L1 := hide' (L0.out.next b1)
  obtain ⟨x0, x1, x2, x3, x4, x5, x6⟩ := L1.out.arg
  clear b1
  go_wp2_with fail
  refine (Check_any o a n c _ (HR.out.below L1.out.below)).mono ?_
  rintro e w2 ⟨he, b2⟩
  rcases he with ⟨rfl, g⟩ | ⟨rfl, g⟩
  case inl => exact absurd g HG.out
  clear g x0 x1 x2 x3 x4 x5 x6
  have L2 := hide' (L1.out.next b2)
  obtain ⟨x0, x1, x2, x3, x4, x5, x6⟩ := L2.out.arg
  clear b2
  go_wp2_with fail
  refine (error_errno 1 1 _ (HH.out.below L2.out.below)).mono ?_
  rintro e w3 ⟨rfl, b3⟩
  clear x0 x1 x2 x3 x4 x5 x6
  have L3 := hide' (L2.out.next b3)
  obtain ⟨x0, x1, x2, x3, x4, x5, x6⟩ := L3.out.arg
  clear b3
  go_wp2_with fail
  refine (P1.out _ (HR.out.below L3.out.below) (HP.out.below L3.out.below)).mono ?_
  rintro e w4 ⟨rfl, b4⟩
  clear x0 x1 x2 x3 x4 x5 x6
  have L4 := hide' (L3.out.next b4)
  obtain ⟨x0, x1, x2, x3, x4, x5, x6⟩ := L4.out.arg
  clear b4
  go_wp2_with fail
  refine (P2.out _ (HR.out.below L4.out.below)).mono ?_
  rintro e w5 ⟨rfl, b5⟩
  clear x0 x1 x2 x3 x4 x5 x6
  have L5 := hide' (L4.out.next b5)
  obtain ⟨x0, x1, x2, x3, x4, x5, x6⟩ := L5.out.arg
  clear b5
  go_wp2_with fail
  refine (error_V k _ (HH.out.below L5.out.below)).mono ?_
  rintro e w6 ⟨rfl, b6⟩
  clear x0 x1 x2 x3 x4 x5 x6
  have L6 := hide' (L5.out.next b6)
  obtain ⟨x0, x1, x2, x3, x4, x5, x6⟩ := L6.out.arg
  clear b6
  go_wp2_with fail
  refine (Mirror_bad o a n c _ (HR.out.below L6.out.below) HG.out).mono ?_
  rintro e w7 ⟨rfl, b7⟩
  unfold zeroCells
  clear x0 x1 x2 x3 x4 x5 x6
  have L7 := hide' (L6.out.next b7)
  obtain ⟨x0, x1, x2, x3, x4, x5, x6⟩ := L7.out.arg
  clear b7
  go_wp2_with fail
  refine (error_errno 1 1 _ (HH.out.below (L7.out.below.trans (((Below.refl _ _).alloc (Nat.le_refl _) _).mono L7.out.below.size)))).mono ?_
  rintro e w8 ⟨rfl, b8⟩
  have y0 := b8.cell (p := ⟨w7.heap.size, 0, none⟩) (by simp)
  have y1 := b8.cell (p := ⟨w7.heap.size, 1, none⟩) (by simp)
  have y2 := b8.cell (p := ⟨w7.heap.size, 2, none⟩) (by simp)
  have y3 := b8.cell (p := ⟨w7.heap.size, 3, none⟩) (by simp)
  have y4 := b8.cell (p := ⟨w7.heap.size, 4, none⟩) (by simp)
  have y5 := b8.cell (p := ⟨w7.heap.size, 5, none⟩) (by simp)
  have y6 := b8.cell (p := ⟨w7.heap.size, 6, none⟩) (by simp)
  simp at y0 y1 y2 y3 y4 y5 y6
  have B8 := hide' (L7.out.below.trans ((((Below.refl _ _).alloc (Nat.le_refl _) _).trans (b8.mono (by simp))).mono L7.out.below.size))
  clear b8 x0 x1 x2 x3 x4 x5 x6
  go_wp2_with fail
  refine (Same_any noRule none none 0 0 0 _ rfl (by simp [maxLen]) (Reads0.nil _ _) (Reads0.nil _ _)).mono ?_
  rintro e w9 ⟨rfl, b9⟩
  have B9 := hide' (B8.out.trans (b9.mono B8.out.size))
  clear b9
  go_wp2
  go_ret
  exact ⟨rfl, B9.out⟩

/-- At every rule that came in the law returns true. -/
theorem law_prints (o : Out) (a : Option Addr) (n c : Nat) (w : World) (hR : ArgR w o a n c) (hP : PowT w) (hH : Handle w) :
    Calls Tryd.prog 4 #[.agg #[.int .i64 o.kind, .int .i64 o.born, .int .i64 o.stay, .int .i64 o.states, .int .i64 o.radius, .slice a n c, .string o.turns]] w fun e w' => e = .returned (.bool true) ∧ Below w.heap.size w w' := by
  by_cases hg : Good o
  · exact law_prints_good o a n c w hR hP hH hg
  · exact law_prints_bad o a n c w hR hP hH hg
end Go.Proofs.YtpbcgojfpmpgpaaDoor
