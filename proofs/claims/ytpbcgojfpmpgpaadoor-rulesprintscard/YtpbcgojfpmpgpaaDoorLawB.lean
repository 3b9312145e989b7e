/-
  edenlaw1.RulesPrints, walked.
-/
import Derived.Test.YtpbcgojfpmpgpaaDoorPr24
import Derived.Test.YtpbcgojfpmpgpaaDoorLawA
namespace Go.Proofs.YtpbcgojfpmpgpaaDoor
open Go.RowKit
set_option linter.unusedVariables false

theorem error_V (k : Int) (w : World) (hg : Handle w) :
    Calls Tryd.prog 11 #[errV k, .int .i64 k] w fun e w' => e = .returned (.bool true) ∧ Below w.heap.size w w' := by
  unfold errV
  by_cases h : k = 0
  · rw [if_pos h]
    refine (error_nil k w).mono ?_
    rintro e w' ⟨rfl, rfl⟩
    exact ⟨by rw [h]; rfl, Below.refl _ _⟩
  · rw [if_neg h]
    refine (error_errno k k w hg).mono ?_
    rintro e w' ⟨rfl, hb⟩
    exact ⟨by simp, hb⟩
/-- The law's argument stands in its own block, and nothing older has turned. -/
structure LawR (w w' : World) (o : Out) (a : Option Addr) (n c : Nat) : Prop where
  arg : Seven w' w.heap.size (.int .i64 o.kind) (.int .i64 o.born) (.int .i64 o.stay) (.int .i64 o.states) (.int .i64 o.radius) (.slice a n c) (.string o.turns)
  size : w.heap.size + 1 ≤ w'.heap.size
  below : Below w.heap.size w w'
theorem LawR.next {w w1 w2 : World} {o : Out} {a : Option Addr} {n c : Nat} (h : LawR w w1 o a n c) (hb : Below w1.heap.size w1 w2) : LawR w w2 o a n c :=
  ⟨h.arg.block (hb.block _ (by have := h.size; omega)), Nat.le_trans h.size hb.size, h.below.trans (hb.mono h.below.size)⟩
theorem LawR.start (w : World) (o : Out) (a : Option Addr) (n c : Nat) : LawR w (w.alloc (.cells #[.int .i64 o.kind, .int .i64 o.born, .int .i64 o.stay, .int .i64 o.states, .int .i64 o.radius, .slice a n c, .string o.turns] 24)) o a n c :=
  ⟨by constructor <;> exact cell_new_at _ _ _ _, by simp, (Below.refl _ _).alloc (Nat.le_refl _) _⟩

set_option maxRecDepth 100000 in
set_option maxHeartbeats 3200000 in
theorem law_prints_good (o : Out) (a : Option Addr) (n c : Nat) (w : World) (hR : ArgR w o a n c) (hP : PowT w) (hH : Handle w) (hg : Good o) :
    Calls Tryd.prog 4 #[.agg #[.int .i64 o.kind, .int .i64 o.born, .int .i64 o.stay, .int .i64 o.states, .int .i64 o.radius, .slice a n c, .string o.turns]] w fun e w' => e = .returned (.bool true) ∧ Below w.heap.size w w' := by
  obtain ⟨x, k, p1, p2⟩ := Print_both o a n c
  obtain ⟨M, ml, m1, m2⟩ := Mirror_both o a n c hg
  have P1 := hide' p1
  have P2 := hide' p2
  have M1 := hide' m1
  have M2 := hide' m2
  have HR := hide' hR
  have HP := hide' hP
  have HH := hide' hH
  have HG := hide' hg
  have L0 := hide' (LawR.start w o a n c)
  clear p1 p2 m1 m2 hR hP hH hg
  go_enter Tryd.func4, Tryd.ntmps4
  go_wp2_with fail
  refine (Fault_any o a n c _ (HR.out.below L0.out.below)).mono ?_
  rintro e w1 ⟨he, b1⟩
  rcases he with ⟨rfl, g⟩ | ⟨rfl, g⟩
  case inr => exact absurd HG.out g
  clear g
  have L1 := hide' (L0.out.next b1)
  obtain ⟨x0, x1, x2, x3, x4, x5, x6⟩ := L1.out.arg
  clear b1
  go_wp2_with fail
  refine (Check_any o a n c _ (HR.out.below L1.out.below)).mono ?_
  rintro e w2 ⟨he, b2⟩
  rcases he with ⟨rfl, g⟩ | ⟨rfl, g⟩
  case inr => exact absurd HG.out g
  clear g x0 x1 x2 x3 x4 x5 x6
  have L2 := hide' (L1.out.next b2)
  obtain ⟨x0, x1, x2, x3, x4, x5, x6⟩ := L2.out.arg
  clear b2
  go_wp2_with fail
  refine (error_nil 0 _).mono ?_
  rintro e w3 ⟨rfl, rfl⟩
  go_wp2_with fail
  refine (P1.out _ (HR.out.below L2.out.below) (HP.out.below L2.out.below)).mono ?_
  rintro e w3 ⟨rfl, b3⟩
  clear x0 x1 x2 x3 x4 x5 x6
  have L3 := hide' (L2.out.next b3)
  obtain ⟨x0, x1, x2, x3, x4, x5, x6⟩ := L3.out.arg
  clear b3
  go_wp2_with fail
  refine (P2.out _ (HR.out.below L3.out.below)).mono ?_
  rintro e w4 ⟨rfl, b4⟩
  clear x0 x1 x2 x3 x4 x5 x6
  have L4 := hide' (L3.out.next b4)
  obtain ⟨x0, x1, x2, x3, x4, x5, x6⟩ := L4.out.arg
  clear b4
  go_wp2_with fail
  refine (error_V k _ (HH.out.below L4.out.below)).mono ?_
  rintro e w5 ⟨rfl, b5⟩
  clear x0 x1 x2 x3 x4 x5 x6
  have L5 := hide' (L4.out.next b5)
  obtain ⟨x0, x1, x2, x3, x4, x5, x6⟩ := L5.out.arg
  clear b5
  go_wp2_with fail
  refine (M1.out _ (HR.out.below L5.out.below)).mono ?_
  rintro e w6 ⟨⟨q, cq, rfl, rd⟩, b6⟩
  unfold aggR
  have RD := hide' rd
  clear x0 x1 x2 x3 x4 x5 x6 rd
  have L6 := hide' (L5.out.next b6)
  obtain ⟨x0, x1, x2, x3, x4, x5, x6⟩ := L6.out.arg
  clear b6
  go_wp2_with fail
  refine (error_nil 0 _).mono ?_
  rintro e w7 ⟨rfl, hw7⟩
  have B7 := hide' (show Below w6.heap.size w6 w7 by rw [hw7]; exact (Below.refl _ _).alloc (Nat.le_refl _) _)
  have S7 := hide' (show Seven w7 w6.heap.size (.int .i64 M.kind) (.int .i64 M.born) (.int .i64 M.stay) (.int .i64 M.states) (.int .i64 M.radius) (.slice q M.table.length cq) (.string M.turns) by rw [hw7]; constructor <;> exact cell_new_at _ _ _ _)
  have z7 : w7.heap.size = w6.heap.size + 1 := by rw [hw7]; simp
  clear hw7 x0 x1 x2 x3 x4 x5 x6
  have L7 := hide' (L6.out.next B7.out)
  obtain ⟨x0, x1, x2, x3, x4, x5, x6⟩ := L7.out.arg
  go_wp2_with fail
  refine (M2.out _ (HR.out.below L7.out.below)).mono ?_
  rintro e w8 ⟨⟨q2, cq2, rfl, rd2⟩, b8⟩
  unfold aggR
  have R2 := hide' rd2
  have R1 := hide' ((RD.out.below B7.out).below b8)
  have S8 := hide' (S7.out.block (b8.block w6.heap.size (by omega)))
  have L8 := hide' (L7.out.next b8)
  have z8 := b8.size
  clear x0 x1 x2 x3 x4 x5 x6 rd2 b8
  have SA := hide' (fun ob => S8.out.block (w' := w8.alloc ob) (Below.heap_alloc _ _ _ (by omega)))
  have u0 := fun ob => (SA.out ob).c0
  have u1 := fun ob => (SA.out ob).c1
  have u2 := fun ob => (SA.out ob).c2
  have u3 := fun ob => (SA.out ob).c3
  have u4 := fun ob => (SA.out ob).c4
  have u5 := fun ob => (SA.out ob).c5
  have u6 := fun ob => (SA.out ob).c6
  go_wp2_with fail
  refine (Same_any M q q2 M.table.length cq cq2 _ rfl (by unfold maxLen; omega) (R1.out.below ((Below.refl _ _).alloc (Nat.le_refl _) _)) (R2.out.below ((Below.refl _ _).alloc (Nat.le_refl _) _))).mono ?_
  rintro e w9 ⟨rfl, b9⟩
  have B9 := hide' (L8.out.below.trans ((((Below.refl _ _).alloc (Nat.le_refl _) _).trans (b9.mono (by simp))).mono L8.out.below.size))
  clear b9 u0 u1 u2 u3 u4 u5 u6
  go_wp2
  go_ret
  exact ⟨rfl, B9.out⟩
end Go.Proofs.YtpbcgojfpmpgpaaDoor
