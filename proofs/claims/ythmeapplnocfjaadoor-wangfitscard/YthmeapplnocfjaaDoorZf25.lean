/-
  What the last text of this claim leans on, part 25: LawWf.
-/
import Derived.Test.YthmeapplnocfjaaDoorZf4
import Derived.Test.YthmeapplnocfjaaDoorZf23
import Derived.Test.YthmeapplnocfjaaDoorZf24
namespace Go.Proofs.YthmeapplnocfjaaDoor
open Go.RowKit
set_option linter.unusedVariables false
set_option linter.unusedSimpArgs false
set_option maxRecDepth 100000 in
set_option maxHeartbeats 25600000 in
theorem law_wf_A (a : Option Addr) (n c : Nat) (W H : Int) (za : Option Addr) (zn zc : Nat) (ring : Bool) (w : World) (T S E : Nat) (b : Bool) (ys : List Int)
    (cT : Calls Tryd.prog 6 #[.slice a n c] w fun e w' => e = .returned (.int .i64 (T : Int)) ∧ Below w.heap.size w w')
    (cC : ∀ V, Below w.heap.size w V → Calls Tryd.prog 7 #[.slice a n c] V fun e w' => e = .returned (errOf T) ∧ Below V.heap.size V w')
    (cS : ∀ V, Below w.heap.size w V → Calls Tryd.prog 9 #[.slice a n c, .int .i64 W, .int .i64 H] V fun e w' => e = .returned (.int .i64 (S : Int)) ∧ Below V.heap.size V w')
    (hS : S ≠ 0)
    (cF : ∀ V, Below w.heap.size w V → Calls Tryd.prog 11 #[.slice a n c, .int .i64 W, .int .i64 H, .slice za zn zc, .bool ring] V fun e w' => e = .returned (.tuple #[.bool false, errOf S]) ∧ Below V.heap.size V w')
    (cW : ∀ V, Below w.heap.size w V → Calls Tryd.prog 14 #[.slice a n c, .int .i64 W, .int .i64 H, .bool ring] V (LisW V [] (errOf S)))
    (ER : ∀ V, Below w.heap.size w V → ∀ f : Nat, Calls Tryd.prog 8 #[errOf f, .int .i64 (f : Int)] V fun e w' => e = .returned (.bool true) ∧ Below V.heap.size V w') :
    Calls Tryd.prog 3 #[.slice a n c, .int .i64 W, .int .i64 H, .slice za zn zc, .bool ring] w fun e w' => e = .returned (.bool true) ∧ Below w.heap.size w w' := by
  have CT := hide' cT
  have CC := hide' cC
  have CS := hide' cS
  have CF := hide' cF
  have CW := hide' cW
  have HE := hide' ER
  clear cT cC cS cF cW ER
  have s0 : ¬ (S : Int) = 0 := by omega
  have sb : ((S : Int) == 0) = false := by simp; omega
  clear hS
  go_enter Tryd.func3, Tryd.ntmps3
  go_wp2_with fail
  refine CT.out.mono ?_
  rintro e w1 ⟨rfl, b1⟩
  have B1 := hide' b1
  clear b1
  go_wp2_with fail
  refine (CC.out _ B1.out).mono ?_
  rintro e w2 ⟨rfl, bb⟩
  have B2 := hide' (B1.out.trans (bb.mono B1.out.size))
  clear bb
  go_wp2_with fail
  refine (HE.out _ B2.out T).mono ?_
  rintro e w3 ⟨rfl, bb⟩
  have B3 := hide' (B2.out.trans (bb.mono B2.out.size))
  clear bb
  go_wp2_with fail
  refine (CS.out _ B3.out).mono ?_
  rintro e w4 ⟨rfl, bb⟩
  have B4 := hide' (B3.out.trans (bb.mono B3.out.size))
  clear bb
  go_wp2_with fail
  refine (CF.out _ B4.out).mono ?_
  rintro e w5 ⟨rfl, bb⟩
  have B5 := hide' (B4.out.trans (bb.mono B4.out.size))
  clear bb
  go_wp2_with fail
  refine (HE.out _ B5.out S).mono ?_
  rintro e w6 ⟨rfl, bb⟩
  have B6 := hide' (B5.out.trans (bb.mono B5.out.size))
  clear bb
  go_wp2_with fail
  refine (CW.out _ B6.out).mono ?_
  rintro e w7 ⟨a9, n9, c9, rfl, A9, bb⟩
  have B7 := hide' (B6.out.trans (bb.out.mono B6.out.size))
  clear bb
  go_wp2_with fail
  refine (HE.out _ B7.out S).mono ?_
  rintro e w8 ⟨rfl, bb⟩
  have B8 := hide' (B7.out.trans (bb.mono B7.out.size))
  have IN := hide' (Ints_any [] [] a9 none n9 c9 0 0 w8 (A9.out.below bb) (nilW _))
  clear bb A9
  go_wp2_with fail
  refine IN.out.mono ?_
  rintro e w9 ⟨rfl, q, rfl⟩
  have B9 := hide' (drewW B8.out q)
  simp only [decide_true]
  go_wp2
  go_ret
  exact ⟨rfl, B9.out⟩
set_option maxRecDepth 100000 in
set_option maxHeartbeats 25600000 in
theorem law_wf_B (a : Option Addr) (n c : Nat) (W H : Int) (za : Option Addr) (zn zc : Nat) (ring : Bool) (w : World) (T S E : Nat) (b : Bool) (ys : List Int)
    (cT : Calls Tryd.prog 6 #[.slice a n c] w fun e w' => e = .returned (.int .i64 (T : Int)) ∧ Below w.heap.size w w')
    (cC : ∀ V, Below w.heap.size w V → Calls Tryd.prog 7 #[.slice a n c] V fun e w' => e = .returned (errOf T) ∧ Below V.heap.size V w')
    (cS : ∀ V, Below w.heap.size w V → Calls Tryd.prog 9 #[.slice a n c, .int .i64 W, .int .i64 H] V fun e w' => e = .returned (.int .i64 0) ∧ Below V.heap.size V w')
    (cE : ∀ V, Below w.heap.size w V → Calls Tryd.prog 10 #[.slice a n c, .int .i64 W, .int .i64 H, .slice za zn zc] V fun e w' => e = .returned (.int .i64 (E : Int)) ∧ w' = V)
    (hE : E ≠ 0)
    (cF : ∀ V, Below w.heap.size w V → Calls Tryd.prog 11 #[.slice a n c, .int .i64 W, .int .i64 H, .slice za zn zc, .bool ring] V fun e w' => e = .returned (.tuple #[.bool false, errOf E]) ∧ Below V.heap.size V w')
    (cL : ∀ V, Below w.heap.size w V → Calls Tryd.prog 13 #[.slice a n c, .int .i64 W, .int .i64 H, .bool ring] V (LisW V ys (.bool true)))
    (cW : ∀ V, Below w.heap.size w V → Calls Tryd.prog 14 #[.slice a n c, .int .i64 W, .int .i64 H, .bool ring] V (LisW V ys (errOf 0)))
    (ER : ∀ V, Below w.heap.size w V → ∀ f : Nat, Calls Tryd.prog 8 #[errOf f, .int .i64 (f : Int)] V fun e w' => e = .returned (.bool true) ∧ Below V.heap.size V w') :
    Calls Tryd.prog 3 #[.slice a n c, .int .i64 W, .int .i64 H, .slice za zn zc, .bool ring] w fun e w' => e = .returned (.bool true) ∧ Below w.heap.size w w' := by
  have CT := hide' cT
  have CC := hide' cC
  have CS := hide' cS
  have CF := hide' cF
  have CW := hide' cW
  have HE := hide' ER
  clear cT cC cS cF cW ER
  have CE := hide' cE
  have CL := hide' cL
  clear cE cL
  have e0 : ¬ (E : Int) = 0 := by omega
  have eb : ((E : Int) == 0) = false := by simp; omega
  clear hE
  go_enter Tryd.func3, Tryd.ntmps3
  go_wp2_with fail
  refine CT.out.mono ?_
  rintro e w1 ⟨rfl, b1⟩
  have B1 := hide' b1
  clear b1
  go_wp2_with fail
  refine (CC.out _ B1.out).mono ?_
  rintro e w2 ⟨rfl, bb⟩
  have B2 := hide' (B1.out.trans (bb.mono B1.out.size))
  clear bb
  go_wp2_with fail
  refine (HE.out _ B2.out T).mono ?_
  rintro e w3 ⟨rfl, bb⟩
  have B3 := hide' (B2.out.trans (bb.mono B2.out.size))
  clear bb
  go_wp2_with fail
  refine (CS.out _ B3.out).mono ?_
  rintro e w4 ⟨rfl, bb⟩
  have B4 := hide' (B3.out.trans (bb.mono B3.out.size))
  clear bb
  go_wp2_with fail
  refine (CE.out _ B4.out).mono ?_
  rintro e w5 ⟨rfl, rfl⟩
  go_wp2_with fail
  refine (CF.out _ B4.out).mono ?_
  rintro e w5 ⟨rfl, bb⟩
  have B5 := hide' (B4.out.trans (bb.mono B4.out.size))
  clear bb
  go_wp2_with fail
  refine (HE.out _ B5.out E).mono ?_
  rintro e w6 ⟨rfl, bb⟩
  have B6 := hide' (B5.out.trans (bb.mono B5.out.size))
  clear bb
  go_wp2_with fail
  refine (CL.out _ B6.out).mono ?_
  rintro e w7 ⟨a8, n8, c8, rfl, A8, bb⟩
  have B7 := hide' (B6.out.trans (bb.out.mono B6.out.size))
  clear bb
  go_wp2_with fail
  refine (CW.out _ B7.out).mono ?_
  rintro e w8 ⟨a9, n9, c9, rfl, A9, bb⟩
  have B8 := hide' (B7.out.trans (bb.out.mono B7.out.size))
  have P9 := hide' (A8.out.below bb.out)
  clear bb A8
  go_wp2_with fail
  refine (HE.out _ B8.out 0).mono ?_
  rintro e w9 ⟨rfl, bb⟩
  have B9 := hide' (B8.out.trans (bb.mono B8.out.size))
  have IN := hide' (Ints_any ys ys a9 a8 n9 c9 n8 c8 w9 (A9.out.below bb) (P9.out.below bb))
  clear bb P9 A9
  go_wp2_with fail
  refine IN.out.mono ?_
  rintro e w10 ⟨rfl, q, rfl⟩
  have B10 := hide' (drewW B9.out q)
  simp only [decide_true]
  go_wp2
  go_ret
  exact ⟨rfl, B10.out⟩
set_option maxRecDepth 100000 in
set_option maxHeartbeats 25600000 in
theorem law_wf_C (a : Option Addr) (n c : Nat) (W H : Int) (za : Option Addr) (zn zc : Nat) (ring : Bool) (w : World) (T S E : Nat) (b : Bool) (ys : List Int)
    (cT : Calls Tryd.prog 6 #[.slice a n c] w fun e w' => e = .returned (.int .i64 (T : Int)) ∧ Below w.heap.size w w')
    (cC : ∀ V, Below w.heap.size w V → Calls Tryd.prog 7 #[.slice a n c] V fun e w' => e = .returned (errOf T) ∧ Below V.heap.size V w')
    (cS : ∀ V, Below w.heap.size w V → Calls Tryd.prog 9 #[.slice a n c, .int .i64 W, .int .i64 H] V fun e w' => e = .returned (.int .i64 0) ∧ Below V.heap.size V w')
    (cE : ∀ V, Below w.heap.size w V → Calls Tryd.prog 10 #[.slice a n c, .int .i64 W, .int .i64 H, .slice za zn zc] V fun e w' => e = .returned (.int .i64 (E : Int)) ∧ w' = V)
    (hE : E ≠ 0)
    (cF : ∀ V, Below w.heap.size w V → Calls Tryd.prog 11 #[.slice a n c, .int .i64 W, .int .i64 H, .slice za zn zc, .bool ring] V fun e w' => e = .returned (.tuple #[.bool false, errOf E]) ∧ Below V.heap.size V w')
    (cL : ∀ V, Below w.heap.size w V → Calls Tryd.prog 13 #[.slice a n c, .int .i64 W, .int .i64 H, .bool ring] V (LisW V [] (.bool false)))
    (cW : ∀ V, Below w.heap.size w V → Calls Tryd.prog 14 #[.slice a n c, .int .i64 W, .int .i64 H, .bool ring] V (LisW V [] (errOf 5)))
    (ER : ∀ V, Below w.heap.size w V → ∀ f : Nat, Calls Tryd.prog 8 #[errOf f, .int .i64 (f : Int)] V fun e w' => e = .returned (.bool true) ∧ Below V.heap.size V w') :
    Calls Tryd.prog 3 #[.slice a n c, .int .i64 W, .int .i64 H, .slice za zn zc, .bool ring] w fun e w' => e = .returned (.bool true) ∧ Below w.heap.size w w' := by
  have CT := hide' cT
  have CC := hide' cC
  have CS := hide' cS
  have CF := hide' cF
  have CW := hide' cW
  have HE := hide' ER
  clear cT cC cS cF cW ER
  have CE := hide' cE
  have CL := hide' cL
  clear cE cL
  have e0 : ¬ (E : Int) = 0 := by omega
  have eb : ((E : Int) == 0) = false := by simp; omega
  clear hE
  go_enter Tryd.func3, Tryd.ntmps3
  go_wp2_with fail
  refine CT.out.mono ?_
  rintro e w1 ⟨rfl, b1⟩
  have B1 := hide' b1
  clear b1
  go_wp2_with fail
  refine (CC.out _ B1.out).mono ?_
  rintro e w2 ⟨rfl, bb⟩
  have B2 := hide' (B1.out.trans (bb.mono B1.out.size))
  clear bb
  go_wp2_with fail
  refine (HE.out _ B2.out T).mono ?_
  rintro e w3 ⟨rfl, bb⟩
  have B3 := hide' (B2.out.trans (bb.mono B2.out.size))
  clear bb
  go_wp2_with fail
  refine (CS.out _ B3.out).mono ?_
  rintro e w4 ⟨rfl, bb⟩
  have B4 := hide' (B3.out.trans (bb.mono B3.out.size))
  clear bb
  go_wp2_with fail
  refine (CE.out _ B4.out).mono ?_
  rintro e w5 ⟨rfl, rfl⟩
  go_wp2_with fail
  refine (CF.out _ B4.out).mono ?_
  rintro e w5 ⟨rfl, bb⟩
  have B5 := hide' (B4.out.trans (bb.mono B4.out.size))
  clear bb
  go_wp2_with fail
  refine (HE.out _ B5.out E).mono ?_
  rintro e w6 ⟨rfl, bb⟩
  have B6 := hide' (B5.out.trans (bb.mono B5.out.size))
  clear bb
  go_wp2_with fail
  refine (CL.out _ B6.out).mono ?_
  rintro e w7 ⟨a8, n8, c8, rfl, A8, bb⟩
  have B7 := hide' (B6.out.trans (bb.out.mono B6.out.size))
  clear bb
  go_wp2_with fail
  refine (CW.out _ B7.out).mono ?_
  rintro e w8 ⟨a9, n9, c9, rfl, A9, bb⟩
  have B8 := hide' (B7.out.trans (bb.out.mono B7.out.size))
  clear bb
  go_wp2_with fail
  refine (HE.out _ B8.out 5).mono ?_
  rintro e w9 ⟨rfl, bb⟩
  have B9 := hide' (B8.out.trans (bb.mono B8.out.size))
  have IN := hide' (Ints_any [] [] a9 none n9 c9 0 0 w9 (A9.out.below bb) (nilW _))
  clear bb A9
  go_wp2_with fail
  refine IN.out.mono ?_
  rintro e w10 ⟨rfl, q, rfl⟩
  have B10 := hide' (drewW B9.out q)
  simp only [decide_true]
  go_wp2
  go_ret
  exact ⟨rfl, B10.out⟩
set_option maxRecDepth 100000 in
set_option maxHeartbeats 25600000 in
theorem law_wf_D (a : Option Addr) (n c : Nat) (W H : Int) (za : Option Addr) (zn zc : Nat) (ring : Bool) (w : World) (T S E : Nat) (b : Bool) (ys : List Int)
    (cT : Calls Tryd.prog 6 #[.slice a n c] w fun e w' => e = .returned (.int .i64 (T : Int)) ∧ Below w.heap.size w w')
    (cC : ∀ V, Below w.heap.size w V → Calls Tryd.prog 7 #[.slice a n c] V fun e w' => e = .returned (errOf T) ∧ Below V.heap.size V w')
    (cS : ∀ V, Below w.heap.size w V → Calls Tryd.prog 9 #[.slice a n c, .int .i64 W, .int .i64 H] V fun e w' => e = .returned (.int .i64 0) ∧ Below V.heap.size V w')
    (cE : ∀ V, Below w.heap.size w V → Calls Tryd.prog 10 #[.slice a n c, .int .i64 W, .int .i64 H, .slice za zn zc] V fun e w' => e = .returned (.int .i64 0) ∧ w' = V)
    (cF : ∀ V, Below w.heap.size w V → Calls Tryd.prog 11 #[.slice a n c, .int .i64 W, .int .i64 H, .slice za zn zc, .bool ring] V fun e w' => e = .returned (.tuple #[.bool b, errOf 0]) ∧ Below V.heap.size V w')
    (cR : ∀ V, Below w.heap.size w V → Calls Tryd.prog 12 #[.slice a n c, .int .i64 W, .int .i64 H, .slice za zn zc, .bool ring] V fun e w' => e = .returned (.bool b) ∧ Below V.heap.size V w')
    (cL : ∀ V, Below w.heap.size w V → Calls Tryd.prog 13 #[.slice a n c, .int .i64 W, .int .i64 H, .bool ring] V (LisW V ys (.bool true)))
    (cW : ∀ V, Below w.heap.size w V → Calls Tryd.prog 14 #[.slice a n c, .int .i64 W, .int .i64 H, .bool ring] V (LisW V ys (errOf 0)))
    (ER : ∀ V, Below w.heap.size w V → ∀ f : Nat, Calls Tryd.prog 8 #[errOf f, .int .i64 (f : Int)] V fun e w' => e = .returned (.bool true) ∧ Below V.heap.size V w') :
    Calls Tryd.prog 3 #[.slice a n c, .int .i64 W, .int .i64 H, .slice za zn zc, .bool ring] w fun e w' => e = .returned (.bool true) ∧ Below w.heap.size w w' := by
  have CT := hide' cT
  have CC := hide' cC
  have CS := hide' cS
  have CF := hide' cF
  have CW := hide' cW
  have HE := hide' ER
  clear cT cC cS cF cW ER
  have CE := hide' cE
  have CL := hide' cL
  clear cE cL
  have CR := hide' cR
  clear cR
  go_enter Tryd.func3, Tryd.ntmps3
  go_wp2_with fail
  refine CT.out.mono ?_
  rintro e w1 ⟨rfl, b1⟩
  have B1 := hide' b1
  clear b1
  go_wp2_with fail
  refine (CC.out _ B1.out).mono ?_
  rintro e w2 ⟨rfl, bb⟩
  have B2 := hide' (B1.out.trans (bb.mono B1.out.size))
  clear bb
  go_wp2_with fail
  refine (HE.out _ B2.out T).mono ?_
  rintro e w3 ⟨rfl, bb⟩
  have B3 := hide' (B2.out.trans (bb.mono B2.out.size))
  clear bb
  go_wp2_with fail
  refine (CS.out _ B3.out).mono ?_
  rintro e w4 ⟨rfl, bb⟩
  have B4 := hide' (B3.out.trans (bb.mono B3.out.size))
  clear bb
  go_wp2_with fail
  refine (CE.out _ B4.out).mono ?_
  rintro e w5 ⟨rfl, rfl⟩
  go_wp2_with fail
  refine (CF.out _ B4.out).mono ?_
  rintro e w5 ⟨rfl, bb⟩
  have B5 := hide' (B4.out.trans (bb.mono B4.out.size))
  clear bb
  go_wp2_with fail
  refine (HE.out _ B5.out 0).mono ?_
  rintro e w6 ⟨rfl, bb⟩
  have B6 := hide' (B5.out.trans (bb.mono B5.out.size))
  clear bb
  go_wp2_with fail
  refine (CR.out _ B6.out).mono ?_
  rintro e w7 ⟨rfl, bb⟩
  have B7 := hide' (B6.out.trans (bb.mono B6.out.size))
  clear bb
  cases b <;>
  · go_wp2_with fail
    refine (CL.out _ B7.out).mono ?_
    rintro e w8 ⟨a8, n8, c8, rfl, A8, bb⟩
    have B8 := hide' (B7.out.trans (bb.out.mono B7.out.size))
    clear bb
    go_wp2_with fail
    refine (CW.out _ B8.out).mono ?_
    rintro e w9 ⟨a9, n9, c9, rfl, A9, bb⟩
    have B9 := hide' (B8.out.trans (bb.out.mono B8.out.size))
    have P9 := hide' (A8.out.below bb.out)
    clear bb A8
    go_wp2_with fail
    refine (HE.out _ B9.out 0).mono ?_
    rintro e w10 ⟨rfl, bb⟩
    have B10 := hide' (B9.out.trans (bb.mono B9.out.size))
    have IN := hide' (Ints_any ys ys a9 a8 n9 c9 n8 c8 w10 (A9.out.below bb) (P9.out.below bb))
    clear bb P9 A9
    go_wp2_with fail
    refine IN.out.mono ?_
    rintro e w11 ⟨rfl, q, rfl⟩
    have B11 := hide' (drewW B10.out q)
    simp only [decide_true]
    go_wp2
    go_ret
    exact ⟨rfl, B11.out⟩
set_option maxRecDepth 100000 in
set_option maxHeartbeats 25600000 in
theorem law_wf_E (a : Option Addr) (n c : Nat) (W H : Int) (za : Option Addr) (zn zc : Nat) (ring : Bool) (w : World) (T S E : Nat) (b : Bool) (ys : List Int)
    (cT : Calls Tryd.prog 6 #[.slice a n c] w fun e w' => e = .returned (.int .i64 (T : Int)) ∧ Below w.heap.size w w')
    (cC : ∀ V, Below w.heap.size w V → Calls Tryd.prog 7 #[.slice a n c] V fun e w' => e = .returned (errOf T) ∧ Below V.heap.size V w')
    (cS : ∀ V, Below w.heap.size w V → Calls Tryd.prog 9 #[.slice a n c, .int .i64 W, .int .i64 H] V fun e w' => e = .returned (.int .i64 0) ∧ Below V.heap.size V w')
    (cE : ∀ V, Below w.heap.size w V → Calls Tryd.prog 10 #[.slice a n c, .int .i64 W, .int .i64 H, .slice za zn zc] V fun e w' => e = .returned (.int .i64 0) ∧ w' = V)
    (cF : ∀ V, Below w.heap.size w V → Calls Tryd.prog 11 #[.slice a n c, .int .i64 W, .int .i64 H, .slice za zn zc, .bool ring] V fun e w' => e = .returned (.tuple #[.bool b, errOf 0]) ∧ Below V.heap.size V w')
    (cR : ∀ V, Below w.heap.size w V → Calls Tryd.prog 12 #[.slice a n c, .int .i64 W, .int .i64 H, .slice za zn zc, .bool ring] V fun e w' => e = .returned (.bool b) ∧ Below V.heap.size V w')
    (cL : ∀ V, Below w.heap.size w V → Calls Tryd.prog 13 #[.slice a n c, .int .i64 W, .int .i64 H, .bool ring] V (LisW V [] (.bool false)))
    (cW : ∀ V, Below w.heap.size w V → Calls Tryd.prog 14 #[.slice a n c, .int .i64 W, .int .i64 H, .bool ring] V (LisW V [] (errOf 5)))
    (ER : ∀ V, Below w.heap.size w V → ∀ f : Nat, Calls Tryd.prog 8 #[errOf f, .int .i64 (f : Int)] V fun e w' => e = .returned (.bool true) ∧ Below V.heap.size V w') :
    Calls Tryd.prog 3 #[.slice a n c, .int .i64 W, .int .i64 H, .slice za zn zc, .bool ring] w fun e w' => e = .returned (.bool true) ∧ Below w.heap.size w w' := by
  have CT := hide' cT
  have CC := hide' cC
  have CS := hide' cS
  have CF := hide' cF
  have CW := hide' cW
  have HE := hide' ER
  clear cT cC cS cF cW ER
  have CE := hide' cE
  have CL := hide' cL
  clear cE cL
  have CR := hide' cR
  clear cR
  go_enter Tryd.func3, Tryd.ntmps3
  go_wp2_with fail
  refine CT.out.mono ?_
  rintro e w1 ⟨rfl, b1⟩
  have B1 := hide' b1
  clear b1
  go_wp2_with fail
  refine (CC.out _ B1.out).mono ?_
  rintro e w2 ⟨rfl, bb⟩
  have B2 := hide' (B1.out.trans (bb.mono B1.out.size))
  clear bb
  go_wp2_with fail
  refine (HE.out _ B2.out T).mono ?_
  rintro e w3 ⟨rfl, bb⟩
  have B3 := hide' (B2.out.trans (bb.mono B2.out.size))
  clear bb
  go_wp2_with fail
  refine (CS.out _ B3.out).mono ?_
  rintro e w4 ⟨rfl, bb⟩
  have B4 := hide' (B3.out.trans (bb.mono B3.out.size))
  clear bb
  go_wp2_with fail
  refine (CE.out _ B4.out).mono ?_
  rintro e w5 ⟨rfl, rfl⟩
  go_wp2_with fail
  refine (CF.out _ B4.out).mono ?_
  rintro e w5 ⟨rfl, bb⟩
  have B5 := hide' (B4.out.trans (bb.mono B4.out.size))
  clear bb
  go_wp2_with fail
  refine (HE.out _ B5.out 0).mono ?_
  rintro e w6 ⟨rfl, bb⟩
  have B6 := hide' (B5.out.trans (bb.mono B5.out.size))
  clear bb
  go_wp2_with fail
  refine (CR.out _ B6.out).mono ?_
  rintro e w7 ⟨rfl, bb⟩
  have B7 := hide' (B6.out.trans (bb.mono B6.out.size))
  clear bb
  cases b <;>
  · go_wp2_with fail
    refine (CL.out _ B7.out).mono ?_
    rintro e w8 ⟨a8, n8, c8, rfl, A8, bb⟩
    have B8 := hide' (B7.out.trans (bb.out.mono B7.out.size))
    clear bb
    go_wp2_with fail
    refine (CW.out _ B8.out).mono ?_
    rintro e w9 ⟨a9, n9, c9, rfl, A9, bb⟩
    have B9 := hide' (B8.out.trans (bb.out.mono B8.out.size))
    clear bb
    go_wp2_with fail
    refine (HE.out _ B9.out 5).mono ?_
    rintro e w10 ⟨rfl, bb⟩
    have B10 := hide' (B9.out.trans (bb.mono B9.out.size))
    have IN := hide' (Ints_any [] [] a9 none n9 c9 0 0 w10 (A9.out.below bb) (nilW _))
    clear bb A9
    go_wp2_with fail
    refine IN.out.mono ?_
    rintro e w11 ⟨rfl, q, rfl⟩
    have B11 := hide' (drewW B10.out q)
    simp only [decide_true]
    go_wp2
    go_ret
    exact ⟨rfl, B11.out⟩
end Go.Proofs.YthmeapplnocfjaaDoor

