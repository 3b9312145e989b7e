/-
  What the last text of this claim leans on, part 15: Hg3.
-/
import Derived.Test.YtbkllhlapdmlfaaDoorQf14
namespace Go.Proofs.YtbkllhlapdmlfaaDoor
open Go.RowKit
set_option linter.unusedVariables false
theorem next_lt {W H : Nat} {X Y : Int} (h1 : -1 ≤ X) (h2 : X ≤ (W : Int)) (h3 : -1 ≤ Y) (h4 : Y ≤ (H : Int)) (W1 : 1 ≤ W) (H1 : 1 ≤ H) : ∃ A C : Nat, (X + (W : Int)).tmod (W : Int) = (A : Int) ∧ (Y + (H : Int)).tmod (H : Int) = (C : Int) ∧ A < W ∧ C < H := by
  obtain ⟨a1, a2⟩ := tmod_nat (a := X + (W : Int)) (s := W) (by omega) W1
  obtain ⟨b1, b2⟩ := tmod_nat (a := Y + (H : Int)) (s := H) (by omega) H1
  exact ⟨_, _, a1, b1, a2, b2⟩
set_option maxRecDepth 100000 in
set_option maxHeartbeats 6400000 in
theorem refNext_40 (W H k : Nat) (a : Option Addr) (n c : Nat) (w : World) (hW : 1 ≤ W ∧ W ≤ 100) (hH : 1 ≤ H ∧ H ≤ 100) (hk : k < W * H) :
    Calls Tryd.prog 69 #[.agg #[.int .i64 4, .int .i64 (W : Int), .int .i64 (H : Int), .slice a n c], .int .i64 (k : Int), .int .i64 0] w fun e w' => e = .returned (.int .i64 (srcG 4 W H k (oppG 4 0) : Int)) ∧ Below w.heap.size w w' := by
  obtain ⟨x, hx⟩ : ∃ x, k % W = x := ⟨_, rfl⟩
  obtain ⟨y, hy⟩ : ∃ y, k / W = y := ⟨_, rfl⟩
  have xl : x < W := by rw [← hx]; exact Nat.mod_lt _ hW.1
  have yl : y < H := by rw [← hy]; exact Nat.div_lt_of_lt_mul hk
  have k4 : k ≤ 10000 := by have := Nat.mul_le_mul hW.2 hH.2; omega
  have ke : k = y * W + x := by rw [← hx, ← hy, Nat.mul_comm]; exact (Nat.div_add_mod k W).symm
  have m1 : (k : Int).tmod (W : Int) = (x : Int) := by rw [Int.tmod_eq_emod_of_nonneg (by omega), ← hx]; simp
  have q1 : (k : Int).tdiv (W : Int) = (y : Int) := by rw [Int.tdiv_eq_ediv_of_nonneg (by omega), ← hy]; simp
  have q2 : (k : Int) / (W : Int) = (y : Int) := by rw [← hy]; simp
  have q3 : (k : Int) % (W : Int) = (x : Int) := by rw [← hx]; simp
  obtain ⟨A, C, hA, hC, Al, Cl⟩ := next_lt (W := W) (H := H) (X := (x : Int) + 1) (Y := (y : Int)) (by omega) (by omega) (by omega) (by omega) hW.1 hH.1
  have NO := hide' (show srcG 4 W H k (oppG 4 0) = C * W + A by
    rw [ke, next_of (K := 4) (by omega) (by omega) xl]
    have e1 : dyG 4 0 = 0 := by decide
    have e2 : dxG 4 y 0 = 1 := by simp [dxG]
    rw [e1, e2]
    rw [show (y : Int) + 0 = (y : Int) by omega, show (x : Int) + 1 = (x : Int) + 1 by omega, hA, hC]
    simp)
  obtain ⟨P, hP⟩ : ∃ P : Nat, (C : Int) * (W : Int) = (P : Int) := ⟨C * W, by simp⟩
  have P4 : P ≤ 10000 := by
    have h1 : C * W ≤ 100 * 100 := Nat.mul_le_mul (by omega) hW.2
    have h2 : ((C * W : Nat) : Int) = (P : Int) := by rw [← hP]; simp
    omega
  have W0 : ¬ (W : Int) = 0 := by omega
  have H0 : ¬ (H : Int) = 0 := by omega
  have W0b : ((W : Int) == 0) = false := by simp; omega
  have H0b : ((H : Int) == 0) = false := by simp; omega
  have PE := hide' (show ((srcG 4 W H k (oppG 4 0) : Nat) : Int) = (P : Int) + (A : Int) by rw [NO.out, ← hP]; simp)
  rw [PE.out]
  obtain ⟨W1, W2⟩ := hW
  obtain ⟨H1, H2⟩ := hH
  clear hx hy ke hk PE NO
  have y4 : y ≤ 100 := by omega
  have x4 : x ≤ 100 := by omega
  go_enter Tryd.func69, Tryd.ntmps69
  go_wp2
  go_ret
  exact ⟨by first | rfl | go_num, (Below.refl _ _).alloc (Nat.le_refl _) _⟩
set_option maxRecDepth 100000 in
set_option maxHeartbeats 6400000 in
theorem refNext_41 (W H k : Nat) (a : Option Addr) (n c : Nat) (w : World) (hW : 1 ≤ W ∧ W ≤ 100) (hH : 1 ≤ H ∧ H ≤ 100) (hk : k < W * H) :
    Calls Tryd.prog 69 #[.agg #[.int .i64 4, .int .i64 (W : Int), .int .i64 (H : Int), .slice a n c], .int .i64 (k : Int), .int .i64 1] w fun e w' => e = .returned (.int .i64 (srcG 4 W H k (oppG 4 1) : Int)) ∧ Below w.heap.size w w' := by
  obtain ⟨x, hx⟩ : ∃ x, k % W = x := ⟨_, rfl⟩
  obtain ⟨y, hy⟩ : ∃ y, k / W = y := ⟨_, rfl⟩
  have xl : x < W := by rw [← hx]; exact Nat.mod_lt _ hW.1
  have yl : y < H := by rw [← hy]; exact Nat.div_lt_of_lt_mul hk
  have k4 : k ≤ 10000 := by have := Nat.mul_le_mul hW.2 hH.2; omega
  have ke : k = y * W + x := by rw [← hx, ← hy, Nat.mul_comm]; exact (Nat.div_add_mod k W).symm
  have m1 : (k : Int).tmod (W : Int) = (x : Int) := by rw [Int.tmod_eq_emod_of_nonneg (by omega), ← hx]; simp
  have q1 : (k : Int).tdiv (W : Int) = (y : Int) := by rw [Int.tdiv_eq_ediv_of_nonneg (by omega), ← hy]; simp
  have q2 : (k : Int) / (W : Int) = (y : Int) := by rw [← hy]; simp
  have q3 : (k : Int) % (W : Int) = (x : Int) := by rw [← hx]; simp
  obtain ⟨A, C, hA, hC, Al, Cl⟩ := next_lt (W := W) (H := H) (X := (x : Int)) (Y := (y : Int) - 1) (by omega) (by omega) (by omega) (by omega) hW.1 hH.1
  have NO := hide' (show srcG 4 W H k (oppG 4 1) = C * W + A by
    rw [ke, next_of (K := 4) (by omega) (by omega) xl]
    have e1 : dyG 4 1 = -1 := by decide
    have e2 : dxG 4 y 1 = 0 := by simp [dxG]
    rw [e1, e2]
    rw [show (y : Int) + -1 = (y : Int) - 1 by omega, show (x : Int) + 0 = (x : Int) by omega, hA, hC]
    simp)
  obtain ⟨P, hP⟩ : ∃ P : Nat, (C : Int) * (W : Int) = (P : Int) := ⟨C * W, by simp⟩
  have P4 : P ≤ 10000 := by
    have h1 : C * W ≤ 100 * 100 := Nat.mul_le_mul (by omega) hW.2
    have h2 : ((C * W : Nat) : Int) = (P : Int) := by rw [← hP]; simp
    omega
  have W0 : ¬ (W : Int) = 0 := by omega
  have H0 : ¬ (H : Int) = 0 := by omega
  have W0b : ((W : Int) == 0) = false := by simp; omega
  have H0b : ((H : Int) == 0) = false := by simp; omega
  have PE := hide' (show ((srcG 4 W H k (oppG 4 1) : Nat) : Int) = (P : Int) + (A : Int) by rw [NO.out, ← hP]; simp)
  rw [PE.out]
  obtain ⟨W1, W2⟩ := hW
  obtain ⟨H1, H2⟩ := hH
  clear hx hy ke hk PE NO
  have y4 : y ≤ 100 := by omega
  have x4 : x ≤ 100 := by omega
  go_enter Tryd.func69, Tryd.ntmps69
  go_wp2
  go_ret
  exact ⟨by first | rfl | go_num, (Below.refl _ _).alloc (Nat.le_refl _) _⟩
set_option maxRecDepth 100000 in
set_option maxHeartbeats 6400000 in
theorem refNext_42 (W H k : Nat) (a : Option Addr) (n c : Nat) (w : World) (hW : 1 ≤ W ∧ W ≤ 100) (hH : 1 ≤ H ∧ H ≤ 100) (hk : k < W * H) :
    Calls Tryd.prog 69 #[.agg #[.int .i64 4, .int .i64 (W : Int), .int .i64 (H : Int), .slice a n c], .int .i64 (k : Int), .int .i64 2] w fun e w' => e = .returned (.int .i64 (srcG 4 W H k (oppG 4 2) : Int)) ∧ Below w.heap.size w w' := by
  obtain ⟨x, hx⟩ : ∃ x, k % W = x := ⟨_, rfl⟩
  obtain ⟨y, hy⟩ : ∃ y, k / W = y := ⟨_, rfl⟩
  have xl : x < W := by rw [← hx]; exact Nat.mod_lt _ hW.1
  have yl : y < H := by rw [← hy]; exact Nat.div_lt_of_lt_mul hk
  have k4 : k ≤ 10000 := by have := Nat.mul_le_mul hW.2 hH.2; omega
  have ke : k = y * W + x := by rw [← hx, ← hy, Nat.mul_comm]; exact (Nat.div_add_mod k W).symm
  have m1 : (k : Int).tmod (W : Int) = (x : Int) := by rw [Int.tmod_eq_emod_of_nonneg (by omega), ← hx]; simp
  have q1 : (k : Int).tdiv (W : Int) = (y : Int) := by rw [Int.tdiv_eq_ediv_of_nonneg (by omega), ← hy]; simp
  have q2 : (k : Int) / (W : Int) = (y : Int) := by rw [← hy]; simp
  have q3 : (k : Int) % (W : Int) = (x : Int) := by rw [← hx]; simp
  obtain ⟨A, C, hA, hC, Al, Cl⟩ := next_lt (W := W) (H := H) (X := (x : Int) - 1) (Y := (y : Int)) (by omega) (by omega) (by omega) (by omega) hW.1 hH.1
  have NO := hide' (show srcG 4 W H k (oppG 4 2) = C * W + A by
    rw [ke, next_of (K := 4) (by omega) (by omega) xl]
    have e1 : dyG 4 2 = 0 := by decide
    have e2 : dxG 4 y 2 = -1 := by simp [dxG]
    rw [e1, e2]
    rw [show (y : Int) + 0 = (y : Int) by omega, show (x : Int) + -1 = (x : Int) - 1 by omega, hA, hC]
    simp)
  obtain ⟨P, hP⟩ : ∃ P : Nat, (C : Int) * (W : Int) = (P : Int) := ⟨C * W, by simp⟩
  have P4 : P ≤ 10000 := by
    have h1 : C * W ≤ 100 * 100 := Nat.mul_le_mul (by omega) hW.2
    have h2 : ((C * W : Nat) : Int) = (P : Int) := by rw [← hP]; simp
    omega
  have W0 : ¬ (W : Int) = 0 := by omega
  have H0 : ¬ (H : Int) = 0 := by omega
  have W0b : ((W : Int) == 0) = false := by simp; omega
  have H0b : ((H : Int) == 0) = false := by simp; omega
  have PE := hide' (show ((srcG 4 W H k (oppG 4 2) : Nat) : Int) = (P : Int) + (A : Int) by rw [NO.out, ← hP]; simp)
  rw [PE.out]
  obtain ⟨W1, W2⟩ := hW
  obtain ⟨H1, H2⟩ := hH
  clear hx hy ke hk PE NO
  have y4 : y ≤ 100 := by omega
  have x4 : x ≤ 100 := by omega
  go_enter Tryd.func69, Tryd.ntmps69
  go_wp2
  go_ret
  exact ⟨by first | rfl | go_num, (Below.refl _ _).alloc (Nat.le_refl _) _⟩
set_option maxRecDepth 100000 in
set_option maxHeartbeats 6400000 in
theorem refNext_43 (W H k : Nat) (a : Option Addr) (n c : Nat) (w : World) (hW : 1 ≤ W ∧ W ≤ 100) (hH : 1 ≤ H ∧ H ≤ 100) (hk : k < W * H) :
    Calls Tryd.prog 69 #[.agg #[.int .i64 4, .int .i64 (W : Int), .int .i64 (H : Int), .slice a n c], .int .i64 (k : Int), .int .i64 3] w fun e w' => e = .returned (.int .i64 (srcG 4 W H k (oppG 4 3) : Int)) ∧ Below w.heap.size w w' := by
  obtain ⟨x, hx⟩ : ∃ x, k % W = x := ⟨_, rfl⟩
  obtain ⟨y, hy⟩ : ∃ y, k / W = y := ⟨_, rfl⟩
  have xl : x < W := by rw [← hx]; exact Nat.mod_lt _ hW.1
  have yl : y < H := by rw [← hy]; exact Nat.div_lt_of_lt_mul hk
  have k4 : k ≤ 10000 := by have := Nat.mul_le_mul hW.2 hH.2; omega
  have ke : k = y * W + x := by rw [← hx, ← hy, Nat.mul_comm]; exact (Nat.div_add_mod k W).symm
  have m1 : (k : Int).tmod (W : Int) = (x : Int) := by rw [Int.tmod_eq_emod_of_nonneg (by omega), ← hx]; simp
  have q1 : (k : Int).tdiv (W : Int) = (y : Int) := by rw [Int.tdiv_eq_ediv_of_nonneg (by omega), ← hy]; simp
  have q2 : (k : Int) / (W : Int) = (y : Int) := by rw [← hy]; simp
  have q3 : (k : Int) % (W : Int) = (x : Int) := by rw [← hx]; simp
  obtain ⟨A, C, hA, hC, Al, Cl⟩ := next_lt (W := W) (H := H) (X := (x : Int)) (Y := (y : Int) + 1) (by omega) (by omega) (by omega) (by omega) hW.1 hH.1
  have NO := hide' (show srcG 4 W H k (oppG 4 3) = C * W + A by
    rw [ke, next_of (K := 4) (by omega) (by omega) xl]
    have e1 : dyG 4 3 = 1 := by decide
    have e2 : dxG 4 y 3 = 0 := by simp [dxG]
    rw [e1, e2]
    rw [show (y : Int) + 1 = (y : Int) + 1 by omega, show (x : Int) + 0 = (x : Int) by omega, hA, hC]
    simp)
  obtain ⟨P, hP⟩ : ∃ P : Nat, (C : Int) * (W : Int) = (P : Int) := ⟨C * W, by simp⟩
  have P4 : P ≤ 10000 := by
    have h1 : C * W ≤ 100 * 100 := Nat.mul_le_mul (by omega) hW.2
    have h2 : ((C * W : Nat) : Int) = (P : Int) := by rw [← hP]; simp
    omega
  have W0 : ¬ (W : Int) = 0 := by omega
  have H0 : ¬ (H : Int) = 0 := by omega
  have W0b : ((W : Int) == 0) = false := by simp; omega
  have H0b : ((H : Int) == 0) = false := by simp; omega
  have PE := hide' (show ((srcG 4 W H k (oppG 4 3) : Nat) : Int) = (P : Int) + (A : Int) by rw [NO.out, ← hP]; simp)
  rw [PE.out]
  obtain ⟨W1, W2⟩ := hW
  obtain ⟨H1, H2⟩ := hH
  clear hx hy ke hk PE NO
  have y4 : y ≤ 100 := by omega
  have x4 : x ≤ 100 := by omega
  go_enter Tryd.func69, Tryd.ntmps69
  go_wp2
  go_ret
  exact ⟨by first | rfl | go_num, (Below.refl _ _).alloc (Nat.le_refl _) _⟩
set_option maxRecDepth 100000 in
set_option maxHeartbeats 6400000 in
theorem refNext_60 (W H k : Nat) (a : Option Addr) (n c : Nat) (w : World) (hW : 1 ≤ W ∧ W ≤ 100) (hH : 1 ≤ H ∧ H ≤ 100) (hk : k < W * H) :
    Calls Tryd.prog 69 #[.agg #[.int .i64 6, .int .i64 (W : Int), .int .i64 (H : Int), .slice a n c], .int .i64 (k : Int), .int .i64 0] w fun e w' => e = .returned (.int .i64 (srcG 6 W H k (oppG 6 0) : Int)) ∧ Below w.heap.size w w' := by
  obtain ⟨x, hx⟩ : ∃ x, k % W = x := ⟨_, rfl⟩
  obtain ⟨y, hy⟩ : ∃ y, k / W = y := ⟨_, rfl⟩
  have xl : x < W := by rw [← hx]; exact Nat.mod_lt _ hW.1
  have yl : y < H := by rw [← hy]; exact Nat.div_lt_of_lt_mul hk
  have k4 : k ≤ 10000 := by have := Nat.mul_le_mul hW.2 hH.2; omega
  have ke : k = y * W + x := by rw [← hx, ← hy, Nat.mul_comm]; exact (Nat.div_add_mod k W).symm
  have m1 : (k : Int).tmod (W : Int) = (x : Int) := by rw [Int.tmod_eq_emod_of_nonneg (by omega), ← hx]; simp
  have q1 : (k : Int).tdiv (W : Int) = (y : Int) := by rw [Int.tdiv_eq_ediv_of_nonneg (by omega), ← hy]; simp
  have q2 : (k : Int) / (W : Int) = (y : Int) := by rw [← hy]; simp
  have q3 : (k : Int) % (W : Int) = (x : Int) := by rw [← hx]; simp
  obtain ⟨o, ho⟩ : ∃ o, y % 2 = o := ⟨_, rfl⟩
  have o1 : o ≤ 1 := by omega
  have r1 : (y : Int).tmod 2 = (o : Int) := by rw [Int.tmod_eq_emod_of_nonneg (by omega), ← ho]; simp
  have r2 : (y : Int) % 2 = (o : Int) := by rw [← ho]; simp
  obtain ⟨A, C, hA, hC, Al, Cl⟩ := next_lt (W := W) (H := H) (X := (x : Int) + 1) (Y := (y : Int)) (by omega) (by omega) (by omega) (by omega) hW.1 hH.1
  have NO := hide' (show srcG 6 W H k (oppG 6 0) = C * W + A by
    rw [ke, next_of (K := 6) (by omega) (by omega) xl]
    have e1 : dyG 6 0 = 0 := by decide
    have e2 : dxG 6 y 0 = 1 := by simp [dxG]
    rw [e1, e2]
    rw [show (y : Int) + 0 = (y : Int) by omega, show (x : Int) + 1 = (x : Int) + 1 by omega, hA, hC]
    simp)
  obtain ⟨P, hP⟩ : ∃ P : Nat, (C : Int) * (W : Int) = (P : Int) := ⟨C * W, by simp⟩
  have P4 : P ≤ 10000 := by
    have h1 : C * W ≤ 100 * 100 := Nat.mul_le_mul (by omega) hW.2
    have h2 : ((C * W : Nat) : Int) = (P : Int) := by rw [← hP]; simp
    omega
  have W0 : ¬ (W : Int) = 0 := by omega
  have H0 : ¬ (H : Int) = 0 := by omega
  have W0b : ((W : Int) == 0) = false := by simp; omega
  have H0b : ((H : Int) == 0) = false := by simp; omega
  have PE := hide' (show ((srcG 6 W H k (oppG 6 0) : Nat) : Int) = (P : Int) + (A : Int) by rw [NO.out, ← hP]; simp)
  rw [PE.out]
  obtain ⟨W1, W2⟩ := hW
  obtain ⟨H1, H2⟩ := hH
  clear hx hy ke hk PE NO
  have y4 : y ≤ 100 := by omega
  have x4 : x ≤ 100 := by omega
  go_enter Tryd.func69, Tryd.ntmps69
  go_wp2
  go_ret
  exact ⟨by first | rfl | go_num, (Below.refl _ _).alloc (Nat.le_refl _) _⟩
set_option maxRecDepth 100000 in
set_option maxHeartbeats 6400000 in
theorem refNext_61 (W H k : Nat) (a : Option Addr) (n c : Nat) (w : World) (hW : 1 ≤ W ∧ W ≤ 100) (hH : 1 ≤ H ∧ H ≤ 100) (hk : k < W * H) :
    Calls Tryd.prog 69 #[.agg #[.int .i64 6, .int .i64 (W : Int), .int .i64 (H : Int), .slice a n c], .int .i64 (k : Int), .int .i64 1] w fun e w' => e = .returned (.int .i64 (srcG 6 W H k (oppG 6 1) : Int)) ∧ Below w.heap.size w w' := by
  obtain ⟨x, hx⟩ : ∃ x, k % W = x := ⟨_, rfl⟩
  obtain ⟨y, hy⟩ : ∃ y, k / W = y := ⟨_, rfl⟩
  have xl : x < W := by rw [← hx]; exact Nat.mod_lt _ hW.1
  have yl : y < H := by rw [← hy]; exact Nat.div_lt_of_lt_mul hk
  have k4 : k ≤ 10000 := by have := Nat.mul_le_mul hW.2 hH.2; omega
  have ke : k = y * W + x := by rw [← hx, ← hy, Nat.mul_comm]; exact (Nat.div_add_mod k W).symm
  have m1 : (k : Int).tmod (W : Int) = (x : Int) := by rw [Int.tmod_eq_emod_of_nonneg (by omega), ← hx]; simp
  have q1 : (k : Int).tdiv (W : Int) = (y : Int) := by rw [Int.tdiv_eq_ediv_of_nonneg (by omega), ← hy]; simp
  have q2 : (k : Int) / (W : Int) = (y : Int) := by rw [← hy]; simp
  have q3 : (k : Int) % (W : Int) = (x : Int) := by rw [← hx]; simp
  obtain ⟨o, ho⟩ : ∃ o, y % 2 = o := ⟨_, rfl⟩
  have o1 : o ≤ 1 := by omega
  have r1 : (y : Int).tmod 2 = (o : Int) := by rw [Int.tmod_eq_emod_of_nonneg (by omega), ← ho]; simp
  have r2 : (y : Int) % 2 = (o : Int) := by rw [← ho]; simp
  obtain ⟨A, C, hA, hC, Al, Cl⟩ := next_lt (W := W) (H := H) (X := (x : Int) + (o : Int)) (Y := (y : Int) - 1) (by omega) (by omega) (by omega) (by omega) hW.1 hH.1
  have NO := hide' (show srcG 6 W H k (oppG 6 1) = C * W + A by
    rw [ke, next_of (K := 6) (by omega) (by omega) xl]
    have e1 : dyG 6 1 = -1 := by decide
    have e2 : dxG 6 y 1 = (o : Int) := by simp [dxG, ho]
    rw [e1, e2]
    rw [show (y : Int) + -1 = (y : Int) - 1 by omega, show (x : Int) + (o : Int) = (x : Int) + (o : Int) by omega, hA, hC]
    simp)
  obtain ⟨P, hP⟩ : ∃ P : Nat, (C : Int) * (W : Int) = (P : Int) := ⟨C * W, by simp⟩
  have P4 : P ≤ 10000 := by
    have h1 : C * W ≤ 100 * 100 := Nat.mul_le_mul (by omega) hW.2
    have h2 : ((C * W : Nat) : Int) = (P : Int) := by rw [← hP]; simp
    omega
  have W0 : ¬ (W : Int) = 0 := by omega
  have H0 : ¬ (H : Int) = 0 := by omega
  have W0b : ((W : Int) == 0) = false := by simp; omega
  have H0b : ((H : Int) == 0) = false := by simp; omega
  have PE := hide' (show ((srcG 6 W H k (oppG 6 1) : Nat) : Int) = (P : Int) + (A : Int) by rw [NO.out, ← hP]; simp)
  rw [PE.out]
  obtain ⟨W1, W2⟩ := hW
  obtain ⟨H1, H2⟩ := hH
  clear hx hy ke hk PE NO
  have y4 : y ≤ 100 := by omega
  have x4 : x ≤ 100 := by omega
  go_enter Tryd.func69, Tryd.ntmps69
  go_wp2
  go_ret
  exact ⟨by first | rfl | go_num, (Below.refl _ _).alloc (Nat.le_refl _) _⟩
set_option maxRecDepth 100000 in
set_option maxHeartbeats 6400000 in
theorem refNext_62 (W H k : Nat) (a : Option Addr) (n c : Nat) (w : World) (hW : 1 ≤ W ∧ W ≤ 100) (hH : 1 ≤ H ∧ H ≤ 100) (hk : k < W * H) :
    Calls Tryd.prog 69 #[.agg #[.int .i64 6, .int .i64 (W : Int), .int .i64 (H : Int), .slice a n c], .int .i64 (k : Int), .int .i64 2] w fun e w' => e = .returned (.int .i64 (srcG 6 W H k (oppG 6 2) : Int)) ∧ Below w.heap.size w w' := by
  obtain ⟨x, hx⟩ : ∃ x, k % W = x := ⟨_, rfl⟩
  obtain ⟨y, hy⟩ : ∃ y, k / W = y := ⟨_, rfl⟩
  have xl : x < W := by rw [← hx]; exact Nat.mod_lt _ hW.1
  have yl : y < H := by rw [← hy]; exact Nat.div_lt_of_lt_mul hk
  have k4 : k ≤ 10000 := by have := Nat.mul_le_mul hW.2 hH.2; omega
  have ke : k = y * W + x := by rw [← hx, ← hy, Nat.mul_comm]; exact (Nat.div_add_mod k W).symm
  have m1 : (k : Int).tmod (W : Int) = (x : Int) := by rw [Int.tmod_eq_emod_of_nonneg (by omega), ← hx]; simp
  have q1 : (k : Int).tdiv (W : Int) = (y : Int) := by rw [Int.tdiv_eq_ediv_of_nonneg (by omega), ← hy]; simp
  have q2 : (k : Int) / (W : Int) = (y : Int) := by rw [← hy]; simp
  have q3 : (k : Int) % (W : Int) = (x : Int) := by rw [← hx]; simp
  obtain ⟨o, ho⟩ : ∃ o, y % 2 = o := ⟨_, rfl⟩
  have o1 : o ≤ 1 := by omega
  have r1 : (y : Int).tmod 2 = (o : Int) := by rw [Int.tmod_eq_emod_of_nonneg (by omega), ← ho]; simp
  have r2 : (y : Int) % 2 = (o : Int) := by rw [← ho]; simp
  obtain ⟨A, C, hA, hC, Al, Cl⟩ := next_lt (W := W) (H := H) (X := (x : Int) + (o : Int) - 1) (Y := (y : Int) - 1) (by omega) (by omega) (by omega) (by omega) hW.1 hH.1
  have NO := hide' (show srcG 6 W H k (oppG 6 2) = C * W + A by
    rw [ke, next_of (K := 6) (by omega) (by omega) xl]
    have e1 : dyG 6 2 = -1 := by decide
    have e2 : dxG 6 y 2 = (o : Int) - 1 := by simp [dxG, ho]
    rw [e1, e2]
    rw [show (y : Int) + -1 = (y : Int) - 1 by omega, show (x : Int) + ((o : Int) - 1) = (x : Int) + (o : Int) - 1 by omega, hA, hC]
    simp)
  obtain ⟨P, hP⟩ : ∃ P : Nat, (C : Int) * (W : Int) = (P : Int) := ⟨C * W, by simp⟩
  have P4 : P ≤ 10000 := by
    have h1 : C * W ≤ 100 * 100 := Nat.mul_le_mul (by omega) hW.2
    have h2 : ((C * W : Nat) : Int) = (P : Int) := by rw [← hP]; simp
    omega
  have W0 : ¬ (W : Int) = 0 := by omega
  have H0 : ¬ (H : Int) = 0 := by omega
  have W0b : ((W : Int) == 0) = false := by simp; omega
  have H0b : ((H : Int) == 0) = false := by simp; omega
  have PE := hide' (show ((srcG 6 W H k (oppG 6 2) : Nat) : Int) = (P : Int) + (A : Int) by rw [NO.out, ← hP]; simp)
  rw [PE.out]
  obtain ⟨W1, W2⟩ := hW
  obtain ⟨H1, H2⟩ := hH
  clear hx hy ke hk PE NO
  have y4 : y ≤ 100 := by omega
  have x4 : x ≤ 100 := by omega
  go_enter Tryd.func69, Tryd.ntmps69
  go_wp2
  go_ret
  exact ⟨by first | rfl | go_num, (Below.refl _ _).alloc (Nat.le_refl _) _⟩
set_option maxRecDepth 100000 in
set_option maxHeartbeats 6400000 in
theorem refNext_63 (W H k : Nat) (a : Option Addr) (n c : Nat) (w : World) (hW : 1 ≤ W ∧ W ≤ 100) (hH : 1 ≤ H ∧ H ≤ 100) (hk : k < W * H) :
    Calls Tryd.prog 69 #[.agg #[.int .i64 6, .int .i64 (W : Int), .int .i64 (H : Int), .slice a n c], .int .i64 (k : Int), .int .i64 3] w fun e w' => e = .returned (.int .i64 (srcG 6 W H k (oppG 6 3) : Int)) ∧ Below w.heap.size w w' := by
  obtain ⟨x, hx⟩ : ∃ x, k % W = x := ⟨_, rfl⟩
  obtain ⟨y, hy⟩ : ∃ y, k / W = y := ⟨_, rfl⟩
  have xl : x < W := by rw [← hx]; exact Nat.mod_lt _ hW.1
  have yl : y < H := by rw [← hy]; exact Nat.div_lt_of_lt_mul hk
  have k4 : k ≤ 10000 := by have := Nat.mul_le_mul hW.2 hH.2; omega
  have ke : k = y * W + x := by rw [← hx, ← hy, Nat.mul_comm]; exact (Nat.div_add_mod k W).symm
  have m1 : (k : Int).tmod (W : Int) = (x : Int) := by rw [Int.tmod_eq_emod_of_nonneg (by omega), ← hx]; simp
  have q1 : (k : Int).tdiv (W : Int) = (y : Int) := by rw [Int.tdiv_eq_ediv_of_nonneg (by omega), ← hy]; simp
  have q2 : (k : Int) / (W : Int) = (y : Int) := by rw [← hy]; simp
  have q3 : (k : Int) % (W : Int) = (x : Int) := by rw [← hx]; simp
  obtain ⟨o, ho⟩ : ∃ o, y % 2 = o := ⟨_, rfl⟩
  have o1 : o ≤ 1 := by omega
  have r1 : (y : Int).tmod 2 = (o : Int) := by rw [Int.tmod_eq_emod_of_nonneg (by omega), ← ho]; simp
  have r2 : (y : Int) % 2 = (o : Int) := by rw [← ho]; simp
  obtain ⟨A, C, hA, hC, Al, Cl⟩ := next_lt (W := W) (H := H) (X := (x : Int) - 1) (Y := (y : Int)) (by omega) (by omega) (by omega) (by omega) hW.1 hH.1
  have NO := hide' (show srcG 6 W H k (oppG 6 3) = C * W + A by
    rw [ke, next_of (K := 6) (by omega) (by omega) xl]
    have e1 : dyG 6 3 = 0 := by decide
    have e2 : dxG 6 y 3 = -1 := by simp [dxG]
    rw [e1, e2]
    rw [show (y : Int) + 0 = (y : Int) by omega, show (x : Int) + -1 = (x : Int) - 1 by omega, hA, hC]
    simp)
  obtain ⟨P, hP⟩ : ∃ P : Nat, (C : Int) * (W : Int) = (P : Int) := ⟨C * W, by simp⟩
  have P4 : P ≤ 10000 := by
    have h1 : C * W ≤ 100 * 100 := Nat.mul_le_mul (by omega) hW.2
    have h2 : ((C * W : Nat) : Int) = (P : Int) := by rw [← hP]; simp
    omega
  have W0 : ¬ (W : Int) = 0 := by omega
  have H0 : ¬ (H : Int) = 0 := by omega
  have W0b : ((W : Int) == 0) = false := by simp; omega
  have H0b : ((H : Int) == 0) = false := by simp; omega
  have PE := hide' (show ((srcG 6 W H k (oppG 6 3) : Nat) : Int) = (P : Int) + (A : Int) by rw [NO.out, ← hP]; simp)
  rw [PE.out]
  obtain ⟨W1, W2⟩ := hW
  obtain ⟨H1, H2⟩ := hH
  clear hx hy ke hk PE NO
  have y4 : y ≤ 100 := by omega
  have x4 : x ≤ 100 := by omega
  go_enter Tryd.func69, Tryd.ntmps69
  go_wp2
  go_ret
  exact ⟨by first | rfl | go_num, (Below.refl _ _).alloc (Nat.le_refl _) _⟩
set_option maxRecDepth 100000 in
set_option maxHeartbeats 6400000 in
theorem refNext_64 (W H k : Nat) (a : Option Addr) (n c : Nat) (w : World) (hW : 1 ≤ W ∧ W ≤ 100) (hH : 1 ≤ H ∧ H ≤ 100) (hk : k < W * H) :
    Calls Tryd.prog 69 #[.agg #[.int .i64 6, .int .i64 (W : Int), .int .i64 (H : Int), .slice a n c], .int .i64 (k : Int), .int .i64 4] w fun e w' => e = .returned (.int .i64 (srcG 6 W H k (oppG 6 4) : Int)) ∧ Below w.heap.size w w' := by
  obtain ⟨x, hx⟩ : ∃ x, k % W = x := ⟨_, rfl⟩
  obtain ⟨y, hy⟩ : ∃ y, k / W = y := ⟨_, rfl⟩
  have xl : x < W := by rw [← hx]; exact Nat.mod_lt _ hW.1
  have yl : y < H := by rw [← hy]; exact Nat.div_lt_of_lt_mul hk
  have k4 : k ≤ 10000 := by have := Nat.mul_le_mul hW.2 hH.2; omega
  have ke : k = y * W + x := by rw [← hx, ← hy, Nat.mul_comm]; exact (Nat.div_add_mod k W).symm
  have m1 : (k : Int).tmod (W : Int) = (x : Int) := by rw [Int.tmod_eq_emod_of_nonneg (by omega), ← hx]; simp
  have q1 : (k : Int).tdiv (W : Int) = (y : Int) := by rw [Int.tdiv_eq_ediv_of_nonneg (by omega), ← hy]; simp
  have q2 : (k : Int) / (W : Int) = (y : Int) := by rw [← hy]; simp
  have q3 : (k : Int) % (W : Int) = (x : Int) := by rw [← hx]; simp
  obtain ⟨o, ho⟩ : ∃ o, y % 2 = o := ⟨_, rfl⟩
  have o1 : o ≤ 1 := by omega
  have r1 : (y : Int).tmod 2 = (o : Int) := by rw [Int.tmod_eq_emod_of_nonneg (by omega), ← ho]; simp
  have r2 : (y : Int) % 2 = (o : Int) := by rw [← ho]; simp
  obtain ⟨A, C, hA, hC, Al, Cl⟩ := next_lt (W := W) (H := H) (X := (x : Int) + (o : Int) - 1) (Y := (y : Int) + 1) (by omega) (by omega) (by omega) (by omega) hW.1 hH.1
  have NO := hide' (show srcG 6 W H k (oppG 6 4) = C * W + A by
    rw [ke, next_of (K := 6) (by omega) (by omega) xl]
    have e1 : dyG 6 4 = 1 := by decide
    have e2 : dxG 6 y 4 = (o : Int) - 1 := by simp [dxG, ho]
    rw [e1, e2]
    rw [show (y : Int) + 1 = (y : Int) + 1 by omega, show (x : Int) + ((o : Int) - 1) = (x : Int) + (o : Int) - 1 by omega, hA, hC]
    simp)
  obtain ⟨P, hP⟩ : ∃ P : Nat, (C : Int) * (W : Int) = (P : Int) := ⟨C * W, by simp⟩
  have P4 : P ≤ 10000 := by
    have h1 : C * W ≤ 100 * 100 := Nat.mul_le_mul (by omega) hW.2
    have h2 : ((C * W : Nat) : Int) = (P : Int) := by rw [← hP]; simp
    omega
  have W0 : ¬ (W : Int) = 0 := by omega
  have H0 : ¬ (H : Int) = 0 := by omega
  have W0b : ((W : Int) == 0) = false := by simp; omega
  have H0b : ((H : Int) == 0) = false := by simp; omega
  have PE := hide' (show ((srcG 6 W H k (oppG 6 4) : Nat) : Int) = (P : Int) + (A : Int) by rw [NO.out, ← hP]; simp)
  rw [PE.out]
  obtain ⟨W1, W2⟩ := hW
  obtain ⟨H1, H2⟩ := hH
  clear hx hy ke hk PE NO
  have y4 : y ≤ 100 := by omega
  have x4 : x ≤ 100 := by omega
  go_enter Tryd.func69, Tryd.ntmps69
  go_wp2
  go_ret
  exact ⟨by first | rfl | go_num, (Below.refl _ _).alloc (Nat.le_refl _) _⟩
set_option maxRecDepth 100000 in
set_option maxHeartbeats 6400000 in
theorem refNext_65 (W H k : Nat) (a : Option Addr) (n c : Nat) (w : World) (hW : 1 ≤ W ∧ W ≤ 100) (hH : 1 ≤ H ∧ H ≤ 100) (hk : k < W * H) :
    Calls Tryd.prog 69 #[.agg #[.int .i64 6, .int .i64 (W : Int), .int .i64 (H : Int), .slice a n c], .int .i64 (k : Int), .int .i64 5] w fun e w' => e = .returned (.int .i64 (srcG 6 W H k (oppG 6 5) : Int)) ∧ Below w.heap.size w w' := by
  obtain ⟨x, hx⟩ : ∃ x, k % W = x := ⟨_, rfl⟩
  obtain ⟨y, hy⟩ : ∃ y, k / W = y := ⟨_, rfl⟩
  have xl : x < W := by rw [← hx]; exact Nat.mod_lt _ hW.1
  have yl : y < H := by rw [← hy]; exact Nat.div_lt_of_lt_mul hk
  have k4 : k ≤ 10000 := by have := Nat.mul_le_mul hW.2 hH.2; omega
  have ke : k = y * W + x := by rw [← hx, ← hy, Nat.mul_comm]; exact (Nat.div_add_mod k W).symm
  have m1 : (k : Int).tmod (W : Int) = (x : Int) := by rw [Int.tmod_eq_emod_of_nonneg (by omega), ← hx]; simp
  have q1 : (k : Int).tdiv (W : Int) = (y : Int) := by rw [Int.tdiv_eq_ediv_of_nonneg (by omega), ← hy]; simp
  have q2 : (k : Int) / (W : Int) = (y : Int) := by rw [← hy]; simp
  have q3 : (k : Int) % (W : Int) = (x : Int) := by rw [← hx]; simp
  obtain ⟨o, ho⟩ : ∃ o, y % 2 = o := ⟨_, rfl⟩
  have o1 : o ≤ 1 := by omega
  have r1 : (y : Int).tmod 2 = (o : Int) := by rw [Int.tmod_eq_emod_of_nonneg (by omega), ← ho]; simp
  have r2 : (y : Int) % 2 = (o : Int) := by rw [← ho]; simp
  obtain ⟨A, C, hA, hC, Al, Cl⟩ := next_lt (W := W) (H := H) (X := (x : Int) + (o : Int)) (Y := (y : Int) + 1) (by omega) (by omega) (by omega) (by omega) hW.1 hH.1
  have NO := hide' (show srcG 6 W H k (oppG 6 5) = C * W + A by
    rw [ke, next_of (K := 6) (by omega) (by omega) xl]
    have e1 : dyG 6 5 = 1 := by decide
    have e2 : dxG 6 y 5 = (o : Int) := by simp [dxG, ho]
    rw [e1, e2]
    rw [show (y : Int) + 1 = (y : Int) + 1 by omega, show (x : Int) + (o : Int) = (x : Int) + (o : Int) by omega, hA, hC]
    simp)
  obtain ⟨P, hP⟩ : ∃ P : Nat, (C : Int) * (W : Int) = (P : Int) := ⟨C * W, by simp⟩
  have P4 : P ≤ 10000 := by
    have h1 : C * W ≤ 100 * 100 := Nat.mul_le_mul (by omega) hW.2
    have h2 : ((C * W : Nat) : Int) = (P : Int) := by rw [← hP]; simp
    omega
  have W0 : ¬ (W : Int) = 0 := by omega
  have H0 : ¬ (H : Int) = 0 := by omega
  have W0b : ((W : Int) == 0) = false := by simp; omega
  have H0b : ((H : Int) == 0) = false := by simp; omega
  have PE := hide' (show ((srcG 6 W H k (oppG 6 5) : Nat) : Int) = (P : Int) + (A : Int) by rw [NO.out, ← hP]; simp)
  rw [PE.out]
  obtain ⟨W1, W2⟩ := hW
  obtain ⟨H1, H2⟩ := hH
  clear hx hy ke hk PE NO
  have y4 : y ≤ 100 := by omega
  have x4 : x ≤ 100 := by omega
  go_enter Tryd.func69, Tryd.ntmps69
  go_wp2
  go_ret
  exact ⟨by first | rfl | go_num, (Below.refl _ _).alloc (Nat.le_refl _) _⟩
theorem refNext_any {K : Nat} (hK : K = 4 ∨ K = 6) (W H k d : Nat) (a : Option Addr) (n c : Nat) (w : World) (hW : 1 ≤ W ∧ W ≤ 100) (hH : 1 ≤ H ∧ H ≤ 100) (hk : k < W * H) (hd : d < K) :
    Calls Tryd.prog 69 #[.agg #[.int .i64 (K : Int), .int .i64 (W : Int), .int .i64 (H : Int), .slice a n c], .int .i64 (k : Int), .int .i64 (d : Int)] w fun e w' => e = .returned (.int .i64 (srcG K W H k (oppG K d) : Int)) ∧ Below w.heap.size w w' := by
  rcases hK with rfl | rfl
  · rcases (by omega : d = 0 ∨ d = 1 ∨ d = 2 ∨ d = 3) with rfl | rfl | rfl | rfl
    · exact refNext_40 W H k a n c w hW hH hk
    · exact refNext_41 W H k a n c w hW hH hk
    · exact refNext_42 W H k a n c w hW hH hk
    · exact refNext_43 W H k a n c w hW hH hk
  · rcases (by omega : d = 0 ∨ d = 1 ∨ d = 2 ∨ d = 3 ∨ d = 4 ∨ d = 5) with rfl | rfl | rfl | rfl | rfl | rfl
    · exact refNext_60 W H k a n c w hW hH hk
    · exact refNext_61 W H k a n c w hW hH hk
    · exact refNext_62 W H k a n c w hW hH hk
    · exact refNext_63 W H k a n c w hW hH hk
    · exact refNext_64 W H k a n c w hW hH hk
    · exact refNext_65 W H k a n c w hW hH hk
end Go.Proofs.YtbkllhlapdmlfaaDoor

