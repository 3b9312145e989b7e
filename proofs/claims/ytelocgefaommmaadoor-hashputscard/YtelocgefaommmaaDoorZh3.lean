/-
  What the last text of this claim leans on, part 3: Pr2.
-/
import Derived.Test.YtelocgefaommmaaDoorZh2
namespace Go.Proofs.YtelocgefaommmaaDoor
open Go.RowKit
set_option linter.unusedVariables false

/-- R1, R2: what a rule is. -/
def Good (o : Out) : Prop :=
  (o.kind = 1 ∧ bitsB o.born = true ∧ bitsB o.stay = true ∧ noLineB o = true ∧ o.turns.toList.isEmpty = true) ∨
  (o.kind = 2 ∧ lineP o ∧ noLifeB o = true ∧ o.turns.toList.isEmpty = true) ∨
  (o.kind = 3 ∧ turnsP o.turns ∧ noLifeB o = true ∧ noLineB o = true)

set_option maxHeartbeats 1600000 in
theorem isRule_1a (o : Out) (a : Option Addr) (n c : Nat) (w : World) (hR : ArgR w o a n c) (hk : o.kind = 1) (h1 : bitsB o.born = false) :
    Calls Tryd.prog 19 #[o.val (.slice a n c)] w fun e w' => e = .returned (.bool false) ∧ Below w.heap.size w w' := by
  have k1 : (o.kind == 1) = true := by simp; omega
  clear hk
  unfold Out.val
  go_enter Tryd.func19, Tryd.ntmps19
  go_wp2_with fail
  refine (isBits_any o.born _).mono ?_
  rw [h1]
  rintro e w1 ⟨rfl, rfl⟩
  go_wp2
  go_ret
  exact ⟨rfl, (Below.refl _ _).alloc (Nat.le_refl _) _⟩

set_option maxHeartbeats 1600000 in
theorem isRule_1b (o : Out) (a : Option Addr) (n c : Nat) (w : World) (hR : ArgR w o a n c) (hk : o.kind = 1) (h1 : bitsB o.born = true) (h2 : bitsB o.stay = false) :
    Calls Tryd.prog 19 #[o.val (.slice a n c)] w fun e w' => e = .returned (.bool false) ∧ Below w.heap.size w w' := by
  have k1 : (o.kind == 1) = true := by simp; omega
  clear hk
  unfold Out.val
  go_enter Tryd.func19, Tryd.ntmps19
  go_wp2_with fail
  refine (isBits_any o.born _).mono ?_
  rw [h1]
  rintro e w1 ⟨rfl, rfl⟩
  go_wp2_with fail
  refine (isBits_any o.stay _).mono ?_
  rw [h2]
  rintro e w1 ⟨rfl, rfl⟩
  go_wp2
  go_ret
  exact ⟨rfl, (Below.refl _ _).alloc (Nat.le_refl _) _⟩

set_option maxHeartbeats 1600000 in
theorem isRule_1c (o : Out) (a : Option Addr) (n c : Nat) (w : World) (hR : ArgR w o a n c) (hk : o.kind = 1) (h1 : bitsB o.born = true) (h2 : bitsB o.stay = true) (h3 : noLineB o = false) :
    Calls Tryd.prog 19 #[o.val (.slice a n c)] w fun e w' => e = .returned (.bool false) ∧ Below w.heap.size w w' := by
  have k1 : (o.kind == 1) = true := by simp; omega
  clear hk
  unfold Out.val
  go_enter Tryd.func19, Tryd.ntmps19
  go_wp2_with fail
  refine (isBits_any o.born _).mono ?_
  rw [h1]
  rintro e w1 ⟨rfl, rfl⟩
  go_wp2_with fail
  refine (isBits_any o.stay _).mono ?_
  rw [h2]
  rintro e w1 ⟨rfl, rfl⟩
  go_wp2_with fail
  refine (hasNoLine_agg o a n c _ hR.len hR.max).mono ?_
  rw [h3]
  rintro e w1 ⟨rfl, b1⟩
  have B1 := hide' b1
  clear b1
  go_wp2
  go_ret
  exact ⟨rfl, ((Below.refl _ _).alloc (Nat.le_refl _) _).trans (B1.out.mono (by simp))⟩

set_option maxHeartbeats 1600000 in
theorem isRule_1dt (o : Out) (a : Option Addr) (n c : Nat) (w : World) (hR : ArgR w o a n c) (hk : o.kind = 1) (h1 : bitsB o.born = true) (h2 : bitsB o.stay = true) (h3 : noLineB o = true) (h4 : o.turns.toList.isEmpty = true) :
    Calls Tryd.prog 19 #[o.val (.slice a n c)] w fun e w' => e = .returned (.bool true) ∧ Below w.heap.size w w' := by
  have k1 : (o.kind == 1) = true := by simp; omega
  clear hk
  unfold Out.val
  go_enter Tryd.func19, Tryd.ntmps19
  go_wp2_with fail
  refine (isBits_any o.born _).mono ?_
  rw [h1]
  rintro e w1 ⟨rfl, rfl⟩
  go_wp2_with fail
  refine (isBits_any o.stay _).mono ?_
  rw [h2]
  rintro e w1 ⟨rfl, rfl⟩
  go_wp2_with fail
  refine (hasNoLine_agg o a n c _ hR.len hR.max).mono ?_
  rw [h3]
  rintro e w1 ⟨rfl, b1⟩
  have B1 := hide' b1
  have x0 := b1.cell (p := ⟨w.heap.size, 0, none⟩) (by simp)
  have x1 := b1.cell (p := ⟨w.heap.size, 1, none⟩) (by simp)
  have x2 := b1.cell (p := ⟨w.heap.size, 2, none⟩) (by simp)
  have x3 := b1.cell (p := ⟨w.heap.size, 3, none⟩) (by simp)
  have x4 := b1.cell (p := ⟨w.heap.size, 4, none⟩) (by simp)
  have x5 := b1.cell (p := ⟨w.heap.size, 5, none⟩) (by simp)
  have x6 := b1.cell (p := ⟨w.heap.size, 6, none⟩) (by simp)
  simp at x0 x1 x2 x3 x4 x5 x6
  clear b1
  go_wp2
  go_ret
  exact ⟨rfl, ((Below.refl _ _).alloc (Nat.le_refl _) _).trans (B1.out.mono (by simp))⟩

set_option maxHeartbeats 1600000 in
theorem isRule_1df (o : Out) (a : Option Addr) (n c : Nat) (w : World) (hR : ArgR w o a n c) (hk : o.kind = 1) (h1 : bitsB o.born = true) (h2 : bitsB o.stay = true) (h3 : noLineB o = true) (h4 : o.turns.toList.isEmpty = false) :
    Calls Tryd.prog 19 #[o.val (.slice a n c)] w fun e w' => e = .returned (.bool false) ∧ Below w.heap.size w w' := by
  have k1 : (o.kind == 1) = true := by simp; omega
  clear hk
  unfold Out.val
  go_enter Tryd.func19, Tryd.ntmps19
  go_wp2_with fail
  refine (isBits_any o.born _).mono ?_
  rw [h1]
  rintro e w1 ⟨rfl, rfl⟩
  go_wp2_with fail
  refine (isBits_any o.stay _).mono ?_
  rw [h2]
  rintro e w1 ⟨rfl, rfl⟩
  go_wp2_with fail
  refine (hasNoLine_agg o a n c _ hR.len hR.max).mono ?_
  rw [h3]
  rintro e w1 ⟨rfl, b1⟩
  have B1 := hide' b1
  have x0 := b1.cell (p := ⟨w.heap.size, 0, none⟩) (by simp)
  have x1 := b1.cell (p := ⟨w.heap.size, 1, none⟩) (by simp)
  have x2 := b1.cell (p := ⟨w.heap.size, 2, none⟩) (by simp)
  have x3 := b1.cell (p := ⟨w.heap.size, 3, none⟩) (by simp)
  have x4 := b1.cell (p := ⟨w.heap.size, 4, none⟩) (by simp)
  have x5 := b1.cell (p := ⟨w.heap.size, 5, none⟩) (by simp)
  have x6 := b1.cell (p := ⟨w.heap.size, 6, none⟩) (by simp)
  simp at x0 x1 x2 x3 x4 x5 x6
  clear b1
  go_wp2
  go_ret
  exact ⟨rfl, ((Below.refl _ _).alloc (Nat.le_refl _) _).trans (B1.out.mono (by simp))⟩

set_option maxHeartbeats 1600000 in
theorem isRule_2a (o : Out) (a : Option Addr) (n c : Nat) (w : World) (hR : ArgR w o a n c) (hk : o.kind = 2) (h : ¬ (2 ≤ o.states ∧ o.states ≤ 4 ∧ 0 ≤ o.radius)) :
    Calls Tryd.prog 19 #[o.val (.slice a n c)] w fun e w' => e = .returned (.bool false) ∧ Below w.heap.size w w' := by
  have k1 : (o.kind == 1) = false := by simp; omega
  have k2 : (o.kind == 2) = true := by simp; omega
  clear hk
  unfold Out.val
  go_enter Tryd.func19, Tryd.ntmps19
  go_wp2_with fail
  refine (isLine_off_agg o a n c _ h).mono ?_
  rintro e w1 ⟨rfl, b1⟩
  have B1 := hide' b1
  clear b1
  go_wp2
  go_ret
  exact ⟨rfl, ((Below.refl _ _).alloc (Nat.le_refl _) _).trans (B1.out.mono (by simp))⟩

set_option maxHeartbeats 1600000 in
theorem isRule_2b (o : Out) (a : Option Addr) (n c : Nat) (w : World) (hR : ArgR w o a n c) (hk : o.kind = 2) (h : 2 ≤ o.states ∧ o.states ≤ 4 ∧ 0 ≤ o.radius) (hl : ¬ lineP o) :
    Calls Tryd.prog 19 #[o.val (.slice a n c)] w fun e w' => e = .returned (.bool false) ∧ Below w.heap.size w w' := by
  have k1 : (o.kind == 1) = false := by simp; omega
  have k2 : (o.kind == 2) = true := by simp; omega
  clear hk
  unfold Out.val
  go_enter Tryd.func19, Tryd.ntmps19
  go_wp2_with fail
  refine (isLine_on_agg o a n c _ (hR.alloc _) h.1 h.2.1 h.2.2).mono ?_
  rintro e w1 ⟨he, b1⟩
  rcases he with ⟨rfl, p⟩ | ⟨rfl, p⟩
  · exact absurd p hl
  have B1 := hide' b1
  clear b1 p
  go_wp2
  go_ret
  exact ⟨rfl, ((Below.refl _ _).alloc (Nat.le_refl _) _).trans (B1.out.mono (by simp))⟩

set_option maxHeartbeats 1600000 in
theorem isRule_2c (o : Out) (a : Option Addr) (n c : Nat) (w : World) (hR : ArgR w o a n c) (hk : o.kind = 2) (h : 2 ≤ o.states ∧ o.states ≤ 4 ∧ 0 ≤ o.radius) (hl : lineP o) (h3 : noLifeB o = false) :
    Calls Tryd.prog 19 #[o.val (.slice a n c)] w fun e w' => e = .returned (.bool false) ∧ Below w.heap.size w w' := by
  have k1 : (o.kind == 1) = false := by simp; omega
  have k2 : (o.kind == 2) = true := by simp; omega
  clear hk
  unfold Out.val
  go_enter Tryd.func19, Tryd.ntmps19
  go_wp2_with fail
  refine (isLine_on_agg o a n c _ (hR.alloc _) h.1 h.2.1 h.2.2).mono ?_
  rintro e w1 ⟨he, b1⟩
  rcases he with ⟨rfl, p⟩ | ⟨rfl, p⟩
  case inr => exact absurd hl p
  have B1 := hide' b1
  have x0 := b1.cell (p := ⟨w.heap.size, 0, none⟩) (by simp)
  have x1 := b1.cell (p := ⟨w.heap.size, 1, none⟩) (by simp)
  have x2 := b1.cell (p := ⟨w.heap.size, 2, none⟩) (by simp)
  have x3 := b1.cell (p := ⟨w.heap.size, 3, none⟩) (by simp)
  have x4 := b1.cell (p := ⟨w.heap.size, 4, none⟩) (by simp)
  have x5 := b1.cell (p := ⟨w.heap.size, 5, none⟩) (by simp)
  have x6 := b1.cell (p := ⟨w.heap.size, 6, none⟩) (by simp)
  simp at x0 x1 x2 x3 x4 x5 x6
  clear b1 p
  go_wp2_with fail
  refine (hasNoLife_agg o a n c _).mono ?_
  rw [h3]
  rintro e w2 ⟨rfl, b2⟩
  have B2 := hide' b2
  clear b2
  go_wp2
  go_ret
  have s1 := B1.out.size
  simp at s1
  exact ⟨rfl, (((Below.refl _ _).alloc (Nat.le_refl _) _).trans (B1.out.mono (by simp))).trans (B2.out.mono (by omega))⟩

set_option maxHeartbeats 1600000 in
theorem isRule_2dt (o : Out) (a : Option Addr) (n c : Nat) (w : World) (hR : ArgR w o a n c) (hk : o.kind = 2) (h : 2 ≤ o.states ∧ o.states ≤ 4 ∧ 0 ≤ o.radius) (hl : lineP o) (h3 : noLifeB o = true) (h4 : o.turns.toList.isEmpty = true) :
    Calls Tryd.prog 19 #[o.val (.slice a n c)] w fun e w' => e = .returned (.bool true) ∧ Below w.heap.size w w' := by
  have k1 : (o.kind == 1) = false := by simp; omega
  have k2 : (o.kind == 2) = true := by simp; omega
  clear hk
  unfold Out.val
  go_enter Tryd.func19, Tryd.ntmps19
  go_wp2_with fail
  refine (isLine_on_agg o a n c _ (hR.alloc _) h.1 h.2.1 h.2.2).mono ?_
  rintro e w1 ⟨he, b1⟩
  rcases he with ⟨rfl, p⟩ | ⟨rfl, p⟩
  case inr => exact absurd hl p
  have B1 := hide' b1
  have x0 := b1.cell (p := ⟨w.heap.size, 0, none⟩) (by simp)
  have x1 := b1.cell (p := ⟨w.heap.size, 1, none⟩) (by simp)
  have x2 := b1.cell (p := ⟨w.heap.size, 2, none⟩) (by simp)
  have x3 := b1.cell (p := ⟨w.heap.size, 3, none⟩) (by simp)
  have x4 := b1.cell (p := ⟨w.heap.size, 4, none⟩) (by simp)
  have x5 := b1.cell (p := ⟨w.heap.size, 5, none⟩) (by simp)
  have x6 := b1.cell (p := ⟨w.heap.size, 6, none⟩) (by simp)
  simp at x0 x1 x2 x3 x4 x5 x6
  have sz := b1.size
  simp at sz
  clear b1 p
  go_wp2_with fail
  refine (hasNoLife_agg o a n c _).mono ?_
  rw [h3]
  rintro e w2 ⟨rfl, b2⟩
  have B2 := hide' b2
  have y0 := (b2.cell (p := ⟨w.heap.size, 0, none⟩) (by simp; omega)).trans x0
  have y1 := (b2.cell (p := ⟨w.heap.size, 1, none⟩) (by simp; omega)).trans x1
  have y2 := (b2.cell (p := ⟨w.heap.size, 2, none⟩) (by simp; omega)).trans x2
  have y3 := (b2.cell (p := ⟨w.heap.size, 3, none⟩) (by simp; omega)).trans x3
  have y4 := (b2.cell (p := ⟨w.heap.size, 4, none⟩) (by simp; omega)).trans x4
  have y5 := (b2.cell (p := ⟨w.heap.size, 5, none⟩) (by simp; omega)).trans x5
  have y6 := (b2.cell (p := ⟨w.heap.size, 6, none⟩) (by simp; omega)).trans x6
  clear b2 x0 x1 x2 x3 x4 x5 x6
  go_wp2
  go_ret
  have s1 := B1.out.size
  simp at s1
  exact ⟨rfl, (((Below.refl _ _).alloc (Nat.le_refl _) _).trans (B1.out.mono (by simp))).trans (B2.out.mono (by omega))⟩

set_option maxHeartbeats 1600000 in
theorem isRule_2df (o : Out) (a : Option Addr) (n c : Nat) (w : World) (hR : ArgR w o a n c) (hk : o.kind = 2) (h : 2 ≤ o.states ∧ o.states ≤ 4 ∧ 0 ≤ o.radius) (hl : lineP o) (h3 : noLifeB o = true) (h4 : o.turns.toList.isEmpty = false) :
    Calls Tryd.prog 19 #[o.val (.slice a n c)] w fun e w' => e = .returned (.bool false) ∧ Below w.heap.size w w' := by
  have k1 : (o.kind == 1) = false := by simp; omega
  have k2 : (o.kind == 2) = true := by simp; omega
  clear hk
  unfold Out.val
  go_enter Tryd.func19, Tryd.ntmps19
  go_wp2_with fail
  refine (isLine_on_agg o a n c _ (hR.alloc _) h.1 h.2.1 h.2.2).mono ?_
  rintro e w1 ⟨he, b1⟩
  rcases he with ⟨rfl, p⟩ | ⟨rfl, p⟩
  case inr => exact absurd hl p
  have B1 := hide' b1
  have x0 := b1.cell (p := ⟨w.heap.size, 0, none⟩) (by simp)
  have x1 := b1.cell (p := ⟨w.heap.size, 1, none⟩) (by simp)
  have x2 := b1.cell (p := ⟨w.heap.size, 2, none⟩) (by simp)
  have x3 := b1.cell (p := ⟨w.heap.size, 3, none⟩) (by simp)
  have x4 := b1.cell (p := ⟨w.heap.size, 4, none⟩) (by simp)
  have x5 := b1.cell (p := ⟨w.heap.size, 5, none⟩) (by simp)
  have x6 := b1.cell (p := ⟨w.heap.size, 6, none⟩) (by simp)
  simp at x0 x1 x2 x3 x4 x5 x6
  have sz := b1.size
  simp at sz
  clear b1 p
  go_wp2_with fail
  refine (hasNoLife_agg o a n c _).mono ?_
  rw [h3]
  rintro e w2 ⟨rfl, b2⟩
  have B2 := hide' b2
  have y0 := (b2.cell (p := ⟨w.heap.size, 0, none⟩) (by simp; omega)).trans x0
  have y1 := (b2.cell (p := ⟨w.heap.size, 1, none⟩) (by simp; omega)).trans x1
  have y2 := (b2.cell (p := ⟨w.heap.size, 2, none⟩) (by simp; omega)).trans x2
  have y3 := (b2.cell (p := ⟨w.heap.size, 3, none⟩) (by simp; omega)).trans x3
  have y4 := (b2.cell (p := ⟨w.heap.size, 4, none⟩) (by simp; omega)).trans x4
  have y5 := (b2.cell (p := ⟨w.heap.size, 5, none⟩) (by simp; omega)).trans x5
  have y6 := (b2.cell (p := ⟨w.heap.size, 6, none⟩) (by simp; omega)).trans x6
  clear b2 x0 x1 x2 x3 x4 x5 x6
  go_wp2
  go_ret
  have s1 := B1.out.size
  simp at s1
  exact ⟨rfl, (((Below.refl _ _).alloc (Nat.le_refl _) _).trans (B1.out.mono (by simp))).trans (B2.out.mono (by omega))⟩

set_option maxHeartbeats 1600000 in
theorem isRule_3a (o : Out) (a : Option Addr) (n c : Nat) (w : World) (hR : ArgR w o a n c) (hk : o.kind = 3) (ht : ¬ turnsP o.turns) :
    Calls Tryd.prog 19 #[o.val (.slice a n c)] w fun e w' => e = .returned (.bool false) ∧ Below w.heap.size w w' := by
  have k1 : (o.kind == 1) = false := by simp; omega
  have k2 : (o.kind == 2) = false := by simp; omega
  have k3 : (o.kind == 3) = true := by simp; omega
  clear hk
  unfold Out.val
  go_enter Tryd.func19, Tryd.ntmps19
  go_wp2_with fail
  refine (isTurns_any o.turns _ hR.tmax).mono ?_
  rintro e w1 ⟨he, rfl⟩
  rcases he with ⟨rfl, p⟩ | ⟨rfl, p⟩
  · exact absurd p ht
  go_wp2
  go_ret
  exact ⟨rfl, (Below.refl _ _).alloc (Nat.le_refl _) _⟩

set_option maxHeartbeats 1600000 in
theorem isRule_3b (o : Out) (a : Option Addr) (n c : Nat) (w : World) (hR : ArgR w o a n c) (hk : o.kind = 3) (ht : turnsP o.turns) (h3 : noLifeB o = false) :
    Calls Tryd.prog 19 #[o.val (.slice a n c)] w fun e w' => e = .returned (.bool false) ∧ Below w.heap.size w w' := by
  have k1 : (o.kind == 1) = false := by simp; omega
  have k2 : (o.kind == 2) = false := by simp; omega
  have k3 : (o.kind == 3) = true := by simp; omega
  clear hk
  unfold Out.val
  go_enter Tryd.func19, Tryd.ntmps19
  go_wp2_with fail
  refine (isTurns_any o.turns _ hR.tmax).mono ?_
  rintro e w1 ⟨he, rfl⟩
  rcases he with ⟨rfl, p⟩ | ⟨rfl, p⟩
  case inr => exact absurd ht p
  go_wp2_with fail
  refine (hasNoLife_agg o a n c _).mono ?_
  rw [h3]
  rintro e w1 ⟨rfl, b1⟩
  have B1 := hide' b1
  clear b1
  go_wp2
  go_ret
  exact ⟨rfl, ((Below.refl _ _).alloc (Nat.le_refl _) _).trans (B1.out.mono (by simp))⟩

set_option maxHeartbeats 1600000 in
theorem isRule_3ct (o : Out) (a : Option Addr) (n c : Nat) (w : World) (hR : ArgR w o a n c) (hk : o.kind = 3) (ht : turnsP o.turns) (h3 : noLifeB o = true) (h4 : noLineB o = true) :
    Calls Tryd.prog 19 #[o.val (.slice a n c)] w fun e w' => e = .returned (.bool true) ∧ Below w.heap.size w w' := by
  have k1 : (o.kind == 1) = false := by simp; omega
  have k2 : (o.kind == 2) = false := by simp; omega
  have k3 : (o.kind == 3) = true := by simp; omega
  clear hk
  unfold Out.val
  go_enter Tryd.func19, Tryd.ntmps19
  go_wp2_with fail
  refine (isTurns_any o.turns _ hR.tmax).mono ?_
  rintro e w1 ⟨he, rfl⟩
  rcases he with ⟨rfl, p⟩ | ⟨rfl, p⟩
  case inr => exact absurd ht p
  go_wp2_with fail
  refine (hasNoLife_agg o a n c _).mono ?_
  rw [h3]
  rintro e w1 ⟨rfl, b1⟩
  have B1 := hide' b1
  have x0 := b1.cell (p := ⟨w.heap.size, 0, none⟩) (by simp)
  have x1 := b1.cell (p := ⟨w.heap.size, 1, none⟩) (by simp)
  have x2 := b1.cell (p := ⟨w.heap.size, 2, none⟩) (by simp)
  have x3 := b1.cell (p := ⟨w.heap.size, 3, none⟩) (by simp)
  have x4 := b1.cell (p := ⟨w.heap.size, 4, none⟩) (by simp)
  have x5 := b1.cell (p := ⟨w.heap.size, 5, none⟩) (by simp)
  have x6 := b1.cell (p := ⟨w.heap.size, 6, none⟩) (by simp)
  simp at x0 x1 x2 x3 x4 x5 x6
  clear b1
  go_wp2_with fail
  refine (hasNoLine_agg o a n c _ hR.len hR.max).mono ?_
  rw [h4]
  rintro e w2 ⟨rfl, b2⟩
  have B2 := hide' b2
  clear b2
  go_wp2
  go_ret
  have s1 := B1.out.size
  simp at s1
  exact ⟨rfl, (((Below.refl _ _).alloc (Nat.le_refl _) _).trans (B1.out.mono (by simp))).trans (B2.out.mono (by omega))⟩

set_option maxHeartbeats 1600000 in
theorem isRule_3cf (o : Out) (a : Option Addr) (n c : Nat) (w : World) (hR : ArgR w o a n c) (hk : o.kind = 3) (ht : turnsP o.turns) (h3 : noLifeB o = true) (h4 : noLineB o = false) :
    Calls Tryd.prog 19 #[o.val (.slice a n c)] w fun e w' => e = .returned (.bool false) ∧ Below w.heap.size w w' := by
  have k1 : (o.kind == 1) = false := by simp; omega
  have k2 : (o.kind == 2) = false := by simp; omega
  have k3 : (o.kind == 3) = true := by simp; omega
  clear hk
  unfold Out.val
  go_enter Tryd.func19, Tryd.ntmps19
  go_wp2_with fail
  refine (isTurns_any o.turns _ hR.tmax).mono ?_
  rintro e w1 ⟨he, rfl⟩
  rcases he with ⟨rfl, p⟩ | ⟨rfl, p⟩
  case inr => exact absurd ht p
  go_wp2_with fail
  refine (hasNoLife_agg o a n c _).mono ?_
  rw [h3]
  rintro e w1 ⟨rfl, b1⟩
  have B1 := hide' b1
  have x0 := b1.cell (p := ⟨w.heap.size, 0, none⟩) (by simp)
  have x1 := b1.cell (p := ⟨w.heap.size, 1, none⟩) (by simp)
  have x2 := b1.cell (p := ⟨w.heap.size, 2, none⟩) (by simp)
  have x3 := b1.cell (p := ⟨w.heap.size, 3, none⟩) (by simp)
  have x4 := b1.cell (p := ⟨w.heap.size, 4, none⟩) (by simp)
  have x5 := b1.cell (p := ⟨w.heap.size, 5, none⟩) (by simp)
  have x6 := b1.cell (p := ⟨w.heap.size, 6, none⟩) (by simp)
  simp at x0 x1 x2 x3 x4 x5 x6
  clear b1
  go_wp2_with fail
  refine (hasNoLine_agg o a n c _ hR.len hR.max).mono ?_
  rw [h4]
  rintro e w2 ⟨rfl, b2⟩
  have B2 := hide' b2
  clear b2
  go_wp2
  go_ret
  have s1 := B1.out.size
  simp at s1
  exact ⟨rfl, (((Below.refl _ _).alloc (Nat.le_refl _) _).trans (B1.out.mono (by simp))).trans (B2.out.mono (by omega))⟩

set_option maxHeartbeats 1600000 in
theorem isRule_0 (o : Out) (a : Option Addr) (n c : Nat) (w : World) (hR : ArgR w o a n c) (n1 : ¬ o.kind = 1) (n2 : ¬ o.kind = 2) (n3 : ¬ o.kind = 3) :
    Calls Tryd.prog 19 #[o.val (.slice a n c)] w fun e w' => e = .returned (.bool false) ∧ Below w.heap.size w w' := by
  have k1 : (o.kind == 1) = false := by simp; omega
  have k2 : (o.kind == 2) = false := by simp; omega
  have k3 : (o.kind == 3) = false := by simp; omega
  unfold Out.val
  go_enter Tryd.func19, Tryd.ntmps19
  go_wp2
  go_ret
  exact ⟨rfl, (Below.refl _ _).alloc (Nat.le_refl _) _⟩


/-- isRule says what a rule is. -/
theorem isRule_any (o : Out) (a : Option Addr) (n c : Nat) (w : World) (hR : ArgR w o a n c) :
    Calls Tryd.prog 19 #[.agg #[.int .i64 o.kind, .int .i64 o.born, .int .i64 o.stay, .int .i64 o.states, .int .i64 o.radius, .slice a n c, .string o.turns]] w fun e w' => (e = .returned (.bool true) ∧ Good o ∨ e = .returned (.bool false) ∧ ¬ Good o) ∧ Below w.heap.size w w' := by
  have yes : Good o → Calls Tryd.prog 19 #[o.val (.slice a n c)] w (fun e w' => e = .returned (.bool true) ∧ Below w.heap.size w w') →
      Calls Tryd.prog 19 #[o.val (.slice a n c)] w fun e w' => (e = .returned (.bool true) ∧ Good o ∨ e = .returned (.bool false) ∧ ¬ Good o) ∧ Below w.heap.size w w' := fun g h => h.mono fun e w' q => ⟨Or.inl ⟨q.1, g⟩, q.2⟩
  have no : ¬ Good o → Calls Tryd.prog 19 #[o.val (.slice a n c)] w (fun e w' => e = .returned (.bool false) ∧ Below w.heap.size w w') →
      Calls Tryd.prog 19 #[o.val (.slice a n c)] w fun e w' => (e = .returned (.bool true) ∧ Good o ∨ e = .returned (.bool false) ∧ ¬ Good o) ∧ Below w.heap.size w w' := fun g h => h.mono fun e w' q => ⟨Or.inr ⟨q.1, g⟩, q.2⟩
  show Calls Tryd.prog 19 #[o.val (.slice a n c)] w _
  by_cases k1 : o.kind = 1
  · cases h1 : bitsB o.born with
    | false => exact no (fun g => by rcases g with g | g | g <;> simp_all) (isRule_1a o a n c w hR k1 h1)
    | true =>
    cases h2 : bitsB o.stay with
    | false => exact no (fun g => by rcases g with g | g | g <;> simp_all) (isRule_1b o a n c w hR k1 h1 h2)
    | true =>
    cases h3 : noLineB o with
    | false => exact no (fun g => by rcases g with g | g | g <;> simp_all) (isRule_1c o a n c w hR k1 h1 h2 h3)
    | true =>
    cases h4 : o.turns.toList.isEmpty with
    | false => exact no (fun g => by rcases g with g | g | g <;> simp_all) (isRule_1df o a n c w hR k1 h1 h2 h3 h4)
    | true => exact yes (Or.inl ⟨k1, h1, h2, h3, h4⟩) (isRule_1dt o a n c w hR k1 h1 h2 h3 h4)
  by_cases k2 : o.kind = 2
  · by_cases h : 2 ≤ o.states ∧ o.states ≤ 4 ∧ 0 ≤ o.radius
    · by_cases hl : lineP o
      · cases h3 : noLifeB o with
        | false => exact no (fun g => by rcases g with g | g | g <;> simp_all) (isRule_2c o a n c w hR k2 h hl h3)
        | true =>
        cases h4 : o.turns.toList.isEmpty with
        | false => exact no (fun g => by rcases g with g | g | g <;> simp_all) (isRule_2df o a n c w hR k2 h hl h3 h4)
        | true => exact yes (Or.inr (Or.inl ⟨k2, hl, h3, h4⟩)) (isRule_2dt o a n c w hR k2 h hl h3 h4)
      · exact no (fun g => by rcases g with g | g | g <;> simp_all) (isRule_2b o a n c w hR k2 h hl)
    · exact no (fun g => by
        rcases g with g | g | g
        · exact k1 g.1
        · exact h ⟨g.2.1.1, g.2.1.2.1, g.2.1.2.2.1⟩
        · have := g.1; omega) (isRule_2a o a n c w hR k2 h)
  by_cases k3 : o.kind = 3
  · by_cases ht : turnsP o.turns
    · cases h3 : noLifeB o with
      | false => exact no (fun g => by rcases g with g | g | g <;> simp_all) (isRule_3b o a n c w hR k3 ht h3)
      | true =>
      cases h4 : noLineB o with
      | false => exact no (fun g => by rcases g with g | g | g <;> simp_all) (isRule_3cf o a n c w hR k3 ht h3 h4)
      | true => exact yes (Or.inr (Or.inr ⟨k3, ht, h3, h4⟩)) (isRule_3ct o a n c w hR k3 ht h3 h4)
    · exact no (fun g => by rcases g with g | g | g <;> simp_all) (isRule_3a o a n c w hR k3 ht)
  exact no (fun g => by rcases g with g | g | g <;> simp_all) (isRule_0 o a n c w hR k1 k2 k3)

/-- Check: nil where it is a rule, else ErrRange. -/
theorem Check_any (o : Out) (a : Option Addr) (n c : Nat) (w : World) (hR : ArgR w o a n c) :
    Calls Tryd.prog 10 #[.agg #[.int .i64 o.kind, .int .i64 o.born, .int .i64 o.stay, .int .i64 o.states, .int .i64 o.radius, .slice a n c, .string o.turns]] w fun e w' => (e = .returned .nilIface ∧ Good o ∨ e = .returned (.iface 40 (.int .i64 1)) ∧ ¬ Good o) ∧ Below w.heap.size w w' := by
  go_enter Tryd.func10, Tryd.ntmps10
  go_wp2_with fail
  refine (isRule_any o a n c _ (hR.alloc _)).mono ?_
  rintro e w1 ⟨he, b1⟩
  have B1 := hide' b1
  clear b1
  rcases he with ⟨rfl, g⟩ | ⟨rfl, g⟩
  · go_wp2
    go_ret
    exact ⟨Or.inl ⟨rfl, g⟩, ((Below.refl _ _).alloc (Nat.le_refl _) _).trans (B1.out.mono (by simp))⟩
  · go_wp2
    go_ret
    exact ⟨Or.inr ⟨rfl, g⟩, ((Below.refl _ _).alloc (Nat.le_refl _) _).trans (B1.out.mono (by simp))⟩
end Go.Proofs.YtelocgefaommmaaDoor

