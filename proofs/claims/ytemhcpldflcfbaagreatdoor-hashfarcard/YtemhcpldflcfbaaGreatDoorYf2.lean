/-
  What the last text of this claim leans on, part 2: Pr2, Pr3, Pr4, Ref3, Rk5, Rk6, Parse, Ref4, Pr5, Gp1.
-/
import Derived.Test.YtemhcpldflcfbaaGreatDoorYf1
import Derived.Defers
import Derived.Recover
import Derived.Laws.IdiomStrings
import Derived.Laws.BytesArg
namespace Go.Proofs.YtemhcpldflcfbaaGreatDoor
open Go.RowKit
set_option linter.unusedVariables false
def Good (o : Out) : Prop :=
 (o.kind = 1 ∧ bitsB o.born = true ∧ bitsB o.stay = true ∧ noLineB o = true ∧ o.turns.toList.isEmpty = true) ∨
 (o.kind = 2 ∧ lineP o ∧ noLifeB o = true ∧ o.turns.toList.isEmpty = true) ∨
 (o.kind = 3 ∧ turnsP o.turns ∧ noLifeB o = true ∧ noLineB o = true)
set_option maxHeartbeats 1600000 in
theorem isRule_1a (o : Out) (a : Option Addr) (n c : Nat) (w : World) (hR : ArgR w o a n c) (hk : o.kind = 1) (h1 : bitsB o.born = false) :
  Calls Tryz.prog 45 #[o.val (.slice a n c)] w fun e w' => e = .returned (.bool false) ∧ Below w.heap.size w w' := by
 have k1 : (o.kind == 1) = true := by simp; omega
 clear hk
 unfold Out.val
 go_enter Tryz.func45, Tryz.ntmps45
 go_wp2_with fail
 refine (isBits_any o.born _).mono ?_
 rw [h1]
 rintro e w1 ⟨rfl, rfl⟩
 go_wp2
 go_ret
 exact ⟨rfl, (Below.refl _ _).alloc (Nat.le_refl _) _⟩
set_option maxHeartbeats 1600000 in
theorem isRule_1b (o : Out) (a : Option Addr) (n c : Nat) (w : World) (hR : ArgR w o a n c) (hk : o.kind = 1) (h1 : bitsB o.born = true) (h2 : bitsB o.stay = false) :
  Calls Tryz.prog 45 #[o.val (.slice a n c)] w fun e w' => e = .returned (.bool false) ∧ Below w.heap.size w w' := by
 have k1 : (o.kind == 1) = true := by simp; omega
 clear hk
 unfold Out.val
 go_enter Tryz.func45, Tryz.ntmps45
 go_wp2_with fail
 refine (isBits_any o.born _).mono ?_
 rw [h1]
 rintro e w1 ⟨rfl, rfl⟩
 go_wp2_with fail
 refine (isBits_any o.stay _).mono ?_
 rw [h2]
 rintro e w1 ⟨rfl, rfl⟩
 go_wp2
 go_ret
 exact ⟨rfl, (Below.refl _ _).alloc (Nat.le_refl _) _⟩
set_option maxHeartbeats 1600000 in
theorem isRule_1c (o : Out) (a : Option Addr) (n c : Nat) (w : World) (hR : ArgR w o a n c) (hk : o.kind = 1) (h1 : bitsB o.born = true) (h2 : bitsB o.stay = true) (h3 : noLineB o = false) :
  Calls Tryz.prog 45 #[o.val (.slice a n c)] w fun e w' => e = .returned (.bool false) ∧ Below w.heap.size w w' := by
 have k1 : (o.kind == 1) = true := by simp; omega
 clear hk
 unfold Out.val
 go_enter Tryz.func45, Tryz.ntmps45
 go_wp2_with fail
 refine (isBits_any o.born _).mono ?_
 rw [h1]
 rintro e w1 ⟨rfl, rfl⟩
 go_wp2_with fail
 refine (isBits_any o.stay _).mono ?_
 rw [h2]
 rintro e w1 ⟨rfl, rfl⟩
 go_wp2_with fail
 refine (hasNoLine_agg o a n c _ hR.len hR.max).mono ?_
 rw [h3]
 rintro e w1 ⟨rfl, b1⟩
 have B1 := hide' b1
 clear b1
 go_wp2
 go_ret
 exact ⟨rfl, ((Below.refl _ _).alloc (Nat.le_refl _) _).trans (B1.out.mono (by simp))⟩
set_option maxHeartbeats 1600000 in
theorem isRule_1dt (o : Out) (a : Option Addr) (n c : Nat) (w : World) (hR : ArgR w o a n c) (hk : o.kind = 1) (h1 : bitsB o.born = true) (h2 : bitsB o.stay = true) (h3 : noLineB o = true) (h4 : o.turns.toList.isEmpty = true) :
  Calls Tryz.prog 45 #[o.val (.slice a n c)] w fun e w' => e = .returned (.bool true) ∧ Below w.heap.size w w' := by
 have k1 : (o.kind == 1) = true := by simp; omega
 clear hk
 unfold Out.val
 go_enter Tryz.func45, Tryz.ntmps45
 go_wp2_with fail
 refine (isBits_any o.born _).mono ?_
 rw [h1]
 rintro e w1 ⟨rfl, rfl⟩
 go_wp2_with fail
 refine (isBits_any o.stay _).mono ?_
 rw [h2]
 rintro e w1 ⟨rfl, rfl⟩
 go_wp2_with fail
 refine (hasNoLine_agg o a n c _ hR.len hR.max).mono ?_
 rw [h3]
 rintro e w1 ⟨rfl, b1⟩
 have B1 := hide' b1
 have x0 := b1.cell (p := ⟨w.heap.size, 0, none⟩) (by simp)
 have x1 := b1.cell (p := ⟨w.heap.size, 1, none⟩) (by simp)
 have x2 := b1.cell (p := ⟨w.heap.size, 2, none⟩) (by simp)
 have x3 := b1.cell (p := ⟨w.heap.size, 3, none⟩) (by simp)
 have x4 := b1.cell (p := ⟨w.heap.size, 4, none⟩) (by simp)
 have x5 := b1.cell (p := ⟨w.heap.size, 5, none⟩) (by simp)
 have x6 := b1.cell (p := ⟨w.heap.size, 6, none⟩) (by simp)
 simp at x0 x1 x2 x3 x4 x5 x6
 clear b1
 go_wp2
 go_ret
 exact ⟨rfl, ((Below.refl _ _).alloc (Nat.le_refl _) _).trans (B1.out.mono (by simp))⟩
set_option maxHeartbeats 1600000 in
theorem isRule_1df (o : Out) (a : Option Addr) (n c : Nat) (w : World) (hR : ArgR w o a n c) (hk : o.kind = 1) (h1 : bitsB o.born = true) (h2 : bitsB o.stay = true) (h3 : noLineB o = true) (h4 : o.turns.toList.isEmpty = false) :
  Calls Tryz.prog 45 #[o.val (.slice a n c)] w fun e w' => e = .returned (.bool false) ∧ Below w.heap.size w w' := by
 have k1 : (o.kind == 1) = true := by simp; omega
 clear hk
 unfold Out.val
 go_enter Tryz.func45, Tryz.ntmps45
 go_wp2_with fail
 refine (isBits_any o.born _).mono ?_
 rw [h1]
 rintro e w1 ⟨rfl, rfl⟩
 go_wp2_with fail
 refine (isBits_any o.stay _).mono ?_
 rw [h2]
 rintro e w1 ⟨rfl, rfl⟩
 go_wp2_with fail
 refine (hasNoLine_agg o a n c _ hR.len hR.max).mono ?_
 rw [h3]
 rintro e w1 ⟨rfl, b1⟩
 have B1 := hide' b1
 have x0 := b1.cell (p := ⟨w.heap.size, 0, none⟩) (by simp)
 have x1 := b1.cell (p := ⟨w.heap.size, 1, none⟩) (by simp)
 have x2 := b1.cell (p := ⟨w.heap.size, 2, none⟩) (by simp)
 have x3 := b1.cell (p := ⟨w.heap.size, 3, none⟩) (by simp)
 have x4 := b1.cell (p := ⟨w.heap.size, 4, none⟩) (by simp)
 have x5 := b1.cell (p := ⟨w.heap.size, 5, none⟩) (by simp)
 have x6 := b1.cell (p := ⟨w.heap.size, 6, none⟩) (by simp)
 simp at x0 x1 x2 x3 x4 x5 x6
 clear b1
 go_wp2
 go_ret
 exact ⟨rfl, ((Below.refl _ _).alloc (Nat.le_refl _) _).trans (B1.out.mono (by simp))⟩
set_option maxHeartbeats 1600000 in
theorem isRule_2a (o : Out) (a : Option Addr) (n c : Nat) (w : World) (hR : ArgR w o a n c) (hk : o.kind = 2) (h : ¬ (2 ≤ o.states ∧ o.states ≤ 4 ∧ 0 ≤ o.radius)) :
  Calls Tryz.prog 45 #[o.val (.slice a n c)] w fun e w' => e = .returned (.bool false) ∧ Below w.heap.size w w' := by
 have k1 : (o.kind == 1) = false := by simp; omega
 have k2 : (o.kind == 2) = true := by simp; omega
 clear hk
 unfold Out.val
 go_enter Tryz.func45, Tryz.ntmps45
 go_wp2_with fail
 refine (isLine_off_agg o a n c _ h).mono ?_
 rintro e w1 ⟨rfl, b1⟩
 have B1 := hide' b1
 clear b1
 go_wp2
 go_ret
 exact ⟨rfl, ((Below.refl _ _).alloc (Nat.le_refl _) _).trans (B1.out.mono (by simp))⟩
set_option maxHeartbeats 1600000 in
theorem isRule_2b (o : Out) (a : Option Addr) (n c : Nat) (w : World) (hR : ArgR w o a n c) (hk : o.kind = 2) (h : 2 ≤ o.states ∧ o.states ≤ 4 ∧ 0 ≤ o.radius) (hl : ¬ lineP o) :
  Calls Tryz.prog 45 #[o.val (.slice a n c)] w fun e w' => e = .returned (.bool false) ∧ Below w.heap.size w w' := by
 have k1 : (o.kind == 1) = false := by simp; omega
 have k2 : (o.kind == 2) = true := by simp; omega
 clear hk
 unfold Out.val
 go_enter Tryz.func45, Tryz.ntmps45
 go_wp2_with fail
 refine (isLine_on_agg o a n c _ (hR.alloc _) h.1 h.2.1 h.2.2).mono ?_
 rintro e w1 ⟨he, b1⟩
 rcases he with ⟨rfl, p⟩ | ⟨rfl, p⟩
 ·exact absurd p hl
 have B1 := hide' b1
 clear b1 p
 go_wp2
 go_ret
 exact ⟨rfl, ((Below.refl _ _).alloc (Nat.le_refl _) _).trans (B1.out.mono (by simp))⟩
set_option maxHeartbeats 1600000 in
theorem isRule_2c (o : Out) (a : Option Addr) (n c : Nat) (w : World) (hR : ArgR w o a n c) (hk : o.kind = 2) (h : 2 ≤ o.states ∧ o.states ≤ 4 ∧ 0 ≤ o.radius) (hl : lineP o) (h3 : noLifeB o = false) :
  Calls Tryz.prog 45 #[o.val (.slice a n c)] w fun e w' => e = .returned (.bool false) ∧ Below w.heap.size w w' := by
 have k1 : (o.kind == 1) = false := by simp; omega
 have k2 : (o.kind == 2) = true := by simp; omega
 clear hk
 unfold Out.val
 go_enter Tryz.func45, Tryz.ntmps45
 go_wp2_with fail
 refine (isLine_on_agg o a n c _ (hR.alloc _) h.1 h.2.1 h.2.2).mono ?_
 rintro e w1 ⟨he, b1⟩
 rcases he with ⟨rfl, p⟩ | ⟨rfl, p⟩
 case inr => exact absurd hl p
 have B1 := hide' b1
 have x0 := b1.cell (p := ⟨w.heap.size, 0, none⟩) (by simp)
 have x1 := b1.cell (p := ⟨w.heap.size, 1, none⟩) (by simp)
 have x2 := b1.cell (p := ⟨w.heap.size, 2, none⟩) (by simp)
 have x3 := b1.cell (p := ⟨w.heap.size, 3, none⟩) (by simp)
 have x4 := b1.cell (p := ⟨w.heap.size, 4, none⟩) (by simp)
 have x5 := b1.cell (p := ⟨w.heap.size, 5, none⟩) (by simp)
 have x6 := b1.cell (p := ⟨w.heap.size, 6, none⟩) (by simp)
 simp at x0 x1 x2 x3 x4 x5 x6
 clear b1 p
 go_wp2_with fail
 refine (hasNoLife_agg o a n c _).mono ?_
 rw [h3]
 rintro e w2 ⟨rfl, b2⟩
 have B2 := hide' b2
 clear b2
 go_wp2
 go_ret
 have s1 := B1.out.size
 simp at s1
 exact ⟨rfl, (((Below.refl _ _).alloc (Nat.le_refl _) _).trans (B1.out.mono (by simp))).trans (B2.out.mono (by omega))⟩
set_option maxHeartbeats 1600000 in
theorem isRule_2dt (o : Out) (a : Option Addr) (n c : Nat) (w : World) (hR : ArgR w o a n c) (hk : o.kind = 2) (h : 2 ≤ o.states ∧ o.states ≤ 4 ∧ 0 ≤ o.radius) (hl : lineP o) (h3 : noLifeB o = true) (h4 : o.turns.toList.isEmpty = true) :
  Calls Tryz.prog 45 #[o.val (.slice a n c)] w fun e w' => e = .returned (.bool true) ∧ Below w.heap.size w w' := by
 have k1 : (o.kind == 1) = false := by simp; omega
 have k2 : (o.kind == 2) = true := by simp; omega
 clear hk
 unfold Out.val
 go_enter Tryz.func45, Tryz.ntmps45
 go_wp2_with fail
 refine (isLine_on_agg o a n c _ (hR.alloc _) h.1 h.2.1 h.2.2).mono ?_
 rintro e w1 ⟨he, b1⟩
 rcases he with ⟨rfl, p⟩ | ⟨rfl, p⟩
 case inr => exact absurd hl p
 have B1 := hide' b1
 have x0 := b1.cell (p := ⟨w.heap.size, 0, none⟩) (by simp)
 have x1 := b1.cell (p := ⟨w.heap.size, 1, none⟩) (by simp)
 have x2 := b1.cell (p := ⟨w.heap.size, 2, none⟩) (by simp)
 have x3 := b1.cell (p := ⟨w.heap.size, 3, none⟩) (by simp)
 have x4 := b1.cell (p := ⟨w.heap.size, 4, none⟩) (by simp)
 have x5 := b1.cell (p := ⟨w.heap.size, 5, none⟩) (by simp)
 have x6 := b1.cell (p := ⟨w.heap.size, 6, none⟩) (by simp)
 simp at x0 x1 x2 x3 x4 x5 x6
 have sz := b1.size
 simp at sz
 clear b1 p
 go_wp2_with fail
 refine (hasNoLife_agg o a n c _).mono ?_
 rw [h3]
 rintro e w2 ⟨rfl, b2⟩
 have B2 := hide' b2
 have y0 := (b2.cell (p := ⟨w.heap.size, 0, none⟩) (by simp; omega)).trans x0
 have y1 := (b2.cell (p := ⟨w.heap.size, 1, none⟩) (by simp; omega)).trans x1
 have y2 := (b2.cell (p := ⟨w.heap.size, 2, none⟩) (by simp; omega)).trans x2
 have y3 := (b2.cell (p := ⟨w.heap.size, 3, none⟩) (by simp; omega)).trans x3
 have y4 := (b2.cell (p := ⟨w.heap.size, 4, none⟩) (by simp; omega)).trans x4
 have y5 := (b2.cell (p := ⟨w.heap.size, 5, none⟩) (by simp; omega)).trans x5
 have y6 := (b2.cell (p := ⟨w.heap.size, 6, none⟩) (by simp; omega)).trans x6
 clear b2 x0 x1 x2 x3 x4 x5 x6
 go_wp2
 go_ret
 have s1 := B1.out.size
 simp at s1
 exact ⟨rfl, (((Below.refl _ _).alloc (Nat.le_refl _) _).trans (B1.out.mono (by simp))).trans (B2.out.mono (by omega))⟩
set_option maxHeartbeats 1600000 in
theorem isRule_2df (o : Out) (a : Option Addr) (n c : Nat) (w : World) (hR : ArgR w o a n c) (hk : o.kind = 2) (h : 2 ≤ o.states ∧ o.states ≤ 4 ∧ 0 ≤ o.radius) (hl : lineP o) (h3 : noLifeB o = true) (h4 : o.turns.toList.isEmpty = false) :
  Calls Tryz.prog 45 #[o.val (.slice a n c)] w fun e w' => e = .returned (.bool false) ∧ Below w.heap.size w w' := by
 have k1 : (o.kind == 1) = false := by simp; omega
 have k2 : (o.kind == 2) = true := by simp; omega
 clear hk
 unfold Out.val
 go_enter Tryz.func45, Tryz.ntmps45
 go_wp2_with fail
 refine (isLine_on_agg o a n c _ (hR.alloc _) h.1 h.2.1 h.2.2).mono ?_
 rintro e w1 ⟨he, b1⟩
 rcases he with ⟨rfl, p⟩ | ⟨rfl, p⟩
 case inr => exact absurd hl p
 have B1 := hide' b1
 have x0 := b1.cell (p := ⟨w.heap.size, 0, none⟩) (by simp)
 have x1 := b1.cell (p := ⟨w.heap.size, 1, none⟩) (by simp)
 have x2 := b1.cell (p := ⟨w.heap.size, 2, none⟩) (by simp)
 have x3 := b1.cell (p := ⟨w.heap.size, 3, none⟩) (by simp)
 have x4 := b1.cell (p := ⟨w.heap.size, 4, none⟩) (by simp)
 have x5 := b1.cell (p := ⟨w.heap.size, 5, none⟩) (by simp)
 have x6 := b1.cell (p := ⟨w.heap.size, 6, none⟩) (by simp)
 simp at x0 x1 x2 x3 x4 x5 x6
 have sz := b1.size
 simp at sz
 clear b1 p
 go_wp2_with fail
 refine (hasNoLife_agg o a n c _).mono ?_
 rw [h3]
 rintro e w2 ⟨rfl, b2⟩
 have B2 := hide' b2
 have y0 := (b2.cell (p := ⟨w.heap.size, 0, none⟩) (by simp; omega)).trans x0
 have y1 := (b2.cell (p := ⟨w.heap.size, 1, none⟩) (by simp; omega)).trans x1
 have y2 := (b2.cell (p := ⟨w.heap.size, 2, none⟩) (by simp; omega)).trans x2
 have y3 := (b2.cell (p := ⟨w.heap.size, 3, none⟩) (by simp; omega)).trans x3
 have y4 := (b2.cell (p := ⟨w.heap.size, 4, none⟩) (by simp; omega)).trans x4
 have y5 := (b2.cell (p := ⟨w.heap.size, 5, none⟩) (by simp; omega)).trans x5
 have y6 := (b2.cell (p := ⟨w.heap.size, 6, none⟩) (by simp; omega)).trans x6
 clear b2 x0 x1 x2 x3 x4 x5 x6
 go_wp2
 go_ret
 have s1 := B1.out.size
 simp at s1
 exact ⟨rfl, (((Below.refl _ _).alloc (Nat.le_refl _) _).trans (B1.out.mono (by simp))).trans (B2.out.mono (by omega))⟩
set_option maxHeartbeats 1600000 in
theorem isRule_3a (o : Out) (a : Option Addr) (n c : Nat) (w : World) (hR : ArgR w o a n c) (hk : o.kind = 3) (ht : ¬ turnsP o.turns) :
  Calls Tryz.prog 45 #[o.val (.slice a n c)] w fun e w' => e = .returned (.bool false) ∧ Below w.heap.size w w' := by
 have k1 : (o.kind == 1) = false := by simp; omega
 have k2 : (o.kind == 2) = false := by simp; omega
 have k3 : (o.kind == 3) = true := by simp; omega
 clear hk
 unfold Out.val
 go_enter Tryz.func45, Tryz.ntmps45
 go_wp2_with fail
 refine (isTurns_any o.turns _ hR.tmax).mono ?_
 rintro e w1 ⟨he, rfl⟩
 rcases he with ⟨rfl, p⟩ | ⟨rfl, p⟩
 ·exact absurd p ht
 go_wp2
 go_ret
 exact ⟨rfl, (Below.refl _ _).alloc (Nat.le_refl _) _⟩
set_option maxHeartbeats 1600000 in
theorem isRule_3b (o : Out) (a : Option Addr) (n c : Nat) (w : World) (hR : ArgR w o a n c) (hk : o.kind = 3) (ht : turnsP o.turns) (h3 : noLifeB o = false) :
  Calls Tryz.prog 45 #[o.val (.slice a n c)] w fun e w' => e = .returned (.bool false) ∧ Below w.heap.size w w' := by
 have k1 : (o.kind == 1) = false := by simp; omega
 have k2 : (o.kind == 2) = false := by simp; omega
 have k3 : (o.kind == 3) = true := by simp; omega
 clear hk
 unfold Out.val
 go_enter Tryz.func45, Tryz.ntmps45
 go_wp2_with fail
 refine (isTurns_any o.turns _ hR.tmax).mono ?_
 rintro e w1 ⟨he, rfl⟩
 rcases he with ⟨rfl, p⟩ | ⟨rfl, p⟩
 case inr => exact absurd ht p
 go_wp2_with fail
 refine (hasNoLife_agg o a n c _).mono ?_
 rw [h3]
 rintro e w1 ⟨rfl, b1⟩
 have B1 := hide' b1
 clear b1
 go_wp2
 go_ret
 exact ⟨rfl, ((Below.refl _ _).alloc (Nat.le_refl _) _).trans (B1.out.mono (by simp))⟩
set_option maxHeartbeats 1600000 in
theorem isRule_3ct (o : Out) (a : Option Addr) (n c : Nat) (w : World) (hR : ArgR w o a n c) (hk : o.kind = 3) (ht : turnsP o.turns) (h3 : noLifeB o = true) (h4 : noLineB o = true) :
  Calls Tryz.prog 45 #[o.val (.slice a n c)] w fun e w' => e = .returned (.bool true) ∧ Below w.heap.size w w' := by
 have k1 : (o.kind == 1) = false := by simp; omega
 have k2 : (o.kind == 2) = false := by simp; omega
 have k3 : (o.kind == 3) = true := by simp; omega
 clear hk
 unfold Out.val
 go_enter Tryz.func45, Tryz.ntmps45
 go_wp2_with fail
 refine (isTurns_any o.turns _ hR.tmax).mono ?_
 rintro e w1 ⟨he, rfl⟩
 rcases he with ⟨rfl, p⟩ | ⟨rfl, p⟩
 case inr => exact absurd ht p
 go_wp2_with fail
 refine (hasNoLife_agg o a n c _).mono ?_
 rw [h3]
 rintro e w1 ⟨rfl, b1⟩
 have B1 := hide' b1
 have x0 := b1.cell (p := ⟨w.heap.size, 0, none⟩) (by simp)
 have x1 := b1.cell (p := ⟨w.heap.size, 1, none⟩) (by simp)
 have x2 := b1.cell (p := ⟨w.heap.size, 2, none⟩) (by simp)
 have x3 := b1.cell (p := ⟨w.heap.size, 3, none⟩) (by simp)
 have x4 := b1.cell (p := ⟨w.heap.size, 4, none⟩) (by simp)
 have x5 := b1.cell (p := ⟨w.heap.size, 5, none⟩) (by simp)
 have x6 := b1.cell (p := ⟨w.heap.size, 6, none⟩) (by simp)
 simp at x0 x1 x2 x3 x4 x5 x6
 clear b1
 go_wp2_with fail
 refine (hasNoLine_agg o a n c _ hR.len hR.max).mono ?_
 rw [h4]
 rintro e w2 ⟨rfl, b2⟩
 have B2 := hide' b2
 clear b2
 go_wp2
 go_ret
 have s1 := B1.out.size
 simp at s1
 exact ⟨rfl, (((Below.refl _ _).alloc (Nat.le_refl _) _).trans (B1.out.mono (by simp))).trans (B2.out.mono (by omega))⟩
set_option maxHeartbeats 1600000 in
theorem isRule_3cf (o : Out) (a : Option Addr) (n c : Nat) (w : World) (hR : ArgR w o a n c) (hk : o.kind = 3) (ht : turnsP o.turns) (h3 : noLifeB o = true) (h4 : noLineB o = false) :
  Calls Tryz.prog 45 #[o.val (.slice a n c)] w fun e w' => e = .returned (.bool false) ∧ Below w.heap.size w w' := by
 have k1 : (o.kind == 1) = false := by simp; omega
 have k2 : (o.kind == 2) = false := by simp; omega
 have k3 : (o.kind == 3) = true := by simp; omega
 clear hk
 unfold Out.val
 go_enter Tryz.func45, Tryz.ntmps45
 go_wp2_with fail
 refine (isTurns_any o.turns _ hR.tmax).mono ?_
 rintro e w1 ⟨he, rfl⟩
 rcases he with ⟨rfl, p⟩ | ⟨rfl, p⟩
 case inr => exact absurd ht p
 go_wp2_with fail
 refine (hasNoLife_agg o a n c _).mono ?_
 rw [h3]
 rintro e w1 ⟨rfl, b1⟩
 have B1 := hide' b1
 have x0 := b1.cell (p := ⟨w.heap.size, 0, none⟩) (by simp)
 have x1 := b1.cell (p := ⟨w.heap.size, 1, none⟩) (by simp)
 have x2 := b1.cell (p := ⟨w.heap.size, 2, none⟩) (by simp)
 have x3 := b1.cell (p := ⟨w.heap.size, 3, none⟩) (by simp)
 have x4 := b1.cell (p := ⟨w.heap.size, 4, none⟩) (by simp)
 have x5 := b1.cell (p := ⟨w.heap.size, 5, none⟩) (by simp)
 have x6 := b1.cell (p := ⟨w.heap.size, 6, none⟩) (by simp)
 simp at x0 x1 x2 x3 x4 x5 x6
 clear b1
 go_wp2_with fail
 refine (hasNoLine_agg o a n c _ hR.len hR.max).mono ?_
 rw [h4]
 rintro e w2 ⟨rfl, b2⟩
 have B2 := hide' b2
 clear b2
 go_wp2
 go_ret
 have s1 := B1.out.size
 simp at s1
 exact ⟨rfl, (((Below.refl _ _).alloc (Nat.le_refl _) _).trans (B1.out.mono (by simp))).trans (B2.out.mono (by omega))⟩
set_option maxHeartbeats 1600000 in
theorem isRule_0 (o : Out) (a : Option Addr) (n c : Nat) (w : World) (hR : ArgR w o a n c) (n1 : ¬ o.kind = 1) (n2 : ¬ o.kind = 2) (n3 : ¬ o.kind = 3) :
  Calls Tryz.prog 45 #[o.val (.slice a n c)] w fun e w' => e = .returned (.bool false) ∧ Below w.heap.size w w' := by
 have k1 : (o.kind == 1) = false := by simp; omega
 have k2 : (o.kind == 2) = false := by simp; omega
 have k3 : (o.kind == 3) = false := by simp; omega
 unfold Out.val
 go_enter Tryz.func45, Tryz.ntmps45
 go_wp2
 go_ret
 exact ⟨rfl, (Below.refl _ _).alloc (Nat.le_refl _) _⟩
theorem isRule_any (o : Out) (a : Option Addr) (n c : Nat) (w : World) (hR : ArgR w o a n c) :
  Calls Tryz.prog 45 #[.agg #[.int .i64 o.kind, .int .i64 o.born, .int .i64 o.stay, .int .i64 o.states, .int .i64 o.radius, .slice a n c, .string o.turns]] w fun e w' => (e = .returned (.bool true) ∧ Good o ∨ e = .returned (.bool false) ∧ ¬ Good o) ∧ Below w.heap.size w w' := by
 have yes : Good o → Calls Tryz.prog 45 #[o.val (.slice a n c)] w (fun e w' => e = .returned (.bool true) ∧ Below w.heap.size w w') →
   Calls Tryz.prog 45 #[o.val (.slice a n c)] w fun e w' => (e = .returned (.bool true) ∧ Good o ∨ e = .returned (.bool false) ∧ ¬ Good o) ∧ Below w.heap.size w w' := fun g h => h.mono fun e w' q => ⟨Or.inl ⟨q.1, g⟩, q.2⟩
 have no : ¬ Good o → Calls Tryz.prog 45 #[o.val (.slice a n c)] w (fun e w' => e = .returned (.bool false) ∧ Below w.heap.size w w') →
   Calls Tryz.prog 45 #[o.val (.slice a n c)] w fun e w' => (e = .returned (.bool true) ∧ Good o ∨ e = .returned (.bool false) ∧ ¬ Good o) ∧ Below w.heap.size w w' := fun g h => h.mono fun e w' q => ⟨Or.inr ⟨q.1, g⟩, q.2⟩
 show Calls Tryz.prog 45 #[o.val (.slice a n c)] w _
 by_cases k1 : o.kind = 1
 ·cases h1 : bitsB o.born with
  | false => exact no (fun g => by rcases g with g | g | g <;> simp_all) (isRule_1a o a n c w hR k1 h1)
  | true =>
  cases h2 : bitsB o.stay with
  | false => exact no (fun g => by rcases g with g | g | g <;> simp_all) (isRule_1b o a n c w hR k1 h1 h2)
  | true =>
  cases h3 : noLineB o with
  | false => exact no (fun g => by rcases g with g | g | g <;> simp_all) (isRule_1c o a n c w hR k1 h1 h2 h3)
  | true =>
  cases h4 : o.turns.toList.isEmpty with
  | false => exact no (fun g => by rcases g with g | g | g <;> simp_all) (isRule_1df o a n c w hR k1 h1 h2 h3 h4)
  | true => exact yes (Or.inl ⟨k1, h1, h2, h3, h4⟩) (isRule_1dt o a n c w hR k1 h1 h2 h3 h4)
 by_cases k2 : o.kind = 2
 ·by_cases h : 2 ≤ o.states ∧ o.states ≤ 4 ∧ 0 ≤ o.radius
  ·by_cases hl : lineP o
   ·cases h3 : noLifeB o with
    | false => exact no (fun g => by rcases g with g | g | g <;> simp_all) (isRule_2c o a n c w hR k2 h hl h3)
    | true =>
    cases h4 : o.turns.toList.isEmpty with
    | false => exact no (fun g => by rcases g with g | g | g <;> simp_all) (isRule_2df o a n c w hR k2 h hl h3 h4)
    | true => exact yes (Or.inr (Or.inl ⟨k2, hl, h3, h4⟩)) (isRule_2dt o a n c w hR k2 h hl h3 h4)
   ·exact no (fun g => by rcases g with g | g | g <;> simp_all) (isRule_2b o a n c w hR k2 h hl)
  ·exact no (fun g => by
    rcases g with g | g | g
    ·exact k1 g.1
    ·exact h ⟨g.2.1.1, g.2.1.2.1, g.2.1.2.2.1⟩
    ·have := g.1; omega) (isRule_2a o a n c w hR k2 h)
 by_cases k3 : o.kind = 3
 ·by_cases ht : turnsP o.turns
  ·cases h3 : noLifeB o with
   | false => exact no (fun g => by rcases g with g | g | g <;> simp_all) (isRule_3b o a n c w hR k3 ht h3)
   | true =>
   cases h4 : noLineB o with
   | false => exact no (fun g => by rcases g with g | g | g <;> simp_all) (isRule_3cf o a n c w hR k3 ht h3 h4)
   | true => exact yes (Or.inr (Or.inr ⟨k3, ht, h3, h4⟩)) (isRule_3ct o a n c w hR k3 ht h3 h4)
  ·exact no (fun g => by rcases g with g | g | g <;> simp_all) (isRule_3a o a n c w hR k3 ht)
 exact no (fun g => by rcases g with g | g | g <;> simp_all) (isRule_0 o a n c w hR k1 k2 k3)
theorem Check_any (o : Out) (a : Option Addr) (n c : Nat) (w : World) (hR : ArgR w o a n c) :
  Calls Tryz.prog 19 #[.agg #[.int .i64 o.kind, .int .i64 o.born, .int .i64 o.stay, .int .i64 o.states, .int .i64 o.radius, .slice a n c, .string o.turns]] w fun e w' => (e = .returned .nilIface ∧ Good o ∨ e = .returned (.iface 56 (.int .i64 1)) ∧ ¬ Good o) ∧ Below w.heap.size w w' := by
 go_enter Tryz.func19, Tryz.ntmps19
 go_wp2_with fail
 refine (isRule_any o a n c _ (hR.alloc _)).mono ?_
 rintro e w1 ⟨he, b1⟩
 have B1 := hide' b1
 clear b1
 rcases he with ⟨rfl, g⟩ | ⟨rfl, g⟩
 ·go_wp2
  go_ret
  exact ⟨Or.inl ⟨rfl, g⟩, ((Below.refl _ _).alloc (Nat.le_refl _) _).trans (B1.out.mono (by simp))⟩
 ·go_wp2
  go_ret
  exact ⟨Or.inr ⟨rfl, g⟩, ((Below.refl _ _).alloc (Nat.le_refl _) _).trans (B1.out.mono (by simp))⟩


def RefParsed (x : Out ⊕ Nat) (w : World) (e : Ending) (w' : World) : Prop :=
 match x with
 | .inr a => e = .returned (.tuple #[.agg zeroCells, .int .i64 (a : Int), .bool false]) ∧ Below w.heap.size w w'
 | .inl o => ∃ v, e = .returned (.tuple #[o.val v, .int .i64 0, .bool true]) ∧ Tab w' v o.table ∧ Below w.heap.size w w'
theorem RefParsed.bad {a : Nat} {w w' : World} (h : Below w.heap.size w w') : RefParsed (.inr a) w (.returned (.tuple #[.agg zeroCells, .int .i64 (a : Int), .bool false])) w' := ⟨rfl, h⟩
theorem Fresh.old {w w' : World} {v : Value} (h : Fresh w' v) (hs : w.heap.size ≤ w'.heap.size) : Fresh w v := fun g k c q => Nat.le_trans hs (h g k c q)
def Ruled (x : Out ⊕ Nat) (b : Nat) (s : ByteArray) (w : World) (e : Ending) (w' : World) : Prop :=
 match x with
 | .inr a => e = .panicked oops ∧ At b s a w' ∧ Rd b w w'
 | .inl o => ∃ v, e = .returned (o.val v) ∧ Tab w' v o.table ∧ Fresh w v ∧ At b s s.size w' ∧ Rd b w w'
theorem Ruled.bad {b : Nat} {s : ByteArray} {w w' : World} {a : Nat} (ha : At b s a w') (hr : Rd b w w') : Ruled (.inr a) b s w (.panicked oops) w' := ⟨rfl, ha, hr⟩
theorem Tab.alloc {w : World} {v : Value} {xs : List Int} (h : Tab w v xs) (o : Obj) : Tab (w.alloc o) v xs := by
 rcases h with h | ⟨g, cap, hv, hg, hc⟩
 ·exact Or.inl h
 ·have e : (w.alloc o).heap[g]? = w.heap[g]? := Below.heap_alloc _ _ _ hg
  exact Or.inr ⟨g, cap, hv, by rw [World.size_alloc]; omega, fun k hk => (World.cell?_of_block (w := w) (a := ⟨g, k, none⟩) e).trans (hc k hk)⟩
theorem Tab.drewN {w : World} {v : Value} {xs : List Int} (h : Tab w v xs) (n : Nat) : Tab (w.drewN n) v xs := h
def setRule (w : World) (g : Nat) (v0 v1 v2 v3 v4 v5 v6 : Value) : World :=
 ((((((w.setCell ⟨g, 0, none⟩ v0).setCell ⟨g, 1, none⟩ v1).setCell ⟨g, 2, none⟩ v2).setCell ⟨g, 3, none⟩ v3).setCell ⟨g, 4, none⟩ v4).setCell ⟨g, 5, none⟩ v5).setCell ⟨g, 6, none⟩ v6
structure Seven (w : World) (g : Nat) (v0 v1 v2 v3 v4 v5 v6 : Value) : Prop where
 c0 : w.cell? ⟨g, 0, none⟩ = some v0
 c1 : w.cell? ⟨g, 1, none⟩ = some v1
 c2 : w.cell? ⟨g, 2, none⟩ = some v2
 c3 : w.cell? ⟨g, 3, none⟩ = some v3
 c4 : w.cell? ⟨g, 4, none⟩ = some v4
 c5 : w.cell? ⟨g, 5, none⟩ = some v5
 c6 : w.cell? ⟨g, 6, none⟩ = some v6
theorem Seven.set {w : World} {g : Nat} {u0 u1 u2 u3 u4 u5 u6 v0 v1 v2 v3 v4 v5 v6 : Value} (h : Seven w g u0 u1 u2 u3 u4 u5 u6) : Seven (setRule w g v0 v1 v2 v3 v4 v5 v6) g v0 v1 v2 v3 v4 v5 v6 := by
 obtain ⟨c0, c1, c2, c3, c4, c5, c6⟩ := h
 unfold setRule
 constructor <;> simp [go_sem, c0, c1, c2, c3, c4, c5, c6]
theorem Seven.other {w : World} {g : Nat} {v0 v1 v2 v3 v4 v5 v6 : Value} (h : Seven w g v0 v1 v2 v3 v4 v5 v6) {p : Addr} (hp : p.block ≠ g) (u : Value) : Seven (w.setCell p u) g v0 v1 v2 v3 v4 v5 v6 := by
 have e : (w.setCell p u).heap[g]? = w.heap[g]? := Below.heap_setCell _ _ _ _ (fun q => hp q.symm)
 obtain ⟨c0, c1, c2, c3, c4, c5, c6⟩ := h
 exact ⟨(World.cell?_of_block (w := w) (a := ⟨g, 0, none⟩) e).trans c0, (World.cell?_of_block (w := w) (a := ⟨g, 1, none⟩) e).trans c1, (World.cell?_of_block (w := w) (a := ⟨g, 2, none⟩) e).trans c2, (World.cell?_of_block (w := w) (a := ⟨g, 3, none⟩) e).trans c3, (World.cell?_of_block (w := w) (a := ⟨g, 4, none⟩) e).trans c4, (World.cell?_of_block (w := w) (a := ⟨g, 5, none⟩) e).trans c5, (World.cell?_of_block (w := w) (a := ⟨g, 6, none⟩) e).trans c6⟩
theorem Tab.block {w w' : World} {v : Value} {xs : List Int} (h : Tab w v xs) (hs : w'.heap.size = w.heap.size) (hb : ∀ g k c, v = .slice (some ⟨g, 0, none⟩) k c → w'.heap[g]? = w.heap[g]?) : Tab w' v xs := by
 rcases h with h | ⟨g, cap, hv, hg, hc⟩
 ·exact Or.inl h
 ·exact Or.inr ⟨g, cap, hv, by rw [hs]; exact hg, fun k hk => (World.cell?_of_block (w := w) (a := ⟨g, k, none⟩) (hb g _ _ hv)).trans (hc k hk)⟩
structure RefW (w wr : World) (k st ra : Int) (v : Value) (xs : List Int) : Prop where
 below : Below w.heap.size w wr
 size : w.heap.size + 3 ≤ wr.heap.size
 res : Seven wr w.heap.size (.int .i64 0) (.int .i64 0) (.int .i64 0) (.int .i64 0) (.int .i64 0) (.slice none 0 0) (.string ⟨#[]⟩)
 rr : Seven wr (w.heap.size + 1) (.int .i64 k) (.int .i64 0) (.int .i64 0) (.int .i64 st) (.int .i64 ra) v (.string ⟨#[]⟩)
 no : Seven wr (w.heap.size + 1 + 1) (.int .i64 0) (.int .i64 0) (.int .i64 0) (.int .i64 0) (.int .i64 0) (.slice none 0 0) (.string ⟨#[]⟩)
 fz : ∀ b j, w.heap.size ≤ b → b < w.heap.size + 3 → wr.frozen? ⟨b, j, none⟩ = false
 own : wr.ownsRow (w.heap.size + 3) 3 1 v xs.length (xs.map fun x => .int .i64 x)
theorem Seven.block {w w' : World} {g : Nat} {v0 v1 v2 v3 v4 v5 v6 : Value} (h : Seven w g v0 v1 v2 v3 v4 v5 v6) (e : w'.heap[g]? = w.heap[g]?) : Seven w' g v0 v1 v2 v3 v4 v5 v6 := by
 obtain ⟨c0, c1, c2, c3, c4, c5, c6⟩ := h
 exact ⟨(World.cell?_of_block (w := w) (a := ⟨g, 0, none⟩) e).trans c0, (World.cell?_of_block (w := w) (a := ⟨g, 1, none⟩) e).trans c1, (World.cell?_of_block (w := w) (a := ⟨g, 2, none⟩) e).trans c2, (World.cell?_of_block (w := w) (a := ⟨g, 3, none⟩) e).trans c3, (World.cell?_of_block (w := w) (a := ⟨g, 4, none⟩) e).trans c4, (World.cell?_of_block (w := w) (a := ⟨g, 5, none⟩) e).trans c5, (World.cell?_of_block (w := w) (a := ⟨g, 6, none⟩) e).trans c6⟩
theorem RefW.start (w : World) (k st ra : Int) : RefW w (((w.alloc (.cells zeroCells 24)).alloc (.cells #[.int .i64 k, .int .i64 0, .int .i64 0, .int .i64 st, .int .i64 ra, .slice none 0 0, .string ⟨#[]⟩] 24)).alloc (.cells zeroCells 24)) k st ra (.slice none 0 0) [] := by
 refine ⟨?_, by simp, ?_, ?_, ?_, ?_, ⟨by simp, Or.inl ⟨rfl, by simp⟩⟩⟩
 ·exact (((Below.refl _ _).alloc (Nat.le_refl _) _).alloc (by simp) _).alloc (by simp; omega) _
 ·constructor <;> simp [go_sem, zeroCells]
 ·constructor <;> simp [go_sem]
 ·constructor <;> simp [go_sem, zeroCells]
 ·intro b j h1 h2
  have h3 : b = w.heap.size ∨ b = w.heap.size + 1 ∨ b = w.heap.size + 1 + 1 := by omega
  rcases h3 with rfl | rfl | rfl <;> simp [go_sem]
def bval (b : UInt8) : Value := .int .u8 (b.toNat : Int)
def dl (n k : Nat) : List UInt8 := ((List.range k).filter fun i => n / 2 ^ i % 2 == 1).map fun i => UInt8.ofNat (48 + i)
theorem and_bit' (n k : Nat) (hn : n ≤ 511) : bits BinOp.and IntKind.i64 ((n : Int) / 2 ^ k) 1 = ((n / 2 ^ k % 2 : Nat) : Int) := by
 rw [show ((n : Int) / 2 ^ k) = ((n / 2 ^ k : Nat) : Int) by simp]
 have hl : n / 2 ^ k ≤ n := Nat.div_le_self _ _
 have := i64_and_nat (n / 2 ^ k) 1 (by omega) (by omega)
 simp only [Nat.and_one_is_mod] at this
 exact this
structure Row8 (w wr : World) (v : Value) (l : List UInt8) : Prop where
 below : Below w.heap.size w wr
 own : wr.ownsRow w.heap.size 5 1 v l.length (l.map bval)
theorem Row8.start (w : World) : Row8 w w (.slice none 0 0) [] := ⟨Below.refl _ _, by simp, Or.inl ⟨rfl, by simp⟩⟩
def bitN (n i : Nat) : Nat := n / 2 ^ i % 2
def becN (born stay : Nat) (c : Int) (n : Nat) : Nat := if c = 1 then bitN stay n else bitN born n
end Go.Proofs.YtemhcpldflcfbaaGreatDoor
