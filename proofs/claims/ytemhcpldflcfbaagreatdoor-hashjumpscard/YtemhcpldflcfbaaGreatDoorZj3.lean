/-
  What the last text of this claim leans on, part 3: Pr3.
-/
import Derived.Test.YtemhcpldflcfbaaGreatDoorZj2
namespace Go.Proofs.YtemhcpldflcfbaaGreatDoor
open Go.RowKit
set_option linter.unusedVariables false
theorem ent_pow (n m : Nat) (hn : 2 ≤ n) (hn' : n ≤ 4) (hm : m ≤ 10) : (entOf n m ≤ 4096 ∧ powS n (2 * m + 1) = entOf n m) ∨ (4096 < entOf n m ∧ powS n (2 * m + 1) = 5000) := by
 have h1 : n = 2 ∨ n = 3 ∨ n = 4 := by omega
 have h2 : m = 0 ∨ m = 1 ∨ m = 2 ∨ m = 3 ∨ m = 4 ∨ m = 5 ∨ m = 6 ∨ m = 7 ∨ m = 8 ∨ m = 9 ∨ m = 10 := by omega
 rcases h1 with rfl | rfl | rfl <;> rcases h2 with rfl | rfl | rfl | rfl | rfl | rfl | rfl | rfl | rfl | rfl | rfl <;> decide
theorem ent_far (n m : Nat) (hn : 2 ≤ n) (hn' : n ≤ 4) (hm : 10 < m) : 4096 < entOf n m := by
 obtain ⟨k, rfl⟩ : ∃ k, m = k + 6 := ⟨m - 6, by omega⟩
 have h1 : n = 2 ∨ n = 3 ∨ n = 4 := by omega
 rcases h1 with rfl | rfl | rfl
 ·show 4096 < entF 2 (k + 6) 2
  simp [entF, entF_stop]
 ·show 4096 < entF 3 (k + 6) 3
  simp [entF]
 ·show 4096 < entF 4 (k + 6) 4
  simp [entF]
set_option maxRecDepth 100000 in
set_option maxHeartbeats 1600000 in
theorem Fault_0a (o : Out) (a : Option Addr) (n c : Nat) (w : World) (hR : ArgR w o a n c) (hk : o.kind < 1) :
  Calls Tryz.prog 6 #[.agg #[.int .i64 o.kind, .int .i64 o.born, .int .i64 o.stay, .int .i64 o.states, .int .i64 o.radius, .slice a n c, .string o.turns]] w fun e w' => e = .returned (.int .i64 1) ∧ Below w.heap.size w w' := by
 have hn := hR.len
 have hm := hR.max
 have htm := hR.tmax
 unfold maxLen at hm htm
 clear hR hn
 go_enter Tryz.func6, Tryz.ntmps6
 go_wp2
 go_ret
 exact ⟨rfl, (Below.refl _ _).alloc (Nat.le_refl _) _⟩
set_option maxRecDepth 100000 in
set_option maxHeartbeats 1600000 in
theorem Fault_0b (o : Out) (a : Option Addr) (n c : Nat) (w : World) (hR : ArgR w o a n c) (hk : 3 < o.kind) :
  Calls Tryz.prog 6 #[.agg #[.int .i64 o.kind, .int .i64 o.born, .int .i64 o.stay, .int .i64 o.states, .int .i64 o.radius, .slice a n c, .string o.turns]] w fun e w' => e = .returned (.int .i64 1) ∧ Below w.heap.size w w' := by
 have hn := hR.len
 have hm := hR.max
 have htm := hR.tmax
 unfold maxLen at hm htm
 have z1 : ¬ o.kind < 1 := by omega
 clear hR hn
 go_enter Tryz.func6, Tryz.ntmps6
 go_wp2
 go_ret
 exact ⟨rfl, (Below.refl _ _).alloc (Nat.le_refl _) _⟩
set_option maxRecDepth 100000 in
set_option maxHeartbeats 1600000 in
theorem Fault_1a (o : Out) (a : Option Addr) (n c : Nat) (w : World) (hR : ArgR w o a n c) (hk : o.kind = 1) (h1 : o.born < 0) :
  Calls Tryz.prog 6 #[.agg #[.int .i64 o.kind, .int .i64 o.born, .int .i64 o.stay, .int .i64 o.states, .int .i64 o.radius, .slice a n c, .string o.turns]] w fun e w' => e = .returned (.int .i64 1) ∧ Below w.heap.size w w' := by
 have hn := hR.len
 have hm := hR.max
 have htm := hR.tmax
 unfold maxLen at hm htm
 have z1 : ¬ o.kind < 1 := by omega
 have z2 : ¬ 3 < o.kind := by omega
 have y1 : (o.kind == 1) = true := by simp; omega
 have y2 : (o.kind == 2) = false := by simp; omega
 have y3 : (o.kind == 3) = false := by simp; omega
 clear hk
 clear hR hn
 go_enter Tryz.func6, Tryz.ntmps6
 go_wp2
 go_ret
 exact ⟨rfl, (Below.refl _ _).alloc (Nat.le_refl _) _⟩
set_option maxRecDepth 100000 in
set_option maxHeartbeats 1600000 in
theorem Fault_1b (o : Out) (a : Option Addr) (n c : Nat) (w : World) (hR : ArgR w o a n c) (hk : o.kind = 1) (h1 : ¬ o.born < 0) (h2 : 511 < o.born) :
  Calls Tryz.prog 6 #[.agg #[.int .i64 o.kind, .int .i64 o.born, .int .i64 o.stay, .int .i64 o.states, .int .i64 o.radius, .slice a n c, .string o.turns]] w fun e w' => e = .returned (.int .i64 1) ∧ Below w.heap.size w w' := by
 have hn := hR.len
 have hm := hR.max
 have htm := hR.tmax
 unfold maxLen at hm htm
 have z1 : ¬ o.kind < 1 := by omega
 have z2 : ¬ 3 < o.kind := by omega
 have y1 : (o.kind == 1) = true := by simp; omega
 have y2 : (o.kind == 2) = false := by simp; omega
 have y3 : (o.kind == 3) = false := by simp; omega
 clear hk
 clear hR hn
 go_enter Tryz.func6, Tryz.ntmps6
 go_wp2
 go_ret
 exact ⟨rfl, (Below.refl _ _).alloc (Nat.le_refl _) _⟩
set_option maxRecDepth 100000 in
set_option maxHeartbeats 1600000 in
theorem Fault_1c (o : Out) (a : Option Addr) (n c : Nat) (w : World) (hR : ArgR w o a n c) (hk : o.kind = 1) (h1 : ¬ o.born < 0) (h2 : ¬ 511 < o.born) (h3 : o.stay < 0) :
  Calls Tryz.prog 6 #[.agg #[.int .i64 o.kind, .int .i64 o.born, .int .i64 o.stay, .int .i64 o.states, .int .i64 o.radius, .slice a n c, .string o.turns]] w fun e w' => e = .returned (.int .i64 1) ∧ Below w.heap.size w w' := by
 have hn := hR.len
 have hm := hR.max
 have htm := hR.tmax
 unfold maxLen at hm htm
 have z1 : ¬ o.kind < 1 := by omega
 have z2 : ¬ 3 < o.kind := by omega
 have y1 : (o.kind == 1) = true := by simp; omega
 have y2 : (o.kind == 2) = false := by simp; omega
 have y3 : (o.kind == 3) = false := by simp; omega
 clear hk
 clear hR hn
 go_enter Tryz.func6, Tryz.ntmps6
 go_wp2
 go_ret
 exact ⟨rfl, (Below.refl _ _).alloc (Nat.le_refl _) _⟩
set_option maxRecDepth 100000 in
set_option maxHeartbeats 1600000 in
theorem Fault_1d (o : Out) (a : Option Addr) (n c : Nat) (w : World) (hR : ArgR w o a n c) (hk : o.kind = 1) (h1 : ¬ o.born < 0) (h2 : ¬ 511 < o.born) (h3 : ¬ o.stay < 0) (h4 : 511 < o.stay) :
  Calls Tryz.prog 6 #[.agg #[.int .i64 o.kind, .int .i64 o.born, .int .i64 o.stay, .int .i64 o.states, .int .i64 o.radius, .slice a n c, .string o.turns]] w fun e w' => e = .returned (.int .i64 1) ∧ Below w.heap.size w w' := by
 have hn := hR.len
 have hm := hR.max
 have htm := hR.tmax
 unfold maxLen at hm htm
 have z1 : ¬ o.kind < 1 := by omega
 have z2 : ¬ 3 < o.kind := by omega
 have y1 : (o.kind == 1) = true := by simp; omega
 have y2 : (o.kind == 2) = false := by simp; omega
 have y3 : (o.kind == 3) = false := by simp; omega
 clear hk
 clear hR hn
 go_enter Tryz.func6, Tryz.ntmps6
 go_wp2
 go_ret
 exact ⟨rfl, (Below.refl _ _).alloc (Nat.le_refl _) _⟩
set_option maxRecDepth 100000 in
set_option maxHeartbeats 1600000 in
theorem Fault_1e (o : Out) (a : Option Addr) (n c : Nat) (w : World) (hR : ArgR w o a n c) (hk : o.kind = 1) (h1 : ¬ o.born < 0) (h2 : ¬ 511 < o.born) (h3 : ¬ o.stay < 0) (h4 : ¬ 511 < o.stay) (l1 : (o.states != 0) = true) :
  Calls Tryz.prog 6 #[.agg #[.int .i64 o.kind, .int .i64 o.born, .int .i64 o.stay, .int .i64 o.states, .int .i64 o.radius, .slice a n c, .string o.turns]] w fun e w' => e = .returned (.int .i64 1) ∧ Below w.heap.size w w' := by
 have hn := hR.len
 have hm := hR.max
 have htm := hR.tmax
 unfold maxLen at hm htm
 have z1 : ¬ o.kind < 1 := by omega
 have z2 : ¬ 3 < o.kind := by omega
 have y1 : (o.kind == 1) = true := by simp; omega
 have y2 : (o.kind == 2) = false := by simp; omega
 have y3 : (o.kind == 3) = false := by simp; omega
 clear hk
 clear hR hn
 go_enter Tryz.func6, Tryz.ntmps6
 go_wp2
 go_ret
 exact ⟨rfl, (Below.refl _ _).alloc (Nat.le_refl _) _⟩
set_option maxRecDepth 100000 in
set_option maxHeartbeats 1600000 in
theorem Fault_1f (o : Out) (a : Option Addr) (n c : Nat) (w : World) (hR : ArgR w o a n c) (hk : o.kind = 1) (h1 : ¬ o.born < 0) (h2 : ¬ 511 < o.born) (h3 : ¬ o.stay < 0) (h4 : ¬ 511 < o.stay) (l1 : (o.states != 0) = false) (l2 : (o.radius != 0) = true) :
  Calls Tryz.prog 6 #[.agg #[.int .i64 o.kind, .int .i64 o.born, .int .i64 o.stay, .int .i64 o.states, .int .i64 o.radius, .slice a n c, .string o.turns]] w fun e w' => e = .returned (.int .i64 1) ∧ Below w.heap.size w w' := by
 have hn := hR.len
 have hm := hR.max
 have htm := hR.tmax
 unfold maxLen at hm htm
 have z1 : ¬ o.kind < 1 := by omega
 have z2 : ¬ 3 < o.kind := by omega
 have y1 : (o.kind == 1) = true := by simp; omega
 have y2 : (o.kind == 2) = false := by simp; omega
 have y3 : (o.kind == 3) = false := by simp; omega
 clear hk
 clear hR hn
 go_enter Tryz.func6, Tryz.ntmps6
 go_wp2
 go_ret
 exact ⟨rfl, (Below.refl _ _).alloc (Nat.le_refl _) _⟩
set_option maxRecDepth 100000 in
set_option maxHeartbeats 1600000 in
theorem Fault_1g (o : Out) (a : Option Addr) (n c : Nat) (w : World) (hR : ArgR w o a n c) (hk : o.kind = 1) (h1 : ¬ o.born < 0) (h2 : ¬ 511 < o.born) (h3 : ¬ o.stay < 0) (h4 : ¬ 511 < o.stay) (l1 : (o.states != 0) = false) (l2 : (o.radius != 0) = false) (l3 : 0 < (n : Int)) :
  Calls Tryz.prog 6 #[.agg #[.int .i64 o.kind, .int .i64 o.born, .int .i64 o.stay, .int .i64 o.states, .int .i64 o.radius, .slice a n c, .string o.turns]] w fun e w' => e = .returned (.int .i64 1) ∧ Below w.heap.size w w' := by
 have hn := hR.len
 have hm := hR.max
 have htm := hR.tmax
 unfold maxLen at hm htm
 have z1 : ¬ o.kind < 1 := by omega
 have z2 : ¬ 3 < o.kind := by omega
 have y1 : (o.kind == 1) = true := by simp; omega
 have y2 : (o.kind == 2) = false := by simp; omega
 have y3 : (o.kind == 3) = false := by simp; omega
 clear hk
 clear hR hn
 go_enter Tryz.func6, Tryz.ntmps6
 go_wp2
 go_ret
 exact ⟨rfl, (Below.refl _ _).alloc (Nat.le_refl _) _⟩
set_option maxRecDepth 100000 in
set_option maxHeartbeats 1600000 in
theorem Fault_1h (o : Out) (a : Option Addr) (n c : Nat) (w : World) (hR : ArgR w o a n c) (hk : o.kind = 1) (h1 : ¬ o.born < 0) (h2 : ¬ 511 < o.born) (h3 : ¬ o.stay < 0) (h4 : ¬ 511 < o.stay) (l1 : (o.states != 0) = false) (l2 : (o.radius != 0) = false) (l3 : ¬ 0 < (n : Int)) (t1 : o.turns.toList.isEmpty = false) :
  Calls Tryz.prog 6 #[.agg #[.int .i64 o.kind, .int .i64 o.born, .int .i64 o.stay, .int .i64 o.states, .int .i64 o.radius, .slice a n c, .string o.turns]] w fun e w' => e = .returned (.int .i64 1) ∧ Below w.heap.size w w' := by
 have hn := hR.len
 have hm := hR.max
 have htm := hR.tmax
 unfold maxLen at hm htm
 have z1 : ¬ o.kind < 1 := by omega
 have z2 : ¬ 3 < o.kind := by omega
 have y1 : (o.kind == 1) = true := by simp; omega
 have y2 : (o.kind == 2) = false := by simp; omega
 have y3 : (o.kind == 3) = false := by simp; omega
 clear hk
 clear hR hn
 go_enter Tryz.func6, Tryz.ntmps6
 go_wp2
 go_ret
 exact ⟨rfl, (Below.refl _ _).alloc (Nat.le_refl _) _⟩
set_option maxRecDepth 100000 in
set_option maxHeartbeats 1600000 in
theorem Fault_1i (o : Out) (a : Option Addr) (n c : Nat) (w : World) (hR : ArgR w o a n c) (hk : o.kind = 1) (h1 : ¬ o.born < 0) (h2 : ¬ 511 < o.born) (h3 : ¬ o.stay < 0) (h4 : ¬ 511 < o.stay) (l1 : (o.states != 0) = false) (l2 : (o.radius != 0) = false) (l3 : ¬ 0 < (n : Int)) (t1 : o.turns.toList.isEmpty = true) :
  Calls Tryz.prog 6 #[.agg #[.int .i64 o.kind, .int .i64 o.born, .int .i64 o.stay, .int .i64 o.states, .int .i64 o.radius, .slice a n c, .string o.turns]] w fun e w' => e = .returned (.int .i64 0) ∧ Below w.heap.size w w' := by
 have hn := hR.len
 have hm := hR.max
 have htm := hR.tmax
 unfold maxLen at hm htm
 have z1 : ¬ o.kind < 1 := by omega
 have z2 : ¬ 3 < o.kind := by omega
 have y1 : (o.kind == 1) = true := by simp; omega
 have y2 : (o.kind == 2) = false := by simp; omega
 have y3 : (o.kind == 3) = false := by simp; omega
 clear hk
 clear hR hn
 go_enter Tryz.func6, Tryz.ntmps6
 go_wp2
 go_ret
 exact ⟨rfl, (Below.refl _ _).alloc (Nat.le_refl _) _⟩
set_option maxRecDepth 100000 in
set_option maxHeartbeats 1600000 in
theorem Fault_3a (o : Out) (a : Option Addr) (n c : Nat) (w : World) (hR : ArgR w o a n c) (hk : o.kind = 3) (h1 : (o.born != 0) = true) :
  Calls Tryz.prog 6 #[.agg #[.int .i64 o.kind, .int .i64 o.born, .int .i64 o.stay, .int .i64 o.states, .int .i64 o.radius, .slice a n c, .string o.turns]] w fun e w' => e = .returned (.int .i64 1) ∧ Below w.heap.size w w' := by
 have hn := hR.len
 have hm := hR.max
 have htm := hR.tmax
 unfold maxLen at hm htm
 have z1 : ¬ o.kind < 1 := by omega
 have z2 : ¬ 3 < o.kind := by omega
 have y1 : (o.kind == 1) = false := by simp; omega
 have y2 : (o.kind == 2) = false := by simp; omega
 have y3 : (o.kind == 3) = true := by simp; omega
 clear hk
 clear hR hn
 go_enter Tryz.func6, Tryz.ntmps6
 go_wp2
 go_ret
 exact ⟨rfl, (Below.refl _ _).alloc (Nat.le_refl _) _⟩
set_option maxRecDepth 100000 in
set_option maxHeartbeats 1600000 in
theorem Fault_3b (o : Out) (a : Option Addr) (n c : Nat) (w : World) (hR : ArgR w o a n c) (hk : o.kind = 3) (h1 : (o.born != 0) = false) (h2 : (o.stay != 0) = true) :
  Calls Tryz.prog 6 #[.agg #[.int .i64 o.kind, .int .i64 o.born, .int .i64 o.stay, .int .i64 o.states, .int .i64 o.radius, .slice a n c, .string o.turns]] w fun e w' => e = .returned (.int .i64 1) ∧ Below w.heap.size w w' := by
 have hn := hR.len
 have hm := hR.max
 have htm := hR.tmax
 unfold maxLen at hm htm
 have z1 : ¬ o.kind < 1 := by omega
 have z2 : ¬ 3 < o.kind := by omega
 have y1 : (o.kind == 1) = false := by simp; omega
 have y2 : (o.kind == 2) = false := by simp; omega
 have y3 : (o.kind == 3) = true := by simp; omega
 clear hk
 clear hR hn
 go_enter Tryz.func6, Tryz.ntmps6
 go_wp2
 go_ret
 exact ⟨rfl, (Below.refl _ _).alloc (Nat.le_refl _) _⟩
set_option maxRecDepth 100000 in
set_option maxHeartbeats 1600000 in
theorem Fault_3c (o : Out) (a : Option Addr) (n c : Nat) (w : World) (hR : ArgR w o a n c) (hk : o.kind = 3) (h1 : (o.born != 0) = false) (h2 : (o.stay != 0) = false) (l1 : (o.states != 0) = true) :
  Calls Tryz.prog 6 #[.agg #[.int .i64 o.kind, .int .i64 o.born, .int .i64 o.stay, .int .i64 o.states, .int .i64 o.radius, .slice a n c, .string o.turns]] w fun e w' => e = .returned (.int .i64 1) ∧ Below w.heap.size w w' := by
 have hn := hR.len
 have hm := hR.max
 have htm := hR.tmax
 unfold maxLen at hm htm
 have z1 : ¬ o.kind < 1 := by omega
 have z2 : ¬ 3 < o.kind := by omega
 have y1 : (o.kind == 1) = false := by simp; omega
 have y2 : (o.kind == 2) = false := by simp; omega
 have y3 : (o.kind == 3) = true := by simp; omega
 clear hk
 clear hR hn
 go_enter Tryz.func6, Tryz.ntmps6
 go_wp2
 go_ret
 exact ⟨rfl, (Below.refl _ _).alloc (Nat.le_refl _) _⟩
set_option maxRecDepth 100000 in
set_option maxHeartbeats 1600000 in
theorem Fault_3d (o : Out) (a : Option Addr) (n c : Nat) (w : World) (hR : ArgR w o a n c) (hk : o.kind = 3) (h1 : (o.born != 0) = false) (h2 : (o.stay != 0) = false) (l1 : (o.states != 0) = false) (l2 : (o.radius != 0) = true) :
  Calls Tryz.prog 6 #[.agg #[.int .i64 o.kind, .int .i64 o.born, .int .i64 o.stay, .int .i64 o.states, .int .i64 o.radius, .slice a n c, .string o.turns]] w fun e w' => e = .returned (.int .i64 1) ∧ Below w.heap.size w w' := by
 have hn := hR.len
 have hm := hR.max
 have htm := hR.tmax
 unfold maxLen at hm htm
 have z1 : ¬ o.kind < 1 := by omega
 have z2 : ¬ 3 < o.kind := by omega
 have y1 : (o.kind == 1) = false := by simp; omega
 have y2 : (o.kind == 2) = false := by simp; omega
 have y3 : (o.kind == 3) = true := by simp; omega
 clear hk
 clear hR hn
 go_enter Tryz.func6, Tryz.ntmps6
 go_wp2
 go_ret
 exact ⟨rfl, (Below.refl _ _).alloc (Nat.le_refl _) _⟩
set_option maxRecDepth 100000 in
set_option maxHeartbeats 1600000 in
theorem Fault_3e (o : Out) (a : Option Addr) (n c : Nat) (w : World) (hR : ArgR w o a n c) (hk : o.kind = 3) (h1 : (o.born != 0) = false) (h2 : (o.stay != 0) = false) (l1 : (o.states != 0) = false) (l2 : (o.radius != 0) = false) (l3 : 0 < (n : Int)) :
  Calls Tryz.prog 6 #[.agg #[.int .i64 o.kind, .int .i64 o.born, .int .i64 o.stay, .int .i64 o.states, .int .i64 o.radius, .slice a n c, .string o.turns]] w fun e w' => e = .returned (.int .i64 1) ∧ Below w.heap.size w w' := by
 have hn := hR.len
 have hm := hR.max
 have htm := hR.tmax
 unfold maxLen at hm htm
 have z1 : ¬ o.kind < 1 := by omega
 have z2 : ¬ 3 < o.kind := by omega
 have y1 : (o.kind == 1) = false := by simp; omega
 have y2 : (o.kind == 2) = false := by simp; omega
 have y3 : (o.kind == 3) = true := by simp; omega
 clear hk
 clear hR hn
 go_enter Tryz.func6, Tryz.ntmps6
 go_wp2
 go_ret
 exact ⟨rfl, (Below.refl _ _).alloc (Nat.le_refl _) _⟩
set_option maxRecDepth 100000 in
set_option maxHeartbeats 1600000 in
theorem Fault_3f (o : Out) (a : Option Addr) (n c : Nat) (w : World) (hR : ArgR w o a n c) (hk : o.kind = 3) (h1 : (o.born != 0) = false) (h2 : (o.stay != 0) = false) (l1 : (o.states != 0) = false) (l2 : (o.radius != 0) = false) (l3 : ¬ 0 < (n : Int)) (t1 : (o.turns.size : Int) < 1) :
  Calls Tryz.prog 6 #[.agg #[.int .i64 o.kind, .int .i64 o.born, .int .i64 o.stay, .int .i64 o.states, .int .i64 o.radius, .slice a n c, .string o.turns]] w fun e w' => e = .returned (.int .i64 1) ∧ Below w.heap.size w w' := by
 have hn := hR.len
 have hm := hR.max
 have htm := hR.tmax
 unfold maxLen at hm htm
 have z1 : ¬ o.kind < 1 := by omega
 have z2 : ¬ 3 < o.kind := by omega
 have y1 : (o.kind == 1) = false := by simp; omega
 have y2 : (o.kind == 2) = false := by simp; omega
 have y3 : (o.kind == 3) = true := by simp; omega
 clear hk
 clear hR hn
 go_enter Tryz.func6, Tryz.ntmps6
 go_wp2
 go_ret
 exact ⟨rfl, (Below.refl _ _).alloc (Nat.le_refl _) _⟩
set_option maxRecDepth 100000 in
set_option maxHeartbeats 1600000 in
theorem Fault_3g (o : Out) (a : Option Addr) (n c : Nat) (w : World) (hR : ArgR w o a n c) (hk : o.kind = 3) (h1 : (o.born != 0) = false) (h2 : (o.stay != 0) = false) (l1 : (o.states != 0) = false) (l2 : (o.radius != 0) = false) (l3 : ¬ 0 < (n : Int)) (t1 : ¬ (o.turns.size : Int) < 1) (t2 : 26 < (o.turns.size : Int)) :
  Calls Tryz.prog 6 #[.agg #[.int .i64 o.kind, .int .i64 o.born, .int .i64 o.stay, .int .i64 o.states, .int .i64 o.radius, .slice a n c, .string o.turns]] w fun e w' => e = .returned (.int .i64 1) ∧ Below w.heap.size w w' := by
 have hn := hR.len
 have hm := hR.max
 have htm := hR.tmax
 unfold maxLen at hm htm
 have z1 : ¬ o.kind < 1 := by omega
 have z2 : ¬ 3 < o.kind := by omega
 have y1 : (o.kind == 1) = false := by simp; omega
 have y2 : (o.kind == 2) = false := by simp; omega
 have y3 : (o.kind == 3) = true := by simp; omega
 clear hk
 clear hR hn
 go_enter Tryz.func6, Tryz.ntmps6
 go_wp2
 go_ret
 exact ⟨rfl, (Below.refl _ _).alloc (Nat.le_refl _) _⟩
set_option maxRecDepth 100000 in
set_option maxHeartbeats 1600000 in
theorem Fault_2a (o : Out) (a : Option Addr) (n c : Nat) (w : World) (hR : ArgR w o a n c) (hk : o.kind = 2) (h1 : (o.born != 0) = true) :
  Calls Tryz.prog 6 #[.agg #[.int .i64 o.kind, .int .i64 o.born, .int .i64 o.stay, .int .i64 o.states, .int .i64 o.radius, .slice a n c, .string o.turns]] w fun e w' => e = .returned (.int .i64 1) ∧ Below w.heap.size w w' := by
 have hn := hR.len
 have hm := hR.max
 have htm := hR.tmax
 unfold maxLen at hm htm
 have z1 : ¬ o.kind < 1 := by omega
 have z2 : ¬ 3 < o.kind := by omega
 have y1 : (o.kind == 1) = false := by simp; omega
 have y2 : (o.kind == 2) = true := by simp; omega
 have y3 : (o.kind == 3) = false := by simp; omega
 clear hk
 clear hR hn
 go_enter Tryz.func6, Tryz.ntmps6
 go_wp2
 go_ret
 exact ⟨rfl, (Below.refl _ _).alloc (Nat.le_refl _) _⟩
set_option maxRecDepth 100000 in
set_option maxHeartbeats 1600000 in
theorem Fault_2b (o : Out) (a : Option Addr) (n c : Nat) (w : World) (hR : ArgR w o a n c) (hk : o.kind = 2) (h1 : (o.born != 0) = false) (h2 : (o.stay != 0) = true) :
  Calls Tryz.prog 6 #[.agg #[.int .i64 o.kind, .int .i64 o.born, .int .i64 o.stay, .int .i64 o.states, .int .i64 o.radius, .slice a n c, .string o.turns]] w fun e w' => e = .returned (.int .i64 1) ∧ Below w.heap.size w w' := by
 have hn := hR.len
 have hm := hR.max
 have htm := hR.tmax
 unfold maxLen at hm htm
 have z1 : ¬ o.kind < 1 := by omega
 have z2 : ¬ 3 < o.kind := by omega
 have y1 : (o.kind == 1) = false := by simp; omega
 have y2 : (o.kind == 2) = true := by simp; omega
 have y3 : (o.kind == 3) = false := by simp; omega
 clear hk
 clear hR hn
 go_enter Tryz.func6, Tryz.ntmps6
 go_wp2
 go_ret
 exact ⟨rfl, (Below.refl _ _).alloc (Nat.le_refl _) _⟩
set_option maxRecDepth 100000 in
set_option maxHeartbeats 1600000 in
theorem Fault_2c (o : Out) (a : Option Addr) (n c : Nat) (w : World) (hR : ArgR w o a n c) (hk : o.kind = 2) (h1 : (o.born != 0) = false) (h2 : (o.stay != 0) = false) (s1 : o.states < 2) :
  Calls Tryz.prog 6 #[.agg #[.int .i64 o.kind, .int .i64 o.born, .int .i64 o.stay, .int .i64 o.states, .int .i64 o.radius, .slice a n c, .string o.turns]] w fun e w' => e = .returned (.int .i64 1) ∧ Below w.heap.size w w' := by
 have hn := hR.len
 have hm := hR.max
 have htm := hR.tmax
 unfold maxLen at hm htm
 have z1 : ¬ o.kind < 1 := by omega
 have z2 : ¬ 3 < o.kind := by omega
 have y1 : (o.kind == 1) = false := by simp; omega
 have y2 : (o.kind == 2) = true := by simp; omega
 have y3 : (o.kind == 3) = false := by simp; omega
 clear hk
 clear hR hn
 go_enter Tryz.func6, Tryz.ntmps6
 go_wp2
 go_ret
 exact ⟨rfl, (Below.refl _ _).alloc (Nat.le_refl _) _⟩
set_option maxRecDepth 100000 in
set_option maxHeartbeats 1600000 in
theorem Fault_2d (o : Out) (a : Option Addr) (n c : Nat) (w : World) (hR : ArgR w o a n c) (hk : o.kind = 2) (h1 : (o.born != 0) = false) (h2 : (o.stay != 0) = false) (s1 : ¬ o.states < 2) (s2 : 4 < o.states) :
  Calls Tryz.prog 6 #[.agg #[.int .i64 o.kind, .int .i64 o.born, .int .i64 o.stay, .int .i64 o.states, .int .i64 o.radius, .slice a n c, .string o.turns]] w fun e w' => e = .returned (.int .i64 1) ∧ Below w.heap.size w w' := by
 have hn := hR.len
 have hm := hR.max
 have htm := hR.tmax
 unfold maxLen at hm htm
 have z1 : ¬ o.kind < 1 := by omega
 have z2 : ¬ 3 < o.kind := by omega
 have y1 : (o.kind == 1) = false := by simp; omega
 have y2 : (o.kind == 2) = true := by simp; omega
 have y3 : (o.kind == 3) = false := by simp; omega
 clear hk
 clear hR hn
 go_enter Tryz.func6, Tryz.ntmps6
 go_wp2
 go_ret
 exact ⟨rfl, (Below.refl _ _).alloc (Nat.le_refl _) _⟩
set_option maxRecDepth 100000 in
set_option maxHeartbeats 1600000 in
theorem Fault_2e (o : Out) (a : Option Addr) (n c : Nat) (w : World) (hR : ArgR w o a n c) (hk : o.kind = 2) (h1 : (o.born != 0) = false) (h2 : (o.stay != 0) = false) (s1 : ¬ o.states < 2) (s2 : ¬ 4 < o.states) (s3 : o.radius < 0) :
  Calls Tryz.prog 6 #[.agg #[.int .i64 o.kind, .int .i64 o.born, .int .i64 o.stay, .int .i64 o.states, .int .i64 o.radius, .slice a n c, .string o.turns]] w fun e w' => e = .returned (.int .i64 1) ∧ Below w.heap.size w w' := by
 have hn := hR.len
 have hm := hR.max
 have htm := hR.tmax
 unfold maxLen at hm htm
 have z1 : ¬ o.kind < 1 := by omega
 have z2 : ¬ 3 < o.kind := by omega
 have y1 : (o.kind == 1) = false := by simp; omega
 have y2 : (o.kind == 2) = true := by simp; omega
 have y3 : (o.kind == 3) = false := by simp; omega
 clear hk
 clear hR hn
 go_enter Tryz.func6, Tryz.ntmps6
 go_wp2
 go_ret
 exact ⟨rfl, (Below.refl _ _).alloc (Nat.le_refl _) _⟩
set_option maxRecDepth 100000 in
set_option maxHeartbeats 1600000 in
theorem Fault_2f (o : Out) (a : Option Addr) (n c : Nat) (w : World) (hR : ArgR w o a n c) (hk : o.kind = 2) (h1 : (o.born != 0) = false) (h2 : (o.stay != 0) = false) (s1 : ¬ o.states < 2) (s2 : ¬ 4 < o.states) (s3 : ¬ o.radius < 0) (s4 : 10 < o.radius) :
  Calls Tryz.prog 6 #[.agg #[.int .i64 o.kind, .int .i64 o.born, .int .i64 o.stay, .int .i64 o.states, .int .i64 o.radius, .slice a n c, .string o.turns]] w fun e w' => e = .returned (.int .i64 1) ∧ Below w.heap.size w w' := by
 have hn := hR.len
 have hm := hR.max
 have htm := hR.tmax
 unfold maxLen at hm htm
 have z1 : ¬ o.kind < 1 := by omega
 have z2 : ¬ 3 < o.kind := by omega
 have y1 : (o.kind == 1) = false := by simp; omega
 have y2 : (o.kind == 2) = true := by simp; omega
 have y3 : (o.kind == 3) = false := by simp; omega
 clear hk
 clear hR hn
 go_enter Tryz.func6, Tryz.ntmps6
 go_wp2
 go_ret
 exact ⟨rfl, (Below.refl _ _).alloc (Nat.le_refl _) _⟩
end Go.Proofs.YtemhcpldflcfbaaGreatDoor
