/-
  What the last text of this claim leans on, part 4: Pr4, Ref3, Rk5, Rk6, Parse, Ref4, Pr5, Gp1.
-/
import Derived.Test.YtemhcpldflcfbaaGreatDoorZj3
import Derived.Test.YtemhcpldflcfbaaGreatDoorZj1
import Derived.Defers
import Derived.Recover
import Derived.Laws.IdiomStrings
import Derived.Laws.BytesArg
namespace Go.Proofs.YtemhcpldflcfbaaGreatDoor
open Go.RowKit
set_option linter.unusedVariables false
def lineE (o : Out) : Prop := lineP o ∧ o.turns.toList.isEmpty = true
set_option maxRecDepth 100000 in
set_option maxHeartbeats 1600000 in
theorem Fault_3h (o : Out) (a : Option Addr) (n c : Nat) (w : World) (hR : ArgR w o a n c) (hk : o.kind = 3) (h1 : (o.born != 0) = false) (h2 : (o.stay != 0) = false) (l1 : (o.states != 0) = false) (l2 : (o.radius != 0) = false) (l3 : ¬ 0 < (n : Int)) (t1 : ¬ (o.turns.size : Int) < 1) (t2 : ¬ 26 < (o.turns.size : Int)) :
  Calls Tryz.prog 6 #[.agg #[.int .i64 o.kind, .int .i64 o.born, .int .i64 o.stay, .int .i64 o.states, .int .i64 o.radius, .slice a n c, .string o.turns]] w fun e w' => (e = .returned (.int .i64 0) ∧ turnsP o.turns ∨ e = .returned (.int .i64 1) ∧ ¬ turnsP o.turns) ∧ Below w.heap.size w w' := by
 have hm := hR.max
 have htm := hR.tmax
 unfold maxLen at hm htm
 have z1 : ¬ o.kind < 1 := by omega
 have z2 : ¬ 3 < o.kind := by omega
 have y1 : (o.kind == 1) = false := by simp; omega
 have y2 : (o.kind == 2) = false := by simp; omega
 have y3 : (o.kind == 3) = true := by simp; omega
 clear hk
 clear hR
 go_enter Tryz.func6, Tryz.ntmps6
 go_wp2
 go_loop [5] (fun iv => ∃ i : Nat, iv = .int .i64 (i : Int) ∧ i ≤ o.turns.size ∧ ∀ j, j < i → turnAt o.turns j) (fun iv => o.turns.size - (intOf iv).toNat)
 case atStart => exact ⟨0, rfl, by omega, fun j hj => by omega⟩
 case round =>
  obtain ⟨i, rfl, hi, hall⟩ := hrel
  have HA := hide' hall
  clear hall
  by_cases d : i < o.turns.size
  ·have d' : (i : Int) < (o.turns.size : Int) := by omega
   have e := bt_lt o.turns i d
   by_cases q1 : bt o.turns i = 76
   ·have r1 : ((o.turns[i].toNat : Int) != 76) = false := by rw [bne_eq_false_iff_eq]; omega
    have T := hide' (show turnAt o.turns i from Or.inl q1)
    clear e q1
    go_wp2
    refine ⟨⟨i + 1, by go_num, by omega, fun j hj => ?_⟩, by simp [intOf]; omega⟩
    by_cases q : j = i
    ·rw [q]; exact T.out
    ·exact HA.out j (by omega)
   ·have r1 : ((o.turns[i].toNat : Int) != 76) = true := by rw [bne_iff_ne]; omega
    by_cases q2 : bt o.turns i = 82
    ·have r2 : ((o.turns[i].toNat : Int) != 82) = false := by rw [bne_eq_false_iff_eq]; omega
     have T := hide' (show turnAt o.turns i from Or.inr q2)
     clear e q1 q2
     go_wp2
     refine ⟨⟨i + 1, by go_num, by omega, fun j hj => ?_⟩, by simp [intOf]; omega⟩
     by_cases q : j = i
     ·rw [q]; exact T.out
     ·exact HA.out j (by omega)
    ·have r2 : ((o.turns[i].toNat : Int) != 82) = true := by rw [bne_iff_ne]; omega
     have T := hide' (show ¬ turnAt o.turns i from fun h => by rcases h with h | h; exact q1 h; exact q2 h)
     clear e q1 q2
     go_wp2
     go_ret
     exact ⟨Or.inr ⟨rfl, fun p => T.out (p.2.2 i d)⟩, (Below.refl _ _).alloc (Nat.le_refl _) _⟩
  ·have d' : ¬ (i : Int) < (o.turns.size : Int) := by omega
   go_wp2
   go_ret
   exact ⟨Or.inl ⟨rfl, by omega, by omega, fun j hj => HA.out j (by omega)⟩, (Below.refl _ _).alloc (Nat.le_refl _) _⟩
set_option maxRecDepth 100000 in
set_option maxHeartbeats 3200000 in
theorem Fault_2g (o : Out) (a : Option Addr) (n c : Nat) (w : World) (hR : ArgR w o a n c) (hk : o.kind = 2) (h1 : (o.born != 0) = false) (h2 : (o.stay != 0) = false) (s1 : ¬ o.states < 2) (s2 : ¬ 4 < o.states) (s3 : ¬ o.radius < 0) (s4 : ¬ 10 < o.radius) :
  Calls Tryz.prog 6 #[.agg #[.int .i64 o.kind, .int .i64 o.born, .int .i64 o.stay, .int .i64 o.states, .int .i64 o.radius, .slice a n c, .string o.turns]] w fun e w' => (e = .returned (.int .i64 0) ∧ lineE o ∨ e = .returned (.int .i64 1) ∧ ¬ lineE o) ∧ Below w.heap.size w w' := by
 have hm := hR.max
 have htm := hR.tmax
 have hn := hR.len
 unfold maxLen at hm htm
 have RA := hide' (hR.alloc (.cells #[.int .i64 o.kind, .int .i64 o.born, .int .i64 o.stay, .int .i64 o.states, .int .i64 o.radius, .slice a n c, .string o.turns] 24))
 have z1 : ¬ o.kind < 1 := by omega
 have z2 : ¬ 3 < o.kind := by omega
 have y1 : (o.kind == 1) = false := by simp; omega
 have y2 : (o.kind == 2) = true := by simp; omega
 have y3 : (o.kind == 3) = false := by simp; omega
 clear hk
 obtain ⟨E, hE⟩ : ∃ E, E = powS o.states.toNat (2 * o.radius.toNat + 1) := ⟨_, rfl⟩
 have hep := ent_pow o.states.toNat o.radius.toNat (by omega) (by omega) (by omega)
 rw [← hE] at hep
 have EP := hide' hep
 have hE5 : E ≤ 5000 := by omega
 have HE := hide' hE
 have HN := hide' hn
 clear hE hep hR hn
 have call : ∀ (R : Int) (W : World), R = 2 * o.radius + 1 → Calls Tryz.prog 22 #[.int .i64 o.states, .int .i64 R] W fun e w' => e = .returned (.int .i64 (E : Int)) ∧ w' = W := fun R W hRR => by
  have := power_any o.states.toNat (2 * o.radius.toNat + 1) o.states R W (by omega) (by omega) (by omega) (by omega) (by omega)
  rw [← HE.out] at this
  exact this
 have CALL := hide' call
 clear call
 by_cases q1 : 4096 < E
 ·have q1' : 4096 < (E : Int) := by omega
  go_enter Tryz.func6, Tryz.ntmps6
  go_wp2_with fail
  refine (CALL.out _ _ rfl).mono ?_
  rintro e w1 ⟨rfl, rfl⟩
  go_wp2
  go_ret
  refine ⟨Or.inr ⟨rfl, fun p => ?_⟩, (Below.refl _ _).alloc (Nat.le_refl _) _⟩
  have := p.1.2.2.2.1
  have := EP.out
  omega
 have q1' : ¬ 4096 < (E : Int) := by omega
 have hEE : entOf o.states.toNat o.radius.toNat = E ∧ E ≤ 4096 := by have := EP.out; omega
 by_cases q2 : n = E
 ·have q2' : ((n : Int) != (E : Int)) = false := by rw [bne_eq_false_iff_eq]; omega
  have Q2 := hide' q2
  have HEE := hide' hEE
  clear q2 hEE
  go_enter Tryz.func6, Tryz.ntmps6
  go_wp2_with fail
  refine (CALL.out _ _ rfl).mono ?_
  rintro e w1 ⟨rfl, rfl⟩
  go_wp2
  go_loopw [4] (fun kv wr => ∃ k m : Nat, kv = .int .i64 (k : Int) ∧ k ≤ E ∧ wr = (w.alloc (.cells #[.int .i64 o.kind, .int .i64 o.born, .int .i64 o.stay, .int .i64 o.states, .int .i64 o.radius, .slice a n c, .string o.turns] 24)).drewN m ∧ ∀ j (h : j < o.table.length), j < k → 0 ≤ o.table[j] ∧ o.table[j] < o.states) (fun kv _ => E - (intOf kv).toNat)
  case atStart => exact ⟨0, 0, rfl, by omega, rfl, fun j _ hj => by omega⟩
  case round =>
   obtain ⟨k, m, rfl, hk2, rfl, hall⟩ := hrel
   have HA := hide' hall
   clear hall
   by_cases d : k < E
   ·have d' : (k : Int) < (E : Int) := by omega
    have hkl : k < o.table.length := by have := HN.out; have := Q2.out; omega
    have hkn : (k : Int) < (n : Int) := by have := Q2.out; omega
    obtain ⟨g, off, rfl, hg, hc⟩ := RA.out.cells k hkl
    by_cases e1 : 0 ≤ o.table[k]
    ·have e1' : decide (o.table[k] < 0) = false := by simp; omega
     by_cases e2 : o.table[k] < o.states
     ·have e2' : decide (o.states ≤ o.table[k]) = false := by simp; omega
      go_wp2
      go_quiet (fail)
      go_wp2
      refine ⟨⟨k + 1, m + nq, by go_num, by omega, rfl, fun j h hj => ?_⟩, by simp [intOf]; omega⟩
      by_cases q : j = k
      ·subst q; exact ⟨e1, e2⟩
      ·exact HA.out j h (by omega)
     ·have e2' : decide (o.states ≤ o.table[k]) = true := by simp; omega
      go_wp2
      go_quiet (fail)
      go_wp2
      go_ret
      exact ⟨Or.inr ⟨rfl, fun p => by have := p.1.2.2.2.2.2 k hkl; omega⟩, below_drewN (below_drewN ((Below.refl _ _).alloc (Nat.le_refl _) _) _) _⟩
    ·have e1' : decide (o.table[k] < 0) = true := by simp; omega
     go_wp2
     go_quiet (fail)
     go_wp2
     go_ret
     exact ⟨Or.inr ⟨rfl, fun p => by have := p.1.2.2.2.2.2 k hkl; omega⟩, below_drewN (below_drewN ((Below.refl _ _).alloc (Nat.le_refl _) _) _) _⟩
   ·have d' : ¬ (k : Int) < (E : Int) := by omega
    have LP : lineP o := ⟨by omega, by omega, by omega, by rw [HEE.out.1]; exact HEE.out.2, by rw [HEE.out.1, ← HN.out]; exact Q2.out, fun j h => HA.out j h (by have := HN.out; have := Q2.out; omega)⟩
    have HLP := hide' LP
    clear LP
    cases t1 : o.turns.toList.isEmpty with
    | true =>
     have T1 := hide' t1
     go_wp2
     go_ret
     exact ⟨Or.inl ⟨rfl, HLP.out, T1.out⟩, below_drewN ((Below.refl _ _).alloc (Nat.le_refl _) _) _⟩
    | false =>
     have T1 := hide' t1
     go_wp2
     go_ret
     exact ⟨Or.inr ⟨rfl, fun p => by have := p.2; rw [T1.out] at this; cases this⟩, below_drewN ((Below.refl _ _).alloc (Nat.le_refl _) _) _⟩
 ·have q2' : ((n : Int) != (E : Int)) = true := by rw [bne_iff_ne]; omega
  go_enter Tryz.func6, Tryz.ntmps6
  go_wp2_with fail
  refine (CALL.out _ _ rfl).mono ?_
  rintro e w1 ⟨rfl, rfl⟩
  go_wp2
  go_ret
  refine ⟨Or.inr ⟨rfl, fun p => ?_⟩, (Below.refl _ _).alloc (Nat.le_refl _) _⟩
  have := p.1.2.2.2.2.1
  have := HN.out
  omega
theorem Fault_any (o : Out) (a : Option Addr) (n c : Nat) (w : World) (hR : ArgR w o a n c) :
  Calls Tryz.prog 6 #[.agg #[.int .i64 o.kind, .int .i64 o.born, .int .i64 o.stay, .int .i64 o.states, .int .i64 o.radius, .slice a n c, .string o.turns]] w fun e w' => (e = .returned (.int .i64 0) ∧ Good o ∨ e = .returned (.int .i64 1) ∧ ¬ Good o) ∧ Below w.heap.size w w' := by
 have yes : Good o → Calls Tryz.prog 6 #[.agg #[.int .i64 o.kind, .int .i64 o.born, .int .i64 o.stay, .int .i64 o.states, .int .i64 o.radius, .slice a n c, .string o.turns]] w (fun e w' => e = .returned (.int .i64 0) ∧ Below w.heap.size w w') →
   Calls Tryz.prog 6 #[.agg #[.int .i64 o.kind, .int .i64 o.born, .int .i64 o.stay, .int .i64 o.states, .int .i64 o.radius, .slice a n c, .string o.turns]] w fun e w' => (e = .returned (.int .i64 0) ∧ Good o ∨ e = .returned (.int .i64 1) ∧ ¬ Good o) ∧ Below w.heap.size w w' := fun g h => h.mono fun e w' q => ⟨Or.inl ⟨q.1, g⟩, q.2⟩
 have no : ¬ Good o → Calls Tryz.prog 6 #[.agg #[.int .i64 o.kind, .int .i64 o.born, .int .i64 o.stay, .int .i64 o.states, .int .i64 o.radius, .slice a n c, .string o.turns]] w (fun e w' => e = .returned (.int .i64 1) ∧ Below w.heap.size w w') →
   Calls Tryz.prog 6 #[.agg #[.int .i64 o.kind, .int .i64 o.born, .int .i64 o.stay, .int .i64 o.states, .int .i64 o.radius, .slice a n c, .string o.turns]] w fun e w' => (e = .returned (.int .i64 0) ∧ Good o ∨ e = .returned (.int .i64 1) ∧ ¬ Good o) ∧ Below w.heap.size w w' := fun g h => h.mono fun e w' q => ⟨Or.inr ⟨q.1, g⟩, q.2⟩
 have hlen := hR.len
 by_cases k0 : o.kind < 1
 ·exact no (fun g => by rcases g with g | g | g <;> omega) (Fault_0a o a n c w hR k0)
 by_cases k4 : 3 < o.kind
 ·exact no (fun g => by rcases g with g | g | g <;> omega) (Fault_0b o a n c w hR k4)
 have nl : ∀ g : noLineB o = true, o.states = 0 ∧ o.radius = 0 ∧ n = 0 := fun g => by unfold noLineB at g; simp at g; rw [hlen]; simpa [and_assoc] using g
 have nf : ∀ g : noLifeB o = true, o.born = 0 ∧ o.stay = 0 := fun g => by unfold noLifeB at g; simpa using g
 have bb : ∀ x, bitsB x = true → 0 ≤ x ∧ x ≤ 511 := fun x g => by unfold bitsB at g; simpa using g
 have mkB : ∀ x : Int, 0 ≤ x → x ≤ 511 → bitsB x = true := fun x h1 h2 => by unfold bitsB; simp; omega
 have mkNl : o.states = 0 → o.radius = 0 → ¬ 0 < n → noLineB o = true := fun l1 l2 l3 => by
  have h : o.table.length = 0 := by omega
  unfold noLineB
  rw [l1, l2, h]
  rfl
 by_cases k1 : o.kind = 1
 ·by_cases h1 : o.born < 0
  ·exact no (fun g => by rcases g with g | g | g; have := bb _ g.2.1; omega; omega; omega) (Fault_1a o a n c w hR k1 h1)
  by_cases h2 : 511 < o.born
  ·exact no (fun g => by rcases g with g | g | g; have := bb _ g.2.1; omega; omega; omega) (Fault_1b o a n c w hR k1 h1 h2)
  by_cases h3 : o.stay < 0
  ·exact no (fun g => by rcases g with g | g | g; have := bb _ g.2.2.1; omega; omega; omega) (Fault_1c o a n c w hR k1 h1 h2 h3)
  by_cases h4 : 511 < o.stay
  ·exact no (fun g => by rcases g with g | g | g; have := bb _ g.2.2.1; omega; omega; omega) (Fault_1d o a n c w hR k1 h1 h2 h3 h4)
  by_cases l1 : o.states = 0
  ·by_cases l2 : o.radius = 0
   ·by_cases l3 : 0 < n
    ·exact no (fun g => by rcases g with g | g | g; have := nl g.2.2.2.1; omega; omega; omega) (Fault_1g o a n c w hR k1 h1 h2 h3 h4 (by simp [l1]) (by simp [l2]) (by omega))
    ·cases t1 : o.turns.toList.isEmpty with
     | false => exact no (fun g => by rcases g with g | g | g; have := g.2.2.2.2; rw [t1] at this; cases this; omega; omega) (Fault_1h o a n c w hR k1 h1 h2 h3 h4 (by simp [l1]) (by simp [l2]) (by omega) t1)
     | true => exact yes (Or.inl ⟨k1, mkB _ (by omega) (by omega), mkB _ (by omega) (by omega), mkNl l1 l2 l3, t1⟩) (Fault_1i o a n c w hR k1 h1 h2 h3 h4 (by simp [l1]) (by simp [l2]) (by omega) t1)
   ·exact no (fun g => by rcases g with g | g | g; have := nl g.2.2.2.1; omega; omega; omega) (Fault_1f o a n c w hR k1 h1 h2 h3 h4 (by simp [l1]) (by simpa using l2))
  ·exact no (fun g => by rcases g with g | g | g; have := nl g.2.2.2.1; omega; omega; omega) (Fault_1e o a n c w hR k1 h1 h2 h3 h4 (by simpa using l1))
 by_cases h1 : o.born = 0
 case neg =>
  by_cases k2 : o.kind = 2
  ·exact no (fun g => by rcases g with g | g | g; omega; have := nf g.2.2.1; omega; omega) (Fault_2a o a n c w hR k2 (by simpa using h1))
  ·exact no (fun g => by rcases g with g | g | g; omega; omega; have := nf g.2.2.1; omega) (Fault_3a o a n c w hR (by omega) (by simpa using h1))
 by_cases h2 : o.stay = 0
 case neg =>
  by_cases k2 : o.kind = 2
  ·exact no (fun g => by rcases g with g | g | g; omega; have := nf g.2.2.1; omega; omega) (Fault_2b o a n c w hR k2 (by simp [h1]) (by simpa using h2))
  ·exact no (fun g => by rcases g with g | g | g; omega; omega; have := nf g.2.2.1; omega) (Fault_3b o a n c w hR (by omega) (by simp [h1]) (by simpa using h2))
 have hnf : noLifeB o = true := by unfold noLifeB; simp [h1, h2]
 by_cases k2 : o.kind = 2
 ·by_cases s1 : o.states < 2
  ·exact no (fun g => by rcases g with g | g | g; omega; have := g.2.1.1; omega; omega) (Fault_2c o a n c w hR k2 (by simp [h1]) (by simp [h2]) s1)
  by_cases s2 : 4 < o.states
  ·exact no (fun g => by rcases g with g | g | g; omega; have := g.2.1.2.1; omega; omega) (Fault_2d o a n c w hR k2 (by simp [h1]) (by simp [h2]) s1 s2)
  by_cases s3 : o.radius < 0
  ·exact no (fun g => by rcases g with g | g | g; omega; have := g.2.1.2.2.1; omega; omega) (Fault_2e o a n c w hR k2 (by simp [h1]) (by simp [h2]) s1 s2 s3)
  by_cases s4 : 10 < o.radius
  ·exact no (fun g => by rcases g with g | g | g; omega; have := g.2.1.2.2.2.1; have := ent_far o.states.toNat o.radius.toNat (by omega) (by omega) (by omega); omega; omega) (Fault_2f o a n c w hR k2 (by simp [h1]) (by simp [h2]) s1 s2 s3 s4)
  refine (Fault_2g o a n c w hR k2 (by simp [h1]) (by simp [h2]) s1 s2 s3 s4).mono fun e w' q => ⟨?_, q.2⟩
  rcases q.1 with ⟨he, hl⟩ | ⟨he, hl⟩
  ·exact Or.inl ⟨he, Or.inr (Or.inl ⟨k2, hl.1, hnf, hl.2⟩)⟩
  ·exact Or.inr ⟨he, fun g => by rcases g with g | g | g; omega; exact hl ⟨g.2.1, g.2.2.2⟩; omega⟩
 have k3 : o.kind = 3 := by omega
 by_cases l1 : o.states = 0
 case neg => exact no (fun g => by rcases g with g | g | g; omega; omega; have := nl g.2.2.2; omega) (Fault_3c o a n c w hR k3 (by simp [h1]) (by simp [h2]) (by simpa using l1))
 by_cases l2 : o.radius = 0
 case neg => exact no (fun g => by rcases g with g | g | g; omega; omega; have := nl g.2.2.2; omega) (Fault_3d o a n c w hR k3 (by simp [h1]) (by simp [h2]) (by simp [l1]) (by simpa using l2))
 by_cases l3 : 0 < n
 ·exact no (fun g => by rcases g with g | g | g; omega; omega; have := nl g.2.2.2; omega) (Fault_3e o a n c w hR k3 (by simp [h1]) (by simp [h2]) (by simp [l1]) (by simp [l2]) (by omega))
 have hnl : noLineB o = true := mkNl l1 l2 l3
 by_cases t1 : o.turns.size < 1
 ·exact no (fun g => by rcases g with g | g | g; omega; omega; have := g.2.1.1; omega) (Fault_3f o a n c w hR k3 (by simp [h1]) (by simp [h2]) (by simp [l1]) (by simp [l2]) (by omega) (by omega))
 by_cases t2 : 26 < o.turns.size
 ·exact no (fun g => by rcases g with g | g | g; omega; omega; have := g.2.1.2.1; omega) (Fault_3g o a n c w hR k3 (by simp [h1]) (by simp [h2]) (by simp [l1]) (by simp [l2]) (by omega) (by omega) (by omega))
 refine (Fault_3h o a n c w hR k3 (by simp [h1]) (by simp [h2]) (by simp [l1]) (by simp [l2]) (by omega) (by omega) (by omega)).mono fun e w' q => ⟨?_, q.2⟩
 rcases q.1 with ⟨he, hl⟩ | ⟨he, hl⟩
 ·exact Or.inl ⟨he, Or.inr (Or.inr ⟨k3, hl, hnf, hnl⟩)⟩
 ·exact Or.inr ⟨he, fun g => by rcases g with g | g | g; omega; omega; exact hl g.2.1⟩

theorem Fresh.old {w w' : World} {v : Value} (h : Fresh w' v) (hs : w.heap.size ≤ w'.heap.size) : Fresh w v := fun g k c q => Nat.le_trans hs (h g k c q)
theorem Tab.alloc {w : World} {v : Value} {xs : List Int} (h : Tab w v xs) (o : Obj) : Tab (w.alloc o) v xs := by
 rcases h with h | ⟨g, cap, hv, hg, hc⟩
 ·exact Or.inl h
 ·have e : (w.alloc o).heap[g]? = w.heap[g]? := Below.heap_alloc _ _ _ hg
  exact Or.inr ⟨g, cap, hv, by rw [World.size_alloc]; omega, fun k hk => (World.cell?_of_block (w := w) (a := ⟨g, k, none⟩) e).trans (hc k hk)⟩
theorem Tab.drewN {w : World} {v : Value} {xs : List Int} (h : Tab w v xs) (n : Nat) : Tab (w.drewN n) v xs := h
def setRule (w : World) (g : Nat) (v0 v1 v2 v3 v4 v5 v6 : Value) : World :=
 ((((((w.setCell ⟨g, 0, none⟩ v0).setCell ⟨g, 1, none⟩ v1).setCell ⟨g, 2, none⟩ v2).setCell ⟨g, 3, none⟩ v3).setCell ⟨g, 4, none⟩ v4).setCell ⟨g, 5, none⟩ v5).setCell ⟨g, 6, none⟩ v6
structure Seven (w : World) (g : Nat) (v0 v1 v2 v3 v4 v5 v6 : Value) : Prop where
 c0 : w.cell? ⟨g, 0, none⟩ = some v0
 c1 : w.cell? ⟨g, 1, none⟩ = some v1
 c2 : w.cell? ⟨g, 2, none⟩ = some v2
 c3 : w.cell? ⟨g, 3, none⟩ = some v3
 c4 : w.cell? ⟨g, 4, none⟩ = some v4
 c5 : w.cell? ⟨g, 5, none⟩ = some v5
 c6 : w.cell? ⟨g, 6, none⟩ = some v6
theorem Seven.set {w : World} {g : Nat} {u0 u1 u2 u3 u4 u5 u6 v0 v1 v2 v3 v4 v5 v6 : Value} (h : Seven w g u0 u1 u2 u3 u4 u5 u6) : Seven (setRule w g v0 v1 v2 v3 v4 v5 v6) g v0 v1 v2 v3 v4 v5 v6 := by
 obtain ⟨c0, c1, c2, c3, c4, c5, c6⟩ := h
 unfold setRule
 constructor <;> simp [go_sem, c0, c1, c2, c3, c4, c5, c6]
theorem Seven.other {w : World} {g : Nat} {v0 v1 v2 v3 v4 v5 v6 : Value} (h : Seven w g v0 v1 v2 v3 v4 v5 v6) {p : Addr} (hp : p.block ≠ g) (u : Value) : Seven (w.setCell p u) g v0 v1 v2 v3 v4 v5 v6 := by
 have e : (w.setCell p u).heap[g]? = w.heap[g]? := Below.heap_setCell _ _ _ _ (fun q => hp q.symm)
 obtain ⟨c0, c1, c2, c3, c4, c5, c6⟩ := h
 exact ⟨(World.cell?_of_block (w := w) (a := ⟨g, 0, none⟩) e).trans c0, (World.cell?_of_block (w := w) (a := ⟨g, 1, none⟩) e).trans c1, (World.cell?_of_block (w := w) (a := ⟨g, 2, none⟩) e).trans c2, (World.cell?_of_block (w := w) (a := ⟨g, 3, none⟩) e).trans c3, (World.cell?_of_block (w := w) (a := ⟨g, 4, none⟩) e).trans c4, (World.cell?_of_block (w := w) (a := ⟨g, 5, none⟩) e).trans c5, (World.cell?_of_block (w := w) (a := ⟨g, 6, none⟩) e).trans c6⟩
theorem Tab.block {w w' : World} {v : Value} {xs : List Int} (h : Tab w v xs) (hs : w'.heap.size = w.heap.size) (hb : ∀ g k c, v = .slice (some ⟨g, 0, none⟩) k c → w'.heap[g]? = w.heap[g]?) : Tab w' v xs := by
 rcases h with h | ⟨g, cap, hv, hg, hc⟩
 ·exact Or.inl h
 ·exact Or.inr ⟨g, cap, hv, by rw [hs]; exact hg, fun k hk => (World.cell?_of_block (w := w) (a := ⟨g, k, none⟩) (hb g _ _ hv)).trans (hc k hk)⟩
structure RefW (w wr : World) (k st ra : Int) (v : Value) (xs : List Int) : Prop where
 below : Below w.heap.size w wr
 size : w.heap.size + 3 ≤ wr.heap.size
 res : Seven wr w.heap.size (.int .i64 0) (.int .i64 0) (.int .i64 0) (.int .i64 0) (.int .i64 0) (.slice none 0 0) (.string ⟨#[]⟩)
 rr : Seven wr (w.heap.size + 1) (.int .i64 k) (.int .i64 0) (.int .i64 0) (.int .i64 st) (.int .i64 ra) v (.string ⟨#[]⟩)
 no : Seven wr (w.heap.size + 1 + 1) (.int .i64 0) (.int .i64 0) (.int .i64 0) (.int .i64 0) (.int .i64 0) (.slice none 0 0) (.string ⟨#[]⟩)
 fz : ∀ b j, w.heap.size ≤ b → b < w.heap.size + 3 → wr.frozen? ⟨b, j, none⟩ = false
 own : wr.ownsRow (w.heap.size + 3) 3 1 v xs.length (xs.map fun x => .int .i64 x)
theorem Seven.block {w w' : World} {g : Nat} {v0 v1 v2 v3 v4 v5 v6 : Value} (h : Seven w g v0 v1 v2 v3 v4 v5 v6) (e : w'.heap[g]? = w.heap[g]?) : Seven w' g v0 v1 v2 v3 v4 v5 v6 := by
 obtain ⟨c0, c1, c2, c3, c4, c5, c6⟩ := h
 exact ⟨(World.cell?_of_block (w := w) (a := ⟨g, 0, none⟩) e).trans c0, (World.cell?_of_block (w := w) (a := ⟨g, 1, none⟩) e).trans c1, (World.cell?_of_block (w := w) (a := ⟨g, 2, none⟩) e).trans c2, (World.cell?_of_block (w := w) (a := ⟨g, 3, none⟩) e).trans c3, (World.cell?_of_block (w := w) (a := ⟨g, 4, none⟩) e).trans c4, (World.cell?_of_block (w := w) (a := ⟨g, 5, none⟩) e).trans c5, (World.cell?_of_block (w := w) (a := ⟨g, 6, none⟩) e).trans c6⟩
theorem Seven.set5 {w : World} {g : Nat} {v0 v1 v2 v3 v4 v5 v6 : Value} (h : Seven w g v0 v1 v2 v3 v4 v5 v6) (u : Value) : Seven (w.setCell ⟨g, 5, none⟩ u) g v0 v1 v2 v3 v4 u v6 := by
 obtain ⟨c0, c1, c2, c3, c4, c5, c6⟩ := h
 constructor <;> simp [go_sem, c0, c1, c2, c3, c4, c5, c6]
theorem RefW.start (w : World) (k st ra : Int) : RefW w (((w.alloc (.cells zeroCells 24)).alloc (.cells #[.int .i64 k, .int .i64 0, .int .i64 0, .int .i64 st, .int .i64 ra, .slice none 0 0, .string ⟨#[]⟩] 24)).alloc (.cells zeroCells 24)) k st ra (.slice none 0 0) [] := by
 refine ⟨?_, by simp, ?_, ?_, ?_, ?_, ⟨by simp, Or.inl ⟨rfl, by simp⟩⟩⟩
 ·exact (((Below.refl _ _).alloc (Nat.le_refl _) _).alloc (by simp) _).alloc (by simp; omega) _
 ·constructor <;> simp [go_sem, zeroCells]
 ·constructor <;> simp [go_sem]
 ·constructor <;> simp [go_sem, zeroCells]
 ·intro b j h1 h2
  have h3 : b = w.heap.size ∨ b = w.heap.size + 1 ∨ b = w.heap.size + 1 + 1 := by omega
  rcases h3 with rfl | rfl | rfl <;> simp [go_sem]
theorem RefW.push {w wr w' : World} {k st ra : Int} {v v' : Value} {xs : List Int} {x : Int} (h : RefW w wr k st ra v xs)
  (hg : (wr.alloc (.cells #[.int .i64 x] 3)).grownBy w' v.ownBlock) (ho : w'.ownsRow (w.heap.size + 3) 3 1 v' (xs.length + 1) ((xs.map fun x => .int .i64 x) ++ [.int .i64 x])) :
  RefW w (w'.setCell ⟨w.heap.size + 1, 5, none⟩ v') k st ra v' (xs ++ [x]) := by
 have hz := h.size
 have hob := ownsRow_block h.own
 have hb : ∀ b, b < w.heap.size + 3 → w'.heap[b]? = wr.heap[b]? := fun b hb => by
  rw [hg.block b (by rw [World.size_alloc]; omega) (fun e => by have := hob b e.symm; omega)]
  exact Below.heap_alloc _ _ _ (by omega)
 have hsz : wr.heap.size + 1 ≤ w'.heap.size := by have := hg.size; rw [World.size_alloc] at this; exact this
 have B1 : Below w.heap.size w w' := (h.below.alloc (by omega) _).trans ⟨hg.os, hg.tape, hg.output, hg.size, fun b hbb => hg.block b (by rw [World.size_alloc]; omega) (fun e => by have := hob b e.symm; omega)⟩
 refine ⟨B1.setCell (by simp) _, by rw [World.size_setCell]; omega, ?_, ?_, ?_, ?_, ?_⟩
 ·exact (h.res.block (hb _ (by omega))).other (by simp) _
 ·exact (h.rr.block (hb _ (by omega))).set5 _
 ·exact (h.no.block (hb _ (by omega))).other (by simp) _
 ·intro b j h1 h2
  rw [World.frozen?_setCell, World.frozen?_of_block (w := wr) (a := ⟨b, j, none⟩) (hb b h2)]
  exact h.fz b j h1 h2
 ·have := ownsRow_setCell_below ho (a := ⟨w.heap.size + 1, 5, none⟩) (by simp) v'
  simpa using this
def bval (b : UInt8) : Value := .int .u8 (b.toNat : Int)
def dl (n k : Nat) : List UInt8 := ((List.range k).filter fun i => n / 2 ^ i % 2 == 1).map fun i => UInt8.ofNat (48 + i)
structure Row8 (w wr : World) (v : Value) (l : List UInt8) : Prop where
 below : Below w.heap.size w wr
 own : wr.ownsRow w.heap.size 5 1 v l.length (l.map bval)
theorem Row8.start (w : World) : Row8 w w (.slice none 0 0) [] := ⟨Below.refl _ _, by simp, Or.inl ⟨rfl, by simp⟩⟩
theorem Row8.push {w wr w' : World} {v v' : Value} {l : List UInt8} {b : UInt8} {x : Value} (h : Row8 w wr v l) (hx : bval b = x)
  (hg : (wr.alloc (.cells #[x] 5)).grownBy w' v.ownBlock) (ho : w'.ownsRow w.heap.size 5 1 v' (l.length + 1) (l.map bval ++ [x])) : Row8 w w' v' (l ++ [b]) := by
 have hz := h.below.size
 have hob := ownsRow_block h.own
 refine ⟨(h.below.alloc hz _).trans ⟨hg.os, hg.tape, hg.output, hg.size, fun k hk => hg.block k (by rw [World.size_alloc]; omega) (fun e => by have := hob k e.symm; omega)⟩, ?_⟩
 simpa [hx] using ho
def bitN (n i : Nat) : Nat := n / 2 ^ i % 2
set_option maxRecDepth 100000 in
set_option maxHeartbeats 3200000 in
theorem refBit_any (n i : Nat) (w : World) (hn : n ≤ 511) (hi : i ≤ 9) :
  Calls Tryz.prog 64 #[.int .i64 (n : Int), .int .i64 (i : Int)] w fun e w' => e = .returned (.int .i64 ((bitN n i : Nat) : Int)) ∧ w' = w := by
 obtain ⟨r, hr⟩ : ∃ r, bitN n i = r := ⟨_, rfl⟩
 have HR := hide' hr
 rw [hr]
 clear hr
 go_enter Tryz.func64, Tryz.ntmps64
 go_wp2
 go_loopw [0, 5] (fun nv kv wr => ∃ k m : Nat, kv = .int .i64 (k : Int) ∧ nv = .int .i64 (m : Int) ∧ k ≤ i ∧ m ≤ 511 ∧ wr = w ∧ Hid (m = n / 2 ^ k)) (fun _ kv _ => i - (intOf kv).toNat)
 case atStart => exact ⟨0, n, rfl, rfl, by omega, hn, rfl, hide' (by simp)⟩
 case round =>
  obtain ⟨k, m, rfl, rfl, hk, hm, rfl, HM⟩ := hrel
  by_cases d : (k : Int) < (i : Int)
  ·obtain ⟨m2, h2⟩ : ∃ m2, m / 2 = m2 := ⟨_, rfl⟩
   have e1 : (m : Int).tdiv 2 = (m2 : Int) := by rw [Int.tdiv_eq_ediv_of_nonneg (by omega), ← h2]; simp
   have N2 := hide' (show m2 = n / 2 ^ (k + 1) by rw [← h2, HM.out, Nat.pow_succ, Nat.div_div_eq_div_mul])
   have m2l : m2 ≤ 511 := by omega
   clear h2
   go_wp2
   exact ⟨⟨k + 1, m2, by go_num, rfl, by omega, m2l, by first | trivial | rfl, N2⟩, by simp [intOf]; omega⟩
  ·have ki : k = i := by omega
   subst ki
   have e1 : (m : Int).tmod 2 = (r : Int) := by rw [Int.tmod_eq_emod_of_nonneg (by omega), ← HR.out, bitN, ← HM.out]; simp
   go_wp2
   go_ret
   exact ⟨rfl, by first | trivial | rfl⟩
def becN (born stay : Nat) (c : Int) (n : Nat) : Nat := if c = 1 then bitN stay n else bitN born n
set_option maxRecDepth 100000 in
set_option maxHeartbeats 3200000 in
theorem refBecomes_any (k c st ra : Int) (born stay : Nat) (ta : Option Addr) (tn tc : Nat) (s : ByteArray) (n : Nat) (w : World) (hb : born ≤ 511) (hs : stay ≤ 511) (hn : n ≤ 9) :
  Calls Tryz.prog 67 #[.agg #[.int .i64 k, .int .i64 (born : Int), .int .i64 (stay : Int), .int .i64 st, .int .i64 ra, .slice ta tn tc, .string s], .int .i64 c, .int .i64 (n : Int)] w fun e w' => e = .returned (.int .i64 ((becN born stay c n : Nat) : Int)) ∧ Below w.heap.size w w' := by
 obtain ⟨w1, hw1⟩ : ∃ w1, w.alloc (.cells #[.int .i64 k, .int .i64 (born : Int), .int .i64 (stay : Int), .int .i64 st, .int .i64 ra, .slice ta tn tc, .string s] 24) = w1 := ⟨_, rfl⟩
 have BB := hide' (show Below w.heap.size w w1 by rw [← hw1]; exact (Below.refl _ _).alloc (Nat.le_refl _) _)
 have x1 : w1.cell? ⟨w.heap.size, 1, none⟩ = some (.int .i64 (born : Int)) := by rw [← hw1, World.cell?_alloc_at _ _ _ _ rfl]; rfl
 have x2 : w1.cell? ⟨w.heap.size, 2, none⟩ = some (.int .i64 (stay : Int)) := by rw [← hw1, World.cell?_alloc_at _ _ _ _ rfl]; rfl
 obtain ⟨r, hr⟩ : ∃ r, becN born stay c n = r := ⟨_, rfl⟩
 rw [hr]
 by_cases d : c = 1
 ·have d1 : (c == 1) = true := by simp [d]
  have HR := hide' (show bitN stay n = r by rw [← hr, becN, if_pos d])
  clear hr d
  go_enter Tryz.func67, Tryz.ntmps67
  go_wp2_with fail
  refine (refBit_any stay n _ hs hn).mono ?_
  rw [HR.out]
  rintro e w2 ⟨rfl, rfl⟩
  go_wp2
  go_ret
  exact ⟨rfl, BB.out⟩
 ·have d1 : (c == 1) = false := by simp [d]
  have HR := hide' (show bitN born n = r by rw [← hr, becN, if_neg d])
  clear hr d
  go_enter Tryz.func67, Tryz.ntmps67
  go_wp2_with fail
  refine (refBit_any born n _ hb hn).mono ?_
  rw [HR.out]
  rintro e w2 ⟨rfl, rfl⟩
  go_wp2
  go_ret
  exact ⟨rfl, BB.out⟩
end Go.Proofs.YtemhcpldflcfbaaGreatDoor
