/-
  What the last text of this claim leans on, part 2: Pr1, Pr2.
-/
import Derived.Test.YtemhcpldflcfbaaGreatDoorZj1
namespace Go.Proofs.YtemhcpldflcfbaaGreatDoor
open Go.RowKit
set_option linter.unusedVariables false
structure ArgR (w : World) (o : Out) (a : Option Addr) (n c : Nat) : Prop where
 len : n = o.table.length
 max : n ≤ maxLen
 tmax : o.turns.size ≤ maxLen
 cells : ∀ k (h : k < o.table.length), ∃ g off, a = some ⟨g, off, none⟩ ∧ g < w.heap.size ∧ w.cell? ⟨g, off + k, none⟩ = some (.int .i64 o.table[k])
 rmax : o.radius ≤ 9223372036854775807
theorem ArgR.below {w w' : World} {o : Out} {a : Option Addr} {n c : Nat} (h : ArgR w o a n c) (hb : Below w.heap.size w w') : ArgR w' o a n c :=
 ⟨h.len, h.max, h.tmax, fun k hk => by
  obtain ⟨g, off, e, hg, hc⟩ := h.cells k hk
  exact ⟨g, off, e, Nat.lt_of_lt_of_le hg hb.size, (World.cell?_of_block (w := w) (a := ⟨g, off + k, none⟩) (hb.block g hg)).trans hc⟩, h.rmax⟩
theorem ArgR.alloc {w : World} {o : Out} {a : Option Addr} {n c : Nat} (h : ArgR w o a n c) (x : Obj) : ArgR (w.alloc x) o a n c :=
 h.below ((Below.refl _ _).alloc (Nat.le_refl _) _)
def bitsB (n : Int) : Bool := decide (0 ≤ n) && decide (n ≤ 511)
def noLifeB (o : Out) : Bool := (o.born == 0) && (o.stay == 0)
def noLineB (o : Out) : Bool := (o.states == 0) && (o.radius == 0) && decide (o.table.length = 0)
def turnAt (t : ByteArray) (i : Nat) : Prop := bt t i = 76 ∨ bt t i = 82
def turnsP (t : ByteArray) : Prop := 1 ≤ t.size ∧ t.size ≤ 26 ∧ ∀ i, i < t.size → turnAt t i
def lineP (o : Out) : Prop := 2 ≤ o.states ∧ o.states ≤ 4 ∧ 0 ≤ o.radius ∧ entOf o.states.toNat o.radius.toNat ≤ 4096 ∧ o.table.length = entOf o.states.toNat o.radius.toNat ∧ ∀ k (h : k < o.table.length), 0 ≤ o.table[k] ∧ o.table[k] < o.states
theorem isBits_any (n : Int) (w : World) :
  Calls Tryz.prog 77 #[.int .i64 n] w fun e w' => e = .returned (.bool (bitsB n)) ∧ w' = w := by
 by_cases h1 : 0 ≤ n
 ·by_cases h2 : n ≤ 511
  ·rw [show bitsB n = true by unfold bitsB; simp; omega]
   go_enter Tryz.func77, Tryz.ntmps77
   go_wp2
   go_ret
   exact ⟨rfl, rfl⟩
  ·rw [show bitsB n = false by unfold bitsB; simp; omega]
   go_enter Tryz.func77, Tryz.ntmps77
   go_wp2
   go_ret
   exact ⟨rfl, rfl⟩
 ·rw [show bitsB n = false by unfold bitsB; simp; omega]
  go_enter Tryz.func77, Tryz.ntmps77
  go_wp2
  go_ret
  exact ⟨rfl, rfl⟩
theorem hasNoLife_any (o : Out) (a : Option Addr) (n c : Nat) (w : World) :
  Calls Tryz.prog 80 #[o.val (.slice a n c)] w fun e w' => e = .returned (.bool (noLifeB o)) ∧ Below w.heap.size w w' := by
 unfold noLifeB Out.val
 cases h1 : (o.born == 0)
 ·go_enter Tryz.func80, Tryz.ntmps80
  go_wp2
  go_ret
  exact ⟨rfl, (Below.refl _ _).alloc (Nat.le_refl _) _⟩
 ·cases h2 : (o.stay == 0)
  all_goals
   go_enter Tryz.func80, Tryz.ntmps80
   go_wp2
   go_ret
   exact ⟨rfl, (Below.refl _ _).alloc (Nat.le_refl _) _⟩
theorem hasNoLine_any (o : Out) (a : Option Addr) (n c : Nat) (w : World) (hn : n = o.table.length) (hm : n ≤ maxLen) :
  Calls Tryz.prog 78 #[o.val (.slice a n c)] w fun e w' => e = .returned (.bool (noLineB o)) ∧ Below w.heap.size w w' := by
 unfold noLineB Out.val
 rw [← hn]
 clear hn
 unfold maxLen at hm
 cases h1 : (o.states == 0)
 ·go_enter Tryz.func78, Tryz.ntmps78
  go_wp2
  go_ret
  exact ⟨rfl, (Below.refl _ _).alloc (Nat.le_refl _) _⟩
 ·cases h2 : (o.radius == 0)
  ·go_enter Tryz.func78, Tryz.ntmps78
   go_wp2
   go_ret
   exact ⟨rfl, (Below.refl _ _).alloc (Nat.le_refl _) _⟩
  ·by_cases h3 : n = 0
   ·have h4 : ((n : Int) == 0) = true := by simp; omega
    rw [show decide (n = 0) = true by simp [h3]]
    clear h3
    go_enter Tryz.func78, Tryz.ntmps78
    go_wp2
    go_ret
    exact ⟨rfl, (Below.refl _ _).alloc (Nat.le_refl _) _⟩
   ·have h4 : ((n : Int) == 0) = false := by simp; omega
    rw [show decide (n = 0) = false by simp [h3]]
    clear h3
    go_enter Tryz.func78, Tryz.ntmps78
    go_wp2
    go_ret
    exact ⟨rfl, (Below.refl _ _).alloc (Nat.le_refl _) _⟩
set_option maxHeartbeats 800000 in
theorem isTurns_any (t : ByteArray) (w : World) (ht : t.size ≤ maxLen) :
  Calls Tryz.prog 81 #[.string t] w fun e w' => (e = .returned (.bool true) ∧ turnsP t ∨ e = .returned (.bool false) ∧ ¬ turnsP t) ∧ w' = w := by
 unfold maxLen at ht
 by_cases h1 : t.size < 1
 ·have h1' : (t.size : Int) < 1 := by omega
  go_enter Tryz.func81, Tryz.ntmps81
  go_wp2
  go_ret
  exact ⟨Or.inr ⟨rfl, fun h => by have := h.1; omega⟩, rfl⟩
 have h1' : ¬ (t.size : Int) < 1 := by omega
 by_cases h2 : 26 < t.size
 ·have h2' : 26 < (t.size : Int) := by omega
  go_enter Tryz.func81, Tryz.ntmps81
  go_wp2
  go_ret
  exact ⟨Or.inr ⟨rfl, fun h => by have := h.2.1; omega⟩, rfl⟩
 have h2' : ¬ 26 < (t.size : Int) := by omega
 go_enter Tryz.func81, Tryz.ntmps81
 go_wp2
 go_loop [3] (fun iv => ∃ i : Nat, iv = .int .i64 (i : Int) ∧ i ≤ t.size ∧ ∀ j, j < i → turnAt t j) (fun iv => t.size - (intOf iv).toNat)
 case atStart => exact ⟨0, rfl, by omega, fun j hj => by omega⟩
 case round =>
  obtain ⟨i, rfl, hi, hall⟩ := hrel
  have HA := hide' hall
  clear hall
  by_cases c : i < t.size
  ·have c' : (i : Int) < (t.size : Int) := by omega
   have e := bt_lt t i c
   by_cases d : bt t i = 76 ∨ bt t i = 82
   ·have D := hide' (show ((t[i].toNat : Int) = 76 ∨ (t[i].toNat : Int) = 82) by omega)
    have DD := hide' d
    clear d e
    go_wp2_with fail
    refine (isTurn_yes _ _ D.out).mono ?_
    rintro e w1 ⟨rfl, rfl⟩
    go_wp2
    refine ⟨⟨i + 1, by go_num, by omega, fun j hj => ?_⟩, by simp [intOf]; omega⟩
    by_cases q : j = i
    ·rw [q]; exact DD.out
    ·exact HA.out j (by omega)
   ·have D := hide' (show ¬ ((t[i].toNat : Int) = 76 ∨ (t[i].toNat : Int) = 82) by omega)
    have DD := hide' d
    clear d e
    go_wp2_with fail
    refine (isTurn_no _ _ D.out).mono ?_
    rintro e w1 ⟨rfl, rfl⟩
    go_wp2
    go_ret
    exact ⟨Or.inr ⟨rfl, fun h => DD.out (h.2.2 i c)⟩, rfl⟩
  ·have c' : ¬ (i : Int) < (t.size : Int) := by omega
   go_wp2
   go_ret
   exact ⟨Or.inl ⟨rfl, by omega, by omega, fun j hj => HA.out j (by omega)⟩, rfl⟩
set_option maxHeartbeats 800000 in
theorem entries_far (n m : Nat) (N M : Int) (w : World) (hN : N = n) (hM : M = m) (hn : 2 ≤ n) (hn' : n ≤ 4) (hm : m ≤ 9223372036854775807) :
  Calls Tryz.prog 105 #[.int .i64 N, .int .i64 M] w fun e w' => e = .returned (.int .i64 ((entOf n m : Nat) : Int)) ∧ w' = w := by
 subst hN hM
 have h1 : n = 2 ∨ n = 3 ∨ n = 4 := by omega
 rcases h1 with rfl | rfl | rfl
 all_goals
  go_enter Tryz.func105, Tryz.ntmps105
  go_wp2
  go_loop [5, 6] (fun ev iv => ∃ k e : Nat, iv = .int .i64 (k : Int) ∧ ev = .int .i64 (e : Int) ∧ k ≤ m ∧ e ≤ 65536 ∧ entF _ (m - k) e = entOf _ m) (fun _ iv => m - (intOf iv).toNat)
  case atStart => exact ⟨0, _, rfl, rfl, by omega, by omega, rfl⟩
  case round =>
   obtain ⟨k, e, rfl, rfl, hk, he, hent⟩ := hrel
   have HE := hide hent
   clear hent
   by_cases hkm : (k : Int) < (m : Int)
   ·by_cases hee : (e : Int) ≤ 4096
    ·go_wp2
     have e1 := unhide HE
     rw [show m - k = (m - (k + 1)) + 1 by omega, entF, if_pos (by omega)] at e1
     refine ⟨⟨k + 1, _, by go_num, ?_, by omega, ?_, e1⟩, by simp [intOf]; omega⟩
     ·go_num
     ·omega
    ·go_wp2
     go_ret
     have e1 := unhide HE
     rw [entF_stop (by omega)] at e1
     rw [← e1]
     exact ⟨rfl, rfl⟩
   ·go_wp2
    go_ret
    have e1 := unhide HE
    rw [show m - k = 0 by omega, entF] at e1
    rw [← e1]
    exact ⟨rfl, rfl⟩
set_option maxHeartbeats 1600000 in
theorem isLine_off (o : Out) (a : Option Addr) (n c : Nat) (w : World) (h : ¬ (2 ≤ o.states ∧ o.states ≤ 4 ∧ 0 ≤ o.radius)) :
  Calls Tryz.prog 79 #[o.val (.slice a n c)] w fun e w' => e = .returned (.bool false) ∧ Below w.heap.size w w' := by
 unfold Out.val
 by_cases h1 : o.states < 2
 ·clear h
  go_enter Tryz.func79, Tryz.ntmps79
  go_wp2
  go_ret
  exact ⟨rfl, (Below.refl _ _).alloc (Nat.le_refl _) _⟩
 by_cases h2 : 4 < o.states
 ·clear h
  go_enter Tryz.func79, Tryz.ntmps79
  go_wp2
  go_ret
  exact ⟨rfl, (Below.refl _ _).alloc (Nat.le_refl _) _⟩
 ·have h3 : o.radius < 0 := by omega
  clear h
  go_enter Tryz.func79, Tryz.ntmps79
  go_wp2
  go_ret
  exact ⟨rfl, (Below.refl _ _).alloc (Nat.le_refl _) _⟩
set_option maxHeartbeats 1600000 in
theorem isLine_on (o : Out) (a : Option Addr) (n c : Nat) (w : World) (hR : ArgR w o a n c) (h1 : 2 ≤ o.states) (h2 : o.states ≤ 4) (h3 : 0 ≤ o.radius) :
  Calls Tryz.prog 79 #[o.val (.slice a n c)] w fun e w' => (e = .returned (.bool true) ∧ lineP o ∨ e = .returned (.bool false) ∧ ¬ lineP o) ∧ Below w.heap.size w w' := by
 have hn := hR.len
 have hm := hR.max
 unfold maxLen at hm
 have hr := hR.rmax
 have RA := hide' (hR.alloc (.cells #[.int .i64 o.kind, .int .i64 o.born, .int .i64 o.stay, .int .i64 o.states, .int .i64 o.radius, .slice a n c, .string o.turns] 24))
 obtain ⟨E, hE⟩ : ∃ E, E = entOf o.states.toNat o.radius.toNat := ⟨_, rfl⟩
 have k1 : ¬ o.states < 2 := by omega
 have k2 : ¬ 4 < o.states := by omega
 have k3 : ¬ o.radius < 0 := by omega
 have HE := hide' hE
 have HN := hide' hn
 clear hE hn hR
 unfold Out.val
 have call : ∀ W : World, Calls Tryz.prog 105 #[.int .i64 o.states, .int .i64 o.radius] W fun e w' => e = .returned (.int .i64 (E : Int)) ∧ w' = W := fun W => by
  have := entries_far o.states.toNat o.radius.toNat o.states o.radius W (by omega) (by omega) (by omega) (by omega) (by omega)
  rw [← HE.out] at this
  exact this
 have CALL := hide' call
 clear call
 by_cases q1 : 4096 < E
 ·have q1' : 4096 < (E : Int) := by omega
  go_enter Tryz.func79, Tryz.ntmps79
  go_wp2_with fail
  refine (CALL.out _).mono ?_
  rintro e w1 ⟨rfl, rfl⟩
  go_wp2
  go_ret
  exact ⟨Or.inr ⟨rfl, fun p => by have := p.2.2.2.1; rw [← HE.out] at this; omega⟩, (Below.refl _ _).alloc (Nat.le_refl _) _⟩
 have q1' : ¬ 4096 < (E : Int) := by omega
 by_cases q2 : n = E
 ·have q2' : ((n : Int) != (E : Int)) = false := by rw [bne_eq_false_iff_eq]; omega
  have Q2 := hide' q2
  clear q2
  go_enter Tryz.func79, Tryz.ntmps79
  go_wp2_with fail
  refine (CALL.out _).mono ?_
  rintro e w1 ⟨rfl, rfl⟩
  go_wp2
  go_loop [36] (fun kv => ∃ k : Nat, kv = .int .i64 (k : Int) ∧ k ≤ n ∧ ∀ j (h : j < o.table.length), j < k → 0 ≤ o.table[j] ∧ o.table[j] < o.states) (fun kv => n - (intOf kv).toNat)
  case atStart => exact ⟨0, rfl, by omega, fun j _ hj => by omega⟩
  case round =>
   obtain ⟨k, rfl, hk, hall⟩ := hrel
   have HA := hide' hall
   clear hall
   by_cases d : k < n
   ·have d' : (k : Int) < (n : Int) := by omega
    have hkl : k < o.table.length := by have := HN.out; omega
    obtain ⟨g, off, rfl, hg, hc⟩ := RA.out.cells k hkl
    by_cases e1 : 0 ≤ o.table[k]
    ·have e1' : ¬ o.table[k] < 0 := by omega
     by_cases e2 : o.table[k] < o.states
     ·have e2' : ¬ o.states ≤ o.table[k] := by omega
      go_wp2
      refine ⟨⟨k + 1, by go_num, by omega, fun j h hj => ?_⟩, by simp [intOf]; omega⟩
      by_cases q : j = k
      ·subst q; exact ⟨e1, e2⟩
      ·exact HA.out j h (by omega)
     ·have e2' : o.states ≤ o.table[k] := by omega
      go_wp2
      go_ret
      exact ⟨Or.inr ⟨rfl, fun p => by have := p.2.2.2.2.2 k hkl; omega⟩, (Below.refl _ _).alloc (Nat.le_refl _) _⟩
    ·have e1' : o.table[k] < 0 := by omega
     go_wp2
     go_ret
     exact ⟨Or.inr ⟨rfl, fun p => by have := p.2.2.2.2.2 k hkl; omega⟩, (Below.refl _ _).alloc (Nat.le_refl _) _⟩
   ·have d' : ¬ (k : Int) < (n : Int) := by omega
    go_wp2
    go_ret
    refine ⟨Or.inl ⟨rfl, h1, h2, h3, by rw [← HE.out]; omega, by rw [← HE.out, ← HN.out]; exact Q2.out, fun j h => HA.out j h (by have := HN.out; omega)⟩, (Below.refl _ _).alloc (Nat.le_refl _) _⟩
 ·have q2' : ((n : Int) != (E : Int)) = true := by rw [bne_iff_ne]; omega
  go_enter Tryz.func79, Tryz.ntmps79
  go_wp2_with fail
  refine (CALL.out _).mono ?_
  rintro e w1 ⟨rfl, rfl⟩
  go_wp2
  go_ret
  exact ⟨Or.inr ⟨rfl, fun p => by have := p.2.2.2.2.1; rw [← HE.out, ← HN.out] at this; exact q2 this⟩, (Below.refl _ _).alloc (Nat.le_refl _) _⟩
theorem hasNoLife_agg (o : Out) (a : Option Addr) (n c : Nat) (w : World) :
  Calls Tryz.prog 80 #[.agg #[.int .i64 o.kind, .int .i64 o.born, .int .i64 o.stay, .int .i64 o.states, .int .i64 o.radius, .slice a n c, .string o.turns]] w fun e w' => e = .returned (.bool (noLifeB o)) ∧ Below w.heap.size w w' := hasNoLife_any o a n c w
theorem hasNoLine_agg (o : Out) (a : Option Addr) (n c : Nat) (w : World) (hn : n = o.table.length) (hm : n ≤ maxLen) :
  Calls Tryz.prog 78 #[.agg #[.int .i64 o.kind, .int .i64 o.born, .int .i64 o.stay, .int .i64 o.states, .int .i64 o.radius, .slice a n c, .string o.turns]] w fun e w' => e = .returned (.bool (noLineB o)) ∧ Below w.heap.size w w' := hasNoLine_any o a n c w hn hm
theorem isLine_off_agg (o : Out) (a : Option Addr) (n c : Nat) (w : World) (h : ¬ (2 ≤ o.states ∧ o.states ≤ 4 ∧ 0 ≤ o.radius)) :
  Calls Tryz.prog 79 #[.agg #[.int .i64 o.kind, .int .i64 o.born, .int .i64 o.stay, .int .i64 o.states, .int .i64 o.radius, .slice a n c, .string o.turns]] w fun e w' => e = .returned (.bool false) ∧ Below w.heap.size w w' := isLine_off o a n c w h
theorem isLine_on_agg (o : Out) (a : Option Addr) (n c : Nat) (w : World) (hR : ArgR w o a n c) (h1 : 2 ≤ o.states) (h2 : o.states ≤ 4) (h3 : 0 ≤ o.radius) :
  Calls Tryz.prog 79 #[.agg #[.int .i64 o.kind, .int .i64 o.born, .int .i64 o.stay, .int .i64 o.states, .int .i64 o.radius, .slice a n c, .string o.turns]] w fun e w' => (e = .returned (.bool true) ∧ lineP o ∨ e = .returned (.bool false) ∧ ¬ lineP o) ∧ Below w.heap.size w w' := isLine_on o a n c w hR h1 h2 h3
def Good (o : Out) : Prop :=
 (o.kind = 1 ∧ bitsB o.born = true ∧ bitsB o.stay = true ∧ noLineB o = true ∧ o.turns.toList.isEmpty = true) ∨
 (o.kind = 2 ∧ lineP o ∧ noLifeB o = true ∧ o.turns.toList.isEmpty = true) ∨
 (o.kind = 3 ∧ turnsP o.turns ∧ noLifeB o = true ∧ noLineB o = true)
set_option maxHeartbeats 1600000 in
theorem isRule_1a (o : Out) (a : Option Addr) (n c : Nat) (w : World) (hR : ArgR w o a n c) (hk : o.kind = 1) (h1 : bitsB o.born = false) :
  Calls Tryz.prog 45 #[o.val (.slice a n c)] w fun e w' => e = .returned (.bool false) ∧ Below w.heap.size w w' := by
 have k1 : (o.kind == 1) = true := by simp; omega
 clear hk
 unfold Out.val
 go_enter Tryz.func45, Tryz.ntmps45
 go_wp2_with fail
 refine (isBits_any o.born _).mono ?_
 rw [h1]
 rintro e w1 ⟨rfl, rfl⟩
 go_wp2
 go_ret
 exact ⟨rfl, (Below.refl _ _).alloc (Nat.le_refl _) _⟩
set_option maxHeartbeats 1600000 in
theorem isRule_1b (o : Out) (a : Option Addr) (n c : Nat) (w : World) (hR : ArgR w o a n c) (hk : o.kind = 1) (h1 : bitsB o.born = true) (h2 : bitsB o.stay = false) :
  Calls Tryz.prog 45 #[o.val (.slice a n c)] w fun e w' => e = .returned (.bool false) ∧ Below w.heap.size w w' := by
 have k1 : (o.kind == 1) = true := by simp; omega
 clear hk
 unfold Out.val
 go_enter Tryz.func45, Tryz.ntmps45
 go_wp2_with fail
 refine (isBits_any o.born _).mono ?_
 rw [h1]
 rintro e w1 ⟨rfl, rfl⟩
 go_wp2_with fail
 refine (isBits_any o.stay _).mono ?_
 rw [h2]
 rintro e w1 ⟨rfl, rfl⟩
 go_wp2
 go_ret
 exact ⟨rfl, (Below.refl _ _).alloc (Nat.le_refl _) _⟩
set_option maxHeartbeats 1600000 in
theorem isRule_1c (o : Out) (a : Option Addr) (n c : Nat) (w : World) (hR : ArgR w o a n c) (hk : o.kind = 1) (h1 : bitsB o.born = true) (h2 : bitsB o.stay = true) (h3 : noLineB o = false) :
  Calls Tryz.prog 45 #[o.val (.slice a n c)] w fun e w' => e = .returned (.bool false) ∧ Below w.heap.size w w' := by
 have k1 : (o.kind == 1) = true := by simp; omega
 clear hk
 unfold Out.val
 go_enter Tryz.func45, Tryz.ntmps45
 go_wp2_with fail
 refine (isBits_any o.born _).mono ?_
 rw [h1]
 rintro e w1 ⟨rfl, rfl⟩
 go_wp2_with fail
 refine (isBits_any o.stay _).mono ?_
 rw [h2]
 rintro e w1 ⟨rfl, rfl⟩
 go_wp2_with fail
 refine (hasNoLine_agg o a n c _ hR.len hR.max).mono ?_
 rw [h3]
 rintro e w1 ⟨rfl, b1⟩
 have B1 := hide' b1
 clear b1
 go_wp2
 go_ret
 exact ⟨rfl, ((Below.refl _ _).alloc (Nat.le_refl _) _).trans (B1.out.mono (by simp))⟩
set_option maxHeartbeats 1600000 in
theorem isRule_1dt (o : Out) (a : Option Addr) (n c : Nat) (w : World) (hR : ArgR w o a n c) (hk : o.kind = 1) (h1 : bitsB o.born = true) (h2 : bitsB o.stay = true) (h3 : noLineB o = true) (h4 : o.turns.toList.isEmpty = true) :
  Calls Tryz.prog 45 #[o.val (.slice a n c)] w fun e w' => e = .returned (.bool true) ∧ Below w.heap.size w w' := by
 have k1 : (o.kind == 1) = true := by simp; omega
 clear hk
 unfold Out.val
 go_enter Tryz.func45, Tryz.ntmps45
 go_wp2_with fail
 refine (isBits_any o.born _).mono ?_
 rw [h1]
 rintro e w1 ⟨rfl, rfl⟩
 go_wp2_with fail
 refine (isBits_any o.stay _).mono ?_
 rw [h2]
 rintro e w1 ⟨rfl, rfl⟩
 go_wp2_with fail
 refine (hasNoLine_agg o a n c _ hR.len hR.max).mono ?_
 rw [h3]
 rintro e w1 ⟨rfl, b1⟩
 have B1 := hide' b1
 have x0 := b1.cell (p := ⟨w.heap.size, 0, none⟩) (by simp)
 have x1 := b1.cell (p := ⟨w.heap.size, 1, none⟩) (by simp)
 have x2 := b1.cell (p := ⟨w.heap.size, 2, none⟩) (by simp)
 have x3 := b1.cell (p := ⟨w.heap.size, 3, none⟩) (by simp)
 have x4 := b1.cell (p := ⟨w.heap.size, 4, none⟩) (by simp)
 have x5 := b1.cell (p := ⟨w.heap.size, 5, none⟩) (by simp)
 have x6 := b1.cell (p := ⟨w.heap.size, 6, none⟩) (by simp)
 simp at x0 x1 x2 x3 x4 x5 x6
 clear b1
 go_wp2
 go_ret
 exact ⟨rfl, ((Below.refl _ _).alloc (Nat.le_refl _) _).trans (B1.out.mono (by simp))⟩
set_option maxHeartbeats 1600000 in
theorem isRule_1df (o : Out) (a : Option Addr) (n c : Nat) (w : World) (hR : ArgR w o a n c) (hk : o.kind = 1) (h1 : bitsB o.born = true) (h2 : bitsB o.stay = true) (h3 : noLineB o = true) (h4 : o.turns.toList.isEmpty = false) :
  Calls Tryz.prog 45 #[o.val (.slice a n c)] w fun e w' => e = .returned (.bool false) ∧ Below w.heap.size w w' := by
 have k1 : (o.kind == 1) = true := by simp; omega
 clear hk
 unfold Out.val
 go_enter Tryz.func45, Tryz.ntmps45
 go_wp2_with fail
 refine (isBits_any o.born _).mono ?_
 rw [h1]
 rintro e w1 ⟨rfl, rfl⟩
 go_wp2_with fail
 refine (isBits_any o.stay _).mono ?_
 rw [h2]
 rintro e w1 ⟨rfl, rfl⟩
 go_wp2_with fail
 refine (hasNoLine_agg o a n c _ hR.len hR.max).mono ?_
 rw [h3]
 rintro e w1 ⟨rfl, b1⟩
 have B1 := hide' b1
 have x0 := b1.cell (p := ⟨w.heap.size, 0, none⟩) (by simp)
 have x1 := b1.cell (p := ⟨w.heap.size, 1, none⟩) (by simp)
 have x2 := b1.cell (p := ⟨w.heap.size, 2, none⟩) (by simp)
 have x3 := b1.cell (p := ⟨w.heap.size, 3, none⟩) (by simp)
 have x4 := b1.cell (p := ⟨w.heap.size, 4, none⟩) (by simp)
 have x5 := b1.cell (p := ⟨w.heap.size, 5, none⟩) (by simp)
 have x6 := b1.cell (p := ⟨w.heap.size, 6, none⟩) (by simp)
 simp at x0 x1 x2 x3 x4 x5 x6
 clear b1
 go_wp2
 go_ret
 exact ⟨rfl, ((Below.refl _ _).alloc (Nat.le_refl _) _).trans (B1.out.mono (by simp))⟩
set_option maxHeartbeats 1600000 in
theorem isRule_2a (o : Out) (a : Option Addr) (n c : Nat) (w : World) (hR : ArgR w o a n c) (hk : o.kind = 2) (h : ¬ (2 ≤ o.states ∧ o.states ≤ 4 ∧ 0 ≤ o.radius)) :
  Calls Tryz.prog 45 #[o.val (.slice a n c)] w fun e w' => e = .returned (.bool false) ∧ Below w.heap.size w w' := by
 have k1 : (o.kind == 1) = false := by simp; omega
 have k2 : (o.kind == 2) = true := by simp; omega
 clear hk
 unfold Out.val
 go_enter Tryz.func45, Tryz.ntmps45
 go_wp2_with fail
 refine (isLine_off_agg o a n c _ h).mono ?_
 rintro e w1 ⟨rfl, b1⟩
 have B1 := hide' b1
 clear b1
 go_wp2
 go_ret
 exact ⟨rfl, ((Below.refl _ _).alloc (Nat.le_refl _) _).trans (B1.out.mono (by simp))⟩
set_option maxHeartbeats 1600000 in
theorem isRule_2b (o : Out) (a : Option Addr) (n c : Nat) (w : World) (hR : ArgR w o a n c) (hk : o.kind = 2) (h : 2 ≤ o.states ∧ o.states ≤ 4 ∧ 0 ≤ o.radius) (hl : ¬ lineP o) :
  Calls Tryz.prog 45 #[o.val (.slice a n c)] w fun e w' => e = .returned (.bool false) ∧ Below w.heap.size w w' := by
 have k1 : (o.kind == 1) = false := by simp; omega
 have k2 : (o.kind == 2) = true := by simp; omega
 clear hk
 unfold Out.val
 go_enter Tryz.func45, Tryz.ntmps45
 go_wp2_with fail
 refine (isLine_on_agg o a n c _ (hR.alloc _) h.1 h.2.1 h.2.2).mono ?_
 rintro e w1 ⟨he, b1⟩
 rcases he with ⟨rfl, p⟩ | ⟨rfl, p⟩
 ·exact absurd p hl
 have B1 := hide' b1
 clear b1 p
 go_wp2
 go_ret
 exact ⟨rfl, ((Below.refl _ _).alloc (Nat.le_refl _) _).trans (B1.out.mono (by simp))⟩
set_option maxHeartbeats 1600000 in
theorem isRule_2c (o : Out) (a : Option Addr) (n c : Nat) (w : World) (hR : ArgR w o a n c) (hk : o.kind = 2) (h : 2 ≤ o.states ∧ o.states ≤ 4 ∧ 0 ≤ o.radius) (hl : lineP o) (h3 : noLifeB o = false) :
  Calls Tryz.prog 45 #[o.val (.slice a n c)] w fun e w' => e = .returned (.bool false) ∧ Below w.heap.size w w' := by
 have k1 : (o.kind == 1) = false := by simp; omega
 have k2 : (o.kind == 2) = true := by simp; omega
 clear hk
 unfold Out.val
 go_enter Tryz.func45, Tryz.ntmps45
 go_wp2_with fail
 refine (isLine_on_agg o a n c _ (hR.alloc _) h.1 h.2.1 h.2.2).mono ?_
 rintro e w1 ⟨he, b1⟩
 rcases he with ⟨rfl, p⟩ | ⟨rfl, p⟩
 case inr => exact absurd hl p
 have B1 := hide' b1
 have x0 := b1.cell (p := ⟨w.heap.size, 0, none⟩) (by simp)
 have x1 := b1.cell (p := ⟨w.heap.size, 1, none⟩) (by simp)
 have x2 := b1.cell (p := ⟨w.heap.size, 2, none⟩) (by simp)
 have x3 := b1.cell (p := ⟨w.heap.size, 3, none⟩) (by simp)
 have x4 := b1.cell (p := ⟨w.heap.size, 4, none⟩) (by simp)
 have x5 := b1.cell (p := ⟨w.heap.size, 5, none⟩) (by simp)
 have x6 := b1.cell (p := ⟨w.heap.size, 6, none⟩) (by simp)
 simp at x0 x1 x2 x3 x4 x5 x6
 clear b1 p
 go_wp2_with fail
 refine (hasNoLife_agg o a n c _).mono ?_
 rw [h3]
 rintro e w2 ⟨rfl, b2⟩
 have B2 := hide' b2
 clear b2
 go_wp2
 go_ret
 have s1 := B1.out.size
 simp at s1
 exact ⟨rfl, (((Below.refl _ _).alloc (Nat.le_refl _) _).trans (B1.out.mono (by simp))).trans (B2.out.mono (by omega))⟩
set_option maxHeartbeats 1600000 in
theorem isRule_2dt (o : Out) (a : Option Addr) (n c : Nat) (w : World) (hR : ArgR w o a n c) (hk : o.kind = 2) (h : 2 ≤ o.states ∧ o.states ≤ 4 ∧ 0 ≤ o.radius) (hl : lineP o) (h3 : noLifeB o = true) (h4 : o.turns.toList.isEmpty = true) :
  Calls Tryz.prog 45 #[o.val (.slice a n c)] w fun e w' => e = .returned (.bool true) ∧ Below w.heap.size w w' := by
 have k1 : (o.kind == 1) = false := by simp; omega
 have k2 : (o.kind == 2) = true := by simp; omega
 clear hk
 unfold Out.val
 go_enter Tryz.func45, Tryz.ntmps45
 go_wp2_with fail
 refine (isLine_on_agg o a n c _ (hR.alloc _) h.1 h.2.1 h.2.2).mono ?_
 rintro e w1 ⟨he, b1⟩
 rcases he with ⟨rfl, p⟩ | ⟨rfl, p⟩
 case inr => exact absurd hl p
 have B1 := hide' b1
 have x0 := b1.cell (p := ⟨w.heap.size, 0, none⟩) (by simp)
 have x1 := b1.cell (p := ⟨w.heap.size, 1, none⟩) (by simp)
 have x2 := b1.cell (p := ⟨w.heap.size, 2, none⟩) (by simp)
 have x3 := b1.cell (p := ⟨w.heap.size, 3, none⟩) (by simp)
 have x4 := b1.cell (p := ⟨w.heap.size, 4, none⟩) (by simp)
 have x5 := b1.cell (p := ⟨w.heap.size, 5, none⟩) (by simp)
 have x6 := b1.cell (p := ⟨w.heap.size, 6, none⟩) (by simp)
 simp at x0 x1 x2 x3 x4 x5 x6
 have sz := b1.size
 simp at sz
 clear b1 p
 go_wp2_with fail
 refine (hasNoLife_agg o a n c _).mono ?_
 rw [h3]
 rintro e w2 ⟨rfl, b2⟩
 have B2 := hide' b2
 have y0 := (b2.cell (p := ⟨w.heap.size, 0, none⟩) (by simp; omega)).trans x0
 have y1 := (b2.cell (p := ⟨w.heap.size, 1, none⟩) (by simp; omega)).trans x1
 have y2 := (b2.cell (p := ⟨w.heap.size, 2, none⟩) (by simp; omega)).trans x2
 have y3 := (b2.cell (p := ⟨w.heap.size, 3, none⟩) (by simp; omega)).trans x3
 have y4 := (b2.cell (p := ⟨w.heap.size, 4, none⟩) (by simp; omega)).trans x4
 have y5 := (b2.cell (p := ⟨w.heap.size, 5, none⟩) (by simp; omega)).trans x5
 have y6 := (b2.cell (p := ⟨w.heap.size, 6, none⟩) (by simp; omega)).trans x6
 clear b2 x0 x1 x2 x3 x4 x5 x6
 go_wp2
 go_ret
 have s1 := B1.out.size
 simp at s1
 exact ⟨rfl, (((Below.refl _ _).alloc (Nat.le_refl _) _).trans (B1.out.mono (by simp))).trans (B2.out.mono (by omega))⟩
set_option maxHeartbeats 1600000 in
theorem isRule_2df (o : Out) (a : Option Addr) (n c : Nat) (w : World) (hR : ArgR w o a n c) (hk : o.kind = 2) (h : 2 ≤ o.states ∧ o.states ≤ 4 ∧ 0 ≤ o.radius) (hl : lineP o) (h3 : noLifeB o = true) (h4 : o.turns.toList.isEmpty = false) :
  Calls Tryz.prog 45 #[o.val (.slice a n c)] w fun e w' => e = .returned (.bool false) ∧ Below w.heap.size w w' := by
 have k1 : (o.kind == 1) = false := by simp; omega
 have k2 : (o.kind == 2) = true := by simp; omega
 clear hk
 unfold Out.val
 go_enter Tryz.func45, Tryz.ntmps45
 go_wp2_with fail
 refine (isLine_on_agg o a n c _ (hR.alloc _) h.1 h.2.1 h.2.2).mono ?_
 rintro e w1 ⟨he, b1⟩
 rcases he with ⟨rfl, p⟩ | ⟨rfl, p⟩
 case inr => exact absurd hl p
 have B1 := hide' b1
 have x0 := b1.cell (p := ⟨w.heap.size, 0, none⟩) (by simp)
 have x1 := b1.cell (p := ⟨w.heap.size, 1, none⟩) (by simp)
 have x2 := b1.cell (p := ⟨w.heap.size, 2, none⟩) (by simp)
 have x3 := b1.cell (p := ⟨w.heap.size, 3, none⟩) (by simp)
 have x4 := b1.cell (p := ⟨w.heap.size, 4, none⟩) (by simp)
 have x5 := b1.cell (p := ⟨w.heap.size, 5, none⟩) (by simp)
 have x6 := b1.cell (p := ⟨w.heap.size, 6, none⟩) (by simp)
 simp at x0 x1 x2 x3 x4 x5 x6
 have sz := b1.size
 simp at sz
 clear b1 p
 go_wp2_with fail
 refine (hasNoLife_agg o a n c _).mono ?_
 rw [h3]
 rintro e w2 ⟨rfl, b2⟩
 have B2 := hide' b2
 have y0 := (b2.cell (p := ⟨w.heap.size, 0, none⟩) (by simp; omega)).trans x0
 have y1 := (b2.cell (p := ⟨w.heap.size, 1, none⟩) (by simp; omega)).trans x1
 have y2 := (b2.cell (p := ⟨w.heap.size, 2, none⟩) (by simp; omega)).trans x2
 have y3 := (b2.cell (p := ⟨w.heap.size, 3, none⟩) (by simp; omega)).trans x3
 have y4 := (b2.cell (p := ⟨w.heap.size, 4, none⟩) (by simp; omega)).trans x4
 have y5 := (b2.cell (p := ⟨w.heap.size, 5, none⟩) (by simp; omega)).trans x5
 have y6 := (b2.cell (p := ⟨w.heap.size, 6, none⟩) (by simp; omega)).trans x6
 clear b2 x0 x1 x2 x3 x4 x5 x6
 go_wp2
 go_ret
 have s1 := B1.out.size
 simp at s1
 exact ⟨rfl, (((Below.refl _ _).alloc (Nat.le_refl _) _).trans (B1.out.mono (by simp))).trans (B2.out.mono (by omega))⟩
set_option maxHeartbeats 1600000 in
theorem isRule_3a (o : Out) (a : Option Addr) (n c : Nat) (w : World) (hR : ArgR w o a n c) (hk : o.kind = 3) (ht : ¬ turnsP o.turns) :
  Calls Tryz.prog 45 #[o.val (.slice a n c)] w fun e w' => e = .returned (.bool false) ∧ Below w.heap.size w w' := by
 have k1 : (o.kind == 1) = false := by simp; omega
 have k2 : (o.kind == 2) = false := by simp; omega
 have k3 : (o.kind == 3) = true := by simp; omega
 clear hk
 unfold Out.val
 go_enter Tryz.func45, Tryz.ntmps45
 go_wp2_with fail
 refine (isTurns_any o.turns _ hR.tmax).mono ?_
 rintro e w1 ⟨he, rfl⟩
 rcases he with ⟨rfl, p⟩ | ⟨rfl, p⟩
 ·exact absurd p ht
 go_wp2
 go_ret
 exact ⟨rfl, (Below.refl _ _).alloc (Nat.le_refl _) _⟩
set_option maxHeartbeats 1600000 in
theorem isRule_3b (o : Out) (a : Option Addr) (n c : Nat) (w : World) (hR : ArgR w o a n c) (hk : o.kind = 3) (ht : turnsP o.turns) (h3 : noLifeB o = false) :
  Calls Tryz.prog 45 #[o.val (.slice a n c)] w fun e w' => e = .returned (.bool false) ∧ Below w.heap.size w w' := by
 have k1 : (o.kind == 1) = false := by simp; omega
 have k2 : (o.kind == 2) = false := by simp; omega
 have k3 : (o.kind == 3) = true := by simp; omega
 clear hk
 unfold Out.val
 go_enter Tryz.func45, Tryz.ntmps45
 go_wp2_with fail
 refine (isTurns_any o.turns _ hR.tmax).mono ?_
 rintro e w1 ⟨he, rfl⟩
 rcases he with ⟨rfl, p⟩ | ⟨rfl, p⟩
 case inr => exact absurd ht p
 go_wp2_with fail
 refine (hasNoLife_agg o a n c _).mono ?_
 rw [h3]
 rintro e w1 ⟨rfl, b1⟩
 have B1 := hide' b1
 clear b1
 go_wp2
 go_ret
 exact ⟨rfl, ((Below.refl _ _).alloc (Nat.le_refl _) _).trans (B1.out.mono (by simp))⟩
set_option maxHeartbeats 1600000 in
theorem isRule_3ct (o : Out) (a : Option Addr) (n c : Nat) (w : World) (hR : ArgR w o a n c) (hk : o.kind = 3) (ht : turnsP o.turns) (h3 : noLifeB o = true) (h4 : noLineB o = true) :
  Calls Tryz.prog 45 #[o.val (.slice a n c)] w fun e w' => e = .returned (.bool true) ∧ Below w.heap.size w w' := by
 have k1 : (o.kind == 1) = false := by simp; omega
 have k2 : (o.kind == 2) = false := by simp; omega
 have k3 : (o.kind == 3) = true := by simp; omega
 clear hk
 unfold Out.val
 go_enter Tryz.func45, Tryz.ntmps45
 go_wp2_with fail
 refine (isTurns_any o.turns _ hR.tmax).mono ?_
 rintro e w1 ⟨he, rfl⟩
 rcases he with ⟨rfl, p⟩ | ⟨rfl, p⟩
 case inr => exact absurd ht p
 go_wp2_with fail
 refine (hasNoLife_agg o a n c _).mono ?_
 rw [h3]
 rintro e w1 ⟨rfl, b1⟩
 have B1 := hide' b1
 have x0 := b1.cell (p := ⟨w.heap.size, 0, none⟩) (by simp)
 have x1 := b1.cell (p := ⟨w.heap.size, 1, none⟩) (by simp)
 have x2 := b1.cell (p := ⟨w.heap.size, 2, none⟩) (by simp)
 have x3 := b1.cell (p := ⟨w.heap.size, 3, none⟩) (by simp)
 have x4 := b1.cell (p := ⟨w.heap.size, 4, none⟩) (by simp)
 have x5 := b1.cell (p := ⟨w.heap.size, 5, none⟩) (by simp)
 have x6 := b1.cell (p := ⟨w.heap.size, 6, none⟩) (by simp)
 simp at x0 x1 x2 x3 x4 x5 x6
 clear b1
 go_wp2_with fail
 refine (hasNoLine_agg o a n c _ hR.len hR.max).mono ?_
 rw [h4]
 rintro e w2 ⟨rfl, b2⟩
 have B2 := hide' b2
 clear b2
 go_wp2
 go_ret
 have s1 := B1.out.size
 simp at s1
 exact ⟨rfl, (((Below.refl _ _).alloc (Nat.le_refl _) _).trans (B1.out.mono (by simp))).trans (B2.out.mono (by omega))⟩
set_option maxHeartbeats 1600000 in
theorem isRule_3cf (o : Out) (a : Option Addr) (n c : Nat) (w : World) (hR : ArgR w o a n c) (hk : o.kind = 3) (ht : turnsP o.turns) (h3 : noLifeB o = true) (h4 : noLineB o = false) :
  Calls Tryz.prog 45 #[o.val (.slice a n c)] w fun e w' => e = .returned (.bool false) ∧ Below w.heap.size w w' := by
 have k1 : (o.kind == 1) = false := by simp; omega
 have k2 : (o.kind == 2) = false := by simp; omega
 have k3 : (o.kind == 3) = true := by simp; omega
 clear hk
 unfold Out.val
 go_enter Tryz.func45, Tryz.ntmps45
 go_wp2_with fail
 refine (isTurns_any o.turns _ hR.tmax).mono ?_
 rintro e w1 ⟨he, rfl⟩
 rcases he with ⟨rfl, p⟩ | ⟨rfl, p⟩
 case inr => exact absurd ht p
 go_wp2_with fail
 refine (hasNoLife_agg o a n c _).mono ?_
 rw [h3]
 rintro e w1 ⟨rfl, b1⟩
 have B1 := hide' b1
 have x0 := b1.cell (p := ⟨w.heap.size, 0, none⟩) (by simp)
 have x1 := b1.cell (p := ⟨w.heap.size, 1, none⟩) (by simp)
 have x2 := b1.cell (p := ⟨w.heap.size, 2, none⟩) (by simp)
 have x3 := b1.cell (p := ⟨w.heap.size, 3, none⟩) (by simp)
 have x4 := b1.cell (p := ⟨w.heap.size, 4, none⟩) (by simp)
 have x5 := b1.cell (p := ⟨w.heap.size, 5, none⟩) (by simp)
 have x6 := b1.cell (p := ⟨w.heap.size, 6, none⟩) (by simp)
 simp at x0 x1 x2 x3 x4 x5 x6
 clear b1
 go_wp2_with fail
 refine (hasNoLine_agg o a n c _ hR.len hR.max).mono ?_
 rw [h4]
 rintro e w2 ⟨rfl, b2⟩
 have B2 := hide' b2
 clear b2
 go_wp2
 go_ret
 have s1 := B1.out.size
 simp at s1
 exact ⟨rfl, (((Below.refl _ _).alloc (Nat.le_refl _) _).trans (B1.out.mono (by simp))).trans (B2.out.mono (by omega))⟩
set_option maxHeartbeats 1600000 in
theorem isRule_0 (o : Out) (a : Option Addr) (n c : Nat) (w : World) (hR : ArgR w o a n c) (n1 : ¬ o.kind = 1) (n2 : ¬ o.kind = 2) (n3 : ¬ o.kind = 3) :
  Calls Tryz.prog 45 #[o.val (.slice a n c)] w fun e w' => e = .returned (.bool false) ∧ Below w.heap.size w w' := by
 have k1 : (o.kind == 1) = false := by simp; omega
 have k2 : (o.kind == 2) = false := by simp; omega
 have k3 : (o.kind == 3) = false := by simp; omega
 unfold Out.val
 go_enter Tryz.func45, Tryz.ntmps45
 go_wp2
 go_ret
 exact ⟨rfl, (Below.refl _ _).alloc (Nat.le_refl _) _⟩
theorem isRule_any (o : Out) (a : Option Addr) (n c : Nat) (w : World) (hR : ArgR w o a n c) :
  Calls Tryz.prog 45 #[.agg #[.int .i64 o.kind, .int .i64 o.born, .int .i64 o.stay, .int .i64 o.states, .int .i64 o.radius, .slice a n c, .string o.turns]] w fun e w' => (e = .returned (.bool true) ∧ Good o ∨ e = .returned (.bool false) ∧ ¬ Good o) ∧ Below w.heap.size w w' := by
 have yes : Good o → Calls Tryz.prog 45 #[o.val (.slice a n c)] w (fun e w' => e = .returned (.bool true) ∧ Below w.heap.size w w') →
   Calls Tryz.prog 45 #[o.val (.slice a n c)] w fun e w' => (e = .returned (.bool true) ∧ Good o ∨ e = .returned (.bool false) ∧ ¬ Good o) ∧ Below w.heap.size w w' := fun g h => h.mono fun e w' q => ⟨Or.inl ⟨q.1, g⟩, q.2⟩
 have no : ¬ Good o → Calls Tryz.prog 45 #[o.val (.slice a n c)] w (fun e w' => e = .returned (.bool false) ∧ Below w.heap.size w w') →
   Calls Tryz.prog 45 #[o.val (.slice a n c)] w fun e w' => (e = .returned (.bool true) ∧ Good o ∨ e = .returned (.bool false) ∧ ¬ Good o) ∧ Below w.heap.size w w' := fun g h => h.mono fun e w' q => ⟨Or.inr ⟨q.1, g⟩, q.2⟩
 show Calls Tryz.prog 45 #[o.val (.slice a n c)] w _
 by_cases k1 : o.kind = 1
 ·cases h1 : bitsB o.born with
  | false => exact no (fun g => by rcases g with g | g | g <;> simp_all) (isRule_1a o a n c w hR k1 h1)
  | true =>
  cases h2 : bitsB o.stay with
  | false => exact no (fun g => by rcases g with g | g | g <;> simp_all) (isRule_1b o a n c w hR k1 h1 h2)
  | true =>
  cases h3 : noLineB o with
  | false => exact no (fun g => by rcases g with g | g | g <;> simp_all) (isRule_1c o a n c w hR k1 h1 h2 h3)
  | true =>
  cases h4 : o.turns.toList.isEmpty with
  | false => exact no (fun g => by rcases g with g | g | g <;> simp_all) (isRule_1df o a n c w hR k1 h1 h2 h3 h4)
  | true => exact yes (Or.inl ⟨k1, h1, h2, h3, h4⟩) (isRule_1dt o a n c w hR k1 h1 h2 h3 h4)
 by_cases k2 : o.kind = 2
 ·by_cases h : 2 ≤ o.states ∧ o.states ≤ 4 ∧ 0 ≤ o.radius
  ·by_cases hl : lineP o
   ·cases h3 : noLifeB o with
    | false => exact no (fun g => by rcases g with g | g | g <;> simp_all) (isRule_2c o a n c w hR k2 h hl h3)
    | true =>
    cases h4 : o.turns.toList.isEmpty with
    | false => exact no (fun g => by rcases g with g | g | g <;> simp_all) (isRule_2df o a n c w hR k2 h hl h3 h4)
    | true => exact yes (Or.inr (Or.inl ⟨k2, hl, h3, h4⟩)) (isRule_2dt o a n c w hR k2 h hl h3 h4)
   ·exact no (fun g => by rcases g with g | g | g <;> simp_all) (isRule_2b o a n c w hR k2 h hl)
  ·exact no (fun g => by
    rcases g with g | g | g
    ·exact k1 g.1
    ·exact h ⟨g.2.1.1, g.2.1.2.1, g.2.1.2.2.1⟩
    ·have := g.1; omega) (isRule_2a o a n c w hR k2 h)
 by_cases k3 : o.kind = 3
 ·by_cases ht : turnsP o.turns
  ·cases h3 : noLifeB o with
   | false => exact no (fun g => by rcases g with g | g | g <;> simp_all) (isRule_3b o a n c w hR k3 ht h3)
   | true =>
   cases h4 : noLineB o with
   | false => exact no (fun g => by rcases g with g | g | g <;> simp_all) (isRule_3cf o a n c w hR k3 ht h3 h4)
   | true => exact yes (Or.inr (Or.inr ⟨k3, ht, h3, h4⟩)) (isRule_3ct o a n c w hR k3 ht h3 h4)
  ·exact no (fun g => by rcases g with g | g | g <;> simp_all) (isRule_3a o a n c w hR k3 ht)
 exact no (fun g => by rcases g with g | g | g <;> simp_all) (isRule_0 o a n c w hR k1 k2 k3)
theorem Check_any (o : Out) (a : Option Addr) (n c : Nat) (w : World) (hR : ArgR w o a n c) :
  Calls Tryz.prog 19 #[.agg #[.int .i64 o.kind, .int .i64 o.born, .int .i64 o.stay, .int .i64 o.states, .int .i64 o.radius, .slice a n c, .string o.turns]] w fun e w' => (e = .returned .nilIface ∧ Good o ∨ e = .returned (.iface 56 (.int .i64 1)) ∧ ¬ Good o) ∧ Below w.heap.size w w' := by
 go_enter Tryz.func19, Tryz.ntmps19
 go_wp2_with fail
 refine (isRule_any o a n c _ (hR.alloc _)).mono ?_
 rintro e w1 ⟨he, b1⟩
 have B1 := hide' b1
 clear b1
 rcases he with ⟨rfl, g⟩ | ⟨rfl, g⟩
 ·go_wp2
  go_ret
  exact ⟨Or.inl ⟨rfl, g⟩, ((Below.refl _ _).alloc (Nat.le_refl _) _).trans (B1.out.mono (by simp))⟩
 ·go_wp2
  go_ret
  exact ⟨Or.inr ⟨rfl, g⟩, ((Below.refl _ _).alloc (Nat.le_refl _) _).trans (B1.out.mono (by simp))⟩
end Go.Proofs.YtemhcpldflcfbaaGreatDoor
