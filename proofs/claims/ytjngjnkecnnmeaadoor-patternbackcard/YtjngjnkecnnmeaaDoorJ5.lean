/-
  What the last text of this claim leans on, part 5: Pr1, Pr2, Pr3, Pr4, Ref3, Rk5, Rk6.
-/
import Derived.Test.YtjngjnkecnnmeaaDoorJ1
import Derived.Test.YtjngjnkecnnmeaaDoorJ4
namespace Go.Proofs.YtjngjnkecnnmeaaDoor
open Go.RowKit
set_option linter.unusedVariables false

/-- A rule that came in, as a value: its table at v. -/
structure ArgR (w : World) (o : Out) (a : Option Addr) (n c : Nat) : Prop where
  len : n = o.table.length
  max : n ≤ maxLen
  tmax : o.turns.size ≤ maxLen
  cells : ∀ k (h : k < o.table.length), ∃ g off, a = some ⟨g, off, none⟩ ∧ g < w.heap.size ∧ w.cell? ⟨g, off + k, none⟩ = some (.int .i64 o.table[k])
  rmax : o.radius ≤ 9223372036854775807

theorem ArgR.below {w w' : World} {o : Out} {a : Option Addr} {n c : Nat} (h : ArgR w o a n c) (hb : Below w.heap.size w w') : ArgR w' o a n c :=
  ⟨h.len, h.max, h.tmax, fun k hk => by
    obtain ⟨g, off, e, hg, hc⟩ := h.cells k hk
    exact ⟨g, off, e, Nat.lt_of_lt_of_le hg hb.size, (World.cell?_of_block (w := w) (a := ⟨g, off + k, none⟩) (hb.block g hg)).trans hc⟩, h.rmax⟩
theorem ArgR.alloc {w : World} {o : Out} {a : Option Addr} {n c : Nat} (h : ArgR w o a n c) (x : Obj) : ArgR (w.alloc x) o a n c :=
  h.below ((Below.refl _ _).alloc (Nat.le_refl _) _)

def bitsB (n : Int) : Bool := decide (0 ≤ n) && decide (n ≤ 511)
def noLifeB (o : Out) : Bool := (o.born == 0) && (o.stay == 0)
def noLineB (o : Out) : Bool := (o.states == 0) && (o.radius == 0) && decide (o.table.length = 0)
def turnAt (t : ByteArray) (i : Nat) : Prop := bt t i = 76 ∨ bt t i = 82
def turnsP (t : ByteArray) : Prop := 1 ≤ t.size ∧ t.size ≤ 26 ∧ ∀ i, i < t.size → turnAt t i
def lineP (o : Out) : Prop := 2 ≤ o.states ∧ o.states ≤ 4 ∧ 0 ≤ o.radius ∧ entOf o.states.toNat o.radius.toNat ≤ 4096 ∧ o.table.length = entOf o.states.toNat o.radius.toNat ∧ ∀ k (h : k < o.table.length), 0 ≤ o.table[k] ∧ o.table[k] < o.states

theorem isBits_any (n : Int) (w : World) :
    Calls Tryd.prog 110 #[.int .i64 n] w fun e w' => e = .returned (.bool (bitsB n)) ∧ w' = w := by
  by_cases h1 : 0 ≤ n
  · by_cases h2 : n ≤ 511
    · rw [show bitsB n = true by unfold bitsB; simp; omega]
      go_enter Tryd.func110, Tryd.ntmps110
      go_wp2
      go_ret
      exact ⟨rfl, rfl⟩
    · rw [show bitsB n = false by unfold bitsB; simp; omega]
      go_enter Tryd.func110, Tryd.ntmps110
      go_wp2
      go_ret
      exact ⟨rfl, rfl⟩
  · rw [show bitsB n = false by unfold bitsB; simp; omega]
    go_enter Tryd.func110, Tryd.ntmps110
    go_wp2
    go_ret
    exact ⟨rfl, rfl⟩

theorem hasNoLife_any (o : Out) (a : Option Addr) (n c : Nat) (w : World) :
    Calls Tryd.prog 113 #[o.val (.slice a n c)] w fun e w' => e = .returned (.bool (noLifeB o)) ∧ Below w.heap.size w w' := by
  unfold noLifeB Out.val
  cases h1 : (o.born == 0)
  · go_enter Tryd.func113, Tryd.ntmps113
    go_wp2
    go_ret
    exact ⟨rfl, (Below.refl _ _).alloc (Nat.le_refl _) _⟩
  · cases h2 : (o.stay == 0)
    all_goals
      go_enter Tryd.func113, Tryd.ntmps113
      go_wp2
      go_ret
      exact ⟨rfl, (Below.refl _ _).alloc (Nat.le_refl _) _⟩

theorem hasNoLine_any (o : Out) (a : Option Addr) (n c : Nat) (w : World) (hn : n = o.table.length) (hm : n ≤ maxLen) :
    Calls Tryd.prog 111 #[o.val (.slice a n c)] w fun e w' => e = .returned (.bool (noLineB o)) ∧ Below w.heap.size w w' := by
  unfold noLineB Out.val
  rw [← hn]
  clear hn
  unfold maxLen at hm
  cases h1 : (o.states == 0)
  · go_enter Tryd.func111, Tryd.ntmps111
    go_wp2
    go_ret
    exact ⟨rfl, (Below.refl _ _).alloc (Nat.le_refl _) _⟩
  · cases h2 : (o.radius == 0)
    · go_enter Tryd.func111, Tryd.ntmps111
      go_wp2
      go_ret
      exact ⟨rfl, (Below.refl _ _).alloc (Nat.le_refl _) _⟩
    · by_cases h3 : n = 0
      · have h4 : ((n : Int) == 0) = true := by simp; omega
        rw [show decide (n = 0) = true by simp [h3]]
        clear h3
        go_enter Tryd.func111, Tryd.ntmps111
        go_wp2
        go_ret
        exact ⟨rfl, (Below.refl _ _).alloc (Nat.le_refl _) _⟩
      · have h4 : ((n : Int) == 0) = false := by simp; omega
        rw [show decide (n = 0) = false by simp [h3]]
        clear h3
        go_enter Tryd.func111, Tryd.ntmps111
        go_wp2
        go_ret
        exact ⟨rfl, (Below.refl _ _).alloc (Nat.le_refl _) _⟩

set_option maxHeartbeats 800000 in
theorem isTurns_any (t : ByteArray) (w : World) (ht : t.size ≤ maxLen) :
    Calls Tryd.prog 114 #[.string t] w fun e w' => (e = .returned (.bool true) ∧ turnsP t ∨ e = .returned (.bool false) ∧ ¬ turnsP t) ∧ w' = w := by
  unfold maxLen at ht
  by_cases h1 : t.size < 1
  · have h1' : (t.size : Int) < 1 := by omega
    go_enter Tryd.func114, Tryd.ntmps114
    go_wp2
    go_ret
    exact ⟨Or.inr ⟨rfl, fun h => by have := h.1; omega⟩, rfl⟩
  have h1' : ¬ (t.size : Int) < 1 := by omega
  by_cases h2 : 26 < t.size
  · have h2' : 26 < (t.size : Int) := by omega
    go_enter Tryd.func114, Tryd.ntmps114
    go_wp2
    go_ret
    exact ⟨Or.inr ⟨rfl, fun h => by have := h.2.1; omega⟩, rfl⟩
  have h2' : ¬ 26 < (t.size : Int) := by omega
  go_enter Tryd.func114, Tryd.ntmps114
  go_wp2
  go_loop [3] (fun iv => ∃ i : Nat, iv = .int .i64 (i : Int) ∧ i ≤ t.size ∧ ∀ j, j < i → turnAt t j) (fun iv => t.size - (intOf iv).toNat)
  case atStart => exact ⟨0, rfl, by omega, fun j hj => by omega⟩
  case round =>
    obtain ⟨i, rfl, hi, hall⟩ := hrel
    have HA := hide' hall
    clear hall
    by_cases c : i < t.size
    · have c' : (i : Int) < (t.size : Int) := by omega
      have e := bt_lt t i c
      by_cases d : bt t i = 76 ∨ bt t i = 82
      · have D := hide' (show ((t[i].toNat : Int) = 76 ∨ (t[i].toNat : Int) = 82) by omega)
        have DD := hide' d
        clear d e
        go_wp2_with fail
        refine (isTurn_yes _ _ D.out).mono ?_
        rintro e w1 ⟨rfl, rfl⟩
        go_wp2
        refine ⟨⟨i + 1, by go_num, by omega, fun j hj => ?_⟩, by simp [intOf]; omega⟩
        by_cases q : j = i
        · rw [q]; exact DD.out
        · exact HA.out j (by omega)
      · have D := hide' (show ¬ ((t[i].toNat : Int) = 76 ∨ (t[i].toNat : Int) = 82) by omega)
        have DD := hide' d
        clear d e
        go_wp2_with fail
        refine (isTurn_no _ _ D.out).mono ?_
        rintro e w1 ⟨rfl, rfl⟩
        go_wp2
        go_ret
        exact ⟨Or.inr ⟨rfl, fun h => DD.out (h.2.2 i c)⟩, rfl⟩
    · have c' : ¬ (i : Int) < (t.size : Int) := by omega
      go_wp2
      go_ret
      exact ⟨Or.inl ⟨rfl, by omega, by omega, fun j hj => HA.out j (by omega)⟩, rfl⟩
set_option maxHeartbeats 800000 in
theorem entries_far (n m : Nat) (N M : Int) (w : World) (hN : N = n) (hM : M = m) (hn : 2 ≤ n) (hn' : n ≤ 4) (hm : m ≤ 9223372036854775807) :
    Calls Tryd.prog 148 #[.int .i64 N, .int .i64 M] w fun e w' => e = .returned (.int .i64 ((entOf n m : Nat) : Int)) ∧ w' = w := by
  subst hN hM
  have h1 : n = 2 ∨ n = 3 ∨ n = 4 := by omega
  rcases h1 with rfl | rfl | rfl
  all_goals
    go_enter Tryd.func148, Tryd.ntmps148
    go_wp2
    go_loop [5, 6] (fun ev iv => ∃ k e : Nat, iv = .int .i64 (k : Int) ∧ ev = .int .i64 (e : Int) ∧ k ≤ m ∧ e ≤ 65536 ∧ entF _ (m - k) e = entOf _ m) (fun _ iv => m - (intOf iv).toNat)
    case atStart => exact ⟨0, _, rfl, rfl, by omega, by omega, rfl⟩
    case round =>
      obtain ⟨k, e, rfl, rfl, hk, he, hent⟩ := hrel
      have HE := hide hent
      clear hent
      by_cases hkm : (k : Int) < (m : Int)
      · by_cases hee : (e : Int) ≤ 4096
        · go_wp2
          have e1 := unhide HE
          rw [show m - k = (m - (k + 1)) + 1 by omega, entF, if_pos (by omega)] at e1
          refine ⟨⟨k + 1, _, by go_num, ?_, by omega, ?_, e1⟩, by simp [intOf]; omega⟩
          · go_num
          · omega
        · go_wp2
          go_ret
          have e1 := unhide HE
          rw [entF_stop (by omega)] at e1
          rw [← e1]
          exact ⟨rfl, rfl⟩
      · go_wp2
        go_ret
        have e1 := unhide HE
        rw [show m - k = 0 by omega, entF] at e1
        rw [← e1]
        exact ⟨rfl, rfl⟩

set_option maxHeartbeats 1600000 in
/-- isLine at a rule whose States and Radius are none: false. -/
theorem isLine_off (o : Out) (a : Option Addr) (n c : Nat) (w : World) (h : ¬ (2 ≤ o.states ∧ o.states ≤ 4 ∧ 0 ≤ o.radius)) :
    Calls Tryd.prog 112 #[o.val (.slice a n c)] w fun e w' => e = .returned (.bool false) ∧ Below w.heap.size w w' := by
  unfold Out.val
  by_cases h1 : o.states < 2
  · clear h
    go_enter Tryd.func112, Tryd.ntmps112
    go_wp2
    go_ret
    exact ⟨rfl, (Below.refl _ _).alloc (Nat.le_refl _) _⟩
  by_cases h2 : 4 < o.states
  · clear h
    go_enter Tryd.func112, Tryd.ntmps112
    go_wp2
    go_ret
    exact ⟨rfl, (Below.refl _ _).alloc (Nat.le_refl _) _⟩
  · have h3 : o.radius < 0 := by omega
    clear h
    go_enter Tryd.func112, Tryd.ntmps112
    go_wp2
    go_ret
    exact ⟨rfl, (Below.refl _ _).alloc (Nat.le_refl _) _⟩

set_option maxHeartbeats 1600000 in
theorem isLine_on (o : Out) (a : Option Addr) (n c : Nat) (w : World) (hR : ArgR w o a n c) (h1 : 2 ≤ o.states) (h2 : o.states ≤ 4) (h3 : 0 ≤ o.radius) :
    Calls Tryd.prog 112 #[o.val (.slice a n c)] w fun e w' => (e = .returned (.bool true) ∧ lineP o ∨ e = .returned (.bool false) ∧ ¬ lineP o) ∧ Below w.heap.size w w' := by
  have hn := hR.len
  have hm := hR.max
  unfold maxLen at hm
  have hr := hR.rmax
  have RA := hide' (hR.alloc (.cells #[.int .i64 o.kind, .int .i64 o.born, .int .i64 o.stay, .int .i64 o.states, .int .i64 o.radius, .slice a n c, .string o.turns] 24))
  obtain ⟨E, hE⟩ : ∃ E, E = entOf o.states.toNat o.radius.toNat := ⟨_, rfl⟩
  have k1 : ¬ o.states < 2 := by omega
  have k2 : ¬ 4 < o.states := by omega
  have k3 : ¬ o.radius < 0 := by omega
  have HE := hide' hE
  have HN := hide' hn
  clear hE hn hR
  unfold Out.val
  have call : ∀ W : World, Calls Tryd.prog 148 #[.int .i64 o.states, .int .i64 o.radius] W fun e w' => e = .returned (.int .i64 (E : Int)) ∧ w' = W := fun W => by
    have := entries_far o.states.toNat o.radius.toNat o.states o.radius W (by omega) (by omega) (by omega) (by omega) (by omega)
    rw [← HE.out] at this
    exact this
  have CALL := hide' call
  clear call
  by_cases q1 : 4096 < E
  · have q1' : 4096 < (E : Int) := by omega
    go_enter Tryd.func112, Tryd.ntmps112
    go_wp2_with fail
    refine (CALL.out _).mono ?_
    rintro e w1 ⟨rfl, rfl⟩
    go_wp2
    go_ret
    exact ⟨Or.inr ⟨rfl, fun p => by have := p.2.2.2.1; rw [← HE.out] at this; omega⟩, (Below.refl _ _).alloc (Nat.le_refl _) _⟩
  have q1' : ¬ 4096 < (E : Int) := by omega
  by_cases q2 : n = E
  · have q2' : ((n : Int) != (E : Int)) = false := by rw [bne_eq_false_iff_eq]; omega
    have Q2 := hide' q2
    clear q2
    go_enter Tryd.func112, Tryd.ntmps112
    go_wp2_with fail
    refine (CALL.out _).mono ?_
    rintro e w1 ⟨rfl, rfl⟩
    go_wp2
    go_loop [36] (fun kv => ∃ k : Nat, kv = .int .i64 (k : Int) ∧ k ≤ n ∧ ∀ j (h : j < o.table.length), j < k → 0 ≤ o.table[j] ∧ o.table[j] < o.states) (fun kv => n - (intOf kv).toNat)
    case atStart => exact ⟨0, rfl, by omega, fun j _ hj => by omega⟩
    case round =>
      obtain ⟨k, rfl, hk, hall⟩ := hrel
      have HA := hide' hall
      clear hall
      by_cases d : k < n
      · have d' : (k : Int) < (n : Int) := by omega
        have hkl : k < o.table.length := by have := HN.out; omega
        obtain ⟨g, off, rfl, hg, hc⟩ := RA.out.cells k hkl
        by_cases e1 : 0 ≤ o.table[k]
        · have e1' : ¬ o.table[k] < 0 := by omega
          by_cases e2 : o.table[k] < o.states
          · have e2' : ¬ o.states ≤ o.table[k] := by omega
            go_wp2
            refine ⟨⟨k + 1, by go_num, by omega, fun j h hj => ?_⟩, by simp [intOf]; omega⟩
            by_cases q : j = k
            · subst q; exact ⟨e1, e2⟩
            · exact HA.out j h (by omega)
          · have e2' : o.states ≤ o.table[k] := by omega
            go_wp2
            go_ret
            exact ⟨Or.inr ⟨rfl, fun p => by have := p.2.2.2.2.2 k hkl; omega⟩, (Below.refl _ _).alloc (Nat.le_refl _) _⟩
        · have e1' : o.table[k] < 0 := by omega
          go_wp2
          go_ret
          exact ⟨Or.inr ⟨rfl, fun p => by have := p.2.2.2.2.2 k hkl; omega⟩, (Below.refl _ _).alloc (Nat.le_refl _) _⟩
      · have d' : ¬ (k : Int) < (n : Int) := by omega
        go_wp2
        go_ret
        refine ⟨Or.inl ⟨rfl, h1, h2, h3, by rw [← HE.out]; omega, by rw [← HE.out, ← HN.out]; exact Q2.out, fun j h => HA.out j h (by have := HN.out; omega)⟩, (Below.refl _ _).alloc (Nat.le_refl _) _⟩
  · have q2' : ((n : Int) != (E : Int)) = true := by rw [bne_iff_ne]; omega
    go_enter Tryd.func112, Tryd.ntmps112
    go_wp2_with fail
    refine (CALL.out _).mono ?_
    rintro e w1 ⟨rfl, rfl⟩
    go_wp2
    go_ret
    exact ⟨Or.inr ⟨rfl, fun p => by have := p.2.2.2.2.1; rw [← HE.out, ← HN.out] at this; exact q2 this⟩, (Below.refl _ _).alloc (Nat.le_refl _) _⟩

theorem hasNoLife_agg (o : Out) (a : Option Addr) (n c : Nat) (w : World) :
    Calls Tryd.prog 113 #[.agg #[.int .i64 o.kind, .int .i64 o.born, .int .i64 o.stay, .int .i64 o.states, .int .i64 o.radius, .slice a n c, .string o.turns]] w fun e w' => e = .returned (.bool (noLifeB o)) ∧ Below w.heap.size w w' := hasNoLife_any o a n c w
theorem hasNoLine_agg (o : Out) (a : Option Addr) (n c : Nat) (w : World) (hn : n = o.table.length) (hm : n ≤ maxLen) :
    Calls Tryd.prog 111 #[.agg #[.int .i64 o.kind, .int .i64 o.born, .int .i64 o.stay, .int .i64 o.states, .int .i64 o.radius, .slice a n c, .string o.turns]] w fun e w' => e = .returned (.bool (noLineB o)) ∧ Below w.heap.size w w' := hasNoLine_any o a n c w hn hm
theorem isLine_off_agg (o : Out) (a : Option Addr) (n c : Nat) (w : World) (h : ¬ (2 ≤ o.states ∧ o.states ≤ 4 ∧ 0 ≤ o.radius)) :
    Calls Tryd.prog 112 #[.agg #[.int .i64 o.kind, .int .i64 o.born, .int .i64 o.stay, .int .i64 o.states, .int .i64 o.radius, .slice a n c, .string o.turns]] w fun e w' => e = .returned (.bool false) ∧ Below w.heap.size w w' := isLine_off o a n c w h
theorem isLine_on_agg (o : Out) (a : Option Addr) (n c : Nat) (w : World) (hR : ArgR w o a n c) (h1 : 2 ≤ o.states) (h2 : o.states ≤ 4) (h3 : 0 ≤ o.radius) :
    Calls Tryd.prog 112 #[.agg #[.int .i64 o.kind, .int .i64 o.born, .int .i64 o.stay, .int .i64 o.states, .int .i64 o.radius, .slice a n c, .string o.turns]] w fun e w' => (e = .returned (.bool true) ∧ lineP o ∨ e = .returned (.bool false) ∧ ¬ lineP o) ∧ Below w.heap.size w w' := isLine_on o a n c w hR h1 h2 h3
end Go.Proofs.YtjngjnkecnnmeaaDoor

namespace Go.Proofs.YtjngjnkecnnmeaaDoor
open Go.RowKit
set_option linter.unusedVariables false

/-- R1, R2: what a rule is. -/
def Good (o : Out) : Prop :=
  (o.kind = 1 ∧ bitsB o.born = true ∧ bitsB o.stay = true ∧ noLineB o = true ∧ o.turns.toList.isEmpty = true) ∨
  (o.kind = 2 ∧ lineP o ∧ noLifeB o = true ∧ o.turns.toList.isEmpty = true) ∨
  (o.kind = 3 ∧ turnsP o.turns ∧ noLifeB o = true ∧ noLineB o = true)

set_option maxHeartbeats 1600000 in
theorem isRule_1a (o : Out) (a : Option Addr) (n c : Nat) (w : World) (hR : ArgR w o a n c) (hk : o.kind = 1) (h1 : bitsB o.born = false) :
    Calls Tryd.prog 62 #[o.val (.slice a n c)] w fun e w' => e = .returned (.bool false) ∧ Below w.heap.size w w' := by
  have k1 : (o.kind == 1) = true := by simp; omega
  clear hk
  unfold Out.val
  go_enter Tryd.func62, Tryd.ntmps62
  go_wp2_with fail
  refine (isBits_any o.born _).mono ?_
  rw [h1]
  rintro e w1 ⟨rfl, rfl⟩
  go_wp2
  go_ret
  exact ⟨rfl, (Below.refl _ _).alloc (Nat.le_refl _) _⟩

set_option maxHeartbeats 1600000 in
theorem isRule_1b (o : Out) (a : Option Addr) (n c : Nat) (w : World) (hR : ArgR w o a n c) (hk : o.kind = 1) (h1 : bitsB o.born = true) (h2 : bitsB o.stay = false) :
    Calls Tryd.prog 62 #[o.val (.slice a n c)] w fun e w' => e = .returned (.bool false) ∧ Below w.heap.size w w' := by
  have k1 : (o.kind == 1) = true := by simp; omega
  clear hk
  unfold Out.val
  go_enter Tryd.func62, Tryd.ntmps62
  go_wp2_with fail
  refine (isBits_any o.born _).mono ?_
  rw [h1]
  rintro e w1 ⟨rfl, rfl⟩
  go_wp2_with fail
  refine (isBits_any o.stay _).mono ?_
  rw [h2]
  rintro e w1 ⟨rfl, rfl⟩
  go_wp2
  go_ret
  exact ⟨rfl, (Below.refl _ _).alloc (Nat.le_refl _) _⟩

set_option maxHeartbeats 1600000 in
theorem isRule_1c (o : Out) (a : Option Addr) (n c : Nat) (w : World) (hR : ArgR w o a n c) (hk : o.kind = 1) (h1 : bitsB o.born = true) (h2 : bitsB o.stay = true) (h3 : noLineB o = false) :
    Calls Tryd.prog 62 #[o.val (.slice a n c)] w fun e w' => e = .returned (.bool false) ∧ Below w.heap.size w w' := by
  have k1 : (o.kind == 1) = true := by simp; omega
  clear hk
  unfold Out.val
  go_enter Tryd.func62, Tryd.ntmps62
  go_wp2_with fail
  refine (isBits_any o.born _).mono ?_
  rw [h1]
  rintro e w1 ⟨rfl, rfl⟩
  go_wp2_with fail
  refine (isBits_any o.stay _).mono ?_
  rw [h2]
  rintro e w1 ⟨rfl, rfl⟩
  go_wp2_with fail
  refine (hasNoLine_agg o a n c _ hR.len hR.max).mono ?_
  rw [h3]
  rintro e w1 ⟨rfl, b1⟩
  have B1 := hide' b1
  clear b1
  go_wp2
  go_ret
  exact ⟨rfl, ((Below.refl _ _).alloc (Nat.le_refl _) _).trans (B1.out.mono (by simp))⟩

set_option maxHeartbeats 1600000 in
theorem isRule_1dt (o : Out) (a : Option Addr) (n c : Nat) (w : World) (hR : ArgR w o a n c) (hk : o.kind = 1) (h1 : bitsB o.born = true) (h2 : bitsB o.stay = true) (h3 : noLineB o = true) (h4 : o.turns.toList.isEmpty = true) :
    Calls Tryd.prog 62 #[o.val (.slice a n c)] w fun e w' => e = .returned (.bool true) ∧ Below w.heap.size w w' := by
  have k1 : (o.kind == 1) = true := by simp; omega
  clear hk
  unfold Out.val
  go_enter Tryd.func62, Tryd.ntmps62
  go_wp2_with fail
  refine (isBits_any o.born _).mono ?_
  rw [h1]
  rintro e w1 ⟨rfl, rfl⟩
  go_wp2_with fail
  refine (isBits_any o.stay _).mono ?_
  rw [h2]
  rintro e w1 ⟨rfl, rfl⟩
  go_wp2_with fail
  refine (hasNoLine_agg o a n c _ hR.len hR.max).mono ?_
  rw [h3]
  rintro e w1 ⟨rfl, b1⟩
  have B1 := hide' b1
  have x0 := b1.cell (p := ⟨w.heap.size, 0, none⟩) (by simp)
  have x1 := b1.cell (p := ⟨w.heap.size, 1, none⟩) (by simp)
  have x2 := b1.cell (p := ⟨w.heap.size, 2, none⟩) (by simp)
  have x3 := b1.cell (p := ⟨w.heap.size, 3, none⟩) (by simp)
  have x4 := b1.cell (p := ⟨w.heap.size, 4, none⟩) (by simp)
  have x5 := b1.cell (p := ⟨w.heap.size, 5, none⟩) (by simp)
  have x6 := b1.cell (p := ⟨w.heap.size, 6, none⟩) (by simp)
  simp at x0 x1 x2 x3 x4 x5 x6
  clear b1
  go_wp2
  go_ret
  exact ⟨rfl, ((Below.refl _ _).alloc (Nat.le_refl _) _).trans (B1.out.mono (by simp))⟩

set_option maxHeartbeats 1600000 in
theorem isRule_1df (o : Out) (a : Option Addr) (n c : Nat) (w : World) (hR : ArgR w o a n c) (hk : o.kind = 1) (h1 : bitsB o.born = true) (h2 : bitsB o.stay = true) (h3 : noLineB o = true) (h4 : o.turns.toList.isEmpty = false) :
    Calls Tryd.prog 62 #[o.val (.slice a n c)] w fun e w' => e = .returned (.bool false) ∧ Below w.heap.size w w' := by
  have k1 : (o.kind == 1) = true := by simp; omega
  clear hk
  unfold Out.val
  go_enter Tryd.func62, Tryd.ntmps62
  go_wp2_with fail
  refine (isBits_any o.born _).mono ?_
  rw [h1]
  rintro e w1 ⟨rfl, rfl⟩
  go_wp2_with fail
  refine (isBits_any o.stay _).mono ?_
  rw [h2]
  rintro e w1 ⟨rfl, rfl⟩
  go_wp2_with fail
  refine (hasNoLine_agg o a n c _ hR.len hR.max).mono ?_
  rw [h3]
  rintro e w1 ⟨rfl, b1⟩
  have B1 := hide' b1
  have x0 := b1.cell (p := ⟨w.heap.size, 0, none⟩) (by simp)
  have x1 := b1.cell (p := ⟨w.heap.size, 1, none⟩) (by simp)
  have x2 := b1.cell (p := ⟨w.heap.size, 2, none⟩) (by simp)
  have x3 := b1.cell (p := ⟨w.heap.size, 3, none⟩) (by simp)
  have x4 := b1.cell (p := ⟨w.heap.size, 4, none⟩) (by simp)
  have x5 := b1.cell (p := ⟨w.heap.size, 5, none⟩) (by simp)
  have x6 := b1.cell (p := ⟨w.heap.size, 6, none⟩) (by simp)
  simp at x0 x1 x2 x3 x4 x5 x6
  clear b1
  go_wp2
  go_ret
  exact ⟨rfl, ((Below.refl _ _).alloc (Nat.le_refl _) _).trans (B1.out.mono (by simp))⟩

set_option maxHeartbeats 1600000 in
theorem isRule_2a (o : Out) (a : Option Addr) (n c : Nat) (w : World) (hR : ArgR w o a n c) (hk : o.kind = 2) (h : ¬ (2 ≤ o.states ∧ o.states ≤ 4 ∧ 0 ≤ o.radius)) :
    Calls Tryd.prog 62 #[o.val (.slice a n c)] w fun e w' => e = .returned (.bool false) ∧ Below w.heap.size w w' := by
  have k1 : (o.kind == 1) = false := by simp; omega
  have k2 : (o.kind == 2) = true := by simp; omega
  clear hk
  unfold Out.val
  go_enter Tryd.func62, Tryd.ntmps62
  go_wp2_with fail
  refine (isLine_off_agg o a n c _ h).mono ?_
  rintro e w1 ⟨rfl, b1⟩
  have B1 := hide' b1
  clear b1
  go_wp2
  go_ret
  exact ⟨rfl, ((Below.refl _ _).alloc (Nat.le_refl _) _).trans (B1.out.mono (by simp))⟩

set_option maxHeartbeats 1600000 in
theorem isRule_2b (o : Out) (a : Option Addr) (n c : Nat) (w : World) (hR : ArgR w o a n c) (hk : o.kind = 2) (h : 2 ≤ o.states ∧ o.states ≤ 4 ∧ 0 ≤ o.radius) (hl : ¬ lineP o) :
    Calls Tryd.prog 62 #[o.val (.slice a n c)] w fun e w' => e = .returned (.bool false) ∧ Below w.heap.size w w' := by
  have k1 : (o.kind == 1) = false := by simp; omega
  have k2 : (o.kind == 2) = true := by simp; omega
  clear hk
  unfold Out.val
  go_enter Tryd.func62, Tryd.ntmps62
  go_wp2_with fail
  refine (isLine_on_agg o a n c _ (hR.alloc _) h.1 h.2.1 h.2.2).mono ?_
  rintro e w1 ⟨he, b1⟩
  rcases he with ⟨rfl, p⟩ | ⟨rfl, p⟩
  · exact absurd p hl
  have B1 := hide' b1
  clear b1 p
  go_wp2
  go_ret
  exact ⟨rfl, ((Below.refl _ _).alloc (Nat.le_refl _) _).trans (B1.out.mono (by simp))⟩

set_option maxHeartbeats 1600000 in
theorem isRule_2c (o : Out) (a : Option Addr) (n c : Nat) (w : World) (hR : ArgR w o a n c) (hk : o.kind = 2) (h : 2 ≤ o.states ∧ o.states ≤ 4 ∧ 0 ≤ o.radius) (hl : lineP o) (h3 : noLifeB o = false) :
    Calls Tryd.prog 62 #[o.val (.slice a n c)] w fun e w' => e = .returned (.bool false) ∧ Below w.heap.size w w' := by
  have k1 : (o.kind == 1) = false := by simp; omega
  have k2 : (o.kind == 2) = true := by simp; omega
  clear hk
  unfold Out.val
  go_enter Tryd.func62, Tryd.ntmps62
  go_wp2_with fail
  refine (isLine_on_agg o a n c _ (hR.alloc _) h.1 h.2.1 h.2.2).mono ?_
  rintro e w1 ⟨he, b1⟩
  rcases he with ⟨rfl, p⟩ | ⟨rfl, p⟩
  case inr => exact absurd hl p
  have B1 := hide' b1
  have x0 := b1.cell (p := ⟨w.heap.size, 0, none⟩) (by simp)
  have x1 := b1.cell (p := ⟨w.heap.size, 1, none⟩) (by simp)
  have x2 := b1.cell (p := ⟨w.heap.size, 2, none⟩) (by simp)
  have x3 := b1.cell (p := ⟨w.heap.size, 3, none⟩) (by simp)
  have x4 := b1.cell (p := ⟨w.heap.size, 4, none⟩) (by simp)
  have x5 := b1.cell (p := ⟨w.heap.size, 5, none⟩) (by simp)
  have x6 := b1.cell (p := ⟨w.heap.size, 6, none⟩) (by simp)
  simp at x0 x1 x2 x3 x4 x5 x6
  clear b1 p
  go_wp2_with fail
  refine (hasNoLife_agg o a n c _).mono ?_
  rw [h3]
  rintro e w2 ⟨rfl, b2⟩
  have B2 := hide' b2
  clear b2
  go_wp2
  go_ret
  have s1 := B1.out.size
  simp at s1
  exact ⟨rfl, (((Below.refl _ _).alloc (Nat.le_refl _) _).trans (B1.out.mono (by simp))).trans (B2.out.mono (by omega))⟩

set_option maxHeartbeats 1600000 in
theorem isRule_2dt (o : Out) (a : Option Addr) (n c : Nat) (w : World) (hR : ArgR w o a n c) (hk : o.kind = 2) (h : 2 ≤ o.states ∧ o.states ≤ 4 ∧ 0 ≤ o.radius) (hl : lineP o) (h3 : noLifeB o = true) (h4 : o.turns.toList.isEmpty = true) :
    Calls Tryd.prog 62 #[o.val (.slice a n c)] w fun e w' => e = .returned (.bool true) ∧ Below w.heap.size w w' := by
  have k1 : (o.kind == 1) = false := by simp; omega
  have k2 : (o.kind == 2) = true := by simp; omega
  clear hk
  unfold Out.val
  go_enter Tryd.func62, Tryd.ntmps62
  go_wp2_with fail
  refine (isLine_on_agg o a n c _ (hR.alloc _) h.1 h.2.1 h.2.2).mono ?_
  rintro e w1 ⟨he, b1⟩
  rcases he with ⟨rfl, p⟩ | ⟨rfl, p⟩
  case inr => exact absurd hl p
  have B1 := hide' b1
  have x0 := b1.cell (p := ⟨w.heap.size, 0, none⟩) (by simp)
  have x1 := b1.cell (p := ⟨w.heap.size, 1, none⟩) (by simp)
  have x2 := b1.cell (p := ⟨w.heap.size, 2, none⟩) (by simp)
  have x3 := b1.cell (p := ⟨w.heap.size, 3, none⟩) (by simp)
  have x4 := b1.cell (p := ⟨w.heap.size, 4, none⟩) (by simp)
  have x5 := b1.cell (p := ⟨w.heap.size, 5, none⟩) (by simp)
  have x6 := b1.cell (p := ⟨w.heap.size, 6, none⟩) (by simp)
  simp at x0 x1 x2 x3 x4 x5 x6
  have sz := b1.size
  simp at sz
  clear b1 p
  go_wp2_with fail
  refine (hasNoLife_agg o a n c _).mono ?_
  rw [h3]
  rintro e w2 ⟨rfl, b2⟩
  have B2 := hide' b2
  have y0 := (b2.cell (p := ⟨w.heap.size, 0, none⟩) (by simp; omega)).trans x0
  have y1 := (b2.cell (p := ⟨w.heap.size, 1, none⟩) (by simp; omega)).trans x1
  have y2 := (b2.cell (p := ⟨w.heap.size, 2, none⟩) (by simp; omega)).trans x2
  have y3 := (b2.cell (p := ⟨w.heap.size, 3, none⟩) (by simp; omega)).trans x3
  have y4 := (b2.cell (p := ⟨w.heap.size, 4, none⟩) (by simp; omega)).trans x4
  have y5 := (b2.cell (p := ⟨w.heap.size, 5, none⟩) (by simp; omega)).trans x5
  have y6 := (b2.cell (p := ⟨w.heap.size, 6, none⟩) (by simp; omega)).trans x6
  clear b2 x0 x1 x2 x3 x4 x5 x6
  go_wp2
  go_ret
  have s1 := B1.out.size
  simp at s1
  exact ⟨rfl, (((Below.refl _ _).alloc (Nat.le_refl _) _).trans (B1.out.mono (by simp))).trans (B2.out.mono (by omega))⟩

set_option maxHeartbeats 1600000 in
theorem isRule_2df (o : Out) (a : Option Addr) (n c : Nat) (w : World) (hR : ArgR w o a n c) (hk : o.kind = 2) (h : 2 ≤ o.states ∧ o.states ≤ 4 ∧ 0 ≤ o.radius) (hl : lineP o) (h3 : noLifeB o = true) (h4 : o.turns.toList.isEmpty = false) :
    Calls Tryd.prog 62 #[o.val (.slice a n c)] w fun e w' => e = .returned (.bool false) ∧ Below w.heap.size w w' := by
  have k1 : (o.kind == 1) = false := by simp; omega
  have k2 : (o.kind == 2) = true := by simp; omega
  clear hk
  unfold Out.val
  go_enter Tryd.func62, Tryd.ntmps62
  go_wp2_with fail
  refine (isLine_on_agg o a n c _ (hR.alloc _) h.1 h.2.1 h.2.2).mono ?_
  rintro e w1 ⟨he, b1⟩
  rcases he with ⟨rfl, p⟩ | ⟨rfl, p⟩
  case inr => exact absurd hl p
  have B1 := hide' b1
  have x0 := b1.cell (p := ⟨w.heap.size, 0, none⟩) (by simp)
  have x1 := b1.cell (p := ⟨w.heap.size, 1, none⟩) (by simp)
  have x2 := b1.cell (p := ⟨w.heap.size, 2, none⟩) (by simp)
  have x3 := b1.cell (p := ⟨w.heap.size, 3, none⟩) (by simp)
  have x4 := b1.cell (p := ⟨w.heap.size, 4, none⟩) (by simp)
  have x5 := b1.cell (p := ⟨w.heap.size, 5, none⟩) (by simp)
  have x6 := b1.cell (p := ⟨w.heap.size, 6, none⟩) (by simp)
  simp at x0 x1 x2 x3 x4 x5 x6
  have sz := b1.size
  simp at sz
  clear b1 p
  go_wp2_with fail
  refine (hasNoLife_agg o a n c _).mono ?_
  rw [h3]
  rintro e w2 ⟨rfl, b2⟩
  have B2 := hide' b2
  have y0 := (b2.cell (p := ⟨w.heap.size, 0, none⟩) (by simp; omega)).trans x0
  have y1 := (b2.cell (p := ⟨w.heap.size, 1, none⟩) (by simp; omega)).trans x1
  have y2 := (b2.cell (p := ⟨w.heap.size, 2, none⟩) (by simp; omega)).trans x2
  have y3 := (b2.cell (p := ⟨w.heap.size, 3, none⟩) (by simp; omega)).trans x3
  have y4 := (b2.cell (p := ⟨w.heap.size, 4, none⟩) (by simp; omega)).trans x4
  have y5 := (b2.cell (p := ⟨w.heap.size, 5, none⟩) (by simp; omega)).trans x5
  have y6 := (b2.cell (p := ⟨w.heap.size, 6, none⟩) (by simp; omega)).trans x6
  clear b2 x0 x1 x2 x3 x4 x5 x6
  go_wp2
  go_ret
  have s1 := B1.out.size
  simp at s1
  exact ⟨rfl, (((Below.refl _ _).alloc (Nat.le_refl _) _).trans (B1.out.mono (by simp))).trans (B2.out.mono (by omega))⟩

set_option maxHeartbeats 1600000 in
theorem isRule_3a (o : Out) (a : Option Addr) (n c : Nat) (w : World) (hR : ArgR w o a n c) (hk : o.kind = 3) (ht : ¬ turnsP o.turns) :
    Calls Tryd.prog 62 #[o.val (.slice a n c)] w fun e w' => e = .returned (.bool false) ∧ Below w.heap.size w w' := by
  have k1 : (o.kind == 1) = false := by simp; omega
  have k2 : (o.kind == 2) = false := by simp; omega
  have k3 : (o.kind == 3) = true := by simp; omega
  clear hk
  unfold Out.val
  go_enter Tryd.func62, Tryd.ntmps62
  go_wp2_with fail
  refine (isTurns_any o.turns _ hR.tmax).mono ?_
  rintro e w1 ⟨he, rfl⟩
  rcases he with ⟨rfl, p⟩ | ⟨rfl, p⟩
  · exact absurd p ht
  go_wp2
  go_ret
  exact ⟨rfl, (Below.refl _ _).alloc (Nat.le_refl _) _⟩

set_option maxHeartbeats 1600000 in
theorem isRule_3b (o : Out) (a : Option Addr) (n c : Nat) (w : World) (hR : ArgR w o a n c) (hk : o.kind = 3) (ht : turnsP o.turns) (h3 : noLifeB o = false) :
    Calls Tryd.prog 62 #[o.val (.slice a n c)] w fun e w' => e = .returned (.bool false) ∧ Below w.heap.size w w' := by
  have k1 : (o.kind == 1) = false := by simp; omega
  have k2 : (o.kind == 2) = false := by simp; omega
  have k3 : (o.kind == 3) = true := by simp; omega
  clear hk
  unfold Out.val
  go_enter Tryd.func62, Tryd.ntmps62
  go_wp2_with fail
  refine (isTurns_any o.turns _ hR.tmax).mono ?_
  rintro e w1 ⟨he, rfl⟩
  rcases he with ⟨rfl, p⟩ | ⟨rfl, p⟩
  case inr => exact absurd ht p
  go_wp2_with fail
  refine (hasNoLife_agg o a n c _).mono ?_
  rw [h3]
  rintro e w1 ⟨rfl, b1⟩
  have B1 := hide' b1
  clear b1
  go_wp2
  go_ret
  exact ⟨rfl, ((Below.refl _ _).alloc (Nat.le_refl _) _).trans (B1.out.mono (by simp))⟩

set_option maxHeartbeats 1600000 in
theorem isRule_3ct (o : Out) (a : Option Addr) (n c : Nat) (w : World) (hR : ArgR w o a n c) (hk : o.kind = 3) (ht : turnsP o.turns) (h3 : noLifeB o = true) (h4 : noLineB o = true) :
    Calls Tryd.prog 62 #[o.val (.slice a n c)] w fun e w' => e = .returned (.bool true) ∧ Below w.heap.size w w' := by
  have k1 : (o.kind == 1) = false := by simp; omega
  have k2 : (o.kind == 2) = false := by simp; omega
  have k3 : (o.kind == 3) = true := by simp; omega
  clear hk
  unfold Out.val
  go_enter Tryd.func62, Tryd.ntmps62
  go_wp2_with fail
  refine (isTurns_any o.turns _ hR.tmax).mono ?_
  rintro e w1 ⟨he, rfl⟩
  rcases he with ⟨rfl, p⟩ | ⟨rfl, p⟩
  case inr => exact absurd ht p
  go_wp2_with fail
  refine (hasNoLife_agg o a n c _).mono ?_
  rw [h3]
  rintro e w1 ⟨rfl, b1⟩
  have B1 := hide' b1
  have x0 := b1.cell (p := ⟨w.heap.size, 0, none⟩) (by simp)
  have x1 := b1.cell (p := ⟨w.heap.size, 1, none⟩) (by simp)
  have x2 := b1.cell (p := ⟨w.heap.size, 2, none⟩) (by simp)
  have x3 := b1.cell (p := ⟨w.heap.size, 3, none⟩) (by simp)
  have x4 := b1.cell (p := ⟨w.heap.size, 4, none⟩) (by simp)
  have x5 := b1.cell (p := ⟨w.heap.size, 5, none⟩) (by simp)
  have x6 := b1.cell (p := ⟨w.heap.size, 6, none⟩) (by simp)
  simp at x0 x1 x2 x3 x4 x5 x6
  clear b1
  go_wp2_with fail
  refine (hasNoLine_agg o a n c _ hR.len hR.max).mono ?_
  rw [h4]
  rintro e w2 ⟨rfl, b2⟩
  have B2 := hide' b2
  clear b2
  go_wp2
  go_ret
  have s1 := B1.out.size
  simp at s1
  exact ⟨rfl, (((Below.refl _ _).alloc (Nat.le_refl _) _).trans (B1.out.mono (by simp))).trans (B2.out.mono (by omega))⟩

set_option maxHeartbeats 1600000 in
theorem isRule_3cf (o : Out) (a : Option Addr) (n c : Nat) (w : World) (hR : ArgR w o a n c) (hk : o.kind = 3) (ht : turnsP o.turns) (h3 : noLifeB o = true) (h4 : noLineB o = false) :
    Calls Tryd.prog 62 #[o.val (.slice a n c)] w fun e w' => e = .returned (.bool false) ∧ Below w.heap.size w w' := by
  have k1 : (o.kind == 1) = false := by simp; omega
  have k2 : (o.kind == 2) = false := by simp; omega
  have k3 : (o.kind == 3) = true := by simp; omega
  clear hk
  unfold Out.val
  go_enter Tryd.func62, Tryd.ntmps62
  go_wp2_with fail
  refine (isTurns_any o.turns _ hR.tmax).mono ?_
  rintro e w1 ⟨he, rfl⟩
  rcases he with ⟨rfl, p⟩ | ⟨rfl, p⟩
  case inr => exact absurd ht p
  go_wp2_with fail
  refine (hasNoLife_agg o a n c _).mono ?_
  rw [h3]
  rintro e w1 ⟨rfl, b1⟩
  have B1 := hide' b1
  have x0 := b1.cell (p := ⟨w.heap.size, 0, none⟩) (by simp)
  have x1 := b1.cell (p := ⟨w.heap.size, 1, none⟩) (by simp)
  have x2 := b1.cell (p := ⟨w.heap.size, 2, none⟩) (by simp)
  have x3 := b1.cell (p := ⟨w.heap.size, 3, none⟩) (by simp)
  have x4 := b1.cell (p := ⟨w.heap.size, 4, none⟩) (by simp)
  have x5 := b1.cell (p := ⟨w.heap.size, 5, none⟩) (by simp)
  have x6 := b1.cell (p := ⟨w.heap.size, 6, none⟩) (by simp)
  simp at x0 x1 x2 x3 x4 x5 x6
  clear b1
  go_wp2_with fail
  refine (hasNoLine_agg o a n c _ hR.len hR.max).mono ?_
  rw [h4]
  rintro e w2 ⟨rfl, b2⟩
  have B2 := hide' b2
  clear b2
  go_wp2
  go_ret
  have s1 := B1.out.size
  simp at s1
  exact ⟨rfl, (((Below.refl _ _).alloc (Nat.le_refl _) _).trans (B1.out.mono (by simp))).trans (B2.out.mono (by omega))⟩

set_option maxHeartbeats 1600000 in
theorem isRule_0 (o : Out) (a : Option Addr) (n c : Nat) (w : World) (hR : ArgR w o a n c) (n1 : ¬ o.kind = 1) (n2 : ¬ o.kind = 2) (n3 : ¬ o.kind = 3) :
    Calls Tryd.prog 62 #[o.val (.slice a n c)] w fun e w' => e = .returned (.bool false) ∧ Below w.heap.size w w' := by
  have k1 : (o.kind == 1) = false := by simp; omega
  have k2 : (o.kind == 2) = false := by simp; omega
  have k3 : (o.kind == 3) = false := by simp; omega
  unfold Out.val
  go_enter Tryd.func62, Tryd.ntmps62
  go_wp2
  go_ret
  exact ⟨rfl, (Below.refl _ _).alloc (Nat.le_refl _) _⟩


/-- isRule says what a rule is. -/
theorem isRule_any (o : Out) (a : Option Addr) (n c : Nat) (w : World) (hR : ArgR w o a n c) :
    Calls Tryd.prog 62 #[.agg #[.int .i64 o.kind, .int .i64 o.born, .int .i64 o.stay, .int .i64 o.states, .int .i64 o.radius, .slice a n c, .string o.turns]] w fun e w' => (e = .returned (.bool true) ∧ Good o ∨ e = .returned (.bool false) ∧ ¬ Good o) ∧ Below w.heap.size w w' := by
  have yes : Good o → Calls Tryd.prog 62 #[o.val (.slice a n c)] w (fun e w' => e = .returned (.bool true) ∧ Below w.heap.size w w') →
      Calls Tryd.prog 62 #[o.val (.slice a n c)] w fun e w' => (e = .returned (.bool true) ∧ Good o ∨ e = .returned (.bool false) ∧ ¬ Good o) ∧ Below w.heap.size w w' := fun g h => h.mono fun e w' q => ⟨Or.inl ⟨q.1, g⟩, q.2⟩
  have no : ¬ Good o → Calls Tryd.prog 62 #[o.val (.slice a n c)] w (fun e w' => e = .returned (.bool false) ∧ Below w.heap.size w w') →
      Calls Tryd.prog 62 #[o.val (.slice a n c)] w fun e w' => (e = .returned (.bool true) ∧ Good o ∨ e = .returned (.bool false) ∧ ¬ Good o) ∧ Below w.heap.size w w' := fun g h => h.mono fun e w' q => ⟨Or.inr ⟨q.1, g⟩, q.2⟩
  show Calls Tryd.prog 62 #[o.val (.slice a n c)] w _
  by_cases k1 : o.kind = 1
  · cases h1 : bitsB o.born with
    | false => exact no (fun g => by rcases g with g | g | g <;> simp_all) (isRule_1a o a n c w hR k1 h1)
    | true =>
    cases h2 : bitsB o.stay with
    | false => exact no (fun g => by rcases g with g | g | g <;> simp_all) (isRule_1b o a n c w hR k1 h1 h2)
    | true =>
    cases h3 : noLineB o with
    | false => exact no (fun g => by rcases g with g | g | g <;> simp_all) (isRule_1c o a n c w hR k1 h1 h2 h3)
    | true =>
    cases h4 : o.turns.toList.isEmpty with
    | false => exact no (fun g => by rcases g with g | g | g <;> simp_all) (isRule_1df o a n c w hR k1 h1 h2 h3 h4)
    | true => exact yes (Or.inl ⟨k1, h1, h2, h3, h4⟩) (isRule_1dt o a n c w hR k1 h1 h2 h3 h4)
  by_cases k2 : o.kind = 2
  · by_cases h : 2 ≤ o.states ∧ o.states ≤ 4 ∧ 0 ≤ o.radius
    · by_cases hl : lineP o
      · cases h3 : noLifeB o with
        | false => exact no (fun g => by rcases g with g | g | g <;> simp_all) (isRule_2c o a n c w hR k2 h hl h3)
        | true =>
        cases h4 : o.turns.toList.isEmpty with
        | false => exact no (fun g => by rcases g with g | g | g <;> simp_all) (isRule_2df o a n c w hR k2 h hl h3 h4)
        | true => exact yes (Or.inr (Or.inl ⟨k2, hl, h3, h4⟩)) (isRule_2dt o a n c w hR k2 h hl h3 h4)
      · exact no (fun g => by rcases g with g | g | g <;> simp_all) (isRule_2b o a n c w hR k2 h hl)
    · exact no (fun g => by
        rcases g with g | g | g
        · exact k1 g.1
        · exact h ⟨g.2.1.1, g.2.1.2.1, g.2.1.2.2.1⟩
        · have := g.1; omega) (isRule_2a o a n c w hR k2 h)
  by_cases k3 : o.kind = 3
  · by_cases ht : turnsP o.turns
    · cases h3 : noLifeB o with
      | false => exact no (fun g => by rcases g with g | g | g <;> simp_all) (isRule_3b o a n c w hR k3 ht h3)
      | true =>
      cases h4 : noLineB o with
      | false => exact no (fun g => by rcases g with g | g | g <;> simp_all) (isRule_3cf o a n c w hR k3 ht h3 h4)
      | true => exact yes (Or.inr (Or.inr ⟨k3, ht, h3, h4⟩)) (isRule_3ct o a n c w hR k3 ht h3 h4)
    · exact no (fun g => by rcases g with g | g | g <;> simp_all) (isRule_3a o a n c w hR k3 ht)
  exact no (fun g => by rcases g with g | g | g <;> simp_all) (isRule_0 o a n c w hR k1 k2 k3)

/-- Check: nil where it is a rule, else ErrRange. -/
theorem Check_any (o : Out) (a : Option Addr) (n c : Nat) (w : World) (hR : ArgR w o a n c) :
    Calls Tryd.prog 17 #[.agg #[.int .i64 o.kind, .int .i64 o.born, .int .i64 o.stay, .int .i64 o.states, .int .i64 o.radius, .slice a n c, .string o.turns]] w fun e w' => (e = .returned .nilIface ∧ Good o ∨ e = .returned (.iface 87 (.int .i64 1)) ∧ ¬ Good o) ∧ Below w.heap.size w w' := by
  go_enter Tryd.func17, Tryd.ntmps17
  go_wp2_with fail
  refine (isRule_any o a n c _ (hR.alloc _)).mono ?_
  rintro e w1 ⟨he, b1⟩
  have B1 := hide' b1
  clear b1
  rcases he with ⟨rfl, g⟩ | ⟨rfl, g⟩
  · go_wp2
    go_ret
    exact ⟨Or.inl ⟨rfl, g⟩, ((Below.refl _ _).alloc (Nat.le_refl _) _).trans (B1.out.mono (by simp))⟩
  · go_wp2
    go_ret
    exact ⟨Or.inr ⟨rfl, g⟩, ((Below.refl _ _).alloc (Nat.le_refl _) _).trans (B1.out.mono (by simp))⟩
end Go.Proofs.YtjngjnkecnnmeaaDoor

namespace Go.Proofs.YtjngjnkecnnmeaaDoor
open Go.RowKit
set_option linter.unusedVariables false

theorem ent_pow (n m : Nat) (hn : 2 ≤ n) (hn' : n ≤ 4) (hm : m ≤ 10) : (entOf n m ≤ 4096 ∧ powS n (2 * m + 1) = entOf n m) ∨ (4096 < entOf n m ∧ powS n (2 * m + 1) = 5000) := by
  have h1 : n = 2 ∨ n = 3 ∨ n = 4 := by omega
  have h2 : m = 0 ∨ m = 1 ∨ m = 2 ∨ m = 3 ∨ m = 4 ∨ m = 5 ∨ m = 6 ∨ m = 7 ∨ m = 8 ∨ m = 9 ∨ m = 10 := by omega
  rcases h1 with rfl | rfl | rfl <;> rcases h2 with rfl | rfl | rfl | rfl | rfl | rfl | rfl | rfl | rfl | rfl | rfl <;> decide
theorem ent_far (n m : Nat) (hn : 2 ≤ n) (hn' : n ≤ 4) (hm : 10 < m) : 4096 < entOf n m := by
  obtain ⟨k, rfl⟩ : ∃ k, m = k + 6 := ⟨m - 6, by omega⟩
  have h1 : n = 2 ∨ n = 3 ∨ n = 4 := by omega
  rcases h1 with rfl | rfl | rfl
  · show 4096 < entF 2 (k + 6) 2
    simp [entF, entF_stop]
  · show 4096 < entF 3 (k + 6) 3
    simp [entF]
  · show 4096 < entF 4 (k + 6) 4
    simp [entF]

set_option maxRecDepth 100000 in
set_option maxHeartbeats 1600000 in
theorem Fault_0a (o : Out) (a : Option Addr) (n c : Nat) (w : World) (hR : ArgR w o a n c) (hk : o.kind < 1) :
    Calls Tryd.prog 16 #[.agg #[.int .i64 o.kind, .int .i64 o.born, .int .i64 o.stay, .int .i64 o.states, .int .i64 o.radius, .slice a n c, .string o.turns]] w fun e w' => e = .returned (.int .i64 1) ∧ Below w.heap.size w w' := by
  have hn := hR.len
  have hm := hR.max
  have htm := hR.tmax
  unfold maxLen at hm htm
  clear hR hn
  go_enter Tryd.func16, Tryd.ntmps16
  go_wp2
  go_ret
  exact ⟨rfl, (Below.refl _ _).alloc (Nat.le_refl _) _⟩

set_option maxRecDepth 100000 in
set_option maxHeartbeats 1600000 in
theorem Fault_0b (o : Out) (a : Option Addr) (n c : Nat) (w : World) (hR : ArgR w o a n c) (hk : 3 < o.kind) :
    Calls Tryd.prog 16 #[.agg #[.int .i64 o.kind, .int .i64 o.born, .int .i64 o.stay, .int .i64 o.states, .int .i64 o.radius, .slice a n c, .string o.turns]] w fun e w' => e = .returned (.int .i64 1) ∧ Below w.heap.size w w' := by
  have hn := hR.len
  have hm := hR.max
  have htm := hR.tmax
  unfold maxLen at hm htm
  have z1 : ¬ o.kind < 1 := by omega
  clear hR hn
  go_enter Tryd.func16, Tryd.ntmps16
  go_wp2
  go_ret
  exact ⟨rfl, (Below.refl _ _).alloc (Nat.le_refl _) _⟩

set_option maxRecDepth 100000 in
set_option maxHeartbeats 1600000 in
theorem Fault_1a (o : Out) (a : Option Addr) (n c : Nat) (w : World) (hR : ArgR w o a n c) (hk : o.kind = 1) (h1 : o.born < 0) :
    Calls Tryd.prog 16 #[.agg #[.int .i64 o.kind, .int .i64 o.born, .int .i64 o.stay, .int .i64 o.states, .int .i64 o.radius, .slice a n c, .string o.turns]] w fun e w' => e = .returned (.int .i64 1) ∧ Below w.heap.size w w' := by
  have hn := hR.len
  have hm := hR.max
  have htm := hR.tmax
  unfold maxLen at hm htm
  have z1 : ¬ o.kind < 1 := by omega
  have z2 : ¬ 3 < o.kind := by omega
  have y1 : (o.kind == 1) = true := by simp; omega
  have y2 : (o.kind == 2) = false := by simp; omega
  have y3 : (o.kind == 3) = false := by simp; omega
  clear hk
  clear hR hn
  go_enter Tryd.func16, Tryd.ntmps16
  go_wp2
  go_ret
  exact ⟨rfl, (Below.refl _ _).alloc (Nat.le_refl _) _⟩

set_option maxRecDepth 100000 in
set_option maxHeartbeats 1600000 in
theorem Fault_1b (o : Out) (a : Option Addr) (n c : Nat) (w : World) (hR : ArgR w o a n c) (hk : o.kind = 1) (h1 : ¬ o.born < 0) (h2 : 511 < o.born) :
    Calls Tryd.prog 16 #[.agg #[.int .i64 o.kind, .int .i64 o.born, .int .i64 o.stay, .int .i64 o.states, .int .i64 o.radius, .slice a n c, .string o.turns]] w fun e w' => e = .returned (.int .i64 1) ∧ Below w.heap.size w w' := by
  have hn := hR.len
  have hm := hR.max
  have htm := hR.tmax
  unfold maxLen at hm htm
  have z1 : ¬ o.kind < 1 := by omega
  have z2 : ¬ 3 < o.kind := by omega
  have y1 : (o.kind == 1) = true := by simp; omega
  have y2 : (o.kind == 2) = false := by simp; omega
  have y3 : (o.kind == 3) = false := by simp; omega
  clear hk
  clear hR hn
  go_enter Tryd.func16, Tryd.ntmps16
  go_wp2
  go_ret
  exact ⟨rfl, (Below.refl _ _).alloc (Nat.le_refl _) _⟩

set_option maxRecDepth 100000 in
set_option maxHeartbeats 1600000 in
theorem Fault_1c (o : Out) (a : Option Addr) (n c : Nat) (w : World) (hR : ArgR w o a n c) (hk : o.kind = 1) (h1 : ¬ o.born < 0) (h2 : ¬ 511 < o.born) (h3 : o.stay < 0) :
    Calls Tryd.prog 16 #[.agg #[.int .i64 o.kind, .int .i64 o.born, .int .i64 o.stay, .int .i64 o.states, .int .i64 o.radius, .slice a n c, .string o.turns]] w fun e w' => e = .returned (.int .i64 1) ∧ Below w.heap.size w w' := by
  have hn := hR.len
  have hm := hR.max
  have htm := hR.tmax
  unfold maxLen at hm htm
  have z1 : ¬ o.kind < 1 := by omega
  have z2 : ¬ 3 < o.kind := by omega
  have y1 : (o.kind == 1) = true := by simp; omega
  have y2 : (o.kind == 2) = false := by simp; omega
  have y3 : (o.kind == 3) = false := by simp; omega
  clear hk
  clear hR hn
  go_enter Tryd.func16, Tryd.ntmps16
  go_wp2
  go_ret
  exact ⟨rfl, (Below.refl _ _).alloc (Nat.le_refl _) _⟩

set_option maxRecDepth 100000 in
set_option maxHeartbeats 1600000 in
theorem Fault_1d (o : Out) (a : Option Addr) (n c : Nat) (w : World) (hR : ArgR w o a n c) (hk : o.kind = 1) (h1 : ¬ o.born < 0) (h2 : ¬ 511 < o.born) (h3 : ¬ o.stay < 0) (h4 : 511 < o.stay) :
    Calls Tryd.prog 16 #[.agg #[.int .i64 o.kind, .int .i64 o.born, .int .i64 o.stay, .int .i64 o.states, .int .i64 o.radius, .slice a n c, .string o.turns]] w fun e w' => e = .returned (.int .i64 1) ∧ Below w.heap.size w w' := by
  have hn := hR.len
  have hm := hR.max
  have htm := hR.tmax
  unfold maxLen at hm htm
  have z1 : ¬ o.kind < 1 := by omega
  have z2 : ¬ 3 < o.kind := by omega
  have y1 : (o.kind == 1) = true := by simp; omega
  have y2 : (o.kind == 2) = false := by simp; omega
  have y3 : (o.kind == 3) = false := by simp; omega
  clear hk
  clear hR hn
  go_enter Tryd.func16, Tryd.ntmps16
  go_wp2
  go_ret
  exact ⟨rfl, (Below.refl _ _).alloc (Nat.le_refl _) _⟩

set_option maxRecDepth 100000 in
set_option maxHeartbeats 1600000 in
theorem Fault_1e (o : Out) (a : Option Addr) (n c : Nat) (w : World) (hR : ArgR w o a n c) (hk : o.kind = 1) (h1 : ¬ o.born < 0) (h2 : ¬ 511 < o.born) (h3 : ¬ o.stay < 0) (h4 : ¬ 511 < o.stay) (l1 : (o.states != 0) = true) :
    Calls Tryd.prog 16 #[.agg #[.int .i64 o.kind, .int .i64 o.born, .int .i64 o.stay, .int .i64 o.states, .int .i64 o.radius, .slice a n c, .string o.turns]] w fun e w' => e = .returned (.int .i64 1) ∧ Below w.heap.size w w' := by
  have hn := hR.len
  have hm := hR.max
  have htm := hR.tmax
  unfold maxLen at hm htm
  have z1 : ¬ o.kind < 1 := by omega
  have z2 : ¬ 3 < o.kind := by omega
  have y1 : (o.kind == 1) = true := by simp; omega
  have y2 : (o.kind == 2) = false := by simp; omega
  have y3 : (o.kind == 3) = false := by simp; omega
  clear hk
  clear hR hn
  go_enter Tryd.func16, Tryd.ntmps16
  go_wp2
  go_ret
  exact ⟨rfl, (Below.refl _ _).alloc (Nat.le_refl _) _⟩

set_option maxRecDepth 100000 in
set_option maxHeartbeats 1600000 in
theorem Fault_1f (o : Out) (a : Option Addr) (n c : Nat) (w : World) (hR : ArgR w o a n c) (hk : o.kind = 1) (h1 : ¬ o.born < 0) (h2 : ¬ 511 < o.born) (h3 : ¬ o.stay < 0) (h4 : ¬ 511 < o.stay) (l1 : (o.states != 0) = false) (l2 : (o.radius != 0) = true) :
    Calls Tryd.prog 16 #[.agg #[.int .i64 o.kind, .int .i64 o.born, .int .i64 o.stay, .int .i64 o.states, .int .i64 o.radius, .slice a n c, .string o.turns]] w fun e w' => e = .returned (.int .i64 1) ∧ Below w.heap.size w w' := by
  have hn := hR.len
  have hm := hR.max
  have htm := hR.tmax
  unfold maxLen at hm htm
  have z1 : ¬ o.kind < 1 := by omega
  have z2 : ¬ 3 < o.kind := by omega
  have y1 : (o.kind == 1) = true := by simp; omega
  have y2 : (o.kind == 2) = false := by simp; omega
  have y3 : (o.kind == 3) = false := by simp; omega
  clear hk
  clear hR hn
  go_enter Tryd.func16, Tryd.ntmps16
  go_wp2
  go_ret
  exact ⟨rfl, (Below.refl _ _).alloc (Nat.le_refl _) _⟩

set_option maxRecDepth 100000 in
set_option maxHeartbeats 1600000 in
theorem Fault_1g (o : Out) (a : Option Addr) (n c : Nat) (w : World) (hR : ArgR w o a n c) (hk : o.kind = 1) (h1 : ¬ o.born < 0) (h2 : ¬ 511 < o.born) (h3 : ¬ o.stay < 0) (h4 : ¬ 511 < o.stay) (l1 : (o.states != 0) = false) (l2 : (o.radius != 0) = false) (l3 : 0 < (n : Int)) :
    Calls Tryd.prog 16 #[.agg #[.int .i64 o.kind, .int .i64 o.born, .int .i64 o.stay, .int .i64 o.states, .int .i64 o.radius, .slice a n c, .string o.turns]] w fun e w' => e = .returned (.int .i64 1) ∧ Below w.heap.size w w' := by
  have hn := hR.len
  have hm := hR.max
  have htm := hR.tmax
  unfold maxLen at hm htm
  have z1 : ¬ o.kind < 1 := by omega
  have z2 : ¬ 3 < o.kind := by omega
  have y1 : (o.kind == 1) = true := by simp; omega
  have y2 : (o.kind == 2) = false := by simp; omega
  have y3 : (o.kind == 3) = false := by simp; omega
  clear hk
  clear hR hn
  go_enter Tryd.func16, Tryd.ntmps16
  go_wp2
  go_ret
  exact ⟨rfl, (Below.refl _ _).alloc (Nat.le_refl _) _⟩

set_option maxRecDepth 100000 in
set_option maxHeartbeats 1600000 in
theorem Fault_1h (o : Out) (a : Option Addr) (n c : Nat) (w : World) (hR : ArgR w o a n c) (hk : o.kind = 1) (h1 : ¬ o.born < 0) (h2 : ¬ 511 < o.born) (h3 : ¬ o.stay < 0) (h4 : ¬ 511 < o.stay) (l1 : (o.states != 0) = false) (l2 : (o.radius != 0) = false) (l3 : ¬ 0 < (n : Int)) (t1 : o.turns.toList.isEmpty = false) :
    Calls Tryd.prog 16 #[.agg #[.int .i64 o.kind, .int .i64 o.born, .int .i64 o.stay, .int .i64 o.states, .int .i64 o.radius, .slice a n c, .string o.turns]] w fun e w' => e = .returned (.int .i64 1) ∧ Below w.heap.size w w' := by
  have hn := hR.len
  have hm := hR.max
  have htm := hR.tmax
  unfold maxLen at hm htm
  have z1 : ¬ o.kind < 1 := by omega
  have z2 : ¬ 3 < o.kind := by omega
  have y1 : (o.kind == 1) = true := by simp; omega
  have y2 : (o.kind == 2) = false := by simp; omega
  have y3 : (o.kind == 3) = false := by simp; omega
  clear hk
  clear hR hn
  go_enter Tryd.func16, Tryd.ntmps16
  go_wp2
  go_ret
  exact ⟨rfl, (Below.refl _ _).alloc (Nat.le_refl _) _⟩

set_option maxRecDepth 100000 in
set_option maxHeartbeats 1600000 in
theorem Fault_1i (o : Out) (a : Option Addr) (n c : Nat) (w : World) (hR : ArgR w o a n c) (hk : o.kind = 1) (h1 : ¬ o.born < 0) (h2 : ¬ 511 < o.born) (h3 : ¬ o.stay < 0) (h4 : ¬ 511 < o.stay) (l1 : (o.states != 0) = false) (l2 : (o.radius != 0) = false) (l3 : ¬ 0 < (n : Int)) (t1 : o.turns.toList.isEmpty = true) :
    Calls Tryd.prog 16 #[.agg #[.int .i64 o.kind, .int .i64 o.born, .int .i64 o.stay, .int .i64 o.states, .int .i64 o.radius, .slice a n c, .string o.turns]] w fun e w' => e = .returned (.int .i64 0) ∧ Below w.heap.size w w' := by
  have hn := hR.len
  have hm := hR.max
  have htm := hR.tmax
  unfold maxLen at hm htm
  have z1 : ¬ o.kind < 1 := by omega
  have z2 : ¬ 3 < o.kind := by omega
  have y1 : (o.kind == 1) = true := by simp; omega
  have y2 : (o.kind == 2) = false := by simp; omega
  have y3 : (o.kind == 3) = false := by simp; omega
  clear hk
  clear hR hn
  go_enter Tryd.func16, Tryd.ntmps16
  go_wp2
  go_ret
  exact ⟨rfl, (Below.refl _ _).alloc (Nat.le_refl _) _⟩

set_option maxRecDepth 100000 in
set_option maxHeartbeats 1600000 in
theorem Fault_3a (o : Out) (a : Option Addr) (n c : Nat) (w : World) (hR : ArgR w o a n c) (hk : o.kind = 3) (h1 : (o.born != 0) = true) :
    Calls Tryd.prog 16 #[.agg #[.int .i64 o.kind, .int .i64 o.born, .int .i64 o.stay, .int .i64 o.states, .int .i64 o.radius, .slice a n c, .string o.turns]] w fun e w' => e = .returned (.int .i64 1) ∧ Below w.heap.size w w' := by
  have hn := hR.len
  have hm := hR.max
  have htm := hR.tmax
  unfold maxLen at hm htm
  have z1 : ¬ o.kind < 1 := by omega
  have z2 : ¬ 3 < o.kind := by omega
  have y1 : (o.kind == 1) = false := by simp; omega
  have y2 : (o.kind == 2) = false := by simp; omega
  have y3 : (o.kind == 3) = true := by simp; omega
  clear hk
  clear hR hn
  go_enter Tryd.func16, Tryd.ntmps16
  go_wp2
  go_ret
  exact ⟨rfl, (Below.refl _ _).alloc (Nat.le_refl _) _⟩

set_option maxRecDepth 100000 in
set_option maxHeartbeats 1600000 in
theorem Fault_3b (o : Out) (a : Option Addr) (n c : Nat) (w : World) (hR : ArgR w o a n c) (hk : o.kind = 3) (h1 : (o.born != 0) = false) (h2 : (o.stay != 0) = true) :
    Calls Tryd.prog 16 #[.agg #[.int .i64 o.kind, .int .i64 o.born, .int .i64 o.stay, .int .i64 o.states, .int .i64 o.radius, .slice a n c, .string o.turns]] w fun e w' => e = .returned (.int .i64 1) ∧ Below w.heap.size w w' := by
  have hn := hR.len
  have hm := hR.max
  have htm := hR.tmax
  unfold maxLen at hm htm
  have z1 : ¬ o.kind < 1 := by omega
  have z2 : ¬ 3 < o.kind := by omega
  have y1 : (o.kind == 1) = false := by simp; omega
  have y2 : (o.kind == 2) = false := by simp; omega
  have y3 : (o.kind == 3) = true := by simp; omega
  clear hk
  clear hR hn
  go_enter Tryd.func16, Tryd.ntmps16
  go_wp2
  go_ret
  exact ⟨rfl, (Below.refl _ _).alloc (Nat.le_refl _) _⟩

set_option maxRecDepth 100000 in
set_option maxHeartbeats 1600000 in
theorem Fault_3c (o : Out) (a : Option Addr) (n c : Nat) (w : World) (hR : ArgR w o a n c) (hk : o.kind = 3) (h1 : (o.born != 0) = false) (h2 : (o.stay != 0) = false) (l1 : (o.states != 0) = true) :
    Calls Tryd.prog 16 #[.agg #[.int .i64 o.kind, .int .i64 o.born, .int .i64 o.stay, .int .i64 o.states, .int .i64 o.radius, .slice a n c, .string o.turns]] w fun e w' => e = .returned (.int .i64 1) ∧ Below w.heap.size w w' := by
  have hn := hR.len
  have hm := hR.max
  have htm := hR.tmax
  unfold maxLen at hm htm
  have z1 : ¬ o.kind < 1 := by omega
  have z2 : ¬ 3 < o.kind := by omega
  have y1 : (o.kind == 1) = false := by simp; omega
  have y2 : (o.kind == 2) = false := by simp; omega
  have y3 : (o.kind == 3) = true := by simp; omega
  clear hk
  clear hR hn
  go_enter Tryd.func16, Tryd.ntmps16
  go_wp2
  go_ret
  exact ⟨rfl, (Below.refl _ _).alloc (Nat.le_refl _) _⟩

set_option maxRecDepth 100000 in
set_option maxHeartbeats 1600000 in
theorem Fault_3d (o : Out) (a : Option Addr) (n c : Nat) (w : World) (hR : ArgR w o a n c) (hk : o.kind = 3) (h1 : (o.born != 0) = false) (h2 : (o.stay != 0) = false) (l1 : (o.states != 0) = false) (l2 : (o.radius != 0) = true) :
    Calls Tryd.prog 16 #[.agg #[.int .i64 o.kind, .int .i64 o.born, .int .i64 o.stay, .int .i64 o.states, .int .i64 o.radius, .slice a n c, .string o.turns]] w fun e w' => e = .returned (.int .i64 1) ∧ Below w.heap.size w w' := by
  have hn := hR.len
  have hm := hR.max
  have htm := hR.tmax
  unfold maxLen at hm htm
  have z1 : ¬ o.kind < 1 := by omega
  have z2 : ¬ 3 < o.kind := by omega
  have y1 : (o.kind == 1) = false := by simp; omega
  have y2 : (o.kind == 2) = false := by simp; omega
  have y3 : (o.kind == 3) = true := by simp; omega
  clear hk
  clear hR hn
  go_enter Tryd.func16, Tryd.ntmps16
  go_wp2
  go_ret
  exact ⟨rfl, (Below.refl _ _).alloc (Nat.le_refl _) _⟩

set_option maxRecDepth 100000 in
set_option maxHeartbeats 1600000 in
theorem Fault_3e (o : Out) (a : Option Addr) (n c : Nat) (w : World) (hR : ArgR w o a n c) (hk : o.kind = 3) (h1 : (o.born != 0) = false) (h2 : (o.stay != 0) = false) (l1 : (o.states != 0) = false) (l2 : (o.radius != 0) = false) (l3 : 0 < (n : Int)) :
    Calls Tryd.prog 16 #[.agg #[.int .i64 o.kind, .int .i64 o.born, .int .i64 o.stay, .int .i64 o.states, .int .i64 o.radius, .slice a n c, .string o.turns]] w fun e w' => e = .returned (.int .i64 1) ∧ Below w.heap.size w w' := by
  have hn := hR.len
  have hm := hR.max
  have htm := hR.tmax
  unfold maxLen at hm htm
  have z1 : ¬ o.kind < 1 := by omega
  have z2 : ¬ 3 < o.kind := by omega
  have y1 : (o.kind == 1) = false := by simp; omega
  have y2 : (o.kind == 2) = false := by simp; omega
  have y3 : (o.kind == 3) = true := by simp; omega
  clear hk
  clear hR hn
  go_enter Tryd.func16, Tryd.ntmps16
  go_wp2
  go_ret
  exact ⟨rfl, (Below.refl _ _).alloc (Nat.le_refl _) _⟩

set_option maxRecDepth 100000 in
set_option maxHeartbeats 1600000 in
theorem Fault_3f (o : Out) (a : Option Addr) (n c : Nat) (w : World) (hR : ArgR w o a n c) (hk : o.kind = 3) (h1 : (o.born != 0) = false) (h2 : (o.stay != 0) = false) (l1 : (o.states != 0) = false) (l2 : (o.radius != 0) = false) (l3 : ¬ 0 < (n : Int)) (t1 : (o.turns.size : Int) < 1) :
    Calls Tryd.prog 16 #[.agg #[.int .i64 o.kind, .int .i64 o.born, .int .i64 o.stay, .int .i64 o.states, .int .i64 o.radius, .slice a n c, .string o.turns]] w fun e w' => e = .returned (.int .i64 1) ∧ Below w.heap.size w w' := by
  have hn := hR.len
  have hm := hR.max
  have htm := hR.tmax
  unfold maxLen at hm htm
  have z1 : ¬ o.kind < 1 := by omega
  have z2 : ¬ 3 < o.kind := by omega
  have y1 : (o.kind == 1) = false := by simp; omega
  have y2 : (o.kind == 2) = false := by simp; omega
  have y3 : (o.kind == 3) = true := by simp; omega
  clear hk
  clear hR hn
  go_enter Tryd.func16, Tryd.ntmps16
  go_wp2
  go_ret
  exact ⟨rfl, (Below.refl _ _).alloc (Nat.le_refl _) _⟩

set_option maxRecDepth 100000 in
set_option maxHeartbeats 1600000 in
theorem Fault_3g (o : Out) (a : Option Addr) (n c : Nat) (w : World) (hR : ArgR w o a n c) (hk : o.kind = 3) (h1 : (o.born != 0) = false) (h2 : (o.stay != 0) = false) (l1 : (o.states != 0) = false) (l2 : (o.radius != 0) = false) (l3 : ¬ 0 < (n : Int)) (t1 : ¬ (o.turns.size : Int) < 1) (t2 : 26 < (o.turns.size : Int)) :
    Calls Tryd.prog 16 #[.agg #[.int .i64 o.kind, .int .i64 o.born, .int .i64 o.stay, .int .i64 o.states, .int .i64 o.radius, .slice a n c, .string o.turns]] w fun e w' => e = .returned (.int .i64 1) ∧ Below w.heap.size w w' := by
  have hn := hR.len
  have hm := hR.max
  have htm := hR.tmax
  unfold maxLen at hm htm
  have z1 : ¬ o.kind < 1 := by omega
  have z2 : ¬ 3 < o.kind := by omega
  have y1 : (o.kind == 1) = false := by simp; omega
  have y2 : (o.kind == 2) = false := by simp; omega
  have y3 : (o.kind == 3) = true := by simp; omega
  clear hk
  clear hR hn
  go_enter Tryd.func16, Tryd.ntmps16
  go_wp2
  go_ret
  exact ⟨rfl, (Below.refl _ _).alloc (Nat.le_refl _) _⟩

set_option maxRecDepth 100000 in
set_option maxHeartbeats 1600000 in
theorem Fault_2a (o : Out) (a : Option Addr) (n c : Nat) (w : World) (hR : ArgR w o a n c) (hk : o.kind = 2) (h1 : (o.born != 0) = true) :
    Calls Tryd.prog 16 #[.agg #[.int .i64 o.kind, .int .i64 o.born, .int .i64 o.stay, .int .i64 o.states, .int .i64 o.radius, .slice a n c, .string o.turns]] w fun e w' => e = .returned (.int .i64 1) ∧ Below w.heap.size w w' := by
  have hn := hR.len
  have hm := hR.max
  have htm := hR.tmax
  unfold maxLen at hm htm
  have z1 : ¬ o.kind < 1 := by omega
  have z2 : ¬ 3 < o.kind := by omega
  have y1 : (o.kind == 1) = false := by simp; omega
  have y2 : (o.kind == 2) = true := by simp; omega
  have y3 : (o.kind == 3) = false := by simp; omega
  clear hk
  clear hR hn
  go_enter Tryd.func16, Tryd.ntmps16
  go_wp2
  go_ret
  exact ⟨rfl, (Below.refl _ _).alloc (Nat.le_refl _) _⟩

set_option maxRecDepth 100000 in
set_option maxHeartbeats 1600000 in
theorem Fault_2b (o : Out) (a : Option Addr) (n c : Nat) (w : World) (hR : ArgR w o a n c) (hk : o.kind = 2) (h1 : (o.born != 0) = false) (h2 : (o.stay != 0) = true) :
    Calls Tryd.prog 16 #[.agg #[.int .i64 o.kind, .int .i64 o.born, .int .i64 o.stay, .int .i64 o.states, .int .i64 o.radius, .slice a n c, .string o.turns]] w fun e w' => e = .returned (.int .i64 1) ∧ Below w.heap.size w w' := by
  have hn := hR.len
  have hm := hR.max
  have htm := hR.tmax
  unfold maxLen at hm htm
  have z1 : ¬ o.kind < 1 := by omega
  have z2 : ¬ 3 < o.kind := by omega
  have y1 : (o.kind == 1) = false := by simp; omega
  have y2 : (o.kind == 2) = true := by simp; omega
  have y3 : (o.kind == 3) = false := by simp; omega
  clear hk
  clear hR hn
  go_enter Tryd.func16, Tryd.ntmps16
  go_wp2
  go_ret
  exact ⟨rfl, (Below.refl _ _).alloc (Nat.le_refl _) _⟩

set_option maxRecDepth 100000 in
set_option maxHeartbeats 1600000 in
theorem Fault_2c (o : Out) (a : Option Addr) (n c : Nat) (w : World) (hR : ArgR w o a n c) (hk : o.kind = 2) (h1 : (o.born != 0) = false) (h2 : (o.stay != 0) = false) (s1 : o.states < 2) :
    Calls Tryd.prog 16 #[.agg #[.int .i64 o.kind, .int .i64 o.born, .int .i64 o.stay, .int .i64 o.states, .int .i64 o.radius, .slice a n c, .string o.turns]] w fun e w' => e = .returned (.int .i64 1) ∧ Below w.heap.size w w' := by
  have hn := hR.len
  have hm := hR.max
  have htm := hR.tmax
  unfold maxLen at hm htm
  have z1 : ¬ o.kind < 1 := by omega
  have z2 : ¬ 3 < o.kind := by omega
  have y1 : (o.kind == 1) = false := by simp; omega
  have y2 : (o.kind == 2) = true := by simp; omega
  have y3 : (o.kind == 3) = false := by simp; omega
  clear hk
  clear hR hn
  go_enter Tryd.func16, Tryd.ntmps16
  go_wp2
  go_ret
  exact ⟨rfl, (Below.refl _ _).alloc (Nat.le_refl _) _⟩

set_option maxRecDepth 100000 in
set_option maxHeartbeats 1600000 in
theorem Fault_2d (o : Out) (a : Option Addr) (n c : Nat) (w : World) (hR : ArgR w o a n c) (hk : o.kind = 2) (h1 : (o.born != 0) = false) (h2 : (o.stay != 0) = false) (s1 : ¬ o.states < 2) (s2 : 4 < o.states) :
    Calls Tryd.prog 16 #[.agg #[.int .i64 o.kind, .int .i64 o.born, .int .i64 o.stay, .int .i64 o.states, .int .i64 o.radius, .slice a n c, .string o.turns]] w fun e w' => e = .returned (.int .i64 1) ∧ Below w.heap.size w w' := by
  have hn := hR.len
  have hm := hR.max
  have htm := hR.tmax
  unfold maxLen at hm htm
  have z1 : ¬ o.kind < 1 := by omega
  have z2 : ¬ 3 < o.kind := by omega
  have y1 : (o.kind == 1) = false := by simp; omega
  have y2 : (o.kind == 2) = true := by simp; omega
  have y3 : (o.kind == 3) = false := by simp; omega
  clear hk
  clear hR hn
  go_enter Tryd.func16, Tryd.ntmps16
  go_wp2
  go_ret
  exact ⟨rfl, (Below.refl _ _).alloc (Nat.le_refl _) _⟩

set_option maxRecDepth 100000 in
set_option maxHeartbeats 1600000 in
theorem Fault_2e (o : Out) (a : Option Addr) (n c : Nat) (w : World) (hR : ArgR w o a n c) (hk : o.kind = 2) (h1 : (o.born != 0) = false) (h2 : (o.stay != 0) = false) (s1 : ¬ o.states < 2) (s2 : ¬ 4 < o.states) (s3 : o.radius < 0) :
    Calls Tryd.prog 16 #[.agg #[.int .i64 o.kind, .int .i64 o.born, .int .i64 o.stay, .int .i64 o.states, .int .i64 o.radius, .slice a n c, .string o.turns]] w fun e w' => e = .returned (.int .i64 1) ∧ Below w.heap.size w w' := by
  have hn := hR.len
  have hm := hR.max
  have htm := hR.tmax
  unfold maxLen at hm htm
  have z1 : ¬ o.kind < 1 := by omega
  have z2 : ¬ 3 < o.kind := by omega
  have y1 : (o.kind == 1) = false := by simp; omega
  have y2 : (o.kind == 2) = true := by simp; omega
  have y3 : (o.kind == 3) = false := by simp; omega
  clear hk
  clear hR hn
  go_enter Tryd.func16, Tryd.ntmps16
  go_wp2
  go_ret
  exact ⟨rfl, (Below.refl _ _).alloc (Nat.le_refl _) _⟩

set_option maxRecDepth 100000 in
set_option maxHeartbeats 1600000 in
theorem Fault_2f (o : Out) (a : Option Addr) (n c : Nat) (w : World) (hR : ArgR w o a n c) (hk : o.kind = 2) (h1 : (o.born != 0) = false) (h2 : (o.stay != 0) = false) (s1 : ¬ o.states < 2) (s2 : ¬ 4 < o.states) (s3 : ¬ o.radius < 0) (s4 : 10 < o.radius) :
    Calls Tryd.prog 16 #[.agg #[.int .i64 o.kind, .int .i64 o.born, .int .i64 o.stay, .int .i64 o.states, .int .i64 o.radius, .slice a n c, .string o.turns]] w fun e w' => e = .returned (.int .i64 1) ∧ Below w.heap.size w w' := by
  have hn := hR.len
  have hm := hR.max
  have htm := hR.tmax
  unfold maxLen at hm htm
  have z1 : ¬ o.kind < 1 := by omega
  have z2 : ¬ 3 < o.kind := by omega
  have y1 : (o.kind == 1) = false := by simp; omega
  have y2 : (o.kind == 2) = true := by simp; omega
  have y3 : (o.kind == 3) = false := by simp; omega
  clear hk
  clear hR hn
  go_enter Tryd.func16, Tryd.ntmps16
  go_wp2
  go_ret
  exact ⟨rfl, (Below.refl _ _).alloc (Nat.le_refl _) _⟩

end Go.Proofs.YtjngjnkecnnmeaaDoor

namespace Go.Proofs.YtjngjnkecnnmeaaDoor
open Go.RowKit
set_option linter.unusedVariables false

/-- A line's rule, and no turns. -/
def lineE (o : Out) : Prop := lineP o ∧ o.turns.toList.isEmpty = true

set_option maxRecDepth 100000 in
set_option maxHeartbeats 1600000 in
theorem Fault_3h (o : Out) (a : Option Addr) (n c : Nat) (w : World) (hR : ArgR w o a n c) (hk : o.kind = 3) (h1 : (o.born != 0) = false) (h2 : (o.stay != 0) = false) (l1 : (o.states != 0) = false) (l2 : (o.radius != 0) = false) (l3 : ¬ 0 < (n : Int)) (t1 : ¬ (o.turns.size : Int) < 1) (t2 : ¬ 26 < (o.turns.size : Int)) :
    Calls Tryd.prog 16 #[.agg #[.int .i64 o.kind, .int .i64 o.born, .int .i64 o.stay, .int .i64 o.states, .int .i64 o.radius, .slice a n c, .string o.turns]] w fun e w' => (e = .returned (.int .i64 0) ∧ turnsP o.turns ∨ e = .returned (.int .i64 1) ∧ ¬ turnsP o.turns) ∧ Below w.heap.size w w' := by
  have hm := hR.max
  have htm := hR.tmax
  unfold maxLen at hm htm
  have z1 : ¬ o.kind < 1 := by omega
  have z2 : ¬ 3 < o.kind := by omega
  have y1 : (o.kind == 1) = false := by simp; omega
  have y2 : (o.kind == 2) = false := by simp; omega
  have y3 : (o.kind == 3) = true := by simp; omega
  clear hk
  clear hR
  go_enter Tryd.func16, Tryd.ntmps16
  go_wp2
  go_loop [5] (fun iv => ∃ i : Nat, iv = .int .i64 (i : Int) ∧ i ≤ o.turns.size ∧ ∀ j, j < i → turnAt o.turns j) (fun iv => o.turns.size - (intOf iv).toNat)
  case atStart => exact ⟨0, rfl, by omega, fun j hj => by omega⟩
  case round =>
    obtain ⟨i, rfl, hi, hall⟩ := hrel
    have HA := hide' hall
    clear hall
    by_cases d : i < o.turns.size
    · have d' : (i : Int) < (o.turns.size : Int) := by omega
      have e := bt_lt o.turns i d
      by_cases q1 : bt o.turns i = 76
      · have r1 : ((o.turns[i].toNat : Int) != 76) = false := by rw [bne_eq_false_iff_eq]; omega
        have T := hide' (show turnAt o.turns i from Or.inl q1)
        clear e q1
        go_wp2
        refine ⟨⟨i + 1, by go_num, by omega, fun j hj => ?_⟩, by simp [intOf]; omega⟩
        by_cases q : j = i
        · rw [q]; exact T.out
        · exact HA.out j (by omega)
      · have r1 : ((o.turns[i].toNat : Int) != 76) = true := by rw [bne_iff_ne]; omega
        by_cases q2 : bt o.turns i = 82
        · have r2 : ((o.turns[i].toNat : Int) != 82) = false := by rw [bne_eq_false_iff_eq]; omega
          have T := hide' (show turnAt o.turns i from Or.inr q2)
          clear e q1 q2
          go_wp2
          refine ⟨⟨i + 1, by go_num, by omega, fun j hj => ?_⟩, by simp [intOf]; omega⟩
          by_cases q : j = i
          · rw [q]; exact T.out
          · exact HA.out j (by omega)
        · have r2 : ((o.turns[i].toNat : Int) != 82) = true := by rw [bne_iff_ne]; omega
          have T := hide' (show ¬ turnAt o.turns i from fun h => by rcases h with h | h; exact q1 h; exact q2 h)
          clear e q1 q2
          go_wp2
          go_ret
          exact ⟨Or.inr ⟨rfl, fun p => T.out (p.2.2 i d)⟩, (Below.refl _ _).alloc (Nat.le_refl _) _⟩
    · have d' : ¬ (i : Int) < (o.turns.size : Int) := by omega
      go_wp2
      go_ret
      exact ⟨Or.inl ⟨rfl, by omega, by omega, fun j hj => HA.out j (by omega)⟩, (Below.refl _ _).alloc (Nat.le_refl _) _⟩

set_option maxRecDepth 100000 in
set_option maxHeartbeats 3200000 in
theorem Fault_2g (o : Out) (a : Option Addr) (n c : Nat) (w : World) (hR : ArgR w o a n c) (hk : o.kind = 2) (h1 : (o.born != 0) = false) (h2 : (o.stay != 0) = false) (s1 : ¬ o.states < 2) (s2 : ¬ 4 < o.states) (s3 : ¬ o.radius < 0) (s4 : ¬ 10 < o.radius) :
    Calls Tryd.prog 16 #[.agg #[.int .i64 o.kind, .int .i64 o.born, .int .i64 o.stay, .int .i64 o.states, .int .i64 o.radius, .slice a n c, .string o.turns]] w fun e w' => (e = .returned (.int .i64 0) ∧ lineE o ∨ e = .returned (.int .i64 1) ∧ ¬ lineE o) ∧ Below w.heap.size w w' := by
  have hm := hR.max
  have htm := hR.tmax
  have hn := hR.len
  unfold maxLen at hm htm
  have RA := hide' (hR.alloc (.cells #[.int .i64 o.kind, .int .i64 o.born, .int .i64 o.stay, .int .i64 o.states, .int .i64 o.radius, .slice a n c, .string o.turns] 24))
  have z1 : ¬ o.kind < 1 := by omega
  have z2 : ¬ 3 < o.kind := by omega
  have y1 : (o.kind == 1) = false := by simp; omega
  have y2 : (o.kind == 2) = true := by simp; omega
  have y3 : (o.kind == 3) = false := by simp; omega
  clear hk
  obtain ⟨E, hE⟩ : ∃ E, E = powS o.states.toNat (2 * o.radius.toNat + 1) := ⟨_, rfl⟩
  have hep := ent_pow o.states.toNat o.radius.toNat (by omega) (by omega) (by omega)
  rw [← hE] at hep
  have EP := hide' hep
  have hE5 : E ≤ 5000 := by omega
  have HE := hide' hE
  have HN := hide' hn
  clear hE hep hR hn
  have call : ∀ (R : Int) (W : World), R = 2 * o.radius + 1 → Calls Tryd.prog 60 #[.int .i64 o.states, .int .i64 R] W fun e w' => e = .returned (.int .i64 (E : Int)) ∧ w' = W := fun R W hRR => by
    have := power_any o.states.toNat (2 * o.radius.toNat + 1) o.states R W (by omega) (by omega) (by omega) (by omega) (by omega)
    rw [← HE.out] at this
    exact this
  have CALL := hide' call
  clear call
  by_cases q1 : 4096 < E
  · have q1' : 4096 < (E : Int) := by omega
    go_enter Tryd.func16, Tryd.ntmps16
    go_wp2_with fail
    refine (CALL.out _ _ rfl).mono ?_
    rintro e w1 ⟨rfl, rfl⟩
    go_wp2
    go_ret
    refine ⟨Or.inr ⟨rfl, fun p => ?_⟩, (Below.refl _ _).alloc (Nat.le_refl _) _⟩
    have := p.1.2.2.2.1
    have := EP.out
    omega
  have q1' : ¬ 4096 < (E : Int) := by omega
  have hEE : entOf o.states.toNat o.radius.toNat = E ∧ E ≤ 4096 := by have := EP.out; omega
  by_cases q2 : n = E
  · have q2' : ((n : Int) != (E : Int)) = false := by rw [bne_eq_false_iff_eq]; omega
    have Q2 := hide' q2
    have HEE := hide' hEE
    clear q2 hEE
    go_enter Tryd.func16, Tryd.ntmps16
    go_wp2_with fail
    refine (CALL.out _ _ rfl).mono ?_
    rintro e w1 ⟨rfl, rfl⟩
    go_wp2
    go_loopw [4] (fun kv wr => ∃ k m : Nat, kv = .int .i64 (k : Int) ∧ k ≤ E ∧ wr = (w.alloc (.cells #[.int .i64 o.kind, .int .i64 o.born, .int .i64 o.stay, .int .i64 o.states, .int .i64 o.radius, .slice a n c, .string o.turns] 24)).drewN m ∧ ∀ j (h : j < o.table.length), j < k → 0 ≤ o.table[j] ∧ o.table[j] < o.states) (fun kv _ => E - (intOf kv).toNat)
    case atStart => exact ⟨0, 0, rfl, by omega, rfl, fun j _ hj => by omega⟩
    case round =>
      obtain ⟨k, m, rfl, hk2, rfl, hall⟩ := hrel
      have HA := hide' hall
      clear hall
      by_cases d : k < E
      · have d' : (k : Int) < (E : Int) := by omega
        have hkl : k < o.table.length := by have := HN.out; have := Q2.out; omega
        have hkn : (k : Int) < (n : Int) := by have := Q2.out; omega
        obtain ⟨g, off, rfl, hg, hc⟩ := RA.out.cells k hkl
        by_cases e1 : 0 ≤ o.table[k]
        · have e1' : decide (o.table[k] < 0) = false := by simp; omega
          by_cases e2 : o.table[k] < o.states
          · have e2' : decide (o.states ≤ o.table[k]) = false := by simp; omega
            go_wp2
            go_quiet (fail)
            go_wp2
            refine ⟨⟨k + 1, m + nq, by go_num, by omega, rfl, fun j h hj => ?_⟩, by simp [intOf]; omega⟩
            by_cases q : j = k
            · subst q; exact ⟨e1, e2⟩
            · exact HA.out j h (by omega)
          · have e2' : decide (o.states ≤ o.table[k]) = true := by simp; omega
            go_wp2
            go_quiet (fail)
            go_wp2
            go_ret
            exact ⟨Or.inr ⟨rfl, fun p => by have := p.1.2.2.2.2.2 k hkl; omega⟩, below_drewN (below_drewN ((Below.refl _ _).alloc (Nat.le_refl _) _) _) _⟩
        · have e1' : decide (o.table[k] < 0) = true := by simp; omega
          go_wp2
          go_quiet (fail)
          go_wp2
          go_ret
          exact ⟨Or.inr ⟨rfl, fun p => by have := p.1.2.2.2.2.2 k hkl; omega⟩, below_drewN (below_drewN ((Below.refl _ _).alloc (Nat.le_refl _) _) _) _⟩
      · have d' : ¬ (k : Int) < (E : Int) := by omega
        have LP : lineP o := ⟨by omega, by omega, by omega, by rw [HEE.out.1]; exact HEE.out.2, by rw [HEE.out.1, ← HN.out]; exact Q2.out, fun j h => HA.out j h (by have := HN.out; have := Q2.out; omega)⟩
        have HLP := hide' LP
        clear LP
        cases t1 : o.turns.toList.isEmpty with
        | true =>
          have T1 := hide' t1
          go_wp2
          go_ret
          exact ⟨Or.inl ⟨rfl, HLP.out, T1.out⟩, below_drewN ((Below.refl _ _).alloc (Nat.le_refl _) _) _⟩
        | false =>
          have T1 := hide' t1
          go_wp2
          go_ret
          exact ⟨Or.inr ⟨rfl, fun p => by have := p.2; rw [T1.out] at this; cases this⟩, below_drewN ((Below.refl _ _).alloc (Nat.le_refl _) _) _⟩
  · have q2' : ((n : Int) != (E : Int)) = true := by rw [bne_iff_ne]; omega
    go_enter Tryd.func16, Tryd.ntmps16
    go_wp2_with fail
    refine (CALL.out _ _ rfl).mono ?_
    rintro e w1 ⟨rfl, rfl⟩
    go_wp2
    go_ret
    refine ⟨Or.inr ⟨rfl, fun p => ?_⟩, (Below.refl _ _).alloc (Nat.le_refl _) _⟩
    have := p.1.2.2.2.2.1
    have := HN.out
    omega

/-- Fault, whole. -/
theorem Fault_any (o : Out) (a : Option Addr) (n c : Nat) (w : World) (hR : ArgR w o a n c) :
    Calls Tryd.prog 16 #[.agg #[.int .i64 o.kind, .int .i64 o.born, .int .i64 o.stay, .int .i64 o.states, .int .i64 o.radius, .slice a n c, .string o.turns]] w fun e w' => (e = .returned (.int .i64 0) ∧ Good o ∨ e = .returned (.int .i64 1) ∧ ¬ Good o) ∧ Below w.heap.size w w' := by
  have yes : Good o → Calls Tryd.prog 16 #[.agg #[.int .i64 o.kind, .int .i64 o.born, .int .i64 o.stay, .int .i64 o.states, .int .i64 o.radius, .slice a n c, .string o.turns]] w (fun e w' => e = .returned (.int .i64 0) ∧ Below w.heap.size w w') →
      Calls Tryd.prog 16 #[.agg #[.int .i64 o.kind, .int .i64 o.born, .int .i64 o.stay, .int .i64 o.states, .int .i64 o.radius, .slice a n c, .string o.turns]] w fun e w' => (e = .returned (.int .i64 0) ∧ Good o ∨ e = .returned (.int .i64 1) ∧ ¬ Good o) ∧ Below w.heap.size w w' := fun g h => h.mono fun e w' q => ⟨Or.inl ⟨q.1, g⟩, q.2⟩
  have no : ¬ Good o → Calls Tryd.prog 16 #[.agg #[.int .i64 o.kind, .int .i64 o.born, .int .i64 o.stay, .int .i64 o.states, .int .i64 o.radius, .slice a n c, .string o.turns]] w (fun e w' => e = .returned (.int .i64 1) ∧ Below w.heap.size w w') →
      Calls Tryd.prog 16 #[.agg #[.int .i64 o.kind, .int .i64 o.born, .int .i64 o.stay, .int .i64 o.states, .int .i64 o.radius, .slice a n c, .string o.turns]] w fun e w' => (e = .returned (.int .i64 0) ∧ Good o ∨ e = .returned (.int .i64 1) ∧ ¬ Good o) ∧ Below w.heap.size w w' := fun g h => h.mono fun e w' q => ⟨Or.inr ⟨q.1, g⟩, q.2⟩
  have hlen := hR.len
  by_cases k0 : o.kind < 1
  · exact no (fun g => by rcases g with g | g | g <;> omega) (Fault_0a o a n c w hR k0)
  by_cases k4 : 3 < o.kind
  · exact no (fun g => by rcases g with g | g | g <;> omega) (Fault_0b o a n c w hR k4)
  have nl : ∀ g : noLineB o = true, o.states = 0 ∧ o.radius = 0 ∧ n = 0 := fun g => by unfold noLineB at g; simp at g; rw [hlen]; simpa [and_assoc] using g
  have nf : ∀ g : noLifeB o = true, o.born = 0 ∧ o.stay = 0 := fun g => by unfold noLifeB at g; simpa using g
  have bb : ∀ x, bitsB x = true → 0 ≤ x ∧ x ≤ 511 := fun x g => by unfold bitsB at g; simpa using g
  have mkB : ∀ x : Int, 0 ≤ x → x ≤ 511 → bitsB x = true := fun x h1 h2 => by unfold bitsB; simp; omega
  have mkNl : o.states = 0 → o.radius = 0 → ¬ 0 < n → noLineB o = true := fun l1 l2 l3 => by
    have h : o.table.length = 0 := by omega
    unfold noLineB
    rw [l1, l2, h]
    rfl
  by_cases k1 : o.kind = 1
  · by_cases h1 : o.born < 0
    · exact no (fun g => by rcases g with g | g | g; have := bb _ g.2.1; omega; omega; omega) (Fault_1a o a n c w hR k1 h1)
    by_cases h2 : 511 < o.born
    · exact no (fun g => by rcases g with g | g | g; have := bb _ g.2.1; omega; omega; omega) (Fault_1b o a n c w hR k1 h1 h2)
    by_cases h3 : o.stay < 0
    · exact no (fun g => by rcases g with g | g | g; have := bb _ g.2.2.1; omega; omega; omega) (Fault_1c o a n c w hR k1 h1 h2 h3)
    by_cases h4 : 511 < o.stay
    · exact no (fun g => by rcases g with g | g | g; have := bb _ g.2.2.1; omega; omega; omega) (Fault_1d o a n c w hR k1 h1 h2 h3 h4)
    by_cases l1 : o.states = 0
    · by_cases l2 : o.radius = 0
      · by_cases l3 : 0 < n
        · exact no (fun g => by rcases g with g | g | g; have := nl g.2.2.2.1; omega; omega; omega) (Fault_1g o a n c w hR k1 h1 h2 h3 h4 (by simp [l1]) (by simp [l2]) (by omega))
        · cases t1 : o.turns.toList.isEmpty with
          | false => exact no (fun g => by rcases g with g | g | g; have := g.2.2.2.2; rw [t1] at this; cases this; omega; omega) (Fault_1h o a n c w hR k1 h1 h2 h3 h4 (by simp [l1]) (by simp [l2]) (by omega) t1)
          | true => exact yes (Or.inl ⟨k1, mkB _ (by omega) (by omega), mkB _ (by omega) (by omega), mkNl l1 l2 l3, t1⟩) (Fault_1i o a n c w hR k1 h1 h2 h3 h4 (by simp [l1]) (by simp [l2]) (by omega) t1)
      · exact no (fun g => by rcases g with g | g | g; have := nl g.2.2.2.1; omega; omega; omega) (Fault_1f o a n c w hR k1 h1 h2 h3 h4 (by simp [l1]) (by simpa using l2))
    · exact no (fun g => by rcases g with g | g | g; have := nl g.2.2.2.1; omega; omega; omega) (Fault_1e o a n c w hR k1 h1 h2 h3 h4 (by simpa using l1))
  by_cases h1 : o.born = 0
  case neg =>
    by_cases k2 : o.kind = 2
    · exact no (fun g => by rcases g with g | g | g; omega; have := nf g.2.2.1; omega; omega) (Fault_2a o a n c w hR k2 (by simpa using h1))
    · exact no (fun g => by rcases g with g | g | g; omega; omega; have := nf g.2.2.1; omega) (Fault_3a o a n c w hR (by omega) (by simpa using h1))
  by_cases h2 : o.stay = 0
  case neg =>
    by_cases k2 : o.kind = 2
    · exact no (fun g => by rcases g with g | g | g; omega; have := nf g.2.2.1; omega; omega) (Fault_2b o a n c w hR k2 (by simp [h1]) (by simpa using h2))
    · exact no (fun g => by rcases g with g | g | g; omega; omega; have := nf g.2.2.1; omega) (Fault_3b o a n c w hR (by omega) (by simp [h1]) (by simpa using h2))
  have hnf : noLifeB o = true := by unfold noLifeB; simp [h1, h2]
  by_cases k2 : o.kind = 2
  · by_cases s1 : o.states < 2
    · exact no (fun g => by rcases g with g | g | g; omega; have := g.2.1.1; omega; omega) (Fault_2c o a n c w hR k2 (by simp [h1]) (by simp [h2]) s1)
    by_cases s2 : 4 < o.states
    · exact no (fun g => by rcases g with g | g | g; omega; have := g.2.1.2.1; omega; omega) (Fault_2d o a n c w hR k2 (by simp [h1]) (by simp [h2]) s1 s2)
    by_cases s3 : o.radius < 0
    · exact no (fun g => by rcases g with g | g | g; omega; have := g.2.1.2.2.1; omega; omega) (Fault_2e o a n c w hR k2 (by simp [h1]) (by simp [h2]) s1 s2 s3)
    by_cases s4 : 10 < o.radius
    · exact no (fun g => by rcases g with g | g | g; omega; have := g.2.1.2.2.2.1; have := ent_far o.states.toNat o.radius.toNat (by omega) (by omega) (by omega); omega; omega) (Fault_2f o a n c w hR k2 (by simp [h1]) (by simp [h2]) s1 s2 s3 s4)
    refine (Fault_2g o a n c w hR k2 (by simp [h1]) (by simp [h2]) s1 s2 s3 s4).mono fun e w' q => ⟨?_, q.2⟩
    rcases q.1 with ⟨he, hl⟩ | ⟨he, hl⟩
    · exact Or.inl ⟨he, Or.inr (Or.inl ⟨k2, hl.1, hnf, hl.2⟩)⟩
    · exact Or.inr ⟨he, fun g => by rcases g with g | g | g; omega; exact hl ⟨g.2.1, g.2.2.2⟩; omega⟩
  have k3 : o.kind = 3 := by omega
  by_cases l1 : o.states = 0
  case neg => exact no (fun g => by rcases g with g | g | g; omega; omega; have := nl g.2.2.2; omega) (Fault_3c o a n c w hR k3 (by simp [h1]) (by simp [h2]) (by simpa using l1))
  by_cases l2 : o.radius = 0
  case neg => exact no (fun g => by rcases g with g | g | g; omega; omega; have := nl g.2.2.2; omega) (Fault_3d o a n c w hR k3 (by simp [h1]) (by simp [h2]) (by simp [l1]) (by simpa using l2))
  by_cases l3 : 0 < n
  · exact no (fun g => by rcases g with g | g | g; omega; omega; have := nl g.2.2.2; omega) (Fault_3e o a n c w hR k3 (by simp [h1]) (by simp [h2]) (by simp [l1]) (by simp [l2]) (by omega))
  have hnl : noLineB o = true := mkNl l1 l2 l3
  by_cases t1 : o.turns.size < 1
  · exact no (fun g => by rcases g with g | g | g; omega; omega; have := g.2.1.1; omega) (Fault_3f o a n c w hR k3 (by simp [h1]) (by simp [h2]) (by simp [l1]) (by simp [l2]) (by omega) (by omega))
  by_cases t2 : 26 < o.turns.size
  · exact no (fun g => by rcases g with g | g | g; omega; omega; have := g.2.1.2.1; omega) (Fault_3g o a n c w hR k3 (by simp [h1]) (by simp [h2]) (by simp [l1]) (by simp [l2]) (by omega) (by omega) (by omega))
  refine (Fault_3h o a n c w hR k3 (by simp [h1]) (by simp [h2]) (by simp [l1]) (by simp [l2]) (by omega) (by omega) (by omega)).mono fun e w' q => ⟨?_, q.2⟩
  rcases q.1 with ⟨he, hl⟩ | ⟨he, hl⟩
  · exact Or.inl ⟨he, Or.inr (Or.inr ⟨k3, hl, hnf, hnl⟩)⟩
  · exact Or.inr ⟨he, fun g => by rcases g with g | g | g; omega; omega; exact hl g.2.1⟩
end Go.Proofs.YtjngjnkecnnmeaaDoor

namespace Go.Proofs.YtjngjnkecnnmeaaDoor
open Go.RowKit
set_option linter.unusedVariables false

def RefParsed (x : Out ⊕ Nat) (w : World) (e : Ending) (w' : World) : Prop :=
  match x with
  | .inr a => e = .returned (.tuple #[.agg zeroCells, .int .i64 (a : Int), .bool false]) ∧ Below w.heap.size w w'
  | .inl o => ∃ v, e = .returned (.tuple #[o.val v, .int .i64 0, .bool true]) ∧ Tab w' v o.table ∧ Below w.heap.size w w'
theorem RefParsed.bad {a : Nat} {w w' : World} (h : Below w.heap.size w w') : RefParsed (.inr a) w (.returned (.tuple #[.agg zeroCells, .int .i64 (a : Int), .bool false])) w' := ⟨rfl, h⟩

set_option maxRecDepth 100000 in
set_option maxHeartbeats 1600000 in
theorem ref_empty (s : ByteArray) (w : World) (h0 : s.size = 0) :
    Calls Tryd.prog 13 #[.string s] w fun e w' => RefParsed (.inr 0) w e w' := by
  have hs : s = ⟨#[]⟩ := ByteArray.ext (Array.eq_empty_of_size_eq_zero h0)
  subst hs
  clear h0
  go_enter Tryd.func13, Tryd.ntmps13
  go_wp2
  refine bodyPost_ret (v := .tuple #[.agg zeroCells, .int .i64 0, .bool false]) (by simp [results, Tryd.results13, go_sem, zeroCells]) rfl ?_
  refine RefParsed.bad ?_
  repeat (first | refine Below.setCell ?_ (by simp <;> omega) _ | refine Below.alloc ?_ (by simp <;> omega) _ | exact Below.refl _ _)

theorem not_empty {s : ByteArray} (h : 0 < s.size) : s.toList.isEmpty = false := by
  rw [ByteArray.toList_eq]
  cases hl : s.data.toList with
  | nil =>
    have h2 : s.data.size = 0 := by rw [← Array.length_toList, hl]; rfl
    have h3 : s.size = s.data.size := rfl
    omega
  | cons _ _ => rfl

set_option maxRecDepth 100000 in
set_option maxHeartbeats 1600000 in
theorem ref_B1 (s : ByteArray) (w : World) (hs : s.size ≤ maxLen) (h0 : 0 < s.size) (hk : bt s 0 = 66) (K : Nat) (hK : (ris s 1).2 = K) (hbad : inR s K 48 56 = true) :
    Calls Tryd.prog 13 #[.string s] w fun e w' => RefParsed (.inr K) w e w' := by
  have hne := not_empty h0
  have hs' := hs
  unfold maxLen at hs'
  have e0 := bt_lt s 0 h0
  have k0 : ((s[0].toNat : Int) == 66) = true := by simp; omega
  clear e0
  have hb : inR s (ris s 1).2 48 56 = true := by rw [hK]; exact hbad
  have HK := hide' hK
  have HB := hide' hb
  clear hK hb
  go_enter Tryd.func13, Tryd.ntmps13
  go_wp2_with fail
  refine (rising_any s 1 1 _ rfl hs (by omega)).mono ?_
  rw [HB.out, HK.out]
  rintro e w1 ⟨rfl, rfl⟩
  go_wp2
  refine bodyPost_ret (v := .tuple #[.agg zeroCells, .int .i64 ((K : Nat) : Int), .bool false]) (by simp [results, Tryd.results13, go_sem, zeroCells]) rfl ?_
  refine RefParsed.bad ?_
  repeat (first | refine Below.setCell ?_ (by simp <;> omega) _ | refine Below.alloc ?_ (by simp <;> omega) _ | exact Below.refl _ _)

set_option maxRecDepth 100000 in
set_option maxHeartbeats 1600000 in
theorem ref_B2 (s : ByteArray) (w : World) (hs : s.size ≤ maxLen) (h0 : 0 < s.size) (hk : bt s 0 = 66) (K : Nat) (hK : (ris s 1).2 = K) (hbad : inR s K 48 56 = false) (hge : ¬ K < s.size) :
    Calls Tryd.prog 13 #[.string s] w fun e w' => RefParsed (.inr K) w e w' := by
  have hne := not_empty h0
  have hs' := hs
  unfold maxLen at hs'
  have e0 := bt_lt s 0 h0
  have k0 : ((s[0].toNat : Int) == 66) = true := by simp; omega
  clear e0
  have hb : inR s (ris s 1).2 48 56 = false := by rw [hK]; exact hbad
  have HK := hide' hK
  have HB := hide' hb
  clear hK hb
  have g1 : (s.size : Int) ≤ (K : Int) := by omega
  go_enter Tryd.func13, Tryd.ntmps13
  go_wp2_with fail
  refine (rising_any s 1 1 _ rfl hs (by omega)).mono ?_
  rw [HB.out, HK.out]
  rintro e w1 ⟨rfl, rfl⟩
  go_wp2
  refine bodyPost_ret (v := .tuple #[.agg zeroCells, .int .i64 ((K : Nat) : Int), .bool false]) (by simp [results, Tryd.results13, go_sem, zeroCells]) rfl ?_
  refine RefParsed.bad ?_
  repeat (first | refine Below.setCell ?_ (by simp <;> omega) _ | refine Below.alloc ?_ (by simp <;> omega) _ | exact Below.refl _ _)

set_option maxRecDepth 100000 in
set_option maxHeartbeats 1600000 in
theorem ref_B3 (s : ByteArray) (w : World) (hs : s.size ≤ maxLen) (h0 : 0 < s.size) (hk : bt s 0 = 66) (K : Nat) (hK : (ris s 1).2 = K) (hbad : inR s K 48 56 = false) (hlt : K < s.size) (hc : ¬ bt s K = 47) :
    Calls Tryd.prog 13 #[.string s] w fun e w' => RefParsed (.inr K) w e w' := by
  have hne := not_empty h0
  have hs' := hs
  unfold maxLen at hs'
  have e0 := bt_lt s 0 h0
  have k0 : ((s[0].toNat : Int) == 66) = true := by simp; omega
  clear e0
  have hb : inR s (ris s 1).2 48 56 = false := by rw [hK]; exact hbad
  have HK := hide' hK
  have HB := hide' hb
  clear hK hb
  have g1 : ¬ (s.size : Int) ≤ (K : Int) := by omega
  have e1 := bt_lt s K hlt
  have g2 : ((s[K].toNat : Int) != 47) = true := by rw [bne_iff_ne]; omega
  clear e1
  go_enter Tryd.func13, Tryd.ntmps13
  go_wp2_with fail
  refine (rising_any s 1 1 _ rfl hs (by omega)).mono ?_
  rw [HB.out, HK.out]
  rintro e w1 ⟨rfl, rfl⟩
  go_wp2
  refine bodyPost_ret (v := .tuple #[.agg zeroCells, .int .i64 ((K : Nat) : Int), .bool false]) (by simp [results, Tryd.results13, go_sem, zeroCells]) rfl ?_
  refine RefParsed.bad ?_
  repeat (first | refine Below.setCell ?_ (by simp <;> omega) _ | refine Below.alloc ?_ (by simp <;> omega) _ | exact Below.refl _ _)

set_option maxRecDepth 100000 in
set_option maxHeartbeats 1600000 in
theorem ref_B4 (s : ByteArray) (w : World) (hs : s.size ≤ maxLen) (h0 : 0 < s.size) (hk : bt s 0 = 66) (K : Nat) (hK : (ris s 1).2 = K) (hbad : inR s K 48 56 = false) (hlt : K < s.size) (hc : bt s K = 47) (hge : ¬ K + 1 < s.size) :
    Calls Tryd.prog 13 #[.string s] w fun e w' => RefParsed (.inr (K + 1)) w e w' := by
  have hne := not_empty h0
  have hs' := hs
  unfold maxLen at hs'
  have e0 := bt_lt s 0 h0
  have k0 : ((s[0].toNat : Int) == 66) = true := by simp; omega
  clear e0
  have hb : inR s (ris s 1).2 48 56 = false := by rw [hK]; exact hbad
  have HK := hide' hK
  have HB := hide' hb
  clear hK hb
  have g1 : ¬ (s.size : Int) ≤ (K : Int) := by omega
  have e1 := bt_lt s K hlt
  have g2 : ((s[K].toNat : Int) != 47) = false := by rw [bne_eq_false_iff_eq]; omega
  clear e1
  have g3 : (s.size : Int) ≤ (K : Int) + 1 := by omega
  go_enter Tryd.func13, Tryd.ntmps13
  go_wp2_with fail
  refine (rising_any s 1 1 _ rfl hs (by omega)).mono ?_
  rw [HB.out, HK.out]
  rintro e w1 ⟨rfl, rfl⟩
  go_wp2
  refine bodyPost_ret (v := .tuple #[.agg zeroCells, .int .i64 ((K + 1 : Nat) : Int), .bool false]) (by simp [results, Tryd.results13, go_sem, zeroCells]) rfl ?_
  refine RefParsed.bad ?_
  repeat (first | refine Below.setCell ?_ (by simp <;> omega) _ | refine Below.alloc ?_ (by simp <;> omega) _ | exact Below.refl _ _)

set_option maxRecDepth 100000 in
set_option maxHeartbeats 1600000 in
theorem ref_B5 (s : ByteArray) (w : World) (hs : s.size ≤ maxLen) (h0 : 0 < s.size) (hk : bt s 0 = 66) (K : Nat) (hK : (ris s 1).2 = K) (hbad : inR s K 48 56 = false) (hlt : K < s.size) (hc : bt s K = 47) (hlt2 : K + 1 < s.size) (hc2 : ¬ bt s (K + 1) = 83) :
    Calls Tryd.prog 13 #[.string s] w fun e w' => RefParsed (.inr (K + 1)) w e w' := by
  have hne := not_empty h0
  have hs' := hs
  unfold maxLen at hs'
  have e0 := bt_lt s 0 h0
  have k0 : ((s[0].toNat : Int) == 66) = true := by simp; omega
  clear e0
  have hb : inR s (ris s 1).2 48 56 = false := by rw [hK]; exact hbad
  have HK := hide' hK
  have HB := hide' hb
  clear hK hb
  have g1 : ¬ (s.size : Int) ≤ (K : Int) := by omega
  have e1 := bt_lt s K hlt
  have g2 : ((s[K].toNat : Int) != 47) = false := by rw [bne_eq_false_iff_eq]; omega
  clear e1
  have g3 : ¬ (s.size : Int) ≤ (K : Int) + 1 := by omega
  have e2 := bt_lt s (K + 1) hlt2
  have g4 : ((s[K + 1].toNat : Int) != 83) = true := by rw [bne_iff_ne]; omega
  clear e2
  go_enter Tryd.func13, Tryd.ntmps13
  go_wp2_with fail
  refine (rising_any s 1 1 _ rfl hs (by omega)).mono ?_
  rw [HB.out, HK.out]
  rintro e w1 ⟨rfl, rfl⟩
  go_wp2
  refine bodyPost_ret (v := .tuple #[.agg zeroCells, .int .i64 ((K + 1 : Nat) : Int), .bool false]) (by simp [results, Tryd.results13, go_sem, zeroCells]) rfl ?_
  refine RefParsed.bad ?_
  repeat (first | refine Below.setCell ?_ (by simp <;> omega) _ | refine Below.alloc ?_ (by simp <;> omega) _ | exact Below.refl _ _)

set_option maxRecDepth 100000 in
set_option maxHeartbeats 1600000 in
theorem ref_B6 (s : ByteArray) (w : World) (hs : s.size ≤ maxLen) (h0 : 0 < s.size) (hk : bt s 0 = 66) (K : Nat) (hK : (ris s 1).2 = K) (hbad : inR s K 48 56 = false) (hlt : K < s.size) (hc : bt s K = 47) (hlt2 : K + 1 < s.size) (hc2 : bt s (K + 1) = 83) (J : Nat) (hJ : (ris s (K + 2)).2 = J) (hbad2 : inR s J 48 56 = true) :
    Calls Tryd.prog 13 #[.string s] w fun e w' => RefParsed (.inr J) w e w' := by
  have hne := not_empty h0
  have hs' := hs
  unfold maxLen at hs'
  have e0 := bt_lt s 0 h0
  have k0 : ((s[0].toNat : Int) == 66) = true := by simp; omega
  clear e0
  have hb : inR s (ris s 1).2 48 56 = false := by rw [hK]; exact hbad
  have HK := hide' hK
  have HB := hide' hb
  clear hK hb
  have hb2 : inR s (ris s (K + 2)).2 48 56 = true := by rw [hJ]; exact hbad2
  have HJ := hide' hJ
  have HB2 := hide' hb2
  clear hJ hb2
  have g1 : ¬ (s.size : Int) ≤ (K : Int) := by omega
  have e1 := bt_lt s K hlt
  have g2 : ((s[K].toNat : Int) != 47) = false := by rw [bne_eq_false_iff_eq]; omega
  clear e1
  have g3 : ¬ (s.size : Int) ≤ (K : Int) + 1 := by omega
  have e2 := bt_lt s (K + 1) hlt2
  have g4 : ((s[K + 1].toNat : Int) != 83) = false := by rw [bne_eq_false_iff_eq]; omega
  clear e2
  go_enter Tryd.func13, Tryd.ntmps13
  go_wp2_with fail
  refine (rising_any s 1 1 _ rfl hs (by omega)).mono ?_
  rw [HB.out, HK.out]
  rintro e w1 ⟨rfl, rfl⟩
  go_wp2_with fail
  refine (rising_any s (K + 2) _ _ (by omega) hs (by omega)).mono ?_
  rw [HB2.out, HJ.out]
  rintro e w1 ⟨rfl, rfl⟩
  go_wp2
  refine bodyPost_ret (v := .tuple #[.agg zeroCells, .int .i64 ((J : Nat) : Int), .bool false]) (by simp [results, Tryd.results13, go_sem, zeroCells]) rfl ?_
  refine RefParsed.bad ?_
  repeat (first | refine Below.setCell ?_ (by simp <;> omega) _ | refine Below.alloc ?_ (by simp <;> omega) _ | exact Below.refl _ _)

set_option maxRecDepth 100000 in
set_option maxHeartbeats 1600000 in
theorem ref_B7 (s : ByteArray) (w : World) (hs : s.size ≤ maxLen) (h0 : 0 < s.size) (hk : bt s 0 = 66) (K : Nat) (hK : (ris s 1).2 = K) (hbad : inR s K 48 56 = false) (hlt : K < s.size) (hc : bt s K = 47) (hlt2 : K + 1 < s.size) (hc2 : bt s (K + 1) = 83) (J : Nat) (hJ : (ris s (K + 2)).2 = J) (hbad2 : inR s J 48 56 = false) (hlt3 : J < s.size) :
    Calls Tryd.prog 13 #[.string s] w fun e w' => RefParsed (.inr J) w e w' := by
  have hne := not_empty h0
  have hs' := hs
  unfold maxLen at hs'
  have e0 := bt_lt s 0 h0
  have k0 : ((s[0].toNat : Int) == 66) = true := by simp; omega
  clear e0
  have hb : inR s (ris s 1).2 48 56 = false := by rw [hK]; exact hbad
  have HK := hide' hK
  have HB := hide' hb
  clear hK hb
  have hb2 : inR s (ris s (K + 2)).2 48 56 = false := by rw [hJ]; exact hbad2
  have HJ := hide' hJ
  have HB2 := hide' hb2
  clear hJ hb2
  have g1 : ¬ (s.size : Int) ≤ (K : Int) := by omega
  have e1 := bt_lt s K hlt
  have g2 : ((s[K].toNat : Int) != 47) = false := by rw [bne_eq_false_iff_eq]; omega
  clear e1
  have g3 : ¬ (s.size : Int) ≤ (K : Int) + 1 := by omega
  have e2 := bt_lt s (K + 1) hlt2
  have g4 : ((s[K + 1].toNat : Int) != 83) = false := by rw [bne_eq_false_iff_eq]; omega
  clear e2
  have g5 : (J : Int) < (s.size : Int) := by omega
  go_enter Tryd.func13, Tryd.ntmps13
  go_wp2_with fail
  refine (rising_any s 1 1 _ rfl hs (by omega)).mono ?_
  rw [HB.out, HK.out]
  rintro e w1 ⟨rfl, rfl⟩
  go_wp2_with fail
  refine (rising_any s (K + 2) _ _ (by omega) hs (by omega)).mono ?_
  rw [HB2.out, HJ.out]
  rintro e w1 ⟨rfl, rfl⟩
  go_wp2
  refine bodyPost_ret (v := .tuple #[.agg zeroCells, .int .i64 ((J : Nat) : Int), .bool false]) (by simp [results, Tryd.results13, go_sem, zeroCells]) rfl ?_
  refine RefParsed.bad ?_
  repeat (first | refine Below.setCell ?_ (by simp <;> omega) _ | refine Below.alloc ?_ (by simp <;> omega) _ | exact Below.refl _ _)

set_option maxRecDepth 100000 in
set_option maxHeartbeats 1600000 in
theorem ref_B8 (s : ByteArray) (w : World) (hs : s.size ≤ maxLen) (h0 : 0 < s.size) (hk : bt s 0 = 66) (K : Nat) (hK : (ris s 1).2 = K) (hbad : inR s K 48 56 = false) (hlt : K < s.size) (hc : bt s K = 47) (hlt2 : K + 1 < s.size) (hc2 : bt s (K + 1) = 83) (J : Nat) (hJ : (ris s (K + 2)).2 = J) (hbad2 : inR s J 48 56 = false) (hge3 : ¬ J < s.size) :
    Calls Tryd.prog 13 #[.string s] w fun e w' => RefParsed (.inl ⟨1, (ris s 1).1, (ris s (K + 2)).1, 0, 0, [], ⟨#[]⟩⟩) w e w' := by
  have hne := not_empty h0
  have hs' := hs
  unfold maxLen at hs'
  have e0 := bt_lt s 0 h0
  have k0 : ((s[0].toNat : Int) == 66) = true := by simp; omega
  clear e0
  have hb : inR s (ris s 1).2 48 56 = false := by rw [hK]; exact hbad
  have HK := hide' hK
  have HB := hide' hb
  clear hK hb
  have hb2 : inR s (ris s (K + 2)).2 48 56 = false := by rw [hJ]; exact hbad2
  have HJ := hide' hJ
  have HB2 := hide' hb2
  clear hJ hb2
  have g1 : ¬ (s.size : Int) ≤ (K : Int) := by omega
  have e1 := bt_lt s K hlt
  have g2 : ((s[K].toNat : Int) != 47) = false := by rw [bne_eq_false_iff_eq]; omega
  clear e1
  have g3 : ¬ (s.size : Int) ≤ (K : Int) + 1 := by omega
  have e2 := bt_lt s (K + 1) hlt2
  have g4 : ((s[K + 1].toNat : Int) != 83) = false := by rw [bne_eq_false_iff_eq]; omega
  clear e2
  have g5 : ¬ (J : Int) < (s.size : Int) := by omega
  go_enter Tryd.func13, Tryd.ntmps13
  go_wp2_with fail
  refine (rising_any s 1 1 _ rfl hs (by omega)).mono ?_
  rw [HB.out, HK.out]
  rintro e w1 ⟨rfl, rfl⟩
  go_wp2_with fail
  refine (rising_any s (K + 2) _ _ (by omega) hs (by omega)).mono ?_
  rw [HB2.out, HJ.out]
  rintro e w1 ⟨rfl, rfl⟩
  go_wp2
  refine bodyPost_ret (v := .tuple #[Out.val ⟨1, (ris s 1).1, (ris s (K + 2)).1, 0, 0, [], ⟨#[]⟩⟩ (.slice none 0 0), .int .i64 0, .bool true]) (by simp [results, Tryd.results13, go_sem, Out.val]) rfl ?_
  refine ⟨_, rfl, Or.inl ⟨rfl, rfl⟩, ?_⟩
  repeat (first | refine Below.setCell ?_ (by simp <;> omega) _ | refine Below.alloc ?_ (by simp <;> omega) _ | exact Below.refl _ _)
end Go.Proofs.YtjngjnkecnnmeaaDoor

namespace Go.Proofs.YtjngjnkecnnmeaaDoor
open Go.RowKit
set_option linter.unusedVariables false

theorem life_reads (b : Nat) (s : ByteArray) (w : World) (h : At b s 1 w) (hs : s.size ≤ maxLen) (h1 : 1 ≤ s.size) :
    Calls Tryd.prog 140 #[.pointer (some ⟨b, 0, none⟩)] w fun e w' => Reads (lifeS s) b s w e w' := by
  cases hx : lifeS s with
  | inr a => exact (life_no b s w h hs h1 a hx).mono fun e w' q => q
  | inl x =>
    obtain ⟨o, p⟩ := x
    exact (life_any b s w h hs h1 o p hx).mono fun e w' ⟨he, ha, hr, hp, ht⟩ => ⟨_, he, Or.inl ⟨ht, rfl⟩, Fresh.nil _, ha, hr, hp⟩
theorem numbered_reads (b : Nat) (s : ByteArray) (w : World) (h : At b s 1 w) (hs : s.size ≤ maxLen) (h1 : 1 ≤ s.size) :
    Calls Tryd.prog 141 #[.pointer (some ⟨b, 0, none⟩)] w fun e w' => Reads (numberedS s) b s w e w' := by
  cases hx : numberedS s with
  | inr a => exact (numbered_no b s w h hs h1 a hx).mono fun e w' q => q
  | inl x =>
    obtain ⟨o, p⟩ := x
    exact (numbered_any b s w h hs h1 o p hx).mono fun e w' q => q

theorem set7_tab {w : World} {v : Value} {xs : List Int} (h : Tab w v xs) {g : Nat} {v0 v1 v2 v3 v4 v5 v6 : Value} {w0 : World} (hf : Fresh w0 v) (hg : g < w0.heap.size) :
    Tab (((((((w.setCell ⟨g, 0, none⟩ v0).setCell ⟨g, 1, none⟩ v1).setCell ⟨g, 2, none⟩ v2).setCell ⟨g, 3, none⟩ v3).setCell ⟨g, 4, none⟩ v4).setCell ⟨g, 5, none⟩ v5).setCell ⟨g, 6, none⟩ v6) v xs := by
  have hne : ∀ g' c, v = .slice (some ⟨g', 0, none⟩) xs.length c → g' ≠ g := fun g' c q => by have := hf g' _ c q; omega
  exact ((((((h.other _ hne).other _ hne).other _ hne).other _ hne).other _ hne).other _ hne).other _ hne
theorem Fresh.old {w w' : World} {v : Value} (h : Fresh w' v) (hs : w.heap.size ≤ w'.heap.size) : Fresh w v := fun g k c q => Nat.le_trans hs (h g k c q)

set_option maxHeartbeats 1600000 in
theorem ofKind_life (b : Nat) (s : ByteArray) (w : World) (h : At b s 0 w) (hs : s.size ≤ maxLen) (h0 : 0 < s.size) (hk : bt s 0 = 66) :
    Calls Tryd.prog 106 #[.pointer (some ⟨b, 0, none⟩)] w fun e w' => Reads (lifeS s) b s w e w' := by
  have hin : inR s 0 0 255 = true := inR_true.2 ⟨h0, by omega, by have := bt_le s 0; omega⟩
  have H0 := hide h
  have hlt := h.lt
  have e0 := bt_lt s 0 h0
  clear h
  have k0 : ((s[0].toNat : Int) == 66) = true := by simp; omega
  clear e0
  go_enter Tryd.func106, Tryd.ntmps106
  go_wp2_with fail
  refine (take_yes b s 0 0 255 _ (H0.out.alloc _) hs h0 hin).mono ?_
  rintro e w1 ⟨rfl, a1, r1⟩
  have A1 := hide a1
  have R1 := hide (show Rd b (w.alloc (.cells zeroCells 24)) w1 from r1)
  have hz : w.heap.size + 1 ≤ w1.heap.size := by have := r1.size; simpa using this
  clear a1 r1
  go_wp2_with fail
  refine (life_reads b s _ A1.out hs (by omega)).mono ?_
  cases hx : lifeS s with
  | inr a =>
    have HX := hide hx
    clear hx
    rintro e w2 ⟨rfl, a2, r2⟩
    go_wp2
    try rw [HX.out]
    exact ⟨rfl, Reads.bad a2 (R1.out.trans r2).un⟩
  | inl x =>
    obtain ⟨o, p⟩ := x
    have HX := hide hx
    clear hx
    rintro e w2 ⟨v, rfl, t2, f2, a2, r2, l2⟩
    obtain ⟨sa, sn, sc, rfl⟩ := t2.slice
    have R2 := R1.out.trans r2
    obtain ⟨hc, hf⟩ := R2.made hlt
    have c0 := hc 0
    have c1 := hc 1
    have c2 := hc 2
    have c3 := hc 3
    have c4 := hc 4
    have c5 := hc 5
    have c6 := hc 6
    simp [zeroCells] at c0 c1 c2 c3 c4 c5 c6
    have T2 := hide t2
    have F2 := hide f2
    have A2 := hide a2
    have R3 := hide R2
    have L2 := hide l2
    clear hc R2 t2 a2 r2 l2 f2
    unfold Out.val
    go_wp2
    refine bodyPost_ret (v := o.val (.slice sa sn sc)) (by simp [results, Tryd.results106, go_sem, Out.val, c0, c1, c2, c3, c4, c5, c6]) rfl ?_
    try rw [HX.out]
    exact ⟨_, rfl, set7_tab T2.out F2.out (by omega), F2.out.old (by omega), set7_at A2.out (by omega), set7_rd R3.out.un (by omega), L2.out⟩

set_option maxHeartbeats 1600000 in
theorem ofKind_numbered (b : Nat) (s : ByteArray) (w : World) (h : At b s 0 w) (hs : s.size ≤ maxLen) (h0 : 0 < s.size) (hk : bt s 0 = 87) :
    Calls Tryd.prog 106 #[.pointer (some ⟨b, 0, none⟩)] w fun e w' => Reads (numberedS s) b s w e w' := by
  have hin : inR s 0 0 255 = true := inR_true.2 ⟨h0, by omega, by have := bt_le s 0; omega⟩
  have H0 := hide h
  have hlt := h.lt
  have e0 := bt_lt s 0 h0
  clear h
  have k0 : ((s[0].toNat : Int) == 66) = false := by simp; omega
  have k1 : ((s[0].toNat : Int) == 87) = true := by simp; omega
  clear e0
  go_enter Tryd.func106, Tryd.ntmps106
  go_wp2_with fail
  refine (take_yes b s 0 0 255 _ (H0.out.alloc _) hs h0 hin).mono ?_
  rintro e w1 ⟨rfl, a1, r1⟩
  have A1 := hide a1
  have R1 := hide (show Rd b (w.alloc (.cells zeroCells 24)) w1 from r1)
  have hz : w.heap.size + 1 ≤ w1.heap.size := by have := r1.size; simpa using this
  clear a1 r1
  go_wp2_with fail
  refine (numbered_reads b s _ A1.out hs (by omega)).mono ?_
  cases hx : numberedS s with
  | inr a =>
    have HX := hide hx
    clear hx
    rintro e w2 ⟨rfl, a2, r2⟩
    go_wp2
    try rw [HX.out]
    exact ⟨rfl, Reads.bad a2 (R1.out.trans r2).un⟩
  | inl x =>
    obtain ⟨o, p⟩ := x
    have HX := hide hx
    clear hx
    rintro e w2 ⟨v, rfl, t2, f2, a2, r2, l2⟩
    obtain ⟨sa, sn, sc, rfl⟩ := t2.slice
    have R2 := R1.out.trans r2
    obtain ⟨hc, hf⟩ := R2.made hlt
    have c0 := hc 0
    have c1 := hc 1
    have c2 := hc 2
    have c3 := hc 3
    have c4 := hc 4
    have c5 := hc 5
    have c6 := hc 6
    simp [zeroCells] at c0 c1 c2 c3 c4 c5 c6
    have T2 := hide t2
    have F2 := hide f2
    have A2 := hide a2
    have R3 := hide R2
    have L2 := hide l2
    clear hc R2 t2 a2 r2 l2 f2
    unfold Out.val
    go_wp2
    refine bodyPost_ret (v := o.val (.slice sa sn sc)) (by simp [results, Tryd.results106, go_sem, Out.val, c0, c1, c2, c3, c4, c5, c6]) rfl ?_
    try rw [HX.out]
    exact ⟨_, rfl, set7_tab T2.out F2.out (by omega), F2.out.old (by omega), set7_at A2.out (by omega), set7_rd R3.out.un (by omega), L2.out⟩

set_option maxHeartbeats 1600000 in
theorem ofKind_tabled (b : Nat) (s : ByteArray) (w : World) (h : At b s 0 w) (hs : s.size ≤ maxLen) (h0 : 0 < s.size) (hk : bt s 0 = 76) :
    Calls Tryd.prog 106 #[.pointer (some ⟨b, 0, none⟩)] w fun e w' => Reads (tabledS s) b s w e w' := by
  have hin : inR s 0 0 255 = true := inR_true.2 ⟨h0, by omega, by have := bt_le s 0; omega⟩
  have H0 := hide h
  have hlt := h.lt
  have e0 := bt_lt s 0 h0
  clear h
  have k0 : ((s[0].toNat : Int) == 66) = false := by simp; omega
  have k1 : ((s[0].toNat : Int) == 87) = false := by simp; omega
  have k2 : ((s[0].toNat : Int) == 76) = true := by simp; omega
  clear e0
  go_enter Tryd.func106, Tryd.ntmps106
  go_wp2_with fail
  refine (take_yes b s 0 0 255 _ (H0.out.alloc _) hs h0 hin).mono ?_
  rintro e w1 ⟨rfl, a1, r1⟩
  have A1 := hide a1
  have R1 := hide (show Rd b (w.alloc (.cells zeroCells 24)) w1 from r1)
  have hz : w.heap.size + 1 ≤ w1.heap.size := by have := r1.size; simpa using this
  clear a1 r1
  go_wp2_with fail
  refine (tabled_any b s _ A1.out hs (by omega)).mono ?_
  cases hx : tabledS s with
  | inr a =>
    have HX := hide hx
    clear hx
    rintro e w2 ⟨rfl, a2, r2⟩
    go_wp2
    try rw [HX.out]
    exact ⟨rfl, Reads.bad a2 (R1.out.trans r2).un⟩
  | inl x =>
    obtain ⟨o, p⟩ := x
    have HX := hide hx
    clear hx
    rintro e w2 ⟨v, rfl, t2, f2, a2, r2, l2⟩
    obtain ⟨sa, sn, sc, rfl⟩ := t2.slice
    have R2 := R1.out.trans r2
    obtain ⟨hc, hf⟩ := R2.made hlt
    have c0 := hc 0
    have c1 := hc 1
    have c2 := hc 2
    have c3 := hc 3
    have c4 := hc 4
    have c5 := hc 5
    have c6 := hc 6
    simp [zeroCells] at c0 c1 c2 c3 c4 c5 c6
    have T2 := hide t2
    have F2 := hide f2
    have A2 := hide a2
    have R3 := hide R2
    have L2 := hide l2
    clear hc R2 t2 a2 r2 l2 f2
    unfold Out.val
    go_wp2
    refine bodyPost_ret (v := o.val (.slice sa sn sc)) (by simp [results, Tryd.results106, go_sem, Out.val, c0, c1, c2, c3, c4, c5, c6]) rfl ?_
    try rw [HX.out]
    exact ⟨_, rfl, set7_tab T2.out F2.out (by omega), F2.out.old (by omega), set7_at A2.out (by omega), set7_rd R3.out.un (by omega), L2.out⟩

set_option maxHeartbeats 1600000 in
theorem ofKind_ant (b : Nat) (s : ByteArray) (w : World) (h : At b s 0 w) (hs : s.size ≤ maxLen) (h0 : 0 < s.size) (hk : bt s 0 = 84) :
    Calls Tryd.prog 106 #[.pointer (some ⟨b, 0, none⟩)] w fun e w' => Reads (antS s) b s w e w' := by
  have hin : inR s 0 0 255 = true := inR_true.2 ⟨h0, by omega, by have := bt_le s 0; omega⟩
  have H0 := hide h
  have hlt := h.lt
  have e0 := bt_lt s 0 h0
  clear h
  have k0 : ((s[0].toNat : Int) == 66) = false := by simp; omega
  have k1 : ((s[0].toNat : Int) == 87) = false := by simp; omega
  have k2 : ((s[0].toNat : Int) == 76) = false := by simp; omega
  have k3 : ((s[0].toNat : Int) == 84) = true := by simp; omega
  clear e0
  go_enter Tryd.func106, Tryd.ntmps106
  go_wp2_with fail
  refine (take_yes b s 0 0 255 _ (H0.out.alloc _) hs h0 hin).mono ?_
  rintro e w1 ⟨rfl, a1, r1⟩
  have A1 := hide a1
  have R1 := hide (show Rd b (w.alloc (.cells zeroCells 24)) w1 from r1)
  have hz : w.heap.size + 1 ≤ w1.heap.size := by have := r1.size; simpa using this
  clear a1 r1
  go_wp2_with fail
  refine (ant_any b s _ A1.out hs (by omega)).mono ?_
  cases hx : antS s with
  | inr a =>
    have HX := hide hx
    clear hx
    rintro e w2 ⟨rfl, a2, r2⟩
    go_wp2
    try rw [HX.out]
    exact ⟨rfl, Reads.bad a2 (R1.out.trans r2).un⟩
  | inl x =>
    obtain ⟨o, p⟩ := x
    have HX := hide hx
    clear hx
    rintro e w2 ⟨v, rfl, t2, f2, a2, r2, l2⟩
    obtain ⟨sa, sn, sc, rfl⟩ := t2.slice
    have R2 := R1.out.trans r2
    obtain ⟨hc, hf⟩ := R2.made hlt
    have c0 := hc 0
    have c1 := hc 1
    have c2 := hc 2
    have c3 := hc 3
    have c4 := hc 4
    have c5 := hc 5
    have c6 := hc 6
    simp [zeroCells] at c0 c1 c2 c3 c4 c5 c6
    have T2 := hide t2
    have F2 := hide f2
    have A2 := hide a2
    have R3 := hide R2
    have L2 := hide l2
    clear hc R2 t2 a2 r2 l2 f2
    unfold Out.val
    go_wp2
    refine bodyPost_ret (v := o.val (.slice sa sn sc)) (by simp [results, Tryd.results106, go_sem, Out.val, c0, c1, c2, c3, c4, c5, c6]) rfl ?_
    try rw [HX.out]
    exact ⟨_, rfl, set7_tab T2.out F2.out (by omega), F2.out.old (by omega), set7_at A2.out (by omega), set7_rd R3.out.un (by omega), L2.out⟩

end Go.Proofs.YtjngjnkecnnmeaaDoor

namespace Go.Proofs.YtjngjnkecnnmeaaDoor
open Go.RowKit
set_option linter.unusedVariables false

set_option maxHeartbeats 800000 in
theorem ofKind_none (b : Nat) (s : ByteArray) (w : World) (h : At b s 0 w) (h0 : s.size = 0) :
    Calls Tryd.prog 106 #[.pointer (some ⟨b, 0, none⟩)] w fun e w' => Reads (.inr 0) b s w e w' := by
  have hin : inR s 0 0 255 = false := inR_false.2 (by omega)
  have H0 := hide h
  clear h h0
  go_enter Tryd.func106, Tryd.ntmps106
  go_wp2_with fail
  refine (take_no b s 0 0 255 _ (H0.out.alloc _) (by omega) hin).mono ?_
  rintro e w1 ⟨rfl, a1, r1⟩
  go_wp2
  exact ⟨rfl, Reads.bad a1 r1.un⟩

set_option maxHeartbeats 800000 in
theorem ofKind_other (b : Nat) (s : ByteArray) (w : World) (h : At b s 0 w) (hs : s.size ≤ maxLen) (h0 : 0 < s.size) (n1 : ¬ bt s 0 = 66) (n2 : ¬ bt s 0 = 87) (n3 : ¬ bt s 0 = 76) (n4 : ¬ bt s 0 = 84) :
    Calls Tryd.prog 106 #[.pointer (some ⟨b, 0, none⟩)] w fun e w' => Reads (.inr 0) b s w e w' := by
  have hin : inR s 0 0 255 = true := inR_true.2 ⟨h0, by omega, by have := bt_le s 0; omega⟩
  have H0 := hide h
  have e0 := bt_lt s 0 h0
  clear h
  have k0 : ((s[0].toNat : Int) == 66) = false := by simp; omega
  have k1 : ((s[0].toNat : Int) == 87) = false := by simp; omega
  have k2 : ((s[0].toNat : Int) == 76) = false := by simp; omega
  have k3 : ((s[0].toNat : Int) == 84) = false := by simp; omega
  clear e0
  go_enter Tryd.func106, Tryd.ntmps106
  go_wp2_with fail
  refine (take_yes b s 0 0 255 _ (H0.out.alloc _) hs h0 hin).mono ?_
  rintro e w1 ⟨rfl, a1, r1⟩
  have A1 := hide a1
  clear a1
  go_wp2_with fail
  refine (fail_any b s _ 0 _ A1.out).mono ?_
  rintro e w2 ⟨rfl, a2, r2⟩
  go_wp2
  exact ⟨rfl, Reads.bad a2 (r1.trans r2).un⟩

theorem ofKind_any (b : Nat) (s : ByteArray) (w : World) (h : At b s 0 w) (hs : s.size ≤ maxLen) :
    Calls Tryd.prog 106 #[.pointer (some ⟨b, 0, none⟩)] w fun e w' => Reads (kindS s) b s w e w' := by
  unfold kindS
  by_cases h0 : s.size = 0
  · rw [if_pos h0]; exact ofKind_none b s w h h0
  rw [if_neg h0]
  by_cases h1 : bt s 0 = 66
  · rw [if_pos h1]; exact ofKind_life b s w h hs (by omega) h1
  rw [if_neg h1]
  by_cases h2 : bt s 0 = 87
  · rw [if_pos h2]; exact ofKind_numbered b s w h hs (by omega) h2
  rw [if_neg h2]
  by_cases h3 : bt s 0 = 76
  · rw [if_pos h3]; exact ofKind_tabled b s w h hs (by omega) h3
  rw [if_neg h3]
  by_cases h4 : bt s 0 = 84
  · rw [if_pos h4]; exact ofKind_ant b s w h hs (by omega) h4
  rw [if_neg h4]
  exact ofKind_other b s w h hs (by omega) h1 h2 h3 h4

/-- What reading a whole text comes to. -/
def Ruled (x : Out ⊕ Nat) (b : Nat) (s : ByteArray) (w : World) (e : Ending) (w' : World) : Prop :=
  match x with
  | .inr a => e = .panicked oops ∧ At b s a w' ∧ Rd b w w'
  | .inl o => ∃ v, e = .returned (o.val v) ∧ Tab w' v o.table ∧ Fresh w v ∧ At b s s.size w' ∧ Rd b w w'
theorem Ruled.bad {b : Nat} {s : ByteArray} {w w' : World} {a : Nat} (ha : At b s a w') (hr : Rd b w w') : Ruled (.inr a) b s w (.panicked oops) w' := ⟨rfl, ha, hr⟩

theorem Tab.alloc {w : World} {v : Value} {xs : List Int} (h : Tab w v xs) (o : Obj) : Tab (w.alloc o) v xs := by
  rcases h with h | ⟨g, cap, hv, hg, hc⟩
  · exact Or.inl h
  · have e : (w.alloc o).heap[g]? = w.heap[g]? := Below.heap_alloc _ _ _ hg
    exact Or.inr ⟨g, cap, hv, by rw [World.size_alloc]; omega, fun k hk => (World.cell?_of_block (w := w) (a := ⟨g, k, none⟩) e).trans (hc k hk)⟩
theorem Tab.drewN {w : World} {v : Value} {xs : List Int} (h : Tab w v xs) (n : Nat) : Tab (w.drewN n) v xs := h

set_option maxHeartbeats 1600000 in
theorem rule_any (b : Nat) (s : ByteArray) (w : World) (h : At b s 0 w) (hs : s.size ≤ maxLen) :
    Calls Tryd.prog 57 #[.pointer (some ⟨b, 0, none⟩)] w fun e w' => Ruled (parseS s) b s w e w' := by
  have H0 := hide h
  have hlt := h.lt
  clear h
  go_enter Tryd.func57, Tryd.ntmps57
  go_wp2_with fail
  refine (ofKind_any b s _ (H0.out.alloc _) hs).mono ?_
  cases hx : kindS s with
  | inr a =>
    have X := hide (show parseS s = .inr a by unfold parseS; rw [hx])
    clear hx
    rintro e w1 ⟨rfl, a1, r1⟩
    go_wp2
    rw [X.out]
    exact ⟨rfl, Ruled.bad a1 r1.un⟩
  | inl x =>
    obtain ⟨o, p⟩ := x
    have HX := hide hx
    clear hx
    rintro e w1 ⟨v, rfl, t1, f1, a1, r1, l1⟩
    obtain ⟨sa, sn, sc, rfl⟩ := t1.slice
    have hz : w.heap.size + 1 ≤ w1.heap.size := by have := r1.size; simpa using this
    have T1 := hide t1
    have F1 := hide f1
    have A1 := hide a1
    have R1 := hide (show Rd b (w.alloc (.cells zeroCells 24)) w1 from r1)
    have L1 := hide l1
    clear t1 a1 r1 l1 f1
    unfold Out.val
    by_cases hp : p = s.size
    · have X := hide (show parseS s = .inl o by unfold parseS; rw [HX.out]; simp [hp])
      have P := hide hp
      clear hp
      go_wp2_with fail
      refine (ended_yes b s p _ (A1.out.alloc _) P.out).mono ?_
      rintro e w2 ⟨rfl, n, rfl⟩
      have A2 := (A1.out.alloc (.cells #[.int .i64 o.kind, .int .i64 o.born, .int .i64 o.stay, .int .i64 o.states, .int .i64 o.radius, .slice sa sn sc, .string o.turns] 24)).drewN n
      have R2 := (R1.out.alloc (.cells #[.int .i64 o.kind, .int .i64 o.born, .int .i64 o.stay, .int .i64 o.states, .int .i64 o.radius, .slice sa sn sc, .string o.turns] 24)).drewN n
      obtain ⟨hc, hf⟩ := R2.made hlt
      have c0 := hc 0
      have c1 := hc 1
      have c2 := hc 2
      have c3 := hc 3
      have c4 := hc 4
      have c5 := hc 5
      have c6 := hc 6
      simp [zeroCells] at c0 c1 c2 c3 c4 c5 c6
      have A3 := hide A2
      have R3 := hide R2
      clear hc R2 A2
      go_wp2
      refine bodyPost_ret (v := o.val (.slice sa sn sc)) (by simp [results, Tryd.results57, go_sem, Out.val, c0, c1, c2, c3, c4, c5, c6]) rfl ?_
      rw [X.out]
      have A4 := A3.out
      rw [P.out] at A4
      exact ⟨_, rfl, set7_tab ((T1.out.alloc _).drewN n) F1.out (by simp), F1.out.old (by simp), set7_at A4 (by omega), set7_rd R3.out.un (by omega)⟩
    · have X := hide (show parseS s = .inr p by unfold parseS; rw [HX.out]; simp [hp])
      have l2 := L1.out
      have P := hide (show p < s.size by omega)
      clear hp
      have A2 := A1.out.alloc (.cells #[.int .i64 o.kind, .int .i64 o.born, .int .i64 o.stay, .int .i64 o.states, .int .i64 o.radius, .slice sa sn sc, .string o.turns] 24)
      obtain ⟨g0, g1, g2, g3⟩ := A2
      clear l2
      go_wp2_with fail
      refine (ended_no b s p _ (A1.out.alloc _) P.out).mono ?_
      rintro e w2 ⟨rfl, n, rfl⟩
      go_wp2_with fail
      refine (fail_any b s p p _ ((A1.out.alloc _).drewN n)).mono ?_
      rintro e w3 ⟨rfl, a3, r3⟩
      go_wp2
      rw [X.out]
      exact ⟨rfl, Ruled.bad a3 (((R1.out.alloc _).drewN n).trans r3).un⟩
end Go.Proofs.YtjngjnkecnnmeaaDoor

