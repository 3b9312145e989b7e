/-
  The document's answer on texts of rules: power; lists and rules compared.
-/
import Derived.Test.YtpbcgojfpmpgpaaDoorRef1
import Derived.Test.YtpbcgojfpmpgpaaDoorFill
namespace Go.Proofs.YtpbcgojfpmpgpaaDoor
open Go.RowKit
set_option linter.unusedVariables false

/-- a to the n, or 5000 above 4096. -/
def powS (a n : Nat) : Nat := if a ^ n ≤ 4096 then a ^ n else 5000

theorem pow_grows {a k n : Nat} (ha : 1 ≤ a) (hk : k ≤ n) (h : 4096 < a ^ k) : powS a n = 5000 := by
  have : a ^ k ≤ a ^ n := Nat.pow_le_pow_right ha hk
  unfold powS
  rw [if_neg (by omega)]

set_option maxHeartbeats 800000 in
theorem power_2 (n : Nat) (w : World) (hn : n ≤ 1000000) :
    Calls Tryd.prog 43 #[.int .i64 2, .int .i64 (n : Int)] w fun e w' => e = .returned (.int .i64 ((powS 2 n : Nat) : Int)) ∧ w' = w := by
  go_enter Tryd.func43, Tryd.ntmps43
  go_wp2
  go_loop [5, 6] (fun pv iv => ∃ k p : Nat, iv = .int .i64 (k : Int) ∧ pv = .int .i64 (p : Int) ∧ k ≤ n ∧ p ≤ 4096 ∧ p = 2 ^ k) (fun _ iv => n - (intOf iv).toNat)
  case atStart => exact ⟨0, 1, rfl, rfl, by omega, by omega, rfl⟩
  case round =>
    obtain ⟨k, p, rfl, rfl, hk, hp, hpk⟩ := hrel
    have HP := hide' hpk
    have HQ := hide' (show p * 2 = 2 ^ (k + 1) by rw [Nat.pow_succ, ← hpk])
    clear hpk
    by_cases hkn : (k : Int) < (n : Int)
    · by_cases hc : (p : Int) * 2 ≤ 4096
      · have hc' : ¬ 4096 < (p : Int) * 2 := by omega
        go_wp2
        exact ⟨⟨k + 1, p * 2, by go_num, by go_num, by omega, by omega, HQ.out⟩, by simp [intOf]; omega⟩
      · have hc' : 4096 < (p : Int) * 2 := by omega
        have X := hide' (pow_grows (a := 2) (k := k + 1) (n := n) (by omega) (by omega) (by rw [← HQ.out]; omega))
        go_wp2
        go_ret
        rw [X.out]
        exact ⟨rfl, rfl⟩
    · have hkk : k = n := by omega
      have X := hide' (show powS 2 n = p by
        have h1 := HP.out
        rw [hkk] at h1
        unfold powS
        rw [← h1, if_pos hp])
      clear hkk
      go_wp2
      go_ret
      rw [X.out]
      exact ⟨rfl, rfl⟩

set_option maxHeartbeats 800000 in
theorem power_3 (n : Nat) (w : World) (hn : n ≤ 1000000) :
    Calls Tryd.prog 43 #[.int .i64 3, .int .i64 (n : Int)] w fun e w' => e = .returned (.int .i64 ((powS 3 n : Nat) : Int)) ∧ w' = w := by
  go_enter Tryd.func43, Tryd.ntmps43
  go_wp2
  go_loop [5, 6] (fun pv iv => ∃ k p : Nat, iv = .int .i64 (k : Int) ∧ pv = .int .i64 (p : Int) ∧ k ≤ n ∧ p ≤ 4096 ∧ p = 3 ^ k) (fun _ iv => n - (intOf iv).toNat)
  case atStart => exact ⟨0, 1, rfl, rfl, by omega, by omega, rfl⟩
  case round =>
    obtain ⟨k, p, rfl, rfl, hk, hp, hpk⟩ := hrel
    have HP := hide' hpk
    have HQ := hide' (show p * 3 = 3 ^ (k + 1) by rw [Nat.pow_succ, ← hpk])
    clear hpk
    by_cases hkn : (k : Int) < (n : Int)
    · by_cases hc : (p : Int) * 3 ≤ 4096
      · have hc' : ¬ 4096 < (p : Int) * 3 := by omega
        go_wp2
        exact ⟨⟨k + 1, p * 3, by go_num, by go_num, by omega, by omega, HQ.out⟩, by simp [intOf]; omega⟩
      · have hc' : 4096 < (p : Int) * 3 := by omega
        have X := hide' (pow_grows (a := 3) (k := k + 1) (n := n) (by omega) (by omega) (by rw [← HQ.out]; omega))
        go_wp2
        go_ret
        rw [X.out]
        exact ⟨rfl, rfl⟩
    · have hkk : k = n := by omega
      have X := hide' (show powS 3 n = p by
        have h1 := HP.out
        rw [hkk] at h1
        unfold powS
        rw [← h1, if_pos hp])
      clear hkk
      go_wp2
      go_ret
      rw [X.out]
      exact ⟨rfl, rfl⟩

set_option maxHeartbeats 800000 in
theorem power_4 (n : Nat) (w : World) (hn : n ≤ 1000000) :
    Calls Tryd.prog 43 #[.int .i64 4, .int .i64 (n : Int)] w fun e w' => e = .returned (.int .i64 ((powS 4 n : Nat) : Int)) ∧ w' = w := by
  go_enter Tryd.func43, Tryd.ntmps43
  go_wp2
  go_loop [5, 6] (fun pv iv => ∃ k p : Nat, iv = .int .i64 (k : Int) ∧ pv = .int .i64 (p : Int) ∧ k ≤ n ∧ p ≤ 4096 ∧ p = 4 ^ k) (fun _ iv => n - (intOf iv).toNat)
  case atStart => exact ⟨0, 1, rfl, rfl, by omega, by omega, rfl⟩
  case round =>
    obtain ⟨k, p, rfl, rfl, hk, hp, hpk⟩ := hrel
    have HP := hide' hpk
    have HQ := hide' (show p * 4 = 4 ^ (k + 1) by rw [Nat.pow_succ, ← hpk])
    clear hpk
    by_cases hkn : (k : Int) < (n : Int)
    · by_cases hc : (p : Int) * 4 ≤ 4096
      · have hc' : ¬ 4096 < (p : Int) * 4 := by omega
        go_wp2
        exact ⟨⟨k + 1, p * 4, by go_num, by go_num, by omega, by omega, HQ.out⟩, by simp [intOf]; omega⟩
      · have hc' : 4096 < (p : Int) * 4 := by omega
        have X := hide' (pow_grows (a := 4) (k := k + 1) (n := n) (by omega) (by omega) (by rw [← HQ.out]; omega))
        go_wp2
        go_ret
        rw [X.out]
        exact ⟨rfl, rfl⟩
    · have hkk : k = n := by omega
      have X := hide' (show powS 4 n = p by
        have h1 := HP.out
        rw [hkk] at h1
        unfold powS
        rw [← h1, if_pos hp])
      clear hkk
      go_wp2
      go_ret
      rw [X.out]
      exact ⟨rfl, rfl⟩

theorem power_any (a n : Nat) (A N : Int) (w : World) (hA : A = a) (hN : N = n) (ha : 2 ≤ a) (ha' : a ≤ 4) (hn : n ≤ 1000000) :
    Calls Tryd.prog 43 #[.int .i64 A, .int .i64 N] w fun e w' => e = .returned (.int .i64 ((powS a n : Nat) : Int)) ∧ w' = w := by
  subst hA hN
  have h1 : a = 2 ∨ a = 3 ∨ a = 4 := by omega
  rcases h1 with rfl | rfl | rfl
  · exact power_2 n w hn
  · exact power_3 n w hn
  · exact power_4 n w hn

/-- Two lists that read alike are the same. -/
theorem Tab.alloc' {w : World} {v : Value} {xs : List Int} (h : Tab w v xs) (o : Obj) : Tab (w.alloc o) v xs := by
  rcases h with h | ⟨g, cap, hv, hg, hc⟩
  · exact Or.inl h
  · have e : (w.alloc o).heap[g]? = w.heap[g]? := Below.heap_alloc _ _ _ hg
    exact Or.inr ⟨g, cap, hv, by rw [World.size_alloc]; omega, fun k hk => (World.cell?_of_block (w := w) (a := ⟨g, k, none⟩) e).trans (hc k hk)⟩

theorem Ints_nil (w : World) : Calls Tryd.prog 20 #[.slice none 0 0, .slice none 0 0] w fun e w' => e = .returned (.bool true) ∧ ∃ n, w' = w.drewN n := by
  go_enter Tryd.func20, Tryd.ntmps20
  go_wp2
  go_loop [5] (fun iv => iv = .int .i64 0) (fun _ => 0)
  case atStart => rfl
  case round =>
    subst hrel
    go_wp2
    go_ret
    exact ⟨rfl, 0, rfl⟩

set_option maxHeartbeats 800000 in
theorem Ints_two (xs : List Int) (a b : Option Addr) (n ca cb : Nat) (w : World) (hn : n = xs.length) (hm : n ≤ maxLen)
    (ha : ∀ k (h : k < xs.length), ∃ g, a = some ⟨g, 0, none⟩ ∧ w.cell? ⟨g, k, none⟩ = some (.int .i64 xs[k])) (hb : ∀ k (h : k < xs.length), ∃ g, b = some ⟨g, 0, none⟩ ∧ w.cell? ⟨g, k, none⟩ = some (.int .i64 xs[k])) :
    Calls Tryd.prog 20 #[.slice a n ca, .slice b n cb] w fun e w' => e = .returned (.bool true) ∧ ∃ m, w' = w.drewN m := by
  unfold maxLen at hm
  have HA := hide' ha
  have HB := hide' hb
  have HN := hide' hn
  clear ha hb hn
  go_enter Tryd.func20, Tryd.ntmps20
  go_wp2
  go_loopw [5] (fun iv wr => ∃ k m : Nat, iv = .int .i64 (k : Int) ∧ k ≤ n ∧ wr = w.drewN m) (fun iv _ => n - (intOf iv).toNat)
  case atStart => exact ⟨0, 0, rfl, by omega, rfl⟩
  case round =>
    obtain ⟨k, m, rfl, hk, rfl⟩ := hrel
    by_cases hkn : (k : Int) < (n : Int)
    · have hlt : k < xs.length := by have := HN.out; omega
      obtain ⟨ga, rfl, c1⟩ := HA.out k hlt
      obtain ⟨gb, rfl, c2⟩ := HB.out k hlt
      go_wp2
      go_quiet (fail)
      go_wp2
      exact ⟨⟨k + 1, m + nq, by go_num, by omega, rfl⟩, by simp [intOf]; omega⟩
    · go_wp2
      go_ret
      exact ⟨rfl, m, rfl⟩

theorem Tab.parts {w : World} {v : Value} {xs : List Int} (h : Tab w v xs) :
    ∃ a c, v = .slice a xs.length c ∧ ∀ k (h : k < xs.length), ∃ g, a = some ⟨g, 0, none⟩ ∧ w.cell? ⟨g, k, none⟩ = some (.int .i64 xs[k]) := by
  rcases h with ⟨rfl, rfl⟩ | ⟨g, cap, rfl, hg, hc⟩
  · exact ⟨none, 0, rfl, fun k h => absurd h (by simp)⟩
  · exact ⟨_, cap, rfl, fun k h => ⟨g, rfl, hc k h⟩⟩

theorem Ints_same (xs : List Int) (va vb : Value) (w : World) (ha : Tab w va xs) (hb : Tab w vb xs) (hm : xs.length ≤ maxLen) :
    Calls Tryd.prog 20 #[va, vb] w fun e w' => e = .returned (.bool true) ∧ ∃ m, w' = w.drewN m := by
  obtain ⟨a, ca, rfl, pa⟩ := ha.parts
  obtain ⟨b, cb, rfl, pb⟩ := hb.parts
  exact Ints_two xs a b xs.length ca cb w rfl hm pa pb

set_option maxHeartbeats 800000 in
theorem Same_same (o : Out) (va vb : Value) (w : World) (ha : Tab w va o.table) (hb : Tab w vb o.table) (hm : o.table.length ≤ maxLen) :
    Calls Tryd.prog 10 #[o.val va, o.val vb] w fun e w' => e = .returned (.bool true) ∧ Below w.heap.size w w' := by
  have TA := hide' (show Tab ((w.alloc (.cells #[.int .i64 o.kind, .int .i64 o.born, .int .i64 o.stay, .int .i64 o.states, .int .i64 o.radius, va, .string o.turns] 24)).alloc (.cells #[.int .i64 o.kind, .int .i64 o.born, .int .i64 o.stay, .int .i64 o.states, .int .i64 o.radius, vb, .string o.turns] 24)) va o.table from (ha.alloc' _).alloc' _)
  have TB := hide' (show Tab ((w.alloc (.cells #[.int .i64 o.kind, .int .i64 o.born, .int .i64 o.stay, .int .i64 o.states, .int .i64 o.radius, va, .string o.turns] 24)).alloc (.cells #[.int .i64 o.kind, .int .i64 o.born, .int .i64 o.stay, .int .i64 o.states, .int .i64 o.radius, vb, .string o.turns] 24)) vb o.table from (hb.alloc' _).alloc' _)
  obtain ⟨a, ca, rfl, -⟩ := ha.parts
  obtain ⟨b, cb, rfl, -⟩ := hb.parts
  unfold Out.val
  go_enter Tryd.func10, Tryd.ntmps10
  go_wp2_with fail
  refine (Ints_same o.table _ _ _ TA.out TB.out hm).mono ?_
  rintro e w1 ⟨rfl, m, rfl⟩
  go_wp2
  go_ret
  exact ⟨rfl, below_drewN (((Below.refl _ _).alloc (Nat.le_refl _) _).alloc (by simp) _) m⟩
end Go.Proofs.YtpbcgojfpmpgpaaDoor
