/-
  rules.mirrorWindow.
-/
import Derived.Test.YtpbcgojfpmpgpaaDoorPr13
namespace Go.Proofs.YtpbcgojfpmpgpaaDoor
open Go.RowKit
set_option linter.unusedVariables false

theorem wrapmul (p q : Nat) (hp : p ≤ 100000) (hq : q ≤ 100000) : wrap64 (wrap64 (p : Int) + (q : Int)) = ((p + q : Nat) : Int) := by
  simp [wrap64]; omega
theorem wrapq (p : Nat) (hp : p ≤ 100000) : wrap64 (p : Int) = (p : Int) := by
  simp [wrap64]; omega

set_option maxHeartbeats 1600000 in
theorem mirrorWindow_any (m s c : Nat) (w : World) (hs2 : 2 ≤ s) (hs4 : s ≤ 4) (hc : c ≤ 4096) (hp : s ^ c ≤ 4096) (hm : m < s ^ c) :
    Calls Tryd.prog 89 #[.int .i64 (m : Int), .int .i64 (s : Int), .int .i64 (c : Int)] w fun e w' => e = .returned (.int .i64 (rv s c 0 m : Int)) ∧ w' = w := by
  have hs0 : ((s : Int) == 0) = false := by simp; omega
  have hs1 : (s : Int) ≠ 0 := by omega
  have hs2' : (2 : Int) ≤ (s : Int) := by omega
  have hs4' : (s : Int) ≤ 4 := by omega
  have HP := hide' hp
  have m4 : m ≤ 4096 := by omega
  have HM := hide' hm
  clear hp hm
  go_enter Tryd.func89, Tryd.ntmps89
  go_wp2
  go_loop [0, 7, 8] (fun xv tv kv => ∃ k t x : Nat, kv = .int .i64 (k : Int) ∧ tv = .int .i64 (t : Int) ∧ xv = .int .i64 (x : Int) ∧ k ≤ c ∧ t ≤ 4096 ∧ x ≤ 4096 ∧ Hid (rv s (c - k) t x = rv s c 0 m ∧ t < s ^ k)) (fun _ _ kv => c - (intOf kv).toNat)
  case atStart => exact ⟨0, 0, m, rfl, rfl, rfl, by omega, by omega, m4, hide' ⟨rfl, by simp⟩⟩
  case round =>
    obtain ⟨k, t, x, rfl, rfl, rfl, hk, ht, hx, HT⟩ := hrel
    by_cases d : (k : Int) < (c : Int)
    · have q1 : x % s < s := Nat.mod_lt _ (by omega)
      have q2 : x / s ≤ x := Nat.div_le_self _ _
      have q3 : (t + 1) * s ≤ s ^ (k + 1) := by rw [Nat.pow_succ]; exact Nat.mul_le_mul_right _ HT.out.2
      have q4 : s ^ (k + 1) ≤ s ^ c := Nat.pow_le_pow_right (by omega) (by omega)
      have q5 : t * s + x % s < s ^ (k + 1) := by rw [Nat.add_mul, Nat.one_mul] at q3; omega
      have Q5 := hide' q5
      have Q6 := hide' (show t * s + x % s ≤ 4096 by have := HP.out; omega)
      have Q2 := hide' q2
      have Q1 := hide' q1
      clear q1 q2 q3 q4 q5
      go_wp2
      rw [show ((t : Int) * (s : Int)) = ((t * s : Nat) : Int) by simp, show ((x : Int) % (s : Int)) = ((x % s : Nat) : Int) by simp, wrapmul _ _ (by have := Q6.out; omega) (by have := Q1.out; omega), show ((x : Int) / (s : Int)) = ((x / s : Nat) : Int) by simp, wrapq _ (by have := Q2.out; omega)]
      refine ⟨⟨k + 1, t * s + x % s, x / s, by go_num, rfl, rfl, by omega, Q6.out, by have := Q2.out; omega, hide' ⟨?_, Q5.out⟩⟩, by simp [intOf]; omega⟩
      rw [← HT.out.1, show c - k = (c - (k + 1)) + 1 by omega]
      rfl
    · go_wp2
      go_ret
      have h := HT.out.1
      rw [show c - k = 0 by omega] at h
      rw [← h]
      exact ⟨rfl, rfl⟩

theorem ent_small : ∀ n, n < 5 → ∀ m, m < 11 → entOf n m ≤ 4096 → 2 ≤ n → entOf n m = n ^ (2 * m + 1) := by decide +kernel
theorem ent_is (n m : Nat) (hn : 2 ≤ n) (hn' : n ≤ 4) (h : entOf n m ≤ 4096) : entOf n m = n ^ (2 * m + 1) ∧ m ≤ 10 := by
  by_cases hm : m ≤ 10
  · exact ⟨ent_small n (by omega) m (by omega) h hn, hm⟩
  · have := ent_far n m hn hn' (by omega)
    omega
end Go.Proofs.YtpbcgojfpmpgpaaDoor
