/-
  What the last text of this claim leans on, part 16: Hg2, Gk8.
-/
import Derived.Test.YtbkllhlapdmlfaaDoorQf14
import Derived.Test.YtbkllhlapdmlfaaDoorQf4
namespace Go.Proofs.YtbkllhlapdmlfaaDoor
open Go.RowKit
set_option linter.unusedVariables false
set_option maxRecDepth 100000 in
theorem refPower_any (d : Nat) (w : World) (hd : d ≤ 8) : Calls Tryd.prog 70 #[.int .i64 (d : Int)] w fun e w' => e = .returned (.int .i64 ((2 ^ d : Nat) : Int)) ∧ w' = w := by
  obtain ⟨P, hP⟩ : ∃ P, 2 ^ d = P := ⟨_, rfl⟩
  rw [hP]
  have HPD := hide' hP
  clear hP
  go_enter Tryd.func70, Tryd.ntmps70
  go_wp2
  go_loopw [3, 4] (fun nv iv wr => ∃ (i p : Nat), iv = .int .i64 (i : Int) ∧ nv = .int .i64 (p : Int) ∧ i ≤ d ∧ p ≤ 256 ∧ wr = w ∧ Hid (p = 2 ^ i)) (fun _ iv _ => d - (intOf iv).toNat)
  case atStart => exact ⟨0, 1, rfl, rfl, by omega, by omega, rfl, hide' rfl⟩
  case round =>
    obtain ⟨i, p, rfl, rfl, hi, hp, rfl, HP⟩ := hrel
    by_cases q : (i : Int) < (d : Int)
    · have p2 : p * 2 ≤ 256 := by
        have h1 : 2 ^ (i + 1) ≤ 2 ^ 8 := Nat.pow_le_pow_right (by omega) (by omega)
        rw [HP.out, ← Nat.pow_succ]; exact h1
      have HP2 := hide' (show p * 2 = 2 ^ (i + 1) by rw [HP.out, Nat.pow_succ])
      clear HP
      go_wp2
      exact ⟨⟨i + 1, p * 2, by go_num, by go_num, by omega, p2, by first | rfl | trivial | simp, HP2⟩, by simp [intOf]; omega⟩
    · have e : i = d := by omega
      have F := hide' (show P = p by rw [HP.out, e, HPD.out])
      clear HP e
      go_wp2
      go_ret
      rw [F.out]
      exact ⟨rfl, rfl⟩
theorem ones6_half {m : Nat} (h : m < 64) : ones6 m = m % 2 + ones6 (m / 2) := by unfold ones6; omega
set_option maxRecDepth 100000 in
theorem refOnes6 (n : Nat) (w : World) (hn : n < 64) : Calls Tryd.prog 75 #[.int .i64 (n : Int)] w fun e w' => e = .returned (.int .i64 (ones6 n : Int)) ∧ w' = w := by
  go_enter Tryd.func75, Tryd.ntmps75
  go_wp2
  go_loopw [0, 3] (fun nv kv wr => ∃ (m s : Nat), nv = .int .i64 (m : Int) ∧ kv = .int .i64 (s : Int) ∧ m < 64 ∧ wr = w ∧ Hid (ones6 n = s + ones6 m)) (fun nv _ _ => (intOf nv).toNat)
  case atStart => exact ⟨n, 0, rfl, rfl, hn, rfl, hide' (by omega)⟩
  case round =>
    obtain ⟨m, s, rfl, rfl, hm, rfl, HO⟩ := hrel
    have s4 : s ≤ 6 := by have := HO.out; have := ones6_le n; omega
    by_cases m0 : 0 < m
    · have m0i : (0 : Int) < (m : Int) := by omega
      obtain ⟨r, hr⟩ : ∃ r, m % 2 = r := ⟨_, rfl⟩
      obtain ⟨h, hh⟩ : ∃ h, m / 2 = h := ⟨_, rfl⟩
      have f1 : (m : Int) % 2 = (r : Int) := by omega
      have f2 : (m : Int) / 2 = (h : Int) := by omega
      have f3 : wrap64 (h : Int) = (h : Int) := by simp [wrap64]; omega
      have r1 : r ≤ 1 := by omega
      have hm2 : h < m := by omega
      have HO2 := hide' (show ones6 n = s + r + ones6 h by rw [HO.out, ones6_half hm, hr, hh]; omega)
      clear hr hh HO
      go_wp2
      exact ⟨⟨h, s + r, by first | rfl | rw [f3], by go_num, by omega, by first | rfl | simp, HO2⟩, by first | (simp [intOf]; done) | (simp [intOf]; omega)⟩
    · have e : m = 0 := by omega
      subst e
      have HO2 := hide' (show ones6 n = s by rw [HO.out]; rfl)
      clear HO
      go_wp2
      go_ret
      rw [HO2.out]
      exact ⟨rfl, rfl⟩
theorem met4_5 : aftG 4 0 5 = 10 ∧ aftG 4 0 10 = 5 := by decide +kernel
theorem met4_else : ∀ c : Fin 16, c.val ≠ 5 → c.val ≠ 10 → aftG 4 0 c.val = c.val := by decide +kernel
set_option maxRecDepth 100000 in
set_option maxHeartbeats 6400000 in
theorem refMet_4 (c : Nat) (z : Int) (w : World) (hc : c < 16) : Calls Tryd.prog 68 #[.int .i64 4, .int .i64 (c : Int), .int .i64 z] w fun e w' => e = .returned (.int .i64 (aftG 4 0 c : Int)) ∧ w' = w := by
  by_cases h5 : c = 5
  · subst h5
    rw [met4_5.1]
    go_enter Tryd.func68, Tryd.ntmps68
    go_wp2
    go_ret
    exact ⟨rfl, rfl⟩
  · by_cases h10 : c = 10
    · subst h10
      rw [met4_5.2]
      go_enter Tryd.func68, Tryd.ntmps68
      go_wp2
      go_ret
      exact ⟨rfl, rfl⟩
    · rw [met4_else ⟨c, hc⟩ h5 h10]
      have n5 : ((c : Int) == 5) = false := by simp; omega
      have n10 : ((c : Int) == 10) = false := by simp; omega
      have m5 : ¬ (c : Int) = 5 := by omega
      have m10 : ¬ (c : Int) = 10 := by omega
      clear h5 h10
      go_enter Tryd.func68, Tryd.ntmps68
      go_wp2
      go_ret
      exact ⟨rfl, rfl⟩
theorem met6_t : aftG 6 0 21 = 42 ∧ aftG 6 1 21 = 42 ∧ aftG 6 0 42 = 21 ∧ aftG 6 1 42 = 21 := by decide +kernel
theorem met6_else : ∀ c : Fin 64, c.val ≠ 21 → c.val ≠ 42 → c.val ≠ 9 → c.val ≠ 18 → c.val ≠ 36 → aftG 6 0 c.val = c.val ∧ aftG 6 1 c.val = c.val := by decide +kernel
theorem met6_p : aftG 6 0 9 = 36 ∧ aftG 6 1 9 = 18 ∧ aftG 6 0 18 = 9 ∧ aftG 6 1 18 = 36 ∧ aftG 6 0 36 = 18 ∧ aftG 6 1 36 = 9 := by decide +kernel
end Go.Proofs.YtbkllhlapdmlfaaDoor

namespace Go.Proofs.YtbkllhlapdmlfaaDoor
open Go.RowKit
set_option linter.unusedVariables false
theorem list_told {xs : List Int} (h : ∀ x ∈ xs, 0 ≤ x) : xs = (List.range xs.length).map fun i => (((xs.getD i 0).toNat : Nat) : Int) := by
  refine List.ext_getElem (by simp) fun i h1 h2 => ?_
  have e : xs.getD i 0 = xs[i] := by simp [List.getD, h1]
  simp only [List.getElem_map, List.getElem_range]
  rw [e]
  have := h xs[i] (List.getElem_mem h1)
  omega
theorem getD_in {xs : List Int} {p : Int → Prop} (h : ∀ x ∈ xs, p x) (h0 : p 0) (i : Nat) : p (xs.getD i 0) := by
  by_cases q : i < xs.length
  · have e : xs.getD i 0 = xs[i] := by simp [List.getD, q]
    rw [e]; exact h _ (List.getElem_mem q)
  · have e : xs.getD i 0 = 0 := by simp [List.getD, q]
    rw [e]; exact h0
/-- What is known of a gas that is right. -/
theorem gasE_zero {K W H : Int} {xs : List Int} (h : gasE K W H xs = 0) : ∃ (Kn Wn Hn : Nat) (f : Nat → Nat), K = (Kn : Int) ∧ W = (Wn : Int) ∧ H = (Hn : Int) ∧ (Kn = 4 ∨ Kn = 6) ∧ (1 ≤ Wn ∧ Wn ≤ 100) ∧ (1 ≤ Hn ∧ Hn ≤ 100) ∧ (Kn = 6 → Hn % 2 = 0) ∧ xs.length = Wn * Hn ∧ xs = ((List.range xs.length).map fun i => (f i : Int)) ∧ ∀ i, f i < 2 ^ Kn := by
  unfold gasE at h
  by_cases h1 : K = 4 ∨ K = 6
  · rw [if_pos h1] at h
    by_cases h2 : (sideG W && sideG H) = true
    · rw [if_pos h2] at h
      simp only [Bool.and_eq_true] at h2
      obtain ⟨Wn, rfl, hW⟩ := sideG_nat h2.1
      obtain ⟨Hn, rfl, hH⟩ := sideG_nat h2.2
      by_cases h3 : K = 6 ∧ (Hn : Int) % 2 ≠ 0
      · rw [if_pos h3] at h; exact absurd h (by omega)
      · rw [if_neg h3] at h
        by_cases h4 : (xs.length : Int) = (Wn : Int) * (Hn : Int)
        · rw [if_pos h4] at h
          by_cases h5 : xs.all (cellG K) = true
          · have h6 : ∀ x ∈ xs, 0 ≤ x ∧ x < limG K := fun x hx => by
              have := List.all_eq_true.1 h5 x hx
              unfold cellG at this
              simpa using this
            refine ⟨K.toNat, Wn, Hn, fun i => (xs.getD i 0).toNat, by omega, rfl, rfl, by omega, hW, hH, by omega, by exact_mod_cast h4, list_told fun x hx => (h6 x hx).1, fun i => ?_⟩
            have h7 := getD_in (p := fun x => 0 ≤ x ∧ x < limG K) h6 (by unfold limG; split <;> omega) i
            rcases h1 with rfl | rfl
            · have e : limG 4 = 16 := rfl
              rw [e] at h7
              show (xs.getD i 0).toNat < 16
              omega
            · have e : limG 6 = 64 := rfl
              rw [e] at h7
              show (xs.getD i 0).toNat < 64
              omega
          · rw [if_neg h5] at h; exact absurd h (by omega)
        · rw [if_neg h4] at h; exact absurd h (by omega)
    · rw [if_neg h2] at h; exact absurd h (by omega)
  · rw [if_neg h1] at h; exact absurd h (by omega)
theorem runGE_gas {K W H : Int} {xs cs : List Int} {k : Int} (h : runGE K W H xs cs k = 0) : gasE K W H xs = 0 := by
  unfold runGE at h
  by_cases h1 : gasE K W H xs ≠ 0
  · rw [if_pos h1] at h; exact absurd h h1
  · omega
theorem runGE_zero {K W H : Int} {xs cs : List Int} {k : Int} (h : runGE K W H xs cs k = 0) : gasE K W H xs = 0 ∧ (∃ kn : Nat, k = (kn : Int) ∧ kn ≤ 100000) ∧ (K = 6 → 1 ≤ cs.length) ∧ ∃ f : Nat → Nat, cs = ((List.range cs.length).map fun i => (f i : Int)) ∧ ∀ i, f i ≤ 1 := by
  have g0 := runGE_gas h
  unfold runGE at h
  rw [if_neg (by omega)] at h
  by_cases h2 : k < 0 ∨ 100000 < k
  · rw [if_pos h2] at h; exact absurd h (by omega)
  · rw [if_neg h2] at h
    by_cases h3 : cs.all cellB = true
    · rw [if_pos h3] at h
      have h4 : ¬ (K = 6 ∧ cs.length = 0) := fun q => by rw [if_pos q] at h; exact absurd h (by omega)
      have h6 : ∀ x ∈ cs, 0 ≤ x ∧ x ≤ 1 := fun x hx => by
        have := List.all_eq_true.1 h3 x hx
        unfold cellB at this
        simp at this
        omega
      refine ⟨g0, ⟨k.toNat, by omega, by omega⟩, by omega, fun i => (cs.getD i 0).toNat, list_told fun x hx => (h6 x hx).1, fun i => ?_⟩
      have h7 := getD_in (p := fun x => 0 ≤ x ∧ x ≤ 1) h6 (by omega) i
      show (cs.getD i 0).toNat ≤ 1
      omega
    · rw [if_neg h3] at h; exact absurd h (by omega)
end Go.Proofs.YtbkllhlapdmlfaaDoor

