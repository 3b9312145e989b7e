/-
  What the last text of this claim leans on, part 10: Cm1.
-/
import Derived.Test.YtcfoeadfhkojeaaGreatDoorZm9
namespace Go.Proofs.YtcfoeadfhkojeaaGreatDoor
open Go.RowKit
set_option linter.unusedVariables false
set_option maxRecDepth 100000 in
theorem pr_cop {i j : Nat} (hi : i < 28) (hj : j < 28) (h : i ≠ j) : Nat.Coprime (prN i) (prN j) := by
  have : ∀ a b : Fin 28, a ≠ b → Nat.gcd (prN a.val) (prN b.val) = 1 := by decide +kernel
  exact this ⟨i, hi⟩ ⟨j, hj⟩ (fun e => h (Fin.mk.inj e))
theorem pr_two {i : Nat} (hi : i < 28) : 2 ≤ prN i := by
  have : ∀ a : Fin 28, 2 ≤ prN a.val := by decide
  exact this ⟨i, hi⟩
/-- Counters as powers of primes. -/
def valP (c : Nat → Int) : Nat := prN 0 ^ (c 0).toNat * prN 1 ^ (c 1).toNat * prN 2 ^ (c 2).toNat * prN 3 ^ (c 3).toNat
def numN (c : Nat → Int) (j : Nat) : Nat := valP c * prN j
theorem valP_pos (c : Nat → Int) : 0 < valP c := by
  unfold valP
  have h : ∀ i, i < 28 → 0 < prN i := fun i hi => by have := pr_two hi; omega
  exact Nat.mul_pos (Nat.mul_pos (Nat.mul_pos (Nat.pow_pos (h 0 (by omega))) (Nat.pow_pos (h 1 (by omega)))) (Nat.pow_pos (h 2 (by omega)))) (Nat.pow_pos (h 3 (by omega)))
theorem val_cop {i : Nat} (c : Nat → Int) (hi : i < 28) (h : 4 ≤ i ∨ (i < 4 ∧ c i = 0)) : Nat.Coprime (prN i) (valP c) := by
  have g : ∀ j, j < 4 → Nat.Coprime (prN i) (prN j ^ (c j).toNat) := fun j hj => by
    by_cases e : i = j
    · subst e
      rcases h with h | h
      · omega
      · rw [h.2]; simp
    · exact (pr_cop hi (by omega) e).pow_right _
  unfold valP
  exact ((((g 0 (by omega)).mul_right (g 1 (by omega))).mul_right (g 2 (by omega))).mul_right (g 3 (by omega)))
theorem num_cop {i j : Nat} (c : Nat → Int) (hi : i < 28) (hj : j < 28) (hij : i ≠ j) (h : 4 ≤ i ∨ (i < 4 ∧ c i = 0)) : Nat.Coprime (prN i) (numN c j) := (val_cop c hi h).mul_right (pr_cop hi hj hij)
/-- A prime that neither has divides no product of the two. -/
theorem no_fit {i n u l : Nat} (hi : i < 28) (h1 : Nat.Coprime (prN i) n) (h2 : Nat.Coprime (prN i) u) (hl : prN i ∣ l) : fitsF n u l = false := by
  unfold fitsF
  rw [beq_eq_false_iff_ne]
  intro e
  have hd : prN i ∣ n * u := Nat.dvd_trans hl (Nat.dvd_of_mod_eq_zero e)
  have h3 : Nat.gcd (prN i) (n * u) = 1 := h1.mul_right h2
  rw [Nat.gcd_eq_left hd] at h3
  have := pr_two hi
  omega
theorem fit_of {n u l : Nat} (h : l ∣ n * u) : fitsF n u l = true := by
  unfold fitsF; rw [beq_iff_eq]; exact Nat.mod_eq_zero_of_dvd h
theorem nat_up (a b : Nat) : (natF a b).1.toNat = a := rfl
theorem nat_low (a b : Nat) : (natF a b).2.toNat = b := rfl
/-- A line's numbers. -/
structure LnOk (xs : List InsT) : Prop where
  n12 : xs.length ≤ 12
  at_ : ∀ k, k < xs.length → ((lnM xs k).1 = 1 ∧ (lnM xs k).2.1.toNat < 4 ∧ (lnM xs k).2.2.1.toNat < xs.length) ∨ ((lnM xs k).1 = 2 ∧ (lnM xs k).2.1.toNat < 4 ∧ (lnM xs k).2.2.1.toNat < xs.length ∧ (lnM xs k).2.2.2.toNat < xs.length) ∨ (lnM xs k).1 = 3
theorem ln_ok {xs : List InsT} (h : codeE xs = 0) : LnOk xs := by
  obtain ⟨_, h2, hx⟩ := code_at h
  refine ⟨h2, fun k hk => ?_⟩
  have := ins_parts (hx k hk)
  rw [← ln_at hk] at this
  rcases this with h | h | h
  · left; refine ⟨h.1, ?_, ?_⟩ <;> omega
  · right; left; refine ⟨h.1, ?_, ?_, ?_⟩ <;> omega
  · right; right; exact h.1
theorem line_no {xs : List InsT} (hx : LnOk xs) {c : Nat → Int} {j k : Nat} (hk : k < xs.length) (hj : j < 28) (h : 4 + 2 * k ≠ j) : (lineF k (lnM xs k)).find? (fun p => fitsF (numN c j) p.1.toNat p.2.toNat) = none := by
  have n12 := hx.n12
  have hc := num_cop c (i := 4 + 2 * k) (by omega) hj h (Or.inl (by omega))
  rw [List.find?_eq_none]
  intro p hp
  rw [Bool.not_eq_true]
  unfold lineF at hp
  rcases hx.at_ k hk with ⟨o, ha, ht⟩ | ⟨o, ha, ht, he⟩ | o
  · rw [if_pos o] at hp
    simp only [List.mem_singleton] at hp
    subst hp
    rw [nat_up, nat_low]
    exact no_fit (i := 4 + 2 * k) (by omega) hc ((pr_cop (by omega) (by omega) (by omega)).mul_right (pr_cop (by omega) (by omega) (by omega))) (Nat.dvd_refl _)
  · rw [if_neg (by omega), if_pos o] at hp
    simp only [List.mem_cons, List.not_mem_nil, or_false] at hp
    rcases hp with rfl | rfl
    · rw [nat_up, nat_low]
      exact no_fit (i := 4 + 2 * k) (by omega) hc (pr_cop (by omega) (by omega) (by omega)) (Nat.dvd_mul_right _ _)
    · rw [nat_up, nat_low]
      exact no_fit (i := 4 + 2 * k) (by omega) hc (pr_cop (by omega) (by omega) (by omega)) (Nat.dvd_refl _)
  · rw [if_neg (by omega), if_neg (by omega)] at hp
    cases hp
theorem lines_no {xs : List InsT} (hx : LnOk xs) {c : Nat → Int} {j : Nat} (hj : j < 28) : ∀ k, k ≤ xs.length → (∀ i, i < k → 4 + 2 * i ≠ j) → (linesF xs k).find? (fun p => fitsF (numN c j) p.1.toNat p.2.toNat) = none
  | 0, _, _ => rfl
  | k + 1, hk, h => by
    rw [linesF, List.find?_append, lines_no hx hj k (by omega) (fun i hi => h i (by omega)), line_no hx (by omega) hj (h k (by omega))]
    rfl
theorem lines_yes {xs : List InsT} (hx : LnOk xs) {c : Nat → Int} {t : Nat} {p : FraT} (ht : t < xs.length) (hp : (lineF t (lnM xs t)).find? (fun p => fitsF (numN c (4 + 2 * t)) p.1.toNat p.2.toNat) = some p) : ∀ k, t < k → k ≤ xs.length → (linesF xs k).find? (fun p => fitsF (numN c (4 + 2 * t)) p.1.toNat p.2.toNat) = some p
  | 0, h, _ => by omega
  | k + 1, h, hk => by
    have n12 := hx.n12
    rw [linesF, List.find?_append]
    by_cases e : k = t
    · subst e
      rw [lines_no hx (by omega) k (by omega) (fun i hi => by omega), hp]; rfl
    · rw [lines_yes hx ht hp k (by omega) (by omega)]; rfl
theorem lines_halt {xs : List InsT} (hx : LnOk xs) {c : Nat → Int} {t : Nat} (ht : t < xs.length) (h3 : (lnM xs t).1 = 3) : ∀ k, k ≤ xs.length → (linesF xs k).find? (fun p => fitsF (numN c (4 + 2 * t)) p.1.toNat p.2.toNat) = none
  | 0, _ => rfl
  | k + 1, hk => by
    have n12 := hx.n12
    rw [linesF, List.find?_append, lines_halt hx ht h3 k (by omega)]
    by_cases e : k = t
    · subst e
      rw [lineF, if_neg (by omega), if_neg (by omega)]; rfl
    · rw [line_no hx (by omega) (by omega) (by omega)]; rfl
theorem ends_no {c : Nat → Int} {j : Nat} (hj : j < 28) : ∀ k, k ≤ 12 → (∀ i, i < k → 5 + 2 * i ≠ j) → (endsF k).find? (fun p => fitsF (numN c j) p.1.toNat p.2.toNat) = none
  | 0, _, _ => rfl
  | k + 1, hk, h => by
    rw [endsF, List.find?_append, ends_no hj k (by omega) (fun i hi => h i (by omega))]
    rw [List.find?_cons_of_neg]
    · rfl
    · rw [nat_up, nat_low, no_fit (i := 5 + 2 * k) (by omega) (num_cop c (by omega) hj (h k (by omega)) (Or.inl (by omega))) (pr_cop (by omega) (by omega) (by omega)) (Nat.dvd_refl _)]
      decide
theorem ends_yes {c : Nat → Int} {t : Nat} : ∀ k, t < k → k ≤ 12 → (endsF k).find? (fun p => fitsF (numN c (5 + 2 * t)) p.1.toNat p.2.toNat) = some (natF (prN (4 + 2 * t)) (prN (5 + 2 * t)))
  | 0, h, _ => by omega
  | k + 1, h, hk => by
    rw [endsF, List.find?_append]
    by_cases e : k = t
    · subst e
      rw [ends_no (by omega) k (by omega) (fun i hi => by omega), List.find?_cons_of_pos]
      · rfl
      · rw [nat_up, nat_low]
        refine fit_of ?_
        unfold numN
        exact Nat.dvd_trans (Nat.dvd_mul_left _ _) (Nat.dvd_mul_right _ _)
    · rw [ends_yes k (by omega) (by omega)]; rfl
/-- A line that is come to is gone on with. -/
theorem first_come {xs : List InsT} (hx : LnOk xs) {c : Nat → Int} {t : Nat} (ht : t < xs.length) : firstF (numN c (5 + 2 * t)) (fraL xs) = some (natF (prN (4 + 2 * t)) (prN (5 + 2 * t))) := by
  have n12 := hx.n12
  unfold firstF fraL
  rw [List.find?_append, lines_no hx (by omega) _ (Nat.le_refl _) (fun i hi => by omega), ends_yes _ ht n12]
  rfl
theorem next_come {c : Nat → Int} {t : Nat} (ht : t < 12) : nextF (numN c (5 + 2 * t)) (natF (prN (4 + 2 * t)) (prN (5 + 2 * t))) = numN c (4 + 2 * t) := by
  unfold nextF
  rw [nat_up, nat_low]
  unfold numN
  have := pr_two (i := 5 + 2 * t) (by omega)
  rw [Nat.mul_right_comm, Nat.mul_div_cancel _ (by omega)]
theorem first_halt {xs : List InsT} (hx : LnOk xs) {c : Nat → Int} {t : Nat} (ht : t < xs.length) (h3 : (lnM xs t).1 = 3) : firstF (numN c (4 + 2 * t)) (fraL xs) = none := by
  have n12 := hx.n12
  unfold firstF fraL
  rw [List.find?_append, lines_halt hx ht h3 _ (Nat.le_refl _), ends_no (by omega) _ n12 (fun i hi => by omega)]
  rfl
theorem pow_up (p : Nat) {x : Int} (h : 0 ≤ x) : p ^ (x + 1).toNat = p ^ x.toNat * p := by rw [show (x + 1).toNat = x.toNat + 1 by omega, Nat.pow_succ]
theorem val_up {c : Nat → Int} {a : Nat} (ha : a < 4) (h0 : 0 ≤ c a) : valP (updM c a (c a + 1)) = valP c * prN a := by
  unfold valP updM
  rcases (show a = 0 ∨ a = 1 ∨ a = 2 ∨ a = 3 by omega) with rfl | rfl | rfl | rfl <;> simp [pow_up _ h0] <;> ac_rfl
theorem val_down {c : Nat → Int} {a : Nat} (ha : a < 4) (h0 : 0 ≤ c a) (h1 : ¬ c a = 0) : valP (updM c a (c a - 1)) * prN a = valP c := by
  have h := val_up (c := updM c a (c a - 1)) ha (by simp [updM]; omega)
  rw [← h]
  congr 1
  funext j
  simp only [updM]
  split
  · rename_i e; subst e; simp
  · rfl
/-- A line, gone: two fractions. -/
theorem step_game {xs : List InsT} (hx : LnOk xs) {s : MaS} (ok : OkM xs s) (h3 : ¬ (lnM xs s.2).1 = 3) : ∃ p, firstF (numN s.1 (4 + 2 * s.2)) (fraL xs) = some p ∧ nextF (numN s.1 (4 + 2 * s.2)) p = numN (nextM xs s).1 (5 + 2 * (nextM xs s).2) := by
  have n12 := hx.n12
  have ht := ok.2
  obtain ⟨c, t⟩ := s
  simp only at *
  have q2 := pr_two (i := 4 + 2 * t) (by omega)
  have key : ∀ p, (lineF t (lnM xs t)).find? (fun p => fitsF (numN c (4 + 2 * t)) p.1.toNat p.2.toNat) = some p → firstF (numN c (4 + 2 * t)) (fraL xs) = some p := fun p hp => by
    unfold firstF fraL
    rw [List.find?_append, lines_yes hx ht hp _ ht (Nat.le_refl _)]; rfl
  rcases hx.at_ t ht with ⟨o, ha, hto⟩ | ⟨o, ha, hto, he⟩ | o
  · refine ⟨natF (prN (lnM xs t).2.1.toNat * prN (5 + 2 * (lnM xs t).2.2.1.toNat)) (prN (4 + 2 * t)), key _ ?_, ?_⟩
    · rw [lineF, if_pos o, List.find?_cons_of_pos]
      rw [nat_up, nat_low]
      exact fit_of (Nat.dvd_trans (Nat.dvd_mul_left _ _) (Nat.dvd_mul_right _ _))
    · unfold nextF nextM
      rw [nat_up, nat_low]
      simp only [o, if_true]
      unfold numN
      rw [val_up ha (ok.1 _ ha).1, Nat.mul_right_comm, Nat.mul_div_cancel _ (by omega)]
      ac_rfl
  · by_cases z : c (lnM xs t).2.1.toNat = 0
    · refine ⟨natF (prN (5 + 2 * (lnM xs t).2.2.2.toNat)) (prN (4 + 2 * t)), key _ ?_, ?_⟩
      · rw [lineF, if_neg (by omega), if_pos o, List.find?_cons_of_neg, List.find?_cons_of_pos]
        · rw [nat_up, nat_low]
          exact fit_of (Nat.dvd_trans (Nat.dvd_mul_left _ _) (Nat.dvd_mul_right _ _))
        · rw [nat_up, nat_low, no_fit (i := (lnM xs t).2.1.toNat) (by omega) (num_cop c (by omega) (by omega) (by omega) (Or.inr ⟨ha, z⟩)) (pr_cop (by omega) (by omega) (by omega)) (Nat.dvd_mul_left _ _)]
          decide
      · unfold nextF nextM
        rw [nat_up, nat_low]
        simp only [o, z, if_true]
        rw [if_neg (by decide)]
        unfold numN
        rw [Nat.mul_right_comm, Nat.mul_div_cancel _ (by omega)]
    · refine ⟨natF (prN (5 + 2 * (lnM xs t).2.2.1.toNat)) (prN (4 + 2 * t) * prN (lnM xs t).2.1.toNat), key _ ?_, ?_⟩
      · rw [lineF, if_neg (by omega), if_pos o, List.find?_cons_of_pos]
        rw [nat_up, nat_low]
        refine fit_of (Nat.dvd_trans ?_ (Nat.dvd_mul_right _ _))
        unfold numN
        rw [← val_down ha (ok.1 _ ha).1 z, Nat.mul_assoc, Nat.mul_comm (prN (4 + 2 * t))]
        exact Nat.dvd_mul_left _ _
      · unfold nextF nextM
        rw [nat_up, nat_low]
        simp only [o, z, if_false]
        rw [if_neg (by decide)]
        unfold numN
        have p2 := pr_two (i := (lnM xs t).2.1.toNat) (by omega)
        have hv := val_down ha (ok.1 _ ha).1 z
        generalize valP (updM c (lnM xs t).2.1.toNat (c (lnM xs t).2.1.toNat - 1)) = V at hv ⊢
        rw [← hv, show V * prN (lnM xs t).2.1.toNat * prN (4 + 2 * t) * prN (5 + 2 * (lnM xs t).2.2.1.toNat) = V * prN (5 + 2 * (lnM xs t).2.2.1.toNat) * (prN (4 + 2 * t) * prN (lnM xs t).2.1.toNat) by ac_rfl, Nat.mul_div_cancel _ (Nat.mul_pos (by omega) (by omega))]
  · exact absurd o h3
theorem goM_le (xs : List InsT) : ∀ (f : Nat) (s s' : MaS) (k k' : Nat), goM xs f s k = (s', k', 0) → k ≤ k'
  | 0, s, s', k, k', h => by
    rw [goM] at h
    split at h
    · simp only [Prod.mk.injEq] at h; omega
    · simp at h
  | f + 1, s, s', k, k', h => by
    rw [goM] at h
    split at h
    · simp only [Prod.mk.injEq] at h; omega
    · split at h
      · simp at h
      · have := goM_le xs f _ _ _ _ h; omega
/-- FRACTIONS COUNT AS THE MACHINE DOES. -/
theorem game_counts {xs : List InsT} (hc : codeE xs = 0) : ∀ (f : Nat) (s s' : MaS) (k k' K : Nat), OkM xs s → goM xs f s k = (s', k', 0) → numN s.1 (4 + 2 * s.2) ≤ 4611686018427387904 → k ≤ k' ∧ ((goG (fraL xs) (2 * (k' - k)) (numN s.1 (4 + 2 * s.2)) K).2.2 = 4 ∨ (goG (fraL xs) (2 * (k' - k)) (numN s.1 (4 + 2 * s.2)) K = (numN s'.1 (4 + 2 * s'.2), K + 2 * (k' - k), 0) ∧ numN s'.1 (4 + 2 * s'.2) ≤ 4611686018427387904)) := by
  have hx := ln_ok hc
  have n12 := hx.n12
  intro f
  induction f with
  | zero =>
    intro s s' k k' K ok h hn
    rw [goM] at h
    split at h
    · rename_i h3
      simp only [Prod.mk.injEq] at h
      obtain ⟨rfl, rfl, -⟩ := h
      refine ⟨Nat.le_refl _, Or.inr ?_⟩
      rw [Nat.sub_self, goG_end (first_halt hx ok.2 h3)]
      exact ⟨rfl, hn⟩
    · simp at h
  | succ f ih =>
    intro s s' k k' K ok h hn
    rw [goM] at h
    split at h
    · rename_i h3
      simp only [Prod.mk.injEq] at h
      obtain ⟨rfl, rfl, -⟩ := h
      refine ⟨Nat.le_refl _, Or.inr ?_⟩
      rw [Nat.sub_self, goG_end (first_halt hx ok.2 h3)]
      exact ⟨rfl, hn⟩
    · rename_i h3
      split at h
      · simp at h
      · rename_i hfu
        have ok' := next_ok hc ok h3 (by simpa using hfu)
        obtain ⟨p, hp1, hp2⟩ := step_game hx ok h3
        have hnx := ok'.2
        have hq := first_come hx (c := (nextM xs s).1) hnx
        have hq2 := next_come (c := (nextM xs s).1) (t := (nextM xs s).2) (by omega)
        by_cases b1 : 4611686018427387904 < numN (nextM xs s).1 (5 + 2 * (nextM xs s).2)
        · -- too great at once
          have hk : k + 1 ≤ k' := by
            by_cases b2 : numN (nextM xs s).1 (4 + 2 * (nextM xs s).2) ≤ 4611686018427387904
            · exact (ih (nextM xs s) s' (k + 1) k' 0 ok' h b2).1
            · exact goM_le _ _ _ _ _ _ h
          refine ⟨by omega, Or.inl ?_⟩
          rw [show 2 * (k' - k) = (2 * (k' - k) - 1) + 1 by omega, goG_full hp1 (by rw [hp2]; exact b1)]
        · by_cases b2 : 4611686018427387904 < numN (nextM xs s).1 (4 + 2 * (nextM xs s).2)
          · have hk : k + 1 ≤ k' := goM_le _ _ _ _ _ _ h
            refine ⟨by omega, Or.inl ?_⟩
            rw [show 2 * (k' - k) = (2 * (k' - k) - 2) + 1 + 1 by omega, goG_next hp1 (by rw [hp2]; exact b1), hp2, goG_full hq (by rw [hq2]; exact b2)]
          · obtain ⟨hk, hr⟩ := ih (nextM xs s) s' (k + 1) k' (K + 1 + 1) ok' h (by omega)
            refine ⟨by omega, ?_⟩
            rw [show 2 * (k' - k) = 2 * (k' - (k + 1)) + 1 + 1 by omega, goG_next hp1 (by rw [hp2]; exact b1), hp2, goG_next hq (by rw [hq2]; exact b2), hq2]
            rcases hr with hr | ⟨hr, hb⟩
            · exact Or.inl hr
            · right
              refine ⟨?_, hb⟩
              rw [hr]
              simp only [Prod.mk.injEq, true_and, and_true]
              omega
end Go.Proofs.YtcfoeadfhkojeaaGreatDoor

