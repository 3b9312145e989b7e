/-
  What the last text of this claim leans on, part 23: Ok1, Og1, Ry1, Og2, Og3, Og4, Og5, Og6, Ok5.
-/
import Derived.Test.YtjjdjdodhedihaaDoorJg21
import Derived.Test.YtjjdjdodhedihaaDoorJg1
import Derived.Test.YtjjdjdodhedihaaDoorJg20
import Derived.Test.YtjjdjdodhedihaaDoorJg22
import Derived.Deep.RegionWith
namespace Go.Proofs.YtjjdjdodhedihaaDoor
open Go.RowKit
set_option linter.unusedVariables false

/-- To which pairs unlike cells lead from alike places, so far. -/
def GotTo (S n : Nat) (T : List Int) (p j t : Nat) : Prop := ∃ (p' : Nat) (c : Nat × Nat), (p' < p ∨ (p' = p ∧ c.1 * S + c.2 < j)) ∧ OkWay S T (p', p') c ∧ c.1 ≠ c.2 ∧ codeP S n (p' * n + p') c = t
structure GJ (W : World) (S n p : Nat) (T : List Int) (pf gf B0 j : Nat) (fl : List Bool) : Prop where
  fb : Blk W pf #[.slice (some ⟨gf, 0, none⟩) (n * n) (n * n)] 90
  fc : Blk W gf (fl.map Value.bool).toArray 4
  fl_ : fl.length = n * n
  sp : ∀ t, t < n * n → (fl.getD t false = true ↔ GotTo S n T p j t)
  b1 : B0 ≤ gf
theorem GJ.next {W W' : World} {S n p : Nat} {T : List Int} {pf gf B0 j : Nat} {fl : List Bool} (h : GJ W S n p T pf gf B0 j fl) (b : Below W.heap.size W W') : GJ W' S n p T pf gf B0 j fl :=
  ⟨h.fb.of (b.block _ h.fb.lt), h.fc.of (b.block _ h.fc.lt), h.fl_, h.sp, h.b1⟩
theorem GJ.skip {W : World} {S n p : Nat} {T : List Int} {pf gf B0 j : Nat} {fl : List Bool} (h : GJ W S n p T pf gf B0 j fl) (c : Nat × Nat) (hc : c.2 < S) (hj : j = c.1 * S + c.2) (hno : ¬ (OkWay S T (p, p) c ∧ c.1 ≠ c.2)) : GJ W S n p T pf gf B0 (j + 1) fl := by
  refine ⟨h.fb, h.fc, h.fl_, fun t ht => (h.sp t ht).trans ⟨fun ⟨p', d, q1, q2, q3, q4⟩ => ⟨p', d, by omega, q2, q3, q4⟩, fun ⟨p', d, q1, q2, q3, q4⟩ => ⟨p', d, ?_, q2, q3, q4⟩⟩, h.b1⟩
  rcases q1 with q1 | ⟨rfl, q1⟩
  · exact Or.inl q1
  · rcases Nat.lt_or_ge (d.1 * S + d.2) j with c' | c'
    · exact Or.inr ⟨rfl, c'⟩
    · exact absurd (show OkWay S T (p', p') c ∧ c.1 ≠ c.2 by rw [cell_code hc q2.2.1 (by omega : c.1 * S + c.2 = d.1 * S + d.2)]; exact ⟨q2, q3⟩) hno
/-- From alike places, by unlike cells, back to alike places. -/
def TwinAt (S n : Nat) (T : List Int) : Prop := ∃ (p q : Nat) (c : Nat × Nat) (cs : List (Nat × Nat)), p < n ∧ q < n ∧ OkWay S T (p, p) c ∧ c.1 ≠ c.2 ∧ okP S n T (stepP S n (p, p) c) cs ∧ endP S n (stepP S n (p, p) c) cs = (q, q)
theorem GJ.over {W : World} {S n p : Nat} {T : List Int} {pf gf B0 : Nat} {fl : List Bool} (h : GJ W S n p T pf gf B0 (S * S) fl) : GJ W S n (p + 1) T pf gf B0 0 fl := by
  refine ⟨h.fb, h.fc, h.fl_, fun t ht => (h.sp t ht).trans ⟨fun ⟨p', d, q1, q2, q3, q4⟩ => ⟨p', d, by omega, q2, q3, q4⟩, fun ⟨p', d, q1, q2, q3, q4⟩ => ⟨p', d, ?_, q2, q3, q4⟩⟩, h.b1⟩
  have : (d.1 + 1) * S ≤ S * S := Nat.mul_le_mul_right _ q2.1
  rw [Nat.add_mul] at this
  have := q2.2.1
  omega
end Go.Proofs.YtjjdjdodhedihaaDoor

namespace Go.Proofs.YtjjdjdodhedihaaDoor
set_option linter.unusedVariables false

/-- Cells i, .. read as a number, the first the highest. -/
def hn (S : Nat) (f : Nat → Nat) (i : Nat) : Nat → Nat
  | 0 => 0
  | m + 1 => hn S f i m * S + f (i + m)
end Go.Proofs.YtjjdjdodhedihaaDoor

namespace Go.Proofs.YtjjdjdodhedihaaDoor
set_option linter.unusedVariables false

/-- Each word makes the next. -/
def Makes (g : Nat → List Int) : Prop := ∀ i j, g i = g j → g (i + 1) = g (j + 1)
theorem Makes.add {g : Nat → List Int} (h : Makes g) {i j : Nat} (e : g i = g j) : ∀ d, g (i + d) = g (j + d)
  | 0 => e
  | d + 1 => h _ _ (h.add e d)
/-- Word m is the first that comes again, p steps behind. -/
structure First (g : Nat → List Int) (m p : Nat) : Prop where
  pos : 0 < p
  again : g m = g (m + p)
  ahead : ∀ i j, i < j → j < m + p → g i ≠ g j
theorem First.mul {g : Nat → List Int} {m p : Nat} (h : First g m p) (hg : Makes g) : ∀ k d, g (m + d) = g (m + d + k * p)
  | 0, d => by simp
  | k + 1, d => by
    have h1 := h.mul hg k d
    have h2 := hg.add h.again (d + k * p)
    rw [h1, show m + d + k * p = m + (d + k * p) by omega, h2]
    congr 1
    rw [Nat.add_mul, Nat.one_mul]
    omega
theorem First.low {g : Nat → List Int} {m p : Nat} (h : First g m p) (hg : Makes g) (d : Nat) : g (m + d) = g (m + d % p) := by
  have h1 := h.mul hg (d / p) (d % p)
  rw [h1]
  congr 1
  have := Nat.div_add_mod d p
  rw [Nat.mul_comm] at this
  omega
theorem First.same {g : Nat → List Int} {m p : Nat} (h : First g m p) (hg : Makes g) (d e : Nat) : g (m + d) = g (m + e) ↔ d % p = e % p := by
  have h1 := Nat.mod_lt d h.pos
  have h2 := Nat.mod_lt e h.pos
  rw [h.low hg d, h.low hg e]
  constructor
  · intro q
    rcases Nat.lt_trichotomy (d % p) (e % p) with c | c | c
    · exact absurd q (h.ahead _ _ (by omega) (by omega))
    · exact c
    · exact absurd q.symm (h.ahead _ _ (by omega) (by omega))
  · intro q; rw [q]
theorem First.alone {g : Nat → List Int} {m p : Nat} (h : First g m p) (hg : Makes g) {i j : Nat} (hi : i < m) (hj : i ≠ j) : g i ≠ g j := by
  intro q
  by_cases c : j < m + p
  · rcases Nat.lt_or_gt_of_ne hj with d | d
    · exact h.ahead i j d c q
    · exact h.ahead j i d (by omega) q.symm
  · obtain ⟨d, rfl⟩ : ∃ d, j = m + d := ⟨j - m, by omega⟩
    rw [h.low hg d] at q
    have h1 := Nat.mod_lt d h.pos
    exact h.ahead i _ (by omega) (by omega) q
/-- Where a slow one and a fast one meet. -/
theorem First.meet {g : Nat → List Int} {m p : Nat} (h : First g m p) (hg : Makes g) {n : Nat} (hn : 0 < n) : g n = g (2 * n) ↔ m ≤ n ∧ n % p = 0 := by
  constructor
  · intro q
    have hm : m ≤ n := by
      rcases Nat.lt_or_ge n m with c | c
      · exact absurd q (h.alone hg c (by omega))
      · exact c
    refine ⟨hm, ?_⟩
    obtain ⟨d, rfl⟩ : ∃ d, n = m + d := ⟨n - m, by omega⟩
    rw [show 2 * (m + d) = m + (d + (m + d)) by omega, h.same hg] at q
    have hp := h.pos
    have h1 : (m + d) % p = 0 := by
      have h2 := Nat.sub_mod_eq_zero_of_mod_eq q.symm
      rw [show d + (m + d) - d = m + d by omega] at h2
      exact h2
    exact h1
  · rintro ⟨hm, h0⟩
    obtain ⟨d, rfl⟩ : ∃ d, n = m + d := ⟨n - m, by omega⟩
    rw [show 2 * (m + d) = m + (d + (m + d)) by omega, h.same hg, Nat.add_mod, h0, Nat.add_zero, Nat.mod_mod]
/-- From the start, and from where they met, they meet at m. -/
theorem First.start {g : Nat → List Int} {m p : Nat} (h : First g m p) (hg : Makes g) {n : Nat} (hn : 0 < n) (h0 : n % p = 0) {k : Nat} (hk : k ≤ m) : g k = g (2 * n + k) ↔ k = m := by
  constructor
  · intro q
    rcases Nat.lt_or_ge k m with c | c
    · exact absurd q (h.alone hg c (by omega))
    · omega
  · rintro rfl
    have h1 := (h.same hg 0 (2 * n)).2 (by rw [Nat.two_mul, Nat.add_mod, h0, Nat.zero_mod])
    rw [Nat.add_zero] at h1
    rw [h1, Nat.add_comm]
/-- From there on it takes p steps. -/
theorem First.round {g : Nat → List Int} {m p : Nat} (h : First g m p) (hg : Makes g) {t : Nat} (ht : 0 < t) (hp : t ≤ p) : g m = g (m + t) ↔ t = p := by
  have h1 := h.same hg 0 t
  rw [Nat.add_zero] at h1
  rw [h1, Nat.zero_mod]
  constructor
  · intro q
    rcases Nat.lt_or_ge t p with c | c
    · rw [Nat.mod_eq_of_lt c] at q; omega
    · omega
  · rintro rfl; exact (Nat.mod_self _).symm
theorem First.only {g : Nat → List Int} {m p m' p' : Nat} (h : First g m p) (h' : First g m' p') : m + p = m' + p' ∧ m = m' := by
  have e : m + p = m' + p' := by
    rcases Nat.lt_trichotomy (m + p) (m' + p') with c | c | c
    · exact absurd h.again (h'.ahead _ _ (by have := h.pos; omega) c)
    · exact c
    · exact absurd h'.again (h.ahead _ _ (by have := h'.pos; omega) c)
  refine ⟨e, ?_⟩
  have a := h.again
  have b := h'.again
  have q : g m = g m' := by rw [a, b, e]
  rcases Nat.lt_trichotomy m m' with c | c | c
  · exact absurd q (h.ahead _ _ c (by have := h'.pos; omega))
  · exact c
  · exact absurd q.symm (h.ahead _ _ c (by have := h.pos; omega))
end Go.Proofs.YtjjdjdodhedihaaDoor

namespace Go.Proofs.YtjjdjdodhedihaaDoor
set_option linter.unusedVariables false

end Go.Proofs.YtjjdjdodhedihaaDoor

namespace Go.Proofs.YtjjdjdodhedihaaDoor
set_option linter.unusedVariables false

end Go.Proofs.YtjjdjdodhedihaaDoor

namespace Go.Proofs.YtjjdjdodhedihaaDoor
set_option linter.unusedVariables false

theorem pigeon : ∀ (N : Nat) (f : Nat → Nat), (∀ i, i ≤ N → f i < N) → ∃ i j, i < j ∧ j ≤ N ∧ f i = f j
  | 0, f, h => absurd (h 0 (Nat.le_refl _)) (by omega)
  | N + 1, f, h => by
    by_cases hx : ∃ i, i ≤ N ∧ f i = f (N + 1)
    · obtain ⟨i, hi, e⟩ := hx
      exact ⟨i, N + 1, by omega, Nat.le_refl _, e⟩
    · obtain ⟨i, j, h1, h2, h3⟩ := pigeon N (fun i => if f i = N then f (N + 1) else f i) (fun i hi => by
        have a := h i (by omega)
        have b := h (N + 1) (Nat.le_refl _)
        have c : f i ≠ f (N + 1) := fun e => hx ⟨i, hi, e⟩
        split <;> omega)
      refine ⟨i, j, h1, by omega, ?_⟩
      have ci : f i ≠ f (N + 1) := fun e => hx ⟨i, by omega, e⟩
      have cj : f j ≠ f (N + 1) := fun e => hx ⟨j, by omega, e⟩
      split at h3 <;> split at h3 <;> omega
end Go.Proofs.YtjjdjdodhedihaaDoor

namespace Go.Proofs.YtjjdjdodhedihaaDoor
set_option linter.unusedVariables false

end Go.Proofs.YtjjdjdodhedihaaDoor

namespace Go.Proofs.YtjjdjdodhedihaaDoor
set_option linter.unusedVariables false

end Go.Proofs.YtjjdjdodhedihaaDoor

namespace Go.Proofs.YtjjdjdodhedihaaDoor
set_option linter.unusedVariables false

/-- From alike places to a way that is wanted: somewhere it leaves alike places by unlike cells. -/
theorem leaves_on (S n : Nat) (T : List Int) (hn : 0 < n) : ∀ (cs : List (Nat × Nat)) (p : Nat) (d : Nat × Nat), p < n → okP S n T (p, p) (cs ++ [d]) → wantTf S n (endP S n (p, p) cs) d = true → TwinAt S n T := by
  intro cs
  induction cs with
  | nil =>
    intro p d hp hk hw
    have hw' : wantTf S n (p, p) d = true := hw
    unfold wantTf wantT at hw'
    simp only [Bool.and_eq_true, decide_eq_true_eq, Bool.not_eq_true', decide_true, Bool.true_and, decide_eq_false_iff_not] at hw'
    have hl : (stepP S n (p, p) d).1 < n := Nat.mod_lt _ hn
    exact ⟨p, (stepP S n (p, p) d).1, d, [], hp, hl, hk.1, hw'.2, trivial, Prod.ext rfl hw'.1.symm⟩
  | cons c cs ih =>
    intro p d hp hk hw
    by_cases e : c.1 = c.2
    · have es : stepP S n (p, p) c = ((stepP S n (p, p) c).1, (stepP S n (p, p) c).1) := by unfold stepP; simp only [e]
      have hl : (stepP S n (p, p) c).1 < n := Nat.mod_lt _ hn
      have hk2 : okP S n T (stepP S n (p, p) c) (cs ++ [d]) := hk.2
      have hw2 : wantTf S n (endP S n (stepP S n (p, p) c) cs) d = true := hw
      rw [es] at hk2 hw2
      exact ih _ d hl hk2 hw2
    · have hk2 : okP S n T (stepP S n (p, p) c) (cs ++ [d]) := hk.2
      have hw2 : wantTf S n (endP S n (stepP S n (p, p) c) cs) d = true := hw
      have hend : endP S n (stepP S n (p, p) c) (cs ++ [d]) = stepP S n (endP S n (stepP S n (p, p) c) cs) d := by rw [endP_append]; rfl
      unfold wantTf wantT at hw2
      simp only [Bool.and_eq_true, decide_eq_true_eq] at hw2
      refine ⟨p, (stepP S n (endP S n (stepP S n (p, p) c) cs) d).1, c, cs ++ [d], hp, Nat.mod_lt _ hn, hk.1, e, hk2, ?_⟩
      rw [hend]
      exact Prod.ext rfl hw2.1.symm
theorem is_twin_at {S n : Nat} {T : List Int} (hn : 0 < n) {p : Nat} {full : List (Nat × Nat)} (h : IsTwin S n T p full) : TwinAt S n T := by
  obtain ⟨hp, hk, ⟨cs, d, rfl, hw⟩, _⟩ := h
  exact leaves_on S n T hn cs p d hp hk hw
end Go.Proofs.YtjjdjdodhedihaaDoor

