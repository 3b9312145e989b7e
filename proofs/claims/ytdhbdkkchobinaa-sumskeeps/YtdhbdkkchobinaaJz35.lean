/-
  What the last text of this claim leans on, part 35: Of6, Og1, Ry1, Og2.
-/
import Derived.Test.YtdhbdkkchobinaaJz34
import Derived.Test.YtdhbdkkchobinaaJz1
namespace Go.Proofs.Ytdhbdkkchobinaa
set_option linter.unusedVariables false

theorem wantRf_is {S n : Nat} {u v c : Nat × Nat} : wantRf S n u.1 u.2 v c = true ↔ stepP S n v c = u ∧ c.1 ≠ c.2 := by
  unfold wantRf wantR stepP
  simp [Prod.ext_iff]
theorem ring_turn {S n : Nat} {T : List Int} {u : Nat × Nat} {full : List (Nat × Nat)} (hn : 0 < n) (h : IsRing S n T u full) : ∃ k, k < n * n ∧ TurnAt S n T k := by
  obtain ⟨h1, h2, h3, ⟨cs, d, e, hw⟩, _⟩ := h
  obtain ⟨q1, q2⟩ := wantRf_is.1 hw
  rw [e, okP_append] at h3
  have hl := endP_lt (S := S) hn cs u (by omega) h2
  have hu := un_co (n := n) (u := endP S n u cs) hl.2
  refine ⟨coP n (endP S n u cs), co_lt hl.1 hl.2, d, cs, ?_, q2, ?_, ?_⟩
  · rw [hu]; exact h3.2.1
  · rw [hu, q1]; exact h3.1
  · rw [hu, q1]
/-- The two sides exchanged. -/
def swp (c : Nat × Nat) : Nat × Nat := (c.2, c.1)
theorem ok_swp {S : Nat} {T : List Int} {u c : Nat × Nat} (h : OkWay S T u c) : OkWay S T (swp u) (swp c) := ⟨h.2.1, h.1, h.2.2.symm⟩
theorem step_swp (S n : Nat) (u c : Nat × Nat) : stepP S n (swp u) (swp c) = swp (stepP S n u c) := rfl
theorem okP_swp {S n : Nat} {T : List Int} : ∀ (cs : List (Nat × Nat)) (u : Nat × Nat), okP S n T u cs → okP S n T (swp u) (cs.map swp)
  | [], _, _ => trivial
  | c :: r, u, h => ⟨ok_swp h.1, by rw [step_swp]; exact okP_swp r _ h.2⟩
theorem endP_swp (S n : Nat) : ∀ (cs : List (Nat × Nat)) (u : Nat × Nat), endP S n (swp u) (cs.map swp) = swp (endP S n u cs)
  | [], _ => rfl
  | c :: r, u => by
    show endP S n (stepP S n (swp u) (swp c)) (r.map swp) = _
    rw [step_swp, endP_swp S n r]
    rfl
theorem no_turn {S n : Nat} {T : List Int} (hn : 0 < n) (h : ∀ u : Nat × Nat, u.1 ≤ u.2 → u.2 < n → NoRing S n T u) (k : Nat) : ¬ TurnAt S n T k := by
  rintro ⟨c, cs, h1, h2, h3, h4⟩
  obtain ⟨v, hv⟩ : ∃ v, unP n k = v := ⟨_, rfl⟩
  rw [hv] at h1 h3 h4
  obtain ⟨u, hu⟩ : ∃ u, stepP S n v c = u := ⟨_, rfl⟩
  rw [hu] at h3 h4
  have hl := stepP_lt (S := S) hn v c
  rw [hu] at hl
  rcases Nat.le_total u.1 u.2 with q | q
  · have := h u q hl.2 cs c h3 (by rw [h4]; exact h1)
    rw [h4, wantRf_is.2 ⟨hu, h2⟩] at this
    cases this
  · have := h (swp u) q hl.1 (cs.map swp) (swp c) (okP_swp cs u h3) (by rw [endP_swp, h4]; exact ok_swp h1)
    rw [endP_swp, h4, wantRf_is.2 ⟨by rw [step_swp, hu], fun e => h2 e.symm⟩] at this
    cases this
end Go.Proofs.Ytdhbdkkchobinaa

namespace Go.Proofs.Ytdhbdkkchobinaa
set_option linter.unusedVariables false

/-- Cells i, .. read as a number, the first the highest. -/
def hn (S : Nat) (f : Nat → Nat) (i : Nat) : Nat → Nat
  | 0 => 0
  | m + 1 => hn S f i m * S + f (i + m)
theorem hn_front (S : Nat) (f : Nat → Nat) : ∀ (m i : Nat), hn S f i (m + 1) = f i * S ^ m + hn S f (i + 1) m
  | 0, i => by simp [hn]
  | m + 1, i => by
    rw [hn, hn_front S f m i, hn, Nat.add_mul, Nat.mul_assoc, ← Nat.pow_succ, Nat.add_assoc, show i + (m + 1) = i + 1 + m by omega]
theorem hn_lt {S : Nat} {f : Nat → Nat} (hf : ∀ t, f t < S) : ∀ (m i : Nat), hn S f i m < S ^ m
  | 0, i => by simp [hn]
  | m + 1, i => by
    have h1 := hn_lt hf m i
    have h2 := hf (i + m)
    have h3 : (hn S f i m + 1) * S ≤ S ^ m * S := Nat.mul_le_mul_right _ h1
    rw [Nat.add_mul] at h3
    rw [hn, Nat.pow_succ]
    omega
theorem hn_step {S : Nat} {f : Nat → Nat} (hf : ∀ t, f t < S) (m i : Nat) : (hn S f i m * S + f (i + m)) % S ^ m = hn S f (i + 1) m := by
  rw [show hn S f i m * S + f (i + m) = hn S f i (m + 1) from rfl, hn_front, Nat.mul_comm, Nat.mul_add_mod, Nat.mod_eq_of_lt (hn_lt hf m _)]
theorem hn_per {S L : Nat} {f : Nat → Nat} (hp : ∀ t, f (t + L) = f t) (i : Nat) : ∀ m, hn S f (i + L) m = hn S f i m
  | 0 => rfl
  | m + 1 => by rw [hn, hn, hn_per hp i m, show i + L + m = i + m + L by omega, hp]
/-- The pair of places ahead of cell i + m. -/
def plP (S m : Nat) (f g : Nat → Nat) (i : Nat) : Nat × Nat := (hn S f i m, hn S g i m)
def pathC (f g : Nat → Nat) (i : Nat) : Nat → List (Nat × Nat)
  | 0 => []
  | k + 1 => (f i, g i) :: pathC f g (i + 1) k
theorem step_pl {S m : Nat} {f g : Nat → Nat} (hf : ∀ t, f t < S) (hg : ∀ t, g t < S) (i : Nat) : stepP S (S ^ m) (plP S m f g i) (f (i + m), g (i + m)) = plP S m f g (i + 1) := by
  unfold stepP plP
  simp only
  rw [hn_step hf, hn_step hg]
theorem path_end {S m : Nat} {f g : Nat → Nat} (hf : ∀ t, f t < S) (hg : ∀ t, g t < S) : ∀ (k i : Nat), endP S (S ^ m) (plP S m f g i) (pathC f g (i + m) k) = plP S m f g (i + k)
  | 0, i => rfl
  | k + 1, i => by
    show endP S (S ^ m) (stepP S (S ^ m) (plP S m f g i) (f (i + m), g (i + m))) (pathC f g (i + m + 1) k) = _
    rw [step_pl hf hg, show i + m + 1 = i + 1 + m by omega, path_end hf hg k (i + 1), show i + 1 + k = i + (k + 1) by omega]
theorem way_pl {S m : Nat} {T : List Int} {f g : Nat → Nat} (hf : ∀ t, f t < S) (hg : ∀ t, g t < S) (i : Nat) (h : T.getD (hn S f i (m + 1)) 0 = T.getD (hn S g i (m + 1)) 0) : OkWay S T (plP S m f g i) (f (i + m), g (i + m)) := ⟨hf _, hg _, h⟩
theorem path_ok {S m : Nat} {T : List Int} {f g : Nat → Nat} (hf : ∀ t, f t < S) (hg : ∀ t, g t < S) (h : ∀ i, T.getD (hn S f i (m + 1)) 0 = T.getD (hn S g i (m + 1)) 0) : ∀ (k i : Nat), okP S (S ^ m) T (plP S m f g i) (pathC f g (i + m) k)
  | 0, i => trivial
  | k + 1, i => by
    refine ⟨way_pl hf hg i (h i), ?_⟩
    show okP S (S ^ m) T (stepP S (S ^ m) (plP S m f g i) (f (i + m), g (i + m))) (pathC f g (i + m + 1) k)
    rw [step_pl hf hg, show i + m + 1 = i + 1 + m by omega]
    exact path_ok hf hg h k (i + 1)
/-- Where no pair turns, rings of one length of which the same becomes are the same. -/
theorem turn_inj {S m L : Nat} {T : List Int} {f g : Nat → Nat} (hS : 0 < S) (hL : 0 < L) (hf : ∀ t, f t < S) (hg : ∀ t, g t < S) (pf : ∀ t, f (t + L) = f t) (pg : ∀ t, g (t + L) = g t)
    (h : ∀ i, T.getD (hn S f i (m + 1)) 0 = T.getD (hn S g i (m + 1)) 0) (hno : ∀ k, ¬ TurnAt S (S ^ m) T k) : ∀ t, f (t + m) = g (t + m) := by
  intro t
  rcases Nat.decEq (f (t + m)) (g (t + m)) with c | c
  · exfalso
    have hu : unP (S ^ m) (coP (S ^ m) (plP S m f g t)) = plP S m f g t := un_co (hn_lt hg m t)
    refine hno (coP (S ^ m) (plP S m f g t)) ⟨(f (t + m), g (t + m)), pathC f g (t + 1 + m) (L - 1), ?_, c, ?_, ?_⟩
    · rw [hu]; exact way_pl hf hg t (h t)
    · rw [hu, step_pl hf hg]; exact path_ok hf hg h _ _
    · rw [hu, step_pl hf hg, path_end hf hg, show t + 1 + (L - 1) = t + L by omega]
      unfold plP
      rw [hn_per pf, hn_per pg]
  · exact c
theorem per_mul {L : Nat} {f : Nat → Nat} (pf : ∀ t, f (t + L) = f t) (t : Nat) : ∀ k, f (t + k * L) = f t
  | 0 => by simp
  | k + 1 => by rw [Nat.add_mul, Nat.one_mul, ← Nat.add_assoc, pf, per_mul pf t k]
theorem turn_inj' {S m L : Nat} {T : List Int} {f g : Nat → Nat} (hS : 0 < S) (hL : 0 < L) (hf : ∀ t, f t < S) (hg : ∀ t, g t < S) (pf : ∀ t, f (t + L) = f t) (pg : ∀ t, g (t + L) = g t)
    (h : ∀ i, T.getD (hn S f i (m + 1)) 0 = T.getD (hn S g i (m + 1)) 0) (hno : ∀ k, ¬ TurnAt S (S ^ m) T k) (t : Nat) : f t = g t := by
  have h1 := turn_inj hS hL hf hg pf pg h hno (t + (m * L - m))
  have hm : m ≤ m * L := Nat.le_mul_of_pos_right _ hL
  rw [show t + (m * L - m) + m = t + m * L by omega, per_mul pf, per_mul pg] at h1
  exact h1
end Go.Proofs.Ytdhbdkkchobinaa

namespace Go.Proofs.Ytdhbdkkchobinaa
set_option linter.unusedVariables false

/-- Each word makes the next. -/
def Makes (g : Nat → List Int) : Prop := ∀ i j, g i = g j → g (i + 1) = g (j + 1)
theorem Makes.add {g : Nat → List Int} (h : Makes g) {i j : Nat} (e : g i = g j) : ∀ d, g (i + d) = g (j + d)
  | 0 => e
  | d + 1 => h _ _ (h.add e d)
/-- Word m is the first that comes again, p steps behind. -/
structure First (g : Nat → List Int) (m p : Nat) : Prop where
  pos : 0 < p
  again : g m = g (m + p)
  ahead : ∀ i j, i < j → j < m + p → g i ≠ g j
theorem first_of (g : Nat → List Int) : ∀ (N i j : Nat), j ≤ N → i < j → g i = g j → ∃ m p, First g m p ∧ m + p ≤ j := by
  intro N
  induction N with
  | zero => intro i j h1 h2; omega
  | succ N ih =>
    intro i j h1 h2 e
    by_cases h : ∃ i' j', i' < j' ∧ j' < j ∧ g i' = g j'
    · obtain ⟨i', j', a, b, c⟩ := h
      obtain ⟨m, p, h3, h4⟩ := ih i' j' (by omega) a c
      exact ⟨m, p, h3, by omega⟩
    · refine ⟨i, j - i, ⟨by omega, by rw [show i + (j - i) = j by omega]; exact e, fun a b hab hb c => h ⟨a, b, hab, by omega, c⟩⟩, by omega⟩
theorem First.mul {g : Nat → List Int} {m p : Nat} (h : First g m p) (hg : Makes g) : ∀ k d, g (m + d) = g (m + d + k * p)
  | 0, d => by simp
  | k + 1, d => by
    have h1 := h.mul hg k d
    have h2 := hg.add h.again (d + k * p)
    rw [h1, show m + d + k * p = m + (d + k * p) by omega, h2]
    congr 1
    rw [Nat.add_mul, Nat.one_mul]
    omega
theorem First.low {g : Nat → List Int} {m p : Nat} (h : First g m p) (hg : Makes g) (d : Nat) : g (m + d) = g (m + d % p) := by
  have h1 := h.mul hg (d / p) (d % p)
  rw [h1]
  congr 1
  have := Nat.div_add_mod d p
  rw [Nat.mul_comm] at this
  omega
theorem First.same {g : Nat → List Int} {m p : Nat} (h : First g m p) (hg : Makes g) (d e : Nat) : g (m + d) = g (m + e) ↔ d % p = e % p := by
  have h1 := Nat.mod_lt d h.pos
  have h2 := Nat.mod_lt e h.pos
  rw [h.low hg d, h.low hg e]
  constructor
  · intro q
    rcases Nat.lt_trichotomy (d % p) (e % p) with c | c | c
    · exact absurd q (h.ahead _ _ (by omega) (by omega))
    · exact c
    · exact absurd q.symm (h.ahead _ _ (by omega) (by omega))
  · intro q; rw [q]
theorem First.alone {g : Nat → List Int} {m p : Nat} (h : First g m p) (hg : Makes g) {i j : Nat} (hi : i < m) (hj : i ≠ j) : g i ≠ g j := by
  intro q
  by_cases c : j < m + p
  · rcases Nat.lt_or_gt_of_ne hj with d | d
    · exact h.ahead i j d c q
    · exact h.ahead j i d (by omega) q.symm
  · obtain ⟨d, rfl⟩ : ∃ d, j = m + d := ⟨j - m, by omega⟩
    rw [h.low hg d] at q
    have h1 := Nat.mod_lt d h.pos
    exact h.ahead i _ (by omega) (by omega) q
/-- Where a slow one and a fast one meet. -/
theorem First.meet {g : Nat → List Int} {m p : Nat} (h : First g m p) (hg : Makes g) {n : Nat} (hn : 0 < n) : g n = g (2 * n) ↔ m ≤ n ∧ n % p = 0 := by
  constructor
  · intro q
    have hm : m ≤ n := by
      rcases Nat.lt_or_ge n m with c | c
      · exact absurd q (h.alone hg c (by omega))
      · exact c
    refine ⟨hm, ?_⟩
    obtain ⟨d, rfl⟩ : ∃ d, n = m + d := ⟨n - m, by omega⟩
    rw [show 2 * (m + d) = m + (d + (m + d)) by omega, h.same hg] at q
    have hp := h.pos
    have h1 : (m + d) % p = 0 := by
      have h2 := Nat.sub_mod_eq_zero_of_mod_eq q.symm
      rw [show d + (m + d) - d = m + d by omega] at h2
      exact h2
    exact h1
  · rintro ⟨hm, h0⟩
    obtain ⟨d, rfl⟩ : ∃ d, n = m + d := ⟨n - m, by omega⟩
    rw [show 2 * (m + d) = m + (d + (m + d)) by omega, h.same hg, Nat.add_mod, h0, Nat.add_zero, Nat.mod_mod]
/-- They meet by then. -/
theorem First.by_then {g : Nat → List Int} {m p : Nat} (h : First g m p) : ∃ n, 0 < n ∧ m ≤ n ∧ n % p = 0 ∧ n ≤ m + p := by
  have hp := h.pos
  by_cases c : m % p = 0 ∧ 0 < m
  · exact ⟨m, c.2, Nat.le_refl _, c.1, by omega⟩
  · refine ⟨m + p - m % p, ?_, ?_, ?_, by omega⟩
    · have := Nat.mod_lt m hp; omega
    · have := Nat.mod_lt m hp; omega
    · have h1 := Nat.div_add_mod m p
      have h2 := Nat.mod_lt m hp
      have h3 : m + p - m % p = p * (m / p + 1) := by rw [Nat.mul_add, Nat.mul_one]; omega
      rw [h3]
      exact Nat.mul_mod_right _ _
/-- From the start, and from where they met, they meet at m. -/
theorem First.start {g : Nat → List Int} {m p : Nat} (h : First g m p) (hg : Makes g) {n : Nat} (hn : 0 < n) (h0 : n % p = 0) {k : Nat} (hk : k ≤ m) : g k = g (2 * n + k) ↔ k = m := by
  constructor
  · intro q
    rcases Nat.lt_or_ge k m with c | c
    · exact absurd q (h.alone hg c (by omega))
    · omega
  · rintro rfl
    have h1 := (h.same hg 0 (2 * n)).2 (by rw [Nat.two_mul, Nat.add_mod, h0, Nat.zero_mod])
    rw [Nat.add_zero] at h1
    rw [h1, Nat.add_comm]
/-- From there on it takes p steps. -/
theorem First.round {g : Nat → List Int} {m p : Nat} (h : First g m p) (hg : Makes g) {t : Nat} (ht : 0 < t) (hp : t ≤ p) : g m = g (m + t) ↔ t = p := by
  have h1 := h.same hg 0 t
  rw [Nat.add_zero] at h1
  rw [h1, Nat.zero_mod]
  constructor
  · intro q
    rcases Nat.lt_or_ge t p with c | c
    · rw [Nat.mod_eq_of_lt c] at q; omega
    · omega
  · rintro rfl; exact (Nat.mod_self _).symm
theorem First.only {g : Nat → List Int} {m p m' p' : Nat} (h : First g m p) (h' : First g m' p') : m + p = m' + p' ∧ m = m' := by
  have e : m + p = m' + p' := by
    rcases Nat.lt_trichotomy (m + p) (m' + p') with c | c | c
    · exact absurd h.again (h'.ahead _ _ (by have := h.pos; omega) c)
    · exact c
    · exact absurd h'.again (h.ahead _ _ (by have := h'.pos; omega) c)
  refine ⟨e, ?_⟩
  have a := h.again
  have b := h'.again
  have q : g m = g m' := by rw [a, b, e]
  rcases Nat.lt_trichotomy m m' with c | c | c
  · exact absurd q (h.ahead _ _ c (by have := h'.pos; omega))
  · exact c
  · exact absurd q.symm (h.ahead _ _ c (by have := h.pos; omega))
/-- A ring's words make the next. -/
theorem runL_makes (S : Int) (R : Nat) (T xs : List Int) : Makes fun n => runL S R T n xs := fun i j e => by
  show stepL S R T (runL S R T i xs) = stepL S R T (runL S R T j xs)
  rw [show runL S R T i xs = runL S R T j xs from e]
end Go.Proofs.Ytdhbdkkchobinaa

namespace Go.Proofs.Ytdhbdkkchobinaa
set_option linter.unusedVariables false

/-- A ring's cells, round and round. -/
def ringF (xs : List Int) (t : Nat) : Nat := (xs.getD (t % xs.length) 0).toNat
theorem ringF_per (xs : List Int) (t : Nat) : ringF xs (t + xs.length) = ringF xs t := by unfold ringF; rw [Nat.add_mod_right]
theorem ringF_lt {S : Nat} {xs : List Int} (hok : cellsOk S xs) (h : 0 < xs.length) (t : Nat) : ringF xs t < S := by
  have := cellsOk_at hok (Nat.mod_lt t h)
  unfold ringF
  omega
theorem ringF_rat {S : Nat} {xs : List Int} (hok : cellsOk S xs) (h : 0 < xs.length) {t : Nat} {z : Int} (e : (t : Int) % xs.length = z % xs.length) : rat xs z = ((ringF xs t : Nat) : Int) := by
  have h1 := cellsOk_at hok (Nat.mod_lt t h)
  unfold rat ringF
  rw [← e, ← Int.natCast_emod, Int.toNat_natCast]
  omega
theorem hn_perk {S L : Nat} {f : Nat → Nat} (hp : ∀ t, f (t + L) = f t) (i m : Nat) : ∀ k, hn S f (i + k * L) m = hn S f i m
  | 0 => by simp
  | k + 1 => by rw [Nat.add_mul, Nat.one_mul, ← Nat.add_assoc, hn_per hp, hn_perk hp i m k]
theorem wn_hn {S R : Nat} {xs : List Int} (hok : cellsOk S xs) (h : 0 < xs.length) {j i : Nat} (e : i + R = j + R * xs.length) :
    ∀ m, wn (S : Int) (fun d => rat xs ((j : Int) + d - R)) 0 m = ((hn S (ringF xs) i m : Nat) : Int)
  | 0 => rfl
  | m + 1 => by
    rw [wn, wn_hn hok h e m, hn, ringF_rat hok h (t := i + m) (by
      have e' : ((i + m : Nat) : Int) = ((j : Int) + (0 + m : Nat) - R) + R * (xs.length : Int) := by
        have : (i : Int) + R = j + (R * xs.length : Nat) := by omega
        push_cast at this ⊢
        omega
      rw [e', Int.add_mul_emod_self_right])]
    push_cast
    rfl
theorem same_windows {S R : Nat} {T xs ys : List Int} (hx : cellsOk S xs) (hy : cellsOk S ys) (hl : xs.length = ys.length) (h0 : 0 < xs.length) (e : stepL S R T xs = stepL S R T ys) (i : Nat) :
    T.getD (hn S (ringF xs) i (2 * R + 1)) 0 = T.getD (hn S (ringF ys) i (2 * R + 1)) 0 := by
  obtain ⟨j, hj⟩ : ∃ j, (i + R) % xs.length = j := ⟨_, rfl⟩
  obtain ⟨q, hq⟩ : ∃ q, (i + R) / xs.length = q := ⟨_, rfl⟩
  have jl : j < xs.length := by rw [← hj]; exact Nat.mod_lt _ h0
  have eq : i + R = q * xs.length + j := by rw [← hj, ← hq, Nat.mul_comm]; exact (Nat.div_add_mod _ _).symm
  have hR : R ≤ R * xs.length := Nat.le_mul_of_pos_right _ h0
  obtain ⟨i', hi'⟩ : ∃ i', i' + R = j + R * xs.length := ⟨j + R * xs.length - R, by omega⟩
  have ei : i + R * xs.length = i' + q * xs.length := by omega
  have a1 : hn S (ringF xs) i (2 * R + 1) = hn S (ringF xs) i' (2 * R + 1) := by
    rw [← hn_perk (ringF_per xs) i _ R, ei, hn_perk (ringF_per xs)]
  have a2 : hn S (ringF ys) i (2 * R + 1) = hn S (ringF ys) i' (2 * R + 1) := by
    rw [← hn_perk (ringF_per ys) i _ R, ← hl, ei, hl, hn_perk (ringF_per ys)]
  have e1 : (stepL S R T xs).getD j 0 = (stepL S R T ys).getD j 0 := by rw [e]
  rw [stepL, stepL] at e1
  rw [List.getD_eq_getElem?_getD, List.getD_eq_getElem?_getD, List.getElem?_map, List.getElem?_map, List.getElem?_range jl, List.getElem?_range (by omega)] at e1
  simp only [Option.map_some, Option.getD_some] at e1
  rw [wn_hn hx h0 hi', wn_hn hy (by omega) (by rw [← hl]; exact hi'), Int.toNat_natCast, Int.toNat_natCast] at e1
  rw [a1, a2]
  exact e1
theorem step_inj {S R : Nat} {T xs ys : List Int} (hS : 0 < S) (hx : cellsOk S xs) (hy : cellsOk S ys) (hl : xs.length = ys.length) (hno : ∀ k, ¬ TurnAt S (S ^ (2 * R)) T k) (e : stepL S R T xs = stepL S R T ys) : xs = ys := by
  rcases Nat.eq_zero_or_pos xs.length with h0 | h0
  · rw [List.length_eq_zero_iff.1 h0, List.length_eq_zero_iff.1 (show ys.length = 0 by omega)]
  · have h := turn_inj' hS h0 (ringF_lt hx h0) (ringF_lt hy (by omega)) (ringF_per xs) (by rw [hl]; exact ringF_per ys) (same_windows hx hy hl h0 e) hno
    apply List.ext_getElem hl
    intro t h1 h2
    have := h t
    have a := hx _ (List.getElem_mem h1)
    have b := hy _ (List.getElem_mem h2)
    unfold ringF at this
    rw [Nat.mod_eq_of_lt h1, Nat.mod_eq_of_lt h2, List.getD_eq_getElem?_getD, List.getD_eq_getElem?_getD, List.getElem?_eq_getElem h1, List.getElem?_eq_getElem h2] at this
    simp only [Option.getD_some] at this
    omega
/-- Where a step is one to one, what comes again first is the ring itself. -/
theorem first_zero {S R : Nat} {T xs : List Int} (hS : 0 < S) (hT : (T.length : Int) = (S : Int) ^ (2 * R + 1)) (hTo : cellsOk S T) (hx : cellsOk S xs) (hno : ∀ k, ¬ TurnAt S (S ^ (2 * R)) T k) {m p : Nat} (h : First (fun n => runL S R T n xs) m p) : m = 0 := by
  rcases Nat.eq_zero_or_pos m with c | c
  · exact c
  · exfalso
    obtain ⟨m', rfl⟩ : ∃ m', m = m' + 1 := ⟨m - 1, by omega⟩
    have e := h.again
    have hp := h.pos
    have e' : stepL S R T (runL S R T m' xs) = stepL S R T (runL S R T (m' + p) xs) := by
      have : m' + 1 + p = (m' + p) + 1 := by omega
      rw [this] at e
      exact e
    have := step_inj hS (runL_ok (by omega) hT hTo hx m') (runL_ok (by omega) hT hTo hx (m' + p)) (by rw [runL_length, runL_length]) hno e'
    exact h.ahead m' (m' + p) (by omega) (by omega) this
end Go.Proofs.Ytdhbdkkchobinaa

