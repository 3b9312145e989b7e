/-
  What the last text of this claim leans on, part 20: Ok1, Og1, Ry1, Og2, Og3.
-/
import Derived.Test.YtjjdjdodhedihaaDoorJs19
import Derived.Test.YtjjdjdodhedihaaDoorJs1
import Derived.Deep.RegionWith
namespace Go.Proofs.YtjjdjdodhedihaaDoor
open Go.RowKit
set_option linter.unusedVariables false

/-- To which pairs unlike cells lead from alike places, so far. -/
def GotTo (S n : Nat) (T : List Int) (p j t : Nat) : Prop := ∃ (p' : Nat) (c : Nat × Nat), (p' < p ∨ (p' = p ∧ c.1 * S + c.2 < j)) ∧ OkWay S T (p', p') c ∧ c.1 ≠ c.2 ∧ codeP S n (p' * n + p') c = t
structure GJ (W : World) (S n p : Nat) (T : List Int) (pf gf B0 j : Nat) (fl : List Bool) : Prop where
  fb : Blk W pf #[.slice (some ⟨gf, 0, none⟩) (n * n) (n * n)] 90
  fc : Blk W gf (fl.map Value.bool).toArray 4
  fl_ : fl.length = n * n
  sp : ∀ t, t < n * n → (fl.getD t false = true ↔ GotTo S n T p j t)
  b1 : B0 ≤ gf
theorem GJ.next {W W' : World} {S n p : Nat} {T : List Int} {pf gf B0 j : Nat} {fl : List Bool} (h : GJ W S n p T pf gf B0 j fl) (b : Below W.heap.size W W') : GJ W' S n p T pf gf B0 j fl :=
  ⟨h.fb.of (b.block _ h.fb.lt), h.fc.of (b.block _ h.fc.lt), h.fl_, h.sp, h.b1⟩
theorem GJ.skip {W : World} {S n p : Nat} {T : List Int} {pf gf B0 j : Nat} {fl : List Bool} (h : GJ W S n p T pf gf B0 j fl) (c : Nat × Nat) (hc : c.2 < S) (hj : j = c.1 * S + c.2) (hno : ¬ (OkWay S T (p, p) c ∧ c.1 ≠ c.2)) : GJ W S n p T pf gf B0 (j + 1) fl := by
  refine ⟨h.fb, h.fc, h.fl_, fun t ht => (h.sp t ht).trans ⟨fun ⟨p', d, q1, q2, q3, q4⟩ => ⟨p', d, by omega, q2, q3, q4⟩, fun ⟨p', d, q1, q2, q3, q4⟩ => ⟨p', d, ?_, q2, q3, q4⟩⟩, h.b1⟩
  rcases q1 with q1 | ⟨rfl, q1⟩
  · exact Or.inl q1
  · rcases Nat.lt_or_ge (d.1 * S + d.2) j with c' | c'
    · exact Or.inr ⟨rfl, c'⟩
    · exact absurd (show OkWay S T (p', p') c ∧ c.1 ≠ c.2 by rw [cell_code hc q2.2.1 (by omega : c.1 * S + c.2 = d.1 * S + d.2)]; exact ⟨q2, q3⟩) hno
theorem GJ.over {W : World} {S n p : Nat} {T : List Int} {pf gf B0 : Nat} {fl : List Bool} (h : GJ W S n p T pf gf B0 (S * S) fl) : GJ W S n (p + 1) T pf gf B0 0 fl := by
  refine ⟨h.fb, h.fc, h.fl_, fun t ht => (h.sp t ht).trans ⟨fun ⟨p', d, q1, q2, q3, q4⟩ => ⟨p', d, by omega, q2, q3, q4⟩, fun ⟨p', d, q1, q2, q3, q4⟩ => ⟨p', d, ?_, q2, q3, q4⟩⟩, h.b1⟩
  have : (d.1 + 1) * S ≤ S * S := Nat.mul_le_mul_right _ q2.1
  rw [Nat.add_mul] at this
  have := q2.2.1
  omega
end Go.Proofs.YtjjdjdodhedihaaDoor

namespace Go.Proofs.YtjjdjdodhedihaaDoor
set_option linter.unusedVariables false

/-- Cells i, .. read as a number, the first the highest. -/
def hn (S : Nat) (f : Nat → Nat) (i : Nat) : Nat → Nat
  | 0 => 0
  | m + 1 => hn S f i m * S + f (i + m)
theorem hn_front (S : Nat) (f : Nat → Nat) : ∀ (m i : Nat), hn S f i (m + 1) = f i * S ^ m + hn S f (i + 1) m
  | 0, i => by simp [hn]
  | m + 1, i => by
    rw [hn, hn_front S f m i, hn, Nat.add_mul, Nat.mul_assoc, ← Nat.pow_succ, Nat.add_assoc, show i + (m + 1) = i + 1 + m by omega]
theorem hn_lt {S : Nat} {f : Nat → Nat} (hf : ∀ t, f t < S) : ∀ (m i : Nat), hn S f i m < S ^ m
  | 0, i => by simp [hn]
  | m + 1, i => by
    have h1 := hn_lt hf m i
    have h2 := hf (i + m)
    have h3 : (hn S f i m + 1) * S ≤ S ^ m * S := Nat.mul_le_mul_right _ h1
    rw [Nat.add_mul] at h3
    rw [hn, Nat.pow_succ]
    omega
theorem hn_step {S : Nat} {f : Nat → Nat} (hf : ∀ t, f t < S) (m i : Nat) : (hn S f i m * S + f (i + m)) % S ^ m = hn S f (i + 1) m := by
  rw [show hn S f i m * S + f (i + m) = hn S f i (m + 1) from rfl, hn_front, Nat.mul_comm, Nat.mul_add_mod, Nat.mod_eq_of_lt (hn_lt hf m _)]
theorem hn_per {S L : Nat} {f : Nat → Nat} (hp : ∀ t, f (t + L) = f t) (i : Nat) : ∀ m, hn S f (i + L) m = hn S f i m
  | 0 => rfl
  | m + 1 => by rw [hn, hn, hn_per hp i m, show i + L + m = i + m + L by omega, hp]
/-- The pair of places ahead of cell i + m. -/
def plP (S m : Nat) (f g : Nat → Nat) (i : Nat) : Nat × Nat := (hn S f i m, hn S g i m)
def pathC (f g : Nat → Nat) (i : Nat) : Nat → List (Nat × Nat)
  | 0 => []
  | k + 1 => (f i, g i) :: pathC f g (i + 1) k
theorem step_pl {S m : Nat} {f g : Nat → Nat} (hf : ∀ t, f t < S) (hg : ∀ t, g t < S) (i : Nat) : stepP S (S ^ m) (plP S m f g i) (f (i + m), g (i + m)) = plP S m f g (i + 1) := by
  unfold stepP plP
  simp only
  rw [hn_step hf, hn_step hg]
theorem path_end {S m : Nat} {f g : Nat → Nat} (hf : ∀ t, f t < S) (hg : ∀ t, g t < S) : ∀ (k i : Nat), endP S (S ^ m) (plP S m f g i) (pathC f g (i + m) k) = plP S m f g (i + k)
  | 0, i => rfl
  | k + 1, i => by
    show endP S (S ^ m) (stepP S (S ^ m) (plP S m f g i) (f (i + m), g (i + m))) (pathC f g (i + m + 1) k) = _
    rw [step_pl hf hg, show i + m + 1 = i + 1 + m by omega, path_end hf hg k (i + 1), show i + 1 + k = i + (k + 1) by omega]
theorem way_pl {S m : Nat} {T : List Int} {f g : Nat → Nat} (hf : ∀ t, f t < S) (hg : ∀ t, g t < S) (i : Nat) (h : T.getD (hn S f i (m + 1)) 0 = T.getD (hn S g i (m + 1)) 0) : OkWay S T (plP S m f g i) (f (i + m), g (i + m)) := ⟨hf _, hg _, h⟩
theorem path_ok {S m : Nat} {T : List Int} {f g : Nat → Nat} (hf : ∀ t, f t < S) (hg : ∀ t, g t < S) (h : ∀ i, T.getD (hn S f i (m + 1)) 0 = T.getD (hn S g i (m + 1)) 0) : ∀ (k i : Nat), okP S (S ^ m) T (plP S m f g i) (pathC f g (i + m) k)
  | 0, i => trivial
  | k + 1, i => by
    refine ⟨way_pl hf hg i (h i), ?_⟩
    show okP S (S ^ m) T (stepP S (S ^ m) (plP S m f g i) (f (i + m), g (i + m))) (pathC f g (i + m + 1) k)
    rw [step_pl hf hg, show i + m + 1 = i + 1 + m by omega]
    exact path_ok hf hg h k (i + 1)
/-- Where no pair turns, rings of one length of which the same becomes are the same. -/
theorem turn_inj {S m L : Nat} {T : List Int} {f g : Nat → Nat} (hS : 0 < S) (hL : 0 < L) (hf : ∀ t, f t < S) (hg : ∀ t, g t < S) (pf : ∀ t, f (t + L) = f t) (pg : ∀ t, g (t + L) = g t)
    (h : ∀ i, T.getD (hn S f i (m + 1)) 0 = T.getD (hn S g i (m + 1)) 0) (hno : ∀ k, ¬ TurnAt S (S ^ m) T k) : ∀ t, f (t + m) = g (t + m) := by
  intro t
  rcases Nat.decEq (f (t + m)) (g (t + m)) with c | c
  · exfalso
    have hu : unP (S ^ m) (coP (S ^ m) (plP S m f g t)) = plP S m f g t := un_co (hn_lt hg m t)
    refine hno (coP (S ^ m) (plP S m f g t)) ⟨(f (t + m), g (t + m)), pathC f g (t + 1 + m) (L - 1), ?_, c, ?_, ?_⟩
    · rw [hu]; exact way_pl hf hg t (h t)
    · rw [hu, step_pl hf hg]; exact path_ok hf hg h _ _
    · rw [hu, step_pl hf hg, path_end hf hg, show t + 1 + (L - 1) = t + L by omega]
      unfold plP
      rw [hn_per pf, hn_per pg]
  · exact c
theorem per_mul {L : Nat} {f : Nat → Nat} (pf : ∀ t, f (t + L) = f t) (t : Nat) : ∀ k, f (t + k * L) = f t
  | 0 => by simp
  | k + 1 => by rw [Nat.add_mul, Nat.one_mul, ← Nat.add_assoc, pf, per_mul pf t k]
theorem turn_inj' {S m L : Nat} {T : List Int} {f g : Nat → Nat} (hS : 0 < S) (hL : 0 < L) (hf : ∀ t, f t < S) (hg : ∀ t, g t < S) (pf : ∀ t, f (t + L) = f t) (pg : ∀ t, g (t + L) = g t)
    (h : ∀ i, T.getD (hn S f i (m + 1)) 0 = T.getD (hn S g i (m + 1)) 0) (hno : ∀ k, ¬ TurnAt S (S ^ m) T k) (t : Nat) : f t = g t := by
  have h1 := turn_inj hS hL hf hg pf pg h hno (t + (m * L - m))
  have hm : m ≤ m * L := Nat.le_mul_of_pos_right _ hL
  rw [show t + (m * L - m) + m = t + m * L by omega, per_mul pf, per_mul pg] at h1
  exact h1
end Go.Proofs.YtjjdjdodhedihaaDoor

namespace Go.Proofs.YtjjdjdodhedihaaDoor
set_option linter.unusedVariables false

/-- Each word makes the next. -/
def Makes (g : Nat → List Int) : Prop := ∀ i j, g i = g j → g (i + 1) = g (j + 1)
theorem Makes.add {g : Nat → List Int} (h : Makes g) {i j : Nat} (e : g i = g j) : ∀ d, g (i + d) = g (j + d)
  | 0 => e
  | d + 1 => h _ _ (h.add e d)
/-- Word m is the first that comes again, p steps behind. -/
structure First (g : Nat → List Int) (m p : Nat) : Prop where
  pos : 0 < p
  again : g m = g (m + p)
  ahead : ∀ i j, i < j → j < m + p → g i ≠ g j
theorem First.mul {g : Nat → List Int} {m p : Nat} (h : First g m p) (hg : Makes g) : ∀ k d, g (m + d) = g (m + d + k * p)
  | 0, d => by simp
  | k + 1, d => by
    have h1 := h.mul hg k d
    have h2 := hg.add h.again (d + k * p)
    rw [h1, show m + d + k * p = m + (d + k * p) by omega, h2]
    congr 1
    rw [Nat.add_mul, Nat.one_mul]
    omega
theorem First.low {g : Nat → List Int} {m p : Nat} (h : First g m p) (hg : Makes g) (d : Nat) : g (m + d) = g (m + d % p) := by
  have h1 := h.mul hg (d / p) (d % p)
  rw [h1]
  congr 1
  have := Nat.div_add_mod d p
  rw [Nat.mul_comm] at this
  omega
theorem First.same {g : Nat → List Int} {m p : Nat} (h : First g m p) (hg : Makes g) (d e : Nat) : g (m + d) = g (m + e) ↔ d % p = e % p := by
  have h1 := Nat.mod_lt d h.pos
  have h2 := Nat.mod_lt e h.pos
  rw [h.low hg d, h.low hg e]
  constructor
  · intro q
    rcases Nat.lt_trichotomy (d % p) (e % p) with c | c | c
    · exact absurd q (h.ahead _ _ (by omega) (by omega))
    · exact c
    · exact absurd q.symm (h.ahead _ _ (by omega) (by omega))
  · intro q; rw [q]
theorem First.alone {g : Nat → List Int} {m p : Nat} (h : First g m p) (hg : Makes g) {i j : Nat} (hi : i < m) (hj : i ≠ j) : g i ≠ g j := by
  intro q
  by_cases c : j < m + p
  · rcases Nat.lt_or_gt_of_ne hj with d | d
    · exact h.ahead i j d c q
    · exact h.ahead j i d (by omega) q.symm
  · obtain ⟨d, rfl⟩ : ∃ d, j = m + d := ⟨j - m, by omega⟩
    rw [h.low hg d] at q
    have h1 := Nat.mod_lt d h.pos
    exact h.ahead i _ (by omega) (by omega) q
/-- Where a slow one and a fast one meet. -/
theorem First.meet {g : Nat → List Int} {m p : Nat} (h : First g m p) (hg : Makes g) {n : Nat} (hn : 0 < n) : g n = g (2 * n) ↔ m ≤ n ∧ n % p = 0 := by
  constructor
  · intro q
    have hm : m ≤ n := by
      rcases Nat.lt_or_ge n m with c | c
      · exact absurd q (h.alone hg c (by omega))
      · exact c
    refine ⟨hm, ?_⟩
    obtain ⟨d, rfl⟩ : ∃ d, n = m + d := ⟨n - m, by omega⟩
    rw [show 2 * (m + d) = m + (d + (m + d)) by omega, h.same hg] at q
    have hp := h.pos
    have h1 : (m + d) % p = 0 := by
      have h2 := Nat.sub_mod_eq_zero_of_mod_eq q.symm
      rw [show d + (m + d) - d = m + d by omega] at h2
      exact h2
    exact h1
  · rintro ⟨hm, h0⟩
    obtain ⟨d, rfl⟩ : ∃ d, n = m + d := ⟨n - m, by omega⟩
    rw [show 2 * (m + d) = m + (d + (m + d)) by omega, h.same hg, Nat.add_mod, h0, Nat.add_zero, Nat.mod_mod]
/-- From the start, and from where they met, they meet at m. -/
theorem First.start {g : Nat → List Int} {m p : Nat} (h : First g m p) (hg : Makes g) {n : Nat} (hn : 0 < n) (h0 : n % p = 0) {k : Nat} (hk : k ≤ m) : g k = g (2 * n + k) ↔ k = m := by
  constructor
  · intro q
    rcases Nat.lt_or_ge k m with c | c
    · exact absurd q (h.alone hg c (by omega))
    · omega
  · rintro rfl
    have h1 := (h.same hg 0 (2 * n)).2 (by rw [Nat.two_mul, Nat.add_mod, h0, Nat.zero_mod])
    rw [Nat.add_zero] at h1
    rw [h1, Nat.add_comm]
/-- From there on it takes p steps. -/
theorem First.round {g : Nat → List Int} {m p : Nat} (h : First g m p) (hg : Makes g) {t : Nat} (ht : 0 < t) (hp : t ≤ p) : g m = g (m + t) ↔ t = p := by
  have h1 := h.same hg 0 t
  rw [Nat.add_zero] at h1
  rw [h1, Nat.zero_mod]
  constructor
  · intro q
    rcases Nat.lt_or_ge t p with c | c
    · rw [Nat.mod_eq_of_lt c] at q; omega
    · omega
  · rintro rfl; exact (Nat.mod_self _).symm
theorem First.only {g : Nat → List Int} {m p m' p' : Nat} (h : First g m p) (h' : First g m' p') : m + p = m' + p' ∧ m = m' := by
  have e : m + p = m' + p' := by
    rcases Nat.lt_trichotomy (m + p) (m' + p') with c | c | c
    · exact absurd h.again (h'.ahead _ _ (by have := h.pos; omega) c)
    · exact c
    · exact absurd h'.again (h.ahead _ _ (by have := h'.pos; omega) c)
  refine ⟨e, ?_⟩
  have a := h.again
  have b := h'.again
  have q : g m = g m' := by rw [a, b, e]
  rcases Nat.lt_trichotomy m m' with c | c | c
  · exact absurd q (h.ahead _ _ c (by have := h'.pos; omega))
  · exact c
  · exact absurd q.symm (h.ahead _ _ c (by have := h.pos; omega))
end Go.Proofs.YtjjdjdodhedihaaDoor

namespace Go.Proofs.YtjjdjdodhedihaaDoor
set_option linter.unusedVariables false

/-- A ring's cells, round and round. -/
def ringF (xs : List Int) (t : Nat) : Nat := (xs.getD (t % xs.length) 0).toNat
theorem ringF_per (xs : List Int) (t : Nat) : ringF xs (t + xs.length) = ringF xs t := by unfold ringF; rw [Nat.add_mod_right]
theorem ringF_lt {S : Nat} {xs : List Int} (hok : cellsOk S xs) (h : 0 < xs.length) (t : Nat) : ringF xs t < S := by
  have := cellsOk_at hok (Nat.mod_lt t h)
  unfold ringF
  omega
theorem ringF_rat {S : Nat} {xs : List Int} (hok : cellsOk S xs) (h : 0 < xs.length) {t : Nat} {z : Int} (e : (t : Int) % xs.length = z % xs.length) : rat xs z = ((ringF xs t : Nat) : Int) := by
  have h1 := cellsOk_at hok (Nat.mod_lt t h)
  unfold rat ringF
  rw [← e, ← Int.natCast_emod, Int.toNat_natCast]
  omega
theorem hn_perk {S L : Nat} {f : Nat → Nat} (hp : ∀ t, f (t + L) = f t) (i m : Nat) : ∀ k, hn S f (i + k * L) m = hn S f i m
  | 0 => by simp
  | k + 1 => by rw [Nat.add_mul, Nat.one_mul, ← Nat.add_assoc, hn_per hp, hn_perk hp i m k]
theorem wn_hn {S R : Nat} {xs : List Int} (hok : cellsOk S xs) (h : 0 < xs.length) {j i : Nat} (e : i + R = j + R * xs.length) :
    ∀ m, wn (S : Int) (fun d => rat xs ((j : Int) + d - R)) 0 m = ((hn S (ringF xs) i m : Nat) : Int)
  | 0 => rfl
  | m + 1 => by
    rw [wn, wn_hn hok h e m, hn, ringF_rat hok h (t := i + m) (by
      have e' : ((i + m : Nat) : Int) = ((j : Int) + (0 + m : Nat) - R) + R * (xs.length : Int) := by
        have : (i : Int) + R = j + (R * xs.length : Nat) := by omega
        push_cast at this ⊢
        omega
      rw [e', Int.add_mul_emod_self_right])]
    push_cast
    rfl
theorem same_windows {S R : Nat} {T xs ys : List Int} (hx : cellsOk S xs) (hy : cellsOk S ys) (hl : xs.length = ys.length) (h0 : 0 < xs.length) (e : stepL S R T xs = stepL S R T ys) (i : Nat) :
    T.getD (hn S (ringF xs) i (2 * R + 1)) 0 = T.getD (hn S (ringF ys) i (2 * R + 1)) 0 := by
  obtain ⟨j, hj⟩ : ∃ j, (i + R) % xs.length = j := ⟨_, rfl⟩
  obtain ⟨q, hq⟩ : ∃ q, (i + R) / xs.length = q := ⟨_, rfl⟩
  have jl : j < xs.length := by rw [← hj]; exact Nat.mod_lt _ h0
  have eq : i + R = q * xs.length + j := by rw [← hj, ← hq, Nat.mul_comm]; exact (Nat.div_add_mod _ _).symm
  have hR : R ≤ R * xs.length := Nat.le_mul_of_pos_right _ h0
  obtain ⟨i', hi'⟩ : ∃ i', i' + R = j + R * xs.length := ⟨j + R * xs.length - R, by omega⟩
  have ei : i + R * xs.length = i' + q * xs.length := by omega
  have a1 : hn S (ringF xs) i (2 * R + 1) = hn S (ringF xs) i' (2 * R + 1) := by
    rw [← hn_perk (ringF_per xs) i _ R, ei, hn_perk (ringF_per xs)]
  have a2 : hn S (ringF ys) i (2 * R + 1) = hn S (ringF ys) i' (2 * R + 1) := by
    rw [← hn_perk (ringF_per ys) i _ R, ← hl, ei, hl, hn_perk (ringF_per ys)]
  have e1 : (stepL S R T xs).getD j 0 = (stepL S R T ys).getD j 0 := by rw [e]
  rw [stepL, stepL] at e1
  rw [List.getD_eq_getElem?_getD, List.getD_eq_getElem?_getD, List.getElem?_map, List.getElem?_map, List.getElem?_range jl, List.getElem?_range (by omega)] at e1
  simp only [Option.map_some, Option.getD_some] at e1
  rw [wn_hn hx h0 hi', wn_hn hy (by omega) (by rw [← hl]; exact hi'), Int.toNat_natCast, Int.toNat_natCast] at e1
  rw [a1, a2]
  exact e1
theorem step_inj {S R : Nat} {T xs ys : List Int} (hS : 0 < S) (hx : cellsOk S xs) (hy : cellsOk S ys) (hl : xs.length = ys.length) (hno : ∀ k, ¬ TurnAt S (S ^ (2 * R)) T k) (e : stepL S R T xs = stepL S R T ys) : xs = ys := by
  rcases Nat.eq_zero_or_pos xs.length with h0 | h0
  · rw [List.length_eq_zero_iff.1 h0, List.length_eq_zero_iff.1 (show ys.length = 0 by omega)]
  · have h := turn_inj' hS h0 (ringF_lt hx h0) (ringF_lt hy (by omega)) (ringF_per xs) (by rw [hl]; exact ringF_per ys) (same_windows hx hy hl h0 e) hno
    apply List.ext_getElem hl
    intro t h1 h2
    have := h t
    have a := hx _ (List.getElem_mem h1)
    have b := hy _ (List.getElem_mem h2)
    unfold ringF at this
    rw [Nat.mod_eq_of_lt h1, Nat.mod_eq_of_lt h2, List.getD_eq_getElem?_getD, List.getD_eq_getElem?_getD, List.getElem?_eq_getElem h1, List.getElem?_eq_getElem h2] at this
    simp only [Option.getD_some] at this
    omega
end Go.Proofs.YtjjdjdodhedihaaDoor

namespace Go.Proofs.YtjjdjdodhedihaaDoor
set_option linter.unusedVariables false

/-- The pair of places behind t cells. -/
def plG (S n : Nat) (f g : Nat → Nat) (u : Nat × Nat) : Nat → Nat × Nat
  | 0 => u
  | t + 1 => stepP S n (plG S n f g u t) (f t, g t)
theorem plG_take {S n : Nat} {f g : Nat → Nat} {u : Nat × Nat} (full : List (Nat × Nat)) (h : ∀ t (ht : t < full.length), full[t] = (f t, g t)) : ∀ t, t ≤ full.length → plG S n f g u t = endP S n u (full.take t)
  | 0, _ => by simp [plG, endP]
  | t + 1, ht => by
    rw [plG, plG_take full h t (by omega), List.take_succ_eq_append_getElem (by omega), endP_append, h t (by omega)]
    rfl
theorem okP_at {S n : Nat} {T : List Int} {u : Nat × Nat} {full : List (Nat × Nat)} (h : okP S n T u full) {t : Nat} (ht : t < full.length) : OkWay S T (endP S n u (full.take t)) full[t] := by
  rw [show full = full.take t ++ (full[t] :: full.drop (t + 1)) by rw [← List.drop_eq_getElem_cons ht, List.take_append_drop], okP_append] at h
  exact h.2.1
theorem plG_per {S n L : Nat} {f g : Nat → Nat} {u : Nat × Nat} (pf : ∀ t, f (t + L) = f t) (pg : ∀ t, g (t + L) = g t) (h : plG S n f g u L = u) : ∀ t, plG S n f g u (t + L) = plG S n f g u t
  | 0 => by rw [Nat.zero_add, h]; rfl
  | t + 1 => by rw [show t + 1 + L = t + L + 1 by omega, plG, plG, plG_per pf pg h t, pf, pg]
theorem plG_perk {S n L : Nat} {f g : Nat → Nat} {u : Nat × Nat} (pf : ∀ t, f (t + L) = f t) (pg : ∀ t, g (t + L) = g t) (h : plG S n f g u L = u) (t : Nat) : ∀ k, plG S n f g u (t + k * L) = plG S n f g u t
  | 0 => by simp
  | k + 1 => by rw [Nat.add_mul, Nat.one_mul, ← Nat.add_assoc, plG_per pf pg h, plG_perk pf pg h t k]
theorem mod_step (a S c n : Nat) : (a % n * S + c) % n = (a * S + c) % n := by
  rw [Nat.add_mod, Nat.mod_mul_mod, ← Nat.add_mod]
theorem plG_far {S n : Nat} {f g : Nat → Nat} {u : Nat × Nat} (t : Nat) : ∀ k, plG S n f g u (t + (k + 1)) = (((plG S n f g u t).1 * S ^ (k + 1) + hn S f t (k + 1)) % n, ((plG S n f g u t).2 * S ^ (k + 1) + hn S g t (k + 1)) % n)
  | 0 => by
    show stepP S n (plG S n f g u t) (f t, g t) = _
    simp [stepP, hn]
  | k + 1 => by
    show stepP S n (plG S n f g u (t + (k + 1))) (f (t + (k + 1)), g (t + (k + 1))) = _
    rw [plG_far t k]
    unfold stepP
    simp only
    rw [mod_step, mod_step, show hn S f t (k + 1 + 1) = hn S f t (k + 1) * S + f (t + (k + 1)) from rfl, show hn S g t (k + 1 + 1) = hn S g t (k + 1) * S + g (t + (k + 1)) from rfl, Nat.add_mul, Nat.add_mul, Nat.mul_assoc, Nat.mul_assoc, ← Nat.pow_succ, Nat.add_assoc, Nat.add_assoc]
theorem plG_at {S m : Nat} {f g : Nat → Nat} {u : Nat × Nat} (hf : ∀ t, f t < S) (hg : ∀ t, g t < S) (hu : u.1 < S ^ m ∧ u.2 < S ^ m) (t : Nat) (hS : 0 < S) : plG S (S ^ m) f g u (t + m) = (hn S f t m, hn S g t m) := by
  cases m with
  | zero =>
    have : ∀ v : Nat × Nat, v.1 < 1 → v.2 < 1 → v = (0, 0) := fun v h1 h2 => Prod.ext (by simp; omega) (by simp; omega)
    show plG S (S ^ 0) f g u t = (0, 0)
    cases t with
    | zero => exact this u (by simpa using hu.1) (by simpa using hu.2)
    | succ t =>
      have hl := stepP_lt (S := S) (n := S ^ 0) (by simp) (plG S (S ^ 0) f g u t) (f t, g t)
      exact this (stepP S (S ^ 0) (plG S (S ^ 0) f g u t) (f t, g t)) (Nat.lt_of_lt_of_eq hl.1 (Nat.pow_zero S)) (Nat.lt_of_lt_of_eq hl.2 (Nat.pow_zero S))
  | succ m =>
    rw [plG_far t m, Nat.mul_comm, Nat.mul_add_mod, Nat.mod_eq_of_lt (hn_lt hf _ _), Nat.mul_comm, Nat.mul_add_mod, Nat.mod_eq_of_lt (hn_lt hg _ _)]
theorem same_step {S R : Nat} {T xs ys : List Int} (hx : cellsOk S xs) (hy : cellsOk S ys) (hl : xs.length = ys.length) (h : ∀ i, T.getD (hn S (ringF xs) i (2 * R + 1)) 0 = T.getD (hn S (ringF ys) i (2 * R + 1)) 0) : stepL S R T xs = stepL S R T ys := by
  unfold stepL
  rw [← hl]
  apply List.map_congr_left
  intro j hj
  have jl := List.mem_range.1 hj
  have h0 : 0 < xs.length := by omega
  have hR : R ≤ R * xs.length := Nat.le_mul_of_pos_right _ h0
  obtain ⟨i', hi'⟩ : ∃ i', i' + R = j + R * xs.length := ⟨j + R * xs.length - R, by omega⟩
  rw [wn_hn hx h0 hi', wn_hn hy (by omega) (by rw [← hl]; exact hi'), Int.toNat_natCast, Int.toNat_natCast]
  exact h i'
theorem ring_rings {S R : Nat} {T : List Int} {u : Nat × Nat} {full : List (Nat × Nat)} (hS : 0 < S) (h : IsRing S (S ^ (2 * R)) T u full) :
    cellsOk S (full.map fun y => (y.1 : Int)) ∧ cellsOk S (full.map fun y => (y.2 : Int)) ∧ stepL S R T (full.map fun y => (y.1 : Int)) = stepL S R T (full.map fun y => (y.2 : Int)) ∧ (full.map fun y => (y.1 : Int)) ≠ (full.map fun y => (y.2 : Int)) := by
  obtain ⟨h1, h2, h3, ⟨cs, d, e, hw⟩, _⟩ := h
  obtain ⟨q1, q2⟩ := wantRf_is.1 hw
  have hL : 0 < full.length := by rw [e]; simp
  have hin : ∀ y ∈ full, y.1 < S ∧ y.2 < S := fun y hy => by
    obtain ⟨t, ht, rfl⟩ := List.getElem_of_mem hy
    have := okP_at h3 ht
    exact ⟨this.1, this.2.1⟩
  have ox : cellsOk S (full.map fun y => (y.1 : Int)) := fun z hz => by
    obtain ⟨y, hy, rfl⟩ := List.mem_map.1 hz
    have := hin y hy
    omega
  have oy : cellsOk S (full.map fun y => (y.2 : Int)) := fun z hz => by
    obtain ⟨y, hy, rfl⟩ := List.mem_map.1 hz
    have := hin y hy
    omega
  obtain ⟨xs, hxs⟩ : ∃ xs : List Int, (full.map fun y => (y.1 : Int)) = xs := ⟨_, rfl⟩
  obtain ⟨ys, hys⟩ : ∃ ys : List Int, (full.map fun y => (y.2 : Int)) = ys := ⟨_, rfl⟩
  have lx : xs.length = full.length := by rw [← hxs]; simp
  have ly : ys.length = full.length := by rw [← hys]; simp
  have hfg : ∀ t (ht : t < full.length), full[t] = (ringF xs t, ringF ys t) := fun t ht => by
    unfold ringF
    rw [lx, ly, Nat.mod_eq_of_lt ht, ← hxs, ← hys]
    simp [List.getD, ht]
  rw [hxs] at ox ⊢
  rw [hys] at oy ⊢
  have hf := ringF_lt ox (by omega : 0 < xs.length)
  have hg := ringF_lt oy (by omega : 0 < ys.length)
  have pf : ∀ t, ringF xs (t + full.length) = ringF xs t := by rw [← lx]; exact ringF_per xs
  have pg : ∀ t, ringF ys (t + full.length) = ringF ys t := by rw [← ly]; exact ringF_per ys
  have hu : plG S (S ^ (2 * R)) (ringF xs) (ringF ys) u full.length = u := by
    rw [plG_take full hfg _ (Nat.le_refl _), List.take_length, e, endP_append]
    exact q1
  have hway : ∀ t, OkWay S T (plG S (S ^ (2 * R)) (ringF xs) (ringF ys) u t) (ringF xs t, ringF ys t) := fun t => by
    have ht := Nat.mod_lt t hL
    have et : t % full.length + t / full.length * full.length = t := by rw [Nat.mul_comm]; exact Nat.mod_add_div t full.length
    rw [← et, plG_perk pf pg hu, per_mul pf, per_mul pg, plG_take full hfg _ (by omega), ← hfg _ ht]
    exact okP_at h3 ht
  refine ⟨ox, oy, same_step ox oy (by omega) fun i => ?_, fun q => ?_⟩
  · have := (hway (i + 2 * R)).2.2
    rw [plG_at hf hg ⟨by omega, h2⟩ i hS] at this
    exact this
  · have hl : cs.length < full.length := by rw [e]; simp
    have := hfg cs.length hl
    rw [q] at this
    have ed : full[cs.length] = d := by simp [e]
    rw [ed] at this
    exact q2 (by rw [this])
end Go.Proofs.YtjjdjdodhedihaaDoor

