/-
  What the last text of this claim leans on, part 41: Sa1.
-/
import Derived.Test.YtdhbdkkchobinaaJz40
namespace Go.Proofs.Ytdhbdkkchobinaa
set_option linter.unusedVariables false

/-- What a window changes: what becomes of it, without its first cell. -/
def chg (n : Nat) (T wt : List Int) (w : Nat) : Int := wt.getD (T.getD w 0).toNat 0 - wt.getD (w / n) 0
/-- There are heights by which each window changes as much as it leads upwards. -/
def KeepsP (S n : Nat) (T wt : List Int) : Prop := ∃ h : Nat → Int, ∀ w, w < T.length → chg n T wt w = h (w % n) - h (w / S)
/-- Heights, laid up to a place. -/
structure HtUpto (S n : Nat) (T wt hs : List Int) (k : Nat) : Prop where
  len : hs.length = n
  zero : hs.getD 0 0 = 0
  up : ∀ j, 0 < j → j < k → hs.getD j 0 = hs.getD (j / S) 0 + chg n T wt j
theorem HtUpto.put {S n : Nat} {T wt hs : List Int} {k : Nat} (h : HtUpto S n T wt hs k) (hS : 2 ≤ S) (h0 : 0 < k) (hk : k < n) : HtUpto S n T wt (hs.set k (hs.getD (k / S) 0 + chg n T wt k)) (k + 1) := by
  have l := h.len
  have at_ne : ∀ (j : Nat) (v : Int), j ≠ k → (hs.set k v).getD j 0 = hs.getD j 0 := fun j v hj => by
    simp [List.getD, Ne.symm hj]
  refine ⟨by simp [l], by rw [at_ne _ _ (by omega)]; exact h.zero, fun j j0 jk => ?_⟩
  have hd : j / S < j := Nat.div_lt_self j0 (by omega)
  rw [at_ne (j / S) _ (by omega)]
  by_cases e : j = k
  · subst e
    simp [List.getD, l, hk]
  · rw [at_ne _ _ e]
    exact h.up j j0 (by omega)
/-- Heights are what they are: another potential has the same. -/
theorem heights_only {S n : Nat} {T wt hs : List Int} (h : HtUpto S n T wt hs n) (hS : 2 ≤ S) (hn : n ≤ T.length) {g : Nat → Int} (hg : ∀ w, w < T.length → chg n T wt w = g (w % n) - g (w / S)) :
    ∀ j, j < n → hs.getD j 0 = g j - g 0 := by
  intro j
  induction j using Nat.strongRecOn with
  | ind j ih =>
    intro hj
    rcases Nat.eq_zero_or_pos j with z | z
    · subst z; rw [h.zero]; omega
    · have hd : j / S < j := Nat.div_lt_self z (by omega)
      rw [h.up j z hj, ih (j / S) hd (by omega), hg j (by omega), Nat.mod_eq_of_lt hj]
      omega
theorem keeps_no {S n : Nat} {T wt hs : List Int} (h : HtUpto S n T wt hs n) (hS : 2 ≤ S) (hT : T.length = n * S) (n0 : 0 < n) {w : Nat} (hw : w < T.length) (hne : chg n T wt w ≠ hs.getD (w % n) 0 - hs.getD (w / S) 0) : ¬ KeepsP S n T wt := by
  rintro ⟨g, hg⟩
  have hn : n ≤ T.length := by rw [hT]; exact Nat.le_mul_of_pos_right _ (by omega)
  have a := heights_only h hS hn hg
  have d : w / S < n := Nat.div_lt_of_lt_mul (by rw [Nat.mul_comm, ← hT]; exact hw)
  rw [a _ (Nat.mod_lt _ n0), a _ d] at hne
  have := hg w hw
  omega
theorem keeps_yes {S n : Nat} {T wt hs : List Int} (h : ∀ w, w < T.length → chg n T wt w = hs.getD (w % n) 0 - hs.getD (w / S) 0) : KeepsP S n T wt := ⟨fun j => hs.getD j 0, h⟩
theorem chg_bound {n M : Nat} {T wt : List Int} (hw : ∀ i, -(M : Int) ≤ wt.getD i 0 ∧ wt.getD i 0 ≤ (M : Int)) (w : Nat) : -(2 * M : Int) ≤ chg n T wt w ∧ chg n T wt w ≤ (2 * M : Int) := by
  unfold chg
  have a := hw (T.getD w 0).toNat
  have b := hw (w / n)
  omega
/-- No height is great. -/
theorem HtUpto.bound {S n k : Nat} {T wt hs : List Int} (h : HtUpto S n T wt hs k) (hS : 2 ≤ S) (hw : ∀ i, -(1000 : Int) ≤ wt.getD i 0 ∧ wt.getD i 0 ≤ 1000) : ∀ j, j < k → -(2000 * j : Int) ≤ hs.getD j 0 ∧ hs.getD j 0 ≤ (2000 * j : Int) := by
  intro j
  induction j using Nat.strongRecOn with
  | ind j ih =>
    intro hj
    rcases Nat.eq_zero_or_pos j with z | z
    · subst z; rw [h.zero]; omega
    · have hd : j / S < j := Nat.div_lt_self z (by omega)
      have a := ih (j / S) hd (by omega)
      have b := chg_bound (n := n) (M := 1000) (T := T) (by simpa using hw) j
      have c : j / S + 1 ≤ j := by omega
      rw [h.up j z hj]
      have : ((1000 : Nat) : Int) = 1000 := rfl
      rw [this] at b
      omega

def sumF (f : Nat → Int) : Nat → Int
  | 0 => 0
  | m + 1 => sumF f m + f m
theorem sumF_ext {f g : Nat → Int} : ∀ m, (∀ i, i < m → f i = g i) → sumF f m = sumF g m
  | 0, _ => rfl
  | m + 1, h => by rw [sumF, sumF, sumF_ext m (fun i hi => h i (by omega)), h m (by omega)]
theorem sumF_sub (f g : Nat → Int) : ∀ m, sumF (fun i => f i - g i) m = sumF f m - sumF g m
  | 0 => rfl
  | m + 1 => by rw [sumF, sumF, sumF, sumF_sub f g m]; omega
theorem sumF_tel (f : Nat → Int) : ∀ m, sumF (fun i => f (i + 1) - f i) m = f m - f 0
  | 0 => by rw [sumF]; omega
  | m + 1 => by rw [sumF, sumF_tel f m]; omega
theorem sumF_shift (f : Nat → Int) : ∀ m, sumF (fun i => f (i + 1)) m = sumF f m + f m - f 0
  | 0 => by rw [sumF, sumF]; omega
  | m + 1 => by rw [sumF, sumF_shift f m, sumF]; omega
/-- Round a ring a sum is the same wherever it begins. -/
theorem sumF_turn {f : Nat → Int} {L : Nat} (hp : ∀ t, f (t + L) = f t) : ∀ R, sumF (fun i => f (i + R)) L = sumF f L
  | 0 => rfl
  | R + 1 => by
    have h := sumF_shift (fun i => f (i + R)) L
    have e : f (L + R) = f (0 + R) := by rw [Nat.add_comm L R, Nat.zero_add]; exact hp R
    rw [sumF_turn hp R] at h
    have e2 : sumF (fun i => f (i + (R + 1))) L = sumF (fun i => f (i + 1 + R)) L := sumF_ext L (fun i _ => by rw [show i + (R + 1) = i + 1 + R by omega])
    rw [e2]
    simp only [e] at h
    omega
/-- What a word weighs. -/
def weighF (xs wt : List Int) (m : Nat) : Int := sumF (fun i => wt.getD (xs.getD i 0).toNat 0) m
/-- What is kept is kept. -/
theorem kept {S R : Nat} {T xs wt : List Int} (hS : 0 < S) (hT : T.length = S ^ (2 * R + 1)) (hx : cellsOk S xs) (hk : KeepsP S (S ^ (2 * R)) T wt) : weighF (stepL S R T xs) wt xs.length = weighF xs wt xs.length := by
  rcases Nat.eq_zero_or_pos xs.length with h0 | h0
  · rw [h0]; rfl
  · obtain ⟨h, hh⟩ := hk
    have hf := ringF_lt hx h0
    have ls : (stepL S R T xs).length = xs.length := stepL_length ..
    have a1 : weighF xs wt xs.length = sumF (fun i => wt.getD (ringF xs i) 0) xs.length := sumF_ext _ fun i hi => by simp only [ringF, Nat.mod_eq_of_lt hi]
    have a2 : weighF (stepL S R T xs) wt xs.length = sumF (fun i => wt.getD (ringF (stepL S R T xs) i) 0) xs.length := sumF_ext _ fun i hi => by simp only [ringF, ls, Nat.mod_eq_of_lt hi]
    have p2 : ∀ t, (fun i => wt.getD (ringF (stepL S R T xs) i) 0) (t + xs.length) = (fun i => wt.getD (ringF (stepL S R T xs) i) 0) t := fun t => by
      show wt.getD (ringF _ (t + xs.length)) 0 = wt.getD (ringF _ t) 0
      rw [← ls, ringF_per]
    have a3 := sumF_turn (f := fun i => wt.getD (ringF (stepL S R T xs) i) 0) (L := xs.length) p2 R
    have a4 : sumF (fun i => (fun i => wt.getD (ringF (stepL S R T xs) (i + R)) 0) i - (fun i => wt.getD (ringF xs i) 0) i) xs.length = sumF (fun i => (fun i => h (hn S (ringF xs) i (2 * R))) (i + 1) - (fun i => h (hn S (ringF xs) i (2 * R))) i) xs.length := sumF_ext _ fun i _ => by
      have q := hh (hn S (ringF xs) i (2 * R + 1)) (by rw [hT]; exact hn_lt hf _ _)
      have e1 : hn S (ringF xs) i (2 * R + 1) / S ^ (2 * R) = ringF xs i := by
        rw [show 2 * R + 1 = 1 + 2 * R by omega, hn_div hS hf]; simp [hn]
      have e2 : hn S (ringF xs) i (2 * R + 1) % S ^ (2 * R) = hn S (ringF xs) (i + 1) (2 * R) := by
        rw [show 2 * R + 1 = 1 + 2 * R by omega, hn_mod hf]
      have e3 : hn S (ringF xs) i (2 * R + 1) / S = hn S (ringF xs) i (2 * R) := by
        have := hn_div hS hf i (2 * R) 1
        rwa [Nat.pow_one] at this
      unfold chg at q
      rw [e1, e2, e3] at q
      show wt.getD (ringF (stepL S R T xs) (i + R)) 0 - wt.getD (ringF xs i) 0 = h (hn S (ringF xs) (i + 1) (2 * R)) - h (hn S (ringF xs) i (2 * R))
      rw [ringF_step hx h0]
      exact q
    have a6 := sumF_tel (fun i => h (hn S (ringF xs) i (2 * R))) xs.length
    rw [sumF_sub, a6] at a4
    have a5 : hn S (ringF xs) xs.length (2 * R) = hn S (ringF xs) 0 (2 * R) := by
      have := hn_per (S := S) (ringF_per xs) 0 (2 * R)
      rwa [Nat.zero_add] at this
    rw [a1, a2]
    simp only [a5] at a4
    omega
theorem weighF_bound {xs wt : List Int} {M : Int} (h0 : 0 ≤ M) (hw : ∀ i, -M ≤ wt.getD i 0 ∧ wt.getD i 0 ≤ M) : ∀ m : Nat, -(m * M) ≤ weighF xs wt m ∧ weighF xs wt m ≤ m * M
  | 0 => by simp [weighF, sumF]
  | m + 1 => by
    have a := weighF_bound (xs := xs) h0 hw m
    have b := hw (xs.getD m 0).toNat
    unfold weighF at a ⊢
    rw [sumF]
    have : ((m + 1 : Nat) : Int) * M = m * M + M := by rw [Int.natCast_add, Int.add_mul]; simp
    rw [this]
    omega
end Go.Proofs.Ytdhbdkkchobinaa

