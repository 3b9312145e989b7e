/-
  What the last text of this claim leans on, part 28: Ge2.
-/
import Derived.Test.YtjjdjdodhedihaaDoorJs27
import Derived.Test.YtjjdjdodhedihaaDoorJs20
namespace Go.Proofs.YtjjdjdodhedihaaDoor
set_option linter.unusedVariables false

/-- Of a sum whose numbers the prime divides nothing becomes 1. -/
theorem sum_orphan {S R p : Nat} {T : List Int} (hL : LineOk S R T) (hlin : LinP S R T) (hp : PrmS S p) (hc : cntP p (fun i => (numL S R T).getD i 0) (2 * R + 1) = 0) : cntN S (S ^ (2 * R)) T [1] = 0 := by
  have hd := cntP_zero _ hc
  have ne : ∀ j, j < S ^ (2 * R) * S → T.getD j 0 ≠ 1 := fun j hj e => by
    have hl : j < T.length := by rw [hL.len, Nat.pow_succ]; exact hj
    have h := hlin j hl
    rw [e] at h
    have h1 : (p : Int) ∣ sumF (addF S (2 * R + 1) (numL S R T) j) (2 * R + 1) := sumF_dvd _ (fun i hi => Int.dvd_mul_of_dvd_left (hd i hi))
    obtain ⟨z, hz⟩ := h1
    rw [hz] at h
    rcases hp with ⟨rfl, rfl⟩ | ⟨rfl, rfl⟩ | ⟨rfl, rfl⟩ <;> omega
  unfold cntN
  rw [sumN_ext (g := fun _ => 0) _, sumN_zero]
  intro q _
  show stp S (S ^ (2 * R)) T 1 one1 q = 0
  unfold stp
  rw [sumN_ext (g := fun _ => 0) _, sumN_zero]
  intro j hj
  rw [if_neg (fun k => ne j hj k.1)]
/-- The difference of two rings of which the same becomes. -/
theorem ring_diff {S R : Nat} {T xs ys : List Int} (hL : LineOk S R T) (hlin : LinP S R T) (hx : cellsOk S xs) (hy : cellsOk S ys) (hl : xs.length = ys.length) (h0 : 0 < xs.length) (e : stepL S R T xs = stepL S R T ys) (j : Int) :
    (S : Int) ∣ sumF (fun i => (numL S R T).getD i 0 * (rat xs (j + ((i : Int) - R)) - rat ys (j + ((i : Int) - R)))) (2 * R + 1) := by
  have s2 := hL.s2
  rw [step_sum hL hx hlin, step_sum hL hy hlin] at e
  obtain ⟨a, ha⟩ := rat_stepA (S := S) (R := R) (a := 1) (cs := numL S R T) (xs := xs) (by omega) h0 j
  obtain ⟨b, hb⟩ := rat_stepA (S := S) (R := R) (a := 1) (cs := numL S R T) (xs := ys) (by omega) (by omega) j
  rw [e] at ha
  have h : opF (coefF (numL S R T)) (shF R 1) (2 * R + 1) (rat xs) j - opF (coefF (numL S R T)) (shF R 1) (2 * R + 1) (rat ys) j = S * (b - a) := by
    rw [Int.mul_sub]; omega
  refine ⟨b - a, ?_⟩
  rw [← h]
  unfold opF
  rw [← sumF_sub]
  apply sumF_ext
  intro i _
  have e1 : shF R 1 i = (i : Int) - R := by unfold shF; simp
  rw [e1]
  unfold coefF
  exact Int.mul_sub _ _ _
/-- One number alone: each cell of the difference is divided. -/
theorem one_dvd {p K i0 R : Nat} {c : Nat → Int} {u : Int → Int} (hp : p = 2 ∨ p = 3) (hi : i0 < K) (h1 : ¬ (p : Int) ∣ c i0) (h2 : ∀ k, k < K → k ≠ i0 → (p : Int) ∣ c k) (hs : ∀ j : Int, (p : Int) ∣ sumF (fun i => c i * u (j + ((i : Int) - R))) K) (t : Int) : (p : Int) ∣ u t := by
  have := sumF_one (k := i0) K hi (fun i hi' hn => Int.dvd_mul_of_dvd_left (h2 i hi' hn)) (hs (t - ((i0 : Int) - R)))
  have e : t - ((i0 : Int) - R) + ((i0 : Int) - R) = t := by omega
  rw [e] at this
  exact prime23 hp this h1
theorem sum_one {S R p : Nat} {T xs ys : List Int} (hL : LineOk S R T) (hlin : LinP S R T) (hp : PrmS S p) (hc : cntP p (fun i => (numL S R T).getD i 0) (2 * R + 1) = 1) (hx : cellsOk S xs) (hy : cellsOk S ys) (hl : xs.length = ys.length) (e : stepL S R T xs = stepL S R T ys) : xs = ys := by
  rcases Nat.eq_zero_or_pos xs.length with h0 | h0
  · have hy0 : ys.length = 0 := by omega
    rw [List.length_eq_zero_iff.1 h0, List.length_eq_zero_iff.1 hy0]
  · obtain ⟨i0, hi, h1, h2, h3⟩ := cntP_last _ (by rw [hc]; exact Nat.one_pos)
    have h4 := cntP_zero (p := p) (c := fun i => (numL S R T).getD i 0) i0 (by omega)
    have h5 : ∀ k, k < 2 * R + 1 → k ≠ i0 → (p : Int) ∣ (numL S R T).getD k 0 := fun k hk hn => by
      rcases Nat.lt_or_ge k i0 with q | q
      · exact h4 k q
      · exact h2 k (by omega) hk
    have hd := ring_diff hL hlin hx hy hl h0 e
    have bd : ∀ t, -(S : Int) < rat xs t - rat ys t ∧ rat xs t - rat ys t < S := fun t => by
      have a := rat_ok hx h0 t
      have b := rat_ok hy (by omega) t
      omega
    have small : ∀ {x : Int}, (S : Int) ∣ x → -(S : Int) < x → x < S → x = 0 := fun {x} hd a b => by
      obtain ⟨z, rfl⟩ := hd
      rcases hp with ⟨rfl, _⟩ | ⟨rfl, _⟩ | ⟨rfl, _⟩ <;> omega
    have zero : ∀ t, rat xs t - rat ys t = 0 := by
      rcases hp with ⟨rfl, rfl⟩ | ⟨rfl, rfl⟩ | ⟨rfl, rfl⟩
      · exact fun t => small (one_dvd (u := fun t => rat xs t - rat ys t) (Or.inl rfl) hi h1 h5 hd t) (bd t).1 (bd t).2
      · exact fun t => small (one_dvd (u := fun t => rat xs t - rat ys t) (Or.inr rfl) hi h1 h5 hd t) (bd t).1 (bd t).2
      · have e1 := one_dvd (p := 2) (u := fun t => rat xs t - rat ys t) (Or.inl rfl) hi h1 h5 (fun j => Int.dvd_trans ⟨2, rfl⟩ (hd j))
        have ez : ∀ t, rat xs t - rat ys t = 2 * ((rat xs t - rat ys t) / 2) := fun t => by
          obtain ⟨z, hz⟩ := e1 t
          have hz' : rat xs t - rat ys t = ((2 : Nat) : Int) * z := hz
          omega
        have hd2 : ∀ j : Int, ((2 : Nat) : Int) ∣ sumF (fun i => (numL 4 R T).getD i 0 * ((rat xs (j + ((i : Int) - R)) - rat ys (j + ((i : Int) - R))) / 2)) (2 * R + 1) := fun j => by
          have := hd j
          rw [sumF_ext (g := fun i => 2 * ((numL 4 R T).getD i 0 * ((rat xs (j + ((i : Int) - R)) - rat ys (j + ((i : Int) - R))) / 2))) (2 * R + 1) (fun i _ => by
            have := ez (j + ((i : Int) - R))
            rw [Int.mul_left_comm, ← this]), sumF_mulL] at this
          obtain ⟨z, hz⟩ := this
          exact ⟨z, by omega⟩
        have e3 := one_dvd (p := 2) (u := fun t => (rat xs t - rat ys t) / 2) (Or.inl rfl) hi h1 h5 hd2
        intro t
        obtain ⟨z, hz⟩ := e3 t
        have hz' : (rat xs t - rat ys t) / 2 = ((2 : Nat) : Int) * z := hz
        have := ez t
        exact small ⟨z, by omega⟩ (bd t).1 (bd t).2
    apply List.ext_getElem hl
    intro t t1 t2
    have := zero (t : Int)
    rw [rat_mid xs t1, rat_mid ys t2] at this
    simp [List.getD, t1, t2] at this
    omega
/-- A ring that is not nothing, and of which nothing becomes: the sum does not tell rings apart. -/
theorem sum_kernel {S R : Nat} {T xs : List Int} (hL : LineOk S R T) (hlin : LinP S R T) (hx : cellsOk S xs) (h0 : 0 < xs.length) (hk : ∀ j : Int, (S : Int) ∣ sumF (fun i => (numL S R T).getD i 0 * rat xs (j + ((i : Int) - R))) (2 * R + 1)) (hne : ∃ t, t < xs.length ∧ xs.getD t 0 ≠ 0) : ¬ ∀ k, ¬ TurnAt S (S ^ (2 * R)) T k := fun hno => by
  have s2 := hL.s2
  have hz : cellsOk S (List.replicate xs.length 0) := fun x hx => by
    rw [List.eq_of_mem_replicate hx]
    omega
  have ratz : ∀ t, rat (List.replicate xs.length 0) t = 0 := fun t => by
    unfold rat
    rw [List.getD_eq_getElem?_getD, List.getElem?_replicate]
    split <;> rfl
  have e : stepL S R T xs = stepL S R T (List.replicate xs.length 0) := by
    rw [step_sum hL hx hlin, step_sum hL hz hlin]
    unfold stepA
    rw [List.length_replicate]
    apply List.map_congr_left
    intro j _
    have a : opF (coefF (numL S R T)) (shF R 1) (2 * R + 1) (rat xs) (j : Int) % S = 0 := by
      apply Int.emod_eq_zero_of_dvd
      have := hk (j : Int)
      unfold opF
      rw [sumF_ext (g := fun i => (numL S R T).getD i 0 * rat xs ((j : Int) + ((i : Int) - R))) _ (fun i _ => by
        have e1 : shF R 1 i = (i : Int) - R := by unfold shF; simp
        rw [e1]; rfl)]
      exact this
    have b : opF (coefF (numL S R T)) (shF R 1) (2 * R + 1) (rat (List.replicate xs.length 0)) (j : Int) % S = 0 := by
      unfold opF
      rw [sumF_ext (g := fun _ => 0) _ (fun i _ => by rw [ratz, Int.mul_zero])]
      apply Int.emod_eq_zero_of_dvd
      exact sumF_dvd _ (fun i _ => Int.dvd_zero _)
    rw [a, b]
  have := step_inj (by omega) hx hz (by simp) hno e
  obtain ⟨t, h1, h2⟩ := hne
  rw [this] at h2
  apply h2
  rw [List.getD_eq_getElem?_getD, List.getElem?_replicate]
  split <;> rfl
theorem sum_none {S R p : Nat} {T : List Int} (hL : LineOk S R T) (hlin : LinP S R T) (hp : PrmS S p) (hc : cntP p (fun i => (numL S R T).getD i 0) (2 * R + 1) = 0) : ¬ ∀ k, ¬ TurnAt S (S ^ (2 * R)) T k := by
  have hd := cntP_zero _ hc
  have ratc : ∀ (x : Int) t, rat [x] t = x := fun x t => by
    unfold rat
    simp
  rcases hp with ⟨rfl, rfl⟩ | ⟨rfl, rfl⟩ | ⟨rfl, rfl⟩
  · exact sum_kernel (xs := [1]) hL hlin (fun x hx => by rw [List.mem_singleton.1 hx]; omega) (by simp) (fun j => sumF_dvd _ (fun i hi => Int.dvd_mul_of_dvd_left (hd i hi))) ⟨0, by simp, by simp⟩
  · exact sum_kernel (xs := [1]) hL hlin (fun x hx => by rw [List.mem_singleton.1 hx]; omega) (by simp) (fun j => sumF_dvd _ (fun i hi => Int.dvd_mul_of_dvd_left (hd i hi))) ⟨0, by simp, by simp⟩
  · exact sum_kernel (xs := [2]) hL hlin (fun x hx => by rw [List.mem_singleton.1 hx]; omega) (by simp) (fun j => sumF_dvd _ (fun i hi => by
      rw [ratc]
      obtain ⟨z, hz⟩ := hd i hi
      have hz' : (numL 4 R T).getD i 0 = ((2 : Nat) : Int) * z := hz
      rw [hz']
      exact ⟨z, by omega⟩)) ⟨0, by simp, by simp⟩

/-- The sequence that goes on by its last w cells. -/
def seqL (p w : Nat) (c : Nat → Int) : Nat → List Int
  | 0 => []
  | t + 1 => seqL p w c t ++ [if t < w then (if t = 0 then 1 else 0) else (-(c w * sumF (fun k => c k * (seqL p w c t).getD (t - w + k) 0) w)) % (p : Int)]
def seqD (p w : Nat) (c : Nat → Int) (t : Nat) : Int := (seqL p w c (t + 1)).getD t 0
theorem seqL_length (p w : Nat) (c : Nat → Int) : ∀ t, (seqL p w c t).length = t
  | 0 => rfl
  | t + 1 => by rw [seqL, List.length_append, seqL_length p w c t]; rfl
theorem seqL_at (p w : Nat) (c : Nat → Int) {t : Nat} : ∀ m, t < m → (seqL p w c m).getD t 0 = seqD p w c t
  | 0, h => by omega
  | m + 1, h => by
    rcases Nat.lt_or_ge t m with q | q
    · rw [seqL, List.getD_eq_getElem?_getD, List.getElem?_append_left (by rw [seqL_length]; exact q), ← List.getD_eq_getElem?_getD]
      exact seqL_at p w c m q
    · obtain rfl : t = m := by omega
      rfl
theorem seqD_begin {p w t : Nat} {c : Nat → Int} (h : t < w) : seqD p w c t = if t = 0 then 1 else 0 := by
  unfold seqD
  rw [seqL, List.getD_eq_getElem?_getD, List.getElem?_append_right (by rw [seqL_length]; exact Nat.le_refl _), seqL_length, Nat.sub_self]
  simp [h]
theorem seqD_on {p w t : Nat} {c : Nat → Int} (h : w ≤ t) : seqD p w c t = (-(c w * sumF (fun k => c k * seqD p w c (t - w + k)) w)) % (p : Int) := by
  unfold seqD
  rw [seqL, List.getD_eq_getElem?_getD, List.getElem?_append_right (by rw [seqL_length]; exact Nat.le_refl _), seqL_length, Nat.sub_self]
  simp only [List.getElem?_cons_zero, Option.getD_some, if_neg (show ¬ t < w by omega)]
  congr 3
  apply sumF_ext
  intro k hk
  rw [seqL_at p w c t (by omega)]
  rfl
theorem seqD_in {p w : Nat} {c : Nat → Int} (hp : p = 2 ∨ p = 3) (t : Nat) : 0 ≤ seqD p w c t ∧ seqD p w c t < (p : Int) := by
  rcases Nat.lt_or_ge t w with q | q
  · rw [seqD_begin q]
    split <;> omega
  · rw [seqD_on q]
    exact ⟨Int.emod_nonneg _ (by omega), Int.emod_lt_of_pos _ (by omega)⟩
theorem seqD_sum {p w : Nat} {c : Nat → Int} (hp : p = 2 ∨ p = 3) (hw : ¬ (p : Int) ∣ c w) (n : Nat) : (p : Int) ∣ sumF (fun k => c k * seqD p w c (n + k)) (w + 1) := by
  rw [sumF, seqD_on (t := n + w) (by omega), show n + w - w = n by omega]
  obtain ⟨X, hX⟩ : ∃ X, sumF (fun k => c k * seqD p w c (n + k)) w = X := ⟨_, rfl⟩
  rw [hX]
  obtain ⟨s, hs⟩ := square23 hp hw
  have h1 := Int.emod_add_mul_ediv (-(c w * X)) (p : Int)
  obtain ⟨Z, hZ⟩ : ∃ Z, (-(c w * X)) / (p : Int) = Z := ⟨_, rfl⟩
  rw [hZ] at h1
  obtain ⟨Y, hY⟩ : ∃ Y, (-(c w * X)) % (p : Int) = Y := ⟨_, rfl⟩
  rw [hY] at h1 ⊢
  refine ⟨-(s * X) - c w * Z, ?_⟩
  have e1 : Y = -(c w * X) - (p : Int) * Z := by omega
  rw [e1, Int.mul_sub, Int.mul_sub, Int.mul_neg, Int.mul_neg, ← Int.mul_assoc (c w) (c w) X, ← Int.mul_assoc (p : Int) s X]
  have e2 : c w * c w = (p : Int) * s + 1 := by omega
  rw [e2, Int.add_mul, Int.one_mul, Int.mul_left_comm (c w) (p : Int) Z]
  omega
theorem sumF_head (f : Nat → Int) : ∀ m, sumF f (m + 1) = f 0 + sumF (fun i => f (i + 1)) m
  | 0 => by simp [sumF]
  | m + 1 => by rw [sumF, sumF_head f m, sumF]; omega
theorem small_dvd {p : Nat} {x : Int} (hd : (p : Int) ∣ x) (a : -(p : Int) < x) (b : x < p) : x = 0 := by
  obtain ⟨z, rfl⟩ := hd
  rcases Int.lt_trichotomy z 0 with q | q | q
  · have : (p : Int) * z ≤ (p : Int) * (-1) := Int.mul_le_mul_of_nonneg_left (by omega) (by omega)
    omega
  · rw [q, Int.mul_zero]
  · have : (p : Int) * 1 ≤ (p : Int) * z := Int.mul_le_mul_of_nonneg_left (by omega) (by omega)
    omega
/-- It comes again. -/
theorem seqD_again {p w : Nat} {c : Nat → Int} (hp : p = 2 ∨ p = 3) (hw : ¬ (p : Int) ∣ c w) (h0 : ¬ (p : Int) ∣ c 0) (w0 : 0 < w) : ∃ P, 0 < P ∧ ∀ t, seqD p w c (t + P) = seqD p w c t := by
  have hin := fun t => seqD_in (w := w) (c := c) hp t
  have hlt : ∀ t, (seqD p w c t).toNat < p := fun t => by have := hin t; omega
  obtain ⟨i, j, hij, hj, e⟩ := pigeon (p ^ w) (fun t => hn p (fun t => (seqD p w c t).toNat) t w) (fun t _ => hn_lt hlt _ _)
  have win : ∀ k, k < w → seqD p w c (i + k) = seqD p w c (j + k) := fun k hk => by
    have h1 : ∀ m, hn p (fun t => (seqD p w c (i + t)).toNat) 0 m = hn p (fun t => (seqD p w c t).toNat) i m := fun m => by
      induction m with
      | zero => rfl
      | succ m ih => rw [hn, hn, ih, Nat.zero_add]
    have h2 : ∀ m, hn p (fun t => (seqD p w c (j + t)).toNat) 0 m = hn p (fun t => (seqD p w c t).toNat) j m := fun m => by
      induction m with
      | zero => rfl
      | succ m ih => rw [hn, hn, ih, Nat.zero_add]
    have h3 : hn p (fun t => (seqD p w c (i + t)).toNat) 0 w = hn p (fun t => (seqD p w c (j + t)).toNat) 0 w := by rw [h1, h2]; exact e
    have := hn_inj (fun t => hlt (i + t)) (fun t => hlt (j + t)) 0 w h3 k hk
    rw [Nat.zero_add] at this
    have a := hin (i + k)
    have b := hin (j + k)
    have this' : (seqD p w c (i + k)).toNat = (seqD p w c (j + k)).toNat := this
    omega
  have down : ∀ i j, i < j → (∀ k, k < w → seqD p w c (i + k) = seqD p w c (j + k)) → ∀ k, k < w → seqD p w c k = seqD p w c (j - i + k) := fun i => by
    induction i with
    | zero => intro j _ h k hk; have := h k hk; rwa [Nat.zero_add] at this
    | succ i ih =>
      intro j hij h
      obtain ⟨j, rfl⟩ : ∃ j', j = j' + 1 := ⟨j - 1, by omega⟩
      have step := ih j (by omega) (fun k hk => by
        cases k with
        | succ k => have := h k (by omega); rwa [show i + 1 + k = i + (k + 1) by omega, show j + 1 + k = j + (k + 1) by omega] at this
        | zero =>
          have s1 := seqD_sum hp hw (c := c) i
          have s2 := seqD_sum hp hw (c := c) j
          rw [sumF_head] at s1 s2
          have es : sumF (fun k => c (k + 1) * seqD p w c (i + (k + 1))) w = sumF (fun k => c (k + 1) * seqD p w c (j + (k + 1))) w := sumF_ext _ (fun k hk => by
            have := h k hk
            rw [show i + 1 + k = i + (k + 1) by omega, show j + 1 + k = j + (k + 1) by omega] at this
            rw [this])
          rw [es] at s1
          have sd := Int.dvd_sub s1 s2
          have sd' : (p : Int) ∣ c 0 * (seqD p w c (i + 0) - seqD p w c (j + 0)) := by
            rw [Int.mul_sub]
            have : c 0 * seqD p w c (i + 0) + sumF (fun k => c (k + 1) * seqD p w c (j + (k + 1))) w - (c 0 * seqD p w c (j + 0) + sumF (fun k => c (k + 1) * seqD p w c (j + (k + 1))) w) = c 0 * seqD p w c (i + 0) - c 0 * seqD p w c (j + 0) := by omega
            rw [← this]
            exact sd
          have a := hin (i + 0)
          have b := hin (j + 0)
          have := small_dvd (prime23 hp sd' h0) (by omega) (by omega)
          omega)
      intro k hk
      have := step k hk
      rwa [show j + 1 - (i + 1) = j - i by omega]
  have base := down i j hij win
  refine ⟨j - i, by omega, fun t => ?_⟩
  induction t using Nat.strongRecOn with
  | ind t ih =>
    rcases Nat.lt_or_ge t w with q | q
    · rw [base t q, Nat.add_comm]
    · rw [seqD_on (t := t + (j - i)) (by omega), seqD_on q]
      congr 3
      apply sumF_ext
      intro k hk
      rw [show t + (j - i) - w + k = t - w + k + (j - i) by omega, ih (t - w + k) (by omega)]
theorem sum_more {S R p : Nat} {T : List Int} (hL : LineOk S R T) (hlin : LinP S R T) (hp : PrmS S p) (hc : 1 < cntP p (fun i => (numL S R T).getD i 0) (2 * R + 1)) : ¬ ∀ k, ¬ TurnAt S (S ^ (2 * R)) T k := by
  obtain ⟨hi, a1, a2, a3, a4⟩ := cntP_last _ (show 0 < cntP p (fun i => (numL S R T).getD i 0) (2 * R + 1) by omega)
  obtain ⟨lo, b1, b2, b3⟩ := cntP_first (p := p) (c := fun i => (numL S R T).getD i 0) hi (by omega)
  have p23 : p = 2 ∨ p = 3 := by rcases hp with ⟨_, h⟩ | ⟨_, h⟩ | ⟨_, h⟩ <;> omega
  obtain ⟨C, hC⟩ : ∃ C : Nat → Int, C = fun i => (numL S R T).getD i 0 := ⟨_, rfl⟩
  have a2' : ¬ (p : Int) ∣ C hi := by rw [hC]; exact a2
  have b2' : ¬ (p : Int) ∣ C lo := by rw [hC]; exact b2
  obtain ⟨w, hw⟩ : ∃ w, lo + w = hi := ⟨hi - lo, by omega⟩
  obtain ⟨P, P0, hP⟩ := seqD_again (p := p) (w := w) (c := fun k => C (lo + k)) p23 (by show ¬ (p : Int) ∣ C (lo + w); rw [hw]; exact a2') b2' (by omega)
  obtain ⟨d, hd⟩ : ∃ d, d = seqD p w (fun k => C (lo + k)) := ⟨_, rfl⟩
  have dP : ∀ t, d (t + P) = d t := fun t => by rw [hd]; exact hP t
  have din : ∀ t, 0 ≤ d t ∧ d t < (p : Int) := fun t => by rw [hd]; exact seqD_in p23 t
  have dmod : ∀ t, d t = d (t % P) := fun t => by
    have : ∀ q r, d (r + P * q) = d r := fun q r => by
      induction q with
      | zero => simp
      | succ q ih => rw [Nat.mul_succ, ← Nat.add_assoc, dP, ih]
    have := this (t / P) (t % P)
    rw [Nat.mod_add_div] at this
    exact this
  have dsum : ∀ n, (p : Int) ∣ sumF (fun i => C i * d (n + i)) (2 * R + 1) := fun n => by
    have s := seqD_sum (p := p) (w := w) (c := fun k => C (lo + k)) p23 (by show ¬ (p : Int) ∣ C (lo + w); rw [hw]; exact a2') (n + lo)
    rw [← hd] at s
    have split : ∀ m, sumF (fun i => C i * d (n + i)) (lo + m) = sumF (fun i => C i * d (n + i)) lo + sumF (fun k => C (lo + k) * d (n + lo + k)) m := fun m => by
      induction m with
      | zero => simp [sumF]
      | succ m ih => rw [← Nat.add_assoc, sumF, ih, sumF, Nat.add_assoc n lo m]; omega
    have low : (p : Int) ∣ sumF (fun i => C i * d (n + i)) lo := sumF_dvd _ (fun i hi' => Int.dvd_mul_of_dvd_left (by rw [hC]; exact b3 i hi'))
    have upto : (p : Int) ∣ sumF (fun i => C i * d (n + i)) (lo + (w + 1)) := by rw [split]; exact Int.dvd_add low s
    have more : ∀ m, hi + 1 + m ≤ 2 * R + 1 → (p : Int) ∣ sumF (fun i => C i * d (n + i)) (hi + 1 + m) := fun m => by
      induction m with
      | zero => intro _; rwa [show hi + 1 + 0 = lo + (w + 1) by omega]
      | succ m ih =>
        intro hm
        rw [← Nat.add_assoc, sumF]
        refine Int.dvd_add (ih (by omega)) (Int.dvd_mul_of_dvd_left ?_)
        rw [hC]
        exact a3 _ (by omega) (by omega)
    have := more (2 * R + 1 - (hi + 1)) (by omega)
    rwa [show hi + 1 + (2 * R + 1 - (hi + 1)) = 2 * R + 1 by omega] at this
  have d0 : d 0 = 1 := by rw [hd, seqD_begin (by omega)]; rfl
  obtain ⟨x, hx0, hxp⟩ : ∃ x : Nat, 0 < x ∧ x * p = S := by
    rcases hp with ⟨rfl, rfl⟩ | ⟨rfl, rfl⟩ | ⟨rfl, rfl⟩
    · exact ⟨1, by omega, rfl⟩
    · exact ⟨1, by omega, rfl⟩
    · exact ⟨2, by omega, rfl⟩
  obtain ⟨xs, hxs⟩ : ∃ xs : List Int, xs = (List.range P).map fun t => (x : Int) * d t := ⟨_, rfl⟩
  have xl : xs.length = P := by rw [hxs]; simp
  have xat : ∀ t, t < P → xs.getD t 0 = (x : Int) * d t := fun t ht => by rw [hxs]; simp [List.getD, ht]
  have xok : cellsOk S xs := fun y hy => by
    rw [hxs] at hy
    obtain ⟨t, _, rfl⟩ := List.mem_map.1 hy
    have a := din t
    refine ⟨Int.mul_nonneg (by omega) a.1, ?_⟩
    have : (x : Int) * (d t + 1) ≤ (x : Int) * (p : Int) := Int.mul_le_mul_of_nonneg_left (by omega) (by omega)
    rw [Int.mul_add] at this
    have e : (x : Int) * (p : Int) = (S : Int) := by rw [← hxp]; simp
    omega
  have xrat : ∀ n : Nat, rat xs (n : Int) = (x : Int) * d n := fun n => by
    unfold rat
    rw [xl]
    have e : ((n : Int) % (P : Int)).toNat = n % P := by
      rw [show (n : Int) % (P : Int) = ((n % P : Nat) : Int) from (Int.natCast_emod n P).symm]
      exact Int.toNat_natCast _
    rw [e, xat _ (Nat.mod_lt _ P0), ← dmod]
  refine sum_kernel (xs := xs) hL hlin xok (by omega) (fun j => ?_) ⟨0, by omega, ?_⟩
  · obtain ⟨n, z, hn⟩ : ∃ (n : Nat) (z : Int), j - R = (n : Int) + (P : Int) * z := by
      refine ⟨((j - R) % (P : Int)).toNat, (j - R) / (P : Int), ?_⟩
      have := Int.emod_nonneg (j - R) (show (P : Int) ≠ 0 by omega)
      have := Int.emod_add_mul_ediv (j - R) (P : Int)
      omega
    have s := dsum n
    rw [sumF_ext (g := fun i => (x : Int) * (C i * d (n + i))) _ (fun i _ => by
      have e1 : j + ((i : Int) - R) = ((n + i : Nat) : Int) + (xs.length : Int) * z := by rw [xl]; push_cast; omega
      rw [e1, rat_add, xrat, hC, Int.mul_left_comm]), sumF_mulL]
    obtain ⟨y, hy⟩ := s
    rw [hy]
    exact ⟨y, by rw [← hxp]; push_cast; rw [Int.mul_assoc]⟩
  · rw [xat 0 P0, d0]
    omega
end Go.Proofs.YtjjdjdodhedihaaDoor

