/-
  What the last text of this claim leans on, part 21: Og4, Og5, Og6, Ok5, Gd2, Gd3.
-/
import Derived.Test.YtjjdjdodhedihaaDoorJs20
import Derived.Test.YtjjdjdodhedihaaDoorJs18
import Derived.Test.YtjjdjdodhedihaaDoorJs19
import Derived.Test.YtjjdjdodhedihaaDoorJs2
namespace Go.Proofs.YtjjdjdodhedihaaDoor
set_option linter.unusedVariables false

theorem pigeon : ∀ (N : Nat) (f : Nat → Nat), (∀ i, i ≤ N → f i < N) → ∃ i j, i < j ∧ j ≤ N ∧ f i = f j
  | 0, f, h => absurd (h 0 (Nat.le_refl _)) (by omega)
  | N + 1, f, h => by
    by_cases hx : ∃ i, i ≤ N ∧ f i = f (N + 1)
    · obtain ⟨i, hi, e⟩ := hx
      exact ⟨i, N + 1, by omega, Nat.le_refl _, e⟩
    · obtain ⟨i, j, h1, h2, h3⟩ := pigeon N (fun i => if f i = N then f (N + 1) else f i) (fun i hi => by
        have a := h i (by omega)
        have b := h (N + 1) (Nat.le_refl _)
        have c : f i ≠ f (N + 1) := fun e => hx ⟨i, hi, e⟩
        split <;> omega)
      refine ⟨i, j, h1, by omega, ?_⟩
      have ci : f i ≠ f (N + 1) := fun e => hx ⟨i, by omega, e⟩
      have cj : f j ≠ f (N + 1) := fun e => hx ⟨j, by omega, e⟩
      split at h3 <;> split at h3 <;> omega
theorem hn_inj {S : Nat} {f g : Nat → Nat} (hf : ∀ t, f t < S) (hg : ∀ t, g t < S) (i : Nat) : ∀ m, hn S f i m = hn S g i m → ∀ k, k < m → f (i + k) = g (i + k)
  | 0, _, k, hk => by omega
  | m + 1, e, k, hk => by
    rw [hn, hn] at e
    obtain ⟨a, b⟩ := code_inj (hf (i + m)) (hg (i + m)) e
    rcases Nat.lt_or_ge k m with c | c
    · exact hn_inj hf hg i m a k c
    · rw [show k = m by omega]; exact b
end Go.Proofs.YtjjdjdodhedihaaDoor

namespace Go.Proofs.YtjjdjdodhedihaaDoor
set_option linter.unusedVariables false

theorem hn_split {S : Nat} {f : Nat → Nat} (i a : Nat) : ∀ m, hn S f i (a + m) = hn S f i a * S ^ m + hn S f (i + a) m
  | 0 => by simp [hn]
  | m + 1 => by
    rw [← Nat.add_assoc, hn, hn_split i a m, hn, Nat.add_mul, Nat.mul_assoc, ← Nat.pow_succ, Nat.add_assoc, ← Nat.add_assoc i a m]
theorem hn_div {S : Nat} {f : Nat → Nat} (hS : 0 < S) (hf : ∀ t, f t < S) (i a m : Nat) : hn S f i (a + m) / S ^ m = hn S f i a := by
  rw [hn_split, Nat.mul_comm, Nat.mul_add_div (Nat.pow_pos hS), Nat.div_eq_of_lt (hn_lt hf m _), Nat.add_zero]
end Go.Proofs.YtjjdjdodhedihaaDoor

namespace Go.Proofs.YtjjdjdodhedihaaDoor
set_option linter.unusedVariables false

end Go.Proofs.YtjjdjdodhedihaaDoor

namespace Go.Proofs.YtjjdjdodhedihaaDoor
set_option linter.unusedVariables false

/-- The cells of a list, as a function. -/
def cellF (xs : List Int) (t : Nat) : Nat := (xs.getD t 0).toNat
theorem cellF_lt {S : Nat} {xs : List Int} (hS : 0 < S) (h : cellsOk S xs) (t : Nat) : cellF xs t < S := by
  unfold cellF
  by_cases c : t < xs.length
  · have := cellsOk_at h c
    omega
  · rw [List.getD_eq_getElem?_getD, List.getElem?_eq_none (by omega)]
    simpa using hS
theorem wn_cell {S : Nat} {xs : List Int} (h : cellsOk S xs) (i : Nat) : ∀ m, i + m ≤ xs.length → wn (S : Int) (fun t => xs.getD t 0) i m = ((hn S (cellF xs) i m : Nat) : Int)
  | 0, _ => rfl
  | m + 1, hm => by
    have a := cellsOk_at h (k := i + m) (by omega)
    rw [wn, wn_cell h i m (by omega), hn]
    have b : ((cellF xs (i + m) : Nat) : Int) = xs.getD (i + m) 0 := by unfold cellF; omega
    rw [← b]
    push_cast
    rfl
theorem cell_app {S k p : Nat} {ys : List Int} (t : Nat) (ht : t < k) : cellF (winL S k p ++ ys) t = cellF (winL S k p) t := by
  unfold cellF
  rw [List.getD_eq_getElem?_getD, List.getD_eq_getElem?_getD, List.getElem?_append_left (by rw [winL_length]; exact ht)]
theorem hn_congr {S : Nat} {f g : Nat → Nat} (i : Nat) : ∀ m, (∀ d, d < m → f (i + d) = g (i + d)) → hn S f i m = hn S g i m
  | 0, _ => rfl
  | m + 1, h => by rw [hn, hn, hn_congr i m (fun d hd => h d (by omega)), h m (by omega)]
theorem win_first {S k p : Nat} {ys : List Int} (hS : 0 < S) (hp : p < S ^ k) : hn S (cellF (winL S k p ++ ys)) 0 k = p := by
  rw [hn_congr 0 k (g := cellF (winL S k p)) (fun d hd => cell_app _ (by omega))]
  have h := wn_cell (winL_ok (S := S) (long := k) (x := p) hS) 0 k (by rw [winL_length]; omega)
  rw [win_digits hS k (by omega), show k - 0 - k = 0 by omega, Nat.pow_zero, Nat.div_one, Nat.mod_eq_of_lt hp] at h
  exact (Int.ofNat_inj.1 h).symm
theorem path_cells {S n : Nat} {T : List Int} : ∀ (cs : List (Nat × Nat)) (u : Nat × Nat), okP S n T u cs → ∀ c ∈ cs, c.1 < S ∧ c.2 < S
  | [], u, _, c, hc => by simp at hc
  | d :: cs, u, h, c, hc => by
    rcases List.mem_cons.1 hc with rfl | hc
    · exact ⟨h.1.1, h.1.2.1⟩
    · exact path_cells cs _ h.2 c hc
theorem path_way {S n : Nat} {T : List Int} : ∀ (cs : List (Nat × Nat)) (u : Nat × Nat), okP S n T u cs → ∀ j (hj : j < cs.length), OkWay S T (endP S n u (cs.take j)) cs[j]
  | [], u, _, j, hj => by simp at hj
  | d :: cs, u, h, 0, hj => h.1
  | d :: cs, u, h, j + 1, hj => path_way cs _ h.2 j (by simpa using hj)
/-- Along the way the last cells spell the places. -/
theorem place_at {S k p : Nat} {T : List Int} (hS : 0 < S) (hp : p < S ^ k) (full : List (Nat × Nat)) (hk : okP S (S ^ k) T (p, p) full) : ∀ j, j ≤ full.length →
    endP S (S ^ k) (p, p) (full.take j) = (hn S (cellF (winL S k p ++ full.map fun y => (y.1 : Int))) j k, hn S (cellF (winL S k p ++ full.map fun y => (y.2 : Int))) j k)
  | 0, _ => by rw [List.take_zero, win_first hS hp, win_first hS hp]; rfl
  | j + 1, hj => by
    have ih := place_at hS hp full hk j (by omega)
    have hl : j < full.length := by omega
    rw [List.take_succ_eq_append_getElem hl, endP_append, ih]
    have cell : ∀ (g : Nat × Nat → Nat), cellF (winL S k p ++ full.map fun y => ((g y : Nat) : Int)) (j + k) = g full[j] := fun g => by
      unfold cellF
      rw [List.getD_eq_getElem?_getD, List.getElem?_append_right (by rw [winL_length]; omega), winL_length, show j + k - k = j by omega]
      simp [hl]
    have ok1 : ∀ (g : Nat × Nat → Nat), (∀ y ∈ full, g y < S) → cellsOk S (winL S k p ++ full.map fun y => ((g y : Nat) : Int)) := fun g hg z hz => by
      rcases List.mem_append.1 hz with hz | hz
      · exact winL_ok hS z hz
      · obtain ⟨y, hy, rfl⟩ := List.mem_map.1 hz
        have := hg y hy
        omega
    have cs := path_cells full (p, p) hk
    show stepP S (S ^ k) _ full[j] = _
    unfold stepP
    have s1 := hn_step (S := S) (cellF_lt hS (ok1 (fun y => y.1) (fun y hy => (cs y hy).1))) k j
    have s2 := hn_step (S := S) (cellF_lt hS (ok1 (fun y => y.2) (fun y hy => (cs y hy).2))) k j
    rw [cell fun y => y.1] at s1
    rw [cell fun y => y.2] at s2
    rw [← s1, ← s2]

end Go.Proofs.YtjjdjdodhedihaaDoor

namespace Go.Proofs.YtjjdjdodhedihaaDoor
set_option linter.unusedVariables false

theorem stp_pos {S n : Nat} {T : List Int} {a : Int} {v : Nat → Nat} {q : Nat} (h : 0 < stp S n T a v q) : ∃ j, j < n * S ∧ T.getD j 0 = a ∧ j % n = q ∧ 0 < v (j / S) := by
  obtain ⟨j, hj, h1⟩ := sumN_pos _ h
  by_cases c : T.getD j 0 = a ∧ j % n = q
  · rw [if_pos c] at h1
    exact ⟨j, hj, c.1, c.2, h1⟩
  · rw [if_neg c] at h1
    omega
theorem stp_ge {S n : Nat} {T : List Int} {a : Int} {v : Nat → Nat} {q j : Nat} (hj : j < n * S) (h1 : T.getD j 0 = a) (h2 : j % n = q) : v (j / S) ≤ stp S n T a v q := by
  have := sumN_term (f := fun j => if T.getD j 0 = a ∧ j % n = q then v (j / S) else 0) (n * S) j hj
  simp only [if_pos (And.intro h1 h2)] at this
  exact this
theorem stp_ge2 {S n : Nat} {T : List Int} {a : Int} {v : Nat → Nat} {q i j : Nat} (hij : i ≠ j) (hi : i < n * S) (hj : j < n * S) (h1 : T.getD i 0 = a) (h2 : i % n = q) (h3 : T.getD j 0 = a) (h4 : j % n = q) : v (i / S) + v (j / S) ≤ stp S n T a v q := by
  rcases Nat.lt_or_gt_of_ne hij with c | c
  · have := sumN_two (f := fun j => if T.getD j 0 = a ∧ j % n = q then v (j / S) else 0) (n * S) i j c hj
    simp only [if_pos (And.intro h1 h2), if_pos (And.intro h3 h4)] at this
    exact this
  · have := sumN_two (f := fun j => if T.getD j 0 = a ∧ j % n = q then v (j / S) else 0) (n * S) j i c hi
    simp only [if_pos (And.intro h1 h2), if_pos (And.intro h3 h4)] at this
    unfold stp
    omega
/-- What two ways bring together. -/
def Two (v : Nat → Nat) (u : Nat × Nat) (x : Nat) : Prop := (u.1 = u.2 → 2 * x ≤ v u.1) ∧ (u.1 ≠ u.2 → x ≤ v u.1 ∧ x ≤ v u.2)
theorem edge_lt {S n p c : Nat} (hp : p < n) (hc : c < S) : p * S + c < n * S := by
  have : (p + 1) * S ≤ n * S := Nat.mul_le_mul_right _ hp
  rw [Nat.add_mul] at this
  omega
theorem edge_div {S p c : Nat} (hc : c < S) : (p * S + c) / S = p := by
  rw [Nat.mul_comm, Nat.mul_add_div (by omega), Nat.div_eq_of_lt hc, Nat.add_zero]
theorem Two.step {S n : Nat} {T : List Int} {v : Nat → Nat} {u c : Nat × Nat} {x : Nat} (h1 : u.1 < n) (h2 : u.2 < n) (ho : OkWay S T u c) (h : Two v u x) : Two (stp S n T (T.getD (u.1 * S + c.1) 0) v) (stepP S n u c) x := by
  obtain ⟨hc1, hc2, he⟩ := ho
  have a1 := stp_ge (S := S) (n := n) (T := T) (v := v) (edge_lt h1 hc1) rfl rfl
  have a2 := stp_ge (S := S) (n := n) (T := T) (v := v) (edge_lt h2 hc2) he.symm rfl
  rw [edge_div hc1] at a1
  rw [edge_div hc2] at a2
  by_cases e : u.1 = u.2
  · have hx := h.1 e
    rw [e] at a1 hx
    refine ⟨fun _ => ?_, fun _ => ⟨?_, ?_⟩⟩
    · show 2 * x ≤ stp S n T (T.getD (u.1 * S + c.1) 0) v ((u.1 * S + c.1) % n)
      rw [e]; omega
    · show x ≤ stp S n T (T.getD (u.1 * S + c.1) 0) v ((u.1 * S + c.1) % n)
      rw [e]; omega
    · show x ≤ stp S n T (T.getD (u.1 * S + c.1) 0) v ((u.2 * S + c.2) % n)
      omega
  · have hx := h.2 e
    refine ⟨fun q => ?_, fun _ => ⟨?_, ?_⟩⟩
    · have q' : (u.1 * S + c.1) % n = (u.2 * S + c.2) % n := q
      have a3 := stp_ge2 (S := S) (n := n) (T := T) (v := v) (a := T.getD (u.1 * S + c.1) 0) (q := (u.1 * S + c.1) % n) (i := u.1 * S + c.1) (j := u.2 * S + c.2) (fun k => e (by
        have := congrArg (· / S) k
        simp only [edge_div hc1, edge_div hc2] at this
        exact this)) (edge_lt h1 hc1) (edge_lt h2 hc2) rfl rfl he.symm q'.symm
      rw [edge_div hc1, edge_div hc2] at a3
      show 2 * x ≤ stp S n T (T.getD (u.1 * S + c.1) 0) v ((u.1 * S + c.1) % n)
      omega
    · show x ≤ stp S n T (T.getD (u.1 * S + c.1) 0) v ((u.1 * S + c.1) % n)
      omega
    · show x ≤ stp S n T (T.getD (u.1 * S + c.1) 0) v ((u.2 * S + c.2) % n)
      omega
/-- Of one place alone. -/
def at1 (p : Nat) : Nat → Nat := fun q => if q = p then 1 else 0
theorem pair_path {S n : Nat} {T : List Int} (hS : 0 < S) (p : Nat) : ∀ (w : List Int) (r1 r2 : Nat), 0 < act S n T w.reverse (at1 p) r1 → 0 < act S n T w.reverse (at1 p) r2 → ∃ cs, okP S n T (p, p) cs ∧ endP S n (p, p) cs = (r1, r2)
  | [], r1, r2, h1, h2 => by
    have a : ∀ r, 0 < at1 p r → r = p := fun r h => by
      unfold at1 at h
      split at h
      · assumption
      · omega
    exact ⟨[], trivial, by rw [a r1 h1, a r2 h2]; rfl⟩
  | x :: w, r1, r2, h1, h2 => by
    rw [List.reverse_cons, act_append] at h1 h2
    obtain ⟨j1, l1, t1, m1, v1⟩ := stp_pos h1
    obtain ⟨j2, l2, t2, m2, v2⟩ := stp_pos h2
    obtain ⟨cs, ho, he⟩ := pair_path hS p w (j1 / S) (j2 / S) v1 v2
    have d1 : j1 / S * S + j1 % S = j1 := by rw [Nat.mul_comm]; exact Nat.div_add_mod _ _
    have d2 : j2 / S * S + j2 % S = j2 := by rw [Nat.mul_comm]; exact Nat.div_add_mod _ _
    refine ⟨cs ++ [(j1 % S, j2 % S)], ?_, ?_⟩
    · rw [okP_append, he]
      refine ⟨ho, ⟨Nat.mod_lt _ hS, Nat.mod_lt _ hS, ?_⟩, trivial⟩
      show T.getD (j1 / S * S + j1 % S) 0 = T.getD (j2 / S * S + j2 % S) 0
      rw [d1, d2, t1, t2]
    · rw [endP_append, he]
      show ((j1 / S * S + j1 % S) % n, (j2 / S * S + j2 % S) % n) = (r1, r2)
      rw [d1, d2, m1, m2]
theorem one_way {S n : Nat} {T : List Int} (hS : 0 < S) (hno : NoTwin S n T) {p : Nat} (hp : p < n) : ∀ (w : List Int) (q : Nat), act S n T w.reverse (at1 p) q ≤ 1
  | [], q => by
    show at1 p q ≤ 1
    unfold at1
    split <;> omega
  | x :: w, q => by
    have ih := one_way hS hno hp w
    rw [List.reverse_cons, act_append]
    show stp S n T x (act S n T w.reverse (at1 p)) q ≤ 1
    rcases Nat.lt_or_ge 1 (stp S n T x (act S n T w.reverse (at1 p)) q) with c | c
    · exfalso
      obtain ⟨i, j, hij, hj, f1, f2⟩ := sumN_more _ (fun i _ => by
        show (if _ then _ else 0) ≤ 1
        split
        · exact ih _
        · omega) c
      have cond : ∀ j, 0 < (if T.getD j 0 = x ∧ j % n = q then act S n T w.reverse (at1 p) (j / S) else 0) → (T.getD j 0 = x ∧ j % n = q) ∧ 0 < act S n T w.reverse (at1 p) (j / S) := fun j h => by
        by_cases c : T.getD j 0 = x ∧ j % n = q
        · rw [if_pos c] at h; exact ⟨c, h⟩
        · rw [if_neg c] at h; omega
      obtain ⟨⟨t1, m1⟩, v1⟩ := cond i f1
      obtain ⟨⟨t2, m2⟩, v2⟩ := cond j f2
      obtain ⟨cs, ho, he⟩ := pair_path hS p w (i / S) (j / S) v1 v2
      have d1 : i / S * S + i % S = i := by rw [Nat.mul_comm]; exact Nat.div_add_mod _ _
      have d2 : j / S * S + j % S = j := by rw [Nat.mul_comm]; exact Nat.div_add_mod _ _
      have h := hno p hp cs (i % S, j % S) ho (by
        rw [he]
        refine ⟨Nat.mod_lt _ hS, Nat.mod_lt _ hS, ?_⟩
        show T.getD (i / S * S + i % S) 0 = T.getD (j / S * S + j % S) 0
        rw [d1, d2, t1, t2])
      rw [he] at h
      unfold wantTf wantT at h
      simp only [d1, d2, m1, m2, decide_true, Bool.true_and, Bool.not_eq_false', Bool.and_eq_true, decide_eq_true_eq] at h
      rw [← d1, ← d2, h.1, h.2] at hij
      omega
    · exact c
theorem no_twin_small {S n : Nat} {T : List Int} (hS : 0 < S) (hno : NoTwin S n T) (w : List Int) : cntN S n T w ≤ n * n := by
  unfold cntN
  rw [sumN_ext n (fun q hq => act_congr (S := S) (T := T) (n := n) (u := one1) (v := fun q => sumN (fun p => at1 p q) n) (fun q hq => by
    show 1 = _
    rw [sumN_ext (g := fun p => if p = q then 1 else 0) n, sumN_one 1 n hq]
    intro p _
    unfold at1
    by_cases e : q = p
    · rw [if_pos e, if_pos e.symm]
    · rw [if_neg e, if_neg (fun k => e k.symm)]) w q hq), act_sum, sumN_swap]
  refine Nat.le_trans (sumN_le (g := fun _ => n) n fun p hp => ?_) (Nat.le_of_eq (sumN_const n n))
  refine Nat.le_trans (sumN_le (g := fun _ => 1) n fun q _ => ?_) (Nat.le_of_eq (by rw [sumN_const, Nat.mul_one]))
  have := one_way hS hno hp w.reverse q
  rwa [List.reverse_reverse] at this
/-- No twins: onto. -/
theorem no_twin_onto {S n : Nat} {T : List Int} (hS : 0 < S) (hn : 0 < n) (hT : ∀ j, j < n * S → 0 ≤ T.getD j 0 ∧ T.getD j 0 < (S : Int)) (hno : NoTwin S n T) : ∀ w, cellsOk S w → 0 < cntN S n T w := by
  obtain ⟨m, ⟨u, hu, hum⟩, hl⟩ := most (P := fun m => ∃ u, cellsOk S u ∧ cntN S n T u = m) (n * n) ⟨_, [], cells_nil _, rfl⟩ (fun m ⟨u, _, e⟩ => by rw [← e]; exact no_twin_small hS hno u)
  intro w hw
  have h1 := cnt_most hS hn hT (fun w hw => hl _ ⟨w, hw, rfl⟩) w u hw hu hum
  have h2 := hl n ⟨[], cells_nil _, cnt_nil _ _ _⟩
  have h3 := cnt_join (S := S) (n := n) (T := T) u w
  rw [h1, hum] at h3
  rcases Nat.eq_zero_or_pos (cntN S n T w) with c | c
  · rw [c, Nat.mul_zero] at h3; omega
  · exact c
end Go.Proofs.YtjjdjdodhedihaaDoor

namespace Go.Proofs.YtjjdjdodhedihaaDoor
set_option linter.unusedVariables false

/-- A number whose bits are the places to which a word leads. -/
def SetIs (S n : Nat) (T : List Int) (m : Nat) (w : List Int) : Prop := cellsOk S w ∧ m < 2 ^ n ∧ ∀ q, q < n → (m.testBit q = true ↔ 0 < act S n T w one1 q)
theorem SetIs.start (S n : Nat) (T : List Int) : SetIs S n T (2 ^ n - 1) [] := by
  refine ⟨cells_nil _, by have := Nat.pow_pos (a := 2) (n := n) (by omega); omega, fun q hq => ?_⟩
  rw [Nat.testBit_two_pow_sub_one]
  simp [hq, act, one1]
theorem stp_pos_iff {S n : Nat} {T : List Int} {a : Int} {v : Nat → Nat} {q : Nat} : 0 < stp S n T a v q ↔ ∃ j, j < n * S ∧ T.getD j 0 = a ∧ j % n = q ∧ 0 < v (j / S) := by
  constructor
  · intro h
    obtain ⟨j, hj, h1⟩ := sumN_pos _ h
    by_cases c : T.getD j 0 = a ∧ j % n = q
    · rw [if_pos c] at h1
      exact ⟨j, hj, c.1, c.2, h1⟩
    · rw [if_neg c] at h1
      omega
  · rintro ⟨j, hj, h1, h2, h3⟩
    have := sumN_term (f := fun j => if T.getD j 0 = a ∧ j % n = q then v (j / S) else 0) (n * S) j hj
    simp only [if_pos (And.intro h1 h2)] at this
    unfold stp
    omega
theorem SetIs.next {S n m : Nat} {T w : List Int} (hS : 0 < S) (h : SetIs S n T m w) {c : Nat} (hc : c < S) : SetIs S n T (follN S n T c m) (w ++ [(c : Int)]) := by
  refine ⟨cells_app h.1 (cells_one hc), follN_lt .., fun q hq => ?_⟩
  rw [act_append]
  show _ ↔ 0 < stp S n T (c : Int) (act S n T w one1) q
  rw [stp_pos_iff, follN, testBit_bitsN]
  simp only [hq, decide_true, Bool.true_and]
  rw [anyB_iff]
  constructor
  · rintro ⟨p, hp, h1, h2⟩
    obtain ⟨x, hx, h3, h4⟩ := leadB_iff.1 h2
    have e : (p * S + x) / S = p := by rw [Nat.mul_comm, Nat.mul_add_div hS, Nat.div_eq_of_lt hx, Nat.add_zero]
    have l : p * S + x < n * S := by
      have : (p + 1) * S ≤ n * S := Nat.mul_le_mul_right _ hp
      rw [Nat.add_mul] at this
      omega
    exact ⟨p * S + x, l, h3, h4, by rw [e]; exact (h.2.2 p hp).1 h1⟩
  · rintro ⟨j, hj, h1, h2, h3⟩
    have hd : j / S < n := Nat.div_lt_of_lt_mul (by rw [Nat.mul_comm]; exact hj)
    have d : j / S * S + j % S = j := by rw [Nat.mul_comm]; exact Nat.div_add_mod _ _
    exact ⟨j / S, hd, (h.2.2 _ hd).2 h3, leadB_iff.2 ⟨j % S, Nat.mod_lt _ hS, by rw [d]; exact h1, by rw [d]; exact h2⟩⟩
theorem SetIs.zero {S n : Nat} {T w : List Int} (h : SetIs S n T 0 w) : cntN S n T w = 0 := by
  unfold cntN
  rw [sumN_ext (g := fun _ => 0) n, sumN_zero]
  intro q hq
  rcases Nat.eq_zero_or_pos (act S n T w one1 q) with c | c
  · exact c
  · have := (h.2.2 q hq).2 c
    simp at this
theorem SetIs.pos {S n m : Nat} {T w : List Int} (h : SetIs S n T m w) (hm : m ≠ 0) : 0 < cntN S n T w := by
  obtain ⟨q, hq⟩ := Nat.exists_testBit_of_ne_zero hm
  have ql : q < n := by
    rcases Nat.lt_or_ge q n with c | c
    · exact c
    · rw [Nat.testBit_lt_two_pow (Nat.lt_of_lt_of_le h.2.1 (Nat.pow_le_pow_right (by omega) c))] at hq
      cases hq
  have := (h.2.2 q ql).1 hq
  have := sumN_term (f := act S n T w one1) n q ql
  unfold cntN
  omega
theorem runQ_sets {S n : Nat} {T : List Int} (hS : 0 < S) : ∀ t e, e ∈ runQ (follN S n T) S (2 ^ n - 1) t → SetIs S n T e.set e.wd
  | 0, e, h => by
    rw [List.mem_singleton.1 (show e ∈ [(⟨2 ^ n - 1, 0, 0, []⟩ : En)] from h)]
    exact SetIs.start S n T
  | t + 1, e, h => by
    have ih := runQ_sets (n := n) (T := T) hS t
    change e ∈ stepQ (follN S n T) S (runQ (follN S n T) S (2 ^ n - 1) t) t at h
    unfold stepQ at h
    split at h
    · exact ih e h
    · rename_i e' he'
      split at h
      · exact ih e h
      · rcases List.mem_append.1 h with h | h
        · exact ih e h
        · rw [List.mem_singleton.1 h]
          exact (ih e' (List.mem_of_getElem? he')).next hS (Nat.mod_lt _ hS)
theorem runQ_pre {f : Nat → Nat → Nat} {S q0 t i : Nat} {e : En} (h : (runQ f S q0 t)[i]? = some e) : ∀ d, (runQ f S q0 (t + d))[i]? = some e
  | 0 => h
  | d + 1 => by
    have ih := runQ_pre h d
    show (stepQ f S (runQ f S q0 (t + d)) (t + d))[i]? = some e
    unfold stepQ
    split
    · exact ih
    · split
      · exact ih
      · rw [List.getElem?_append_left (List.getElem?_eq_some_iff.1 ih).1]
        exact ih
/-- A search that has ended is closed. -/
theorem runQ_closed {f : Nat → Nat → Nat} {S q0 a : Nat} (hS : 0 < S) (hl : (runQ f S q0 (a * S)).length ≤ a) {e : En} (he : e ∈ runQ f S q0 (a * S)) {c : Nat} (hc : c < S) : ∃ e' ∈ runQ f S q0 (a * S), e'.set = f c e.set := by
  obtain ⟨i, hi, rfl⟩ := List.getElem_of_mem he
  have ia : i < a := by omega
  have hai : i * S + S ≤ a * S := by
    have : (i + 1) * S ≤ a * S := Nat.mul_le_mul_right _ ia
    rwa [Nat.add_mul, Nat.one_mul] at this
  have len : i < (runQ f S q0 (i * S)).length := by
    rcases Nat.lt_or_ge i (runQ f S q0 (i * S)).length with q | q
    · exact q
    · have := runQ_stop hS q (a * S - i * S)
      rw [show i * S + (a * S - i * S) = a * S by omega] at this
      rw [this] at hi
      omega
  have at0 : (runQ f S q0 (i * S))[i]? = some (runQ f S q0 (i * S))[i] := List.getElem?_eq_getElem len
  have atE := runQ_pre at0 (a * S - i * S)
  rw [show i * S + (a * S - i * S) = a * S by omega, List.getElem?_eq_getElem hi] at atE
  have atT := runQ_pre at0 c
  rw [← atE] at atT
  have td : (i * S + c) / S = i := by rw [Nat.mul_comm, Nat.mul_add_div hS, Nat.div_eq_of_lt hc, Nat.add_zero]
  have tm : (i * S + c) % S = c := by rw [Nat.mul_comm, Nat.mul_add_mod, Nat.mod_eq_of_lt hc]
  have : ∃ e' ∈ runQ f S q0 (i * S + c + 1), e'.set = f c (runQ f S q0 (a * S))[i].set := by
    show ∃ e' ∈ stepQ f S (runQ f S q0 (i * S + c)) (i * S + c), _
    unfold stepQ
    rw [td, tm, atT]
    simp only
    split
    · rename_i hm
      obtain ⟨e', h1, h2⟩ := List.mem_map.1 hm
      exact ⟨e', h1, h2⟩
    · exact ⟨_, List.mem_append_right _ (List.mem_singleton.2 rfl), rfl⟩
  obtain ⟨e', h1, h2⟩ := this
  refine ⟨e', ?_, h2⟩
  have := runQ_sub f S q0 (i * S + c + 1) (a * S - (i * S + c + 1)) e' h1
  rwa [show i * S + c + 1 + (a * S - (i * S + c + 1)) = a * S by omega] at this
theorem orphan_none {S n : Nat} {T : List Int} (hS : 0 < S) (h : OrphanIs (follN S n T) S (2 ^ n - 1) none) : ∀ w, cellsOk S w → 0 < cntN S n T w := by
  obtain ⟨a, hz, hl⟩ := h
  have go : ∀ (w w0 : List Int), cellsOk S w → (∃ e ∈ runQ (follN S n T) S (2 ^ n - 1) (a * S), SetIs S n T e.set w0) → ∃ e ∈ runQ (follN S n T) S (2 ^ n - 1) (a * S), SetIs S n T e.set (w0 ++ w) := fun w => by
    induction w with
    | nil => intro w0 _ h; rw [List.append_nil]; exact h
    | cons x w ih =>
      intro w0 hw ⟨e, he, hs⟩
      obtain ⟨c, hc, rfl, hw'⟩ := cells_letter hw
      obtain ⟨e', h1, h2⟩ := runQ_closed hS hl he hc
      have := ih (w0 ++ [(c : Int)]) hw' ⟨e', h1, by rw [h2]; exact hs.next hS hc⟩
      rwa [List.append_assoc] at this
  intro w hw
  have start : ∃ e ∈ runQ (follN S n T) S (2 ^ n - 1) (a * S), SetIs S n T e.set [] := ⟨⟨2 ^ n - 1, 0, 0, []⟩, by
    have := runQ_sub (follN S n T) S (2 ^ n - 1) 0 (a * S) ⟨2 ^ n - 1, 0, 0, []⟩ (by simp [runQ])
    rwa [Nat.zero_add] at this, SetIs.start S n T⟩
  obtain ⟨e, he, hs⟩ := go w [] hw start
  rw [List.nil_append] at hs
  exact hs.pos (hz e he)
theorem orphan_some {S n : Nat} {T wd : List Int} (hS : 0 < S) (h : OrphanIs (follN S n T) S (2 ^ n - 1) (some wd)) : cellsOk S wd ∧ cntN S n T wd = 0 := by
  obtain ⟨t, e, _, h2, h3, rfl⟩ := h
  have hs := (runQ_sets hS t e (List.mem_of_getElem? h2)).next hS (Nat.mod_lt t hS)
  rw [h3] at hs
  exact ⟨hs.1, hs.zero⟩
end Go.Proofs.YtjjdjdodhedihaaDoor

