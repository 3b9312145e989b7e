/-
  What the last text of this claim leans on, part 43: Og5, Og6, Ok5.
-/
import Derived.Test.YtdhbdkkchobinaaDoorJd34
import Derived.Test.YtdhbdkkchobinaaDoorJd38
import Derived.Test.YtdhbdkkchobinaaDoorJd39
import Derived.Test.YtdhbdkkchobinaaDoorJd42
namespace Go.Proofs.YtdhbdkkchobinaaDoor
set_option linter.unusedVariables false

end Go.Proofs.YtdhbdkkchobinaaDoor

namespace Go.Proofs.YtdhbdkkchobinaaDoor
set_option linter.unusedVariables false

end Go.Proofs.YtdhbdkkchobinaaDoor

namespace Go.Proofs.YtdhbdkkchobinaaDoor
set_option linter.unusedVariables false

/-- A way that goes on from a pair and ends at alike places has a way that is wanted, if it begins unlike or by unlike cells. -/
theorem wanted_on (S n : Nat) (T : List Int) : ∀ (cs : List (Nat × Nat)) (u c : Nat × Nat), ¬ (u.1 = u.2 ∧ c.1 = c.2) → OkWay S T u c → okP S n T (stepP S n u c) cs → (endP S n (stepP S n u c) cs).1 = (endP S n (stepP S n u c) cs).2 →
    ∃ ds d, okP S n T u ds ∧ OkWay S T (endP S n u ds) d ∧ wantTf S n (endP S n u ds) d = true
  | cs, u, c, hn, ho, hk, he => by
    by_cases a : (stepP S n u c).1 = (stepP S n u c).2
    · refine ⟨[], c, trivial, ho, ?_⟩
      show wantTf S n u c = true
      unfold wantTf wantT
      simp only [Bool.and_eq_true, decide_eq_true_eq, Bool.not_eq_true']
      refine ⟨a, ?_⟩
      rw [Bool.and_eq_false_iff]
      rcases Classical.em (u.1 = u.2) with h | h
      · right; simp only [decide_eq_false_iff_not]; exact fun q => hn ⟨h, q⟩
      · left; simp only [decide_eq_false_iff_not]; exact h
    · cases cs with
      | nil => exact absurd he a
      | cons c' cs =>
        obtain ⟨ds, d, h1, h2, h3⟩ := wanted_on S n T cs (stepP S n u c) c' (fun q => a q.1) hk.1 hk.2 he
        exact ⟨c :: ds, d, ⟨ho, h1⟩, h2, h3⟩
theorem twin_not_no {S n : Nat} {T : List Int} (h : TwinAt S n T) : ¬ NoTwin S n T := fun hn => by
  obtain ⟨p, q, c, cs, hp, hq, h1, h2, h3, h4⟩ := h
  obtain ⟨ds, d, k1, k2, k3⟩ := wanted_on S n T cs (p, p) c (fun q => h2 q.2) h1 h3 (by rw [h4])
  rw [hn p hp ds d k1 k2] at k3
  cases k3
/-- From alike places to a way that is wanted: somewhere it leaves alike places by unlike cells. -/
theorem leaves_on (S n : Nat) (T : List Int) (hn : 0 < n) : ∀ (cs : List (Nat × Nat)) (p : Nat) (d : Nat × Nat), p < n → okP S n T (p, p) (cs ++ [d]) → wantTf S n (endP S n (p, p) cs) d = true → TwinAt S n T := by
  intro cs
  induction cs with
  | nil =>
    intro p d hp hk hw
    have hw' : wantTf S n (p, p) d = true := hw
    unfold wantTf wantT at hw'
    simp only [Bool.and_eq_true, decide_eq_true_eq, Bool.not_eq_true', decide_true, Bool.true_and, decide_eq_false_iff_not] at hw'
    have hl : (stepP S n (p, p) d).1 < n := Nat.mod_lt _ hn
    exact ⟨p, (stepP S n (p, p) d).1, d, [], hp, hl, hk.1, hw'.2, trivial, Prod.ext rfl hw'.1.symm⟩
  | cons c cs ih =>
    intro p d hp hk hw
    by_cases e : c.1 = c.2
    · have es : stepP S n (p, p) c = ((stepP S n (p, p) c).1, (stepP S n (p, p) c).1) := by unfold stepP; simp only [e]
      have hl : (stepP S n (p, p) c).1 < n := Nat.mod_lt _ hn
      have hk2 : okP S n T (stepP S n (p, p) c) (cs ++ [d]) := hk.2
      have hw2 : wantTf S n (endP S n (stepP S n (p, p) c) cs) d = true := hw
      rw [es] at hk2 hw2
      exact ih _ d hl hk2 hw2
    · have hk2 : okP S n T (stepP S n (p, p) c) (cs ++ [d]) := hk.2
      have hw2 : wantTf S n (endP S n (stepP S n (p, p) c) cs) d = true := hw
      have hend : endP S n (stepP S n (p, p) c) (cs ++ [d]) = stepP S n (endP S n (stepP S n (p, p) c) cs) d := by rw [endP_append]; rfl
      unfold wantTf wantT at hw2
      simp only [Bool.and_eq_true, decide_eq_true_eq] at hw2
      refine ⟨p, (stepP S n (endP S n (stepP S n (p, p) c) cs) d).1, c, cs ++ [d], hp, Nat.mod_lt _ hn, hk.1, e, hk2, ?_⟩
      rw [hend]
      exact Prod.ext rfl hw2.1.symm
theorem is_twin_at {S n : Nat} {T : List Int} (hn : 0 < n) {p : Nat} {full : List (Nat × Nat)} (h : IsTwin S n T p full) : TwinAt S n T := by
  obtain ⟨hp, hk, ⟨cs, d, rfl, hw⟩, _⟩ := h
  exact leaves_on S n T hn cs p d hp hk hw
/-- Somewhere the cells are unlike. -/
theorem twin_unlike {S n : Nat} {T : List Int} {p : Nat} : ∀ (cs : List (Nat × Nat)) (q : Nat), (∀ c ∈ cs, c.1 = c.2) → ∃ r, endP S n (q, q) cs = (r, r)
  | [], q, _ => ⟨q, rfl⟩
  | c :: cs, q, h => by
    have e : stepP S n (q, q) c = ((stepP S n (q, q) c).1, (stepP S n (q, q) c).1) := by unfold stepP; simp only [h c (by simp)]
    show ∃ r, endP S n (stepP S n (q, q) c) cs = (r, r)
    rw [e]
    exact twin_unlike (p := p) (T := T) cs _ fun c hc => h c (by simp [hc])
theorem twin_words {S n : Nat} {T : List Int} {p : Nat} {full : List (Nat × Nat)} (h : IsTwin S n T p full) : (full.map fun y => (y.1 : Int)) ≠ full.map fun y => (y.2 : Int) := fun q => by
  have hall : ∀ c ∈ full, c.1 = c.2 := fun c hc => by
    obtain ⟨k, hk, rfl⟩ := List.getElem_of_mem hc
    have := congrArg (fun l => l[k]?) q
    simp [hk] at this
    omega
  obtain ⟨_, _, ⟨cs, d, rfl, hw⟩, _⟩ := h
  obtain ⟨r, hr⟩ := twin_unlike (T := T) (p := p) (S := S) (n := n) cs p fun c hc => hall c (by simp [hc])
  rw [hr] at hw
  unfold wantTf wantT at hw
  have := hall d (by simp)
  simp [this] at hw
theorem twin_end {S n : Nat} {T : List Int} {p : Nat} {full : List (Nat × Nat)} (h : IsTwin S n T p full) : (endP S n (p, p) full).1 = (endP S n (p, p) full).2 := by
  obtain ⟨_, _, ⟨cs, d, rfl, hw⟩, _⟩ := h
  unfold wantTf wantT at hw
  simp only [Bool.and_eq_true, decide_eq_true_eq] at hw
  rw [endP_append]
  exact hw.1

/-- The cells of a list, as a function. -/
def cellF (xs : List Int) (t : Nat) : Nat := (xs.getD t 0).toNat
theorem cellF_lt {S : Nat} {xs : List Int} (hS : 0 < S) (h : cellsOk S xs) (t : Nat) : cellF xs t < S := by
  unfold cellF
  by_cases c : t < xs.length
  · have := cellsOk_at h c
    omega
  · rw [List.getD_eq_getElem?_getD, List.getElem?_eq_none (by omega)]
    simpa using hS
theorem wn_cell {S : Nat} {xs : List Int} (h : cellsOk S xs) (i : Nat) : ∀ m, i + m ≤ xs.length → wn (S : Int) (fun t => xs.getD t 0) i m = ((hn S (cellF xs) i m : Nat) : Int)
  | 0, _ => rfl
  | m + 1, hm => by
    have a := cellsOk_at h (k := i + m) (by omega)
    rw [wn, wn_cell h i m (by omega), hn]
    have b : ((cellF xs (i + m) : Nat) : Int) = xs.getD (i + m) 0 := by unfold cellF; omega
    rw [← b]
    push_cast
    rfl
theorem cell_app {S k p : Nat} {ys : List Int} (t : Nat) (ht : t < k) : cellF (winL S k p ++ ys) t = cellF (winL S k p) t := by
  unfold cellF
  rw [List.getD_eq_getElem?_getD, List.getD_eq_getElem?_getD, List.getElem?_append_left (by rw [winL_length]; exact ht)]
theorem hn_congr {S : Nat} {f g : Nat → Nat} (i : Nat) : ∀ m, (∀ d, d < m → f (i + d) = g (i + d)) → hn S f i m = hn S g i m
  | 0, _ => rfl
  | m + 1, h => by rw [hn, hn, hn_congr i m (fun d hd => h d (by omega)), h m (by omega)]
theorem win_first {S k p : Nat} {ys : List Int} (hS : 0 < S) (hp : p < S ^ k) : hn S (cellF (winL S k p ++ ys)) 0 k = p := by
  rw [hn_congr 0 k (g := cellF (winL S k p)) (fun d hd => cell_app _ (by omega))]
  have h := wn_cell (winL_ok (S := S) (long := k) (x := p) hS) 0 k (by rw [winL_length]; omega)
  rw [win_digits hS k (by omega), show k - 0 - k = 0 by omega, Nat.pow_zero, Nat.div_one, Nat.mod_eq_of_lt hp] at h
  exact (Int.ofNat_inj.1 h).symm
theorem path_cells {S n : Nat} {T : List Int} : ∀ (cs : List (Nat × Nat)) (u : Nat × Nat), okP S n T u cs → ∀ c ∈ cs, c.1 < S ∧ c.2 < S
  | [], u, _, c, hc => by simp at hc
  | d :: cs, u, h, c, hc => by
    rcases List.mem_cons.1 hc with rfl | hc
    · exact ⟨h.1.1, h.1.2.1⟩
    · exact path_cells cs _ h.2 c hc
theorem path_way {S n : Nat} {T : List Int} : ∀ (cs : List (Nat × Nat)) (u : Nat × Nat), okP S n T u cs → ∀ j (hj : j < cs.length), OkWay S T (endP S n u (cs.take j)) cs[j]
  | [], u, _, j, hj => by simp at hj
  | d :: cs, u, h, 0, hj => h.1
  | d :: cs, u, h, j + 1, hj => path_way cs _ h.2 j (by simpa using hj)
/-- Along the way the last cells spell the places. -/
theorem place_at {S k p : Nat} {T : List Int} (hS : 0 < S) (hp : p < S ^ k) (full : List (Nat × Nat)) (hk : okP S (S ^ k) T (p, p) full) : ∀ j, j ≤ full.length →
    endP S (S ^ k) (p, p) (full.take j) = (hn S (cellF (winL S k p ++ full.map fun y => (y.1 : Int))) j k, hn S (cellF (winL S k p ++ full.map fun y => (y.2 : Int))) j k)
  | 0, _ => by rw [List.take_zero, win_first hS hp, win_first hS hp]; rfl
  | j + 1, hj => by
    have ih := place_at hS hp full hk j (by omega)
    have hl : j < full.length := by omega
    rw [List.take_succ_eq_append_getElem hl, endP_append, ih]
    have cell : ∀ (g : Nat × Nat → Nat), cellF (winL S k p ++ full.map fun y => ((g y : Nat) : Int)) (j + k) = g full[j] := fun g => by
      unfold cellF
      rw [List.getD_eq_getElem?_getD, List.getElem?_append_right (by rw [winL_length]; omega), winL_length, show j + k - k = j by omega]
      simp [hl]
    have ok1 : ∀ (g : Nat × Nat → Nat), (∀ y ∈ full, g y < S) → cellsOk S (winL S k p ++ full.map fun y => ((g y : Nat) : Int)) := fun g hg z hz => by
      rcases List.mem_append.1 hz with hz | hz
      · exact winL_ok hS z hz
      · obtain ⟨y, hy, rfl⟩ := List.mem_map.1 hz
        have := hg y hy
        omega
    have cs := path_cells full (p, p) hk
    show stepP S (S ^ k) _ full[j] = _
    unfold stepP
    have s1 := hn_step (S := S) (cellF_lt hS (ok1 (fun y => y.1) (fun y hy => (cs y hy).1))) k j
    have s2 := hn_step (S := S) (cellF_lt hS (ok1 (fun y => y.2) (fun y hy => (cs y hy).2))) k j
    rw [cell fun y => y.1] at s1
    rw [cell fun y => y.2] at s2
    rw [← s1, ← s2]

theorem twin_ok {S k p : Nat} {T : List Int} (hS : 0 < S) {full : List (Nat × Nat)} (hk : okP S (S ^ k) T (p, p) full) : cellsOk S (winL S k p ++ full.map fun y => (y.1 : Int)) ∧ cellsOk S (winL S k p ++ full.map fun y => (y.2 : Int)) := by
  have cs := path_cells full (p, p) hk
  refine ⟨fun z hz => ?_, fun z hz => ?_⟩
  · rcases List.mem_append.1 hz with hz | hz
    · exact winL_ok hS z hz
    · obtain ⟨y, hy, rfl⟩ := List.mem_map.1 hz
      have := (cs y hy).1
      omega
  · rcases List.mem_append.1 hz with hz | hz
    · exact winL_ok hS z hz
    · obtain ⟨y, hy, rfl⟩ := List.mem_map.1 hz
      have := (cs y hy).2
      omega
theorem twin_apply {S R p : Nat} {T : List Int} (hS : 0 < S) (hp : p < S ^ (2 * R)) {full : List (Nat × Nat)} (hk : okP S (S ^ (2 * R)) T (p, p) full) : applyL S R T (winL S (2 * R) p ++ full.map fun y => (y.1 : Int)) = applyL S R T (winL S (2 * R) p ++ full.map fun y => (y.2 : Int)) := by
  obtain ⟨o1, o2⟩ := twin_ok hS hk
  have l1 : (winL S (2 * R) p ++ full.map fun y => (y.1 : Int)).length = 2 * R + full.length := by rw [List.length_append, winL_length, List.length_map]
  have l2 : (winL S (2 * R) p ++ full.map fun y => (y.2 : Int)).length = 2 * R + full.length := by rw [List.length_append, winL_length, List.length_map]
  unfold applyL
  rw [l1, l2]
  apply List.map_congr_left
  intro i hi
  have hi' : i < full.length := by simpa using hi
  rw [wn_cell o1 i _ (by omega), wn_cell o2 i _ (by omega), Int.toNat_natCast, Int.toNat_natCast]
  have cell : ∀ (g : Nat × Nat → Nat), cellF (winL S (2 * R) p ++ full.map fun y => ((g y : Nat) : Int)) (i + 2 * R) = g full[i] := fun g => by
    unfold cellF
    rw [List.getD_eq_getElem?_getD, List.getElem?_append_right (by rw [winL_length]; omega), winL_length, show i + 2 * R - 2 * R = i by omega]
    simp [hi']
  have pw := path_way full (p, p) hk i hi'
  rw [place_at hS hp full hk i (by omega)] at pw
  have := pw.2.2
  rw [hn, hn, cell fun y => y.1, cell fun y => y.2]
  exact this
theorem twin_last {S k p : Nat} {T : List Int} (hS : 0 < S) (hp : p < S ^ k) {full : List (Nat × Nat)} (h : IsTwin S (S ^ k) T p full) : (winL S k p ++ full.map fun y => (y.1 : Int)).drop full.length = (winL S k p ++ full.map fun y => (y.2 : Int)).drop full.length := by
  obtain ⟨o1, o2⟩ := twin_ok hS h.2.1
  have l1 : (winL S k p ++ full.map fun y => (y.1 : Int)).length = k + full.length := by rw [List.length_append, winL_length, List.length_map]
  have l2 : (winL S k p ++ full.map fun y => (y.2 : Int)).length = k + full.length := by rw [List.length_append, winL_length, List.length_map]
  have e := twin_end h
  have q := place_at hS hp full h.2.1 full.length (Nat.le_refl _)
  rw [List.take_length] at q
  rw [q] at e
  have inj := hn_inj (cellF_lt hS o1) (cellF_lt hS o2) full.length k e
  apply List.ext_getElem (by rw [List.length_drop, List.length_drop, l1, l2])
  intro t h1 h2
  rw [List.length_drop, l1] at h1
  have := inj t (by omega)
  unfold cellF at this
  have a1 := cellsOk_at o1 (k := full.length + t) (by rw [l1]; omega)
  have a2 := cellsOk_at o2 (k := full.length + t) (by rw [l2]; omega)
  rw [List.getElem_drop, List.getElem_drop]
  have b1 : (winL S k p ++ full.map fun y => (y.1 : Int)).getD (full.length + t) 0 = (winL S k p ++ full.map fun y => (y.1 : Int))[full.length + t]'(by rw [l1]; omega) := by
    rw [List.getD_eq_getElem?_getD, List.getElem?_eq_getElem (by rw [l1]; omega)]; rfl
  have b2 : (winL S k p ++ full.map fun y => (y.2 : Int)).getD (full.length + t) 0 = (winL S k p ++ full.map fun y => (y.2 : Int))[full.length + t]'(by rw [l2]; omega) := by
    rw [List.getD_eq_getElem?_getD, List.getElem?_eq_getElem (by rw [l2]; omega)]; rfl
  rw [← b1, ← b2]
  omega
end Go.Proofs.YtdhbdkkchobinaaDoor

