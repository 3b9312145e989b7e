/-
  What the last text of this claim leans on, part 12: Oc6.
-/
import Derived.Test.YtjjdjdodhedihaaDoorJs11
namespace Go.Proofs.YtjjdjdodhedihaaDoor
set_option linter.unusedVariables false

def stepP (S n : Nat) (u c : Nat × Nat) : Nat × Nat := ((u.1 * S + c.1) % n, (u.2 * S + c.2) % n)
def OkWay (S : Nat) (T : List Int) (u c : Nat × Nat) : Prop := c.1 < S ∧ c.2 < S ∧ T.getD (u.1 * S + c.1) 0 = T.getD (u.2 * S + c.2) 0
/-- A path: cell by cell the same becomes of both. -/
def okP (S n : Nat) (T : List Int) : Nat × Nat → List (Nat × Nat) → Prop
  | _, [] => True
  | u, c :: r => OkWay S T u c ∧ okP S n T (stepP S n u c) r
def endP (S n : Nat) : Nat × Nat → List (Nat × Nat) → Nat × Nat
  | u, [] => u
  | u, c :: r => endP S n (stepP S n u c) r
theorem okP_append (S n : Nat) (T : List Int) : ∀ (l m : List (Nat × Nat)) (u : Nat × Nat), okP S n T u (l ++ m) ↔ okP S n T u l ∧ okP S n T (endP S n u l) m
  | [], m, u => by simp [okP, endP]
  | c :: l, m, u => by
    have ih := okP_append S n T l m (stepP S n u c)
    show OkWay S T u c ∧ okP S n T _ (l ++ m) ↔ (OkWay S T u c ∧ okP S n T _ l) ∧ okP S n T (endP S n _ l) m
    rw [ih, and_assoc]
theorem endP_append (S n : Nat) : ∀ (l m : List (Nat × Nat)) (u : Nat × Nat), endP S n u (l ++ m) = endP S n (endP S n u l) m
  | [], m, u => rfl
  | c :: l, m, u => endP_append S n l m (stepP S n u c)
theorem stepP_lt {S n : Nat} (hn : 0 < n) (u c : Nat × Nat) : (stepP S n u c).1 < n ∧ (stepP S n u c).2 < n := ⟨Nat.mod_lt _ hn, Nat.mod_lt _ hn⟩
theorem endP_lt {S n : Nat} (hn : 0 < n) : ∀ (l : List (Nat × Nat)) (u : Nat × Nat), u.1 < n → u.2 < n → (endP S n u l).1 < n ∧ (endP S n u l).2 < n
  | [], u, h1, h2 => ⟨h1, h2⟩
  | c :: l, u, _, _ => endP_lt hn l _ (stepP_lt hn u c).1 (stepP_lt hn u c).2

/-- What holds while it goes on. -/
structure Inv (S n : Nat) (T : List Int) (starts : List (Nat × Nat)) (sn : List Bool) (st : List Stp) : Prop where
  len : sn.length = n * n
  cnt : st.length = sn.count true
  seen : ∀ p q, p < n → q < n → (wasSeen n sn p q = true ↔ ∃ j, j < st.length ∧ (stAt st j).p = p ∧ (stAt st j).q = q)
  rng : ∀ j, j < st.length → (stAt st j).p < n ∧ (stAt st j).q < n
  link : ∀ j, j < st.length → ((stAt st j).h < 0 ∧ ((stAt st j).p, (stAt st j).q) ∈ starts) ∨ ∃ h : Nat, h < j ∧ (stAt st j).h = (h : Int) ∧ OkWay S T ((stAt st h).p, (stAt st h).q) ((stAt st j).a, (stAt st j).b) ∧ stepP S n ((stAt st h).p, (stAt st h).q) ((stAt st j).a, (stAt st j).b) = ((stAt st j).p, (stAt st j).q)
theorem Inv.bound {S n : Nat} {T : List Int} {starts : List (Nat × Nat)} {sn : List Bool} {st : List Stp} (h : Inv S n T starts sn st) : st.length ≤ n * n := by
  rw [h.cnt, ← h.len]; exact List.count_le_length
theorem Inv.chains {S n : Nat} {T : List Int} {starts : List (Nat × Nat)} {sn : List Bool} {st : List Stp} (h : Inv S n T starts sn st) : Chains st := fun j hj => by
  rcases h.link j hj with ⟨h0, _⟩ | ⟨k, h0, h1, _⟩
  · exact Or.inl h0
  · right; rw [h1]; simpa using h0
theorem Inv.start (S n : Nat) (T : List Int) (starts : List (Nat × Nat)) : Inv S n T starts (List.replicate (n * n) false) [] := by
  refine ⟨by simp, by simp [List.count_replicate], fun p q hp hq => ?_, fun j hj => by simp at hj, fun j hj => by simp at hj⟩
  constructor
  · intro h
    unfold wasSeen at h
    rw [List.getD_eq_getElem?_getD, List.getElem?_replicate] at h
    split at h <;> simp at h
  · rintro ⟨j, hj, _⟩; simp at hj
theorem code_inj {n p q p' q' : Nat} (hq : q < n) (hq' : q' < n) (e : p * n + q = p' * n + q') : p = p' ∧ q = q' := by
  have h1 : (p * n + q) / n = p := by rw [Nat.mul_comm, Nat.mul_add_div (by omega), Nat.div_eq_of_lt hq]; omega
  have h2 : (p' * n + q') / n = p' := by rw [Nat.mul_comm, Nat.mul_add_div (by omega), Nat.div_eq_of_lt hq']; omega
  have : p = p' := by rw [← h1, ← h2, e]
  subst this
  exact ⟨rfl, by omega⟩
theorem code_lt {n p q : Nat} (hp : p < n) (hq : q < n) : p * n + q < n * n := by
  have : (p + 1) * n ≤ n * n := Nat.mul_le_mul_right _ (by omega)
  rw [Nat.add_mul] at this
  omega
theorem count_set_true : ∀ (l : List Bool) (k : Nat), k < l.length → l.getD k false = false → (l.set k true).count true = l.count true + 1
  | [], k, h, _ => by simp at h
  | b :: l, 0, _, h => by
    have : b = false := by simpa [List.getD] using h
    subst this
    simp
  | b :: l, k + 1, h, h2 => by
    have ih := count_set_true l k (by simpa using h) (by simpa [List.getD] using h2)
    rw [List.set_cons_succ, List.count_cons, List.count_cons, ih]
    omega
theorem stAt_left (st : List Stp) (s : Stp) {j : Nat} (h : j < st.length) : stAt (st ++ [s]) j = stAt st j := by
  unfold stAt
  rw [List.getD_eq_getElem?_getD, List.getD_eq_getElem?_getD, List.getElem?_append_left h]
theorem stAt_last (st : List Stp) (s : Stp) : stAt (st ++ [s]) st.length = s := by
  unfold stAt
  rw [List.getD_eq_getElem?_getD, List.getElem?_append_right (Nat.le_refl _)]
  simp
theorem seen_set {n : Nat} {sn : List Bool} {p q p' q' : Nat} (hp : p < n) (hq : q < n) (hp' : p' < n) (hq' : q' < n) (hl : sn.length = n * n) : wasSeen n (sn.set (p * n + q) true) p' q' = (decide (p' = p ∧ q' = q) || wasSeen n sn p' q') := by
  unfold wasSeen
  have h1 := code_lt hp hq
  rw [List.getD_eq_getElem?_getD, List.getD_eq_getElem?_getD, List.getElem?_set]
  by_cases e : p * n + q = p' * n + q'
  · obtain ⟨rfl, rfl⟩ := code_inj hq hq' e
    rw [if_pos e, if_pos (by omega)]
    simp
  · rw [if_neg e]
    have : ¬ (p' = p ∧ q' = q) := by rintro ⟨rfl, rfl⟩; exact e rfl
    simp [this]
/-- A visit keeps it. -/
theorem Inv.visit {S n : Nat} {T : List Int} {starts : List (Nat × Nat)} {sn : List Bool} {st : List Stp} (h : Inv S n T starts sn st) (s : Stp) (hp : s.p < n) (hq : s.q < n)
    (hl : (s.h < 0 ∧ (s.p, s.q) ∈ starts) ∨ ∃ k : Nat, k < st.length ∧ s.h = (k : Int) ∧ OkWay S T ((stAt st k).p, (stAt st k).q) (s.a, s.b) ∧ stepP S n ((stAt st k).p, (stAt st k).q) (s.a, s.b) = (s.p, s.q)) :
    Inv S n T starts (snAfter n sn s) (stAfter n sn st s) := by
  unfold snAfter stAfter
  cases hb : wasSeen n sn s.p s.q with
  | true => exact h
  | false =>
    simp only [Bool.false_eq_true, if_false]
    refine ⟨by simp [h.len], ?_, fun p q hp' hq' => ?_, fun j hj => ?_, fun j hj => ?_⟩
    · rw [count_set_true _ _ (by rw [h.len]; exact code_lt hp hq) hb, List.length_append, h.cnt]; rfl
    · rw [seen_set hp hq hp' hq' h.len]
      simp only [Bool.or_eq_true, decide_eq_true_eq]
      constructor
      · rintro (⟨rfl, rfl⟩ | h1)
        · exact ⟨st.length, by simp, by rw [stAt_last], by rw [stAt_last]⟩
        · obtain ⟨j, hj, e1, e2⟩ := (h.seen p q hp' hq').1 h1
          exact ⟨j, by simp; omega, by rw [stAt_left _ _ hj]; exact e1, by rw [stAt_left _ _ hj]; exact e2⟩
      · rintro ⟨j, hj, e1, e2⟩
        by_cases c : j < st.length
        · right
          rw [stAt_left _ _ c] at e1 e2
          exact (h.seen p q hp' hq').2 ⟨j, c, e1, e2⟩
        · left
          have : j = st.length := by simp at hj; omega
          subst this
          rw [stAt_last] at e1 e2
          exact ⟨e1.symm, e2.symm⟩
    · by_cases c : j < st.length
      · rw [stAt_left _ _ c]; exact h.rng j c
      · have : j = st.length := by simp at hj; omega
        subst this
        rw [stAt_last]; exact ⟨hp, hq⟩
    · by_cases c : j < st.length
      · rw [stAt_left _ _ c]
        rcases h.link j c with q1 | ⟨k, h0, h1, h2, h3⟩
        · exact Or.inl q1
        · right
          refine ⟨k, h0, h1, ?_, ?_⟩ <;> rw [stAt_left _ _ (by omega)]
          · exact h2
          · exact h3
      · have : j = st.length := by simp at hj; omega
        subst this
        rw [stAt_last]
        rcases hl with q1 | ⟨k, h0, h1, h2, h3⟩
        · exact Or.inl q1
        · right
          refine ⟨k, h0, h1, ?_, ?_⟩ <;> rw [stAt_left _ _ h0]
          · exact h2
          · exact h3
theorem seen_after {n : Nat} {sn : List Bool} (hl : sn.length = n * n) (s : Stp) (hp : s.p < n) (hq : s.q < n) {p q : Nat} (hp' : p < n) (hq' : q < n) : wasSeen n (snAfter n sn s) p q = (decide (p = s.p ∧ q = s.q) || wasSeen n sn p q) := by
  unfold snAfter
  cases hb : wasSeen n sn s.p s.q with
  | true =>
    simp only [if_true]
    by_cases e : p = s.p ∧ q = s.q
    · rw [e.1, e.2, hb]; simp
    · simp [e]
  | false =>
    simp only [Bool.false_eq_true, if_false]
    exact seen_set hp hq hp' hq' hl
theorem stAfter_left {n : Nat} {sn : List Bool} {st : List Stp} (s : Stp) {j : Nat} (hj : j < st.length) : stAt (stAfter n sn st s) j = stAt st j ∧ j < (stAfter n sn st s).length := by
  unfold stAfter
  split
  · exact ⟨rfl, hj⟩
  · exact ⟨stAt_left _ _ hj, by simp; omega⟩
/-- A stop's chain is a path from a start to it. -/
theorem Inv.path {S n : Nat} {T : List Int} {starts : List (Nat × Nat)} {sn : List Bool} {st : List Stp} (h : Inv S n T starts sn st) : ∀ (N j : Nat), j < N → j < st.length → (chain st j).1 ∈ starts ∧ okP S n T (chain st j).1 (chain st j).2 ∧ endP S n (chain st j).1 (chain st j).2 = ((stAt st j).p, (stAt st j).q) ∧ (chain st j).2.length ≤ j := by
  intro N
  induction N with
  | zero => intro j hj; omega
  | succ N ih =>
    intro j hN hj
    rcases h.link j hj with ⟨h0, h1⟩ | ⟨k, h0, h1, h2, h3⟩
    · rw [chain_root h0]
      exact ⟨h1, trivial, rfl, by simp⟩
    · obtain ⟨_, e⟩ := chain_step h.chains hj h1
      obtain ⟨a, b, c, d⟩ := ih k (by omega) (by omega)
      rw [e]
      refine ⟨a, ?_, ?_, by simp; omega⟩
      · rw [okP_append, c]
        exact ⟨b, h2, trivial⟩
      · rw [endP_append, c]
        exact h3
/-- Where no way is wanted from what was seen, and each leads to what was seen, none is wanted from whatever is reached. -/
theorem none_wanted {S n : Nat} {T : List Int} (hn : 0 < n) (A : Nat → Nat → Bool) (want : Nat × Nat → Nat × Nat → Bool)
    (hc : ∀ u c : Nat × Nat, u.1 < n → u.2 < n → A u.1 u.2 = true → OkWay S T u c → want u c = false ∧ A (stepP S n u c).1 (stepP S n u c).2 = true) :
    ∀ (cs : List (Nat × Nat)) (u c : Nat × Nat), u.1 < n → u.2 < n → A u.1 u.2 = true → okP S n T u cs → OkWay S T (endP S n u cs) c → want (endP S n u cs) c = false
  | [], u, c, h1, h2, hA, _, hw => (hc u c h1 h2 hA hw).1
  | d :: cs, u, c, h1, h2, hA, hp, hw => none_wanted hn A want hc cs _ c (stepP_lt hn u d).1 (stepP_lt hn u d).2 (hc u d h1 h2 hA hp.1).2 hp.2 hw
end Go.Proofs.YtjjdjdodhedihaaDoor

