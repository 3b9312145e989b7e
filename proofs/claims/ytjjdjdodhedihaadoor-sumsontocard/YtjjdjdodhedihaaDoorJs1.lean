/-
  What the last text of this claim leans on, part 1: Spec, Li0, Oa1, Oj1.
-/
namespace Go.Proofs.YtjjdjdodhedihaaDoor

/-- The byte at i, 0 behind the end. -/
def bt (s : ByteArray) (i : Nat) : Nat := if h : i < s.size then s[i].toNat else 0

theorem bt_lt (s : ByteArray) (i : Nat) (h : i < s.size) : s[i].toNat = bt s i := by simp [bt, h]
/-- A rule, as plain data. -/
structure Out where
  kind : Int
  born : Int
  stay : Int
  states : Int
  radius : Int
  table : List Int
  turns : ByteArray

def entries (n m : Nat) : Nat := n ^ (2 * m + 1)

end Go.Proofs.YtjjdjdodhedihaaDoor

namespace Go.Proofs.YtjjdjdodhedihaaDoor
set_option linter.unusedVariables false

/-- The number of the window of m digits from place i on. -/
def wn (S : Int) (f : Nat → Int) (i : Nat) : Nat → Int
  | 0 => 0
  | m + 1 => wn S f i m * S + f (i + m)
/-- A word's cells are states. -/
def cellsOk (S : Int) (xs : List Int) : Prop := ∀ x ∈ xs, 0 ≤ x ∧ x < S
theorem cellsOk_at {S : Int} {xs : List Int} (h : cellsOk S xs) {k : Nat} (hk : k < xs.length) : 0 ≤ xs.getD k 0 ∧ xs.getD k 0 < S := by
  rw [List.getD_eq_getElem?_getD, List.getElem?_eq_getElem hk]
  exact h _ (List.getElem_mem hk)

/-- The ring's cell at place t, however far. -/
def rat (xs : List Int) (t : Int) : Int := xs.getD (t % (xs.length : Int)).toNat 0
def stepL (S : Int) (R : Nat) (T xs : List Int) : List Int :=
  (List.range xs.length).map fun i : Nat => T.getD (wn S (fun d => rat xs ((i : Int) + d - R)) 0 (2 * R + 1)).toNat 0
theorem rat_ok {S : Int} {xs : List Int} (h : cellsOk S xs) (hx : 0 < xs.length) (t : Int) : 0 ≤ rat xs t ∧ rat xs t < S := by
  unfold rat
  have h1 := Int.emod_nonneg t (show (xs.length : Int) ≠ 0 by omega)
  have h2 := Int.emod_lt_of_pos t (show (0 : Int) < xs.length by omega)
  exact cellsOk_at h (by omega)
/-- layOut's three parts. -/
theorem rat_mid (xs : List Int) {j : Nat} (h : j < xs.length) : rat xs (j : Int) = xs.getD j 0 := by
  unfold rat
  rw [Int.emod_eq_of_lt (by omega) (by omega)]
  simp
theorem rat_add (xs : List Int) (t k : Int) : rat xs (t + (xs.length : Int) * k) = rat xs t := by
  unfold rat
  rw [Int.add_mul_emod_self_left]
end Go.Proofs.YtjjdjdodhedihaaDoor

namespace Go.Proofs.YtjjdjdodhedihaaDoor
set_option linter.unusedVariables false

theorem places_div {S R L : Nat} (hS : 2 ≤ S) (h : L = S ^ (2 * R + 1)) : L / S = S ^ (2 * R) := by
  rw [h, Nat.pow_succ]
  exact Nat.mul_div_cancel _ (by omega)
end Go.Proofs.YtjjdjdodhedihaaDoor

namespace Go.Proofs.YtjjdjdodhedihaaDoor
set_option linter.unusedVariables false

/-- The number of so many bits. -/
def bitsN (f : Nat → Bool) : Nat → Nat
  | 0 => 0
  | k + 1 => bitsN f k + if f k then 2 ^ k else 0
theorem bitsN_lt (f : Nat → Bool) : ∀ k, bitsN f k < 2 ^ k
  | 0 => by simp [bitsN]
  | k + 1 => by
    have := bitsN_lt f k
    rw [bitsN, Nat.pow_succ]
    split <;> omega
theorem testBit_bitsN (f : Nat → Bool) : ∀ k q, (bitsN f k).testBit q = (decide (q < k) && f q)
  | 0, q => by simp [bitsN]
  | k + 1, q => by
    have h := bitsN_lt f k
    have ih := testBit_bitsN f k q
    have e : bitsN f (k + 1) = 2 ^ k * (if f k then 1 else 0) + bitsN f k := by rw [bitsN]; split <;> omega
    rw [e, Nat.testBit_two_pow_mul_add _ h]
    by_cases hq : q < k
    · rw [if_pos hq, ih]; simp [hq, show q < k + 1 by omega]
    · rw [if_neg hq]
      by_cases hk : q = k
      · subst hk; simp; split <;> simp_all
      · have : ¬ q < k + 1 := by omega
        simp only [this, decide_false, Bool.false_and]
        have h1 : q - k ≠ 0 := by omega
        split
        · obtain ⟨d, hd⟩ : ∃ d, q - k = d + 1 := ⟨q - k - 1, by omega⟩
          rw [hd, Nat.testBit_succ]; simp
        · simp
theorem bitsN_ext {f g : Nat → Bool} {k : Nat} (h : ∀ q, q < k → f q = g q) : bitsN f k = bitsN g k := by
  apply Nat.eq_of_testBit_eq
  intro q
  rw [testBit_bitsN, testBit_bitsN]
  by_cases hq : q < k
  · simp [hq, h q hq]
  · simp [hq]
theorem bitsN_of {f : Nat → Bool} {k m : Nat} (hm : m < 2 ^ k) (h : ∀ q, q < k → m.testBit q = f q) : m = bitsN f k := by
  apply Nat.eq_of_testBit_eq
  intro q
  rw [testBit_bitsN]
  by_cases hq : q < k
  · simp [hq, h q hq]
  · simp only [hq, decide_false, Bool.false_and]
    exact Nat.testBit_lt_two_pow (Nat.lt_of_lt_of_le hm (Nat.pow_le_pow_right (by omega) (by omega)))
/-- Without its lowest bit. -/
theorem and_pred {x k : Nat} (hk : x.testBit k = true) (hl : ∀ j, j < k → x.testBit j = false) (q : Nat) : (x &&& (x - 1)).testBit q = (x.testBit q && decide (q ≠ k)) := by
  obtain ⟨a, ha⟩ : ∃ a, x = 2 ^ k * (2 * a + 1) := by
    have h0 : x % 2 ^ k = 0 := by
      apply Nat.eq_of_testBit_eq
      intro j
      rw [Nat.testBit_mod_two_pow]
      by_cases hj : j < k
      · simp [hl j hj]
      · simp [hj]
    have h1 : x = 2 ^ k * (x / 2 ^ k) := by have := Nat.div_add_mod x (2 ^ k); omega
    have h2 : (x / 2 ^ k) % 2 = 1 := by
      have := hk
      rw [Nat.testBit, Nat.shiftRight_eq_div_pow] at this
      simp at this
      omega
    exact ⟨x / 2 ^ k / 2, by rw [show 2 * (x / 2 ^ k / 2) + 1 = x / 2 ^ k by omega]; exact h1⟩
  have hp : 0 < 2 ^ k := Nat.pow_pos (by omega)
  have hx1 : x - 1 = 2 ^ k * (2 * a) + (2 ^ k - 1) := by rw [ha, Nat.mul_add]; omega
  rw [Nat.testBit_and, hx1, Nat.testBit_two_pow_mul_add _ (by omega)]
  by_cases hq : q < k
  · rw [if_pos hq, hl q hq]; simp
  · rw [if_neg hq]
    by_cases e : q = k
    · subst e; simp
    · obtain ⟨d, hd⟩ : ∃ d, q = k + 1 + d := ⟨q - k - 1, by omega⟩
      have t1 : x.testBit q = a.testBit d := by
        have : x = 2 ^ k * (2 * a + 1) + 0 := by omega
        rw [this, Nat.testBit_two_pow_mul_add _ hp, if_neg hq, show q - k = d + 1 by omega, Nat.testBit_succ]
        congr 1; omega
      have t2 : (2 * a).testBit (q - k) = a.testBit d := by
        rw [show q - k = d + 1 by omega, Nat.testBit_succ]
        congr 1; omega
      rw [t1, t2]
      simp [e]
/-- Does a cell lead from a place to a place, a state coming of it? -/
def leadB (S n : Nat) (T : List Int) (c p q : Nat) : Bool := (List.range S).any fun x => decide (T.getD (p * S + x) 0 = (c : Int)) && decide ((p * S + x) % n = q)
/-- Does a set of places lead to a place? -/
def anyB (S n : Nat) (T : List Int) (c m q : Nat) : Bool := (List.range n).any fun p => m.testBit p && leadB S n T c p q
def leadN (S n : Nat) (T : List Int) (c p : Nat) : Nat := bitsN (leadB S n T c p) n
def follN (S n : Nat) (T : List Int) (c m : Nat) : Nat := bitsN (anyB S n T c m) n
theorem anyB_iff {S n : Nat} {T : List Int} {c m q : Nat} : anyB S n T c m q = true ↔ ∃ p, p < n ∧ m.testBit p = true ∧ leadB S n T c p q = true := by
  simp [anyB]
theorem leadB_iff {S n : Nat} {T : List Int} {c p q : Nat} : leadB S n T c p q = true ↔ ∃ x, x < S ∧ T.getD (p * S + x) 0 = (c : Int) ∧ (p * S + x) % n = q := by
  simp [leadB]
theorem anyB_zero (S n : Nat) (T : List Int) (c q : Nat) : anyB S n T c 0 q = false := by
  simp [anyB]
/-- One place taken out of a set. -/
theorem anyB_out {S n : Nat} {T : List Int} {c m k q : Nat} (hk : m.testBit k = true) (hl : ∀ j, j < k → m.testBit j = false) (kn : k < n) : anyB S n T c m q = (leadB S n T c k q || anyB S n T c (m &&& (m - 1)) q) := by
  rw [Bool.eq_iff_iff, Bool.or_eq_true, anyB_iff, anyB_iff]
  constructor
  · rintro ⟨p, hp, h1, h2⟩
    by_cases e : p = k
    · subst e; exact Or.inl h2
    · exact Or.inr ⟨p, hp, by rw [and_pred hk hl, h1]; simp [e], h2⟩
  · rintro (h | ⟨p, hp, h1, h2⟩)
    · exact ⟨k, kn, hk, h⟩
    · rw [and_pred hk hl] at h1
      simp at h1
      exact ⟨p, hp, h1.1, h2⟩
theorem follN_lt (S n : Nat) (T : List Int) (c m : Nat) : follN S n T c m < 2 ^ n := bitsN_lt _ _
theorem leadN_lt (S n : Nat) (T : List Int) (c p : Nat) : leadN S n T c p < 2 ^ n := bitsN_lt _ _
/-- What was taken together so far, and what is still to come. -/
def FollInv (S n : Nat) (T : List Int) (c m cur out : Nat) : Prop := cur < 2 ^ n ∧ out < 2 ^ n ∧ ∀ q, q < n → (out.testBit q || anyB S n T c cur q) = anyB S n T c m q
theorem FollInv.start {S n : Nat} {T : List Int} {c m : Nat} (h : m < 2 ^ n) : FollInv S n T c m m 0 := ⟨h, Nat.pow_pos (by omega), fun q _ => by simp⟩
theorem FollInv.fin {S n : Nat} {T : List Int} {c m out : Nat} (h : FollInv S n T c m 0 out) : out = follN S n T c m := bitsN_of h.2.1 fun q hq => by
  have := h.2.2 q hq
  rw [anyB_zero, Bool.or_false] at this
  exact this
theorem FollInv.step {S n : Nat} {T : List Int} {c m cur out k : Nat} (h : FollInv S n T c m cur out) (hk : cur.testBit k = true) (hl : ∀ j, j < k → cur.testBit j = false) : k < n ∧ FollInv S n T c m (cur &&& (cur - 1)) (out ||| leadN S n T c k) ∧ cur &&& (cur - 1) < cur := by
  have kn : k < n := by
    rcases Nat.lt_or_ge k n with c | c
    · exact c
    · rw [Nat.testBit_lt_two_pow (Nat.lt_of_lt_of_le h.1 (Nat.pow_le_pow_right (by omega) c))] at hk
      cases hk
  have c0 : cur ≠ 0 := by rintro rfl; simp at hk
  refine ⟨kn, ⟨Nat.lt_of_le_of_lt Nat.and_le_left h.1, Nat.or_lt_two_pow h.2.1 (leadN_lt ..), fun q hq => ?_⟩, ?_⟩
  · rw [← h.2.2 q hq, anyB_out (q := q) hk hl kn, Nat.testBit_or, leadN, testBit_bitsN]
    simp [hq, Bool.or_assoc]
  · have : cur &&& (cur - 1) ≤ cur - 1 := Nat.and_le_right
    omega
/-- The leads of a place, cell by cell. -/
def leadUpto (S n : Nat) (T : List Int) (c p m : Nat) : Nat := bitsN (fun q => (List.range m).any fun x => decide (T.getD (p * S + x) 0 = (c : Int)) && decide ((p * S + x) % n = q)) n
theorem leadUpto_zero (S n : Nat) (T : List Int) (c p : Nat) : leadUpto S n T c p 0 = 0 := by
  unfold leadUpto
  have : ∀ k, bitsN (fun q => (List.range 0).any fun x => decide (T.getD (p * S + x) 0 = (c : Int)) && decide ((p * S + x) % n = q)) k = 0 := fun k => by
    induction k with
    | zero => rfl
    | succ k ih => rw [bitsN, ih]; simp
  exact this n
theorem leadUpto_full (S n : Nat) (T : List Int) (c p : Nat) : leadUpto S n T c p S = leadN S n T c p := rfl
theorem leadUpto_same {S n : Nat} {T : List Int} {c p m : Nat} (h : T.getD (p * S + m) 0 ≠ (c : Int)) : leadUpto S n T c p (m + 1) = leadUpto S n T c p m := by
  unfold leadUpto
  apply bitsN_ext
  intro q hq
  rw [List.range_succ, List.any_append]
  have : decide (T.getD (p * S + m) 0 = (c : Int)) = false := by simp only [decide_eq_false_iff_not]; exact h
  simp only [List.any_cons, List.any_nil, this, Bool.false_and, Bool.or_false]
theorem leadUpto_more {S n : Nat} {T : List Int} {c p m : Nat} (hn : 0 < n) (h : T.getD (p * S + m) 0 = (c : Int)) : leadUpto S n T c p (m + 1) = leadUpto S n T c p m ||| 2 ^ ((p * S + m) % n) := by
  apply Nat.eq_of_testBit_eq
  intro q
  unfold leadUpto
  rw [Nat.testBit_or, testBit_bitsN, testBit_bitsN, Nat.testBit_two_pow]
  have hm := Nat.mod_lt (p * S + m) hn
  by_cases hq : q < n
  · simp only [hq, decide_true, Bool.true_and]
    rw [List.range_succ, List.any_append]
    simp only [List.any_cons, List.any_nil, h, decide_true, Bool.true_and, Bool.or_false]
  · have : ¬ (p * S + m) % n = q := by omega
    simp [hq, this]
theorem leadUpto_lt (S n : Nat) (T : List Int) (c p m : Nat) : leadUpto S n T c p m < 2 ^ n := bitsN_lt _ _
/-- A set of places that was come to: its number, by which state, from which, and the word so far. -/
structure En where
  set : Nat
  st : Nat
  ah : Nat
  wd : List Int
def stepQ (f : Nat → Nat → Nat) (S : Nat) (Q : List En) (t : Nat) : List En :=
  match Q[t / S]? with
  | none => Q
  | some e => if (f (t % S) e.set) ∈ Q.map En.set then Q else Q ++ [⟨f (t % S) e.set, t % S, t / S, e.wd ++ [((t % S : Nat) : Int)]⟩]
def runQ (f : Nat → Nat → Nat) (S q0 : Nat) : Nat → List En
  | 0 => [⟨q0, 0, 0, []⟩]
  | t + 1 => stepQ f S (runQ f S q0 t) t
def NoZero (Q : List En) : Prop := ∀ e ∈ Q, e.set ≠ 0
def OrphanIs (f : Nat → Nat → Nat) (S q0 : Nat) : Option (List Int) → Prop
  | some wd => ∃ t e, NoZero (runQ f S q0 t) ∧ (runQ f S q0 t)[t / S]? = some e ∧ f (t % S) e.set = 0 ∧ wd = e.wd ++ [((t % S : Nat) : Int)]
  | none => ∃ a, NoZero (runQ f S q0 (a * S)) ∧ (runQ f S q0 (a * S)).length ≤ a
theorem stepQ_sub (f : Nat → Nat → Nat) (S : Nat) (Q : List En) (t : Nat) : ∀ e, e ∈ Q → e ∈ stepQ f S Q t := fun e he => by
  unfold stepQ
  split
  · exact he
  · split
    · exact he
    · exact List.mem_append_left _ he
theorem runQ_sub (f : Nat → Nat → Nat) (S q0 t : Nat) : ∀ d e, e ∈ runQ f S q0 t → e ∈ runQ f S q0 (t + d)
  | 0, e, h => h
  | d + 1, e, h => stepQ_sub f S _ _ e (runQ_sub f S q0 t d e h)
theorem runQ_stop {f : Nat → Nat → Nat} {S q0 a : Nat} (hS : 0 < S) (h : (runQ f S q0 (a * S)).length ≤ a) : ∀ d, runQ f S q0 (a * S + d) = runQ f S q0 (a * S)
  | 0 => rfl
  | d + 1 => by
    show stepQ f S (runQ f S q0 (a * S + d)) (a * S + d) = _
    rw [runQ_stop hS h d, stepQ]
    have : a ≤ (a * S + d) / S := by rw [Nat.mul_comm, Nat.mul_add_div hS]; exact Nat.le_add_right _ _
    rw [List.getElem?_eq_none (by omega)]
/-- How a queue hangs together. -/
structure QOk (S : Nat) (Q : List En) : Prop where
  pos : 0 < Q.length
  first : ∀ e, Q[0]? = some e → e.wd = []
  link : ∀ k e, 0 < k → Q[k]? = some e → e.ah < k ∧ e.st < S ∧ ∃ e', Q[e.ah]? = some e' ∧ e.wd = e'.wd ++ [(e.st : Int)]
theorem stepQ_ok {f : Nat → Nat → Nat} {S : Nat} {Q : List En} (hS : 0 < S) (h : QOk S Q) (t : Nat) : QOk S (stepQ f S Q t) := by
  unfold stepQ
  split
  · exact h
  · rename_i e he
    split
    · exact h
    · have hlt : t / S < Q.length := (List.getElem?_eq_some_iff.1 he).1
      refine ⟨by simp, fun e' h' => ?_, fun k e' hk h' => ?_⟩
      · rw [List.getElem?_append_left h.pos] at h'
        exact h.first e' h'
      · by_cases c : k < Q.length
        · rw [List.getElem?_append_left c] at h'
          obtain ⟨a1, a2, e2, a3, a4⟩ := h.link k e' hk h'
          exact ⟨a1, a2, e2, by rw [List.getElem?_append_left (by omega)]; exact a3, a4⟩
        · have hk2 : k = Q.length := by
            have := (List.getElem?_eq_some_iff.1 h').1
            simp at this
            omega
          subst hk2
          rw [List.getElem?_append_right (Nat.le_refl _)] at h'
          simp at h'
          subst h'
          exact ⟨hlt, Nat.mod_lt _ hS, e, by rw [List.getElem?_append_left hlt]; exact he, rfl⟩
theorem runQ_ok {f : Nat → Nat → Nat} {S q0 : Nat} (hS : 0 < S) : ∀ t, QOk S (runQ f S q0 t)
  | 0 => ⟨by simp [runQ], fun e h => by simp [runQ] at h; rw [← h], fun k e hk h => by
      have := (List.getElem?_eq_some_iff.1 h).1
      simp [runQ] at this
      omega⟩
  | t + 1 => stepQ_ok hS (runQ_ok hS t) t
end Go.Proofs.YtjjdjdodhedihaaDoor

