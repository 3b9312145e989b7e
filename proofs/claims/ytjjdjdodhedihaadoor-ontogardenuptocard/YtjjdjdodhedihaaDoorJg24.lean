/-
  What the last text of this claim leans on, part 24: Gd2.
-/
import Derived.Test.YtjjdjdodhedihaaDoorJg2
import Derived.Test.YtjjdjdodhedihaaDoorJg23
namespace Go.Proofs.YtjjdjdodhedihaaDoor
set_option linter.unusedVariables false

theorem stp_pos {S n : Nat} {T : List Int} {a : Int} {v : Nat → Nat} {q : Nat} (h : 0 < stp S n T a v q) : ∃ j, j < n * S ∧ T.getD j 0 = a ∧ j % n = q ∧ 0 < v (j / S) := by
  obtain ⟨j, hj, h1⟩ := sumN_pos _ h
  by_cases c : T.getD j 0 = a ∧ j % n = q
  · rw [if_pos c] at h1
    exact ⟨j, hj, c.1, c.2, h1⟩
  · rw [if_neg c] at h1
    omega
theorem stp_ge {S n : Nat} {T : List Int} {a : Int} {v : Nat → Nat} {q j : Nat} (hj : j < n * S) (h1 : T.getD j 0 = a) (h2 : j % n = q) : v (j / S) ≤ stp S n T a v q := by
  have := sumN_term (f := fun j => if T.getD j 0 = a ∧ j % n = q then v (j / S) else 0) (n * S) j hj
  simp only [if_pos (And.intro h1 h2)] at this
  exact this
theorem stp_ge2 {S n : Nat} {T : List Int} {a : Int} {v : Nat → Nat} {q i j : Nat} (hij : i ≠ j) (hi : i < n * S) (hj : j < n * S) (h1 : T.getD i 0 = a) (h2 : i % n = q) (h3 : T.getD j 0 = a) (h4 : j % n = q) : v (i / S) + v (j / S) ≤ stp S n T a v q := by
  rcases Nat.lt_or_gt_of_ne hij with c | c
  · have := sumN_two (f := fun j => if T.getD j 0 = a ∧ j % n = q then v (j / S) else 0) (n * S) i j c hj
    simp only [if_pos (And.intro h1 h2), if_pos (And.intro h3 h4)] at this
    exact this
  · have := sumN_two (f := fun j => if T.getD j 0 = a ∧ j % n = q then v (j / S) else 0) (n * S) j i c hi
    simp only [if_pos (And.intro h1 h2), if_pos (And.intro h3 h4)] at this
    unfold stp
    omega
/-- What two ways bring together. -/
def Two (v : Nat → Nat) (u : Nat × Nat) (x : Nat) : Prop := (u.1 = u.2 → 2 * x ≤ v u.1) ∧ (u.1 ≠ u.2 → x ≤ v u.1 ∧ x ≤ v u.2)
theorem edge_lt {S n p c : Nat} (hp : p < n) (hc : c < S) : p * S + c < n * S := by
  have : (p + 1) * S ≤ n * S := Nat.mul_le_mul_right _ hp
  rw [Nat.add_mul] at this
  omega
theorem edge_div {S p c : Nat} (hc : c < S) : (p * S + c) / S = p := by
  rw [Nat.mul_comm, Nat.mul_add_div (by omega), Nat.div_eq_of_lt hc, Nat.add_zero]
theorem Two.step {S n : Nat} {T : List Int} {v : Nat → Nat} {u c : Nat × Nat} {x : Nat} (h1 : u.1 < n) (h2 : u.2 < n) (ho : OkWay S T u c) (h : Two v u x) : Two (stp S n T (T.getD (u.1 * S + c.1) 0) v) (stepP S n u c) x := by
  obtain ⟨hc1, hc2, he⟩ := ho
  have a1 := stp_ge (S := S) (n := n) (T := T) (v := v) (edge_lt h1 hc1) rfl rfl
  have a2 := stp_ge (S := S) (n := n) (T := T) (v := v) (edge_lt h2 hc2) he.symm rfl
  rw [edge_div hc1] at a1
  rw [edge_div hc2] at a2
  by_cases e : u.1 = u.2
  · have hx := h.1 e
    rw [e] at a1 hx
    refine ⟨fun _ => ?_, fun _ => ⟨?_, ?_⟩⟩
    · show 2 * x ≤ stp S n T (T.getD (u.1 * S + c.1) 0) v ((u.1 * S + c.1) % n)
      rw [e]; omega
    · show x ≤ stp S n T (T.getD (u.1 * S + c.1) 0) v ((u.1 * S + c.1) % n)
      rw [e]; omega
    · show x ≤ stp S n T (T.getD (u.1 * S + c.1) 0) v ((u.2 * S + c.2) % n)
      omega
  · have hx := h.2 e
    refine ⟨fun q => ?_, fun _ => ⟨?_, ?_⟩⟩
    · have q' : (u.1 * S + c.1) % n = (u.2 * S + c.2) % n := q
      have a3 := stp_ge2 (S := S) (n := n) (T := T) (v := v) (a := T.getD (u.1 * S + c.1) 0) (q := (u.1 * S + c.1) % n) (i := u.1 * S + c.1) (j := u.2 * S + c.2) (fun k => e (by
        have := congrArg (· / S) k
        simp only [edge_div hc1, edge_div hc2] at this
        exact this)) (edge_lt h1 hc1) (edge_lt h2 hc2) rfl rfl he.symm q'.symm
      rw [edge_div hc1, edge_div hc2] at a3
      show 2 * x ≤ stp S n T (T.getD (u.1 * S + c.1) 0) v ((u.1 * S + c.1) % n)
      omega
    · show x ≤ stp S n T (T.getD (u.1 * S + c.1) 0) v ((u.1 * S + c.1) % n)
      omega
    · show x ≤ stp S n T (T.getD (u.1 * S + c.1) 0) v ((u.2 * S + c.2) % n)
      omega
/-- The word that a pair of ways spells. -/
def labP (S n : Nat) (T : List Int) : Nat × Nat → List (Nat × Nat) → List Int
  | _, [] => []
  | u, c :: r => T.getD (u.1 * S + c.1) 0 :: labP S n T (stepP S n u c) r
theorem labP_ok {S n : Nat} {T : List Int} (hn : 0 < n) (hT : ∀ j, j < n * S → 0 ≤ T.getD j 0 ∧ T.getD j 0 < (S : Int)) : ∀ (cs : List (Nat × Nat)) (u : Nat × Nat), u.1 < n → okP S n T u cs → cellsOk S (labP S n T u cs)
  | [], u, _, _ => cells_nil _
  | c :: r, u, hu, h => fun x hx => by
    rcases List.mem_cons.1 hx with rfl | hx
    · exact hT _ (edge_lt hu h.1.1)
    · exact labP_ok hn hT r _ (stepP_lt hn u c).1 h.2 x hx
theorem Two.path {S n : Nat} {T : List Int} (hn : 0 < n) {x : Nat} : ∀ (cs : List (Nat × Nat)) (u : Nat × Nat) (v : Nat → Nat), u.1 < n → u.2 < n → okP S n T u cs → Two v u x → Two (act S n T (labP S n T u cs) v) (endP S n u cs) x
  | [], u, v, _, _, _, h => h
  | c :: r, u, v, h1, h2, ho, h => Two.path hn r _ _ (stepP_lt hn u c).1 (stepP_lt hn u c).2 ho.2 (h.step h1 h2 ho.1)
/-- From each place a way leads to each. -/
theorem way_to {S k : Nat} {T : List Int} (hS : 0 < S) (q : Nat) : ∀ m t, t < S ^ m → ∃ cs : List (Nat × Nat), okP S (S ^ k) T (q, q) cs ∧ endP S (S ^ k) (q, q) cs = ((q * S ^ m + t) % S ^ k, (q * S ^ m + t) % S ^ k) ∨ (m = 0 ∧ t = 0) := fun m => by
  induction m with
  | zero => intro t ht; exact ⟨[], Or.inr ⟨rfl, by simpa using ht⟩⟩
  | succ m ih =>
    intro t ht
    have hc : t % S < S := Nat.mod_lt _ hS
    have hd : t / S < S ^ m := Nat.div_lt_of_lt_mul (by rw [← Nat.pow_succ']; exact ht)
    have et : S * (t / S) + t % S = t := Nat.div_add_mod t S
    have e1 : ∀ y, (y % S ^ k * S + t % S) % S ^ k = (y * S + t % S) % S ^ k := fun y => by
      rw [Nat.add_mod, Nat.mod_mul_mod, ← Nat.add_mod]
    have e2 : (q * S ^ m + t / S) * S + t % S = q * S ^ (m + 1) + t := by
      rw [Nat.add_mul, Nat.mul_assoc, ← Nat.pow_succ, Nat.add_assoc, Nat.mul_comm (t / S), et]
    obtain ⟨cs, h | h⟩ := ih (t / S) hd
    · refine ⟨cs ++ [(t % S, t % S)], Or.inl ⟨?_, ?_⟩⟩
      · rw [okP_append, h.2]
        exact ⟨h.1, ⟨hc, hc, rfl⟩, trivial⟩
      · rw [endP_append, h.2]
        show stepP S (S ^ k) _ _ = _
        unfold stepP
        simp only [e1, e2]
    · obtain ⟨rfl, h0⟩ := h
      refine ⟨[(t % S, t % S)], Or.inl ⟨⟨⟨hc, hc, rfl⟩, trivial⟩, ?_⟩⟩
      show stepP S (S ^ k) _ _ = _
      unfold stepP
      have e3 : q * S + t % S = q * S ^ (0 + 1) + t := by rw [← e2, h0]; simp
      simp only [e3]
theorem way_place {S k : Nat} {T : List Int} (hS : 0 < S) {q p : Nat} (hq : q < S ^ k) (hp : p < S ^ k) : ∃ cs : List (Nat × Nat), okP S (S ^ k) T (q, q) cs ∧ endP S (S ^ k) (q, q) cs = (p, p) := by
  obtain ⟨cs, h | ⟨h1, h2⟩⟩ := way_to (S := S) (k := k) (T := T) hS q k p hp
  · refine ⟨cs, h.1, ?_⟩
    rw [h.2, Nat.add_comm, Nat.add_mul_mod_self_right, Nat.mod_eq_of_lt hp]
  · subst h1
    exact ⟨[], trivial, by rw [h2]; show (q, q) = (0, 0); rw [show q = 0 by simpa using hq]⟩
/-- Twins come round again, each time twice as many. -/
theorem twin_loop {S k : Nat} {T : List Int} (hS : 0 < S) (hT : ∀ j, j < S ^ k * S → 0 ≤ T.getD j 0 ∧ T.getD j 0 < (S : Int)) (h : TwinAt S (S ^ k) T) : ∃ p z, p < S ^ k ∧ cellsOk S z ∧ ∀ v x, x ≤ v p → 2 * x ≤ act S (S ^ k) T z v p := by
  have hn : 0 < S ^ k := Nat.pow_pos hS
  obtain ⟨p, q, c, cs, hp, hq, h1, h2, h3, h4⟩ := h
  obtain ⟨ds, g1, g2⟩ := way_place (T := T) hS hq hp
  have ok : okP S (S ^ k) T (stepP S (S ^ k) (p, p) c) (cs ++ ds) := by rw [okP_append, h4]; exact ⟨h3, g1⟩
  have en : endP S (S ^ k) (stepP S (S ^ k) (p, p) c) (cs ++ ds) = (p, p) := by rw [endP_append, h4, g2]
  refine ⟨p, labP S (S ^ k) T (p, p) (c :: (cs ++ ds)), hp, labP_ok hn hT _ _ hp ⟨h1, ok⟩, fun v x hx => ?_⟩
  have first : Two (stp S (S ^ k) T (T.getD (p * S + c.1) 0) v) (stepP S (S ^ k) (p, p) c) x := by
    obtain ⟨hc1, hc2, he⟩ := h1
    have a1 := stp_ge (S := S) (n := S ^ k) (T := T) (v := v) (edge_lt hp hc1) rfl rfl
    have a2 := stp_ge (S := S) (n := S ^ k) (T := T) (v := v) (edge_lt hp hc2) he.symm rfl
    rw [edge_div hc1] at a1
    rw [edge_div hc2] at a2
    refine ⟨fun e => ?_, fun _ => ⟨Nat.le_trans hx a1, Nat.le_trans hx a2⟩⟩
    have e' : (p * S + c.1) % S ^ k = (p * S + c.2) % S ^ k := e
    have a3 := stp_ge2 (S := S) (n := S ^ k) (T := T) (v := v) (a := T.getD (p * S + c.1) 0) (q := (p * S + c.1) % S ^ k) (i := p * S + c.1) (j := p * S + c.2) (by omega) (edge_lt hp hc1) (edge_lt hp hc2) rfl rfl he.symm e'.symm
    rw [edge_div hc1, edge_div hc2] at a3
    show 2 * x ≤ stp S (S ^ k) T (T.getD (p * S + c.1) 0) v ((p * S + c.1) % S ^ k)
    omega
  have last := Two.path hn (cs ++ ds) _ _ (stepP_lt hn (p, p) c).1 (stepP_lt hn (p, p) c).2 ok first
  rw [en] at last
  exact last.1 rfl
theorem twin_grows {S k : Nat} {T : List Int} (hS : 0 < S) (hT : ∀ j, j < S ^ k * S → 0 ≤ T.getD j 0 ∧ T.getD j 0 < (S : Int)) (h : TwinAt S (S ^ k) T) (i : Nat) : ∃ w, cellsOk S w ∧ 2 ^ i ≤ cntN S (S ^ k) T w := by
  obtain ⟨p, z, hp, hz, hv⟩ := twin_loop hS hT h
  have : ∃ w, cellsOk S w ∧ 2 ^ i ≤ act S (S ^ k) T w one1 p := by
    induction i with
    | zero => exact ⟨[], cells_nil _, Nat.le_refl 1⟩
    | succ i ih =>
      obtain ⟨w, hw, h1⟩ := ih
      refine ⟨w ++ z, cells_app hw hz, ?_⟩
      rw [act_append, Nat.pow_succ, Nat.mul_comm]
      exact hv _ _ h1
  obtain ⟨w, hw, h1⟩ := this
  exact ⟨w, hw, Nat.le_trans h1 (sumN_term _ p hp)⟩
/-- Onto: no twins. -/
theorem onto_no_twin {S k : Nat} {T : List Int} (hS : 0 < S) (hT : ∀ j, j < S ^ k * S → 0 ≤ T.getD j 0 ∧ T.getD j 0 < (S : Int)) (ho : ∀ w, cellsOk S w → 0 < cntN S (S ^ k) T w) : ¬ TwinAt S (S ^ k) T := fun h => by
  obtain ⟨w, hw, h1⟩ := twin_grows hS hT h (S ^ k)
  rw [balanced hS hT ho w hw] at h1
  exact absurd h1 (Nat.not_le.2 Nat.lt_two_pow_self)
/-- Of one place alone. -/
def at1 (p : Nat) : Nat → Nat := fun q => if q = p then 1 else 0
theorem pair_path {S n : Nat} {T : List Int} (hS : 0 < S) (p : Nat) : ∀ (w : List Int) (r1 r2 : Nat), 0 < act S n T w.reverse (at1 p) r1 → 0 < act S n T w.reverse (at1 p) r2 → ∃ cs, okP S n T (p, p) cs ∧ endP S n (p, p) cs = (r1, r2)
  | [], r1, r2, h1, h2 => by
    have a : ∀ r, 0 < at1 p r → r = p := fun r h => by
      unfold at1 at h
      split at h
      · assumption
      · omega
    exact ⟨[], trivial, by rw [a r1 h1, a r2 h2]; rfl⟩
  | x :: w, r1, r2, h1, h2 => by
    rw [List.reverse_cons, act_append] at h1 h2
    obtain ⟨j1, l1, t1, m1, v1⟩ := stp_pos h1
    obtain ⟨j2, l2, t2, m2, v2⟩ := stp_pos h2
    obtain ⟨cs, ho, he⟩ := pair_path hS p w (j1 / S) (j2 / S) v1 v2
    have d1 : j1 / S * S + j1 % S = j1 := by rw [Nat.mul_comm]; exact Nat.div_add_mod _ _
    have d2 : j2 / S * S + j2 % S = j2 := by rw [Nat.mul_comm]; exact Nat.div_add_mod _ _
    refine ⟨cs ++ [(j1 % S, j2 % S)], ?_, ?_⟩
    · rw [okP_append, he]
      refine ⟨ho, ⟨Nat.mod_lt _ hS, Nat.mod_lt _ hS, ?_⟩, trivial⟩
      show T.getD (j1 / S * S + j1 % S) 0 = T.getD (j2 / S * S + j2 % S) 0
      rw [d1, d2, t1, t2]
    · rw [endP_append, he]
      show ((j1 / S * S + j1 % S) % n, (j2 / S * S + j2 % S) % n) = (r1, r2)
      rw [d1, d2, m1, m2]
theorem one_way {S n : Nat} {T : List Int} (hS : 0 < S) (hno : NoTwin S n T) {p : Nat} (hp : p < n) : ∀ (w : List Int) (q : Nat), act S n T w.reverse (at1 p) q ≤ 1
  | [], q => by
    show at1 p q ≤ 1
    unfold at1
    split <;> omega
  | x :: w, q => by
    have ih := one_way hS hno hp w
    rw [List.reverse_cons, act_append]
    show stp S n T x (act S n T w.reverse (at1 p)) q ≤ 1
    rcases Nat.lt_or_ge 1 (stp S n T x (act S n T w.reverse (at1 p)) q) with c | c
    · exfalso
      obtain ⟨i, j, hij, hj, f1, f2⟩ := sumN_more _ (fun i _ => by
        show (if _ then _ else 0) ≤ 1
        split
        · exact ih _
        · omega) c
      have cond : ∀ j, 0 < (if T.getD j 0 = x ∧ j % n = q then act S n T w.reverse (at1 p) (j / S) else 0) → (T.getD j 0 = x ∧ j % n = q) ∧ 0 < act S n T w.reverse (at1 p) (j / S) := fun j h => by
        by_cases c : T.getD j 0 = x ∧ j % n = q
        · rw [if_pos c] at h; exact ⟨c, h⟩
        · rw [if_neg c] at h; omega
      obtain ⟨⟨t1, m1⟩, v1⟩ := cond i f1
      obtain ⟨⟨t2, m2⟩, v2⟩ := cond j f2
      obtain ⟨cs, ho, he⟩ := pair_path hS p w (i / S) (j / S) v1 v2
      have d1 : i / S * S + i % S = i := by rw [Nat.mul_comm]; exact Nat.div_add_mod _ _
      have d2 : j / S * S + j % S = j := by rw [Nat.mul_comm]; exact Nat.div_add_mod _ _
      have h := hno p hp cs (i % S, j % S) ho (by
        rw [he]
        refine ⟨Nat.mod_lt _ hS, Nat.mod_lt _ hS, ?_⟩
        show T.getD (i / S * S + i % S) 0 = T.getD (j / S * S + j % S) 0
        rw [d1, d2, t1, t2])
      rw [he] at h
      unfold wantTf wantT at h
      simp only [d1, d2, m1, m2, decide_true, Bool.true_and, Bool.not_eq_false', Bool.and_eq_true, decide_eq_true_eq] at h
      rw [← d1, ← d2, h.1, h.2] at hij
      omega
    · exact c
theorem no_twin_small {S n : Nat} {T : List Int} (hS : 0 < S) (hno : NoTwin S n T) (w : List Int) : cntN S n T w ≤ n * n := by
  unfold cntN
  rw [sumN_ext n (fun q hq => act_congr (S := S) (T := T) (n := n) (u := one1) (v := fun q => sumN (fun p => at1 p q) n) (fun q hq => by
    show 1 = _
    rw [sumN_ext (g := fun p => if p = q then 1 else 0) n, sumN_one 1 n hq]
    intro p _
    unfold at1
    by_cases e : q = p
    · rw [if_pos e, if_pos e.symm]
    · rw [if_neg e, if_neg (fun k => e k.symm)]) w q hq), act_sum, sumN_swap]
  refine Nat.le_trans (sumN_le (g := fun _ => n) n fun p hp => ?_) (Nat.le_of_eq (sumN_const n n))
  refine Nat.le_trans (sumN_le (g := fun _ => 1) n fun q _ => ?_) (Nat.le_of_eq (by rw [sumN_const, Nat.mul_one]))
  have := one_way hS hno hp w.reverse q
  rwa [List.reverse_reverse] at this
/-- No twins: onto. -/
theorem no_twin_onto {S n : Nat} {T : List Int} (hS : 0 < S) (hn : 0 < n) (hT : ∀ j, j < n * S → 0 ≤ T.getD j 0 ∧ T.getD j 0 < (S : Int)) (hno : NoTwin S n T) : ∀ w, cellsOk S w → 0 < cntN S n T w := by
  obtain ⟨m, ⟨u, hu, hum⟩, hl⟩ := most (P := fun m => ∃ u, cellsOk S u ∧ cntN S n T u = m) (n * n) ⟨_, [], cells_nil _, rfl⟩ (fun m ⟨u, _, e⟩ => by rw [← e]; exact no_twin_small hS hno u)
  intro w hw
  have h1 := cnt_most hS hn hT (fun w hw => hl _ ⟨w, hw, rfl⟩) w u hw hu hum
  have h2 := hl n ⟨[], cells_nil _, cnt_nil _ _ _⟩
  have h3 := cnt_join (S := S) (n := n) (T := T) u w
  rw [h1, hum] at h3
  rcases Nat.eq_zero_or_pos (cntN S n T w) with c | c
  · rw [c, Nat.mul_zero] at h3; omega
  · exact c
/-- Twins make two rings that become the same. -/
theorem twin_turn {S k : Nat} {T : List Int} (hS : 0 < S) (h : TwinAt S (S ^ k) T) : ∃ i, i < S ^ k * S ^ k ∧ TurnAt S (S ^ k) T i := by
  obtain ⟨p, q, c, cs, hp, hq, h1, h2, h3, h4⟩ := h
  obtain ⟨ds, g1, g2⟩ := way_place (T := T) hS hq hp
  have e : unP (S ^ k) (coP (S ^ k) (p, p)) = (p, p) := un_co (u := (p, p)) hp
  refine ⟨coP (S ^ k) (p, p), ?_, c, cs ++ ds, by rw [e]; exact h1, h2, ?_, ?_⟩
  · unfold coP
    have : (p + 1) * S ^ k ≤ S ^ k * S ^ k := Nat.mul_le_mul_right _ hp
    rw [Nat.add_mul] at this
    show p * S ^ k + p < _
    omega
  · rw [e, okP_append, h4]; exact ⟨h3, g1⟩
  · rw [e, endP_append, h4, g2]
end Go.Proofs.YtjjdjdodhedihaaDoor

