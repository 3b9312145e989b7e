/-
  What the last text of this claim leans on, part 17: Se1.
-/
import Derived.Test.YtjjdjdodhedihaaDoorJl16
namespace Go.Proofs.YtjjdjdodhedihaaDoor
set_option linter.unusedVariables false

/-- A sum as it acts on cells: numbers c, shifts s, the first k of them. -/
def opF (c s : Nat → Int) (k : Nat) (u : Int → Int) (j : Int) : Int := sumF (fun i => c i * u (j + s i)) k
theorem opF_zero (c s : Nat → Int) (u : Int → Int) (j : Int) : opF c s 0 u j = 0 := rfl
theorem opF_succ (c s : Nat → Int) (k : Nat) (u : Int → Int) (j : Int) : opF c s (k + 1) u j = opF c s k u j + c k * u (j + s k) := rfl
theorem opF_ext {c s : Nat → Int} {u v : Int → Int} (h : ∀ j, u j = v j) : ∀ (k : Nat) (j : Int), opF c s k u j = opF c s k v j
  | 0, j => rfl
  | k + 1, j => by rw [opF_succ, opF_succ, opF_ext h k j, h]
theorem opF_shift (c s : Nat → Int) (u : Int → Int) (t : Int) : ∀ (k : Nat) (j : Int), opF c s k (fun x => u (x + t)) j = opF c s k u (j + t)
  | 0, j => rfl
  | k + 1, j => by rw [opF_succ, opF_succ, opF_shift c s u t k j, show j + s k + t = j + t + s k by omega]
theorem opF_add (c s : Nat → Int) (u v : Int → Int) : ∀ (k : Nat) (j : Int), opF c s k (fun x => u x + v x) j = opF c s k u j + opF c s k v j
  | 0, j => rfl
  | k + 1, j => by rw [opF_succ, opF_succ, opF_succ, opF_add c s u v k j, Int.mul_add]; omega
theorem opF_mul (c s : Nat → Int) (u : Int → Int) (t : Int) : ∀ (k : Nat) (j : Int), opF c s k (fun x => t * u x) j = t * opF c s k u j
  | 0, j => by rw [opF_zero, opF_zero, Int.mul_zero]
  | k + 1, j => by rw [opF_succ, opF_succ, opF_mul c s u t k j, Int.mul_add, ← Int.mul_assoc, Int.mul_comm (c k) t, Int.mul_assoc]
theorem opF_comm (c s d t : Nat → Int) (l : Nat) (u : Int → Int) : ∀ (k : Nat) (j : Int), opF c s k (opF d t l u) j = opF d t l (opF c s k u) j
  | 0, j => by
    rw [opF_zero]
    have : ∀ l, opF d t l (opF c s 0 u) j = 0 := fun l => by
      induction l with
      | zero => rfl
      | succ l ih => rw [opF_succ, ih, opF_zero, Int.mul_zero]; rfl
    exact (this l).symm
  | k + 1, j => by
    rw [opF_succ, opF_comm c s d t l u k j, opF_ext (c := d) (s := t) (v := fun x => opF c s k u x + c k * u (x + s k)) (fun x => opF_succ c s k u x), opF_add d t (opF c s k u) (fun x => c k * u (x + s k)), opF_mul d t (fun x => u (x + s k)) (c k), opF_shift]
/-- Alike but for multiples of M. -/
def Eqv (M : Int) (u v : Int → Int) : Prop := ∀ j, ∃ z, u j = v j + M * z
theorem Eqv.refl (M : Int) (u : Int → Int) : Eqv M u u := fun j => ⟨0, by omega⟩
theorem Eqv.trans {M : Int} {u v w : Int → Int} (h : Eqv M u v) (k : Eqv M v w) : Eqv M u w := fun j => by
  obtain ⟨a, ha⟩ := h j
  obtain ⟨b, hb⟩ := k j
  exact ⟨a + b, by rw [ha, hb, Int.mul_add]; omega⟩
theorem Eqv.symm {M : Int} {u v : Int → Int} (h : Eqv M u v) : Eqv M v u := fun j => by
  obtain ⟨a, ha⟩ := h j
  exact ⟨-a, by rw [ha, Int.mul_neg]; omega⟩
theorem Eqv.of {M : Int} {u v : Int → Int} (h : ∀ j, u j = v j) : Eqv M u v := fun j => ⟨0, by rw [h j]; omega⟩
theorem Eqv.op {M : Int} {u v : Int → Int} (h : Eqv M u v) (c s : Nat → Int) : ∀ k, Eqv M (opF c s k u) (opF c s k v)
  | 0 => Eqv.of fun j => rfl
  | k + 1 => fun j => by
    obtain ⟨a, ha⟩ := h.op c s k j
    obtain ⟨b, hb⟩ := h (j + s k)
    refine ⟨a + c k * b, ?_⟩
    rw [opF_succ, opF_succ, ha, hb, Int.mul_add, Int.mul_add, ← Int.mul_assoc (c k) M b, Int.mul_comm (c k) M, Int.mul_assoc M (c k) b]
    omega
def timesF (c s : Nat → Int) (k : Nat) : Nat → (Int → Int) → (Int → Int)
  | 0, u => u
  | n + 1, u => timesF c s k n (opF c s k u)
/-- Two squared. -/
theorem square_succ (c s : Nat → Int) (k : Nat) (u : Int → Int) (j : Int) : opF c s (k + 1) (opF c s (k + 1) u) j = opF c s k (opF c s k u) j + 2 * (c k * opF c s k u (j + s k)) + c k * c k * u (j + 2 * s k) := by
  rw [opF_succ, opF_ext (v := fun x => opF c s k u x + c k * u (x + s k)) (fun x => opF_succ c s k u x), opF_add c s (opF c s k u) (fun x => c k * u (x + s k)), opF_mul c s (fun x => u (x + s k)) (c k), opF_shift, opF_succ, Int.mul_add, ← Int.mul_assoc, show j + s k + s k = j + 2 * s k by omega]
  omega
theorem even_sq (c : Int) : ∃ z, c * c = c + 2 * z := by
  rcases Int.emod_two_eq c with h | h
  · obtain ⟨d, hd⟩ : ∃ d, c = 2 * d := ⟨c / 2, by omega⟩
    refine ⟨2 * (d * d) - d, ?_⟩
    rw [hd, show 2 * d * (2 * d) = 4 * (d * d) by rw [Int.mul_assoc, ← Int.mul_assoc d 2 d, Int.mul_comm d 2, Int.mul_assoc 2 d d]; omega]
    omega
  · obtain ⟨d, hd⟩ : ∃ d, c = 2 * d + 1 := ⟨c / 2, by omega⟩
    refine ⟨2 * (d * d) + d, ?_⟩
    rw [hd, show (2 * d + 1) * (2 * d + 1) = 4 * (d * d) + 4 * d + 1 by rw [Int.mul_add, Int.add_mul, Int.mul_assoc, ← Int.mul_assoc d 2 d, Int.mul_comm d 2, Int.mul_assoc 2 d d]; omega]
    omega
/-- Modulo 2, twice is once with the cells twice as far apart. -/
theorem frob2 (c s : Nat → Int) (u : Int → Int) : ∀ k, Eqv 2 (opF c s k (opF c s k u)) (opF c (fun i => 2 * s i) k u)
  | 0 => Eqv.of fun j => rfl
  | k + 1 => fun j => by
    obtain ⟨a, ha⟩ := frob2 c s u k j
    obtain ⟨b, hb⟩ := even_sq (c k)
    refine ⟨a + c k * opF c s k u (j + s k) + b * u (j + 2 * s k), ?_⟩
    rw [square_succ, ha, hb, opF_succ, Int.add_mul, Int.mul_assoc 2 b]
    omega
theorem cube_succ (c s : Nat → Int) (k : Nat) (u : Int → Int) (j : Int) : opF c s (k + 1) (opF c s (k + 1) (opF c s (k + 1) u)) j = opF c s k (opF c s k (opF c s k u)) j + 3 * (c k * opF c s k (opF c s k u) (j + s k)) + 3 * (c k * c k * opF c s k u (j + 2 * s k)) + c k * c k * c k * u (j + 3 * s k) := by
  have sq := square_succ c s k u
  rw [opF_ext (v := fun x => (opF c s k (opF c s k u) x + 2 * (c k * opF c s k u (x + s k))) + c k * c k * u (x + 2 * s k)) sq, opF_succ]
  rw [opF_add c s (fun x => opF c s k (opF c s k u) x + 2 * (c k * opF c s k u (x + s k))) (fun x => c k * c k * u (x + 2 * s k)), opF_add c s (opF c s k (opF c s k u)) (fun x => 2 * (c k * opF c s k u (x + s k)))]
  rw [opF_mul c s (fun x => u (x + 2 * s k)) (c k * c k), opF_shift, opF_mul c s (fun x => c k * opF c s k u (x + s k)) 2, opF_mul c s (fun x => opF c s k u (x + s k)) (c k), opF_shift]
  rw [show j + s k + s k = j + 2 * s k by omega, show j + s k + 2 * s k = j + 3 * s k by omega]
  rw [Int.mul_add, Int.mul_add, ← Int.mul_assoc (c k) 2, Int.mul_comm (c k) 2, Int.mul_assoc 2 (c k), ← Int.mul_assoc (c k) (c k) (opF c s k u (j + 2 * s k)), ← Int.mul_assoc (c k) (c k * c k), ← Int.mul_assoc (c k) (c k) (c k)]
  omega
theorem three_cube (c : Int) : ∃ z, c * c * c = c + 3 * z := by
  have h : c % 3 = 0 ∨ c % 3 = 1 ∨ c % 3 = 2 := by omega
  have key : ∀ d r : Int, c = 3 * d + r → ∃ q, c * c * c = r * r * r + 3 * q := fun d r hc => by
    have e : ∀ x y : Int, ∃ q, (3 * d + r) * (3 * x + y) = r * y + 3 * q := fun x y => ⟨d * (3 * x + y) + r * x, by
      rw [Int.add_mul, Int.mul_add r, ← Int.mul_assoc r 3, Int.mul_comm r 3, Int.mul_assoc 3 d, Int.mul_assoc 3 r x]; omega⟩
    obtain ⟨q1, h1⟩ := e d r
    obtain ⟨q2, h2⟩ := e q1 (r * r)
    refine ⟨q2, ?_⟩
    rw [hc, h1, Int.mul_comm (r * r + 3 * q1), show r * r + 3 * q1 = 3 * q1 + r * r by omega, h2, Int.mul_assoc]
  obtain ⟨d, hd⟩ : ∃ d, d = c / 3 := ⟨_, rfl⟩
  rcases h with h | h | h
  · obtain ⟨q, hq⟩ := key d 0 (by omega)
    exact ⟨q - d, by rw [hq]; omega⟩
  · obtain ⟨q, hq⟩ := key d 1 (by omega)
    exact ⟨q - d, by rw [hq]; omega⟩
  · obtain ⟨q, hq⟩ := key d 2 (by omega)
    exact ⟨q - d + 2, by rw [hq]; omega⟩
/-- Modulo 3, thrice is once with the cells three times as far apart. -/
theorem frob3 (c s : Nat → Int) (u : Int → Int) : ∀ k, Eqv 3 (opF c s k (opF c s k (opF c s k u))) (opF c (fun i => 3 * s i) k u)
  | 0 => Eqv.of fun j => rfl
  | k + 1 => fun j => by
    obtain ⟨a, ha⟩ := frob3 c s u k j
    obtain ⟨b, hb⟩ := three_cube (c k)
    refine ⟨a + c k * opF c s k (opF c s k u) (j + s k) + c k * c k * opF c s k u (j + 2 * s k) + b * u (j + 3 * s k), ?_⟩
    rw [cube_succ, ha, hb, opF_succ, Int.add_mul, Int.mul_assoc 3 b]
    omega
/-- Modulo 4, four times is twice with the cells twice as far apart. -/
theorem frob4 (c s : Nat → Int) (u : Int → Int) (k : Nat) : Eqv 4 (opF c s k (opF c s k (opF c s k (opF c s k u)))) (opF c (fun i => 2 * s i) k (opF c (fun i => 2 * s i) k u)) := by
  -- P: twice; Q: once, twice as far
  have D : ∀ v : Int → Int, ∃ z : Int → Int, ∀ j, opF c s k (opF c s k v) j = opF c (fun i => 2 * s i) k v j + 2 * z j := fun v =>
    ⟨fun j => Classical.choose (frob2 c s v k j), fun j => Classical.choose_spec (frob2 c s v k j)⟩
  obtain ⟨z, hz⟩ := D u
  obtain ⟨y, hy⟩ := D (opF c (fun i => 2 * s i) k u)
  obtain ⟨x, hx⟩ := D z
  intro j
  -- P P u = P (Q u + 2 z) = P Q u + 2 P z = (Q Q u + 2 y) + 2 (Q z + 2 x)
  have e1 : opF c s k (opF c s k (opF c s k (opF c s k u))) j = opF c s k (opF c s k (opF c (fun i => 2 * s i) k u)) j + 2 * opF c s k (opF c s k z) j := by
    rw [opF_ext (v := fun x => opF c s k (opF c (fun i => 2 * s i) k u) x + 2 * opF c s k z x) (fun x => by rw [opF_ext hz, opF_add c s (opF c (fun i => 2 * s i) k u) (fun x => 2 * z x), opF_mul c s z 2]), opF_add c s (opF c s k (opF c (fun i => 2 * s i) k u)) (fun x => 2 * opF c s k z x), opF_mul c s (opF c s k z) 2]
  -- 2 y = P Q u - Q Q u = Q (P u - Q u) = 2 Q z
  have e2 : opF c s k (opF c s k (opF c (fun i => 2 * s i) k u)) j = opF c (fun i => 2 * s i) k (opF c (fun i => 2 * s i) k u) j + 2 * opF c (fun i => 2 * s i) k z j := by
    rw [opF_ext (v := opF c (fun i => 2 * s i) k (opF c s k u)) (fun x => opF_comm c s c (fun i => 2 * s i) k u k x), opF_comm c s c (fun i => 2 * s i) k (opF c s k u) k j, opF_ext hz, opF_add c (fun i => 2 * s i) (opF c (fun i => 2 * s i) k u) (fun x => 2 * z x), opF_mul c (fun i => 2 * s i) z 2]
  refine ⟨opF c (fun i => 2 * s i) k z j + x j, ?_⟩
  rw [e1, e2, hx j]
  omega
theorem timesF_add (c s : Nat → Int) (k : Nat) : ∀ (a b : Nat) (u : Int → Int), timesF c s k (a + b) u = timesF c s k b (timesF c s k a u)
  | 0, b, u => by rw [Nat.zero_add]; rfl
  | a + 1, b, u => by rw [show a + 1 + b = (a + b) + 1 by omega]; exact timesF_add c s k a b (opF c s k u)
theorem Eqv.times {M : Int} (c s : Nat → Int) (k : Nat) : ∀ (n : Nat) {u v : Int → Int}, Eqv M u v → Eqv M (timesF c s k n u) (timesF c s k n v)
  | 0, u, v, h => h
  | n + 1, u, v, h => Eqv.times c s k n (h.op c s k)
/-- The states that are taken, the prime, and how often. -/
def Prm (S p : Nat) : Prop := (S = 2 ∧ p = 2) ∨ (S = 3 ∧ p = 3) ∨ (S = 4 ∧ p = 2)
theorem frobS {S p : Nat} (h : Prm S p) (c s : Nat → Int) (k : Nat) (u : Int → Int) : Eqv S (timesF c s k S u) (timesF c (fun i => (p : Int) * s i) k (S / p) u) := by
  rcases h with ⟨rfl, rfl⟩ | ⟨rfl, rfl⟩ | ⟨rfl, rfl⟩
  · exact frob2 c s u k
  · exact frob3 c s u k
  · exact frob4 c s u k
theorem frobMany {S p : Nat} (h : Prm S p) (c s : Nat → Int) (k : Nat) : ∀ (n : Nat) (u : Int → Int), Eqv S (timesF c s k (S * n) u) (timesF c (fun i => (p : Int) * s i) k (S / p * n) u)
  | 0, u => by rw [Nat.mul_zero, Nat.mul_zero]; exact Eqv.refl _ _
  | n + 1, u => by
    rw [show S * (n + 1) = S + S * n by rw [Nat.mul_succ]; omega, show S / p * (n + 1) = S / p + S / p * n by rw [Nat.mul_succ]; omega, timesF_add, timesF_add]
    exact (frobMany h c s k n _).trans (Eqv.times _ _ _ _ (frobS h c s k u))
/-- What is left of n goes on with the cells p times as far apart. -/
theorem frobStep {S p : Nat} (h : Prm S p) (c s : Nat → Int) (k n : Nat) (u : Int → Int) : Eqv S (timesF c s k n u) (timesF c (fun i => (p : Int) * s i) k ((n - n % S) / p) (timesF c s k (n % S) u)) := by
  have hS : 0 < S := by rcases h with ⟨rfl, _⟩ | ⟨rfl, _⟩ | ⟨rfl, _⟩ <;> omega
  obtain ⟨q, hq⟩ : ∃ q, n / S = q := ⟨_, rfl⟩
  have hn : n = n % S + S * q := by rw [← hq]; exact (Nat.mod_add_div n S).symm
  have e : (n - n % S) / p = S / p * q := by
    rw [show n - n % S = S * q by omega]
    rcases h with ⟨rfl, rfl⟩ | ⟨rfl, rfl⟩ | ⟨rfl, rfl⟩ <;> omega
  rw [e]
  obtain ⟨r, hr⟩ : ∃ r, n % S = r := ⟨_, rfl⟩
  rw [hr] at hn ⊢
  rw [hn, timesF_add]
  exact frobMany h c s k q _
/-- On a ring shifts count but for rounds. -/
def Per (L : Nat) (u : Int → Int) : Prop := ∀ j, u (j + L) = u j
theorem Per.add {L : Nat} {u : Int → Int} (h : Per L u) (j : Int) : ∀ n : Nat, u (j + n * L) = u j
  | 0 => by simp
  | n + 1 => by rw [show j + ((n + 1 : Nat) : Int) * L = (j + n * L) + L by rw [Int.natCast_add, Int.add_mul]; omega, h, h.add j n]
theorem Per.all {L : Nat} {u : Int → Int} (h : Per L u) (j z : Int) : u (j + z * L) = u j := by
  rcases Int.le_total 0 z with hz | hz
  · obtain ⟨n, rfl⟩ : ∃ n : Nat, z = n := ⟨z.toNat, by omega⟩
    exact h.add j n
  · obtain ⟨n, rfl⟩ : ∃ n : Nat, z = -(n : Int) := ⟨(-z).toNat, by omega⟩
    have := h.add (j + -(n : Int) * L) n
    rw [show j + -(n : Int) * L + n * L = j by rw [Int.neg_mul]; omega] at this
    exact this.symm
theorem opF_per {L : Nat} {c s t : Nat → Int} {u : Int → Int} (h : Per L u) (e : ∀ i, ∃ z, s i = t i + z * L) : ∀ (k : Nat) (j : Int), opF c s k u j = opF c t k u j
  | 0, j => rfl
  | k + 1, j => by
    obtain ⟨z, hz⟩ := e k
    rw [opF_succ, opF_succ, opF_per h e k j, hz, ← Int.add_assoc, h.all]
theorem Per.op {L : Nat} {u : Int → Int} (h : Per L u) (c s : Nat → Int) : ∀ k, Per L (opF c s k u)
  | 0 => fun j => rfl
  | k + 1 => fun j => by rw [opF_succ, opF_succ, h.op c s k j, show j + (L : Int) + s k = j + s k + L by omega, h]
theorem Per.times {L : Nat} (c s : Nat → Int) (k : Nat) : ∀ (n : Nat) {u : Int → Int}, Per L u → Per L (timesF c s k n u)
  | 0, u, h => h
  | n + 1, u, h => Per.times c s k n (h.op c s k)
theorem timesF_per {L : Nat} {c s t : Nat → Int} (e : ∀ i, ∃ z, s i = t i + z * L) (k : Nat) : ∀ (n : Nat) {u : Int → Int}, Per L u → timesF c s k n u = timesF c t k n u
  | 0, u, h => rfl
  | n + 1, u, h => by
    show timesF c s k n (opF c s k u) = timesF c t k n (opF c t k u)
    rw [timesF_per e k n (h.op c s k), show opF c s k u = opF c t k u from funext (opF_per h e k)]
end Go.Proofs.YtjjdjdodhedihaaDoor

