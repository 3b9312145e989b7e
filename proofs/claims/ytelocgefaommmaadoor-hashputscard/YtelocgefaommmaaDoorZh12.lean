/-
  What the last text of this claim leans on, part 12: Hb2.
-/
import Derived.Test.YtelocgefaommmaaDoorZh9
import Derived.Lib.TrailingZeros
namespace Go.Proofs.YtelocgefaommmaaDoor
set_option linter.unusedVariables false
theorem and_predH {x k : Nat} (hk : x.testBit k = true) (hl : ∀ j, j < k → x.testBit j = false) (q : Nat) : (x &&& (x - 1)).testBit q = (x.testBit q && decide (q ≠ k)) := by
  obtain ⟨a, ha⟩ : ∃ a, x = 2 ^ k * (2 * a + 1) := by
    have h0 : x % 2 ^ k = 0 := by
      apply Nat.eq_of_testBit_eq
      intro j
      rw [Nat.testBit_mod_two_pow]
      by_cases hj : j < k
      · simp [hl j hj]
      · simp [hj]
    have h1 : x = 2 ^ k * (x / 2 ^ k) := by have := Nat.div_add_mod x (2 ^ k); omega
    have h2 : (x / 2 ^ k) % 2 = 1 := by
      have := hk
      rw [Nat.testBit, Nat.shiftRight_eq_div_pow] at this
      simp at this
      omega
    exact ⟨x / 2 ^ k / 2, by rw [show 2 * (x / 2 ^ k / 2) + 1 = x / 2 ^ k by omega]; exact h1⟩
  have hp : 0 < 2 ^ k := Nat.pow_pos (by omega)
  have hx1 : x - 1 = 2 ^ k * (2 * a) + (2 ^ k - 1) := by rw [ha, Nat.mul_add]; omega
  rw [Nat.testBit_and, hx1, Nat.testBit_two_pow_mul_add _ (by omega)]
  by_cases hq : q < k
  · rw [if_pos hq, hl q hq]; simp
  · rw [if_neg hq]
    by_cases e : q = k
    · subst e; simp
    · obtain ⟨d, hd⟩ : ∃ d, q = k + 1 + d := ⟨q - k - 1, by omega⟩
      have t1 : x.testBit q = a.testBit d := by
        have : x = 2 ^ k * (2 * a + 1) + 0 := by omega
        rw [this, Nat.testBit_two_pow_mul_add _ hp, if_neg hq, show q - k = d + 1 by omega, Nat.testBit_succ]
        congr 1; omega
      have t2 : (2 * a).testBit (q - k) = a.testBit d := by
        rw [show q - k = d + 1 by omega, Nat.testBit_succ]
        congr 1; omega
      rw [t1, t2]
      simp [e]

theorem ctz_lowH {x : Nat} (h0 : 0 < x) (h : x < 2 ^ 64) : x.testBit (Lib.ctz 64 x) = true ∧ ∀ j, j < Lib.ctz 64 x → x.testBit j = false := by
  obtain ⟨m, hm, _⟩ := Lib.ctzFrom_spec 64 x h0 h
  have hc : Lib.ctz 64 x = Lib.ctzFrom 64 x := by unfold Lib.ctz; rw [if_neg (by omega)]
  rw [hc]
  obtain ⟨k, hk⟩ : ∃ k, Lib.ctzFrom 64 x = k := ⟨_, rfl⟩
  rw [hk] at hm ⊢
  have e : x = 2 ^ k * (2 * m + 1) + 0 := by omega
  have hp : 0 < 2 ^ k := Nat.pow_pos (by omega)
  refine ⟨by rw [e, Nat.testBit_two_pow_mul_add _ hp]; simp, fun j hj => by rw [e, Nat.testBit_two_pow_mul_add _ hp, if_pos hj]; simp⟩

/-- A window in which the places of a kind are set to 1. -/
def ShP (W H : Nat) (P : Nat → Nat → Prop) (g g' : Nat → Int) : Prop := ∀ u v : Nat, u < W → v < H → (P u v → g' (v * W + u) = 1) ∧ (¬ P u v → g' (v * W + u) = g (v * W + u))
theorem ShP.refl {W H : Nat} {P : Nat → Nat → Prop} {g : Nat → Int} (h : ∀ u v, u < W → v < H → ¬ P u v) : ShP W H P g g := fun u v hu hv => ⟨fun p => absurd p (h u v hu hv), fun _ => rfl⟩
theorem ShP.trans {W H : Nat} {P Q R : Nat → Nat → Prop} {g g1 g2 : Nat → Int} (h : ShP W H P g g1) (k : ShP W H Q g1 g2) (e : ∀ u v, u < W → v < H → (R u v ↔ P u v ∨ Q u v)) : ShP W H R g g2 := fun u v hu hv => by
  have hh := h u v hu hv
  have kk := k u v hu hv
  have ee := e u v hu hv
  by_cases q : Q u v
  · exact ⟨fun _ => kk.1 q, fun r => absurd (ee.2 (Or.inr q)) r⟩
  · constructor
    · intro r
      rcases ee.1 r with p | p
      · rw [kk.2 q]; exact hh.1 p
      · exact absurd p q
    · intro r
      rw [kk.2 q]; exact hh.2 fun p => r (ee.2 (Or.inl p))
theorem ShP.congr {W H : Nat} {P Q : Nat → Nat → Prop} {g g1 : Nat → Int} (h : ShP W H P g g1) (e : ∀ u v, u < W → v < H → (Q u v ↔ P u v)) : ShP W H Q g g1 := fun u v hu hv => by
  have hh := h u v hu hv
  have ee := e u v hu hv
  exact ⟨fun q => hh.1 (ee.1 q), fun q => hh.2 fun p => q (ee.2 p)⟩
theorem place_one {W u v a b : Nat} (hu : u < W) (ha : a < W) (e : v * W + u = b * W + a) : u = a ∧ v = b := by
  have h1 : (v * W + u) % W = u := by rw [Nat.mul_comm, Nat.mul_add_mod, Nat.mod_eq_of_lt hu]
  have h2 : (b * W + a) % W = a := by rw [Nat.mul_comm, Nat.mul_add_mod, Nat.mod_eq_of_lt ha]
  have h3 : u = a := by rw [← h1, e, h2]
  refine ⟨h3, ?_⟩
  subst h3
  have : v * W = b * W := by omega
  exact Nat.eq_of_mul_eq_mul_right (by omega) this
theorem ShP.one {W H : Nat} (g : Nat → Int) {a b : Nat} (ha : a < W) : ShP W H (fun u v => u = a ∧ v = b) g (fun i => if i = b * W + a then 1 else g i) := fun u v hu hv => by
  constructor
  · rintro ⟨rfl, rfl⟩; simp
  · intro h
    simp only []
    rw [if_neg]
    intro e
    exact h (place_one hu ha e)
/-- What show does with a square. -/
def ShQ (W H : Nat) (qs : List Sq) (n t : Nat) (x y : Int) : (Nat → Int) → (Nat → Int) → Prop := ShP W H (fun u v => valQ qs n t ((u : Int) - x) ((v : Int) - y) = 1)
theorem ShQ.nil {W H : Nat} {qs : List Sq} (hS : StQ qs) (n : Nat) (x y : Int) (g : Nat → Int) : ShQ W H qs n 0 x y g g := ShP.refl fun u v _ _ h => by rw [val_nil hS] at h; omega
theorem ShQ.apart {W H : Nat} {qs : List Sq} {n t : Nat} {x y : Int} (h : (W : Int) ≤ x ∨ (H : Int) ≤ y ∨ x + sideI n ≤ 0 ∨ y + sideI n ≤ 0) (g : Nat → Int) : ShQ W H qs n t x y g g := ShP.refl fun u v hu hv e => by
  rw [val_out n t _ _ (by omega)] at e; omega
/-- The parts of a square that were shown so far. -/
def pvQ (qs : List Sq) (n t : Nat) (x y : Int) (i : Nat) (u v : Nat) : Prop := ∃ j, j < i ∧ valQ qs n (prt (sqA qs t) j) ((u : Int) - (x + (j : Int) % 2 * sideI n)) ((v : Int) - (y + (j : Int) / 2 * sideI n)) = 1
theorem pvQ_step {W H : Nat} {qs : List Sq} {n t : Nat} {x y : Int} {i : Nat} {g g1 g2 : Nat → Int} (h : ShP W H (pvQ qs n t x y i) g g1) (k : ShQ W H qs n (prt (sqA qs t) i) (x + (i : Int) % 2 * sideI n) (y + (i : Int) / 2 * sideI n) g1 g2) : ShP W H (pvQ qs n t x y (i + 1)) g g2 :=
  h.trans k fun u v _ _ => by
    constructor
    · rintro ⟨j, hj, e⟩
      by_cases c : j = i
      · subst c; exact Or.inr e
      · exact Or.inl ⟨j, by omega, e⟩
    · rintro (⟨j, hj, e⟩ | e)
      · exact ⟨j, by omega, e⟩
      · exact ⟨i, by omega, e⟩
theorem pvQ_zero {W H : Nat} {qs : List Sq} {n t : Nat} {x y : Int} (g : Nat → Int) : ShP W H (pvQ qs n t x y 0) g g := ShP.refl fun u v _ _ ⟨j, hj, _⟩ => by omega
theorem pvQ_four {W H : Nat} {qs : List Sq} {n t : Nat} {x y : Int} {g g1 : Nat → Int} (h : ShP W H (pvQ qs n t x y 4) g g1) : ShQ W H qs (n + 1) t x y g g1 :=
  h.congr fun u v _ _ => by
    have tot := val_le (qs := qs) (n + 1) t ((u : Int) - x) ((v : Int) - y)
    rw [val_step] at tot ⊢
    have h1 := val_le (qs := qs) n (sqA qs t).a ((u : Int) - x) ((v : Int) - y)
    have h2 := val_le (qs := qs) n (sqA qs t).b ((u : Int) - x - sideI n) ((v : Int) - y)
    have h3 := val_le (qs := qs) n (sqA qs t).c ((u : Int) - x) ((v : Int) - y - sideI n)
    have h4 := val_le (qs := qs) n (sqA qs t).d ((u : Int) - x - sideI n) ((v : Int) - y - sideI n)
    have p : pvQ qs n t x y 4 u v ↔ (valQ qs n (sqA qs t).a ((u : Int) - x) ((v : Int) - y) = 1 ∨ valQ qs n (sqA qs t).b ((u : Int) - x - sideI n) ((v : Int) - y) = 1 ∨ valQ qs n (sqA qs t).c ((u : Int) - x) ((v : Int) - y - sideI n) = 1 ∨ valQ qs n (sqA qs t).d ((u : Int) - x - sideI n) ((v : Int) - y - sideI n) = 1) := by
      have e0 : pvQ qs n t x y 4 u v ↔ ∃ j, (j = 0 ∨ j = 1 ∨ j = 2 ∨ j = 3) ∧ valQ qs n (prt (sqA qs t) j) ((u : Int) - (x + (j : Int) % 2 * sideI n)) ((v : Int) - (y + (j : Int) / 2 * sideI n)) = 1 := by
        unfold pvQ
        constructor
        · rintro ⟨j, hj, e⟩; exact ⟨j, by omega, e⟩
        · rintro ⟨j, hj, e⟩; exact ⟨j, by omega, e⟩
      rw [e0]
      constructor
      · rintro ⟨j, rfl | rfl | rfl | rfl, e⟩ <;> simp [prt, Int.sub_sub] at e ⊢ <;> simp [e]
      · intro e
        rcases e with e | e | e | e
        · exact ⟨0, by omega, by simpa [prt] using e⟩
        · exact ⟨1, by omega, by simpa [prt, Int.sub_sub] using e⟩
        · exact ⟨2, by omega, by simpa [prt, Int.sub_sub] using e⟩
        · exact ⟨3, by omega, by simpa [prt, Int.sub_sub] using e⟩
    rw [p]
    omega
/-- The bits of an eight that were shown so far. -/
def ebQ (k kj : Nat) (x y : Int) (u v : Nat) : Prop := ∃ i, i < 64 ∧ k.testBit i = true ∧ kj.testBit i = false ∧ x + ((i : Nat) : Int) % 8 = u ∧ y + ((i : Nat) : Int) / 8 = v
theorem ebQ_step {W H : Nat} {k kj b : Nat} {x y : Int} {g g1 g2 : Nat → Int} (hb : b < 64) (sub : ∀ i, kj.testBit i = true → k.testBit i = true) (hk : kj.testBit b = true) (hl : ∀ j, j < b → kj.testBit j = false) (h : ShP W H (ebQ k kj x y) g g1) (s : ShP W H (fun u v => x + (b : Int) % 8 = u ∧ y + (b : Int) / 8 = v) g1 g2) : ShP W H (ebQ k (kj &&& (kj - 1)) x y) g g2 :=
  h.trans s fun u v _ _ => by
    constructor
    · rintro ⟨i, hi, e1, e2, e3, e4⟩
      rw [and_predH hk hl] at e2
      by_cases c : i = b
      · subst c; exact Or.inr ⟨e3, e4⟩
      · refine Or.inl ⟨i, hi, e1, ?_, e3, e4⟩
        simpa [c] using e2
    · rintro (⟨i, hi, e1, e2, e3, e4⟩ | ⟨e3, e4⟩)
      · exact ⟨i, hi, e1, by rw [and_predH hk hl, e2]; rfl, e3, e4⟩
      · exact ⟨b, hb, sub b hk, by rw [and_predH hk hl]; simp, e3, e4⟩
theorem ebQ_done {W H : Nat} {qs : List Sq} {t : Nat} {x y : Int} {g g1 : Nat → Int} (h : ShP W H (ebQ (sqA qs t).k 0 x y) g g1) : ShQ W H qs 0 t x y g g1 :=
  h.congr fun u v _ _ => by
    show bitQ _ _ _ = 1 ↔ _
    constructor
    · intro e
      by_cases r : 0 ≤ (u : Int) - x ∧ (u : Int) - x < 8 ∧ 0 ≤ (v : Int) - y ∧ (v : Int) - y < 8
      · rw [bit_test _ r] at e
        obtain ⟨i, hi⟩ : ∃ i, (8 * ((v : Int) - y) + ((u : Int) - x)).toNat = i := ⟨_, rfl⟩
        rw [hi] at e
        refine ⟨i, by omega, ?_, by simp, by omega, by omega⟩
        cases hc : (sqA qs t).k.testBit i with
        | true => rfl
        | false => rw [hc] at e; simp at e
      · rw [bit_out r] at e; omega
    · rintro ⟨i, hi, e1, _, e3, e4⟩
      have r : 0 ≤ (u : Int) - x ∧ (u : Int) - x < 8 ∧ 0 ≤ (v : Int) - y ∧ (v : Int) - y < 8 := by omega
      rw [bit_test _ r, show (8 * ((v : Int) - y) + ((u : Int) - x)).toNat = i by omega, e1]; rfl
end Go.Proofs.YtelocgefaommmaaDoor

