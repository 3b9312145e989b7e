/-
  What the last text of this claim leans on, part 1: Aa1, Spec, Rd, Rb.
-/
import Derived.Test.YtbkllhlapdmlfaaProg
import Derived.Lib.Hide
import Derived.WalkKit
import Derived.WalkSpells
import Derived.WalkLawsBesides
import Derived.Deep.QuietTactic
import Derived.BigQuiet
import Derived.Laws.BitsAllLaws
namespace Go.Proofs.Ytbkllhlapdmlfaa
structure AntS where
  col : Int → Int → Nat
  x : Int
  y : Int
  d : Nat
def dxA (d : Nat) : Int := if d = 1 then 1 else if d = 3 then -1 else 0
def dyA (d : Nat) : Int := if d = 2 then 1 else if d = 0 then -1 else 0
def trnA (t : Nat → Bool) (c d : Nat) : Nat := (d + if t c then 1 else 3) % 4
def bckA (t : Nat → Bool) (c d : Nat) : Nat := (d + if t c then 3 else 1) % 4
def setA (col : Int → Int → Nat) (x y : Int) (c : Nat) : Int → Int → Nat := fun u v => if u = x ∧ v = y then c else col u v
/-- A step. -/
def stepA' (t : Nat → Bool) (L : Nat) (s : AntS) : AntS :=
  { col := setA s.col s.x s.y ((s.col s.x s.y + 1) % L), x := s.x + dxA (trnA t (s.col s.x s.y) s.d), y := s.y + dyA (trnA t (s.col s.x s.y) s.d), d := trnA t (s.col s.x s.y) s.d }
/-- A step undone. -/
def undoA (t : Nat → Bool) (L : Nat) (s : AntS) : AntS :=
  { col := setA s.col (s.x - dxA s.d) (s.y - dyA s.d) ((s.col (s.x - dxA s.d) (s.y - dyA s.d) + L - 1) % L), x := s.x - dxA s.d, y := s.y - dyA s.d, d := bckA t ((s.col (s.x - dxA s.d) (s.y - dyA s.d) + L - 1) % L) s.d }
structure OkA (L : Nat) (s : AntS) : Prop where
  col : ∀ x y, s.col x y < L
  d : s.d < 4
theorem setA_set (col : Int → Int → Nat) (x y : Int) (c c' : Nat) : setA (setA col x y c) x y c' = setA col x y c' := by
  funext u v
  unfold setA
  split <;> rfl
theorem setA_self (col : Int → Int → Nat) (x y : Int) : setA col x y (col x y) = col := by
  funext u v
  unfold setA
  split
  · rename_i h; rw [h.1, h.2]
  · rfl
theorem setA_at (col : Int → Int → Nat) (x y : Int) (c : Nat) : setA col x y c x y = c := by simp [setA]
theorem up_down {L c : Nat} (h : c < L) : ((c + 1) % L + L - 1) % L = c := by
  by_cases e : c + 1 = L
  · rw [e, Nat.mod_self]; rw [Nat.mod_eq_of_lt (by omega)]; omega
  · rw [Nat.mod_eq_of_lt (show c + 1 < L by omega), show c + 1 + L - 1 = c + L by omega, Nat.add_mod_right, Nat.mod_eq_of_lt h]
theorem down_up {L c : Nat} (h : c < L) : ((c + L - 1) % L + 1) % L = c := by
  by_cases e : c = 0
  · subst e; rw [Nat.mod_eq_of_lt (show 0 + L - 1 < L by omega), show 0 + L - 1 + 1 = L by omega, Nat.mod_self]
  · rw [show c + L - 1 = (c - 1) + L by omega, Nat.add_mod_right, Nat.mod_eq_of_lt (show c - 1 < L by omega), show c - 1 + 1 = c by omega, Nat.mod_eq_of_lt h]
theorem bck_trn (t : Nat → Bool) (c : Nat) {d : Nat} (h : d < 4) : bckA t c (trnA t c d) = d := by
  unfold bckA trnA
  cases t c <;> simp <;> omega
theorem trn_bck (t : Nat → Bool) (c : Nat) {d : Nat} (h : d < 4) : trnA t c (bckA t c d) = d := by
  unfold bckA trnA
  cases t c <;> simp <;> omega
theorem step_ok {t : Nat → Bool} {L : Nat} {s : AntS} (h : OkA L s) : OkA L (stepA' t L s) := by
  have h0 := h.col s.x s.y
  refine ⟨fun x y => ?_, ?_⟩
  · show setA _ _ _ _ _ _ < L
    unfold setA
    split
    · exact Nat.mod_lt _ (by omega)
    · exact h.col x y
  · exact Nat.mod_lt _ (by omega)
theorem undo_ok {t : Nat → Bool} {L : Nat} {s : AntS} (h : OkA L s) : OkA L (undoA t L s) := by
  have h0 := h.col s.x s.y
  refine ⟨fun x y => ?_, ?_⟩
  · show setA _ _ _ _ _ _ < L
    unfold setA
    split
    · exact Nat.mod_lt _ (by omega)
    · exact h.col x y
  · exact Nat.mod_lt _ (by omega)
theorem undo_step {t : Nat → Bool} {L : Nat} {s : AntS} (h : OkA L s) : undoA t L (stepA' t L s) = s := by
  obtain ⟨col, x, y, d⟩ := s
  have h0 : col x y < L := h.col x y
  have hd : d < 4 := h.d
  unfold undoA stepA'
  simp only [Int.add_sub_cancel, setA_at, up_down h0, bck_trn t _ hd, setA_set, setA_self]
theorem step_undo {t : Nat → Bool} {L : Nat} {s : AntS} (h : OkA L s) : stepA' t L (undoA t L s) = s := by
  obtain ⟨col, x, y, d⟩ := s
  have h0 : col (x - dxA d) (y - dyA d) < L := h.col _ _
  have hd : d < 4 := h.d
  unfold stepA' undoA
  simp only [setA_at, down_up h0, trn_bck t _ hd, setA_set, setA_self, Int.sub_add_cancel]
def runA (t : Nat → Bool) (L : Nat) (s : AntS) : Nat → AntS
  | 0 => s
  | n + 1 => stepA' t L (runA t L s n)
def backA (t : Nat → Bool) (L : Nat) (s : AntS) : Nat → AntS
  | 0 => s
  | n + 1 => undoA t L (backA t L s n)
theorem run_ok {t : Nat → Bool} {L : Nat} {s : AntS} (h : OkA L s) : ∀ n, OkA L (runA t L s n)
  | 0 => h
  | n + 1 => step_ok (run_ok h n)
theorem back_okA {t : Nat → Bool} {L : Nat} {s : AntS} (h : OkA L s) : ∀ n, OkA L (backA t L s n)
  | 0 => h
  | n + 1 => undo_ok (back_okA h n)
theorem run_add (t : Nat → Bool) (L : Nat) (s : AntS) (n : Nat) : ∀ m, runA t L (runA t L s n) m = runA t L s (n + m)
  | 0 => rfl
  | m + 1 => by rw [runA, run_add t L s n m]; rfl
theorem back_one (t : Nat → Bool) (L : Nat) (s : AntS) : ∀ n, backA t L (undoA t L s) n = backA t L s (n + 1)
  | 0 => rfl
  | n + 1 => by rw [backA, back_one t L s n]; rfl
theorem run_one (t : Nat → Bool) (L : Nat) (s : AntS) : ∀ n, runA t L (stepA' t L s) n = runA t L s (n + 1)
  | 0 => rfl
  | n + 1 => by rw [runA, run_one t L s n]; rfl
theorem back_run {t : Nat → Bool} {L : Nat} {s : AntS} (h : OkA L s) : ∀ n, backA t L (runA t L s n) n = s
  | 0 => rfl
  | n + 1 => by rw [runA, ← back_one, undo_step (run_ok h n)]; exact back_run h n
theorem run_back {t : Nat → Bool} {L : Nat} {s : AntS} (h : OkA L s) : ∀ n, runA t L (backA t L s n) n = s
  | 0 => rfl
  | n + 1 => by rw [backA, ← run_one, step_undo (back_okA h n)]; exact run_back h n
/-- One place lies ahead of another, or is it. -/
def leA (a b : Int × Int) : Prop := a.1 < b.1 ∨ (a.1 = b.1 ∧ a.2 ≤ b.2)
theorem far_most (p : Nat → Int × Int) : ∀ n, ∃ m, m ≤ n ∧ ∀ i, i ≤ n → leA (p i) (p m)
  | 0 => ⟨0, Nat.le_refl _, fun i hi => by
      have e : i = 0 := by omega
      rw [e]; exact Or.inr ⟨rfl, Int.le_refl _⟩⟩
  | n + 1 => by
    obtain ⟨m, hm, h⟩ := far_most p n
    by_cases q : leA (p (n + 1)) (p m)
    · refine ⟨m, by omega, fun i hi => ?_⟩
      by_cases e : i = n + 1
      · subst e; exact q
      · exact h i (by omega)
    · refine ⟨n + 1, Nat.le_refl _, fun i hi => ?_⟩
      by_cases e : i = n + 1
      · subst e; exact Or.inr ⟨rfl, Int.le_refl _⟩
      · have h1 := h i (by omega)
        unfold leA at *
        omega
theorem period {t : Nat → Bool} {L : Nat} {s : AntS} {n : Nat} (h : runA t L s n = s) (k : Nat) : ∀ j, runA t L s (k + n * j) = runA t L s k
  | 0 => rfl
  | j + 1 => by
    rw [show k + n * (j + 1) = n + (k + n * j) by rw [Nat.mul_succ]; omega, ← run_add, h]
    exact period h k j
/-- No walker whose rule has both letters comes back to what was. -/
theorem never_back {t : Nat → Bool} {L : Nat} {s : AntS} (hs : OkA L s) {n : Nat} (n1 : 1 ≤ n) {cl cr : Nat} (hl : cl < L) (hr : cr < L) (tl : t cl = false) (tr : t cr = true) (h : runA t L s n = s) : False := by
  have per := period h
  obtain ⟨S, hS⟩ : ∃ S : Nat → AntS, S = fun k => runA t L s k := ⟨_, rfl⟩
  have S1 : ∀ k, S (k + 1) = stepA' t L (S k) := fun k => by rw [hS]; rfl
  have ok : ∀ k, OkA L (S k) := fun k => by rw [hS]; exact run_ok hs k
  have perS : ∀ k j, S (k + n * j) = S k := fun k j => by rw [hS]; exact per k j
  clear hS per
  -- parity
  have par : ∀ k, ((S k).d + (S k).x + (S k).y) % 2 = ((S 0).d + (S 0).x + (S 0).y) % 2 := by
    intro k
    induction k with
    | zero => rfl
    | succ k ih =>
      rw [← ih, S1]
      rcases hk : S k with ⟨col, x, y, d⟩
      have hd : d < 4 := by have := (ok k).d; rw [hk] at this; exact this
      show (((trnA t (col x y) d : Nat) : Int) + (x + dxA (trnA t (col x y) d)) + (y + dyA (trnA t (col x y) d))) % 2 = ((d : Int) + x + y) % 2
      unfold trnA
      rcases (by omega : d = 0 ∨ d = 1 ∨ d = 2 ∨ d = 3) with rfl | rfl | rfl | rfl <;> cases t (col x y) <;> simp [dxA, dyA] <;> omega
  -- the farthest place
  obtain ⟨m, -, hm⟩ := far_most (fun k => ((S k).x, (S k).y)) n
  obtain ⟨X, hX⟩ : ∃ X, (S m).x = X := ⟨_, rfl⟩
  obtain ⟨Y, hY⟩ : ∃ Y, (S m).y = Y := ⟨_, rfl⟩
  have far : ∀ k, leA ((S k).x, (S k).y) (X, Y) := fun k => by
    have e : S k = S (k % n) := by
      have := perS (k % n) (k / n)
      rw [Nat.mod_add_div] at this
      exact this
    rw [e, ← hX, ← hY]
    exact hm (k % n) (Nat.le_of_lt (Nat.mod_lt _ n1))
  -- what a visit is like
  have visit : ∀ k, (S k).x = X → (S k).y = Y → ((S k).d = 1 ∧ t ((S k).col X Y) = false) ∨ ((S k).d = 2 ∧ t ((S k).col X Y) = true) := by
    intro k hx hy
    have e1 : S (k + n) = S k := by have := perS k 1; rwa [Nat.mul_one] at this
    have prev := far (k + n - 1)
    have next := far (k + 1)
    have stp := S1 (k + n - 1)
    rw [show k + n - 1 + 1 = k + n by omega, e1] at stp
    rw [S1] at next
    rcases hk : S k with ⟨col, x, y, d⟩
    rcases hk' : S (k + n - 1) with ⟨col', x', y', d'⟩
    rw [hk] at stp hx hy next
    rw [hk'] at stp prev
    have hd : d < 4 := by have := (ok k).d; rw [hk] at this; exact this
    simp only at hx hy
    subst hx hy
    have ex : x = x' + dxA d := by
      have a := congrArg AntS.x stp
      have b := congrArg AntS.d stp
      simp only [stepA'] at a b
      rw [← b] at a; exact a
    have ey : y = y' + dyA d := by
      have a := congrArg AntS.y stp
      have b := congrArg AntS.d stp
      simp only [stepA'] at a b
      rw [← b] at a; exact a
    simp only [leA, stepA'] at prev next
    show (d = 1 ∧ t (col x y) = false) ∨ (d = 2 ∧ t (col x y) = true)
    rcases (by omega : d = 0 ∨ d = 1 ∨ d = 2 ∨ d = 3) with rfl | rfl | rfl | rfl
    · simp [dxA, dyA] at ex ey; omega
    · refine Or.inl ⟨rfl, ?_⟩
      cases ht : t (col x y)
      · rfl
      · exfalso; simp [trnA, ht, dxA, dyA] at next; omega
    · refine Or.inr ⟨rfl, ?_⟩
      cases ht : t (col x y)
      · exfalso; simp [trnA, ht, dxA, dyA] at next; omega
      · rfl
    · simp [dxA, dyA] at ex ey; omega
  -- the colours of that place come in turn
  have stay : ∀ k, ¬ ((S k).x = X ∧ (S k).y = Y) → (S (k + 1)).col X Y = (S k).col X Y := fun k hne => by
    rw [S1]
    show setA _ _ _ _ X Y = _
    unfold setA
    rw [if_neg (fun q => hne ⟨q.1.symm, q.2.symm⟩)]
  have turn : ∀ k, (S k).x = X → (S k).y = Y → (S (k + 1)).col X Y = ((S k).col X Y + 1) % L := fun k hx hy => by
    rw [S1]
    show setA (S k).col (S k).x (S k).y _ X Y = _
    rw [hx, hy, setA_at]
  have wait : ∀ g k, (∃ j, j ≤ g ∧ (S (k + j)).x = X ∧ (S (k + j)).y = Y) → ∃ k', (S k').x = X ∧ (S k').y = Y ∧ (S k').col X Y = (S k).col X Y := by
    intro g
    induction g with
    | zero =>
      rintro k ⟨j, hj, h1, h2⟩
      have e : j = 0 := by omega
      subst e
      exact ⟨k, h1, h2, rfl⟩
    | succ g ih =>
      rintro k ⟨j, hj, h1, h2⟩
      by_cases q : (S k).x = X ∧ (S k).y = Y
      · exact ⟨k, q.1, q.2, rfl⟩
      · have j0 : j ≠ 0 := fun e => by subst e; exact q ⟨h1, h2⟩
        obtain ⟨k', a, b, c⟩ := ih (k + 1) ⟨j - 1, by omega, by rw [show k + 1 + (j - 1) = k + j by omega]; exact h1, by rw [show k + 1 + (j - 1) = k + j by omega]; exact h2⟩
        exact ⟨k', a, b, c.trans (stay k q)⟩
  have every : ∀ i, ∃ k, (S k).x = X ∧ (S k).y = Y ∧ (S k).col X Y = ((S m).col X Y + i) % L := by
    intro i
    induction i with
    | zero => exact ⟨m, hX, hY, by rw [Nat.add_zero, Nat.mod_eq_of_lt ((ok m).col X Y)]⟩
    | succ i ih =>
      obtain ⟨k, h1, h2, h3⟩ := ih
      have e1 : S (k + n) = S k := by have := perS k 1; rwa [Nat.mul_one] at this
      obtain ⟨k', a, b, c⟩ := wait n (k + 1) ⟨n - 1, by omega, by rw [show k + 1 + (n - 1) = k + n by omega, e1]; exact h1, by rw [show k + 1 + (n - 1) = k + n by omega, e1]; exact h2⟩
      refine ⟨k', a, b, ?_⟩
      rw [c, turn k h1 h2, h3, Nat.mod_add_mod]
      rfl
  have all : ∀ c, c < L → ∃ k, (S k).x = X ∧ (S k).y = Y ∧ (S k).col X Y = c := fun c hc => by
    have h0 := (ok m).col X Y
    obtain ⟨k, a, b, e⟩ := every (c + L - (S m).col X Y)
    refine ⟨k, a, b, e.trans ?_⟩
    rw [show (S m).col X Y + (c + L - (S m).col X Y) = c + L by omega, Nat.add_mod_right, Nat.mod_eq_of_lt hc]
  obtain ⟨k1, a1, b1, e1⟩ := all cl hl
  obtain ⟨k2, a2, b2, e2⟩ := all cr hr
  have v1 := visit k1 a1 b1
  have v2 := visit k2 a2 b2
  rw [e1, tl] at v1
  rw [e2, tr] at v2
  simp at v1 v2
  have p1 := par k1
  have p2 := par k2
  rw [v1, a1, b1] at p1
  rw [v2, a2, b2] at p2
  omega
end Go.Proofs.Ytbkllhlapdmlfaa

namespace Go.Proofs.Ytbkllhlapdmlfaa

/-- Does a byte from lo to hi stand at i? -/
def inR (s : ByteArray) (i : Nat) (lo hi : Int) : Bool := if h : i < s.size then decide (lo ≤ (s[i].toNat : Int)) && decide ((s[i].toNat : Int) ≤ hi) else false

/-- The byte at i, 0 behind the end. -/
def bt (s : ByteArray) (i : Nat) : Nat := if h : i < s.size then s[i].toNat else 0

theorem bt_lt (s : ByteArray) (i : Nat) (h : i < s.size) : s[i].toNat = bt s i := by simp [bt, h]
theorem bt_le (s : ByteArray) (i : Nat) : bt s i ≤ 255 := by
  unfold bt
  split
  · have := (s[i]).toNat_lt; omega
  · omega
theorem inR_true {s : ByteArray} {i : Nat} {lo hi : Int} : inR s i lo hi = true ↔ i < s.size ∧ lo ≤ (bt s i : Int) ∧ (bt s i : Int) ≤ hi := by
  unfold inR bt
  by_cases h : i < s.size <;> simp [h]
theorem inR_false {s : ByteArray} {i : Nat} {lo hi : Int} : inR s i lo hi = false ↔ ¬ (i < s.size ∧ lo ≤ (bt s i : Int) ∧ (bt s i : Int) ≤ hi) := by
  rw [← inR_true]; cases inR s i lo hi <;> simp

/-- Digits that rise, as bits, and where they end. -/
def risF (s : ByteArray) : Nat → Nat → Nat → Nat → Nat × Nat
  | 0, i, _, acc => (acc, i)
  | f + 1, i, low, acc => if inR s i low 56 then risF s f (i + 1) (bt s i + 1) (acc + 2 ^ (bt s i - 48)) else (acc, i)
def ris (s : ByteArray) (i : Nat) : Nat × Nat := risF s (s.size - i) i 48 0

theorem risF_step {s : ByteArray} {i low acc : Nat} (h : inR s i low 56 = true) :
    risF s (s.size - i) i low acc = risF s (s.size - (i + 1)) (i + 1) (bt s i + 1) (acc + 2 ^ (bt s i - 48)) := by
  have hl := (inR_true.1 h).1
  rw [show s.size - i = (s.size - (i + 1)) + 1 by omega]
  simp [risF, h]
theorem risF_stop {s : ByteArray} {i low acc : Nat} (h : inR s i low 56 = false) : risF s (s.size - i) i low acc = (acc, i) := by
  cases s.size - i <;> simp [risF, h]

/-- Digits from i on as one number (added to what there was), and where they end. -/
def numF (s : ByteArray) : Nat → Nat → Nat → Nat × Nat
  | 0, i, v => (v, i)
  | f + 1, i, v => if inR s i 48 57 then numF s f (i + 1) (v * 10 + (bt s i - 48)) else (v, i)
def num (s : ByteArray) (i : Nat) : Nat × Nat := numF s (s.size - i) i 0

theorem numF_step {s : ByteArray} {i v : Nat} (h : inR s i 48 57 = true) :
    numF s (s.size - i) i v = numF s (s.size - (i + 1)) (i + 1) (v * 10 + (bt s i - 48)) := by
  have hl := (inR_true.1 h).1
  rw [show s.size - i = (s.size - (i + 1)) + 1 by omega]
  simp [numF, h]
theorem numF_stop {s : ByteArray} {i v : Nat} (h : inR s i 48 57 = false) : numF s (s.size - i) i v = (v, i) := by
  cases s.size - i <;> simp [numF, h]

/-- Is what stands at i a number from least to most, without a needless 0? -/
def numOk (s : ByteArray) (i least most : Nat) : Bool :=
  !(decide ((num s i).2 = i) || (decide (1 < (num s i).2 - i) && decide (bt s i = 48)) || decide ((num s i).1 < least) || decide (most < (num s i).1))

/-- A rule, as plain data. -/
structure Out where
  kind : Int
  born : Int
  stay : Int
  states : Int
  radius : Int
  table : List Int
  turns : ByteArray

/-- Of the digits of a table how many stand there, from i on. -/
def tabF (s : ByteArray) (hi : Int) : Nat → Nat → Nat
  | 0, _ => 0
  | f + 1, i => if inR s i 48 hi then tabF s hi f (i + 1) + 1 else 0

def lifeS (s : ByteArray) : (Out × Nat) ⊕ Nat :=
  if !inR s (ris s 1).2 47 47 then .inr (ris s 1).2
  else if !inR s ((ris s 1).2 + 1) 83 83 then .inr ((ris s 1).2 + 1)
  else .inl (⟨1, (ris s 1).1, (ris s ((ris s 1).2 + 2)).1, 0, 0, [], ⟨#[]⟩⟩, (ris s ((ris s 1).2 + 2)).2)

def bitOf (n i : Nat) : Int := ((n / 2 ^ i % 2 : Nat) : Int)

def numberedS (s : ByteArray) : (Out × Nat) ⊕ Nat :=
  if !numOk s 1 0 255 then .inr 1
  else .inl (⟨2, 0, 0, 2, 1, (List.range 8).map (bitOf (num s 1).1), ⟨#[]⟩⟩, (num s 1).2)

def entries (n m : Nat) : Nat := n ^ (2 * m + 1)

/-- The table of n states and radius m, from behind the blank at j. -/
def tabEnd (s : ByteArray) (n m j : Nat) : (Out × Nat) ⊕ Nat :=
  if tabF s (48 + n - 1) (entries n m) (j + 1) < entries n m then .inr (j + 1 + tabF s (48 + n - 1) (entries n m) (j + 1))
  else .inl (⟨2, 0, 0, n, m, (List.range (entries n m)).map (fun y => (bt s (j + 1 + y) : Int) - 48), ⟨#[]⟩⟩, j + 1 + entries n m)

def tabledS (s : ByteArray) : (Out × Nat) ⊕ Nat :=
  if !inR s 1 32 32 then .inr 1
  else if !numOk s 2 2 4 then .inr 2
  else if !inR s (num s 2).2 32 32 then .inr (num s 2).2
  else if !numOk s ((num s 2).2 + 1) 0 2 then .inr ((num s 2).2 + 1)
  else if !inR s (num s ((num s 2).2 + 1)).2 32 32 then .inr (num s ((num s 2).2 + 1)).2
  else tabEnd s (num s 2).1 (num s ((num s 2).2 + 1)).1 (num s ((num s 2).2 + 1)).2

/-- Signs from i on, at most so many. -/
def turnF (s : ByteArray) : Nat → Nat → Nat
  | 0, i => i
  | f + 1, i => if i < s.size ∧ (bt s i = 76 ∨ bt s i = 82) then turnF s f (i + 1) else i

def antS (s : ByteArray) : (Out × Nat) ⊕ Nat :=
  if !inR s 1 32 32 then .inr 1
  else if turnF s 26 2 = 2 then .inr 2
  else .inl (⟨3, 0, 0, 0, 0, [], s.extract 2 (turnF s 26 2)⟩, turnF s 26 2)

def kindS (s : ByteArray) : (Out × Nat) ⊕ Nat :=
  if s.size = 0 then .inr 0
  else if bt s 0 = 66 then lifeS s
  else if bt s 0 = 87 then numberedS s
  else if bt s 0 = 76 then tabledS s
  else if bt s 0 = 84 then antS s
  else .inr 0

def parseS (s : ByteArray) : Out ⊕ Nat :=
  match kindS s with
  | .inr a => .inr a
  | .inl (o, p) => if p = s.size then .inl o else .inr p

end Go.Proofs.Ytbkllhlapdmlfaa

namespace Go.Proofs.Ytbkllhlapdmlfaa
open Go.RowKit

/-- The reader at block b: its text s, its place i. -/
structure At (b : Nat) (s : ByteArray) (i : Nat) (w : World) : Prop where
  txt : w.cell? ⟨b, 0, none⟩ = some (.string s)
  pos : w.cell? ⟨b, 1, none⟩ = some (.int .i64 (i : Int))
  fz0 : w.frozen? ⟨b, 0, none⟩ = false
  fz1 : w.frozen? ⟨b, 1, none⟩ = false

/-- Of what was there, block b alone may have turned. -/
structure Rd (b : Nat) (w w' : World) : Prop where
  os : w'.os = w.os
  tape : w'.tape = w.tape
  output : w'.output = w.output
  size : w.heap.size ≤ w'.heap.size
  block : ∀ k, k < w.heap.size → k ≠ b → w'.heap[k]? = w.heap[k]?

theorem Rd.refl (b : Nat) (w : World) : Rd b w w := ⟨rfl, rfl, rfl, Nat.le_refl _, fun _ _ _ => rfl⟩
theorem Rd.trans {b : Nat} {a c d : World} (h : Rd b a c) (k : Rd b c d) : Rd b a d :=
  ⟨k.os.trans h.os, k.tape.trans h.tape, k.output.trans h.output, Nat.le_trans h.size k.size, fun i hi hb => (k.block i (Nat.lt_of_lt_of_le hi h.size) hb).trans (h.block i hi hb)⟩
theorem Rd.drewN {b : Nat} {a w : World} (h : Rd b a w) (n : Nat) : Rd b a (w.drewN n) := h.trans ⟨rfl, rfl, rfl, Nat.le_refl _, fun _ _ _ => rfl⟩
theorem Rd.drew {b : Nat} {a w : World} (h : Rd b a w) : Rd b a w.drew := h.trans ⟨rfl, rfl, rfl, Nat.le_refl _, fun _ _ _ => rfl⟩
theorem Rd.alloc {b : Nat} {a w : World} (h : Rd b a w) (o : Obj) : Rd b a (w.alloc o) :=
  h.trans ⟨rfl, rfl, rfl, by simp, fun k hk _ => Below.heap_alloc _ _ _ hk⟩
/-- A store into the reader. -/
theorem Rd.set {b : Nat} {a w : World} (h : Rd b a w) (o : Nat) (u : Value) : Rd b a (w.setCell ⟨b, o, none⟩ u) :=
  h.trans ⟨rfl, rfl, rfl, by simp [World.setCell], fun k _ hk => Below.heap_setCell _ _ _ _ hk⟩
/-- A store into a new block. -/
theorem Rd.setNew {b : Nat} {a w : World} (h : Rd b a w) {p : Addr} (hp : a.heap.size ≤ p.block) (u : Value) : Rd b a (w.setCell p u) := by
  refine ⟨h.os, h.tape, h.output, ?_, fun k hk hb => ?_⟩
  · have := h.size; simp [World.setCell]; exact this
  · rw [Below.heap_setCell _ _ _ _ (by omega)]; exact h.block k hk hb
theorem Rd.below {b B : Nat} {w w' : World} (h : Rd b w w') (hB : B ≤ b) (hs : B ≤ w.heap.size) : Below B w w' :=
  ⟨h.os, h.tape, h.output, h.size, fun k hk => h.block k (by omega) (by omega)⟩
theorem Rd.cell {b : Nat} {w w' : World} (h : Rd b w w') : ∀ k o, k < w.heap.size → k ≠ b → w'.cell? ⟨k, o, none⟩ = w.cell? ⟨k, o, none⟩ :=
  fun k _ hk hb => World.cell?_of_block (w := w) (h.block k hk hb)
theorem Rd.frozen {b : Nat} {w w' : World} (h : Rd b w w') : ∀ k o, k < w.heap.size → k ≠ b → w'.frozen? ⟨k, o, none⟩ = w.frozen? ⟨k, o, none⟩ :=
  fun k _ hk hb => World.frozen?_of_block (w := w) (h.block k hk hb)

theorem At.lt {b : Nat} {s : ByteArray} {i : Nat} {w : World} (h : At b s i w) : b < w.heap.size := by
  rcases Nat.lt_or_ge b w.heap.size with k | k
  · exact k
  · have := h.txt; simp [World.cell?, Array.getElem?_eq_none k] at this
theorem At.drewN {b : Nat} {s : ByteArray} {i : Nat} {w : World} (h : At b s i w) (n : Nat) : At b s i (w.drewN n) := ⟨h.txt, h.pos, h.fz0, h.fz1⟩
theorem At.alloc {b : Nat} {s : ByteArray} {i : Nat} {w : World} (h : At b s i w) (o : Obj) : At b s i (w.alloc o) := by
  have hl := h.lt
  have e : (w.alloc o).heap[b]? = w.heap[b]? := Below.heap_alloc _ _ _ hl
  exact ⟨(World.cell?_of_block (w := w) (a := ⟨b, 0, none⟩) e).trans h.txt, (World.cell?_of_block (w := w) (a := ⟨b, 1, none⟩) e).trans h.pos,
    (World.frozen?_of_block (w := w) (a := ⟨b, 0, none⟩) e).trans h.fz0, (World.frozen?_of_block (w := w) (a := ⟨b, 1, none⟩) e).trans h.fz1⟩
theorem At.setOther {b : Nat} {s : ByteArray} {i : Nat} {w : World} (h : At b s i w) {p : Addr} (hp : b ≠ p.block) (u : Value) : At b s i (w.setCell p u) := by
  have e : (w.setCell p u).heap[b]? = w.heap[b]? := Below.heap_setCell _ _ _ _ hp
  exact ⟨(World.cell?_of_block (w := w) (a := ⟨b, 0, none⟩) e).trans h.txt, (World.cell?_of_block (w := w) (a := ⟨b, 1, none⟩) e).trans h.pos,
    (World.frozen?_of_block (w := w) (a := ⟨b, 0, none⟩) e).trans h.fz0, (World.frozen?_of_block (w := w) (a := ⟨b, 1, none⟩) e).trans h.fz1⟩
theorem At.go {b : Nat} {s : ByteArray} {i : Nat} {w : World} (h : At b s i w) (j : Nat) : At b s j (w.setCell ⟨b, 1, none⟩ (.int .i64 (j : Int))) := by
  refine ⟨?_, ?_, ?_, ?_⟩
  · exact (World.cell?_setCell_other (w := w) (a := ⟨b, 1, none⟩) (b := ⟨b, 0, none⟩) (v := _) (h := by simp)).trans h.txt
  · exact World.cell?_setCell_same (w := w) (a := ⟨b, 1, none⟩) (v := _) (h := h.pos)
  · rw [World.frozen?_setCell]; exact h.fz0
  · rw [World.frozen?_setCell]; exact h.fz1

def oops : List PanicEntry := [{ v := .iface 74 (.int .i64 2), recovered := false }]

end Go.Proofs.Ytbkllhlapdmlfaa

namespace Go.Proofs.Ytbkllhlapdmlfaa
open Go.RowKit

theorem i64_or_nat (a b : Nat) (ha : a < 4294967296) (hb : b < 4294967296) : bits .or .i64 (a : Int) (b : Int) = ((a ||| b : Nat) : Int) := by
  have hx : a ||| b < 2 ^ 32 := Nat.or_lt_two_pow (by omega) (by omega)
  show IntKind.i64.wrap ((BitVec.ofInt 64 (a : Int) ||| BitVec.ofInt 64 (b : Int)).toNat : Int) = _
  rw [BitVec.toNat_or, ofInt_u64 a (by omega), ofInt_u64 b (by omega)]
  simp [IntKind.wrap, IntKind.bits, IntKind.signed]
  omega
theorem or_pow (a k : Nat) (hk : k ≤ 8) (ha : a < 2 ^ k) : bits .or .i64 (a : Int) (wrap64 (2 ^ k)) = ((a + 2 ^ k : Nat) : Int) := by
  have hp : 2 ^ k ≤ 2 ^ 8 := Nat.pow_le_pow_right (by omega) hk
  have e : wrap64 (2 ^ k) = ((2 ^ k : Nat) : Int) := by
    rw [show ((2 : Int) ^ k) = ((2 ^ k : Nat) : Int) by simp]
    unfold wrap64; omega
  rw [e, i64_or_nat a (2 ^ k) (by omega) (by omega)]
  have h2 := Nat.two_pow_add_eq_or_of_lt ha 1
  simp only [Nat.mul_one] at h2
  rw [Nat.or_comm, ← h2, Nat.add_comm]

end Go.Proofs.Ytbkllhlapdmlfaa

