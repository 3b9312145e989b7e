/-
  What the last text of this claim leans on, part 1: Spec, Li0, Oa1.
-/
namespace Go.Proofs.Ytdhbdkkchobinaa

/-- Does a byte from lo to hi stand at i? -/
def inR (s : ByteArray) (i : Nat) (lo hi : Int) : Bool := if h : i < s.size then decide (lo ≤ (s[i].toNat : Int)) && decide ((s[i].toNat : Int) ≤ hi) else false

/-- The byte at i, 0 behind the end. -/
def bt (s : ByteArray) (i : Nat) : Nat := if h : i < s.size then s[i].toNat else 0

theorem bt_lt (s : ByteArray) (i : Nat) (h : i < s.size) : s[i].toNat = bt s i := by simp [bt, h]
theorem bt_le (s : ByteArray) (i : Nat) : bt s i ≤ 255 := by
  unfold bt
  split
  · have := (s[i]).toNat_lt; omega
  · omega
theorem inR_true {s : ByteArray} {i : Nat} {lo hi : Int} : inR s i lo hi = true ↔ i < s.size ∧ lo ≤ (bt s i : Int) ∧ (bt s i : Int) ≤ hi := by
  unfold inR bt
  by_cases h : i < s.size <;> simp [h]
theorem inR_false {s : ByteArray} {i : Nat} {lo hi : Int} : inR s i lo hi = false ↔ ¬ (i < s.size ∧ lo ≤ (bt s i : Int) ∧ (bt s i : Int) ≤ hi) := by
  rw [← inR_true]; cases inR s i lo hi <;> simp

/-- Digits that rise, as bits, and where they end. -/
def risF (s : ByteArray) : Nat → Nat → Nat → Nat → Nat × Nat
  | 0, i, _, acc => (acc, i)
  | f + 1, i, low, acc => if inR s i low 56 then risF s f (i + 1) (bt s i + 1) (acc + 2 ^ (bt s i - 48)) else (acc, i)
def ris (s : ByteArray) (i : Nat) : Nat × Nat := risF s (s.size - i) i 48 0

theorem risF_step {s : ByteArray} {i low acc : Nat} (h : inR s i low 56 = true) :
    risF s (s.size - i) i low acc = risF s (s.size - (i + 1)) (i + 1) (bt s i + 1) (acc + 2 ^ (bt s i - 48)) := by
  have hl := (inR_true.1 h).1
  rw [show s.size - i = (s.size - (i + 1)) + 1 by omega]
  simp [risF, h]
theorem risF_stop {s : ByteArray} {i low acc : Nat} (h : inR s i low 56 = false) : risF s (s.size - i) i low acc = (acc, i) := by
  cases s.size - i <;> simp [risF, h]

/-- Digits from i on as one number (added to what there was), and where they end. -/
def numF (s : ByteArray) : Nat → Nat → Nat → Nat × Nat
  | 0, i, v => (v, i)
  | f + 1, i, v => if inR s i 48 57 then numF s f (i + 1) (v * 10 + (bt s i - 48)) else (v, i)
def num (s : ByteArray) (i : Nat) : Nat × Nat := numF s (s.size - i) i 0

theorem numF_step {s : ByteArray} {i v : Nat} (h : inR s i 48 57 = true) :
    numF s (s.size - i) i v = numF s (s.size - (i + 1)) (i + 1) (v * 10 + (bt s i - 48)) := by
  have hl := (inR_true.1 h).1
  rw [show s.size - i = (s.size - (i + 1)) + 1 by omega]
  simp [numF, h]
theorem numF_stop {s : ByteArray} {i v : Nat} (h : inR s i 48 57 = false) : numF s (s.size - i) i v = (v, i) := by
  cases s.size - i <;> simp [numF, h]

/-- Is what stands at i a number from least to most, without a needless 0? -/
def numOk (s : ByteArray) (i least most : Nat) : Bool :=
  !(decide ((num s i).2 = i) || (decide (1 < (num s i).2 - i) && decide (bt s i = 48)) || decide ((num s i).1 < least) || decide (most < (num s i).1))

/-- A rule, as plain data. -/
structure Out where
  kind : Int
  born : Int
  stay : Int
  states : Int
  radius : Int
  table : List Int
  turns : ByteArray

/-- Of the digits of a table how many stand there, from i on. -/
def tabF (s : ByteArray) (hi : Int) : Nat → Nat → Nat
  | 0, _ => 0
  | f + 1, i => if inR s i 48 hi then tabF s hi f (i + 1) + 1 else 0

def lifeS (s : ByteArray) : (Out × Nat) ⊕ Nat :=
  if !inR s (ris s 1).2 47 47 then .inr (ris s 1).2
  else if !inR s ((ris s 1).2 + 1) 83 83 then .inr ((ris s 1).2 + 1)
  else .inl (⟨1, (ris s 1).1, (ris s ((ris s 1).2 + 2)).1, 0, 0, [], ⟨#[]⟩⟩, (ris s ((ris s 1).2 + 2)).2)

def bitOf (n i : Nat) : Int := ((n / 2 ^ i % 2 : Nat) : Int)

def numberedS (s : ByteArray) : (Out × Nat) ⊕ Nat :=
  if !numOk s 1 0 255 then .inr 1
  else .inl (⟨2, 0, 0, 2, 1, (List.range 8).map (bitOf (num s 1).1), ⟨#[]⟩⟩, (num s 1).2)

def entries (n m : Nat) : Nat := n ^ (2 * m + 1)

/-- The table of n states and radius m, from behind the blank at j. -/
def tabEnd (s : ByteArray) (n m j : Nat) : (Out × Nat) ⊕ Nat :=
  if tabF s (48 + n - 1) (entries n m) (j + 1) < entries n m then .inr (j + 1 + tabF s (48 + n - 1) (entries n m) (j + 1))
  else .inl (⟨2, 0, 0, n, m, (List.range (entries n m)).map (fun y => (bt s (j + 1 + y) : Int) - 48), ⟨#[]⟩⟩, j + 1 + entries n m)

def tabledS (s : ByteArray) : (Out × Nat) ⊕ Nat :=
  if !inR s 1 32 32 then .inr 1
  else if !numOk s 2 2 4 then .inr 2
  else if !inR s (num s 2).2 32 32 then .inr (num s 2).2
  else if !numOk s ((num s 2).2 + 1) 0 2 then .inr ((num s 2).2 + 1)
  else if !inR s (num s ((num s 2).2 + 1)).2 32 32 then .inr (num s ((num s 2).2 + 1)).2
  else tabEnd s (num s 2).1 (num s ((num s 2).2 + 1)).1 (num s ((num s 2).2 + 1)).2

/-- Signs from i on, at most so many. -/
def turnF (s : ByteArray) : Nat → Nat → Nat
  | 0, i => i
  | f + 1, i => if i < s.size ∧ (bt s i = 76 ∨ bt s i = 82) then turnF s f (i + 1) else i

def antS (s : ByteArray) : (Out × Nat) ⊕ Nat :=
  if !inR s 1 32 32 then .inr 1
  else if turnF s 26 2 = 2 then .inr 2
  else .inl (⟨3, 0, 0, 0, 0, [], s.extract 2 (turnF s 26 2)⟩, turnF s 26 2)

def kindS (s : ByteArray) : (Out × Nat) ⊕ Nat :=
  if s.size = 0 then .inr 0
  else if bt s 0 = 66 then lifeS s
  else if bt s 0 = 87 then numberedS s
  else if bt s 0 = 76 then tabledS s
  else if bt s 0 = 84 then antS s
  else .inr 0

def parseS (s : ByteArray) : Out ⊕ Nat :=
  match kindS s with
  | .inr a => .inr a
  | .inl (o, p) => if p = s.size then .inl o else .inr p

end Go.Proofs.Ytdhbdkkchobinaa

namespace Go.Proofs.Ytdhbdkkchobinaa
set_option linter.unusedVariables false

/-- The number of the window of m digits from place i on. -/
def wn (S : Int) (f : Nat → Int) (i : Nat) : Nat → Int
  | 0 => 0
  | m + 1 => wn S f i m * S + f (i + m)
theorem wn_congr {S : Int} {f g : Nat → Int} {i k : Nat} : ∀ {m : Nat}, (∀ d, d < m → f (i + d) = g (k + d)) → wn S f i m = wn S g k m
  | 0, _ => rfl
  | m + 1, h => by
    rw [wn, wn, wn_congr (m := m) fun d hd => h d (by omega), h m (by omega)]
theorem wn_tail (S : Int) (f : Nat → Int) (i : Nat) : ∀ m, wn S f i (m + 1) = f i * S ^ m + wn S f (i + 1) m
  | 0 => by simp [wn]
  | m + 1 => by
    rw [wn, wn_tail S f i m, wn, Int.add_mul, Int.mul_assoc, ← Int.pow_succ, show i + 1 + m = i + (m + 1) by omega, Int.add_assoc]
theorem wn_nonneg {S : Int} {f : Nat → Int} {i : Nat} (hS : 0 ≤ S) : ∀ {m}, (∀ d, d < m → 0 ≤ f (i + d)) → 0 ≤ wn S f i m
  | 0, _ => Int.le_refl _
  | m + 1, h => by
    have h1 := wn_nonneg hS (m := m) fun d hd => h d (by omega)
    have h2 := h m (by omega)
    have h3 := Int.mul_nonneg h1 hS
    rw [wn]; omega
theorem wn_lt {S : Int} {f : Nat → Int} {i : Nat} (hS : 0 ≤ S) : ∀ {m}, (∀ d, d < m → 0 ≤ f (i + d) ∧ f (i + d) < S) → wn S f i m < S ^ m
  | 0, _ => by rw [wn, Int.pow_zero]; omega
  | m + 1, h => by
    have h1 := wn_lt hS (m := m) fun d hd => h d (by omega)
    have h2 := h m (by omega)
    have h3 : (wn S f i m + 1) * S ≤ S ^ m * S := Int.mul_le_mul_of_nonneg_right (by omega) hS
    rw [Int.add_mul, Int.one_mul] at h3
    rw [wn, Int.pow_succ]; omega

/-- A word's cells are states. -/
def cellsOk (S : Int) (xs : List Int) : Prop := ∀ x ∈ xs, 0 ≤ x ∧ x < S
theorem cellsOk_at {S : Int} {xs : List Int} (h : cellsOk S xs) {k : Nat} (hk : k < xs.length) : 0 ≤ xs.getD k 0 ∧ xs.getD k 0 < S := by
  rw [List.getD_eq_getElem?_getD, List.getElem?_eq_getElem hk]
  exact h _ (List.getElem_mem hk)

/-- What becomes of the cells that have R cells at each side. -/
def applyL (S : Int) (R : Nat) (T xs : List Int) : List Int :=
  (List.range (xs.length - 2 * R)).map fun i => T.getD (wn S (fun t => xs.getD t 0) i (2 * R + 1)).toNat 0
theorem applyL_length (S : Int) (R : Nat) (T xs : List Int) : (applyL S R T xs).length = xs.length - 2 * R := by simp [applyL]
theorem applyL_at (S : Int) (R : Nat) (T xs : List Int) {i : Nat} (h : i < xs.length - 2 * R) : (applyL S R T xs).getD i 0 = T.getD (wn S (fun t => xs.getD t 0) i (2 * R + 1)).toNat 0 := by
  simp [applyL, List.getD, h]
/-- The ring's cell at place t, however far. -/
def rat (xs : List Int) (t : Int) : Int := xs.getD (t % (xs.length : Int)).toNat 0
/-- The ring laid out with R cells more at each side. -/
def wideL (R : Nat) (xs : List Int) : List Int := (List.range (xs.length + 2 * R)).map fun t : Nat => rat xs ((t : Int) - R)
theorem wideL_length (R : Nat) (xs : List Int) : (wideL R xs).length = xs.length + 2 * R := by simp [wideL]
theorem wideL_at (R : Nat) (xs : List Int) {t : Nat} (h : t < xs.length + 2 * R) : (wideL R xs).getD t 0 = rat xs ((t : Int) - R) := by
  simp [wideL, List.getD, h]
def stepL (S : Int) (R : Nat) (T xs : List Int) : List Int :=
  (List.range xs.length).map fun i : Nat => T.getD (wn S (fun d => rat xs ((i : Int) + d - R)) 0 (2 * R + 1)).toNat 0
theorem stepL_length (S : Int) (R : Nat) (T xs : List Int) : (stepL S R T xs).length = xs.length := by simp [stepL]
theorem stepL_wide (S : Int) (R : Nat) (T xs : List Int) : stepL S R T xs = applyL S R T (wideL R xs) := by
  unfold stepL applyL
  rw [wideL_length, show xs.length + 2 * R - 2 * R = xs.length by omega]
  refine List.map_congr_left fun i hi => ?_
  rw [List.mem_range] at hi
  rw [wn_congr (g := fun t => (wideL R xs).getD t 0) (k := i) fun d hd => ?_]
  rw [Nat.zero_add, wideL_at R xs (by omega)]
  rw [show ((i + d : Nat) : Int) = (i : Int) + d by omega]
theorem rat_ok {S : Int} {xs : List Int} (h : cellsOk S xs) (hx : 0 < xs.length) (t : Int) : 0 ≤ rat xs t ∧ rat xs t < S := by
  unfold rat
  have h1 := Int.emod_nonneg t (show (xs.length : Int) ≠ 0 by omega)
  have h2 := Int.emod_lt_of_pos t (show (0 : Int) < xs.length by omega)
  exact cellsOk_at h (by omega)
theorem wideL_ok {S : Int} {R : Nat} {xs : List Int} (h : cellsOk S xs) (hx : 0 < xs.length) : cellsOk S (wideL R xs) := by
  intro x hm
  simp only [wideL, List.mem_map] at hm
  obtain ⟨t, -, rfl⟩ := hm
  exact rat_ok h hx _
theorem tab_ok {S : Int} {T : List Int} (hT : cellsOk S T) {k : Nat} (hk : k < T.length) : 0 ≤ T.getD k 0 ∧ T.getD k 0 < S := cellsOk_at hT hk
/-- A window's number lies in the table. -/
theorem win_in {S : Int} {R : Nat} {T : List Int} {f : Nat → Int} {i : Nat} (hS : 0 ≤ S) (hl : (T.length : Int) = S ^ (2 * R + 1)) (h : ∀ d, d < 2 * R + 1 → 0 ≤ f (i + d) ∧ f (i + d) < S) : (wn S f i (2 * R + 1)).toNat < T.length := by
  have h1 := wn_nonneg hS (f := f) (i := i) (m := 2 * R + 1) fun d hd => (h d hd).1
  have h2 := wn_lt hS (f := f) (i := i) (m := 2 * R + 1) h
  omega
theorem applyL_ok {S : Int} {R : Nat} {T xs : List Int} (hS : 0 ≤ S) (hl : (T.length : Int) = S ^ (2 * R + 1)) (hT : cellsOk S T) (h : cellsOk S xs) : cellsOk S (applyL S R T xs) := by
  intro x hm
  simp only [applyL, List.mem_map, List.mem_range] at hm
  obtain ⟨i, hi, rfl⟩ := hm
  exact tab_ok hT (win_in hS hl fun d hd => cellsOk_at h (by omega))
theorem stepL_ok {S : Int} {R : Nat} {T xs : List Int} (hS : 0 ≤ S) (hl : (T.length : Int) = S ^ (2 * R + 1)) (hT : cellsOk S T) (h : cellsOk S xs) : cellsOk S (stepL S R T xs) := by
  by_cases h0 : 0 < xs.length
  · rw [stepL_wide]
    exact applyL_ok hS hl hT (wideL_ok h h0)
  · intro x hm
    simp only [stepL, List.mem_map, List.mem_range] at hm
    obtain ⟨i, hi, -⟩ := hm
    omega
def runL (S : Int) (R : Nat) (T : List Int) : Nat → List Int → List Int
  | 0, xs => xs
  | n + 1, xs => stepL S R T (runL S R T n xs)
theorem runL_length (S : Int) (R : Nat) (T : List Int) (xs : List Int) : ∀ n, (runL S R T n xs).length = xs.length
  | 0 => rfl
  | n + 1 => by rw [runL, stepL_length, runL_length S R T xs n]
theorem runL_ok {S : Int} {R : Nat} {T xs : List Int} (hS : 0 ≤ S) (hl : (T.length : Int) = S ^ (2 * R + 1)) (hT : cellsOk S T) (h : cellsOk S xs) : ∀ n, cellsOk S (runL S R T n xs)
  | 0 => h
  | n + 1 => stepL_ok hS hl hT (runL_ok hS hl hT h n)

/-- layOut's three parts. -/
theorem rat_mid (xs : List Int) {j : Nat} (h : j < xs.length) : rat xs (j : Int) = xs.getD j 0 := by
  unfold rat
  rw [Int.emod_eq_of_lt (by omega) (by omega)]
  simp
theorem rat_left (xs : List Int) (hx : 0 < xs.length) (i : Nat) : rat xs (-1 - (i : Int)) = xs.getD (xs.length - 1 - i % xs.length) 0 := by
  unfold rat
  have h1 : i % xs.length < xs.length := Nat.mod_lt _ hx
  have h2 : (-1 - (i : Int)) % (xs.length : Int) = (xs.length : Int) - 1 - ((i % xs.length : Nat) : Int) := by
    have h3 := Nat.div_add_mod i xs.length
    have h4 : (-1 - (i : Int)) = ((xs.length : Int) - 1 - ((i % xs.length : Nat) : Int)) + (xs.length : Int) * (-1 - ((i / xs.length : Nat) : Int)) := by
      rw [Int.mul_sub]
      have : (i : Int) = (xs.length : Int) * ((i / xs.length : Nat) : Int) + ((i % xs.length : Nat) : Int) := by
        rw [← Int.natCast_mul, ← Int.natCast_add, h3]
      omega
    rw [h4, Int.add_mul_emod_self_left, Int.emod_eq_of_lt (by omega) (by omega)]
  rw [h2]
  congr 1
  omega
theorem rat_right (xs : List Int) (hx : 0 < xs.length) (i : Nat) : rat xs ((xs.length : Int) + i) = xs.getD (i % xs.length) 0 := by
  unfold rat
  rw [Int.add_comm, Int.add_emod_right]
  congr 1
theorem rat_add (xs : List Int) (t k : Int) : rat xs (t + (xs.length : Int) * k) = rat xs t := by
  unfold rat
  rw [Int.add_mul_emod_self_left]
end Go.Proofs.Ytdhbdkkchobinaa

namespace Go.Proofs.Ytdhbdkkchobinaa
set_option linter.unusedVariables false

def big : Int := 1000000000000000001
/-- Never above a billion billion and one. -/
def satB (a b : Int) : Int := if a + b > big then big else a + b
/-- One cell more: behind j of the windows. -/
def cntS (S n : Nat) (T now : List Int) (s : Int) : Nat → List Int
  | 0 => List.replicate n 0
  | j + 1 => if T.getD j 0 = s then (cntS S n T now s j).set (j % n) (satB ((cntS S n T now s j).getD (j % n) 0) (now.getD (j / S) 0)) else cntS S n T now s j
def cntL (S n : Nat) (T : List Int) (ws : List Int) : Nat → List Int
  | 0 => List.replicate n 1
  | i + 1 => cntS S n T (cntL S n T ws i) (ws.getD i 0) (n * S)
def sumB (l : List Int) : Nat → Int
  | 0 => 0
  | i + 1 => satB (sumB l i) (l.getD i 0)
def parL (S n : Nat) (T ws : List Int) : Int := sumB (cntL S n T ws ws.length) n
/-- Each between 0 and the greatest. -/
def smallB (l : List Int) : Prop := ∀ k, 0 ≤ l.getD k 0 ∧ l.getD k 0 ≤ big
theorem satB_in {a b : Int} (h1 : 0 ≤ a) (h2 : 0 ≤ b) : 0 ≤ satB a b ∧ satB a b ≤ big := by
  unfold satB
  split
  · exact ⟨by decide, Int.le_refl _⟩
  · omega
theorem smallB_rep (n : Nat) {x : Int} (h1 : 0 ≤ x) (h2 : x ≤ big) : smallB (List.replicate n x) := fun k => by
  rw [List.getD_eq_getElem?_getD, List.getElem?_replicate]
  split
  · exact ⟨h1, h2⟩
  · exact ⟨by decide, by decide⟩
theorem getD_set (l : List Int) (i k : Nat) (x : Int) : (l.set i x).getD k 0 = if k = i ∧ i < l.length then x else l.getD k 0 := by
  rw [List.getD_eq_getElem?_getD, List.getD_eq_getElem?_getD, List.getElem?_set]
  by_cases h : i = k
  · subst h
    by_cases h2 : i < l.length
    · simp [h2]
    · simp [h2]
  · have h' : ¬ k = i := fun e => h e.symm
    simp [h, h']
theorem smallB_set {l : List Int} (h : smallB l) (i : Nat) {x : Int} (h1 : 0 ≤ x) (h2 : x ≤ big) : smallB (l.set i x) := fun k => by
  rw [getD_set]
  split
  · exact ⟨h1, h2⟩
  · exact h k
theorem cntS_length (S n : Nat) (T now : List Int) (s : Int) : ∀ j, (cntS S n T now s j).length = n
  | 0 => by simp [cntS]
  | j + 1 => by
    rw [cntS]
    split
    · rw [List.length_set]; exact cntS_length S n T now s j
    · exact cntS_length S n T now s j
theorem cntS_small (S n : Nat) (T now : List Int) (s : Int) (h : smallB now) : ∀ j, smallB (cntS S n T now s j)
  | 0 => smallB_rep n (by decide) (by decide)
  | j + 1 => by
    have ih := cntS_small S n T now s h j
    rw [cntS]
    split
    · have := satB_in (ih (j % n)).1 (h (j / S)).1
      exact smallB_set ih _ this.1 this.2
    · exact ih
theorem cntL_length (S n : Nat) (T ws : List Int) (i : Nat) : (cntL S n T ws i).length = n := by
  cases i with
  | zero => simp [cntL]
  | succ i => exact cntS_length _ _ _ _ _ _
theorem cntL_small (S n : Nat) (T ws : List Int) : ∀ i, smallB (cntL S n T ws i)
  | 0 => smallB_rep n (by decide) (by decide)
  | i + 1 => cntS_small _ _ _ _ _ (cntL_small S n T ws i) _
theorem sumB_in (l : List Int) (h : smallB l) : ∀ i, 0 ≤ sumB l i ∧ sumB l i ≤ big
  | 0 => ⟨Int.le_refl 0, show (0 : Int) ≤ big by decide⟩
  | i + 1 => by
    have ih := sumB_in l h i
    exact satB_in ih.1 (h i).1
/-- States to the power of 2 Radius; 17 where it is above 16. -/
def plc (S R : Nat) : Nat := if S ^ (2 * R) ≤ 16 then S ^ (2 * R) else 17
theorem plc_far {S R i : Nat} (hS : 2 ≤ S) (hi : i ≤ 2 * R) (h : 16 < S ^ i) : plc S R = 17 := by
  unfold plc
  rw [if_neg]
  have : S ^ i ≤ S ^ (2 * R) := Nat.pow_le_pow_right (by omega) hi
  omega
theorem plc_end {S R : Nat} (h : S ^ (2 * R) ≤ 16) : plc S R = S ^ (2 * R) := if_pos h
theorem places_div {S R L : Nat} (hS : 2 ≤ S) (h : L = S ^ (2 * R + 1)) : L / S = S ^ (2 * R) := by
  rw [h, Nat.pow_succ]
  exact Nat.mul_div_cancel _ (by omega)
end Go.Proofs.Ytdhbdkkchobinaa

