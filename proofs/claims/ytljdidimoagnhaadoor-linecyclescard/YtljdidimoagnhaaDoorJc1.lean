/-
  What the last text of this claim leans on, part 1: Spec, Li0, Ry1.
-/
namespace Go.Proofs.YtljdidimoagnhaaDoor

/-- Does a byte from lo to hi stand at i? -/
def inR (s : ByteArray) (i : Nat) (lo hi : Int) : Bool := if h : i < s.size then decide (lo ≤ (s[i].toNat : Int)) && decide ((s[i].toNat : Int) ≤ hi) else false

/-- The byte at i, 0 behind the end. -/
def bt (s : ByteArray) (i : Nat) : Nat := if h : i < s.size then s[i].toNat else 0

theorem bt_lt (s : ByteArray) (i : Nat) (h : i < s.size) : s[i].toNat = bt s i := by simp [bt, h]
theorem bt_le (s : ByteArray) (i : Nat) : bt s i ≤ 255 := by
  unfold bt
  split
  · have := (s[i]).toNat_lt; omega
  · omega
theorem inR_true {s : ByteArray} {i : Nat} {lo hi : Int} : inR s i lo hi = true ↔ i < s.size ∧ lo ≤ (bt s i : Int) ∧ (bt s i : Int) ≤ hi := by
  unfold inR bt
  by_cases h : i < s.size <;> simp [h]
theorem inR_false {s : ByteArray} {i : Nat} {lo hi : Int} : inR s i lo hi = false ↔ ¬ (i < s.size ∧ lo ≤ (bt s i : Int) ∧ (bt s i : Int) ≤ hi) := by
  rw [← inR_true]; cases inR s i lo hi <;> simp

/-- Digits that rise, as bits, and where they end. -/
def risF (s : ByteArray) : Nat → Nat → Nat → Nat → Nat × Nat
  | 0, i, _, acc => (acc, i)
  | f + 1, i, low, acc => if inR s i low 56 then risF s f (i + 1) (bt s i + 1) (acc + 2 ^ (bt s i - 48)) else (acc, i)
def ris (s : ByteArray) (i : Nat) : Nat × Nat := risF s (s.size - i) i 48 0

theorem risF_step {s : ByteArray} {i low acc : Nat} (h : inR s i low 56 = true) :
    risF s (s.size - i) i low acc = risF s (s.size - (i + 1)) (i + 1) (bt s i + 1) (acc + 2 ^ (bt s i - 48)) := by
  have hl := (inR_true.1 h).1
  rw [show s.size - i = (s.size - (i + 1)) + 1 by omega]
  simp [risF, h]
theorem risF_stop {s : ByteArray} {i low acc : Nat} (h : inR s i low 56 = false) : risF s (s.size - i) i low acc = (acc, i) := by
  cases s.size - i <;> simp [risF, h]

/-- Digits from i on as one number (added to what there was), and where they end. -/
def numF (s : ByteArray) : Nat → Nat → Nat → Nat × Nat
  | 0, i, v => (v, i)
  | f + 1, i, v => if inR s i 48 57 then numF s f (i + 1) (v * 10 + (bt s i - 48)) else (v, i)
def num (s : ByteArray) (i : Nat) : Nat × Nat := numF s (s.size - i) i 0

theorem numF_step {s : ByteArray} {i v : Nat} (h : inR s i 48 57 = true) :
    numF s (s.size - i) i v = numF s (s.size - (i + 1)) (i + 1) (v * 10 + (bt s i - 48)) := by
  have hl := (inR_true.1 h).1
  rw [show s.size - i = (s.size - (i + 1)) + 1 by omega]
  simp [numF, h]
theorem numF_stop {s : ByteArray} {i v : Nat} (h : inR s i 48 57 = false) : numF s (s.size - i) i v = (v, i) := by
  cases s.size - i <;> simp [numF, h]

/-- Is what stands at i a number from least to most, without a needless 0? -/
def numOk (s : ByteArray) (i least most : Nat) : Bool :=
  !(decide ((num s i).2 = i) || (decide (1 < (num s i).2 - i) && decide (bt s i = 48)) || decide ((num s i).1 < least) || decide (most < (num s i).1))

/-- A rule, as plain data. -/
structure Out where
  kind : Int
  born : Int
  stay : Int
  states : Int
  radius : Int
  table : List Int
  turns : ByteArray

/-- Of the digits of a table how many stand there, from i on. -/
def tabF (s : ByteArray) (hi : Int) : Nat → Nat → Nat
  | 0, _ => 0
  | f + 1, i => if inR s i 48 hi then tabF s hi f (i + 1) + 1 else 0

def lifeS (s : ByteArray) : (Out × Nat) ⊕ Nat :=
  if !inR s (ris s 1).2 47 47 then .inr (ris s 1).2
  else if !inR s ((ris s 1).2 + 1) 83 83 then .inr ((ris s 1).2 + 1)
  else .inl (⟨1, (ris s 1).1, (ris s ((ris s 1).2 + 2)).1, 0, 0, [], ⟨#[]⟩⟩, (ris s ((ris s 1).2 + 2)).2)

def bitOf (n i : Nat) : Int := ((n / 2 ^ i % 2 : Nat) : Int)

def numberedS (s : ByteArray) : (Out × Nat) ⊕ Nat :=
  if !numOk s 1 0 255 then .inr 1
  else .inl (⟨2, 0, 0, 2, 1, (List.range 8).map (bitOf (num s 1).1), ⟨#[]⟩⟩, (num s 1).2)

def entries (n m : Nat) : Nat := n ^ (2 * m + 1)

/-- The table of n states and radius m, from behind the blank at j. -/
def tabEnd (s : ByteArray) (n m j : Nat) : (Out × Nat) ⊕ Nat :=
  if tabF s (48 + n - 1) (entries n m) (j + 1) < entries n m then .inr (j + 1 + tabF s (48 + n - 1) (entries n m) (j + 1))
  else .inl (⟨2, 0, 0, n, m, (List.range (entries n m)).map (fun y => (bt s (j + 1 + y) : Int) - 48), ⟨#[]⟩⟩, j + 1 + entries n m)

def tabledS (s : ByteArray) : (Out × Nat) ⊕ Nat :=
  if !inR s 1 32 32 then .inr 1
  else if !numOk s 2 2 4 then .inr 2
  else if !inR s (num s 2).2 32 32 then .inr (num s 2).2
  else if !numOk s ((num s 2).2 + 1) 0 2 then .inr ((num s 2).2 + 1)
  else if !inR s (num s ((num s 2).2 + 1)).2 32 32 then .inr (num s ((num s 2).2 + 1)).2
  else tabEnd s (num s 2).1 (num s ((num s 2).2 + 1)).1 (num s ((num s 2).2 + 1)).2

/-- Signs from i on, at most so many. -/
def turnF (s : ByteArray) : Nat → Nat → Nat
  | 0, i => i
  | f + 1, i => if i < s.size ∧ (bt s i = 76 ∨ bt s i = 82) then turnF s f (i + 1) else i

def antS (s : ByteArray) : (Out × Nat) ⊕ Nat :=
  if !inR s 1 32 32 then .inr 1
  else if turnF s 26 2 = 2 then .inr 2
  else .inl (⟨3, 0, 0, 0, 0, [], s.extract 2 (turnF s 26 2)⟩, turnF s 26 2)

def kindS (s : ByteArray) : (Out × Nat) ⊕ Nat :=
  if s.size = 0 then .inr 0
  else if bt s 0 = 66 then lifeS s
  else if bt s 0 = 87 then numberedS s
  else if bt s 0 = 76 then tabledS s
  else if bt s 0 = 84 then antS s
  else .inr 0

def parseS (s : ByteArray) : Out ⊕ Nat :=
  match kindS s with
  | .inr a => .inr a
  | .inl (o, p) => if p = s.size then .inl o else .inr p

end Go.Proofs.YtljdidimoagnhaaDoor

namespace Go.Proofs.YtljdidimoagnhaaDoor
set_option linter.unusedVariables false

/-- The number of the window of m digits from place i on. -/
def wn (S : Int) (f : Nat → Int) (i : Nat) : Nat → Int
  | 0 => 0
  | m + 1 => wn S f i m * S + f (i + m)
theorem wn_congr {S : Int} {f g : Nat → Int} {i k : Nat} : ∀ {m : Nat}, (∀ d, d < m → f (i + d) = g (k + d)) → wn S f i m = wn S g k m
  | 0, _ => rfl
  | m + 1, h => by
    rw [wn, wn, wn_congr (m := m) fun d hd => h d (by omega), h m (by omega)]
theorem wn_tail (S : Int) (f : Nat → Int) (i : Nat) : ∀ m, wn S f i (m + 1) = f i * S ^ m + wn S f (i + 1) m
  | 0 => by simp [wn]
  | m + 1 => by
    rw [wn, wn_tail S f i m, wn, Int.add_mul, Int.mul_assoc, ← Int.pow_succ, show i + 1 + m = i + (m + 1) by omega, Int.add_assoc]
theorem wn_nonneg {S : Int} {f : Nat → Int} {i : Nat} (hS : 0 ≤ S) : ∀ {m}, (∀ d, d < m → 0 ≤ f (i + d)) → 0 ≤ wn S f i m
  | 0, _ => Int.le_refl _
  | m + 1, h => by
    have h1 := wn_nonneg hS (m := m) fun d hd => h d (by omega)
    have h2 := h m (by omega)
    have h3 := Int.mul_nonneg h1 hS
    rw [wn]; omega
theorem wn_lt {S : Int} {f : Nat → Int} {i : Nat} (hS : 0 ≤ S) : ∀ {m}, (∀ d, d < m → 0 ≤ f (i + d) ∧ f (i + d) < S) → wn S f i m < S ^ m
  | 0, _ => by rw [wn, Int.pow_zero]; omega
  | m + 1, h => by
    have h1 := wn_lt hS (m := m) fun d hd => h d (by omega)
    have h2 := h m (by omega)
    have h3 : (wn S f i m + 1) * S ≤ S ^ m * S := Int.mul_le_mul_of_nonneg_right (by omega) hS
    rw [Int.add_mul, Int.one_mul] at h3
    rw [wn, Int.pow_succ]; omega

/-- A word's cells are states. -/
def cellsOk (S : Int) (xs : List Int) : Prop := ∀ x ∈ xs, 0 ≤ x ∧ x < S
theorem cellsOk_at {S : Int} {xs : List Int} (h : cellsOk S xs) {k : Nat} (hk : k < xs.length) : 0 ≤ xs.getD k 0 ∧ xs.getD k 0 < S := by
  rw [List.getD_eq_getElem?_getD, List.getElem?_eq_getElem hk]
  exact h _ (List.getElem_mem hk)

/-- What becomes of the cells that have R cells at each side. -/
def applyL (S : Int) (R : Nat) (T xs : List Int) : List Int :=
  (List.range (xs.length - 2 * R)).map fun i => T.getD (wn S (fun t => xs.getD t 0) i (2 * R + 1)).toNat 0
theorem applyL_length (S : Int) (R : Nat) (T xs : List Int) : (applyL S R T xs).length = xs.length - 2 * R := by simp [applyL]
theorem applyL_at (S : Int) (R : Nat) (T xs : List Int) {i : Nat} (h : i < xs.length - 2 * R) : (applyL S R T xs).getD i 0 = T.getD (wn S (fun t => xs.getD t 0) i (2 * R + 1)).toNat 0 := by
  simp [applyL, List.getD, h]
/-- The ring's cell at place t, however far. -/
def rat (xs : List Int) (t : Int) : Int := xs.getD (t % (xs.length : Int)).toNat 0
/-- The ring laid out with R cells more at each side. -/
def wideL (R : Nat) (xs : List Int) : List Int := (List.range (xs.length + 2 * R)).map fun t : Nat => rat xs ((t : Int) - R)
theorem wideL_length (R : Nat) (xs : List Int) : (wideL R xs).length = xs.length + 2 * R := by simp [wideL]
theorem wideL_at (R : Nat) (xs : List Int) {t : Nat} (h : t < xs.length + 2 * R) : (wideL R xs).getD t 0 = rat xs ((t : Int) - R) := by
  simp [wideL, List.getD, h]
def stepL (S : Int) (R : Nat) (T xs : List Int) : List Int :=
  (List.range xs.length).map fun i : Nat => T.getD (wn S (fun d => rat xs ((i : Int) + d - R)) 0 (2 * R + 1)).toNat 0
theorem stepL_length (S : Int) (R : Nat) (T xs : List Int) : (stepL S R T xs).length = xs.length := by simp [stepL]
theorem stepL_wide (S : Int) (R : Nat) (T xs : List Int) : stepL S R T xs = applyL S R T (wideL R xs) := by
  unfold stepL applyL
  rw [wideL_length, show xs.length + 2 * R - 2 * R = xs.length by omega]
  refine List.map_congr_left fun i hi => ?_
  rw [List.mem_range] at hi
  rw [wn_congr (g := fun t => (wideL R xs).getD t 0) (k := i) fun d hd => ?_]
  rw [Nat.zero_add, wideL_at R xs (by omega)]
  rw [show ((i + d : Nat) : Int) = (i : Int) + d by omega]
theorem rat_ok {S : Int} {xs : List Int} (h : cellsOk S xs) (hx : 0 < xs.length) (t : Int) : 0 ≤ rat xs t ∧ rat xs t < S := by
  unfold rat
  have h1 := Int.emod_nonneg t (show (xs.length : Int) ≠ 0 by omega)
  have h2 := Int.emod_lt_of_pos t (show (0 : Int) < xs.length by omega)
  exact cellsOk_at h (by omega)
theorem wideL_ok {S : Int} {R : Nat} {xs : List Int} (h : cellsOk S xs) (hx : 0 < xs.length) : cellsOk S (wideL R xs) := by
  intro x hm
  simp only [wideL, List.mem_map] at hm
  obtain ⟨t, -, rfl⟩ := hm
  exact rat_ok h hx _
theorem tab_ok {S : Int} {T : List Int} (hT : cellsOk S T) {k : Nat} (hk : k < T.length) : 0 ≤ T.getD k 0 ∧ T.getD k 0 < S := cellsOk_at hT hk
/-- A window's number lies in the table. -/
theorem win_in {S : Int} {R : Nat} {T : List Int} {f : Nat → Int} {i : Nat} (hS : 0 ≤ S) (hl : (T.length : Int) = S ^ (2 * R + 1)) (h : ∀ d, d < 2 * R + 1 → 0 ≤ f (i + d) ∧ f (i + d) < S) : (wn S f i (2 * R + 1)).toNat < T.length := by
  have h1 := wn_nonneg hS (f := f) (i := i) (m := 2 * R + 1) fun d hd => (h d hd).1
  have h2 := wn_lt hS (f := f) (i := i) (m := 2 * R + 1) h
  omega
theorem applyL_ok {S : Int} {R : Nat} {T xs : List Int} (hS : 0 ≤ S) (hl : (T.length : Int) = S ^ (2 * R + 1)) (hT : cellsOk S T) (h : cellsOk S xs) : cellsOk S (applyL S R T xs) := by
  intro x hm
  simp only [applyL, List.mem_map, List.mem_range] at hm
  obtain ⟨i, hi, rfl⟩ := hm
  exact tab_ok hT (win_in hS hl fun d hd => cellsOk_at h (by omega))
theorem stepL_ok {S : Int} {R : Nat} {T xs : List Int} (hS : 0 ≤ S) (hl : (T.length : Int) = S ^ (2 * R + 1)) (hT : cellsOk S T) (h : cellsOk S xs) : cellsOk S (stepL S R T xs) := by
  by_cases h0 : 0 < xs.length
  · rw [stepL_wide]
    exact applyL_ok hS hl hT (wideL_ok h h0)
  · intro x hm
    simp only [stepL, List.mem_map, List.mem_range] at hm
    obtain ⟨i, hi, -⟩ := hm
    omega
def runL (S : Int) (R : Nat) (T : List Int) : Nat → List Int → List Int
  | 0, xs => xs
  | n + 1, xs => stepL S R T (runL S R T n xs)
theorem runL_length (S : Int) (R : Nat) (T : List Int) (xs : List Int) : ∀ n, (runL S R T n xs).length = xs.length
  | 0 => rfl
  | n + 1 => by rw [runL, stepL_length, runL_length S R T xs n]
theorem runL_ok {S : Int} {R : Nat} {T xs : List Int} (hS : 0 ≤ S) (hl : (T.length : Int) = S ^ (2 * R + 1)) (hT : cellsOk S T) (h : cellsOk S xs) : ∀ n, cellsOk S (runL S R T n xs)
  | 0 => h
  | n + 1 => stepL_ok hS hl hT (runL_ok hS hl hT h n)

/-- layOut's three parts. -/
theorem rat_mid (xs : List Int) {j : Nat} (h : j < xs.length) : rat xs (j : Int) = xs.getD j 0 := by
  unfold rat
  rw [Int.emod_eq_of_lt (by omega) (by omega)]
  simp
theorem rat_left (xs : List Int) (hx : 0 < xs.length) (i : Nat) : rat xs (-1 - (i : Int)) = xs.getD (xs.length - 1 - i % xs.length) 0 := by
  unfold rat
  have h1 : i % xs.length < xs.length := Nat.mod_lt _ hx
  have h2 : (-1 - (i : Int)) % (xs.length : Int) = (xs.length : Int) - 1 - ((i % xs.length : Nat) : Int) := by
    have h3 := Nat.div_add_mod i xs.length
    have h4 : (-1 - (i : Int)) = ((xs.length : Int) - 1 - ((i % xs.length : Nat) : Int)) + (xs.length : Int) * (-1 - ((i / xs.length : Nat) : Int)) := by
      rw [Int.mul_sub]
      have : (i : Int) = (xs.length : Int) * ((i / xs.length : Nat) : Int) + ((i % xs.length : Nat) : Int) := by
        rw [← Int.natCast_mul, ← Int.natCast_add, h3]
      omega
    rw [h4, Int.add_mul_emod_self_left, Int.emod_eq_of_lt (by omega) (by omega)]
  rw [h2]
  congr 1
  omega
theorem rat_right (xs : List Int) (hx : 0 < xs.length) (i : Nat) : rat xs ((xs.length : Int) + i) = xs.getD (i % xs.length) 0 := by
  unfold rat
  rw [Int.add_comm, Int.add_emod_right]
  congr 1
theorem rat_add (xs : List Int) (t k : Int) : rat xs (t + (xs.length : Int) * k) = rat xs t := by
  unfold rat
  rw [Int.add_mul_emod_self_left]
end Go.Proofs.YtljdidimoagnhaaDoor

namespace Go.Proofs.YtljdidimoagnhaaDoor
set_option linter.unusedVariables false

/-- Each word makes the next. -/
def Makes (g : Nat → List Int) : Prop := ∀ i j, g i = g j → g (i + 1) = g (j + 1)
theorem Makes.add {g : Nat → List Int} (h : Makes g) {i j : Nat} (e : g i = g j) : ∀ d, g (i + d) = g (j + d)
  | 0 => e
  | d + 1 => h _ _ (h.add e d)
/-- Word m is the first that comes again, p steps behind. -/
structure First (g : Nat → List Int) (m p : Nat) : Prop where
  pos : 0 < p
  again : g m = g (m + p)
  ahead : ∀ i j, i < j → j < m + p → g i ≠ g j
theorem first_of (g : Nat → List Int) : ∀ (N i j : Nat), j ≤ N → i < j → g i = g j → ∃ m p, First g m p ∧ m + p ≤ j := by
  intro N
  induction N with
  | zero => intro i j h1 h2; omega
  | succ N ih =>
    intro i j h1 h2 e
    by_cases h : ∃ i' j', i' < j' ∧ j' < j ∧ g i' = g j'
    · obtain ⟨i', j', a, b, c⟩ := h
      obtain ⟨m, p, h3, h4⟩ := ih i' j' (by omega) a c
      exact ⟨m, p, h3, by omega⟩
    · refine ⟨i, j - i, ⟨by omega, by rw [show i + (j - i) = j by omega]; exact e, fun a b hab hb c => h ⟨a, b, hab, by omega, c⟩⟩, by omega⟩
theorem First.mul {g : Nat → List Int} {m p : Nat} (h : First g m p) (hg : Makes g) : ∀ k d, g (m + d) = g (m + d + k * p)
  | 0, d => by simp
  | k + 1, d => by
    have h1 := h.mul hg k d
    have h2 := hg.add h.again (d + k * p)
    rw [h1, show m + d + k * p = m + (d + k * p) by omega, h2]
    congr 1
    rw [Nat.add_mul, Nat.one_mul]
    omega
theorem First.low {g : Nat → List Int} {m p : Nat} (h : First g m p) (hg : Makes g) (d : Nat) : g (m + d) = g (m + d % p) := by
  have h1 := h.mul hg (d / p) (d % p)
  rw [h1]
  congr 1
  have := Nat.div_add_mod d p
  rw [Nat.mul_comm] at this
  omega
theorem First.same {g : Nat → List Int} {m p : Nat} (h : First g m p) (hg : Makes g) (d e : Nat) : g (m + d) = g (m + e) ↔ d % p = e % p := by
  have h1 := Nat.mod_lt d h.pos
  have h2 := Nat.mod_lt e h.pos
  rw [h.low hg d, h.low hg e]
  constructor
  · intro q
    rcases Nat.lt_trichotomy (d % p) (e % p) with c | c | c
    · exact absurd q (h.ahead _ _ (by omega) (by omega))
    · exact c
    · exact absurd q.symm (h.ahead _ _ (by omega) (by omega))
  · intro q; rw [q]
theorem First.alone {g : Nat → List Int} {m p : Nat} (h : First g m p) (hg : Makes g) {i j : Nat} (hi : i < m) (hj : i ≠ j) : g i ≠ g j := by
  intro q
  by_cases c : j < m + p
  · rcases Nat.lt_or_gt_of_ne hj with d | d
    · exact h.ahead i j d c q
    · exact h.ahead j i d (by omega) q.symm
  · obtain ⟨d, rfl⟩ : ∃ d, j = m + d := ⟨j - m, by omega⟩
    rw [h.low hg d] at q
    have h1 := Nat.mod_lt d h.pos
    exact h.ahead i _ (by omega) (by omega) q
/-- Where a slow one and a fast one meet. -/
theorem First.meet {g : Nat → List Int} {m p : Nat} (h : First g m p) (hg : Makes g) {n : Nat} (hn : 0 < n) : g n = g (2 * n) ↔ m ≤ n ∧ n % p = 0 := by
  constructor
  · intro q
    have hm : m ≤ n := by
      rcases Nat.lt_or_ge n m with c | c
      · exact absurd q (h.alone hg c (by omega))
      · exact c
    refine ⟨hm, ?_⟩
    obtain ⟨d, rfl⟩ : ∃ d, n = m + d := ⟨n - m, by omega⟩
    rw [show 2 * (m + d) = m + (d + (m + d)) by omega, h.same hg] at q
    have hp := h.pos
    have h1 : (m + d) % p = 0 := by
      have h2 := Nat.sub_mod_eq_zero_of_mod_eq q.symm
      rw [show d + (m + d) - d = m + d by omega] at h2
      exact h2
    exact h1
  · rintro ⟨hm, h0⟩
    obtain ⟨d, rfl⟩ : ∃ d, n = m + d := ⟨n - m, by omega⟩
    rw [show 2 * (m + d) = m + (d + (m + d)) by omega, h.same hg, Nat.add_mod, h0, Nat.add_zero, Nat.mod_mod]
/-- They meet by then. -/
theorem First.by_then {g : Nat → List Int} {m p : Nat} (h : First g m p) : ∃ n, 0 < n ∧ m ≤ n ∧ n % p = 0 ∧ n ≤ m + p := by
  have hp := h.pos
  by_cases c : m % p = 0 ∧ 0 < m
  · exact ⟨m, c.2, Nat.le_refl _, c.1, by omega⟩
  · refine ⟨m + p - m % p, ?_, ?_, ?_, by omega⟩
    · have := Nat.mod_lt m hp; omega
    · have := Nat.mod_lt m hp; omega
    · have h1 := Nat.div_add_mod m p
      have h2 := Nat.mod_lt m hp
      have h3 : m + p - m % p = p * (m / p + 1) := by rw [Nat.mul_add, Nat.mul_one]; omega
      rw [h3]
      exact Nat.mul_mod_right _ _
/-- From the start, and from where they met, they meet at m. -/
theorem First.start {g : Nat → List Int} {m p : Nat} (h : First g m p) (hg : Makes g) {n : Nat} (hn : 0 < n) (h0 : n % p = 0) {k : Nat} (hk : k ≤ m) : g k = g (2 * n + k) ↔ k = m := by
  constructor
  · intro q
    rcases Nat.lt_or_ge k m with c | c
    · exact absurd q (h.alone hg c (by omega))
    · omega
  · rintro rfl
    have h1 := (h.same hg 0 (2 * n)).2 (by rw [Nat.two_mul, Nat.add_mod, h0, Nat.zero_mod])
    rw [Nat.add_zero] at h1
    rw [h1, Nat.add_comm]
/-- From there on it takes p steps. -/
theorem First.round {g : Nat → List Int} {m p : Nat} (h : First g m p) (hg : Makes g) {t : Nat} (ht : 0 < t) (hp : t ≤ p) : g m = g (m + t) ↔ t = p := by
  have h1 := h.same hg 0 t
  rw [Nat.add_zero] at h1
  rw [h1, Nat.zero_mod]
  constructor
  · intro q
    rcases Nat.lt_or_ge t p with c | c
    · rw [Nat.mod_eq_of_lt c] at q; omega
    · omega
  · rintro rfl; exact (Nat.mod_self _).symm
theorem First.only {g : Nat → List Int} {m p m' p' : Nat} (h : First g m p) (h' : First g m' p') : m + p = m' + p' ∧ m = m' := by
  have e : m + p = m' + p' := by
    rcases Nat.lt_trichotomy (m + p) (m' + p') with c | c | c
    · exact absurd h.again (h'.ahead _ _ (by have := h.pos; omega) c)
    · exact c
    · exact absurd h'.again (h.ahead _ _ (by have := h'.pos; omega) c)
  refine ⟨e, ?_⟩
  have a := h.again
  have b := h'.again
  have q : g m = g m' := by rw [a, b, e]
  rcases Nat.lt_trichotomy m m' with c | c | c
  · exact absurd q (h.ahead _ _ c (by have := h'.pos; omega))
  · exact c
  · exact absurd q.symm (h.ahead _ _ c (by have := h.pos; omega))
/-- A ring's words make the next. -/
theorem runL_makes (S : Int) (R : Nat) (T xs : List Int) : Makes fun n => runL S R T n xs := fun i j e => by
  show stepL S R T (runL S R T i xs) = stepL S R T (runL S R T j xs)
  rw [show runL S R T i xs = runL S R T j xs from e]
end Go.Proofs.YtljdidimoagnhaaDoor

