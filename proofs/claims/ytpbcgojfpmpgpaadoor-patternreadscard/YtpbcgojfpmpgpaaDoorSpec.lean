/-
  What chapter 1 says of texts of rules, as plain functions on bytes: no program, no memory.
-/
namespace Go.Proofs.YtpbcgojfpmpgpaaDoor

/-- Does a byte from lo to hi stand at i? -/
def inR (s : ByteArray) (i : Nat) (lo hi : Int) : Bool := if h : i < s.size then decide (lo ≤ (s[i].toNat : Int)) && decide ((s[i].toNat : Int) ≤ hi) else false

/-- The byte at i, 0 behind the end. -/
def bt (s : ByteArray) (i : Nat) : Nat := if h : i < s.size then s[i].toNat else 0

theorem bt_lt (s : ByteArray) (i : Nat) (h : i < s.size) : s[i].toNat = bt s i := by simp [bt, h]
theorem bt_le (s : ByteArray) (i : Nat) : bt s i ≤ 255 := by
  unfold bt
  split
  · have := (s[i]).toNat_lt; omega
  · omega
theorem inR_true {s : ByteArray} {i : Nat} {lo hi : Int} : inR s i lo hi = true ↔ i < s.size ∧ lo ≤ (bt s i : Int) ∧ (bt s i : Int) ≤ hi := by
  unfold inR bt
  by_cases h : i < s.size <;> simp [h]
theorem inR_false {s : ByteArray} {i : Nat} {lo hi : Int} : inR s i lo hi = false ↔ ¬ (i < s.size ∧ lo ≤ (bt s i : Int) ∧ (bt s i : Int) ≤ hi) := by
  rw [← inR_true]; cases inR s i lo hi <;> simp

/-- Digits that rise, as bits, and where they end. -/
def risF (s : ByteArray) : Nat → Nat → Nat → Nat → Nat × Nat
  | 0, i, _, acc => (acc, i)
  | f + 1, i, low, acc => if inR s i low 56 then risF s f (i + 1) (bt s i + 1) (acc + 2 ^ (bt s i - 48)) else (acc, i)
def ris (s : ByteArray) (i : Nat) : Nat × Nat := risF s (s.size - i) i 48 0

theorem risF_step {s : ByteArray} {i low acc : Nat} (h : inR s i low 56 = true) :
    risF s (s.size - i) i low acc = risF s (s.size - (i + 1)) (i + 1) (bt s i + 1) (acc + 2 ^ (bt s i - 48)) := by
  have hl := (inR_true.1 h).1
  rw [show s.size - i = (s.size - (i + 1)) + 1 by omega]
  simp [risF, h]
theorem risF_stop {s : ByteArray} {i low acc : Nat} (h : inR s i low 56 = false) : risF s (s.size - i) i low acc = (acc, i) := by
  cases s.size - i <;> simp [risF, h]

/-- Digits from i on as one number (added to what there was), and where they end. -/
def numF (s : ByteArray) : Nat → Nat → Nat → Nat × Nat
  | 0, i, v => (v, i)
  | f + 1, i, v => if inR s i 48 57 then numF s f (i + 1) (v * 10 + (bt s i - 48)) else (v, i)
def num (s : ByteArray) (i : Nat) : Nat × Nat := numF s (s.size - i) i 0

theorem numF_step {s : ByteArray} {i v : Nat} (h : inR s i 48 57 = true) :
    numF s (s.size - i) i v = numF s (s.size - (i + 1)) (i + 1) (v * 10 + (bt s i - 48)) := by
  have hl := (inR_true.1 h).1
  rw [show s.size - i = (s.size - (i + 1)) + 1 by omega]
  simp [numF, h]
theorem numF_stop {s : ByteArray} {i v : Nat} (h : inR s i 48 57 = false) : numF s (s.size - i) i v = (v, i) := by
  cases s.size - i <;> simp [numF, h]

/-- Is what stands at i a number from least to most, without a needless 0? -/
def numOk (s : ByteArray) (i least most : Nat) : Bool :=
  !(decide ((num s i).2 = i) || (decide (1 < (num s i).2 - i) && decide (bt s i = 48)) || decide ((num s i).1 < least) || decide (most < (num s i).1))

/-- A rule, as plain data. -/
structure Out where
  kind : Int
  born : Int
  stay : Int
  states : Int
  radius : Int
  table : List Int
  turns : ByteArray

/-- Of the digits of a table how many stand there, from i on. -/
def tabF (s : ByteArray) (hi : Int) : Nat → Nat → Nat
  | 0, _ => 0
  | f + 1, i => if inR s i 48 hi then tabF s hi f (i + 1) + 1 else 0

def lifeS (s : ByteArray) : (Out × Nat) ⊕ Nat :=
  if !inR s (ris s 1).2 47 47 then .inr (ris s 1).2
  else if !inR s ((ris s 1).2 + 1) 83 83 then .inr ((ris s 1).2 + 1)
  else .inl (⟨1, (ris s 1).1, (ris s ((ris s 1).2 + 2)).1, 0, 0, [], ⟨#[]⟩⟩, (ris s ((ris s 1).2 + 2)).2)

def bitOf (n i : Nat) : Int := ((n / 2 ^ i % 2 : Nat) : Int)

def numberedS (s : ByteArray) : (Out × Nat) ⊕ Nat :=
  if !numOk s 1 0 255 then .inr 1
  else .inl (⟨2, 0, 0, 2, 1, (List.range 8).map (bitOf (num s 1).1), ⟨#[]⟩⟩, (num s 1).2)

def entries (n m : Nat) : Nat := n ^ (2 * m + 1)

/-- The table of n states and radius m, from behind the blank at j. -/
def tabEnd (s : ByteArray) (n m j : Nat) : (Out × Nat) ⊕ Nat :=
  if tabF s (48 + n - 1) (entries n m) (j + 1) < entries n m then .inr (j + 1 + tabF s (48 + n - 1) (entries n m) (j + 1))
  else .inl (⟨2, 0, 0, n, m, (List.range (entries n m)).map (fun y => (bt s (j + 1 + y) : Int) - 48), ⟨#[]⟩⟩, j + 1 + entries n m)

def tabledS (s : ByteArray) : (Out × Nat) ⊕ Nat :=
  if !inR s 1 32 32 then .inr 1
  else if !numOk s 2 2 4 then .inr 2
  else if !inR s (num s 2).2 32 32 then .inr (num s 2).2
  else if !numOk s ((num s 2).2 + 1) 0 2 then .inr ((num s 2).2 + 1)
  else if !inR s (num s ((num s 2).2 + 1)).2 32 32 then .inr (num s ((num s 2).2 + 1)).2
  else tabEnd s (num s 2).1 (num s ((num s 2).2 + 1)).1 (num s ((num s 2).2 + 1)).2

/-- Signs from i on, at most so many. -/
def turnF (s : ByteArray) : Nat → Nat → Nat
  | 0, i => i
  | f + 1, i => if i < s.size ∧ (bt s i = 76 ∨ bt s i = 82) then turnF s f (i + 1) else i

def antS (s : ByteArray) : (Out × Nat) ⊕ Nat :=
  if !inR s 1 32 32 then .inr 1
  else if turnF s 26 2 = 2 then .inr 2
  else .inl (⟨3, 0, 0, 0, 0, [], s.extract 2 (turnF s 26 2)⟩, turnF s 26 2)

def kindS (s : ByteArray) : (Out × Nat) ⊕ Nat :=
  if s.size = 0 then .inr 0
  else if bt s 0 = 66 then lifeS s
  else if bt s 0 = 87 then numberedS s
  else if bt s 0 = 76 then tabledS s
  else if bt s 0 = 84 then antS s
  else .inr 0

def parseS (s : ByteArray) : Out ⊕ Nat :=
  match kindS s with
  | .inr a => .inr a
  | .inl (o, p) => if p = s.size then .inl o else .inr p

end Go.Proofs.YtpbcgojfpmpgpaaDoor
