/-
  What the last text of this claim leans on, part 1: Spec, PSpec, DSpec.
-/
import Derived.Laws.RangeAny
namespace Go.Proofs.YtljdidimoagnhaaDoor

/-- Does a byte from lo to hi stand at i? -/
def inR (s : ByteArray) (i : Nat) (lo hi : Int) : Bool := if h : i < s.size then decide (lo ≤ (s[i].toNat : Int)) && decide ((s[i].toNat : Int) ≤ hi) else false

/-- The byte at i, 0 behind the end. -/
def bt (s : ByteArray) (i : Nat) : Nat := if h : i < s.size then s[i].toNat else 0

theorem bt_lt (s : ByteArray) (i : Nat) (h : i < s.size) : s[i].toNat = bt s i := by simp [bt, h]
theorem bt_le (s : ByteArray) (i : Nat) : bt s i ≤ 255 := by
  unfold bt
  split
  · have := (s[i]).toNat_lt; omega
  · omega
theorem inR_true {s : ByteArray} {i : Nat} {lo hi : Int} : inR s i lo hi = true ↔ i < s.size ∧ lo ≤ (bt s i : Int) ∧ (bt s i : Int) ≤ hi := by
  unfold inR bt
  by_cases h : i < s.size <;> simp [h]
theorem inR_false {s : ByteArray} {i : Nat} {lo hi : Int} : inR s i lo hi = false ↔ ¬ (i < s.size ∧ lo ≤ (bt s i : Int) ∧ (bt s i : Int) ≤ hi) := by
  rw [← inR_true]; cases inR s i lo hi <;> simp

/-- Digits that rise, as bits, and where they end. -/
def risF (s : ByteArray) : Nat → Nat → Nat → Nat → Nat × Nat
  | 0, i, _, acc => (acc, i)
  | f + 1, i, low, acc => if inR s i low 56 then risF s f (i + 1) (bt s i + 1) (acc + 2 ^ (bt s i - 48)) else (acc, i)
def ris (s : ByteArray) (i : Nat) : Nat × Nat := risF s (s.size - i) i 48 0

theorem risF_step {s : ByteArray} {i low acc : Nat} (h : inR s i low 56 = true) :
    risF s (s.size - i) i low acc = risF s (s.size - (i + 1)) (i + 1) (bt s i + 1) (acc + 2 ^ (bt s i - 48)) := by
  have hl := (inR_true.1 h).1
  rw [show s.size - i = (s.size - (i + 1)) + 1 by omega]
  simp [risF, h]
theorem risF_stop {s : ByteArray} {i low acc : Nat} (h : inR s i low 56 = false) : risF s (s.size - i) i low acc = (acc, i) := by
  cases s.size - i <;> simp [risF, h]

/-- Digits from i on as one number (added to what there was), and where they end. -/
def numF (s : ByteArray) : Nat → Nat → Nat → Nat × Nat
  | 0, i, v => (v, i)
  | f + 1, i, v => if inR s i 48 57 then numF s f (i + 1) (v * 10 + (bt s i - 48)) else (v, i)
def num (s : ByteArray) (i : Nat) : Nat × Nat := numF s (s.size - i) i 0

theorem numF_step {s : ByteArray} {i v : Nat} (h : inR s i 48 57 = true) :
    numF s (s.size - i) i v = numF s (s.size - (i + 1)) (i + 1) (v * 10 + (bt s i - 48)) := by
  have hl := (inR_true.1 h).1
  rw [show s.size - i = (s.size - (i + 1)) + 1 by omega]
  simp [numF, h]
theorem numF_stop {s : ByteArray} {i v : Nat} (h : inR s i 48 57 = false) : numF s (s.size - i) i v = (v, i) := by
  cases s.size - i <;> simp [numF, h]

/-- Is what stands at i a number from least to most, without a needless 0? -/
def numOk (s : ByteArray) (i least most : Nat) : Bool :=
  !(decide ((num s i).2 = i) || (decide (1 < (num s i).2 - i) && decide (bt s i = 48)) || decide ((num s i).1 < least) || decide (most < (num s i).1))

/-- A rule, as plain data. -/
structure Out where
  kind : Int
  born : Int
  stay : Int
  states : Int
  radius : Int
  table : List Int
  turns : ByteArray

/-- Of the digits of a table how many stand there, from i on. -/
def tabF (s : ByteArray) (hi : Int) : Nat → Nat → Nat
  | 0, _ => 0
  | f + 1, i => if inR s i 48 hi then tabF s hi f (i + 1) + 1 else 0

def lifeS (s : ByteArray) : (Out × Nat) ⊕ Nat :=
  if !inR s (ris s 1).2 47 47 then .inr (ris s 1).2
  else if !inR s ((ris s 1).2 + 1) 83 83 then .inr ((ris s 1).2 + 1)
  else .inl (⟨1, (ris s 1).1, (ris s ((ris s 1).2 + 2)).1, 0, 0, [], ⟨#[]⟩⟩, (ris s ((ris s 1).2 + 2)).2)

def bitOf (n i : Nat) : Int := ((n / 2 ^ i % 2 : Nat) : Int)

def numberedS (s : ByteArray) : (Out × Nat) ⊕ Nat :=
  if !numOk s 1 0 255 then .inr 1
  else .inl (⟨2, 0, 0, 2, 1, (List.range 8).map (bitOf (num s 1).1), ⟨#[]⟩⟩, (num s 1).2)

def entries (n m : Nat) : Nat := n ^ (2 * m + 1)

/-- The table of n states and radius m, from behind the blank at j. -/
def tabEnd (s : ByteArray) (n m j : Nat) : (Out × Nat) ⊕ Nat :=
  if tabF s (48 + n - 1) (entries n m) (j + 1) < entries n m then .inr (j + 1 + tabF s (48 + n - 1) (entries n m) (j + 1))
  else .inl (⟨2, 0, 0, n, m, (List.range (entries n m)).map (fun y => (bt s (j + 1 + y) : Int) - 48), ⟨#[]⟩⟩, j + 1 + entries n m)

def tabledS (s : ByteArray) : (Out × Nat) ⊕ Nat :=
  if !inR s 1 32 32 then .inr 1
  else if !numOk s 2 2 4 then .inr 2
  else if !inR s (num s 2).2 32 32 then .inr (num s 2).2
  else if !numOk s ((num s 2).2 + 1) 0 2 then .inr ((num s 2).2 + 1)
  else if !inR s (num s ((num s 2).2 + 1)).2 32 32 then .inr (num s ((num s 2).2 + 1)).2
  else tabEnd s (num s 2).1 (num s ((num s 2).2 + 1)).1 (num s ((num s 2).2 + 1)).2

/-- Signs from i on, at most so many. -/
def turnF (s : ByteArray) : Nat → Nat → Nat
  | 0, i => i
  | f + 1, i => if i < s.size ∧ (bt s i = 76 ∨ bt s i = 82) then turnF s f (i + 1) else i

def antS (s : ByteArray) : (Out × Nat) ⊕ Nat :=
  if !inR s 1 32 32 then .inr 1
  else if turnF s 26 2 = 2 then .inr 2
  else .inl (⟨3, 0, 0, 0, 0, [], s.extract 2 (turnF s 26 2)⟩, turnF s 26 2)

def kindS (s : ByteArray) : (Out × Nat) ⊕ Nat :=
  if s.size = 0 then .inr 0
  else if bt s 0 = 66 then lifeS s
  else if bt s 0 = 87 then numberedS s
  else if bt s 0 = 76 then tabledS s
  else if bt s 0 = 84 then antS s
  else .inr 0

def parseS (s : ByteArray) : Out ⊕ Nat :=
  match kindS s with
  | .inr a => .inr a
  | .inl (o, p) => if p = s.size then .inl o else .inr p

end Go.Proofs.YtljdidimoagnhaaDoor

namespace Go.Proofs.YtljdidimoagnhaaDoor

def blankAt (s : ByteArray) (i : Nat) : Bool := decide (i < s.size) && (decide (bt s i = 32) || decide (bt s i = 10))
theorem blankAt_true {s : ByteArray} {i : Nat} : blankAt s i = true ↔ i < s.size ∧ (bt s i = 32 ∨ bt s i = 10) := by simp [blankAt]
theorem blankAt_false {s : ByteArray} {i : Nat} : blankAt s i = false ↔ ¬ (i < s.size ∧ (bt s i = 32 ∨ bt s i = 10)) := by
  rw [← blankAt_true]; cases blankAt s i <;> simp

/-- Behind the blanks and bytes 10 from i on. -/
def skF (s : ByteArray) : Nat → Nat → Nat
  | 0, i => i
  | f + 1, i => if blankAt s i then skF s f (i + 1) else i
def sk (s : ByteArray) (i : Nat) : Nat := skF s (s.size - i) i

theorem sk_step {s : ByteArray} {i : Nat} (h : blankAt s i = true) : sk s i = sk s (i + 1) := by
  have hl := (blankAt_true.1 h).1
  unfold sk
  rw [show s.size - i = (s.size - (i + 1)) + 1 by omega]
  simp [skF, h]
theorem sk_stop {s : ByteArray} {i : Nat} (h : blankAt s i = false) : sk s i = i := by
  unfold sk
  cases s.size - i <;> simp [skF, h]
theorem skF_ge (s : ByteArray) : ∀ f i, i ≤ skF s f i := by
  intro f
  induction f with
  | zero => intro i; simp [skF]
  | succ f ih =>
    intro i
    simp only [skF]
    split
    · have := ih (i + 1); omega
    · omega
theorem sk_ge (s : ByteArray) (i : Nat) : i ≤ sk s i := skF_ge s _ i
theorem skF_le (s : ByteArray) : ∀ f i, i + f ≤ s.size → skF s f i ≤ i + f := by
  intro f
  induction f with
  | zero => intro i h; simp [skF]
  | succ f ih =>
    intro i h
    simp only [skF]
    split
    · have := ih (i + 1) (by omega); omega
    · omega
theorem sk_le {s : ByteArray} {i : Nat} (h : i ≤ s.size) : sk s i ≤ s.size := by
  have := skF_le s (s.size - i) i (by omega)
  unfold sk; omega
theorem skF_end (s : ByteArray) : ∀ f i, i + f = s.size → blankAt s (skF s f i) = false := by
  intro f
  induction f with
  | zero => intro i h; rw [blankAt_false]; simp [skF]; omega
  | succ f ih =>
    intro i h
    simp only [skF]
    split
    · exact ih (i + 1) (by omega)
    · rename_i hb; simpa using hb
theorem sk_end {s : ByteArray} {i : Nat} (h : i ≤ s.size) : blankAt s (sk s i) = false := skF_end s _ i (by omega)

/-- These bytes stand from i on: behind them; or where they don't. -/
def wordF (s : ByteArray) : List Nat → Nat → Nat ⊕ Nat
  | [], i => .inl i
  | c :: cs, i => if i < s.size ∧ bt s i = c then wordF s cs (i + 1) else .inr i

/-- Is what stands at i a number of at most six digits without a needless 0? -/
def numSix (s : ByteArray) (i : Nat) : Bool :=
  decide (i < (num s i).2) && !(decide (1 < (num s i).2 - i) && decide (bt s i = 48)) && decide ((num s i).2 - i ≤ 6)

def sideS (s : ByteArray) (ws : List Nat) (i : Nat) : (Nat × Nat) ⊕ (Nat × Nat) :=
  match wordF s ws i with
  | .inr j => .inr (j, 2)
  | .inl j => if !numSix s j then .inr (j, 2) else if 100 < (num s j).1 then .inr (j, 1) else .inl ((num s j).1, (num s j).2)

def headS (s : ByteArray) : (Nat × Nat × Nat) ⊕ (Nat × Nat) :=
  match sideS s [120, 32, 61, 32] 0 with
  | .inr e => .inr e
  | .inl (w, i) =>
    match sideS s [44, 32, 121, 32, 61, 32] i with
    | .inr e => .inr e
    | .inl (h, j) =>
      match wordF s [10] j with
      | .inr k => .inr (k, 2)
      | .inl k => .inl (w, h, k)

/-- n cells from p on are v. -/
def setRun (xs : List Int) (p : Nat) : Nat → Int → List Int
  | 0, _ => xs
  | n + 1, v => (setRun xs p n v).set (p + n) v
theorem setRun_length (xs : List Int) (p n : Nat) (v : Int) : (setRun xs p n v).length = xs.length := by
  induction n with
  | zero => rfl
  | succ n ih => simp [setRun, ih]

/-- What stands where a tag may: its number or 1, and the tag's place. -/
def dAt (s : ByteArray) (j : Nat) : Bool := inR s j 48 57
def tagN (s : ByteArray) (j : Nat) : Nat := if dAt s j then (num s j).1 else 1
def tagK (s : ByteArray) (j : Nat) : Nat := if dAt s j then (num s j).2 else j
def tagBad (s : ByteArray) (j : Nat) : Bool := dAt s j && (!numSix s j || decide ((num s j).1 < 2))

/-- One tag, at j: on, done, or wrong. -/
abbrev Go1 : Type := (Nat × Nat × Nat × List Int) ⊕ (List Int ⊕ (Nat × Nat))
abbrev Go1.on (i x y : Nat) (xs : List Int) : Go1 := Sum.inl (i, x, y, xs)
abbrev Go1.done (xs : List Int) : Go1 := Sum.inr (Sum.inl xs)
abbrev Go1.bad (a e : Nat) : Go1 := Sum.inr (Sum.inr (a, e))

def tag1 (s : ByteArray) (W H j x y : Nat) (xs : List Int) : Go1 :=
  if tagBad s j then .bad j 2
  else if s.size ≤ tagK s j then .bad (tagK s j) 2
  else if bt s (tagK s j) = 98 ∨ bt s (tagK s j) = 111 then
    if H ≤ y ∨ W < x + tagN s j then .bad j 1
    else .on (tagK s j + 1) (x + tagN s j) y (setRun xs (y * W + x) (tagN s j) (if bt s (tagK s j) = 111 then 1 else 0))
  else if bt s (tagK s j) = 36 then
    if H ≤ y + tagN s j then .bad j 1 else .on (tagK s j + 1) 0 (y + tagN s j) xs
  else if bt s (tagK s j) = 33 then
    if j ≠ tagK s j then .bad (tagK s j) 2
    else if sk s (tagK s j + 1) = s.size then .done xs else .bad (sk s (tagK s j + 1)) 2
  else .bad (tagK s j) 2

def tagsF (s : ByteArray) (W H : Nat) : Nat → Nat → Nat → Nat → List Int → List Int ⊕ (Nat × Nat)
  | 0, _, _, _, _ => .inr (0, 0)
  | f + 1, i, x, y, xs =>
    match tag1 s W H (sk s i) x y xs with
    | .inl (i', x', y', xs') => tagsF s W H f i' x' y' xs'
    | .inr (.inl xs') => .inl xs'
    | .inr (.inr (a, e)) => .inr (a, e)

/-- A pattern, or where it is wrong and how. -/
def runsS (s : ByteArray) : (Nat × Nat × List Int) ⊕ (Nat × Nat) :=
  if 40000 < s.size then .inr (0, 4)
  else match headS s with
    | .inr e => .inr e
    | .inl (w, h, i) =>
      match tagsF s w h (s.size + 1 - i) i 0 0 (List.replicate (w * h) 0) with
      | .inl xs => .inl (w, h, xs)
      | .inr e => .inr e

theorem numF_ge (s : ByteArray) : ∀ f i v, i ≤ (numF s f i v).2 := by
  intro f
  induction f with
  | zero => intro i v; simp [numF]
  | succ f ih =>
    intro i v
    simp only [numF]
    split
    · have := ih (i + 1) (v * 10 + (bt s i - 48)); omega
    · simp
theorem num_ge (s : ByteArray) (i : Nat) : i ≤ (num s i).2 := numF_ge s _ i 0
theorem num_gt {s : ByteArray} {i : Nat} (h : inR s i 48 57 = true) : i < (num s i).2 := by
  unfold num
  rw [numF_step h]
  exact numF_ge s _ (i + 1) _
theorem numF_bound (s : ByteArray) : ∀ f i v n, v < 10 ^ n → (numF s f i v).1 < 10 ^ (n + ((numF s f i v).2 - i)) := by
  intro f
  induction f with
  | zero => intro i v n h; simpa [numF] using h
  | succ f ih =>
    intro i v n h
    simp only [numF]
    split
    · rename_i hin
      have hb := inR_true.1 hin
      have h1 := ih (i + 1) (v * 10 + (bt s i - 48)) (n + 1) (by rw [Nat.pow_succ]; omega)
      have h2 := numF_ge s f (i + 1) (v * 10 + (bt s i - 48))
      rw [show n + ((numF s f (i + 1) (v * 10 + (bt s i - 48))).2 - i) = n + 1 + ((numF s f (i + 1) (v * 10 + (bt s i - 48))).2 - (i + 1)) by omega]
      exact h1
    · simpa using h
theorem num_bound (s : ByteArray) (i : Nat) (h : (num s i).2 - i ≤ 6) : (num s i).1 < 1000000 := by
  have := numF_bound s (s.size - i) i 0 0 (by simp)
  have h2 : 10 ^ (0 + ((numF s (s.size - i) i 0).2 - i)) ≤ 10 ^ 6 := Nat.pow_le_pow_right (by omega) (by unfold num at h; omega)
  unfold num
  omega
theorem tagK_ge (s : ByteArray) (j : Nat) : j ≤ tagK s j := by
  unfold tagK
  split
  · exact num_ge s j
  · omega
end Go.Proofs.YtljdidimoagnhaaDoor

namespace Go.Proofs.YtljdidimoagnhaaDoor

def isDot (s : ByteArray) (i : Nat) : Bool := decide (bt s i = 194) && decide (i + 1 < s.size) && decide (bt s (i + 1) = 183)
def isBall (s : ByteArray) (i : Nat) : Bool := decide (bt s i = 226) && decide (i + 2 < s.size) && decide (bt s (i + 1) = 151) && decide (bt s (i + 2) = 143)
theorem isDot_true {s : ByteArray} {i : Nat} : isDot s i = true ↔ bt s i = 194 ∧ i + 1 < s.size ∧ bt s (i + 1) = 183 := by simp [isDot, and_assoc]
theorem isBall_true {s : ByteArray} {i : Nat} : isBall s i = true ↔ bt s i = 226 ∧ i + 2 < s.size ∧ bt s (i + 1) = 151 ∧ bt s (i + 2) = 143 := by simp [isBall, and_assoc]

theorem get_bt (s : ByteArray) (j : Nat) : (s.get! j).toNat = bt s j := by
  unfold bt
  split
  · rename_i h; simp [ByteArray.get!, getElem!_pos, h]; rfl
  · rename_i h
    have : s.data[j]! = default := getElem!_neg _ _ (show ¬ j < s.data.size from h)
    simp [ByteArray.get!, this]; rfl

theorem decode_dot {s : ByteArray} {i : Nat} (h : isDot s i = true) : Utf8.decode s i = (183, 2) := by
  obtain ⟨h0, h1, h2⟩ := isDot_true.1 h
  simp [Utf8.decode, get_bt, h0, h1, h2]
theorem decode_ball {s : ByteArray} {i : Nat} (h : isBall s i = true) : Utf8.decode s i = (9679, 3) := by
  obtain ⟨h0, h1, h2, h3⟩ := isBall_true.1 h
  have h1' : i + 1 < s.size := by omega
  simp [Utf8.decode, get_bt, h0, h1, h1', h2, h3, Utf8.valid]
theorem decode_ten {s : ByteArray} {i : Nat} (h : bt s i = 10) : Utf8.decode s i = (10, 1) := by
  simp [Utf8.decode, get_bt, h]
theorem decode_other {s : ByteArray} {i : Nat} (hd : isDot s i = false) (hb : isBall s i = false) (hn : ¬ bt s i = 10) :
    ¬ (Utf8.decode s i).1 = 183 ∧ ¬ (Utf8.decode s i).1 = 9679 ∧ ¬ (Utf8.decode s i).1 = 10 := by
  have hd' : ¬ (bt s i = 194 ∧ i + 1 < s.size ∧ bt s (i + 1) = 183) := by rw [← isDot_true, hd]; simp
  have hb' : ¬ (bt s i = 226 ∧ i + 2 < s.size ∧ bt s (i + 1) = 151 ∧ bt s (i + 2) = 143) := by rw [← isBall_true, hb]; simp
  have b0 := bt_le s i
  have b1 := bt_le s (i + 1)
  have b2 := bt_le s (i + 2)
  have b3 := bt_le s (i + 3)
  simp only [Utf8.decode, get_bt, Nat.add_zero]
  generalize bt s i = x0 at *
  generalize bt s (i + 1) = x1 at *
  generalize bt s (i + 2) = x2 at *
  generalize bt s (i + 3) = x3 at *
  clear hd hb
  repeat' split
  all_goals simp only [Bool.and_eq_true, decide_eq_true_eq, beq_iff_eq, Utf8.runeError] at *
  all_goals (first | omega | (refine ⟨?_, ?_, ?_⟩ <;> omega))

/-- A drawing from i on: its row began at r, with n cells so far; wide, high and the cells of what was read. -/
def drawF (s : ByteArray) : Nat → Nat → Nat → Nat → Nat → Nat → List Int → (Nat × Nat × List Int) ⊕ (Nat × Nat)
  | 0, _, _, _, _, _, _ => .inr (0, 0)
  | f + 1, i, r, n, wide, high, xs =>
    if s.size ≤ i then (if r < s.size then .inr (s.size, 2) else .inl (wide, high, xs))
    else if isDot s i then (if high = 100 then .inr (r, 1) else if n = 100 then .inr (i, 1) else drawF s f (i + 2) r (n + 1) wide high (xs ++ [0]))
    else if isBall s i then (if high = 100 then .inr (r, 1) else if n = 100 then .inr (i, 1) else drawF s f (i + 3) r (n + 1) wide high (xs ++ [1]))
    else if bt s i ≠ 10 then .inr (i, 2)
    else if high = 100 then .inr (r, 1)
    else if 0 < high ∧ n ≠ wide then .inr (r, 3)
    else drawF s f (i + 1) (i + 1) 0 n (high + 1) xs

def drawS (s : ByteArray) : (Nat × Nat × List Int) ⊕ (Nat × Nat) :=
  if 40000 < s.size then .inr (0, 4) else drawF s (s.size + 1) 0 0 0 0 0 []
end Go.Proofs.YtljdidimoagnhaaDoor

