/-
  What the last text of this claim leans on, part 3: Wr1, Wr2.
-/
import Derived.Test.YthmeapplnocfjaaDoorZp2
namespace Go.Proofs.YthmeapplnocfjaaDoor
set_option linter.unusedVariables false
set_option linter.unusedSimpArgs false
/-- A board: its tiles, its sides, whether it is a ring, which tiles may stand where (bits). -/
structure BdW where
  t : Nat → TlT
  W : Nat
  H : Nat
  ring : Bool
  may : Nat → Nat → Nat
/-- A tile as a cell's neighbours see it. -/
def inW (b : BdW) (r c k : Nat) : TlT :=
  if b.ring = true then b.t k else ⟨if r = 0 then 0 else (b.t k).u, if c + 1 = b.W then 0 else (b.t k).r, if r + 1 = b.H then 0 else (b.t k).d, if c = 0 then 0 else (b.t k).l⟩
/-- Cells fit. -/
def FitB (b : BdW) (S : Nat → Nat → Nat) : Prop := ∀ r c, r < b.H → c < b.W → (inW b r c (S r c)).r = (inW b r ((c + 1) % b.W) (S r ((c + 1) % b.W))).l ∧ (inW b r c (S r c)).d = (inW b ((r + 1) % b.H) c (S ((r + 1) % b.H) c)).u
/-- They are those that may stand there. -/
def MayB (b : BdW) (S : Nat → Nat → Nat) : Prop := ∀ r c, r < b.H → c < b.W → (b.may r c).testBit (S r c) = true
def SolB (b : BdW) (S : Nat → Nat → Nat) : Prop := MayB b S ∧ FitB b S
def OpB (b : BdW) : Prop := ∃ S, SolB b S
/-- Turned: columns for rows. -/
def trT (t : TlT) : TlT := ⟨t.l, t.d, t.r, t.u⟩
def trB (b : BdW) : BdW := ⟨fun k => trT (b.t k), b.H, b.W, b.ring, fun r c => b.may c r⟩
theorem in_tr (b : BdW) (r c k : Nat) : inW (trB b) c r k = trT (inW b r c k) := by
  unfold inW trB
  simp only
  split <;> rfl
theorem sol_tr {b : BdW} {S : Nat → Nat → Nat} (h : SolB b S) : SolB (trB b) (fun r c => S c r) := by
  refine ⟨fun r c hr hc => h.1 c r hc hr, fun r c hr hc => ?_⟩
  obtain ⟨h1, h2⟩ := h.2 c r hc hr
  refine ⟨?_, ?_⟩
  · show (inW (trB b) r c (S c r)).r = (inW (trB b) r ((c + 1) % b.H) (S ((c + 1) % b.H) r)).l
    rw [in_tr, in_tr]
    exact h2
  · show (inW (trB b) r c (S c r)).d = (inW (trB b) ((r + 1) % b.W) c (S c ((r + 1) % b.W))).u
    rw [in_tr, in_tr]
    exact h1
theorem op_tr (b : BdW) : OpB (trB b) ↔ OpB b := ⟨fun ⟨S, h⟩ => ⟨_, (sol_tr h : SolB (trB (trB b)) _)⟩, fun ⟨S, h⟩ => ⟨_, sol_tr h⟩⟩
/-- Colours of the tiles. -/
def ColB (b : BdW) : Prop := ∀ k, (0 ≤ (b.t k).u ∧ (b.t k).u ≤ 7) ∧ (0 ≤ (b.t k).r ∧ (b.t k).r ≤ 7) ∧ (0 ≤ (b.t k).d ∧ (b.t k).d ≤ 7) ∧ (0 ≤ (b.t k).l ∧ (b.t k).l ≤ 7)
theorem col_tr {b : BdW} (h : ColB b) : ColB (trB b) := fun k => ⟨(h k).2.2.2, (h k).2.2.1, (h k).2.1, (h k).1⟩
theorem col_in {b : BdW} (h : ColB b) (r c k : Nat) : (0 ≤ (inW b r c k).u ∧ (inW b r c k).u ≤ 7) ∧ (0 ≤ (inW b r c k).r ∧ (inW b r c k).r ≤ 7) ∧ (0 ≤ (inW b r c k).d ∧ (inW b r c k).d ≤ 7) ∧ (0 ≤ (inW b r c k).l ∧ (inW b r c k).l ≤ 7) := by
  have := h k
  unfold inW
  split
  · exact this
  · refine ⟨?_, ?_, ?_, ?_⟩ <;> simp only <;> split <;> omega
/-- Sides of a board, and what may stand there. -/
structure BokW (b : BdW) : Prop where
  w1 : 1 ≤ b.W
  w5 : b.W ≤ 5
  h1 : 1 ≤ b.H
  h5 : b.H ≤ 5
  col : ColB b
  may : ∀ r c, b.may r c < 65536
theorem BokW.tr {b : BdW} (h : BokW b) : BokW (trB b) := ⟨h.h1, h.h5, h.w1, h.w5, col_tr h.col, fun r c => h.may c r⟩
/-- One cell's tiles set. -/
def setM (b : BdW) (r c m : Nat) : BdW := ⟨b.t, b.W, b.H, b.ring, fun r' c' => if r' = r ∧ c' = c then m else b.may r' c'⟩
theorem BokW.set {b : BdW} (h : BokW b) (r c : Nat) {m : Nat} (hm : m < 65536) : BokW (setM b r c m) := ⟨h.w1, h.w5, h.h1, h.h5, h.col, fun r' c' => by show (if r' = r ∧ c' = c then m else b.may r' c') < 65536; split; exact hm; exact h.may r' c'⟩
theorem set_set (b : BdW) (r c m m' : Nat) : setM (setM b r c m) r c m' = setM b r c m' := by
  unfold setM
  congr 1
  funext r' c'
  simp only
  split <;> rfl
/-- What is still to come of some bits, n of them done. -/
def RsW (M n rest : Nat) : Prop := n ≤ 16 ∧ rest < 65536 ∧ ∀ i, rest.testBit i = (M.testBit i && decide (n ≤ i))
theorem RsW.start {M : Nat} (h : M < 65536) : RsW M 0 M := ⟨by omega, h, fun i => by simp⟩
theorem bit_lt {M k : Nat} (h : M < 65536) (hk : M.testBit k = true) : k < 16 := by
  rcases Nat.lt_or_ge k 16 with q | q
  · exact q
  · rw [Nat.testBit_lt_two_pow (Nat.lt_of_lt_of_le (show M < 2 ^ 16 from h) (Nat.pow_le_pow_right (by omega) q))] at hk
    cases hk
/-- Without its lowest bit. -/
theorem and_predW {x k : Nat} (hk : x.testBit k = true) (hl : ∀ j, j < k → x.testBit j = false) (q : Nat) : (x &&& (x - 1)).testBit q = (x.testBit q && decide (q ≠ k)) := by
  obtain ⟨a, ha⟩ : ∃ a, x = 2 ^ k * (2 * a + 1) := by
    have h0 : x % 2 ^ k = 0 := by
      apply Nat.eq_of_testBit_eq
      intro j
      rw [Nat.testBit_mod_two_pow]
      by_cases hj : j < k
      · simp [hl j hj]
      · simp [hj]
    have h1 : x = 2 ^ k * (x / 2 ^ k) := by have := Nat.div_add_mod x (2 ^ k); omega
    have h2 : (x / 2 ^ k) % 2 = 1 := by
      have := hk
      rw [Nat.testBit, Nat.shiftRight_eq_div_pow] at this
      simp at this
      omega
    exact ⟨x / 2 ^ k / 2, by rw [show 2 * (x / 2 ^ k / 2) + 1 = x / 2 ^ k by omega]; exact h1⟩
  have hp : 0 < 2 ^ k := Nat.pow_pos (by omega)
  have hx1 : x - 1 = 2 ^ k * (2 * a) + (2 ^ k - 1) := by rw [ha, Nat.mul_add]; omega
  rw [Nat.testBit_and, hx1, Nat.testBit_two_pow_mul_add _ (by omega)]
  by_cases hq : q < k
  · rw [if_pos hq, hl q hq]; simp
  · rw [if_neg hq]
    by_cases e : q = k
    · subst e; simp
    · obtain ⟨d, hd⟩ : ∃ d, q = k + 1 + d := ⟨q - k - 1, by omega⟩
      have t1 : x.testBit q = a.testBit d := by
        have : x = 2 ^ k * (2 * a + 1) + 0 := by omega
        rw [this, Nat.testBit_two_pow_mul_add _ hp, if_neg hq, show q - k = d + 1 by omega, Nat.testBit_succ]
        congr 1; omega
      have t2 : (2 * a).testBit (q - k) = a.testBit d := by
        rw [show q - k = d + 1 by omega, Nat.testBit_succ]
        congr 1; omega
      rw [t1, t2]
      simp [e]
theorem RsW.step {M n rest k : Nat} (h : RsW M n rest) (hk : rest.testBit k = true) (hl : ∀ j, j < k → rest.testBit j = false) : n ≤ k ∧ k < 16 ∧ M.testBit k = true ∧ (∀ j, n ≤ j → j < k → M.testBit j = false) ∧ RsW M (k + 1) (rest &&& (rest - 1)) := by
  have e := h.2.2 k
  rw [hk] at e
  have e' := e.symm
  simp at e'
  have k16 := bit_lt h.2.1 hk
  refine ⟨e'.2, k16, e'.1, fun j h1 h2 => ?_, by omega, Nat.lt_of_le_of_lt Nat.and_le_left h.2.1, fun i => ?_⟩
  · have := hl j h2
    rw [h.2.2 j] at this
    simpa [h1] using this
  · rw [and_predW hk hl, h.2.2 i]
    rcases Nat.lt_trichotomy i k with q | q | q
    · have := hl i q
      rw [h.2.2 i] at this
      rw [this, Bool.false_and]
      have : ¬ k + 1 ≤ i := by omega
      simp [this]
    · subst q
      simp
    · have h1 : n ≤ i := by omega
      have h2 : k + 1 ≤ i := by omega
      have h3 : i ≠ k := by omega
      simp [h1, h2, h3]
theorem RsW.fin {M n : Nat} (h : RsW M n 0) : ∀ i, n ≤ i → M.testBit i = false := fun i hi => by
  have := h.2.2 i
  simpa [hi] using this.symm
end Go.Proofs.YthmeapplnocfjaaDoor

namespace Go.Proofs.YthmeapplnocfjaaDoor
set_option linter.unusedVariables false
set_option linter.unusedSimpArgs false
/-- How a row looks: from above, from below. -/
structure LkW where
  u : List Nat
  d : List Nat
def lkZ : LkW := ⟨[0, 0, 0, 0, 0], [0, 0, 0, 0, 0]⟩
def LkW.put (l : LkW) (c : Nat) (x y : Nat) : LkW := ⟨l.u.set c x, l.d.set c y⟩
theorem LkW.put_put (l : LkW) (c x y x' y' : Nat) : (l.put c x y).put c x' y' = l.put c x' y' := by
  unfold LkW.put
  simp
/-- Sums over tiles. -/
def smT (f : Nat → Nat) : Nat → Nat
  | 0 => 0
  | n + 1 => smT f n + f n
theorem smT_skip {f : Nat → Nat} {n : Nat} : ∀ {m : Nat}, n ≤ m → (∀ j, n ≤ j → j < m → f j = 0) → smT f m = smT f n
  | 0, h, _ => by rw [show n = 0 by omega]
  | m + 1, h, z => by
    by_cases e : n = m + 1
    · rw [e]
    · rw [smT, z m (by omega) (by omega), smT_skip (m := m) (by omega) (fun j a b => z j a (by omega))]
      omega
theorem smT_le {f : Nat → Nat} {B : Nat} : ∀ {m : Nat}, (∀ j, j < m → f j ≤ B) → smT f m ≤ m * B
  | 0, _ => by simp [smT]
  | m + 1, h => by
    have := smT_le (m := m) (fun j hj => h j (by omega))
    have := h m (by omega)
    rw [smT, Nat.succ_mul]
    omega
/-- Lists over tiles. -/
def flT {α : Type} (f : Nat → List α) : Nat → List α
  | 0 => []
  | n + 1 => flT f n ++ f n
theorem flT_skip {α : Type} {f : Nat → List α} {n : Nat} : ∀ {m : Nat}, n ≤ m → (∀ j, n ≤ j → j < m → f j = []) → flT f m = flT f n
  | 0, h, _ => by rw [show n = 0 by omega]
  | m + 1, h, z => by
    by_cases e : n = m + 1
    · rw [e]
    · rw [flT, z m (by omega) (by omega), flT_skip (m := m) (by omega) (fun j a b => z j a (by omega)), List.append_nil]
theorem flT_len {α : Type} {f : Nat → List α} {g : Nat → Nat} : ∀ {m : Nat}, (∀ j, j < m → (f j).length = g j) → (flT f m).length = smT g m
  | 0, _ => rfl
  | m + 1, h => by rw [flT, smT, List.length_append, flT_len (m := m) (fun j hj => h j (by omega)), h m (by omega)]
theorem mem_flT {α : Type} {f : Nat → List α} {x : α} : ∀ {m : Nat}, x ∈ flT f m ↔ ∃ j, j < m ∧ x ∈ f j
  | 0 => by simp [flT]
  | m + 1 => by
    rw [flT, List.mem_append, mem_flT (m := m)]
    constructor
    · rintro (⟨j, h, hx⟩ | hx)
      · exact ⟨j, by omega, hx⟩
      · exact ⟨m, by omega, hx⟩
    · rintro ⟨j, h, hx⟩
      by_cases e : j = m
      · subst e; exact Or.inr hx
      · exact Or.inl ⟨j, by omega, hx⟩
/-- In how many ways a row can be filled from column c on, j cells, with that colour to its left; col at its end. -/
def enW (b : BdW) (r col : Nat) : Nat → Nat → Int → Nat
  | 0, c, left => if left = (col : Int) then 1 else 0
  | j + 1, c, left => smT (fun k => if (b.may r c).testBit k = true ∧ (inW b r c k).l = left then enW b r col j (c + 1) (inW b r c k).r else 0) 16
/-- All that come of it. -/
def exW (b : BdW) (r col : Nat) : Nat → Nat → Int → LkW → List LkW
  | 0, c, left, l => if left = (col : Int) then [l] else []
  | j + 1, c, left, l => flT (fun k => if (b.may r c).testBit k = true ∧ (inW b r c k).l = left then exW b r col j (c + 1) (inW b r c k).r (l.put c (inW b r c k).u.toNat (inW b r c k).d.toNat) else []) 16
theorem ex_len (b : BdW) (r col : Nat) : ∀ (j c : Nat) (left : Int) (l : LkW), (exW b r col j c left l).length = enW b r col j c left
  | 0, c, left, l => by
    unfold exW enW
    split <;> rfl
  | j + 1, c, left, l => by
    unfold exW enW
    apply flT_len
    intro k _
    split
    · exact ex_len b r col j (c + 1) _ _
    · rfl
theorem en_le (b : BdW) (r col : Nat) : ∀ (j c : Nat) (left : Int), enW b r col j c left ≤ 16 ^ j
  | 0, c, left => by
    unfold enW
    split <;> simp
  | j + 1, c, left => by
    unfold enW
    rw [Nat.pow_succ, Nat.mul_comm]
    apply smT_le
    intro k _
    split
    · exact en_le b r col j (c + 1) _
    · exact Nat.zero_le _
theorem ex_nil {b : BdW} {r col j c : Nat} {left : Int} (l : LkW) (h : enW b r col j c left = 0) : exW b r col j c left l = [] := by
  apply List.eq_nil_of_length_eq_zero
  rw [ex_len, h]
/-- A row's way from column c on, j cells. -/
def ChW (b : BdW) (r col : Nat) (s : Nat → Nat) : Nat → Nat → Int → Prop
  | 0, c, left => left = (col : Int)
  | j + 1, c, left => (b.may r c).testBit (s c) = true ∧ (inW b r c (s c)).l = left ∧ ChW b r col s j (c + 1) (inW b r c (s c)).r
theorem ChW.ext {b : BdW} {r col : Nat} {s s' : Nat → Nat} : ∀ {j c : Nat} {left : Int}, (∀ i, c ≤ i → s i = s' i) → ChW b r col s j c left → ChW b r col s' j c left
  | 0, c, left, e, h => h
  | j + 1, c, left, e, h => by
    unfold ChW at h ⊢
    rw [← e c (Nat.le_refl _)]
    exact ⟨h.1, h.2.1, ChW.ext (fun i hi => e i (by omega)) h.2.2⟩
def lkS (b : BdW) (r : Nat) (s : Nat → Nat) : Nat → Nat → LkW → LkW
  | 0, c, l => l
  | j + 1, c, l => lkS b r s j (c + 1) (l.put c (inW b r c (s c)).u.toNat (inW b r c (s c)).d.toNat)
theorem lkS_ext {b : BdW} {r : Nat} {s s' : Nat → Nat} : ∀ {j c : Nat} {l : LkW}, (∀ i, c ≤ i → s i = s' i) → lkS b r s j c l = lkS b r s' j c l
  | 0, c, l, e => rfl
  | j + 1, c, l, e => by
    unfold lkS
    rw [← e c (Nat.le_refl _)]
    exact lkS_ext (fun i hi => e i (by omega))
theorem mem_ex {b : BdW} {r col : Nat} (hm : ∀ r c, b.may r c < 65536) {L : LkW} : ∀ {j c : Nat} {left : Int} {l : LkW}, L ∈ exW b r col j c left l ↔ ∃ s, ChW b r col s j c left ∧ L = lkS b r s j c l
  | 0, c, left, l => by
    unfold exW ChW lkS
    split
    · rename_i q
      simp [q]
    · rename_i q
      simp [q]
  | j + 1, c, left, l => by
    unfold exW
    rw [mem_flT]
    constructor
    · rintro ⟨k, _, h⟩
      split at h
      · rename_i q
        obtain ⟨s, h1, h2⟩ := mem_ex (j := j) hm |>.1 h
        have e : ∀ i, c + 1 ≤ i → s i = (if i = c then k else s i) := fun i hi => by rw [if_neg (by omega)]
        refine ⟨fun i => if i = c then k else s i, ?_, ?_⟩
        · unfold ChW
          simp only [if_true]
          exact ⟨q.1, q.2, h1.ext e⟩
        · unfold lkS
          simp only [if_true]
          rw [h2]
          exact lkS_ext e
      · cases h
    · rintro ⟨s, h1, h2⟩
      unfold ChW at h1
      unfold lkS at h2
      refine ⟨s c, bit_lt (hm r c) h1.1, ?_⟩
      rw [if_pos ⟨h1.1, h1.2.1⟩]
      exact (mem_ex (j := j) hm).2 ⟨s, h1.2.2, h2⟩
/-- A way, cell by cell. -/
theorem ChW.cells {b : BdW} {r col : Nat} {s : Nat → Nat} : ∀ {j c : Nat} {left : Int}, ChW b r col s (j + 1) c left → (∀ i, i ≤ j → (b.may r (c + i)).testBit (s (c + i)) = true) ∧ (∀ i, i < j → (inW b r (c + i) (s (c + i))).r = (inW b r (c + i + 1) (s (c + i + 1))).l) ∧ (inW b r c (s c)).l = left ∧ (inW b r (c + j) (s (c + j))).r = (col : Int)
  | 0, c, left, h => by
    unfold ChW at h
    exact ⟨fun i hi => by rw [show i = 0 by omega]; exact h.1, fun i hi => by omega, h.2.1, h.2.2⟩
  | j + 1, c, left, h => by
    unfold ChW at h
    obtain ⟨h1, h2, h3⟩ := h
    obtain ⟨g1, g2, g3, g4⟩ := ChW.cells (j := j) h3
    refine ⟨fun i hi => ?_, fun i hi => ?_, h2, ?_⟩
    · rcases i with _ | i
      · exact h1
      · have := g1 i (by omega)
        rw [show c + (i + 1) = c + 1 + i by omega]
        exact this
    · rcases i with _ | i
      · exact g3.symm
      · have := g2 i (by omega)
        rw [show c + (i + 1) = c + 1 + i by omega]
        exact this
    · rw [show c + (j + 1) = c + 1 + j by omega]
      exact g4
theorem ChW.of {b : BdW} {r col : Nat} {s : Nat → Nat} : ∀ {j c : Nat} {left : Int}, (∀ i, i ≤ j → (b.may r (c + i)).testBit (s (c + i)) = true) → (∀ i, i < j → (inW b r (c + i) (s (c + i))).r = (inW b r (c + i + 1) (s (c + i + 1))).l) → (inW b r c (s c)).l = left → (inW b r (c + j) (s (c + j))).r = (col : Int) → ChW b r col s (j + 1) c left
  | 0, c, left, h1, h2, h3, h4 => by
    unfold ChW
    exact ⟨h1 0 (by omega), h3, h4⟩
  | j + 1, c, left, h1, h2, h3, h4 => by
    unfold ChW
    refine ⟨h1 0 (by omega), h3, ChW.of (j := j) (fun i hi => ?_) (fun i hi => ?_) (h2 0 (by omega)).symm ?_⟩
    · have := h1 (i + 1) (by omega)
      rw [show c + 1 + i = c + (i + 1) by omega]
      exact this
    · have := h2 (i + 1) (by omega)
      rw [show c + 1 + i = c + (i + 1) by omega]
      exact this
    · rw [show c + 1 + j = c + (j + 1) by omega]
      exact h4
/-- What is seen of it. -/
theorem lkS_len {b : BdW} {r : Nat} {s : Nat → Nat} : ∀ {j c : Nat} {l : LkW}, (lkS b r s j c l).u.length = l.u.length ∧ (lkS b r s j c l).d.length = l.d.length
  | 0, c, l => ⟨rfl, rfl⟩
  | j + 1, c, l => by
    unfold lkS
    have := lkS_len (b := b) (r := r) (s := s) (j := j) (c := c + 1) (l := l.put c (inW b r c (s c)).u.toNat (inW b r c (s c)).d.toNat)
    rw [this.1, this.2]
    simp [LkW.put]
theorem lkS_at {b : BdW} {r : Nat} {s : Nat → Nat} {i : Nat} : ∀ {j c : Nat} {l : LkW}, i < l.u.length → i < l.d.length → (lkS b r s j c l).u.getD i 0 = (if c ≤ i ∧ i < c + j then (inW b r i (s i)).u.toNat else l.u.getD i 0) ∧ (lkS b r s j c l).d.getD i 0 = (if c ≤ i ∧ i < c + j then (inW b r i (s i)).d.toNat else l.d.getD i 0)
  | 0, c, l, h1, h2 => by
    have : ¬ (c ≤ i ∧ i < c + 0) := by omega
    rw [if_neg this, if_neg this]
    exact ⟨rfl, rfl⟩
  | j + 1, c, l, h1, h2 => by
    unfold lkS
    have g1 : i < (l.put c (inW b r c (s c)).u.toNat (inW b r c (s c)).d.toNat).u.length := by simp [LkW.put]; exact h1
    have g2 : i < (l.put c (inW b r c (s c)).u.toNat (inW b r c (s c)).d.toNat).d.length := by simp [LkW.put]; exact h2
    have := lkS_at (b := b) (r := r) (s := s) (j := j) (c := c + 1) g1 g2
    rw [this.1, this.2]
    by_cases e : i = c
    · subst e
      have n1 : ¬ (i + 1 ≤ i ∧ i < i + 1 + j) := by omega
      have p1 : i ≤ i ∧ i < i + (j + 1) := by omega
      rw [if_neg n1, if_neg n1, if_pos p1, if_pos p1]
      simp [LkW.put, List.getD, h1, h2]
    · have a1 : (l.put c (inW b r c (s c)).u.toNat (inW b r c (s c)).d.toNat).u.getD i 0 = l.u.getD i 0 := by simp [LkW.put, List.getD, List.getElem?_set, Ne.symm e]
      have a2 : (l.put c (inW b r c (s c)).u.toNat (inW b r c (s c)).d.toNat).d.getD i 0 = l.d.getD i 0 := by simp [LkW.put, List.getD, List.getElem?_set, Ne.symm e]
      rw [a1, a2]
      by_cases q : c + 1 ≤ i ∧ i < c + 1 + j
      · have p1 : c ≤ i ∧ i < c + (j + 1) := by omega
        rw [if_pos q, if_pos q, if_pos p1, if_pos p1]
        exact ⟨rfl, rfl⟩
      · have p1 : ¬ (c ≤ i ∧ i < c + (j + 1)) := by omega
        rw [if_neg q, if_neg q, if_neg p1, if_neg p1]
        exact ⟨rfl, rfl⟩
/-- All looks of a row. -/
def lkL (b : BdW) (r : Nat) : List LkW := flT (fun col => exW b r col b.W 0 (col : Int) lkZ) 8
def RowB (b : BdW) (r : Nat) (s : Nat → Nat) : Prop := ∀ c, c < b.W → (b.may r c).testBit (s c) = true ∧ (inW b r c (s c)).r = (inW b r ((c + 1) % b.W) (s ((c + 1) % b.W))).l
def sees (b : BdW) (r : Nat) (s : Nat → Nat) : LkW := lkS b r s b.W 0 lkZ
theorem mem_lkL {b : BdW} {r : Nat} (hb : BokW b) {L : LkW} : L ∈ lkL b r ↔ ∃ s, RowB b r s ∧ L = sees b r s := by
  unfold lkL
  rw [mem_flT]
  obtain ⟨W', hW⟩ : ∃ W', b.W = W' + 1 := ⟨b.W - 1, by have := hb.w1; omega⟩
  constructor
  · rintro ⟨col, hc, h⟩
    obtain ⟨s, h1, h2⟩ := (mem_ex hb.may).1 h
    rw [hW] at h1
    obtain ⟨g1, g2, g3, g4⟩ := h1.cells
    refine ⟨s, fun c hc => ?_, h2⟩
    refine ⟨by have := g1 c (by omega); rwa [Nat.zero_add] at this, ?_⟩
    rw [hW]
    by_cases e : c = W'
    · subst e
      rw [Nat.mod_self, g3]
      rw [Nat.zero_add] at g4
      exact g4
    · rw [Nat.mod_eq_of_lt (by omega)]
      have := g2 c (by omega)
      rwa [Nat.zero_add] at this
  · rintro ⟨s, h1, h2⟩
    have hl := (col_in hb.col r 0 (s 0)).2.2.2
    obtain ⟨col, hcol⟩ : ∃ col : Nat, (inW b r 0 (s 0)).l = (col : Int) := ⟨(inW b r 0 (s 0)).l.toNat, by omega⟩
    refine ⟨col, by omega, (mem_ex hb.may).2 ⟨s, ?_, h2⟩⟩
    rw [hW]
    refine ChW.of (fun i hi => ?_) (fun i hi => ?_) hcol ?_
    · rw [Nat.zero_add]
      exact (h1 i (by omega)).1
    · rw [Nat.zero_add]
      have := (h1 i (by omega)).2
      rwa [hW, Nat.mod_eq_of_lt (by omega)] at this
    · rw [Nat.zero_add]
      have := (h1 W' (by omega)).2
      rw [hW, Nat.mod_self] at this
      rw [this, hcol]
theorem lkL_len {b : BdW} (r : Nat) (h : b.W ≤ 5) : (lkL b r).length ≤ 8388608 := by
  unfold lkL
  rw [flT_len (g := fun col => enW b r col b.W 0 (col : Int)) (fun j _ => ex_len _ _ _ _ _ _ _)]
  have : smT (fun col => enW b r col b.W 0 (col : Int)) 8 ≤ 8 * 16 ^ b.W := smT_le (fun j _ => en_le _ _ _ _ _ _)
  have : 16 ^ b.W ≤ 16 ^ 5 := Nat.pow_le_pow_right (by omega) h
  omega
theorem sees_len (b : BdW) (r : Nat) (s : Nat → Nat) : (sees b r s).u.length = 5 ∧ (sees b r s).d.length = 5 := lkS_len
theorem sees_at {b : BdW} {r i : Nat} {s : Nat → Nat} (h : i < 5) : (sees b r s).u.getD i 0 = (if i < b.W then (inW b r i (s i)).u.toNat else 0) ∧ (sees b r s).d.getD i 0 = (if i < b.W then (inW b r i (s i)).d.toNat else 0) := by
  have := lkS_at (b := b) (r := r) (s := s) (i := i) (j := b.W) (c := 0) (l := lkZ) h h
  unfold sees
  rw [this.1, this.2, Nat.zero_add]
  have z1 : lkZ.u.getD i 0 = 0 := by
    match i, h with
    | 0, _ => rfl
    | 1, _ => rfl
    | 2, _ => rfl
    | 3, _ => rfl
    | 4, _ => rfl
  have z2 : lkZ.d.getD i 0 = 0 := z1
  rw [z1, z2]
  simp
theorem list5 {a b : List Nat} (ha : a.length = 5) (hb : b.length = 5) (h : ∀ i, i < 5 → a.getD i 0 = b.getD i 0) : a = b := by
  apply List.ext_getElem (by omega)
  intro i h1 h2
  have := h i (by omega)
  simpa [List.getD, h1, h2] using this
/-- A row goes on in the next one. -/
theorem sees_eq {b : BdW} (hb : BokW b) {r r' : Nat} {s s' : Nat → Nat} : (sees b r s).d = (sees b r' s').u ↔ ∀ c, c < b.W → (inW b r c (s c)).d = (inW b r' c (s' c)).u := by
  have w5 := hb.w5
  constructor
  · intro h c hc
    have e1 := (sees_at (b := b) (r := r) (s := s) (show c < 5 by omega)).2
    have e2 := (sees_at (b := b) (r := r') (s := s') (show c < 5 by omega)).1
    rw [h, e2, if_pos hc, if_pos hc] at e1
    have := (col_in hb.col r c (s c)).2.2.1
    have := (col_in hb.col r' c (s' c)).1
    omega
  · intro h
    refine list5 (sees_len ..).2 (sees_len ..).1 fun i hi => ?_
    rw [(sees_at hi).2, (sees_at hi).1]
    split
    · rename_i q
      rw [h i q]
    · rfl
end Go.Proofs.YthmeapplnocfjaaDoor

