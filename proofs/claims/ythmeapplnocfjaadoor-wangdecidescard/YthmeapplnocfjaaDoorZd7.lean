/-
  What the last text of this claim leans on, part 7: Wr2, Wr3.
-/
import Derived.Test.YthmeapplnocfjaaDoorZd6
namespace Go.Proofs.YthmeapplnocfjaaDoor
set_option linter.unusedVariables false
set_option linter.unusedSimpArgs false
/-- How a row looks: from above, from below. -/
structure LkW where
  u : List Nat
  d : List Nat
def lkZ : LkW := ⟨[0, 0, 0, 0, 0], [0, 0, 0, 0, 0]⟩
def LkW.put (l : LkW) (c : Nat) (x y : Nat) : LkW := ⟨l.u.set c x, l.d.set c y⟩
theorem LkW.put_put (l : LkW) (c x y x' y' : Nat) : (l.put c x y).put c x' y' = l.put c x' y' := by
  unfold LkW.put
  simp
/-- Sums over tiles. -/
def smT (f : Nat → Nat) : Nat → Nat
  | 0 => 0
  | n + 1 => smT f n + f n
theorem smT_skip {f : Nat → Nat} {n : Nat} : ∀ {m : Nat}, n ≤ m → (∀ j, n ≤ j → j < m → f j = 0) → smT f m = smT f n
  | 0, h, _ => by rw [show n = 0 by omega]
  | m + 1, h, z => by
    by_cases e : n = m + 1
    · rw [e]
    · rw [smT, z m (by omega) (by omega), smT_skip (m := m) (by omega) (fun j a b => z j a (by omega))]
      omega
theorem smT_le {f : Nat → Nat} {B : Nat} : ∀ {m : Nat}, (∀ j, j < m → f j ≤ B) → smT f m ≤ m * B
  | 0, _ => by simp [smT]
  | m + 1, h => by
    have := smT_le (m := m) (fun j hj => h j (by omega))
    have := h m (by omega)
    rw [smT, Nat.succ_mul]
    omega
/-- Lists over tiles. -/
def flT {α : Type} (f : Nat → List α) : Nat → List α
  | 0 => []
  | n + 1 => flT f n ++ f n
theorem flT_skip {α : Type} {f : Nat → List α} {n : Nat} : ∀ {m : Nat}, n ≤ m → (∀ j, n ≤ j → j < m → f j = []) → flT f m = flT f n
  | 0, h, _ => by rw [show n = 0 by omega]
  | m + 1, h, z => by
    by_cases e : n = m + 1
    · rw [e]
    · rw [flT, z m (by omega) (by omega), flT_skip (m := m) (by omega) (fun j a b => z j a (by omega)), List.append_nil]
theorem flT_len {α : Type} {f : Nat → List α} {g : Nat → Nat} : ∀ {m : Nat}, (∀ j, j < m → (f j).length = g j) → (flT f m).length = smT g m
  | 0, _ => rfl
  | m + 1, h => by rw [flT, smT, List.length_append, flT_len (m := m) (fun j hj => h j (by omega)), h m (by omega)]
theorem mem_flT {α : Type} {f : Nat → List α} {x : α} : ∀ {m : Nat}, x ∈ flT f m ↔ ∃ j, j < m ∧ x ∈ f j
  | 0 => by simp [flT]
  | m + 1 => by
    rw [flT, List.mem_append, mem_flT (m := m)]
    constructor
    · rintro (⟨j, h, hx⟩ | hx)
      · exact ⟨j, by omega, hx⟩
      · exact ⟨m, by omega, hx⟩
    · rintro ⟨j, h, hx⟩
      by_cases e : j = m
      · subst e; exact Or.inr hx
      · exact Or.inl ⟨j, by omega, hx⟩
/-- In how many ways a row can be filled from column c on, j cells, with that colour to its left; col at its end. -/
def enW (b : BdW) (r col : Nat) : Nat → Nat → Int → Nat
  | 0, c, left => if left = (col : Int) then 1 else 0
  | j + 1, c, left => smT (fun k => if (b.may r c).testBit k = true ∧ (inW b r c k).l = left then enW b r col j (c + 1) (inW b r c k).r else 0) 16
/-- All that come of it. -/
def exW (b : BdW) (r col : Nat) : Nat → Nat → Int → LkW → List LkW
  | 0, c, left, l => if left = (col : Int) then [l] else []
  | j + 1, c, left, l => flT (fun k => if (b.may r c).testBit k = true ∧ (inW b r c k).l = left then exW b r col j (c + 1) (inW b r c k).r (l.put c (inW b r c k).u.toNat (inW b r c k).d.toNat) else []) 16
theorem ex_len (b : BdW) (r col : Nat) : ∀ (j c : Nat) (left : Int) (l : LkW), (exW b r col j c left l).length = enW b r col j c left
  | 0, c, left, l => by
    unfold exW enW
    split <;> rfl
  | j + 1, c, left, l => by
    unfold exW enW
    apply flT_len
    intro k _
    split
    · exact ex_len b r col j (c + 1) _ _
    · rfl
theorem en_le (b : BdW) (r col : Nat) : ∀ (j c : Nat) (left : Int), enW b r col j c left ≤ 16 ^ j
  | 0, c, left => by
    unfold enW
    split <;> simp
  | j + 1, c, left => by
    unfold enW
    rw [Nat.pow_succ, Nat.mul_comm]
    apply smT_le
    intro k _
    split
    · exact en_le b r col j (c + 1) _
    · exact Nat.zero_le _
theorem ex_nil {b : BdW} {r col j c : Nat} {left : Int} (l : LkW) (h : enW b r col j c left = 0) : exW b r col j c left l = [] := by
  apply List.eq_nil_of_length_eq_zero
  rw [ex_len, h]
/-- A row's way from column c on, j cells. -/
def ChW (b : BdW) (r col : Nat) (s : Nat → Nat) : Nat → Nat → Int → Prop
  | 0, c, left => left = (col : Int)
  | j + 1, c, left => (b.may r c).testBit (s c) = true ∧ (inW b r c (s c)).l = left ∧ ChW b r col s j (c + 1) (inW b r c (s c)).r
theorem ChW.ext {b : BdW} {r col : Nat} {s s' : Nat → Nat} : ∀ {j c : Nat} {left : Int}, (∀ i, c ≤ i → s i = s' i) → ChW b r col s j c left → ChW b r col s' j c left
  | 0, c, left, e, h => h
  | j + 1, c, left, e, h => by
    unfold ChW at h ⊢
    rw [← e c (Nat.le_refl _)]
    exact ⟨h.1, h.2.1, ChW.ext (fun i hi => e i (by omega)) h.2.2⟩
def lkS (b : BdW) (r : Nat) (s : Nat → Nat) : Nat → Nat → LkW → LkW
  | 0, c, l => l
  | j + 1, c, l => lkS b r s j (c + 1) (l.put c (inW b r c (s c)).u.toNat (inW b r c (s c)).d.toNat)
theorem lkS_ext {b : BdW} {r : Nat} {s s' : Nat → Nat} : ∀ {j c : Nat} {l : LkW}, (∀ i, c ≤ i → s i = s' i) → lkS b r s j c l = lkS b r s' j c l
  | 0, c, l, e => rfl
  | j + 1, c, l, e => by
    unfold lkS
    rw [← e c (Nat.le_refl _)]
    exact lkS_ext (fun i hi => e i (by omega))
theorem mem_ex {b : BdW} {r col : Nat} (hm : ∀ r c, b.may r c < 65536) {L : LkW} : ∀ {j c : Nat} {left : Int} {l : LkW}, L ∈ exW b r col j c left l ↔ ∃ s, ChW b r col s j c left ∧ L = lkS b r s j c l
  | 0, c, left, l => by
    unfold exW ChW lkS
    split
    · rename_i q
      simp [q]
    · rename_i q
      simp [q]
  | j + 1, c, left, l => by
    unfold exW
    rw [mem_flT]
    constructor
    · rintro ⟨k, _, h⟩
      split at h
      · rename_i q
        obtain ⟨s, h1, h2⟩ := mem_ex (j := j) hm |>.1 h
        have e : ∀ i, c + 1 ≤ i → s i = (if i = c then k else s i) := fun i hi => by rw [if_neg (by omega)]
        refine ⟨fun i => if i = c then k else s i, ?_, ?_⟩
        · unfold ChW
          simp only [if_true]
          exact ⟨q.1, q.2, h1.ext e⟩
        · unfold lkS
          simp only [if_true]
          rw [h2]
          exact lkS_ext e
      · cases h
    · rintro ⟨s, h1, h2⟩
      unfold ChW at h1
      unfold lkS at h2
      refine ⟨s c, bit_lt (hm r c) h1.1, ?_⟩
      rw [if_pos ⟨h1.1, h1.2.1⟩]
      exact (mem_ex (j := j) hm).2 ⟨s, h1.2.2, h2⟩
/-- A way, cell by cell. -/
theorem ChW.cells {b : BdW} {r col : Nat} {s : Nat → Nat} : ∀ {j c : Nat} {left : Int}, ChW b r col s (j + 1) c left → (∀ i, i ≤ j → (b.may r (c + i)).testBit (s (c + i)) = true) ∧ (∀ i, i < j → (inW b r (c + i) (s (c + i))).r = (inW b r (c + i + 1) (s (c + i + 1))).l) ∧ (inW b r c (s c)).l = left ∧ (inW b r (c + j) (s (c + j))).r = (col : Int)
  | 0, c, left, h => by
    unfold ChW at h
    exact ⟨fun i hi => by rw [show i = 0 by omega]; exact h.1, fun i hi => by omega, h.2.1, h.2.2⟩
  | j + 1, c, left, h => by
    unfold ChW at h
    obtain ⟨h1, h2, h3⟩ := h
    obtain ⟨g1, g2, g3, g4⟩ := ChW.cells (j := j) h3
    refine ⟨fun i hi => ?_, fun i hi => ?_, h2, ?_⟩
    · rcases i with _ | i
      · exact h1
      · have := g1 i (by omega)
        rw [show c + (i + 1) = c + 1 + i by omega]
        exact this
    · rcases i with _ | i
      · exact g3.symm
      · have := g2 i (by omega)
        rw [show c + (i + 1) = c + 1 + i by omega]
        exact this
    · rw [show c + (j + 1) = c + 1 + j by omega]
      exact g4
theorem ChW.of {b : BdW} {r col : Nat} {s : Nat → Nat} : ∀ {j c : Nat} {left : Int}, (∀ i, i ≤ j → (b.may r (c + i)).testBit (s (c + i)) = true) → (∀ i, i < j → (inW b r (c + i) (s (c + i))).r = (inW b r (c + i + 1) (s (c + i + 1))).l) → (inW b r c (s c)).l = left → (inW b r (c + j) (s (c + j))).r = (col : Int) → ChW b r col s (j + 1) c left
  | 0, c, left, h1, h2, h3, h4 => by
    unfold ChW
    exact ⟨h1 0 (by omega), h3, h4⟩
  | j + 1, c, left, h1, h2, h3, h4 => by
    unfold ChW
    refine ⟨h1 0 (by omega), h3, ChW.of (j := j) (fun i hi => ?_) (fun i hi => ?_) (h2 0 (by omega)).symm ?_⟩
    · have := h1 (i + 1) (by omega)
      rw [show c + 1 + i = c + (i + 1) by omega]
      exact this
    · have := h2 (i + 1) (by omega)
      rw [show c + 1 + i = c + (i + 1) by omega]
      exact this
    · rw [show c + 1 + j = c + (j + 1) by omega]
      exact h4
/-- What is seen of it. -/
theorem lkS_len {b : BdW} {r : Nat} {s : Nat → Nat} : ∀ {j c : Nat} {l : LkW}, (lkS b r s j c l).u.length = l.u.length ∧ (lkS b r s j c l).d.length = l.d.length
  | 0, c, l => ⟨rfl, rfl⟩
  | j + 1, c, l => by
    unfold lkS
    have := lkS_len (b := b) (r := r) (s := s) (j := j) (c := c + 1) (l := l.put c (inW b r c (s c)).u.toNat (inW b r c (s c)).d.toNat)
    rw [this.1, this.2]
    simp [LkW.put]
theorem lkS_at {b : BdW} {r : Nat} {s : Nat → Nat} {i : Nat} : ∀ {j c : Nat} {l : LkW}, i < l.u.length → i < l.d.length → (lkS b r s j c l).u.getD i 0 = (if c ≤ i ∧ i < c + j then (inW b r i (s i)).u.toNat else l.u.getD i 0) ∧ (lkS b r s j c l).d.getD i 0 = (if c ≤ i ∧ i < c + j then (inW b r i (s i)).d.toNat else l.d.getD i 0)
  | 0, c, l, h1, h2 => by
    have : ¬ (c ≤ i ∧ i < c + 0) := by omega
    rw [if_neg this, if_neg this]
    exact ⟨rfl, rfl⟩
  | j + 1, c, l, h1, h2 => by
    unfold lkS
    have g1 : i < (l.put c (inW b r c (s c)).u.toNat (inW b r c (s c)).d.toNat).u.length := by simp [LkW.put]; exact h1
    have g2 : i < (l.put c (inW b r c (s c)).u.toNat (inW b r c (s c)).d.toNat).d.length := by simp [LkW.put]; exact h2
    have := lkS_at (b := b) (r := r) (s := s) (j := j) (c := c + 1) g1 g2
    rw [this.1, this.2]
    by_cases e : i = c
    · subst e
      have n1 : ¬ (i + 1 ≤ i ∧ i < i + 1 + j) := by omega
      have p1 : i ≤ i ∧ i < i + (j + 1) := by omega
      rw [if_neg n1, if_neg n1, if_pos p1, if_pos p1]
      simp [LkW.put, List.getD, h1, h2]
    · have a1 : (l.put c (inW b r c (s c)).u.toNat (inW b r c (s c)).d.toNat).u.getD i 0 = l.u.getD i 0 := by simp [LkW.put, List.getD, List.getElem?_set, Ne.symm e]
      have a2 : (l.put c (inW b r c (s c)).u.toNat (inW b r c (s c)).d.toNat).d.getD i 0 = l.d.getD i 0 := by simp [LkW.put, List.getD, List.getElem?_set, Ne.symm e]
      rw [a1, a2]
      by_cases q : c + 1 ≤ i ∧ i < c + 1 + j
      · have p1 : c ≤ i ∧ i < c + (j + 1) := by omega
        rw [if_pos q, if_pos q, if_pos p1, if_pos p1]
        exact ⟨rfl, rfl⟩
      · have p1 : ¬ (c ≤ i ∧ i < c + (j + 1)) := by omega
        rw [if_neg q, if_neg q, if_neg p1, if_neg p1]
        exact ⟨rfl, rfl⟩
/-- All looks of a row. -/
def lkL (b : BdW) (r : Nat) : List LkW := flT (fun col => exW b r col b.W 0 (col : Int) lkZ) 8
def RowB (b : BdW) (r : Nat) (s : Nat → Nat) : Prop := ∀ c, c < b.W → (b.may r c).testBit (s c) = true ∧ (inW b r c (s c)).r = (inW b r ((c + 1) % b.W) (s ((c + 1) % b.W))).l
def sees (b : BdW) (r : Nat) (s : Nat → Nat) : LkW := lkS b r s b.W 0 lkZ
theorem mem_lkL {b : BdW} {r : Nat} (hb : BokW b) {L : LkW} : L ∈ lkL b r ↔ ∃ s, RowB b r s ∧ L = sees b r s := by
  unfold lkL
  rw [mem_flT]
  obtain ⟨W', hW⟩ : ∃ W', b.W = W' + 1 := ⟨b.W - 1, by have := hb.w1; omega⟩
  constructor
  · rintro ⟨col, hc, h⟩
    obtain ⟨s, h1, h2⟩ := (mem_ex hb.may).1 h
    rw [hW] at h1
    obtain ⟨g1, g2, g3, g4⟩ := h1.cells
    refine ⟨s, fun c hc => ?_, h2⟩
    refine ⟨by have := g1 c (by omega); rwa [Nat.zero_add] at this, ?_⟩
    rw [hW]
    by_cases e : c = W'
    · subst e
      rw [Nat.mod_self, g3]
      rw [Nat.zero_add] at g4
      exact g4
    · rw [Nat.mod_eq_of_lt (by omega)]
      have := g2 c (by omega)
      rwa [Nat.zero_add] at this
  · rintro ⟨s, h1, h2⟩
    have hl := (col_in hb.col r 0 (s 0)).2.2.2
    obtain ⟨col, hcol⟩ : ∃ col : Nat, (inW b r 0 (s 0)).l = (col : Int) := ⟨(inW b r 0 (s 0)).l.toNat, by omega⟩
    refine ⟨col, by omega, (mem_ex hb.may).2 ⟨s, ?_, h2⟩⟩
    rw [hW]
    refine ChW.of (fun i hi => ?_) (fun i hi => ?_) hcol ?_
    · rw [Nat.zero_add]
      exact (h1 i (by omega)).1
    · rw [Nat.zero_add]
      have := (h1 i (by omega)).2
      rwa [hW, Nat.mod_eq_of_lt (by omega)] at this
    · rw [Nat.zero_add]
      have := (h1 W' (by omega)).2
      rw [hW, Nat.mod_self] at this
      rw [this, hcol]
theorem lkL_len {b : BdW} (r : Nat) (h : b.W ≤ 5) : (lkL b r).length ≤ 8388608 := by
  unfold lkL
  rw [flT_len (g := fun col => enW b r col b.W 0 (col : Int)) (fun j _ => ex_len _ _ _ _ _ _ _)]
  have : smT (fun col => enW b r col b.W 0 (col : Int)) 8 ≤ 8 * 16 ^ b.W := smT_le (fun j _ => en_le _ _ _ _ _ _)
  have : 16 ^ b.W ≤ 16 ^ 5 := Nat.pow_le_pow_right (by omega) h
  omega
theorem sees_len (b : BdW) (r : Nat) (s : Nat → Nat) : (sees b r s).u.length = 5 ∧ (sees b r s).d.length = 5 := lkS_len
theorem sees_at {b : BdW} {r i : Nat} {s : Nat → Nat} (h : i < 5) : (sees b r s).u.getD i 0 = (if i < b.W then (inW b r i (s i)).u.toNat else 0) ∧ (sees b r s).d.getD i 0 = (if i < b.W then (inW b r i (s i)).d.toNat else 0) := by
  have := lkS_at (b := b) (r := r) (s := s) (i := i) (j := b.W) (c := 0) (l := lkZ) h h
  unfold sees
  rw [this.1, this.2, Nat.zero_add]
  have z1 : lkZ.u.getD i 0 = 0 := by
    match i, h with
    | 0, _ => rfl
    | 1, _ => rfl
    | 2, _ => rfl
    | 3, _ => rfl
    | 4, _ => rfl
  have z2 : lkZ.d.getD i 0 = 0 := z1
  rw [z1, z2]
  simp
theorem list5 {a b : List Nat} (ha : a.length = 5) (hb : b.length = 5) (h : ∀ i, i < 5 → a.getD i 0 = b.getD i 0) : a = b := by
  apply List.ext_getElem (by omega)
  intro i h1 h2
  have := h i (by omega)
  simpa [List.getD, h1, h2] using this
/-- A row goes on in the next one. -/
theorem sees_eq {b : BdW} (hb : BokW b) {r r' : Nat} {s s' : Nat → Nat} : (sees b r s).d = (sees b r' s').u ↔ ∀ c, c < b.W → (inW b r c (s c)).d = (inW b r' c (s' c)).u := by
  have w5 := hb.w5
  constructor
  · intro h c hc
    have e1 := (sees_at (b := b) (r := r) (s := s) (show c < 5 by omega)).2
    have e2 := (sees_at (b := b) (r := r') (s := s') (show c < 5 by omega)).1
    rw [h, e2, if_pos hc, if_pos hc] at e1
    have := (col_in hb.col r c (s c)).2.2.1
    have := (col_in hb.col r' c (s' c)).1
    omega
  · intro h
    refine list5 (sees_len ..).2 (sees_len ..).1 fun i hi => ?_
    rw [(sees_at hi).2, (sees_at hi).1]
    split
    · rename_i q
      rw [h i q]
    · rfl
end Go.Proofs.YthmeapplnocfjaaDoor

namespace Go.Proofs.YthmeapplnocfjaaDoor
set_option linter.unusedVariables false
set_option linter.unusedSimpArgs false
/-- The upper sides of looks, each once, in their order. -/
def nmS (acc : List (List Nat)) (x : List Nat) : List (List Nat) := if acc.contains x = true then acc else acc ++ [x]
def nmL : List (List Nat) → List LkW → List (List Nat)
  | acc, [] => acc
  | acc, l :: ls => nmL (nmS acc l.u) ls
theorem mem_nmS {acc : List (List Nat)} {x y : List Nat} : y ∈ nmS acc x ↔ y ∈ acc ∨ y = x := by
  unfold nmS
  split
  · rename_i q
    rw [List.contains_iff_mem] at q
    constructor
    · exact Or.inl
    · rintro (h | rfl)
      · exact h
      · exact q
  · simp
theorem mem_nmL {y : List Nat} : ∀ {ls : List LkW} {acc : List (List Nat)}, y ∈ nmL acc ls ↔ y ∈ acc ∨ ∃ l, l ∈ ls ∧ l.u = y
  | [], acc => by simp [nmL]
  | l :: ls, acc => by
    rw [nmL, mem_nmL (ls := ls), mem_nmS]
    constructor
    · rintro ((h | rfl) | ⟨q, h, e⟩)
      · exact Or.inl h
      · exact Or.inr ⟨l, List.mem_cons_self, rfl⟩
      · exact Or.inr ⟨q, List.mem_cons_of_mem _ h, e⟩
    · rintro (h | ⟨q, h, e⟩)
      · exact Or.inl (Or.inl h)
      · rcases List.mem_cons.1 h with rfl | h
        · exact Or.inl (Or.inr e.symm)
        · exact Or.inr ⟨q, h, e⟩
theorem nmL_len : ∀ {ls : List LkW} {acc : List (List Nat)}, (nmL acc ls).length ≤ acc.length + ls.length
  | [], acc => by simp [nmL]
  | l :: ls, acc => by
    have := nmL_len (ls := ls) (acc := nmS acc l.u)
    have : (nmS acc l.u).length ≤ acc.length + 1 := by unfold nmS; split <;> simp
    rw [nmL, List.length_cons]
    omega
theorem nmL_snoc : ∀ {ls : List LkW} {acc : List (List Nat)} {l : LkW}, nmL acc (ls ++ [l]) = nmS (nmL acc ls) l.u
  | [], acc, l => rfl
  | q :: ls, acc, l => nmL_snoc (ls := ls)
/-- A side's number. -/
def noS (acc : List (List Nat)) (x : List Nat) : Nat := acc.idxOf x
theorem noS_lt {acc : List (List Nat)} {x : List Nat} (h : x ∈ acc) : noS acc x < acc.length := List.idxOf_lt_length_of_mem h
theorem noS_inj {acc : List (List Nat)} {x y : List Nat} (hx : x ∈ acc) (hy : y ∈ acc) (e : noS acc x = noS acc y) : x = y := by
  have h1 := List.getElem_idxOf (noS_lt hx)
  have h2 := List.getElem_idxOf (noS_lt hy)
  rw [← h1, ← h2]
  congr 1
/-- The steps of a row. -/
def ldS (here next : List (List Nat)) (l : LkW) : List (Nat × Nat) := if next.contains l.d = true then [(noS here l.u, noS next l.d)] else []
def ldL (here next : List (List Nat)) : List LkW → List (Nat × Nat)
  | [] => []
  | l :: ls => ldS here next l ++ ldL here next ls
theorem ldL_snoc (here next : List (List Nat)) (l : LkW) : ∀ ls : List LkW, ldL here next (ls ++ [l]) = ldL here next ls ++ ldS here next l
  | [] => by simp [ldL]
  | q :: ls => by rw [List.cons_append, ldL, ldL, ldL_snoc here next l ls, List.append_assoc]
theorem ldS_len (here next : List (List Nat)) (l : LkW) : (ldS here next l).length ≤ 1 := by unfold ldS; split <;> simp
theorem ldL_len (here next : List (List Nat)) : ∀ ls : List LkW, (ldL here next ls).length ≤ ls.length
  | [] => by simp [ldL]
  | l :: ls => by
    have := ldL_len here next ls
    have := ldS_len here next l
    rw [ldL, List.length_append, List.length_cons]
    omega
theorem mem_ldL {here next : List (List Nat)} {p : Nat × Nat} : ∀ {ls : List LkW}, p ∈ ldL here next ls ↔ ∃ l, l ∈ ls ∧ l.d ∈ next ∧ p = (noS here l.u, noS next l.d)
  | [] => by simp [ldL]
  | l :: ls => by
    rw [ldL, List.mem_append, mem_ldL (ls := ls)]
    unfold ldS
    constructor
    · rintro (h | ⟨q, h, e⟩)
      · split at h
        · rename_i q
          rw [List.contains_iff_mem] at q
          rw [List.mem_singleton] at h
          exact ⟨l, List.mem_cons_self, q, h⟩
        · cases h
      · exact ⟨q, List.mem_cons_of_mem _ h, e⟩
    · rintro ⟨q, h, h1, e⟩
      rcases List.mem_cons.1 h with rfl | h
      · refine Or.inl ?_
        rw [if_pos (List.contains_iff_mem.2 h1), List.mem_singleton]
        exact e
      · exact Or.inr ⟨q, h, h1, e⟩
/-- Ways through the rows. -/
def PtW (st : Nat → List (Nat × Nat)) : Nat → Nat → Nat → Prop
  | 0, i, j => i = j
  | r + 1, i, j => ∃ m, PtW st r i m ∧ (m, j) ∈ st r
theorem PtW.all {st : Nat → List (Nat × Nat)} : ∀ {n i j : Nat}, PtW st n i j → ∃ m : Nat → Nat, m 0 = i ∧ m n = j ∧ ∀ r, r < n → (m r, m (r + 1)) ∈ st r
  | 0, i, j, h => ⟨fun _ => i, rfl, h, fun r hr => by omega⟩
  | n + 1, i, j, ⟨q, h, hq⟩ => by
    obtain ⟨m, h0, h1, h2⟩ := PtW.all h
    refine ⟨fun r => if r = n + 1 then j else m r, by simp [h0], by simp, fun r hr => ?_⟩
    have e1 : (if r = n + 1 then j else m r) = m r := if_neg (by omega)
    show ((if r = n + 1 then j else m r), (if r + 1 = n + 1 then j else m (r + 1))) ∈ st r
    rw [e1]
    by_cases e : r = n
    · subst e
      rw [if_pos rfl, h1]
      exact hq
    · rw [if_neg (by omega)]
      exact h2 r (by omega)
def sdL (b : BdW) (r : Nat) : List (List Nat) := nmL [] (lkL b r)
def stL (b : BdW) (r : Nat) : List (Nat × Nat) := ldL (sdL b r) (sdL b ((r + 1) % b.H)) (lkL b r)
theorem up_mem {b : BdW} {r : Nat} {L : LkW} (h : L ∈ lkL b r) : L.u ∈ sdL b r := mem_nmL.2 (Or.inr ⟨L, h, rfl⟩)
/-- All cells can be filled just where a way leads round. -/
theorem open_iff {b : BdW} (hb : BokW b) : OpB b ↔ ∃ i, i < (sdL b 0).length ∧ PtW (stL b) b.H i i := by
  have h1 := hb.h1
  constructor
  · rintro ⟨S, hm, hf⟩
    have row : ∀ r, r < b.H → sees b r (S r) ∈ lkL b r := fun r hr => (mem_lkL hb).2 ⟨S r, fun c hc => ⟨hm r c hr hc, (hf r c hr hc).1⟩, rfl⟩
    have nxt : ∀ r, r < b.H → (sees b r (S r)).d = (sees b ((r + 1) % b.H) (S ((r + 1) % b.H))).u := fun r hr => (sees_eq hb).2 fun c hc => (hf r c hr hc).2
    refine ⟨noS (sdL b 0) (sees b 0 (S 0)).u, noS_lt (up_mem (row 0 h1)), ?_⟩
    have key : ∀ r, r ≤ b.H → PtW (stL b) r (noS (sdL b 0) (sees b 0 (S 0)).u) (noS (sdL b (r % b.H)) (sees b (r % b.H) (S (r % b.H))).u) := by
      intro r
      induction r with
      | zero => intro _; rw [Nat.zero_mod]; exact rfl
      | succ r ih =>
        intro hr
        refine ⟨_, ih (by omega), ?_⟩
        rw [Nat.mod_eq_of_lt (show r < b.H by omega)]
        have lt : (r + 1) % b.H < b.H := Nat.mod_lt _ h1
        refine mem_ldL.2 ⟨sees b r (S r), row r (by omega), ?_, ?_⟩
        · rw [nxt r (by omega)]
          exact up_mem (row _ lt)
        · rw [nxt r (by omega)]
    have := key b.H (Nat.le_refl _)
    rwa [Nat.mod_self] at this
  · rintro ⟨i, _, h⟩
    obtain ⟨m, m0, mH, hs⟩ := h.all
    have ex : ∀ r, ∃ L : LkW, r < b.H → L ∈ lkL b r ∧ L.d ∈ sdL b ((r + 1) % b.H) ∧ m r = noS (sdL b r) L.u ∧ m (r + 1) = noS (sdL b ((r + 1) % b.H)) L.d := fun r => by
      by_cases hr : r < b.H
      · obtain ⟨L, a1, a2, a3⟩ := mem_ldL.1 (hs r hr)
        have e := Prod.mk.inj a3
        exact ⟨L, fun _ => ⟨a1, a2, e.1, e.2⟩⟩
      · exact ⟨lkZ, fun h => absurd h hr⟩
    have ex2 : ∀ r, ∃ s : Nat → Nat, r < b.H → RowB b r s ∧ (sees b r s).d ∈ sdL b ((r + 1) % b.H) ∧ m r = noS (sdL b r) (sees b r s).u ∧ m (r + 1) = noS (sdL b ((r + 1) % b.H)) (sees b r s).d := fun r => by
      obtain ⟨L, hL⟩ := ex r
      by_cases hr : r < b.H
      · obtain ⟨a1, a2, a3, a4⟩ := hL hr
        obtain ⟨s, b1, rfl⟩ := (mem_lkL hb).1 a1
        exact ⟨s, fun _ => ⟨b1, a2, a3, a4⟩⟩
      · exact ⟨fun _ => 0, fun h => absurd h hr⟩
    let S : Nat → Nat → Nat := fun r => Classical.choose (ex2 r)
    have hS : ∀ r, r < b.H → RowB b r (S r) ∧ (sees b r (S r)).d ∈ sdL b ((r + 1) % b.H) ∧ m r = noS (sdL b r) (sees b r (S r)).u ∧ m (r + 1) = noS (sdL b ((r + 1) % b.H)) (sees b r (S r)).d := fun r => Classical.choose_spec (ex2 r)
    refine ⟨S, fun r c hr hc => ((hS r hr).1 c hc).1, fun r c hr hc => ⟨((hS r hr).1 c hc).2, ?_⟩⟩
    have lt : (r + 1) % b.H < b.H := Nat.mod_lt _ h1
    refine (sees_eq hb).1 ?_ c hc
    obtain ⟨_, q2, _, q4⟩ := hS r hr
    obtain ⟨p1, _, p3, _⟩ := hS _ lt
    refine noS_inj q2 (up_mem ((mem_lkL hb).2 ⟨_, p1, rfl⟩)) ?_
    rw [← q4, ← p3]
    by_cases e : r + 1 = b.H
    · rw [e, Nat.mod_self, mH, m0]
    · rw [Nat.mod_eq_of_lt (by omega)]
end Go.Proofs.YthmeapplnocfjaaDoor

