/-
  What the last text of this claim leans on, part 3: Sp5, Sp6, Sp7, Sp8.
-/
import Derived.Test.YtopcgkncmhhkmaaDoorZc2
namespace Go.Proofs.YtopcgkncmhhkmaaDoor
set_option linter.unusedVariables false
/-- How many of the first k. -/
def cntD (f : Nat → Bool) : Nat → Nat
  | 0 => 0
  | k + 1 => cntD f k + if f k = true then 1 else 0
theorem cnt_le (f : Nat → Bool) : ∀ k, cntD f k ≤ k
  | 0 => Nat.le_refl _
  | k + 1 => by
    have := cnt_le f k
    rw [cntD]
    split <;> omega
theorem cnt_mono {f g : Nat → Bool} : ∀ {k : Nat}, (∀ j, j < k → f j = true → g j = true) → cntD f k ≤ cntD g k
  | 0, _ => Nat.le_refl _
  | k + 1, h => by
    have a := cnt_mono (k := k) (fun j hj => h j (by omega))
    have b := h k (by omega)
    rw [cntD, cntD]
    by_cases q : f k = true
    · rw [if_pos q, if_pos (b q)]; omega
    · rw [if_neg q]; omega
theorem cnt_lt {f g : Nat → Bool} : ∀ {k : Nat}, (∀ j, j < k → f j = true → g j = true) → (∃ j, j < k ∧ g j = true ∧ f j = false) → cntD f k < cntD g k
  | 0, _, h => by obtain ⟨j, hj, _⟩ := h; omega
  | k + 1, h, hx => by
    obtain ⟨j, hj, h1, h2⟩ := hx
    have a := cnt_mono (k := k) (fun j hj => h j (by omega))
    have b := h k (by omega)
    rw [cntD, cntD]
    by_cases e : j = k
    · subst e
      rw [if_pos h1, if_neg (by simp [h2])]; omega
    · have c := cnt_lt (k := k) (fun j hj => h j (by omega)) ⟨j, by omega, h1, h2⟩
      by_cases q : f k = true
      · rw [if_pos q, if_pos (b q)]; omega
      · rw [if_neg q]; omega
theorem nb_self (W : Nat) (cor : Bool) (i : Nat) : nbD W cor i i = true := by simp [nbD]
theorem wet_in {W N : Nat} {cor : Bool} {st inS : Nat → Bool} : ∀ {t i : Nat}, wetS W N cor st inS t i = true → inS i = true
  | 0, i, h => by rw [wetS, Bool.and_eq_true] at h; exact h.2
  | t + 1, i, h => by rw [wetS, Bool.and_eq_true] at h; exact h.1
theorem wet_up {W N : Nat} {cor : Bool} {st inS : Nat → Bool} {t i : Nat} (hi : i < N) (h : wetS W N cor st inS t i = true) : wetS W N cor st inS (t + 1) i = true := by
  rw [wetS, Bool.and_eq_true, any_iff]
  exact ⟨wet_in h, i, hi, by rw [nb_self, h]; rfl⟩
theorem wet_le {W N : Nat} {cor : Bool} {st inS : Nat → Bool} {i : Nat} (hi : i < N) : ∀ {t u : Nat}, t ≤ u → wetS W N cor st inS t i = true → wetS W N cor st inS u i = true
  | t, 0, h, hw => by rw [show t = 0 by omega] at hw; exact hw
  | t, u + 1, h, hw => by
    by_cases e : t = u + 1
    · rw [← e]; exact hw
    · exact wet_up hi (wet_le hi (by omega) hw)
theorem wet_step {W N : Nat} {cor : Bool} {st inS : Nat → Bool} {t : Nat} (h : ∀ i, i < N → wetS W N cor st inS (t + 1) i = wetS W N cor st inS t i) : ∀ i, i < N → wetS W N cor st inS (t + 1 + 1) i = wetS W N cor st inS (t + 1) i := by
  intro i hi
  rw [wetS, wetS]
  congr 1
  refine any_ext fun j hj => ?_
  rw [h j hj]
/-- Behind N steps nobody new is wet. -/
theorem wet_end (W N : Nat) (cor : Bool) (st inS : Nat → Bool) : ∀ i, i < N → wetS W N cor st inS (N + 1) i = wetS W N cor st inS N i := by
  have key : ∀ t, (∀ i, i < N → wetS W N cor st inS (t + 1) i = wetS W N cor st inS t i) ∨ t + 1 ≤ cntD (wetS W N cor st inS (t + 1)) N := by
    intro t
    induction t with
    | zero =>
      by_cases q : ∀ i, i < N → wetS W N cor st inS (0 + 1) i = wetS W N cor st inS 0 i
      · exact Or.inl q
      · refine Or.inr ?_
        have ⟨i, hi⟩ := Classical.not_forall.1 q
        have ⟨hi, hne⟩ := Classical.not_imp.1 hi
        have := cnt_lt (f := wetS W N cor st inS 0) (g := wetS W N cor st inS (0 + 1)) (k := N) (fun j hj h => wet_up hj h) ⟨i, hi, by
          cases h0 : wetS W N cor st inS 0 i with
          | true => exact absurd (by rw [h0, wet_up hi h0]) hne
          | false => cases h1 : wetS W N cor st inS (0 + 1) i with
            | true => exact ⟨rfl, rfl⟩
            | false => exact absurd (by rw [h0, h1]) hne⟩
        omega
    | succ t ih =>
      rcases ih with ih | ih
      · exact Or.inl (wet_step ih)
      · by_cases q : ∀ i, i < N → wetS W N cor st inS (t + 1 + 1) i = wetS W N cor st inS (t + 1) i
        · exact Or.inl q
        · refine Or.inr ?_
          have ⟨i, hi⟩ := Classical.not_forall.1 q
          have ⟨hi, hne⟩ := Classical.not_imp.1 hi
          have := cnt_lt (f := wetS W N cor st inS (t + 1)) (g := wetS W N cor st inS (t + 1 + 1)) (k := N) (fun j hj h => wet_up hj h) ⟨i, hi, by
            cases h0 : wetS W N cor st inS (t + 1) i with
            | true => exact absurd (by rw [h0, wet_up hi h0]) hne
            | false => cases h1 : wetS W N cor st inS (t + 1 + 1) i with
              | true => exact ⟨rfl, rfl⟩
              | false => exact absurd (by rw [h0, h1]) hne⟩
          omega
  rcases key N with h | h
  · exact h
  · have := cnt_le (wetS W N cor st inS (N + 1)) N
    omega
theorem wet_stay (W N : Nat) (cor : Bool) (st inS : Nat → Bool) : ∀ (d i : Nat), i < N → wetS W N cor st inS (N + d) i = wetS W N cor st inS N i := by
  have h : ∀ d i, i < N → wetS W N cor st inS (N + d + 1) i = wetS W N cor st inS (N + d) i := by
    intro d
    induction d with
    | zero => exact wet_end W N cor st inS
    | succ d ih => exact wet_step ih
  intro d
  induction d with
  | zero => intro i _; rfl
  | succ d ih => intro i hi; rw [← Nat.add_assoc, h d i hi, ih i hi]
theorem wet_all {W N : Nat} {cor : Bool} {st inS : Nat → Bool} {t i : Nat} (hi : i < N) (h : wetS W N cor st inS t i = true) : wetS W N cor st inS N i = true := by
  by_cases q : t ≤ N
  · exact wet_le hi q h
  · rw [← wet_stay W N cor st inS (t - N) i hi, show N + (t - N) = t by omega]
    exact h
/-- A search: who is listed was come to; the first so many are done with: all their neighbours of the set are listed. -/
structure SrcL (W N : Nat) (cor : Bool) (st inS : Nat → Bool) (l : List Nat) (d : Nat) : Prop where
  lt : ∀ i, i ∈ l → i < N
  wet : ∀ i, i ∈ l → ∃ t, wetS W N cor st inS t i = true
  first : ∀ i, i < N → st i = true → inS i = true → i ∈ l
  done : ∀ k, k < d → ∀ i j, l[k]? = some j → i < N → inS i = true → nbD W cor i j = true → i ∈ l
/-- A neighbour is listed. -/
theorem SrcL.add {W N : Nat} {cor : Bool} {st inS : Nat → Bool} {l : List Nat} {d i j : Nat} (h : SrcL W N cor st inS l d) (hd : d ≤ l.length) (hi : i < N) (hs : inS i = true) (hj : j ∈ l) (hn : nbD W cor i j = true) : SrcL W N cor st inS (l ++ [i]) d := by
  refine ⟨fun k hk => ?_, fun k hk => ?_, fun k h1 h2 h3 => List.mem_append_left _ (h.first k h1 h2 h3), fun k hk a b hb h1 h2 h3 => List.mem_append_left _ (h.done k hk a b ?_ h1 h2 h3)⟩
  · rcases List.mem_append.1 hk with hk | hk
    · exact h.lt k hk
    · rw [List.mem_singleton.1 hk]; exact hi
  · rcases List.mem_append.1 hk with hk | hk
    · exact h.wet k hk
    · rw [List.mem_singleton.1 hk]
      obtain ⟨t, ht⟩ := h.wet j hj
      refine ⟨t + 1, ?_⟩
      rw [wetS, Bool.and_eq_true, any_iff]
      exact ⟨hs, j, h.lt j hj, by rw [hn, ht]; rfl⟩
  · rw [List.getElem?_append_left (by omega)] at hb; exact hb
/-- One more is done with. -/
theorem SrcL.next {W N : Nat} {cor : Bool} {st inS : Nat → Bool} {l : List Nat} {d j : Nat} (h : SrcL W N cor st inS l d) (hj : l[d]? = some j) (hn : ∀ i, i < N → inS i = true → nbD W cor i j = true → i ∈ l) : SrcL W N cor st inS l (d + 1) := by
  refine ⟨h.lt, h.wet, h.first, fun k hk a b hb h1 h2 h3 => ?_⟩
  by_cases e : k = d
  · subst e
    rw [hj] at hb
    exact hn a h1 h2 (by rw [Option.some.inj hb]; exact h3)
  · exact h.done k (by omega) a b hb h1 h2 h3
/-- All are done with: the list is who is wet behind N steps. -/
theorem SrcL.over {W N : Nat} {cor : Bool} {st inS : Nat → Bool} {l : List Nat} {d : Nat} (h : SrcL W N cor st inS l d) (hd : l.length ≤ d) : ∀ i, i < N → (wetS W N cor st inS N i = true ↔ i ∈ l) := by
  have all : ∀ t i, i < N → wetS W N cor st inS t i = true → i ∈ l := by
    intro t
    induction t with
    | zero =>
      intro i hi hw
      rw [wetS, Bool.and_eq_true] at hw
      exact h.first i hi hw.1 hw.2
    | succ t ih =>
      intro i hi hw
      have hs := wet_in hw
      rw [wetS, Bool.and_eq_true, any_iff] at hw
      obtain ⟨_, j, hj, hb⟩ := hw
      rw [Bool.and_eq_true] at hb
      obtain ⟨k, hk⟩ := List.mem_iff_getElem?.1 (ih j hj hb.2)
      have hlt : k < l.length := (List.getElem?_eq_some_iff.1 hk).1
      exact h.done k (by omega) i j hk hi hs hb.1
  intro i hi
  exact ⟨all N i hi, fun hm => by obtain ⟨t, ht⟩ := h.wet i hm; exact wet_all hi ht⟩
/-- One that is listed is wet, whatever is still to do. -/
theorem SrcL.is {W N : Nat} {cor : Bool} {st inS : Nat → Bool} {l : List Nat} {d i : Nat} (h : SrcL W N cor st inS l d) (hm : i ∈ l) : wetS W N cor st inS N i = true := by
  obtain ⟨t, ht⟩ := h.wet i hm
  exact wet_all (h.lt i hm) ht
end Go.Proofs.YtopcgkncmhhkmaaDoor

namespace Go.Proofs.YtopcgkncmhhkmaaDoor
set_option linter.unusedVariables false
theorem cnt_not (f : Nat → Bool) : ∀ k, cntD f k + cntD (fun j => !f j) k = k
  | 0 => rfl
  | k + 1 => by
    have := cnt_not f k
    rw [cntD, cntD]
    cases h : f k with
    | true => simp; omega
    | false => simp; omega
theorem cnt_ext {f g : Nat → Bool} : ∀ {k : Nat}, (∀ j, j < k → f j = g j) → cntD f k = cntD g k
  | 0, _ => rfl
  | k + 1, h => by rw [cntD, cntD, cnt_ext (fun j hj => h j (by omega)), h k (by omega)]
/-- What is sent to different places is not more than there are places. -/
theorem cnt_inj {p : Nat → Nat} {n : Nat} (f : Nat → Bool) (hl : ∀ i, i < n → p i < n) (hi : ∀ i j, i < n → j < n → p i = p j → i = j) : ∀ m, m ≤ n → cntD (fun i => f (p i)) m ≤ cntD (fun j => f j && anyD (fun i => p i == j) m) n
  | 0, _ => Nat.zero_le _
  | m + 1, hm => by
    have ih := cnt_inj f hl hi m (by omega)
    rw [cntD]
    have up : ∀ j, j < n → (f j && anyD (fun i => p i == j) m) = true → (f j && anyD (fun i => p i == j) (m + 1)) = true := by
      intro j _ h
      rw [Bool.and_eq_true] at h ⊢
      refine ⟨h.1, ?_⟩
      rw [anyD, h.2]; rfl
    by_cases q : f (p m) = true
    · rw [if_pos q]
      have := cnt_lt (f := fun j => f j && anyD (fun i => p i == j) m) (g := fun j => f j && anyD (fun i => p i == j) (m + 1)) (k := n) up ⟨p m, hl m (by omega), by
        refine ⟨?_, ?_⟩
        · show (f (p m) && anyD (fun i => p i == p m) (m + 1)) = true
          rw [q, anyD]; simp
        · show (f (p m) && anyD (fun i => p i == p m) m) = false
          rw [q, Bool.true_and]
          cases h : anyD (fun i => p i == p m) m with
          | false => rfl
          | true =>
            obtain ⟨j, hj, he⟩ := any_iff.1 h
            have := hi j m (by omega) (by omega) (eq_of_beq he)
            omega⟩
      omega
    · rw [if_neg q]
      have := cnt_mono (f := fun j => f j && anyD (fun i => p i == j) m) (g := fun j => f j && anyD (fun i => p i == j) (m + 1)) (k := n) up
      omega
/-- Counted in another order, as many. -/
theorem cnt_perm {p : Nat → Nat} {n : Nat} (f : Nat → Bool) (hl : ∀ i, i < n → p i < n) (hi : ∀ i j, i < n → j < n → p i = p j → i = j) : cntD (fun i => f (p i)) n = cntD f n := by
  have a : ∀ g : Nat → Bool, cntD (fun i => g (p i)) n ≤ cntD g n := fun g => Nat.le_trans (cnt_inj g hl hi n (Nat.le_refl _)) (cnt_mono fun j _ h => (Bool.and_eq_true _ _ ▸ h).1)
  have h1 := a f
  have h2 := a fun j => !f j
  have h3 := cnt_not f n
  have h4 := cnt_not (fun i => f (p i)) n
  omega
theorem cnt_add (f : Nat → Bool) (m : Nat) : ∀ k, cntD f (m + k) = cntD f m + cntD (fun j => f (m + j)) k
  | 0 => rfl
  | k + 1 => by
    rw [← Nat.add_assoc, cntD, cntD, cnt_add f m k, Nat.add_assoc]
theorem cnt_and (f g : Nat → Bool) : ∀ k, cntD (fun j => f j && g j) k + cntD (fun j => f j && !g j) k = cntD f k
  | 0 => rfl
  | k + 1 => by
    have := cnt_and f g k
    rw [cntD, cntD, cntD]
    cases h : f k <;> cases h2 : g k <;> simp <;> omega
/-- How many cells a set holds, of the first k. -/
def popD (s k : Nat) : Nat := cntD (fun i => decide (s / 2 ^ i % 2 = 1)) k
theorem bit_low {n s : Nat} (hs : s < 2 ^ n) : s / 2 ^ n % 2 = 0 := by rw [Nat.div_eq_of_lt hs]
theorem bit_high {n j : Nat} (hj : j < 2 ^ n) : (2 ^ n + j) / 2 ^ n % 2 = 1 := by
  have h : 0 < 2 ^ n := Nat.pow_pos (by decide)
  rw [Nat.add_comm, Nat.add_div_right _ h, Nat.div_eq_of_lt hj]
theorem bit_rest {n j i : Nat} (hi : i < n) : (2 ^ n + j) / 2 ^ i % 2 = j / 2 ^ i % 2 := by
  have h : 0 < 2 ^ i := Nat.pow_pos (by decide)
  obtain ⟨e, he⟩ : ∃ e, n = i + 1 + e := ⟨n - (i + 1), by omega⟩
  subst he
  rw [show 2 ^ (i + 1 + e) = 2 ^ i * (2 * 2 ^ e) by rw [Nat.pow_add, Nat.pow_succ, Nat.mul_assoc], Nat.mul_add_div h, Nat.mul_add_mod]
theorem cnt_none : ∀ k, cntD (fun _ => false) k = 0
  | 0 => rfl
  | k + 1 => by rw [cntD, cnt_none k]; rfl
end Go.Proofs.YtopcgkncmhhkmaaDoor

namespace Go.Proofs.YtopcgkncmhhkmaaDoor
set_option linter.unusedVariables false
/-- A set leads down, on a board so wide and so high. -/
def leaC (W H : Nat) (cor : Bool) (s : Nat) : Bool := anyD (fun i => decide (i / W = H - 1) && wetS W (W * H) cor (fun i => decide (i / W = 0)) (fun i => decide (s / 2 ^ i % 2 = 1)) (W * H) i) (W * H)
/-- The number of a set. -/
def mkS (b : Nat → Bool) : Nat → Nat
  | 0 => 0
  | n + 1 => mkS b n + if b n = true then 2 ^ n else 0
theorem mkS_lt (b : Nat → Bool) : ∀ n, mkS b n < 2 ^ n
  | 0 => Nat.zero_lt_one
  | n + 1 => by
    have := mkS_lt b n
    rw [mkS, Nat.pow_succ]
    split <;> omega
theorem mkS_bit (b : Nat → Bool) : ∀ n i, i < n → decide (mkS b n / 2 ^ i % 2 = 1) = b i
  | 0, i, h => by omega
  | n + 1, i, h => by
    rw [mkS]
    by_cases e : i = n
    · subst e
      cases hb : b i with
      | true => rw [if_pos rfl, Nat.add_comm, bit_high (mkS_lt b i)]; rfl
      | false => rw [if_neg (by decide), Nat.add_zero, bit_low (mkS_lt b i)]; rfl
    · have ih := mkS_bit b n i (by omega)
      split
      · rw [Nat.add_comm, bit_rest (by omega)]; exact ih
      · exact ih
theorem bits_same : ∀ {n a b : Nat}, a < 2 ^ n → b < 2 ^ n → (∀ i, i < n → decide (a / 2 ^ i % 2 = 1) = decide (b / 2 ^ i % 2 = 1)) → a = b := by
  intro n a b ha hb h
  refine Nat.eq_of_testBit_eq fun i => ?_
  by_cases q : i < n
  · rw [Nat.testBit_eq_decide_div_mod_eq, Nat.testBit_eq_decide_div_mod_eq]
    exact h i q
  · rw [Nat.testBit_lt_two_pow (Nat.lt_of_lt_of_le ha (Nat.pow_le_pow_right (by decide) (by omega))), Nat.testBit_lt_two_pow (Nat.lt_of_lt_of_le hb (Nat.pow_le_pow_right (by decide) (by omega)))]
/-- Rows for columns: which cell of the board so wide and so high lies at i of the board that stands. -/
def sgD (W H i : Nat) : Nat := i % H * W + i / H
theorem sg_lt {W H i : Nat} (hH : 0 < H) (hi : i < W * H) : sgD W H i < W * H := by
  have h1 : i / H < W := Nat.div_lt_of_lt_mul (by rw [Nat.mul_comm]; exact hi)
  have h2 : i % H < H := Nat.mod_lt _ hH
  unfold sgD
  have h3 : (i % H + 1) * W ≤ H * W := Nat.mul_le_mul_right _ h2
  rw [Nat.succ_mul] at h3
  rw [Nat.mul_comm W H]
  omega
theorem sg_mod {W H i : Nat} (hi : i < W * H) : sgD W H i % W = i / H := by
  have h1 : i / H < W := Nat.div_lt_of_lt_mul (by rw [Nat.mul_comm]; exact hi)
  unfold sgD
  rw [Nat.mul_comm, Nat.mul_add_mod, Nat.mod_eq_of_lt h1]
theorem sg_div {W H i : Nat} (hi : i < W * H) : sgD W H i / W = i % H := by
  have h1 : i / H < W := Nat.div_lt_of_lt_mul (by rw [Nat.mul_comm]; exact hi)
  unfold sgD
  rw [Nat.mul_comm, Nat.mul_add_div (Nat.lt_of_le_of_lt (Nat.zero_le _) h1), Nat.div_eq_of_lt h1, Nat.add_zero]
theorem sg_back {W H i : Nat} (hi : i < W * H) : sgD H W (sgD W H i) = i := by
  show sgD W H i % W * H + sgD W H i / W = i
  rw [sg_mod hi, sg_div hi, Nat.mul_comm]
  exact Nat.div_add_mod i H
theorem sg_inj {W H i j : Nat} (hi : i < W * H) (hj : j < W * H) (h : sgD W H i = sgD W H j) : i = j := by
  rw [← sg_back hi, h, sg_back hj]
/-- How many sets of i cells lead. -/
def croN (W H : Nat) (cor : Bool) (i : Nat) : Nat := cntD (fun s => popD s (W * H) == i && leaC W H cor s) (2 ^ (W * H))
end Go.Proofs.YtopcgkncmhhkmaaDoor

namespace Go.Proofs.YtopcgkncmhhkmaaDoor
set_option linter.unusedVariables false
/-- Is cell i in the set. -/
def bitD (s i : Nat) : Bool := decide (s / 2 ^ i % 2 = 1)
/-- Unlike pairs of a board with no rings: side by side; one above the other. -/
def fhD (W s i : Nat) : Bool := decide (i % W + 1 < W) && (bitD s i != bitD s (i + 1))
def fvD (W H s i : Nat) : Bool := decide (i / W + 1 < H) && (bitD s i != bitD s (i + W))
def frU (W H s : Nat) : Nat := cntD (fhD W s) (W * H) + cntD (fvD W H s) (W * H)
/-- With rings. -/
def ehD (W s i : Nat) : Bool := bitD s i != bitD s (i / W * W + (i % W + 1) % W)
def evD (W H s i : Nat) : Bool := bitD s i != bitD s ((i / W + 1) % H * W + i % W)
def enU (W H s : Nat) : Nat := cntD (ehD W s) (W * H) + cntD (evD W H s) (W * H)
/-- How many ways have k unlike pairs. -/
def wayN (U : Nat → Nat) (N k : Nat) : Nat := cntD (fun s => U s == k) (2 ^ N)
/-- A set on the board that stands. -/
def trD (W H s : Nat) : Nat := mkS (fun i => bitD s (sgD W H i)) (W * H)
theorem tr_bit {W H s i : Nat} (hi : i < W * H) : bitD (trD W H s) i = bitD s (sgD W H i) := mkS_bit _ _ i hi
theorem tr_lt (W H s : Nat) : trD W H s < 2 ^ (W * H) := mkS_lt _ _
theorem tr_inj {W H : Nat} (hW : 0 < W) {s u : Nat} (hs : s < 2 ^ (W * H)) (hu : u < 2 ^ (W * H)) (h : trD W H s = trD W H u) : s = u := by
  refine bits_same hs hu fun i hi => ?_
  have hi' : i < H * W := by rw [Nat.mul_comm]; exact hi
  have hk : sgD H W i < W * H := by rw [Nat.mul_comm W H]; exact sg_lt hW hi'
  have a := tr_bit (s := s) hk
  rw [h, tr_bit hk, sg_back hi'] at a
  exact a.symm
theorem cell_mod {W x y : Nat} (hx : x < W) : (y * W + x) % W = x := by rw [Nat.mul_comm, Nat.mul_add_mod, Nat.mod_eq_of_lt hx]
theorem cell_div {W x y : Nat} (hx : x < W) : (y * W + x) / W = y := by rw [Nat.mul_comm, Nat.mul_add_div (Nat.lt_of_le_of_lt (Nat.zero_le _) hx), Nat.div_eq_of_lt hx, Nat.add_zero]
theorem cell_lt {W H x y : Nat} (hx : x < W) (hy : y < H) : y * W + x < W * H := by
  have h3 : (y + 1) * W ≤ H * W := Nat.mul_le_mul_right _ hy
  rw [Nat.succ_mul] at h3
  rw [Nat.mul_comm W H]
  omega
theorem cell_is (W i : Nat) : i / W * W + i % W = i := by rw [Nat.mul_comm]; exact Nat.div_add_mod i W
theorem sg_cell {W H x y : Nat} (hy : y < H) : sgD W H (x * H + y) = y * W + x := by
  unfold sgD
  rw [cell_mod hy, cell_div hy]
theorem div_ltD {W H i : Nat} (hi : i < W * H) : i / W < H := Nat.div_lt_of_lt_mul hi
theorem fr_tr {W H : Nat} (hW : 0 < W) (hH : 0 < H) (s : Nat) : frU H W (trD W H s) = frU W H s := by
  unfold frU
  rw [Nat.mul_comm H W, Nat.add_comm]
  congr 1
  · rw [← cnt_perm (p := sgD W H) (fhD W s) (fun i hi => sg_lt hH hi) (fun i j hi hj => sg_inj hi hj)]
    refine cnt_ext fun i hi => ?_
    unfold fhD fvD
    rw [sg_mod hi, tr_bit hi]
    by_cases q : i / H + 1 < W
    · have e : i + H = (i / H + 1) * H + i % H := by rw [Nat.succ_mul]; have := cell_is H i; omega
      have hy : i % H < H := Nat.mod_lt _ hH
      have hl : i + H < W * H := by rw [e, Nat.mul_comm W H]; exact cell_lt hy q
      rw [tr_bit hl, e, sg_cell hy]
      rfl
    · simp [q]
  · rw [← cnt_perm (p := sgD W H) (fvD W H s) (fun i hi => sg_lt hH hi) (fun i j hi hj => sg_inj hi hj)]
    refine cnt_ext fun i hi => ?_
    unfold fhD fvD
    rw [sg_div hi, tr_bit hi]
    by_cases q : i % H + 1 < H
    · have hx : i / H < W := div_ltD (by rw [Nat.mul_comm]; exact hi)
      have e : i + 1 = i / H * H + (i % H + 1) := by have := cell_is H i; omega
      have hl : i + 1 < W * H := by rw [e, Nat.mul_comm W H]; exact cell_lt q hx
      rw [tr_bit hl, e, sg_cell q, show sgD W H i + W = (i % H + 1) * W + i / H by unfold sgD; rw [Nat.succ_mul]; omega]
    · simp [q]
theorem en_tr {W H : Nat} (hW : 0 < W) (hH : 0 < H) (s : Nat) : enU H W (trD W H s) = enU W H s := by
  unfold enU
  rw [Nat.mul_comm H W, Nat.add_comm]
  congr 1
  · rw [← cnt_perm (p := sgD W H) (ehD W s) (fun i hi => sg_lt hH hi) (fun i j hi hj => sg_inj hi hj)]
    refine cnt_ext fun i hi => ?_
    unfold ehD evD
    have hy : i % H < H := Nat.mod_lt _ hH
    have hl : (i / H + 1) % W * H + i % H < W * H := by rw [Nat.mul_comm W H]; exact cell_lt hy (Nat.mod_lt _ hW)
    rw [sg_mod hi, sg_div hi, tr_bit hi, tr_bit hl, sg_cell hy]
  · rw [← cnt_perm (p := sgD W H) (evD W H s) (fun i hi => sg_lt hH hi) (fun i j hi hj => sg_inj hi hj)]
    refine cnt_ext fun i hi => ?_
    unfold ehD evD
    have hx : i / H < W := div_ltD (by rw [Nat.mul_comm]; exact hi)
    have hl : i / H * H + (i % H + 1) % H < W * H := by rw [Nat.mul_comm W H]; exact cell_lt (Nat.mod_lt _ hH) hx
    rw [sg_mod hi, sg_div hi, tr_bit hi, tr_bit hl, sg_cell (Nat.mod_lt _ hH)]
theorem way_tr {U V : Nat → Nat} {W H : Nat} (hW : 0 < W) (h : ∀ s, V (trD W H s) = U s) (k : Nat) : wayN V (H * W) k = wayN U (W * H) k := by
  unfold wayN
  rw [Nat.mul_comm H W, ← cnt_perm (p := trD W H) (fun s => V s == k) (fun s _ => tr_lt W H s) (fun s u hs hu => tr_inj hW hs hu)]
  exact cnt_ext fun s _ => by rw [h]
/-- LYING OR STANDING MAKES NO DIFFERENCE. -/
theorem fr_lies {W H : Nat} (hW : 0 < W) (hH : 0 < H) (k : Nat) : wayN (frU H W) (H * W) k = wayN (frU W H) (W * H) k := way_tr hW (fr_tr hW hH) k
theorem en_lies {W H : Nat} (hW : 0 < W) (hH : 0 < H) (k : Nat) : wayN (enU H W) (H * W) k = wayN (enU W H) (W * H) k := way_tr hW (en_tr hW hH) k
/-- All counts together are all ways. -/
def sumN (f : Nat → Nat) : Nat → Nat
  | 0 => 0
  | k + 1 => sumN f k + f k
end Go.Proofs.YtopcgkncmhhkmaaDoor

