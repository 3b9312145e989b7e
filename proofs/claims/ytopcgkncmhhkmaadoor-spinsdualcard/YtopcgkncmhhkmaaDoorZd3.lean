/-
  What the last text of this claim leans on, part 3: Sp6, Sp7, Sp8.
-/
import Derived.Test.YtopcgkncmhhkmaaDoorZd2
namespace Go.Proofs.YtopcgkncmhhkmaaDoor
set_option linter.unusedVariables false
theorem cnt_not (f : Nat → Bool) : ∀ k, cntD f k + cntD (fun j => !f j) k = k
  | 0 => rfl
  | k + 1 => by
    have := cnt_not f k
    rw [cntD, cntD]
    cases h : f k with
    | true => simp; omega
    | false => simp; omega
theorem cnt_ext {f g : Nat → Bool} : ∀ {k : Nat}, (∀ j, j < k → f j = g j) → cntD f k = cntD g k
  | 0, _ => rfl
  | k + 1, h => by rw [cntD, cntD, cnt_ext (fun j hj => h j (by omega)), h k (by omega)]
/-- What is sent to different places is not more than there are places. -/
theorem cnt_inj {p : Nat → Nat} {n : Nat} (f : Nat → Bool) (hl : ∀ i, i < n → p i < n) (hi : ∀ i j, i < n → j < n → p i = p j → i = j) : ∀ m, m ≤ n → cntD (fun i => f (p i)) m ≤ cntD (fun j => f j && anyD (fun i => p i == j) m) n
  | 0, _ => Nat.zero_le _
  | m + 1, hm => by
    have ih := cnt_inj f hl hi m (by omega)
    rw [cntD]
    have up : ∀ j, j < n → (f j && anyD (fun i => p i == j) m) = true → (f j && anyD (fun i => p i == j) (m + 1)) = true := by
      intro j _ h
      rw [Bool.and_eq_true] at h ⊢
      refine ⟨h.1, ?_⟩
      rw [anyD, h.2]; rfl
    by_cases q : f (p m) = true
    · rw [if_pos q]
      have := cnt_lt (f := fun j => f j && anyD (fun i => p i == j) m) (g := fun j => f j && anyD (fun i => p i == j) (m + 1)) (k := n) up ⟨p m, hl m (by omega), by
        refine ⟨?_, ?_⟩
        · show (f (p m) && anyD (fun i => p i == p m) (m + 1)) = true
          rw [q, anyD]; simp
        · show (f (p m) && anyD (fun i => p i == p m) m) = false
          rw [q, Bool.true_and]
          cases h : anyD (fun i => p i == p m) m with
          | false => rfl
          | true =>
            obtain ⟨j, hj, he⟩ := any_iff.1 h
            have := hi j m (by omega) (by omega) (eq_of_beq he)
            omega⟩
      omega
    · rw [if_neg q]
      have := cnt_mono (f := fun j => f j && anyD (fun i => p i == j) m) (g := fun j => f j && anyD (fun i => p i == j) (m + 1)) (k := n) up
      omega
/-- Counted in another order, as many. -/
theorem cnt_perm {p : Nat → Nat} {n : Nat} (f : Nat → Bool) (hl : ∀ i, i < n → p i < n) (hi : ∀ i j, i < n → j < n → p i = p j → i = j) : cntD (fun i => f (p i)) n = cntD f n := by
  have a : ∀ g : Nat → Bool, cntD (fun i => g (p i)) n ≤ cntD g n := fun g => Nat.le_trans (cnt_inj g hl hi n (Nat.le_refl _)) (cnt_mono fun j _ h => (Bool.and_eq_true _ _ ▸ h).1)
  have h1 := a f
  have h2 := a fun j => !f j
  have h3 := cnt_not f n
  have h4 := cnt_not (fun i => f (p i)) n
  omega
theorem cnt_add (f : Nat → Bool) (m : Nat) : ∀ k, cntD f (m + k) = cntD f m + cntD (fun j => f (m + j)) k
  | 0 => rfl
  | k + 1 => by
    rw [← Nat.add_assoc, cntD, cntD, cnt_add f m k, Nat.add_assoc]
theorem cnt_and (f g : Nat → Bool) : ∀ k, cntD (fun j => f j && g j) k + cntD (fun j => f j && !g j) k = cntD f k
  | 0 => rfl
  | k + 1 => by
    have := cnt_and f g k
    rw [cntD, cntD, cntD]
    cases h : f k <;> cases h2 : g k <;> simp <;> omega
/-- How many cells a set holds, of the first k. -/
def popD (s k : Nat) : Nat := cntD (fun i => decide (s / 2 ^ i % 2 = 1)) k
/-- So many of so many. -/
def binD : Nat → Nat → Nat
  | _, 0 => 1
  | 0, _ + 1 => 0
  | n + 1, k + 1 => binD n k + binD n (k + 1)
theorem bit_low {n s : Nat} (hs : s < 2 ^ n) : s / 2 ^ n % 2 = 0 := by rw [Nat.div_eq_of_lt hs]
theorem bit_high {n j : Nat} (hj : j < 2 ^ n) : (2 ^ n + j) / 2 ^ n % 2 = 1 := by
  have h : 0 < 2 ^ n := Nat.pow_pos (by decide)
  rw [Nat.add_comm, Nat.add_div_right _ h, Nat.div_eq_of_lt hj]
theorem bit_rest {n j i : Nat} (hi : i < n) : (2 ^ n + j) / 2 ^ i % 2 = j / 2 ^ i % 2 := by
  have h : 0 < 2 ^ i := Nat.pow_pos (by decide)
  obtain ⟨e, he⟩ : ∃ e, n = i + 1 + e := ⟨n - (i + 1), by omega⟩
  subst he
  rw [show 2 ^ (i + 1 + e) = 2 ^ i * (2 * 2 ^ e) by rw [Nat.pow_add, Nat.pow_succ, Nat.mul_assoc], Nat.mul_add_div h, Nat.mul_add_mod]
theorem pop_low {n s : Nat} (hs : s < 2 ^ n) : popD s (n + 1) = popD s n := by
  unfold popD
  rw [cntD, bit_low hs]; simp
theorem pop_high {n j : Nat} (hj : j < 2 ^ n) : popD (2 ^ n + j) (n + 1) = popD j n + 1 := by
  unfold popD
  rw [cntD, bit_high hj, cnt_ext (g := fun i => decide (j / 2 ^ i % 2 = 1)) (fun i hi => by rw [bit_rest hi])]; simp
theorem cnt_none : ∀ k, cntD (fun _ => false) k = 0
  | 0 => rfl
  | k + 1 => by rw [cntD, cnt_none k]; rfl
/-- How many sets of k of n cells. -/
theorem cnt_pop : ∀ n k, cntD (fun s => popD s n == k) (2 ^ n) = binD n k
  | 0, 0 => by decide
  | 0, k + 1 => by simp [cntD, popD, binD]
  | n + 1, 0 => by
    rw [Nat.pow_succ, Nat.mul_two, cnt_add, cnt_ext (g := fun s => popD s n == 0) (fun j hj => by rw [pop_low hj]), cnt_pop n 0,
      cnt_ext (g := fun _ => false) (fun j hj => by rw [pop_high hj]; simp), cnt_none]
    cases n <;> rfl
  | n + 1, k + 1 => by
    rw [Nat.pow_succ, Nat.mul_two, cnt_add, cnt_ext (g := fun s => popD s n == k + 1) (fun j hj => by rw [pop_low hj]), cnt_pop n (k + 1),
      cnt_ext (k := 2 ^ n) (f := fun j => popD (2 ^ n + j) (n + 1) == k + 1) (g := fun s => popD s n == k) (fun j hj => by rw [pop_high hj]; rw [Bool.eq_iff_iff]; simp), cnt_pop n k, binD]
    omega
def allB : Bool := (List.range 17).all fun k => (List.range (k + 1)).all fun i => binD k i * (k - i) / (i + 1) == binD k (i + 1)
theorem all_b : allB = true := by decide +kernel
/-- The next one from the last. -/
theorem bin_next {k i : Nat} (hk : k ≤ 16) (hi : i ≤ k) : binD k i * (k - i) / (i + 1) = binD k (i + 1) := by
  have a := List.all_eq_true.1 all_b k (List.mem_range.2 (by omega))
  have b := List.all_eq_true.1 a i (List.mem_range.2 (by omega))
  exact eq_of_beq b
end Go.Proofs.YtopcgkncmhhkmaaDoor

namespace Go.Proofs.YtopcgkncmhhkmaaDoor
set_option linter.unusedVariables false
/-- A set leads down, on a board so wide and so high. -/
def leaC (W H : Nat) (cor : Bool) (s : Nat) : Bool := anyD (fun i => decide (i / W = H - 1) && wetS W (W * H) cor (fun i => decide (i / W = 0)) (fun i => decide (s / 2 ^ i % 2 = 1)) (W * H) i) (W * H)
/-- The number of a set. -/
def mkS (b : Nat → Bool) : Nat → Nat
  | 0 => 0
  | n + 1 => mkS b n + if b n = true then 2 ^ n else 0
theorem mkS_lt (b : Nat → Bool) : ∀ n, mkS b n < 2 ^ n
  | 0 => Nat.zero_lt_one
  | n + 1 => by
    have := mkS_lt b n
    rw [mkS, Nat.pow_succ]
    split <;> omega
theorem mkS_bit (b : Nat → Bool) : ∀ n i, i < n → decide (mkS b n / 2 ^ i % 2 = 1) = b i
  | 0, i, h => by omega
  | n + 1, i, h => by
    rw [mkS]
    by_cases e : i = n
    · subst e
      cases hb : b i with
      | true => rw [if_pos rfl, Nat.add_comm, bit_high (mkS_lt b i)]; rfl
      | false => rw [if_neg (by decide), Nat.add_zero, bit_low (mkS_lt b i)]; rfl
    · have ih := mkS_bit b n i (by omega)
      split
      · rw [Nat.add_comm, bit_rest (by omega)]; exact ih
      · exact ih
theorem bits_same : ∀ {n a b : Nat}, a < 2 ^ n → b < 2 ^ n → (∀ i, i < n → decide (a / 2 ^ i % 2 = 1) = decide (b / 2 ^ i % 2 = 1)) → a = b := by
  intro n a b ha hb h
  refine Nat.eq_of_testBit_eq fun i => ?_
  by_cases q : i < n
  · rw [Nat.testBit_eq_decide_div_mod_eq, Nat.testBit_eq_decide_div_mod_eq]
    exact h i q
  · rw [Nat.testBit_lt_two_pow (Nat.lt_of_lt_of_le ha (Nat.pow_le_pow_right (by decide) (by omega))), Nat.testBit_lt_two_pow (Nat.lt_of_lt_of_le hb (Nat.pow_le_pow_right (by decide) (by omega)))]
/-- Rows for columns: which cell of the board so wide and so high lies at i of the board that stands. -/
def sgD (W H i : Nat) : Nat := i % H * W + i / H
theorem sg_lt {W H i : Nat} (hH : 0 < H) (hi : i < W * H) : sgD W H i < W * H := by
  have h1 : i / H < W := Nat.div_lt_of_lt_mul (by rw [Nat.mul_comm]; exact hi)
  have h2 : i % H < H := Nat.mod_lt _ hH
  unfold sgD
  have h3 : (i % H + 1) * W ≤ H * W := Nat.mul_le_mul_right _ h2
  rw [Nat.succ_mul] at h3
  rw [Nat.mul_comm W H]
  omega
theorem sg_mod {W H i : Nat} (hi : i < W * H) : sgD W H i % W = i / H := by
  have h1 : i / H < W := Nat.div_lt_of_lt_mul (by rw [Nat.mul_comm]; exact hi)
  unfold sgD
  rw [Nat.mul_comm, Nat.mul_add_mod, Nat.mod_eq_of_lt h1]
theorem sg_div {W H i : Nat} (hi : i < W * H) : sgD W H i / W = i % H := by
  have h1 : i / H < W := Nat.div_lt_of_lt_mul (by rw [Nat.mul_comm]; exact hi)
  unfold sgD
  rw [Nat.mul_comm, Nat.mul_add_div (Nat.lt_of_le_of_lt (Nat.zero_le _) h1), Nat.div_eq_of_lt h1, Nat.add_zero]
theorem sg_back {W H i : Nat} (hi : i < W * H) : sgD H W (sgD W H i) = i := by
  show sgD W H i % W * H + sgD W H i / W = i
  rw [sg_mod hi, sg_div hi, Nat.mul_comm]
  exact Nat.div_add_mod i H
theorem sg_inj {W H i j : Nat} (hi : i < W * H) (hj : j < W * H) (h : sgD W H i = sgD W H j) : i = j := by
  rw [← sg_back hi, h, sg_back hj]
theorem any_sg {W H : Nat} (hW : 0 < W) (hH : 0 < H) (f : Nat → Bool) : anyD (fun i => f (sgD W H i)) (W * H) = anyD f (W * H) := by
  rw [Bool.eq_iff_iff, any_iff, any_iff]
  constructor
  · rintro ⟨j, hj, h⟩
    exact ⟨_, sg_lt hH hj, h⟩
  · rintro ⟨j, hj, h⟩
    have hj' : j < H * W := by rw [Nat.mul_comm]; exact hj
    refine ⟨sgD H W j, by rw [Nat.mul_comm W H]; exact sg_lt hW hj', ?_⟩
    rw [sg_back hj']
    exact h
theorem nb_sg {W H a b : Nat} (ha : a < W * H) (hb : b < W * H) : nbD W true (sgD W H a) (sgD W H b) = nbD H true a b := by
  unfold nbD
  rw [sg_mod ha, sg_mod hb, sg_div ha, sg_div hb]
  simp only [Bool.true_or, Bool.and_true]
  generalize decide (a / H ≤ b / H + 1) = p
  generalize decide (b / H ≤ a / H + 1) = q
  generalize decide (a % H ≤ b % H + 1) = r
  generalize decide (b % H ≤ a % H + 1) = u
  cases p <;> cases q <;> cases r <;> cases u <;> rfl
/-- The rest of a set, on the board that stands. -/
def rsD (W H s : Nat) : Nat := mkS (fun i => !decide (s / 2 ^ sgD W H i % 2 = 1)) (W * H)
theorem wet_sg {W H : Nat} (hW : 0 < W) (hH : 0 < H) {s : Nat} : ∀ t i, i < W * H → wetS H (W * H) true (fun i => decide (i / H = 0)) (fun i => decide (rsD W H s / 2 ^ i % 2 = 1)) t i = wetS W (W * H) true (fun i => decide (i % W = 0)) (fun i => !decide (s / 2 ^ i % 2 = 1)) t (sgD W H i)
  | 0, i, hi => by
    rw [wetS, wetS, sg_mod hi]
    congr 1
    exact mkS_bit _ _ i hi
  | t + 1, i, hi => by
    rw [wetS, wetS]
    congr 1
    · exact mkS_bit _ _ i hi
    · refine Eq.trans (any_ext fun j hj => ?_) (any_sg hW hH fun j => nbD W true (sgD W H i) j && wetS W (W * H) true (fun i => decide (i % W = 0)) (fun i => !decide (s / 2 ^ i % 2 = 1)) t j)
      rw [wet_sg hW hH t j hj, nb_sg hi hj]
theorem lea_rs {W H : Nat} (hW : 0 < W) (hH : 0 < H) (s : Nat) : leaC H W true (rsD W H s) = acrS W H s := by
  unfold leaC acrS
  rw [Nat.mul_comm H W, ← any_sg hW hH (fun i => decide (i % W = W - 1) && _)]
  refine any_ext fun j hj => ?_
  rw [wet_sg hW hH (W * H) j hj, sg_mod hj]
theorem rs_lt (W H s : Nat) : rsD W H s < 2 ^ (W * H) := mkS_lt _ _
theorem rs_inj {W H : Nat} (hW : 0 < W) (hH : 0 < H) {s u : Nat} (hs : s < 2 ^ (W * H)) (hu : u < 2 ^ (W * H)) (h : rsD W H s = rsD W H u) : s = u := by
  refine bits_same hs hu fun i hi => ?_
  have hi' : i < H * W := by rw [Nat.mul_comm]; exact hi
  have hk : sgD H W i < W * H := by rw [Nat.mul_comm W H]; exact sg_lt hW hi'
  have a := mkS_bit (fun i => !decide (s / 2 ^ sgD W H i % 2 = 1)) (W * H) _ hk
  have b := mkS_bit (fun i => !decide (u / 2 ^ sgD W H i % 2 = 1)) (W * H) _ hk
  have e : mkS (fun i => !decide (s / 2 ^ sgD W H i % 2 = 1)) (W * H) = mkS (fun i => !decide (u / 2 ^ sgD W H i % 2 = 1)) (W * H) := h
  rw [e, b] at a
  simp only [sg_back hi'] at a
  cases h1 : decide (s / 2 ^ i % 2 = 1) <;> cases h2 : decide (u / 2 ^ i % 2 = 1) <;> simp_all
theorem pop_rs {W H : Nat} (hH : 0 < H) (s : Nat) : popD (rsD W H s) (W * H) + popD s (W * H) = W * H := by
  unfold popD
  rw [cnt_ext (f := fun i => decide (rsD W H s / 2 ^ i % 2 = 1)) (g := fun i => !decide (s / 2 ^ sgD W H i % 2 = 1)) (fun i hi => mkS_bit _ _ i hi)]
  rw [cnt_perm (p := sgD W H) (fun i => !decide (s / 2 ^ i % 2 = 1)) (fun i hi => sg_lt hH hi) (fun i j hi hj => sg_inj hi hj), Nat.add_comm]
  exact cnt_not _ _
/-- How many sets of i cells lead. -/
def croN (W H : Nat) (cor : Bool) (i : Nat) : Nat := cntD (fun s => popD s (W * H) == i && leaC W H cor s) (2 ^ (W * H))
/-- WHAT DOES NOT LEAD DOWN LETS OTHERS LEAD ACROSS: counted. -/
theorem dual_count {W H i : Nat} (h1 : 1 ≤ W) (h2 : W ≤ 6) (h3 : 1 ≤ H) (h4 : H ≤ 6) (hN : W * H ≤ 16) (hi : i ≤ W * H) : croN W H false i + croN H W true (W * H - i) = binD (W * H) i := by
  have e : croN H W true (W * H - i) = cntD (fun s => popD s (W * H) == i && !leaC W H false s) (2 ^ (W * H)) := by
    unfold croN
    rw [Nat.mul_comm H W, ← cnt_perm (p := rsD W H) (n := 2 ^ (W * H)) (fun s => popD s (W * H) == W * H - i && leaC H W true s) (fun s _ => rs_lt W H s) (fun s u hs hu => rs_inj h1 h3 hs hu)]
    refine cnt_ext fun s hs => ?_
    rw [lea_rs h1 h3]
    have hd : leaC W H false s = !acrS W H s := dual_at h1 h2 h3 h4 hN hs
    rw [hd, Bool.not_not]
    congr 1
    have := pop_rs (W := W) h3 s
    rw [Bool.eq_iff_iff, beq_iff_eq, beq_iff_eq]
    omega
  rw [e]
  exact (cnt_and (fun s => popD s (W * H) == i) (leaC W H false) _).trans (cnt_pop _ _)
end Go.Proofs.YtopcgkncmhhkmaaDoor

namespace Go.Proofs.YtopcgkncmhhkmaaDoor
set_option linter.unusedVariables false
/-- Is cell i in the set. -/
def bitD (s i : Nat) : Bool := decide (s / 2 ^ i % 2 = 1)
/-- Unlike pairs of a board with no rings: side by side; one above the other. -/
def fhD (W s i : Nat) : Bool := decide (i % W + 1 < W) && (bitD s i != bitD s (i + 1))
def fvD (W H s i : Nat) : Bool := decide (i / W + 1 < H) && (bitD s i != bitD s (i + W))
def frU (W H s : Nat) : Nat := cntD (fhD W s) (W * H) + cntD (fvD W H s) (W * H)
/-- With rings. -/
def ehD (W s i : Nat) : Bool := bitD s i != bitD s (i / W * W + (i % W + 1) % W)
def evD (W H s i : Nat) : Bool := bitD s i != bitD s ((i / W + 1) % H * W + i % W)
def enU (W H s : Nat) : Nat := cntD (ehD W s) (W * H) + cntD (evD W H s) (W * H)
/-- How many ways have k unlike pairs. -/
def wayN (U : Nat → Nat) (N k : Nat) : Nat := cntD (fun s => U s == k) (2 ^ N)
/-- A set on the board that stands. -/
def trD (W H s : Nat) : Nat := mkS (fun i => bitD s (sgD W H i)) (W * H)
theorem tr_bit {W H s i : Nat} (hi : i < W * H) : bitD (trD W H s) i = bitD s (sgD W H i) := mkS_bit _ _ i hi
theorem tr_lt (W H s : Nat) : trD W H s < 2 ^ (W * H) := mkS_lt _ _
theorem tr_inj {W H : Nat} (hW : 0 < W) {s u : Nat} (hs : s < 2 ^ (W * H)) (hu : u < 2 ^ (W * H)) (h : trD W H s = trD W H u) : s = u := by
  refine bits_same hs hu fun i hi => ?_
  have hi' : i < H * W := by rw [Nat.mul_comm]; exact hi
  have hk : sgD H W i < W * H := by rw [Nat.mul_comm W H]; exact sg_lt hW hi'
  have a := tr_bit (s := s) hk
  rw [h, tr_bit hk, sg_back hi'] at a
  exact a.symm
theorem cell_mod {W x y : Nat} (hx : x < W) : (y * W + x) % W = x := by rw [Nat.mul_comm, Nat.mul_add_mod, Nat.mod_eq_of_lt hx]
theorem cell_div {W x y : Nat} (hx : x < W) : (y * W + x) / W = y := by rw [Nat.mul_comm, Nat.mul_add_div (Nat.lt_of_le_of_lt (Nat.zero_le _) hx), Nat.div_eq_of_lt hx, Nat.add_zero]
theorem cell_lt {W H x y : Nat} (hx : x < W) (hy : y < H) : y * W + x < W * H := by
  have h3 : (y + 1) * W ≤ H * W := Nat.mul_le_mul_right _ hy
  rw [Nat.succ_mul] at h3
  rw [Nat.mul_comm W H]
  omega
theorem cell_is (W i : Nat) : i / W * W + i % W = i := by rw [Nat.mul_comm]; exact Nat.div_add_mod i W
theorem sg_cell {W H x y : Nat} (hy : y < H) : sgD W H (x * H + y) = y * W + x := by
  unfold sgD
  rw [cell_mod hy, cell_div hy]
theorem div_ltD {W H i : Nat} (hi : i < W * H) : i / W < H := Nat.div_lt_of_lt_mul hi
theorem fr_tr {W H : Nat} (hW : 0 < W) (hH : 0 < H) (s : Nat) : frU H W (trD W H s) = frU W H s := by
  unfold frU
  rw [Nat.mul_comm H W, Nat.add_comm]
  congr 1
  · rw [← cnt_perm (p := sgD W H) (fhD W s) (fun i hi => sg_lt hH hi) (fun i j hi hj => sg_inj hi hj)]
    refine cnt_ext fun i hi => ?_
    unfold fhD fvD
    rw [sg_mod hi, tr_bit hi]
    by_cases q : i / H + 1 < W
    · have e : i + H = (i / H + 1) * H + i % H := by rw [Nat.succ_mul]; have := cell_is H i; omega
      have hy : i % H < H := Nat.mod_lt _ hH
      have hl : i + H < W * H := by rw [e, Nat.mul_comm W H]; exact cell_lt hy q
      rw [tr_bit hl, e, sg_cell hy]
      rfl
    · simp [q]
  · rw [← cnt_perm (p := sgD W H) (fvD W H s) (fun i hi => sg_lt hH hi) (fun i j hi hj => sg_inj hi hj)]
    refine cnt_ext fun i hi => ?_
    unfold fhD fvD
    rw [sg_div hi, tr_bit hi]
    by_cases q : i % H + 1 < H
    · have hx : i / H < W := div_ltD (by rw [Nat.mul_comm]; exact hi)
      have e : i + 1 = i / H * H + (i % H + 1) := by have := cell_is H i; omega
      have hl : i + 1 < W * H := by rw [e, Nat.mul_comm W H]; exact cell_lt q hx
      rw [tr_bit hl, e, sg_cell q, show sgD W H i + W = (i % H + 1) * W + i / H by unfold sgD; rw [Nat.succ_mul]; omega]
    · simp [q]
theorem en_tr {W H : Nat} (hW : 0 < W) (hH : 0 < H) (s : Nat) : enU H W (trD W H s) = enU W H s := by
  unfold enU
  rw [Nat.mul_comm H W, Nat.add_comm]
  congr 1
  · rw [← cnt_perm (p := sgD W H) (ehD W s) (fun i hi => sg_lt hH hi) (fun i j hi hj => sg_inj hi hj)]
    refine cnt_ext fun i hi => ?_
    unfold ehD evD
    have hy : i % H < H := Nat.mod_lt _ hH
    have hl : (i / H + 1) % W * H + i % H < W * H := by rw [Nat.mul_comm W H]; exact cell_lt hy (Nat.mod_lt _ hW)
    rw [sg_mod hi, sg_div hi, tr_bit hi, tr_bit hl, sg_cell hy]
  · rw [← cnt_perm (p := sgD W H) (evD W H s) (fun i hi => sg_lt hH hi) (fun i j hi hj => sg_inj hi hj)]
    refine cnt_ext fun i hi => ?_
    unfold ehD evD
    have hx : i / H < W := div_ltD (by rw [Nat.mul_comm]; exact hi)
    have hl : i / H * H + (i % H + 1) % H < W * H := by rw [Nat.mul_comm W H]; exact cell_lt (Nat.mod_lt _ hH) hx
    rw [sg_mod hi, sg_div hi, tr_bit hi, tr_bit hl, sg_cell (Nat.mod_lt _ hH)]
theorem way_tr {U V : Nat → Nat} {W H : Nat} (hW : 0 < W) (h : ∀ s, V (trD W H s) = U s) (k : Nat) : wayN V (H * W) k = wayN U (W * H) k := by
  unfold wayN
  rw [Nat.mul_comm H W, ← cnt_perm (p := trD W H) (fun s => V s == k) (fun s _ => tr_lt W H s) (fun s u hs hu => tr_inj hW hs hu)]
  exact cnt_ext fun s _ => by rw [h]
/-- LYING OR STANDING MAKES NO DIFFERENCE. -/
theorem fr_lies {W H : Nat} (hW : 0 < W) (hH : 0 < H) (k : Nat) : wayN (frU H W) (H * W) k = wayN (frU W H) (W * H) k := way_tr hW (fr_tr hW hH) k
theorem en_lies {W H : Nat} (hW : 0 < W) (hH : 0 < H) (k : Nat) : wayN (enU H W) (H * W) k = wayN (enU W H) (W * H) k := way_tr hW (en_tr hW hH) k
/-- All counts together are all ways. -/
def sumN (f : Nat → Nat) : Nat → Nat
  | 0 => 0
  | k + 1 => sumN f k + f k
theorem sum_cnt (U : Nat → Nat) (n : Nat) : ∀ K, sumN (fun k => cntD (fun s => U s == k) n) K = cntD (fun s => decide (U s < K)) n
  | 0 => by
    rw [sumN, cnt_ext (g := fun _ => false) (fun j _ => by simp), cnt_none]
  | K + 1 => by
    rw [sumN, sum_cnt U n K]
    have a := cnt_and (fun s => decide (U s < K + 1)) (fun s => decide (U s < K)) n
    rw [← a, cnt_ext (f := fun s => decide (U s < K + 1) && decide (U s < K)) (g := fun s => decide (U s < K)) (fun j _ => by rw [Bool.eq_iff_iff]; simp; omega),
      cnt_ext (f := fun s => decide (U s < K + 1) && !decide (U s < K)) (g := fun s => U s == K) (fun j _ => by rw [Bool.eq_iff_iff]; simp; omega)]
theorem cnt_full : ∀ n, cntD (fun _ => true) n = n
  | 0 => rfl
  | n + 1 => by rw [cntD, cnt_full n]; rfl
theorem way_sum {U : Nat → Nat} {N K : Nat} (h : ∀ s, U s ≤ K) : sumN (wayN U N) (K + 1) = 2 ^ N := by
  show sumN (fun k => cntD (fun s => U s == k) (2 ^ N)) (K + 1) = _
  rw [sum_cnt, cnt_ext (g := fun _ => true) (fun s _ => by have := h s; simp; omega), cnt_full]
/-- As many have few unlike pairs as have many: where some way to turn sets about turns each pair about. -/
theorem way_turn {U : Nat → Nat} {p : Nat → Nat} {N K k : Nat} (hl : ∀ s, s < 2 ^ N → p s < 2 ^ N) (hi : ∀ s u, s < 2 ^ N → u < 2 ^ N → p s = p u → s = u) (h : ∀ s, U (p s) + U s = K) (hk : k ≤ K) : wayN U N (K - k) = wayN U N k := by
  unfold wayN
  rw [← cnt_perm (p := p) (fun s => U s == K - k) hl hi]
  refine cnt_ext fun s _ => ?_
  have := h s
  rw [Bool.eq_iff_iff, beq_iff_eq, beq_iff_eq]
  omega
end Go.Proofs.YtopcgkncmhhkmaaDoor

