/-
  What the last text of this claim leans on, part 2: Sp3, Sp4, Sp5.
-/
import Derived.Test.YtopcgkncmhhkmaaDoorChecked
namespace Go.Proofs.YtopcgkncmhhkmaaDoor
set_option linter.unusedVariables false
/-- A pattern of so many bits, doubled so often. -/
def blkD : Nat → Nat → Nat → Nat
  | 0, _, v => v
  | k + 1, n, v => blkD k (2 * n) (v + v * 2 ^ n)
/-- Bit s: is cell i in the set s. -/
def mskE (N i : Nat) : Nat := blkD (N - (i + 1)) (2 ^ (i + 1)) ((2 ^ (2 ^ i) - 1) * 2 ^ (2 ^ i))
theorem dbl_bit {n v : Nat} (hv : v < 2 ^ n) (s : Nat) : (v + v * 2 ^ n).testBit s = if s < n then v.testBit s else v.testBit (s - n) := by
  rw [show v + v * 2 ^ n = 2 ^ n * v + v by rw [Nat.mul_comm, Nat.add_comm], Nat.testBit_two_pow_mul_add v hv]
theorem blk_bit : ∀ (k n v : Nat), 0 < n → v < 2 ^ n → blkD k n v < 2 ^ (2 ^ k * n) ∧ ∀ s, s < 2 ^ k * n → (blkD k n v).testBit s = v.testBit (s % n)
  | 0, n, v, hn, hv => by
    refine ⟨by simpa [blkD] using hv, fun s hs => ?_⟩
    rw [blkD, Nat.mod_eq_of_lt (by simpa using hs)]
  | k + 1, n, v, hn, hv => by
    have hb : v + v * 2 ^ n < 2 ^ (2 * n) := by
      rw [show 2 * n = n + n by omega, Nat.pow_add]
      have : v * 2 ^ n + 2 ^ n ≤ 2 ^ n * 2 ^ n := by rw [← Nat.succ_mul]; exact Nat.mul_le_mul_right _ hv
      omega
    obtain ⟨h1, h2⟩ := blk_bit k (2 * n) _ (by omega) hb
    have e : 2 ^ k * (2 * n) = 2 ^ (k + 1) * n := by rw [Nat.pow_succ, Nat.mul_assoc]
    rw [e] at h1 h2
    refine ⟨h1, fun s hs => ?_⟩
    rw [blkD, h2 s hs, dbl_bit hv]
    have hm : s % (2 * n) < 2 * n := Nat.mod_lt _ (by omega)
    have e2 : s % (2 * n) % n = s % n := Nat.mod_mod_of_dvd _ ⟨2, by omega⟩
    split
    · rename_i q
      rw [← e2, Nat.mod_eq_of_lt q]
    · rename_i q
      rw [← e2, Nat.mod_eq_sub_mod (show n ≤ s % (2 * n) by omega), Nat.mod_eq_of_lt (show s % (2 * n) - n < n by omega)]
theorem two_bit (i s : Nat) (hs : s < 2 ^ (i + 1)) : ((2 ^ (2 ^ i) - 1) * 2 ^ (2 ^ i)).testBit s = decide (s / 2 ^ i % 2 = 1) := by
  rw [Nat.mul_comm, Nat.testBit_two_pow_mul, Nat.testBit_two_pow_sub_one]
  have hp : 0 < 2 ^ i := Nat.pow_pos (by decide)
  rw [Nat.pow_succ] at hs
  by_cases q : 2 ^ i ≤ s
  · have e : s / 2 ^ i = 1 := by
      have h1 : s = 2 ^ i * 1 + (s - 2 ^ i) := by omega
      rw [h1, Nat.mul_add_div hp, Nat.div_eq_of_lt (by omega)]
    rw [e]
    simp
    omega
  · rw [Nat.div_eq_of_lt (by omega)]
    simp
    omega
theorem msk_bit {N i s : Nat} (hi : i < N) (hs : s < 2 ^ N) : (mskE N i).testBit s = decide (s / 2 ^ i % 2 = 1) := by
  unfold mskE
  have hv : (2 ^ (2 ^ i) - 1) * 2 ^ (2 ^ i) < 2 ^ (2 ^ (i + 1)) := by
    rw [Nat.pow_succ 2 i, Nat.mul_two, Nat.pow_add]
    have : 0 < 2 ^ 2 ^ i := Nat.pow_pos (by decide)
    exact Nat.mul_lt_mul_of_lt_of_le (by omega) (Nat.le_refl _) this
  have e : 2 ^ (N - (i + 1)) * 2 ^ (i + 1) = 2 ^ N := by rw [← Nat.pow_add]; congr 1; omega
  obtain ⟨-, h2⟩ := blk_bit (N - (i + 1)) (2 ^ (i + 1)) _ (Nat.pow_pos (by decide)) hv
  rw [e] at h2
  rw [h2 s hs, two_bit i _ (Nat.mod_lt _ (Nat.pow_pos (by decide)))]
  congr 1
  have : s % 2 ^ (i + 1) / 2 ^ i % 2 = s / 2 ^ i % 2 := by
    rw [Nat.pow_succ, Nat.mod_mul_right_div_self, Nat.mod_mod]
  rw [this]
/-- Two cells stand side by side (with corners: or meet there), or are the same. -/
def nbD (W : Nat) (cor : Bool) (a b : Nat) : Bool :=
  decide (a % W ≤ b % W + 1) && decide (b % W ≤ a % W + 1) && decide (a / W ≤ b / W + 1) && decide (b / W ≤ a / W + 1) && (cor || decide (a % W = b % W) || decide (a / W = b / W))
/-- All that some of the first k tell. -/
def orD (f : Nat → Nat) : Nat → Nat
  | 0 => 0
  | k + 1 => Nat.lor (orD f k) (f k)
def anyD (f : Nat → Bool) : Nat → Bool
  | 0 => false
  | k + 1 => anyD f k || f k
theorem or_bit (f : Nat → Nat) (s : Nat) : ∀ k, (orD f k).testBit s = anyD (fun j => (f j).testBit s) k
  | 0 => by simp [orD, anyD]
  | k + 1 => by
    rw [orD, anyD, ← or_bit f s k]
    exact Nat.testBit_or _ _ _
theorem any_ext {f g : Nat → Bool} : ∀ {k : Nat}, (∀ j, j < k → f j = g j) → anyD f k = anyD g k
  | 0, _ => rfl
  | k + 1, h => by rw [anyD, anyD, any_ext (fun j hj => h j (by omega)), h k (by omega)]
theorem any_iff {f : Nat → Bool} : ∀ {k : Nat}, anyD f k = true ↔ ∃ j, j < k ∧ f j = true
  | 0 => by simp [anyD]
  | k + 1 => by
    rw [anyD, Bool.or_eq_true, any_iff]
    constructor
    · rintro (⟨j, hj, h⟩ | h)
      · exact ⟨j, by omega, h⟩
      · exact ⟨k, by omega, h⟩
    · rintro ⟨j, hj, h⟩
      by_cases e : j = k
      · subst e; exact Or.inr h
      · exact Or.inl ⟨j, by omega, h⟩
/-- Who is wet behind t steps: of one set; of all at once. -/
def wetS (W N : Nat) (cor : Bool) (st inS : Nat → Bool) : Nat → Nat → Bool
  | 0, i => st i && inS i
  | t + 1, i => inS i && anyD (fun j => nbD W cor i j && wetS W N cor st inS t j) N
def wetD (W N : Nat) (cor : Bool) (st : Nat → Bool) (ms : Nat → Nat) : Nat → List Nat
  | 0 => (List.range N).map fun i => if st i = true then ms i else 0
  | t + 1 => match wetD W N cor st ms t with
    | ws => (List.range N).map fun i => Nat.land (ms i) (orD (fun j => if nbD W cor i j = true then ws.getD j 0 else 0) N)
theorem wet_bit {W N : Nat} {cor : Bool} {st : Nat → Bool} {ms : Nat → Nat} {inS : Nat → Bool} {s : Nat} (h : ∀ i, i < N → (ms i).testBit s = inS i) : ∀ (t i : Nat), i < N → ((wetD W N cor st ms t).getD i 0).testBit s = wetS W N cor st inS t i
  | 0, i, hi => by
    have e : (wetD W N cor st ms 0).getD i 0 = if st i = true then ms i else 0 := by simp [wetD, List.getD, hi]
    rw [e, wetS]
    cases hs : st i with
    | true => simp [h i hi]
    | false => simp
  | t + 1, i, hi => by
    have e : (wetD W N cor st ms (t + 1)).getD i 0 = Nat.land (ms i) (orD (fun j => if nbD W cor i j = true then (wetD W N cor st ms t).getD j 0 else 0) N) := by simp [wetD, List.getD, hi]
    rw [e, wetS, show (Nat.land (ms i) _).testBit s = ((ms i).testBit s && _) from Nat.testBit_and _ _ _, h i hi, or_bit]
    congr 1
    refine any_ext fun j hj => ?_
    cases hn : nbD W cor i j with
    | true => simp only [if_true, Bool.true_and]; exact wet_bit h t j hj
    | false => simp
end Go.Proofs.YtopcgkncmhhkmaaDoor

namespace Go.Proofs.YtopcgkncmhhkmaaDoor
set_option linter.unusedVariables false
/-- Of all sets at once: which lead down; of which the rest leads across. -/
def dnD (W H : Nat) : Nat := match wetD W (W * H) false (fun i => decide (i / W = 0)) (mskE (W * H)) (W * H) with
  | ws => orD (fun i => if i / W = H - 1 then ws.getD i 0 else 0) (W * H)
def acD (W H : Nat) : Nat := match wetD W (W * H) true (fun i => decide (i % W = 0)) (fun i => (2 ^ (2 ^ (W * H)) - 1) - mskE (W * H) i) (W * H) with
  | ws => orD (fun i => if i % W = W - 1 then ws.getD i 0 else 0) (W * H)
def duD (W H : Nat) : Bool := Nat.xor (dnD W H) (acD W H) == 2 ^ (2 ^ (W * H)) - 1
def allD : Bool := (List.range 6).all fun v => (List.range 6).all fun h => decide (16 < (v + 1) * (h + 1)) || duD (v + 1) (h + 1)
set_option maxRecDepth 1000000 in
theorem all_du : allD = true := by decide +kernel
theorem msk_lt {N i : Nat} (hi : i < N) : mskE N i < 2 ^ 2 ^ N := by
  unfold mskE
  have hv : (2 ^ (2 ^ i) - 1) * 2 ^ (2 ^ i) < 2 ^ (2 ^ (i + 1)) := by
    rw [Nat.pow_succ 2 i, Nat.mul_two, Nat.pow_add]
    have : 0 < 2 ^ 2 ^ i := Nat.pow_pos (by decide)
    exact Nat.mul_lt_mul_of_lt_of_le (by omega) (Nat.le_refl _) this
  have e : 2 ^ (N - (i + 1)) * 2 ^ (i + 1) = 2 ^ N := by rw [← Nat.pow_add]; congr 1; omega
  have h := (blk_bit (N - (i + 1)) (2 ^ (i + 1)) _ (Nat.pow_pos (by decide)) hv).1
  rw [e] at h
  exact h
theorem rest_bit {N i s : Nat} (hi : i < N) (hs : s < 2 ^ N) : ((2 ^ (2 ^ N) - 1) - mskE N i).testBit s = !decide (s / 2 ^ i % 2 = 1) := by
  have h := Nat.testBit_two_pow_sub_succ (msk_lt hi) s
  rw [show 2 ^ 2 ^ N - 1 - mskE N i = 2 ^ 2 ^ N - (mskE N i + 1) by omega, h, msk_bit hi hs, decide_eq_true hs, Bool.true_and]
/-- A set leads down; its rest leads across. -/
def leaS (W H s : Nat) : Bool := anyD (fun i => decide (i / W = H - 1) && wetS W (W * H) false (fun i => decide (i / W = 0)) (fun i => decide (s / 2 ^ i % 2 = 1)) (W * H) i) (W * H)
def acrS (W H s : Nat) : Bool := anyD (fun i => decide (i % W = W - 1) && wetS W (W * H) true (fun i => decide (i % W = 0)) (fun i => !decide (s / 2 ^ i % 2 = 1)) (W * H) i) (W * H)
theorem dn_bit {W H s : Nat} (hs : s < 2 ^ (W * H)) : (dnD W H).testBit s = leaS W H s := by
  unfold dnD leaS
  show (orD (fun i => if i / W = H - 1 then (wetD W (W * H) false (fun i => decide (i / W = 0)) (mskE (W * H)) (W * H)).getD i 0 else 0) (W * H)).testBit s = _
  rw [or_bit]
  refine any_ext fun j hj => ?_
  by_cases q : j / W = H - 1
  · rw [if_pos q, wet_bit (fun i hi => msk_bit hi hs) (W * H) j hj]
    simp [q]
  · rw [if_neg q]
    simp [q]
theorem ac_bit {W H s : Nat} (hs : s < 2 ^ (W * H)) : (acD W H).testBit s = acrS W H s := by
  unfold acD acrS
  show (orD (fun i => if i % W = W - 1 then (wetD W (W * H) true (fun i => decide (i % W = 0)) (fun i => (2 ^ (2 ^ (W * H)) - 1) - mskE (W * H) i) (W * H)).getD i 0 else 0) (W * H)).testBit s = _
  rw [or_bit]
  refine any_ext fun j hj => ?_
  by_cases q : j % W = W - 1
  · rw [if_pos q, wet_bit (inS := fun i => !decide (s / 2 ^ i % 2 = 1)) (fun i hi => rest_bit hi hs) (W * H) j hj]
    simp [q]
  · rw [if_neg q]
    simp [q]
/-- One of the two, and never both. -/
theorem dual_at {W H s : Nat} (h1 : 1 ≤ W) (h2 : W ≤ 6) (h3 : 1 ≤ H) (h4 : H ≤ 6) (hN : W * H ≤ 16) (hs : s < 2 ^ (W * H)) : leaS W H s = !acrS W H s := by
  have a := List.all_eq_true.1 all_du (W - 1) (List.mem_range.2 (by omega))
  have b := List.all_eq_true.1 a (H - 1) (List.mem_range.2 (by omega))
  rw [show W - 1 + 1 = W by omega, show H - 1 + 1 = H by omega, decide_eq_false (by omega), Bool.false_or] at b
  have e : Nat.xor (dnD W H) (acD W H) = 2 ^ (2 ^ (W * H)) - 1 := by
    unfold duD at b
    exact eq_of_beq b
  have t := congrArg (fun x => x.testBit s) e
  simp only [Nat.testBit_two_pow_sub_one, decide_eq_true hs] at t
  rw [show (Nat.xor (dnD W H) (acD W H)).testBit s = ((dnD W H).testBit s ^^ (acD W H).testBit s) from Nat.testBit_xor _ _ _, dn_bit hs, ac_bit hs] at t
  cases hl : leaS W H s <;> cases ha : acrS W H s <;> simp_all
end Go.Proofs.YtopcgkncmhhkmaaDoor

namespace Go.Proofs.YtopcgkncmhhkmaaDoor
set_option linter.unusedVariables false
/-- How many of the first k. -/
def cntD (f : Nat → Bool) : Nat → Nat
  | 0 => 0
  | k + 1 => cntD f k + if f k = true then 1 else 0
theorem cnt_le (f : Nat → Bool) : ∀ k, cntD f k ≤ k
  | 0 => Nat.le_refl _
  | k + 1 => by
    have := cnt_le f k
    rw [cntD]
    split <;> omega
theorem cnt_mono {f g : Nat → Bool} : ∀ {k : Nat}, (∀ j, j < k → f j = true → g j = true) → cntD f k ≤ cntD g k
  | 0, _ => Nat.le_refl _
  | k + 1, h => by
    have a := cnt_mono (k := k) (fun j hj => h j (by omega))
    have b := h k (by omega)
    rw [cntD, cntD]
    by_cases q : f k = true
    · rw [if_pos q, if_pos (b q)]; omega
    · rw [if_neg q]; omega
theorem cnt_lt {f g : Nat → Bool} : ∀ {k : Nat}, (∀ j, j < k → f j = true → g j = true) → (∃ j, j < k ∧ g j = true ∧ f j = false) → cntD f k < cntD g k
  | 0, _, h => by obtain ⟨j, hj, _⟩ := h; omega
  | k + 1, h, hx => by
    obtain ⟨j, hj, h1, h2⟩ := hx
    have a := cnt_mono (k := k) (fun j hj => h j (by omega))
    have b := h k (by omega)
    rw [cntD, cntD]
    by_cases e : j = k
    · subst e
      rw [if_pos h1, if_neg (by simp [h2])]; omega
    · have c := cnt_lt (k := k) (fun j hj => h j (by omega)) ⟨j, by omega, h1, h2⟩
      by_cases q : f k = true
      · rw [if_pos q, if_pos (b q)]; omega
      · rw [if_neg q]; omega
theorem nb_self (W : Nat) (cor : Bool) (i : Nat) : nbD W cor i i = true := by simp [nbD]
theorem wet_in {W N : Nat} {cor : Bool} {st inS : Nat → Bool} : ∀ {t i : Nat}, wetS W N cor st inS t i = true → inS i = true
  | 0, i, h => by rw [wetS, Bool.and_eq_true] at h; exact h.2
  | t + 1, i, h => by rw [wetS, Bool.and_eq_true] at h; exact h.1
theorem wet_up {W N : Nat} {cor : Bool} {st inS : Nat → Bool} {t i : Nat} (hi : i < N) (h : wetS W N cor st inS t i = true) : wetS W N cor st inS (t + 1) i = true := by
  rw [wetS, Bool.and_eq_true, any_iff]
  exact ⟨wet_in h, i, hi, by rw [nb_self, h]; rfl⟩
theorem wet_le {W N : Nat} {cor : Bool} {st inS : Nat → Bool} {i : Nat} (hi : i < N) : ∀ {t u : Nat}, t ≤ u → wetS W N cor st inS t i = true → wetS W N cor st inS u i = true
  | t, 0, h, hw => by rw [show t = 0 by omega] at hw; exact hw
  | t, u + 1, h, hw => by
    by_cases e : t = u + 1
    · rw [← e]; exact hw
    · exact wet_up hi (wet_le hi (by omega) hw)
theorem wet_step {W N : Nat} {cor : Bool} {st inS : Nat → Bool} {t : Nat} (h : ∀ i, i < N → wetS W N cor st inS (t + 1) i = wetS W N cor st inS t i) : ∀ i, i < N → wetS W N cor st inS (t + 1 + 1) i = wetS W N cor st inS (t + 1) i := by
  intro i hi
  rw [wetS, wetS]
  congr 1
  refine any_ext fun j hj => ?_
  rw [h j hj]
/-- Behind N steps nobody new is wet. -/
theorem wet_end (W N : Nat) (cor : Bool) (st inS : Nat → Bool) : ∀ i, i < N → wetS W N cor st inS (N + 1) i = wetS W N cor st inS N i := by
  have key : ∀ t, (∀ i, i < N → wetS W N cor st inS (t + 1) i = wetS W N cor st inS t i) ∨ t + 1 ≤ cntD (wetS W N cor st inS (t + 1)) N := by
    intro t
    induction t with
    | zero =>
      by_cases q : ∀ i, i < N → wetS W N cor st inS (0 + 1) i = wetS W N cor st inS 0 i
      · exact Or.inl q
      · refine Or.inr ?_
        have ⟨i, hi⟩ := Classical.not_forall.1 q
        have ⟨hi, hne⟩ := Classical.not_imp.1 hi
        have := cnt_lt (f := wetS W N cor st inS 0) (g := wetS W N cor st inS (0 + 1)) (k := N) (fun j hj h => wet_up hj h) ⟨i, hi, by
          cases h0 : wetS W N cor st inS 0 i with
          | true => exact absurd (by rw [h0, wet_up hi h0]) hne
          | false => cases h1 : wetS W N cor st inS (0 + 1) i with
            | true => exact ⟨rfl, rfl⟩
            | false => exact absurd (by rw [h0, h1]) hne⟩
        omega
    | succ t ih =>
      rcases ih with ih | ih
      · exact Or.inl (wet_step ih)
      · by_cases q : ∀ i, i < N → wetS W N cor st inS (t + 1 + 1) i = wetS W N cor st inS (t + 1) i
        · exact Or.inl q
        · refine Or.inr ?_
          have ⟨i, hi⟩ := Classical.not_forall.1 q
          have ⟨hi, hne⟩ := Classical.not_imp.1 hi
          have := cnt_lt (f := wetS W N cor st inS (t + 1)) (g := wetS W N cor st inS (t + 1 + 1)) (k := N) (fun j hj h => wet_up hj h) ⟨i, hi, by
            cases h0 : wetS W N cor st inS (t + 1) i with
            | true => exact absurd (by rw [h0, wet_up hi h0]) hne
            | false => cases h1 : wetS W N cor st inS (t + 1 + 1) i with
              | true => exact ⟨rfl, rfl⟩
              | false => exact absurd (by rw [h0, h1]) hne⟩
          omega
  rcases key N with h | h
  · exact h
  · have := cnt_le (wetS W N cor st inS (N + 1)) N
    omega
theorem wet_stay (W N : Nat) (cor : Bool) (st inS : Nat → Bool) : ∀ (d i : Nat), i < N → wetS W N cor st inS (N + d) i = wetS W N cor st inS N i := by
  have h : ∀ d i, i < N → wetS W N cor st inS (N + d + 1) i = wetS W N cor st inS (N + d) i := by
    intro d
    induction d with
    | zero => exact wet_end W N cor st inS
    | succ d ih => exact wet_step ih
  intro d
  induction d with
  | zero => intro i _; rfl
  | succ d ih => intro i hi; rw [← Nat.add_assoc, h d i hi, ih i hi]
theorem wet_all {W N : Nat} {cor : Bool} {st inS : Nat → Bool} {t i : Nat} (hi : i < N) (h : wetS W N cor st inS t i = true) : wetS W N cor st inS N i = true := by
  by_cases q : t ≤ N
  · exact wet_le hi q h
  · rw [← wet_stay W N cor st inS (t - N) i hi, show N + (t - N) = t by omega]
    exact h
/-- A search: who is listed was come to; the first so many are done with: all their neighbours of the set are listed. -/
structure SrcL (W N : Nat) (cor : Bool) (st inS : Nat → Bool) (l : List Nat) (d : Nat) : Prop where
  lt : ∀ i, i ∈ l → i < N
  wet : ∀ i, i ∈ l → ∃ t, wetS W N cor st inS t i = true
  first : ∀ i, i < N → st i = true → inS i = true → i ∈ l
  done : ∀ k, k < d → ∀ i j, l[k]? = some j → i < N → inS i = true → nbD W cor i j = true → i ∈ l
/-- A neighbour is listed. -/
theorem SrcL.add {W N : Nat} {cor : Bool} {st inS : Nat → Bool} {l : List Nat} {d i j : Nat} (h : SrcL W N cor st inS l d) (hd : d ≤ l.length) (hi : i < N) (hs : inS i = true) (hj : j ∈ l) (hn : nbD W cor i j = true) : SrcL W N cor st inS (l ++ [i]) d := by
  refine ⟨fun k hk => ?_, fun k hk => ?_, fun k h1 h2 h3 => List.mem_append_left _ (h.first k h1 h2 h3), fun k hk a b hb h1 h2 h3 => List.mem_append_left _ (h.done k hk a b ?_ h1 h2 h3)⟩
  · rcases List.mem_append.1 hk with hk | hk
    · exact h.lt k hk
    · rw [List.mem_singleton.1 hk]; exact hi
  · rcases List.mem_append.1 hk with hk | hk
    · exact h.wet k hk
    · rw [List.mem_singleton.1 hk]
      obtain ⟨t, ht⟩ := h.wet j hj
      refine ⟨t + 1, ?_⟩
      rw [wetS, Bool.and_eq_true, any_iff]
      exact ⟨hs, j, h.lt j hj, by rw [hn, ht]; rfl⟩
  · rw [List.getElem?_append_left (by omega)] at hb; exact hb
/-- One more is done with. -/
theorem SrcL.next {W N : Nat} {cor : Bool} {st inS : Nat → Bool} {l : List Nat} {d j : Nat} (h : SrcL W N cor st inS l d) (hj : l[d]? = some j) (hn : ∀ i, i < N → inS i = true → nbD W cor i j = true → i ∈ l) : SrcL W N cor st inS l (d + 1) := by
  refine ⟨h.lt, h.wet, h.first, fun k hk a b hb h1 h2 h3 => ?_⟩
  by_cases e : k = d
  · subst e
    rw [hj] at hb
    exact hn a h1 h2 (by rw [Option.some.inj hb]; exact h3)
  · exact h.done k (by omega) a b hb h1 h2 h3
/-- All are done with: the list is who is wet behind N steps. -/
theorem SrcL.over {W N : Nat} {cor : Bool} {st inS : Nat → Bool} {l : List Nat} {d : Nat} (h : SrcL W N cor st inS l d) (hd : l.length ≤ d) : ∀ i, i < N → (wetS W N cor st inS N i = true ↔ i ∈ l) := by
  have all : ∀ t i, i < N → wetS W N cor st inS t i = true → i ∈ l := by
    intro t
    induction t with
    | zero =>
      intro i hi hw
      rw [wetS, Bool.and_eq_true] at hw
      exact h.first i hi hw.1 hw.2
    | succ t ih =>
      intro i hi hw
      have hs := wet_in hw
      rw [wetS, Bool.and_eq_true, any_iff] at hw
      obtain ⟨_, j, hj, hb⟩ := hw
      rw [Bool.and_eq_true] at hb
      obtain ⟨k, hk⟩ := List.mem_iff_getElem?.1 (ih j hj hb.2)
      have hlt : k < l.length := (List.getElem?_eq_some_iff.1 hk).1
      exact h.done k (by omega) i j hk hi hs hb.1
  intro i hi
  exact ⟨all N i hi, fun hm => by obtain ⟨t, ht⟩ := h.wet i hm; exact wet_all hi ht⟩
/-- One that is listed is wet, whatever is still to do. -/
theorem SrcL.is {W N : Nat} {cor : Bool} {st inS : Nat → Bool} {l : List Nat} {d i : Nat} (h : SrcL W N cor st inS l d) (hm : i ∈ l) : wetS W N cor st inS N i = true := by
  obtain ⟨t, ht⟩ := h.wet i hm
  exact wet_all (h.lt i hm) ht
end Go.Proofs.YtopcgkncmhhkmaaDoor

