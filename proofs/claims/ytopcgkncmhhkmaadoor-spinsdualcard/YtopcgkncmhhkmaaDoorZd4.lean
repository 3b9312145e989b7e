/-
  What the last text of this claim leans on, part 4: Sp9, Spa, Spb.
-/
import Derived.Test.YtopcgkncmhhkmaaDoorZd3
namespace Go.Proofs.YtopcgkncmhhkmaaDoor
set_option linter.unusedVariables false
/-- Every other cell is turned about. -/
def flD (W H s : Nat) : Nat := mkS (fun i => bitD s i != decide ((i % W + i / W) % 2 = 1)) (W * H)
theorem fl_bit {W H s i : Nat} (hi : i < W * H) : bitD (flD W H s) i = (bitD s i != decide ((i % W + i / W) % 2 = 1)) := mkS_bit _ _ i hi
theorem fl_lt (W H s : Nat) : flD W H s < 2 ^ (W * H) := mkS_lt _ _
theorem fl_inj {W H s u : Nat} (hs : s < 2 ^ (W * H)) (hu : u < 2 ^ (W * H)) (h : flD W H s = flD W H u) : s = u := by
  refine bits_same hs hu fun i hi => ?_
  have a := fl_bit (s := s) hi
  rw [h, fl_bit hi] at a
  show bitD s i = bitD u i
  generalize decide ((i % W + i / W) % 2 = 1) = c at a
  cases h1 : bitD s i <;> cases h2 : bitD u i <;> cases c <;> simp_all
theorem turn_pair {a b : Bool} {m n : Nat} (h : m % 2 ≠ n % 2) : ((a != decide (m % 2 = 1)) != (b != decide (n % 2 = 1))) = !(a != b) := by
  have h1 : m % 2 = 0 ∨ m % 2 = 1 := by omega
  have h2 : n % 2 = 0 ∨ n % 2 = 1 := by omega
  rcases h1 with h1 | h1 <;> rcases h2 with h2 | h2
  · omega
  · rw [h1, h2]; cases a <;> cases b <;> rfl
  · rw [h1, h2]; cases a <;> cases b <;> rfl
  · omega
/-- How many pairs there are. -/
def prN (W H : Nat) : Nat := cntD (fun i => decide (i % W + 1 < W)) (W * H) + cntD (fun i => decide (i / W + 1 < H)) (W * H)
theorem fr_fl {W H : Nat} (hW : 0 < W) (hH : 0 < H) (s : Nat) : frU W H (flD W H s) + frU W H s = prN W H := by
  have a := cnt_and (fun i => decide (i % W + 1 < W)) (fun i => bitD s i != bitD s (i + 1)) (W * H)
  have b := cnt_and (fun i => decide (i / W + 1 < H)) (fun i => bitD s i != bitD s (i + W)) (W * H)
  have c : cntD (fhD W (flD W H s)) (W * H) = cntD (fun i => decide (i % W + 1 < W) && !(bitD s i != bitD s (i + 1))) (W * H) := by
    refine cnt_ext fun i hi => ?_
    unfold fhD
    by_cases q : i % W + 1 < W
    · have e : i + 1 = i / W * W + (i % W + 1) := by have := cell_is W i; omega
      have hl : i + 1 < W * H := by rw [e]; exact cell_lt q (div_ltD hi)
      rw [fl_bit hi, fl_bit hl, turn_pair]
      rw [e, cell_mod q, cell_div q]
      omega
    · simp [q]
  have d : cntD (fvD W H (flD W H s)) (W * H) = cntD (fun i => decide (i / W + 1 < H) && !(bitD s i != bitD s (i + W))) (W * H) := by
    refine cnt_ext fun i hi => ?_
    unfold fvD
    by_cases q : i / W + 1 < H
    · have hx : i % W < W := Nat.mod_lt _ hW
      have e : i + W = (i / W + 1) * W + i % W := by rw [Nat.succ_mul]; have := cell_is W i; omega
      have hl : i + W < W * H := by rw [e]; exact cell_lt hx q
      rw [fl_bit hi, fl_bit hl, turn_pair]
      rw [e, cell_mod hx, cell_div hx]
      omega
    · simp [q]
  have e1 : cntD (fhD W s) (W * H) = cntD (fun i => decide (i % W + 1 < W) && (bitD s i != bitD s (i + 1))) (W * H) := rfl
  have e2 : cntD (fvD W H s) (W * H) = cntD (fun i => decide (i / W + 1 < H) && (bitD s i != bitD s (i + W))) (W * H) := rfl
  unfold frU prN
  omega
theorem ring_par {x W : Nat} (hx : x < W) (hW : W % 2 = 0) : (x + 1) % W % 2 ≠ x % 2 := by
  by_cases q : x + 1 < W
  · rw [Nat.mod_eq_of_lt q]; omega
  · rw [show x + 1 = W by omega, Nat.mod_self]; omega
theorem en_fl {W H : Nat} (hW : 0 < W) (hH : 0 < H) (h2 : W % 2 = 0) (h3 : H % 2 = 0) (s : Nat) : enU W H (flD W H s) + enU W H s = 2 * (W * H) := by
  have a := cnt_not (ehD W s) (W * H)
  have b := cnt_not (evD W H s) (W * H)
  have c : cntD (ehD W (flD W H s)) (W * H) = cntD (fun i => !ehD W s i) (W * H) := by
    refine cnt_ext fun i hi => ?_
    unfold ehD
    have hx : (i % W + 1) % W < W := Nat.mod_lt _ hW
    have p := ring_par (Nat.mod_lt i hW) h2
    have hl : i / W * W + (i % W + 1) % W < W * H := cell_lt hx (div_ltD hi)
    rw [fl_bit hi, fl_bit hl, turn_pair]
    rw [cell_mod hx, cell_div hx]
    omega
  have d : cntD (evD W H (flD W H s)) (W * H) = cntD (fun i => !evD W H s i) (W * H) := by
    refine cnt_ext fun i hi => ?_
    unfold evD
    have hx : i % W < W := Nat.mod_lt _ hW
    have p := ring_par (div_ltD hi) h3
    have hl : (i / W + 1) % H * W + i % W < W * H := cell_lt hx (Nat.mod_lt _ hH)
    rw [fl_bit hi, fl_bit hl, turn_pair]
    rw [cell_mod hx, cell_div hx]
    omega
  unfold enU
  omega
/-- AS MANY WAYS HAVE FEW UNLIKE PAIRS AS HAVE MANY. -/
theorem fr_turn {W H k : Nat} (hW : 0 < W) (hH : 0 < H) (hk : k ≤ prN W H) : wayN (frU W H) (W * H) (prN W H - k) = wayN (frU W H) (W * H) k :=
  way_turn (p := flD W H) (fun s _ => fl_lt W H s) (fun s u hs hu => fl_inj hs hu) (fr_fl hW hH) hk
theorem en_turn {W H k : Nat} (hW : 0 < W) (hH : 0 < H) (h2 : W % 2 = 0) (h3 : H % 2 = 0) (hk : k ≤ 2 * (W * H)) : wayN (enU W H) (W * H) (2 * (W * H) - k) = wayN (enU W H) (W * H) k :=
  way_turn (p := flD W H) (fun s _ => fl_lt W H s) (fun s u hs hu => fl_inj hs hu) (en_fl hW hH h2 h3) hk
theorem fr_le {W H : Nat} (hW : 0 < W) (hH : 0 < H) (s : Nat) : frU W H s ≤ prN W H := by have := fr_fl hW hH s; omega
theorem en_le (W H s : Nat) : enU W H s ≤ 2 * (W * H) := by
  have := cnt_le (ehD W s) (W * H)
  have := cnt_le (evD W H s) (W * H)
  unfold enU
  omega
def allP : Bool := (List.range 6).all fun v => (List.range 6).all fun h => prN (v + 1) (h + 1) == v * (h + 1) + (v + 1) * h
theorem all_p : allP = true := by decide +kernel
theorem pr_is {W H : Nat} (h1 : 1 ≤ W) (h2 : W ≤ 6) (h3 : 1 ≤ H) (h4 : H ≤ 6) : prN W H = (W - 1) * H + W * (H - 1) := by
  have a := List.all_eq_true.1 all_p (W - 1) (List.mem_range.2 (by omega))
  have b := List.all_eq_true.1 a (H - 1) (List.mem_range.2 (by omega))
  rw [show W - 1 + 1 = W by omega, show H - 1 + 1 = H by omega] at b
  exact eq_of_beq b
end Go.Proofs.YtopcgkncmhhkmaaDoor

namespace Go.Proofs.YtopcgkncmhhkmaaDoor
set_option linter.unusedVariables false
set_option linter.unusedSimpArgs false
theorem sum_ext {f g : Nat → Nat} : ∀ {k : Nat}, (∀ j, j < k → f j = g j) → sumN f k = sumN g k
  | 0, _ => rfl
  | k + 1, h => by rw [sumN, sumN, sum_ext (fun j hj => h j (by omega)), h k (by omega)]
theorem sum_none : ∀ {g : Nat → Nat} {m : Nat}, (∀ a, a < m → g a = 0) → sumN g m = 0
  | _, 0, _ => rfl
  | g, m + 1, h => by rw [sumN, sum_none (fun a ha => h a (by omega)), h m (by omega)]
theorem sum_one {g : Nat → Nat} {c : Nat} : ∀ {m : Nat}, c < m → (∀ a, a < m → a ≠ c → g a = 0) → sumN g m = g c
  | 0, hc, _ => by omega
  | m + 1, hc, h => by
    rw [sumN]
    by_cases e : c = m
    · subst e
      rw [sum_none (fun a ha => h a (by omega) (by omega)), Nat.zero_add]
    · rw [sum_one (m := m) (by omega) (fun a ha hn => h a (by omega) hn), h m (by omega) (by omega)]
      rfl
theorem cnt_mul (f : Nat → Bool) (n : Nat) : ∀ m, cntD f (m * n) = sumN (fun a => cntD (fun b => f (a * n + b)) n) m
  | 0 => by rw [Nat.zero_mul]; rfl
  | m + 1 => by rw [Nat.succ_mul, cnt_add, sumN, cnt_mul f n m]
theorem cnt_upto (f : Nat → Bool) (v : Nat → Nat) (n : Nat) : ∀ m, sumN (fun a => cntD (fun s => f s && (v s == a)) n) m = cntD (fun s => f s && decide (v s < m)) n
  | 0 => by
    rw [sumN, cnt_ext (g := fun _ => false) (fun j _ => by simp), cnt_none]
  | m + 1 => by
    rw [sumN, cnt_upto f v n m]
    have a := cnt_and (fun s => f s && decide (v s < m + 1)) (fun s => decide (v s < m)) n
    rw [← a, cnt_ext (f := fun s => (f s && decide (v s < m + 1)) && decide (v s < m)) (g := fun s => f s && decide (v s < m)) (fun j _ => by
        by_cases q : v j < m
        · simp [q, Nat.lt_succ_of_lt q]
        · simp [q]),
      cnt_ext (f := fun s => (f s && decide (v s < m + 1)) && !decide (v s < m)) (g := fun s => f s && (v s == m)) (fun j _ => by
        cases hf : f j with
        | false => simp [hf]
        | true => rw [Bool.eq_iff_iff]; simp [hf]; omega)]
theorem cnt_part {f : Nat → Bool} {v : Nat → Nat} {n m : Nat} (h : ∀ s, s < n → v s < m) : cntD f n = sumN (fun a => cntD (fun s => f s && (v s == a)) n) m := by
  rw [cnt_upto]
  exact cnt_ext fun s hs => by rw [decide_eq_true (h s hs), Bool.and_true]
/-- Unlike pairs of the rows to y, row by row. -/
def pU (M : Nat) (inU : Nat → Nat) (dU : Nat → Nat → Nat) : Nat → Nat → Nat
  | 0, s => inU s
  | y + 1, s => pU M inU dU y (s % M ^ (y + 1)) + inU (s / M ^ (y + 1)) + dU (s % M ^ (y + 1) / M ^ y) (s / M ^ (y + 1))
/-- How many ways lead from the first row f to row r with k unlike pairs. -/
def nowC (M : Nat) (inU : Nat → Nat) (dU : Nat → Nat → Nat) (f y r k : Nat) : Nat := cntD (fun s => s % M == f && (s / M ^ y == r && pU M inU dU y s == k)) (M ^ (y + 1))
theorem cnt_at {p : Nat → Bool} {c : Nat} : ∀ {n : Nat}, c < n → (∀ s, s < n → s ≠ c → p s = false) → cntD p n = if p c = true then 1 else 0
  | 0, hc, _ => by omega
  | n + 1, hc, h => by
    rw [cntD]
    by_cases e : c = n
    · subst e
      rw [cnt_ext (g := fun _ => false) (fun j hj => h j (by omega) (by omega)), cnt_none, Nat.zero_add]
    · rw [cnt_at (n := n) (by omega) (fun s hs hn => h s (by omega) hn), h n (by omega) (by omega)]
      simp
theorem now_first {M f r k : Nat} {inU : Nat → Nat} {dU : Nat → Nat → Nat} (hf : f < M) : nowC M inU dU f 0 r k = if r = f ∧ k = inU f then 1 else 0 := by
  unfold nowC
  rw [Nat.zero_add, Nat.pow_one, cnt_at hf (fun s hs hn => by rw [Nat.mod_eq_of_lt hs]; simp [hn])]
  rw [Nat.mod_eq_of_lt hf, Nat.pow_zero, Nat.div_one, pU]
  by_cases a : f = r
  · by_cases b : inU f = k
    · subst a; subst b; simp
    · rw [if_neg (by simp [b]), if_neg (fun h => b h.2.symm)]
  · rw [if_neg (by simp [a]), if_neg (fun h => a h.1.symm)]
theorem now_step {M f y t k : Nat} {inU : Nat → Nat} {dU : Nat → Nat → Nat} (hM : 0 < M) (ht : t < M) : nowC M inU dU f (y + 1) t k = sumN (fun a => if inU t + dU a t ≤ k then nowC M inU dU f y a (k - (inU t + dU a t)) else 0) M := by
  have hp : 0 < M ^ (y + 1) := Nat.pow_pos hM
  have hd : ∀ a b, b < M ^ (y + 1) → (a * M ^ (y + 1) + b) / M ^ (y + 1) = a := fun a b hb => by rw [Nat.mul_comm, Nat.mul_add_div hp, Nat.div_eq_of_lt hb, Nat.add_zero]
  have hm : ∀ a b, b < M ^ (y + 1) → (a * M ^ (y + 1) + b) % M ^ (y + 1) = b := fun a b hb => by rw [Nat.mul_comm, Nat.mul_add_mod, Nat.mod_eq_of_lt hb]
  have hr : ∀ a b, (a * M ^ (y + 1) + b) % M = b % M := fun a b => by rw [Nat.pow_succ, ← Nat.mul_assoc, Nat.mul_comm, Nat.mul_add_mod]
  unfold nowC
  rw [show M ^ (y + 1 + 1) = M * M ^ (y + 1) by rw [Nat.pow_succ M (y + 1), Nat.mul_comm], cnt_mul, sum_one ht]
  · rw [cnt_ext (g := fun b => b % M == f && (pU M inU dU y b + inU t + dU (b / M ^ y) t == k)) (fun b hb => by rw [hr, hd _ _ hb, pU, hd _ _ hb, hm _ _ hb]; simp),
      cnt_part (v := fun b => b / M ^ y) (m := M) (fun s hs => Nat.div_lt_of_lt_mul (by rw [← Nat.pow_succ]; exact hs))]
    refine sum_ext fun a ha => ?_
    by_cases q : inU t + dU a t ≤ k
    · rw [if_pos q]
      refine cnt_ext fun b hb => ?_
      by_cases e : b / M ^ y = a
      · rw [e, Bool.eq_iff_iff]; simp; omega
      · have e' : (b / M ^ y == a) = false := by simp [e]
        rw [e']; simp
    · rw [if_neg q, cnt_ext (g := fun _ => false) (fun b hb => ?_), cnt_none]
      by_cases e : b / M ^ y = a
      · rw [e]
        have : (pU M inU dU y b + inU t + dU a t == k) = false := by simp; omega
        rw [this]; simp
      · have e' : (b / M ^ y == a) = false := by simp [e]
        rw [e']; simp
  · intro a ha hn
    rw [cnt_ext (g := fun _ => false) (fun b hb => ?_), cnt_none]
    rw [hd _ _ hb]
    simp [hn]
/-- All ways, by the first row and the last one; what these two tell besides is e. -/
theorem now_all {M y k : Nat} {inU : Nat → Nat} {dU e : Nat → Nat → Nat} (hM : 0 < M) : cntD (fun s => pU M inU dU y s + e (s / M ^ y) (s % M) == k) (M ^ (y + 1)) = sumN (fun f => sumN (fun r => if e r f ≤ k then nowC M inU dU f y r (k - e r f) else 0) M) M := by
  rw [cnt_part (v := fun s => s % M) (m := M) (fun s _ => Nat.mod_lt _ hM)]
  refine sum_ext fun f hf => ?_
  rw [cnt_part (v := fun s => s / M ^ y) (m := M) (fun s hs => Nat.div_lt_of_lt_mul (by rw [← Nat.pow_succ]; exact hs))]
  refine sum_ext fun r hr => ?_
  by_cases q : e r f ≤ k
  · rw [if_pos q]
    refine cnt_ext fun s hs => ?_
    by_cases a : s / M ^ y = r
    · by_cases b : s % M = f
      · rw [a, b, Bool.eq_iff_iff]; simp; omega
      · have b' : (s % M == f) = false := by simp [b]
        rw [b']; simp
    · have a' : (s / M ^ y == r) = false := by simp [a]
      rw [a']; simp
  · rw [if_neg q, cnt_ext (g := fun _ => false) (fun s hs => ?_), cnt_none]
    by_cases a : s / M ^ y = r
    · by_cases b : s % M = f
      · have : (pU M inU dU y s + e (s / M ^ y) (s % M) == k) = false := by rw [a, b]; simp; omega
        rw [this]; simp
      · have b' : (s % M == f) = false := by simp [b]
        rw [b']; simp
    · have a' : (s / M ^ y == r) = false := by simp [a]
      rw [a']; simp
end Go.Proofs.YtopcgkncmhhkmaaDoor

namespace Go.Proofs.YtopcgkncmhhkmaaDoor
set_option linter.unusedVariables false
set_option linter.unusedSimpArgs false
/-- A row of a set. -/
def rwD (W s r : Nat) : Nat := s / (2 ^ W) ^ r % 2 ^ W
theorem bit_is (s i : Nat) : bitD s i = s.testBit i := (Nat.testBit_eq_decide_div_mod_eq).symm
theorem row_bit {W s r x : Nat} (hx : x < W) : bitD s (r * W + x) = bitD (rwD W s r) x := by
  rw [bit_is, bit_is, rwD, Nat.testBit_mod_two_pow, ← Nat.pow_mul, Nat.testBit_div_two_pow, decide_eq_true hx, Bool.true_and, Nat.mul_comm W r]
  congr 1
  omega
theorem digit {M s y r : Nat} (hr : r ≤ y) : s % M ^ (y + 1) / M ^ r % M = s / M ^ r % M := by
  rw [show M ^ (y + 1) = M ^ r * (M * M ^ (y - r)) by rw [Nat.mul_comm M, ← Nat.pow_succ, ← Nat.pow_add]; congr 1; omega, Nat.mod_mul_right_div_self, Nat.mod_mul_right_mod]
theorem pU_is {M : Nat} {inU : Nat → Nat} {dU : Nat → Nat → Nat} (hM : 0 < M) : ∀ y s, s < M ^ (y + 1) → pU M inU dU y s = sumN (fun r => inU (s / M ^ r % M)) (y + 1) + sumN (fun r => dU (s / M ^ r % M) (s / M ^ (r + 1) % M)) y
  | 0, s, hs => by
    rw [Nat.zero_add, Nat.pow_one] at hs
    simp [pU, sumN, Nat.mod_eq_of_lt hs]
  | y + 1, s, hs => by
    have hp : 0 < M ^ (y + 1) := Nat.pow_pos hM
    have ht : s / M ^ (y + 1) < M := Nat.div_lt_of_lt_mul (by rw [← Nat.pow_succ]; exact hs)
    have e1 : sumN (fun r => inU (s / M ^ r % M)) (y + 1 + 1) = sumN (fun r => inU (s / M ^ r % M)) (y + 1) + inU (s / M ^ (y + 1) % M) := rfl
    have e2 : sumN (fun r => dU (s / M ^ r % M) (s / M ^ (r + 1) % M)) (y + 1) = sumN (fun r => dU (s / M ^ r % M) (s / M ^ (r + 1) % M)) y + dU (s / M ^ y % M) (s / M ^ (y + 1) % M) := rfl
    have e3 : sumN (fun r => inU (s % M ^ (y + 1) / M ^ r % M)) (y + 1) = sumN (fun r => inU (s / M ^ r % M)) (y + 1) := sum_ext fun j hj => by rw [digit (by omega)]
    have e4 : sumN (fun r => dU (s % M ^ (y + 1) / M ^ r % M) (s % M ^ (y + 1) / M ^ (r + 1) % M)) y = sumN (fun r => dU (s / M ^ r % M) (s / M ^ (r + 1) % M)) y := sum_ext fun j hj => by rw [digit (by omega), digit (by omega)]
    have e5 : s % M ^ (y + 1) / M ^ y = s / M ^ y % M := by rw [Nat.pow_succ, Nat.mod_mul_right_div_self]
    rw [pU, pU_is hM y _ (Nat.mod_lt _ hp), e1, e2, e3, e4, e5, Nat.mod_eq_of_lt ht]
    omega
/-- Unlike pairs within a row; between two. -/
def inF (W r : Nat) : Nat := cntD (fun x => decide (x + 1 < W) && (bitD r x != bitD r (x + 1))) W
def inE (W r : Nat) : Nat := cntD (fun x => bitD r x != bitD r ((x + 1) % W)) W
def dfD (W a b : Nat) : Nat := cntD (fun x => bitD a x != bitD b x) W
/-- Row by row or cell by cell: the same pairs. -/
theorem fr_rows {W y s : Nat} (hW : 0 < W) (hs : s < (2 ^ W) ^ (y + 1)) : pU (2 ^ W) (inF W) (dfD W) y s = frU W (y + 1) s := by
  rw [pU_is (Nat.pow_pos (by decide)) y s hs]
  unfold frU
  rw [Nat.mul_comm W, cnt_mul, cnt_mul]
  congr 1
  · refine sum_ext fun r hr => ?_
    refine cnt_ext fun x hx => ?_
    unfold fhD
    rw [cell_mod hx, row_bit hx]
    by_cases q : x + 1 < W
    · rw [Nat.add_assoc, row_bit q]; rfl
    · simp [q]
  · rw [sumN, cnt_ext (k := W) (g := fun _ => false) (f := fun b => fvD W (y + 1) s (y * W + b)) (fun x hx => by unfold fvD; rw [cell_div hx]; simp), cnt_none, Nat.add_zero]
    refine sum_ext fun r hr => ?_
    refine cnt_ext fun x hx => ?_
    unfold fvD
    rw [cell_div hx, row_bit hx, show r * W + x + W = (r + 1) * W + x by rw [Nat.succ_mul]; omega, row_bit hx, decide_eq_true (by omega), Bool.true_and]
    rfl
/-- With rings: the first row below the last one, too. -/
theorem en_rows {W y s : Nat} (hW : 0 < W) (hs : s < (2 ^ W) ^ (y + 1)) : pU (2 ^ W) (inE W) (dfD W) y s + dfD W (s / (2 ^ W) ^ y) (s % 2 ^ W) = enU W (y + 1) s := by
  rw [pU_is (Nat.pow_pos (by decide)) y s hs]
  unfold enU
  rw [Nat.mul_comm W, cnt_mul, cnt_mul, Nat.add_assoc]
  congr 1
  · refine sum_ext fun r hr => ?_
    refine cnt_ext fun x hx => ?_
    unfold ehD
    rw [cell_mod hx, cell_div hx, row_bit hx, row_bit (Nat.mod_lt _ hW)]
    rfl
  · rw [sumN]
    congr 1
    · refine sum_ext fun r hr => ?_
      refine cnt_ext fun x hx => ?_
      unfold evD
      rw [cell_div hx, cell_mod hx, row_bit hx, Nat.mod_eq_of_lt (show r + 1 < y + 1 by omega), row_bit hx]
      rfl
    · refine cnt_ext fun x hx => ?_
      have ht : s / (2 ^ W) ^ y < 2 ^ W := Nat.div_lt_of_lt_mul (by rw [← Nat.pow_succ]; exact hs)
      unfold evD
      rw [cell_div hx, cell_mod hx, row_bit hx, Nat.mod_self, row_bit hx, rwD, rwD, Nat.mod_eq_of_lt ht, Nat.pow_zero, Nat.div_one]
theorem fr_ways {W y k : Nat} (hW : 0 < W) : wayN (frU W (y + 1)) (W * (y + 1)) k = sumN (fun f => sumN (fun r => nowC (2 ^ W) (inF W) (dfD W) f y r k) (2 ^ W)) (2 ^ W) := by
  have h := now_all (M := 2 ^ W) (y := y) (k := k) (inU := inF W) (dU := dfD W) (e := fun _ _ => 0) (Nat.pow_pos (by decide))
  simp only [Nat.zero_le, if_true, Nat.sub_zero, Nat.add_zero] at h
  rw [← h, wayN, Nat.pow_mul]
  exact cnt_ext fun s hs => by rw [fr_rows hW hs]
theorem en_ways {W y k : Nat} (hW : 0 < W) : wayN (enU W (y + 1)) (W * (y + 1)) k = sumN (fun f => sumN (fun r => if dfD W r f ≤ k then nowC (2 ^ W) (inE W) (dfD W) f y r (k - dfD W r f) else 0) (2 ^ W)) (2 ^ W) := by
  rw [← now_all (Nat.pow_pos (by decide)), wayN, Nat.pow_mul]
  exact cnt_ext fun s hs => by rw [en_rows hW hs]
end Go.Proofs.YtopcgkncmhhkmaaDoor

