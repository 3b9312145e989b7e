/-
  What the last text of this claim leans on, part 43: Gt1, Gt2, Wc2, Gt3, Wf3.
-/
import Derived.Test.YtemhcpldflcfbaaGreatDoorYf40
import Derived.Test.YtemhcpldflcfbaaGreatDoorYf15
import Derived.Test.YtemhcpldflcfbaaGreatDoorYf42
namespace Go.Proofs.YtemhcpldflcfbaaGreatDoor
open Go.RowKit
set_option linter.unusedVariables false
def cellP (q : Pat) (y x : Nat) : Bool := decide (x < q.W) && decide (y < q.H) && decide (q.xs.getD (y * q.W + x) 0 = 1)
def wX (q : Pat) (k : Nat) : Nat := bitsF (fun j => cellP q (k / 2) (64 * (k % 2) + j)) 64
theorem wX_lt (q : Pat) (k : Nat) : wX q k < 18446744073709551616 := bitsF_lt _ 64
theorem wX_test (q : Pat) (k j : Nat) (hj : j < 64) : (wX q k).testBit j = cellP q (k / 2) (64 * (k % 2) + j) := by unfold wX; rw [bitsF_test]; simp [hj]
theorem wX_is {q : Pat} {k a : Nat} (ha : a < 18446744073709551616) (h : ∀ j, j < 64 → a.testBit j = cellP q (k / 2) (64 * (k % 2) + j)) : a = wX q k := bitsF_is ha h
theorem wX_rb (q : Pat) (y x : Nat) (hx : x < 128) : rb (wX q (y * 2)) (wX q (y * 2 + 1)) x = cellP q y x := by
 unfold rb
 by_cases h : x < 64
 ·rw [if_pos h, wX_test _ _ _ h, show y * 2 / 2 = y by omega, show 64 * (y * 2 % 2) + x = x by omega]
 ·rw [if_neg h, wX_test _ _ _ (by omega), show (y * 2 + 1) / 2 = y by omega, show 64 * ((y * 2 + 1) % 2) + (x - 64) = x by omega]
theorem one_bit {c b j : Nat} (hc : c ≤ 1) : (c * 2 ^ b).testBit j = (decide (c = 1) && decide (j = b)) := by
 have : c = 0 ∨ c = 1 := by omega
 rcases this with rfl | rfl
 ·simp
 ·rw [Nat.one_mul, Nat.testBit_two_pow]; simp [eq_comm]
theorem stX_test {W : Nat} {xs : List Int} (hW : 0 < W) (hW2 : W ≤ 128) (hx : ∀ k, 0 ≤ xs.getD k 0 ∧ xs.getD k 0 ≤ 1) (k j : Nat) (hj : j < 64) : ∀ i, (stX W xs i k).testBit j = (decide (64 * (k % 2) + j < W) && decide (k / 2 * W + (64 * (k % 2) + j) < i) && decide (xs.getD (k / 2 * W + (64 * (k % 2) + j)) 0 = 1)) := by
 obtain ⟨y, hy⟩ : ∃ y, k / 2 = y := ⟨_, rfl⟩
 obtain ⟨x, hxx⟩ : ∃ x, 64 * (k % 2) + j = x := ⟨_, rfl⟩
 rw [hy, hxx]
 intro i
 induction i with
 | zero => simp [stX]
 | succ i ih =>
  rw [stX]
  have ml : i % W < W := Nat.mod_lt _ hW
  have dm := Nat.div_add_mod i W
  by_cases q : k = i / W * 2 + i % W / 64
  ·rw [if_pos q, Nat.testBit_or, ih, one_bit (by have := hx i; omega)]
   have y1 : i / W = y := by omega
   have k1 : k % 2 = i % W / 64 := by omega
   by_cases z : j = i % W % 64
   ·have x1 : x = i % W := by omega
    have e : y * W + x = i := by rw [← y1, x1, Nat.mul_comm]; exact dm
    have c1 : ((xs.getD i 0).toNat = 1) ↔ (xs.getD i 0 = 1) := by have := hx i; omega
    rw [e]
    simp only [List.getD_eq_getElem?_getD] at c1
    simp [z, x1, ml]
    exact c1
   ·have ne : ¬ (y * W + x = i ∧ x < W) := fun ⟨e, h⟩ => by
     have : i % W = x := by rw [← e, Nat.mul_comm, Nat.mul_add_mod]; exact Nat.mod_eq_of_lt h
     omega
    by_cases xw : x < W
    ·have : (y * W + x < i + 1) ↔ (y * W + x < i) := by omega
     simp [z, this]
    ·simp [xw, z]
  ·rw [if_neg q, ih]
   by_cases xw : x < W
   ·have ne : ¬ y * W + x = i := fun e => by
     have m1 : i % W = x := by rw [← e, Nat.mul_comm, Nat.mul_add_mod]; exact Nat.mod_eq_of_lt xw
     have d1 : i / W = y := by rw [← e, Nat.mul_comm, Nat.mul_add_div hW, Nat.div_eq_of_lt xw, Nat.add_zero]
     omega
    have : (y * W + x < i + 1) ↔ (y * W + x < i) := by omega
    simp [this]
   ·simp [xw]
theorem settle_words {W H : Nat} {xs : List Int} (hW : W ≤ 128) (hx : ∀ k, 0 ≤ xs.getD k 0 ∧ xs.getD k 0 ≤ 1) (k : Nat) : stX W xs (W * H) k = wX ⟨W, H, xs⟩ k := by
 rcases Nat.eq_zero_or_pos W with z | z
 ·subst z
  rw [Nat.zero_mul]
  refine wX_is (by simp [stX]) (fun j hj => ?_)
  simp [stX, cellP]
 ·refine wX_is (stX_lt hx ..) (fun j hj => ?_)
  rw [stX_test z hW hx k j hj]
  unfold cellP
  dsimp only
  by_cases a : 64 * (k % 2) + j < W
  ·have : (k / 2 * W + (64 * (k % 2) + j) < W * H) ↔ (k / 2 < H) := by
    constructor
    ·intro h
     rcases Nat.lt_or_ge (k / 2) H with u | u
     ·exact u
     ·have := Nat.mul_le_mul_right W u
      rw [Nat.mul_comm H W] at this
      omega
    ·intro h
     have := Nat.mul_le_mul_right W (show k / 2 + 1 ≤ H from h)
     rw [Nat.add_mul, Nat.mul_comm H W] at this
     omega
   simp [a, this]
  ·simp [a]
theorem pat_words {W H : Nat} {xs : List Int} (hW : W ≤ 128) (hx : ∀ k, 0 ≤ xs.getD k 0 ∧ xs.getD k 0 ≤ 1) (i : Nat) (hi : i < W * H) : ((patX (wX ⟨W, H, xs⟩) W i : Nat) : Int) = xs.getD i 0 := by
 obtain ⟨x, y, h1, h2, ex, ey, e⟩ := split_lt hi
 unfold patX
 rw [ex, ey]
 have t := wX_test ⟨W, H, xs⟩ (y * 2 + x / 64) (x % 64) (by omega)
 rw [show (y * 2 + x / 64) / 2 = y by omega, show 64 * ((y * 2 + x / 64) % 2) + x % 64 = x by omega, Nat.testBit_eq_decide_div_mod_eq] at t
 have := hx i
 unfold cellP at t
 dsimp only at t
 rw [e] at t
 simp only [h1, h2, decide_true, Bool.true_and, decide_eq_decide] at t
 omega
structure BoxP (P : Nat → Nat → Bool) (l t r b : Nat) : Prop where
 inn : ∀ y x, P y x = true → l ≤ x ∧ x < r ∧ t ≤ y ∧ y < b
 le : ∃ y x, P y x = true ∧ x = l
 ri : ∃ y x, P y x = true ∧ x + 1 = r
 up : ∃ y x, P y x = true ∧ y = t
 lo : ∃ y x, P y x = true ∧ y + 1 = b
theorem BoxP.same {P : Nat → Nat → Bool} {l t r b l' t' r' b' : Nat} (h : BoxP P l t r b) (k : BoxP P l' t' r' b') : l = l' ∧ t = t' ∧ r = r' ∧ b = b' := by
 obtain ⟨y1, x1, a1, e1⟩ := h.le
 obtain ⟨y2, x2, a2, e2⟩ := k.le
 obtain ⟨y3, x3, a3, e3⟩ := h.ri
 obtain ⟨y4, x4, a4, e4⟩ := k.ri
 obtain ⟨y5, x5, a5, e5⟩ := h.up
 obtain ⟨y6, x6, a6, e6⟩ := k.up
 obtain ⟨y7, x7, a7, e7⟩ := h.lo
 obtain ⟨y8, x8, a8, e8⟩ := k.lo
 have := h.inn _ _ a2
 have := h.inn _ _ a4
 have := h.inn _ _ a6
 have := h.inn _ _ a8
 have := k.inn _ _ a1
 have := k.inn _ _ a3
 have := k.inn _ _ a5
 have := k.inn _ _ a7
 omega
theorem bbx_spec (W H : Nat) (xs : List Int) : ∀ m, m ≤ W * H →
  ((∀ i, i < m → xs.getD i 0 ≠ 1) ∧ bbx W H xs m = ⟨W, H, 0, 0⟩) ∨
  ((∀ i, i < m → xs.getD i 0 = 1 → (bbx W H xs m).l ≤ i % W ∧ i % W < (bbx W H xs m).r ∧ (bbx W H xs m).t ≤ i / W ∧ i / W < (bbx W H xs m).b) ∧
   (∃ i, i < m ∧ xs.getD i 0 = 1 ∧ i % W = (bbx W H xs m).l) ∧ (∃ i, i < m ∧ xs.getD i 0 = 1 ∧ i % W + 1 = (bbx W H xs m).r) ∧ (∃ i, i < m ∧ xs.getD i 0 = 1 ∧ i / W = (bbx W H xs m).t) ∧ (∃ i, i < m ∧ xs.getD i 0 = 1 ∧ i / W + 1 = (bbx W H xs m).b)) := by
 intro m
 induction m with
 | zero => intro _; left; exact ⟨fun i h => by omega, rfl⟩
 | succ m ih =>
  intro hm
  obtain ⟨x, y, hx, hy, ex, ey, -⟩ := split_lt (W := W) (H := H) (i := m) (by omega)
  by_cases q : xs.getD m 0 = 1
  ·right
   rw [bbx_yes q]
   dsimp only
   rcases ih (by omega) with ⟨h0, h1⟩ | ⟨h0, h1, h2, h3, h4⟩
   ·rw [h1]
    dsimp only
    rw [ex, ey]
    refine ⟨fun i hi hc => ?_, ⟨m, by omega, q, by rw [ex]; omega⟩, ⟨m, by omega, q, by rw [ex]; omega⟩, ⟨m, by omega, q, by rw [ey]; omega⟩, ⟨m, by omega, q, by rw [ey]; omega⟩⟩
    have : i = m := by
     rcases Nat.lt_or_ge i m with u | u
     ·exact absurd hc (h0 i u)
     ·omega
    subst this
    rw [ex, ey]
    omega
   ·obtain ⟨i1, l1, c1, e1⟩ := h1
    obtain ⟨i2, l2, c2, e2⟩ := h2
    obtain ⟨i3, l3, c3, e3⟩ := h3
    obtain ⟨i4, l4, c4, e4⟩ := h4
    rw [ex, ey]
    refine ⟨fun i hi hc => ?_, ?_, ?_, ?_, ?_⟩
    ·rcases Nat.lt_or_ge i m with u | u
     ·have := h0 i u hc; omega
     ·have : i = m := by omega
      subst this
      rw [ex, ey]; omega
    ·rcases Nat.le_total (bbx W H xs m).l x with u | u
     ·exact ⟨i1, by omega, c1, by omega⟩
     ·exact ⟨m, by omega, q, by omega⟩
    ·rcases Nat.le_total (bbx W H xs m).r (x + 1) with u | u
     ·exact ⟨m, by omega, q, by omega⟩
     ·exact ⟨i2, by omega, c2, by omega⟩
    ·rcases Nat.le_total (bbx W H xs m).t y with u | u
     ·exact ⟨i3, by omega, c3, by omega⟩
     ·exact ⟨m, by omega, q, by omega⟩
    ·rcases Nat.le_total (bbx W H xs m).b (y + 1) with u | u
     ·exact ⟨m, by omega, q, by omega⟩
     ·exact ⟨i4, by omega, c4, by omega⟩
  ·rw [bbx_no q]
   rcases ih (by omega) with ⟨h0, h1⟩ | ⟨h0, h1, h2, h3, h4⟩
   ·left
    refine ⟨fun i hi => ?_, h1⟩
    rcases Nat.lt_or_ge i m with u | u
    ·exact h0 i u
    ·have : i = m := by omega
     subst this; exact q
   ·right
    obtain ⟨i1, l1, c1, e1⟩ := h1
    obtain ⟨i2, l2, c2, e2⟩ := h2
    obtain ⟨i3, l3, c3, e3⟩ := h3
    obtain ⟨i4, l4, c4, e4⟩ := h4
    refine ⟨fun i hi hc => ?_, ⟨i1, by omega, c1, e1⟩, ⟨i2, by omega, c2, e2⟩, ⟨i3, by omega, c3, e3⟩, ⟨i4, by omega, c4, e4⟩⟩
    rcases Nat.lt_or_ge i m with u | u
    ·exact h0 i u hc
    ·have : i = m := by omega
     subst this; exact absurd hc q
theorem cellP_of {q : Pat} {i : Nat} (hi : i < q.W * q.H) : cellP q (i / q.W) (i % q.W) = decide (q.xs.getD i 0 = 1) := by
 obtain ⟨x, y, hx, hy, ex, ey, e⟩ := split_lt hi
 unfold cellP
 rw [ex, ey, e]
 simp [hx, hy]
theorem cellP_at {q : Pat} {y x : Nat} (h : cellP q y x = true) : x < q.W ∧ y < q.H ∧ y * q.W + x < q.W * q.H ∧ q.xs.getD (y * q.W + x) 0 = 1 ∧ (y * q.W + x) % q.W = x ∧ (y * q.W + x) / q.W = y := by
 unfold cellP at h
 simp only [Bool.and_eq_true, decide_eq_true_eq] at h
 obtain ⟨⟨h1, h2⟩, h3⟩ := h
 refine ⟨h1, h2, mk_lt h1 h2, h3, ?_, ?_⟩
 ·rw [Nat.mul_comm, Nat.mul_add_mod]; exact Nat.mod_eq_of_lt h1
 ·rw [Nat.mul_comm, Nat.mul_add_div (by omega), Nat.div_eq_of_lt h1, Nat.add_zero]
theorem trim_cases (q : Pat) :
  ((∀ y x, cellP q y x = false) ∧ trimP q = (⟨0, 0, []⟩, 0, 0)) ∨
  (∃ l t r b, BoxP (cellP q) l t r b ∧ trimP q = (⟨r - l, b - t, winP q.W l t (r - l) ((r - l) * (b - t)) q.xs⟩, l, t)) := by
 have sp := bbx_spec q.W q.H q.xs (q.W * q.H) (Nat.le_refl _)
 unfold trimP
 dsimp only
 rcases sp with ⟨h0, h1⟩ | ⟨h0, h1, h2, h3, h4⟩
 ·left
  refine ⟨fun y x => ?_, by rw [h1, if_pos rfl]⟩
  cases hc : cellP q y x with
  | false => rfl
  | true => obtain ⟨a, b, c, d, -⟩ := cellP_at hc; exact absurd d (h0 _ c)
 ·right
  obtain ⟨i1, l1, c1, e1⟩ := h1
  obtain ⟨i2, l2, c2, e2⟩ := h2
  obtain ⟨i3, l3, c3, e3⟩ := h3
  obtain ⟨i4, l4, c4, e4⟩ := h4
  refine ⟨_, _, _, _, ⟨fun y x hc => ?_, ⟨i1 / q.W, i1 % q.W, by rw [cellP_of l1]; simpa using c1, e1⟩, ⟨i2 / q.W, i2 % q.W, by rw [cellP_of l2]; simpa using c2, e2⟩, ⟨i3 / q.W, i3 % q.W, by rw [cellP_of l3]; simpa using c3, e3⟩, ⟨i4 / q.W, i4 % q.W, by rw [cellP_of l4]; simpa using c4, e4⟩⟩, by rw [if_neg (by omega)]⟩
  obtain ⟨a, b, c, d, e, f⟩ := cellP_at hc
  have := h0 _ c d
  rw [e, f] at this
  exact this
theorem orA_test (X : Nat → Nat) (h j : Nat) : ∀ n, (orA X h n).testBit j = (List.range n).any fun y => (X (y * 2 + h)).testBit j
 | 0 => by simp [orA]
 | n + 1 => by rw [orA, Nat.testBit_or, orA_test X h j n, List.range_succ, List.any_append]; simp
def rowE (X : Nat → Nat) (y : Nat) : Prop := X (y * 2) = 0 ∧ X (y * 2 + 1) = 0
theorem orA_zero (X : Nat → Nat) : ∀ n, (orA X 0 n = 0 ∧ orA X 1 n = 0) ↔ ∀ y, y < n → rowE X y
 | 0 => by simp [orA]
 | n + 1 => by
  have ih := orA_zero X n
  rw [orA, orA, Nat.or_eq_zero_iff, Nat.or_eq_zero_iff]
  constructor
  ·rintro ⟨⟨a, b⟩, c, d⟩ y hy
   rcases Nat.lt_or_ge y n with u | u
   ·exact ih.1 ⟨a, c⟩ y u
   ·have : y = n := by omega
    subst this; exact ⟨b, d⟩
  ·intro h
   obtain ⟨a, c⟩ := ih.2 (fun y hy => h y (by omega))
   obtain ⟨b, d⟩ := h n (by omega)
   exact ⟨⟨a, b⟩, c, d⟩
theorem liv_spec (X : Nat → Nat) : ∀ n, ((∀ y, y < n → rowE X y) ∧ livF X n = 0 ∧ livT X n = 0) ∨ (livF X n < livT X n ∧ livT X n ≤ n ∧ ¬ rowE X (livF X n) ∧ (∀ y, y < livF X n → rowE X y) ∧ ¬ rowE X (livT X n - 1) ∧ ∀ y, livT X n ≤ y → y < n → rowE X y)
 | 0 => by left; exact ⟨fun y h => by omega, rfl, rfl⟩
 | n + 1 => by
  have ih := liv_spec X n
  rw [livF, livT]
  by_cases z : X (n * 2) = 0 ∧ X (n * 2 + 1) = 0
  ·rw [if_pos z, if_pos z]
   rcases ih with ⟨h0, h1, h2⟩ | ⟨h1, h2, h3, h4, h5, h6⟩
   ·left
    refine ⟨fun y hy => ?_, h1, h2⟩
    rcases Nat.lt_or_ge y n with u | u
    ·exact h0 y u
    ·have : y = n := by omega
     subst this; exact z
   ·right
    refine ⟨h1, by omega, h3, h4, h5, fun y hy1 hy2 => ?_⟩
    rcases Nat.lt_or_ge y n with u | u
    ·exact h6 y hy1 u
    ·have : y = n := by omega
     subst this; exact z
  ·rw [if_neg z, if_neg z]
   right
   rcases ih with ⟨h0, h1, h2⟩ | ⟨h1, h2, h3, h4, h5, h6⟩
   ·rw [if_pos ((orA_zero X n).2 h0)]
    exact ⟨by omega, by omega, z, h0, by rw [Nat.add_sub_cancel]; exact z, fun y a b => by omega⟩
   ·have : ¬ (orA X 0 n = 0 ∧ orA X 1 n = 0) := fun h => h3 ((orA_zero X n).1 h _ (by omega))
    rw [if_neg this]
    exact ⟨by omega, by omega, h3, h4, by rw [Nat.add_sub_cancel]; exact z, fun y a b => by omega⟩
theorem wX_zero {q : Pat} {y : Nat} (hW : q.W ≤ 128) : rowE (wX q) y ↔ ∀ x, cellP q y x = false := by
 constructor
 ·rintro ⟨a, b⟩ x
  by_cases h : x < 128
  ·rw [← wX_rb q y x h, a, b]; unfold rb; split <;> simp
  ·cases hc : cellP q y x with
   | false => rfl
   | true => have := (cellP_at hc).1; omega
 ·intro h
  refine ⟨?_, ?_⟩
  ·have : (0 : Nat) = wX q (y * 2) := wX_is (by omega) (fun j hj => by rw [show y * 2 / 2 = y by omega, h]; simp)
   exact this.symm
  ·have : (0 : Nat) = wX q (y * 2 + 1) := wX_is (by omega) (fun j hj => by rw [show (y * 2 + 1) / 2 = y by omega, h]; simp)
   exact this.symm
theorem or_rb (q : Pat) (x : Nat) (hx : x < 128) (n : Nat) : rb (orA (wX q) 0 n) (orA (wX q) 1 n) x = (List.range n).any fun y => cellP q y x := by
 unfold rb
 have e : ∀ y, cellP q y x = rb (wX q (y * 2)) (wX q (y * 2 + 1)) x := fun y => (wX_rb q y x hx).symm
 by_cases h : x < 64
 ·rw [if_pos h, orA_test]
  congr 1
  funext y
  rw [e, rb, if_pos h]; rfl
 ·rw [if_neg h, orA_test]
  congr 1
  funext y
  rw [e, rb, if_neg h]
theorem living_none {q : Pat} (hW : q.W ≤ 128) (h : ∀ y x, cellP q y x = false) : endsF (orA (wX q) 0 102) (orA (wX q) 1 102) = endsE (orA (wX q) 0 102) (orA (wX q) 1 102) ∧ livF (wX q) 102 = livT (wX q) 102 := by
 have z : ∀ y, y < 102 → rowE (wX q) y := fun y _ => (wX_zero hW).2 (h y)
 have o := (orA_zero (wX q) 102).2 z
 rw [o.1, o.2]
 refine ⟨rfl, ?_⟩
 rcases liv_spec (wX q) 102 with ⟨_, h1, h2⟩ | ⟨h1, h2, h3, _⟩
 ·omega
 ·exact absurd (z _ (by omega)) h3
theorem living_box {q : Pat} (hW : q.W ≤ 128) (hH : q.H ≤ 102) {y0 x0 : Nat} (hl : cellP q y0 x0 = true) : BoxP (cellP q) (endsF (orA (wX q) 0 102) (orA (wX q) 1 102)) (livF (wX q) 102) (endsE (orA (wX q) 0 102) (orA (wX q) 1 102)) (livT (wX q) 102) ∧ endsE (orA (wX q) 0 102) (orA (wX q) 1 102) ≤ 128 ∧ livT (wX q) 102 ≤ 102 := by
 have hy0 := (cellP_at hl).2.1
 have nz : ¬ (orA (wX q) 0 102 = 0 ∧ orA (wX q) 1 102 = 0) := fun h => by
  have := (wX_zero hW).1 ((orA_zero (wX q) 102).1 h y0 (by omega)) x0
  rw [hl] at this; cases this
 have hX : ∀ k, k < 102 * 2 → wX q k < 18446744073709551616 := fun k _ => wX_lt q k
 have E := ends_is (orA_lt (n := 102) hX (by omega) 102 (by omega)) (orA_lt (n := 102) hX (by omega) 102 (by omega)) nz
 have any : ∀ x, x < 128 → ((rb (orA (wX q) 0 102) (orA (wX q) 1 102) x = true) ↔ ∃ y, cellP q y x = true) := fun x hx => by
  rw [or_rb q x hx, List.any_eq_true]
  constructor
  ·rintro ⟨y, _, h⟩; exact ⟨y, h⟩
  ·rintro ⟨y, h⟩; exact ⟨y, List.mem_range.2 (by have := (cellP_at h).2.1; omega), h⟩
 rcases liv_spec (wX q) 102 with ⟨h0, _⟩ | ⟨h1, h2, h3, h4, h5, h6⟩
 ·exact absurd ((orA_zero (wX q) 102).2 h0) nz
 ·have row : ∀ y, ¬ rowE (wX q) y → ∃ x, cellP q y x = true := fun y h => by
   rcases Classical.em (∃ x, cellP q y x = true) with k | k
   ·exact k
   ·exact absurd ((wX_zero hW).2 (fun x => by cases hc : cellP q y x with | false => rfl | true => exact absurd ⟨x, hc⟩ k)) h
  have lt := E.lt
  have le := E.le
  refine ⟨⟨fun y x hc => ?_, ?_, ?_, ?_, ?_⟩, E.le, h2⟩
  ·have hx := (cellP_at hc).1
   have hy := (cellP_at hc).2.1
   have r := (any x (by omega)).2 ⟨y, hc⟩
   refine ⟨?_, ?_, ?_, ?_⟩
   ·rcases Nat.lt_or_ge x (endsF (orA (wX q) 0 102) (orA (wX q) 1 102)) with u | u
    ·rw [E.ahead x u] at r; cases r
    ·exact u
   ·rcases Nat.lt_or_ge x (endsE (orA (wX q) 0 102) (orA (wX q) 1 102)) with u | u
    ·exact u
    ·rw [E.behind x u (by omega)] at r; cases r
   ·rcases Nat.lt_or_ge y (livF (wX q) 102) with u | u
    ·have := (wX_zero hW).1 (h4 y u) x; rw [hc] at this; cases this
    ·exact u
   ·rcases Nat.lt_or_ge y (livT (wX q) 102) with u | u
    ·exact u
    ·have := (wX_zero hW).1 (h6 y u (by omega)) x; rw [hc] at this; cases this
  ·obtain ⟨y, h⟩ := (any _ (by omega)).1 E.first
   exact ⟨y, _, h, rfl⟩
  ·obtain ⟨y, h⟩ := (any _ (by omega)).1 E.last
   exact ⟨y, _, h, by omega⟩
  ·obtain ⟨x, h⟩ := row _ h3
   exact ⟨_, x, h, rfl⟩
  ·obtain ⟨x, h⟩ := row _ h5
   exact ⟨_, x, h, by omega⟩
theorem trim_cell {q : Pat} {l t r b : Nat} (hB : BoxP (cellP q) l t r b) (y x : Nat) :
  cellP ⟨r - l, b - t, winP q.W l t (r - l) ((r - l) * (b - t)) q.xs⟩ y x = (decide (x < r - l) && decide (y < b - t) && cellP q (t + y) (l + x)) := by
 unfold cellP
 dsimp only
 by_cases hx : x < r - l
 ·by_cases hy : y < b - t
  ·have i1 : y * (r - l) + x < (r - l) * (b - t) := mk_lt hx hy
   have m1 : (y * (r - l) + x) % (r - l) = x := by rw [Nat.mul_comm, Nat.mul_add_mod]; exact Nat.mod_eq_of_lt hx
   have d1 : (y * (r - l) + x) / (r - l) = y := by rw [Nat.mul_comm, Nat.mul_add_div (by omega), Nat.div_eq_of_lt hx, Nat.add_zero]
   have g : (winP q.W l t (r - l) ((r - l) * (b - t)) q.xs).getD (y * (r - l) + x) 0 = q.xs.getD ((t + y) * q.W + (l + x)) 0 := by
    unfold winP winC atP
    simp [List.getD, i1, m1, d1]
   obtain ⟨y1, x1, c1, e1⟩ := hB.ri
   obtain ⟨y2, x2, c2, e2⟩ := hB.lo
   have w1 := (cellP_at c1).1
   have w2 := (cellP_at c2).2.1
   rw [g]
   simp [hx, hy, show l + x < q.W by omega, show t + y < q.H by omega]
  ·simp [hx, hy]
 ·simp [hx]
theorem boxed_words {q : Pat} {l t r b : Nat} (hB : BoxP (cellP q) l t r b) (hr : r ≤ 128) (k : Nat) : bxX (wX q) t l (b - t) k = wX ⟨r - l, b - t, winP q.W l t (r - l) ((r - l) * (b - t)) q.xs⟩ k := by
 have lr : l < 128 := by obtain ⟨y, x, c, e⟩ := hB.le; have := hB.inn _ _ c; omega
 have lt : bxX (wX q) t l (b - t) k < 18446744073709551616 := by
  unfold bxX
  split
  ·split
   ·exact lft0_lt (wX_lt ..) (wX_lt ..)
   ·exact lft1_lt (wX_lt ..)
  ·omega
 refine wX_is lt (fun j hj => ?_)
 rw [trim_cell hB]
 obtain ⟨y, hy⟩ : ∃ y, k / 2 = y := ⟨_, rfl⟩
 obtain ⟨x, hx⟩ : ∃ x, 64 * (k % 2) + j = x := ⟨_, rfl⟩
 have x128 : x < 128 := by omega
 unfold bxX
 rw [hy, hx]
 by_cases hh : y < b - t
 ·rw [if_pos hh]
  have e : (if k % 2 = 0 then lft0 (wX q ((t + y) * 2)) (wX q ((t + y) * 2 + 1)) l else lft1 (wX q ((t + y) * 2 + 1)) l).testBit j = rb (lft0 (wX q ((t + y) * 2)) (wX q ((t + y) * 2 + 1)) l) (lft1 (wX q ((t + y) * 2 + 1)) l) x := by
   unfold rb
   by_cases m : k % 2 = 0
   ·rw [if_pos m, if_pos (by omega)]; congr 1; omega
   ·rw [if_neg m, if_neg (by omega)]; congr 1; omega
  rw [e, rb_left (wX_lt ..) (wX_lt ..) x128 lr]
  by_cases s : x + l < 128
  ·rw [wX_rb q (t + y) (x + l) s, Nat.add_comm x l]
   by_cases hx2 : x < r - l
   ·simp [hh, hx2, show l + x < 128 by omega]
   ·have : cellP q (t + y) (l + x) = false := by
     cases hc : cellP q (t + y) (l + x) with
     | false => rfl
     | true => have := hB.inn _ _ hc; omega
    simp [hx2, this]
  ·have : ¬ x < r - l := by omega
   simp [s, this]
 ·rw [if_neg hh]; simp [hh]
def rbL (a b x : Nat) : Bool := decide (0 < x) && rb a b (x - 1)
def rbR (a b x : Nat) : Bool := decide (x + 1 < 128) && rb a b (x + 1)
theorem become_rb {born stay a0 a1 h0 h1 b0 b1 x : Nat} (ha0 : a0 < 18446744073709551616) (ha1 : a1 < 18446744073709551616) (hh0 : h0 < 18446744073709551616) (hh1 : h1 < 18446744073709551616) (hb0 : b0 < 18446744073709551616) (hb1 : b1 < 18446744073709551616) (hx : x < 128) (cn : Nat)
  (hc : (rbL a0 a1 x).toNat + (rb a0 a1 x).toNat + (rbR a0 a1 x).toNat + (rbL h0 h1 x).toNat + (rbR h0 h1 x).toNat + (rbL b0 b1 x).toNat + (rb b0 b1 x).toNat + (rbR b0 b1 x).toNat = cn) :
  rb (becR0 born stay a0 a1 h0 h1 b0 b1) (becR1 born stay a0 a1 h0 h1 b0 b1) x = if rb h0 h1 x then stay.testBit cn else born.testBit cn := by
 have ra := rb_right (b := a1) ha0 hx
 have rh := rb_right (b := h1) hh0 hx
 have rbb := rb_right (b := b1) hb0 hx
 have la := rb_left ha0 ha1 hx (show 1 < 128 by omega)
 have lh := rb_left hh0 hh1 hx (show 1 < 128 by omega)
 have lb := rb_left hb0 hb1 hx (show 1 < 128 by omega)
 rw [← rbL.eq_def] at ra rh rbb
 rw [← rbR.eq_def] at la lh lb
 rw [← ra, ← rh, ← rbb, ← la, ← lh, ← lb] at hc
 unfold rb at hc ⊢
 by_cases h : x < 64
 ·rw [if_pos h, if_pos h]
  simp only [if_pos h] at hc
  exact becW_test (rgt0_lt _) ha0 (lft0_lt ha0 ha1) (rgt0_lt _) hh0 (lft0_lt hh0 hh1) (rgt0_lt _) hb0 (lft0_lt hb0 hb1) h cn hc
 ·rw [if_neg h, if_neg h]
  simp only [if_neg h] at hc
  exact becW_test (rgt1_lt ha0) ha1 (lft1_lt ha1) (rgt1_lt hh0) hh1 (lft1_lt hh1) (rgt1_lt hb0) hb1 (lft1_lt hb1) (by omega) cn hc
def c2 (q : Pat) (y x : Nat) : Bool := decide (2 ≤ y) && decide (2 ≤ x) && cellP q (y - 2) (x - 2)
def nb2 (q : Pat) (y x : Nat) : Nat := (c2 q y x).toNat + (c2 q y (x + 1)).toNat + (c2 q y (x + 2)).toNat + (c2 q (y + 1) x).toNat + (c2 q (y + 1) (x + 2)).toNat + (c2 q (y + 2) x).toNat + (c2 q (y + 2) (x + 1)).toNat + (c2 q (y + 2) (x + 2)).toNat
def nxB (born stay : Nat) (q : Pat) (y x : Nat) : Bool := if c2 q (y + 1) (x + 1) then stay.testBit (nb2 q y x) else born.testBit (nb2 q y x)
def nextC (born stay : Nat) (q : Pat) : Pat := ⟨q.W + 2, q.H + 2, (List.range ((q.W + 2) * (q.H + 2))).map fun i => if nxB born stay q (i / (q.W + 2)) (i % (q.W + 2)) then 1 else 0⟩
theorem nextC_cell (born stay : Nat) (q : Pat) (y x : Nat) : cellP (nextC born stay q) y x = (decide (x < q.W + 2) && decide (y < q.H + 2) && nxB born stay q y x) := by
 unfold cellP nextC
 dsimp only
 by_cases hx : x < q.W + 2
 ·by_cases hy : y < q.H + 2
  ·have i1 : y * (q.W + 2) + x < (q.W + 2) * (q.H + 2) := mk_lt hx hy
   have m1 : (y * (q.W + 2) + x) % (q.W + 2) = x := by rw [Nat.mul_comm, Nat.mul_add_mod]; exact Nat.mod_eq_of_lt hx
   have d1 : (y * (q.W + 2) + x) / (q.W + 2) = y := by rw [Nat.mul_comm, Nat.mul_add_div (by omega), Nat.div_eq_of_lt hx, Nat.add_zero]
   simp only [List.getD, List.getElem?_map, List.getElem?_range i1, Option.map_some, Option.getD_some, m1, d1, hx, hy, decide_true, Bool.true_and]
   cases nxB born stay q y x <;> simp
  ·simp [hy]
 ·simp [hx]
theorem tR_rb (q : Pat) (hW : q.W ≤ 100) (j x : Nat) (hx : x < 128) : rb (tR0 (wX q) q.H j) (tR1 (wX q) q.H j) x = c2 q j (x + 1) := by
 unfold tR0 tR1 c2
 by_cases h : 2 ≤ j ∧ j - 2 < q.H
 ·rw [if_pos h, if_pos h, rb_right (wX_lt ..) hx]
  by_cases h0 : 0 < x
  ·rw [wX_rb q (j - 2) (x - 1) (by omega), show x + 1 - 2 = x - 1 by omega]
   simp [h.1, h0, show 2 ≤ x + 1 by omega]
  ·simp [h0, show ¬ 2 ≤ x + 1 by omega]
 ·rw [if_neg h, if_neg h]
  have z : rb 0 0 x = false := by unfold rb; split <;> simp
  rw [z]
  by_cases h1 : 2 ≤ j
  ·have : cellP q (j - 2) (x + 1 - 2) = false := by
    cases hc : cellP q (j - 2) (x + 1 - 2) with
    | false => rfl
    | true => have := (cellP_at hc).2.1; omega
   rw [this]; simp
  ·simp [h1]
theorem c2_far {q : Pat} {y x : Nat} (h : q.W + 2 ≤ x) : c2 q y x = false := by
 unfold c2
 cases hc : cellP q (y - 2) (x - 2) with
 | false => simp
 | true => have := (cellP_at hc).1; omega
theorem nxB_far {born stay : Nat} {q : Pat} {y x : Nat} (hb : born.testBit 0 = false) (h : q.W + 2 ≤ x) : nxB born stay q y x = false := by
 unfold nxB nb2
 rw [c2_far (x := x + 1) (by omega), c2_far (x := x) h, c2_far (x := x + 1) (by omega), c2_far (x := x + 2) (by omega), c2_far (x := x) h, c2_far (x := x + 2) (by omega), c2_far (x := x) h, c2_far (x := x + 1) (by omega), c2_far (x := x + 2) (by omega)]
 simpa using hb
theorem step_words {born stay : Nat} {q : Pat} (hb : born.testBit 0 = false) (hW : q.W ≤ 100) (k : Nat) : stepX born stay (wX q) q.H (q.H + 2) k = wX (nextC born stay q) k := by
 have hX : ∀ k, wX q k < 18446744073709551616 := wX_lt q
 have lt : stepX born stay (wX q) q.H (q.H + 2) k < 18446744073709551616 := by
  unfold stepX
  split
  ·split
   ·exact becW_lt (tR0_lt ..)
   ·exact becW_lt (tR1_lt hX)
  ·omega
 refine wX_is lt (fun j hj => ?_)
 rw [nextC_cell]
 obtain ⟨y, hy⟩ : ∃ y, k / 2 = y := ⟨_, rfl⟩
 obtain ⟨x, hx⟩ : ∃ x, 64 * (k % 2) + j = x := ⟨_, rfl⟩
 have x128 : x < 128 := by omega
 unfold stepX
 rw [hy, hx]
 by_cases hh : y < q.H + 2
 ·rw [if_pos hh]
  have e : (if k % 2 = 0 then becR0 born stay (tR0 (wX q) q.H y) (tR1 (wX q) q.H y) (tR0 (wX q) q.H (y + 1)) (tR1 (wX q) q.H (y + 1)) (tR0 (wX q) q.H (y + 2)) (tR1 (wX q) q.H (y + 2)) else becR1 born stay (tR0 (wX q) q.H y) (tR1 (wX q) q.H y) (tR0 (wX q) q.H (y + 1)) (tR1 (wX q) q.H (y + 1)) (tR0 (wX q) q.H (y + 2)) (tR1 (wX q) q.H (y + 2))).testBit j = rb (becR0 born stay (tR0 (wX q) q.H y) (tR1 (wX q) q.H y) (tR0 (wX q) q.H (y + 1)) (tR1 (wX q) q.H (y + 1)) (tR0 (wX q) q.H (y + 2)) (tR1 (wX q) q.H (y + 2))) (becR1 born stay (tR0 (wX q) q.H y) (tR1 (wX q) q.H y) (tR0 (wX q) q.H (y + 1)) (tR1 (wX q) q.H (y + 1)) (tR0 (wX q) q.H (y + 2)) (tR1 (wX q) q.H (y + 2))) x := by
   unfold rb
   by_cases m : k % 2 = 0
   ·rw [if_pos m, if_pos (by omega)]; congr 1; omega
   ·rw [if_neg m, if_neg (by omega)]; congr 1; omega
  have L : ∀ i, rbL (tR0 (wX q) q.H i) (tR1 (wX q) q.H i) x = c2 q i x := fun i => by
   unfold rbL
   by_cases h0 : 0 < x
   ·rw [tR_rb q hW i (x - 1) (by omega), show x - 1 + 1 = x by omega]; simp [h0]
   ·simp [h0, c2, show ¬ 2 ≤ x by omega]
  have R : ∀ i, rbR (tR0 (wX q) q.H i) (tR1 (wX q) q.H i) x = c2 q i (x + 2) := fun i => by
   unfold rbR
   by_cases h0 : x + 1 < 128
   ·rw [tR_rb q hW i (x + 1) h0]; simp [h0]
   ·rw [c2_far (by omega)]; simp [h0]
  rw [e, become_rb (tR0_lt ..) (tR1_lt hX) (tR0_lt ..) (tR1_lt hX) (tR0_lt ..) (tR1_lt hX) x128 (nb2 q y x) (by rw [L, L, L, R, R, R, tR_rb q hW _ x x128, tR_rb q hW _ x x128]; rfl), tR_rb q hW _ x x128]
  by_cases hx2 : x < q.W + 2
  ·simp [hh, hx2, nxB]
  ·have := nxB_far (born := born) (stay := stay) (y := y) hb (show q.W + 2 ≤ x by omega)
   simp [hx2]
   simpa [nxB] using this
 ·rw [if_neg hh]; simp [hh]
structure Gst where
 P : Pat
 r : Int
 d : Int
def grV (s : Gst) : Array Value := arrF 208 (grF (wX s.P) (s.P.W : Int) (s.P.H : Int) s.r s.d)
theorem grV_size (s : Gst) : (grV s).size = 208 := arrF_size ..
theorem grV_all (s : Gst) : (grV s).all (·.oneCell') = true := grF_all ..
def noG : Gst := ⟨⟨0, 0, []⟩, 0, 0⟩
theorem noG_zero : Tryz.zeroCells110 = grV noG := by
 rw [zero_grown]
 refine arrF_ext fun k hk => ?_
 unfold grF uF
 have : wX noG.P k = 0 := by
  have := wX_is (q := noG.P) (k := k) (a := 0) (by omega) (fun j hj => by simp [cellP, noG])
  exact this.symm
 rw [this]
 rfl
def boxG (q : Pat) (R D : Int) : Gst := if (trimP q).1.W = 0 then noG else ⟨(trimP q).1, R + ((trimP q).2.1 : Int), D + ((trimP q).2.2 : Int)⟩
theorem uF_words {f g : Nat → Nat} (h : ∀ k, f k = g k) : arrF 204 (uF f) = arrF 204 (uF g) := arrF_ext fun k _ => by unfold uF; rw [h k]
theorem boxed_pat (q : Pat) (R D : Int) (w : World) (hW : q.W ≤ 128) (hH : q.H ≤ 102) (hT : TzTab w) (R1 : -1000000000 ≤ R) (R2 : R ≤ 1000000000) (D1 : -1000000000 ≤ D) (D2 : D ≤ 1000000000) :
  Calls Tryz.prog 74 #[.agg (arrF 204 (uF (wX q))), .int .i64 R, .int .i64 D] w fun e w' => e = .returned (.agg (grV (boxG q R D))) ∧ Below w.heap.size w w' := by
 unfold boxG
 rcases trim_cases q with ⟨h0, h1⟩ | ⟨l, t, r, b, hB, h1⟩
 ·rw [h1, if_pos rfl, ← noG_zero]
  obtain ⟨e1, e2⟩ := living_none hW h0
  exact boxed_none (wX q) R D w (fun k _ => wX_lt q k) hT e1 e2
 ·obtain ⟨y0, x0, c0, -⟩ := hB.le
  obtain ⟨k, k1, k2⟩ := living_box hW hH c0
  obtain ⟨e1, e2, e3, e4⟩ := hB.same k
  have lr := hB.inn _ _ c0
  have g := boxed_some (wX q) t b l r R D w (fun k _ => wX_lt q k) hT e1.symm e3.symm e2.symm e4.symm (by omega) (by omega) (by omega) (by omega) R1 R2 D1 D2
  rw [h1]
  dsimp only
  rw [if_neg (by omega)]
  have a1 : ((r : Int) - (l : Int)) = ((r - l : Nat) : Int) := by omega
  have a2 : ((b : Int) - (t : Int)) = ((b - t : Nat) : Int) := by omega
  rw [a1, a2] at g
  have a3 : arrF 208 (grF (bxX (wX q) t l (b - t)) ((r - l : Nat) : Int) ((b - t : Nat) : Int) (R + (l : Int)) (D + (t : Int))) = grV ⟨⟨r - l, b - t, winP q.W l t (r - l) ((r - l) * (b - t)) q.xs⟩, R + (l : Int), D + (t : Int)⟩ := by
   refine arrF_ext fun k _ => ?_
   unfold grF uF
   rw [boxed_words hB (by omega)]
  rw [a3] at g
  exact g
def firstG (p : Pat) : Gst := boxG p 0 0
def nextG (born stay : Nat) (s : Gst) : Gst := boxG (nextC born stay s.P) (s.r - 1) (s.d - 1)
theorem settle_pat (W H : Nat) (xs : List Int) (a : Option Addr) (n c : Nat) (w : World) (hP : ArgP w xs a n c) (hn : xs.length = W * H) (hx : ∀ k, 0 ≤ xs.getD k 0 ∧ xs.getD k 0 ≤ 1) (hW : W ≤ 100) (hH : H ≤ 100) (hT : TzTab w) :
  Calls Tryz.prog 41 #[.agg #[.int .i64 (W : Int), .int .i64 (H : Int), .slice a n c]] w fun e w' => e = .returned (.agg (grV (firstG ⟨W, H, xs⟩))) ∧ Below w.heap.size w w' := by
 refine settle_any W H xs a n c (grV (firstG ⟨W, H, xs⟩)) w hP hn hx hW hH hT (grV_size _) (grV_all _) (fun w' ht => ?_)
 rw [uF_words (fun k => settle_words (show W ≤ 128 by omega) hx k)]
 exact boxed_pat ⟨W, H, xs⟩ 0 0 w' (by show W ≤ 128; omega) (by show H ≤ 102; omega) ht (by omega) (by omega) (by omega) (by omega)
theorem step_pat (kd st ra : Int) (born stay : Nat) (ta : Option Addr) (tn tc : Nat) (sb : ByteArray) (s : Gst) (w : World) (hb : born ≤ 511) (hs : stay ≤ 511) (b0 : born.testBit 0 = false) (hW : s.P.W ≤ 100) (hH : s.P.H ≤ 100) (hT : TzTab w) (R1 : -100000000 ≤ s.r) (R2 : s.r ≤ 100000000) (D1 : -100000000 ≤ s.d) (D2 : s.d ≤ 100000000) :
  Calls Tryz.prog 42 #[.agg (grV s), .agg #[.int .i64 kd, .int .i64 (born : Int), .int .i64 (stay : Int), .int .i64 st, .int .i64 ra, .slice ta tn tc, .string sb]] w fun e w' => e = .returned (.agg (grV (nextG born stay s))) ∧ Below w.heap.size w w' := by
 refine step_any kd st ra born stay ta tn tc sb (wX s.P) (s.P.W : Int) s.P.H s.r s.d (grV (nextG born stay s)) w hb hs (wX_lt s.P) hH hT R1 R2 D1 D2 (grV_size _) (grV_all _) (fun w' ht => ?_)
 rw [uF_words (fun k => step_words b0 hW k)]
 exact boxed_pat (nextC born stay s.P) (s.r - 1) (s.d - 1) w' (by show s.P.W + 2 ≤ 128; omega) (by show s.P.H + 2 ≤ 102; omega) ht (by omega) (by omega) (by omega) (by omega)
structure GOk (s : Gst) : Prop where
 len : s.P.xs.length = s.P.W * s.P.H
 bits : ∀ k, 0 ≤ s.P.xs.getD k 0 ∧ s.P.xs.getD k 0 ≤ 1
theorem noG_ok : GOk noG := ⟨rfl, fun k => by simp [noG]⟩
theorem win_bits {W l t V N : Nat} {xs : List Int} (h : ∀ k, 0 ≤ xs.getD k 0 ∧ xs.getD k 0 ≤ 1) (k : Nat) : 0 ≤ (winP W l t V N xs).getD k 0 ∧ (winP W l t V N xs).getD k 0 ≤ 1 := by
 unfold winP
 by_cases q : k < N
 ·have e : ((List.range N).map (winC W l t V xs)).getD k 0 = winC W l t V xs k := by simp [List.getD, q]
  rw [e]
  exact h _
 ·have e : ((List.range N).map (winC W l t V xs)).getD k 0 = 0 := by simp [List.getD, q]
  rw [e]; omega
theorem box_ok {q : Pat} (h : ∀ k, 0 ≤ q.xs.getD k 0 ∧ q.xs.getD k 0 ≤ 1) (R D : Int) : GOk (boxG q R D) := by
 unfold boxG
 rcases trim_cases q with ⟨h0, h1⟩ | ⟨l, t, r, b, hB, h1⟩
 ·rw [h1, if_pos rfl]; exact noG_ok
 ·rw [h1]
  dsimp only
  split
  ·exact noG_ok
  ·exact ⟨by simp [winP], fun k => win_bits h k⟩
theorem next_bits (born stay : Nat) (q : Pat) (k : Nat) : 0 ≤ (nextC born stay q).xs.getD k 0 ∧ (nextC born stay q).xs.getD k 0 ≤ 1 := by
 unfold nextC
 dsimp only
 by_cases z : k < (q.W + 2) * (q.H + 2)
 ·simp only [List.getD, List.getElem?_map, List.getElem?_range z, Option.map_some, Option.getD_some]
  split <;> omega
 ·have e : ∀ f : Nat → Int, ((List.range ((q.W + 2) * (q.H + 2))).map f).getD k 0 = 0 := fun f => by simp [List.getD, z]
  rw [e]; omega
theorem next_ok (born stay : Nat) (s : Gst) : GOk (nextG born stay s) := box_ok (next_bits born stay s.P) _ _
theorem box_near {q : Pat} {R D : Int} {m : Int} (hW : (q.W : Int) ≤ 102) (hH : (q.H : Int) ≤ 102) (R1 : -m - 1 ≤ R) (R2 : R ≤ m) (D1 : -m - 1 ≤ D) (D2 : D ≤ m) (m0 : 0 ≤ m) : -m - 102 ≤ (boxG q R D).r ∧ (boxG q R D).r ≤ m + 102 ∧ -m - 102 ≤ (boxG q R D).d ∧ (boxG q R D).d ≤ m + 102 := by
 unfold boxG
 rcases trim_cases q with ⟨h0, h1⟩ | ⟨l, t, r, b, hB, h1⟩
 ·rw [h1, if_pos rfl]; simp [noG]; omega
 ·rw [h1]
  dsimp only
  split
  ·simp [noG]; omega
  ·obtain ⟨y, x, c, e⟩ := hB.le
   obtain ⟨y2, x2, c2, e2⟩ := hB.up
   have := (cellP_at c).1
   have := (cellP_at c2).2.1
   dsimp only
   omega
def growG (born stay : Nat) (s : Gst) : Nat → Option Gst
 | 0 => some s
 | n + 1 => match growG born stay s n with
  | none => none
  | some u => if 100 < (nextG born stay u).P.W ∨ 100 < (nextG born stay u).P.H then none else some (nextG born stay u)
structure RT (w wr : World) (W H W' H' : Nat) (a : Option Addr) (n c : Nat) (v : Value) (ys : List Int) : Prop where
 box : TB w.heap.size (.int .i64 (W : Int)) (.int .i64 (H : Int)) (.slice a n c) wr
 res : TB (w.heap.size + 1) (.int .i64 0) (.int .i64 0) (.slice none 0 0) wr
 q : TB (w.heap.size + 2) (.int .i64 (W' : Int)) (.int .i64 (H' : Int)) v wr
 own : wr.ownsRow (w.heap.size + 3) 3 1 v ys.length (ys.map fun x => .int .i64 x)
 below : Below w.heap.size w wr
 sz : w.heap.size + 3 ≤ wr.heap.size
theorem RT.next {w wr w' : World} {W H W' H' : Nat} {a : Option Addr} {n c : Nat} {v : Value} {ys : List Int} (h : RT w wr W H W' H' a n c v ys) (hb : Below wr.heap.size wr w') : RT w w' W H W' H' a n c v ys := by
 have hz := h.sz
 exact ⟨h.box.next hb, h.res.next hb, h.q.next hb, ownsRow_from h.own fun k _ hk => hb.block k hk, h.below.trans (hb.mono (by omega)), by have := hb.size; omega⟩
theorem RT.grown {w wr w' : World} {W H W' H' : Nat} {a : Option Addr} {n c : Nat} {v : Value} {ys : List Int} (h : RT w wr W H W' H' a n c v ys) (x : Int) (hg : (wr.alloc (.cells #[.int .i64 x] 3)).grownBy w' v.ownBlock) : ∀ k, k < w.heap.size + 3 → w'.heap[k]? = wr.heap[k]? := fun k hk => by
 have hz := h.sz
 have hob := ownsRow_block h.own
 rw [hg.block k (by rw [World.size_alloc]; omega) (fun e => by have := hob k e.symm; omega)]
 exact Below.heap_alloc _ _ _ (by omega)
theorem RT.start (w : World) (W H W' H' : Nat) (a : Option Addr) (n c : Nat) (t1 t2 t3 : TypeId) : RT w (((w.alloc (.cells #[.int .i64 (W : Int), .int .i64 (H : Int), .slice a n c] t1)).alloc (.cells #[.int .i64 0, .int .i64 0, .slice none 0 0] t2)).alloc (.cells #[.int .i64 (W' : Int), .int .i64 (H' : Int), .slice none 0 0] t3)) W H W' H' a n c (.slice none 0 0) [] := by
 have r1 := TB.new (w.alloc (.cells #[.int .i64 (W : Int), .int .i64 (H : Int), .slice a n c] t1)) (.int .i64 0) (.int .i64 0) (.slice none 0 0) t2
 have r2 := TB.new ((w.alloc (.cells #[.int .i64 (W : Int), .int .i64 (H : Int), .slice a n c] t1)).alloc (.cells #[.int .i64 0, .int .i64 0, .slice none 0 0] t2)) (.int .i64 (W' : Int)) (.int .i64 (H' : Int)) (.slice none 0 0) t3
 rw [World.size_alloc] at r1 r2
 rw [World.size_alloc] at r2
 exact ⟨((TB.new w _ _ _ t1).alloc _).alloc _, r1.alloc _, r2, ⟨by simp, Or.inl ⟨rfl, by simp⟩⟩, (((Below.refl _ _).alloc (Nat.le_refl _) _).alloc (by simp) _).alloc (by simp; omega) _, by simp⟩
def c2I (q : Pat) (y x : Nat) : Int := ((c2 q y x).toNat : Int)
theorem becN_nx (born stay : Nat) (q : Pat) (y x : Nat) : ((becN born stay (c2I q (y + 1) (x + 1)) (nb2 q y x) : Nat) : Int) = if nxB born stay q y x then 1 else 0 := by
 unfold becN nxB c2I
 cases c2 q (y + 1) (x + 1)
 ·simp only [Bool.toNat_false, Bool.false_eq_true, if_false]
  rw [if_neg (by decide), bitN, Nat.testBit_eq_decide_div_mod_eq]
  by_cases h : born / 2 ^ nb2 q y x % 2 = 1
  ·simp [h]
  ·have : born / 2 ^ nb2 q y x % 2 = 0 := by omega
   simp [this]
 ·simp only [Bool.toNat_true, if_true]
  rw [if_pos (by decide), bitN, Nat.testBit_eq_decide_div_mod_eq]
  by_cases h : stay / 2 ^ nb2 q y x % 2 = 1
  ·simp [h]
  ·have : stay / 2 ^ nb2 q y x % 2 = 0 := by omega
   simp [this]

end Go.Proofs.YtemhcpldflcfbaaGreatDoor
