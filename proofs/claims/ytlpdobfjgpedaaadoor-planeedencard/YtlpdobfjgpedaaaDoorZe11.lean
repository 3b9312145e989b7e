/-
  What the last text of this claim leans on, part 11: Gq3.
-/
import Derived.Test.YtlpdobfjgpedaaaDoorZe10
import Derived.Test.YtlpdobfjgpedaaaDoorZe7
namespace Go.Proofs.YtlpdobfjgpedaaaDoor
open Go.RowKit
set_option linter.unusedVariables false

def rgt0 (a : Nat) : Nat := a * 2 % 18446744073709551616
def rgt1 (a b : Nat) : Nat := b * 2 % 18446744073709551616 ||| a / 9223372036854775808
set_option maxRecDepth 100000 in
set_option maxHeartbeats 3200000 in
theorem right_any (a b : Nat) (w : World) (ha : a < 18446744073709551616) (hb : b < 18446744073709551616) :
    Calls Tryd.prog 67 #[.agg #[.int .u64 (a : Int), .int .u64 (b : Int)]] w fun e w' => e = .returned (.agg #[.int .u64 ((rgt0 a : Nat) : Int), .int .u64 ((rgt1 a b : Nat) : Int)]) ∧ Below w.heap.size w w' := by
  obtain ⟨r0, h0⟩ : ∃ r0, rgt0 a = r0 := ⟨_, rfl⟩
  obtain ⟨r1, h1⟩ : ∃ r1, rgt1 a b = r1 := ⟨_, rfl⟩
  have x1 : IntKind.u64.wrap ((a : Int) * 2) = (r0 : Int) := by rw [IntKind.wrap_u64, ← h0, rgt0]; simp
  obtain ⟨q, hq⟩ : ∃ q, b * 2 % 18446744073709551616 = q := ⟨_, rfl⟩
  obtain ⟨s, hs⟩ : ∃ s, a / 9223372036854775808 = s := ⟨_, rfl⟩
  have x2 : IntKind.u64.wrap ((b : Int) * 2) = (q : Int) := by rw [IntKind.wrap_u64, ← hq]; simp
  have x3 : (a : Int) / 9223372036854775808 = (s : Int) := by rw [← hs]; simp
  have x4 := bits_or_u64_nat q s (by omega) (by omega)
  rw [show q ||| s = r1 by rw [← h1, rgt1, hq, hs]] at x4
  rw [h0, h1]
  clear h0 h1 hq hs
  go_enter Tryd.func67, Tryd.ntmps67
  go_wp2
  refine bodyPost_ret (v := .agg #[.int .u64 (r0 : Int), .int .u64 (r1 : Int)]) (by simp [results, Tryd.results67, go_sem]) rfl ?_
  exact ⟨rfl, by repeat (first | exact Below.refl _ _ | refine Below.alloc ?_ (by simp) _ | refine Below.setCell ?_ (by simp) _)⟩
def lftU (k : Nat) : Nat := (64 + 18446744073709551616 - k) % 18446744073709551616
def lftV (k : Nat) : Nat := (k + 18446744073709551616 - 64) % 18446744073709551616
def lft0 (a b k : Nat) : Nat := (a / 2 ^ min k 64 ||| b * 2 ^ min (lftU k) 64 % 18446744073709551616) ||| b / 2 ^ min (lftV k) 64
def lft1 (b k : Nat) : Nat := b / 2 ^ min k 64
theorem div_ltW {a k : Nat} (ha : a < 18446744073709551616) : a / 2 ^ k < 18446744073709551616 := Nat.lt_of_le_of_lt (Nat.div_le_self _ _) ha
set_option maxRecDepth 100000 in
set_option maxHeartbeats 3200000 in
theorem left_any (a b k : Nat) (w : World) (ha : a < 18446744073709551616) (hb : b < 18446744073709551616) (hk : k < 128) :
    Calls Tryd.prog 85 #[.agg #[.int .u64 (a : Int), .int .u64 (b : Int)], .int .u64 (k : Int)] w fun e w' => e = .returned (.agg #[.int .u64 ((lft0 a b k : Nat) : Int), .int .u64 ((lft1 b k : Nat) : Int)]) ∧ Below w.heap.size w w' := by
  obtain ⟨l0, h0⟩ : ∃ l0, lft0 a b k = l0 := ⟨_, rfl⟩
  obtain ⟨l1, h1⟩ : ∃ l1, lft1 b k = l1 := ⟨_, rfl⟩
  obtain ⟨u, hu⟩ : ∃ u, lftU k = u := ⟨_, rfl⟩
  obtain ⟨v, hv⟩ : ∃ v, lftV k = v := ⟨_, rfl⟩
  obtain ⟨p, hp⟩ : ∃ p, a / 2 ^ min k 64 = p := ⟨_, rfl⟩
  obtain ⟨q, hq⟩ : ∃ q, b * 2 ^ min u 64 % 18446744073709551616 = q := ⟨_, rfl⟩
  obtain ⟨r, hr⟩ : ∃ r, b / 2 ^ min v 64 = r := ⟨_, rfl⟩
  have pl : p < 18446744073709551616 := by rw [← hp]; exact div_ltW ha
  have rl : r < 18446744073709551616 := by rw [← hr]; exact div_ltW hb
  have ql : q < 18446744073709551616 := by omega
  have x1 : (a : Int) / 2 ^ min k 64 = (p : Int) := by rw [← hp]; simp
  have x2 : IntKind.u64.wrap (64 - (k : Int)) = (u : Int) := by rw [IntKind.wrap_u64, ← hu, lftU]; omega
  have x2' : IntKind.u64.wrap ((k : Int) - 64) = (v : Int) := by rw [IntKind.wrap_u64, ← hv, lftV]; omega
  have x3 : IntKind.u64.wrap ((b : Int) * 2 ^ min u 64) = (q : Int) := by rw [IntKind.wrap_u64, ← hq]; simp
  have x4 : (b : Int) / 2 ^ min v 64 = (r : Int) := by rw [← hr]; simp
  have x5 := bits_or_u64_nat p q pl ql
  have ol : p ||| q < 18446744073709551616 := Nat.or_lt_two_pow (n := 64) pl ql
  have x6 := bits_or_u64_nat (p ||| q) r ol rl
  have x7 : (b : Int) / 2 ^ min k 64 = (l1 : Int) := by rw [← h1, lft1]; simp
  obtain ⟨s, hs⟩ : ∃ s, p ||| q = s := ⟨_, rfl⟩
  rw [hs] at x5 x6
  rw [show s ||| r = l0 by rw [← h0, lft0, hu, hv, hp, hq, hr, hs]] at x6
  rw [h0, h1]
  clear h0 h1 hq hs hu hv hp hr ol
  go_enter Tryd.func85, Tryd.ntmps85
  go_wp2
  refine bodyPost_ret (v := .agg #[.int .u64 (l0 : Int), .int .u64 (l1 : Int)]) (by simp [results, Tryd.results85, go_sem]) rfl ?_
  exact ⟨rfl, by repeat (first | exact Below.refl _ _ | refine Below.alloc ?_ (by simp) _ | refine Below.setCell ?_ (by simp) _)⟩

/-- A row's cell. -/
def rb (a b x : Nat) : Bool := if x < 64 then a.testBit x else b.testBit (x - 64)
theorem rgt0_lt (a : Nat) : rgt0 a < 18446744073709551616 := Nat.mod_lt _ (by decide)
theorem rgt1_lt {a b : Nat} (ha : a < 18446744073709551616) : rgt1 a b < 18446744073709551616 := Nat.or_lt_two_pow (n := 64) (Nat.mod_lt _ (by decide)) (by omega)
theorem lft1_lt {b k : Nat} (hb : b < 18446744073709551616) : lft1 b k < 18446744073709551616 := div_ltW hb
theorem lft0_lt {a b k : Nat} (ha : a < 18446744073709551616) (hb : b < 18446744073709551616) : lft0 a b k < 18446744073709551616 :=
  Nat.or_lt_two_pow (n := 64) (Nat.or_lt_two_pow (n := 64) (div_ltW ha) (Nat.mod_lt _ (by decide))) (div_ltW hb)
theorem test_hi {a j : Nat} (ha : a < 18446744073709551616) (hj : 64 ≤ j) : a.testBit j = false :=
  Nat.testBit_lt_two_pow (Nat.lt_of_lt_of_le (show a < 2 ^ 64 from ha) (Nat.pow_le_pow_right (by omega) hj))
theorem test_div (a k j : Nat) : (a / 2 ^ k).testBit j = a.testBit (k + j) := by rw [Nat.testBit_div_two_pow, Nat.add_comm]
theorem test_mul (a k j : Nat) : (a * 2 ^ k % 18446744073709551616).testBit j = (decide (j < 64) && (decide (k ≤ j) && a.testBit (j - k))) := by
  rw [show (18446744073709551616 : Nat) = 2 ^ 64 from rfl, Nat.testBit_mod_two_pow, ← Nat.shiftLeft_eq, Nat.testBit_shiftLeft]
theorem rb_right {a b x : Nat} (ha : a < 18446744073709551616) (hx : x < 128) : rb (rgt0 a) (rgt1 a b) x = (decide (0 < x) && rb a b (x - 1)) := by
  have t0 := test_mul a 1 x
  have t1 := test_mul b 1 (x - 64)
  have t2 := test_div a 63 (x - 64)
  rw [show (2 : Nat) ^ 1 = 2 from rfl] at t0 t1
  rw [show (2 : Nat) ^ 63 = 9223372036854775808 from rfl] at t2
  unfold rb rgt0 rgt1
  by_cases h : x < 64
  · rw [if_pos h, t0]
    have : x - 1 < 64 := by omega
    rw [if_pos this]
    by_cases h1 : 0 < x
    · simp [h, h1, show 1 ≤ x by omega]
    · simp [show x = 0 by omega]
  · rw [if_neg h, Nat.testBit_or, t1, t2]
    by_cases h1 : x = 64
    · subst h1; simp
    · rw [test_hi ha (by omega)]
      simp [show x - 64 < 64 by omega, show 1 ≤ x - 64 by omega, show ¬ x - 1 < 64 by omega, show 0 < x by omega, show x - 64 - 1 = x - 1 - 64 by omega]
theorem rb_left {a b x k : Nat} (ha : a < 18446744073709551616) (hb : b < 18446744073709551616) (hx : x < 128) (hk : k < 128) : rb (lft0 a b k) (lft1 b k) x = (decide (x + k < 128) && rb a b (x + k)) := by
  unfold rb lft0 lft1
  by_cases h : x < 64
  · rw [if_pos h, Nat.testBit_or, Nat.testBit_or, test_div, test_mul, test_div]
    by_cases k1 : k < 64
    · have e1 : min k 64 = k := by omega
      have e2 : lftU k = 64 - k := by unfold lftU; omega
      have e3 : 64 ≤ lftV k := by unfold lftV; omega
      rw [e1, e2, show min (64 - k) 64 = 64 - k by omega, show min (lftV k) 64 = 64 by omega, test_hi hb (show 64 ≤ 64 + x by omega)]
      by_cases q : x + k < 64
      · simp [q, h, show ¬ 64 - k ≤ x by omega, show x + k < 128 by omega, Nat.add_comm k x]
      · rw [test_hi ha (show 64 ≤ k + x by omega)]
        simp [q, h, show 64 - k ≤ x by omega, show x + k < 128 by omega, show x - (64 - k) = x + k - 64 by omega]
    · have e1 : min k 64 = 64 := by omega
      have e3 : lftV k = k - 64 := by unfold lftV; omega
      rw [e1, test_hi ha (show 64 ≤ 64 + x by omega), e3, show min (k - 64) 64 = k - 64 by omega]
      by_cases q : k = 64
      · subst q
        have e2 : lftU 64 = 0 := by unfold lftU; omega
        rw [e2]
        simp [h, show x + 64 < 128 by omega, show ¬ x + 64 < 64 by omega]
      · have e2 : 64 ≤ lftU k := by unfold lftU; omega
        rw [show min (lftU k) 64 = 64 by omega]
        by_cases q2 : x + k < 128
        · simp [h, q2, show ¬ 64 ≤ x by omega, show ¬ x + k < 64 by omega, show k - 64 + x = x + k - 64 by omega]
        · rw [test_hi hb (show 64 ≤ k - 64 + x by omega)]
          simp [q2, show ¬ 64 ≤ x by omega]
  · rw [if_neg h, test_div]
    by_cases q2 : x + k < 128
    · simp [q2, show ¬ x + k < 64 by omega, show min k 64 = k by omega, show k + (x - 64) = x + k - 64 by omega]
    · rw [test_hi hb (show 64 ≤ min k 64 + (x - 64) by omega)]
      simp [q2]
end Go.Proofs.YtlpdobfjgpedaaaDoor

