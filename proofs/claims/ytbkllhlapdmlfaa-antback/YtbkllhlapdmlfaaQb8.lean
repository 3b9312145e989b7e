/-
  What the last text of this claim leans on, part 8: Gq1, Gq3, Gr1.
-/
import Derived.Test.YtbkllhlapdmlfaaQb7
import Derived.Laws.Bits64b
import Derived.Laws.BitsAllLaws
import Derived.Lib.TrailingZeros
import Derived.Lib.BitFns
namespace Go.Proofs.Ytbkllhlapdmlfaa
set_option linter.unusedVariables false

def bitsF (f : Nat → Bool) : Nat → Nat
  | 0 => 0
  | n + 1 => bitsF f n + if f n then 2 ^ n else 0
theorem bitsF_lt (f : Nat → Bool) : ∀ n, bitsF f n < 2 ^ n
  | 0 => by simp [bitsF]
  | n + 1 => by
    have := bitsF_lt f n
    rw [bitsF, Nat.pow_succ]
    split <;> omega
theorem bitsF_test (f : Nat → Bool) : ∀ n i, (bitsF f n).testBit i = (decide (i < n) && f i)
  | 0, i => by simp [bitsF]
  | n + 1, i => by
    have h := bitsF_lt f n
    have ih := bitsF_test f n i
    rw [bitsF]
    by_cases hf : f n = true
    · rw [if_pos hf]
      rw [show bitsF f n + 2 ^ n = 2 ^ n * 1 + bitsF f n by omega, Nat.testBit_two_pow_mul_add _ h]
      by_cases hi : i < n
      · rw [if_pos hi, ih]; simp [hi]; omega
      · rw [if_neg hi]
        by_cases hn : i = n
        · subst hn; simp [hf]
        · have : ¬ i < n + 1 := by omega
          simp [this]
          have : 1 ≤ i - n := by omega
          obtain ⟨k, hk⟩ : ∃ k, i - n = k + 1 := ⟨i - n - 1, by omega⟩
          rw [hk, Nat.testBit_succ]; simp
    · rw [if_neg hf, Nat.add_zero, ih]
      by_cases hn : i = n
      · subst hn; simp [hf]
      · have : (i < n + 1) ↔ (i < n) := by omega
        simp [this]
theorem bitsF_ext {f g : Nat → Bool} {n : Nat} (h : ∀ i, i < n → f i = g i) : bitsF f n = bitsF g n := by
  apply Nat.eq_of_testBit_eq
  intro i
  rw [bitsF_test, bitsF_test]
  by_cases hi : i < n
  · rw [h i hi]
  · simp [hi]
theorem bitsF_is {f : Nat → Bool} {n a : Nat} (ha : a < 2 ^ n) (h : ∀ i, i < n → a.testBit i = f i) : a = bitsF f n := by
  apply Nat.eq_of_testBit_eq
  intro i
  rw [bitsF_test]
  by_cases hi : i < n
  · rw [h i hi]; simp [hi]
  · rw [Nat.testBit_lt_two_pow (Nat.lt_of_lt_of_le ha (Nat.pow_le_pow_right (by omega) (by omega)))]; simp [hi]
theorem test_comp {b j : Nat} (hb : b < 18446744073709551616) (hj : j < 64) : (18446744073709551615 - b).testBit j = !b.testBit j := by
  have := Nat.testBit_two_pow_sub_succ (x := b) (n := 64) (by simpa using hb) j
  rw [show (2 : Nat) ^ 64 - (b + 1) = 18446744073709551615 - b by omega] at this
  rw [this]; simp [hj]
theorem test_ones {j : Nat} (hj : j < 64) : Nat.testBit 18446744073709551615 j = true := by
  have := test_comp (b := 0) (by decide) hj
  simpa using this
def addS (a b c : Nat) : Nat := a ^^^ b ^^^ c
def addC (a b c : Nat) : Nat := (a &&& b) ||| (c &&& (a ^^^ b))
theorem addS_lt {a b c : Nat} (ha : a < 2 ^ 64) (hb : b < 2 ^ 64) (hc : c < 2 ^ 64) : addS a b c < 2 ^ 64 := Nat.xor_lt_two_pow (Nat.xor_lt_two_pow ha hb) hc
theorem addC_lt {a b c : Nat} (ha : a < 2 ^ 64) (hb : b < 2 ^ 64) (hc : c < 2 ^ 64) : addC a b c < 2 ^ 64 := Nat.or_lt_two_pow (Nat.and_lt_two_pow _ hb) (Nat.and_lt_two_pow _ (Nat.xor_lt_two_pow ha hb))
/-- One digit of a number of neighbours, as it is asked. -/
def digM (t : Bool) (d : Nat) : Nat := if t then d else 18446744073709551615 - d
theorem digM_lt {t : Bool} {d : Nat} (h : d < 2 ^ 64) : digM t d < 2 ^ 64 := by unfold digM; split <;> omega
def dgN (d0 d1 d2 d3 : Nat) : Nat → Nat
  | 0 => d0
  | 1 => d1
  | 2 => d2
  | _ => d3
def thoseN (k d0 d1 d2 d3 : Nat) : Nat → Nat
  | 0 => 18446744073709551615
  | i + 1 => thoseN k d0 d1 d2 d3 i &&& digM (k.testBit i) (dgN d0 d1 d2 d3 i)
theorem thoseN_lt (k d0 d1 d2 d3 : Nat) : ∀ i, thoseN k d0 d1 d2 d3 i < 2 ^ 64
  | 0 => by simp [thoseN]
  | i + 1 => Nat.lt_of_le_of_lt Nat.and_le_left (thoseN_lt k d0 d1 d2 d3 i)
theorem thoseN_four (k d0 d1 d2 d3 : Nat) : thoseN k d0 d1 d2 d3 4 = 18446744073709551615 &&& digM (k.testBit 0) d0 &&& digM (k.testBit 1) d1 &&& digM (k.testBit 2) d2 &&& digM (k.testBit 3) d3 := rfl
def maskN (t : Bool) : Nat := if t then 18446744073709551615 else 0
def chosenN (born stay h d0 d1 d2 d3 : Nat) : Nat → Nat
  | 0 => 0
  | k + 1 => chosenN born stay h d0 d1 d2 d3 k ||| (thoseN k d0 d1 d2 d3 4 &&& ((maskN (born.testBit k) &&& (18446744073709551615 - h)) ||| (maskN (stay.testBit k) &&& h)))
theorem chosenN_lt {born stay h d0 d1 d2 d3 : Nat} (hh : h < 2 ^ 64) : ∀ k, chosenN born stay h d0 d1 d2 d3 k < 2 ^ 64
  | 0 => by simp [chosenN]
  | k + 1 => by
    rw [chosenN]
    refine Nat.or_lt_two_pow (chosenN_lt hh k) (Nat.and_lt_two_pow _ (Nat.or_lt_two_pow (Nat.and_lt_two_pow _ (by omega)) (Nat.and_lt_two_pow _ hh)))
theorem digM_test {t : Bool} {d j : Nat} (hd : d < 18446744073709551616) (hj : j < 64) : (digM t d).testBit j = (d.testBit j == t) := by
  unfold digM
  cases t
  · simp [test_comp hd hj]
  · simp
theorem maskN_test {t : Bool} {j : Nat} (hj : j < 64) : (maskN t).testBit j = t := by
  unfold maskN
  cases t
  · simp
  · simp [test_ones hj]
/-- The number that four digits write. -/
def cntD (a b c d : Bool) : Nat := a.toNat + 2 * b.toNat + 4 * c.toNat + 8 * d.toNat
theorem those_test {k d0 d1 d2 d3 j : Nat} (h0 : d0 < 18446744073709551616) (h1 : d1 < 18446744073709551616) (h2 : d2 < 18446744073709551616) (h3 : d3 < 18446744073709551616) (hj : j < 64) (hk : k < 16) :
    (thoseN k d0 d1 d2 d3 4).testBit j = decide (cntD (d0.testBit j) (d1.testBit j) (d2.testBit j) (d3.testBit j) = k) := by
  rw [thoseN_four, Nat.testBit_and, Nat.testBit_and, Nat.testBit_and, Nat.testBit_and, digM_test h0 hj, digM_test h1 hj, digM_test h2 hj, digM_test h3 hj, test_ones hj]
  have key : ∀ a b c d : Bool, ∀ k : Fin 16, ((((true && a == (k : Nat).testBit 0) && b == (k : Nat).testBit 1) && c == (k : Nat).testBit 2) && d == (k : Nat).testBit 3) = decide (cntD a b c d = k) := by decide
  exact key _ _ _ _ ⟨k, hk⟩
theorem chosenN_test {born stay h d0 d1 d2 d3 j : Nat} (h0 : d0 < 18446744073709551616) (h1 : d1 < 18446744073709551616) (h2 : d2 < 18446744073709551616) (h3 : d3 < 18446744073709551616) (hh : h < 18446744073709551616) (hj : j < 64) :
    ∀ k, k ≤ 9 → (chosenN born stay h d0 d1 d2 d3 k).testBit j = (decide (cntD (d0.testBit j) (d1.testBit j) (d2.testBit j) (d3.testBit j) < k) && (if h.testBit j then stay.testBit (cntD (d0.testBit j) (d1.testBit j) (d2.testBit j) (d3.testBit j)) else born.testBit (cntD (d0.testBit j) (d1.testBit j) (d2.testBit j) (d3.testBit j))))
  | 0, _ => by simp [chosenN]
  | k + 1, hk => by
    rw [chosenN, Nat.testBit_or, Nat.testBit_and, Nat.testBit_or, Nat.testBit_and, Nat.testBit_and, those_test h0 h1 h2 h3 hj (by omega), maskN_test hj, maskN_test hj, test_comp hh hj, chosenN_test h0 h1 h2 h3 hh hj k (by omega)]
    generalize cntD (d0.testBit j) (d1.testBit j) (d2.testBit j) (d3.testBit j) = c
    by_cases hc : c = k
    · subst hc
      cases h.testBit j <;> simp
    · have : (c < k + 1) ↔ (c < k) := by omega
      simp [hc, this]
/-- What becomes of a word, all around it being known. -/
def becW (born stay al a ar hl h hr bl b br : Nat) : Nat :=
  chosenN born stay h
    (addS (addS al a ar) (addS bl b br) (addS hl hr 0))
    (addS (addS (addC al a ar) (addC bl b br) (addC hl hr 0)) (addC (addS al a ar) (addS bl b br) (addS hl hr 0)) 0)
    (addS (addC (addC al a ar) (addC bl b br) (addC hl hr 0)) (addC (addS (addC al a ar) (addC bl b br) (addC hl hr 0)) (addC (addS al a ar) (addS bl b br) (addS hl hr 0)) 0) 0)
    (addC (addC (addC al a ar) (addC bl b br) (addC hl hr 0)) (addC (addS (addC al a ar) (addC bl b br) (addC hl hr 0)) (addC (addS al a ar) (addS bl b br) (addS hl hr 0)) 0) 0) 9
theorem addS_test (a b c j : Nat) : (addS a b c).testBit j = (a.testBit j ^^ b.testBit j ^^ c.testBit j) := by simp [addS]
theorem addC_test (a b c j : Nat) : (addC a b c).testBit j = ((a.testBit j && b.testBit j) || (c.testBit j && (a.testBit j ^^ b.testBit j))) := by simp [addC]
theorem adders : ∀ al a ar hl hr bl b br : Bool,
    cntD (((al ^^ a ^^ ar) ^^ (bl ^^ b ^^ br)) ^^ (hl ^^ hr ^^ false))
      ((((al && a || ar && (al ^^ a)) ^^ (bl && b || br && (bl ^^ b))) ^^ (hl && hr || false && (hl ^^ hr))) ^^ ((al ^^ a ^^ ar) && (bl ^^ b ^^ br) || (hl ^^ hr ^^ false) && ((al ^^ a ^^ ar) ^^ (bl ^^ b ^^ br))) ^^ false)
      ((((al && a || ar && (al ^^ a)) && (bl && b || br && (bl ^^ b)) || (hl && hr || false && (hl ^^ hr)) && ((al && a || ar && (al ^^ a)) ^^ (bl && b || br && (bl ^^ b)))) ^^ ((((al && a || ar && (al ^^ a)) ^^ (bl && b || br && (bl ^^ b))) ^^ (hl && hr || false && (hl ^^ hr))) && ((al ^^ a ^^ ar) && (bl ^^ b ^^ br) || (hl ^^ hr ^^ false) && ((al ^^ a ^^ ar) ^^ (bl ^^ b ^^ br))) || false && ((((al && a || ar && (al ^^ a)) ^^ (bl && b || br && (bl ^^ b))) ^^ (hl && hr || false && (hl ^^ hr))) ^^ ((al ^^ a ^^ ar) && (bl ^^ b ^^ br) || (hl ^^ hr ^^ false) && ((al ^^ a ^^ ar) ^^ (bl ^^ b ^^ br)))))) ^^ false)
      ((((al && a || ar && (al ^^ a)) && (bl && b || br && (bl ^^ b)) || (hl && hr || false && (hl ^^ hr)) && ((al && a || ar && (al ^^ a)) ^^ (bl && b || br && (bl ^^ b)))) && ((((al && a || ar && (al ^^ a)) ^^ (bl && b || br && (bl ^^ b))) ^^ (hl && hr || false && (hl ^^ hr))) && ((al ^^ a ^^ ar) && (bl ^^ b ^^ br) || (hl ^^ hr ^^ false) && ((al ^^ a ^^ ar) ^^ (bl ^^ b ^^ br))) || false && ((((al && a || ar && (al ^^ a)) ^^ (bl && b || br && (bl ^^ b))) ^^ (hl && hr || false && (hl ^^ hr))) ^^ ((al ^^ a ^^ ar) && (bl ^^ b ^^ br) || (hl ^^ hr ^^ false) && ((al ^^ a ^^ ar) ^^ (bl ^^ b ^^ br)))))) || false && ((((al && a || ar && (al ^^ a)) && (bl && b || br && (bl ^^ b)) || (hl && hr || false && (hl ^^ hr)) && ((al && a || ar && (al ^^ a)) ^^ (bl && b || br && (bl ^^ b)))) ^^ ((((al && a || ar && (al ^^ a)) ^^ (bl && b || br && (bl ^^ b))) ^^ (hl && hr || false && (hl ^^ hr))) && ((al ^^ a ^^ ar) && (bl ^^ b ^^ br) || (hl ^^ hr ^^ false) && ((al ^^ a ^^ ar) ^^ (bl ^^ b ^^ br))) || false && ((((al && a || ar && (al ^^ a)) ^^ (bl && b || br && (bl ^^ b))) ^^ (hl && hr || false && (hl ^^ hr))) ^^ ((al ^^ a ^^ ar) && (bl ^^ b ^^ br) || (hl ^^ hr ^^ false) && ((al ^^ a ^^ ar) ^^ (bl ^^ b ^^ br))))))))
    = al.toNat + a.toNat + ar.toNat + hl.toNat + hr.toNat + bl.toNat + b.toNat + br.toNat := by
  intro al a ar hl hr bl b br
  cases al <;> cases a <;> cases ar <;> cases hl <;> cases hr <;> cases bl <;> cases b <;> cases br <;> rfl
theorem becW_test {born stay al a ar hl h hr bl b br j : Nat} (h1 : al < 2 ^ 64) (h2 : a < 2 ^ 64) (h3 : ar < 2 ^ 64) (h4 : hl < 2 ^ 64) (h5 : h < 2 ^ 64) (h6 : hr < 2 ^ 64) (h7 : bl < 2 ^ 64) (h8 : b < 2 ^ 64) (h9 : br < 2 ^ 64) (hj : j < 64) (cn : Nat)
    (hc : (al.testBit j).toNat + (a.testBit j).toNat + (ar.testBit j).toNat + (hl.testBit j).toNat + (hr.testBit j).toNat + (bl.testBit j).toNat + (b.testBit j).toNat + (br.testBit j).toNat = cn) :
    (becW born stay al a ar hl h hr bl b br).testBit j = if h.testBit j then stay.testBit cn else born.testBit cn := by
  have z : (0 : Nat) < 2 ^ 64 := by decide
  have o := addS_lt h1 h2 h3
  have u := addC_lt h1 h2 h3
  have m := addS_lt h7 h8 h9
  have l := addC_lt h7 h8 h9
  have s := addS_lt h4 h6 z
  have t := addC_lt h4 h6 z
  have tw := addS_lt u l t
  have fo := addC_lt u l t
  have ct := addC_lt o m s
  have cf := addC_lt tw ct z
  have A := adders (al.testBit j) (a.testBit j) (ar.testBit j) (hl.testBit j) (hr.testBit j) (bl.testBit j) (b.testBit j) (br.testBit j)
  rw [hc] at A
  have cl : cn ≤ 8 := by
    have q : ∀ x : Bool, x.toNat ≤ 1 := by decide
    have := q (al.testBit j); have := q (a.testBit j); have := q (ar.testBit j); have := q (hl.testBit j); have := q (hr.testBit j); have := q (bl.testBit j); have := q (b.testBit j); have := q (br.testBit j)
    omega
  unfold becW
  rw [chosenN_test (addS_lt o m s) (addS_lt tw ct z) (addS_lt fo cf z) (addC_lt fo cf z) h5 hj 9 (Nat.le_refl _)]
  simp only [addS_test, addC_test, Nat.zero_testBit]
  rw [A]
  have : cn < 9 := by omega
  simp [this]
end Go.Proofs.Ytbkllhlapdmlfaa

namespace Go.Proofs.Ytbkllhlapdmlfaa
open Go.RowKit
set_option linter.unusedVariables false

def rgt0 (a : Nat) : Nat := a * 2 % 18446744073709551616
def rgt1 (a b : Nat) : Nat := b * 2 % 18446744073709551616 ||| a / 9223372036854775808
def lftU (k : Nat) : Nat := (64 + 18446744073709551616 - k) % 18446744073709551616
def lftV (k : Nat) : Nat := (k + 18446744073709551616 - 64) % 18446744073709551616
def lft0 (a b k : Nat) : Nat := (a / 2 ^ min k 64 ||| b * 2 ^ min (lftU k) 64 % 18446744073709551616) ||| b / 2 ^ min (lftV k) 64
def lft1 (b k : Nat) : Nat := b / 2 ^ min k 64
theorem div_ltW {a k : Nat} (ha : a < 18446744073709551616) : a / 2 ^ k < 18446744073709551616 := Nat.lt_of_le_of_lt (Nat.div_le_self _ _) ha
/-- A row's cell. -/
def rb (a b x : Nat) : Bool := if x < 64 then a.testBit x else b.testBit (x - 64)
theorem rgt0_lt (a : Nat) : rgt0 a < 18446744073709551616 := Nat.mod_lt _ (by decide)
theorem rgt1_lt {a b : Nat} (ha : a < 18446744073709551616) : rgt1 a b < 18446744073709551616 := Nat.or_lt_two_pow (n := 64) (Nat.mod_lt _ (by decide)) (by omega)
theorem lft1_lt {b k : Nat} (hb : b < 18446744073709551616) : lft1 b k < 18446744073709551616 := div_ltW hb
theorem lft0_lt {a b k : Nat} (ha : a < 18446744073709551616) (hb : b < 18446744073709551616) : lft0 a b k < 18446744073709551616 :=
  Nat.or_lt_two_pow (n := 64) (Nat.or_lt_two_pow (n := 64) (div_ltW ha) (Nat.mod_lt _ (by decide))) (div_ltW hb)
theorem test_hi {a j : Nat} (ha : a < 18446744073709551616) (hj : 64 ≤ j) : a.testBit j = false :=
  Nat.testBit_lt_two_pow (Nat.lt_of_lt_of_le (show a < 2 ^ 64 from ha) (Nat.pow_le_pow_right (by omega) hj))
theorem test_div (a k j : Nat) : (a / 2 ^ k).testBit j = a.testBit (k + j) := by rw [Nat.testBit_div_two_pow, Nat.add_comm]
theorem test_mul (a k j : Nat) : (a * 2 ^ k % 18446744073709551616).testBit j = (decide (j < 64) && (decide (k ≤ j) && a.testBit (j - k))) := by
  rw [show (18446744073709551616 : Nat) = 2 ^ 64 from rfl, Nat.testBit_mod_two_pow, ← Nat.shiftLeft_eq, Nat.testBit_shiftLeft]
theorem rb_right {a b x : Nat} (ha : a < 18446744073709551616) (hx : x < 128) : rb (rgt0 a) (rgt1 a b) x = (decide (0 < x) && rb a b (x - 1)) := by
  have t0 := test_mul a 1 x
  have t1 := test_mul b 1 (x - 64)
  have t2 := test_div a 63 (x - 64)
  rw [show (2 : Nat) ^ 1 = 2 from rfl] at t0 t1
  rw [show (2 : Nat) ^ 63 = 9223372036854775808 from rfl] at t2
  unfold rb rgt0 rgt1
  by_cases h : x < 64
  · rw [if_pos h, t0]
    have : x - 1 < 64 := by omega
    rw [if_pos this]
    by_cases h1 : 0 < x
    · simp [h, h1, show 1 ≤ x by omega]
    · simp [show x = 0 by omega]
  · rw [if_neg h, Nat.testBit_or, t1, t2]
    by_cases h1 : x = 64
    · subst h1; simp
    · rw [test_hi ha (by omega)]
      simp [show x - 64 < 64 by omega, show 1 ≤ x - 64 by omega, show ¬ x - 1 < 64 by omega, show 0 < x by omega, show x - 64 - 1 = x - 1 - 64 by omega]
theorem rb_left {a b x k : Nat} (ha : a < 18446744073709551616) (hb : b < 18446744073709551616) (hx : x < 128) (hk : k < 128) : rb (lft0 a b k) (lft1 b k) x = (decide (x + k < 128) && rb a b (x + k)) := by
  unfold rb lft0 lft1
  by_cases h : x < 64
  · rw [if_pos h, Nat.testBit_or, Nat.testBit_or, test_div, test_mul, test_div]
    by_cases k1 : k < 64
    · have e1 : min k 64 = k := by omega
      have e2 : lftU k = 64 - k := by unfold lftU; omega
      have e3 : 64 ≤ lftV k := by unfold lftV; omega
      rw [e1, e2, show min (64 - k) 64 = 64 - k by omega, show min (lftV k) 64 = 64 by omega, test_hi hb (show 64 ≤ 64 + x by omega)]
      by_cases q : x + k < 64
      · simp [q, h, show ¬ 64 - k ≤ x by omega, show x + k < 128 by omega, Nat.add_comm k x]
      · rw [test_hi ha (show 64 ≤ k + x by omega)]
        simp [q, h, show 64 - k ≤ x by omega, show x + k < 128 by omega, show x - (64 - k) = x + k - 64 by omega]
    · have e1 : min k 64 = 64 := by omega
      have e3 : lftV k = k - 64 := by unfold lftV; omega
      rw [e1, test_hi ha (show 64 ≤ 64 + x by omega), e3, show min (k - 64) 64 = k - 64 by omega]
      by_cases q : k = 64
      · subst q
        have e2 : lftU 64 = 0 := by unfold lftU; omega
        rw [e2]
        simp [h, show x + 64 < 128 by omega, show ¬ x + 64 < 64 by omega]
      · have e2 : 64 ≤ lftU k := by unfold lftU; omega
        rw [show min (lftU k) 64 = 64 by omega]
        by_cases q2 : x + k < 128
        · simp [h, q2, show ¬ 64 ≤ x by omega, show ¬ x + k < 64 by omega, show k - 64 + x = x + k - 64 by omega]
        · rw [test_hi hb (show 64 ≤ k - 64 + x by omega)]
          simp [q2, show ¬ 64 ≤ x by omega]
  · rw [if_neg h, test_div]
    by_cases q2 : x + k < 128
    · simp [q2, show ¬ x + k < 64 by omega, show min k 64 = k by omega, show k + (x - 64) = x + k - 64 by omega]
    · rw [test_hi hb (show 64 ≤ min k 64 + (x - 64) by omega)]
      simp [q2]
end Go.Proofs.Ytbkllhlapdmlfaa

namespace Go.Proofs.Ytbkllhlapdmlfaa
open Go.RowKit
set_option linter.unusedVariables false

theorem tz_key' (x a : Nat) (hx : x < 18446744073709551616) (hx0 : x ≠ 0) (hlow : x &&& (18446744073709551616 - x) = a) :
    IntKind.u64.wrap (bits BinOp.and IntKind.u64 (x : Int) (IntKind.u64.wrap (-(x : Int))) * 285870213051353865) / 288230376151711744 = ((a * 285870213051353865 % 18446744073709551616 / 288230376151711744 : Nat) : Int) := by
  have e1 : IntKind.u64.wrap (-(x : Int)) = ((18446744073709551616 - x : Nat) : Int) := by rw [IntKind.wrap_u64]; omega
  rw [e1, bits_and_u64_nat x _ hx (by omega), hlow, IntKind.wrap_u64]
  omega
/-- The lowest bit, told by its number. -/
theorem ctz_low {x : Nat} (h0 : 0 < x) (h : x < 2 ^ 64) : x.testBit (Lib.ctz 64 x) = true ∧ ∀ j, j < Lib.ctz 64 x → x.testBit j = false := by
  obtain ⟨m, hm, _⟩ := Lib.ctzFrom_spec 64 x h0 h
  have hc : Lib.ctz 64 x = Lib.ctzFrom 64 x := by unfold Lib.ctz; rw [if_neg (by omega)]
  rw [hc]
  obtain ⟨k, hk⟩ : ∃ k, Lib.ctzFrom 64 x = k := ⟨_, rfl⟩
  rw [hk] at hm ⊢
  have e : x = 2 ^ k * (2 * m + 1) + 0 := by omega
  have hp : 0 < 2 ^ k := Nat.pow_pos (by omega)
  refine ⟨by rw [e, Nat.testBit_two_pow_mul_add _ hp]; simp, fun j hj => by rw [e, Nat.testBit_two_pow_mul_add _ hp, if_pos hj]; simp⟩

theorem bitLen_top : ∀ (n x : Nat), 0 < x → x < 2 ^ n → n ≤ 64 → 0 < Lib.bitLen x ∧ Lib.bitLen x ≤ n ∧ x.testBit (Lib.bitLen x - 1) = true ∧ ∀ j, Lib.bitLen x ≤ j → x.testBit j = false := by
  intro n
  induction n with
  | zero => intro x h0 h; simp at h; omega
  | succ n ih =>
    intro x h0 h hn
    have hb := Lib.bitLen_half x (by omega) (Nat.lt_of_lt_of_le h (Nat.pow_le_pow_right (by omega) hn))
    rcases Nat.eq_zero_or_pos (x / 2) with z | z
    · have x1 : x = 1 := by omega
      subst x1
      have : Lib.bitLen 1 = 1 := by decide
      rw [this]
      refine ⟨by omega, by omega, by decide, fun j hj => ?_⟩
      obtain ⟨k, rfl⟩ : ∃ k, j = k + 1 := ⟨j - 1, by omega⟩
      rw [Nat.testBit_succ]; simp
    · obtain ⟨i1, i2, i3, i4⟩ := ih (x / 2) z (by rw [Nat.pow_succ] at h; omega) (by omega)
      rw [hb]
      refine ⟨by omega, by omega, ?_, fun j hj => ?_⟩
      · rw [show 1 + Lib.bitLen (x / 2) - 1 = (Lib.bitLen (x / 2) - 1) + 1 by omega, Nat.testBit_succ]; exact i3
      · obtain ⟨k, rfl⟩ : ∃ k, j = k + 1 := ⟨j - 1, by omega⟩
        rw [Nat.testBit_succ]; exact i4 k (by omega)
theorem bitLen_zero : Lib.bitLen 0 = 0 := by decide
/-- The first cell of a row that lives, and behind the last. -/
structure EndsP (R : Nat → Bool) (f e : Nat) : Prop where
  lt : f < e
  le : e ≤ 128
  first : R f = true
  ahead : ∀ x, x < f → R x = false
  last : R (e - 1) = true
  behind : ∀ x, e ≤ x → x < 128 → R x = false
def endsF (a b : Nat) : Nat := if a = 0 ∧ b = 0 then 0 else if a = 0 then 64 + Lib.ctz 64 b else Lib.ctz 64 a
def endsE (a b : Nat) : Nat := if a = 0 ∧ b = 0 then 0 else if b = 0 then Lib.bitLen a else 64 + Lib.bitLen b
theorem ctz_le {x : Nat} (h0 : 0 < x) (h : x < 2 ^ 64) : Lib.ctz 64 x < 64 := by
  rcases Nat.lt_or_ge (Lib.ctz 64 x) 64 with k | k
  · exact k
  · have := (ctz_low h0 h).1
    rw [test_hi h k] at this
    cases this
theorem ends_is {a b : Nat} (ha : a < 18446744073709551616) (hb : b < 18446744073709551616) (h : ¬ (a = 0 ∧ b = 0)) : EndsP (rb a b) (endsF a b) (endsE a b) := by
  unfold endsF endsE
  rw [if_neg h, if_neg h]
  have tb : 0 < b → _ := fun z => bitLen_top 64 b z hb (by omega)
  have ta : 0 < a → _ := fun z => bitLen_top 64 a z ha (by omega)
  have cb : 0 < b → _ := fun z => ctz_low z hb
  have ca : 0 < a → _ := fun z => ctz_low z ha
  have lb : 0 < b → _ := fun z => ctz_le z hb
  have la : 0 < a → _ := fun z => ctz_le z ha
  rcases Nat.eq_zero_or_pos a with a0 | a0
  · have b0 : 0 < b := by omega
    obtain ⟨t1, t2, t3, t4⟩ := tb b0
    obtain ⟨c1, c2⟩ := cb b0
    have c3 := lb b0
    rw [if_pos a0, if_neg (by omega)]
    have top : Lib.ctz 64 b < Lib.bitLen b := by
      rcases Nat.lt_or_ge (Lib.ctz 64 b) (Lib.bitLen b) with k | k
      · exact k
      · rw [t4 _ k] at c1; cases c1
    refine ⟨by omega, by omega, ?_, ?_, ?_, ?_⟩
    · unfold rb; rw [if_neg (by omega), show 64 + Lib.ctz 64 b - 64 = Lib.ctz 64 b by omega]; exact c1
    · intro x hx; unfold rb; subst a0
      by_cases q : x < 64
      · rw [if_pos q]; simp
      · rw [if_neg q]; exact c2 _ (by omega)
    · unfold rb; rw [if_neg (by omega), show 64 + Lib.bitLen b - 1 - 64 = Lib.bitLen b - 1 by omega]; exact t3
    · intro x hx h2; unfold rb; rw [if_neg (by omega)]; exact t4 _ (by omega)
  · obtain ⟨t1, t2, t3, t4⟩ := ta a0
    obtain ⟨c1, c2⟩ := ca a0
    have c3 := la a0
    rw [if_neg (by omega)]
    have top : Lib.ctz 64 a < Lib.bitLen a := by
      rcases Nat.lt_or_ge (Lib.ctz 64 a) (Lib.bitLen a) with k | k
      · exact k
      · rw [t4 _ k] at c1; cases c1
    rcases Nat.eq_zero_or_pos b with b0 | b0
    · rw [if_pos b0]
      refine ⟨top, by omega, ?_, ?_, ?_, ?_⟩
      · unfold rb; rw [if_pos c3]; exact c1
      · intro x hx; unfold rb; rw [if_pos (by omega)]; exact c2 _ hx
      · unfold rb; rw [if_pos (by omega)]; exact t3
      · intro x hx h2; unfold rb; subst b0
        by_cases q : x < 64
        · rw [if_pos q]; exact t4 _ hx
        · rw [if_neg q]; simp
    · obtain ⟨u1, u2, u3, u4⟩ := tb b0
      rw [if_neg (by omega)]
      refine ⟨by omega, by omega, ?_, ?_, ?_, ?_⟩
      · unfold rb; rw [if_pos c3]; exact c1
      · intro x hx; unfold rb; rw [if_pos (by omega)]; exact c2 _ hx
      · unfold rb; rw [if_neg (by omega), show 64 + Lib.bitLen b - 1 - 64 = Lib.bitLen b - 1 by omega]; exact u3
      · intro x hx h2; unfold rb; rw [if_neg (by omega)]; exact u4 _ (by omega)
end Go.Proofs.Ytbkllhlapdmlfaa

