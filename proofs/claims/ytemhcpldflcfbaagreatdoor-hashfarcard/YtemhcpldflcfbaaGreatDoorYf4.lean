/-
  What the last text of this claim leans on, part 4: Gq1, Gq3.
-/
import Derived.Test.YtemhcpldflcfbaaGreatDoorYf2
import Derived.Laws.Bits64b
import Derived.Laws.BitsAllLaws
namespace Go.Proofs.YtemhcpldflcfbaaGreatDoor
set_option linter.unusedVariables false
def bitsF (f : Nat → Bool) : Nat → Nat
 | 0 => 0
 | n + 1 => bitsF f n + if f n then 2 ^ n else 0
theorem bitsF_lt (f : Nat → Bool) : ∀ n, bitsF f n < 2 ^ n
 | 0 => by simp [bitsF]
 | n + 1 => by
  have := bitsF_lt f n
  rw [bitsF, Nat.pow_succ]
  split <;> omega
theorem bitsF_test (f : Nat → Bool) : ∀ n i, (bitsF f n).testBit i = (decide (i < n) && f i)
 | 0, i => by simp [bitsF]
 | n + 1, i => by
  have h := bitsF_lt f n
  have ih := bitsF_test f n i
  rw [bitsF]
  by_cases hf : f n = true
  ·rw [if_pos hf]
   rw [show bitsF f n + 2 ^ n = 2 ^ n * 1 + bitsF f n by omega, Nat.testBit_two_pow_mul_add _ h]
   by_cases hi : i < n
   ·rw [if_pos hi, ih]; simp [hi]; omega
   ·rw [if_neg hi]
    by_cases hn : i = n
    ·subst hn; simp [hf]
    ·have : ¬ i < n + 1 := by omega
     simp [this]
     have : 1 ≤ i - n := by omega
     obtain ⟨k, hk⟩ : ∃ k, i - n = k + 1 := ⟨i - n - 1, by omega⟩
     rw [hk, Nat.testBit_succ]; simp
  ·rw [if_neg hf, Nat.add_zero, ih]
   by_cases hn : i = n
   ·subst hn; simp [hf]
   ·have : (i < n + 1) ↔ (i < n) := by omega
    simp [this]
theorem bitsF_is {f : Nat → Bool} {n a : Nat} (ha : a < 2 ^ n) (h : ∀ i, i < n → a.testBit i = f i) : a = bitsF f n := by
 apply Nat.eq_of_testBit_eq
 intro i
 rw [bitsF_test]
 by_cases hi : i < n
 ·rw [h i hi]; simp [hi]
 ·rw [Nat.testBit_lt_two_pow (Nat.lt_of_lt_of_le ha (Nat.pow_le_pow_right (by omega) (by omega)))]; simp [hi]
theorem test_comp {b j : Nat} (hb : b < 18446744073709551616) (hj : j < 64) : (18446744073709551615 - b).testBit j = !b.testBit j := by
 have := Nat.testBit_two_pow_sub_succ (x := b) (n := 64) (by simpa using hb) j
 rw [show (2 : Nat) ^ 64 - (b + 1) = 18446744073709551615 - b by omega] at this
 rw [this]; simp [hj]
theorem test_ones {j : Nat} (hj : j < 64) : Nat.testBit 18446744073709551615 j = true := by
 have := test_comp (b := 0) (by decide) hj
 simpa using this
def addS (a b c : Nat) : Nat := a ^^^ b ^^^ c
def addC (a b c : Nat) : Nat := (a &&& b) ||| (c &&& (a ^^^ b))
theorem addS_lt {a b c : Nat} (ha : a < 2 ^ 64) (hb : b < 2 ^ 64) (hc : c < 2 ^ 64) : addS a b c < 2 ^ 64 := Nat.xor_lt_two_pow (Nat.xor_lt_two_pow ha hb) hc
theorem addC_lt {a b c : Nat} (ha : a < 2 ^ 64) (hb : b < 2 ^ 64) (hc : c < 2 ^ 64) : addC a b c < 2 ^ 64 := Nat.or_lt_two_pow (Nat.and_lt_two_pow _ hb) (Nat.and_lt_two_pow _ (Nat.xor_lt_two_pow ha hb))
def digM (t : Bool) (d : Nat) : Nat := if t then d else 18446744073709551615 - d
def dgN (d0 d1 d2 d3 : Nat) : Nat → Nat
 | 0 => d0
 | 1 => d1
 | 2 => d2
 | _ => d3
def thoseN (k d0 d1 d2 d3 : Nat) : Nat → Nat
 | 0 => 18446744073709551615
 | i + 1 => thoseN k d0 d1 d2 d3 i &&& digM (k.testBit i) (dgN d0 d1 d2 d3 i)
theorem thoseN_four (k d0 d1 d2 d3 : Nat) : thoseN k d0 d1 d2 d3 4 = 18446744073709551615 &&& digM (k.testBit 0) d0 &&& digM (k.testBit 1) d1 &&& digM (k.testBit 2) d2 &&& digM (k.testBit 3) d3 := rfl
def maskN (t : Bool) : Nat := if t then 18446744073709551615 else 0
def chosenN (born stay h d0 d1 d2 d3 : Nat) : Nat → Nat
 | 0 => 0
 | k + 1 => chosenN born stay h d0 d1 d2 d3 k ||| (thoseN k d0 d1 d2 d3 4 &&& ((maskN (born.testBit k) &&& (18446744073709551615 - h)) ||| (maskN (stay.testBit k) &&& h)))
theorem chosenN_lt {born stay h d0 d1 d2 d3 : Nat} (hh : h < 2 ^ 64) : ∀ k, chosenN born stay h d0 d1 d2 d3 k < 2 ^ 64
 | 0 => by simp [chosenN]
 | k + 1 => by
  rw [chosenN]
  refine Nat.or_lt_two_pow (chosenN_lt hh k) (Nat.and_lt_two_pow _ (Nat.or_lt_two_pow (Nat.and_lt_two_pow _ (by omega)) (Nat.and_lt_two_pow _ hh)))
theorem digM_test {t : Bool} {d j : Nat} (hd : d < 18446744073709551616) (hj : j < 64) : (digM t d).testBit j = (d.testBit j == t) := by
 unfold digM
 cases t
 ·simp [test_comp hd hj]
 ·simp
theorem maskN_test {t : Bool} {j : Nat} (hj : j < 64) : (maskN t).testBit j = t := by
 unfold maskN
 cases t
 ·simp
 ·simp [test_ones hj]
def cntD (a b c d : Bool) : Nat := a.toNat + 2 * b.toNat + 4 * c.toNat + 8 * d.toNat
theorem those_test {k d0 d1 d2 d3 j : Nat} (h0 : d0 < 18446744073709551616) (h1 : d1 < 18446744073709551616) (h2 : d2 < 18446744073709551616) (h3 : d3 < 18446744073709551616) (hj : j < 64) (hk : k < 16) :
  (thoseN k d0 d1 d2 d3 4).testBit j = decide (cntD (d0.testBit j) (d1.testBit j) (d2.testBit j) (d3.testBit j) = k) := by
 rw [thoseN_four, Nat.testBit_and, Nat.testBit_and, Nat.testBit_and, Nat.testBit_and, digM_test h0 hj, digM_test h1 hj, digM_test h2 hj, digM_test h3 hj, test_ones hj]
 have key : ∀ a b c d : Bool, ∀ k : Fin 16, ((((true && a == (k : Nat).testBit 0) && b == (k : Nat).testBit 1) && c == (k : Nat).testBit 2) && d == (k : Nat).testBit 3) = decide (cntD a b c d = k) := by decide
 exact key _ _ _ _ ⟨k, hk⟩
theorem chosenN_test {born stay h d0 d1 d2 d3 j : Nat} (h0 : d0 < 18446744073709551616) (h1 : d1 < 18446744073709551616) (h2 : d2 < 18446744073709551616) (h3 : d3 < 18446744073709551616) (hh : h < 18446744073709551616) (hj : j < 64) :
  ∀ k, k ≤ 9 → (chosenN born stay h d0 d1 d2 d3 k).testBit j = (decide (cntD (d0.testBit j) (d1.testBit j) (d2.testBit j) (d3.testBit j) < k) && (if h.testBit j then stay.testBit (cntD (d0.testBit j) (d1.testBit j) (d2.testBit j) (d3.testBit j)) else born.testBit (cntD (d0.testBit j) (d1.testBit j) (d2.testBit j) (d3.testBit j))))
 | 0, _ => by simp [chosenN]
 | k + 1, hk => by
  rw [chosenN, Nat.testBit_or, Nat.testBit_and, Nat.testBit_or, Nat.testBit_and, Nat.testBit_and, those_test h0 h1 h2 h3 hj (by omega), maskN_test hj, maskN_test hj, test_comp hh hj, chosenN_test h0 h1 h2 h3 hh hj k (by omega)]
  generalize cntD (d0.testBit j) (d1.testBit j) (d2.testBit j) (d3.testBit j) = c
  by_cases hc : c = k
  ·subst hc
   cases h.testBit j <;> simp
  ·have : (c < k + 1) ↔ (c < k) := by omega
   simp [hc, this]
def becW (born stay al a ar hl h hr bl b br : Nat) : Nat :=
 chosenN born stay h
  (addS (addS al a ar) (addS bl b br) (addS hl hr 0))
  (addS (addS (addC al a ar) (addC bl b br) (addC hl hr 0)) (addC (addS al a ar) (addS bl b br) (addS hl hr 0)) 0)
  (addS (addC (addC al a ar) (addC bl b br) (addC hl hr 0)) (addC (addS (addC al a ar) (addC bl b br) (addC hl hr 0)) (addC (addS al a ar) (addS bl b br) (addS hl hr 0)) 0) 0)
  (addC (addC (addC al a ar) (addC bl b br) (addC hl hr 0)) (addC (addS (addC al a ar) (addC bl b br) (addC hl hr 0)) (addC (addS al a ar) (addS bl b br) (addS hl hr 0)) 0) 0) 9
theorem addS_test (a b c j : Nat) : (addS a b c).testBit j = (a.testBit j ^^ b.testBit j ^^ c.testBit j) := by simp [addS]
theorem addC_test (a b c j : Nat) : (addC a b c).testBit j = ((a.testBit j && b.testBit j) || (c.testBit j && (a.testBit j ^^ b.testBit j))) := by simp [addC]
theorem adders : ∀ al a ar hl hr bl b br : Bool,
  cntD (((al ^^ a ^^ ar) ^^ (bl ^^ b ^^ br)) ^^ (hl ^^ hr ^^ false))
   ((((al && a || ar && (al ^^ a)) ^^ (bl && b || br && (bl ^^ b))) ^^ (hl && hr || false && (hl ^^ hr))) ^^ ((al ^^ a ^^ ar) && (bl ^^ b ^^ br) || (hl ^^ hr ^^ false) && ((al ^^ a ^^ ar) ^^ (bl ^^ b ^^ br))) ^^ false)
   ((((al && a || ar && (al ^^ a)) && (bl && b || br && (bl ^^ b)) || (hl && hr || false && (hl ^^ hr)) && ((al && a || ar && (al ^^ a)) ^^ (bl && b || br && (bl ^^ b)))) ^^ ((((al && a || ar && (al ^^ a)) ^^ (bl && b || br && (bl ^^ b))) ^^ (hl && hr || false && (hl ^^ hr))) && ((al ^^ a ^^ ar) && (bl ^^ b ^^ br) || (hl ^^ hr ^^ false) && ((al ^^ a ^^ ar) ^^ (bl ^^ b ^^ br))) || false && ((((al && a || ar && (al ^^ a)) ^^ (bl && b || br && (bl ^^ b))) ^^ (hl && hr || false && (hl ^^ hr))) ^^ ((al ^^ a ^^ ar) && (bl ^^ b ^^ br) || (hl ^^ hr ^^ false) && ((al ^^ a ^^ ar) ^^ (bl ^^ b ^^ br)))))) ^^ false)
   ((((al && a || ar && (al ^^ a)) && (bl && b || br && (bl ^^ b)) || (hl && hr || false && (hl ^^ hr)) && ((al && a || ar && (al ^^ a)) ^^ (bl && b || br && (bl ^^ b)))) && ((((al && a || ar && (al ^^ a)) ^^ (bl && b || br && (bl ^^ b))) ^^ (hl && hr || false && (hl ^^ hr))) && ((al ^^ a ^^ ar) && (bl ^^ b ^^ br) || (hl ^^ hr ^^ false) && ((al ^^ a ^^ ar) ^^ (bl ^^ b ^^ br))) || false && ((((al && a || ar && (al ^^ a)) ^^ (bl && b || br && (bl ^^ b))) ^^ (hl && hr || false && (hl ^^ hr))) ^^ ((al ^^ a ^^ ar) && (bl ^^ b ^^ br) || (hl ^^ hr ^^ false) && ((al ^^ a ^^ ar) ^^ (bl ^^ b ^^ br)))))) || false && ((((al && a || ar && (al ^^ a)) && (bl && b || br && (bl ^^ b)) || (hl && hr || false && (hl ^^ hr)) && ((al && a || ar && (al ^^ a)) ^^ (bl && b || br && (bl ^^ b)))) ^^ ((((al && a || ar && (al ^^ a)) ^^ (bl && b || br && (bl ^^ b))) ^^ (hl && hr || false && (hl ^^ hr))) && ((al ^^ a ^^ ar) && (bl ^^ b ^^ br) || (hl ^^ hr ^^ false) && ((al ^^ a ^^ ar) ^^ (bl ^^ b ^^ br))) || false && ((((al && a || ar && (al ^^ a)) ^^ (bl && b || br && (bl ^^ b))) ^^ (hl && hr || false && (hl ^^ hr))) ^^ ((al ^^ a ^^ ar) && (bl ^^ b ^^ br) || (hl ^^ hr ^^ false) && ((al ^^ a ^^ ar) ^^ (bl ^^ b ^^ br))))))))
  = al.toNat + a.toNat + ar.toNat + hl.toNat + hr.toNat + bl.toNat + b.toNat + br.toNat := by
 intro al a ar hl hr bl b br
 cases al <;> cases a <;> cases ar <;> cases hl <;> cases hr <;> cases bl <;> cases b <;> cases br <;> rfl
theorem becW_test {born stay al a ar hl h hr bl b br j : Nat} (h1 : al < 2 ^ 64) (h2 : a < 2 ^ 64) (h3 : ar < 2 ^ 64) (h4 : hl < 2 ^ 64) (h5 : h < 2 ^ 64) (h6 : hr < 2 ^ 64) (h7 : bl < 2 ^ 64) (h8 : b < 2 ^ 64) (h9 : br < 2 ^ 64) (hj : j < 64) (cn : Nat)
  (hc : (al.testBit j).toNat + (a.testBit j).toNat + (ar.testBit j).toNat + (hl.testBit j).toNat + (hr.testBit j).toNat + (bl.testBit j).toNat + (b.testBit j).toNat + (br.testBit j).toNat = cn) :
  (becW born stay al a ar hl h hr bl b br).testBit j = if h.testBit j then stay.testBit cn else born.testBit cn := by
 have z : (0 : Nat) < 2 ^ 64 := by decide
 have o := addS_lt h1 h2 h3
 have u := addC_lt h1 h2 h3
 have m := addS_lt h7 h8 h9
 have l := addC_lt h7 h8 h9
 have s := addS_lt h4 h6 z
 have t := addC_lt h4 h6 z
 have tw := addS_lt u l t
 have fo := addC_lt u l t
 have ct := addC_lt o m s
 have cf := addC_lt tw ct z
 have A := adders (al.testBit j) (a.testBit j) (ar.testBit j) (hl.testBit j) (hr.testBit j) (bl.testBit j) (b.testBit j) (br.testBit j)
 rw [hc] at A
 have cl : cn ≤ 8 := by
  have q : ∀ x : Bool, x.toNat ≤ 1 := by decide
  have := q (al.testBit j); have := q (a.testBit j); have := q (ar.testBit j); have := q (hl.testBit j); have := q (hr.testBit j); have := q (bl.testBit j); have := q (b.testBit j); have := q (br.testBit j)
  omega
 unfold becW
 rw [chosenN_test (addS_lt o m s) (addS_lt tw ct z) (addS_lt fo cf z) (addC_lt fo cf z) h5 hj 9 (Nat.le_refl _)]
 simp only [addS_test, addC_test, Nat.zero_testBit]
 rw [A]
 have : cn < 9 := by omega
 simp [this]
open Go.RowKit
def rgt0 (a : Nat) : Nat := a * 2 % 18446744073709551616
def rgt1 (a b : Nat) : Nat := b * 2 % 18446744073709551616 ||| a / 9223372036854775808
set_option maxRecDepth 100000 in
set_option maxHeartbeats 3200000 in
theorem right_any (a b : Nat) (w : World) (ha : a < 18446744073709551616) (hb : b < 18446744073709551616) :
  Calls Tryz.prog 75 #[.agg #[.int .u64 (a : Int), .int .u64 (b : Int)]] w fun e w' => e = .returned (.agg #[.int .u64 ((rgt0 a : Nat) : Int), .int .u64 ((rgt1 a b : Nat) : Int)]) ∧ Below w.heap.size w w' := by
 obtain ⟨r0, h0⟩ : ∃ r0, rgt0 a = r0 := ⟨_, rfl⟩
 obtain ⟨r1, h1⟩ : ∃ r1, rgt1 a b = r1 := ⟨_, rfl⟩
 have x1 : IntKind.u64.wrap ((a : Int) * 2) = (r0 : Int) := by rw [IntKind.wrap_u64, ← h0, rgt0]; simp
 obtain ⟨q, hq⟩ : ∃ q, b * 2 % 18446744073709551616 = q := ⟨_, rfl⟩
 obtain ⟨s, hs⟩ : ∃ s, a / 9223372036854775808 = s := ⟨_, rfl⟩
 have x2 : IntKind.u64.wrap ((b : Int) * 2) = (q : Int) := by rw [IntKind.wrap_u64, ← hq]; simp
 have x3 : (a : Int) / 9223372036854775808 = (s : Int) := by rw [← hs]; simp
 have x4 := bits_or_u64_nat q s (by omega) (by omega)
 rw [show q ||| s = r1 by rw [← h1, rgt1, hq, hs]] at x4
 rw [h0, h1]
 clear h0 h1 hq hs
 go_enter Tryz.func75, Tryz.ntmps75
 go_wp2
 refine bodyPost_ret (v := .agg #[.int .u64 (r0 : Int), .int .u64 (r1 : Int)]) (by simp [results, Tryz.results75, go_sem]) rfl ?_
 exact ⟨rfl, by repeat (first | exact Below.refl _ _ | refine Below.alloc ?_ (by simp) _ | refine Below.setCell ?_ (by simp) _)⟩
def lftU (k : Nat) : Nat := (64 + 18446744073709551616 - k) % 18446744073709551616
def lftV (k : Nat) : Nat := (k + 18446744073709551616 - 64) % 18446744073709551616
def lft0 (a b k : Nat) : Nat := (a / 2 ^ min k 64 ||| b * 2 ^ min (lftU k) 64 % 18446744073709551616) ||| b / 2 ^ min (lftV k) 64
def lft1 (b k : Nat) : Nat := b / 2 ^ min k 64
theorem div_ltW {a k : Nat} (ha : a < 18446744073709551616) : a / 2 ^ k < 18446744073709551616 := Nat.lt_of_le_of_lt (Nat.div_le_self _ _) ha
set_option maxRecDepth 100000 in
set_option maxHeartbeats 3200000 in
theorem left_any (a b k : Nat) (w : World) (ha : a < 18446744073709551616) (hb : b < 18446744073709551616) (hk : k < 128) :
  Calls Tryz.prog 102 #[.agg #[.int .u64 (a : Int), .int .u64 (b : Int)], .int .u64 (k : Int)] w fun e w' => e = .returned (.agg #[.int .u64 ((lft0 a b k : Nat) : Int), .int .u64 ((lft1 b k : Nat) : Int)]) ∧ Below w.heap.size w w' := by
 obtain ⟨l0, h0⟩ : ∃ l0, lft0 a b k = l0 := ⟨_, rfl⟩
 obtain ⟨l1, h1⟩ : ∃ l1, lft1 b k = l1 := ⟨_, rfl⟩
 obtain ⟨u, hu⟩ : ∃ u, lftU k = u := ⟨_, rfl⟩
 obtain ⟨v, hv⟩ : ∃ v, lftV k = v := ⟨_, rfl⟩
 obtain ⟨p, hp⟩ : ∃ p, a / 2 ^ min k 64 = p := ⟨_, rfl⟩
 obtain ⟨q, hq⟩ : ∃ q, b * 2 ^ min u 64 % 18446744073709551616 = q := ⟨_, rfl⟩
 obtain ⟨r, hr⟩ : ∃ r, b / 2 ^ min v 64 = r := ⟨_, rfl⟩
 have pl : p < 18446744073709551616 := by rw [← hp]; exact div_ltW ha
 have rl : r < 18446744073709551616 := by rw [← hr]; exact div_ltW hb
 have ql : q < 18446744073709551616 := by omega
 have x1 : (a : Int) / 2 ^ min k 64 = (p : Int) := by rw [← hp]; simp
 have x2 : IntKind.u64.wrap (64 - (k : Int)) = (u : Int) := by rw [IntKind.wrap_u64, ← hu, lftU]; omega
 have x2' : IntKind.u64.wrap ((k : Int) - 64) = (v : Int) := by rw [IntKind.wrap_u64, ← hv, lftV]; omega
 have x3 : IntKind.u64.wrap ((b : Int) * 2 ^ min u 64) = (q : Int) := by rw [IntKind.wrap_u64, ← hq]; simp
 have x4 : (b : Int) / 2 ^ min v 64 = (r : Int) := by rw [← hr]; simp
 have x5 := bits_or_u64_nat p q pl ql
 have ol : p ||| q < 18446744073709551616 := Nat.or_lt_two_pow (n := 64) pl ql
 have x6 := bits_or_u64_nat (p ||| q) r ol rl
 have x7 : (b : Int) / 2 ^ min k 64 = (l1 : Int) := by rw [← h1, lft1]; simp
 obtain ⟨s, hs⟩ : ∃ s, p ||| q = s := ⟨_, rfl⟩
 rw [hs] at x5 x6
 rw [show s ||| r = l0 by rw [← h0, lft0, hu, hv, hp, hq, hr, hs]] at x6
 rw [h0, h1]
 clear h0 h1 hq hs hu hv hp hr ol
 go_enter Tryz.func102, Tryz.ntmps102
 go_wp2
 refine bodyPost_ret (v := .agg #[.int .u64 (l0 : Int), .int .u64 (l1 : Int)]) (by simp [results, Tryz.results102, go_sem]) rfl ?_
 exact ⟨rfl, by repeat (first | exact Below.refl _ _ | refine Below.alloc ?_ (by simp) _ | refine Below.setCell ?_ (by simp) _)⟩
def rb (a b x : Nat) : Bool := if x < 64 then a.testBit x else b.testBit (x - 64)
theorem rgt0_lt (a : Nat) : rgt0 a < 18446744073709551616 := Nat.mod_lt _ (by decide)
theorem rgt1_lt {a b : Nat} (ha : a < 18446744073709551616) : rgt1 a b < 18446744073709551616 := Nat.or_lt_two_pow (n := 64) (Nat.mod_lt _ (by decide)) (by omega)
theorem lft1_lt {b k : Nat} (hb : b < 18446744073709551616) : lft1 b k < 18446744073709551616 := div_ltW hb
theorem lft0_lt {a b k : Nat} (ha : a < 18446744073709551616) (hb : b < 18446744073709551616) : lft0 a b k < 18446744073709551616 :=
 Nat.or_lt_two_pow (n := 64) (Nat.or_lt_two_pow (n := 64) (div_ltW ha) (Nat.mod_lt _ (by decide))) (div_ltW hb)
theorem test_hi {a j : Nat} (ha : a < 18446744073709551616) (hj : 64 ≤ j) : a.testBit j = false :=
 Nat.testBit_lt_two_pow (Nat.lt_of_lt_of_le (show a < 2 ^ 64 from ha) (Nat.pow_le_pow_right (by omega) hj))
theorem test_div (a k j : Nat) : (a / 2 ^ k).testBit j = a.testBit (k + j) := by rw [Nat.testBit_div_two_pow, Nat.add_comm]
theorem test_mul (a k j : Nat) : (a * 2 ^ k % 18446744073709551616).testBit j = (decide (j < 64) && (decide (k ≤ j) && a.testBit (j - k))) := by
 rw [show (18446744073709551616 : Nat) = 2 ^ 64 from rfl, Nat.testBit_mod_two_pow, ← Nat.shiftLeft_eq, Nat.testBit_shiftLeft]
theorem rb_right {a b x : Nat} (ha : a < 18446744073709551616) (hx : x < 128) : rb (rgt0 a) (rgt1 a b) x = (decide (0 < x) && rb a b (x - 1)) := by
 have t0 := test_mul a 1 x
 have t1 := test_mul b 1 (x - 64)
 have t2 := test_div a 63 (x - 64)
 rw [show (2 : Nat) ^ 1 = 2 from rfl] at t0 t1
 rw [show (2 : Nat) ^ 63 = 9223372036854775808 from rfl] at t2
 unfold rb rgt0 rgt1
 by_cases h : x < 64
 ·rw [if_pos h, t0]
  have : x - 1 < 64 := by omega
  rw [if_pos this]
  by_cases h1 : 0 < x
  ·simp [h, h1, show 1 ≤ x by omega]
  ·simp [show x = 0 by omega]
 ·rw [if_neg h, Nat.testBit_or, t1, t2]
  by_cases h1 : x = 64
  ·subst h1; simp
  ·rw [test_hi ha (by omega)]
   simp [show x - 64 < 64 by omega, show 1 ≤ x - 64 by omega, show ¬ x - 1 < 64 by omega, show 0 < x by omega, show x - 64 - 1 = x - 1 - 64 by omega]
theorem rb_left {a b x k : Nat} (ha : a < 18446744073709551616) (hb : b < 18446744073709551616) (hx : x < 128) (hk : k < 128) : rb (lft0 a b k) (lft1 b k) x = (decide (x + k < 128) && rb a b (x + k)) := by
 unfold rb lft0 lft1
 by_cases h : x < 64
 ·rw [if_pos h, Nat.testBit_or, Nat.testBit_or, test_div, test_mul, test_div]
  by_cases k1 : k < 64
  ·have e1 : min k 64 = k := by omega
   have e2 : lftU k = 64 - k := by unfold lftU; omega
   have e3 : 64 ≤ lftV k := by unfold lftV; omega
   rw [e1, e2, show min (64 - k) 64 = 64 - k by omega, show min (lftV k) 64 = 64 by omega, test_hi hb (show 64 ≤ 64 + x by omega)]
   by_cases q : x + k < 64
   ·simp [q, h, show ¬ 64 - k ≤ x by omega, show x + k < 128 by omega, Nat.add_comm k x]
   ·rw [test_hi ha (show 64 ≤ k + x by omega)]
    simp [q, h, show 64 - k ≤ x by omega, show x + k < 128 by omega, show x - (64 - k) = x + k - 64 by omega]
  ·have e1 : min k 64 = 64 := by omega
   have e3 : lftV k = k - 64 := by unfold lftV; omega
   rw [e1, test_hi ha (show 64 ≤ 64 + x by omega), e3, show min (k - 64) 64 = k - 64 by omega]
   by_cases q : k = 64
   ·subst q
    have e2 : lftU 64 = 0 := by unfold lftU; omega
    rw [e2]
    simp [h, show x + 64 < 128 by omega, show ¬ x + 64 < 64 by omega]
   ·have e2 : 64 ≤ lftU k := by unfold lftU; omega
    rw [show min (lftU k) 64 = 64 by omega]
    by_cases q2 : x + k < 128
    ·simp [h, q2, show ¬ 64 ≤ x by omega, show ¬ x + k < 64 by omega, show k - 64 + x = x + k - 64 by omega]
    ·rw [test_hi hb (show 64 ≤ k - 64 + x by omega)]
     simp [q2, show ¬ 64 ≤ x by omega]
 ·rw [if_neg h, test_div]
  by_cases q2 : x + k < 128
  ·simp [q2, show ¬ x + k < 64 by omega, show min k 64 = k by omega, show k + (x - 64) = x + k - 64 by omega]
  ·rw [test_hi hb (show 64 ≤ min k 64 + (x - 64) by omega)]
   simp [q2]
end Go.Proofs.YtemhcpldflcfbaaGreatDoor
