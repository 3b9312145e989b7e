/-
  What the last text of this claim leans on, part 32: Hj8, Sp1, Sp2, Sp4, Sp7, Sp8, Sp9, Spa, Spb, Sq1, Sq3, Sq4, Hj9.
-/
import Derived.Test.YtemhcpldflcfbaaGreatDoorZj16
import Derived.Test.YtemhcpldflcfbaaGreatDoorZj31
import Derived.Test.YtemhcpldflcfbaaGreatDoorChecked
import Derived.Test.YtemhcpldflcfbaaGreatDoorZj9
import Derived.Test.YtemhcpldflcfbaaGreatDoorZj23
import Derived.Laws.BitsAllLaws
import Derived.BigRegion
namespace Go.Proofs.YtemhcpldflcfbaaGreatDoor
set_option linter.unusedVariables false
def tcE (i : Nat) : Nat := 4 * (i / 2) + i % 2
def tnE (c i : Nat) : Nat := popD (c &&& 1879 <<< tcE i) 16
def tvE (born stay c i : Nat) : Nat := ((if c >>> (tcE i + 5) &&& 1 = 1 then stay else born) >>> tnE c i) &&& 1
def tbE (born stay c : Nat) : Nat → Nat
 | 0 => 0
 | i + 1 => tbE born stay c i ||| (tvE born stay c i <<< (8 * (i / 2) + i % 2))
theorem tv_le (born stay c i : Nat) : tvE born stay c i ≤ 1 := by unfold tvE; exact Nat.and_le_right
theorem tv_bit (born stay c i k : Nat) {j : Nat} : (tvE born stay c i <<< k).testBit j = (decide (j = k) && decide (tvE born stay c i = 1)) := by
 have h := tv_le born stay c i
 rw [Nat.testBit_shiftLeft]
 generalize tvE born stay c i = v at *
 have : v = 0 ∨ v = 1 := by omega
 rcases this with rfl | rfl
 ·rw [Nat.zero_testBit]; simp
 ·by_cases q : j = k
  ·subst q; simp
  ·by_cases r : j ≥ k
   ·rw [decide_eq_true r, decide_eq_false q, Bool.true_and, Bool.false_and, show Nat.testBit 1 (j - k) = decide (0 = j - k) from Nat.testBit_two_pow (n := 0) (m := j - k), decide_eq_false (by omega)]
   ·rw [decide_eq_false r, decide_eq_false q]; rfl
theorem tb_bit (born stay c j : Nat) : (tbE born stay c 4).testBit j = (((decide (j = 0) && decide (tvE born stay c 0 = 1)) || (decide (j = 1) && decide (tvE born stay c 1 = 1))) || (decide (j = 8) && decide (tvE born stay c 2 = 1)) || (decide (j = 9) && decide (tvE born stay c 3 = 1))) := by
 show ((((0 ||| tvE born stay c 0 <<< 0) ||| tvE born stay c 1 <<< 1) ||| tvE born stay c 2 <<< 8) ||| tvE born stay c 3 <<< 9).testBit j = _
 rw [Nat.testBit_or, Nat.testBit_or, Nat.testBit_or, Nat.testBit_or, tv_bit, tv_bit, tv_bit, tv_bit, Nat.zero_testBit, Bool.false_or]
theorem pop16 (s : Nat) : popD s 16 = (s.testBit 0).toNat + (s.testBit 1).toNat + (s.testBit 2).toNat + (s.testBit 3).toNat + (s.testBit 4).toNat + (s.testBit 5).toNat + (s.testBit 6).toNat + (s.testBit 7).toNat + (s.testBit 8).toNat + (s.testBit 9).toNat + (s.testBit 10).toNat + (s.testBit 11).toNat + (s.testBit 12).toNat + (s.testBit 13).toNat + (s.testBit 14).toNat + (s.testBit 15).toNat := by
 have h : ∀ i, (if decide (s / 2 ^ i % 2 = 1) = true then 1 else 0) = (s.testBit i).toNat := fun i => by
  rw [Nat.testBit_eq_decide_div_mod_eq]
  cases decide (s / 2 ^ i % 2 = 1) <;> rfl
 unfold popD
 simp only [cntDs, h]
 omega
theorem tn_is (c i : Nat) (hi : i < 4) : ((tnE c i : Nat) : Int) = nbF (fQ c) (((i % 2 : Nat) : Int) + 1) (((i / 2 : Nat) : Int) + 1) := by
 unfold tnE
 rw [pop16]
 have : i = 0 ∨ i = 1 ∨ i = 2 ∨ i = 3 := by omega
 rcases this with rfl | rfl | rfl | rfl
 ·simp only [show 1879 <<< tcE 0 = 1879 from rfl, Nat.testBit_and, show Nat.testBit 1879 0 = true from rfl, show Nat.testBit 1879 1 = true from rfl, show Nat.testBit 1879 2 = true from rfl, show Nat.testBit 1879 3 = false from rfl, show Nat.testBit 1879 4 = true from rfl, show Nat.testBit 1879 5 = false from rfl, show Nat.testBit 1879 6 = true from rfl, show Nat.testBit 1879 7 = false from rfl, show Nat.testBit 1879 8 = true from rfl, show Nat.testBit 1879 9 = true from rfl, show Nat.testBit 1879 10 = true from rfl, show Nat.testBit 1879 11 = false from rfl, show Nat.testBit 1879 12 = false from rfl, show Nat.testBit 1879 13 = false from rfl, show Nat.testBit 1879 14 = false from rfl, show Nat.testBit 1879 15 = false from rfl, Bool.and_true, Bool.and_false, Bool.toNat_false]
  simp [nbF, fQ]
  try omega
 ·simp only [show 1879 <<< tcE 1 = 3758 from rfl, Nat.testBit_and, show Nat.testBit 3758 0 = false from rfl, show Nat.testBit 3758 1 = true from rfl, show Nat.testBit 3758 2 = true from rfl, show Nat.testBit 3758 3 = true from rfl, show Nat.testBit 3758 4 = false from rfl, show Nat.testBit 3758 5 = true from rfl, show Nat.testBit 3758 6 = false from rfl, show Nat.testBit 3758 7 = true from rfl, show Nat.testBit 3758 8 = false from rfl, show Nat.testBit 3758 9 = true from rfl, show Nat.testBit 3758 10 = true from rfl, show Nat.testBit 3758 11 = true from rfl, show Nat.testBit 3758 12 = false from rfl, show Nat.testBit 3758 13 = false from rfl, show Nat.testBit 3758 14 = false from rfl, show Nat.testBit 3758 15 = false from rfl, Bool.and_true, Bool.and_false, Bool.toNat_false]
  simp [nbF, fQ]
  try omega
 ·simp only [show 1879 <<< tcE 2 = 30064 from rfl, Nat.testBit_and, show Nat.testBit 30064 0 = false from rfl, show Nat.testBit 30064 1 = false from rfl, show Nat.testBit 30064 2 = false from rfl, show Nat.testBit 30064 3 = false from rfl, show Nat.testBit 30064 4 = true from rfl, show Nat.testBit 30064 5 = true from rfl, show Nat.testBit 30064 6 = true from rfl, show Nat.testBit 30064 7 = false from rfl, show Nat.testBit 30064 8 = true from rfl, show Nat.testBit 30064 9 = false from rfl, show Nat.testBit 30064 10 = true from rfl, show Nat.testBit 30064 11 = false from rfl, show Nat.testBit 30064 12 = true from rfl, show Nat.testBit 30064 13 = true from rfl, show Nat.testBit 30064 14 = true from rfl, show Nat.testBit 30064 15 = false from rfl, Bool.and_true, Bool.and_false, Bool.toNat_false]
  simp [nbF, fQ]
  try omega
 ·simp only [show 1879 <<< tcE 3 = 60128 from rfl, Nat.testBit_and, show Nat.testBit 60128 0 = false from rfl, show Nat.testBit 60128 1 = false from rfl, show Nat.testBit 60128 2 = false from rfl, show Nat.testBit 60128 3 = false from rfl, show Nat.testBit 60128 4 = false from rfl, show Nat.testBit 60128 5 = true from rfl, show Nat.testBit 60128 6 = true from rfl, show Nat.testBit 60128 7 = true from rfl, show Nat.testBit 60128 8 = false from rfl, show Nat.testBit 60128 9 = true from rfl, show Nat.testBit 60128 10 = false from rfl, show Nat.testBit 60128 11 = true from rfl, show Nat.testBit 60128 12 = false from rfl, show Nat.testBit 60128 13 = true from rfl, show Nat.testBit 60128 14 = true from rfl, show Nat.testBit 60128 15 = true from rfl, Bool.and_true, Bool.and_false, Bool.toNat_false]
  simp [nbF, fQ]
  try omega
theorem tc_is (c i : Nat) (hi : i < 4) : (c >>> (tcE i + 5) &&& 1 = 1) ↔ fQ c (((i % 2 : Nat) : Int) + 1) (((i / 2 : Nat) : Int) + 1) = 1 := by
 have e : c >>> (tcE i + 5) &&& 1 = (c.testBit (tcE i + 5)).toNat := by
  rw [Nat.and_one_is_mod, Nat.shiftRight_eq_div_pow, Nat.testBit_eq_decide_div_mod_eq]
  have h : c / 2 ^ (tcE i + 5) % 2 < 2 := Nat.mod_lt _ (by decide)
  generalize c / 2 ^ (tcE i + 5) % 2 = q at *
  have : q = 0 ∨ q = 1 := by omega
  rcases this with rfl | rfl <;> rfl
 rw [e]
 unfold fQ
 rw [if_pos (by omega), show (4 * (((i / 2 : Nat) : Int) + 1) + (((i % 2 : Nat) : Int) + 1)).toNat = tcE i + 5 by unfold tcE; omega]
 cases c.testBit (tcE i + 5) <;> simp
theorem tv_is (born stay c i : Nat) (hi : i < 4) : ((tvE born stay c i : Nat) : Int) = nxF born stay (fQ c) (((i % 2 : Nat) : Int) + 1) (((i / 2 : Nat) : Int) + 1) := by
 unfold tvE nxF becN
 have e := tn_is c i hi
 rw [← e, Int.toNat_natCast, Nat.and_one_is_mod, Nat.shiftRight_eq_div_pow]
 by_cases q : c >>> (tcE i + 5) &&& 1 = 1
 ·rw [if_pos q, if_pos ((tc_is c i hi).1 q)]; rfl
 ·rw [if_neg q, if_neg (fun h => q ((tc_is c i hi).2 h))]; rfl
theorem table_is (born stay : Nat) : TbE born stay (fun c => tbE born stay c 4) := by
 refine ⟨fun c x y _ hx hy => ?_, fun c j _ h => ?_⟩
 ·have b : ∀ i, i < 4 → tvE born stay c i = 0 ∨ tvE born stay c i = 1 := fun i _ => by have := tv_le born stay c i; omega
  have key : ∀ i, i < 4 → (((tbE born stay c 4).testBit (8 * (i / 2) + i % 2)).toNat : Int) = ((tvE born stay c i : Nat) : Int) := fun i hi => by
   rw [tb_bit]
   have : i = 0 ∨ i = 1 ∨ i = 2 ∨ i = 3 := by omega
   rcases this with rfl | rfl | rfl | rfl
   ·rcases b 0 (by decide) with h | h <;> simp [h]
   ·rcases b 1 (by decide) with h | h <;> simp [h]
   ·rcases b 2 (by decide) with h | h <;> simp [h]
   ·rcases b 3 (by decide) with h | h <;> simp [h]
  have k := key (2 * y + x) (by omega)
  rw [show (2 * y + x) / 2 = y by omega, show (2 * y + x) % 2 = x by omega, tv_is born stay c (2 * y + x) (by omega), show (2 * y + x) / 2 = y by omega, show (2 * y + x) % 2 = x by omega] at k
  exact k
 ·show (tbE born stay c 4).testBit j = false
  rw [tb_bit, decide_eq_false (show ¬ j = 0 by omega), decide_eq_false (show ¬ j = 1 by omega), decide_eq_false (show ¬ j = 8 by omega), decide_eq_false (show ¬ j = 9 by omega)]
  rfl
theorem tb_lt (born stay c : Nat) : ∀ i, i ≤ 4 → tbE born stay c i < 1024
 | 0, _ => by show (0 : Nat) < 1024; decide
 | i + 1, h => by
  have v := tv_le born stay c i
  show tbE born stay c i ||| (tvE born stay c i <<< (8 * (i / 2) + i % 2)) < 2 ^ 10
  refine Nat.or_lt_two_pow (tb_lt born stay c i (by omega)) ?_
  rw [Nat.shiftLeft_eq]
  have p : 2 ^ (8 * (i / 2) + i % 2) ≤ 2 ^ 9 := Nat.pow_le_pow_right (by decide) (by omega)
  exact Nat.lt_of_le_of_lt (Nat.mul_le_mul v p) (by decide)
theorem tb_nil {born stay : Nat} (hb : born % 2 = 0) : tbE born stay 0 4 = 0 := by
 have h : ∀ i, i < 4 → tvE born stay 0 i = 0 := fun i hi => by
  have e := tv_is born stay 0 i hi
  rw [nxF_none hb (fun u v _ _ _ _ => by unfold fQ; split <;> simp)] at e
  omega
 show ((((0 ||| tvE born stay 0 0 <<< 0) ||| tvE born stay 0 1 <<< 1) ||| tvE born stay 0 2 <<< 8) ||| tvE born stay 0 3 <<< 9) = 0
 rw [h 0 (by decide), h 1 (by decide), h 2 (by decide), h 3 (by decide)]
 rfl
open Go.RowKit
set_option linter.unusedSimpArgs false









def ocA (x : Nat) : Nat := (x / 2 &&& 6148914691236517205) + (x &&& 6148914691236517205)
def ocB (x : Nat) : Nat := (x / 4 &&& 3689348814741910323) + (x &&& 3689348814741910323)
def ocC (x : Nat) : Nat := (x / 16 + x) &&& 1085102592571150095
def ocN (x : Nat) : Nat :=
 let c := ocC (ocB (ocA x))
 let d := c + c / 256
 let e := d + d / 65536
 let f := e + e / 4294967296
 f &&& 127
def chO : Bool := (List.range 128).all fun a => (List.range 256).all fun b => Nat.beq (ocN (2 * (a * 256 + b))) (ocN (a * 256 + b)) && Nat.beq (ocN (2 * (a * 256 + b) + 1)) (ocN (a * 256 + b) + 1)
set_option maxRecDepth 100000 in
theorem chO_all : chO = true := by decide +kernel
theorem oc_next {x : Nat} (hx : x < 32768) : ocN (2 * x) = ocN x ∧ ocN (2 * x + 1) = ocN x + 1 := by
 have h := chO_all
 unfold chO at h
 have h1 := List.all_eq_true.1 h (x / 256) (List.mem_range.2 (by omega))
 have h2 := List.all_eq_true.1 h1 (x % 256) (List.mem_range.2 (by omega))
 rw [show x / 256 * 256 + x % 256 = x by omega, Bool.and_eq_true] at h2
 exact ⟨Nat.eq_of_beq_eq_true h2.1, Nat.eq_of_beq_eq_true h2.2⟩
theorem pop_half (s : Nat) : ∀ k, popD s (k + 1) = s % 2 + popD (s / 2) k
 | 0 => by
  show 0 + _ = _
  have : s % 2 < 2 := Nat.mod_lt _ (by decide)
  have e : decide (s / 2 ^ 0 % 2 = 1) = decide (s % 2 = 1) := by rw [Nat.pow_zero, Nat.div_one]
  show 0 + (if decide (s / 2 ^ 0 % 2 = 1) = true then 1 else 0) = s % 2 + 0
  rw [e]
  by_cases q : s % 2 = 1
  ·rw [decide_eq_true q, q]; rfl
  ·rw [decide_eq_false q, show s % 2 = 0 by omega]; rfl
 | k + 1 => by
  have h1 : popD s (k + 1 + 1) = popD s (k + 1) + if decide (s / 2 ^ (k + 1) % 2 = 1) = true then 1 else 0 := rfl
  have h2 : popD (s / 2) (k + 1) = popD (s / 2) k + if decide (s / 2 / 2 ^ k % 2 = 1) = true then 1 else 0 := rfl
  rw [h1, h2, pop_half s k, Nat.div_div_eq_div_mul, show 2 * 2 ^ k = 2 ^ (k + 1) by rw [Nat.pow_succ, Nat.mul_comm]]
  omega
theorem oc_pop : ∀ (n x : Nat), n ≤ 16 → x < 2 ^ n → ocN x = popD x n
 | 0, x, _, h => by rw [show x = 0 by omega]; rfl
 | n + 1, x, hn, h => by
  have hp : 2 ^ (n + 1) ≤ 2 ^ 16 := Nat.pow_le_pow_right (by decide) hn
  have h2 : x / 2 < 2 ^ n := by rw [Nat.pow_succ] at h; omega
  have ih := oc_pop n (x / 2) (by omega) h2
  obtain ⟨a, b⟩ := oc_next (x := x / 2) (by omega)
  rw [pop_half, ← ih]
  by_cases q : x % 2 = 0
  ·rw [show 2 * (x / 2) = x by omega] at a; rw [a, q]; omega
  ·rw [show 2 * (x / 2) + 1 = x by omega] at b; rw [b, show x % 2 = 1 by omega]; omega
theorem and_u64K {a : Nat} (K : Nat) (ha : a < 18446744073709551616) (hK : K < 18446744073709551616) : bits .and .u64 (a : Int) ((K : Nat) : Int) = ((a &&& K : Nat) : Int) := u64_and_nat a K ha hK
theorem wrap_u64K {a : Nat} (ha : a < 18446744073709551616) : IntKind.u64.wrap (a : Int) = (a : Int) := by rw [IntKind.wrap_u64]; omega
theorem and_i64K {a : Nat} (K : Nat) (ha : a < 9223372036854775808) (hK : K < 9223372036854775808) : bits .and .i64 (a : Int) ((K : Nat) : Int) = ((a &&& K : Nat) : Int) := by
 have hx : a &&& K < 2 ^ 63 := Nat.and_lt_two_pow _ (by omega)
 have e : ∀ x : Nat, x < 9223372036854775808 → (BitVec.ofInt 64 (x : Int)).toNat = x := fun x h => by
  rw [BitVec.ofInt_natCast, BitVec.toNat_ofNat]; exact Nat.mod_eq_of_lt (by omega)
 show IntKind.i64.wrap ((BitVec.ofInt 64 (a : Int) &&& BitVec.ofInt 64 (K : Int)).toNat : Int) = _
 rw [BitVec.toNat_and, e a ha, e K hK]
 simp [IntKind.wrap, IntKind.signed, IntKind.bits]
 omega
set_option maxRecDepth 100000 in
set_option maxHeartbeats 6400000 in
theorem oc64_any (n : Nat) (w : World) (hn : n < 65536) : Calls Tryz.prog 112 #[.int .u64 (n : Int)] w fun e w' => e = .returned (.int .i64 (ocN n : Int)) ∧ w' = w := by
 have E := hide' (show ocN n = ((let c := ocC (ocB (ocA n)); let d := c + c / 256; let e := d + d / 65536; let f := e + e / 4294967296; f &&& 127) : Nat) from rfl)
 have l1 : n / 2 &&& 6148914691236517205 ≤ n / 2 := Nat.and_le_left
 have l2 : n &&& 6148914691236517205 ≤ n := Nat.and_le_left
 have e1 : bits .and .u64 ((n : Int) / 2) 6148914691236517205 = ((n / 2 &&& 6148914691236517205 : Nat) : Int) := and_u64K (a := n / 2) _ (by omega) (by decide)
 have e2 : bits .and .u64 (n : Int) 6148914691236517205 = ((n &&& 6148914691236517205 : Nat) : Int) := and_u64K _ (by omega) (by decide)
 obtain ⟨a, ha⟩ : ∃ a, ocA n = a := ⟨_, rfl⟩
 have ha' := ha
 unfold ocA at ha'
 obtain ⟨p1, hp1⟩ : ∃ p, n / 2 &&& 6148914691236517205 = p := ⟨_, rfl⟩
 obtain ⟨p2, hp2⟩ : ∃ p, n &&& 6148914691236517205 = p := ⟨_, rfl⟩
 rw [hp1] at e1 l1 ha'
 rw [hp2] at e2 l2 ha'
 have la : a < 131072 := by omega
 have e3 : IntKind.u64.wrap ((p1 : Int) + (p2 : Int)) = (a : Int) := by rw [← ha']; exact wrap_u64K (a := p1 + p2) (by omega)
 rw [ha] at E
 clear ha ha' hp1 hp2 l1 l2
 have m1 : a / 4 &&& 3689348814741910323 ≤ a / 4 := Nat.and_le_left
 have m2 : a &&& 3689348814741910323 ≤ a := Nat.and_le_left
 have f1 : bits .and .u64 ((a : Int) / 4) 3689348814741910323 = ((a / 4 &&& 3689348814741910323 : Nat) : Int) := and_u64K (a := a / 4) _ (by omega) (by decide)
 have f2 : bits .and .u64 (a : Int) 3689348814741910323 = ((a &&& 3689348814741910323 : Nat) : Int) := and_u64K _ (by omega) (by decide)
 obtain ⟨b, hb⟩ : ∃ b, ocB a = b := ⟨_, rfl⟩
 have hb' := hb
 unfold ocB at hb'
 obtain ⟨q1, hq1⟩ : ∃ p, a / 4 &&& 3689348814741910323 = p := ⟨_, rfl⟩
 obtain ⟨q2, hq2⟩ : ∃ p, a &&& 3689348814741910323 = p := ⟨_, rfl⟩
 rw [hq1] at f1 m1 hb'
 rw [hq2] at f2 m2 hb'
 have lb : b < 262144 := by omega
 have f3 : IntKind.u64.wrap ((q1 : Int) + (q2 : Int)) = (b : Int) := by rw [← hb']; exact wrap_u64K (a := q1 + q2) (by omega)
 rw [hb] at E
 clear hb hb' hq1 hq2 m1 m2
 obtain ⟨r, hr⟩ : ∃ r, b / 16 + b = r := ⟨_, rfl⟩
 have lr : r < 524288 := by omega
 have g1 : IntKind.u64.wrap ((b : Int) / 16 + (b : Int)) = (r : Int) := by rw [← hr]; exact wrap_u64K (a := b / 16 + b) (by omega)
 have m3 : r &&& 1085102592571150095 ≤ r := Nat.and_le_left
 have g2 : bits .and .u64 (r : Int) 1085102592571150095 = ((r &&& 1085102592571150095 : Nat) : Int) := and_u64K _ (by omega) (by decide)
 obtain ⟨c, hc⟩ : ∃ c, ocC b = c := ⟨_, rfl⟩
 have hc' := hc
 unfold ocC at hc'
 rw [hr] at hc'
 rw [hc'] at g2 m3
 have lc : c < 524288 := by omega
 rw [hc] at E
 clear hc hc' hr m3
 obtain ⟨d, hd⟩ : ∃ d, c + c / 256 = d := ⟨_, rfl⟩
 obtain ⟨u, hu⟩ : ∃ u, d + d / 65536 = u := ⟨_, rfl⟩
 obtain ⟨f, hf⟩ : ∃ f, u + u / 4294967296 = f := ⟨_, rfl⟩
 have h1 : IntKind.u64.wrap ((c : Int) + (c : Int) / 256) = (d : Int) := by rw [← hd]; exact wrap_u64K (a := c + c / 256) (by omega)
 have h2 : IntKind.u64.wrap ((d : Int) + (d : Int) / 65536) = (u : Int) := by rw [← hu]; exact wrap_u64K (a := d + d / 65536) (by omega)
 have h3 : IntKind.u64.wrap ((u : Int) + (u : Int) / 4294967296) = (f : Int) := by rw [← hf]; exact wrap_u64K (a := u + u / 4294967296) (by omega)
 have lf : f < 1000000 := by omega
 have E2 : ocN n = f &&& 127 := by rw [E.out]; show (c + c / 256 + (c + c / 256) / 65536 + (c + c / 256 + (c + c / 256) / 65536) / 4294967296) &&& 127 = _; rw [hd, hu, hf]
 have h4 : bits .and .i64 (f : Int) 127 = ((f &&& 127 : Nat) : Int) := and_i64K _ (by omega) (by decide)
 rw [E2]
 obtain ⟨g, hg⟩ : ∃ g, f &&& 127 = g := ⟨_, rfl⟩
 rw [hg] at h4 ⊢
 clear hg E2 hd hu hf E
 go_enter Tryz.func112, Tryz.ntmps112
 go_wp2
 go_ret
 exact ⟨rfl, rfl⟩
set_option maxRecDepth 100000 in
theorem oc_any (n : Nat) (w : World) (hn : n < 65536) : Calls Tryz.prog 95 #[.int .u64 (n : Int)] w fun e w' => e = .returned (.int .i64 (ocN n : Int)) ∧ w' = w := by
 have C := hide' (oc64_any n w hn)
 go_enter Tryz.func95, Tryz.ntmps95
 go_wp2_with fail
 refine C.out.mono ?_
 rintro e w2 ⟨rfl, rfl⟩
 go_wp2
 go_ret
 exact ⟨rfl, rfl⟩
def dblL (z : List Value) : Nat → List Value
 | 0 => z
 | k + 1 => List.append (dblL z k) (dblL z k)
theorem dbl_rep (v : Value) (n : Nat) : ∀ k, dblL (List.replicate n v) k = List.replicate (2 ^ k * n) v
 | 0 => by show List.replicate n v = _; rw [Nat.pow_zero, Nat.one_mul]
 | k + 1 => by
  show dblL _ k ++ dblL _ k = _
  rw [dbl_rep v n k, List.replicate_append_replicate, ← Nat.add_mul, Nat.pow_succ, Nat.mul_two]
theorem zero_table : Tryz.zeroCells181 = arrQ 65536 (fun _ => .int .u16 0) := by
 have h : Tryz.zeroCells181 = (dblL (List.replicate 64 (.int .u16 0)) 10).toArray := rfl
 rw [h, dbl_rep]
 unfold arrQ
 rw [List.map_const', List.length_range]
theorem or_u16 {a b : Nat} (ha : a < 1024) (hb : b < 1024) : bits .or .u16 (a : Int) (b : Int) = ((a ||| b : Nat) : Int) := by
 have hx : a ||| b < 2 ^ 10 := Nat.or_lt_two_pow ha hb
 have t : ∀ x : Nat, x < 1024 → (BitVec.ofInt 16 (x : Int)).toNat = x := fun x h => by
  rw [BitVec.ofInt_natCast, BitVec.toNat_ofNat]; exact Nat.mod_eq_of_lt (by omega)
 show IntKind.u16.wrap ((BitVec.ofInt 16 (a : Int) ||| BitVec.ofInt 16 (b : Int)).toNat : Int) = _
 rw [BitVec.toNat_or, t a ha, t b hb]
 simp [IntKind.wrap, IntKind.signed, IntKind.bits]
 omega
def hQ (f : Nat → Nat) (k : Nat) : Value := .int .u16 ((f k : Nat) : Int)
def RlB (V : World) (b : Nat) (k : Int) (born stay : Nat) (st ra : Int) (ta : Option Addr) (tn tc : Nat) (s : ByteArray) : Prop := V.heap[b]? = some (.cells #[.int .i64 k, .int .i64 (born : Int), .int .i64 (stay : Int), .int .i64 st, .int .i64 ra, .slice ta tn tc, .string s] 24 (0, 0))
def tbF (born stay c i k : Nat) : Nat := if k < c then tbE born stay k 4 else if k = c then tbE born stay c i else 0
def TbO' (born stay : Nat) (w : World) (e : Ending) (w' : World) : Prop := ∃ tb, e = .returned (.pointer (some ⟨tb, 0, none⟩)) ∧ TtA w' tb (fun c => tbE born stay c 4) ∧ w.heap.size ≤ tb ∧ tb < w'.heap.size ∧ Below w.heap.size w w'
set_option maxRecDepth 100000 in
set_option maxHeartbeats 6400000 in
theorem tableOf_any (born stay : Nat) (k st ra : Int) (ta : Option Addr) (tn tc : Nat) (s : ByteArray) (w : World) (hb : born ≤ 511) (hs : stay ≤ 511) : Calls Tryz.prog 56 #[.agg #[.int .i64 k, .int .i64 (born : Int), .int .i64 (stay : Int), .int .i64 st, .int .i64 ra, .slice ta tn tc, .string s]] w (TbO' born stay w) := by
 obtain ⟨w1, hw1⟩ : ∃ x, w.alloc (.cells #[.int .i64 k, .int .i64 (born : Int), .int .i64 (stay : Int), .int .i64 st, .int .i64 ra, .slice ta tn tc, .string s] 24) = x := ⟨_, rfl⟩
 have r1 : RlB w1 w.heap.size k born stay st ra ta tn tc s := by rw [← hw1]; exact heap_alloc_new _ _
 have b1 : Below w.heap.size w w1 := by rw [← hw1]; exact (Below.refl _ _).alloc (Nat.le_refl _) _
 have z1 : w1.heap.size = w.heap.size + 1 := by rw [← hw1]; simp
 obtain ⟨w2, hw2⟩ : ∃ x, w1.alloc (.cells Tryz.zeroCells181 181) = x := ⟨_, rfl⟩
 have A2 := hide' (show ArV w2 (w.heap.size + 1) 65536 181 (hQ fun _ => 0) by
  have := heap_alloc_new w1 (.cells Tryz.zeroCells181 181)
  rw [hw2, z1, zero_table] at this
  exact this)
 have b2 : Below w1.heap.size w1 w2 := by rw [← hw2]; exact (Below.refl _ _).alloc (Nat.le_refl _) _
 have R2 := hide' (show RlB w2 w.heap.size k born stay st ra ta tn tc s from (b2.block _ (by omega)).trans r1)
 have B2 := hide' (b1.trans (b2.mono (by omega)))
 have HW := hide' (And.intro hw1 hw2)
 clear hw1 hw2 r1 b1 b2 z1
 go_enter Tryz.func56, Tryz.ntmps56
 go_upto_region 2 with fail
 obtain ⟨q1, q2⟩ := HW.out
 rw [q1, q2]
 clear q1 q2 HW
 obtain ⟨tb, htb⟩ : ∃ x, w.heap.size + 1 = x := ⟨_, rfl⟩
 rw [htb] at A2 ⊢
 have TB := hide' htb
 clear htb
 go_wp2
 go_loopw [4, 5, 6, 7, 8, 9, 10, 12] (fun _ _ _ _ _ _ _ cv wr => ∃ (c : Nat), cv = .int .i64 (c : Int) ∧ c ≤ 65536 ∧ Hid (ArV wr tb 65536 181 (hQ (tbF born stay c 0))) ∧ Hid (RlB wr w.heap.size k born stay st ra ta tn tc s) ∧ Hid (Below w.heap.size w wr)) (fun _ _ _ _ _ _ _ cv _ => 65536 - (intOf cv).toNat)
 case atStart => exact ⟨0, rfl, by omega, hide' (A2.out.ext fun k _ => by unfold hQ tbF; rw [if_neg (by omega)]; split <;> rfl), R2, B2⟩
 case round =>
  clear A2 R2 B2
  obtain ⟨c, rfl, hc, AC, RC, BC⟩ := hrel
  by_cases dc : (c : Int) < 65536
  ·have cl : c < 65536 := by omega
   have cc0 : (0 : Int) ≤ (c : Int) := by omega
   go_wp2
   go_loopw [5, 6, 7, 8, 9, 10, 15] (fun _ _ _ _ _ _ iv wr => ∃ (i : Nat), iv = .int .i64 (i : Int) ∧ i ≤ 4 ∧ Hid (ArV wr tb 65536 181 (hQ (tbF born stay c i))) ∧ Hid (RlB wr w.heap.size k born stay st ra ta tn tc s) ∧ Hid (Below w.heap.size w wr)) (fun _ _ _ _ _ _ iv _ => 4 - (intOf iv).toNat)
   case atStart => exact ⟨0, rfl, by omega, AC, RC, BC⟩
   case round =>
    clear AC RC BC
    obtain ⟨i, rfl, hi, AI, RI, BI⟩ := hrel
    by_cases di : (i : Int) < 4
    ·have il : i < 4 := by omega
     have xe : (i : Int) % 2 = ((i % 2 : Nat) : Int) := by omega
     have ye : (i : Int) / 2 = ((i / 2 : Nat) : Int) := by omega
     have TE : tcE i = 4 * (i / 2) + i % 2 := rfl
     have TS := hide' (show tbE born stay c (i + 1) = tbE born stay c i ||| (tvE born stay c i <<< (8 * (i / 2) + i % 2)) from rfl)
     have TV := hide' (show tvE born stay c i = ((if c >>> (tcE i + 5) &&& 1 = 1 then stay else born) >>> tnE c i) &&& 1 from rfl)
     have TN := hide' (show tnE c i = popD (c &&& 1879 <<< tcE i) 16 from rfl)
     have t1 := tv_le born stay c i
     have t2 := tb_lt born stay c i (by omega)
     obtain ⟨x, hx⟩ : ∃ x, i % 2 = x := ⟨_, rfl⟩
     obtain ⟨y, hy⟩ : ∃ y, i / 2 = y := ⟨_, rfl⟩
     have xl : x ≤ 1 := by omega
     have yl : y ≤ 1 := by omega
     rw [hx] at xe TE TS
     rw [hy] at ye TE TS
     obtain ⟨p, hp⟩ : ∃ p, tcE i = p := ⟨_, rfl⟩
     rw [hp] at TE TV TN
     have pl : p ≤ 5 := by omega
     have ep : 4 * (y : Int) + (x : Int) = (p : Int) := by omega
     have rl : 1879 <<< p ≤ 60128 := by
      rw [Nat.shiftLeft_eq]
      have : 2 ^ p ≤ 2 ^ 5 := Nat.pow_le_pow_right (by decide) pl
      omega
     have rs : IntKind.u64.wrap (1879 * (2 : Int) ^ p) = ((1879 <<< p : Nat) : Int) := by
      have := shl_u64 1879 p ((2 : Int) ^ p) (by push_cast; rfl)
      rw [Nat.mod_eq_of_lt (by omega)] at this
      exact this
     obtain ⟨r, hr⟩ : ∃ r, 1879 <<< p = r := ⟨_, rfl⟩
     rw [hr] at rl rs TN
     have ca : bits .and .u64 (c : Int) (r : Int) = ((c &&& r : Nat) : Int) := u64_and_nat c r (by omega) (by omega)
     have cr : c &&& r ≤ c := Nat.and_le_left
     obtain ⟨d, hd⟩ : ∃ d, c &&& r = d := ⟨_, rfl⟩
     rw [hd] at ca cr TN
     have OC := hide' (fun V => oc_any d V (by omega))
     have e16 := oc_pop 16 d (by omega) (by omega)
     have n16 : popD d 16 ≤ 16 := cnt_le _ _
     rw [e16] at OC
     rw [← TN.out] at OC n16
     obtain ⟨n, hn⟩ : ∃ n, tnE c i = n := ⟨_, rfl⟩
     rw [hn] at OC n16 TV
     have cs : (c : Int) / (2 : Int) ^ (p + 5) = ((c >>> (p + 5) : Nat) : Int) := by
      rw [Nat.shiftRight_eq_div_pow, Int.natCast_ediv]
      push_cast
      rfl
     have cl5 : c >>> (p + 5) ≤ c := shr_leH c (p + 5)
     obtain ⟨h, hh⟩ : ∃ h, c >>> (p + 5) = h := ⟨_, rfl⟩
     rw [hh] at cs cl5 TV
     have ha : bits .and .i64 (h : Int) 1 = ((h &&& 1 : Nat) : Int) := and_i64K (a := h) 1 (by omega) (by decide)
     clear hx hy hp hr hd e16 TN hn hh TE
     have wp5 : IntKind.i64.wrap ((p : Int) + 5) = (p : Int) + 5 := by simp [IntKind.wrap, IntKind.signed, IntKind.bits]; omega
     have h1 : h &&& 1 ≤ 1 := Nat.and_le_right
     obtain ⟨g, hg⟩ : ∃ g, h &&& 1 = g := ⟨_, rfl⟩
     rw [hg] at ha h1 TV
     have rb := RI.out
     clear hg
     have dI : (d : Int) < 65536 := by omega
     obtain ⟨v, hv⟩ : ∃ v, tvE born stay c i = v := ⟨_, rfl⟩
     obtain ⟨o, ho⟩ : ∃ o, tbE born stay c i = o := ⟨_, rfl⟩
     obtain ⟨q, hq⟩ : ∃ q, 8 * y + x = q := ⟨_, rfl⟩
     rw [hv] at TS t1
     rw [ho] at TS t2
     rw [hq] at TS
     have q9 : q ≤ 9 := by omega
     have eq8 : 8 * (y : Int) + (x : Int) = (q : Int) := by omega
     have vl : v <<< q < 1024 := by
      rw [Nat.shiftLeft_eq]
      have : 2 ^ q ≤ 2 ^ 9 := Nat.pow_le_pow_right (by decide) q9
      exact Nat.lt_of_le_of_lt (Nat.mul_le_mul t1 this) (by decide)
     have vs : IntKind.u16.wrap ((v : Int) * (2 : Int) ^ q) = ((v <<< q : Nat) : Int) := by
      rw [Nat.shiftLeft_eq] at vl ⊢
      rw [show ((v : Int) * (2 : Int) ^ q) = ((v * 2 ^ q : Nat) : Int) by push_cast; rfl]
      generalize v * 2 ^ q = t at vl ⊢
      simp [IntKind.wrap, IntKind.signed, IntKind.bits]
      omega
     obtain ⟨sv, hsv⟩ : ∃ sv, v <<< q = sv := ⟨_, rfl⟩
     rw [hsv] at TS vl vs
     have os := or_u16 t2 vl
     obtain ⟨nw, hnw⟩ : ∃ nw, o ||| sv = nw := ⟨_, rfl⟩
     rw [hnw] at TS os
     have CW := hide' (show wr.cell? ⟨tb, c, none⟩ = some (.int .u16 (o : Int)) by
      rw [AI.out.cell cl]; unfold hQ tbF; rw [if_neg (by omega), if_pos rfl, ho])
     have FW := hide' (AI.out.frozen c)
     have k1 := hide' (cell_of_row wr _ 1 _ _ _ rb)
     have k2 := hide' (cell_of_row wr _ 2 _ _ _ rb)
     have HO := hide' (And.intro hv ho)
     clear ho hq hsv hnw rb
     go_upto_region 9 with fail
     rw [xe]
     clear xe ye
     go_upto_region 11 with (first | (go_at_call 95; refine (OC.out _).mono ?_; rintro e w3 ⟨rfl, rfl⟩))
     have k3 := k1.out
     have k4 := k2.out
     clear rs ca
     have : g = 0 ∨ g = 1 := by omega
     rcases this with rfl | rfl
     ·rw [if_neg (by decide)] at TV
      have bs : (born : Int) / (2 : Int) ^ n = ((born >>> n : Nat) : Int) := by
       rw [Nat.shiftRight_eq_div_pow, Int.natCast_ediv]
       push_cast
       rfl
      have bl : born >>> n ≤ born := shr_leH born n
      obtain ⟨z, hz⟩ : ∃ z, born >>> n = z := ⟨_, rfl⟩
      rw [hz] at bs bl TV
      have ba : bits .and .i64 (z : Int) 1 = ((z &&& 1 : Nat) : Int) := and_i64K (a := z) 1 (by omega) (by decide)
      rw [← TV.out, hv] at ba
      clear hz
      have c1 := CW.out
      have c2 := FW.out
      have vw : IntKind.u16.wrap (v : Int) = (v : Int) := by simp [IntKind.wrap, IntKind.signed, IntKind.bits]; omega
      go_upto_region 14 with fail
      clear k3 k4 cs ha ep wp5
      go_region
      obtain ⟨w5, hw5⟩ : ∃ w5, (w3.setCell ⟨tb, c, none⟩ (.int .u16 (nw : Int))).drew = w5 := ⟨_, rfl⟩
      have tg := TB.out
      have AN := hide' (show ArV w5 tb 65536 181 (hQ (tbF born stay c (i + 1))) by
       rw [← hw5]
       exact (AI.out.set c (.int .u16 (nw : Int))).ext fun k _ => by
        show (if k = c then Value.int .u16 (nw : Int) else hQ (tbF born stay c i) k) = _
        unfold hQ tbF
        by_cases e : k = c
        ·rw [if_pos e, if_neg (by omega), if_pos e, TS.out]
        ·rw [if_neg e, if_neg e, if_neg e])
      have RN := hide' (show RlB w5 w.heap.size k born stay st ra ta tn tc s by
       rw [← hw5]
       exact (set_other (k := c) (v := .int .u16 (nw : Int)) (show w.heap.size ≠ tb by omega)).trans RI.out)
      have BN := hide' (show Below w.heap.size w w5 by
       rw [← hw5]
       exact (BI.out.setCell (by simp; omega) _).drew)
      rw [hw5]
      clear hw5 tg c1 c2 bs ba vw os vs eq8
      go_wp2
      exact ⟨⟨i + 1, by go_num, by omega, AN, RN, BN⟩, by simp [intOf]; omega⟩
     ·rw [if_pos rfl] at TV
      have bs : (stay : Int) / (2 : Int) ^ n = ((stay >>> n : Nat) : Int) := by
       rw [Nat.shiftRight_eq_div_pow, Int.natCast_ediv]
       push_cast
       rfl
      have bl : stay >>> n ≤ stay := shr_leH stay n
      obtain ⟨z, hz⟩ : ∃ z, stay >>> n = z := ⟨_, rfl⟩
      rw [hz] at bs bl TV
      have ba : bits .and .i64 (z : Int) 1 = ((z &&& 1 : Nat) : Int) := and_i64K (a := z) 1 (by omega) (by decide)
      rw [← TV.out, hv] at ba
      clear hz
      have c1 := CW.out
      have c2 := FW.out
      have vw : IntKind.u16.wrap (v : Int) = (v : Int) := by simp [IntKind.wrap, IntKind.signed, IntKind.bits]; omega
      go_upto_region 14 with fail
      clear k3 k4 cs ha ep wp5
      go_region
      obtain ⟨w5, hw5⟩ : ∃ w5, (w3.setCell ⟨tb, c, none⟩ (.int .u16 (nw : Int))).drew = w5 := ⟨_, rfl⟩
      have tg := TB.out
      have AN := hide' (show ArV w5 tb 65536 181 (hQ (tbF born stay c (i + 1))) by
       rw [← hw5]
       exact (AI.out.set c (.int .u16 (nw : Int))).ext fun k _ => by
        show (if k = c then Value.int .u16 (nw : Int) else hQ (tbF born stay c i) k) = _
        unfold hQ tbF
        by_cases e : k = c
        ·rw [if_pos e, if_neg (by omega), if_pos e, TS.out]
        ·rw [if_neg e, if_neg e, if_neg e])
      have RN := hide' (show RlB w5 w.heap.size k born stay st ra ta tn tc s by
       rw [← hw5]
       exact (set_other (k := c) (v := .int .u16 (nw : Int)) (show w.heap.size ≠ tb by omega)).trans RI.out)
      have BN := hide' (show Below w.heap.size w w5 by
       rw [← hw5]
       exact (BI.out.setCell (by simp; omega) _).drew)
      rw [hw5]
      clear hw5 tg c1 c2 bs ba vw os vs eq8
      go_wp2
      exact ⟨⟨i + 1, by go_num, by omega, AN, RN, BN⟩, by simp [intOf]; omega⟩
    ·obtain rfl : i = 4 := by omega
     have A3 := hide' (AI.out.ext (f' := hQ (tbF born stay (c + 1) 0)) fun k _ => by
      unfold hQ tbF
      by_cases e : k < c
      ·rw [if_pos e, if_pos (by omega)]
      ·rw [if_neg e]
       by_cases e2 : k = c
       ·rw [if_pos e2, if_pos (by omega), e2]
       ·rw [if_neg e2, if_neg (by omega)]
        split <;> rfl)
     go_wp2
     exact ⟨⟨c + 1, by go_num, by omega, A3, RI, BI⟩, by simp [intOf]; omega⟩
  ·obtain rfl : c = 65536 := by omega
   have TT := hide' (show TtA wr tb (fun c => tbE born stay c 4) from ⟨fun c hc => by rw [AC.out.cell hc]; unfold hQ tbF; rw [if_pos hc], fun c => tb_lt born stay c 4 (by decide)⟩)
   have lt := AC.out.lt
   go_wp2
   go_ret
   exact ⟨tb, rfl, TT.out, by have := TB.out; omega, lt, BC.out⟩
end Go.Proofs.YtemhcpldflcfbaaGreatDoor
