/-
  What the last text of this claim leans on, part 8: Hv2, Hv3, Hv4, Ha4.
-/
import Derived.Test.YtemhcpldflcfbaaGreatDoorYf3
import Derived.Test.YtemhcpldflcfbaaGreatDoorYf7
import Derived.Laws.BitsAllLaws
namespace Go.Proofs.YtemhcpldflcfbaaGreatDoor
set_option linter.unusedVariables false
def ohA (x : Nat) : Nat := (x / 2 &&& 6148914691236517205) + (x &&& 6148914691236517205)
def ohB (x : Nat) : Nat := (x / 4 &&& 3689348814741910323) + (x &&& 3689348814741910323)
def ohC (x : Nat) : Nat := (x / 16 + x) &&& 1085102592571150095
def ohD (c : Nat) : Nat := c + c / 256
def ohE (d : Nat) : Nat := d + d / 65536
def ohF (e : Nat) : Nat := e + e / 4294967296
def ohN (x : Nat) : Nat := ohF (ohE (ohD (ohC (ohB (ohA x))))) &&& 127
theorem and_byte (h m b c : Nat) (hb : b < 256) (hc : c < 256) : (256 * h + b) &&& (256 * m + c) = 256 * (h &&& m) + (b &&& c) := by
 refine Nat.eq_of_testBit_eq fun i => ?_
 have hx : b &&& c < 2 ^ 8 := Nat.lt_of_le_of_lt Nat.and_le_left hb
 rw [Nat.testBit_and, show 256 * h + b = 2 ^ 8 * h + b from rfl, show 256 * m + c = 2 ^ 8 * m + c from rfl, show 256 * (h &&& m) + (b &&& c) = 2 ^ 8 * (h &&& m) + (b &&& c) from rfl, Nat.testBit_two_pow_mul_add _ hb, Nat.testBit_two_pow_mul_add _ hc, Nat.testBit_two_pow_mul_add _ hx]
 split
 ·rw [Nat.testBit_and]
 ·rw [Nat.testBit_and]
def spW (f : Nat → Nat) : Nat → Nat → Nat
 | 0, _ => 0
 | n + 1, x => 256 * spW f n (x / 256) + f (x % 256)
def mkW (c : Nat) : Nat → Nat
 | 0 => 0
 | n + 1 => 256 * mkW c n + c
def pA (b : Nat) : Nat := (b / 2 &&& 85) + (b &&& 85)
def pB (b : Nat) : Nat := (b / 4 &&& 51) + (b &&& 51)
def pC (b : Nat) : Nat := b / 16 + b % 16
theorem lowA : ∀ b : Fin 256, ∀ e : Fin 2, (128 * e.val + b.val / 2) &&& 85 = b.val / 2 &&& 85 := by decide +kernel
theorem lowB : ∀ b : Fin 256, ∀ e : Fin 4, (64 * e.val + b.val / 4) &&& 51 = b.val / 4 &&& 51 := by decide +kernel
theorem stepA : ∀ n x, (x / 2 &&& mkW 85 n) + (x &&& mkW 85 n) = spW pA n x
 | 0, x => by show (x / 2 &&& 0) + (x &&& 0) = 0; rw [Nat.and_zero, Nat.and_zero]
 | n + 1, x => by
  have ih := stepA n (x / 256)
  show (x / 2 &&& (256 * mkW 85 n + 85)) + (x &&& (256 * mkW 85 n + 85)) = 256 * spW pA n (x / 256) + pA (x % 256)
  have e1 : x / 2 = 256 * (x / 256 / 2) + (128 * (x / 256 % 2) + x % 256 / 2) := by omega
  have e2 : x = 256 * (x / 256) + x % 256 := by omega
  have a1 : (x / 2) &&& (256 * mkW 85 n + 85) = 256 * ((x / 256 / 2) &&& mkW 85 n) + ((128 * (x / 256 % 2) + x % 256 / 2) &&& 85) := by
   rw [← and_byte _ _ _ _ (by omega) (by decide), ← e1]
  have a2 : x &&& (256 * mkW 85 n + 85) = 256 * ((x / 256) &&& mkW 85 n) + ((x % 256) &&& 85) := by
   rw [← and_byte _ _ _ _ (by omega) (by decide), ← e2]
  have l := lowA ⟨x % 256, by omega⟩ ⟨x / 256 % 2, by omega⟩
  simp only [] at l
  rw [a1, a2, l, ← ih]
  unfold pA
  omega
theorem stepB : ∀ n x, (x / 4 &&& mkW 51 n) + (x &&& mkW 51 n) = spW pB n x
 | 0, x => by show (x / 4 &&& 0) + (x &&& 0) = 0; rw [Nat.and_zero, Nat.and_zero]
 | n + 1, x => by
  have ih := stepB n (x / 256)
  show (x / 4 &&& (256 * mkW 51 n + 51)) + (x &&& (256 * mkW 51 n + 51)) = 256 * spW pB n (x / 256) + pB (x % 256)
  have e1 : x / 4 = 256 * (x / 256 / 4) + (64 * (x / 256 % 4) + x % 256 / 4) := by omega
  have e2 : x = 256 * (x / 256) + x % 256 := by omega
  have a1 : (x / 4) &&& (256 * mkW 51 n + 51) = 256 * ((x / 256 / 4) &&& mkW 51 n) + ((64 * (x / 256 % 4) + x % 256 / 4) &&& 51) := by
   rw [← and_byte _ _ _ _ (by omega) (by decide), ← e1]
  have a2 : x &&& (256 * mkW 51 n + 51) = 256 * ((x / 256) &&& mkW 51 n) + ((x % 256) &&& 51) := by
   rw [← and_byte _ _ _ _ (by omega) (by decide), ← e2]
  have l := lowB ⟨x % 256, by omega⟩ ⟨x / 256 % 4, by omega⟩
  simp only [] at l
  rw [a1, a2, l, ← ih]
  unfold pB
  omega
theorem spW_two {f g : Nat → Nat} (hg : ∀ b, b < 256 → g b < 256) : ∀ n x, spW f n (spW g n x) = spW (fun b => f (g b)) n x
 | 0, x => rfl
 | n + 1, x => by
  have l := hg (x % 256) (by omega)
  show 256 * spW f n ((256 * spW g n (x / 256) + g (x % 256)) / 256) + f ((256 * spW g n (x / 256) + g (x % 256)) % 256) = 256 * spW (fun b => f (g b)) n (x / 256) + f (g (x % 256))
  rw [← spW_two hg n (x / 256), show (256 * spW g n (x / 256) + g (x % 256)) / 256 = spW g n (x / 256) by omega, show (256 * spW g n (x / 256) + g (x % 256)) % 256 = g (x % 256) by omega]
theorem lowC : ∀ b : Fin 256, b.val % 16 ≤ 4 → b.val / 16 ≤ 4 → ∀ e : Fin 5, (16 * e.val + b.val / 16 + b.val) &&& 15 = pC b.val := by decide +kernel
theorem stepC {g : Nat → Nat} (hg : ∀ b, b < 256 → g b < 256 ∧ g b % 16 ≤ 4 ∧ g b / 16 ≤ 4) : ∀ n x, (spW g n x / 16 + spW g n x) &&& mkW 15 n = spW (fun b => pC (g b)) n x
 | 0, x => by show (0 / 16 + 0) &&& 0 = 0; decide
 | n + 1, x => by
  have ih := stepC hg n (x / 256)
  obtain ⟨g1, g2, g3⟩ := hg (x % 256) (by omega)
  have hl : spW g n (x / 256) % 16 ≤ 4 := by
   cases n with
   | zero => show 0 % 16 ≤ 4; omega
   | succ m =>
    obtain ⟨k1, k2, k3⟩ := hg (x / 256 % 256) (by omega)
    show (256 * spW g m (x / 256 / 256) + g (x / 256 % 256)) % 16 ≤ 4
    omega
  show ((256 * spW g n (x / 256) + g (x % 256)) / 16 + (256 * spW g n (x / 256) + g (x % 256))) &&& (256 * mkW 15 n + 15) = 256 * spW (fun b => pC (g b)) n (x / 256) + pC (g (x % 256))
  generalize spW g n (x / 256) = h at hl ih ⊢
  have l := lowC ⟨g (x % 256), g1⟩ g2 g3 ⟨h % 16, by omega⟩
  simp only [] at l
  generalize g (x % 256) = b at *
  rw [show (256 * h + b) / 16 + (256 * h + b) = 256 * (h / 16 + h) + (16 * (h % 16) + b / 16 + b) by omega, and_byte _ _ _ _ (by omega) (by decide), ih, l]
def p8 (b : Nat) : Nat := pC (pB (pA b))
theorem all8 : ∀ b : Fin 256, (pA b.val < 256 ∧ pB (pA b.val) < 256) ∧ (pB (pA b.val) % 16 ≤ 4 ∧ pB (pA b.val) / 16 ≤ 4) ∧ p8 b.val = popW 8 b.val ∧ p8 b.val ≤ 8 := by decide +kernel
theorem ohC_is (x : Nat) : ohC (ohB (ohA x)) = spW p8 8 x := by
 have a := stepA 8 x
 rw [show mkW 85 8 = 6148914691236517205 from rfl] at a
 have b := stepB 8 (spW pA 8 x)
 rw [show mkW 51 8 = 3689348814741910323 from rfl, spW_two (fun b hb => (all8 ⟨b, hb⟩).1.1)] at b
 have c := stepC (g := fun b => pB (pA b)) (fun b hb => ⟨(all8 ⟨b, hb⟩).1.2, (all8 ⟨b, hb⟩).2.1⟩) 8 x
 rw [show mkW 15 8 = 1085102592571150095 from rfl] at c
 unfold ohA ohB ohC
 rw [a, b, c]
 rfl
theorem popW_mod : ∀ n k, popW n (k % 2 ^ n) = popW n k
 | 0, k => rfl
 | n + 1, k => by
  show k % 2 ^ (n + 1) % 2 + popW n (k % 2 ^ (n + 1) / 2) = k % 2 + popW n (k / 2)
  have e1 : k % 2 ^ (n + 1) % 2 = k % 2 := Nat.mod_mod_of_dvd _ (by rw [Nat.pow_succ]; exact Nat.dvd_mul_left _ _)
  have e2 : k % 2 ^ (n + 1) / 2 = k / 2 % 2 ^ n := by
   rw [Nat.pow_succ, Nat.mul_comm, Nat.mod_mul_right_div_self]
  rw [e1, e2, popW_mod n]
theorem popW_bytes (k : Nat) : popN k = popW 8 (k % 256) + popW 8 (k / 256 % 256) + popW 8 (k / 256 / 256 % 256) + popW 8 (k / 256 / 256 / 256 % 256) + popW 8 (k / 256 / 256 / 256 / 256 % 256) + popW 8 (k / 256 / 256 / 256 / 256 / 256 % 256) + popW 8 (k / 256 / 256 / 256 / 256 / 256 / 256 % 256) + popW 8 (k / 256 / 256 / 256 / 256 / 256 / 256 / 256 % 256) := by
 have h := fun n k => popW_add 8 n k
 have m := fun k => popW_mod 8 k
 rw [show (2 : Nat) ^ 8 = 256 from rfl] at h m
 simp only [m]
 show popW (8 + (8 + (8 + (8 + (8 + (8 + (8 + (8 + 0)))))))) k = _
 simp only [h]
 show _ + (_ + (_ + (_ + (_ + (_ + (_ + (_ + 0))))))) = _
 omega
theorem dvW {Q r K x : Nat} (hr : r < K) (h : x = K * Q + r) : x / K = Q := by
 rw [h, Nat.mul_add_div (by omega), Nat.div_eq_of_lt hr]; rfl
theorem sumD {c0 c1 c2 c3 c4 c5 c6 c7 : Nat} (h : c0 < 256) : ohD (1 * c0 + 256 * c1 + 65536 * c2 + 16777216 * c3 + 4294967296 * c4 + 1099511627776 * c5 + 281474976710656 * c6 + 72057594037927936 * c7) = 1 * (c0 + c1) + 256 * (c1 + c2) + 65536 * (c2 + c3) + 16777216 * (c3 + c4) + 4294967296 * (c4 + c5) + 1099511627776 * (c5 + c6) + 281474976710656 * (c6 + c7) + 72057594037927936 * c7 := by
 unfold ohD
 rw [dvW (Q := 1 * c1 + 256 * c2 + 65536 * c3 + 16777216 * c4 + 4294967296 * c5 + 1099511627776 * c6 + 281474976710656 * c7) (r := c0) h (by omega)]
 omega
theorem sumE {c0 c1 c2 c3 c4 c5 c6 c7 : Nat} (h0 : c0 < 256) (h1 : c1 < 256) : ohE (1 * c0 + 256 * c1 + 65536 * c2 + 16777216 * c3 + 4294967296 * c4 + 1099511627776 * c5 + 281474976710656 * c6 + 72057594037927936 * c7) = 1 * (c0 + c2) + 256 * (c1 + c3) + 65536 * (c2 + c4) + 16777216 * (c3 + c5) + 4294967296 * (c4 + c6) + 1099511627776 * (c5 + c7) + 281474976710656 * c6 + 72057594037927936 * c7 := by
 unfold ohE
 rw [dvW (Q := 1 * c2 + 256 * c3 + 65536 * c4 + 16777216 * c5 + 4294967296 * c6 + 1099511627776 * c7) (r := c0 + 256 * c1) (by omega) (by omega)]
 omega
theorem sumF {c0 c1 c2 c3 c4 c5 c6 c7 : Nat} (h0 : c0 < 256) (h1 : c1 < 256) (h2 : c2 < 256) (h3 : c3 < 256) : ohF (1 * c0 + 256 * c1 + 65536 * c2 + 16777216 * c3 + 4294967296 * c4 + 1099511627776 * c5 + 281474976710656 * c6 + 72057594037927936 * c7) = 1 * (c0 + c4) + 256 * (c1 + c5) + 65536 * (c2 + c6) + 16777216 * (c3 + c7) + 4294967296 * c4 + 1099511627776 * c5 + 281474976710656 * c6 + 72057594037927936 * c7 := by
 unfold ohF
 rw [dvW (Q := 1 * c4 + 256 * c5 + 65536 * c6 + 16777216 * c7) (r := c0 + 256 * c1 + 65536 * c2 + 16777216 * c3) (by omega) (by omega)]
 omega
theorem sum8 {c0 c1 c2 c3 c4 c5 c6 c7 : Nat} (b0 : c0 ≤ 8) (b1 : c1 ≤ 8) (b2 : c2 ≤ 8) (b3 : c3 ≤ 8) (b4 : c4 ≤ 8) (b5 : c5 ≤ 8) (b6 : c6 ≤ 8) (b7 : c7 ≤ 8) : ohF (ohE (ohD (1 * c0 + 256 * c1 + 65536 * c2 + 16777216 * c3 + 4294967296 * c4 + 1099511627776 * c5 + 281474976710656 * c6 + 72057594037927936 * c7))) % 2 ^ 7 = c0 + c1 + c2 + c3 + c4 + c5 + c6 + c7 := by
 rw [sumD (by omega), sumE (by omega) (by omega), sumF (by omega) (by omega) (by omega) (by omega)]
 omega
theorem oh_pop (x : Nat) : ohN x = popN x := by
 unfold ohN
 rw [ohC_is, popW_bytes]
 have e : ∀ b, b < 256 → p8 b = popW 8 b ∧ popW 8 b ≤ 8 := fun b hb => by
  have := (all8 ⟨b, hb⟩).2.2
  simp only [] at this
  exact ⟨this.1, by rw [← this.1]; exact this.2⟩
 show ohF (ohE (ohD (256 * (256 * (256 * (256 * (256 * (256 * (256 * (256 * 0 + p8 _) + p8 _) + p8 _) + p8 _) + p8 _) + p8 _) + p8 _) + p8 _))) &&& 127 = _
 obtain ⟨a0, b0⟩ := e (x % 256) (by omega)
 obtain ⟨a1, b1⟩ := e (x / 256 % 256) (by omega)
 obtain ⟨a2, b2⟩ := e (x / 256 / 256 % 256) (by omega)
 obtain ⟨a3, b3⟩ := e (x / 256 / 256 / 256 % 256) (by omega)
 obtain ⟨a4, b4⟩ := e (x / 256 / 256 / 256 / 256 % 256) (by omega)
 obtain ⟨a5, b5⟩ := e (x / 256 / 256 / 256 / 256 / 256 % 256) (by omega)
 obtain ⟨a6, b6⟩ := e (x / 256 / 256 / 256 / 256 / 256 / 256 % 256) (by omega)
 obtain ⟨a7, b7⟩ := e (x / 256 / 256 / 256 / 256 / 256 / 256 / 256 % 256) (by omega)
 rw [a0, a1, a2, a3, a4, a5, a6, a7, show 127 = 2 ^ 7 - 1 from rfl, Nat.and_two_pow_sub_one_eq_mod]
 generalize popW 8 (x % 256) = c0 at *
 generalize popW 8 (x / 256 % 256) = c1 at *
 generalize popW 8 (x / 256 / 256 % 256) = c2 at *
 generalize popW 8 (x / 256 / 256 / 256 % 256) = c3 at *
 generalize popW 8 (x / 256 / 256 / 256 / 256 % 256) = c4 at *
 generalize popW 8 (x / 256 / 256 / 256 / 256 / 256 % 256) = c5 at *
 generalize popW 8 (x / 256 / 256 / 256 / 256 / 256 / 256 % 256) = c6 at *
 generalize popW 8 (x / 256 / 256 / 256 / 256 / 256 / 256 / 256 % 256) = c7 at *
 rw [show 256 * (256 * (256 * (256 * (256 * (256 * (256 * (256 * 0 + c7) + c6) + c5) + c4) + c3) + c2) + c1) + c0 = 1 * c0 + 256 * c1 + 65536 * c2 + 16777216 * c3 + 4294967296 * c4 + 1099511627776 * c5 + 281474976710656 * c6 + 72057594037927936 * c7 by omega]
 exact sum8 b0 b1 b2 b3 b4 b5 b6 b7
open Go.RowKit
set_option linter.unusedSimpArgs false
theorem and_u64H {a : Nat} (K : Nat) (ha : a < 18446744073709551616) (hK : K < 18446744073709551616) : bits .and .u64 (a : Int) ((K : Nat) : Int) = ((a &&& K : Nat) : Int) := u64_and_nat a K ha hK
theorem wrap_u64H {a : Nat} (ha : a < 18446744073709551616) : IntKind.u64.wrap (a : Int) = (a : Int) := by rw [IntKind.wrap_u64]; omega
theorem and_i64H {a : Nat} (K : Nat) (ha : a < 9223372036854775808) (hK : K < 9223372036854775808) : bits .and .i64 (a : Int) ((K : Nat) : Int) = ((a &&& K : Nat) : Int) := by
 have hx : a &&& K < 2 ^ 63 := Nat.and_lt_two_pow _ (by omega)
 have e : ∀ x : Nat, x < 9223372036854775808 → (BitVec.ofInt 64 (x : Int)).toNat = x := fun x h => by
  rw [BitVec.ofInt_natCast, BitVec.toNat_ofNat]; exact Nat.mod_eq_of_lt (by omega)
 show IntKind.i64.wrap ((BitVec.ofInt 64 (a : Int) &&& BitVec.ofInt 64 (K : Int)).toNat : Int) = _
 rw [BitVec.toNat_and, e a ha, e K hK]
 simp [IntKind.wrap, IntKind.signed, IntKind.bits]
 omega
set_option maxRecDepth 100000 in
set_option maxHeartbeats 6400000 in
theorem ones64_is (n : Nat) (w : World) (hn : n < 18446744073709551616) : Calls Tryz.prog 112 #[.int .u64 (n : Int)] w fun e w' => e = .returned (.int .i64 (popN n : Int)) ∧ w' = w := by
 have E := hide' (show popN n = ohF (ohE (ohD (ohC (ohB (ohA n))))) &&& 127 from (oh_pop n).symm)
 have l1 : n / 2 &&& 6148914691236517205 ≤ 6148914691236517205 := Nat.and_le_right
 have l2 : n &&& 6148914691236517205 ≤ 6148914691236517205 := Nat.and_le_right
 have e1 : bits .and .u64 ((n : Int) / 2) 6148914691236517205 = ((n / 2 &&& 6148914691236517205 : Nat) : Int) := and_u64H (a := n / 2) _ (by omega) (by decide)
 have e2 : bits .and .u64 (n : Int) 6148914691236517205 = ((n &&& 6148914691236517205 : Nat) : Int) := and_u64H _ (by omega) (by decide)
 obtain ⟨a, ha⟩ : ∃ a, ohA n = a := ⟨_, rfl⟩
 have ha' := ha
 unfold ohA at ha'
 obtain ⟨p1, hp1⟩ : ∃ p, n / 2 &&& 6148914691236517205 = p := ⟨_, rfl⟩
 obtain ⟨p2, hp2⟩ : ∃ p, n &&& 6148914691236517205 = p := ⟨_, rfl⟩
 rw [hp1] at e1 l1 ha'
 rw [hp2] at e2 l2 ha'
 have la : a ≤ 12297829382473034410 := by omega
 have e3 : IntKind.u64.wrap ((p1 : Int) + (p2 : Int)) = (a : Int) := by rw [← ha']; exact wrap_u64H (a := p1 + p2) (by omega)
 rw [ha] at E
 clear ha ha' hp1 hp2 l1 l2
 have m1 : a / 4 &&& 3689348814741910323 ≤ 3689348814741910323 := Nat.and_le_right
 have m2 : a &&& 3689348814741910323 ≤ 3689348814741910323 := Nat.and_le_right
 have f1 : bits .and .u64 ((a : Int) / 4) 3689348814741910323 = ((a / 4 &&& 3689348814741910323 : Nat) : Int) := and_u64H (a := a / 4) _ (by omega) (by decide)
 have f2 : bits .and .u64 (a : Int) 3689348814741910323 = ((a &&& 3689348814741910323 : Nat) : Int) := and_u64H _ (by omega) (by decide)
 obtain ⟨b, hb⟩ : ∃ b, ohB a = b := ⟨_, rfl⟩
 have hb' := hb
 unfold ohB at hb'
 obtain ⟨q1, hq1⟩ : ∃ p, a / 4 &&& 3689348814741910323 = p := ⟨_, rfl⟩
 obtain ⟨q2, hq2⟩ : ∃ p, a &&& 3689348814741910323 = p := ⟨_, rfl⟩
 rw [hq1] at f1 m1 hb'
 rw [hq2] at f2 m2 hb'
 have lb : b ≤ 7378697629483820646 := by omega
 have f3 : IntKind.u64.wrap ((q1 : Int) + (q2 : Int)) = (b : Int) := by rw [← hb']; exact wrap_u64H (a := q1 + q2) (by omega)
 rw [hb] at E
 clear hb hb' hq1 hq2 m1 m2
 obtain ⟨r, hr⟩ : ∃ r, b / 16 + b = r := ⟨_, rfl⟩
 have lr : r ≤ 8000000000000000000 := by omega
 have g1 : IntKind.u64.wrap ((b : Int) / 16 + (b : Int)) = (r : Int) := by rw [← hr]; exact wrap_u64H (a := b / 16 + b) (by omega)
 have m3 : r &&& 1085102592571150095 ≤ 1085102592571150095 := Nat.and_le_right
 have g2 : bits .and .u64 (r : Int) 1085102592571150095 = ((r &&& 1085102592571150095 : Nat) : Int) := and_u64H _ (by omega) (by decide)
 obtain ⟨c, hc⟩ : ∃ c, ohC b = c := ⟨_, rfl⟩
 have hc' := hc
 unfold ohC at hc'
 rw [hr] at hc'
 rw [hc'] at g2 m3
 have lc : c ≤ 1085102592571150095 := by omega
 rw [hc] at E
 clear hc hc' hr m3
 obtain ⟨d, hd⟩ : ∃ d, c + c / 256 = d := ⟨_, rfl⟩
 obtain ⟨u, hu⟩ : ∃ u, d + d / 65536 = u := ⟨_, rfl⟩
 obtain ⟨f, hf⟩ : ∃ f, u + u / 4294967296 = f := ⟨_, rfl⟩
 have ld : d ≤ 1100000000000000000 := by omega
 have lu : u ≤ 1100100000000000000 := by omega
 have h1 : IntKind.u64.wrap ((c : Int) + (c : Int) / 256) = (d : Int) := by rw [← hd]; exact wrap_u64H (a := c + c / 256) (by omega)
 have h2 : IntKind.u64.wrap ((d : Int) + (d : Int) / 65536) = (u : Int) := by rw [← hu]; exact wrap_u64H (a := d + d / 65536) (by omega)
 have h3 : IntKind.u64.wrap ((u : Int) + (u : Int) / 4294967296) = (f : Int) := by rw [← hf]; exact wrap_u64H (a := u + u / 4294967296) (by omega)
 have lf : f < 1200000000000000000 := by omega
 have E2 : popN n = f &&& 127 := by rw [E.out]; show (c + c / 256 + (c + c / 256) / 65536 + (c + c / 256 + (c + c / 256) / 65536) / 4294967296) &&& 127 = _; rw [hd, hu, hf]
 have h4 : bits .and .i64 (f : Int) 127 = ((f &&& 127 : Nat) : Int) := and_i64H _ (by omega) (by decide)
 rw [E2]
 obtain ⟨g, hg⟩ : ∃ g, f &&& 127 = g := ⟨_, rfl⟩
 rw [hg] at h4 ⊢
 clear hg E2 hd hu hf E la lb lr lc ld lu
 go_enter Tryz.func112, Tryz.ntmps112
 go_wp2
 go_ret
 exact ⟨rfl, rfl⟩
set_option maxRecDepth 100000 in
set_option maxHeartbeats 3200000 in
theorem hsum_is (a b : Int) (w : World) (ha : 0 ≤ a ∧ a ≤ 9223372036854775807) (hb : 0 ≤ b ∧ b ≤ 9223372036854775807) : Calls Tryz.prog 107 #[.int .i64 a, .int .i64 b] w fun e w' => e = .returned (.int .i64 (satI a b)) ∧ w' = w := by
 have e0 : wrap64 (9223372036854775807 - b) = 9223372036854775807 - b := by unfold wrap64; omega
 by_cases c : 9223372036854775807 - b < a
 ·have S := hide' (show satI a b = 9223372036854775807 by unfold satI; rw [if_pos c])
  clear ha hb
  go_enter Tryz.func107, Tryz.ntmps107
  go_wp2
  go_ret
  exact ⟨by rw [S.out]; rfl, rfl⟩
 ·have S := hide' (show satI a b = a + b by unfold satI; rw [if_neg c])
  have e1 : wrap64 (a + b) = a + b := by unfold wrap64; omega
  clear ha hb
  go_enter Tryz.func107, Tryz.ntmps107
  go_wp2
  go_ret
  exact ⟨by rw [S.out]; rfl, rfl⟩
open Go.Maps (Keyed)
theorem key8_lit (k : Nat) : WideAt.IsKeyLit (k8 k) := trivial
theorem key4_lit (a b c d : Nat) : WideAt.IsKeyLit (k4 a b c d) := trivial
theorem Nm8.old {qs : List Sq} {k t : Nat} (h : Nm8 qs k t) {q : Sq} (hq : q.k ≠ k) : Nm8 (qs ++ [q]) k t := by
 rcases h with ⟨rfl, h⟩ | ⟨h0, h1, l, h2⟩
 ·refine Or.inl ⟨rfl, fun u hu => ?_⟩
  rw [List.length_append] at hu
  simp only [List.length_cons, List.length_nil] at hu
  by_cases e : u < qs.length
  ·rw [sqA_old e]; exact h u e
  ·obtain rfl : u = qs.length := by omega
   rw [sqA_new]; exact hq
 ·exact Or.inr ⟨h0, by rw [List.length_append]; omega, l, by rw [sqA_old h1]; exact h2⟩
theorem Nm4.old {qs : List Sq} {a b c d t : Nat} (h : Nm4 qs a b c d t) {q : Sq} (hq : ¬ (q.k = 0 ∧ q.a = a ∧ q.b = b ∧ q.c = c ∧ q.d = d)) : Nm4 (qs ++ [q]) a b c d t := by
 rcases h with ⟨rfl, h⟩ | ⟨h0, h1, l, h2⟩
 ·refine Or.inl ⟨rfl, fun u hu => ?_⟩
  rw [List.length_append] at hu
  simp only [List.length_cons, List.length_nil] at hu
  by_cases e : u < qs.length
  ·rw [sqA_old e]; exact h u e
  ·obtain rfl : u = qs.length := by omega
   rw [sqA_new]; exact hq
 ·exact Or.inr ⟨h0, by rw [List.length_append]; omega, l, by rw [sqA_old h1]; exact h2⟩
theorem Kn8.put {D : DataW Unit} {qs : List Sq} (h : Kn8 D qs) (hD : Maps.IsMap D) (h0 : 0 < qs.length) {k : Nat} (l : Int) : Kn8 (D.put (k8 k) (.lit (.int .i32 (qs.length : Int)))) (qs ++ [⟨0, 0, 0, 0, k, l⟩]) := fun j j0 hj => by
 by_cases e : j = k
 ·subst e
  exact ⟨qs.length, Or.inr ⟨by omega, by simp, l, sqA_new _⟩, by rw [Maps.has_put_same hD (key8_lit _), decide_eq_true (show qs.length ≠ 0 by omega)], Maps.atKey_put_same hD (key8_lit _) _ _⟩
 ·have ne : k8 j ≠ k8 k := fun q => e (k8_inj q)
  obtain ⟨t, h1, h2, h3⟩ := h j j0 hj
  exact ⟨t, h1.old (fun q => e q.symm), by rw [Maps.has_put_other ne]; exact h2, by rw [Maps.atKey_put_other ne]; exact h3⟩
theorem Kn8.old {D : DataW Unit} {qs : List Sq} (h : Kn8 D qs) {a b c d : Nat} (l : Int) : Kn8 D (qs ++ [⟨a, b, c, d, 0, l⟩]) := fun j j0 hj => by
 obtain ⟨t, h1, h2, h3⟩ := h j j0 hj
 exact ⟨t, h1.old (fun q => j0 q.symm), h2, h3⟩
theorem Kn4.put {D : DataW Unit} {qs : List Sq} (h : Kn4 D qs) (hD : Maps.IsMap D) (h0 : 0 < qs.length) {a b c d : Nat} (ha : a ≤ 2000001) (hb : b ≤ 2000001) (hc : c ≤ 2000001) (hd : d ≤ 2000001) (l : Int) : Kn4 (D.put (k4 a b c d) (.lit (.int .i32 (qs.length : Int)))) (qs ++ [⟨a, b, c, d, 0, l⟩]) := fun a' b' c' d' n0 ha' hb' hc' hd' => by
 by_cases e : a' = a ∧ b' = b ∧ c' = c ∧ d' = d
 ·obtain ⟨rfl, rfl, rfl, rfl⟩ := e
  exact ⟨qs.length, Or.inr ⟨by omega, by simp, l, sqA_new _⟩, by rw [Maps.has_put_same hD (key4_lit _ _ _ _), decide_eq_true (show qs.length ≠ 0 by omega)], Maps.atKey_put_same hD (key4_lit _ _ _ _) _ _⟩
 ·have ne : k4 a' b' c' d' ≠ k4 a b c d := fun q => e (k4_inj ha' hb' hc' hd' ha hb hc hd q)
  obtain ⟨t, h1, h2, h3⟩ := h a' b' c' d' n0 ha' hb' hc' hd'
  exact ⟨t, h1.old (fun q => e ⟨q.2.1.symm, q.2.2.1.symm, q.2.2.2.1.symm, q.2.2.2.2.symm⟩), by rw [Maps.has_put_other ne]; exact h2, by rw [Maps.atKey_put_other ne]; exact h3⟩
theorem Kn4.old {D : DataW Unit} {qs : List Sq} (h : Kn4 D qs) {k : Nat} (hk : k ≠ 0) (l : Int) : Kn4 D (qs ++ [⟨0, 0, 0, 0, k, l⟩]) := fun a' b' c' d' n0 ha' hb' hc' hd' => by
 obtain ⟨t, h1, h2, h3⟩ := h a' b' c' d' n0 ha' hb' hc' hd'
 exact ⟨t, h1.old (fun q => hk q.1), h2, h3⟩
theorem elem32 {n : Nat} (h : n ≤ 2000001) : plainElem (H := Unit) Tryz.prog 21 (.int .i32 (n : Int)) = some (.lit (.int .i32 (n : Int)), []) := plainElem_int Tryz.underlying21 (wfH4 h)
theorem zero32 (w : World) : (zeroValue 21).run Tryz.prog w = .ok (.int .i32 0) w := by kernel_rfl
theorem neq8 (m : Nat) (w : World) : (binOp BinOp.neq 83 (.map (some m)) (.map none)).run Tryz.prog w = .ok (.bool true) w := by kernel_rfl
theorem neq4 (m : Nat) (w : World) : (binOp BinOp.neq 84 (.map (some m)) (.map none)).run Tryz.prog w = .ok (.bool true) w := by kernel_rfl
set_option maxRecDepth 100000 in
theorem MpA.look8 {w : World} {B : Nat} {qs : List Sq} {p : Nat × Nat} (h : MpA w B qs (some p)) {k : Nat} (k0 : k ≠ 0) (hk : k < 2 ^ 64) : ∃ t, Nm8 qs k t ∧ (Instr.lookup 83 (.map (some p.1)) (.int .u64 (k : Int)) true).run Tryz.prog w = .ok (.tuple #[.int .i32 (t : Int), .bool (decide (t ≠ 0))]) w := by
 obtain ⟨_, ⟨D, h1, h2, h3⟩, _⟩ := h
 obtain ⟨t, n1, n2, n3⟩ := h3 k k0 hk
 refine ⟨t, n1, ?_⟩
 obtain ⟨v, ps, e1, e2⟩ := h1.look_ok (t := 83) law8 Tryz.underlying83 (zero32 w) (elem32 (n := 0) (by omega)) (key8 hk)
 obtain ⟨c, rfl, e3, _⟩ := plainElem_int_inv Tryz.underlying21 e2
 rw [e1, n2]
 have e4 : D.atKey (k8 k) (.lit (.int .i32 ((0 : Nat) : Int))) = .lit (.int .i32 c) := congrArg Prod.fst e3
 rw [show ((0 : Nat) : Int) = 0 from rfl, n3] at e4
 injection e4 with e4
 injection e4 with _ e4
 rw [e4]
set_option maxRecDepth 100000 in
theorem MpA.look4 {w : World} {B : Nat} {qs : List Sq} {p : Nat × Nat} (h : MpA w B qs (some p)) {a b c d : Nat} (n0 : ¬ (a = 0 ∧ b = 0 ∧ c = 0 ∧ d = 0)) (ha : a ≤ 2000001) (hb : b ≤ 2000001) (hc : c ≤ 2000001) (hd : d ≤ 2000001) : ∃ t, Nm4 qs a b c d t ∧ (Instr.lookup 84 (.map (some p.2)) (.agg #[.int .i32 (a : Int), .int .i32 (b : Int), .int .i32 (c : Int), .int .i32 (d : Int)]) true).run Tryz.prog w = .ok (.tuple #[.int .i32 (t : Int), .bool (decide (t ≠ 0))]) w := by
 obtain ⟨_, _, ⟨D, h1, h2, h3⟩, _⟩ := h
 obtain ⟨t, n1, n2, n3⟩ := h3 a b c d n0 ha hb hc hd
 refine ⟨t, n1, ?_⟩
 obtain ⟨v, ps, e1, e2⟩ := h1.look_ok (t := 84) law4 Tryz.underlying84 (zero32 w) (elem32 (n := 0) (by omega)) (key4 ha hb hc hd)
 obtain ⟨c', rfl, e3, _⟩ := plainElem_int_inv Tryz.underlying21 e2
 rw [e1, n2]
 have e4 : D.atKey (k4 a b c d) (.lit (.int .i32 ((0 : Nat) : Int))) = .lit (.int .i32 c') := congrArg Prod.fst e3
 rw [show ((0 : Nat) : Int) = 0 from rfl, n3] at e4
 injection e4 with e4
 injection e4 with _ e4
 rw [e4]
set_option maxRecDepth 100000 in
theorem MpA.put8 {w : World} {B : Nat} {qs : List Sq} {p : Nat × Nat} (h : MpA w B qs (some p)) (hS : StQ qs) {k : Nat} (k0 : k ≠ 0) (hk : k < 2 ^ 64) (hn : Nm8 qs k 0) (hl : qs.length ≤ 2000000) (l : Int) : ∃ w', (Instr.mapUpdate 83 (.map (some p.1)) (.int .u64 (k : Int)) (.int .i32 (qs.length : Int))).run Tryz.prog w = .ok () w' ∧ MpA w' B (qs ++ [⟨0, 0, 0, 0, k, l⟩]) (some p) ∧ w.mapTurned w' p.1 := by
 obtain ⟨h0, ⟨D, h1, h2, h3⟩, ⟨E, g1, g2, g3⟩, u⟩ := h
 obtain ⟨w', e1, e2, e3⟩ := h1.store (t := 83) law8 Tryz.underlying83 (by unfold maxLen; omega) (key8 hk) (elem32 (n := qs.length) (by omega))
 refine ⟨w', e1, ⟨h0, ⟨_, by rw [List.length_append]; exact e2, e2.isMap, h3.put h2 hS.1 l⟩, ⟨E, ?_, g2, g3.old k0 l⟩, u.add ?_⟩, e3⟩
 ·have := g1.kept e3.grown (fun e => h0.2.2 (by injection e with e; exact e.symm))
  exact this.mono (by rw [List.length_append]; omega)
 ·intro v hv q
  rcases hn with ⟨_, hn⟩ | ⟨hn, _⟩
  ·exact hn v hv q.2.2.2.2
  ·exact hn rfl
set_option maxRecDepth 100000 in
theorem MpA.put4 {w : World} {B : Nat} {qs : List Sq} {p : Nat × Nat} (h : MpA w B qs (some p)) (hS : StQ qs) {a b c d : Nat} (n0 : ¬ (a = 0 ∧ b = 0 ∧ c = 0 ∧ d = 0)) (ha : a ≤ 2000001) (hb : b ≤ 2000001) (hc : c ≤ 2000001) (hd : d ≤ 2000001) (hn : Nm4 qs a b c d 0) (hl : qs.length ≤ 2000000) (l : Int) : ∃ w', (Instr.mapUpdate 84 (.map (some p.2)) (.agg #[.int .i32 (a : Int), .int .i32 (b : Int), .int .i32 (c : Int), .int .i32 (d : Int)]) (.int .i32 (qs.length : Int))).run Tryz.prog w = .ok () w' ∧ MpA w' B (qs ++ [⟨a, b, c, d, 0, l⟩]) (some p) ∧ w.mapTurned w' p.2 := by
 obtain ⟨h0, ⟨D, h1, h2, h3⟩, ⟨E, g1, g2, g3⟩, u⟩ := h
 obtain ⟨w', e1, e2, e3⟩ := g1.store (t := 84) law4 Tryz.underlying84 (by unfold maxLen; omega) (key4 ha hb hc hd) (elem32 (n := qs.length) (by omega))
 refine ⟨w', e1, ⟨h0, ⟨D, ?_, h2, h3.old l⟩, ⟨_, by rw [List.length_append]; exact e2, e2.isMap, g3.put g2 hS.1 ha hb hc hd l⟩, u.add ?_⟩, e3⟩
 ·have := h1.kept e3.grown (fun e => h0.2.2 (by injection e))
  exact this.mono (by rw [List.length_append]; omega)
 ·intro v hv q
  rcases hn with ⟨_, hn⟩ | ⟨hn, _⟩
  ·exact hn v hv ⟨q.2.2.2.2, q.1, q.2.1, q.2.2.1, q.2.2.2.1⟩
  ·exact hn rfl
theorem Nm8.joins {qs : List Sq} {k t : Nat} (h : Nm8 qs k t) (k0 : k ≠ 0) (t0 : t ≠ 0) : EightQ qs k qs t := by
 rcases h with ⟨e, _⟩ | ⟨h0, h1, h2⟩
 ·exact absurd e t0
 ·exact Or.inr (Or.inr ⟨k0, t0, h1, rfl, h2⟩)
theorem Nm4.joins {qs : List Sq} {a b c d t : Nat} (h : Nm4 qs a b c d t) (n0 : ¬ (a = 0 ∧ b = 0 ∧ c = 0 ∧ d = 0)) (t0 : t ≠ 0) : JoinQ qs a b c d qs t := by
 rcases h with ⟨e, _⟩ | ⟨h0, h1, h2⟩
 ·exact absurd e t0
 ·exact Or.inr (Or.inr ⟨n0, t0, h1, rfl, h2⟩)
theorem KpS.turned {sb g g' : Nat} {V V' V'' : World} {p : Nat × Nat} (h : KpS sb g g' V V') {m : Nat} (hm : m = p.1 ∨ m = p.2) (ht : V'.mapTurned V'' m) : KpS sb g g' V V'' (some p) := by
 have hg := ht.grown
 exact ⟨hg.os.trans h.os, hg.tape.trans h.tape, hg.output.trans h.output, Nat.le_trans h.size hg.size, fun k h1 h2 h3 h4 => (hg.block k (Nat.lt_of_lt_of_le h1 h.size) (fun e => h4 (by injection e with e; rw [e]; exact hm))).trans (h.keep k h1 h2 h3), h.new⟩
theorem look_nil8 (k : Int) (w : World) : (Instr.lookup 83 (.map none) (.int .u64 k) true).run Tryz.prog w = .ok (.tuple #[.int .i32 0, .bool false]) w := by kernel_rfl
theorem look_nil4 (a b c d : Int) (w : World) : (Instr.lookup 84 (.map none) (.agg #[.int .i32 a, .int .i32 b, .int .i32 c, .int .i32 d]) true).run Tryz.prog w = .ok (.tuple #[.int .i32 0, .bool false]) w := by kernel_rfl
theorem nil_neq8 (w : World) : (binOp BinOp.neq 83 (.map none) (.map none)).run Tryz.prog w = .ok (.bool false) w := by kernel_rfl
theorem nil_neq4 (w : World) : (binOp BinOp.neq 84 (.map none) (.map none)).run Tryz.prog w = .ok (.bool false) w := by kernel_rfl
def EgM (mp : Option (Nat × Nat)) (sb B g : Nat) (qs : List Sq) (k : Nat) (w : World) (e : Ending) (w' : World) : Prop :=
 ∃ g' cap' qs' t, e = .returned (.int .i32 ((t : Nat) : Int)) ∧ StkA w' sb B g' cap' qs' mp ∧ EightQ qs k qs' t ∧ KpS sb g g' w w' mp
set_option maxRecDepth 100000 in
set_option maxHeartbeats 3200000 in
theorem eight_nil (mp : Option (Nat × Nat)) (sb B g cap : Nat) (qs : List Sq) (w : World) (h : StkA w sb B g cap qs mp) :
  Calls Tryz.prog 90 #[.pointer (some ⟨sb, 0, none⟩), .int .u64 0] w (EgM mp sb B g qs 0 w) := by
 have HK := hide' h
 clear h
 go_enter Tryz.func90, Tryz.ntmps90
 go_wp2
 go_ret
 exact ⟨g, cap, qs, 0, rfl, HK.out, Or.inl ⟨rfl, rfl, rfl⟩, KpS.refl _ _ _⟩
set_option maxRecDepth 100000 in
set_option maxHeartbeats 3200000 in
theorem eight_none (sb B g cap : Nat) (qs : List Sq) (k : Nat) (w : World) (h : StkA w sb B g cap qs) (hB : B ≤ w.heap.size) (hn : qs.length ≤ 2000000) (k0 : k ≠ 0) (hk : k < 2 ^ 64) :
  Calls Tryz.prog 90 #[.pointer (some ⟨sb, 0, none⟩), .int .u64 (k : Int)] w (EgM none sb B g qs k w) := by
 have HK := hide' h
 have m0 : ((k : Int) == 0) = false := by simp; omega
 have c1 := cell_of_row w sb 1 _ _ _ h.blk
 simp at c1
 have lk := look_nil8 (k : Int)
 have nq := nil_neq8
 have HN := hide' hn
 have HBB := hide' hB
 have K0 := hide' k0
 have OC := hide' (ones64_is k w (by omega))
 clear h k0 hn hB hk
 go_enter Tryz.func90, Tryz.ntmps90
 go_wp2_with fail
 refine OC.out.mono ?_
 rintro e w2 ⟨rfl, rfl⟩
 obtain ⟨l, hl⟩ : ∃ l, (popN k : Int) = l := ⟨_, rfl⟩
 have HL := hide' hl
 rw [hl]
 clear hl
 go_wp2_with fail
 refine (add_stk sb B g cap qs ⟨0, 0, 0, 0, k, l⟩ _ _ w2 HK.out.r HBB.out HN.out (by unfold lvS; rw [if_neg K0.out]; exact HL.out.symm) HK.out.st.1 HK.out.st.1 HK.out.st.1 HK.out.st.1).mono ?_
 rintro e w3 ⟨g', cap', rfl, hs, hk⟩
 have c1 := cell_of_row w3 sb 1 _ _ _ (show w3.heap[sb]? = some (.cells #[.slice (some ⟨g', 0, none⟩) (qs ++ [(⟨0, 0, 0, 0, k, l⟩ : Sq)]).length cap', .map none, .map none] 86 (0, 0)) from hs.blk)
 simp at c1
 have HS := hide' hs
 have KS := hide' hk
 obtain ⟨n, hnn⟩ : ∃ n, qs.length = n := ⟨_, rfl⟩
 rw [hnn]
 clear hs hk
 go_wp2
 go_ret
 exact ⟨g', cap', _, n, rfl, HS.out.a (mp := none) trivial, Or.inr (Or.inl ⟨K0.out, hnn.symm, l, rfl⟩), KS.out⟩
set_option maxRecDepth 100000 in
set_option maxHeartbeats 3200000 in
theorem eight_know (p : Nat × Nat) (sb B g cap : Nat) (qs : List Sq) (k : Nat) (w : World) (h : StkA w sb B g cap qs (some p)) (hB : B ≤ w.heap.size) (hn : qs.length ≤ 2000000) (k0 : k ≠ 0) (hk : k < 2 ^ 64) :
  Calls Tryz.prog 90 #[.pointer (some ⟨sb, 0, none⟩), .int .u64 (k : Int)] w (EgM (some p) sb B g qs k w) := by
 have HK := hide' h
 have m0 : ((k : Int) == 0) = false := by simp; omega
 obtain ⟨me, hme⟩ : ∃ m, p.1 = m := ⟨_, rfl⟩
 have c1 := cell_of_row w sb 1 _ _ _ h.blkM
 simp [mpE] at c1
 obtain ⟨t, ht, lk⟩ := h.map.look8 k0 hk
 rw [hme] at lk c1
 have nq := neq8 me
 have HN := hide' hn
 have HBB := hide' hB
 have K0 := hide' (And.intro k0 hk)
 have HT := hide' ht
 have HME := hide' hme
 have OC := hide' (ones64_is k w (by omega))
 by_cases t0 : t = 0
 ·subst t0
  rw [show decide ((0 : Nat) ≠ 0) = false from rfl] at lk
  have lk' : (Instr.lookup 83 (.map (some me)) (.int .u64 (k : Int)) true).run Tryz.prog w = .ok (.tuple #[.int .i32 0, .bool false]) w := lk
  clear h k0 hn hB hk lk hme ht
  go_enter Tryz.func90, Tryz.ntmps90
  go_wp2_with fail
  refine OC.out.mono ?_
  rintro e w2 ⟨rfl, rfl⟩
  obtain ⟨l, hl⟩ : ∃ l, (popN k : Int) = l := ⟨_, rfl⟩
  have HL := hide' hl
  rw [hl]
  clear hl
  go_wp2_with fail
  refine (add_stk sb B g cap qs ⟨0, 0, 0, 0, k, l⟩ _ _ w2 HK.out.r HBB.out HN.out (by unfold lvS; rw [if_neg K0.out.1]; exact HL.out.symm) HK.out.st.1 HK.out.st.1 HK.out.st.1 HK.out.st.1).mono ?_
  rintro e w3 ⟨g', cap', rfl, hs, hk⟩
  have c1 := cell_of_row w3 sb 1 _ _ _ hs.blk
  simp [mpE] at c1
  rw [HME.out] at c1
  have mn := HK.out.maps_ne
  have hm3 : MpA w3 B qs (some p) := HK.out.map.keep (fun k e => hk.keep k (HK.out.map.lt e) (fun q => mn.1 (by rw [← q]; exact e)) (fun q => mn.2 (by rw [← q]; exact e)))
  obtain ⟨w4, hrun, hm4, htu⟩ := hm3.put8 HK.out.st K0.out.1 K0.out.2 HT.out HN.out l
  have HS := hide' (show StkA w4 sb B g' cap' (qs ++ [⟨0, 0, 0, 0, k, l⟩]) (some p) from
   (hs.keep (htu.grown.block _ hs.lt.1 (fun e => by
    injection e with e
    exact mn.1 (by rw [e]; exact Or.inl rfl))) (htu.grown.block _ hs.lt.2 (fun e => by
    injection e with e
    obtain ⟨-, -, cur, ec, -, -⟩ := hs.rowB
    obtain ⟨es, cl, em⟩ := hm3.isMap (k := g') (by rw [e]; exact Or.inl rfl)
    rw [ec] at em; cases em))).a hm4)
  have KS := hide' (hk.turned (p := p) (Or.inl rfl) htu)
  obtain ⟨n, hnn⟩ : ∃ n, qs.length = n := ⟨_, rfl⟩
  rw [hnn, HME.out] at hrun
  rw [hnn]
  clear hs hk hm3 hm4 htu mn
  go_wp2
  go_ret
  exact ⟨g', cap', _, n, rfl, HS.out, Or.inr (Or.inl ⟨K0.out.1, hnn.symm, l, rfl⟩), KS.out⟩
 ·rw [decide_eq_true t0] at lk
  have T0 := hide' t0
  clear h k0 hn hB hk hme ht t0
  go_enter Tryz.func90, Tryz.ntmps90
  go_wp2
  go_ret
  exact ⟨g, cap, qs, t, rfl, HK.out, HT.out.joins K0.out.1 T0.out, KpS.refl _ _ _⟩
theorem eight_stkM (mp : Option (Nat × Nat)) (sb B g cap : Nat) (qs : List Sq) (k : Nat) (w : World) (h : StkA w sb B g cap qs mp) (hB : B ≤ w.heap.size) (hn : qs.length ≤ 2000000) (hk : k < 2 ^ 64) :
  Calls Tryz.prog 90 #[.pointer (some ⟨sb, 0, none⟩), .int .u64 (k : Int)] w (EgM mp sb B g qs k w) := by
 by_cases k0 : k = 0
 ·subst k0; exact eight_nil mp sb B g cap qs w h
 ·cases mp with
  | none => exact eight_none sb B g cap qs k w h hB hn k0 hk
  | some p => exact eight_know p sb B g cap qs k w h hB hn k0 hk
theorem eight_stk (sb B g cap : Nat) (qs : List Sq) (k : Nat) (w : World) (h : StkA w sb B g cap qs) (hB : B ≤ w.heap.size) (hn : qs.length ≤ 2000000) (hk : k < 2 ^ 64) :
  Calls Tryz.prog 90 #[.pointer (some ⟨sb, 0, none⟩), .int .u64 (k : Int)] w (EgM none sb B g qs k w) := eight_stkM none sb B g cap qs k w h hB hn hk
end Go.Proofs.YtemhcpldflcfbaaGreatDoor
