/-
  What the last text of this claim leans on, part 11: Gc2, Gk1, Gk2, Gk3, Gb6.
-/
import Derived.Test.YtbkllhlapdmlfaaDoorQf4
import Derived.Test.YtbkllhlapdmlfaaDoorQf8
import Derived.Test.YtbkllhlapdmlfaaDoorQf9
import Derived.Test.YtbkllhlapdmlfaaDoorQf10
namespace Go.Proofs.YtbkllhlapdmlfaaDoor
open Go.RowKit
set_option linter.unusedVariables false
/-- What is met, what goes on. -/
def metG (K n m : Nat) (cs f : Nat → Nat) (i k : Nat) : Nat := aftG K (cs ((i * n + k) % m)) (f k)
/-- The cells behind so many steps. -/
def flowG (K W H m : Nat) (cs f : Nat → Nat) : Nat → Nat → Nat
  | 0 => f
  | i + 1 => mvF (metG K (W * H) m cs (flowG K W H m cs f i) i) (srcG K W H)
theorem aft_leT : ∀ (c : Fin 64), aftG 4 0 c.val ≤ 63 ∧ aftG 4 1 c.val ≤ 63 ∧ aftG 6 0 c.val ≤ 63 ∧ aftG 6 1 c.val ≤ 63 := by decide +kernel
theorem aft_one (K c : Nat) {z : Nat} (h : z ≠ 0) : aftG K z c = aftG K 1 c := by unfold aftG; simp [h]
theorem aft_le {K c : Nat} (hK : K = 4 ∨ K = 6) (hc : c ≤ 63) (z : Nat) : aftG K z c ≤ 63 := by
  obtain ⟨h1, h2, h3, h4⟩ := aft_leT ⟨c, by omega⟩
  by_cases q : z = 0
  · subst q; rcases hK with rfl | rfl <;> assumption
  · rw [aft_one K c q]; rcases hK with rfl | rfl <;> assumption
theorem mvF_le (f : Nat → Nat) (src : Nat → Nat → Nat) (i : Nat) : mvF f src i ≤ 63 := by
  have a : ∀ x m : Nat, m < 64 → x &&& m < 2 ^ 6 := fun x m h => Nat.and_lt_two_pow _ (by omega)
  have := Nat.or_lt_two_pow (Nat.or_lt_two_pow (Nat.or_lt_two_pow (Nat.or_lt_two_pow (Nat.or_lt_two_pow (a (f (src i 0)) 1 (by omega)) (a (f (src i 1)) 2 (by omega))) (a (f (src i 2)) 4 (by omega))) (a (f (src i 3)) 8 (by omega))) (a (f (src i 4)) 16 (by omega))) (a (f (src i 5)) 32 (by omega))
  unfold mvF
  omega
theorem flow_le {K W H m : Nat} {cs f : Nat → Nat} (hf : ∀ i, f i ≤ 63) : ∀ i j, flowG K W H m cs f i j ≤ 63
  | 0, j => hf j
  | i + 1, j => mvF_le _ _ j
/-- Cells that are now, cells that have met: where they lie. -/
structure NM (w w3 V : World) (n gn gm : Nat) (f g : Nat → Nat) : Prop where
  keep : ∀ j, j < w3.heap.size → V.heap[j]? = w3.heap[j]?
  now : CU V gn n f
  met : CU V gm n g
  ne : gn ≠ gm
  ln : w3.heap.size ≤ gn
  lm : w3.heap.size ≤ gm
  below : Below w.heap.size w V
theorem NM.next {w w3 V V' : World} {n gn gm : Nat} {f g : Nat → Nat} (h : NM w w3 V n gn gm f g) (hs : w3.heap.size ≤ V.heap.size) (b : Below V.heap.size V V') : NM w w3 V' n gn gm f g :=
  ⟨fun j hj => (b.block j (by omega)).trans (h.keep j hj), h.now.block (b.block gn h.now.lt), h.met.block (b.block gm h.met.lt), h.ne, h.ln, h.lm, h.below.trans (b.mono h.below.size)⟩
/-- The tables beside them. -/
structure RG (w w3 V : World) (K W H n gn gm ga gf : Nat) (f g : Nat → Nat) : Prop where
  nm : NM w w3 V n gn gm f g
  aft : V.heap[ga]? = some (.cells (arrF 128 (afF (aftG K))) 189 (0, 0))
  org : V.heap[gf]? = some (.cells (arrF (n * 6) (orG (srcG K W H))) 194 (0, 0))
  a1 : ga ≠ gn
  a2 : ga ≠ gm
  f1 : gf ≠ gn
  f2 : gf ≠ gm
theorem RG.meet {w w3 V V' : World} {K W H n gn gm ga gf : Nat} {f g g' : Nat → Nat} (h : RG w w3 V K W H n gn gm ga gf f g) (c : CU V' gm n g') (k : ∀ j, j ≠ gm → V'.heap[j]? = V.heap[j]?) (b : Below w.heap.size V V') : RG w w3 V' K W H n gn gm ga gf f g' :=
  ⟨⟨fun j hj => (k j (by have := h.nm.lm; omega)).trans (h.nm.keep j hj), h.nm.now.block (k gn h.nm.ne), c, h.nm.ne, h.nm.ln, h.nm.lm, h.nm.below.trans b⟩, (k ga h.a2).trans h.aft, (k gf h.f2).trans h.org, h.a1, h.a2, h.f1, h.f2⟩
theorem RG.move {w w3 V V' : World} {K W H n gn gm ga gf : Nat} {f f' g : Nat → Nat} (h : RG w w3 V K W H n gn gm ga gf f g) (c : CU V' gn n f') (k : ∀ j, j ≠ gn → V'.heap[j]? = V.heap[j]?) (b : Below w.heap.size V V') : RG w w3 V' K W H n gn gm ga gf f' g :=
  ⟨⟨fun j hj => (k j (by have := h.nm.ln; omega)).trans (h.nm.keep j hj), c, h.nm.met.block (k gm (fun e => h.nm.ne e.symm)), h.nm.ne, h.nm.ln, h.nm.lm, h.nm.below.trans b⟩, (k ga h.a1).trans h.aft, (k gf h.f1).trans h.org, h.a1, h.a2, h.f1, h.f2⟩
theorem cut3G {A B C : Type} {P Φ : A → B → C → Prop} {G : Prop} (h : (∀ a b c, P a b c → Φ a b c) → G) (k : ∀ a b c, P a b c → Φ a b c) : G := h k
end Go.Proofs.YtbkllhlapdmlfaaDoor

namespace Go.Proofs.YtbkllhlapdmlfaaDoor
open Go.RowKit
set_option linter.unusedVariables false
theorem mv_bit (f : Nat → Nat) (src : Nat → Nat → Nat) (i : Nat) {d : Nat} (hd : d < 6) : (mvF f src i).testBit d = (f (src i d)).testBit d := by
  unfold mvF
  simp only [Nat.testBit_or, Nat.testBit_and]
  rcases (by omega : d = 0 ∨ d = 1 ∨ d = 2 ∨ d = 3 ∨ d = 4 ∨ d = 5) with rfl | rfl | rfl | rfl | rfl | rfl
  all_goals simp only [show (1 : Nat).testBit 0 = true by decide, show (1 : Nat).testBit 1 = false by decide, show (1 : Nat).testBit 2 = false by decide, show (1 : Nat).testBit 3 = false by decide, show (1 : Nat).testBit 4 = false by decide, show (1 : Nat).testBit 5 = false by decide,
    show (2 : Nat).testBit 0 = false by decide, show (2 : Nat).testBit 1 = true by decide, show (2 : Nat).testBit 2 = false by decide, show (2 : Nat).testBit 3 = false by decide, show (2 : Nat).testBit 4 = false by decide, show (2 : Nat).testBit 5 = false by decide,
    show (4 : Nat).testBit 0 = false by decide, show (4 : Nat).testBit 1 = false by decide, show (4 : Nat).testBit 2 = true by decide, show (4 : Nat).testBit 3 = false by decide, show (4 : Nat).testBit 4 = false by decide, show (4 : Nat).testBit 5 = false by decide,
    show (8 : Nat).testBit 0 = false by decide, show (8 : Nat).testBit 1 = false by decide, show (8 : Nat).testBit 2 = false by decide, show (8 : Nat).testBit 3 = true by decide, show (8 : Nat).testBit 4 = false by decide, show (8 : Nat).testBit 5 = false by decide,
    show (16 : Nat).testBit 0 = false by decide, show (16 : Nat).testBit 1 = false by decide, show (16 : Nat).testBit 2 = false by decide, show (16 : Nat).testBit 3 = false by decide, show (16 : Nat).testBit 4 = true by decide, show (16 : Nat).testBit 5 = false by decide,
    show (32 : Nat).testBit 0 = false by decide, show (32 : Nat).testBit 1 = false by decide, show (32 : Nat).testBit 2 = false by decide, show (32 : Nat).testBit 3 = false by decide, show (32 : Nat).testBit 4 = false by decide, show (32 : Nat).testBit 5 = true by decide,
    Bool.and_true, Bool.and_false, Bool.or_false, Bool.false_or]
theorem bit_dig (x d : Nat) : x / 2 ^ d % 2 = if x.testBit d then 1 else 0 := by
  rw [Nat.testBit_eq_decide_div_mod_eq]
  by_cases h : x / 2 ^ d % 2 = 1
  · simp [h]
  · simp only [h, decide_false, Bool.false_eq_true, if_false]; omega
theorem mv_dig (f : Nat → Nat) (src : Nat → Nat → Nat) (i : Nat) {d : Nat} (hd : d < 6) : mvF f src i / 2 ^ d % 2 = f (src i d) / 2 ^ d % 2 := by
  rw [bit_dig, bit_dig, mv_bit f src i hd]
end Go.Proofs.YtbkllhlapdmlfaaDoor

namespace Go.Proofs.YtbkllhlapdmlfaaDoor
open Go.RowKit
set_option linter.unusedVariables false
theorem sumB_zero : ∀ n, sumB (fun _ => 0) n = 0
  | 0 => rfl
  | n + 1 => by rw [sumB, sumB_zero n]
end Go.Proofs.YtbkllhlapdmlfaaDoor

namespace Go.Proofs.YtbkllhlapdmlfaaDoor
open Go.RowKit
set_option linter.unusedVariables false
/-- A place on a ring, one off at most. -/
def rngG (t : Int) (s : Nat) : Int := if t < 0 then t + s else if t < s then t else t - s
theorem rng_of {t : Int} {s : Nat} (h1 : -1 ≤ t) (h2 : t ≤ (s : Int)) (hs : 1 ≤ s) : (t + (s : Int)).tmod (s : Int) = rngG t s := by
  rw [Int.tmod_eq_emod_of_nonneg (by omega)]
  unfold rngG
  by_cases a : t < 0
  · rw [if_pos a]
    exact Int.emod_eq_of_lt (by omega) (by omega)
  · rw [if_neg a]
    by_cases b : t < s
    · rw [if_pos b, Int.add_emod_right]
      exact Int.emod_eq_of_lt (by omega) b
    · rw [if_neg b, show t + (s : Int) = (t - s) + s + s by omega, Int.add_emod_right, Int.add_emod_right]
      exact Int.emod_eq_of_lt (by omega) (by omega)
theorem rng_lt {t : Int} {s : Nat} (h1 : -1 ≤ t) (h2 : t ≤ (s : Int)) (hs : 1 ≤ s) : 0 ≤ rngG t s ∧ rngG t s < s := by
  unfold rngG
  split
  · omega
  · split <;> omega
def oppG (K d : Nat) : Nat := (d + K / 2) % K
theorem opp_lt {K d : Nat} (hK : K = 4 ∨ K = 6) : oppG K d < K := by unfold oppG; exact Nat.mod_lt _ (by omega)
theorem opp_dir {K d : Nat} (hK : K = 4 ∨ K = 6) (hd : d < K) : reG K (oppG K d) = -reG K d ∧ imG K (oppG K d) = -imG K d := by
  rcases hK with rfl | rfl
  · rcases (by omega : d = 0 ∨ d = 1 ∨ d = 2 ∨ d = 3) with rfl | rfl | rfl | rfl <;> decide
  · rcases (by omega : d = 0 ∨ d = 1 ∨ d = 2 ∨ d = 3 ∨ d = 4 ∨ d = 5) with rfl | rfl | rfl | rfl | rfl | rfl <;> decide
theorem lean_ring {K H : Nat} (hK : K = 4 ∨ K = 6) (hH : K = 6 → H % 2 = 0) (H1 : 1 ≤ H) {y : Nat} (hy : y < H) {m : Int} (m1 : -1 ≤ m) (m2 : m ≤ 1) : leanG K (rngG ((y : Int) + m) H) - leanG K (rngG ((y : Int) + m) H - m) = leanG K ((y : Int) + m) - leanG K y := by
  rcases hK with rfl | rfl
  · simp [leanG]
  · have := hH rfl
    unfold leanG rngG
    simp only [show ¬ ((6 : Nat) : Int) = 4 by decide, if_false]
    split
    · omega
    · split <;> omega
/-- There and back. -/
theorem src_back {K W H : Nat} (hK : K = 4 ∨ K = 6) (hH : K = 6 → H % 2 = 0) (W1 : 1 ≤ W) (H1 : 1 ≤ H) {i d : Nat} (hi : i < W * H) (hd : d < K) : srcG K W H (srcG K W H i d) (oppG K d) = i := by
  have y1 : i / W < H := Nat.div_lt_of_lt_mul hi
  have x1 : i % W < W := Nat.mod_lt _ W1
  obtain ⟨y, hy⟩ : ∃ y, i / W = y := ⟨_, rfl⟩
  obtain ⟨x, hx⟩ : ∃ x, i % W = x := ⟨_, rfl⟩
  have hiw : i = y * W + x := by rw [← hy, ← hx, Nat.mul_comm]; exact (Nat.div_add_mod i W).symm
  rw [hy] at y1
  rw [hx] at x1
  obtain ⟨od1, od2⟩ := opp_dir hK hd
  have imn := imG_near K d
  have xn := xG_near (y := y) hK hd x1
  have r1 := rng_of (t := (y : Int) + imG K d) (s := H) (by omega) (by omega) H1
  have r2 := rng_lt (t := (y : Int) + imG K d) (s := H) (by omega) (by omega) H1
  have c1 := rng_of (t := xG K x y d) (s := W) xn.1 xn.2 W1
  have c2 := rng_lt (t := xG K x y d) (s := W) xn.1 xn.2 W1
  obtain ⟨Y, hY⟩ : ∃ Y : Nat, rngG ((y : Int) + imG K d) H = (Y : Int) := ⟨(rngG ((y : Int) + imG K d) H).toNat, by omega⟩
  obtain ⟨X, hX⟩ : ∃ X : Nat, rngG (xG K x y d) W = (X : Int) := ⟨(rngG (xG K x y d) W).toNat, by omega⟩
  have lr := lean_ring hK hH H1 y1 imn.1 imn.2
  rw [hY] at r1 r2 lr
  rw [hX] at c1 c2
  have e1 : srcG K W H i d = Y * W + X := by
    unfold srcG rowG colG
    rw [if_pos hd, hy, hx, r1, c1]
    simp
  have dY : (Y * W + X) / W = Y := by rw [Nat.mul_comm, Nat.mul_add_div (by omega), Nat.div_eq_of_lt (by omega), Nat.add_zero]
  have mX : (Y * W + X) % W = X := by rw [Nat.mul_comm, Nat.mul_add_mod]; exact Nat.mod_eq_of_lt (by omega)
  have xe : xG K X Y (oppG K d) = (X : Int) - (xG K x y d - (x : Int)) := by
    unfold xG
    rw [od1, od2]
    rw [show (Y : Int) + -imG K d = (Y : Int) - imG K d by omega]
    omega
  have xn2 := xG_near (y := Y) hK (opp_lt (d := d) hK) (show X < W by omega)
  have r3 := rng_of (t := (Y : Int) + imG K (oppG K d)) (s := H) (by omega) (by omega) H1
  have c3 := rng_of (t := xG K X Y (oppG K d)) (s := W) xn2.1 xn2.2 W1
  have yb : rngG ((Y : Int) + imG K (oppG K d)) H = (y : Int) := by
    rw [od2, ← hY]
    unfold rngG
    repeat' split
    all_goals omega
  have xb : rngG (xG K X Y (oppG K d)) W = (x : Int) := by
    rw [xe, ← hX]
    unfold rngG
    repeat' split
    all_goals omega
  rw [e1]
  unfold srcG rowG colG
  rw [if_pos (opp_lt hK), dY, mX, r3, c3, yb, xb, hiw]
  simp
end Go.Proofs.YtbkllhlapdmlfaaDoor

namespace Go.Proofs.YtbkllhlapdmlfaaDoor
open Go.RowKit
set_option linter.unusedVariables false
open Ieee
/-- The whole number that a sign and a magnitude at a place stand for. -/
def IsV (s : Bool) (m : Nat) (e : Int) (n : Int) : Prop := e ≤ 0 ∧ (if s then -(m : Int) else (m : Int)) = n * 2 ^ (-e).toNat
def IsI (b : Nat) (n : Int) : Prop := ∃ s m e, double.read b = .number s m e ∧ IsV s m e n
theorem IsV.mag {s : Bool} {m : Nat} {e n : Int} (h : IsV s m e n) : m = n.natAbs * 2 ^ (-e).toNat := by
  have h2 := congrArg Int.natAbs h.2
  rw [Int.natAbs_mul, Int.natAbs_pow] at h2
  cases s <;> simp at h2 <;> exact h2
theorem cut_zero (s : Bool) (x : Nat) : Toward.even.cut s x 0 = x := by simp [Toward.cut]; omega
theorem cut_exact (s : Bool) (x d : Nat) (hd : d ≤ (x * 2 ^ d).log2) : Toward.even.cut s (x * 2 ^ d) d = x := by
  have hg : min d ((x * 2 ^ d).log2 + 2) = d := by omega
  have hp : 0 < 2 ^ d := Nat.pos_of_ne_zero (by simp)
  have e1 : x * 2 ^ d / 2 ^ d = x := Nat.mul_div_cancel _ hp
  have e2 : x * 2 ^ d % 2 ^ d = 0 := Nat.mul_mod_left _ _
  unfold Toward.cut
  simp only [hg, Nat.shiftLeft_eq, Nat.one_mul, e1, e2]
  have : ¬ (2 ^ d < 2 * 0) := by omega
  have h3 : (2 ^ d == 2 * 0) = false := by simp
  simp [h3]
theorem log2_mul (x d : Nat) (hx : x ≠ 0) : (x * 2 ^ d).log2 = x.log2 + d := by
  have h1 := Nat.log2_self_le hx
  have h2 := @Nat.lt_log2_self x
  rw [Nat.log2_eq_iff (by
    have : 0 < 2 ^ d := Nat.pos_of_ne_zero (by simp)
    have : 0 < x * 2 ^ d := Nat.mul_pos (by omega) this
    omega)]
  constructor
  · rw [Nat.pow_add]; exact Nat.mul_le_mul_right _ h1
  · rw [show x.log2 + d + 1 = (x.log2 + 1) + d by omega, Nat.pow_add]
    exact Nat.mul_lt_mul_of_pos_right h2 (Nat.pos_of_ne_zero (by simp))
theorem read_word (s : Bool) (E k : Nat) (hE : E ≤ 52) (h1 : 4503599627370496 ≤ k) (h2 : k < 9007199254740992) : double.read (double.word s (min ((1074 - E) * 4503599627370496 + k) double.infRung)) = .number s k (-(E : Int)) := by
  have hi : double.infRung = 9218868437227405312 := by decide
  have hb : double.binade = 4503599627370496 := by decide
  have hs : double.signWeight = 9223372036854775808 := by decide
  have hl : double.leastPlace = -1074 := by decide
  obtain ⟨r, hr⟩ : ∃ r, (1074 - E) * 4503599627370496 + k = r := ⟨_, rfl⟩
  have r1 : 4503599627370496 ≤ r := by omega
  have r2 : r < 9218868437227405312 := by omega
  have r3 : r / 4503599627370496 = 1075 - E := by omega
  have r4 : r % 4503599627370496 = k - 4503599627370496 := by omega
  rw [hr, hi, Nat.min_eq_left (by omega)]
  unfold Format.read Format.word
  rw [hs, hb, hi, hl]
  cases s
  · simp only [Bool.false_eq_true, if_false]
    rw [Nat.mod_eq_of_lt (show r < 9223372036854775808 by omega), Nat.div_eq_of_lt (show r < 9223372036854775808 by omega)]
    simp only [show ¬ r < 4503599627370496 by omega, if_false, r2, if_true, r3, r4]
    rw [show 4503599627370496 + (k - 4503599627370496) = k by omega, show (-1074 : Int) + ((1075 - E - 1 : Nat) : Int) = -(E : Int) by omega]
    rfl
  · simp only [if_true]
    rw [show (9223372036854775808 + r) % 9223372036854775808 = r by omega, show (9223372036854775808 + r) / 9223372036854775808 = 1 by omega]
    simp only [show ¬ r < 4503599627370496 by omega, if_false, r2, if_true, r3, r4]
    rw [show 4503599627370496 + (k - 4503599627370496) = k by omega, show (-1074 : Int) + ((1075 - E - 1 : Nat) : Int) = -(E : Int) by omega]
    rfl
theorem read_zero (s : Bool) : double.read (double.word s 0) = .number s 0 (-1074) := by cases s <;> decide
theorem near_int {s : Bool} {m : Nat} {e n : Int} (h : IsV s m e n) (hn : n.natAbs < 9007199254740992) : IsI (double.nearest s m e) n := by
  have hm := h.mag
  have he := h.1
  obtain ⟨D, hD⟩ : ∃ D, (-e).toNat = D := ⟨_, rfl⟩
  rw [hD] at hm
  have eD : e = -(D : Int) := by omega
  by_cases z : n = 0
  · subst z
    have m0 : m = 0 := by simpa using hm
    refine ⟨s, 0, -1074, ?_, by omega, by rw [Int.zero_mul]; cases s <;> rfl⟩
    unfold Format.nearest
    rw [if_pos m0]
    exact read_zero s
  · obtain ⟨a, ha⟩ : ∃ a, n.natAbs = a := ⟨_, rfl⟩
    rw [ha] at hm hn
    have a0 : a ≠ 0 := by omega
    have L := @Nat.lt_log2_self a
    have L1 := Nat.log2_self_le a0
    have Ll : a.log2 ≤ 52 := by
      rcases Nat.lt_or_ge 52 a.log2 with q | q
      · have := Nat.pow_le_pow_right (show 0 < 2 by omega) (show 53 ≤ a.log2 by omega)
        omega
      · exact q
    obtain ⟨E, hE⟩ : ∃ E, 52 - a.log2 = E := ⟨_, rfl⟩
    have k1 : 4503599627370496 ≤ a * 2 ^ E := by
      have := Nat.mul_le_mul_right (2 ^ E) L1
      rw [← Nat.pow_add, show a.log2 + E = 52 by omega] at this
      exact this
    have k2 : a * 2 ^ E < 9007199254740992 := by
      have := Nat.mul_lt_mul_of_pos_right L (show 0 < 2 ^ E from Nat.pos_of_ne_zero (by simp))
      rw [← Nat.pow_add, show a.log2 + 1 + E = 53 by omega] at this
      exact this
    have m0 : m ≠ 0 := by
      rw [hm]
      have : 0 < a * 2 ^ D := Nat.mul_pos (by omega) (Nat.pos_of_ne_zero (by simp))
      omega
    have ml : m.log2 = a.log2 + D := by rw [hm]; exact log2_mul a D a0
    refine ⟨s, a * 2 ^ E, -(E : Int), ?_, by omega, ?_⟩
    · unfold Format.nearest
      rw [if_neg m0]
      have la : max (e + (m.log2 : Int) - (double.fractionBits : Int)) double.leastPlace = -(E : Int) := by
        rw [ml, show double.leastPlace = -1074 by decide, show (double.fractionBits : Int) = 52 by decide]
        push_cast
        omega
      simp only [la]
      have kp : Toward.even.cut s (m <<< (e - -(E : Int)).toNat) (-(E : Int) - e).toNat = a * 2 ^ E := by
        rw [show (e - -(E : Int)).toNat = E - D by omega, show (-(E : Int) - e).toNat = D - E by omega, Nat.shiftLeft_eq, hm]
        rcases Nat.le_total D E with q | q
        · rw [show D - E = 0 by omega, cut_zero, Nat.mul_assoc, ← Nat.pow_add, show D + (E - D) = E by omega]
        · rw [show E - D = 0 by omega, Nat.pow_zero, Nat.mul_one, show a * 2 ^ D = (a * 2 ^ E) * 2 ^ (D - E) by rw [Nat.mul_assoc, ← Nat.pow_add, show E + (D - E) = D by omega]]
          refine cut_exact s _ _ ?_
          rw [Nat.mul_assoc, ← Nat.pow_add, log2_mul a _ a0]
          omega
      rw [kp, show (-(E : Int) - double.leastPlace).toNat = 1074 - E by rw [show double.leastPlace = -1074 by decide]; omega, show double.binade = 4503599627370496 by decide]
      exact read_word s E _ (by omega) k1 k2
    · have h2 := h.2
      rw [show (- -(E : Int)).toNat = E by omega]
      rw [hD] at h2
      have sg : n = if s then -(a : Int) else (a : Int) := by
        have pd : (0 : Int) < 2 ^ D := Int.pow_pos (by omega)
        cases s
        · simp only [Bool.false_eq_true, if_false] at h2 ⊢
          have : 0 ≤ n := by
            rcases Int.lt_or_le n 0 with q | q
            · have := Int.mul_neg_of_neg_of_pos q pd; omega
            · exact q
          omega
        · simp only [if_true] at h2 ⊢
          have : n ≤ 0 := by
            rcases Int.lt_or_le 0 n with q | q
            · have := Int.mul_pos q pd; omega
            · exact q
          omega
      rw [sg]
      cases s <;> simp [Int.neg_mul]
theorem signed_eq (s : Bool) (m u : Nat) : signed s m u = (if s then -(m : Int) else (m : Int)) * 2 ^ u := by
  unfold signed
  cases s
  · simp [Nat.shiftLeft_eq]
  · simp [Nat.shiftLeft_eq, Int.neg_mul]
theorem IsV.scaled {s : Bool} {m : Nat} {e n : Int} (h : IsV s m e n) {base : Int} (hb : base ≤ e) : signed s m (e - base).toNat = n * 2 ^ (-base).toNat := by
  rw [signed_eq, h.2, Int.mul_assoc, ← Int.pow_add, show (-e).toNat + (e - base).toNat = (-base).toNat by have := h.1; omega]
theorem IsV.of_total {t : Int} {base n : Int} {q : Bool} (hb : base ≤ 0) (ht : t = n * 2 ^ (-base).toNat) : IsV (if t = 0 then q else decide (t < 0)) t.natAbs base n := by
  refine ⟨hb, ?_⟩
  rw [← ht]
  by_cases z : t = 0
  · subst z; simp
  · rw [if_neg z]
    by_cases p : t < 0
    · simp only [p, decide_true, if_true]; omega
    · simp only [p, decide_false, Bool.false_eq_true, if_false]; omega
theorem IsV.neg {s : Bool} {m : Nat} {e n : Int} (h : IsV s m e n) : IsV (!s) m e (-n) := by
  refine ⟨h.1, ?_⟩
  have := h.2
  rw [Int.neg_mul, ← this]
  cases s <;> simp
theorem IsV.mul {s t : Bool} {m k : Nat} {e i n p : Int} (h : IsV s m e n) (g : IsV t k i p) : IsV (s ^^ t) (m * k) (e + i) (n * p) := by
  refine ⟨by have := h.1; have := g.1; omega, ?_⟩
  rw [show (-(e + i)).toNat = (-e).toNat + (-i).toNat by have := h.1; have := g.1; omega, Int.pow_add, show n * p * (2 ^ (-e).toNat * 2 ^ (-i).toNat) = (n * 2 ^ (-e).toNat) * (p * 2 ^ (-i).toNat) by ac_rfl, ← h.2, ← g.2]
  cases s <;> cases t <;> simp [Int.neg_mul, Int.mul_neg]
theorem sum_int {s t : Bool} {m k : Nat} {e i n p : Int} (h : IsV s m e n) (g : IsV t k i p) : ∃ q r b, (Datum.number s m e).sum (.number t k i) = some (.number q r b) ∧ IsV q r b (n + p) := by
  refine ⟨_, _, _, rfl, IsV.of_total (by have := h.1; have := g.1; omega) ?_⟩
  rw [h.scaled (by omega), g.scaled (by omega), Int.add_mul]
theorem IsI_add {x y : Nat} {n p : Int} (h : IsI x n) (g : IsI y p) (hn : (n + p).natAbs < 9007199254740992) : ∃ r, floatBits .add .f64 x y = some r ∧ IsI r (n + p) := by
  obtain ⟨s, m, e, h1, h2⟩ := h
  obtain ⟨t, k, i, g1, g2⟩ := g
  obtain ⟨q, r, b, e1, e2⟩ := sum_int h2 g2
  refine ⟨double.nearest q r b, ?_, near_int e2 hn⟩
  show double.add x y = _
  unfold Format.add
  rw [h1, g1, e1]
  rfl
theorem IsI_sub {x y : Nat} {n p : Int} (h : IsI x n) (g : IsI y p) (hn : (n - p).natAbs < 9007199254740992) : ∃ r, floatBits .sub .f64 x y = some r ∧ IsI r (n - p) := by
  obtain ⟨s, m, e, h1, h2⟩ := h
  obtain ⟨t, k, i, g1, g2⟩ := g
  obtain ⟨q, r, b, e1, e2⟩ := sum_int h2 g2.neg
  rw [← Int.sub_eq_add_neg] at e2
  refine ⟨double.nearest q r b, ?_, near_int e2 hn⟩
  show double.sub x y = _
  unfold Format.sub
  rw [h1, g1]
  show Option.map _ ((Datum.number s m e).sum (.number (!t) k i)) = _
  rw [e1]
  rfl
theorem IsI_mul {x y : Nat} {n p : Int} (h : IsI x n) (g : IsI y p) (hn : (n * p).natAbs < 9007199254740992) : ∃ r, floatBits .mul .f64 x y = some r ∧ IsI r (n * p) := by
  obtain ⟨s, m, e, h1, h2⟩ := h
  obtain ⟨t, k, i, g1, g2⟩ := g
  refine ⟨double.nearest (s ^^ t) (m * k) (e + i), ?_, near_int (h2.mul g2) hn⟩
  show double.mul x y = _
  unfold Format.mul
  rw [h1, g1]
  rfl
theorem IsI_of (n : Int) (hn : n.natAbs < 9007199254740992) : IsI (floatOfInt .f64 n) n := by
  have : IsV (decide (n < 0)) n.natAbs 0 n := by
    refine ⟨Int.le_refl _, ?_⟩
    rw [show n * 2 ^ (-(0 : Int)).toNat = n by simp]
    by_cases p : n < 0
    · simp only [p, decide_true, if_true]; omega
    · simp only [p, decide_false, Bool.false_eq_true, if_false]; omega
  exact near_int this hn
theorem IsI_toInt {x : Nat} {n : Int} (h : IsI x n) (hn : n.natAbs < 9007199254740992) : floatToIntVal .f64 x .i64 = some n := by
  obtain ⟨s, m, e, h1, h2⟩ := h
  have hm := h2.mag
  have h3 := h2.2
  have cz : Toward.zero.cut s (m <<< e.toNat) (-e).toNat = n.natAbs := by
    rw [show e.toNat = 0 by have := h2.1; omega, Nat.shiftLeft_zero]
    obtain ⟨D, hD⟩ : ∃ D, (-e).toNat = D := ⟨_, rfl⟩
    rw [hD] at hm ⊢
    by_cases z : n = 0
    · subst z
      have m0 : m = 0 := by simpa using hm
      subst m0
      simp [Toward.cut]
    · have a0 : n.natAbs ≠ 0 := by omega
      have ml : m.log2 = n.natAbs.log2 + D := by rw [hm]; exact log2_mul _ D a0
      have hp : 0 < 2 ^ D := Nat.pos_of_ne_zero (by simp)
      unfold Toward.cut
      simp only [show min D (m.log2 + 2) = D by omega, Nat.shiftLeft_eq, Nat.one_mul]
      rw [hm, Nat.mul_div_cancel _ hp]
      rfl
  have sg : signed s n.natAbs 0 = n := by
    rw [signed_eq, Int.pow_zero, Int.mul_one]
    have pd : (0 : Int) < 2 ^ (-e).toNat := Int.pow_pos (by omega)
    cases s
    · simp only [Bool.false_eq_true, if_false] at h3 ⊢
      have : 0 ≤ n := by
        rcases Int.lt_or_le n 0 with q | q
        · have := Int.mul_neg_of_neg_of_pos q pd; omega
        · exact q
      omega
    · simp only [if_true] at h3 ⊢
      have : n ≤ 0 := by
        rcases Int.lt_or_le 0 n with q | q
        · have := Int.mul_pos q pd; omega
        · exact q
      omega
  have ti : (FloatKind.f64.decode x).toInt .zero = some n := by
    show (double.read x).toInt .zero = _
    rw [h1]
    show some (signed s (Toward.zero.cut s (m <<< e.toNat) (-e).toNat) 0) = _
    rw [cz, sg]
  unfold floatToIntVal
  rw [ti]
  have hr : IntKind.i64.min ≤ n ∧ n ≤ IntKind.i64.max := by
    have a : IntKind.i64.min = -9223372036854775808 := by decide
    have b : IntKind.i64.max = 9223372036854775807 := by decide
    rw [a, b]; omega
  exact if_pos hr
end Go.Proofs.YtbkllhlapdmlfaaDoor

