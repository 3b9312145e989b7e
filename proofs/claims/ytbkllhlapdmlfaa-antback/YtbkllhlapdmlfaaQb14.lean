/-
  What the last text of this claim leans on, part 14: Gb1, Gb6, Gr5, Gr6.
-/
import Derived.Test.YtbkllhlapdmlfaaQb4
import Derived.Test.YtbkllhlapdmlfaaQb11
import Derived.Laws.ComplexArith
namespace Go.Proofs.Ytbkllhlapdmlfaa
open Go.RowKit
set_option linter.unusedVariables false
/-- The bits of a whole number. -/
def fI (n : Int) : Nat := floatOfInt .f64 n
theorem fI_subT : ∀ (n : Fin 256) (c : Fin 3), floatBits .sub .f64 (fI ((n.val : Int) - 100)) (fI ((c.val : Int) - 1)) = some (fI (((n.val : Int) - 100) - ((c.val : Int) - 1))) := by decide +kernel
theorem fI_intT : ∀ (n : Fin 256), floatToIntVal .f64 (fI ((n.val : Int) - 102)) .i64 = some ((n.val : Int) - 102) := by decide +kernel
theorem fI_negT : ∀ (n : Fin 256), floatToIntVal .f64 (Op.negFloat .f64 (fI ((n.val : Int) - 102))) .i64 = some (-((n.val : Int) - 102)) := by decide +kernel
theorem fI_sub {n c : Int} (h1 : -100 ≤ n) (h2 : n ≤ 155) (h3 : -1 ≤ c) (h4 : c ≤ 1) : floatBits .sub .f64 (fI n) (fI c) = some (fI (n - c)) := by
  have := fI_subT ⟨(n + 100).toNat, by omega⟩ ⟨(c + 1).toNat, by omega⟩
  rwa [show (((n + 100).toNat : Nat) : Int) - 100 = n by omega, show (((c + 1).toNat : Nat) : Int) - 1 = c by omega] at this
theorem fI_int {n : Int} (h1 : -102 ≤ n) (h2 : n ≤ 153) : floatToIntVal .f64 (fI n) .i64 = some n := by
  have := fI_intT ⟨(n + 102).toNat, by omega⟩
  rwa [show (((n + 102).toNat : Nat) : Int) - 102 = n by omega] at this
theorem fI_neg {n : Int} (h1 : -102 ≤ n) (h2 : n ≤ 153) : floatToIntVal .f64 (Op.negFloat .f64 (fI n)) .i64 = some (-n) := by
  have := fI_negT ⟨(n + 102).toNat, by omega⟩
  rwa [show (((n + 102).toNat : Nat) : Int) - 102 = n by omega] at this
/-- How far a row leans. -/
def leanG (K : Int) (y : Int) : Int := if K = 4 then 0 else (y + 1) / 2
set_option maxRecDepth 100000 in
theorem lean_any (K y : Int) (w : World) (h1 : -1 ≤ y) (h2 : y ≤ 1000) : Calls Try.prog 46 #[.int .i64 K, .int .i64 y] w fun e w' => e = .returned (.int .i64 (leanG K y)) ∧ w' = w := by
  by_cases k4 : K = 4
  · have F := hide' (show leanG K y = 0 by unfold leanG; rw [if_pos k4])
    have m4 : (K == 4) = true := by simp [k4]
    rw [F.out]
    clear k4
    go_enter Try.func46, Try.ntmps46
    go_wp2
    go_ret
    exact ⟨rfl, rfl⟩
  · obtain ⟨m, rfl⟩ : ∃ m : Nat, y = (m : Int) - 1 := ⟨(y + 1).toNat, by omega⟩
    have F := hide' (show leanG K ((m : Int) - 1) = ((m / 2 : Nat) : Int) by unfold leanG; rw [if_neg k4]; omega)
    have m4 : (K == 4) = false := by simp [k4]
    rw [F.out]
    clear k4
    go_enter Try.func46, Try.ntmps46
    go_wp2
    go_ret
    exact ⟨rfl, rfl⟩
set_option maxRecDepth 100000 in
theorem ring_any (n s r : Int) (w : World) (h1 : -1000 ≤ n) (h2 : n ≤ 1000) (h3 : 1 ≤ s) (h4 : s ≤ 1000) (hr : (n + s).tmod s = r) : Calls Try.prog 47 #[.int .i64 n, .int .i64 s] w fun e w' => e = .returned (.int .i64 r) ∧ w' = w := by
  have ns : ¬ s = 0 := by omega
  go_enter Try.func47, Try.ntmps47
  go_wp2
  go_ret
  exact ⟨rfl, rfl⟩
set_option maxRecDepth 100000 in
theorem placeOf_any (K x y : Int) (w : World) (h1 : 0 ≤ x) (h2 : x ≤ 100) (h3 : 0 ≤ y) (h4 : y ≤ 100) : Calls Try.prog 37 #[.int .i64 K, .int .i64 x, .int .i64 y] w fun e w' => e = .returned (.complex .f64 (fI (x + leanG K y)) (fI (-y))) ∧ w' = w := by
  have LC := hide' (fun V => lean_any K y V (by omega) (by omega))
  have lb : 0 ≤ leanG K y ∧ leanG K y ≤ 100 := by unfold leanG; split <;> omega
  obtain ⟨l, hl⟩ : ∃ l, leanG K y = l := ⟨_, rfl⟩
  rw [hl] at LC lb ⊢
  obtain ⟨l1, l2⟩ := lb
  clear hl
  go_enter Try.func37, Try.ntmps37
  go_wp2_with fail
  refine (LC.out _).mono ?_
  rintro e w2 ⟨rfl, rfl⟩
  go_wp2
  go_ret
  exact ⟨rfl, rfl⟩
end Go.Proofs.Ytbkllhlapdmlfaa

namespace Go.Proofs.Ytbkllhlapdmlfaa
open Go.RowKit
set_option linter.unusedVariables false
open Ieee
/-- The whole number that a sign and a magnitude at a place stand for. -/
def IsV (s : Bool) (m : Nat) (e : Int) (n : Int) : Prop := e ≤ 0 ∧ (if s then -(m : Int) else (m : Int)) = n * 2 ^ (-e).toNat
def IsI (b : Nat) (n : Int) : Prop := ∃ s m e, double.read b = .number s m e ∧ IsV s m e n
theorem IsV.mag {s : Bool} {m : Nat} {e n : Int} (h : IsV s m e n) : m = n.natAbs * 2 ^ (-e).toNat := by
  have h2 := congrArg Int.natAbs h.2
  rw [Int.natAbs_mul, Int.natAbs_pow] at h2
  cases s <;> simp at h2 <;> exact h2
theorem cut_zero (s : Bool) (x : Nat) : Toward.even.cut s x 0 = x := by simp [Toward.cut]; omega
theorem cut_exact (s : Bool) (x d : Nat) (hd : d ≤ (x * 2 ^ d).log2) : Toward.even.cut s (x * 2 ^ d) d = x := by
  have hg : min d ((x * 2 ^ d).log2 + 2) = d := by omega
  have hp : 0 < 2 ^ d := Nat.pos_of_ne_zero (by simp)
  have e1 : x * 2 ^ d / 2 ^ d = x := Nat.mul_div_cancel _ hp
  have e2 : x * 2 ^ d % 2 ^ d = 0 := Nat.mul_mod_left _ _
  unfold Toward.cut
  simp only [hg, Nat.shiftLeft_eq, Nat.one_mul, e1, e2]
  have : ¬ (2 ^ d < 2 * 0) := by omega
  have h3 : (2 ^ d == 2 * 0) = false := by simp
  simp [h3]
theorem log2_mul (x d : Nat) (hx : x ≠ 0) : (x * 2 ^ d).log2 = x.log2 + d := by
  have h1 := Nat.log2_self_le hx
  have h2 := @Nat.lt_log2_self x
  rw [Nat.log2_eq_iff (by
    have : 0 < 2 ^ d := Nat.pos_of_ne_zero (by simp)
    have : 0 < x * 2 ^ d := Nat.mul_pos (by omega) this
    omega)]
  constructor
  · rw [Nat.pow_add]; exact Nat.mul_le_mul_right _ h1
  · rw [show x.log2 + d + 1 = (x.log2 + 1) + d by omega, Nat.pow_add]
    exact Nat.mul_lt_mul_of_pos_right h2 (Nat.pos_of_ne_zero (by simp))
theorem read_word (s : Bool) (E k : Nat) (hE : E ≤ 52) (h1 : 4503599627370496 ≤ k) (h2 : k < 9007199254740992) : double.read (double.word s (min ((1074 - E) * 4503599627370496 + k) double.infRung)) = .number s k (-(E : Int)) := by
  have hi : double.infRung = 9218868437227405312 := by decide
  have hb : double.binade = 4503599627370496 := by decide
  have hs : double.signWeight = 9223372036854775808 := by decide
  have hl : double.leastPlace = -1074 := by decide
  obtain ⟨r, hr⟩ : ∃ r, (1074 - E) * 4503599627370496 + k = r := ⟨_, rfl⟩
  have r1 : 4503599627370496 ≤ r := by omega
  have r2 : r < 9218868437227405312 := by omega
  have r3 : r / 4503599627370496 = 1075 - E := by omega
  have r4 : r % 4503599627370496 = k - 4503599627370496 := by omega
  rw [hr, hi, Nat.min_eq_left (by omega)]
  unfold Format.read Format.word
  rw [hs, hb, hi, hl]
  cases s
  · simp only [Bool.false_eq_true, if_false]
    rw [Nat.mod_eq_of_lt (show r < 9223372036854775808 by omega), Nat.div_eq_of_lt (show r < 9223372036854775808 by omega)]
    simp only [show ¬ r < 4503599627370496 by omega, if_false, r2, if_true, r3, r4]
    rw [show 4503599627370496 + (k - 4503599627370496) = k by omega, show (-1074 : Int) + ((1075 - E - 1 : Nat) : Int) = -(E : Int) by omega]
    rfl
  · simp only [if_true]
    rw [show (9223372036854775808 + r) % 9223372036854775808 = r by omega, show (9223372036854775808 + r) / 9223372036854775808 = 1 by omega]
    simp only [show ¬ r < 4503599627370496 by omega, if_false, r2, if_true, r3, r4]
    rw [show 4503599627370496 + (k - 4503599627370496) = k by omega, show (-1074 : Int) + ((1075 - E - 1 : Nat) : Int) = -(E : Int) by omega]
    rfl
theorem read_zero (s : Bool) : double.read (double.word s 0) = .number s 0 (-1074) := by cases s <;> decide
theorem near_int {s : Bool} {m : Nat} {e n : Int} (h : IsV s m e n) (hn : n.natAbs < 9007199254740992) : IsI (double.nearest s m e) n := by
  have hm := h.mag
  have he := h.1
  obtain ⟨D, hD⟩ : ∃ D, (-e).toNat = D := ⟨_, rfl⟩
  rw [hD] at hm
  have eD : e = -(D : Int) := by omega
  by_cases z : n = 0
  · subst z
    have m0 : m = 0 := by simpa using hm
    refine ⟨s, 0, -1074, ?_, by omega, by rw [Int.zero_mul]; cases s <;> rfl⟩
    unfold Format.nearest
    rw [if_pos m0]
    exact read_zero s
  · obtain ⟨a, ha⟩ : ∃ a, n.natAbs = a := ⟨_, rfl⟩
    rw [ha] at hm hn
    have a0 : a ≠ 0 := by omega
    have L := @Nat.lt_log2_self a
    have L1 := Nat.log2_self_le a0
    have Ll : a.log2 ≤ 52 := by
      rcases Nat.lt_or_ge 52 a.log2 with q | q
      · have := Nat.pow_le_pow_right (show 0 < 2 by omega) (show 53 ≤ a.log2 by omega)
        omega
      · exact q
    obtain ⟨E, hE⟩ : ∃ E, 52 - a.log2 = E := ⟨_, rfl⟩
    have k1 : 4503599627370496 ≤ a * 2 ^ E := by
      have := Nat.mul_le_mul_right (2 ^ E) L1
      rw [← Nat.pow_add, show a.log2 + E = 52 by omega] at this
      exact this
    have k2 : a * 2 ^ E < 9007199254740992 := by
      have := Nat.mul_lt_mul_of_pos_right L (show 0 < 2 ^ E from Nat.pos_of_ne_zero (by simp))
      rw [← Nat.pow_add, show a.log2 + 1 + E = 53 by omega] at this
      exact this
    have m0 : m ≠ 0 := by
      rw [hm]
      have : 0 < a * 2 ^ D := Nat.mul_pos (by omega) (Nat.pos_of_ne_zero (by simp))
      omega
    have ml : m.log2 = a.log2 + D := by rw [hm]; exact log2_mul a D a0
    refine ⟨s, a * 2 ^ E, -(E : Int), ?_, by omega, ?_⟩
    · unfold Format.nearest
      rw [if_neg m0]
      have la : max (e + (m.log2 : Int) - (double.fractionBits : Int)) double.leastPlace = -(E : Int) := by
        rw [ml, show double.leastPlace = -1074 by decide, show (double.fractionBits : Int) = 52 by decide]
        push_cast
        omega
      simp only [la]
      have kp : Toward.even.cut s (m <<< (e - -(E : Int)).toNat) (-(E : Int) - e).toNat = a * 2 ^ E := by
        rw [show (e - -(E : Int)).toNat = E - D by omega, show (-(E : Int) - e).toNat = D - E by omega, Nat.shiftLeft_eq, hm]
        rcases Nat.le_total D E with q | q
        · rw [show D - E = 0 by omega, cut_zero, Nat.mul_assoc, ← Nat.pow_add, show D + (E - D) = E by omega]
        · rw [show E - D = 0 by omega, Nat.pow_zero, Nat.mul_one, show a * 2 ^ D = (a * 2 ^ E) * 2 ^ (D - E) by rw [Nat.mul_assoc, ← Nat.pow_add, show E + (D - E) = D by omega]]
          refine cut_exact s _ _ ?_
          rw [Nat.mul_assoc, ← Nat.pow_add, log2_mul a _ a0]
          omega
      rw [kp, show (-(E : Int) - double.leastPlace).toNat = 1074 - E by rw [show double.leastPlace = -1074 by decide]; omega, show double.binade = 4503599627370496 by decide]
      exact read_word s E _ (by omega) k1 k2
    · have h2 := h.2
      rw [show (- -(E : Int)).toNat = E by omega]
      rw [hD] at h2
      have sg : n = if s then -(a : Int) else (a : Int) := by
        have pd : (0 : Int) < 2 ^ D := Int.pow_pos (by omega)
        cases s
        · simp only [Bool.false_eq_true, if_false] at h2 ⊢
          have : 0 ≤ n := by
            rcases Int.lt_or_le n 0 with q | q
            · have := Int.mul_neg_of_neg_of_pos q pd; omega
            · exact q
          omega
        · simp only [if_true] at h2 ⊢
          have : n ≤ 0 := by
            rcases Int.lt_or_le 0 n with q | q
            · have := Int.mul_pos q pd; omega
            · exact q
          omega
      rw [sg]
      cases s <;> simp [Int.neg_mul]
theorem signed_eq (s : Bool) (m u : Nat) : signed s m u = (if s then -(m : Int) else (m : Int)) * 2 ^ u := by
  unfold signed
  cases s
  · simp [Nat.shiftLeft_eq]
  · simp [Nat.shiftLeft_eq, Int.neg_mul]
theorem IsV.scaled {s : Bool} {m : Nat} {e n : Int} (h : IsV s m e n) {base : Int} (hb : base ≤ e) : signed s m (e - base).toNat = n * 2 ^ (-base).toNat := by
  rw [signed_eq, h.2, Int.mul_assoc, ← Int.pow_add, show (-e).toNat + (e - base).toNat = (-base).toNat by have := h.1; omega]
theorem IsV.of_total {t : Int} {base n : Int} {q : Bool} (hb : base ≤ 0) (ht : t = n * 2 ^ (-base).toNat) : IsV (if t = 0 then q else decide (t < 0)) t.natAbs base n := by
  refine ⟨hb, ?_⟩
  rw [← ht]
  by_cases z : t = 0
  · subst z; simp
  · rw [if_neg z]
    by_cases p : t < 0
    · simp only [p, decide_true, if_true]; omega
    · simp only [p, decide_false, Bool.false_eq_true, if_false]; omega
theorem IsV.neg {s : Bool} {m : Nat} {e n : Int} (h : IsV s m e n) : IsV (!s) m e (-n) := by
  refine ⟨h.1, ?_⟩
  have := h.2
  rw [Int.neg_mul, ← this]
  cases s <;> simp
theorem IsV.mul {s t : Bool} {m k : Nat} {e i n p : Int} (h : IsV s m e n) (g : IsV t k i p) : IsV (s ^^ t) (m * k) (e + i) (n * p) := by
  refine ⟨by have := h.1; have := g.1; omega, ?_⟩
  rw [show (-(e + i)).toNat = (-e).toNat + (-i).toNat by have := h.1; have := g.1; omega, Int.pow_add, show n * p * (2 ^ (-e).toNat * 2 ^ (-i).toNat) = (n * 2 ^ (-e).toNat) * (p * 2 ^ (-i).toNat) by ac_rfl, ← h.2, ← g.2]
  cases s <;> cases t <;> simp [Int.neg_mul, Int.mul_neg]
theorem sum_int {s t : Bool} {m k : Nat} {e i n p : Int} (h : IsV s m e n) (g : IsV t k i p) : ∃ q r b, (Datum.number s m e).sum (.number t k i) = some (.number q r b) ∧ IsV q r b (n + p) := by
  refine ⟨_, _, _, rfl, IsV.of_total (by have := h.1; have := g.1; omega) ?_⟩
  rw [h.scaled (by omega), g.scaled (by omega), Int.add_mul]
theorem IsI_add {x y : Nat} {n p : Int} (h : IsI x n) (g : IsI y p) (hn : (n + p).natAbs < 9007199254740992) : ∃ r, floatBits .add .f64 x y = some r ∧ IsI r (n + p) := by
  obtain ⟨s, m, e, h1, h2⟩ := h
  obtain ⟨t, k, i, g1, g2⟩ := g
  obtain ⟨q, r, b, e1, e2⟩ := sum_int h2 g2
  refine ⟨double.nearest q r b, ?_, near_int e2 hn⟩
  show double.add x y = _
  unfold Format.add
  rw [h1, g1, e1]
  rfl
theorem IsI_sub {x y : Nat} {n p : Int} (h : IsI x n) (g : IsI y p) (hn : (n - p).natAbs < 9007199254740992) : ∃ r, floatBits .sub .f64 x y = some r ∧ IsI r (n - p) := by
  obtain ⟨s, m, e, h1, h2⟩ := h
  obtain ⟨t, k, i, g1, g2⟩ := g
  obtain ⟨q, r, b, e1, e2⟩ := sum_int h2 g2.neg
  rw [← Int.sub_eq_add_neg] at e2
  refine ⟨double.nearest q r b, ?_, near_int e2 hn⟩
  show double.sub x y = _
  unfold Format.sub
  rw [h1, g1]
  show Option.map _ ((Datum.number s m e).sum (.number (!t) k i)) = _
  rw [e1]
  rfl
theorem IsI_mul {x y : Nat} {n p : Int} (h : IsI x n) (g : IsI y p) (hn : (n * p).natAbs < 9007199254740992) : ∃ r, floatBits .mul .f64 x y = some r ∧ IsI r (n * p) := by
  obtain ⟨s, m, e, h1, h2⟩ := h
  obtain ⟨t, k, i, g1, g2⟩ := g
  refine ⟨double.nearest (s ^^ t) (m * k) (e + i), ?_, near_int (h2.mul g2) hn⟩
  show double.mul x y = _
  unfold Format.mul
  rw [h1, g1]
  rfl
theorem IsI_of (n : Int) (hn : n.natAbs < 9007199254740992) : IsI (floatOfInt .f64 n) n := by
  have : IsV (decide (n < 0)) n.natAbs 0 n := by
    refine ⟨Int.le_refl _, ?_⟩
    rw [show n * 2 ^ (-(0 : Int)).toNat = n by simp]
    by_cases p : n < 0
    · simp only [p, decide_true, if_true]; omega
    · simp only [p, decide_false, Bool.false_eq_true, if_false]; omega
  exact near_int this hn
theorem IsI_toInt {x : Nat} {n : Int} (h : IsI x n) (hn : n.natAbs < 9007199254740992) : floatToIntVal .f64 x .i64 = some n := by
  obtain ⟨s, m, e, h1, h2⟩ := h
  have hm := h2.mag
  have h3 := h2.2
  have cz : Toward.zero.cut s (m <<< e.toNat) (-e).toNat = n.natAbs := by
    rw [show e.toNat = 0 by have := h2.1; omega, Nat.shiftLeft_zero]
    obtain ⟨D, hD⟩ : ∃ D, (-e).toNat = D := ⟨_, rfl⟩
    rw [hD] at hm ⊢
    by_cases z : n = 0
    · subst z
      have m0 : m = 0 := by simpa using hm
      subst m0
      simp [Toward.cut]
    · have a0 : n.natAbs ≠ 0 := by omega
      have ml : m.log2 = n.natAbs.log2 + D := by rw [hm]; exact log2_mul _ D a0
      have hp : 0 < 2 ^ D := Nat.pos_of_ne_zero (by simp)
      unfold Toward.cut
      simp only [show min D (m.log2 + 2) = D by omega, Nat.shiftLeft_eq, Nat.one_mul]
      rw [hm, Nat.mul_div_cancel _ hp]
      rfl
  have sg : signed s n.natAbs 0 = n := by
    rw [signed_eq, Int.pow_zero, Int.mul_one]
    have pd : (0 : Int) < 2 ^ (-e).toNat := Int.pow_pos (by omega)
    cases s
    · simp only [Bool.false_eq_true, if_false] at h3 ⊢
      have : 0 ≤ n := by
        rcases Int.lt_or_le n 0 with q | q
        · have := Int.mul_neg_of_neg_of_pos q pd; omega
        · exact q
      omega
    · simp only [if_true] at h3 ⊢
      have : n ≤ 0 := by
        rcases Int.lt_or_le 0 n with q | q
        · have := Int.mul_pos q pd; omega
        · exact q
      omega
  have ti : (FloatKind.f64.decode x).toInt .zero = some n := by
    show (double.read x).toInt .zero = _
    rw [h1]
    show some (signed s (Toward.zero.cut s (m <<< e.toNat) (-e).toNat) 0) = _
    rw [cz, sg]
  unfold floatToIntVal
  rw [ti]
  have hr : IntKind.i64.min ≤ n ∧ n ≤ IntKind.i64.max := by
    have a : IntKind.i64.min = -9223372036854775808 := by decide
    have b : IntKind.i64.max = 9223372036854775807 := by decide
    rw [a, b]; omega
  exact if_pos hr
end Go.Proofs.Ytbkllhlapdmlfaa

namespace Go.Proofs.Ytbkllhlapdmlfaa
open Go.RowKit
set_option linter.unusedVariables false
/-- What lives, as it lies: the sheet's words, then its sides and where it is. -/
def grF (X : Nat → Nat) (W H r d : Int) (k : Nat) : Value := if k < 204 then uF X k else if k = 204 then .int .i64 W else if k = 205 then .int .i64 H else if k = 206 then .int .i64 r else .int .i64 d
def bxX (X : Nat → Nat) (F f H k : Nat) : Nat := if k / 2 < H then (if k % 2 = 0 then lft0 (X ((F + k / 2) * 2)) (X ((F + k / 2) * 2 + 1)) f else lft1 (X ((F + k / 2) * 2 + 1)) f) else 0
theorem grF_all (X : Nat → Nat) (W H r d : Int) : (arrF 208 (grF X W H r d)).all (·.oneCell') = true := arrF_all _ _ (fun k _ => by
  unfold grF uF
  split
  · rfl
  · split
    · rfl
    · split
      · rfl
      · split <;> rfl)
theorem bx_step (X : Nat → Nat) (F f y : Nat) (W H r d : Int) (hy : y < 102) (k : Nat) (hk : k < 208) :
    (fun k => if k = y * 2 + 1 then Value.int .u64 ((lft1 (X ((F + y) * 2 + 1)) f : Nat) : Int) else (fun k => if k = y * 2 then Value.int .u64 ((lft0 (X ((F + y) * 2)) (X ((F + y) * 2 + 1)) f : Nat) : Int) else grF (bxX X F f y) W H r d k) k) k = grF (bxX X F f (y + 1)) W H r d k := by
  dsimp only
  by_cases h1 : k = y * 2 + 1
  · subst h1
    rw [if_pos rfl]
    unfold grF uF bxX
    rw [if_pos (by omega), if_pos (by omega), if_neg (by omega), show (y * 2 + 1) / 2 = y by omega]
  · rw [if_neg h1]
    by_cases h2 : k = y * 2
    · subst h2
      rw [if_pos rfl]
      unfold grF uF bxX
      rw [if_pos (by omega), if_pos (by omega), if_pos (by omega), show (y * 2) / 2 = y by omega]
    · rw [if_neg h2]
      unfold grF
      by_cases h3 : k < 204
      · rw [if_pos h3, if_pos h3]
        unfold uF bxX
        by_cases h4 : k / 2 < y
        · have h5 : k / 2 < y + 1 := by omega
          rw [if_pos h4, if_pos h5]
        · have h5 : ¬ k / 2 < y + 1 := by omega
          rw [if_neg h4, if_neg h5]
      · rw [if_neg h3, if_neg h3]
theorem wpList_build_is {P : Program} {ops : Array Oper} {rest : List Oper} {o : Oper} {a : Act} {w : World} {Q : Exit → Act → World → Prop} (hg : o.guard = none) (t : TypeId) (parts : Array (Nat × Operand)) (ho : o.op = .build t parts)
    (cells : Array Value) (hf : P.built t (parts.map fun (i, x) => (i, a.eval x)).toList = some cells) (h : wpList P ops Q rest (a.put o.dst (.agg cells)) w) : wpList P ops Q (o :: rest) a w := by
  refine wpList_build hg t parts ho (by rw [hf]; rfl) ?_
  rw [hf]
  exact h
end Go.Proofs.Ytbkllhlapdmlfaa

namespace Go.Proofs.Ytbkllhlapdmlfaa
open Go.RowKit
set_option linter.unusedVariables false
theorem wrap_natP (n : Nat) (h : n ≤ 1000000) : IntKind.i64.wrap (n : Int) = (n : Int) := by simp [IntKind.wrap, IntKind.bits, IntKind.signed]; omega
end Go.Proofs.Ytbkllhlapdmlfaa

