/-
  What the last text of this claim leans on, part 9: Gb6, Gr5, Gr6, Wb1, Qa1, Pa7, Pa8, Jumps, Pa9, Pa10.
-/
import Derived.Test.YtdkomlgkkepioaaDoorJw8
import Derived.Test.YtdkomlgkkepioaaDoorJw7
import Derived.Test.YtdkomlgkkepioaaDoorJw2
import Derived.Test.YtdkomlgkkepioaaDoorJw1
import Derived.Scope
import Derived.WalkMore
namespace Go.Proofs.YtdkomlgkkepioaaDoor
open Go.RowKit
set_option linter.unusedVariables false
open Ieee
/-- The whole number that a sign and a magnitude at a place stand for. -/
def IsV (s : Bool) (m : Nat) (e : Int) (n : Int) : Prop := e ≤ 0 ∧ (if s then -(m : Int) else (m : Int)) = n * 2 ^ (-e).toNat
def IsI (b : Nat) (n : Int) : Prop := ∃ s m e, double.read b = .number s m e ∧ IsV s m e n
theorem IsV.mag {s : Bool} {m : Nat} {e n : Int} (h : IsV s m e n) : m = n.natAbs * 2 ^ (-e).toNat := by
  have h2 := congrArg Int.natAbs h.2
  rw [Int.natAbs_mul, Int.natAbs_pow] at h2
  cases s <;> simp at h2 <;> exact h2
theorem cut_zero (s : Bool) (x : Nat) : Toward.even.cut s x 0 = x := by simp [Toward.cut]; omega
theorem cut_exact (s : Bool) (x d : Nat) (hd : d ≤ (x * 2 ^ d).log2) : Toward.even.cut s (x * 2 ^ d) d = x := by
  have hg : min d ((x * 2 ^ d).log2 + 2) = d := by omega
  have hp : 0 < 2 ^ d := Nat.pos_of_ne_zero (by simp)
  have e1 : x * 2 ^ d / 2 ^ d = x := Nat.mul_div_cancel _ hp
  have e2 : x * 2 ^ d % 2 ^ d = 0 := Nat.mul_mod_left _ _
  unfold Toward.cut
  simp only [hg, Nat.shiftLeft_eq, Nat.one_mul, e1, e2]
  have : ¬ (2 ^ d < 2 * 0) := by omega
  have h3 : (2 ^ d == 2 * 0) = false := by simp
  simp [h3]
theorem log2_mul (x d : Nat) (hx : x ≠ 0) : (x * 2 ^ d).log2 = x.log2 + d := by
  have h1 := Nat.log2_self_le hx
  have h2 := @Nat.lt_log2_self x
  rw [Nat.log2_eq_iff (by
    have : 0 < 2 ^ d := Nat.pos_of_ne_zero (by simp)
    have : 0 < x * 2 ^ d := Nat.mul_pos (by omega) this
    omega)]
  constructor
  · rw [Nat.pow_add]; exact Nat.mul_le_mul_right _ h1
  · rw [show x.log2 + d + 1 = (x.log2 + 1) + d by omega, Nat.pow_add]
    exact Nat.mul_lt_mul_of_pos_right h2 (Nat.pos_of_ne_zero (by simp))
theorem read_word (s : Bool) (E k : Nat) (hE : E ≤ 52) (h1 : 4503599627370496 ≤ k) (h2 : k < 9007199254740992) : double.read (double.word s (min ((1074 - E) * 4503599627370496 + k) double.infRung)) = .number s k (-(E : Int)) := by
  have hi : double.infRung = 9218868437227405312 := by decide
  have hb : double.binade = 4503599627370496 := by decide
  have hs : double.signWeight = 9223372036854775808 := by decide
  have hl : double.leastPlace = -1074 := by decide
  obtain ⟨r, hr⟩ : ∃ r, (1074 - E) * 4503599627370496 + k = r := ⟨_, rfl⟩
  have r1 : 4503599627370496 ≤ r := by omega
  have r2 : r < 9218868437227405312 := by omega
  have r3 : r / 4503599627370496 = 1075 - E := by omega
  have r4 : r % 4503599627370496 = k - 4503599627370496 := by omega
  rw [hr, hi, Nat.min_eq_left (by omega)]
  unfold Format.read Format.word
  rw [hs, hb, hi, hl]
  cases s
  · simp only [Bool.false_eq_true, if_false]
    rw [Nat.mod_eq_of_lt (show r < 9223372036854775808 by omega), Nat.div_eq_of_lt (show r < 9223372036854775808 by omega)]
    simp only [show ¬ r < 4503599627370496 by omega, if_false, r2, if_true, r3, r4]
    rw [show 4503599627370496 + (k - 4503599627370496) = k by omega, show (-1074 : Int) + ((1075 - E - 1 : Nat) : Int) = -(E : Int) by omega]
    rfl
  · simp only [if_true]
    rw [show (9223372036854775808 + r) % 9223372036854775808 = r by omega, show (9223372036854775808 + r) / 9223372036854775808 = 1 by omega]
    simp only [show ¬ r < 4503599627370496 by omega, if_false, r2, if_true, r3, r4]
    rw [show 4503599627370496 + (k - 4503599627370496) = k by omega, show (-1074 : Int) + ((1075 - E - 1 : Nat) : Int) = -(E : Int) by omega]
    rfl
theorem read_zero (s : Bool) : double.read (double.word s 0) = .number s 0 (-1074) := by cases s <;> decide
theorem near_int {s : Bool} {m : Nat} {e n : Int} (h : IsV s m e n) (hn : n.natAbs < 9007199254740992) : IsI (double.nearest s m e) n := by
  have hm := h.mag
  have he := h.1
  obtain ⟨D, hD⟩ : ∃ D, (-e).toNat = D := ⟨_, rfl⟩
  rw [hD] at hm
  have eD : e = -(D : Int) := by omega
  by_cases z : n = 0
  · subst z
    have m0 : m = 0 := by simpa using hm
    refine ⟨s, 0, -1074, ?_, by omega, by rw [Int.zero_mul]; cases s <;> rfl⟩
    unfold Format.nearest
    rw [if_pos m0]
    exact read_zero s
  · obtain ⟨a, ha⟩ : ∃ a, n.natAbs = a := ⟨_, rfl⟩
    rw [ha] at hm hn
    have a0 : a ≠ 0 := by omega
    have L := @Nat.lt_log2_self a
    have L1 := Nat.log2_self_le a0
    have Ll : a.log2 ≤ 52 := by
      rcases Nat.lt_or_ge 52 a.log2 with q | q
      · have := Nat.pow_le_pow_right (show 0 < 2 by omega) (show 53 ≤ a.log2 by omega)
        omega
      · exact q
    obtain ⟨E, hE⟩ : ∃ E, 52 - a.log2 = E := ⟨_, rfl⟩
    have k1 : 4503599627370496 ≤ a * 2 ^ E := by
      have := Nat.mul_le_mul_right (2 ^ E) L1
      rw [← Nat.pow_add, show a.log2 + E = 52 by omega] at this
      exact this
    have k2 : a * 2 ^ E < 9007199254740992 := by
      have := Nat.mul_lt_mul_of_pos_right L (show 0 < 2 ^ E from Nat.pos_of_ne_zero (by simp))
      rw [← Nat.pow_add, show a.log2 + 1 + E = 53 by omega] at this
      exact this
    have m0 : m ≠ 0 := by
      rw [hm]
      have : 0 < a * 2 ^ D := Nat.mul_pos (by omega) (Nat.pos_of_ne_zero (by simp))
      omega
    have ml : m.log2 = a.log2 + D := by rw [hm]; exact log2_mul a D a0
    refine ⟨s, a * 2 ^ E, -(E : Int), ?_, by omega, ?_⟩
    · unfold Format.nearest
      rw [if_neg m0]
      have la : max (e + (m.log2 : Int) - (double.fractionBits : Int)) double.leastPlace = -(E : Int) := by
        rw [ml, show double.leastPlace = -1074 by decide, show (double.fractionBits : Int) = 52 by decide]
        push_cast
        omega
      simp only [la]
      have kp : Toward.even.cut s (m <<< (e - -(E : Int)).toNat) (-(E : Int) - e).toNat = a * 2 ^ E := by
        rw [show (e - -(E : Int)).toNat = E - D by omega, show (-(E : Int) - e).toNat = D - E by omega, Nat.shiftLeft_eq, hm]
        rcases Nat.le_total D E with q | q
        · rw [show D - E = 0 by omega, cut_zero, Nat.mul_assoc, ← Nat.pow_add, show D + (E - D) = E by omega]
        · rw [show E - D = 0 by omega, Nat.pow_zero, Nat.mul_one, show a * 2 ^ D = (a * 2 ^ E) * 2 ^ (D - E) by rw [Nat.mul_assoc, ← Nat.pow_add, show E + (D - E) = D by omega]]
          refine cut_exact s _ _ ?_
          rw [Nat.mul_assoc, ← Nat.pow_add, log2_mul a _ a0]
          omega
      rw [kp, show (-(E : Int) - double.leastPlace).toNat = 1074 - E by rw [show double.leastPlace = -1074 by decide]; omega, show double.binade = 4503599627370496 by decide]
      exact read_word s E _ (by omega) k1 k2
    · have h2 := h.2
      rw [show (- -(E : Int)).toNat = E by omega]
      rw [hD] at h2
      have sg : n = if s then -(a : Int) else (a : Int) := by
        have pd : (0 : Int) < 2 ^ D := Int.pow_pos (by omega)
        cases s
        · simp only [Bool.false_eq_true, if_false] at h2 ⊢
          have : 0 ≤ n := by
            rcases Int.lt_or_le n 0 with q | q
            · have := Int.mul_neg_of_neg_of_pos q pd; omega
            · exact q
          omega
        · simp only [if_true] at h2 ⊢
          have : n ≤ 0 := by
            rcases Int.lt_or_le 0 n with q | q
            · have := Int.mul_pos q pd; omega
            · exact q
          omega
      rw [sg]
      cases s <;> simp [Int.neg_mul]
theorem signed_eq (s : Bool) (m u : Nat) : signed s m u = (if s then -(m : Int) else (m : Int)) * 2 ^ u := by
  unfold signed
  cases s
  · simp [Nat.shiftLeft_eq]
  · simp [Nat.shiftLeft_eq, Int.neg_mul]
theorem IsV.scaled {s : Bool} {m : Nat} {e n : Int} (h : IsV s m e n) {base : Int} (hb : base ≤ e) : signed s m (e - base).toNat = n * 2 ^ (-base).toNat := by
  rw [signed_eq, h.2, Int.mul_assoc, ← Int.pow_add, show (-e).toNat + (e - base).toNat = (-base).toNat by have := h.1; omega]
theorem IsV.of_total {t : Int} {base n : Int} {q : Bool} (hb : base ≤ 0) (ht : t = n * 2 ^ (-base).toNat) : IsV (if t = 0 then q else decide (t < 0)) t.natAbs base n := by
  refine ⟨hb, ?_⟩
  rw [← ht]
  by_cases z : t = 0
  · subst z; simp
  · rw [if_neg z]
    by_cases p : t < 0
    · simp only [p, decide_true, if_true]; omega
    · simp only [p, decide_false, Bool.false_eq_true, if_false]; omega
theorem IsV.neg {s : Bool} {m : Nat} {e n : Int} (h : IsV s m e n) : IsV (!s) m e (-n) := by
  refine ⟨h.1, ?_⟩
  have := h.2
  rw [Int.neg_mul, ← this]
  cases s <;> simp
theorem IsV.mul {s t : Bool} {m k : Nat} {e i n p : Int} (h : IsV s m e n) (g : IsV t k i p) : IsV (s ^^ t) (m * k) (e + i) (n * p) := by
  refine ⟨by have := h.1; have := g.1; omega, ?_⟩
  rw [show (-(e + i)).toNat = (-e).toNat + (-i).toNat by have := h.1; have := g.1; omega, Int.pow_add, show n * p * (2 ^ (-e).toNat * 2 ^ (-i).toNat) = (n * 2 ^ (-e).toNat) * (p * 2 ^ (-i).toNat) by ac_rfl, ← h.2, ← g.2]
  cases s <;> cases t <;> simp [Int.neg_mul, Int.mul_neg]
theorem sum_int {s t : Bool} {m k : Nat} {e i n p : Int} (h : IsV s m e n) (g : IsV t k i p) : ∃ q r b, (Datum.number s m e).sum (.number t k i) = some (.number q r b) ∧ IsV q r b (n + p) := by
  refine ⟨_, _, _, rfl, IsV.of_total (by have := h.1; have := g.1; omega) ?_⟩
  rw [h.scaled (by omega), g.scaled (by omega), Int.add_mul]
theorem IsI_add {x y : Nat} {n p : Int} (h : IsI x n) (g : IsI y p) (hn : (n + p).natAbs < 9007199254740992) : ∃ r, floatBits .add .f64 x y = some r ∧ IsI r (n + p) := by
  obtain ⟨s, m, e, h1, h2⟩ := h
  obtain ⟨t, k, i, g1, g2⟩ := g
  obtain ⟨q, r, b, e1, e2⟩ := sum_int h2 g2
  refine ⟨double.nearest q r b, ?_, near_int e2 hn⟩
  show double.add x y = _
  unfold Format.add
  rw [h1, g1, e1]
  rfl
theorem IsI_sub {x y : Nat} {n p : Int} (h : IsI x n) (g : IsI y p) (hn : (n - p).natAbs < 9007199254740992) : ∃ r, floatBits .sub .f64 x y = some r ∧ IsI r (n - p) := by
  obtain ⟨s, m, e, h1, h2⟩ := h
  obtain ⟨t, k, i, g1, g2⟩ := g
  obtain ⟨q, r, b, e1, e2⟩ := sum_int h2 g2.neg
  rw [← Int.sub_eq_add_neg] at e2
  refine ⟨double.nearest q r b, ?_, near_int e2 hn⟩
  show double.sub x y = _
  unfold Format.sub
  rw [h1, g1]
  show Option.map _ ((Datum.number s m e).sum (.number (!t) k i)) = _
  rw [e1]
  rfl
theorem IsI_mul {x y : Nat} {n p : Int} (h : IsI x n) (g : IsI y p) (hn : (n * p).natAbs < 9007199254740992) : ∃ r, floatBits .mul .f64 x y = some r ∧ IsI r (n * p) := by
  obtain ⟨s, m, e, h1, h2⟩ := h
  obtain ⟨t, k, i, g1, g2⟩ := g
  refine ⟨double.nearest (s ^^ t) (m * k) (e + i), ?_, near_int (h2.mul g2) hn⟩
  show double.mul x y = _
  unfold Format.mul
  rw [h1, g1]
  rfl
theorem IsI_of (n : Int) (hn : n.natAbs < 9007199254740992) : IsI (floatOfInt .f64 n) n := by
  have : IsV (decide (n < 0)) n.natAbs 0 n := by
    refine ⟨Int.le_refl _, ?_⟩
    rw [show n * 2 ^ (-(0 : Int)).toNat = n by simp]
    by_cases p : n < 0
    · simp only [p, decide_true, if_true]; omega
    · simp only [p, decide_false, Bool.false_eq_true, if_false]; omega
  exact near_int this hn
theorem IsI_toInt {x : Nat} {n : Int} (h : IsI x n) (hn : n.natAbs < 9007199254740992) : floatToIntVal .f64 x .i64 = some n := by
  obtain ⟨s, m, e, h1, h2⟩ := h
  have hm := h2.mag
  have h3 := h2.2
  have cz : Toward.zero.cut s (m <<< e.toNat) (-e).toNat = n.natAbs := by
    rw [show e.toNat = 0 by have := h2.1; omega, Nat.shiftLeft_zero]
    obtain ⟨D, hD⟩ : ∃ D, (-e).toNat = D := ⟨_, rfl⟩
    rw [hD] at hm ⊢
    by_cases z : n = 0
    · subst z
      have m0 : m = 0 := by simpa using hm
      subst m0
      simp [Toward.cut]
    · have a0 : n.natAbs ≠ 0 := by omega
      have ml : m.log2 = n.natAbs.log2 + D := by rw [hm]; exact log2_mul _ D a0
      have hp : 0 < 2 ^ D := Nat.pos_of_ne_zero (by simp)
      unfold Toward.cut
      simp only [show min D (m.log2 + 2) = D by omega, Nat.shiftLeft_eq, Nat.one_mul]
      rw [hm, Nat.mul_div_cancel _ hp]
      rfl
  have sg : signed s n.natAbs 0 = n := by
    rw [signed_eq, Int.pow_zero, Int.mul_one]
    have pd : (0 : Int) < 2 ^ (-e).toNat := Int.pow_pos (by omega)
    cases s
    · simp only [Bool.false_eq_true, if_false] at h3 ⊢
      have : 0 ≤ n := by
        rcases Int.lt_or_le n 0 with q | q
        · have := Int.mul_neg_of_neg_of_pos q pd; omega
        · exact q
      omega
    · simp only [if_true] at h3 ⊢
      have : n ≤ 0 := by
        rcases Int.lt_or_le 0 n with q | q
        · have := Int.mul_pos q pd; omega
        · exact q
      omega
  have ti : (FloatKind.f64.decode x).toInt .zero = some n := by
    show (double.read x).toInt .zero = _
    rw [h1]
    show some (signed s (Toward.zero.cut s (m <<< e.toNat) (-e).toNat) 0) = _
    rw [cz, sg]
  unfold floatToIntVal
  rw [ti]
  have hr : IntKind.i64.min ≤ n ∧ n ≤ IntKind.i64.max := by
    have a : IntKind.i64.min = -9223372036854775808 := by decide
    have b : IntKind.i64.max = 9223372036854775807 := by decide
    rw [a, b]; omega
  exact if_pos hr
end Go.Proofs.YtdkomlgkkepioaaDoor

namespace Go.Proofs.YtdkomlgkkepioaaDoor
open Go.RowKit
set_option linter.unusedVariables false
/-- What lies there while the rows are moved. -/
structure BX (w w4 wr : World) (p : Nat) (G : Nat → Value) : Prop where
  keep : ∀ k, k < w4.heap.size → k ≠ p → wr.heap[k]? = w4.heap[k]?
  out : wr.heap[p]? = some (.cells (arrF 208 G) 195 (0, 0))
  below : Below w.heap.size w wr
  size : w4.heap.size ≤ wr.heap.size
theorem BX.set {w w4 wr : World} {p : Nat} {G : Nat → Value} (h : BX w w4 wr p G) (hp : w.heap.size ≤ p) (i : Nat) (v : Value) : BX w w4 (wr.setCell ⟨p, i, none⟩ v) p (fun k => if k = i then v else G k) :=
  ⟨fun k hk hn => (Below.heap_setCell _ _ _ _ hn).trans (h.keep k hk hn), by rw [heap_setCell_same _ _ _ _ _ _ h.out, arrF_set], h.below.setCell hp _, by rw [World.size_setCell]; exact h.size⟩
end Go.Proofs.YtdkomlgkkepioaaDoor

namespace Go.Proofs.YtdkomlgkkepioaaDoor
open Go.RowKit
set_option linter.unusedVariables false
end Go.Proofs.YtdkomlgkkepioaaDoor

namespace Go.Proofs.YtdkomlgkkepioaaDoor
open Go.RowKit
set_option linter.unusedVariables false

/-- The pattern mirrored; turned by a quarter (as wide as it was high). -/
def mirP (W H : Nat) (xs : List Int) : List Int := (List.range (W * H)).map fun q => xs.getD (q / W * W + (W - 1 - q % W)) 0
def qtrP (W H : Nat) (xs : List Int) : List Int := (List.range (H * W)).map fun q => xs.getD ((H - 1 - q % H) * W + q / H) 0
/-- At block g a list of n ints of the call's own; what stands at f i, for i below k, is xs' i-th. -/
structure ScJ (w0 w : World) (g n k : Nat) (f : Nat → Nat) (xs : List Int) : Prop where
  below : Below w0.heap.size w0 w
  ge : w0.heap.size ≤ g
  lt : g < w.heap.size
  cells : ∀ j, j < n → ∃ v, w.cell? ⟨g, j, none⟩ = some v ∧ (∀ i, i < k → f i = j → v = .int .i64 (xs.getD i 0))
  fz : ∀ j, w.frozen? ⟨g, j, none⟩ = false
theorem ScJ.step {w0 w : World} {g n k : Nat} {f : Nat → Nat} {xs : List Int} (h : ScJ w0 w g n k f xs) (hk : f k < n) (hinj : ∀ i, i < k → f i ≠ f k) {x : Int} (hx : xs.getD k 0 = x) : ScJ w0 (w.setCell ⟨g, f k, none⟩ (.int .i64 x)) g n (k + 1) f xs := by
  refine ⟨h.below.setCell h.ge _, h.ge, by rw [World.size_setCell]; exact h.lt, fun j hj => ?_, fun j => by rw [World.frozen?_setCell]; exact h.fz j⟩
  by_cases e : j = f k
  · subst e
    obtain ⟨v, hv, -⟩ := h.cells _ hj
    refine ⟨_, World.cell?_setCell_same _ _ _ hv, fun i hi he => ?_⟩
    by_cases q : i = k
    · subst q; rw [hx]
    · exact absurd he (hinj i (by omega))
  · obtain ⟨v, hv, hv'⟩ := h.cells j hj
    refine ⟨v, ?_, fun i hi he => hv' i (by have : i ≠ k := fun q => e (by rw [← he, q]); omega) he⟩
    exact (World.cell?_setCell_other _ ⟨g, f k, none⟩ ⟨g, j, none⟩ _ (fun q => e (congrArg Addr.off q).symm)).trans hv
theorem ScJ.drewN {w0 w : World} {g n k : Nat} {f : Nat → Nat} {xs : List Int} (h : ScJ w0 w g n k f xs) (m : Nat) : ScJ w0 (w.drewN m) g n k f xs :=
  ⟨h.below.trans ⟨rfl, rfl, rfl, Nat.le_refl _, fun _ _ => rfl⟩, h.ge, h.lt, h.cells, h.fz⟩
theorem ScJ.start {w0 w : World} {g n : Nat} (f : Nat → Nat) (xs ys : List Int) (hb : Below w0.heap.size w0 w) (hg : w0.heap.size ≤ g) (hc : Cel w g ys) (hn : ys.length = n) : ScJ w0 w g n 0 f xs :=
  ⟨hb, hg, hc.lt, fun j hj => ⟨_, hc.cells j (by omega), fun i hi => by omega⟩, hc.fz⟩
theorem ScJ.cel {w0 w : World} {g n : Nat} {f fi : Nat → Nat} {xs : List Int} (h : ScJ w0 w g n n f xs) (h1 : ∀ j, j < n → fi j < n) (h2 : ∀ j, j < n → f (fi j) = j) : Cel w g ((List.range n).map fun j => xs.getD (fi j) 0) := by
  refine ⟨h.lt, fun k hk => ?_, h.fz⟩
  simp only [List.length_map, List.length_range] at hk
  obtain ⟨v, hv, hv'⟩ := h.cells k hk
  rw [hv, hv' (fi k) (h1 k hk) (h2 k hk)]
  simp [List.getD, hk]
end Go.Proofs.YtdkomlgkkepioaaDoor

namespace Go.Proofs.YtdkomlgkkepioaaDoor
open Go.RowKit
set_option linter.unusedVariables false

def hd2 (s : ByteArray) (i a b : Nat) : (Nat × Nat × Nat) ⊕ (Nat × Nat) := match wordF s [10] i with | .inr k => .inr (k, 2) | .inl k => .inl (a, b, k)
def hd1 (s : ByteArray) (i a : Nat) : (Nat × Nat × Nat) ⊕ (Nat × Nat) := match sideS s [44, 32, 121, 32, 61, 32] i with | .inr e => .inr e | .inl (h, j) => hd2 s j a h
def hd0 (s : ByteArray) (i : Nat) : (Nat × Nat × Nat) ⊕ (Nat × Nat) := match sideS s [120, 32, 61, 32] i with | .inr e => .inr e | .inl (a, j) => hd1 s j a
def wd (q : Nat) : ByteArray := if q = 0 then ⟨#[120, 32, 61, 32]⟩ else if q = 1 then ⟨#[44, 32, 121, 32, 61, 32]⟩ else ⟨#[10]⟩

structure SdW (w wr : World) (a b : Nat) : Prop where
  below : Below w.heap.size w wr
  size : w.heap.size + 2 ≤ wr.heap.size
  words : ∀ q, q < 3 → wr.cell? ⟨w.heap.size, q, none⟩ = some (.string (wd q))
  n0 : wr.cell? ⟨w.heap.size + 1, 0, none⟩ = some (.int .i64 (a : Int))
  n1 : wr.cell? ⟨w.heap.size + 1, 1, none⟩ = some (.int .i64 (b : Int))
  fz : ∀ k, wr.frozen? ⟨w.heap.size + 1, k, none⟩ = false
theorem SdW.drewN {w wr : World} {a b : Nat} (h : SdW w wr a b) (n : Nat) : SdW w (wr.drewN n) a b :=
  ⟨h.below.trans ⟨rfl, rfl, rfl, Nat.le_refl _, fun _ _ => rfl⟩, h.size, h.words, h.n0, h.n1, h.fz⟩
theorem SdW.start (w : World) (t1 t2 : TypeId) : SdW w ((w.alloc (.cells #[.string ⟨#[120, 32, 61, 32]⟩, .string ⟨#[44, 32, 121, 32, 61, 32]⟩, .string ⟨#[10]⟩] t1)).alloc (.cells #[.int .i64 0, .int .i64 0, .int .i64 0] t2)) 0 0 := by
  refine ⟨((Below.refl _ _).alloc (Nat.le_refl _) _).alloc (by simp) _, by simp, fun q hq => ?_, ?_, ?_, fun k => ?_⟩
  · rw [World.cell?_alloc_past _ _ _ (by simp), World.cell?_alloc_at _ _ _ _ rfl]
    match q, hq with
    | 0, _ => rfl
    | 1, _ => rfl
    | 2, _ => rfl
  · rw [World.cell?_alloc_at _ _ _ _ (by simp)]; rfl
  · rw [World.cell?_alloc_at _ _ _ _ (by simp)]; rfl
  · simp

end Go.Proofs.YtdkomlgkkepioaaDoor

namespace Go.Proofs.YtdkomlgkkepioaaDoor
open Go.RowKit
set_option linter.unusedVariables false

end Go.Proofs.YtdkomlgkkepioaaDoor

namespace Go.Proofs.YtdkomlgkkepioaaDoor
open Go.RowKit
set_option linter.unusedVariables false

end Go.Proofs.YtdkomlgkkepioaaDoor

namespace Go.Proofs.YtdkomlgkkepioaaDoor
open Go

end Go.Proofs.YtdkomlgkkepioaaDoor

namespace Go.Proofs.YtdkomlgkkepioaaDoor
open Go.RowKit
set_option linter.unusedVariables false

/-- The result's block. -/
structure ResB (R : Nat) (w : World) : Prop where
  c0 : w.cell? ⟨R, 0, none⟩ = some (.int .i64 0)
  c1 : w.cell? ⟨R, 1, none⟩ = some (.int .i64 0)
  c2 : w.cell? ⟨R, 2, none⟩ = some (.slice none 0 0)
  f0 : w.frozen? ⟨R, 0, none⟩ = false
  f1 : w.frozen? ⟨R, 1, none⟩ = false
  f2 : w.frozen? ⟨R, 2, none⟩ = false
theorem ResB.block {R : Nat} {w w' : World} (h : ResB R w) (e : w'.heap[R]? = w.heap[R]?) : ResB R w' :=
  ⟨(World.cell?_of_block (w := w) (a := ⟨R, 0, none⟩) e).trans h.c0, (World.cell?_of_block (w := w) (a := ⟨R, 1, none⟩) e).trans h.c1, (World.cell?_of_block (w := w) (a := ⟨R, 2, none⟩) e).trans h.c2,
   (World.frozen?_of_block (w := w) (a := ⟨R, 0, none⟩) e).trans h.f0, (World.frozen?_of_block (w := w) (a := ⟨R, 1, none⟩) e).trans h.f1, (World.frozen?_of_block (w := w) (a := ⟨R, 2, none⟩) e).trans h.f2⟩
def resW (w : World) : World := w.alloc (.cells #[.int .i64 0, .int .i64 0, .slice none 0 0] 26)
theorem resW_size (w : World) : (resW w).heap.size = w.heap.size + 1 := by simp [resW]
theorem ResB.below {w w' : World} {R : Nat} (h : ResB R w) (hR : R < w.heap.size) (hb : Below (R + 1) w w') : ResB R w' := h.block (hb.block R (by omega))

structure JCells (s : ByteArray) (w0 w' : World) (v : Rv) (W H g : Nat) (xs : List Int) : Prop where
  rat : RAt (w0.heap.size + 1) s v w'
  wd : v.wd = (W : Int)
  hi : v.hi = (H : Int)
  cs : v.cs = .slice (some ⟨g, 0, none⟩) (W * H) (W * H)
  cel : Cel w' g xs
  len : xs.length = W * H
  gb : w0.heap.size + 1 < g
  lw : W ≤ 100
  lh : H ≤ 100
  li : v.i ≤ s.size
  below : Below (w0.heap.size + 1) (resW w0) w'
theorem JCells.rd {s : ByteArray} {w0 w' w'' : World} {v v' : Rv} {W H g : Nat} {xs : List Int} (h : JCells s w0 w' v W H g xs) (ha : RAt (w0.heap.size + 1) s v' w'') (hr : Rd (w0.heap.size + 1) w' w'') (h1 : v'.wd = v.wd) (h2 : v'.hi = v.hi) (h3 : v'.cs = v.cs) (h4 : v'.i ≤ s.size) : JCells s w0 w'' v' W H g xs :=
  ⟨ha, h1.trans h.wd, h2.trans h.hi, h3.trans h.cs, h.cel.rd hr (by have := h.gb; omega), h.len, h.gb, h.lw, h.lh, h4, h.below.trans (hr.below (Nat.le_refl _) (by have := h.below.size; rw [resW_size] at this; omega))⟩

end Go.Proofs.YtdkomlgkkepioaaDoor

namespace Go.Proofs.YtdkomlgkkepioaaDoor
open Go.RowKit
set_option linter.unusedVariables false

theorem JCells.cells {s : ByteArray} {w0 w' w'' : World} {v v' : Rv} {W H g : Nat} {xs xs' : List Int} (h : JCells s w0 w' v W H g xs) (ha : RAt (w0.heap.size + 1) s v' w'') (hb : Below (w0.heap.size + 1) w' w'') (hC : Cel w'' g xs') (hl : xs'.length = xs.length) (h1 : v'.wd = v.wd) (h2 : v'.hi = v.hi) (h3 : v'.cs = v.cs) (h4 : v'.i ≤ s.size) : JCells s w0 w'' v' W H g xs' :=
  ⟨ha, h1.trans h.wd, h2.trans h.hi, h3.trans h.cs, hC, hl.trans h.len, h.gb, h.lw, h.lh, h4, h.below.trans hb⟩
end Go.Proofs.YtdkomlgkkepioaaDoor

