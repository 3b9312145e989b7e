/-
  What the last text of this claim leans on, part 10: Sq5, Ss9.
-/
import Derived.Test.YtopcgkncmhhkmaaDoorZc5
import Derived.Test.YtopcgkncmhhkmaaDoorZc9
import Derived.Laws.Bits64b
import Derived.Lib.TrailingZeros
namespace Go.Proofs.YtopcgkncmhhkmaaDoor
open Go.RowKit
set_option linter.unusedVariables false
set_option linter.unusedSimpArgs false

/-- The library's table as it is laid. -/
def TzTab (w : World) : Prop := ∀ j, j < 64 → w.cell? ⟨2, j, none⟩ = some (.int .u8 (Lib.deBruijn64tab.getD j 0))
theorem tz_lt {w : World} (h : TzTab w) : 2 < w.heap.size := by
  rcases Nat.lt_or_ge 2 w.heap.size with k | k
  · exact k
  · have := h 0 (by omega); simp [World.cell?, Array.getElem?_eq_none k] at this
theorem TzTab.below {w w' : World} (h : TzTab w) (hb : Below w.heap.size w w') : TzTab w' := fun j hj => (World.cell?_of_block (w := w) (a := ⟨2, j, none⟩) (hb.block _ (tz_lt h))).trans (h j hj)
theorem tz_key' (x a : Nat) (hx : x < 18446744073709551616) (hx0 : x ≠ 0) (hlow : x &&& (18446744073709551616 - x) = a) :
    IntKind.u64.wrap (bits BinOp.and IntKind.u64 (x : Int) (IntKind.u64.wrap (-(x : Int))) * 285870213051353865) / 288230376151711744 = ((a * 285870213051353865 % 18446744073709551616 / 288230376151711744 : Nat) : Int) := by
  have e1 : IntKind.u64.wrap (-(x : Int)) = ((18446744073709551616 - x : Nat) : Int) := by rw [IntKind.wrap_u64]; omega
  rw [e1, bits_and_u64_nat x _ hx (by omega), hlow, IntKind.wrap_u64]
  omega
/-- The lowest bit, told by its number. -/
theorem ctz_low {x : Nat} (h0 : 0 < x) (h : x < 2 ^ 64) : x.testBit (Lib.ctz 64 x) = true ∧ ∀ j, j < Lib.ctz 64 x → x.testBit j = false := by
  obtain ⟨m, hm, _⟩ := Lib.ctzFrom_spec 64 x h0 h
  have hc : Lib.ctz 64 x = Lib.ctzFrom 64 x := by unfold Lib.ctz; rw [if_neg (by omega)]
  rw [hc]
  obtain ⟨k, hk⟩ : ∃ k, Lib.ctzFrom 64 x = k := ⟨_, rfl⟩
  rw [hk] at hm ⊢
  have e : x = 2 ^ k * (2 * m + 1) + 0 := by omega
  have hp : 0 < 2 ^ k := Nat.pow_pos (by omega)
  refine ⟨by rw [e, Nat.testBit_two_pow_mul_add _ hp]; simp, fun j hj => by rw [e, Nat.testBit_two_pow_mul_add _ hp, if_pos hj]; simp⟩

set_option maxRecDepth 100000 in
set_option maxHeartbeats 6400000 in
theorem tz64_any (x : Nat) (w : World) (hx0 : 0 < x) (hx : x < 18446744073709551616) (hT : TzTab w) :
    Calls Tryd.prog 48 #[.int .u64 (x : Int)] w fun e w' => e = .returned (.int .i64 ((Lib.ctz 64 x : Nat) : Int)) ∧ w' = w := by
  obtain ⟨hlow, hk⟩ := Lib.lowest_bit 64 x (by omega) hx
  obtain ⟨hi, htab⟩ := Lib.deBruijn64_at _ hk
  have hcell := hT _ hi
  rw [htab] at hcell
  have key := tz_key' x _ hx (by omega) hlow
  have xz : ((x : Int) == 0) = false := by rw [beq_eq_false_iff_ne]; omega
  obtain ⟨idx, hidx⟩ : ∃ idx, 2 ^ Lib.ctz 64 x * 285870213051353865 % 18446744073709551616 / 288230376151711744 = idx := ⟨_, rfl⟩
  rw [hidx] at hi hcell key
  obtain ⟨k, hkk⟩ : ∃ k, Lib.ctz 64 x = k := ⟨_, rfl⟩
  rw [hkk] at hcell hk ⊢
  clear hlow htab hidx hkk
  go_enter Tryd.func48, Tryd.ntmps48
  go_wp2_with (simp only [key])
  go_ret
  exact ⟨rfl, rfl⟩

set_option maxRecDepth 100000 in
set_option maxHeartbeats 6400000 in
theorem tz_any (x : Nat) (w : World) (hx0 : 0 < x) (hx : x < 18446744073709551616) (hT : TzTab w) :
    Calls Tryd.prog 41 #[.int .u64 (x : Int)] w fun e w' => e = .returned (.int .i64 ((Lib.ctz 64 x : Nat) : Int)) ∧ w' = w := by
  have C := hide' (tz64_any x w hx0 hx hT)
  go_enter Tryd.func41, Tryd.ntmps41
  go_wp2_with fail
  refine (show Calls Tryd.prog _ _ _ _ from C.out).mono ?_
  rintro e w' ⟨rfl, rfl⟩
  go_wp2
  go_ret
  exact ⟨rfl, rfl⟩

end Go.Proofs.YtopcgkncmhhkmaaDoor

namespace Go.Proofs.YtopcgkncmhhkmaaDoor
open Go.RowKit
set_option linter.unusedVariables false
set_option linter.unusedSimpArgs false
set_option maxRecDepth 100000 in
set_option maxHeartbeats 1600000 in
theorem meet_any (d r : Int) (cor : Bool) (w : World) (h1 : -100 ≤ d) (h2 : d ≤ 100) (h3 : -100 ≤ r) (h4 : r ≤ 100) : Calls Tryd.prog 30 #[.int .i64 d, .int .i64 r, .bool cor] w fun e w' => e = .returned (.bool (mtI d r cor)) ∧ w' = w := by
  have sq : ∀ x : Int, -100 ≤ x → x ≤ 100 → 0 ≤ x * x ∧ x * x ≤ 10000 := fun x a b => by
    refine ⟨sq_pos x, ?_⟩
    rcases Int.le_total 0 x with h | h
    · exact Int.le_trans (Int.mul_le_mul b b h (by omega)) (by decide)
    · have := Int.mul_le_mul (show -x ≤ 100 by omega) (show -x ≤ 100 by omega) (by omega) (by omega)
      rw [Int.neg_mul_neg] at this
      omega
  have a1 := sq d h1 h2
  have a2 := sq r h3 h4
  have E := hide' (show mtI d r cor = (decide (d * d + r * r = 1) || (cor && decide (d * d + r * r = 2))) from rfl)
  obtain ⟨p, hp⟩ : ∃ p, d * d = p := ⟨_, rfl⟩
  obtain ⟨q, hq⟩ : ∃ p, r * r = p := ⟨_, rfl⟩
  rw [hp] at a1 E
  rw [hq] at a2 E
  have l1 : wrap64 p = p := by unfold wrap64; omega
  have l2 : wrap64 q = q := by unfold wrap64; omega
  obtain ⟨s, hs⟩ : ∃ s, p + q = s := ⟨_, rfl⟩
  have l3 : wrap64 s = s := by unfold wrap64; omega
  rw [hs] at E
  by_cases e1 : s = 1
  · rw [decide_eq_true e1, Bool.true_or] at E
    subst e1
    go_enter Tryd.func30, Tryd.ntmps30
    go_wp2
    go_ret
    exact ⟨by rw [E.out]; rfl, rfl⟩
  · rw [decide_eq_false e1, Bool.false_or] at E
    have b1 : (s == 1) = false := by simp; exact e1
    cases cor with
    | false =>
      rw [Bool.false_and] at E
      go_enter Tryd.func30, Tryd.ntmps30
      go_wp2
      go_ret
      exact ⟨by rw [E.out]; rfl, rfl⟩
    | true =>
      rw [Bool.true_and] at E
      by_cases e2 : s = 2
      · rw [decide_eq_true e2] at E
        subst e2
        go_enter Tryd.func30, Tryd.ntmps30
        go_wp2
        go_ret
        exact ⟨by rw [E.out]; rfl, rfl⟩
      · rw [decide_eq_false e2] at E
        have b2 : (s == 2) = false := by simp; exact e2
        go_enter Tryd.func30, Tryd.ntmps30
        go_wp2
        go_ret
        exact ⟨by rw [E.out]; rfl, rfl⟩
end Go.Proofs.YtopcgkncmhhkmaaDoor

