/-
  What the last text of this claim leans on, part 8: Cb3, Cb4.
-/
import Derived.Test.YtcfoeadfhkojeaaGreatDoorZm7
import Derived.Test.YtcfoeadfhkojeaaGreatDoorShelf
import Derived.Lib.ItoaNum
import Derived.Laws.BitsAllLaws
import Derived.BigQuiet
namespace Go.Proofs.YtcfoeadfhkojeaaGreatDoor
open Go.RowKit
set_option linter.unusedVariables false
theorem sh_or {h s l : Nat} (hl : l < 2 ^ s) : (h * 2 ^ s) ||| l = h * 2 ^ s + l := by
  rw [Nat.mul_comm]; exact (Nat.two_pow_add_eq_or_of_lt hl h).symm
theorem sh_lo {lo s : Nat} (hs : s ≤ 64) (hl : lo < 2 ^ 64) : lo / 2 ^ (64 - s) < 2 ^ s := by
  apply Nat.div_lt_of_lt_mul
  rw [← Nat.pow_add, show 64 - s + s = 64 by omega]; exact hl
theorem sh_split (lo : Nat) {s : Nat} (hs : s ≤ 64) : lo * 2 ^ s = lo / 2 ^ (64 - s) * 2 ^ 64 + (lo * 2 ^ s) % 2 ^ 64 := by
  have e : (2 : Nat) ^ 64 = 2 ^ (64 - s) * 2 ^ s := by rw [← Nat.pow_add, show 64 - s + s = 64 by omega]
  have h := Nat.div_add_mod (lo * 2 ^ s) (2 ^ 64)
  have q : lo * 2 ^ s / 2 ^ 64 = lo / 2 ^ (64 - s) := by rw [e]; exact Nat.mul_div_mul_right _ _ (Nat.pow_pos (by decide))
  rw [q, Nat.mul_comm] at h
  exact h.symm
theorem sh_num {hi lo s : Nat} (hs : s ≤ 64) : (hi * 2 ^ 64 + lo) * 2 ^ s = (hi * 2 ^ s + lo / 2 ^ (64 - s)) * 2 ^ 64 + (lo * 2 ^ s) % 2 ^ 64 := by
  rw [Nat.add_mul, Nat.add_mul, sh_split lo hs]
  rw [show hi * 2 ^ 64 * 2 ^ s = hi * 2 ^ s * 2 ^ 64 by rw [Nat.mul_assoc, Nat.mul_comm (2 ^ 64), ← Nat.mul_assoc]]
  have h := sh_split lo hs
  omega
theorem sh_two {u d1 d0 T : Nat} (h : T = d1 * 4294967296 + d0) : (u * 4294967296 + d1) * 4294967296 + d0 = u * 2 ^ 64 + T := by
  rw [h]; omega
theorem and_mask (x : Nat) (h : x < 18446744073709551616) : bits .and .u64 (x : Int) 4294967295 = ((x % 4294967296 : Nat) : Int) := by
  have := u64_and_nat x 4294967295 h (by decide)
  rw [show (4294967295 : Nat) = 2 ^ 32 - 1 from rfl, Nat.and_two_pow_sub_one_eq_mod] at this
  exact this
/-- Div64 where the high part is not 0. -/
theorem div64_big (hi lo y : Nat) (hh : 0 < hi) (hl : lo < 18446744073709551616) (hy : y < 18446744073709551616) (hhy : hi < y) (w : World) : Calls Tryz.prog 52 #[.int .u64 (hi : Int), .int .u64 (lo : Int), .int .u64 (y : Int)] w fun e w' => e = .returned (.tuple #[.int .u64 (((hi * 2 ^ 64 + lo) / y : Nat) : Int), .int .u64 (((hi * 2 ^ 64 + lo) % y : Nat) : Int)]) ∧ w' = w := by
  obtain ⟨b1, b2, b3⟩ := Lib.bitLenAux_bounds 64 y (by simpa using hy) (by omega)
  have LZ := Tryz.bits_LeadingZeros64 (y : Int) w (by omega) (by omega)
  rw [Int.toNat_natCast] at LZ
  have eb : Lib.bitLen y = Lib.bitLenAux 64 y := rfl
  rw [eb] at LZ
  revert LZ b1 b2 b3
  generalize Lib.bitLenAux 64 y = bl
  intro b1 b2 b3 LZ
  have bl64 : bl ≤ 64 := by
    rcases Nat.lt_or_ge 64 bl with k | k
    · have : 2 ^ 64 ≤ 2 ^ (bl - 1) := Nat.pow_le_pow_right (by decide) (by omega)
      have e64 : (2 : Nat) ^ 64 = 18446744073709551616 := by decide
      omega
    · exact k
  obtain ⟨s, hs⟩ : ∃ s, 64 - bl = s := ⟨_, rfl⟩
  rw [show (64 - (bl : Int)) = ((s : Nat) : Int) by omega] at LZ
  have s63 : s ≤ 63 := by omega
  have p64 : (2 : Nat) ^ 64 = 18446744073709551616 := by decide
  have p63 : (2 : Nat) ^ 63 = 9223372036854775808 := by decide
  have Yl : y * 2 ^ s < 18446744073709551616 := by
    have := Nat.mul_lt_mul_of_pos_right b3 (Nat.pow_pos (n := s) (by decide : 0 < 2))
    rw [← Nat.pow_add, show bl + s = 64 by omega, p64] at this
    exact this
  have Yh : 9223372036854775808 ≤ y * 2 ^ s := by
    have := Nat.mul_le_mul_right (2 ^ s) b2
    rw [← Nat.pow_add, show bl - 1 + s = 63 by omega, p63] at this
    exact this
  have Hl : hi * 2 ^ s + 2 ^ s ≤ y * 2 ^ s := by
    have := Nat.mul_le_mul_right (2 ^ s) (show hi + 1 ≤ y by omega)
    rw [Nat.add_mul, Nat.one_mul] at this
    exact this
  have L1l := sh_lo (lo := lo) (s := s) (by omega) (by rw [p64]; exact hl)
  have num := sh_num (hi := hi) (lo := lo) (s := s) (by omega)
  have orr := sh_or (h := hi) (s := s) (l := lo / 2 ^ (64 - s)) L1l
  obtain ⟨Y, hY⟩ : ∃ Y, y * 2 ^ s = Y := ⟨_, rfl⟩
  obtain ⟨H, hH⟩ : ∃ H, hi * 2 ^ s = H := ⟨_, rfl⟩
  obtain ⟨L1, hL1⟩ : ∃ L1, lo / 2 ^ (64 - s) = L1 := ⟨_, rfl⟩
  obtain ⟨T, hT⟩ : ∃ T, (lo * 2 ^ s) % 2 ^ 64 = T := ⟨_, rfl⟩
  rw [hY] at Yl Yh Hl
  rw [hH] at Hl num orr
  rw [hL1] at L1l num orr
  rw [hT] at num
  have Tl : T < 18446744073709551616 := by rw [← hT, p64]; exact Nat.mod_lt _ (by decide)
  have Hm : H + L1 < Y := by omega
  have core := div64_core hi lo y s Y (Y / 4294967296) (Y % 4294967296) H L1 (H + L1) T (T / 4294967296) (T % 4294967296) w LZ (by omega) (by omega) (by omega) s63
    (wrapU s (by omega)) (by omega) (by rw [← hY, Int.natCast_mul, Int.natCast_pow]; have := wrapU (y * 2 ^ s) (by omega); rw [Int.natCast_mul, Int.natCast_pow] at this; exact this) rfl (and_mask Y Yl)
    (by have := wrapU (hi * 2 ^ s) (by omega); rw [Int.natCast_mul, Int.natCast_pow, ← Int.natCast_pow] at this; rw [← hH, Int.natCast_mul]; simpa using this) (by rw [show (64 : Int) - (s : Int) = ((64 - s : Nat) : Int) by omega]; exact wrapU _ (by omega)) (by omega) (by rw [← hL1, Int.natCast_ediv, Int.natCast_pow]; rfl) (by rw [u64_or_nat H L1 (by omega) (by omega), orr])
    (by rw [← hT]; simp [IntKind.wrap, IntKind.bits, IntKind.signed]) rfl (and_mask T Tl)
    (show (Y : Int) = ((Y / 4294967296 * 4294967296 + Y % 4294967296 : Nat) : Int) by omega) (by omega) (by omega) (Nat.mod_lt _ (by decide)) (by omega) (Nat.mod_lt _ (by decide)) (show H + L1 < Y / 4294967296 * 4294967296 + Y % 4294967296 by omega)
  refine core.mono ?_
  rintro e w' ⟨q1, q0, D1, D0, rfl, rfl⟩
  have two := two_digits (N := hi * 2 ^ 64 + lo) (s := s) (y := y) (v1 := Y / 4294967296) (v0 := Y % 4294967296) (u := H + L1) (d1 := T / 4294967296) (d0 := T % 4294967296) (B := 4294967296) (q1 := q1) (q0 := q0) (by rw [hY]; omega) (by rw [num, sh_two (T := T) (by omega)]) D1 D0 (by omega)
  rw [two.1, two.2]
  exact ⟨rfl, rfl⟩
set_option maxRecDepth 100000 in
set_option maxHeartbeats 3200000 in
theorem div64_small (lo y : Nat) (hl : lo < 18446744073709551616) (hy : y < 18446744073709551616) (y0 : 0 < y) (w : World) : Calls Tryz.prog 52 #[.int .u64 0, .int .u64 (lo : Int), .int .u64 (y : Int)] w fun e w' => e = .returned (.tuple #[.int .u64 ((lo / y : Nat) : Int), .int .u64 ((lo % y : Nat) : Int)]) ∧ Below w.heap.size w w' := by
  have y1 : ¬ y = 0 := by omega
  have y2 : ((y : Int) == 0) = false := by simp; omega
  have y3 : ¬ (y : Int) ≤ 0 := by omega
  have yy : (y == 0) = false := by simp; omega
  have q1 := quoI lo y hl
  have q2 : IntKind.u64.wrap ((lo : Int) % (y : Int)) = ((lo % y : Nat) : Int) := by
    rw [show (lo : Int) % (y : Int) = ((lo % y : Nat) : Int) from rfl]
    exact wrapU _ (Nat.lt_of_le_of_lt (Nat.mod_le _ _) hl)
  obtain ⟨a, ha⟩ : ∃ a, lo / y = a := ⟨_, rfl⟩
  obtain ⟨b, hb⟩ : ∃ b, lo % y = b := ⟨_, rfl⟩
  rw [ha] at q1 ⊢
  rw [hb] at q2 ⊢
  have Q3 := hide' (show (lo : Int) % (y : Int) = (b : Int) by rw [← hb]; rfl)
  clear ha hb
  go_enter Tryz.func52, Tryz.ntmps52
  go_wp2
  go_quiet (fail)
  go_wp2
  go_ret2
  refine ⟨?_, ⟨rfl, rfl, rfl, Nat.le_refl _, fun _ _ => rfl⟩⟩
  show Ending.returned (.tuple #[.int .u64 (a : Int), .int .u64 ((lo : Int) % (y : Int))]) = _
  rw [Q3.out]
theorem div64_any (hi lo y : Nat) (hl : lo < 18446744073709551616) (hy : y < 18446744073709551616) (hhy : hi < y) (w : World) : Calls Tryz.prog 52 #[.int .u64 (hi : Int), .int .u64 (lo : Int), .int .u64 (y : Int)] w fun e w' => e = .returned (.tuple #[.int .u64 (((hi * 2 ^ 64 + lo) / y : Nat) : Int), .int .u64 (((hi * 2 ^ 64 + lo) % y : Nat) : Int)]) ∧ Below w.heap.size w w' := by
  rcases Nat.eq_zero_or_pos hi with rfl | h
  · rw [Nat.zero_mul, Nat.zero_add]; exact div64_small lo y hl hy (by omega) w
  · refine (div64_big hi lo y h hl hy hhy w).mono ?_
    rintro e w' ⟨rfl, rfl⟩
    exact ⟨rfl, Below.refl _ _⟩
set_option maxRecDepth 100000 in
theorem rem64_any (hi lo y : Nat) (hh : hi < 18446744073709551616) (hl : lo < 18446744073709551616) (hy : y < 18446744073709551616) (y0 : 0 < y) (w : World) : Calls Tryz.prog 51 #[.int .u64 (hi : Int), .int .u64 (lo : Int), .int .u64 (y : Int)] w fun e w' => e = .returned (.int .u64 (((hi * 2 ^ 64 + lo) % y : Nat) : Int)) ∧ Below w.heap.size w w' := by
  have hm := Nat.mod_lt hi y0
  have DV := hide' (div64_any (hi % y) lo y hl hy hm w)
  have E := hide' (show ((hi % y) * 2 ^ 64 + lo) % y = (hi * 2 ^ 64 + lo) % y by rw [Nat.add_mod, Nat.mod_mul_mod, ← Nat.add_mod])
  rw [E.out] at DV
  have y1 : ¬ y = 0 := by omega
  have yy : (y == 0) = false := by simp; omega
  have q2 : IntKind.u64.wrap ((hi : Int) % (y : Int)) = ((hi % y : Nat) : Int) := by
    rw [show (hi : Int) % (y : Int) = ((hi % y : Nat) : Int) from rfl]
    exact wrapU _ (by omega)
  obtain ⟨b, hb⟩ : ∃ b, hi % y = b := ⟨_, rfl⟩
  obtain ⟨r, hr⟩ : ∃ r, (hi * 2 ^ 64 + lo) % y = r := ⟨_, rfl⟩
  rw [hb] at q2 DV
  rw [hr] at DV ⊢
  have q3 : (hi : Int) % (y : Int) = (b : Int) := by rw [← hb]; rfl
  clear hb hr hm E
  go_enter Tryz.func51, Tryz.ntmps51
  go_wp2_with (go_at_call 52; refine DV.out.mono ?_; rintro e w2 ⟨rfl, b2⟩)
  go_ret
  exact ⟨rfl, b2⟩
end Go.Proofs.YtcfoeadfhkojeaaGreatDoor

namespace Go.Proofs.YtcfoeadfhkojeaaGreatDoor
open Go.RowKit
set_option linter.unusedVariables false
theorem mul_parts (x1 x0 y1 y0 a b c d : Nat) (ha : x1 * y1 = a) (hb : x1 * y0 = b) (hc : x0 * y1 = c) (hd : x0 * y0 = d) : (x1 * 4294967296 + x0) * (y1 * 4294967296 + y0) = a * 18446744073709551616 + (b + c) * 4294967296 + d := by
  rw [Nat.add_mul, Nat.mul_add, Nat.mul_add]
  rw [show x1 * 4294967296 * (y1 * 4294967296) = x1 * y1 * 18446744073709551616 by rw [Nat.mul_assoc, Nat.mul_comm y1, ← Nat.mul_assoc 4294967296, Nat.mul_comm _ y1, ← Nat.mul_assoc]]
  rw [show x1 * 4294967296 * y0 = x1 * y0 * 4294967296 by rw [Nat.mul_assoc, Nat.mul_comm 4294967296, ← Nat.mul_assoc]]
  rw [show x0 * (y1 * 4294967296) = x0 * y1 * 4294967296 by rw [← Nat.mul_assoc]]
  rw [ha, hb, hc, hd]; omega
set_option maxRecDepth 100000 in
set_option maxHeartbeats 3200000 in
theorem mul64_any (x y : Nat) (hx : x < 18446744073709551616) (hy : y < 18446744073709551616) (w : World) : Calls Tryz.prog 50 #[.int .u64 (x : Int), .int .u64 (y : Int)] w fun e w' => e = .returned (.tuple #[.int .u64 ((x * y / 18446744073709551616 : Nat) : Int), .int .u64 ((x * y % 18446744073709551616 : Nat) : Int)]) ∧ w' = w := by
  have m1 := and_mask x hx
  have m2 := and_mask y hy
  obtain ⟨x0, hx0⟩ : ∃ z, x % 4294967296 = z := ⟨_, rfl⟩
  obtain ⟨x1, hx1⟩ : ∃ z, x / 4294967296 = z := ⟨_, rfl⟩
  obtain ⟨y0, hy0⟩ : ∃ z, y % 4294967296 = z := ⟨_, rfl⟩
  obtain ⟨y1, hy1⟩ : ∃ z, y / 4294967296 = z := ⟨_, rfl⟩
  have d1 : (x : Int) / 4294967296 = (x1 : Int) := by omega
  have d2 : (y : Int) / 4294967296 = (y1 : Int) := by omega
  have lx0 : x0 ≤ 4294967295 := by omega
  have lx1 : x1 ≤ 4294967295 := by omega
  have ly0 : y0 ≤ 4294967295 := by omega
  have ly1 : y1 ≤ 4294967295 := by omega
  have ba : x1 * y1 ≤ 4294967295 * 4294967295 := Nat.mul_le_mul lx1 ly1
  have bb : x1 * y0 ≤ 4294967295 * 4294967295 := Nat.mul_le_mul lx1 ly0
  have bc : x0 * y1 ≤ 4294967295 * 4294967295 := Nat.mul_le_mul lx0 ly1
  have bd : x0 * y0 ≤ 4294967295 * 4294967295 := Nat.mul_le_mul lx0 ly0
  have na := natI x1 y1 (by omega)
  have nb := natI x1 y0 (by omega)
  have nc := natI x0 y1 (by omega)
  have nd := natI x0 y0 (by omega)
  have np := mul_parts x1 x0 y1 y0 _ _ _ _ rfl rfl rfl rfl
  rw [show x1 * 4294967296 + x0 = x by omega, show y1 * 4294967296 + y0 = y by omega] at np
  obtain ⟨a, ha⟩ : ∃ z, x1 * y1 = z := ⟨_, rfl⟩
  obtain ⟨b, hb⟩ : ∃ z, x1 * y0 = z := ⟨_, rfl⟩
  obtain ⟨c, hc⟩ : ∃ z, x0 * y1 = z := ⟨_, rfl⟩
  obtain ⟨d, hd⟩ : ∃ z, x0 * y0 = z := ⟨_, rfl⟩
  rw [ha] at ba na np
  rw [hb] at bb nb np
  rw [hc] at bc nc np
  rw [hd] at bd nd np
  rw [hx0] at m1
  rw [hy0] at m2
  obtain ⟨d', hd'⟩ : ∃ z, d / 4294967296 = z := ⟨_, rfl⟩
  have d3 : (d : Int) / 4294967296 = (d' : Int) := by omega
  have n5 := addI b d' (by omega)
  obtain ⟨t, ht⟩ : ∃ z, b + d' = z := ⟨_, rfl⟩
  rw [ht] at n5
  have m3 := and_mask t (by omega)
  obtain ⟨t0, ht0⟩ : ∃ z, t % 4294967296 = z := ⟨_, rfl⟩
  obtain ⟨t1, ht1⟩ : ∃ z, t / 4294967296 = z := ⟨_, rfl⟩
  rw [ht0] at m3
  have d4 : (t : Int) / 4294967296 = (t1 : Int) := by omega
  have n6 := addI t0 c (by omega)
  obtain ⟨u, hu⟩ : ∃ z, t0 + c = z := ⟨_, rfl⟩
  rw [hu] at n6
  obtain ⟨u1, hu1⟩ : ∃ z, u / 4294967296 = z := ⟨_, rfl⟩
  have d5 : (u : Int) / 4294967296 = (u1 : Int) := by omega
  have n7 := addI a t1 (by omega)
  obtain ⟨v, hv⟩ : ∃ z, a + t1 = z := ⟨_, rfl⟩
  rw [hv] at n7
  have n8 := addI v u1 (by omega)
  obtain ⟨h, hh⟩ : ∃ z, v + u1 = z := ⟨_, rfl⟩
  rw [hh] at n8
  have E1 := hide' (show x * y / 18446744073709551616 = h by rw [np]; omega)
  have n9 : IntKind.u64.wrap ((x : Int) * (y : Int)) = ((x * y % 18446744073709551616 : Nat) : Int) := by rw [← Int.natCast_mul]; simp [IntKind.wrap, IntKind.bits, IntKind.signed]
  obtain ⟨l, hl⟩ : ∃ z, x * y % 18446744073709551616 = z := ⟨_, rfl⟩
  rw [hl] at n9 ⊢
  rw [E1.out]
  clear hl hh hv hu1 hu ht1 ht0 ht hd' ha hb hc hd hx0 hx1 hy0 hy1 np ba bb bc bd lx0 lx1 ly0 ly1 E1
  go_enter Tryz.func50, Tryz.ntmps50
  go_wp2
  go_ret2
  exact ⟨rfl, rfl⟩
/-- A fraction: what is above, what is below. -/
abbrev FraT := Int × Int
/-- May n times a fraction be whole? -/
def fitsF (n : Nat) (u l : Nat) : Bool := n * u % l == 0
theorem mul_split (n u : Nat) : n * u / 18446744073709551616 * 2 ^ 64 + n * u % 18446744073709551616 = n * u := by rw [show (2 : Nat) ^ 64 = 18446744073709551616 by decide]; omega
set_option maxRecDepth 100000 in
set_option maxHeartbeats 3200000 in
theorem fits_anyC (n u l : Nat) (hn : n < 9223372036854775808) (hu : u < 9223372036854775808) (hl : l < 9223372036854775808) (l0 : 0 < l) (w : World) : Calls Tryz.prog 39 #[.int .i64 (n : Int), .agg #[.int .i64 (u : Int), .int .i64 (l : Int)]] w fun e w' => e = .returned (.bool (fitsF n u l)) ∧ Below w.heap.size w w' := by
  obtain ⟨w1, hw1⟩ : ∃ w1, w.alloc (.cells #[.int .i64 (u : Int), .int .i64 (l : Int)] 69) = w1 := ⟨_, rfl⟩
  have B1 := hide' (show Below w.heap.size w w1 by rw [← hw1]; exact (Below.refl _ _).alloc (Nat.le_refl _) _)
  have r1 := hide' (show w1.heap[w.heap.size]? = some (.cells #[.int .i64 (u : Int), .int .i64 (l : Int)] 69 (0, 0)) by rw [← hw1]; exact heap_alloc_new _ _)
  have MU := hide' (mul64_any n u (by omega) (by omega) w1)
  have hi : n * u / 18446744073709551616 < 18446744073709551616 := by
    have := Nat.mul_le_mul (Nat.le_of_lt hn) (Nat.le_of_lt hu)
    omega
  have RE := hide' (rem64_any (n * u / 18446744073709551616) (n * u % 18446744073709551616) l hi (Nat.mod_lt _ (by decide)) (by omega) l0 w1)
  rw [mul_split] at RE
  obtain ⟨h, hh⟩ : ∃ h, n * u / 18446744073709551616 = h := ⟨_, rfl⟩
  obtain ⟨lo, hlo⟩ : ∃ h, n * u % 18446744073709551616 = h := ⟨_, rfl⟩
  obtain ⟨r, hr⟩ : ∃ h, n * u % l = h := ⟨_, rfl⟩
  rw [hh, hlo] at MU RE
  rw [hr] at RE
  have F := hide' (show fitsF n u l = ((r : Int) == 0) by unfold fitsF; rw [hr, Bool.eq_iff_iff]; simp only [beq_iff_eq]; omega)
  have c0 := cell_of_row w1 _ 0 _ _ _ r1.out
  have c1 := cell_of_row w1 _ 1 _ _ _ r1.out
  simp at c0 c1
  have wn := wrapU n (by omega)
  have wu := wrapU u (by omega)
  have wl := wrapU l (by omega)
  clear hh hlo hr hi
  go_enter Tryz.func39, Tryz.ntmps39
  go_upto_region 1 with fail
  try rw [hw1]
  clear hw1
  go_wp2_with (first
    | (go_at_call 50; refine MU.out.mono ?_; rintro e w2 ⟨rfl, h2⟩; subst h2)
    | (go_at_call 51; refine RE.out.mono ?_; rintro e w3 ⟨rfl, b3⟩))
  go_ret
  rw [F.out]
  exact ⟨rfl, B1.out.trans (b3.mono B1.out.size)⟩
set_option maxRecDepth 100000 in
set_option maxHeartbeats 3200000 in
theorem times_full (n u l : Nat) (hn : n < 9223372036854775808) (hu : u < 9223372036854775808) (hl : l < 9223372036854775808) (l0 : 0 < l) (w : World) (hf : 4611686018427387904 < n * u / l) : Calls Tryz.prog 40 #[.int .i64 (n : Int), .agg #[.int .i64 (u : Int), .int .i64 (l : Int)]] w fun e w' => e = .returned (.tuple #[.int .i64 0, .iface 73 (.int .i64 4)]) ∧ Below w.heap.size w w' := by
  obtain ⟨w1, hw1⟩ : ∃ w1, w.alloc (.cells #[.int .i64 (u : Int), .int .i64 (l : Int)] 69) = w1 := ⟨_, rfl⟩
  have B1 := hide' (show Below w.heap.size w w1 by rw [← hw1]; exact (Below.refl _ _).alloc (Nat.le_refl _) _)
  have r1 := hide' (show w1.heap[w.heap.size]? = some (.cells #[.int .i64 (u : Int), .int .i64 (l : Int)] 69 (0, 0)) by rw [← hw1]; exact heap_alloc_new _ _)
  have MU := hide' (mul64_any n u (by omega) (by omega) w1)
  have c0 := cell_of_row w1 _ 0 _ _ _ r1.out
  have c1 := cell_of_row w1 _ 1 _ _ _ r1.out
  simp at c0 c1
  have wn := wrapU n (by omega)
  have wu := wrapU u (by omega)
  have wl := wrapU l (by omega)
  by_cases hh : l ≤ n * u / 18446744073709551616
  · obtain ⟨h, hh'⟩ : ∃ h, n * u / 18446744073709551616 = h := ⟨_, rfl⟩
    obtain ⟨lo, hlo⟩ : ∃ h, n * u % 18446744073709551616 = h := ⟨_, rfl⟩
    rw [hh', hlo] at MU
    have g1 : (l : Int) ≤ (h : Int) := by omega
    clear hh hh' hlo hf
    go_enter Tryz.func40, Tryz.ntmps40
    go_upto_region 1 with fail
    try rw [hw1]
    clear hw1
    go_wp2_with (go_at_call 50; refine MU.out.mono ?_; rintro e w2 ⟨rfl, h2⟩; subst h2)
    go_ret2
    exact ⟨rfl, B1.out⟩
  · have DV := hide' (div64_any (n * u / 18446744073709551616) (n * u % 18446744073709551616) l (Nat.mod_lt _ (by decide)) (by omega) (by omega) w1)
    rw [mul_split] at DV
    obtain ⟨h, hh'⟩ : ∃ h, n * u / 18446744073709551616 = h := ⟨_, rfl⟩
    obtain ⟨lo, hlo⟩ : ∃ h, n * u % 18446744073709551616 = h := ⟨_, rfl⟩
    obtain ⟨q, hq⟩ : ∃ h, n * u / l = h := ⟨_, rfl⟩
    obtain ⟨r, hr⟩ : ∃ h, n * u % l = h := ⟨_, rfl⟩
    rw [hh', hlo] at MU DV
    rw [hq, hr] at DV
    have g1 : ¬ (l : Int) ≤ (h : Int) := by omega
    have g2 : (4611686018427387904 : Int) < (q : Int) := by omega
    clear hh hh' hlo hf hq hr
    go_enter Tryz.func40, Tryz.ntmps40
    go_upto_region 1 with fail
    try rw [hw1]
    clear hw1
    go_wp2_with (first
      | (go_at_call 50; refine MU.out.mono ?_; rintro e w2 ⟨rfl, h2⟩; subst h2)
      | (go_at_call 52; refine DV.out.mono ?_; rintro e w3 ⟨rfl, b3⟩))
    go_ret2
    exact ⟨rfl, B1.out.trans (b3.mono B1.out.size)⟩
set_option maxRecDepth 100000 in
set_option maxHeartbeats 3200000 in
theorem times_ok (n u l : Nat) (hn : n < 9223372036854775808) (hu : u < 9223372036854775808) (hl : l < 9223372036854775808) (l0 : 0 < l) (w : World) (hf : n * u / l ≤ 4611686018427387904) : Calls Tryz.prog 40 #[.int .i64 (n : Int), .agg #[.int .i64 (u : Int), .int .i64 (l : Int)]] w fun e w' => e = .returned (.tuple #[.int .i64 ((n * u / l : Nat) : Int), .nilIface]) ∧ Below w.heap.size w w' := by
  obtain ⟨w1, hw1⟩ : ∃ w1, w.alloc (.cells #[.int .i64 (u : Int), .int .i64 (l : Int)] 69) = w1 := ⟨_, rfl⟩
  have B1 := hide' (show Below w.heap.size w w1 by rw [← hw1]; exact (Below.refl _ _).alloc (Nat.le_refl _) _)
  have r1 := hide' (show w1.heap[w.heap.size]? = some (.cells #[.int .i64 (u : Int), .int .i64 (l : Int)] 69 (0, 0)) by rw [← hw1]; exact heap_alloc_new _ _)
  have MU := hide' (mul64_any n u (by omega) (by omega) w1)
  have c0 := cell_of_row w1 _ 0 _ _ _ r1.out
  have c1 := cell_of_row w1 _ 1 _ _ _ r1.out
  simp at c0 c1
  have wn := wrapU n (by omega)
  have wu := wrapU u (by omega)
  have wl := wrapU l (by omega)
  have hh : ¬ l ≤ n * u / 18446744073709551616 := fun k => by
    have h2 : l * 18446744073709551616 ≤ n * u := by have := Nat.mul_le_mul_right 18446744073709551616 k; omega
    have h3 : 18446744073709551616 ≤ n * u / l := (Nat.le_div_iff_mul_le l0).2 (by rw [Nat.mul_comm]; exact h2)
    omega
  have DV := hide' (div64_any (n * u / 18446744073709551616) (n * u % 18446744073709551616) l (Nat.mod_lt _ (by decide)) (by omega) (by omega) w1)
  rw [mul_split] at DV
  obtain ⟨h, hh'⟩ : ∃ h, n * u / 18446744073709551616 = h := ⟨_, rfl⟩
  obtain ⟨lo, hlo⟩ : ∃ h, n * u % 18446744073709551616 = h := ⟨_, rfl⟩
  obtain ⟨q, hq⟩ : ∃ h, n * u / l = h := ⟨_, rfl⟩
  obtain ⟨r, hr⟩ : ∃ h, n * u % l = h := ⟨_, rfl⟩
  rw [hh', hlo] at MU DV
  rw [hq, hr] at DV
  rw [hq] at hf ⊢
  have g1 : ¬ (l : Int) ≤ (h : Int) := by omega
  have g2 : ¬ (4611686018427387904 : Int) < (q : Int) := by omega
  have wq : IntKind.i64.wrap (q : Int) = (q : Int) := by simp [IntKind.wrap, IntKind.bits, IntKind.signed]; omega
  clear hh hh' hlo hq hr
  go_enter Tryz.func40, Tryz.ntmps40
  go_upto_region 1 with fail
  try rw [hw1]
  clear hw1
  go_wp2_with (first
    | (go_at_call 50; refine MU.out.mono ?_; rintro e w2 ⟨rfl, h2⟩; subst h2)
    | (go_at_call 52; refine DV.out.mono ?_; rintro e w3 ⟨rfl, b3⟩))
  go_ret2
  exact ⟨rfl, B1.out.trans (b3.mono B1.out.size)⟩
end Go.Proofs.YtcfoeadfhkojeaaGreatDoor

