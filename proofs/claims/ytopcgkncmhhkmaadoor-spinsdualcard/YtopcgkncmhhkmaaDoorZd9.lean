/-
  What the last text of this claim leans on, part 9: Ss8, Sq2, Sq5.
-/
import Derived.Test.YtopcgkncmhhkmaaDoorZd8
import Derived.Test.YtopcgkncmhhkmaaDoorZd5
import Derived.Laws.Bits64b
import Derived.Lib.TrailingZeros
namespace Go.Proofs.YtopcgkncmhhkmaaDoor
open Go.RowKit
set_option linter.unusedVariables false
set_option linter.unusedSimpArgs false
theorem wg_lies {W H : Nat} (rg : Bool) (h1 : 1 ≤ W) (h3 : 1 ≤ H) (k : Nat) : wayN (wgU H W rg) (H * W) k = wayN (wgU W H rg) (W * H) k := by
  cases rg with
  | true => exact en_lies (by omega) (by omega) k
  | false => exact fr_lies (by omega) (by omega) k
theorem pr_lies {W H : Nat} (rg : Bool) (h1 : 1 ≤ W) (h2 : W ≤ 6) (h3 : 1 ≤ H) (h4 : H ≤ 6) : prG H W rg = prG W H rg := by
  rw [pr_val rg h1 h2 h3 h4, pr_val rg h3 h4 h1 h2, show 2 * H * W = 2 * W * H by rw [Nat.mul_assoc, Nat.mul_comm H W, ← Nat.mul_assoc]]
  split
  · rfl
  · omega
theorem minmax (W H : Nat) : (min W H = W ∧ max W H = H) ∨ (min W H = H ∧ max W H = W) := by omega
/-- What a call that counts answers: an error, or a row. -/
def ErO (f : Nat) (w : World) (e : Ending) (w' : World) : Prop := e = .returned (.tuple #[.slice none 0 0, .iface 40 (.int .i64 (f : Int))]) ∧ Below w.heap.size w w'
def RcO (w : World) (L : Nat) (F : Nat → Nat) (e : Ending) (w' : World) : Prop := ∃ g, e = .returned (.tuple #[.slice (some ⟨g, 0, none⟩) L L, .nilIface]) ∧ ArV w' g L 3 (iQ F) ∧ w.heap.size ≤ g ∧ Below w.heap.size w w'
set_option maxRecDepth 100000 in
set_option maxHeartbeats 1600000 in
theorem free_bad (W H : Int) (w : World) (h : ntF W H 30 ≠ 0) : Calls Tryd.prog 6 #[.int .i64 W, .int .i64 H] w (ErO (ntF W H 30) w) := by
  have C := hide' (spinsCheck_any W H 30 w (by decide))
  obtain ⟨f, hf⟩ : ∃ f, ntF W H 30 = f := ⟨_, rfl⟩
  rw [hf] at C h ⊢
  have ef : errOf f = .iface 40 (.int .i64 (f : Int)) := by unfold errOf; rw [if_neg h]
  rw [ef] at C
  clear hf h ef
  go_enter Tryd.func6, Tryd.ntmps6
  go_wp2_with fail
  refine (show Calls Tryd.prog _ #[.int .i64 W, .int .i64 H, .int .i64 30] w _ from C.out).mono ?_
  rintro o w3 ⟨rfl, rfl⟩
  go_wp2
  go_ret2
  exact ⟨rfl, Below.refl _ _⟩
set_option maxRecDepth 100000 in
set_option maxHeartbeats 1600000 in
theorem free_ok (W H : Nat) (w : World) (h1 : 1 ≤ W) (hW : W ≤ 6) (h3 : 1 ≤ H) (hH : H ≤ 6) (hN : W * H ≤ 30) : Calls Tryd.prog 6 #[.int .i64 (W : Int), .int .i64 (H : Int)] w (RcO w (prG W H false + 1) (wayN (wgU W H false) (W * H))) := by
  have C := hide' (spinsCheck_any W H 30 w (by decide))
  have n0 : ntF W H 30 = 0 := by
    unfold ntF
    rw [if_neg (by omega), if_neg (by have : (W : Int) * (H : Int) = ((W * H : Nat) : Int) := by { push_cast; rfl }
                                      rw [this]; omega)]
  rw [n0, show errOf 0 = .nilIface from rfl] at C
  have LC := hide' (lay_anyS W H false w hW hH)
  have NC := hide' (show ∀ V, Calls Tryd.prog 16 #[.agg #[.int .i64 ((min W H : Nat) : Int), .int .i64 ((max W H : Nat) : Int), .bool false]] V (RoO V (prG W H false + 1) (wayN (wgU W H false) (W * H))) from fun V => by
    rcases minmax W H with ⟨e1, e2⟩ | ⟨e1, e2⟩
    · rw [e1, e2]; exact netCounts_any W H false V h1 hW h3 hH hN
    · rw [e1, e2, ← pr_lies false h1 hW h3 hH, show wayN (wgU W H false) (W * H) = wayN (wgU H W false) (H * W) from funext fun k => (wg_lies false h1 h3 k).symm]
      exact netCounts_any H W false V h3 hH h1 hW (by rw [Nat.mul_comm]; exact hN))
  unfold nV at LC
  obtain ⟨m, hm⟩ : ∃ m, min W H = m := ⟨_, rfl⟩
  obtain ⟨x, hx⟩ : ∃ m, max W H = m := ⟨_, rfl⟩
  rw [hm, hx] at LC NC
  obtain ⟨L, hL⟩ : ∃ L, prG W H false + 1 = L := ⟨_, rfl⟩
  obtain ⟨F, hF⟩ : ∃ F, wayN (wgU W H false) (W * H) = F := ⟨_, rfl⟩
  rw [hL, hF] at NC ⊢
  clear hm hx hL hF n0 hN
  go_enter Tryd.func6, Tryd.ntmps6
  go_wp2_with fail
  refine (show Calls Tryd.prog _ #[.int .i64 (W : Int), .int .i64 (H : Int), .int .i64 30] w _ from C.out).mono ?_
  rintro o w3 ⟨rfl, rfl⟩
  go_wp2_with fail
  refine LC.out.mono ?_
  rintro o w4 ⟨rfl, b4⟩
  go_wp2_with fail
  refine (NC.out w4).mono ?_
  rintro o w5 ⟨g, rfl, a5, g5, b5⟩
  have A5 := hide' a5
  have B5 := hide' (b4.trans (b5.mono b4.size))
  have G5 := hide' (Nat.le_trans b4.size g5)
  clear a5 g5 b5 b4
  go_wp2
  go_ret2
  exact ⟨g, rfl, A5.out, G5.out, B5.out⟩
set_option maxRecDepth 100000 in
set_option maxHeartbeats 1600000 in
theorem energies_ok (W H : Nat) (w : World) (h1 : 1 ≤ W) (hW : W ≤ 6) (h3 : 1 ≤ H) (hH : H ≤ 6) (hN : W * H ≤ 30) : Calls Tryd.prog 8 #[.int .i64 (W : Int), .int .i64 (H : Int)] w (RcO w (prG W H true + 1) (wayN (wgU W H true) (W * H))) := by
  have C := hide' (spinsCheck_any W H 30 w (by decide))
  have n0 : ntF W H 30 = 0 := by
    unfold ntF
    rw [if_neg (by omega), if_neg (by have : (W : Int) * (H : Int) = ((W * H : Nat) : Int) := by { push_cast; rfl }
                                      rw [this]; omega)]
  rw [n0, show errOf 0 = .nilIface from rfl] at C
  have LC := hide' (lay_anyS W H true w hW hH)
  have NC := hide' (show ∀ V, Calls Tryd.prog 16 #[.agg #[.int .i64 ((min W H : Nat) : Int), .int .i64 ((max W H : Nat) : Int), .bool true]] V (RoO V (prG W H true + 1) (wayN (wgU W H true) (W * H))) from fun V => by
    rcases minmax W H with ⟨e1, e2⟩ | ⟨e1, e2⟩
    · rw [e1, e2]; exact netCounts_any W H true V h1 hW h3 hH hN
    · rw [e1, e2, ← pr_lies true h1 hW h3 hH, show wayN (wgU W H true) (W * H) = wayN (wgU H W true) (H * W) from funext fun k => (wg_lies true h1 h3 k).symm]
      exact netCounts_any H W true V h3 hH h1 hW (by rw [Nat.mul_comm]; exact hN))
  unfold nV at LC
  obtain ⟨m, hm⟩ : ∃ m, min W H = m := ⟨_, rfl⟩
  obtain ⟨x, hx⟩ : ∃ m, max W H = m := ⟨_, rfl⟩
  rw [hm, hx] at LC NC
  obtain ⟨L, hL⟩ : ∃ L, prG W H true + 1 = L := ⟨_, rfl⟩
  obtain ⟨F, hF⟩ : ∃ F, wayN (wgU W H true) (W * H) = F := ⟨_, rfl⟩
  rw [hL, hF] at NC ⊢
  clear hm hx hL hF n0 hN
  go_enter Tryd.func8, Tryd.ntmps8
  go_wp2_with fail
  refine (show Calls Tryd.prog _ #[.int .i64 (W : Int), .int .i64 (H : Int), .int .i64 30] w _ from C.out).mono ?_
  rintro o w3 ⟨rfl, rfl⟩
  go_wp2_with fail
  refine LC.out.mono ?_
  rintro o w4 ⟨rfl, b4⟩
  go_wp2_with fail
  refine (NC.out w4).mono ?_
  rintro o w5 ⟨g, rfl, a5, g5, b5⟩
  have A5 := hide' a5
  have B5 := hide' (b4.trans (b5.mono b4.size))
  have G5 := hide' (Nat.le_trans b4.size g5)
  clear a5 g5 b5 b4
  go_wp2
  go_ret2
  exact ⟨g, rfl, A5.out, G5.out, B5.out⟩
end Go.Proofs.YtopcgkncmhhkmaaDoor

namespace Go.Proofs.YtopcgkncmhhkmaaDoor
set_option linter.unusedVariables false
/-- Cells that stand beside a cell, as a number: of the first n. -/
def beD (W : Nat) (cor : Bool) (a n : Nat) : Nat := mkS (fun b => nbD W cor a b && decide (a ≠ b)) n
theorem be_next (W : Nat) (cor : Bool) (a n : Nat) : beD W cor a (n + 1) = if (nbD W cor a n && decide (a ≠ n)) = true then beD W cor a n ||| 2 ^ n else beD W cor a n := by
  have h := Nat.two_pow_add_eq_or_of_lt (mkS_lt (fun b => nbD W cor a b && decide (a ≠ b)) n) 1
  rw [Nat.mul_one] at h
  unfold beD
  rw [mkS]
  by_cases e : (nbD W cor a n && decide (a ≠ n)) = true
  · rw [if_pos e, if_pos e, Nat.add_comm, h, Nat.or_comm]
  · rw [if_neg e, if_neg e, Nat.add_zero]
theorem be_lt (W : Nat) (cor : Bool) (a n : Nat) : beD W cor a n < 2 ^ n := mkS_lt _ _
theorem be_bit {W N : Nat} {cor : Bool} {a b : Nat} (hb : b < N) : (beD W cor a N).testBit b = (nbD W cor a b && decide (a ≠ b)) := by
  rw [← bit_is]
  exact mkS_bit _ N b hb
/-- Two cells so far apart stand beside each other. -/
def mtI (d r : Int) (cor : Bool) : Bool := decide (d * d + r * r = 1) || (cor && decide (d * d + r * r = 2))
theorem sq_ge {d : Int} (h : 2 ≤ d ∨ d ≤ -2) : 4 ≤ d * d := by
  rcases h with h | h
  · have := Int.mul_le_mul h h (by omega) (by omega)
    omega
  · have h' : 2 ≤ -d := by omega
    have := Int.mul_le_mul h' h' (by omega) (by omega)
    rw [Int.neg_mul_neg] at this
    omega
theorem sq_pos (d : Int) : 0 ≤ d * d := by
  rcases Int.le_total 0 d with h | h
  · exact Int.mul_nonneg h h
  · have := Int.mul_nonneg (show 0 ≤ -d by omega) (show 0 ≤ -d by omega)
    rw [Int.neg_mul_neg] at this
    exact this
theorem sq_one {d : Int} (h : d = 1 ∨ d = -1) : d * d = 1 := by rcases h with rfl | rfl <;> rfl
theorem mt_is (W a b : Nat) (cor : Bool) : mtI ((a / W : Nat) - (b / W : Nat) : Int) ((a % W : Nat) - (b % W : Nat) : Int) cor = (nbD W cor a b && decide (a ≠ b)) := by
  have e1 : a = b ↔ (a / W = b / W ∧ a % W = b % W) := by
    constructor
    · rintro rfl; exact ⟨rfl, rfl⟩
    · rintro ⟨h1, h2⟩
      rw [← Nat.div_add_mod a W, ← Nat.div_add_mod b W, h1, h2]
  have e2 : decide (a ≠ b) = !(decide (a / W = b / W) && decide (a % W = b % W)) := by
    by_cases h : a = b
    · obtain ⟨p, q⟩ := e1.1 h
      rw [decide_eq_false (fun x => x h), decide_eq_true p, decide_eq_true q]; rfl
    · rw [decide_eq_true h]
      by_cases p : a / W = b / W
      · by_cases q : a % W = b % W
        · exact absurd (e1.2 ⟨p, q⟩) h
        · rw [decide_eq_false q, Bool.and_false]; rfl
      · rw [decide_eq_false p]; rfl
  rw [e2]
  unfold mtI nbD
  generalize a / W = y
  generalize b / W = z
  generalize a % W = x
  generalize b % W = v
  obtain ⟨d, hd⟩ : ∃ d : Int, (y : Int) - (z : Int) = d := ⟨_, rfl⟩
  obtain ⟨r, hr⟩ : ∃ d : Int, (x : Int) - (v : Int) = d := ⟨_, rfl⟩
  rw [hd, hr]
  have pd := sq_pos d
  have pr := sq_pos r
  by_cases big : (2 ≤ d ∨ d ≤ -2) ∨ (2 ≤ r ∨ r ≤ -2)
  · have : 4 ≤ d * d + r * r := by rcases big with h | h <;> have := sq_ge h <;> omega
    rw [decide_eq_false (by omega), decide_eq_false (show ¬ d * d + r * r = 2 by omega)]
    have : (decide (x ≤ v + 1) && decide (v ≤ x + 1) && decide (y ≤ z + 1) && decide (z ≤ y + 1)) = false := by
      rw [Bool.eq_false_iff]; intro h; simp at h; omega
    rw [this]
    cases cor <;> rfl
  · have hd3 : d = 0 ∨ (d = 1 ∨ d = -1) := by omega
    have hr3 : r = 0 ∨ (r = 1 ∨ r = -1) := by omega
    have l1 : (decide (x ≤ v + 1) && decide (v ≤ x + 1) && decide (y ≤ z + 1) && decide (z ≤ y + 1)) = true := by simp; omega
    rw [l1]
    rcases hd3 with h | h
    · rcases hr3 with g | g
      · rw [h, g, decide_eq_true (show y = z by omega), decide_eq_true (show x = v by omega)]; cases cor <;> rfl
      · rw [h, sq_one g, decide_eq_true (show y = z by omega), decide_eq_false (show ¬ x = v by omega)]; cases cor <;> rfl
    · rcases hr3 with g | g
      · rw [sq_one h, g, decide_eq_false (show ¬ y = z by omega), decide_eq_true (show x = v by omega)]; cases cor <;> rfl
      · rw [sq_one h, sq_one g, decide_eq_false (show ¬ y = z by omega), decide_eq_false (show ¬ x = v by omega)]; cases cor <;> rfl
/-- Water poured: from u to v who gets wet is of the set, is reached, and hands it on. -/
structure PoG (nb : Nat → Nat) (s : Nat) (R : Nat → Prop) (u v : Nat) : Prop where
  up : ∀ i, u.testBit i = true → v.testBit i = true
  inn : ∀ i, v.testBit i = true → u.testBit i = true ∨ (s.testBit i = true ∧ R i ∧ ∀ j, (nb i).testBit j = true → s.testBit j = true → v.testBit j = true)
theorem PoG.refl (nb : Nat → Nat) (s : Nat) (R : Nat → Prop) (u : Nat) : PoG nb s R u u := ⟨fun _ h => h, fun _ h => Or.inl h⟩
theorem or_powS (x k i : Nat) : (x ||| 2 ^ k).testBit i = (x.testBit i || decide (k = i)) := by rw [Nat.testBit_or, Nat.testBit_two_pow]
theorem PoG.step {nb : Nat → Nat} {s : Nat} {R : Nat → Prop} {u x y k : Nat} (h : PoG nb s R u x) (hk : s.testBit k = true) (hR : R k) (h2 : PoG nb s R (x ||| 2 ^ k) y) (ha : ∀ j, (nb k).testBit j = true → s.testBit j = true → y.testBit j = true) : PoG nb s R u y := by
  refine ⟨fun i hi => h2.up i (by rw [or_powS, h.up i hi]; rfl), fun i hi => ?_⟩
  rcases h2.inn i hi with q | q
  · rw [or_powS, Bool.or_eq_true] at q
    rcases q with q | q
    · rcases h.inn i q with p | ⟨p1, p2, p3⟩
      · exact Or.inl p
      · exact Or.inr ⟨p1, p2, fun j a b => h2.up j (by rw [or_powS, p3 j a b]; rfl)⟩
    · obtain rfl : k = i := of_decide_eq_true q
      exact Or.inr ⟨hk, hR, ha⟩
  · exact Or.inr q
theorem PoG.lt {nb : Nat → Nat} {s N : Nat} {R : Nat → Prop} {u v : Nat} (h : PoG nb s R u v) (hs : s < 2 ^ N) (hu : u < 2 ^ N) : v < 2 ^ N := by
  refine Nat.lt_pow_two_of_testBit _ fun i hi => ?_
  cases q : v.testBit i with
  | false => rfl
  | true =>
    rcases h.inn i q with p | ⟨p, _⟩
    · rw [Nat.testBit_lt_two_pow (Nat.lt_of_lt_of_le hu (Nat.pow_le_pow_right (by decide) hi))] at p; cases p
    · rw [Nat.testBit_lt_two_pow (Nat.lt_of_lt_of_le hs (Nat.pow_le_pow_right (by decide) hi))] at p; cases p
/-- How many of the set are dry. -/
def dyN (s u N : Nat) : Nat := cntD (fun i => s.testBit i && !u.testBit i) N
theorem dy_mono {s u v N : Nat} (h : ∀ i, u.testBit i = true → v.testBit i = true) : dyN s v N ≤ dyN s u N := by
  refine cnt_mono fun i _ q => ?_
  rw [Bool.and_eq_true] at q ⊢
  refine ⟨q.1, ?_⟩
  cases e : u.testBit i with
  | false => rfl
  | true => rw [h i e] at q; exact q.2
theorem dy_lt {s u N k : Nat} (hk : k < N) (h1 : s.testBit k = true) (h2 : u.testBit k = false) : dyN s (u ||| 2 ^ k) N < dyN s u N := by
  refine cnt_lt (fun i _ q => ?_) ⟨k, hk, by rw [h1, h2]; rfl, by rw [or_powS]; simp⟩
  rw [Bool.and_eq_true] at q ⊢
  refine ⟨q.1, ?_⟩
  cases e : u.testBit i with
  | false => rfl
  | true => rw [or_powS, e] at q; exact q.2
/-- Who is dry of those that get water. -/
def drD (c s u : Nat) : Nat := c &&& s &&& (18446744073709551615 - u)
theorem dr_bit {c s u : Nat} (hu : u < 65536) (hc : c < 65536) (i : Nat) : (drD c s u).testBit i = (c.testBit i && s.testBit i && !u.testBit i) := by
  unfold drD
  rw [Nat.testBit_and, Nat.testBit_and]
  by_cases hi : i < 64
  · have := Nat.testBit_two_pow_sub_succ (show u < 2 ^ 64 by omega) i
    rw [show 2 ^ 64 - (u + 1) = 18446744073709551615 - u by omega] at this
    rw [this, decide_eq_true hi, Bool.true_and]
  · rw [Nat.testBit_lt_two_pow (show c < 2 ^ i from Nat.lt_of_lt_of_le (show c < 2 ^ 64 by omega) (Nat.pow_le_pow_right (by decide) (by omega)))]
    rfl
theorem dr_lt {c s u : Nat} (hc : c < 65536) : drD c s u < 65536 := by
  unfold drD
  rw [Nat.and_assoc]
  exact Nat.lt_of_le_of_lt Nat.and_le_left hc
theorem dr_none {c s u : Nat} (hu : u < 65536) (hc : c < 65536) (h : drD c s u = 0) (i : Nat) (h1 : c.testBit i = true) (h2 : s.testBit i = true) : u.testBit i = true := by
  have := dr_bit (s := s) hu hc i
  rw [h, Nat.zero_testBit, h1, h2] at this
  cases q : u.testBit i with
  | true => rfl
  | false => rw [q] at this; cases this
/-- Who is wet of a set: of the first row; of the last one. -/
theorem nb_symm (W : Nat) (cor : Bool) (a b : Nat) : nbD W cor a b = nbD W cor b a := by
  unfold nbD
  rw [Bool.eq_iff_iff]
  simp only [Bool.and_eq_true, Bool.or_eq_true, decide_eq_true_iff]
  constructor <;> rintro ⟨⟨⟨⟨h1, h2⟩, h3⟩, h4⟩, h5⟩ <;> refine ⟨⟨⟨⟨h2, h1⟩, h4⟩, h3⟩, ?_⟩ <;> rcases h5 with (h | h) | h <;> first | exact Or.inl (Or.inl h) | exact Or.inl (Or.inr h.symm) | exact Or.inr h.symm
def wtC (W H : Nat) (cor : Bool) (s t i : Nat) : Bool := wetS W (W * H) cor (fun i => decide (i / W = 0)) (fun i => decide (s / 2 ^ i % 2 = 1)) t i
theorem wt_on {W H : Nat} {cor : Bool} {s i j : Nat} (hi : i < W * H) (h : wtC W H cor s (W * H) i = true) (hn : (beD W cor i (W * H)).testBit j = true) (hj : j < W * H) (hs : s.testBit j = true) : wtC W H cor s (W * H) j = true := by
  unfold wtC at h ⊢
  rw [← wet_end W (W * H) cor _ _ j hj, wetS, Bool.and_eq_true]
  refine ⟨by rw [← bit_is] at hs; exact hs, any_iff.2 ⟨i, hi, ?_⟩⟩
  rw [be_bit hj, Bool.and_eq_true] at hn
  rw [h, nb_symm, hn.1]
  rfl
theorem row_bits {W i : Nat} : (2 ^ W - 1).testBit i = decide (i < W) := Nat.testBit_two_pow_sub_one W i
theorem wt_first {W H : Nat} {cor : Bool} {s i : Nat} (hi : i < W * H) (h1 : (2 ^ W - 1).testBit i = true) (hs : s.testBit i = true) : wtC W H cor s (W * H) i = true := by
  rw [row_bits] at h1
  refine wet_all hi (t := 0) ?_
  rw [wetS, Nat.div_eq_of_lt (of_decide_eq_true h1)]
  rw [← bit_is] at hs
  exact hs
/-- Poured onto the first row: who is wet. -/
theorem pour_all {W H : Nat} {cor : Bool} {s v : Nat} (hW : 0 < W) (hs : s < 2 ^ (W * H)) (h : PoG (fun a => beD W cor a (W * H)) s (fun i => wtC W H cor s (W * H) i = true) 0 v) (ha : ∀ i, (2 ^ W - 1).testBit i = true → s.testBit i = true → v.testBit i = true) {i : Nat} (hi : i < W * H) : v.testBit i = wtC W H cor s (W * H) i := by
  rw [Bool.eq_iff_iff]
  constructor
  · intro q
    rcases h.inn i q with p | ⟨_, p, _⟩
    · rw [Nat.zero_testBit] at p; cases p
    · exact p
  · have key : ∀ t i, i < W * H → wtC W H cor s t i = true → v.testBit i = true := by
      intro t
      induction t with
      | zero =>
        intro i hi q
        unfold wtC at q
        rw [wetS, Bool.and_eq_true] at q
        refine ha i ?_ (by rw [← bit_is]; exact q.2)
        rw [row_bits]
        have := of_decide_eq_true q.1
        exact decide_eq_true ((Nat.div_eq_zero_iff_lt hW).1 this)
      | succ t ih =>
        intro i hi q
        unfold wtC at q
        rw [wetS, Bool.and_eq_true] at q
        obtain ⟨j, hj, q2⟩ := any_iff.1 q.2
        rw [Bool.and_eq_true] at q2
        have hv := ih j hj q2.2
        by_cases e : j = i
        · rw [← e]; exact hv
        · rcases h.inn j hv with p | ⟨_, _, p⟩
          · rw [Nat.zero_testBit] at p; cases p
          · refine p i ?_ (by rw [← bit_is]; exact q.1)
            show (beD W cor j (W * H)).testBit i = true
            rw [be_bit hi, nb_symm, q2.1, decide_eq_true e]
            rfl
    exact key _ i hi
theorem last_bits {W N i : Nat} (hN : W ≤ N) : ((2 ^ W - 1) * 2 ^ (N - W)).testBit i = decide (N - W ≤ i ∧ i < N) := by
  rw [← Nat.shiftLeft_eq, Nat.testBit_shiftLeft, row_bits, Bool.eq_iff_iff]
  simp only [Bool.and_eq_true, decide_eq_true_iff, ge_iff_le]
  omega
theorem and_some {a b : Nat} : a &&& b ≠ 0 ↔ ∃ i, a.testBit i = true ∧ b.testBit i = true := by
  constructor
  · intro h
    obtain ⟨i, hi⟩ := Nat.exists_testBit_of_ne_zero h
    rw [Nat.testBit_and, Bool.and_eq_true] at hi
    exact ⟨i, hi⟩
  · rintro ⟨i, h1, h2⟩ e
    have : (a &&& b).testBit i = true := by rw [Nat.testBit_and, h1, h2]; rfl
    rw [e, Nat.zero_testBit] at this
    cases this
/-- Does the last row get wet. -/
theorem lea_pour {W H : Nat} {cor : Bool} {s v : Nat} (hW : 0 < W) (hH : 0 < H) (hs : s < 2 ^ (W * H)) (h : PoG (fun a => beD W cor a (W * H)) s (fun i => wtC W H cor s (W * H) i = true) 0 v) (ha : ∀ i, (2 ^ W - 1).testBit i = true → s.testBit i = true → v.testBit i = true) : (v &&& ((2 ^ W - 1) * 2 ^ (W * H - W)) ≠ 0) ↔ leaC W H cor s = true := by
  have hWN : W ≤ W * H := Nat.le_mul_of_pos_right W hH
  have row : ∀ i, i < W * H → (i / W = H - 1 ↔ W * H - W ≤ i) := fun i hi => by
    have e : W * (H - 1) = W * H - W := by rw [Nat.mul_sub, Nat.mul_one]
    constructor
    · intro q
      have := Nat.mul_div_le i W
      rw [q, e] at this
      exact this
    · intro q
      have h1 : i / W < H := Nat.div_lt_of_lt_mul hi
      have h2 : H - 1 ≤ i / W := by rw [Nat.le_div_iff_mul_le hW, Nat.mul_comm, e]; exact q
      omega
  rw [and_some]
  unfold leaC
  rw [any_iff]
  constructor
  · rintro ⟨i, h1, h2⟩
    rw [last_bits hWN] at h2
    obtain ⟨p, q⟩ := of_decide_eq_true h2
    refine ⟨i, q, ?_⟩
    rw [pour_all hW hs h ha q] at h1
    rw [Bool.and_eq_true]
    exact ⟨decide_eq_true ((row i q).2 p), h1⟩
  · rintro ⟨i, hi, q⟩
    rw [Bool.and_eq_true] at q
    refine ⟨i, by rw [pour_all hW hs h ha hi]; exact q.2, ?_⟩
    rw [last_bits hWN]
    exact decide_eq_true ⟨(row i hi).1 (of_decide_eq_true q.1), hi⟩
/-- While sets are counted: of the first n. -/
def crP (W H : Nat) (cor : Bool) (n i : Nat) : Nat := cntD (fun s => popD s (W * H) == i && leaC W H cor s) n
theorem cr_next (W H : Nat) (cor : Bool) (n i : Nat) : crP W H cor (n + 1) i = if leaC W H cor n = true then (if i = popD n (W * H) then crP W H cor n i + 1 else crP W H cor n i) else crP W H cor n i := by
  unfold crP
  rw [cntD]
  by_cases e : leaC W H cor n = true
  · rw [if_pos e, e, Bool.and_true]
    by_cases q : i = popD n (W * H)
    · rw [if_pos q, if_pos (by rw [q]; exact beq_self_eq_true _)]
    · rw [if_neg q, if_neg (by rw [beq_iff_eq]; exact fun h => q h.symm), Nat.add_zero]
  · rw [if_neg e, if_neg (by rw [Bool.and_eq_true]; exact fun h => e h.2), Nat.add_zero]
theorem cr_le (W H : Nat) (cor : Bool) (n i : Nat) : crP W H cor n i ≤ n := cnt_le _ _
theorem pop_le (s k : Nat) : popD s k ≤ k := cnt_le _ _
end Go.Proofs.YtopcgkncmhhkmaaDoor

namespace Go.Proofs.YtopcgkncmhhkmaaDoor
open Go.RowKit
set_option linter.unusedVariables false
set_option linter.unusedSimpArgs false

/-- The library's table as it is laid. -/
def TzTab (w : World) : Prop := ∀ j, j < 64 → w.cell? ⟨2, j, none⟩ = some (.int .u8 (Lib.deBruijn64tab.getD j 0))
theorem tz_lt {w : World} (h : TzTab w) : 2 < w.heap.size := by
  rcases Nat.lt_or_ge 2 w.heap.size with k | k
  · exact k
  · have := h 0 (by omega); simp [World.cell?, Array.getElem?_eq_none k] at this
theorem TzTab.below {w w' : World} (h : TzTab w) (hb : Below w.heap.size w w') : TzTab w' := fun j hj => (World.cell?_of_block (w := w) (a := ⟨2, j, none⟩) (hb.block _ (tz_lt h))).trans (h j hj)
theorem tz_key' (x a : Nat) (hx : x < 18446744073709551616) (hx0 : x ≠ 0) (hlow : x &&& (18446744073709551616 - x) = a) :
    IntKind.u64.wrap (bits BinOp.and IntKind.u64 (x : Int) (IntKind.u64.wrap (-(x : Int))) * 285870213051353865) / 288230376151711744 = ((a * 285870213051353865 % 18446744073709551616 / 288230376151711744 : Nat) : Int) := by
  have e1 : IntKind.u64.wrap (-(x : Int)) = ((18446744073709551616 - x : Nat) : Int) := by rw [IntKind.wrap_u64]; omega
  rw [e1, bits_and_u64_nat x _ hx (by omega), hlow, IntKind.wrap_u64]
  omega
/-- The lowest bit, told by its number. -/
theorem ctz_low {x : Nat} (h0 : 0 < x) (h : x < 2 ^ 64) : x.testBit (Lib.ctz 64 x) = true ∧ ∀ j, j < Lib.ctz 64 x → x.testBit j = false := by
  obtain ⟨m, hm, _⟩ := Lib.ctzFrom_spec 64 x h0 h
  have hc : Lib.ctz 64 x = Lib.ctzFrom 64 x := by unfold Lib.ctz; rw [if_neg (by omega)]
  rw [hc]
  obtain ⟨k, hk⟩ : ∃ k, Lib.ctzFrom 64 x = k := ⟨_, rfl⟩
  rw [hk] at hm ⊢
  have e : x = 2 ^ k * (2 * m + 1) + 0 := by omega
  have hp : 0 < 2 ^ k := Nat.pow_pos (by omega)
  refine ⟨by rw [e, Nat.testBit_two_pow_mul_add _ hp]; simp, fun j hj => by rw [e, Nat.testBit_two_pow_mul_add _ hp, if_pos hj]; simp⟩

set_option maxRecDepth 100000 in
set_option maxHeartbeats 6400000 in
theorem tz64_any (x : Nat) (w : World) (hx0 : 0 < x) (hx : x < 18446744073709551616) (hT : TzTab w) :
    Calls Tryd.prog 48 #[.int .u64 (x : Int)] w fun e w' => e = .returned (.int .i64 ((Lib.ctz 64 x : Nat) : Int)) ∧ w' = w := by
  obtain ⟨hlow, hk⟩ := Lib.lowest_bit 64 x (by omega) hx
  obtain ⟨hi, htab⟩ := Lib.deBruijn64_at _ hk
  have hcell := hT _ hi
  rw [htab] at hcell
  have key := tz_key' x _ hx (by omega) hlow
  have xz : ((x : Int) == 0) = false := by rw [beq_eq_false_iff_ne]; omega
  obtain ⟨idx, hidx⟩ : ∃ idx, 2 ^ Lib.ctz 64 x * 285870213051353865 % 18446744073709551616 / 288230376151711744 = idx := ⟨_, rfl⟩
  rw [hidx] at hi hcell key
  obtain ⟨k, hkk⟩ : ∃ k, Lib.ctz 64 x = k := ⟨_, rfl⟩
  rw [hkk] at hcell hk ⊢
  clear hlow htab hidx hkk
  go_enter Tryd.func48, Tryd.ntmps48
  go_wp2_with (simp only [key])
  go_ret
  exact ⟨rfl, rfl⟩

set_option maxRecDepth 100000 in
set_option maxHeartbeats 6400000 in
theorem tz_any (x : Nat) (w : World) (hx0 : 0 < x) (hx : x < 18446744073709551616) (hT : TzTab w) :
    Calls Tryd.prog 41 #[.int .u64 (x : Int)] w fun e w' => e = .returned (.int .i64 ((Lib.ctz 64 x : Nat) : Int)) ∧ w' = w := by
  have C := hide' (tz64_any x w hx0 hx hT)
  go_enter Tryd.func41, Tryd.ntmps41
  go_wp2_with fail
  refine (show Calls Tryd.prog _ _ _ _ from C.out).mono ?_
  rintro e w' ⟨rfl, rfl⟩
  go_wp2
  go_ret
  exact ⟨rfl, rfl⟩

end Go.Proofs.YtopcgkncmhhkmaaDoor

