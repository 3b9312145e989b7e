/-
  What the last text of this claim leans on, part 5: Sq1, Sq3, Sq4.
-/
import Derived.Test.YtopcgkncmhhkmaaDoorZd1
import Derived.Test.YtopcgkncmhhkmaaDoorZd4
import Derived.Laws.BitsAllLaws
namespace Go.Proofs.YtopcgkncmhhkmaaDoor
set_option linter.unusedVariables false
/-- Unlike pairs of a row; of the last row with the first one; of all; how many there are; with rings or without. -/
def inG (W : Nat) (ring : Bool) (r : Nat) : Nat := if ring = true then inE W r else inF W r
def clG (W : Nat) (ring : Bool) (r f : Nat) : Nat := if ring = true then dfD W r f else 0
def wgU (W H : Nat) (ring : Bool) (s : Nat) : Nat := if ring = true then enU W H s else frU W H s
def prG (W H : Nat) (ring : Bool) : Nat := if ring = true then 2 * (W * H) else prN W H
/-- How many ways lead from the first row f to row r with k unlike pairs. -/
def nwG (W : Nat) (ring : Bool) (f y r k : Nat) : Nat := nowC (2 ^ W) (inG W ring) (dfD W) f y r k
theorem two_pos (W : Nat) : 0 < 2 ^ W := Nat.pow_pos (by decide)
theorem way_rows {W : Nat} (ring : Bool) {y k : Nat} (hW : 0 < W) : wayN (wgU W (y + 1) ring) (W * (y + 1)) k = sumN (fun f => sumN (fun r => if clG W ring r f ≤ k then nwG W ring f y r (k - clG W ring r f) else 0) (2 ^ W)) (2 ^ W) := by
  cases ring with
  | true => exact en_ways hW
  | false =>
    rw [show wgU W (y + 1) false = frU W (y + 1) from rfl, fr_ways hW]
    refine sum_ext fun f _ => sum_ext fun r _ => ?_
    rw [show clG W false r f = 0 from rfl, if_pos (Nat.zero_le _)]
    rfl
theorem nw_first {W : Nat} {ring : Bool} {f r k : Nat} (hf : f < 2 ^ W) : nwG W ring f 0 r k = if r = f ∧ k = inG W ring f then 1 else 0 := now_first hf
theorem nw_step {W : Nat} {ring : Bool} {f y t k : Nat} (ht : t < 2 ^ W) : nwG W ring f (y + 1) t k = sumN (fun a => if inG W ring t + dfD W a t ≤ k then nwG W ring f y a (k - (inG W ring t + dfD W a t)) else 0) (2 ^ W) := now_step (two_pos W) ht
theorem nw_le (W : Nat) (ring : Bool) (f y r k : Nat) : nwG W ring f y r k ≤ 2 ^ (W * (y + 1)) := by
  unfold nwG nowC
  refine Nat.le_trans (cnt_le _ _) ?_
  rw [← Nat.pow_mul]
  exact Nat.le_refl _
theorem cnt_some {f : Nat → Bool} : ∀ {k : Nat}, cntD f k ≠ 0 → ∃ j, j < k ∧ f j = true
  | 0, h => absurd rfl h
  | k + 1, h => by
    by_cases q : f k = true
    · exact ⟨k, by omega, q⟩
    · rw [cntD, if_neg q] at h
      obtain ⟨j, hj, e⟩ := cnt_some (k := k) (by simpa using h)
      exact ⟨j, by omega, e⟩
/-- No more than there are pairs. -/
theorem nw_last {W : Nat} {ring : Bool} {f y r k : Nat} (hW : 1 ≤ W) (h : nwG W ring f y r k ≠ 0) : k + clG W ring r f ≤ prG W (y + 1) ring := by
  obtain ⟨s, hs, e⟩ := cnt_some h
  simp only [Bool.and_eq_true, beq_iff_eq] at e
  obtain ⟨e1, e2, e3⟩ := e
  cases ring with
  | true =>
    have := en_rows (W := W) (y := y) (by omega) hs
    have h2 := en_le W (y + 1) s
    rw [e1, e2] at this
    have e3' : pU (2 ^ W) (inE W) (dfD W) y s = k := e3
    show k + dfD W r f ≤ 2 * (W * (y + 1))
    omega
  | false =>
    have := fr_rows (W := W) (y := y) (by omega) hs
    have h2 := fr_le (W := W) (H := y + 1) (by omega) (by omega) s
    have e3' : pU (2 ^ W) (inF W) (dfD W) y s = k := e3
    show k + 0 ≤ prN W (y + 1)
    omega
theorem pr_val {W H : Nat} (ring : Bool) (h1 : 1 ≤ W) (h2 : W ≤ 6) (h3 : 1 ≤ H) (h4 : H ≤ 6) : prG W H ring = if ring = true then 2 * W * H else 2 * W * H - W - H := by
  cases ring with
  | true => show 2 * (W * H) = _; rw [if_pos rfl, Nat.mul_assoc]
  | false =>
    show prN W H = _
    rw [pr_is h1 h2 h3 h4, if_neg (by decide)]
    obtain ⟨v, rfl⟩ : ∃ v, W = v + 1 := ⟨W - 1, by omega⟩
    obtain ⟨u, rfl⟩ : ∃ u, H = u + 1 := ⟨H - 1, by omega⟩
    simp only [Nat.add_sub_cancel]
    have : 2 * (v + 1) * (u + 1) = 2 * (v * u) + 2 * v + 2 * u + 2 := by
      rw [Nat.mul_assoc, Nat.add_mul, Nat.mul_add, Nat.mul_succ]; omega
    rw [this]
    have a : v * (u + 1) = v * u + v := Nat.mul_succ _ _
    have b : (v + 1) * u = v * u + u := Nat.succ_mul _ _
    omega
theorem pr_mono {W H y : Nat} (ring : Bool) (h1 : 1 ≤ W) (h2 : W ≤ 6) (h3 : 1 ≤ y) (h4 : y ≤ H) (h5 : H ≤ 6) : prG W y ring ≤ prG W H ring := by
  cases ring with
  | true => exact Nat.mul_le_mul_left _ (Nat.mul_le_mul_left _ h4)
  | false =>
    show prN W y ≤ prN W H
    rw [pr_is h1 h2 h3 (by omega), pr_is h1 h2 (by omega) h5]
    exact Nat.add_le_add (Nat.mul_le_mul_left _ h4) (Nat.mul_le_mul_left _ (by omega))
theorem nw_pairs {W H : Nat} {ring : Bool} {f y r k : Nat} (h1 : 1 ≤ W) (h2 : W ≤ 6) (h4 : y + 1 ≤ H) (h5 : H ≤ 6) (h : nwG W ring f y r k ≠ 0) : k ≤ prG W H ring := by
  have a := nw_last h1 h
  have b := pr_mono (W := W) (H := H) (y := y + 1) ring h1 h2 (by omega) h4 h5
  omega
theorem sum_mono (g : Nat → Nat) {a m : Nat} (h : a ≤ m) : sumN g a ≤ sumN g m := by
  induction m with
  | zero => rw [show a = 0 by omega]; exact Nat.le_refl _
  | succ m ih =>
    by_cases e : a = m + 1
    · rw [e]; exact Nat.le_refl _
    · have := ih (by omega); rw [sumN]; omega
theorem sum_at (g : Nat → Nat) {a m : Nat} (h : a < m) : g a ≤ sumN g m := by
  have := sum_mono g (show a + 1 ≤ m from h)
  rw [sumN] at this
  omega
/-- While the next row is reckoned: of the first a rows above. -/
def ntG (W : Nat) (ring : Bool) (f y t a k : Nat) : Nat := sumN (fun a => if inG W ring t + dfD W a t ≤ k then nwG W ring f y a (k - (inG W ring t + dfD W a t)) else 0) a
theorem nt_full {W : Nat} {ring : Bool} {f y t k : Nat} (ht : t < 2 ^ W) : ntG W ring f y t (2 ^ W) k = nwG W ring f (y + 1) t k := (nw_step ht).symm
theorem nt_le {W : Nat} {ring : Bool} {f y t a k : Nat} (ht : t < 2 ^ W) (ha : a ≤ 2 ^ W) : ntG W ring f y t a k ≤ 2 ^ (W * (y + 2)) := by
  refine Nat.le_trans (sum_mono _ ha) ?_
  rw [show sumN _ (2 ^ W) = nwG W ring f (y + 1) t k from nt_full ht]
  exact nw_le W ring f (y + 1) t k
/-- What is added, so many places further on. -/
def shR (c : Nat → Nat) (p k : Nat) : Nat := if p ≤ k then c (k - p) else 0
theorem nt_next {W : Nat} {ring : Bool} {f y t a k : Nat} : ntG W ring f y t (a + 1) k = ntG W ring f y t a k + shR (nwG W ring f y a) (inG W ring t + dfD W a t) k := rfl
theorem nt_room {W H : Nat} {ring : Bool} {f y t a k : Nat} (h1 : 1 ≤ W) (h2 : W ≤ 6) (h4 : y + 2 ≤ H) (h5 : H ≤ 6) (ht : t < 2 ^ W) (ha : a < 2 ^ W) (h : nwG W ring f y a k ≠ 0) : k + (inG W ring t + dfD W a t) ≤ prG W H ring := by
  refine nw_pairs (f := f) (y := y + 1) (r := t) h1 h2 (by omega) h5 ?_
  rw [nw_step ht]
  obtain ⟨p, hp⟩ : ∃ p, inG W ring t + dfD W a t = p := ⟨_, rfl⟩
  rw [hp]
  have h3 := sum_at (fun a' => if inG W ring t + dfD W a' t ≤ k + p then nwG W ring f y a' (k + p - (inG W ring t + dfD W a' t)) else 0) ha
  simp only [hp] at h3
  rw [if_pos (by omega), Nat.add_sub_cancel] at h3
  omega
/-- While all are put together: of the first f first rows, and of the next one the first r last ones. -/
def otG (W : Nat) (ring : Bool) (y f r k : Nat) : Nat := sumN (fun f => sumN (fun r => shR (nwG W ring f y r) (clG W ring r f) k) (2 ^ W)) f + sumN (fun r => shR (nwG W ring f y r) (clG W ring r f) k) r
theorem ot_zero (W : Nat) (ring : Bool) (y k : Nat) : otG W ring y 0 0 k = 0 := rfl
theorem ot_next (W : Nat) (ring : Bool) (y f r k : Nat) : otG W ring y f (r + 1) k = otG W ring y f r k + shR (nwG W ring f y r) (clG W ring r f) k := by
  unfold otG; rw [sumN]; omega
theorem ot_over (W : Nat) (ring : Bool) (y f k : Nat) : otG W ring y f (2 ^ W) k = otG W ring y (f + 1) 0 k := by
  unfold otG
  rw [show sumN (fun r => shR (nwG W ring (f + 1) y r) (clG W ring r (f + 1)) k) 0 = 0 from rfl, Nat.add_zero, sumN]
theorem ot_full {W : Nat} {ring : Bool} {y k : Nat} (hW : 0 < W) : otG W ring y (2 ^ W) 0 k = wayN (wgU W (y + 1) ring) (W * (y + 1)) k := by
  unfold otG
  rw [show sumN (fun r => shR (nwG W ring (2 ^ W) y r) (clG W ring r (2 ^ W)) k) 0 = 0 from rfl, Nat.add_zero, way_rows ring hW]
  rfl
theorem ot_le {W : Nat} {ring : Bool} {y f r k : Nat} (hW : 0 < W) (hf : f < 2 ^ W) (hr : r ≤ 2 ^ W) : otG W ring y f r k ≤ 2 ^ (W * (y + 1)) := by
  have h1 : otG W ring y f r k ≤ otG W ring y f (2 ^ W) k := by
    unfold otG
    exact Nat.add_le_add_left (sum_mono _ hr) _
  have h2 : otG W ring y (f + 1) 0 k ≤ otG W ring y (2 ^ W) 0 k := by
    unfold otG
    exact Nat.add_le_add (sum_mono _ hf) (Nat.le_of_eq rfl)
  have h3 : otG W ring y (2 ^ W) 0 k ≤ 2 ^ (W * (y + 1)) := by
    rw [ot_full hW]; exact cnt_le _ _
  rw [ot_over] at h1
  omega
end Go.Proofs.YtopcgkncmhhkmaaDoor

namespace Go.Proofs.YtopcgkncmhhkmaaDoor
open Go.RowKit
set_option linter.unusedVariables false
set_option linter.unusedSimpArgs false
def ocA (x : Nat) : Nat := (x / 2 &&& 6148914691236517205) + (x &&& 6148914691236517205)
def ocB (x : Nat) : Nat := (x / 4 &&& 3689348814741910323) + (x &&& 3689348814741910323)
def ocC (x : Nat) : Nat := (x / 16 + x) &&& 1085102592571150095
def ocN (x : Nat) : Nat :=
  let c := ocC (ocB (ocA x))
  let d := c + c / 256
  let e := d + d / 65536
  let f := e + e / 4294967296
  f &&& 127
def chO : Bool := (List.range 128).all fun a => (List.range 256).all fun b => Nat.beq (ocN (2 * (a * 256 + b))) (ocN (a * 256 + b)) && Nat.beq (ocN (2 * (a * 256 + b) + 1)) (ocN (a * 256 + b) + 1)
set_option maxRecDepth 100000 in
theorem chO_all : chO = true := by decide +kernel
theorem oc_next {x : Nat} (hx : x < 32768) : ocN (2 * x) = ocN x ∧ ocN (2 * x + 1) = ocN x + 1 := by
  have h := chO_all
  unfold chO at h
  have h1 := List.all_eq_true.1 h (x / 256) (List.mem_range.2 (by omega))
  have h2 := List.all_eq_true.1 h1 (x % 256) (List.mem_range.2 (by omega))
  rw [show x / 256 * 256 + x % 256 = x by omega, Bool.and_eq_true] at h2
  exact ⟨Nat.eq_of_beq_eq_true h2.1, Nat.eq_of_beq_eq_true h2.2⟩
theorem pop_half (s : Nat) : ∀ k, popD s (k + 1) = s % 2 + popD (s / 2) k
  | 0 => by
    show 0 + _ = _
    have : s % 2 < 2 := Nat.mod_lt _ (by decide)
    have e : decide (s / 2 ^ 0 % 2 = 1) = decide (s % 2 = 1) := by rw [Nat.pow_zero, Nat.div_one]
    show 0 + (if decide (s / 2 ^ 0 % 2 = 1) = true then 1 else 0) = s % 2 + 0
    rw [e]
    by_cases q : s % 2 = 1
    · rw [decide_eq_true q, q]; rfl
    · rw [decide_eq_false q, show s % 2 = 0 by omega]; rfl
  | k + 1 => by
    have h1 : popD s (k + 1 + 1) = popD s (k + 1) + if decide (s / 2 ^ (k + 1) % 2 = 1) = true then 1 else 0 := rfl
    have h2 : popD (s / 2) (k + 1) = popD (s / 2) k + if decide (s / 2 / 2 ^ k % 2 = 1) = true then 1 else 0 := rfl
    rw [h1, h2, pop_half s k, Nat.div_div_eq_div_mul, show 2 * 2 ^ k = 2 ^ (k + 1) by rw [Nat.pow_succ, Nat.mul_comm]]
    omega
theorem oc_pop : ∀ (n x : Nat), n ≤ 16 → x < 2 ^ n → ocN x = popD x n
  | 0, x, _, h => by rw [show x = 0 by omega]; rfl
  | n + 1, x, hn, h => by
    have hp : 2 ^ (n + 1) ≤ 2 ^ 16 := Nat.pow_le_pow_right (by decide) hn
    have h2 : x / 2 < 2 ^ n := by rw [Nat.pow_succ] at h; omega
    have ih := oc_pop n (x / 2) (by omega) h2
    obtain ⟨a, b⟩ := oc_next (x := x / 2) (by omega)
    rw [pop_half, ← ih]
    by_cases q : x % 2 = 0
    · rw [show 2 * (x / 2) = x by omega] at a; rw [a, q]; omega
    · rw [show 2 * (x / 2) + 1 = x by omega] at b; rw [b, show x % 2 = 1 by omega]; omega
end Go.Proofs.YtopcgkncmhhkmaaDoor

namespace Go.Proofs.YtopcgkncmhhkmaaDoor
open Go.RowKit
set_option linter.unusedVariables false
set_option linter.unusedSimpArgs false
theorem and_u64K {a : Nat} (K : Nat) (ha : a < 18446744073709551616) (hK : K < 18446744073709551616) : bits .and .u64 (a : Int) ((K : Nat) : Int) = ((a &&& K : Nat) : Int) := u64_and_nat a K ha hK
theorem wrap_u64K {a : Nat} (ha : a < 18446744073709551616) : IntKind.u64.wrap (a : Int) = (a : Int) := by rw [IntKind.wrap_u64]; omega
theorem and_i64K {a : Nat} (K : Nat) (ha : a < 9223372036854775808) (hK : K < 9223372036854775808) : bits .and .i64 (a : Int) ((K : Nat) : Int) = ((a &&& K : Nat) : Int) := by
  have hx : a &&& K < 2 ^ 63 := Nat.and_lt_two_pow _ (by omega)
  have e : ∀ x : Nat, x < 9223372036854775808 → (BitVec.ofInt 64 (x : Int)).toNat = x := fun x h => by
    rw [BitVec.ofInt_natCast, BitVec.toNat_ofNat]; exact Nat.mod_eq_of_lt (by omega)
  show IntKind.i64.wrap ((BitVec.ofInt 64 (a : Int) &&& BitVec.ofInt 64 (K : Int)).toNat : Int) = _
  rw [BitVec.toNat_and, e a ha, e K hK]
  simp [IntKind.wrap, IntKind.signed, IntKind.bits]
  omega
set_option maxRecDepth 100000 in
set_option maxHeartbeats 6400000 in
theorem oc64_any (n : Nat) (w : World) (hn : n < 65536) : Calls Tryd.prog 43 #[.int .u64 (n : Int)] w fun e w' => e = .returned (.int .i64 (ocN n : Int)) ∧ w' = w := by
  have E := hide' (show ocN n = ((let c := ocC (ocB (ocA n)); let d := c + c / 256; let e := d + d / 65536; let f := e + e / 4294967296; f &&& 127) : Nat) from rfl)
  have l1 : n / 2 &&& 6148914691236517205 ≤ n / 2 := Nat.and_le_left
  have l2 : n &&& 6148914691236517205 ≤ n := Nat.and_le_left
  have e1 : bits .and .u64 ((n : Int) / 2) 6148914691236517205 = ((n / 2 &&& 6148914691236517205 : Nat) : Int) := and_u64K (a := n / 2) _ (by omega) (by decide)
  have e2 : bits .and .u64 (n : Int) 6148914691236517205 = ((n &&& 6148914691236517205 : Nat) : Int) := and_u64K _ (by omega) (by decide)
  obtain ⟨a, ha⟩ : ∃ a, ocA n = a := ⟨_, rfl⟩
  have ha' := ha
  unfold ocA at ha'
  obtain ⟨p1, hp1⟩ : ∃ p, n / 2 &&& 6148914691236517205 = p := ⟨_, rfl⟩
  obtain ⟨p2, hp2⟩ : ∃ p, n &&& 6148914691236517205 = p := ⟨_, rfl⟩
  rw [hp1] at e1 l1 ha'
  rw [hp2] at e2 l2 ha'
  have la : a < 131072 := by omega
  have e3 : IntKind.u64.wrap ((p1 : Int) + (p2 : Int)) = (a : Int) := by rw [← ha']; exact wrap_u64K (a := p1 + p2) (by omega)
  rw [ha] at E
  clear ha ha' hp1 hp2 l1 l2
  have m1 : a / 4 &&& 3689348814741910323 ≤ a / 4 := Nat.and_le_left
  have m2 : a &&& 3689348814741910323 ≤ a := Nat.and_le_left
  have f1 : bits .and .u64 ((a : Int) / 4) 3689348814741910323 = ((a / 4 &&& 3689348814741910323 : Nat) : Int) := and_u64K (a := a / 4) _ (by omega) (by decide)
  have f2 : bits .and .u64 (a : Int) 3689348814741910323 = ((a &&& 3689348814741910323 : Nat) : Int) := and_u64K _ (by omega) (by decide)
  obtain ⟨b, hb⟩ : ∃ b, ocB a = b := ⟨_, rfl⟩
  have hb' := hb
  unfold ocB at hb'
  obtain ⟨q1, hq1⟩ : ∃ p, a / 4 &&& 3689348814741910323 = p := ⟨_, rfl⟩
  obtain ⟨q2, hq2⟩ : ∃ p, a &&& 3689348814741910323 = p := ⟨_, rfl⟩
  rw [hq1] at f1 m1 hb'
  rw [hq2] at f2 m2 hb'
  have lb : b < 262144 := by omega
  have f3 : IntKind.u64.wrap ((q1 : Int) + (q2 : Int)) = (b : Int) := by rw [← hb']; exact wrap_u64K (a := q1 + q2) (by omega)
  rw [hb] at E
  clear hb hb' hq1 hq2 m1 m2
  obtain ⟨r, hr⟩ : ∃ r, b / 16 + b = r := ⟨_, rfl⟩
  have lr : r < 524288 := by omega
  have g1 : IntKind.u64.wrap ((b : Int) / 16 + (b : Int)) = (r : Int) := by rw [← hr]; exact wrap_u64K (a := b / 16 + b) (by omega)
  have m3 : r &&& 1085102592571150095 ≤ r := Nat.and_le_left
  have g2 : bits .and .u64 (r : Int) 1085102592571150095 = ((r &&& 1085102592571150095 : Nat) : Int) := and_u64K _ (by omega) (by decide)
  obtain ⟨c, hc⟩ : ∃ c, ocC b = c := ⟨_, rfl⟩
  have hc' := hc
  unfold ocC at hc'
  rw [hr] at hc'
  rw [hc'] at g2 m3
  have lc : c < 524288 := by omega
  rw [hc] at E
  clear hc hc' hr m3
  obtain ⟨d, hd⟩ : ∃ d, c + c / 256 = d := ⟨_, rfl⟩
  obtain ⟨u, hu⟩ : ∃ u, d + d / 65536 = u := ⟨_, rfl⟩
  obtain ⟨f, hf⟩ : ∃ f, u + u / 4294967296 = f := ⟨_, rfl⟩
  have h1 : IntKind.u64.wrap ((c : Int) + (c : Int) / 256) = (d : Int) := by rw [← hd]; exact wrap_u64K (a := c + c / 256) (by omega)
  have h2 : IntKind.u64.wrap ((d : Int) + (d : Int) / 65536) = (u : Int) := by rw [← hu]; exact wrap_u64K (a := d + d / 65536) (by omega)
  have h3 : IntKind.u64.wrap ((u : Int) + (u : Int) / 4294967296) = (f : Int) := by rw [← hf]; exact wrap_u64K (a := u + u / 4294967296) (by omega)
  have lf : f < 1000000 := by omega
  have E2 : ocN n = f &&& 127 := by rw [E.out]; show (c + c / 256 + (c + c / 256) / 65536 + (c + c / 256 + (c + c / 256) / 65536) / 4294967296) &&& 127 = _; rw [hd, hu, hf]
  have h4 : bits .and .i64 (f : Int) 127 = ((f &&& 127 : Nat) : Int) := and_i64K _ (by omega) (by decide)
  rw [E2]
  obtain ⟨g, hg⟩ : ∃ g, f &&& 127 = g := ⟨_, rfl⟩
  rw [hg] at h4 ⊢
  clear hg E2 hd hu hf E
  go_enter Tryd.func43, Tryd.ntmps43
  go_wp2
  go_ret
  exact ⟨rfl, rfl⟩
set_option maxRecDepth 100000 in
theorem oc_any (n : Nat) (w : World) (hn : n < 65536) : Calls Tryd.prog 32 #[.int .u64 (n : Int)] w fun e w' => e = .returned (.int .i64 (ocN n : Int)) ∧ w' = w := by
  have C := hide' (oc64_any n w hn)
  go_enter Tryd.func32, Tryd.ntmps32
  go_wp2_with fail
  refine C.out.mono ?_
  rintro e w2 ⟨rfl, rfl⟩
  go_wp2
  go_ret
  exact ⟨rfl, rfl⟩
end Go.Proofs.YtopcgkncmhhkmaaDoor

