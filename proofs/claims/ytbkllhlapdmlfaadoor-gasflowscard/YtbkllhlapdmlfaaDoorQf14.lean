/-
  What the last text of this claim leans on, part 14: Ga0, Ga5, Gk4, Gk5, Gk6, Gk7, Hg1, Bki.
-/
import Derived.Test.YtbkllhlapdmlfaaDoorQf2
import Derived.Test.YtbkllhlapdmlfaaDoorQf6
import Derived.Test.YtbkllhlapdmlfaaDoorQf11
import Derived.Test.YtbkllhlapdmlfaaDoorQf13
import Derived.Deep.CutRange
namespace Go.Proofs.YtbkllhlapdmlfaaDoor
open Go.RowKit
set_option linter.unusedVariables false
def ones6 (n : Nat) : Nat := n % 2 + n / 2 % 2 + n / 4 % 2 + n / 8 % 2 + n / 16 % 2 + n / 32 % 2
theorem ones6_le (n : Nat) : ones6 n ≤ 6 := by unfold ones6; omega
set_option maxRecDepth 100000 in
set_option maxHeartbeats 6400000 in
theorem ones64_any (n : Nat) (w : World) (hn : n < 64) : Calls Tryd.prog 111 #[.int .u64 (n : Int)] w fun e w' => e = .returned (.int .i64 (ones6 n : Int)) ∧ w' = w := by
  have : n = 0 ∨ n = 1 ∨ n = 2 ∨ n = 3 ∨ n = 4 ∨ n = 5 ∨ n = 6 ∨ n = 7 ∨ n = 8 ∨ n = 9 ∨ n = 10 ∨ n = 11 ∨ n = 12 ∨ n = 13 ∨ n = 14 ∨ n = 15 ∨ n = 16 ∨ n = 17 ∨ n = 18 ∨ n = 19 ∨ n = 20 ∨ n = 21 ∨ n = 22 ∨ n = 23 ∨ n = 24 ∨ n = 25 ∨ n = 26 ∨ n = 27 ∨ n = 28 ∨ n = 29 ∨ n = 30 ∨ n = 31 ∨ n = 32 ∨ n = 33 ∨ n = 34 ∨ n = 35 ∨ n = 36 ∨ n = 37 ∨ n = 38 ∨ n = 39 ∨ n = 40 ∨ n = 41 ∨ n = 42 ∨ n = 43 ∨ n = 44 ∨ n = 45 ∨ n = 46 ∨ n = 47 ∨ n = 48 ∨ n = 49 ∨ n = 50 ∨ n = 51 ∨ n = 52 ∨ n = 53 ∨ n = 54 ∨ n = 55 ∨ n = 56 ∨ n = 57 ∨ n = 58 ∨ n = 59 ∨ n = 60 ∨ n = 61 ∨ n = 62 ∨ n = 63 := by omega
  rcases this with rfl | rfl | rfl | rfl | rfl | rfl | rfl | rfl | rfl | rfl | rfl | rfl | rfl | rfl | rfl | rfl | rfl | rfl | rfl | rfl | rfl | rfl | rfl | rfl | rfl | rfl | rfl | rfl | rfl | rfl | rfl | rfl | rfl | rfl | rfl | rfl | rfl | rfl | rfl | rfl | rfl | rfl | rfl | rfl | rfl | rfl | rfl | rfl | rfl | rfl | rfl | rfl | rfl | rfl | rfl | rfl | rfl | rfl | rfl | rfl | rfl | rfl | rfl | rfl
  all_goals (
    go_enter Tryd.func111, Tryd.ntmps111
    go_wp2
    go_ret
    exact ⟨by kernel_rfl, rfl⟩)
end Go.Proofs.YtbkllhlapdmlfaaDoor

namespace Go.Proofs.YtbkllhlapdmlfaaDoor
open Go.RowKit
set_option linter.unusedVariables false
set_option maxRecDepth 100000 in
theorem ones_any (n : Nat) (w : World) (hn : n < 64) : Calls Tryd.prog 71 #[.int .u64 (n : Int)] w fun e w' => e = .returned (.int .i64 (ones6 n : Int)) ∧ w' = w := by
  have C := hide' (ones64_any n w hn)
  go_enter Tryd.func71, Tryd.ntmps71
  go_wp2_with fail
  refine C.out.mono ?_
  rintro e w2 ⟨rfl, rfl⟩
  go_wp2
  go_ret
  exact ⟨rfl, rfl⟩
set_option maxRecDepth 100000 in
theorem mass_bad (K W H : Int) (xs : List Int) (a : Option Addr) (n c : Nat) (w : World) (hP : ArgP w xs a n c) (h0 : gasE K W H xs ≠ 0) :
    Calls Tryd.prog 27 #[.agg #[.int .i64 K, .int .i64 W, .int .i64 H, .slice a n c]] w fun e w' => e = .returned (.tuple #[.int .i64 0, errOf (gasE K W H xs)]) ∧ Below w.heap.size w w' := by
  obtain ⟨w1, hw1⟩ : ∃ w1, w.alloc (.cells #[.int .i64 K, .int .i64 W, .int .i64 H, .slice a n c] 49) = w1 := ⟨_, rfl⟩
  have BB := hide' (show Below w.heap.size w w1 by rw [← hw1]; exact (Below.refl _ _).alloc (Nat.le_refl _) _)
  have g1 : w1.heap[w.heap.size]? = some (.cells #[.int .i64 K, .int .i64 W, .int .i64 H, .slice a n c] 49 (0, 0)) := by rw [← hw1]; exact heap_alloc_new _ _
  have c0 := cell_of_row w1 _ 0 _ _ _ g1
  have c1 := cell_of_row w1 _ 1 _ _ _ g1
  have c2 := cell_of_row w1 _ 2 _ _ _ g1
  have c3 := cell_of_row w1 _ 3 _ _ _ g1
  simp at c0 c1 c2 c3
  have CC := hide' (Check_G K W H xs a n c w1 (hP.below BB.out))
  have EI := hide' (errOf_posB h0)
  rw [EI.out] at CC ⊢
  clear hP h0 g1
  go_enter Tryd.func27, Tryd.ntmps27
  go_upto_region 1 with fail
  clear hw1
  go_wp2_with fail
  refine CC.out.mono ?_
  rintro e w2 ⟨rfl, b⟩
  have B2 := hide' (BB.out.trans (b.mono BB.out.size))
  clear b c0 c1 c2 c3
  go_wp2
  refine bodyPost_ret (v := .tuple #[.int .i64 0, .iface 83 (.int .i64 ((gasE K W H xs : Nat) : Int))]) (by simp [results, Tryd.results27, go_sem]) rfl ?_
  exact ⟨rfl, B2.out⟩
def massN (f : Nat → Nat) (n : Nat) : Nat := sumB (fun k => ones6 (f k)) n
theorem massN_le (f : Nat → Nat) : ∀ n, massN f n ≤ 6 * n
  | 0 => Nat.le_refl _
  | n + 1 => by
    have := massN_le f n
    have := ones6_le (f n)
    unfold massN at *
    rw [sumB]
    omega
set_option maxRecDepth 100000 in
set_option maxHeartbeats 1600000 in
theorem mass_good (K W H : Int) (f : Nat → Nat) (a : Option Addr) (n c : Nat) (w : World) (hP : ArgP w ((List.range n).map fun i => (f i : Int)) a n c) (h0 : gasE K W H ((List.range n).map fun i => (f i : Int)) = 0) (hf : ∀ i, f i ≤ 63) (hn : n ≤ 10000) :
    Calls Tryd.prog 27 #[.agg #[.int .i64 K, .int .i64 W, .int .i64 H, .slice a n c]] w fun e w' => e = .returned (.tuple #[.int .i64 (massN f n : Int), .nilIface]) ∧ Below w.heap.size w w' := by
  obtain ⟨w1, hw1⟩ : ∃ w1, w.alloc (.cells #[.int .i64 K, .int .i64 W, .int .i64 H, .slice a n c] 49) = w1 := ⟨_, rfl⟩
  have BB := hide' (show Below w.heap.size w w1 by rw [← hw1]; exact (Below.refl _ _).alloc (Nat.le_refl _) _)
  have g1 : w1.heap[w.heap.size]? = some (.cells #[.int .i64 K, .int .i64 W, .int .i64 H, .slice a n c] 49 (0, 0)) := by rw [← hw1]; exact heap_alloc_new _ _
  have SV := hide' (fun (V : World) (h : Below w1.heap.size w1 V) => show V.cell? ⟨w.heap.size, 0, none⟩ = some (.int .i64 K) ∧ V.cell? ⟨w.heap.size, 1, none⟩ = some (.int .i64 W) ∧ V.cell? ⟨w.heap.size, 2, none⟩ = some (.int .i64 H) ∧ V.cell? ⟨w.heap.size, 3, none⟩ = some (.slice a n c) from by
    have e1 := (h.block _ (lt_of_block g1)).trans g1
    exact ⟨cell_of_row V _ 0 _ _ _ e1, cell_of_row V _ 1 _ _ _ e1, cell_of_row V _ 2 _ _ _ e1, cell_of_row V _ 3 _ _ _ e1⟩)
  have CC := hide' (Check_G K W H _ a n c w1 (hP.below BB.out))
  rw [h0, show errOf 0 = .nilIface from rfl] at CC
  have HC := hide' (fun (V : World) (hV : Below w.heap.size w V) k (hk : k < n) => show ∃ g off, a = some ⟨g, off, none⟩ ∧ V.cell? ⟨g, off + k, none⟩ = some (.int .i64 (f k : Int)) from by
    obtain ⟨g, off, e, hg, hc⟩ := (hP.below hV).cells k (by simpa using hk)
    simp only [List.getElem_map, List.getElem_range] at hc
    exact ⟨g, off, e, hc⟩)
  have HF := hide' hf
  obtain ⟨c0, c1, c2, c3⟩ := SV.out w1 (Below.refl _ _)
  clear hP hf g1 h0
  go_enter Tryd.func27, Tryd.ntmps27
  go_upto_region 1 with fail
  clear hw1
  go_wp2_with fail
  refine CC.out.mono ?_
  rintro e w2 ⟨rfl, b⟩
  have B2 := hide' (BB.out.trans (b.mono BB.out.size))
  clear c0 c1 c2 c3
  obtain ⟨c0, c1, c2, c3⟩ := SV.out w2 b
  clear b
  go_wp2
  clear c0 c1 c2 c3
  go_loopw [5, 16] (fun mv iv wr => ∃ (i q : Nat), iv = .int .i64 (i : Int) ∧ mv = .int .i64 (q : Int) ∧ i ≤ n ∧ q ≤ 60000 ∧ Hid (q = massN f i) ∧ wr = w2) (fun _ iv _ => ((n : Int) - intOf iv).toNat)
  case atStart => exact ⟨0, 0, by go_num, by go_num, by omega, by omega, hide' rfl, rfl⟩
  case round =>
    obtain ⟨i, q, rfl, rfl, hi, hq, HQ, rfl⟩ := hrel
    by_cases d : (i : Int) < (n : Int)
    · have il : i < n := by omega
      obtain ⟨g, off, rfl, hc⟩ := HC.out _ B2.out i il
      have x63 := HF.out i
      have NQ := hide' (show q + ones6 (f i) = massN f (i + 1) by rw [HQ.out]; unfold massN; rw [sumB])
      have ql := massN_le f (i + 1)
      rw [← NQ.out] at ql
      obtain ⟨x, hx⟩ : ∃ x, f i = x := ⟨_, rfl⟩
      rw [hx] at hc x63 NQ ql
      have OC := hide' (fun V => ones_any x V (by omega))
      obtain ⟨u, hu⟩ : ∃ u, ones6 x = u := ⟨_, rfl⟩
      have ul := ones6_le x
      rw [hu] at NQ OC ql ul
      clear hx hu
      go_wp2_with fail
      refine (OC.out _).mono ?_
      rintro e w3 ⟨rfl, rfl⟩
      go_wp2
      exact ⟨⟨i + 1, q + u, by go_num, by go_num, by omega, by omega, NQ, by simp⟩, by simp [intOf]; omega⟩
    · have ni : i = n := by omega
      subst ni
      have FQ := hide' HQ.out
      go_wp2
      refine bodyPost_ret (v := .tuple #[.int .i64 (q : Int), .nilIface]) (by simp [results, Tryd.results27, go_sem]) rfl ?_
      rw [← FQ.out]
      exact ⟨rfl, B2.out⟩
end Go.Proofs.YtbkllhlapdmlfaaDoor

namespace Go.Proofs.YtbkllhlapdmlfaaDoor
open Go.RowKit
set_option linter.unusedVariables false
theorem opp_opp {K d : Nat} (hK : K = 4 ∨ K = 6) (hd : d < K) : oppG K (oppG K d) = d := by
  unfold oppG
  rcases hK with rfl | rfl <;> omega
/-- The push of one cell. -/
def cellR (K c : Nat) : Nat → Int
  | 0 => 0
  | d + 1 => cellR K c d + ((c / 2 ^ d % 2 : Nat) : Int) * reG K d
def cellU (K c : Nat) : Nat → Int
  | 0 => 0
  | d + 1 => cellU K c d + ((c / 2 ^ d % 2 : Nat) : Int) * imG K d
theorem aft_coin4 : ∀ c : Fin 16, aftG 4 0 c.val = aftG 4 1 c.val ∧ aftG 4 0 c.val < 16 := by decide +kernel
end Go.Proofs.YtbkllhlapdmlfaaDoor

namespace Go.Proofs.YtbkllhlapdmlfaaDoor
open Go.RowKit
set_option linter.unusedVariables false
theorem small_of_bits {x : Nat} (h : x ≤ 63) (h4 : x / 2 ^ 4 % 2 = 0) (h5 : x / 2 ^ 5 % 2 = 0) : x < 16 := by simp at h4 h5; omega
theorem mv_small {f : Nat → Nat} (hf : ∀ i, f i < 16) (src : Nat → Nat → Nat) (i : Nat) : mvF f src i < 16 := by
  refine small_of_bits (mvF_le f src i) ?_ ?_
  · rw [mv_dig f src i (by omega)]; have := hf (src i 4); simp; omega
  · rw [mv_dig f src i (by omega)]; have := hf (src i 5); simp; omega
theorem mv_in {K : Nat} (hK : K = 4 ∨ K = 6) {f : Nat → Nat} (hf : ∀ i, f i < 2 ^ K) (src : Nat → Nat → Nat) (i : Nat) : mvF f src i < 2 ^ K := by
  rcases hK with rfl | rfl
  · exact mv_small hf src i
  · have := mvF_le f src i; simp; omega
theorem aft_in {K c : Nat} (hK : K = 4 ∨ K = 6) (hc : c < 2 ^ K) (z : Nat) : aftG K z c < 2 ^ K := by
  rcases hK with rfl | rfl
  · have h := aft_coin4 ⟨c, hc⟩
    by_cases q : z = 0
    · subst q; exact h.2
    · rw [aft_one 4 c q, ← h.1]; exact h.2
  · have := aft_le (K := 6) (c := c) (by omega) (by simp at hc; omega) z
    simp; omega
theorem flow_in {K W H m : Nat} (hK : K = 4 ∨ K = 6) {cs f : Nat → Nat} (hf : ∀ i, f i < 2 ^ K) : ∀ i j, flowG K W H m cs f i j < 2 ^ K
  | 0, j => hf j
  | i + 1, j => mv_in hK (fun k => aft_in hK (flow_in hK hf i k) _) _ j
end Go.Proofs.YtbkllhlapdmlfaaDoor

namespace Go.Proofs.YtbkllhlapdmlfaaDoor
open Go.RowKit
set_option linter.unusedVariables false
theorem pushR_cell (K : Nat) (f : Nat → Nat) (n : Nat) : ∀ j, pushR K f (n + 1) j = pushR K f n j + cellR K (f n) j
  | 0 => rfl
  | j + 1 => by
    rw [pushR, pushR, cellR, pushR_cell K f n j]
    unfold headN
    rw [sumB]
    push_cast
    rw [Int.add_mul]
    omega
theorem pushU_cell (K : Nat) (f : Nat → Nat) (n : Nat) : ∀ j, pushU K f (n + 1) j = pushU K f n j + cellU K (f n) j
  | 0 => rfl
  | j + 1 => by
    rw [pushU, pushU, cellU, pushU_cell K f n j]
    unfold headN
    rw [sumB]
    push_cast
    rw [Int.add_mul]
    omega
theorem pushR_none (K : Nat) (f : Nat → Nat) : ∀ j, pushR K f 0 j = 0
  | 0 => rfl
  | j + 1 => by rw [pushR, pushR_none K f j]; simp [headN, sumB]
theorem pushU_none (K : Nat) (f : Nat → Nat) : ∀ j, pushU K f 0 j = 0
  | 0 => rfl
  | j + 1 => by rw [pushU, pushU_none K f j]; simp [headN, sumB]
end Go.Proofs.YtbkllhlapdmlfaaDoor

namespace Go.Proofs.YtbkllhlapdmlfaaDoor
open Go.RowKit
set_option linter.unusedVariables false
end Go.Proofs.YtbkllhlapdmlfaaDoor

namespace Go.Proofs.YtbkllhlapdmlfaaDoor
open Go.RowKit
set_option linter.unusedVariables false
theorem sumB_at {g g' : Nat → Nat} {o δ : Nat} (h : ∀ q, q ≠ o → g q = g' q) (ho : g o = g' o + δ) : ∀ n, sumB g n = sumB g' n + (if o < n then δ else 0)
  | 0 => rfl
  | n + 1 => by
    rw [sumB, sumB, sumB_at h ho n]
    by_cases e : n = o
    · subst e
      rw [ho, if_neg (by omega), if_pos (by omega)]
      omega
    · rw [h n e]
      by_cases l : o < n
      · rw [if_pos l, if_pos (by omega)]; omega
      · rw [if_neg l, if_neg (by omega)]; omega
/-- What has come to a cell, so far as the particles are carried. -/
def scG (K W H : Nat) (v f : Nat → Nat) (k d j : Nat) : Nat := sumB (fun o => if srcG K W H j o < k ∨ (srcG K W H j o = k ∧ v o < d) then f (srcG K W H j o) / 2 ^ (v o) % 2 * 2 ^ o else 0) K
theorem sumB_pow {g : Nat → Nat} (h : ∀ o, g o ≤ 2 ^ o) : ∀ n, sumB g n < 2 ^ n
  | 0 => by simp [sumB]
  | n + 1 => by
    have h1 := sumB_pow h n
    have h2 := h n
    rw [sumB, Nat.pow_succ]
    omega
theorem sc_lt (K W H : Nat) (v f : Nat → Nat) (k d j : Nat) : scG K W H v f k d j < 2 ^ K := by
  unfold scG
  refine sumB_pow (fun o => ?_) K
  split
  · have : f (srcG K W H j o) / 2 ^ (v o) % 2 ≤ 1 := by omega
    have := Nat.mul_le_mul_right (2 ^ o) this
    omega
  · exact Nat.zero_le _
theorem sc_le {K : Nat} (hK : K = 4 ∨ K = 6) (W H : Nat) (v f : Nat → Nat) (k d j : Nat) : scG K W H v f k d j ≤ 63 := by
  have := sc_lt K W H v f k d j
  rcases hK with rfl | rfl <;> simp at this <;> omega
theorem sc_zero (K W H : Nat) (v f : Nat → Nat) (j : Nat) : scG K W H v f 0 0 j = 0 := by
  unfold scG
  rw [show (fun o => if srcG K W H j o < 0 ∨ (srcG K W H j o = 0 ∧ v o < 0) then f (srcG K W H j o) / 2 ^ (v o) % 2 * 2 ^ o else 0) = fun _ => 0 from funext fun o => if_neg (by omega)]
  exact sumB_zero K
theorem sc_row {K W H : Nat} {v : Nat → Nat} (hv : ∀ o, o < K → v o < K) (f : Nat → Nat) (k j : Nat) : scG K W H v f k K j = scG K W H v f (k + 1) 0 j := by
  unfold scG
  refine sumB_ext K fun o ho => ?_
  have := hv o ho
  by_cases h : srcG K W H j o < k ∨ (srcG K W H j o = k ∧ v o < K)
  · rw [if_pos h, if_pos (by omega)]
  · rw [if_neg h, if_neg (by omega)]
theorem sc_step {K W H : Nat} (hK : K = 4 ∨ K = 6) (hH : K = 6 → H % 2 = 0) (W1 : 1 ≤ W) (H1 : 1 ≤ H) {v : Nat → Nat} (hv : ∀ o, o < K → v o < K ∧ v (v o) = o) (f : Nat → Nat) {k d j : Nat} (hk : k < W * H) (hd : d < K) (hj : j < W * H) :
    scG K W H v f k (d + 1) j = scG K W H v f k d j + (if j = srcG K W H k (oppG K (v d)) then f k / 2 ^ d % 2 * 2 ^ (v d) else 0) := by
  have vd := hv d hd
  have back : srcG K W H j (v d) = k ↔ j = srcG K W H k (oppG K (v d)) := by
    constructor
    · intro h; rw [← h]; exact (src_back hK hH W1 H1 hj vd.1).symm
    · intro h
      have := src_back hK hH W1 H1 hk (opp_lt (d := v d) hK)
      rw [opp_opp hK vd.1] at this
      rw [h]; exact this
  unfold scG
  have e := fun (δ : Nat) (g g' : Nat → Nat) (h : ∀ q, q ≠ v d → g q = g' q) (ho : g (v d) = g' (v d) + δ) => sumB_at (o := v d) h ho K
  by_cases h : j = srcG K W H k (oppG K (v d))
  · rw [if_pos h]
    have hb := back.2 h
    have := e (f k / 2 ^ d % 2 * 2 ^ (v d)) (fun o => if srcG K W H j o < k ∨ (srcG K W H j o = k ∧ (if o < K then v o < d + 1 else v o < d)) then f (srcG K W H j o) / 2 ^ (v o) % 2 * 2 ^ o else 0) (fun o => if srcG K W H j o < k ∨ (srcG K W H j o = k ∧ v o < d) then f (srcG K W H j o) / 2 ^ (v o) % 2 * 2 ^ o else 0) (fun q hq => ?_) ?_
    · rw [if_pos vd.1] at this
      rw [← this]
      exact sumB_ext K fun o ho => by simp only [ho, if_true]
    · have : q < K → (v q < d + 1 ↔ v q < d) := fun hqk => by
        have : v q ≠ d := fun c => hq (by rw [← c, (hv q hqk).2])
        omega
      by_cases hqk : q < K
      · simp only [hqk, if_true, this hqk]
      · simp only [hqk, if_false]
    · simp only [vd.1, if_true, hb, vd.2]
      rw [if_pos (Or.inr ⟨trivial, Nat.lt_succ_self d⟩), if_neg (by omega), Nat.zero_add]
  · rw [if_neg h]
    have hb : srcG K W H j (v d) ≠ k := fun c => h (back.1 c)
    refine (sumB_ext K fun o ho => ?_).trans (Nat.add_zero _).symm
    by_cases hq : o = v d
    · subst hq
      by_cases c : srcG K W H j (v d) < k
      · rw [if_pos (by omega), if_pos (by omega)]
      · rw [if_neg (by omega), if_neg (by omega)]
    · have : v o ≠ d := fun c => hq (by rw [← c, (hv o ho).2])
      by_cases c : srcG K W H j o < k ∨ (srcG K W H j o = k ∧ v o < d)
      · rw [if_pos c, if_pos (by omega)]
      · rw [if_neg c, if_neg (by omega)]
theorem sum_digits {x : Nat} : ∀ {n : Nat}, x < 2 ^ n → sumB (fun d => x / 2 ^ d % 2 * 2 ^ d) n = x
  | 0, h => by simp at h; simp [sumB, h]
  | n + 1, h => by
    have e : sumB (fun d => x / 2 ^ d % 2 * 2 ^ d) n = x % 2 ^ n := by
      rw [← sum_digits (x := x % 2 ^ n) (n := n) (Nat.mod_lt _ (Nat.two_pow_pos n))]
      refine sumB_ext n fun d hd => ?_
      rw [bit_dig, bit_dig, Nat.testBit_mod_two_pow]
      simp [hd]
    rw [sumB, e]
    have h2 : x / 2 ^ n < 2 := Nat.div_lt_of_lt_mul (by rw [Nat.pow_succ] at h; omega)
    rw [Nat.mod_eq_of_lt h2]
    have := Nat.div_add_mod x (2 ^ n)
    rw [Nat.mul_comm] at this
    omega
theorem sc_end {K W H : Nat} (hK : K = 4 ∨ K = 6) (W1 : 1 ≤ W) (H1 : 1 ≤ H) {v f g : Nat → Nat} (hg : ∀ i, g i < 2 ^ K) (hv : ∀ i o, o < K → f i / 2 ^ (v o) % 2 = g i / 2 ^ o % 2) (j : Nat) : scG K W H v f (W * H) 0 j = mvF g (srcG K W H) j := by
  rw [← sum_digits (mv_in hK hg (srcG K W H) j)]
  unfold scG
  refine sumB_ext K fun o ho => ?_
  have := src_lt hK W1 H1 j o
  rw [if_pos (Or.inl this), mv_dig g (srcG K W H) j (by omega), hv _ o ho]
theorem tn_bits6 : ∀ (c : Fin 64) (d : Fin 6), c.val / 2 ^ (oppG 6 d.val) % 2 = tnG 6 3 c.val / 2 ^ d.val % 2 ∧ tnG 6 3 c.val < 64 := by decide +kernel
theorem tn_bits4 : ∀ (c : Fin 16) (d : Fin 4), c.val / 2 ^ (oppG 4 d.val) % 2 = tnG 4 2 c.val / 2 ^ d.val % 2 ∧ tnG 4 2 c.val < 16 := by decide +kernel
theorem tn_all {K c d : Nat} (hK : K = 4 ∨ K = 6) (hc : c < 2 ^ K) (hd : d < K) : c / 2 ^ (oppG K d) % 2 = tnG K (K / 2) c / 2 ^ d % 2 ∧ tnG K (K / 2) c < 2 ^ K := by
  rcases hK with rfl | rfl
  · exact tn_bits4 ⟨c, hc⟩ ⟨d, hd⟩
  · exact tn_bits6 ⟨c, hc⟩ ⟨d, hd⟩
/-- How far a direction goes to the right and down. -/
def dxG (K y d : Nat) : Int := if K = 4 then (if d = 0 then 1 else if d = 2 then -1 else 0) else if d = 0 then 1 else if d = 3 then -1 else if d = 2 ∨ d = 4 then ((y % 2 : Nat) : Int) - 1 else ((y % 2 : Nat) : Int)
def dyG (K d : Nat) : Int := if K = 4 then (if d = 1 then -1 else if d = 3 then 1 else 0) else if d = 1 ∨ d = 2 then -1 else if d = 4 ∨ d = 5 then 1 else 0
theorem next_of {K W H : Nat} (hK : K = 4 ∨ K = 6) {x y d : Nat} (hd : d < K) (hx : x < W) : srcG K W H (y * W + x) (oppG K d) = (((y : Int) + dyG K d + (H : Int)).tmod (H : Int)).toNat * W + (((x : Int) + dxG K y d + (W : Int)).tmod (W : Int)).toNat := by
  have d1 : (y * W + x) / W = y := by rw [Nat.mul_comm, Nat.mul_add_div (by omega), Nat.div_eq_of_lt hx, Nat.add_zero]
  have m1 : (y * W + x) % W = x := by rw [Nat.mul_comm, Nat.mul_add_mod]; exact Nat.mod_eq_of_lt hx
  unfold srcG
  rw [if_pos (opp_lt hK), d1, m1]
  unfold rowG colG
  have e1 : imG K (oppG K d) = dyG K d := by
    rcases hK with rfl | rfl
    · rcases (by omega : d = 0 ∨ d = 1 ∨ d = 2 ∨ d = 3) with rfl | rfl | rfl | rfl <;> decide
    · rcases (by omega : d = 0 ∨ d = 1 ∨ d = 2 ∨ d = 3 ∨ d = 4 ∨ d = 5) with rfl | rfl | rfl | rfl | rfl | rfl <;> decide
  have e2 : xG K x y (oppG K d) = (x : Int) + dxG K y d := by
    unfold xG
    rw [e1]
    rcases hK with rfl | rfl
    · rcases (by omega : d = 0 ∨ d = 1 ∨ d = 2 ∨ d = 3) with rfl | rfl | rfl | rfl <;> simp [leanG, dxG, oppG, reG, re4] <;> omega
    · rcases (by omega : d = 0 ∨ d = 1 ∨ d = 2 ∨ d = 3 ∨ d = 4 ∨ d = 5) with rfl | rfl | rfl | rfl | rfl | rfl <;> simp [leanG, dxG, dyG, oppG, reG, re6] <;> omega
  rw [e1, e2]
end Go.Proofs.YtbkllhlapdmlfaaDoor

namespace Go.Proofs.YtbkllhlapdmlfaaDoor
open Go.RowKit
set_option linter.unusedVariables false
theorem wrap64_small (n : Nat) (h : n ≤ 1000000) : wrap64 (n : Int) = (n : Int) := by simp [wrap64]; omega
theorem ArgP.keepB {w w' : World} {xs : List Int} {a : Option Addr} {n c : Nat} (h : ArgP w xs a n c) (hk : 0 < xs.length → ∀ g off, a = some ⟨g, off, none⟩ → w'.heap[g]? = w.heap[g]?) : ArgP w' xs a n c :=
  ⟨h.len, h.max, fun k hk' => by
    obtain ⟨g, off, e, hg, hc⟩ := h.cells k hk'
    have b := hk (by omega) g off e
    refine ⟨g, off, e, ?_, (World.cell?_of_block (w := w) (a := ⟨g, off + k, none⟩) b).trans hc⟩
    rcases Nat.lt_or_ge g w'.heap.size with u | u
    · exact u
    · rw [Array.getElem?_eq_none u, Array.getElem?_eq_getElem hg] at b; cases b⟩
end Go.Proofs.YtbkllhlapdmlfaaDoor

