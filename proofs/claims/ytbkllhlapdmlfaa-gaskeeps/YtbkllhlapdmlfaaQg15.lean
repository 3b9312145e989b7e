/-
  What the last text of this claim leans on, part 15: Ga0, Ga5, Gk4, Gk5, Gk6, Gk7.
-/
import Derived.Test.YtbkllhlapdmlfaaQg2
import Derived.Test.YtbkllhlapdmlfaaQg6
import Derived.Test.YtbkllhlapdmlfaaQg11
import Derived.Test.YtbkllhlapdmlfaaQg14
import Derived.Deep.CutRange
namespace Go.Proofs.Ytbkllhlapdmlfaa
open Go.RowKit
set_option linter.unusedVariables false
def ones6 (n : Nat) : Nat := n % 2 + n / 2 % 2 + n / 4 % 2 + n / 8 % 2 + n / 16 % 2 + n / 32 % 2
theorem ones6_le (n : Nat) : ones6 n ≤ 6 := by unfold ones6; omega
set_option maxRecDepth 100000 in
set_option maxHeartbeats 6400000 in
theorem ones64_any (n : Nat) (w : World) (hn : n < 64) : Calls Try.prog 35 #[.int .u64 (n : Int)] w fun e w' => e = .returned (.int .i64 (ones6 n : Int)) ∧ w' = w := by
  have : n = 0 ∨ n = 1 ∨ n = 2 ∨ n = 3 ∨ n = 4 ∨ n = 5 ∨ n = 6 ∨ n = 7 ∨ n = 8 ∨ n = 9 ∨ n = 10 ∨ n = 11 ∨ n = 12 ∨ n = 13 ∨ n = 14 ∨ n = 15 ∨ n = 16 ∨ n = 17 ∨ n = 18 ∨ n = 19 ∨ n = 20 ∨ n = 21 ∨ n = 22 ∨ n = 23 ∨ n = 24 ∨ n = 25 ∨ n = 26 ∨ n = 27 ∨ n = 28 ∨ n = 29 ∨ n = 30 ∨ n = 31 ∨ n = 32 ∨ n = 33 ∨ n = 34 ∨ n = 35 ∨ n = 36 ∨ n = 37 ∨ n = 38 ∨ n = 39 ∨ n = 40 ∨ n = 41 ∨ n = 42 ∨ n = 43 ∨ n = 44 ∨ n = 45 ∨ n = 46 ∨ n = 47 ∨ n = 48 ∨ n = 49 ∨ n = 50 ∨ n = 51 ∨ n = 52 ∨ n = 53 ∨ n = 54 ∨ n = 55 ∨ n = 56 ∨ n = 57 ∨ n = 58 ∨ n = 59 ∨ n = 60 ∨ n = 61 ∨ n = 62 ∨ n = 63 := by omega
  rcases this with rfl | rfl | rfl | rfl | rfl | rfl | rfl | rfl | rfl | rfl | rfl | rfl | rfl | rfl | rfl | rfl | rfl | rfl | rfl | rfl | rfl | rfl | rfl | rfl | rfl | rfl | rfl | rfl | rfl | rfl | rfl | rfl | rfl | rfl | rfl | rfl | rfl | rfl | rfl | rfl | rfl | rfl | rfl | rfl | rfl | rfl | rfl | rfl | rfl | rfl | rfl | rfl | rfl | rfl | rfl | rfl | rfl | rfl | rfl | rfl | rfl | rfl | rfl | rfl
  all_goals (
    go_enter Try.func35, Try.ntmps35
    go_wp2
    go_ret
    exact ⟨by kernel_rfl, rfl⟩)
end Go.Proofs.Ytbkllhlapdmlfaa

namespace Go.Proofs.Ytbkllhlapdmlfaa
open Go.RowKit
set_option linter.unusedVariables false
set_option maxRecDepth 100000 in
theorem ones_any (n : Nat) (w : World) (hn : n < 64) : Calls Try.prog 16 #[.int .u64 (n : Int)] w fun e w' => e = .returned (.int .i64 (ones6 n : Int)) ∧ w' = w := by
  have C := hide' (ones64_any n w hn)
  go_enter Try.func16, Try.ntmps16
  go_wp2_with fail
  refine C.out.mono ?_
  rintro e w2 ⟨rfl, rfl⟩
  go_wp2
  go_ret
  exact ⟨rfl, rfl⟩
def massN (f : Nat → Nat) (n : Nat) : Nat := sumB (fun k => ones6 (f k)) n
theorem massN_le (f : Nat → Nat) : ∀ n, massN f n ≤ 6 * n
  | 0 => Nat.le_refl _
  | n + 1 => by
    have := massN_le f n
    have := ones6_le (f n)
    unfold massN at *
    rw [sumB]
    omega
set_option maxRecDepth 100000 in
set_option maxHeartbeats 1600000 in
theorem mass_good (K W H : Int) (f : Nat → Nat) (a : Option Addr) (n c : Nat) (w : World) (hP : ArgP w ((List.range n).map fun i => (f i : Int)) a n c) (h0 : gasE K W H ((List.range n).map fun i => (f i : Int)) = 0) (hf : ∀ i, f i ≤ 63) (hn : n ≤ 10000) :
    Calls Try.prog 6 #[.agg #[.int .i64 K, .int .i64 W, .int .i64 H, .slice a n c]] w fun e w' => e = .returned (.tuple #[.int .i64 (massN f n : Int), .nilIface]) ∧ Below w.heap.size w w' := by
  obtain ⟨w1, hw1⟩ : ∃ w1, w.alloc (.cells #[.int .i64 K, .int .i64 W, .int .i64 H, .slice a n c] 24) = w1 := ⟨_, rfl⟩
  have BB := hide' (show Below w.heap.size w w1 by rw [← hw1]; exact (Below.refl _ _).alloc (Nat.le_refl _) _)
  have g1 : w1.heap[w.heap.size]? = some (.cells #[.int .i64 K, .int .i64 W, .int .i64 H, .slice a n c] 24 (0, 0)) := by rw [← hw1]; exact heap_alloc_new _ _
  have SV := hide' (fun (V : World) (h : Below w1.heap.size w1 V) => show V.cell? ⟨w.heap.size, 0, none⟩ = some (.int .i64 K) ∧ V.cell? ⟨w.heap.size, 1, none⟩ = some (.int .i64 W) ∧ V.cell? ⟨w.heap.size, 2, none⟩ = some (.int .i64 H) ∧ V.cell? ⟨w.heap.size, 3, none⟩ = some (.slice a n c) from by
    have e1 := (h.block _ (lt_of_block g1)).trans g1
    exact ⟨cell_of_row V _ 0 _ _ _ e1, cell_of_row V _ 1 _ _ _ e1, cell_of_row V _ 2 _ _ _ e1, cell_of_row V _ 3 _ _ _ e1⟩)
  have CC := hide' (Check_G K W H _ a n c w1 (hP.below BB.out))
  rw [h0, show errOf 0 = .nilIface from rfl] at CC
  have HC := hide' (fun (V : World) (hV : Below w.heap.size w V) k (hk : k < n) => show ∃ g off, a = some ⟨g, off, none⟩ ∧ V.cell? ⟨g, off + k, none⟩ = some (.int .i64 (f k : Int)) from by
    obtain ⟨g, off, e, hg, hc⟩ := (hP.below hV).cells k (by simpa using hk)
    simp only [List.getElem_map, List.getElem_range] at hc
    exact ⟨g, off, e, hc⟩)
  have HF := hide' hf
  obtain ⟨c0, c1, c2, c3⟩ := SV.out w1 (Below.refl _ _)
  clear hP hf g1 h0
  go_enter Try.func6, Try.ntmps6
  go_upto_region 1 with fail
  clear hw1
  go_wp2_with fail
  refine CC.out.mono ?_
  rintro e w2 ⟨rfl, b⟩
  have B2 := hide' (BB.out.trans (b.mono BB.out.size))
  clear c0 c1 c2 c3
  obtain ⟨c0, c1, c2, c3⟩ := SV.out w2 b
  clear b
  go_wp2
  clear c0 c1 c2 c3
  go_loopw [5, 16] (fun mv iv wr => ∃ (i q : Nat), iv = .int .i64 (i : Int) ∧ mv = .int .i64 (q : Int) ∧ i ≤ n ∧ q ≤ 60000 ∧ Hid (q = massN f i) ∧ wr = w2) (fun _ iv _ => ((n : Int) - intOf iv).toNat)
  case atStart => exact ⟨0, 0, by go_num, by go_num, by omega, by omega, hide' rfl, rfl⟩
  case round =>
    obtain ⟨i, q, rfl, rfl, hi, hq, HQ, rfl⟩ := hrel
    by_cases d : (i : Int) < (n : Int)
    · have il : i < n := by omega
      obtain ⟨g, off, rfl, hc⟩ := HC.out _ B2.out i il
      have x63 := HF.out i
      have NQ := hide' (show q + ones6 (f i) = massN f (i + 1) by rw [HQ.out]; unfold massN; rw [sumB])
      have ql := massN_le f (i + 1)
      rw [← NQ.out] at ql
      obtain ⟨x, hx⟩ : ∃ x, f i = x := ⟨_, rfl⟩
      rw [hx] at hc x63 NQ ql
      have OC := hide' (fun V => ones_any x V (by omega))
      obtain ⟨u, hu⟩ : ∃ u, ones6 x = u := ⟨_, rfl⟩
      have ul := ones6_le x
      rw [hu] at NQ OC ql ul
      clear hx hu
      go_wp2_with fail
      refine (OC.out _).mono ?_
      rintro e w3 ⟨rfl, rfl⟩
      go_wp2
      exact ⟨⟨i + 1, q + u, by go_num, by go_num, by omega, by omega, NQ, by simp⟩, by simp [intOf]; omega⟩
    · have ni : i = n := by omega
      subst ni
      have FQ := hide' HQ.out
      go_wp2
      refine bodyPost_ret (v := .tuple #[.int .i64 (q : Int), .nilIface]) (by simp [results, Try.results6, go_sem]) rfl ?_
      rw [← FQ.out]
      exact ⟨rfl, B2.out⟩
end Go.Proofs.Ytbkllhlapdmlfaa

namespace Go.Proofs.Ytbkllhlapdmlfaa
open Go.RowKit
set_option linter.unusedVariables false
theorem opp_opp {K d : Nat} (hK : K = 4 ∨ K = 6) (hd : d < K) : oppG K (oppG K d) = d := by
  unfold oppG
  rcases hK with rfl | rfl <;> omega
theorem head_move {K W H : Nat} (hK : K = 4 ∨ K = 6) (hH : K = 6 → H % 2 = 0) (W1 : 1 ≤ W) (H1 : 1 ≤ H) (f : Nat → Nat) {d : Nat} (hd : d < K) : headN (mvF f (srcG K W H)) d (W * H) = headN f d (W * H) := by
  unfold headN
  have e : sumB (fun k => mvF f (srcG K W H) k / 2 ^ d % 2) (W * H) = sumB (fun k => (fun j => f j / 2 ^ d % 2) (srcG K W H k d)) (W * H) := sumB_ext _ fun k _ => mv_dig f _ k (by omega)
  rw [e]
  refine sumB_order (p := fun i => srcG K W H i d) (q := fun i => srcG K W H i (oppG K d)) (fun i hi => ⟨src_lt hK W1 H1 i d, src_back hK hH W1 H1 hi hd⟩) (fun j hj => ⟨src_lt hK W1 H1 j _, ?_⟩) (fun j => f j / 2 ^ d % 2)
  have := src_back hK hH W1 H1 hj (opp_lt (d := d) hK)
  rwa [opp_opp hK hd] at this
theorem meet_ones4 : ∀ c : Fin 16, ones6 (aftG 4 0 c.val) = ones6 c.val ∧ ones6 (aftG 4 1 c.val) = ones6 c.val := by decide +kernel
theorem meet_ones6 : ∀ c : Fin 64, ones6 (aftG 6 0 c.val) = ones6 c.val ∧ ones6 (aftG 6 1 c.val) = ones6 c.val := by decide +kernel
/-- The push of one cell. -/
def cellR (K c : Nat) : Nat → Int
  | 0 => 0
  | d + 1 => cellR K c d + ((c / 2 ^ d % 2 : Nat) : Int) * reG K d
def cellU (K c : Nat) : Nat → Int
  | 0 => 0
  | d + 1 => cellU K c d + ((c / 2 ^ d % 2 : Nat) : Int) * imG K d
theorem meet_push4 : ∀ c : Fin 16, cellR 4 (aftG 4 0 c.val) 4 = cellR 4 c.val 4 ∧ cellR 4 (aftG 4 1 c.val) 4 = cellR 4 c.val 4 ∧ cellU 4 (aftG 4 0 c.val) 4 = cellU 4 c.val 4 ∧ cellU 4 (aftG 4 1 c.val) 4 = cellU 4 c.val 4 := by decide +kernel
theorem meet_push6 : ∀ c : Fin 64, cellR 6 (aftG 6 0 c.val) 6 = cellR 6 c.val 6 ∧ cellR 6 (aftG 6 1 c.val) 6 = cellR 6 c.val 6 ∧ cellU 6 (aftG 6 0 c.val) 6 = cellU 6 c.val 6 ∧ cellU 6 (aftG 6 1 c.val) 6 = cellU 6 c.val 6 := by decide +kernel
theorem aft_coin4 : ∀ c : Fin 16, aftG 4 0 c.val = aftG 4 1 c.val ∧ aftG 4 0 c.val < 16 := by decide +kernel
end Go.Proofs.Ytbkllhlapdmlfaa

namespace Go.Proofs.Ytbkllhlapdmlfaa
open Go.RowKit
set_option linter.unusedVariables false
theorem mass_heads (f : Nat → Nat) (n : Nat) : massN f n = headN f 0 n + headN f 1 n + headN f 2 n + headN f 3 n + headN f 4 n + headN f 5 n := by
  unfold massN headN
  rw [← sumB_add, ← sumB_add, ← sumB_add, ← sumB_add, ← sumB_add]
  exact sumB_ext n fun k _ => by unfold ones6; simp
theorem head_none {f : Nat → Nat} (hf : ∀ i, f i < 16) {d : Nat} (hd : 4 ≤ d) (n : Nat) : headN f d n = 0 := by
  unfold headN
  have : sumB (fun k => f k / 2 ^ d % 2) n = sumB (fun _ => 0) n := sumB_ext n fun k _ => by
    have h1 := hf k
    have h2 : 2 ^ 4 ≤ 2 ^ d := Nat.pow_le_pow_right (Nat.succ_pos 1) hd
    rw [Nat.div_eq_of_lt (Nat.lt_of_lt_of_le h1 h2)]
  rw [this, sumB_zero]
theorem small_of_bits {x : Nat} (h : x ≤ 63) (h4 : x / 2 ^ 4 % 2 = 0) (h5 : x / 2 ^ 5 % 2 = 0) : x < 16 := by simp at h4 h5; omega
theorem mv_small {f : Nat → Nat} (hf : ∀ i, f i < 16) (src : Nat → Nat → Nat) (i : Nat) : mvF f src i < 16 := by
  refine small_of_bits (mvF_le f src i) ?_ ?_
  · rw [mv_dig f src i (by omega)]; have := hf (src i 4); simp; omega
  · rw [mv_dig f src i (by omega)]; have := hf (src i 5); simp; omega
theorem mv_in {K : Nat} (hK : K = 4 ∨ K = 6) {f : Nat → Nat} (hf : ∀ i, f i < 2 ^ K) (src : Nat → Nat → Nat) (i : Nat) : mvF f src i < 2 ^ K := by
  rcases hK with rfl | rfl
  · exact mv_small hf src i
  · have := mvF_le f src i; simp; omega
theorem aft_in {K c : Nat} (hK : K = 4 ∨ K = 6) (hc : c < 2 ^ K) (z : Nat) : aftG K z c < 2 ^ K := by
  rcases hK with rfl | rfl
  · have h := aft_coin4 ⟨c, hc⟩
    by_cases q : z = 0
    · subst q; exact h.2
    · rw [aft_one 4 c q, ← h.1]; exact h.2
  · have := aft_le (K := 6) (c := c) (by omega) (by simp at hc; omega) z
    simp; omega
theorem aft_ones {K c : Nat} (hK : K = 4 ∨ K = 6) (hc : c < 2 ^ K) (z : Nat) : ones6 (aftG K z c) = ones6 c := by
  rcases hK with rfl | rfl
  · have h := meet_ones4 ⟨c, hc⟩
    by_cases q : z = 0
    · subst q; exact h.1
    · rw [aft_one 4 c q]; exact h.2
  · have h := meet_ones6 ⟨c, hc⟩
    by_cases q : z = 0
    · subst q; exact h.1
    · rw [aft_one 6 c q]; exact h.2
theorem mass_move {K W H : Nat} (hK : K = 4 ∨ K = 6) (hH : K = 6 → H % 2 = 0) (W1 : 1 ≤ W) (H1 : 1 ≤ H) {f : Nat → Nat} (hf : ∀ i, f i < 2 ^ K) : massN (mvF f (srcG K W H)) (W * H) = massN f (W * H) := by
  rw [mass_heads, mass_heads]
  rcases hK with rfl | rfl
  · have hm := fun i => mv_small (f := f) hf (srcG 4 W H) i
    rw [head_move (K := 4) (by omega) hH W1 H1 f (by omega), head_move (K := 4) (by omega) hH W1 H1 f (by omega), head_move (K := 4) (by omega) hH W1 H1 f (by omega), head_move (K := 4) (by omega) hH W1 H1 f (by omega), head_none (d := 4) hm (by omega), head_none (d := 5) hm (by omega), head_none (f := f) (d := 4) hf (by omega), head_none (f := f) (d := 5) hf (by omega)]
  · rw [head_move (K := 6) (by omega) hH W1 H1 f (by omega), head_move (K := 6) (by omega) hH W1 H1 f (by omega), head_move (K := 6) (by omega) hH W1 H1 f (by omega), head_move (K := 6) (by omega) hH W1 H1 f (by omega), head_move (K := 6) (by omega) hH W1 H1 f (by omega), head_move (K := 6) (by omega) hH W1 H1 f (by omega)]
theorem flow_in {K W H m : Nat} (hK : K = 4 ∨ K = 6) {cs f : Nat → Nat} (hf : ∀ i, f i < 2 ^ K) : ∀ i j, flowG K W H m cs f i j < 2 ^ K
  | 0, j => hf j
  | i + 1, j => mv_in hK (fun k => aft_in hK (flow_in hK hf i k) _) _ j
/-- A run keeps how many particles there are. -/
theorem flow_mass {K W H m : Nat} (hK : K = 4 ∨ K = 6) (hH : K = 6 → H % 2 = 0) (W1 : 1 ≤ W) (H1 : 1 ≤ H) {cs f : Nat → Nat} (hf : ∀ i, f i < 2 ^ K) : ∀ i, massN (flowG K W H m cs f i) (W * H) = massN f (W * H)
  | 0 => rfl
  | i + 1 => by
    have hm : ∀ k, metG K (W * H) m cs (flowG K W H m cs f i) i k < 2 ^ K := fun k => aft_in hK (flow_in hK hf i k) _
    rw [flowG, mass_move hK hH W1 H1 hm, ← flow_mass (m := m) (cs := cs) hK hH W1 H1 hf i]
    unfold massN
    exact sumB_ext _ fun k _ => aft_ones hK (flow_in hK hf i k) _
end Go.Proofs.Ytbkllhlapdmlfaa

namespace Go.Proofs.Ytbkllhlapdmlfaa
open Go.RowKit
set_option linter.unusedVariables false
theorem pushR_same {K n : Nat} {f g : Nat → Nat} : ∀ j, (∀ d, d < j → headN f d n = headN g d n) → pushR K f n j = pushR K g n j
  | 0, _ => rfl
  | j + 1, h => by rw [pushR, pushR, pushR_same j (fun d hd => h d (by omega)), h j (by omega)]
theorem pushU_same {K n : Nat} {f g : Nat → Nat} : ∀ j, (∀ d, d < j → headN f d n = headN g d n) → pushU K f n j = pushU K g n j
  | 0, _ => rfl
  | j + 1, h => by rw [pushU, pushU, pushU_same j (fun d hd => h d (by omega)), h j (by omega)]
theorem pushR_cell (K : Nat) (f : Nat → Nat) (n : Nat) : ∀ j, pushR K f (n + 1) j = pushR K f n j + cellR K (f n) j
  | 0 => rfl
  | j + 1 => by
    rw [pushR, pushR, cellR, pushR_cell K f n j]
    unfold headN
    rw [sumB]
    push_cast
    rw [Int.add_mul]
    omega
theorem pushU_cell (K : Nat) (f : Nat → Nat) (n : Nat) : ∀ j, pushU K f (n + 1) j = pushU K f n j + cellU K (f n) j
  | 0 => rfl
  | j + 1 => by
    rw [pushU, pushU, cellU, pushU_cell K f n j]
    unfold headN
    rw [sumB]
    push_cast
    rw [Int.add_mul]
    omega
theorem pushR_none (K : Nat) (f : Nat → Nat) : ∀ j, pushR K f 0 j = 0
  | 0 => rfl
  | j + 1 => by rw [pushR, pushR_none K f j]; simp [headN, sumB]
theorem pushU_none (K : Nat) (f : Nat → Nat) : ∀ j, pushU K f 0 j = 0
  | 0 => rfl
  | j + 1 => by rw [pushU, pushU_none K f j]; simp [headN, sumB]
theorem pushR_cells {K : Nat} {f g : Nat → Nat} (h : ∀ k, cellR K (f k) K = cellR K (g k) K) : ∀ n, pushR K f n K = pushR K g n K
  | 0 => by rw [pushR_none, pushR_none]
  | n + 1 => by rw [pushR_cell, pushR_cell, pushR_cells h n, h n]
theorem pushU_cells {K : Nat} {f g : Nat → Nat} (h : ∀ k, cellU K (f k) K = cellU K (g k) K) : ∀ n, pushU K f n K = pushU K g n K
  | 0 => by rw [pushU_none, pushU_none]
  | n + 1 => by rw [pushU_cell, pushU_cell, pushU_cells h n, h n]
theorem aft_push {K c : Nat} (hK : K = 4 ∨ K = 6) (hc : c < 2 ^ K) (z : Nat) : cellR K (aftG K z c) K = cellR K c K ∧ cellU K (aftG K z c) K = cellU K c K := by
  rcases hK with rfl | rfl
  · obtain ⟨h1, h2, h3, h4⟩ := meet_push4 ⟨c, hc⟩
    by_cases q : z = 0
    · subst q; exact ⟨h1, h3⟩
    · rw [aft_one 4 c q]; exact ⟨h2, h4⟩
  · obtain ⟨h1, h2, h3, h4⟩ := meet_push6 ⟨c, hc⟩
    by_cases q : z = 0
    · subst q; exact ⟨h1, h3⟩
    · rw [aft_one 6 c q]; exact ⟨h2, h4⟩
/-- A run keeps the sum of the directions. -/
theorem flow_push {K W H m : Nat} (hK : K = 4 ∨ K = 6) (hH : K = 6 → H % 2 = 0) (W1 : 1 ≤ W) (H1 : 1 ≤ H) {cs f : Nat → Nat} (hf : ∀ i, f i < 2 ^ K) : ∀ i, pushR K (flowG K W H m cs f i) (W * H) K = pushR K f (W * H) K ∧ pushU K (flowG K W H m cs f i) (W * H) K = pushU K f (W * H) K
  | 0 => ⟨rfl, rfl⟩
  | i + 1 => by
    obtain ⟨h1, h2⟩ := flow_push (m := m) (cs := cs) hK hH W1 H1 hf i
    have hm := fun d (hd : d < K) => head_move hK hH W1 H1 (metG K (W * H) m cs (flowG K W H m cs f i) i) hd
    have ha := fun k => aft_push hK (flow_in (W := W) (H := H) (m := m) (cs := cs) hK hf i k) (cs ((i * (W * H) + k) % m))
    rw [flowG, pushR_same K hm, pushU_same K hm, ← h1, ← h2]
    exact ⟨pushR_cells (fun k => (ha k).1) _, pushU_cells (fun k => (ha k).2) _⟩
end Go.Proofs.Ytbkllhlapdmlfaa

namespace Go.Proofs.Ytbkllhlapdmlfaa
open Go.RowKit
set_option linter.unusedVariables false
def stpF (W H : Nat) (f : Nat → Nat) : Nat → Nat := mvF (fun k => aftG 4 0 (f k)) (srcG 4 W H)
def trnF (W H : Nat) (f : Nat → Nat) : Nat → Nat := mvF (fun k => tnG 4 2 (f k)) (srcG 4 W H)
def flwF (W H : Nat) (f : Nat → Nat) (i : Nat) : Nat → Nat := flowG 4 W H 1 (fun _ => 0) f i
theorem flwF_succ (W H : Nat) (f : Nat → Nat) (i : Nat) : flwF W H f (i + 1) = stpF W H (flwF W H f i) := rfl
theorem flwF_shift (W H : Nat) (f : Nat → Nat) : ∀ i, flwF W H f (i + 1) = flwF W H (stpF W H f) i
  | 0 => rfl
  | i + 1 => by rw [flwF_succ, flwF_shift W H f i, ← flwF_succ]
theorem tn_bits : ∀ (c : Fin 16) (d : Fin 4), tnG 4 2 c.val / 2 ^ d.val % 2 = c.val / 2 ^ (oppG 4 d.val) % 2 := by decide +kernel
theorem tn_aft : ∀ c : Fin 16, aftG 4 0 (tnG 4 2 (aftG 4 0 c.val)) = tnG 4 2 c.val ∧ tnG 4 2 c.val < 16 := by decide +kernel
theorem eq_bits {x y : Nat} (hx : x < 16) (hy : y < 16) (h : ∀ d, d < 4 → x / 2 ^ d % 2 = y / 2 ^ d % 2) : x = y := by
  have h0 := h 0 (by omega)
  have h1 := h 1 (by omega)
  have h2 := h 2 (by omega)
  have h3 := h 3 (by omega)
  simp at h0 h1 h2 h3
  omega
theorem trn_small {W H : Nat} {f : Nat → Nat} (hf : ∀ i, f i < 16) (i : Nat) : trnF W H f i < 16 := mv_small (fun k => (tn_aft ⟨f k, hf k⟩).2) _ i
theorem stp_small {W H : Nat} {f : Nat → Nat} (hf : ∀ i, f i < 16) (i : Nat) : stpF W H f i < 16 := mv_small (fun k => (aft_coin4 ⟨f k, hf k⟩).2) _ i
theorem trn_dig {W H : Nat} {f : Nat → Nat} (hf : ∀ i, f i < 16) (i : Nat) {d : Nat} (hd : d < 4) : trnF W H f i / 2 ^ d % 2 = f (srcG 4 W H i d) / 2 ^ (oppG 4 d) % 2 := by
  unfold trnF
  rw [mv_dig _ _ i (by omega)]
  exact tn_bits ⟨f (srcG 4 W H i d), hf _⟩ ⟨d, hd⟩
theorem mv_congr {W H : Nat} (W1 : 1 ≤ W) (H1 : 1 ≤ H) {f g : Nat → Nat} (h : ∀ j, j < W * H → f j = g j) (i : Nat) : mvF f (srcG 4 W H) i = mvF g (srcG 4 W H) i := by
  have e := fun d => h (srcG 4 W H i d) (src_lt (Or.inl rfl) W1 H1 i d)
  unfold mvF
  rw [e 0, e 1, e 2, e 3, e 4, e 5]
theorem trn_trn {W H : Nat} (W1 : 1 ≤ W) (H1 : 1 ≤ H) {f : Nat → Nat} (hf : ∀ i, f i < 16) {i : Nat} (hi : i < W * H) : trnF W H (trnF W H f) i = f i := by
  refine eq_bits (trn_small (trn_small hf) i) (hf i) fun d hd => ?_
  rw [trn_dig (trn_small hf) i hd, trn_dig hf _ (opp_lt (Or.inl rfl)), opp_opp (Or.inl rfl) hd, src_back (Or.inl rfl) (fun e => by omega) W1 H1 hi hd]
theorem trn_mv {W H : Nat} (W1 : 1 ≤ W) (H1 : 1 ≤ H) {h : Nat → Nat} (hh : ∀ i, h i < 16) {i : Nat} (hi : i < W * H) : trnF W H (mvF h (srcG 4 W H)) i = tnG 4 2 (h i) := by
  refine eq_bits (trn_small (mv_small hh _) i) (tn_aft ⟨h i, hh i⟩).2 fun d hd => ?_
  rw [trn_dig (mv_small hh _) i hd, mv_dig _ _ _ (by have := opp_lt (K := 4) (d := d) (Or.inl rfl); omega), src_back (Or.inl rfl) (fun e => by omega) W1 H1 hi hd]
  exact (tn_bits ⟨h i, hh i⟩ ⟨d, hd⟩).symm
theorem stp_trn_stp {W H : Nat} (W1 : 1 ≤ W) (H1 : 1 ≤ H) {f : Nat → Nat} (hf : ∀ i, f i < 16) : stpF W H (trnF W H (stpF W H f)) = trnF W H f := by
  funext i
  have ha : ∀ k, aftG 4 0 (f k) < 16 := fun k => (aft_coin4 ⟨f k, hf k⟩).2
  show mvF (fun k => aftG 4 0 (trnF W H (stpF W H f) k)) (srcG 4 W H) i = mvF (fun k => tnG 4 2 (f k)) (srcG 4 W H) i
  refine mv_congr W1 H1 (fun j hj => ?_) i
  have e : trnF W H (stpF W H f) j = tnG 4 2 (aftG 4 0 (f j)) := trn_mv W1 H1 ha hj
  rw [e]
  exact (tn_aft ⟨f j, hf j⟩).1
theorem flw_small {W H : Nat} {f : Nat → Nat} (hf : ∀ i, f i < 16) : ∀ k i, flwF W H f k i < 16
  | 0, i => hf i
  | k + 1, i => by rw [flwF_succ]; exact stp_small (flw_small hf k) i
theorem flw_trn {W H : Nat} (W1 : 1 ≤ W) (H1 : 1 ≤ H) {f : Nat → Nat} (hf : ∀ i, f i < 16) : ∀ k, flwF W H (trnF W H (flwF W H f k)) k = trnF W H f
  | 0 => rfl
  | k + 1 => by
    rw [flwF_shift, flwF_succ, stp_trn_stp W1 H1 (flw_small hf k)]
    exact flw_trn W1 H1 hf k
/-- Of Four Run of Turned of Run, by as many steps, Turned, is the gas. -/
theorem four_back {W H : Nat} (W1 : 1 ≤ W) (H1 : 1 ≤ H) {f : Nat → Nat} (hf : ∀ i, f i < 16) (k : Nat) {i : Nat} (hi : i < W * H) : trnF W H (flwF W H (trnF W H (flwF W H f k)) k) i = f i := by
  rw [flw_trn W1 H1 hf k]
  exact trn_trn W1 H1 hf hi
end Go.Proofs.Ytbkllhlapdmlfaa

