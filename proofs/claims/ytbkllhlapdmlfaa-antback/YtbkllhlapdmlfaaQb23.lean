/-
  What the last text of this claim leans on, part 23: Gb2, Gb3, Bkg, Bkh, Ga2.
-/
import Derived.Test.YtbkllhlapdmlfaaQb14
import Derived.Test.YtbkllhlapdmlfaaQb11
import Derived.Test.YtbkllhlapdmlfaaQb19
import Derived.Test.YtbkllhlapdmlfaaQb16
import Derived.Test.YtbkllhlapdmlfaaQb4
import Derived.BigRegion
import Derived.Deep.RegionHeld3
import Derived.Deep.CutRange
namespace Go.Proofs.Ytbkllhlapdmlfaa
open Go.RowKit
set_option linter.unusedVariables false
set_option maxRecDepth 100000 in
set_option maxHeartbeats 3200000 in
theorem numberAt_any (K : Int) (W H : Nat) (a : Option Addr) (n c : Nat) (p q : Int) (r s : Nat) (w : World) (hW : 1 ≤ W ∧ W ≤ 100) (hH : 1 ≤ H ∧ H ≤ 100) (hp : -102 ≤ p ∧ p ≤ 153) (hq : -100 ≤ q ∧ q ≤ 1) (hr : (-q + (H : Int)).tmod (H : Int) = (r : Int)) (hs : (p - leanG K (-q) + (W : Int)).tmod (W : Int) = (s : Int)) (hrl : r < H) (hsl : s < W) :
    Calls Try.prog 36 #[.agg #[.int .i64 K, .int .i64 (W : Int), .int .i64 (H : Int), .slice a n c], .complex .f64 (fI p) (fI q)] w fun e w' => e = .returned (.int .i64 ((r * W + s : Nat) : Int)) ∧ Below w.heap.size w w' := by
  obtain ⟨w1, hw1⟩ : ∃ w1, w.alloc (.cells #[.int .i64 K, .int .i64 (W : Int), .int .i64 (H : Int), .slice a n c] 24) = w1 := ⟨_, rfl⟩
  have BB := hide' (show Below w.heap.size w w1 by rw [← hw1]; exact (Below.refl _ _).alloc (Nat.le_refl _) _)
  have g1 : w1.heap[w.heap.size]? = some (.cells #[.int .i64 K, .int .i64 (W : Int), .int .i64 (H : Int), .slice a n c] 24 (0, 0)) := by rw [← hw1]; exact heap_alloc_new _ _
  have c0 := cell_of_row w1 _ 0 _ _ _ g1
  have c1 := cell_of_row w1 _ 1 _ _ _ g1
  have c2 := cell_of_row w1 _ 2 _ _ _ g1
  simp at c0 c1 c2
  have lb : 0 ≤ leanG K (-q) ∧ leanG K (-q) ≤ 100 := by unfold leanG; split <;> omega
  have LC := hide' (fun V => lean_any K (-q) V (by omega) (by omega))
  obtain ⟨l, hl⟩ : ∃ l, leanG K (-q) = l := ⟨_, rfl⟩
  rw [hl] at LC lb hs
  have hc2 := fun V => run_convert_float_int (P := Try.prog) V 63 3 .f64 .i64 (fI p) p (by rw [Try.underlying63]; rfl) Try.underlying3 (fI_int hp.1 hp.2)
  have hc1 := fun V => run_convert_float_int (P := Try.prog) V 63 3 .f64 .i64 (Op.negFloat .f64 (fI q)) (-q) (by rw [Try.underlying63]; rfl) Try.underlying3 (fI_neg (by omega) (by omega))
  have hng : Op.unary .neg (.float .f64 (fI q)) = pure (.float .f64 (Op.negFloat .f64 (fI q))) := rfl
  obtain ⟨bp, hbp⟩ : ∃ bp, fI p = bp := ⟨_, rfl⟩
  obtain ⟨bn, hbn⟩ : ∃ bn, Op.negFloat .f64 (fI q) = bn := ⟨_, rfl⟩
  rw [hbn] at hc1 hng
  obtain ⟨bq, hbq⟩ : ∃ bq, fI q = bq := ⟨_, rfl⟩
  rw [hbp] at hc2 ⊢
  rw [hbq] at hng ⊢
  have R1 := hide' (fun V => ring_any (-q) (H : Int) (r : Int) V (by omega) (by omega) (by omega) (by omega) hr)
  have R2 := hide' (fun V => ring_any (p - l) (W : Int) (s : Int) V (by omega) (by omega) (by omega) (by omega) hs)
  obtain ⟨y, hy⟩ : ∃ y, -q = y := ⟨_, rfl⟩
  rw [hy] at hc1 LC R1
  obtain ⟨x, hx⟩ : ∃ x, p - l = x := ⟨_, rfl⟩
  rw [hx] at R2
  have pl : r * W + s < 100000 := by have := Nat.mul_le_mul (show r ≤ 100 by omega) hW.2; omega
  obtain ⟨P, hP⟩ : ∃ P : Nat, (r : Int) * (W : Int) = (P : Int) := ⟨r * W, by simp⟩
  obtain ⟨t, ht⟩ : ∃ t, r * W + s = t := ⟨_, rfl⟩
  have bs : (P : Int) + (s : Int) = (t : Int) := by
    have : ((r * W : Nat) : Int) = (P : Int) := by rw [← hP]; simp
    omega
  rw [ht] at pl ⊢
  have w3 : IntKind.i64.wrap ((r : Int) * (W : Int)) = (P : Int) := by rw [hP]; exact wrap_nB P (by omega)
  have w5 := wrap_nB P (by omega)
  have w6 := wrap_nB t (by omega)
  have w4 : IntKind.i64.wrap ((P : Int) + (s : Int)) = (t : Int) := by rw [bs]; exact wrap_nB t (by omega)
  obtain ⟨l1, l2⟩ := lb
  obtain ⟨p1, p2⟩ := hp
  clear hr hs hl hbp hbn hbq g1 ht
  go_enter Try.func36, Try.ntmps36
  go_upto_region 1 with fail
  clear hw1
  go_wp2_with fail
  refine (LC.out _).mono ?_
  rintro e w2 ⟨rfl, rfl⟩
  go_upto_region 3 with fail
  go_region_held3 (fun U => U.cell? ⟨w.heap.size, 1, none⟩ = some (.int .i64 (W : Int)) ∧ U.cell? ⟨w.heap.size, 2, none⟩ = some (.int .i64 (H : Int))) (first | exact ⟨c1, c2⟩ | fail)
    (first
      | (go_at_call 47; refine (R1.out _).mono ?_; rintro e w5 ⟨rfl, rfl⟩)
      | (go_at_call 47; refine (R2.out _).mono ?_; rintro e w5 ⟨rfl, rfl⟩)
      | fail)
  go_wp2
  go_ret
  exact ⟨rfl, BB.out.drew⟩
end Go.Proofs.Ytbkllhlapdmlfaa

namespace Go.Proofs.Ytbkllhlapdmlfaa
open Go.RowKit
set_option linter.unusedVariables false
def re4 : Nat → Int | 0 => 1 | 1 => 0 | 2 => -1 | 3 => 0 | _ => 0
def im4 : Nat → Int | 0 => 0 | 1 => 1 | 2 => 0 | 3 => -1 | _ => 0
def re6 : Nat → Int | 0 => 1 | 1 => 0 | 2 => -1 | 3 => -1 | 4 => 0 | 5 => 1 | _ => 0
def im6 : Nat → Int | 0 => 0 | 1 => 1 | 2 => 1 | 3 => 0 | 4 => -1 | 5 => -1 | _ => 0
/-- How far a direction goes to the right, and up. -/
def reG (K d : Nat) : Int := if K = 4 then re4 d else re6 d
def imG (K d : Nat) : Int := if K = 4 then im4 d else im6 d
theorem reG_near (K d : Nat) : -1 ≤ reG K d ∧ reG K d ≤ 1 := by
  unfold reG re4 re6
  split
  · split <;> omega
  · split <;> omega
theorem imG_near (K d : Nat) : -1 ≤ imG K d ∧ imG K d ≤ 1 := by
  unfold imG im4 im6
  split
  · split <;> omega
  · split <;> omega
/-- The directions as they lie. -/
def DI (w : World) (g K : Nat) : Prop := ∀ d, d < K → w.cell? ⟨g, d, none⟩ = some (.complex .f64 (fI (reG K d)) (fI (imG K d)))
theorem fI_1 : fI 1 = 4607182418800017408 := by decide +kernel
theorem fI_0 : fI 0 = 0 := by decide +kernel
theorem fI_m : fI (-1) = 13830554455654793216 := by decide +kernel
theorem DI_4 {w : World} {g : Nat} (h : w.heap[g]? = some (.cells #[.complex .f64 4607182418800017408 0, .complex .f64 0 4607182418800017408, .complex .f64 13830554455654793216 0, .complex .f64 0 13830554455654793216] 60 (0, 0))) : DI w g 4 := fun d hd => by
  rw [cell_of_row w _ _ _ _ _ h]
  rcases (by omega : d = 0 ∨ d = 1 ∨ d = 2 ∨ d = 3) with rfl | rfl | rfl | rfl <;> simp [reG, imG, re4, im4, fI_1, fI_0, fI_m]
theorem DI_6 {w : World} {g : Nat} (h : w.heap[g]? = some (.cells #[.complex .f64 4607182418800017408 0, .complex .f64 0 4607182418800017408, .complex .f64 13830554455654793216 4607182418800017408, .complex .f64 13830554455654793216 0, .complex .f64 0 13830554455654793216, .complex .f64 4607182418800017408 13830554455654793216] 60 (0, 0))) : DI w g 6 := fun d hd => by
  rw [cell_of_row w _ _ _ _ _ h]
  rcases (by omega : d = 0 ∨ d = 1 ∨ d = 2 ∨ d = 3 ∨ d = 4 ∨ d = 5) with rfl | rfl | rfl | rfl | rfl | rfl <;> simp [reG, imG, re6, im6, fI_1, fI_0, fI_m]
theorem DI.block {w w' : World} {g K : Nat} (h : DI w g K) (e : w'.heap[g]? = w.heap[g]?) : DI w' g K := fun d hd => (World.cell?_of_block (w := w) (a := ⟨g, d, none⟩) e).trans (h d hd)
set_option maxRecDepth 100000 in
theorem directions_any (K : Nat) (w : World) (hK : K = 4 ∨ K = 6) : Calls Try.prog 24 #[.int .i64 (K : Int)] w fun e w' => e = .returned (.slice (some ⟨w.heap.size, 0, none⟩) K K) ∧ DI w' w.heap.size K ∧ w.heap.size < w'.heap.size ∧ Below w.heap.size w w' := by
  rcases hK with rfl | rfl
  · have P := hide' (show DI (w.alloc (.cells #[.complex .f64 4607182418800017408 0, .complex .f64 0 4607182418800017408, .complex .f64 13830554455654793216 0, .complex .f64 0 13830554455654793216] 60)) w.heap.size 4 from DI_4 (heap_alloc_new _ _))
    go_enter Try.func24, Try.ntmps24
    go_wp2
    go_ret
    exact ⟨rfl, P.out, by simp, (Below.refl _ _).alloc (Nat.le_refl _) _⟩
  · have P := hide' (show DI (w.alloc (.cells #[.complex .f64 4607182418800017408 0, .complex .f64 0 4607182418800017408, .complex .f64 13830554455654793216 4607182418800017408, .complex .f64 13830554455654793216 0, .complex .f64 0 13830554455654793216, .complex .f64 4607182418800017408 13830554455654793216] 60)) w.heap.size 6 from DI_6 (heap_alloc_new _ _))
    go_enter Try.func24, Try.ntmps24
    go_wp2
    go_ret
    exact ⟨rfl, P.out, by simp, (Below.refl _ _).alloc (Nat.le_refl _) _⟩
end Go.Proofs.Ytbkllhlapdmlfaa

namespace Go.Proofs.Ytbkllhlapdmlfaa
open Go.RowKit
set_option linter.unusedVariables false
def sumI (xs : List Int) : Nat → Int
  | 0 => 0
  | n + 1 => sumI xs n + xs.getD n 0
theorem sumI_le {xs : List Int} (hx : ∀ i, 0 ≤ xs.getD i 0 ∧ xs.getD i 0 ≤ 1) : ∀ n, 0 ≤ sumI xs n ∧ sumI xs n ≤ (n : Int)
  | 0 => by simp [sumI]
  | n + 1 => by have := sumI_le hx n; have := hx n; rw [sumI]; push_cast; omega
theorem sumI_B {f : Nat → Nat} {N : Nat} : ∀ n, n ≤ N → sumI ((List.range N).map fun i => (f i : Int)) n = (sumB f n : Int)
  | 0, _ => rfl
  | n + 1, h => by
    rw [sumI, sumB, sumI_B n (by omega)]
    have e : ((List.range N).map fun i => (f i : Int)).getD n 0 = (f n : Int) := by simp [List.getD, show n < N by omega]
    rw [e]; push_cast; rfl
end Go.Proofs.Ytbkllhlapdmlfaa

namespace Go.Proofs.Ytbkllhlapdmlfaa
open Go.RowKit
set_option linter.unusedVariables false
theorem keep_of {tv : Nat → Nat} (h : keepB tv = true) : ∀ j, j < 16 → ones4 j = ones4 (tv j) := fun j hj => by
  unfold keepB at h
  have := List.all_eq_true.1 h j (List.mem_range.2 hj)
  simpa using this
theorem turn_of {tv : Nat → Nat} (h : turnB tv = true) : ∀ j, j < 16 → tv (qtrN j) = qtrN (tv j) := fun j hj => by
  unfold turnB at h
  have := List.all_eq_true.1 h j (List.mem_range.2 hj)
  simpa using this
theorem getD_map {N : Nat} (g : Nat → Int) {i : Nat} (hi : i < N) : ((List.range N).map g).getD i 0 = g i := by simp [List.getD, hi]
theorem getD_far {N : Nat} (g : Nat → Int) {i : Nat} (hi : ¬ i < N) : ((List.range N).map g).getD i 0 = 0 := by simp [List.getD, hi]
theorem cf_map {N : Nat} {f : Nat → Nat} {i : Nat} (hi : i < N) : cfF ((List.range N).map fun i => (f i : Int)) i = f i := by unfold cfF; rw [getD_map _ hi]; rfl
theorem map_bits {N : Nat} {f : Nat → Nat} (hf : ∀ i, f i ≤ 1) (i : Nat) : 0 ≤ ((List.range N).map fun i => (f i : Int)).getD i 0 ∧ ((List.range N).map fun i => (f i : Int)).getD i 0 ≤ 1 := by
  by_cases h : i < N
  · rw [getD_map _ h]; have := hf i; omega
  · rw [getD_far _ h]; omega
theorem map_cong {N : Nat} {f g : Nat → Int} (h : ∀ i, i < N → f i = g i) : (List.range N).map f = (List.range N).map g := List.map_congr_left fun i hi => h i (List.mem_range.1 hi)
/-- What is kept is kept, as it is counted. -/
theorem count_kept {t xs : List Int} {W H V U ph n : Nat} (e : Evn W H V U) (hp : ph ≤ 1) (hx : ∀ i, 0 ≤ xs.getD i 0 ∧ xs.getD i 0 ≤ 1) (hn : xs.length = W * H) (hk : keepB (tvF t) = true) : sumI (runL8 t W H ph xs n) (W * H) = sumI xs (W * H) := by
  have a := sumI_B (f := runB (tvF t) W H ph (cfF xs) n) (N := W * H) (W * H) (Nat.le_refl _)
  have b := sumI_B (f := cfF xs) (N := W * H) (W * H) (Nat.le_refl _)
  have xl := cf_list hx
  rw [hn] at xl
  rw [← xl] at b
  rw [b, runL8, a, runB_sum e hp (keep_of hk) (cf_le hx) n]
/-- Steps of a turned pattern, as lists. -/
theorem list_turned {t xs : List Int} {W H V U ph n : Nat} (e : Evn W H V U) (hp : ph ≤ 1) (ht : ∀ k, k < 16 → tvF t k < 16) (hx : ∀ i, 0 ≤ xs.getD i 0 ∧ xs.getD i 0 ≤ 1) (hn : xs.length = W * H) (hq : turnB (tvF t) = true) : runL8 t H W ph (qtrP W H xs) n = qtrP W H (runL8 t W H ph xs n) := by
  unfold runL8
  show List.map _ _ = List.map (fun q => (List.map (fun i => (runB (tvF t) W H ph (cfF xs) n i : Int)) (List.range (W * H))).getD ((H - 1 - q % H) * W + q / H) 0) (List.range (H * W))
  refine map_cong fun i hi => ?_
  have H0 : 0 < H := by rcases Nat.eq_zero_or_pos H with h | h; · rw [h] at hi; simp at hi
                        · exact h
  have cq : ∀ i, i < H * W → cfF (qtrP W H xs) i = qF W H (cfF xs) i := fun i hi => by
    unfold qtrP qF cfF
    rw [getD_map _ hi]
  have sl : (H - 1 - i % H) * W + i / H < W * H := by
    have hy : i / H < W := Nat.div_lt_of_lt_mul hi
    have hx : i % H < H := Nat.mod_lt _ H0
    have := Nat.mul_le_mul_right W (show (H - 1 - i % H) + 1 ≤ H by omega)
    rw [Nat.add_mul, Nat.mul_comm H W] at this
    omega
  rw [getD_map _ sl, runB_congr e.swap hp (tvF t) cq n i hi, runB_turn e hp ht (turn_of hq) (cf_le hx) n i hi]
  rfl
/-- The undoing table, as a list. -/
def backL (tv : Nat → Nat) : List Int := (List.range 16).map fun v => (backF tv 16 v : Int)
theorem backF_lt (tv : Nat → Nat) : ∀ i v, i ≤ 16 → backF tv i v < 16
  | 0, _, _ => by rw [backF]; omega
  | i + 1, v, h => by
    rw [backF]
    split
    · omega
    · exact backF_lt tv i v (by omega)
theorem backL_ok (tv : Nat → Nat) : tabE (backL tv) = 0 := by
  refine tabE_good (by simp [backL]) fun k hk _ => ?_
  have e : (backL tv)[k]'hk = (backF tv 16 k : Int) := by simp [backL]
  have l := backF_lt tv 16 k (Nat.le_refl _)
  have g : in16 (backF tv 16 k : Int) = true := by unfold in16; simp; omega
  exact e ▸ g
theorem list_back {t xs : List Int} {W H V U ph n : Nat} (e : Evn W H V U) (hp : ph ≤ 1) (ht : ∀ k, k < 16 → tvF t k < 16) (hx : ∀ i, 0 ≤ xs.getD i 0 ∧ xs.getD i 0 ≤ 1) (hn : xs.length = W * H) (hi : ∀ a b, a < 16 → b < 16 → tvF t a = tvF t b → a = b) : runL8 (backL (tvF t)) W H ((ph + n + 1) % 2) (runL8 t W H ph xs n) n = xs := by
  have pe : (ph + n + 1) % 2 = phS ph (n + 1) := by unfold phS; split <;> omega
  have bk : ∀ k, k < 16 → tvF (backL (tvF t)) (tvF t k) = k := fun k hk => by
    have h1 : tvF (backL (tvF t)) (tvF t k) = backF (tvF t) 16 (tvF t k) := by
      unfold backL
      exact cf_map (ht k hk)
    rw [h1]
    exact backF_of hi 16 (Nat.le_refl _) k hk
  have xl := cf_list hx
  rw [hn] at xl
  rw [pe]
  conv => rhs; rw [xl]
  unfold runL8
  refine map_cong fun i hl => ?_
  rw [runB_congr e (phS_le hp (n + 1)) _ (fun i hi => cf_map (f := runB (tvF t) W H ph (cfF xs) n) hi) n i hl, runB_back e ht bk hp (cf_le hx) n i hl]
end Go.Proofs.Ytbkllhlapdmlfaa

namespace Go.Proofs.Ytbkllhlapdmlfaa
open Go.RowKit
set_option linter.unusedVariables false
def u8F (f : Nat → Nat) (k : Nat) : Value := .int .u8 (f k : Int)
/-- Cells that lie in bytes at a block's head. -/
def CU (w : World) (g n : Nat) (f : Nat → Nat) : Prop := w.heap[g]? = some (.cells (arrF n (u8F f)) 65 (0, 0))
theorem CU.cell {w : World} {g n : Nat} {f : Nat → Nat} (h : CU w g n f) {k : Nat} (hk : k < n) : w.cell? ⟨g, k, none⟩ = some (.int .u8 (f k : Int)) := by
  rw [cell_of_row w _ _ _ _ _ h, arrF_get _ hk]; rfl
theorem CU.free {w : World} {g n : Nat} {f : Nat → Nat} (h : CU w g n f) (k : Nat) : w.frozen? ⟨g, k, none⟩ = false := frozen_of_row w _ _ _ _ h
theorem CU.lt {w : World} {g n : Nat} {f : Nat → Nat} (h : CU w g n f) : g < w.heap.size := lt_of_block h
theorem CU.set {w : World} {g n : Nat} {f : Nat → Nat} (h : CU w g n f) (i v : Nat) : CU (w.setCell ⟨g, i, none⟩ (.int .u8 (v : Int))) g n (fun k => if k = i then v else f k) := by
  unfold CU
  rw [heap_setCell_same _ _ _ _ _ _ h, arrF_set]
  refine congrArg (fun z => some (Obj.cells z 65 (0, 0))) (arrF_ext fun k _ => ?_)
  unfold u8F
  try dsimp only
  by_cases e : k = i
  · rw [if_pos e, if_pos e]
  · rw [if_neg e, if_neg e]
theorem CU.ext {w : World} {g n : Nat} {f f' : Nat → Nat} (h : CU w g n f) (e : ∀ k, k < n → f k = f' k) : CU w g n f' := by
  unfold CU
  rw [h]
  exact congrArg (fun z => some (Obj.cells z 65 (0, 0))) (arrF_ext fun k hk => by unfold u8F; rw [e k hk])
theorem CU.block {w w' : World} {g n : Nat} {f : Nat → Nat} (h : CU w g n f) (e : w'.heap[g]? = w.heap[g]?) : CU w' g n f := e.trans h
theorem info_cellG : (Try.prog.info? 65).map (fun i => (i.zero, i.size, i.bytes)) = some (some (.int .u8 0), 1, 1) := by kernel_rfl
theorem made_u8 (n : Nat) : madeCells #[Value.int .u8 0] n = arrF n (u8F fun _ => 0) := by
  apply Array.ext'
  rw [toList_madeCells_one]
  unfold u8F
  simp [arrF, List.map_const']
theorem mk_cellG (n : Nat) (hn : n ≤ 10000) (w : World) : (Instr.makeSlice 51 (.int .i64 (n : Int)) (.int .i64 (n : Int))).run Try.prog w = .ok (.slice (some ⟨w.heap.size, 0, none⟩) n n) (w.alloc (.cells (madeCells #[.int .u8 0] n) 65)) := run_make_row' (P := Try.prog) 51 65 (.int .u8 0) 1 Try.underlying51 info_cellG rfl .i64 .i64 n (by omega) (by omega) w
theorem wrap_u8 (n : Nat) (h : n ≤ 255) : IntKind.u8.wrap (n : Int) = (n : Int) := by simp [IntKind.wrap, IntKind.bits, IntKind.signed]; omega
theorem pre_next (f : Nat → Nat) (i k : Nat) : (if k = i then f i else (if k < i then f k else 0)) = (if k < i + 1 then f k else 0) := by
  by_cases h : k = i
  · subst h; rw [if_pos rfl, if_pos (by omega)]
  · rw [if_neg h]
    by_cases q : k < i
    · rw [if_pos q, if_pos (by omega)]
    · rw [if_neg q, if_neg (by omega)]
set_option maxRecDepth 100000 in
set_option maxHeartbeats 1600000 in
theorem packed_any (f : Nat → Nat) (a : Option Addr) (n c : Nat) (w : World) (hP : ArgP w ((List.range n).map fun i => (f i : Int)) a n c) (hf : ∀ i, f i ≤ 63) (hn : n ≤ 10000) :
    Calls Try.prog 18 #[.slice a n c] w fun e w' => e = .returned (.slice (some ⟨w.heap.size, 0, none⟩) n n) ∧ CU w' w.heap.size n f ∧ Below w.heap.size w w' := by
  obtain ⟨w1, hw1⟩ : ∃ w1, w.alloc (.cells (madeCells #[.int .u8 0] n) 65) = w1 := ⟨_, rfl⟩
  have hmk := mk_cellG n hn w
  rw [hw1] at hmk
  have S0 := hide' (show CU w1 w.heap.size n (fun k => if k < 0 then f k else 0) from by rw [← hw1, made_u8]; unfold CU; rw [heap_alloc_new]; exact congrArg (fun z => some (Obj.cells z 65 (0, 0))) (arrF_ext fun k _ => by unfold u8F; simp))
  have B0 := hide' (show Below w.heap.size w w1 by rw [← hw1]; exact (Below.refl _ _).alloc (Nat.le_refl _) _)
  have HC := hide' (fun (V : World) (hV : Below w.heap.size w V) k (hk : k < n) => show ∃ g off, a = some ⟨g, off, none⟩ ∧ V.cell? ⟨g, off + k, none⟩ = some (.int .i64 (f k : Int)) from by
    obtain ⟨g, off, e, hg, hc⟩ := (hP.below hV).cells k (by simpa using hk)
    simp only [List.getElem_map, List.getElem_range] at hc
    exact ⟨g, off, e, hc⟩)
  have HF := hide' hf
  clear hP hf hw1
  go_enter Try.func18, Try.ntmps18
  go_wp2
  clear hmk
  go_loopw [11] (fun iv wr => ∃ (i : Nat), iv = .int .i64 (i : Int) ∧ i ≤ n ∧ Hid (CU wr w.heap.size n (fun k => if k < i then f k else 0)) ∧ Hid (Below w.heap.size w wr)) (fun iv _ => ((n : Int) - intOf iv).toNat)
  case atStart => exact ⟨0, by go_num, by omega, S0, B0⟩
  case round =>
    obtain ⟨i, rfl, hi, HS, HB⟩ := hrel
    obtain ⟨V, rfl⟩ : ∃ V, V = wr := ⟨_, rfl⟩
    by_cases d : (i : Int) < (n : Int)
    · have il : i < n := by omega
      obtain ⟨g, off, rfl, hc⟩ := HC.out V HB.out i il
      have c1 := HS.out.cell il
      have f1 := HS.out.free i
      have l1 := HS.out.lt
      have NS := hide' ((HS.out.set i (f i)).ext (fun k _ => pre_next f i k))
      have NB := hide' (HB.out.setCell (show w.heap.size ≤ (⟨w.heap.size, i, none⟩ : Addr).block from Nat.le_refl _) (.int .u8 (f i : Int)))
      have x63 := HF.out i
      obtain ⟨x, hx⟩ : ∃ x, f i = x := ⟨_, rfl⟩
      rw [hx] at hc NS NB x63
      have wx := wrap_u8 x (by omega)
      clear hx
      go_wp2
      exact ⟨⟨i + 1, by go_num, by omega, NS, NB⟩, by simp [intOf]; omega⟩
    · have ni : i = n := by omega
      subst ni
      have FS := hide' (HS.out.ext (f' := f) (fun k hk => if_pos hk))
      go_wp2
      go_ret
      exact ⟨rfl, FS.out, HB.out⟩
end Go.Proofs.Ytbkllhlapdmlfaa

