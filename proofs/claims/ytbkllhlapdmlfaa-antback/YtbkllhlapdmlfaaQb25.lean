/-
  What the last text of this claim leans on, part 25: Gb4, Gb5.
-/
import Derived.Test.YtbkllhlapdmlfaaQb23
import Derived.Test.YtbkllhlapdmlfaaQb24
import Derived.BigRegion
import Derived.Deep.RegionHeld3
import Derived.Deep.CutRange
namespace Go.Proofs.Ytbkllhlapdmlfaa
open Go.RowKit
set_option linter.unusedVariables false
def xG (K x y d : Nat) : Int := (x : Int) + leanG K y - reG K d - leanG K ((y : Int) + imG K d)
def rowG (K H y d : Nat) : Nat := (((y : Int) + imG K d + (H : Int)).tmod (H : Int)).toNat
def colG (K W x y d : Nat) : Nat := ((xG K x y d + (W : Int)).tmod (W : Int)).toNat
/-- From which cell comes what goes in direction d. -/
def srcG (K W H i d : Nat) : Nat := if d < K then rowG K H (i / W) d * W + colG K W (i % W) (i / W) d else 0
theorem xG_near {K W x y d : Nat} (hK : K = 4 ∨ K = 6) (hd : d < K) (hx : x < W) : -1 ≤ xG K x y d ∧ xG K x y d ≤ (W : Int) := by
  unfold xG leanG reG imG
  rcases hK with rfl | rfl
  · rcases (by omega : d = 0 ∨ d = 1 ∨ d = 2 ∨ d = 3) with rfl | rfl | rfl | rfl <;> simp [re4] <;> omega
  · rcases (by omega : d = 0 ∨ d = 1 ∨ d = 2 ∨ d = 3 ∨ d = 4 ∨ d = 5) with rfl | rfl | rfl | rfl | rfl | rfl <;> simp [re6, im6] <;> omega
theorem tmod_nat {a : Int} {s : Nat} (h : 0 ≤ a) (hs : 1 ≤ s) : a.tmod (s : Int) = ((a.tmod (s : Int)).toNat : Int) ∧ (a.tmod (s : Int)).toNat < s := by
  rw [Int.tmod_eq_emod_of_nonneg h]
  have h1 := Int.emod_nonneg a (show (s : Int) ≠ 0 by omega)
  have h2 := Int.emod_lt_of_pos a (show (0 : Int) < s by omega)
  omega
theorem src_lt {K W H : Nat} (hK : K = 4 ∨ K = 6) (hW : 1 ≤ W) (hH : 1 ≤ H) (i d : Nat) : srcG K W H i d < W * H := by
  unfold srcG
  have z : 0 < W * H := Nat.mul_pos hW hH
  split
  · rename_i hd
    have m := Nat.mod_lt i hW
    obtain ⟨y, hy⟩ : ∃ y, i / W = y := ⟨_, rfl⟩
    obtain ⟨x, hx⟩ : ∃ x, i % W = x := ⟨_, rfl⟩
    rw [hy, hx]
    rw [hx] at m
    have xn := xG_near (y := y) hK hd m
    have im := imG_near K d
    have r := (tmod_nat (a := (y : Int) + imG K d + (H : Int)) (s := H) (by omega) hH).2
    have c := (tmod_nat (a := xG K x y d + (W : Int)) (s := W) (by omega) hW).2
    unfold rowG colG
    have := Nat.mul_le_mul_right W (Nat.succ_le_of_lt r)
    rw [Nat.succ_mul, Nat.mul_comm H W] at this
    omega
  · exact z
def u16F (f : Nat → Nat) (j : Nat) : Value := .int .u16 (f j : Int)
/-- The table, so far as it is filled. -/
def fF (K W H m j : Nat) : Nat := if j < m then srcG K W H (j / 6) (j % 6) else 0
theorem fF_next (K W H m j : Nat) : (if j = m then srcG K W H (m / 6) (m % 6) else fF K W H m j) = fF K W H (m + 1) j := by
  unfold fF
  by_cases h : j = m
  · subst h; rw [if_pos rfl, if_pos (by omega)]
  · rw [if_neg h]
    by_cases q : j < m
    · rw [if_pos q, if_pos (by omega)]
    · rw [if_neg q, if_neg (by omega)]
theorem fF_gap (K W H i j : Nat) (hK : K = 4 ∨ K = 6) : fF K W H (i * 6 + K) j = fF K W H ((i + 1) * 6) j := by
  unfold fF
  by_cases q : j < i * 6 + K
  · rw [if_pos q, if_pos (by omega)]
  · rw [if_neg q]
    by_cases l : j < (i + 1) * 6
    · rw [if_pos l]
      unfold srcG
      rw [if_neg (by omega)]
    · rw [if_neg l]
def OR (w : World) (g n : Nat) (f : Nat → Nat) : Prop := w.heap[g]? = some (.cells (arrF (n * 6) (u16F f)) 86 (0, 0))
theorem OR.set {w : World} {g n : Nat} {f : Nat → Nat} (h : OR w g n f) (i v : Nat) : OR (w.setCell ⟨g, i, none⟩ (.int .u16 (v : Int))) g n (fun k => if k = i then v else f k) := by
  unfold OR
  rw [heap_setCell_same _ _ _ _ _ _ h, arrF_set]
  refine congrArg (fun z => some (Obj.cells z 86 (0, 0))) (arrF_ext fun k _ => ?_)
  unfold u16F
  try dsimp only
  by_cases e : k = i
  · rw [if_pos e, if_pos e]
  · rw [if_neg e, if_neg e]
theorem OR.ext {w : World} {g n : Nat} {f f' : Nat → Nat} (h : OR w g n f) (e : ∀ k, k < n * 6 → f k = f' k) : OR w g n f' := by
  unfold OR
  rw [h]
  exact congrArg (fun z => some (Obj.cells z 86 (0, 0))) (arrF_ext fun k hk => by unfold u16F; rw [e k hk])
theorem OR.cell {w : World} {g n : Nat} {f : Nat → Nat} (h : OR w g n f) {k : Nat} (hk : k < n * 6) : w.cell? ⟨g, k, none⟩ = some (.int .u16 (f k : Int)) := by
  rw [cell_of_row w _ _ _ _ _ h, arrF_get _ hk]; rfl
theorem OR.orG {w : World} {g n K W H : Nat} (h : OR w g n (fF K W H (n * 6))) : w.heap[g]? = some (.cells (arrF (n * 6) (orG (srcG K W H))) 86 (0, 0)) := by
  rw [show w.heap[g]? = _ from h]
  exact congrArg (fun z => some (Obj.cells z 86 (0, 0))) (arrF_ext fun k hk => by unfold u16F fF Go.Proofs.Ytbkllhlapdmlfaa.orG; rw [if_pos hk])
theorem info_origins : (Try.prog.info? 86).map (fun i => (i.zero, i.size, i.bytes)) = some (some (.agg #[.int .u16 0, .int .u16 0, .int .u16 0, .int .u16 0, .int .u16 0, .int .u16 0]), 6, 12) := by kernel_rfl
theorem made_orig (n : Nat) : madeCells #[.int .u16 0, .int .u16 0, .int .u16 0, .int .u16 0, .int .u16 0, .int .u16 0] (n * 6) = arrF (n * 6) (u16F fun _ => 0) := by
  unfold madeCells u16F arrF
  apply Array.ext'
  simp only [Array.toList_map, Array.toList_range]
  refine List.map_congr_left fun k _ => ?_
  have : k % 6 = 0 ∨ k % 6 = 1 ∨ k % 6 = 2 ∨ k % 6 = 3 ∨ k % 6 = 4 ∨ k % 6 = 5 := by omega
  show (#[.int .u16 0, .int .u16 0, .int .u16 0, .int .u16 0, .int .u16 0, .int .u16 0] : Array Value)[k % 6]! = _
  rcases this with h | h | h | h | h | h <;> rw [h] <;> rfl
theorem mk_orig (n : Nat) (hn : n ≤ 10000) (w : World) : (Instr.makeSlice 55 (.int .i64 (n : Int)) (.int .i64 (n : Int))).run Try.prog w = .ok (.slice (some ⟨w.heap.size, 0, none⟩) n n) (w.alloc (.cells (madeCells #[.int .u16 0, .int .u16 0, .int .u16 0, .int .u16 0, .int .u16 0, .int .u16 0] (n * 6)) 86)) := by
  obtain ⟨i, hi, hzz⟩ := Option.map_eq_some_iff.1 info_origins
  simp only [Prod.mk.injEq] at hzz
  obtain ⟨hz, hs, hb⟩ := hzz
  have := run_make (P := Try.prog) w 55 86 i _ Try.underlying55 hi hz .i64 .i64 (n : Int) (n : Int) (by omega) (by omega) (by rw [hb]; omega) (by omega)
  rw [hs] at this
  simp only [Int.toNat_natCast] at this
  exact this
end Go.Proofs.Ytbkllhlapdmlfaa

namespace Go.Proofs.Ytbkllhlapdmlfaa
open Go.RowKit
set_option linter.unusedVariables false
/-- What stands while the table is filled. -/
structure SR (w w3 wr : World) (n : Nat) (f : Nat → Nat) : Prop where
  keep : ∀ j, j < w3.heap.size → j ≠ w.heap.size + 1 → wr.heap[j]? = w3.heap[j]?
  tab : OR wr (w.heap.size + 1) n f
  below : Below w.heap.size w wr
  size : w3.heap.size ≤ wr.heap.size
theorem SR.next {w w3 wr w' : World} {n : Nat} {f : Nat → Nat} (h : SR w w3 wr n f) (hz : w.heap.size + 1 < w3.heap.size) (b : Below wr.heap.size wr w') : SR w w3 w' n f :=
  ⟨fun j hj hn => (b.block j (Nat.lt_of_lt_of_le hj h.size)).trans (h.keep j hj hn), (b.block _ (Nat.lt_of_lt_of_le hz h.size)).trans h.tab, h.below.trans (b.mono h.below.size), Nat.le_trans h.size b.size⟩
theorem SR.set {w w3 wr : World} {n : Nat} {f : Nat → Nat} (h : SR w w3 wr n f) (i v : Nat) : SR w w3 (wr.setCell ⟨w.heap.size + 1, i, none⟩ (.int .u16 (v : Int))) n (fun k => if k = i then v else f k) :=
  ⟨fun j hj hn => (Below.heap_setCell _ _ _ _ hn).trans (h.keep j hj hn), h.tab.set i v, h.below.setCell (by simp) _, by rw [World.size_setCell]; exact h.size⟩
theorem SR.ext {w w3 wr : World} {n : Nat} {f f' : Nat → Nat} (h : SR w w3 wr n f) (e : ∀ k, k < n * 6 → f k = f' k) : SR w w3 wr n f' := ⟨h.keep, h.tab.ext e, h.below, h.size⟩
theorem SR.drew {w w3 wr : World} {n : Nat} {f : Nat → Nat} (h : SR w w3 wr n f) : SR w w3 wr.drew n f := ⟨h.keep, h.tab, h.below.drew, h.size⟩
theorem wrap_u16 (n : Nat) (h : n ≤ 65535) : IntKind.u16.wrap (n : Int) = (n : Int) := by simp [IntKind.wrap, IntKind.bits, IntKind.signed]; omega
set_option maxRecDepth 100000 in
set_option maxHeartbeats 12800000 in
theorem sources_any (K W H : Nat) (a : Option Addr) (n c : Nat) (w : World) (hK : K = 4 ∨ K = 6) (hW : 1 ≤ W ∧ W ≤ 100) (hH : 1 ≤ H ∧ H ≤ 100) (hn : n = W * H) :
    Calls Try.prog 20 #[.agg #[.int .i64 (K : Int), .int .i64 (W : Int), .int .i64 (H : Int), .slice a n c]] w fun e w' => e = .returned (.slice (some ⟨w.heap.size + 1, 0, none⟩) n n) ∧ w'.heap[w.heap.size + 1]? = some (.cells (arrF (n * 6) (orG (srcG K W H))) 86 (0, 0)) ∧ Below w.heap.size w w' := by
  have n4 : n ≤ 10000 := by rw [hn]; exact Nat.mul_le_mul hW.2 hH.2
  obtain ⟨w1, hw1⟩ : ∃ w1, w.alloc (.cells #[.int .i64 (K : Int), .int .i64 (W : Int), .int .i64 (H : Int), .slice a n c] 24) = w1 := ⟨_, rfl⟩
  obtain ⟨w2, hw2⟩ : ∃ w2, w1.alloc (.cells (madeCells #[.int .u16 0, .int .u16 0, .int .u16 0, .int .u16 0, .int .u16 0, .int .u16 0] (n * 6)) 86) = w2 := ⟨_, rfl⟩
  have s1 : w1.heap.size = w.heap.size + 1 := by rw [← hw1]; simp
  have s2 : w2.heap.size = w.heap.size + 2 := by rw [← hw2]; simp [s1]
  have g1 : w1.heap[w.heap.size]? = some (.cells #[.int .i64 (K : Int), .int .i64 (W : Int), .int .i64 (H : Int), .slice a n c] 24 (0, 0)) := by rw [← hw1]; exact heap_alloc_new _ _
  have g2 : w2.heap[w.heap.size]? = some (.cells #[.int .i64 (K : Int), .int .i64 (W : Int), .int .i64 (H : Int), .slice a n c] 24 (0, 0)) := by rw [← hw2, Below.heap_alloc _ _ _ (by omega)]; exact g1
  have t2 : OR w2 (w.heap.size + 1) n (fF K W H 0) := by
    unfold OR
    rw [← hw2, made_orig, ← s1, heap_alloc_new]
    exact congrArg (fun z => some (Obj.cells z 86 (0, 0))) (arrF_ext fun k _ => by unfold u16F fF; simp)
  have b2 : Below w.heap.size w w2 := by rw [← hw2, ← hw1]; exact ((Below.refl _ _).alloc (Nat.le_refl _) _).alloc (by simp) _
  have hmk := mk_orig n n4 w1
  rw [hw2, s1] at hmk
  have DC := hide' (directions_any K w2 hK)
  have d3 := cell_of_row w1 _ 3 _ _ _ g1
  have e0 := cell_of_row w2 _ 0 _ _ _ g2
  have e1' := cell_of_row w2 _ 1 _ _ _ g2
  have e2' := cell_of_row w2 _ 2 _ _ _ g2
  simp at d3 e0 e1' e2'
  have HK := hide' hK
  have NL := hide' hn
  have G2 := hide' g2
  have T2 := hide' t2
  have B2 := hide' b2
  have K6 : K ≤ 6 := by omega
  obtain ⟨W1, W2⟩ := hW
  obtain ⟨H1, H2⟩ := hH
  clear g1 g2 t2 b2 hK hn hw2
  go_enter Try.func20, Try.ntmps20
  go_upto_region 1 with fail
  clear hw1
  go_wp2_with fail
  refine DC.out.mono ?_
  rintro e w3 ⟨rfl, di, z3, b3⟩
  rw [s2] at di z3
  have GV := hide' (fun (V : World) (hV : ∀ j, j < w3.heap.size → j ≠ w.heap.size + 1 → V.heap[j]? = w3.heap[j]?) => show V.cell? ⟨w.heap.size, 0, none⟩ = some (.int .i64 (K : Int)) ∧ V.cell? ⟨w.heap.size, 1, none⟩ = some (.int .i64 (W : Int)) ∧ V.cell? ⟨w.heap.size, 2, none⟩ = some (.int .i64 (H : Int)) ∧ V.cell? ⟨w.heap.size, 3, none⟩ = some (.slice a n c) from by
    have e1 := ((hV w.heap.size (by omega) (by omega)).trans (b3.block _ (by omega))).trans G2.out
    exact ⟨cell_of_row V _ 0 _ _ _ e1, cell_of_row V _ 1 _ _ _ e1, cell_of_row V _ 2 _ _ _ e1, cell_of_row V _ 3 _ _ _ e1⟩)
  have DV := hide' (fun (V : World) (hV : ∀ j, j < w3.heap.size → j ≠ w.heap.size + 1 → V.heap[j]? = w3.heap[j]?) => show DI V (w.heap.size + 2) K from di.block (hV _ z3 (by omega)))
  have S3 := hide' (show SR w w3 w3 n (fF K W H 0) from ⟨fun _ _ _ => rfl, (b3.block _ (by omega)).trans T2.out, B2.out.trans (b3.mono B2.out.size), Nat.le_refl _⟩)
  have Z3 := hide' z3
  have y3 : w.heap.size + 1 < w3.heap.size := by omega
  obtain ⟨x0, x1, x2, x3⟩ := GV.out w3 (fun _ _ _ => rfl)
  clear di b3 d3 e0 e1' e2' hmk s1 G2 T2 B2 DC
  go_wp2
  clear x0 x1 x2 x3
  try rw [s2]
  go_loopw [18] (fun yv wr => ∃ (y : Nat), yv = .int .i64 (y : Int) ∧ y ≤ H ∧ Hid (SR w w3 wr n (fF K W H (y * W * 6)))) (fun yv _ => ((H : Int) - intOf yv).toNat)
  case atStart => exact ⟨0, by go_num, by omega, hide' (by simp only [Nat.zero_mul]; exact S3.out)⟩
  case round =>
    obtain ⟨y, rfl, hy, HY⟩ := hrel
    obtain ⟨V1, rfl⟩ : ∃ V1, V1 = wr := ⟨_, rfl⟩
    obtain ⟨x0, x1, x2, x3⟩ := GV.out V1 HY.out.keep
    by_cases dy : (y : Int) < (H : Int)
    · go_wp2
      clear x0 x1 x2 x3
      go_loopw [23] (fun xv wr => ∃ (x : Nat), xv = .int .i64 (x : Int) ∧ x ≤ W ∧ Hid (SR w w3 wr n (fF K W H ((y * W + x) * 6)))) (fun xv _ => ((W : Int) - intOf xv).toNat)
      case atStart => exact ⟨0, by go_num, by omega, HY⟩
      case round =>
        obtain ⟨x, rfl, hx, HX⟩ := hrel
        obtain ⟨V2, rfl⟩ : ∃ V2, V2 = wr := ⟨_, rfl⟩
        by_cases dx : (x : Int) < (W : Int)
        · go_wp2
          go_loopw [28] (fun dv wr => ∃ (d : Nat), dv = .int .i64 (d : Int) ∧ d ≤ K ∧ Hid (SR w w3 wr n (fF K W H ((y * W + x) * 6 + d)))) (fun dv _ => ((K : Int) - intOf dv).toNat)
          case atStart => exact ⟨0, by go_num, by omega, HX⟩
          case round =>
            obtain ⟨d, rfl, hd, HD⟩ := hrel
            obtain ⟨V3, rfl⟩ : ∃ V3, V3 = wr := ⟨_, rfl⟩
            by_cases dd : (d : Int) < (K : Int)
            · have dl : d < K := by omega
              have xl : x < W := by omega
              have yl : y < H := by omega
              have cd := DV.out V3 HD.out.keep d dl
              obtain ⟨x0, x1, x2, x3⟩ := GV.out V3 HD.out.keep
              have rn := reG_near K d
              have imn := imG_near K d
              have lb : 0 ≤ leanG K y ∧ leanG K y ≤ 51 := by unfold leanG; split <;> omega
              have xn := xG_near (y := y) HK.out dl xl
              obtain ⟨tr, rl⟩ := tmod_nat (a := (y : Int) + imG K d + (H : Int)) (s := H) (by omega) H1
              obtain ⟨tc, cl⟩ := tmod_nat (a := xG K x y d + (W : Int)) (s := W) (by omega) W1
              have PC := hide' (fun V => placeOf_any (K : Int) (x : Int) (y : Int) V (by omega) (by omega) (by omega) (by omega))
              have NC := hide' (fun V => numberAt_any (K : Int) W H a n c ((x : Int) + leanG K y - reG K d) (-(y : Int) - imG K d) (rowG K H y d) (colG K W x y d) V ⟨W1, W2⟩ ⟨H1, H2⟩ (by omega) (by omega) (by rw [show -(-(y : Int) - imG K d) = (y : Int) + imG K d by omega]; exact tr) (by rw [show -(-(y : Int) - imG K d) = (y : Int) + imG K d by omega]; exact tc) rl cl)
              have SE : rowG K H y d * W + colG K W x y d = srcG K W H (y * W + x) d := by
                have d1 : (y * W + x) / W = y := by rw [Nat.mul_comm, Nat.mul_add_div (by omega), Nat.div_eq_of_lt xl, Nat.add_zero]
                have m1 : (y * W + x) % W = x := by rw [Nat.mul_comm, Nat.mul_add_mod]; exact Nat.mod_eq_of_lt xl
                unfold srcG
                rw [if_pos dl, d1, m1]
              rw [SE] at NC
              have sl := src_lt HK.out W1 H1 (y * W + x) d
              rw [← NL.out] at sl
              have hsub := fun t V => run_complex_sum (P := Try.prog) V .sub (Or.inr rfl) t .f64 (fI ((x : Int) + leanG K y)) (fI (-(y : Int))) (fI (reG K d)) (fI (imG K d)) (fI ((x : Int) + leanG K y - reG K d)) (fI (-(y : Int) - imG K d)) (by unfold cSumBits; rw [fI_sub (by omega) (by omega) rn.1 rn.2, fI_sub (by omega) (by omega) imn.1 imn.2]; rfl)
              obtain ⟨q1, hq1⟩ : ∃ q, fI ((x : Int) + leanG K y) = q := ⟨_, rfl⟩
              obtain ⟨q2, hq2⟩ : ∃ q, fI (-(y : Int)) = q := ⟨_, rfl⟩
              obtain ⟨q3, hq3⟩ : ∃ q, fI (reG K d) = q := ⟨_, rfl⟩
              obtain ⟨q4, hq4⟩ : ∃ q, fI (imG K d) = q := ⟨_, rfl⟩
              obtain ⟨q5, hq5⟩ : ∃ q, fI ((x : Int) + leanG K y - reG K d) = q := ⟨_, rfl⟩
              obtain ⟨q6, hq6⟩ : ∃ q, fI (-(y : Int) - imG K d) = q := ⟨_, rfl⟩
              rw [hq1, hq2] at PC
              rw [hq1, hq2, hq3, hq4, hq5, hq6] at hsub
              rw [hq3, hq4] at cd
              rw [hq5, hq6] at NC
              obtain ⟨u, hu⟩ : ∃ u, srcG K W H (y * W + x) d = u := ⟨_, rfl⟩
              rw [hu] at NC sl
              have wu := wrap_u16 u (by omega)
              obtain ⟨P, hP⟩ : ∃ P : Nat, (y : Int) * (W : Int) = (P : Int) := ⟨y * W, by simp⟩
              obtain ⟨t, ht⟩ : ∃ t, y * W + x = t := ⟨_, rfl⟩
              have tn : t < n := by
                rw [NL.out, ← ht]
                have := Nat.mul_le_mul_right W (show y + 1 ≤ H from yl)
                rw [Nat.add_mul, Nat.mul_comm H W] at this
                omega
              have bs : (P : Int) + (x : Int) = (t : Int) := by
                have : ((y * W : Nat) : Int) = (P : Int) := by rw [← hP]; simp
                omega
              have w5 := wrap_nB P (by omega)
              have w6 := wrap_nB t (by omega)
              have w3' : IntKind.i64.wrap ((y : Int) * (W : Int)) = (P : Int) := by rw [hP]; exact w5
              have w4' : IntKind.i64.wrap ((P : Int) + (x : Int)) = (t : Int) := by rw [bs]; exact w6
              have tn' : (t : Int) < (n : Int) := by omega
              have t0' : (0 : Int) ≤ (t : Int) := by omega
              have d6 : (d : Int) < 6 := by omega
              have d0' : (0 : Int) ≤ (d : Int) := by omega
              have NS := hide' (fun (V : World) (h : SR w w3 V n (fF K W H ((y * W + x) * 6 + d))) => show SR w w3 ((V.setCell ⟨w.heap.size + 1, t * 6 + d, none⟩ (.int .u16 (u : Int)))) n (fF K W H ((y * W + x) * 6 + (d + 1))) from
                (h.set (t * 6 + d) u).ext (fun k _ => by
                  rw [← Nat.add_assoc, ← fF_next, ht, show (t * 6 + d) / 6 = t by omega, show (t * 6 + d) % 6 = d by omega, ← ht, hu]))
              have CE := hide' (fun (V : World) (h : SR w w3 V n (fF K W H ((y * W + x) * 6 + d))) => show V.cell? ⟨w.heap.size + 1, t * 6 + d, none⟩ = some (.int .u16 (fF K W H ((y * W + x) * 6 + d) (t * 6 + d) : Int)) ∧ V.frozen? ⟨w.heap.size + 1, t * 6 + d, none⟩ = false ∧ w.heap.size + 1 < V.heap.size from
                ⟨h.tab.cell (by omega), frozen_of_row V _ _ _ _ h.tab, lt_of_block h.tab⟩)
              obtain ⟨v0, hv0⟩ : ∃ v0, fF K W H ((y * W + x) * 6 + d) (t * 6 + d) = v0 := ⟨_, rfl⟩
              rw [hv0] at CE
              clear hq1 hq2 hq3 hq4 hq5 hq6 hu ht hv0 SE tr tc rl cl rn imn lb xn
              go_upto_region 12 with fail
              go_region_held3 (fun U => U.cell? ⟨w.heap.size, 0, none⟩ = some (.int .i64 (K : Int)) ∧ U.cell? ⟨w.heap.size, 1, none⟩ = some (.int .i64 (W : Int)) ∧ U.cell? ⟨w.heap.size, 2, none⟩ = some (.int .i64 (H : Int)) ∧ U.cell? ⟨w.heap.size, 3, none⟩ = some (.slice a n c)) (first | exact GV.out _ (NS.out _ S7.out).keep | exact GV.out _ S7.out.keep | exact ⟨x0, x1, x2, x3⟩ | fail)
                (first
                  | (go_at_call 37; refine (PC.out _).mono ?_; rintro e w6 ⟨rfl, rfl⟩)
                  | (go_at_call 36; refine (NC.out _).mono ?_; rintro e w7 ⟨rfl, b7⟩; have S7 := hide' (HD.out.next y3 (show Below V3.heap.size V3 w7 from ⟨b7.os, b7.tape, b7.output, b7.size, b7.block⟩)); obtain ⟨k1, k2, k3⟩ := CE.out _ S7.out; clear b7)
                  | fail)
              have N7 := hide' (NS.out _ S7.out)
              clear S7 k1 k2 k3 x0 x1 x2 x3 cd hsub NC PC NS CE
              go_wp2
              exact ⟨⟨d + 1, by go_num, by omega, N7⟩, by simp [intOf]; omega⟩
            · have dK : d = K := by omega
              have ND := hide' (HD.out.ext (f' := fF K W H ((y * W + (x + 1)) * 6)) (fun k _ => by rw [dK, fF_gap K W H _ k HK.out, Nat.add_assoc]))
              clear dK
              go_wp2
              exact ⟨⟨x + 1, by go_num, by omega, ND⟩, by simp [intOf]; omega⟩
        · have xW : x = W := by omega
          have NY := hide' (show SR w w3 V2 n (fF K W H ((y + 1) * W * 6)) by
            have ee : (y + 1) * W = y * W + x := by rw [Nat.add_mul, Nat.one_mul, xW]
            rw [ee]; exact HX.out)
          clear xW
          go_wp2
          exact ⟨⟨y + 1, by go_num, by omega, NY⟩, by simp [intOf]; omega⟩
    · have yH : y = H := by omega
      have HE := hide' (show SR w w3 V1 n (fF K W H (n * 6)) by
        have ee : y * W * 6 = n * 6 := by rw [yH, NL.out, Nat.mul_comm H W]
        rw [← ee]; exact HY.out)
      clear yH
      go_wp2
      go_ret
      exact ⟨rfl, HE.out.tab.orG, HE.out.below⟩
end Go.Proofs.Ytbkllhlapdmlfaa

