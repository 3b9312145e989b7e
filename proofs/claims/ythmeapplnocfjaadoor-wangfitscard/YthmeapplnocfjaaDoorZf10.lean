/-
  What the last text of this claim leans on, part 10: Wu1, Ws3.
-/
import Derived.Test.YthmeapplnocfjaaDoorZf8
import Derived.Deep.MidRow
import Derived.Laws.Tables
import Derived.Deep.RegionLaw
import Derived.Deep.RegionHeld3
namespace Go.Proofs.YthmeapplnocfjaaDoor
open Go.RowKit
set_option linter.unusedVariables false
set_option linter.unusedSimpArgs false
def zeB : BdW := ⟨fun _ => tlz, 0, 0, false, fun _ _ => 0⟩
theorem zero_boardW (W : World) : Sem.run Tryd.prog (zeroValue 58) W = .ok (.agg (arV 92 (bdV zeB))) W := by kernel_rfl
theorem size_boardW : (Tryd.prog.info? 58).map (·.size) = some 92 := by kernel_rfl
theorem bdV_one (b : BdW) (k : Nat) : (bdV b k).oneCell' = true := by
  unfold bdV
  repeat' split
  all_goals rfl
/-- A board with its sides set. -/
theorem set_boardW (b : BdW) (W H : Nat) (r : Bool) : (((arV 92 (bdV b)).setIfInBounds 64 (.int .i64 (W : Int))).setIfInBounds 65 (.int .i64 (H : Int))).setIfInBounds 66 (.bool r) = arV 92 (bdV ⟨b.t, W, H, r, b.may⟩) := by
  rw [arV_set, arV_set, arV_set]
  refine arV_ext fun k _ => ?_
  unfold bdV
  by_cases q1 : k = 66
  · subst q1; rfl
  · by_cases q2 : k = 65
    · subst q2; rfl
    · by_cases q3 : k = 64
      · subst q3; rfl
      · simp only [q1, q2, q3, if_false]
theorem index_tilesW (f : Nat → Int) (i : Nat) (hi : i < 16) (w : World) : (Instr.index 53 (.agg (arV 64 fun k => .int .i64 (f k))) (.int .i64 (i : Int))).run Tryd.prog w = .ok (.agg #[.int .i64 (f (i * 4 + 0)), .int .i64 (f (i * 4 + 1)), .int .i64 (f (i * 4 + 2)), .int .i64 (f (i * 4 + 3))]) w := by
  match i, hi with
  | 0, _ => exact (show (Instr.index 53 (.agg (arV 64 fun k => .int .i64 (f k))) (.int .i64 0)).run Tryd.prog w = .ok (.agg #[.int .i64 (f (0 * 4 + 0)), .int .i64 (f (0 * 4 + 1)), .int .i64 (f (0 * 4 + 2)), .int .i64 (f (0 * 4 + 3))]) w by kernel_rfl)
  | 1, _ => exact (show (Instr.index 53 (.agg (arV 64 fun k => .int .i64 (f k))) (.int .i64 1)).run Tryd.prog w = .ok (.agg #[.int .i64 (f (1 * 4 + 0)), .int .i64 (f (1 * 4 + 1)), .int .i64 (f (1 * 4 + 2)), .int .i64 (f (1 * 4 + 3))]) w by kernel_rfl)
  | 2, _ => exact (show (Instr.index 53 (.agg (arV 64 fun k => .int .i64 (f k))) (.int .i64 2)).run Tryd.prog w = .ok (.agg #[.int .i64 (f (2 * 4 + 0)), .int .i64 (f (2 * 4 + 1)), .int .i64 (f (2 * 4 + 2)), .int .i64 (f (2 * 4 + 3))]) w by kernel_rfl)
  | 3, _ => exact (show (Instr.index 53 (.agg (arV 64 fun k => .int .i64 (f k))) (.int .i64 3)).run Tryd.prog w = .ok (.agg #[.int .i64 (f (3 * 4 + 0)), .int .i64 (f (3 * 4 + 1)), .int .i64 (f (3 * 4 + 2)), .int .i64 (f (3 * 4 + 3))]) w by kernel_rfl)
  | 4, _ => exact (show (Instr.index 53 (.agg (arV 64 fun k => .int .i64 (f k))) (.int .i64 4)).run Tryd.prog w = .ok (.agg #[.int .i64 (f (4 * 4 + 0)), .int .i64 (f (4 * 4 + 1)), .int .i64 (f (4 * 4 + 2)), .int .i64 (f (4 * 4 + 3))]) w by kernel_rfl)
  | 5, _ => exact (show (Instr.index 53 (.agg (arV 64 fun k => .int .i64 (f k))) (.int .i64 5)).run Tryd.prog w = .ok (.agg #[.int .i64 (f (5 * 4 + 0)), .int .i64 (f (5 * 4 + 1)), .int .i64 (f (5 * 4 + 2)), .int .i64 (f (5 * 4 + 3))]) w by kernel_rfl)
  | 6, _ => exact (show (Instr.index 53 (.agg (arV 64 fun k => .int .i64 (f k))) (.int .i64 6)).run Tryd.prog w = .ok (.agg #[.int .i64 (f (6 * 4 + 0)), .int .i64 (f (6 * 4 + 1)), .int .i64 (f (6 * 4 + 2)), .int .i64 (f (6 * 4 + 3))]) w by kernel_rfl)
  | 7, _ => exact (show (Instr.index 53 (.agg (arV 64 fun k => .int .i64 (f k))) (.int .i64 7)).run Tryd.prog w = .ok (.agg #[.int .i64 (f (7 * 4 + 0)), .int .i64 (f (7 * 4 + 1)), .int .i64 (f (7 * 4 + 2)), .int .i64 (f (7 * 4 + 3))]) w by kernel_rfl)
  | 8, _ => exact (show (Instr.index 53 (.agg (arV 64 fun k => .int .i64 (f k))) (.int .i64 8)).run Tryd.prog w = .ok (.agg #[.int .i64 (f (8 * 4 + 0)), .int .i64 (f (8 * 4 + 1)), .int .i64 (f (8 * 4 + 2)), .int .i64 (f (8 * 4 + 3))]) w by kernel_rfl)
  | 9, _ => exact (show (Instr.index 53 (.agg (arV 64 fun k => .int .i64 (f k))) (.int .i64 9)).run Tryd.prog w = .ok (.agg #[.int .i64 (f (9 * 4 + 0)), .int .i64 (f (9 * 4 + 1)), .int .i64 (f (9 * 4 + 2)), .int .i64 (f (9 * 4 + 3))]) w by kernel_rfl)
  | 10, _ => exact (show (Instr.index 53 (.agg (arV 64 fun k => .int .i64 (f k))) (.int .i64 10)).run Tryd.prog w = .ok (.agg #[.int .i64 (f (10 * 4 + 0)), .int .i64 (f (10 * 4 + 1)), .int .i64 (f (10 * 4 + 2)), .int .i64 (f (10 * 4 + 3))]) w by kernel_rfl)
  | 11, _ => exact (show (Instr.index 53 (.agg (arV 64 fun k => .int .i64 (f k))) (.int .i64 11)).run Tryd.prog w = .ok (.agg #[.int .i64 (f (11 * 4 + 0)), .int .i64 (f (11 * 4 + 1)), .int .i64 (f (11 * 4 + 2)), .int .i64 (f (11 * 4 + 3))]) w by kernel_rfl)
  | 12, _ => exact (show (Instr.index 53 (.agg (arV 64 fun k => .int .i64 (f k))) (.int .i64 12)).run Tryd.prog w = .ok (.agg #[.int .i64 (f (12 * 4 + 0)), .int .i64 (f (12 * 4 + 1)), .int .i64 (f (12 * 4 + 2)), .int .i64 (f (12 * 4 + 3))]) w by kernel_rfl)
  | 13, _ => exact (show (Instr.index 53 (.agg (arV 64 fun k => .int .i64 (f k))) (.int .i64 13)).run Tryd.prog w = .ok (.agg #[.int .i64 (f (13 * 4 + 0)), .int .i64 (f (13 * 4 + 1)), .int .i64 (f (13 * 4 + 2)), .int .i64 (f (13 * 4 + 3))]) w by kernel_rfl)
  | 14, _ => exact (show (Instr.index 53 (.agg (arV 64 fun k => .int .i64 (f k))) (.int .i64 14)).run Tryd.prog w = .ok (.agg #[.int .i64 (f (14 * 4 + 0)), .int .i64 (f (14 * 4 + 1)), .int .i64 (f (14 * 4 + 2)), .int .i64 (f (14 * 4 + 3))]) w by kernel_rfl)
  | 15, _ => exact (show (Instr.index 53 (.agg (arV 64 fun k => .int .i64 (f k))) (.int .i64 15)).run Tryd.prog w = .ok (.agg #[.int .i64 (f (15 * 4 + 0)), .int .i64 (f (15 * 4 + 1)), .int .i64 (f (15 * 4 + 2)), .int .i64 (f (15 * 4 + 3))]) w by kernel_rfl)
  | k + 16, h => exact absurd h (by omega)
theorem index_mayW (f : Nat → Nat) (i : Nat) (hi : i < 5) (w : World) : (Instr.index 56 (.agg (arV 25 fun k => .int .u64 ((f k : Nat) : Int))) (.int .i64 (i : Int))).run Tryd.prog w = .ok (.agg #[.int .u64 ((f (i * 5 + 0) : Nat) : Int), .int .u64 ((f (i * 5 + 1) : Nat) : Int), .int .u64 ((f (i * 5 + 2) : Nat) : Int), .int .u64 ((f (i * 5 + 3) : Nat) : Int), .int .u64 ((f (i * 5 + 4) : Nat) : Int)]) w := by
  match i, hi with
  | 0, _ => exact (show (Instr.index 56 (.agg (arV 25 fun k => .int .u64 ((f k : Nat) : Int))) (.int .i64 0)).run Tryd.prog w = .ok (.agg #[.int .u64 ((f (0 * 5 + 0) : Nat) : Int), .int .u64 ((f (0 * 5 + 1) : Nat) : Int), .int .u64 ((f (0 * 5 + 2) : Nat) : Int), .int .u64 ((f (0 * 5 + 3) : Nat) : Int), .int .u64 ((f (0 * 5 + 4) : Nat) : Int)]) w by kernel_rfl)
  | 1, _ => exact (show (Instr.index 56 (.agg (arV 25 fun k => .int .u64 ((f k : Nat) : Int))) (.int .i64 1)).run Tryd.prog w = .ok (.agg #[.int .u64 ((f (1 * 5 + 0) : Nat) : Int), .int .u64 ((f (1 * 5 + 1) : Nat) : Int), .int .u64 ((f (1 * 5 + 2) : Nat) : Int), .int .u64 ((f (1 * 5 + 3) : Nat) : Int), .int .u64 ((f (1 * 5 + 4) : Nat) : Int)]) w by kernel_rfl)
  | 2, _ => exact (show (Instr.index 56 (.agg (arV 25 fun k => .int .u64 ((f k : Nat) : Int))) (.int .i64 2)).run Tryd.prog w = .ok (.agg #[.int .u64 ((f (2 * 5 + 0) : Nat) : Int), .int .u64 ((f (2 * 5 + 1) : Nat) : Int), .int .u64 ((f (2 * 5 + 2) : Nat) : Int), .int .u64 ((f (2 * 5 + 3) : Nat) : Int), .int .u64 ((f (2 * 5 + 4) : Nat) : Int)]) w by kernel_rfl)
  | 3, _ => exact (show (Instr.index 56 (.agg (arV 25 fun k => .int .u64 ((f k : Nat) : Int))) (.int .i64 3)).run Tryd.prog w = .ok (.agg #[.int .u64 ((f (3 * 5 + 0) : Nat) : Int), .int .u64 ((f (3 * 5 + 1) : Nat) : Int), .int .u64 ((f (3 * 5 + 2) : Nat) : Int), .int .u64 ((f (3 * 5 + 3) : Nat) : Int), .int .u64 ((f (3 * 5 + 4) : Nat) : Int)]) w by kernel_rfl)
  | 4, _ => exact (show (Instr.index 56 (.agg (arV 25 fun k => .int .u64 ((f k : Nat) : Int))) (.int .i64 4)).run Tryd.prog w = .ok (.agg #[.int .u64 ((f (4 * 5 + 0) : Nat) : Int), .int .u64 ((f (4 * 5 + 1) : Nat) : Int), .int .u64 ((f (4 * 5 + 2) : Nat) : Int), .int .u64 ((f (4 * 5 + 3) : Nat) : Int), .int .u64 ((f (4 * 5 + 4) : Nat) : Int)]) w by kernel_rfl)
theorem index_colW (h : Nat → Nat) (i : Nat) (hi : i < 5) (w : World) : (Instr.index 55 (.agg #[.int .u64 ((h 0 : Nat) : Int), .int .u64 ((h 1 : Nat) : Int), .int .u64 ((h 2 : Nat) : Int), .int .u64 ((h 3 : Nat) : Int), .int .u64 ((h 4 : Nat) : Int)]) (.int .i64 (i : Int))).run Tryd.prog w = .ok (.int .u64 ((h i : Nat) : Int)) w := by
  match i, hi with
  | 0, _ => exact (show (Instr.index 55 (.agg #[.int .u64 ((h 0 : Nat) : Int), .int .u64 ((h 1 : Nat) : Int), .int .u64 ((h 2 : Nat) : Int), .int .u64 ((h 3 : Nat) : Int), .int .u64 ((h 4 : Nat) : Int)]) (.int .i64 0)).run Tryd.prog w = .ok (.int .u64 ((h 0 : Nat) : Int)) w by kernel_rfl)
  | 1, _ => exact (show (Instr.index 55 (.agg #[.int .u64 ((h 0 : Nat) : Int), .int .u64 ((h 1 : Nat) : Int), .int .u64 ((h 2 : Nat) : Int), .int .u64 ((h 3 : Nat) : Int), .int .u64 ((h 4 : Nat) : Int)]) (.int .i64 1)).run Tryd.prog w = .ok (.int .u64 ((h 1 : Nat) : Int)) w by kernel_rfl)
  | 2, _ => exact (show (Instr.index 55 (.agg #[.int .u64 ((h 0 : Nat) : Int), .int .u64 ((h 1 : Nat) : Int), .int .u64 ((h 2 : Nat) : Int), .int .u64 ((h 3 : Nat) : Int), .int .u64 ((h 4 : Nat) : Int)]) (.int .i64 2)).run Tryd.prog w = .ok (.int .u64 ((h 2 : Nat) : Int)) w by kernel_rfl)
  | 3, _ => exact (show (Instr.index 55 (.agg #[.int .u64 ((h 0 : Nat) : Int), .int .u64 ((h 1 : Nat) : Int), .int .u64 ((h 2 : Nat) : Int), .int .u64 ((h 3 : Nat) : Int), .int .u64 ((h 4 : Nat) : Int)]) (.int .i64 3)).run Tryd.prog w = .ok (.int .u64 ((h 3 : Nat) : Int)) w by kernel_rfl)
  | 4, _ => exact (show (Instr.index 55 (.agg #[.int .u64 ((h 0 : Nat) : Int), .int .u64 ((h 1 : Nat) : Int), .int .u64 ((h 2 : Nat) : Int), .int .u64 ((h 3 : Nat) : Int), .int .u64 ((h 4 : Nat) : Int)]) (.int .i64 4)).run Tryd.prog w = .ok (.int .u64 ((h 4 : Nat) : Int)) w by kernel_rfl)
theorem range_tiles {V : World} {g : Nat} {b : BdW} (h : BrdA V g b) : V.rangeAt g 0 ((List.range 64).map fun k => .int .i64 (tlC (b.t (k / 4)) (k % 4))) := fun j v hv => by
  have hj : j < 64 := by
    have := (List.getElem?_eq_some_iff.1 hv).1
    simpa using this
  have e : ((List.range 64).map fun k => Value.int .i64 (tlC (b.t (k / 4)) (k % 4)))[j]? = some (.int .i64 (tlC (b.t (j / 4)) (j % 4))) := by simp [hj]
  rw [e] at hv
  rw [Nat.zero_add, h.cell (by omega), ← hv]
  unfold bdV
  rw [if_pos hj]
theorem range_may {V : World} {g : Nat} {b : BdW} (h : BrdA V g b) : V.rangeAt g 67 ((List.range 25).map fun k => .int .u64 ((b.may (k / 5) (k % 5) : Nat) : Int)) := fun j v hv => by
  have hj : j < 25 := by
    have := (List.getElem?_eq_some_iff.1 hv).1
    simpa using this
  have e : ((List.range 25).map fun k => Value.int .u64 ((b.may (k / 5) (k % 5) : Nat) : Int))[j]? = some (.int .u64 ((b.may (j / 5) (j % 5) : Nat) : Int)) := by simp [hj]
  rw [e] at hv
  rw [h.cell (by omega), ← hv]
  unfold bdV
  rw [if_neg (by omega), if_neg (by omega), if_neg (by omega), if_neg (by omega), show 67 + j - 67 = j by omega]
/-- One tile of a board is set; one cell's tiles. -/
def setT (b : BdW) (k : Nat) (t : TlT) : BdW := ⟨fun i => if i = k then t else b.t i, b.W, b.H, b.ring, b.may⟩
theorem set_tileW {V : World} {g : Nat} {b : BdW} (h : BrdA V g b) {k : Nat} (hk : k < 16) (t : TlT) : BrdA ((((V.setCell ⟨g, k * 4, none⟩ (.int .i64 t.u)).setCell ⟨g, k * 4 + 1, none⟩ (.int .i64 t.r)).setCell ⟨g, k * 4 + 2, none⟩ (.int .i64 t.d)).setCell ⟨g, k * 4 + 3, none⟩ (.int .i64 t.l)) g (setT b k t) := by
  unfold BrdA
  rw [heap_setCell_same _ _ _ _ _ _ (heap_setCell_same _ _ _ _ _ _ (heap_setCell_same _ _ _ _ _ _ (heap_setCell_same _ _ _ _ _ _ h))), arV_set, arV_set, arV_set, arV_set]
  congr 2
  refine arV_ext fun i hi => ?_
  show (if i = k * 4 + 3 then _ else if i = k * 4 + 2 then _ else if i = k * 4 + 1 then _ else if i = k * 4 then _ else bdV b i) = bdV (setT b k t) i
  by_cases q : i < 64
  · by_cases e : i / 4 = k
    · have : i = k * 4 + i % 4 := by omega
      have tt : bdV (setT b k t) i = .int .i64 (tlC t (i % 4)) := by
        unfold bdV setT
        simp only [q, e, if_true]
      rw [tt]
      have m4 : i % 4 < 4 := Nat.mod_lt _ (by omega)
      rcases (show i % 4 = 0 ∨ i % 4 = 1 ∨ i % 4 = 2 ∨ i % 4 = 3 by omega) with m | m | m | m
      · rw [if_neg (by omega), if_neg (by omega), if_neg (by omega), if_pos (by omega), m]; rfl
      · rw [if_neg (by omega), if_neg (by omega), if_pos (by omega), m]; rfl
      · rw [if_neg (by omega), if_pos (by omega), m]; rfl
      · rw [if_pos (by omega), m]; rfl
    · rw [if_neg (by omega), if_neg (by omega), if_neg (by omega), if_neg (by omega)]
      unfold bdV setT
      simp only [q, e, if_true, if_false]
  · rw [if_neg (by omega), if_neg (by omega), if_neg (by omega), if_neg (by omega)]
    unfold bdV setT
    simp only [q, if_false]
theorem set_mayW {V : World} {g : Nat} {b : BdW} (h : BrdA V g b) {r c : Nat} (hr : r < 5) (hc : c < 5) (m : Nat) : BrdA (V.setCell ⟨g, 67 + r * 5 + c, none⟩ (.int .u64 (m : Int))) g (setM b r c m) := by
  unfold BrdA
  rw [heap_setCell_same _ _ _ _ _ _ h, arV_set]
  congr 2
  refine arV_ext fun i hi => ?_
  by_cases e : i = 67 + r * 5 + c
  · rw [if_pos e, e, bdV_may _ hc]
    unfold setM
    simp
  · rw [if_neg e]
    unfold bdV setM
    by_cases q : i < 67
    · by_cases q1 : i < 64
      · simp only [q1, if_true]
      · rcases (show i = 64 ∨ i = 65 ∨ i = 66 by omega) with rfl | rfl | rfl <;> rfl
    · have ne : ¬ ((i - 67) / 5 = r ∧ (i - 67) % 5 = c) := by omega
      have q1 : ¬ i < 64 := by omega
      have q2 : ¬ i = 64 := by omega
      have q3 : ¬ i = 65 := by omega
      have q4 : ¬ i = 66 := by omega
      simp only [q1, q2, q3, q4, ne, if_false]
end Go.Proofs.YthmeapplnocfjaaDoor

namespace Go.Proofs.YthmeapplnocfjaaDoor
open Go.RowKit
set_option linter.unusedVariables false
set_option linter.unusedSimpArgs false
/-- Numbers of ends as they lie. -/
def EnB (V : World) (g : Nat) (f : Nat → Int) : Prop := V.heap[g]? = some (.cells (arV 48 fun i => .int .i64 (f i)) 98 (0, 0))
theorem EnB.cell {V : World} {g : Nat} {f : Nat → Int} (h : EnB V g f) {i : Nat} (hi : i < 48) : V.cell? ⟨g, i, none⟩ = some (.int .i64 (f i)) := by rw [cell_of_row V _ _ _ _ _ h, arV_get _ hi]
theorem EnB.set {V : World} {g : Nat} {f : Nat → Int} (h : EnB V g f) (i : Nat) (v : Int) : EnB (V.setCell ⟨g, i, none⟩ (.int .i64 v)) g (fun k => if k = i then v else f k) := by
  unfold EnB
  rw [heap_setCell_same _ _ _ _ _ _ h, arV_set]
  congr 2
  exact arV_ext fun k _ => by by_cases q : k = i <;> simp [q]
theorem EnB.below {V V' : World} {g : Nat} {f : Nat → Int} (h : EnB V g f) (k : Below V.heap.size V V') : EnB V' g f := (k.block g (lt_blockT h)).trans h
/-- What is counted: columns from j on are done. -/
def EnS (b : BdW) (r col : Nat) (f : Nat → Int) (j : Nat) : Prop := (∀ c x, j ≤ c → c ≤ b.W → x < 8 → f (c * 8 + x) = ((enW b r col (b.W - c) c (x : Int) : Nat) : Int)) ∧ (∀ c x, c < j → x < 8 → f (c * 8 + x) = 0)
/-- One more column is being counted. -/
def EnP (b : BdW) (r col : Nat) (f : Nat → Int) (c n : Nat) : Prop := (∀ c' x, c < c' → c' ≤ b.W → x < 8 → f (c' * 8 + x) = ((enW b r col (b.W - c') c' (x : Int) : Nat) : Int)) ∧ (∀ c' x, c' < c → x < 8 → f (c' * 8 + x) = 0) ∧
  (∀ x, x < 8 → f (c * 8 + x) = ((smT (fun k => if (b.may r c).testBit k = true ∧ (inW b r c k).l = (x : Int) then enW b r col (b.W - (c + 1)) (c + 1) (inW b r c k).r else 0) n : Nat) : Int))
theorem EnS.begin {b : BdW} {r col : Nat} {f : Nat → Int} {j : Nat} (h : EnS b r col f (j + 1)) : EnP b r col f j 0 := ⟨fun c x h1 h2 h3 => h.1 c x (by omega) h2 h3, fun c x h1 h2 => h.2 c x (by omega) h2, fun x hx => by rw [h.2 j x (by omega) hx]; rfl⟩
theorem EnP.done {b : BdW} {r col : Nat} {f : Nat → Int} {c n : Nat} (h : EnP b r col f c n) (hc : c < b.W) (hn : n ≤ 16) (z : ∀ i, n ≤ i → (b.may r c).testBit i = false) : EnS b r col f c := by
  refine ⟨fun c' x h1 h2 h3 => ?_, h.2.1⟩
  by_cases e : c' = c
  · subst e
    rw [h.2.2 x h3]
    obtain ⟨d, hd⟩ : ∃ d, b.W - c' = d + 1 := ⟨b.W - c' - 1, by omega⟩
    rw [hd, show b.W - (c' + 1) = d by omega]
    rw [enW, smT_skip hn (fun j a _ => by rw [if_neg]; rw [z j a]; simp)]
  · exact h.1 c' x (by omega) h2 h3
theorem EnP.next {b : BdW} {r col : Nat} {f : Nat → Int} {c n k ln rn : Nat} (h : EnP b r col f c n) (hc : c < b.W) (hnk : n ≤ k) (hm : (b.may r c).testBit k = true) (hz : ∀ j, n ≤ j → j < k → (b.may r c).testBit j = false) (hl : (inW b r c k).l = (ln : Int)) (hr : (inW b r c k).r = (rn : Int)) (l8 : ln < 8) (r8 : rn < 8) : EnP b r col (fun i => if i = c * 8 + ln then f (c * 8 + ln) + f ((c + 1) * 8 + rn) else f i) c (k + 1) := by
  refine ⟨fun c' x h1 h2 h3 => ?_, fun c' x h1 h2 => ?_, fun x hx => ?_⟩
  · show (if c' * 8 + x = c * 8 + ln then f (c * 8 + ln) + f ((c + 1) * 8 + rn) else f (c' * 8 + x)) = _
    rw [if_neg (by omega)]; exact h.1 c' x h1 h2 h3
  · show (if c' * 8 + x = c * 8 + ln then f (c * 8 + ln) + f ((c + 1) * 8 + rn) else f (c' * 8 + x)) = _
    rw [if_neg (by omega)]; exact h.2.1 c' x h1 h2
  · rw [smT, smT_skip hnk (fun j a b' => by rw [if_neg]; rw [hz j a b']; simp)]
    show (if c * 8 + x = c * 8 + ln then f (c * 8 + ln) + f ((c + 1) * 8 + rn) else f (c * 8 + x)) = _
    by_cases e : x = ln
    · subst e
      rw [if_pos rfl, if_pos ⟨hm, hl⟩, h.2.2 x hx, h.1 (c + 1) rn (by omega) (by omega) r8, hr]
      push_cast
      rfl
    · have ne : ¬ c * 8 + x = c * 8 + ln := by omega
      have nq : ¬ ((b.may r c).testBit k = true ∧ (inW b r c k).l = (x : Int)) := fun q => e (by have := q.2; rw [hl] at this; omega)
      rw [if_neg ne, if_neg nq, h.2.2 x hx]
      simp
theorem EnP.small {b : BdW} {r col : Nat} {f : Nat → Int} {c n k ln rn : Nat} (h : EnP b r col f c n) (hW : b.W ≤ 5) (hc : c < b.W) (hn : n ≤ 16) (l8 : ln < 8) (r8 : rn < 8) : 0 ≤ f (c * 8 + ln) ∧ f (c * 8 + ln) ≤ 16777216 ∧ 0 ≤ f ((c + 1) * 8 + rn) ∧ f ((c + 1) * 8 + rn) ≤ 1048576 := by
  rw [h.2.2 ln l8, h.1 (c + 1) rn (by omega) (by omega) r8]
  have pw : 16 ^ (b.W - (c + 1)) ≤ 16 ^ 5 := Nat.pow_le_pow_right (by omega) (by omega)
  have h1 := en_le b r col (b.W - (c + 1)) (c + 1) (rn : Int)
  have h2 : smT (fun k => if (b.may r c).testBit k = true ∧ (inW b r c k).l = (ln : Int) then enW b r col (b.W - (c + 1)) (c + 1) (inW b r c k).r else 0) n ≤ n * 16 ^ 5 := smT_le (fun j _ => by
    show (if _ then _ else _) ≤ _
    split
    · exact Nat.le_trans (en_le _ _ _ _ _ _) pw
    · exact Nat.zero_le _)
  have h3 : n * 16 ^ 5 ≤ 16 * 16 ^ 5 := Nat.mul_le_mul_right _ hn
  omega
/-- What ends answers. -/
def EnO (b : BdW) (r col : Nat) (w : World) (e : Ending) (w' : World) : Prop := ∃ f, EnS b r col f 0 ∧ e = .returned (.agg (arV 48 fun i => .int .i64 (f i))) ∧ Below w.heap.size w w'
/-- While it is counted. -/
structure EnW (b : BdW) (g : Nat) (w wr : World) (f : Nat → Int) : Prop where
  below : Below w.heap.size w wr
  res : EnB wr w.heap.size (fun _ => 0)
  row : EnB wr (w.heap.size + 1) f
theorem EnW.keep {b : BdW} {g : Nat} {w wr V : World} {f : Nat → Int} (h : EnW b g w wr f) (k : Below wr.heap.size wr V) : EnW b g w V f := ⟨h.below.trans (k.mono h.below.size), h.res.below k, h.row.below k⟩
theorem EnW.set {b : BdW} {g : Nat} {w wr : World} {f : Nat → Int} (h : EnW b g w wr f) (i : Nat) (v : Int) : EnW b g w (wr.setCell ⟨w.heap.size + 1, i, none⟩ (.int .i64 v)) (fun k => if k = i then v else f k) :=
  ⟨h.below.setCell (by simp) _, by unfold EnB; rw [heap_setCell_other _ _ _ _ (by simp)]; exact h.res, h.row.set i v⟩
theorem zero_ends (W : World) : Sem.run Tryd.prog (zeroValue 98) W = .ok (.agg (arV 48 fun _ => .int .i64 0)) W := by kernel_rfl
end Go.Proofs.YthmeapplnocfjaaDoor

