/-
  What the last text of this claim leans on, part 15: Hc3.
-/
import Derived.Test.YtelocgefaommmaaDoorZh14
namespace Go.Proofs.YtelocgefaommmaaDoor
open Go.RowKit
set_option linter.unusedVariables false
theorem index16_0 (g0 g1 g2 g3 g4 g5 g6 g7 g8 g9 g10 g11 g12 g13 g14 g15 : Nat) (w : World) : (Instr.index 85 (.agg #[.int .i32 (g0 : Int), .int .i32 (g1 : Int), .int .i32 (g2 : Int), .int .i32 (g3 : Int), .int .i32 (g4 : Int), .int .i32 (g5 : Int), .int .i32 (g6 : Int), .int .i32 (g7 : Int), .int .i32 (g8 : Int), .int .i32 (g9 : Int), .int .i32 (g10 : Int), .int .i32 (g11 : Int), .int .i32 (g12 : Int), .int .i32 (g13 : Int), .int .i32 (g14 : Int), .int .i32 (g15 : Int)]) (.int .i64 0)).run Tryd.prog w = .ok (.int .i32 (g0 : Int)) w := by kernel_rfl
theorem index16_1 (g0 g1 g2 g3 g4 g5 g6 g7 g8 g9 g10 g11 g12 g13 g14 g15 : Nat) (w : World) : (Instr.index 85 (.agg #[.int .i32 (g0 : Int), .int .i32 (g1 : Int), .int .i32 (g2 : Int), .int .i32 (g3 : Int), .int .i32 (g4 : Int), .int .i32 (g5 : Int), .int .i32 (g6 : Int), .int .i32 (g7 : Int), .int .i32 (g8 : Int), .int .i32 (g9 : Int), .int .i32 (g10 : Int), .int .i32 (g11 : Int), .int .i32 (g12 : Int), .int .i32 (g13 : Int), .int .i32 (g14 : Int), .int .i32 (g15 : Int)]) (.int .i64 1)).run Tryd.prog w = .ok (.int .i32 (g1 : Int)) w := by kernel_rfl
theorem index16_2 (g0 g1 g2 g3 g4 g5 g6 g7 g8 g9 g10 g11 g12 g13 g14 g15 : Nat) (w : World) : (Instr.index 85 (.agg #[.int .i32 (g0 : Int), .int .i32 (g1 : Int), .int .i32 (g2 : Int), .int .i32 (g3 : Int), .int .i32 (g4 : Int), .int .i32 (g5 : Int), .int .i32 (g6 : Int), .int .i32 (g7 : Int), .int .i32 (g8 : Int), .int .i32 (g9 : Int), .int .i32 (g10 : Int), .int .i32 (g11 : Int), .int .i32 (g12 : Int), .int .i32 (g13 : Int), .int .i32 (g14 : Int), .int .i32 (g15 : Int)]) (.int .i64 2)).run Tryd.prog w = .ok (.int .i32 (g2 : Int)) w := by kernel_rfl
theorem index16_3 (g0 g1 g2 g3 g4 g5 g6 g7 g8 g9 g10 g11 g12 g13 g14 g15 : Nat) (w : World) : (Instr.index 85 (.agg #[.int .i32 (g0 : Int), .int .i32 (g1 : Int), .int .i32 (g2 : Int), .int .i32 (g3 : Int), .int .i32 (g4 : Int), .int .i32 (g5 : Int), .int .i32 (g6 : Int), .int .i32 (g7 : Int), .int .i32 (g8 : Int), .int .i32 (g9 : Int), .int .i32 (g10 : Int), .int .i32 (g11 : Int), .int .i32 (g12 : Int), .int .i32 (g13 : Int), .int .i32 (g14 : Int), .int .i32 (g15 : Int)]) (.int .i64 3)).run Tryd.prog w = .ok (.int .i32 (g3 : Int)) w := by kernel_rfl
theorem index16_4 (g0 g1 g2 g3 g4 g5 g6 g7 g8 g9 g10 g11 g12 g13 g14 g15 : Nat) (w : World) : (Instr.index 85 (.agg #[.int .i32 (g0 : Int), .int .i32 (g1 : Int), .int .i32 (g2 : Int), .int .i32 (g3 : Int), .int .i32 (g4 : Int), .int .i32 (g5 : Int), .int .i32 (g6 : Int), .int .i32 (g7 : Int), .int .i32 (g8 : Int), .int .i32 (g9 : Int), .int .i32 (g10 : Int), .int .i32 (g11 : Int), .int .i32 (g12 : Int), .int .i32 (g13 : Int), .int .i32 (g14 : Int), .int .i32 (g15 : Int)]) (.int .i64 4)).run Tryd.prog w = .ok (.int .i32 (g4 : Int)) w := by kernel_rfl
theorem index16_5 (g0 g1 g2 g3 g4 g5 g6 g7 g8 g9 g10 g11 g12 g13 g14 g15 : Nat) (w : World) : (Instr.index 85 (.agg #[.int .i32 (g0 : Int), .int .i32 (g1 : Int), .int .i32 (g2 : Int), .int .i32 (g3 : Int), .int .i32 (g4 : Int), .int .i32 (g5 : Int), .int .i32 (g6 : Int), .int .i32 (g7 : Int), .int .i32 (g8 : Int), .int .i32 (g9 : Int), .int .i32 (g10 : Int), .int .i32 (g11 : Int), .int .i32 (g12 : Int), .int .i32 (g13 : Int), .int .i32 (g14 : Int), .int .i32 (g15 : Int)]) (.int .i64 5)).run Tryd.prog w = .ok (.int .i32 (g5 : Int)) w := by kernel_rfl
theorem index16_6 (g0 g1 g2 g3 g4 g5 g6 g7 g8 g9 g10 g11 g12 g13 g14 g15 : Nat) (w : World) : (Instr.index 85 (.agg #[.int .i32 (g0 : Int), .int .i32 (g1 : Int), .int .i32 (g2 : Int), .int .i32 (g3 : Int), .int .i32 (g4 : Int), .int .i32 (g5 : Int), .int .i32 (g6 : Int), .int .i32 (g7 : Int), .int .i32 (g8 : Int), .int .i32 (g9 : Int), .int .i32 (g10 : Int), .int .i32 (g11 : Int), .int .i32 (g12 : Int), .int .i32 (g13 : Int), .int .i32 (g14 : Int), .int .i32 (g15 : Int)]) (.int .i64 6)).run Tryd.prog w = .ok (.int .i32 (g6 : Int)) w := by kernel_rfl
theorem index16_7 (g0 g1 g2 g3 g4 g5 g6 g7 g8 g9 g10 g11 g12 g13 g14 g15 : Nat) (w : World) : (Instr.index 85 (.agg #[.int .i32 (g0 : Int), .int .i32 (g1 : Int), .int .i32 (g2 : Int), .int .i32 (g3 : Int), .int .i32 (g4 : Int), .int .i32 (g5 : Int), .int .i32 (g6 : Int), .int .i32 (g7 : Int), .int .i32 (g8 : Int), .int .i32 (g9 : Int), .int .i32 (g10 : Int), .int .i32 (g11 : Int), .int .i32 (g12 : Int), .int .i32 (g13 : Int), .int .i32 (g14 : Int), .int .i32 (g15 : Int)]) (.int .i64 7)).run Tryd.prog w = .ok (.int .i32 (g7 : Int)) w := by kernel_rfl
theorem index16_8 (g0 g1 g2 g3 g4 g5 g6 g7 g8 g9 g10 g11 g12 g13 g14 g15 : Nat) (w : World) : (Instr.index 85 (.agg #[.int .i32 (g0 : Int), .int .i32 (g1 : Int), .int .i32 (g2 : Int), .int .i32 (g3 : Int), .int .i32 (g4 : Int), .int .i32 (g5 : Int), .int .i32 (g6 : Int), .int .i32 (g7 : Int), .int .i32 (g8 : Int), .int .i32 (g9 : Int), .int .i32 (g10 : Int), .int .i32 (g11 : Int), .int .i32 (g12 : Int), .int .i32 (g13 : Int), .int .i32 (g14 : Int), .int .i32 (g15 : Int)]) (.int .i64 8)).run Tryd.prog w = .ok (.int .i32 (g8 : Int)) w := by kernel_rfl
theorem index16_9 (g0 g1 g2 g3 g4 g5 g6 g7 g8 g9 g10 g11 g12 g13 g14 g15 : Nat) (w : World) : (Instr.index 85 (.agg #[.int .i32 (g0 : Int), .int .i32 (g1 : Int), .int .i32 (g2 : Int), .int .i32 (g3 : Int), .int .i32 (g4 : Int), .int .i32 (g5 : Int), .int .i32 (g6 : Int), .int .i32 (g7 : Int), .int .i32 (g8 : Int), .int .i32 (g9 : Int), .int .i32 (g10 : Int), .int .i32 (g11 : Int), .int .i32 (g12 : Int), .int .i32 (g13 : Int), .int .i32 (g14 : Int), .int .i32 (g15 : Int)]) (.int .i64 9)).run Tryd.prog w = .ok (.int .i32 (g9 : Int)) w := by kernel_rfl
theorem index16_10 (g0 g1 g2 g3 g4 g5 g6 g7 g8 g9 g10 g11 g12 g13 g14 g15 : Nat) (w : World) : (Instr.index 85 (.agg #[.int .i32 (g0 : Int), .int .i32 (g1 : Int), .int .i32 (g2 : Int), .int .i32 (g3 : Int), .int .i32 (g4 : Int), .int .i32 (g5 : Int), .int .i32 (g6 : Int), .int .i32 (g7 : Int), .int .i32 (g8 : Int), .int .i32 (g9 : Int), .int .i32 (g10 : Int), .int .i32 (g11 : Int), .int .i32 (g12 : Int), .int .i32 (g13 : Int), .int .i32 (g14 : Int), .int .i32 (g15 : Int)]) (.int .i64 10)).run Tryd.prog w = .ok (.int .i32 (g10 : Int)) w := by kernel_rfl
theorem index16_11 (g0 g1 g2 g3 g4 g5 g6 g7 g8 g9 g10 g11 g12 g13 g14 g15 : Nat) (w : World) : (Instr.index 85 (.agg #[.int .i32 (g0 : Int), .int .i32 (g1 : Int), .int .i32 (g2 : Int), .int .i32 (g3 : Int), .int .i32 (g4 : Int), .int .i32 (g5 : Int), .int .i32 (g6 : Int), .int .i32 (g7 : Int), .int .i32 (g8 : Int), .int .i32 (g9 : Int), .int .i32 (g10 : Int), .int .i32 (g11 : Int), .int .i32 (g12 : Int), .int .i32 (g13 : Int), .int .i32 (g14 : Int), .int .i32 (g15 : Int)]) (.int .i64 11)).run Tryd.prog w = .ok (.int .i32 (g11 : Int)) w := by kernel_rfl
theorem index16_12 (g0 g1 g2 g3 g4 g5 g6 g7 g8 g9 g10 g11 g12 g13 g14 g15 : Nat) (w : World) : (Instr.index 85 (.agg #[.int .i32 (g0 : Int), .int .i32 (g1 : Int), .int .i32 (g2 : Int), .int .i32 (g3 : Int), .int .i32 (g4 : Int), .int .i32 (g5 : Int), .int .i32 (g6 : Int), .int .i32 (g7 : Int), .int .i32 (g8 : Int), .int .i32 (g9 : Int), .int .i32 (g10 : Int), .int .i32 (g11 : Int), .int .i32 (g12 : Int), .int .i32 (g13 : Int), .int .i32 (g14 : Int), .int .i32 (g15 : Int)]) (.int .i64 12)).run Tryd.prog w = .ok (.int .i32 (g12 : Int)) w := by kernel_rfl
theorem index16_13 (g0 g1 g2 g3 g4 g5 g6 g7 g8 g9 g10 g11 g12 g13 g14 g15 : Nat) (w : World) : (Instr.index 85 (.agg #[.int .i32 (g0 : Int), .int .i32 (g1 : Int), .int .i32 (g2 : Int), .int .i32 (g3 : Int), .int .i32 (g4 : Int), .int .i32 (g5 : Int), .int .i32 (g6 : Int), .int .i32 (g7 : Int), .int .i32 (g8 : Int), .int .i32 (g9 : Int), .int .i32 (g10 : Int), .int .i32 (g11 : Int), .int .i32 (g12 : Int), .int .i32 (g13 : Int), .int .i32 (g14 : Int), .int .i32 (g15 : Int)]) (.int .i64 13)).run Tryd.prog w = .ok (.int .i32 (g13 : Int)) w := by kernel_rfl
theorem index16_14 (g0 g1 g2 g3 g4 g5 g6 g7 g8 g9 g10 g11 g12 g13 g14 g15 : Nat) (w : World) : (Instr.index 85 (.agg #[.int .i32 (g0 : Int), .int .i32 (g1 : Int), .int .i32 (g2 : Int), .int .i32 (g3 : Int), .int .i32 (g4 : Int), .int .i32 (g5 : Int), .int .i32 (g6 : Int), .int .i32 (g7 : Int), .int .i32 (g8 : Int), .int .i32 (g9 : Int), .int .i32 (g10 : Int), .int .i32 (g11 : Int), .int .i32 (g12 : Int), .int .i32 (g13 : Int), .int .i32 (g14 : Int), .int .i32 (g15 : Int)]) (.int .i64 14)).run Tryd.prog w = .ok (.int .i32 (g14 : Int)) w := by kernel_rfl
theorem index16_15 (g0 g1 g2 g3 g4 g5 g6 g7 g8 g9 g10 g11 g12 g13 g14 g15 : Nat) (w : World) : (Instr.index 85 (.agg #[.int .i32 (g0 : Int), .int .i32 (g1 : Int), .int .i32 (g2 : Int), .int .i32 (g3 : Int), .int .i32 (g4 : Int), .int .i32 (g5 : Int), .int .i32 (g6 : Int), .int .i32 (g7 : Int), .int .i32 (g8 : Int), .int .i32 (g9 : Int), .int .i32 (g10 : Int), .int .i32 (g11 : Int), .int .i32 (g12 : Int), .int .i32 (g13 : Int), .int .i32 (g14 : Int), .int .i32 (g15 : Int)]) (.int .i64 15)).run Tryd.prog w = .ok (.int .i32 (g15 : Int)) w := by kernel_rfl
theorem index16 (f : Nat → Nat) {i : Nat} (hi : i < 16) (w : World) : (Instr.index 85 (.agg (arr16 f)) (.int .i64 (i : Int))).run Tryd.prog w = .ok (.int .i32 (f i : Int)) w := by
  have : i = 0 ∨ i = 1 ∨ i = 2 ∨ i = 3 ∨ i = 4 ∨ i = 5 ∨ i = 6 ∨ i = 7 ∨ i = 8 ∨ i = 9 ∨ i = 10 ∨ i = 11 ∨ i = 12 ∨ i = 13 ∨ i = 14 ∨ i = 15 := by omega
  rcases this with rfl | rfl | rfl | rfl | rfl | rfl | rfl | rfl | rfl | rfl | rfl | rfl | rfl | rfl | rfl | rfl
  · exact index16_0 (f 0) (f 1) (f 2) (f 3) (f 4) (f 5) (f 6) (f 7) (f 8) (f 9) (f 10) (f 11) (f 12) (f 13) (f 14) (f 15) w
  · exact index16_1 (f 0) (f 1) (f 2) (f 3) (f 4) (f 5) (f 6) (f 7) (f 8) (f 9) (f 10) (f 11) (f 12) (f 13) (f 14) (f 15) w
  · exact index16_2 (f 0) (f 1) (f 2) (f 3) (f 4) (f 5) (f 6) (f 7) (f 8) (f 9) (f 10) (f 11) (f 12) (f 13) (f 14) (f 15) w
  · exact index16_3 (f 0) (f 1) (f 2) (f 3) (f 4) (f 5) (f 6) (f 7) (f 8) (f 9) (f 10) (f 11) (f 12) (f 13) (f 14) (f 15) w
  · exact index16_4 (f 0) (f 1) (f 2) (f 3) (f 4) (f 5) (f 6) (f 7) (f 8) (f 9) (f 10) (f 11) (f 12) (f 13) (f 14) (f 15) w
  · exact index16_5 (f 0) (f 1) (f 2) (f 3) (f 4) (f 5) (f 6) (f 7) (f 8) (f 9) (f 10) (f 11) (f 12) (f 13) (f 14) (f 15) w
  · exact index16_6 (f 0) (f 1) (f 2) (f 3) (f 4) (f 5) (f 6) (f 7) (f 8) (f 9) (f 10) (f 11) (f 12) (f 13) (f 14) (f 15) w
  · exact index16_7 (f 0) (f 1) (f 2) (f 3) (f 4) (f 5) (f 6) (f 7) (f 8) (f 9) (f 10) (f 11) (f 12) (f 13) (f 14) (f 15) w
  · exact index16_8 (f 0) (f 1) (f 2) (f 3) (f 4) (f 5) (f 6) (f 7) (f 8) (f 9) (f 10) (f 11) (f 12) (f 13) (f 14) (f 15) w
  · exact index16_9 (f 0) (f 1) (f 2) (f 3) (f 4) (f 5) (f 6) (f 7) (f 8) (f 9) (f 10) (f 11) (f 12) (f 13) (f 14) (f 15) w
  · exact index16_10 (f 0) (f 1) (f 2) (f 3) (f 4) (f 5) (f 6) (f 7) (f 8) (f 9) (f 10) (f 11) (f 12) (f 13) (f 14) (f 15) w
  · exact index16_11 (f 0) (f 1) (f 2) (f 3) (f 4) (f 5) (f 6) (f 7) (f 8) (f 9) (f 10) (f 11) (f 12) (f 13) (f 14) (f 15) w
  · exact index16_12 (f 0) (f 1) (f 2) (f 3) (f 4) (f 5) (f 6) (f 7) (f 8) (f 9) (f 10) (f 11) (f 12) (f 13) (f 14) (f 15) w
  · exact index16_13 (f 0) (f 1) (f 2) (f 3) (f 4) (f 5) (f 6) (f 7) (f 8) (f 9) (f 10) (f 11) (f 12) (f 13) (f 14) (f 15) w
  · exact index16_14 (f 0) (f 1) (f 2) (f 3) (f 4) (f 5) (f 6) (f 7) (f 8) (f 9) (f 10) (f 11) (f 12) (f 13) (f 14) (f 15) w
  · exact index16_15 (f 0) (f 1) (f 2) (f 3) (f 4) (f 5) (f 6) (f 7) (f 8) (f 9) (f 10) (f 11) (f 12) (f 13) (f 14) (f 15) w
/-- What corner answers. -/
def CoP (f : Nat → Nat) (w : World) (e : Ending) (w' : World) : Prop := (∃ (x y : Nat) (ok : Bool), e = .returned (.tuple #[.int .i64 (x : Int), .int .i64 (y : Int), .bool ok]) ∧ (ok = true → x ≤ 2 ∧ y ≤ 2 ∧ ∀ i, i < 16 → f i ≠ 0 → (x ≤ i % 4 ∧ i % 4 ≤ x + 1) ∧ (y ≤ i / 4 ∧ i / 4 ≤ y + 1))) ∧ Below w.heap.size w w'
def CoI (f : Nat → Nat) (j l u r d : Nat) : Prop := l ≤ 3 ∧ u ≤ 3 ∧ r ≤ 3 ∧ d ≤ 3 ∧ ∀ i, i < j → f i ≠ 0 → l ≤ i % 4 ∧ i % 4 ≤ r ∧ u ≤ i / 4 ∧ i / 4 ≤ d
theorem CoI.skip {f : Nat → Nat} {j l u r d : Nat} (h : CoI f j l u r d) (hz : f j = 0) : CoI f (j + 1) l u r d := ⟨h.1, h.2.1, h.2.2.1, h.2.2.2.1, fun i hi hn => by
  by_cases e : i = j
  · subst e; exact absurd hz hn
  · exact h.2.2.2.2 i (by omega) hn⟩
theorem CoI.put {f : Nat → Nat} {j l u r d : Nat} (h : CoI f j l u r d) (hj : j < 16) : CoI f (j + 1) (min l (j % 4)) (min u (j / 4)) (max r (j % 4)) (max d (j / 4)) := ⟨by have := h.1; omega, by have := h.2.1; omega, by have := h.2.2.1; omega, by have := h.2.2.2.1; omega, fun i hi hn => by
  by_cases e : i = j
  · subst e; omega
  · have := h.2.2.2.2 i (by omega) hn
    omega⟩
theorem CoI.done {f : Nat → Nat} {l u r d : Nat} (h : CoI f 16 l u r d) (h1 : (r : Int) - (l : Int) < 2) (h2 : (d : Int) - (u : Int) < 2) : min l 2 ≤ 2 ∧ min u 2 ≤ 2 ∧ ∀ i, i < 16 → f i ≠ 0 → (min l 2 ≤ i % 4 ∧ i % 4 ≤ min l 2 + 1) ∧ (min u 2 ≤ i / 4 ∧ i / 4 ≤ min u 2 + 1) := ⟨by omega, by omega, fun i hi hn => by
  have := h.2.2.2.2 i hi hn
  omega⟩
set_option maxRecDepth 100000 in
set_option maxHeartbeats 6400000 in
theorem corner_any (f : Nat → Nat) (Z : Array Value) (hZ : arr16 f = Z) (w : World) : Calls Tryd.prog 36 #[.agg Z] w (CoP f w) := by
  obtain ⟨w1, hw1⟩ : ∃ w1, w.alloc (.cells Z 85) = w1 := ⟨_, rfl⟩
  have HW1 := hide' hw1
  have B1 := hide' (show Below w.heap.size w w1 by rw [← hw1]; exact (Below.refl _ _).alloc (Nat.le_refl _) _)
  have gp : w1.heap[w.heap.size]? = some (.cells Z 85 (0, 0)) := by rw [← hw1]; exact heap_alloc_new _ _
  have zs : Z.size = 16 := by rw [← hZ]; rfl
  have IX := hide' (fun (i : Nat) (hi : i < 16) (V : World) => show (Instr.index 85 (.agg Z) (.int .i64 (i : Int))).run Tryd.prog V = .ok (.int .i32 (f i : Int)) V by rw [← hZ]; exact index16 f hi V)
  clear hw1 hZ
  go_enter Tryd.func36, Tryd.ntmps36
  go_upto_region 1 with fail
  rw [HW1.out]
  go_wp2_with (first
    | (refine wpList_load_row rfl 85 _ rfl (w.heap.size) rfl 85 Z (0, 0) _ gp Tryd.underlying85 rfl (by rw [zs]; kernel_rfl) ?_))
  clear gp
  go_loopw [5, 6, 7, 8, 12] (fun lv uv rv dv iv wr => ∃ (j l u r d : Nat), iv = .int .i64 (j : Int) ∧ lv = .int .i64 (l : Int) ∧ uv = .int .i64 (u : Int) ∧ rv = .int .i64 (r : Int) ∧ dv = .int .i64 (d : Int) ∧ j ≤ 16 ∧ Hid (CoI f j l u r d) ∧ wr = w1) (fun _ _ _ _ iv _ => 16 - (intOf iv).toNat)
  case atStart => exact ⟨0, 3, 3, 0, 0, rfl, rfl, rfl, rfl, rfl, by omega, hide' ⟨by omega, by omega, by omega, by omega, fun i h => absurd h (by omega)⟩, rfl⟩
  case round =>
    obtain ⟨j, l, u, r, d, rfl, rfl, rfl, rfl, rfl, hj, HC, rfl⟩ := hrel
    by_cases dj : j < 16
    · have d1 : (j : Int) < 16 := by omega
      have ix := IX.out j dj
      obtain ⟨fj, hfj⟩ : ∃ x, f j = x := ⟨_, rfl⟩
      rw [hfj] at ix
      by_cases z : fj = 0
      · subst z
        have C2 := hide' (HC.out.skip hfj)
        clear hfj
        go_wp2
        exact ⟨⟨j + 1, l, u, r, d, by go_num, rfl, rfl, rfl, rfl, by omega, C2, trivial⟩, by simp [intOf]; omega⟩
      · have m0 : ((fj : Int) == 0) = false := by simp; omega
        have m1 : ((fj : Int) != 0) = true := by simp; omega
        have C2 := hide' (HC.out.put dj)
        clear hfj z
        go_wp2
        exact ⟨⟨j + 1, min l (j % 4), min u (j / 4), max r (j % 4), max d (j / 4), by go_num, by rw [show ((min l (j % 4) : Nat) : Int) = min (l : Int) ((j : Int) % 4) by omega], by rw [show ((min u (j / 4) : Nat) : Int) = min (u : Int) ((j : Int) / 4) by omega], by rw [show ((max r (j % 4) : Nat) : Int) = max (r : Int) ((j : Int) % 4) by omega], by rw [show ((max d (j / 4) : Nat) : Int) = max (d : Int) ((j : Int) / 4) by omega], by omega, C2, trivial⟩, by simp [intOf]; omega⟩
    · have d1 : ¬ (j : Int) < 16 := by omega
      obtain rfl : j = 16 := by omega
      have hl := HC.out.1
      have hu := HC.out.2.1
      have hr := HC.out.2.2.1
      have hd := HC.out.2.2.2.1
      have e1 : wrap64 ((r : Int) - (l : Int)) = (r : Int) - (l : Int) := by unfold wrap64; omega
      have e2 : wrap64 ((d : Int) - (u : Int)) = (d : Int) - (u : Int) := by unfold wrap64; omega
      have ml : ((min l 2 : Nat) : Int) = min (l : Int) 2 := by omega
      have mu : ((min u 2 : Nat) : Int) = min (u : Int) 2 := by omega
      have ML := hide' (And.intro ml mu)
      clear hl hu hr hd ml mu
      by_cases k1 : (r : Int) - (l : Int) < 2
      · by_cases k2 : (d : Int) - (u : Int) < 2
        · have FIN := hide' (show CoP f w (.returned (.tuple #[.int .i64 (min (l : Int) 2), .int .i64 (min (u : Int) 2), .bool true])) wr from ⟨⟨min l 2, min u 2, true, by rw [ML.out.1, ML.out.2], fun _ => HC.out.done k1 k2⟩, B1.out⟩)
          go_wp2
          refine bodyPost_ret (by simp [results, Tryd.results36, go_sem]; rfl) rfl ?_
          exact FIN.out
        · have FIN := hide' (show CoP f w (.returned (.tuple #[.int .i64 (min (l : Int) 2), .int .i64 (min (u : Int) 2), .bool false])) wr from ⟨⟨min l 2, min u 2, false, by rw [ML.out.1, ML.out.2], fun h => by cases h⟩, B1.out⟩)
          go_wp2
          refine bodyPost_ret (by simp [results, Tryd.results36, go_sem]; rfl) rfl ?_
          exact FIN.out
      · have FIN := hide' (show CoP f w (.returned (.tuple #[.int .i64 (min (l : Int) 2), .int .i64 (min (u : Int) 2), .bool false])) wr from ⟨⟨min l 2, min u 2, false, by rw [ML.out.1, ML.out.2], fun h => by cases h⟩, B1.out⟩)
        go_wp2
        refine bodyPost_ret (by simp [results, Tryd.results36, go_sem]; rfl) rfl ?_
        exact FIN.out
end Go.Proofs.YtelocgefaommmaaDoor

