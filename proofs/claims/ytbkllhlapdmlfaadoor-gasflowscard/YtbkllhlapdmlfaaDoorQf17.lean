/-
  What the last text of this claim leans on, part 17: Hg4.
-/
import Derived.Test.YtbkllhlapdmlfaaDoorQf16
namespace Go.Proofs.YtbkllhlapdmlfaaDoor
open Go.RowKit
set_option linter.unusedVariables false
set_option maxRecDepth 100000 in
set_option maxHeartbeats 6400000 in
theorem refGas_out (K : Int) (W H : Int) (xs : List Int) (a : Option Addr) (n c : Nat) (w : World) (hP : ArgP w xs a n c) (hK : ¬ (K = 4 ∨ K = 6)) :
    Calls Tryd.prog 22 #[.agg #[.int .i64 K, .int .i64 W, .int .i64 H, .slice a n c]] w fun e w' => e = .returned (.int .i64 (gasE K W H xs : Int)) ∧ Below w.heap.size w w' := by
  obtain ⟨w1, hw1⟩ : ∃ w1, w.alloc (.cells #[.int .i64 K, .int .i64 W, .int .i64 H, .slice a n c] 49) = w1 := ⟨_, rfl⟩
  have BB := hide' (show Below w.heap.size w w1 by rw [← hw1]; exact (Below.refl _ _).alloc (Nat.le_refl _) _)
  have g1 : w1.heap[w.heap.size]? = some (.cells #[.int .i64 K, .int .i64 W, .int .i64 H, .slice a n c] 49 (0, 0)) := by rw [← hw1]; exact heap_alloc_new _ _
  have c0 := cell_of_row w1 _ 0 _ _ _ g1
  have c1 := cell_of_row w1 _ 1 _ _ _ g1
  have c2 := cell_of_row w1 _ 2 _ _ _ g1
  have c3 := cell_of_row w1 _ 3 _ _ _ g1
  simp at c0 c1 c2 c3
  have F := hide' (show gasE K W H xs = 1 by unfold gasE; rw [if_neg hK])
  have k4 : (K == 4) = false := by simp; omega
  have k6 : (K == 6) = false := by simp; omega
  have k4' : ¬ K = 4 := by omega
  have k6' : ¬ K = 6 := by omega
  clear hP hK g1
  go_enter Tryd.func22, Tryd.ntmps22
  go_upto_region 1 with fail
  clear hw1
  go_wp2
  go_ret
  rw [F.out]
  exact ⟨rfl, BB.out⟩
set_option maxRecDepth 100000 in
set_option maxHeartbeats 6400000 in
theorem refGas_4s0 (W H : Int) (xs : List Int) (a : Option Addr) (n c : Nat) (w : World) (hP : ArgP w xs a n c) (h1 : W < 1) :
    Calls Tryd.prog 22 #[.agg #[.int .i64 4, .int .i64 W, .int .i64 H, .slice a n c]] w fun e w' => e = .returned (.int .i64 (gasE 4 W H xs : Int)) ∧ Below w.heap.size w w' := by
  obtain ⟨w1, hw1⟩ : ∃ w1, w.alloc (.cells #[.int .i64 4, .int .i64 W, .int .i64 H, .slice a n c] 49) = w1 := ⟨_, rfl⟩
  have BB := hide' (show Below w.heap.size w w1 by rw [← hw1]; exact (Below.refl _ _).alloc (Nat.le_refl _) _)
  have g1 : w1.heap[w.heap.size]? = some (.cells #[.int .i64 4, .int .i64 W, .int .i64 H, .slice a n c] 49 (0, 0)) := by rw [← hw1]; exact heap_alloc_new _ _
  have c0 := cell_of_row w1 _ 0 _ _ _ g1
  have c1 := cell_of_row w1 _ 1 _ _ _ g1
  have c2 := cell_of_row w1 _ 2 _ _ _ g1
  have c3 := cell_of_row w1 _ 3 _ _ _ g1
  simp at c0 c1 c2 c3
  have F := hide' (show gasE 4 W H xs = 1 by unfold gasE; rw [if_pos (by omega), if_neg (by unfold sideG; simp; omega)])
  clear hP g1
  go_enter Tryd.func22, Tryd.ntmps22
  go_upto_region 1 with fail
  clear hw1
  go_wp2
  go_ret
  rw [F.out]
  exact ⟨rfl, BB.out⟩
set_option maxRecDepth 100000 in
set_option maxHeartbeats 6400000 in
theorem refGas_4s1 (W H : Int) (xs : List Int) (a : Option Addr) (n c : Nat) (w : World) (hP : ArgP w xs a n c) (h1 : 1 ≤ W) (h2 : 100 < W) :
    Calls Tryd.prog 22 #[.agg #[.int .i64 4, .int .i64 W, .int .i64 H, .slice a n c]] w fun e w' => e = .returned (.int .i64 (gasE 4 W H xs : Int)) ∧ Below w.heap.size w w' := by
  obtain ⟨w1, hw1⟩ : ∃ w1, w.alloc (.cells #[.int .i64 4, .int .i64 W, .int .i64 H, .slice a n c] 49) = w1 := ⟨_, rfl⟩
  have BB := hide' (show Below w.heap.size w w1 by rw [← hw1]; exact (Below.refl _ _).alloc (Nat.le_refl _) _)
  have g1 : w1.heap[w.heap.size]? = some (.cells #[.int .i64 4, .int .i64 W, .int .i64 H, .slice a n c] 49 (0, 0)) := by rw [← hw1]; exact heap_alloc_new _ _
  have c0 := cell_of_row w1 _ 0 _ _ _ g1
  have c1 := cell_of_row w1 _ 1 _ _ _ g1
  have c2 := cell_of_row w1 _ 2 _ _ _ g1
  have c3 := cell_of_row w1 _ 3 _ _ _ g1
  simp at c0 c1 c2 c3
  have F := hide' (show gasE 4 W H xs = 1 by unfold gasE; rw [if_pos (by omega), if_neg (by unfold sideG; simp; omega)])
  clear hP g1
  go_enter Tryd.func22, Tryd.ntmps22
  go_upto_region 1 with fail
  clear hw1
  go_wp2
  go_ret
  rw [F.out]
  exact ⟨rfl, BB.out⟩
set_option maxRecDepth 100000 in
set_option maxHeartbeats 6400000 in
theorem refGas_4s2 (W H : Int) (xs : List Int) (a : Option Addr) (n c : Nat) (w : World) (hP : ArgP w xs a n c) (h1 : 1 ≤ W) (h2 : W ≤ 100) (h3 : H < 1) :
    Calls Tryd.prog 22 #[.agg #[.int .i64 4, .int .i64 W, .int .i64 H, .slice a n c]] w fun e w' => e = .returned (.int .i64 (gasE 4 W H xs : Int)) ∧ Below w.heap.size w w' := by
  obtain ⟨w1, hw1⟩ : ∃ w1, w.alloc (.cells #[.int .i64 4, .int .i64 W, .int .i64 H, .slice a n c] 49) = w1 := ⟨_, rfl⟩
  have BB := hide' (show Below w.heap.size w w1 by rw [← hw1]; exact (Below.refl _ _).alloc (Nat.le_refl _) _)
  have g1 : w1.heap[w.heap.size]? = some (.cells #[.int .i64 4, .int .i64 W, .int .i64 H, .slice a n c] 49 (0, 0)) := by rw [← hw1]; exact heap_alloc_new _ _
  have c0 := cell_of_row w1 _ 0 _ _ _ g1
  have c1 := cell_of_row w1 _ 1 _ _ _ g1
  have c2 := cell_of_row w1 _ 2 _ _ _ g1
  have c3 := cell_of_row w1 _ 3 _ _ _ g1
  simp at c0 c1 c2 c3
  have F := hide' (show gasE 4 W H xs = 1 by unfold gasE; rw [if_pos (by omega), if_neg (by unfold sideG; simp; omega)])
  clear hP g1
  go_enter Tryd.func22, Tryd.ntmps22
  go_upto_region 1 with fail
  clear hw1
  go_wp2
  go_ret
  rw [F.out]
  exact ⟨rfl, BB.out⟩
set_option maxRecDepth 100000 in
set_option maxHeartbeats 6400000 in
theorem refGas_4s3 (W H : Int) (xs : List Int) (a : Option Addr) (n c : Nat) (w : World) (hP : ArgP w xs a n c) (h1 : 1 ≤ W) (h2 : W ≤ 100) (h3 : 1 ≤ H) (h4 : 100 < H) :
    Calls Tryd.prog 22 #[.agg #[.int .i64 4, .int .i64 W, .int .i64 H, .slice a n c]] w fun e w' => e = .returned (.int .i64 (gasE 4 W H xs : Int)) ∧ Below w.heap.size w w' := by
  obtain ⟨w1, hw1⟩ : ∃ w1, w.alloc (.cells #[.int .i64 4, .int .i64 W, .int .i64 H, .slice a n c] 49) = w1 := ⟨_, rfl⟩
  have BB := hide' (show Below w.heap.size w w1 by rw [← hw1]; exact (Below.refl _ _).alloc (Nat.le_refl _) _)
  have g1 : w1.heap[w.heap.size]? = some (.cells #[.int .i64 4, .int .i64 W, .int .i64 H, .slice a n c] 49 (0, 0)) := by rw [← hw1]; exact heap_alloc_new _ _
  have c0 := cell_of_row w1 _ 0 _ _ _ g1
  have c1 := cell_of_row w1 _ 1 _ _ _ g1
  have c2 := cell_of_row w1 _ 2 _ _ _ g1
  have c3 := cell_of_row w1 _ 3 _ _ _ g1
  simp at c0 c1 c2 c3
  have F := hide' (show gasE 4 W H xs = 1 by unfold gasE; rw [if_pos (by omega), if_neg (by unfold sideG; simp; omega)])
  clear hP g1
  go_enter Tryd.func22, Tryd.ntmps22
  go_upto_region 1 with fail
  clear hw1
  go_wp2
  go_ret
  rw [F.out]
  exact ⟨rfl, BB.out⟩
set_option maxRecDepth 100000 in
set_option maxHeartbeats 6400000 in
theorem refGas_4l (W H : Nat) (xs : List Int) (a : Option Addr) (n c : Nat) (w : World) (hP : ArgP w xs a n c) (hW : 1 ≤ W ∧ W ≤ 100) (hH : 1 ≤ H ∧ H ≤ 100) (hl : ¬ (xs.length : Int) = (W : Int) * (H : Int)) :
    Calls Tryd.prog 22 #[.agg #[.int .i64 4, .int .i64 (W : Int), .int .i64 (H : Int), .slice a n c]] w fun e w' => e = .returned (.int .i64 (gasE 4 (W : Int) (H : Int) xs : Int)) ∧ Below w.heap.size w w' := by
  obtain ⟨w1, hw1⟩ : ∃ w1, w.alloc (.cells #[.int .i64 4, .int .i64 (W : Int), .int .i64 (H : Int), .slice a n c] 49) = w1 := ⟨_, rfl⟩
  have BB := hide' (show Below w.heap.size w w1 by rw [← hw1]; exact (Below.refl _ _).alloc (Nat.le_refl _) _)
  have g1 : w1.heap[w.heap.size]? = some (.cells #[.int .i64 4, .int .i64 (W : Int), .int .i64 (H : Int), .slice a n c] 49 (0, 0)) := by rw [← hw1]; exact heap_alloc_new _ _
  have c0 := cell_of_row w1 _ 0 _ _ _ g1
  have c1 := cell_of_row w1 _ 1 _ _ _ g1
  have c2 := cell_of_row w1 _ 2 _ _ _ g1
  have c3 := cell_of_row w1 _ 3 _ _ _ g1
  simp at c0 c1 c2 c3
  have F := hide' (show gasE 4 (W : Int) (H : Int) xs = 3 by unfold gasE; rw [if_pos (by omega), if_pos (by unfold sideG; simp; omega), if_neg (by omega), if_neg hl])
  obtain ⟨N, hN⟩ : ∃ N : Nat, (W : Int) * (H : Int) = (N : Int) := ⟨W * H, by simp⟩
  have N4 : N ≤ 10000 := by
    have h1 : W * H ≤ 100 * 100 := Nat.mul_le_mul hW.2 hH.2
    have h2 : ((W * H : Nat) : Int) = (N : Int) := by rw [← hN]; simp
    omega
  have nn : ((n : Int) == (N : Int)) = false := by have := hP.len; rw [hN] at hl; simp; omega
  have nm : ¬ (n : Int) = (N : Int) := by have := hP.len; rw [hN] at hl; omega
  clear hP g1 hl
  go_enter Tryd.func22, Tryd.ntmps22
  go_upto_region 1 with fail
  clear hw1
  go_wp2
  go_ret
  rw [F.out]
  exact ⟨rfl, BB.out⟩
set_option maxRecDepth 100000 in
set_option maxHeartbeats 6400000 in
theorem refGas_4c (W H : Nat) (xs : List Int) (a : Option Addr) (n c : Nat) (w : World) (hP : ArgP w xs a n c) (hW : 1 ≤ W ∧ W ≤ 100) (hH : 1 ≤ H ∧ H ≤ 100) (hl : (xs.length : Int) = (W : Int) * (H : Int)) :
    Calls Tryd.prog 22 #[.agg #[.int .i64 4, .int .i64 (W : Int), .int .i64 (H : Int), .slice a n c]] w fun e w' => e = .returned (.int .i64 (gasE 4 (W : Int) (H : Int) xs : Int)) ∧ Below w.heap.size w w' := by
  obtain ⟨w1, hw1⟩ : ∃ w1, w.alloc (.cells #[.int .i64 4, .int .i64 (W : Int), .int .i64 (H : Int), .slice a n c] 49) = w1 := ⟨_, rfl⟩
  have BB := hide' (show Below w.heap.size w w1 by rw [← hw1]; exact (Below.refl _ _).alloc (Nat.le_refl _) _)
  have g1 : w1.heap[w.heap.size]? = some (.cells #[.int .i64 4, .int .i64 (W : Int), .int .i64 (H : Int), .slice a n c] 49 (0, 0)) := by rw [← hw1]; exact heap_alloc_new _ _
  have c0 := cell_of_row w1 _ 0 _ _ _ g1
  have c1 := cell_of_row w1 _ 1 _ _ _ g1
  have c2 := cell_of_row w1 _ 2 _ _ _ g1
  have c3 := cell_of_row w1 _ 3 _ _ _ g1
  simp at c0 c1 c2 c3
  have FN := hide' (fun (h : xs.all (cellG 4) = false) => show gasE 4 (W : Int) (H : Int) xs = 1 by unfold gasE; rw [if_pos (by omega), if_pos (by unfold sideG; simp; omega), if_neg (by omega), if_pos hl, if_neg (by rw [h]; decide)])
  have FO := hide' (fun (h : xs.all (cellG 4) = true) => show gasE 4 (W : Int) (H : Int) xs = 0 by unfold gasE; rw [if_pos (by omega), if_pos (by unfold sideG; simp; omega), if_neg (by omega), if_pos hl, if_pos h])
  obtain ⟨N, hN⟩ : ∃ N : Nat, (W : Int) * (H : Int) = (N : Int) := ⟨W * H, by simp⟩
  have N4 : N ≤ 10000 := by
    have h1 : W * H ≤ 100 * 100 := Nat.mul_le_mul hW.2 hH.2
    have h2 : ((W * H : Nat) : Int) = (N : Int) := by rw [← hN]; simp
    omega
  have en : (n : Int) = (N : Int) := by have := hP.len; rw [hN] at hl; omega
  obtain rfl : n = N := by omega
  have HL := hide' hP.len
  have HP := hide' (hP.below BB.out)
  clear hP g1 hl en
  go_enter Tryd.func22, Tryd.ntmps22
  go_upto_region 1 with fail
  clear hw1
  go_wp2
  go_loopw [4] (fun kv wr => ∃ k : Nat, kv = .int .i64 (k : Int) ∧ k ≤ n ∧ wr = w1 ∧ Hid (∀ j (h : j < xs.length), j < k → cellG 4 xs[j] = true)) (fun kv _ => n - (intOf kv).toNat)
  case atStart => exact ⟨0, rfl, by omega, rfl, hide' (fun j h hj => by omega)⟩
  case round =>
    obtain ⟨k, rfl, hk, rfl, HA⟩ := hrel
    by_cases q : (k : Int) < (n : Int)
    · have hkl : k < xs.length := by have := HL.out; omega
      obtain ⟨g, off, rfl, hg, hc⟩ := HP.out.cells k hkl
      obtain ⟨x, hx⟩ : ∃ x, xs[k] = x := ⟨_, rfl⟩
      rw [hx] at hc
      have HX := hide' hx
      clear hx hg
      by_cases x0 : x < 0
      · have X := hide' (show cellG 4 x = false by unfold cellG; simp; omega)
        go_wp2
        go_ret
        rw [FN.out (allG_bad hkl (by rw [HX.out]; exact X.out))]
        exact ⟨rfl, BB.out⟩
      · by_cases x1 : 15 < x
        · have X := hide' (show cellG 4 x = false by unfold cellG limG; simp; omega)
          go_wp2
          go_ret
          rw [FN.out (allG_bad hkl (by rw [HX.out]; exact X.out))]
          exact ⟨rfl, BB.out⟩
        · have X := hide' (show cellG 4 x = true by unfold cellG limG; simp; omega)
          go_wp2
          refine ⟨⟨k + 1, by go_num, by omega, by first | rfl | simp, hide' fun j h hj => ?_⟩, by simp [intOf]; omega⟩
          by_cases e : j = k
          · subst e; rw [HX.out]; exact X.out
          · exact HA.out j h (by omega)
    · have F := hide' (FO.out (allG_ok (fun j h => HA.out j h (by have := HL.out; omega))))
      go_wp2
      go_ret
      rw [F.out]
      exact ⟨rfl, BB.out⟩
set_option maxRecDepth 100000 in
set_option maxHeartbeats 6400000 in
theorem refGas_6s0 (W H : Int) (xs : List Int) (a : Option Addr) (n c : Nat) (w : World) (hP : ArgP w xs a n c) (h1 : W < 1) :
    Calls Tryd.prog 22 #[.agg #[.int .i64 6, .int .i64 W, .int .i64 H, .slice a n c]] w fun e w' => e = .returned (.int .i64 (gasE 6 W H xs : Int)) ∧ Below w.heap.size w w' := by
  obtain ⟨w1, hw1⟩ : ∃ w1, w.alloc (.cells #[.int .i64 6, .int .i64 W, .int .i64 H, .slice a n c] 49) = w1 := ⟨_, rfl⟩
  have BB := hide' (show Below w.heap.size w w1 by rw [← hw1]; exact (Below.refl _ _).alloc (Nat.le_refl _) _)
  have g1 : w1.heap[w.heap.size]? = some (.cells #[.int .i64 6, .int .i64 W, .int .i64 H, .slice a n c] 49 (0, 0)) := by rw [← hw1]; exact heap_alloc_new _ _
  have c0 := cell_of_row w1 _ 0 _ _ _ g1
  have c1 := cell_of_row w1 _ 1 _ _ _ g1
  have c2 := cell_of_row w1 _ 2 _ _ _ g1
  have c3 := cell_of_row w1 _ 3 _ _ _ g1
  simp at c0 c1 c2 c3
  have F := hide' (show gasE 6 W H xs = 1 by unfold gasE; rw [if_pos (by omega), if_neg (by unfold sideG; simp; omega)])
  clear hP g1
  go_enter Tryd.func22, Tryd.ntmps22
  go_upto_region 1 with fail
  clear hw1
  go_wp2
  go_ret
  rw [F.out]
  exact ⟨rfl, BB.out⟩
set_option maxRecDepth 100000 in
set_option maxHeartbeats 6400000 in
theorem refGas_6s1 (W H : Int) (xs : List Int) (a : Option Addr) (n c : Nat) (w : World) (hP : ArgP w xs a n c) (h1 : 1 ≤ W) (h2 : 100 < W) :
    Calls Tryd.prog 22 #[.agg #[.int .i64 6, .int .i64 W, .int .i64 H, .slice a n c]] w fun e w' => e = .returned (.int .i64 (gasE 6 W H xs : Int)) ∧ Below w.heap.size w w' := by
  obtain ⟨w1, hw1⟩ : ∃ w1, w.alloc (.cells #[.int .i64 6, .int .i64 W, .int .i64 H, .slice a n c] 49) = w1 := ⟨_, rfl⟩
  have BB := hide' (show Below w.heap.size w w1 by rw [← hw1]; exact (Below.refl _ _).alloc (Nat.le_refl _) _)
  have g1 : w1.heap[w.heap.size]? = some (.cells #[.int .i64 6, .int .i64 W, .int .i64 H, .slice a n c] 49 (0, 0)) := by rw [← hw1]; exact heap_alloc_new _ _
  have c0 := cell_of_row w1 _ 0 _ _ _ g1
  have c1 := cell_of_row w1 _ 1 _ _ _ g1
  have c2 := cell_of_row w1 _ 2 _ _ _ g1
  have c3 := cell_of_row w1 _ 3 _ _ _ g1
  simp at c0 c1 c2 c3
  have F := hide' (show gasE 6 W H xs = 1 by unfold gasE; rw [if_pos (by omega), if_neg (by unfold sideG; simp; omega)])
  clear hP g1
  go_enter Tryd.func22, Tryd.ntmps22
  go_upto_region 1 with fail
  clear hw1
  go_wp2
  go_ret
  rw [F.out]
  exact ⟨rfl, BB.out⟩
set_option maxRecDepth 100000 in
set_option maxHeartbeats 6400000 in
theorem refGas_6s2 (W H : Int) (xs : List Int) (a : Option Addr) (n c : Nat) (w : World) (hP : ArgP w xs a n c) (h1 : 1 ≤ W) (h2 : W ≤ 100) (h3 : H < 1) :
    Calls Tryd.prog 22 #[.agg #[.int .i64 6, .int .i64 W, .int .i64 H, .slice a n c]] w fun e w' => e = .returned (.int .i64 (gasE 6 W H xs : Int)) ∧ Below w.heap.size w w' := by
  obtain ⟨w1, hw1⟩ : ∃ w1, w.alloc (.cells #[.int .i64 6, .int .i64 W, .int .i64 H, .slice a n c] 49) = w1 := ⟨_, rfl⟩
  have BB := hide' (show Below w.heap.size w w1 by rw [← hw1]; exact (Below.refl _ _).alloc (Nat.le_refl _) _)
  have g1 : w1.heap[w.heap.size]? = some (.cells #[.int .i64 6, .int .i64 W, .int .i64 H, .slice a n c] 49 (0, 0)) := by rw [← hw1]; exact heap_alloc_new _ _
  have c0 := cell_of_row w1 _ 0 _ _ _ g1
  have c1 := cell_of_row w1 _ 1 _ _ _ g1
  have c2 := cell_of_row w1 _ 2 _ _ _ g1
  have c3 := cell_of_row w1 _ 3 _ _ _ g1
  simp at c0 c1 c2 c3
  have F := hide' (show gasE 6 W H xs = 1 by unfold gasE; rw [if_pos (by omega), if_neg (by unfold sideG; simp; omega)])
  clear hP g1
  go_enter Tryd.func22, Tryd.ntmps22
  go_upto_region 1 with fail
  clear hw1
  go_wp2
  go_ret
  rw [F.out]
  exact ⟨rfl, BB.out⟩
set_option maxRecDepth 100000 in
set_option maxHeartbeats 6400000 in
theorem refGas_6s3 (W H : Int) (xs : List Int) (a : Option Addr) (n c : Nat) (w : World) (hP : ArgP w xs a n c) (h1 : 1 ≤ W) (h2 : W ≤ 100) (h3 : 1 ≤ H) (h4 : 100 < H) :
    Calls Tryd.prog 22 #[.agg #[.int .i64 6, .int .i64 W, .int .i64 H, .slice a n c]] w fun e w' => e = .returned (.int .i64 (gasE 6 W H xs : Int)) ∧ Below w.heap.size w w' := by
  obtain ⟨w1, hw1⟩ : ∃ w1, w.alloc (.cells #[.int .i64 6, .int .i64 W, .int .i64 H, .slice a n c] 49) = w1 := ⟨_, rfl⟩
  have BB := hide' (show Below w.heap.size w w1 by rw [← hw1]; exact (Below.refl _ _).alloc (Nat.le_refl _) _)
  have g1 : w1.heap[w.heap.size]? = some (.cells #[.int .i64 6, .int .i64 W, .int .i64 H, .slice a n c] 49 (0, 0)) := by rw [← hw1]; exact heap_alloc_new _ _
  have c0 := cell_of_row w1 _ 0 _ _ _ g1
  have c1 := cell_of_row w1 _ 1 _ _ _ g1
  have c2 := cell_of_row w1 _ 2 _ _ _ g1
  have c3 := cell_of_row w1 _ 3 _ _ _ g1
  simp at c0 c1 c2 c3
  have F := hide' (show gasE 6 W H xs = 1 by unfold gasE; rw [if_pos (by omega), if_neg (by unfold sideG; simp; omega)])
  clear hP g1
  go_enter Tryd.func22, Tryd.ntmps22
  go_upto_region 1 with fail
  clear hw1
  go_wp2
  go_ret
  rw [F.out]
  exact ⟨rfl, BB.out⟩
set_option maxRecDepth 100000 in
set_option maxHeartbeats 6400000 in
theorem refGas_6o (W H : Nat) (xs : List Int) (a : Option Addr) (n c : Nat) (w : World) (hP : ArgP w xs a n c) (hW : 1 ≤ W ∧ W ≤ 100) (hH : 1 ≤ H ∧ H ≤ 100) (ho : H % 2 = 1) :
    Calls Tryd.prog 22 #[.agg #[.int .i64 6, .int .i64 (W : Int), .int .i64 (H : Int), .slice a n c]] w fun e w' => e = .returned (.int .i64 (gasE 6 (W : Int) (H : Int) xs : Int)) ∧ Below w.heap.size w w' := by
  obtain ⟨w1, hw1⟩ : ∃ w1, w.alloc (.cells #[.int .i64 6, .int .i64 (W : Int), .int .i64 (H : Int), .slice a n c] 49) = w1 := ⟨_, rfl⟩
  have BB := hide' (show Below w.heap.size w w1 by rw [← hw1]; exact (Below.refl _ _).alloc (Nat.le_refl _) _)
  have g1 : w1.heap[w.heap.size]? = some (.cells #[.int .i64 6, .int .i64 (W : Int), .int .i64 (H : Int), .slice a n c] 49 (0, 0)) := by rw [← hw1]; exact heap_alloc_new _ _
  have c0 := cell_of_row w1 _ 0 _ _ _ g1
  have c1 := cell_of_row w1 _ 1 _ _ _ g1
  have c2 := cell_of_row w1 _ 2 _ _ _ g1
  have c3 := cell_of_row w1 _ 3 _ _ _ g1
  simp at c0 c1 c2 c3
  have F := hide' (show gasE 6 (W : Int) (H : Int) xs = 3 by unfold gasE; rw [if_pos (by omega), if_pos (by unfold sideG; simp; omega), if_pos (by omega)])
  have r1 : (H : Int).tmod 2 = 1 := by rw [Int.tmod_eq_emod_of_nonneg (by omega)]; omega
  have r2 : (H : Int) % 2 = 1 := by omega
  clear hP g1 ho
  go_enter Tryd.func22, Tryd.ntmps22
  go_upto_region 1 with fail
  clear hw1
  go_wp2
  go_ret
  rw [F.out]
  exact ⟨rfl, BB.out⟩
set_option maxRecDepth 100000 in
set_option maxHeartbeats 6400000 in
theorem refGas_6l (W H : Nat) (xs : List Int) (a : Option Addr) (n c : Nat) (w : World) (hP : ArgP w xs a n c) (hW : 1 ≤ W ∧ W ≤ 100) (hH : 1 ≤ H ∧ H ≤ 100) (he : H % 2 = 0) (hl : ¬ (xs.length : Int) = (W : Int) * (H : Int)) :
    Calls Tryd.prog 22 #[.agg #[.int .i64 6, .int .i64 (W : Int), .int .i64 (H : Int), .slice a n c]] w fun e w' => e = .returned (.int .i64 (gasE 6 (W : Int) (H : Int) xs : Int)) ∧ Below w.heap.size w w' := by
  obtain ⟨w1, hw1⟩ : ∃ w1, w.alloc (.cells #[.int .i64 6, .int .i64 (W : Int), .int .i64 (H : Int), .slice a n c] 49) = w1 := ⟨_, rfl⟩
  have BB := hide' (show Below w.heap.size w w1 by rw [← hw1]; exact (Below.refl _ _).alloc (Nat.le_refl _) _)
  have g1 : w1.heap[w.heap.size]? = some (.cells #[.int .i64 6, .int .i64 (W : Int), .int .i64 (H : Int), .slice a n c] 49 (0, 0)) := by rw [← hw1]; exact heap_alloc_new _ _
  have c0 := cell_of_row w1 _ 0 _ _ _ g1
  have c1 := cell_of_row w1 _ 1 _ _ _ g1
  have c2 := cell_of_row w1 _ 2 _ _ _ g1
  have c3 := cell_of_row w1 _ 3 _ _ _ g1
  simp at c0 c1 c2 c3
  have F := hide' (show gasE 6 (W : Int) (H : Int) xs = 3 by unfold gasE; rw [if_pos (by omega), if_pos (by unfold sideG; simp; omega), if_neg (by omega), if_neg hl])
  obtain ⟨N, hN⟩ : ∃ N : Nat, (W : Int) * (H : Int) = (N : Int) := ⟨W * H, by simp⟩
  have N4 : N ≤ 10000 := by
    have h1 : W * H ≤ 100 * 100 := Nat.mul_le_mul hW.2 hH.2
    have h2 : ((W * H : Nat) : Int) = (N : Int) := by rw [← hN]; simp
    omega
  have r1 : (H : Int).tmod 2 = 0 := by rw [Int.tmod_eq_emod_of_nonneg (by omega)]; omega
  have r2 : (H : Int) % 2 = 0 := by omega
  have nn : ((n : Int) == (N : Int)) = false := by have := hP.len; rw [hN] at hl; simp; omega
  have nm : ¬ (n : Int) = (N : Int) := by have := hP.len; rw [hN] at hl; omega
  clear hP g1 hl he
  go_enter Tryd.func22, Tryd.ntmps22
  go_upto_region 1 with fail
  clear hw1
  go_wp2
  go_ret
  rw [F.out]
  exact ⟨rfl, BB.out⟩
set_option maxRecDepth 100000 in
set_option maxHeartbeats 6400000 in
theorem refGas_6c (W H : Nat) (xs : List Int) (a : Option Addr) (n c : Nat) (w : World) (hP : ArgP w xs a n c) (hW : 1 ≤ W ∧ W ≤ 100) (hH : 1 ≤ H ∧ H ≤ 100) (he : H % 2 = 0) (hl : (xs.length : Int) = (W : Int) * (H : Int)) :
    Calls Tryd.prog 22 #[.agg #[.int .i64 6, .int .i64 (W : Int), .int .i64 (H : Int), .slice a n c]] w fun e w' => e = .returned (.int .i64 (gasE 6 (W : Int) (H : Int) xs : Int)) ∧ Below w.heap.size w w' := by
  obtain ⟨w1, hw1⟩ : ∃ w1, w.alloc (.cells #[.int .i64 6, .int .i64 (W : Int), .int .i64 (H : Int), .slice a n c] 49) = w1 := ⟨_, rfl⟩
  have BB := hide' (show Below w.heap.size w w1 by rw [← hw1]; exact (Below.refl _ _).alloc (Nat.le_refl _) _)
  have g1 : w1.heap[w.heap.size]? = some (.cells #[.int .i64 6, .int .i64 (W : Int), .int .i64 (H : Int), .slice a n c] 49 (0, 0)) := by rw [← hw1]; exact heap_alloc_new _ _
  have c0 := cell_of_row w1 _ 0 _ _ _ g1
  have c1 := cell_of_row w1 _ 1 _ _ _ g1
  have c2 := cell_of_row w1 _ 2 _ _ _ g1
  have c3 := cell_of_row w1 _ 3 _ _ _ g1
  simp at c0 c1 c2 c3
  have FN := hide' (fun (h : xs.all (cellG 6) = false) => show gasE 6 (W : Int) (H : Int) xs = 1 by unfold gasE; rw [if_pos (by omega), if_pos (by unfold sideG; simp; omega), if_neg (by omega), if_pos hl, if_neg (by rw [h]; decide)])
  have FO := hide' (fun (h : xs.all (cellG 6) = true) => show gasE 6 (W : Int) (H : Int) xs = 0 by unfold gasE; rw [if_pos (by omega), if_pos (by unfold sideG; simp; omega), if_neg (by omega), if_pos hl, if_pos h])
  obtain ⟨N, hN⟩ : ∃ N : Nat, (W : Int) * (H : Int) = (N : Int) := ⟨W * H, by simp⟩
  have N4 : N ≤ 10000 := by
    have h1 : W * H ≤ 100 * 100 := Nat.mul_le_mul hW.2 hH.2
    have h2 : ((W * H : Nat) : Int) = (N : Int) := by rw [← hN]; simp
    omega
  have r1 : (H : Int).tmod 2 = 0 := by rw [Int.tmod_eq_emod_of_nonneg (by omega)]; omega
  have r2 : (H : Int) % 2 = 0 := by omega
  have en : (n : Int) = (N : Int) := by have := hP.len; rw [hN] at hl; omega
  obtain rfl : n = N := by omega
  have HL := hide' hP.len
  have HP := hide' (hP.below BB.out)
  clear hP g1 hl en he
  go_enter Tryd.func22, Tryd.ntmps22
  go_upto_region 1 with fail
  clear hw1
  go_wp2
  go_loopw [4] (fun kv wr => ∃ k : Nat, kv = .int .i64 (k : Int) ∧ k ≤ n ∧ wr = w1 ∧ Hid (∀ j (h : j < xs.length), j < k → cellG 6 xs[j] = true)) (fun kv _ => n - (intOf kv).toNat)
  case atStart => exact ⟨0, rfl, by omega, rfl, hide' (fun j h hj => by omega)⟩
  case round =>
    obtain ⟨k, rfl, hk, rfl, HA⟩ := hrel
    by_cases q : (k : Int) < (n : Int)
    · have hkl : k < xs.length := by have := HL.out; omega
      obtain ⟨g, off, rfl, hg, hc⟩ := HP.out.cells k hkl
      obtain ⟨x, hx⟩ : ∃ x, xs[k] = x := ⟨_, rfl⟩
      rw [hx] at hc
      have HX := hide' hx
      clear hx hg
      by_cases x0 : x < 0
      · have X := hide' (show cellG 6 x = false by unfold cellG; simp; omega)
        go_wp2
        go_ret
        rw [FN.out (allG_bad hkl (by rw [HX.out]; exact X.out))]
        exact ⟨rfl, BB.out⟩
      · by_cases x1 : 63 < x
        · have X := hide' (show cellG 6 x = false by unfold cellG limG; simp; omega)
          go_wp2
          go_ret
          rw [FN.out (allG_bad hkl (by rw [HX.out]; exact X.out))]
          exact ⟨rfl, BB.out⟩
        · have X := hide' (show cellG 6 x = true by unfold cellG limG; simp; omega)
          go_wp2
          refine ⟨⟨k + 1, by go_num, by omega, by first | rfl | simp, hide' fun j h hj => ?_⟩, by simp [intOf]; omega⟩
          by_cases e : j = k
          · subst e; rw [HX.out]; exact X.out
          · exact HA.out j h (by omega)
    · have F := hide' (FO.out (allG_ok (fun j h => HA.out j h (by have := HL.out; omega))))
      go_wp2
      go_ret
      rw [F.out]
      exact ⟨rfl, BB.out⟩
theorem refGas_any (K : Int) (W H : Int) (xs : List Int) (a : Option Addr) (n c : Nat) (w : World) (hP : ArgP w xs a n c) :
    Calls Tryd.prog 22 #[.agg #[.int .i64 K, .int .i64 W, .int .i64 H, .slice a n c]] w fun e w' => e = .returned (.int .i64 (gasE K W H xs : Int)) ∧ Below w.heap.size w w' := by
  by_cases hK : K = 4 ∨ K = 6
  · rcases hK with rfl | rfl
    · by_cases h1 : 1 ≤ W
      · by_cases h2 : W ≤ 100
        · by_cases h3 : 1 ≤ H
          · by_cases h4 : H ≤ 100
            · obtain ⟨Wn, rfl⟩ : ∃ Wn : Nat, W = (Wn : Int) := ⟨W.toNat, by omega⟩
              obtain ⟨Hn, rfl⟩ : ∃ Hn : Nat, H = (Hn : Int) := ⟨H.toNat, by omega⟩
              by_cases hl : (xs.length : Int) = (Wn : Int) * (Hn : Int)
              · exact refGas_4c Wn Hn xs a n c w hP (by omega) (by omega) hl
              · exact refGas_4l Wn Hn xs a n c w hP (by omega) (by omega) hl
            · exact refGas_4s3 W H xs a n c w hP h1 h2 h3 (by omega)
          · exact refGas_4s2 W H xs a n c w hP h1 h2 (by omega)
        · exact refGas_4s1 W H xs a n c w hP h1 (by omega)
      · exact refGas_4s0 W H xs a n c w hP (by omega)
    · by_cases h1 : 1 ≤ W
      · by_cases h2 : W ≤ 100
        · by_cases h3 : 1 ≤ H
          · by_cases h4 : H ≤ 100
            · obtain ⟨Wn, rfl⟩ : ∃ Wn : Nat, W = (Wn : Int) := ⟨W.toNat, by omega⟩
              obtain ⟨Hn, rfl⟩ : ∃ Hn : Nat, H = (Hn : Int) := ⟨H.toNat, by omega⟩
              by_cases ho : Hn % 2 = 1
              · exact refGas_6o Wn Hn xs a n c w hP (by omega) (by omega) ho
              · by_cases hl : (xs.length : Int) = (Wn : Int) * (Hn : Int)
                · exact refGas_6c Wn Hn xs a n c w hP (by omega) (by omega) (by omega) hl
                · exact refGas_6l Wn Hn xs a n c w hP (by omega) (by omega) (by omega) hl
            · exact refGas_6s3 W H xs a n c w hP h1 h2 h3 (by omega)
          · exact refGas_6s2 W H xs a n c w hP h1 h2 (by omega)
        · exact refGas_6s1 W H xs a n c w hP h1 (by omega)
      · exact refGas_6s0 W H xs a n c w hP (by omega)
  · exact refGas_out K W H xs a n c w hP hK
set_option maxRecDepth 100000 in
set_option maxHeartbeats 6400000 in
theorem refMass_any (K W H : Int) (f : Nat → Nat) (a : Option Addr) (n c : Nat) (w : World) (hP : ArgP w ((List.range n).map fun i => (f i : Int)) a n c) (hf : ∀ i, f i ≤ 63) (hn : n ≤ 10000) :
    Calls Tryd.prog 30 #[.agg #[.int .i64 K, .int .i64 W, .int .i64 H, .slice a n c]] w fun e w' => e = .returned (.int .i64 (massN f n : Int)) ∧ Below w.heap.size w w' := by
  obtain ⟨w1, hw1⟩ : ∃ w1, w.alloc (.cells #[.int .i64 K, .int .i64 W, .int .i64 H, .slice a n c] 49) = w1 := ⟨_, rfl⟩
  have BB := hide' (show Below w.heap.size w w1 by rw [← hw1]; exact (Below.refl _ _).alloc (Nat.le_refl _) _)
  have g1 : w1.heap[w.heap.size]? = some (.cells #[.int .i64 K, .int .i64 W, .int .i64 H, .slice a n c] 49 (0, 0)) := by rw [← hw1]; exact heap_alloc_new _ _
  have c0 := cell_of_row w1 _ 0 _ _ _ g1
  have c1 := cell_of_row w1 _ 1 _ _ _ g1
  have c2 := cell_of_row w1 _ 2 _ _ _ g1
  have c3 := cell_of_row w1 _ 3 _ _ _ g1
  simp at c0 c1 c2 c3
  have HP := hide' (hP.below BB.out)
  have HF := hide' hf
  have HO := hide' (fun k (hk : k < 64) V => refOnes6 k V hk)
  clear hP g1 hf
  go_enter Tryd.func30, Tryd.ntmps30
  go_upto_region 1 with fail
  clear hw1
  go_wp2
  go_loopw [3, 4] (fun mv iv wr => ∃ (i q : Nat), iv = .int .i64 (i : Int) ∧ mv = .int .i64 (q : Int) ∧ i ≤ n ∧ q ≤ 60000 ∧ Hid (q = massN f i) ∧ wr = w1) (fun _ iv _ => ((n : Int) - intOf iv).toNat)
  case atStart => exact ⟨0, 0, rfl, rfl, by omega, by omega, hide' rfl, rfl⟩
  case round =>
    obtain ⟨i, q, rfl, rfl, hi, hq, HQ, rfl⟩ := hrel
    by_cases dd : (i : Int) < (n : Int)
    · obtain ⟨g, off, rfl, hg, hc⟩ := HP.out.cells i (by simp; omega)
      simp only [List.getElem_map, List.getElem_range] at hc
      have xl := HF.out i
      obtain ⟨x, hx⟩ : ∃ x, f i = x := ⟨_, rfl⟩
      rw [hx] at hc xl
      have HOx := hide' (HO.out x (by omega))
      have ol := ones6_le x
      have NQ := hide' (show q + ones6 x = massN f (i + 1) by rw [HQ.out, ← hx]; rfl)
      have q6 : q + ones6 x ≤ 60000 := by rw [NQ.out]; have := massN_le f (i + 1); omega
      obtain ⟨y, hy⟩ : ∃ y, ones6 x = y := ⟨_, rfl⟩
      rw [hy] at HOx ol NQ q6
      clear hx hg HQ hy
      go_wp2_with fail
      refine (HOx.out _).mono ?_
      rintro e w2 ⟨rfl, rfl⟩
      go_wp2
      exact ⟨⟨i + 1, q + y, by go_num, by go_num, by omega, by omega, NQ, by first | rfl | simp⟩, by simp [intOf]; omega⟩
    · have F := hide' (show q = massN f n by rw [HQ.out, show i = n by omega])
      clear HQ
      go_wp2
      go_ret
      rw [F.out]
      exact ⟨rfl, BB.out⟩
end Go.Proofs.YtbkllhlapdmlfaaDoor

