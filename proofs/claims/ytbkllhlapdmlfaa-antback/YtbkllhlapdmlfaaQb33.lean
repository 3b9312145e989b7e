/-
  What the last text of this claim leans on, part 33: Ad5.
-/
import Derived.Test.YtbkllhlapdmlfaaQb32
namespace Go.Proofs.Ytbkllhlapdmlfaa
open Go.RowKit
set_option linter.unusedVariables false
def fitK (ys : List SpotT) (b : Bool) (k : Nat) : Bool := b && (List.range k).all fun i => nearA (ys.getD i (0, 0, 0)).1 (ys.getD i (0, 0, 0)).2.1
theorem fitK_next (ys : List SpotT) (b : Bool) (k : Nat) : fitK ys b (k + 1) = (fitK ys b k && nearA (ys.getD k (0, 0, 0)).1 (ys.getD k (0, 0, 0)).2.1) := by
  unfold fitK; rw [List.range_succ, List.all_append]; simp [Bool.and_assoc]
theorem fitK_all {ys : List SpotT} {b : Bool} (h : fitK ys b ys.length = true) : b = true ∧ ∀ p ∈ ys, nearA p.1 p.2.1 = true := by
  unfold fitK at h
  rw [Bool.and_eq_true] at h
  refine ⟨h.1, fun p hp => ?_⟩
  obtain ⟨k, hk, rfl⟩ := List.getElem_of_mem hp
  have := List.all_eq_true.1 h.2 k (List.mem_range.2 hk)
  rwa [getD_at hk] at this
set_option maxRecDepth 100000 in
set_option maxHeartbeats 6400000 in
theorem fits_0 (ys : List SpotT) (a : Option Addr) (n c : Nat) (x y d : Int) (w : World) (hA : ArgS w ys a n c) (h1 : -1000000 ≤ x) (h2 : x ≤ 1000000) (h3 : -1000000 ≤ y) (h4 : y ≤ 1000000) :
    Calls Try.prog 12 #[.slice a n c, .agg #[.int .i64 x, .int .i64 y, .int .i64 d]] w fun e w' => e = .returned (.bool (fitK ys true n)) ∧ Below w.heap.size w w' := by
  have HL := hide' hA.len
  have nm := hA.max
  obtain ⟨w1, hw1⟩ : ∃ w1, w.alloc (.cells #[.int .i64 x, .int .i64 y, .int .i64 d] 40) = w1 := ⟨_, rfl⟩
  have BB := hide' (show Below w.heap.size w w1 by rw [← hw1]; exact (Below.refl _ _).alloc (Nat.le_refl _) _)
  have g1 : w1.heap[w.heap.size]? = some (.cells #[.int .i64 x, .int .i64 y, .int .i64 d] 40 (0, 0)) := by rw [← hw1]; exact heap_alloc_new _ _
  have c0 := cell_of_row w1 _ 0 _ _ _ g1
  have c1 := cell_of_row w1 _ 1 _ _ _ g1
  simp at c0 c1
  have HP := hide' (fun (V : World) (h : Below w1.heap.size w1 V) => hA.below (BB.out.trans (h.mono BB.out.size)))
  clear hA g1
  go_enter Try.func12, Try.ntmps12
  have HW1 := hide' hw1
  clear hw1
  go_wp2
  go_loopw [6, 7] (fun ov iv wr => ∃ k : Nat, iv = .int .i64 (k : Int) ∧ ov = .bool (fitK ys true k) ∧ k ≤ n ∧ Hid (Below w1.heap.size w1 wr)) (fun _ iv _ => ((n : Int) - intOf iv).toNat)
  case atStart => exact ⟨0, by go_num, by first | rfl | (simp [fitK]), by omega, hide' (by rw [HW1.out]; exact Below.refl _ _)⟩
  case round =>
    clear c0 c1 h1 h2 h3 h4
    obtain ⟨k, rfl, rfl, hk, BW⟩ := hrel
    by_cases dd : (k : Int) < (n : Int)
    · have hkl : k < ys.length := by have := HL.out; omega
      obtain ⟨g, off, rfl, hg, p0, p1, p2⟩ := (HP.out wr BW.out).cells k hkl
      have NX := hide' (fitK_next ys true k)
      rw [getD_at hkl] at NX
      obtain ⟨⟨u, v, z⟩, hx⟩ : ∃ x, ys[k] = x := ⟨_, rfl⟩
      rw [hx] at p0 p1 p2 NX
      simp only at p0 p1 p2 NX
      have BN := hide' (show Below w1.heap.size w1 (wr.alloc (.cells #[.int .i64 u, .int .i64 v, .int .i64 z] 73)) from BW.out.alloc BW.out.size _)
      obtain ⟨β, hβ⟩ : ∃ β, fitK ys true k = β := ⟨_, rfl⟩
      rw [hβ] at NX ⊢
      have i0 : (0 : Int) ≤ (k : Int) := by omega
      clear hβ hx
      cases β
      · go_wp2
        exact ⟨⟨k + 1, by go_num, by rw [NX.out]; rfl, by omega, BN⟩, by simp [intOf]; omega⟩
      · by_cases h1 : -1000000 ≤ u
        · by_cases h2 : u ≤ 1000000
          · by_cases h3 : -1000000 ≤ v
            · by_cases h4 : v ≤ 1000000
              · have NE := hide' (show (true && nearA u v) = true by unfold nearA; simp [h1, h2, h3, h4])
                go_wp2
                exact ⟨⟨k + 1, by go_num, by rw [NX.out, NE.out], by omega, BN⟩, by simp [intOf]; omega⟩
              · have NE := hide' (show (true && nearA u v) = false by unfold nearA; simp [h1, h2, h3, h4])
                go_wp2
                exact ⟨⟨k + 1, by go_num, by rw [NX.out, NE.out], by omega, BN⟩, by simp [intOf]; omega⟩
            · have NE := hide' (show (true && nearA u v) = false by unfold nearA; simp [h1, h2, h3])
              go_wp2
              exact ⟨⟨k + 1, by go_num, by rw [NX.out, NE.out], by omega, BN⟩, by simp [intOf]; omega⟩
          · have NE := hide' (show (true && nearA u v) = false by unfold nearA; simp [h1, h2])
            go_wp2
            exact ⟨⟨k + 1, by go_num, by rw [NX.out, NE.out], by omega, BN⟩, by simp [intOf]; omega⟩
        · have NE := hide' (show (true && nearA u v) = false by unfold nearA; simp [h1])
          go_wp2
          exact ⟨⟨k + 1, by go_num, by rw [NX.out, NE.out], by omega, BN⟩, by simp [intOf]; omega⟩
    · have kn : k = n := by omega
      subst kn
      go_wp2
      go_ret
      exact ⟨rfl, BB.out.trans (BW.out.mono BB.out.size)⟩
set_option maxRecDepth 100000 in
set_option maxHeartbeats 6400000 in
theorem fits_1 (ys : List SpotT) (a : Option Addr) (n c : Nat) (x y d : Int) (w : World) (hA : ArgS w ys a n c) (h1 : -1000000 ≤ x) (h2 : x ≤ 1000000) (h3 : -1000000 ≤ y) (h4 : ¬ y ≤ 1000000) :
    Calls Try.prog 12 #[.slice a n c, .agg #[.int .i64 x, .int .i64 y, .int .i64 d]] w fun e w' => e = .returned (.bool (fitK ys false n)) ∧ Below w.heap.size w w' := by
  have HL := hide' hA.len
  have nm := hA.max
  obtain ⟨w1, hw1⟩ : ∃ w1, w.alloc (.cells #[.int .i64 x, .int .i64 y, .int .i64 d] 40) = w1 := ⟨_, rfl⟩
  have BB := hide' (show Below w.heap.size w w1 by rw [← hw1]; exact (Below.refl _ _).alloc (Nat.le_refl _) _)
  have g1 : w1.heap[w.heap.size]? = some (.cells #[.int .i64 x, .int .i64 y, .int .i64 d] 40 (0, 0)) := by rw [← hw1]; exact heap_alloc_new _ _
  have c0 := cell_of_row w1 _ 0 _ _ _ g1
  have c1 := cell_of_row w1 _ 1 _ _ _ g1
  simp at c0 c1
  have HP := hide' (fun (V : World) (h : Below w1.heap.size w1 V) => hA.below (BB.out.trans (h.mono BB.out.size)))
  clear hA g1
  go_enter Try.func12, Try.ntmps12
  have HW1 := hide' hw1
  clear hw1
  go_wp2
  go_loopw [6, 7] (fun ov iv wr => ∃ k : Nat, iv = .int .i64 (k : Int) ∧ ov = .bool (fitK ys false k) ∧ k ≤ n ∧ Hid (Below w1.heap.size w1 wr)) (fun _ iv _ => ((n : Int) - intOf iv).toNat)
  case atStart => exact ⟨0, by go_num, by first | rfl | (simp [fitK]), by omega, hide' (by rw [HW1.out]; exact Below.refl _ _)⟩
  case round =>
    clear c0 c1 h1 h2 h3 h4
    obtain ⟨k, rfl, rfl, hk, BW⟩ := hrel
    by_cases dd : (k : Int) < (n : Int)
    · have hkl : k < ys.length := by have := HL.out; omega
      obtain ⟨g, off, rfl, hg, p0, p1, p2⟩ := (HP.out wr BW.out).cells k hkl
      have NX := hide' (fitK_next ys false k)
      rw [getD_at hkl] at NX
      obtain ⟨⟨u, v, z⟩, hx⟩ : ∃ x, ys[k] = x := ⟨_, rfl⟩
      rw [hx] at p0 p1 p2 NX
      simp only at p0 p1 p2 NX
      have BN := hide' (show Below w1.heap.size w1 (wr.alloc (.cells #[.int .i64 u, .int .i64 v, .int .i64 z] 73)) from BW.out.alloc BW.out.size _)
      obtain ⟨β, hβ⟩ : ∃ β, fitK ys false k = β := ⟨_, rfl⟩
      rw [hβ] at NX ⊢
      have i0 : (0 : Int) ≤ (k : Int) := by omega
      clear hβ hx
      cases β
      · go_wp2
        exact ⟨⟨k + 1, by go_num, by rw [NX.out]; rfl, by omega, BN⟩, by simp [intOf]; omega⟩
      · by_cases h1 : -1000000 ≤ u
        · by_cases h2 : u ≤ 1000000
          · by_cases h3 : -1000000 ≤ v
            · by_cases h4 : v ≤ 1000000
              · have NE := hide' (show (true && nearA u v) = true by unfold nearA; simp [h1, h2, h3, h4])
                go_wp2
                exact ⟨⟨k + 1, by go_num, by rw [NX.out, NE.out], by omega, BN⟩, by simp [intOf]; omega⟩
              · have NE := hide' (show (true && nearA u v) = false by unfold nearA; simp [h1, h2, h3, h4])
                go_wp2
                exact ⟨⟨k + 1, by go_num, by rw [NX.out, NE.out], by omega, BN⟩, by simp [intOf]; omega⟩
            · have NE := hide' (show (true && nearA u v) = false by unfold nearA; simp [h1, h2, h3])
              go_wp2
              exact ⟨⟨k + 1, by go_num, by rw [NX.out, NE.out], by omega, BN⟩, by simp [intOf]; omega⟩
          · have NE := hide' (show (true && nearA u v) = false by unfold nearA; simp [h1, h2])
            go_wp2
            exact ⟨⟨k + 1, by go_num, by rw [NX.out, NE.out], by omega, BN⟩, by simp [intOf]; omega⟩
        · have NE := hide' (show (true && nearA u v) = false by unfold nearA; simp [h1])
          go_wp2
          exact ⟨⟨k + 1, by go_num, by rw [NX.out, NE.out], by omega, BN⟩, by simp [intOf]; omega⟩
    · have kn : k = n := by omega
      subst kn
      go_wp2
      go_ret
      exact ⟨rfl, BB.out.trans (BW.out.mono BB.out.size)⟩
set_option maxRecDepth 100000 in
set_option maxHeartbeats 6400000 in
theorem fits_2 (ys : List SpotT) (a : Option Addr) (n c : Nat) (x y d : Int) (w : World) (hA : ArgS w ys a n c) (h1 : -1000000 ≤ x) (h2 : x ≤ 1000000) (h3 : ¬ -1000000 ≤ y) :
    Calls Try.prog 12 #[.slice a n c, .agg #[.int .i64 x, .int .i64 y, .int .i64 d]] w fun e w' => e = .returned (.bool (fitK ys false n)) ∧ Below w.heap.size w w' := by
  have HL := hide' hA.len
  have nm := hA.max
  obtain ⟨w1, hw1⟩ : ∃ w1, w.alloc (.cells #[.int .i64 x, .int .i64 y, .int .i64 d] 40) = w1 := ⟨_, rfl⟩
  have BB := hide' (show Below w.heap.size w w1 by rw [← hw1]; exact (Below.refl _ _).alloc (Nat.le_refl _) _)
  have g1 : w1.heap[w.heap.size]? = some (.cells #[.int .i64 x, .int .i64 y, .int .i64 d] 40 (0, 0)) := by rw [← hw1]; exact heap_alloc_new _ _
  have c0 := cell_of_row w1 _ 0 _ _ _ g1
  have c1 := cell_of_row w1 _ 1 _ _ _ g1
  simp at c0 c1
  have HP := hide' (fun (V : World) (h : Below w1.heap.size w1 V) => hA.below (BB.out.trans (h.mono BB.out.size)))
  clear hA g1
  go_enter Try.func12, Try.ntmps12
  have HW1 := hide' hw1
  clear hw1
  go_wp2
  go_loopw [6, 7] (fun ov iv wr => ∃ k : Nat, iv = .int .i64 (k : Int) ∧ ov = .bool (fitK ys false k) ∧ k ≤ n ∧ Hid (Below w1.heap.size w1 wr)) (fun _ iv _ => ((n : Int) - intOf iv).toNat)
  case atStart => exact ⟨0, by go_num, by first | rfl | (simp [fitK]), by omega, hide' (by rw [HW1.out]; exact Below.refl _ _)⟩
  case round =>
    clear c0 c1 h1 h2 h3
    obtain ⟨k, rfl, rfl, hk, BW⟩ := hrel
    by_cases dd : (k : Int) < (n : Int)
    · have hkl : k < ys.length := by have := HL.out; omega
      obtain ⟨g, off, rfl, hg, p0, p1, p2⟩ := (HP.out wr BW.out).cells k hkl
      have NX := hide' (fitK_next ys false k)
      rw [getD_at hkl] at NX
      obtain ⟨⟨u, v, z⟩, hx⟩ : ∃ x, ys[k] = x := ⟨_, rfl⟩
      rw [hx] at p0 p1 p2 NX
      simp only at p0 p1 p2 NX
      have BN := hide' (show Below w1.heap.size w1 (wr.alloc (.cells #[.int .i64 u, .int .i64 v, .int .i64 z] 73)) from BW.out.alloc BW.out.size _)
      obtain ⟨β, hβ⟩ : ∃ β, fitK ys false k = β := ⟨_, rfl⟩
      rw [hβ] at NX ⊢
      have i0 : (0 : Int) ≤ (k : Int) := by omega
      clear hβ hx
      cases β
      · go_wp2
        exact ⟨⟨k + 1, by go_num, by rw [NX.out]; rfl, by omega, BN⟩, by simp [intOf]; omega⟩
      · by_cases h1 : -1000000 ≤ u
        · by_cases h2 : u ≤ 1000000
          · by_cases h3 : -1000000 ≤ v
            · by_cases h4 : v ≤ 1000000
              · have NE := hide' (show (true && nearA u v) = true by unfold nearA; simp [h1, h2, h3, h4])
                go_wp2
                exact ⟨⟨k + 1, by go_num, by rw [NX.out, NE.out], by omega, BN⟩, by simp [intOf]; omega⟩
              · have NE := hide' (show (true && nearA u v) = false by unfold nearA; simp [h1, h2, h3, h4])
                go_wp2
                exact ⟨⟨k + 1, by go_num, by rw [NX.out, NE.out], by omega, BN⟩, by simp [intOf]; omega⟩
            · have NE := hide' (show (true && nearA u v) = false by unfold nearA; simp [h1, h2, h3])
              go_wp2
              exact ⟨⟨k + 1, by go_num, by rw [NX.out, NE.out], by omega, BN⟩, by simp [intOf]; omega⟩
          · have NE := hide' (show (true && nearA u v) = false by unfold nearA; simp [h1, h2])
            go_wp2
            exact ⟨⟨k + 1, by go_num, by rw [NX.out, NE.out], by omega, BN⟩, by simp [intOf]; omega⟩
        · have NE := hide' (show (true && nearA u v) = false by unfold nearA; simp [h1])
          go_wp2
          exact ⟨⟨k + 1, by go_num, by rw [NX.out, NE.out], by omega, BN⟩, by simp [intOf]; omega⟩
    · have kn : k = n := by omega
      subst kn
      go_wp2
      go_ret
      exact ⟨rfl, BB.out.trans (BW.out.mono BB.out.size)⟩
set_option maxRecDepth 100000 in
set_option maxHeartbeats 6400000 in
theorem fits_3 (ys : List SpotT) (a : Option Addr) (n c : Nat) (x y d : Int) (w : World) (hA : ArgS w ys a n c) (h1 : -1000000 ≤ x) (h2 : ¬ x ≤ 1000000) :
    Calls Try.prog 12 #[.slice a n c, .agg #[.int .i64 x, .int .i64 y, .int .i64 d]] w fun e w' => e = .returned (.bool (fitK ys false n)) ∧ Below w.heap.size w w' := by
  have HL := hide' hA.len
  have nm := hA.max
  obtain ⟨w1, hw1⟩ : ∃ w1, w.alloc (.cells #[.int .i64 x, .int .i64 y, .int .i64 d] 40) = w1 := ⟨_, rfl⟩
  have BB := hide' (show Below w.heap.size w w1 by rw [← hw1]; exact (Below.refl _ _).alloc (Nat.le_refl _) _)
  have g1 : w1.heap[w.heap.size]? = some (.cells #[.int .i64 x, .int .i64 y, .int .i64 d] 40 (0, 0)) := by rw [← hw1]; exact heap_alloc_new _ _
  have c0 := cell_of_row w1 _ 0 _ _ _ g1
  have c1 := cell_of_row w1 _ 1 _ _ _ g1
  simp at c0 c1
  have HP := hide' (fun (V : World) (h : Below w1.heap.size w1 V) => hA.below (BB.out.trans (h.mono BB.out.size)))
  clear hA g1
  go_enter Try.func12, Try.ntmps12
  have HW1 := hide' hw1
  clear hw1
  go_wp2
  go_loopw [6, 7] (fun ov iv wr => ∃ k : Nat, iv = .int .i64 (k : Int) ∧ ov = .bool (fitK ys false k) ∧ k ≤ n ∧ Hid (Below w1.heap.size w1 wr)) (fun _ iv _ => ((n : Int) - intOf iv).toNat)
  case atStart => exact ⟨0, by go_num, by first | rfl | (simp [fitK]), by omega, hide' (by rw [HW1.out]; exact Below.refl _ _)⟩
  case round =>
    clear c0 c1 h1 h2
    obtain ⟨k, rfl, rfl, hk, BW⟩ := hrel
    by_cases dd : (k : Int) < (n : Int)
    · have hkl : k < ys.length := by have := HL.out; omega
      obtain ⟨g, off, rfl, hg, p0, p1, p2⟩ := (HP.out wr BW.out).cells k hkl
      have NX := hide' (fitK_next ys false k)
      rw [getD_at hkl] at NX
      obtain ⟨⟨u, v, z⟩, hx⟩ : ∃ x, ys[k] = x := ⟨_, rfl⟩
      rw [hx] at p0 p1 p2 NX
      simp only at p0 p1 p2 NX
      have BN := hide' (show Below w1.heap.size w1 (wr.alloc (.cells #[.int .i64 u, .int .i64 v, .int .i64 z] 73)) from BW.out.alloc BW.out.size _)
      obtain ⟨β, hβ⟩ : ∃ β, fitK ys false k = β := ⟨_, rfl⟩
      rw [hβ] at NX ⊢
      have i0 : (0 : Int) ≤ (k : Int) := by omega
      clear hβ hx
      cases β
      · go_wp2
        exact ⟨⟨k + 1, by go_num, by rw [NX.out]; rfl, by omega, BN⟩, by simp [intOf]; omega⟩
      · by_cases h1 : -1000000 ≤ u
        · by_cases h2 : u ≤ 1000000
          · by_cases h3 : -1000000 ≤ v
            · by_cases h4 : v ≤ 1000000
              · have NE := hide' (show (true && nearA u v) = true by unfold nearA; simp [h1, h2, h3, h4])
                go_wp2
                exact ⟨⟨k + 1, by go_num, by rw [NX.out, NE.out], by omega, BN⟩, by simp [intOf]; omega⟩
              · have NE := hide' (show (true && nearA u v) = false by unfold nearA; simp [h1, h2, h3, h4])
                go_wp2
                exact ⟨⟨k + 1, by go_num, by rw [NX.out, NE.out], by omega, BN⟩, by simp [intOf]; omega⟩
            · have NE := hide' (show (true && nearA u v) = false by unfold nearA; simp [h1, h2, h3])
              go_wp2
              exact ⟨⟨k + 1, by go_num, by rw [NX.out, NE.out], by omega, BN⟩, by simp [intOf]; omega⟩
          · have NE := hide' (show (true && nearA u v) = false by unfold nearA; simp [h1, h2])
            go_wp2
            exact ⟨⟨k + 1, by go_num, by rw [NX.out, NE.out], by omega, BN⟩, by simp [intOf]; omega⟩
        · have NE := hide' (show (true && nearA u v) = false by unfold nearA; simp [h1])
          go_wp2
          exact ⟨⟨k + 1, by go_num, by rw [NX.out, NE.out], by omega, BN⟩, by simp [intOf]; omega⟩
    · have kn : k = n := by omega
      subst kn
      go_wp2
      go_ret
      exact ⟨rfl, BB.out.trans (BW.out.mono BB.out.size)⟩
set_option maxRecDepth 100000 in
set_option maxHeartbeats 6400000 in
theorem fits_4 (ys : List SpotT) (a : Option Addr) (n c : Nat) (x y d : Int) (w : World) (hA : ArgS w ys a n c) (h1 : ¬ -1000000 ≤ x) :
    Calls Try.prog 12 #[.slice a n c, .agg #[.int .i64 x, .int .i64 y, .int .i64 d]] w fun e w' => e = .returned (.bool (fitK ys false n)) ∧ Below w.heap.size w w' := by
  have HL := hide' hA.len
  have nm := hA.max
  obtain ⟨w1, hw1⟩ : ∃ w1, w.alloc (.cells #[.int .i64 x, .int .i64 y, .int .i64 d] 40) = w1 := ⟨_, rfl⟩
  have BB := hide' (show Below w.heap.size w w1 by rw [← hw1]; exact (Below.refl _ _).alloc (Nat.le_refl _) _)
  have g1 : w1.heap[w.heap.size]? = some (.cells #[.int .i64 x, .int .i64 y, .int .i64 d] 40 (0, 0)) := by rw [← hw1]; exact heap_alloc_new _ _
  have c0 := cell_of_row w1 _ 0 _ _ _ g1
  have c1 := cell_of_row w1 _ 1 _ _ _ g1
  simp at c0 c1
  have HP := hide' (fun (V : World) (h : Below w1.heap.size w1 V) => hA.below (BB.out.trans (h.mono BB.out.size)))
  clear hA g1
  go_enter Try.func12, Try.ntmps12
  have HW1 := hide' hw1
  clear hw1
  go_wp2
  go_loopw [6, 7] (fun ov iv wr => ∃ k : Nat, iv = .int .i64 (k : Int) ∧ ov = .bool (fitK ys false k) ∧ k ≤ n ∧ Hid (Below w1.heap.size w1 wr)) (fun _ iv _ => ((n : Int) - intOf iv).toNat)
  case atStart => exact ⟨0, by go_num, by first | rfl | (simp [fitK]), by omega, hide' (by rw [HW1.out]; exact Below.refl _ _)⟩
  case round =>
    clear c0 c1 h1
    obtain ⟨k, rfl, rfl, hk, BW⟩ := hrel
    by_cases dd : (k : Int) < (n : Int)
    · have hkl : k < ys.length := by have := HL.out; omega
      obtain ⟨g, off, rfl, hg, p0, p1, p2⟩ := (HP.out wr BW.out).cells k hkl
      have NX := hide' (fitK_next ys false k)
      rw [getD_at hkl] at NX
      obtain ⟨⟨u, v, z⟩, hx⟩ : ∃ x, ys[k] = x := ⟨_, rfl⟩
      rw [hx] at p0 p1 p2 NX
      simp only at p0 p1 p2 NX
      have BN := hide' (show Below w1.heap.size w1 (wr.alloc (.cells #[.int .i64 u, .int .i64 v, .int .i64 z] 73)) from BW.out.alloc BW.out.size _)
      obtain ⟨β, hβ⟩ : ∃ β, fitK ys false k = β := ⟨_, rfl⟩
      rw [hβ] at NX ⊢
      have i0 : (0 : Int) ≤ (k : Int) := by omega
      clear hβ hx
      cases β
      · go_wp2
        exact ⟨⟨k + 1, by go_num, by rw [NX.out]; rfl, by omega, BN⟩, by simp [intOf]; omega⟩
      · by_cases h1 : -1000000 ≤ u
        · by_cases h2 : u ≤ 1000000
          · by_cases h3 : -1000000 ≤ v
            · by_cases h4 : v ≤ 1000000
              · have NE := hide' (show (true && nearA u v) = true by unfold nearA; simp [h1, h2, h3, h4])
                go_wp2
                exact ⟨⟨k + 1, by go_num, by rw [NX.out, NE.out], by omega, BN⟩, by simp [intOf]; omega⟩
              · have NE := hide' (show (true && nearA u v) = false by unfold nearA; simp [h1, h2, h3, h4])
                go_wp2
                exact ⟨⟨k + 1, by go_num, by rw [NX.out, NE.out], by omega, BN⟩, by simp [intOf]; omega⟩
            · have NE := hide' (show (true && nearA u v) = false by unfold nearA; simp [h1, h2, h3])
              go_wp2
              exact ⟨⟨k + 1, by go_num, by rw [NX.out, NE.out], by omega, BN⟩, by simp [intOf]; omega⟩
          · have NE := hide' (show (true && nearA u v) = false by unfold nearA; simp [h1, h2])
            go_wp2
            exact ⟨⟨k + 1, by go_num, by rw [NX.out, NE.out], by omega, BN⟩, by simp [intOf]; omega⟩
        · have NE := hide' (show (true && nearA u v) = false by unfold nearA; simp [h1])
          go_wp2
          exact ⟨⟨k + 1, by go_num, by rw [NX.out, NE.out], by omega, BN⟩, by simp [intOf]; omega⟩
    · have kn : k = n := by omega
      subst kn
      go_wp2
      go_ret
      exact ⟨rfl, BB.out.trans (BW.out.mono BB.out.size)⟩
theorem fits_any (ys : List SpotT) (a : Option Addr) (n c : Nat) (x y d : Int) (w : World) (hA : ArgS w ys a n c) :
    Calls Try.prog 12 #[.slice a n c, .agg #[.int .i64 x, .int .i64 y, .int .i64 d]] w fun e w' => e = .returned (.bool (fitK ys (nearA x y) n)) ∧ Below w.heap.size w w' := by
  by_cases h1 : -1000000 ≤ x
  · by_cases h2 : x ≤ 1000000
    · by_cases h3 : -1000000 ≤ y
      · by_cases h4 : y ≤ 1000000
        · rw [show nearA x y = true by unfold nearA; simp [h1, h2, h3, h4]]; exact fits_0 ys a n c x y d w hA h1 h2 h3 h4
        · rw [show nearA x y = false by unfold nearA; simp [h1, h2, h3, h4]]; exact fits_1 ys a n c x y d w hA h1 h2 h3 h4
      · rw [show nearA x y = false by unfold nearA; simp [h1, h2, h3]]; exact fits_2 ys a n c x y d w hA h1 h2 h3
    · rw [show nearA x y = false by unfold nearA; simp [h1, h2]]; exact fits_3 ys a n c x y d w hA h1 h2
  · rw [show nearA x y = false by unfold nearA; simp [h1]]; exact fits_4 ys a n c x y d w hA h1
end Go.Proofs.Ytbkllhlapdmlfaa

