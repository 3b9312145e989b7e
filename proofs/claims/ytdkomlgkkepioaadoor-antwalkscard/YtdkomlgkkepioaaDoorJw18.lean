/-
  What the last text of this claim leans on, part 18: Af4.
-/
import Derived.Test.YtdkomlgkkepioaaDoorJw17
namespace Go.Proofs.YtdkomlgkkepioaaDoor
open Go.RowKit
set_option linter.unusedVariables false
set_option maxRecDepth 100000 in
set_option maxHeartbeats 3200000 in
theorem refPaint_0 (x y z : Int) (xs : List SpotT) (g n c i : Nat) (w : World) (HP : Hid (ArgS w xs (some ⟨g, 0, none⟩) n c)) (HF : Hid (Calls Tryd.prog 122 #[.slice (some ⟨g, 0, none⟩) n c, .int .i64 x, .int .i64 y] w fun e w' => e = .returned (.tuple #[.int .i64 (i : Int), .bool false]) ∧ w' = w)) (ij : i ≤ n) (hn : n ≤ 4900000000000) (hc : n ≤ c) (cm : c ≤ 9223372036854775807) (cz : ¬ c = 0) (hz : ¬ 0 < z) (cj : ¬ c = i) :
    Calls Tryd.prog 75 #[.slice (some ⟨g, 0, none⟩) n c, .int .i64 x, .int .i64 y, .int .i64 z] w (PaintP (xs.take i ++ [] ++ xs.drop (i)) w) := by
  have HL := hide' HP.out.len
  have HN := hide' (And.intro hn ij)
  have i1 : (i : Int) ≤ (c : Int) := by omega
  have i0 : (0 : Int) ≤ (i : Int) := by omega
  have O0 := hide' (World.ownsRow_nil w w.heap.size 136 3)
  go_enter Tryd.func75, Tryd.ntmps75
  go_upto_region 3 with (go_at_call 122; refine HF.out.mono ?_; rintro e w2 ⟨rfl, rfl⟩)
  go_upto_region 4 with (at_builtin; go_loud (refine wpList_append_spots _ rfl _ _ rfl w2.heap.size _ [] rfl O0.out (xs.take i) (some ⟨g, 0, none⟩) i c rfl (HP.out.take (by have := HL.out; have := HN.out; omega) c) (by have := HL.out; have := HN.out; simp; omega) w2 (Below.refl _ _) (Nat.le_refl _) ?_; intro v1 w3 o3 b3; go_frame))
  rw [List.nil_append] at o3
  have O3 := hide' o3
  have B3 := hide' b3
  clear o3 b3
  obtain ⟨w4, hw4⟩ : ∃ w4, w3 = w4 := ⟨_, rfl⟩
  subst hw4
  have O4 := hide' (show w3.ownsRow w2.heap.size 136 3 v1 (xs.take i ++ []).length (flS (xs.take i ++ [])) by rw [List.append_nil]; exact O3.out)
  have B4 := B3
  have z4 := B3.out.size
  have j0 : ((i : Nat) : Int) ≤ (n : Int) := by have := HN.out; omega
  have wj : IntKind.i64.wrap ((i : Nat) : Int) = ((i : Nat) : Int) := by simp [IntKind.wrap, IntKind.bits, IntKind.signed]; omega
  go_wp2_with (at_builtin; go_loud (refine wpList_append_spots _ rfl _ _ rfl w2.heap.size _ (xs.take i ++ []) rfl O4.out (xs.drop i) (some ⟨g, i * 3, none⟩) (n - i) (c - i) rfl (by have q := (HP.out.below B4.out).drop (i := i) (by have := HL.out; have := HN.out; omega) (n - i) rfl (c - i); rw [Nat.zero_add] at q; exact q) (by have := HL.out; have := HN.out; simp; omega) w2 B4.out z4 ?_; intro v5 w5 o5 b5; go_frame))
  go_ret
  exact ⟨_, rfl, o5, b5⟩
set_option maxRecDepth 100000 in
set_option maxHeartbeats 3200000 in
theorem refPaint_1 (x y z : Int) (xs : List SpotT) (g i : Nat) (w : World) (HP : Hid (ArgS w xs (some ⟨g, 0, none⟩) i i)) (HF : Hid (Calls Tryd.prog 122 #[.slice (some ⟨g, 0, none⟩) i i, .int .i64 x, .int .i64 y] w fun e w' => e = .returned (.tuple #[.int .i64 (i : Int), .bool false]) ∧ w' = w)) (hn : i ≤ 4900000000000) (cm : i ≤ 9223372036854775807) (cz : ¬ i = 0) (hz : ¬ 0 < z) :
    Calls Tryd.prog 75 #[.slice (some ⟨g, 0, none⟩) i i, .int .i64 x, .int .i64 y, .int .i64 z] w (PaintP (xs.take i ++ [] ++ xs.drop (i)) w) := by
  have HL := hide' HP.out.len
  have HN := hide' hn
  have i1 : (i : Int) ≤ (i : Int) := by omega
  have i0 : (0 : Int) ≤ (i : Int) := by omega
  have O0 := hide' (World.ownsRow_nil w w.heap.size 136 3)
  go_enter Tryd.func75, Tryd.ntmps75
  go_upto_region 3 with (go_at_call 122; refine HF.out.mono ?_; rintro e w2 ⟨rfl, rfl⟩)
  go_upto_region 4 with (at_builtin; go_loud (refine wpList_append_spots _ rfl _ _ rfl w2.heap.size _ [] rfl O0.out (xs.take i) (some ⟨g, 0, none⟩) i i rfl (HP.out.take (by have := HL.out; have := HN.out; omega) i) (by have := HL.out; have := HN.out; simp; omega) w2 (Below.refl _ _) (Nat.le_refl _) ?_; intro v1 w3 o3 b3; go_frame))
  rw [List.nil_append] at o3
  have O3 := hide' o3
  have B3 := hide' b3
  clear o3 b3
  obtain ⟨w4, hw4⟩ : ∃ w4, w3 = w4 := ⟨_, rfl⟩
  subst hw4
  have O4 := hide' (show w3.ownsRow w2.heap.size 136 3 v1 (xs.take i ++ []).length (flS (xs.take i ++ [])) by rw [List.append_nil]; exact O3.out)
  have B4 := B3
  have z4 := B3.out.size
  have j0 : ((i : Nat) : Int) ≤ (i : Int) := by have := HN.out; omega
  have wj : IntKind.i64.wrap ((i : Nat) : Int) = ((i : Nat) : Int) := by simp [IntKind.wrap, IntKind.bits, IntKind.signed]; omega
  go_wp2_with (at_builtin; go_loud (refine wpList_append_spots _ rfl _ _ rfl w2.heap.size _ (xs.take i ++ []) rfl O4.out (xs.drop i) (some ⟨g, 0, none⟩) 0 0 rfl (by rw [List.drop_eq_nil_of_le (by have := HL.out; omega)]; exact ArgS.nothing _ _ _) (by have := HL.out; have := HN.out; simp; omega) w2 B4.out z4 ?_; intro v5 w5 o5 b5; go_frame))
  go_ret
  exact ⟨_, rfl, o5, b5⟩
set_option maxRecDepth 100000 in
set_option maxHeartbeats 3200000 in
theorem refPaint_2 (x y z : Int) (xs : List SpotT) (g n c i : Nat) (w : World) (HP : Hid (ArgS w xs (some ⟨g, 0, none⟩) n c)) (HF : Hid (Calls Tryd.prog 122 #[.slice (some ⟨g, 0, none⟩) n c, .int .i64 x, .int .i64 y] w fun e w' => e = .returned (.tuple #[.int .i64 (i : Int), .bool false]) ∧ w' = w)) (ij : i ≤ n) (hn : n ≤ 4900000000000) (hc : n ≤ c) (cm : c ≤ 9223372036854775807) (cz : ¬ c = 0) (hz : 0 < z) (cj : ¬ c = i) :
    Calls Tryd.prog 75 #[.slice (some ⟨g, 0, none⟩) n c, .int .i64 x, .int .i64 y, .int .i64 z] w (PaintP (xs.take i ++ [(x, y, z)] ++ xs.drop (i)) w) := by
  have HL := hide' HP.out.len
  have HN := hide' (And.intro hn ij)
  have i1 : (i : Int) ≤ (c : Int) := by omega
  have i0 : (0 : Int) ≤ (i : Int) := by omega
  have O0 := hide' (World.ownsRow_nil w w.heap.size 136 3)
  go_enter Tryd.func75, Tryd.ntmps75
  go_upto_region 3 with (go_at_call 122; refine HF.out.mono ?_; rintro e w2 ⟨rfl, rfl⟩)
  go_upto_region 4 with (at_builtin; go_loud (refine wpList_append_spots _ rfl _ _ rfl w2.heap.size _ [] rfl O0.out (xs.take i) (some ⟨g, 0, none⟩) i c rfl (HP.out.take (by have := HL.out; have := HN.out; omega) c) (by have := HL.out; have := HN.out; simp; omega) w2 (Below.refl _ _) (Nat.le_refl _) ?_; intro v1 w3 o3 b3; go_frame))
  rw [List.nil_append] at o3
  have O3 := hide' o3
  have B3 := hide' b3
  clear o3 b3
  have z3 := B3.out.size
  have A4 := hide' (show ArgS (w3.alloc (.cells #[.int .i64 x, .int .i64 y, .int .i64 z] 136)) [(x, y, z)] (some ⟨w3.heap.size, 0, none⟩) 1 1 from ⟨rfl, by omega, fun k hk => by
    obtain rfl : k = 0 := by simp at hk; exact hk
    refine ⟨w3.heap.size, 0, rfl, by simp, ?_, ?_, ?_⟩
    · exact cell_of_row _ _ 0 _ _ _ (heap_alloc_new _ _)
    · exact cell_of_row _ _ 1 _ _ _ (heap_alloc_new _ _)
    · exact cell_of_row _ _ 2 _ _ _ (heap_alloc_new _ _)⟩)
  go_upto_region 6 with (at_builtin; go_loud (refine wpList_append_spots _ rfl _ _ rfl w2.heap.size _ (xs.take i) rfl (O3.out.alloc _) [(x, y, z)] (some ⟨w3.heap.size, 0, none⟩) 1 1 rfl A4.out (by have := HL.out; have := HN.out; simp; omega) w2 (B3.out.alloc z3 _) (by simp; omega) ?_; intro v2 w4 o4 b4; go_frame))
  have O4 := hide' o4
  have B4 := hide' b4
  have z4 := b4.size
  clear o4 b4 A4
  have j0 : ((i : Nat) : Int) ≤ (n : Int) := by have := HN.out; omega
  have wj : IntKind.i64.wrap ((i : Nat) : Int) = ((i : Nat) : Int) := by simp [IntKind.wrap, IntKind.bits, IntKind.signed]; omega
  go_wp2_with (at_builtin; go_loud (refine wpList_append_spots _ rfl _ _ rfl w2.heap.size _ (xs.take i ++ [(x, y, z)]) rfl O4.out (xs.drop i) (some ⟨g, i * 3, none⟩) (n - i) (c - i) rfl (by have q := (HP.out.below B4.out).drop (i := i) (by have := HL.out; have := HN.out; omega) (n - i) rfl (c - i); rw [Nat.zero_add] at q; exact q) (by have := HL.out; have := HN.out; simp; omega) w2 B4.out z4 ?_; intro v5 w5 o5 b5; go_frame))
  go_ret
  exact ⟨_, rfl, o5, b5⟩
set_option maxRecDepth 100000 in
set_option maxHeartbeats 3200000 in
theorem refPaint_3 (x y z : Int) (xs : List SpotT) (g i : Nat) (w : World) (HP : Hid (ArgS w xs (some ⟨g, 0, none⟩) i i)) (HF : Hid (Calls Tryd.prog 122 #[.slice (some ⟨g, 0, none⟩) i i, .int .i64 x, .int .i64 y] w fun e w' => e = .returned (.tuple #[.int .i64 (i : Int), .bool false]) ∧ w' = w)) (hn : i ≤ 4900000000000) (cm : i ≤ 9223372036854775807) (cz : ¬ i = 0) (hz : 0 < z) :
    Calls Tryd.prog 75 #[.slice (some ⟨g, 0, none⟩) i i, .int .i64 x, .int .i64 y, .int .i64 z] w (PaintP (xs.take i ++ [(x, y, z)] ++ xs.drop (i)) w) := by
  have HL := hide' HP.out.len
  have HN := hide' hn
  have i1 : (i : Int) ≤ (i : Int) := by omega
  have i0 : (0 : Int) ≤ (i : Int) := by omega
  have O0 := hide' (World.ownsRow_nil w w.heap.size 136 3)
  go_enter Tryd.func75, Tryd.ntmps75
  go_upto_region 3 with (go_at_call 122; refine HF.out.mono ?_; rintro e w2 ⟨rfl, rfl⟩)
  go_upto_region 4 with (at_builtin; go_loud (refine wpList_append_spots _ rfl _ _ rfl w2.heap.size _ [] rfl O0.out (xs.take i) (some ⟨g, 0, none⟩) i i rfl (HP.out.take (by have := HL.out; have := HN.out; omega) i) (by have := HL.out; have := HN.out; simp; omega) w2 (Below.refl _ _) (Nat.le_refl _) ?_; intro v1 w3 o3 b3; go_frame))
  rw [List.nil_append] at o3
  have O3 := hide' o3
  have B3 := hide' b3
  clear o3 b3
  have z3 := B3.out.size
  have A4 := hide' (show ArgS (w3.alloc (.cells #[.int .i64 x, .int .i64 y, .int .i64 z] 136)) [(x, y, z)] (some ⟨w3.heap.size, 0, none⟩) 1 1 from ⟨rfl, by omega, fun k hk => by
    obtain rfl : k = 0 := by simp at hk; exact hk
    refine ⟨w3.heap.size, 0, rfl, by simp, ?_, ?_, ?_⟩
    · exact cell_of_row _ _ 0 _ _ _ (heap_alloc_new _ _)
    · exact cell_of_row _ _ 1 _ _ _ (heap_alloc_new _ _)
    · exact cell_of_row _ _ 2 _ _ _ (heap_alloc_new _ _)⟩)
  go_upto_region 6 with (at_builtin; go_loud (refine wpList_append_spots _ rfl _ _ rfl w2.heap.size _ (xs.take i) rfl (O3.out.alloc _) [(x, y, z)] (some ⟨w3.heap.size, 0, none⟩) 1 1 rfl A4.out (by have := HL.out; have := HN.out; simp; omega) w2 (B3.out.alloc z3 _) (by simp; omega) ?_; intro v2 w4 o4 b4; go_frame))
  have O4 := hide' o4
  have B4 := hide' b4
  have z4 := b4.size
  clear o4 b4 A4
  have j0 : ((i : Nat) : Int) ≤ (i : Int) := by have := HN.out; omega
  have wj : IntKind.i64.wrap ((i : Nat) : Int) = ((i : Nat) : Int) := by simp [IntKind.wrap, IntKind.bits, IntKind.signed]; omega
  go_wp2_with (at_builtin; go_loud (refine wpList_append_spots _ rfl _ _ rfl w2.heap.size _ (xs.take i ++ [(x, y, z)]) rfl O4.out (xs.drop i) (some ⟨g, 0, none⟩) 0 0 rfl (by rw [List.drop_eq_nil_of_le (by have := HL.out; omega)]; exact ArgS.nothing _ _ _) (by have := HL.out; have := HN.out; simp; omega) w2 B4.out z4 ?_; intro v5 w5 o5 b5; go_frame))
  go_ret
  exact ⟨_, rfl, o5, b5⟩
set_option maxRecDepth 100000 in
set_option maxHeartbeats 3200000 in
theorem refPaint_4 (x y z : Int) (xs : List SpotT) (g n c i : Nat) (w : World) (HP : Hid (ArgS w xs (some ⟨g, 0, none⟩) n c)) (HF : Hid (Calls Tryd.prog 122 #[.slice (some ⟨g, 0, none⟩) n c, .int .i64 x, .int .i64 y] w fun e w' => e = .returned (.tuple #[.int .i64 (i : Int), .bool true]) ∧ w' = w)) (ij : i + 1 ≤ n) (hn : n ≤ 4900000000000) (hc : n ≤ c) (cm : c ≤ 9223372036854775807) (cz : ¬ c = 0) (hz : ¬ 0 < z) (cj : ¬ c = i + 1) :
    Calls Tryd.prog 75 #[.slice (some ⟨g, 0, none⟩) n c, .int .i64 x, .int .i64 y, .int .i64 z] w (PaintP (xs.take i ++ [] ++ xs.drop (i + 1)) w) := by
  have HL := hide' HP.out.len
  have HN := hide' (And.intro hn ij)
  have i1 : (i : Int) ≤ (c : Int) := by omega
  have i0 : (0 : Int) ≤ (i : Int) := by omega
  have O0 := hide' (World.ownsRow_nil w w.heap.size 136 3)
  go_enter Tryd.func75, Tryd.ntmps75
  go_upto_region 3 with (go_at_call 122; refine HF.out.mono ?_; rintro e w2 ⟨rfl, rfl⟩)
  go_upto_region 4 with (at_builtin; go_loud (refine wpList_append_spots _ rfl _ _ rfl w2.heap.size _ [] rfl O0.out (xs.take i) (some ⟨g, 0, none⟩) i c rfl (HP.out.take (by have := HL.out; have := HN.out; omega) c) (by have := HL.out; have := HN.out; simp; omega) w2 (Below.refl _ _) (Nat.le_refl _) ?_; intro v1 w3 o3 b3; go_frame))
  rw [List.nil_append] at o3
  have O3 := hide' o3
  have B3 := hide' b3
  clear o3 b3
  obtain ⟨w4, hw4⟩ : ∃ w4, w3 = w4 := ⟨_, rfl⟩
  subst hw4
  have O4 := hide' (show w3.ownsRow w2.heap.size 136 3 v1 (xs.take i ++ []).length (flS (xs.take i ++ [])) by rw [List.append_nil]; exact O3.out)
  have B4 := B3
  have z4 := B3.out.size
  have j0 : (((i + 1) : Nat) : Int) ≤ (n : Int) := by have := HN.out; omega
  have wj : IntKind.i64.wrap (((i + 1) : Nat) : Int) = (((i + 1) : Nat) : Int) := by simp [IntKind.wrap, IntKind.bits, IntKind.signed]; omega
  go_wp2_with (at_builtin; go_loud (refine wpList_append_spots _ rfl _ _ rfl w2.heap.size _ (xs.take i ++ []) rfl O4.out (xs.drop (i + 1)) (some ⟨g, (i + 1) * 3, none⟩) (n - (i + 1)) (c - (i + 1)) rfl (by have q := (HP.out.below B4.out).drop (i := (i + 1)) (by have := HL.out; have := HN.out; omega) (n - (i + 1)) rfl (c - (i + 1)); rw [Nat.zero_add] at q; exact q) (by have := HL.out; have := HN.out; simp; omega) w2 B4.out z4 ?_; intro v5 w5 o5 b5; go_frame))
  go_ret
  exact ⟨_, rfl, o5, b5⟩
set_option maxRecDepth 100000 in
set_option maxHeartbeats 3200000 in
theorem refPaint_5 (x y z : Int) (xs : List SpotT) (g i : Nat) (w : World) (HP : Hid (ArgS w xs (some ⟨g, 0, none⟩) (i + 1) (i + 1))) (HF : Hid (Calls Tryd.prog 122 #[.slice (some ⟨g, 0, none⟩) (i + 1) (i + 1), .int .i64 x, .int .i64 y] w fun e w' => e = .returned (.tuple #[.int .i64 (i : Int), .bool true]) ∧ w' = w)) (hn : (i + 1) ≤ 4900000000000) (cm : (i + 1) ≤ 9223372036854775807) (cz : ¬ (i + 1) = 0) (hz : ¬ 0 < z) :
    Calls Tryd.prog 75 #[.slice (some ⟨g, 0, none⟩) (i + 1) (i + 1), .int .i64 x, .int .i64 y, .int .i64 z] w (PaintP (xs.take i ++ [] ++ xs.drop (i + 1)) w) := by
  have HL := hide' HP.out.len
  have HN := hide' hn
  have i1 : (i : Int) ≤ ((i + 1) : Int) := by omega
  have i0 : (0 : Int) ≤ (i : Int) := by omega
  have O0 := hide' (World.ownsRow_nil w w.heap.size 136 3)
  go_enter Tryd.func75, Tryd.ntmps75
  go_upto_region 3 with (go_at_call 122; refine HF.out.mono ?_; rintro e w2 ⟨rfl, rfl⟩)
  go_upto_region 4 with (at_builtin; go_loud (refine wpList_append_spots _ rfl _ _ rfl w2.heap.size _ [] rfl O0.out (xs.take i) (some ⟨g, 0, none⟩) i (i + 1) rfl (HP.out.take (by have := HL.out; have := HN.out; omega) (i + 1)) (by have := HL.out; have := HN.out; simp; omega) w2 (Below.refl _ _) (Nat.le_refl _) ?_; intro v1 w3 o3 b3; go_frame))
  rw [List.nil_append] at o3
  have O3 := hide' o3
  have B3 := hide' b3
  clear o3 b3
  obtain ⟨w4, hw4⟩ : ∃ w4, w3 = w4 := ⟨_, rfl⟩
  subst hw4
  have O4 := hide' (show w3.ownsRow w2.heap.size 136 3 v1 (xs.take i ++ []).length (flS (xs.take i ++ [])) by rw [List.append_nil]; exact O3.out)
  have B4 := B3
  have z4 := B3.out.size
  have j0 : (((i + 1) : Nat) : Int) ≤ ((i + 1) : Int) := by have := HN.out; omega
  have wj : IntKind.i64.wrap (((i + 1) : Nat) : Int) = (((i + 1) : Nat) : Int) := by simp [IntKind.wrap, IntKind.bits, IntKind.signed]; omega
  go_wp2_with (at_builtin; go_loud (refine wpList_append_spots _ rfl _ _ rfl w2.heap.size _ (xs.take i ++ []) rfl O4.out (xs.drop (i + 1)) (some ⟨g, 0, none⟩) 0 0 rfl (by rw [List.drop_eq_nil_of_le (by have := HL.out; omega)]; exact ArgS.nothing _ _ _) (by have := HL.out; have := HN.out; simp; omega) w2 B4.out z4 ?_; intro v5 w5 o5 b5; go_frame))
  go_ret
  exact ⟨_, rfl, o5, b5⟩
set_option maxRecDepth 100000 in
set_option maxHeartbeats 3200000 in
theorem refPaint_6 (x y z : Int) (xs : List SpotT) (g n c i : Nat) (w : World) (HP : Hid (ArgS w xs (some ⟨g, 0, none⟩) n c)) (HF : Hid (Calls Tryd.prog 122 #[.slice (some ⟨g, 0, none⟩) n c, .int .i64 x, .int .i64 y] w fun e w' => e = .returned (.tuple #[.int .i64 (i : Int), .bool true]) ∧ w' = w)) (ij : i + 1 ≤ n) (hn : n ≤ 4900000000000) (hc : n ≤ c) (cm : c ≤ 9223372036854775807) (cz : ¬ c = 0) (hz : 0 < z) (cj : ¬ c = i + 1) :
    Calls Tryd.prog 75 #[.slice (some ⟨g, 0, none⟩) n c, .int .i64 x, .int .i64 y, .int .i64 z] w (PaintP (xs.take i ++ [(x, y, z)] ++ xs.drop (i + 1)) w) := by
  have HL := hide' HP.out.len
  have HN := hide' (And.intro hn ij)
  have i1 : (i : Int) ≤ (c : Int) := by omega
  have i0 : (0 : Int) ≤ (i : Int) := by omega
  have O0 := hide' (World.ownsRow_nil w w.heap.size 136 3)
  go_enter Tryd.func75, Tryd.ntmps75
  go_upto_region 3 with (go_at_call 122; refine HF.out.mono ?_; rintro e w2 ⟨rfl, rfl⟩)
  go_upto_region 4 with (at_builtin; go_loud (refine wpList_append_spots _ rfl _ _ rfl w2.heap.size _ [] rfl O0.out (xs.take i) (some ⟨g, 0, none⟩) i c rfl (HP.out.take (by have := HL.out; have := HN.out; omega) c) (by have := HL.out; have := HN.out; simp; omega) w2 (Below.refl _ _) (Nat.le_refl _) ?_; intro v1 w3 o3 b3; go_frame))
  rw [List.nil_append] at o3
  have O3 := hide' o3
  have B3 := hide' b3
  clear o3 b3
  have z3 := B3.out.size
  have A4 := hide' (show ArgS (w3.alloc (.cells #[.int .i64 x, .int .i64 y, .int .i64 z] 136)) [(x, y, z)] (some ⟨w3.heap.size, 0, none⟩) 1 1 from ⟨rfl, by omega, fun k hk => by
    obtain rfl : k = 0 := by simp at hk; exact hk
    refine ⟨w3.heap.size, 0, rfl, by simp, ?_, ?_, ?_⟩
    · exact cell_of_row _ _ 0 _ _ _ (heap_alloc_new _ _)
    · exact cell_of_row _ _ 1 _ _ _ (heap_alloc_new _ _)
    · exact cell_of_row _ _ 2 _ _ _ (heap_alloc_new _ _)⟩)
  go_upto_region 6 with (at_builtin; go_loud (refine wpList_append_spots _ rfl _ _ rfl w2.heap.size _ (xs.take i) rfl (O3.out.alloc _) [(x, y, z)] (some ⟨w3.heap.size, 0, none⟩) 1 1 rfl A4.out (by have := HL.out; have := HN.out; simp; omega) w2 (B3.out.alloc z3 _) (by simp; omega) ?_; intro v2 w4 o4 b4; go_frame))
  have O4 := hide' o4
  have B4 := hide' b4
  have z4 := b4.size
  clear o4 b4 A4
  have j0 : (((i + 1) : Nat) : Int) ≤ (n : Int) := by have := HN.out; omega
  have wj : IntKind.i64.wrap (((i + 1) : Nat) : Int) = (((i + 1) : Nat) : Int) := by simp [IntKind.wrap, IntKind.bits, IntKind.signed]; omega
  go_wp2_with (at_builtin; go_loud (refine wpList_append_spots _ rfl _ _ rfl w2.heap.size _ (xs.take i ++ [(x, y, z)]) rfl O4.out (xs.drop (i + 1)) (some ⟨g, (i + 1) * 3, none⟩) (n - (i + 1)) (c - (i + 1)) rfl (by have q := (HP.out.below B4.out).drop (i := (i + 1)) (by have := HL.out; have := HN.out; omega) (n - (i + 1)) rfl (c - (i + 1)); rw [Nat.zero_add] at q; exact q) (by have := HL.out; have := HN.out; simp; omega) w2 B4.out z4 ?_; intro v5 w5 o5 b5; go_frame))
  go_ret
  exact ⟨_, rfl, o5, b5⟩
set_option maxRecDepth 100000 in
set_option maxHeartbeats 3200000 in
theorem refPaint_7 (x y z : Int) (xs : List SpotT) (g i : Nat) (w : World) (HP : Hid (ArgS w xs (some ⟨g, 0, none⟩) (i + 1) (i + 1))) (HF : Hid (Calls Tryd.prog 122 #[.slice (some ⟨g, 0, none⟩) (i + 1) (i + 1), .int .i64 x, .int .i64 y] w fun e w' => e = .returned (.tuple #[.int .i64 (i : Int), .bool true]) ∧ w' = w)) (hn : (i + 1) ≤ 4900000000000) (cm : (i + 1) ≤ 9223372036854775807) (cz : ¬ (i + 1) = 0) (hz : 0 < z) :
    Calls Tryd.prog 75 #[.slice (some ⟨g, 0, none⟩) (i + 1) (i + 1), .int .i64 x, .int .i64 y, .int .i64 z] w (PaintP (xs.take i ++ [(x, y, z)] ++ xs.drop (i + 1)) w) := by
  have HL := hide' HP.out.len
  have HN := hide' hn
  have i1 : (i : Int) ≤ ((i + 1) : Int) := by omega
  have i0 : (0 : Int) ≤ (i : Int) := by omega
  have O0 := hide' (World.ownsRow_nil w w.heap.size 136 3)
  go_enter Tryd.func75, Tryd.ntmps75
  go_upto_region 3 with (go_at_call 122; refine HF.out.mono ?_; rintro e w2 ⟨rfl, rfl⟩)
  go_upto_region 4 with (at_builtin; go_loud (refine wpList_append_spots _ rfl _ _ rfl w2.heap.size _ [] rfl O0.out (xs.take i) (some ⟨g, 0, none⟩) i (i + 1) rfl (HP.out.take (by have := HL.out; have := HN.out; omega) (i + 1)) (by have := HL.out; have := HN.out; simp; omega) w2 (Below.refl _ _) (Nat.le_refl _) ?_; intro v1 w3 o3 b3; go_frame))
  rw [List.nil_append] at o3
  have O3 := hide' o3
  have B3 := hide' b3
  clear o3 b3
  have z3 := B3.out.size
  have A4 := hide' (show ArgS (w3.alloc (.cells #[.int .i64 x, .int .i64 y, .int .i64 z] 136)) [(x, y, z)] (some ⟨w3.heap.size, 0, none⟩) 1 1 from ⟨rfl, by omega, fun k hk => by
    obtain rfl : k = 0 := by simp at hk; exact hk
    refine ⟨w3.heap.size, 0, rfl, by simp, ?_, ?_, ?_⟩
    · exact cell_of_row _ _ 0 _ _ _ (heap_alloc_new _ _)
    · exact cell_of_row _ _ 1 _ _ _ (heap_alloc_new _ _)
    · exact cell_of_row _ _ 2 _ _ _ (heap_alloc_new _ _)⟩)
  go_upto_region 6 with (at_builtin; go_loud (refine wpList_append_spots _ rfl _ _ rfl w2.heap.size _ (xs.take i) rfl (O3.out.alloc _) [(x, y, z)] (some ⟨w3.heap.size, 0, none⟩) 1 1 rfl A4.out (by have := HL.out; have := HN.out; simp; omega) w2 (B3.out.alloc z3 _) (by simp; omega) ?_; intro v2 w4 o4 b4; go_frame))
  have O4 := hide' o4
  have B4 := hide' b4
  have z4 := b4.size
  clear o4 b4 A4
  have j0 : (((i + 1) : Nat) : Int) ≤ ((i + 1) : Int) := by have := HN.out; omega
  have wj : IntKind.i64.wrap (((i + 1) : Nat) : Int) = (((i + 1) : Nat) : Int) := by simp [IntKind.wrap, IntKind.bits, IntKind.signed]; omega
  go_wp2_with (at_builtin; go_loud (refine wpList_append_spots _ rfl _ _ rfl w2.heap.size _ (xs.take i ++ [(x, y, z)]) rfl O4.out (xs.drop (i + 1)) (some ⟨g, 0, none⟩) 0 0 rfl (by rw [List.drop_eq_nil_of_le (by have := HL.out; omega)]; exact ArgS.nothing _ _ _) (by have := HL.out; have := HN.out; simp; omega) w2 B4.out z4 ?_; intro v5 w5 o5 b5; go_frame))
  go_ret
  exact ⟨_, rfl, o5, b5⟩
set_option maxRecDepth 100000 in
set_option maxHeartbeats 3200000 in
theorem refPaint_z0 (x y z : Int) (a : Option Addr) (w : World) (hz : ¬ 0 < z) :
    Calls Tryd.prog 75 #[.slice a 0 0, .int .i64 x, .int .i64 y, .int .i64 z] w (PaintP [] w) := by
  have HF := hide' (show Calls Tryd.prog 122 #[.slice a 0 0, .int .i64 x, .int .i64 y] w fun e w' => e = .returned (.tuple #[.int .i64 0, .bool false]) ∧ w' = w from refFind_any x y [] a 0 0 w (ArgS.nothing _ _ _))
  have O0 := hide' (World.ownsRow_nil w w.heap.size 136 3)
  go_enter Tryd.func75, Tryd.ntmps75
  go_upto_region 3 with (go_at_call 122; refine HF.out.mono ?_; rintro e w2 ⟨rfl, rfl⟩)
  go_upto_region 4 with (at_builtin; go_loud (refine wpList_append_spots _ rfl _ _ rfl w2.heap.size _ [] rfl O0.out [] a 0 0 rfl (ArgS.nothing _ _ _) (by simp) w2 (Below.refl _ _) (Nat.le_refl _) ?_; intro v1 w3 o3 b3; go_frame))
  have O3 := hide' (show w3.ownsRow w2.heap.size 136 3 v1 ([] : List SpotT).length (flS []) from o3)
  have B3 := hide' b3
  clear o3 b3
  have O4 := O3
  have B4 := B3
  have z4 := B3.out.size
  go_wp2_with (at_builtin; go_loud (refine wpList_append_spots _ rfl _ _ rfl w2.heap.size _ [] rfl O4.out [] a 0 0 rfl (ArgS.nothing _ _ _) (by simp) w2 B4.out z4 ?_; intro v5 w5 o5 b5; go_frame))
  go_ret
  exact ⟨_, rfl, o5, b5⟩
set_option maxRecDepth 100000 in
set_option maxHeartbeats 3200000 in
theorem refPaint_z1 (x y z : Int) (a : Option Addr) (w : World) (hz : 0 < z) :
    Calls Tryd.prog 75 #[.slice a 0 0, .int .i64 x, .int .i64 y, .int .i64 z] w (PaintP [(x, y, z)] w) := by
  have HF := hide' (show Calls Tryd.prog 122 #[.slice a 0 0, .int .i64 x, .int .i64 y] w fun e w' => e = .returned (.tuple #[.int .i64 0, .bool false]) ∧ w' = w from refFind_any x y [] a 0 0 w (ArgS.nothing _ _ _))
  have O0 := hide' (World.ownsRow_nil w w.heap.size 136 3)
  go_enter Tryd.func75, Tryd.ntmps75
  go_upto_region 3 with (go_at_call 122; refine HF.out.mono ?_; rintro e w2 ⟨rfl, rfl⟩)
  go_upto_region 4 with (at_builtin; go_loud (refine wpList_append_spots _ rfl _ _ rfl w2.heap.size _ [] rfl O0.out [] a 0 0 rfl (ArgS.nothing _ _ _) (by simp) w2 (Below.refl _ _) (Nat.le_refl _) ?_; intro v1 w3 o3 b3; go_frame))
  have O3 := hide' (show w3.ownsRow w2.heap.size 136 3 v1 ([] : List SpotT).length (flS []) from o3)
  have B3 := hide' b3
  clear o3 b3
  have z3 := B3.out.size
  have A4 := hide' (show ArgS (w3.alloc (.cells #[.int .i64 x, .int .i64 y, .int .i64 z] 136)) [(x, y, z)] (some ⟨w3.heap.size, 0, none⟩) 1 1 from ⟨rfl, by omega, fun k hk => by
    obtain rfl : k = 0 := by simp at hk; exact hk
    refine ⟨w3.heap.size, 0, rfl, by simp, ?_, ?_, ?_⟩
    · exact cell_of_row _ _ 0 _ _ _ (heap_alloc_new _ _)
    · exact cell_of_row _ _ 1 _ _ _ (heap_alloc_new _ _)
    · exact cell_of_row _ _ 2 _ _ _ (heap_alloc_new _ _)⟩)
  go_upto_region 6 with (at_builtin; go_loud (refine wpList_append_spots _ rfl _ _ rfl w2.heap.size _ [] rfl (O3.out.alloc _) [(x, y, z)] (some ⟨w3.heap.size, 0, none⟩) 1 1 rfl A4.out (by simp) w2 (B3.out.alloc z3 _) (by simp; omega) ?_; intro v2 w4 o4 b4; go_frame))
  have O4 := hide' (show w4.ownsRow w2.heap.size 136 3 v2 [(x, y, z)].length (flS [(x, y, z)]) from o4)
  have B4 := hide' b4
  have z4 := b4.size
  clear o4 b4 A4
  go_wp2_with (at_builtin; go_loud (refine wpList_append_spots _ rfl _ _ rfl w2.heap.size _ [(x, y, z)] rfl O4.out [] a 0 0 rfl (ArgS.nothing _ _ _) (by simp) w2 B4.out z4 ?_; intro v5 w5 o5 b5; go_frame))
  go_ret
  exact ⟨_, rfl, o5, b5⟩
/-- edenref5.paint at a list of one's own. -/
theorem refPaint_any (x y z : Int) (xs : List SpotT) (a : Option Addr) (n c : Nat) (w : World) (hP : ArgS w xs a n c) (ha : ∀ ad, a = some ad → ∃ g, ad = ⟨g, 0, none⟩) (hn : n ≤ 4900000000000) (hc : n ≤ c) (cm : c ≤ 9223372036854775807) (h0 : a = none → c = 0) :
    Calls Tryd.prog 75 #[.slice a n c, .int .i64 x, .int .i64 y, .int .i64 z] w (PaintP (paintL x y z xs) w) := by
  by_cases cz : c = 0
  · subst cz
    obtain rfl : n = 0 := by omega
    obtain rfl : xs = [] := List.eq_nil_of_length_eq_zero hP.len.symm
    rw [paint_nil]
    by_cases hz : 0 < z
    · rw [if_pos hz]; exact refPaint_z1 x y z a w hz
    · rw [if_neg hz]; exact refPaint_z0 x y z a w hz
  · cases a with
    | none => exact absurd (h0 rfl) cz
    | some ad =>
      obtain ⟨g, rfl⟩ := ha ad rfl
      have HF := refFind_any x y xs (some ⟨g, 0, none⟩) n c w hP
      have fl := find_le x y xs
      have hl := hP.len
      unfold paintL
      revert HF fl
      generalize findL x y xs = f
      obtain ⟨i, has⟩ := f
      intro HF fl
      simp only at HF fl ⊢
      cases has
      · simp only [Bool.false_eq_true, if_false, Nat.add_zero]
        by_cases cj : c = i
        · subst cj
          obtain rfl : n = c := by omega
          by_cases hz : 0 < z
          · rw [if_pos hz]; exact refPaint_3 x y z xs g n w hP HF hn cm cz hz
          · rw [if_neg hz]; exact refPaint_1 x y z xs g n w hP HF hn cm cz hz
        · by_cases hz : 0 < z
          · rw [if_pos hz]; exact refPaint_2 x y z xs g n c i w hP HF (by omega) hn hc cm cz hz cj
          · rw [if_neg hz]; exact refPaint_0 x y z xs g n c i w hP HF (by omega) hn hc cm cz hz cj
      · simp only [if_true]
        have il := fl.2 rfl
        by_cases cj : c = i + 1
        · subst cj
          obtain rfl : n = i + 1 := by omega
          by_cases hz : 0 < z
          · rw [if_pos hz]; exact refPaint_7 x y z xs g i w hP HF hn cm cz hz
          · rw [if_neg hz]; exact refPaint_5 x y z xs g i w hP HF hn cm cz hz
        · by_cases hz : 0 < z
          · rw [if_pos hz]; exact refPaint_6 x y z xs g n c i w hP HF (by omega) hn hc cm cz hz cj
          · rw [if_neg hz]; exact refPaint_4 x y z xs g n c i w hP HF (by omega) hn hc cm cz hz cj
end Go.Proofs.YtdkomlgkkepioaaDoor

