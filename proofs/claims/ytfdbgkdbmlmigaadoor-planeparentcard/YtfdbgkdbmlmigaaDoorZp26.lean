/-
  What the last text of this claim leans on, part 26: Ps5, LawPp.
-/
import Derived.Test.YtfdbgkdbmlmigaaDoorZp25
import Derived.Test.YtfdbgkdbmlmigaaDoorZp9
import Derived.Test.YtfdbgkdbmlmigaaDoorZp10
import Derived.Test.YtfdbgkdbmlmigaaDoorZp21
namespace Go.Proofs.YtfdbgkdbmlmigaaDoor
open Go.RowKit
set_option linter.unusedVariables false
theorem info_intS : (Tryd.prog.info? 3).map (fun i => (i.zero, i.size, i.bytes)) = some (some (.int .i64 0), 1, 8) := by kernel_rfl
theorem info_rowS : (Tryd.prog.info? 54).map (fun i => (i.zero, i.size, i.bytes)) = some (some (.slice none 0 0), 1, 24) := by kernel_rfl
theorem made_allS (z : Value) (n : Nat) : madeCells #[z] n = arrF n (fun _ => z) := by
  apply Array.ext'
  rw [toList_madeCells_one]
  unfold arrF
  simp [List.map_const']
theorem mk_intS (n : Nat) (hn : n ≤ 65536) (w : World) : (Instr.makeSlice 22 (.int .i64 (n : Int)) (.int .i64 (n : Int))).run Tryd.prog w = .ok (.slice (some ⟨w.heap.size, 0, none⟩) n n) (w.alloc (.cells (arrF n fun _ => .int .i64 0) 3)) := by
  rw [← made_allS]
  exact run_make_row' (P := Tryd.prog) 22 3 (.int .i64 0) 8 Tryd.underlying22 info_intS rfl .i64 .i64 n (by omega) (by omega) w
theorem mk_rowS (n : Nat) (hn : n ≤ 65536) (w : World) : (Instr.makeSlice 40 (.int .i64 (n : Int)) (.int .i64 (n : Int))).run Tryd.prog w = .ok (.slice (some ⟨w.heap.size, 0, none⟩) n n) (w.alloc (.cells (arrF n fun _ => .slice none 0 0) 54)) := by
  rw [← made_allS]
  exact run_make_row' (P := Tryd.prog) 40 54 (.slice none 0 0) 24 Tryd.underlying40 info_rowS rfl .i64 .i64 n (by omega) (by omega) w
def ParR (born stay W H : Nat) (xs : List Int) (w : World) (e : Ending) (w' : World) : Prop :=
  ((∃ g' q n, e = .returned (.tuple #[.agg #[.int .i64 ((W + 2 : Nat) : Int), .int .i64 ((H + 2 : Nat) : Int), .slice (some ⟨q, 0, none⟩) n n], .bool true]) ∧ w.heap.size ≤ q ∧ ArgP w' (clG (topC W H) g') (some ⟨q, 0, none⟩) n n ∧ BestB (topC W H) (okC born stay W xs) (fun _ => 0) 0 g') ∨
   (e = .returned (.tuple #[.agg #[.int .i64 0, .int .i64 0, .slice none 0 0], .bool false]) ∧ NoneB (topC W H) (okC born stay W xs) (fun _ => 0) 0)) ∧ Below w.heap.size w w'
theorem argQ_of {V : World} {qb N : Nat} {g : Nat → Nat} (h : V.heap[qb]? = some (.cells (arrF N fun i => .int .i64 (g i : Int)) 3 (0, 0))) (hN : N ≤ 49) : ArgP V (clG N g) (some ⟨qb, 0, none⟩) N N :=
  ⟨(clG_len ..).symm, by unfold maxLen; omega, fun k hk => ⟨qb, 0, rfl, lt_of_block h, by
    rw [clG_len] at hk
    rw [Nat.zero_add, cell_of_row V _ k _ _ _ h, arrF_get _ hk]
    simp [clG]⟩⟩
theorem heap_atS (w : World) (o : Obj) (k : Nat) (h : k = w.heap.size) : (w.alloc o).heap[k]? = some o := by subst h; exact heap_alloc_new w o
theorem same_at {T : TypeId} (w : World) (g i : Nat) (v : Value) (cs : Array Value) (h : w.heap[g]? = some (.cells cs T (0, 0))) : (w.setCell ⟨g, i, none⟩ v).heap[g]? = some (.cells (cs.setIfInBounds i v) T (0, 0)) := heap_setCell_same _ _ _ _ _ _ h
set_option maxRecDepth 100000 in
set_option maxHeartbeats 12800000 in
theorem refParent_any (k st ra : Int) (born stay : Nat) (ta : Option Addr) (tn tc : Nat) (s : ByteArray) (W H : Nat) (xs : List Int) (a : Option Addr) (n c : Nat) (w : World) (hP : ArgP w xs a n c) (hn : xs.length = W * H) (W5 : W ≤ 5) (H5 : H ≤ 5) (b5 : born ≤ 511) (s5 : stay ≤ 511) :
    Calls Tryd.prog 5 #[.agg #[.int .i64 k, .int .i64 (born : Int), .int .i64 (stay : Int), .int .i64 st, .int .i64 ra, .slice ta tn tc, .string s], .agg #[.int .i64 (W : Int), .int .i64 (H : Int), .slice a n c]] w (ParR born stay W H xs w) := by
  obtain ⟨w1, hw1⟩ : ∃ w1, ((w.alloc (.cells #[.int .i64 k, .int .i64 (born : Int), .int .i64 (stay : Int), .int .i64 st, .int .i64 ra, .slice ta tn tc, .string s] 24)).alloc (.cells #[.int .i64 (W : Int), .int .i64 (H : Int), .slice a n c] 26)).alloc (.cells #[.int .i64 0, .int .i64 0, .slice none 0 0] 26) = w1 := ⟨_, rfl⟩
  have R0 := hide' (show w1.heap[w.heap.size]? = some (.cells #[.int .i64 k, .int .i64 (born : Int), .int .i64 (stay : Int), .int .i64 st, .int .i64 ra, .slice ta tn tc, .string s] 24 (0, 0)) by rw [← hw1]; exact (heap_alloc_old _ _ (by simp; try omega)).trans ((heap_alloc_old (w.alloc _) _ (by simp)).trans (heap_alloc_new w _)))
  have R1 := hide' (show w1.heap[w.heap.size + 1]? = some (.cells #[.int .i64 (W : Int), .int .i64 (H : Int), .slice a n c] 26 (0, 0)) by rw [← hw1]; exact (heap_alloc_old _ _ (by simp; try omega)).trans (heap_alloc2_new w _ _))
  have R2 := hide' (show w1.heap[w.heap.size + 2]? = some (.cells #[.int .i64 0, .int .i64 0, .slice none 0 0] 26 (0, 0)) by
    rw [← hw1]
    have := heap_alloc_new ((w.alloc (.cells #[.int .i64 k, .int .i64 (born : Int), .int .i64 (stay : Int), .int .i64 st, .int .i64 ra, .slice ta tn tc, .string s] 24)).alloc (.cells #[.int .i64 (W : Int), .int .i64 (H : Int), .slice a n c] 26)) (.cells #[.int .i64 0, .int .i64 0, .slice none 0 0] 26)
    simpa using this)
  have B1 := hide' (show Below w.heap.size w w1 by rw [← hw1]; repeat (first | exact Below.refl _ _ | refine Below.alloc ?_ (by simp; try omega) _))
  have S1 := hide' (show w1.heap.size = w.heap.size + 3 by rw [← hw1]; simp)
  have HW1 := hide' hw1
  obtain ⟨W2, hW2⟩ : ∃ W2, W + 2 = W2 := ⟨_, rfl⟩
  obtain ⟨H2, hH2⟩ : ∃ H2, H + 2 = H2 := ⟨_, rfl⟩
  obtain ⟨N, hN⟩ : ∃ N, W2 * H2 = N := ⟨_, rfl⟩
  have eW : (W : Int) + 2 = (W2 : Int) := by omega
  have eH : (H : Int) + 2 = (H2 : Int) := by omega
  have eN : (W2 : Int) * (H2 : Int) = (N : Int) := by rw [← hN]; simp
  have N49 : N ≤ 49 := by rw [← hN]; exact Nat.mul_le_mul (show W2 ≤ 7 by omega) (show H2 ≤ 7 by omega)
  have mi := mk_intS N (by omega)
  have mr := mk_rowS N (by omega)
  have HD := hide' (And.intro hW2 (And.intro hH2 hN))
  clear hw1 hW2 hH2 hN
  go_enter Tryd.func5, Tryd.ntmps5
  go_upto_region 1 with fail
  rw [HW1.out]
  have r0 := cell_of_row w1 _ 0 _ _ _ R0.out
  have r1 := cell_of_row w1 _ 1 _ _ _ R0.out
  have r2 := cell_of_row w1 _ 2 _ _ _ R0.out
  have r3 := cell_of_row w1 _ 3 _ _ _ R0.out
  have r4 := cell_of_row w1 _ 4 _ _ _ R0.out
  have r5 := cell_of_row w1 _ 5 _ _ _ R0.out
  have r6 := cell_of_row w1 _ 6 _ _ _ R0.out
  have p0 := cell_of_row w1 _ 0 _ _ _ R1.out
  have p1 := cell_of_row w1 _ 1 _ _ _ R1.out
  have p2 := cell_of_row w1 _ 2 _ _ _ R1.out
  simp at r0 r1 r2 r3 r4 r5 r6 p0 p1 p2
  obtain ⟨w2, hw2⟩ : ∃ w2, w1.alloc (.cells #[.int .i64 k, .int .i64 (born : Int), .int .i64 (stay : Int), .int .i64 st, .int .i64 ra, .slice ta tn tc, .string s, .int .i64 (W : Int), .int .i64 (H : Int), .slice a n c, .int .i64 0, .int .i64 0, .slice none 0 0, .slice none 0 0, .int .i64 (W2 : Int)] 42) = w2 := ⟨_, rfl⟩
  obtain ⟨fb, hfb⟩ : ∃ fb, w1.heap.size = fb := ⟨_, rfl⟩
  have F2 := hide' (show w2.heap[fb]? = some (.cells #[.int .i64 k, .int .i64 (born : Int), .int .i64 (stay : Int), .int .i64 st, .int .i64 ra, .slice ta tn tc, .string s, .int .i64 (W : Int), .int .i64 (H : Int), .slice a n c, .int .i64 0, .int .i64 0, .slice none 0 0, .slice none 0 0, .int .i64 (W2 : Int)] 42 (0, 0)) by rw [← hw2, ← hfb]; exact heap_alloc_new _ _)
  have P2 := hide' (show w2.heap[w.heap.size + 1]? = some (.cells #[.int .i64 (W : Int), .int .i64 (H : Int), .slice a n c] 26 (0, 0)) by rw [← hw2]; exact (heap_alloc_old _ _ (lt_of_block R1.out)).trans R1.out)
  have HW2 := hide' hw2
  have HFB := hide' hfb
  clear hw2 hfb
  go_upto_region 2 with fail
  rw [HW2.out, HFB.out]
  clear r0 r1 r2 r3 r4 r5 r6 p0 p1 p2
  have p0 := cell_of_row w2 _ 0 _ _ _ P2.out
  have p1 := cell_of_row w2 _ 1 _ _ _ P2.out
  have x10 := cell_of_row w2 _ 10 _ _ _ F2.out
  have x11 := cell_of_row w2 _ 11 _ _ _ F2.out
  have x12 := cell_of_row w2 _ 12 _ _ _ F2.out
  have x13 := cell_of_row w2 _ 13 _ _ _ F2.out
  have y10 := frozen_of_row w2 _ 10 _ _ F2.out
  have y11 := frozen_of_row w2 _ 11 _ _ F2.out
  have y12 := frozen_of_row w2 _ 12 _ _ F2.out
  have y13 := frozen_of_row w2 _ 13 _ _ F2.out
  simp at p0 p1 x10 x11 x12 x13
  obtain ⟨w3, hw3⟩ : ∃ w3, ((w2.setCell ⟨fb, 10, none⟩ (.int .i64 (W2 : Int))).setCell ⟨fb, 11, none⟩ (.int .i64 (H2 : Int))).setCell ⟨fb, 12, none⟩ (.slice none 0 0) = w3 := ⟨_, rfl⟩
  have F3 := hide' (show w3.heap[fb]? = some (.cells #[.int .i64 k, .int .i64 (born : Int), .int .i64 (stay : Int), .int .i64 st, .int .i64 ra, .slice ta tn tc, .string s, .int .i64 (W : Int), .int .i64 (H : Int), .slice a n c, .int .i64 (W2 : Int), .int .i64 (H2 : Int), .slice none 0 0, .slice none 0 0, .int .i64 (W2 : Int)] 42 (0, 0)) by
    have e1 := same_at w2 fb 10 (.int .i64 (W2 : Int)) _ F2.out
    have e2 := same_at _ fb 11 (.int .i64 (H2 : Int)) _ e1
    have e3 := same_at _ fb 12 (.slice none 0 0) _ e2
    rw [← hw3]; exact e3.trans rfl)
  have B3 := hide' (show Below fb w1 w3 by
    rw [← hw3, ← HW2.out]
    exact ((((Below.refl _ _).alloc (Nat.le_of_eq HFB.out.symm) _).setCell (by simp) _).setCell (by simp) _).setCell (by simp) _)
  have HW3 := hide' hw3
  clear hw3
  go_upto_region 3 with fail
  rw [HW3.out]
  clear p0 p1 x10 x11 x12 x13 y10 y11 y12 y13
  have x10 := cell_of_row w3 _ 10 _ _ _ F3.out
  have x11 := cell_of_row w3 _ 11 _ _ _ F3.out
  simp at x10 x11
  have wN : IntKind.i64.wrap ((W2 : Int) * (H2 : Int)) = (N : Int) := by rw [eN]; exact wrap_nearS (by omega) (by omega)
  have fl := lt_of_block F3.out
  have a12 : ∀ o, (w3.alloc o).cell? ⟨fb, 12, none⟩ = some (.slice none 0 0) := fun o => cell_of_row _ _ 12 _ _ _ ((heap_alloc_old w3 o fl).trans F3.out)
  have z12 : ∀ o, (w3.alloc o).frozen? ⟨fb, 12, none⟩ = false := fun o => frozen_of_row _ _ 12 _ _ ((heap_alloc_old w3 o fl).trans F3.out)
  clear eN
  go_region
  obtain ⟨qb, hqb⟩ : ∃ qb, w3.heap.size = qb := ⟨_, rfl⟩
  rw [hqb]
  obtain ⟨w4, hw4⟩ : ∃ w4, ((w3.setCell ⟨fb, 12, none⟩ (.slice (some ⟨qb, 0, none⟩) N N)).alloc (.cells (arrF N fun _ => .int .i64 0) 3)).drew = w4 := ⟨_, rfl⟩
  have F4 := hide' (show w4.heap[fb]? = some (.cells #[.int .i64 k, .int .i64 (born : Int), .int .i64 (stay : Int), .int .i64 st, .int .i64 ra, .slice ta tn tc, .string s, .int .i64 (W : Int), .int .i64 (H : Int), .slice a n c, .int .i64 (W2 : Int), .int .i64 (H2 : Int), .slice (some ⟨qb, 0, none⟩) N N, .slice none 0 0, .int .i64 (W2 : Int)] 42 (0, 0)) by
    rw [← hw4]
    exact (heap_alloc_old _ _ (by simpa using fl)).trans ((same_at _ _ _ _ _ F3.out).trans rfl))
  have Q4 := hide' (show w4.heap[qb]? = some (.cells (arrF N fun _ => .int .i64 0) 3 (0, 0)) by
    rw [← hw4, ← hqb]
    exact heap_atS _ _ _ (by simp))
  have B4 := hide' (show Below fb w1 w4 by
    rw [← hw4]
    exact ((B3.out.setCell (by simp) _).alloc (by simp; omega) _).drew)
  have S4 := hide' (show w4.heap.size = qb + 1 ∧ fb < qb by rw [← hw4, ← hqb]; exact ⟨by simp [World.drew], fl⟩)
  rw [hw4]
  clear hw4 hqb x10 x11 wN a12 z12 fl
  have x12 := cell_of_row w4 _ 12 _ _ _ F4.out
  simp at x12
  have fl := lt_of_block F4.out
  have a13 : ∀ o, (w4.alloc o).cell? ⟨fb, 13, none⟩ = some (.slice none 0 0) := fun o => cell_of_row _ _ 13 _ _ _ ((heap_alloc_old w4 o fl).trans F4.out)
  have z13 : ∀ o, (w4.alloc o).frozen? ⟨fb, 13, none⟩ = false := fun o => frozen_of_row _ _ 13 _ _ ((heap_alloc_old w4 o fl).trans F4.out)
  go_upto_region 5 with fail
  obtain ⟨bb, hbb⟩ : ∃ bb, w4.heap.size = bb := ⟨_, rfl⟩
  rw [hbb]
  obtain ⟨w5, hw5⟩ : ∃ w5, (w4.setCell ⟨fb, 13, none⟩ (.slice (some ⟨bb, 0, none⟩) N N)).alloc (.cells (arrF N fun _ => .slice none 0 0) 54) = w5 := ⟨_, rfl⟩
  rw [hw5]
  have FS := hide' (show FiS ⟨k, st, ra, born, stay, ta, tn, tc, s, W, H, W2, H2, a, n, c, xs, fb, qb, bb, N, fb, w1⟩ w5 (fun _ => 0) (fun _ => .slice none 0 0) (fun _ => 0) from by
    have sz := S4.out
    have ql := lt_of_block Q4.out
    refine ⟨?_, ?_, ?_, fun _ _ => Nat.zero_le _, fun _ _ => Or.inl rfl, fun _ _ _ _ h => absurd rfl h, ?_, ⟨Nat.le_refl _, sz.2, by show qb < bb; omega⟩⟩
    · rw [← hw5]; exact (heap_alloc_old _ _ (by simpa using fl)).trans ((same_at _ _ _ _ _ F4.out).trans rfl)
    · rw [← hw5]; exact (heap_alloc_old _ _ (by simpa using ql)).trans ((Below.heap_setCell _ _ _ _ (by show qb ≠ fb; omega)).trans Q4.out)
    · rw [← hw5]; exact heap_atS _ _ _ (by simpa using hbb.symm)
    · rw [← hw5]; exact (B4.out.setCell (by simp) _).alloc (by simp; omega) _)
  have OK := hide' (show FiOk ⟨k, st, ra, born, stay, ta, tn, tc, s, W, H, W2, H2, a, n, c, xs, fb, qb, bb, N, fb, w1⟩ from ⟨HD.out.1.symm, HD.out.2.1.symm, W5, H5, HD.out.2.2.symm, b5, s5, hn, hP.below B1.out, Nat.le_of_eq HFB.out⟩)
  have ST := hide' (show Calls Tryd.prog 11 #[.pointer (some ⟨fb, 0, none⟩), .int .i64 0] w5 (SetOut ⟨k, st, ra, born, stay, ta, tn, tc, s, W, H, W2, H2, a, n, c, xs, fb, qb, bb, N, fb, w1⟩ 0 (fun _ => 0) (fun _ => .slice none 0 0) (fun _ => 0)) from set_any _ OK.out N 0 (by show 0 + N = N; omega) w5 _ _ _ FS.out)
  have TC := hide' (show N = topC W H ∧ (FiC.ok ⟨k, st, ra, born, stay, ta, tn, tc, s, W, H, W2, H2, a, n, c, xs, fb, qb, bb, N, fb, w1⟩) = okC born stay W xs from by
    obtain ⟨d1, d2, d3⟩ := HD.out
    subst d1 d2
    exact ⟨by rw [← d3]; unfold topC; exact Nat.mul_comm _ _, rfl⟩)
  clear x12 a13 z13 hw5 hbb fl hP hn
  go_wp2_with fail
  refine ST.out.mono ?_
  rintro e w6 ⟨g', bv', tb', F6, -, ⟨rfl, hb⟩ | ⟨rfl, -, hn⟩⟩
  · have Q6 := hide' F6.cel
    have HB := hide' hb
    have szs := S4.out
    have s1 := S1.out
    have hf := HFB.out
    have Z6 := hide' ((F6.bel.block _ (show w.heap.size + 2 < fb by omega)).trans R2.out)
    have i0 := cell_of_row w6 _ 0 _ _ _ Z6.out
    have i1 := cell_of_row w6 _ 1 _ _ _ Z6.out
    have i2 := cell_of_row w6 _ 2 _ _ _ Z6.out
    have j0 := frozen_of_row w6 _ 0 _ _ Z6.out
    have j1 := frozen_of_row w6 _ 1 _ _ Z6.out
    have j2 := frozen_of_row w6 _ 2 _ _ Z6.out
    have f10 := cell_of_row w6 _ 10 _ _ _ F6.fin
    have f11 := cell_of_row w6 _ 11 _ _ _ F6.fin
    have f12 := cell_of_row w6 _ 12 _ _ _ F6.fin
    simp [FiC.vals] at i0 i1 i2 f10 f11 f12
    have B6 := hide' (show Below w.heap.size w w6 from B1.out.trans (F6.bel.mono (by show w1.heap.size ≤ fb; omega) |>.mono B1.out.size))
    clear F6 hb
    go_wp2
    refine bodyPost_ret (v := .tuple #[.agg #[.int .i64 (W2 : Int), .int .i64 (H2 : Int), .slice (some ⟨qb, 0, none⟩) N N], .bool true]) (by simp [results, Tryd.results5, go_sem, i0, i1, i2]) rfl ?_
    refine ⟨Or.inl ⟨g', qb, N, by rw [HD.out.1, HD.out.2.1], by omega, ?_, ?_⟩, ?_⟩
    · rw [← TC.out.1]
      refine argQ_of ?_ N49
      repeat (first | exact Q6.out | refine (Below.heap_setCell _ _ _ _ (by show qb ≠ w.heap.size + 2; omega)).trans ?_)
    · have := HB.out
      rw [TC.out.2] at this
      rw [← TC.out.1]
      exact this
    · repeat (first | exact B6.out | refine Below.setCell ?_ (by show w.heap.size ≤ w.heap.size + 2; omega) _)
  · have HN := hide' hn
    have szs := S4.out
    have s1 := S1.out
    have hf := HFB.out
    have Z6 := hide' ((F6.bel.block _ (show w.heap.size + 2 < fb by omega)).trans R2.out)
    have i0 := cell_of_row w6 _ 0 _ _ _ Z6.out
    have i1 := cell_of_row w6 _ 1 _ _ _ Z6.out
    have i2 := cell_of_row w6 _ 2 _ _ _ Z6.out
    have j0 := frozen_of_row w6 _ 0 _ _ Z6.out
    have j1 := frozen_of_row w6 _ 1 _ _ Z6.out
    have j2 := frozen_of_row w6 _ 2 _ _ Z6.out
    have f10 := cell_of_row w6 _ 10 _ _ _ F6.fin
    have f11 := cell_of_row w6 _ 11 _ _ _ F6.fin
    have f12 := cell_of_row w6 _ 12 _ _ _ F6.fin
    simp [FiC.vals] at i0 i1 i2 f10 f11 f12
    have B6 := hide' (show Below w.heap.size w w6 from B1.out.trans (F6.bel.mono (by show w1.heap.size ≤ fb; omega) |>.mono B1.out.size))
    clear F6 hn
    go_wp2
    refine bodyPost_ret (v := .tuple #[.agg #[.int .i64 0, .int .i64 0, .slice none 0 0], .bool false]) (by simp [results, Tryd.results5, go_sem, i0, i1, i2]) rfl ?_
    refine ⟨Or.inr ⟨rfl, ?_⟩, ?_⟩
    · have := HN.out
      rw [TC.out.2] at this
      rw [← TC.out.1]
      exact this
    · repeat (first | exact B6.out | refine Below.setCell ?_ (by show w.heap.size ≤ w.heap.size + 2; omega) _)
end Go.Proofs.YtfdbgkdbmlmigaaDoor

namespace Go.Proofs.YtfdbgkdbmlmigaaDoor
open Go.RowKit
set_option linter.unusedVariables false
theorem plaE_anyP (o : Out) (W H : Int) (xs : List Int) : ∃ f, plaE o W H xs f := by
  by_cases g : Good o
  · by_cases s : shapeF W H xs = 0
    · by_cases k : o.kind = 1
      · exact ⟨0, Or.inr (Or.inr (Or.inr ⟨g, s, k, rfl⟩))⟩
      · exact ⟨1, Or.inr (Or.inr (Or.inl ⟨g, s, k, rfl⟩))⟩
    · exact ⟨_, Or.inr (Or.inl ⟨g, s, rfl⟩)⟩
  · exact ⟨1, Or.inl ⟨g, rfl⟩⟩
theorem torBad_pla {f : Nat} {V : World} {e : Ending} {w' : World} (h : TorBad f V e w') : PlaP 0 0 f [] V e w' := ⟨_, h.1, tab_nil _, h.2⟩
theorem bitsL_is {W N : Nat} {rs : List Nat} {g : Nat → Nat} (h : ∀ i, i < N → gR W rs i = g i) : bitsL W rs N = clG N g := by
  unfold bitsL clG
  exact List.map_congr_left fun i hi => by rw [h i (List.mem_range.1 hi)]
theorem clG_same {N : Nat} {g h : Nat → Nat} (e : ∀ i, i < N → g i = h i) : clG N g = clG N h := by
  unfold clG
  exact List.map_congr_left fun i hi => by rw [e i (List.mem_range.1 hi)]
theorem own_tabP {w : World} {base : Nat} {v : Value} {xs : List Int} {n : Nat} (hn : n = xs.length) (h : w.ownsRow base 3 1 v n (xs.map (Value.int .i64))) : Tab w v xs := by
  subst hn; exact ownsRow_tab h
theorem argP_tabP {w : World} {q n : Nat} {xs : List Int} (h : ArgP w xs (some ⟨q, 0, none⟩) n n) (hx : xs ≠ []) : Tab w (.slice (some ⟨q, 0, none⟩) n n) xs := by
  have l := h.len
  subst l
  have p : 0 < xs.length := List.length_pos_iff.2 hx
  refine Or.inr ⟨q, _, rfl, ?_, fun k hk => ?_⟩
  · obtain ⟨g, off, e, hg, -⟩ := h.cells 0 p
    cases e; exact hg
  · obtain ⟨g, off, e, hg, hc⟩ := h.cells k hk
    cases e; simpa using hc
theorem law_parent_all (o : Out) (ta : Option Addr) (tn tc : Nat) (W H : Int) (xs : List Int) (a : Option Addr) (n c : Nat) (w : World) (hR : ArgR w o ta tn tc) (hP : ArgP w xs a n c) (hcap : n ≤ c) (hcm : c ≤ maxLen) (hg : Handle w) :
    Calls Tryd.prog 3 #[.agg #[.int .i64 o.kind, .int .i64 o.born, .int .i64 o.stay, .int .i64 o.states, .int .i64 o.radius, .slice ta tn tc, .string o.turns], .agg #[.int .i64 W, .int .i64 H, .slice a n c]] w fun e w' => e = .returned (.bool true) ∧ Below w.heap.size w w' := by
  obtain ⟨f, hf⟩ := plaE_anyP o W H xs
  by_cases f0 : f = 0
  · by_cases h5 : 5 < W
    · exact law_pp_wideW o ta tn tc W H xs a n c f w hR hP hg hf f0 h5 (fun V hV => (planeParent_wide o ta tn tc W H xs a n c f V (hR.below hV) (hP.below hV) hf f0 (Or.inl h5)).mono fun e w' h => torBad_pla h)
    · by_cases g5 : 5 < H
      · exact law_pp_wideH o ta tn tc W H xs a n c f w hR hP hg hf f0 h5 g5 (fun V hV => (planeParent_wide o ta tn tc W H xs a n c f V (hR.below hV) (hP.below hV) hf f0 (Or.inr g5)).mono fun e w' h => torBad_pla h)
      · subst f0
        obtain ⟨born, stay, hb, hs, b5, s5, hk, hsh⟩ := pla_good hf
        obtain ⟨Wn, Hn, rfl, rfl, hW, hH, hn, hx⟩ := shape_sides hsh
        have W5 : Wn ≤ 5 := by omega
        have H5 : Hn ≤ 5 := by omega
        have ok := fun V (hV : Below w.heap.size w V) => planeParent_ok o ta tn tc Wn Hn xs a n c born stay V (hR.below hV) (hP.below hV) hcap hcm hf hb hs b5 s5 hn hx W5 H5
        have rk := fun V (hV : Below w.heap.size w V) => refParent_any o.kind o.states o.radius born stay ta tn tc o.turns Wn Hn xs a n c V (hP.below hV) hn W5 H5 b5 s5
        rw [← hb, ← hs] at rk
        by_cases hB : ∃ g0, BestB (topC Wn Hn) (okC born stay Wn xs) (fun _ => 0) 0 g0
        · obtain ⟨g0, hB⟩ := hB
          have t49 : topC Wn Hn ≤ 7 * 7 := Nat.mul_le_mul (by omega) (by omega)
          have t0 : 0 < topC Wn Hn := Nat.mul_pos (by omega) (by omega)
          refine law_pp_yes o ta tn tc (Wn : Int) (Hn : Int) xs a n c 0 w hR hP hg hf rfl h5 g5 ((Wn + 2 : Nat) : Int) ((Hn + 2 : Nat) : Int) (clG (topC Wn Hn) g0) (by rw [clG_len]; unfold maxLen; omega) (fun V hV => (rk V hV).mono ?_) (fun V hV => (ok V hV).mono ?_)
          · rintro e w' ⟨⟨g', q, m, rfl, hq, ap, hb'⟩ | ⟨_, hno⟩, b⟩
            · rw [clG_same (best_only hb' hB)] at ap
              refine ⟨_, rfl, argP_tabP ap ?_, ?_, b⟩
              · intro e
                have := clG_len (topC Wn Hn) g0
                rw [e] at this
                simp at this; omega
              · intro g k cap e
                injection e with e1 e2 e3
                injection e1 with e1
                injection e1 with e1
                omega
            · exact absurd hB.1 (hno _)
          · rintro e w' ⟨⟨rs, ca, cq, hl, rfl, ho, hb'⟩ | ⟨_, hno⟩, b⟩
            · have ln : (bitsL (Wn + 2) rs (topC Wn Hn)).length = topC Wn Hn := by simp [bitsL]
              have t := own_tabP ln.symm ho
              rw [bitsL_is (best_only hb' hB)] at t
              exact ⟨_, rfl, t, b⟩
            · exact absurd hB.1 (hno _)
        · refine law_pp_no o ta tn tc (Wn : Int) (Hn : Int) xs a n c 0 w hR hP hg hf rfl h5 g5 0 0 [] (by unfold maxLen; simp) (fun V hV => (rk V hV).mono ?_) (fun V hV => (ok V hV).mono ?_)
          · rintro e w' ⟨⟨g', q, m, rfl, hq, ap, hb'⟩ | ⟨rfl, hno⟩, b⟩
            · exact absurd ⟨_, hb'⟩ hB
            · exact ⟨_, rfl, tab_nil _, Fresh.nil _, b⟩
          · rintro e w' ⟨⟨rs, ca, cq, hl, rfl, ho, hb'⟩ | ⟨rfl, hno⟩, b⟩
            · exact absurd ⟨_, hb'⟩ hB
            · exact ⟨_, rfl, tab_nil _, b⟩
  · exact law_pp_bad o ta tn tc W H xs a n c f w hR hP hg hf f0 (fun V hV => (planeParent_bad o ta tn tc W H xs a n c f V (hR.below hV) (hP.below hV) hf f0).mono fun e w' h => torBad_pla h)
end Go.Proofs.YtfdbgkdbmlmigaaDoor

