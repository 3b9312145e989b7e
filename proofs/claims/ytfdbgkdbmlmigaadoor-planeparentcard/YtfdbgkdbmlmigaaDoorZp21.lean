/-
  What the last text of this claim leans on, part 21: Pq2.
-/
import Derived.Test.YtfdbgkdbmlmigaaDoorZp20
namespace Go.Proofs.YtfdbgkdbmlmigaaDoor
open Go.RowKit
set_option linter.unusedVariables false
set_option maxRecDepth 100000 in
set_option maxHeartbeats 6400000 in
theorem planeParent_bad (o : Out) (ta : Option Addr) (tn tc : Nat) (W H : Int) (xs : List Int) (a : Option Addr) (n c : Nat) (f : Nat) (w : World) (hR : ArgR w o ta tn tc) (hP : ArgP w xs a n c) (hf : plaE o W H xs f) (f0 : f ≠ 0) :
    Calls Tryd.prog 6 #[.agg #[.int .i64 o.kind, .int .i64 o.born, .int .i64 o.stay, .int .i64 o.states, .int .i64 o.radius, .slice ta tn tc, .string o.turns], .agg #[.int .i64 W, .int .i64 H, .slice a n c]] w (TorBad f w) := by
  obtain ⟨w1, hw1⟩ : ∃ w1, ((w.alloc (.cells #[.int .i64 o.kind, .int .i64 o.born, .int .i64 o.stay, .int .i64 o.states, .int .i64 o.radius, .slice ta tn tc, .string o.turns] 24)).alloc (.cells #[.int .i64 W, .int .i64 H, .slice a n c] 26)).alloc (.cells #[.int .i64 0, .int .i64 0, .slice none 0 0] 26) = w1 := ⟨_, rfl⟩
  have B1 := hide' (show Below w.heap.size w w1 by rw [← hw1]; repeat (first | exact Below.refl _ _ | refine Below.alloc ?_ (by simp; try omega) _))
  have RR := hide' (show w1.heap[w.heap.size]? = some (.cells #[.int .i64 o.kind, .int .i64 o.born, .int .i64 o.stay, .int .i64 o.states, .int .i64 o.radius, .slice ta tn tc, .string o.turns] 24 (0, 0)) by rw [← hw1]; exact (heap_alloc_old _ _ (by simp; try omega)).trans ((heap_alloc_old (w.alloc _) _ (by simp)).trans (heap_alloc_new w _)))
  have RP := hide' (show w1.heap[w.heap.size + 1]? = some (.cells #[.int .i64 W, .int .i64 H, .slice a n c] 26 (0, 0)) by rw [← hw1]; exact (heap_alloc_old _ _ (by simp; try omega)).trans (heap_alloc2_new w _ _))
  have RZ := hide' (show w1.heap[w.heap.size + 2]? = some (.cells #[.int .i64 0, .int .i64 0, .slice none 0 0] 26 (0, 0)) by
    rw [← hw1]
    have := heap_alloc_new ((w.alloc (.cells #[.int .i64 o.kind, .int .i64 o.born, .int .i64 o.stay, .int .i64 o.states, .int .i64 o.radius, .slice ta tn tc, .string o.turns] 24)).alloc (.cells #[.int .i64 W, .int .i64 H, .slice a n c] 26)) (.cells #[.int .i64 0, .int .i64 0, .slice none 0 0] 26)
    simpa using this)
  have CK := hide' (planeCheck_any o ta tn tc W H xs a n c w1 (hR.below B1.out) (hP.below B1.out))
  have HPL := hide' (fun f' (h : plaE o W H xs f') => plaE_only h hf)
  have HW1 := hide' hw1
  obtain ⟨kd, hkd⟩ : ∃ x, o.kind = x := ⟨_, rfl⟩
  obtain ⟨bo, hbo⟩ : ∃ x, o.born = x := ⟨_, rfl⟩
  obtain ⟨sy, hsy⟩ : ∃ x, o.stay = x := ⟨_, rfl⟩
  rw [hkd, hbo, hsy] at CK RR HW1 ⊢
  clear hR hP hf hw1 hkd hbo hsy
  go_enter Tryd.func6, Tryd.ntmps6
  go_upto_region 1 with fail
  rw [HW1.out]
  have r0 := cell_of_row w1 _ 0 _ _ _ RR.out
  have r1 := cell_of_row w1 _ 1 _ _ _ RR.out
  have r2 := cell_of_row w1 _ 2 _ _ _ RR.out
  have r3 := cell_of_row w1 _ 3 _ _ _ RR.out
  have r4 := cell_of_row w1 _ 4 _ _ _ RR.out
  have r5 := cell_of_row w1 _ 5 _ _ _ RR.out
  have r6 := cell_of_row w1 _ 6 _ _ _ RR.out
  have p0 := cell_of_row w1 _ 0 _ _ _ RP.out
  have p1 := cell_of_row w1 _ 1 _ _ _ RP.out
  have p2 := cell_of_row w1 _ 2 _ _ _ RP.out
  simp at r0 r1 r2 r3 r4 r5 r6 p0 p1 p2
  go_wp2_with fail
  refine CK.out.mono ?_
  rintro e w2 ⟨⟨f', hpf, rfl⟩, b2⟩
  obtain rfl := HPL.out f' hpf
  have B2 := hide' (B1.out.trans (b2.mono B1.out.size))
  have P0 := cell_of_row w2 _ 0 _ _ _ ((b2.block _ (lt_of_block RP.out)).trans RP.out)
  have P1 := cell_of_row w2 _ 1 _ _ _ ((b2.block _ (lt_of_block RP.out)).trans RP.out)
  have Z2 := hide' ((b2.block _ (lt_of_block RZ.out)).trans RZ.out)
  simp at P0 P1
  have i0 := cell_of_row w2 _ 0 _ _ _ Z2.out
  have i1 := cell_of_row w2 _ 1 _ _ _ Z2.out
  have i2 := cell_of_row w2 _ 2 _ _ _ Z2.out
  simp at i0 i1 i2
  have j0 := frozen_of_row w2 _ 0 _ _ Z2.out
  have j1 := frozen_of_row w2 _ 1 _ _ Z2.out
  have j2 := frozen_of_row w2 _ 2 _ _ Z2.out
  clear r0 r1 r2 r3 r4 r5 r6 p0 p1 p2 hpf b2
  have E := hide' (errOf_is5 f0)
  rw [E.out]
  clear f0
  go_wp2
  refine bodyPost_ret (v := .tuple #[.agg #[.int .i64 0, .int .i64 0, .slice none 0 0], .iface 45 (.int .i64 (f' : Int))]) (by simp [results, Tryd.results6, go_sem, i0, i1, i2]) rfl ?_
  refine ⟨by rw [E.out], ?_⟩
  repeat (first | exact B2.out | refine Below.setCell ?_ (by show w.heap.size ≤ w.heap.size + 2; omega) _)
set_option maxRecDepth 100000 in
set_option maxHeartbeats 6400000 in
theorem planeParent_wide (o : Out) (ta : Option Addr) (tn tc : Nat) (W H : Int) (xs : List Int) (a : Option Addr) (n c : Nat) (f : Nat) (w : World) (hR : ArgR w o ta tn tc) (hP : ArgP w xs a n c) (hf : plaE o W H xs f) (f0 : f = 0) (hw : 5 < W ∨ 5 < H) :
    Calls Tryd.prog 6 #[.agg #[.int .i64 o.kind, .int .i64 o.born, .int .i64 o.stay, .int .i64 o.states, .int .i64 o.radius, .slice ta tn tc, .string o.turns], .agg #[.int .i64 W, .int .i64 H, .slice a n c]] w (TorBad 4 w) := by
  obtain ⟨w1, hw1⟩ : ∃ w1, ((w.alloc (.cells #[.int .i64 o.kind, .int .i64 o.born, .int .i64 o.stay, .int .i64 o.states, .int .i64 o.radius, .slice ta tn tc, .string o.turns] 24)).alloc (.cells #[.int .i64 W, .int .i64 H, .slice a n c] 26)).alloc (.cells #[.int .i64 0, .int .i64 0, .slice none 0 0] 26) = w1 := ⟨_, rfl⟩
  have B1 := hide' (show Below w.heap.size w w1 by rw [← hw1]; repeat (first | exact Below.refl _ _ | refine Below.alloc ?_ (by simp; try omega) _))
  have RR := hide' (show w1.heap[w.heap.size]? = some (.cells #[.int .i64 o.kind, .int .i64 o.born, .int .i64 o.stay, .int .i64 o.states, .int .i64 o.radius, .slice ta tn tc, .string o.turns] 24 (0, 0)) by rw [← hw1]; exact (heap_alloc_old _ _ (by simp; try omega)).trans ((heap_alloc_old (w.alloc _) _ (by simp)).trans (heap_alloc_new w _)))
  have RP := hide' (show w1.heap[w.heap.size + 1]? = some (.cells #[.int .i64 W, .int .i64 H, .slice a n c] 26 (0, 0)) by rw [← hw1]; exact (heap_alloc_old _ _ (by simp; try omega)).trans (heap_alloc2_new w _ _))
  have RZ := hide' (show w1.heap[w.heap.size + 2]? = some (.cells #[.int .i64 0, .int .i64 0, .slice none 0 0] 26 (0, 0)) by
    rw [← hw1]
    have := heap_alloc_new ((w.alloc (.cells #[.int .i64 o.kind, .int .i64 o.born, .int .i64 o.stay, .int .i64 o.states, .int .i64 o.radius, .slice ta tn tc, .string o.turns] 24)).alloc (.cells #[.int .i64 W, .int .i64 H, .slice a n c] 26)) (.cells #[.int .i64 0, .int .i64 0, .slice none 0 0] 26)
    simpa using this)
  have CK := hide' (planeCheck_any o ta tn tc W H xs a n c w1 (hR.below B1.out) (hP.below B1.out))
  have HPL := hide' (fun f' (h : plaE o W H xs f') => plaE_only h hf)
  have HW1 := hide' hw1
  obtain ⟨kd, hkd⟩ : ∃ x, o.kind = x := ⟨_, rfl⟩
  obtain ⟨bo, hbo⟩ : ∃ x, o.born = x := ⟨_, rfl⟩
  obtain ⟨sy, hsy⟩ : ∃ x, o.stay = x := ⟨_, rfl⟩
  rw [hkd, hbo, hsy] at CK RR HW1 ⊢
  clear hR hP hf hw1 hkd hbo hsy
  go_enter Tryd.func6, Tryd.ntmps6
  go_upto_region 1 with fail
  rw [HW1.out]
  have r0 := cell_of_row w1 _ 0 _ _ _ RR.out
  have r1 := cell_of_row w1 _ 1 _ _ _ RR.out
  have r2 := cell_of_row w1 _ 2 _ _ _ RR.out
  have r3 := cell_of_row w1 _ 3 _ _ _ RR.out
  have r4 := cell_of_row w1 _ 4 _ _ _ RR.out
  have r5 := cell_of_row w1 _ 5 _ _ _ RR.out
  have r6 := cell_of_row w1 _ 6 _ _ _ RR.out
  have p0 := cell_of_row w1 _ 0 _ _ _ RP.out
  have p1 := cell_of_row w1 _ 1 _ _ _ RP.out
  have p2 := cell_of_row w1 _ 2 _ _ _ RP.out
  simp at r0 r1 r2 r3 r4 r5 r6 p0 p1 p2
  go_wp2_with fail
  refine CK.out.mono ?_
  rintro e w2 ⟨⟨f', hpf, rfl⟩, b2⟩
  obtain rfl := HPL.out f' hpf
  have B2 := hide' (B1.out.trans (b2.mono B1.out.size))
  have P0 := cell_of_row w2 _ 0 _ _ _ ((b2.block _ (lt_of_block RP.out)).trans RP.out)
  have P1 := cell_of_row w2 _ 1 _ _ _ ((b2.block _ (lt_of_block RP.out)).trans RP.out)
  have Z2 := hide' ((b2.block _ (lt_of_block RZ.out)).trans RZ.out)
  simp at P0 P1
  have i0 := cell_of_row w2 _ 0 _ _ _ Z2.out
  have i1 := cell_of_row w2 _ 1 _ _ _ Z2.out
  have i2 := cell_of_row w2 _ 2 _ _ _ Z2.out
  simp at i0 i1 i2
  have j0 := frozen_of_row w2 _ 0 _ _ Z2.out
  have j1 := frozen_of_row w2 _ 1 _ _ Z2.out
  have j2 := frozen_of_row w2 _ 2 _ _ Z2.out
  clear r0 r1 r2 r3 r4 r5 r6 p0 p1 p2 hpf b2
  subst f0
  rw [show errOf 0 = .nilIface from rfl]
  have E := hide' (errOf_is5 (f := 4) (by omega))
  have HWD := hide' hw
  clear hw
  by_cases w5 : 5 < W
  · go_wp2
    refine bodyPost_ret (v := .tuple #[.agg #[.int .i64 0, .int .i64 0, .slice none 0 0], .iface 45 (.int .i64 4)]) (by simp [results, Tryd.results6, go_sem, i0, i1, i2]) rfl ?_
    refine ⟨by rw [E.out]; rfl, ?_⟩
    repeat (first | exact B2.out | refine Below.setCell ?_ (by show w.heap.size ≤ w.heap.size + 2; omega) _)
  · have h5 : 5 < H := by have := HWD.out; omega
    go_wp2
    refine bodyPost_ret (v := .tuple #[.agg #[.int .i64 0, .int .i64 0, .slice none 0 0], .iface 45 (.int .i64 4)]) (by simp [results, Tryd.results6, go_sem, i0, i1, i2]) rfl ?_
    refine ⟨by rw [E.out]; rfl, ?_⟩
    repeat (first | exact B2.out | refine Below.setCell ?_ (by show w.heap.size ≤ w.heap.size + 2; omega) _)
end Go.Proofs.YtfdbgkdbmlmigaaDoor

