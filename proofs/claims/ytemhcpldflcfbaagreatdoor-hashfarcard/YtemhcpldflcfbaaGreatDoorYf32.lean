/-
  What the last text of this claim leans on, part 32: Hl0.
-/
import Derived.Test.YtemhcpldflcfbaaGreatDoorYf16
namespace Go.Proofs.YtemhcpldflcfbaaGreatDoor
open Go.RowKit
set_option linter.unusedVariables false
def MdK (mt : Option (Nat × Nat)) (ts gt Bt : Nat) (qs rs : List Sq) (n t L : Nat) (fr fd : Int) (w : World) (e : Ending) (w' : World) : Prop :=
 MdP mt ts Bt qs rs n t L fr fd w e w' ∧ ∀ k, k < w.heap.size → k ≠ ts → k ≠ gt → ¬ mpB mt k → w'.heap[k]? = w.heap[k]?
set_option maxRecDepth 100000 in
set_option maxHeartbeats 6400000 in
theorem moved_anyK {mf mt : Option (Nat × Nat)} (fs gf cf ts Bt gt ct : Nat) (qs rs : List Sq) (n t L : Nat) (fr fd : Int) (w : World) (hf : StkA w fs 0 gf cf qs mf) (ht : StkA w ts Bt gt ct rs mt) (hfb : (fs < Bt ∧ gf < Bt) ∧ ∀ k, mpB mf k → k < Bt) (hB : Bt ≤ w.heap.size) (hl : rs.length + qs.length ≤ 2000000) (hw : WFQ qs n t) :
  Calls Tryz.prog 47 #[.agg #[.pointer (some ⟨fs, 0, none⟩), .int .i32 (t : Int), .int .i64 (L : Int), .int .i64 fr, .int .i64 fd], .pointer (some ⟨ts, 0, none⟩)] w (MdK mt ts gt Bt qs rs n t L fr fd w) := by
 obtain ⟨w2, hw2⟩ : ∃ w2, (w.alloc (.cells #[.pointer (some ⟨fs, 0, none⟩), .int .i32 (t : Int), .int .i64 (L : Int), .int .i64 fr, .int .i64 fd] 72)).alloc (.cells #[.pointer none, .int .i32 0, .int .i64 0, .int .i64 0, .int .i64 0] 72) = w2 := ⟨_, rfl⟩
 obtain ⟨fb, hfbb⟩ : ∃ fb, w.heap.size = fb := ⟨_, rfl⟩
 have HW2 := hide' hw2
 have HFB := hide' hfbb
 have B2 := hide' (show Below w.heap.size w w2 by rw [← hw2]; exact ((Below.refl _ _).alloc (Nat.le_refl _) _).alloc (by simp) _)
 have F2 := hide' (show w2.heap[fb]? = some (.cells #[.pointer (some ⟨fs, 0, none⟩), .int .i32 (t : Int), .int .i64 (L : Int), .int .i64 fr, .int .i64 fd] 72 (0, 0)) by rw [← hw2, ← hfbb]; exact (heap_alloc_old _ _ (by simp)).trans (heap_alloc_new w _))
 have R2 := hide' (show w2.heap[fb + 1]? = some (.cells #[.pointer none, .int .i32 0, .int .i64 0, .int .i64 0, .int .i64 0] 72 (0, 0)) by rw [← hw2]; exact heap_atX _ _ _ (by simp [hfbb]))
 have Z2 := hide' (show w2.heap.size = fb + 2 by rw [← hw2]; simp [hfbb])
 have KF := hide' (hf.below B2.out)
 have KT := hide' (ht.below B2.out)
 have LF := hide' (And.intro hf.lt ht.lt)
 have HFBT := hide' hfb
 have HBB := hide' hB
 have HL := hide' hl
 have HW := hide' hw
 obtain ⟨N, hN⟩ : ∃ N, qs.length = N := ⟨_, rfl⟩
 have mk := mk_i32 N (by omega)
 have HN := hide' hN
 have s0 := KF.out.c0
 have f0 := cell_of_row w2 fb 0 _ _ _ F2.out
 rw [hN] at s0
 simp at f0
 clear hw2 hfbb hf ht hfb hB hl hw hN
 go_enter Tryz.func47, Tryz.ntmps47
 go_upto_region 1 with fail
 rw [HW2.out, HFB.out]
 refine cut3P (P := fun mb nb V => Hid ((MvA mf mt V mb fs gf cf ts Bt gt ct nb N qs rs (fun _ => 0) ∧ Below w2.heap.size w2 V) ∧ w2.heap.size ≤ nb)) (Φ := ?PH) (fun CUT => ?mn) ?rs
 case mn =>
  go_region_held3 (fun V => V.cell? ⟨fb, 0, none⟩ = some (.pointer (some ⟨fs, 0, none⟩)) ∧ V.cell? ⟨fs, 0, none⟩ = some (.slice (some ⟨gf, 0, none⟩) N cf)) (first | exact ⟨f0, s0⟩ | go_keep) (fail)
  ·obtain ⟨mb, hp⟩ : ∃ p, w2.heap.size + 1 = p := ⟨_, rfl⟩
   obtain ⟨nb, hq⟩ : ∃ q, w2.heap.size = q := ⟨_, rfl⟩
   rw [hp, hq]
   obtain ⟨V, hV⟩ : ∃ V, ((w2.alloc (.cells (arrF N fun _ => .int .i32 0) 21)).alloc (.cells #[.pointer (some ⟨fs, 0, none⟩), .pointer (some ⟨ts, 0, none⟩), .slice (some ⟨nb, 0, none⟩) N N] 160)).drew = V := ⟨_, rfl⟩
   rw [hV]
   have BV : Below w2.heap.size w2 V := by rw [← hV]; exact (((Below.refl _ _).alloc (Nat.le_refl _) _).alloc (by simp) _).drew
   have T8 := hide' (show (MvA mf mt V mb fs gf cf ts Bt gt ct nb N qs rs (fun _ => 0) ∧ Below w2.heap.size w2 V) ∧ w2.heap.size ≤ nb from
    ⟨⟨⟨by rw [← hV]; exact heap_atX _ _ _ (by simp; omega), KF.out.below BV, KT.out.below BV, by rw [← hV]; exact (heap_alloc_old (w2.alloc _) _ (by simp; omega)).trans (heap_atX _ _ _ hq.symm), HN.out.symm, HFBT.out, ⟨rfl, fun i h => absurd rfl h⟩⟩, BV⟩, by omega⟩)
   exact CUT _ _ _ T8
  ·obtain ⟨nb, hp⟩ : ∃ p, w2.heap.size + 1 = p := ⟨_, rfl⟩
   obtain ⟨mb, hq⟩ : ∃ q, w2.heap.size = q := ⟨_, rfl⟩
   rw [hp, hq]
   obtain ⟨V, hV⟩ : ∃ V, ((w2.alloc (.cells #[.pointer (some ⟨fs, 0, none⟩), .pointer (some ⟨ts, 0, none⟩), .slice (some ⟨nb, 0, none⟩) N N] 160)).alloc (.cells (arrF N fun _ => .int .i32 0) 21)).drew = V := ⟨_, rfl⟩
   rw [hV]
   have BV : Below w2.heap.size w2 V := by rw [← hV]; exact (((Below.refl _ _).alloc (Nat.le_refl _) _).alloc (by simp) _).drew
   have T8 := hide' (show (MvA mf mt V mb fs gf cf ts Bt gt ct nb N qs rs (fun _ => 0) ∧ Below w2.heap.size w2 V) ∧ w2.heap.size ≤ nb from
    ⟨⟨⟨by rw [← hV]; exact (heap_alloc_old (w2.alloc _) _ (by simp; omega)).trans (heap_atX _ _ _ hq.symm), KF.out.below BV, KT.out.below BV, by rw [← hV]; exact heap_atX _ _ _ (by simp; omega), HN.out.symm, HFBT.out, ⟨rfl, fun i h => absurd rfl h⟩⟩, BV⟩, by omega⟩)
   exact CUT _ _ _ T8
 case rs =>
  intro mb nb V T9
  have T8 := hide' T9.out.1
  have NB2 := hide' T9.out.2
  clear T9
  have FV1 := hide' ((T8.out.2.block _ (lt_of_block F2.out)).trans F2.out)
  have RV1 := hide' ((T8.out.2.block _ (lt_of_block R2.out)).trans R2.out)
  have f1 := cell_of_row V fb 1 _ _ _ FV1.out
  simp at f1
  clear f0 s0
  go_wp2_with fail
  refine (move_any n mf mt mb fs gf cf ts Bt gt ct nb N rs.length qs rs (fun _ => 0) t V T8.out.1 (by have := T8.out.2.size; have := B2.out.size; have := HBB.out; omega) (Nat.le_add_right _ _) (by have := HL.out; have := HN.out; omega) HW.out).mono ?_
  rintro e w4 ⟨g', cap', rs', nu', t', rfl, hm, ⟨⟨ms, e1⟩, e2, _⟩, hwf, hv, hk⟩
  have zz := And.intro Z2.out (And.intro NB2.out (And.intro LF.out HFB.out))
  have kf : w4.heap[fb]? = some (.cells #[.pointer (some ⟨fs, 0, none⟩), .int .i32 (t : Int), .int .i64 (L : Int), .int .i64 fr, .int .i64 fd] 72 (0, 0)) := (hk.keep fb (lt_of_block FV1.out) (fun e => by rcases e with e | e | e; omega; omega; exact T8.out.1.too.nomap FV1.out e) (by omega)).trans FV1.out
  have kr : w4.heap[fb + 1]? = some (.cells #[.pointer none, .int .i32 0, .int .i64 0, .int .i64 0, .int .i64 0] 72 (0, 0)) := (hk.keep (fb + 1) (lt_of_block RV1.out) (fun e => by rcases e with e | e | e; omega; omega; exact T8.out.1.too.nomap RV1.out e) (by omega)).trans RV1.out
  have KFR := hide' (And.intro kf kr)
  have HM := hide' hm
  have HV := hide' (And.intro hwf hv)
  have HLN := hide' (show rs'.length ≤ rs.length + qs.length by have := knC_le nu' N; have := HN.out; omega)
  have BW4 := hide' (show Below Bt w w4 from (B2.out.mono HBB.out).trans ((T8.out.2.mono (by have := B2.out.size; have := HBB.out; omega)).trans ⟨hk.os, hk.tape, hk.output, hk.size, fun k hk1 => hk.keep k (by have := T8.out.2.size; have := B2.out.size; have := HBB.out; omega) (fun e => by
    rcases e with e | e | e
    ·have := KT.out.le; omega
    ·have := HBB.out; omega
    ·have := KT.out.map.ge e; omega) (by have := KT.out.rowB.1; omega)⟩))
  have KW4 := hide' (show ∀ k, k < w.heap.size → k ≠ ts → k ≠ gt → ¬ mpB mt k → w4.heap[k]? = w.heap[k]? from fun k h1 h2 h3 h4 => by
   have a1 := B2.out.size
   have a2 := T8.out.2.size
   have a3 := NB2.out
   exact (hk.keep k (by omega) (fun e => by
    rcases e with e | e | e
    ·exact h2 e
    ·omega
    ·exact h4 e) h3).trans ((T8.out.2.block k (by omega)).trans (B2.out.block k h1)))
  have c0 := cell_of_row w4 fb 0 _ _ _ kf
  have c1 := cell_of_row w4 fb 1 _ _ _ kf
  have c2 := cell_of_row w4 fb 2 _ _ _ kf
  have c3 := cell_of_row w4 fb 3 _ _ _ kf
  have c4 := cell_of_row w4 fb 4 _ _ _ kf
  have f0 := frozen_of_row w4 fb 0 _ _ kf
  have f1' := frozen_of_row w4 fb 1 _ _ kf
  simp at c0 c1 c2 c3 c4
  clear hm e1 e2 hwf hv hk zz kf kr f1
  go_upto_region 3 with fail
  obtain ⟨w5, hw5⟩ : ∃ w5, (w4.setCell ⟨fb, 0, none⟩ (.pointer (some ⟨ts, 0, none⟩))).setCell ⟨fb, 1, none⟩ (.int .i32 (t' : Int)) = w5 := ⟨_, rfl⟩
  rw [hw5]
  have h5 : w5.heap[fb]? = some (.cells #[.pointer (some ⟨ts, 0, none⟩), .int .i32 (t' : Int), .int .i64 (L : Int), .int .i64 fr, .int .i64 fd] 72 (0, 0)) := by
   rw [← hw5]
   have h0 : (w4.setCell ⟨fb, 0, none⟩ (.pointer (some ⟨ts, 0, none⟩))).heap[fb]? = some (.cells #[.pointer (some ⟨ts, 0, none⟩), .int .i32 (t : Int), .int .i64 (L : Int), .int .i64 fr, .int .i64 fd] 72 (0, 0)) := by rw [heap_setCell_same _ _ _ _ _ _ KFR.out.1]; rfl
   rw [heap_setCell_same _ _ _ _ _ _ h0]; rfl
  have r5 : w5.heap[fb + 1]? = some (.cells #[.pointer none, .int .i32 0, .int .i64 0, .int .i64 0, .int .i64 0] 72 (0, 0)) := by
   rw [← hw5]
   exact (Below.heap_setCell _ _ _ _ (by show fb + 1 ≠ fb; omega)).trans ((Below.heap_setCell _ _ _ _ (by show fb + 1 ≠ fb; omega)).trans KFR.out.2)
  have gn := HM.out.too.ne_four KFR.out.1 (by decide) (by decide)
  have gr := HM.out.too.ne_four KFR.out.2 (by decide) (by decide)
  have nm := HM.out.too.nomap KFR.out.1
  have nr := HM.out.too.nomap KFR.out.2
  have S5 := hide' (show StkA w5 ts Bt g' cap' rs' mt by rw [← hw5]; exact (HM.out.too.setM gn.1 gn.2 nm _).setM gn.1 gn.2 nm _)
  have B5 := hide' (show Below Bt w w5 by
   rw [← hw5]
   have := HBB.out
   have := HFB.out
   exact (BW4.out.setCell (show Bt ≤ fb by omega) _).setCell (show Bt ≤ fb by omega) _)
  have KW5 := hide' (show ∀ k, k < w.heap.size → k ≠ ts → k ≠ gt → ¬ mpB mt k → w5.heap[k]? = w.heap[k]? from fun k h1 h2 h3 h4 => by
   have nf : k ≠ fb := by have := HFB.out; omega
   rw [← hw5]
   exact (Below.heap_setCell _ _ _ _ (by simpa using nf)).trans ((Below.heap_setCell _ _ _ _ (by simpa using nf)).trans (KW4.out k h1 h2 h3 h4)))
  have GR := hide' (And.intro gr (And.intro r5 nr))
  clear c0 c1 c2 c3 c4 f0 f1' hw5 gn gr nm nr
  have c0 := cell_of_row w5 fb 0 _ _ _ h5
  have c1 := cell_of_row w5 fb 1 _ _ _ h5
  have c2 := cell_of_row w5 fb 2 _ _ _ h5
  have c3 := cell_of_row w5 fb 3 _ _ _ h5
  have c4 := cell_of_row w5 fb 4 _ _ _ h5
  have d0 := cell_of_row w5 (fb + 1) 0 _ _ _ r5
  have d1 := cell_of_row w5 (fb + 1) 1 _ _ _ r5
  have d2 := cell_of_row w5 (fb + 1) 2 _ _ _ r5
  have d3 := cell_of_row w5 (fb + 1) 3 _ _ _ r5
  have d4 := cell_of_row w5 (fb + 1) 4 _ _ _ r5
  have g0 := frozen_of_row w5 (fb + 1) 0 _ _ r5
  have g1 := frozen_of_row w5 (fb + 1) 1 _ _ r5
  have g2 := frozen_of_row w5 (fb + 1) 2 _ _ r5
  have g3 := frozen_of_row w5 (fb + 1) 3 _ _ r5
  have g4 := frozen_of_row w5 (fb + 1) 4 _ _ r5
  simp at c0 c1 c2 c3 c4 d0 d1 d2 d3 d4
  clear h5 r5
  go_wp2
  obtain ⟨X, hX⟩ : ∃ X, ((((w5.setCell ⟨fb + 1, 0, none⟩ (.pointer (some ⟨ts, 0, none⟩))).setCell ⟨fb + 1, 1, none⟩ (.int .i32 (t' : Int))).setCell ⟨fb + 1, 2, none⟩ (.int .i64 (L : Int))).setCell ⟨fb + 1, 3, none⟩ (.int .i64 fr)).setCell ⟨fb + 1, 4, none⟩ (.int .i64 fd) = X := ⟨_, rfl⟩
  have GX : X.heap[fb + 1]? = some (.cells #[.pointer (some ⟨ts, 0, none⟩), .int .i32 (t' : Int), .int .i64 (L : Int), .int .i64 fr, .int .i64 fd] 72 (0, 0)) := by rw [← hX]; exact five_stored GR.out.2.1 _ _ _ _ _
  have SX : StkA X ts Bt g' cap' rs' mt := by
   rw [← hX]
   exact S5.out.keepM (five_else (fun e => GR.out.1.1 e.symm) _ _ _ _ _) (five_else (fun e => GR.out.1.2 e.symm) _ _ _ _ _) (fun k e => five_else (fun q => GR.out.2.2 (by rw [← q]; exact e)) _ _ _ _ _)
  have BX : Below Bt w X := by
   rw [← hX]
   exact five_belowH B5.out (by have := HBB.out; have := HFB.out; omega) _ _ _ _ _
  have KX : ∀ k, k < w.heap.size → k ≠ ts → k ≠ gt → ¬ mpB mt k → X.heap[k]? = w.heap[k]? := fun k h1 h2 h3 h4 => by
   rw [← hX]
   exact (five_else (by have := HFB.out; omega) _ _ _ _ _).trans (KW5.out k h1 h2 h3 h4)
  rw [hX]
  clear hX c0 c1 c2 c3 c4 d0 d1 d2 d3 d4 g0 g1 g2 g3 g4
  have i0 := cell_of_row X _ 0 _ _ _ GX
  have i1 := cell_of_row X _ 1 _ _ _ GX
  have i2 := cell_of_row X _ 2 _ _ _ GX
  have i3 := cell_of_row X _ 3 _ _ _ GX
  have i4 := cell_of_row X _ 4 _ _ _ GX
  simp at i0 i1 i2 i3 i4
  refine bodyPost_ret (v := .agg #[.pointer (some ⟨ts, 0, none⟩), .int .i32 (t' : Int), .int .i64 (L : Int), .int .i64 fr, .int .i64 fd]) (by simp [results, Tryz.results47, go_sem, i0, i1, i2, i3, i4]) rfl ?_
  exact ⟨⟨g', cap', rs', t', rfl, SX, HV.out.1, HV.out.2, HLN.out, BX⟩, KX⟩
end Go.Proofs.YtemhcpldflcfbaaGreatDoor
