/-
  What the last text of this claim leans on, part 16: Hc8, Hj1, Hj2.
-/
import Derived.Test.YtemhcpldflcfbaaGreatDoorYf14
import Derived.Test.YtemhcpldflcfbaaGreatDoorYf15
import Derived.Test.YtemhcpldflcfbaaGreatDoorYf2
import Derived.Test.YtemhcpldflcfbaaGreatDoorYf3
namespace Go.Proofs.YtemhcpldflcfbaaGreatDoor
open Go.RowKit
set_option linter.unusedVariables false
theorem info_i32 : (Tryz.prog.info? 21).map (fun i => (i.zero, i.size, i.bytes)) = some (some (.int .i32 0), 1, 4) := by kernel_rfl
theorem made_allH (z : Value) (n : Nat) : madeCells #[z] n = arrF n (fun _ => z) := by
 apply Array.ext'
 rw [toList_madeCells_one]
 unfold arrF
 simp [List.map_const']
theorem mk_i32 (n : Nat) (hn : n ≤ 2000001) (w : World) : (Instr.makeSlice 127 (.int .i64 (n : Int)) (.int .i64 (n : Int))).run Tryz.prog w = .ok (.slice (some ⟨w.heap.size, 0, none⟩) n n) (w.alloc (.cells (arrF n fun _ => .int .i32 0) 21)) := by
 rw [← made_allH]
 exact run_make_row' (P := Tryz.prog) 127 21 (.int .i32 0) 4 Tryz.underlying127 info_i32 rfl .i64 .i64 n (by omega) (by omega) w
def MdP (mt : Option (Nat × Nat)) (ts Bt : Nat) (qs rs : List Sq) (n t L : Nat) (fr fd : Int) (w : World) (e : Ending) (w' : World) : Prop :=
 ∃ g' cap' rs' t', e = .returned (.agg #[.pointer (some ⟨ts, 0, none⟩), .int .i32 ((t' : Nat) : Int), .int .i64 (L : Int), .int .i64 fr, .int .i64 fd]) ∧ StkA w' ts Bt g' cap' rs' mt ∧ WFQ rs' n t' ∧ (∀ x y, valQ rs' n t' x y = valQ qs n t x y) ∧ rs'.length ≤ rs.length + qs.length ∧ Below Bt w w'
set_option maxRecDepth 100000 in
set_option maxHeartbeats 6400000 in
theorem moved_any {mf mt : Option (Nat × Nat)} (fs gf cf ts Bt gt ct : Nat) (qs rs : List Sq) (n t L : Nat) (fr fd : Int) (w : World) (hf : StkA w fs 0 gf cf qs mf) (ht : StkA w ts Bt gt ct rs mt) (hfb : (fs < Bt ∧ gf < Bt) ∧ ∀ k, mpB mf k → k < Bt) (hB : Bt ≤ w.heap.size) (hl : rs.length + qs.length ≤ 2000000) (hw : WFQ qs n t) :
  Calls Tryz.prog 47 #[.agg #[.pointer (some ⟨fs, 0, none⟩), .int .i32 (t : Int), .int .i64 (L : Int), .int .i64 fr, .int .i64 fd], .pointer (some ⟨ts, 0, none⟩)] w (MdP mt ts Bt qs rs n t L fr fd w) := by
 obtain ⟨w2, hw2⟩ : ∃ w2, (w.alloc (.cells #[.pointer (some ⟨fs, 0, none⟩), .int .i32 (t : Int), .int .i64 (L : Int), .int .i64 fr, .int .i64 fd] 72)).alloc (.cells #[.pointer none, .int .i32 0, .int .i64 0, .int .i64 0, .int .i64 0] 72) = w2 := ⟨_, rfl⟩
 obtain ⟨fb, hfbb⟩ : ∃ fb, w.heap.size = fb := ⟨_, rfl⟩
 have HW2 := hide' hw2
 have HFB := hide' hfbb
 have B2 := hide' (show Below w.heap.size w w2 by rw [← hw2]; exact ((Below.refl _ _).alloc (Nat.le_refl _) _).alloc (by simp) _)
 have F2 := hide' (show w2.heap[fb]? = some (.cells #[.pointer (some ⟨fs, 0, none⟩), .int .i32 (t : Int), .int .i64 (L : Int), .int .i64 fr, .int .i64 fd] 72 (0, 0)) by rw [← hw2, ← hfbb]; exact (heap_alloc_old _ _ (by simp)).trans (heap_alloc_new w _))
 have R2 := hide' (show w2.heap[fb + 1]? = some (.cells #[.pointer none, .int .i32 0, .int .i64 0, .int .i64 0, .int .i64 0] 72 (0, 0)) by rw [← hw2]; exact heap_atX _ _ _ (by simp [hfbb]))
 have Z2 := hide' (show w2.heap.size = fb + 2 by rw [← hw2]; simp [hfbb])
 have KF := hide' (hf.below B2.out)
 have KT := hide' (ht.below B2.out)
 have LF := hide' (And.intro hf.lt ht.lt)
 have HFBT := hide' hfb
 have HBB := hide' hB
 have HL := hide' hl
 have HW := hide' hw
 obtain ⟨N, hN⟩ : ∃ N, qs.length = N := ⟨_, rfl⟩
 have mk := mk_i32 N (by omega)
 have HN := hide' hN
 have s0 := KF.out.c0
 have f0 := cell_of_row w2 fb 0 _ _ _ F2.out
 rw [hN] at s0
 simp at f0
 clear hw2 hfbb hf ht hfb hB hl hw hN
 go_enter Tryz.func47, Tryz.ntmps47
 go_upto_region 1 with fail
 rw [HW2.out, HFB.out]
 refine cut3P (P := fun mb nb V => Hid ((MvA mf mt V mb fs gf cf ts Bt gt ct nb N qs rs (fun _ => 0) ∧ Below w2.heap.size w2 V) ∧ w2.heap.size ≤ nb)) (Φ := ?PH) (fun CUT => ?mn) ?rs
 case mn =>
  go_region_held3 (fun V => V.cell? ⟨fb, 0, none⟩ = some (.pointer (some ⟨fs, 0, none⟩)) ∧ V.cell? ⟨fs, 0, none⟩ = some (.slice (some ⟨gf, 0, none⟩) N cf)) (first | exact ⟨f0, s0⟩ | go_keep) (fail)
  ·obtain ⟨mb, hp⟩ : ∃ p, w2.heap.size + 1 = p := ⟨_, rfl⟩
   obtain ⟨nb, hq⟩ : ∃ q, w2.heap.size = q := ⟨_, rfl⟩
   rw [hp, hq]
   obtain ⟨V, hV⟩ : ∃ V, ((w2.alloc (.cells (arrF N fun _ => .int .i32 0) 21)).alloc (.cells #[.pointer (some ⟨fs, 0, none⟩), .pointer (some ⟨ts, 0, none⟩), .slice (some ⟨nb, 0, none⟩) N N] 160)).drew = V := ⟨_, rfl⟩
   rw [hV]
   have BV : Below w2.heap.size w2 V := by rw [← hV]; exact (((Below.refl _ _).alloc (Nat.le_refl _) _).alloc (by simp) _).drew
   have T8 := hide' (show (MvA mf mt V mb fs gf cf ts Bt gt ct nb N qs rs (fun _ => 0) ∧ Below w2.heap.size w2 V) ∧ w2.heap.size ≤ nb from
    ⟨⟨⟨by rw [← hV]; exact heap_atX _ _ _ (by simp; omega), KF.out.below BV, KT.out.below BV, by rw [← hV]; exact (heap_alloc_old (w2.alloc _) _ (by simp; omega)).trans (heap_atX _ _ _ hq.symm), HN.out.symm, HFBT.out, ⟨rfl, fun i h => absurd rfl h⟩⟩, BV⟩, by omega⟩)
   exact CUT _ _ _ T8
  ·obtain ⟨nb, hp⟩ : ∃ p, w2.heap.size + 1 = p := ⟨_, rfl⟩
   obtain ⟨mb, hq⟩ : ∃ q, w2.heap.size = q := ⟨_, rfl⟩
   rw [hp, hq]
   obtain ⟨V, hV⟩ : ∃ V, ((w2.alloc (.cells #[.pointer (some ⟨fs, 0, none⟩), .pointer (some ⟨ts, 0, none⟩), .slice (some ⟨nb, 0, none⟩) N N] 160)).alloc (.cells (arrF N fun _ => .int .i32 0) 21)).drew = V := ⟨_, rfl⟩
   rw [hV]
   have BV : Below w2.heap.size w2 V := by rw [← hV]; exact (((Below.refl _ _).alloc (Nat.le_refl _) _).alloc (by simp) _).drew
   have T8 := hide' (show (MvA mf mt V mb fs gf cf ts Bt gt ct nb N qs rs (fun _ => 0) ∧ Below w2.heap.size w2 V) ∧ w2.heap.size ≤ nb from
    ⟨⟨⟨by rw [← hV]; exact (heap_alloc_old (w2.alloc _) _ (by simp; omega)).trans (heap_atX _ _ _ hq.symm), KF.out.below BV, KT.out.below BV, by rw [← hV]; exact heap_atX _ _ _ (by simp; omega), HN.out.symm, HFBT.out, ⟨rfl, fun i h => absurd rfl h⟩⟩, BV⟩, by omega⟩)
   exact CUT _ _ _ T8
 case rs =>
  intro mb nb V T9
  have T8 := hide' T9.out.1
  have NB2 := hide' T9.out.2
  clear T9
  have FV1 := hide' ((T8.out.2.block _ (lt_of_block F2.out)).trans F2.out)
  have RV1 := hide' ((T8.out.2.block _ (lt_of_block R2.out)).trans R2.out)
  have f1 := cell_of_row V fb 1 _ _ _ FV1.out
  simp at f1
  clear f0 s0
  go_wp2_with fail
  refine (move_any n mf mt mb fs gf cf ts Bt gt ct nb N rs.length qs rs (fun _ => 0) t V T8.out.1 (by have := T8.out.2.size; have := B2.out.size; have := HBB.out; omega) (Nat.le_add_right _ _) (by have := HL.out; have := HN.out; omega) HW.out).mono ?_
  rintro e w4 ⟨g', cap', rs', nu', t', rfl, hm, ⟨⟨ms, e1⟩, e2, _⟩, hwf, hv, hk⟩
  have zz := And.intro Z2.out (And.intro NB2.out (And.intro LF.out HFB.out))
  have kf : w4.heap[fb]? = some (.cells #[.pointer (some ⟨fs, 0, none⟩), .int .i32 (t : Int), .int .i64 (L : Int), .int .i64 fr, .int .i64 fd] 72 (0, 0)) := (hk.keep fb (lt_of_block FV1.out) (fun e => by rcases e with e | e | e; omega; omega; exact T8.out.1.too.nomap FV1.out e) (by omega)).trans FV1.out
  have kr : w4.heap[fb + 1]? = some (.cells #[.pointer none, .int .i32 0, .int .i64 0, .int .i64 0, .int .i64 0] 72 (0, 0)) := (hk.keep (fb + 1) (lt_of_block RV1.out) (fun e => by rcases e with e | e | e; omega; omega; exact T8.out.1.too.nomap RV1.out e) (by omega)).trans RV1.out
  have KFR := hide' (And.intro kf kr)
  have HM := hide' hm
  have HV := hide' (And.intro hwf hv)
  have HLN := hide' (show rs'.length ≤ rs.length + qs.length by have := knC_le nu' N; have := HN.out; omega)
  have BW4 := hide' (show Below Bt w w4 from (B2.out.mono HBB.out).trans ((T8.out.2.mono (by have := B2.out.size; have := HBB.out; omega)).trans ⟨hk.os, hk.tape, hk.output, hk.size, fun k hk1 => hk.keep k (by have := T8.out.2.size; have := B2.out.size; have := HBB.out; omega) (fun e => by
    rcases e with e | e | e
    ·have := KT.out.le; omega
    ·have := HBB.out; omega
    ·have := KT.out.map.ge e; omega) (by have := KT.out.rowB.1; omega)⟩))
  have c0 := cell_of_row w4 fb 0 _ _ _ kf
  have c1 := cell_of_row w4 fb 1 _ _ _ kf
  have c2 := cell_of_row w4 fb 2 _ _ _ kf
  have c3 := cell_of_row w4 fb 3 _ _ _ kf
  have c4 := cell_of_row w4 fb 4 _ _ _ kf
  have f0 := frozen_of_row w4 fb 0 _ _ kf
  have f1' := frozen_of_row w4 fb 1 _ _ kf
  simp at c0 c1 c2 c3 c4
  clear hm e1 e2 hwf hv hk zz kf kr f1
  go_upto_region 3 with fail
  obtain ⟨w5, hw5⟩ : ∃ w5, (w4.setCell ⟨fb, 0, none⟩ (.pointer (some ⟨ts, 0, none⟩))).setCell ⟨fb, 1, none⟩ (.int .i32 (t' : Int)) = w5 := ⟨_, rfl⟩
  rw [hw5]
  have h5 : w5.heap[fb]? = some (.cells #[.pointer (some ⟨ts, 0, none⟩), .int .i32 (t' : Int), .int .i64 (L : Int), .int .i64 fr, .int .i64 fd] 72 (0, 0)) := by
   rw [← hw5]
   have h0 : (w4.setCell ⟨fb, 0, none⟩ (.pointer (some ⟨ts, 0, none⟩))).heap[fb]? = some (.cells #[.pointer (some ⟨ts, 0, none⟩), .int .i32 (t : Int), .int .i64 (L : Int), .int .i64 fr, .int .i64 fd] 72 (0, 0)) := by rw [heap_setCell_same _ _ _ _ _ _ KFR.out.1]; rfl
   rw [heap_setCell_same _ _ _ _ _ _ h0]; rfl
  have r5 : w5.heap[fb + 1]? = some (.cells #[.pointer none, .int .i32 0, .int .i64 0, .int .i64 0, .int .i64 0] 72 (0, 0)) := by
   rw [← hw5]
   exact (Below.heap_setCell _ _ _ _ (by show fb + 1 ≠ fb; omega)).trans ((Below.heap_setCell _ _ _ _ (by show fb + 1 ≠ fb; omega)).trans KFR.out.2)
  have gn := HM.out.too.ne_four KFR.out.1 (by decide) (by decide)
  have gr := HM.out.too.ne_four KFR.out.2 (by decide) (by decide)
  have nm := HM.out.too.nomap KFR.out.1
  have nr := HM.out.too.nomap KFR.out.2
  have S5 := hide' (show StkA w5 ts Bt g' cap' rs' mt by rw [← hw5]; exact (HM.out.too.setM gn.1 gn.2 nm _).setM gn.1 gn.2 nm _)
  have B5 := hide' (show Below Bt w w5 by
   rw [← hw5]
   have := HBB.out
   have := HFB.out
   exact (BW4.out.setCell (show Bt ≤ fb by omega) _).setCell (show Bt ≤ fb by omega) _)
  have GR := hide' (And.intro gr (And.intro r5 nr))
  clear c0 c1 c2 c3 c4 f0 f1' hw5 gn gr nm nr
  have c0 := cell_of_row w5 fb 0 _ _ _ h5
  have c1 := cell_of_row w5 fb 1 _ _ _ h5
  have c2 := cell_of_row w5 fb 2 _ _ _ h5
  have c3 := cell_of_row w5 fb 3 _ _ _ h5
  have c4 := cell_of_row w5 fb 4 _ _ _ h5
  have d0 := cell_of_row w5 (fb + 1) 0 _ _ _ r5
  have d1 := cell_of_row w5 (fb + 1) 1 _ _ _ r5
  have d2 := cell_of_row w5 (fb + 1) 2 _ _ _ r5
  have d3 := cell_of_row w5 (fb + 1) 3 _ _ _ r5
  have d4 := cell_of_row w5 (fb + 1) 4 _ _ _ r5
  have g0 := frozen_of_row w5 (fb + 1) 0 _ _ r5
  have g1 := frozen_of_row w5 (fb + 1) 1 _ _ r5
  have g2 := frozen_of_row w5 (fb + 1) 2 _ _ r5
  have g3 := frozen_of_row w5 (fb + 1) 3 _ _ r5
  have g4 := frozen_of_row w5 (fb + 1) 4 _ _ r5
  simp at c0 c1 c2 c3 c4 d0 d1 d2 d3 d4
  clear h5 r5
  go_wp2
  obtain ⟨X, hX⟩ : ∃ X, ((((w5.setCell ⟨fb + 1, 0, none⟩ (.pointer (some ⟨ts, 0, none⟩))).setCell ⟨fb + 1, 1, none⟩ (.int .i32 (t' : Int))).setCell ⟨fb + 1, 2, none⟩ (.int .i64 (L : Int))).setCell ⟨fb + 1, 3, none⟩ (.int .i64 fr)).setCell ⟨fb + 1, 4, none⟩ (.int .i64 fd) = X := ⟨_, rfl⟩
  have GX : X.heap[fb + 1]? = some (.cells #[.pointer (some ⟨ts, 0, none⟩), .int .i32 (t' : Int), .int .i64 (L : Int), .int .i64 fr, .int .i64 fd] 72 (0, 0)) := by rw [← hX]; exact five_stored GR.out.2.1 _ _ _ _ _
  have SX : StkA X ts Bt g' cap' rs' mt := by
   rw [← hX]
   exact S5.out.keepM (five_else (fun e => GR.out.1.1 e.symm) _ _ _ _ _) (five_else (fun e => GR.out.1.2 e.symm) _ _ _ _ _) (fun k e => five_else (fun q => GR.out.2.2 (by rw [← q]; exact e)) _ _ _ _ _)
  have BX : Below Bt w X := by
   rw [← hX]
   exact five_belowH B5.out (by have := HBB.out; have := HFB.out; omega) _ _ _ _ _
  rw [hX]
  clear hX c0 c1 c2 c3 c4 d0 d1 d2 d3 d4 g0 g1 g2 g3 g4
  have i0 := cell_of_row X _ 0 _ _ _ GX
  have i1 := cell_of_row X _ 1 _ _ _ GX
  have i2 := cell_of_row X _ 2 _ _ _ GX
  have i3 := cell_of_row X _ 3 _ _ _ GX
  have i4 := cell_of_row X _ 4 _ _ _ GX
  simp at i0 i1 i2 i3 i4
  refine bodyPost_ret (v := .agg #[.pointer (some ⟨ts, 0, none⟩), .int .i32 (t' : Int), .int .i64 (L : Int), .int .i64 fr, .int .i64 fd]) (by simp [results, Tryz.results47, go_sem, i0, i1, i2, i3, i4]) rfl ?_
  exact ⟨g', cap', rs', t', rfl, SX, HV.out.1, HV.out.2, HLN.out, BX⟩
def nbF (F : Int → Int → Int) (x y : Int) : Int := F (x - 1) (y - 1) + F x (y - 1) + F (x + 1) (y - 1) + F (x - 1) y + F (x + 1) y + F (x - 1) (y + 1) + F x (y + 1) + F (x + 1) (y + 1)
def nxF (born stay : Nat) (F : Int → Int → Int) (x y : Int) : Int := ((becN born stay (F x y) (nbF F x y).toNat : Nat) : Int)
def stF (born stay : Nat) : Nat → (Int → Int → Int) → Int → Int → Int
 | 0, F => F
 | t + 1, F => nxF born stay (stF born stay t F)
theorem stF_zero (born stay : Nat) (F : Int → Int → Int) : stF born stay 0 F = F := rfl
theorem stF_next (born stay t : Nat) (F : Int → Int → Int) : stF born stay (t + 1) F = nxF born stay (stF born stay t F) := rfl
theorem stF_add (born stay s : Nat) (F : Int → Int → Int) : ∀ t, stF born stay (s + t) F = stF born stay t (stF born stay s F)
 | 0 => rfl
 | t + 1 => by rw [← Nat.add_assoc, stF_next, stF_add born stay s F t, ← stF_next]
theorem nxF_loc {born stay : Nat} {F G : Int → Int → Int} {x y : Int} (h : ∀ u v, x - 1 ≤ u → u ≤ x + 1 → y - 1 ≤ v → v ≤ y + 1 → F u v = G u v) : nxF born stay F x y = nxF born stay G x y := by
 unfold nxF nbF
 rw [h x y (by omega) (by omega) (by omega) (by omega), h (x - 1) (y - 1) (by omega) (by omega) (by omega) (by omega), h x (y - 1) (by omega) (by omega) (by omega) (by omega), h (x + 1) (y - 1) (by omega) (by omega) (by omega) (by omega), h (x - 1) y (by omega) (by omega) (by omega) (by omega), h (x + 1) y (by omega) (by omega) (by omega) (by omega), h (x - 1) (y + 1) (by omega) (by omega) (by omega) (by omega), h x (y + 1) (by omega) (by omega) (by omega) (by omega), h (x + 1) (y + 1) (by omega) (by omega) (by omega) (by omega)]
theorem stF_loc {born stay : Nat} {F G : Int → Int → Int} : ∀ {t : Nat} {x y : Int}, (∀ u v, x - t ≤ u → u ≤ x + t → y - t ≤ v → v ≤ y + t → F u v = G u v) → stF born stay t F x y = stF born stay t G x y
 | 0, x, y, h => h x y (by omega) (by omega) (by omega) (by omega)
 | t + 1, x, y, h => by
  rw [stF_next, stF_next]
  refine nxF_loc fun u v h1 h2 h3 h4 => stF_loc fun u' v' k1 k2 k3 k4 => h u' v' ?_ ?_ ?_ ?_ <;> push_cast <;> omega
theorem nxF_shift (born stay : Nat) (F : Int → Int → Int) (a b x y : Int) : nxF born stay (fun x y => F (a + x) (b + y)) x y = nxF born stay F (a + x) (b + y) := by
 unfold nxF nbF
 simp only []
 rw [show a + (x - 1) = a + x - 1 by omega, show a + (x + 1) = a + x + 1 by omega, show b + (y - 1) = b + y - 1 by omega, show b + (y + 1) = b + y + 1 by omega]
theorem stF_shift (born stay : Nat) (F : Int → Int → Int) (a b : Int) : ∀ t, stF born stay t (fun x y => F (a + x) (b + y)) = fun x y => stF born stay t F (a + x) (b + y)
 | 0 => rfl
 | t + 1 => by
  rw [stF_next, stF_shift born stay F a b t]
  funext x y
  exact nxF_shift born stay (stF born stay t F) a b x y
theorem nxF_none {born stay : Nat} (hb : born % 2 = 0) {F : Int → Int → Int} {x y : Int} (h : ∀ u v, x - 1 ≤ u → u ≤ x + 1 → y - 1 ≤ v → v ≤ y + 1 → F u v = 0) : nxF born stay F x y = 0 := by
 rw [nxF_loc (G := fun _ _ => 0) h]
 unfold nxF nbF becN bitN
 simp [hb]
theorem stF_none {born stay : Nat} (hb : born % 2 = 0) {F : Int → Int → Int} : ∀ {t : Nat} {x y : Int}, (∀ u v, x - t ≤ u → u ≤ x + t → y - t ≤ v → v ≤ y + t → F u v = 0) → stF born stay t F x y = 0
 | 0, x, y, h => h x y (by omega) (by omega) (by omega) (by omega)
 | t + 1, x, y, h => by
  rw [stF_next]
  refine nxF_none hb fun u v h1 h2 h3 h4 => stF_none hb fun u' v' k1 k2 k3 k4 => h u' v' ?_ ?_ ?_ ?_ <;> push_cast <;> omega
theorem stF_box {born stay : Nat} (hb : born % 2 = 0) {F : Int → Int → Int} {l r u d : Int} (h : ∀ x y, ¬ (l ≤ x ∧ x < r ∧ u ≤ y ∧ y < d) → F x y = 0) {t : Nat} {x y : Int} (ho : ¬ (l - t ≤ x ∧ x < r + t ∧ u - t ≤ y ∧ y < d + t)) : stF born stay t F x y = 0 :=
 stF_none hb fun a b h1 h2 h3 h4 => h a b (by omega)
def AgF (F V : Int → Int → Int) (a b S : Int) : Prop := ∀ x y, 0 ≤ x → x < S → 0 ≤ y → y < S → V x y = F (a + x) (b + y)
def MdF (born stay t : Nat) (V M : Int → Int → Int) (e : Int) : Prop := ∀ x y, 0 ≤ x → x < 2 * e → 0 ≤ y → y < 2 * e → M x y = stF born stay t V (x + e) (y + e)
theorem MdF.of {born stay t : Nat} {F V M : Int → Int → Int} {a b e : Int} (hA : AgF F V a b (4 * e)) (h : MdF born stay t V M e) (ht : (t : Int) ≤ e) : AgF (stF born stay t F) M (a + e) (b + e) (2 * e) := fun x y h1 h2 h3 h4 => by
 rw [h x y h1 h2 h3 h4, stF_loc (G := fun x y => F (a + x) (b + y)) (fun u v k1 k2 k3 k4 => hA u v (by omega) (by omega) (by omega) (by omega)), stF_shift]
 show stF born stay t F (a + (x + e)) (b + (y + e)) = _
 rw [show a + (x + e) = a + e + x by omega, show b + (y + e) = b + e + y by omega]
def jnF (A B C D : Int → Int → Int) (s : Int) (x y : Int) : Int := A x y + B (x - s) y + C x (y - s) + D (x - s) (y - s)
def SuF (V : Int → Int → Int) (s : Int) : Prop := ∀ x y, ¬ (0 ≤ x ∧ x < s ∧ 0 ≤ y ∧ y < s) → V x y = 0
theorem jn_ag {F A B C D : Int → Int → Int} {a b s : Int} (sA : SuF A s) (sB : SuF B s) (sC : SuF C s) (sD : SuF D s) (hA : AgF F A a b s) (hB : AgF F B (a + s) b s) (hC : AgF F C a (b + s) s) (hD : AgF F D (a + s) (b + s) s) : AgF F (jnF A B C D s) a b (2 * s) := fun x y h1 h2 h3 h4 => by
 unfold jnF
 by_cases hx : x < s
 ·by_cases hy : y < s
  ·rw [hA x y h1 hx h3 hy, sB _ _ (by omega), sC _ _ (by omega), sD _ _ (by omega)]; omega
  ·rw [sA _ _ (by omega), sB _ _ (by omega), hC x (y - s) h1 hx (by omega) (by omega), sD _ _ (by omega), show b + s + (y - s) = b + y by omega]; omega
 ·by_cases hy : y < s
  ·rw [sA _ _ (by omega), hB (x - s) y (by omega) (by omega) h3 hy, sC _ _ (by omega), sD _ _ (by omega), show a + s + (x - s) = a + x by omega]; omega
  ·rw [sA _ _ (by omega), sB _ _ (by omega), sC _ _ (by omega), hD (x - s) (y - s) (by omega) (by omega) (by omega) (by omega), show a + s + (x - s) = a + x by omega, show b + s + (y - s) = b + y by omega]; omega
theorem bitQ_nat (k : Nat) {x y : Nat} (hx : x < 8) (hy : y < 8) : bitQ k (x : Int) (y : Int) = ((k.testBit (8 * y + x)).toNat : Int) := by
 unfold bitQ
 rw [if_pos (by omega), show (8 * (y : Int) + (x : Int)).toNat = 8 * y + x by omega, Nat.testBit_eq_decide_div_mod_eq]
 have h : k / 2 ^ (8 * y + x) % 2 < 2 := Nat.mod_lt _ (by decide)
 generalize k / 2 ^ (8 * y + x) % 2 = q at *
 have : q = 0 ∨ q = 1 := by omega
 rcases this with rfl | rfl <;> rfl
def frE (c : Nat) : Nat :=
 let a := c &&& 252645135
 let b := (a ||| a >>> 4) &&& 16711935
 (b ||| b >>> 8) % 65536
theorem frE_bit (c : Nat) {x y : Nat} (hx : x < 4) (hy : y < 4) : (frE c).testBit (4 * y + x) = c.testBit (8 * y + x) := by
 have key : ∀ i j : Nat, i < 16 → 8 * (i / 4) + i % 4 = j → (frE c).testBit i = c.testBit j := by
  intro i j hi e
  unfold frE
  simp only []
  rw [show (65536 : Nat) = 2 ^ 16 from rfl, Nat.testBit_mod_two_pow, decide_eq_true hi, Bool.true_and]
  simp only [Nat.testBit_or, Nat.testBit_and, Nat.testBit_shiftRight]
  have : i = 0 ∨ i = 1 ∨ i = 2 ∨ i = 3 ∨ i = 4 ∨ i = 5 ∨ i = 6 ∨ i = 7 ∨ i = 8 ∨ i = 9 ∨ i = 10 ∨ i = 11 ∨ i = 12 ∨ i = 13 ∨ i = 14 ∨ i = 15 := by omega
  rcases this with rfl | rfl | rfl | rfl | rfl | rfl | rfl | rfl | rfl | rfl | rfl | rfl | rfl | rfl | rfl | rfl <;> subst e <;> simp (decide := true) [Nat.testBit_eq_decide_div_mod_eq]
 exact key _ _ (by omega) (by omega)
def fQ (k : Nat) (x y : Int) : Int := if 0 ≤ x ∧ x < 4 ∧ 0 ≤ y ∧ y < 4 then ((k.testBit (4 * y + x).toNat).toNat : Int) else 0
structure TbE (born stay : Nat) (T : Nat → Nat) : Prop where
 at' : ∀ c x y, c < 65536 → x < 2 → y < 2 → (((T c).testBit (8 * y + x)).toNat : Int) = nxF born stay (fQ c) ((x : Int) + 1) ((y : Int) + 1)
 off : ∀ c j, c < 65536 → ¬ (j = 0 ∨ j = 1 ∨ j = 8 ∨ j = 9) → (T c).testBit j = false
theorem frE_lt (c : Nat) : frE c < 65536 := Nat.mod_lt _ (by decide)
def stE (T : Nat → Nat) (c : Nat) (l : List Nat) : Nat := l.foldl (fun o p => o ||| (T (frE (c >>> p)) <<< (p + 9))) 0
theorem stE_app (T : Nat → Nat) (c : Nat) (l : List Nat) (p : Nat) : stE T c (l ++ [p]) = stE T c l ||| (T (frE (c >>> p)) <<< (p + 9)) := by unfold stE; rw [List.foldl_append]; rfl
theorem stE_bit (T : Nat → Nat) (c i : Nat) (l : List Nat) : (stE T c l).testBit i = l.any fun p => decide (p + 9 ≤ i) && (T (frE (c >>> p))).testBit (i - (p + 9)) := by
 have key : ∀ (l : List Nat) (o : Nat), (l.foldl (fun o p => o ||| (T (frE (c >>> p)) <<< (p + 9))) o).testBit i = (o.testBit i || l.any fun p => decide (p + 9 ≤ i) && (T (frE (c >>> p))).testBit (i - (p + 9))) := by
  intro l
  induction l with
  | nil => intro o; simp
  | cons p l ih =>
   intro o
   rw [List.foldl_cons, ih, Nat.testBit_or, Nat.testBit_shiftLeft, List.any_cons, Bool.or_assoc]
 unfold stE
 rw [key, Nat.zero_testBit, Bool.false_or]
def CnE (f m : Nat) (l : List Nat) : Prop := ∀ p, p ∈ l ↔ ∃ x y, x % 2 = f ∧ y % 2 = f ∧ x ≤ m ∧ y ≤ m ∧ p = 8 * y + x
theorem cn04 : CnE 0 4 [0, 2, 4, 16, 18, 20, 32, 34, 36] := fun p => by
 constructor
 ·intro h
  simp only [List.mem_cons, List.not_mem_nil, or_false] at h
  exact ⟨p % 8, p / 8, by omega, by omega, by omega, by omega, by omega⟩
 ·rintro ⟨x, y, h1, h2, h3, h4, rfl⟩
  have : x = 0 ∨ x = 2 ∨ x = 4 := by omega
  have : y = 0 ∨ y = 2 ∨ y = 4 := by omega
  rcases ‹x = 0 ∨ _› with rfl | rfl | rfl <;> rcases ‹y = 0 ∨ _› with rfl | rfl | rfl <;> simp
theorem cn13 : CnE 1 3 [9, 11, 25, 27] := fun p => by
 constructor
 ·intro h
  simp only [List.mem_cons, List.not_mem_nil, or_false] at h
  exact ⟨p % 8, p / 8, by omega, by omega, by omega, by omega, by omega⟩
 ·rintro ⟨x, y, h1, h2, h3, h4, rfl⟩
  have : x = 1 ∨ x = 3 := by omega
  have : y = 1 ∨ y = 3 := by omega
  rcases ‹x = 1 ∨ _› with rfl | rfl <;> rcases ‹y = 1 ∨ _› with rfl | rfl <;> simp
theorem win_fQ (c : Nat) {x y : Nat} (hx : x ≤ 4) (hy : y ≤ 4) {u v : Int} (h1 : 0 ≤ u) (h2 : u < 4) (h3 : 0 ≤ v) (h4 : v < 4) : fQ (frE (c >>> (8 * y + x))) u v = bitQ c ((x : Int) + u) ((y : Int) + v) := by
 obtain ⟨a, rfl⟩ : ∃ a : Nat, u = (a : Int) := ⟨u.toNat, by omega⟩
 obtain ⟨b, rfl⟩ : ∃ a : Nat, v = (a : Int) := ⟨v.toNat, by omega⟩
 unfold fQ
 rw [if_pos (by omega), show (4 * (b : Int) + (a : Int)).toNat = 4 * b + a by omega, frE_bit _ (by omega) (by omega), Nat.testBit_shiftRight, show 8 * y + x + (8 * b + a) = 8 * (y + b) + (x + a) by omega]
 have := bitQ_nat c (x := x + a) (y := y + b) (by omega) (by omega)
 push_cast at this
 rw [← this]
theorem stE_step {born stay : Nat} {T : Nat → Nat} (hT : TbE born stay T) {c f m : Nat} {l : List Nat} (hf : f ≤ 1) (hm : m ≤ 4) (hl : CnE f m l) (hm2 : m % 2 = f) {X Y : Nat} (x1 : f + 1 ≤ X) (x2 : X ≤ m + 2) (y1 : f + 1 ≤ Y) (y2 : Y ≤ m + 2) :
  bitQ (stE T c l) X Y = nxF born stay (bitQ c) X Y := by
 obtain ⟨x0, hx0⟩ : ∃ a, f + (X - f - 1) / 2 * 2 = a := ⟨_, rfl⟩
 obtain ⟨y0, hy0⟩ : ∃ a, f + (Y - f - 1) / 2 * 2 = a := ⟨_, rfl⟩
 obtain ⟨dx, hdx⟩ : ∃ a, (X - f - 1) % 2 = a := ⟨_, rfl⟩
 obtain ⟨dy, hdy⟩ : ∃ a, (Y - f - 1) % 2 = a := ⟨_, rfl⟩
 have eX : X = x0 + 1 + dx := by omega
 have eY : Y = y0 + 1 + dy := by omega
 have px : x0 % 2 = f ∧ x0 ≤ m := by omega
 have py : y0 % 2 = f ∧ y0 ≤ m := by omega
 have bx : dx < 2 := by omega
 have by' : dy < 2 := by omega
 have p0 : 8 * y0 + x0 ∈ l := (hl _).2 ⟨x0, y0, px.1, py.1, px.2, py.2, rfl⟩
 have e : (stE T c l).testBit (8 * Y + X) = (T (frE (c >>> (8 * y0 + x0)))).testBit (8 * dy + dx) := by
  rw [stE_bit, Bool.eq_iff_iff, List.any_eq_true]
  constructor
  ·rintro ⟨p, hp, q⟩
   rw [Bool.and_eq_true, decide_eq_true_iff] at q
   obtain ⟨x, y, h1, h2, h3, h4, rfl⟩ := (hl p).1 hp
   by_cases j : 8 * Y + X - (8 * y + x + 9) = 0 ∨ 8 * Y + X - (8 * y + x + 9) = 1 ∨ 8 * Y + X - (8 * y + x + 9) = 8 ∨ 8 * Y + X - (8 * y + x + 9) = 9
   ·obtain rfl : x = x0 := by omega
    obtain rfl : y = y0 := by omega
    rw [show 8 * Y + X - (8 * y + x + 9) = 8 * dy + dx by omega] at q
    exact q.2
   ·rw [hT.off _ _ (frE_lt _) j] at q
    exact absurd q.2 (by decide)
  ·intro q
   refine ⟨8 * y0 + x0, p0, ?_⟩
   rw [Bool.and_eq_true, decide_eq_true_iff, show 8 * Y + X - (8 * y0 + x0 + 9) = 8 * dy + dx by omega]
   exact ⟨by omega, q⟩
 rw [bitQ_nat _ (by omega) (by omega), e, hT.at' _ dx dy (frE_lt _) bx by']
 rw [nxF_loc (G := fun x y => bitQ c ((x0 : Int) + x) ((y0 : Int) + y)) (fun u v k1 k2 k3 k4 => win_fQ c (by omega) (by omega) (by omega) (by omega) (by omega) (by omega)), nxF_shift, eX, eY]
 push_cast
 rw [show (x0 : Int) + ((dx : Int) + 1) = (x0 : Int) + 1 + (dx : Int) by omega, show (y0 : Int) + ((dy : Int) + 1) = (y0 : Int) + 1 + (dy : Int) by omega]
def inT (T : Nat → Nat) (c s : Nat) : Nat :=
 let a := if s = 2 then stE T c [0, 2, 4, 16, 18, 20, 32, 34, 36] else c
 let b := if 0 < s then stE T a [9, 11, 25, 27] else a
 (b >>> 18) &&& 252645135
theorem mask_bit {x y : Nat} (hx : x < 8) (hy : y < 8) : Nat.testBit 252645135 (8 * y + x) = decide (x < 4 ∧ y < 4) := by
 have key : ∀ x : Fin 8, ∀ y : Fin 8, Nat.testBit 252645135 (8 * y.val + x.val) = decide (x.val < 4 ∧ y.val < 4) := by decide
 exact key ⟨x, hx⟩ ⟨y, hy⟩
theorem low_bit (b : Nat) {x y : Nat} (hx : x < 8) (hy : y < 8) : bitQ ((b >>> 18) &&& 252645135) x y = if x < 4 ∧ y < 4 then bitQ b ((x : Int) + 2) ((y : Int) + 2) else 0 := by
 rw [bitQ_nat _ hx hy, Nat.testBit_and, mask_bit hx hy, Nat.testBit_shiftRight]
 by_cases h : x < 4 ∧ y < 4
 ·rw [decide_eq_true h, Bool.and_true, if_pos h, show 18 + (8 * y + x) = 8 * (y + 2) + (x + 2) by omega]
  rw [show (x : Int) + 2 = ((x + 2 : Nat) : Int) by omega, show (y : Int) + 2 = ((y + 2 : Nat) : Int) by omega]
  exact (bitQ_nat b (x := x + 2) (y := y + 2) (by omega) (by omega)).symm
 ·rw [decide_eq_false h, Bool.and_false, if_neg h]
  rfl
theorem inE_sup (T : Nat → Nat) (c s : Nat) : SuF (bitQ (inT T c s)) 4 := fun x y h => by
 by_cases r : 0 ≤ x ∧ x < 8 ∧ 0 ≤ y ∧ y < 8
 ·obtain ⟨a, rfl⟩ : ∃ a : Nat, x = (a : Int) := ⟨x.toNat, by omega⟩
  obtain ⟨b, rfl⟩ : ∃ a : Nat, y = (a : Int) := ⟨y.toNat, by omega⟩
  unfold inT
  simp only []
  rw [low_bit _ (by omega) (by omega), if_neg (by omega)]
 ·unfold bitQ; rw [if_neg r]
theorem inE_mid {born stay : Nat} {T : Nat → Nat} (hT : TbE born stay T) (c : Nat) {s : Nat} (hs : s ≤ 2) : MdF born stay s (bitQ c) (bitQ (inT T c s)) 2 := fun x y h1 h2 h3 h4 => by
 obtain ⟨a, rfl⟩ : ∃ a : Nat, x = (a : Int) := ⟨x.toNat, by omega⟩
 obtain ⟨b, rfl⟩ : ∃ a : Nat, y = (a : Int) := ⟨y.toNat, by omega⟩
 have one : ∀ c', bitQ (stE T c' [9, 11, 25, 27]) ((a : Int) + 2) ((b : Int) + 2) = nxF born stay (bitQ c') ((a : Int) + 2) ((b : Int) + 2) := fun c' => by
  rw [show (a : Int) + 2 = ((a + 2 : Nat) : Int) by omega, show (b : Int) + 2 = ((b + 2 : Nat) : Int) by omega]
  exact stE_step hT (c := c') (f := 1) (m := 3) (by decide) (by decide) cn13 (by decide) (X := a + 2) (Y := b + 2) (by omega) (by omega) (by omega) (by omega)
 unfold inT
 simp only []
 rw [low_bit _ (by omega) (by omega), if_pos (by omega)]
 have : s = 0 ∨ s = 1 ∨ s = 2 := by omega
 rcases this with rfl | rfl | rfl
 ·rfl
 ·rw [if_pos (by decide), if_neg (by decide), one]; rfl
 ·rw [if_pos (by decide), if_pos rfl, one]
  show _ = nxF born stay (nxF born stay (bitQ c)) _ _
  refine nxF_loc fun u v k1 k2 k3 k4 => ?_
  obtain ⟨p, rfl⟩ : ∃ a : Nat, u = (a : Int) := ⟨u.toNat, by omega⟩
  obtain ⟨q, rfl⟩ : ∃ a : Nat, v = (a : Int) := ⟨v.toNat, by omega⟩
  exact stE_step hT (c := c) (f := 0) (m := 4) (by decide) (by decide) cn04 (by decide) (by omega) (by omega) (by omega) (by omega)
end Go.Proofs.YtemhcpldflcfbaaGreatDoor
