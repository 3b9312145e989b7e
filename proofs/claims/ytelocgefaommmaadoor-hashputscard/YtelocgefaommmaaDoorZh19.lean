/-
  What the last text of this claim leans on, part 19: Gs2, Hc8, Hd1.
-/
import Derived.Test.YtelocgefaommmaaDoorZh17
import Derived.Test.YtelocgefaommmaaDoorZh18
import Derived.Test.YtelocgefaommmaaDoorZh1
namespace Go.Proofs.YtelocgefaommmaaDoor
open Go.RowKit
set_option linter.unusedVariables false
theorem cut3P {A B C : Type} {P Φ : A → B → C → Prop} {G : Prop} (h : (∀ a b c, P a b c → Φ a b c) → G) (k : ∀ a b c, P a b c → Φ a b c) : G := h k
/-- What lies there while the pattern is made. -/
structure PX (w w1 wr : World) (W H : Nat) (n p q : Nat) (f : Nat → Value) : Prop where
  keep : ∀ k, k < w.heap.size + 1 + 1 → wr.heap[k]? = w1.heap[k]?
  pat : wr.heap[p]? = some (.cells #[.int .i64 (W : Int), .int .i64 (H : Int), .slice (some ⟨q, 0, none⟩) n n] 26 (0, 0))
  out : wr.heap[q]? = some (.cells (arrF n f) 3 (0, 0))
  pl : w.heap.size + 1 + 1 ≤ p
  ql : w.heap.size + 1 + 1 ≤ q
  ne : p ≠ q
  below : Below w.heap.size w wr
theorem PX.set {w w1 wr : World} {W H n p q : Nat} {f : Nat → Value} (h : PX w w1 wr W H n p q f) (i : Nat) (v : Value) : PX w w1 (wr.setCell ⟨q, i, none⟩ v) W H n p q (fun k => if k = i then v else f k) :=
  ⟨fun k hk => (Below.heap_setCell _ _ _ _ (by have := h.ql; simp; omega)).trans (h.keep k hk), two_other h.pat _ _ _ h.ne, by rw [heap_setCell_same _ _ _ _ _ _ h.out, arrF_set], h.pl, h.ql, h.ne, h.below.setCell (by have := h.ql; simp; omega) _⟩
theorem PX.ext {w w1 wr : World} {W H n p q : Nat} {f g : Nat → Value} (h : PX w w1 wr W H n p q f) (e : ∀ k, k < n → f k = g k) : PX w w1 wr W H n p q g := ⟨h.keep, h.pat, by rw [← arrF_ext e]; exact h.out, h.pl, h.ql, h.ne, h.below⟩
end Go.Proofs.YtelocgefaommmaaDoor

namespace Go.Proofs.YtelocgefaommmaaDoor
open Go.RowKit
set_option linter.unusedVariables false
theorem info_i32 : (Tryd.prog.info? 21).map (fun i => (i.zero, i.size, i.bytes)) = some (some (.int .i32 0), 1, 4) := by kernel_rfl
theorem made_allH (z : Value) (n : Nat) : madeCells #[z] n = arrF n (fun _ => z) := by
  apply Array.ext'
  rw [toList_madeCells_one]
  unfold arrF
  simp [List.map_const']
theorem mk_i32 (n : Nat) (hn : n ≤ 2000001) (w : World) : (Instr.makeSlice 90 (.int .i64 (n : Int)) (.int .i64 (n : Int))).run Tryd.prog w = .ok (.slice (some ⟨w.heap.size, 0, none⟩) n n) (w.alloc (.cells (arrF n fun _ => .int .i32 0) 21)) := by
  rw [← made_allH]
  exact run_make_row' (P := Tryd.prog) 90 21 (.int .i32 0) 4 Tryd.underlying90 info_i32 rfl .i64 .i64 n (by omega) (by omega) w
/-- What moved answers. -/
def MdP (ts Bt : Nat) (qs rs : List Sq) (n t L : Nat) (fr fd : Int) (w : World) (e : Ending) (w' : World) : Prop :=
  ∃ g' cap' rs' t', e = .returned (.agg #[.pointer (some ⟨ts, 0, none⟩), .int .i32 ((t' : Nat) : Int), .int .i64 (L : Int), .int .i64 fr, .int .i64 fd]) ∧ StkA w' ts Bt g' cap' rs' ∧ WFQ rs' n t' ∧ (∀ x y, valQ rs' n t' x y = valQ qs n t x y) ∧ rs'.length ≤ rs.length + cntQ n ∧ Below Bt w w'
set_option maxRecDepth 100000 in
set_option maxHeartbeats 6400000 in
theorem moved_any (fs gf cf ts Bt gt ct : Nat) (qs rs : List Sq) (n t L : Nat) (fr fd : Int) (w : World) (hf : StkA w fs 0 gf cf qs) (ht : StkA w ts Bt gt ct rs) (hfb : fs < Bt ∧ gf < Bt) (hB : Bt ≤ w.heap.size) (hq : qs.length ≤ 2000000) (hl : rs.length + cntQ n ≤ 2000000) (hw : WFQ qs n t) :
    Calls Tryd.prog 21 #[.agg #[.pointer (some ⟨fs, 0, none⟩), .int .i32 (t : Int), .int .i64 (L : Int), .int .i64 fr, .int .i64 fd], .pointer (some ⟨ts, 0, none⟩)] w (MdP ts Bt qs rs n t L fr fd w) := by
  obtain ⟨w2, hw2⟩ : ∃ w2, (w.alloc (.cells #[.pointer (some ⟨fs, 0, none⟩), .int .i32 (t : Int), .int .i64 (L : Int), .int .i64 fr, .int .i64 fd] 56)).alloc (.cells #[.pointer none, .int .i32 0, .int .i64 0, .int .i64 0, .int .i64 0] 56) = w2 := ⟨_, rfl⟩
  obtain ⟨fb, hfbb⟩ : ∃ fb, w.heap.size = fb := ⟨_, rfl⟩
  have HW2 := hide' hw2
  have HFB := hide' hfbb
  have B2 := hide' (show Below w.heap.size w w2 by rw [← hw2]; exact ((Below.refl _ _).alloc (Nat.le_refl _) _).alloc (by simp) _)
  have F2 := hide' (show w2.heap[fb]? = some (.cells #[.pointer (some ⟨fs, 0, none⟩), .int .i32 (t : Int), .int .i64 (L : Int), .int .i64 fr, .int .i64 fd] 56 (0, 0)) by rw [← hw2, ← hfbb]; exact (heap_alloc_old _ _ (by simp)).trans (heap_alloc_new w _))
  have R2 := hide' (show w2.heap[fb + 1]? = some (.cells #[.pointer none, .int .i32 0, .int .i64 0, .int .i64 0, .int .i64 0] 56 (0, 0)) by rw [← hw2]; exact heap_atX _ _ _ (by simp [hfbb]))
  have Z2 := hide' (show w2.heap.size = fb + 2 by rw [← hw2]; simp [hfbb])
  have KF := hide' (hf.below B2.out)
  have KT := hide' (ht.below B2.out)
  have LF := hide' (And.intro hf.lt ht.lt)
  have HFBT := hide' hfb
  have HBB := hide' hB
  have HL := hide' hl
  have HW := hide' hw
  obtain ⟨N, hN⟩ : ∃ N, qs.length = N := ⟨_, rfl⟩
  have mk := mk_i32 N (by omega)
  have HN := hide' hN
  have s0 := cell_of_row w2 fs 0 _ _ _ KF.out.blk
  have f0 := cell_of_row w2 fb 0 _ _ _ F2.out
  rw [hN] at s0
  simp at s0 f0
  clear hw2 hfbb hf ht hfb hB hq hl hw hN
  go_enter Tryd.func21, Tryd.ntmps21
  go_upto_region 1 with fail
  rw [HW2.out, HFB.out]
  refine cut3P (P := fun mb nb V => Hid ((MvA V mb fs gf cf ts Bt gt ct nb N qs rs (fun _ => 0) ∧ Below w2.heap.size w2 V) ∧ w2.heap.size ≤ nb)) (Φ := ?PH) (fun CUT => ?mn) ?rs
  case mn =>
    go_region_held3 (fun V => V.cell? ⟨fb, 0, none⟩ = some (.pointer (some ⟨fs, 0, none⟩)) ∧ V.cell? ⟨fs, 0, none⟩ = some (.slice (some ⟨gf, 0, none⟩) N cf)) (first | exact ⟨f0, s0⟩ | go_keep) (fail)
    · obtain ⟨mb, hp⟩ : ∃ p, w2.heap.size + 1 = p := ⟨_, rfl⟩
      obtain ⟨nb, hq⟩ : ∃ q, w2.heap.size = q := ⟨_, rfl⟩
      rw [hp, hq]
      obtain ⟨V, hV⟩ : ∃ V, ((w2.alloc (.cells (arrF N fun _ => .int .i32 0) 21)).alloc (.cells #[.pointer (some ⟨fs, 0, none⟩), .pointer (some ⟨ts, 0, none⟩), .slice (some ⟨nb, 0, none⟩) N N] 92)).drew = V := ⟨_, rfl⟩
      rw [hV]
      have BV : Below w2.heap.size w2 V := by rw [← hV]; exact (((Below.refl _ _).alloc (Nat.le_refl _) _).alloc (by simp) _).drew
      have T8 := hide' (show (MvA V mb fs gf cf ts Bt gt ct nb N qs rs (fun _ => 0) ∧ Below w2.heap.size w2 V) ∧ w2.heap.size ≤ nb from
        ⟨⟨⟨by rw [← hV]; exact heap_atX _ _ _ (by simp; omega), KF.out.below BV, KT.out.below BV, by rw [← hV]; exact (heap_alloc_old (w2.alloc _) _ (by simp; omega)).trans (heap_atX _ _ _ hq.symm), HN.out.symm, HFBT.out, ⟨rfl, fun i h => absurd rfl h⟩⟩, BV⟩, by omega⟩)
      exact CUT _ _ _ T8
    · obtain ⟨nb, hp⟩ : ∃ p, w2.heap.size + 1 = p := ⟨_, rfl⟩
      obtain ⟨mb, hq⟩ : ∃ q, w2.heap.size = q := ⟨_, rfl⟩
      rw [hp, hq]
      obtain ⟨V, hV⟩ : ∃ V, ((w2.alloc (.cells #[.pointer (some ⟨fs, 0, none⟩), .pointer (some ⟨ts, 0, none⟩), .slice (some ⟨nb, 0, none⟩) N N] 92)).alloc (.cells (arrF N fun _ => .int .i32 0) 21)).drew = V := ⟨_, rfl⟩
      rw [hV]
      have BV : Below w2.heap.size w2 V := by rw [← hV]; exact (((Below.refl _ _).alloc (Nat.le_refl _) _).alloc (by simp) _).drew
      have T8 := hide' (show (MvA V mb fs gf cf ts Bt gt ct nb N qs rs (fun _ => 0) ∧ Below w2.heap.size w2 V) ∧ w2.heap.size ≤ nb from
        ⟨⟨⟨by rw [← hV]; exact (heap_alloc_old (w2.alloc _) _ (by simp; omega)).trans (heap_atX _ _ _ hq.symm), KF.out.below BV, KT.out.below BV, by rw [← hV]; exact heap_atX _ _ _ (by simp; omega), HN.out.symm, HFBT.out, ⟨rfl, fun i h => absurd rfl h⟩⟩, BV⟩, by omega⟩)
      exact CUT _ _ _ T8
  case rs =>
    intro mb nb V T9
    have T8 := hide' T9.out.1
    have NB2 := hide' T9.out.2
    clear T9
    have FV1 := hide' ((T8.out.2.block _ (lt_of_block F2.out)).trans F2.out)
    have RV1 := hide' ((T8.out.2.block _ (lt_of_block R2.out)).trans R2.out)
    have f1 := cell_of_row V fb 1 _ _ _ FV1.out
    simp at f1
    clear f0 s0
    go_wp2_with fail
    refine (move_any n mb fs gf cf ts Bt gt ct nb N qs rs (fun _ => 0) t V T8.out.1 (by have := T8.out.2.size; have := B2.out.size; have := HBB.out; omega) HL.out HW.out).mono ?_
    rintro e w4 ⟨g', cap', rs', nu', t', rfl, hm, ⟨ms, e1, e2⟩, hwf, hv, hk⟩
    have zz := And.intro Z2.out (And.intro NB2.out (And.intro LF.out HFB.out))
    have kf : w4.heap[fb]? = some (.cells #[.pointer (some ⟨fs, 0, none⟩), .int .i32 (t : Int), .int .i64 (L : Int), .int .i64 fr, .int .i64 fd] 56 (0, 0)) := (hk.keep fb (lt_of_block FV1.out) (fun e => by rcases e with e | e <;> omega) (by omega)).trans FV1.out
    have kr : w4.heap[fb + 1]? = some (.cells #[.pointer none, .int .i32 0, .int .i64 0, .int .i64 0, .int .i64 0] 56 (0, 0)) := (hk.keep (fb + 1) (lt_of_block RV1.out) (fun e => by rcases e with e | e <;> omega) (by omega)).trans RV1.out
    have KFR := hide' (And.intro kf kr)
    have HM := hide' hm
    have HV := hide' (And.intro hwf hv)
    have HLN := hide' (show rs'.length ≤ rs.length + cntQ n by rw [e1, List.length_append]; omega)
    have BW4 := hide' (show Below Bt w w4 from (B2.out.mono HBB.out).trans ((T8.out.2.mono (by have := B2.out.size; have := HBB.out; omega)).trans ⟨hk.os, hk.tape, hk.output, hk.size, fun k hk1 => hk.keep k (by have := T8.out.2.size; have := B2.out.size; have := HBB.out; omega) (fun e => by
        rcases e with e | e
        · have := KT.out.le; omega
        · have := HBB.out; omega) (by have := KT.out.rowB.1; omega)⟩))
    have c0 := cell_of_row w4 fb 0 _ _ _ kf
    have c1 := cell_of_row w4 fb 1 _ _ _ kf
    have c2 := cell_of_row w4 fb 2 _ _ _ kf
    have c3 := cell_of_row w4 fb 3 _ _ _ kf
    have c4 := cell_of_row w4 fb 4 _ _ _ kf
    have f0 := frozen_of_row w4 fb 0 _ _ kf
    have f1' := frozen_of_row w4 fb 1 _ _ kf
    simp at c0 c1 c2 c3 c4
    clear hm e1 e2 hwf hv hk zz kf kr f1
    go_upto_region 3 with fail
    obtain ⟨w5, hw5⟩ : ∃ w5, (w4.setCell ⟨fb, 0, none⟩ (.pointer (some ⟨ts, 0, none⟩))).setCell ⟨fb, 1, none⟩ (.int .i32 (t' : Int)) = w5 := ⟨_, rfl⟩
    rw [hw5]
    have h5 : w5.heap[fb]? = some (.cells #[.pointer (some ⟨ts, 0, none⟩), .int .i32 (t' : Int), .int .i64 (L : Int), .int .i64 fr, .int .i64 fd] 56 (0, 0)) := by
      rw [← hw5]
      have h0 : (w4.setCell ⟨fb, 0, none⟩ (.pointer (some ⟨ts, 0, none⟩))).heap[fb]? = some (.cells #[.pointer (some ⟨ts, 0, none⟩), .int .i32 (t : Int), .int .i64 (L : Int), .int .i64 fr, .int .i64 fd] 56 (0, 0)) := by rw [heap_setCell_same _ _ _ _ _ _ KFR.out.1]; rfl
      rw [heap_setCell_same _ _ _ _ _ _ h0]; rfl
    have r5 : w5.heap[fb + 1]? = some (.cells #[.pointer none, .int .i32 0, .int .i64 0, .int .i64 0, .int .i64 0] 56 (0, 0)) := by
      rw [← hw5]
      exact (Below.heap_setCell _ _ _ _ (by show fb + 1 ≠ fb; omega)).trans ((Below.heap_setCell _ _ _ _ (by show fb + 1 ≠ fb; omega)).trans KFR.out.2)
    have gn := HM.out.too.ne_four KFR.out.1 (by decide) (by decide)
    have gr := HM.out.too.ne_four KFR.out.2 (by decide) (by decide)
    have S5 := hide' (show StkA w5 ts Bt g' cap' rs' by rw [← hw5]; exact (HM.out.too.set gn.1 gn.2 _).set gn.1 gn.2 _)
    have B5 := hide' (show Below Bt w w5 by
      rw [← hw5]
      have := HBB.out
      have := HFB.out
      exact (BW4.out.setCell (show Bt ≤ fb by omega) _).setCell (show Bt ≤ fb by omega) _)
    have GR := hide' (And.intro gr r5)
    clear c0 c1 c2 c3 c4 f0 f1' hw5 gn gr
    have c0 := cell_of_row w5 fb 0 _ _ _ h5
    have c1 := cell_of_row w5 fb 1 _ _ _ h5
    have c2 := cell_of_row w5 fb 2 _ _ _ h5
    have c3 := cell_of_row w5 fb 3 _ _ _ h5
    have c4 := cell_of_row w5 fb 4 _ _ _ h5
    have d0 := cell_of_row w5 (fb + 1) 0 _ _ _ r5
    have d1 := cell_of_row w5 (fb + 1) 1 _ _ _ r5
    have d2 := cell_of_row w5 (fb + 1) 2 _ _ _ r5
    have d3 := cell_of_row w5 (fb + 1) 3 _ _ _ r5
    have d4 := cell_of_row w5 (fb + 1) 4 _ _ _ r5
    have g0 := frozen_of_row w5 (fb + 1) 0 _ _ r5
    have g1 := frozen_of_row w5 (fb + 1) 1 _ _ r5
    have g2 := frozen_of_row w5 (fb + 1) 2 _ _ r5
    have g3 := frozen_of_row w5 (fb + 1) 3 _ _ r5
    have g4 := frozen_of_row w5 (fb + 1) 4 _ _ r5
    simp at c0 c1 c2 c3 c4 d0 d1 d2 d3 d4
    clear h5 r5
    go_wp2
    obtain ⟨X, hX⟩ : ∃ X, ((((w5.setCell ⟨fb + 1, 0, none⟩ (.pointer (some ⟨ts, 0, none⟩))).setCell ⟨fb + 1, 1, none⟩ (.int .i32 (t' : Int))).setCell ⟨fb + 1, 2, none⟩ (.int .i64 (L : Int))).setCell ⟨fb + 1, 3, none⟩ (.int .i64 fr)).setCell ⟨fb + 1, 4, none⟩ (.int .i64 fd) = X := ⟨_, rfl⟩
    have GX : X.heap[fb + 1]? = some (.cells #[.pointer (some ⟨ts, 0, none⟩), .int .i32 (t' : Int), .int .i64 (L : Int), .int .i64 fr, .int .i64 fd] 56 (0, 0)) := by rw [← hX]; exact five_stored GR.out.2 _ _ _ _ _
    have SX : StkA X ts Bt g' cap' rs' := by
      rw [← hX]
      exact S5.out.keep (five_else (fun e => GR.out.1.1 e.symm) _ _ _ _ _) (five_else (fun e => GR.out.1.2 e.symm) _ _ _ _ _)
    have BX : Below Bt w X := by
      rw [← hX]
      exact five_below B5.out (by have := HBB.out; have := HFB.out; omega) _ _ _ _ _
    rw [hX]
    clear hX c0 c1 c2 c3 c4 d0 d1 d2 d3 d4 g0 g1 g2 g3 g4
    have i0 := cell_of_row X _ 0 _ _ _ GX
    have i1 := cell_of_row X _ 1 _ _ _ GX
    have i2 := cell_of_row X _ 2 _ _ _ GX
    have i3 := cell_of_row X _ 3 _ _ _ GX
    have i4 := cell_of_row X _ 4 _ _ _ GX
    simp at i0 i1 i2 i3 i4
    refine bodyPost_ret (v := .agg #[.pointer (some ⟨ts, 0, none⟩), .int .i32 (t' : Int), .int .i64 (L : Int), .int .i64 fr, .int .i64 fd]) (by simp [results, Tryd.results21, go_sem, i0, i1, i2, i3, i4]) rfl ?_
    exact ⟨g', cap', rs', t', rfl, SX, HV.out.1, HV.out.2, HLN.out, BX⟩
end Go.Proofs.YtelocgefaommmaaDoor

namespace Go.Proofs.YtelocgefaommmaaDoor
open Go.RowKit
set_option linter.unusedVariables false
/-- A field that lies, of which F tells what lives, within M of the middle. -/
structure FldA (w : World) (B sb t L : Nat) (fr fd : Int) (M : Int) (F : Int → Int → Int) (n g cap : Nat) (qs : List Sq) : Prop where
  stk : StkA w sb B g cap qs
  wf : WFQ qs n t
  lev : L = n + 3
  one : 1 ≤ n
  hi : n ≤ 15
  r1 : -M ≤ fr
  r2 : fr + sideI n ≤ M
  d1 : -M ≤ fd
  d2 : fd + sideI n ≤ M
  val : ∀ u v, valQ qs n t (u - fr) (v - fd) = F u v
/-- All but a stock is as it was. -/
structure KpF (sb g : Nat) (V V' : World) : Prop where
  os : V'.os = V.os
  tape : V'.tape = V.tape
  output : V'.output = V.output
  size : V.heap.size ≤ V'.heap.size
  keep : ∀ k, k < V.heap.size → k ≠ sb → k ≠ g → V'.heap[k]? = V.heap[k]?
theorem KpF.of_below {sb g : Nat} {V V' : World} (h : Below V.heap.size V V') : KpF sb g V V' := ⟨h.os, h.tape, h.output, h.size, fun k hk _ _ => h.block k hk⟩
theorem KpF.of_kps {sb g g' : Nat} {V V' : World} (h : KpS sb g g' V V') : KpF sb g V V' := ⟨h.os, h.tape, h.output, h.size, h.keep⟩
def TrP (B : Nat) (M : Int) (F : Int → Int → Int) (K sb0 g0 : Nat) (w : World) (e : Ending) (w' : World) : Prop :=
  ∃ sb t L fr fd n g cap qs, e = .returned (.agg #[.pointer (some ⟨sb, 0, none⟩), .int .i32 ((t : Nat) : Int), .int .i64 ((L : Nat) : Int), .int .i64 fr, .int .i64 fd]) ∧ FldA w' B sb t L fr fd M F n g cap qs ∧ qs.length ≤ K ∧ Below B w w' ∧ KpF sb0 g0 w w'
theorem FldA.mono {w : World} {B sb t L : Nat} {fr fd M M' : Int} {F : Int → Int → Int} {n g cap : Nat} {qs : List Sq} (h : FldA w B sb t L fr fd M F n g cap qs) (hm : M ≤ M') : FldA w B sb t L fr fd M' F n g cap qs :=
  ⟨h.stk, h.wf, h.lev, h.one, h.hi, by have := h.r1; omega, by have := h.r2; omega, by have := h.d1; omega, by have := h.d2; omega, h.val⟩
set_option maxRecDepth 100000 in
set_option maxHeartbeats 6400000 in
theorem trimmed_zero (B sb L : Nat) (fr fd M : Int) (F : Int → Int → Int) (n g cap : Nat) (qs : List Sq) (w : World) (h : FldA w B sb 0 L fr fd M F n g cap qs) (hM : 16 ≤ M) (hB : B ≤ w.heap.size) :
    Calls Tryd.prog 20 #[.agg #[.pointer (some ⟨sb, 0, none⟩), .int .i32 0, .int .i64 (L : Int), .int .i64 fr, .int .i64 fd]] w (TrP B M F (qs.length + n) sb g w) := by
  obtain ⟨w2, hw2⟩ : ∃ w2, (w.alloc (.cells #[.pointer (some ⟨sb, 0, none⟩), .int .i32 0, .int .i64 (L : Int), .int .i64 fr, .int .i64 fd] 56)).alloc (.cells #[.pointer none, .int .i32 0, .int .i64 0, .int .i64 0, .int .i64 0] 56) = w2 := ⟨_, rfl⟩
  obtain ⟨fb, hfbb⟩ : ∃ fb, w.heap.size = fb := ⟨_, rfl⟩
  have HW2 := hide' hw2
  have HFB := hide' hfbb
  have B2 := hide' (show Below w.heap.size w w2 by rw [← hw2]; exact ((Below.refl _ _).alloc (Nat.le_refl _) _).alloc (by simp) _)
  have F2 := hide' (show w2.heap[fb]? = some (.cells #[.pointer (some ⟨sb, 0, none⟩), .int .i32 0, .int .i64 (L : Int), .int .i64 fr, .int .i64 fd] 56 (0, 0)) by rw [← hw2, ← hfbb]; exact (heap_alloc_old _ _ (by simp)).trans (heap_alloc_new w _))
  have R2 := hide' (show w2.heap[fb + 1]? = some (.cells #[.pointer none, .int .i32 0, .int .i64 0, .int .i64 0, .int .i64 0] 56 (0, 0)) by rw [← hw2]; exact heap_atX _ _ _ (by simp [hfbb]))
  have Z2 := hide' (show w2.heap.size = fb + 2 by rw [← hw2]; simp [hfbb])
  have f1 := cell_of_row w2 fb 1 _ _ _ F2.out
  simp at f1
  have HF := hide' (fun u v => show (0 : Int) = F u v by rw [← h.val, val_nil h.stk.st])
  have HK := hide' (show 1 ≤ qs.length + n from by have := h.one; omega)
  have HM := hide' hM
  have HBB := hide' hB
  clear hw2 hfbb h hM hB
  go_enter Tryd.func20, Tryd.ntmps20
  go_upto_region 1 with fail
  rw [HW2.out, HFB.out]
  go_wp2_with fail
  refine (emptyField_any w2).mono ?_
  rintro e w3 ⟨sb', g', rfl, hs, b⟩
  have r3 := (b.block _ (lt_of_block R2.out)).trans R2.out
  have d0 := cell_of_row w3 (fb + 1) 0 _ _ _ r3
  have d1 := cell_of_row w3 (fb + 1) 1 _ _ _ r3
  have d2 := cell_of_row w3 (fb + 1) 2 _ _ _ r3
  have d3 := cell_of_row w3 (fb + 1) 3 _ _ _ r3
  have d4 := cell_of_row w3 (fb + 1) 4 _ _ _ r3
  have g0 := frozen_of_row w3 (fb + 1) 0 _ _ r3
  have g1 := frozen_of_row w3 (fb + 1) 1 _ _ r3
  have g2 := frozen_of_row w3 (fb + 1) 2 _ _ r3
  have g3 := frozen_of_row w3 (fb + 1) 3 _ _ r3
  have g4 := frozen_of_row w3 (fb + 1) 4 _ _ r3
  simp at d0 d1 d2 d3 d4
  have HS := hide' hs
  have R3 := hide' r3
  have BB := hide' b
  clear hs r3 b
  go_wp2
  obtain ⟨X, hX⟩ : ∃ X, ((((w3.setCell ⟨fb + 1, 0, none⟩ (.pointer (some ⟨sb', 0, none⟩))).setCell ⟨fb + 1, 1, none⟩ (.int .i32 0)).setCell ⟨fb + 1, 2, none⟩ (.int .i64 4)).setCell ⟨fb + 1, 3, none⟩ (.int .i64 0)).setCell ⟨fb + 1, 4, none⟩ (.int .i64 0) = X := ⟨_, rfl⟩
  have GX : X.heap[fb + 1]? = some (.cells #[.pointer (some ⟨sb', 0, none⟩), .int .i32 0, .int .i64 4, .int .i64 0, .int .i64 0] 56 (0, 0)) := by rw [← hX]; exact five_stored R3.out _ _ _ _ _
  have zz := And.intro Z2.out (And.intro HFB.out HBB.out)
  have SX : StkA X sb' B g' 1 [zQ] := by
    rw [← hX]
    have := HS.out.le
    have := HS.out.rowB.1
    exact (HS.out.weakB (by omega)).keep (five_else (by omega) _ _ _ _ _) (five_else (by omega) _ _ _ _ _)
  have BX0 : Below w.heap.size w X := by
    rw [← hX]
    exact five_below (B2.out.trans (BB.out.mono (by omega))) (by omega) _ _ _ _ _
  have BX : Below B w X := BX0.mono HBB.out
  rw [hX]
  clear hX d0 d1 d2 d3 d4 g0 g1 g2 g3 g4
  have i0 := cell_of_row X _ 0 _ _ _ GX
  have i1 := cell_of_row X _ 1 _ _ _ GX
  have i2 := cell_of_row X _ 2 _ _ _ GX
  have i3 := cell_of_row X _ 3 _ _ _ GX
  have i4 := cell_of_row X _ 4 _ _ _ GX
  simp at i0 i1 i2 i3 i4
  refine bodyPost_ret (v := .agg #[.pointer (some ⟨sb', 0, none⟩), .int .i32 0, .int .i64 4, .int .i64 0, .int .i64 0]) (by simp [results, Tryd.results20, go_sem, i0, i1, i2, i3, i4]) rfl ?_
  have s16 : sideI 1 = 16 := by decide
  exact ⟨sb', 0, 4, 0, 0, 1, g', 1, [zQ], rfl, ⟨SX, WFQ.nil _ _, rfl, by omega, by omega, by have := HM.out; omega, by have := HM.out; omega, by have := HM.out; omega, by have := HM.out; omega, fun u v => by rw [val_nil SX.st]; exact HF.out u v⟩, by have := HK.out; simpa using this, BX, KpF.of_below BX0⟩
end Go.Proofs.YtelocgefaommmaaDoor

