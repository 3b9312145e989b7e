/-
  What the last text of this claim leans on, part 17: LawBr1, LawBra.
-/
import Derived.Test.YtfeddccbhmbkmaaDoorZr14
import Derived.Test.YtfeddccbhmbkmaaDoorZr15
import Derived.Test.YtfeddccbhmbkmaaDoorZr16
import Derived.Deep.CutRange
namespace Go.Proofs.YtfeddccbhmbkmaaDoor
open Go.RowKit
set_option linter.unusedVariables false
def VOut (v : Value) (w : World) (e : Ending) (w' : World) : Prop := e = .returned v ∧ Below w.heap.size w w'
theorem err_br (k : Nat) (w : World) (hg : Handle w) : Calls Tryd.prog 11 #[errOf k, .int .i64 (k : Int)] w (VOut (.bool true) w) := by
  by_cases h : k = 0
  · subst h; exact err_nil_true w
  · rw [show errOf k = .iface 83 (.int .i64 (k : Int)) by unfold errOf; rw [if_neg h]]; exact err_some_true _ w hg
theorem tab_br (t : List Int) (a : Option Addr) (n c : Nat) (w : World) (hP : ArgP w t a n c) : Calls Tryd.prog 22 #[.slice a n c] w (VOut (.int .i64 (tabE t : Int)) w) := by
  refine (refTable_any t a n c w hP).mono ?_
  rintro e w' ⟨rfl, rfl⟩
  exact ⟨rfl, Below.refl _ _⟩
theorem refk_br (a : Option Addr) (c : Nat) (tv : Nat → Nat) (w : World) (hT : TbB w a tv) : Calls Tryd.prog 30 #[.slice a 16 c] w (VOut (.bool (keepB tv)) w) := by
  refine (refKeeps_any a c tv w hT).mono ?_
  rintro e w' ⟨rfl, rfl⟩
  exact ⟨rfl, Below.refl _ _⟩
theorem reft_br (a : Option Addr) (c : Nat) (tv : Nat → Nat) (w : World) (hT : TbB w a tv) : Calls Tryd.prog 31 #[.slice a 16 c] w (VOut (.bool (turnB tv)) w) := by
  refine (refTurns_any a c tv w hT).mono ?_
  rintro e w' ⟨rfl, rfl⟩
  exact ⟨rfl, Below.refl _ _⟩
theorem ints_br (xs : List Int) (a b : Option Addr) (n c m d : Nat) (w : World) (hA : ArgP w xs a n c) (hB : ArgP w xs b m d) : Calls Tryd.prog 27 #[.slice a n c, .slice b m d] w (VOut (.bool true) w) := by
  refine (Ints_any xs xs a b n c m d w hA hB).mono ?_
  rintro e w' ⟨rfl, q, rfl⟩
  exact ⟨by simp, below_drewN (Below.refl _ _) q⟩
theorem alike_br (W H : Int) (xs : List Int) (a b : Option Addr) (n c m d : Nat) (w : World) (hA : ArgP w xs a n c) (hB : ArgP w xs b m d) : Calls Tryd.prog 12 #[.agg #[.int .i64 W, .int .i64 H, .slice a n c], .agg #[.int .i64 W, .int .i64 H, .slice b m d]] w (VOut (.bool true) w) := by
  refine (Alike_any W H W H xs xs a b n c m d w hA hB).mono ?_
  rintro e w' ⟨rfl, b'⟩
  exact ⟨by simp, b'⟩
def BackOkR (bl : List Int) (w : World) (e : Ending) (w' : World) : Prop := ∃ g, e = .returned (.tuple #[.slice (some ⟨g, 0, none⟩) 16 16, .nilIface]) ∧ ArgP w' bl (some ⟨g, 0, none⟩) 16 16 ∧ Below w.heap.size w w'
theorem back_okR (t : List Int) (b : Option Addr) (d : Nat) (w : World) (hT : ArgP w t b 16 d) (t0 : tabE t = 0) (hi : ∀ x y, x < 16 → y < 16 → tvF t x = tvF t y → x = y) : Calls Tryd.prog 26 #[.slice b 16 d] w (BackOkR (backL (tvF t)) w) := by
  refine (back_good t b d (tvF t) w hT t0 (tab_TbB hT t0).2).mono ?_
  rintro e w' (⟨i, j, h1, h2, h3, _⟩ | ⟨_, g', rfl, _, h, bl⟩)
  · exact absurd (hi i j (by omega) h2 h3) (by omega)
  · refine ⟨g', rfl, ⟨by simp [backL], by unfold maxLen; omega, fun k hk => ⟨g', 0, rfl, lt_of_block h, ?_⟩⟩, bl⟩
    have hk' : k < 16 := by simpa [backL] using hk
    rw [Nat.zero_add, cell_of_row w' _ _ _ _ _ h, arrF_get _ hk']
    simp [backL]
theorem back_errR (t : List Int) (b : Option Addr) (d : Nat) (w : World) (hT : ArgP w t b 16 d) (t0 : tabE t = 0) (hi : ¬ ∀ x y, x < 16 → y < 16 → tvF t x = tvF t y → x = y) : Calls Tryd.prog 26 #[.slice b 16 d] w (VOut (.tuple #[.slice none 0 0, errOf 5]) w) := by
  refine (back_good t b d (tvF t) w hT t0 (tab_TbB hT t0).2).mono ?_
  rintro e w' (⟨i, j, h1, h2, h3, rfl, bl⟩ | ⟨h, _⟩)
  · exact ⟨rfl, bl⟩
  · exact absurd h hi
/-- Two blocks of the table have become the same, so far. -/
def collB (tv : Nat → Nat) : Nat → Bool
  | 0 => false
  | i + 1 => collB tv i || takF tv i (tv i)
theorem coll_iff (tv : Nat → Nat) : ∀ i, collB tv i = false ↔ ∀ x y, x < i → y < i → tv x = tv y → x = y
  | 0 => by simp [collB]
  | i + 1 => by
    rw [collB, Bool.or_eq_false_iff, coll_iff tv i]
    constructor
    · rintro ⟨h, n⟩
      exact inj_next h n
    · intro h
      refine ⟨fun x y hx hy e => h x y (by omega) (by omega) e, ?_⟩
      cases q : takF tv i (tv i) with
      | false => rfl
      | true =>
        obtain ⟨j, hj, ej⟩ := (takF_iff tv (tv i) i).1 q
        exact absurd (h j i (by omega) (by omega) ej) (by omega)
/-- What stands while the law goes through the table. -/
structure BL (V wr : World) (tv : Nat → Nat) (i : Nat) : Prop where
  bk : wr.heap[V.heap.size]? = some (.cells (arrF 16 (fun v => .int .i64 (backF tv i v : Int))) 3 (0, 0))
  tk : wr.heap[V.heap.size + 1]? = some (.cells (arrF 16 (fun v => .bool (takF tv i v))) 4 (0, 0))
  below : Below V.heap.size V wr
theorem BL.next {V wr : World} {tv : Nat → Nat} {i : Nat} (h : BL V wr tv i) : BL V ((wr.setCell ⟨V.heap.size + 1, tv i, none⟩ (.bool true)).setCell ⟨V.heap.size, tv i, none⟩ (.int .i64 (i : Int))) tv (i + 1) := by
  have b0 : (wr.setCell ⟨V.heap.size + 1, tv i, none⟩ (.bool true)).heap[V.heap.size]? = _ := (Below.heap_setCell _ _ _ _ (by simp)).trans h.bk
  refine ⟨?_, ?_, (h.below.setCell (by simp) _).setCell (by simp) _⟩
  · rw [heap_setCell_same _ _ _ _ _ _ b0, arrF_set]
    refine congrArg (fun z => some (Obj.cells z 3 (0, 0))) (arrF_ext fun k _ => ?_)
    try dsimp only
    rw [backF]
    by_cases e : k = tv i
    · rw [if_pos e, if_pos e]
    · rw [if_neg e, if_neg e]
  · rw [Below.heap_setCell _ _ _ _ (by simp), heap_setCell_same _ _ _ _ _ _ h.tk, arrF_set]
    refine congrArg (fun z => some (Obj.cells z 4 (0, 0))) (arrF_ext fun k _ => ?_)
    try dsimp only
    rw [takF]
    by_cases e : k = tv i
    · rw [if_pos e, if_pos e]
    · rw [if_neg e, if_neg e]
theorem info_boolR : (Tryd.prog.info? 4).map (fun i => (i.zero, i.size, i.bytes)) = some (some (.bool false), 1, 1) := by kernel_rfl
theorem mk_intR (w : World) : (Instr.makeSlice 22 (.int .i64 16) (.int .i64 16)).run Tryd.prog w = .ok (.slice (some ⟨w.heap.size, 0, none⟩) 16 16) (w.alloc (.cells (madeCells #[.int .i64 0] 16) 3)) := run_make_row' (P := Tryd.prog) 22 3 (.int .i64 0) 8 Tryd.underlying22 info_int rfl .i64 .i64 16 (by omega) (by omega) w
theorem mk_boolR (w : World) : (Instr.makeSlice 54 (.int .i64 16) (.int .i64 16)).run Tryd.prog w = .ok (.slice (some ⟨w.heap.size, 0, none⟩) 16 16) (w.alloc (.cells (madeCells #[.bool false] 16) 4)) := run_make_row' (P := Tryd.prog) 54 4 (.bool false) 1 Tryd.underlying54 info_boolR rfl .i64 .i64 16 (by omega) (by omega) w
theorem made_arrR (n : Nat) : madeCells #[Value.bool false] n = arrF n (fun _ => .bool false) := by
  apply Array.ext'
  rw [toList_madeCells_one]
  simp [arrF, List.map_const']
theorem BL.start (V : World) (tv : Nat → Nat) : BL V ((V.alloc (.cells (madeCells #[.int .i64 0] 16) 3)).alloc (.cells (madeCells #[.bool false] 16) 4)) tv 0 := by
  refine ⟨?_, ?_, ((Below.refl _ _).alloc (Nat.le_refl _) _).alloc (by simp) _⟩
  · rw [Below.heap_alloc _ _ _ (by simp), made_arr]; exact heap_alloc_new _ _
  · rw [made_arrR]; exact heap_atX _ _ _ (by simp)
theorem BL.arg {V wr : World} {tv : Nat → Nat} (h : BL V wr tv 16) : ArgP wr (backL tv) (some ⟨V.heap.size, 0, none⟩) 16 16 :=
  ⟨by simp [backL], by unfold maxLen; omega, fun k hk => ⟨V.heap.size, 0, rfl, lt_of_block h.bk, by
    have hk' : k < 16 := by simpa [backL] using hk
    rw [Nat.zero_add, cell_of_row wr _ _ _ _ _ h.bk, arrF_get _ hk']
    simp [backL]⟩⟩
theorem keep3 {w : World} {g j : Nat} (h : j ≠ g) (x y z : Value) : (((w.setCell ⟨g, 0, none⟩ x).setCell ⟨g, 1, none⟩ y).setCell ⟨g, 2, none⟩ z).heap[j]? = w.heap[j]? := by
  rw [Below.heap_setCell _ _ _ _ h, Below.heap_setCell _ _ _ _ h, Below.heap_setCell _ _ _ _ h]
end Go.Proofs.YtfeddccbhmbkmaaDoor

namespace Go.Proofs.YtfeddccbhmbkmaaDoor
open Go.RowKit
set_option linter.unusedVariables false
set_option maxRecDepth 100000 in
set_option maxHeartbeats 12800000 in
theorem law_br_a (W H ph k : Int) (b : Option Addr) (m : Nat) (d : Nat) (a : Option Addr) (n c : Nat) (w : World) (hG : Handle w) (e0 : Nat) (h0 : e0 ≠ 0) 
    (tab : ∀ V, Below w.heap.size w V → Calls Tryd.prog 22 #[.slice b m d] V (VOut (.int .i64 (e0 : Int)) V))
    (chk : ∀ V, Below w.heap.size w V → Calls Tryd.prog 23 #[.slice b m d] V (VOut (errOf e0) V))
    (run : ∀ V, Below w.heap.size w V → Calls Tryd.prog 24 #[.slice b m d, .agg #[.int .i64 W, .int .i64 H, .slice a n c], .int .i64 ph, .int .i64 k] V (VOut (.tuple #[.agg #[.int .i64 0, .int .i64 0, .slice none 0 0], errOf e0]) V))
    (bac : ∀ V, Below w.heap.size w V → Calls Tryd.prog 26 #[.slice b m d] V (VOut (.tuple #[.slice none 0 0, errOf e0]) V))
    (kee : ∀ V, Below w.heap.size w V → Calls Tryd.prog 28 #[.slice b m d] V (VOut (.tuple #[.bool false, errOf e0]) V))
    (tur : ∀ V, Below w.heap.size w V → Calls Tryd.prog 29 #[.slice b m d] V (VOut (.tuple #[.bool false, errOf e0]) V)) :
    Calls Tryd.prog 6 #[.slice b m d, .agg #[.int .i64 W, .int .i64 H, .slice a n c], .int .i64 ph, .int .i64 k] w fun e w' => e = .returned (.bool true) ∧ Below w.heap.size w w' := by
  obtain ⟨w1, hw1⟩ : ∃ w1, w.alloc (.cells #[.int .i64 W, .int .i64 H, .slice a n c] 26) = w1 := ⟨_, rfl⟩
  have BB := hide' (show Below w.heap.size w w1 by rw [← hw1]; exact (Below.refl _ _).alloc (Nat.le_refl _) _)
  have g1 : w1.heap[w.heap.size]? = some (.cells #[.int .i64 W, .int .i64 H, .slice a n c] 26 (0, 0)) := by rw [← hw1]; exact heap_alloc_new _ _
  have SV := hide' (fun (V : World) (h : Below w1.heap.size w1 V) => show V.cell? ⟨w.heap.size, 0, none⟩ = some (.int .i64 W) ∧ V.cell? ⟨w.heap.size, 1, none⟩ = some (.int .i64 H) ∧ V.cell? ⟨w.heap.size, 2, none⟩ = some (.slice a n c) from by
    have e1 := (h.block _ (lt_of_block g1)).trans g1
    exact ⟨cell_of_row V _ 0 _ _ _ e1, cell_of_row V _ 1 _ _ _ e1, cell_of_row V _ 2 _ _ _ e1⟩)
  have BW := hide' (fun (V : World) (h : Below w1.heap.size w1 V) => BB.out.trans (h.mono BB.out.size))
  have C1 := hide' (Below.refl w1.heap.size w1)
  have TAB := hide' (fun (V : World) (h : Below w1.heap.size w1 V) => tab V (BW.out V h))
  have CHK := hide' (fun (V : World) (h : Below w1.heap.size w1 V) => chk V (BW.out V h))
  have RUN := hide' (fun (V : World) (h : Below w1.heap.size w1 V) => run V (BW.out V h))
  have BAC := hide' (fun (V : World) (h : Below w1.heap.size w1 V) => bac V (BW.out V h))
  have KEE := hide' (fun (V : World) (h : Below w1.heap.size w1 V) => kee V (BW.out V h))
  have TUR := hide' (fun (V : World) (h : Below w1.heap.size w1 V) => tur V (BW.out V h))
  have ERR := hide' (fun (V : World) (h : Below w1.heap.size w1 V) => err_br e0 V (hG.below (BW.out V h)))
  have EI := hide' (show errOf e0 = .iface 83 (.int .i64 (e0 : Int)) by unfold errOf; rw [if_neg h0])
  rw [EI.out] at RUN CHK BAC KEE TUR ERR
  have hz : ¬ (e0 : Int) = 0 := by omega
  have hzb : ((e0 : Int) == 0) = false := by simp; omega
  have hzn : ((e0 : Int) != 0) = true := by simp; omega
  clear tab chk run bac kee tur hG g1 h0
  go_enter Tryd.func6, Tryd.ntmps6
  go_upto_region 1 with fail
  clear hw1
  go_wp2_with fail
  refine (TAB.out _ C1.out).mono ?_
  rintro e w2 ⟨rfl, b'⟩
  have C2 := hide' (C1.out.trans (b'.mono C1.out.size))
  clear b'  C1
  go_wp2_with fail
  refine (CHK.out _ C2.out).mono ?_
  rintro e w3 ⟨rfl, b'⟩
  have C3 := hide' (C2.out.trans (b'.mono C2.out.size))
  clear b'  C2
  go_wp2_with fail
  refine (ERR.out _ C3.out).mono ?_
  rintro e w4 ⟨rfl, b'⟩
  have C4 := hide' (C3.out.trans (b'.mono C3.out.size))
  clear b'  C3
  obtain ⟨x0, x1, x2⟩ := SV.out _ C4.out
  go_wp2_with fail
  refine (RUN.out _ C4.out).mono ?_
  rintro e w5 ⟨rfl, b'⟩
  have C5 := hide' (C4.out.trans (b'.mono C4.out.size))
  clear b' x0 x1 x2 C4
  have C6 := hide' (C5.out.alloc C5.out.size (.cells #[.int .i64 0, .int .i64 0, .slice none 0 0] 26))
  have Gu0 := hide' (show (w5.alloc (.cells #[.int .i64 0, .int .i64 0, .slice none 0 0] 26)).heap[w5.heap.size]? = some (.cells #[.int .i64 0, .int .i64 0, .slice none 0 0] 26 (0, 0)) from heap_alloc_new _ _)
  clear C5
  go_wp2_with fail
  refine (ERR.out _ C6.out).mono ?_
  rintro e w6 ⟨rfl, b'⟩
  have C7 := hide' (C6.out.trans (b'.mono C6.out.size))
  have Gu7 := hide' ((b'.block _ (lt_of_block Gu0.out)).trans Gu0.out)
  clear b'  C6 Gu0
  have C8 := hide' (C7.out.alloc C7.out.size (.cells #[.int .i64 0, .int .i64 0, .slice none 0 0] 26))
  have Gu8 := hide' ((Below.heap_alloc _ (.cells #[.int .i64 0, .int .i64 0, .slice none 0 0] 26) _ (lt_of_block Gu7.out)).trans Gu7.out)
  have Gv0 := hide' (show (w6.alloc (.cells #[.int .i64 0, .int .i64 0, .slice none 0 0] 26)).heap[w6.heap.size]? = some (.cells #[.int .i64 0, .int .i64 0, .slice none 0 0] 26 (0, 0)) from heap_alloc_new _ _)
  clear C7 Gu7
  have z0 := cell_of_row _ _ 0 _ _ _ Gu8.out
  have z1 := cell_of_row _ _ 1 _ _ _ Gu8.out
  have z2 := cell_of_row _ _ 2 _ _ _ Gu8.out
  simp at z0 z1 z2
  have y0 := cell_of_row _ _ 0 _ _ _ Gv0.out
  have y1 := cell_of_row _ _ 1 _ _ _ Gv0.out
  have y2 := cell_of_row _ _ 2 _ _ _ Gv0.out
  simp at y0 y1 y2
  go_wp2_with fail
  refine (alike_br 0 0 [] none none 0 0 0 0 _ ⟨rfl, Nat.zero_le _, fun k hk => by simp at hk⟩ ⟨rfl, Nat.zero_le _, fun k hk => by simp at hk⟩).mono ?_
  rintro e w7 ⟨rfl, b'⟩
  have C9 := hide' (C8.out.trans (b'.mono C8.out.size))
  have Gu9 := hide' ((b'.block _ (lt_of_block Gu8.out)).trans Gu8.out)
  have Gv9 := hide' ((b'.block _ (lt_of_block Gv0.out)).trans Gv0.out)
  clear b' z0 z1 z2 y0 y1 y2 C8 Gu8 Gv0
  clear Gu9 Gv9
  go_wp2_with fail
  refine (BAC.out _ C9.out).mono ?_
  rintro e w8 ⟨rfl, b'⟩
  have C10 := hide' (C9.out.trans (b'.mono C9.out.size))
  clear b'  C9
  go_wp2_with fail
  refine (ERR.out _ C10.out).mono ?_
  rintro e w9 ⟨rfl, b'⟩
  have C11 := hide' (C10.out.trans (b'.mono C10.out.size))
  clear b'  C10
  go_wp2_with fail
  refine (ints_br [] none none 0 0 0 0 _ ⟨rfl, Nat.zero_le _, fun k hk => by simp at hk⟩ ⟨rfl, Nat.zero_le _, fun k hk => by simp at hk⟩).mono ?_
  rintro e w10 ⟨rfl, b'⟩
  have C12 := hide' (C11.out.trans (b'.mono C11.out.size))
  clear b'  C11
  go_wp2_with fail
  refine (KEE.out _ C12.out).mono ?_
  rintro e w11 ⟨rfl, b'⟩
  have C13 := hide' (C12.out.trans (b'.mono C12.out.size))
  clear b'  C12
  go_wp2_with fail
  refine (ERR.out _ C13.out).mono ?_
  rintro e w12 ⟨rfl, b'⟩
  have C14 := hide' (C13.out.trans (b'.mono C13.out.size))
  clear b'  C13
  go_wp2_with fail
  refine (TUR.out _ C14.out).mono ?_
  rintro e w13 ⟨rfl, b'⟩
  have C15 := hide' (C14.out.trans (b'.mono C14.out.size))
  clear b'  C14
  go_wp2_with fail
  refine (ERR.out _ C15.out).mono ?_
  rintro e w14 ⟨rfl, b'⟩
  have C16 := hide' (C15.out.trans (b'.mono C15.out.size))
  clear b'  C15
  go_wp2
  go_ret
  exact ⟨rfl, BW.out _ C16.out⟩
end Go.Proofs.YtfeddccbhmbkmaaDoor

