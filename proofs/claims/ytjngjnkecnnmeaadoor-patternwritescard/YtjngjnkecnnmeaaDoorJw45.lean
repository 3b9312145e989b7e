/-
  What the last text of this claim leans on, part 45: LawW.
-/
import Derived.Test.YtjngjnkecnnmeaaDoorJw8
import Derived.Test.YtjngjnkecnnmeaaDoorJw9
import Derived.Test.YtjngjnkecnnmeaaDoorJw25
import Derived.Test.YtjngjnkecnnmeaaDoorJw37
import Derived.Test.YtjngjnkecnnmeaaDoorJw38
import Derived.Test.YtjngjnkecnnmeaaDoorJw43
import Derived.Test.YtjngjnkecnnmeaaDoorJw44
namespace Go.Proofs.YtjngjnkecnnmeaaDoor
open Go.RowKit
set_option linter.unusedVariables false

set_option maxRecDepth 100000 in
set_option maxHeartbeats 6400000 in
theorem law_writes_bad (W H k : Int) (xs : List Int) (a : Option Addr) (n c : Nat) (w : World) (hP : ArgP w xs a n c) (hg : Handle w) (hs : shapeF W H xs ≠ 0) :
    Calls Tryd.prog 6 #[.agg #[.int .i64 W, .int .i64 H, .slice a n c], .int .i64 k] w fun e w' => e = .returned (.bool true) ∧ Below w.heap.size w w' := by
  obtain ⟨w1, hw1⟩ : ∃ w1, w.alloc (.cells #[.int .i64 W, .int .i64 H, .slice a n c] 51) = w1 := ⟨_, rfl⟩
  have AP := hide' (show ArgP w1 xs a n c by rw [← hw1]; exact hP.alloc _)
  have BX := hide' (show TB w.heap.size (.int .i64 W) (.int .i64 H) (.slice a n c) w1 by rw [← hw1]; exact TB.new w _ _ _ _)
  have BB := hide' (show Below w.heap.size w w1 by rw [← hw1]; exact (Below.refl _ _).alloc (Nat.le_refl _) _)
  have HG := hide' (hg.below BB.out)
  have HS := hide' hs
  obtain ⟨f, hf⟩ : ∃ f, shapeF W H xs = f := ⟨_, rfl⟩
  have HF := hide' hf
  have ER := hide' (show errOf (shapeF W H xs) = .iface 87 (.int .i64 (f : Int)) by rw [hf]; exact errOf_pos (by rw [← hf]; exact hs))
  have k0 : ((f : Int) == 0) = false := by rw [hf] at hs; simp; omega
  have k1 : ((f : Int) != 0) = true := by rw [hf] at hs; simp; omega
  clear hP hg hs hf
  have C0 := hide' (Below.refl w1.heap.size w1)
  obtain ⟨x0, x1, x2, -⟩ := BX.out
  go_enter Tryd.func6, Tryd.ntmps6
  go_wp2_with fail
  refine (Shape_P W H xs a n c _ (AP.out.below C0.out)).mono ?_
  rw [HF.out]
  rintro e w2 ⟨rfl, b⟩
  have C1 := hide' (C0.out.trans (b.mono C0.out.size))
  clear hw1
  clear b x0 x1 x2 C0
  obtain ⟨x0, x1, x2, -⟩ := BX.out.next C1.out
  go_wp2_with fail
  refine (Check_P W H xs a n c _ (AP.out.below C1.out)).mono ?_
  rw [ER.out]
  rintro e w3 ⟨rfl, b⟩
  have C2 := hide' (C1.out.trans (b.mono C1.out.size))
  clear b x0 x1 x2 C1
  obtain ⟨x0, x1, x2, -⟩ := BX.out.next C2.out
  go_wp2_with fail
  refine (err_some_true (f : Int) _ (HG.out.below C2.out)).mono ?_
  rintro e w4 ⟨rfl, b⟩
  have C3 := hide' (C2.out.trans (b.mono C2.out.size))
  clear b x0 x1 x2 C2
  obtain ⟨x0, x1, x2, -⟩ := BX.out.next C3.out
  go_wp2_with fail
  refine (pRuns_bad W H xs a n c _ (AP.out.below C3.out) HS.out).mono ?_
  rw [HF.out]
  rintro e w5 ⟨rfl, b⟩
  have C4 := hide' (C3.out.trans (b.mono C3.out.size))
  clear b x0 x1 x2 C3
  obtain ⟨x0, x1, x2, -⟩ := BX.out.next C4.out
  go_wp2_with fail
  refine (err_some_true (f : Int) _ (HG.out.below C4.out)).mono ?_
  rintro e w6 ⟨rfl, b⟩
  have C5 := hide' (C4.out.trans (b.mono C4.out.size))
  clear b x0 x1 x2 C4
  obtain ⟨x0, x1, x2, -⟩ := BX.out.next C5.out
  go_wp2_with fail
  refine (pDraw_bad W H xs a n c _ (AP.out.below C5.out) HS.out).mono ?_
  rw [HF.out]
  rintro e w7 ⟨rfl, b⟩
  have C6 := hide' (C5.out.trans (b.mono C5.out.size))
  clear b x0 x1 x2 C5
  obtain ⟨x0, x1, x2, -⟩ := BX.out.next C6.out
  go_wp2_with fail
  refine (err_some_true (f : Int) _ (HG.out.below C6.out)).mono ?_
  rintro e w8 ⟨rfl, b⟩
  have C7 := hide' (C6.out.trans (b.mono C6.out.size))
  clear b x0 x1 x2 C6
  obtain ⟨x0, x1, x2, -⟩ := BX.out.next C7.out
  go_wp2_with fail
  refine (pTrim_bad W H xs a n c _ (AP.out.below C7.out) HS.out).mono ?_
  rw [HF.out]
  rintro e w9 ⟨rfl, b⟩
  have C8 := hide' (C7.out.trans (b.mono C7.out.size))
  clear b x0 x1 x2 C7
  have Q1 := hide' (TB.new w9 (.int .i64 0) (.int .i64 0) (.slice none 0 0) 51)
  have C8a := hide' (C8.out.alloc C8.out.size (.cells #[.int .i64 0, .int .i64 0, .slice none 0 0] 51))
  clear C8
  have C8 := C8a
  clear C8a
  obtain ⟨x0, x1, x2, -⟩ := BX.out.next C8.out
  go_wp2_with fail
  refine (err_some_true (f : Int) _ (HG.out.below C8.out)).mono ?_
  rintro e w10 ⟨rfl, b⟩
  have C9 := hide' (C8.out.trans (b.mono C8.out.size))
  have Q1' := hide' (Q1.out.next b)
  clear Q1
  have Q1 := Q1'
  clear Q1'
  clear b x0 x1 x2 C8
  obtain ⟨x0, x1, x2, -⟩ := BX.out.next C9.out
  go_wp2_with fail
  refine (pCanon_bad W H xs a n c _ (AP.out.below C9.out) HS.out).mono ?_
  rw [HF.out]
  unfold ErrPost
  rintro e w11 ⟨rfl, b⟩
  have C10 := hide' (C9.out.trans (b.mono C9.out.size))
  have Q1' := hide' (Q1.out.next b)
  clear Q1
  have Q1 := Q1'
  clear Q1'
  clear b x0 x1 x2 C9
  have Q2 := hide' (TB.new w11 (.int .i64 0) (.int .i64 0) (.slice none 0 0) 51)
  have C10a := hide' (C10.out.alloc C10.out.size (.cells #[.int .i64 0, .int .i64 0, .slice none 0 0] 51))
  clear C10
  have C10 := C10a
  clear C10a
  have Q1' := hide' (Q1.out.alloc (.cells #[.int .i64 0, .int .i64 0, .slice none 0 0] 51))
  clear Q1
  have Q1 := Q1'
  clear Q1'
  obtain ⟨x0, x1, x2, -⟩ := BX.out.next C10.out
  go_wp2_with fail
  refine (err_some_true (f : Int) _ (HG.out.below C10.out)).mono ?_
  rintro e w12 ⟨rfl, b⟩
  have C11 := hide' (C10.out.trans (b.mono C10.out.size))
  have Q1' := hide' (Q1.out.next b)
  clear Q1
  have Q1 := Q1'
  clear Q1'
  have Q2' := hide' (Q2.out.next b)
  clear Q2
  have Q2 := Q2'
  clear Q2'
  clear b x0 x1 x2 C10
  obtain ⟨x0, x1, x2, -⟩ := BX.out.next C11.out
  go_wp2_with fail
  refine (pTurn_bad W H k xs a n c _ (AP.out.below C11.out) HS.out).mono ?_
  rw [HF.out]
  unfold ErrPost
  rintro e w13 ⟨rfl, b⟩
  have C12 := hide' (C11.out.trans (b.mono C11.out.size))
  have Q1' := hide' (Q1.out.next b)
  clear Q1
  have Q1 := Q1'
  clear Q1'
  have Q2' := hide' (Q2.out.next b)
  clear Q2
  have Q2 := Q2'
  clear Q2'
  clear b x0 x1 x2 C11
  have Q3 := hide' (TB.new w13 (.int .i64 0) (.int .i64 0) (.slice none 0 0) 51)
  have C12a := hide' (C12.out.alloc C12.out.size (.cells #[.int .i64 0, .int .i64 0, .slice none 0 0] 51))
  clear C12
  have C12 := C12a
  clear C12a
  have Q1' := hide' (Q1.out.alloc (.cells #[.int .i64 0, .int .i64 0, .slice none 0 0] 51))
  clear Q1
  have Q1 := Q1'
  clear Q1'
  have Q2' := hide' (Q2.out.alloc (.cells #[.int .i64 0, .int .i64 0, .slice none 0 0] 51))
  clear Q2
  have Q2 := Q2'
  clear Q2'
  obtain ⟨x0, x1, x2, -⟩ := BX.out.next C12.out
  go_wp2_with fail
  refine (err_some_true (f : Int) _ (HG.out.below C12.out)).mono ?_
  rintro e w14 ⟨rfl, b⟩
  have C13 := hide' (C12.out.trans (b.mono C12.out.size))
  have Q1' := hide' (Q1.out.next b)
  clear Q1
  have Q1 := Q1'
  clear Q1'
  have Q2' := hide' (Q2.out.next b)
  clear Q2
  have Q2 := Q2'
  clear Q2'
  have Q3' := hide' (Q3.out.next b)
  clear Q3
  have Q3 := Q3'
  clear Q3'
  clear b x0 x1 x2 C12
  obtain ⟨x0, x1, x2, -⟩ := BX.out.next C13.out
  obtain ⟨y0, y1, y2, -⟩ := Q1.out
  go_wp2_with fail
  refine (Alike_same 0 0 (.slice none 0 0) (.slice none 0 0) [] _ (tab_nil _) (tab_nil _) (Nat.zero_le _)).mono ?_
  rintro e w15 ⟨rfl, b⟩
  have C14 := hide' (C13.out.trans (b.mono C13.out.size))
  have Q1' := hide' (Q1.out.next b)
  clear Q1
  have Q1 := Q1'
  clear Q1'
  have Q2' := hide' (Q2.out.next b)
  clear Q2
  have Q2 := Q2'
  clear Q2'
  have Q3' := hide' (Q3.out.next b)
  clear Q3
  have Q3 := Q3'
  clear Q3'
  clear b x0 x1 x2 C13
  obtain ⟨x0, x1, x2, -⟩ := BX.out.next C14.out
  clear y0 y1 y2
  obtain ⟨y0, y1, y2, -⟩ := Q2.out
  go_wp2_with fail
  refine (Alike_same 0 0 (.slice none 0 0) (.slice none 0 0) [] _ (tab_nil _) (tab_nil _) (Nat.zero_le _)).mono ?_
  rintro e w16 ⟨rfl, b⟩
  have C15 := hide' (C14.out.trans (b.mono C14.out.size))
  have Q1' := hide' (Q1.out.next b)
  clear Q1
  have Q1 := Q1'
  clear Q1'
  have Q2' := hide' (Q2.out.next b)
  clear Q2
  have Q2 := Q2'
  clear Q2'
  have Q3' := hide' (Q3.out.next b)
  clear Q3
  have Q3 := Q3'
  clear Q3'
  clear b x0 x1 x2 C14
  obtain ⟨x0, x1, x2, -⟩ := BX.out.next C15.out
  clear y0 y1 y2
  obtain ⟨y0, y1, y2, -⟩ := Q3.out
  go_wp2_with fail
  refine (Alike_same 0 0 (.slice none 0 0) (.slice none 0 0) [] _ (tab_nil _) (tab_nil _) (Nat.zero_le _)).mono ?_
  rintro e w17 ⟨rfl, b⟩
  have C16 := hide' (C15.out.trans (b.mono C15.out.size))
  have Q1' := hide' (Q1.out.next b)
  clear Q1
  have Q1 := Q1'
  clear Q1'
  have Q2' := hide' (Q2.out.next b)
  clear Q2
  have Q2 := Q2'
  clear Q2'
  have Q3' := hide' (Q3.out.next b)
  clear Q3
  have Q3 := Q3'
  clear Q3'
  clear b x0 x1 x2 C15
  obtain ⟨x0, x1, x2, -⟩ := BX.out.next C16.out
  clear y0 y1 y2
  go_wp2
  go_ret
  exact ⟨rfl, BB.out.trans (C16.out.mono BB.out.size)⟩
end Go.Proofs.YtjngjnkecnnmeaaDoor

