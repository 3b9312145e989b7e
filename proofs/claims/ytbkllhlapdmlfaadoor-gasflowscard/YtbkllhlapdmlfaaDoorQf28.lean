/-
  What the last text of this claim leans on, part 28: ErrT, LawGf1, LawGfa.
-/
import Derived.Test.YtbkllhlapdmlfaaDoorQf27
import Derived.Test.YtbkllhlapdmlfaaDoorQf1
import Derived.Test.YtbkllhlapdmlfaaDoorQf19
import Derived.Test.YtbkllhlapdmlfaaDoorQf20
import Derived.Test.YtbkllhlapdmlfaaDoorQf21
import Derived.Test.YtbkllhlapdmlfaaDoorQf22
import Derived.Test.YtbkllhlapdmlfaaDoorQf23
import Derived.Test.YtbkllhlapdmlfaaDoorQf17
import Derived.Test.YtbkllhlapdmlfaaDoorQf18
import Derived.Test.YtbkllhlapdmlfaaDoorQf4
import Derived.Test.YtbkllhlapdmlfaaDoorQf24
import Derived.Test.YtbkllhlapdmlfaaDoorQf25
import Derived.Test.YtbkllhlapdmlfaaDoorQf26
import Derived.Deep.CutRange
namespace Go.Proofs.YtbkllhlapdmlfaaDoor
open Go.RowKit
set_option linter.unusedVariables false
theorem err_any (k : Nat) (w : World) (hg : Handle w) : Calls Tryd.prog 11 #[errOf k, .int .i64 (k : Int)] w fun e w' => e = .returned (.bool true) ∧ Below w.heap.size w w' := by
  by_cases h : k = 0
  · subst h; exact err_nil_true w
  · rw [show errOf k = .iface 83 (.int .i64 (k : Int)) by unfold errOf; rw [if_neg h]]; exact err_some_true _ w hg
end Go.Proofs.YtbkllhlapdmlfaaDoor

namespace Go.Proofs.YtbkllhlapdmlfaaDoor
open Go.RowKit
set_option linter.unusedVariables false
/-- A gas is answered. -/
def GasOk (K W H : Int) (n : Nat) (ys : List Int) (w : World) (e : Ending) (w' : World) : Prop := ∃ q, e = .returned (.tuple #[.agg #[.int .i64 K, .int .i64 W, .int .i64 H, .slice (some ⟨q, 0, none⟩) n n], .nilIface]) ∧ ArgP w' ys (some ⟨q, 0, none⟩) n n ∧ Below w.heap.size w w'
def MassE (x : Int) (f : Nat) (w : World) (e : Ending) (w' : World) : Prop := e = .returned (.tuple #[.int .i64 x, errOf f]) ∧ Below w.heap.size w w'
def PushE (x y : Int) (f : Nat) (w : World) (e : Ending) (w' : World) : Prop := e = .returned (.tuple #[.int .i64 x, .int .i64 y, errOf f]) ∧ Below w.heap.size w w'
def NumE (x : Int) (w : World) (e : Ending) (w' : World) : Prop := e = .returned (.int .i64 x) ∧ Below w.heap.size w w'
def TwoE (x y : Int) (w : World) (e : Ending) (w' : World) : Prop := e = .returned (.tuple #[.int .i64 x, .int .i64 y]) ∧ Below w.heap.size w w'
/-- A gas is answered, with no error beside it. -/
def GasRef (K W H : Int) (n : Nat) (a0 : Option Addr) (ys : List Int) (w : World) (e : Ending) (w' : World) : Prop := ∃ q c, e = .returned (.agg #[.int .i64 K, .int .i64 W, .int .i64 H, .slice q n c]) ∧ (∀ g off, q = some ⟨g, off, none⟩ → a0 = some ⟨g, off, none⟩ ∨ w.heap.size ≤ g) ∧ ArgP w' ys q n c ∧ Below w.heap.size w w'
def GasRfT (K W H : Int) (n : Nat) (ys : List Int) (w : World) (e : Ending) (w' : World) : Prop := ∃ q c, e = .returned (.agg #[.int .i64 K, .int .i64 W, .int .i64 H, .slice q n c]) ∧ ArgP w' ys q n c ∧ Below w.heap.size w w'
def ErrS (f : Nat) (w : World) (e : Ending) (w' : World) : Prop := e = .returned (errOf f) ∧ Below w.heap.size w w'
theorem arg_none (w : World) : ArgP w [] none 0 0 := ⟨rfl, by simp [maxLen], fun k hk => absurd hk (by simp)⟩
theorem setG_other {w : World} {g k : Nat} (hk : k ≠ g) (x0 x1 x2 x3 : Value) : ((((w.setCell ⟨g, 0, none⟩ x0).setCell ⟨g, 1, none⟩ x1).setCell ⟨g, 2, none⟩ x2).setCell ⟨g, 3, none⟩ x3).heap[k]? = w.heap[k]? := by
  rw [Below.heap_setCell _ _ _ _ (by simpa using hk), Below.heap_setCell _ _ _ _ (by simpa using hk), Below.heap_setCell _ _ _ _ (by simpa using hk), Below.heap_setCell _ _ _ _ (by simpa using hk)]
theorem setG_bel {B : Nat} {a w : World} (h : Below B a w) {g : Nat} (hg : B ≤ g) (x0 x1 x2 x3 : Value) : Below B a ((((w.setCell ⟨g, 0, none⟩ x0).setCell ⟨g, 1, none⟩ x1).setCell ⟨g, 2, none⟩ x2).setCell ⟨g, 3, none⟩ x3) :=
  (((h.setCell hg _).setCell hg _).setCell hg _).setCell hg _
end Go.Proofs.YtbkllhlapdmlfaaDoor

namespace Go.Proofs.YtbkllhlapdmlfaaDoor
open Go.RowKit
set_option linter.unusedVariables false
set_option maxRecDepth 100000 in
set_option maxHeartbeats 12800000 in
theorem law_gf_A (K W H : Int) (E : Nat) (e0 : E ≠ 0) (k : Int) (cs : List Int) (a : Option Addr) (n c : Nat) (b : Option Addr) (m d : Nat) (w : World) (hg : Handle w) (hC : ArgP w cs b m d)
    (rg : ∀ V, Below w.heap.size w V → Calls Tryd.prog 22 #[.agg #[.int .i64 K, .int .i64 W, .int .i64 H, .slice a n c]] V (NumE (E : Nat) V))
    (ck : ∀ V, Below w.heap.size w V → Calls Tryd.prog 23 #[.agg #[.int .i64 K, .int .i64 W, .int .i64 H, .slice a n c]] V (ErrS E V))
    (run : ∀ V, Below w.heap.size w V → Calls Tryd.prog 24 #[.agg #[.int .i64 K, .int .i64 W, .int .i64 H, .slice a n c], .slice b m d, .int .i64 k] V (GasBad E V))
    (ma : ∀ V, Below w.heap.size w V → Calls Tryd.prog 27 #[.agg #[.int .i64 K, .int .i64 W, .int .i64 H, .slice a n c]] V (MassE 0 E V))
    (pu : ∀ V, Below w.heap.size w V → Calls Tryd.prog 28 #[.agg #[.int .i64 K, .int .i64 W, .int .i64 H, .slice a n c]] V (PushE 0 0 E V))
    (tu : ∀ V, Below w.heap.size w V → Calls Tryd.prog 29 #[.agg #[.int .i64 K, .int .i64 W, .int .i64 H, .slice a n c]] V (GasBad E V)) :
    Calls Tryd.prog 6 #[.agg #[.int .i64 K, .int .i64 W, .int .i64 H, .slice a n c], .slice b m d, .int .i64 k] w fun e w' => e = .returned (.bool true) ∧ Below w.heap.size w w' := by
  obtain ⟨w1, hw1⟩ : ∃ w1, w.alloc (.cells #[.int .i64 K, .int .i64 W, .int .i64 H, .slice a n c] 49) = w1 := ⟨_, rfl⟩
  have BB := hide' (show Below w.heap.size w w1 by rw [← hw1]; exact (Below.refl _ _).alloc (Nat.le_refl _) _)
  have g1 : w1.heap[w.heap.size]? = some (.cells #[.int .i64 K, .int .i64 W, .int .i64 H, .slice a n c] 49 (0, 0)) := by rw [← hw1]; exact heap_alloc_new _ _
  have WL := hide' (lt_of_block g1)
  have SV := hide' (fun (V : World) (h : Below w1.heap.size w1 V) => show V.cell? ⟨w.heap.size, 0, none⟩ = some (.int .i64 K) ∧ V.cell? ⟨w.heap.size, 1, none⟩ = some (.int .i64 W) ∧ V.cell? ⟨w.heap.size, 2, none⟩ = some (.int .i64 H) ∧ V.cell? ⟨w.heap.size, 3, none⟩ = some (.slice a n c) from by
    have e1 := (h.block _ (lt_of_block g1)).trans g1
    exact ⟨cell_of_row V _ 0 _ _ _ e1, cell_of_row V _ 1 _ _ _ e1, cell_of_row V _ 2 _ _ _ e1, cell_of_row V _ 3 _ _ _ e1⟩)
  have BW := hide' (fun (V : World) (h : Below w1.heap.size w1 V) => BB.out.trans (h.mono BB.out.size))
  have C0 := hide' (Below.refl w1.heap.size w1)
  have HE := hide' (fun (V : World) (h : Below w1.heap.size w1 V) q => err_any q V (hg.below (BW.out V h)))
  have RGC := hide' (fun (V : World) (h : Below w1.heap.size w1 V) => rg V (BW.out V h))
  have CKC := hide' (fun (V : World) (h : Below w1.heap.size w1 V) => ck V (BW.out V h))
  have RUNC := hide' (fun (V : World) (h : Below w1.heap.size w1 V) => run V (BW.out V h))
  have MAC := hide' (fun (V : World) (h : Below w1.heap.size w1 V) => ma V (BW.out V h))
  have PUC := hide' (fun (V : World) (h : Below w1.heap.size w1 V) => pu V (BW.out V h))
  have TUC := hide' (fun (V : World) (h : Below w1.heap.size w1 V) => tu V (BW.out V h))
  have HCA := hide' (fun (V : World) (h : Below w1.heap.size w1 V) => hC.below (BW.out V h))
  have CL := hide' hC.len
  have cm : m ≤ 9223372036854775807 := by have := hC.max; simp [maxLen] at this; omega
  have EP := hide' (errOf_posB e0)
  have eb : ((E : Int) == 0) = false := by simp; omega
  have en : ¬ (E : Int) = 0 := by omega
  obtain ⟨x0, x1, x2, x3⟩ := SV.out _ C0.out
  clear rg ck run ma pu tu g1 hg hC
  go_enter Tryd.func6, Tryd.ntmps6
  go_upto_region 1 with fail
  clear hw1
  go_wp2_with fail
  refine (RGC.out _ C0.out).mono ?_
  rintro e w2 ⟨rfl, b'⟩
  have C1 := hide' (C0.out.trans (b'.mono C0.out.size))
  clear b' x0 x1 x2 x3 C0
  obtain ⟨x0, x1, x2, x3⟩ := SV.out _ C1.out
  go_wp2_with fail
  refine (CKC.out _ C1.out).mono ?_
  rintro e w3 ⟨rfl, b'⟩
  have C2 := hide' (C1.out.trans (b'.mono C1.out.size))
  clear b' x0 x1 x2 x3 C1
  go_wp2_with fail
  refine (HE.out _ C2.out E).mono ?_
  rintro e w4 ⟨rfl, b'⟩
  have C3 := hide' (C2.out.trans (b'.mono C2.out.size))
  clear b' C2
  obtain ⟨V4, rfl⟩ : ∃ V4, V4 = w4 := ⟨_, rfl⟩
  have CA4 := hide' (HCA.out _ C3.out)
  go_wp2
  go_loopw [10, 11] (fun fv iv wr => fv = .int .i64 (E : Int) ∧ iv = .int .i64 0 ∧ V4 = wr) (fun _ _ _ => 0)
  case atStart => exact ⟨rfl, rfl, rfl⟩
  case round =>
  obtain ⟨rfl, rfl, rfl⟩ := hrel
  by_cases mm : (0 : Int) < (m : Int)
  · obtain ⟨x0, x1, x2, x3⟩ := SV.out _ C3.out
    go_wp2_with fail
    refine (RUNC.out _ C3.out).mono ?_
    unfold GasBad
    rintro e w5 ⟨rfl, b'⟩
    have C4 := hide' (C3.out.trans (b'.mono C3.out.size))
    clear b' x0 x1 x2 x3 C3
    have C5 := hide' (C4.out.alloc C4.out.size (.cells #[.int .i64 0, .int .i64 0, .int .i64 0, .slice none 0 0] 49))
    have Ga0 := hide' (show (w5.alloc (.cells #[.int .i64 0, .int .i64 0, .int .i64 0, .slice none 0 0] 49)).heap[w5.heap.size]? = some (.cells #[.int .i64 0, .int .i64 0, .int .i64 0, .slice none 0 0] 49 (0, 0)) from heap_alloc_new _ _)
    clear C4
    go_wp2_with fail
    refine (HE.out _ C5.out E).mono ?_
    rintro e w6 ⟨rfl, b'⟩
    have C6 := hide' (C5.out.trans (b'.mono C5.out.size))
    have Ga6 := hide' ((b'.block _ (lt_of_block Ga0.out)).trans Ga0.out)
    clear b' C5 Ga0
    have C7 := hide' (C6.out.alloc C6.out.size (.cells #[.int .i64 0, .int .i64 0, .int .i64 0, .slice none 0 0] 49))
    have Ga7 := hide' ((Below.heap_alloc _ (.cells #[.int .i64 0, .int .i64 0, .int .i64 0, .slice none 0 0] 49) _ (lt_of_block Ga6.out)).trans Ga6.out)
    have Gb0 := hide' (show (w6.alloc (.cells #[.int .i64 0, .int .i64 0, .int .i64 0, .slice none 0 0] 49)).heap[w6.heap.size]? = some (.cells #[.int .i64 0, .int .i64 0, .int .i64 0, .slice none 0 0] 49 (0, 0)) from heap_alloc_new _ _)
    clear C6 Ga6
    have z0 := cell_of_row _ _ 0 _ _ _ Ga7.out
    have z1 := cell_of_row _ _ 1 _ _ _ Ga7.out
    have z2 := cell_of_row _ _ 2 _ _ _ Ga7.out
    have z3 := cell_of_row _ _ 3 _ _ _ Ga7.out
    simp at z0 z1 z2 z3
    have y0 := cell_of_row _ _ 0 _ _ _ Gb0.out
    have y1 := cell_of_row _ _ 1 _ _ _ Gb0.out
    have y2 := cell_of_row _ _ 2 _ _ _ Gb0.out
    have y3 := cell_of_row _ _ 3 _ _ _ Gb0.out
    simp at y0 y1 y2 y3
    go_wp2_with fail
    refine (gases_same 0 0 0 [] none none 0 0 0 0 _ (arg_none _) (arg_none _)).mono ?_
    rintro e w9 ⟨rfl, b'⟩
    have C8 := hide' (C7.out.trans (b'.mono C7.out.size))
    clear b' z0 z1 z2 z3 y0 y1 y2 y3 C7 Ga7 Gb0
    obtain ⟨x0, x1, x2, x3⟩ := SV.out _ C8.out
    go_wp2_with fail
    refine (MAC.out _ C8.out).mono ?_
    rintro e wa ⟨rfl, b'⟩
    have C9 := hide' (C8.out.trans (b'.mono C8.out.size))
    clear b' x0 x1 x2 x3 C8
    go_wp2_with fail
    refine (HE.out _ C9.out E).mono ?_
    rintro e wa' ⟨rfl, b'⟩
    have C10 := hide' (C9.out.trans (b'.mono C9.out.size))
    clear b' C9
    obtain ⟨x0, x1, x2, x3⟩ := SV.out _ C10.out
    go_wp2_with fail
    refine (PUC.out _ C10.out).mono ?_
    rintro e wb ⟨rfl, b'⟩
    have C11 := hide' (C10.out.trans (b'.mono C10.out.size))
    clear b' x0 x1 x2 x3 C10
    go_wp2_with fail
    refine (HE.out _ C11.out E).mono ?_
    rintro e wb' ⟨rfl, b'⟩
    have C12 := hide' (C11.out.trans (b'.mono C11.out.size))
    clear b' C11
    obtain ⟨x0, x1, x2, x3⟩ := SV.out _ C12.out
    go_wp2_with fail
    refine (TUC.out _ C12.out).mono ?_
    unfold GasBad
    rintro e wc ⟨rfl, b'⟩
    have C13 := hide' (C12.out.trans (b'.mono C12.out.size))
    clear b' x0 x1 x2 x3 C12
    have C14 := hide' (C13.out.alloc C13.out.size (.cells #[.int .i64 0, .int .i64 0, .int .i64 0, .slice none 0 0] 49))
    have Gt0 := hide' (show (wc.alloc (.cells #[.int .i64 0, .int .i64 0, .int .i64 0, .slice none 0 0] 49)).heap[wc.heap.size]? = some (.cells #[.int .i64 0, .int .i64 0, .int .i64 0, .slice none 0 0] 49 (0, 0)) from heap_alloc_new _ _)
    clear C13
    go_wp2_with fail
    refine (HE.out _ C14.out E).mono ?_
    rintro e wd ⟨rfl, b'⟩
    have C15 := hide' (C14.out.trans (b'.mono C14.out.size))
    have Gt15 := hide' ((b'.block _ (lt_of_block Gt0.out)).trans Gt0.out)
    clear b' C14 Gt0
    have z0 := cell_of_row _ _ 0 _ _ _ Gt15.out
    have z1 := cell_of_row _ _ 1 _ _ _ Gt15.out
    have z2 := cell_of_row _ _ 2 _ _ _ Gt15.out
    have z3 := cell_of_row _ _ 3 _ _ _ Gt15.out
    simp at z0 z1 z2 z3
    go_wp2_with fail
    refine (gases_same 0 0 0 [] none none 0 0 0 0 _ (arg_none _) (arg_none _)).mono ?_
    rintro e we ⟨rfl, b'⟩
    have CZ := hide' (C15.out.trans (b'.mono C15.out.size))
    clear b' z0 z1 z2 z3
    go_wp2
    go_ret
    exact ⟨rfl, BW.out _ CZ.out⟩
  · have mz : ¬ (0 : Int) < (m : Int) := mm
    obtain ⟨x0, x1, x2, x3⟩ := SV.out _ C3.out
    go_wp2_with fail
    refine (RUNC.out _ C3.out).mono ?_
    unfold GasBad
    rintro e w5 ⟨rfl, b'⟩
    have C4 := hide' (C3.out.trans (b'.mono C3.out.size))
    clear b' x0 x1 x2 x3 C3
    have C5 := hide' (C4.out.alloc C4.out.size (.cells #[.int .i64 0, .int .i64 0, .int .i64 0, .slice none 0 0] 49))
    have Ga0 := hide' (show (w5.alloc (.cells #[.int .i64 0, .int .i64 0, .int .i64 0, .slice none 0 0] 49)).heap[w5.heap.size]? = some (.cells #[.int .i64 0, .int .i64 0, .int .i64 0, .slice none 0 0] 49 (0, 0)) from heap_alloc_new _ _)
    clear C4
    go_wp2_with fail
    refine (HE.out _ C5.out E).mono ?_
    rintro e w6 ⟨rfl, b'⟩
    have C6 := hide' (C5.out.trans (b'.mono C5.out.size))
    have Ga6 := hide' ((b'.block _ (lt_of_block Ga0.out)).trans Ga0.out)
    clear b' C5 Ga0
    have C7 := hide' (C6.out.alloc C6.out.size (.cells #[.int .i64 0, .int .i64 0, .int .i64 0, .slice none 0 0] 49))
    have Ga7 := hide' ((Below.heap_alloc _ (.cells #[.int .i64 0, .int .i64 0, .int .i64 0, .slice none 0 0] 49) _ (lt_of_block Ga6.out)).trans Ga6.out)
    have Gb0 := hide' (show (w6.alloc (.cells #[.int .i64 0, .int .i64 0, .int .i64 0, .slice none 0 0] 49)).heap[w6.heap.size]? = some (.cells #[.int .i64 0, .int .i64 0, .int .i64 0, .slice none 0 0] 49 (0, 0)) from heap_alloc_new _ _)
    clear C6 Ga6
    have z0 := cell_of_row _ _ 0 _ _ _ Ga7.out
    have z1 := cell_of_row _ _ 1 _ _ _ Ga7.out
    have z2 := cell_of_row _ _ 2 _ _ _ Ga7.out
    have z3 := cell_of_row _ _ 3 _ _ _ Ga7.out
    simp at z0 z1 z2 z3
    have y0 := cell_of_row _ _ 0 _ _ _ Gb0.out
    have y1 := cell_of_row _ _ 1 _ _ _ Gb0.out
    have y2 := cell_of_row _ _ 2 _ _ _ Gb0.out
    have y3 := cell_of_row _ _ 3 _ _ _ Gb0.out
    simp at y0 y1 y2 y3
    go_wp2_with fail
    refine (gases_same 0 0 0 [] none none 0 0 0 0 _ (arg_none _) (arg_none _)).mono ?_
    rintro e w9 ⟨rfl, b'⟩
    have C8 := hide' (C7.out.trans (b'.mono C7.out.size))
    clear b' z0 z1 z2 z3 y0 y1 y2 y3 C7 Ga7 Gb0
    obtain ⟨x0, x1, x2, x3⟩ := SV.out _ C8.out
    go_wp2_with fail
    refine (MAC.out _ C8.out).mono ?_
    rintro e wa ⟨rfl, b'⟩
    have C9 := hide' (C8.out.trans (b'.mono C8.out.size))
    clear b' x0 x1 x2 x3 C8
    go_wp2_with fail
    refine (HE.out _ C9.out E).mono ?_
    rintro e wa' ⟨rfl, b'⟩
    have C10 := hide' (C9.out.trans (b'.mono C9.out.size))
    clear b' C9
    obtain ⟨x0, x1, x2, x3⟩ := SV.out _ C10.out
    go_wp2_with fail
    refine (PUC.out _ C10.out).mono ?_
    rintro e wb ⟨rfl, b'⟩
    have C11 := hide' (C10.out.trans (b'.mono C10.out.size))
    clear b' x0 x1 x2 x3 C10
    go_wp2_with fail
    refine (HE.out _ C11.out E).mono ?_
    rintro e wb' ⟨rfl, b'⟩
    have C12 := hide' (C11.out.trans (b'.mono C11.out.size))
    clear b' C11
    obtain ⟨x0, x1, x2, x3⟩ := SV.out _ C12.out
    go_wp2_with fail
    refine (TUC.out _ C12.out).mono ?_
    unfold GasBad
    rintro e wc ⟨rfl, b'⟩
    have C13 := hide' (C12.out.trans (b'.mono C12.out.size))
    clear b' x0 x1 x2 x3 C12
    have C14 := hide' (C13.out.alloc C13.out.size (.cells #[.int .i64 0, .int .i64 0, .int .i64 0, .slice none 0 0] 49))
    have Gt0 := hide' (show (wc.alloc (.cells #[.int .i64 0, .int .i64 0, .int .i64 0, .slice none 0 0] 49)).heap[wc.heap.size]? = some (.cells #[.int .i64 0, .int .i64 0, .int .i64 0, .slice none 0 0] 49 (0, 0)) from heap_alloc_new _ _)
    clear C13
    go_wp2_with fail
    refine (HE.out _ C14.out E).mono ?_
    rintro e wd ⟨rfl, b'⟩
    have C15 := hide' (C14.out.trans (b'.mono C14.out.size))
    have Gt15 := hide' ((b'.block _ (lt_of_block Gt0.out)).trans Gt0.out)
    clear b' C14 Gt0
    have z0 := cell_of_row _ _ 0 _ _ _ Gt15.out
    have z1 := cell_of_row _ _ 1 _ _ _ Gt15.out
    have z2 := cell_of_row _ _ 2 _ _ _ Gt15.out
    have z3 := cell_of_row _ _ 3 _ _ _ Gt15.out
    simp at z0 z1 z2 z3
    go_wp2_with fail
    refine (gases_same 0 0 0 [] none none 0 0 0 0 _ (arg_none _) (arg_none _)).mono ?_
    rintro e we ⟨rfl, b'⟩
    have CZ := hide' (C15.out.trans (b'.mono C15.out.size))
    clear b' z0 z1 z2 z3
    go_wp2
    go_ret
    exact ⟨rfl, BW.out _ CZ.out⟩
end Go.Proofs.YtbkllhlapdmlfaaDoor

