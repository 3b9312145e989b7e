/-
  What the last text of this claim leans on, part 30: LawGfc.
-/
import Derived.Test.YtbkllhlapdmlfaaDoorQf28
namespace Go.Proofs.YtbkllhlapdmlfaaDoor
open Go.RowKit
set_option linter.unusedVariables false
set_option maxRecDepth 100000 in
set_option maxHeartbeats 12800000 in
theorem law_gf_c6 (W H : Nat) (k : Int) (cs : List Int) (ys zs : List Int) (M X Y : Int) (a : Option Addr) (n c : Nat) (b : Option Addr) (m d : Nat) (w : World) (hg : Handle w) (hC : ArgP w cs b m d) (al : 0 < n → ∀ g off, a = some ⟨g, off, none⟩ → g < w.heap.size) (yl : n = ys.length) (bc : ¬ ∀ k (h : k < cs.length), cellB cs[k] = true)
    (rg : ∀ V, Below w.heap.size w V → Calls Tryd.prog 22 #[.agg #[.int .i64 6, .int .i64 (W : Int), .int .i64 (H : Int), .slice a n c]] V (NumE (0 : Nat) V))
    (ck : ∀ V, Below w.heap.size w V → Calls Tryd.prog 23 #[.agg #[.int .i64 6, .int .i64 (W : Int), .int .i64 (H : Int), .slice a n c]] V (ErrS 0 V))
    (run : ∀ V, Below w.heap.size w V → Calls Tryd.prog 24 #[.agg #[.int .i64 6, .int .i64 (W : Int), .int .i64 (H : Int), .slice a n c], .slice b m d, .int .i64 k] V (GasBad 1 V))
    (ma : ∀ V, Below w.heap.size w V → Calls Tryd.prog 27 #[.agg #[.int .i64 6, .int .i64 (W : Int), .int .i64 (H : Int), .slice a n c]] V (MassE M 0 V))
    (pu : ∀ V, Below w.heap.size w V → Calls Tryd.prog 28 #[.agg #[.int .i64 6, .int .i64 (W : Int), .int .i64 (H : Int), .slice a n c]] V (PushE X Y 0 V))
    (tu : ∀ V, Below w.heap.size w V → Calls Tryd.prog 29 #[.agg #[.int .i64 6, .int .i64 (W : Int), .int .i64 (H : Int), .slice a n c]] V (GasOk 6 (W : Int) (H : Int) n zs V))
    (rm : ∀ V, Below w.heap.size w V → Calls Tryd.prog 30 #[.agg #[.int .i64 6, .int .i64 (W : Int), .int .i64 (H : Int), .slice a n c]] V (NumE M V))
    (rp : ∀ V, Below w.heap.size w V → Calls Tryd.prog 31 #[.agg #[.int .i64 6, .int .i64 (W : Int), .int .i64 (H : Int), .slice a n c]] V (TwoE X Y V))
    (rt : ∀ V, Below w.heap.size w V → Calls Tryd.prog 32 #[.agg #[.int .i64 6, .int .i64 (W : Int), .int .i64 (H : Int), .slice a n c]] V (GasRfT 6 (W : Int) (H : Int) n zs V)) :
    Calls Tryd.prog 6 #[.agg #[.int .i64 6, .int .i64 (W : Int), .int .i64 (H : Int), .slice a n c], .slice b m d, .int .i64 k] w fun e w' => e = .returned (.bool true) ∧ Below w.heap.size w w' := by
  obtain ⟨w1, hw1⟩ : ∃ w1, w.alloc (.cells #[.int .i64 6, .int .i64 (W : Int), .int .i64 (H : Int), .slice a n c] 49) = w1 := ⟨_, rfl⟩
  have BB := hide' (show Below w.heap.size w w1 by rw [← hw1]; exact (Below.refl _ _).alloc (Nat.le_refl _) _)
  have g1 : w1.heap[w.heap.size]? = some (.cells #[.int .i64 6, .int .i64 (W : Int), .int .i64 (H : Int), .slice a n c] 49 (0, 0)) := by rw [← hw1]; exact heap_alloc_new _ _
  have WL := hide' (lt_of_block g1)
  have SV := hide' (fun (V : World) (h : Below w1.heap.size w1 V) => show V.cell? ⟨w.heap.size, 0, none⟩ = some (.int .i64 6) ∧ V.cell? ⟨w.heap.size, 1, none⟩ = some (.int .i64 (W : Int)) ∧ V.cell? ⟨w.heap.size, 2, none⟩ = some (.int .i64 (H : Int)) ∧ V.cell? ⟨w.heap.size, 3, none⟩ = some (.slice a n c) from by
    have e1 := (h.block _ (lt_of_block g1)).trans g1
    exact ⟨cell_of_row V _ 0 _ _ _ e1, cell_of_row V _ 1 _ _ _ e1, cell_of_row V _ 2 _ _ _ e1, cell_of_row V _ 3 _ _ _ e1⟩)
  have BW := hide' (fun (V : World) (h : Below w1.heap.size w1 V) => BB.out.trans (h.mono BB.out.size))
  have C0 := hide' (Below.refl w1.heap.size w1)
  have HE := hide' (fun (V : World) (h : Below w1.heap.size w1 V) q => err_any q V (hg.below (BW.out V h)))
  have RGC := hide' (fun (V : World) (h : Below w1.heap.size w1 V) => rg V (BW.out V h))
  have CKC := hide' (fun (V : World) (h : Below w1.heap.size w1 V) => ck V (BW.out V h))
  have RUNC := hide' (fun (V : World) (h : Below w1.heap.size w1 V) => run V (BW.out V h))
  have MAC := hide' (fun (V : World) (h : Below w1.heap.size w1 V) => ma V (BW.out V h))
  have PUC := hide' (fun (V : World) (h : Below w1.heap.size w1 V) => pu V (BW.out V h))
  have TUC := hide' (fun (V : World) (h : Below w1.heap.size w1 V) => tu V (BW.out V h))
  have RMC := hide' (fun (V : World) (h : Below w1.heap.size w1 V) => rm V (BW.out V h))
  have RPC := hide' (fun (V : World) (h : Below w1.heap.size w1 V) => rp V (BW.out V h))
  have RTC := hide' (fun (V : World) (h : Below w1.heap.size w1 V) => rt V (BW.out V h))
  have HCA := hide' (fun (V : World) (h : Below w1.heap.size w1 V) => hC.below (BW.out V h))
  have CL := hide' hC.len
  have cm : m ≤ 9223372036854775807 := by have := hC.max; simp [maxLen] at this; omega
  have ALH := hide' al
  have YLH := hide' yl
  have BC := hide' bc
  obtain ⟨x0, x1, x2, x3⟩ := SV.out _ C0.out
  clear rg ck run ma pu tu rm rp rt g1 hg hC al yl bc
  go_enter Tryd.func6, Tryd.ntmps6
  go_upto_region 1 with fail
  clear hw1
  go_wp2_with fail
  refine (RGC.out _ C0.out).mono ?_
  rintro e w2 ⟨rfl, b'⟩
  have C1 := hide' (C0.out.trans (b'.mono C0.out.size))
  clear b' x0 x1 x2 x3 C0
  obtain ⟨x0, x1, x2, x3⟩ := SV.out _ C1.out
  go_wp2_with fail
  refine (CKC.out _ C1.out).mono ?_
  rintro e w3 ⟨rfl, b'⟩
  have C2 := hide' (C1.out.trans (b'.mono C1.out.size))
  clear b' x0 x1 x2 x3 C1
  go_wp2_with fail
  refine (HE.out _ C2.out 0).mono ?_
  rintro e w4 ⟨rfl, b'⟩
  have C3 := hide' (C2.out.trans (b'.mono C2.out.size))
  clear b' C2
  obtain ⟨V4, rfl⟩ : ∃ V4, V4 = w4 := ⟨_, rfl⟩
  have CA4 := hide' (HCA.out _ C3.out)
  go_wp2
  go_loopw [10, 11] (fun fv iv wr => ∃ (i fl : Nat), fv = .int .i64 (fl : Int) ∧ iv = .int .i64 (i : Int) ∧ i ≤ m ∧ V4 = wr ∧ ((fl = 1) ∨ (fl = 0 ∧ Hid (∀ k (h : k < cs.length), k < i → cellB cs[k] = true)))) (fun _ iv _ => m - (intOf iv).toNat)
  case atStart => exact ⟨0, 0, rfl, rfl, by omega, rfl, Or.inr ⟨rfl, hide' (fun k h hk => by omega)⟩⟩
  case round =>
  obtain ⟨i, fl, rfl, rfl, hi, rfl, hfl⟩ := hrel
  by_cases fo : fl = 1
  · subst fo
    clear hfl
    by_cases di : (i : Int) < (m : Int)
    · obtain ⟨x0, x1, x2, x3⟩ := SV.out _ C3.out
      go_wp2_with fail
      refine (RUNC.out _ C3.out).mono ?_
      rw [show GasBad 1 V4 = fun e w' => e = .returned (.tuple #[.agg #[.int .i64 0, .int .i64 0, .int .i64 0, .slice none 0 0], .iface 83 (.int .i64 1)]) ∧ Below V4.heap.size V4 w' from rfl]
      rintro e w5 ⟨rfl, b'⟩
      have C4 := hide' (C3.out.trans (b'.mono C3.out.size))
      clear b' x0 x1 x2 x3 C3
      have C5 := hide' (C4.out.alloc C4.out.size (.cells #[.int .i64 0, .int .i64 0, .int .i64 0, .slice none 0 0] 49))
      have Ga0 := hide' (show (w5.alloc (.cells #[.int .i64 0, .int .i64 0, .int .i64 0, .slice none 0 0] 49)).heap[w5.heap.size]? = some (.cells #[.int .i64 0, .int .i64 0, .int .i64 0, .slice none 0 0] 49 (0, 0)) from heap_alloc_new _ _)
      clear C4
      go_wp2_with fail
      refine (HE.out _ C5.out 1).mono ?_
      rintro e w6 ⟨rfl, b'⟩
      have C6 := hide' (C5.out.trans (b'.mono C5.out.size))
      have Ga6 := hide' ((b'.block _ (lt_of_block Ga0.out)).trans Ga0.out)
      clear b' C5 Ga0
      have C7 := hide' (C6.out.alloc C6.out.size (.cells #[.int .i64 0, .int .i64 0, .int .i64 0, .slice none 0 0] 49))
      have Ga7 := hide' ((Below.heap_alloc _ (.cells #[.int .i64 0, .int .i64 0, .int .i64 0, .slice none 0 0] 49) _ (lt_of_block Ga6.out)).trans Ga6.out)
      have Gb0 := hide' (show (w6.alloc (.cells #[.int .i64 0, .int .i64 0, .int .i64 0, .slice none 0 0] 49)).heap[w6.heap.size]? = some (.cells #[.int .i64 0, .int .i64 0, .int .i64 0, .slice none 0 0] 49 (0, 0)) from heap_alloc_new _ _)
      clear C6 Ga6
      have z0 := cell_of_row _ _ 0 _ _ _ Ga7.out
      have z1 := cell_of_row _ _ 1 _ _ _ Ga7.out
      have z2 := cell_of_row _ _ 2 _ _ _ Ga7.out
      have z3 := cell_of_row _ _ 3 _ _ _ Ga7.out
      simp at z0 z1 z2 z3
      have y0 := cell_of_row _ _ 0 _ _ _ Gb0.out
      have y1 := cell_of_row _ _ 1 _ _ _ Gb0.out
      have y2 := cell_of_row _ _ 2 _ _ _ Gb0.out
      have y3 := cell_of_row _ _ 3 _ _ _ Gb0.out
      simp at y0 y1 y2 y3
      go_wp2_with fail
      refine (gases_same 0 0 0 [] none none 0 0 0 0 _ (arg_none _) (arg_none _)).mono ?_
      rintro e w9 ⟨rfl, b'⟩
      have C8 := hide' (C7.out.trans (b'.mono C7.out.size))
      clear b' z0 z1 z2 z3 y0 y1 y2 y3 C7 Ga7 Gb0
      obtain ⟨x0, x1, x2, x3⟩ := SV.out _ C8.out
      go_wp2_with fail
      refine (MAC.out _ C8.out).mono ?_
      rintro e wa ⟨rfl, b'⟩
      have C9 := hide' (C8.out.trans (b'.mono C8.out.size))
      clear b' x0 x1 x2 x3 C8
      go_wp2_with fail
      refine (HE.out _ C9.out 0).mono ?_
      rintro e wa' ⟨rfl, b'⟩
      have C10 := hide' (C9.out.trans (b'.mono C9.out.size))
      clear b' C9
      obtain ⟨x0, x1, x2, x3⟩ := SV.out _ C10.out
      go_wp2_with fail
      refine (PUC.out _ C10.out).mono ?_
      rintro e wb ⟨rfl, b'⟩
      have C11 := hide' (C10.out.trans (b'.mono C10.out.size))
      clear b' x0 x1 x2 x3 C10
      go_wp2_with fail
      refine (HE.out _ C11.out 0).mono ?_
      rintro e wb' ⟨rfl, b'⟩
      have C12 := hide' (C11.out.trans (b'.mono C11.out.size))
      clear b' C11
      obtain ⟨x0, x1, x2, x3⟩ := SV.out _ C12.out
      go_wp2_with fail
      refine (TUC.out _ C12.out).mono ?_
      rintro e wc ⟨qt, rfl, ap, b'⟩
      have C13 := hide' (C12.out.trans (b'.mono C12.out.size))
      clear b' x0 x1 x2 x3 C12
      have At := hide' ap
      clear ap
      have C14 := hide' (C13.out.alloc C13.out.size (.cells #[.int .i64 6, .int .i64 (W : Int), .int .i64 (H : Int), .slice (some ⟨qt, 0, none⟩) n n] 49))
      have Gt0 := hide' (show (wc.alloc (.cells #[.int .i64 6, .int .i64 (W : Int), .int .i64 (H : Int), .slice (some ⟨qt, 0, none⟩) n n] 49)).heap[wc.heap.size]? = some (.cells #[.int .i64 6, .int .i64 (W : Int), .int .i64 (H : Int), .slice (some ⟨qt, 0, none⟩) n n] 49 (0, 0)) from heap_alloc_new _ _)
      have At0 := hide' (At.out.alloc (.cells #[.int .i64 6, .int .i64 (W : Int), .int .i64 (H : Int), .slice (some ⟨qt, 0, none⟩) n n] 49))
      clear C13 At
      go_wp2_with fail
      refine (HE.out _ C14.out 0).mono ?_
      rintro e wd ⟨rfl, b'⟩
      have C15 := hide' (C14.out.trans (b'.mono C14.out.size))
      have Gt15 := hide' ((b'.block _ (lt_of_block Gt0.out)).trans Gt0.out)
      have At15 := hide' (At0.out.below b')
      clear b' C14 Gt0 At0
      obtain ⟨x0, x1, x2, x3⟩ := SV.out _ C15.out
      go_wp2_with fail
      refine (RMC.out _ C15.out).mono ?_
      rintro e we ⟨rfl, b'⟩
      have C16 := hide' (C15.out.trans (b'.mono C15.out.size))
      have Gt16 := hide' ((b'.block _ (lt_of_block Gt15.out)).trans Gt15.out)
      have At16 := hide' (At15.out.below b')
      clear b' x0 x1 x2 x3 C15 Gt15 At15
      obtain ⟨x0, x1, x2, x3⟩ := SV.out _ C16.out
      go_wp2_with fail
      refine (RPC.out _ C16.out).mono ?_
      rintro e wf ⟨rfl, b'⟩
      have C17 := hide' (C16.out.trans (b'.mono C16.out.size))
      have Gt17 := hide' ((b'.block _ (lt_of_block Gt16.out)).trans Gt16.out)
      have At17 := hide' (At16.out.below b')
      clear b' x0 x1 x2 x3 C16 Gt16 At16
      obtain ⟨x0, x1, x2, x3⟩ := SV.out _ C17.out
      go_wp2_with fail
      refine (RTC.out _ C17.out).mono ?_
      rintro e wg ⟨qr, qc', rfl, ap, b'⟩
      have C18 := hide' (C17.out.trans (b'.mono C17.out.size))
      have Gt18 := hide' ((b'.block _ (lt_of_block Gt17.out)).trans Gt17.out)
      have At18 := hide' (At17.out.below b')
      clear b' x0 x1 x2 x3 C17 Gt17 At17
      have Ar := hide' ap
      clear ap
      have C19 := hide' (C18.out.alloc C18.out.size (.cells #[.int .i64 6, .int .i64 (W : Int), .int .i64 (H : Int), .slice qr n qc'] 49))
      have Gt19 := hide' ((Below.heap_alloc _ (.cells #[.int .i64 6, .int .i64 (W : Int), .int .i64 (H : Int), .slice qr n qc'] 49) _ (lt_of_block Gt18.out)).trans Gt18.out)
      have At19 := hide' (At18.out.alloc (.cells #[.int .i64 6, .int .i64 (W : Int), .int .i64 (H : Int), .slice qr n qc'] 49))
      have Gr0 := hide' (show (wg.alloc (.cells #[.int .i64 6, .int .i64 (W : Int), .int .i64 (H : Int), .slice qr n qc'] 49)).heap[wg.heap.size]? = some (.cells #[.int .i64 6, .int .i64 (W : Int), .int .i64 (H : Int), .slice qr n qc'] 49 (0, 0)) from heap_alloc_new _ _)
      have Ar0 := hide' (Ar.out.alloc (.cells #[.int .i64 6, .int .i64 (W : Int), .int .i64 (H : Int), .slice qr n qc'] 49))
      clear C18 Gt18 At18 Ar
      have z0 := cell_of_row _ _ 0 _ _ _ Gt19.out
      have z1 := cell_of_row _ _ 1 _ _ _ Gt19.out
      have z2 := cell_of_row _ _ 2 _ _ _ Gt19.out
      have z3 := cell_of_row _ _ 3 _ _ _ Gt19.out
      simp at z0 z1 z2 z3
      have y0 := cell_of_row _ _ 0 _ _ _ Gr0.out
      have y1 := cell_of_row _ _ 1 _ _ _ Gr0.out
      have y2 := cell_of_row _ _ 2 _ _ _ Gr0.out
      have y3 := cell_of_row _ _ 3 _ _ _ Gr0.out
      simp at y0 y1 y2 y3
      go_wp2_with fail
      refine (gases_same 6 (W : Int) (H : Int) zs (some ⟨qt, 0, none⟩) qr n n n qc' _ At19.out Ar0.out).mono ?_
      rintro e wh ⟨rfl, b'⟩
      have CZ := hide' (C19.out.trans (b'.mono C19.out.size))
      clear b' z0 z1 z2 z3 y0 y1 y2 y3
      go_wp2
      go_ret
      exact ⟨rfl, BW.out _ CZ.out⟩
    · obtain ⟨x0, x1, x2, x3⟩ := SV.out _ C3.out
      go_wp2_with fail
      refine (RUNC.out _ C3.out).mono ?_
      rw [show GasBad 1 V4 = fun e w' => e = .returned (.tuple #[.agg #[.int .i64 0, .int .i64 0, .int .i64 0, .slice none 0 0], .iface 83 (.int .i64 1)]) ∧ Below V4.heap.size V4 w' from rfl]
      rintro e w5 ⟨rfl, b'⟩
      have C4 := hide' (C3.out.trans (b'.mono C3.out.size))
      clear b' x0 x1 x2 x3 C3
      have C5 := hide' (C4.out.alloc C4.out.size (.cells #[.int .i64 0, .int .i64 0, .int .i64 0, .slice none 0 0] 49))
      have Ga0 := hide' (show (w5.alloc (.cells #[.int .i64 0, .int .i64 0, .int .i64 0, .slice none 0 0] 49)).heap[w5.heap.size]? = some (.cells #[.int .i64 0, .int .i64 0, .int .i64 0, .slice none 0 0] 49 (0, 0)) from heap_alloc_new _ _)
      clear C4
      go_wp2_with fail
      refine (HE.out _ C5.out 1).mono ?_
      rintro e w6 ⟨rfl, b'⟩
      have C6 := hide' (C5.out.trans (b'.mono C5.out.size))
      have Ga6 := hide' ((b'.block _ (lt_of_block Ga0.out)).trans Ga0.out)
      clear b' C5 Ga0
      have C7 := hide' (C6.out.alloc C6.out.size (.cells #[.int .i64 0, .int .i64 0, .int .i64 0, .slice none 0 0] 49))
      have Ga7 := hide' ((Below.heap_alloc _ (.cells #[.int .i64 0, .int .i64 0, .int .i64 0, .slice none 0 0] 49) _ (lt_of_block Ga6.out)).trans Ga6.out)
      have Gb0 := hide' (show (w6.alloc (.cells #[.int .i64 0, .int .i64 0, .int .i64 0, .slice none 0 0] 49)).heap[w6.heap.size]? = some (.cells #[.int .i64 0, .int .i64 0, .int .i64 0, .slice none 0 0] 49 (0, 0)) from heap_alloc_new _ _)
      clear C6 Ga6
      have z0 := cell_of_row _ _ 0 _ _ _ Ga7.out
      have z1 := cell_of_row _ _ 1 _ _ _ Ga7.out
      have z2 := cell_of_row _ _ 2 _ _ _ Ga7.out
      have z3 := cell_of_row _ _ 3 _ _ _ Ga7.out
      simp at z0 z1 z2 z3
      have y0 := cell_of_row _ _ 0 _ _ _ Gb0.out
      have y1 := cell_of_row _ _ 1 _ _ _ Gb0.out
      have y2 := cell_of_row _ _ 2 _ _ _ Gb0.out
      have y3 := cell_of_row _ _ 3 _ _ _ Gb0.out
      simp at y0 y1 y2 y3
      go_wp2_with fail
      refine (gases_same 0 0 0 [] none none 0 0 0 0 _ (arg_none _) (arg_none _)).mono ?_
      rintro e w9 ⟨rfl, b'⟩
      have C8 := hide' (C7.out.trans (b'.mono C7.out.size))
      clear b' z0 z1 z2 z3 y0 y1 y2 y3 C7 Ga7 Gb0
      obtain ⟨x0, x1, x2, x3⟩ := SV.out _ C8.out
      go_wp2_with fail
      refine (MAC.out _ C8.out).mono ?_
      rintro e wa ⟨rfl, b'⟩
      have C9 := hide' (C8.out.trans (b'.mono C8.out.size))
      clear b' x0 x1 x2 x3 C8
      go_wp2_with fail
      refine (HE.out _ C9.out 0).mono ?_
      rintro e wa' ⟨rfl, b'⟩
      have C10 := hide' (C9.out.trans (b'.mono C9.out.size))
      clear b' C9
      obtain ⟨x0, x1, x2, x3⟩ := SV.out _ C10.out
      go_wp2_with fail
      refine (PUC.out _ C10.out).mono ?_
      rintro e wb ⟨rfl, b'⟩
      have C11 := hide' (C10.out.trans (b'.mono C10.out.size))
      clear b' x0 x1 x2 x3 C10
      go_wp2_with fail
      refine (HE.out _ C11.out 0).mono ?_
      rintro e wb' ⟨rfl, b'⟩
      have C12 := hide' (C11.out.trans (b'.mono C11.out.size))
      clear b' C11
      obtain ⟨x0, x1, x2, x3⟩ := SV.out _ C12.out
      go_wp2_with fail
      refine (TUC.out _ C12.out).mono ?_
      rintro e wc ⟨qt, rfl, ap, b'⟩
      have C13 := hide' (C12.out.trans (b'.mono C12.out.size))
      clear b' x0 x1 x2 x3 C12
      have At := hide' ap
      clear ap
      have C14 := hide' (C13.out.alloc C13.out.size (.cells #[.int .i64 6, .int .i64 (W : Int), .int .i64 (H : Int), .slice (some ⟨qt, 0, none⟩) n n] 49))
      have Gt0 := hide' (show (wc.alloc (.cells #[.int .i64 6, .int .i64 (W : Int), .int .i64 (H : Int), .slice (some ⟨qt, 0, none⟩) n n] 49)).heap[wc.heap.size]? = some (.cells #[.int .i64 6, .int .i64 (W : Int), .int .i64 (H : Int), .slice (some ⟨qt, 0, none⟩) n n] 49 (0, 0)) from heap_alloc_new _ _)
      have At0 := hide' (At.out.alloc (.cells #[.int .i64 6, .int .i64 (W : Int), .int .i64 (H : Int), .slice (some ⟨qt, 0, none⟩) n n] 49))
      clear C13 At
      go_wp2_with fail
      refine (HE.out _ C14.out 0).mono ?_
      rintro e wd ⟨rfl, b'⟩
      have C15 := hide' (C14.out.trans (b'.mono C14.out.size))
      have Gt15 := hide' ((b'.block _ (lt_of_block Gt0.out)).trans Gt0.out)
      have At15 := hide' (At0.out.below b')
      clear b' C14 Gt0 At0
      obtain ⟨x0, x1, x2, x3⟩ := SV.out _ C15.out
      go_wp2_with fail
      refine (RMC.out _ C15.out).mono ?_
      rintro e we ⟨rfl, b'⟩
      have C16 := hide' (C15.out.trans (b'.mono C15.out.size))
      have Gt16 := hide' ((b'.block _ (lt_of_block Gt15.out)).trans Gt15.out)
      have At16 := hide' (At15.out.below b')
      clear b' x0 x1 x2 x3 C15 Gt15 At15
      obtain ⟨x0, x1, x2, x3⟩ := SV.out _ C16.out
      go_wp2_with fail
      refine (RPC.out _ C16.out).mono ?_
      rintro e wf ⟨rfl, b'⟩
      have C17 := hide' (C16.out.trans (b'.mono C16.out.size))
      have Gt17 := hide' ((b'.block _ (lt_of_block Gt16.out)).trans Gt16.out)
      have At17 := hide' (At16.out.below b')
      clear b' x0 x1 x2 x3 C16 Gt16 At16
      obtain ⟨x0, x1, x2, x3⟩ := SV.out _ C17.out
      go_wp2_with fail
      refine (RTC.out _ C17.out).mono ?_
      rintro e wg ⟨qr, qc', rfl, ap, b'⟩
      have C18 := hide' (C17.out.trans (b'.mono C17.out.size))
      have Gt18 := hide' ((b'.block _ (lt_of_block Gt17.out)).trans Gt17.out)
      have At18 := hide' (At17.out.below b')
      clear b' x0 x1 x2 x3 C17 Gt17 At17
      have Ar := hide' ap
      clear ap
      have C19 := hide' (C18.out.alloc C18.out.size (.cells #[.int .i64 6, .int .i64 (W : Int), .int .i64 (H : Int), .slice qr n qc'] 49))
      have Gt19 := hide' ((Below.heap_alloc _ (.cells #[.int .i64 6, .int .i64 (W : Int), .int .i64 (H : Int), .slice qr n qc'] 49) _ (lt_of_block Gt18.out)).trans Gt18.out)
      have At19 := hide' (At18.out.alloc (.cells #[.int .i64 6, .int .i64 (W : Int), .int .i64 (H : Int), .slice qr n qc'] 49))
      have Gr0 := hide' (show (wg.alloc (.cells #[.int .i64 6, .int .i64 (W : Int), .int .i64 (H : Int), .slice qr n qc'] 49)).heap[wg.heap.size]? = some (.cells #[.int .i64 6, .int .i64 (W : Int), .int .i64 (H : Int), .slice qr n qc'] 49 (0, 0)) from heap_alloc_new _ _)
      have Ar0 := hide' (Ar.out.alloc (.cells #[.int .i64 6, .int .i64 (W : Int), .int .i64 (H : Int), .slice qr n qc'] 49))
      clear C18 Gt18 At18 Ar
      have z0 := cell_of_row _ _ 0 _ _ _ Gt19.out
      have z1 := cell_of_row _ _ 1 _ _ _ Gt19.out
      have z2 := cell_of_row _ _ 2 _ _ _ Gt19.out
      have z3 := cell_of_row _ _ 3 _ _ _ Gt19.out
      simp at z0 z1 z2 z3
      have y0 := cell_of_row _ _ 0 _ _ _ Gr0.out
      have y1 := cell_of_row _ _ 1 _ _ _ Gr0.out
      have y2 := cell_of_row _ _ 2 _ _ _ Gr0.out
      have y3 := cell_of_row _ _ 3 _ _ _ Gr0.out
      simp at y0 y1 y2 y3
      go_wp2_with fail
      refine (gases_same 6 (W : Int) (H : Int) zs (some ⟨qt, 0, none⟩) qr n n n qc' _ At19.out Ar0.out).mono ?_
      rintro e wh ⟨rfl, b'⟩
      have CZ := hide' (C19.out.trans (b'.mono C19.out.size))
      clear b' z0 z1 z2 z3 y0 y1 y2 y3
      go_wp2
      go_ret
      exact ⟨rfl, BW.out _ CZ.out⟩
  · have HA : Hid (∀ k (h : k < cs.length), k < i → cellB cs[k] = true) := by
      rcases hfl with h | ⟨_, h⟩
      · exact absurd h fo
      · exact h
    obtain rfl : fl = 0 := by rcases hfl with h | ⟨h, _⟩ <;> omega
    clear hfl fo
    by_cases di : (i : Int) < (m : Int)
    · obtain ⟨gb, ob, eb', hgb, hcb⟩ := CA4.out.cells i (by have := CL.out; omega)
      have il : i < cs.length := by have := CL.out; omega
      obtain ⟨x, hx⟩ : ∃ x, cs[i] = x := ⟨_, rfl⟩
      rw [hx] at hcb
      have HX := hide' hx
      have EB := hide' eb'
      subst eb'
      clear hx hgb
      by_cases x0 : x < 0
      · go_wp2
        exact ⟨⟨i + 1, 1, by go_num, by go_num, by omega, by first | rfl | trivial | simp, Or.inl rfl⟩, by simp [intOf]; omega⟩
      · by_cases x1 : 1 < x
        · go_wp2
          exact ⟨⟨i + 1, 1, by go_num, by go_num, by omega, by first | rfl | trivial | simp, Or.inl rfl⟩, by simp [intOf]; omega⟩
        · have NA := hide' (show ∀ k (h : k < cs.length), k < i + 1 → cellB cs[k] = true from fun k h hk => by
            by_cases e : k = i
            · subst e; rw [HX.out]; unfold cellB; simp; omega
            · exact HA.out k h (by omega))
          clear HA
          go_wp2
          exact ⟨⟨i + 1, 0, by go_num, by go_num, by omega, by first | rfl | trivial | simp, Or.inr ⟨rfl, NA⟩⟩, by simp [intOf]; omega⟩
    · exact absurd (fun k h => HA.out k h (by have := CL.out; omega)) BC.out
end Go.Proofs.YtbkllhlapdmlfaaDoor

