/-
  What the last text of this claim leans on, part 35: LawGfh.
-/
import Derived.Test.YtbkllhlapdmlfaaDoorQf28
namespace Go.Proofs.YtbkllhlapdmlfaaDoor
open Go.RowKit
set_option linter.unusedVariables false
set_option maxRecDepth 100000 in
set_option maxHeartbeats 12800000 in
theorem law_gf_o6 (W H : Nat) (k : Nat) (cs : List Int) (ys zs : List Int) (M X Y : Int) (a : Option Addr) (n c : Nat) (b : Option Addr) (m d : Nat) (w : World) (hg : Handle w) (hC : ArgP w cs b m d) (al : 0 < n → ∀ g off, a = some ⟨g, off, none⟩ → g < w.heap.size) (yl : n = ys.length) (gc : ∀ k (h : k < cs.length), cellB cs[k] = true) (kl : k ≤ 100000) (m1 : 1 ≤ m)
    (rg : ∀ V, Below w.heap.size w V → Calls Tryd.prog 22 #[.agg #[.int .i64 6, .int .i64 (W : Int), .int .i64 (H : Int), .slice a n c]] V (NumE (0 : Nat) V))
    (ck : ∀ V, Below w.heap.size w V → Calls Tryd.prog 23 #[.agg #[.int .i64 6, .int .i64 (W : Int), .int .i64 (H : Int), .slice a n c]] V (ErrS 0 V))
    (run : ∀ V, Below w.heap.size w V → Calls Tryd.prog 24 #[.agg #[.int .i64 6, .int .i64 (W : Int), .int .i64 (H : Int), .slice a n c], .slice b m d, .int .i64 (k : Int)] V (GasOk 6 (W : Int) (H : Int) n ys V))
    (flo : ∀ V, Below w.heap.size w V → Calls Tryd.prog 25 #[.agg #[.int .i64 6, .int .i64 (W : Int), .int .i64 (H : Int), .slice a n c], .slice b m d, .int .i64 (k : Int)] V (GasRef 6 (W : Int) (H : Int) n a ys V))
    (ma : ∀ V, Below w.heap.size w V → Calls Tryd.prog 27 #[.agg #[.int .i64 6, .int .i64 (W : Int), .int .i64 (H : Int), .slice a n c]] V (MassE M 0 V))
    (pu : ∀ V, Below w.heap.size w V → Calls Tryd.prog 28 #[.agg #[.int .i64 6, .int .i64 (W : Int), .int .i64 (H : Int), .slice a n c]] V (PushE X Y 0 V))
    (tu : ∀ V, Below w.heap.size w V → Calls Tryd.prog 29 #[.agg #[.int .i64 6, .int .i64 (W : Int), .int .i64 (H : Int), .slice a n c]] V (GasOk 6 (W : Int) (H : Int) n zs V))
    (rm : ∀ V, Below w.heap.size w V → Calls Tryd.prog 30 #[.agg #[.int .i64 6, .int .i64 (W : Int), .int .i64 (H : Int), .slice a n c]] V (NumE M V))
    (rp : ∀ V, Below w.heap.size w V → Calls Tryd.prog 31 #[.agg #[.int .i64 6, .int .i64 (W : Int), .int .i64 (H : Int), .slice a n c]] V (TwoE X Y V))
    (rt : ∀ V, Below w.heap.size w V → Calls Tryd.prog 32 #[.agg #[.int .i64 6, .int .i64 (W : Int), .int .i64 (H : Int), .slice a n c]] V (GasRfT 6 (W : Int) (H : Int) n zs V)) :
    Calls Tryd.prog 6 #[.agg #[.int .i64 6, .int .i64 (W : Int), .int .i64 (H : Int), .slice a n c], .slice b m d, .int .i64 (k : Int)] w fun e w' => e = .returned (.bool true) ∧ Below w.heap.size w w' := by
  obtain ⟨w1, hw1⟩ : ∃ w1, w.alloc (.cells #[.int .i64 6, .int .i64 (W : Int), .int .i64 (H : Int), .slice a n c] 49) = w1 := ⟨_, rfl⟩
  have BB := hide' (show Below w.heap.size w w1 by rw [← hw1]; exact (Below.refl _ _).alloc (Nat.le_refl _) _)
  have g1 : w1.heap[w.heap.size]? = some (.cells #[.int .i64 6, .int .i64 (W : Int), .int .i64 (H : Int), .slice a n c] 49 (0, 0)) := by rw [← hw1]; exact heap_alloc_new _ _
  have WL := hide' (lt_of_block g1)
  have SV := hide' (fun (V : World) (h : Below w1.heap.size w1 V) => show V.cell? ⟨w.heap.size, 0, none⟩ = some (.int .i64 6) ∧ V.cell? ⟨w.heap.size, 1, none⟩ = some (.int .i64 (W : Int)) ∧ V.cell? ⟨w.heap.size, 2, none⟩ = some (.int .i64 (H : Int)) ∧ V.cell? ⟨w.heap.size, 3, none⟩ = some (.slice a n c) from by
    have e1 := (h.block _ (lt_of_block g1)).trans g1
    exact ⟨cell_of_row V _ 0 _ _ _ e1, cell_of_row V _ 1 _ _ _ e1, cell_of_row V _ 2 _ _ _ e1, cell_of_row V _ 3 _ _ _ e1⟩)
  have BW := hide' (fun (V : World) (h : Below w1.heap.size w1 V) => BB.out.trans (h.mono BB.out.size))
  have C0 := hide' (Below.refl w1.heap.size w1)
  have HE := hide' (fun (V : World) (h : Below w1.heap.size w1 V) q => err_any q V (hg.below (BW.out V h)))
  have RGC := hide' (fun (V : World) (h : Below w1.heap.size w1 V) => rg V (BW.out V h))
  have CKC := hide' (fun (V : World) (h : Below w1.heap.size w1 V) => ck V (BW.out V h))
  have RUNC := hide' (fun (V : World) (h : Below w1.heap.size w1 V) => run V (BW.out V h))
  have MAC := hide' (fun (V : World) (h : Below w1.heap.size w1 V) => ma V (BW.out V h))
  have PUC := hide' (fun (V : World) (h : Below w1.heap.size w1 V) => pu V (BW.out V h))
  have TUC := hide' (fun (V : World) (h : Below w1.heap.size w1 V) => tu V (BW.out V h))
  have FLOC := hide' (fun (V : World) (h : Below w1.heap.size w1 V) => flo V (BW.out V h))
  have RMC := hide' (fun (V : World) (h : Below w1.heap.size w1 V) => rm V (BW.out V h))
  have RPC := hide' (fun (V : World) (h : Below w1.heap.size w1 V) => rp V (BW.out V h))
  have RTC := hide' (fun (V : World) (h : Below w1.heap.size w1 V) => rt V (BW.out V h))
  have HCA := hide' (fun (V : World) (h : Below w1.heap.size w1 V) => hC.below (BW.out V h))
  have CL := hide' hC.len
  have cm : m ≤ 9223372036854775807 := by have := hC.max; simp [maxLen] at this; omega
  have ALH := hide' al
  have YLH := hide' yl
  have GC := hide' gc
  obtain ⟨x0, x1, x2, x3⟩ := SV.out _ C0.out
  clear rg ck run ma pu tu flo rm rp rt g1 hg hC al yl gc
  go_enter Tryd.func6, Tryd.ntmps6
  go_upto_region 1 with fail
  clear hw1
  go_wp2_with fail
  refine (RGC.out _ C0.out).mono ?_
  rintro e w2 ⟨rfl, b'⟩
  have C1 := hide' (C0.out.trans (b'.mono C0.out.size))
  clear b' x0 x1 x2 x3 C0
  obtain ⟨x0, x1, x2, x3⟩ := SV.out _ C1.out
  go_wp2_with fail
  refine (CKC.out _ C1.out).mono ?_
  rintro e w3 ⟨rfl, b'⟩
  have C2 := hide' (C1.out.trans (b'.mono C1.out.size))
  clear b' x0 x1 x2 x3 C1
  go_wp2_with fail
  refine (HE.out _ C2.out 0).mono ?_
  rintro e w4 ⟨rfl, b'⟩
  have C3 := hide' (C2.out.trans (b'.mono C2.out.size))
  clear b' C2
  obtain ⟨V4, rfl⟩ : ∃ V4, V4 = w4 := ⟨_, rfl⟩
  have CA4 := hide' (HCA.out _ C3.out)
  go_wp2
  go_loopw [10, 11] (fun fv iv wr => ∃ (i : Nat), fv = .int .i64 0 ∧ iv = .int .i64 (i : Int) ∧ i ≤ m ∧ V4 = wr) (fun _ iv _ => m - (intOf iv).toNat)
  case atStart => exact ⟨0, rfl, rfl, by omega, rfl⟩
  case round =>
  obtain ⟨i, rfl, rfl, hi, rfl⟩ := hrel
  by_cases di : (i : Int) < (m : Int)
  · obtain ⟨gb, ob, eb', hgb, hcb⟩ := CA4.out.cells i (by have := CL.out; omega)
    have il : i < cs.length := by have := CL.out; omega
    obtain ⟨x, hx⟩ : ∃ x, cs[i] = x := ⟨_, rfl⟩
    rw [hx] at hcb
    have x01 : 0 ≤ x ∧ x ≤ 1 := by
      have := GC.out i il
      rw [hx] at this
      unfold cellB at this
      simp at this
      omega
    obtain ⟨x0, x1⟩ := x01
    subst eb'
    clear hx hgb
    go_wp2
    exact ⟨⟨i + 1, by go_num, by go_num, by omega, by first | rfl | trivial | simp⟩, by simp [intOf]; omega⟩
  · clear CA4
    have mp : ¬ (m : Int) = 0 := by omega
    have mpb : ((m : Int) == 0) = false := by simp; omega
    obtain ⟨x0, x1, x2, x3⟩ := SV.out _ C3.out
    go_wp2_with fail
    refine (RUNC.out _ C3.out).mono ?_
    rintro e w5 ⟨qa, rfl, ap, b'⟩
    have C4 := hide' (C3.out.trans (b'.mono C3.out.size))
    clear b' x0 x1 x2 x3 C3
    have Aa := hide' ap
    clear ap
    have C5 := hide' (C4.out.alloc C4.out.size (.cells #[.int .i64 6, .int .i64 (W : Int), .int .i64 (H : Int), .slice (some ⟨qa, 0, none⟩) n n] 49))
    have Ga0 := hide' (show (w5.alloc (.cells #[.int .i64 6, .int .i64 (W : Int), .int .i64 (H : Int), .slice (some ⟨qa, 0, none⟩) n n] 49)).heap[w5.heap.size]? = some (.cells #[.int .i64 6, .int .i64 (W : Int), .int .i64 (H : Int), .slice (some ⟨qa, 0, none⟩) n n] 49 (0, 0)) from heap_alloc_new _ _)
    have Aa0 := hide' (Aa.out.alloc (.cells #[.int .i64 6, .int .i64 (W : Int), .int .i64 (H : Int), .slice (some ⟨qa, 0, none⟩) n n] 49))
    clear C4 Aa
    go_wp2_with fail
    refine (HE.out _ C5.out 0).mono ?_
    rintro e w6 ⟨rfl, b'⟩
    have C6 := hide' (C5.out.trans (b'.mono C5.out.size))
    have Ga6 := hide' ((b'.block _ (lt_of_block Ga0.out)).trans Ga0.out)
    have Aa6 := hide' (Aa0.out.below b')
    clear b' C5 Ga0 Aa0
    have NEA := hide' (show w5.heap.size ≠ w6.heap.size from Nat.ne_of_lt (lt_of_block Ga6.out))
    have NEQ := hide' (fun (z : 0 < n) => show qa ≠ w6.heap.size from by
      obtain ⟨g', off', e', hg', _⟩ := Aa6.out.cells 0 (by rw [← YLH.out]; exact z)
      cases e'; omega)
    have B6 := hide' (show w1.heap.size ≤ w6.heap.size from C6.out.size)
    have C7 := hide' (C6.out.alloc C6.out.size (.cells #[.int .i64 0, .int .i64 0, .int .i64 0, .slice none 0 0] 49))
    have Ga7 := hide' ((Below.heap_alloc _ (.cells #[.int .i64 0, .int .i64 0, .int .i64 0, .slice none 0 0] 49) _ (lt_of_block Ga6.out)).trans Ga6.out)
    have Aa7 := hide' (Aa6.out.alloc (.cells #[.int .i64 0, .int .i64 0, .int .i64 0, .slice none 0 0] 49))
    have Gb0 := hide' (show (w6.alloc (.cells #[.int .i64 0, .int .i64 0, .int .i64 0, .slice none 0 0] 49)).heap[w6.heap.size]? = some (.cells #[.int .i64 0, .int .i64 0, .int .i64 0, .slice none 0 0] 49 (0, 0)) from heap_alloc_new _ _)
    clear C6 Ga6 Aa6
    obtain ⟨x0, x1, x2, x3⟩ := SV.out _ C7.out
    go_wp2_with fail
    refine (FLOC.out _ C7.out).mono ?_
    rintro e w7 ⟨qb, qc, rfl, ob', ap, b'⟩
    have OB := hide' (fun (z : 0 < n) g off (h : qb = some ⟨g, off, none⟩) => show g ≠ w6.heap.size from by
      rcases ob' g off h with h1 | h1
      · have h2 := ALH.out z g off h1
        have h3 := B6.out
        have h4 := WL.out
        omega
      · have h2 := lt_of_block Gb0.out
        omega)
    have C8 := hide' (C7.out.trans (b'.mono C7.out.size))
    have Ga8 := hide' ((b'.block _ (lt_of_block Ga7.out)).trans Ga7.out)
    have Aa8 := hide' (Aa7.out.below b')
    have Gb8 := hide' ((b'.block _ (lt_of_block Gb0.out)).trans Gb0.out)
    clear b' ob' x0 x1 x2 x3 C7 Ga7 Aa7 Gb0
    have Aq := hide' ap
    clear ap
    obtain ⟨w8, hw8⟩ : ∃ w8, (((w7.setCell ⟨w6.heap.size, 0, none⟩ (.int .i64 6)).setCell ⟨w6.heap.size, 1, none⟩ (.int .i64 (W : Int))).setCell ⟨w6.heap.size, 2, none⟩ (.int .i64 (H : Int))).setCell ⟨w6.heap.size, 3, none⟩ (.slice qb n qc) = w8 := ⟨_, rfl⟩
    have GbX := hide' (show w8.heap[w6.heap.size]? = some (.cells #[.int .i64 6, .int .i64 (W : Int), .int .i64 (H : Int), .slice qb n qc] 49 (0, 0)) by rw [← hw8]; exact setGas Gb8.out rfl _ _ _ _)
    have GaX := hide' (show w8.heap[w5.heap.size]? = some (.cells #[.int .i64 6, .int .i64 (W : Int), .int .i64 (H : Int), .slice (some ⟨qa, 0, none⟩) n n] 49 (0, 0)) from by rw [← hw8]; exact (setG_other NEA.out _ _ _ _).trans Ga8.out)
    have AaX := hide' (show ArgP w8 ys (some ⟨qa, 0, none⟩) n n from Aa8.out.keepB (fun z qq off h => by cases h; rw [← hw8]; exact setG_other (NEQ.out (by rw [YLH.out]; exact z)) _ _ _ _))
    have AbX := hide' (show ArgP w8 ys qb n qc from Aq.out.keepB (fun z qq off h => by rw [← hw8]; exact setG_other (OB.out (by rw [YLH.out]; exact z) qq off h) _ _ _ _))
    have C88 := hide' (show Below w1.heap.size w1 w8 by rw [← hw8]; exact setG_bel C8.out B6.out _ _ _ _)
    have c0 := cell_of_row w7 _ 0 _ _ _ Gb8.out
    have c1 := cell_of_row w7 _ 1 _ _ _ Gb8.out
    have c2 := cell_of_row w7 _ 2 _ _ _ Gb8.out
    have c3 := cell_of_row w7 _ 3 _ _ _ Gb8.out
    simp at c0 c1 c2 c3
    have fz0 := frozen_of_row w7 _ 0 _ _ Gb8.out
    have fz1 := frozen_of_row w7 _ 1 _ _ Gb8.out
    have fz2 := frozen_of_row w7 _ 2 _ _ Gb8.out
    have fz3 := frozen_of_row w7 _ 3 _ _ Gb8.out
    have lz := lt_of_block Gb8.out
    clear Gb8 Ga8 Aa8 C8 Aq
    go_upto_region 19 with fail
    try rw [hw8]
    clear hw8 c0 c1 c2 c3 fz0 fz1 fz2 fz3 lz
    have z0 := cell_of_row _ _ 0 _ _ _ GaX.out
    have z1 := cell_of_row _ _ 1 _ _ _ GaX.out
    have z2 := cell_of_row _ _ 2 _ _ _ GaX.out
    have z3 := cell_of_row _ _ 3 _ _ _ GaX.out
    simp at z0 z1 z2 z3
    have y0 := cell_of_row _ _ 0 _ _ _ GbX.out
    have y1 := cell_of_row _ _ 1 _ _ _ GbX.out
    have y2 := cell_of_row _ _ 2 _ _ _ GbX.out
    have y3 := cell_of_row _ _ 3 _ _ _ GbX.out
    simp at y0 y1 y2 y3
    go_wp2_with fail
    refine (gases_same 6 (W : Int) (H : Int) ys (some ⟨qa, 0, none⟩) qb n n n qc _ AaX.out AbX.out).mono ?_
    rintro e w9 ⟨rfl, b'⟩
    have C9 := hide' (C88.out.trans (b'.mono C88.out.size))
    clear b' z0 z1 z2 z3 y0 y1 y2 y3 C88 GaX GbX AaX AbX
    obtain ⟨x0, x1, x2, x3⟩ := SV.out _ C9.out
    go_wp2_with fail
    refine (MAC.out _ C9.out).mono ?_
    rintro e wa ⟨rfl, b'⟩
    have C10 := hide' (C9.out.trans (b'.mono C9.out.size))
    clear b' x0 x1 x2 x3 C9
    go_wp2_with fail
    refine (HE.out _ C10.out 0).mono ?_
    rintro e wa' ⟨rfl, b'⟩
    have C11 := hide' (C10.out.trans (b'.mono C10.out.size))
    clear b' C10
    obtain ⟨x0, x1, x2, x3⟩ := SV.out _ C11.out
    go_wp2_with fail
    refine (PUC.out _ C11.out).mono ?_
    rintro e wb ⟨rfl, b'⟩
    have C12 := hide' (C11.out.trans (b'.mono C11.out.size))
    clear b' x0 x1 x2 x3 C11
    go_wp2_with fail
    refine (HE.out _ C12.out 0).mono ?_
    rintro e wb' ⟨rfl, b'⟩
    have C13 := hide' (C12.out.trans (b'.mono C12.out.size))
    clear b' C12
    obtain ⟨x0, x1, x2, x3⟩ := SV.out _ C13.out
    go_wp2_with fail
    refine (TUC.out _ C13.out).mono ?_
    rintro e wc ⟨qt, rfl, ap, b'⟩
    have C14 := hide' (C13.out.trans (b'.mono C13.out.size))
    clear b' x0 x1 x2 x3 C13
    have At := hide' ap
    clear ap
    have C15 := hide' (C14.out.alloc C14.out.size (.cells #[.int .i64 6, .int .i64 (W : Int), .int .i64 (H : Int), .slice (some ⟨qt, 0, none⟩) n n] 49))
    have Gt0 := hide' (show (wc.alloc (.cells #[.int .i64 6, .int .i64 (W : Int), .int .i64 (H : Int), .slice (some ⟨qt, 0, none⟩) n n] 49)).heap[wc.heap.size]? = some (.cells #[.int .i64 6, .int .i64 (W : Int), .int .i64 (H : Int), .slice (some ⟨qt, 0, none⟩) n n] 49 (0, 0)) from heap_alloc_new _ _)
    have At0 := hide' (At.out.alloc (.cells #[.int .i64 6, .int .i64 (W : Int), .int .i64 (H : Int), .slice (some ⟨qt, 0, none⟩) n n] 49))
    clear C14 At
    go_wp2_with fail
    refine (HE.out _ C15.out 0).mono ?_
    rintro e wd ⟨rfl, b'⟩
    have C16 := hide' (C15.out.trans (b'.mono C15.out.size))
    have Gt16 := hide' ((b'.block _ (lt_of_block Gt0.out)).trans Gt0.out)
    have At16 := hide' (At0.out.below b')
    clear b' C15 Gt0 At0
    obtain ⟨x0, x1, x2, x3⟩ := SV.out _ C16.out
    go_wp2_with fail
    refine (RMC.out _ C16.out).mono ?_
    rintro e we ⟨rfl, b'⟩
    have C17 := hide' (C16.out.trans (b'.mono C16.out.size))
    have Gt17 := hide' ((b'.block _ (lt_of_block Gt16.out)).trans Gt16.out)
    have At17 := hide' (At16.out.below b')
    clear b' x0 x1 x2 x3 C16 Gt16 At16
    obtain ⟨x0, x1, x2, x3⟩ := SV.out _ C17.out
    go_wp2_with fail
    refine (RPC.out _ C17.out).mono ?_
    rintro e wf ⟨rfl, b'⟩
    have C18 := hide' (C17.out.trans (b'.mono C17.out.size))
    have Gt18 := hide' ((b'.block _ (lt_of_block Gt17.out)).trans Gt17.out)
    have At18 := hide' (At17.out.below b')
    clear b' x0 x1 x2 x3 C17 Gt17 At17
    obtain ⟨x0, x1, x2, x3⟩ := SV.out _ C18.out
    go_wp2_with fail
    refine (RTC.out _ C18.out).mono ?_
    rintro e wg ⟨qr, qc', rfl, ap, b'⟩
    have C19 := hide' (C18.out.trans (b'.mono C18.out.size))
    have Gt19 := hide' ((b'.block _ (lt_of_block Gt18.out)).trans Gt18.out)
    have At19 := hide' (At18.out.below b')
    clear b' x0 x1 x2 x3 C18 Gt18 At18
    have Ar := hide' ap
    clear ap
    have C20 := hide' (C19.out.alloc C19.out.size (.cells #[.int .i64 6, .int .i64 (W : Int), .int .i64 (H : Int), .slice qr n qc'] 49))
    have Gt20 := hide' ((Below.heap_alloc _ (.cells #[.int .i64 6, .int .i64 (W : Int), .int .i64 (H : Int), .slice qr n qc'] 49) _ (lt_of_block Gt19.out)).trans Gt19.out)
    have At20 := hide' (At19.out.alloc (.cells #[.int .i64 6, .int .i64 (W : Int), .int .i64 (H : Int), .slice qr n qc'] 49))
    have Gr0 := hide' (show (wg.alloc (.cells #[.int .i64 6, .int .i64 (W : Int), .int .i64 (H : Int), .slice qr n qc'] 49)).heap[wg.heap.size]? = some (.cells #[.int .i64 6, .int .i64 (W : Int), .int .i64 (H : Int), .slice qr n qc'] 49 (0, 0)) from heap_alloc_new _ _)
    have Ar0 := hide' (Ar.out.alloc (.cells #[.int .i64 6, .int .i64 (W : Int), .int .i64 (H : Int), .slice qr n qc'] 49))
    clear C19 Gt19 At19 Ar
    have z0 := cell_of_row _ _ 0 _ _ _ Gt20.out
    have z1 := cell_of_row _ _ 1 _ _ _ Gt20.out
    have z2 := cell_of_row _ _ 2 _ _ _ Gt20.out
    have z3 := cell_of_row _ _ 3 _ _ _ Gt20.out
    simp at z0 z1 z2 z3
    have y0 := cell_of_row _ _ 0 _ _ _ Gr0.out
    have y1 := cell_of_row _ _ 1 _ _ _ Gr0.out
    have y2 := cell_of_row _ _ 2 _ _ _ Gr0.out
    have y3 := cell_of_row _ _ 3 _ _ _ Gr0.out
    simp at y0 y1 y2 y3
    go_wp2_with fail
    refine (gases_same 6 (W : Int) (H : Int) zs (some ⟨qt, 0, none⟩) qr n n n qc' _ At20.out Ar0.out).mono ?_
    rintro e wh ⟨rfl, b'⟩
    have CZ := hide' (C20.out.trans (b'.mono C20.out.size))
    clear b' z0 z1 z2 z3 y0 y1 y2 y3
    go_wp2
    go_ret
    exact ⟨rfl, BW.out _ CZ.out⟩
end Go.Proofs.YtbkllhlapdmlfaaDoor

