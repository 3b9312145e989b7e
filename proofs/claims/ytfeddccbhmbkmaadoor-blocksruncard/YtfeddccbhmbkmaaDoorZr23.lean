/-
  What the last text of this claim leans on, part 23: LawBrbhy.
-/
import Derived.Test.YtfeddccbhmbkmaaDoorZr17
import Derived.Deep.CutRange
namespace Go.Proofs.YtfeddccbhmbkmaaDoor
open Go.RowKit
set_option linter.unusedVariables false
set_option maxRecDepth 100000 in
set_option maxHeartbeats 12800000 in
theorem law_br_bhy (W H ph k : Int) (b : Option Addr) (d : Nat) (a : Option Addr) (n c : Nat) (w : World) (hG : Handle w) (tv : Nat → Nat) (kb tb : Bool) (hTB : TbB w b tv) (hi : collB tv 16 = false) (hh : W.tmod 2 = 0 ∧ W % 2 = 0 ∧ H.tmod 2 = 1 ∧ H % 2 = 1) 
    (tab : ∀ V, Below w.heap.size w V → Calls Tryd.prog 22 #[.slice b 16 d] V (VOut (.int .i64 0) V))
    (chk : ∀ V, Below w.heap.size w V → Calls Tryd.prog 23 #[.slice b 16 d] V (VOut (.nilIface) V))
    (shp : ∀ V, Below w.heap.size w V → Calls Tryd.prog 15 #[.agg #[.int .i64 W, .int .i64 H, .slice a n c]] V (VOut (.int .i64 0) V))
    (run : ∀ V, Below w.heap.size w V → Calls Tryd.prog 24 #[.slice b 16 d, .agg #[.int .i64 W, .int .i64 H, .slice a n c], .int .i64 ph, .int .i64 k] V (VOut (.tuple #[.agg #[.int .i64 0, .int .i64 0, .slice none 0 0], errOf 3]) V))
    (bac : ∀ V, Below w.heap.size w V → Calls Tryd.prog 26 #[.slice b 16 d] V (BackOkR (backL tv) V))
    (kee : ∀ V, Below w.heap.size w V → Calls Tryd.prog 28 #[.slice b 16 d] V (VOut (.tuple #[.bool kb, .nilIface]) V))
    (tur : ∀ V, Below w.heap.size w V → Calls Tryd.prog 29 #[.slice b 16 d] V (VOut (.tuple #[.bool tb, .nilIface]) V))
    (rke : ∀ V, Below w.heap.size w V → Calls Tryd.prog 30 #[.slice b 16 d] V (VOut (.bool kb) V))
    (rtu : ∀ V, Below w.heap.size w V → Calls Tryd.prog 31 #[.slice b 16 d] V (VOut (.bool tb) V)) :
    Calls Tryd.prog 6 #[.slice b 16 d, .agg #[.int .i64 W, .int .i64 H, .slice a n c], .int .i64 ph, .int .i64 k] w fun e w' => e = .returned (.bool true) ∧ Below w.heap.size w w' := by
  obtain ⟨w1, hw1⟩ : ∃ w1, w.alloc (.cells #[.int .i64 W, .int .i64 H, .slice a n c] 26) = w1 := ⟨_, rfl⟩
  have BB := hide' (show Below w.heap.size w w1 by rw [← hw1]; exact (Below.refl _ _).alloc (Nat.le_refl _) _)
  have g1 : w1.heap[w.heap.size]? = some (.cells #[.int .i64 W, .int .i64 H, .slice a n c] 26 (0, 0)) := by rw [← hw1]; exact heap_alloc_new _ _
  have SV := hide' (fun (V : World) (h : Below w1.heap.size w1 V) => show V.cell? ⟨w.heap.size, 0, none⟩ = some (.int .i64 W) ∧ V.cell? ⟨w.heap.size, 1, none⟩ = some (.int .i64 H) ∧ V.cell? ⟨w.heap.size, 2, none⟩ = some (.slice a n c) from by
    have e1 := (h.block _ (lt_of_block g1)).trans g1
    exact ⟨cell_of_row V _ 0 _ _ _ e1, cell_of_row V _ 1 _ _ _ e1, cell_of_row V _ 2 _ _ _ e1⟩)
  have BW := hide' (fun (V : World) (h : Below w1.heap.size w1 V) => BB.out.trans (h.mono BB.out.size))
  have C1 := hide' (Below.refl w1.heap.size w1)
  have TAB := hide' (fun (V : World) (h : Below w1.heap.size w1 V) => tab V (BW.out V h))
  have CHK := hide' (fun (V : World) (h : Below w1.heap.size w1 V) => chk V (BW.out V h))
  have SHP := hide' (fun (V : World) (h : Below w1.heap.size w1 V) => shp V (BW.out V h))
  have RUN := hide' (fun (V : World) (h : Below w1.heap.size w1 V) => run V (BW.out V h))
  have BAC := hide' (fun (V : World) (h : Below w1.heap.size w1 V) => bac V (BW.out V h))
  have KEE := hide' (fun (V : World) (h : Below w1.heap.size w1 V) => kee V (BW.out V h))
  have TUR := hide' (fun (V : World) (h : Below w1.heap.size w1 V) => tur V (BW.out V h))
  have RKE := hide' (fun (V : World) (h : Below w1.heap.size w1 V) => rke V (BW.out V h))
  have RTU := hide' (fun (V : World) (h : Below w1.heap.size w1 V) => rtu V (BW.out V h))
  have ERR := hide' (fun (V : World) (h : Below w1.heap.size w1 V) => err_br 0 V (hG.below (BW.out V h)))
  rw [show errOf 0 = .nilIface from rfl] at ERR
  have ERF := hide' (fun (V : World) (h : Below w1.heap.size w1 V) => err_br 3 V (hG.below (BW.out V h)))
  have EI := hide' (show errOf 3 = .iface 83 (.int .i64 3) by rfl)
  rw [EI.out] at RUN ERF
  obtain ⟨gt, ot, rfl, hgt, htc⟩ := hTB.cells
  have HC := hide' (fun (V : World) (hV : Below w1.heap.size w1 V) k (hk : k < 16) => show V.cell? ⟨gt, ot + k, none⟩ = some (.int .i64 (tv k : Int)) from (World.cell?_of_block (w := w) (a := ⟨gt, ot + k, none⟩) ((BW.out V hV).block gt hgt)).trans (htc k hk))
  have HL := hide' hTB.lt
  have HI := hide' hi
  clear hTB hgt htc hi
  have HH := hide' hh
  clear hh
  clear tab chk shp run bac kee tur rke rtu hG g1
  go_enter Tryd.func6, Tryd.ntmps6
  go_upto_region 1 with fail
  clear hw1
  go_wp2_with fail
  refine (TAB.out _ C1.out).mono ?_
  rintro e w2 ⟨rfl, b'⟩
  have C2 := hide' (C1.out.trans (b'.mono C1.out.size))
  clear b'  C1
  go_wp2_with fail
  refine (CHK.out _ C2.out).mono ?_
  rintro e w3 ⟨rfl, b'⟩
  have C3 := hide' (C2.out.trans (b'.mono C2.out.size))
  clear b'  C2
  go_wp2_with fail
  refine (ERR.out _ C3.out).mono ?_
  rintro e w4 ⟨rfl, b'⟩
  have C4 := hide' (C3.out.trans (b'.mono C3.out.size))
  clear b'  C3
  obtain ⟨x0, x1, x2⟩ := SV.out _ C4.out
  go_wp2_with fail
  refine (SHP.out _ C4.out).mono ?_
  rintro e w5 ⟨rfl, b'⟩
  have C5 := hide' (C4.out.trans (b'.mono C4.out.size))
  clear b' x0 x1 x2 C4
  obtain ⟨q1, q2, q3, q4⟩ := HH.out
  obtain ⟨x0, x1, x2⟩ := SV.out _ C5.out
  go_wp2_with fail
  refine (RUN.out _ C5.out).mono ?_
  rintro e w6 ⟨rfl, b'⟩
  have C6 := hide' (C5.out.trans (b'.mono C5.out.size))
  clear b' x0 x1 x2 q1 q2 q3 q4 C5
  have C7 := hide' (C6.out.alloc C6.out.size (.cells #[.int .i64 0, .int .i64 0, .slice none 0 0] 26))
  have Gu0 := hide' (show (w6.alloc (.cells #[.int .i64 0, .int .i64 0, .slice none 0 0] 26)).heap[w6.heap.size]? = some (.cells #[.int .i64 0, .int .i64 0, .slice none 0 0] 26 (0, 0)) from heap_alloc_new _ _)
  clear C6
  go_wp2_with fail
  refine (ERF.out _ C7.out).mono ?_
  rintro e w7 ⟨rfl, b'⟩
  have C8 := hide' (C7.out.trans (b'.mono C7.out.size))
  have Gu8 := hide' ((b'.block _ (lt_of_block Gu0.out)).trans Gu0.out)
  clear b'  C7 Gu0
  have C9 := hide' (C8.out.alloc C8.out.size (.cells #[.int .i64 0, .int .i64 0, .slice none 0 0] 26))
  have Gu9 := hide' ((Below.heap_alloc _ (.cells #[.int .i64 0, .int .i64 0, .slice none 0 0] 26) _ (lt_of_block Gu8.out)).trans Gu8.out)
  have Gv0 := hide' (show (w7.alloc (.cells #[.int .i64 0, .int .i64 0, .slice none 0 0] 26)).heap[w7.heap.size]? = some (.cells #[.int .i64 0, .int .i64 0, .slice none 0 0] 26 (0, 0)) from heap_alloc_new _ _)
  clear C8 Gu8
  have z0 := cell_of_row _ _ 0 _ _ _ Gu9.out
  have z1 := cell_of_row _ _ 1 _ _ _ Gu9.out
  have z2 := cell_of_row _ _ 2 _ _ _ Gu9.out
  simp at z0 z1 z2
  have y0 := cell_of_row _ _ 0 _ _ _ Gv0.out
  have y1 := cell_of_row _ _ 1 _ _ _ Gv0.out
  have y2 := cell_of_row _ _ 2 _ _ _ Gv0.out
  simp at y0 y1 y2
  go_wp2_with fail
  refine (alike_br 0 0 [] none none 0 0 0 0 _ ⟨rfl, Nat.zero_le _, fun k hk => by simp at hk⟩ ⟨rfl, Nat.zero_le _, fun k hk => by simp at hk⟩).mono ?_
  rintro e w8 ⟨rfl, b'⟩
  have C10 := hide' (C9.out.trans (b'.mono C9.out.size))
  have Gu10 := hide' ((b'.block _ (lt_of_block Gu9.out)).trans Gu9.out)
  have Gv10 := hide' ((b'.block _ (lt_of_block Gv0.out)).trans Gv0.out)
  clear b' z0 z1 z2 y0 y1 y2 C9 Gu9 Gv0
  clear Gu10 Gv10
  go_wp2_with fail
  refine (BAC.out _ C10.out).mono ?_
  rintro e w9 ⟨gk, rfl, ap, b'⟩
  have C11 := hide' (C10.out.trans (b'.mono C10.out.size))
  clear b' C10
  have Ab0 := hide' ap
  clear ap
  obtain ⟨V, rfl⟩ : ∃ V, V = w9 := ⟨_, rfl⟩
  have S0 := hide' (BL.start V tv)
  have mk1 := mk_intR V
  have mk2 := mk_boolR (V.alloc (.cells (madeCells #[.int .i64 0] 16) 3))
  obtain ⟨V0, hV0⟩ : ∃ V0, (V.alloc (.cells (madeCells #[.int .i64 0] 16) 3)).alloc (.cells (madeCells #[.bool false] 16) 4) = V0 := ⟨_, rfl⟩
  rw [hV0] at S0
  have sa : (V.alloc (.cells (madeCells #[.int .i64 0] 16) 3)).heap.size = V.heap.size + 1 := by simp
  rw [sa] at mk2
  go_upto_region 25 with fail
  try rw [hV0]
  clear mk1 mk2 hV0 sa
  go_wp2
  go_loopw [12, 20] (fun fv iv wr => ∃ (i F : Nat), iv = .int .i64 (i : Int) ∧ fv = .int .i64 (F : Int) ∧ i ≤ 16 ∧ F ≤ 5 ∧ Hid (F = if collB tv i then 5 else 0) ∧ Hid (BL V wr tv i)) (fun _ iv _ => 16 - (intOf iv).toNat)
  case atStart => exact ⟨0, 0, by go_num, by go_num, by omega, by omega, hide' rfl, S0⟩
  case round =>
    obtain ⟨i, F, rfl, rfl, hi, hF, HF, HB⟩ := hrel
    obtain ⟨V1, rfl⟩ : ∃ V1, V1 = wr := ⟨_, rfl⟩
    by_cases di : (i : Int) < 16
    · have il : i < 16 := by omega
      have ci := HC.out V1 (C11.out.trans (HB.out.below.mono C11.out.size)) i il
      have tl := HL.out i il
      have NX := hide' HB.out.next
      have cs : V1.cell? ⟨V.heap.size + 1, tv i, none⟩ = some (.bool (takF tv i (tv i))) := by rw [cell_of_row V1 _ _ _ _ _ HB.out.tk, arrF_get _ tl]
      have cw : V1.cell? ⟨V.heap.size, tv i, none⟩ = some (.int .i64 (backF tv i (tv i) : Int)) := by rw [cell_of_row V1 _ _ _ _ _ HB.out.bk, arrF_get _ tl]
      have r1 := frozen_of_row V1 _ (tv i) _ _ HB.out.tk
      have r2 := frozen_of_row V1 _ (tv i) _ _ HB.out.bk
      have b1 := lt_of_block HB.out.tk
      have b2 := lt_of_block HB.out.bk
      have CN := hide' (show collB tv (i + 1) = (collB tv i || takF tv i (tv i)) from rfl)
      obtain ⟨CZ, hCZ⟩ : ∃ CZ : World → Prop, CZ = fun U => U.cell? ⟨gt, ot + i, none⟩ = some (.int .i64 (tv i : Int)) := ⟨_, rfl⟩
      have cj : (V1.setCell ⟨V.heap.size + 1, tv i, none⟩ (.bool true)).cell? ⟨gt, ot + i, none⟩ = some (.int .i64 (tv i : Int)) :=
        HC.out _ ((C11.out.trans (HB.out.below.mono C11.out.size)).setCell (by have := C11.out.size; simp; omega) _) i il
      clear hCZ CZ
      obtain ⟨v, hv⟩ : ∃ v, tv i = v := ⟨_, rfl⟩
      rw [hv] at ci tl NX cs cw r1 r2 CN cj
      have vi : (v : Int) < 16 := by omega
      obtain ⟨u, hu⟩ : ∃ u, takF tv i v = u := ⟨_, rfl⟩
      rw [hu] at cs CN
      obtain ⟨u2, hu2⟩ : ∃ u2, backF tv i v = u2 := ⟨_, rfl⟩
      rw [hu2] at cw
      clear hv hu hu2
      cases u with
      | true =>
        go_wp2
        exact ⟨⟨i + 1, 5, by go_num, by go_num, by omega, by omega, hide' (by rw [CN.out]; simp), NX⟩, by simp [intOf]; omega⟩
      | false =>
        go_wp2
        exact ⟨⟨i + 1, F, by go_num, by go_num, by omega, hF, hide' (by rw [CN.out, Bool.or_false]; exact HF.out), NX⟩, by simp [intOf]; omega⟩
    · obtain rfl : i = 16 := by omega
      have FE : F = 0 := by rw [HF.out, HI.out]; rfl
      subst FE
      have bV := hide' HB.out.below
      have CE := hide' (C11.out.trans (bV.out.mono C11.out.size))
      have AW := hide' HB.out.arg
      have AK := hide' (Ab0.out.below bV.out)
      clear HF HB bV C11 Ab0
      go_wp2_with fail
      refine (ERR.out _ CE.out).mono ?_
      rintro e w10 ⟨rfl, b'⟩
      have C12 := hide' (CE.out.trans (b'.mono CE.out.size))
      have Aw12 := hide' (AW.out.below b')
      have Ak12 := hide' (AK.out.below b')
      clear b'  CE AW AK
      go_wp2_with fail
      refine (ints_br (backL tv) (some ⟨gk, 0, none⟩) (some ⟨V.heap.size, 0, none⟩) 16 16 16 16 _ Ak12.out Aw12.out).mono ?_
      rintro e w11 ⟨rfl, b'⟩
      have C13 := hide' (C12.out.trans (b'.mono C12.out.size))
      have Aw13 := hide' (Aw12.out.below b')
      have Ak13 := hide' (Ak12.out.below b')
      clear b'  C12 Aw12 Ak12
      clear Aw13 Ak13
      go_wp2_with fail
      refine (KEE.out _ C13.out).mono ?_
      rintro e w12 ⟨rfl, b'⟩
      have C14 := hide' (C13.out.trans (b'.mono C13.out.size))
      clear b'  C13
      go_wp2_with fail
      refine (ERR.out _ C14.out).mono ?_
      rintro e w13 ⟨rfl, b'⟩
      have C15 := hide' (C14.out.trans (b'.mono C14.out.size))
      clear b'  C14
      go_wp2_with fail
      refine (TUR.out _ C15.out).mono ?_
      rintro e w14 ⟨rfl, b'⟩
      have C16 := hide' (C15.out.trans (b'.mono C15.out.size))
      clear b'  C15
      go_wp2_with fail
      refine (ERR.out _ C16.out).mono ?_
      rintro e w15 ⟨rfl, b'⟩
      have C17 := hide' (C16.out.trans (b'.mono C16.out.size))
      clear b'  C16
      go_wp2_with fail
      refine (RKE.out _ C17.out).mono ?_
      rintro e w16 ⟨rfl, b'⟩
      have C18 := hide' (C17.out.trans (b'.mono C17.out.size))
      clear b'  C17
      go_wp2_with fail
      refine (RTU.out _ C18.out).mono ?_
      rintro e w17 ⟨rfl, b'⟩
      have C19 := hide' (C18.out.trans (b'.mono C18.out.size))
      clear b'  C18
      go_wp2
      go_ret
      exact ⟨by simp, BW.out _ C19.out⟩
end Go.Proofs.YtfeddccbhmbkmaaDoor

