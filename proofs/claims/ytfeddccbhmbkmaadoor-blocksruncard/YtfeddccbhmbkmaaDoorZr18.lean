/-
  What the last text of this claim leans on, part 18: LawBrcy.
-/
import Derived.Test.YtfeddccbhmbkmaaDoorZr17
import Derived.Deep.CutRange
namespace Go.Proofs.YtfeddccbhmbkmaaDoor
open Go.RowKit
set_option linter.unusedVariables false
set_option maxRecDepth 100000 in
set_option maxHeartbeats 12800000 in
theorem law_br_cy (W H ph k : Nat) (b : Option Addr) (d : Nat) (a : Option Addr) (n c : Nat) (w : World) (hG : Handle w) (ys : List Int) (gy : Nat → Nat) (hys : ys = (List.range (W * H)).map fun i => (gy i : Int)) (ev : (W : Int) % 2 = 0 ∧ (H : Int) % 2 = 0) (p1 : ph ≤ 1) (k1 : k ≤ 100000) (hAP : ∀ q off, 0 < W * H → a = some ⟨q, off, none⟩ → q < w.heap.size) (tv : Nat → Nat) (kb tb : Bool) (hTB : TbB w b tv) (hi : collB tv 16 = false) 
    (tab : ∀ V, Below w.heap.size w V → Calls Tryd.prog 22 #[.slice b 16 d] V (VOut (.int .i64 0) V))
    (chk : ∀ V, Below w.heap.size w V → Calls Tryd.prog 23 #[.slice b 16 d] V (VOut (.nilIface) V))
    (shp : ∀ V, Below w.heap.size w V → Calls Tryd.prog 15 #[.agg #[.int .i64 (W : Int), .int .i64 (H : Int), .slice a n c]] V (VOut (.int .i64 0) V))
    (run : ∀ V, Below w.heap.size w V → Calls Tryd.prog 24 #[.slice b 16 d, .agg #[.int .i64 (W : Int), .int .i64 (H : Int), .slice a n c], .int .i64 (ph : Int), .int .i64 (k : Int)] V (RunOut W H ys V))
    (ref : ∀ V, Below w.heap.size w V → Calls Tryd.prog 25 #[.slice b 16 d, .agg #[.int .i64 (W : Int), .int .i64 (H : Int), .slice a n c], .int .i64 (ph : Int), .int .i64 (k : Int)] V (RefRun W H gy a V))
    (bac : ∀ V, Below w.heap.size w V → Calls Tryd.prog 26 #[.slice b 16 d] V (BackOkR (backL tv) V))
    (kee : ∀ V, Below w.heap.size w V → Calls Tryd.prog 28 #[.slice b 16 d] V (VOut (.tuple #[.bool kb, .nilIface]) V))
    (tur : ∀ V, Below w.heap.size w V → Calls Tryd.prog 29 #[.slice b 16 d] V (VOut (.tuple #[.bool tb, .nilIface]) V))
    (rke : ∀ V, Below w.heap.size w V → Calls Tryd.prog 30 #[.slice b 16 d] V (VOut (.bool kb) V))
    (rtu : ∀ V, Below w.heap.size w V → Calls Tryd.prog 31 #[.slice b 16 d] V (VOut (.bool tb) V)) :
    Calls Tryd.prog 6 #[.slice b 16 d, .agg #[.int .i64 (W : Int), .int .i64 (H : Int), .slice a n c], .int .i64 (ph : Int), .int .i64 (k : Int)] w fun e w' => e = .returned (.bool true) ∧ Below w.heap.size w w' := by
  obtain ⟨w1, hw1⟩ : ∃ w1, w.alloc (.cells #[.int .i64 (W : Int), .int .i64 (H : Int), .slice a n c] 26) = w1 := ⟨_, rfl⟩
  have BB := hide' (show Below w.heap.size w w1 by rw [← hw1]; exact (Below.refl _ _).alloc (Nat.le_refl _) _)
  have g1 : w1.heap[w.heap.size]? = some (.cells #[.int .i64 (W : Int), .int .i64 (H : Int), .slice a n c] 26 (0, 0)) := by rw [← hw1]; exact heap_alloc_new _ _
  have SV := hide' (fun (V : World) (h : Below w1.heap.size w1 V) => show V.cell? ⟨w.heap.size, 0, none⟩ = some (.int .i64 (W : Int)) ∧ V.cell? ⟨w.heap.size, 1, none⟩ = some (.int .i64 (H : Int)) ∧ V.cell? ⟨w.heap.size, 2, none⟩ = some (.slice a n c) from by
    have e1 := (h.block _ (lt_of_block g1)).trans g1
    exact ⟨cell_of_row V _ 0 _ _ _ e1, cell_of_row V _ 1 _ _ _ e1, cell_of_row V _ 2 _ _ _ e1⟩)
  have BW := hide' (fun (V : World) (h : Below w1.heap.size w1 V) => BB.out.trans (h.mono BB.out.size))
  have C1 := hide' (Below.refl w1.heap.size w1)
  have TAB := hide' (fun (V : World) (h : Below w1.heap.size w1 V) => tab V (BW.out V h))
  have CHK := hide' (fun (V : World) (h : Below w1.heap.size w1 V) => chk V (BW.out V h))
  have SHP := hide' (fun (V : World) (h : Below w1.heap.size w1 V) => shp V (BW.out V h))
  have RUN := hide' (fun (V : World) (h : Below w1.heap.size w1 V) => run V (BW.out V h))
  have REF := hide' (fun (V : World) (h : Below w1.heap.size w1 V) => ref V (BW.out V h))
  have BAC := hide' (fun (V : World) (h : Below w1.heap.size w1 V) => bac V (BW.out V h))
  have KEE := hide' (fun (V : World) (h : Below w1.heap.size w1 V) => kee V (BW.out V h))
  have TUR := hide' (fun (V : World) (h : Below w1.heap.size w1 V) => tur V (BW.out V h))
  have RKE := hide' (fun (V : World) (h : Below w1.heap.size w1 V) => rke V (BW.out V h))
  have RTU := hide' (fun (V : World) (h : Below w1.heap.size w1 V) => rtu V (BW.out V h))
  have ERR := hide' (fun (V : World) (h : Below w1.heap.size w1 V) => err_br 0 V (hG.below (BW.out V h)))
  rw [show errOf 0 = .nilIface from rfl] at ERR
  obtain ⟨gt, ot, rfl, hgt, htc⟩ := hTB.cells
  have HC := hide' (fun (V : World) (hV : Below w1.heap.size w1 V) k (hk : k < 16) => show V.cell? ⟨gt, ot + k, none⟩ = some (.int .i64 (tv k : Int)) from (World.cell?_of_block (w := w) (a := ⟨gt, ot + k, none⟩) ((BW.out V hV).block gt hgt)).trans (htc k hk))
  have HL := hide' hTB.lt
  have HI := hide' hi
  clear hTB hgt htc hi
  have HYS := hide' hys
  have HAP := hide' hAP
  have EV := hide' ev
  have PK := hide' (And.intro p1 k1)
  have bs := hide' BB.out.size
  clear hys hAP ev p1 k1
  clear tab chk shp run ref bac kee tur rke rtu hG g1
  go_enter Tryd.func6, Tryd.ntmps6
  go_upto_region 1 with fail
  clear hw1
  go_wp2_with fail
  refine (TAB.out _ C1.out).mono ?_
  rintro e w2 ⟨rfl, b'⟩
  have C2 := hide' (C1.out.trans (b'.mono C1.out.size))
  clear b'  C1
  go_wp2_with fail
  refine (CHK.out _ C2.out).mono ?_
  rintro e w3 ⟨rfl, b'⟩
  have C3 := hide' (C2.out.trans (b'.mono C2.out.size))
  clear b'  C2
  go_wp2_with fail
  refine (ERR.out _ C3.out).mono ?_
  rintro e w4 ⟨rfl, b'⟩
  have C4 := hide' (C3.out.trans (b'.mono C3.out.size))
  clear b'  C3
  obtain ⟨x0, x1, x2⟩ := SV.out _ C4.out
  go_wp2_with fail
  refine (SHP.out _ C4.out).mono ?_
  rintro e w5 ⟨rfl, b'⟩
  have C5 := hide' (C4.out.trans (b'.mono C4.out.size))
  clear b' x0 x1 x2 C4
  obtain ⟨ev1, ev2⟩ := EV.out
  obtain ⟨p1, k1⟩ := PK.out
  have f1 : ((W : Int)).tmod 2 = 0 := by rw [Int.tmod_eq_emod_of_nonneg (by omega)]; exact ev1
  have f2 : ((H : Int)).tmod 2 = 0 := by rw [Int.tmod_eq_emod_of_nonneg (by omega)]; exact ev2
  obtain ⟨x0, x1, x2⟩ := SV.out _ C5.out
  go_wp2_with fail
  refine (RUN.out _ C5.out).mono ?_
  rintro e w6 ⟨fa, fn, fc, rfl, ap, b'⟩
  have C6 := hide' (C5.out.trans (b'.mono C5.out.size))
  clear b' x0 x1 x2 ev1 ev2 p1 k1 f1 f2 C5
  have Af := hide' ap
  clear ap
  have C7 := hide' (C6.out.alloc C6.out.size (.cells #[.int .i64 (W : Int), .int .i64 (H : Int), .slice fa fn fc] 26))
  have Af0 := hide' (Af.out.alloc (.cells #[.int .i64 (W : Int), .int .i64 (H : Int), .slice fa fn fc] 26))
  have Gf0 := hide' (show (w6.alloc (.cells #[.int .i64 (W : Int), .int .i64 (H : Int), .slice fa fn fc] 26)).heap[w6.heap.size]? = some (.cells #[.int .i64 (W : Int), .int .i64 (H : Int), .slice fa fn fc] 26 (0, 0)) from heap_alloc_new _ _)
  clear Af C6
  go_wp2_with fail
  refine (ERR.out _ C7.out).mono ?_
  rintro e w7 ⟨rfl, b'⟩
  have C8 := hide' (C7.out.trans (b'.mono C7.out.size))
  have Gf8 := hide' ((b'.block _ (lt_of_block Gf0.out)).trans Gf0.out)
  have Af8 := hide' (Af0.out.below b')
  clear b'  C7 Gf0 Af0
  have FL := hide' (fun (z : 0 < W * H) q off (h : fa = some ⟨q, off, none⟩) => show q < w7.heap.size from by
    obtain ⟨g', off', e', hg', _⟩ := Af8.out.cells 0 (by rw [HYS.out]; simpa using z)
    rw [h] at e'; cases e'; exact hg')
  have C9 := hide' (C8.out.alloc C8.out.size (.cells #[.int .i64 0, .int .i64 0, .slice none 0 0] 26))
  have Gf9 := hide' ((Below.heap_alloc _ (.cells #[.int .i64 0, .int .i64 0, .slice none 0 0] 26) _ (lt_of_block Gf8.out)).trans Gf8.out)
  have Af9 := hide' (Af8.out.alloc (.cells #[.int .i64 0, .int .i64 0, .slice none 0 0] 26))
  have Gv0 := hide' (show (w7.alloc (.cells #[.int .i64 0, .int .i64 0, .slice none 0 0] 26)).heap[w7.heap.size]? = some (.cells #[.int .i64 0, .int .i64 0, .slice none 0 0] 26 (0, 0)) from heap_alloc_new _ _)
  have SZ := hide' (show w1.heap.size ≤ w7.heap.size from C8.out.size)
  have LZ := hide' (lt_of_block Gf8.out)
  clear C8 Gf8 Af8
  obtain ⟨x0, x1, x2⟩ := SV.out _ C9.out
  go_wp2_with fail
  refine (REF.out _ C9.out).mono ?_
  rintro e w8 ⟨ra, rn, rc, rfl, ro, ap, b'⟩
  have RO := hide' (fun (z : 0 < W * H) q off (h : ra = some ⟨q, off, none⟩) => show q ≠ w7.heap.size from by
    rcases ro q off h with h' | h'
    · have := HAP.out q off z h'; have := SZ.out; have := bs.out; omega
    · simp at h'; omega)
  clear ro
  have C10 := hide' (C9.out.trans (b'.mono C9.out.size))
  have Gf10 := hide' ((b'.block _ (lt_of_block Gf9.out)).trans Gf9.out)
  have Af10 := hide' (Af9.out.below b')
  have Gv10 := hide' ((b'.block _ (lt_of_block Gv0.out)).trans Gv0.out)
  clear b' x0 x1 x2 C9 Gf9 Af9 Gv0
  have Ar := hide' ap
  clear ap
  obtain ⟨gb, hgb⟩ : ∃ gb, w7.heap.size = gb := ⟨_, rfl⟩
  rw [hgb] at Gv10 RO FL SZ LZ
  obtain ⟨X, hX⟩ : ∃ X, ((w8.setCell ⟨gb, 0, none⟩ (.int .i64 (W : Int))).setCell ⟨gb, 1, none⟩ (.int .i64 (H : Int))).setCell ⟨gb, 2, none⟩ (.slice ra rn rc) = X := ⟨_, rfl⟩
  have GX := hide' (show X.heap[gb]? = some (.cells #[.int .i64 (W : Int), .int .i64 (H : Int), .slice ra rn rc] 26 (0, 0)) by rw [← hX]; exact setNow Gv10.out rfl _ _ _)
  have KX := hide' (show ∀ j, j ≠ gb → X.heap[j]? = w8.heap[j]? by rw [← hX]; exact fun j hj => keep3 hj _ _ _)
  have CX' := hide' (show Below w1.heap.size w1 X by rw [← hX]; exact ((C10.out.setCell (by have := SZ.out; simpa using this) _).setCell (by have := SZ.out; simpa using this) _).setCell (by have := SZ.out; simpa using this) _)
  have AX := hide' (show ArgP X ys ra rn rc from by
    rw [HYS.out]
    exact Ar.out.keepB (fun z q off h => KX.out q (RO.out (by simpa using z) q off h)))
  have AF := hide' (show ArgP X ys fa fn fc from Af10.out.keepB (fun z q off h => KX.out q (by have := FL.out (by rw [HYS.out] at z; simpa using z) q off h; omega)))
  have GF := hide' ((KX.out _ (by have := LZ.out; omega)).trans Gf10.out)
  have v0 := cell_of_row _ _ 0 _ _ _ Gv10.out
  have v1 := cell_of_row _ _ 1 _ _ _ Gv10.out
  have v2 := cell_of_row _ _ 2 _ _ _ Gv10.out
  simp at v0 v1 v2
  have u0 := frozen_of_row _ _ 0 _ _ Gv10.out
  have u1 := frozen_of_row _ _ 1 _ _ Gv10.out
  have u2 := frozen_of_row _ _ 2 _ _ Gv10.out
  have vl := lt_of_block Gv10.out
  clear Gf10 Af10 Ar KX RO FL C10
  go_upto_region 16 with fail
  try rw [hgb]
  try rw [hX]
  clear hX v0 v1 v2 u0 u1 u2 vl Gv10
  have z0 := cell_of_row _ _ 0 _ _ _ GF.out
  have z1 := cell_of_row _ _ 1 _ _ _ GF.out
  have z2 := cell_of_row _ _ 2 _ _ _ GF.out
  simp at z0 z1 z2
  have y0 := cell_of_row _ _ 0 _ _ _ GX.out
  have y1 := cell_of_row _ _ 1 _ _ _ GX.out
  have y2 := cell_of_row _ _ 2 _ _ _ GX.out
  simp at y0 y1 y2
  go_wp2_with fail
  refine (alike_br (W : Int) (H : Int) ys fa ra fn fc rn rc _ AF.out AX.out).mono ?_
  rintro e w9 ⟨rfl, b'⟩
  have C11 := hide' (CX'.out.trans (b'.mono CX'.out.size))
  have Gf11 := hide' ((b'.block _ (lt_of_block GF.out)).trans GF.out)
  have Af11 := hide' (AF.out.below b')
  have Gv11 := hide' ((b'.block _ (lt_of_block GX.out)).trans GX.out)
  have Av11 := hide' (AX.out.below b')
  clear b' z0 z1 z2 y0 y1 y2 CX' GF AF GX AX
  clear Gf11 Af11 Gv11 Av11
  go_wp2_with fail
  refine (BAC.out _ C11.out).mono ?_
  rintro e w10 ⟨gk, rfl, ap, b'⟩
  have C12 := hide' (C11.out.trans (b'.mono C11.out.size))
  clear b' C11
  have Ab0 := hide' ap
  clear ap
  obtain ⟨V, rfl⟩ : ∃ V, V = w10 := ⟨_, rfl⟩
  have S0 := hide' (BL.start V tv)
  have mk1 := mk_intR V
  have mk2 := mk_boolR (V.alloc (.cells (madeCells #[.int .i64 0] 16) 3))
  obtain ⟨V0, hV0⟩ : ∃ V0, (V.alloc (.cells (madeCells #[.int .i64 0] 16) 3)).alloc (.cells (madeCells #[.bool false] 16) 4) = V0 := ⟨_, rfl⟩
  rw [hV0] at S0
  have sa : (V.alloc (.cells (madeCells #[.int .i64 0] 16) 3)).heap.size = V.heap.size + 1 := by simp
  rw [sa] at mk2
  go_upto_region 25 with fail
  try rw [hV0]
  clear mk1 mk2 hV0 sa
  go_wp2
  go_loopw [12, 20] (fun fv iv wr => ∃ (i F : Nat), iv = .int .i64 (i : Int) ∧ fv = .int .i64 (F : Int) ∧ i ≤ 16 ∧ F ≤ 5 ∧ Hid (F = if collB tv i then 5 else 0) ∧ Hid (BL V wr tv i)) (fun _ iv _ => 16 - (intOf iv).toNat)
  case atStart => exact ⟨0, 0, by go_num, by go_num, by omega, by omega, hide' rfl, S0⟩
  case round =>
    obtain ⟨i, F, rfl, rfl, hi, hF, HF, HB⟩ := hrel
    obtain ⟨V1, rfl⟩ : ∃ V1, V1 = wr := ⟨_, rfl⟩
    by_cases di : (i : Int) < 16
    · have il : i < 16 := by omega
      have ci := HC.out V1 (C12.out.trans (HB.out.below.mono C12.out.size)) i il
      have tl := HL.out i il
      have NX := hide' HB.out.next
      have cs : V1.cell? ⟨V.heap.size + 1, tv i, none⟩ = some (.bool (takF tv i (tv i))) := by rw [cell_of_row V1 _ _ _ _ _ HB.out.tk, arrF_get _ tl]
      have cw : V1.cell? ⟨V.heap.size, tv i, none⟩ = some (.int .i64 (backF tv i (tv i) : Int)) := by rw [cell_of_row V1 _ _ _ _ _ HB.out.bk, arrF_get _ tl]
      have r1 := frozen_of_row V1 _ (tv i) _ _ HB.out.tk
      have r2 := frozen_of_row V1 _ (tv i) _ _ HB.out.bk
      have b1 := lt_of_block HB.out.tk
      have b2 := lt_of_block HB.out.bk
      have CN := hide' (show collB tv (i + 1) = (collB tv i || takF tv i (tv i)) from rfl)
      obtain ⟨CZ, hCZ⟩ : ∃ CZ : World → Prop, CZ = fun U => U.cell? ⟨gt, ot + i, none⟩ = some (.int .i64 (tv i : Int)) := ⟨_, rfl⟩
      have cj : (V1.setCell ⟨V.heap.size + 1, tv i, none⟩ (.bool true)).cell? ⟨gt, ot + i, none⟩ = some (.int .i64 (tv i : Int)) :=
        HC.out _ ((C12.out.trans (HB.out.below.mono C12.out.size)).setCell (by have := C12.out.size; simp; omega) _) i il
      clear hCZ CZ
      obtain ⟨v, hv⟩ : ∃ v, tv i = v := ⟨_, rfl⟩
      rw [hv] at ci tl NX cs cw r1 r2 CN cj
      have vi : (v : Int) < 16 := by omega
      obtain ⟨u, hu⟩ : ∃ u, takF tv i v = u := ⟨_, rfl⟩
      rw [hu] at cs CN
      obtain ⟨u2, hu2⟩ : ∃ u2, backF tv i v = u2 := ⟨_, rfl⟩
      rw [hu2] at cw
      clear hv hu hu2
      cases u with
      | true =>
        go_wp2
        exact ⟨⟨i + 1, 5, by go_num, by go_num, by omega, by omega, hide' (by rw [CN.out]; simp), NX⟩, by simp [intOf]; omega⟩
      | false =>
        go_wp2
        exact ⟨⟨i + 1, F, by go_num, by go_num, by omega, hF, hide' (by rw [CN.out, Bool.or_false]; exact HF.out), NX⟩, by simp [intOf]; omega⟩
    · obtain rfl : i = 16 := by omega
      have FE : F = 0 := by rw [HF.out, HI.out]; rfl
      subst FE
      have bV := hide' HB.out.below
      have CE := hide' (C12.out.trans (bV.out.mono C12.out.size))
      have AW := hide' HB.out.arg
      have AK := hide' (Ab0.out.below bV.out)
      clear HF HB bV C12 Ab0
      go_wp2_with fail
      refine (ERR.out _ CE.out).mono ?_
      rintro e w11 ⟨rfl, b'⟩
      have C13 := hide' (CE.out.trans (b'.mono CE.out.size))
      have Aw13 := hide' (AW.out.below b')
      have Ak13 := hide' (AK.out.below b')
      clear b'  CE AW AK
      go_wp2_with fail
      refine (ints_br (backL tv) (some ⟨gk, 0, none⟩) (some ⟨V.heap.size, 0, none⟩) 16 16 16 16 _ Ak13.out Aw13.out).mono ?_
      rintro e w12 ⟨rfl, b'⟩
      have C14 := hide' (C13.out.trans (b'.mono C13.out.size))
      have Aw14 := hide' (Aw13.out.below b')
      have Ak14 := hide' (Ak13.out.below b')
      clear b'  C13 Aw13 Ak13
      clear Aw14 Ak14
      go_wp2_with fail
      refine (KEE.out _ C14.out).mono ?_
      rintro e w13 ⟨rfl, b'⟩
      have C15 := hide' (C14.out.trans (b'.mono C14.out.size))
      clear b'  C14
      go_wp2_with fail
      refine (ERR.out _ C15.out).mono ?_
      rintro e w14 ⟨rfl, b'⟩
      have C16 := hide' (C15.out.trans (b'.mono C15.out.size))
      clear b'  C15
      go_wp2_with fail
      refine (TUR.out _ C16.out).mono ?_
      rintro e w15 ⟨rfl, b'⟩
      have C17 := hide' (C16.out.trans (b'.mono C16.out.size))
      clear b'  C16
      go_wp2_with fail
      refine (ERR.out _ C17.out).mono ?_
      rintro e w16 ⟨rfl, b'⟩
      have C18 := hide' (C17.out.trans (b'.mono C17.out.size))
      clear b'  C17
      go_wp2_with fail
      refine (RKE.out _ C18.out).mono ?_
      rintro e w17 ⟨rfl, b'⟩
      have C19 := hide' (C18.out.trans (b'.mono C18.out.size))
      clear b'  C18
      go_wp2_with fail
      refine (RTU.out _ C19.out).mono ?_
      rintro e w18 ⟨rfl, b'⟩
      have C20 := hide' (C19.out.trans (b'.mono C19.out.size))
      clear b'  C19
      go_wp2
      go_ret
      exact ⟨by simp, BW.out _ C20.out⟩
end Go.Proofs.YtfeddccbhmbkmaaDoor

