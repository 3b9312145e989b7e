/-
  What the last text of this claim leans on, part 19: Hd2.
-/
import Derived.Test.YtemhcpldflcfbaaGreatDoorYf18
namespace Go.Proofs.YtemhcpldflcfbaaGreatDoor
open Go.RowKit
set_option linter.unusedVariables false
def levW (fb : Nat) (w : World) : Nat := match w.cell? ⟨fb, 2, none⟩ with
 | some v => (intOf v).toNat
 | none => 0
theorem levW_of {w : World} {fb L : Nat} {a b d e : Value} (h : w.heap[fb]? = some (.cells #[a, b, .int .i64 (L : Int), d, e] 72 (0, 0))) : levW fb w = L := by
 have := cell_of_row w fb 2 _ _ _ h
 simp at this
 unfold levW
 rw [this]
 simp [intOf]
structure TrI (mp : Option (Nat × Nat)) (gq : Nat) (w wr : World) (B sb fb : Nat) (M : Int) (F : Int → Int → Int) (K : Nat) (t L : Nat) (fr fd : Int) (n g cap : Nat) (qs : List Sq) : Prop where
 box : wr.heap[fb]? = some (.cells #[.pointer (some ⟨sb, 0, none⟩), .int .i32 (t : Int), .int .i64 (L : Int), .int .i64 fr, .int .i64 fd] 72 (0, 0))
 res : wr.heap[fb + 1]? = some (.cells #[.pointer none, .int .i32 0, .int .i64 0, .int .i64 0, .int .i64 0] 72 (0, 0))
 fld : FldA wr B sb t L fr fd M F n g cap qs mp
 len : qs.length + n ≤ K
 bel : Below B w wr
 kps : KpS sb gq g w wr mp
set_option maxRecDepth 100000 in
set_option maxHeartbeats 12800000 in
theorem trimmed_some (mp : Option (Nat × Nat)) (B sb t L : Nat) (fr fd M : Int) (F : Int → Int → Int) (n g cap : Nat) (qs : List Sq) (w : World) (h : FldA w B sb t L fr fd M F n g cap qs mp) (t0 : t ≠ 0) (hM : M ≤ 144115188075855872) (hB : B ≤ w.heap.size) (hl : qs.length + n ≤ 1900000) :
  Calls Tryz.prog 46 #[.agg #[.pointer (some ⟨sb, 0, none⟩), .int .i32 (t : Int), .int .i64 (L : Int), .int .i64 fr, .int .i64 fd]] w (TrM mp B M F (qs.length + n) sb g w) := by
 obtain ⟨w2, hw2⟩ : ∃ w2, (w.alloc (.cells #[.pointer (some ⟨sb, 0, none⟩), .int .i32 (t : Int), .int .i64 (L : Int), .int .i64 fr, .int .i64 fd] 72)).alloc (.cells #[.pointer none, .int .i32 0, .int .i64 0, .int .i64 0, .int .i64 0] 72) = w2 := ⟨_, rfl⟩
 obtain ⟨fb, hfbb⟩ : ∃ fb, w.heap.size = fb := ⟨_, rfl⟩
 have HW2 := hide' hw2
 have HFB := hide' hfbb
 have B2 := hide' (show Below w.heap.size w w2 by rw [← hw2]; exact ((Below.refl _ _).alloc (Nat.le_refl _) _).alloc (by simp) _)
 have F2 := hide' (show w2.heap[fb]? = some (.cells #[.pointer (some ⟨sb, 0, none⟩), .int .i32 (t : Int), .int .i64 (L : Int), .int .i64 fr, .int .i64 fd] 72 (0, 0)) by rw [← hw2, ← hfbb]; exact (heap_alloc_old _ _ (by simp)).trans (heap_alloc_new w _))
 have R2 := hide' (show w2.heap[fb + 1]? = some (.cells #[.pointer none, .int .i32 0, .int .i64 0, .int .i64 0, .int .i64 0] 72 (0, 0)) by rw [← hw2]; exact heap_atX _ _ _ (by simp [hfbb]))
 have f1 := cell_of_row w2 fb 1 _ _ _ F2.out
 simp at f1
 have z0 : ((t : Int) == 0) = false := by simp; omega
 obtain ⟨K, hK⟩ : ∃ K, qs.length + n = K := ⟨_, rfl⟩
 have I2 := hide' (show TrI mp g w w2 B sb fb M F K t L fr fd n g cap qs from ⟨F2.out, R2.out, ⟨h.stk.below B2.out, h.wf, h.lev, h.one, h.hi, h.r1, h.r2, h.d1, h.d2, h.val⟩, by omega, B2.out.mono hB, KpS.of_below B2.out⟩)
 obtain ⟨gq, hg0⟩ : ∃ gq, g = gq := ⟨_, rfl⟩
 have HBB := hide' (And.intro hB (And.intro hM (show K ≤ 1900000 by omega)))
 rw [hK]
 rw [show TrM mp B M F K sb g w = TrM mp B M F K sb gq w by rw [hg0]]
 have I2' := hide' (show TrI mp gq w w2 B sb fb M F K t L fr fd n g cap qs by have := I2.out; rw [← hg0]; exact this)
 clear I2 hg0 hw2 hfbb h hM hB hl t0 hK
 go_enter Tryz.func46, Tryz.ntmps46
 go_upto_region 1 with fail
 rw [HW2.out, HFB.out]
 go_wp2
 clear f1
 go_loopw [13] (fun _ wr => ∃ (t L : Nat) (fr fd : Int) (n g cap : Nat) (qs : List Sq), Hid (TrI mp gq w wr B sb fb M F K t L fr fd n g cap qs)) (fun _ wr => levW fb wr)
 case atStart => exact ⟨t, L, fr, fd, n, g, cap, qs, I2'⟩
 case round =>
  obtain ⟨t', L', fr', fd', n', g', cap', qs', HI⟩ := hrel
  have c0 := cell_of_row wr fb 0 _ _ _ HI.out.box
  have c1 := cell_of_row wr fb 1 _ _ _ HI.out.box
  have c2 := cell_of_row wr fb 2 _ _ _ HI.out.box
  simp at c0 c1 c2
  by_cases dl : 4 < L'
  ·have d1 : 4 < (L' : Int) := by omega
   obtain ⟨m, hm⟩ : ∃ m, n' = m + 2 := ⟨n' - 2, by have := HI.out.fld.lev; omega⟩
   subst hm
   have wfm := HI.out.fld.wf
   have pts := wfm.parts HI.out.fld.stk.st
   have lt : t' < qs'.length := wfm.lt HI.out.fld.stk.st
   have GC := hide' (grid_stk sb B g' cap' qs' t' wr HI.out.fld.stk lt (fun i => by
    unfold prt
    split; exact pts.1.lt HI.out.fld.stk.st; split; exact pts.2.1.lt HI.out.fld.stk.st; split; exact pts.2.2.1.lt HI.out.fld.stk.st; exact pts.2.2.2.lt HI.out.fld.stk.st))
   clear wfm pts lt dl
   go_wp2_with fail
   refine GC.out.mono ?_
   rintro e w3 ⟨rfl, b3⟩
   obtain ⟨Z, hZ⟩ : ∃ Z, arr16 (gridQ qs' t') = Z := ⟨_, rfl⟩
   rw [hZ]
   have HZ := hide' hZ
   have zs : Z.size = 16 := by rw [← hZ]; rfl
   have za : Z.all (·.oneCell') = true := by rw [← hZ]; simp [arr16, Value.oneCell']
   have B3 := hide' b3
   have hz : (w3.alloc (.cells #[.int .i32 0, .int .i32 0, .int .i32 0, .int .i32 0, .int .i32 0, .int .i32 0, .int .i32 0, .int .i32 0, .int .i32 0, .int .i32 0, .int .i32 0, .int .i32 0, .int .i32 0, .int .i32 0, .int .i32 0, .int .i32 0] 154)).heap[w3.heap.size]? = some (.cells #[.int .i32 0, .int .i32 0, .int .i32 0, .int .i32 0, .int .i32 0, .int .i32 0, .int .i32 0, .int .i32 0, .int .i32 0, .int .i32 0, .int .i32 0, .int .i32 0, .int .i32 0, .int .i32 0, .int .i32 0, .int .i32 0] 154 (0, 0)) := heap_alloc_new _ _
   obtain ⟨w4, hw4⟩ : ∃ w4, (w3.alloc (.cells #[.int .i32 0, .int .i32 0, .int .i32 0, .int .i32 0, .int .i32 0, .int .i32 0, .int .i32 0, .int .i32 0, .int .i32 0, .int .i32 0, .int .i32 0, .int .i32 0, .int .i32 0, .int .i32 0, .int .i32 0, .int .i32 0] 154)).setRow w3.heap.size Z = w4 := ⟨_, rfl⟩
   have g4 : w4.heap[w3.heap.size]? = some (.cells Z 154 (0, 0)) := by rw [← hw4]; exact setRow_heap _ _ _ _ _ _ hz
   have G4 := hide' g4
   have B4 := hide' (show Below wr.heap.size wr w4 by rw [← hw4]; exact below_setRow (B3.out.alloc B3.out.size _) B3.out.size _)
   have CC := hide' (corner_any (gridQ qs' t') Z HZ.out w4)
   clear b3 hZ c0 c1 c2
   go_wp2_with (first
    | (refine wpList_store_row rfl 154 _ _ rfl w3.heap.size Z rfl rfl 154 _ hz (by rw [zs]; kernel_rfl) (by rw [zs]; rfl) za ?_; rw [hw4])
    | (refine wpList_load_row rfl 154 _ rfl w3.heap.size rfl 154 Z (0, 0) _ g4 Tryz.underlying154 rfl (by rw [zs]; kernel_rfl) ?_))
   refine CC.out.mono ?_
   rintro e w5 ⟨⟨x, y, ok, rfl, hok, hfar⟩, b5⟩
   obtain ⟨gb, hgb⟩ : ∃ gb, w3.heap.size = gb := ⟨_, rfl⟩
   have HGB := hide' (show wr.heap.size ≤ gb by rw [← hgb]; exact B3.out.size)
   rw [hgb] at G4 ⊢
   have G5 := hide' ((b5.block _ (lt_of_block G4.out)).trans G4.out)
   have B5 := hide' (B4.out.trans (b5.mono B4.out.size))
   have E5 := hide' (show w5.heap[fb]? = some (.cells #[.pointer (some ⟨sb, 0, none⟩), .int .i32 (t' : Int), .int .i64 (L' : Int), .int .i64 fr', .int .i64 fd'] 72 (0, 0)) from (B5.out.block _ (lt_of_block HI.out.box)).trans HI.out.box)
   have R5 := hide' (show w5.heap[fb + 1]? = some (.cells #[.pointer none, .int .i32 0, .int .i64 0, .int .i64 0, .int .i64 0] 72 (0, 0)) from (B5.out.block _ (lt_of_block HI.out.res)).trans HI.out.res)
   have S5 := hide' (HI.out.fld.stk.below B5.out)
   have c0 := cell_of_row w5 fb 0 _ _ _ E5.out
   have c1 := cell_of_row w5 fb 1 _ _ _ E5.out
   have c2 := cell_of_row w5 fb 2 _ _ _ E5.out
   have c3 := cell_of_row w5 fb 3 _ _ _ E5.out
   have c4 := cell_of_row w5 fb 4 _ _ _ E5.out
   simp at c0 c1 c2 c3 c4
   clear hz hw4 g4 b5 hgb
   cases ok with
   | false =>
    have EB := hide' E5.out
    have RB := hide' R5.out
    have TG := hide' ((hfar rfl).tight HI.out.fld.stk.st HI.out.fld.wf HI.out.fld.val)
    clear hfar
    have FA := hide' (show FldA w5 B sb t' L' fr' fd' M F (m + 2) g' cap' qs' mp from ⟨S5.out, HI.out.fld.wf, HI.out.fld.lev, HI.out.fld.one, HI.out.fld.hi, HI.out.fld.r1, HI.out.fld.r2, HI.out.fld.d1, HI.out.fld.d2, HI.out.fld.val⟩)
    have KA := hide' (show KpS sb gq g' w w5 mp from HI.out.kps.trans (KpS.of_below B5.out))
    have BA := hide' (show Below B w w5 from HI.out.bel.trans (B5.out.mono (Nat.le_trans HBB.out.1 HI.out.bel.size)))
    clear c0 c1 c2 c3 c4 hok
    have x0 := cell_of_row w5 fb 0 _ _ _ EB.out
    have x1 := cell_of_row w5 fb 1 _ _ _ EB.out
    have x2 := cell_of_row w5 fb 2 _ _ _ EB.out
    have x3 := cell_of_row w5 fb 3 _ _ _ EB.out
    have x4 := cell_of_row w5 fb 4 _ _ _ EB.out
    have z0' := cell_of_row w5 (fb + 1) 0 _ _ _ RB.out
    have z1' := cell_of_row w5 (fb + 1) 1 _ _ _ RB.out
    have z2' := cell_of_row w5 (fb + 1) 2 _ _ _ RB.out
    have z3' := cell_of_row w5 (fb + 1) 3 _ _ _ RB.out
    have z4' := cell_of_row w5 (fb + 1) 4 _ _ _ RB.out
    have fz0 := frozen_of_row w5 (fb + 1) 0 _ _ RB.out
    have g1 := frozen_of_row w5 (fb + 1) 1 _ _ RB.out
    have g2 := frozen_of_row w5 (fb + 1) 2 _ _ RB.out
    have g3 := frozen_of_row w5 (fb + 1) 3 _ _ RB.out
    have g4 := frozen_of_row w5 (fb + 1) 4 _ _ RB.out
    simp at x0 x1 x2 x3 x4 z0' z1' z2' z3' z4'
    go_wp2
    obtain ⟨X, hX⟩ : ∃ X, ((((w5.setCell ⟨fb + 1, 0, none⟩ (.pointer (some ⟨sb, 0, none⟩))).setCell ⟨fb + 1, 1, none⟩ (.int .i32 (t' : Int))).setCell ⟨fb + 1, 2, none⟩ (.int .i64 (L' : Int))).setCell ⟨fb + 1, 3, none⟩ (.int .i64 fr')).setCell ⟨fb + 1, 4, none⟩ (.int .i64 fd') = X := ⟨_, rfl⟩
    have GX : X.heap[fb + 1]? = some (.cells #[.pointer (some ⟨sb, 0, none⟩), .int .i32 (t' : Int), .int .i64 (L' : Int), .int .i64 fr', .int .i64 fd'] 72 (0, 0)) := by rw [← hX]; exact five_stored RB.out _ _ _ _ _
    have rn := FA.out.stk.ne_four RB.out (by decide) (by decide)
    have SX : StkA X sb B g' cap' qs' mp := by
     rw [← hX]
     exact FA.out.stk.keepM (five_else (fun e => rn.1 e.symm) _ _ _ _ _) (five_else (fun e => rn.2 e.symm) _ _ _ _ _) (fun k e => five_else (fun q => FA.out.stk.nomap RB.out (by rw [← q]; exact e)) _ _ _ _ _)
    have BX : Below B w X := by
     rw [← hX]
     exact five_belowH BA.out (by have := HFB.out; have := HBB.out.1; omega) _ _ _ _ _
    have KX : KpF sb gq w X mp := by
     rw [← hX]
     have q : w.heap.size ≤ fb + 1 := by have := HFB.out; omega
     exact KpF.of_kps (((((KA.out.set q _).set q _).set q _).set q _).set q _)
    rw [hX]
    clear hX x0 x1 x2 x3 x4 z0' z1' z2' z3' z4' fz0 g1 g2 g3 g4
    have i0 := cell_of_row X _ 0 _ _ _ GX
    have i1 := cell_of_row X _ 1 _ _ _ GX
    have i2 := cell_of_row X _ 2 _ _ _ GX
    have i3 := cell_of_row X _ 3 _ _ _ GX
    have i4 := cell_of_row X _ 4 _ _ _ GX
    simp at i0 i1 i2 i3 i4
    refine bodyPost_ret (v := .agg #[.pointer (some ⟨sb, 0, none⟩), .int .i32 (t' : Int), .int .i64 (L' : Int), .int .i64 fr', .int .i64 fd']) (by simp [results, Tryz.results46, go_sem, i0, i1, i2, i3, i4]) rfl ?_
    exact ⟨sb, t', L', fr', fd', (m + 2), g', cap', qs', mp, rfl, ⟨SX, FA.out.wf, FA.out.lev, FA.out.one, FA.out.hi, FA.out.r1, FA.out.r2, FA.out.d1, FA.out.d2, FA.out.val⟩, by have := HI.out.len; omega, BX, KX, TG.out, Or.inl rfl⟩
   | true =>
    obtain ⟨hx, hy, hg⟩ := hok rfl
    clear hfar
    have HG := hide' hg
    obtain ⟨i, hi⟩ : ∃ i, 4 * y + x = i := ⟨_, rfl⟩
    have e1 : 4 * (y : Int) + (x : Int) = (i : Int) := by omega
    have e0 : IntKind.i64.wrap (4 * (y : Int)) = 4 * (y : Int) := by simp [IntKind.wrap, IntKind.bits, IntKind.signed]; omega
    have e01 : IntKind.i64.wrap (i : Int) = (i : Int) := by simp [IntKind.wrap, IntKind.bits, IntKind.signed]; omega
    have i10 : i ≤ 10 := by omega
    have XYI := hide' (And.intro hi (And.intro hx hy))
    obtain ⟨L2, hL2⟩ : ∃ L2, m + 3 = L2 := ⟨_, rfl⟩
    have e2 : (L' : Int) - 2 = (L2 : Int) := by have := HI.out.fld.lev; omega
    have e3 : L2 ≤ 48 := by have := HI.out.fld.hi; omega
    have e31 : IntKind.i64.wrap (L2 : Int) = (L2 : Int) := by simp [IntKind.wrap, IntKind.bits, IntKind.signed]; omega
    have HL2 := hide' hL2
    clear hi hg hok hL2
    go_upto_region 7 with fail
    go_region
    obtain ⟨qd, hqd⟩ : ∃ qd, sideI m = qd := ⟨_, rfl⟩
    have e4 : wrap64 (2 ^ L2) = qd := by
     have : (2 : Int) ^ L2 = qd := by rw [← HL2.out, ← hqd, sideI_nat]; push_cast; rfl
     rw [this]
     have h1 := sideI_le (n := m) (by have := HI.out.fld.hi; omega)
     have h2 := sideI_pos m
     unfold wrap64; omega
    rw [e4]
    have QD := hide' hqd
    obtain ⟨w6, hw6⟩ : ∃ w6, w5.drew = w6 := ⟨_, rfl⟩
    have E6 := hide' (show w6.heap[fb]? = some (.cells #[.pointer (some ⟨sb, 0, none⟩), .int .i32 (t' : Int), .int .i64 (L' : Int), .int .i64 fr', .int .i64 fd'] 72 (0, 0)) by rw [← hw6]; exact E5.out)
    have R6 := hide' (show w6.heap[fb + 1]? = some (.cells #[.pointer none, .int .i32 0, .int .i64 0, .int .i64 0, .int .i64 0] 72 (0, 0)) by rw [← hw6]; exact R5.out)
    have G6 := hide' (show w6.heap[gb]? = some (.cells Z 154 (0, 0)) by rw [← hw6]; exact G5.out)
    have S6 := hide' (show StkA w6 sb B g' cap' qs' mp by rw [← hw6]; exact S5.out.drewS)
    have K6 := hide' (show KpS sb gq g' w w6 mp by rw [← hw6]; exact HI.out.kps.trans (KpS.of_below B5.out.drew))
    have B6 := hide' (show Below B w w6 by rw [← hw6]; exact HI.out.bel.trans ((B5.out.mono (Nat.le_trans HBB.out.1 HI.out.bel.size)).drew))
    rw [hw6]
    clear hw6 e0 e01 e31 e4 e2 e3 hqd c0 c1 c2 c3 c4 e1 hx hy
    obtain ⟨i1, hi1⟩ : ∃ j, i + 1 = j := ⟨_, rfl⟩
    obtain ⟨i4, hi4⟩ : ∃ j, i + 4 = j := ⟨_, rfl⟩
    obtain ⟨i5, hi5⟩ : ∃ j, i + 5 = j := ⟨_, rfl⟩
    have HII := hide' (And.intro hi1 (And.intro hi4 hi5))
    have ZG := hide' (fun (j : Nat) (hj : j < 16) => show w6.cell? ⟨gb, j, none⟩ = some (.int .i32 ((gridQ qs' t' j : Nat) : Int)) from by rw [cell_of_row w6 gb j _ _ _ G6.out, ← HZ.out]; exact get16 hj)
    obtain ⟨v0, hv0⟩ : ∃ v, gridQ qs' t' i = v := ⟨_, rfl⟩
    obtain ⟨v1, hv1⟩ : ∃ v, gridQ qs' t' i1 = v := ⟨_, rfl⟩
    obtain ⟨v2, hv2⟩ : ∃ v, gridQ qs' t' i4 = v := ⟨_, rfl⟩
    obtain ⟨v3, hv3⟩ : ∃ v, gridQ qs' t' i5 = v := ⟨_, rfl⟩
    have k0 := ZG.out i (by omega)
    have k1 := ZG.out i1 (by omega)
    have k2 := ZG.out i4 (by omega)
    have k3 := ZG.out i5 (by omega)
    rw [hv0] at k0
    rw [hv1] at k1
    rw [hv2] at k2
    rw [hv3] at k3
    have HVV := hide' (And.intro hv0 (And.intro hv1 (And.intro hv2 hv3)))
    have a1 : (i : Int) + 1 = (i1 : Int) := by omega
    have a4 : (i : Int) + 4 = (i4 : Int) := by omega
    have a5 : (i : Int) + 5 = (i5 : Int) := by omega
    have u0 : (i : Int) < 16 := by omega
    have u1 : (i1 : Int) < 16 := by omega
    have u4 : (i4 : Int) < 16 := by omega
    have u5 : (i5 : Int) < 16 := by omega
    have n0 : IntKind.i64.wrap (i : Int) = (i : Int) := by simp [IntKind.wrap, IntKind.bits, IntKind.signed]; omega
    have n1 : IntKind.i64.wrap (i1 : Int) = (i1 : Int) := by simp [IntKind.wrap, IntKind.bits, IntKind.signed]; omega
    have n4 : IntKind.i64.wrap (i4 : Int) = (i4 : Int) := by simp [IntKind.wrap, IntKind.bits, IntKind.signed]; omega
    have n5 : IntKind.i64.wrap (i5 : Int) = (i5 : Int) := by simp [IntKind.wrap, IntKind.bits, IntKind.signed]; omega
    clear hi1 hi4 hi5 hv0 hv1 hv2 hv3 i10
    have c0 := cell_of_row w6 fb 0 _ _ _ E6.out
    have c1 := cell_of_row w6 fb 1 _ _ _ E6.out
    have f1 := frozen_of_row w6 fb 1 _ _ E6.out
    simp at c0 c1
    have gw := fun j => grid_wf (n := m) HI.out.fld.stk.st HI.out.fld.wf j
    have LV := hide' (show v0 < qs'.length ∧ v1 < qs'.length ∧ v2 < qs'.length ∧ v3 < qs'.length by
     rw [← HVV.out.1, ← HVV.out.2.1, ← HVV.out.2.2.1, ← HVV.out.2.2.2]
     exact ⟨(gw _).lt HI.out.fld.stk.st, (gw _).lt HI.out.fld.stk.st, (gw _).lt HI.out.fld.stk.st, (gw _).lt HI.out.fld.stk.st⟩)
    obtain ⟨w7, hw7⟩ : ∃ w7, (w6.alloc (.cells #[.int .i32 (v0 : Int), .int .i32 (v1 : Int), .int .i32 (v2 : Int), .int .i32 (v3 : Int)] 21)).drew = w7 := ⟨_, rfl⟩
    have B7 := hide' (show Below w6.heap.size w6 w7 by rw [← hw7]; exact ((Below.refl _ _).alloc (Nat.le_refl _) _).drew)
    have A7 := (show w7.heap[w6.heap.size]? = some (.cells #[.int .i32 (v0 : Int), .int .i32 (v1 : Int), .int .i32 (v2 : Int), .int .i32 (v3 : Int)] 21 (0, 0)) by rw [← hw7]; exact heap_alloc_new _ _)
    have JC := hide' (join_stkM mp sb B g' cap' qs' v0 v1 v2 v3 w6.heap.size 4 w7 (S6.out.below B7.out) (Nat.le_trans HBB.out.1 (Nat.le_trans B6.out.size B7.out.size)) (by have := HI.out.len; have := HBB.out.2.2; omega) LV.out.1 LV.out.2.1 LV.out.2.2.1 LV.out.2.2.2 (cell_of_row w7 _ 0 _ _ _ A7) (cell_of_row w7 _ 1 _ _ _ A7) (cell_of_row w7 _ 2 _ _ _ A7) (cell_of_row w7 _ 3 _ _ _ A7))
    have SB := hide' (fun (V : World) (h1 : V.heap[fb]? = w6.heap[fb]?) (h2 : V.heap[gb]? = w6.heap[gb]?) => show V.cell? ⟨fb, 0, none⟩ = some (.pointer (some ⟨sb, 0, none⟩)) ∧ V.cell? ⟨gb, i, none⟩ = some (.int .i32 (v0 : Int)) ∧ V.cell? ⟨gb, i1, none⟩ = some (.int .i32 (v1 : Int)) ∧ V.cell? ⟨gb, i4, none⟩ = some (.int .i32 (v2 : Int)) ∧ V.cell? ⟨gb, i5, none⟩ = some (.int .i32 (v3 : Int)) from ⟨(World.cell?_of_block (a := ⟨fb, 0, none⟩) h1).trans c0, (World.cell?_of_block (a := ⟨gb, i, none⟩) h2).trans k0, (World.cell?_of_block (a := ⟨gb, i1, none⟩) h2).trans k1, (World.cell?_of_block (a := ⟨gb, i4, none⟩) h2).trans k2, (World.cell?_of_block (a := ⟨gb, i5, none⟩) h2).trans k3⟩)
    have LB := hide' (And.intro (lt_of_block E6.out) (lt_of_block G6.out))
    have SB7 := hide' (SB.out w7 (B7.out.block _ LB.out.1) (B7.out.block _ LB.out.2))
    have NF := hide' (And.intro (S6.out.ne_four E6.out (by decide) (by decide)) (S6.out.ne_four G6.out (by decide) (by decide)))
    have KQ := hide' (fun (V : World) (g2 : Nat) (hk : KpS sb g' g2 w7 V mp) => show V.heap[fb]? = w6.heap[fb]? ∧ V.heap[gb]? = w6.heap[gb]? from ⟨(hk.keepM fb (Nat.lt_of_lt_of_le LB.out.1 B7.out.size) NF.out.1.1 NF.out.1.2 (S6.out.nomap E6.out)).trans (B7.out.block _ LB.out.1), (hk.keepM gb (Nat.lt_of_lt_of_le LB.out.2 B7.out.size) NF.out.2.1 NF.out.2.2 (S6.out.nomap G6.out)).trans (B7.out.block _ LB.out.2)⟩)
    have fg : fb ≠ gb := by have := LB.out; have := HGB.out; have := lt_of_block HI.out.box; omega
    clear gw A7
    go_upto_region 8 with fail
    go_region_held3 (fun V => V.cell? ⟨fb, 0, none⟩ = some (.pointer (some ⟨sb, 0, none⟩)) ∧ V.cell? ⟨gb, i, none⟩ = some (.int .i32 (v0 : Int)) ∧ V.cell? ⟨gb, i1, none⟩ = some (.int .i32 (v1 : Int)) ∧ V.cell? ⟨gb, i4, none⟩ = some (.int .i32 (v2 : Int)) ∧ V.cell? ⟨gb, i5, none⟩ = some (.int .i32 (v3 : Int))) (first | exact SB7.out | exact SB.out _ rfl rfl | exact SB.out _ (heap_alloc_old w6 _ LB.out.1) (heap_alloc_old w6 _ LB.out.2) | exact SB.out _ kq1 kq2 | exact ⟨(cell_other (show w8.cell? ⟨fb, 0, none⟩ = _ from (SB.out w8 kq1 kq2).1) (by simp)), (World.cell?_of_block (a := ⟨gb, i, none⟩) (Below.heap_setCell _ _ _ _ (fun e => fg e.symm))).trans (SB.out w8 kq1 kq2).2.1, (World.cell?_of_block (a := ⟨gb, i1, none⟩) (Below.heap_setCell _ _ _ _ (fun e => fg e.symm))).trans (SB.out w8 kq1 kq2).2.2.1, (World.cell?_of_block (a := ⟨gb, i4, none⟩) (Below.heap_setCell _ _ _ _ (fun e => fg e.symm))).trans (SB.out w8 kq1 kq2).2.2.2.1, (World.cell?_of_block (a := ⟨gb, i5, none⟩) (Below.heap_setCell _ _ _ _ (fun e => fg e.symm))).trans (SB.out w8 kq1 kq2).2.2.2.2⟩ | go_keep | fail) (first | (go_at_call 84; refine JC.out.mono ?_; rintro e w8 ⟨g2, cap2, qs2, t2, rfl, hs, hj, hk⟩; have kq1 : w8.heap[fb]? = w6.heap[fb]? := (KQ.out _ _ hk).1; have kq2 : w8.heap[gb]? = w6.heap[gb]? := (KQ.out _ _ hk).2; have y1 : w8.cell? ⟨fb, 1, none⟩ = some (.int .i32 (t' : Int)) := (World.cell?_of_block (a := ⟨fb, 1, none⟩) kq1).trans c1; have y2 : w8.frozen? ⟨fb, 1, none⟩ = false := (World.frozen?_of_block (a := ⟨fb, 1, none⟩) kq1).trans f1) | fail)
    obtain ⟨w9, hw9⟩ : ∃ w9, w8.setCell ⟨fb, 1, none⟩ (.int .i32 (t2 : Int)) = w9 := ⟨_, rfl⟩
    have e9 : w9.heap[fb]? = some (.cells #[.pointer (some ⟨sb, 0, none⟩), .int .i32 (t2 : Int), .int .i64 (L' : Int), .int .i64 fr', .int .i64 fd'] 72 (0, 0)) := by
     rw [← hw9, heap_setCell_same _ _ _ _ _ _ (kq1.trans E6.out)]; rfl
    have r9 : w9.heap[fb + 1]? = some (.cells #[.pointer none, .int .i32 0, .int .i64 0, .int .i64 0, .int .i64 0] 72 (0, 0)) := by
     have rn := S6.out.ne_four R6.out (by decide) (by decide)
     rw [← hw9]
     exact (Below.heap_setCell _ _ _ _ (by show fb + 1 ≠ fb; omega)).trans ((hk.keepM _ (Nat.lt_of_lt_of_le (lt_of_block R6.out) B7.out.size) rn.1 rn.2 (S6.out.nomap R6.out)).trans ((B7.out.block _ (lt_of_block R6.out)).trans R6.out))
    have fn := hs.ne_four (kq1.trans E6.out) (by decide) (by decide)
    have S9 := hide' (show StkA w9 sb B g2 cap2 qs2 mp by rw [← hw9]; exact hs.setM fn.1 fn.2 (hs.nomap (kq1.trans E6.out)) _)
    have zb : B ≤ fb := by have := HFB.out; have := HBB.out.1; omega
    have qf : w.heap.size ≤ fb := by have := HFB.out; omega
    have K9 := hide' (show KpS sb gq g2 w w9 mp by
     rw [← hw9]
     exact (K6.out.trans ((KpS.of_below B7.out).trans hk)).set qf _)
    have B9 := hide' (show Below B w w9 by
     rw [← hw9]
     exact (B6.out.trans ((B7.out.mono (Nat.le_trans HBB.out.1 B6.out.size)).trans (hk.belowM S6.out.le S6.out.rowB.1 (Nat.le_trans HBB.out.1 (Nat.le_trans B6.out.size B7.out.size)) (fun k e => S6.out.map.ge e)))).setCell zb _)
    have TV := trim_val (x := x) (y := y) HI.out.fld.stk.st HI.out.fld.wf XYI.out.2.1 XYI.out.2.2 HG.out (by rw [XYI.out.1, HII.out.1, HII.out.2.1, HII.out.2.2, HVV.out.1, HVV.out.2.1, HVV.out.2.2.1, HVV.out.2.2.2]; exact hj)
    have HTV := hide' TV
    have QL := hide' (show qs2.length ≤ qs'.length + 1 by obtain ⟨ms, e1, e2⟩ := hj.app; rw [e1, List.length_append]; omega)
    rw [hw9]
    clear hs hj hk kq1 kq2 y1 y2 hw9 TV fn c0 c1 f1 k0 k1 k2 k3 a1 a4 a5 u0 u1 u4 u5 n0 n1 n4 n5
    have c2 := cell_of_row w9 fb 2 _ _ _ e9
    have c3 := cell_of_row w9 fb 3 _ _ _ e9
    have c4 := cell_of_row w9 fb 4 _ _ _ e9
    have f2 := frozen_of_row w9 fb 2 _ _ e9
    have f3 := frozen_of_row w9 fb 3 _ _ e9
    have f4 := frozen_of_row w9 fb 4 _ _ e9
    simp at c2 c3 c4
    obtain ⟨L1, hL1⟩ : ∃ L1, m + 4 = L1 := ⟨_, rfl⟩
    have lv := HI.out.fld.lev
    have b1 : (L' : Int) - 1 = (L1 : Int) := by omega
    have b2 : L1 ≤ 48 := by have := HI.out.fld.hi; omega
    obtain ⟨xq, hxq⟩ : ∃ z, (x : Int) * qd = z := ⟨_, rfl⟩
    obtain ⟨yq, hyq⟩ : ∃ z, (y : Int) * qd = z := ⟨_, rfl⟩
    have q1 : 8 ≤ qd := by rw [← QD.out]; exact sideI_pos m
    have q2 : sideI (m + 2) = 4 * qd := by rw [sideI_next, sideI_next, QD.out]; omega
    have xb : 0 ≤ xq ∧ xq ≤ 2 * qd := by
     rw [← hxq]
     have : x = 0 ∨ x = 1 ∨ x = 2 := by have := XYI.out.2.1; omega
     rcases this with rfl | rfl | rfl <;> simp <;> omega
    have yb : 0 ≤ yq ∧ yq ≤ 2 * qd := by
     rw [← hyq]
     have : y = 0 ∨ y = 1 ∨ y = 2 := by have := XYI.out.2.2; omega
     rcases this with rfl | rfl | rfl <;> simp <;> omega
    have bd := And.intro HI.out.fld.r1 (And.intro HI.out.fld.r2 (And.intro HI.out.fld.d1 HI.out.fld.d2))
    rw [q2] at bd
    have hM := HBB.out.2.1
    obtain ⟨fr2, hfr2⟩ : ∃ z, fr' + xq = z := ⟨_, rfl⟩
    obtain ⟨fd2, hfd2⟩ : ∃ z, fd' + yq = z := ⟨_, rfl⟩
    have w1' : wrap64 ((x : Int) * qd) = xq := by rw [hxq]; unfold wrap64; omega
    have w2' : wrap64 ((y : Int) * qd) = yq := by rw [hyq]; unfold wrap64; omega
    have w3' : wrap64 (fr' + xq) = fr2 := by rw [hfr2]; unfold wrap64; omega
    have w4' : wrap64 (fd' + yq) = fd2 := by rw [hfd2]; unfold wrap64; omega
    obtain ⟨X, hX⟩ : ∃ X, ((w9.setCell ⟨fb, 2, none⟩ (.int .i64 (L1 : Int))).setCell ⟨fb, 3, none⟩ (.int .i64 fr2)).setCell ⟨fb, 4, none⟩ (.int .i64 fd2) = X := ⟨_, rfl⟩
    have eX : X.heap[fb]? = some (.cells #[.pointer (some ⟨sb, 0, none⟩), .int .i32 (t2 : Int), .int .i64 (L1 : Int), .int .i64 fr2, .int .i64 fd2] 72 (0, 0)) := by
     rw [← hX]
     have h0 : (w9.setCell ⟨fb, 2, none⟩ (.int .i64 (L1 : Int))).heap[fb]? = some (.cells #[.pointer (some ⟨sb, 0, none⟩), .int .i32 (t2 : Int), .int .i64 (L1 : Int), .int .i64 fr', .int .i64 fd'] 72 (0, 0)) := by rw [heap_setCell_same _ _ _ _ _ _ e9]; rfl
     have h1 : ((w9.setCell ⟨fb, 2, none⟩ (.int .i64 (L1 : Int))).setCell ⟨fb, 3, none⟩ (.int .i64 fr2)).heap[fb]? = some (.cells #[.pointer (some ⟨sb, 0, none⟩), .int .i32 (t2 : Int), .int .i64 (L1 : Int), .int .i64 fr2, .int .i64 fd'] 72 (0, 0)) := by rw [heap_setCell_same _ _ _ _ _ _ h0]; rfl
     rw [heap_setCell_same _ _ _ _ _ _ h1]; rfl
    have rX : X.heap[fb + 1]? = some (.cells #[.pointer none, .int .i32 0, .int .i64 0, .int .i64 0, .int .i64 0] 72 (0, 0)) := by
     rw [← hX]
     exact (Below.heap_setCell _ _ _ _ (by show fb + 1 ≠ fb; omega)).trans ((Below.heap_setCell _ _ _ _ (by show fb + 1 ≠ fb; omega)).trans ((Below.heap_setCell _ _ _ _ (by show fb + 1 ≠ fb; omega)).trans r9))
    have fn := S9.out.ne_four e9 (by decide) (by decide)
    have NI := hide' (show TrI mp gq w X B sb fb M F K t2 L1 fr2 fd2 (m + 1) g2 cap2 qs2 from ⟨eX, rX, ⟨by rw [← hX]; exact ((S9.out.setM fn.1 fn.2 (S9.out.nomap e9) _).setM fn.1 fn.2 (S9.out.nomap e9) _).setM fn.1 fn.2 (S9.out.nomap e9) _, HTV.out.1, hL1.symm, by omega, by have := HI.out.fld.hi; omega, by omega, by rw [sideI_next, QD.out]; omega, by omega, by rw [sideI_next, QD.out]; omega, fun u v => by
      rw [← HI.out.fld.val u v, ← HTV.out.2 (u - fr') (v - fd'), QD.out, hxq, hyq, ← hfr2, ← hfd2, show u - (fr' + xq) = u - fr' - xq by omega, show v - (fd' + yq) = v - fd' - yq by omega]⟩, by have := HI.out.len; have := QL.out; omega, by rw [← hX]; exact ((B9.out.setCell zb _).setCell zb _).setCell zb _, by rw [← hX]; exact ((K9.out.set qf _).set qf _).set qf _⟩)
    have MS := hide' (show levW fb X < levW fb wr by rw [levW_of eX, levW_of HI.out.box]; omega)
    have HX := hide' hX
    clear e9 r9 hX eX rX fn lv hxq hyq hfr2 hfd2 hL1 q1 q2 xb yb bd hM
    go_wp2
    rw [HX.out]
    exact ⟨⟨t2, L1, fr2, fd2, m + 1, g2, cap2, qs2, NI⟩, MS.out⟩
  ·have d1 : ¬ 4 < (L' : Int) := by omega
   have EB := hide' HI.out.box
   have RB := hide' HI.out.res
   have FA := hide' HI.out.fld
   have BA := hide' HI.out.bel
   have KA := hide' HI.out.kps
   clear c0 c1 c2 dl
   have x0 := cell_of_row wr fb 0 _ _ _ EB.out
   have x1 := cell_of_row wr fb 1 _ _ _ EB.out
   have x2 := cell_of_row wr fb 2 _ _ _ EB.out
   have x3 := cell_of_row wr fb 3 _ _ _ EB.out
   have x4 := cell_of_row wr fb 4 _ _ _ EB.out
   have z0' := cell_of_row wr (fb + 1) 0 _ _ _ RB.out
   have z1' := cell_of_row wr (fb + 1) 1 _ _ _ RB.out
   have z2' := cell_of_row wr (fb + 1) 2 _ _ _ RB.out
   have z3' := cell_of_row wr (fb + 1) 3 _ _ _ RB.out
   have z4' := cell_of_row wr (fb + 1) 4 _ _ _ RB.out
   have fz0 := frozen_of_row wr (fb + 1) 0 _ _ RB.out
   have g1 := frozen_of_row wr (fb + 1) 1 _ _ RB.out
   have g2 := frozen_of_row wr (fb + 1) 2 _ _ RB.out
   have g3 := frozen_of_row wr (fb + 1) 3 _ _ RB.out
   have g4 := frozen_of_row wr (fb + 1) 4 _ _ RB.out
   simp at x0 x1 x2 x3 x4 z0' z1' z2' z3' z4'
   go_wp2
   obtain ⟨X, hX⟩ : ∃ X, ((((wr.setCell ⟨fb + 1, 0, none⟩ (.pointer (some ⟨sb, 0, none⟩))).setCell ⟨fb + 1, 1, none⟩ (.int .i32 (t' : Int))).setCell ⟨fb + 1, 2, none⟩ (.int .i64 (L' : Int))).setCell ⟨fb + 1, 3, none⟩ (.int .i64 fr')).setCell ⟨fb + 1, 4, none⟩ (.int .i64 fd') = X := ⟨_, rfl⟩
   have GX : X.heap[fb + 1]? = some (.cells #[.pointer (some ⟨sb, 0, none⟩), .int .i32 (t' : Int), .int .i64 (L' : Int), .int .i64 fr', .int .i64 fd'] 72 (0, 0)) := by rw [← hX]; exact five_stored RB.out _ _ _ _ _
   have rn := FA.out.stk.ne_four RB.out (by decide) (by decide)
   have SX : StkA X sb B g' cap' qs' mp := by
    rw [← hX]
    exact FA.out.stk.keepM (five_else (fun e => rn.1 e.symm) _ _ _ _ _) (five_else (fun e => rn.2 e.symm) _ _ _ _ _) (fun k e => five_else (fun q => FA.out.stk.nomap RB.out (by rw [← q]; exact e)) _ _ _ _ _)
   have BX : Below B w X := by
    rw [← hX]
    exact five_belowH BA.out (by have := HFB.out; have := HBB.out.1; omega) _ _ _ _ _
   have KX : KpF sb gq w X mp := by
    rw [← hX]
    have q : w.heap.size ≤ fb + 1 := by have := HFB.out; omega
    exact KpF.of_kps (((((KA.out.set q _).set q _).set q _).set q _).set q _)
   rw [hX]
   clear hX x0 x1 x2 x3 x4 z0' z1' z2' z3' z4' fz0 g1 g2 g3 g4
   have i0 := cell_of_row X _ 0 _ _ _ GX
   have i1 := cell_of_row X _ 1 _ _ _ GX
   have i2 := cell_of_row X _ 2 _ _ _ GX
   have i3 := cell_of_row X _ 3 _ _ _ GX
   have i4 := cell_of_row X _ 4 _ _ _ GX
   simp at i0 i1 i2 i3 i4
   refine bodyPost_ret (v := .agg #[.pointer (some ⟨sb, 0, none⟩), .int .i32 (t' : Int), .int .i64 (L' : Int), .int .i64 fr', .int .i64 fd']) (by simp [results, Tryz.results46, go_sem, i0, i1, i2, i3, i4]) rfl ?_
   exact ⟨sb, t', L', fr', fd', n', g', cap', qs', mp, rfl, ⟨SX, FA.out.wf, FA.out.lev, FA.out.one, FA.out.hi, FA.out.r1, FA.out.r2, FA.out.d1, FA.out.d2, FA.out.val⟩, by have := HI.out.len; omega, BX, KX, Or.inl (by have := FA.out.lev; omega), Or.inl rfl⟩
theorem trimmed_any (mp : Option (Nat × Nat)) (B sb t L : Nat) (fr fd M : Int) (F : Int → Int → Int) (n g cap : Nat) (qs : List Sq) (w : World) (h : FldA w B sb t L fr fd M F n g cap qs mp) (h16 : 16 ≤ M) (hM : M ≤ 144115188075855872) (hB : B ≤ w.heap.size) (hl : qs.length + n ≤ 1900000) :
  Calls Tryz.prog 46 #[.agg #[.pointer (some ⟨sb, 0, none⟩), .int .i32 (t : Int), .int .i64 (L : Int), .int .i64 fr, .int .i64 fd]] w (TrM mp B M F (qs.length + n) sb g w) := by
 by_cases t0 : t = 0
 ·subst t0; exact trimmed_zero mp B sb L fr fd M F n g cap qs w h h16 hB
 ·exact trimmed_some mp B sb t L fr fd M F n g cap qs w h t0 hM hB hl
end Go.Proofs.YtemhcpldflcfbaaGreatDoor
