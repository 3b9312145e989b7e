/-
  What the last text of this claim leans on, part 49: LawHj3, LawHj, OpenP.
-/
import Derived.Test.YtemhcpldflcfbaaGreatDoorZj39
import Derived.Test.YtemhcpldflcfbaaGreatDoorZj46
import Derived.Test.YtemhcpldflcfbaaGreatDoorZj48
import Derived.Test.YtemhcpldflcfbaaGreatDoorZj40
import Derived.Test.YtemhcpldflcfbaaGreatDoorZj9
import Derived.Test.YtemhcpldflcfbaaGreatDoorRows
import Derived.Test.YtemhcpldflcfbaaGreatDoorCards
import Derived.Test.YtemhcpldflcfbaaGreatDoorTie
import Derived.Test.YtemhcpldflcfbaaGreatDoorZj35
import Derived.ProofKit
import Derived.OpenShut
import Derived.ChangeSame
import Derived.ChangeSlices
import Derived.ChangeVars
import Derived.JoinedOf
import Derived.RowKit
import Derived.RowKitTokens
import Derived.LaidLaws
import Derived.LaidHandle
import Derived.LaidSub
import Derived.Lay
import Derived.Carry
import Derived.Stop.Joined
import Derived.SevenTiedAt
namespace Go.Proofs.YtemhcpldflcfbaaGreatDoor
open Go.RowKit
set_option linter.unusedVariables false
set_option maxRecDepth 100000 in
set_option maxHeartbeats 12800000 in
theorem law_hj_main (o : Out) (ta : Option Addr) (tn tc : Nat) (W H : Nat) (xs : List Int) (a : Option Addr) (n c : Nat) (r d : Int) (kn : Nat) (x y : Int) (w : World) (hR : ArgR w o ta tn tc) (hP : ArgP w xs a n c) (hg : Handle w) (hz : TzTab w) (hy : YesNew o) (hsh : shapeF (W : Int) (H : Int) xs = 0) (hW : W ≤ 100) (hH : H ≤ 100) (hm : xs.length = W * H) (hb : ∀ i, 0 ≤ xs.getD i 0 ∧ xs.getD i 0 ≤ 1) (hr : -1000000000000 ≤ r ∧ r ≤ 1000000000000) (hd : -1000000000000 ≤ d ∧ d ≤ 1000000000000) (hk : kn ≤ 12) :
  Calls Tryz.prog 3 #[.agg #[.int .i64 o.kind, .int .i64 o.born, .int .i64 o.stay, .int .i64 o.states, .int .i64 o.radius, .slice ta tn tc, .string o.turns], .agg #[.int .i64 (W : Int), .int .i64 (H : Int), .slice a n c], .int .i64 r, .int .i64 d, .int .i64 (kn : Int), .int .i64 x, .int .i64 y] w fun e w' => e = .returned (.bool true) ∧ Below w.heap.size w w' := by
 have L0 := LhS.start (W := (W : Int)) (H := (H : Int)) hR hP hg hz
 obtain ⟨w1, hw1⟩ : ∃ w1, (w.alloc (.cells #[.int .i64 o.kind, .int .i64 o.born, .int .i64 o.stay, .int .i64 o.states, .int .i64 o.radius, .slice ta tn tc, .string o.turns] 24)).alloc (.cells #[.int .i64 (W : Int), .int .i64 (H : Int), .slice a n c] 26) = w1 := ⟨_, rfl⟩
 rw [hw1] at L0
 have L1 := hide' L0
 have HW1 := hide' hw1
 have HY := hide' hy
 have HF := hide' (And.intro hsh (And.intro hW (And.intro hH (And.intro hm hb))))
 have RD := hide' (And.intro hr hd)
 clear hw1 hR hP hg hz hy L0 hsh hW hH hm hb hr hd
 go_enter Tryz.func3, Tryz.ntmps3
 go_upto_region 1 with fail
 rw [HW1.out]
 have R0 := L1.out.2.2.2.2.1
 have x0 := cell_of_row w1 _ 0 _ _ _ R0
 have x1 := cell_of_row w1 _ 1 _ _ _ R0
 have x2 := cell_of_row w1 _ 2 _ _ _ R0
 have x3 := cell_of_row w1 _ 3 _ _ _ R0
 have x4 := cell_of_row w1 _ 4 _ _ _ R0
 have x5 := cell_of_row w1 _ 5 _ _ _ R0
 have x6 := cell_of_row w1 _ 6 _ _ _ R0
 simp at x0 x1 x2 x3 x4 x5 x6
 clear R0
 go_wp2_with fail
 refine (new_yes o ta tn tc w1 L1.out.1 HY.out).mono ?_
 rintro e w2 ⟨spb, b0, s0, hbs, rfl, sp, b⟩
 have L2 := hide' (L1.out.next b)
 have S2 := hide' sp
 have BS := hide' hbs
 have B2 := hide' b
 clear x0 x1 x2 x3 x4 x5 x6 b sp hbs
 have R0 := L2.out.2.2.2.2.1
 have x0 := cell_of_row w2 _ 0 _ _ _ R0
 have x1 := cell_of_row w2 _ 1 _ _ _ R0
 have x2 := cell_of_row w2 _ 2 _ _ _ R0
 have x3 := cell_of_row w2 _ 3 _ _ _ R0
 have x4 := cell_of_row w2 _ 4 _ _ _ R0
 have x5 := cell_of_row w2 _ 5 _ _ _ R0
 have x6 := cell_of_row w2 _ 6 _ _ _ R0
 simp at x0 x1 x2 x3 x4 x5 x6
 clear R0
 go_wp2_with fail
 refine (Fault_any o ta tn tc w2 L2.out.1).mono ?_
 rintro e w3 ⟨⟨rfl, g⟩ | ⟨rfl, g⟩, b⟩
 rotate_left
 ·exact absurd HY.out.1 g
 have L3 := hide' (L2.out.next b)
 have S3 := hide' (S2.out.below b)
 have B3 := hide' (B2.out.trans (b.mono B2.out.size))
 clear x0 x1 x2 x3 x4 x5 x6 b g
 have R0 := L3.out.2.2.2.2.1
 have x0 := cell_of_row w3 _ 0 _ _ _ R0
 have x1 := cell_of_row w3 _ 1 _ _ _ R0
 simp at x0 x1
 clear R0
 rw [HY.out.2.1] at x0
 rw [BS.out.1] at x1
 have md : (b0 : Int) % 2 = 0 := by have := BS.out.2.2.2.2; omega
 go_wp2_with fail
 refine (err_nil_true w3).mono ?_
 rintro e w4 ⟨rfl, b⟩
 have L4 := hide' (L3.out.next b)
 have S4 := hide' (S3.out.below b)
 have B4 := hide' (B3.out.trans (b.mono B3.out.size))
 clear b x0 x1 md
 have R0 := L4.out.2.2.2.2.2.1
 have p0 := cell_of_row w4 _ 0 _ _ _ R0
 have p1 := cell_of_row w4 _ 1 _ _ _ R0
 have p2 := cell_of_row w4 _ 2 _ _ _ R0
 simp at p0 p1 p2
 clear R0
 go_wp2_with fail
 refine (Shape_P (W : Int) (H : Int) xs a n c w4 L4.out.2.1).mono ?_
 rintro e w5 ⟨rfl, b⟩
 have L5 := hide' (L4.out.next b)
 have S5 := hide' (S4.out.below b)
 have B5 := hide' (B4.out.trans (b.mono B4.out.size))
 clear b p0 p1 p2
 have R0 := L5.out.2.2.2.2.2.1
 have p0 := cell_of_row w5 _ 0 _ _ _ R0
 have p1 := cell_of_row w5 _ 1 _ _ _ R0
 have p2 := cell_of_row w5 _ 2 _ _ _ R0
 simp at p0 p1 p2
 clear R0
 rw [HF.out.1]
 have r1 : ¬ r < -1000000000000 := by have := RD.out; omega
 have r2 : ¬ 1000000000000 < r := by have := RD.out; omega
 have r3 : ¬ d < -1000000000000 := by have := RD.out; omega
 have r4 : ¬ 1000000000000 < d := by have := RD.out; omega
 have PN := hide' (put_new spb w1.heap.size _ _ _ _ _ _ w5 S5.out W H xs a n c HF.out.1 HF.out.2.1 HF.out.2.2.1 HF.out.2.2.2.1 HF.out.2.2.2.2 (fun V hV => (L1.out.next (B5.out.trans hV)).2.1) r d RD.out.1 RD.out.2 (by omega) (by omega))
 go_wp2_with fail
 refine PN.out.mono ?_
 rintro e w6 ⟨rfl, sp, b⟩
 have S6 := hide' sp
 have B6 := hide' (B5.out.trans b)
 have L6 := hide' (L1.out.next B6.out)
 clear r1 r2 r3 r4 p0 p1 p2 b sp
 go_wp2_with fail
 refine (err_nil_true w6).mono ?_
 rintro e w7 ⟨rfl, b⟩
 have L7 := hide' (L6.out.next b)
 have S7 := hide' (S6.out.below b)
 have B7 := hide' (B6.out.trans (b.mono B6.out.size))
 clear b
 have hk2 : ¬ 12 < (kn : Int) := by omega
 have hk3 : ¬ (kn : Int) < 0 := by omega
 have JC := hide' (jump_any spb w1.heap.size b0 s0 _ _ _ _ kn r (r + W) d (d + H) w7 S7.out BS.out.2.2.2.2 BS.out.2.2.1 BS.out.2.2.2.1 (by omega) hk (fun u v h => pt_out h) (by omega) (by have := HF.out.2.1; have := HF.out.2.2.1; omega) (by omega))
 have T0 := hide' (show b0.testBit 0 = false by rw [Nat.testBit_eq_decide_div_mod_eq]; simpa using BS.out.2.2.2.2)
 have FB := hide' (show Bxd (firstG ⟨W, H, xs⟩) from box_bxd (q := ⟨W, H, xs⟩) HF.out.2.2.2.2 0 0)
 have FO := hide' (first_ok (p := ⟨W, H, xs⟩) HF.out.2.2.2.2 HF.out.2.1 HF.out.2.2.1)
 have K12 := hide' (show 2 ^ kn ≤ 4096 from Nat.le_trans (Nat.pow_le_pow_right (by omega) hk) (by decide))
 have GS := hide' (jp_small (stay := s0) T0.out BS.out.2.2.2.2 FB.out FO.out.2.1 FO.out.2.2.1 FO.out.2.2.2 K12.out)
 have JM := hide' (jp_moved (stay := s0) T0.out BS.out.2.2.2.2 (W := W) (H := H) HF.out.2.2.2.2 r d (2 ^ kn))
 have JB := hide' (jp_pl (stay := s0) T0.out BS.out.2.2.2.2 FB.out (2 ^ kn)).2
 have RJ := hide' (fun V (hV : LhS o ta tn tc (W : Int) (H : Int) xs a n c w V) => refJump_any o.kind o.states o.radius b0 s0 ta tn tc o.turns W H xs a n c kn V BS.out.2.2.1 BS.out.2.2.2.1 hV.2.1 (by rw [hV.2.1.len]; exact HF.out.2.2.2.1) HF.out.2.2.2.2 HF.out.2.1 HF.out.2.2.1 BS.out.2.2.2.2 hk)
 obtain ⟨G, hG⟩ : ∃ G, jpG b0 s0 (firstG ⟨W, H, xs⟩) (2 ^ kn) = G := ⟨_, rfl⟩
 rw [hG] at GS JM JB RJ
 rw [JM.out] at JC
 have GK := hide' (bxd_ok JB.out)
 clear hG hk
 obtain ⟨R1, hR1⟩ : ∃ z, G.r + r = z := ⟨_, rfl⟩
 obtain ⟨D1, hD1⟩ : ∃ z, G.d + d = z := ⟨_, rfl⟩
 rw [hR1, hD1] at JC
 have HRD := hide' (And.intro hR1 hD1)
 have RB1 := hide' (show (-1000002000000 ≤ R1 ∧ R1 ≤ 1000002000000) ∧ (-1000002000000 ≤ D1 ∧ D1 ≤ 1000002000000) by have := RD.out; have := GS.out; omega)
 obtain ⟨F, hFF⟩ : ∃ F, plG ⟨G.P, R1, D1⟩ = F := ⟨_, rfl⟩
 rw [hFF] at JC
 have HFF := hide' hFF
 clear hR1 hD1 hFF
 go_wp2_with fail
 refine JC.out.mono ?_
 rintro e w8 ⟨rfl, ⟨o8, tv8, sp⟩, b⟩
 have S8 := hide' sp
 have B8 := hide' (B7.out.trans b)
 have L8 := hide' (L1.out.next B8.out)
 clear b sp
 have R0 := L8.out.2.2.2.2.1
 have x0 := cell_of_row w8 _ 0 _ _ _ R0
 have x1 := cell_of_row w8 _ 1 _ _ _ R0
 have x2 := cell_of_row w8 _ 2 _ _ _ R0
 have x3 := cell_of_row w8 _ 3 _ _ _ R0
 have x4 := cell_of_row w8 _ 4 _ _ _ R0
 have x5 := cell_of_row w8 _ 5 _ _ _ R0
 have x6 := cell_of_row w8 _ 6 _ _ _ R0
 simp at x0 x1 x2 x3 x4 x5 x6
 clear R0
 have R0 := L8.out.2.2.2.2.2.1
 have p0 := cell_of_row w8 _ 0 _ _ _ R0
 have p1 := cell_of_row w8 _ 1 _ _ _ R0
 have p2 := cell_of_row w8 _ 2 _ _ _ R0
 simp at p0 p1 p2
 clear R0
 rw [BS.out.1] at x1
 rw [BS.out.2.1] at x2
 go_wp2_with fail
 clear x0 x1 x2 x3 x4 x5 x6 p0 p1 p2 hk2 hk3
 refine (RJ.out w8 L8.out).mono ?_
 rintro e w9 ⟨v9, rfl, t9, f9, b9⟩
 have GL := hide' (show G.P.xs.length ≤ 70560000 by
  rw [GK.out.len]
  exact Nat.le_trans (Nat.mul_le_mul GS.out.1 GS.out.2.1) (by decide))
 obtain ⟨ga, gc, rfl, A9⟩ := tab_arg t9 (by have := GL.out; unfold maxLen; omega)
 have L9 := hide' (L8.out.next b9)
 have S9 := hide' (S8.out.below b9)
 have B9 := hide' (B8.out.trans (b9.mono B8.out.size))
 have G9 := hide' A9
 clear t9 f9 b9 A9
 obtain ⟨gl, hgl⟩ : ∃ l, G.P.xs.length = l := ⟨_, rfl⟩
 have HGL := hide' hgl
 rw [hgl] at G9 GL ⊢
 clear hgl
 have GX := hide' (show gl = G.P.W * G.P.H ∧ G.P.W ≤ 8292 ∧ G.P.H ≤ 8292 from ⟨by rw [← HGL.out]; exact GK.out.len, GS.out.1, GS.out.2.1⟩)
 obtain ⟨gb, hgb⟩ : ∃ z, w9.heap.size = z := ⟨_, rfl⟩
 obtain ⟨w10, hw10⟩ : ∃ z, w9.alloc (.cells #[.int .i64 (G.P.W : Int), .int .i64 (G.P.H : Int), .slice ga gl gc, .int .i64 G.r, .int .i64 G.d] 39) = z := ⟨_, rfl⟩
 have A10 := hide' (show Below w9.heap.size w9 w10 by rw [← hw10]; exact (Below.refl _ _).alloc (Nat.le_refl _) _)
 have X10 := hide' (show w10.heap[gb]? = some (.cells #[.int .i64 (G.P.W : Int), .int .i64 (G.P.H : Int), .slice ga gl gc, .int .i64 G.r, .int .i64 G.d] 39 (0, 0)) by rw [← hw10]; exact heap_atX _ _ _ hgb.symm)
 have G10 := hide' (G9.out.below A10.out)
 have HW10 := hide' (And.intro hw10 hgb)
 clear hw10 hgb
 unfold gV
 go_upto_region 26 with fail
 rw [HW10.out.1]
 try rw [HW10.out.2]
 have q2 := cell_of_row w10 _ 2 _ _ _ X10.out
 simp at q2
 go_wp2
 go_loop [22, 23] (fun nv iv => ∃ i : Nat, iv = .int .i64 (i : Int) ∧ nv = .int .i64 (smC G.P.xs i) ∧ i ≤ gl) (fun _ iv => gl - (intOf iv).toNat)
 case atStart => exact ⟨0, rfl, rfl, by omega⟩
 case round =>
  obtain ⟨i, rfl, rfl, hi⟩ := hrel
  have gl2 := GL.out
  have NX := hide' (smC_next G.P.xs i)
  have LE := smC_le GK.out.bits i
  have BT := GK.out.bits i
  by_cases di : (i : Int) < (gl : Int)
  ·have il : i < gl := by omega
   have il2 : i < G.P.xs.length := by rw [HGL.out]; exact il
   obtain ⟨g, off, rfl, hg, hc⟩ := G10.out.cells i il2
   obtain ⟨z, hz⟩ : ∃ z, G.P.xs[i] = z := ⟨_, rfl⟩
   have hz2 : G.P.xs.getD i 0 = z := by rw [← hz]; simp [List.getD, il2]
   rw [hz2] at NX BT
   rw [hz] at hc
   obtain ⟨q, hq⟩ : ∃ q, smC G.P.xs i = q := ⟨_, rfl⟩
   have HQ := hide' hq
   rw [hq] at NX LE ⊢
   clear hz hz2 hq il2 hg
   go_wp2
   exact ⟨⟨i + 1, by go_num, by rw [NX.out], by omega⟩, by simp [intOf]; omega⟩
  ·have hig : gl = i := by omega
   subst hig
   as_aux_lemma =>
    obtain ⟨SM, hSM⟩ : ∃ q, smC G.P.xs gl = q := ⟨_, rfl⟩
    rw [hSM]
    have HSM := hide' hSM
    clear hSM NX LE BT
    have q3 := cell_of_row w10 _ 3 _ _ _ X10.out
    have q4 := cell_of_row w10 _ 4 _ _ _ X10.out
    have y3 := frozen_of_row w10 _ 3 _ _ X10.out
    have y4 := frozen_of_row w10 _ 4 _ _ X10.out
    simp at q3 q4
    have hR1 := HRD.out.1
    have hD1 := HRD.out.2
    have v1 : IntKind.i64.wrap R1 = R1 := by have := RB1.out; simp [IntKind.wrap, IntKind.bits, IntKind.signed]; omega
    have v2 : IntKind.i64.wrap D1 = D1 := by have := RB1.out; simp [IntKind.wrap, IntKind.bits, IntKind.signed]; omega
    obtain ⟨w11, hw11⟩ : ∃ z, (w10.setCell ⟨gb, 3, none⟩ (.int .i64 R1)).setCell ⟨gb, 4, none⟩ (.int .i64 D1) = z := ⟨_, rfl⟩
    have A11 := hide' (show Below w9.heap.size w9 w11 by
     have := HW10.out.2
     rw [← hw11]
     exact (A10.out.setCell (by show w9.heap.size ≤ gb; omega) _).setCell (by show w9.heap.size ≤ gb; omega) _)
    have X11 := hide' (show w11.heap[gb]? = some (.cells #[.int .i64 (G.P.W : Int), .int .i64 (G.P.H : Int), .slice ga gl gc, .int .i64 R1, .int .i64 D1] 39 (0, 0)) by
     rw [← hw11]
     have h0 := heap_setCell_same _ _ 3 _ _ (.int .i64 R1) X10.out
     rw [heap_setCell_same _ _ 4 _ _ (.int .i64 D1) h0]; rfl)
    have HW11 := hide' hw11
    have L11 := hide' (L9.out.next A11.out)
    have S11 := hide' (S9.out.below A11.out)
    have G11 := hide' (G9.out.below A11.out)
    have B11 := hide' (B9.out.trans (A11.out.mono B9.out.size))
    clear hw11
    go_upto_region 33 with fail
    rw [HW11.out]
    clear q2 q3 q4 y3 y4 v1 v2 hR1 hD1
    have BC := hide' (sbox_any spb w1.heap.size _ _ _ _ _ _ _ w11 S11.out (by omega) (by omega) L11.out.2.2.2.1)
    go_wp2_with fail
    refine BC.out.mono ?_
    rintro e w12 ⟨bx, by', bw, bh, rfl, hb1, hb2, b⟩
    have HB1 := hide' hb1
    have HB2 := hide' hb2
    have L12 := hide' (L11.out.next b)
    have S12 := hide' (S11.out.below b)
    have G12 := hide' (G11.out.below b)
    have X12 := hide' ((b.block _ (lt_of_block X11.out)).trans X11.out)
    have B12 := hide' (B11.out.trans (b.mono B11.out.size))
    have A12 := hide' (A11.out.trans (b.mono A11.out.size))
    clear b hb1 hb2
    have LC := hide' (livingS_any spb w1.heap.size _ _ _ _ _ _ _ R1 (R1 + G.P.W) D1 (D1 + G.P.H) w12 S12.out (by rw [← HFF.out]; exact fun u v h => pt_out h) (by have := GX.out; omega) (by have := GX.out; omega))
    go_wp2_with fail
    refine LC.out.mono ?_
    rintro e w13 ⟨qs, n8, t8, fr, fd, ⟨-, -, hv⟩, rfl, rfl⟩
    have z : ((lvC qs n8 t8 : Nat) : Int) = SM := by
     rw [← HSM.out, ← HGL.out]
     exact lvC_state (s := ⟨G.P, R1, D1⟩) ⟨GK.out.len, GK.out.bits⟩ (fun u v => by rw [hv, HFF.out])
    rw [z]
    clear z hv qs n8 t8 fr fd
    have L13 := hide' (L12.out.next (Below.refl _ _).drew)
    have S13 := hide' (S12.out.below (Below.refl _ _).drew)
    have G13 := hide' (G12.out.below (Below.refl _ _).drew)
    have X13 := hide' (show w12.drew.heap[gb]? = _ from X12.out)
    have B13 := hide' (B12.out.drew)
    have A13 := hide' (A12.out.drew)
    obtain ⟨w14, hw14⟩ : ∃ z, w12.drew = z := ⟨_, rfl⟩
    rw [hw14] at L13 S13 G13 X13 B13 A13 ⊢
    clear hw14
    have z0 := cell_of_row w14 _ 0 _ _ _ X13.out
    have z1 := cell_of_row w14 _ 1 _ _ _ X13.out
    simp at z0 z1
    by_cases gw : G.P.W = 0
    ·as_aux_lemma =>
      have GN := hide' (noG_of JB.out gw)
      have k1 : ((G.P.W : Int) == 0) = true := by simp [gw]
      have y3 := frozen_of_row w14 _ 3 _ _ X13.out
      have y4 := frozen_of_row w14 _ 4 _ _ X13.out
      have z3 := cell_of_row w14 _ 3 _ _ _ X13.out
      have z4 := cell_of_row w14 _ 4 _ _ _ X13.out
      simp at z3 z4
      have FZ := hide' (show ∀ u v, F u v = 0 from fun u v => by rw [← HFF.out]; exact pt_out (by show ¬ (R1 ≤ u ∧ u < R1 + G.P.W ∧ _); omega))
      obtain ⟨e1, e2, e3, e4⟩ := HB2.out FZ.out
      subst e1
      subst e2
      subst e3
      subst e4
      have GH := hide' (show G.P.H = 0 by rw [GN.out]; rfl)
      obtain ⟨w15, hw15⟩ : ∃ z, (w14.setCell ⟨gb, 3, none⟩ (.int .i64 0)).setCell ⟨gb, 4, none⟩ (.int .i64 0) = z := ⟨_, rfl⟩
      have gbb : w9.heap.size ≤ gb := by have := HW10.out.2; omega
      have A15 := hide' (show Below w9.heap.size w9 w15 by
       rw [← hw15]
       exact (A13.out.setCell (show w9.heap.size ≤ gb from gbb) _).setCell (show w9.heap.size ≤ gb from gbb) _)
      have XB := hide' (show w15.heap[gb]? = some (.cells #[.int .i64 (G.P.W : Int), .int .i64 (G.P.H : Int), .slice ga gl gc, .int .i64 0, .int .i64 0] 39 (0, 0)) by
       rw [← hw15]
       have h0 := heap_setCell_same _ _ 3 _ _ (.int .i64 0) X13.out
       rw [heap_setCell_same _ _ 4 _ _ (.int .i64 0) h0]; rfl)
      have LT := hide' (L9.out.next A15.out)
      have ST := hide' (S9.out.below A15.out)
      have GT := hide' (G9.out.below A15.out)
      have BT := hide' (B9.out.trans (A15.out.mono B9.out.size))
      have HFE := hide' (show plG ⟨G.P, 0, 0⟩ = F by
       funext u v
       rw [FZ.out]
       exact pt_out (by show ¬ ((0 : Int) ≤ u ∧ u < 0 + (G.P.W : Int) ∧ _); omega))
      have HW15 := hide' hw15
      have S9' := S13
      clear hw15 gbb
      go_upto_region 38 with fail
      rw [HW15.out]
      clear z0 z1 z3 z4 y3 y4 k1
      have q0 := cell_of_row w15 _ 0 _ _ _ XB.out
      have q1 := cell_of_row w15 _ 1 _ _ _ XB.out
      have q3 := cell_of_row w15 _ 3 _ _ _ XB.out
      have q4 := cell_of_row w15 _ 4 _ _ _ XB.out
      simp at q0 q1 q3 q4
      rw [show (G.P.W : Int) = 0 by omega] at q0
      rw [show (G.P.H : Int) = 0 by have := GH.out; omega] at q1
      go_upto_region 40 with fail
      clear q0 q1 q3 q4
      clear gw
      have TZ := hide' (fun V (hV : Below w1.heap.size w15 V) => (L1.out.2.2.2.1.below (BT.out.trans hV) : TzTab V))
      by_cases rng : (0 ≤ x ∧ x ≤ 100) ∧ (0 ≤ y ∧ y ≤ 100) ∧ ¬ ((0 : Int) < -1000000000000 ∨ 1000000000000 < (0 : Int)) ∧ ¬ ((0 : Int) < -1000000000000 ∨ 1000000000000 < (0 : Int))
      ·as_aux_lemma =>
        obtain ⟨cw, hcw⟩ : ∃ cw : Nat, x = (cw : Int) := ⟨x.toNat, by omega⟩
        obtain ⟨ch, hch⟩ : ∃ ch : Nat, y = (ch : Int) := ⟨y.toNat, by omega⟩
        subst hcw
        subst hch
        have c1 : cw ≤ 100 := by omega
        have c2 : ch ≤ 100 := by omega
        have b3 : (-1000000000000 : Int) ≤ (0 : Int) ∧ (0 : Int) ≤ 1000000000000 := by omega
        have b4 : (-1000000000000 : Int) ≤ (0 : Int) ∧ (0 : Int) ≤ 1000000000000 := by omega
        have CW := hide' (cellsW_any spb w1.heap.size _ _ _ _ _ _ _ cw ch w15 ST.out c1 c2 (0 : Int) (0 : Int) b3 b4 (by omega) (fun V hV => TZ.out V hV))
        clear b3 b4
        clear rng
        go_wp2_with fail
        refine CW.out.mono ?_
        rintro e w20 ⟨cb, gf, rfl, wn20, -, b⟩
        have L20 := hide' (LT.out.next b)
        have S20 := hide' (ST.out.below b)
        have X20 := hide' ((b.block _ (lt_of_block XB.out)).trans XB.out)
        have G20 := hide' (GT.out.below b)
        have B20 := hide' (BT.out.trans (b.mono BT.out.size))
        clear b wn20
        have q0 := cell_of_row w20 _ 0 _ _ _ X20.out
        have q1 := cell_of_row w20 _ 1 _ _ _ X20.out
        have q2 := cell_of_row w20 _ 2 _ _ _ X20.out
        have q3 := cell_of_row w20 _ 3 _ _ _ X20.out
        have q4 := cell_of_row w20 _ 4 _ _ _ X20.out
        simp at q0 q1 q2 q3 q4
        have b1 : G.P.W ≤ 8400 := by have := GX.out.2.1; omega
        have b2 : G.P.H ≤ 8400 := by have := GX.out.2.2; omega
        have b3 : (-1000000000000 : Int) ≤ (0 : Int) ∧ (0 : Int) ≤ 1000000000000 := by omega
        have b4 : (-1000000000000 : Int) ≤ (0 : Int) ∧ (0 : Int) ≤ 1000000000000 := by omega
        have b5 : (-1000100000000 : Int) ≤ (0 : Int) ∧ (0 : Int) ≤ 1000100000000 := by omega
        have b6 : (-1000100000000 : Int) ≤ (0 : Int) ∧ (0 : Int) ≤ 1000100000000 := by omega
        have b7 : ∀ V, Below w1.heap.size w20 V → TzTab V := fun V hV => L1.out.2.2.2.1.below (B20.out.trans hV)
        have WA := hide' (window_pat spb w1.heap.size _ _ _ _ _ _ _ G.P (0 : Int) (0 : Int) ga gl gc (0 : Int) (0 : Int) cw ch w20 S20.out (by omega) b7 G20.out GX.out.1 b1 b2 HFE.out c1 c2 b3 b4 b5 b6)
        clear b1 b2 b3 b4 b5 b6 b7
        go_wp2_with fail
        refine WA.out.mono ?_
        rintro e w21 ⟨rfl, b⟩
        have FIN := hide' (L20.out.2.2.2.2.2.2.trans (b.mono L20.out.2.2.2.2.2.2.size))
        clear b q0 q1 q2 q3 q4
        go_wp2
        go_ret
        exact ⟨rfl, FIN.out⟩
      ·as_aux_lemma =>
        have CN := hide' (cells_no spb (0 : Int) (0 : Int) x y w15 rng)
        have RNG := hide' rng
        clear rng
        go_wp2_with fail
        refine CN.out.mono ?_
        rintro e w20 ⟨⟨v20, rfl⟩, b⟩
        have L20 := hide' (LT.out.next b)
        clear b
        by_cases h1 : x < 0
        ·as_aux_lemma =>
          go_wp2_with fail
          refine (err_one w20 L20.out.2.2.1).mono ?_
          rintro e w21 ⟨rfl, b⟩
          have FIN := hide' (L20.out.next b).2.2.2.2.2.2
          clear b
          go_wp2
          go_ret
          exact ⟨rfl, FIN.out⟩
        ·skip
         by_cases h2 : 100 < x
         ·as_aux_lemma =>
           go_wp2_with fail
           refine (err_one w20 L20.out.2.2.1).mono ?_
           rintro e w21 ⟨rfl, b⟩
           have FIN := hide' (L20.out.next b).2.2.2.2.2.2
           clear b
           go_wp2
           go_ret
           exact ⟨rfl, FIN.out⟩
         ·skip
          by_cases h3 : y < 0
          ·as_aux_lemma =>
            go_wp2_with fail
            refine (err_one w20 L20.out.2.2.1).mono ?_
            rintro e w21 ⟨rfl, b⟩
            have FIN := hide' (L20.out.next b).2.2.2.2.2.2
            clear b
            go_wp2
            go_ret
            exact ⟨rfl, FIN.out⟩
          ·skip
           by_cases h4 : 100 < y
           ·as_aux_lemma =>
             go_wp2_with fail
             refine (err_one w20 L20.out.2.2.1).mono ?_
             rintro e w21 ⟨rfl, b⟩
             have FIN := hide' (L20.out.next b).2.2.2.2.2.2
             clear b
             go_wp2
             go_ret
             exact ⟨rfl, FIN.out⟩
           ·exact absurd (by omega) RNG.out
    ·as_aux_lemma =>
      have k1 : ((G.P.W : Int) == 0) = false := by simp [gw]
      have z3 := cell_of_row w14 _ 3 _ _ _ X13.out
      have z4 := cell_of_row w14 _ 4 _ _ _ X13.out
      simp at z3 z4
      have GB := hide' (show BxF F R1 D1 (R1 + G.P.W) (D1 + G.P.H) by
       rw [← HFF.out]
       have bd : Bxd ⟨G.P, R1, D1⟩ := by
        rcases JB.out with e | ⟨hB, ok⟩
        ·exact absurd (by rw [e]; rfl) gw
        ·exact Or.inr ⟨hB, ok.len, ok.bits⟩
       exact bxd_box bd gw)
      have BB := HB1.out (by obtain ⟨q, h⟩ := GB.out.hl; exact ⟨_, _, h⟩)
      obtain ⟨e1, e2, e3, e4⟩ := BB.only GB.out
      have e1 := e1.symm
      have e2 := e2.symm
      have e3' : (G.P.W : Int) = bw := by omega
      have e4' : (G.P.H : Int) = bh := by omega
      clear BB e3 e4
      subst e1
      subst e2
      subst e3'
      subst e4'
      have LT := L13
      have ST := S13
      have GT := G13
      have BT := B13
      have XB := X13
      have HFE := HFF
      have RB := RB1.out
      go_upto_region 40 with fail
      clear z0 z1 z3 z4 k1 gw
      have TZ := hide' (fun V (hV : Below w1.heap.size w14 V) => (L1.out.2.2.2.1.below (BT.out.trans hV) : TzTab V))
      by_cases rng : (0 ≤ x ∧ x ≤ 100) ∧ (0 ≤ y ∧ y ≤ 100) ∧ ¬ (R1 < -1000000000000 ∨ 1000000000000 < R1) ∧ ¬ (D1 < -1000000000000 ∨ 1000000000000 < D1)
      ·as_aux_lemma =>
        obtain ⟨cw, hcw⟩ : ∃ cw : Nat, x = (cw : Int) := ⟨x.toNat, by omega⟩
        obtain ⟨ch, hch⟩ : ∃ ch : Nat, y = (ch : Int) := ⟨y.toNat, by omega⟩
        subst hcw
        subst hch
        have c1 : cw ≤ 100 := by omega
        have c2 : ch ≤ 100 := by omega
        have g1 : ¬ R1 < -1000000000000 := by omega
        have g2 : ¬ 1000000000000 < R1 := by omega
        have g3 : ¬ D1 < -1000000000000 := by omega
        have g4 : ¬ 1000000000000 < D1 := by omega
        have b3 : (-1000000000000 : Int) ≤ R1 ∧ R1 ≤ 1000000000000 := by omega
        have b4 : (-1000000000000 : Int) ≤ D1 ∧ D1 ≤ 1000000000000 := by omega
        have CW := hide' (cellsW_any spb w1.heap.size _ _ _ _ _ _ _ cw ch w14 ST.out c1 c2 R1 D1 b3 b4 (by omega) (fun V hV => TZ.out V hV))
        clear b3 b4
        clear rng
        go_wp2_with fail
        refine CW.out.mono ?_
        rintro e w20 ⟨cb, gf, rfl, wn20, -, b⟩
        have L20 := hide' (LT.out.next b)
        have S20 := hide' (ST.out.below b)
        have X20 := hide' ((b.block _ (lt_of_block XB.out)).trans XB.out)
        have G20 := hide' (GT.out.below b)
        have B20 := hide' (BT.out.trans (b.mono BT.out.size))
        clear b wn20
        have q0 := cell_of_row w20 _ 0 _ _ _ X20.out
        have q1 := cell_of_row w20 _ 1 _ _ _ X20.out
        have q2 := cell_of_row w20 _ 2 _ _ _ X20.out
        have q3 := cell_of_row w20 _ 3 _ _ _ X20.out
        have q4 := cell_of_row w20 _ 4 _ _ _ X20.out
        simp at q0 q1 q2 q3 q4
        have b1 : G.P.W ≤ 8400 := by have := GX.out.2.1; omega
        have b2 : G.P.H ≤ 8400 := by have := GX.out.2.2; omega
        have b3 : (-1000000000000 : Int) ≤ R1 ∧ R1 ≤ 1000000000000 := by omega
        have b4 : (-1000000000000 : Int) ≤ D1 ∧ D1 ≤ 1000000000000 := by omega
        have b5 : (-1000100000000 : Int) ≤ R1 ∧ R1 ≤ 1000100000000 := by omega
        have b6 : (-1000100000000 : Int) ≤ D1 ∧ D1 ≤ 1000100000000 := by omega
        have b7 : ∀ V, Below w1.heap.size w20 V → TzTab V := fun V hV => L1.out.2.2.2.1.below (B20.out.trans hV)
        have WA := hide' (window_pat spb w1.heap.size _ _ _ _ _ _ _ G.P R1 D1 ga gl gc R1 D1 cw ch w20 S20.out (by omega) b7 G20.out GX.out.1 b1 b2 HFE.out c1 c2 b3 b4 b5 b6)
        clear b1 b2 b3 b4 b5 b6 b7
        go_wp2_with fail
        refine WA.out.mono ?_
        rintro e w21 ⟨rfl, b⟩
        have FIN := hide' (L20.out.2.2.2.2.2.2.trans (b.mono L20.out.2.2.2.2.2.2.size))
        clear b q0 q1 q2 q3 q4
        go_wp2
        go_ret
        exact ⟨rfl, FIN.out⟩
      ·as_aux_lemma =>
        have CN := hide' (cells_no spb R1 D1 x y w14 rng)
        have RNG := hide' rng
        clear rng
        go_wp2_with fail
        refine CN.out.mono ?_
        rintro e w20 ⟨⟨v20, rfl⟩, b⟩
        have L20 := hide' (LT.out.next b)
        clear b
        by_cases h1 : x < 0
        ·as_aux_lemma =>
          go_wp2_with fail
          refine (err_one w20 L20.out.2.2.1).mono ?_
          rintro e w21 ⟨rfl, b⟩
          have FIN := hide' (L20.out.next b).2.2.2.2.2.2
          clear b
          go_wp2
          go_ret
          exact ⟨rfl, FIN.out⟩
        ·skip
         by_cases h2 : 100 < x
         ·as_aux_lemma =>
           go_wp2_with fail
           refine (err_one w20 L20.out.2.2.1).mono ?_
           rintro e w21 ⟨rfl, b⟩
           have FIN := hide' (L20.out.next b).2.2.2.2.2.2
           clear b
           go_wp2
           go_ret
           exact ⟨rfl, FIN.out⟩
         ·skip
          by_cases h3 : y < 0
          ·as_aux_lemma =>
            go_wp2_with fail
            refine (err_one w20 L20.out.2.2.1).mono ?_
            rintro e w21 ⟨rfl, b⟩
            have FIN := hide' (L20.out.next b).2.2.2.2.2.2
            clear b
            go_wp2
            go_ret
            exact ⟨rfl, FIN.out⟩
          ·skip
           by_cases h4 : 100 < y
           ·as_aux_lemma =>
             go_wp2_with fail
             refine (err_one w20 L20.out.2.2.1).mono ?_
             rintro e w21 ⟨rfl, b⟩
             have FIN := hide' (L20.out.next b).2.2.2.2.2.2
             clear b
             go_wp2
             go_ret
             exact ⟨rfl, FIN.out⟩
           ·skip
            by_cases h5 : R1 < -1000000000000
            ·as_aux_lemma =>
              go_wp2_with fail
              refine (err_one w20 L20.out.2.2.1).mono ?_
              rintro e w21 ⟨rfl, b⟩
              have FIN := hide' (L20.out.next b).2.2.2.2.2.2
              clear b
              go_wp2
              go_ret
              exact ⟨rfl, FIN.out⟩
            ·skip
             by_cases h6 : 1000000000000 < R1
             ·as_aux_lemma =>
               go_wp2_with fail
               refine (err_one w20 L20.out.2.2.1).mono ?_
               rintro e w21 ⟨rfl, b⟩
               have FIN := hide' (L20.out.next b).2.2.2.2.2.2
               clear b
               go_wp2
               go_ret
               exact ⟨rfl, FIN.out⟩
             ·skip
              by_cases h7 : D1 < -1000000000000
              ·as_aux_lemma =>
                go_wp2_with fail
                refine (err_one w20 L20.out.2.2.1).mono ?_
                rintro e w21 ⟨rfl, b⟩
                have FIN := hide' (L20.out.next b).2.2.2.2.2.2
                clear b
                go_wp2
                go_ret
                exact ⟨rfl, FIN.out⟩
              ·skip
               by_cases h8 : 1000000000000 < D1
               ·as_aux_lemma =>
                 go_wp2_with fail
                 refine (err_one w20 L20.out.2.2.1).mono ?_
                 rintro e w21 ⟨rfl, b⟩
                 have FIN := hide' (L20.out.next b).2.2.2.2.2.2
                 clear b
                 go_wp2
                 go_ret
                 exact ⟨rfl, FIN.out⟩
               ·exact absurd (by omega) RNG.out
theorem law_jumps_all (o : Out) (ta : Option Addr) (tn tc : Nat) (W H : Int) (xs : List Int) (a : Option Addr) (n c : Nat) (r d k x y : Int) (w : World) (hR : ArgR w o ta tn tc) (hP : ArgP w xs a n c) (hg : Handle w) (hz : TzTab w) :
  Calls Tryz.prog 3 #[.agg #[.int .i64 o.kind, .int .i64 o.born, .int .i64 o.stay, .int .i64 o.states, .int .i64 o.radius, .slice ta tn tc, .string o.turns], .agg #[.int .i64 W, .int .i64 H, .slice a n c], .int .i64 r, .int .i64 d, .int .i64 k, .int .i64 x, .int .i64 y] w fun e w' => e = .returned (.bool true) ∧ Below w.heap.size w w' := by
 rcases new_cases o with hn | hy
 ·exact law_hj_no o ta tn tc W H xs a n c r d k x y w hR hP hg hz hn
 ·by_cases hs : shapeF W H xs = 0
  ·by_cases hf : (r < -1000000000000 ∨ 1000000000000 < r) ∨ (d < -1000000000000 ∨ 1000000000000 < d)
   ·exact law_hj_far o ta tn tc W H xs a n c r d k x y w hR hP hg hz hy hs hf
   ·obtain ⟨Wn, Hn, rfl, rfl, hW, hH, hm, hb⟩ := shape_sidesH hs
    by_cases h12 : 12 < k
    ·exact law_hj_many o ta tn tc Wn Hn xs a n c r d k x y w hR hP hg hz hy hs hW hH hm hb (by omega) (by omega) h12
    ·by_cases h0 : k < 0
     ·exact law_hj_neg o ta tn tc Wn Hn xs a n c r d k x y w hR hP hg hz hy hs hW hH hm hb (by omega) (by omega) h0
     ·obtain ⟨kn, rfl⟩ : ∃ kn : Nat, k = (kn : Int) := ⟨k.toNat, by omega⟩
      exact law_hj_main o ta tn tc Wn Hn xs a n c r d kn x y w hR hP hg hz hy hs hW hH hm hb (by omega) (by omega) (by omega)
  ·exact law_hj_shape o ta tn tc W H xs a n c r d k x y w hR hP hg hz hy hs
open Go.ChangeShapes Go.WideShapes Go.ChangeAt Go.RowKit
open Go.ChangeMaps (setBlock shut_map_nil open_string shut_string keptBut_setBlock frozen?_setBlock heap_setBlock_same)
theorem laidOutP : laidOutB Tryz.prog = true := by kernel_rfl
theorem ownP : ownKnob Tryz.prog.godebug = none := by kernel_rfl
theorem errorTypeAtP : Tryz.prog.globalNamed "errors.errorType" = some 0 := by kernel_rfl
theorem rtypeAtP : (Tryz.prog.cutTypes.find? (·.1 == "internal/reflectlite.rtype")).map (·.2) = some 205 := by kernel_rfl
theorem oneRowP : ((List.range 269).filter fun t => Tryz.prog.rowNamed t [101, 114, 114, 111, 114]) = [29] := by kernel_rfl
theorem typesSizeP : Tryz.prog.types.size = 269 := by kernel_rfl
theorem handle_laid {W : World} (h : handlesMet Tryz.prog [("errors.errorType", Rows.laid_errors_errorType)] W) : Handle W := by
 obtain ⟨name, u, ty, e1, e2, e3, e4, e5⟩ := h _ (List.mem_singleton.2 rfl)
 have en : name = [101, 114, 114, 111, 114] := (Option.some.inj e1).symm
 subst en
 obtain rfl := Option.some.inj (rtypeAtP.symm.trans e2)
 have hm : ty ∈ (List.range 269).filter fun t => Tryz.prog.rowNamed t [101, 114, 114, 111, 114] := List.mem_filter.2 ⟨List.mem_range.2 (by rw [← typesSizeP]; exact e3), e4⟩
 rw [oneRowP] at hm
 obtain rfl := List.mem_singleton.1 hm
 have hh : typeHandle Tryz.prog 29 = .pointer (some ⟨2, 29, none⟩) := by kernel_rfl
 rw [hh] at e5
 simpa [Handle] using World.var?_cell errorTypeAtP e5 0
def layBlockP (o : Obj) : Obj := match o with
 | .cells _ t frozen => .cells #[.iface 205 (.agg #[.pointer (some ⟨2, 29, none⟩)])] t frozen
 | o => o
def layWorldP (w : World) : World := { w with heap := w.heap.modify 0 layBlockP }
theorem ints_arg {H : Type} {enc : TypeId × Value → H} {W : World} {fuel : Nat} {cs : List Value} {x : DataW H × List MemPlace}
  (h : DataW.trod enc Tryz.prog W 0 (fun _ => true) true fuel 22 cs = some x) :
  ∃ (xs : List Int) (a : Option Addr) (c : Nat), cs = [.slice a xs.length c] ∧ ArgP W xs a xs.length c ∧ xs.length ≤ c ∧ c ≤ maxLen := by
 have q3 : Tryz.prog.cellsOf 3 = 1 := by kernel_rfl
 rcases open_ints Tryz.underlying22 Tryz.underlying3 q3 h with ⟨rfl, -⟩ | ⟨a, len, cap, zs, rfl, hb, hlc, hcm, hzl, -, hcell, hwf⟩
 ·exact ⟨[], none, 0, rfl, ⟨rfl, by simp, fun k hk => absurd hk (by simp)⟩, by simp, by simp⟩
 ·simp only [if_true] at hzl
  have hl : (zs.take len).length = len := by simp; omega
  refine ⟨zs.take len, some a, cap, by rw [hl], ⟨rfl, by omega, fun k hk => ?_⟩, by omega, hcm⟩
  have hk' : k < len ∧ k < zs.length := by simp only [List.length_take] at hk; omega
  have hc0 := hcell 0 (by omega)
  have hck := hcell k hk'.2
  obtain ⟨g, off, sp⟩ := a
  have hsp : sp = none := by
   cases sp with
   | none => rfl
   | some q =>
    exfalso
    simp [Addr.add, World.cell?] at hc0
    split at hc0 <;> simp at hc0
  subst hsp
  have ea : (⟨g, off, none⟩ : Addr).add k = ⟨g, off + k, none⟩ := by
   unfold Addr.add
   split
   ·rename_i hz; subst hz; rfl
   ·rfl
  rw [ea] at hck
  refine ⟨g, off, rfl, ?_, ?_⟩
  ·rcases Nat.lt_or_ge g W.heap.size with q | q
   ·exact q
   ·simp [World.cell?, Array.getElem?_eq_none q] at hck
  ·rw [hck]
   simp [List.getD, hk'.2]
set_option maxRecDepth 100000 in
theorem open_pattern {H : Type} {enc : TypeId × Value → H} {W : World} {base : Nat} {v : Value} {d : DataW H} {p : List MemPlace}
  (hv : Value.okWide Tryz.prog W .any base 26 v) (h : DataW.Trod enc Tryz.prog W 0 (fun _ => true) true 26 v d p) :
  ∃ (w h : Int) (xs : List Int) (a : Option Addr) (c : Nat), v = .agg #[.int .i64 w, .int .i64 h, .slice a xs.length c] ∧ ArgP W xs a xs.length c ∧ xs.length ≤ c ∧ c ≤ maxLen := by
 obtain ⟨cs, rfl, hsz⟩ := okWide_struct Tryz.underlying26 hv
 obtain ⟨fuel, h⟩ := h
 obtain ⟨xs, m, _, hx, hl, hlen, hf⟩ := DataW.trod_struct Tryz.underlying26 h
 have f0 := hf 0 _ rfl
 have f1 := hf 1 _ rfl
 have f2 := hf 2 _ rfl
 clear hf hx h hv hl
 have q3 : Tryz.prog.cellsOf 3 = 1 := by kernel_rfl
 have k22 : Tryz.prog.cellsOf 22 = 1 := by kernel_rfl
 rw [show Tryz.prog.cellsOf 26 = 3 by kernel_rfl] at hsz
 obtain ⟨cl⟩ := cs
 match cl, hsz with
 | [c0, c1, c2], _ =>
 match xs, hlen with
 | [y0, y1, y2], _ =>
 simp [Value.cells, q3, k22] at f0 f1 f2
 obtain ⟨k0, e0, -, w0⟩ := DataW.trod_int Tryz.underlying3 f0
 obtain ⟨k1, e1, -, w1⟩ := DataW.trod_int Tryz.underlying3 f1
 obtain ⟨zs, a, c, e2, ha, h1, h2⟩ := ints_arg f2
 simp only [List.cons.injEq, and_true] at e0 e1 e2
 subst e0 e1 e2
 exact ⟨k0, k1, zs, a, c, rfl, ha, h1, h2⟩
end Go.Proofs.YtemhcpldflcfbaaGreatDoor
