/-
  What the last text of this claim leans on, part 41: Hs2, Hs3, Gv1, Hq1.
-/
import Derived.Test.YtemhcpldflcfbaaGreatDoorZj37
import Derived.Test.YtemhcpldflcfbaaGreatDoorZj40
import Derived.Test.YtemhcpldflcfbaaGreatDoorZj36
import Derived.Test.YtemhcpldflcfbaaGreatDoorZj39
import Derived.Test.YtemhcpldflcfbaaGreatDoorZj17
import Derived.Test.YtemhcpldflcfbaaGreatDoorZj6
namespace Go.Proofs.YtemhcpldflcfbaaGreatDoor
open Go.RowKit
set_option linter.unusedVariables false
set_option maxHeartbeats 800000 in
theorem At_inL (W H : Nat) (xs : List Int) (a : Option Addr) (n c x y : Nat) (X Y : Int) (w : World) (hP : ArgP w xs a n c) (lW : W ≤ 8400) (lH : H ≤ 8400) (hn : n = W * H) (hX : X = x) (hY : Y = y) (hx : x < W) (hy : y < H) :
  Calls Tryz.prog 66 #[.agg #[.int .i64 (W : Int), .int .i64 (H : Int), .slice a n c], .int .i64 X, .int .i64 Y] w fun e w' => e = .returned (.int .i64 (atP W xs x y)) ∧ Below w.heap.size w w' := by
 subst hX hY
 have hN4 : n ≤ 70560000 := by rw [hn]; exact Nat.mul_le_mul lW lH
 have hq := mk_lt hx hy
 rw [← hn] at hq
 obtain ⟨Q, hQ⟩ : ∃ Q, y * W = Q := ⟨_, rfl⟩
 have hQi : (y : Int) * (W : Int) = (Q : Int) := by rw [← hQ]; simp
 have hl : Q + x < xs.length := by rw [← hP.len, ← hQ]; exact hq
 have hQn : Q + x < n := by rw [← hQ]; exact hq
 obtain ⟨g, off, rfl, hg, hc⟩ := (hP.alloc (.cells #[.int .i64 (W : Int), .int .i64 (H : Int), .slice a n c] 26)).cells (Q + x) hl
 have V := hide' (show atP W xs x y = xs[Q + x] by unfold atP; rw [hQ]; simp [List.getD, hl])
 obtain ⟨v, hv⟩ : ∃ v, xs[Q + x] = v := ⟨_, rfl⟩
 rw [hv] at hc V
 have h1 : ¬ (x : Int) < 0 := by omega
 have h2 : ¬ (W : Int) ≤ (x : Int) := by omega
 have h3 : ¬ (y : Int) < 0 := by omega
 have h4 : ¬ (H : Int) ≤ (y : Int) := by omega
 clear hP hn hq hQ hv
 go_enter Tryz.func66, Tryz.ntmps66
 go_wp2
 go_ret
 rw [V.out]
 exact ⟨rfl, (Below.refl _ _).alloc (Nat.le_refl _) _⟩
theorem At_anyL (q : Pat) (a : Option Addr) (n c x y : Nat) (w : World) (hP : ArgP w q.xs a n c) (lW : q.W ≤ 8400) (lH : q.H ≤ 8400) (hn : n = q.W * q.H) (hb : ∀ k, 0 ≤ q.xs.getD k 0 ∧ q.xs.getD k 0 ≤ 1) (X Y : Int) (hX : X = (x : Int) - 2) (hY : Y = (y : Int) - 2) :
  Calls Tryz.prog 66 #[.agg #[.int .i64 (q.W : Int), .int .i64 (q.H : Int), .slice a n c], .int .i64 X, .int .i64 Y] w fun e w' => e = .returned (.int .i64 (c2I q y x)) ∧ Below w.heap.size w w' := by
 by_cases h : 2 ≤ x ∧ x - 2 < q.W ∧ 2 ≤ y ∧ y - 2 < q.H
 ·have g := At_inL q.W q.H q.xs a n c (x - 2) (y - 2) X Y w hP lW lH hn (by omega) (by omega) h.2.1 h.2.2.2
  rw [c2I_in hb h.2.1 h.2.2.2, show y - 2 + 2 = y by omega, show x - 2 + 2 = x by omega] at g
  exact g
 ·rw [c2I_out h]
  exact At_out q.W q.H a n c X Y w (by unfold inP; omega)
set_option maxRecDepth 100000 in
set_option maxHeartbeats 12800000 in
theorem refWide_any (kd st ra : Int) (born stay : Nat) (ta : Option Addr) (tn tc : Nat) (sb : ByteArray) (q : Pat) (a : Option Addr) (n c : Nat) (r d : Int) (w : World) (hb : born ≤ 511) (hs : stay ≤ 511) (hP : ArgP w q.xs a n c) (hn : n = q.W * q.H) (hx : ∀ k, 0 ≤ q.xs.getD k 0 ∧ q.xs.getD k 0 ≤ 1) (hW : q.W ≤ 8390) (hH : q.H ≤ 8390) (R1 : -100000000 ≤ r) (R2 : r ≤ 100000000) (D1 : -100000000 ≤ d) (D2 : d ≤ 100000000) :
  Calls Tryz.prog 34 #[.agg #[.int .i64 kd, .int .i64 (born : Int), .int .i64 (stay : Int), .int .i64 st, .int .i64 ra, .slice ta tn tc, .string sb], .agg #[.int .i64 (q.W : Int), .int .i64 (q.H : Int), .slice a n c, .int .i64 r, .int .i64 d]] w (GPost (nextG born stay ⟨q, r, d⟩) w) := by
 obtain ⟨w4, hw4⟩ : ∃ w4, (((w.alloc (.cells #[.int .i64 kd, .int .i64 (born : Int), .int .i64 (stay : Int), .int .i64 st, .int .i64 ra, .slice ta tn tc, .string sb] 24)).alloc (.cells #[.int .i64 (q.W : Int), .int .i64 (q.H : Int), .slice a n c, .int .i64 r, .int .i64 d] 39)).alloc (.cells #[.int .i64 0, .int .i64 0, .slice none 0 0, .int .i64 0, .int .i64 0] 39)).alloc (.cells #[.int .i64 ((q.W : Int) + 2), .int .i64 ((q.H : Int) + 2), .slice none 0 0] 26) = w4 := ⟨_, rfl⟩
 have BB : Below w.heap.size w w4 := by rw [← hw4]; repeat (first | exact Below.refl _ _ | refine Below.alloc ?_ (by simp; try omega) _)
 have g0 : w4.heap[w.heap.size]? = some (.cells #[.int .i64 kd, .int .i64 (born : Int), .int .i64 (stay : Int), .int .i64 st, .int .i64 ra, .slice ta tn tc, .string sb] 24 (0, 0)) := by rw [← hw4, Below.heap_alloc _ _ _ (by simp; try omega), Below.heap_alloc _ _ _ (by simp; try omega), Below.heap_alloc _ _ _ (by simp; try omega)]; exact heap_atX _ _ _ (by simp)
 have g1 : w4.heap[w.heap.size + 1]? = some (.cells #[.int .i64 (q.W : Int), .int .i64 (q.H : Int), .slice a n c, .int .i64 r, .int .i64 d] 39 (0, 0)) := by rw [← hw4, Below.heap_alloc _ _ _ (by simp; try omega), Below.heap_alloc _ _ _ (by simp; try omega)]; exact heap_atX _ _ _ (by simp)
 have g2 : w4.heap[w.heap.size + 1 + 1]? = some (.cells #[.int .i64 0, .int .i64 0, .slice none 0 0, .int .i64 0, .int .i64 0] 39 (0, 0)) := by rw [← hw4, Below.heap_alloc _ _ _ (by simp; try omega)]; exact heap_atX _ _ _ (by simp)
 have g3 : w4.heap[w.heap.size + 1 + 1 + 1]? = some (.cells #[.int .i64 ((q.W : Int) + 2), .int .i64 ((q.H : Int) + 2), .slice none 0 0] 26 (0, 0)) := by rw [← hw4]; exact heap_atX _ _ _ (by simp)
 have X0 : NT w w4 w4 ((q.W : Int) + 2) ((q.H : Int) + 2) (.slice none 0 0) (nxPre born stay q 0) := ⟨fun _ _ => rfl, ⟨cell_of_row w4 _ 0 _ _ _ g3, cell_of_row w4 _ 1 _ _ _ g3, cell_of_row w4 _ 2 _ _ _ g3, fun k => frozen_of_row w4 _ k _ _ g3⟩, ⟨by simp [nxPre], Or.inl ⟨rfl, by simp [nxPre]⟩⟩, BB, by rw [← hw4]; simp⟩
 have XZ := hide' X0
 have G0 := hide' g0
 have G1 := hide' g1
 have G2 := hide' g2
 have HP := hide' hP
 have HN := hide' hn
 have HX := hide' hx
 have HB := hide' hb
 have HS := hide' hs
 obtain ⟨w3, hw3⟩ : ∃ w3, ((w.alloc (.cells #[.int .i64 kd, .int .i64 (born : Int), .int .i64 (stay : Int), .int .i64 st, .int .i64 ra, .slice ta tn tc, .string sb] 24)).alloc (.cells #[.int .i64 (q.W : Int), .int .i64 (q.H : Int), .slice a n c, .int .i64 r, .int .i64 d] 39)).alloc (.cells #[.int .i64 0, .int .i64 0, .slice none 0 0, .int .i64 0, .int .i64 0] 39) = w3 := ⟨_, rfl⟩
 rw [hw3] at hw4
 have h1 : w3.heap[w.heap.size + 1]? = some (.cells #[.int .i64 (q.W : Int), .int .i64 (q.H : Int), .slice a n c, .int .i64 r, .int .i64 d] 39 (0, 0)) := by rw [← hw3, Below.heap_alloc _ _ _ (by simp; try omega)]; exact heap_atX _ _ _ (by simp)
 have s3 : w3.heap.size = w.heap.size + 1 + 1 + 1 := by rw [← hw3]; simp
 have b0 := cell_of_row w3 _ 0 _ _ _ h1
 have b1 := cell_of_row w3 _ 1 _ _ _ h1
 simp at b0 b1
 have RV := hide' (fun (V : World) (hV : ∀ k, k < w.heap.size + 1 + 1 + 1 → V.heap[k]? = w4.heap[k]?) => show V.cell? ⟨w.heap.size, 0, none⟩ = some (.int .i64 kd) ∧ V.cell? ⟨w.heap.size, 1, none⟩ = some (.int .i64 (born : Int)) ∧ V.cell? ⟨w.heap.size, 2, none⟩ = some (.int .i64 (stay : Int)) ∧ V.cell? ⟨w.heap.size, 3, none⟩ = some (.int .i64 st) ∧ V.cell? ⟨w.heap.size, 4, none⟩ = some (.int .i64 ra) ∧ V.cell? ⟨w.heap.size, 5, none⟩ = some (.slice ta tn tc) ∧ V.cell? ⟨w.heap.size, 6, none⟩ = some (.string sb) from
  have e := (hV _ (by omega)).trans G0.out
  ⟨cell_of_row V _ 0 _ _ _ e, cell_of_row V _ 1 _ _ _ e, cell_of_row V _ 2 _ _ _ e, cell_of_row V _ 3 _ _ _ e, cell_of_row V _ 4 _ _ _ e, cell_of_row V _ 5 _ _ _ e, cell_of_row V _ 6 _ _ _ e⟩)
 have GV := hide' (fun (V : World) (hV : ∀ k, k < w.heap.size + 1 + 1 + 1 → V.heap[k]? = w4.heap[k]?) => show V.cell? ⟨w.heap.size + 1, 0, none⟩ = some (.int .i64 (q.W : Int)) ∧ V.cell? ⟨w.heap.size + 1, 1, none⟩ = some (.int .i64 (q.H : Int)) ∧ V.cell? ⟨w.heap.size + 1, 2, none⟩ = some (.slice a n c) ∧ V.cell? ⟨w.heap.size + 1, 3, none⟩ = some (.int .i64 r) ∧ V.cell? ⟨w.heap.size + 1, 4, none⟩ = some (.int .i64 d) from
  have e := (hV _ (by omega)).trans G1.out
  ⟨cell_of_row V _ 0 _ _ _ e, cell_of_row V _ 1 _ _ _ e, cell_of_row V _ 2 _ _ _ e, cell_of_row V _ 3 _ _ _ e, cell_of_row V _ 4 _ _ _ e⟩)
 obtain ⟨i0, hi, hz0, hz1, hz2⟩ := info_parts info_int
 have HW4 := hide' hw4
 clear g0 g1 g2 g3 X0 BB hP hn hx hb hs hw4
 go_enter Tryz.func34, Tryz.ntmps34
 go_wp2
 rw [HW4.out]
 clear HW4 hw3 b0 b1 s3 h1
 go_loopw [6] (fun yv wr => ∃ (y : Nat) (v : Value), yv = .int .i64 ((y : Int) - 1) ∧ y ≤ q.H + 2 ∧ Hid (NT w w4 wr ((q.W : Int) + 2) ((q.H : Int) + 2) v (nxPre born stay q (y * (q.W + 2))))) (fun yv _ => ((q.H : Int) + 1 - intOf yv).toNat)
 case atStart => exact ⟨0, _, by go_num, by omega, hide' (by rw [Nat.zero_mul]; exact XZ.out)⟩
 case round =>
  obtain ⟨y, v, rfl, hy, HY⟩ := hrel
  obtain ⟨V1, rfl⟩ : ∃ V1, V1 = wr := ⟨_, rfl⟩
  obtain ⟨b0, b1, b2, b3, b4⟩ := GV.out V1 HY.out.keep
  by_cases dy : (y : Int) - 1 ≤ (q.H : Int)
  ·go_wp2
   clear b0 b1 b2 b3 b4
   go_loopw [7] (fun xv wr => ∃ (x : Nat) (v : Value), xv = .int .i64 ((x : Int) - 1) ∧ x ≤ q.W + 2 ∧ Hid (NT w w4 wr ((q.W : Int) + 2) ((q.H : Int) + 2) v (nxPre born stay q (y * (q.W + 2) + x)))) (fun xv _ => ((q.W : Int) + 1 - intOf xv).toNat)
   case atStart => exact ⟨0, v, by go_num, by omega, HY⟩
   case round =>
    obtain ⟨x, v, rfl, hxx, HV⟩ := hrel
    obtain ⟨V2, rfl⟩ : ∃ V2, V2 = wr := ⟨_, rfl⟩
    obtain ⟨b0, b1, b2, b3, b4⟩ := GV.out V2 HV.out.keep
    by_cases dx : (x : Int) - 1 ≤ (q.W : Int)
    ·go_wp2
     clear b0 b1 b2 b3 b4
     go_loopw [8, 9] (fun nv kv wr => ∃ (k : Nat) (u : Int), kv = .int .i64 (k : Int) ∧ nv = .int .i64 u ∧ k ≤ 9 ∧ 0 ≤ u ∧ u ≤ 9 ∧ Hid (u = nbS q y x k) ∧ Hid (NT w w4 wr ((q.W : Int) + 2) ((q.H : Int) + 2) v (nxPre born stay q (y * (q.W + 2) + x)))) (fun _ kv _ => 9 - (intOf kv).toNat)
     case atStart => exact ⟨0, 0, rfl, rfl, by omega, by omega, by omega, hide' rfl, HV⟩
     case round =>
      obtain ⟨k, u, rfl, rfl, hk9, u1, u2, HU, HV3⟩ := hrel
      by_cases dk : (k : Int) < 9
      ·obtain ⟨b0, b1, b2, b3, b4⟩ := GV.out wr HV3.out.keep
       by_cases mid : k = 4
       ·subst mid
        have NU := hide' (show u = nbS q y x (4 + 1) by rw [nbS, ← HU.out, if_pos rfl]; omega)
        go_wp2
        exact ⟨⟨4 + 1, u, by go_num, rfl, by omega, u1, u2, NU, HV3⟩, by simp [intOf]⟩
       ·have NU := hide' (show u + c2I q (y + k / 3) (x + k % 3) = nbS q y x (k + 1) by rw [nbS, ← HU.out, if_neg mid])
        have bd := nbS_le q y x (k + 1)
        rw [← NU.out] at bd
        have bd2 : u + c2I q (y + k / 3) (x + k % 3) ≤ 9 := by have := bd.2; push_cast at this; omega
        have CA := hide' (At_anyL q a n c (x + k % 3) (y + k / 3) wr (HP.out.below HV3.out.below) (by omega) (by omega) HN.out HX.out ((x : Int) - 1 + (k : Int) % 3 - 1) ((y : Int) - 1 + (k : Int) / 3 - 1) (by push_cast; omega) (by push_cast; omega))
        have ce := c2I_le q (y + k / 3) (x + k % 3)
        obtain ⟨z, hz⟩ : ∃ z, c2I q (y + k / 3) (x + k % 3) = z := ⟨_, rfl⟩
        rw [hz] at NU bd bd2 CA ce
        have bd1 := bd.1
        have t1 : ((k : Int) != 4) = true := by simp; omega
        obtain ⟨X, hX⟩ : ∃ X, (x : Int) - 1 + (k : Int) % 3 - 1 = X := ⟨_, rfl⟩
        obtain ⟨Y, hY⟩ : ∃ Y, (y : Int) - 1 + (k : Int) / 3 - 1 = Y := ⟨_, rfl⟩
        rw [hX, hY] at CA
        have HXY := hide' (And.intro hX hY)
        clear hz mid bd hX hY
        go_wp2_with fail
        rw [HXY.out.1, HXY.out.2]
        refine CA.out.mono ?_
        rintro e w5 ⟨rfl, b5⟩
        have H5 := hide' (HV3.out.next b5)
        clear b5
        go_wp2
        exact ⟨⟨k + 1, u + z, by go_num, rfl, by omega, bd1, bd2, NU, H5⟩, by simp [intOf]; omega⟩
      ·have i3 : k = 9 := by omega
       have U9 : u = ((nb2 q y x : Nat) : Int) := by rw [HU.out, i3, ← nbS_nine]
       obtain ⟨V3, rfl⟩ : ∃ V3, V3 = wr := ⟨_, rfl⟩
       obtain ⟨b0, b1, b2, b3, b4⟩ := GV.out V3 HV3.out.keep
       have CA := hide' (At_anyL q a n c (x + 1) (y + 1) V3 (HP.out.below HV3.out.below) (by omega) (by omega) HN.out HX.out ((x : Int) - 1) ((y : Int) - 1) (by push_cast; omega) (by push_cast; omega))
       have NB := hide' (becN_nx born stay q y x)
       have ce := c2I_le q (y + 1) (x + 1)
       obtain ⟨m, hm⟩ : ∃ m, nb2 q y x = m := ⟨_, rfl⟩
       rw [hm] at U9 NB
       subst U9
       obtain ⟨z, hz⟩ : ∃ z, c2I q (y + 1) (x + 1) = z := ⟨_, rfl⟩
       rw [hz] at CA NB ce
       have m9 : m ≤ 9 := by omega
       have hlen : y * (q.W + 2) + x < 70560000 := by
        have h1 := mk_lt (W := q.W + 2) (H := q.H + 2) (show x < q.W + 2 by omega) (show y < q.H + 2 by omega)
        have h2 : (q.W + 2) * (q.H + 2) ≤ 8400 * 8400 := Nat.mul_le_mul (by omega) (by omega)
        omega
       have xlt : x < q.W + 2 := by omega
       clear i3 hz hm HU
       go_wp2_with fail
       refine CA.out.mono ?_
       rintro e w6 ⟨rfl, b6⟩
       have S6 := hide' (HV3.out.next b6)
       obtain ⟨c0, c1, c2', c3, c4, c5, c6⟩ := RV.out w6 S6.out.keep
       clear b6 b0 b1 b2 b3 b4
       go_wp2_with fail
       refine (refBecomes_any kd z st ra born stay ta tn tc sb m w6 HB.out HS.out m9).mono ?_
       obtain ⟨x0, hx0⟩ : ∃ x0 : Int, ((becN born stay z m : Nat) : Int) = x0 := ⟨_, rfl⟩
       rw [hx0]
       rw [hx0] at NB
       rintro e w2 ⟨rfl, b2'⟩
       have S2 := hide' (S6.out.next b2')
       have d2 := S2.out.q.c2
       have z2 := S2.out.sz
       have OW := hide' S2.out.own
       obtain ⟨sa, sn, sc, rfl⟩ := ownsRow_slice OW.out
       have HLE := hide' (nxPre_length born stay q (y * (q.W + 2) + x))
       clear hx0 b2' c0 c1 c2' c3 c4 c5 c6
       go_wp2_with (at_builtin; refine wpList_append_own _ rfl _ _ 22 rfl (w.heap.size + 1 + 1 + 1 + 1) 3 i0 (.int .i64 0) 1 8 Tryz.underlying22 hi hz0 hz1 hz2 rfl (by decide) (.slice sa sn sc) _ _ rfl (OW.out.alloc _) ⟨w2.heap.size, 0, none⟩ 1 1 [.int .i64 x0] rfl rfl (cell_one_new _ _ _) (fun x hx => by simp at hx; subst hx; rfl) (by rw [HLE.out]; unfold maxLen; omega) (by rw [HLE.out]; omega) (by simp; omega) ?_; intro v' w3 hown' hgrow3 hnil3; obtain ⟨va, vn, vc, rfl⟩ := ownsRow_slice hown'; obtain ⟨x5, x6⟩ := S2.out.mid x0 hgrow3; have G3 := hide' hgrow3; have O3 := hide' hown'; clear hgrow3 hown' hnil3)
       refine ⟨⟨x + 1, .slice va vn vc, by go_num, by omega, hide' ?_⟩, by simp [intOf]; omega⟩
       have hp := S2.out.push x0 G3.out O3.out
       rw [NB.out, nxPre_step born stay q y x xlt] at hp
       rw [← Nat.add_assoc]
       exact hp
    ·have x2 : x = q.W + 2 := by omega
     have NV := hide' (show NT w w4 V2 ((q.W : Int) + 2) ((q.H : Int) + 2) v (nxPre born stay q ((y + 1) * (q.W + 2))) by
      have e : (y + 1) * (q.W + 2) = y * (q.W + 2) + x := by rw [Nat.add_mul, Nat.one_mul, x2]
      rw [e]; exact HV.out)
     clear x2
     go_wp2
     exact ⟨⟨y + 1, v, by go_num, by omega, NV⟩, by simp [intOf]; omega⟩
  ·have yH : y = q.H + 2 := by omega
   have HF := HY.out
   have em : y * (q.W + 2) = (q.W + 2) * (q.H + 2) := by rw [yH, Nat.mul_comm]
   rw [em] at HF
   have ml : (q.W + 2) * (q.H + 2) ≤ 70560000 := Nat.mul_le_mul (show q.W + 2 ≤ 8400 by omega) (show q.H + 2 ≤ 8400 by omega)
   obtain ⟨sa, sc, rfl, AP⟩ := tab_arg (ownsRow_tab HF.own) (by rw [nxPre_length]; unfold maxLen; omega)
   rw [nxPre_length] at AP
   have q0 := HF.q.c0
   have q1 := HF.q.c1
   have q2 := HF.q.c2
   rw [nxPre_length] at q2
   have TC := hide' (refTrimL (q.W + 2) (q.H + 2) (nxPre born stay q ((q.W + 2) * (q.H + 2))) sa ((q.W + 2) * (q.H + 2)) sc V1 AP (by omega) (by omega) rfl)
   rw [show ((q.W + 2 : Nat) : Int) = (q.W : Int) + 2 by push_cast; rfl, show ((q.H + 2 : Nat) : Int) = (q.H : Int) + 2 by push_cast; rfl] at TC
   have KK := hide' HF.keep
   have BW := hide' HF.below
   have VS := hide' HF.sz
   obtain ⟨N, hN⟩ : ∃ N, (q.W + 2) * (q.H + 2) = N := ⟨_, rfl⟩
   have NC := hide' (show (⟨q.W + 2, q.H + 2, nxPre born stay q N⟩ : Pat) = nextC born stay q by rw [← hN]; rfl)
   rw [hN] at TC q2
   rw [NC.out] at TC
   clear yH HF em ml AP hN
   go_wp2_with fail
   refine TC.out.mono ?_
   rintro e w5 ⟨v5, rfl, tb5, fr5, b5⟩
   have TL := trim_ok (nextC born stay q)
   have BG : nextG born stay ⟨q, r, d⟩ = if (trimP (nextC born stay q)).1.W = 0 then noG else ⟨(trimP (nextC born stay q)).1, r - 1 + ((trimP (nextC born stay q)).2.1 : Int), d - 1 + ((trimP (nextC born stay q)).2.2 : Int)⟩ := rfl
   have bx := bbx_le (nextC born stay q).W (nextC born stay q).H (nextC born stay q).xs _ (Nat.le_refl _)
   have tW : (trimP (nextC born stay q)).1.W ≤ 8400 ∧ (trimP (nextC born stay q)).1.H ≤ 8400 ∧ (trimP (nextC born stay q)).2.1 ≤ 8400 ∧ (trimP (nextC born stay q)).2.2 ≤ 8400 := by
    obtain ⟨x1, x2, x3, x4, x5⟩ := bx
    have y1 : (nextC born stay q).W = q.W + 2 := rfl
    have y2 : (nextC born stay q).H = q.H + 2 := rfl
    unfold trimP
    dsimp only
    split
    ·exact ⟨Nat.zero_le _, Nat.zero_le _, Nat.zero_le _, Nat.zero_le _⟩
    ·dsimp only; omega
   obtain ⟨tp, htp⟩ : ∃ tp, trimP (nextC born stay q) = tp := ⟨_, rfl⟩
   obtain ⟨⟨V, U, ts⟩, L, T⟩ := tp
   rw [htp] at tb5 TL tW BG ⊢
   have HTP := hide' htp
   dsimp only at tb5 TL tW BG ⊢
   have BGH := hide' BG
   have tlen : ts.length ≤ 70560000 := by rw [show ts.length = V * U from TL]; exact Nat.mul_le_mul tW.1 tW.2.1
   obtain ⟨va, vc, rfl, AP5⟩ := tab_arg tb5 (by unfold maxLen; omega)
   have T5 := hide' tb5
   have F5 := hide' fr5
   have B5 := hide' b5
   have vW := tW.1
   have vH := tW.2.1
   have vL := tW.2.2.1
   have vT := tW.2.2.2
   clear tb5 fr5 b5 AP5 bx TL tW htp
   have KW : ∀ k, k < w.heap.size + 1 + 1 + 1 → w5.heap[k]? = w4.heap[k]? := fun k hk => (B5.out.block k (Nat.lt_of_lt_of_le hk (by have := VS.out; omega))).trans (KK.out k hk)
   obtain ⟨b0, b1, b2, b3, b4⟩ := GV.out w5 KW
   have e2 := (KW _ (by omega)).trans G2.out
   have r0 := cell_of_row w5 _ 0 _ _ _ e2
   have r1 := cell_of_row w5 _ 1 _ _ _ e2
   have r2 := cell_of_row w5 _ 2 _ _ _ e2
   have r3 := cell_of_row w5 _ 3 _ _ _ e2
   have r4 := cell_of_row w5 _ 4 _ _ _ e2
   simp at r0 r1 r2 r3 r4
   have f0 := frozen_of_row w5 _ 0 _ _ e2
   have f1 := frozen_of_row w5 _ 1 _ _ e2
   have f2 := frozen_of_row w5 _ 2 _ _ e2
   have f3 := frozen_of_row w5 _ 3 _ _ e2
   have f4 := frozen_of_row w5 _ 4 _ _ e2
   have s5 : w.heap.size + 1 + 1 < w5.heap.size := lt_of_block e2
   have ne5 : ¬ w.heap.size + 1 + 1 = w5.heap.size := by omega
   have ne6 : ¬ w5.heap.size = w.heap.size + 1 + 1 := by omega
   have ne7 : ¬ w.heap.size + 1 = w5.heap.size := by omega
   have BE := hide' (BW.out.trans (B5.out.mono BW.out.size))
   have E2 := hide' e2
   clear KW e2 BG
   by_cases v0 : V = 0
   ·have t3 : ((V : Int) == 0) = true := by simp [v0]
    have NE := hide' (show nextG born stay ⟨q, r, d⟩ = noG by rw [BGH.out, if_pos v0])
    clear v0
    go_wp2
    obtain ⟨W, hWW⟩ : ∃ W, (((((w5.setCell ⟨w.heap.size + 1 + 1, 0, none⟩ (.int .i64 0)).setCell ⟨w.heap.size + 1 + 1, 1, none⟩ (.int .i64 0)).setCell ⟨w.heap.size + 1 + 1, 2, none⟩ (.slice none 0 0)).setCell ⟨w.heap.size + 1 + 1, 3, none⟩ (.int .i64 0)).setCell ⟨w.heap.size + 1 + 1, 4, none⟩ (.int .i64 0)).alloc (.cells #[.int .i64 (V : Int), .int .i64 (U : Int), .slice va ts.length vc] 26) = W := ⟨_, rfl⟩
    rw [hWW]
    have k0 : W.heap[w.heap.size + 1 + 1]? = some (.cells #[(.int .i64 0), (.int .i64 0), (.slice none 0 0), (.int .i64 0), (.int .i64 0)] 39 (0, 0)) := by rw [← hWW]; exact five_set E2.out _ _ _ _ _ _
    have m0 := cell_of_row W _ 0 _ _ _ k0
    have m1 := cell_of_row W _ 1 _ _ _ k0
    have m2 := cell_of_row W _ 2 _ _ _ k0
    have m3 := cell_of_row W _ 3 _ _ _ k0
    have m4 := cell_of_row W _ 4 _ _ _ k0
    simp at m0 m1 m2 m3 m4
    have BQ : Below w.heap.size w W := by rw [← hWW]; exact five_below BE.out (by omega) (by omega) _ _ _ _ _ _
    refine bodyPost_ret (v := .agg #[.int .i64 0, .int .i64 0, .slice none 0 0, .int .i64 0, .int .i64 0]) (by simp [results, Tryz.results34, go_sem, m0, m1, m2, m3, m4]) rfl ?_
    refine ⟨.slice none 0 0, by rw [NE.out]; rfl, by rw [NE.out]; exact Or.inl ⟨rfl, rfl⟩, Fresh.nil _, BQ⟩
   ·have t3 : ((V : Int) == 0) = false := by simp [v0]
    have b3' : ∀ o, (w5.alloc o).cell? ⟨w.heap.size + 1, 3, none⟩ = some (.int .i64 r) := fun o => (World.cell?_of_block (w := w5) (a := ⟨w.heap.size + 1, 3, none⟩) (Below.heap_alloc w5 o _ (by show w.heap.size + 1 < w5.heap.size; omega))).trans b3
    have b4' : ∀ o, (w5.alloc o).cell? ⟨w.heap.size + 1, 4, none⟩ = some (.int .i64 d) := fun o => (World.cell?_of_block (w := w5) (a := ⟨w.heap.size + 1, 4, none⟩) (Below.heap_alloc w5 o _ (by show w.heap.size + 1 < w5.heap.size; omega))).trans b4
    have NE := hide' (show nextG born stay ⟨q, r, d⟩ = ⟨⟨V, U, ts⟩, r - 1 + (L : Int), d - 1 + (T : Int)⟩ by rw [BGH.out, if_neg v0])
    clear v0
    go_wp2
    obtain ⟨W, hWW⟩ : ∃ W, (((((w5.setCell ⟨w.heap.size + 1 + 1, 0, none⟩ (.int .i64 (V : Int))).setCell ⟨w.heap.size + 1 + 1, 1, none⟩ (.int .i64 (U : Int))).setCell ⟨w.heap.size + 1 + 1, 2, none⟩ (.slice va ts.length vc)).setCell ⟨w.heap.size + 1 + 1, 3, none⟩ (.int .i64 (r + (L : Int) - 1))).setCell ⟨w.heap.size + 1 + 1, 4, none⟩ (.int .i64 (d + (T : Int) - 1))).alloc (.cells #[.int .i64 (V : Int), .int .i64 (U : Int), .slice va ts.length vc] 26) = W := ⟨_, rfl⟩
    rw [hWW]
    have k0 : W.heap[w.heap.size + 1 + 1]? = some (.cells #[(.int .i64 (V : Int)), (.int .i64 (U : Int)), (.slice va ts.length vc), (.int .i64 (r + (L : Int) - 1)), (.int .i64 (d + (T : Int) - 1))] 39 (0, 0)) := by rw [← hWW]; exact five_set E2.out _ _ _ _ _ _
    have m0 := cell_of_row W _ 0 _ _ _ k0
    have m1 := cell_of_row W _ 1 _ _ _ k0
    have m2 := cell_of_row W _ 2 _ _ _ k0
    have m3 := cell_of_row W _ 3 _ _ _ k0
    have m4 := cell_of_row W _ 4 _ _ _ k0
    simp at m0 m1 m2 m3 m4
    have BQ : Below w.heap.size w W := by rw [← hWW]; exact five_below BE.out (by omega) (by omega) _ _ _ _ _ _
    refine bodyPost_ret (v := .agg #[.int .i64 (V : Int), .int .i64 (U : Int), .slice va ts.length vc, .int .i64 (r + (L : Int) - 1), .int .i64 (d + (T : Int) - 1)]) (by simp [results, Tryz.results34, go_sem, m0, m1, m2, m3, m4]) rfl ?_
    refine ⟨.slice va ts.length vc, by unfold gV; rw [NE.out, show r + (L : Int) - 1 = r - 1 + (L : Int) by omega, show d + (T : Int) - 1 = d - 1 + (T : Int) by omega], ?_, fun g k c h => Nat.le_trans BW.out.size (F5.out g k c h), BQ⟩
    rw [NE.out]
    refine tab_keep T5.out (fun g k cap h => ?_)
    rw [← hWW]
    exact five_keep (by have := F5.out g k cap h; have := VS.out; omega) (tab_lt T5.out h) _ _ _ _ _ _
theorem wrap_near {x : Int} (h1 : -1000000000 ≤ x) (h2 : x ≤ 1000000000) : IntKind.i64.wrap x = x := by simp [IntKind.wrap, IntKind.bits, IntKind.signed]; omega
def sameP (a b : Pat) : Bool := decide (a.W = b.W) && decide (a.H = b.H) && decide (a.xs = b.xs)
def Bxd (s : Gst) : Prop := s = noG ∨ (BoxP (cellP s.P) 0 0 s.P.W s.P.H ∧ GOk s)
theorem box_bxd {q : Pat} (h : ∀ k, 0 ≤ q.xs.getD k 0 ∧ q.xs.getD k 0 ≤ 1) (R D : Int) : Bxd (boxG q R D) := by
 have ok := box_ok h R D
 unfold boxG at ok ⊢
 rcases trim_cases q with ⟨h0, h1⟩ | ⟨l, t, r, b, hB, h1⟩
 ·left; rw [h1, if_pos rfl]
 ·right
  rw [h1] at ok ⊢
  dsimp only at ok ⊢
  obtain ⟨y1, x1, c1, e1⟩ := hB.le
  obtain ⟨y2, x2, c2, e2⟩ := hB.ri
  obtain ⟨y3, x3, c3, e3⟩ := hB.up
  obtain ⟨y4, x4, c4, e4⟩ := hB.lo
  have i1 := hB.inn _ _ c1
  have i2 := hB.inn _ _ c2
  have i3 := hB.inn _ _ c3
  have i4 := hB.inn _ _ c4
  rw [if_neg (by omega)] at ok ⊢
  refine ⟨⟨fun y x hc => ?_, ⟨y1 - t, 0, ?_, rfl⟩, ⟨y2 - t, x2 - l, ?_, by dsimp only; omega⟩, ⟨0, x3 - l, ?_, rfl⟩, ⟨y4 - t, x4 - l, ?_, by dsimp only; omega⟩⟩, ok⟩
  ·rw [trim_cell hB] at hc
   simp at hc
   dsimp only
   omega
  ·rw [trim_cell hB, show t + (y1 - t) = y1 by omega, show l + 0 = x1 by omega, c1]; simp; omega
  ·rw [trim_cell hB, show t + (y2 - t) = y2 by omega, show l + (x2 - l) = x2 by omega, c2]; simp; omega
  ·rw [trim_cell hB, show t + 0 = y3 by omega, show l + (x3 - l) = x3 by omega, c3]; simp; omega
  ·rw [trim_cell hB, show t + (y4 - t) = y4 by omega, show l + (x4 - l) = x4 by omega, c4]; simp; omega
structure AgR where
 n : Nat
 r : Int
 d : Int
 f : Nat
def agn (born stay : Nat) (s0 : Gst) : Nat → Nat → Gst → AgR
 | 0, _, _ => ⟨0, 0, 0, 5⟩
 | k + 1, i, u => if 100 < (nextG born stay u).P.W ∨ 100 < (nextG born stay u).P.H then ⟨0, 0, 0, 4⟩ else if sameP (nextG born stay u).P s0.P then ⟨i + 1, (nextG born stay u).r - s0.r, (nextG born stay u).d - s0.d, 0⟩ else agn born stay s0 k (i + 1) (nextG born stay u)
def agA (born stay : Nat) (s0 : Gst) (m : Nat) : AgR := if s0.P.W = 0 then ⟨0, 0, 0, 5⟩ else agn born stay s0 m 0 s0
theorem agn_noG {born stay : Nat} {s0 : Gst} (b0 : born.testBit 0 = false) (h : s0.P.W ≠ 0) : ∀ k i, agn born stay s0 k i noG = ⟨0, 0, 0, 5⟩
 | 0, i => rfl
 | k + 1, i => by
  rw [agn, noG_next b0, if_neg (by simp [noG]), if_neg (by unfold sameP; rw [decide_eq_false (show ¬ noG.P.W = s0.P.W from fun e => h e.symm)]; simp)]
  exact agn_noG b0 h k (i + 1)
structure BxF (V : Int → Int → Int) (l u r d : Int) : Prop where
 inn : ∀ x y, V x y ≠ 0 → l ≤ x ∧ x < r ∧ u ≤ y ∧ y < d
 hl : ∃ y, V l y ≠ 0
 hr : ∃ y, V (r - 1) y ≠ 0
 hu : ∃ x, V x u ≠ 0
 hd : ∃ x, V x (d - 1) ≠ 0
theorem BxF.only {V : Int → Int → Int} {l u r d l' u' r' d' : Int} (h : BxF V l u r d) (k : BxF V l' u' r' d') : l = l' ∧ u = u' ∧ r = r' ∧ d = d' := by
 obtain ⟨y1, a1⟩ := h.hl
 obtain ⟨y2, a2⟩ := h.hr
 obtain ⟨x3, a3⟩ := h.hu
 obtain ⟨x4, a4⟩ := h.hd
 obtain ⟨y5, b1⟩ := k.hl
 obtain ⟨y6, b2⟩ := k.hr
 obtain ⟨x7, b3⟩ := k.hu
 obtain ⟨x8, b4⟩ := k.hd
 have := k.inn _ _ a1
 have := k.inn _ _ a2
 have := k.inn _ _ a3
 have := k.inn _ _ a4
 have := h.inn _ _ b1
 have := h.inn _ _ b2
 have := h.inn _ _ b3
 have := h.inn _ _ b4
 omega
theorem BxF.shift {V G : Int → Int → Int} {l u r d a b : Int} (h : BxF V l u r d) (e : ∀ x y, V (x - a) (y - b) = G x y) : BxF G (a + l) (b + u) (a + r) (b + d) := by
 have f : ∀ x y, V x y = G (a + x) (b + y) := fun x y => by rw [← e, show a + x - a = x by omega, show b + y - b = y by omega]
 obtain ⟨y1, a1⟩ := h.hl
 obtain ⟨y2, a2⟩ := h.hr
 obtain ⟨x3, a3⟩ := h.hu
 obtain ⟨x4, a4⟩ := h.hd
 rw [f] at a1 a2 a3 a4
 refine ⟨fun x y q => ?_, ⟨_, a1⟩, ⟨_, by rw [show a + r - 1 = a + (r - 1) by omega]; exact a2⟩, ⟨_, a3⟩, ⟨_, by rw [show b + d - 1 = b + (d - 1) by omega]; exact a4⟩⟩
 rw [← e] at q
 have := h.inn _ _ q
 omega
def colE (k : Nat) : Nat → Nat
 | 0 => 0
 | n + 1 => colE k n ||| (k >>> (8 * n)) % 256
theorem col_lt (k : Nat) : ∀ n, colE k n < 256
 | 0 => by show (0 : Nat) < 256; decide
 | n + 1 => Nat.or_lt_two_pow (n := 8) (col_lt k n) (Nat.mod_lt _ (by decide))
theorem col_bit (k : Nat) {x : Nat} (hx : x < 8) : ∀ n, (colE k n).testBit x = true ↔ ∃ y, y < n ∧ k.testBit (8 * y + x) = true
 | 0 => by
  show Nat.testBit 0 x = true ↔ _
  rw [Nat.zero_testBit]
  exact ⟨fun h => (by cases h), fun ⟨y, h, _⟩ => absurd h (by omega)⟩
 | n + 1 => by
  show (colE k n ||| (k >>> (8 * n)) % 256).testBit x = true ↔ _
  rw [Nat.testBit_or, Bool.or_eq_true, col_bit k hx n, show (256 : Nat) = 2 ^ 8 by decide, Nat.testBit_mod_two_pow, decide_eq_true hx, Bool.true_and, Nat.testBit_shiftRight]
  constructor
  ·rintro (⟨y, h1, h2⟩ | h)
   ·exact ⟨y, by omega, h2⟩
   ·exact ⟨n, by omega, h⟩
  ·rintro ⟨y, h1, h2⟩
   by_cases e : y = n
   ·subst e; exact Or.inr h2
   ·exact Or.inl ⟨y, by omega, h2⟩
theorem tz8_low : ∀ n : Fin 256, n.val ≠ 0 → (n.val.testBit (Lib.trailingZeros8 n.val) = true ∧ ∀ j : Fin 8, j.val < Lib.trailingZeros8 n.val → n.val.testBit j.val = false) ∧ Lib.trailingZeros8 n.val < 8 := by decide +kernel
theorem bit_alive {k : Nat} {x y : Int} : bitQ k x y ≠ 0 ↔ ∃ a b : Nat, x = a ∧ y = b ∧ a < 8 ∧ b < 8 ∧ k.testBit (8 * b + a) = true := by
 constructor
 ·intro h
  have c : 0 ≤ x ∧ x < 8 ∧ 0 ≤ y ∧ y < 8 := Classical.byContradiction fun c => h (bit_out c)
  refine ⟨x.toNat, y.toNat, by omega, by omega, by omega, by omega, ?_⟩
  rw [show x = ((x.toNat : Nat) : Int) by omega, show y = ((y.toNat : Nat) : Int) by omega, bitQ_nat _ (by omega) (by omega)] at h
  cases e : k.testBit (8 * y.toNat + x.toNat) with
  | true => rfl
  | false => rw [e] at h; exact absurd rfl h
 ·rintro ⟨a, b, rfl, rfl, ha, hb, e⟩
  rw [bitQ_nat _ ha hb, e]
  decide
theorem eight_box {k : Nat} (k0 : k ≠ 0) (hk : k < 18446744073709551616) : BxF (bitQ k) ((Lib.trailingZeros8 (colE k 8) : Nat) : Int) ((tzN k / 8 : Nat) : Int) ((Lib.bitLen (colE k 8) : Nat) : Int) (((Lib.bitLen k + 7) / 8 : Nat) : Int) := by
 have kp : 0 < k := by omega
 have cz := ctz_low kp hk
 have cl := ctz_le kp hk
 have bt := bitLen_top 64 k kp hk (by omega)
 have tz : tzN k = Lib.ctz 64 k := if_neg k0
 rw [tz]
 obtain ⟨z, hz⟩ : ∃ z, Lib.ctz 64 k = z := ⟨_, rfl⟩
 obtain ⟨e, he⟩ : ∃ z, Lib.bitLen k = z := ⟨_, rfl⟩
 rw [hz] at cz cl ⊢
 rw [he] at bt ⊢
 have c0 : colE k 8 ≠ 0 := fun q => by
  have := (col_bit k (x := z % 8) (by omega) 8).2 ⟨z / 8, by omega, by rw [show 8 * (z / 8) + z % 8 = z by omega]; exact cz.1⟩
  rw [q, Nat.zero_testBit] at this
  cases this
 obtain ⟨⟨t1, t2⟩, t3⟩ := tz8_low ⟨colE k 8, col_lt k 8⟩ c0
 have b8 := bitLen_top 8 (colE k 8) (by omega) (col_lt k 8) (by omega)
 simp only at t1 t2 t3
 obtain ⟨a, ha⟩ : ∃ z, Lib.trailingZeros8 (colE k 8) = z := ⟨_, rfl⟩
 obtain ⟨b, hb⟩ : ∃ z, Lib.bitLen (colE k 8) = z := ⟨_, rfl⟩
 rw [ha] at t1 t2 t3 ⊢
 rw [hb] at b8 ⊢
 obtain ⟨y1, hy1, e1⟩ := (col_bit k t3 8).1 t1
 obtain ⟨y2, hy2, e2⟩ := (col_bit k (x := b - 1) (by omega) 8).1 b8.2.2.1
 refine ⟨fun x y q => ?_, ⟨(y1 : Int), bit_alive.2 ⟨a, y1, rfl, rfl, t3, hy1, e1⟩⟩, ⟨(y2 : Int), bit_alive.2 ⟨b - 1, y2, by omega, rfl, by omega, hy2, e2⟩⟩, ⟨((z % 8 : Nat) : Int), bit_alive.2 ⟨z % 8, z / 8, rfl, rfl, by omega, by omega, by rw [show 8 * (z / 8) + z % 8 = z by omega]; exact cz.1⟩⟩, ⟨(((e - 1) % 8 : Nat) : Int), bit_alive.2 ⟨(e - 1) % 8, (e + 7) / 8 - 1, rfl, by omega, by omega, by omega, by rw [show 8 * ((e + 7) / 8 - 1) + (e - 1) % 8 = e - 1 by omega]; exact bt.2.2.1⟩⟩⟩
 obtain ⟨c, d, rfl, rfl, hc, hd, ev⟩ := bit_alive.1 q
 have cb := (col_bit k hc 8).2 ⟨d, hd, ev⟩
 have q1 : a ≤ c := Classical.byContradiction fun g => by
  have := t2 ⟨c, hc⟩ (show c < a by omega)
  simp only at this
  rw [this] at cb
  cases cb
 have q2 : c < b := Classical.byContradiction fun g => by
  rw [b8.2.2.2 c (by omega)] at cb
  cases cb
 have q3 : z ≤ 8 * d + c := Classical.byContradiction fun g => by
  rw [cz.2 _ (by omega)] at ev
  cases ev
 have q4 : 8 * d + c < e := Classical.byContradiction fun g => by
  rw [bt.2.2.2 _ (by omega)] at ev
  cases ev
 omega
end Go.Proofs.YtemhcpldflcfbaaGreatDoor
