/-
  What the last text of this claim leans on, part 15: Sv3.
-/
import Derived.Test.YtopcgkncmhhkmaaDoorZc13
import Derived.BigRegion
import Derived.Deep.DeepCutAuto
namespace Go.Proofs.YtopcgkncmhhkmaaDoor
open Go.RowKit
set_option linter.unusedVariables false
set_option linter.unusedSimpArgs false
set_option maxRecDepth 100000 in
set_option maxHeartbeats 12800000 in
theorem refWays_f (W H : Nat) (w : World) (h1 : 1 ≤ W) (hW : W ≤ 6) (h3 : 1 ≤ H) (hH : H ≤ 6) (hN : W * H ≤ 30) : Calls Tryd.prog 9 #[.int .i64 (W : Int), .int .i64 (H : Int), .bool false] w (RoO w (prG W H false + 1) (wayN (wgU W H false) (W * H))) := by
  have WC := hide' (fun r (hr : r < 2 ^ W) V => wi_any W r false V h1 hW hr)
  have UC := hide' (fun a b (ha : a < 2 ^ W) (hb : b < 2 ^ W) V => un_any W a b V hW ha hb)
  have pl := pr_le72 (W := W) (H := H) false h1 hW h3 hH
  have PV := pr_val (W := W) (H := H) false h1 hW h3 hH
  have ml := two_le6 hW
  have MP := hide' (two_pos W)
  have FST := hide' (fun f r k (hf : f < 2 ^ W) => nw_first (W := W) (ring := false) (f := f) (r := r) (k := k) hf)
  have INP := hide' (fun f (hf : f < 2 ^ W) => show inG W false f ≤ prG W H false from nw_pairs (f := f) (y := 0) (r := f) (k := inG W false f) (ring := false) h1 hW (by omega) hH (by rw [nw_first hf, if_pos ⟨rfl, rfl⟩]; decide))
  have NTL := hide' (fun f y t a k (hy : y + 2 ≤ H) (ht : t < 2 ^ W) (ha : a ≤ 2 ^ W) => Nat.le_trans (nt_le (W := W) (ring := false) (f := f) (y := y) (t := t) (a := a) (k := k) ht ha) (pow30 hN hy))
  have NWL := hide' (fun f y r k (hy : y + 1 ≤ H) => Nat.le_trans (nw_le W false f y r k) (pow30 hN hy))
  have NTF := hide' (fun f y t k (ht : t < 2 ^ W) => nt_full (W := W) (ring := false) (f := f) (y := y) (t := t) (k := k) ht)
  obtain ⟨H', eH⟩ : ∃ v, H - 1 = v := ⟨_, rfl⟩
  have FUL := hide' (fun k => show otG W false H' (2 ^ W) 0 k = wayN (wgU W H false) (W * H) k from by
    have := ot_full (W := W) (ring := false) (y := H') (k := k) (by omega)
    rw [show H' + 1 = H by omega] at this
    exact this)
  have OTL := hide' (fun f r k (hf : f < 2 ^ W) (hr : r ≤ 2 ^ W) => Nat.le_trans (ot_le (W := W) (ring := false) (y := H') (k := k) (by omega) hf hr) (pow30 hN (show H' + 1 ≤ H by omega)))
  have le : 2 * W * H ≤ 72 := Nat.le_trans (Nat.mul_le_mul (Nat.mul_le_mul_left 2 hW) hH) (by decide)
  have ge : W + H ≤ 2 * W * H := by
    have a1 : W * 1 ≤ W * H := Nat.mul_le_mul_left W h3
    have a2 : 1 * H ≤ W * H := Nat.mul_le_mul_right H h1
    rw [Nat.mul_assoc]; omega
  obtain ⟨T, hT⟩ : ∃ T, 2 * W * H = T := ⟨_, rfl⟩
  have eT : 2 * (W : Int) * (H : Int) = (T : Int) := by rw [← hT]; push_cast; rfl
  rw [hT] at PV le ge
  obtain ⟨U, hU⟩ : ∃ U, T - W = U := ⟨_, rfl⟩
  obtain ⟨X, hX⟩ : ∃ V, U - H = V := ⟨_, rfl⟩
  have eU : (T : Int) - (W : Int) = (U : Int) := by omega
  have eX : (U : Int) - (H : Int) = (X : Int) := by omega
  rw [hU, hX, if_neg (by decide)] at PV
  have x72 : X ≤ 72 := by omega
  have u72 : U ≤ 72 := by omega
  obtain ⟨M, hM⟩ : ∃ M, 2 ^ W = M := ⟨_, rfl⟩
  obtain ⟨P, hP⟩ : ∃ P, prG W H false = P := ⟨_, rfl⟩
  rw [hP] at pl INP PV ⊢
  rw [hM] at ml MP WC UC FST INP NTL NTF FUL OTL
  obtain ⟨L, hL⟩ : ∃ L, P + 1 = L := ⟨_, rfl⟩
  rw [hL]
  have eL : (P : Int) + 1 = (L : Int) := by omega
  have l100 : L ≤ 100 := by omega
  have MR := hide' (fun V => mk_rowsQ M (by omega) V)
  have MI := hide' (fun V => mk_intsQ L (by omega) V)
  have POW := hide' hM
  have EL := hide' hL
  have EH := hide' eH
  clear hT hU hX ge hM hP hL hN eH
  subst PV
  go_enter Tryd.func9, Tryd.ntmps9
  go_wp2
  clear eT eU eX
  go_loopw [8, 9] (fun av xv wr => ∃ (x : Nat), av = .int .i64 ((2 ^ x : Nat) : Int) ∧ xv = .int .i64 (x : Int) ∧ x ≤ W ∧ wr = w) (fun _ xv _ => W - (intOf xv).toNat)
  case atStart => exact ⟨0, rfl, rfl, by omega, rfl⟩
  case round =>
    obtain ⟨x, rfl, rfl, hx, rfl⟩ := hrel
    by_cases dx : (x : Int) < (W : Int)
    · have px := two_le6 (show x ≤ 6 by omega)
      have NX := hide' (show 2 ^ (x + 1) = 2 ^ x * 2 from Nat.pow_succ 2 x)
      obtain ⟨z, hz⟩ : ∃ z, 2 ^ x = z := ⟨_, rfl⟩
      rw [hz] at px NX ⊢
      clear hz
      go_wp2
      exact ⟨⟨x + 1, by rw [NX.out]; go_num, by go_num, by omega, trivial⟩, by simp [intOf]; omega⟩
    · obtain rfl : x = W := by omega
      rw [POW.out]
      have mk := MI.out wr
      obtain ⟨w1, hw1⟩ : ∃ x, wr.alloc (.cells (arrQ L (iQ fun _ => 0)) 3) = x := ⟨_, rfl⟩
      have R1 := hide' (show ArV w1 wr.heap.size L 3 (iQ fun _ => 0) by rw [← hw1]; exact heap_alloc_new _ _)
      have B1 := hide' (show Below wr.heap.size wr w1 by rw [← hw1]; exact below_box _ _)
      rw [hw1] at mk
      clear hw1
      obtain ⟨w, rfl⟩ : ∃ V, V = wr := ⟨_, rfl⟩
      go_wp2
      clear mk
      go_loopw [11, 12, 13, 14, 15, 16, 17, 18, 19, 20, 21, 22, 23, 24] (fun fv _ _ _ _ _ _ _ _ _ _ _ _ _ wr => ∃ (f : Nat), fv = .int .i64 (f : Int) ∧ f ≤ M ∧ Hid (ArV wr w.heap.size L 3 (iQ (otG x false H' f 0))) ∧ Hid (Below w.heap.size w wr)) (fun fv _ _ _ _ _ _ _ _ _ _ _ _ _ _ => M - (intOf fv).toNat)
      case atStart => exact ⟨0, rfl, by omega, hide' (R1.out.ext fun k _ => by unfold iQ; rw [ot_zero]), B1⟩
      case round =>
        clear R1 B1
        obtain ⟨f, rfl, hf, AF, BF⟩ := hrel
        by_cases df : (f : Int) < (M : Int)
        · have fl : f < M := by omega
          have f0 : (0 : Int) ≤ (f : Int) := by omega
          obtain ⟨V1, rfl⟩ : ∃ V, V = wr := ⟨_, rfl⟩
          have OC := hide' AF.out.lt
          have WF := hide' (fun V => WC.out f fl V)
          have INF := INP.out f fl
          have FS := hide' (fun r k => FST.out f r k fl)
          obtain ⟨k, hk⟩ : ∃ k, inG x false f = k := ⟨_, rfl⟩
          rw [hk] at WF INF FS
          clear hk
          have mk := MR.out V1
          obtain ⟨w2, hw2⟩ : ∃ y, V1.alloc (.cells (arrQ M fun _ => .slice none 0 0) 23) = y := ⟨_, rfl⟩
          have T2 := hide' (show TbS w2 V1.heap.size V1.heap.size M 0 L (fun _ => 0) (fun _ _ => 0) by rw [← hw2]; exact TbS.made V1 M L _ _ _ (Nat.le_refl _))
          have B2 := hide' (show Below V1.heap.size V1 w2 by rw [← hw2]; exact below_box _ _)
          rw [hw2] at mk
          clear hw2
          go_wp2_with fail
          refine (WF.out w2).mono ?_
          rintro o w3 ⟨rfl, rfl⟩
          go_wp2
          clear mk
          go_loopw [14] (fun rv wr => ∃ (r : Nat) (q : Nat → Nat), rv = .int .i64 (r : Int) ∧ r ≤ M ∧ Hid (TbS wr V1.heap.size V1.heap.size M r L q (fun _ _ => 0)) ∧ Hid (Below V1.heap.size V1 wr)) (fun rv _ => M - (intOf rv).toNat)
          case atStart => exact ⟨0, _, rfl, by omega, T2, B2⟩
          case round =>
            obtain ⟨r, q, rfl, hr, TB, BW⟩ := hrel
            by_cases dr : (r : Int) < (M : Int)
            · have rl : r < M := by omega
              have r0 : (0 : Int) ≤ (r : Int) := by omega
              have mk := MI.out wr
              have T4 := hide' (TB.out.push BW.out.size)
              have B4 := hide' (show Below V1.heap.size V1 ((wr.alloc (.cells (arrQ L (iQ fun _ => 0)) 3)).setCell ⟨V1.heap.size, r, none⟩ (.slice (some ⟨wr.heap.size, 0, none⟩) L L)) from (BW.out.alloc BW.out.size _).setCell (p := ⟨V1.heap.size, r, none⟩) (Nat.le_refl _) _)
              have BL := hide' (TB.out.blk.alloc (.cells (arrQ L (iQ fun _ => 0)) 3))
              obtain ⟨w4, hw4⟩ : ∃ w4, wr.alloc (.cells (arrQ L (iQ fun _ => 0)) 3) = w4 := ⟨_, rfl⟩
              rw [hw4] at mk T4 B4 BL
              have fz := BL.out.frozen r
              have tl4 := BL.out.lt
              have ct4 := BL.out.cell rl
              clear hw4
              go_wp2
              exact ⟨⟨r + 1, _, by go_num, by omega, hide' (T4.out.ext fun r _ k _ => by split <;> rfl), B4⟩, by simp [intOf]; omega⟩
            · obtain rfl : r = M := by omega
              have QF := hide' (TB.out.rows f fl)
              have kl : k < L := by have := EL.out; omega
              have k0 : (0 : Int) ≤ (k : Int) := by omega
              have kI : (k : Int) < (L : Int) := by omega
              have cf := TB.out.cell fl fl
              have lf := TB.out.blk.lt
              have ck := (TB.out.row f fl).cell kl
              have fk := (TB.out.row f fl).frozen k
              have lk := (TB.out.row f fl).lt
              unfold iQ at ck
              have T5 := hide' (show TbS (wr.setCell ⟨q f, k, none⟩ (.int .i64 1)) V1.heap.size V1.heap.size r r L q (fun r k => nwG x false f 0 r k) from
                (TB.out.put fl (f := fun j => if j = k then 1 else 0) (((TB.out.row f fl).set k _).ext fun j _ => by unfold iQ; by_cases e : j = k <;> simp [e]) (fun b hb => set_other hb)).ext fun r _ j _ => by
                  rw [FS.out r j]
                  by_cases e : r = f
                  · by_cases e2 : j = k <;> simp [e, e2]
                  · simp [e])
              have B5 := hide' (show Below V1.heap.size V1 (wr.setCell ⟨q f, k, none⟩ (.int .i64 1)) from BW.out.setCell (p := ⟨q f, k, none⟩) QF.out _)
              go_wp2
              obtain ⟨w5, hw5⟩ : ∃ y, wr.setCell ⟨q f, k, none⟩ (.int .i64 1) = y := ⟨_, rfl⟩
              rw [hw5] at T5 B5 ⊢
              clear hw5 cf lf ck fk lk
              go_loopw [12, 15, 16, 17, 18, 19, 20, 21] (fun nv yv _ _ _ _ _ _ wr => ∃ (y tb : Nat) (q : Nat → Nat), nv = .slice (some ⟨tb, 0, none⟩) r r ∧ yv = .int .i64 ((y : Int) + 1) ∧ y ≤ H' ∧ Hid (TbS wr V1.heap.size tb r r L q (fun r k => nwG x false f y r k)) ∧ Hid (Below V1.heap.size V1 wr)) (fun _ yv _ _ _ _ _ _ _ => H - (intOf yv).toNat)
              case atStart => exact ⟨0, V1.heap.size, q, rfl, rfl, by omega, T5, B5⟩
              case round =>
                clear T5 B5 TB BW QF
                obtain ⟨y, tb, q, rfl, rfl, hy, TY, BY⟩ := hrel
                have eh := EH.out
                by_cases dy : (y : Int) + 1 < (H : Int)
                · have yl : y + 2 ≤ H := by omega
                  obtain ⟨V2, rfl⟩ : ∃ V, V = wr := ⟨_, rfl⟩
                  have mk := MR.out V2
                  obtain ⟨w6, hw6⟩ : ∃ y, V2.alloc (.cells (arrQ r fun _ => .slice none 0 0) 23) = y := ⟨_, rfl⟩
                  have T6 := hide' (show TbS w6 V2.heap.size V2.heap.size r 0 L (fun _ => 0) (fun _ _ => 0) by rw [← hw6]; exact TbS.made V2 r L _ _ _ (Nat.le_refl _))
                  have B6 := hide' (show Below V2.heap.size V2 w6 by rw [← hw6]; exact below_box _ _)
                  rw [hw6] at mk
                  clear hw6
                  go_wp2
                  clear mk
                  go_loopw [17, 18, 19, 20, 21] (fun tv _ _ _ _ wr => ∃ (t : Nat) (q2 : Nat → Nat), tv = .int .i64 (t : Int) ∧ t ≤ r ∧ Hid (TbS wr V2.heap.size V2.heap.size r t L q2 (fun t k => nwG x false f (y + 1) t k)) ∧ Hid (Below V2.heap.size V2 wr)) (fun tv _ _ _ _ _ => r - (intOf tv).toNat)
                  case atStart => exact ⟨0, _, rfl, by omega, hide' ⟨T6.out.blk, fun r h => absurd h (Nat.not_lt_zero _), fun r s h => absurd h (Nat.not_lt_zero _), T6.out.at', fun r h => absurd h (Nat.not_lt_zero _)⟩, B6⟩
                  case round =>
                    clear T6 B6
                    obtain ⟨t, q2, rfl, ht, TT, BT⟩ := hrel
                    by_cases dt : (t : Int) < (r : Int)
                    · have tl : t < r := by omega
                      have t0 : (0 : Int) ≤ (t : Int) := by omega
                      have mk := MI.out wr
                      have T7 := hide' ((TT.out.push BT.out.size).ext (F' := fun t' k => if t' < t then nwG x false f (y + 1) t' k else ntG x false f y t 0 k) fun r' hr' j _ => by
                        by_cases e : r' = t
                        · rw [if_pos e, if_neg (by omega)]; rfl
                        · rw [if_neg e, if_pos (by omega)])
                      have B7 := hide' (show Below V2.heap.size V2 ((wr.alloc (.cells (arrQ L (iQ fun _ => 0)) 3)).setCell ⟨V2.heap.size, t, none⟩ (.slice (some ⟨wr.heap.size, 0, none⟩) L L)) from (BT.out.alloc BT.out.size _).setCell (p := ⟨V2.heap.size, t, none⟩) (Nat.le_refl _) _)
                      have BL := hide' (TT.out.blk.alloc (.cells (arrQ L (iQ fun _ => 0)) 3))
                      obtain ⟨w7, hw7⟩ : ∃ w4, wr.alloc (.cells (arrQ L (iQ fun _ => 0)) 3) = w4 := ⟨_, rfl⟩
                      rw [hw7] at mk T7 B7 BL
                      have fz := BL.out.frozen t
                      have tl4 := BL.out.lt
                      have ct4 := BL.out.cell tl
                      obtain ⟨q3, hq3⟩ : ∃ q3, (fun r => if r = t then wr.heap.size else q2 r) = q3 := ⟨_, rfl⟩
                      rw [hq3] at T7
                      clear hw7 hq3
                      have WT := hide' (fun V => WC.out t tl V)
                      have zl := in_le x false t
                      have NXT := hide' (fun a k => nt_next (W := x) (ring := false) (f := f) (y := y) (t := t) (a := a) (k := k))
                      have NTT := hide' (fun k => NTF.out f y t k tl)
                      obtain ⟨z, hz⟩ : ∃ z, inG x false t = z := ⟨_, rfl⟩
                      rw [hz] at WT zl
                      simp only [hz] at NXT
                      clear hz
                      go_wp2_with fail
                      obtain ⟨w8, hw8⟩ : ∃ y, w7.setCell ⟨V2.heap.size, t, none⟩ (.slice (some ⟨wr.heap.size, 0, none⟩) L L) = y := ⟨_, rfl⟩
                      rw [hw8] at T7 B7 ⊢
                      clear hw8 mk fz tl4 ct4 BL
                      refine (WT.out w8).mono ?_
                      rintro o w9 ⟨rfl, rfl⟩
                      go_wp2
                      go_loopw [19, 20, 21] (fun av _ _ wr => ∃ (a : Nat), av = .int .i64 (a : Int) ∧ a ≤ r ∧ Hid (TbS wr V2.heap.size V2.heap.size r (t + 1) L q3 (fun t' k => if t' < t then nwG x false f (y + 1) t' k else ntG x false f y t a k)) ∧ Hid (Below V2.heap.size V2 wr)) (fun av _ _ _ => r - (intOf av).toNat)
                      case atStart => exact ⟨0, rfl, by omega, T7, B7⟩
                      case round =>
                        clear T7 B7 TT BT
                        obtain ⟨a, rfl, ha, TA, BA⟩ := hrel
                        by_cases da : (a : Int) < (r : Int)
                        · have al : a < r := by omega
                          have a0 : (0 : Int) ≤ (a : Int) := by omega
                          have UU := hide' (fun V => UC.out a t al tl V)
                          have NX := hide' (fun k => NXT.out a k)
                          have dl := df_le x a t
                          obtain ⟨d, hd⟩ : ∃ d, dfD x a t = d := ⟨_, rfl⟩
                          simp only [hd] at NX
                          rw [hd] at UU dl
                          clear hd
                          obtain ⟨p, hp⟩ : ∃ p, z + d = p := ⟨_, rfl⟩
                          rw [hp] at NX
                          have HPP := hide' hp
                          have p12 : p ≤ 12 := by omega
                          have TN := hide' (fun (V : World) (h : Below V2.heap.size V2 V) => TY.out.below (B := 0) h)
                          have NL := hide' (fun k => NTL.out f y t a k yl tl ha)
                          have CL := hide' (fun k => NWL.out f y a k (by omega))
                          clear hp
                          obtain ⟨V3, rfl⟩ : ∃ V, V = wr := ⟨_, rfl⟩
                          go_wp2_with fail
                          refine (UU.out V3).mono ?_
                          rintro o w10 ⟨rfl, rfl⟩
                          go_wp2
                          go_loopw [21] (fun iv wr => ∃ (i : Nat), iv = .int .i64 (i : Int) ∧ i ≤ L ∧ Hid (TbS wr V2.heap.size V2.heap.size r (t + 1) L q3 (fun t' k => if t' < t then nwG x false f (y + 1) t' k else adP (fun k => ntG x false f y t a k) (fun k => nwG x false f y a k) p i k)) ∧ Hid (Below V2.heap.size V2 wr)) (fun iv _ => L - (intOf iv).toNat)
                          case atStart => exact ⟨0, rfl, by omega, hide' (TA.out.ext fun r' _ k _ => by split; rfl; rw [adP_zero]), BA⟩
                          case round =>
                            clear TA BA
                            obtain ⟨i, rfl, hi, TI, BI⟩ := hrel
                            have ep := HPP.out
                            obtain ⟨s, hs⟩ : ∃ s, i + z = s := ⟨_, rfl⟩
                            obtain ⟨j, hj⟩ : ∃ j, s + d = j := ⟨_, rfl⟩
                            have es : (i : Int) + (z : Int) = (s : Int) := by omega
                            have ej : (s : Int) + (d : Int) = (j : Int) := by omega
                            have jl : j = i + p := by omega
                            by_cases di : (j : Int) ≤ (P : Int)
                            · have jL : j < L := by have := EL.out; omega
                              have iL : i < L := by omega
                              have i0 : (0 : Int) ≤ (i : Int) := by omega
                              have j0 : (0 : Int) ≤ (j : Int) := by omega
                              have iI : (i : Int) < (L : Int) := by omega
                              have jI : (j : Int) < (L : Int) := by omega
                              have t1 : t < t + 1 := by omega
                              have c1 := TI.out.cell t1 tl
                              have l1 := TI.out.blk.lt
                              have RT := hide' (TI.out.row t t1)
                              have c2 : wr.cell? ⟨q3 t, j, none⟩ = some (.int .i64 ((ntG x false f y t a j : Nat) : Int)) := by
                                rw [RT.out.cell jL]
                                simp only [iQ, Nat.lt_irrefl, if_false]
                                rw [jl, adP_at]
                              have f2 := RT.out.frozen j
                              have l2 := RT.out.lt
                              have c3 := (TN.out wr BI.out).cell al al
                              have l3 := (TN.out wr BI.out).blk.lt
                              have c4 : wr.cell? ⟨q a, i, none⟩ = some (.int .i64 ((nwG x false f y a i : Nat) : Int)) := ((TN.out wr BI.out).row a al).cell iL
                              have l4 := ((TN.out wr BI.out).row a al).lt
                              have n1 := NL.out j
                              have n2 := CL.out i
                              have T8 := hide' ((TI.out.put t1 (f := adP (fun k => ntG x false f y t a k) (fun k => nwG x false f y a k) p (i + 1)) ((RT.out.set j (.int .i64 ((ntG x false f y t a j + nwG x false f y a i : Nat) : Int))).ext fun k _ => by
                                simp only [iQ, Nat.lt_irrefl, if_false]
                                rw [← adP_row, jl]
                                split <;> rfl) (fun b hb => set_other hb)).ext (F' := fun t' k => if t' < t then nwG x false f (y + 1) t' k else adP (fun k => ntG x false f y t a k) (fun k => nwG x false f y a k) p (i + 1) k) fun r' hr' k _ => by
                                  by_cases e : r' = t
                                  · rw [if_pos e, if_neg (by omega)]
                                  · rw [if_neg e, if_pos (by omega), if_pos (by omega)])
                              have B8 := hide' (fun v => show Below V2.heap.size V2 (wr.setCell ⟨q3 t, j, none⟩ v) from BI.out.setCell (p := ⟨q3 t, j, none⟩) (TI.out.rows t t1) v)
                              obtain ⟨u, hu⟩ : ∃ u, ntG x false f y t a j = u := ⟨_, rfl⟩
                              obtain ⟨v, hv⟩ : ∃ u, nwG x false f y a i = u := ⟨_, rfl⟩
                              rw [hu] at c2 n1 T8
                              rw [hv] at c4 n2 T8
                              obtain ⟨g, hg⟩ : ∃ g, u + v = g := ⟨_, rfl⟩
                              rw [hg] at T8
                              have eg : (u : Int) + (v : Int) = (g : Int) := by omega
                              have ws : IntKind.i64.wrap (s : Int) = (s : Int) := wrap_i64S (by omega)
                              have wj : IntKind.i64.wrap (j : Int) = (j : Int) := wrap_i64S (by omega)
                              have wg : IntKind.i64.wrap (g : Int) = (g : Int) := wrap_i64S (by omega)
                              obtain ⟨A, hA⟩ : ∃ A, q3 t = A := ⟨_, rfl⟩
                              obtain ⟨B, hB⟩ : ∃ A, q a = A := ⟨_, rfl⟩
                              rw [hA] at c1 c2 f2 l2 T8 B8
                              rw [hB] at c3 c4 l4
                              have s100 : s ≤ 100 := by omega
                              have j100 : j ≤ 100 := by omega
                              have g100 : g ≤ 4000000000 := by omega
                              clear hu hv hg hA hB hs hj jl ep RT TI TN NL CL
                              go_upto_region 36 with fail
                              go_region
                              have T9 := hide' (show TbS ((wr.setCell ⟨A, j, none⟩ (.int .i64 (g : Int))).drew) V2.heap.size V2.heap.size r (t + 1) L q3 (fun t' k => if t' < t then nwG x false f (y + 1) t' k else adP (fun k => ntG x false f y t a k) (fun k => nwG x false f y a k) p (i + 1) k) from T8.out.keep fun _ _ _ => rfl)
                              have B9 := hide' (B8.out (.int .i64 (g : Int))).drew
                              obtain ⟨w11, hw11⟩ : ∃ y, (wr.setCell ⟨A, j, none⟩ (.int .i64 (g : Int))).drew = y := ⟨_, rfl⟩
                              rw [hw11] at T9 B9 ⊢
                              clear hw11 c1 l1 c2 f2 l2 c3 l3 c4 l4 T8 B8 es ej eg ws wj wg
                              go_wp2
                              exact ⟨⟨i + 1, by go_num, by omega, T9, hide' B9⟩, by simp [intOf]; omega⟩
                            · have T9 := hide' (TI.out.ext (F' := fun t' k => if t' < t then nwG x false f (y + 1) t' k else ntG x false f y t (a + 1) k) fun r' _ k hk => by
                                by_cases e : r' < t
                                · rw [if_pos e, if_pos e]
                                · rw [if_neg e, if_neg e, adP_end hk (by have := EL.out; omega), NX.out k])
                              have j100 : j ≤ 1000 := by omega
                              have s100 : s ≤ 1000 := by omega
                              clear hs hj jl ep
                              go_wp2
                              exact ⟨⟨a + 1, by go_num, by omega, T9, BI⟩, by simp [intOf]; omega⟩
                        · obtain rfl : a = r := by omega
                          have T9 := hide' (TA.out.ext (F' := fun t' k => nwG x false f (y + 1) t' k) fun r' hr' k _ => by
                            by_cases e : r' < t
                            · rw [if_pos e]
                            · obtain rfl : r' = t := by omega
                              rw [if_neg e, NTT.out k])
                          go_wp2
                          exact ⟨⟨t + 1, q3, by go_num, by omega, T9, BA⟩, by simp [intOf]; omega⟩
                    · obtain rfl : t = r := by omega
                      have T9 := hide' (show TbS wr V1.heap.size V2.heap.size t t L q2 (fun r k => nwG x false f (y + 1) r k) from by
                        have h := TT.out
                        have le := BY.out.size
                        exact ⟨h.blk, h.row, h.inj, Nat.le_trans le h.at', fun r hr => Nat.le_trans le (h.rows r hr)⟩)
                      have B9 := hide' (BY.out.trans (BT.out.mono BY.out.size))
                      go_wp2
                      exact ⟨⟨y + 1, V2.heap.size, q2, rfl, by go_num, by omega, T9, B9⟩, by simp [intOf]; omega⟩
                · obtain rfl : y = H' := by omega
                  have A9 := hide' (AF.out.below BY.out AF.out.lt)
                  have B9 := hide' (BF.out.trans (BY.out.mono BF.out.size))
                  go_wp2
                  go_loopw [22, 23, 24] (fun rv _ _ wr => ∃ (b : Nat), rv = .int .i64 (b : Int) ∧ b ≤ r ∧ Hid (ArV wr w.heap.size L 3 (iQ (otG x false y f b))) ∧ Hid (TbS wr V1.heap.size tb r r L q (fun r k => nwG x false f y r k)) ∧ Hid (Below w.heap.size w wr)) (fun rv _ _ _ => r - (intOf rv).toNat)
                  case atStart => exact ⟨0, rfl, by omega, A9, TY, B9⟩
                  case round =>
                    clear A9 B9 TY BY
                    obtain ⟨b, rfl, hb, AB, TB, BB⟩ := hrel
                    by_cases db : (b : Int) < (r : Int)
                    · have bl : b < r := by omega
                      have b0 : (0 : Int) ≤ (b : Int) := by omega
                      have NX := hide' (fun k => ot_next x false y f b k)
                      have OL := hide' (fun k => OTL.out f b k fl hb)
                      have CL := hide' (fun k => NWL.out f y b k (by omega))
                      have dl : clG x false b f ≤ x := by unfold clG; split; exact df_le _ _ _; exact Nat.zero_le _
                      have hd : clG x false b f = 0 := rfl
                      rw [hd] at dl
                      simp only [hd] at NX
                      clear hd
                      obtain ⟨V3, rfl⟩ : ∃ V, V = wr := ⟨_, rfl⟩
                      go_wp2
                      go_loopw [24] (fun iv wr => ∃ (i : Nat), iv = .int .i64 (i : Int) ∧ i ≤ L ∧ Hid (ArV wr w.heap.size L 3 (iQ (adP (otG x false y f b) (fun k => nwG x false f y b k) 0 i))) ∧ Hid (TbS wr V1.heap.size tb r r L q (fun r k => nwG x false f y r k)) ∧ Hid (Below w.heap.size w wr)) (fun iv _ => L - (intOf iv).toNat)
                      case atStart => exact ⟨0, rfl, by omega, hide' (AB.out.ext fun k _ => by unfold iQ; rw [adP_zero]), TB, BB⟩
                      case round =>
                        clear AB TB BB
                        obtain ⟨i, rfl, hi, AI, TI, BI⟩ := hrel
                        by_cases di : (i : Int) ≤ (P : Int)
                        · have jL : i < L := by have := EL.out; omega
                          have iL : i < L := by omega
                          have i0 : (0 : Int) ≤ (i : Int) := by omega
                          have j0 : (0 : Int) ≤ (i : Int) := by omega
                          have iI : (i : Int) < (L : Int) := by omega
                          have jI : (i : Int) < (L : Int) := by omega
                          have c1 := TI.out.cell bl bl
                          have l1 := TI.out.blk.lt
                          have c2 : wr.cell? ⟨w.heap.size, i, none⟩ = some (.int .i64 ((otG x false y f b i : Nat) : Int)) := by
                            rw [AI.out.cell jL]
                            simp only [iQ]
                            rw [adP_atJ (show i = i + 0 from rfl)]
                          have f2 := AI.out.frozen i
                          have l2 := AI.out.lt
                          have c4 : wr.cell? ⟨q b, i, none⟩ = some (.int .i64 ((nwG x false f y b i : Nat) : Int)) := (TI.out.row b bl).cell iL
                          have l4 := (TI.out.row b bl).lt
                          have n1 := OL.out i
                          have n2 := CL.out i
                          have A8 := hide' ((AI.out.set i (.int .i64 ((otG x false y f b i + nwG x false f y b i : Nat) : Int))).ext (f' := iQ (adP (otG x false y f b) (fun k => nwG x false f y b k) 0 (i + 1))) fun k _ => by
                            simp only [iQ]
                            rw [← adP_rowJ (show i = i + 0 from rfl)]
                            split <;> rfl)
                          have T8 := hide' (fun v => show TbS (wr.setCell ⟨w.heap.size, i, none⟩ v) V1.heap.size tb r r L q (fun r k => nwG x false f y r k) from TI.out.keep fun b hb _ => set_other (by have := OC.out; omega))
                          have B8 := hide' (fun v => show Below w.heap.size w (wr.setCell ⟨w.heap.size, i, none⟩ v) from BI.out.setCell (p := ⟨w.heap.size, i, none⟩) (Nat.le_refl _) v)
                          obtain ⟨u, hu⟩ : ∃ u, otG x false y f b i = u := ⟨_, rfl⟩
                          obtain ⟨v, hv⟩ : ∃ u, nwG x false f y b i = u := ⟨_, rfl⟩
                          rw [hu] at c2 n1 A8
                          rw [hv] at c4 n2 A8
                          obtain ⟨g, hg⟩ : ∃ g, u + v = g := ⟨_, rfl⟩
                          rw [hg] at A8
                          have eg : (u : Int) + (v : Int) = (g : Int) := by omega
                          have wj : IntKind.i64.wrap (i : Int) = (i : Int) := wrap_i64S (by omega)
                          have wg : IntKind.i64.wrap (g : Int) = (g : Int) := wrap_i64S (by omega)
                          obtain ⟨B, hB⟩ : ∃ A, q b = A := ⟨_, rfl⟩
                          rw [hB] at c1 c4 l4
                          have j100 : i ≤ 100 := by omega
                          have g100 : g ≤ 4000000000 := by omega
                          clear hu hv hg hB AI OL CL
                          go_upto_region 47 with fail
                          go_region
                          have A9 := hide' (show ArV ((wr.setCell ⟨w.heap.size, i, none⟩ (.int .i64 (g : Int))).drew) w.heap.size L 3 (iQ (adP (otG x false y f b) (fun k => nwG x false f y b k) 0 (i + 1))) from A8.out)
                          have T9 := hide' (show TbS ((wr.setCell ⟨w.heap.size, i, none⟩ (.int .i64 (g : Int))).drew) V1.heap.size tb r r L q (fun r k => nwG x false f y r k) from (T8.out _).keep fun _ _ _ => rfl)
                          have B9 := hide' (B8.out (.int .i64 (g : Int))).drew
                          obtain ⟨w11, hw11⟩ : ∃ y, (wr.setCell ⟨w.heap.size, i, none⟩ (.int .i64 (g : Int))).drew = y := ⟨_, rfl⟩
                          rw [hw11] at A9 T9 B9 ⊢
                          clear hw11 c1 l1 c2 f2 l2 c4 l4 A8 T8 B8 eg wj wg
                          go_wp2
                          exact ⟨⟨i + 1, by go_num, by omega, A9, T9, hide' B9⟩, by simp [intOf]; omega⟩
                        · have A9 := hide' (AI.out.ext (f' := iQ (otG x false y f (b + 1))) fun k hk => by
                            unfold iQ
                            rw [adP_end hk (by have := EL.out; omega), NX.out k])
                          have j100 : i ≤ 1000 := by omega
                          go_wp2
                          exact ⟨⟨b + 1, by go_num, by omega, A9, TI, BI⟩, by simp [intOf]; omega⟩
                    · obtain rfl : b = r := by omega
                      have A9 := hide' (AB.out.ext (f' := iQ (otG x false y (f + 1) 0)) fun k _ => by
                        have ov := ot_over x false y f k
                        rw [POW.out] at ov
                        unfold iQ
                        rw [ov])
                      go_wp2
                      exact ⟨⟨f + 1, by go_num, by omega, A9, BB⟩, by simp [intOf]; omega⟩
        · obtain rfl : f = M := by omega
          have A10 := hide' (AF.out.ext (f' := iQ (wayN (wgU x H false) (x * H))) fun k _ => by unfold iQ; rw [FUL.out k])
          go_wp2
          go_ret
          exact ⟨w.heap.size, rfl, A10.out, Nat.le_refl _, BF.out⟩
end Go.Proofs.YtopcgkncmhhkmaaDoor

