/-
  What the last text of this claim leans on, part 21: Wx7, Wq6.
-/
import Derived.Test.YthmeapplnocfjaaDoorZp20
import Derived.Test.YthmeapplnocfjaaDoorZp2
namespace Go.Proofs.YthmeapplnocfjaaDoor
open Go.RowKit
set_option linter.unusedVariables false
set_option linter.unusedSimpArgs false
set_option maxRecDepth 100000 in
set_option maxHeartbeats 25600000 in
theorem wangDecide_any (xs : List TlT) (a : Option Addr) (n c : Nat) (M : Int) (w : World) (hA : ArgT w xs a n c) (hT : TzTab w) :
    Calls Tryd.prog 17 #[.slice a n c, .int .i64 M] w (WdA xs n M w) := by
  obtain ⟨w1, hw1⟩ : ∃ w1, w.alloc (.cells #[.bool false, .int .i64 0, .int .i64 0, .slice none 0 0] 40) = w1 := ⟨_, rfl⟩
  have Z1 := hide' (show ZdS w w1 from ⟨by rw [← hw1]; exact (Below.refl _ _).alloc (Nat.le_refl _) _, by rw [← hw1]; exact heap_alloc_new _ _⟩)
  have SC := hide' (wangSized_any xs a n c M M w1 (hA.below Z1.out.1))
  have HW1 := hide' hw1
  clear hw1
  by_cases s0 : sdF xs M M = 0
  · have S0 := hide' s0
    obtain ⟨t0, n1, n16, most, most', rfl, emm, v1, v5, -, -⟩ := sdF_ok s0
    obtain rfl : most = most' := by omega
    rw [s0, show errOf 0 = .nilIface from rfl] at SC
    have nl := hA.len
    have TO := hide' (fun (s : Nat) (V : World) (h : Below w.heap.size w V) (s1 : 1 ≤ s) (s5 : s ≤ 5) => torus_anyW xs a n c s V (hA.below h) (hT.below h) t0 (by omega) (by omega) s1 s5)
    have LC := hide' (fun (s : Nat) (V : World) (h : Below w.heap.size w V) (s1 : 1 ≤ s) (s5 : s ≤ 5) => lay_anyW xs a n c s s false V (hA.below h) t0 (by omega) (by omega) s1 s5 s1 s5)
    have OPC := hide' (fun (B : BdW) (g : Nat) (V : World) (h : Below w.heap.size w V) (hV : BrdA V g B) (hB : BokW B) => open_any B g V hV hB (hT.below h))
    have NOO := hide' (fun (s : Nat) (B : BdW) (h : LaiW xs n s s false B) (s1 : 1 ≤ s) (no : ¬ OpB B) => none_of h s1 s1 no)
    have YOO := hide' (fun (s : Nat) (B : BdW) (h : LaiW xs n s s false B) (s1 : 1 ≤ s) (yes : OpB B) => show ¬ NoneW n (s * s) (okW xs s s false) from fun q => by
      obtain ⟨S, hS⟩ := yes
      refine q (fun k => S (k / s) (k % s)) (fun i hi => ⟨?_, ?_⟩)
      · have := hS.1 (i / s) (i % s) (by rw [h.eH]; exact Nat.div_lt_of_lt_mul hi) (by rw [h.eW]; exact Nat.mod_lt _ (by omega))
        exact ((h.em _ _ _ (Nat.div_lt_of_lt_mul hi) (Nat.mod_lt _ (by omega))).1 this).1
      · have hc : ∀ i, i < s * s → S (i / s) (i % s) < n := fun i hi => by
          have := hS.1 (i / s) (i % s) (by rw [h.eH]; exact Nat.div_lt_of_lt_mul hi) (by rw [h.eW]; exact Nat.mod_lt _ (by omega))
          exact ((h.em _ _ _ (Nat.div_lt_of_lt_mul hi) (Nat.mod_lt _ (by omega))).1 this).1
        refine (fit_iff h s1 s1 (c := fun k => S (k / s) (k % s)) hc).1 ?_ i hi
        intro r q hr hq
        have s0' : 0 < s := by omega
        have hq' : q < s := by rw [h.eW] at hq; exact hq
        have hr' : r < s := by rw [h.eH] at hr; exact hr
        have dv : ∀ y x, x < s → (y * s + x) / s = y ∧ (y * s + x) % s = x := fun y x hx => ⟨by rw [Nat.mul_comm, Nat.mul_add_div s0', Nat.div_eq_of_lt hx, Nat.add_zero], by rw [Nat.mul_comm, Nat.mul_add_mod, Nat.mod_eq_of_lt hx]⟩
        have f := hS.2 r q hr hq
        rw [h.eW, h.eH] at f ⊢
        have l1 : (q + 1) % s < s := Nat.mod_lt _ s0'
        simp only [(dv r q hq').1, (dv r q hq').2, (dv r _ l1).1, (dv r _ l1).2, (dv ((r + 1) % s) q hq').1, (dv ((r + 1) % s) q hq').2]
        exact f)
    have FT := hide' (fun (v h : Nat) (d : Nat → Nat) (oa : Option Addr) (N oc : Nat) (w' : World) (hN : v * h = N) (h1 : DecT xs n most v h) (h2 : FirstW n (v * h) (okW xs v h true) d) (h3 : ArgP w' ((List.range N).map fun i => ((d i : Nat) : Int)) oa N oc) (h4 : Below w.heap.size w w') => show WdA xs n (most : Int) w (.returned (.tuple #[.agg #[.bool true, .int .i64 ((v : Nat) : Int), .int .i64 ((h : Nat) : Int), .slice oa N oc], .nilIface])) w' from Or.inr (Or.inr (Or.inr ⟨S0.out, v, h, d, by rw [Int.toNat_natCast]; exact h1, h2, oa, N, oc, rfl, by rw [hN]; exact hide' h3, hide' h4⟩)))
    have FS := hide' (fun (s : Nat) (w' : World) (h1 : DecS xs n most s) (h4 : Below w.heap.size w w') => show WdA xs n (most : Int) w (.returned (.tuple #[.agg #[.bool false, .int .i64 ((s : Nat) : Int), .int .i64 ((s : Nat) : Int), .slice none 0 0], .nilIface])) w' from Or.inr (Or.inr (Or.inl ⟨S0.out, s, by rw [Int.toNat_natCast]; exact h1, none, 0, 0, rfl, hide' (nilW _), hide' h4⟩)))
    have FLO := hide' (fun (w' : World) (h1 : DecL xs n most) (h4 : Below w.heap.size w w') => show WdA xs n (most : Int) w (.returned (.tuple #[.agg #[.bool false, .int .i64 0, .int .i64 0, .slice none 0 0], .iface 49 (.int .i64 6)])) w' from Or.inr (Or.inl ⟨S0.out, by rw [Int.toNat_natCast]; exact h1, none, 0, 0, rfl, hide' (nilW _), hide' h4⟩))
    clear hA hT s0 t0 n16 nl n1 emm
    have zv := zero_boardW
    obtain ⟨Z, hZ⟩ : ∃ Z, arV 92 (bdV zeB) = Z := ⟨_, rfl⟩
    rw [hZ] at zv
    have ZS : Z.size = 92 := by rw [← hZ, arV_size]
    have zn' : ¬ Z = #[] := fun e => by rw [e] at ZS; simp at ZS
    clear hZ
    go_enter Tryd.func17, Tryd.ntmps17
    go_upto_region 1 with fail
    try rw [HW1.out]
    go_wp2_with fail
    refine SC.out.mono ?_
    rintro o w2 ⟨rfl, b2⟩
    have Z2 := hide' (Z1.out.keep b2)
    clear b2 Z1 HW1
    go_wp2
    go_loopw [7, 8, 9, 10] (fun sv _ _ _ wr => ∃ s : Nat, sv = .int .i64 (s : Int) ∧ 1 ≤ s ∧ s ≤ most + 1 ∧ Hid (∀ r, 1 ≤ r → r < s → LevW xs n r) ∧ Hid (ZdS w wr)) (fun sv _ _ _ _ => most + 1 - (intOf sv).toNat)
    case atStart => exact ⟨1, rfl, by omega, by omega, hide' (fun r a b => by omega), Z2⟩
    case round =>
      clear Z2
      obtain ⟨s, rfl, s1, sm, LV, DW⟩ := hrel
      by_cases e : (s : Int) ≤ (most : Int)
      · have TC := hide' (TO.out s wr DW.out.1 (by omega) (by omega))
        go_wp2_with fail
        refine TC.out.mono ?_
        rintro o w3 (⟨v, h, d, oa, oc, h1, hs, v1', vs, q, PV, YES, rfl, HP, LO, b3⟩ | ⟨NO, rfl, b3⟩)
        · -- a ring
          have D3 := hide' (DW.out.keep b3.out)
          have DT := hide' (show DecT xs n most v h from ⟨s, s1, by omega, LV.out, h1, hs, v1', vs, q, PV, YES.none⟩)
          have YH := hide' YES
          obtain ⟨N, hN⟩ : ∃ N, v * h = N := ⟨_, rfl⟩
          have HN := hide' hN
          rw [hN] at HP
          rw [hN]
          have lw := lt_blockT DW.out.2
          clear PV YES h1 hs v1' vs q hN
          have gz := heap_alloc_new w3 (.cells #[.bool false, .int .i64 0, .int .i64 0, .slice none 0 0] 40)
          obtain ⟨O, hO⟩ : ∃ O, (#[.bool true, .int .i64 ((v : Nat) : Int), .int .i64 ((h : Nat) : Int), .slice oa N oc] : Array Value) = O := ⟨_, rfl⟩
          have os : O.size = 4 := by rw [← hO]; rfl
          have ol : O.all (·.oneCell') = true := by rw [← hO]; simp [Value.oneCell']
          obtain ⟨w4, hw4⟩ : ∃ w4, (w3.alloc (.cells #[.bool false, .int .i64 0, .int .i64 0, .slice none 0 0] 40)).setRow w3.heap.size O = w4 := ⟨_, rfl⟩
          have K4 := (show Below w3.heap.size w3 w4 by rw [← hw4]; exact belowW_set ((Below.refl _ _).alloc (Nat.le_refl _) _) (Nat.le_refl _) _)
          have D4 := hide' (D3.out.keep K4)
          have HP4 := hide' (HP.out.below K4)
          have G4 : w4.heap[w3.heap.size]? = some (.cells #[.bool true, .int .i64 ((v : Nat) : Int), .int .i64 ((h : Nat) : Int), .slice oa N oc] 40 (0, 0)) := by rw [← hw4, hO]; exact setRow_heap _ _ _ _ _ _ gz
          have y0 : w4.cell? ⟨w3.heap.size, 0, none⟩ = some (.bool true) := by rw [cell_of_row w4 _ _ _ _ _ G4]; rfl
          have y1 : w4.cell? ⟨w3.heap.size, 1, none⟩ = some (.int .i64 ((v : Nat) : Int)) := by rw [cell_of_row w4 _ _ _ _ _ G4]; rfl
          have y2 : w4.cell? ⟨w3.heap.size, 2, none⟩ = some (.int .i64 ((h : Nat) : Int)) := by rw [cell_of_row w4 _ _ _ _ _ G4]; rfl
          have y3 : w4.cell? ⟨w3.heap.size, 3, none⟩ = some (.slice oa N oc) := by rw [cell_of_row w4 _ _ _ _ _ G4]; rfl
          have gb := D4.out.2
          have FIN := hide' (show WdA xs n (most : Int) w (.returned (.tuple #[.agg O, .nilIface])) (w4.setRow w.heap.size O) from by
            rw [← hO]
            exact FT.out v h d oa N oc _ HN.out DT.out YH.out (argP_row HP4.out (fun p off e => by have := LO.out p off e; omega)) (belowW_set D4.out.1 (by omega) _))
          have HW4 := hide' hw4
          clear K4 G4 LO HP hw4
          go_upto_region 8 with (refine wpList_store_row rfl 40 _ _ rfl w3.heap.size O rfl (by first | rfl | (rw [← hO]; rfl)) 40 _ gz (by rw [os]; kernel_rfl) (by rw [os]; rfl) ol ?_)
          rw [HW4.out]
          clear gz
          go_wp2_with (first
            | (refine wpList_store_row rfl 40 _ _ rfl w.heap.size O rfl (by first | rfl | (rw [← hO]; rfl)) 40 _ gb (by rw [os]; kernel_rfl) (by rw [os]; rfl) ol ?_))
          refine bodyPost_ret (v := .tuple #[.agg O, .nilIface]) (results_rowW Tryd.results17 _ _ w.heap.size 40 _ (0, 0) _ rfl (setRow_heap _ _ _ _ _ _ gb) Tryd.underlying40 rfl (by rw [os]; kernel_rfl)) rfl ?_
          exact FIN.out
        · have D3 := hide' (DW.out.keep b3.out)
          have NOH := hide' NO
          clear NO
          have gz := heap_alloc_new w3 (.cells #[.bool false, .int .i64 0, .int .i64 0, .slice none 0 0] 40)
          obtain ⟨w4, hw4⟩ : ∃ w4, (w3.alloc (.cells #[.bool false, .int .i64 0, .int .i64 0, .slice none 0 0] 40)).setRow w3.heap.size #[.bool false, .int .i64 0, .int .i64 0, .slice none 0 0] = w4 := ⟨_, rfl⟩
          have D4 := hide' (D3.out.keep (V := w4) (by rw [← hw4]; exact belowW_set ((Below.refl _ _).alloc (Nat.le_refl _) _) (Nat.le_refl _) _))
          have LY := hide' (LC.out s w4 D4.out.1 (by omega) (by omega))
          have HW4 := hide' hw4
          clear hw4
          go_upto_region 8 with (refine wpList_store_row rfl 40 _ _ rfl w3.heap.size #[.bool false, .int .i64 0, .int .i64 0, .slice none 0 0] rfl rfl 40 _ gz (by kernel_rfl) rfl (by simp [Value.oneCell']) ?_)
          rw [HW4.out]
          clear gz D3 HW4
          go_wp2_with fail
          refine LY.out.mono ?_
          rintro o w5 ⟨B, hLB, hBO, rfl, b5⟩
          obtain ⟨A, hA⟩ : ∃ A, arV 92 (bdV B) = A := ⟨_, rfl⟩
          have os : A.size = 92 := by rw [← hA, arV_size]
          have ol : A.all (·.oneCell') = true := by rw [← hA]; exact arV_all (fun k _ => bdV_one _ k)
          rw [hA]
          have G0 := heap_alloc_new w5 (.cells Z 58)
          have LB := hide' hLB
          have BO := hide' hBO
          have B5 := hide' b5
          clear b5 hLB hBO LY
          go_upto_region 11 with (refine wpList_store_row rfl 58 _ _ rfl w5.heap.size A rfl rfl 58 Z G0 (by rw [os]; exact size_boardW) (by rw [os]; exact ZS) ol ?_)
          obtain ⟨g, hg⟩ : ∃ g, w5.heap.size = g := ⟨_, rfl⟩
          rw [hg] at G0
          obtain ⟨w6, hw6⟩ : ∃ w6, (w5.alloc (.cells Z 58)).setRow g A = w6 := ⟨_, rfl⟩
          have E6 := hide' (show BrdA w6 g B by unfold BrdA; rw [← hw6, setRow_heap _ _ _ _ _ _ G0, hA])
          have D6 := hide' (D4.out.keep (V := w6) (by rw [← hw6]; exact belowW_set (B5.out.alloc B5.out.size _) (by have := B5.out.size; omega) _))
          have OC := hide' (OPC.out B g w6 D6.out.1 E6.out BO.out)
          rw [hg, hw6]
          clear hw6 hg G0 ol os hA
          go_wp2_with fail
          refine OC.out.mono ?_
          rintro o w7 ⟨⟨z, rfl, hz⟩, b7⟩
          have D7 := hide' (D6.out.keep b7)
          clear b7
          cases z with
          | true =>
            have LS := hide' (show ∀ r, 1 ≤ r → r < s + 1 → LevW xs n r from fun r a b => by
              by_cases t : r = s
              · rw [t]; exact ⟨NOH.out, YOO.out s B LB.out s1 (hz.1 rfl)⟩
              · exact LV.out r a (by omega))
            clear hz
            go_wp2
            exact ⟨⟨s + 1, by go_num, by omega, by omega, LS, D7⟩, by simp [intOf]; omega⟩
          | false =>
            have DS := hide' (show DecS xs n most s from ⟨s1, by omega, LV.out, NOH.out, NOO.out s B LB.out s1 (fun h => by have := hz.2 h; cases this)⟩)
            clear hz
            have gb := D7.out.2
            obtain ⟨O, hO⟩ : ∃ O, (#[.bool false, .int .i64 ((s : Nat) : Int), .int .i64 ((s : Nat) : Int), .slice none 0 0] : Array Value) = O := ⟨_, rfl⟩
            have os : O.size = 4 := by rw [← hO]; rfl
            have ol : O.all (·.oneCell') = true := by rw [← hO]; simp [Value.oneCell']
            have FIN := hide' (show WdA xs n (most : Int) w (.returned (.tuple #[.agg O, .nilIface])) (w7.setRow w.heap.size O) from by
              rw [← hO]
              exact FS.out s _ DS.out (belowW_set D7.out.1 (by omega) _))
            go_wp2_with (first
              | (refine wpList_store_row rfl 40 _ _ rfl w.heap.size O rfl (by first | rfl | (rw [← hO]; rfl)) 40 _ gb (by rw [os]; kernel_rfl) (by rw [os]; rfl) ol ?_))
            refine bodyPost_ret (v := .tuple #[.agg O, .nilIface]) (results_rowW Tryd.results17 _ _ w.heap.size 40 _ (0, 0) _ rfl (setRow_heap _ _ _ _ _ _ gb) Tryd.underlying40 rfl (by rw [os]; kernel_rfl)) rfl ?_
            exact FIN.out
      · have DL := hide' (show DecL xs n most from fun r a b => LV.out r a (by omega))
        have gb := DW.out.2
        obtain ⟨O, hO⟩ : ∃ O, (#[.bool false, .int .i64 0, .int .i64 0, .slice none 0 0] : Array Value) = O := ⟨_, rfl⟩
        have os : O.size = 4 := by rw [← hO]; rfl
        have ol : O.all (·.oneCell') = true := by rw [← hO]; simp [Value.oneCell']
        have FIN := hide' (show WdA xs n (most : Int) w (.returned (.tuple #[.agg O, .iface 49 (.int .i64 6)])) (wr.setRow w.heap.size O) from by
          rw [← hO]
          exact FLO.out _ DL.out (belowW_set DW.out.1 (by omega) _))
        go_wp2_with (first
          | (refine wpList_store_row rfl 40 _ _ rfl w.heap.size O rfl (by first | rfl | (rw [← hO]; rfl)) 40 _ gb (by rw [os]; kernel_rfl) (by rw [os]; rfl) ol ?_))
        refine bodyPost_ret (v := .tuple #[.agg O, .iface 49 (.int .i64 6)]) (results_rowW Tryd.results17 _ _ w.heap.size 40 _ (0, 0) _ rfl (setRow_heap _ _ _ _ _ _ gb) Tryd.underlying40 rfl (by rw [os]; kernel_rfl)) rfl ?_
        exact FIN.out
  · have EE := hide' (fun (w' : World) (hb : Below w.heap.size w w') => show WdA xs n M w (.returned (.tuple #[.agg #[.bool false, .int .i64 0, .int .i64 0, .slice none 0 0], errOf (sdF xs M M)])) w' from Or.inl ⟨s0, none, 0, 0, rfl, hide' (nilW _), hide' hb⟩)
    obtain ⟨f, hf⟩ : ∃ f, sdF xs M M = f := ⟨_, rfl⟩
    rw [hf] at SC EE s0
    have ef : errOf f = .iface 49 (.int .i64 (f : Int)) := by unfold errOf; rw [if_neg s0]
    rw [ef] at SC EE
    clear hA hT hf s0 ef
    go_enter Tryd.func17, Tryd.ntmps17
    go_upto_region 1 with fail
    try rw [HW1.out]
    go_wp2_with fail
    refine SC.out.mono ?_
    rintro o w2 ⟨rfl, b2⟩
    have Z2 := hide' (Z1.out.keep b2)
    have gb := Z2.out.2
    obtain ⟨O, hO⟩ : ∃ O, (#[.bool false, .int .i64 0, .int .i64 0, .slice none 0 0] : Array Value) = O := ⟨_, rfl⟩
    have os : O.size = 4 := by rw [← hO]; rfl
    have ol : O.all (·.oneCell') = true := by rw [← hO]; simp [Value.oneCell']
    have FIN := hide' (show WdA xs n M w (.returned (.tuple #[.agg O, .iface 49 (.int .i64 (f : Int))])) (w2.setRow w.heap.size O) from by
      rw [← hO]
      exact EE.out _ (belowW_set Z2.out.1 (by omega) _))
    clear b2
    go_wp2_with (first
      | (refine wpList_store_row rfl 40 _ _ rfl w.heap.size O rfl (by first | rfl | (rw [← hO]; rfl)) 40 _ gb (by rw [os]; kernel_rfl) (by rw [os]; rfl) ol ?_))
    refine bodyPost_ret (v := .tuple #[.agg O, .iface 49 (.int .i64 (f : Int))]) (results_rowW Tryd.results17 _ _ w.heap.size 40 _ (0, 0) _ rfl (setRow_heap _ _ _ _ _ _ gb) Tryd.underlying40 rfl (by rw [os]; kernel_rfl)) rfl ?_
    exact FIN.out
end Go.Proofs.YthmeapplnocfjaaDoor

namespace Go.Proofs.YthmeapplnocfjaaDoor
set_option linter.unusedVariables false
theorem mod_at {v a b : Nat} (hv : 0 < v) (ha : a < v) : (b * v + a) % v = a := by rw [Nat.mul_comm, Nat.mul_add_mod]; exact Nat.mod_eq_of_lt ha
theorem div_at {v a b : Nat} (hv : 0 < v) (ha : a < v) : (b * v + a) / v = b := by rw [Nat.mul_comm, Nat.mul_add_div hv, Nat.div_eq_of_lt ha, Nat.add_zero]
theorem place_lt {v h a b : Nat} (ha : a < v) (hb : b < h) : b * v + a < v * h := by
  have : (b + 1) * v ≤ h * v := Nat.mul_le_mul_right _ (by omega)
  rw [Nat.succ_mul] at this
  rw [Nat.mul_comm v h]
  omega
/-- On a ring each has its neighbour to the right, and below. -/
theorem ring_right {xs : List TlT} {n v h : Nat} {c : Nat → Nat} (hv : 0 < v) (H : SolW n (v * h) (okW xs v h true) c) {a b : Nat} (ha : a < v) (hb : b < h) : (xs.getD (c (b * v + a)) tlz).r = (xs.getD (c (b * v + (a + 1) % v)) tlz).l := by
  by_cases q : a + 1 < v
  · have := (H (b * v + (a + 1)) (place_lt q hb)).2.1
    rw [mod_at hv q] at this
    rw [Nat.mod_eq_of_lt q]
    have e := this (by omega)
    rw [show b * v + (a + 1) - 1 = b * v + a by omega] at e
    exact e
  · have := (H (b * v + a) (place_lt ha hb)).2.2.2.1 rfl
    rw [mod_at hv ha] at this
    have e := this (by omega)
    rw [show (a + 1) % v = 0 by rw [show a + 1 = v by omega]; exact Nat.mod_self _, Nat.add_zero]
    rw [show b * v + a - a = b * v by omega] at e
    exact e
theorem ring_down {xs : List TlT} {n v h : Nat} {c : Nat → Nat} (hv : 0 < v) (H : SolW n (v * h) (okW xs v h true) c) {a b : Nat} (ha : a < v) (hb : b < h) : (xs.getD (c (b * v + a)) tlz).d = (xs.getD (c ((b + 1) % h * v + a)) tlz).u := by
  by_cases q : b + 1 < h
  · have := (H ((b + 1) * v + a) (place_lt ha q)).2.2.1
    rw [div_at hv ha] at this
    rw [Nat.mod_eq_of_lt q]
    have e := this (by omega)
    rw [show (b + 1) * v + a - v = b * v + a by rw [Nat.succ_mul]; omega] at e
    exact e
  · have := (H (b * v + a) (place_lt ha hb)).2.2.2.2 rfl
    rw [div_at hv ha, mod_at hv ha] at this
    have e := this (by omega)
    rw [show (b + 1) % h = 0 by rw [show b + 1 = h by omega]; exact Nat.mod_self _, Nat.zero_mul, Nat.zero_add]
    exact e
/-- Any window of the plane. -/
def winW (c : Nat → Nat) (v h W rt dn : Nat) : Nat → Nat := fun k => c ((dn + k / W) % h * v + (rt + k % W) % v)
theorem step_mod {x v : Nat} (hv : 0 < v) : (x % v + 1) % v = (x + 1) % v := by rw [Nat.add_mod, Nat.mod_mod, ← Nat.add_mod]
theorem win_fits {xs : List TlT} {n v h W rt dn : Nat} {c : Nat → Nat} (hv : 0 < v) (hh : 0 < h) (hW : 0 < W) (H : SolW n (v * h) (okW xs v h true) c) (N : Nat) (K : Nat) : SolW n N (okW xs W K false) (winW c v h W rt dn) := fun k hk => by
  have av := fun x : Nat => Nat.mod_lt x hv
  have bh := fun x : Nat => Nat.mod_lt x hh
  refine ⟨(H _ (place_lt (av _) (bh _))).1, fun hx => ?_, fun hy => ?_, fun hr => (by cases hr), fun hr => (by cases hr)⟩
  · unfold winW
    have e1 : (k - 1) / W = k / W := by
      have d1 := Nat.div_add_mod k W
      have l1 := Nat.mod_lt k hW
      rw [show k - 1 = k / W * W + (k % W - 1) by rw [Nat.mul_comm]; omega]
      exact div_at hW (by omega)
    have e2 : (k - 1) % W = k % W - 1 := by
      have d1 := Nat.div_add_mod k W
      have l1 := Nat.mod_lt k hW
      have : k - 1 = k / W * W + (k % W - 1) := by rw [Nat.mul_comm]; omega
      rw [this]
      exact mod_at hW (by omega)
    rw [e1, e2, ring_right hv H (av _) (bh _), step_mod hv, show rt + (k % W - 1) + 1 = rt + k % W by omega]
  · unfold winW
    have kW : W ≤ k := by
      rcases Nat.lt_or_ge k W with q | q
      · rw [Nat.div_eq_of_lt q] at hy; omega
      · exact q
    have e1 : (k - W) / W = k / W - 1 := by
      have d1 := Nat.div_add_mod k W
      have l1 := Nat.mod_lt k hW
      obtain ⟨y, hy'⟩ : ∃ y, k / W = y + 1 := ⟨k / W - 1, by omega⟩
      have : k - W = y * W + k % W := by rw [hy', Nat.mul_comm, Nat.succ_mul] at d1; omega
      rw [this, div_at hW l1]
      omega
    have e2 : (k - W) % W = k % W := by
      have d1 := Nat.div_add_mod k W
      have l1 := Nat.mod_lt k hW
      obtain ⟨y, hy'⟩ : ∃ y, k / W = y + 1 := ⟨k / W - 1, by omega⟩
      have : k - W = y * W + k % W := by rw [hy', Nat.mul_comm, Nat.succ_mul] at d1; omega
      rw [this, mod_at hW l1]
    rw [e1, e2, ring_down hv H (av _) (bh _), step_mod hh, show dn + (k / W - 1) + 1 = dn + k / W by omega]
end Go.Proofs.YthmeapplnocfjaaDoor

