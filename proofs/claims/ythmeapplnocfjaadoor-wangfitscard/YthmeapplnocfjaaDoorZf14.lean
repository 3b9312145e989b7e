/-
  What the last text of this claim leans on, part 14: Ws7, Ws8.
-/
import Derived.Test.YthmeapplnocfjaaDoorZf13
namespace Go.Proofs.YthmeapplnocfjaaDoor
open Go.RowKit
set_option linter.unusedVariables false
set_option linter.unusedSimpArgs false
/-- What comes of a tile. -/
def exF (b : BdW) (r col j c : Nat) (lf : Int) (l : LkW) (k : Nat) : List LkW := if (b.may r c).testBit k = true ∧ (inW b r c k).l = lf then exW b r col j (c + 1) (inW b r c k).r (l.put c (inW b r c k).u.toNat (inW b r c k).d.toNat) else []
theorem ex_is (b : BdW) (r col j c : Nat) (lf : Int) (l : LkW) : exW b r col (j + 1) c lf l = flT (exF b r col j c lf l) 16 := by rw [exW]; rfl
theorem wrap_u8W {x : Nat} (h : x < 8) : IntKind.u8.wrap (x : Int) = (x : Int) := by
  simp [IntKind.wrap, IntKind.signed, IntKind.bits]
  omega
set_option maxRecDepth 100000 in
set_option maxHeartbeats 25600000 in
theorem ext_loop (b : BdW) (g r col eg : Nat) (f : Nat → Int) (B : Nat) (j c lf : Nat) (l : LkW) (ls : List LkW) (oa0 : Option Addr) (oc0 : Nat) (V : World) (hb : BokW b) (hr : r < b.H) (hj : c + (j + 1) = b.W) (h8 : lf < 8) (hl : LenL l) (hA : ExtA b g r col eg f B V) (ho : V.ownsRow B 104 10 (.slice oa0 ls.length oc0) ls.length (flK ls)) (hz : f (c * 8 + lf) ≠ 0) (hn : ls.length + enW b r col (j + 1) c (lf : Int) ≤ 16777216) (ih : ExtC b g r col eg f B j) :
    Calls Tryd.prog 43 #[.pointer (some ⟨g, 0, none⟩), .int .i64 (r : Int), .int .i64 (c : Int), .int .i64 (lf : Int), .agg (lkV l).toArray, .pointer (some ⟨eg, 0, none⟩), .slice oa0 ls.length oc0] V (ExO V B (.slice oa0 ls.length oc0) ls (exW b r col (j + 1) c (lf : Int) l)) := by
  have W5 := hb.w5
  have H5 := hb.h5
  have cW : c < b.W := by omega
  have M16 := hb.may r c
  have XS := hide' (ex_is b r col j c (lf : Int) l)
  have XL := hide' (show ∀ n, n ≤ 16 → ls.length + (flT (exF b r col j c (lf : Int) l) n).length ≤ 16777216 from fun n h => by
    have := flT_mono (exF b r col j c (lf : Int) l) h
    rw [← ex_len b r col (j + 1) c (lf : Int) l, ex_is] at hn
    omega)
  have FK := hide' (fun k => show exF b r col j c (lf : Int) l k = if (b.may r c).testBit k = true ∧ (inW b r c k).l = (lf : Int) then exW b r col j (c + 1) (inW b r c k).r (l.put c (inW b r c k).u.toNat (inW b r c k).d.toNat) else [] from rfl)
  have CL := hide' (fun k => show (exF b r col j c (lf : Int) l k).length = if (b.may r c).testBit k = true ∧ (inW b r c k).l = (lf : Int) then enW b r col j (c + 1) (inW b r c k).r else 0 from by unfold exF; split; exact ex_len _ _ _ _ _ _ _; rfl)
  have COL := hide' (fun (k : Nat) => col_in hb.col r c k)
  obtain ⟨F, hF⟩ : ∃ F, exF b r col j c (lf : Int) l = F := ⟨_, rfl⟩
  rw [hF] at XS XL FK CL
  obtain ⟨X, hX⟩ : ∃ X, exW b r col (j + 1) c (lf : Int) l = X := ⟨_, rfl⟩
  rw [hX] at XS ⊢
  obtain ⟨w1, hw1⟩ : ∃ w1, V.alloc (.cells (lkV l).toArray 104) = w1 := ⟨_, rfl⟩
  have B1 := (show Below V.heap.size V w1 by rw [← hw1]; exact (Below.refl _ _).alloc (Nat.le_refl _) _)
  have S1 := hide' (show ExS V w1 B (.slice oa0 ls.length oc0) (.slice oa0 ls.length oc0) ls l from ⟨own_alloc ho B1, (GrW.of_below (.slice oa0 ls.length oc0) B1).gr, Or.inl rfl, fun p hp => (ho.lt p hp).2, by unfold LkB; rw [← hw1]; exact heap_alloc_new _ _⟩)
  have EX := hide' (fun (W : World) (v : Value) (k : GrW V W (.slice oa0 ls.length oc0) v) => hA.grow ho k)
  have INC := hide' (fun (k : Nat) (W : World) (h : ExtA b g r col eg f B W) (hk : k < 16) => in_any b g r c k W h.brd hb (by omega) (by omega) hk)
  have IH := hide' (fun (rn : Nat) (l2 : LkW) (us : List LkW) (oa : Option Addr) (oc : Nat) (W : World) (h1 : rn < 8) (h2 : LenL l2) (h3 : ExtA b g r col eg f B W) h4 h5 => ih (c + 1) rn l2 us oa oc W (by omega) h1 h2 h3 h4 h5)
  have LL := hide' hl
  have ce := (hA.en.below B1).cell (i := c * 8 + lf) (by omega)
  have cw := (hA.brd.below B1).wide
  have cm := (hA.brd.below B1).may (r := r) (c := c) (by omega) (by omega)
  have el := lt_blockT hA.en
  have gl := lt_blockT hA.brd
  obtain ⟨z, hz'⟩ : ∃ z, f (c * 8 + lf) = z := ⟨_, rfl⟩
  rw [hz'] at ce hz
  have zb : (z == 0) = false := by simp [hz]
  have HW := hide' hw1
  obtain ⟨n0, hn0⟩ : ∃ n0, ls.length = n0 := ⟨_, rfl⟩
  have HN0 := hide' hn0
  have c0 : (0 : Int) ≤ (c : Int) := by omega
  have c5 : (c : Int) < 5 := by omega
  have c6 : (c : Int) < 6 := by omega
  have r0 : (0 : Int) ≤ (r : Int) := by omega
  have r5 : (r : Int) < 5 := by omega
  have l0 : (0 : Int) ≤ (lf : Int) := by omega
  have l8 : (lf : Int) < 8 := by omega
  have cb : ((c : Int) == (b.W : Int)) = false := by simp; omega
  have cn : ¬ (c : Int) = (b.W : Int) := by omega
  have RS := hide' (RsW.start M16)
  obtain ⟨M, hM⟩ : ∃ M, b.may r c = M := ⟨_, rfl⟩
  rw [hM] at RS M16 FK CL cm
  rw [hn0]
  rw [hn0] at S1 EX XL
  clear hw1 hA ho hz' hb ih hl hF hX hM hn hn0 B1 hz
  go_enter Tryd.func43, Tryd.ntmps43
  go_upto_region 1 with fail
  try rw [HW.out]
  go_wp2
  clear ce cw cm
  go_loopw [6, 15, 16] (fun ov rv _ wr => ∃ (n rest : Nat) (oa : Option Addr) (oc : Nat) (us : List LkW) (l' : LkW), ov = .slice oa us.length oc ∧ rv = .int .u64 (rest : Int) ∧ Hid (us = ls ++ flT F n) ∧ Hid (RsW M n rest) ∧ Hid (ExS V wr B (.slice oa0 n0 oc0) (.slice oa us.length oc) us l') ∧ Hid (LenL l') ∧ Hid (∀ x y, l'.put c x y = l.put c x y)) (fun _ rv _ _ => (intOf rv).toNat)
  case atStart => exact ⟨0, M, oa0, oc0, ls, l, by rw [HN0.out], rfl, hide' (by rw [flT, List.append_nil]), RS, by rw [HN0.out]; exact S1, LL, hide' (fun _ _ => rfl)⟩
  case round =>
    clear RS S1
    obtain ⟨n, rest, oa, oc, us, l', rfl, rfl, US, RS, ES, L5, PP⟩ := hrel
    have rl := RS.out.2.1
    rcases Nat.eq_zero_or_pos rest with z | z
    · subst z
      have UX := hide' (show us = ls ++ X by rw [US.out, XS.out, flT_skip RS.out.1 (fun i a _ => by rw [FK.out, if_neg]; rw [RS.out.fin i a]; simp)])
      obtain ⟨m, hm⟩ : ∃ m, us.length = m := ⟨_, rfl⟩
      rw [hm] at ES
      rw [hm]
      have HM := hide' hm
      clear hm
      go_wp2
      go_ret
      have e1 : ls.length + X.length = m := by rw [← HM.out, UX.out, List.length_append]
      exact ⟨oa, oc, by rw [e1]; rfl, hide' (by rw [e1, ← UX.out, ← HM.out]; have := ES.out.own; rwa [← HM.out] at this), hide' (by rw [e1]; exact ES.out.out)⟩
    · have q1 : ((rest : Int) != 0) = true := by simp; omega
      obtain ⟨t1, t2⟩ := ctz_low z (by omega)
      have EA := hide' (EX.out wr _ ES.out.out)
      have TZC := hide' (tz_any rest wr z (by omega) EA.out.tz)
      obtain ⟨k, hk⟩ : ∃ k, Lib.ctz 64 rest = k := ⟨_, rfl⟩
      rw [hk] at t1 t2 TZC
      obtain ⟨nk, k16, mk, mz, RN⟩ := RS.out.step t1 t2
      have RN := hide' RN
      have IC := hide' (INC.out k wr EA.out k16)
      have CO := COL.out k
      have FKk := hide' (FK.out k)
      have CLk := hide' (CL.out k)
      have XLk := hide' (XL.out (k + 1) (by omega))
      have SK := hide' (show flT F (k + 1) = flT F n ++ F k by rw [flT, flT_skip nk (fun i a b' => by rw [FK.out, if_neg]; rw [mz i a b']; simp)])
      obtain ⟨q, hq⟩ : ∃ q, inW b r c k = q := ⟨_, rfl⟩
      rw [hq] at IC CO FKk CLk
      clear hq
      obtain ⟨qu, qr, qd, ql⟩ := q
      simp only at IC CO FKk CLk
      obtain ⟨un, rfl⟩ : ∃ v : Nat, qu = (v : Int) := ⟨qu.toNat, by omega⟩
      obtain ⟨rn, rfl⟩ : ∃ v : Nat, qr = (v : Int) := ⟨qr.toNat, by omega⟩
      obtain ⟨dn, rfl⟩ : ∃ v : Nat, qd = (v : Int) := ⟨qd.toNat, by omega⟩
      obtain ⟨ln, rfl⟩ : ∃ v : Nat, ql = (v : Int) := ⟨ql.toNat, by omega⟩
      have u8 : un < 8 := by omega
      have rn8 : rn < 8 := by omega
      have d8 : dn < 8 := by omega
      have ln8 : ln < 8 := by omega
      rw [mk] at FKk CLk
      simp only [Int.toNat_natCast, true_and] at FKk CLk
      have a1 : bits .and .u64 (rest : Int) ((rest : Int) - 1) = ((rest &&& (rest - 1) : Nat) : Int) := and_u64W z rl
      have dl : rest &&& (rest - 1) < rest := and_pred_lt z
      clear CO t1 t2 mk mz hk RS
      go_wp2_with fail
      refine TZC.out.mono ?_
      rintro e w' ⟨rfl, rfl⟩
      go_wp2_with fail
      refine IC.out.mono ?_
      rintro e w4 ⟨rfl, b4⟩
      have E4 := hide' (ES.out.keep b4)
      clear b4 ES EA
      obtain ⟨w5, hw5⟩ : ∃ w5, w4.alloc (.cells #[.int .i64 (un : Int), .int .i64 (rn : Int), .int .i64 (dn : Int), .int .i64 (ln : Int)] 47) = w5 := ⟨_, rfl⟩
      have E5 := hide' (E4.out.keep (V' := w5) (by rw [← hw5]; exact (Below.refl _ _).alloc (Nat.le_refl _) _))
      have G5 : w5.heap[w4.heap.size]? = some (.cells #[.int .i64 (un : Int), .int .i64 (rn : Int), .int .i64 (dn : Int), .int .i64 (ln : Int)] 47 (0, 0)) := by rw [← hw5]; exact heap_alloc_new _ _
      have lo := E4.out.less
      have bne : ¬ V.heap.size = w4.heap.size := by omega
      have bne' : ¬ w4.heap.size = V.heap.size := by omega
      have HLO := hide' lo
      clear lo
      have z0 : w5.cell? ⟨w4.heap.size, 0, none⟩ = some (.int .i64 (un : Int)) := by rw [cell_of_row w5 _ _ _ _ _ G5]; rfl
      have z1 : w5.cell? ⟨w4.heap.size, 1, none⟩ = some (.int .i64 (rn : Int)) := by rw [cell_of_row w5 _ _ _ _ _ G5]; rfl
      have z2 : w5.cell? ⟨w4.heap.size, 2, none⟩ = some (.int .i64 (dn : Int)) := by rw [cell_of_row w5 _ _ _ _ _ G5]; rfl
      have z3 : w5.cell? ⟨w4.heap.size, 3, none⟩ = some (.int .i64 (ln : Int)) := by rw [cell_of_row w5 _ _ _ _ _ G5]; rfl
      by_cases ql : ln = lf
      · subst ql
        rw [if_pos rfl] at FKk CLk
        have lb : ((ln : Int) == (ln : Int)) = true := by simp
        go_upto_region 10 with fail
        try rw [hw5]
        clear hw5
        have bx := E5.out.box
        unfold LkB at bx
        obtain ⟨v1, hv1⟩ : ∃ v, (lkV l').toArray[c]? = some v := ⟨_, Array.getElem?_eq_getElem (by simp [lkV]; omega)⟩
        obtain ⟨v2, hv2⟩ : ∃ v, (lkV l').toArray[5 + c]? = some v := ⟨_, Array.getElem?_eq_getElem (by simp [lkV]; omega)⟩
        have cz1 := (cell_of_row w5 _ c _ _ _ bx).trans hv1
        have cz2 := (cell_of_row w5 _ (5 + c) _ _ _ bx).trans hv2
        have fz1 := frozen_of_row w5 _ c _ _ bx
        have fz2 := frozen_of_row w5 _ (5 + c) _ _ bx
        have wu := wrap_u8W u8
        have wd := wrap_u8W d8
        obtain ⟨w6, hw6⟩ : ∃ w6, (w5.setCell ⟨V.heap.size, c, none⟩ (.int .u8 (un : Int))).setCell ⟨V.heap.size, 5 + c, none⟩ (.int .u8 (dn : Int)) = w6 := ⟨_, rfl⟩
        obtain ⟨l2, hl2⟩ : ∃ l2, l.put c un dn = l2 := ⟨_, rfl⟩
        have L6 : LkB w6 V.heap.size l2 := by
          unfold LkB
          rw [← hw6, heap_setCell_same _ _ _ _ _ _ (heap_setCell_same _ _ _ _ _ _ bx), lkV_put L5.out (by omega), PP.out, hl2]
        have E6 := hide' (show ExS V w6 B (.slice oa0 n0 oc0) (.slice oa us.length oc) us l2 from E5.out.put L6 (by rw [← hw6]; exact ⟨rfl, rfl, rfl, by simp⟩) (fun p hp => by rw [← hw6, heap_setCell_other _ _ _ _ hp, heap_setCell_other _ _ _ _ hp]))
        have HW6 := hide' hw6
        clear hv1 hv2 bx hw6
        go_region
        rw [HW6.out]
        obtain ⟨w7, hw7⟩ : ∃ w7, w6.drew = w7 := ⟨_, rfl⟩
        have E7 := hide' (E6.out.keep (V' := w7) (by rw [← hw7]; exact (Below.refl _ _).drew))
        have z1' : w7.cell? ⟨w4.heap.size, 1, none⟩ = some (.int .i64 (rn : Int)) := by
          rw [← hw7]
          show w6.cell? _ = _
          rw [← HW6.out]
          exact (World.cell?_of_block (w := w5) (a := ⟨w4.heap.size, 1, none⟩) (by rw [heap_setCell_other _ _ _ _ bne', heap_setCell_other _ _ _ _ bne'])).trans z1
        rw [hw7]
        have EA7 := hide' (EX.out w7 _ E7.out.out)
        have L7 := E7.out.box
        unfold LkB at L7
        have L52 : LenL l2 := by rw [← hl2]; exact LL.out.put c un dn
        have IHC := hide' (IH.out rn l2 us oa oc w7 rn8 L52 EA7.out E7.out.own (by
          have h1 := CLk.out
          have h2 := XLk.out
          rw [SK.out, List.length_append, h1] at h2
          have h3 := HN0.out
          rw [US.out, List.length_append, h3]
          omega))
        have P2 := hide' (show ∀ x y, l2.put c x y = l.put c x y from fun x y => by rw [← hl2, LkW.put_put])
        have FX := hide' (show F k = exW b r col j (c + 1) (rn : Int) l2 by rw [FKk.out, hl2])
        obtain ⟨a0, ha0⟩ : ∃ v, l2.u.getD 0 0 = v := ⟨_, rfl⟩
        obtain ⟨a1, ha1⟩ : ∃ v, l2.u.getD 1 0 = v := ⟨_, rfl⟩
        obtain ⟨a2, ha2⟩ : ∃ v, l2.u.getD 2 0 = v := ⟨_, rfl⟩
        obtain ⟨a3, ha3⟩ : ∃ v, l2.u.getD 3 0 = v := ⟨_, rfl⟩
        obtain ⟨a4, ha4⟩ : ∃ v, l2.u.getD 4 0 = v := ⟨_, rfl⟩
        obtain ⟨b0, hb0⟩ : ∃ v, l2.d.getD 0 0 = v := ⟨_, rfl⟩
        obtain ⟨b1, hb1⟩ : ∃ v, l2.d.getD 1 0 = v := ⟨_, rfl⟩
        obtain ⟨b2, hb2⟩ : ∃ v, l2.d.getD 2 0 = v := ⟨_, rfl⟩
        obtain ⟨b3, hb3⟩ : ∃ v, l2.d.getD 3 0 = v := ⟨_, rfl⟩
        obtain ⟨b4, hb4⟩ : ∃ v, l2.d.getD 4 0 = v := ⟨_, rfl⟩
        rw [show (lkV l2).toArray = #[.int .u8 (a0 : Int), .int .u8 (a1 : Int), .int .u8 (a2 : Int), .int .u8 (a3 : Int), .int .u8 (a4 : Int), .int .u8 (b0 : Int), .int .u8 (b1 : Int), .int .u8 (b2 : Int), .int .u8 (b3 : Int), .int .u8 (b4 : Int)] from by unfold lkV; rw [ha0, ha1, ha2, ha3, ha4, hb0, hb1, hb2, hb3, hb4]] at L7 IHC
        have y0 : w7.cell? ⟨V.heap.size, 0, none⟩ = some (.int .u8 (a0 : Int)) := by rw [cell_of_row w7 _ _ _ _ _ L7]; rfl
        have y1 : w7.cell? ⟨V.heap.size, 1, none⟩ = some (.int .u8 (a1 : Int)) := by rw [cell_of_row w7 _ _ _ _ _ L7]; rfl
        have y2 : w7.cell? ⟨V.heap.size, 2, none⟩ = some (.int .u8 (a2 : Int)) := by rw [cell_of_row w7 _ _ _ _ _ L7]; rfl
        have y3 : w7.cell? ⟨V.heap.size, 3, none⟩ = some (.int .u8 (a3 : Int)) := by rw [cell_of_row w7 _ _ _ _ _ L7]; rfl
        have y4 : w7.cell? ⟨V.heap.size, 4, none⟩ = some (.int .u8 (a4 : Int)) := by rw [cell_of_row w7 _ _ _ _ _ L7]; rfl
        have y5 : w7.cell? ⟨V.heap.size, 5, none⟩ = some (.int .u8 (b0 : Int)) := by rw [cell_of_row w7 _ _ _ _ _ L7]; rfl
        have y6 : w7.cell? ⟨V.heap.size, 6, none⟩ = some (.int .u8 (b1 : Int)) := by rw [cell_of_row w7 _ _ _ _ _ L7]; rfl
        have y7 : w7.cell? ⟨V.heap.size, 7, none⟩ = some (.int .u8 (b2 : Int)) := by rw [cell_of_row w7 _ _ _ _ _ L7]; rfl
        have y8 : w7.cell? ⟨V.heap.size, 8, none⟩ = some (.int .u8 (b3 : Int)) := by rw [cell_of_row w7 _ _ _ _ _ L7]; rfl
        have y9 : w7.cell? ⟨V.heap.size, 9, none⟩ = some (.int .u8 (b4 : Int)) := by rw [cell_of_row w7 _ _ _ _ _ L7]; rfl
        have H52 := hide' L52
        clear ha0 ha1 ha2 ha3 ha4 hb0 hb1 hb2 hb3 hb4 L7 L52 hl2 hw7 z0 z1 z2 z3 cz1 cz2 fz1 fz2 G5 L6
        obtain ⟨ci, hci⟩ : ∃ v, c + 1 = v := ⟨_, rfl⟩
        have ec : (c : Int) + 1 = (ci : Int) := by omega
        rw [hci] at IHC FX
        clear hci
        obtain ⟨m, hm⟩ : ∃ m, us.length = m := ⟨_, rfl⟩
        rw [hm] at IHC E7
        rw [hm]
        go_wp2_with fail
        refine IHC.out.mono ?_
        rintro e w8 ⟨oa8, oc8, rfl, own8, gr8⟩
        obtain ⟨u8', hu8⟩ : ∃ u8', us ++ exW b r col j ci (rn : Int) l2 = u8' := ⟨_, rfl⟩
        have NU := hide' (show u8' = ls ++ flT F (k + 1) by rw [SK.out, FX.out, ← hu8, US.out, List.append_assoc])
        have e8 : us.length + (exW b r col j ci (rn : Int) l2).length = u8'.length := by rw [← hu8, List.length_append]
        rw [e8] at own8 gr8
        rw [hu8] at own8
        rw [e8]
        have E8 := hide' (E7.out.grow gr8.out own8.out)
        clear own8 gr8 e8 hu8
        go_wp2
        exact ⟨⟨k + 1, rest &&& (rest - 1), oa8, oc8, u8', l2, rfl, rfl, NU, RN, E8, H52, P2⟩, by simp [intOf]; omega⟩
      · have nb : ((ln : Int) == (lf : Int)) = false := by simp; omega
        have nl : ¬ (ln : Int) = (lf : Int) := by omega
        rw [if_neg nl] at FKk
        have NU := hide' (show us = ls ++ flT F (k + 1) by rw [SK.out, FKk.out, List.append_nil, US.out])
        go_wp2
        try rw [hw5]
        exact ⟨⟨k + 1, rest &&& (rest - 1), oa, oc, us, l', rfl, rfl, NU, RN, E5, L5, PP⟩, by simp [intOf]; omega⟩
end Go.Proofs.YthmeapplnocfjaaDoor

namespace Go.Proofs.YthmeapplnocfjaaDoor
open Go.RowKit
set_option linter.unusedVariables false
set_option linter.unusedSimpArgs false
theorem ext_any (b : BdW) (g r col eg : Nat) (f : Nat → Int) (B : Nat) (hb : BokW b) (hr : r < b.H) (he : EnS b r col f 0) : ∀ j, ExtC b g r col eg f B j
  | 0 => fun c lf l ls oa oc V hj h8 hl hA ho hn => by
    obtain rfl : c = b.W := by omega
    have e := he.1 b.W lf (by omega) (Nat.le_refl _) h8
    rw [Nat.sub_self, enW] at e
    by_cases q : lf = col
    · rw [if_pos (by omega)] at e
      exact ext_end b g r col eg f B lf l ls oa oc V hb.w5 h8 hA ho e (by rw [exW, if_pos (by omega)]) (by rw [enW, if_pos (by omega)] at hn; omega)
    · rw [if_neg (by omega)] at e
      exact ext_nil b g r col eg f B 0 b.W lf l ls oa oc V (by have := hb.w5; omega) h8 hA ho e (by rw [exW, if_neg (by omega)])
  | j + 1 => fun c lf l ls oa oc V hj h8 hl hA ho hn => by
    have e := he.1 c lf (by omega) (by omega) h8
    rw [show b.W - c = j + 1 by omega] at e
    by_cases q : f (c * 8 + lf) = 0
    · rw [q] at e
      exact ext_nil b g r col eg f B (j + 1) c lf l ls oa oc V (by have := hb.w5; omega) h8 hA ho q (ex_nil l (by omega))
    · exact ext_loop b g r col eg f B j c lf l ls oa oc V hb hr hj h8 hl hA ho q hn (ext_any b g r col eg f B hb hr he j)
/-- What looks answers. -/
def LkO (b : BdW) (r : Nat) (w : World) (e : Ending) (w' : World) : Prop := ∃ oa oc, e = .returned (.slice oa (lkL b r).length oc) ∧ Hid (w'.ownsRow w.heap.size 104 10 (.slice oa (lkL b r).length oc) (lkL b r).length (flK (lkL b r))) ∧ Hid (Below w.heap.size w w')
def lkF (b : BdW) (r : Nat) : Nat → List LkW := fun col => exW b r col b.W 0 (col : Int) lkZ
theorem lk_small (b : BdW) (r : Nat) (W5 : b.W ≤ 5) {n : Nat} (h : n ≤ 8) : (flT (lkF b r) n).length ≤ 8388608 := by
  have h1 := flT_mono (lkF b r) h
  have h2 := lkL_len (b := b) r W5
  exact Nat.le_trans h1 h2
set_option maxRecDepth 100000 in
set_option maxHeartbeats 6400000 in
theorem looks_any (b : BdW) (g r : Nat) (w : World) (hB : BrdA w g b) (hb : BokW b) (hT : TzTab w) (hr : r < b.H) :
    Calls Tryd.prog 32 #[.pointer (some ⟨g, 0, none⟩), .int .i64 (r : Int)] w (LkO b r w) := by
  have EC := hide' (fun (col : Nat) (V : World) (h : Below w.heap.size w V) (hc : col < 8) => ends_any b g r col V (hB.below h) hb (hT.below h) hr hc)
  have XC := hide' (fun (col eg : Nat) (f : Nat → Int) (he : EnS b r col f 0) (V : World) (h : Below w.heap.size w V) (hE : EnB V eg f) (ls : List LkW) (oa : Option Addr) (oc : Nat) (h8 : col < 8) ho hn => ext_any b g r col eg f w.heap.size hb hr he b.W 0 col lkZ ls oa oc V (by omega) h8 ⟨rfl, rfl⟩ ⟨hB.below h, hE, hT.below h, h.size, lt_blockT hB, tz_lt hT⟩ ho hn)
  have SM := hide' (fun (n : Nat) (h : n ≤ 8) => lk_small b r hb.w5 h)
  have LF := hide' (show flT (lkF b r) 8 = lkL b r from rfl)
  have EN := hide' (fun col => show enW b r col b.W 0 (col : Int) ≤ 1048576 from Nat.le_trans (en_le _ _ _ _ _ _) (Nat.le_trans (Nat.pow_le_pow_right (by omega) hb.w5) (by decide)))
  have FC := hide' (fun col => show lkF b r col = exW b r col b.W 0 (col : Int) lkZ from rfl)
  have zv := zero_ends
  obtain ⟨Z, hZ⟩ : ∃ Z, (arV 48 fun _ => Value.int .i64 0) = Z := ⟨_, rfl⟩
  rw [hZ] at zv
  have ZS : Z.size = 48 := by rw [← hZ, arV_size]
  have zn : ¬ Z = #[] := fun e => by rw [e] at ZS; simp at ZS
  clear hB hb hT hZ
  go_enter Tryd.func32, Tryd.ntmps32
  go_wp2
  go_loopw [5, 6, 7, 8] (fun ov _ _ iv wr => ∃ (n : Nat) (oa : Option Addr) (oc : Nat) (us : List LkW), ov = .slice oa us.length oc ∧ iv = .int .i64 (n : Int) ∧ n ≤ 8 ∧ Hid (us = flT (lkF b r) n) ∧ Hid (wr.ownsRow w.heap.size 104 10 (.slice oa us.length oc) us.length (flK us)) ∧ Hid (Below w.heap.size w wr)) (fun _ _ _ iv _ => 8 - (intOf iv).toNat)
  case atStart => exact ⟨0, none, 0, [], rfl, rfl, by omega, hide' rfl, hide' (World.ownsRow_nil _ _ _ _), hide' (Below.refl _ _)⟩
  case round =>
    obtain ⟨n, oa, oc, us, rfl, rfl, hn, US, OW, BW⟩ := hrel
    by_cases d : (n : Int) < 8
    · have ec := hide' (EC.out n wr BW.out (by omega))
      obtain ⟨m, hm⟩ : ∃ m, us.length = m := ⟨_, rfl⟩
      have HM := hide' hm
      rw [hm]
      clear hm
      go_wp2_with fail
      refine ec.out.mono ?_
      rintro e w3 ⟨f, hf, rfl, b3⟩
      have B3 := hide' (BW.out.trans (b3.mono BW.out.size))
      have O3 := hide' (own_alloc OW.out b3)
      have HF := hide' hf
      clear b3 hf OW
      obtain ⟨A, hA⟩ : ∃ A, (arV 48 fun i => Value.int .i64 (f i)) = A := ⟨_, rfl⟩
      have os : A.size = 48 := by rw [← hA, arV_size]
      have ol : A.all (·.oneCell') = true := by rw [← hA]; exact arV_all (fun k _ => rfl)
      rw [hA]
      have G0 := heap_alloc_new w3 (.cells Z 98)
      go_upto_region 6 with (refine wpList_store_row rfl 98 _ _ rfl w3.heap.size A rfl rfl 98 Z G0 (by rw [os]; kernel_rfl) (by rw [os]; exact ZS) ol ?_)
      obtain ⟨eg, heg⟩ : ∃ eg, w3.heap.size = eg := ⟨_, rfl⟩
      rw [heg] at G0
      obtain ⟨w4, hw4⟩ : ∃ w4, (w3.alloc (.cells Z 98)).setRow eg A = w4 := ⟨_, rfl⟩
      have E4 := hide' (show EnB w4 eg f by unfold EnB; rw [← hw4, setRow_heap _ _ _ _ _ _ G0, hA])
      have K4 := (show Below w3.heap.size w3 w4 by rw [← hw4]; exact belowW_set ((Below.refl _ _).alloc (Nat.le_refl _) _) (by omega) _)
      have B4 := hide' (B3.out.trans (K4.mono B3.out.size))
      have O4 := hide' (own_alloc O3.out K4)
      rw [heg, hw4]
      clear hw4 G0 heg K4 ol os hA O3
      have xc := hide' (XC.out n eg f HF.out w4 B4.out E4.out us oa oc (by omega) O4.out (by
        have h1 := EN.out n
        have h2 := SM.out n hn
        rw [US.out]
        omega))
      rw [HM.out] at xc
      rw [show (lkV lkZ).toArray = #[.int .u8 0, .int .u8 0, .int .u8 0, .int .u8 0, .int .u8 0, .int .u8 0, .int .u8 0, .int .u8 0, .int .u8 0, .int .u8 0] from rfl, show ((0 : Nat) : Int) = 0 from rfl] at xc
      go_wp2_with fail
      refine xc.out.mono ?_
      rintro e w5 ⟨oa5, oc5, rfl, own5, gr5⟩
      obtain ⟨u5, hu5⟩ : ∃ u5, us ++ exW b r n b.W 0 (n : Int) lkZ = u5 := ⟨_, rfl⟩
      have NU := hide' (show u5 = flT (lkF b r) (n + 1) by rw [← hu5, US.out, flT, FC.out])
      have e5 : us.length + (exW b r n b.W 0 (n : Int) lkZ).length = u5.length := by rw [← hu5, List.length_append]
      rw [e5] at own5 gr5
      rw [hu5] at own5
      rw [e5]
      have B5 := hide' (B4.out.trans (gr5.out.below (B := w.heap.size) B4.out.size (fun k hk => by
        rw [← HM.out] at hk
        exact (O4.out.lt k hk).1)))
      clear gr5 e5 hu5
      go_wp2
      exact ⟨⟨n + 1, oa5, oc5, u5, rfl, by go_num, by omega, NU, own5, B5⟩, by simp [intOf]; omega⟩
    · obtain rfl : n = 8 := by omega
      obtain ⟨m, hm⟩ : ∃ m, us.length = m := ⟨_, rfl⟩
      rw [hm] at OW
      rw [hm]
      have HM := hide' hm
      clear hm
      go_wp2
      go_ret
      have e1 : (lkL b r).length = m := by rw [← HM.out, US.out, LF.out]
      exact ⟨oa, oc, by rw [e1]; rfl, hide' (by rw [e1, ← LF.out, ← US.out]; exact OW.out), BW⟩
end Go.Proofs.YthmeapplnocfjaaDoor

