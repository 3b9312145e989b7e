/-
  What the last text of this claim leans on, part 19: Wu4.
-/
import Derived.Test.YthmeapplnocfjaaDoorZf18
namespace Go.Proofs.YthmeapplnocfjaaDoor
open Go.RowKit
set_option linter.unusedVariables false
set_option linter.unusedSimpArgs false
/-- Which board is looked at. -/
def OpW (b : BdW) (w wx : World) (p : Nat) (B : BdW) : Prop := Below w.heap.size w wx ∧ BrdA wx p B ∧ BokW B ∧ (OpB B ↔ OpB b)
set_option maxRecDepth 100000 in
set_option maxHeartbeats 25600000 in
theorem open_any (b : BdW) (g : Nat) (w : World) (hB : BrdA w g b) (hb : BokW b) (hT : TzTab w) :
    Calls Tryd.prog 25 #[.pointer (some ⟨g, 0, none⟩)] w fun e w' => BoW (OpB b) e ∧ Below w.heap.size w w' := by
  have TC := hide' (turned_any b g w hB)
  have WC := hide' (fun (p : Nat) (B : BdW) (V : World) (h : Below w.heap.size w V) (hp : BrdA V p B) (hb : BokW B) => ways_any B p V hp hb (hT.below h))
  have TZ := hide' (fun (V : World) (h : Below w.heap.size w V) => hT.below h)
  have HB := hide' (fun (V : World) (h : Below w.heap.size w V) => hB.below h)
  have HBO := hide' hb
  have TOK := hide' (tn_ok hb)
  have TOP := hide' (tn_op hb)
  have gl := lt_blockT hB
  clear hB hb hT
  have zv := zero_boardW
  obtain ⟨Z, hZ⟩ : ∃ Z, arV 92 (bdV zeB) = Z := ⟨_, rfl⟩
  rw [hZ] at zv
  have ZS : Z.size = 92 := by rw [← hZ, arV_size]
  have zn : ¬ Z = #[] := fun e => by rw [e] at ZS; simp at ZS
  clear hZ
  go_enter Tryd.func25, Tryd.ntmps25
  go_wp2_with fail
  refine TC.out.mono ?_
  rintro e w1 ⟨rfl, b1⟩
  obtain ⟨T, hT⟩ : ∃ T, tnM b 5 0 = T := ⟨_, rfl⟩
  rw [hT] at TOK TOP
  rw [hT]
  obtain ⟨A, hA⟩ : ∃ A, arV 92 (bdV T) = A := ⟨_, rfl⟩
  have os : A.size = 92 := by rw [← hA, arV_size]
  have ol : A.all (·.oneCell') = true := by rw [← hA]; exact arV_all (fun k _ => bdV_one _ k)
  rw [hA]
  have G0 := heap_alloc_new w1 (.cells Z 58)
  have B1 := hide' b1
  clear b1 hT
  go_upto_region 2 with (refine wpList_store_row rfl 58 _ _ rfl w1.heap.size A rfl rfl 58 Z G0 (by rw [os]; exact size_boardW) (by rw [os]; exact ZS) ol ?_)
  obtain ⟨o, ho⟩ : ∃ o, w1.heap.size = o := ⟨_, rfl⟩
  rw [ho] at G0
  obtain ⟨w2, hw2⟩ : ∃ w2, (w1.alloc (.cells Z 58)).setRow o A = w2 := ⟨_, rfl⟩
  have D2 := hide' (show BrdA w2 o T by unfold BrdA; rw [← hw2, setRow_heap _ _ _ _ _ _ G0, hA])
  have B2 := hide' (show Below w.heap.size w w2 by rw [← hw2]; exact belowW_set (B1.out.alloc B1.out.size _) (by have := B1.out.size; omega) _)
  rw [ho, hw2]
  clear hw2 ho G0 ol os hA
  have W1 := hide' (WC.out o T w2 B2.out D2.out TOK.out)
  go_wp2_with fail
  refine W1.out.mono ?_
  rintro e w3 ⟨z1, rfl, b3⟩
  have B3 := hide' (B2.out.trans (b3.mono B2.out.size))
  have D3 := hide' (D2.out.below b3)
  have W2 := hide' (WC.out g b w3 B3.out (HB.out w3 B3.out) HBO.out)
  clear b3 D2 B2 B1
  go_wp2_with fail
  refine W2.out.mono ?_
  rintro e w4 ⟨z2, rfl, b4⟩
  have B4 := hide' (B3.out.trans (b4.mono B3.out.size))
  have D4 := hide' (D3.out.below b4)
  clear b4 D3 B3 W1 W2
  go_upto_if 15 with fail
  go_cut [0] (fun s wx => ∃ (p : Nat) (B : BdW), s = .pointer (some ⟨p, 0, none⟩) ∧ Hid (OpW b w wx p B))
  case first =>
    by_cases c : z1 < z2
    · go_wp2_with fail
      go_meet
      exact ⟨o, T, rfl, hide' ⟨B4.out, D4.out, TOK.out, TOP.out⟩⟩
    · go_wp2_with fail
      go_meet
      exact ⟨g, b, rfl, hide' ⟨B4.out, HB.out w4 B4.out, HBO.out, Iff.rfl⟩⟩
  case rest =>
  obtain ⟨p, B, rfl, OW⟩ := hcut
  obtain ⟨w5, rfl⟩ : ∃ v, v = wc := ⟨_, rfl⟩
  clear B4 D4 TOK TOP HBO HB TC WC zv ZS zn
  have BK := hide' OW.out.2.2.1
  have OI := hide' OW.out.2.2.2
  have h5 := BK.out.h5
  have h1 := BK.out.h1
  have ch := OW.out.2.1.high
  have pl := lt_blockT OW.out.2.1
  obtain ⟨H, hH⟩ : ∃ H, B.H = H := ⟨_, rfl⟩
  rw [hH] at ch h5 h1
  obtain ⟨lg, hlg⟩ : ∃ lg, w5.heap.size = lg := ⟨_, rfl⟩
  have mk1 := run_make_row' (P := Tryd.prog) 72 74 (.slice none 0 0) 24 Tryd.underlying72 info_llW rfl .i64 .i64 H (by omega) (by omega) w5
  obtain ⟨w6, hw6⟩ : ∃ w6, w5.alloc (.cells (madeCells #[.slice none 0 0] H) 74) = w6 := ⟨_, rfl⟩
  rw [hw6, hlg] at mk1
  have s6 : w6.heap.size = lg + 1 := by rw [← hw6]; simp [hlg]
  have K6 := (show Below w5.heap.size w5 w6 by rw [← hw6]; exact (Below.refl _ _).alloc (Nat.le_refl _) _)
  obtain ⟨ng, hng⟩ : ∃ ng, lg + 1 = ng := ⟨_, rfl⟩
  rw [hng] at s6
  have mk2 := run_make_row' (P := Tryd.prog) 73 76 (.map none) 8 Tryd.underlying73 info_mmW rfl .i64 .i64 H (by omega) (by omega) w6
  obtain ⟨w7, hw7⟩ : ∃ w7, w6.alloc (.cells (madeCells #[.map none] H) 76) = w7 := ⟨_, rfl⟩
  rw [hw7, s6] at mk2
  have s7 : w7.heap.size = ng + 1 := by rw [← hw7]; simp [s6]
  have K7 := (show Below w6.heap.size w6 w7 by rw [← hw7]; exact (Below.refl _ _).alloc (Nat.le_refl _) _)
  obtain ⟨sg, hsg⟩ : ∃ sg, ng + 1 = sg := ⟨_, rfl⟩
  rw [hsg] at s7
  have mk3 := run_make_row' (P := Tryd.prog) 23 3 (.int .i64 0) 8 Tryd.underlying23 infoW rfl .i64 .i64 H (by omega) (by omega) w7
  obtain ⟨w8, hw8⟩ : ∃ w8, w7.alloc (.cells (madeCells #[.int .i64 0] H) 3) = w8 := ⟨_, rfl⟩
  rw [hw8, s7] at mk3
  have K8 := (show Below w7.heap.size w7 w8 by rw [← hw8]; exact (Below.refl _ _).alloc (Nat.le_refl _) _)
  have D6 := OW.out.2.1.below K6
  have D7 := D6.below K7
  have D8 := D7.below K8
  have ch6 := D6.high
  have ch7 := D7.high
  have ch8 := D8.high
  rw [hH] at ch6 ch7 ch8
  have S8 := hide' (show OpS w w8 p B lg ng sg (fun _ => none) (fun _ => 0) (fun _ => 0) 0 0 0 from ⟨((OW.out.1.trans (K6.mono OW.out.1.size)).trans (K7.mono (by have := OW.out.1.size; omega))).trans (K8.mono (by have := OW.out.1.size; omega)), D8, by have := OW.out.1.size; omega, by omega, by omega, by omega, by
    rw [K8.block lg (by omega), K7.block lg (by omega), ← hw6, ← hlg, heap_alloc_new, made_any, hH]
    congr 2, by
    rw [K8.block ng (by omega), ← hw7, ← s6, heap_alloc_new, made_any, hH]
    congr 2, by
    rw [← hw8, ← s7, heap_alloc_new, made_any, hH]
    congr 2, fun r hr => by omega, fun r hr => by omega⟩)
  have p6 : p < w6.heap.size := by omega
  have p7 : p < w7.heap.size := by omega
  clear hw6 hw7 hw8 K6 K7 K8 D6 D7 D8 hlg hng hsg s6 s7
  go_wp2
  clear mk1 mk2 mk3 ch ch6 ch7 ch8 p6 p7
  have LKC := hide' (fun (r : Nat) (V : World) (h : Below w.heap.size w V) (hp : BrdA V p B) (hr : r < H) => looks_any B p r V hp BK.out (TZ.out V h) (by rw [hH]; exact hr))
  have LOK := hide' (fun (r : Nat) => fun l hl => lkL_ok (r := r) (L := l) BK.out hl)
  have LLN := hide' (fun (r : Nat) => lkL_len (b := B) r BK.out.w5)
  go_loopw [7, 35] (fun _ iv wr => ∃ (r : Nat) (oa : Nat → Option Addr) (oc mb : Nat → Nat), iv = .int .i64 (r : Int) ∧ r ≤ H ∧ Hid (OpS w wr p B lg ng sg oa oc mb r r r)) (fun _ iv _ => H - (intOf iv).toNat)
  case atStart => exact ⟨0, _, _, _, rfl, by omega, S8⟩
  case round =>
    clear S8
    obtain ⟨r, oa, oc, mb, rfl, hr, OS⟩ := hrel
    by_cases d : (r : Int) < (H : Int)
    · have rH : r < H := by omega
      have rH' : r < B.H := by rw [hH]; exact rH
      have r0 : (0 : Int) ≤ (r : Int) := by omega
      have lk := hide' (LKC.out r wr OS.out.below OS.out.brd rH)
      go_wp2_with fail
      refine lk.out.mono ?_
      rintro e wa ⟨oar, ocr, rfl, ownr, br⟩
      have OA := hide' (OS.out.keep br.out)
      have AL := hide' (show ArgL wa (lkL B r) oar (lkL B r).length from ArgL.of ownr.out rfl (by have := LLN.out r; omega))
      have LO := hide' (show ∀ g, oar = some ⟨g, 0, none⟩ → sg < g from fun g' e => by
        have h1 := lt_blockT OS.out.rs
        have h2 := (ownr.out.lt g' (by rw [e]; rfl)).1
        omega)
      have c1 := OA.out.cellL rH'
      have f1 := frozen_of_row wa _ r _ _ OA.out.rl
      have OB := hide' (OA.out.putL (c := ocr) AL.out LO.out)
      obtain ⟨ln, hln⟩ : ∃ ln, (lkL B r).length = ln := ⟨_, rfl⟩
      rw [hln] at OB AL
      rw [if_neg (by omega)] at c1
      obtain ⟨wb, hwb⟩ : ∃ wb, wa.setCell ⟨lg, r, none⟩ (.slice oar ln ocr) = wb := ⟨_, rfl⟩
      rw [hwb] at OB
      have AB := hide' (show ArgL wb (lkL B r) oar ln by
        have := (OB.out.al r (by omega)).1
        unfold upF at this
        rw [if_pos rfl, hln] at this
        exact this)
      have NC := hide' (number_any (lkL B r) oar ln ocr wb AB.out (LOK.out r))
      have c2 := OB.out.cellL rH'
      unfold upF at c2
      rw [if_pos (by omega), if_pos rfl, if_pos rfl, hln] at c2
      clear ownr br lk OS AL OA
      rw [hln]
      go_wp2_with fail
      try rw [hwb]
      refine NC.out.mono ?_
      rintro e wc ⟨mbr, rfl, mpr, mlo, bc⟩
      have OC := hide' (OB.out.keep bc.out)
      have MLO := hide' (show sg < mbr by have := lt_blockT OB.out.rs; omega)
      have c3 := OC.out.cellN rH'
      have f3 := frozen_of_row wc _ r _ _ OC.out.rn
      rw [if_neg (by omega)] at c3
      have OD := hide' (OC.out.putN (m := mbr) mpr.out MLO.out)
      obtain ⟨wd, hwd⟩ : ∃ wd, wc.setCell ⟨ng, r, none⟩ (.map (some mbr)) = wd := ⟨_, rfl⟩
      rw [hwd] at OD
      have MD := hide' (show MpB wd mbr (sdL B r) by
        have := (OD.out.am r (by omega)).1
        unfold upF at this
        rw [if_pos rfl] at this
        exact this)
      have c4 := OD.out.cellN rH'
      unfold upF at c4
      rw [if_pos (by omega), if_pos rfl] at c4
      have c5 := OD.out.cellS rH'
      rw [if_neg (by omega)] at c5
      have f5 := frozen_of_row wd _ r _ _ OD.out.rs
      have len := MD.out.size 3
      have OE := hide' OD.out.putS
      obtain ⟨sl, hsl⟩ : ∃ sl, (sdL B r).length = sl := ⟨_, rfl⟩
      rw [hsl] at OE len
      clear mpr bc c1 c2 f1 mlo hsl hln
      go_wp2
      try rw [hwd]
      exact ⟨⟨r + 1, _, _, _, by go_num, by omega, OE⟩, by simp [intOf]; omega⟩
    · obtain rfl : r = H := by omega
      have ch := OS.out.brd.high
      rw [hH] at ch
      have pl := lt_blockT OS.out.brd
      obtain ⟨tg, htg⟩ : ∃ tg, wr.heap.size = tg := ⟨_, rfl⟩
      have mk := run_make_row' (P := Tryd.prog) 78 79 (.slice none 0 0) 24 Tryd.underlying78 info_ssW rfl .i64 .i64 r (by omega) (by omega) wr
      obtain ⟨wa, hwa⟩ : ∃ wa, wr.alloc (.cells (madeCells #[.slice none 0 0] r) 79) = wa := ⟨_, rfl⟩
      rw [hwa, htg] at mk
      have KA := (show Below wr.heap.size wr wa by rw [← hwa]; exact (Below.refl _ _).alloc (Nat.le_refl _) _)
      have RA := hide' (show wa.heap[tg]? = some (.cells (arV r fun q => if q < 0 then .slice none (stL B q).length 0 else .slice none 0 0) 79 (0, 0)) by
        rw [← hwa, ← htg, heap_alloc_new, made_any]
        congr 2)
      have cha := (OS.out.brd.below KA).high
      rw [hH] at cha
      have pla : p < wa.heap.size := Nat.lt_of_lt_of_le pl KA.size
      have BA := hide' KA
      clear hwa KA
      go_wp2
      clear mk ch cha pla
      obtain ⟨wL, hwL⟩ : ∃ wL, wL = wr := ⟨_, rfl⟩
      rw [← hwL] at OS BA htg pl
      have HWL := hide' hwL
      clear hwL
      have LDC := hide' (fun (q : Nat) (V : World) (h : Below wL.heap.size wL V) (hq : q < r) => lead_any (lkL B q) (sdL B q) (sdL B ((q + 1) % r)) (oa q) (lkL B q).length (oc q) (mb q) (mb ((q + 1) % r)) V ((OS.out.keep h).al q hq).1 ((OS.out.keep h).am q hq).1 ((OS.out.keep h).am _ (Nat.mod_lt _ (by omega))).1 (LOK.out q) (fun l hl => up_mem hl))
      have STL := hide' (fun q => show stL B q = ldL (sdL B q) (sdL B ((q + 1) % r)) (lkL B q) by unfold stL; rw [hH])
      go_loopw [9, 70] (fun _ iv wr => ∃ (k : Nat) (ta : Nat → Option Addr) (tc : Nat → Nat), iv = .int .i64 (k : Int) ∧ k ≤ r ∧ Hid (Below wL.heap.size wL wr) ∧ Hid (wr.heap[tg]? = some (.cells (arV r fun q => if q < k then .slice (ta q) (stL B q).length (tc q) else .slice none 0 0) 79 (0, 0))) ∧ Hid (∀ q, q < k → ArgQ wr (stL B q) (ta q) (stL B q).length ∧ ∀ g, ta q = some ⟨g, 0, none⟩ → tg < g)) (fun _ iv _ => r - (intOf iv).toNat)
      case atStart => exact ⟨0, fun _ => none, fun _ => 0, rfl, by omega, BA, RA, hide' (fun q h => by omega)⟩
      case round =>
        clear RA BA
        obtain ⟨k, ta, tc, rfl, hk, BW, RT, AT⟩ := hrel
        have OV := hide' (OS.out.keep BW.out)
        by_cases d2 : (k : Int) < (r : Int)
        · have kr : k < r := by omega
          have kH : k < B.H := by rw [hH]; exact kr
          have k0 : (0 : Int) ≤ (k : Int) := by omega
          have ld := hide' (fun (V : World) (h : Below wr.heap.size wr V) => LDC.out k V (BW.out.trans (h.mono BW.out.size)) kr)
          obtain ⟨k', hk'⟩ : ∃ k', (k + 1) % r = k' := ⟨_, rfl⟩
          have k'r : k' < r := by rw [← hk']; exact Nat.mod_lt _ (by omega)
          have k'H : k' < B.H := by rw [hH]; exact k'r
          rw [hk'] at ld
          have stl := STL.out k
          rw [hk'] at stl
          have c1 := OV.out.cellL kH
          have c2 := OV.out.cellN kH
          have c3 := OV.out.cellN k'H
          have c4 := OV.out.brd.high
          rw [hH] at c4
          rw [if_pos kr] at c1 c2
          rw [if_pos k'r] at c3
          have ct : wr.cell? ⟨tg, k, none⟩ = some (.slice none 0 0) := by
            rw [cell_of_row wr _ _ _ _ _ RT.out, arV_get _ kr, if_neg (by omega)]
          have ft := frozen_of_row wr _ k _ _ RT.out
          have rm : ((k : Int) + 1).tmod (r : Int) = (k' : Int) := by rw [← hk']; exact (Int.ofNat_tmod (k + 1) r).symm
          have w1' : IntKind.i64.wrap ((k : Int) + 1) = (k : Int) + 1 := by simp [IntKind.wrap, IntKind.signed, IntKind.bits]; omega
          have wm : IntKind.i64.wrap (((k : Int) + 1).tmod (r : Int)) = (k' : Int) := by rw [rm]; simp [IntKind.wrap, IntKind.signed, IntKind.bits]; omega
          have hb : ((r : Int) == 0) = false := by simp; omega
          have k'0 : (0 : Int) ≤ (k' : Int) := by omega
          have k'l : (k' : Int) < (r : Int) := by omega
          have wk' : IntKind.i64.wrap (k' : Int) = (k' : Int) := by simp [IntKind.wrap, IntKind.signed, IntKind.bits]; omega
          have rne : ¬ (r : Int) = 0 := by omega
          have rne2 : ¬ r = 0 := by omega
          have pw := lt_blockT OV.out.brd
          have tgw := lt_blockT RT.out
          have lgt : lg < tg := by rw [← htg]; exact lt_blockT OS.out.rl
          have ngt : ng < tg := by rw [← htg]; exact lt_blockT OS.out.rn
          have pt : p < tg := by rw [← htg]; exact pl
          -- behind the call
          have AF := hide' (fun (w9 : World) (h : Below wr.drew.heap.size wr.drew w9) => show w9.cell? ⟨tg, k, none⟩ = some (.slice none 0 0) ∧ w9.frozen? ⟨tg, k, none⟩ = false from ⟨(World.cell?_of_block (w := wr) (a := ⟨tg, k, none⟩) (h.block tg tgw)).trans ct, (World.frozen?_of_block (w := wr) (a := ⟨tg, k, none⟩) (h.block tg tgw)).trans ft⟩)
          obtain ⟨l1, hl1⟩ : ∃ x, (lkL B k).length = x := ⟨_, rfl⟩
          obtain ⟨a1, ha1⟩ : ∃ x, oa k = x := ⟨_, rfl⟩
          obtain ⟨d1, hd1⟩ : ∃ x, oc k = x := ⟨_, rfl⟩
          obtain ⟨m1, hm1⟩ : ∃ x, mb k = x := ⟨_, rfl⟩
          obtain ⟨m2, hm2⟩ : ∃ x, mb k' = x := ⟨_, rfl⟩
          rw [hl1, ha1, hd1, hm1, hm2] at ld
          rw [hl1, ha1, hd1] at c1
          rw [hm1] at c2
          rw [hm2] at c3
          clear hl1 ha1 hd1 hm1 hm2 hk' LDC OV
          go_upto_region 18 with fail
          have SX := hide' (fun (V : World) (h : ∀ q, q < wr.heap.size → q ≠ tg → V.heap[q]? = wr.heap[q]?) => show V.cell? ⟨lg, k, none⟩ = some (.slice a1 l1 d1) ∧ V.cell? ⟨ng, k, none⟩ = some (.map (some m1)) ∧ V.cell? ⟨ng, k', none⟩ = some (.map (some m2)) ∧ V.cell? ⟨p, 65, none⟩ = some (.int .i64 (r : Int)) from
            ⟨(World.cell?_of_block (w := wr) (a := ⟨lg, k, none⟩) (h lg (by omega) (by omega))).trans c1, (World.cell?_of_block (w := wr) (a := ⟨ng, k, none⟩) (h ng (by omega) (by omega))).trans c2, (World.cell?_of_block (w := wr) (a := ⟨ng, k', none⟩) (h ng (by omega) (by omega))).trans c3, (World.cell?_of_block (w := wr) (a := ⟨p, 65, none⟩) (h p (by omega) (by omega))).trans c4⟩)
          have SA := hide' (SX.out wr.drew (fun _ _ _ => rfl))
          have SV := hide' (fun (V : World) (h : Below wr.drew.heap.size wr.drew V) => SX.out V (fun q hq _ => h.block q hq))
          have SW := hide' (fun (V : World) (v : Value) (h : Below wr.drew.heap.size wr.drew V) => SX.out (V.setCell ⟨tg, k, none⟩ v) (fun q hq hn => (heap_setCell_other _ _ _ _ hn).trans (h.block q hq)))
          go_region_held3 (fun V => V.cell? ⟨lg, k, none⟩ = some (.slice a1 l1 d1) ∧ V.cell? ⟨ng, k, none⟩ = some (.map (some m1)) ∧ V.cell? ⟨ng, k', none⟩ = some (.map (some m2)) ∧ V.cell? ⟨p, 65, none⟩ = some (.int .i64 (r : Int))) (first | exact SA.out | exact SW.out _ _ b9.out | exact SV.out _ b9.out | fail) (first | (go_at_call 34; refine (ld.out _ (Below.refl _ _).drew).mono ?_; rintro e9 w9 ⟨oa9, oc9, rfl, own9, b9⟩; obtain ⟨q1, q2⟩ := AF.out w9 b9.out) | fail)
          have KV := hide' (show KpM (tg + 1) wr w9 from ⟨b9.out.size, fun q _ hq => b9.out.block q hq⟩)
          have B9 := hide' (show Below wL.heap.size wL w9 from BW.out.drew.trans (b9.out.mono BW.out.size))
          have R9 := hide' ((b9.out.block tg tgw).trans RT.out)
          have A9 := hide' (show ArgQ w9 (stL B k) oa9 (stL B k).length by rw [stl]; exact ArgQ.of own9.out rfl (by have h1 := ldL_len (sdL B k) (sdL B k') (lkL B k); have h2 := LLN.out k; omega))
          have L9 := hide' (show ∀ g, oa9 = some ⟨g, 0, none⟩ → tg < g from fun g' e => by
            have := (own9.out.lt g' (by rw [e]; rfl)).1
            have : wr.drew.heap.size = wr.heap.size := rfl
            omega)
          rw [← stl]
          obtain ⟨wX, hwX⟩ : ∃ wX, w9.setCell ⟨tg, k, none⟩ (.slice oa9 (stL B k).length oc9) = wX := ⟨_, rfl⟩
          have KX := hide' (show KpM (tg + 1) w9 wX by rw [← hwX]; exact KpM.setCell _ _ (by show tg < tg + 1; omega))
          have BX := hide' (show Below wL.heap.size wL wX by rw [← hwX]; exact B9.out.setCell (by show wL.heap.size ≤ tg; omega) _)
          have RX := hide' (show wX.heap[tg]? = some (.cells (arV r fun q => if q < k + 1 then .slice (upF ta k oa9 q) (stL B q).length (upF tc k oc9 q) else .slice none 0 0) 79 (0, 0)) by
            rw [← hwX, heap_setCell_same _ _ _ _ _ _ R9.out, arV_set]
            congr 2
            refine arV_ext fun q _ => ?_
            unfold upF
            by_cases e : q = k
            · subst e; rw [if_pos rfl, if_pos (by omega), if_pos rfl, if_pos rfl]
            · rw [if_neg e]
              by_cases q2 : q < k
              · rw [if_pos q2, if_pos (by omega), if_neg e, if_neg e]
              · rw [if_neg q2, if_neg (by omega)])
          have AX := hide' (show ∀ q, q < k + 1 → ArgQ wX (stL B q) (upF ta k oa9 q) (stL B q).length ∧ ∀ g, upF ta k oa9 q = some ⟨g, 0, none⟩ → tg < g from fun q hq => by
            unfold upF
            by_cases e : q = k
            · subst e; rw [if_pos rfl]
              exact ⟨A9.out.keepM (M := tg + 1) L9.out KX.out, L9.out⟩
            · rw [if_neg e]
              have := AT.out q (by omega)
              exact ⟨(this.1.keepM (M := tg + 1) this.2 KV.out).keepM (M := tg + 1) this.2 KX.out, this.2⟩)
          rw [hwX]
          clear hwX own9 b9 q1 q2
          go_wp2
          exact ⟨⟨k + 1, _, _, by go_num, by omega, BX, RX, AX⟩, by simp [intOf]; omega⟩
        · obtain rfl : k = r := by omega
          have SA := hide' (show StA wr tg k (stL B) ta tc from ⟨by
            rw [RT.out]
            congr 2
            exact arV_ext fun q hq => if_pos hq, fun q hq => (AT.out q hq).1⟩)
          have RW := hide' (show RowW wr sg k (fun q => (((sdL B q).length : Nat) : Int)) by
            have := OV.out.rs
            rw [hH] at this
            unfold RowW
            rw [this]
            congr 2
            exact arV_ext fun q hq => by rw [if_pos hq])
          have CC := hide' (closes_any k (stL B) (fun q => (sdL B q).length) ta tc tg sg wr SA.out RW.out h1 h5 (fun q => by have h1 := nmL_len (ls := lkL B q) (acc := []); have h2 := LLN.out q; unfold sdL; simp at h1; omega) (fun q hq x hx => by
            unfold stL at hx
            rw [hH] at hx
            obtain ⟨l, hl, hd, rfl⟩ := mem_ldL.1 hx
            exact ⟨noS_lt (up_mem hl), noS_lt hd⟩))
          have OPI := hide' (open_iff BK.out)
          rw [hH] at OPI
          have BF := hide' OV.out.below
          clear SA RW OV AT RT
          go_wp2_with fail
          refine CC.out.mono ?_
          rintro e wz ⟨⟨z, rfl, hz⟩, bz⟩
          have FIN := hide' (show z = true ↔ OpB b from hz.trans (OPI.out.symm.trans OI.out))
          have BZ := hide' (BF.out.trans (bz.mono BF.out.size))
          clear hz bz
          go_wp2
          go_ret
          exact ⟨⟨z, rfl, FIN.out⟩, BZ.out⟩
end Go.Proofs.YthmeapplnocfjaaDoor

