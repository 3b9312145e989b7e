/-
  What the last text of this claim leans on, part 29: LawHp2, LawHp, As, Err, OpenP.
-/
import Derived.Test.YtelocgefaommmaaDoorZh28
import Derived.Test.YtelocgefaommmaaDoorProg
import Derived.Test.YtelocgefaommmaaDoorZh9
import Derived.Test.YtelocgefaommmaaDoorRows
import Derived.Test.YtelocgefaommmaaDoorCards
import Derived.Test.YtelocgefaommmaaDoorTie
import Derived.WalkKit
import Derived.LaidEql
import Derived.Stop.Asserts
import Derived.RowKitTokens
import Derived.WalkSpells
import Derived.WalkLawsBesides
import Derived.ProofKit
import Derived.OpenShut
import Derived.ChangeSame
import Derived.ChangeSlices
import Derived.ChangeVars
import Derived.JoinedOf
import Derived.RowKit
import Derived.LaidLaws
import Derived.LaidHandle
import Derived.LaidSub
import Derived.Lay
import Derived.Carry
import Derived.Stop.Joined
import Derived.SevenTiedAt
namespace Go.Proofs.YtelocgefaommmaaDoor
open Go.RowKit
set_option linter.unusedVariables false
theorem side_up : ∀ {a b : Nat}, a ≤ b → sideI a ≤ sideI b
  | a, 0, h => by obtain rfl : a = 0 := by omega
                  exact Int.le_refl _
  | a, b + 1, h => by
    rcases Nat.lt_or_ge b a with c | c
    · obtain rfl : a = b + 1 := by omega
      exact Int.le_refl _
    · have := side_up c
      have p := sideI_pos b
      have e : sideI (b + 1) = 2 * sideI b := by unfold sideI; rw [Int.pow_succ]; omega
      omega
theorem ovr_out {qW qH W H : Nat} {xs ys : List Int} {r d u v : Int} (h : ¬ inP qW qH (u - r) (v - d)) : ovrF qW qH ys r d (ovrF W H xs 0 0 fun _ _ => 0) u v = atH W H xs u v := by
  unfold ovrF atH
  rw [if_neg h, show u - 0 = u by omega, show v - 0 = v by omega]
theorem ovr_in {qW qH : Nat} {ys : List Int} {F : Int → Int → Int} {r d u v : Int} (h : inP qW qH (u - r) (v - d)) : ovrF qW qH ys r d F u v = atH qW qH ys (u - r) (v - d) := by
  unfold ovrF atH
  rw [if_pos h, if_pos h]
theorem win_cell {V : World} {wb N i : Nat} {gf : Nat → Int} (h : WinA V wb N gf) (hi : i < N) : V.cell? ⟨wb, i, none⟩ = some (.int .i64 (gf i)) := by
  have := cell_of_row V wb i _ _ _ h
  rw [arrF_get _ hi] at this
  exact this
theorem side_7 : sideI 7 = 1024 := by decide
theorem side_9 : sideI 9 = 4096 := by decide
theorem cnt_8 : cntQ 8 ≤ 99000 := by decide
set_option maxRecDepth 100000 in
set_option maxHeartbeats 12800000 in
theorem law_hp_main (o : Out) (ta : Option Addr) (tn tc : Nat) (W H : Nat) (xs : List Int) (a : Option Addr) (n c : Nat) (qW qH : Nat) (ys : List Int) (qa : Option Addr) (qn qc : Nat) (r d x y : Int) (w : World) (hR : ArgR w o ta tn tc) (hy : YesNew o) (hP : ArgP w xs a n c) (hQ : ArgP w ys qa qn qc) (hz : TzTab w) (f1 : shapeF (W : Int) (H : Int) xs = 0) (f2 : shapeF (qW : Int) (qH : Int) ys = 0) (hW : W ≤ 100 ∧ H ≤ 100) (hqW : qW ≤ 100 ∧ qH ≤ 100) (hm : xs.length = W * H) (hqm : ys.length = qW * qH) (hbx : ∀ i, 0 ≤ xs.getD i 0 ∧ xs.getD i 0 ≤ 1) (hby : ∀ i, 0 ≤ ys.getD i 0 ∧ ys.getD i 0 ≤ 1) (hr : -200 ≤ r ∧ r ≤ 200) (hd : -200 ≤ d ∧ d ≤ 200) (hx : -200 ≤ x ∧ x ≤ 200) (hyy : -200 ≤ y ∧ y ≤ 200) :
    Calls Tryd.prog 3 #[.agg #[.int .i64 o.kind, .int .i64 o.born, .int .i64 o.stay, .int .i64 o.states, .int .i64 o.radius, .slice ta tn tc, .string o.turns], .agg #[.int .i64 (W : Int), .int .i64 (H : Int), .slice a n c], .agg #[.int .i64 (qW : Int), .int .i64 (qH : Int), .slice qa qn qc], .int .i64 r, .int .i64 d, .int .i64 x, .int .i64 y] w fun e w' => e = .returned (.bool true) ∧ Below w.heap.size w w' := by
  obtain ⟨w1, hw1⟩ : ∃ w1, ((w.alloc (.cells #[.int .i64 o.kind, .int .i64 o.born, .int .i64 o.stay, .int .i64 o.states, .int .i64 o.radius, .slice ta tn tc, .string o.turns] 24)).alloc (.cells #[.int .i64 (W : Int), .int .i64 (H : Int), .slice a n c] 26)).alloc (.cells #[.int .i64 (qW : Int), .int .i64 (qH : Int), .slice qa qn qc] 26) = w1 := ⟨_, rfl⟩
  have HW1 := hide' hw1
  have B1 := hide' (show Below w.heap.size w w1 by rw [← hw1]; exact (((Below.refl _ _).alloc (Nat.le_refl _) _).alloc (by simp) _).alloc (by simp; omega) _)
  have HR := hR.hideR
  have HY := hide' hy
  have HRD := hide' (And.intro hr hd)
  have HXY := hide' (And.intro hx hyy)
  have HS1 := hide' (And.intro f1 (And.intro hW (And.intro hm hbx)))
  have HS2 := hide' (And.intro f2 (And.intro hqW (And.intro hqm hby)))
  have HL := hide' (And.intro hP.len hQ.len)
  have HZ := hide' hz
  have R0 := hide' (show w1.heap[w.heap.size]? = some (.cells #[.int .i64 o.kind, .int .i64 o.born, .int .i64 o.stay, .int .i64 o.states, .int .i64 o.radius, .slice ta tn tc, .string o.turns] 24 (0, 0)) by rw [← hw1]; exact (heap_alloc_old _ _ (by simp; omega)).trans ((heap_alloc_old _ _ (by simp)).trans (heap_alloc_new _ _)))
  have Z1 := hide' (show w1.heap.size = w.heap.size + 3 by rw [← hw1]; simp)
  have RP1 := hide' (show w1.heap[w.heap.size + 1]? = some (.cells #[.int .i64 (W : Int), .int .i64 (H : Int), .slice a n c] 26 (0, 0)) by rw [← hw1]; exact (heap_alloc_old _ _ (by simp)).trans (heap_atX _ _ _ (by simp)))
  have RQ1 := hide' (show w1.heap[w.heap.size + 1 + 1]? = some (.cells #[.int .i64 (qW : Int), .int .i64 (qH : Int), .slice qa qn qc] 26 (0, 0)) by rw [← hw1]; exact heap_atX _ _ _ (by simp))
  have SV := hide' (fun (V : World) (hV : Below w1.heap.size w1 V) => show ArgP V xs a n c ∧ ArgP V ys qa qn qc ∧ V.heap[w.heap.size + 1]? = some (.cells #[.int .i64 (W : Int), .int .i64 (H : Int), .slice a n c] 26 (0, 0)) ∧ V.heap[w.heap.size + 1 + 1]? = some (.cells #[.int .i64 (qW : Int), .int .i64 (qH : Int), .slice qa qn qc] 26 (0, 0)) ∧ Below w.heap.size w V from
    have b := B1.out.trans (hV.mono B1.out.size)
    ⟨hP.below b, hQ.below b, (hV.block _ (lt_of_block RP1.out)).trans RP1.out, (hV.block _ (lt_of_block RQ1.out)).trans RQ1.out, b⟩)
  clear hw1 hR hy hP hQ hz hr hd hx hyy f1 f2 hW hqW hm hqm hbx hby
  go_enter Tryd.func3, Tryd.ntmps3
  go_upto_region 1 with fail
  rw [HW1.out]
  have x0 := cell_of_row w1 _ 0 _ _ _ R0.out
  have x1 := cell_of_row w1 _ 1 _ _ _ R0.out
  have x2 := cell_of_row w1 _ 2 _ _ _ R0.out
  have x3 := cell_of_row w1 _ 3 _ _ _ R0.out
  have x4 := cell_of_row w1 _ 4 _ _ _ R0.out
  have x5 := cell_of_row w1 _ 5 _ _ _ R0.out
  have x6 := cell_of_row w1 _ 6 _ _ _ R0.out
  simp at x0 x1 x2 x3 x4 x5 x6
  go_wp2_with fail
  refine (new_yes o ta tn tc w1 (HR.out w1 B1.out) HY.out).mono ?_
  rintro e w2 ⟨spb, b0, s0, rfl, sp, b⟩
  have B2 := hide' b
  have S2 := hide' sp
  obtain ⟨A2, Q2, P2, D2, L2⟩ := SV.out w2 b
  have y0 := cell_of_row w2 _ 0 _ _ _ P2
  have y1 := cell_of_row w2 _ 1 _ _ _ P2
  have y2 := cell_of_row w2 _ 2 _ _ _ P2
  simp at y0 y1 y2
  clear x0 x1 x2 x3 x4 x5 x6 b sp Q2 P2 D2 L2
  go_wp2_with fail
  refine (Shape_P (W : Int) (H : Int) xs a n c w2 A2).mono ?_
  rintro e w3 ⟨rfl, b⟩
  have B3 := hide' (B2.out.trans (b.mono B2.out.size))
  have S3 := hide' (S2.out.below b)
  obtain ⟨A3, Q3, P3, D3, L3⟩ := SV.out w3 B3.out
  clear y0 y1 y2 b A2
  have y0 := cell_of_row w3 _ 0 _ _ _ D3
  have y1 := cell_of_row w3 _ 1 _ _ _ D3
  have y2 := cell_of_row w3 _ 2 _ _ _ D3
  simp at y0 y1 y2
  clear A3 P3 D3 L3
  go_wp2_with fail
  refine (Shape_P (qW : Int) (qH : Int) ys qa qn qc w3 Q3).mono ?_
  rintro e w4 ⟨rfl, b⟩
  have B4 := hide' (B3.out.trans (b.mono B3.out.size))
  have S4 := hide' (S3.out.below b)
  clear y0 y1 y2 b Q3
  rw [HS1.out.1, HS2.out.1]
  obtain ⟨A4, Q4, P4, D4, L4⟩ := SV.out w4 B4.out
  have y0 := cell_of_row w4 _ 0 _ _ _ P4
  have y1 := cell_of_row w4 _ 1 _ _ _ P4
  have y2 := cell_of_row w4 _ 2 _ _ _ P4
  simp at y0 y1 y2
  clear A4 Q4 P4 D4 L4
  have r1 : ¬ r < -200 := by have := HRD.out; omega
  have r2 : ¬ 200 < r := by have := HRD.out; omega
  have d1 : ¬ d < -200 := by have := HRD.out; omega
  have d2 : ¬ 200 < d := by have := HRD.out; omega
  have x1 : ¬ x < -200 := by have := HXY.out; omega
  have x2 : ¬ 200 < x := by have := HXY.out; omega
  have z1 : ¬ y < -200 := by have := HXY.out; omega
  have z2 : ¬ 200 < y := by have := HXY.out; omega
  go_wp2_with fail
  clear r1 r2 d1 d2 x1 x2 z1 z2 y0 y1 y2
  refine (put_any spb w1.heap.size b0 s0 16 (fun _ _ => 0) 22 w4 S4.out W H xs a n c HS1.out.1 HS1.out.2.1.1 HS1.out.2.1.2 HS1.out.2.2.1 HS1.out.2.2.2 (fun V hV => (SV.out V (B4.out.trans hV)).1) 0 0 (by omega) (by omega) (by omega) (by omega) 8 (fun k hk => side_inv hk (by decide)) (by omega) (by omega) 1256 (fun k hk => by have := side_up (show k ≤ 7 by omega); rw [side_7] at this; omega) (by omega) (by omega) (fun k hk => side_inv hk (by decide))).mono ?_
  rintro e w5 ⟨rfl, sp, b⟩
  have B5 := hide' (B4.out.trans b)
  have S5 := hide' sp
  clear b sp
  obtain ⟨A4, Q4, P4, D4, L4⟩ := SV.out w5 B5.out
  have y0 := cell_of_row w5 _ 0 _ _ _ D4
  have y1 := cell_of_row w5 _ 1 _ _ _ D4
  have y2 := cell_of_row w5 _ 2 _ _ _ D4
  simp at y0 y1 y2
  clear A4 Q4 P4 D4 L4
  go_wp2_with fail
  clear y0 y1 y2
  refine (put_any spb w1.heap.size b0 s0 1256 (ovrF W H xs 0 0 fun _ _ => 0) (22 + 80 + cntQ 8) w5 S5.out qW qH ys qa qn qc HS2.out.1 HS2.out.2.1.1 HS2.out.2.1.2 HS2.out.2.2.1 HS2.out.2.2.2 (fun V hV => (SV.out V (B5.out.trans hV)).2.1) r d HRD.out.1 HRD.out.2 (by omega) (by omega) 10 (fun k hk => side_inv hk (by decide)) (by omega) (by have := cnt_8; omega) 6808 (fun k hk => by have := side_up (show k ≤ 9 by omega); rw [side_9] at this; omega) (by omega) (by omega) (fun k hk => side_inv hk (by decide))).mono ?_
  rintro e w6 ⟨rfl, sp, b⟩
  have B6 := hide' (B5.out.trans b)
  have S6 := hide' sp
  clear b sp
  go_wp2_with fail
  refine (cells_any spb w1.heap.size b0 s0 6808 (ovrF qW qH ys r d (ovrF W H xs 0 0 fun _ _ => 0)) (22 + 80 + cntQ 8 + 80 + cntQ 10) w6 S6.out x y HXY.out.1 HXY.out.2 (by omega) (fun V hV => HZ.out.below (SV.out V (B6.out.trans hV)).2.2.2.2)).mono ?_
  rintro e w7 ⟨cb, gf, rfl, wn, gv, b⟩
  have B7 := hide' (B6.out.trans (b.mono B6.out.size))
  have WN := hide' wn
  have GV := hide' gv
  have CL := hide' (lt_of_block wn)
  clear b wn gv
  go_upto_region 24 with fail
  obtain ⟨gb, hgb⟩ : ∃ gb, w7.heap.size = gb := ⟨_, rfl⟩
  obtain ⟨w8, hw8⟩ : ∃ w8, w7.alloc (.cells #[.int .i64 20, .int .i64 20, .slice (some ⟨cb, 0, none⟩) 400 400] 26) = w8 := ⟨_, rfl⟩
  have G8 := hide' (show w8.heap[gb]? = some (.cells #[.int .i64 20, .int .i64 20, .slice (some ⟨cb, 0, none⟩) 400 400] 26 (0, 0)) by rw [← hw8, ← hgb]; exact heap_alloc_new _ _)
  have W8 := hide' (show WinA w8 cb 400 gf by rw [← hw8]; exact (heap_alloc_old _ _ CL.out).trans WN.out)
  have B8 := hide' (show Below w1.heap.size w1 w8 by rw [← hw8]; exact B7.out.alloc B7.out.size _)
  rw [hgb, hw8]
  clear hgb hw8
  have TV := hide' (fun (V : World) (hV : Below w8.heap.size w8 V) => show (ArgP V xs a n c ∧ ArgP V ys qa qn qc ∧ V.heap[w.heap.size + 1]? = some (.cells #[.int .i64 (W : Int), .int .i64 (H : Int), .slice a n c] 26 (0, 0)) ∧ V.heap[w.heap.size + 1 + 1]? = some (.cells #[.int .i64 (qW : Int), .int .i64 (qH : Int), .slice qa qn qc] 26 (0, 0)) ∧ Below w.heap.size w V) ∧ V.heap[gb]? = some (.cells #[.int .i64 20, .int .i64 20, .slice (some ⟨cb, 0, none⟩) 400 400] 26 (0, 0)) ∧ WinA V cb 400 gf from
    ⟨SV.out V (B8.out.trans (hV.mono B8.out.size)), (hV.block _ (lt_of_block G8.out)).trans G8.out, W8.out.below hV⟩)
  clear S2 S3 S4 S5 S6 B2 B3 B4 B5 B6 B7 WN CL G8 W8
  go_loopw [23] (fun iv wr => ∃ i : Nat, iv = .int .i64 (i : Int) ∧ i ≤ 400 ∧ Hid (Below w8.heap.size w8 wr)) (fun iv _ => 400 - (intOf iv).toNat)
  case atStart => exact ⟨0, rfl, by omega, hide' (Below.refl _ _)⟩
  case round =>
    obtain ⟨i, rfl, hi, BW⟩ := hrel
    by_cases di : i < 400
    · have l1 : (i : Int) < 400 := by omega
      obtain ⟨u, hu⟩ : ∃ u, x + (i : Int) % 20 = u := ⟨_, rfl⟩
      obtain ⟨v, hv⟩ : ∃ v, y + (i : Int) / 20 = v := ⟨_, rfl⟩
      have UB := hide' (show -200 ≤ u ∧ u ≤ 220 ∧ -200 ≤ v ∧ v ≤ 220 by have := HXY.out; omega)
      have E1 := hide' (show wrap64 (x + (i : Int) % 20) = u by have := HXY.out; rw [hu]; unfold wrap64; omega)
      have E2 := hide' (show wrap64 (y + (i : Int) / 20) = v by have := HXY.out; rw [hv]; unfold wrap64; omega)
      have GI := hide' (show gf i = ovrF qW qH ys r d (ovrF W H xs 0 0 fun _ _ => 0) u v by
        have h := GV.out (i % 20) (i / 20) (by omega) (by omega)
        rw [show i / 20 * 20 + i % 20 = i by omega, show x + ((i % 20 : Nat) : Int) = u by omega, show y + ((i / 20 : Nat) : Int) = v by omega] at h
        exact h)
      obtain ⟨⟨A, Q, P, D, LL⟩, G, WI⟩ := TV.out wr BW.out
      have y0 := cell_of_row wr _ 0 _ _ _ P
      have y1 := cell_of_row wr _ 1 _ _ _ P
      have y2 := cell_of_row wr _ 2 _ _ _ P
      simp at y0 y1 y2
      have HU := hide' (And.intro hu hv)
      clear hu hv Q P D LL G WI
      go_wp2_with fail
      rw [HU.out.1, HU.out.2]
      refine (At_any W H xs a n c u v wr A HS1.out.2.1.1 HS1.out.2.1.2 (by rw [HL.out.1]; exact HS1.out.2.2.1)).mono ?_
      obtain ⟨z, hz⟩ : ∃ z, atH W H xs u v = z := ⟨_, rfl⟩
      rw [hz]
      rintro e w9 ⟨rfl, b⟩
      have BX := hide' (BW.out.trans (b.mono BW.out.size))
      clear b A y0 y1 y2
      obtain ⟨⟨A, Q, P, D, LL⟩, G, WI⟩ := TV.out w9 BX.out
      have y0 := cell_of_row w9 _ 0 _ _ _ D
      have y1 := cell_of_row w9 _ 1 _ _ _ D
      have y2 := cell_of_row w9 _ 2 _ _ _ D
      have g2 := cell_of_row w9 _ 2 _ _ _ G
      simp at y0 y1 y2 g2
      have gc := win_cell WI di
      clear A P D LL G WI
      obtain ⟨R, hR⟩ : ∃ R, r + (qW : Int) = R := ⟨_, rfl⟩
      obtain ⟨T, hT⟩ : ∃ T, d + (qH : Int) = T := ⟨_, rfl⟩
      have wR : IntKind.i64.wrap R = R := by have := HRD.out; have := HS2.out.2.1; simp [IntKind.wrap, IntKind.bits, IntKind.signed]; omega
      have wT : IntKind.i64.wrap T = T := by have := HRD.out; have := HS2.out.2.1; simp [IntKind.wrap, IntKind.bits, IntKind.signed]; omega
      by_cases c1 : u < r
      · have c1' : ¬ r ≤ u := by omega
        have NI : ¬ inP qW qH (u - r) (v - d) := by unfold inP; omega
        have GE : gf i = z := by rw [← hz, ← ovr_out (qW := qW) (qH := qH) (ys := ys) NI]; exact GI.out
        rw [GE] at gc
        clear NI GE hz
        go_wp2
        exact ⟨⟨i + 1, by go_num, by omega, BX⟩, by simp [intOf]; omega⟩
      · have c1' : r ≤ u := by omega
        by_cases c2 : u < R
        · by_cases c3 : v < d
          · have c3' : ¬ d ≤ v := by omega
            have NI : ¬ inP qW qH (u - r) (v - d) := by unfold inP; omega
            have GE : gf i = z := by rw [← hz, ← ovr_out (qW := qW) (qH := qH) (ys := ys) NI]; exact GI.out
            rw [GE] at gc
            clear NI GE hz
            go_wp2
            exact ⟨⟨i + 1, by go_num, by omega, BX⟩, by simp [intOf]; omega⟩
          · have c3' : d ≤ v := by omega
            by_cases c4 : v < T
            · have YI := hide' (show inP qW qH (u - r) (v - d) by unfold inP; omega)
              obtain ⟨u1, hu1⟩ : ∃ u1, u - r = u1 := ⟨_, rfl⟩
              obtain ⟨v1, hv1⟩ : ∃ v1, v - d = v1 := ⟨_, rfl⟩
              have wu : IntKind.i64.wrap u1 = u1 := by have := HRD.out; have := UB.out; simp [IntKind.wrap, IntKind.bits, IntKind.signed]; omega
              have wv : IntKind.i64.wrap v1 = v1 := by have := HRD.out; have := UB.out; simp [IntKind.wrap, IntKind.bits, IntKind.signed]; omega
              go_wp2_with fail
              refine (At_any qW qH ys qa qn qc u1 v1 w9 Q HS2.out.2.1.1 HS2.out.2.1.2 (by rw [HL.out.2]; exact HS2.out.2.2.1)).mono ?_
              obtain ⟨z2, hz2⟩ : ∃ z2, atH qW qH ys u1 v1 = z2 := ⟨_, rfl⟩
              rw [hz2]
              rintro e w10 ⟨rfl, b⟩
              have BY := hide' (BX.out.trans (b.mono BX.out.size))
              have GE := hide' (show gf i = z2 by rw [← hz2, ← hu1, ← hv1, ← ovr_in (F := ovrF W H xs 0 0 fun _ _ => 0) YI.out]; exact GI.out)
              clear b Q y0 y1 y2 g2 gc hz2 hu1 hv1 wu wv hR hT wR wT c1 c1' c2 c3 c3' c4 hz
              obtain ⟨⟨A, Q, P, D, LL⟩, G, WI⟩ := TV.out w10 BY.out
              have g2 := cell_of_row w10 _ 2 _ _ _ G
              simp at g2
              have gc := win_cell WI di
              rw [GE.out] at gc
              clear A Q P D LL G WI
              go_wp2
              exact ⟨⟨i + 1, by go_num, by omega, BY⟩, by simp [intOf]; omega⟩
            ·
              have NI : ¬ inP qW qH (u - r) (v - d) := by unfold inP; omega
              have GE : gf i = z := by rw [← hz, ← ovr_out (qW := qW) (qH := qH) (ys := ys) NI]; exact GI.out
              rw [GE] at gc
              clear NI GE hz
              go_wp2
              exact ⟨⟨i + 1, by go_num, by omega, BX⟩, by simp [intOf]; omega⟩
        ·
          have NI : ¬ inP qW qH (u - r) (v - d) := by unfold inP; omega
          have GE : gf i = z := by rw [← hz, ← ovr_out (qW := qW) (qH := qH) (ys := ys) NI]; exact GI.out
          rw [GE] at gc
          clear NI GE hz
          go_wp2
          exact ⟨⟨i + 1, by go_num, by omega, BX⟩, by simp [intOf]; omega⟩
    · have l1 : ¬ (i : Int) < 400 := by omega
      have FIN := hide' (TV.out wr BW.out).1.2.2.2.2
      go_wp2
      go_ret
      exact ⟨rfl, FIN.out⟩
end Go.Proofs.YtelocgefaommmaaDoor

namespace Go.Proofs.YtelocgefaommmaaDoor
open Go.RowKit
set_option linter.unusedVariables false
theorem law_puts_all (o : Out) (ta : Option Addr) (tn tc : Nat) (W H : Int) (xs : List Int) (a : Option Addr) (n c : Nat) (qW qH : Int) (ys : List Int) (qa : Option Addr) (qn qc : Nat) (r d x y : Int) (w : World) (hR : ArgR w o ta tn tc) (hP : ArgP w xs a n c) (hQ : ArgP w ys qa qn qc) (hz : TzTab w) :
    Calls Tryd.prog 3 #[.agg #[.int .i64 o.kind, .int .i64 o.born, .int .i64 o.stay, .int .i64 o.states, .int .i64 o.radius, .slice ta tn tc, .string o.turns], .agg #[.int .i64 W, .int .i64 H, .slice a n c], .agg #[.int .i64 qW, .int .i64 qH, .slice qa qn qc], .int .i64 r, .int .i64 d, .int .i64 x, .int .i64 y] w fun e w' => e = .returned (.bool true) ∧ Below w.heap.size w w' := by
  rcases new_cases o with hn | hy
  · exact law_hp_no o ta tn tc W H a n c qW qH qa qn qc r d x y w hR hn
  · by_cases hbad : shapeF W H xs ≠ 0 ∨ shapeF qW qH ys ≠ 0 ∨ r < -200 ∨ 200 < r ∨ d < -200 ∨ 200 < d ∨ x < -200 ∨ 200 < x ∨ y < -200 ∨ 200 < y
    · exact law_hp_bail o ta tn tc W H xs a n c qW qH ys qa qn qc r d x y w hR hy hP hQ hbad
    · have f1 : shapeF W H xs = 0 := by omega
      have f2 : shapeF qW qH ys = 0 := by omega
      obtain ⟨Wn, Hn, rfl, rfl, hW, hH, hm, hb⟩ := shape_sidesH f1
      obtain ⟨An, Bn, rfl, rfl, hA, hB, hqm, hqb⟩ := shape_sidesH f2
      exact law_hp_main o ta tn tc Wn Hn xs a n c An Bn ys qa qn qc r d x y w hR hy hP hQ hz f1 f2 ⟨hW, hH⟩ ⟨hA, hB⟩ hm hqm hb hqb (by omega) (by omega) (by omega) (by omega)
end Go.Proofs.YtelocgefaommmaaDoor

namespace Go.Proofs.YtelocgefaommmaaDoor
open Go.RowKit Go.Extern.Stop Go.Stop Go.Extern

end Go.Proofs.YtelocgefaommmaaDoor

namespace Go.Proofs.YtelocgefaommmaaDoor
open Go.RowKit

end Go.Proofs.YtelocgefaommmaaDoor

namespace Go.Proofs.YtelocgefaommmaaDoor
open Go.ChangeShapes Go.WideShapes Go.ChangeAt Go.RowKit
open Go.ChangeMaps (setBlock shut_map_nil open_string shut_string keptBut_setBlock frozen?_setBlock heap_setBlock_same)
set_option linter.unusedVariables false

theorem laidOutP : laidOutB Tryd.prog = true := by kernel_rfl
theorem ownP : ownKnob Tryd.prog.godebug = none := by kernel_rfl
/-- A list of ints as it is read. -/
theorem ints_arg {H : Type} {enc : TypeId × Value → H} {W : World} {fuel : Nat} {cs : List Value} {x : DataW H × List MemPlace}
    (h : DataW.trod enc Tryd.prog W 0 (fun _ => true) true fuel 22 cs = some x) :
    ∃ (xs : List Int) (a : Option Addr) (c : Nat), cs = [.slice a xs.length c] ∧ ArgP W xs a xs.length c ∧ xs.length ≤ c ∧ c ≤ maxLen := by
  have q3 : Tryd.prog.cellsOf 3 = 1 := by kernel_rfl
  rcases open_ints Tryd.underlying22 Tryd.underlying3 q3 h with ⟨rfl, -⟩ | ⟨a, len, cap, zs, rfl, hb, hlc, hcm, hzl, -, hcell, hwf⟩
  · exact ⟨[], none, 0, rfl, ⟨rfl, by simp, fun k hk => absurd hk (by simp)⟩, by simp, by simp⟩
  · simp only [if_true] at hzl
    have hl : (zs.take len).length = len := by simp; omega
    refine ⟨zs.take len, some a, cap, by rw [hl], ⟨rfl, by omega, fun k hk => ?_⟩, by omega, hcm⟩
    have hk' : k < len ∧ k < zs.length := by simp only [List.length_take] at hk; omega
    have hc0 := hcell 0 (by omega)
    have hck := hcell k hk'.2
    obtain ⟨g, off, sp⟩ := a
    have hsp : sp = none := by
      cases sp with
      | none => rfl
      | some q =>
        exfalso
        simp [Addr.add, World.cell?] at hc0
        split at hc0 <;> simp at hc0
    subst hsp
    have ea : (⟨g, off, none⟩ : Addr).add k = ⟨g, off + k, none⟩ := by
      unfold Addr.add
      split
      · rename_i hz; subst hz; rfl
      · rfl
    rw [ea] at hck
    refine ⟨g, off, rfl, ?_, ?_⟩
    · rcases Nat.lt_or_ge g W.heap.size with q | q
      · exact q
      · simp [World.cell?, Array.getElem?_eq_none q] at hck
    · rw [hck]
      simp [List.getD, hk'.2]

set_option maxRecDepth 100000 in
/-- A pattern that came in. -/
theorem open_pattern {H : Type} {enc : TypeId × Value → H} {W : World} {base : Nat} {v : Value} {d : DataW H} {p : List MemPlace}
    (hv : Value.okWide Tryd.prog W .any base 26 v) (h : DataW.Trod enc Tryd.prog W 0 (fun _ => true) true 26 v d p) :
    ∃ (w h : Int) (xs : List Int) (a : Option Addr) (c : Nat), v = .agg #[.int .i64 w, .int .i64 h, .slice a xs.length c] ∧ ArgP W xs a xs.length c ∧ xs.length ≤ c ∧ c ≤ maxLen := by
  obtain ⟨cs, rfl, hsz⟩ := okWide_struct Tryd.underlying26 hv
  obtain ⟨fuel, h⟩ := h
  obtain ⟨xs, m, _, hx, hl, hlen, hf⟩ := DataW.trod_struct Tryd.underlying26 h
  have f0 := hf 0 _ rfl
  have f1 := hf 1 _ rfl
  have f2 := hf 2 _ rfl
  clear hf hx h hv hl
  have q3 : Tryd.prog.cellsOf 3 = 1 := by kernel_rfl
  have k22 : Tryd.prog.cellsOf 22 = 1 := by kernel_rfl
  rw [show Tryd.prog.cellsOf 26 = 3 by kernel_rfl] at hsz
  obtain ⟨cl⟩ := cs
  match cl, hsz with
  | [c0, c1, c2], _ =>
  match xs, hlen with
  | [y0, y1, y2], _ =>
  simp [Value.cells, q3, k22] at f0 f1 f2
  obtain ⟨k0, e0, -, w0⟩ := DataW.trod_int Tryd.underlying3 f0
  obtain ⟨k1, e1, -, w1⟩ := DataW.trod_int Tryd.underlying3 f1
  obtain ⟨zs, a, c, e2, ha, h1, h2⟩ := ints_arg f2
  simp only [List.cons.injEq, and_true] at e0 e1 e2
  subst e0 e1 e2
  exact ⟨k0, k1, zs, a, c, rfl, ha, h1, h2⟩

end Go.Proofs.YtelocgefaommmaaDoor

