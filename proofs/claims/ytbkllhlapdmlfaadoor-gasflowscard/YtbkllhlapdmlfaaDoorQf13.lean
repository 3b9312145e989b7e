/-
  What the last text of this claim leans on, part 13: Gb8.
-/
import Derived.Test.YtbkllhlapdmlfaaDoorQf12
import Derived.Test.YtbkllhlapdmlfaaDoorQf5
import Derived.Deep.CutRange
namespace Go.Proofs.YtbkllhlapdmlfaaDoor
open Go.RowKit
set_option linter.unusedVariables false
/-- The sum of the directions, to the right and up, of the first so many. -/
def pushR (K : Nat) (f : Nat → Nat) (n : Nat) : Nat → Int
  | 0 => 0
  | d + 1 => pushR K f n d + (headN f d n : Int) * reG K d
def pushU (K : Nat) (f : Nat → Nat) (n : Nat) : Nat → Int
  | 0 => 0
  | d + 1 => pushU K f n d + (headN f d n : Int) * imG K d
theorem mul_near {h : Nat} {z : Int} (hz : -1 ≤ z ∧ z ≤ 1) : ((h : Int) * z).natAbs ≤ h := by
  rcases (by omega : z = -1 ∨ z = 0 ∨ z = 1) with rfl | rfl | rfl <;> simp
theorem pushR_near (K : Nat) (f : Nat → Nat) (n : Nat) : ∀ d, (pushR K f n d).natAbs ≤ d * n
  | 0 => by simp [pushR]
  | d + 1 => by
    have h1 := pushR_near K f n d
    have h2 := mul_near (h := headN f d n) (reG_near K d)
    have h3 := headN_le f d n
    rw [pushR, Nat.add_mul, Nat.one_mul]
    omega
theorem pushU_near (K : Nat) (f : Nat → Nat) (n : Nat) : ∀ d, (pushU K f n d).natAbs ≤ d * n
  | 0 => by simp [pushU]
  | d + 1 => by
    have h1 := pushU_near K f n d
    have h2 := mul_near (h := headN f d n) (imG_near K d)
    have h3 := headN_le f d n
    rw [pushU, Nat.add_mul, Nat.one_mul]
    omega
theorem IsI_fI {n : Int} (h : n.natAbs ≤ 1000000) : IsI (fI n) n := IsI_of n (by omega)
set_option maxRecDepth 100000 in
set_option maxHeartbeats 6400000 in
theorem push_4 (W H : Int) (f : Nat → Nat) (a : Option Addr) (n c : Nat) (w : World) (hP : ArgP w ((List.range n).map fun i => (f i : Int)) a n c) (h0 : gasE 4 W H ((List.range n).map fun i => (f i : Int)) = 0) (hf : ∀ i, f i ≤ 63) (hn : n ≤ 10000) :
    Calls Tryd.prog 28 #[.agg #[.int .i64 4, .int .i64 W, .int .i64 H, .slice a n c]] w fun e w' => e = .returned (.tuple #[.int .i64 (pushR 4 f n 4), .int .i64 (pushU 4 f n 4), .nilIface]) ∧ Below w.heap.size w w' := by
  obtain ⟨w1, hw1⟩ : ∃ w1, w.alloc (.cells #[.int .i64 4, .int .i64 W, .int .i64 H, .slice a n c] 49) = w1 := ⟨_, rfl⟩
  have BB := hide' (show Below w.heap.size w w1 by rw [← hw1]; exact (Below.refl _ _).alloc (Nat.le_refl _) _)
  have g1 : w1.heap[w.heap.size]? = some (.cells #[.int .i64 4, .int .i64 W, .int .i64 H, .slice a n c] 49 (0, 0)) := by rw [← hw1]; exact heap_alloc_new _ _
  have SV := hide' (fun (V : World) (h : Below w1.heap.size w1 V) => show V.cell? ⟨w.heap.size, 0, none⟩ = some (.int .i64 4) ∧ V.cell? ⟨w.heap.size, 1, none⟩ = some (.int .i64 W) ∧ V.cell? ⟨w.heap.size, 2, none⟩ = some (.int .i64 H) ∧ V.cell? ⟨w.heap.size, 3, none⟩ = some (.slice a n c) from by
    have e1 := (h.block _ (lt_of_block g1)).trans g1
    exact ⟨cell_of_row V _ 0 _ _ _ e1, cell_of_row V _ 1 _ _ _ e1, cell_of_row V _ 2 _ _ _ e1, cell_of_row V _ 3 _ _ _ e1⟩)
  have CC := hide' (Check_G 4 W H _ a n c w1 (hP.below BB.out))
  rw [h0, show errOf 0 = .nilIface from rfl] at CC
  have DC := hide' (fun V => directions_any 4 V (by omega))
  have HP := hide' (fun (V : World) (hV : Below w.heap.size w V) => hP.below hV)
  have HF := hide' hf
  have RN := hide' (pushR_near 4 f n)
  have UN := hide' (pushU_near 4 f n)
  obtain ⟨R, hR⟩ : ∃ R, pushR 4 f n 4 = R := ⟨_, rfl⟩
  obtain ⟨U, hU⟩ : ∃ U, pushU 4 f n 4 = U := ⟨_, rfl⟩
  rw [hR, hU]
  have RH := hide' hR
  have UH := hide' hU
  obtain ⟨c0, c1, c2, c3⟩ := SV.out w1 (Below.refl _ _)
  clear hP hf g1 h0 hR hU
  go_enter Tryd.func28, Tryd.ntmps28
  go_upto_region 1 with fail
  clear hw1
  go_wp2_with fail
  refine CC.out.mono ?_
  rintro e w2 ⟨rfl, b⟩
  have B2 := hide' (BB.out.trans (b.mono BB.out.size))
  have C2 := hide' b
  clear c0 c1 c2 c3 b
  obtain ⟨c0, c1, c2, c3⟩ := SV.out w2 C2.out
  go_wp2_with fail
  refine (DC.out _).mono ?_
  rintro e w3 ⟨rfl, di, z3, b⟩
  have B3 := hide' (B2.out.trans (b.mono B2.out.size))
  have C3 := hide' (C2.out.trans (b.mono C2.out.size))
  have DI3 := hide' di
  clear c0 c1 c2 c3 b di z3
  obtain ⟨g, hg⟩ : ∃ g, w2.heap.size = g := ⟨_, rfl⟩
  rw [hg] at DI3
  go_upto_region 6 with fail
  try rw [hg]
  clear hg
  go_loopw [6, 18] (fun pv iv wr => ∃ (i br bi : Nat), iv = .int .i64 (i : Int) ∧ pv = .complex .f64 br bi ∧ i ≤ 4 ∧ Hid (IsI br (pushR 4 f n i)) ∧ Hid (IsI bi (pushU 4 f n i)) ∧ wr = w3) (fun _ iv _ => ((4 : Int) - intOf iv).toNat)
  case atStart => exact ⟨0, 0, 0, by go_num, rfl, by omega, hide' IsI_zero, hide' IsI_zero, rfl⟩
  case round =>
    obtain ⟨i, br, bi, rfl, rfl, hi, HB, HI, rfl⟩ := hrel
    obtain ⟨c0, c1, c2, c3⟩ := SV.out _ C3.out
    rcases (by omega : i = 0 ∨ i = 1 ∨ i = 2 ∨ i = 3 ∨ i = 4) with rfl | rfl | rfl | rfl | rfl
    · have hl := headN_le f 0 n
      have HC := hide' (fun V hV => heading_0 f a n c V (HP.out V hV) HF.out hn)
      have rn := reG_near 4 0
      have imn := imG_near 4 0
      have cd := DI3.out 0 (by omega)
      obtain ⟨x, y, e1, i1, i2⟩ := cmul_int (IsI_of (headN f 0 n : Int) (by omega)) (IsI_fI (n := reG 4 0) (by omega)) (IsI_fI (n := imG 4 0) (by omega)) (by omega) rn imn
      have p1 := RN.out 1
      have p2 := UN.out 1
      rw [pushR] at p1
      rw [pushU] at p2
      obtain ⟨x', y', e2, i3, i4⟩ := csum_int HB.out HI.out i1 i2 (by omega) (by omega)
      have hmul := fun t V => run_complex_mul (P := Tryd.prog) V t _ _ _ _ _ _ e1
      have hadd := fun t V => run_complex_sum (P := Tryd.prog) V .add (Or.inl rfl) t .f64 _ _ _ _ _ _ e2
      have N1 := hide' (show IsI x' (pushR 4 f n 1) from i3)
      have N2 := hide' (show IsI y' (pushU 4 f n 1) from i4)
      obtain ⟨q3, hq3⟩ : ∃ q, fI (reG 4 0) = q := ⟨_, rfl⟩
      obtain ⟨q4, hq4⟩ : ∃ q, fI (imG 4 0) = q := ⟨_, rfl⟩
      rw [hq3, hq4] at cd hmul
      obtain ⟨u, hu⟩ : ∃ u, headN f 0 n = u := ⟨_, rfl⟩
      rw [hu] at HC hmul
      obtain ⟨bu, hbu⟩ : ∃ b, floatOfInt .f64 (u : Int) = b := ⟨_, rfl⟩
      rw [hbu] at hmul
      clear hq3 hq4 hu e1 e2 i1 i2 i3 i4 p1 p2 rn imn hl
      go_wp2_with fail
      refine (HC.out _ B3.out).mono ?_
      rintro e w4 ⟨rfl, rfl⟩
      go_wp2
      exact ⟨⟨1, x', y', by go_num, rfl, by omega, N1, N2, by simp⟩, by simp [intOf]⟩
    · have hl := headN_le f 1 n
      have HC := hide' (fun V hV => heading_1 f a n c V (HP.out V hV) HF.out hn)
      have rn := reG_near 4 1
      have imn := imG_near 4 1
      have cd := DI3.out 1 (by omega)
      obtain ⟨x, y, e1, i1, i2⟩ := cmul_int (IsI_of (headN f 1 n : Int) (by omega)) (IsI_fI (n := reG 4 1) (by omega)) (IsI_fI (n := imG 4 1) (by omega)) (by omega) rn imn
      have p1 := RN.out 2
      have p2 := UN.out 2
      rw [pushR] at p1
      rw [pushU] at p2
      obtain ⟨x', y', e2, i3, i4⟩ := csum_int HB.out HI.out i1 i2 (by omega) (by omega)
      have hmul := fun t V => run_complex_mul (P := Tryd.prog) V t _ _ _ _ _ _ e1
      have hadd := fun t V => run_complex_sum (P := Tryd.prog) V .add (Or.inl rfl) t .f64 _ _ _ _ _ _ e2
      have N1 := hide' (show IsI x' (pushR 4 f n 2) from i3)
      have N2 := hide' (show IsI y' (pushU 4 f n 2) from i4)
      obtain ⟨q3, hq3⟩ : ∃ q, fI (reG 4 1) = q := ⟨_, rfl⟩
      obtain ⟨q4, hq4⟩ : ∃ q, fI (imG 4 1) = q := ⟨_, rfl⟩
      rw [hq3, hq4] at cd hmul
      obtain ⟨u, hu⟩ : ∃ u, headN f 1 n = u := ⟨_, rfl⟩
      rw [hu] at HC hmul
      obtain ⟨bu, hbu⟩ : ∃ b, floatOfInt .f64 (u : Int) = b := ⟨_, rfl⟩
      rw [hbu] at hmul
      clear hq3 hq4 hu e1 e2 i1 i2 i3 i4 p1 p2 rn imn hl
      go_wp2_with fail
      refine (HC.out _ B3.out).mono ?_
      rintro e w4 ⟨rfl, rfl⟩
      go_wp2
      exact ⟨⟨2, x', y', by go_num, rfl, by omega, N1, N2, by simp⟩, by simp [intOf]⟩
    · have hl := headN_le f 2 n
      have HC := hide' (fun V hV => heading_2 f a n c V (HP.out V hV) HF.out hn)
      have rn := reG_near 4 2
      have imn := imG_near 4 2
      have cd := DI3.out 2 (by omega)
      obtain ⟨x, y, e1, i1, i2⟩ := cmul_int (IsI_of (headN f 2 n : Int) (by omega)) (IsI_fI (n := reG 4 2) (by omega)) (IsI_fI (n := imG 4 2) (by omega)) (by omega) rn imn
      have p1 := RN.out 3
      have p2 := UN.out 3
      rw [pushR] at p1
      rw [pushU] at p2
      obtain ⟨x', y', e2, i3, i4⟩ := csum_int HB.out HI.out i1 i2 (by omega) (by omega)
      have hmul := fun t V => run_complex_mul (P := Tryd.prog) V t _ _ _ _ _ _ e1
      have hadd := fun t V => run_complex_sum (P := Tryd.prog) V .add (Or.inl rfl) t .f64 _ _ _ _ _ _ e2
      have N1 := hide' (show IsI x' (pushR 4 f n 3) from i3)
      have N2 := hide' (show IsI y' (pushU 4 f n 3) from i4)
      obtain ⟨q3, hq3⟩ : ∃ q, fI (reG 4 2) = q := ⟨_, rfl⟩
      obtain ⟨q4, hq4⟩ : ∃ q, fI (imG 4 2) = q := ⟨_, rfl⟩
      rw [hq3, hq4] at cd hmul
      obtain ⟨u, hu⟩ : ∃ u, headN f 2 n = u := ⟨_, rfl⟩
      rw [hu] at HC hmul
      obtain ⟨bu, hbu⟩ : ∃ b, floatOfInt .f64 (u : Int) = b := ⟨_, rfl⟩
      rw [hbu] at hmul
      clear hq3 hq4 hu e1 e2 i1 i2 i3 i4 p1 p2 rn imn hl
      go_wp2_with fail
      refine (HC.out _ B3.out).mono ?_
      rintro e w4 ⟨rfl, rfl⟩
      go_wp2
      exact ⟨⟨3, x', y', by go_num, rfl, by omega, N1, N2, by simp⟩, by simp [intOf]⟩
    · have hl := headN_le f 3 n
      have HC := hide' (fun V hV => heading_3 f a n c V (HP.out V hV) HF.out hn)
      have rn := reG_near 4 3
      have imn := imG_near 4 3
      have cd := DI3.out 3 (by omega)
      obtain ⟨x, y, e1, i1, i2⟩ := cmul_int (IsI_of (headN f 3 n : Int) (by omega)) (IsI_fI (n := reG 4 3) (by omega)) (IsI_fI (n := imG 4 3) (by omega)) (by omega) rn imn
      have p1 := RN.out 4
      have p2 := UN.out 4
      rw [pushR] at p1
      rw [pushU] at p2
      obtain ⟨x', y', e2, i3, i4⟩ := csum_int HB.out HI.out i1 i2 (by omega) (by omega)
      have hmul := fun t V => run_complex_mul (P := Tryd.prog) V t _ _ _ _ _ _ e1
      have hadd := fun t V => run_complex_sum (P := Tryd.prog) V .add (Or.inl rfl) t .f64 _ _ _ _ _ _ e2
      have N1 := hide' (show IsI x' (pushR 4 f n 4) from i3)
      have N2 := hide' (show IsI y' (pushU 4 f n 4) from i4)
      obtain ⟨q3, hq3⟩ : ∃ q, fI (reG 4 3) = q := ⟨_, rfl⟩
      obtain ⟨q4, hq4⟩ : ∃ q, fI (imG 4 3) = q := ⟨_, rfl⟩
      rw [hq3, hq4] at cd hmul
      obtain ⟨u, hu⟩ : ∃ u, headN f 3 n = u := ⟨_, rfl⟩
      rw [hu] at HC hmul
      obtain ⟨bu, hbu⟩ : ∃ b, floatOfInt .f64 (u : Int) = b := ⟨_, rfl⟩
      rw [hbu] at hmul
      clear hq3 hq4 hu e1 e2 i1 i2 i3 i4 p1 p2 rn imn hl
      go_wp2_with fail
      refine (HC.out _ B3.out).mono ?_
      rintro e w4 ⟨rfl, rfl⟩
      go_wp2
      exact ⟨⟨4, x', y', by go_num, rfl, by omega, N1, N2, by simp⟩, by simp [intOf]⟩
    · have p1 := RN.out 4
      have p2 := UN.out 4
      have i1 := HB.out
      have i2 := HI.out
      rw [RH.out] at p1 i1
      rw [UH.out] at p2 i2
      have hc1 := fun V => run_convert_float_int (P := Tryd.prog) V 141 3 .f64 .i64 br R (by rw [Tryd.underlying141]; rfl) Tryd.underlying3 (IsI_toInt i1 (by omega))
      have hc2 := fun V => run_convert_float_int (P := Tryd.prog) V 141 3 .f64 .i64 bi U (by rw [Tryd.underlying141]; rfl) Tryd.underlying3 (IsI_toInt i2 (by omega))
      clear p1 p2 i1 i2 c0 c1 c2 c3
      go_wp2
      refine bodyPost_ret (v := .tuple #[.int .i64 R, .int .i64 U, .nilIface]) (by simp [results, Tryd.results28, go_sem]) rfl ?_
      exact ⟨rfl, B3.out⟩
set_option maxRecDepth 100000 in
set_option maxHeartbeats 6400000 in
theorem push_6 (W H : Int) (f : Nat → Nat) (a : Option Addr) (n c : Nat) (w : World) (hP : ArgP w ((List.range n).map fun i => (f i : Int)) a n c) (h0 : gasE 6 W H ((List.range n).map fun i => (f i : Int)) = 0) (hf : ∀ i, f i ≤ 63) (hn : n ≤ 10000) :
    Calls Tryd.prog 28 #[.agg #[.int .i64 6, .int .i64 W, .int .i64 H, .slice a n c]] w fun e w' => e = .returned (.tuple #[.int .i64 (pushR 6 f n 6), .int .i64 (pushU 6 f n 6), .nilIface]) ∧ Below w.heap.size w w' := by
  obtain ⟨w1, hw1⟩ : ∃ w1, w.alloc (.cells #[.int .i64 6, .int .i64 W, .int .i64 H, .slice a n c] 49) = w1 := ⟨_, rfl⟩
  have BB := hide' (show Below w.heap.size w w1 by rw [← hw1]; exact (Below.refl _ _).alloc (Nat.le_refl _) _)
  have g1 : w1.heap[w.heap.size]? = some (.cells #[.int .i64 6, .int .i64 W, .int .i64 H, .slice a n c] 49 (0, 0)) := by rw [← hw1]; exact heap_alloc_new _ _
  have SV := hide' (fun (V : World) (h : Below w1.heap.size w1 V) => show V.cell? ⟨w.heap.size, 0, none⟩ = some (.int .i64 6) ∧ V.cell? ⟨w.heap.size, 1, none⟩ = some (.int .i64 W) ∧ V.cell? ⟨w.heap.size, 2, none⟩ = some (.int .i64 H) ∧ V.cell? ⟨w.heap.size, 3, none⟩ = some (.slice a n c) from by
    have e1 := (h.block _ (lt_of_block g1)).trans g1
    exact ⟨cell_of_row V _ 0 _ _ _ e1, cell_of_row V _ 1 _ _ _ e1, cell_of_row V _ 2 _ _ _ e1, cell_of_row V _ 3 _ _ _ e1⟩)
  have CC := hide' (Check_G 6 W H _ a n c w1 (hP.below BB.out))
  rw [h0, show errOf 0 = .nilIface from rfl] at CC
  have DC := hide' (fun V => directions_any 6 V (by omega))
  have HP := hide' (fun (V : World) (hV : Below w.heap.size w V) => hP.below hV)
  have HF := hide' hf
  have RN := hide' (pushR_near 6 f n)
  have UN := hide' (pushU_near 6 f n)
  obtain ⟨R, hR⟩ : ∃ R, pushR 6 f n 6 = R := ⟨_, rfl⟩
  obtain ⟨U, hU⟩ : ∃ U, pushU 6 f n 6 = U := ⟨_, rfl⟩
  rw [hR, hU]
  have RH := hide' hR
  have UH := hide' hU
  obtain ⟨c0, c1, c2, c3⟩ := SV.out w1 (Below.refl _ _)
  clear hP hf g1 h0 hR hU
  go_enter Tryd.func28, Tryd.ntmps28
  go_upto_region 1 with fail
  clear hw1
  go_wp2_with fail
  refine CC.out.mono ?_
  rintro e w2 ⟨rfl, b⟩
  have B2 := hide' (BB.out.trans (b.mono BB.out.size))
  have C2 := hide' b
  clear c0 c1 c2 c3 b
  obtain ⟨c0, c1, c2, c3⟩ := SV.out w2 C2.out
  go_wp2_with fail
  refine (DC.out _).mono ?_
  rintro e w3 ⟨rfl, di, z3, b⟩
  have B3 := hide' (B2.out.trans (b.mono B2.out.size))
  have C3 := hide' (C2.out.trans (b.mono C2.out.size))
  have DI3 := hide' di
  clear c0 c1 c2 c3 b di z3
  obtain ⟨g, hg⟩ : ∃ g, w2.heap.size = g := ⟨_, rfl⟩
  rw [hg] at DI3
  go_upto_region 6 with fail
  try rw [hg]
  clear hg
  go_loopw [6, 18] (fun pv iv wr => ∃ (i br bi : Nat), iv = .int .i64 (i : Int) ∧ pv = .complex .f64 br bi ∧ i ≤ 6 ∧ Hid (IsI br (pushR 6 f n i)) ∧ Hid (IsI bi (pushU 6 f n i)) ∧ wr = w3) (fun _ iv _ => ((6 : Int) - intOf iv).toNat)
  case atStart => exact ⟨0, 0, 0, by go_num, rfl, by omega, hide' IsI_zero, hide' IsI_zero, rfl⟩
  case round =>
    obtain ⟨i, br, bi, rfl, rfl, hi, HB, HI, rfl⟩ := hrel
    obtain ⟨c0, c1, c2, c3⟩ := SV.out _ C3.out
    rcases (by omega : i = 0 ∨ i = 1 ∨ i = 2 ∨ i = 3 ∨ i = 4 ∨ i = 5 ∨ i = 6) with rfl | rfl | rfl | rfl | rfl | rfl | rfl
    · have hl := headN_le f 0 n
      have HC := hide' (fun V hV => heading_0 f a n c V (HP.out V hV) HF.out hn)
      have rn := reG_near 6 0
      have imn := imG_near 6 0
      have cd := DI3.out 0 (by omega)
      obtain ⟨x, y, e1, i1, i2⟩ := cmul_int (IsI_of (headN f 0 n : Int) (by omega)) (IsI_fI (n := reG 6 0) (by omega)) (IsI_fI (n := imG 6 0) (by omega)) (by omega) rn imn
      have p1 := RN.out 1
      have p2 := UN.out 1
      rw [pushR] at p1
      rw [pushU] at p2
      obtain ⟨x', y', e2, i3, i4⟩ := csum_int HB.out HI.out i1 i2 (by omega) (by omega)
      have hmul := fun t V => run_complex_mul (P := Tryd.prog) V t _ _ _ _ _ _ e1
      have hadd := fun t V => run_complex_sum (P := Tryd.prog) V .add (Or.inl rfl) t .f64 _ _ _ _ _ _ e2
      have N1 := hide' (show IsI x' (pushR 6 f n 1) from i3)
      have N2 := hide' (show IsI y' (pushU 6 f n 1) from i4)
      obtain ⟨q3, hq3⟩ : ∃ q, fI (reG 6 0) = q := ⟨_, rfl⟩
      obtain ⟨q4, hq4⟩ : ∃ q, fI (imG 6 0) = q := ⟨_, rfl⟩
      rw [hq3, hq4] at cd hmul
      obtain ⟨u, hu⟩ : ∃ u, headN f 0 n = u := ⟨_, rfl⟩
      rw [hu] at HC hmul
      obtain ⟨bu, hbu⟩ : ∃ b, floatOfInt .f64 (u : Int) = b := ⟨_, rfl⟩
      rw [hbu] at hmul
      clear hq3 hq4 hu e1 e2 i1 i2 i3 i4 p1 p2 rn imn hl
      go_wp2_with fail
      refine (HC.out _ B3.out).mono ?_
      rintro e w4 ⟨rfl, rfl⟩
      go_wp2
      exact ⟨⟨1, x', y', by go_num, rfl, by omega, N1, N2, by simp⟩, by simp [intOf]⟩
    · have hl := headN_le f 1 n
      have HC := hide' (fun V hV => heading_1 f a n c V (HP.out V hV) HF.out hn)
      have rn := reG_near 6 1
      have imn := imG_near 6 1
      have cd := DI3.out 1 (by omega)
      obtain ⟨x, y, e1, i1, i2⟩ := cmul_int (IsI_of (headN f 1 n : Int) (by omega)) (IsI_fI (n := reG 6 1) (by omega)) (IsI_fI (n := imG 6 1) (by omega)) (by omega) rn imn
      have p1 := RN.out 2
      have p2 := UN.out 2
      rw [pushR] at p1
      rw [pushU] at p2
      obtain ⟨x', y', e2, i3, i4⟩ := csum_int HB.out HI.out i1 i2 (by omega) (by omega)
      have hmul := fun t V => run_complex_mul (P := Tryd.prog) V t _ _ _ _ _ _ e1
      have hadd := fun t V => run_complex_sum (P := Tryd.prog) V .add (Or.inl rfl) t .f64 _ _ _ _ _ _ e2
      have N1 := hide' (show IsI x' (pushR 6 f n 2) from i3)
      have N2 := hide' (show IsI y' (pushU 6 f n 2) from i4)
      obtain ⟨q3, hq3⟩ : ∃ q, fI (reG 6 1) = q := ⟨_, rfl⟩
      obtain ⟨q4, hq4⟩ : ∃ q, fI (imG 6 1) = q := ⟨_, rfl⟩
      rw [hq3, hq4] at cd hmul
      obtain ⟨u, hu⟩ : ∃ u, headN f 1 n = u := ⟨_, rfl⟩
      rw [hu] at HC hmul
      obtain ⟨bu, hbu⟩ : ∃ b, floatOfInt .f64 (u : Int) = b := ⟨_, rfl⟩
      rw [hbu] at hmul
      clear hq3 hq4 hu e1 e2 i1 i2 i3 i4 p1 p2 rn imn hl
      go_wp2_with fail
      refine (HC.out _ B3.out).mono ?_
      rintro e w4 ⟨rfl, rfl⟩
      go_wp2
      exact ⟨⟨2, x', y', by go_num, rfl, by omega, N1, N2, by simp⟩, by simp [intOf]⟩
    · have hl := headN_le f 2 n
      have HC := hide' (fun V hV => heading_2 f a n c V (HP.out V hV) HF.out hn)
      have rn := reG_near 6 2
      have imn := imG_near 6 2
      have cd := DI3.out 2 (by omega)
      obtain ⟨x, y, e1, i1, i2⟩ := cmul_int (IsI_of (headN f 2 n : Int) (by omega)) (IsI_fI (n := reG 6 2) (by omega)) (IsI_fI (n := imG 6 2) (by omega)) (by omega) rn imn
      have p1 := RN.out 3
      have p2 := UN.out 3
      rw [pushR] at p1
      rw [pushU] at p2
      obtain ⟨x', y', e2, i3, i4⟩ := csum_int HB.out HI.out i1 i2 (by omega) (by omega)
      have hmul := fun t V => run_complex_mul (P := Tryd.prog) V t _ _ _ _ _ _ e1
      have hadd := fun t V => run_complex_sum (P := Tryd.prog) V .add (Or.inl rfl) t .f64 _ _ _ _ _ _ e2
      have N1 := hide' (show IsI x' (pushR 6 f n 3) from i3)
      have N2 := hide' (show IsI y' (pushU 6 f n 3) from i4)
      obtain ⟨q3, hq3⟩ : ∃ q, fI (reG 6 2) = q := ⟨_, rfl⟩
      obtain ⟨q4, hq4⟩ : ∃ q, fI (imG 6 2) = q := ⟨_, rfl⟩
      rw [hq3, hq4] at cd hmul
      obtain ⟨u, hu⟩ : ∃ u, headN f 2 n = u := ⟨_, rfl⟩
      rw [hu] at HC hmul
      obtain ⟨bu, hbu⟩ : ∃ b, floatOfInt .f64 (u : Int) = b := ⟨_, rfl⟩
      rw [hbu] at hmul
      clear hq3 hq4 hu e1 e2 i1 i2 i3 i4 p1 p2 rn imn hl
      go_wp2_with fail
      refine (HC.out _ B3.out).mono ?_
      rintro e w4 ⟨rfl, rfl⟩
      go_wp2
      exact ⟨⟨3, x', y', by go_num, rfl, by omega, N1, N2, by simp⟩, by simp [intOf]⟩
    · have hl := headN_le f 3 n
      have HC := hide' (fun V hV => heading_3 f a n c V (HP.out V hV) HF.out hn)
      have rn := reG_near 6 3
      have imn := imG_near 6 3
      have cd := DI3.out 3 (by omega)
      obtain ⟨x, y, e1, i1, i2⟩ := cmul_int (IsI_of (headN f 3 n : Int) (by omega)) (IsI_fI (n := reG 6 3) (by omega)) (IsI_fI (n := imG 6 3) (by omega)) (by omega) rn imn
      have p1 := RN.out 4
      have p2 := UN.out 4
      rw [pushR] at p1
      rw [pushU] at p2
      obtain ⟨x', y', e2, i3, i4⟩ := csum_int HB.out HI.out i1 i2 (by omega) (by omega)
      have hmul := fun t V => run_complex_mul (P := Tryd.prog) V t _ _ _ _ _ _ e1
      have hadd := fun t V => run_complex_sum (P := Tryd.prog) V .add (Or.inl rfl) t .f64 _ _ _ _ _ _ e2
      have N1 := hide' (show IsI x' (pushR 6 f n 4) from i3)
      have N2 := hide' (show IsI y' (pushU 6 f n 4) from i4)
      obtain ⟨q3, hq3⟩ : ∃ q, fI (reG 6 3) = q := ⟨_, rfl⟩
      obtain ⟨q4, hq4⟩ : ∃ q, fI (imG 6 3) = q := ⟨_, rfl⟩
      rw [hq3, hq4] at cd hmul
      obtain ⟨u, hu⟩ : ∃ u, headN f 3 n = u := ⟨_, rfl⟩
      rw [hu] at HC hmul
      obtain ⟨bu, hbu⟩ : ∃ b, floatOfInt .f64 (u : Int) = b := ⟨_, rfl⟩
      rw [hbu] at hmul
      clear hq3 hq4 hu e1 e2 i1 i2 i3 i4 p1 p2 rn imn hl
      go_wp2_with fail
      refine (HC.out _ B3.out).mono ?_
      rintro e w4 ⟨rfl, rfl⟩
      go_wp2
      exact ⟨⟨4, x', y', by go_num, rfl, by omega, N1, N2, by simp⟩, by simp [intOf]⟩
    · have hl := headN_le f 4 n
      have HC := hide' (fun V hV => heading_4 f a n c V (HP.out V hV) HF.out hn)
      have rn := reG_near 6 4
      have imn := imG_near 6 4
      have cd := DI3.out 4 (by omega)
      obtain ⟨x, y, e1, i1, i2⟩ := cmul_int (IsI_of (headN f 4 n : Int) (by omega)) (IsI_fI (n := reG 6 4) (by omega)) (IsI_fI (n := imG 6 4) (by omega)) (by omega) rn imn
      have p1 := RN.out 5
      have p2 := UN.out 5
      rw [pushR] at p1
      rw [pushU] at p2
      obtain ⟨x', y', e2, i3, i4⟩ := csum_int HB.out HI.out i1 i2 (by omega) (by omega)
      have hmul := fun t V => run_complex_mul (P := Tryd.prog) V t _ _ _ _ _ _ e1
      have hadd := fun t V => run_complex_sum (P := Tryd.prog) V .add (Or.inl rfl) t .f64 _ _ _ _ _ _ e2
      have N1 := hide' (show IsI x' (pushR 6 f n 5) from i3)
      have N2 := hide' (show IsI y' (pushU 6 f n 5) from i4)
      obtain ⟨q3, hq3⟩ : ∃ q, fI (reG 6 4) = q := ⟨_, rfl⟩
      obtain ⟨q4, hq4⟩ : ∃ q, fI (imG 6 4) = q := ⟨_, rfl⟩
      rw [hq3, hq4] at cd hmul
      obtain ⟨u, hu⟩ : ∃ u, headN f 4 n = u := ⟨_, rfl⟩
      rw [hu] at HC hmul
      obtain ⟨bu, hbu⟩ : ∃ b, floatOfInt .f64 (u : Int) = b := ⟨_, rfl⟩
      rw [hbu] at hmul
      clear hq3 hq4 hu e1 e2 i1 i2 i3 i4 p1 p2 rn imn hl
      go_wp2_with fail
      refine (HC.out _ B3.out).mono ?_
      rintro e w4 ⟨rfl, rfl⟩
      go_wp2
      exact ⟨⟨5, x', y', by go_num, rfl, by omega, N1, N2, by simp⟩, by simp [intOf]⟩
    · have hl := headN_le f 5 n
      have HC := hide' (fun V hV => heading_5 f a n c V (HP.out V hV) HF.out hn)
      have rn := reG_near 6 5
      have imn := imG_near 6 5
      have cd := DI3.out 5 (by omega)
      obtain ⟨x, y, e1, i1, i2⟩ := cmul_int (IsI_of (headN f 5 n : Int) (by omega)) (IsI_fI (n := reG 6 5) (by omega)) (IsI_fI (n := imG 6 5) (by omega)) (by omega) rn imn
      have p1 := RN.out 6
      have p2 := UN.out 6
      rw [pushR] at p1
      rw [pushU] at p2
      obtain ⟨x', y', e2, i3, i4⟩ := csum_int HB.out HI.out i1 i2 (by omega) (by omega)
      have hmul := fun t V => run_complex_mul (P := Tryd.prog) V t _ _ _ _ _ _ e1
      have hadd := fun t V => run_complex_sum (P := Tryd.prog) V .add (Or.inl rfl) t .f64 _ _ _ _ _ _ e2
      have N1 := hide' (show IsI x' (pushR 6 f n 6) from i3)
      have N2 := hide' (show IsI y' (pushU 6 f n 6) from i4)
      obtain ⟨q3, hq3⟩ : ∃ q, fI (reG 6 5) = q := ⟨_, rfl⟩
      obtain ⟨q4, hq4⟩ : ∃ q, fI (imG 6 5) = q := ⟨_, rfl⟩
      rw [hq3, hq4] at cd hmul
      obtain ⟨u, hu⟩ : ∃ u, headN f 5 n = u := ⟨_, rfl⟩
      rw [hu] at HC hmul
      obtain ⟨bu, hbu⟩ : ∃ b, floatOfInt .f64 (u : Int) = b := ⟨_, rfl⟩
      rw [hbu] at hmul
      clear hq3 hq4 hu e1 e2 i1 i2 i3 i4 p1 p2 rn imn hl
      go_wp2_with fail
      refine (HC.out _ B3.out).mono ?_
      rintro e w4 ⟨rfl, rfl⟩
      go_wp2
      exact ⟨⟨6, x', y', by go_num, rfl, by omega, N1, N2, by simp⟩, by simp [intOf]⟩
    · have p1 := RN.out 6
      have p2 := UN.out 6
      have i1 := HB.out
      have i2 := HI.out
      rw [RH.out] at p1 i1
      rw [UH.out] at p2 i2
      have hc1 := fun V => run_convert_float_int (P := Tryd.prog) V 141 3 .f64 .i64 br R (by rw [Tryd.underlying141]; rfl) Tryd.underlying3 (IsI_toInt i1 (by omega))
      have hc2 := fun V => run_convert_float_int (P := Tryd.prog) V 141 3 .f64 .i64 bi U (by rw [Tryd.underlying141]; rfl) Tryd.underlying3 (IsI_toInt i2 (by omega))
      clear p1 p2 i1 i2 c0 c1 c2 c3
      go_wp2
      refine bodyPost_ret (v := .tuple #[.int .i64 R, .int .i64 U, .nilIface]) (by simp [results, Tryd.results28, go_sem]) rfl ?_
      exact ⟨rfl, B3.out⟩
end Go.Proofs.YtbkllhlapdmlfaaDoor

