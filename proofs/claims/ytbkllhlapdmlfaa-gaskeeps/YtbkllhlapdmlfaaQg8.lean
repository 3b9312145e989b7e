/-
  What the last text of this claim leans on, part 8: Gb5, Ga6.
-/
import Derived.Test.YtbkllhlapdmlfaaQg7
import Derived.Test.YtbkllhlapdmlfaaQg6
import Derived.BigRegion
import Derived.Deep.RegionHeld3
import Derived.Deep.CutRange
namespace Go.Proofs.Ytbkllhlapdmlfaa
open Go.RowKit
set_option linter.unusedVariables false
/-- What stands while the table is filled. -/
structure SR (w w3 wr : World) (n : Nat) (f : Nat → Nat) : Prop where
  keep : ∀ j, j < w3.heap.size → j ≠ w.heap.size + 1 → wr.heap[j]? = w3.heap[j]?
  tab : OR wr (w.heap.size + 1) n f
  below : Below w.heap.size w wr
  size : w3.heap.size ≤ wr.heap.size
theorem SR.next {w w3 wr w' : World} {n : Nat} {f : Nat → Nat} (h : SR w w3 wr n f) (hz : w.heap.size + 1 < w3.heap.size) (b : Below wr.heap.size wr w') : SR w w3 w' n f :=
  ⟨fun j hj hn => (b.block j (Nat.lt_of_lt_of_le hj h.size)).trans (h.keep j hj hn), (b.block _ (Nat.lt_of_lt_of_le hz h.size)).trans h.tab, h.below.trans (b.mono h.below.size), Nat.le_trans h.size b.size⟩
theorem SR.set {w w3 wr : World} {n : Nat} {f : Nat → Nat} (h : SR w w3 wr n f) (i v : Nat) : SR w w3 (wr.setCell ⟨w.heap.size + 1, i, none⟩ (.int .u16 (v : Int))) n (fun k => if k = i then v else f k) :=
  ⟨fun j hj hn => (Below.heap_setCell _ _ _ _ hn).trans (h.keep j hj hn), h.tab.set i v, h.below.setCell (by simp) _, by rw [World.size_setCell]; exact h.size⟩
theorem SR.ext {w w3 wr : World} {n : Nat} {f f' : Nat → Nat} (h : SR w w3 wr n f) (e : ∀ k, k < n * 6 → f k = f' k) : SR w w3 wr n f' := ⟨h.keep, h.tab.ext e, h.below, h.size⟩
theorem SR.drew {w w3 wr : World} {n : Nat} {f : Nat → Nat} (h : SR w w3 wr n f) : SR w w3 wr.drew n f := ⟨h.keep, h.tab, h.below.drew, h.size⟩
theorem wrap_u16 (n : Nat) (h : n ≤ 65535) : IntKind.u16.wrap (n : Int) = (n : Int) := by simp [IntKind.wrap, IntKind.bits, IntKind.signed]; omega
set_option maxRecDepth 100000 in
set_option maxHeartbeats 12800000 in
theorem sources_any (K W H : Nat) (a : Option Addr) (n c : Nat) (w : World) (hK : K = 4 ∨ K = 6) (hW : 1 ≤ W ∧ W ≤ 100) (hH : 1 ≤ H ∧ H ≤ 100) (hn : n = W * H) :
    Calls Try.prog 20 #[.agg #[.int .i64 (K : Int), .int .i64 (W : Int), .int .i64 (H : Int), .slice a n c]] w fun e w' => e = .returned (.slice (some ⟨w.heap.size + 1, 0, none⟩) n n) ∧ w'.heap[w.heap.size + 1]? = some (.cells (arrF (n * 6) (orG (srcG K W H))) 86 (0, 0)) ∧ Below w.heap.size w w' := by
  have n4 : n ≤ 10000 := by rw [hn]; exact Nat.mul_le_mul hW.2 hH.2
  obtain ⟨w1, hw1⟩ : ∃ w1, w.alloc (.cells #[.int .i64 (K : Int), .int .i64 (W : Int), .int .i64 (H : Int), .slice a n c] 24) = w1 := ⟨_, rfl⟩
  obtain ⟨w2, hw2⟩ : ∃ w2, w1.alloc (.cells (madeCells #[.int .u16 0, .int .u16 0, .int .u16 0, .int .u16 0, .int .u16 0, .int .u16 0] (n * 6)) 86) = w2 := ⟨_, rfl⟩
  have s1 : w1.heap.size = w.heap.size + 1 := by rw [← hw1]; simp
  have s2 : w2.heap.size = w.heap.size + 2 := by rw [← hw2]; simp [s1]
  have g1 : w1.heap[w.heap.size]? = some (.cells #[.int .i64 (K : Int), .int .i64 (W : Int), .int .i64 (H : Int), .slice a n c] 24 (0, 0)) := by rw [← hw1]; exact heap_alloc_new _ _
  have g2 : w2.heap[w.heap.size]? = some (.cells #[.int .i64 (K : Int), .int .i64 (W : Int), .int .i64 (H : Int), .slice a n c] 24 (0, 0)) := by rw [← hw2, Below.heap_alloc _ _ _ (by omega)]; exact g1
  have t2 : OR w2 (w.heap.size + 1) n (fF K W H 0) := by
    unfold OR
    rw [← hw2, made_orig, ← s1, heap_alloc_new]
    exact congrArg (fun z => some (Obj.cells z 86 (0, 0))) (arrF_ext fun k _ => by unfold u16F fF; simp)
  have b2 : Below w.heap.size w w2 := by rw [← hw2, ← hw1]; exact ((Below.refl _ _).alloc (Nat.le_refl _) _).alloc (by simp) _
  have hmk := mk_orig n n4 w1
  rw [hw2, s1] at hmk
  have DC := hide' (directions_any K w2 hK)
  have d3 := cell_of_row w1 _ 3 _ _ _ g1
  have e0 := cell_of_row w2 _ 0 _ _ _ g2
  have e1' := cell_of_row w2 _ 1 _ _ _ g2
  have e2' := cell_of_row w2 _ 2 _ _ _ g2
  simp at d3 e0 e1' e2'
  have HK := hide' hK
  have NL := hide' hn
  have G2 := hide' g2
  have T2 := hide' t2
  have B2 := hide' b2
  have K6 : K ≤ 6 := by omega
  obtain ⟨W1, W2⟩ := hW
  obtain ⟨H1, H2⟩ := hH
  clear g1 g2 t2 b2 hK hn hw2
  go_enter Try.func20, Try.ntmps20
  go_upto_region 1 with fail
  clear hw1
  go_wp2_with fail
  refine DC.out.mono ?_
  rintro e w3 ⟨rfl, di, z3, b3⟩
  rw [s2] at di z3
  have GV := hide' (fun (V : World) (hV : ∀ j, j < w3.heap.size → j ≠ w.heap.size + 1 → V.heap[j]? = w3.heap[j]?) => show V.cell? ⟨w.heap.size, 0, none⟩ = some (.int .i64 (K : Int)) ∧ V.cell? ⟨w.heap.size, 1, none⟩ = some (.int .i64 (W : Int)) ∧ V.cell? ⟨w.heap.size, 2, none⟩ = some (.int .i64 (H : Int)) ∧ V.cell? ⟨w.heap.size, 3, none⟩ = some (.slice a n c) from by
    have e1 := ((hV w.heap.size (by omega) (by omega)).trans (b3.block _ (by omega))).trans G2.out
    exact ⟨cell_of_row V _ 0 _ _ _ e1, cell_of_row V _ 1 _ _ _ e1, cell_of_row V _ 2 _ _ _ e1, cell_of_row V _ 3 _ _ _ e1⟩)
  have DV := hide' (fun (V : World) (hV : ∀ j, j < w3.heap.size → j ≠ w.heap.size + 1 → V.heap[j]? = w3.heap[j]?) => show DI V (w.heap.size + 2) K from di.block (hV _ z3 (by omega)))
  have S3 := hide' (show SR w w3 w3 n (fF K W H 0) from ⟨fun _ _ _ => rfl, (b3.block _ (by omega)).trans T2.out, B2.out.trans (b3.mono B2.out.size), Nat.le_refl _⟩)
  have Z3 := hide' z3
  have y3 : w.heap.size + 1 < w3.heap.size := by omega
  obtain ⟨x0, x1, x2, x3⟩ := GV.out w3 (fun _ _ _ => rfl)
  clear di b3 d3 e0 e1' e2' hmk s1 G2 T2 B2 DC
  go_wp2
  clear x0 x1 x2 x3
  try rw [s2]
  go_loopw [18] (fun yv wr => ∃ (y : Nat), yv = .int .i64 (y : Int) ∧ y ≤ H ∧ Hid (SR w w3 wr n (fF K W H (y * W * 6)))) (fun yv _ => ((H : Int) - intOf yv).toNat)
  case atStart => exact ⟨0, by go_num, by omega, hide' (by simp only [Nat.zero_mul]; exact S3.out)⟩
  case round =>
    obtain ⟨y, rfl, hy, HY⟩ := hrel
    obtain ⟨V1, rfl⟩ : ∃ V1, V1 = wr := ⟨_, rfl⟩
    obtain ⟨x0, x1, x2, x3⟩ := GV.out V1 HY.out.keep
    by_cases dy : (y : Int) < (H : Int)
    · go_wp2
      clear x0 x1 x2 x3
      go_loopw [23] (fun xv wr => ∃ (x : Nat), xv = .int .i64 (x : Int) ∧ x ≤ W ∧ Hid (SR w w3 wr n (fF K W H ((y * W + x) * 6)))) (fun xv _ => ((W : Int) - intOf xv).toNat)
      case atStart => exact ⟨0, by go_num, by omega, HY⟩
      case round =>
        obtain ⟨x, rfl, hx, HX⟩ := hrel
        obtain ⟨V2, rfl⟩ : ∃ V2, V2 = wr := ⟨_, rfl⟩
        by_cases dx : (x : Int) < (W : Int)
        · go_wp2
          go_loopw [28] (fun dv wr => ∃ (d : Nat), dv = .int .i64 (d : Int) ∧ d ≤ K ∧ Hid (SR w w3 wr n (fF K W H ((y * W + x) * 6 + d)))) (fun dv _ => ((K : Int) - intOf dv).toNat)
          case atStart => exact ⟨0, by go_num, by omega, HX⟩
          case round =>
            obtain ⟨d, rfl, hd, HD⟩ := hrel
            obtain ⟨V3, rfl⟩ : ∃ V3, V3 = wr := ⟨_, rfl⟩
            by_cases dd : (d : Int) < (K : Int)
            · have dl : d < K := by omega
              have xl : x < W := by omega
              have yl : y < H := by omega
              have cd := DV.out V3 HD.out.keep d dl
              obtain ⟨x0, x1, x2, x3⟩ := GV.out V3 HD.out.keep
              have rn := reG_near K d
              have imn := imG_near K d
              have lb : 0 ≤ leanG K y ∧ leanG K y ≤ 51 := by unfold leanG; split <;> omega
              have xn := xG_near (y := y) HK.out dl xl
              obtain ⟨tr, rl⟩ := tmod_nat (a := (y : Int) + imG K d + (H : Int)) (s := H) (by omega) H1
              obtain ⟨tc, cl⟩ := tmod_nat (a := xG K x y d + (W : Int)) (s := W) (by omega) W1
              have PC := hide' (fun V => placeOf_any (K : Int) (x : Int) (y : Int) V (by omega) (by omega) (by omega) (by omega))
              have NC := hide' (fun V => numberAt_any (K : Int) W H a n c ((x : Int) + leanG K y - reG K d) (-(y : Int) - imG K d) (rowG K H y d) (colG K W x y d) V ⟨W1, W2⟩ ⟨H1, H2⟩ (by omega) (by omega) (by rw [show -(-(y : Int) - imG K d) = (y : Int) + imG K d by omega]; exact tr) (by rw [show -(-(y : Int) - imG K d) = (y : Int) + imG K d by omega]; exact tc) rl cl)
              have SE : rowG K H y d * W + colG K W x y d = srcG K W H (y * W + x) d := by
                have d1 : (y * W + x) / W = y := by rw [Nat.mul_comm, Nat.mul_add_div (by omega), Nat.div_eq_of_lt xl, Nat.add_zero]
                have m1 : (y * W + x) % W = x := by rw [Nat.mul_comm, Nat.mul_add_mod]; exact Nat.mod_eq_of_lt xl
                unfold srcG
                rw [if_pos dl, d1, m1]
              rw [SE] at NC
              have sl := src_lt HK.out W1 H1 (y * W + x) d
              rw [← NL.out] at sl
              have hsub := fun t V => run_complex_sum (P := Try.prog) V .sub (Or.inr rfl) t .f64 (fI ((x : Int) + leanG K y)) (fI (-(y : Int))) (fI (reG K d)) (fI (imG K d)) (fI ((x : Int) + leanG K y - reG K d)) (fI (-(y : Int) - imG K d)) (by unfold cSumBits; rw [fI_sub (by omega) (by omega) rn.1 rn.2, fI_sub (by omega) (by omega) imn.1 imn.2]; rfl)
              obtain ⟨q1, hq1⟩ : ∃ q, fI ((x : Int) + leanG K y) = q := ⟨_, rfl⟩
              obtain ⟨q2, hq2⟩ : ∃ q, fI (-(y : Int)) = q := ⟨_, rfl⟩
              obtain ⟨q3, hq3⟩ : ∃ q, fI (reG K d) = q := ⟨_, rfl⟩
              obtain ⟨q4, hq4⟩ : ∃ q, fI (imG K d) = q := ⟨_, rfl⟩
              obtain ⟨q5, hq5⟩ : ∃ q, fI ((x : Int) + leanG K y - reG K d) = q := ⟨_, rfl⟩
              obtain ⟨q6, hq6⟩ : ∃ q, fI (-(y : Int) - imG K d) = q := ⟨_, rfl⟩
              rw [hq1, hq2] at PC
              rw [hq1, hq2, hq3, hq4, hq5, hq6] at hsub
              rw [hq3, hq4] at cd
              rw [hq5, hq6] at NC
              obtain ⟨u, hu⟩ : ∃ u, srcG K W H (y * W + x) d = u := ⟨_, rfl⟩
              rw [hu] at NC sl
              have wu := wrap_u16 u (by omega)
              obtain ⟨P, hP⟩ : ∃ P : Nat, (y : Int) * (W : Int) = (P : Int) := ⟨y * W, by simp⟩
              obtain ⟨t, ht⟩ : ∃ t, y * W + x = t := ⟨_, rfl⟩
              have tn : t < n := by
                rw [NL.out, ← ht]
                have := Nat.mul_le_mul_right W (show y + 1 ≤ H from yl)
                rw [Nat.add_mul, Nat.mul_comm H W] at this
                omega
              have bs : (P : Int) + (x : Int) = (t : Int) := by
                have : ((y * W : Nat) : Int) = (P : Int) := by rw [← hP]; simp
                omega
              have w5 := wrap_nB P (by omega)
              have w6 := wrap_nB t (by omega)
              have w3' : IntKind.i64.wrap ((y : Int) * (W : Int)) = (P : Int) := by rw [hP]; exact w5
              have w4' : IntKind.i64.wrap ((P : Int) + (x : Int)) = (t : Int) := by rw [bs]; exact w6
              have tn' : (t : Int) < (n : Int) := by omega
              have t0' : (0 : Int) ≤ (t : Int) := by omega
              have d6 : (d : Int) < 6 := by omega
              have d0' : (0 : Int) ≤ (d : Int) := by omega
              have NS := hide' (fun (V : World) (h : SR w w3 V n (fF K W H ((y * W + x) * 6 + d))) => show SR w w3 ((V.setCell ⟨w.heap.size + 1, t * 6 + d, none⟩ (.int .u16 (u : Int)))) n (fF K W H ((y * W + x) * 6 + (d + 1))) from
                (h.set (t * 6 + d) u).ext (fun k _ => by
                  rw [← Nat.add_assoc, ← fF_next, ht, show (t * 6 + d) / 6 = t by omega, show (t * 6 + d) % 6 = d by omega, ← ht, hu]))
              have CE := hide' (fun (V : World) (h : SR w w3 V n (fF K W H ((y * W + x) * 6 + d))) => show V.cell? ⟨w.heap.size + 1, t * 6 + d, none⟩ = some (.int .u16 (fF K W H ((y * W + x) * 6 + d) (t * 6 + d) : Int)) ∧ V.frozen? ⟨w.heap.size + 1, t * 6 + d, none⟩ = false ∧ w.heap.size + 1 < V.heap.size from
                ⟨h.tab.cell (by omega), frozen_of_row V _ _ _ _ h.tab, lt_of_block h.tab⟩)
              obtain ⟨v0, hv0⟩ : ∃ v0, fF K W H ((y * W + x) * 6 + d) (t * 6 + d) = v0 := ⟨_, rfl⟩
              rw [hv0] at CE
              clear hq1 hq2 hq3 hq4 hq5 hq6 hu ht hv0 SE tr tc rl cl rn imn lb xn
              go_upto_region 12 with fail
              go_region_held3 (fun U => U.cell? ⟨w.heap.size, 0, none⟩ = some (.int .i64 (K : Int)) ∧ U.cell? ⟨w.heap.size, 1, none⟩ = some (.int .i64 (W : Int)) ∧ U.cell? ⟨w.heap.size, 2, none⟩ = some (.int .i64 (H : Int)) ∧ U.cell? ⟨w.heap.size, 3, none⟩ = some (.slice a n c)) (first | exact GV.out _ (NS.out _ S7.out).keep | exact GV.out _ S7.out.keep | exact ⟨x0, x1, x2, x3⟩ | fail)
                (first
                  | (go_at_call 37; refine (PC.out _).mono ?_; rintro e w6 ⟨rfl, rfl⟩)
                  | (go_at_call 36; refine (NC.out _).mono ?_; rintro e w7 ⟨rfl, b7⟩; have S7 := hide' (HD.out.next y3 (show Below V3.heap.size V3 w7 from ⟨b7.os, b7.tape, b7.output, b7.size, b7.block⟩)); obtain ⟨k1, k2, k3⟩ := CE.out _ S7.out; clear b7)
                  | fail)
              have N7 := hide' (NS.out _ S7.out)
              clear S7 k1 k2 k3 x0 x1 x2 x3 cd hsub NC PC NS CE
              go_wp2
              exact ⟨⟨d + 1, by go_num, by omega, N7⟩, by simp [intOf]; omega⟩
            · have dK : d = K := by omega
              have ND := hide' (HD.out.ext (f' := fF K W H ((y * W + (x + 1)) * 6)) (fun k _ => by rw [dK, fF_gap K W H _ k HK.out, Nat.add_assoc]))
              clear dK
              go_wp2
              exact ⟨⟨x + 1, by go_num, by omega, ND⟩, by simp [intOf]; omega⟩
        · have xW : x = W := by omega
          have NY := hide' (show SR w w3 V2 n (fF K W H ((y + 1) * W * 6)) by
            have ee : (y + 1) * W = y * W + x := by rw [Nat.add_mul, Nat.one_mul, xW]
            rw [ee]; exact HX.out)
          clear xW
          go_wp2
          exact ⟨⟨y + 1, by go_num, by omega, NY⟩, by simp [intOf]; omega⟩
    · have yH : y = H := by omega
      have HE := hide' (show SR w w3 V1 n (fF K W H (n * 6)) by
        have ee : y * W * 6 = n * 6 := by rw [yH, NL.out, Nat.mul_comm H W]
        rw [← ee]; exact HY.out)
      clear yH
      go_wp2
      go_ret
      exact ⟨rfl, HE.out.tab.orG, HE.out.below⟩
end Go.Proofs.Ytbkllhlapdmlfaa

namespace Go.Proofs.Ytbkllhlapdmlfaa
open Go.RowKit
set_option linter.unusedVariables false
structure PG (w w1 wr : World) (K W H : Int) (n p q : Nat) (f : Nat → Nat) : Prop where
  keep : ∀ k, k < w1.heap.size → wr.heap[k]? = w1.heap[k]?
  pat : wr.heap[p]? = some (.cells #[.int .i64 K, .int .i64 W, .int .i64 H, .slice (some ⟨q, 0, none⟩) n n] 24 (0, 0))
  out : wr.heap[q]? = some (.cells (arrF n (fun k => .int .i64 (f k : Int))) 3 (0, 0))
  pl : w1.heap.size ≤ p
  ql : w1.heap.size ≤ q
  ne : p ≠ q
  below : Below w.heap.size w wr
theorem PG.set {w w1 wr : World} {K W H : Int} {n p q : Nat} {f : Nat → Nat} (h : PG w w1 wr K W H n p q f) (hs : w.heap.size ≤ w1.heap.size) (i v : Nat) : PG w w1 (wr.setCell ⟨q, i, none⟩ (.int .i64 (v : Int))) K W H n p q (fun k => if k = i then v else f k) :=
  ⟨fun k hk => (Below.heap_setCell _ _ _ _ (by have := h.ql; simp; omega)).trans (h.keep k hk), (Below.heap_setCell _ _ _ _ h.ne).trans h.pat, by
    rw [heap_setCell_same _ _ _ _ _ _ h.out, arrF_set]
    refine congrArg (fun z => some (Obj.cells z 3 (0, 0))) (arrF_ext fun k _ => ?_)
    by_cases e : k = i
    · rw [if_pos e, if_pos e]
    · rw [if_neg e, if_neg e], h.pl, h.ql, h.ne, h.below.setCell (by have := h.ql; simp; omega) _⟩
theorem PG.ext {w w1 wr : World} {K W H : Int} {n p q : Nat} {f f' : Nat → Nat} (h : PG w w1 wr K W H n p q f) (e : ∀ k, k < n → f k = f' k) : PG w w1 wr K W H n p q f' :=
  ⟨h.keep, h.pat, by rw [h.out]; exact congrArg (fun z => some (Obj.cells z 3 (0, 0))) (arrF_ext fun k hk => by rw [e k hk]), h.pl, h.ql, h.ne, h.below⟩
def GasOut (K W H : Int) (f : Nat → Nat) (n : Nat) (w : World) (e : Ending) (w' : World) : Prop := ∃ q, e = .returned (.agg #[.int .i64 K, .int .i64 W, .int .i64 H, .slice (some ⟨q, 0, none⟩) n n]) ∧ w.heap.size ≤ q ∧ ArgP w' ((List.range n).map fun i => (f i : Int)) (some ⟨q, 0, none⟩) n n ∧ Below w.heap.size w w'
set_option maxRecDepth 100000 in
set_option maxHeartbeats 6400000 in
theorem unpacked_any (K W H : Int) (a : Option Addr) (m c : Nat) (gc n : Nat) (f : Nat → Nat) (w : World) (hc : CU w gc n f) (hf : ∀ i, f i ≤ 63) (hn : n ≤ 10000) :
    Calls Try.prog 23 #[.agg #[.int .i64 K, .int .i64 W, .int .i64 H, .slice a m c], .slice (some ⟨gc, 0, none⟩) n n] w (GasOut K W H f n w) := by
  obtain ⟨w1, hw1⟩ : ∃ w1, (w.alloc (.cells #[.int .i64 K, .int .i64 W, .int .i64 H, .slice a m c] 24)).alloc (.cells #[.int .i64 0, .int .i64 0, .int .i64 0, .slice none 0 0] 24) = w1 := ⟨_, rfl⟩
  have BB : Below w.heap.size w w1 := by rw [← hw1]; exact ((Below.refl _ _).alloc (Nat.le_refl _) _).alloc (by simp) _
  have g0 : w1.heap[w.heap.size]? = some (.cells #[.int .i64 K, .int .i64 W, .int .i64 H, .slice a m c] 24 (0, 0)) := by rw [← hw1, Below.heap_alloc _ _ _ (by simp)]; exact heap_alloc_new _ _
  have g1 : w1.heap[w.heap.size + 1]? = some (.cells #[.int .i64 0, .int .i64 0, .int .i64 0, .slice none 0 0] 24 (0, 0)) := by rw [← hw1]; exact heap_atX _ _ _ (by simp)
  have c0 := cell_of_row w1 _ 0 _ _ _ g0
  have c1 := cell_of_row w1 _ 1 _ _ _ g0
  have c2 := cell_of_row w1 _ 2 _ _ _ g0
  simp at c0 c1 c2
  have s1 : w1.heap.size = w.heap.size + 1 + 1 := by rw [← hw1]; simp
  have hmk := run_make_row' (P := Try.prog) 22 3 (.int .i64 0) 8 Try.underlying22 info_int rfl .i64 .i64 n (by omega) (by omega)
  have G1 := hide' g1
  have BH := hide' BB
  have HF := hide' hf
  have HC := hide' (hc.block (BB.block gc hc.lt))
  have HL := hide' hc.lt
  clear g0 g1 BB hf hc
  go_enter Try.func23, Try.ntmps23
  go_wp2
  refine cut3P (P := fun p q V => Hid (PG w w1 V K W H n p q (fun _ => 0))) (Φ := ?PH) (fun CUT => ?mn) ?rs
  case mn =>
    go_region
    · obtain ⟨p, hp⟩ : ∃ p, w.heap.size + 1 + 1 + 1 = p := ⟨_, rfl⟩
      obtain ⟨q, hq⟩ : ∃ q, w.heap.size + 1 + 1 = q := ⟨_, rfl⟩
      rw [hp, hq]
      obtain ⟨V, hV⟩ : ∃ V, ((w1.alloc (.cells (madeCells #[.int .i64 0] n) 3)).alloc (.cells #[.int .i64 K, .int .i64 W, .int .i64 H, .slice (some ⟨q, 0, none⟩) n n] 24)).drew = V := ⟨_, rfl⟩
      rw [hV]
      have T8 := hide' (show PG w w1 V K W H n p q (fun _ => 0) from by
        rw [← hV]
        exact ⟨fun k hk => drew_keep ((Below.heap_alloc _ _ _ (by simp; omega)).trans (Below.heap_alloc _ _ _ (by omega))), drew_block (heap_atX _ _ _ (by simp; omega)), drew_block ((Below.heap_alloc _ _ _ (by simp; omega)).trans (by rw [made_arr]; exact heap_atX _ _ _ (by omega))), by omega, by omega, by omega, ((BH.out.alloc (by omega) _).alloc (by simp; omega) _).drew⟩)
      exact CUT _ _ _ T8
    · obtain ⟨q, hp⟩ : ∃ p, w.heap.size + 1 + 1 + 1 = p := ⟨_, rfl⟩
      obtain ⟨p, hq⟩ : ∃ q, w.heap.size + 1 + 1 = q := ⟨_, rfl⟩
      rw [hp, hq]
      obtain ⟨V, hV⟩ : ∃ V, ((w1.alloc (.cells #[.int .i64 K, .int .i64 W, .int .i64 H, .slice (some ⟨q, 0, none⟩) n n] 24)).alloc (.cells (madeCells #[.int .i64 0] n) 3)).drew = V := ⟨_, rfl⟩
      rw [hV]
      have T8 := hide' (show PG w w1 V K W H n p q (fun _ => 0) from by
        rw [← hV]
        exact ⟨fun k hk => drew_keep ((Below.heap_alloc _ _ _ (by simp; omega)).trans (Below.heap_alloc _ _ _ (by omega))), drew_block ((Below.heap_alloc _ _ _ (by simp; omega)).trans (heap_atX _ _ _ (by omega))), drew_block (by rw [made_arr]; exact heap_atX _ _ _ (by simp; omega)), by omega, by omega, by omega, ((BH.out.alloc (by omega) _).alloc (by simp; omega) _).drew⟩)
      exact CUT _ _ _ T8
  case rs =>
    intro p q V T8
    clear hmk hw1 c0 c1 c2
    have v3 := cell_of_row V _ 3 _ _ _ T8.out.pat
    simp at v3
    go_wp2
    clear v3
    go_loopw [20] (fun iv wr => ∃ (i : Nat), iv = .int .i64 (i : Int) ∧ i ≤ n ∧ Hid (PG w w1 wr K W H n p q (fun k => if k < i then f k else 0))) (fun iv _ => n - (intOf iv).toNat)
    case atStart => exact ⟨0, rfl, by omega, hide' (T8.out.ext (fun k _ => by simp))⟩
    case round =>
      obtain ⟨i, rfl, hi, H1⟩ := hrel
      obtain ⟨U, rfl⟩ : ∃ U, U = wr := ⟨_, rfl⟩
      by_cases d2 : (i : Int) < (n : Int)
      · have il : i < n := by omega
        have cc := (HC.out.block (H1.out.keep gc (by have := HL.out; omega))).cell il
        have q3 := cell_of_row U _ 3 _ _ _ H1.out.pat
        simp at q3
        have co : U.cell? ⟨q, i, none⟩ = some (.int .i64 0) := by rw [cell_of_row U _ _ _ _ _ H1.out.out, arrF_get _ (by omega), if_neg (by omega)]; rfl
        have fo := frozen_of_row U _ i _ _ H1.out.out
        have lo := lt_of_block H1.out.out
        have NX := hide' ((H1.out.set (by omega) i (f i)).ext (fun k _ => pre_next f i k))
        have x63 := HF.out i
        obtain ⟨x, hx⟩ : ∃ x, f i = x := ⟨_, rfl⟩
        rw [hx] at cc x63 NX
        clear hx
        go_wp2
        exact ⟨⟨i + 1, by go_num, by omega, NX⟩, by simp [intOf]; omega⟩
      · have ni : i = n := by omega
        have HE := hide' (H1.out.ext (f' := f) (fun k hk => if_pos (by omega)))
        have e1 := (HE.out.keep (w.heap.size + 1) (by omega)).trans G1.out
        have r0 := cell_of_row U _ 0 _ _ _ e1
        have r1 := cell_of_row U _ 1 _ _ _ e1
        have r2 := cell_of_row U _ 2 _ _ _ e1
        have r3 := cell_of_row U _ 3 _ _ _ e1
        have f0 := frozen_of_row U _ 0 _ _ e1
        have f1 := frozen_of_row U _ 1 _ _ e1
        have f2 := frozen_of_row U _ 2 _ _ e1
        have f3 := frozen_of_row U _ 3 _ _ e1
        have l1 := lt_of_block e1
        have k0 := cell_of_row U _ 0 _ _ _ HE.out.pat
        have k1 := cell_of_row U _ 1 _ _ _ HE.out.pat
        have k2 := cell_of_row U _ 2 _ _ _ HE.out.pat
        have k3 := cell_of_row U _ 3 _ _ _ HE.out.pat
        simp at r0 r1 r2 r3 k0 k1 k2 k3
        clear e1 ni
        go_wp2
        refine bodyPost_ret (v := .agg #[.int .i64 K, .int .i64 W, .int .i64 H, .slice (some ⟨q, 0, none⟩) n n]) (by simp [results, Try.results23, go_sem, r0, r1, r2, r3]) rfl ?_
        refine ⟨q, rfl, by have := HE.out.ql; omega, ⟨by simp, by unfold maxLen; omega, fun k hk => ⟨q, 0, rfl, ?_, ?_⟩⟩, (((HE.out.below.setCell (by simp) _).setCell (by simp) _).setCell (by simp) _).setCell (by simp) _⟩
        · simp only [World.size_setCell]; exact lt_of_block HE.out.out
        · have hk' : k < n := by simpa using hk
          have hb : ((((U.setCell ⟨w.heap.size + 1, 0, none⟩ (.int .i64 K)).setCell ⟨w.heap.size + 1, 1, none⟩ (.int .i64 W)).setCell ⟨w.heap.size + 1, 2, none⟩ (.int .i64 H)).setCell ⟨w.heap.size + 1, 3, none⟩ (.slice (some ⟨q, 0, none⟩) n n)).heap[q]? = some (.cells (arrF n (fun k => .int .i64 (f k : Int))) 3 (0, 0)) := by
            have := HE.out.ql
            rw [Below.heap_setCell _ _ _ _ (by simp; omega), Below.heap_setCell _ _ _ _ (by simp; omega), Below.heap_setCell _ _ _ _ (by simp; omega), Below.heap_setCell _ _ _ _ (by simp; omega)]
            exact HE.out.out
          rw [Nat.zero_add, cell_of_row _ _ _ _ _ _ hb, arrF_get _ hk']
          simp
end Go.Proofs.Ytbkllhlapdmlfaa

