/-
  What the last text of this claim leans on, part 18: Hg5, Bkj, Hgc.
-/
import Derived.Test.YtbkllhlapdmlfaaDoorQf17
import Derived.Test.YtbkllhlapdmlfaaDoorQf14
import Derived.Test.YtbkllhlapdmlfaaDoorQf15
import Derived.Deep.CutRange
namespace Go.Proofs.YtbkllhlapdmlfaaDoor
open Go.RowKit
set_option linter.unusedVariables false
theorem bit_mul {b : Nat} {r : Int} (hb : b ≤ 1) (hr : -1 ≤ r ∧ r ≤ 1) : ((b : Int) * r).natAbs ≤ 1 := by rcases (by omega : b = 0 ∨ b = 1) with h | h <;> rw [h] <;> simp <;> omega
theorem cellR_near (K c : Nat) : ∀ d, (cellR K c d).natAbs ≤ d
  | 0 => by simp [cellR]
  | d + 1 => by
    have h1 := cellR_near K c d
    have h2 := bit_mul (b := c / 2 ^ d % 2) (by omega) (reG_near K d)
    rw [cellR]
    omega
theorem cellU_near (K c : Nat) : ∀ d, (cellU K c d).natAbs ≤ d
  | 0 => by simp [cellU]
  | d + 1 => by
    have h1 := cellU_near K c d
    have h2 := bit_mul (b := c / 2 ^ d % 2) (by omega) (imG_near K d)
    rw [cellU]
    omega
theorem re_at4 : ∀ d : Fin 4, (#[.int .i64 1, .int .i64 0, .int .i64 (-1), .int .i64 0] : Array Value)[d.val]? = some (.int .i64 (reG 4 d.val)) ∧ (#[.int .i64 0, .int .i64 1, .int .i64 0, .int .i64 (-1)] : Array Value)[d.val]? = some (.int .i64 (imG 4 d.val)) := fun d => by
  match d with
  | ⟨0, _⟩ => exact ⟨rfl, rfl⟩
  | ⟨1, _⟩ => exact ⟨rfl, rfl⟩
  | ⟨2, _⟩ => exact ⟨rfl, rfl⟩
  | ⟨3, _⟩ => exact ⟨rfl, rfl⟩

set_option maxRecDepth 100000 in
set_option maxHeartbeats 6400000 in
theorem refPush_4 (W H : Int) (f : Nat → Nat) (a : Option Addr) (n c : Nat) (w : World) (hP : ArgP w ((List.range n).map fun i => (f i : Int)) a n c) (hf : ∀ i, f i ≤ 63) (hn : n ≤ 10000) :
    Calls Tryd.prog 31 #[.agg #[.int .i64 4, .int .i64 W, .int .i64 H, .slice a n c]] w fun e w' => e = .returned (.tuple #[.int .i64 (pushR 4 f n 4), .int .i64 (pushU 4 f n 4)]) ∧ Below w.heap.size w w' := by
  obtain ⟨w1, hw1⟩ : ∃ w1, w.alloc (.cells #[.int .i64 4, .int .i64 W, .int .i64 H, .slice a n c] 49) = w1 := ⟨_, rfl⟩
  have BB := hide' (show Below w.heap.size w w1 by rw [← hw1]; exact (Below.refl _ _).alloc (Nat.le_refl _) _)
  have g1 : w1.heap[w.heap.size]? = some (.cells #[.int .i64 4, .int .i64 W, .int .i64 H, .slice a n c] 49 (0, 0)) := by rw [← hw1]; exact heap_alloc_new _ _
  have c0 := cell_of_row w1 _ 0 _ _ _ g1
  have c1 := cell_of_row w1 _ 1 _ _ _ g1
  have c2 := cell_of_row w1 _ 2 _ _ _ g1
  have c3 := cell_of_row w1 _ 3 _ _ _ g1
  simp at c0 c1 c2 c3
  obtain ⟨w2, hw2⟩ : ∃ w2, ((w1.alloc (.cells #[.int .i64 1, .int .i64 0, .int .i64 (-1), .int .i64 0] 3)).alloc (.cells #[.int .i64 0, .int .i64 1, .int .i64 0, .int .i64 (-1)] 3)) = w2 := ⟨_, rfl⟩
  have B2 := hide' (show Below w1.heap.size w1 w2 by rw [← hw2]; repeat (first | exact Below.refl _ _ | refine Below.alloc ?_ (by simp; try omega) _))
  have BW := hide' (BB.out.trans (B2.out.mono BB.out.size))
  have gu : w2.heap[w1.heap.size + 1]? = some (.cells #[.int .i64 0, .int .i64 1, .int .i64 0, .int .i64 (-1)] 3 (0, 0)) := by rw [← hw2]; exact heap_atX _ _ _ (by simp)
  have gr : w2.heap[w1.heap.size]? = some (.cells #[.int .i64 1, .int .i64 0, .int .i64 (-1), .int .i64 0] 3 (0, 0)) := by rw [← hw2, Below.heap_alloc _ _ _ (by simp)]; exact heap_atX _ _ _ (by simp)
  have g2 := (B2.out.block _ (lt_of_block g1)).trans g1
  have HP := hide' (hP.below BW.out)
  have HF := hide' hf
  have RE := hide' (fun d (hd : d < 4) => show w2.cell? ⟨w1.heap.size, d, none⟩ = some (.int .i64 (reG 4 d)) from by rw [cell_of_row w2 _ _ _ _ _ gr]; exact (re_at4 ⟨d, hd⟩).1)
  have IM := hide' (fun d (hd : d < 4) => show w2.cell? ⟨w1.heap.size + 1, d, none⟩ = some (.int .i64 (imG 4 d)) from by rw [cell_of_row w2 _ _ _ _ _ gu]; exact (re_at4 ⟨d, hd⟩).2)
  have e0 := cell_of_row w2 _ 0 _ _ _ g2
  have e3 := cell_of_row w2 _ 3 _ _ _ g2
  simp at e0 e3
  have RN := hide' (fun d => (reG_near 4 d))
  have IN := hide' (fun d => (imG_near 4 d))
  have PR := hide' (fun i d => pushR_near 4 f i d)
  have PUn := hide' (fun i d => pushU_near 4 f i d)
  have CR := hide' (fun i d => cellR_near 4 (f i) d)
  have CU' := hide' (fun i d => cellU_near 4 (f i) d)
  clear hP g1 hf gr gu g2
  go_enter Tryd.func31, Tryd.ntmps31
  go_upto_region 1 with fail
  clear hw1
  go_wp2
  try rw [hw2]
  clear hw2 c0 c1 c2 c3
  go_loopw [6, 7, 8] (fun rv uv iv wr => ∃ (i : Nat) (r u : Int), iv = .int .i64 (i : Int) ∧ rv = .int .i64 r ∧ uv = .int .i64 u ∧ i ≤ n ∧ Hid (r = pushR 4 f i 4 ∧ u = pushU 4 f i 4) ∧ w2 = wr) (fun _ _ iv _ => ((n : Int) - intOf iv).toNat)
  case atStart => exact ⟨0, 0, 0, by go_num, by go_num, by go_num, by omega, hide' ⟨(pushR_none 4 f 4).symm, (pushU_none 4 f 4).symm⟩, rfl⟩
  case round =>
    obtain ⟨i, r, u, rfl, rfl, rfl, hi, HR, rfl⟩ := hrel
    by_cases dd : (i : Int) < (n : Int)
    · obtain ⟨g, off, rfl, hg, hc⟩ := HP.out.cells i (by simp; omega)
      simp only [List.getElem_map, List.getElem_range] at hc
      have xl := HF.out i
      obtain ⟨x, hx⟩ : ∃ x, f i = x := ⟨_, rfl⟩
      rw [hx] at hc xl
      have HX := hide' hx
      clear hx hg
      go_wp2
      clear hc
      go_loopw [6, 7, 9, 10] (fun rv uv cv dv wr => ∃ (d y : Nat) (r u : Int), dv = .int .i64 (d : Int) ∧ cv = .int .i64 (y : Int) ∧ rv = .int .i64 r ∧ uv = .int .i64 u ∧ d ≤ 4 ∧ y ≤ 63 ∧ Hid (y = x / 2 ^ d) ∧ Hid (r = pushR 4 f i 4 + cellR 4 x d ∧ u = pushU 4 f i 4 + cellU 4 x d) ∧ w2 = wr) (fun _ _ _ dv _ => ((4 : Int) - intOf dv).toNat)
      case atStart => exact ⟨0, x, r, u, by go_num, rfl, rfl, rfl, by omega, xl, hide' (by simp), hide' (by rw [HR.out.1, HR.out.2]; exact ⟨(Int.add_zero _).symm, (Int.add_zero _).symm⟩), rfl⟩
      case round =>
        obtain ⟨d, y, r', u', rfl, rfl, rfl, rfl, hd, hy, HY, HS, rfl⟩ := hrel
        by_cases de : (d : Int) < 4
        · have dl : d < 4 := by omega
          have rd := RE.out d dl
          have ud := IM.out d dl
          have rn := RN.out d
          have un := IN.out d
          have pr := PR.out i 4
          have pu := PUn.out i 4
          have cr := CR.out i d
          have cu := CU'.out i d
          rw [HX.out] at cr cu
          obtain ⟨b, hb⟩ : ∃ b, y % 2 = b := ⟨_, rfl⟩
          obtain ⟨z, hz⟩ : ∃ z, y / 2 = z := ⟨_, rfl⟩
          obtain ⟨R, hR⟩ : ∃ R, reG 4 d = R := ⟨_, rfl⟩
          obtain ⟨U, hU⟩ : ∃ U, imG 4 d = U := ⟨_, rfl⟩
          have f1 : (y : Int).tmod 2 = (b : Int) := by rw [Int.tmod_eq_emod_of_nonneg (by omega), ← hb]; simp
          have f2 : (y : Int) % 2 = (b : Int) := by rw [← hb]; simp
          have f3 : (y : Int) / 2 = (z : Int) := by rw [← hz]; simp
          have F4 := hide' (wrap64_small z (by omega))
          have z63 : z ≤ 63 := by omega
          have b1 : b ≤ 1 := by omega
          have hbx : x / 2 ^ d % 2 = b := by rw [← hb, HY.out]
          have SR := hide' (show r' + (b : Int) * R = pushR 4 f i 4 + cellR 4 x (d + 1) by rw [HS.out.1, cellR, hbx, hR, Int.add_assoc])
          have SU := hide' (show u' + (b : Int) * U = pushU 4 f i 4 + cellU 4 x (d + 1) by rw [HS.out.2, cellU, hbx, hU, Int.add_assoc])
          clear hbx
          have NY := hide' (show z = x / 2 ^ (d + 1) by rw [← hz, HY.out, Nat.div_div_eq_div_mul, Nat.pow_succ])
          have rb : -100000 ≤ r' ∧ r' ≤ 100000 := by rw [HS.out.1]; omega
          have ub : -100000 ≤ u' ∧ u' ≤ 100000 := by rw [HS.out.2]; omega
          obtain ⟨rb1, rb2⟩ := rb
          obtain ⟨ub1, ub2⟩ := ub
          rw [hR] at rd rn
          rw [hU] at ud un
          obtain ⟨bR, hbR⟩ : ∃ q, (b : Int) * R = q := ⟨_, rfl⟩
          obtain ⟨bU, hbU⟩ : ∃ q, (b : Int) * U = q := ⟨_, rfl⟩
          have bRn : -1 ≤ bR ∧ bR ≤ 1 := by rw [← hbR]; rcases (by omega : b = 0 ∨ b = 1) with h | h <;> rw [h] <;> simp <;> omega
          have bUn : -1 ≤ bU ∧ bU ≤ 1 := by rw [← hbU]; rcases (by omega : b = 0 ∨ b = 1) with h | h <;> rw [h] <;> simp <;> omega
          rw [hbR] at SR
          rw [hbU] at SU
          obtain ⟨bR1, bR2⟩ := bRn
          obtain ⟨bU1, bU2⟩ := bUn
          clear hb hz hR hU HY HS pr pu cr cu rn un
          go_wp2
          exact ⟨⟨d + 1, z, r' + bR, u' + bU, by go_num, by first | rfl | rw [F4.out], by go_num, by go_num, by omega, z63, NY, hide' ⟨SR.out, SU.out⟩, by first | rfl | simp⟩, by simp [intOf]; omega⟩
        · have dK : d = 4 := by omega
          have NR := hide' (show r' = pushR 4 f (i + 1) 4 ∧ u' = pushU 4 f (i + 1) 4 by rw [HS.out.1, HS.out.2, dK, pushR_cell, pushU_cell, HX.out]; exact ⟨rfl, rfl⟩)
          clear HS
          go_wp2
          exact ⟨⟨i + 1, r', u', by go_num, rfl, rfl, by omega, NR, by first | rfl | simp⟩, by simp [intOf]; omega⟩
    · have F := hide' (show r = pushR 4 f n 4 ∧ u = pushU 4 f n 4 by rw [HR.out.1, HR.out.2, show i = n by omega]; exact ⟨rfl, rfl⟩)
      clear HR
      go_wp2
      refine bodyPost_ret (v := .tuple #[.int .i64 r, .int .i64 u]) (by simp [results, Tryd.results31, go_sem]) rfl ?_
      rw [F.out.1, F.out.2]
      exact ⟨rfl, BW.out⟩
theorem re_at6 : ∀ d : Fin 6, (#[.int .i64 1, .int .i64 0, .int .i64 (-1), .int .i64 (-1), .int .i64 0, .int .i64 1] : Array Value)[d.val]? = some (.int .i64 (reG 6 d.val)) ∧ (#[.int .i64 0, .int .i64 1, .int .i64 1, .int .i64 0, .int .i64 (-1), .int .i64 (-1)] : Array Value)[d.val]? = some (.int .i64 (imG 6 d.val)) := fun d => by
  match d with
  | ⟨0, _⟩ => exact ⟨rfl, rfl⟩
  | ⟨1, _⟩ => exact ⟨rfl, rfl⟩
  | ⟨2, _⟩ => exact ⟨rfl, rfl⟩
  | ⟨3, _⟩ => exact ⟨rfl, rfl⟩
  | ⟨4, _⟩ => exact ⟨rfl, rfl⟩
  | ⟨5, _⟩ => exact ⟨rfl, rfl⟩

set_option maxRecDepth 100000 in
set_option maxHeartbeats 6400000 in
theorem refPush_6 (W H : Int) (f : Nat → Nat) (a : Option Addr) (n c : Nat) (w : World) (hP : ArgP w ((List.range n).map fun i => (f i : Int)) a n c) (hf : ∀ i, f i ≤ 63) (hn : n ≤ 10000) :
    Calls Tryd.prog 31 #[.agg #[.int .i64 6, .int .i64 W, .int .i64 H, .slice a n c]] w fun e w' => e = .returned (.tuple #[.int .i64 (pushR 6 f n 6), .int .i64 (pushU 6 f n 6)]) ∧ Below w.heap.size w w' := by
  obtain ⟨w1, hw1⟩ : ∃ w1, w.alloc (.cells #[.int .i64 6, .int .i64 W, .int .i64 H, .slice a n c] 49) = w1 := ⟨_, rfl⟩
  have BB := hide' (show Below w.heap.size w w1 by rw [← hw1]; exact (Below.refl _ _).alloc (Nat.le_refl _) _)
  have g1 : w1.heap[w.heap.size]? = some (.cells #[.int .i64 6, .int .i64 W, .int .i64 H, .slice a n c] 49 (0, 0)) := by rw [← hw1]; exact heap_alloc_new _ _
  have c0 := cell_of_row w1 _ 0 _ _ _ g1
  have c1 := cell_of_row w1 _ 1 _ _ _ g1
  have c2 := cell_of_row w1 _ 2 _ _ _ g1
  have c3 := cell_of_row w1 _ 3 _ _ _ g1
  simp at c0 c1 c2 c3
  obtain ⟨w2, hw2⟩ : ∃ w2, ((((w1.alloc (.cells #[.int .i64 1, .int .i64 0, .int .i64 (-1), .int .i64 0] 3)).alloc (.cells #[.int .i64 0, .int .i64 1, .int .i64 0, .int .i64 (-1)] 3)).alloc (.cells #[.int .i64 1, .int .i64 0, .int .i64 (-1), .int .i64 (-1), .int .i64 0, .int .i64 1] 3)).alloc (.cells #[.int .i64 0, .int .i64 1, .int .i64 1, .int .i64 0, .int .i64 (-1), .int .i64 (-1)] 3)) = w2 := ⟨_, rfl⟩
  have B2 := hide' (show Below w1.heap.size w1 w2 by rw [← hw2]; repeat (first | exact Below.refl _ _ | refine Below.alloc ?_ (by simp; try omega) _))
  have BW := hide' (BB.out.trans (B2.out.mono BB.out.size))
  have gu : w2.heap[w1.heap.size + 1 + 1 + 1]? = some (.cells #[.int .i64 0, .int .i64 1, .int .i64 1, .int .i64 0, .int .i64 (-1), .int .i64 (-1)] 3 (0, 0)) := by rw [← hw2]; exact heap_atX _ _ _ (by simp)
  have gr : w2.heap[w1.heap.size + 1 + 1]? = some (.cells #[.int .i64 1, .int .i64 0, .int .i64 (-1), .int .i64 (-1), .int .i64 0, .int .i64 1] 3 (0, 0)) := by rw [← hw2, Below.heap_alloc _ _ _ (by simp)]; exact heap_atX _ _ _ (by simp)
  have g2 := (B2.out.block _ (lt_of_block g1)).trans g1
  have HP := hide' (hP.below BW.out)
  have HF := hide' hf
  have RE := hide' (fun d (hd : d < 6) => show w2.cell? ⟨w1.heap.size + 1 + 1, d, none⟩ = some (.int .i64 (reG 6 d)) from by rw [cell_of_row w2 _ _ _ _ _ gr]; exact (re_at6 ⟨d, hd⟩).1)
  have IM := hide' (fun d (hd : d < 6) => show w2.cell? ⟨w1.heap.size + 1 + 1 + 1, d, none⟩ = some (.int .i64 (imG 6 d)) from by rw [cell_of_row w2 _ _ _ _ _ gu]; exact (re_at6 ⟨d, hd⟩).2)
  have e0 := cell_of_row w2 _ 0 _ _ _ g2
  have e3 := cell_of_row w2 _ 3 _ _ _ g2
  simp at e0 e3
  have i0 : ((w1.alloc (.cells #[.int .i64 1, .int .i64 0, .int .i64 (-1), .int .i64 0] 3)).alloc (.cells #[.int .i64 0, .int .i64 1, .int .i64 0, .int .i64 (-1)] 3)).cell? ⟨w.heap.size, 0, none⟩ = some (.int .i64 6) := cell_of_row _ _ 0 _ _ _ (((Below.heap_alloc _ _ _ (by have := lt_of_block g1; simp; omega)).trans (Below.heap_alloc _ _ _ (lt_of_block g1))).trans g1)
  have RN := hide' (fun d => (reG_near 6 d))
  have IN := hide' (fun d => (imG_near 6 d))
  have PR := hide' (fun i d => pushR_near 6 f i d)
  have PUn := hide' (fun i d => pushU_near 6 f i d)
  have CR := hide' (fun i d => cellR_near 6 (f i) d)
  have CU' := hide' (fun i d => cellU_near 6 (f i) d)
  clear hP g1 hf gr gu g2
  go_enter Tryd.func31, Tryd.ntmps31
  go_upto_region 1 with fail
  clear hw1
  go_wp2
  try rw [hw2]
  clear hw2 c0 c1 c2 c3
  go_loopw [6, 7, 8] (fun rv uv iv wr => ∃ (i : Nat) (r u : Int), iv = .int .i64 (i : Int) ∧ rv = .int .i64 r ∧ uv = .int .i64 u ∧ i ≤ n ∧ Hid (r = pushR 6 f i 6 ∧ u = pushU 6 f i 6) ∧ w2 = wr) (fun _ _ iv _ => ((n : Int) - intOf iv).toNat)
  case atStart => exact ⟨0, 0, 0, by go_num, by go_num, by go_num, by omega, hide' ⟨(pushR_none 6 f 6).symm, (pushU_none 6 f 6).symm⟩, rfl⟩
  case round =>
    obtain ⟨i, r, u, rfl, rfl, rfl, hi, HR, rfl⟩ := hrel
    by_cases dd : (i : Int) < (n : Int)
    · obtain ⟨g, off, rfl, hg, hc⟩ := HP.out.cells i (by simp; omega)
      simp only [List.getElem_map, List.getElem_range] at hc
      have xl := HF.out i
      obtain ⟨x, hx⟩ : ∃ x, f i = x := ⟨_, rfl⟩
      rw [hx] at hc xl
      have HX := hide' hx
      clear hx hg
      go_wp2
      clear hc
      go_loopw [6, 7, 9, 10] (fun rv uv cv dv wr => ∃ (d y : Nat) (r u : Int), dv = .int .i64 (d : Int) ∧ cv = .int .i64 (y : Int) ∧ rv = .int .i64 r ∧ uv = .int .i64 u ∧ d ≤ 6 ∧ y ≤ 63 ∧ Hid (y = x / 2 ^ d) ∧ Hid (r = pushR 6 f i 6 + cellR 6 x d ∧ u = pushU 6 f i 6 + cellU 6 x d) ∧ w2 = wr) (fun _ _ _ dv _ => ((6 : Int) - intOf dv).toNat)
      case atStart => exact ⟨0, x, r, u, by go_num, rfl, rfl, rfl, by omega, xl, hide' (by simp), hide' (by rw [HR.out.1, HR.out.2]; exact ⟨(Int.add_zero _).symm, (Int.add_zero _).symm⟩), rfl⟩
      case round =>
        obtain ⟨d, y, r', u', rfl, rfl, rfl, rfl, hd, hy, HY, HS, rfl⟩ := hrel
        by_cases de : (d : Int) < 6
        · have dl : d < 6 := by omega
          have rd := RE.out d dl
          have ud := IM.out d dl
          have rn := RN.out d
          have un := IN.out d
          have pr := PR.out i 6
          have pu := PUn.out i 6
          have cr := CR.out i d
          have cu := CU'.out i d
          rw [HX.out] at cr cu
          obtain ⟨b, hb⟩ : ∃ b, y % 2 = b := ⟨_, rfl⟩
          obtain ⟨z, hz⟩ : ∃ z, y / 2 = z := ⟨_, rfl⟩
          obtain ⟨R, hR⟩ : ∃ R, reG 6 d = R := ⟨_, rfl⟩
          obtain ⟨U, hU⟩ : ∃ U, imG 6 d = U := ⟨_, rfl⟩
          have f1 : (y : Int).tmod 2 = (b : Int) := by rw [Int.tmod_eq_emod_of_nonneg (by omega), ← hb]; simp
          have f2 : (y : Int) % 2 = (b : Int) := by rw [← hb]; simp
          have f3 : (y : Int) / 2 = (z : Int) := by rw [← hz]; simp
          have F4 := hide' (wrap64_small z (by omega))
          have z63 : z ≤ 63 := by omega
          have b1 : b ≤ 1 := by omega
          have hbx : x / 2 ^ d % 2 = b := by rw [← hb, HY.out]
          have SR := hide' (show r' + (b : Int) * R = pushR 6 f i 6 + cellR 6 x (d + 1) by rw [HS.out.1, cellR, hbx, hR, Int.add_assoc])
          have SU := hide' (show u' + (b : Int) * U = pushU 6 f i 6 + cellU 6 x (d + 1) by rw [HS.out.2, cellU, hbx, hU, Int.add_assoc])
          clear hbx
          have NY := hide' (show z = x / 2 ^ (d + 1) by rw [← hz, HY.out, Nat.div_div_eq_div_mul, Nat.pow_succ])
          have rb : -100000 ≤ r' ∧ r' ≤ 100000 := by rw [HS.out.1]; omega
          have ub : -100000 ≤ u' ∧ u' ≤ 100000 := by rw [HS.out.2]; omega
          obtain ⟨rb1, rb2⟩ := rb
          obtain ⟨ub1, ub2⟩ := ub
          rw [hR] at rd rn
          rw [hU] at ud un
          obtain ⟨bR, hbR⟩ : ∃ q, (b : Int) * R = q := ⟨_, rfl⟩
          obtain ⟨bU, hbU⟩ : ∃ q, (b : Int) * U = q := ⟨_, rfl⟩
          have bRn : -1 ≤ bR ∧ bR ≤ 1 := by rw [← hbR]; rcases (by omega : b = 0 ∨ b = 1) with h | h <;> rw [h] <;> simp <;> omega
          have bUn : -1 ≤ bU ∧ bU ≤ 1 := by rw [← hbU]; rcases (by omega : b = 0 ∨ b = 1) with h | h <;> rw [h] <;> simp <;> omega
          rw [hbR] at SR
          rw [hbU] at SU
          obtain ⟨bR1, bR2⟩ := bRn
          obtain ⟨bU1, bU2⟩ := bUn
          clear hb hz hR hU HY HS pr pu cr cu rn un
          go_wp2
          exact ⟨⟨d + 1, z, r' + bR, u' + bU, by go_num, by first | rfl | rw [F4.out], by go_num, by go_num, by omega, z63, NY, hide' ⟨SR.out, SU.out⟩, by first | rfl | simp⟩, by simp [intOf]; omega⟩
        · have dK : d = 6 := by omega
          have NR := hide' (show r' = pushR 6 f (i + 1) 6 ∧ u' = pushU 6 f (i + 1) 6 by rw [HS.out.1, HS.out.2, dK, pushR_cell, pushU_cell, HX.out]; exact ⟨rfl, rfl⟩)
          clear HS
          go_wp2
          exact ⟨⟨i + 1, r', u', by go_num, rfl, rfl, by omega, NR, by first | rfl | simp⟩, by simp [intOf]; omega⟩
    · have F := hide' (show r = pushR 6 f n 6 ∧ u = pushU 6 f n 6 by rw [HR.out.1, HR.out.2, show i = n by omega]; exact ⟨rfl, rfl⟩)
      clear HR
      go_wp2
      refine bodyPost_ret (v := .tuple #[.int .i64 r, .int .i64 u]) (by simp [results, Tryd.results31, go_sem]) rfl ?_
      rw [F.out.1, F.out.2]
      exact ⟨rfl, BW.out⟩
end Go.Proofs.YtbkllhlapdmlfaaDoor

namespace Go.Proofs.YtbkllhlapdmlfaaDoor
open Go.RowKit
set_option linter.unusedVariables false
theorem made_ca (w : World) (n : Nat) : CA (w.alloc (.cells (madeCells #[.int .i64 0] n) 3)) w.heap.size n (fun _ => 0) := by
  refine ⟨madeCells #[.int .i64 0] n, heap_alloc_new _ _, ?_, fun k hk => ?_⟩
  · rw [← Array.length_toList, toList_madeCells_one]; simp
  · rw [← Array.getElem?_toList, toList_madeCells_one, List.getElem?_replicate, if_pos hk]; rfl
end Go.Proofs.YtbkllhlapdmlfaaDoor

namespace Go.Proofs.YtbkllhlapdmlfaaDoor
open Go.RowKit
set_option linter.unusedVariables false
theorem kind4 : (4 : Nat) = 4 ∨ (4 : Nat) = 6 := Or.inl rfl
theorem kind6 : (6 : Nat) = 4 ∨ (6 : Nat) = 6 := Or.inr rfl
theorem evn4 (H : Nat) : (4 : Nat) = 6 → H % 2 = 0 := fun h => by omega
theorem vvO {K : Nat} (hK : K = 4 ∨ K = 6) : ∀ o, o < K → oppG K o < K ∧ oppG K (oppG K o) = o := fun o ho => ⟨opp_lt hK, opp_opp hK ho⟩
theorem vvI (K : Nat) : ∀ o, o < K → (fun o : Nat => o) o < K ∧ (fun o : Nat => o) ((fun o : Nat => o) o) = o := fun o ho => ⟨ho, rfl⟩
theorem setGas {w : World} {g : Nat} {cur : Array Value} (hg : w.heap[g]? = some (.cells cur 49 (0, 0))) (h4 : cur.size = 4) (x y z t : Value) : ((((w.setCell ⟨g, 0, none⟩ x).setCell ⟨g, 1, none⟩ y).setCell ⟨g, 2, none⟩ z).setCell ⟨g, 3, none⟩ t).heap[g]? = some (.cells #[x, y, z, t] 49 (0, 0)) := by
  rw [heap_setCell_same _ _ _ _ _ _ (heap_setCell_same _ _ _ _ _ _ (heap_setCell_same _ _ _ _ _ _ (heap_setCell_same _ _ _ _ _ _ hg)))]
  obtain ⟨l⟩ := cur
  match l, h4 with
  | [p, q, r, s], _ => rfl
theorem sc_old {K W H : Nat} (hK : K = 4 ∨ K = 6) (hH : K = 6 → H % 2 = 0) (W1 : 1 ≤ W) (H1 : 1 ≤ H) {v : Nat → Nat} (hv : ∀ o, o < K → v o < K ∧ v (v o) = o) (f : Nat → Nat) {k d j : Nat} (hk : k < W * H) (hd : d < K) (hj : j < W * H) (hb : f k / 2 ^ d % 2 = 0) : scG K W H v f k d j = scG K W H v f k (d + 1) j := by
  rw [sc_step hK hH W1 H1 hv f hk hd hj, hb]
  simp
theorem sc_new {K W H : Nat} (hK : K = 4 ∨ K = 6) (hH : K = 6 → H % 2 = 0) (W1 : 1 ≤ W) (H1 : 1 ≤ H) {v : Nat → Nat} (hv : ∀ o, o < K → v o < K ∧ v (v o) = o) (f : Nat → Nat) {k d j t o : Nat} (hk : k < W * H) (hd : d < K) (hj : j < W * H) (hb : f k / 2 ^ d % 2 = 1) (ho : v d = o) (ht : srcG K W H k (oppG K o) = t) : (if j = t then scG K W H v f k d t + 2 ^ o else scG K W H v f k d j) = scG K W H v f k (d + 1) j := by
  rw [sc_step hK hH W1 H1 hv f hk hd hj, hb, ho, ht]
  by_cases e : j = t
  · subst e; rw [if_pos rfl, if_pos rfl]; omega
  · rw [if_neg e, if_neg e]; rfl
theorem div_next (x d y z : Nat) (h1 : y = x / 2 ^ d) (h2 : y / 2 = z) : z = x / 2 ^ (d + 1) := by rw [← h2, h1, Nat.div_div_eq_div_mul, Nat.pow_succ]
end Go.Proofs.YtbkllhlapdmlfaaDoor

