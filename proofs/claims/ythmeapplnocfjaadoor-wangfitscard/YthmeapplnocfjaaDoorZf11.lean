/-
  What the last text of this claim leans on, part 11: Wu2.
-/
import Derived.Test.YthmeapplnocfjaaDoorZf10
namespace Go.Proofs.YthmeapplnocfjaaDoor
open Go.RowKit
set_option linter.unusedVariables false
set_option linter.unusedSimpArgs false
/-- While it is turned: so many tiles, so many rows and cells of one row are done. -/
def tnT (b : BdW) (i : Nat) : BdW := ⟨fun k => if k < i then trT (b.t k) else tlz, b.H, b.W, b.ring, fun _ _ => 0⟩
def tnM (b : BdW) (r j : Nat) : BdW := ⟨fun k => if k < 16 then trT (b.t k) else tlz, b.H, b.W, b.ring, fun x y => if y < r ∨ (y = r ∧ x < j) then b.may y x else 0⟩
/-- What lies there while it is turned: the answer's place, and the board itself. -/
structure TnS (w wr : World) (Z : Array Value) (o : Nat) (B : BdW) : Prop where
  below : Below w.heap.size w wr
  res : wr.heap[w.heap.size]? = some (.cells Z 58 (0, 0))
  brd : BrdA wr o B
  lo : w.heap.size < o
theorem TnS.keep {w wr V : World} {Z : Array Value} {o : Nat} {B : BdW} (h : TnS w wr Z o B) (k : Below wr.heap.size wr V) : TnS w V Z o B := ⟨h.below.trans (k.mono h.below.size), (k.block _ (lt_blockT h.res)).trans h.res, h.brd.below k, h.lo⟩
/-- What turned answers. -/
def TuO (b : BdW) (w : World) (e : Ending) (w' : World) : Prop := e = .returned (.agg (arV 92 (bdV (tnM b 5 0)))) ∧ Below w.heap.size w w'
set_option maxRecDepth 100000 in
set_option maxHeartbeats 12800000 in
theorem turned_any (b : BdW) (g : Nat) (w : World) (hB : BrdA w g b) :
    Calls Tryd.prog 30 #[.pointer (some ⟨g, 0, none⟩)] w (TuO b w) := by
  have HB := hide' (fun (V : World) (h : Below w.heap.size w V) => hB.below h)
  have gl := lt_blockT hB
  clear hB
  have zv := zero_boardW
  obtain ⟨Z, hZ⟩ : ∃ Z, arV 92 (bdV zeB) = Z := ⟨_, rfl⟩
  rw [hZ] at zv
  have ZS : Z.size = 92 := by rw [← hZ, arV_size]
  have zn : ¬ Z = #[] := fun e => by rw [e] at ZS; simp at ZS
  obtain ⟨C, hC⟩ : ∃ C, ((Z.setIfInBounds 64 (.int .i64 (b.H : Int))).setIfInBounds 65 (.int .i64 (b.W : Int))).setIfInBounds 66 (.bool b.ring) = C := ⟨_, rfl⟩
  have CB := hide' (show C = arV 92 (bdV (tnT b 0)) by rw [← hC, ← hZ, set_boardW]; refine arV_ext fun k _ => ?_; unfold tnT zeB; simp)
  have CS := hide' (show C.size = 92 by rw [CB.out, arV_size])
  have CA := hide' (show C.all (·.oneCell') = true by rw [CB.out]; exact arV_all (fun k _ => bdV_one _ k))
  have HC := hide' hC
  obtain ⟨w1, hw1⟩ : ∃ w1, w.alloc (.cells Z 58) = w1 := ⟨_, rfl⟩
  have B1 := (show Below w.heap.size w w1 by rw [← hw1]; exact (Below.refl _ _).alloc (Nat.le_refl _) _)
  have G1 : w1.heap[w.heap.size]? = some (.cells Z 58 (0, 0)) := by rw [← hw1]; exact heap_alloc_new _ _
  have HW1 := hide' hw1
  have hb1 := HB.out w1 B1
  have gl1 := lt_blockT hb1
  have S0 := hide' (fun (V : World) (h : V.heap[g]? = w1.heap[g]?) => show V.cell? ⟨g, 65, none⟩ = some (.int .i64 (b.H : Int)) ∧ V.cell? ⟨g, 64, none⟩ = some (.int .i64 (b.W : Int)) ∧ V.cell? ⟨g, 66, none⟩ = some (.bool b.ring) from by
    have k : BrdA V g b := h.trans hb1
    exact ⟨k.high, k.wide, k.isRing⟩)
  have gne : g ≠ w1.heap.size := by omega
  have SA := hide' (S0.out w1.drew rfl)
  have SB := hide' (fun (o : Obj) => S0.out (w1.alloc o).drew (heap_alloc_old w1 o gl1))
  have SC := hide' (fun (o : Obj) (cs : Array Value) => S0.out ((w1.alloc o).drew.setRow w1.heap.size cs) ((setRow_other (w1.alloc o).drew w1.heap.size g cs gne).trans (heap_alloc_old w1 o gl1)))
  clear hC hw1
  go_enter Tryd.func30, Tryd.ntmps30
  go_upto_region 1 with fail
  try rw [HW1.out]
  have G2 := heap_alloc_new w1 (.cells Z 58)
  have CL : C.toList = ((Z.toList.set 64 (.int .i64 (b.H : Int))).set 65 (.int .i64 (b.W : Int))).set 66 (.bool b.ring) := by rw [← HC.out]; simp
  have hst : Sem.run Tryd.prog (storeCells ⟨w1.heap.size, 0, none⟩ (((Z.toList.set 64 (.int .i64 (b.H : Int))).set 65 (.int .i64 (b.W : Int))).set 66 (.bool b.ring))) (w1.alloc (.cells Z 58)).drew = .ok () ((w1.alloc (.cells Z 58)).drew.setRow w1.heap.size C) := by
    have := run_storeCells_from (P := Tryd.prog) w1.heap.size 58 C.toList 0 Z (w1.alloc (.cells Z 58)).drew G2 (by have := CS.out; simp; omega) (fun v hv => (Array.all_eq_true_iff_forall_mem.1 CA.out) v (by simpa using hv))
    rw [← CL, this]
    simp
  clear CL
  go_region_held3 (fun V => V.cell? ⟨g, 65, none⟩ = some (.int .i64 (b.H : Int)) ∧ V.cell? ⟨g, 64, none⟩ = some (.int .i64 (b.W : Int)) ∧ V.cell? ⟨g, 66, none⟩ = some (.bool b.ring)) (first | exact SA.out | exact SB.out _ | exact SC.out _ _ | fail) (fail)
  obtain ⟨w2, hw2⟩ : ∃ w2, (w1.alloc (.cells Z 58)).drew.setRow w1.heap.size C = w2 := ⟨_, rfl⟩
  obtain ⟨o, ho⟩ : ∃ o, w1.heap.size = o := ⟨_, rfl⟩
  have T2 := hide' (show TnS w w2 Z o (tnT b 0) from ⟨by rw [← hw2]; exact belowW_set ((B1.alloc B1.size _).drew) B1.size _, by
    rw [← hw2, setRow_other _ _ _ _ (by have := lt_blockT G1; omega)]
    exact (heap_alloc_old w1 _ (lt_blockT G1)).trans G1, by
    unfold BrdA
    rw [← hw2, ← ho, ← CB.out]
    exact setRow_heap _ _ _ _ _ _ G2, by have := lt_blockT G1; omega⟩)
  rw [hw2, ho]
  clear hw2 ho G2 hst SA SB SC S0 gne G1 B1 hb1 gl1 CS CA HC CB
  have RT := range_tiles (HB.out w2 T2.out.below)
  obtain ⟨LT, hLT⟩ : ∃ L, ((List.range 64).map fun k => Value.int .i64 (tlC (b.t (k / 4)) (k % 4))) = L := ⟨_, rfl⟩
  rw [hLT] at RT
  have IX := hide' (fun (i : Nat) (h : i < 16) (V : World) => index_tilesW (fun k => tlC (b.t (k / 4)) (k % 4)) i h V)
  have HLT := hide' (show LT.toArray = arV 64 fun k => Value.int .i64 (tlC (b.t (k / 4)) (k % 4)) by rw [← hLT]; rfl)
  have ll : LT.length = 64 := by rw [← hLT]; simp
  rw [← HLT.out] at IX
  clear hLT
  go_wp2_with (first
    | (refine wpList_load_mid rfl 53 _ rfl g 0 rfl LT _ RT Tryd.underlying53 rfl (by rw [ll]; kernel_rfl) ?_))
  clear RT
  go_loopw [4, 5, 27] (fun _ _ iv wr => ∃ i : Nat, iv = .int .i64 (i : Int) ∧ i ≤ 16 ∧ Hid (TnS w wr Z o (tnT b i))) (fun _ _ iv _ => 16 - (intOf iv).toNat)
  case atStart => exact ⟨0, rfl, by omega, T2⟩
  case round =>
    clear T2
    obtain ⟨i, rfl, hi, TW⟩ := hrel
    by_cases d : (i : Int) < 16
    · have i16 : i < 16 := by omega
      have i0 : (0 : Int) ≤ (i : Int) := by omega
      have ix := IX.out i i16 wr
      simp only [show (i * 4 + 0) / 4 = i by omega, show (i * 4 + 1) / 4 = i by omega, show (i * 4 + 2) / 4 = i by omega, show (i * 4 + 3) / 4 = i by omega, show (i * 4 + 0) % 4 = 0 by omega, show (i * 4 + 1) % 4 = 1 by omega, show (i * 4 + 2) % 4 = 2 by omega, show (i * 4 + 3) % 4 = 3 by omega] at ix
      simp only [show tlC (b.t i) 0 = (b.t i).u from rfl, show tlC (b.t i) 1 = (b.t i).r from rfl, show tlC (b.t i) 2 = (b.t i).d from rfl, show tlC (b.t i) 3 = (b.t i).l from rfl] at ix
      obtain ⟨t, ht⟩ : ∃ t, b.t i = t := ⟨_, rfl⟩
      rw [ht] at ix
      obtain ⟨w3, hw3⟩ : ∃ w3, wr.alloc (.cells #[.int .i64 t.u, .int .i64 t.r, .int .i64 t.d, .int .i64 t.l] 47) = w3 := ⟨_, rfl⟩
      have T3 := hide' (TW.out.keep (V := w3) (by rw [← hw3]; exact (Below.refl _ _).alloc (Nat.le_refl _) _))
      have G3 : w3.heap[wr.heap.size]? = some (.cells #[.int .i64 t.u, .int .i64 t.r, .int .i64 t.d, .int .i64 t.l] 47 (0, 0)) := by rw [← hw3]; exact heap_alloc_new _ _
      have y0 : w3.cell? ⟨wr.heap.size, 0, none⟩ = some (.int .i64 t.u) := by rw [cell_of_row w3 _ _ _ _ _ G3]; rfl
      have y1 : w3.cell? ⟨wr.heap.size, 1, none⟩ = some (.int .i64 t.r) := by rw [cell_of_row w3 _ _ _ _ _ G3]; rfl
      have y2 : w3.cell? ⟨wr.heap.size, 2, none⟩ = some (.int .i64 t.d) := by rw [cell_of_row w3 _ _ _ _ _ G3]; rfl
      have y3 : w3.cell? ⟨wr.heap.size, 3, none⟩ = some (.int .i64 t.l) := by rw [cell_of_row w3 _ _ _ _ _ G3]; rfl
      obtain ⟨z0, z1, z2, z3⟩ := T3.out.brd.tile i16
      have f0 := frozen_of_row w3 _ (i * 4) _ _ T3.out.brd
      have f1 := frozen_of_row w3 _ (i * 4 + 1) _ _ T3.out.brd
      have f2 := frozen_of_row w3 _ (i * 4 + 2) _ _ T3.out.brd
      have f3 := frozen_of_row w3 _ (i * 4 + 3) _ _ T3.out.brd
      have ST := set_tileW T3.out.brd i16 (trT t)
      simp only [trT] at ST
      obtain ⟨w4, hw4⟩ : ∃ w4, (((w3.setCell ⟨o, i * 4, none⟩ (.int .i64 t.l)).setCell ⟨o, i * 4 + 1, none⟩ (.int .i64 t.d)).setCell ⟨o, i * 4 + 2, none⟩ (.int .i64 t.r)).setCell ⟨o, i * 4 + 3, none⟩ (.int .i64 t.u) = w4 := ⟨_, rfl⟩
      rw [hw4] at ST
      have NX := hide' (show TnS w w4 Z o (tnT b (i + 1)) from ⟨by rw [← hw4]; exact (((T3.out.below.setCell (Nat.le_of_lt T3.out.lo) _).setCell (Nat.le_of_lt T3.out.lo) _).setCell (Nat.le_of_lt T3.out.lo) _).setCell (Nat.le_of_lt T3.out.lo) _, by
        have ne : w.heap.size ≠ o := Nat.ne_of_lt T3.out.lo
        rw [← hw4, heap_setCell_other _ _ _ _ ne, heap_setCell_other _ _ _ _ ne, heap_setCell_other _ _ _ _ ne, heap_setCell_other _ _ _ _ ne]
        exact T3.out.res, by
        have e : setT (tnT b i) i ⟨t.l, t.d, t.r, t.u⟩ = tnT b (i + 1) := by
          unfold setT tnT
          congr 1
          funext k
          simp only
          by_cases q : k = i
          · rw [if_pos q, if_pos (by omega), q, ht]; rfl
          · rw [if_neg q]
            by_cases q2 : k < i
            · rw [if_pos q2, if_pos (by omega)]
            · rw [if_neg q2, if_neg (by omega)]
        rw [← e]
        exact ST, T3.out.lo⟩)
      have one : ¬ o = wr.heap.size := by have := lt_blockT TW.out.brd; omega
      have one' : ¬ wr.heap.size = o := fun e => one e.symm
      have HW4 := hide' hw4
      clear ST G3 hw4 ht T3
      go_wp2
      try rw [hw3]
      try rw [HW4.out]
      exact ⟨⟨i + 1, by go_num, by omega, NX⟩, by simp [intOf]; omega⟩
    · obtain rfl : i = 16 := by omega
      have TA := hide' (show TnS w wr Z o (tnM b 0 0) by
        have e : tnM b 0 0 = tnT b 16 := by unfold tnM tnT; simp
        rw [e]; exact TW.out)
      have RM := range_may (HB.out wr TW.out.below)
      obtain ⟨LM, hLM⟩ : ∃ L, ((List.range 25).map fun k => Value.int .u64 ((b.may (k / 5) (k % 5) : Nat) : Int)) = L := ⟨_, rfl⟩
      rw [hLM] at RM
      have IM := hide' (fun (i : Nat) (h : i < 5) (V : World) => index_mayW (fun k => b.may (k / 5) (k % 5)) i h V)
      have HLM := hide' (show LM.toArray = arV 25 fun k => Value.int .u64 ((b.may (k / 5) (k % 5) : Nat) : Int) by rw [← hLM]; rfl)
      have lm : LM.length = 25 := by rw [← hLM]; simp
      rw [← HLM.out] at IM
      clear hLM TW IX
      go_wp2_with (first
        | (refine wpList_load_mid rfl 56 _ rfl g 67 rfl LM _ RM Tryd.underlying56 rfl (by rw [lm]; kernel_rfl) ?_))
      clear RM
      obtain ⟨VA, rfl⟩ : ∃ VV, VV = wr := ⟨_, rfl⟩
      go_loopw [6, 7, 8, 9, 48] (fun _ _ _ _ iv wr => ∃ r : Nat, iv = .int .i64 (r : Int) ∧ r ≤ 5 ∧ Hid (TnS w wr Z o (tnM b r 0))) (fun _ _ _ _ iv _ => 5 - (intOf iv).toNat)
      case atStart => exact ⟨0, rfl, by omega, TA⟩
      case round =>
        clear TA
        obtain ⟨r, rfl, hr, TR⟩ := hrel
        by_cases e : (r : Int) < 5
        · have r5 : r < 5 := by omega
          have r0 : (0 : Int) ≤ (r : Int) := by omega
          have im := IM.out r r5 wr
          simp only [show (r * 5 + 0) / 5 = r by omega, show (r * 5 + 1) / 5 = r by omega, show (r * 5 + 2) / 5 = r by omega, show (r * 5 + 3) / 5 = r by omega, show (r * 5 + 4) / 5 = r by omega, show (r * 5 + 0) % 5 = 0 by omega, show (r * 5 + 1) % 5 = 1 by omega, show (r * 5 + 2) % 5 = 2 by omega, show (r * 5 + 3) % 5 = 3 by omega, show (r * 5 + 4) % 5 = 4 by omega] at im
          have IC := hide' (fun (i : Nat) (h : i < 5) (V : World) => index_colW (b.may r) i h V)
          obtain ⟨m0, h0⟩ : ∃ m, b.may r 0 = m := ⟨_, rfl⟩
          obtain ⟨m1, h1⟩ : ∃ m, b.may r 1 = m := ⟨_, rfl⟩
          obtain ⟨m2, h2⟩ : ∃ m, b.may r 2 = m := ⟨_, rfl⟩
          obtain ⟨m3, h3⟩ : ∃ m, b.may r 3 = m := ⟨_, rfl⟩
          obtain ⟨m4, h4⟩ : ∃ m, b.may r 4 = m := ⟨_, rfl⟩
          rw [h0, h1, h2, h3, h4] at im IC
          obtain ⟨w3, hw3⟩ : ∃ w3, wr.alloc (.cells #[.int .u64 (m0 : Int), .int .u64 (m1 : Int), .int .u64 (m2 : Int), .int .u64 (m3 : Int), .int .u64 (m4 : Int)] 55) = w3 := ⟨_, rfl⟩
          have T3 := hide' (TR.out.keep (V := w3) (by rw [← hw3]; exact (Below.refl _ _).alloc (Nat.le_refl _) _))
          have G3 : w3.heap[wr.heap.size]? = some (.cells #[.int .u64 (m0 : Int), .int .u64 (m1 : Int), .int .u64 (m2 : Int), .int .u64 (m3 : Int), .int .u64 (m4 : Int)] 55 (0, 0)) := by rw [← hw3]; exact heap_alloc_new _ _
          have y0 : w3.cell? ⟨wr.heap.size, 0, none⟩ = some (.int .u64 (m0 : Int)) := by rw [cell_of_row w3 _ _ _ _ _ G3]; rfl
          have y1 : w3.cell? ⟨wr.heap.size, 1, none⟩ = some (.int .u64 (m1 : Int)) := by rw [cell_of_row w3 _ _ _ _ _ G3]; rfl
          have y2 : w3.cell? ⟨wr.heap.size, 2, none⟩ = some (.int .u64 (m2 : Int)) := by rw [cell_of_row w3 _ _ _ _ _ G3]; rfl
          have y3 : w3.cell? ⟨wr.heap.size, 3, none⟩ = some (.int .u64 (m3 : Int)) := by rw [cell_of_row w3 _ _ _ _ _ G3]; rfl
          have y4 : w3.cell? ⟨wr.heap.size, 4, none⟩ = some (.int .u64 (m4 : Int)) := by rw [cell_of_row w3 _ _ _ _ _ G3]; rfl
          clear G3 h0 h1 h2 h3 h4 TR
          go_wp2
          try rw [hw3]
          clear hw3 y0 y1 y2 y3 y4 im
          obtain ⟨VB, rfl⟩ : ∃ VV, VV = wr := ⟨_, rfl⟩
          go_loopw [8, 9, 53] (fun _ _ jv wr => ∃ j : Nat, jv = .int .i64 (j : Int) ∧ j ≤ 5 ∧ Hid (TnS w wr Z o (tnM b r j))) (fun _ _ jv _ => 5 - (intOf jv).toNat)
          case atStart => exact ⟨0, rfl, by omega, T3⟩
          case round =>
            clear T3
            obtain ⟨j, rfl, hj, TJ⟩ := hrel
            by_cases x : (j : Int) < 5
            · have j5 : j < 5 := by omega
              have j0 : (0 : Int) ≤ (j : Int) := by omega
              have ic := IC.out j j5 wr
              have zc := TJ.out.brd.may j5 r5
              have fz := frozen_of_row wr _ (67 + j * 5 + r) _ _ TJ.out.brd
              obtain ⟨m, hm⟩ : ∃ m, b.may r j = m := ⟨_, rfl⟩
              rw [hm] at ic
              have NX := hide' (show TnS w (wr.setCell ⟨o, 67 + j * 5 + r, none⟩ (.int .u64 (m : Int))) Z o (tnM b r (j + 1)) from ⟨TJ.out.below.setCell (Nat.le_of_lt TJ.out.lo) _, by
                rw [heap_setCell_other _ _ _ _ (Nat.ne_of_lt TJ.out.lo)]
                exact TJ.out.res, by
                have e : setM (tnM b r j) j r m = tnM b r (j + 1) := by
                  unfold setM tnM
                  congr 1
                  funext x y
                  simp only
                  by_cases q : x = j ∧ y = r
                  · rw [if_pos q, if_pos (by omega), q.1, q.2, hm]
                  · rw [if_neg q]
                    by_cases q2 : y < r ∨ (y = r ∧ x < j)
                    · rw [if_pos q2, if_pos (by omega)]
                    · rw [if_neg q2, if_neg (by omega)]
                rw [← e]
                exact set_mayW TJ.out.brd j5 r5 m, TJ.out.lo⟩)
              clear hm TJ
              go_wp2
              exact ⟨⟨j + 1, by go_num, by omega, NX⟩, by simp [intOf]; omega⟩
            · obtain rfl : j = 5 := by omega
              have NX := hide' (show TnS w wr Z o (tnM b (r + 1) 0) from ⟨TJ.out.below, TJ.out.res, by
                unfold BrdA
                rw [TJ.out.brd]
                congr 2
                refine arV_ext fun k hk => ?_
                unfold bdV tnM
                simp only
                split
                · rfl
                · split
                  · rfl
                  · split
                    · rfl
                    · split
                      · rfl
                      · have m5 : (k - 67) / 5 < 5 := by omega
                        by_cases q : (k - 67) % 5 < r ∨ (k - 67) % 5 = r ∧ (k - 67) / 5 < 5
                        · rw [if_pos q, if_pos (by omega)]
                        · rw [if_neg q, if_neg (by omega)], TJ.out.lo⟩)
              go_wp2
              exact ⟨⟨r + 1, by go_num, by omega, NX⟩, by simp [intOf]; omega⟩
        · obtain rfl : r = 5 := by omega
          obtain ⟨B, hBe⟩ : ∃ B, tnM b 5 0 = B := ⟨_, rfl⟩
          rw [hBe] at TR
          have gr := TR.out.brd
          unfold BrdA at gr
          obtain ⟨A, hA⟩ : ∃ A, arV 92 (bdV B) = A := ⟨_, rfl⟩
          rw [hA] at gr
          have os : A.size = 92 := by rw [← hA, arV_size]
          have ol : A.all (·.oneCell') = true := by rw [← hA]; exact arV_all (fun k _ => bdV_one _ k)
          have gb := TR.out.res
          have BB := hide' TR.out.below
          have HBE := hide' hBe
          clear TR hBe
          go_wp2_with (first
            | (refine wpList_load_row rfl 58 _ rfl o rfl 58 A (0, 0) _ gr Tryd.underlying58 rfl (by rw [os]; exact size_boardW) ?_)
            | (refine wpList_store_row rfl 58 _ _ rfl w.heap.size A rfl rfl 58 _ gb (by rw [os]; exact size_boardW) (by rw [os]; exact ZS) ol ?_))
          refine bodyPost_ret (v := .agg A) (results_cell_row Tryd.results30 _ _ w.heap.size 58 _ (0, 0) _ rfl (setRow_heap _ _ _ _ _ _ gb) Tryd.underlying58 rfl (by rw [os]; exact size_boardW)) rfl ?_
          exact ⟨by rw [HBE.out, hA], belowW_set BB.out (by omega) _⟩
end Go.Proofs.YthmeapplnocfjaaDoor

