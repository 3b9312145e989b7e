/-
  What the last text of this claim leans on, part 4: Ga9, Gc1, Gb1, Gb2.
-/
import Derived.Test.YtbkllhlapdmlfaaDoorQf2
import Derived.Test.YtbkllhlapdmlfaaDoorQf3
import Derived.Deep.CutRange
import Derived.Laws.ComplexArith
import Derived.BigRegion
import Derived.Deep.RegionHeld3
namespace Go.Proofs.YtbkllhlapdmlfaaDoor
open Go.RowKit
set_option linter.unusedVariables false
/-- What is wrong with a run. -/
def runGE (K W H : Int) (xs cs : List Int) (k : Int) : Nat := if gasE K W H xs ≠ 0 then gasE K W H xs else if k < 0 ∨ 100000 < k then 1 else if cs.all cellB then (if K = 6 ∧ cs.length = 0 then 3 else 0) else 1
theorem gasE_kind {K W H : Int} {xs : List Int} (h : gasE K W H xs = 0) : K = 4 ∨ K = 6 := by
  unfold gasE at h
  by_cases q : K = 4 ∨ K = 6
  · exact q
  · rw [if_neg q] at h; omega
set_option maxRecDepth 100000 in
set_option maxHeartbeats 6400000 in
theorem checkRun_G (K W H : Int) (xs : List Int) (a : Option Addr) (n c : Nat) (cs : List Int) (b' : Option Addr) (m d' : Nat) (k : Int) (w : World) (hP : ArgP w xs a n c) (hC : ArgP w cs b' m d') :
    Calls Tryd.prog 61 #[.agg #[.int .i64 K, .int .i64 W, .int .i64 H, .slice a n c], .slice b' m d', .int .i64 k] w fun e w' => e = .returned (errOf (runGE K W H xs cs k)) ∧ Below w.heap.size w w' := by
  obtain ⟨w1, hw1⟩ : ∃ w1, w.alloc (.cells #[.int .i64 K, .int .i64 W, .int .i64 H, .slice a n c] 49) = w1 := ⟨_, rfl⟩
  have BB := hide' (show Below w.heap.size w w1 by rw [← hw1]; exact (Below.refl _ _).alloc (Nat.le_refl _) _)
  have g1 : w1.heap[w.heap.size]? = some (.cells #[.int .i64 K, .int .i64 W, .int .i64 H, .slice a n c] 49 (0, 0)) := by rw [← hw1]; exact heap_alloc_new _ _
  have SV := hide' (fun (V : World) (h : Below w1.heap.size w1 V) => show V.cell? ⟨w.heap.size, 0, none⟩ = some (.int .i64 K) ∧ V.cell? ⟨w.heap.size, 1, none⟩ = some (.int .i64 W) ∧ V.cell? ⟨w.heap.size, 2, none⟩ = some (.int .i64 H) ∧ V.cell? ⟨w.heap.size, 3, none⟩ = some (.slice a n c) from by
    have e1 := (h.block _ (lt_of_block g1)).trans g1
    exact ⟨cell_of_row V _ 0 _ _ _ e1, cell_of_row V _ 1 _ _ _ e1, cell_of_row V _ 2 _ _ _ e1, cell_of_row V _ 3 _ _ _ e1⟩)
  have CC := hide' (Check_G K W H xs a n c w1 (hP.below BB.out))
  have HC := hide' (fun (V : World) (hV : Below w.heap.size w V) => hC.below hV)
  have HL := hide' hC.len
  have hmax := hC.max
  unfold maxLen at hmax
  obtain ⟨c0, c1, c2, c3⟩ := SV.out w1 (Below.refl _ _)
  clear hP hC g1
  by_cases g0 : gasE K W H xs = 0
  · have kind := gasE_kind g0
    rw [g0, show errOf 0 = .nilIface from rfl] at CC
    by_cases k0 : k < 0
    · have F := hide' (show errOf (runGE K W H xs cs k) = .iface 83 (.int .i64 1) by unfold runGE; rw [if_neg (by omega), if_pos (by omega)]; rfl)
      clear kind g0
      go_enter Tryd.func61, Tryd.ntmps61
      go_upto_region 1 with fail
      clear hw1
      go_wp2_with fail
      refine CC.out.mono ?_
      rintro e w2 ⟨rfl, b⟩
      have B2 := hide' (BB.out.trans (b.mono BB.out.size))
      clear c0 c1 c2 c3
      obtain ⟨c0, c1, c2, c3⟩ := SV.out w2 b
      clear b
      go_wp2
      go_ret
      rw [F.out]
      exact ⟨rfl, B2.out⟩
    · by_cases k1 : 100000 < k
      · have F := hide' (show errOf (runGE K W H xs cs k) = .iface 83 (.int .i64 1) by unfold runGE; rw [if_neg (by omega), if_pos (by omega)]; rfl)
        clear kind g0
        go_enter Tryd.func61, Tryd.ntmps61
        go_upto_region 1 with fail
        clear hw1
        go_wp2_with fail
        refine CC.out.mono ?_
        rintro e w2 ⟨rfl, b⟩
        have B2 := hide' (BB.out.trans (b.mono BB.out.size))
        clear c0 c1 c2 c3
        obtain ⟨c0, c1, c2, c3⟩ := SV.out w2 b
        clear b
        go_wp2
        go_ret
        rw [F.out]
        exact ⟨rfl, B2.out⟩
      · have FN := hide' (fun (h : cs.all cellB = false) => show errOf (runGE K W H xs cs k) = .iface 83 (.int .i64 1) by unfold runGE; rw [if_neg (by omega), if_neg (by omega), if_neg (by rw [h]; simp)]; rfl)
        by_cases k6 : K = 6
        · have m6 : (K == 6) = true := by simp [k6]
          by_cases mz : m = 0
          · have z0 : ((m : Int) == 0) = true := by simp [mz]
            have FO := hide' (fun (h : cs.all cellB = true) => show errOf (runGE K W H xs cs k) = .iface 83 (.int .i64 3) by unfold runGE; rw [if_neg (by omega), if_neg (by omega), if_pos h, if_pos ⟨k6, by rw [← HL.out, mz]⟩]; rfl)
            clear kind g0 k6 mz
            go_enter Tryd.func61, Tryd.ntmps61
            go_upto_region 1 with fail
            clear hw1
            go_wp2_with fail
            refine CC.out.mono ?_
            rintro e w2 ⟨rfl, b⟩
            have B2 := hide' (BB.out.trans (b.mono BB.out.size))
            clear c0 c1 c2 c3
            obtain ⟨c0, c1, c2, c3⟩ := SV.out w2 b
            clear b
            go_wp2
            go_loop [24] (fun kv => ∃ k : Nat, kv = .int .i64 (k : Int) ∧ k ≤ m ∧ ∀ j (h : j < cs.length), j < k → cellB cs[j] = true) (fun kv => m - (intOf kv).toNat)
            case atStart => exact ⟨0, rfl, by omega, fun j h hj => by omega⟩
            case round =>
              obtain ⟨k, rfl, hk, hall⟩ := hrel
              have HA := hide' hall
              clear hall
              by_cases d : (k : Int) < (m : Int)
              · have hkl : k < cs.length := by have := HL.out; omega
                obtain ⟨g, off, rfl, hg, hc⟩ := (HC.out w2 B2.out).cells k hkl
                obtain ⟨x, hx⟩ : ∃ x, cs[k] = x := ⟨_, rfl⟩
                rw [hx] at hc
                have HX := hide' hx
                clear hx
                by_cases x0 : x = 0
                · have m2 : (x != 0) = false := by simp [x0]
                  have X := hide' (show cellB x = true by unfold cellB; simp [x0])
                  clear x0
                  go_wp2
                  refine ⟨⟨k + 1, by go_num, by omega, fun j h hj => ?_⟩, by simp [intOf]; omega⟩
                  by_cases e : j = k
                  · subst e; rw [HX.out]; exact X.out
                  · exact HA.out j h (by omega)
                · have m2 : (x != 0) = true := by simp [x0]
                  by_cases x1 : x = 1
                  · have m3 : (x != 1) = false := by simp [x1]
                    have X := hide' (show cellB x = true by unfold cellB; simp [x1])
                    clear x0 x1
                    go_wp2
                    refine ⟨⟨k + 1, by go_num, by omega, fun j h hj => ?_⟩, by simp [intOf]; omega⟩
                    by_cases e : j = k
                    · subst e; rw [HX.out]; exact X.out
                    · exact HA.out j h (by omega)
                  · have m3 : (x != 1) = true := by simp [x1]
                    have X := hide' (show cellB x = false by unfold cellB; simp [x0, x1])
                    clear x0 x1
                    go_wp2
                    go_ret
                    rw [FN.out (all_bad hkl (by rw [HX.out]; exact X.out))]
                    exact ⟨rfl, B2.out⟩
              · have HA2 := hide' (all_ok (fun j h => HA.out j h (by have := HL.out; omega)))
                go_wp2
                go_ret
                rw [FO.out HA2.out]
                exact ⟨rfl, B2.out⟩
          · have z0 : ((m : Int) == 0) = false := by simp [mz]
            have FO := hide' (fun (h : cs.all cellB = true) => show errOf (runGE K W H xs cs k) = .nilIface by unfold runGE; rw [if_neg (by omega), if_neg (by omega), if_pos h, if_neg (fun q => mz (by rw [HL.out]; exact q.2))]; rfl)
            clear kind g0 k6 mz
            go_enter Tryd.func61, Tryd.ntmps61
            go_upto_region 1 with fail
            clear hw1
            go_wp2_with fail
            refine CC.out.mono ?_
            rintro e w2 ⟨rfl, b⟩
            have B2 := hide' (BB.out.trans (b.mono BB.out.size))
            clear c0 c1 c2 c3
            obtain ⟨c0, c1, c2, c3⟩ := SV.out w2 b
            clear b
            go_wp2
            go_loop [24] (fun kv => ∃ k : Nat, kv = .int .i64 (k : Int) ∧ k ≤ m ∧ ∀ j (h : j < cs.length), j < k → cellB cs[j] = true) (fun kv => m - (intOf kv).toNat)
            case atStart => exact ⟨0, rfl, by omega, fun j h hj => by omega⟩
            case round =>
              obtain ⟨k, rfl, hk, hall⟩ := hrel
              have HA := hide' hall
              clear hall
              by_cases d : (k : Int) < (m : Int)
              · have hkl : k < cs.length := by have := HL.out; omega
                obtain ⟨g, off, rfl, hg, hc⟩ := (HC.out w2 B2.out).cells k hkl
                obtain ⟨x, hx⟩ : ∃ x, cs[k] = x := ⟨_, rfl⟩
                rw [hx] at hc
                have HX := hide' hx
                clear hx
                by_cases x0 : x = 0
                · have m2 : (x != 0) = false := by simp [x0]
                  have X := hide' (show cellB x = true by unfold cellB; simp [x0])
                  clear x0
                  go_wp2
                  refine ⟨⟨k + 1, by go_num, by omega, fun j h hj => ?_⟩, by simp [intOf]; omega⟩
                  by_cases e : j = k
                  · subst e; rw [HX.out]; exact X.out
                  · exact HA.out j h (by omega)
                · have m2 : (x != 0) = true := by simp [x0]
                  by_cases x1 : x = 1
                  · have m3 : (x != 1) = false := by simp [x1]
                    have X := hide' (show cellB x = true by unfold cellB; simp [x1])
                    clear x0 x1
                    go_wp2
                    refine ⟨⟨k + 1, by go_num, by omega, fun j h hj => ?_⟩, by simp [intOf]; omega⟩
                    by_cases e : j = k
                    · subst e; rw [HX.out]; exact X.out
                    · exact HA.out j h (by omega)
                  · have m3 : (x != 1) = true := by simp [x1]
                    have X := hide' (show cellB x = false by unfold cellB; simp [x0, x1])
                    clear x0 x1
                    go_wp2
                    go_ret
                    rw [FN.out (all_bad hkl (by rw [HX.out]; exact X.out))]
                    exact ⟨rfl, B2.out⟩
              · have HA2 := hide' (all_ok (fun j h => HA.out j h (by have := HL.out; omega)))
                go_wp2
                go_ret
                rw [FO.out HA2.out]
                exact ⟨rfl, B2.out⟩
        · have m6 : (K == 6) = false := by simp [k6]
          have FO := hide' (fun (h : cs.all cellB = true) => show errOf (runGE K W H xs cs k) = .nilIface by unfold runGE; rw [if_neg (by omega), if_neg (by omega), if_pos h, if_neg (fun q => k6 q.1)]; rfl)
          clear kind g0 k6
          go_enter Tryd.func61, Tryd.ntmps61
          go_upto_region 1 with fail
          clear hw1
          go_wp2_with fail
          refine CC.out.mono ?_
          rintro e w2 ⟨rfl, b⟩
          have B2 := hide' (BB.out.trans (b.mono BB.out.size))
          clear c0 c1 c2 c3
          obtain ⟨c0, c1, c2, c3⟩ := SV.out w2 b
          clear b
          go_wp2
          go_loop [24] (fun kv => ∃ k : Nat, kv = .int .i64 (k : Int) ∧ k ≤ m ∧ ∀ j (h : j < cs.length), j < k → cellB cs[j] = true) (fun kv => m - (intOf kv).toNat)
          case atStart => exact ⟨0, rfl, by omega, fun j h hj => by omega⟩
          case round =>
            obtain ⟨k, rfl, hk, hall⟩ := hrel
            have HA := hide' hall
            clear hall
            by_cases d : (k : Int) < (m : Int)
            · have hkl : k < cs.length := by have := HL.out; omega
              obtain ⟨g, off, rfl, hg, hc⟩ := (HC.out w2 B2.out).cells k hkl
              obtain ⟨x, hx⟩ : ∃ x, cs[k] = x := ⟨_, rfl⟩
              rw [hx] at hc
              have HX := hide' hx
              clear hx
              by_cases x0 : x = 0
              · have m2 : (x != 0) = false := by simp [x0]
                have X := hide' (show cellB x = true by unfold cellB; simp [x0])
                clear x0
                go_wp2
                refine ⟨⟨k + 1, by go_num, by omega, fun j h hj => ?_⟩, by simp [intOf]; omega⟩
                by_cases e : j = k
                · subst e; rw [HX.out]; exact X.out
                · exact HA.out j h (by omega)
              · have m2 : (x != 0) = true := by simp [x0]
                by_cases x1 : x = 1
                · have m3 : (x != 1) = false := by simp [x1]
                  have X := hide' (show cellB x = true by unfold cellB; simp [x1])
                  clear x0 x1
                  go_wp2
                  refine ⟨⟨k + 1, by go_num, by omega, fun j h hj => ?_⟩, by simp [intOf]; omega⟩
                  by_cases e : j = k
                  · subst e; rw [HX.out]; exact X.out
                  · exact HA.out j h (by omega)
                · have m3 : (x != 1) = true := by simp [x1]
                  have X := hide' (show cellB x = false by unfold cellB; simp [x0, x1])
                  clear x0 x1
                  go_wp2
                  go_ret
                  rw [FN.out (all_bad hkl (by rw [HX.out]; exact X.out))]
                  exact ⟨rfl, B2.out⟩
            · have HA2 := hide' (all_ok (fun j h => HA.out j h (by have := HL.out; omega)))
              go_wp2
              go_ret
              rw [FO.out HA2.out]
              exact ⟨rfl, B2.out⟩
  · have F := hide' (show errOf (runGE K W H xs cs k) = errOf (gasE K W H xs) by unfold runGE; rw [if_pos g0])
    have EI := hide' (errOf_posB g0)
    rw [EI.out] at CC
    clear g0
    go_enter Tryd.func61, Tryd.ntmps61
    go_upto_region 1 with fail
    clear hw1
    go_wp2_with fail
    refine CC.out.mono ?_
    rintro e w2 ⟨rfl, b⟩
    have B2 := hide' (BB.out.trans (b.mono BB.out.size))
    clear c0 c1 c2 c3
    obtain ⟨c0, c1, c2, c3⟩ := SV.out w2 b
    clear b
    go_wp2
    go_ret
    rw [F.out, EI.out]
    exact ⟨rfl, B2.out⟩
end Go.Proofs.YtbkllhlapdmlfaaDoor

namespace Go.Proofs.YtbkllhlapdmlfaaDoor
open Go.RowKit
set_option linter.unusedVariables false
def GasBad (f : Nat) (w : World) (e : Ending) (w' : World) : Prop := e = .returned (.tuple #[.agg #[.int .i64 0, .int .i64 0, .int .i64 0, .slice none 0 0], errOf f]) ∧ Below w.heap.size w w'
set_option maxRecDepth 100000 in
set_option maxHeartbeats 3200000 in
theorem gasRun_bad (K W H : Int) (xs : List Int) (a : Option Addr) (n c : Nat) (cs : List Int) (b' : Option Addr) (m d' : Nat) (k : Int) (w : World) (hP : ArgP w xs a n c) (hC : ArgP w cs b' m d') (h0 : runGE K W H xs cs k ≠ 0) :
    Calls Tryd.prog 24 #[.agg #[.int .i64 K, .int .i64 W, .int .i64 H, .slice a n c], .slice b' m d', .int .i64 k] w (GasBad (runGE K W H xs cs k) w) := by
  obtain ⟨w1, hw1⟩ : ∃ w1, (w.alloc (.cells #[.int .i64 K, .int .i64 W, .int .i64 H, .slice a n c] 49)).alloc (.cells #[.int .i64 0, .int .i64 0, .int .i64 0, .slice none 0 0] 49) = w1 := ⟨_, rfl⟩
  have BB := hide' (show Below w.heap.size w w1 by rw [← hw1]; exact ((Below.refl _ _).alloc (Nat.le_refl _) _).alloc (by simp) _)
  have g1 : w1.heap[w.heap.size]? = some (.cells #[.int .i64 K, .int .i64 W, .int .i64 H, .slice a n c] 49 (0, 0)) := by rw [← hw1, Below.heap_alloc _ _ _ (by simp)]; exact heap_alloc_new _ _
  have g2 : w1.heap[w.heap.size + 1]? = some (.cells #[.int .i64 0, .int .i64 0, .int .i64 0, .slice none 0 0] 49 (0, 0)) := by rw [← hw1]; exact heap_atX _ _ _ (by simp)
  have s1 : w1.heap.size = w.heap.size + 1 + 1 := by rw [← hw1]; simp
  have c0 := cell_of_row w1 _ 0 _ _ _ g1
  have c1 := cell_of_row w1 _ 1 _ _ _ g1
  have c2 := cell_of_row w1 _ 2 _ _ _ g1
  have c3 := cell_of_row w1 _ 3 _ _ _ g1
  simp at c0 c1 c2 c3
  have CC := hide' (checkRun_G K W H xs a n c cs b' m d' k w1 (hP.below BB.out) (hC.below BB.out))
  have EI := hide' (errOf_posB h0)
  unfold GasBad
  rw [EI.out] at CC ⊢
  have G2 := hide' g2
  clear hP hC h0 g1 g2
  go_enter Tryd.func24, Tryd.ntmps24
  go_upto_region 1 with fail
  clear hw1
  go_wp2_with fail
  refine CC.out.mono ?_
  rintro e w2 ⟨rfl, b⟩
  have B2 := hide' (BB.out.trans (b.mono BB.out.size))
  have e2 := (b.block (w.heap.size + 1) (by omega)).trans G2.out
  have r0 := cell_of_row w2 _ 0 _ _ _ e2
  have r1 := cell_of_row w2 _ 1 _ _ _ e2
  have r2 := cell_of_row w2 _ 2 _ _ _ e2
  have r3 := cell_of_row w2 _ 3 _ _ _ e2
  simp at r0 r1 r2 r3
  have f0 := frozen_of_row w2 _ 0 _ _ e2
  have f1 := frozen_of_row w2 _ 1 _ _ e2
  have f2 := frozen_of_row w2 _ 2 _ _ e2
  have f3 := frozen_of_row w2 _ 3 _ _ e2
  have l1 := lt_of_block e2
  clear b c0 c1 c2 c3 e2
  go_wp2
  refine bodyPost_ret (v := .tuple #[.agg #[.int .i64 0, .int .i64 0, .int .i64 0, .slice none 0 0], .iface 83 (.int .i64 ((runGE K W H xs cs k : Nat) : Int))]) (by simp [results, Tryd.results24, go_sem, r0, r1, r2, r3]) rfl ?_
  exact ⟨rfl, (((B2.out.setCell (by simp) _).setCell (by simp) _).setCell (by simp) _).setCell (by simp) _⟩
end Go.Proofs.YtbkllhlapdmlfaaDoor

namespace Go.Proofs.YtbkllhlapdmlfaaDoor
open Go.RowKit
set_option linter.unusedVariables false
/-- The bits of a whole number. -/
def fI (n : Int) : Nat := floatOfInt .f64 n
theorem fI_subT : ∀ (n : Fin 256) (c : Fin 3), floatBits .sub .f64 (fI ((n.val : Int) - 100)) (fI ((c.val : Int) - 1)) = some (fI (((n.val : Int) - 100) - ((c.val : Int) - 1))) := by decide +kernel
theorem fI_intT : ∀ (n : Fin 256), floatToIntVal .f64 (fI ((n.val : Int) - 102)) .i64 = some ((n.val : Int) - 102) := by decide +kernel
theorem fI_negT : ∀ (n : Fin 256), floatToIntVal .f64 (Op.negFloat .f64 (fI ((n.val : Int) - 102))) .i64 = some (-((n.val : Int) - 102)) := by decide +kernel
theorem fI_sub {n c : Int} (h1 : -100 ≤ n) (h2 : n ≤ 155) (h3 : -1 ≤ c) (h4 : c ≤ 1) : floatBits .sub .f64 (fI n) (fI c) = some (fI (n - c)) := by
  have := fI_subT ⟨(n + 100).toNat, by omega⟩ ⟨(c + 1).toNat, by omega⟩
  rwa [show (((n + 100).toNat : Nat) : Int) - 100 = n by omega, show (((c + 1).toNat : Nat) : Int) - 1 = c by omega] at this
theorem fI_int {n : Int} (h1 : -102 ≤ n) (h2 : n ≤ 153) : floatToIntVal .f64 (fI n) .i64 = some n := by
  have := fI_intT ⟨(n + 102).toNat, by omega⟩
  rwa [show (((n + 102).toNat : Nat) : Int) - 102 = n by omega] at this
theorem fI_neg {n : Int} (h1 : -102 ≤ n) (h2 : n ≤ 153) : floatToIntVal .f64 (Op.negFloat .f64 (fI n)) .i64 = some (-n) := by
  have := fI_negT ⟨(n + 102).toNat, by omega⟩
  rwa [show (((n + 102).toNat : Nat) : Int) - 102 = n by omega] at this
/-- How far a row leans. -/
def leanG (K : Int) (y : Int) : Int := if K = 4 then 0 else (y + 1) / 2
set_option maxRecDepth 100000 in
theorem lean_any (K y : Int) (w : World) (h1 : -1 ≤ y) (h2 : y ≤ 1000) : Calls Tryd.prog 138 #[.int .i64 K, .int .i64 y] w fun e w' => e = .returned (.int .i64 (leanG K y)) ∧ w' = w := by
  by_cases k4 : K = 4
  · have F := hide' (show leanG K y = 0 by unfold leanG; rw [if_pos k4])
    have m4 : (K == 4) = true := by simp [k4]
    rw [F.out]
    clear k4
    go_enter Tryd.func138, Tryd.ntmps138
    go_wp2
    go_ret
    exact ⟨rfl, rfl⟩
  · obtain ⟨m, rfl⟩ : ∃ m : Nat, y = (m : Int) - 1 := ⟨(y + 1).toNat, by omega⟩
    have F := hide' (show leanG K ((m : Int) - 1) = ((m / 2 : Nat) : Int) by unfold leanG; rw [if_neg k4]; omega)
    have m4 : (K == 4) = false := by simp [k4]
    rw [F.out]
    clear k4
    go_enter Tryd.func138, Tryd.ntmps138
    go_wp2
    go_ret
    exact ⟨rfl, rfl⟩
set_option maxRecDepth 100000 in
theorem ring_any (n s r : Int) (w : World) (h1 : -1000 ≤ n) (h2 : n ≤ 1000) (h3 : 1 ≤ s) (h4 : s ≤ 1000) (hr : (n + s).tmod s = r) : Calls Tryd.prog 139 #[.int .i64 n, .int .i64 s] w fun e w' => e = .returned (.int .i64 r) ∧ w' = w := by
  have ns : ¬ s = 0 := by omega
  go_enter Tryd.func139, Tryd.ntmps139
  go_wp2
  go_ret
  exact ⟨rfl, rfl⟩
set_option maxRecDepth 100000 in
theorem placeOf_any (K x y : Int) (w : World) (h1 : 0 ≤ x) (h2 : x ≤ 100) (h3 : 0 ≤ y) (h4 : y ≤ 100) : Calls Tryd.prog 109 #[.int .i64 K, .int .i64 x, .int .i64 y] w fun e w' => e = .returned (.complex .f64 (fI (x + leanG K y)) (fI (-y))) ∧ w' = w := by
  have LC := hide' (fun V => lean_any K y V (by omega) (by omega))
  have lb : 0 ≤ leanG K y ∧ leanG K y ≤ 100 := by unfold leanG; split <;> omega
  obtain ⟨l, hl⟩ : ∃ l, leanG K y = l := ⟨_, rfl⟩
  rw [hl] at LC lb ⊢
  obtain ⟨l1, l2⟩ := lb
  clear hl
  go_enter Tryd.func109, Tryd.ntmps109
  go_wp2_with fail
  refine (LC.out _).mono ?_
  rintro e w2 ⟨rfl, rfl⟩
  go_wp2
  go_ret
  exact ⟨rfl, rfl⟩
end Go.Proofs.YtbkllhlapdmlfaaDoor

namespace Go.Proofs.YtbkllhlapdmlfaaDoor
open Go.RowKit
set_option linter.unusedVariables false
set_option maxRecDepth 100000 in
set_option maxHeartbeats 3200000 in
theorem numberAt_any (K : Int) (W H : Nat) (a : Option Addr) (n c : Nat) (p q : Int) (r s : Nat) (w : World) (hW : 1 ≤ W ∧ W ≤ 100) (hH : 1 ≤ H ∧ H ≤ 100) (hp : -102 ≤ p ∧ p ≤ 153) (hq : -100 ≤ q ∧ q ≤ 1) (hr : (-q + (H : Int)).tmod (H : Int) = (r : Int)) (hs : (p - leanG K (-q) + (W : Int)).tmod (W : Int) = (s : Int)) (hrl : r < H) (hsl : s < W) :
    Calls Tryd.prog 108 #[.agg #[.int .i64 K, .int .i64 (W : Int), .int .i64 (H : Int), .slice a n c], .complex .f64 (fI p) (fI q)] w fun e w' => e = .returned (.int .i64 ((r * W + s : Nat) : Int)) ∧ Below w.heap.size w w' := by
  obtain ⟨w1, hw1⟩ : ∃ w1, w.alloc (.cells #[.int .i64 K, .int .i64 (W : Int), .int .i64 (H : Int), .slice a n c] 49) = w1 := ⟨_, rfl⟩
  have BB := hide' (show Below w.heap.size w w1 by rw [← hw1]; exact (Below.refl _ _).alloc (Nat.le_refl _) _)
  have g1 : w1.heap[w.heap.size]? = some (.cells #[.int .i64 K, .int .i64 (W : Int), .int .i64 (H : Int), .slice a n c] 49 (0, 0)) := by rw [← hw1]; exact heap_alloc_new _ _
  have c0 := cell_of_row w1 _ 0 _ _ _ g1
  have c1 := cell_of_row w1 _ 1 _ _ _ g1
  have c2 := cell_of_row w1 _ 2 _ _ _ g1
  simp at c0 c1 c2
  have lb : 0 ≤ leanG K (-q) ∧ leanG K (-q) ≤ 100 := by unfold leanG; split <;> omega
  have LC := hide' (fun V => lean_any K (-q) V (by omega) (by omega))
  obtain ⟨l, hl⟩ : ∃ l, leanG K (-q) = l := ⟨_, rfl⟩
  rw [hl] at LC lb hs
  have hc2 := fun V => run_convert_float_int (P := Tryd.prog) V 141 3 .f64 .i64 (fI p) p (by rw [Tryd.underlying141]; rfl) Tryd.underlying3 (fI_int hp.1 hp.2)
  have hc1 := fun V => run_convert_float_int (P := Tryd.prog) V 141 3 .f64 .i64 (Op.negFloat .f64 (fI q)) (-q) (by rw [Tryd.underlying141]; rfl) Tryd.underlying3 (fI_neg (by omega) (by omega))
  have hng : Op.unary .neg (.float .f64 (fI q)) = pure (.float .f64 (Op.negFloat .f64 (fI q))) := rfl
  obtain ⟨bp, hbp⟩ : ∃ bp, fI p = bp := ⟨_, rfl⟩
  obtain ⟨bn, hbn⟩ : ∃ bn, Op.negFloat .f64 (fI q) = bn := ⟨_, rfl⟩
  rw [hbn] at hc1 hng
  obtain ⟨bq, hbq⟩ : ∃ bq, fI q = bq := ⟨_, rfl⟩
  rw [hbp] at hc2 ⊢
  rw [hbq] at hng ⊢
  have R1 := hide' (fun V => ring_any (-q) (H : Int) (r : Int) V (by omega) (by omega) (by omega) (by omega) hr)
  have R2 := hide' (fun V => ring_any (p - l) (W : Int) (s : Int) V (by omega) (by omega) (by omega) (by omega) hs)
  obtain ⟨y, hy⟩ : ∃ y, -q = y := ⟨_, rfl⟩
  rw [hy] at hc1 LC R1
  obtain ⟨x, hx⟩ : ∃ x, p - l = x := ⟨_, rfl⟩
  rw [hx] at R2
  have pl : r * W + s < 100000 := by have := Nat.mul_le_mul (show r ≤ 100 by omega) hW.2; omega
  obtain ⟨P, hP⟩ : ∃ P : Nat, (r : Int) * (W : Int) = (P : Int) := ⟨r * W, by simp⟩
  obtain ⟨t, ht⟩ : ∃ t, r * W + s = t := ⟨_, rfl⟩
  have bs : (P : Int) + (s : Int) = (t : Int) := by
    have : ((r * W : Nat) : Int) = (P : Int) := by rw [← hP]; simp
    omega
  rw [ht] at pl ⊢
  have w3 : IntKind.i64.wrap ((r : Int) * (W : Int)) = (P : Int) := by rw [hP]; exact wrap_nB P (by omega)
  have w5 := wrap_nB P (by omega)
  have w6 := wrap_nB t (by omega)
  have w4 : IntKind.i64.wrap ((P : Int) + (s : Int)) = (t : Int) := by rw [bs]; exact wrap_nB t (by omega)
  obtain ⟨l1, l2⟩ := lb
  obtain ⟨p1, p2⟩ := hp
  clear hr hs hl hbp hbn hbq g1 ht
  go_enter Tryd.func108, Tryd.ntmps108
  go_upto_region 1 with fail
  clear hw1
  go_wp2_with fail
  refine (LC.out _).mono ?_
  rintro e w2 ⟨rfl, rfl⟩
  go_upto_region 3 with fail
  go_region_held3 (fun U => U.cell? ⟨w.heap.size, 1, none⟩ = some (.int .i64 (W : Int)) ∧ U.cell? ⟨w.heap.size, 2, none⟩ = some (.int .i64 (H : Int))) (first | exact ⟨c1, c2⟩ | fail)
    (first
      | (go_at_call 139; refine (R1.out _).mono ?_; rintro e w5 ⟨rfl, rfl⟩)
      | (go_at_call 139; refine (R2.out _).mono ?_; rintro e w5 ⟨rfl, rfl⟩)
      | fail)
  go_wp2
  go_ret
  exact ⟨rfl, BB.out.drew⟩
end Go.Proofs.YtbkllhlapdmlfaaDoor

