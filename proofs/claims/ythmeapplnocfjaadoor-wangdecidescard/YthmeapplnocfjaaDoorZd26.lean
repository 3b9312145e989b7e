/-
  What the last text of this claim leans on, part 26: LawWd.
-/
import Derived.Test.YthmeapplnocfjaaDoorZd25
namespace Go.Proofs.YthmeapplnocfjaaDoor
open Go.RowKit
set_option linter.unusedVariables false
set_option linter.unusedSimpArgs false
set_option maxRecDepth 100000 in
set_option maxHeartbeats 25600000 in
theorem law_wd_A (a : Option Addr) (n c : Nat) (M : Int) (w : World) (S : Nat) (tor : Bool) (wd hg : Int) (ys : List Int)
    (cS : Calls Tryd.prog 9 #[.slice a n c, .int .i64 M, .int .i64 M] w fun e w' => e = .returned (.int .i64 (S : Int)) ∧ Below w.heap.size w w')
    (hS : S ≠ 0)
    (cD : ∀ V, Below w.heap.size w V → Calls Tryd.prog 17 #[.slice a n c, .int .i64 M] V (DecA V false 0 0 [] (errOf S)))
    (ER : ∀ V, Below w.heap.size w V → ∀ f : Nat, Calls Tryd.prog 8 #[errOf f, .int .i64 (f : Int)] V fun e w' => e = .returned (.bool true) ∧ Below V.heap.size V w') :
    Calls Tryd.prog 4 #[.slice a n c, .int .i64 M] w fun e w' => e = .returned (.bool true) ∧ Below w.heap.size w w' := by
  have CS := hide' cS
  have CD := hide' cD
  have HE := hide' ER
  clear cS cD ER
  have s0 : ¬ (S : Int) = 0 := by omega
  have sb : ((S : Int) == 0) = false := by simp; omega
  clear hS
  clear ys tor wd hg
  go_enter Tryd.func4, Tryd.ntmps4
  go_wp2_with fail
  refine CS.out.mono ?_
  rintro e w1 ⟨rfl, b1⟩
  have B1 := hide' b1
  clear b1
  obtain ⟨O0, hO0⟩ : ∃ O, (#[.bool false, .int .i64 0, .int .i64 0, .slice none 0 0] : Array Value) = O := ⟨_, rfl⟩
  have os0 : O0.size = 4 := by rw [← hO0]; rfl
  have ol0 : O0.all (·.oneCell') = true := by rw [← hO0]; simp [Value.oneCell']
  have g1 : (w1.alloc (.cells O0 40)).heap[w1.heap.size]? = some (.cells O0 40 (0, 0)) := heap_alloc_new _ _
  obtain ⟨V1, hV1⟩ : ∃ V, (w1.alloc (.cells O0 40)).setRow w1.heap.size O0 = V := ⟨_, rfl⟩
  have BV1 := hide' (show Below w.heap.size w V1 by rw [← hV1]; exact belowW_set (B1.out.alloc B1.out.size _) B1.out.size _)
  have P1 := hide' (show V1.heap[w1.heap.size]? = some (.cells O0 40 (0, 0)) by rw [← hV1]; exact setRow_heap _ _ _ _ _ _ g1)
  go_wp2_with (first
    | (refine wpList_store_row rfl 40 _ _ rfl w1.heap.size O0 rfl (by first | rfl | (rw [← hO0]; rfl)) 40 _ g1 (by rw [os0]; kernel_rfl) (by rw [os0]) ol0 ?_; rw [hV1]))
  clear g1 hV1
  have WP := hide' B1.out.size
  obtain ⟨p, hp⟩ : ∃ p, w1.heap.size = p := ⟨_, rfl⟩
  rw [hp] at P1 WP
  rw [hp]
  clear hp B1
  refine (CD.out _ BV1.out).mono ?_
  rintro e w6 ⟨a9, n9, c9, rfl, A9, b6⟩
  have B6 := hide' (BV1.out.trans (b6.out.mono BV1.out.size))
  have P6 := hide' (blkW P1.out b6.out)
  have A6 := hide' (show ArgP w6 [] none 0 0 from nilW _)
  clear b6
  obtain ⟨O2, hO2⟩ : ∃ O, (#[.bool false, .int .i64 0, .int .i64 0, .slice a9 n9 c9] : Array Value) = O := ⟨_, rfl⟩
  have os2 : O2.size = 4 := by rw [← hO2]; rfl
  have ol2 : O2.all (·.oneCell') = true := by rw [← hO2]; simp [Value.oneCell']
  have g6 : (w6.alloc (.cells O0 40)).heap[w6.heap.size]? = some (.cells O0 40 (0, 0)) := heap_alloc_new _ _
  obtain ⟨V6, hV6⟩ : ∃ V, (w6.alloc (.cells O0 40)).setRow w6.heap.size O2 = V := ⟨_, rfl⟩
  have bv6 : Below w6.heap.size w6 V6 := by rw [← hV6]; exact belowW_set ((Below.refl _ _).alloc (Nat.le_refl _) _) (Nat.le_refl _) _
  have BV6 := hide' (B6.out.trans (bv6.mono B6.out.size))
  have PV6 := hide' (blkW P6.out bv6)
  have QV6 := hide' (show V6.heap[w6.heap.size]? = some (.cells O2 40 (0, 0)) by rw [← hV6]; exact setRow_heap _ _ _ _ _ _ g6)
  have A96 := hide' (A9.out.below bv6)
  have A66 := hide' (A6.out.below bv6)
  go_wp2_with (first
    | (refine wpList_store_row rfl 40 _ _ rfl w6.heap.size O2 rfl (by first | rfl | (rw [← hO2]; rfl)) 40 _ g6 (by rw [os2]; kernel_rfl) (by rw [os0, os2]) ol2 ?_; rw [hV6]))
  refine (HE.out _ BV6.out S).mono ?_
  rintro e w7 ⟨rfl, b7⟩
  have B7 := hide' (BV6.out.trans (b7.mono BV6.out.size))
  have P7 := hide' (blkW PV6.out b7)
  have Q7 := hide' (blkW QV6.out b7)
  have IN := hide' (Ints_any [] [] a9 none n9 c9 0 0 w7 (A96.out.below b7) (A66.out.below b7))
  clear hV6 g6 bv6 b7 A9 A6 A96 A66 P6 PV6 QV6
  rw [← hO0] at P7
  rw [← hO2] at Q7
  obtain ⟨r, hr⟩ : ∃ r, w6.heap.size = r := ⟨_, rfl⟩
  rw [hr] at Q7
  rw [hr]
  clear hr
  have y0 : w7.cell? ⟨p, 0, none⟩ = some (.bool false) := by rw [cell_of_row w7 _ _ _ _ _ P7.out]; rfl
  have y1 : w7.cell? ⟨p, 1, none⟩ = some (.int .i64 0) := by rw [cell_of_row w7 _ _ _ _ _ P7.out]; rfl
  have y2 : w7.cell? ⟨p, 2, none⟩ = some (.int .i64 0) := by rw [cell_of_row w7 _ _ _ _ _ P7.out]; rfl
  have y3 : w7.cell? ⟨p, 3, none⟩ = some (.slice none 0 0) := by rw [cell_of_row w7 _ _ _ _ _ P7.out]; rfl
  have x0 : w7.cell? ⟨r, 0, none⟩ = some (.bool false) := by rw [cell_of_row w7 _ _ _ _ _ Q7.out]; rfl
  have x1 : w7.cell? ⟨r, 1, none⟩ = some (.int .i64 0) := by rw [cell_of_row w7 _ _ _ _ _ Q7.out]; rfl
  have x2 : w7.cell? ⟨r, 2, none⟩ = some (.int .i64 0) := by rw [cell_of_row w7 _ _ _ _ _ Q7.out]; rfl
  have x3 : w7.cell? ⟨r, 3, none⟩ = some (.slice a9 n9 c9) := by rw [cell_of_row w7 _ _ _ _ _ Q7.out]; rfl
  go_wp2_with fail
  refine IN.out.mono ?_
  rintro e w8 ⟨rfl, q, rfl⟩
  have B8 := hide' (drewW B7.out q)
  simp only [decide_true]
  go_wp2
  go_ret
  exact ⟨rfl, B8.out⟩
set_option maxRecDepth 100000 in
set_option maxHeartbeats 25600000 in
theorem law_wd_B (a : Option Addr) (n c : Nat) (M : Int) (w : World) (S : Nat) (tor : Bool) (wd hg : Int) (ys : List Int)
    (cS : Calls Tryd.prog 9 #[.slice a n c, .int .i64 M, .int .i64 M] w fun e w' => e = .returned (.int .i64 0) ∧ Below w.heap.size w w')
    (cR : ∀ V, Below w.heap.size w V → Calls Tryd.prog 16 #[.slice a n c, .int .i64 M] V (DecR V tor wd hg ys (.bool true)))
    (cD : ∀ V, Below w.heap.size w V → Calls Tryd.prog 17 #[.slice a n c, .int .i64 M] V (DecA V tor wd hg ys (errOf 0)))
    (ER : ∀ V, Below w.heap.size w V → ∀ f : Nat, Calls Tryd.prog 8 #[errOf f, .int .i64 (f : Int)] V fun e w' => e = .returned (.bool true) ∧ Below V.heap.size V w') :
    Calls Tryd.prog 4 #[.slice a n c, .int .i64 M] w fun e w' => e = .returned (.bool true) ∧ Below w.heap.size w w' := by
  have CS := hide' cS
  have CD := hide' cD
  have HE := hide' ER
  clear cS cD ER
  have CR := hide' cR
  clear cR
  go_enter Tryd.func4, Tryd.ntmps4
  go_wp2_with fail
  refine CS.out.mono ?_
  rintro e w1 ⟨rfl, b1⟩
  have B1 := hide' b1
  clear b1
  obtain ⟨O0, hO0⟩ : ∃ O, (#[.bool false, .int .i64 0, .int .i64 0, .slice none 0 0] : Array Value) = O := ⟨_, rfl⟩
  have os0 : O0.size = 4 := by rw [← hO0]; rfl
  have ol0 : O0.all (·.oneCell') = true := by rw [← hO0]; simp [Value.oneCell']
  have g1 : (w1.alloc (.cells O0 40)).heap[w1.heap.size]? = some (.cells O0 40 (0, 0)) := heap_alloc_new _ _
  obtain ⟨V1, hV1⟩ : ∃ V, (w1.alloc (.cells O0 40)).setRow w1.heap.size O0 = V := ⟨_, rfl⟩
  have BV1 := hide' (show Below w.heap.size w V1 by rw [← hV1]; exact belowW_set (B1.out.alloc B1.out.size _) B1.out.size _)
  have P1 := hide' (show V1.heap[w1.heap.size]? = some (.cells O0 40 (0, 0)) by rw [← hV1]; exact setRow_heap _ _ _ _ _ _ g1)
  go_wp2_with (first
    | (refine wpList_store_row rfl 40 _ _ rfl w1.heap.size O0 rfl (by first | rfl | (rw [← hO0]; rfl)) 40 _ g1 (by rw [os0]; kernel_rfl) (by rw [os0]) ol0 ?_; rw [hV1]))
  clear g1 hV1
  have WP := hide' B1.out.size
  obtain ⟨p, hp⟩ : ∃ p, w1.heap.size = p := ⟨_, rfl⟩
  rw [hp] at P1 WP
  rw [hp]
  clear hp B1
  refine (CR.out _ BV1.out).mono ?_
  rintro e w3 ⟨a8, n8, c8, rfl, A8, FR0, b3⟩
  have B3 := hide' (BV1.out.trans (b3.out.mono BV1.out.size))
  have P3 := hide' (blkW P1.out b3.out)
  have FR := hide' (show ∀ g off, a8 = some ⟨g, off, none⟩ → p < g from fun g off e => Nat.lt_of_lt_of_le (lt_blockT P1.out) (FR0.out g off e))
  clear FR0
  clear b3 P1 BV1
  obtain ⟨O1, hO1⟩ : ∃ O, (#[.bool tor, .int .i64 wd, .int .i64 hg, .slice a8 n8 c8] : Array Value) = O := ⟨_, rfl⟩
  have os1 : O1.size = 4 := by rw [← hO1]; rfl
  have ol1 : O1.all (·.oneCell') = true := by rw [← hO1]; simp [Value.oneCell']
  have g2 : (w3.alloc (.cells O0 40)).heap[w3.heap.size]? = some (.cells O0 40 (0, 0)) := heap_alloc_new _ _
  obtain ⟨V2, hV2⟩ : ∃ V, (w3.alloc (.cells O0 40)).setRow w3.heap.size O1 = V := ⟨_, rfl⟩
  have bv2 : Below w3.heap.size w3 V2 := by rw [← hV2]; exact belowW_set ((Below.refl _ _).alloc (Nat.le_refl _) _) (Nat.le_refl _) _
  have BV2 := hide' (B3.out.trans (bv2.mono B3.out.size))
  have A82 := hide' (A8.out.below bv2)
  have g3 : V2.heap[w3.heap.size]? = some (.cells O1 40 (0, 0)) := by rw [← hV2]; exact setRow_heap _ _ _ _ _ _ g2
  have g4 : V2.heap[p]? = some (.cells O0 40 (0, 0)) := blkW P3.out bv2
  obtain ⟨V3, hV3⟩ : ∃ V, V2.setRow p O1 = V := ⟨_, rfl⟩
  have BV3 := hide' (show Below w.heap.size w V3 by rw [← hV3]; exact belowW_set BV2.out WP.out _)
  have P4 := hide' (show V3.heap[p]? = some (.cells O1 40 (0, 0)) by rw [← hV3]; exact setRow_heap _ _ _ _ _ _ g4)
  have PL := hide' (lt_blockT P3.out)
  have A83 := hide' (show ArgP V3 ys a8 n8 c8 from ⟨A82.out.len, A82.out.max, fun k hk => by
    obtain ⟨g, off, e, hg', hc⟩ := A82.out.cells k hk
    refine ⟨g, off, e, by rw [← hV3]; simpa using hg', ?_⟩
    have gp := FR.out g off e
    rw [← hV3]
    exact (World.cell?_of_block (w := V2) (a := ⟨g, off + k, none⟩) (setRow_other _ _ _ _ (by show g ≠ p; omega))).trans hc⟩)
  go_wp2_with (first
    | (refine wpList_store_row rfl 40 _ _ rfl w3.heap.size O1 rfl (by first | rfl | (rw [← hO1]; rfl)) 40 _ g2 (by rw [os1]; kernel_rfl) (by rw [os0, os1]) ol1 ?_; rw [hV2])
    | (refine wpList_load_row rfl 40 _ rfl w3.heap.size rfl 40 O1 (0, 0) _ g3 Tryd.underlying40 rfl (by rw [os1]; kernel_rfl) ?_)
    | (refine wpList_store_row rfl 40 _ _ rfl p O1 rfl rfl 40 _ g4 (by rw [os1]; kernel_rfl) (by rw [os0, os1]) ol1 ?_; rw [hV3])
    )
  clear g2 g3 g4 hV2 hV3 bv2 A8 A82 B3 BV2
  refine (CD.out _ BV3.out).mono ?_
  rintro e w6 ⟨a9, n9, c9, rfl, A9, b6⟩
  have B6 := hide' (BV3.out.trans (b6.out.mono BV3.out.size))
  have P6 := hide' (blkW P4.out b6.out)
  have A6 := hide' (show ArgP w6 ys a8 n8 c8 from A83.out.below b6.out)
  clear b6
  obtain ⟨O2, hO2⟩ : ∃ O, (#[.bool tor, .int .i64 wd, .int .i64 hg, .slice a9 n9 c9] : Array Value) = O := ⟨_, rfl⟩
  have os2 : O2.size = 4 := by rw [← hO2]; rfl
  have ol2 : O2.all (·.oneCell') = true := by rw [← hO2]; simp [Value.oneCell']
  have g6 : (w6.alloc (.cells O0 40)).heap[w6.heap.size]? = some (.cells O0 40 (0, 0)) := heap_alloc_new _ _
  obtain ⟨V6, hV6⟩ : ∃ V, (w6.alloc (.cells O0 40)).setRow w6.heap.size O2 = V := ⟨_, rfl⟩
  have bv6 : Below w6.heap.size w6 V6 := by rw [← hV6]; exact belowW_set ((Below.refl _ _).alloc (Nat.le_refl _) _) (Nat.le_refl _) _
  have BV6 := hide' (B6.out.trans (bv6.mono B6.out.size))
  have PV6 := hide' (blkW P6.out bv6)
  have QV6 := hide' (show V6.heap[w6.heap.size]? = some (.cells O2 40 (0, 0)) by rw [← hV6]; exact setRow_heap _ _ _ _ _ _ g6)
  have A96 := hide' (A9.out.below bv6)
  have A66 := hide' (A6.out.below bv6)
  go_wp2_with (first
    | (refine wpList_store_row rfl 40 _ _ rfl w6.heap.size O2 rfl (by first | rfl | (rw [← hO2]; rfl)) 40 _ g6 (by rw [os2]; kernel_rfl) (by rw [os0, os2]) ol2 ?_; rw [hV6]))
  refine (HE.out _ BV6.out 0).mono ?_
  rintro e w7 ⟨rfl, b7⟩
  have B7 := hide' (BV6.out.trans (b7.mono BV6.out.size))
  have P7 := hide' (blkW PV6.out b7)
  have Q7 := hide' (blkW QV6.out b7)
  have IN := hide' (Ints_any ys ys a9 a8 n9 c9 n8 c8 w7 (A96.out.below b7) (A66.out.below b7))
  clear hV6 g6 bv6 b7 A9 A6 A96 A66 P6 PV6 QV6
  rw [← hO1] at P7
  rw [← hO2] at Q7
  obtain ⟨r, hr⟩ : ∃ r, w6.heap.size = r := ⟨_, rfl⟩
  rw [hr] at Q7
  rw [hr]
  clear hr
  have y0 : w7.cell? ⟨p, 0, none⟩ = some (.bool tor) := by rw [cell_of_row w7 _ _ _ _ _ P7.out]; rfl
  have y1 : w7.cell? ⟨p, 1, none⟩ = some (.int .i64 wd) := by rw [cell_of_row w7 _ _ _ _ _ P7.out]; rfl
  have y2 : w7.cell? ⟨p, 2, none⟩ = some (.int .i64 hg) := by rw [cell_of_row w7 _ _ _ _ _ P7.out]; rfl
  have y3 : w7.cell? ⟨p, 3, none⟩ = some (.slice a8 n8 c8) := by rw [cell_of_row w7 _ _ _ _ _ P7.out]; rfl
  have x0 : w7.cell? ⟨r, 0, none⟩ = some (.bool tor) := by rw [cell_of_row w7 _ _ _ _ _ Q7.out]; rfl
  have x1 : w7.cell? ⟨r, 1, none⟩ = some (.int .i64 wd) := by rw [cell_of_row w7 _ _ _ _ _ Q7.out]; rfl
  have x2 : w7.cell? ⟨r, 2, none⟩ = some (.int .i64 hg) := by rw [cell_of_row w7 _ _ _ _ _ Q7.out]; rfl
  have x3 : w7.cell? ⟨r, 3, none⟩ = some (.slice a9 n9 c9) := by rw [cell_of_row w7 _ _ _ _ _ Q7.out]; rfl
  go_wp2_with fail
  refine IN.out.mono ?_
  rintro e w8 ⟨rfl, q, rfl⟩
  have B8 := hide' (drewW B7.out q)
  simp only [decide_true]
  cases tor <;>
  · go_wp2
    go_ret
    exact ⟨rfl, B8.out⟩
set_option maxRecDepth 100000 in
set_option maxHeartbeats 25600000 in
theorem law_wd_C (a : Option Addr) (n c : Nat) (M : Int) (w : World) (S : Nat) (tor : Bool) (wd hg : Int) (ys : List Int)
    (cS : Calls Tryd.prog 9 #[.slice a n c, .int .i64 M, .int .i64 M] w fun e w' => e = .returned (.int .i64 0) ∧ Below w.heap.size w w')
    (cR : ∀ V, Below w.heap.size w V → Calls Tryd.prog 16 #[.slice a n c, .int .i64 M] V (DecR V false 0 0 [] (.bool false)))
    (cD : ∀ V, Below w.heap.size w V → Calls Tryd.prog 17 #[.slice a n c, .int .i64 M] V (DecA V false 0 0 [] (errOf 6)))
    (ER : ∀ V, Below w.heap.size w V → ∀ f : Nat, Calls Tryd.prog 8 #[errOf f, .int .i64 (f : Int)] V fun e w' => e = .returned (.bool true) ∧ Below V.heap.size V w') :
    Calls Tryd.prog 4 #[.slice a n c, .int .i64 M] w fun e w' => e = .returned (.bool true) ∧ Below w.heap.size w w' := by
  have CS := hide' cS
  have CD := hide' cD
  have HE := hide' ER
  clear cS cD ER
  have CR := hide' cR
  clear cR
  clear ys tor wd hg
  go_enter Tryd.func4, Tryd.ntmps4
  go_wp2_with fail
  refine CS.out.mono ?_
  rintro e w1 ⟨rfl, b1⟩
  have B1 := hide' b1
  clear b1
  obtain ⟨O0, hO0⟩ : ∃ O, (#[.bool false, .int .i64 0, .int .i64 0, .slice none 0 0] : Array Value) = O := ⟨_, rfl⟩
  have os0 : O0.size = 4 := by rw [← hO0]; rfl
  have ol0 : O0.all (·.oneCell') = true := by rw [← hO0]; simp [Value.oneCell']
  have g1 : (w1.alloc (.cells O0 40)).heap[w1.heap.size]? = some (.cells O0 40 (0, 0)) := heap_alloc_new _ _
  obtain ⟨V1, hV1⟩ : ∃ V, (w1.alloc (.cells O0 40)).setRow w1.heap.size O0 = V := ⟨_, rfl⟩
  have BV1 := hide' (show Below w.heap.size w V1 by rw [← hV1]; exact belowW_set (B1.out.alloc B1.out.size _) B1.out.size _)
  have P1 := hide' (show V1.heap[w1.heap.size]? = some (.cells O0 40 (0, 0)) by rw [← hV1]; exact setRow_heap _ _ _ _ _ _ g1)
  go_wp2_with (first
    | (refine wpList_store_row rfl 40 _ _ rfl w1.heap.size O0 rfl (by first | rfl | (rw [← hO0]; rfl)) 40 _ g1 (by rw [os0]; kernel_rfl) (by rw [os0]) ol0 ?_; rw [hV1]))
  clear g1 hV1
  have WP := hide' B1.out.size
  obtain ⟨p, hp⟩ : ∃ p, w1.heap.size = p := ⟨_, rfl⟩
  rw [hp] at P1 WP
  rw [hp]
  clear hp B1
  refine (CR.out _ BV1.out).mono ?_
  rintro e w3 ⟨a8, n8, c8, rfl, A8, FR0, b3⟩
  have B3 := hide' (BV1.out.trans (b3.out.mono BV1.out.size))
  have P3 := hide' (blkW P1.out b3.out)
  have FR := hide' (show ∀ g off, a8 = some ⟨g, off, none⟩ → p < g from fun g off e => Nat.lt_of_lt_of_le (lt_blockT P1.out) (FR0.out g off e))
  clear FR0
  clear b3 P1 BV1
  obtain ⟨O1, hO1⟩ : ∃ O, (#[.bool false, .int .i64 0, .int .i64 0, .slice a8 n8 c8] : Array Value) = O := ⟨_, rfl⟩
  have os1 : O1.size = 4 := by rw [← hO1]; rfl
  have ol1 : O1.all (·.oneCell') = true := by rw [← hO1]; simp [Value.oneCell']
  have g2 : (w3.alloc (.cells O0 40)).heap[w3.heap.size]? = some (.cells O0 40 (0, 0)) := heap_alloc_new _ _
  obtain ⟨V2, hV2⟩ : ∃ V, (w3.alloc (.cells O0 40)).setRow w3.heap.size O1 = V := ⟨_, rfl⟩
  have bv2 : Below w3.heap.size w3 V2 := by rw [← hV2]; exact belowW_set ((Below.refl _ _).alloc (Nat.le_refl _) _) (Nat.le_refl _) _
  have BV2 := hide' (B3.out.trans (bv2.mono B3.out.size))
  have A82 := hide' (A8.out.below bv2)
  have g3 : V2.heap[w3.heap.size]? = some (.cells O1 40 (0, 0)) := by rw [← hV2]; exact setRow_heap _ _ _ _ _ _ g2
  have g4 : V2.heap[p]? = some (.cells O0 40 (0, 0)) := blkW P3.out bv2
  obtain ⟨V3, hV3⟩ : ∃ V, V2.setRow p O1 = V := ⟨_, rfl⟩
  have BV3 := hide' (show Below w.heap.size w V3 by rw [← hV3]; exact belowW_set BV2.out WP.out _)
  have P4 := hide' (show V3.heap[p]? = some (.cells O1 40 (0, 0)) by rw [← hV3]; exact setRow_heap _ _ _ _ _ _ g4)
  have PL := hide' (lt_blockT P3.out)
  have A83 := hide' (show ArgP V3 [] a8 n8 c8 from ⟨A82.out.len, A82.out.max, fun k hk => by
    obtain ⟨g, off, e, hg', hc⟩ := A82.out.cells k hk
    refine ⟨g, off, e, by rw [← hV3]; simpa using hg', ?_⟩
    have gp := FR.out g off e
    rw [← hV3]
    exact (World.cell?_of_block (w := V2) (a := ⟨g, off + k, none⟩) (setRow_other _ _ _ _ (by show g ≠ p; omega))).trans hc⟩)
  obtain ⟨V4, hV4⟩ : ∃ V, V3.setRow p O0 = V := ⟨_, rfl⟩
  have BV4 := hide' (show Below w.heap.size w V4 by rw [← hV4]; exact belowW_set BV3.out WP.out _)
  have P5 := hide' (show V4.heap[p]? = some (.cells O0 40 (0, 0)) by rw [← hV4]; exact setRow_heap _ _ _ _ _ _ P4.out)
  go_wp2_with (first
    | (refine wpList_store_row rfl 40 _ _ rfl w3.heap.size O1 rfl (by first | rfl | (rw [← hO1]; rfl)) 40 _ g2 (by rw [os1]; kernel_rfl) (by rw [os0, os1]) ol1 ?_; rw [hV2])
    | (refine wpList_load_row rfl 40 _ rfl w3.heap.size rfl 40 O1 (0, 0) _ g3 Tryd.underlying40 rfl (by rw [os1]; kernel_rfl) ?_)
    | (refine wpList_store_row rfl 40 _ _ rfl p O1 rfl rfl 40 _ g4 (by rw [os1]; kernel_rfl) (by rw [os0, os1]) ol1 ?_; rw [hV3])
    | (refine wpList_store_row rfl 40 _ _ rfl p O0 rfl (by first | rfl | (rw [← hO0]; rfl)) 40 _ P4.out (by rw [os0]; kernel_rfl) (by rw [os0, os1]) ol0 ?_; rw [hV4]))
  clear g2 g3 g4 hV2 hV3 bv2 A8 A82 B3 BV2
  refine (CD.out _ BV4.out).mono ?_
  rintro e w6 ⟨a9, n9, c9, rfl, A9, b6⟩
  have B6 := hide' (BV4.out.trans (b6.out.mono BV4.out.size))
  have P6 := hide' (blkW P5.out b6.out)
  have A6 := hide' (show ArgP w6 [] none 0 0 from nilW _)
  clear b6
  obtain ⟨O2, hO2⟩ : ∃ O, (#[.bool false, .int .i64 0, .int .i64 0, .slice a9 n9 c9] : Array Value) = O := ⟨_, rfl⟩
  have os2 : O2.size = 4 := by rw [← hO2]; rfl
  have ol2 : O2.all (·.oneCell') = true := by rw [← hO2]; simp [Value.oneCell']
  have g6 : (w6.alloc (.cells O0 40)).heap[w6.heap.size]? = some (.cells O0 40 (0, 0)) := heap_alloc_new _ _
  obtain ⟨V6, hV6⟩ : ∃ V, (w6.alloc (.cells O0 40)).setRow w6.heap.size O2 = V := ⟨_, rfl⟩
  have bv6 : Below w6.heap.size w6 V6 := by rw [← hV6]; exact belowW_set ((Below.refl _ _).alloc (Nat.le_refl _) _) (Nat.le_refl _) _
  have BV6 := hide' (B6.out.trans (bv6.mono B6.out.size))
  have PV6 := hide' (blkW P6.out bv6)
  have QV6 := hide' (show V6.heap[w6.heap.size]? = some (.cells O2 40 (0, 0)) by rw [← hV6]; exact setRow_heap _ _ _ _ _ _ g6)
  have A96 := hide' (A9.out.below bv6)
  have A66 := hide' (A6.out.below bv6)
  go_wp2_with (first
    | (refine wpList_store_row rfl 40 _ _ rfl w6.heap.size O2 rfl (by first | rfl | (rw [← hO2]; rfl)) 40 _ g6 (by rw [os2]; kernel_rfl) (by rw [os0, os2]) ol2 ?_; rw [hV6]))
  refine (HE.out _ BV6.out 6).mono ?_
  rintro e w7 ⟨rfl, b7⟩
  have B7 := hide' (BV6.out.trans (b7.mono BV6.out.size))
  have P7 := hide' (blkW PV6.out b7)
  have Q7 := hide' (blkW QV6.out b7)
  have IN := hide' (Ints_any [] [] a9 none n9 c9 0 0 w7 (A96.out.below b7) (A66.out.below b7))
  clear hV6 g6 bv6 b7 A9 A6 A96 A66 P6 PV6 QV6
  rw [← hO0] at P7
  rw [← hO2] at Q7
  obtain ⟨r, hr⟩ : ∃ r, w6.heap.size = r := ⟨_, rfl⟩
  rw [hr] at Q7
  rw [hr]
  clear hr
  have y0 : w7.cell? ⟨p, 0, none⟩ = some (.bool false) := by rw [cell_of_row w7 _ _ _ _ _ P7.out]; rfl
  have y1 : w7.cell? ⟨p, 1, none⟩ = some (.int .i64 0) := by rw [cell_of_row w7 _ _ _ _ _ P7.out]; rfl
  have y2 : w7.cell? ⟨p, 2, none⟩ = some (.int .i64 0) := by rw [cell_of_row w7 _ _ _ _ _ P7.out]; rfl
  have y3 : w7.cell? ⟨p, 3, none⟩ = some (.slice none 0 0) := by rw [cell_of_row w7 _ _ _ _ _ P7.out]; rfl
  have x0 : w7.cell? ⟨r, 0, none⟩ = some (.bool false) := by rw [cell_of_row w7 _ _ _ _ _ Q7.out]; rfl
  have x1 : w7.cell? ⟨r, 1, none⟩ = some (.int .i64 0) := by rw [cell_of_row w7 _ _ _ _ _ Q7.out]; rfl
  have x2 : w7.cell? ⟨r, 2, none⟩ = some (.int .i64 0) := by rw [cell_of_row w7 _ _ _ _ _ Q7.out]; rfl
  have x3 : w7.cell? ⟨r, 3, none⟩ = some (.slice a9 n9 c9) := by rw [cell_of_row w7 _ _ _ _ _ Q7.out]; rfl
  go_wp2_with fail
  refine IN.out.mono ?_
  rintro e w8 ⟨rfl, q, rfl⟩
  have B8 := hide' (drewW B7.out q)
  simp only [decide_true]
  go_wp2
  go_ret
  exact ⟨rfl, B8.out⟩
end Go.Proofs.YthmeapplnocfjaaDoor

