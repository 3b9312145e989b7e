/-
  What the last text of this claim leans on, part 21: Hg7.
-/
import Derived.Test.YtbkllhlapdmlfaaDoorQf18
import Derived.Test.YtbkllhlapdmlfaaDoorQf20
namespace Go.Proofs.YtbkllhlapdmlfaaDoor
open Go.RowKit
set_option linter.unusedVariables false
/-- What stands while the steps are gone. -/
structure RefG6 (w w3 wr : World) (W H : Nat) (g : Nat → Nat) (a a0 : Option Addr) (n c : Nat) : Prop where
  own : ∀ q off, a = some ⟨q, off, none⟩ → a0 = some ⟨q, off, none⟩ ∨ w.heap.size ≤ q
  keep : ∀ j, j < w.heap.size + 1 + 1 → wr.heap[j]? = w3.heap[j]?
  now : wr.heap[w.heap.size + 1 + 1]? = some (.cells #[.int .i64 6, .int .i64 (W : Int), .int .i64 (H : Int), .slice a n c] 49 (0, 0))
  arg : ArgP wr ((List.range n).map fun i => (g i : Int)) a n c
  far : 0 < n → ∀ q off, a = some ⟨q, off, none⟩ → q < w.heap.size ∨ w.heap.size + 1 + 1 < q
  below : Below w.heap.size w wr
  size : w.heap.size + 1 + 1 < wr.heap.size
set_option maxRecDepth 100000 in
set_option maxHeartbeats 12800000 in
theorem refFlow_6 (W H : Nat) (f cs : Nat → Nat) (a0 : Option Addr) (n c0 : Nat) (b' : Option Addr) (m d' k : Nat) (w : World) (hP : ArgP w ((List.range n).map fun i => (f i : Int)) a0 n c0) (hC : ArgP w ((List.range m).map fun i => (cs i : Int)) b' m d') (he : 6 = 6 → H % 2 = 0) (hn : n = W * H) (hW : 1 ≤ W ∧ W ≤ 100) (hH : 1 ≤ H ∧ H ≤ 100) (hf : ∀ i, f i < 2 ^ 6) (hcs : ∀ i, cs i ≤ 1) (m1 : 1 ≤ m) (hk : k ≤ 100000) :
    Calls Tryd.prog 25 #[.agg #[.int .i64 6, .int .i64 (W : Int), .int .i64 (H : Int), .slice a0 n c0], .slice b' m d', .int .i64 (k : Int)] w fun e w' => ∃ q c, e = .returned (.agg #[.int .i64 6, .int .i64 (W : Int), .int .i64 (H : Int), .slice q n c]) ∧ (∀ g off, q = some ⟨g, off, none⟩ → a0 = some ⟨g, off, none⟩ ∨ w.heap.size ≤ g) ∧ ArgP w' ((List.range n).map fun i => (flowG 6 W H m cs f k i : Int)) q n c ∧ Below w.heap.size w w' := by
  obtain ⟨w3, hw3⟩ : ∃ w3, ((w.alloc (.cells #[.int .i64 6, .int .i64 (W : Int), .int .i64 (H : Int), .slice a0 n c0] 49)).alloc (.cells #[.int .i64 0, .int .i64 0, .int .i64 0, .slice none 0 0] 49)).alloc (.cells #[.int .i64 6, .int .i64 (W : Int), .int .i64 (H : Int), .slice a0 n c0] 49) = w3 := ⟨_, rfl⟩
  have BB : Below w.heap.size w w3 := by rw [← hw3]; repeat (first | exact Below.refl _ _ | refine Below.alloc ?_ (by simp; try omega) _)
  have g0 : w3.heap[w.heap.size]? = some (.cells #[.int .i64 6, .int .i64 (W : Int), .int .i64 (H : Int), .slice a0 n c0] 49 (0, 0)) := by rw [← hw3, Below.heap_alloc _ _ _ (by simp; try omega), Below.heap_alloc _ _ _ (by simp; try omega)]; exact heap_atX _ _ _ (by simp)
  have g1 : w3.heap[w.heap.size + 1]? = some (.cells #[.int .i64 0, .int .i64 0, .int .i64 0, .slice none 0 0] 49 (0, 0)) := by rw [← hw3, Below.heap_alloc _ _ _ (by simp; try omega)]; exact heap_atX _ _ _ (by simp)
  have g2 : w3.heap[w.heap.size + 1 + 1]? = some (.cells #[.int .i64 6, .int .i64 (W : Int), .int .i64 (H : Int), .slice a0 n c0] 49 (0, 0)) := by rw [← hw3]; exact heap_atX _ _ _ (by simp)
  have n4 : n ≤ 10000 := by rw [hn]; exact Nat.mul_le_mul hW.2 hH.2
  have X0 := hide' (show RefG6 w w3 w3 W H (flowG 6 W H m cs f 0) a0 a0 n c0 from ⟨fun q off h => Or.inl h, fun _ _ => rfl, g2, hP.below BB, fun z q off h => Or.inl (by
      obtain ⟨g', off', e', hg', _⟩ := hP.cells 0 (by simpa using z)
      rw [h] at e'; cases e'; exact hg'), BB, by rw [← hw3]; simp⟩)
  have HE6 := hide' (he rfl)
  have WH := hide' (And.intro hW hH)
  have NL := hide' hn
  have FLI := hide' (fun s i => show flowG 6 W H m cs f s i < 2 ^ 6 from flow_in (by omega) hf s i)
  have NXT := hide' (fun s => show flowG 6 W H m cs f (s + 1) = mvF (metG 6 (W * H) m cs (flowG 6 W H m cs f s) s) (srcG 6 W H) from rfl)
  have HCS := hide' hcs
  have HCA := hide' (fun (V : World) (h : Below w.heap.size w V) => hC.below h)
  have MAX := hC.max
  have HMK := hide' (fun W => run_make_row' (P := Tryd.prog) 22 3 (.int .i64 0) 8 Tryd.underlying22 info_int rfl .i64 .i64 n (by omega) (by omega) W)
  have G0 := hide' g0
  have G1 := hide' g1
  clear g0 g1 g2 BB hP hC hn hf hcs he hW hH
  go_enter Tryd.func25, Tryd.ntmps25
  go_wp2
  try rw [hw3]
  clear hw3
  go_loopw [8] (fun sv wr => ∃ (s : Nat) (a : Option Addr) (c : Nat), sv = .int .i64 (s : Int) ∧ s ≤ k ∧ Hid (RefG6 w w3 wr W H (flowG 6 W H m cs f s) a a0 n c)) (fun sv _ => ((k : Int) - intOf sv).toNat)
  case atStart => exact ⟨0, a0, c0, by go_num, by omega, X0⟩
  case round =>
    obtain ⟨s, a, c, rfl, hs, HR⟩ := hrel
    obtain ⟨V1, rfl⟩ : ∃ V1, V1 = wr := ⟨_, rfl⟩
    have z1 := HR.out.size
    have p0 := (HR.out.keep w.heap.size (by omega)).trans G0.out
    by_cases ds : (s : Int) < (k : Int)
    · obtain ⟨g, hg⟩ : ∃ g, flowG 6 W H m cs f s = g := ⟨_, rfl⟩
      have GF := hide' (fun i => show g i < 2 ^ 6 by rw [← hg]; exact FLI.out s i)
      have GN := hide' (show flowG 6 W H m cs f (s + 1) = mvF (metG 6 (W * H) m cs g s) (srcG 6 W H) by rw [NXT.out, hg])
      rw [hg] at HR
      obtain ⟨F, hF⟩ : ∃ F, metG 6 (W * H) m cs g s = F := ⟨_, rfl⟩
      have FE := hide' hF
      have FL63 := hide' (fun i => show F i < 2 ^ 6 by rw [← hF]; exact aft_in (by omega) (GF.out i) _)
      rw [hF] at GN
      clear hg hF
      have b0 := cell_of_row V1 _ 0 _ _ _ p0
      have b1 := cell_of_row V1 _ 1 _ _ _ p0
      have b2 := cell_of_row V1 _ 2 _ _ _ p0
      have b3 := cell_of_row V1 _ 3 _ _ _ p0
      simp at b0 b1 b2 b3
      clear p0
      obtain ⟨h1, hh1⟩ : ∃ h1, V1.alloc (.cells #[.int .i64 6, .int .i64 (W : Int), .int .i64 (H : Int), .slice none 0 0] 49) = h1 := ⟨_, rfl⟩
      obtain ⟨V2, hV2⟩ : ∃ V2, (h1.alloc (.cells (madeCells #[.int .i64 0] n) 3)).setCell ⟨V1.heap.size, 3, none⟩ (.slice (some ⟨V1.heap.size + 1, 0, none⟩) n n) = V2 := ⟨_, rfl⟩
      have s1 : h1.heap.size = V1.heap.size + 1 := by rw [← hh1]; simp
      have gN : h1.heap[V1.heap.size]? = some (.cells #[.int .i64 6, .int .i64 (W : Int), .int .i64 (H : Int), .slice none 0 0] 49 (0, 0)) := by rw [← hh1]; exact heap_alloc_new _ _
      have gM : (h1.alloc (.cells (madeCells #[.int .i64 0] n) 3)).heap[V1.heap.size]? = some (.cells #[.int .i64 6, .int .i64 (W : Int), .int .i64 (H : Int), .slice none 0 0] 49 (0, 0)) := (Below.heap_alloc _ _ _ (by omega)).trans gN
      have N2 : V2.heap[V1.heap.size]? = some (.cells #[.int .i64 6, .int .i64 (W : Int), .int .i64 (H : Int), .slice (some ⟨V1.heap.size + 1, 0, none⟩) n n] 49 (0, 0)) := by rw [← hV2, heap_setCell_same _ _ _ _ _ _ gM]; rfl
      have KV : ∀ j, j < V1.heap.size → V2.heap[j]? = V1.heap[j]? := fun j hj => by
        rw [← hV2, Below.heap_setCell _ _ _ _ (by simp; omega), Below.heap_alloc _ _ _ (by omega), ← hh1, Below.heap_alloc _ _ _ hj]
      have CM : CA V2 (V1.heap.size + 1) n (fun _ => 0) := by
        have := made_ca h1 n
        rw [s1] at this
        exact this.block (by rw [← hV2, Below.heap_setCell _ _ _ _ (by simp)])
      have S2 : V2.heap.size = V1.heap.size + 2 := by rw [← hV2, World.size_setCell]; simp [s1]
      have BV : Below w.heap.size w V2 := by
        rw [← hV2, ← hh1]
        exact ((HR.out.below.alloc (by omega) _).alloc (by simp; omega) _).setCell (by simp; omega) _
      have SP0 := hide' (show SP V2 V2 w.heap.size (V1.heap.size + 1) n (scG 6 W H (fun o => o) F 0 0) from ⟨fun _ _ _ => rfl, CM.ext (fun k _ => (sc_zero 6 W H _ F k).symm), Nat.le_refl _, Below.refl _ _⟩)
      have HNW := hide' ((KV (w.heap.size + 1 + 1) (by omega)).trans HR.out.now)
      have PH0 := hide' ((KV w.heap.size (by omega)).trans ((HR.out.keep w.heap.size (by omega)).trans G0.out))
      have N2H := hide' N2
      have ALT := hide' (fun (z : 0 < n) qq off (h : a = some ⟨qq, off, none⟩) => show qq < V1.heap.size from by
        obtain ⟨g', off', e', hg', _⟩ := HR.out.arg.cells 0 (by simpa using z)
        rw [h] at e'; cases e'; exact hg')
      have AR2 := hide' (show ArgP V2 ((List.range n).map fun i => (g i : Int)) a n c from HR.out.arg.keepB (fun z qq off h => KV qq (ALT.out (by simpa using z) qq off h)))
      have GV := hide' (fun (V : World) (m : Nat → Nat) (hV : SP V2 V w.heap.size (V1.heap.size + 1) n m) => show V.cell? ⟨w.heap.size, 0, none⟩ = some (.int .i64 6) ∧ V.cell? ⟨w.heap.size, 1, none⟩ = some (.int .i64 (W : Int)) ∧ V.cell? ⟨w.heap.size, 2, none⟩ = some (.int .i64 (H : Int)) ∧ V.cell? ⟨w.heap.size, 3, none⟩ = some (.slice a0 n c0) ∧ V.cell? ⟨w.heap.size + 1 + 1, 3, none⟩ = some (.slice a n c) ∧ V.cell? ⟨V1.heap.size, 3, none⟩ = some (.slice (some ⟨V1.heap.size + 1, 0, none⟩) n n) from
        have e0 := (hV.keep _ (by omega) (by omega)).trans PH0.out
        have e2 := (hV.keep _ (by omega) (by omega)).trans HNW.out
        have e3 := (hV.keep _ (by omega) (by omega)).trans N2H.out
        ⟨cell_of_row V _ 0 _ _ _ e0, cell_of_row V _ 1 _ _ _ e0, cell_of_row V _ 2 _ _ _ e0, cell_of_row V _ 3 _ _ _ e0, cell_of_row V _ 3 _ _ _ e2, cell_of_row V _ 3 _ _ _ e3⟩)
      have GY := hide' (fun (V : World) (m : Nat → Nat) (hV : SP V2 V w.heap.size (V1.heap.size + 1) n m) => show ArgP V ((List.range n).map fun i => (g i : Int)) a n c from AR2.out.keepB (fun z qq off h => hV.keep qq (by have := ALT.out (by simpa using z) qq off h; omega) (by have := ALT.out (by simpa using z) qq off h; omega)))
      have KVH := hide' KV
      have BVH := hide' BV
      have z2 : V1.heap.size + 1 < V2.heap.size := by omega
      have hmk := HMK.out h1
      rw [s1] at hmk
      have ph1 : h1.heap[w.heap.size]? = some (.cells #[.int .i64 6, .int .i64 (W : Int), .int .i64 (H : Int), .slice a0 n c0] 49 (0, 0)) := by rw [← hh1, Below.heap_alloc _ _ _ (by omega)]; exact (HR.out.keep w.heap.size (by omega)).trans G0.out
      have d2 := cell_of_row h1 _ 3 _ _ _ ph1
      have m2 := cell_of_row _ _ 3 _ _ _ gM
      have mf := frozen_of_row _ _ 3 _ _ gM
      have ml := lt_of_block gM
      simp only [List.getElem?_toArray, List.getElem?_cons_succ, List.getElem?_cons_zero] at d2 m2
      have HH1 := hide' hh1
      clear N2 KV CM BV ph1 hh1
      go_upto_region 6 with fail
      rw [HH1.out]
      go_wp2
      try rw [hV2]
      clear d2 m2 mf ml gM
      clear hmk b0 b1 b2 b3 hV2 HH1 s1 gN
      go_loopw [10] (fun kv wr => ∃ (j : Nat), kv = .int .i64 (j : Int) ∧ j ≤ n ∧ Hid (SP V2 wr w.heap.size (V1.heap.size + 1) n (scG 6 W H (fun o => o) F j 0))) (fun kv _ => ((n : Int) - intOf kv).toNat)
      case atStart => exact ⟨0, by go_num, by omega, SP0⟩
      case round =>
        obtain ⟨j, rfl, hj, HKK⟩ := hrel
        obtain ⟨V3, rfl⟩ : ∃ V3, V3 = wr := ⟨_, rfl⟩
        obtain ⟨c0', c1, c2, c3, c4, c5⟩ := GV.out V3 _ HKK.out
        by_cases dk : (j : Int) < (n : Int)
        · have kl : j < n := by omega
          obtain ⟨ga, oa, ea, hga, hc⟩ := (GY.out V3 _ HKK.out).cells j (by simpa using kl)
          simp only [List.getElem_map, List.getElem_range] at hc
          obtain ⟨y0, hy0⟩ : ∃ y, g j = y := ⟨_, rfl⟩
          rw [hy0] at hc
          have y1 : y0 < 2 ^ 6 := by rw [← hy0]; exact GF.out j
          obtain ⟨x, hx⟩ : ∃ x, F j = x := ⟨_, rfl⟩
          have xl : x ≤ 63 := by have := FL63.out j; rw [hx] at this; simp at this; omega
          have XK := hide' hx
          obtain ⟨i, hi⟩ : ∃ i, (s * n + j) % m = i := ⟨_, rfl⟩
          have il : i < m := by rw [← hi]; exact Nat.mod_lt _ (by omega)
          obtain ⟨P, hPP⟩ : ∃ P : Nat, (s : Int) * (n : Int) = (P : Int) := ⟨s * n, by simp⟩
          have P9 : P ≤ 1000000000 := by
            have h1 : s * n ≤ 100000 * 10000 := Nat.mul_le_mul (by omega) n4
            have h2 : ((s * n : Nat) : Int) = (P : Int) := by rw [← hPP]; simp
            omega
          have i1 : ((P : Int) + (j : Int)).tmod (m : Int) = (i : Int) := by
            rw [Int.tmod_eq_emod_of_nonneg (by omega), ← hi, ← hPP]; simp
          have i2 : ((P : Int) + (j : Int)) % (m : Int) = (i : Int) := by rw [← hi, ← hPP]; simp
          have m0 : ¬ (m : Int) = 0 := by omega
          have m0b : ((m : Int) == 0) = false := by simp; omega
          have m0p : (0 : Int) < (m : Int) := by omega
          have im : (i : Int) < (m : Int) := by omega
          obtain ⟨gb, ob, eb, hgb, hcb⟩ := (HCA.out V3 (BVH.out.trans HKK.out.below)).cells i (by simpa using il)
          simp only [List.getElem_map, List.getElem_range] at hcb
          have zl := HCS.out i
          obtain ⟨zc, hzc⟩ : ∃ z, cs i = z := ⟨_, rfl⟩
          rw [hzc] at hcb zl
          have MC := hide' (fun V => refMet_6 y0 zc V y1 zl)
          have XE : aftG 6 zc y0 = x := by rw [← hx, ← FE.out, metG, ← NL.out, hi, hzc, hy0]
          rw [XE] at MC
          have EA := hide' ea
          rw [ea] at c4
          have SS := hide' (show (fun V : World => V.cell? ⟨w.heap.size, 0, none⟩ = some (.int .i64 6) ∧ V.cell? ⟨w.heap.size + 1 + 1, 3, none⟩ = some (.slice (some ⟨ga, oa, none⟩) n c) ∧ V.cell? ⟨ga, oa + j, none⟩ = some (.int .i64 (y0 : Int))) V3 from ⟨c0', c4, hc⟩)
          have SD := hide' (show (fun V : World => V.cell? ⟨w.heap.size, 0, none⟩ = some (.int .i64 6) ∧ V.cell? ⟨w.heap.size + 1 + 1, 3, none⟩ = some (.slice (some ⟨ga, oa, none⟩) n c) ∧ V.cell? ⟨ga, oa + j, none⟩ = some (.int .i64 (y0 : Int))) V3.drew from ⟨c0', c4, hc⟩)
          have HKD := hide' (show SP V2 V3.drew w.heap.size (V1.heap.size + 1) n (scG 6 W H (fun o => o) F j 0) from HKK.out.next (by have := HKK.out.size; omega) ((Below.refl _ _).drew))
          subst eb
          have EI := hide' hi
          clear hi hzc
          clear hx hy0 XE
          go_upto_region 13 with fail
          clear c0' c1 c2 c3 c4 c5 hc
          go_region_held3 (fun V => V.cell? ⟨w.heap.size, 0, none⟩ = some (.int .i64 6) ∧ V.cell? ⟨w.heap.size + 1 + 1, 3, none⟩ = some (.slice (some ⟨ga, oa, none⟩) n c) ∧ V.cell? ⟨ga, oa + j, none⟩ = some (.int .i64 (y0 : Int))) (first | exact SS.out | exact SD.out | fail)
            (first | (go_at_call 68; refine (MC.out _).mono ?_; rintro e' w9 ⟨rfl, rfl⟩) | fail)
          clear ea hga HKK
          obtain ⟨HKK, -⟩ : ∃ _ : Hid (SP V2 V3.drew w.heap.size (V1.heap.size + 1) n (scG 6 W H (fun o => o) F j 0)), True := ⟨HKD, trivial⟩
          go_wp2
          go_loopw [12, 13] (fun cv dv wr => ∃ (d y : Nat), dv = .int .i64 (d : Int) ∧ cv = .int .i64 (y : Int) ∧ d ≤ 6 ∧ y ≤ 63 ∧ Hid (y = x / 2 ^ d) ∧ Hid (SP V2 wr w.heap.size (V1.heap.size + 1) n (scG 6 W H (fun o => o) F j d))) (fun _ dv _ => ((6 : Int) - intOf dv).toNat)
          case atStart => exact ⟨0, x, by go_num, rfl, by omega, xl, hide' (by simp), HKK⟩
          case round =>
            obtain ⟨d, y, rfl, rfl, hd, hy, HY, HX⟩ := hrel
            obtain ⟨V4, rfl⟩ : ∃ V4, V4 = wr := ⟨_, rfl⟩
            have BX := hide' (BVH.out.trans HX.out.below)
            have z4 : V1.heap.size + 1 < V4.heap.size := Nat.lt_of_lt_of_le z2 HX.out.size
            obtain ⟨c0', c1, c2, c3, c4, c5⟩ := GV.out V4 _ HX.out
            by_cases dd : (d : Int) < (6 : Int)
            · have dl : d < 6 := by omega
              obtain ⟨b, hb⟩ : ∃ b, y % 2 = b := ⟨_, rfl⟩
              obtain ⟨z, hz⟩ : ∃ z, y / 2 = z := ⟨_, rfl⟩
              have NY := hide' (div_next x d y z HY.out hz)
              have z63 : z ≤ 63 := by omega
              have f1 : (y : Int).tmod 2 = (b : Int) := by rw [Int.tmod_eq_emod_of_nonneg (by omega), ← hb]; simp
              have f2 : (y : Int) % 2 = (b : Int) := by rw [← hb]; simp
              have f3 : (y : Int) / 2 = (z : Int) := by rw [← hz]; simp
              have F4 := hide' (wrap64_small z (by omega))
              have XB := hide' (show F j / 2 ^ d % 2 = b by rw [XK.out, ← HY.out, hb])
              clear hz HY
              by_cases b1 : b = 1
              · subst b1
                clear hb
                obtain ⟨o, ho⟩ : ∃ o, d = o := ⟨_, rfl⟩
                have ol : o < 6 := by omega
                have HO := hide' (show (fun o : Nat => o) d = o from ho)
                subst ho
                obtain ⟨t, ht⟩ : ∃ t, srcG 6 W H j (oppG 6 d) = t := ⟨_, rfl⟩
                have tn : t < n := by rw [NL.out, ← ht]; exact src_lt kind6 WH.out.1.1 WH.out.2.1 _ _
                have NXC := hide' (refNext_any kind6 W H j d a0 n c0 V4 WH.out.1 WH.out.2 (by rw [← NL.out]; exact kl) ol)
                rw [ht] at NXC
                have HT := hide' ht
                clear ht
                go_wp2_with fail
                refine NXC.out.mono ?_
                rintro e' V5 ⟨rfl, b5⟩
                have H5 := hide' (HX.out.next (Nat.le_trans (by omega) z4) b5)
                clear b5 c0' c1 c2 c3 c4 c5 NXC
                obtain ⟨c0', c1, c2, c3, c4, c5⟩ := GV.out V5 _ H5.out
                obtain ⟨cc, cf⟩ := H5.out.ca.cell tn
                obtain ⟨q, hq⟩ : ∃ q, scG 6 W H (fun o => o) F j d t = q := ⟨_, rfl⟩
                rw [hq] at cc
                have q63 : q ≤ 63 := by rw [← hq]; exact sc_le kind6 _ _ _ _ _ _ _
                obtain ⟨p, hp⟩ : ∃ p, 2 ^ d = p := ⟨_, rfl⟩
                have p64 : p ≤ 64 := by rw [← hp]; exact Nat.pow_le_pow_right (n := 2) (j := 6) (by omega) (by omega)
                have PC := hide' (fun V => refPower_any d V (by omega))
                rw [hp] at PC
                have NS := hide' ((H5.out.set (by omega) t (q + p)).ext (f' := scG 6 W H (fun o => o) F j (d + 1)) (fun jj hjj => by
                  rw [← hq, ← hp]
                  exact sc_new kind6 (fun _ => HE6.out) WH.out.1.1 WH.out.2.1 (vvI 6) F (by rw [← NL.out]; exact kl) dl (by rw [← NL.out]; exact hjj) XB.out rfl HT.out))
                have tn' : (t : Int) < (n : Int) := by omega
                have t0 : (0 : Int) ≤ (t : Int) := by omega
                have cl := H5.out.ca.lt
                have NSD := hide' (show SP V2 (V5.setCell ⟨(V1.heap.size + 1), t, none⟩ (.int .i64 ((q + p : Nat) : Int))).drew w.heap.size (V1.heap.size + 1) n (scG 6 W H (fun o => o) F j (d + 1)) from NS.out.next (by rw [World.size_setCell]; have := H5.out.size; omega) ((Below.refl _ _).drew))
                clear hq hp
                go_wp2
                go_region_with ((go_at_call 70; refine (PC.out _).mono ?_; rintro e' w' ⟨rfl, rfl⟩))
                all_goals
                  go_wp2
                  exact ⟨⟨d + 1, z, by go_num, by first | rfl | rw [F4.out], by omega, z63, NY, by first | exact NSD | exact NS⟩, by simp [intOf]; omega⟩
              · have b0 : b = 0 := by omega
                subst b0
                clear hb b1
                have NS := hide' (HX.out.ext (f' := scG 6 W H (fun o => o) F j (d + 1)) (fun jj hjj => sc_old kind6 (fun _ => HE6.out) WH.out.1.1 WH.out.2.1 (vvI 6) F (by rw [← NL.out]; exact kl) dl (by rw [← NL.out]; exact hjj) XB.out))
                go_wp2
                exact ⟨⟨d + 1, z, by go_num, by first | rfl | rw [F4.out], by omega, z63, NY, NS⟩, by simp [intOf]; omega⟩
            · have dK : d = 6 := by omega
              have NK := hide' (HX.out.ext (f' := scG 6 W H (fun o => o) F (j + 1) 0) (fun jj hjj => by rw [dK]; exact sc_row (fun o ho => ((vvI 6) o ho).1) F j jj))
              clear dK HX
              go_wp2
              exact ⟨⟨j + 1, by go_num, by omega, NK⟩, by simp [intOf]; omega⟩
        · have jn : j = n := by omega
          have HE := hide' (show SP V2 V3 w.heap.size (V1.heap.size + 1) n (flowG 6 W H m cs f (s + 1)) by
            refine HKK.out.ext (fun i hi => ?_)
            rw [GN.out, jn, NL.out]
            exact sc_end (by omega) WH.out.1.1 WH.out.2.1 FL63.out (fun _ _ _ => rfl) i)
          have e2 := (HE.out.keep (w.heap.size + 1 + 1) (by omega) (by omega)).trans HNW.out
          have e3 := (HE.out.keep V1.heap.size (by omega) (by omega)).trans N2H.out
          have t0 := cell_of_row V3 _ 0 _ _ _ e3
          have t1 := cell_of_row V3 _ 1 _ _ _ e3
          have t2 := cell_of_row V3 _ 2 _ _ _ e3
          have t3 := cell_of_row V3 _ 3 _ _ _ e3
          have r0 := cell_of_row V3 _ 0 _ _ _ e2
          have r1 := cell_of_row V3 _ 1 _ _ _ e2
          have r2 := cell_of_row V3 _ 2 _ _ _ e2
          have r3 := cell_of_row V3 _ 3 _ _ _ e2
          simp at t0 t1 t2 t3 r0 r1 r2 r3
          have f0 := frozen_of_row V3 _ 0 _ _ e2
          have f1 := frozen_of_row V3 _ 1 _ _ e2
          have f2 := frozen_of_row V3 _ 2 _ _ e2
          have f3 := frozen_of_row V3 _ 3 _ _ e2
          have l2 := lt_of_block e2
          have z3 := HE.out.size
          have NR := hide' (show RefG6 w w3 ((((V3.setCell ⟨w.heap.size + 1 + 1, 0, none⟩ (.int .i64 6)).setCell ⟨w.heap.size + 1 + 1, 1, none⟩ (.int .i64 (W : Int))).setCell ⟨w.heap.size + 1 + 1, 2, none⟩ (.int .i64 (H : Int))).setCell ⟨w.heap.size + 1 + 1, 3, none⟩ (.slice (some ⟨V1.heap.size + 1, 0, none⟩) n n)) W H (flowG 6 W H m cs f (s + 1)) (some ⟨V1.heap.size + 1, 0, none⟩) a0 n n from
            ⟨fun qq off h => by cases h; right; omega, fun j hj => by
              rw [Below.heap_setCell _ _ _ _ (by simp; omega), Below.heap_setCell _ _ _ _ (by simp; omega), Below.heap_setCell _ _ _ _ (by simp; omega), Below.heap_setCell _ _ _ _ (by simp; omega)]
              exact ((HE.out.keep j (by omega) (by omega)).trans (KVH.out j (by omega))).trans (HR.out.keep j hj),
            setGas e2 rfl _ _ _ _,
            by
              refine CA_arg (HE.out.ca.block ?_) (by unfold maxLen; omega)
              rw [Below.heap_setCell _ _ _ _ (by simp; omega), Below.heap_setCell _ _ _ _ (by simp; omega), Below.heap_setCell _ _ _ _ (by simp; omega), Below.heap_setCell _ _ _ _ (by simp; omega)],
            fun _ qq off h => by cases h; right; omega,
            ((((BVH.out.trans HE.out.below).setCell (by simp; omega) _).setCell (by simp; omega) _).setCell (by simp; omega) _).setCell (by simp; omega) _,
            by rw [World.size_setCell, World.size_setCell, World.size_setCell, World.size_setCell]; omega⟩)
          clear jn e2 e3 HKK
          go_wp2
          exact ⟨⟨s + 1, some ⟨V1.heap.size + 1, 0, none⟩, n, by go_num, by omega, NR⟩, by simp [intOf]; omega⟩
    · have sk : s = k := by omega
      have HZ := HR.out
      rw [sk] at HZ
      have e2 := HZ.now
      have e1 := (HZ.keep (w.heap.size + 1) (by omega)).trans G1.out
      have t0 := cell_of_row V1 _ 0 _ _ _ e2
      have t1 := cell_of_row V1 _ 1 _ _ _ e2
      have t2 := cell_of_row V1 _ 2 _ _ _ e2
      have t3 := cell_of_row V1 _ 3 _ _ _ e2
      have r0 := cell_of_row V1 _ 0 _ _ _ e1
      have r1 := cell_of_row V1 _ 1 _ _ _ e1
      have r2 := cell_of_row V1 _ 2 _ _ _ e1
      have r3 := cell_of_row V1 _ 3 _ _ _ e1
      simp at t0 t1 t2 t3 r0 r1 r2 r3
      have f0 := frozen_of_row V1 _ 0 _ _ e1
      have f1 := frozen_of_row V1 _ 1 _ _ e1
      have f2 := frozen_of_row V1 _ 2 _ _ e1
      have f3 := frozen_of_row V1 _ 3 _ _ e1
      have l1 := lt_of_block e1
      have AZ := hide' HZ.arg
      have FZ := hide' HZ.far
      have OZ := hide' HZ.own
      have BZ := hide' HZ.below
      clear sk HZ e2 e1 p0
      go_wp2
      refine bodyPost_ret (v := .agg #[.int .i64 6, .int .i64 (W : Int), .int .i64 (H : Int), .slice a n c]) (by simp [results, Tryd.results25, go_sem, r0, r1, r2, r3]) rfl ?_
      refine ⟨a, c, rfl, OZ.out, AZ.out.keepB (fun z qq off h => ?_), (((BZ.out.setCell (by simp) _).setCell (by simp) _).setCell (by simp) _).setCell (by simp) _⟩
      have := FZ.out (by simpa using z) qq off h
      rw [Below.heap_setCell _ _ _ _ (by simp; try omega), Below.heap_setCell _ _ _ _ (by simp; try omega), Below.heap_setCell _ _ _ _ (by simp; try omega), Below.heap_setCell _ _ _ _ (by simp; try omega)]
end Go.Proofs.YtbkllhlapdmlfaaDoor

