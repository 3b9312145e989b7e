/-
  What the last text of this claim leans on, part 19: Hg6.
-/
import Derived.Test.YtbkllhlapdmlfaaDoorQf18
namespace Go.Proofs.YtbkllhlapdmlfaaDoor
open Go.RowKit
set_option linter.unusedVariables false
set_option maxRecDepth 100000 in
set_option maxHeartbeats 12800000 in
theorem refTurned_4 (W H : Nat) (f : Nat → Nat) (a : Option Addr) (n c : Nat) (w : World) (hP : ArgP w ((List.range n).map fun i => (f i : Int)) a n c) (he : 4 = 6 → H % 2 = 0) (hn : n = W * H) (hW : 1 ≤ W ∧ W ≤ 100) (hH : 1 ≤ H ∧ H ≤ 100) (hf : ∀ i, f i < 2 ^ 4) :
    Calls Tryd.prog 32 #[.agg #[.int .i64 (4 : Int), .int .i64 (W : Int), .int .i64 (H : Int), .slice a n c]] w fun e w' => ∃ q, e = .returned (.agg #[.int .i64 (4 : Int), .int .i64 (W : Int), .int .i64 (H : Int), .slice (some ⟨q, 0, none⟩) n n]) ∧ ArgP w' ((List.range n).map fun i => (mvF (fun k => tnG 4 (4 / 2) (f k)) (srcG 4 W H) i : Int)) (some ⟨q, 0, none⟩) n n ∧ Below w.heap.size w w' := by
  obtain ⟨w3, hw3⟩ : ∃ w3, ((w.alloc (.cells #[.int .i64 (4 : Int), .int .i64 (W : Int), .int .i64 (H : Int), .slice a n c] 49)).alloc (.cells #[.int .i64 0, .int .i64 0, .int .i64 0, .slice none 0 0] 49)).alloc (.cells #[.int .i64 (4 : Int), .int .i64 (W : Int), .int .i64 (H : Int), .slice none 0 0] 49) = w3 := ⟨_, rfl⟩
  have BB : Below w.heap.size w w3 := by rw [← hw3]; repeat (first | exact Below.refl _ _ | refine Below.alloc ?_ (by simp; try omega) _)
  have g0 : w3.heap[w.heap.size]? = some (.cells #[.int .i64 (4 : Int), .int .i64 (W : Int), .int .i64 (H : Int), .slice a n c] 49 (0, 0)) := by rw [← hw3, Below.heap_alloc _ _ _ (by simp; try omega), Below.heap_alloc _ _ _ (by simp; try omega)]; exact heap_atX _ _ _ (by simp)
  have g1 : w3.heap[w.heap.size + 1]? = some (.cells #[.int .i64 0, .int .i64 0, .int .i64 0, .slice none 0 0] 49 (0, 0)) := by rw [← hw3, Below.heap_alloc _ _ _ (by simp; try omega)]; exact heap_atX _ _ _ (by simp)
  have g2 : w3.heap[w.heap.size + 1 + 1]? = some (.cells #[.int .i64 (4 : Int), .int .i64 (W : Int), .int .i64 (H : Int), .slice none 0 0] 49 (0, 0)) := by rw [← hw3]; exact heap_atX _ _ _ (by simp)
  have s3 : w3.heap.size = w.heap.size + 1 + 1 + 1 := by rw [← hw3]; simp
  have n4 : n ≤ 10000 := by rw [hn]; exact Nat.mul_le_mul hW.2 hH.2
  obtain ⟨V2, hV2⟩ : ∃ V2, (w3.alloc (.cells (madeCells #[.int .i64 0] n) 3)).setCell ⟨w.heap.size + 1 + 1, 3, none⟩ (.slice (some ⟨w.heap.size + 1 + 1 + 1, 0, none⟩) n n) = V2 := ⟨_, rfl⟩
  have gM : (w3.alloc (.cells (madeCells #[.int .i64 0] n) 3)).heap[w.heap.size + 1 + 1]? = some (.cells #[.int .i64 (4 : Int), .int .i64 (W : Int), .int .i64 (H : Int), .slice none 0 0] 49 (0, 0)) := (Below.heap_alloc _ _ _ (by omega)).trans g2
  have N2 : V2.heap[w.heap.size + 1 + 1]? = some (.cells #[.int .i64 (4 : Int), .int .i64 (W : Int), .int .i64 (H : Int), .slice (some ⟨w.heap.size + 1 + 1 + 1, 0, none⟩) n n] 49 (0, 0)) := by rw [← hV2, heap_setCell_same _ _ _ _ _ _ gM]; rfl
  have KV : ∀ j, j < w.heap.size + 1 + 1 → V2.heap[j]? = w3.heap[j]? := fun j hj => by rw [← hV2, Below.heap_setCell _ _ _ _ (by simp; omega), Below.heap_alloc _ _ _ (by omega)]
  have CM : CA V2 (w.heap.size + 1 + 1 + 1) n (fun _ => 0) := by
    have := made_ca w3 n
    rw [s3] at this
    exact this.block (by rw [← hV2, Below.heap_setCell _ _ _ _ (by simp)])
  have z2 : w.heap.size + 1 + 1 + 1 < V2.heap.size := by rw [← hV2, World.size_setCell]; simp [s3]
  have BV : Below w.heap.size w V2 := by
    rw [← hV2]
    exact (BB.alloc (by omega) _).setCell (by simp; omega) _
  have SP0 := hide' (show SP V2 V2 w.heap.size (w.heap.size + 1 + 1 + 1) n (scG 4 W H (oppG 4) f 0 0) from ⟨fun _ _ _ => rfl, CM.ext (fun k _ => (sc_zero 4 W H _ f k).symm), Nat.le_refl _, Below.refl _ _⟩)
  have P0H := hide' ((KV w.heap.size (by omega)).trans g0)
  have P1H := hide' ((KV (w.heap.size + 1) (by omega)).trans g1)
  have N2H := hide' N2
  have AR2 := hide' (hP.below BV)
  have ALT := hide' (fun k (hk : k < n) => show ∃ g off, a = some ⟨g, off, none⟩ ∧ g < w.heap.size from by
    obtain ⟨g, off, e', hg, _⟩ := hP.cells k (by simpa using hk)
    exact ⟨g, off, e', hg⟩)
  have GV := hide' (fun (V : World) (m : Nat → Nat) (hV : SP V2 V w.heap.size (w.heap.size + 1 + 1 + 1) n m) => show V.cell? ⟨w.heap.size, 0, none⟩ = some (.int .i64 (4 : Int)) ∧ V.cell? ⟨w.heap.size, 1, none⟩ = some (.int .i64 (W : Int)) ∧ V.cell? ⟨w.heap.size, 2, none⟩ = some (.int .i64 (H : Int)) ∧ V.cell? ⟨w.heap.size, 3, none⟩ = some (.slice a n c) ∧ V.cell? ⟨w.heap.size + 1 + 1, 3, none⟩ = some (.slice (some ⟨w.heap.size + 1 + 1 + 1, 0, none⟩) n n) from
    have e0 := (hV.keep _ (by omega) (by omega)).trans P0H.out
    have e3 := (hV.keep _ (by omega) (by omega)).trans N2H.out
    ⟨cell_of_row V _ 0 _ _ _ e0, cell_of_row V _ 1 _ _ _ e0, cell_of_row V _ 2 _ _ _ e0, cell_of_row V _ 3 _ _ _ e0, cell_of_row V _ 3 _ _ _ e3⟩)
  have GY := hide' (fun (V : World) (m : Nat → Nat) (hV : SP V2 V w.heap.size (w.heap.size + 1 + 1 + 1) n m) => (show ArgP V ((List.range n).map fun i => (f i : Int)) a n c from AR2.out.keepB (fun z qq off h => hV.keep qq (by
      obtain ⟨g', off', e', hg'⟩ := ALT.out 0 (by simpa using z)
      rw [h] at e'; cases e'; omega) (by
      obtain ⟨g', off', e', hg'⟩ := ALT.out 0 (by simpa using z)
      rw [h] at e'; cases e'; omega))))
  have BVH := hide' BV
  have hK : 4 = 4 ∨ 4 = 6 := by omega
  have WH := hide' (And.intro hW hH)
  have NL := hide' hn
  have HF := hide' (fun i => show f i ≤ 63 from by have := hf i; simp at this; omega)
  have HFK := hide' hf
  have hmk := run_make_row' (P := Tryd.prog) 22 3 (.int .i64 0) 8 Tryd.underlying22 info_int rfl .i64 .i64 n (by omega) (by omega) w3
  rw [s3] at hmk
  have d0 := cell_of_row w3 _ 3 _ _ _ g0
  have m2 := cell_of_row _ _ 3 _ _ _ gM
  have mf := frozen_of_row _ _ 3 _ _ gM
  have ml := lt_of_block gM
  simp at d0 m2
  have HW3 := hide' hw3
  clear g0 g1 g2 BB hP hn N2 KV CM BV hK he hf hW hH hw3
  go_enter Tryd.func32, Tryd.ntmps32
  go_upto_region 2 with fail
  rw [HW3.out]
  go_wp2
  try rw [hV2]
  clear hV2 HW3 hmk d0 m2 mf ml gM s3
  go_loopw [4] (fun kv wr => ∃ k : Nat, kv = .int .i64 (k : Int) ∧ k ≤ n ∧ Hid (SP V2 wr w.heap.size (w.heap.size + 1 + 1 + 1) n (scG 4 W H (oppG 4) f k 0))) (fun kv _ => ((n : Int) - intOf kv).toNat)
  case atStart => exact ⟨0, by go_num, by omega, SP0⟩
  case round =>
    obtain ⟨k, rfl, hk, HKK⟩ := hrel
    obtain ⟨V3, rfl⟩ : ∃ V3, V3 = wr := ⟨_, rfl⟩
    obtain ⟨c0, c1, c2, c3, c4⟩ := GV.out V3 _ HKK.out
    by_cases dk : (k : Int) < (n : Int)
    · have kl : k < n := by omega
      obtain ⟨ga, oa, ea, hga, hc⟩ := (GY.out V3 _ HKK.out).cells k (by simpa using kl)
      simp only [List.getElem_map, List.getElem_range] at hc
      have xl := HF.out k
      obtain ⟨x, hx⟩ : ∃ x, f k = x := ⟨_, rfl⟩
      rw [hx] at hc xl
      have XK := hide' hx
      have EA := hide' ea
      clear hx
      rw [ea] at c3
      go_wp2
      clear hc c0 c1 c2 c3 c4 ea hga
      go_loopw [5, 6] (fun cv dv wr => ∃ (d y : Nat), dv = .int .i64 (d : Int) ∧ cv = .int .i64 (y : Int) ∧ d ≤ 4 ∧ y ≤ 63 ∧ Hid (y = x / 2 ^ d) ∧ Hid (SP V2 wr w.heap.size (w.heap.size + 1 + 1 + 1) n (scG 4 W H (oppG 4) f k d))) (fun _ dv _ => ((4 : Int) - intOf dv).toNat)
      case atStart => exact ⟨0, x, by go_num, rfl, by omega, xl, hide' (by simp), HKK⟩
      case round =>
        obtain ⟨d, y, rfl, rfl, hd, hy, HY, HX⟩ := hrel
        obtain ⟨V4, rfl⟩ : ∃ V4, V4 = wr := ⟨_, rfl⟩
        have BX := hide' (BVH.out.trans HX.out.below)
        have z4 : w.heap.size + 1 + 1 + 1 < V4.heap.size := Nat.lt_of_lt_of_le z2 HX.out.size
        obtain ⟨c0, c1, c2, c3, c4⟩ := GV.out V4 _ HX.out
        by_cases dd : (d : Int) < (4 : Int)
        · have dl : d < 4 := by omega
          obtain ⟨b, hb⟩ : ∃ b, y % 2 = b := ⟨_, rfl⟩
          obtain ⟨z, hz⟩ : ∃ z, y / 2 = z := ⟨_, rfl⟩
          have NY := hide' (div_next x d y z HY.out hz)
          have z63 : z ≤ 63 := by omega
          have f1 : (y : Int).tmod 2 = (b : Int) := by rw [Int.tmod_eq_emod_of_nonneg (by omega), ← hb]; simp
          have f2 : (y : Int) % 2 = (b : Int) := by rw [← hb]; simp
          have f3 : (y : Int) / 2 = (z : Int) := by rw [← hz]; simp
          have F4 := hide' (wrap64_small z (by omega))
          have XB := hide' (show f k / 2 ^ d % 2 = b by rw [XK.out, ← HY.out, hb])
          clear hz HY
          by_cases b1 : b = 1
          · subst b1
            clear hb
            obtain ⟨o, ho⟩ : ∃ o, oppG 4 d = o := ⟨_, rfl⟩
            have ol : o < 4 := by rw [← ho]; exact opp_lt kind4
            have o1 : ((d : Int) + 2).tmod (4 : Int) = (o : Int) := by rw [Int.tmod_eq_emod_of_nonneg (by omega), ← ho]; unfold oppG; simp
            have o2 : ((d : Int) + 2) % (4 : Int) = (o : Int) := by rw [← ho]; unfold oppG; simp
            have HO := hide' ho
            clear ho
            obtain ⟨t, ht⟩ : ∃ t, srcG 4 W H k (oppG 4 o) = t := ⟨_, rfl⟩
            have tn : t < n := by rw [NL.out, ← ht]; exact src_lt kind4 WH.out.1.1 WH.out.2.1 _ _
            have NXC := hide' (refNext_any kind4 W H k o a n c V4 WH.out.1 WH.out.2 (by rw [← NL.out]; exact kl) ol)
            rw [ht] at NXC
            have HT := hide' ht
            clear ht
            go_wp2_with fail
            refine NXC.out.mono ?_
            rintro e' V5 ⟨rfl, b5⟩
            have H5 := hide' (HX.out.next (Nat.le_trans (by omega) z4) b5)
            clear b5 c0 c1 c2 c3 c4 NXC
            obtain ⟨c0, c1, c2, c3, c4⟩ := GV.out V5 _ H5.out
            obtain ⟨cc, cf⟩ := H5.out.ca.cell tn
            obtain ⟨q, hq⟩ : ∃ q, scG 4 W H (oppG 4) f k d t = q := ⟨_, rfl⟩
            rw [hq] at cc
            have q63 : q ≤ 63 := by rw [← hq]; exact sc_le kind4 _ _ _ _ _ _ _
            obtain ⟨p, hp⟩ : ∃ p, 2 ^ o = p := ⟨_, rfl⟩
            have p64 : p ≤ 64 := by rw [← hp]; exact Nat.pow_le_pow_right (n := 2) (j := 6) (by omega) (by omega)
            have PC := hide' (fun V => refPower_any o V (by omega))
            rw [hp] at PC
            have NS := hide' ((H5.out.set (by omega) t (q + p)).ext (f' := scG 4 W H (oppG 4) f k (d + 1)) (fun jj hjj => by
              rw [← hq, ← hp]
              exact sc_new kind4 (evn4 H) WH.out.1.1 WH.out.2.1 (vvO kind4) f (by rw [← NL.out]; exact kl) dl (by rw [← NL.out]; exact hjj) XB.out HO.out HT.out))
            have tn' : (t : Int) < (n : Int) := by omega
            have t0 : (0 : Int) ≤ (t : Int) := by omega
            have cl := H5.out.ca.lt
            have NSD := hide' (show SP V2 (V5.setCell ⟨(w.heap.size + 1 + 1 + 1), t, none⟩ (.int .i64 ((q + p : Nat) : Int))).drew w.heap.size (w.heap.size + 1 + 1 + 1) n (scG 4 W H (oppG 4) f k (d + 1)) from NS.out.next (by rw [World.size_setCell]; have := H5.out.size; omega) ((Below.refl _ _).drew))
            clear hq hp
            go_wp2
            go_region_with ((go_at_call 70; refine (PC.out _).mono ?_; rintro e' w' ⟨rfl, rfl⟩))
            all_goals
              go_wp2
              exact ⟨⟨d + 1, z, by go_num, by first | rfl | rw [F4.out], by omega, z63, NY, by first | exact NSD | exact NS⟩, by simp [intOf]; omega⟩
          · have b0 : b = 0 := by omega
            subst b0
            clear hb b1
            have NS := hide' (HX.out.ext (f' := scG 4 W H (oppG 4) f k (d + 1)) (fun jj hjj => sc_old kind4 (evn4 H) WH.out.1.1 WH.out.2.1 (vvO kind4) f (by rw [← NL.out]; exact kl) dl (by rw [← NL.out]; exact hjj) XB.out))
            go_wp2
            exact ⟨⟨d + 1, z, by go_num, by first | rfl | rw [F4.out], by omega, z63, NY, NS⟩, by simp [intOf]; omega⟩
        · have dK : d = 4 := by omega
          have NK := hide' (HX.out.ext (f' := scG 4 W H (oppG 4) f (k + 1) 0) (fun jj hjj => by rw [dK]; exact sc_row (fun o ho => ((vvO kind4) o ho).1) f k jj))
          clear dK HX
          go_wp2
          exact ⟨⟨k + 1, by go_num, by omega, NK⟩, by simp [intOf]; omega⟩
    · have kn : k = n := by omega
      have FE := hide' (HKK.out.ext (f' := mvF (fun k => tnG 4 (4 / 2) (f k)) (srcG 4 W H)) (fun j hj => by
        rw [kn, NL.out]
        exact sc_end kind4 WH.out.1.1 WH.out.2.1 (fun i => (tn_all (d := 0) kind4 (HFK.out i) (by omega)).2) (fun i o ho => (tn_all kind4 (HFK.out i) ho).1) j))
      have e2 := (HKK.out.keep (w.heap.size + 1) (by omega) (by omega)).trans P1H.out
      have e3 := (HKK.out.keep (w.heap.size + 1 + 1) (by omega) (by omega)).trans N2H.out
      have t0 := cell_of_row V3 _ 0 _ _ _ e3
      have t1 := cell_of_row V3 _ 1 _ _ _ e3
      have t2 := cell_of_row V3 _ 2 _ _ _ e3
      have t3 := cell_of_row V3 _ 3 _ _ _ e3
      have r0 := cell_of_row V3 _ 0 _ _ _ e2
      have r1 := cell_of_row V3 _ 1 _ _ _ e2
      have r2 := cell_of_row V3 _ 2 _ _ _ e2
      have r3 := cell_of_row V3 _ 3 _ _ _ e2
      simp at t0 t1 t2 t3 r0 r1 r2 r3
      have f0 := frozen_of_row V3 _ 0 _ _ e2
      have f1 := frozen_of_row V3 _ 1 _ _ e2
      have f2 := frozen_of_row V3 _ 2 _ _ e2
      have f3 := frozen_of_row V3 _ 3 _ _ e2
      have l2 := lt_of_block e2
      have BX := hide' (BVH.out.trans HKK.out.below)
      clear kn e2 e3 HKK
      go_wp2
      refine bodyPost_ret (v := .agg #[.int .i64 (4 : Int), .int .i64 (W : Int), .int .i64 (H : Int), .slice (some ⟨w.heap.size + 1 + 1 + 1, 0, none⟩) n n]) (by simp [results, Tryd.results32, go_sem, r0, r1, r2, r3]) rfl ?_
      refine ⟨w.heap.size + 1 + 1 + 1, rfl, ?_, (((BX.out.setCell (by simp) _).setCell (by simp) _).setCell (by simp) _).setCell (by simp) _⟩
      refine CA_arg (FE.out.ca.block ?_) (by unfold maxLen; omega)
      rw [Below.heap_setCell _ _ _ _ (by simp; omega), Below.heap_setCell _ _ _ _ (by simp; omega), Below.heap_setCell _ _ _ _ (by simp; omega), Below.heap_setCell _ _ _ _ (by simp; omega)]
end Go.Proofs.YtbkllhlapdmlfaaDoor

