/-
  What the last text of this claim leans on, part 17: Sv6.
-/
import Derived.Test.YtopcgkncmhhkmaaDoorZc16
import Derived.Deep.DeepCutAuto
import Derived.Deep.RegionHeld3
namespace Go.Proofs.YtopcgkncmhhkmaaDoor
open Go.RowKit
set_option linter.unusedVariables false
set_option linter.unusedSimpArgs false
set_option maxRecDepth 100000 in
set_option maxHeartbeats 12800000 in
theorem refLeads_any (W H s : Nat) (cor : Bool) (w : World) (h1 : 1 ≤ W) (hW : W ≤ 6) (h3 : 1 ≤ H) (hH : H ≤ 6) (hN : W * H ≤ 16) (hs : s < 65536) : Calls Tryd.prog 22 #[.int .i64 (W : Int), .int .i64 (H : Int), .int .i64 (s : Int), .bool cor] w fun e w' => e = .returned (.bool (leaC W H cor s)) ∧ Below w.heap.size w w' := by
  obtain ⟨i0, hi0, hz0, hz1, hz2⟩ := info_parts (show (Tryd.prog.info? 3).map (fun i => (i.zero, i.size, i.bytes)) = some (some (.int .i64 0), 1, 8) by kernel_rfl)
  have ST := hide' (se_start (W := W) (H := H) cor s (by omega) (by omega))
  obtain ⟨N, hNN⟩ : ∃ N, W * H = N := ⟨_, rfl⟩
  have eN : (W : Int) * (H : Int) = (N : Int) := by rw [← hNN]; push_cast; rfl
  have EN := hide' hNN
  rw [hNN] at hN ST
  clear hNN
  have L0 := hide' (LdW.start w N)
  have m1 := mk_boolsQ N (by omega) w
  obtain ⟨w1, hw1⟩ : ∃ x, w.alloc (.cells (arrQ N (bQ fun _ => false)) 4) = x := ⟨_, rfl⟩
  rw [hw1] at m1 L0
  have m2 := mk_boolsQ N (by omega) w1
  obtain ⟨w2, hw2⟩ : ∃ x, w1.alloc (.cells (arrQ N (bQ fun _ => false)) 4) = x := ⟨_, rfl⟩
  rw [hw2] at m2 L0
  have z1 : w1.heap.size = w.heap.size + 1 := by rw [← hw1]; simp
  rw [z1] at m2
  clear hw1 hw2 z1
  obtain ⟨ib, hib⟩ : ∃ b, w.heap.size = b := ⟨_, rfl⟩
  obtain ⟨wb, hwb⟩ : ∃ b, w.heap.size + 1 = b := ⟨_, rfl⟩
  obtain ⟨B, hB⟩ : ∃ b, w.heap.size + 1 + 1 = b := ⟨_, rfl⟩
  have L1 := L0.out
  rw [hB, hwb] at L1
  rw [hwb] at m2
  have L2 := hide' (show LdW w w2 B ib wb N (fun _ => false) (fun _ => false) [] (.slice none 0 0) by rw [← hib]; exact L1)
  rw [hib] at m1
  clear L0 L1 hib hwb hB
  go_enter Tryd.func22, Tryd.ntmps22
  go_wp2
  clear m1 m2
  go_loopw [2, 12, 13] (fun sv tv kv wr => ∃ (k m : Nat) (oa : Option Addr) (oc : Nat), sv = .int .i64 ((s / 2 ^ k : Nat) : Int) ∧ tv = .slice oa m oc ∧ kv = .int .i64 (k : Int) ∧ k ≤ N ∧ Hid (m = (frL W s k).length) ∧ Hid (LdW w wr B ib wb N (fun j => decide (j < k) && decide (s / 2 ^ j % 2 = 1)) (frB W s k) (frL W s k) (.slice oa m oc))) (fun _ _ kv _ => N - (intOf kv).toNat)
  case atStart => exact ⟨0, 0, none, 0, by simp, rfl, rfl, by omega, hide' rfl, hide' (L2.out.ext (fun j _ => by simp) (fun j _ => by unfold frB; simp))⟩
  case round =>
    clear L2
    obtain ⟨k, m, oa, oc, rfl, rfl, rfl, hk, HM, LK⟩ := hrel
    by_cases d : (k : Int) < (N : Int)
    · have kl : k < N := by omega
      have k0 : (0 : Int) ≤ (k : Int) := by omega
      have NX := hide' (show s / 2 ^ (k + 1) = s / 2 ^ k / 2 by rw [Nat.pow_succ, Nat.div_div_eq_div_mul])
      have ul : s / 2 ^ k < 65536 := Nat.lt_of_le_of_lt (Nat.div_le_self _ _) hs
      have FL := hide' (frL_next W s k)
      have FB := hide' (fun j => frB_next W s k j)
      have LS := hide' (fun t => LK.out.setI k t)
      have hmm := HM.out
      have ml : m ≤ 16 := by rw [hmm, fr_len W s k N hk]; exact Nat.le_trans (cnt_le _ _) hN
      have LE := hide' (LK.out.below.size)
      have BT := hide' (show s / 2 ^ k % 2 = 1 ∨ s / 2 ^ k % 2 = 0 by omega)
      obtain ⟨c1, f1, l1⟩ : wr.cell? ⟨ib, k, none⟩ = some (.bool (decide (k < k) && decide (s / 2 ^ k % 2 = 1))) ∧ wr.frozen? ⟨ib, k, none⟩ = false ∧ ib < wr.heap.size := ⟨LK.out.inr.cell kl, LK.out.inr.frozen k, LK.out.inr.lt⟩
      have IX := hide' (fun (t : Bool) (e : decide (s / 2 ^ k % 2 = 1) = t) j => show (if j = k then t else (decide (j < k) && decide (s / 2 ^ j % 2 = 1))) = (decide (j < k + 1) && decide (s / 2 ^ j % 2 = 1)) from by
        by_cases q : j = k
        · rw [if_pos q, q, decide_eq_true (Nat.lt_succ_self k), ← e]; rfl
        · rw [if_neg q, show decide (j < k + 1) = decide (j < k) from by rw [decide_eq_decide]; omega])
      clear hmm
      obtain ⟨u, hu⟩ : ∃ u, s / 2 ^ k = u := ⟨_, rfl⟩
      rw [hu] at NX ul FL BT c1 IX ⊢
      simp only [hu] at FB
      clear hu
      obtain ⟨u2, hu2⟩ : ∃ v, u / 2 = v := ⟨_, rfl⟩
      rw [hu2] at NX
      have q2 : ((u : Nat) : Int).tdiv 2 = (u2 : Int) := by rw [← hu2]; exact (Int.ofNat_tdiv u 2).symm
      have u2l : u2 < 65536 := by omega
      clear hu2
      rcases BT.out with e1 | e0
      · have m2 : ((u : Nat) : Int).tmod 2 = 1 := by rw [show (1 : Int) = ((u % 2 : Nat) : Int) by rw [e1]; rfl]; exact (Int.ofNat_tmod u 2).symm
        rw [e1] at FL IX
        simp only [e1] at FB
        have LT := hide' ((LS.out true).ext (I' := fun j => decide (j < k + 1) && decide (s / 2 ^ j % 2 = 1)) (R' := frB W s k) (fun j _ => IX.out true (by simp) j) (fun _ _ => rfl))
        clear IX LS e1 BT
        by_cases kw : (k : Int) < (W : Int)
        · have kW : k < W := by omega
          have FL2 := hide' (show frL W s (k + 1) = frL W s k ++ [k] by rw [FL.out, decide_eq_true kW]; rfl)
          have FB2 := hide' (fun j => show frB W s (k + 1) j = if j = k then true else frB W s k j by rw [FB.out j, decide_eq_true kW]; rfl)
          have LR := hide' ((LT.out.setR k true).ext (I' := fun j => decide (j < k + 1) && decide (s / 2 ^ j % 2 = 1)) (R' := frB W s (k + 1)) (fun _ _ => rfl) (fun j _ => (FB2.out j).symm))
          obtain ⟨V, hV⟩ : ∃ V, wr.setCell ⟨ib, k, none⟩ (.bool true) = V := ⟨_, rfl⟩
          rw [hV] at LT LR
          have c2 : V.cell? ⟨ib, k, none⟩ = some (.bool true) := by rw [← hV, cell_of_row _ _ _ _ _ _ (heap_setCell_same _ _ _ _ _ (.bool true) LK.out.inr), arrQ_set, arrQ_get _ kl]; simp
          have c3 := LT.out.wet.cell kl
          have f3 := LT.out.wet.frozen k
          have l3 := LT.out.wet.lt
          obtain ⟨V2, hV2⟩ : ∃ V2, V.setCell ⟨wb, k, none⟩ (.bool true) = V2 := ⟨_, rfl⟩
          rw [hV2] at LR
          obtain ⟨V3, hV3⟩ : ∃ V3, V2.alloc (.cells #[.int .i64 (k : Int)] 3) = V3 := ⟨_, rfl⟩
          have NB := hide' (show ∀ j u, [Value.int .i64 (k : Int)][j]? = some u → V3.cell? ((⟨V2.heap.size, 0, none⟩ : Addr).add j) = some u from World.news_of_block (cs := #[.int .i64 (k : Int)]) (by rw [← hV3]; exact heap_alloc_new _ _))
          have L3 := hide' (show LdW w V3 B ib wb N (fun j => decide (j < k + 1) && decide (s / 2 ^ j % 2 = 1)) (frB W s (k + 1)) (frL W s k) (.slice oa m oc) by rw [← hV3]; exact LR.out.alloc _)
          have O3 := hide' (show V3.ownsRow B 3 1 (.slice oa m oc) m (iL (frL W s k)) by have := L3.out.own; rw [← HM.out] at this; exact this)
          have SZ := hide' L3.out.size
          have FIN := hide' (fun (w5 : World) (v' : Value) (hown : w5.ownsRow B 3 1 v' (m + 1) (iL (frL W s k) ++ [.int .i64 (k : Int)])) (hgr : V3.grownBy w5 (Value.slice oa m oc).ownBlock) => show LdW w w5 B ib wb N (fun j => decide (j < k + 1) && decide (s / 2 ^ j % 2 = 1)) (frB W s (k + 1)) (frL W s (k + 1)) v' from by
            rw [FL2.out]
            exact L3.out.app hgr (by rw [← HM.out]; exact hown))
          have M2 := hide' (show m + 1 = (frL W s (k + 1)).length by rw [FL2.out, List.length_append, ← HM.out]; rfl)
          clear LK LT LR L3 FL FB FL2 FB2 LE HM
          go_wp2_with (at_builtin; go_loud (refine wpList_append_lies _ rfl _ _ 23 rfl B 3 i0 _ 1 8 Tryd.underlying23 hi0 hz0 hz1 hz2 rfl (by decide) (.slice oa m oc) m (iL (frL W s k)) rfl O3.out ⟨V2.heap.size, 0, none⟩ 1 1 [.int .i64 (k : Int)] rfl rfl NB.out (fun u hu => by simp at hu; rw [hu]; rfl) (by omega) (by unfold maxLen; omega) (by omega) SZ.out V3.heap.size rfl ?_; intro g5 cap5 w5 hown hgr hat hlt; go_frame))
          have FX := hide' (FIN.out w5 _ hown hgr)
          exact ⟨⟨k + 1, m + 1, some ⟨g5, 0, none⟩, cap5, by rw [NX.out], rfl, by go_num, by omega, M2, FX⟩, by simp [intOf]; omega⟩
        · have kW : ¬ k < W := by omega
          have FL2 := hide' (show frL W s (k + 1) = frL W s k by rw [FL.out, decide_eq_false kW]; rfl)
          have FB2 := hide' (fun j => show frB W s (k + 1) j = frB W s k j by rw [FB.out j, decide_eq_false kW]; rfl)
          have LR := hide' (LT.out.ext (I' := fun j => decide (j < k + 1) && decide (s / 2 ^ j % 2 = 1)) (R' := frB W s (k + 1)) (fun _ _ => rfl) (fun j _ => (FB2.out j).symm))
          obtain ⟨V, hV⟩ : ∃ V, wr.setCell ⟨ib, k, none⟩ (.bool true) = V := ⟨_, rfl⟩
          rw [hV] at LR
          have c2 : V.cell? ⟨ib, k, none⟩ = some (.bool true) := by rw [← hV, cell_of_row _ _ _ _ _ _ (heap_setCell_same _ _ _ _ _ (.bool true) LK.out.inr), arrQ_set, arrQ_get _ kl]; simp
          rw [← FL2.out] at LR HM
          clear LK LT FL FB FL2 FB2 LE
          go_wp2
          exact ⟨⟨k + 1, m, oa, oc, by rw [NX.out], rfl, by go_num, by omega, HM, LR⟩, by simp [intOf]; omega⟩
      · have m2 : ((u : Nat) : Int).tmod 2 = 0 := by rw [show (0 : Int) = ((u % 2 : Nat) : Int) by rw [e0]; rfl]; exact (Int.ofNat_tmod u 2).symm
        rw [e0] at FL IX
        simp only [e0] at FB
        have LT := hide' ((LS.out false).ext (I' := fun j => decide (j < k + 1) && decide (s / 2 ^ j % 2 = 1)) (R' := frB W s k) (fun j _ => IX.out false (by simp) j) (fun _ _ => rfl))
        have FL2 := hide' (show frL W s (k + 1) = frL W s k by rw [FL.out]; simp)
        have FB2 := hide' (fun j => show frB W s (k + 1) j = frB W s k j by rw [FB.out j]; simp)
        have LR := hide' (LT.out.ext (I' := fun j => decide (j < k + 1) && decide (s / 2 ^ j % 2 = 1)) (R' := frB W s (k + 1)) (fun _ _ => rfl) (fun j _ => (FB2.out j).symm))
        obtain ⟨V, hV⟩ : ∃ V, wr.setCell ⟨ib, k, none⟩ (.bool false) = V := ⟨_, rfl⟩
        rw [hV] at LR
        have c2 : V.cell? ⟨ib, k, none⟩ = some (.bool false) := by rw [← hV, cell_of_row _ _ _ _ _ _ (heap_setCell_same _ _ _ _ _ (.bool false) LK.out.inr), arrQ_set, arrQ_get _ kl]; simp
        rw [← FL2.out] at LR HM
        clear IX LS e0 BT LK LT FL FB FL2 FB2 LE
        go_wp2
        exact ⟨⟨k + 1, m, oa, oc, by rw [NX.out], rfl, by go_num, by omega, HM, LR⟩, by simp [intOf]; omega⟩
    · obtain rfl : k = N := by omega
      have LL := hide' (show LdW w wr B ib wb (W * H) (fun j => decide (s / 2 ^ j % 2 = 1)) (frB W s k) (frL W s k) (.slice oa m oc) by
        rw [EN.out]
        exact LK.out.ext (fun j hj => by rw [decide_eq_true hj]; rfl) (fun _ _ => rfl))
      clear LK
      obtain ⟨sv, hsv⟩ : ∃ v, s / 2 ^ k = v := ⟨_, rfl⟩
      rw [hsv]
      clear hsv
      obtain ⟨N, rfl⟩ : ∃ N, N = k := ⟨_, rfl⟩
      obtain ⟨H', eH⟩ : ∃ v, H - 1 = v := ⟨_, rfl⟩
      have EH : (H : Int) - 1 = (H' : Int) := by omega
      have WZ : ((W : Int) == 0) = false := by simp; omega
      have WN : ¬ W = 0 := by omega
      have E1 := hide' eH
      clear eH
      go_wp2
      go_loopw [12, 14, 15, 16, 17, 18, 19, 20, 21] (fun tv iv _ _ _ _ _ _ _ wr => ∃ (i m : Nat) (oa : Option Addr) (oc : Nat) (R : Nat → Bool) (l : List Nat), tv = .slice oa m oc ∧ iv = .int .i64 (i : Int) ∧ i ≤ m ∧ m ≤ 16 ∧ Hid (m = l.length) ∧ Hid (LdW w wr B ib wb (W * H) (fun j => decide (s / 2 ^ j % 2 = 1)) R l (.slice oa m oc)) ∧ Hid (SeR W H cor s R l i) ∧ Hid (∀ k, k < i → ∀ j', l[k]? = some j' → j' / W ≠ H - 1)) (fun _ iv _ _ _ _ _ _ _ _ => 16 - (intOf iv).toNat)
      case atStart => exact ⟨0, m, oa, oc, _, _, rfl, rfl, by omega, by have := ST.out.len; rw [← HM.out, EN.out] at this; omega, HM, LL, ST, hide' (fun k h => absurd h (Nat.not_lt_zero _))⟩
      case round =>
        clear LL ST HM
        obtain ⟨i, m, oa, oc, R, l, rfl, rfl, hi, hm, HM, LD, SE, NL⟩ := hrel
        by_cases di : (i : Int) < (m : Int)
        · have il : i < l.length := by have := HM.out; omega
          obtain ⟨g, cap, hv, hBg, hgl⟩ := LD.out.own.form (by omega)
          have ov := LD.out.own
          rw [hv] at ov
          have cg := ov.cellAt i (by omega)
          have AT := hide' (show l[i]? = some l[i] from List.getElem?_eq_getElem il)
          obtain ⟨j, hj⟩ : ∃ j, l[i] = j := ⟨_, rfl⟩
          rw [hj] at AT
          rw [iL_at AT.out] at cg
          have jl : j < W * H := SE.out.src.lt j (List.mem_of_getElem? AT.out)
          rw [EN.out] at jl
          have hv' : oa = some ⟨g, 0, none⟩ ∧ oc = cap := by
            have := hv
            simp only [Value.slice.injEq] at this
            exact ⟨this.1, this.2.2⟩
          obtain ⟨rfl, rfl⟩ := hv'
          clear hj hv ov
          have ii0 : (0 : Int) ≤ (i : Int) := by omega
          obtain ⟨x, hx⟩ : ∃ x, j % W = x := ⟨_, rfl⟩
          obtain ⟨y, hy⟩ : ∃ x, j / W = x := ⟨_, rfl⟩
          have xl : x < W := by rw [← hx]; exact Nat.mod_lt _ (by omega)
          have yl : y < H := by rw [← hy]; have := EN.out; exact Nat.div_lt_of_lt_mul (by omega)
          have rx : ((j : Nat) : Int).tmod (W : Int) = (x : Int) := by rw [← hx]; exact (Int.ofNat_tmod j W).symm
          have qy : ((j : Nat) : Int).tdiv (W : Int) = (y : Int) := by rw [← hy]; exact (Int.ofNat_tdiv j W).symm
          have HX := hide' (And.intro hx hy)
          clear hx hy
          by_cases last : (y : Int) = (H' : Int)
          · have E := hide' (SE.out.yes AT.out (by rw [HX.out.2]; have := E1.out; omega))
            have BL := hide' LD.out.below
            have lb : ((y : Int) == (H' : Int)) = true := by simp; omega
            have LH := hide' last
            clear last
            go_wp2
            go_ret
            exact ⟨by rw [E.out]; rfl, BL.out⟩
          · have lb : ((y : Int) == (H' : Int)) = false := by simp; omega
            have IN := hide' (show InR w wr B ib wb W H cor s i j 0 R l (.slice (some ⟨g, 0, none⟩) m oc) from ⟨LD.out, SE.out, NL.out, AT.out, hd_zero _ _ _ _ _ _⟩)
            have LH := hide' (show j / W ≠ H - 1 by rw [HX.out.2]; have := E1.out; omega)
            clear last LD SE NL AT
            go_wp2
            clear rx qy cg lb
            go_loopw [12, 17, 18, 19, 20, 21] (fun tv ev _ _ _ _ wr => ∃ (a m : Nat) (oa : Option Addr) (oc : Nat) (R : Nat → Bool) (l : List Nat), tv = .slice oa m oc ∧ ev = .int .i64 ((a : Int) - 1) ∧ a ≤ 3 ∧ m ≤ 16 ∧ Hid (m = l.length) ∧ Hid (InR w wr B ib wb W H cor s i j (3 * a) R l (.slice oa m oc))) (fun _ ev _ _ _ _ _ => 4 - ((intOf ev) + 1).toNat)
            case atStart => exact ⟨0, m, _, oc, R, l, rfl, rfl, by omega, hm, HM, IN⟩
            case round =>
              clear IN HM
              obtain ⟨a, m, oa, oc, R, l, rfl, rfl, ha, hm, HM, IN⟩ := hrel
              by_cases da : (a : Int) - 1 ≤ 1
              · have a2 : a ≤ 2 := by omega
                obtain ⟨dy, hdy⟩ : ∃ dy : Int, (a : Int) - 1 = dy := ⟨_, rfl⟩
                rw [hdy] at da
                rw [hdy]
                have HDY := hide' hdy
                have dy1 : -1 ≤ dy := by omega
                clear hdy
                go_wp2
                go_loopw [12, 18, 19, 20, 21] (fun tv ev _ _ _ wr => ∃ (b m : Nat) (oa : Option Addr) (oc : Nat) (R : Nat → Bool) (l : List Nat), tv = .slice oa m oc ∧ ev = .int .i64 ((b : Int) - 1) ∧ b ≤ 3 ∧ m ≤ 16 ∧ Hid (m = l.length) ∧ Hid (InR w wr B ib wb W H cor s i j (3 * a + b) R l (.slice oa m oc))) (fun _ ev _ _ _ _ => 4 - ((intOf ev) + 1).toNat)
                case atStart => exact ⟨0, m, oa, oc, R, l, rfl, rfl, by omega, hm, HM, IN⟩
                case round =>
                  clear IN HM
                  obtain ⟨b, m, oa, oc, R, l, rfl, rfl, hb, hm, HM, IN⟩ := hrel
                  by_cases db : (b : Int) - 1 ≤ 1
                  · have b2 : b ≤ 2 := by omega
                    obtain ⟨dx, hdx⟩ : ∃ dx : Int, (b : Int) - 1 = dx := ⟨_, rfl⟩
                    rw [hdx] at db
                    rw [hdx]
                    have HDX := hide' hdx
                    have dx1 : -1 ≤ dx := by omega
                    clear hdx
                    obtain ⟨xa, hxa⟩ : ∃ v : Int, (x : Int) + dx = v := ⟨_, rfl⟩
                    obtain ⟨yb, hyb⟩ : ∃ v : Int, (y : Int) + dy = v := ⟨_, rfl⟩
                    have xa1 : -1 ≤ xa := by omega
                    have xa2 : xa ≤ 7 := by omega
                    have yb1 : -1 ≤ yb := by omega
                    have yb2 : yb ≤ 7 := by omega
                    have HXY := hide' (And.intro hxa hyb)
                    have LG := hide' (show lgM W H cor (j % W) (j / W) (3 * a + b) = true ↔ (0 ≤ xa ∧ xa < W ∧ 0 ≤ yb ∧ yb < H ∧ (b = 1 ∨ a = 1 ∨ cor = true)) from by
                      rw [lg_iff, show (3 * a + b) % 3 = b by omega, show (3 * a + b) / 3 = a by omega, HX.out.1, HX.out.2]
                      have h1 := HDY.out
                      have h2 := HDX.out
                      constructor
                      · rintro ⟨p1, p2, p3, p4, p5⟩; exact ⟨by omega, by omega, by omega, by omega, p5⟩
                      · rintro ⟨p1, p2, p3, p4, p5⟩; exact ⟨by omega, by omega, by omega, by omega, p5⟩)
                    have SKP := hide' (fun h => IN.out.skip h)
                    obtain ⟨lg, hlg⟩ : ∃ t, lgM W H cor (j % W) (j / W) (3 * a + b) = t := ⟨_, rfl⟩
                    rw [hlg] at LG SKP
                    go_upto_region 28 with fail
                    go_cut [121] (fun sv wx => sv = .bool (!lg) ∧ wx = wr)
                    case first =>
                      have ab := HDX.out
                      have aa := HDY.out
                      clear hxa hyb
                      by_cases c1 : xa < 0
                      · have E : lg = false := by rw [Bool.eq_false_iff]; intro h; have := LG.out.1 h; omega
                        clear LG SKP ab aa
                        go_wp2_with fail
                        go_meet
                        exact ⟨by rw [E]; rfl, rfl⟩
                      · by_cases c2 : (W : Int) ≤ xa
                        · have E : lg = false := by rw [Bool.eq_false_iff]; intro h; have := LG.out.1 h; omega
                          clear LG SKP ab aa
                          go_wp2_with fail
                          go_meet
                          exact ⟨by rw [E]; rfl, rfl⟩
                        · by_cases c3 : yb < 0
                          · have E : lg = false := by rw [Bool.eq_false_iff]; intro h; have := LG.out.1 h; omega
                            clear LG SKP ab aa
                            go_wp2_with fail
                            go_meet
                            exact ⟨by rw [E]; rfl, rfl⟩
                          · by_cases c4 : (H : Int) ≤ yb
                            · have E : lg = false := by rw [Bool.eq_false_iff]; intro h; have := LG.out.1 h; omega
                              clear LG SKP ab aa
                              go_wp2_with fail
                              go_meet
                              exact ⟨by rw [E]; rfl, rfl⟩
                            · by_cases e1 : b = 1
                              · have E : lg = true := LG.out.2 ⟨by omega, by omega, by omega, by omega, Or.inl e1⟩
                                obtain rfl : dx = 0 := by omega
                                clear LG SKP ab aa e1
                                go_wp2_with fail
                                go_meet
                                exact ⟨by rw [E]; rfl, rfl⟩
                              · have x1 : (dx == 0) = false := by simp; omega
                                have x2 : (dx != 0) = true := by simp; omega
                                by_cases e2 : a = 1
                                · have E : lg = true := LG.out.2 ⟨by omega, by omega, by omega, by omega, Or.inr (Or.inl e2)⟩
                                  obtain rfl : dy = 0 := by omega
                                  clear LG SKP ab aa e1 e2
                                  go_wp2_with fail
                                  go_meet
                                  exact ⟨by rw [E]; rfl, rfl⟩
                                · have y1 : (dy == 0) = false := by simp; omega
                                  have y2 : (dy != 0) = true := by simp; omega
                                  have E : lg = cor := by
                                    rw [Bool.eq_iff_iff, LG.out]
                                    constructor
                                    · rintro ⟨_, _, _, _, q⟩
                                      rcases q with q | q | q
                                      · exact absurd q e1
                                      · exact absurd q e2
                                      · exact q
                                    · intro q
                                      exact ⟨by omega, by omega, by omega, by omega, Or.inr (Or.inr q)⟩
                                  clear LG SKP ab aa e1 e2
                                  go_wp2_with fail
                                  go_meet
                                  exact ⟨by rw [E], rfl⟩
                    rename_i hcut
                    obtain ⟨rfl, hw⟩ := hcut
                    rw [hw]
                    clear hw
                    cases lg with
                    | false =>
                      have IN2 := hide' (SKP.out (fun h => by cases h))
                      clear LG SKP hlg IN hxa hyb
                      have ex := HDX.out
                      go_wp2
                      exact ⟨⟨b + 1, m, oa, oc, R, l, rfl, by rw [← ex]; go_num, by omega, hm, HM, IN2⟩, by simp [intOf]; omega⟩
                    | true =>
                      obtain ⟨p1, p2, p3, p4, _⟩ := LG.out.1 rfl
                      have PL := hide' (show plM W (j % W) (j / W) (3 * a + b) < W * H from pl_lt hlg)
                      have ek : yb * (W : Int) + xa = ((plM W (j % W) (j / W) (3 * a + b) : Nat) : Int) := by
                        unfold plM
                        rw [show (3 * a + b) % 3 = b by omega, show (3 * a + b) / 3 = a by omega, HX.out.1, HX.out.2]
                        have h1 := HDY.out
                        have h2 := HDX.out
                        rw [show yb = ((y + a - 1 : Nat) : Int) by omega, show xa = ((x + b - 1 : Nat) : Int) by omega]
                        push_cast
                        rfl
                      obtain ⟨kk, hkk⟩ : ∃ kk, plM W (j % W) (j / W) (3 * a + b) = kk := ⟨_, rfl⟩
                      rw [hkk] at PL ek
                      have kN : kk < N := by have := PL.out; rw [EN.out] at this; exact this
                      have kI : (kk : Int) < (N : Int) := by omega
                      have kk0 : (0 : Int) ≤ (kk : Int) := by omega
                      have yw : yb * (W : Int) ≤ 36 := by
                        have h1 : yb ≤ 6 := by omega
                        have h2 : (W : Int) ≤ 6 := by omega
                        exact Int.le_trans (Int.mul_le_mul h1 h2 (by omega) (by omega)) (by decide)
                      have yw0 : 0 ≤ yb * (W : Int) := Int.mul_nonneg p3 (by omega)
                      obtain ⟨pw, hpw⟩ : ∃ v : Int, yb * (W : Int) = v := ⟨_, rfl⟩
                      rw [hpw] at ek yw yw0
                      have cin : wr.cell? ⟨ib, kk, none⟩ = some (.bool (decide (s / 2 ^ kk % 2 = 1))) := IN.out.ld.inr.cell PL.out
                      have lin := IN.out.ld.inr.lt
                      have cwe : wr.cell? ⟨wb, kk, none⟩ = some (.bool (R kk)) := IN.out.ld.wet.cell PL.out
                      have fwe := IN.out.ld.wet.frozen kk
                      have lwe := IN.out.ld.wet.lt
                      have ex := HDX.out
                      have HLG := hide' hlg
                      have HKK := hide' hkk
                      clear hlg hkk LG hxa hyb
                      by_cases bt : s / 2 ^ kk % 2 = 1
                      · rw [decide_eq_true bt] at cin
                        cases hr : R kk with
                        | true =>
                          rw [hr] at cwe
                          have IN2 := hide' (SKP.out (fun _ _ => by rw [HKK.out]; exact hr))
                          clear SKP IN bt hr
                          go_wp2
                          exact ⟨⟨b + 1, m, oa, oc, R, l, rfl, by rw [← ex]; go_num, by omega, hm, HM, IN2⟩, by simp [intOf]; omega⟩
                        | false =>
                          rw [hr] at cwe
                          obtain ⟨V2, hV2⟩ : ∃ V2, wr.setCell ⟨wb, kk, none⟩ (.bool true) = V2 := ⟨_, rfl⟩
                          obtain ⟨V3, hV3⟩ : ∃ V3, V2.alloc (.cells #[.int .i64 (kk : Int)] 3) = V3 := ⟨_, rfl⟩
                          have NB := hide' (show ∀ j u, [Value.int .i64 (kk : Int)][j]? = some u → V3.cell? ((⟨V2.heap.size, 0, none⟩ : Addr).add j) = some u from World.news_of_block (cs := #[.int .i64 (kk : Int)]) (by rw [← hV3]; exact heap_alloc_new _ _))
                          have L3 := hide' (show LdW w V3 B ib wb (W * H) (fun j => decide (s / 2 ^ j % 2 = 1)) (fun q => if q = kk then true else R q) l (.slice oa m oc) by rw [← hV3, ← hV2]; exact (IN.out.ld.setR kk true).alloc _)
                          have O3 := hide' (show V3.ownsRow B 3 1 (.slice oa m oc) m (iL l) by have := L3.out.own; rw [← HM.out] at this; exact this)
                          have SZ := hide' L3.out.size
                          have FIN := hide' (fun (w5 : World) (v' : Value) (hown : w5.ownsRow B 3 1 v' (m + 1) (iL l ++ [.int .i64 (kk : Int)])) (hgr : V3.grownBy w5 (Value.slice oa m oc).ownBlock) => show InR w w5 B ib wb W H cor s i j (3 * a + b + 1) (fun q => if q = kk then true else R q) (l ++ [kk]) v' from by
                            have hl := L3.out.app hgr (k := kk) (by rw [← HM.out]; exact hown)
                            have := IN.out.add (by omega) HLG.out (by rw [HKK.out]; exact bt) (by rw [HKK.out]; exact hr) (by rw [HKK.out]; exact hl)
                            rw [HKK.out] at this
                            exact this)
                          have M2 := hide' (show m + 1 = (l ++ [kk]).length by rw [List.length_append, ← HM.out]; rfl)
                          have ML := hide' (fun (w5 : World) v' (h : InR w w5 B ib wb W H cor s i j (3 * a + b + 1) (fun q => if q = kk then true else R q) (l ++ [kk]) v') => show m + 1 ≤ 16 from by have := h.se.len; rw [← M2.out, EN.out] at this; omega)
                          clear SKP IN bt hr L3
                          go_wp2_with (at_builtin; go_loud (refine wpList_append_lies _ rfl _ _ 23 rfl B 3 i0 _ 1 8 Tryd.underlying23 hi0 hz0 hz1 hz2 rfl (by decide) (.slice oa m oc) m (iL l) rfl O3.out ⟨V2.heap.size, 0, none⟩ 1 1 [.int .i64 (kk : Int)] rfl rfl NB.out (fun u hu => by simp at hu; rw [hu]; rfl) (by omega) (by unfold maxLen; omega) (by omega) SZ.out V3.heap.size rfl ?_; intro g5 cap5 w5 hown hgr hat hlt; go_frame))
                          have FX := hide' (FIN.out w5 _ hown hgr)
                          exact ⟨⟨b + 1, m + 1, some ⟨g5, 0, none⟩, cap5, _, _, rfl, by rw [← ex]; go_num, by omega, ML.out _ _ FX.out, M2, FX⟩, by simp [intOf]; omega⟩
                      · rw [decide_eq_false bt] at cin
                        have IN2 := hide' (SKP.out (fun _ h => absurd (by rw [HKK.out] at h; exact h) bt))
                        clear SKP IN bt
                        go_wp2
                        exact ⟨⟨b + 1, m, oa, oc, R, l, rfl, by rw [← ex]; go_num, by omega, hm, HM, IN2⟩, by simp [intOf]; omega⟩
                  · obtain rfl : b = 3 := by omega
                    have IN2 := hide' (show InR w wr B ib wb W H cor s i j (3 * (a + 1)) R l (.slice oa m oc) from by have := IN.out; rw [show 3 * a + 3 = 3 * (a + 1) by omega] at this; exact this)
                    have ey := HDY.out
                    clear IN
                    go_wp2
                    exact ⟨⟨a + 1, m, oa, oc, R, l, rfl, by rw [← ey]; go_num, by omega, hm, HM, IN2⟩, by simp [intOf]; omega⟩
              · obtain rfl : a = 3 := by omega
                have SE2 := hide' (IN.out.se.next IN.out.at' IN.out.hd)
                have LD2 := hide' IN.out.ld
                have NL2 := hide' (fun k (hk : k < i + 1) j' (e : l[k]? = some j') => show j' / W ≠ H - 1 from by
                  by_cases q : k = i
                  · rw [q, IN.out.at'] at e
                    rw [← Option.some.inj e]
                    exact LH.out
                  · exact IN.out.nl k (by omega) j' e)
                have im : i + 1 ≤ m := by have := IN.out.lt; have := HM.out; omega
                clear IN
                go_wp2
                exact ⟨⟨i + 1, m, oa, oc, R, l, rfl, by go_num, im, hm, HM, LD2, SE2, NL2⟩, by simp [intOf]; omega⟩
        · have E := hide' (SE.out.no (by have := HM.out; omega) NL.out)
          have BL := hide' LD.out.below
          clear LD SE NL
          go_wp2
          go_ret
          exact ⟨by rw [E.out]; rfl, BL.out⟩
end Go.Proofs.YtopcgkncmhhkmaaDoor

