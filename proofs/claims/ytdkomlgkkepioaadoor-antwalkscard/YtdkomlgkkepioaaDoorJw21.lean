/-
  What the last text of this claim leans on, part 21: Ad3, Ac4, Af7.
-/
import Derived.Test.YtdkomlgkkepioaaDoorJw15
import Derived.Test.YtdkomlgkkepioaaDoorJw20
import Derived.Test.YtdkomlgkkepioaaDoorJw16
import Derived.Test.YtdkomlgkkepioaaDoorJw18
import Derived.Test.YtdkomlgkkepioaaDoorJw19
namespace Go.Proofs.YtdkomlgkkepioaaDoor
open Go.RowKit
set_option linter.unusedVariables false
theorem backA_near (T : Nat → Bool) (L : Nat) (s : AntS) (h : -1000000 ≤ s.x ∧ s.x ≤ 1000000 ∧ -1000000 ≤ s.y ∧ s.y ≤ 1000000) : ∀ i : Nat, -1000000 - (i : Int) ≤ (backA T L s i).x ∧ (backA T L s i).x ≤ 1000000 + (i : Int) ∧ -1000000 - (i : Int) ≤ (backA T L s i).y ∧ (backA T L s i).y ≤ 1000000 + (i : Int)
  | 0 => by show _ ≤ s.x ∧ s.x ≤ _ ∧ _ ≤ s.y ∧ s.y ≤ _; simpa using h
  | i + 1 => by
    have ih := backA_near T L s h i
    have dx := dx_near (backA T L s i).d
    have dy := dy_near (backA T L s i).d
    rw [backA]
    unfold undoA
    simp only
    push_cast
    omega
set_option maxRecDepth 100000 in
set_option maxHeartbeats 12800000 in
theorem antBack_good (o : Out) (a : Option Addr) (n c : Nat) (xs : List SpotT) (b : Option Addr) (m e : Nat) (x y : Int) (d k : Nat) (w : World) (hR : ArgR w o a n c) (hS : ArgS w xs b m e) (hok : AntOk o xs x y (d : Int) (k : Int)) :
    Calls Tryd.prog 28 #[.agg #[.int .i64 o.kind, .int .i64 o.born, .int .i64 o.stay, .int .i64 o.states, .int .i64 o.radius, .slice a n c, .string o.turns], .slice b m e, .agg #[.int .i64 x, .int .i64 y, .int .i64 (d : Int)], .int .i64 (k : Int)] w fun e' w' => ∃ ys g q, e' = .returned (.tuple #[.slice (some ⟨g, 0, none⟩) ys.length q, .agg #[.int .i64 (backA (trB o.turns) o.turns.size ⟨colT xs m, x, y, d⟩ k).x, .int .i64 (backA (trB o.turns) o.turns.size ⟨colT xs m, x, y, d⟩ k).y, .int .i64 ((backA (trB o.turns) o.turns.size ⟨colT xs m, x, y, d⟩ k).d : Int)], .nilIface]) ∧ ArgS w' ys (some ⟨g, 0, none⟩) ys.length q ∧ SpotsOut (backA (trB o.turns) o.turns.size ⟨colT xs m, x, y, d⟩ k).col ys ∧ Below w.heap.size w w' := by
  obtain ⟨hg, k3, sE, hxy, dn0, dn3, kn0, kn1⟩ := hok
  have hok : AntOk o xs x y (d : Int) (k : Int) := ⟨hg, k3, sE, hxy, dn0, dn3, kn0, kn1⟩
  obtain ⟨L1, L26, -⟩ : turnsP o.turns := by
    rcases hg with ⟨h, _⟩ | ⟨h, _⟩ | ⟨_, h, _⟩
    · omega
    · omega
    · exact h
  have ml := hS.len
  have mb' : m ≤ 4000004000001 := by rw [ml]; exact spots_few sE
  have d4 : d < 4 := by omega
  obtain ⟨w1, hw1⟩ : ∃ w1, ((w.alloc (.cells #[.int .i64 o.kind, .int .i64 o.born, .int .i64 o.stay, .int .i64 o.states, .int .i64 o.radius, .slice a n c, .string o.turns] 24)).alloc (.cells #[.int .i64 x, .int .i64 y, .int .i64 (d : Int)] 50)).alloc (.cells #[.int .i64 0, .int .i64 0, .int .i64 0] 50) = w1 := ⟨_, rfl⟩
  have BB := hide' (show Below w.heap.size w w1 by rw [← hw1]; repeat (first | exact Below.refl _ _ | refine Below.alloc ?_ (by simp; try omega) _))
  have g0 : w1.heap[w.heap.size]? = some (.cells #[.int .i64 o.kind, .int .i64 o.born, .int .i64 o.stay, .int .i64 o.states, .int .i64 o.radius, .slice a n c, .string o.turns] 24 (0, 0)) := by rw [← hw1, Below.heap_alloc _ _ _ (by simp; try omega), Below.heap_alloc _ _ _ (by simp; try omega)]; exact heap_atX _ _ _ (by simp)
  have g1 : w1.heap[w.heap.size + 1]? = some (.cells #[.int .i64 x, .int .i64 y, .int .i64 (d : Int)] 50 (0, 0)) := by rw [← hw1, Below.heap_alloc _ _ _ (by simp; try omega)]; exact heap_atX _ _ _ (by simp)
  have g2 : w1.heap[w.heap.size + 1 + 1]? = some (.cells #[.int .i64 0, .int .i64 0, .int .i64 0] 50 (0, 0)) := by rw [← hw1]; exact heap_atX _ _ _ (by simp)
  have z1 : w1.heap.size = w.heap.size + 1 + 1 + 1 := by rw [← hw1]; simp
  have SV := hide' (fun (V : World) (h : Below w1.heap.size w1 V) => show V.cell? ⟨w.heap.size, 0, none⟩ = some (.int .i64 o.kind) ∧ V.cell? ⟨w.heap.size, 1, none⟩ = some (.int .i64 o.born) ∧ V.cell? ⟨w.heap.size, 2, none⟩ = some (.int .i64 o.stay) ∧ V.cell? ⟨w.heap.size, 3, none⟩ = some (.int .i64 o.states) ∧ V.cell? ⟨w.heap.size, 4, none⟩ = some (.int .i64 o.radius) ∧ V.cell? ⟨w.heap.size, 5, none⟩ = some (.slice a n c) ∧ V.cell? ⟨w.heap.size, 6, none⟩ = some (.string o.turns) ∧ V.cell? ⟨w.heap.size + 1, 0, none⟩ = some (.int .i64 x) ∧ V.cell? ⟨w.heap.size + 1, 1, none⟩ = some (.int .i64 y) ∧ V.cell? ⟨w.heap.size + 1, 2, none⟩ = some (.int .i64 (d : Int)) from by
    have e1 := (h.block _ (lt_of_block g0)).trans g0
    have e2 := (h.block _ (lt_of_block g1)).trans g1
    exact ⟨cell_of_row V _ 0 _ _ _ e1, cell_of_row V _ 1 _ _ _ e1, cell_of_row V _ 2 _ _ _ e1, cell_of_row V _ 3 _ _ _ e1, cell_of_row V _ 4 _ _ _ e1, cell_of_row V _ 5 _ _ _ e1, cell_of_row V _ 6 _ _ _ e1, cell_of_row V _ 0 _ _ _ e2, cell_of_row V _ 1 _ _ _ e2, cell_of_row V _ 2 _ _ _ e2⟩)
  have RS := hide' (fun (V : World) (h : Below w1.heap.size w1 V) => show V.heap[w.heap.size + 1 + 1]? = some (.cells #[.int .i64 0, .int .i64 0, .int .i64 0] 50 (0, 0)) from (h.block _ (lt_of_block g2)).trans g2)
  have BW := hide' (fun (V : World) (h : Below w1.heap.size w1 V) => BB.out.trans (h.mono BB.out.size))
  have CK := hide' (checkWalk_any o a n c xs b m e x y (d : Int) (k : Int) w1 (hR.below BB.out) (hS.below BB.out))
  have BG' := hide' (fun (V : World) (h : Below w1.heap.size w1 V) => begin_any o.turns xs b m e x y d V (hS.below (BW.out V h)) L1 L26 sE hxy d4)
  have HOK := hide' hok
  have XY := hide' (near_iff hxy)
  obtain ⟨T, hT⟩ : ∃ T, trB o.turns = T := ⟨_, rfl⟩
  obtain ⟨L, hL⟩ : ∃ L, o.turns.size = L := ⟨_, rfl⟩
  obtain ⟨S0, hS0⟩ : ∃ S0 : AntS, S0 = ⟨colT xs m, x, y, d⟩ := ⟨_, rfl⟩
  rw [hT, hL, ← hS0] at BG' ⊢
  rw [hL] at L26
  have X0 := hide' (show -1000000 ≤ S0.x ∧ S0.x ≤ 1000000 ∧ -1000000 ≤ S0.y ∧ S0.y ≤ 1000000 by rw [hS0]; exact XY.out)
  have kl : k ≤ 100000 := by omega
  obtain ⟨c0, c1, c2, c3, c4, c5, c6, d0, d1, d2⟩ := SV.out w1 (Below.refl _ _)
  clear hR hS g0 g1 g2 hok hg k3 sE hxy hT hL hS0 dn0 dn3 kn0 kn1 XY L1 ml
  go_enter Tryd.func28, Tryd.ntmps28
  go_upto_region 1 with fail
  clear hw1
  go_wp2_with fail
  refine CK.out.mono ?_
  rintro e' w2 ⟨f, hf, rfl, b2⟩
  have f0 : f = 0 := by
    obtain ⟨q1, q2, q3, q4⟩ := HOK.out
    rcases hf with ⟨h1, _⟩ | ⟨_, h1, _⟩ | ⟨_, _, h1, h⟩ | ⟨_, _, _, h1, _⟩ | ⟨_, h⟩
    · exact absurd q1 h1
    · exact absurd q2 h1
    · exact absurd q3 h1
    · exact absurd q4 h1
    · exact h
  subst f0
  rw [show errOf 0 = .nilIface from rfl]
  have C2 := hide' b2
  clear c0 c1 c2 c3 c4 c5 c6 d0 d1 d2 hf b2
  obtain ⟨c0, c1, c2, c3, c4, c5, c6, d0, d1, d2⟩ := SV.out w2 C2.out
  go_wp2_with fail
  refine (BG'.out w2 C2.out).mono ?_
  rintro e' w3 ⟨kb, tb, mb, rfl, wk, ⟨ge1, ge2, ge3⟩, b3⟩
  have C3 := hide' (C2.out.trans (b3.mono C2.out.size))
  have WK0 := hide' wk
  have s2 := C2.out.size
  clear c0 c1 c2 c3 c4 c5 c6 d0 d1 d2 wk b3
  go_wp2
  go_loopw [28] (fun iv wr => ∃ i : Nat, iv = .int .i64 (i : Int) ∧ i ≤ k ∧ Hid (WK wr kb tb mb (m + i) L T (backA T L S0 i)) ∧ Hid (Below w1.heap.size w1 wr)) (fun iv _ => ((k : Int) - intOf iv).toNat)
  case atStart => exact ⟨0, by go_num, by omega, WK0, C3⟩
  case round =>
    obtain ⟨i, rfl, hi, HW, HB⟩ := hrel
    have NR := backA_near T L S0 X0.out i
    by_cases di : (i : Int) < (k : Int)
    · have ST := hide' (undo_anyA kb tb mb (m + i) L w1.heap.size T (backA T L S0 i) wr HW.out (by omega) (by omega) L26 (by omega) ⟨by omega, by omega, by omega⟩)
      clear NR
      go_wp2_with fail
      refine ST.out.mono ?_
      rintro e' w4 ⟨rfl, wk4, b4⟩
      have W4 := hide' (show WK w4 kb tb mb (m + (i + 1)) L T (backA T L S0 (i + 1)) from wk4)
      have B4 := hide' (HB.out.trans b4)
      clear wk4 b4
      go_wp2
      exact ⟨⟨i + 1, by go_num, by omega, W4, B4⟩, by simp [intOf]; omega⟩
    · have ik : i = k := by omega
      have HW' := HW.out
      rw [ik] at HW' NR
      have SP := hide' (spots_anyA kb tb mb (m + k) L T (backA T L S0 k) wr HW' (by omega))
      have WB := hide' HW'.bl
      have D4 := hide' HW'.ok.d
      have LT := hide' HW'.lt
      obtain ⟨st, hst⟩ : ∃ st, backA T L S0 k = st := ⟨_, rfl⟩
      rw [hst] at SP WB D4 NR
      have NRH := hide' NR
      have HST := hide' hst
      clear HW HW' hst ik NR
      go_wp2_with fail
      refine SP.out.mono ?_
      rintro e' w5 ⟨ys, g, q, rfl, ay, so, ⟨-, gge⟩, b5⟩
      have C5 := hide' (HB.out.trans (b5.mono HB.out.size))
      have WB5 := hide' (show WkB w5 kb tb mb L st.x st.y st.d from by
        obtain ⟨ra, ia, rd, id, hb, i1⟩ := WB.out.blk
        exact ⟨ra, ia, rd, id, (b5.block kb LT.out.1).trans hb, i1⟩)
      have WC := hide' (walker_any kb tb mb L st.d st.x st.y w5 WB5.out D4.out (by have := NRH.out; unfold inC; omega) (by have := NRH.out; unfold inC; omega))
      have AY := hide' ay
      have SO := hide' so
      clear ay so b5
      go_wp2_with fail
      refine WC.out.mono ?_
      rintro e' w6 ⟨rfl, b6⟩
      have C6 := hide' (C5.out.trans (b6.mono C5.out.size))
      have AY6 := hide' (AY.out.below b6)
      have e2 := RS.out w6 C6.out
      have r0 := cell_of_row w6 _ 0 _ _ _ e2
      have r1 := cell_of_row w6 _ 1 _ _ _ e2
      have r2 := cell_of_row w6 _ 2 _ _ _ e2
      simp at r0 r1 r2
      have f0 := frozen_of_row w6 _ 0 _ _ e2
      have f1 := frozen_of_row w6 _ 1 _ _ e2
      have f2 := frozen_of_row w6 _ 2 _ _ e2
      have l2 := lt_of_block e2
      have HBS := HB.out.size
      have gn : g ≠ w.heap.size + 1 + 1 := by omega
      have FIN := hide' (show ArgS ((((w6.setCell ⟨w.heap.size + 1 + 1, 0, none⟩ (.int .i64 st.x)).setCell ⟨w.heap.size + 1 + 1, 1, none⟩ (.int .i64 st.y)).setCell ⟨w.heap.size + 1 + 1, 2, none⟩ (.int .i64 (st.d : Int)))) ys (some ⟨g, 0, none⟩) ys.length q from
        ⟨rfl, AY6.out.max, fun k hk => by
          obtain ⟨g', off, e', hg', p0, p1, p2⟩ := AY6.out.cells k hk
          cases e'
          have hb : (((w6.setCell ⟨w.heap.size + 1 + 1, 0, none⟩ (.int .i64 st.x)).setCell ⟨w.heap.size + 1 + 1, 1, none⟩ (.int .i64 st.y)).setCell ⟨w.heap.size + 1 + 1, 2, none⟩ (.int .i64 (st.d : Int))).heap[g]? = w6.heap[g]? := by
            rw [Below.heap_setCell _ _ _ _ (by simpa using gn), Below.heap_setCell _ _ _ _ (by simpa using gn), Below.heap_setCell _ _ _ _ (by simpa using gn)]
          exact ⟨g, 0, rfl, by rw [World.size_setCell, World.size_setCell, World.size_setCell]; exact hg', (World.cell?_of_block (w := w6) (a := ⟨g, 0 + k * 3, none⟩) hb).trans p0, (World.cell?_of_block (w := w6) (a := ⟨g, 0 + k * 3 + 1, none⟩) hb).trans p1, (World.cell?_of_block (w := w6) (a := ⟨g, 0 + k * 3 + 2, none⟩) hb).trans p2⟩⟩)
      have BF := hide' ((((BW.out _ C6.out).setCell (show w.heap.size ≤ (⟨w.heap.size + 1 + 1, 0, none⟩ : Addr).block by simp; omega) (.int .i64 st.x)).setCell (show w.heap.size ≤ (⟨w.heap.size + 1 + 1, 1, none⟩ : Addr).block by simp; omega) (.int .i64 st.y)).setCell (show w.heap.size ≤ (⟨w.heap.size + 1 + 1, 2, none⟩ : Addr).block by simp; omega) (.int .i64 (st.d : Int)))
      clear b6 e2 gge gn HBS
      go_wp2
      refine bodyPost_ret (v := .tuple #[.slice (some ⟨g, 0, none⟩) ys.length q, .agg #[.int .i64 st.x, .int .i64 st.y, .int .i64 (st.d : Int)], .nilIface]) (by simp [results, Tryd.results28, go_sem, r0, r1, r2]) rfl ?_
      rw [HST.out]
      exact ⟨ys, g, q, rfl, FIN.out, SO.out, BF.out⟩
end Go.Proofs.YtdkomlgkkepioaaDoor

namespace Go.Proofs.YtdkomlgkkepioaaDoor
open Go.RowKit
set_option linter.unusedVariables false
theorem lists_eq {xs ys : List SpotT} (hl : xs.length = ys.length) (h : ∀ k (h1 : k < xs.length) (h2 : k < ys.length), xs[k] = ys[k]) : xs = ys := List.ext_getElem hl fun k h1 h2 => h k h1 h2
set_option maxRecDepth 100000 in
set_option maxHeartbeats 6400000 in
theorem spots_same (xs ys : List SpotT) (a b : Option Addr) (n c m d : Nat) (w : World) (hA : ArgS w xs a n c) (hB : ArgS w ys b m d) :
    Calls Tryd.prog 30 #[.slice a n c, .slice b m d] w fun e w' => e = .returned (.bool (decide (xs = ys))) ∧ Below w.heap.size w w' := by
  have la := hA.len
  have lb := hB.len
  have nm := hA.max
  by_cases e : n = m
  · subst e
    have HL := hide' (And.intro la lb)
    have AA := hide' hA
    have AB := hide' hB
    clear hA hB la lb
    go_enter Tryd.func30, Tryd.ntmps30
    go_wp2
    go_loopw [5] (fun iv wr => ∃ i : Nat, iv = .int .i64 (i : Int) ∧ i ≤ n ∧ Hid (Below w.heap.size w wr) ∧ Hid (∀ k (h1 : k < xs.length) (h2 : k < ys.length), k < i → xs[k] = ys[k])) (fun iv _ => ((n : Int) - intOf iv).toNat)
    case atStart => exact ⟨0, by go_num, by omega, hide' (Below.refl _ _), hide' (fun k h1 h2 h => by omega)⟩
    case round =>
      obtain ⟨i, rfl, hi, BW, HE⟩ := hrel
      by_cases di : (i : Int) < (n : Int)
      · have i1 : i < xs.length := by have := HL.out.1; omega
        have i2 : i < ys.length := by have := HL.out.2; omega
        obtain ⟨g, off, rfl, -, p0, p1, p2⟩ := (AA.out.below BW.out).cells i i1
        obtain ⟨g', off', rfl, -, q0, q1, q2⟩ := (AB.out.below BW.out).cells i i2
        obtain ⟨p, hp⟩ : ∃ p, xs[i] = p := ⟨_, rfl⟩
        obtain ⟨q, hq⟩ : ∃ q, ys[i] = q := ⟨_, rfl⟩
        rw [hp] at p0 p1 p2
        rw [hq] at q0 q1 q2
        have SE := fun V => spot_eq p q V
        have BD := hide' BW.out.drew
        have i0 : (0 : Int) ≤ (i : Int) := by omega
        have HP := hide' (And.intro hp hq)
        obtain ⟨u1, u2, u3⟩ := p
        obtain ⟨v1, v2, v3⟩ := q
        simp only at p0 p1 p2 q0 q1 q2 SE
        by_cases pq : (u1, u2, u3) = (v1, v2, v3)
        · have NE := hide' (show ∀ k (h1 : k < xs.length) (h2 : k < ys.length), k < i + 1 → xs[k] = ys[k] from fun k h1 h2 hk => by
            by_cases q : k = i
            · subst q; rw [HP.out.1, HP.out.2]; exact pq
            · exact HE.out k h1 h2 (by omega))
          have SE' := fun V => (SE V).trans (by rw [decide_eq_true pq])
          clear SE pq hp hq HE
          go_wp2
          go_region
          go_wp2
          exact ⟨⟨i + 1, by go_num, by omega, BD, NE⟩, by simp [intOf]; omega⟩
        · have NO := hide' (show decide (xs = ys) = false from decide_eq_false fun h => by subst h; exact pq (HP.out.1.symm.trans HP.out.2))
          have SE' := fun V => (SE V).trans (by rw [decide_eq_false pq])
          clear SE pq hp hq HE
          go_wp2
          go_region
          go_wp2
          go_ret
          rw [NO.out]
          exact ⟨rfl, BD.out⟩
      · have YE := hide' (show decide (xs = ys) = true from decide_eq_true (lists_eq (by have := HL.out; omega) fun k h1 h2 => HE.out k h1 h2 (by have := HL.out; omega)))
        go_wp2
        go_ret
        rw [YE.out]
        exact ⟨rfl, BW.out⟩
  · have NO := hide' (show decide (xs = ys) = false from decide_eq_false fun h => by subst h; omega)
    have nn : ((n : Int) == (m : Int)) = false := by simp; omega
    have ni : ¬ (n : Int) = (m : Int) := by omega
    clear hA hB la lb e
    go_enter Tryd.func30, Tryd.ntmps30
    go_wp2
    go_ret
    rw [NO.out]
    exact ⟨rfl, Below.refl _ _⟩
end Go.Proofs.YtdkomlgkkepioaaDoor

namespace Go.Proofs.YtdkomlgkkepioaaDoor
open Go.RowKit
set_option linter.unusedVariables false
theorem ahead_fwd (x y : Int) (d : Nat) (hd : d < 4) (w : World) (hx : inC x) (hy : inC y) : Calls Tryd.prog 73 #[.agg #[.int .i64 x, .int .i64 y, .int .i64 (d : Int)], .int .i64 1] w fun e w' => e = .returned (.agg #[.int .i64 (x + dxA d), .int .i64 (y + dyA d), .int .i64 (d : Int)]) ∧ Below w.heap.size w w' := by
  rcases (show d = 0 ∨ d = 1 ∨ d = 2 ∨ d = 3 by omega) with rfl | rfl | rfl | rfl
  · refine (ahead_0p x y w hx hy).mono ?_
    rintro e w' ⟨rfl, b⟩
    refine ⟨?_, b⟩
    simp [dxA, dyA]; try omega
  · refine (ahead_1p x y w hx hy).mono ?_
    rintro e w' ⟨rfl, b⟩
    refine ⟨?_, b⟩
    simp [dxA, dyA]
  · refine (ahead_2p x y w hx hy).mono ?_
    rintro e w' ⟨rfl, b⟩
    refine ⟨?_, b⟩
    simp [dxA, dyA]
  · refine (ahead_3p x y w hx hy).mono ?_
    rintro e w' ⟨rfl, b⟩
    refine ⟨?_, b⟩
    simp [dxA, dyA]; try omega
theorem ahead_bck (x y : Int) (d : Nat) (hd : d < 4) (w : World) (hx : inC x) (hy : inC y) : Calls Tryd.prog 73 #[.agg #[.int .i64 x, .int .i64 y, .int .i64 (d : Int)], .int .i64 (-1)] w fun e w' => e = .returned (.agg #[.int .i64 (x - dxA d), .int .i64 (y - dyA d), .int .i64 (d : Int)]) ∧ Below w.heap.size w w' := by
  rcases (show d = 0 ∨ d = 1 ∨ d = 2 ∨ d = 3 by omega) with rfl | rfl | rfl | rfl
  · refine (ahead_0m x y w hx hy).mono ?_
    rintro e w' ⟨rfl, b⟩
    refine ⟨?_, b⟩
    simp [dxA, dyA]
  · refine (ahead_1m x y w hx hy).mono ?_
    rintro e w' ⟨rfl, b⟩
    refine ⟨?_, b⟩
    simp [dxA, dyA]
  · refine (ahead_2m x y w hx hy).mono ?_
    rintro e w' ⟨rfl, b⟩
    refine ⟨?_, b⟩
    simp [dxA, dyA]
  · refine (ahead_3m x y w hx hy).mono ?_
    rintro e w' ⟨rfl, b⟩
    refine ⟨?_, b⟩
    simp [dxA, dyA]
theorem paintL_len (x y z : Int) (l : List SpotT) : (paintL x y z l).length ≤ l.length + 1 := by
  have := find_le x y l
  unfold paintL
  split <;> simp <;> omega
/-- A list of one's own, as a list that may be read. -/
theorem own_args {w : World} {base : Nat} {v : Value} {ys : List SpotT} (h : w.ownsRow base 136 3 v ys.length (flS ys)) : ∃ a c, v = .slice a ys.length c ∧ ArgS w ys a ys.length c ∧ ys.length ≤ c ∧ c ≤ 9223372036854775807 ∧ (a = none → c = 0) ∧ (∀ ad, a = some ad → ∃ g, ad = ⟨g, 0, none⟩ ∧ base ≤ g) := by
  rcases h.2 with ⟨rfl, hl⟩ | ⟨g, cap, cur, rfl, hb, hg, hn, hm, hs, ht⟩
  · obtain rfl : ys = [] := List.eq_nil_of_length_eq_zero hl
    exact ⟨none, 0, rfl, ArgS.nothing _ _ _, by simp, by omega, fun _ => rfl, fun ad h => by cases h⟩
  · have cm : cap ≤ 9223372036854775807 := by unfold maxLen at hm; omega
    refine ⟨some ⟨g, 0, none⟩, cap, rfl, ⟨rfl, by omega, fun k hk => ?_⟩, hn, cm, (fun h => by cases h), fun ad h => ⟨g, by cases h; rfl, hb⟩⟩
    have cl : ∀ i (hi : i < 3), w.cell? ⟨g, k * 3 + i, none⟩ = (encS ys[k])[i]? := fun i hi => by
      rw [cell_of_row w _ _ _ _ _ hg, ← flS_get ys k i hk hi, ← ht, List.getElem?_take_of_lt (by omega), Array.getElem?_toList]
    refine ⟨g, 0, rfl, lt_of_block hg, ?_, ?_, ?_⟩
    · rw [Nat.zero_add]; exact cl 0 (by omega)
    · rw [Nat.zero_add]; exact cl 1 (by omega)
    · rw [Nat.zero_add]; exact cl 2 (by omega)
theorem own_base {w : World} {base base' : Nat} {e : TypeId} {size n : Nat} {v : Value} {xs : List Value} (h : w.ownsRow base e size v n xs) (hb : base' ≤ base) : w.ownsRow base' e size v n xs := by
  refine ⟨h.1, ?_⟩
  rcases h.2 with q | ⟨g, cap, cur, e1, h1, h2⟩
  · exact Or.inl q
  · exact Or.inr ⟨g, cap, cur, e1, Nat.le_trans hb h1, h2⟩
theorem own_keep {w V : World} {base : Nat} {e : TypeId} {size n : Nat} {v : Value} {xs : List Value} (h : w.ownsRow base e size v n xs) (hk : ∀ j, base ≤ j → j < w.heap.size → V.heap[j]? = w.heap[j]?) : V.ownsRow base e size v n xs := by
  refine ⟨h.1, ?_⟩
  rcases h.2 with q | ⟨g, cap, cur, e1, h1, h2, h3⟩
  · exact Or.inl q
  · exact Or.inr ⟨g, cap, cur, e1, h1, (hk g h1 (lt_of_block h2)).trans h2, h3⟩
/-- What stands while it runs. -/
structure RunS (w wr : World) (o : Out) (a : Option Addr) (n c : Nat) (x y : Int) (d : Nat) (v : Value) (ys : List SpotT) : Prop where
  be : Below w.heap.size w wr
  ru : wr.heap[w.heap.size]? = some (.cells #[.int .i64 o.kind, .int .i64 o.born, .int .i64 o.stay, .int .i64 o.states, .int .i64 o.radius, .slice a n c, .string o.turns] 24 (0, 0))
  wk : wr.heap[w.heap.size + 1]? = some (.cells #[.int .i64 x, .int .i64 y, .int .i64 (d : Int)] 50 (0, 0))
  rs : wr.heap[w.heap.size + 2]? = some (.cells #[.int .i64 0, .int .i64 0, .int .i64 0] 50 (0, 0))
  own : wr.ownsRow (w.heap.size + 3) 136 3 v ys.length (flS ys)
theorem RunS.sz {w wr : World} {o : Out} {a : Option Addr} {n c : Nat} {x y : Int} {d : Nat} {v : Value} {ys : List SpotT} (h : RunS w wr o a n c x y d v ys) : w.heap.size + 3 ≤ wr.heap.size := by
  have := lt_of_block h.rs
  omega
/-- Something new is made. -/
theorem RunS.below {w wr V : World} {o : Out} {a : Option Addr} {n c : Nat} {x y : Int} {d : Nat} {v : Value} {ys : List SpotT} (h : RunS w wr o a n c x y d v ys) (hb : Below wr.heap.size wr V) : RunS w V o a n c x y d v ys :=
  have z := h.sz
  ⟨h.be.trans (hb.mono (by omega)), (hb.block _ (by omega)).trans h.ru, (hb.block _ (by omega)).trans h.wk, (hb.block _ (by omega)).trans h.rs, own_keep h.own (fun j _ hj => hb.block j hj)⟩
/-- Another list. -/
theorem RunS.list {w wr V : World} {o : Out} {a : Option Addr} {n c : Nat} {x y : Int} {d : Nat} {v v' : Value} {ys zs : List SpotT} (h : RunS w wr o a n c x y d v ys) (hb : Below wr.heap.size wr V) (ho : V.ownsRow wr.heap.size 136 3 v' zs.length (flS zs)) : RunS w V o a n c x y d v' zs :=
  have z := h.sz
  ⟨h.be.trans (hb.mono (by omega)), (hb.block _ (by omega)).trans h.ru, (hb.block _ (by omega)).trans h.wk, (hb.block _ (by omega)).trans h.rs, own_base ho z⟩
/-- The walker's block is written. -/
theorem RunS.walk {w wr V : World} {o : Out} {a : Option Addr} {n c : Nat} {x y x' y' : Int} {d d' : Nat} {v : Value} {ys : List SpotT} (h : RunS w wr o a n c x y d v ys) (hb : Below w.heap.size wr V) (hk : ∀ j, j ≠ w.heap.size + 1 → V.heap[j]? = wr.heap[j]?) (hw : V.heap[w.heap.size + 1]? = some (.cells #[.int .i64 x', .int .i64 y', .int .i64 (d' : Int)] 50 (0, 0))) : RunS w V o a n c x' y' d' v ys :=
  ⟨h.be.trans hb, (hk _ (by omega)).trans h.ru, hw, (hk _ (by omega)).trans h.rs, own_keep h.own (fun j hj _ => hk j (by omega))⟩
theorem RunS.turn {w wr : World} {o : Out} {a : Option Addr} {n c : Nat} {x y : Int} {d : Nat} {v : Value} {ys : List SpotT} (h : RunS w wr o a n c x y d v ys) (d' : Nat) : RunS w (wr.setCell ⟨w.heap.size + 1, 2, none⟩ (.int .i64 (d' : Int))) o a n c x y d' v ys :=
  h.walk ((Below.refl _ _).setCell (by simp) _) (fun j hj => Below.heap_setCell _ _ _ _ (by simpa using hj)) (by rw [heap_setCell_same _ _ _ _ _ _ h.wk]; rfl)
theorem RunS.move {w wr : World} {o : Out} {a : Option Addr} {n c : Nat} {x y : Int} {d : Nat} {v : Value} {ys : List SpotT} (h : RunS w wr o a n c x y d v ys) (x' y' : Int) (d' : Nat) : RunS w (((wr.setCell ⟨w.heap.size + 1, 0, none⟩ (.int .i64 x')).setCell ⟨w.heap.size + 1, 1, none⟩ (.int .i64 y')).setCell ⟨w.heap.size + 1, 2, none⟩ (.int .i64 (d' : Int))) o a n c x' y' d' v ys := by
  have e1 := heap_setCell_same wr (w.heap.size + 1) 0 _ _ (.int .i64 x') h.wk
  have e2 := heap_setCell_same _ (w.heap.size + 1) 1 _ _ (.int .i64 y') e1
  have e3 := heap_setCell_same _ (w.heap.size + 1) 2 _ _ (.int .i64 (d' : Int)) e2
  exact h.walk ((((Below.refl _ _).setCell (by simp) _).setCell (by simp) _).setCell (by simp) _) (fun j hj => ((Below.heap_setCell _ _ _ _ (by simpa using hj)).trans (Below.heap_setCell _ _ _ _ (by simpa using hj))).trans (Below.heap_setCell _ _ _ _ (by simpa using hj))) (by rw [e3]; rfl)
theorem RunS.drew {w wr : World} {o : Out} {a : Option Addr} {n c : Nat} {x y : Int} {d : Nat} {v : Value} {ys : List SpotT} (h : RunS w wr o a n c x y d v ys) : RunS w wr.drew o a n c x y d v ys := h.below (Below.refl _ _).drew
end Go.Proofs.YtdkomlgkkepioaaDoor

