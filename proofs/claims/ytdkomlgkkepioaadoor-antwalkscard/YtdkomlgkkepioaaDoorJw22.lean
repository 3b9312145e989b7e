/-
  What the last text of this claim leans on, part 22: Af9, Ac1.
-/
import Derived.Test.YtdkomlgkkepioaaDoorJw21
import Derived.Test.YtdkomlgkkepioaaDoorJw15
import Derived.Deep.RegionHeld3
import Derived.Deep.CutRange
namespace Go.Proofs.YtdkomlgkkepioaaDoor
open Go.RowKit
set_option linter.unusedVariables false
/-- What edenref5.Run answers. -/
def RefB (st : AntS) (w : World) (e : Ending) (w' : World) : Prop := ∃ ys b q, e = .returned (.tuple #[.slice b ys.length q, .agg #[.int .i64 st.x, .int .i64 st.y, .int .i64 (st.d : Int)]]) ∧ ArgS w' ys b ys.length q ∧ SpotsOut st.col ys ∧ Below w.heap.size w w'
set_option maxRecDepth 100000 in
set_option maxHeartbeats 12800000 in
theorem refRunB_any (o : Out) (a : Option Addr) (n c : Nat) (xs : List SpotT) (b : Option Addr) (m e : Nat) (x y : Int) (d k : Nat) (w : World) (hS : ArgS w xs b m e) (tp : turnsP o.turns) (sE : spotE (o.turns.size : Int) xs = 0) (hxy : nearA x y = true) (d4 : d < 4) (k5 : k ≤ 100000) (hok : OkA o.turns.size ⟨colT xs xs.length, x, y, d⟩) :
    Calls Tryd.prog 29 #[.agg #[.int .i64 o.kind, .int .i64 o.born, .int .i64 o.stay, .int .i64 o.states, .int .i64 o.radius, .slice a n c, .string o.turns], .slice b m e, .agg #[.int .i64 x, .int .i64 y, .int .i64 (d : Int)], .int .i64 (k : Int), .bool true] w (RefB (backA (trB o.turns) o.turns.size ⟨colT xs xs.length, x, y, d⟩ k) w) := by
  obtain ⟨s0, hs0⟩ : ∃ s0, (⟨colT xs xs.length, x, y, d⟩ : AntS) = s0 := ⟨_, rfl⟩
  rw [hs0] at hok ⊢
  have few := spots_few sE
  have SO := hide' (show SpotsOut s0.col xs by rw [← hs0]; exact spots_self sE)
  have NE := hide' (show ∀ i : Nat, i ≤ k → inC (backA (trB o.turns) o.turns.size s0 i).x ∧ inC (backA (trB o.turns) o.turns.size s0 i).y ∧ inC ((backA (trB o.turns) o.turns.size s0 i).x - dxA (backA (trB o.turns) o.turns.size s0 i).d) ∧ inC ((backA (trB o.turns) o.turns.size s0 i).y - dyA (backA (trB o.turns) o.turns.size s0 i).d) from fun i hi => by
    have h1 := backA_near (trB o.turns) o.turns.size s0 (by rw [← hs0]; exact near_iff hxy) i
    have h2 := dx_near (backA (trB o.turns) o.turns.size s0 i).d
    have h3 := dy_near (backA (trB o.turns) o.turns.size s0 i).d
    unfold inC
    omega)
  have OK := hide' (fun i : Nat => back_okA (t := trB o.turns) hok i)
  have S0 := hide' (show s0.x = x ∧ s0.y = y ∧ s0.d = d by rw [← hs0]; exact ⟨rfl, rfl, rfl⟩)
  have L1 := tp.1
  have L26 := tp.2.1
  have HL := hide' hS.len
  have TU := hide' tp.2.2
  obtain ⟨w1, hw1⟩ : ∃ w1, ((w.alloc (.cells #[.int .i64 o.kind, .int .i64 o.born, .int .i64 o.stay, .int .i64 o.states, .int .i64 o.radius, .slice a n c, .string o.turns] 24)).alloc (.cells #[.int .i64 x, .int .i64 y, .int .i64 (d : Int)] 50)).alloc (.cells #[.int .i64 0, .int .i64 0, .int .i64 0] 50) = w1 := ⟨_, rfl⟩
  have B1 := hide' (show Below w.heap.size w w1 by rw [← hw1]; exact (((Below.refl _ _).alloc (Nat.le_refl _) _).alloc (by simp) _).alloc (by simp; omega) _)
  have z1 : w1.heap.size = w.heap.size + 3 := by rw [← hw1]; simp
  have g0 : w1.heap[w.heap.size]? = some (.cells #[.int .i64 o.kind, .int .i64 o.born, .int .i64 o.stay, .int .i64 o.states, .int .i64 o.radius, .slice a n c, .string o.turns] 24 (0, 0)) := by rw [← hw1, Below.heap_alloc _ _ _ (by simp; omega), Below.heap_alloc _ _ _ (by simp)]; exact heap_alloc_new _ _
  have g1 : w1.heap[w.heap.size + 1]? = some (.cells #[.int .i64 x, .int .i64 y, .int .i64 (d : Int)] 50 (0, 0)) := by rw [← hw1, Below.heap_alloc _ _ _ (by simp)]; exact heap_atX _ _ _ (by simp)
  have g2 : w1.heap[w.heap.size + 2]? = some (.cells #[.int .i64 0, .int .i64 0, .int .i64 0] 50 (0, 0)) := by rw [← hw1]; exact heap_atX _ _ _ (by simp)
  have c6 := cell_of_row w1 _ 6 _ _ _ g0
  simp at c6
  have O1 := hide' (World.ownsRow_nil w1 (w.heap.size + 3) 136 3)
  have A1 := hide' (hS.below B1.out)
  have RS0 := hide' (show ∀ (V : World) (v : Value), V.ownsRow (w.heap.size + 3) 136 3 v xs.length (flS xs) → Below (w.heap.size + 3) w1 V → RunS w V o a n c x y d v xs from fun V v h1 h2 => ⟨B1.out.trans (h2.mono (by omega)), (h2.block _ (by omega)).trans g0, (h2.block _ (by omega)).trans g1, (h2.block _ (by omega)).trans g2, h1⟩)
  have Z1 := hide' z1
  clear hS tp sE hxy hok hs0 g0 g1 g2 z1
  go_enter Tryd.func29, Tryd.ntmps29
  go_upto_region 3 with fail
  clear hw1 c6
  go_upto_region 4 with (at_builtin; go_loud (refine wpList_append_spots _ rfl _ _ rfl (w.heap.size + 3) _ [] rfl O1.out xs b m e rfl A1.out (by simp; omega) w1 (Below.refl _ _) (by rw [Z1.out]; exact Nat.le_refl _) ?_; intro v1 w2 o2 b2; go_frame))
  rw [List.nil_append] at o2
  have RS2 := hide' (RS0.out w2 v1 o2 b2)
  clear o2 b2 RS0 O1 A1
  obtain ⟨L, hL⟩ : ∃ L, o.turns.size = L := ⟨_, rfl⟩
  have HLL := hide' hL
  rw [hL] at NE OK L1 L26 ⊢
  clear hL
  go_wp2
  go_loopw [13, 14] (fun nv iv wr => ∃ (i : Nat) (ys : List SpotT), iv = .int .i64 (i : Int) ∧ i ≤ k ∧ Hid (RunS w wr o a n c (backA (trB o.turns) L s0 i).x (backA (trB o.turns) L s0 i).y (backA (trB o.turns) L s0 i).d nv ys) ∧ Hid (SpotsOut (backA (trB o.turns) L s0 i).col ys ∧ ys.length ≤ 4000004000001 + i)) (fun _ iv _ => k - (intOf iv).toNat)
  case atStart =>
    refine ⟨0, xs, rfl, by omega, hide' ?_, hide' ⟨SO.out, by omega⟩⟩
    show RunS w w2 o a n c s0.x s0.y s0.d v1 xs
    rw [S0.out.1, S0.out.2.1, S0.out.2.2]
    exact RS2.out
  case round =>
    obtain ⟨i, ys, rfl, hi, RW, SW⟩ := hrel
    by_cases dk : (i : Int) < (k : Int)
    · have ne := NE.out i hi
      have ok := OK.out i
      have NX := hide' (show backA (trB o.turns) L s0 (i + 1) = undoA (trB o.turns) L (backA (trB o.turns) L s0 i) from rfl)
      obtain ⟨st, hst⟩ : ∃ st, backA (trB o.turns) L s0 i = st := ⟨_, rfl⟩
      rw [hst] at ne ok NX RW SW
      clear hst
      obtain ⟨col, sx, sy, sd⟩ := st
      have od : sd < 4 := ok.d
      have oc := ok.col
      simp only at ne oc RW SW
      obtain ⟨nx, ny, nx2, ny2⟩ := ne
      obtain ⟨px, hpx⟩ : ∃ px, sx - dxA sd = px := ⟨_, rfl⟩
      obtain ⟨py, hpy⟩ : ∃ py, sy - dyA sd = py := ⟨_, rfl⟩
      obtain ⟨q, hq⟩ : ∃ q, col px py = q := ⟨_, rfl⟩
      have AH := hide' (fun V => ahead_bck sx sy sd od V nx ny)
      rw [hpx] at nx2
      rw [hpy] at ny2
      rw [hpx, hpy] at AH
      have qL : q < L := by rw [← hq]; exact oc px py
      have CQ := hide' (show colL px py ys = (q : Int) by rw [← hq]; exact colL_is SW.out.1 nx2 ny2)
      obtain ⟨c2, hc2⟩ : ∃ c2, (q + L - 1) % L = c2 := ⟨_, rfl⟩
      have c2L : c2 < L := by rw [← hc2]; exact Nat.mod_lt _ (by omega)
      obtain ⟨dn, hdn⟩ : ∃ dn, bckA (trB o.turns) c2 sd = dn := ⟨_, rfl⟩
      have dn4 : dn < 4 := by rw [← hdn]; unfold bckA; omega
      have NS := hide' (show undoA (trB o.turns) L ⟨col, sx, sy, sd⟩ = ⟨setA col px py c2, px, py, dn⟩ by unfold undoA; simp only [hpx, hpy, hq, hc2, hdn])
      have SN := hide' (show SpotsOut (setA col px py c2) (paintL px py (c2 : Int) ys) ∧ (paintL px py (c2 : Int) ys).length ≤ 4000004000001 + (i + 1) from ⟨paint_out SW.out.1 nx2 ny2 _, by have := paintL_len px py (c2 : Int) ys; have := SW.out.2; omega⟩)
      have YL := hide' (show ys.length ≤ 4900000000000 from by have := SW.out.2; omega)
      obtain ⟨na, nc, rfl, AY, yc1, yc2, yc3, yc4⟩ := own_args RW.out.own
      have COL := hide' (fun (V : World) (hV : RunS w V o a n c px py sd (.slice na ys.length nc) ys) => show Calls Tryd.prog 74 #[.slice na ys.length nc, .int .i64 px, .int .i64 py] V fun e w' => e = .returned (.int .i64 (q : Int)) ∧ w' = V from by
        obtain ⟨a', c', e', h1, -⟩ := own_args hV.own
        cases e'
        rw [← CQ.out]
        exact refColour_any px py ys na ys.length nc V h1)
      have PA := hide' (fun (V : World) (hV : RunS w V o a n c px py sd (.slice na ys.length nc) ys) => show Calls Tryd.prog 75 #[.slice na ys.length nc, .int .i64 px, .int .i64 py, .int .i64 (c2 : Int)] V (PaintP (paintL px py (c2 : Int) ys) V) from by
        obtain ⟨a', c', e', h1, h2, h3, h4, h5⟩ := own_args hV.own
        cases e'
        exact refPaint_any px py c2 ys na ys.length nc V h1 (fun ad h => by obtain ⟨g, e, -⟩ := h5 ad h; exact ⟨g, e⟩) YL.out h2 h3 h4)
      have qs : c2 < o.turns.size := by rw [HLL.out]; exact c2L
      have tq := TU.out c2 qs
      have eb : (o.turns[c2].toNat : Int) = (bt o.turns c2 : Int) := by unfold bt; simp [qs]
      have q0 : (0 : Int) ≤ (c2 : Int) := by omega
      have q1 : (c2 : Int) < (o.turns.size : Int) := by omega
      have w0 := cell_of_row wr _ 0 _ _ _ RW.out.wk
      have w1' := cell_of_row wr _ 1 _ _ _ RW.out.wk
      have w2' := cell_of_row wr _ 2 _ _ _ RW.out.wk
      simp at w0 w1' w2'
      have wm2 : ((q : Int) + (L : Int) - 1).tmod (L : Int) = (c2 : Int) := by
        rw [show (q : Int) + (L : Int) - 1 = ((q + L - 1 : Nat) : Int) by omega, ← hc2]; rfl
      have wm : IntKind.i64.wrap (((q : Int) + (L : Int) - 1).tmod (L : Int)) = (c2 : Int) := by
        rw [wm2]
        simp [IntKind.wrap, IntKind.bits, IntKind.signed]; omega
      have Lz : ((L : Int) == 0) = false := by simp; omega
      have L0 : ¬ L = 0 := by omega
      have L9 : (L == 0) = false := by simp; omega
      have HQL := hide' qL
      have q26 : q < 26 := by omega
      clear hq hc2 oc qL yc1 yc2 yc3 yc4 AY ok nx ny nx2 ny2 hpx hpy
      have FIN := hide' (show ∀ (V : World) (v' : Value), RunS w V o a n c px py sd v' (paintL px py (c2 : Int) ys) → RunS w (V.setCell ⟨w.heap.size + 1, 2, none⟩ (.int .i64 (dn : Int))) o a n c (backA (trB o.turns) L s0 (i + 1)).x (backA (trB o.turns) L s0 (i + 1)).y (backA (trB o.turns) L s0 (i + 1)).d v' (paintL px py (c2 : Int) ys) from fun V v' h => by
        rw [NX.out, NS.out]
        exact h.turn _)
      have SFIN := hide' (show SpotsOut (backA (trB o.turns) L s0 (i + 1)).col (paintL px py (c2 : Int) ys) ∧ (paintL px py (c2 : Int) ys).length ≤ 4000004000001 + (i + 1) from by rw [NX.out, NS.out]; exact SN.out)
      by_cases t7 : bt o.turns c2 = 82
      · have rb : ((o.turns[c2].toNat : Int) == 82) = true := by rw [eb]; simp [t7]
        have ri : (o.turns[c2].toNat : Int) = 82 := by omega
        have hd' : ((sd : Int) + 3).tmod 4 = (dn : Int) := by
          rw [Int.tmod_eq_emod_of_nonneg (by omega), ← hdn]; unfold bckA trB; simp [t7]
        have hd2 : IntKind.i64.wrap (((sd : Int) + 3).tmod 4) = (dn : Int) := by rw [hd']; simp [IntKind.wrap, IntKind.bits, IntKind.signed]; omega
        clear tq hdn eb t7
        go_wp2_with fail
        refine (AH.out _).mono ?_
        rintro e7 W3 ⟨rfl, b3⟩
        have RM := hide' (RW.out.below b3)
        clear w0 w1' w2'
        have u0 := cell_of_row W3 _ 0 _ _ _ RM.out.wk
        have u1 := cell_of_row W3 _ 1 _ _ _ RM.out.wk
        have u2 := cell_of_row W3 _ 2 _ _ _ RM.out.wk
        simp at u0 u1 u2
        have f0 := frozen_of_row W3 _ 0 _ _ RM.out.wk
        have f1 := frozen_of_row W3 _ 1 _ _ RM.out.wk
        have f2 := frozen_of_row W3 _ 2 _ _ RM.out.wk
        go_upto_region 10 with fail
        obtain ⟨W4, hW4⟩ : ∃ W4, ((W3.setCell ⟨w.heap.size + 1, 0, none⟩ (.int .i64 px)).setCell ⟨w.heap.size + 1, 1, none⟩ (.int .i64 py)).setCell ⟨w.heap.size + 1, 2, none⟩ (.int .i64 (sd : Int)) = W4 := ⟨_, rfl⟩
        have R4 := hide' (show RunS w W4 o a n c px py sd (.slice na ys.length nc) ys by rw [← hW4]; exact RM.out.move _ _ _)
        rw [hW4]
        clear hW4 u0 u1 u2 f0 f1 f2
        have w0 := cell_of_row W4 _ 0 _ _ _ R4.out.wk
        have w1' := cell_of_row W4 _ 1 _ _ _ R4.out.wk
        have w2' := cell_of_row W4 _ 2 _ _ _ R4.out.wk
        simp at w0 w1' w2'
        go_wp2_with fail
        refine (COL.out _ R4.out).mono ?_
        rintro e9 w9 ⟨rfl, h9⟩
        subst h9
        go_wp2_with fail
        refine (PA.out _ R4.out).mono ?_
        rintro e8 W2 ⟨v2, rfl, o2, b2⟩
        have RL := hide' (R4.out.list b2 o2)
        clear w0 w1' w2'
        have s2 := cell_of_row W2 _ 2 _ _ _ RL.out.wk
        have s6 := cell_of_row W2 _ 6 _ _ _ RL.out.ru
        simp at s2 s6
        have f2 := frozen_of_row W2 _ 2 _ _ RL.out.wk
        go_wp2
        exact ⟨⟨i + 1, _, by go_num, by omega, hide' (FIN.out W2 v2 RL.out), SFIN⟩, by simp [intOf]; omega⟩
      · have t6 : bt o.turns c2 = 76 := by rcases tq with h | h; exact h; exact absurd h t7
        have rb : ((o.turns[c2].toNat : Int) == 82) = false := by rw [eb]; simp [t6]
        have ri : ¬ (o.turns[c2].toNat : Int) = 82 := by omega
        have hd' : ((sd : Int) + 1).tmod 4 = (dn : Int) := by
          rw [Int.tmod_eq_emod_of_nonneg (by omega), ← hdn]; unfold bckA trB; simp [t6]
        have hd2 : IntKind.i64.wrap (((sd : Int) + 1).tmod 4) = (dn : Int) := by rw [hd']; simp [IntKind.wrap, IntKind.bits, IntKind.signed]; omega
        clear tq hdn eb t7 t6
        go_wp2_with fail
        refine (AH.out _).mono ?_
        rintro e7 W3 ⟨rfl, b3⟩
        have RM := hide' (RW.out.below b3)
        clear w0 w1' w2'
        have u0 := cell_of_row W3 _ 0 _ _ _ RM.out.wk
        have u1 := cell_of_row W3 _ 1 _ _ _ RM.out.wk
        have u2 := cell_of_row W3 _ 2 _ _ _ RM.out.wk
        simp at u0 u1 u2
        have f0 := frozen_of_row W3 _ 0 _ _ RM.out.wk
        have f1 := frozen_of_row W3 _ 1 _ _ RM.out.wk
        have f2 := frozen_of_row W3 _ 2 _ _ RM.out.wk
        go_upto_region 10 with fail
        obtain ⟨W4, hW4⟩ : ∃ W4, ((W3.setCell ⟨w.heap.size + 1, 0, none⟩ (.int .i64 px)).setCell ⟨w.heap.size + 1, 1, none⟩ (.int .i64 py)).setCell ⟨w.heap.size + 1, 2, none⟩ (.int .i64 (sd : Int)) = W4 := ⟨_, rfl⟩
        have R4 := hide' (show RunS w W4 o a n c px py sd (.slice na ys.length nc) ys by rw [← hW4]; exact RM.out.move _ _ _)
        rw [hW4]
        clear hW4 u0 u1 u2 f0 f1 f2
        have w0 := cell_of_row W4 _ 0 _ _ _ R4.out.wk
        have w1' := cell_of_row W4 _ 1 _ _ _ R4.out.wk
        have w2' := cell_of_row W4 _ 2 _ _ _ R4.out.wk
        simp at w0 w1' w2'
        go_wp2_with fail
        refine (COL.out _ R4.out).mono ?_
        rintro e9 w9 ⟨rfl, h9⟩
        subst h9
        go_wp2_with fail
        refine (PA.out _ R4.out).mono ?_
        rintro e8 W2 ⟨v2, rfl, o2, b2⟩
        have RL := hide' (R4.out.list b2 o2)
        clear w0 w1' w2'
        have s2 := cell_of_row W2 _ 2 _ _ _ RL.out.wk
        have s6 := cell_of_row W2 _ 6 _ _ _ RL.out.ru
        simp at s2 s6
        have f2 := frozen_of_row W2 _ 2 _ _ RL.out.wk
        go_wp2
        exact ⟨⟨i + 1, _, by go_num, by omega, hide' (FIN.out W2 v2 RL.out), SFIN⟩, by simp [intOf]; omega⟩
    · obtain rfl : i = k := by omega
      obtain ⟨st, hst⟩ : ∃ st, backA (trB o.turns) L s0 i = st := ⟨_, rfl⟩
      have HST := hide' (show backA (trB o.turns) o.turns.size s0 i = st by rw [HLL.out]; exact hst)
      rw [hst] at RW SW
      clear hst
      obtain ⟨na, nc, rfl, AY, yc1, yc2, yc3, yc4⟩ := own_args RW.out.own
      have AYH := hide' AY
      have w0 := cell_of_row wr _ 0 _ _ _ RW.out.wk
      have w1' := cell_of_row wr _ 1 _ _ _ RW.out.wk
      have w2' := cell_of_row wr _ 2 _ _ _ RW.out.wk
      have p0 := cell_of_row wr _ 0 _ _ _ RW.out.rs
      have p1 := cell_of_row wr _ 1 _ _ _ RW.out.rs
      have p2 := cell_of_row wr _ 2 _ _ _ RW.out.rs
      have f0 := frozen_of_row wr _ 0 _ _ RW.out.rs
      have f1 := frozen_of_row wr _ 1 _ _ RW.out.rs
      have f2 := frozen_of_row wr _ 2 _ _ RW.out.rs
      simp at w0 w1' w2' p0 p1 p2
      have FINX := hide' (show ∀ V : World, (∀ j, j ≠ w.heap.size + 2 → V.heap[j]? = wr.heap[j]?) → Below w.heap.size wr V → RefB (backA (trB o.turns) o.turns.size s0 i) w (.returned (.tuple #[.slice na ys.length nc, .agg #[.int .i64 st.x, .int .i64 st.y, .int .i64 (st.d : Int)]])) V from fun V hk hb => by
        rw [HST.out]
        obtain ⟨a', c', e', h1, -⟩ := own_args (own_keep RW.out.own (fun j hj _ => hk j (by omega)))
        cases e'
        exact ⟨ys, na, nc, rfl, h1, SW.out.1, RW.out.be.trans hb⟩)
      clear AY yc1 yc2 yc3 yc4
      go_wp2
      go_region
      go_wp2
      refine bodyPost_ret (v := .tuple #[.slice na ys.length nc, .agg #[.int .i64 st.x, .int .i64 st.y, .int .i64 (st.d : Int)]]) (by simp [results, Tryd.results29, go_sem, p0, p1, p2]) rfl ?_
      refine FINX.out _ (fun j hj => ?_) ?_
      · exact ((Below.heap_setCell _ _ _ _ (by simpa using hj)).trans (Below.heap_setCell _ _ _ _ (by simpa using hj))).trans (Below.heap_setCell _ _ _ _ (by simpa using hj))
      · exact ((((Below.refl _ _).setCell (by simp; omega) _).setCell (by simp; omega) _).setCell (by simp; omega) _).drew
end Go.Proofs.YtdkomlgkkepioaaDoor

namespace Go.Proofs.YtdkomlgkkepioaaDoor
open Go.RowKit
set_option linter.unusedVariables false
set_option maxRecDepth 100000 in
set_option maxHeartbeats 6400000 in
theorem antRun_bad (o : Out) (a : Option Addr) (n c : Nat) (xs : List SpotT) (b : Option Addr) (m e : Nat) (x y d k : Int) (w : World) (hR : ArgR w o a n c) (hS : ArgS w xs b m e) (hno : ¬ AntOk o xs x y d k) :
    Calls Tryd.prog 27 #[.agg #[.int .i64 o.kind, .int .i64 o.born, .int .i64 o.stay, .int .i64 o.states, .int .i64 o.radius, .slice a n c, .string o.turns], .slice b m e, .agg #[.int .i64 x, .int .i64 y, .int .i64 d], .int .i64 k] w fun e' w' => ∃ f, AntErr o xs x y d k f ∧ f ≠ 0 ∧ e' = .returned (.tuple #[.slice none 0 0, .agg #[.int .i64 0, .int .i64 0, .int .i64 0], errOf f]) ∧ Below w.heap.size w w' := by
  obtain ⟨w1, hw1⟩ : ∃ w1, ((w.alloc (.cells #[.int .i64 o.kind, .int .i64 o.born, .int .i64 o.stay, .int .i64 o.states, .int .i64 o.radius, .slice a n c, .string o.turns] 24)).alloc (.cells #[.int .i64 x, .int .i64 y, .int .i64 d] 50)).alloc (.cells #[.int .i64 0, .int .i64 0, .int .i64 0] 50) = w1 := ⟨_, rfl⟩
  have BB := hide' (show Below w.heap.size w w1 by rw [← hw1]; repeat (first | exact Below.refl _ _ | refine Below.alloc ?_ (by simp; try omega) _))
  have g0 : w1.heap[w.heap.size]? = some (.cells #[.int .i64 o.kind, .int .i64 o.born, .int .i64 o.stay, .int .i64 o.states, .int .i64 o.radius, .slice a n c, .string o.turns] 24 (0, 0)) := by rw [← hw1, Below.heap_alloc _ _ _ (by simp; try omega), Below.heap_alloc _ _ _ (by simp; try omega)]; exact heap_atX _ _ _ (by simp)
  have g1 : w1.heap[w.heap.size + 1]? = some (.cells #[.int .i64 x, .int .i64 y, .int .i64 d] 50 (0, 0)) := by rw [← hw1, Below.heap_alloc _ _ _ (by simp; try omega)]; exact heap_atX _ _ _ (by simp)
  have g2 : w1.heap[w.heap.size + 1 + 1]? = some (.cells #[.int .i64 0, .int .i64 0, .int .i64 0] 50 (0, 0)) := by rw [← hw1]; exact heap_atX _ _ _ (by simp)
  have z1 : w1.heap.size = w.heap.size + 1 + 1 + 1 := by rw [← hw1]; simp
  have SV := hide' (fun (V : World) (h : Below w1.heap.size w1 V) => show V.cell? ⟨w.heap.size, 0, none⟩ = some (.int .i64 o.kind) ∧ V.cell? ⟨w.heap.size, 1, none⟩ = some (.int .i64 o.born) ∧ V.cell? ⟨w.heap.size, 2, none⟩ = some (.int .i64 o.stay) ∧ V.cell? ⟨w.heap.size, 3, none⟩ = some (.int .i64 o.states) ∧ V.cell? ⟨w.heap.size, 4, none⟩ = some (.int .i64 o.radius) ∧ V.cell? ⟨w.heap.size, 5, none⟩ = some (.slice a n c) ∧ V.cell? ⟨w.heap.size, 6, none⟩ = some (.string o.turns) ∧ V.cell? ⟨w.heap.size + 1, 0, none⟩ = some (.int .i64 x) ∧ V.cell? ⟨w.heap.size + 1, 1, none⟩ = some (.int .i64 y) ∧ V.cell? ⟨w.heap.size + 1, 2, none⟩ = some (.int .i64 d) from by
    have e1 := (h.block _ (lt_of_block g0)).trans g0
    have e2 := (h.block _ (lt_of_block g1)).trans g1
    exact ⟨cell_of_row V _ 0 _ _ _ e1, cell_of_row V _ 1 _ _ _ e1, cell_of_row V _ 2 _ _ _ e1, cell_of_row V _ 3 _ _ _ e1, cell_of_row V _ 4 _ _ _ e1, cell_of_row V _ 5 _ _ _ e1, cell_of_row V _ 6 _ _ _ e1, cell_of_row V _ 0 _ _ _ e2, cell_of_row V _ 1 _ _ _ e2, cell_of_row V _ 2 _ _ _ e2⟩)
  have RS := hide' (fun (V : World) (h : Below w1.heap.size w1 V) => show V.heap[w.heap.size + 1 + 1]? = some (.cells #[.int .i64 0, .int .i64 0, .int .i64 0] 50 (0, 0)) from (h.block _ (lt_of_block g2)).trans g2)
  have BW := hide' (fun (V : World) (h : Below w1.heap.size w1 V) => BB.out.trans (h.mono BB.out.size))
  have CK := hide' (checkWalk_any o a n c xs b m e x y d k w1 (hR.below BB.out) (hS.below BB.out))
  have NO := hide' hno
  obtain ⟨c0, c1, c2, c3, c4, c5, c6, d0, d1, d2⟩ := SV.out w1 (Below.refl _ _)
  clear hR hS g0 g1 g2 hno
  go_enter Tryd.func27, Tryd.ntmps27
  go_upto_region 1 with fail
  clear hw1
  go_wp2_with fail
  refine CK.out.mono ?_
  rintro e' w2 ⟨f, hf, rfl, b2⟩
  have f0' : f ≠ 0 := fun q => by
    subst q
    rcases hf with ⟨_, h⟩ | ⟨_, _, h⟩ | ⟨_, _, h1, h⟩ | ⟨_, _, _, _, h⟩ | ⟨h, _⟩
    · cases h
    · cases h
    · exact h1 h.symm
    · cases h
    · exact NO.out h
  have EP := hide' (errOf_posB f0')
  have HF := hide' (And.intro hf f0')
  have C2 := hide' b2
  rw [EP.out]
  have e2 := RS.out w2 C2.out
  have r0 := cell_of_row w2 _ 0 _ _ _ e2
  have r1 := cell_of_row w2 _ 1 _ _ _ e2
  have r2 := cell_of_row w2 _ 2 _ _ _ e2
  simp at r0 r1 r2
  have f0 := frozen_of_row w2 _ 0 _ _ e2
  have f1 := frozen_of_row w2 _ 1 _ _ e2
  have f2 := frozen_of_row w2 _ 2 _ _ e2
  have l2 := lt_of_block e2
  clear c0 c1 c2 c3 c4 c5 c6 d0 d1 d2 hf f0' b2 e2
  go_wp2
  refine bodyPost_ret (v := .tuple #[.slice none 0 0, .agg #[.int .i64 0, .int .i64 0, .int .i64 0], .iface 94 (.int .i64 (f : Int))]) (by simp [results, Tryd.results27, go_sem, r0, r1, r2]) rfl ?_
  refine ⟨f, HF.out.1, HF.out.2, by rw [EP.out], ?_⟩
  exact (((BW.out _ C2.out).setCell (by simp; omega) _).setCell (by simp; omega) _).setCell (by simp; omega) _
end Go.Proofs.YtdkomlgkkepioaaDoor

