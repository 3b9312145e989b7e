/-
  What the last text of this claim leans on, part 35: Ae1, Ad6, Ad7.
-/
import Derived.Test.YtbkllhlapdmlfaaQb30
import Derived.Test.YtbkllhlapdmlfaaQb31
import Derived.Test.YtbkllhlapdmlfaaQb32
import Derived.Test.YtbkllhlapdmlfaaQb33
import Derived.Test.YtbkllhlapdmlfaaQb34
namespace Go.Proofs.Ytbkllhlapdmlfaa
open Go.RowKit
set_option linter.unusedVariables false
set_option maxRecDepth 100000 in
set_option maxHeartbeats 12800000 in
theorem antRun_fresh (o : Out) (a : Option Addr) (n c : Nat) (xs : List SpotT) (b : Option Addr) (m e : Nat) (x y : Int) (d k : Nat) (w : World) (hR : ArgR w o a n c) (hS : ArgS w xs b m e) (hok : AntOk o xs x y (d : Int) (k : Int)) :
    Calls Try.prog 11 #[.agg #[.int .i64 o.kind, .int .i64 o.born, .int .i64 o.stay, .int .i64 o.states, .int .i64 o.radius, .slice a n c, .string o.turns], .slice b m e, .agg #[.int .i64 x, .int .i64 y, .int .i64 (d : Int)], .int .i64 (k : Int)] w fun e' w' => ∃ ys g q, e' = .returned (.tuple #[.slice (some ⟨g, 0, none⟩) ys.length q, .agg #[.int .i64 (runA (trB o.turns) o.turns.size ⟨colT xs m, x, y, d⟩ k).x, .int .i64 (runA (trB o.turns) o.turns.size ⟨colT xs m, x, y, d⟩ k).y, .int .i64 ((runA (trB o.turns) o.turns.size ⟨colT xs m, x, y, d⟩ k).d : Int)], .nilIface]) ∧ ArgS w' ys (some ⟨g, 0, none⟩) ys.length q ∧ SpotsOut (runA (trB o.turns) o.turns.size ⟨colT xs m, x, y, d⟩ k).col ys ∧ Below w.heap.size w w' ∧ w.heap.size ≤ g := by
  obtain ⟨hg, k3, sE, hxy, dn0, dn3, kn0, kn1⟩ := hok
  have hok : AntOk o xs x y (d : Int) (k : Int) := ⟨hg, k3, sE, hxy, dn0, dn3, kn0, kn1⟩
  obtain ⟨L1, L26, -⟩ : turnsP o.turns := by
    rcases hg with ⟨h, _⟩ | ⟨h, _⟩ | ⟨_, h, _⟩
    · omega
    · omega
    · exact h
  have ml := hS.len
  have mb' : m ≤ 4000004000001 := by rw [ml]; exact spots_few sE
  have d4 : d < 4 := by omega
  obtain ⟨w1, hw1⟩ : ∃ w1, ((w.alloc (.cells #[.int .i64 o.kind, .int .i64 o.born, .int .i64 o.stay, .int .i64 o.states, .int .i64 o.radius, .slice a n c, .string o.turns] 37)).alloc (.cells #[.int .i64 x, .int .i64 y, .int .i64 (d : Int)] 40)).alloc (.cells #[.int .i64 0, .int .i64 0, .int .i64 0] 40) = w1 := ⟨_, rfl⟩
  have BB := hide' (show Below w.heap.size w w1 by rw [← hw1]; repeat (first | exact Below.refl _ _ | refine Below.alloc ?_ (by simp; try omega) _))
  have g0 : w1.heap[w.heap.size]? = some (.cells #[.int .i64 o.kind, .int .i64 o.born, .int .i64 o.stay, .int .i64 o.states, .int .i64 o.radius, .slice a n c, .string o.turns] 37 (0, 0)) := by rw [← hw1, Below.heap_alloc _ _ _ (by simp; try omega), Below.heap_alloc _ _ _ (by simp; try omega)]; exact heap_atX _ _ _ (by simp)
  have g1 : w1.heap[w.heap.size + 1]? = some (.cells #[.int .i64 x, .int .i64 y, .int .i64 (d : Int)] 40 (0, 0)) := by rw [← hw1, Below.heap_alloc _ _ _ (by simp; try omega)]; exact heap_atX _ _ _ (by simp)
  have g2 : w1.heap[w.heap.size + 1 + 1]? = some (.cells #[.int .i64 0, .int .i64 0, .int .i64 0] 40 (0, 0)) := by rw [← hw1]; exact heap_atX _ _ _ (by simp)
  have z1 : w1.heap.size = w.heap.size + 1 + 1 + 1 := by rw [← hw1]; simp
  have SV := hide' (fun (V : World) (h : Below w1.heap.size w1 V) => show V.cell? ⟨w.heap.size, 0, none⟩ = some (.int .i64 o.kind) ∧ V.cell? ⟨w.heap.size, 1, none⟩ = some (.int .i64 o.born) ∧ V.cell? ⟨w.heap.size, 2, none⟩ = some (.int .i64 o.stay) ∧ V.cell? ⟨w.heap.size, 3, none⟩ = some (.int .i64 o.states) ∧ V.cell? ⟨w.heap.size, 4, none⟩ = some (.int .i64 o.radius) ∧ V.cell? ⟨w.heap.size, 5, none⟩ = some (.slice a n c) ∧ V.cell? ⟨w.heap.size, 6, none⟩ = some (.string o.turns) ∧ V.cell? ⟨w.heap.size + 1, 0, none⟩ = some (.int .i64 x) ∧ V.cell? ⟨w.heap.size + 1, 1, none⟩ = some (.int .i64 y) ∧ V.cell? ⟨w.heap.size + 1, 2, none⟩ = some (.int .i64 (d : Int)) from by
    have e1 := (h.block _ (lt_of_block g0)).trans g0
    have e2 := (h.block _ (lt_of_block g1)).trans g1
    exact ⟨cell_of_row V _ 0 _ _ _ e1, cell_of_row V _ 1 _ _ _ e1, cell_of_row V _ 2 _ _ _ e1, cell_of_row V _ 3 _ _ _ e1, cell_of_row V _ 4 _ _ _ e1, cell_of_row V _ 5 _ _ _ e1, cell_of_row V _ 6 _ _ _ e1, cell_of_row V _ 0 _ _ _ e2, cell_of_row V _ 1 _ _ _ e2, cell_of_row V _ 2 _ _ _ e2⟩)
  have RS := hide' (fun (V : World) (h : Below w1.heap.size w1 V) => show V.heap[w.heap.size + 1 + 1]? = some (.cells #[.int .i64 0, .int .i64 0, .int .i64 0] 40 (0, 0)) from (h.block _ (lt_of_block g2)).trans g2)
  have BW := hide' (fun (V : World) (h : Below w1.heap.size w1 V) => BB.out.trans (h.mono BB.out.size))
  have CK := hide' (checkWalk_any o a n c xs b m e x y (d : Int) (k : Int) w1 (hR.below BB.out) (hS.below BB.out))
  have BG' := hide' (fun (V : World) (h : Below w1.heap.size w1 V) => begin_any o.turns xs b m e x y d V (hS.below (BW.out V h)) L1 L26 sE hxy d4)
  have HOK := hide' hok
  have XY := hide' (near_iff hxy)
  obtain ⟨T, hT⟩ : ∃ T, trB o.turns = T := ⟨_, rfl⟩
  obtain ⟨L, hL⟩ : ∃ L, o.turns.size = L := ⟨_, rfl⟩
  obtain ⟨S0, hS0⟩ : ∃ S0 : AntS, S0 = ⟨colT xs m, x, y, d⟩ := ⟨_, rfl⟩
  rw [hT, hL, ← hS0] at BG' ⊢
  rw [hL] at L26
  have X0 := hide' (show -1000000 ≤ S0.x ∧ S0.x ≤ 1000000 ∧ -1000000 ≤ S0.y ∧ S0.y ≤ 1000000 by rw [hS0]; exact XY.out)
  have kl : k ≤ 100000 := by omega
  obtain ⟨c0, c1, c2, c3, c4, c5, c6, d0, d1, d2⟩ := SV.out w1 (Below.refl _ _)
  clear hR hS g0 g1 g2 hok hg k3 sE hxy hT hL hS0 dn0 dn3 kn0 kn1 XY L1 ml
  go_enter Try.func11, Try.ntmps11
  go_upto_region 1 with fail
  clear hw1
  go_wp2_with fail
  refine CK.out.mono ?_
  rintro e' w2 ⟨f, hf, rfl, b2⟩
  have f0 : f = 0 := by
    obtain ⟨q1, q2, q3, q4⟩ := HOK.out
    rcases hf with ⟨h1, _⟩ | ⟨_, h1, _⟩ | ⟨_, _, h1, h⟩ | ⟨_, _, _, h1, _⟩ | ⟨_, h⟩
    · exact absurd q1 h1
    · exact absurd q2 h1
    · exact absurd q3 h1
    · exact absurd q4 h1
    · exact h
  subst f0
  rw [show errOf 0 = .nilIface from rfl]
  have C2 := hide' b2
  clear c0 c1 c2 c3 c4 c5 c6 d0 d1 d2 hf b2
  obtain ⟨c0, c1, c2, c3, c4, c5, c6, d0, d1, d2⟩ := SV.out w2 C2.out
  go_wp2_with fail
  refine (BG'.out w2 C2.out).mono ?_
  rintro e' w3 ⟨kb, tb, mb, rfl, wk, ⟨ge1, ge2, ge3⟩, b3⟩
  have C3 := hide' (C2.out.trans (b3.mono C2.out.size))
  have WK0 := hide' wk
  have s2 := C2.out.size
  clear c0 c1 c2 c3 c4 c5 c6 d0 d1 d2 wk b3
  go_wp2
  go_loopw [28] (fun iv wr => ∃ i : Nat, iv = .int .i64 (i : Int) ∧ i ≤ k ∧ Hid (WK wr kb tb mb (m + i) L T (runA T L S0 i)) ∧ Hid (Below w1.heap.size w1 wr)) (fun iv _ => ((k : Int) - intOf iv).toNat)
  case atStart => exact ⟨0, by go_num, by omega, WK0, C3⟩
  case round =>
    obtain ⟨i, rfl, hi, HW, HB⟩ := hrel
    have NR := runA_near T L S0 X0.out i
    by_cases di : (i : Int) < (k : Int)
    · have ST := hide' (step_anyA kb tb mb (m + i) L w1.heap.size T (runA T L S0 i) wr HW.out (by omega) (by omega) L26 (by omega) ⟨by omega, by omega, by omega⟩)
      clear NR
      go_wp2_with fail
      refine ST.out.mono ?_
      rintro e' w4 ⟨rfl, wk4, b4⟩
      have W4 := hide' (show WK w4 kb tb mb (m + (i + 1)) L T (runA T L S0 (i + 1)) from wk4)
      have B4 := hide' (HB.out.trans b4)
      clear wk4 b4
      go_wp2
      exact ⟨⟨i + 1, by go_num, by omega, W4, B4⟩, by simp [intOf]; omega⟩
    · have ik : i = k := by omega
      have HW' := HW.out
      rw [ik] at HW' NR
      have SP := hide' (spots_anyA kb tb mb (m + k) L T (runA T L S0 k) wr HW' (by omega))
      have WB := hide' HW'.bl
      have D4 := hide' HW'.ok.d
      have LT := hide' HW'.lt
      obtain ⟨st, hst⟩ : ∃ st, runA T L S0 k = st := ⟨_, rfl⟩
      rw [hst] at SP WB D4 NR
      have NRH := hide' NR
      have HST := hide' hst
      clear HW HW' hst ik NR
      go_wp2_with fail
      refine SP.out.mono ?_
      rintro e' w5 ⟨ys, g, q, rfl, ay, so, ⟨-, gge⟩, b5⟩
      have C5 := hide' (HB.out.trans (b5.mono HB.out.size))
      have WB5 := hide' (show WkB w5 kb tb mb L st.x st.y st.d from by
        obtain ⟨ra, ia, rd, id, hb, i1⟩ := WB.out.blk
        exact ⟨ra, ia, rd, id, (b5.block kb LT.out.1).trans hb, i1⟩)
      have WC := hide' (walker_any kb tb mb L st.d st.x st.y w5 WB5.out D4.out (by have := NRH.out; unfold inC; omega) (by have := NRH.out; unfold inC; omega))
      have AY := hide' ay
      have SO := hide' so
      clear ay so b5
      go_wp2_with fail
      refine WC.out.mono ?_
      rintro e' w6 ⟨rfl, b6⟩
      have C6 := hide' (C5.out.trans (b6.mono C5.out.size))
      have AY6 := hide' (AY.out.below b6)
      have e2 := RS.out w6 C6.out
      have r0 := cell_of_row w6 _ 0 _ _ _ e2
      have r1 := cell_of_row w6 _ 1 _ _ _ e2
      have r2 := cell_of_row w6 _ 2 _ _ _ e2
      simp at r0 r1 r2
      have f0 := frozen_of_row w6 _ 0 _ _ e2
      have f1 := frozen_of_row w6 _ 1 _ _ e2
      have f2 := frozen_of_row w6 _ 2 _ _ e2
      have l2 := lt_of_block e2
      have HBS := HB.out.size
      have GE := hide' (show w.heap.size ≤ g by omega)
      have gn : g ≠ w.heap.size + 1 + 1 := by omega
      have FIN := hide' (show ArgS ((((w6.setCell ⟨w.heap.size + 1 + 1, 0, none⟩ (.int .i64 st.x)).setCell ⟨w.heap.size + 1 + 1, 1, none⟩ (.int .i64 st.y)).setCell ⟨w.heap.size + 1 + 1, 2, none⟩ (.int .i64 (st.d : Int)))) ys (some ⟨g, 0, none⟩) ys.length q from
        ⟨rfl, AY6.out.max, fun k hk => by
          obtain ⟨g', off, e', hg', p0, p1, p2⟩ := AY6.out.cells k hk
          cases e'
          have hb : (((w6.setCell ⟨w.heap.size + 1 + 1, 0, none⟩ (.int .i64 st.x)).setCell ⟨w.heap.size + 1 + 1, 1, none⟩ (.int .i64 st.y)).setCell ⟨w.heap.size + 1 + 1, 2, none⟩ (.int .i64 (st.d : Int))).heap[g]? = w6.heap[g]? := by
            rw [Below.heap_setCell _ _ _ _ (by simpa using gn), Below.heap_setCell _ _ _ _ (by simpa using gn), Below.heap_setCell _ _ _ _ (by simpa using gn)]
          exact ⟨g, 0, rfl, by rw [World.size_setCell, World.size_setCell, World.size_setCell]; exact hg', (World.cell?_of_block (w := w6) (a := ⟨g, 0 + k * 3, none⟩) hb).trans p0, (World.cell?_of_block (w := w6) (a := ⟨g, 0 + k * 3 + 1, none⟩) hb).trans p1, (World.cell?_of_block (w := w6) (a := ⟨g, 0 + k * 3 + 2, none⟩) hb).trans p2⟩⟩)
      have BF := hide' ((((BW.out _ C6.out).setCell (show w.heap.size ≤ (⟨w.heap.size + 1 + 1, 0, none⟩ : Addr).block by simp; omega) (.int .i64 st.x)).setCell (show w.heap.size ≤ (⟨w.heap.size + 1 + 1, 1, none⟩ : Addr).block by simp; omega) (.int .i64 st.y)).setCell (show w.heap.size ≤ (⟨w.heap.size + 1 + 1, 2, none⟩ : Addr).block by simp; omega) (.int .i64 (st.d : Int)))
      clear b6 e2 gge gn HBS
      go_wp2
      refine bodyPost_ret (v := .tuple #[.slice (some ⟨g, 0, none⟩) ys.length q, .agg #[.int .i64 st.x, .int .i64 st.y, .int .i64 (st.d : Int)], .nilIface]) (by simp [results, Try.results11, go_sem, r0, r1, r2]) rfl ?_
      rw [HST.out]
      exact ⟨ys, g, q, rfl, FIN.out, SO.out, BF.out, GE.out⟩
end Go.Proofs.Ytbkllhlapdmlfaa

namespace Go.Proofs.Ytbkllhlapdmlfaa
open Go.RowKit
set_option linter.unusedVariables false
def s0A (xs : List SpotT) (x y : Int) (d : Nat) : AntS := ⟨colT xs xs.length, x, y, d⟩
theorem ok_turns {o : Out} {xs : List SpotT} {x y d k : Int} (h : AntOk o xs x y d k) : turnsP o.turns := by
  obtain ⟨hg, k3, _⟩ := h
  rcases hg with ⟨h, _⟩ | ⟨h, _⟩ | ⟨_, h, _⟩
  · omega
  · omega
  · exact h
theorem ok_start {o : Out} {xs : List SpotT} {x y : Int} {d : Nat} {k : Int} (h : AntOk o xs x y (d : Int) k) : OkA o.turns.size (s0A xs x y d) := by
  have tp := ok_turns h
  obtain ⟨_, _, sE, _, d0, d3, _⟩ := h
  exact ⟨fun u v => colT_lt (by have := tp.1; omega) sE xs.length (by omega) u v, by show d < 4; omega⟩
theorem ok_fit {o : Out} {xs ys : List SpotT} {x y : Int} {d : Nat} {k k' : Int} (h : AntOk o xs x y (d : Int) k) {st : AntS} (so : SpotsOut st.col ys) (os : OkA o.turns.size st) (fit : fitK ys (nearA st.x st.y) ys.length = true) (k0 : 0 ≤ k') (k1 : k' ≤ 100000) : AntOk o ys st.x st.y (st.d : Int) k' ∧ s0A ys st.x st.y st.d = st := by
  obtain ⟨hg, k3, sE, hxy, d0, d3, kn0, kn1⟩ := h
  obtain ⟨f1, f2⟩ := fitK_all fit
  have e := fits_ok so os.col f2
  have := os.d
  refine ⟨⟨hg, k3, e, f1, by omega, by omega, k0, k1⟩, ?_⟩
  unfold s0A
  rw [spots_plane so e]
theorem same_spots {o : Out} {xs zs : List SpotT} {x y : Int} {d : Nat} {k : Int} (h : AntOk o xs x y (d : Int) k) (so : SpotsOut (s0A xs x y d).col zs) : zs = xs := by
  obtain ⟨_, _, sE, _⟩ := h
  exact spots_one so (spots_self sE)
theorem run_first (o : Out) (a : Option Addr) (n c : Nat) (xs : List SpotT) (b : Option Addr) (m e : Nat) (x y : Int) (d k : Nat) (w : World) (hR : ArgR w o a n c) (hS : ArgS w xs b m e) (hok : AntOk o xs x y (d : Int) (k : Int)) :
    Calls Try.prog 11 #[.agg #[.int .i64 o.kind, .int .i64 o.born, .int .i64 o.stay, .int .i64 o.states, .int .i64 o.radius, .slice a n c, .string o.turns], .slice b m e, .agg #[.int .i64 x, .int .i64 y, .int .i64 (d : Int)], .int .i64 (k : Int)] w fun e' w' => ∃ ys g q, e' = .returned (.tuple #[.slice (some ⟨g, 0, none⟩) ys.length q, .agg #[.int .i64 (runA (trB o.turns) o.turns.size (s0A xs x y d) k).x, .int .i64 (runA (trB o.turns) o.turns.size (s0A xs x y d) k).y, .int .i64 ((runA (trB o.turns) o.turns.size (s0A xs x y d) k).d : Int)], .nilIface]) ∧ ArgS w' ys (some ⟨g, 0, none⟩) ys.length q ∧ SpotsOut (runA (trB o.turns) o.turns.size (s0A xs x y d) k).col ys ∧ Below w.heap.size w w' := by
  have h := antRun_good o a n c xs b m e x y d k w hR hS hok
  rw [hS.len] at h ⊢
  exact h
theorem back_first (o : Out) (a : Option Addr) (n c : Nat) (xs : List SpotT) (b : Option Addr) (m e : Nat) (x y : Int) (d k : Nat) (w : World) (hR : ArgR w o a n c) (hS : ArgS w xs b m e) (hok : AntOk o xs x y (d : Int) (k : Int)) :
    Calls Try.prog 13 #[.agg #[.int .i64 o.kind, .int .i64 o.born, .int .i64 o.stay, .int .i64 o.states, .int .i64 o.radius, .slice a n c, .string o.turns], .slice b m e, .agg #[.int .i64 x, .int .i64 y, .int .i64 (d : Int)], .int .i64 (k : Int)] w fun e' w' => ∃ ys g q, e' = .returned (.tuple #[.slice (some ⟨g, 0, none⟩) ys.length q, .agg #[.int .i64 (backA (trB o.turns) o.turns.size (s0A xs x y d) k).x, .int .i64 (backA (trB o.turns) o.turns.size (s0A xs x y d) k).y, .int .i64 ((backA (trB o.turns) o.turns.size (s0A xs x y d) k).d : Int)], .nilIface]) ∧ ArgS w' ys (some ⟨g, 0, none⟩) ys.length q ∧ SpotsOut (backA (trB o.turns) o.turns.size (s0A xs x y d) k).col ys ∧ Below w.heap.size w w' := by
  have h := antBack_good o a n c xs b m e x y d k w hR hS hok
  rw [hS.len] at h ⊢
  exact h
def Home (xs : List SpotT) (x y : Int) (d : Nat) (w : World) (e' : Ending) (w' : World) : Prop := ∃ g q, e' = .returned (.tuple #[.slice (some ⟨g, 0, none⟩) xs.length q, .agg #[.int .i64 x, .int .i64 y, .int .i64 (d : Int)], .nilIface]) ∧ ArgS w' xs (some ⟨g, 0, none⟩) xs.length q ∧ Below w.heap.size w w'
/-- Back of Run is what was. -/
theorem back_home (o : Out) (a : Option Addr) (n c : Nat) (xs ys : List SpotT) (x y : Int) (d k : Nat) (b : Option Addr) (e : Nat) (w : World) (hok : AntOk o xs x y (d : Int) (k : Int)) (st : AntS) (hst : runA (trB o.turns) o.turns.size (s0A xs x y d) k = st) (so : SpotsOut st.col ys) (fit : fitK ys (nearA st.x st.y) ys.length = true) (hR : ArgR w o a n c) (hS : ArgS w ys b ys.length e) :
    Calls Try.prog 13 #[.agg #[.int .i64 o.kind, .int .i64 o.born, .int .i64 o.stay, .int .i64 o.states, .int .i64 o.radius, .slice a n c, .string o.turns], .slice b ys.length e, .agg #[.int .i64 st.x, .int .i64 st.y, .int .i64 (st.d : Int)], .int .i64 (k : Int)] w (Home xs x y d w) := by
  have os := ok_start hok
  have ost : OkA o.turns.size st := by rw [← hst]; exact run_ok os k
  have hk := hok.2.2.2.2.2.2
  obtain ⟨hok2, e2⟩ := ok_fit hok so ost fit hk.1 hk.2
  refine (back_first o a n c ys b ys.length e st.x st.y st.d k w hR hS hok2).mono ?_
  rintro e' w' ⟨zs, g, q, rfl, az, sz, hb⟩
  rw [e2, ← hst, back_run os k] at sz
  have hz := same_spots hok sz
  subst hz
  rw [e2, ← hst, back_run os k]
  exact ⟨g, q, rfl, az, hb⟩
/-- Run of Back is what was. -/
theorem run_home (o : Out) (a : Option Addr) (n c : Nat) (xs ys : List SpotT) (x y : Int) (d k : Nat) (b : Option Addr) (e : Nat) (w : World) (hok : AntOk o xs x y (d : Int) (k : Int)) (st : AntS) (hst : backA (trB o.turns) o.turns.size (s0A xs x y d) k = st) (so : SpotsOut st.col ys) (fit : fitK ys (nearA st.x st.y) ys.length = true) (hR : ArgR w o a n c) (hS : ArgS w ys b ys.length e) :
    Calls Try.prog 11 #[.agg #[.int .i64 o.kind, .int .i64 o.born, .int .i64 o.stay, .int .i64 o.states, .int .i64 o.radius, .slice a n c, .string o.turns], .slice b ys.length e, .agg #[.int .i64 st.x, .int .i64 st.y, .int .i64 (st.d : Int)], .int .i64 (k : Int)] w (Home xs x y d w) := by
  have os := ok_start hok
  have ost : OkA o.turns.size st := by rw [← hst]; exact back_okA os k
  have hk := hok.2.2.2.2.2.2
  obtain ⟨hok2, e2⟩ := ok_fit hok so ost fit hk.1 hk.2
  refine (run_first o a n c ys b ys.length e st.x st.y st.d k w hR hS hok2).mono ?_
  rintro e' w' ⟨zs, g, q, rfl, az, sz, hb⟩
  rw [e2, ← hst, run_back os k] at sz
  have hz := same_spots hok sz
  subst hz
  rw [e2, ← hst, run_back os k]
  exact ⟨g, q, rfl, az, hb⟩
def Went (st : AntS) (w : World) (e' : Ending) (w' : World) : Prop := ∃ ys g q, e' = .returned (.tuple #[.slice (some ⟨g, 0, none⟩) ys.length q, .agg #[.int .i64 st.x, .int .i64 st.y, .int .i64 (st.d : Int)], .nilIface]) ∧ ArgS w' ys (some ⟨g, 0, none⟩) ys.length q ∧ SpotsOut st.col ys ∧ Below w.heap.size w w' ∧ w.heap.size ≤ g
/-- More steps behind some. -/
theorem run_more (o : Out) (a : Option Addr) (n c : Nat) (xs ys : List SpotT) (x y : Int) (d k j : Nat) (b : Option Addr) (e : Nat) (w : World) (hok : AntOk o xs x y (d : Int) (k : Int)) (st : AntS) (hst : runA (trB o.turns) o.turns.size (s0A xs x y d) k = st) (so : SpotsOut st.col ys) (fit : fitK ys (nearA st.x st.y) ys.length = true) (j1 : j ≤ 100000) (hR : ArgR w o a n c) (hS : ArgS w ys b ys.length e) :
    Calls Try.prog 11 #[.agg #[.int .i64 o.kind, .int .i64 o.born, .int .i64 o.stay, .int .i64 o.states, .int .i64 o.radius, .slice a n c, .string o.turns], .slice b ys.length e, .agg #[.int .i64 st.x, .int .i64 st.y, .int .i64 (st.d : Int)], .int .i64 (j : Int)] w (Went (runA (trB o.turns) o.turns.size (s0A xs x y d) (k + j)) w) := by
  have os := ok_start hok
  have ost : OkA o.turns.size st := by rw [← hst]; exact run_ok os k
  obtain ⟨hok2, e2⟩ := ok_fit (k' := (j : Int)) hok so ost fit (by omega) (by omega)
  have h := antRun_fresh o a n c ys b ys.length e st.x st.y st.d j w hR hS hok2
  refine Calls.mono h ?_
  rintro e' w' ⟨zs, g, q, rfl, az, sz, hb, hg⟩
  have e3 : runA (trB o.turns) o.turns.size ⟨colT ys ys.length, st.x, st.y, st.d⟩ j = runA (trB o.turns) o.turns.size (s0A xs x y d) (k + j) := by
    rw [show (⟨colT ys ys.length, st.x, st.y, st.d⟩ : AntS) = st from e2, ← hst, run_add]
  rw [e3] at sz
  rw [e3]
  exact ⟨zs, g, q, rfl, az, sz, hb, hg⟩
/-- More steps that are too many, or none. -/
theorem more_bad (o : Out) (a : Option Addr) (n c : Nat) (ys : List SpotT) (j : Int) (b : Option Addr) (e : Nat) (w : World) (st : AntS) (j1 : j < 0 ∨ 100000 < j) (hR : ArgR w o a n c) (hS : ArgS w ys b ys.length e) :
    Calls Try.prog 11 #[.agg #[.int .i64 o.kind, .int .i64 o.born, .int .i64 o.stay, .int .i64 o.states, .int .i64 o.radius, .slice a n c, .string o.turns], .slice b ys.length e, .agg #[.int .i64 st.x, .int .i64 st.y, .int .i64 (st.d : Int)], .int .i64 j] w fun e' w' => ∃ f, f ≠ 0 ∧ e' = .returned (.tuple #[.slice none 0 0, .agg #[.int .i64 0, .int .i64 0, .int .i64 0], errOf f]) ∧ Below w.heap.size w w' := by
  refine (antRun_bad o a n c ys b ys.length e st.x st.y (st.d : Int) j w hR hS (fun h => by obtain ⟨_, _, _, _, _, _, h1, h2⟩ := h; omega)).mono ?_
  rintro e' w' ⟨f, -, f0, r, hb⟩
  exact ⟨f, f0, r, hb⟩
end Go.Proofs.Ytbkllhlapdmlfaa

namespace Go.Proofs.Ytbkllhlapdmlfaa
open Go.RowKit
set_option linter.unusedVariables false
set_option maxRecDepth 100000 in
set_option maxHeartbeats 6400000 in
theorem antback_bad (o : Out) (a : Option Addr) (n c : Nat) (xs : List SpotT) (b : Option Addr) (m e : Nat) (x y d k j : Int) (w : World) (hR : ArgR w o a n c) (hS : ArgS w xs b m e) (hno : ¬ AntOk o xs x y d k) :
    Calls Try.prog 4 #[.agg #[.int .i64 o.kind, .int .i64 o.born, .int .i64 o.stay, .int .i64 o.states, .int .i64 o.radius, .slice a n c, .string o.turns], .slice b m e, .agg #[.int .i64 x, .int .i64 y, .int .i64 d], .int .i64 k, .int .i64 j] w fun e' w' => e' = .returned (.bool true) ∧ Below w.heap.size w w' := by
  obtain ⟨w1, hw1⟩ : ∃ w1, (w.alloc (.cells #[.int .i64 o.kind, .int .i64 o.born, .int .i64 o.stay, .int .i64 o.states, .int .i64 o.radius, .slice a n c, .string o.turns] 37)).alloc (.cells #[.int .i64 x, .int .i64 y, .int .i64 d] 40) = w1 := ⟨_, rfl⟩
  have BB := hide' (show Below w.heap.size w w1 by rw [← hw1]; exact ((Below.refl _ _).alloc (Nat.le_refl _) _).alloc (by simp) _)
  have g0 : w1.heap[w.heap.size]? = some (.cells #[.int .i64 o.kind, .int .i64 o.born, .int .i64 o.stay, .int .i64 o.states, .int .i64 o.radius, .slice a n c, .string o.turns] 37 (0, 0)) := by rw [← hw1, Below.heap_alloc _ _ _ (by simp)]; exact heap_alloc_new _ _
  have g1 : w1.heap[w.heap.size + 1]? = some (.cells #[.int .i64 x, .int .i64 y, .int .i64 d] 40 (0, 0)) := by rw [← hw1]; exact heap_atX _ _ _ (by simp)
  have SV := hide' (fun (V : World) (h : Below w1.heap.size w1 V) => show V.cell? ⟨w.heap.size, 0, none⟩ = some (.int .i64 o.kind) ∧ V.cell? ⟨w.heap.size, 1, none⟩ = some (.int .i64 o.born) ∧ V.cell? ⟨w.heap.size, 2, none⟩ = some (.int .i64 o.stay) ∧ V.cell? ⟨w.heap.size, 3, none⟩ = some (.int .i64 o.states) ∧ V.cell? ⟨w.heap.size, 4, none⟩ = some (.int .i64 o.radius) ∧ V.cell? ⟨w.heap.size, 5, none⟩ = some (.slice a n c) ∧ V.cell? ⟨w.heap.size, 6, none⟩ = some (.string o.turns) ∧ V.cell? ⟨w.heap.size + 1, 0, none⟩ = some (.int .i64 x) ∧ V.cell? ⟨w.heap.size + 1, 1, none⟩ = some (.int .i64 y) ∧ V.cell? ⟨w.heap.size + 1, 2, none⟩ = some (.int .i64 d) from by
    have e1 := (h.block _ (lt_of_block g0)).trans g0
    have e2 := (h.block _ (lt_of_block g1)).trans g1
    exact ⟨cell_of_row V _ 0 _ _ _ e1, cell_of_row V _ 1 _ _ _ e1, cell_of_row V _ 2 _ _ _ e1, cell_of_row V _ 3 _ _ _ e1, cell_of_row V _ 4 _ _ _ e1, cell_of_row V _ 5 _ _ _ e1, cell_of_row V _ 6 _ _ _ e1, cell_of_row V _ 0 _ _ _ e2, cell_of_row V _ 1 _ _ _ e2, cell_of_row V _ 2 _ _ _ e2⟩)
  have BW := hide' (fun (V : World) (h : Below w1.heap.size w1 V) => BB.out.trans (h.mono BB.out.size))
  have FA := hide' (fun V => fact_ant V)
  have RU := hide' (fun (V : World) (h : Below w1.heap.size w1 V) => antRun_bad o a n c xs b m e x y d k V (hR.below (BW.out V h)) (hS.below (BW.out V h)) hno)
  clear hR hS hno
  clear g0 g1
  go_enter Try.func4, Try.ntmps4
  go_upto_region 1 with fail
  clear hw1
  go_wp2_with fail
  refine (FA.out _).mono ?_
  rintro e' w2 ⟨gf, qf, rfl, b2⟩
  have C2 := hide' (b2.alloc b2.size (.cells #[.int .i64 1, .int .i64 0, .int .i64 1] 40))
  have v0 : (w2.alloc (.cells #[.int .i64 1, .int .i64 0, .int .i64 1] 40)).cell? ⟨w2.heap.size, 0, none⟩ = some (.int .i64 1) := cell_of_row _ _ 0 _ _ _ (heap_alloc_new _ _)
  have v2 : (w2.alloc (.cells #[.int .i64 1, .int .i64 0, .int .i64 1] 40)).cell? ⟨w2.heap.size, 2, none⟩ = some (.int .i64 1) := cell_of_row _ _ 2 _ _ _ (heap_alloc_new _ _)
  clear b2
  go_upto_region 4 with fail
  clear v0 v2
  obtain ⟨c0, c1, c2, c3, c4, c5, c6, d0, d1, d2⟩ := SV.out _ C2.out
  go_wp2_with fail
  refine (RU.out _ C2.out).mono ?_
  rintro e' w3 ⟨f, -, f0, rfl, b3⟩
  have EP := hide' (errOf_posB f0)
  rw [EP.out]
  have C3 := hide' ((C2.out.trans (b3.mono C2.out.size)).alloc (by have := C2.out.size; have := b3.size; omega) (.cells #[.int .i64 0, .int .i64 0, .int .i64 0] 40))
  clear c0 c1 c2 c3 c4 c5 c6 d0 d1 d2 b3 f0
  go_wp2
  go_ret
  exact ⟨rfl, BW.out _ C3.out⟩
end Go.Proofs.Ytbkllhlapdmlfaa

