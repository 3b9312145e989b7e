/-
  What the last text of this claim leans on, part 47: Gv3, Hz1.
-/
import Derived.Test.YtemhcpldflcfbaaGreatDoorYf46
import Derived.Test.YtemhcpldflcfbaaGreatDoorYf45
import Derived.Deep.MidRow
namespace Go.Proofs.YtemhcpldflcfbaaGreatDoor
open Go.RowKit
set_option linter.unusedVariables false
def AgainBad (f : Nat) (w : World) (e : Ending) (w' : World) : Prop := e = .returned (.tuple #[.agg #[.int .i64 0, .int .i64 0, .int .i64 0], errOf f]) ∧ Below w.heap.size w w'
def AgainPost (x : AgR) (w : World) (e : Ending) (w' : World) : Prop := e = .returned (.tuple #[agV x, errOf x.f]) ∧ Below w.heap.size w w'
theorem sheet_eq (X Y : Nat → Nat) (b : Bool) (hb : b = true ↔ ∀ k, k < 204 → X k = Y k) (w : World) : (Op.equalIn 10000 108 (.agg (arrF 204 (uF X))) (.agg (arrF 204 (uF Y)))).run Tryz.prog w = .ok b w := by
 rw [run_equalIn_array w 9999 (t := 108) (e := 106) (n := 102) (i := (Tryz.prog.info? 106).getD default) _ _ Tryz.underlying108 (by kernel_rfl)]
 have hc : Tryz.prog.cellsOf 106 = 2 := by kernel_rfl
 rw [hc]
 have g : ∀ (Z : Nat → Nat) k, k < 204 → (arrF 204 (uF Z))[k]? = some (.int .u64 ((Z k : Nat) : Int)) := fun Z k hk => by rw [arrF_get _ hk]; rfl
 have e := eqItems_rows (P := Tryz.prog) w 9997 (e := 106) (e2 := 88) (m := 2) (k := .u64) (i := (Tryz.prog.info? 106).getD default) (i2 := (Tryz.prog.info? 88).getD default) Tryz.underlying106 (by kernel_rfl) (by kernel_rfl) (by kernel_rfl) (by kernel_rfl) Tryz.underlying88 (arrF 204 (uF X)) (arrF 204 (uF Y)) (fun k => ((X k : Nat) : Int)) (fun k => ((Y k : Nat) : Int)) (List.range 102) (fun y hy j hj => by
  have := List.mem_range.1 hy
  exact ⟨g X _ (by omega), g Y _ (by omega)⟩)
 rw [e]
 refine congrArg (fun z => Result.ok z w) ?_
 rw [Bool.eq_iff_iff, hb]
 simp only [List.all_eq_true, List.mem_range, beq_iff_eq]
 constructor
 ·intro h k hk
  have := h (k / 2) (by omega) (k % 2) (by omega)
  rw [show k / 2 * 2 + k % 2 = k by omega] at this
  omega
 ·intro h y hy j hj
  have := h (y * 2 + j) (by omega)
  omega
set_option maxRecDepth 100000 in
set_option maxHeartbeats 12800000 in
theorem again_bad (o : Out) (ta : Option Addr) (tn tc : Nat) (W H : Int) (xs : List Int) (a : Option Addr) (n c : Nat) (N : Int) (f : Nat) (w : World) (hR : ArgR w o ta tn tc) (hP : ArgP w xs a n c) (hf : ∀ g, grE o W H xs g → (g ≠ 0 ∧ f = g) ∨ (g = 0 ∧ f = 1 ∧ (N < 1 ∨ 64 < N))) :
  Calls Tryz.prog 17 #[.agg #[.int .i64 o.kind, .int .i64 o.born, .int .i64 o.stay, .int .i64 o.states, .int .i64 o.radius, .slice ta tn tc, .string o.turns], .agg #[.int .i64 W, .int .i64 H, .slice a n c], .int .i64 N] w (AgainBad f w) := by
 obtain ⟨w1, hw1⟩ : ∃ w1, ((w.alloc (.cells #[.int .i64 o.kind, .int .i64 o.born, .int .i64 o.stay, .int .i64 o.states, .int .i64 o.radius, .slice ta tn tc, .string o.turns] 24)).alloc (.cells #[.int .i64 W, .int .i64 H, .slice a n c] 26)).alloc (.cells #[.int .i64 0, .int .i64 0, .int .i64 0] 49) = w1 := ⟨_, rfl⟩
 have BB := hide' (show Below w.heap.size w w1 by rw [← hw1]; repeat (first | exact Below.refl _ _ | refine Below.alloc ?_ (by simp; try omega) _))
 have g0 : w1.heap[w.heap.size]? = some (.cells #[.int .i64 o.kind, .int .i64 o.born, .int .i64 o.stay, .int .i64 o.states, .int .i64 o.radius, .slice ta tn tc, .string o.turns] 24 (0, 0)) := by rw [← hw1, Below.heap_alloc _ _ _ (by simp; try omega), Below.heap_alloc _ _ _ (by simp; try omega)]; exact heap_atX _ _ _ (by simp)
 have g1 : w1.heap[w.heap.size + 1]? = some (.cells #[.int .i64 W, .int .i64 H, .slice a n c] 26 (0, 0)) := by rw [← hw1, Below.heap_alloc _ _ _ (by simp; try omega)]; exact heap_atX _ _ _ (by simp)
 have g2 : w1.heap[w.heap.size + 1 + 1]? = some (.cells #[.int .i64 0, .int .i64 0, .int .i64 0] 49 (0, 0)) := by rw [← hw1]; exact heap_atX _ _ _ (by simp)
 have s1 : w1.heap.size = w.heap.size + 1 + 1 + 1 := by rw [← hw1]; simp
 have x0 := cell_of_row w1 _ 0 _ _ _ g0
 have x1 := cell_of_row w1 _ 1 _ _ _ g0
 have x2 := cell_of_row w1 _ 2 _ _ _ g0
 have x3 := cell_of_row w1 _ 3 _ _ _ g0
 have x4 := cell_of_row w1 _ 4 _ _ _ g0
 have x5 := cell_of_row w1 _ 5 _ _ _ g0
 have x6 := cell_of_row w1 _ 6 _ _ _ g0
 simp at x0 x1 x2 x3 x4 x5 x6
 have y0 := cell_of_row w1 _ 0 _ _ _ g1
 have y1 := cell_of_row w1 _ 1 _ _ _ g1
 have y2 := cell_of_row w1 _ 2 _ _ _ g1
 simp at y0 y1 y2
 have CC := hide' (checkGrowth_any o ta tn tc W H xs a n c w1 (hR.below BB.out) (hP.below BB.out))
 have G2 := hide' g2
 have HF := hide' hf
 clear hR hP g0 g1 g2 hf s1
 go_enter Tryz.func17, Tryz.ntmps17
 go_wp2_with fail
 refine CC.out.mono ?_
 rintro e w2 ⟨⟨g, hg, rfl⟩, b2⟩
 have e2 := (b2.block _ (lt_of_block G2.out)).trans G2.out
 have r0 := cell_of_row w2 _ 0 _ _ _ e2
 have r1 := cell_of_row w2 _ 1 _ _ _ e2
 have r2 := cell_of_row w2 _ 2 _ _ _ e2
 simp at r0 r1 r2
 have f0 := frozen_of_row w2 _ 0 _ _ e2
 have f1 := frozen_of_row w2 _ 1 _ _ e2
 have f2 := frozen_of_row w2 _ 2 _ _ e2
 have BQ := hide' (BB.out.trans (b2.mono BB.out.size))
 have HC := HF.out g hg
 clear hg b2 hw1 e2 x0 x1 x2 x3 x4 x5 x6 y0 y1 y2
 rcases HC with ⟨g0, rfl⟩ | ⟨rfl, rfl, hN⟩
 ·rw [show errOf f = .iface 56 (.int .i64 (f : Int)) from if_neg g0]
  have EF := hide' (show errOf f = .iface 56 (.int .i64 (f : Int)) from if_neg g0)
  clear g0
  go_wp2
  refine bodyPost_ret (v := .tuple #[.agg #[.int .i64 0, .int .i64 0, .int .i64 0], .iface 56 (.int .i64 (f : Int))]) (by simp [results, Tryz.results17, go_sem, r0, r1, r2]) rfl ?_
  exact ⟨by rw [EF.out], ((BQ.out.setCell (by simp; omega) _).setCell (by simp; omega) _).setCell (by simp; omega) _⟩
 ·rw [show errOf 0 = .nilIface from rfl]
  have tst : decide (N < 1) = true ∨ (decide (N < 1) = false ∧ 64 < N) := by
   by_cases t : N < 1
   ·left; simp [t]
   ·right; exact ⟨by simp; omega, by omega⟩
  clear hN
  rcases tst with t1 | ⟨t1, t2⟩
  all_goals (
   go_wp2
   refine bodyPost_ret (v := .tuple #[.agg #[.int .i64 0, .int .i64 0, .int .i64 0], .iface 56 (.int .i64 1)]) (by simp [results, Tryz.results17, go_sem, r0, r1, r2]) rfl ?_
   exact ⟨rfl, ((BQ.out.setCell (by simp; omega) _).setCell (by simp; omega) _).setCell (by simp; omega) _⟩)
structure PA (w w4 wr : World) (pf p : Nat) (Z0 Z : Array Value) : Prop where
 keep : ∀ k, k < w.heap.size + 1 + 1 + 1 → wr.heap[k]? = w4.heap[k]?
 fb : wr.heap[pf]? = some (.cells Z0 110 (0, 0))
 blk : wr.heap[p]? = some (.cells Z 110 (0, 0))
 pq : w.heap.size + 1 + 1 + 1 ≤ pf
 pl : pf < p
 below : Below w.heap.size w wr
theorem PA.next {w w4 wr w' : World} {pf p : Nat} {Z0 Z : Array Value} (h : PA w w4 wr pf p Z0 Z) (b : Below wr.heap.size wr w') : PA w w4 w' pf p Z0 Z := by
 have l := lt_of_block h.blk
 have := h.pl
 have := h.pq
 exact ⟨fun k hk => (b.block k (by omega)).trans (h.keep k hk), (b.block _ (by omega)).trans h.fb, (b.block _ l).trans h.blk, h.pq, h.pl, h.below.trans (b.mono h.below.size)⟩
theorem PA.setRow {w w4 wr : World} {pf p : Nat} {Z0 Z : Array Value} (h : PA w w4 wr pf p Z0 Z) (Y : Array Value) : PA w w4 (wr.setRow p Y) pf p Z0 Y :=
 ⟨fun k hk => (setRow_other _ _ _ _ (by have := h.pl; have := h.pq; omega)).trans (h.keep k hk), (setRow_other _ _ _ _ (by have := h.pl; omega)).trans h.fb, setRow_heap _ _ _ _ _ _ h.blk, h.pq, h.pl, below_setRow h.below (by have := h.pl; have := h.pq; omega) _⟩
theorem words_list (s : Gst) : ∃ L : List Value, L.length = 204 ∧ L.toArray = arrF 204 (uF (wX s.P)) ∧ ∀ (w : World) (p : Nat), w.heap[p]? = some (.cells (grV s) 110 (0, 0)) → w.rangeAt p 0 L := by
 refine ⟨(List.range 204).map (uF (wX s.P)), by simp, rfl, fun w p h j v hv => ?_⟩
 have hj : j < 204 := by
  rcases Nat.lt_or_ge j 204 with q | q
  ·exact q
  ·rw [List.getElem?_eq_none (by simp; omega)] at hv; cases hv
 rw [Nat.zero_add, cell_of_row w _ _ _ _ _ h, grV, arrF_get _ (by omega), grF, if_pos hj]
 rw [List.getElem?_map, List.getElem?_range hj] at hv
 exact hv
set_option maxRecDepth 100000 in
set_option maxHeartbeats 12800000 in
theorem again_good (o : Out) (ta : Option Addr) (tn tc : Nat) (W H : Nat) (xs : List Int) (a : Option Addr) (n c : Nat) (born stay m : Nat) (w : World) (hR : ArgR w o ta tn tc) (hP : ArgP w xs a n c) (hT : TzTab w) (h0 : ∀ g, grE o (W : Int) (H : Int) xs g → g = 0) (hb : o.born = (born : Int)) (hs : o.stay = (stay : Int)) (b5 : born ≤ 511) (s5 : stay ≤ 511) (bt : born.testBit 0 = false) (hn : xs.length = W * H) (hx : ∀ k, 0 ≤ xs.getD k 0 ∧ xs.getD k 0 ≤ 1) (hW : W ≤ 100) (hH : H ≤ 100) (hm1 : 1 ≤ m) (hm : m ≤ 64) :
  Calls Tryz.prog 17 #[.agg #[.int .i64 o.kind, .int .i64 o.born, .int .i64 o.stay, .int .i64 o.states, .int .i64 o.radius, .slice ta tn tc, .string o.turns], .agg #[.int .i64 (W : Int), .int .i64 (H : Int), .slice a n c], .int .i64 (m : Int)] w (AgainPost (agA born stay (firstG ⟨W, H, xs⟩) m) w) := by
 obtain ⟨w1, hw1⟩ : ∃ w1, ((w.alloc (.cells #[.int .i64 o.kind, .int .i64 o.born, .int .i64 o.stay, .int .i64 o.states, .int .i64 o.radius, .slice ta tn tc, .string o.turns] 24)).alloc (.cells #[.int .i64 (W : Int), .int .i64 (H : Int), .slice a n c] 26)).alloc (.cells #[.int .i64 0, .int .i64 0, .int .i64 0] 49) = w1 := ⟨_, rfl⟩
 have BB := hide' (show Below w.heap.size w w1 by rw [← hw1]; repeat (first | exact Below.refl _ _ | refine Below.alloc ?_ (by simp; try omega) _))
 have g0 : w1.heap[w.heap.size]? = some (.cells #[.int .i64 o.kind, .int .i64 o.born, .int .i64 o.stay, .int .i64 o.states, .int .i64 o.radius, .slice ta tn tc, .string o.turns] 24 (0, 0)) := by rw [← hw1, Below.heap_alloc _ _ _ (by simp; try omega), Below.heap_alloc _ _ _ (by simp; try omega)]; exact heap_atX _ _ _ (by simp)
 have g1 : w1.heap[w.heap.size + 1]? = some (.cells #[.int .i64 (W : Int), .int .i64 (H : Int), .slice a n c] 26 (0, 0)) := by rw [← hw1, Below.heap_alloc _ _ _ (by simp; try omega)]; exact heap_atX _ _ _ (by simp)
 have g2 : w1.heap[w.heap.size + 1 + 1]? = some (.cells #[.int .i64 0, .int .i64 0, .int .i64 0] 49 (0, 0)) := by rw [← hw1]; exact heap_atX _ _ _ (by simp)
 have s1 : w1.heap.size = w.heap.size + 1 + 1 + 1 := by rw [← hw1]; simp
 have x0 := cell_of_row w1 _ 0 _ _ _ g0
 have x1 := cell_of_row w1 _ 1 _ _ _ g0
 have x2 := cell_of_row w1 _ 2 _ _ _ g0
 have x3 := cell_of_row w1 _ 3 _ _ _ g0
 have x4 := cell_of_row w1 _ 4 _ _ _ g0
 have x5 := cell_of_row w1 _ 5 _ _ _ g0
 have x6 := cell_of_row w1 _ 6 _ _ _ g0
 simp at x0 x1 x2 x3 x4 x5 x6
 have y0 := cell_of_row w1 _ 0 _ _ _ g1
 have y1 := cell_of_row w1 _ 1 _ _ _ g1
 have y2 := cell_of_row w1 _ 2 _ _ _ g1
 simp at y0 y1 y2
 have CC := hide' (checkGrowth_any o ta tn tc (W : Int) (H : Int) xs a n c w1 (hR.below BB.out) (hP.below BB.out))
 have T1 := hide' (hT.below BB.out)
 have SP := hide' (fun (V : World) (hV : Below w1.heap.size w1 V) => settle_pat W H xs a n c V ((hP.below BB.out).below hV) hn hx hW hH (T1.out.below hV))
 have FO := hide' (first_ok (p := ⟨W, H, xs⟩) hx hW hH)
 have BX0 := hide' (show Bxd (firstG ⟨W, H, xs⟩) from box_bxd hx 0 0)
 obtain ⟨s0, hs0⟩ : ∃ s0, firstG ⟨W, H, xs⟩ = s0 := ⟨_, rfl⟩
 rw [hs0] at SP FO BX0 ⊢
 have GK := hide' (fun i u (h : growG born stay s0 i = some u) => grow_ok FO.out.1 FO.out.2.1 FO.out.2.2.1 FO.out.2.2.2 i u h)
 have GB := hide' (fun i u (h : growG born stay s0 i = some u) => grow_bxd BX0.out i u h)
 have STP := hide' (fun (u : Gst) (V : World) (hV : Below w.heap.size w V) (u1 : u.P.W ≤ 100) (u2 : u.P.H ≤ 100) (u3 : -100000000 ≤ u.r) (u4 : u.r ≤ 100000000) (u5 : -100000000 ≤ u.d) (u6 : u.d ≤ 100000000) => show Calls Tryz.prog 42 #[.agg (grV u), .agg #[.int .i64 o.kind, .int .i64 o.born, .int .i64 o.stay, .int .i64 o.states, .int .i64 o.radius, .slice ta tn tc, .string o.turns]] V (fun e w' => e = .returned (.agg (grV (nextG born stay u))) ∧ Below V.heap.size V w') from by
  rw [hb, hs]
  exact step_pat o.kind o.states o.radius born stay ta tn tc o.turns u V b5 s5 bt u1 u2 (hT.below hV) u3 u4 u5 u6)
 have B0 := hide' bt
 have G0 := hide' g0
 have G1 := hide' g1
 have G2 := hide' g2
 have S1 := hide' s1
 have H0 := hide' h0
 have n1 : decide ((m : Int) < 1) = false := by simp; omega
 have n2 : ¬ (64 : Int) < (m : Int) := by omega
 have RA := hide' (show ∀ x, agA born stay s0 m = x → ∀ (V : World), Below w.heap.size w V → AgainPost (agA born stay s0 m) w (.returned (.tuple #[agV x, errOf x.f])) V from fun x hx V hV => ⟨by rw [hx], hV⟩)
 clear hR hP g0 g1 g2 s1 h0 hb hs hT hn hx b5 s5 bt hs0
 go_enter Tryz.func17, Tryz.ntmps17
 go_wp2_with fail
 refine CC.out.mono ?_
 rintro e w2 ⟨⟨g, hg, rfl⟩, b2⟩
 rw [H0.out g hg]
 rw [show errOf 0 = .nilIface from rfl]
 have e1 := (b2.block _ (lt_of_block G1.out)).trans G1.out
 have z0 := cell_of_row w2 _ 0 _ _ _ e1
 have z1 := cell_of_row w2 _ 1 _ _ _ e1
 have z2 := cell_of_row w2 _ 2 _ _ _ e1
 simp at z0 z1 z2
 have B2 := hide' b2
 have SP2 := hide' (SP.out w2 b2)
 clear hg b2 hw1 e1 x0 x1 x2 x3 x4 x5 x6 y0 y1 y2
 go_wp2_with fail
 refine SP2.out.mono ?_
 rintro e w3 ⟨rfl, b3⟩
 obtain ⟨p, hp⟩ : ∃ p, w3.heap.size = p := ⟨_, rfl⟩
 have hz : (w3.alloc (.cells Tryz.zeroCells110 110)).heap[p]? = some (.cells Tryz.zeroCells110 110 (0, 0)) := by rw [← hp]; exact heap_alloc_new _ _
 have B3 := hide' (show Below w1.heap.size w1 w3 from B2.out.trans (b3.mono B2.out.size))
 have PZ := hide' (show PG w w1 ((w3.alloc (.cells Tryz.zeroCells110 110)).setRow p (grV s0)) p (grV s0) from by
  have a1 := B3.out.size
  have a2 := S1.out
  have q : PG w w1 (w3.alloc (.cells Tryz.zeroCells110 110)) p Tryz.zeroCells110 := ⟨fun k hk => (Below.heap_alloc _ _ _ (by omega)).trans (B3.out.block k (by omega)), hz, by omega, ((BB.out.trans (B3.out.mono BB.out.size)).alloc (by have := BB.out.size; omega) _)⟩
  exact q.setRow _)
 obtain ⟨L0, ll0, la0, lr0⟩ := words_list s0
 have LR0 := hide' lr0
 have LA0 := hide' la0
 obtain ⟨Z0, hZ0⟩ : ∃ Z0, grV s0 = Z0 := ⟨_, rfl⟩
 have zs : Z0.size = 208 := by rw [← hZ0]; exact grV_size _
 have za : Z0.all (·.oneCell') = true := by rw [← hZ0]; exact grV_all _
 have zc5 : Z0[205]? = some (.int .i64 (s0.P.H : Int)) := by rw [← hZ0, grV, arrF_get _ (by omega)]; rfl
 have zc6 : Z0[206]? = some (.int .i64 s0.r) := by rw [← hZ0, grV, arrF_get _ (by omega)]; rfl
 have zc7 : Z0[207]? = some (.int .i64 s0.d) := by rw [← hZ0, grV, arrF_get _ (by omega)]; rfl
 rw [hZ0] at PZ LR0 ⊢
 have HZ0 := hide' hZ0
 obtain ⟨w5, hw5⟩ : ∃ w5, (w3.alloc (.cells Tryz.zeroCells110 110)).setRow p Z0 = w5 := ⟨_, rfl⟩
 rw [hw5] at PZ
 have g5 := PZ.out.blk
 have hh : w5.cell? ⟨p, 205, none⟩ = some (.int .i64 (s0.P.H : Int)) := by rw [cell_of_row w5 _ _ _ _ _ g5, zc5]
 clear b3 hZ0 z0 z1 z2 lr0 la0
 by_cases sz : s0.P.H = 0
 ·have AN := hide' (show agA born stay s0 m = ⟨0, 0, 0, 5⟩ from by unfold agA; rw [if_pos ((bxd_wide BX0.out).2 sz)])
  have t3 : ((s0.P.H : Int) == 0) = true := by simp [sz]
  have E5 := hide' ((PZ.out.keep _ (by omega)).trans G2.out)
  have r0 := cell_of_row w5 _ 0 _ _ _ E5.out
  have r1 := cell_of_row w5 _ 1 _ _ _ E5.out
  have r2 := cell_of_row w5 _ 2 _ _ _ E5.out
  simp at r0 r1 r2
  have f0 := frozen_of_row w5 _ 0 _ _ E5.out
  have f1 := frozen_of_row w5 _ 1 _ _ E5.out
  have f2 := frozen_of_row w5 _ 2 _ _ E5.out
  have BE := hide' PZ.out.below
  clear sz
  go_wp2_with (first
   | (refine wpList_store_row rfl 110 _ _ rfl p Z0 rfl rfl 110 _ hz (by rw [zs]; kernel_rfl) (by rw [zs, zero_grown, arrF_size]) za ?_; rw [hw5]))
  refine bodyPost_ret (v := .tuple #[.agg #[.int .i64 0, .int .i64 0, .int .i64 0], .iface 56 (.int .i64 5)]) (by simp [results, Tryz.results17, go_sem, r0, r1, r2]) rfl ?_
  exact RA.out ⟨0, 0, 0, 5⟩ AN.out _ (((BE.out.setCell (by simp; omega) _).setCell (by simp; omega) _).setCell (by simp; omega) _)
 ·have t3 : ((s0.P.H : Int) == 0) = false := by simp [sz]
  have S0W := hide' (show s0.P.W ≠ 0 from fun h => sz ((bxd_wide BX0.out).1 h))
  obtain ⟨q, hq⟩ : ∃ q, w5.heap.size = q := ⟨_, rfl⟩
  have hzq : (w5.alloc (.cells Tryz.zeroCells110 110)).heap[q]? = some (.cells Tryz.zeroCells110 110 (0, 0)) := by rw [← hq]; exact heap_alloc_new _ _
  have PAZ := hide' (show PA w w1 ((w5.alloc (.cells Tryz.zeroCells110 110)).setRow q Z0) p q Z0 Z0 from by
   have l := lt_of_block g5
   have a1 := PZ.out.pl
   have r : PA w w1 (w5.alloc (.cells Tryz.zeroCells110 110)) p q Z0 Tryz.zeroCells110 := ⟨fun k hk => (Below.heap_alloc _ _ _ (by omega)).trans (PZ.out.keep k hk), (Below.heap_alloc _ _ _ (by omega)).trans g5, hzq, by omega, by omega, PZ.out.below.alloc PZ.out.below.size _⟩
   exact r.setRow _)
  clear sz
  go_wp2_with (first
   | (refine wpList_store_row rfl 110 _ _ rfl p Z0 rfl rfl 110 _ hz (by rw [zs]; kernel_rfl) (by rw [zs, zero_grown, arrF_size]) za ?_; rw [hw5])
   | (refine wpList_load_row rfl 110 _ rfl p rfl 110 Z0 (0, 0) _ g5 Tryz.underlying110 rfl (by rw [zs]; kernel_rfl) ?_)
   | (refine wpList_store_row rfl 110 _ _ rfl q Z0 rfl rfl 110 _ hzq (by rw [zs]; kernel_rfl) (by rw [zs, zero_grown, arrF_size]) za ?_))
  obtain ⟨w6, hw6⟩ : ∃ w6, (w5.alloc (.cells Tryz.zeroCells110 110)).setRow q Z0 = w6 := ⟨_, rfl⟩
  rw [hw6] at PAZ
  try rw [hw6]
  clear hw6 hzq hw5 hz hp hq g5 hh
  go_loopw [11] (fun iv wr => ∃ (i j : Nat) (u : Gst), iv = .int .i64 (i : Int) ∧ Hid (i = j + 1) ∧ i ≤ m + 1 ∧ Hid (growG born stay s0 j = some u) ∧ Hid (agA born stay s0 m = agn born stay s0 (m - j) j u) ∧ Hid (PA w w1 wr p q Z0 (grV u))) (fun iv _ => m + 1 - (intOf iv).toNat)
  case atStart => exact ⟨1, 0, s0, rfl, hide' rfl, by omega, hide' rfl, hide' (by unfold agA; rw [if_neg S0W.out]; rfl), hide' (by rw [HZ0.out]; exact PAZ.out)⟩
  case round =>
   obtain ⟨i, j, u, rfl, HI, hi, HG, HA, HP⟩ := hrel
   obtain ⟨o1, o2, o3, o4, o5, o6, o7⟩ := GK.out j u HG.out
   have jm : j ≤ 64 := by have := HI.out; omega
   by_cases d1 : (i : Int) ≤ (m : Int)
   ·have JM := hide' (show j < m by have := HI.out; omega)
    have AN := hide' (show agA born stay s0 m = if 100 < (nextG born stay u).P.W ∨ 100 < (nextG born stay u).P.H then ⟨0, 0, 0, 4⟩ else if sameP (nextG born stay u).P s0.P then ⟨j + 1, (nextG born stay u).r - s0.r, (nextG born stay u).d - s0.d, 0⟩ else agn born stay s0 (m - (j + 1)) (j + 1) (nextG born stay u) from by
     rw [HA.out, show m - j = (m - (j + 1)) + 1 by have := JM.out; omega, agn])
    have GN := hide' (show growG born stay s0 (j + 1) = if 100 < (nextG born stay u).P.W ∨ 100 < (nextG born stay u).P.H then none else some (nextG born stay u) by rw [growG, HG.out])
    have BXT := hide' (show Bxd (nextG born stay u) from box_bxd (next_bits born stay u.P) _ _)
    have SC := hide' (STP.out u wr HP.out.below o2 o3 (by omega) (by omega) (by omega) (by omega))
    obtain ⟨t, ht⟩ : ∃ t, nextG born stay u = t := ⟨_, rfl⟩
    rw [ht] at SC AN GN BXT
    have TGC := hide' (fun V => tooGreat_any (wX t.P) (t.P.W : Int) (t.P.H : Int) t.r t.d V)
    have e0 := (HP.out.keep _ (by omega)).trans G0.out
    have x0 := cell_of_row wr _ 0 _ _ _ e0
    have x1 := cell_of_row wr _ 1 _ _ _ e0
    have x2 := cell_of_row wr _ 2 _ _ _ e0
    have x3 := cell_of_row wr _ 3 _ _ _ e0
    have x4 := cell_of_row wr _ 4 _ _ _ e0
    have x5 := cell_of_row wr _ 5 _ _ _ e0
    have x6 := cell_of_row wr _ 6 _ _ _ e0
    simp at x0 x1 x2 x3 x4 x5 x6
    obtain ⟨Lt, llt, lat, lrt⟩ := words_list t
    have LRT := hide' lrt
    have LAT := hide' lat
    obtain ⟨Zu, hZu⟩ : ∃ Z, grV u = Z := ⟨_, rfl⟩
    obtain ⟨Zt, hZt⟩ : ∃ Z, grV t = Z := ⟨_, rfl⟩
    have gu := HP.out.blk
    rw [hZu] at gu SC
    rw [hZt] at SC LRT
    rw [show arrF 208 (grF (wX t.P) (t.P.W : Int) (t.P.H : Int) t.r t.d) = Zt from hZt] at TGC
    have us : Zu.size = 208 := by rw [← hZu]; exact grV_size _
    have ts : Zt.size = 208 := by rw [← hZt]; exact grV_size _
    have tal : Zt.all (·.oneCell') = true := by rw [← hZt]; exact grV_all _
    have tc6 : Zt[206]? = some (.int .i64 t.r) := by rw [← hZt, grV, arrF_get _ (by omega)]; rfl
    have tc7 : Zt[207]? = some (.int .i64 t.d) := by rw [← hZt, grV, arrF_get _ (by omega)]; rfl
    have HPH := hide' (show PA w w1 wr p q Z0 Zu from by rw [← hZu]; exact HP.out)
    have HZT := hide' hZt
    clear ht e0 hZu hZt o1 o2 o3 o4 o5 o6 o7 HP lrt lat
    go_wp2_with (first
     | (refine wpList_load_row rfl 110 _ rfl q rfl 110 Zu (0, 0) _ gu Tryz.underlying110 rfl (by rw [us]; kernel_rfl) ?_)
     | (go_at_call 42; refine SC.out.mono ?_))
    rintro e w6' ⟨rfl, b6⟩
    have H6 := hide' (HPH.out.next b6)
    have g6 := H6.out.blk
    clear b6 gu x0 x1 x2 x3 x4 x5 x6
    obtain ⟨w7, hw7⟩ : ∃ w7, w6'.setRow q Zt = w7 := ⟨_, rfl⟩
    have H7 := hide' (show PA w w1 w7 p q Z0 Zt from by rw [← hw7]; exact H6.out.setRow Zt)
    have g7 := H7.out.blk
    go_wp2_with (first
     | (refine wpList_store_row rfl 110 _ _ rfl q Zt rfl rfl 110 _ g6 (by rw [ts]; kernel_rfl) (by rw [ts, us]) tal ?_; rw [hw7])
     | (refine wpList_load_row rfl 110 _ rfl q rfl 110 Zt (0, 0) _ g7 Tryz.underlying110 rfl (by rw [ts]; kernel_rfl) ?_)
     | (go_at_call 43; refine (TGC.out _).mono ?_))
    rintro e w8 ⟨rfl, b8⟩
    have H8 := hide' (H7.out.next b8)
    have E2 := hide' ((H8.out.keep _ (by omega)).trans G2.out)
    have r0 := cell_of_row w8 _ 0 _ _ _ E2.out
    have r1 := cell_of_row w8 _ 1 _ _ _ E2.out
    have r2 := cell_of_row w8 _ 2 _ _ _ E2.out
    simp at r0 r1 r2
    have f0 := frozen_of_row w8 _ 0 _ _ E2.out
    have f1 := frozen_of_row w8 _ 1 _ _ E2.out
    have f2 := frozen_of_row w8 _ 2 _ _ E2.out
    have BE := hide' H8.out.below
    clear b8 g6 g7 hw7
    by_cases big : 100 < t.P.W ∨ 100 < t.P.H
    ·have bb : (decide ((100 : Int) < (t.P.W : Int)) || decide ((100 : Int) < (t.P.H : Int))) = true := by
      rcases big with k | k
      ·simp; omega
      ·simp; omega
     have AB := hide' (show agA born stay s0 m = ⟨0, 0, 0, 4⟩ by rw [AN.out, if_pos big])
     rw [bb]
     clear big bb
     go_wp2
     refine bodyPost_ret (v := .tuple #[.agg #[.int .i64 0, .int .i64 0, .int .i64 0], .iface 56 (.int .i64 4)]) (by simp [results, Tryz.results17, go_sem, r0, r1, r2]) rfl ?_
     exact RA.out ⟨0, 0, 0, 4⟩ AB.out _ (((BE.out.setCell (by simp; omega) _).setCell (by simp; omega) _).setCell (by simp; omega) _)
    ·have bb : (decide ((100 : Int) < (t.P.W : Int)) || decide ((100 : Int) < (t.P.H : Int))) = false := by
      simp; omega
     have NN := hide' (show growG born stay s0 (j + 1) = some t by have h1 := GN.out; rw [if_neg big] at h1; exact h1)
     have AC := hide' (show agA born stay s0 m = if sameP t.P s0.P then ⟨j + 1, t.r - s0.r, t.d - s0.d, 0⟩ else agn born stay s0 (m - (j + 1)) (j + 1) t by rw [AN.out, if_neg big])
     have QE : ∀ V, (Op.equalIn 10000 108 (.agg Lt.toArray) (.agg L0.toArray)).run Tryz.prog V = .ok (sameP t.P s0.P) V := fun V => by
      have k := GK.out (j + 1) t NN.out
      have ws := words_same BXT.out BX0.out (by omega) (by omega) (by have := FO.out.2.1; omega) (by have := FO.out.2.2.1; omega)
      rw [LAT.out, LA0.out]
      exact sheet_eq _ _ _ ws.symm V
     have rt := LRT.out w8 q H8.out.blk
     have r0' := LR0.out w8 p H8.out.fb
     rw [bb]
     obtain ⟨k1, k2, k3, k4, k5, k6, k7⟩ := GK.out (j + 1) t NN.out
     obtain ⟨fo1, fo2, fo3, fo4⟩ := FO.out.2.2.2
     have v1 : w8.cell? ⟨q, 206, none⟩ = some (.int .i64 t.r) := by rw [cell_of_row w8 _ _ _ _ _ H8.out.blk, tc6]
     have v2 : w8.cell? ⟨q, 207, none⟩ = some (.int .i64 t.d) := by rw [cell_of_row w8 _ _ _ _ _ H8.out.blk, tc7]
     have v3 : w8.cell? ⟨p, 206, none⟩ = some (.int .i64 s0.r) := by rw [cell_of_row w8 _ _ _ _ _ H8.out.fb, zc6]
     have v4 : w8.cell? ⟨p, 207, none⟩ = some (.int .i64 s0.d) := by rw [cell_of_row w8 _ _ _ _ _ H8.out.fb, zc7]
     obtain ⟨sm, hsm⟩ : ∃ sm, sameP t.P s0.P = sm := ⟨_, rfl⟩
     rw [hsm] at QE AC
     clear big bb hsm k1
     cases sm with
     | true =>
      have AB := hide' (show agA born stay s0 m = ⟨j + 1, t.r - s0.r, t.d - s0.d, 0⟩ by rw [AC.out, if_pos rfl])
      have w1' : IntKind.i64.wrap (t.r - s0.r) = t.r - s0.r := wrap_near (by omega) (by omega)
      have w2' : IntKind.i64.wrap (t.d - s0.d) = t.d - s0.d := wrap_near (by omega) (by omega)
      go_wp2_with (first
       | (refine wpList_load_mid rfl 108 _ rfl q 0 rfl Lt _ rt Tryz.underlying108 rfl (by rw [llt]; kernel_rfl) ?_)
       | (refine wpList_load_mid rfl 108 _ rfl p 0 rfl L0 _ r0' Tryz.underlying108 rfl (by rw [ll0]; kernel_rfl) ?_))
      refine bodyPost_ret (v := .tuple #[.agg #[.int .i64 (i : Int), .int .i64 (t.r - s0.r), .int .i64 (t.d - s0.d)], .nilIface]) (by simp [results, Tryz.results17, go_sem, r0, r1, r2]) rfl ?_
      refine ⟨?_, ((BE.out.setCell (by simp; omega) _).setCell (by simp; omega) _).setCell (by simp; omega) _⟩
      rw [AB.out]
      unfold agV
      dsimp only
      rw [HI.out]
      rfl
     | false =>
      have AB := hide' (show agA born stay s0 m = agn born stay s0 (m - (j + 1)) (j + 1) t by rw [AC.out, if_neg (by simp)])
      go_wp2_with (first
       | (refine wpList_load_mid rfl 108 _ rfl q 0 rfl Lt _ rt Tryz.underlying108 rfl (by rw [llt]; kernel_rfl) ?_)
       | (refine wpList_load_mid rfl 108 _ rfl p 0 rfl L0 _ r0' Tryz.underlying108 rfl (by rw [ll0]; kernel_rfl) ?_))
      exact ⟨⟨i + 1, j + 1, t, by go_num, hide' (by have := HI.out; omega), by omega, NN, AB, hide' (by rw [HZT.out]; exact H8.out)⟩, by simp [intOf]; omega⟩
   ·have JM : j = m := by have := HI.out; omega
    have AB := hide' (show agA born stay s0 m = ⟨0, 0, 0, 5⟩ by rw [HA.out, JM, Nat.sub_self]; rfl)
    have E2 := hide' ((HP.out.keep _ (by omega)).trans G2.out)
    have r0 := cell_of_row wr _ 0 _ _ _ E2.out
    have r1 := cell_of_row wr _ 1 _ _ _ E2.out
    have r2 := cell_of_row wr _ 2 _ _ _ E2.out
    simp at r0 r1 r2
    have f0 := frozen_of_row wr _ 0 _ _ E2.out
    have f1 := frozen_of_row wr _ 1 _ _ E2.out
    have f2 := frozen_of_row wr _ 2 _ _ E2.out
    have BE := hide' HP.out.below
    clear JM HP o1
    go_wp2
    refine bodyPost_ret (v := .tuple #[.agg #[.int .i64 0, .int .i64 0, .int .i64 0], .iface 56 (.int .i64 5)]) (by simp [results, Tryz.results17, go_sem, r0, r1, r2]) rfl ?_
    exact RA.out ⟨0, 0, 0, 5⟩ AB.out _ (((BE.out.setCell (by simp; omega) _).setCell (by simp; omega) _).setCell (by simp; omega) _)
def lifeO : Out := ⟨1, 8, 12, 0, 0, [], ⟨#[]⟩⟩
theorem life_ok : plaE lifeO 3 1 [1, 1, 1] 0 := Or.inr (Or.inr (Or.inr ⟨Or.inl ⟨rfl, by decide, by decide, by decide, by rw [ByteArray.toList_eq]; rfl⟩, by decide, rfl, rfl⟩))
theorem life_grows : growG 8 12 (firstG ⟨3, 1, [1, 1, 1]⟩) 1 = some ⟨⟨1, 3, [1, 1, 1]⟩, 1, -1⟩ := by kernel_rfl
set_option maxRecDepth 100000 in
set_option maxHeartbeats 6400000 in
theorem lives_any (w : World) (hT : TzTab w) : Calls Tryz.prog 16 #[] w fun e w' => e = .returned (.bool true) ∧ Below w.heap.size w w' := by
 have GC := hide' (fun (V : World) (hV : Below w.heap.size w V) (g : Nat) (hg : V.heap[g]? = some (.cells #[.int .i64 1, .int .i64 1, .int .i64 1] 3 (0, 0))) => show Calls Tryz.prog 18 #[.agg #[.int .i64 1, .int .i64 8, .int .i64 12, .int .i64 0, .int .i64 0, .slice none 0 0, .string ⟨#[]⟩], .agg #[.int .i64 3, .int .i64 1, .slice (some ⟨g, 0, none⟩) 3 3], .int .i64 1] V (fun e w' => (∃ q, e = .returned (.tuple #[.agg #[.int .i64 1, .int .i64 3, .slice (some ⟨q, 0, none⟩) 3 3], .int .i64 1, .int .i64 (-1), .nilIface])) ∧ Below V.heap.size V w') from by
  have hP : ArgP V [1, 1, 1] (some ⟨g, 0, none⟩) 3 3 := ⟨rfl, by unfold maxLen; omega, fun k hk => ⟨g, 0, rfl, lt_of_block hg, by
   rw [cell_of_row V _ _ _ _ _ hg]
   have : k = 0 ∨ k = 1 ∨ k = 2 := by simp at hk; omega
   rcases this with rfl | rfl | rfl <;> rfl⟩⟩
  have hR : ArgR V lifeO none 0 0 := ⟨rfl, by unfold maxLen; omega, by show (0 : Nat) ≤ maxLen; unfold maxLen; omega, fun k hk => by simp [lifeO] at hk, by show (0 : Int) ≤ 9223372036854775807; omega⟩
  have t := grow_good lifeO none 0 0 3 1 [1, 1, 1] (some ⟨g, 0, none⟩) 3 3 8 12 1 V hR hP (hT.below hV) (by
   rintro f (⟨g', h1, h2, h3⟩ | ⟨h1, h2, h3⟩ | ⟨h1, h2, h3⟩)
   ·exact absurd (plaE_only h1 life_ok) h2
   ·simp [lifeO] at h2
   ·exact h3) rfl rfl (by omega) (by omega) (by decide) rfl (fun k => by
    by_cases h : k < 3
    ·have : k = 0 ∨ k = 1 ∨ k = 2 := by omega
     rcases this with rfl | rfl | rfl <;> simp
    ·have e : ([1, 1, 1] : List Int).getD k 0 = 0 := by simp [List.getD, h]
     rw [e]; omega) (by omega) (by omega) (by omega)
  refine t.mono ?_
  rintro e w' (⟨h, _⟩ | ⟨u, q, h, rfl, _, b⟩)
  ·rw [life_grows] at h; cases h
  ·rw [life_grows] at h
   injection h with h
   subst h
   exact ⟨⟨q, rfl⟩, b⟩)
 obtain ⟨w1, hw1⟩ : ∃ w1, (w.alloc (.cells #[.int .i64 1, .int .i64 8, .int .i64 12, .int .i64 0, .int .i64 0, .slice none 0 0, .string ⟨#[]⟩] 24)).alloc (.cells #[.int .i64 1, .int .i64 1, .int .i64 1] 3) = w1 := ⟨_, rfl⟩
 have BB := hide' (show Below w.heap.size w w1 by rw [← hw1]; repeat (first | exact Below.refl _ _ | refine Below.alloc ?_ (by simp; try omega) _))
 have G1 := hide' (show w1.heap[w.heap.size + 1]? = some (.cells #[.int .i64 1, .int .i64 1, .int .i64 1] 3 (0, 0)) by rw [← hw1]; exact heap_atX _ _ _ (by simp))
 clear hT
 go_enter Tryz.func16, Tryz.ntmps16
 go_wp2_with fail
 try rw [hw1]
 refine (GC.out w1 BB.out _ G1.out).mono ?_
 rintro e w2 ⟨⟨q, rfl⟩, b⟩
 have BQ := hide' ((BB.out.trans (b.mono BB.out.size)).alloc (by have := BB.out.size; have := b.size; omega) (.cells #[.int .i64 1, .int .i64 3, .slice (some ⟨q, 0, none⟩) 3 3] 26))
 clear hw1 b
 go_wp2
 go_ret
 exact ⟨rfl, BQ.out⟩
theorem plaE_has (o : Out) (W H : Int) (xs : List Int) : ∃ f, plaE o W H xs f := by
 by_cases g : Good o
 ·by_cases s : shapeF W H xs = 0
  ·by_cases k : o.kind = 1
   ·exact ⟨0, Or.inr (Or.inr (Or.inr ⟨g, s, k, rfl⟩))⟩
   ·exact ⟨1, Or.inr (Or.inr (Or.inl ⟨g, s, k, rfl⟩))⟩
  ·exact ⟨_, Or.inr (Or.inl ⟨g, s, rfl⟩)⟩
 ·exact ⟨1, Or.inl ⟨g, rfl⟩⟩
end Go.Proofs.YtemhcpldflcfbaaGreatDoor
