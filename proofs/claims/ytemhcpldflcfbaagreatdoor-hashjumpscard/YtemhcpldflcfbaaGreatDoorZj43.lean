/-
  What the last text of this claim leans on, part 43: Gv2, Hs5.
-/
import Derived.Test.YtemhcpldflcfbaaGreatDoorZj41
import Derived.Test.YtemhcpldflcfbaaGreatDoorZj42
import Derived.Test.YtemhcpldflcfbaaGreatDoorZj35
import Derived.Deep.CutRange
namespace Go.Proofs.YtemhcpldflcfbaaGreatDoor
open Go.RowKit
set_option linter.unusedVariables false
def agV (x : AgR) : Value := .agg #[.int .i64 (x.n : Int), .int .i64 x.r, .int .i64 x.d]
theorem three_row {w : World} {g : Nat} {x0 x1 x2 : Value} {t : TypeId} (h : w.heap[g]? = some (.cells #[x0, x1, x2] t (0, 0))) (a b c : Value) :
  (((w.setCell ⟨g, 0, none⟩ a).setCell ⟨g, 1, none⟩ b).setCell ⟨g, 2, none⟩ c).heap[g]? = some (.cells #[a, b, c] t (0, 0)) := by
 have h0 : (w.setCell ⟨g, 0, none⟩ a).heap[g]? = some (.cells #[a, x1, x2] t (0, 0)) := by rw [heap_setCell_same _ _ _ _ _ _ h]; rfl
 have h1 : ((w.setCell ⟨g, 0, none⟩ a).setCell ⟨g, 1, none⟩ b).heap[g]? = some (.cells #[a, b, x2] t (0, 0)) := by rw [heap_setCell_same _ _ _ _ _ _ h0]; rfl
 rw [heap_setCell_same _ _ _ _ _ _ h1]; rfl
def AgInv (born stay : Nat) (s0 : Gst) (m j : Nat) (u : Gst) : Prop := (u.P.W = 0 → agA born stay s0 m = ⟨0, 0, 0, 5⟩) ∧ (u.P.W ≠ 0 → agA born stay s0 m = agn born stay s0 (m - j) j u ∧ s0.P.W ≠ 0)
theorem AgInv.start (born stay : Nat) (s0 : Gst) (m : Nat) : AgInv born stay s0 m 0 s0 := ⟨fun h => by unfold agA; rw [if_pos h], fun h => ⟨by unfold agA; rw [if_neg h]; rfl, h⟩⟩
theorem AgInv.last {born stay : Nat} {s0 : Gst} {m : Nat} {u : Gst} (h : AgInv born stay s0 m m u) : agA born stay s0 m = ⟨0, 0, 0, 5⟩ := by
 by_cases z : u.P.W = 0
 ·exact h.1 z
 ·rw [(h.2 z).1, Nat.sub_self]; rfl
theorem AgInv.big {born stay : Nat} {s0 : Gst} {m j : Nat} {u : Gst} (h : AgInv born stay s0 m j u) (hj : j < m) (z : u.P.W ≠ 0) (b : 100 < (nextG born stay u).P.W ∨ 100 < (nextG born stay u).P.H) : agA born stay s0 m = ⟨0, 0, 0, 4⟩ := by
 rw [(h.2 z).1, show m - j = (m - (j + 1)) + 1 by omega, agn, if_pos b]
theorem AgInv.found {born stay : Nat} {s0 : Gst} {m j : Nat} {u : Gst} (h : AgInv born stay s0 m j u) (hj : j < m) (z : u.P.W ≠ 0) (b : ¬ (100 < (nextG born stay u).P.W ∨ 100 < (nextG born stay u).P.H)) (k : sameP (nextG born stay u).P s0.P = true) : agA born stay s0 m = ⟨j + 1, (nextG born stay u).r - s0.r, (nextG born stay u).d - s0.d, 0⟩ := by
 rw [(h.2 z).1, show m - j = (m - (j + 1)) + 1 by omega, agn, if_neg b, if_pos k]
theorem AgInv.next {born stay : Nat} {s0 : Gst} {m j : Nat} {u : Gst} (b0 : born.testBit 0 = false) (h : AgInv born stay s0 m j u) (hj : j < m) (z : u.P.W ≠ 0) (b : ¬ (100 < (nextG born stay u).P.W ∨ 100 < (nextG born stay u).P.H)) (k : sameP (nextG born stay u).P s0.P = false) : AgInv born stay s0 m (j + 1) (nextG born stay u) := by
 have e : agA born stay s0 m = agn born stay s0 (m - (j + 1)) (j + 1) (nextG born stay u) := by
  rw [(h.2 z).1, show m - j = (m - (j + 1)) + 1 by omega, agn, if_neg b, if_neg (by rw [k]; simp)]
 refine ⟨fun t => ?_, fun _ => ⟨e, (h.2 z).2⟩⟩
 have tn : nextG born stay u = noG := box_zero t
 rw [e, tn]
 exact agn_noG b0 (h.2 z).2 _ _
structure GA (w w4 wr : World) (pf p : Nat) (s0 : Gst) (v0 : Value) (s : Gst) (v : Value) : Prop where
 keep : ∀ k, k < w.heap.size + 1 + 1 + 1 → wr.heap[k]? = w4.heap[k]?
 fb : wr.heap[pf]? = some (.cells #[.int .i64 (s0.P.W : Int), .int .i64 (s0.P.H : Int), v0, .int .i64 s0.r, .int .i64 s0.d] 39 (0, 0))
 ft : Tab wr v0 s0.P.xs
 ff : ∀ g k c, v0 = .slice (some ⟨g, 0, none⟩) k c → w.heap.size + 1 + 1 + 1 ≤ g ∧ g ≠ p
 blk : wr.heap[p]? = some (.cells #[.int .i64 (s.P.W : Int), .int .i64 (s.P.H : Int), v, .int .i64 s.r, .int .i64 s.d] 39 (0, 0))
 tab : Tab wr v s.P.xs
 fr : ∀ g k c, v = .slice (some ⟨g, 0, none⟩) k c → w.heap.size + 1 + 1 + 1 ≤ g ∧ g ≠ p
 pq : w.heap.size + 1 + 1 + 1 ≤ pf
 pl : pf < p
 below : Below w.heap.size w wr
theorem GA.next {w w4 wr w' : World} {pf p : Nat} {s0 s : Gst} {v0 v : Value} (h : GA w w4 wr pf p s0 v0 s v) (b : Below wr.heap.size wr w') : GA w w4 w' pf p s0 v0 s v := by
 have l := lt_of_block h.blk
 have lf := lt_of_block h.fb
 have := h.pl
 have := h.pq
 exact ⟨fun k hk => (b.block k (by omega)).trans (h.keep k hk), (b.block _ lf).trans h.fb, tab_below h.ft b, h.ff, (b.block _ l).trans h.blk, tab_below h.tab b, h.fr, h.pq, h.pl, h.below.trans (b.mono h.below.size)⟩
def RefAgainPost (born stay : Nat) (s0 : Gst) (m : Nat) (w : World) (e : Ending) (w' : World) : Prop := e = .returned (.tuple #[agV (agA born stay s0 m), .int .i64 ((agA born stay s0 m).f : Int)]) ∧ Below w.heap.size w w'
set_option maxRecDepth 100000 in
set_option maxHeartbeats 12800000 in
theorem refAgain_ok (kd st ra : Int) (born stay : Nat) (ta : Option Addr) (tn tc : Nat) (sb : ByteArray) (W H : Nat) (xs : List Int) (a : Option Addr) (n c : Nat) (m : Nat) (w : World) (hb : born ≤ 511) (hs : stay ≤ 511) (hP : ArgP w xs a n c) (hn : n = W * H) (hx : ∀ k, 0 ≤ xs.getD k 0 ∧ xs.getD k 0 ≤ 1) (hW : W ≤ 100) (hH : H ≤ 100) (b0 : bitN born 0 = 0) (hm1 : 1 ≤ m) (hm : m ≤ 64) :
  Calls Tryz.prog 33 #[.agg #[.int .i64 kd, .int .i64 (born : Int), .int .i64 (stay : Int), .int .i64 st, .int .i64 ra, .slice ta tn tc, .string sb], .agg #[.int .i64 (W : Int), .int .i64 (H : Int), .slice a n c], .int .i64 (m : Int)] w (RefAgainPost born stay (firstG ⟨W, H, xs⟩) m w) := by
 obtain ⟨w4, hw4⟩ : ∃ w4, ((w.alloc (.cells #[.int .i64 kd, .int .i64 (born : Int), .int .i64 (stay : Int), .int .i64 st, .int .i64 ra, .slice ta tn tc, .string sb] 24)).alloc (.cells #[.int .i64 (W : Int), .int .i64 (H : Int), .slice a n c] 26)).alloc (.cells #[.int .i64 0, .int .i64 0, .int .i64 0] 49) = w4 := ⟨_, rfl⟩
 have BB := hide' (show Below w.heap.size w w4 by rw [← hw4]; repeat (first | exact Below.refl _ _ | refine Below.alloc ?_ (by simp; try omega) _))
 have g0 : w4.heap[w.heap.size]? = some (.cells #[.int .i64 kd, .int .i64 (born : Int), .int .i64 (stay : Int), .int .i64 st, .int .i64 ra, .slice ta tn tc, .string sb] 24 (0, 0)) := by rw [← hw4, Below.heap_alloc _ _ _ (by simp; try omega), Below.heap_alloc _ _ _ (by simp; try omega)]; exact heap_atX _ _ _ (by simp)
 have g1 : w4.heap[w.heap.size + 1]? = some (.cells #[.int .i64 (W : Int), .int .i64 (H : Int), .slice a n c] 26 (0, 0)) := by rw [← hw4, Below.heap_alloc _ _ _ (by simp; try omega)]; exact heap_atX _ _ _ (by simp)
 have g2 : w4.heap[w.heap.size + 1 + 1]? = some (.cells #[.int .i64 0, .int .i64 0, .int .i64 0] 49 (0, 0)) := by rw [← hw4]; exact heap_atX _ _ _ (by simp)
 have s4 : w4.heap.size = w.heap.size + 1 + 1 + 1 := by rw [← hw4]; simp
 have c1 := cell_of_row w4 _ 1 _ _ _ g0
 simp at c1
 have p0 := cell_of_row w4 _ 0 _ _ _ g1
 have p1 := cell_of_row w4 _ 1 _ _ _ g1
 have p2 := cell_of_row w4 _ 2 _ _ _ g1
 simp at p0 p1 p2
 have CB := hide' (fun w => show Calls Tryz.prog 64 #[.int .i64 (born : Int), .int .i64 0] w _ from refBit_any born 0 w hb (by omega))
 rw [b0] at CB
 have CF := hide' (refFirst_any W H xs a n c w4 (hP.below BB.out) hn hW hH)
 have FO := hide' (first_ok (p := ⟨W, H, xs⟩) hx hW hH)
 have T0 := hide' (show born.testBit 0 = false by rw [Nat.testBit_eq_decide_div_mod_eq]; unfold bitN at b0; rw [b0]; rfl)
 obtain ⟨s0, hs0⟩ : ∃ s0, firstG ⟨W, H, xs⟩ = s0 := ⟨_, rfl⟩
 rw [hs0] at CF FO ⊢
 have G0 := hide' g0
 have G2 := hide' g2
 have S4 := hide' s4
 have HB := hide' hb
 have HS := hide' hs
 have GK := hide' (fun i u (h : growG born stay s0 i = some u) => grow_ok FO.out.1 FO.out.2.1 FO.out.2.2.1 FO.out.2.2.2 i u h)
 have RV := hide' (fun (V : World) (hV : ∀ k, k < w.heap.size + 1 + 1 + 1 → V.heap[k]? = w4.heap[k]?) => show V.cell? ⟨w.heap.size, 0, none⟩ = some (.int .i64 kd) ∧ V.cell? ⟨w.heap.size, 1, none⟩ = some (.int .i64 (born : Int)) ∧ V.cell? ⟨w.heap.size, 2, none⟩ = some (.int .i64 (stay : Int)) ∧ V.cell? ⟨w.heap.size, 3, none⟩ = some (.int .i64 st) ∧ V.cell? ⟨w.heap.size, 4, none⟩ = some (.int .i64 ra) ∧ V.cell? ⟨w.heap.size, 5, none⟩ = some (.slice ta tn tc) ∧ V.cell? ⟨w.heap.size, 6, none⟩ = some (.string sb) from
  have e := (hV _ (by omega)).trans G0.out
  ⟨cell_of_row V _ 0 _ _ _ e, cell_of_row V _ 1 _ _ _ e, cell_of_row V _ 2 _ _ _ e, cell_of_row V _ 3 _ _ _ e, cell_of_row V _ 4 _ _ _ e, cell_of_row V _ 5 _ _ _ e, cell_of_row V _ 6 _ _ _ e⟩)
 clear g0 g1 g2 s4 hb hs hP hn hx b0 hs0
 have n1 : decide ((m : Int) < 1) = false := by simp; omega
 have n2 : ¬ (64 : Int) < (m : Int) := by omega
 have RA := hide' (show ∀ x, agA born stay s0 m = x → ∀ (V : World), Below w.heap.size w V → RefAgainPost born stay s0 m w (.returned (.tuple #[agV x, .int .i64 (x.f : Int)])) V from fun x hx V hV => ⟨by rw [hx], hV⟩)
 go_enter Tryz.func33, Tryz.ntmps33
 go_wp2_with fail
 refine (CB.out w4).mono ?_
 rintro e w5 ⟨rfl, hw5⟩
 rw [hw5]
 clear hw5 w5
 go_wp2_with fail
 refine CF.out.mono ?_
 rintro e w5 ⟨v5, rfl, tb5, fr5, b5⟩
 clear hw4
 have l0 : s0.P.xs.length ≤ 10000 := by rw [FO.out.1.len]; exact Nat.mul_le_mul FO.out.2.1 FO.out.2.2.1
 obtain ⟨va, vc, rfl, AP5⟩ := tab_arg tb5 (by unfold maxLen; omega)
 obtain ⟨w6, hw6⟩ : ∃ w6, (w5.alloc (.cells #[.int .i64 (s0.P.W : Int), .int .i64 (s0.P.H : Int), .slice va s0.P.xs.length vc, .int .i64 s0.r, .int .i64 s0.d] 39)).alloc (.cells #[.int .i64 (s0.P.W : Int), .int .i64 (s0.P.H : Int), .slice va s0.P.xs.length vc, .int .i64 s0.r, .int .i64 s0.d] 39) = w6 := ⟨_, rfl⟩
 obtain ⟨pf, hp⟩ : ∃ p, w5.heap.size = p := ⟨_, rfl⟩
 have GT0 := hide' (show GA w w4 w6 pf (pf + 1) s0 (.slice va s0.P.xs.length vc) s0 (.slice va s0.P.xs.length vc) from by
  have sz := b5.size
  have s4 := S4.out
  have fr : ∀ g k c, Value.slice va s0.P.xs.length vc = .slice (some ⟨g, 0, none⟩) k c → w.heap.size + 1 + 1 + 1 ≤ g ∧ g ≠ pf + 1 := fun g k c h => by
   have := fr5 g k c h
   have := tab_lt tb5 h
   omega
  have tb : Tab w6 (.slice va s0.P.xs.length vc) s0.P.xs := tab_keep tb5 (fun g k cap h => by
   have := tab_lt tb5 h
   rw [← hw6, Below.heap_alloc _ _ _ (by simp; omega)]; exact Below.heap_alloc _ _ _ (by omega))
  refine ⟨fun k hk => ?_, ?_, tb, fr, ?_, tb, fr, by omega, by omega, ?_⟩
  ·rw [← hw6, Below.heap_alloc _ _ _ (by simp; omega), Below.heap_alloc _ _ _ (by omega)]; exact b5.block k (by omega)
  ·rw [← hw6, Below.heap_alloc _ _ _ (by simp; omega)]; exact heap_atX _ _ _ hp.symm
  ·rw [← hw6]; exact heap_atX _ _ _ (by simp; omega)
  ·rw [← hw6]; exact ((BB.out.trans (b5.mono BB.out.size)).alloc (by have := BB.out.size; omega) _).alloc (by have := BB.out.size; simp; omega) _)
 clear tb5 fr5 b5 AP5 l0
 unfold gV
 go_wp2
 try rw [hw6]
 try rw [hp]
 clear hw6 hp
 go_loopw [10] (fun iv wr => ∃ (i j : Nat) (u : Gst) (v : Value), iv = .int .i64 (i : Int) ∧ Hid (i = j + 1) ∧ i ≤ m + 1 ∧ Hid (growG born stay s0 j = some u) ∧ Hid (AgInv born stay s0 m j u) ∧ Hid (GA w w4 wr pf (pf + 1) s0 (.slice va s0.P.xs.length vc) u v)) (fun iv _ => m + 1 - (intOf iv).toNat)
 case atStart => exact ⟨1, 0, s0, _, rfl, hide' rfl, by omega, hide' rfl, hide' (AgInv.start ..), GT0⟩
 case round =>
  obtain ⟨i, j, u, v, rfl, HI, hi, HG, HA, HT⟩ := hrel
  obtain ⟨o1, o2, o3, o4, o5, o6, o7⟩ := GK.out j u HG.out
  have jm : j ≤ 64 := by have := HI.out; omega
  have lu : u.P.xs.length ≤ 10000 := by rw [o1.len]; exact Nat.mul_le_mul o2 o3
  obtain ⟨ua, uc, rfl, AP⟩ := tab_arg HT.out.tab (by unfold maxLen; omega)
  have q0 := cell_of_row wr _ 0 _ _ _ HT.out.blk
  have q1 := cell_of_row wr _ 1 _ _ _ HT.out.blk
  have q2 := cell_of_row wr _ 2 _ _ _ HT.out.blk
  have q3 := cell_of_row wr _ 3 _ _ _ HT.out.blk
  have q4 := cell_of_row wr _ 4 _ _ _ HT.out.blk
  simp at q0 q1 q2 q3 q4
  have E2 := hide' ((HT.out.keep _ (by omega)).trans G2.out)
  have BE := hide' HT.out.below
  by_cases go : i ≤ m
  ·have d1 : (i : Int) ≤ (m : Int) := by omega
   have JM := hide' (show j < m by have := HI.out; omega)
   by_cases uz : u.P.W = 0
   ·have t3 : ((u.P.W : Int) == 0) = true := by simp [uz]
    have AN := hide' (HA.out.1 uz)
    have r0 := cell_of_row wr _ 0 _ _ _ E2.out
    have r1 := cell_of_row wr _ 1 _ _ _ E2.out
    have r2 := cell_of_row wr _ 2 _ _ _ E2.out
    simp at r0 r1 r2
    have f0 := frozen_of_row wr _ 0 _ _ E2.out
    have f1 := frozen_of_row wr _ 1 _ _ E2.out
    have f2 := frozen_of_row wr _ 2 _ _ E2.out
    clear uz AP o1
    go_wp2
    refine bodyPost_ret (v := .tuple #[.agg #[.int .i64 0, .int .i64 0, .int .i64 0], .int .i64 5]) (by simp [results, Tryz.results33, go_sem, r0, r1, r2]) rfl ?_
    exact RA.out ⟨0, 0, 0, 5⟩ AN.out _ (((BE.out.setCell (by simp; omega) _).setCell (by simp; omega) _).setCell (by simp; omega) _)
   ·have t3 : ((u.P.W : Int) == 0) = false := by simp [uz]
    have UZ := hide' uz
    obtain ⟨c0, c1, c2', c3, c4, c5, c6⟩ := RV.out wr HT.out.keep
    have NC := hide' (refNext_any kd st ra born stay ta tn tc sb u.P ua u.P.xs.length uc u.r u.d wr HB.out HS.out AP o1.len o1.bits o2 o3 (by omega) (by omega) (by omega) (by omega))
    clear AP o1 uz
    go_wp2_with fail
    refine NC.out.mono ?_
    rintro e w7 (⟨big, rfl, b7⟩ | ⟨small, v7, rfl, tb7, fr7, b7⟩)
    ·have AN := hide' (HA.out.big JM.out UZ.out ((big_iff born stay u).1 big))
     have e7 := (b7.block _ (lt_of_block E2.out)).trans E2.out
     have r0 := cell_of_row w7 _ 0 _ _ _ e7
     have r1 := cell_of_row w7 _ 1 _ _ _ e7
     have r2 := cell_of_row w7 _ 2 _ _ _ e7
     simp at r0 r1 r2
     have f0 := frozen_of_row w7 _ 0 _ _ e7
     have f1 := frozen_of_row w7 _ 1 _ _ e7
     have f2 := frozen_of_row w7 _ 2 _ _ e7
     have s7 : w.heap.size + 1 + 1 < w7.heap.size := lt_of_block e7
     have ne5 : ¬ w.heap.size + 1 + 1 = w7.heap.size := by omega
     have ne6 : ¬ w7.heap.size = w.heap.size + 1 + 1 := by omega
     have E7 := hide' e7
     have B7 := hide' (BE.out.trans (b7.mono BE.out.size))
     clear e7 b7 big q0 q1 q2 q3 q4 c0 c1 c2' c3 c4 c5 c6
     go_wp2
     obtain ⟨X, hXX⟩ : ∃ X, (((w7.setCell ⟨w.heap.size + 1 + 1, 0, none⟩ (.int .i64 0)).setCell ⟨w.heap.size + 1 + 1, 1, none⟩ (.int .i64 0)).setCell ⟨w.heap.size + 1 + 1, 2, none⟩ (.int .i64 0)).alloc (.cells #[.int .i64 0, .int .i64 0, .slice none 0 0, .int .i64 0, .int .i64 0] 39) = X := ⟨_, rfl⟩
     rw [hXX]
     have k0 : X.heap[w.heap.size + 1 + 1]? = some (.cells #[.int .i64 0, .int .i64 0, .int .i64 0] 49 (0, 0)) := by
      have h1 := three_row E7.out (.int .i64 0) (.int .i64 0) (.int .i64 0)
      rw [← hXX, Below.heap_alloc _ _ _ (lt_of_block h1)]; exact h1
     have m0 := cell_of_row X _ 0 _ _ _ k0
     have m1 := cell_of_row X _ 1 _ _ _ k0
     have m2 := cell_of_row X _ 2 _ _ _ k0
     simp at m0 m1 m2
     have BQ : Below w.heap.size w X := by rw [← hXX]; exact (((B7.out.setCell (by simp; omega) _).setCell (by simp; omega) _).setCell (by simp; omega) _).alloc (by simp; omega) _
     refine bodyPost_ret (v := .tuple #[.agg #[.int .i64 0, .int .i64 0, .int .i64 0], .int .i64 4]) (by simp [results, Tryz.results33, go_sem, m0, m1, m2]) rfl ?_
     exact RA.out ⟨0, 0, 0, 4⟩ AN.out _ BQ
    ·have ue : nextG born stay ⟨u.P, u.r, u.d⟩ = nextG born stay u := rfl
     rw [ue] at tb7 ⊢
     clear ue
     have NG := hide' (grow_small HG.out small)
     have NB := hide' (fun k => small ((big_iff born stay u).2 k))
     have AF := hide' (HA.out.found JM.out UZ.out NB.out)
     have AX := hide' (HA.out.next T0.out JM.out UZ.out NB.out)
     obtain ⟨t, ht⟩ : ∃ t, nextG born stay u = t := ⟨_, rfl⟩
     rw [ht] at tb7 NG AF AX ⊢
     obtain ⟨k1, k2, k3, k4, k5, k6, k7⟩ := GK.out (j + 1) t NG.out
     have lt : t.P.xs.length ≤ 10000 := by rw [k1.len]; exact Nat.mul_le_mul k2 k3
     obtain ⟨na, nc, rfl, AP7⟩ := tab_arg tb7 (by unfold maxLen; omega)
     have H7 := hide' (HT.out.next b7)
     have e7 := H7.out.blk
     have r0 := cell_of_row w7 _ 0 _ _ _ e7
     have r1 := cell_of_row w7 _ 1 _ _ _ e7
     have r2 := cell_of_row w7 _ 2 _ _ _ e7
     have r3 := cell_of_row w7 _ 3 _ _ _ e7
     have r4 := cell_of_row w7 _ 4 _ _ _ e7
     simp at r0 r1 r2 r3 r4
     have f0 := frozen_of_row w7 _ 0 _ _ e7
     have f1 := frozen_of_row w7 _ 1 _ _ e7
     have f2 := frozen_of_row w7 _ 2 _ _ e7
     have f3 := frozen_of_row w7 _ 3 _ _ e7
     have f4 := frozen_of_row w7 _ 4 _ _ e7
     have h0 := cell_of_row w7 _ 0 _ _ _ H7.out.fb
     have h1 := cell_of_row w7 _ 1 _ _ _ H7.out.fb
     have h2 := cell_of_row w7 _ 2 _ _ _ H7.out.fb
     simp at h0 h1 h2
     have s7 : pf + 1 < w7.heap.size := lt_of_block e7
     have ne5 : ¬ pf + 1 = w7.heap.size := by omega
     have ne6 : ¬ w7.heap.size = pf + 1 := by omega
     have ne7 : ¬ pf = w7.heap.size := by omega
     have ne8 : ¬ w7.heap.size = pf := by omega
     have E7 := hide' e7
     have T7 := hide' tb7
     have GX := hide' (fun (X : World) (o : Obj) (hXX : (((((w7.setCell ⟨pf + 1, 0, none⟩ (.int .i64 (t.P.W : Int))).setCell ⟨pf + 1, 1, none⟩ (.int .i64 (t.P.H : Int))).setCell ⟨pf + 1, 2, none⟩ (.slice na t.P.xs.length nc)).setCell ⟨pf + 1, 3, none⟩ (.int .i64 t.r)).setCell ⟨pf + 1, 4, none⟩ (.int .i64 t.d)).alloc o = X) => show GA w w4 X pf (pf + 1) s0 (.slice va s0.P.xs.length vc) t (.slice na t.P.xs.length nc) from by
      have pw := lt_of_block HT.out.blk
      have pl := HT.out.pl
      have pq := HT.out.pq
      have sz := b7.size
      refine ⟨fun k hk => ?_, ?_, ?_, H7.out.ff, ?_, ?_, fun g k c h => ?_, pq, pl, ?_⟩
      ·rw [← hXX, five_keep (by omega) (by omega)]; exact H7.out.keep k hk
      ·rw [← hXX, five_keep (by omega) (by omega)]; exact H7.out.fb
      ·refine tab_keep H7.out.ft (fun g k cap h => ?_)
       have := H7.out.ff g k cap h
       rw [← hXX]; exact five_keep this.2 (tab_lt H7.out.ft h) _ _ _ _ _ _
      ·rw [← hXX]; exact five_set E7.out _ _ _ _ _ _
      ·refine tab_keep T7.out (fun g k cap h => ?_)
       have := fr7 g k cap h
       rw [← hXX]; exact five_keep (by omega) (tab_lt T7.out h) _ _ _ _ _ _
      ·have := fr7 g k c h; omega
      ·rw [← hXX]; exact five_below H7.out.below (by omega) (by have := H7.out.below.size; omega) _ _ _ _ _ _)
     clear e7 b7 small tb7 AP7 fr7 q0 q1 q2 q3 q4 c0 c1 c2' c3 c4 c5 c6 k1
     go_upto_region 14 with fail
     obtain ⟨X, hXX⟩ : ∃ X, (((((w7.setCell ⟨pf + 1, 0, none⟩ (.int .i64 (t.P.W : Int))).setCell ⟨pf + 1, 1, none⟩ (.int .i64 (t.P.H : Int))).setCell ⟨pf + 1, 2, none⟩ (.slice na t.P.xs.length nc)).setCell ⟨pf + 1, 3, none⟩ (.int .i64 t.r)).setCell ⟨pf + 1, 4, none⟩ (.int .i64 t.d)).alloc (.cells #[.int .i64 (t.P.W : Int), .int .i64 (t.P.H : Int), .slice na t.P.xs.length nc, .int .i64 t.r, .int .i64 t.d] 39) = X := ⟨_, rfl⟩
     have HX := hide' (GX.out X _ hXX)
     rw [hXX]
     obtain ⟨x1, x2, x3, AP1⟩ := tab_arg HX.out.tab (by unfold maxLen; omega)
     obtain ⟨y1, y2, y3, AP2⟩ := tab_arg HX.out.ft (by unfold maxLen; have := FO.out.1.len; have := Nat.mul_le_mul FO.out.2.1 FO.out.2.2.1; omega)
     injection x3 with x3 x4 x5
     injection y3 with y3 y4 y5
     subst x3 x5 y3 y5
     have AC := hide' (Alike_any (t.P.W : Int) (t.P.H : Int) (s0.P.W : Int) (s0.P.H : Int) t.P.xs s0.P.xs na va t.P.xs.length nc s0.P.xs.length vc X AP1 AP2)
     have SE := hide' (show (decide (t.P.xs = s0.P.xs) && ((t.P.W : Int) == (s0.P.W : Int)) && ((t.P.H : Int) == (s0.P.H : Int))) = sameP t.P s0.P from by
      unfold sameP
      have e1 : ((t.P.W : Int) == (s0.P.W : Int)) = decide (t.P.W = s0.P.W) := by by_cases h : t.P.W = s0.P.W <;> simp [h]; omega
      have e2 : ((t.P.H : Int) == (s0.P.H : Int)) = decide (t.P.H = s0.P.H) := by by_cases h : t.P.H = s0.P.H <;> simp [h]; omega
      rw [e1, e2]
      cases decide (t.P.xs = s0.P.xs) <;> cases decide (t.P.W = s0.P.W) <;> cases decide (t.P.H = s0.P.H) <;> rfl)
     clear hXX AP1 AP2 x4 y4 r0 r1 r2 r3 r4 f0 f1 f2 f3 f4 h0 h1 h2 s7 ne5 ne6 ne7 ne8 ht
     have z0 := cell_of_row X _ 0 _ _ _ HX.out.blk
     have z1 := cell_of_row X _ 1 _ _ _ HX.out.blk
     have z2 := cell_of_row X _ 2 _ _ _ HX.out.blk
     have y0 := cell_of_row X _ 0 _ _ _ HX.out.fb
     have y1 := cell_of_row X _ 1 _ _ _ HX.out.fb
     have y2 := cell_of_row X _ 2 _ _ _ HX.out.fb
     simp at z0 z1 z2 y0 y1 y2
     go_wp2_with fail
     refine AC.out.mono ?_
     rw [SE.out]
     rintro e w8 ⟨rfl, b8⟩
     have H8 := hide' (HX.out.next b8)
     clear z0 z1 z2 y0 y1 y2
     have z0 := cell_of_row w8 _ 0 _ _ _ H8.out.blk
     have z3 := cell_of_row w8 _ 3 _ _ _ H8.out.blk
     have z4 := cell_of_row w8 _ 4 _ _ _ H8.out.blk
     have y3 := cell_of_row w8 _ 3 _ _ _ H8.out.fb
     have y4 := cell_of_row w8 _ 4 _ _ _ H8.out.fb
     simp at z0 z3 z4 y3 y4
     have E8 := hide' ((H8.out.keep _ (by omega)).trans G2.out)
     cases hsm : sameP t.P s0.P with
     | true =>
      have tw : (0 : Int) < (t.P.W : Int) := by
       have h1 := (HA.out.2 UZ.out).2
       unfold sameP at hsm
       simp at hsm
       omega
      have AN := hide' (AF.out hsm)
      obtain ⟨f1, f2, f3, f4⟩ := FO.out.2.2.2
      have w1 : IntKind.i64.wrap (t.r - s0.r) = t.r - s0.r := wrap_near (by omega) (by omega)
      have w2 : IntKind.i64.wrap (t.d - s0.d) = t.d - s0.d := wrap_near (by omega) (by omega)
      have r0 := cell_of_row w8 _ 0 _ _ _ E8.out
      have r1 := cell_of_row w8 _ 1 _ _ _ E8.out
      have r2 := cell_of_row w8 _ 2 _ _ _ E8.out
      simp at r0 r1 r2
      have f0 := frozen_of_row w8 _ 0 _ _ E8.out
      have f1 := frozen_of_row w8 _ 1 _ _ E8.out
      have f2 := frozen_of_row w8 _ 2 _ _ E8.out
      have BQ := hide' H8.out.below
      clear hsm b8
      go_wp2
      refine bodyPost_ret (v := .tuple #[.agg #[.int .i64 (i : Int), .int .i64 (t.r - s0.r), .int .i64 (t.d - s0.d)], .int .i64 0]) (by simp [results, Tryz.results33, go_sem, r0, r1, r2]) rfl ?_
      refine ⟨?_, ((BQ.out.setCell (by simp; omega) _).setCell (by simp; omega) _).setCell (by simp; omega) _⟩
      rw [AN.out]
      unfold agV
      dsimp only
      rw [HI.out]
      rfl
     | false =>
      have NX := hide' (AX.out hsm)
      clear hsm b8
      go_wp2
      exact ⟨⟨i + 1, j + 1, t, .slice na t.P.xs.length nc, by go_num, hide' (by have := HI.out; omega), by omega, NG, NX, H8⟩, by simp [intOf]; omega⟩
  ·have JM : j = m := by have := HI.out; omega
   have AN := hide' (show agA born stay s0 m = ⟨0, 0, 0, 5⟩ from by have h := HA.out; rw [JM] at h; exact h.last)
   clear JM
   have r0 := cell_of_row wr _ 0 _ _ _ E2.out
   have r1 := cell_of_row wr _ 1 _ _ _ E2.out
   have r2 := cell_of_row wr _ 2 _ _ _ E2.out
   simp at r0 r1 r2
   have f0 := frozen_of_row wr _ 0 _ _ E2.out
   have f1 := frozen_of_row wr _ 1 _ _ E2.out
   have f2 := frozen_of_row wr _ 2 _ _ E2.out
   have d1 : ¬ (i : Int) ≤ (m : Int) := by omega
   clear go AP o1
   go_wp2
   refine bodyPost_ret (v := .tuple #[.agg #[.int .i64 0, .int .i64 0, .int .i64 0], .int .i64 5]) (by simp [results, Tryz.results33, go_sem, r0, r1, r2]) rfl ?_
   exact RA.out ⟨0, 0, 0, 5⟩ AN.out _ (((BE.out.setCell (by simp; omega) _).setCell (by simp; omega) _).setCell (by simp; omega) _)
structure NTk (K : Nat) (w w4 wr : World) (W2 H2 : Int) (v : Value) (ys : List Int) : Prop where
 keep : ∀ k, k < K → wr.heap[k]? = w4.heap[k]?
 q : TB K (.int .i64 W2) (.int .i64 H2) v wr
 own : wr.ownsRow (K + 1) 3 1 v ys.length (ys.map fun x => .int .i64 x)
 below : Below w.heap.size w wr
 sz : K + 1 ≤ wr.heap.size
 lo : w.heap.size ≤ K
theorem NTk.next {K : Nat} {w w4 wr w' : World} {W2 H2 : Int} {v : Value} {ys : List Int} (h : NTk K w w4 wr W2 H2 v ys) (hb : Below wr.heap.size wr w') : NTk K w w4 w' W2 H2 v ys := by
 have hz := h.sz
 exact ⟨fun k hk => (hb.block k (by omega)).trans (h.keep k hk), h.q.next hb, ownsRow_from h.own fun k _ hk => hb.block k hk, h.below.trans (hb.mono h.below.size), by have := hb.size; omega, h.lo⟩
theorem NTk.grown {K : Nat} {w w4 wr w' : World} {W2 H2 : Int} {v : Value} {ys : List Int} (h : NTk K w w4 wr W2 H2 v ys) (x : Int) (hg : (wr.alloc (.cells #[.int .i64 x] 3)).grownBy w' v.ownBlock) : ∀ k, k < K + 1 → w'.heap[k]? = wr.heap[k]? := fun k hk => by
 have hz := h.sz
 have hob := ownsRow_block h.own
 rw [hg.block k (by rw [World.size_alloc]; omega) (fun e => by have := hob k e.symm; omega)]
 exact Below.heap_alloc _ _ _ (by omega)
theorem NTk.mid {K : Nat} {w w4 wr w' : World} {W2 H2 : Int} {v : Value} {ys : List Int} (h : NTk K w w4 wr W2 H2 v ys) (x : Int) (hg : (wr.alloc (.cells #[.int .i64 x] 3)).grownBy w' v.ownBlock) : w'.cell? ⟨K, 2, none⟩ = some v ∧ w'.frozen? ⟨K, 2, none⟩ = false := by
 have t := h.q.block (h.grown x hg _ (by omega))
 exact ⟨t.c2, t.fz 2⟩
theorem NTk.push {K : Nat} {w w4 wr w' : World} {W2 H2 : Int} {v v' : Value} {ys : List Int} (h : NTk K w w4 wr W2 H2 v ys) (x : Int) (hg : (wr.alloc (.cells #[.int .i64 x] 3)).grownBy w' v.ownBlock) (ho : w'.ownsRow (K + 1) 3 1 v' (ys.length + 1) ((ys.map fun x => .int .i64 x) ++ [.int .i64 x])) : NTk K w w4 (w'.setCell ⟨K, 2, none⟩ v') W2 H2 v' (ys ++ [x]) := by
 have hk := h.grown x hg
 have hz := h.sz
 have hl := h.lo
 have hsz : wr.heap.size + 1 ≤ w'.heap.size := by have := hg.size; rw [World.size_alloc] at this; exact this
 have hb : Below w.heap.size w w' := h.below.trans ⟨hg.os, hg.tape, hg.output, by omega, fun k hkk => hk k (by omega)⟩
 have tq := h.q.block (hk _ (by omega))
 refine ⟨fun k hkk => (Below.heap_setCell _ _ _ _ (by simp; omega)).trans ((hk k (by omega)).trans (h.keep k hkk)), ⟨cell_other tq.c0 (by omega), cell_other tq.c1 (by omega), cell_same tq.c2, fun k => by rw [World.frozen?_setCell]; exact tq.fz k⟩, ?_, hb.setCell (by simp; omega) _, by rw [World.size_setCell]; omega, h.lo⟩
 have := ownsRow_setCell_below ho (a := ⟨K, 2, none⟩) (by simp) v'
 simpa using this
def wnL (F : Int → Int → Int) (x y : Int) (W m : Nat) : List Int := (List.range m).map fun i => F (x + ((i % W : Nat) : Int)) (y + ((i / W : Nat) : Int))
theorem wnL_length (F : Int → Int → Int) (x y : Int) (W m : Nat) : (wnL F x y W m).length = m := by simp [wnL]
theorem wnL_step (F : Int → Int → Int) (x y : Int) (W i j : Nat) (hi : i < W) : wnL F x y W (j * W + i) ++ [F (x + (i : Int)) (y + (j : Int))] = wnL F x y W (j * W + i + 1) := by
 unfold wnL
 rw [List.range_succ, List.map_append, List.map_cons, List.map_nil]
 have m1 : (j * W + i) % W = i := by rw [Nat.mul_comm, Nat.mul_add_mod]; exact Nat.mod_eq_of_lt hi
 have d1 : (j * W + i) / W = j := by rw [Nat.mul_comm, Nat.mul_add_div (by omega), Nat.div_eq_of_lt hi, Nat.add_zero]
 rw [m1, d1]
theorem At_plane (s : Gst) (a : Option Addr) (n c : Nat) (w : World) (hP : ArgP w s.P.xs a n c) (lW : s.P.W ≤ 8400) (lH : s.P.H ≤ 8400) (hn : n = s.P.W * s.P.H) (u v X Y : Int) (hX : X = u - s.r) (hY : Y = v - s.d) :
  Calls Tryz.prog 66 #[.agg #[.int .i64 (s.P.W : Int), .int .i64 (s.P.H : Int), .slice a n c], .int .i64 X, .int .i64 Y] w fun e w' => e = .returned (.int .i64 (plG s u v)) ∧ Below w.heap.size w w' := by
 subst hX hY
 unfold plG ptF
 split
 ·rename_i h
  have h' := h
  unfold inP at h'
  have e : atP s.P.W s.P.xs (u - s.r).toNat (v - s.d).toNat = cellF s.P.W s.P.xs (u - s.r) (v - s.d) := by
   unfold atP cellF
   congr 1
   have e1 : ((v - s.d) * (s.P.W : Int) + (u - s.r)) = (((v - s.d).toNat * s.P.W + (u - s.r).toNat : Nat) : Int) := by
    rw [Int.natCast_add, Int.natCast_mul, Int.toNat_of_nonneg h'.2.2.1, Int.toNat_of_nonneg h'.1]
   rw [e1]; rfl
  rw [← e]
  exact At_inL s.P.W s.P.H s.P.xs a n c (u - s.r).toNat (v - s.d).toNat _ _ w hP lW lH hn (by omega) (by omega) (by omega) (by omega)
 ·rename_i h
  exact At_out s.P.W s.P.H a n c _ _ w h
def CeP (s : Gst) (x y : Int) (W H : Nat) (w : World) (e : Ending) (w' : World) : Prop := ∃ v, e = .returned (.agg #[.int .i64 (W : Int), .int .i64 (H : Int), v]) ∧ Tab w' v (wnL (plG s) x y W (W * H)) ∧ Below w.heap.size w w'
set_option maxRecDepth 100000 in
set_option maxHeartbeats 12800000 in
theorem refCells_anyS (s : Gst) (a : Option Addr) (n c : Nat) (x y : Int) (W H : Nat) (w : World) (hP : ArgP w s.P.xs a n c) (hn : n = s.P.W * s.P.H) (lW : s.P.W ≤ 8400) (lH : s.P.H ≤ 8400) (hW : W ≤ 100) (hH : H ≤ 100) (hx : -1000000000000 ≤ x ∧ x ≤ 1000000000000) (hy : -1000000000000 ≤ y ∧ y ≤ 1000000000000) (hr : -1000100000000 ≤ s.r ∧ s.r ≤ 1000100000000) (hd : -1000100000000 ≤ s.d ∧ s.d ≤ 1000100000000) :
  Calls Tryz.prog 38 #[.agg #[.int .i64 (s.P.W : Int), .int .i64 (s.P.H : Int), .slice a n c, .int .i64 s.r, .int .i64 s.d], .int .i64 x, .int .i64 y, .int .i64 (W : Int), .int .i64 (H : Int)] w (CeP s x y W H w) := by
 obtain ⟨w4, hw4⟩ : ∃ w4, ((w.alloc (.cells #[.int .i64 (s.P.W : Int), .int .i64 (s.P.H : Int), .slice a n c, .int .i64 s.r, .int .i64 s.d] 39)).alloc (.cells #[.int .i64 0, .int .i64 0, .slice none 0 0] 26)).alloc (.cells #[.int .i64 (W : Int), .int .i64 (H : Int), .slice none 0 0] 26) = w4 := ⟨_, rfl⟩
 obtain ⟨K, hK⟩ : ∃ K, w.heap.size + 1 + 1 = K := ⟨_, rfl⟩
 have BB : Below w.heap.size w w4 := by rw [← hw4]; repeat (first | exact Below.refl _ _ | refine Below.alloc ?_ (by simp; try omega) _)
 have G0 := hide' (show w4.heap[w.heap.size]? = some (.cells #[.int .i64 (s.P.W : Int), .int .i64 (s.P.H : Int), .slice a n c, .int .i64 s.r, .int .i64 s.d] 39 (0, 0)) by rw [← hw4, Below.heap_alloc _ _ _ (by simp; try omega), Below.heap_alloc _ _ _ (by simp; try omega)]; exact heap_atX _ _ _ (by simp))
 have G1 := hide' (show w4.heap[w.heap.size + 1]? = some (.cells #[.int .i64 0, .int .i64 0, .slice none 0 0] 26 (0, 0)) by rw [← hw4, Below.heap_alloc _ _ _ (by simp; try omega)]; exact heap_atX _ _ _ (by simp))
 have g2 : w4.heap[K]? = some (.cells #[.int .i64 (W : Int), .int .i64 (H : Int), .slice none 0 0] 26 (0, 0)) := by rw [← hw4]; exact heap_atX _ _ _ (by simp [← hK])
 have X0 : NTk K w w4 w4 (W : Int) (H : Int) (.slice none 0 0) (wnL (plG s) x y W 0) := ⟨fun _ _ => rfl, ⟨cell_of_row w4 _ 0 _ _ _ g2, cell_of_row w4 _ 1 _ _ _ g2, cell_of_row w4 _ 2 _ _ _ g2, fun k => frozen_of_row w4 _ k _ _ g2⟩, ⟨by simp [wnL], Or.inl ⟨rfl, by simp [wnL]⟩⟩, BB, by rw [← hw4]; simp [← hK], by omega⟩
 have XZ := hide' X0
 have AT := hide' (fun (u v X Y : Int) V (hV : Below w.heap.size w V) hX hY => At_plane s a n c V (hP.below hV) lW lH hn u v X Y hX hY)
 have GV := hide' (fun (V : World) (hV : ∀ k, k < K → V.heap[k]? = w4.heap[k]?) => show V.cell? ⟨w.heap.size, 0, none⟩ = some (.int .i64 (s.P.W : Int)) ∧ V.cell? ⟨w.heap.size, 1, none⟩ = some (.int .i64 (s.P.H : Int)) ∧ V.cell? ⟨w.heap.size, 2, none⟩ = some (.slice a n c) ∧ V.cell? ⟨w.heap.size, 3, none⟩ = some (.int .i64 s.r) ∧ V.cell? ⟨w.heap.size, 4, none⟩ = some (.int .i64 s.d) from
  have e := (hV _ (by omega)).trans G0.out
  ⟨cell_of_row V _ 0 _ _ _ e, cell_of_row V _ 1 _ _ _ e, cell_of_row V _ 2 _ _ _ e, cell_of_row V _ 3 _ _ _ e, cell_of_row V _ 4 _ _ _ e⟩)
 have RG := hide' (And.intro hx (And.intro hy (And.intro hr hd)))
 obtain ⟨i0, hi, hz0, hz1, hz2⟩ := info_parts info_int
 have HW4 := hide' hw4
 have HK := hide' hK
 clear g2 X0 BB hP hn hw4 hK lW lH hx hy hr hd
 go_enter Tryz.func38, Tryz.ntmps38
 go_wp2
 rw [HW4.out, HK.out]
 clear HW4
 go_loopw [12] (fun yv wr => ∃ (j : Nat) (v : Value), yv = .int .i64 (j : Int) ∧ j ≤ H ∧ Hid (NTk K w w4 wr (W : Int) (H : Int) v (wnL (plG s) x y W (j * W)))) (fun yv _ => H - (intOf yv).toNat)
 case atStart => exact ⟨0, _, rfl, by omega, hide' (by rw [Nat.zero_mul]; exact XZ.out)⟩
 case round =>
  obtain ⟨j, v, rfl, hj, HY⟩ := hrel
  obtain ⟨V1, rfl⟩ : ∃ V1, V1 = wr := ⟨_, rfl⟩
  by_cases dj : (j : Int) < (H : Int)
  ·go_wp2
   go_loopw [13] (fun xv wr => ∃ (i : Nat) (v : Value), xv = .int .i64 (i : Int) ∧ i ≤ W ∧ Hid (NTk K w w4 wr (W : Int) (H : Int) v (wnL (plG s) x y W (j * W + i)))) (fun xv _ => W - (intOf xv).toNat)
   case atStart => exact ⟨0, v, rfl, by omega, HY⟩
   case round =>
    obtain ⟨i, v, rfl, hi', HV⟩ := hrel
    obtain ⟨V2, rfl⟩ : ∃ V2, V2 = wr := ⟨_, rfl⟩
    by_cases di : (i : Int) < (W : Int)
    ·obtain ⟨b0, b1, b2, b3, b4⟩ := GV.out V2 HV.out.keep
     obtain ⟨X, hX⟩ : ∃ X, x + (i : Int) - s.r = X := ⟨_, rfl⟩
     obtain ⟨Y, hY⟩ : ∃ Y, y + (j : Int) - s.d = Y := ⟨_, rfl⟩
     have CA := hide' (AT.out (x + (i : Int)) (y + (j : Int)) X Y V2 HV.out.below hX.symm hY.symm)
     have rg := RG.out
     obtain ⟨X1, hX1⟩ : ∃ X, x + (i : Int) = X := ⟨_, rfl⟩
     obtain ⟨Y1, hY1⟩ : ∃ Y, y + (j : Int) = Y := ⟨_, rfl⟩
     rw [hX1] at hX
     rw [hY1] at hY
     have v1 : IntKind.i64.wrap X1 = X1 := by simp [IntKind.wrap, IntKind.bits, IntKind.signed]; omega
     have v2 : IntKind.i64.wrap Y1 = Y1 := by simp [IntKind.wrap, IntKind.bits, IntKind.signed]; omega
     have v3 : IntKind.i64.wrap X = X := by simp [IntKind.wrap, IntKind.bits, IntKind.signed]; omega
     have v4 : IntKind.i64.wrap Y = Y := by simp [IntKind.wrap, IntKind.bits, IntKind.signed]; omega
     have hlen : j * W + i < 10000 := by
      have h1 := mk_lt (W := W) (H := H) (show i < W by omega) (show j < H by omega)
      have h2 := Nat.mul_le_mul hW hH
      omega
     have ST := hide' (wnL_step (plG s) x y W i j (by omega))
     have HLE := hide' (wnL_length (plG s) x y W (j * W + i))
     rw [hX1, hY1] at CA ST
     obtain ⟨z, hz⟩ : ∃ z, plG s X1 Y1 = z := ⟨_, rfl⟩
     rw [hz] at CA ST
     clear hz rg
     go_wp2_with fail
     refine CA.out.mono ?_
     rintro e w5 ⟨rfl, b5⟩
     have S2 := hide' (HV.out.next b5)
     have d2 := S2.out.q.c2
     have z2 := S2.out.sz
     have OW := hide' S2.out.own
     obtain ⟨sa, sn, sc, rfl⟩ := ownsRow_slice OW.out
     clear b5 b0 b1 b2 b3 b4 v1 v2 v3 v4 hX hY hX1 hY1
     go_wp2_with (at_builtin; refine wpList_append_own _ rfl _ _ 22 rfl (K + 1) 3 i0 (.int .i64 0) 1 8 Tryz.underlying22 hi hz0 hz1 hz2 rfl (by decide) (.slice sa sn sc) _ _ rfl (OW.out.alloc _) ⟨w5.heap.size, 0, none⟩ 1 1 [.int .i64 z] rfl rfl (cell_one_new _ _ _) (fun x hx => by simp at hx; subst hx; rfl) (by rw [HLE.out]; unfold maxLen; omega) (by rw [HLE.out]; omega) (by simp; omega) ?_; intro v' w3 hown' hgrow3 hnil3; obtain ⟨va, vn, vc, rfl⟩ := ownsRow_slice hown'; obtain ⟨x5, x6⟩ := S2.out.mid z hgrow3; have G3 := hide' hgrow3; have O3 := hide' hown'; clear hgrow3 hown' hnil3)
     refine ⟨⟨i + 1, .slice va vn vc, by go_num, by omega, hide' ?_⟩, by simp [intOf]; omega⟩
     have hp := S2.out.push z G3.out O3.out
     rw [ST.out] at hp
     rw [← Nat.add_assoc]
     exact hp
    ·have NV := hide' (show NTk K w w4 V2 (W : Int) (H : Int) v (wnL (plG s) x y W ((j + 1) * W)) by
      have e : (j + 1) * W = j * W + i := by rw [Nat.add_mul, Nat.one_mul, show i = W by omega]
      rw [e]; exact HV.out)
     go_wp2
     exact ⟨⟨j + 1, v, by go_num, by omega, NV⟩, by simp [intOf]; omega⟩
  ·have HF := hide' (show NTk K w w4 V1 (W : Int) (H : Int) v (wnL (plG s) x y W (W * H)) by
    have e : j * W = W * H := by rw [show j = H by omega, Nat.mul_comm]
    rw [← e]; exact HY.out)
   obtain ⟨sa, sn, sc, rfl⟩ := ownsRow_slice HF.out.own
   have q0 := HF.out.q.c0
   have q1 := HF.out.q.c1
   have q2 := HF.out.q.c2
   have R1 := hide' ((HF.out.keep _ (by have := HK.out; omega)).trans G1.out)
   have f0 := frozen_of_row V1 _ 0 _ _ R1.out
   have f1 := frozen_of_row V1 _ 1 _ _ R1.out
   have f2 := frozen_of_row V1 _ 2 _ _ R1.out
   have r0 := cell_of_row V1 _ 0 _ _ _ R1.out
   have r1 := cell_of_row V1 _ 1 _ _ _ R1.out
   have r2 := cell_of_row V1 _ 2 _ _ _ R1.out
   simp at r0 r1 r2
   go_wp2
   obtain ⟨X, hX⟩ : ∃ X, ((V1.setCell ⟨w.heap.size + 1, 0, none⟩ (.int .i64 (W : Int))).setCell ⟨w.heap.size + 1, 1, none⟩ (.int .i64 (H : Int))).setCell ⟨w.heap.size + 1, 2, none⟩ (.slice sa sn sc) = X := ⟨_, rfl⟩
   have GX := three_row R1.out (.int .i64 (W : Int)) (.int .i64 (H : Int)) (.slice sa sn sc)
   rw [hX] at GX ⊢
   have m0 := cell_of_row X _ 0 _ _ _ GX
   have m1 := cell_of_row X _ 1 _ _ _ GX
   have m2 := cell_of_row X _ 2 _ _ _ GX
   simp at m0 m1 m2
   have hk := HK.out
   have TX : Tab X (.slice sa sn sc) (wnL (plG s) x y W (W * H)) := tab_keep (ownsRow_tab HF.out.own) (fun g k cap h => by
    have := ownsRow_block HF.out.own g (by rw [h]; rfl)
    rw [← hX, Below.heap_setCell _ _ _ _ (by show g ≠ w.heap.size + 1; omega), Below.heap_setCell _ _ _ _ (by show g ≠ w.heap.size + 1; omega), Below.heap_setCell _ _ _ _ (by show g ≠ w.heap.size + 1; omega)])
   have BX : Below w.heap.size w X := by
    rw [← hX]
    exact ((HF.out.below.setCell (by simp) _).setCell (by simp) _).setCell (by simp) _
   refine bodyPost_ret (v := .agg #[.int .i64 (W : Int), .int .i64 (H : Int), .slice sa sn sc]) (by simp [results, Tryz.results38, go_sem, m0, m1, m2]) rfl ?_
   exact ⟨.slice sa sn sc, rfl, TX, BX⟩
end Go.Proofs.YtemhcpldflcfbaaGreatDoor
