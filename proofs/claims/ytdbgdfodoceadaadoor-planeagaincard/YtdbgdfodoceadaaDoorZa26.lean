/-
  What the last text of this claim leans on, part 26: Gv2.
-/
import Derived.Test.YtdbgdfodoceadaaDoorZa24
import Derived.Test.YtdbgdfodoceadaaDoorZa25
import Derived.Test.YtdbgdfodoceadaaDoorZa2
import Derived.Deep.CutRange
namespace Go.Proofs.YtdbgdfodoceadaaDoor
open Go.RowKit
set_option linter.unusedVariables false
def agV (x : AgR) : Value := .agg #[.int .i64 (x.n : Int), .int .i64 x.r, .int .i64 x.d]
theorem three_row {w : World} {g : Nat} {x0 x1 x2 : Value} {t : TypeId} (h : w.heap[g]? = some (.cells #[x0, x1, x2] t (0, 0))) (a b c : Value) :
    (((w.setCell ⟨g, 0, none⟩ a).setCell ⟨g, 1, none⟩ b).setCell ⟨g, 2, none⟩ c).heap[g]? = some (.cells #[a, b, c] t (0, 0)) := by
  have h0 : (w.setCell ⟨g, 0, none⟩ a).heap[g]? = some (.cells #[a, x1, x2] t (0, 0)) := by rw [heap_setCell_same _ _ _ _ _ _ h]; rfl
  have h1 : ((w.setCell ⟨g, 0, none⟩ a).setCell ⟨g, 1, none⟩ b).heap[g]? = some (.cells #[a, b, x2] t (0, 0)) := by rw [heap_setCell_same _ _ _ _ _ _ h0]; rfl
  rw [heap_setCell_same _ _ _ _ _ _ h1]; rfl
/-- What Again has when some steps were gone. -/
def AgInv (born stay : Nat) (s0 : Gst) (m j : Nat) (u : Gst) : Prop := (u.P.W = 0 → agA born stay s0 m = ⟨0, 0, 0, 5⟩) ∧ (u.P.W ≠ 0 → agA born stay s0 m = agn born stay s0 (m - j) j u ∧ s0.P.W ≠ 0)
theorem AgInv.start (born stay : Nat) (s0 : Gst) (m : Nat) : AgInv born stay s0 m 0 s0 := ⟨fun h => by unfold agA; rw [if_pos h], fun h => ⟨by unfold agA; rw [if_neg h]; rfl, h⟩⟩
theorem AgInv.last {born stay : Nat} {s0 : Gst} {m : Nat} {u : Gst} (h : AgInv born stay s0 m m u) : agA born stay s0 m = ⟨0, 0, 0, 5⟩ := by
  by_cases z : u.P.W = 0
  · exact h.1 z
  · rw [(h.2 z).1, Nat.sub_self]; rfl
theorem AgInv.big {born stay : Nat} {s0 : Gst} {m j : Nat} {u : Gst} (h : AgInv born stay s0 m j u) (hj : j < m) (z : u.P.W ≠ 0) (b : 100 < (nextG born stay u).P.W ∨ 100 < (nextG born stay u).P.H) : agA born stay s0 m = ⟨0, 0, 0, 4⟩ := by
  rw [(h.2 z).1, show m - j = (m - (j + 1)) + 1 by omega, agn, if_pos b]
theorem AgInv.found {born stay : Nat} {s0 : Gst} {m j : Nat} {u : Gst} (h : AgInv born stay s0 m j u) (hj : j < m) (z : u.P.W ≠ 0) (b : ¬ (100 < (nextG born stay u).P.W ∨ 100 < (nextG born stay u).P.H)) (k : sameP (nextG born stay u).P s0.P = true) : agA born stay s0 m = ⟨j + 1, (nextG born stay u).r - s0.r, (nextG born stay u).d - s0.d, 0⟩ := by
  rw [(h.2 z).1, show m - j = (m - (j + 1)) + 1 by omega, agn, if_neg b, if_pos k]
theorem AgInv.next {born stay : Nat} {s0 : Gst} {m j : Nat} {u : Gst} (b0 : born.testBit 0 = false) (h : AgInv born stay s0 m j u) (hj : j < m) (z : u.P.W ≠ 0) (b : ¬ (100 < (nextG born stay u).P.W ∨ 100 < (nextG born stay u).P.H)) (k : sameP (nextG born stay u).P s0.P = false) : AgInv born stay s0 m (j + 1) (nextG born stay u) := by
  have e : agA born stay s0 m = agn born stay s0 (m - (j + 1)) (j + 1) (nextG born stay u) := by
    rw [(h.2 z).1, show m - j = (m - (j + 1)) + 1 by omega, agn, if_neg b, if_neg (by rw [k]; simp)]
  refine ⟨fun t => ?_, fun _ => ⟨e, (h.2 z).2⟩⟩
  have tn : nextG born stay u = noG := box_zero t
  rw [e, tn]
  exact agn_noG b0 (h.2 z).2 _ _
set_option maxRecDepth 100000 in
set_option maxHeartbeats 12800000 in
theorem refAgain_bad (kd st ra : Int) (born stay : Nat) (ta : Option Addr) (tn tc : Nat) (sb : ByteArray) (W H : Nat) (a : Option Addr) (n c : Nat) (N : Int) (w : World) (hb : born ≤ 511) (hbad : bitN born 0 = 1 ∨ N < 1 ∨ 64 < N) :
    Calls Tryd.prog 17 #[.agg #[.int .i64 kd, .int .i64 (born : Int), .int .i64 (stay : Int), .int .i64 st, .int .i64 ra, .slice ta tn tc, .string sb], .agg #[.int .i64 (W : Int), .int .i64 (H : Int), .slice a n c], .int .i64 N] w fun e w' => e = .returned (.tuple #[.agg #[.int .i64 0, .int .i64 0, .int .i64 0], .int .i64 1]) ∧ Below w.heap.size w w' := by
  obtain ⟨w4, hw4⟩ : ∃ w4, ((w.alloc (.cells #[.int .i64 kd, .int .i64 (born : Int), .int .i64 (stay : Int), .int .i64 st, .int .i64 ra, .slice ta tn tc, .string sb] 24)).alloc (.cells #[.int .i64 (W : Int), .int .i64 (H : Int), .slice a n c] 26)).alloc (.cells #[.int .i64 0, .int .i64 0, .int .i64 0] 43) = w4 := ⟨_, rfl⟩
  have BB := hide' (show Below w.heap.size w w4 by rw [← hw4]; repeat (first | exact Below.refl _ _ | refine Below.alloc ?_ (by simp; try omega) _))
  have g0 : w4.heap[w.heap.size]? = some (.cells #[.int .i64 kd, .int .i64 (born : Int), .int .i64 (stay : Int), .int .i64 st, .int .i64 ra, .slice ta tn tc, .string sb] 24 (0, 0)) := by rw [← hw4, Below.heap_alloc _ _ _ (by simp; try omega), Below.heap_alloc _ _ _ (by simp; try omega)]; exact heap_atX _ _ _ (by simp)
  have g1 : w4.heap[w.heap.size + 1]? = some (.cells #[.int .i64 (W : Int), .int .i64 (H : Int), .slice a n c] 26 (0, 0)) := by rw [← hw4, Below.heap_alloc _ _ _ (by simp; try omega)]; exact heap_atX _ _ _ (by simp)
  have g2 : w4.heap[w.heap.size + 1 + 1]? = some (.cells #[.int .i64 0, .int .i64 0, .int .i64 0] 43 (0, 0)) := by rw [← hw4]; exact heap_atX _ _ _ (by simp)
  have s4 : w4.heap.size = w.heap.size + 1 + 1 + 1 := by rw [← hw4]; simp
  have c1 := cell_of_row w4 _ 1 _ _ _ g0
  simp at c1
  have r0 := cell_of_row w4 _ 0 _ _ _ g2
  have r1 := cell_of_row w4 _ 1 _ _ _ g2
  have r2 := cell_of_row w4 _ 2 _ _ _ g2
  simp at r0 r1 r2
  have f0 := frozen_of_row w4 _ 0 _ _ g2
  have f1 := frozen_of_row w4 _ 1 _ _ g2
  have f2 := frozen_of_row w4 _ 2 _ _ g2
  have CB := hide' (fun w => show Calls Tryd.prog 45 #[.int .i64 (born : Int), .int .i64 0] w _ from refBit_any born 0 w hb (by omega))
  obtain ⟨b, hbb⟩ : ∃ b, bitN born 0 = b := ⟨_, rfl⟩
  rw [hbb] at CB hbad
  have tst : ((b : Int) == 1) = true ∨ (((b : Int) == 1) = false ∧ decide (N < 1) = true) ∨ (((b : Int) == 1) = false ∧ decide (N < 1) = false ∧ 64 < N) := by
    by_cases t1 : b = 1
    · left; simp [t1]
    · right
      by_cases t2 : N < 1
      · left; exact ⟨by simp; omega, by simp [t2]⟩
      · right; exact ⟨by simp; omega, by simp; omega, by omega⟩
  clear hbb hbad g0 g1 g2 s4
  rcases tst with t1 | ⟨t1, t2⟩ | ⟨t1, t2, t3⟩
  all_goals (
    go_enter Tryd.func17, Tryd.ntmps17
    go_wp2_with fail
    refine (CB.out w4).mono ?_
    rintro e w5 ⟨rfl, rfl⟩
    go_wp2
    refine bodyPost_ret (v := .tuple #[.agg #[.int .i64 0, .int .i64 0, .int .i64 0], .int .i64 1]) (by simp [results, Tryd.results17, go_sem, r0, r1, r2]) rfl ?_
    exact ⟨rfl, ((BB.out.setCell (by simp; omega) _).setCell (by simp; omega) _).setCell (by simp; omega) _⟩)
structure GA (w w4 wr : World) (pf p : Nat) (s0 : Gst) (v0 : Value) (s : Gst) (v : Value) : Prop where
  keep : ∀ k, k < w.heap.size + 1 + 1 + 1 → wr.heap[k]? = w4.heap[k]?
  fb : wr.heap[pf]? = some (.cells #[.int .i64 (s0.P.W : Int), .int .i64 (s0.P.H : Int), v0, .int .i64 s0.r, .int .i64 s0.d] 36 (0, 0))
  ft : Tab wr v0 s0.P.xs
  ff : ∀ g k c, v0 = .slice (some ⟨g, 0, none⟩) k c → w.heap.size + 1 + 1 + 1 ≤ g ∧ g ≠ p
  blk : wr.heap[p]? = some (.cells #[.int .i64 (s.P.W : Int), .int .i64 (s.P.H : Int), v, .int .i64 s.r, .int .i64 s.d] 36 (0, 0))
  tab : Tab wr v s.P.xs
  fr : ∀ g k c, v = .slice (some ⟨g, 0, none⟩) k c → w.heap.size + 1 + 1 + 1 ≤ g ∧ g ≠ p
  pq : w.heap.size + 1 + 1 + 1 ≤ pf
  pl : pf < p
  below : Below w.heap.size w wr
theorem GA.next {w w4 wr w' : World} {pf p : Nat} {s0 s : Gst} {v0 v : Value} (h : GA w w4 wr pf p s0 v0 s v) (b : Below wr.heap.size wr w') : GA w w4 w' pf p s0 v0 s v := by
  have l := lt_of_block h.blk
  have lf := lt_of_block h.fb
  have := h.pl
  have := h.pq
  exact ⟨fun k hk => (b.block k (by omega)).trans (h.keep k hk), (b.block _ lf).trans h.fb, tab_below h.ft b, h.ff, (b.block _ l).trans h.blk, tab_below h.tab b, h.fr, h.pq, h.pl, h.below.trans (b.mono h.below.size)⟩
def RefAgainPost (born stay : Nat) (s0 : Gst) (m : Nat) (w : World) (e : Ending) (w' : World) : Prop := e = .returned (.tuple #[agV (agA born stay s0 m), .int .i64 ((agA born stay s0 m).f : Int)]) ∧ Below w.heap.size w w'
set_option maxRecDepth 100000 in
set_option maxHeartbeats 12800000 in
theorem refAgain_ok (kd st ra : Int) (born stay : Nat) (ta : Option Addr) (tn tc : Nat) (sb : ByteArray) (W H : Nat) (xs : List Int) (a : Option Addr) (n c : Nat) (m : Nat) (w : World) (hb : born ≤ 511) (hs : stay ≤ 511) (hP : ArgP w xs a n c) (hn : n = W * H) (hx : ∀ k, 0 ≤ xs.getD k 0 ∧ xs.getD k 0 ≤ 1) (hW : W ≤ 100) (hH : H ≤ 100) (b0 : bitN born 0 = 0) (hm1 : 1 ≤ m) (hm : m ≤ 64) :
    Calls Tryd.prog 17 #[.agg #[.int .i64 kd, .int .i64 (born : Int), .int .i64 (stay : Int), .int .i64 st, .int .i64 ra, .slice ta tn tc, .string sb], .agg #[.int .i64 (W : Int), .int .i64 (H : Int), .slice a n c], .int .i64 (m : Int)] w (RefAgainPost born stay (firstG ⟨W, H, xs⟩) m w) := by
  obtain ⟨w4, hw4⟩ : ∃ w4, ((w.alloc (.cells #[.int .i64 kd, .int .i64 (born : Int), .int .i64 (stay : Int), .int .i64 st, .int .i64 ra, .slice ta tn tc, .string sb] 24)).alloc (.cells #[.int .i64 (W : Int), .int .i64 (H : Int), .slice a n c] 26)).alloc (.cells #[.int .i64 0, .int .i64 0, .int .i64 0] 43) = w4 := ⟨_, rfl⟩
  have BB := hide' (show Below w.heap.size w w4 by rw [← hw4]; repeat (first | exact Below.refl _ _ | refine Below.alloc ?_ (by simp; try omega) _))
  have g0 : w4.heap[w.heap.size]? = some (.cells #[.int .i64 kd, .int .i64 (born : Int), .int .i64 (stay : Int), .int .i64 st, .int .i64 ra, .slice ta tn tc, .string sb] 24 (0, 0)) := by rw [← hw4, Below.heap_alloc _ _ _ (by simp; try omega), Below.heap_alloc _ _ _ (by simp; try omega)]; exact heap_atX _ _ _ (by simp)
  have g1 : w4.heap[w.heap.size + 1]? = some (.cells #[.int .i64 (W : Int), .int .i64 (H : Int), .slice a n c] 26 (0, 0)) := by rw [← hw4, Below.heap_alloc _ _ _ (by simp; try omega)]; exact heap_atX _ _ _ (by simp)
  have g2 : w4.heap[w.heap.size + 1 + 1]? = some (.cells #[.int .i64 0, .int .i64 0, .int .i64 0] 43 (0, 0)) := by rw [← hw4]; exact heap_atX _ _ _ (by simp)
  have s4 : w4.heap.size = w.heap.size + 1 + 1 + 1 := by rw [← hw4]; simp
  have c1 := cell_of_row w4 _ 1 _ _ _ g0
  simp at c1
  have p0 := cell_of_row w4 _ 0 _ _ _ g1
  have p1 := cell_of_row w4 _ 1 _ _ _ g1
  have p2 := cell_of_row w4 _ 2 _ _ _ g1
  simp at p0 p1 p2
  have CB := hide' (fun w => show Calls Tryd.prog 45 #[.int .i64 (born : Int), .int .i64 0] w _ from refBit_any born 0 w hb (by omega))
  rw [b0] at CB
  have CF := hide' (refFirst_any W H xs a n c w4 (hP.below BB.out) hn hW hH)
  have FO := hide' (first_ok (p := ⟨W, H, xs⟩) hx hW hH)
  have T0 := hide' (show born.testBit 0 = false by rw [Nat.testBit_eq_decide_div_mod_eq]; unfold bitN at b0; rw [b0]; rfl)
  obtain ⟨s0, hs0⟩ : ∃ s0, firstG ⟨W, H, xs⟩ = s0 := ⟨_, rfl⟩
  rw [hs0] at CF FO ⊢
  have G0 := hide' g0
  have G2 := hide' g2
  have S4 := hide' s4
  have HB := hide' hb
  have HS := hide' hs
  have GK := hide' (fun i u (h : growG born stay s0 i = some u) => grow_ok FO.out.1 FO.out.2.1 FO.out.2.2.1 FO.out.2.2.2 i u h)
  have RV := hide' (fun (V : World) (hV : ∀ k, k < w.heap.size + 1 + 1 + 1 → V.heap[k]? = w4.heap[k]?) => show V.cell? ⟨w.heap.size, 0, none⟩ = some (.int .i64 kd) ∧ V.cell? ⟨w.heap.size, 1, none⟩ = some (.int .i64 (born : Int)) ∧ V.cell? ⟨w.heap.size, 2, none⟩ = some (.int .i64 (stay : Int)) ∧ V.cell? ⟨w.heap.size, 3, none⟩ = some (.int .i64 st) ∧ V.cell? ⟨w.heap.size, 4, none⟩ = some (.int .i64 ra) ∧ V.cell? ⟨w.heap.size, 5, none⟩ = some (.slice ta tn tc) ∧ V.cell? ⟨w.heap.size, 6, none⟩ = some (.string sb) from
    have e := (hV _ (by omega)).trans G0.out
    ⟨cell_of_row V _ 0 _ _ _ e, cell_of_row V _ 1 _ _ _ e, cell_of_row V _ 2 _ _ _ e, cell_of_row V _ 3 _ _ _ e, cell_of_row V _ 4 _ _ _ e, cell_of_row V _ 5 _ _ _ e, cell_of_row V _ 6 _ _ _ e⟩)
  clear g0 g1 g2 s4 hb hs hP hn hx b0 hs0
  have n1 : decide ((m : Int) < 1) = false := by simp; omega
  have n2 : ¬ (64 : Int) < (m : Int) := by omega
  have RA := hide' (show ∀ x, agA born stay s0 m = x → ∀ (V : World), Below w.heap.size w V → RefAgainPost born stay s0 m w (.returned (.tuple #[agV x, .int .i64 (x.f : Int)])) V from fun x hx V hV => ⟨by rw [hx], hV⟩)
  go_enter Tryd.func17, Tryd.ntmps17
  go_wp2_with fail
  refine (CB.out w4).mono ?_
  rintro e w5 ⟨rfl, hw5⟩
  rw [hw5]
  clear hw5 w5
  go_wp2_with fail
  refine CF.out.mono ?_
  rintro e w5 ⟨v5, rfl, tb5, fr5, b5⟩
  clear hw4
  have l0 : s0.P.xs.length ≤ 10000 := by rw [FO.out.1.len]; exact Nat.mul_le_mul FO.out.2.1 FO.out.2.2.1
  obtain ⟨va, vc, rfl, AP5⟩ := tab_arg tb5 (by unfold maxLen; omega)
  obtain ⟨w6, hw6⟩ : ∃ w6, (w5.alloc (.cells #[.int .i64 (s0.P.W : Int), .int .i64 (s0.P.H : Int), .slice va s0.P.xs.length vc, .int .i64 s0.r, .int .i64 s0.d] 36)).alloc (.cells #[.int .i64 (s0.P.W : Int), .int .i64 (s0.P.H : Int), .slice va s0.P.xs.length vc, .int .i64 s0.r, .int .i64 s0.d] 36) = w6 := ⟨_, rfl⟩
  obtain ⟨pf, hp⟩ : ∃ p, w5.heap.size = p := ⟨_, rfl⟩
  have GT0 := hide' (show GA w w4 w6 pf (pf + 1) s0 (.slice va s0.P.xs.length vc) s0 (.slice va s0.P.xs.length vc) from by
    have sz := b5.size
    have s4 := S4.out
    have fr : ∀ g k c, Value.slice va s0.P.xs.length vc = .slice (some ⟨g, 0, none⟩) k c → w.heap.size + 1 + 1 + 1 ≤ g ∧ g ≠ pf + 1 := fun g k c h => by
      have := fr5 g k c h
      have := tab_lt tb5 h
      omega
    have tb : Tab w6 (.slice va s0.P.xs.length vc) s0.P.xs := tab_keep tb5 (fun g k cap h => by
      have := tab_lt tb5 h
      rw [← hw6, Below.heap_alloc _ _ _ (by simp; omega)]; exact Below.heap_alloc _ _ _ (by omega))
    refine ⟨fun k hk => ?_, ?_, tb, fr, ?_, tb, fr, by omega, by omega, ?_⟩
    · rw [← hw6, Below.heap_alloc _ _ _ (by simp; omega), Below.heap_alloc _ _ _ (by omega)]; exact b5.block k (by omega)
    · rw [← hw6, Below.heap_alloc _ _ _ (by simp; omega)]; exact heap_atX _ _ _ hp.symm
    · rw [← hw6]; exact heap_atX _ _ _ (by simp; omega)
    · rw [← hw6]; exact ((BB.out.trans (b5.mono BB.out.size)).alloc (by have := BB.out.size; omega) _).alloc (by have := BB.out.size; simp; omega) _)
  clear tb5 fr5 b5 AP5 l0
  unfold gV
  go_wp2
  try rw [hw6]
  try rw [hp]
  clear hw6 hp
  go_loopw [10] (fun iv wr => ∃ (i j : Nat) (u : Gst) (v : Value), iv = .int .i64 (i : Int) ∧ Hid (i = j + 1) ∧ i ≤ m + 1 ∧ Hid (growG born stay s0 j = some u) ∧ Hid (AgInv born stay s0 m j u) ∧ Hid (GA w w4 wr pf (pf + 1) s0 (.slice va s0.P.xs.length vc) u v)) (fun iv _ => m + 1 - (intOf iv).toNat)
  case atStart => exact ⟨1, 0, s0, _, rfl, hide' rfl, by omega, hide' rfl, hide' (AgInv.start ..), GT0⟩
  case round =>
    obtain ⟨i, j, u, v, rfl, HI, hi, HG, HA, HT⟩ := hrel
    obtain ⟨o1, o2, o3, o4, o5, o6, o7⟩ := GK.out j u HG.out
    have jm : j ≤ 64 := by have := HI.out; omega
    have lu : u.P.xs.length ≤ 10000 := by rw [o1.len]; exact Nat.mul_le_mul o2 o3
    obtain ⟨ua, uc, rfl, AP⟩ := tab_arg HT.out.tab (by unfold maxLen; omega)
    have q0 := cell_of_row wr _ 0 _ _ _ HT.out.blk
    have q1 := cell_of_row wr _ 1 _ _ _ HT.out.blk
    have q2 := cell_of_row wr _ 2 _ _ _ HT.out.blk
    have q3 := cell_of_row wr _ 3 _ _ _ HT.out.blk
    have q4 := cell_of_row wr _ 4 _ _ _ HT.out.blk
    simp at q0 q1 q2 q3 q4
    have E2 := hide' ((HT.out.keep _ (by omega)).trans G2.out)
    have BE := hide' HT.out.below
    by_cases go : i ≤ m
    · have d1 : (i : Int) ≤ (m : Int) := by omega
      have JM := hide' (show j < m by have := HI.out; omega)
      by_cases uz : u.P.W = 0
      · have t3 : ((u.P.W : Int) == 0) = true := by simp [uz]
        have AN := hide' (HA.out.1 uz)
        have r0 := cell_of_row wr _ 0 _ _ _ E2.out
        have r1 := cell_of_row wr _ 1 _ _ _ E2.out
        have r2 := cell_of_row wr _ 2 _ _ _ E2.out
        simp at r0 r1 r2
        have f0 := frozen_of_row wr _ 0 _ _ E2.out
        have f1 := frozen_of_row wr _ 1 _ _ E2.out
        have f2 := frozen_of_row wr _ 2 _ _ E2.out
        clear uz AP o1
        go_wp2
        refine bodyPost_ret (v := .tuple #[.agg #[.int .i64 0, .int .i64 0, .int .i64 0], .int .i64 5]) (by simp [results, Tryd.results17, go_sem, r0, r1, r2]) rfl ?_
        exact RA.out ⟨0, 0, 0, 5⟩ AN.out _ (((BE.out.setCell (by simp; omega) _).setCell (by simp; omega) _).setCell (by simp; omega) _)
      · have t3 : ((u.P.W : Int) == 0) = false := by simp [uz]
        have UZ := hide' uz
        obtain ⟨c0, c1, c2', c3, c4, c5, c6⟩ := RV.out wr HT.out.keep
        have NC := hide' (refNext_any kd st ra born stay ta tn tc sb u.P ua u.P.xs.length uc u.r u.d wr HB.out HS.out AP o1.len o1.bits o2 o3 (by omega) (by omega) (by omega) (by omega))
        clear AP o1 uz
        go_wp2_with fail
        refine NC.out.mono ?_
        rintro e w7 (⟨big, rfl, b7⟩ | ⟨small, v7, rfl, tb7, fr7, b7⟩)
        · have AN := hide' (HA.out.big JM.out UZ.out ((big_iff born stay u).1 big))
          have e7 := (b7.block _ (lt_of_block E2.out)).trans E2.out
          have r0 := cell_of_row w7 _ 0 _ _ _ e7
          have r1 := cell_of_row w7 _ 1 _ _ _ e7
          have r2 := cell_of_row w7 _ 2 _ _ _ e7
          simp at r0 r1 r2
          have f0 := frozen_of_row w7 _ 0 _ _ e7
          have f1 := frozen_of_row w7 _ 1 _ _ e7
          have f2 := frozen_of_row w7 _ 2 _ _ e7
          have s7 : w.heap.size + 1 + 1 < w7.heap.size := lt_of_block e7
          have ne5 : ¬ w.heap.size + 1 + 1 = w7.heap.size := by omega
          have ne6 : ¬ w7.heap.size = w.heap.size + 1 + 1 := by omega
          have E7 := hide' e7
          have B7 := hide' (BE.out.trans (b7.mono BE.out.size))
          clear e7 b7 big q0 q1 q2 q3 q4 c0 c1 c2' c3 c4 c5 c6
          go_wp2
          obtain ⟨X, hXX⟩ : ∃ X, (((w7.setCell ⟨w.heap.size + 1 + 1, 0, none⟩ (.int .i64 0)).setCell ⟨w.heap.size + 1 + 1, 1, none⟩ (.int .i64 0)).setCell ⟨w.heap.size + 1 + 1, 2, none⟩ (.int .i64 0)).alloc (.cells #[.int .i64 0, .int .i64 0, .slice none 0 0, .int .i64 0, .int .i64 0] 36) = X := ⟨_, rfl⟩
          rw [hXX]
          have k0 : X.heap[w.heap.size + 1 + 1]? = some (.cells #[.int .i64 0, .int .i64 0, .int .i64 0] 43 (0, 0)) := by
            have h1 := three_row E7.out (.int .i64 0) (.int .i64 0) (.int .i64 0)
            rw [← hXX, Below.heap_alloc _ _ _ (lt_of_block h1)]; exact h1
          have m0 := cell_of_row X _ 0 _ _ _ k0
          have m1 := cell_of_row X _ 1 _ _ _ k0
          have m2 := cell_of_row X _ 2 _ _ _ k0
          simp at m0 m1 m2
          have BQ : Below w.heap.size w X := by rw [← hXX]; exact (((B7.out.setCell (by simp; omega) _).setCell (by simp; omega) _).setCell (by simp; omega) _).alloc (by simp; omega) _
          refine bodyPost_ret (v := .tuple #[.agg #[.int .i64 0, .int .i64 0, .int .i64 0], .int .i64 4]) (by simp [results, Tryd.results17, go_sem, m0, m1, m2]) rfl ?_
          exact RA.out ⟨0, 0, 0, 4⟩ AN.out _ BQ
        · have ue : nextG born stay ⟨u.P, u.r, u.d⟩ = nextG born stay u := rfl
          rw [ue] at tb7 ⊢
          clear ue
          have NG := hide' (grow_small HG.out small)
          have NB := hide' (fun k => small ((big_iff born stay u).2 k))
          have AF := hide' (HA.out.found JM.out UZ.out NB.out)
          have AX := hide' (HA.out.next T0.out JM.out UZ.out NB.out)
          obtain ⟨t, ht⟩ : ∃ t, nextG born stay u = t := ⟨_, rfl⟩
          rw [ht] at tb7 NG AF AX ⊢
          obtain ⟨k1, k2, k3, k4, k5, k6, k7⟩ := GK.out (j + 1) t NG.out
          have lt : t.P.xs.length ≤ 10000 := by rw [k1.len]; exact Nat.mul_le_mul k2 k3
          obtain ⟨na, nc, rfl, AP7⟩ := tab_arg tb7 (by unfold maxLen; omega)
          have H7 := hide' (HT.out.next b7)
          have e7 := H7.out.blk
          have r0 := cell_of_row w7 _ 0 _ _ _ e7
          have r1 := cell_of_row w7 _ 1 _ _ _ e7
          have r2 := cell_of_row w7 _ 2 _ _ _ e7
          have r3 := cell_of_row w7 _ 3 _ _ _ e7
          have r4 := cell_of_row w7 _ 4 _ _ _ e7
          simp at r0 r1 r2 r3 r4
          have f0 := frozen_of_row w7 _ 0 _ _ e7
          have f1 := frozen_of_row w7 _ 1 _ _ e7
          have f2 := frozen_of_row w7 _ 2 _ _ e7
          have f3 := frozen_of_row w7 _ 3 _ _ e7
          have f4 := frozen_of_row w7 _ 4 _ _ e7
          have h0 := cell_of_row w7 _ 0 _ _ _ H7.out.fb
          have h1 := cell_of_row w7 _ 1 _ _ _ H7.out.fb
          have h2 := cell_of_row w7 _ 2 _ _ _ H7.out.fb
          simp at h0 h1 h2
          have s7 : pf + 1 < w7.heap.size := lt_of_block e7
          have ne5 : ¬ pf + 1 = w7.heap.size := by omega
          have ne6 : ¬ w7.heap.size = pf + 1 := by omega
          have ne7 : ¬ pf = w7.heap.size := by omega
          have ne8 : ¬ w7.heap.size = pf := by omega
          have E7 := hide' e7
          have T7 := hide' tb7
          have GX := hide' (fun (X : World) (o : Obj) (hXX : (((((w7.setCell ⟨pf + 1, 0, none⟩ (.int .i64 (t.P.W : Int))).setCell ⟨pf + 1, 1, none⟩ (.int .i64 (t.P.H : Int))).setCell ⟨pf + 1, 2, none⟩ (.slice na t.P.xs.length nc)).setCell ⟨pf + 1, 3, none⟩ (.int .i64 t.r)).setCell ⟨pf + 1, 4, none⟩ (.int .i64 t.d)).alloc o = X) => show GA w w4 X pf (pf + 1) s0 (.slice va s0.P.xs.length vc) t (.slice na t.P.xs.length nc) from by
            have pw := lt_of_block HT.out.blk
            have pl := HT.out.pl
            have pq := HT.out.pq
            have sz := b7.size
            refine ⟨fun k hk => ?_, ?_, ?_, H7.out.ff, ?_, ?_, fun g k c h => ?_, pq, pl, ?_⟩
            · rw [← hXX, five_keep (by omega) (by omega)]; exact H7.out.keep k hk
            · rw [← hXX, five_keep (by omega) (by omega)]; exact H7.out.fb
            · refine tab_keep H7.out.ft (fun g k cap h => ?_)
              have := H7.out.ff g k cap h
              rw [← hXX]; exact five_keep this.2 (tab_lt H7.out.ft h) _ _ _ _ _ _
            · rw [← hXX]; exact five_set E7.out _ _ _ _ _ _
            · refine tab_keep T7.out (fun g k cap h => ?_)
              have := fr7 g k cap h
              rw [← hXX]; exact five_keep (by omega) (tab_lt T7.out h) _ _ _ _ _ _
            · have := fr7 g k c h; omega
            · rw [← hXX]; exact five_below H7.out.below (by omega) (by have := H7.out.below.size; omega) _ _ _ _ _ _)
          clear e7 b7 small tb7 AP7 fr7 q0 q1 q2 q3 q4 c0 c1 c2' c3 c4 c5 c6 k1
          go_upto_region 14 with fail
          obtain ⟨X, hXX⟩ : ∃ X, (((((w7.setCell ⟨pf + 1, 0, none⟩ (.int .i64 (t.P.W : Int))).setCell ⟨pf + 1, 1, none⟩ (.int .i64 (t.P.H : Int))).setCell ⟨pf + 1, 2, none⟩ (.slice na t.P.xs.length nc)).setCell ⟨pf + 1, 3, none⟩ (.int .i64 t.r)).setCell ⟨pf + 1, 4, none⟩ (.int .i64 t.d)).alloc (.cells #[.int .i64 (t.P.W : Int), .int .i64 (t.P.H : Int), .slice na t.P.xs.length nc, .int .i64 t.r, .int .i64 t.d] 36) = X := ⟨_, rfl⟩
          have HX := hide' (GX.out X _ hXX)
          rw [hXX]
          obtain ⟨x1, x2, x3, AP1⟩ := tab_arg HX.out.tab (by unfold maxLen; omega)
          obtain ⟨y1, y2, y3, AP2⟩ := tab_arg HX.out.ft (by unfold maxLen; have := FO.out.1.len; have := Nat.mul_le_mul FO.out.2.1 FO.out.2.2.1; omega)
          injection x3 with x3 x4 x5
          injection y3 with y3 y4 y5
          subst x3 x5 y3 y5
          have AC := hide' (Alike_any (t.P.W : Int) (t.P.H : Int) (s0.P.W : Int) (s0.P.H : Int) t.P.xs s0.P.xs na va t.P.xs.length nc s0.P.xs.length vc X AP1 AP2)
          have SE := hide' (show (decide (t.P.xs = s0.P.xs) && ((t.P.W : Int) == (s0.P.W : Int)) && ((t.P.H : Int) == (s0.P.H : Int))) = sameP t.P s0.P from by
            unfold sameP
            have e1 : ((t.P.W : Int) == (s0.P.W : Int)) = decide (t.P.W = s0.P.W) := by by_cases h : t.P.W = s0.P.W <;> simp [h]; omega
            have e2 : ((t.P.H : Int) == (s0.P.H : Int)) = decide (t.P.H = s0.P.H) := by by_cases h : t.P.H = s0.P.H <;> simp [h]; omega
            rw [e1, e2]
            cases decide (t.P.xs = s0.P.xs) <;> cases decide (t.P.W = s0.P.W) <;> cases decide (t.P.H = s0.P.H) <;> rfl)
          clear hXX AP1 AP2 x4 y4 r0 r1 r2 r3 r4 f0 f1 f2 f3 f4 h0 h1 h2 s7 ne5 ne6 ne7 ne8 ht
          have z0 := cell_of_row X _ 0 _ _ _ HX.out.blk
          have z1 := cell_of_row X _ 1 _ _ _ HX.out.blk
          have z2 := cell_of_row X _ 2 _ _ _ HX.out.blk
          have y0 := cell_of_row X _ 0 _ _ _ HX.out.fb
          have y1 := cell_of_row X _ 1 _ _ _ HX.out.fb
          have y2 := cell_of_row X _ 2 _ _ _ HX.out.fb
          simp at z0 z1 z2 y0 y1 y2
          go_wp2_with fail
          refine AC.out.mono ?_
          rw [SE.out]
          rintro e w8 ⟨rfl, b8⟩
          have H8 := hide' (HX.out.next b8)
          clear z0 z1 z2 y0 y1 y2
          have z0 := cell_of_row w8 _ 0 _ _ _ H8.out.blk
          have z3 := cell_of_row w8 _ 3 _ _ _ H8.out.blk
          have z4 := cell_of_row w8 _ 4 _ _ _ H8.out.blk
          have y3 := cell_of_row w8 _ 3 _ _ _ H8.out.fb
          have y4 := cell_of_row w8 _ 4 _ _ _ H8.out.fb
          simp at z0 z3 z4 y3 y4
          have E8 := hide' ((H8.out.keep _ (by omega)).trans G2.out)
          cases hsm : sameP t.P s0.P with
          | true =>
            have tw : (0 : Int) < (t.P.W : Int) := by
              have h1 := (HA.out.2 UZ.out).2
              unfold sameP at hsm
              simp at hsm
              omega
            have AN := hide' (AF.out hsm)
            obtain ⟨f1, f2, f3, f4⟩ := FO.out.2.2.2
            have w1 : IntKind.i64.wrap (t.r - s0.r) = t.r - s0.r := wrap_near (by omega) (by omega)
            have w2 : IntKind.i64.wrap (t.d - s0.d) = t.d - s0.d := wrap_near (by omega) (by omega)
            have r0 := cell_of_row w8 _ 0 _ _ _ E8.out
            have r1 := cell_of_row w8 _ 1 _ _ _ E8.out
            have r2 := cell_of_row w8 _ 2 _ _ _ E8.out
            simp at r0 r1 r2
            have f0 := frozen_of_row w8 _ 0 _ _ E8.out
            have f1 := frozen_of_row w8 _ 1 _ _ E8.out
            have f2 := frozen_of_row w8 _ 2 _ _ E8.out
            have BQ := hide' H8.out.below
            clear hsm b8
            go_wp2
            refine bodyPost_ret (v := .tuple #[.agg #[.int .i64 (i : Int), .int .i64 (t.r - s0.r), .int .i64 (t.d - s0.d)], .int .i64 0]) (by simp [results, Tryd.results17, go_sem, r0, r1, r2]) rfl ?_
            refine ⟨?_, ((BQ.out.setCell (by simp; omega) _).setCell (by simp; omega) _).setCell (by simp; omega) _⟩
            rw [AN.out]
            unfold agV
            dsimp only
            rw [HI.out]
            rfl
          | false =>
            have NX := hide' (AX.out hsm)
            clear hsm b8
            go_wp2
            exact ⟨⟨i + 1, j + 1, t, .slice na t.P.xs.length nc, by go_num, hide' (by have := HI.out; omega), by omega, NG, NX, H8⟩, by simp [intOf]; omega⟩
    · have JM : j = m := by have := HI.out; omega
      have AN := hide' (show agA born stay s0 m = ⟨0, 0, 0, 5⟩ from by have h := HA.out; rw [JM] at h; exact h.last)
      clear JM
      have r0 := cell_of_row wr _ 0 _ _ _ E2.out
      have r1 := cell_of_row wr _ 1 _ _ _ E2.out
      have r2 := cell_of_row wr _ 2 _ _ _ E2.out
      simp at r0 r1 r2
      have f0 := frozen_of_row wr _ 0 _ _ E2.out
      have f1 := frozen_of_row wr _ 1 _ _ E2.out
      have f2 := frozen_of_row wr _ 2 _ _ E2.out
      have d1 : ¬ (i : Int) ≤ (m : Int) := by omega
      clear go AP o1
      go_wp2
      refine bodyPost_ret (v := .tuple #[.agg #[.int .i64 0, .int .i64 0, .int .i64 0], .int .i64 5]) (by simp [results, Tryd.results17, go_sem, r0, r1, r2]) rfl ?_
      exact RA.out ⟨0, 0, 0, 5⟩ AN.out _ (((BE.out.setCell (by simp; omega) _).setCell (by simp; omega) _).setCell (by simp; omega) _)
end Go.Proofs.YtdbgdfodoceadaaDoor

