/-
  What the last text of this claim leans on, part 25: Gt6, Gp0.
-/
import Derived.Test.YtdbgdfodoceadaaDoorZg24
import Derived.Test.YtdbgdfodoceadaaDoorZg7
namespace Go.Proofs.YtdbgdfodoceadaaDoor
open Go.RowKit
set_option linter.unusedVariables false
/-- What Grow answers where it may grow. -/
def RefGrowPost (born stay : Nat) (s0 : Gst) (m : Nat) (w : World) (e : Ending) (w' : World) : Prop :=
  (growG born stay s0 m = none ∧ e = .returned (.tuple #[.agg #[.int .i64 0, .int .i64 0, .slice none 0 0, .int .i64 0, .int .i64 0], .int .i64 4]) ∧ Below w.heap.size w w') ∨
  (∃ u v, growG born stay s0 m = some u ∧ e = .returned (.tuple #[gV u v, .int .i64 0]) ∧ Tab w' v u.P.xs ∧ Fresh w v ∧ Below w.heap.size w w')
theorem big_iff (born stay : Nat) (s : Gst) : (100 < (trimP (nextC born stay s.P)).1.W ∨ 100 < (trimP (nextC born stay s.P)).1.H) ↔ (100 < (nextG born stay s).P.W ∨ 100 < (nextG born stay s).P.H) := by
  unfold nextG boxG
  rcases trim_cases (nextC born stay s.P) with ⟨h0, h1⟩ | ⟨l, t, r, b, hB, h1⟩
  · rw [h1, if_pos rfl]; simp [noG]
  · rw [h1]
    dsimp only
    obtain ⟨y, x, c, e⟩ := hB.le
    have := hB.inn _ _ c
    rw [if_neg (by omega)]
theorem grow_stays {born stay : Nat} {s : Gst} {m : Nat} (h : growG born stay s m = none) : ∀ k, growG born stay s (m + k) = none
  | 0 => h
  | k + 1 => by rw [← Nat.add_assoc, growG, grow_stays h k]
theorem grow_big {born stay : Nat} {s u : Gst} {i : Nat} (h : growG born stay s i = some u) (hb : 100 < (trimP (nextC born stay u.P)).1.W ∨ 100 < (trimP (nextC born stay u.P)).1.H) : growG born stay s (i + 1) = none := by
  rw [growG, h]
  dsimp only
  rw [if_pos ((big_iff born stay u).1 hb)]
theorem grow_small {born stay : Nat} {s u : Gst} {i : Nat} (h : growG born stay s i = some u) (hb : ¬ (100 < (trimP (nextC born stay u.P)).1.W ∨ 100 < (trimP (nextC born stay u.P)).1.H)) : growG born stay s (i + 1) = some (nextG born stay u) := by
  rw [growG, h]
  dsimp only
  rw [if_neg (fun k => hb ((big_iff born stay u).2 k))]
theorem grow_zero {born stay : Nat} {s u : Gst} {i : Nat} (hs : s.P.W = 0 → s = noG) (h : growG born stay s i = some u) (hu : u.P.W = 0) : u = noG := by
  cases i with
  | zero => rw [growG] at h; injection h with h; subst h; exact hs hu
  | succ i =>
    rw [growG] at h
    cases hg : growG born stay s i with
    | none => rw [hg] at h; cases h
    | some t =>
      rw [hg] at h
      dsimp only at h
      split at h
      · cases h
      · injection h with h; subst h; exact box_zero hu
structure GT (w w4 wr : World) (p : Nat) (s : Gst) (v : Value) : Prop where
  keep : ∀ k, k < w.heap.size + 1 + 1 + 1 → wr.heap[k]? = w4.heap[k]?
  blk : wr.heap[p]? = some (.cells #[.int .i64 (s.P.W : Int), .int .i64 (s.P.H : Int), v, .int .i64 s.r, .int .i64 s.d] 36 (0, 0))
  tab : Tab wr v s.P.xs
  fr : ∀ g k c, v = .slice (some ⟨g, 0, none⟩) k c → w.heap.size + 1 + 1 + 1 ≤ g ∧ g ≠ p
  pl : w.heap.size + 1 + 1 + 1 ≤ p
  below : Below w.heap.size w wr
set_option maxRecDepth 100000 in
set_option maxHeartbeats 12800000 in
theorem refGrow_bad (kd st ra : Int) (born stay : Nat) (ta : Option Addr) (tn tc : Nat) (sb : ByteArray) (W H : Nat) (a : Option Addr) (n c : Nat) (N : Int) (w : World) (hb : born ≤ 511) (hbad : bitN born 0 = 1 ∨ N < 0 ∨ 100000 < N) :
    Calls Tryd.prog 15 #[.agg #[.int .i64 kd, .int .i64 (born : Int), .int .i64 (stay : Int), .int .i64 st, .int .i64 ra, .slice ta tn tc, .string sb], .agg #[.int .i64 (W : Int), .int .i64 (H : Int), .slice a n c], .int .i64 N] w fun e w' => e = .returned (.tuple #[.agg #[.int .i64 0, .int .i64 0, .slice none 0 0, .int .i64 0, .int .i64 0], .int .i64 1]) ∧ Below w.heap.size w w' := by
  obtain ⟨w4, hw4⟩ : ∃ w4, ((w.alloc (.cells #[.int .i64 kd, .int .i64 (born : Int), .int .i64 (stay : Int), .int .i64 st, .int .i64 ra, .slice ta tn tc, .string sb] 24)).alloc (.cells #[.int .i64 (W : Int), .int .i64 (H : Int), .slice a n c] 26)).alloc (.cells #[.int .i64 0, .int .i64 0, .slice none 0 0, .int .i64 0, .int .i64 0] 36) = w4 := ⟨_, rfl⟩
  have BB := hide' (show Below w.heap.size w w4 by rw [← hw4]; repeat (first | exact Below.refl _ _ | refine Below.alloc ?_ (by simp; try omega) _))
  have g0 : w4.heap[w.heap.size]? = some (.cells #[.int .i64 kd, .int .i64 (born : Int), .int .i64 (stay : Int), .int .i64 st, .int .i64 ra, .slice ta tn tc, .string sb] 24 (0, 0)) := by rw [← hw4, Below.heap_alloc _ _ _ (by simp; try omega), Below.heap_alloc _ _ _ (by simp; try omega)]; exact heap_atX _ _ _ (by simp)
  have g2 : w4.heap[w.heap.size + 1 + 1]? = some (.cells #[.int .i64 0, .int .i64 0, .slice none 0 0, .int .i64 0, .int .i64 0] 36 (0, 0)) := by rw [← hw4]; exact heap_atX _ _ _ (by simp)
  have c1 := cell_of_row w4 _ 1 _ _ _ g0
  simp at c1
  have r0 := cell_of_row w4 _ 0 _ _ _ g2
  have r1 := cell_of_row w4 _ 1 _ _ _ g2
  have r2 := cell_of_row w4 _ 2 _ _ _ g2
  have r3 := cell_of_row w4 _ 3 _ _ _ g2
  have r4 := cell_of_row w4 _ 4 _ _ _ g2
  simp at r0 r1 r2 r3 r4
  have f0 := frozen_of_row w4 _ 0 _ _ g2
  have f1 := frozen_of_row w4 _ 1 _ _ g2
  have f2 := frozen_of_row w4 _ 2 _ _ g2
  have f3 := frozen_of_row w4 _ 3 _ _ g2
  have f4 := frozen_of_row w4 _ 4 _ _ g2
  have CB := hide' (fun w => show Calls Tryd.prog 45 #[.int .i64 (born : Int), .int .i64 0] w _ from refBit_any born 0 w hb (by omega))
  obtain ⟨b, hbb⟩ : ∃ b, bitN born 0 = b := ⟨_, rfl⟩
  rw [hbb] at CB hbad
  have tst : ((b : Int) == 1) = true ∨ (((b : Int) == 1) = false ∧ decide (N < 0) = true) ∨ (((b : Int) == 1) = false ∧ decide (N < 0) = false ∧ 100000 < N) := by
    by_cases t1 : b = 1
    · left; simp [t1]
    · right
      by_cases t2 : N < 0
      · left; exact ⟨by simp; omega, by simp [t2]⟩
      · right; exact ⟨by simp; omega, by simp; omega, by omega⟩
  clear hbb hbad g0 g2
  rcases tst with t1 | ⟨t1, t2⟩ | ⟨t1, t2, t3⟩
  all_goals (
    go_enter Tryd.func15, Tryd.ntmps15
    go_wp2_with fail
    refine (CB.out w4).mono ?_
    rintro e w5 ⟨rfl, rfl⟩
    go_wp2
    refine bodyPost_ret (v := .tuple #[.agg #[.int .i64 0, .int .i64 0, .slice none 0 0, .int .i64 0, .int .i64 0], .int .i64 1]) (by simp [results, Tryd.results15, go_sem, r0, r1, r2, r3, r4]) rfl ?_
    exact ⟨rfl, ((((BB.out.setCell (by simp; omega) _).setCell (by simp; omega) _).setCell (by simp; omega) _).setCell (by simp; omega) _).setCell (by simp; omega) _⟩)
set_option maxRecDepth 100000 in
set_option maxHeartbeats 12800000 in
theorem refGrow_ok (kd st ra : Int) (born stay : Nat) (ta : Option Addr) (tn tc : Nat) (sb : ByteArray) (W H : Nat) (xs : List Int) (a : Option Addr) (n c : Nat) (m : Nat) (w : World) (hb : born ≤ 511) (hs : stay ≤ 511) (hP : ArgP w xs a n c) (hn : n = W * H) (hx : ∀ k, 0 ≤ xs.getD k 0 ∧ xs.getD k 0 ≤ 1) (hW : W ≤ 100) (hH : H ≤ 100) (b0 : bitN born 0 = 0) (hm : m ≤ 100000) :
    Calls Tryd.prog 15 #[.agg #[.int .i64 kd, .int .i64 (born : Int), .int .i64 (stay : Int), .int .i64 st, .int .i64 ra, .slice ta tn tc, .string sb], .agg #[.int .i64 (W : Int), .int .i64 (H : Int), .slice a n c], .int .i64 (m : Int)] w (RefGrowPost born stay (firstG ⟨W, H, xs⟩) m w) := by
  obtain ⟨w4, hw4⟩ : ∃ w4, ((w.alloc (.cells #[.int .i64 kd, .int .i64 (born : Int), .int .i64 (stay : Int), .int .i64 st, .int .i64 ra, .slice ta tn tc, .string sb] 24)).alloc (.cells #[.int .i64 (W : Int), .int .i64 (H : Int), .slice a n c] 26)).alloc (.cells #[.int .i64 0, .int .i64 0, .slice none 0 0, .int .i64 0, .int .i64 0] 36) = w4 := ⟨_, rfl⟩
  have BB := hide' (show Below w.heap.size w w4 by rw [← hw4]; repeat (first | exact Below.refl _ _ | refine Below.alloc ?_ (by simp; try omega) _))
  have g0 : w4.heap[w.heap.size]? = some (.cells #[.int .i64 kd, .int .i64 (born : Int), .int .i64 (stay : Int), .int .i64 st, .int .i64 ra, .slice ta tn tc, .string sb] 24 (0, 0)) := by rw [← hw4, Below.heap_alloc _ _ _ (by simp; try omega), Below.heap_alloc _ _ _ (by simp; try omega)]; exact heap_atX _ _ _ (by simp)
  have g1 : w4.heap[w.heap.size + 1]? = some (.cells #[.int .i64 (W : Int), .int .i64 (H : Int), .slice a n c] 26 (0, 0)) := by rw [← hw4, Below.heap_alloc _ _ _ (by simp; try omega)]; exact heap_atX _ _ _ (by simp)
  have g2 : w4.heap[w.heap.size + 1 + 1]? = some (.cells #[.int .i64 0, .int .i64 0, .slice none 0 0, .int .i64 0, .int .i64 0] 36 (0, 0)) := by rw [← hw4]; exact heap_atX _ _ _ (by simp)
  have s4 : w4.heap.size = w.heap.size + 1 + 1 + 1 := by rw [← hw4]; simp
  have c1 := cell_of_row w4 _ 1 _ _ _ g0
  have p0 := cell_of_row w4 _ 0 _ _ _ g1
  have p1 := cell_of_row w4 _ 1 _ _ _ g1
  have p2 := cell_of_row w4 _ 2 _ _ _ g1
  simp at c1 p0 p1 p2
  have CB := hide' (fun w => show Calls Tryd.prog 45 #[.int .i64 (born : Int), .int .i64 0] w _ from refBit_any born 0 w hb (by omega))
  rw [b0] at CB
  have CF := hide' (refFirst_any W H xs a n c w4 (hP.below BB.out) hn hW hH)
  have FO := hide' (first_ok (p := ⟨W, H, xs⟩) hx hW hH)
  have T0 := hide' (show born.testBit 0 = false by rw [Nat.testBit_eq_decide_div_mod_eq]; unfold bitN at b0; rw [b0]; rfl)
  obtain ⟨s0, hs0⟩ : ∃ s0, firstG ⟨W, H, xs⟩ = s0 := ⟨_, rfl⟩
  rw [hs0] at CF FO ⊢
  have G0 := hide' g0
  have G2 := hide' g2
  have S4 := hide' s4
  have HB := hide' hb
  have HS := hide' hs
  have ZF := hide' (fun (h : s0.P.W = 0) => show s0 = noG from by rw [← hs0] at h ⊢; exact box_zero h)
  have GK := hide' (fun i u (h : growG born stay s0 i = some u) => grow_ok FO.out.1 FO.out.2.1 FO.out.2.2.1 FO.out.2.2.2 i u h)
  have RV := hide' (fun (V : World) (hV : ∀ k, k < w.heap.size + 1 + 1 + 1 → V.heap[k]? = w4.heap[k]?) => show V.cell? ⟨w.heap.size, 0, none⟩ = some (.int .i64 kd) ∧ V.cell? ⟨w.heap.size, 1, none⟩ = some (.int .i64 (born : Int)) ∧ V.cell? ⟨w.heap.size, 2, none⟩ = some (.int .i64 (stay : Int)) ∧ V.cell? ⟨w.heap.size, 3, none⟩ = some (.int .i64 st) ∧ V.cell? ⟨w.heap.size, 4, none⟩ = some (.int .i64 ra) ∧ V.cell? ⟨w.heap.size, 5, none⟩ = some (.slice ta tn tc) ∧ V.cell? ⟨w.heap.size, 6, none⟩ = some (.string sb) from
    have e := (hV _ (by omega)).trans G0.out
    ⟨cell_of_row V _ 0 _ _ _ e, cell_of_row V _ 1 _ _ _ e, cell_of_row V _ 2 _ _ _ e, cell_of_row V _ 3 _ _ _ e, cell_of_row V _ 4 _ _ _ e, cell_of_row V _ 5 _ _ _ e, cell_of_row V _ 6 _ _ _ e⟩)
  clear g0 g1 g2 s4 hb hs hP hn hx b0 hs0
  have n1 : decide ((m : Int) < 0) = false := by simp
  have n2 : ¬ (100000 : Int) < (m : Int) := by omega
  go_enter Tryd.func15, Tryd.ntmps15
  go_wp2_with fail
  refine (CB.out w4).mono ?_
  rintro e w5 ⟨rfl, hw5⟩
  rw [hw5]
  clear hw5 w5
  go_wp2_with fail
  refine CF.out.mono ?_
  rintro e w5 ⟨v5, rfl, tb5, fr5, b5⟩
  clear hw4
  have l0 : s0.P.xs.length ≤ 10000 := by rw [FO.out.1.len]; exact Nat.mul_le_mul FO.out.2.1 FO.out.2.2.1
  obtain ⟨va, vc, rfl, AP5⟩ := tab_arg tb5 (by unfold maxLen; omega)
  obtain ⟨w6, hw6⟩ : ∃ w6, w5.alloc (.cells #[.int .i64 (s0.P.W : Int), .int .i64 (s0.P.H : Int), .slice va s0.P.xs.length vc, .int .i64 s0.r, .int .i64 s0.d] 36) = w6 := ⟨_, rfl⟩
  obtain ⟨p, hp⟩ : ∃ p, w5.heap.size = p := ⟨_, rfl⟩
  have GT0 := hide' (show GT w w4 w6 p s0 (.slice va s0.P.xs.length vc) from by
    have sz := b5.size
    have s4 := S4.out
    refine ⟨fun k hk => ?_, ?_, ?_, fun g k c h => ?_, by omega, ?_⟩
    · rw [← hw6, Below.heap_alloc _ _ _ (by omega)]; exact b5.block k (by omega)
    · rw [← hw6]; exact heap_atX _ _ _ hp.symm
    · exact tab_keep tb5 (fun g k cap h => by rw [← hw6]; exact Below.heap_alloc _ _ _ (tab_lt tb5 h))
    · have := fr5 g k c h
      have := tab_lt tb5 h
      omega
    · rw [← hw6]; exact (BB.out.trans (b5.mono BB.out.size)).alloc (by have := BB.out.size; omega) _)
  clear tb5 fr5 b5 AP5 l0
  unfold gV
  go_wp2
  clear hw6 hp
  go_loopw [9] (fun iv wr => ∃ (i : Nat) (u : Gst) (v : Value), iv = .int .i64 (i : Int) ∧ i ≤ m ∧ Hid (growG born stay s0 i = some u) ∧ Hid (GT w w4 wr p u v)) (fun iv _ => m - (intOf iv).toNat)
  case atStart => exact ⟨0, s0, _, rfl, by omega, hide' rfl, GT0⟩
  case round =>
    obtain ⟨i, u, v, rfl, hi, HG, HT⟩ := hrel
    obtain ⟨o1, o2, o3, o4, o5, o6, o7⟩ := GK.out i u HG.out
    have lu : u.P.xs.length ≤ 10000 := by rw [o1.len]; exact Nat.mul_le_mul o2 o3
    obtain ⟨ua, uc, rfl, AP⟩ := tab_arg HT.out.tab (by unfold maxLen; omega)
    have q0 := cell_of_row wr _ 0 _ _ _ HT.out.blk
    have q1 := cell_of_row wr _ 1 _ _ _ HT.out.blk
    have q2 := cell_of_row wr _ 2 _ _ _ HT.out.blk
    have q3 := cell_of_row wr _ 3 _ _ _ HT.out.blk
    have q4 := cell_of_row wr _ 4 _ _ _ HT.out.blk
    simp at q0 q1 q2 q3 q4
    have e2 := (HT.out.keep _ (by omega)).trans G2.out
    have E2 := hide' e2
    by_cases go : i < m ∧ 0 < u.P.W
    · have d1 : (i : Int) < (m : Int) := by omega
      have d2 : (0 : Int) < (u.P.W : Int) := by omega
      obtain ⟨c0, c1, c2', c3, c4, c5, c6⟩ := RV.out wr HT.out.keep
      have NC := hide' (refNext_any kd st ra born stay ta tn tc sb u.P ua u.P.xs.length uc u.r u.d wr HB.out HS.out AP o1.len o1.bits o2 o3 (by omega) (by omega) (by omega) (by omega))
      clear AP o1 go e2
      go_wp2_with fail
      refine NC.out.mono ?_
      rintro e w7 (⟨big, rfl, b7⟩ | ⟨small, v7, rfl, tb7, fr7, b7⟩)
      · have NONE := hide' (show growG born stay s0 m = none by
          have h1 := grow_stays (grow_big HG.out big) (m - (i + 1))
          rw [show i + 1 + (m - (i + 1)) = m by omega] at h1
          exact h1)
        have e7 := (b7.block _ (lt_of_block E2.out)).trans E2.out
        have r0 := cell_of_row w7 _ 0 _ _ _ e7
        have r1 := cell_of_row w7 _ 1 _ _ _ e7
        have r2 := cell_of_row w7 _ 2 _ _ _ e7
        have r3 := cell_of_row w7 _ 3 _ _ _ e7
        have r4 := cell_of_row w7 _ 4 _ _ _ e7
        simp at r0 r1 r2 r3 r4
        have f0 := frozen_of_row w7 _ 0 _ _ e7
        have f1 := frozen_of_row w7 _ 1 _ _ e7
        have f2 := frozen_of_row w7 _ 2 _ _ e7
        have f3 := frozen_of_row w7 _ 3 _ _ e7
        have f4 := frozen_of_row w7 _ 4 _ _ e7
        have s7 : w.heap.size + 1 + 1 < w7.heap.size := lt_of_block e7
        have ne5 : ¬ w.heap.size + 1 + 1 = w7.heap.size := by omega
        have ne6 : ¬ w7.heap.size = w.heap.size + 1 + 1 := by omega
        have E7 := hide' e7
        have B7 := hide' (HT.out.below.trans (b7.mono HT.out.below.size))
        clear e7 b7 big q0 q1 q2 q3 q4 c0 c1 c2' c3 c4 c5 c6
        go_wp2
        obtain ⟨X, hXX⟩ : ∃ X, (((((w7.setCell ⟨w.heap.size + 1 + 1, 0, none⟩ (.int .i64 0)).setCell ⟨w.heap.size + 1 + 1, 1, none⟩ (.int .i64 0)).setCell ⟨w.heap.size + 1 + 1, 2, none⟩ (.slice none 0 0)).setCell ⟨w.heap.size + 1 + 1, 3, none⟩ (.int .i64 0)).setCell ⟨w.heap.size + 1 + 1, 4, none⟩ (.int .i64 0)).alloc (.cells #[.int .i64 0, .int .i64 0, .slice none 0 0, .int .i64 0, .int .i64 0] 36) = X := ⟨_, rfl⟩
        rw [hXX]
        have k0 : X.heap[w.heap.size + 1 + 1]? = some (.cells #[(.int .i64 0), (.int .i64 0), (.slice none 0 0), (.int .i64 0), (.int .i64 0)] 36 (0, 0)) := by rw [← hXX]; exact five_set E7.out _ _ _ _ _ _
        have m0 := cell_of_row X _ 0 _ _ _ k0
        have m1 := cell_of_row X _ 1 _ _ _ k0
        have m2 := cell_of_row X _ 2 _ _ _ k0
        have m3 := cell_of_row X _ 3 _ _ _ k0
        have m4 := cell_of_row X _ 4 _ _ _ k0
        simp at m0 m1 m2 m3 m4
        have BQ : Below w.heap.size w X := by rw [← hXX]; exact five_below B7.out (by omega) (by omega) _ _ _ _ _ _
        refine bodyPost_ret (v := .tuple #[.agg #[.int .i64 0, .int .i64 0, .slice none 0 0, .int .i64 0, .int .i64 0], .int .i64 4]) (by simp [results, Tryd.results15, go_sem, m0, m1, m2, m3, m4]) rfl ?_
        exact Or.inl ⟨NONE.out, rfl, BQ⟩
      · have ue : nextG born stay ⟨u.P, u.r, u.d⟩ = nextG born stay u := rfl
        rw [ue] at tb7 ⊢
        clear ue
        have NG := hide' (grow_small HG.out small)
        obtain ⟨t, ht⟩ : ∃ t, nextG born stay u = t := ⟨_, rfl⟩
        rw [ht] at tb7 NG ⊢
        obtain ⟨k1, k2, k3, -⟩ := GK.out (i + 1) t NG.out
        have lt : t.P.xs.length ≤ 10000 := by rw [k1.len]; exact Nat.mul_le_mul k2 k3
        obtain ⟨na, nc, rfl, AP7⟩ := tab_arg tb7 (by unfold maxLen; omega)
        have e7 := (b7.block _ (lt_of_block HT.out.blk)).trans HT.out.blk
        have r0 := cell_of_row w7 _ 0 _ _ _ e7
        have r1 := cell_of_row w7 _ 1 _ _ _ e7
        have r2 := cell_of_row w7 _ 2 _ _ _ e7
        have r3 := cell_of_row w7 _ 3 _ _ _ e7
        have r4 := cell_of_row w7 _ 4 _ _ _ e7
        simp at r0 r1 r2 r3 r4
        have f0 := frozen_of_row w7 _ 0 _ _ e7
        have f1 := frozen_of_row w7 _ 1 _ _ e7
        have f2 := frozen_of_row w7 _ 2 _ _ e7
        have f3 := frozen_of_row w7 _ 3 _ _ e7
        have f4 := frozen_of_row w7 _ 4 _ _ e7
        have s7 : p < w7.heap.size := lt_of_block e7
        have ne5 : ¬ p = w7.heap.size := by omega
        have ne6 : ¬ w7.heap.size = p := by omega
        have E7 := hide' e7
        have T7 := hide' tb7
        have GX := hide' (fun (X : World) (o : Obj) (hXX : (((((w7.setCell ⟨p, 0, none⟩ (.int .i64 (t.P.W : Int))).setCell ⟨p, 1, none⟩ (.int .i64 (t.P.H : Int))).setCell ⟨p, 2, none⟩ (.slice na t.P.xs.length nc)).setCell ⟨p, 3, none⟩ (.int .i64 t.r)).setCell ⟨p, 4, none⟩ (.int .i64 t.d)).alloc o = X) => show GT w w4 X p t (.slice na t.P.xs.length nc) from by
          have pw := lt_of_block HT.out.blk
          have pl := HT.out.pl
          have sz := b7.size
          refine ⟨fun k hk => ?_, ?_, ?_, fun g k c h => ?_, pl, ?_⟩
          · rw [← hXX, five_keep (by omega) (by omega)]; exact (b7.block k (by omega)).trans (HT.out.keep k hk)
          · rw [← hXX]; exact five_set E7.out _ _ _ _ _ _
          · refine tab_keep T7.out (fun g k cap h => ?_)
            have := fr7 g k cap h
            rw [← hXX]; exact five_keep (by omega) (tab_lt T7.out h) _ _ _ _ _ _
          · have := fr7 g k c h; omega
          · rw [← hXX]; exact five_below (HT.out.below.trans (b7.mono HT.out.below.size)) (by omega) (by have := HT.out.below.size; omega) _ _ _ _ _ _)
        clear e7 b7 small tb7 AP7 ht fr7 q0 q1 q2 q3 q4 c0 c1 c2' c3 c4 c5 c6 k1
        go_wp2
        exact ⟨⟨i + 1, t, .slice na t.P.xs.length nc, by go_num, by omega, NG, hide' (GX.out _ _ rfl)⟩, by simp [intOf]; omega⟩
    · have FIN := hide' (show growG born stay s0 m = some u by
        by_cases im : i = m
        · rw [← im]; exact HG.out
        · have uz : u.P.W = 0 := by omega
          have un := grow_zero ZF.out HG.out uz
          have g1 := HG.out
          rw [un] at g1 ⊢
          have h1 := grow_noG T0.out g1 (m - i)
          rw [show i + (m - i) = m by omega] at h1
          exact h1)
      have r0 := cell_of_row wr _ 0 _ _ _ e2
      have r1 := cell_of_row wr _ 1 _ _ _ e2
      have r2 := cell_of_row wr _ 2 _ _ _ e2
      have r3 := cell_of_row wr _ 3 _ _ _ e2
      have r4 := cell_of_row wr _ 4 _ _ _ e2
      simp at r0 r1 r2 r3 r4
      have f0 := frozen_of_row wr _ 0 _ _ e2
      have f1 := frozen_of_row wr _ 1 _ _ e2
      have f2 := frozen_of_row wr _ 2 _ _ e2
      have f3 := frozen_of_row wr _ 3 _ _ e2
      have f4 := frozen_of_row wr _ 4 _ _ e2
      have BE := hide' HT.out.below
      have TT := hide' HT.out.tab
      have FF := hide' HT.out.fr
      have tst : (¬ (i : Int) < (m : Int)) ∨ (decide ((i : Int) < (m : Int)) = true ∧ ¬ (0 : Int) < (u.P.W : Int)) := by
        by_cases im : i < m
        · right; exact ⟨by simp; omega, by omega⟩
        · left; omega
      have UZ := hide' (fun (h : u.P.W = 0) => grow_zero ZF.out HG.out h)
      clear go AP o1 e2
      by_cases w0 : u.P.W = 0
      · have t3 : ((u.P.W : Int) == 0) = true := by simp [w0]
        have UN := hide' (UZ.out w0)
        clear w0
        have w9 : ¬ (0 : Int) < (u.P.W : Int) := by have := UN.out; rw [this]; simp [noG]
        have tst2 : decide ((i : Int) < (m : Int)) = false ∨ decide ((i : Int) < (m : Int)) = true := by cases decide ((i : Int) < (m : Int)) <;> simp
        clear tst
        rcases tst2 with t1 | t1
        all_goals (
          go_wp2
          all_goals refine bodyPost_ret (v := .tuple #[.agg #[.int .i64 0, .int .i64 0, .slice none 0 0, .int .i64 0, .int .i64 0], .int .i64 0]) (by simp [results, Tryd.results15, go_sem, r0, r1, r2, r3, r4]) rfl ?_
          all_goals exact Or.inr ⟨u, .slice none 0 0, FIN.out, by rw [UN.out]; rfl, by rw [UN.out]; exact Or.inl ⟨rfl, rfl⟩, Fresh.nil _, ((((BE.out.setCell (by simp; omega) _).setCell (by simp; omega) _).setCell (by simp; omega) _).setCell (by simp; omega) _).setCell (by simp; omega) _⟩)
      · have t3 : ((u.P.W : Int) == 0) = false := by simp [w0]
        have t1 : ¬ (i : Int) < (m : Int) := by
          rcases tst with t1 | ⟨t1, t2⟩
          · exact t1
          · omega
        clear tst w0
        go_wp2
        refine bodyPost_ret (v := .tuple #[gV u (.slice ua u.P.xs.length uc), .int .i64 0]) (by simp [results, Tryd.results15, go_sem, r0, r1, r2, r3, r4, gV]) rfl ?_
        refine Or.inr ⟨u, .slice ua u.P.xs.length uc, FIN.out, rfl, tab_keep TT.out (fun g k cap h => ?_), fun g k c h => (by have := (FF.out g k c h).1; omega), ((((BE.out.setCell (by simp; omega) _).setCell (by simp; omega) _).setCell (by simp; omega) _).setCell (by simp; omega) _).setCell (by simp; omega) _⟩
        have gn := (FF.out g k cap h).1
        rw [Below.heap_setCell _ _ _ _ (by simp; omega), Below.heap_setCell _ _ _ _ (by simp; omega), Below.heap_setCell _ _ _ _ (by simp; omega), Below.heap_setCell _ _ _ _ (by simp; omega), Below.heap_setCell _ _ _ _ (by simp; omega)]
end Go.Proofs.YtdbgdfodoceadaaDoor

namespace Go.Proofs.YtdbgdfodoceadaaDoor
open Go.RowKit
set_option linter.unusedVariables false

structure RBp (p : Nat) (o : Out) (v : Value) (w : World) : Prop where
  c0 : w.cell? ⟨p, 0, none⟩ = some (.int .i64 o.kind)
  c1 : w.cell? ⟨p, 1, none⟩ = some (.int .i64 o.born)
  c2 : w.cell? ⟨p, 2, none⟩ = some (.int .i64 o.stay)
  c3 : w.cell? ⟨p, 3, none⟩ = some (.int .i64 o.states)
  c4 : w.cell? ⟨p, 4, none⟩ = some (.int .i64 o.radius)
  c5 : w.cell? ⟨p, 5, none⟩ = some v
  c6 : w.cell? ⟨p, 6, none⟩ = some (.string o.turns)
theorem RBp.lt {p : Nat} {o : Out} {v : Value} {w : World} (h : RBp p o v w) : p < w.heap.size := by
  rcases Nat.lt_or_ge p w.heap.size with k | k
  · exact k
  · have := h.c0; simp [World.cell?, Array.getElem?_eq_none k] at this
theorem RBp.block {p : Nat} {o : Out} {v : Value} {w w' : World} (h : RBp p o v w) (e : w'.heap[p]? = w.heap[p]?) : RBp p o v w' :=
  ⟨(World.cell?_of_block (w := w) (a := ⟨p, 0, none⟩) e).trans h.c0, (World.cell?_of_block (w := w) (a := ⟨p, 1, none⟩) e).trans h.c1, (World.cell?_of_block (w := w) (a := ⟨p, 2, none⟩) e).trans h.c2, (World.cell?_of_block (w := w) (a := ⟨p, 3, none⟩) e).trans h.c3, (World.cell?_of_block (w := w) (a := ⟨p, 4, none⟩) e).trans h.c4, (World.cell?_of_block (w := w) (a := ⟨p, 5, none⟩) e).trans h.c5, (World.cell?_of_block (w := w) (a := ⟨p, 6, none⟩) e).trans h.c6⟩
theorem RBp.next {p : Nat} {o : Out} {v : Value} {w w' : World} (h : RBp p o v w) (hb : Below w.heap.size w w') : RBp p o v w' := h.block (hb.block p h.lt)
theorem RBp.new (w : World) (o : Out) (v : Value) (t : TypeId) : RBp w.heap.size o v (w.alloc (.cells #[.int .i64 o.kind, .int .i64 o.born, .int .i64 o.stay, .int .i64 o.states, .int .i64 o.radius, v, .string o.turns] t)) :=
  ⟨by rw [World.cell?_alloc_at _ _ _ _ rfl]; rfl, by rw [World.cell?_alloc_at _ _ _ _ rfl]; rfl, by rw [World.cell?_alloc_at _ _ _ _ rfl]; rfl, by rw [World.cell?_alloc_at _ _ _ _ rfl]; rfl, by rw [World.cell?_alloc_at _ _ _ _ rfl]; rfl, by rw [World.cell?_alloc_at _ _ _ _ rfl]; rfl, by rw [World.cell?_alloc_at _ _ _ _ rfl]; rfl⟩
end Go.Proofs.YtdbgdfodoceadaaDoor

