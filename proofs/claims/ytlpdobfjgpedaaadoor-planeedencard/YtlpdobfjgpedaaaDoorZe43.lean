/-
  What the last text of this claim leans on, part 43: Gw1.
-/
import Derived.Test.YtlpdobfjgpedaaaDoorZe42
namespace Go.Proofs.YtlpdobfjgpedaaaDoor
open Go.RowKit
set_option linter.unusedVariables false
/-- Does the cell at x, y of the plane live? -/
def plC (s : Gst) (x y : Int) : Bool := decide (s.r ≤ x) && (decide (s.d ≤ y) && cellP s.P (y - s.d).toNat (x - s.r).toNat)
theorem cellP_box {q : Pat} {l t r b : Nat} (hB : BoxP (cellP q) l t r b) {y x : Nat} (h : ¬ (l ≤ x ∧ x < r ∧ t ≤ y ∧ y < b)) : cellP q y x = false := by
  cases hc : cellP q y x with
  | false => rfl
  | true => exact absurd (hB.inn _ _ hc) h
theorem plC_box (q : Pat) (R D x y : Int) : plC (boxG q R D) x y = (decide (R ≤ x) && (decide (D ≤ y) && cellP q (y - D).toNat (x - R).toNat)) := by
  unfold boxG
  rcases trim_cases q with ⟨h0, h1⟩ | ⟨l, t, r, b, hB, h1⟩
  · rw [h1, if_pos rfl, h0]; simp [plC, cellP, noG]
  · rw [h1]
    dsimp only
    obtain ⟨y1, x1, c1, e1⟩ := hB.le
    have i1 := hB.inn _ _ c1
    rw [if_neg (by omega)]
    unfold plC
    dsimp only
    rw [trim_cell hB]
    by_cases a1 : R + (l : Int) ≤ x
    · by_cases a2 : D + (t : Int) ≤ y
      · have e1 : t + (y - (D + (t : Int))).toNat = (y - D).toNat := by omega
        have e2 : l + (x - (R + (l : Int))).toNat = (x - R).toNat := by omega
        rw [e1, e2, decide_eq_true a1, decide_eq_true a2, decide_eq_true (show R ≤ x by omega), decide_eq_true (show D ≤ y by omega)]
        simp only [Bool.true_and]
        by_cases a3 : (x - (R + (l : Int))).toNat < r - l ∧ (y - (D + (t : Int))).toNat < b - t
        · rw [decide_eq_true a3.1, decide_eq_true a3.2]; rfl
        · rw [cellP_box hB (by omega)]; simp
      · by_cases a3 : D ≤ y
        · rw [cellP_box (y := (y - D).toNat) (x := (x - R).toNat) hB (by omega), decide_eq_false a2]; simp
        · rw [decide_eq_false a2, decide_eq_false a3]; simp
    · by_cases a3 : R ≤ x
      · rw [cellP_box (y := (y - D).toNat) (x := (x - R).toNat) hB (by omega), decide_eq_false a1]; simp
      · rw [decide_eq_false a1, decide_eq_false a3]; simp
/-- How many of a cell's neighbours live, and what becomes of it. -/
def plB (F : Int → Int → Bool) (x y : Int) : Nat := (F (x - 1) (y - 1)).toNat + (F x (y - 1)).toNat + (F (x + 1) (y - 1)).toNat + (F (x - 1) y).toNat + (F (x + 1) y).toNat + (F (x - 1) (y + 1)).toNat + (F x (y + 1)).toNat + (F (x + 1) (y + 1)).toNat
def plN (born stay : Nat) (F : Int → Int → Bool) (x y : Int) : Bool := if F x y then stay.testBit (plB F x y) else born.testBit (plB F x y)
theorem c2_plC (s : Gst) (Y X : Nat) (x y : Int) (hx : x = s.r + (X : Int) - 2) (hy : y = s.d + (Y : Int) - 2) : c2 s.P Y X = plC s x y := by
  subst hx hy
  unfold c2 plC
  by_cases a : 2 ≤ Y
  · by_cases b : 2 ≤ X
    · rw [decide_eq_true a, decide_eq_true b, decide_eq_true (show s.r ≤ s.r + (X : Int) - 2 by omega), decide_eq_true (show s.d ≤ s.d + (Y : Int) - 2 by omega), show (s.d + (Y : Int) - 2 - s.d).toNat = Y - 2 by omega, show (s.r + (X : Int) - 2 - s.r).toNat = X - 2 by omega]; rfl
    · rw [decide_eq_false b, decide_eq_false (show ¬ s.r ≤ s.r + (X : Int) - 2 by omega)]; simp
  · rw [decide_eq_false a, decide_eq_false (show ¬ s.d ≤ s.d + (Y : Int) - 2 by omega)]; simp
theorem plC_out (s : Gst) {x y : Int} (h : ¬ (s.r ≤ x ∧ x < s.r + (s.P.W : Int) ∧ s.d ≤ y ∧ y < s.d + (s.P.H : Int))) : plC s x y = false := by
  unfold plC cellP
  by_cases a : s.r ≤ x
  · by_cases b : s.d ≤ y
    · by_cases c : (x - s.r).toNat < s.P.W
      · rw [decide_eq_false (show ¬ (y - s.d).toNat < s.P.H by omega)]; simp
      · rw [decide_eq_false c]; simp
    · rw [decide_eq_false b]; simp
  · rw [decide_eq_false a]; simp
theorem plN_out (born stay : Nat) (s : Gst) (b0 : born.testBit 0 = false) {x y : Int} (h : ¬ (s.r - 1 ≤ x ∧ x < s.r + (s.P.W : Int) + 1 ∧ s.d - 1 ≤ y ∧ y < s.d + (s.P.H : Int) + 1)) : plN born stay (plC s) x y = false := by
  unfold plN plB
  rw [plC_out s (x := x - 1) (y := y - 1) (by omega), plC_out s (x := x) (y := y - 1) (by omega), plC_out s (x := x + 1) (y := y - 1) (by omega), plC_out s (x := x - 1) (y := y) (by omega), plC_out s (x := x + 1) (y := y) (by omega), plC_out s (x := x - 1) (y := y + 1) (by omega), plC_out s (x := x) (y := y + 1) (by omega), plC_out s (x := x + 1) (y := y + 1) (by omega), plC_out s (x := x) (y := y) (by omega)]
  simpa using b0
theorem plC_next (born stay : Nat) (s : Gst) (b0 : born.testBit 0 = false) (x y : Int) : plC (nextG born stay s) x y = plN born stay (plC s) x y := by
  unfold nextG
  rw [plC_box, nextC_cell]
  by_cases h : s.r - 1 ≤ x ∧ x < s.r + (s.P.W : Int) + 1 ∧ s.d - 1 ≤ y ∧ y < s.d + (s.P.H : Int) + 1
  · obtain ⟨h1, h2, h3, h4⟩ := h
    obtain ⟨X, hX⟩ : ∃ X, (x - (s.r - 1)).toNat = X := ⟨_, rfl⟩
    obtain ⟨Y, hY⟩ : ∃ Y, (y - (s.d - 1)).toNat = Y := ⟨_, rfl⟩
    rw [hX, hY, decide_eq_true h1, decide_eq_true h3, decide_eq_true (show X < s.P.W + 2 by omega), decide_eq_true (show Y < s.P.H + 2 by omega)]
    simp only [Bool.true_and]
    unfold nxB nb2 plN plB
    rw [c2_plC s (Y + 1) (X + 1) x y (by omega) (by omega), c2_plC s Y X (x - 1) (y - 1) (by omega) (by omega), c2_plC s Y (X + 1) x (y - 1) (by omega) (by omega), c2_plC s Y (X + 2) (x + 1) (y - 1) (by omega) (by omega), c2_plC s (Y + 1) X (x - 1) y (by omega) (by omega), c2_plC s (Y + 1) (X + 2) (x + 1) y (by omega) (by omega), c2_plC s (Y + 2) X (x - 1) (y + 1) (by omega) (by omega), c2_plC s (Y + 2) (X + 1) x (y + 1) (by omega) (by omega), c2_plC s (Y + 2) (X + 2) (x + 1) (y + 1) (by omega) (by omega)]
  · rw [plN_out born stay s b0 h]
    by_cases a : s.r - 1 ≤ x
    · by_cases b : s.d - 1 ≤ y
      · by_cases c : (x - (s.r - 1)).toNat < s.P.W + 2
        · rw [decide_eq_false (show ¬ (y - (s.d - 1)).toNat < s.P.H + 2 by omega)]; simp
        · rw [decide_eq_false c]; simp
      · rw [decide_eq_false b]; simp
    · rw [decide_eq_false a]; simp
/-- The least box in the plane. -/
structure PBx (F : Int → Int → Bool) (l t r b : Int) : Prop where
  inn : ∀ x y, F x y = true → l ≤ x ∧ x < r ∧ t ≤ y ∧ y < b
  le : ∃ x y, F x y = true ∧ x = l
  ri : ∃ x y, F x y = true ∧ x + 1 = r
  up : ∃ x y, F x y = true ∧ y = t
  lo : ∃ x y, F x y = true ∧ y + 1 = b
theorem PBx.same {F : Int → Int → Bool} {l t r b l' t' r' b' : Int} (h : PBx F l t r b) (k : PBx F l' t' r' b') : l = l' ∧ t = t' ∧ r = r' ∧ b = b' := by
  obtain ⟨x1, y1, a1, e1⟩ := h.le
  obtain ⟨x2, y2, a2, e2⟩ := k.le
  obtain ⟨x3, y3, a3, e3⟩ := h.ri
  obtain ⟨x4, y4, a4, e4⟩ := k.ri
  obtain ⟨x5, y5, a5, e5⟩ := h.up
  obtain ⟨x6, y6, a6, e6⟩ := k.up
  obtain ⟨x7, y7, a7, e7⟩ := h.lo
  obtain ⟨x8, y8, a8, e8⟩ := k.lo
  have := h.inn _ _ a2
  have := h.inn _ _ a4
  have := h.inn _ _ a6
  have := h.inn _ _ a8
  have := k.inn _ _ a1
  have := k.inn _ _ a3
  have := k.inn _ _ a5
  have := k.inn _ _ a7
  omega
theorem plC_in (s : Gst) (y x : Nat) : plC s (s.r + (x : Int)) (s.d + (y : Int)) = cellP s.P y x := by
  unfold plC
  rw [decide_eq_true (show s.r ≤ s.r + (x : Int) by omega), decide_eq_true (show s.d ≤ s.d + (y : Int) by omega), show (s.d + (y : Int) - s.d).toNat = y by omega, show (s.r + (x : Int) - s.r).toNat = x by omega]; rfl
theorem plC_of {s : Gst} {x y : Int} (h : plC s x y = true) : ∃ X Y : Nat, x = s.r + (X : Int) ∧ y = s.d + (Y : Int) ∧ cellP s.P Y X = true := by
  unfold plC at h
  simp only [Bool.and_eq_true, decide_eq_true_eq] at h
  exact ⟨(x - s.r).toNat, (y - s.d).toNat, by omega, by omega, h.2.2⟩
theorem bxd_plane {s : Gst} (h : BoxP (cellP s.P) 0 0 s.P.W s.P.H) : PBx (plC s) s.r s.d (s.r + (s.P.W : Int)) (s.d + (s.P.H : Int)) := by
  obtain ⟨y1, x1, a1, e1⟩ := h.le
  obtain ⟨y2, x2, a2, e2⟩ := h.ri
  obtain ⟨y3, x3, a3, e3⟩ := h.up
  obtain ⟨y4, x4, a4, e4⟩ := h.lo
  refine ⟨fun x y hc => ?_, ⟨_, _, (plC_in s y1 x1).trans a1, by omega⟩, ⟨_, _, (plC_in s y2 x2).trans a2, by omega⟩, ⟨_, _, (plC_in s y3 x3).trans a3, by omega⟩, ⟨_, _, (plC_in s y4 x4).trans a4, by omega⟩⟩
  obtain ⟨X, Y, e1, e2, c⟩ := plC_of hc
  have := h.inn _ _ c
  omega
theorem bxd_none {s : Gst} (h : Bxd s) : s.P.W = 0 ↔ ∀ x y, plC s x y = false := by
  constructor
  · intro e x y
    exact plC_out s (by omega)
  · intro e
    rcases h with rfl | ⟨b, -⟩
    · rfl
    · obtain ⟨y1, x1, a1, e1⟩ := b.le
      have := e _ _ ▸ (plC_in s y1 x1)
      rw [a1] at this; cases this
/-- The same pattern, just where one is the other, moved. -/
theorem same_moved {s t : Gst} (hs : Bxd s) (ht : Bxd t) (h : sameP s.P t.P = true) (x y : Int) : plC s (x + (s.r - t.r)) (y + (s.d - t.d)) = plC t x y := by
  have e : s.P = t.P := by
    unfold sameP at h
    simp at h
    obtain ⟨⟨h1, h2⟩, h3⟩ := h
    cases hs : s.P; cases ht : t.P
    rw [hs, ht] at h1 h2 h3
    dsimp only at h1 h2 h3
    rw [h1, h2, h3]
  unfold plC
  rw [e, show y + (s.d - t.d) - s.d = y - t.d by omega, show x + (s.r - t.r) - s.r = x - t.r by omega]
  by_cases a : t.r ≤ x
  · by_cases b : t.d ≤ y
    · rw [decide_eq_true a, decide_eq_true b, decide_eq_true (show s.r ≤ x + (s.r - t.r) by omega), decide_eq_true (show s.d ≤ y + (s.d - t.d) by omega)]
    · rw [decide_eq_false b, decide_eq_false (show ¬ s.d ≤ y + (s.d - t.d) by omega)]; simp
  · rw [decide_eq_false a, decide_eq_false (show ¬ s.r ≤ x + (s.r - t.r) by omega)]; simp
theorem moved_same {s t : Gst} (hs : Bxd s) (ht : Bxd t) (h0 : t.P.W ≠ 0) (a b : Int) (h : ∀ x y, plC s (x + a) (y + b) = plC t x y) : sameP s.P t.P = true ∧ s.r - t.r = a ∧ s.d - t.d = b := by
  rcases ht with rfl | ⟨bt, ot⟩
  · exact absurd rfl h0
  · have pt := bxd_plane bt
    rcases hs with rfl | ⟨bs, os⟩
    · obtain ⟨x, y, c, -⟩ := pt.le
      rw [← h] at c
      simp [plC, cellP, noG] at c
    · have ps := bxd_plane bs
      have pq : PBx (plC s) (t.r + a) (t.d + b) (t.r + (t.P.W : Int) + a) (t.d + (t.P.H : Int) + b) := by
        obtain ⟨x1, y1, a1, e1⟩ := pt.le
        obtain ⟨x2, y2, a2, e2⟩ := pt.ri
        obtain ⟨x3, y3, a3, e3⟩ := pt.up
        obtain ⟨x4, y4, a4, e4⟩ := pt.lo
        refine ⟨fun x y hc => ?_, ⟨_, _, (h x1 y1).trans a1, by omega⟩, ⟨_, _, (h x2 y2).trans a2, by omega⟩, ⟨_, _, (h x3 y3).trans a3, by omega⟩, ⟨_, _, (h x4 y4).trans a4, by omega⟩⟩
        have e := h (x - a) (y - b)
        rw [show x - a + a = x by omega, show y - b + b = y by omega, hc] at e
        have := pt.inn _ _ e.symm
        omega
      obtain ⟨e1, e2, e3, e4⟩ := ps.same pq
      have eW : s.P.W = t.P.W := by omega
      have eH : s.P.H = t.P.H := by omega
      refine ⟨?_, by omega, by omega⟩
      have el : s.P.xs = t.P.xs := by
        refine List.ext_getElem (by rw [os.len, ot.len, eW, eH]) (fun i h1 h2 => ?_)
        have hi : i < s.P.W * s.P.H := by rw [← os.len]; exact h1
        have hj : i < t.P.W * t.P.H := by rw [← ot.len]; exact h2
        have c1 := cellP_of hi
        have c2 := cellP_of hj
        have p1 := plC_in s (i / s.P.W) (i % s.P.W)
        have p2 := plC_in t (i / s.P.W) (i % s.P.W)
        have e := h (t.r + ((i % s.P.W : Nat) : Int)) (t.d + ((i / s.P.W : Nat) : Int))
        rw [show t.r + ((i % s.P.W : Nat) : Int) + a = s.r + ((i % s.P.W : Nat) : Int) by omega, show t.d + ((i / s.P.W : Nat) : Int) + b = s.d + ((i / s.P.W : Nat) : Int) by omega, p1, p2, c1] at e
        rw [eW, c2, decide_eq_decide] at e
        have b1 := os.bits i
        have b2 := ot.bits i
        have g1 : s.P.xs.getD i 0 = s.P.xs[i] := by simp [List.getD, h1]
        have g2 : t.P.xs.getD i 0 = t.P.xs[i] := by simp [List.getD, h2]
        rw [g1] at b1 e
        rw [g2] at b2 e
        omega
      unfold sameP
      rw [decide_eq_true eW, decide_eq_true eH, decide_eq_true el]; rfl
end Go.Proofs.YtlpdobfjgpedaaaDoor

