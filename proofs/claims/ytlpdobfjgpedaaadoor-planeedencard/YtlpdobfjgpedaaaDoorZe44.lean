/-
  What the last text of this claim leans on, part 44: Gw2, Gw3.
-/
import Derived.Test.YtlpdobfjgpedaaaDoorZe43
import Derived.Test.YtlpdobfjgpedaaaDoorZe39
namespace Go.Proofs.YtlpdobfjgpedaaaDoor
open Go.RowKit
set_option linter.unusedVariables false
/-- Mirrored (m), or turned by a quarter. -/
def tmX (m : Bool) (x y : Int) : Int := if m then -x else -y
def tmY (m : Bool) (x y : Int) : Int := if m then y else x
def TRel (m : Bool) (v1 v2 : Int) (F G : Int → Int → Bool) : Prop := ∀ x y, G (v1 + tmX m x y) (v2 + tmY m x y) = F x y
theorem TRel.mir {v1 v2 : Int} {F G : Int → Int → Bool} (h : TRel true v1 v2 F G) (x y : Int) : G x y = F (v1 - x) (y - v2) := by
  have e := h (v1 - x) (y - v2)
  simp only [tmX, tmY, if_true] at e
  rw [show v1 + -(v1 - x) = x by omega, show v2 + (y - v2) = y by omega] at e
  exact e
theorem TRel.qtr {v1 v2 : Int} {F G : Int → Int → Bool} (h : TRel false v1 v2 F G) (x y : Int) : G x y = F (y - v2) (v1 - x) := by
  have e := h (y - v2) (v1 - x)
  simp only [tmX, tmY, Bool.false_eq_true, if_false] at e
  rw [show v1 + -(v1 - x) = x by omega, show v2 + (y - v2) = y by omega] at e
  exact e
theorem TRel.of_mir {v1 v2 : Int} {F G : Int → Int → Bool} (h : ∀ x y, G x y = F (v1 - x) (y - v2)) : TRel true v1 v2 F G := fun x y => by
  simp only [tmX, tmY, if_true]
  rw [h]
  congr 1 <;> omega
theorem TRel.of_qtr {v1 v2 : Int} {F G : Int → Int → Bool} (h : ∀ x y, G x y = F (y - v2) (v1 - x)) : TRel false v1 v2 F G := fun x y => by
  simp only [tmX, tmY, Bool.false_eq_true, if_false]
  rw [h]
  congr 1 <;> omega
theorem TRel.next {m : Bool} {v1 v2 : Int} {F G : Int → Int → Bool} (born stay : Nat) (h : TRel m v1 v2 F G) : TRel m v1 v2 (plN born stay F) (plN born stay G) := by
  cases m with
  | true =>
    refine TRel.of_mir fun x y => ?_
    unfold plN plB
    simp only [h.mir]
    rw [show v1 - (x - 1) = v1 - x + 1 by omega, show v1 - (x + 1) = v1 - x - 1 by omega, show y - 1 - v2 = y - v2 - 1 by omega, show y + 1 - v2 = y - v2 + 1 by omega]
    have e : (F (v1 - x + 1) (y - v2 - 1)).toNat + (F (v1 - x) (y - v2 - 1)).toNat + (F (v1 - x - 1) (y - v2 - 1)).toNat + (F (v1 - x + 1) (y - v2)).toNat + (F (v1 - x - 1) (y - v2)).toNat + (F (v1 - x + 1) (y - v2 + 1)).toNat + (F (v1 - x) (y - v2 + 1)).toNat + (F (v1 - x - 1) (y - v2 + 1)).toNat = (F (v1 - x - 1) (y - v2 - 1)).toNat + (F (v1 - x) (y - v2 - 1)).toNat + (F (v1 - x + 1) (y - v2 - 1)).toNat + (F (v1 - x - 1) (y - v2)).toNat + (F (v1 - x + 1) (y - v2)).toNat + (F (v1 - x - 1) (y - v2 + 1)).toNat + (F (v1 - x) (y - v2 + 1)).toNat + (F (v1 - x + 1) (y - v2 + 1)).toNat := by omega
    rw [e]
  | false =>
    refine TRel.of_qtr fun x y => ?_
    unfold plN plB
    simp only [h.qtr]
    rw [show v1 - (x - 1) = v1 - x + 1 by omega, show v1 - (x + 1) = v1 - x - 1 by omega, show y - 1 - v2 = y - v2 - 1 by omega, show y + 1 - v2 = y - v2 + 1 by omega]
    have e : (F (y - v2 - 1) (v1 - x + 1)).toNat + (F (y - v2 - 1) (v1 - x)).toNat + (F (y - v2 - 1) (v1 - x - 1)).toNat + (F (y - v2) (v1 - x + 1)).toNat + (F (y - v2) (v1 - x - 1)).toNat + (F (y - v2 + 1) (v1 - x + 1)).toNat + (F (y - v2 + 1) (v1 - x)).toNat + (F (y - v2 + 1) (v1 - x - 1)).toNat = (F (y - v2 - 1) (v1 - x - 1)).toNat + (F (y - v2) (v1 - x - 1)).toNat + (F (y - v2 + 1) (v1 - x - 1)).toNat + (F (y - v2 - 1) (v1 - x)).toNat + (F (y - v2 + 1) (v1 - x)).toNat + (F (y - v2 - 1) (v1 - x + 1)).toNat + (F (y - v2) (v1 - x + 1)).toNat + (F (y - v2 + 1) (v1 - x + 1)).toNat := by omega
    rw [e]
theorem TRel.none {m : Bool} {v1 v2 : Int} {F G : Int → Int → Bool} (h : TRel m v1 v2 F G) : (∀ x y, F x y = false) ↔ (∀ x y, G x y = false) := by
  constructor
  · intro k x y
    cases m with
    | true => rw [h.mir]; exact k _ _
    | false => rw [h.qtr]; exact k _ _
  · intro k x y
    rw [← h x y]; exact k _ _
/-- A turned box has the sides of the box. -/
theorem TRel.sides {m : Bool} {v1 v2 : Int} {s t : Gst} (hs : Bxd s) (ht : Bxd t) (h : TRel m v1 v2 (plC s) (plC t)) : (s.P.W = t.P.W ∧ s.P.H = t.P.H) ∨ (s.P.W = t.P.H ∧ s.P.H = t.P.W) := by
  by_cases z : s.P.W = 0
  · have z1 := (bxd_wide hs).1 z
    have z2 := (bxd_none ht).2 (h.none.1 ((bxd_none hs).1 z))
    have z3 := (bxd_wide ht).1 z2
    omega
  · have z2 : t.P.W ≠ 0 := fun e => z ((bxd_none hs).2 (h.none.2 ((bxd_none ht).1 e)))
    rcases hs with rfl | ⟨bs, os⟩
    · exact absurd rfl z
    · rcases ht with rfl | ⟨bt, ot⟩
      · exact absurd rfl z2
      · have ps := bxd_plane bs
        have pt := bxd_plane bt
        obtain ⟨x1, y1, a1, e1⟩ := ps.le
        obtain ⟨x2, y2, a2, e2⟩ := ps.ri
        obtain ⟨x3, y3, a3, e3⟩ := ps.up
        obtain ⟨x4, y4, a4, e4⟩ := ps.lo
        have g1 := (h x1 y1).trans a1
        have g2 := (h x2 y2).trans a2
        have g3 := (h x3 y3).trans a3
        have g4 := (h x4 y4).trans a4
        cases m with
        | true =>
          left
          simp only [tmX, tmY, if_true] at g1 g2 g3 g4
          have pq : PBx (plC t) (v1 - (s.r + (s.P.W : Int)) + 1) (v2 + s.d) (v1 - s.r + 1) (v2 + (s.d + (s.P.H : Int))) := by
            refine ⟨fun x y hc => ?_, ⟨_, _, g2, by omega⟩, ⟨_, _, g1, by omega⟩, ⟨_, _, g3, by omega⟩, ⟨_, _, g4, by omega⟩⟩
            rw [h.mir] at hc
            have := ps.inn _ _ hc
            omega
          have := pt.same pq
          omega
        | false =>
          right
          simp only [tmX, tmY, Bool.false_eq_true, if_false] at g1 g2 g3 g4
          have pq : PBx (plC t) (v1 - (s.d + (s.P.H : Int)) + 1) (v2 + s.r) (v1 - s.d + 1) (v2 + (s.r + (s.P.W : Int))) := by
            refine ⟨fun x y hc => ?_, ⟨_, _, g4, by omega⟩, ⟨_, _, g3, by omega⟩, ⟨_, _, g1, by omega⟩, ⟨_, _, g2, by omega⟩⟩
            rw [h.qtr] at hc
            have := ps.inn _ _ hc
            omega
          have := pt.same pq
          omega
/-- What is the same is the same, turned; and as far away. -/
theorem TRel.again {m : Bool} {v1 v2 : Int} {s t s0 t0 : Gst} (hs : Bxd s) (ht : Bxd t) (hs0 : Bxd s0) (ht0 : Bxd t0) (h : TRel m v1 v2 (plC s) (plC t)) (h0 : TRel m v1 v2 (plC s0) (plC t0)) (z : s0.P.W ≠ 0) (z2 : t0.P.W ≠ 0) :
    sameP s.P s0.P = sameP t.P t0.P ∧ (sameP s.P s0.P = true → (s.r - s0.r) * (s.r - s0.r) + (s.d - s0.d) * (s.d - s0.d) = (t.r - t0.r) * (t.r - t0.r) + (t.d - t0.d) * (t.d - t0.d)) := by
  have fw : sameP s.P s0.P = true → sameP t.P t0.P = true ∧ (s.r - s0.r) * (s.r - s0.r) + (s.d - s0.d) * (s.d - s0.d) = (t.r - t0.r) * (t.r - t0.r) + (t.d - t0.d) * (t.d - t0.d) := by
    intro k
    have mv := same_moved hs hs0 k
    obtain ⟨a, ha⟩ : ∃ a, s.r - s0.r = a := ⟨_, rfl⟩
    obtain ⟨b, hb⟩ : ∃ b, s.d - s0.d = b := ⟨_, rfl⟩
    rw [ha, hb] at mv ⊢
    cases m with
    | true =>
      obtain ⟨k1, k2, k3⟩ := moved_same ht ht0 z2 (-a) b (fun x y => by
        rw [h.mir, h0.mir, ← mv]; congr 1 <;> omega)
      refine ⟨k1, ?_⟩
      rw [k2, k3, Int.neg_mul_neg]
    | false =>
      obtain ⟨k1, k2, k3⟩ := moved_same ht ht0 z2 (-b) a (fun x y => by
        rw [h.qtr, h0.qtr, ← mv]; congr 1 <;> omega)
      refine ⟨k1, ?_⟩
      rw [k2, k3, Int.neg_mul_neg, Int.add_comm]
  have bw : sameP t.P t0.P = true → sameP s.P s0.P = true := by
    intro k
    have mv := same_moved ht ht0 k
    obtain ⟨a, ha⟩ : ∃ a, t.r - t0.r = a := ⟨_, rfl⟩
    obtain ⟨b, hb⟩ : ∃ b, t.d - t0.d = b := ⟨_, rfl⟩
    rw [ha, hb] at mv
    cases m with
    | true =>
      exact (moved_same hs hs0 z (-a) b (fun x y => by
        have e1 := h (x + -a) (y + b)
        have e0 := h0 x y
        simp only [tmX, tmY, if_true] at e1 e0
        rw [← e1, ← e0, ← mv]; congr 1 <;> omega)).1
    | false =>
      exact (moved_same hs hs0 z b (-a) (fun x y => by
        have e1 := h (x + b) (y + -a)
        have e0 := h0 x y
        simp only [tmX, tmY, Bool.false_eq_true, if_false] at e1 e0
        rw [← e1, ← e0, ← mv]; congr 1 <;> omega)).1
  refine ⟨?_, fun k => (fw k).2⟩
  cases k1 : sameP s.P s0.P with
  | true => exact ((fw k1).1).symm
  | false =>
    cases k2 : sameP t.P t0.P with
    | false => rfl
    | true => rw [bw k2] at k1; cases k1
/-- Two answers of Again, as far as turning leaves them. -/
def AgS (a b : AgR) : Prop := a.n = b.n ∧ a.f = b.f ∧ a.r * a.r + a.d * a.d = b.r * b.r + b.d * b.d
theorem AgS.refl (a : AgR) : AgS a a := ⟨rfl, rfl, rfl⟩
theorem AgS.trans {a b c : AgR} (h : AgS a b) (k : AgS b c) : AgS a c := ⟨h.1.trans k.1, h.2.1.trans k.2.1, h.2.2.trans k.2.2⟩
theorem agn_turn {m : Bool} {v1 v2 : Int} {born stay : Nat} {s0 t0 : Gst} (b0 : born.testBit 0 = false) (hs0 : Bxd s0) (ht0 : Bxd t0) (h0 : TRel m v1 v2 (plC s0) (plC t0)) (z : s0.P.W ≠ 0) (z2 : t0.P.W ≠ 0) : ∀ k i s t, TRel m v1 v2 (plC s) (plC t) → AgS (agn born stay s0 k i s) (agn born stay t0 k i t)
  | 0, i, s, t, h => AgS.refl _
  | k + 1, i, s, t, h => by
    have hs : Bxd (nextG born stay s) := box_bxd (next_bits born stay s.P) _ _
    have ht : Bxd (nextG born stay t) := box_bxd (next_bits born stay t.P) _ _
    have hn : TRel m v1 v2 (plC (nextG born stay s)) (plC (nextG born stay t)) := by
      have e1 : plC (nextG born stay s) = plN born stay (plC s) := by funext x y; exact plC_next born stay s b0 x y
      have e2 : plC (nextG born stay t) = plN born stay (plC t) := by funext x y; exact plC_next born stay t b0 x y
      rw [e1, e2]
      exact h.next born stay
    have sd := hn.sides hs ht
    obtain ⟨ag, ad⟩ := hn.again hs ht hs0 ht0 h0 z z2
    rw [agn, agn]
    by_cases big : 100 < (nextG born stay s).P.W ∨ 100 < (nextG born stay s).P.H
    · have big2 : 100 < (nextG born stay t).P.W ∨ 100 < (nextG born stay t).P.H := by omega
      rw [if_pos big, if_pos big2]; exact AgS.refl _
    · have big2 : ¬ (100 < (nextG born stay t).P.W ∨ 100 < (nextG born stay t).P.H) := by omega
      rw [if_neg big, if_neg big2]
      rw [← ag]
      by_cases sm : sameP (nextG born stay s).P s0.P = true
      · rw [if_pos sm, if_pos sm]
        exact ⟨rfl, rfl, ad sm⟩
      · rw [if_neg sm, if_neg sm]
        exact agn_turn b0 hs0 ht0 h0 z z2 k (i + 1) _ _ hn
theorem agA_turn {m : Bool} {v1 v2 : Int} {born stay : Nat} {s0 t0 : Gst} (b0 : born.testBit 0 = false) (hs0 : Bxd s0) (ht0 : Bxd t0) (h0 : TRel m v1 v2 (plC s0) (plC t0)) (k : Nat) : AgS (agA born stay s0 k) (agA born stay t0 k) := by
  unfold agA
  by_cases z : s0.P.W = 0
  · have z2 := (bxd_none ht0).2 (h0.none.1 ((bxd_none hs0).1 z))
    rw [if_pos z, if_pos z2]; exact AgS.refl _
  · have z2 : t0.P.W ≠ 0 := fun e => z ((bxd_none hs0).2 (h0.none.2 ((bxd_none ht0).1 e)))
    rw [if_neg z, if_neg z2]
    exact agn_turn b0 hs0 ht0 h0 z z2 k 0 _ _ h0
theorem cellP_mir (p : Pat) (y x : Nat) (hx : x < p.W) : cellP p.mir y (p.W - 1 - x) = cellP p y x := by
  unfold cellP Pat.mir
  dsimp only
  by_cases hy : y < p.H
  · have e := mir_at p.W p.H p.xs (p.W - 1 - x) y (by omega) hy
    rw [show p.W - 1 - (p.W - 1 - x) = x by omega] at e
    unfold atP at e
    rw [e, decide_eq_true hx, decide_eq_true (show p.W - 1 - x < p.W by omega)]
  · rw [decide_eq_false hy]; simp
theorem cellP_qtr (p : Pat) (y x : Nat) (hx : x < p.W) (hy : y < p.H) : cellP p.qtr x (p.H - 1 - y) = cellP p y x := by
  unfold cellP Pat.qtr
  dsimp only
  have e := qtr_at p.W p.H p.xs (p.H - 1 - y) x (by omega) hx
  rw [show p.H - 1 - (p.H - 1 - y) = y by omega] at e
  unfold atP at e
  rw [e, decide_eq_true hx, decide_eq_true hy, decide_eq_true (show p.H - 1 - y < p.H by omega)]
theorem plC_first (p : Pat) (x y : Int) : plC (firstG p) x y = (decide (0 ≤ x) && (decide (0 ≤ y) && cellP p y.toNat x.toNat)) := by
  unfold firstG
  rw [plC_box]
  simp
theorem cellP_off (p : Pat) {y x : Nat} (h : ¬ (x < p.W ∧ y < p.H)) : cellP p y x = false := by
  unfold cellP
  by_cases a : x < p.W
  · rw [decide_eq_false (show ¬ y < p.H from fun b => h ⟨a, b⟩)]; simp
  · rw [decide_eq_false a]; simp
theorem first_mir (p : Pat) : TRel true ((p.W : Int) - 1) 0 (plC (firstG p)) (plC (firstG p.mir)) := fun x y => by
  simp only [tmX, tmY, if_true]
  rw [plC_first, plC_first]
  by_cases hy : 0 ≤ y
  · by_cases hx : 0 ≤ x ∧ x < (p.W : Int)
    · rw [decide_eq_true (show (0 : Int) ≤ (p.W : Int) - 1 + -x by omega), decide_eq_true (show 0 ≤ 0 + y by omega), decide_eq_true hx.1, decide_eq_true hy]
      rw [show (0 + y).toNat = y.toNat by omega, show ((p.W : Int) - 1 + -x).toNat = p.W - 1 - x.toNat by omega, cellP_mir p _ _ (by omega)]
    · by_cases h0 : 0 ≤ x
      · rw [decide_eq_false (show ¬ (0 : Int) ≤ (p.W : Int) - 1 + -x by omega), cellP_off p (by omega)]; simp
      · rw [decide_eq_false h0, cellP_off p.mir (y := (0 + y).toNat) (x := ((p.W : Int) - 1 + -x).toNat) (by unfold Pat.mir; dsimp only; omega)]; simp
  · rw [decide_eq_false hy, decide_eq_false (show ¬ 0 ≤ 0 + y by omega)]; simp
theorem first_qtr (p : Pat) : TRel false ((p.H : Int) - 1) 0 (plC (firstG p)) (plC (firstG p.qtr)) := fun x y => by
  simp only [tmX, tmY, Bool.false_eq_true, if_false]
  rw [plC_first, plC_first]
  by_cases hx : 0 ≤ x ∧ x < (p.W : Int)
  · by_cases hy : 0 ≤ y ∧ y < (p.H : Int)
    · rw [decide_eq_true (show (0 : Int) ≤ (p.H : Int) - 1 + -y by omega), decide_eq_true (show 0 ≤ 0 + x by omega), decide_eq_true hx.1, decide_eq_true hy.1]
      rw [show (0 + x).toNat = x.toNat by omega, show ((p.H : Int) - 1 + -y).toNat = p.H - 1 - y.toNat by omega, cellP_qtr p _ _ (by omega) (by omega)]
    · by_cases h0 : 0 ≤ y
      · rw [decide_eq_false (show ¬ (0 : Int) ≤ (p.H : Int) - 1 + -y by omega), cellP_off p (by omega)]; simp
      · rw [decide_eq_false h0, cellP_off p.qtr (y := (0 + x).toNat) (x := ((p.H : Int) - 1 + -y).toNat) (by unfold Pat.qtr; dsimp only; omega)]; simp
  · by_cases h0 : 0 ≤ x
    · rw [cellP_off p (by omega), cellP_off p.qtr (y := (0 + x).toNat) (x := ((p.H : Int) - 1 + -y).toNat) (by unfold Pat.qtr; dsimp only; omega)]; simp
    · rw [decide_eq_false h0, decide_eq_false (show ¬ 0 ≤ 0 + x by omega)]; simp
def bitsP (p : Pat) : Prop := p.ok ∧ ∀ k, 0 ≤ p.xs.getD k 0 ∧ p.xs.getD k 0 ≤ 1
theorem mapR_bits (f : Nat → Int) (n : Nat) (h : ∀ k, 0 ≤ f k ∧ f k ≤ 1) (k : Nat) : 0 ≤ ((List.range n).map f).getD k 0 ∧ ((List.range n).map f).getD k 0 ≤ 1 := by
  by_cases q : k < n
  · have e : ((List.range n).map f).getD k 0 = f k := by simp [List.getD, q]
    rw [e]; exact h k
  · have e : ((List.range n).map f).getD k 0 = 0 := by simp [List.getD, q]
    rw [e]; omega
theorem bitsP.mir {p : Pat} (h : bitsP p) : bitsP p.mir := ⟨mirP_length .., mapR_bits _ _ (fun k => h.2 _)⟩
theorem bitsP.qtr {p : Pat} (h : bitsP p) : bitsP p.qtr := ⟨qtrP_length .., mapR_bits _ _ (fun k => h.2 _)⟩
theorem bitsP.rot {p : Pat} (h : bitsP p) : ∀ j, bitsP (p.rot j)
  | 0 => h
  | j + 1 => (h.rot j).qtr
theorem bitsP.turn {p : Pat} (h : bitsP p) (k : Nat) : bitsP (p.turn k) := by
  unfold Pat.turn
  split
  · exact h.mir.rot _
  · exact h.rot _
theorem agA_mir {born stay : Nat} (b0 : born.testBit 0 = false) {p : Pat} (h : bitsP p) (k : Nat) : AgS (agA born stay (firstG p) k) (agA born stay (firstG p.mir) k) := agA_turn b0 (box_bxd h.2 0 0) (box_bxd h.mir.2 0 0) (first_mir p) k
theorem agA_qtr {born stay : Nat} (b0 : born.testBit 0 = false) {p : Pat} (h : bitsP p) (k : Nat) : AgS (agA born stay (firstG p) k) (agA born stay (firstG p.qtr) k) := agA_turn b0 (box_bxd h.2 0 0) (box_bxd h.qtr.2 0 0) (first_qtr p) k
theorem agA_rot {born stay : Nat} (b0 : born.testBit 0 = false) {p : Pat} (h : bitsP p) (k : Nat) : ∀ j, AgS (agA born stay (firstG p) k) (agA born stay (firstG (p.rot j)) k)
  | 0 => AgS.refl _
  | j + 1 => (agA_rot b0 h k j).trans (agA_qtr b0 (h.rot j) k)
/-- What comes again comes again, turned, behind as many steps and as far away. -/
theorem agA_all {born stay : Nat} (b0 : born.testBit 0 = false) {p : Pat} (h : bitsP p) (k j : Nat) : AgS (agA born stay (firstG p) k) (agA born stay (firstG (p.turn j)) k) := by
  unfold Pat.turn
  split
  · exact (agA_mir b0 h k).trans (agA_rot b0 h.mir k _)
  · exact agA_rot b0 h k _
end Go.Proofs.YtlpdobfjgpedaaaDoor

namespace Go.Proofs.YtlpdobfjgpedaaaDoor
open Go.RowKit
set_option linter.unusedVariables false
theorem mod_atW {a W : Nat} (q : Nat) (h1 : q * W ≤ a) (h2 : a < q * W + W) : a % W = a - q * W := by
  have e : a = (a - q * W) + W * q := by rw [Nat.mul_comm W q]; omega
  rw [e, Nat.add_mul_mod_self_left, Nat.mod_eq_of_lt (by omega), ← e]
theorem mod_mirW {W x j : Nat} (hx : x < W) (hj : j ≤ 2) : (W - 1 - x + (W - 1 + (2 - j))) % W = W - 1 - (x + (W - 1 + j)) % W := by
  by_cases a1 : x + (W - 1 + j) < W
  · rw [mod_atW (a := x + (W - 1 + j)) 0 (by omega) (by omega), mod_atW 2 (by omega) (by omega)]; omega
  · by_cases a2 : x + (W - 1 + j) < 2 * W
    · rw [mod_atW (a := x + (W - 1 + j)) 1 (by omega) (by omega), mod_atW 1 (by omega) (by omega)]; omega
    · rw [mod_atW (a := x + (W - 1 + j)) 2 (by omega) (by omega), mod_atW 0 (by omega) (by omega)]; omega
theorem torC_mir {W H x y i j : Nat} (xs : List Int) (hx : x < W) (hy : y < H) (hj : j ≤ 2) : torC W H (mirP W H xs) x y i j = torC W H xs (W - 1 - x) y i (2 - j) := by
  have e := mir_at W H xs ((x + (W - 1 + j)) % W) ((y + (H - 1 + i)) % H) (Nat.mod_lt _ (by omega)) (Nat.mod_lt _ (by omega))
  unfold atP at e
  unfold torC
  rw [e, mod_mirW hx hj]
theorem torC_qtr {W H x y i j : Nat} (xs : List Int) (hx : x < H) (hy : y < W) (hj : j ≤ 2) : torC H W (qtrP W H xs) x y i j = torC W H xs y (H - 1 - x) (2 - j) i := by
  have e := qtr_at W H xs ((x + (H - 1 + j)) % H) ((y + (W - 1 + i)) % W) (Nat.mod_lt _ (by omega)) (Nat.mod_lt _ (by omega))
  unfold atP at e
  unfold torC
  rw [e, mod_mirW hx hj]
theorem torS_mir {W H x y : Nat} (xs : List Int) (hx : x < W) (hy : y < H) : torS W H (mirP W H xs) x y 9 = torS W H xs (W - 1 - x) y 9 := by
  have e := mir_at W H xs x y hx hy
  unfold atP at e
  unfold torS
  rw [e]
  simp only [sumG, Nat.reduceDiv, Nat.reduceMod]
  simp only [torC_mir xs hx hy (show 0 ≤ 2 by omega), torC_mir xs hx hy (show 1 ≤ 2 by omega), torC_mir xs hx hy (show 2 ≤ 2 by omega), Nat.reduceSub]
  omega
theorem torS_qtr {W H x y : Nat} (xs : List Int) (hx : x < H) (hy : y < W) : torS H W (qtrP W H xs) x y 9 = torS W H xs y (H - 1 - x) 9 := by
  have e := qtr_at W H xs x y hx hy
  unfold atP at e
  unfold torS
  rw [e]
  simp only [sumG, Nat.reduceDiv, Nat.reduceMod]
  simp only [torC_qtr xs hx hy (show 0 ≤ 2 by omega), torC_qtr xs hx hy (show 1 ≤ 2 by omega), torC_qtr xs hx hy (show 2 ≤ 2 by omega), Nat.reduceSub]
  omega
theorem torL_length (born stay W H : Nat) (xs : List Int) : (torL born stay W H xs).length = W * H := by simp [torL]
theorem torL_at (born stay W H : Nat) (xs : List Int) (x y : Nat) (hx : x < W) (hy : y < H) : atP W (torL born stay W H xs) x y = ((becN born stay (atP W xs x y) (torS W H xs x y 9).toNat : Nat) : Int) := by
  obtain ⟨d, m⟩ := divmod_mk W y x hx
  have hl := mk_lt hx hy
  unfold atP torL
  have e : ((List.range (W * H)).map (torV born stay W H xs)).getD (y * W + x) 0 = torV born stay W H xs (y * W + x) := by simp [List.getD, hl]
  rw [e, torV, d, m]
def torP (born stay : Nat) (p : Pat) : Pat := ⟨p.W, p.H, torL born stay p.W p.H p.xs⟩
theorem torP_mir (born stay : Nat) (p : Pat) : torP born stay p.mir = (torP born stay p).mir := by
  obtain ⟨W, H, xs⟩ := p
  unfold torP Pat.mir
  dsimp only
  congr 1
  refine list_at (torL_length ..) (mirP_length ..) fun x y hx hy => ?_
  rw [torL_at _ _ _ _ _ _ _ hx hy, mir_at _ _ _ _ _ hx hy, mir_at _ _ _ _ _ hx hy, torL_at _ _ _ _ _ _ _ (by omega) hy, torS_mir xs hx hy]
theorem torP_qtr (born stay : Nat) (p : Pat) : torP born stay p.qtr = (torP born stay p).qtr := by
  obtain ⟨W, H, xs⟩ := p
  unfold torP Pat.qtr
  dsimp only
  congr 1
  refine list_at (torL_length ..) (qtrP_length ..) fun x y hx hy => ?_
  rw [torL_at _ _ _ _ _ _ _ hx hy, qtr_at _ _ _ _ _ hx hy, qtr_at _ _ _ _ _ hx hy, torL_at _ _ _ _ _ _ _ hy (by omega), torS_qtr xs hx hy]
theorem torP_rot (born stay : Nat) (p : Pat) : ∀ j, torP born stay (p.rot j) = (torP born stay p).rot j
  | 0 => rfl
  | j + 1 => by rw [Pat.rot, torP_qtr, torP_rot born stay p j]; rfl
theorem torP_turn (born stay : Nat) (p : Pat) (k : Nat) : torP born stay (p.turn k) = (torP born stay p).turn k := by
  unfold Pat.turn
  rw [torP_rot]
  split
  · rw [torP_mir]
  · rfl
end Go.Proofs.YtlpdobfjgpedaaaDoor

