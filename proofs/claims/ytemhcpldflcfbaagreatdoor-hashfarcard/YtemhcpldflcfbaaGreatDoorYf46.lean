/-
  What the last text of this claim leans on, part 46: Gv1, Hs1, Hu6, Hu7, In1, As, Err, Er1, Gv2.
-/
import Derived.Test.YtemhcpldflcfbaaGreatDoorYf45
import Derived.Test.YtemhcpldflcfbaaGreatDoorYf26
import Derived.Test.YtemhcpldflcfbaaGreatDoorYf16
import Derived.Test.YtemhcpldflcfbaaGreatDoorYf37
import Derived.Test.YtemhcpldflcfbaaGreatDoorYf27
import Derived.Test.YtemhcpldflcfbaaGreatDoorYf9
import Derived.Test.YtemhcpldflcfbaaGreatDoorProg
import Derived.WalkKit
import Derived.LaidEql
import Derived.Stop.Asserts
import Derived.RowKitTokens
import Derived.WalkSpells
import Derived.WalkLawsBesides
import Derived.Deep.CutRange
namespace Go.Proofs.YtemhcpldflcfbaaGreatDoor
open Go.RowKit
set_option linter.unusedVariables false
theorem wrap_near {x : Int} (h1 : -1000000000 ≤ x) (h2 : x ≤ 1000000000) : IntKind.i64.wrap x = x := by simp [IntKind.wrap, IntKind.bits, IntKind.signed]; omega
def sameP (a b : Pat) : Bool := decide (a.W = b.W) && decide (a.H = b.H) && decide (a.xs = b.xs)
def Bxd (s : Gst) : Prop := s = noG ∨ (BoxP (cellP s.P) 0 0 s.P.W s.P.H ∧ GOk s)
theorem box_bxd {q : Pat} (h : ∀ k, 0 ≤ q.xs.getD k 0 ∧ q.xs.getD k 0 ≤ 1) (R D : Int) : Bxd (boxG q R D) := by
 have ok := box_ok h R D
 unfold boxG at ok ⊢
 rcases trim_cases q with ⟨h0, h1⟩ | ⟨l, t, r, b, hB, h1⟩
 ·left; rw [h1, if_pos rfl]
 ·right
  rw [h1] at ok ⊢
  dsimp only at ok ⊢
  obtain ⟨y1, x1, c1, e1⟩ := hB.le
  obtain ⟨y2, x2, c2, e2⟩ := hB.ri
  obtain ⟨y3, x3, c3, e3⟩ := hB.up
  obtain ⟨y4, x4, c4, e4⟩ := hB.lo
  have i1 := hB.inn _ _ c1
  have i2 := hB.inn _ _ c2
  have i3 := hB.inn _ _ c3
  have i4 := hB.inn _ _ c4
  rw [if_neg (by omega)] at ok ⊢
  refine ⟨⟨fun y x hc => ?_, ⟨y1 - t, 0, ?_, rfl⟩, ⟨y2 - t, x2 - l, ?_, by dsimp only; omega⟩, ⟨0, x3 - l, ?_, rfl⟩, ⟨y4 - t, x4 - l, ?_, by dsimp only; omega⟩⟩, ok⟩
  ·rw [trim_cell hB] at hc
   simp at hc
   dsimp only
   omega
  ·rw [trim_cell hB, show t + (y1 - t) = y1 by omega, show l + 0 = x1 by omega, c1]; simp; omega
  ·rw [trim_cell hB, show t + (y2 - t) = y2 by omega, show l + (x2 - l) = x2 by omega, c2]; simp; omega
  ·rw [trim_cell hB, show t + 0 = y3 by omega, show l + (x3 - l) = x3 by omega, c3]; simp; omega
  ·rw [trim_cell hB, show t + (y4 - t) = y4 by omega, show l + (x4 - l) = x4 by omega, c4]; simp; omega
theorem cellP_words {a b : Pat} (aW : a.W ≤ 128) (aH : a.H ≤ 102) (bW : b.W ≤ 128) (bH : b.H ≤ 102) (h : ∀ k, k < 204 → wX a k = wX b k) : cellP a = cellP b := by
 funext y x
 by_cases hx : x < 128
 ·by_cases hy : y < 102
  ·rw [← wX_rb a y x hx, ← wX_rb b y x hx, h _ (by omega), h _ (by omega)]
  ·unfold cellP
   rw [decide_eq_false (show ¬ y < a.H by omega), decide_eq_false (show ¬ y < b.H by omega)]; simp
 ·unfold cellP
  rw [decide_eq_false (show ¬ x < a.W by omega), decide_eq_false (show ¬ x < b.W by omega)]; simp
theorem words_same {s t : Gst} (hs : Bxd s) (ht : Bxd t) (sW : s.P.W ≤ 102) (sH : s.P.H ≤ 102) (tW : t.P.W ≤ 102) (tH : t.P.H ≤ 102) : (∀ k, k < 204 → wX s.P k = wX t.P k) ↔ sameP s.P t.P = true := by
 constructor
 ·intro h
  have e := cellP_words (by omega) sH (by omega) tH h
  rcases hs with rfl | ⟨bs, os⟩
  ·rcases ht with rfl | ⟨bt, ot⟩
   ·simp [sameP]
   ·obtain ⟨y, x, c, -⟩ := bt.le
    rw [← e] at c
    simp [cellP, noG] at c
  ·rcases ht with rfl | ⟨bt, ot⟩
   ·obtain ⟨y, x, c, -⟩ := bs.le
    rw [e] at c
    simp [cellP, noG] at c
   ·rw [e] at bs
    obtain ⟨-, -, eW, eH⟩ := bs.same bt
    have el : s.P.xs = t.P.xs := by
     refine List.ext_getElem (by rw [os.len, ot.len, eW, eH]) (fun i h1 h2 => ?_)
     have hi : i < s.P.W * s.P.H := by rw [← os.len]; exact h1
     have hj : i < t.P.W * t.P.H := by rw [← ot.len]; exact h2
     have c1 := cellP_of hi
     have c2 := cellP_of hj
     rw [e, eW, c2] at c1
     have b1 := os.bits i
     have b2 := ot.bits i
     have g1 : s.P.xs.getD i 0 = s.P.xs[i] := by simp [List.getD, h1]
     have g2 : t.P.xs.getD i 0 = t.P.xs[i] := by simp [List.getD, h2]
     rw [g1] at b1 c1
     rw [g2] at b2 c1
     rw [decide_eq_decide] at c1
     omega
    unfold sameP
    rw [decide_eq_true eW, decide_eq_true eH, decide_eq_true el]; rfl
 ·intro h k _
  unfold sameP at h
  simp at h
  obtain ⟨⟨h1, h2⟩, h3⟩ := h
  have : s.P = t.P := by
   cases hs : s.P; cases ht : t.P
   rw [hs, ht] at h1 h2 h3
   dsimp only at h1 h2 h3
   rw [h1, h2, h3]
  rw [this]
theorem grow_bxd {born stay : Nat} {s : Gst} (hs : Bxd s) : ∀ n u, growG born stay s n = some u → Bxd u
 | 0, u, h => by rw [growG] at h; injection h with h; rw [← h]; exact hs
 | n + 1, u, h => by
  rw [growG] at h
  cases hg : growG born stay s n with
  | none => rw [hg] at h; cases h
  | some t =>
   rw [hg] at h
   dsimp only at h
   split at h
   ·cases h
   ·injection h with h; rw [← h]; exact box_bxd (next_bits born stay t.P) _ _
structure AgR where
 n : Nat
 r : Int
 d : Int
 f : Nat
def agn (born stay : Nat) (s0 : Gst) : Nat → Nat → Gst → AgR
 | 0, _, _ => ⟨0, 0, 0, 5⟩
 | k + 1, i, u => if 100 < (nextG born stay u).P.W ∨ 100 < (nextG born stay u).P.H then ⟨0, 0, 0, 4⟩ else if sameP (nextG born stay u).P s0.P then ⟨i + 1, (nextG born stay u).r - s0.r, (nextG born stay u).d - s0.d, 0⟩ else agn born stay s0 k (i + 1) (nextG born stay u)
def agA (born stay : Nat) (s0 : Gst) (m : Nat) : AgR := if s0.P.W = 0 then ⟨0, 0, 0, 5⟩ else agn born stay s0 m 0 s0
theorem agn_noG {born stay : Nat} {s0 : Gst} (b0 : born.testBit 0 = false) (h : s0.P.W ≠ 0) : ∀ k i, agn born stay s0 k i noG = ⟨0, 0, 0, 5⟩
 | 0, i => rfl
 | k + 1, i => by
  rw [agn, noG_next b0, if_neg (by simp [noG]), if_neg (by unfold sameP; rw [decide_eq_false (show ¬ noG.P.W = s0.P.W from fun e => h e.symm)]; simp)]
  exact agn_noG b0 h k (i + 1)
theorem bxd_wide {s : Gst} (h : Bxd s) : s.P.W = 0 ↔ s.P.H = 0 := by
 rcases h with rfl | ⟨b, -⟩
 ·simp [noG]
 ·obtain ⟨y, x, c, -⟩ := b.le
  have := b.inn _ _ c
  omega
def plG (s : Gst) : Int → Int → Int := ptF s.P.W s.P.H s.P.xs s.r s.d
theorem pt_cell {q : Pat} (hb : ∀ k, 0 ≤ q.xs.getD k 0 ∧ q.xs.getD k 0 ≤ 1) (R D : Int) (x y : Nat) : ptF q.W q.H q.xs R D (R + x) (D + y) = ((cellP q y x).toNat : Int) := by
 unfold ptF cellP
 have e1 : R + (x : Int) - R = (x : Int) := by omega
 have e2 : D + (y : Int) - D = (y : Int) := by omega
 rw [e1, e2]
 by_cases h : x < q.W ∧ y < q.H
 ·rw [if_pos (show inP q.W q.H x y by unfold inP; omega)]
  unfold cellF
  have e3 : ((y : Int) * (q.W : Int) + (x : Int)) = ((y * q.W + x : Nat) : Int) := by push_cast; rfl
  rw [e3, Int.toNat_natCast, decide_eq_true h.1, decide_eq_true h.2]
  have := hb (y * q.W + x)
  by_cases z : q.xs.getD (y * q.W + x) 0 = 1
  ·rw [z]; decide
  ·rw [show q.xs.getD (y * q.W + x) 0 = 0 by omega]; decide
 ·rw [if_neg (show ¬ inP q.W q.H x y by unfold inP; omega)]
  by_cases a : x < q.W
  ·rw [decide_eq_false (show ¬ y < q.H by omega)]; simp
  ·rw [decide_eq_false a]; simp
theorem pt_out {W H : Nat} {xs : List Int} {R D u v : Int} (h : ¬ (R ≤ u ∧ u < R + W ∧ D ≤ v ∧ v < D + H)) : ptF W H xs R D u v = 0 := by
 unfold ptF
 rw [if_neg (by unfold inP; omega)]
theorem pt_far {q : Pat} {R D u v : Int} (h : u < R ∨ v < D) : ptF q.W q.H q.xs R D u v = 0 := pt_out (by omega)
theorem pl_noG : plG noG = fun _ _ => 0 := by
 funext u v
 exact pt_out (by simp [noG])
theorem box_pl {q : Pat} (hb : ∀ k, 0 ≤ q.xs.getD k 0 ∧ q.xs.getD k 0 ≤ 1) (R D : Int) : plG (boxG q R D) = ptF q.W q.H q.xs R D := by
 have ok := box_ok hb R D
 funext u v
 rcases trim_cases q with ⟨h0, h1⟩ | ⟨l, t, r, b, hB, h1⟩
 ·have e : boxG q R D = noG := by unfold boxG; rw [h1, if_pos rfl]
  rw [e, pl_noG]
  by_cases h : u < R ∨ v < D
  ·rw [pt_far h]
  ·rw [show u = R + ((u - R).toNat : Int) by omega, show v = D + ((v - D).toNat : Int) by omega, pt_cell hb, h0]; rfl
 ·obtain ⟨y1, x1, c1, e1⟩ := hB.le
  have i1 := hB.inn _ _ c1
  have e : boxG q R D = ⟨⟨r - l, b - t, winP q.W l t (r - l) ((r - l) * (b - t)) q.xs⟩, R + (l : Int), D + (t : Int)⟩ := by
   unfold boxG
   rw [h1]
   dsimp only
   rw [if_neg (by omega)]
  rw [e] at ok ⊢
  unfold plG
  dsimp only
  by_cases h : u < R + l ∨ v < D + t
  ·rw [pt_out (by omega)]
   by_cases h2 : u < R ∨ v < D
   ·rw [pt_far h2]
   ·rw [show u = R + ((u - R).toNat : Int) by omega, show v = D + ((v - D).toNat : Int) by omega, pt_cell hb]
    cases c : cellP q (v - D).toNat (u - R).toNat with
    | false => rfl
    | true => have := hB.inn _ _ c; omega
  ·have p1 := pt_cell (q := ⟨r - l, b - t, winP q.W l t (r - l) ((r - l) * (b - t)) q.xs⟩) ok.bits (R + l) (D + t) (u - (R + l)).toNat (v - (D + t)).toNat
   have p2 := pt_cell hb R D (l + (u - (R + l)).toNat) (t + (v - (D + t)).toNat)
   rw [trim_cell hB] at p1
   rw [show R + (l : Int) + ((u - (R + l)).toNat : Int) = u by omega, show D + (t : Int) + ((v - (D + t)).toNat : Int) = v by omega] at p1
   rw [show R + ((l + (u - (R + l)).toNat : Nat) : Int) = u by omega, show D + ((t + (v - (D + t)).toNat : Nat) : Int) = v by omega] at p2
   dsimp only at p1
   rw [p1, p2]
   cases c : cellP q (t + (v - (D + t)).toNat) (l + (u - (R + l)).toNat) with
   | false => simp
   | true =>
    have := hB.inn _ _ c
    rw [decide_eq_true (show (u - (R + (l : Int))).toNat < r - l by omega), decide_eq_true (show (v - (D + (t : Int))).toNat < b - t by omega)]
    rfl
theorem c2_pl {q : Pat} (hb : ∀ k, 0 ≤ q.xs.getD k 0 ∧ q.xs.getD k 0 ≤ 1) (R D : Int) (x y : Nat) : ptF q.W q.H q.xs R D (R + x - 2) (D + y - 2) = ((c2 q y x).toNat : Int) := by
 unfold c2
 by_cases h : 2 ≤ x ∧ 2 ≤ y
 ·rw [show R + (x : Int) - 2 = R + ((x - 2 : Nat) : Int) by omega, show D + (y : Int) - 2 = D + ((y - 2 : Nat) : Int) by omega, pt_cell hb, decide_eq_true h.1, decide_eq_true h.2]; rfl
 ·rw [pt_far (by omega)]
  by_cases a : 2 ≤ x
  ·rw [decide_eq_false (show ¬ 2 ≤ y by omega)]; simp
  ·rw [decide_eq_false a]; simp
theorem next_pt {born stay : Nat} (hb0 : born % 2 = 0) {q : Pat} (hb : ∀ k, 0 ≤ q.xs.getD k 0 ∧ q.xs.getD k 0 ≤ 1) (R D : Int) : ptF (q.W + 2) (q.H + 2) (nextC born stay q).xs (R - 1) (D - 1) = nxF born stay (ptF q.W q.H q.xs R D) := by
 funext u v
 by_cases h : R - 1 ≤ u ∧ u < R - 1 + (q.W + 2 : Nat) ∧ D - 1 ≤ v ∧ v < D - 1 + (q.H + 2 : Nat)
 ·obtain ⟨x, hx⟩ : ∃ x : Nat, u = R - 1 + x := ⟨(u - (R - 1)).toNat, by omega⟩
  obtain ⟨y, hy⟩ : ∃ y : Nat, v = D - 1 + y := ⟨(v - (D - 1)).toNat, by omega⟩
  subst hx hy
  have e := pt_cell (q := nextC born stay q) (next_bits born stay q) (R - 1) (D - 1) x y
  rw [show (nextC born stay q).W = q.W + 2 from rfl, show (nextC born stay q).H = q.H + 2 from rfl] at e
  rw [e, nextC_cell, decide_eq_true (show x < q.W + 2 by omega), decide_eq_true (show y < q.H + 2 by omega), Bool.true_and, Bool.true_and]
  have b := becN_nx born stay q y x
  have n : (nbF (ptF q.W q.H q.xs R D) (R - 1 + x) (D - 1 + y)) = ((nb2 q y x : Nat) : Int) := by
   unfold nbF nb2
   rw [show R - 1 + (x : Int) - 1 = R + (x : Int) - 2 by omega, show D - 1 + (y : Int) - 1 = D + (y : Int) - 2 by omega, show R - 1 + (x : Int) = R + ((x + 1 : Nat) : Int) - 2 by omega, show D - 1 + (y : Int) = D + ((y + 1 : Nat) : Int) - 2 by omega, show R + ((x + 1 : Nat) : Int) - 2 + 1 = R + ((x + 2 : Nat) : Int) - 2 by omega, show D + ((y + 1 : Nat) : Int) - 2 + 1 = D + ((y + 2 : Nat) : Int) - 2 by omega]
   rw [c2_pl hb, c2_pl hb, c2_pl hb, c2_pl hb, c2_pl hb, c2_pl hb, c2_pl hb, c2_pl hb]
   push_cast
   omega
  unfold nxF
  rw [n, Int.toNat_natCast, show R - 1 + (x : Int) = R + ((x + 1 : Nat) : Int) - 2 by omega, show D - 1 + (y : Int) = D + ((y + 1 : Nat) : Int) - 2 by omega, c2_pl hb]
  unfold c2I at b
  rw [b]
  cases nxB born stay q y x <;> rfl
 ·rw [pt_out h]
  refine (nxF_none hb0 fun a b h1 h2 h3 h4 => pt_out ?_).symm
  push_cast at h
  omega
theorem next_pl {born stay : Nat} (hb0 : born % 2 = 0) {s : Gst} (hs : GOk s) : plG (nextG born stay s) = nxF born stay (plG s) := by
 unfold nextG
 rw [box_pl (next_bits born stay s.P)]
 exact next_pt hb0 hs.bits s.r s.d
def itG (born stay : Nat) : Nat → Gst → Gst
 | 0, s => s
 | n + 1, s => nextG born stay (itG born stay n s)
theorem it_ok {born stay : Nat} {s : Gst} (hs : GOk s) : ∀ n, GOk (itG born stay n s)
 | 0 => hs
 | n + 1 => next_ok born stay _
theorem it_bxd {born stay : Nat} {s : Gst} (hs : Bxd s) : ∀ n, Bxd (itG born stay n s)
 | 0 => hs
 | n + 1 => box_bxd (next_bits born stay _) _ _
theorem it_pl {born stay : Nat} (hb0 : born % 2 = 0) {s : Gst} (hs : GOk s) : ∀ n, plG (itG born stay n s) = stF born stay n (plG s)
 | 0 => rfl
 | n + 1 => by
  show plG (nextG born stay (itG born stay n s)) = nxF born stay (stF born stay n (plG s))
  rw [next_pl hb0 (it_ok hs n), it_pl hb0 hs n]
theorem bxd_ok {s : Gst} (h : Bxd s) : GOk s := by
 rcases h with rfl | ⟨-, h⟩
 ·exact noG_ok
 ·exact h
theorem bxd_box {s : Gst} (h : Bxd s) (hW : s.P.W ≠ 0) : BxF (plG s) s.r s.d (s.r + s.P.W) (s.d + s.P.H) := by
 have ok := bxd_ok h
 rcases h with rfl | ⟨hB, -⟩
 ·exact absurd rfl hW
 ·have al : ∀ y x, cellP s.P y x = true → plG s (s.r + x) (s.d + y) ≠ 0 := fun y x c => by
   unfold plG
   rw [pt_cell ok.bits, c]; decide
  obtain ⟨y1, x1, c1, e1⟩ := hB.le
  obtain ⟨y2, x2, c2, e2⟩ := hB.ri
  obtain ⟨y3, x3, c3, e3⟩ := hB.up
  obtain ⟨y4, x4, c4, e4⟩ := hB.lo
  refine ⟨fun u v q => ?_, ⟨s.d + y1, ?_⟩, ⟨s.d + y2, ?_⟩, ⟨s.r + x3, ?_⟩, ⟨s.r + x4, ?_⟩⟩
  ·refine Classical.byContradiction fun g => q (pt_out g)
  ·have := al _ _ c1; rwa [show s.r + (x1 : Int) = s.r by omega] at this
  ·have := al _ _ c2; rwa [show s.r + (x2 : Int) = s.r + s.P.W - 1 by omega] at this
  ·have := al _ _ c3; rwa [show s.d + (y3 : Int) = s.d by omega] at this
  ·have := al _ _ c4; rwa [show s.d + (y4 : Int) = s.d + s.P.H - 1 by omega] at this
theorem noG_of {s : Gst} (h : Bxd s) (hW : s.P.W = 0) : s = noG := by
 rcases h with h | ⟨hB, -⟩
 ·exact h
 ·obtain ⟨y, x, c, -⟩ := hB.le
  have := (cellP_at c).1
  omega
def NrG (s0 : Gst) (n : Nat) (s : Gst) : Prop := s = noG ∨ ((s0.r - n ≤ s.r ∧ s.r + s.P.W ≤ s0.r + s0.P.W + n) ∧ s0.d - n ≤ s.d ∧ s.d + s.P.H ≤ s0.d + s0.P.H + n)
theorem it_near {born stay : Nat} (b0 : born.testBit 0 = false) (hb0 : born % 2 = 0) {s : Gst} (hs : Bxd s) : ∀ n, NrG s n (itG born stay n s)
 | 0 => Or.inr ⟨by constructor <;> show _ ≤ _ <;> simp [itG], by constructor <;> show _ ≤ _ <;> simp [itG]⟩
 | n + 1 => by
  have ih := it_near (stay := stay) b0 hb0 hs n
  have ok := it_ok (born := born) (stay := stay) (bxd_ok hs) n
  by_cases z : (itG born stay (n + 1) s).P.W = 0
  ·exact Or.inl (noG_of (it_bxd hs (n + 1)) z)
  ·right
   have bx := bxd_box (it_bxd (born := born) (stay := stay) hs (n + 1)) z
   rcases ih with e | ⟨⟨h1, h2⟩, h3, h4⟩
   ·exfalso
    apply z
    show (nextG born stay (itG born stay n s)).P.W = 0
    rw [e, noG_next b0]; rfl
   ·have inn : ∀ u v, plG (itG born stay (n + 1) s) u v ≠ 0 → s.r - (n + 1 : Nat) ≤ u ∧ u < s.r + s.P.W + (n + 1 : Nat) ∧ s.d - (n + 1 : Nat) ≤ v ∧ v < s.d + s.P.H + (n + 1 : Nat) := fun u v q => by
     refine Classical.byContradiction fun g => q ?_
     show plG (nextG born stay (itG born stay n s)) u v = 0
     rw [next_pl hb0 ok]
     refine nxF_none hb0 fun a b k1 k2 k3 k4 => pt_out ?_
     push_cast at g
     omega
    obtain ⟨y1, a1⟩ := bx.hl
    obtain ⟨y2, a2⟩ := bx.hr
    obtain ⟨x3, a3⟩ := bx.hu
    obtain ⟨x4, a4⟩ := bx.hd
    have := inn _ _ a1
    have := inn _ _ a2
    have := inn _ _ a3
    have := inn _ _ a4
    omega
theorem st_again {born stay P : Nat} {F : Int → Int → Int} {R D : Int} (h : stF born stay P F = fun u v => F (-R + u) (-D + v)) : ∀ m : Nat, stF born stay (m * P) F = fun u v => F (-(m * R) + u) (-(m * D) + v)
 | 0 => by funext u v; simp [stF_zero]
 | m + 1 => by
  rw [Nat.add_mul, Nat.one_mul, Nat.add_comm, stF_add, h, stF_shift, st_again h m]
  funext u v
  have e : ∀ z x : Int, -(((m + 1 : Nat) : Int) * z) + x = -((m : Int) * z) + (-z + x) := fun z x => by push_cast; rw [Int.add_mul]; omega
  rw [e R u, e D v]
theorem agn_it {born stay : Nat} {s0 : Gst} : ∀ k i u, u = itG born stay i s0 → (agn born stay s0 k i u).f = 0 → ∃ j, i < j ∧ j ≤ i + k ∧ sameP (itG born stay j s0).P s0.P = true ∧ agn born stay s0 k i u = ⟨j, (itG born stay j s0).r - s0.r, (itG born stay j s0).d - s0.d, 0⟩
 | 0, i, u, hu, h => by cases h
 | k + 1, i, u, hu, h => by
  rw [agn] at h ⊢
  have e : nextG born stay u = itG born stay (i + 1) s0 := by rw [hu]; rfl
  split at h
  ·cases h
  ·rename_i c
   rw [if_neg c]
   split at h
   ·rename_i c2
    rw [if_pos c2]
    exact ⟨i + 1, by omega, by omega, by rw [← e]; exact c2, by rw [e]⟩
   ·rename_i c2
    rw [if_neg c2]
    obtain ⟨j, h1, h2, h3, h4⟩ := agn_it k (i + 1) _ e h
    exact ⟨j, by omega, by omega, h3, h4⟩
theorem same_eq {a b : Pat} (h : sameP a b = true) : a = b := by
 unfold sameP at h
 simp at h
 obtain ⟨⟨h1, h2⟩, h3⟩ := h
 cases a; cases b
 simp_all
theorem pt_move (W H : Nat) (xs : List Int) (r d a b : Int) : ptF W H xs (r + a) (d + b) = fun u v => ptF W H xs r d (-a + u) (-b + v) := by
 funext u v
 unfold ptF
 rw [show u - (r + a) = -a + u - r by omega, show v - (d + b) = -b + v - d by omega]
structure PerG (born stay : Nat) (s0 : Gst) (a : AgR) : Prop where
 pos : 1 ≤ a.n ∧ a.n ≤ 64
 alive : s0.P.W ≠ 0
 right : -(64 : Int) ≤ a.r ∧ a.r ≤ 64
 down : -(64 : Int) ≤ a.d ∧ a.d ≤ 64
 again : stF born stay a.n (plG s0) = fun u v => plG s0 (-a.r + u) (-a.d + v)
theorem per_of {born stay : Nat} (b0 : born.testBit 0 = false) (hb0 : born % 2 = 0) {s0 : Gst} (hs : Bxd s0) (h : (agA born stay s0 64).f = 0) : PerG born stay s0 (agA born stay s0 64) := by
 unfold agA at h ⊢
 split at h
 ·cases h
 ·rename_i c
  rw [if_neg c]
  obtain ⟨j, h1, h2, h3, h4⟩ := agn_it 64 0 s0 rfl h
  rw [h4]
  have nr := it_near (stay := stay) b0 hb0 hs j
  have pp := same_eq h3
  have al : itG born stay j s0 ≠ noG := fun e => by
   rw [e] at pp
   exact c (by rw [← pp]; rfl)
  rcases nr with e | ⟨⟨n1, n2⟩, n3, n4⟩
  ·exact absurd e al
  ·rw [pp] at n2 n4
   refine ⟨⟨by dsimp only; omega, by dsimp only; omega⟩, c, ⟨by dsimp only; omega, by dsimp only; omega⟩, ⟨by dsimp only; omega, by dsimp only; omega⟩, ?_⟩
   dsimp only
   rw [← it_pl hb0 (bxd_ok hs) j]
   unfold plG
   rw [pp, ← pt_move]
   congr 1 <;> omega
theorem agn_small {born stay : Nat} {s0 : Gst} : ∀ k i u, u = itG born stay i s0 → (u.P.W ≤ 100 ∧ u.P.H ≤ 100) → (agn born stay s0 k i u).f = 0 → ∀ j, i ≤ j → j ≤ (agn born stay s0 k i u).n → (itG born stay j s0).P.W ≤ 100 ∧ (itG born stay j s0).P.H ≤ 100
 | 0, i, u, hu, hs, h, _, _, _ => by cases h
 | k + 1, i, u, hu, hs, h, j, h1, h2 => by
  rw [agn] at h h2
  have e : nextG born stay u = itG born stay (i + 1) s0 := by rw [hu]; rfl
  split at h
  ·cases h
  ·rename_i c
   rw [if_neg c] at h2
   have small : (nextG born stay u).P.W ≤ 100 ∧ (nextG born stay u).P.H ≤ 100 := by omega
   by_cases ej : j = i
   ·subst ej; rw [← hu]; exact hs
   ·split at h
    ·rename_i c2
     rw [if_pos c2] at h2
     dsimp only at h2
     obtain rfl : j = i + 1 := by omega
     rw [← e]; exact small
    ·rename_i c2
     rw [if_neg c2] at h2
     exact agn_small k (i + 1) _ e small h j (by omega) h2
theorem prF_of {born stay : Nat} (b0 : born.testBit 0 = false) (hb0 : born % 2 = 0) {s0 : Gst} (hs : Bxd s0) (hW : s0.P.W ≤ 100) (hH : s0.P.H ≤ 100) (h : (agA born stay s0 64).f = 0) : PrF born stay (plG s0) (agA born stay s0 64).n (agA born stay s0 64).r (agA born stay s0 64).d := by
 have p := per_of b0 hb0 hs h
 have sm : ∀ j, j ≤ (agA born stay s0 64).n → (itG born stay j s0).P.W ≤ 100 ∧ (itG born stay j s0).P.H ≤ 100 := by
  have al := p.alive
  unfold agA at h ⊢
  rw [if_neg al] at h ⊢
  exact fun j hj => agn_small 64 0 s0 rfl ⟨hW, hH⟩ h j (by omega) hj
 obtain ⟨a, ha⟩ : ∃ a, agA born stay s0 64 = a := ⟨_, rfl⟩
 rw [ha] at p sm ⊢
 refine ⟨p.pos, p.again, fun t => ?_⟩
 obtain ⟨q, hq⟩ : ∃ q, t / a.n = q := ⟨_, rfl⟩
 obtain ⟨r, hr⟩ : ∃ q, t % a.n = q := ⟨_, rfl⟩
 have e : t = q * a.n + r := by rw [← hq, ← hr, Nat.mul_comm]; exact (Nat.div_add_mod t a.n).symm
 have rl : r < a.n := by rw [← hr]; exact Nat.mod_lt _ (by have := p.pos.1; omega)
 obtain ⟨g, hg⟩ : ∃ g, itG born stay r s0 = g := ⟨_, rfl⟩
 have gs := sm r (by omega)
 have gp := it_pl (born := born) (stay := stay) hb0 (bxd_ok hs) r
 rw [hg] at gs gp
 refine ⟨g.r + q * a.r, g.d + q * a.d, fun x y c => ?_⟩
 rw [e, stF_add, st_again p.again, stF_shift, ← gp]
 exact pt_out (by omega)
theorem far_pl {born stay : Nat} (b0 : born.testBit 0 = false) (hb0 : born % 2 = 0) {s0 : Gst} (hs : Bxd s0) (h : (agA born stay s0 64).f = 0) (n : Nat) : stF born stay n (plG s0) = plG ⟨(itG born stay (n % (agA born stay s0 64).n) s0).P, (itG born stay (n % (agA born stay s0 64).n) s0).r + ((n / (agA born stay s0 64).n : Nat) : Int) * (agA born stay s0 64).r, (itG born stay (n % (agA born stay s0 64).n) s0).d + ((n / (agA born stay s0 64).n : Nat) : Int) * (agA born stay s0 64).d⟩ := by
 have p := per_of b0 hb0 hs h
 obtain ⟨a, ha⟩ : ∃ a, agA born stay s0 64 = a := ⟨_, rfl⟩
 rw [ha] at p ⊢
 obtain ⟨q, hq⟩ : ∃ q, n / a.n = q := ⟨_, rfl⟩
 obtain ⟨r, hr⟩ : ∃ q, n % a.n = q := ⟨_, rfl⟩
 have e : n = q * a.n + r := by rw [← hq, ← hr, Nat.mul_comm]; exact (Nat.div_add_mod n a.n).symm
 rw [hq, hr, e, stF_add, st_again p.again, stF_shift]
 have gp := it_pl (born := born) (stay := stay) hb0 (bxd_ok hs) r
 obtain ⟨g, hg⟩ : ∃ g, itG born stay r s0 = g := ⟨_, rfl⟩
 rw [hg] at gp ⊢
 rw [← gp]
 funext u v
 show plG g (-(q * a.r) + u) (-(q * a.d) + v) = ptF g.P.W g.P.H g.P.xs (g.r + q * a.r) (g.d + q * a.d) u v
 rw [pt_move]
 rfl
theorem grow_it {born stay : Nat} {s : Gst} : ∀ n, (∀ j, j ≤ n → (itG born stay j s).P.W ≤ 100 ∧ (itG born stay j s).P.H ≤ 100) → growG born stay s n = some (itG born stay n s)
 | 0, _ => rfl
 | n + 1, h => by
  rw [growG, grow_it n (fun j hj => h j (by omega))]
  have := h (n + 1) (Nat.le_refl _)
  have e : nextG born stay (itG born stay n s) = itG born stay (n + 1) s := rfl
  dsimp only
  rw [e, if_neg (by omega)]
theorem again_small {born stay : Nat} {s0 : Gst} (hW : s0.P.W ≤ 100) (hH : s0.P.H ≤ 100) (h : (agA born stay s0 64).f = 0) : ∀ j, j ≤ (agA born stay s0 64).n → (itG born stay j s0).P.W ≤ 100 ∧ (itG born stay j s0).P.H ≤ 100 := by
 by_cases al : s0.P.W = 0
 ·unfold agA at h
  rw [if_pos al] at h
  cases h
 ·unfold agA at h ⊢
  rw [if_neg al] at h ⊢
  exact fun j hj => agn_small 64 0 s0 rfl ⟨hW, hH⟩ h j (by omega) hj
theorem far_box {born stay : Nat} (b0 : born.testBit 0 = false) (hb0 : born % 2 = 0) {s0 : Gst} (hs : Bxd s0) (h : (agA born stay s0 64).f = 0) (n : Nat) {x y W H : Int} (hB : (∃ u v, stF born stay n (plG s0) u v ≠ 0) → BxF (stF born stay n (plG s0)) x y (x + W) (y + H)) :
  x = (itG born stay (n % (agA born stay s0 64).n) s0).r + ((n / (agA born stay s0 64).n : Nat) : Int) * (agA born stay s0 64).r ∧ y = (itG born stay (n % (agA born stay s0 64).n) s0).d + ((n / (agA born stay s0 64).n : Nat) : Int) * (agA born stay s0 64).d ∧ W = ((itG born stay (n % (agA born stay s0 64).n) s0).P.W : Int) ∧ H = ((itG born stay (n % (agA born stay s0 64).n) s0).P.H : Int) := by
 have p := per_of b0 hb0 hs h
 have e := far_pl b0 hb0 hs h n
 obtain ⟨A, hA⟩ : ∃ A, agA born stay s0 64 = A := ⟨_, rfl⟩
 rw [hA] at p e ⊢
 obtain ⟨r, hr⟩ : ∃ r, n % A.n = r := ⟨_, rfl⟩
 have rl : r < A.n := by rw [← hr]; exact Nat.mod_lt _ (by have := p.pos.1; omega)
 obtain ⟨q, hq⟩ : ∃ q, n / A.n = q := ⟨_, rfl⟩
 rw [hr, hq] at e ⊢
 obtain ⟨u, hu⟩ : ∃ u, itG born stay r s0 = u := ⟨_, rfl⟩
 have ub : Bxd u := by rw [← hu]; exact it_bxd hs r
 have up : plG u = stF born stay r (plG s0) := by rw [← hu]; exact it_pl hb0 (bxd_ok hs) r
 rw [hu] at e ⊢
 have nz : u.P.W ≠ 0 := fun z => by
  have z0 : stF born stay r (plG s0) = fun _ _ => 0 := by rw [← up, noG_of ub z, pl_noG]
  have z1 : stF born stay A.n (plG s0) = fun _ _ => 0 := by
   rw [show A.n = r + (A.n - r) by omega, stF_add, z0]
   funext u v
   rw [stF_none hb0 (fun a b _ _ _ _ => rfl)]
  obtain ⟨y, hy⟩ := (bxd_box hs p.alive).hl
  have g := congrFun (congrFun p.again (A.r + s0.r)) (A.d + y)
  rw [z1] at g
  refine hy ?_
  have g' : (0 : Int) = plG s0 (-A.r + (A.r + s0.r)) (-A.d + (A.d + y)) := g
  rw [show -A.r + (A.r + s0.r) = s0.r by omega, show -A.d + (A.d + y) = y by omega] at g'
  exact g'.symm
 have bx := (bxd_box ub nz).shift (a := (q : Int) * A.r) (b := (q : Int) * A.d) (G := stF born stay n (plG s0)) (fun x y => by
  rw [e]
  show ptF u.P.W u.P.H u.P.xs u.r u.d (x - (q : Int) * A.r) (y - (q : Int) * A.d) = ptF u.P.W u.P.H u.P.xs (u.r + (q : Int) * A.r) (u.d + (q : Int) * A.d) x y
  rw [pt_move, show x - (q : Int) * A.r = -((q : Int) * A.r) + x by omega, show y - (q : Int) * A.d = -((q : Int) * A.d) + y by omega])
 obtain ⟨z, hz⟩ := bx.hl
 have o := (hB ⟨_, _, hz⟩).only bx
 omega
theorem far_near {born stay : Nat} (b0 : born.testBit 0 = false) (hb0 : born % 2 = 0) {s0 : Gst} (hs : Bxd s0) (hW : s0.P.W ≤ 100) (hH : s0.P.H ≤ 100) (h0 : -200 ≤ s0.r ∧ s0.r ≤ 200 ∧ -200 ≤ s0.d ∧ s0.d ≤ 200) {r : Nat} (hr : r ≤ 64) : (-1000 ≤ (itG born stay r s0).r ∧ (itG born stay r s0).r ≤ 1000) ∧ -1000 ≤ (itG born stay r s0).d ∧ (itG born stay r s0).d ≤ 1000 := by
 rcases it_near (stay := stay) b0 hb0 hs r with e | e
 ·rw [e]; exact ⟨by decide, by decide⟩
 ·omega
theorem far_mul {q : Nat} {r : Int} (hq : q ≤ 1099511627776) (h : -64 ≤ r ∧ r ≤ 64) : -70368744177664 ≤ (q : Int) * r ∧ (q : Int) * r ≤ 70368744177664 := by
 have q0 : (0 : Int) ≤ (q : Int) := by omega
 have a := Int.mul_le_mul_of_nonneg_left h.1 q0
 have b := Int.mul_le_mul_of_nonneg_left h.2 q0
 omega

open Go.RowKit Go.Extern.Stop Go.Stop Go.Extern

def Handle (w : World) : Prop := w.cell? ⟨0, 0, none⟩ = some (.iface 205 (.agg #[.pointer (some ⟨2, 29, none⟩)]))
theorem Handle.lt {w : World} (hg : Handle w) : 0 < w.heap.size := by
 unfold Handle at hg
 rcases Nat.lt_or_ge 0 w.heap.size with h | h
 ·exact h
 ·simp [World.cell?, Array.getElem?_eq_none h] at hg
theorem Handle.below {w w' : World} (hg : Handle w) (h : Below w.heap.size w w') : Handle w' := by
 have := hg.lt
 unfold Handle at hg ⊢
 rw [h.cell (p := ⟨0, 0, none⟩) this]; exact hg
theorem tab_below {w w' : World} {v : Value} {xs : List Int} (h : Tab w v xs) (hb : Below w.heap.size w w') : Tab w' v xs := by
 rcases h with h | ⟨g, cap, hv, hg, hc⟩
 ·exact Or.inl h
 ·exact Or.inr ⟨g, cap, hv, Nat.lt_of_lt_of_le hg hb.size, fun k hk => (World.cell?_of_block (w := w) (a := ⟨g, k, none⟩) (hb.block g hg)).trans (hc k hk)⟩
def agV (x : AgR) : Value := .agg #[.int .i64 (x.n : Int), .int .i64 x.r, .int .i64 x.d]
def AgInv (born stay : Nat) (s0 : Gst) (m j : Nat) (u : Gst) : Prop := (u.P.W = 0 → agA born stay s0 m = ⟨0, 0, 0, 5⟩) ∧ (u.P.W ≠ 0 → agA born stay s0 m = agn born stay s0 (m - j) j u ∧ s0.P.W ≠ 0)
theorem AgInv.start (born stay : Nat) (s0 : Gst) (m : Nat) : AgInv born stay s0 m 0 s0 := ⟨fun h => by unfold agA; rw [if_pos h], fun h => ⟨by unfold agA; rw [if_neg h]; rfl, h⟩⟩
theorem AgInv.big {born stay : Nat} {s0 : Gst} {m j : Nat} {u : Gst} (h : AgInv born stay s0 m j u) (hj : j < m) (z : u.P.W ≠ 0) (b : 100 < (nextG born stay u).P.W ∨ 100 < (nextG born stay u).P.H) : agA born stay s0 m = ⟨0, 0, 0, 4⟩ := by
 rw [(h.2 z).1, show m - j = (m - (j + 1)) + 1 by omega, agn, if_pos b]
theorem AgInv.next {born stay : Nat} {s0 : Gst} {m j : Nat} {u : Gst} (b0 : born.testBit 0 = false) (h : AgInv born stay s0 m j u) (hj : j < m) (z : u.P.W ≠ 0) (b : ¬ (100 < (nextG born stay u).P.W ∨ 100 < (nextG born stay u).P.H)) (k : sameP (nextG born stay u).P s0.P = false) : AgInv born stay s0 m (j + 1) (nextG born stay u) := by
 have e : agA born stay s0 m = agn born stay s0 (m - (j + 1)) (j + 1) (nextG born stay u) := by
  rw [(h.2 z).1, show m - j = (m - (j + 1)) + 1 by omega, agn, if_neg b, if_neg (by rw [k]; simp)]
 refine ⟨fun t => ?_, fun _ => ⟨e, (h.2 z).2⟩⟩
 have tn : nextG born stay u = noG := box_zero t
 rw [e, tn]
 exact agn_noG b0 (h.2 z).2 _ _
structure GA (w w4 wr : World) (pf p : Nat) (s0 : Gst) (v0 : Value) (s : Gst) (v : Value) : Prop where
 keep : ∀ k, k < w.heap.size + 1 + 1 + 1 → wr.heap[k]? = w4.heap[k]?
 fb : wr.heap[pf]? = some (.cells #[.int .i64 (s0.P.W : Int), .int .i64 (s0.P.H : Int), v0, .int .i64 s0.r, .int .i64 s0.d] 39 (0, 0))
 ft : Tab wr v0 s0.P.xs
 ff : ∀ g k c, v0 = .slice (some ⟨g, 0, none⟩) k c → w.heap.size + 1 + 1 + 1 ≤ g ∧ g ≠ p
 blk : wr.heap[p]? = some (.cells #[.int .i64 (s.P.W : Int), .int .i64 (s.P.H : Int), v, .int .i64 s.r, .int .i64 s.d] 39 (0, 0))
 tab : Tab wr v s.P.xs
 fr : ∀ g k c, v = .slice (some ⟨g, 0, none⟩) k c → w.heap.size + 1 + 1 + 1 ≤ g ∧ g ≠ p
 pq : w.heap.size + 1 + 1 + 1 ≤ pf
 pl : pf < p
 below : Below w.heap.size w wr
theorem GA.next {w w4 wr w' : World} {pf p : Nat} {s0 s : Gst} {v0 v : Value} (h : GA w w4 wr pf p s0 v0 s v) (b : Below wr.heap.size wr w') : GA w w4 w' pf p s0 v0 s v := by
 have l := lt_of_block h.blk
 have lf := lt_of_block h.fb
 have := h.pl
 have := h.pq
 exact ⟨fun k hk => (b.block k (by omega)).trans (h.keep k hk), (b.block _ lf).trans h.fb, tab_below h.ft b, h.ff, (b.block _ l).trans h.blk, tab_below h.tab b, h.fr, h.pq, h.pl, h.below.trans (b.mono h.below.size)⟩
end Go.Proofs.YtemhcpldflcfbaaGreatDoor
