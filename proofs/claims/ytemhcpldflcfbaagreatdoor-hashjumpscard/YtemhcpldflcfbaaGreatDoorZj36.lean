/-
  What the last text of this claim leans on, part 36: Gr7, Gr8, Gt1, Gt2, Wc2, Gt3, Wf3.
-/
import Derived.Test.YtemhcpldflcfbaaGreatDoorZj14
import Derived.Test.YtemhcpldflcfbaaGreatDoorZj35
import Derived.Test.YtemhcpldflcfbaaGreatDoorZj15
namespace Go.Proofs.YtemhcpldflcfbaaGreatDoor
open Go.RowKit
set_option linter.unusedVariables false
structure SX (w w4 wr : World) (a0 a1 h0 h1 b0 b1 : Nat) (Y : Nat → Nat) : Prop where
 keep : ∀ k, k < w.heap.size + 1 + 1 + 1 → wr.heap[k]? = w4.heap[k]?
 sheet : wr.heap[w.heap.size + 1 + 1 + 1]? = some (.cells (arrF 204 (uF Y)) 108 (0, 0))
 above : wr.heap[w.heap.size + 1 + 1 + 1 + 1]? = some (.cells #[.int .u64 (a0 : Int), .int .u64 (a1 : Int)] 106 (0, 0))
 here : wr.heap[w.heap.size + 1 + 1 + 1 + 1 + 1]? = some (.cells #[.int .u64 (h0 : Int), .int .u64 (h1 : Int)] 106 (0, 0))
 low : wr.heap[w.heap.size + 1 + 1 + 1 + 1 + 1 + 1]? = some (.cells #[.int .u64 (b0 : Int), .int .u64 (b1 : Int)] 106 (0, 0))
 below : Below w.heap.size w wr
theorem SX.next {w w4 wr w' : World} {a0 a1 h0 h1 b0 b1 : Nat} {Y : Nat → Nat} (h : SX w w4 wr a0 a1 h0 h1 b0 b1 Y) (b : Below wr.heap.size wr w') : SX w w4 w' a0 a1 h0 h1 b0 b1 Y := by
 have l := lt_of_block h.low
 exact ⟨fun k hk => (b.block k (by omega)).trans (h.keep k hk), (b.block _ (by omega)).trans h.sheet, (b.block _ (by omega)).trans h.above, (b.block _ (by omega)).trans h.here, (b.block _ l).trans h.low, h.below.trans (b.mono h.below.size)⟩
theorem other_keep {w : World} {k : Nat} (b i : Nat) (v : Value) (hn : k ≠ b) : (w.setCell ⟨b, i, none⟩ v).heap[k]? = w.heap[k]? := Below.heap_setCell _ _ _ _ hn
theorem SX.set {w w4 wr : World} {a0 a1 h0 h1 b0 b1 : Nat} {Y : Nat → Nat} (h : SX w w4 wr a0 a1 h0 h1 b0 b1 Y) (i v : Nat) : SX w w4 (wr.setCell ⟨w.heap.size + 1 + 1 + 1, i, none⟩ (.int .u64 (v : Int))) a0 a1 h0 h1 b0 b1 (fun k => if k = i then v else Y k) := by
 refine ⟨fun k hk => (other_keep _ _ _ (by omega)).trans (h.keep k hk), ?_, two_other h.above _ _ _ (by omega), two_other h.here _ _ _ (by omega), two_other h.low _ _ _ (by omega), h.below.setCell (by simp; omega) _⟩
 rw [heap_setCell_same _ _ _ _ _ _ h.sheet, arrF_set]
 rw [arrF_ext (fun k _ => show (if k = i then Value.int .u64 (v : Int) else uF Y k) = uF (fun k => if k = i then v else Y k) k by unfold uF; by_cases q : k = i <;> simp [q])]
theorem SX.ext {w w4 wr : World} {a0 a1 h0 h1 b0 b1 : Nat} {Y Y' : Nat → Nat} (h : SX w w4 wr a0 a1 h0 h1 b0 b1 Y) (e : ∀ k, k < 204 → Y k = Y' k) : SX w w4 wr a0 a1 h0 h1 b0 b1 Y' :=
 ⟨h.keep, by rw [arrF_ext (fun k hk => show uF Y' k = uF Y k by unfold uF; rw [e k hk])]; exact h.sheet, h.above, h.here, h.low, h.below⟩
theorem SX.drewN {w w4 wr : World} {a0 a1 h0 h1 b0 b1 : Nat} {Y : Nat → Nat} (h : SX w w4 wr a0 a1 h0 h1 b0 b1 Y) : SX w w4 wr.drew a0 a1 h0 h1 b0 b1 Y := ⟨h.keep, h.sheet, h.above, h.here, h.low, h.below.drew⟩

def cellP (q : Pat) (y x : Nat) : Bool := decide (x < q.W) && decide (y < q.H) && decide (q.xs.getD (y * q.W + x) 0 = 1)
structure BoxP (P : Nat → Nat → Bool) (l t r b : Nat) : Prop where
 inn : ∀ y x, P y x = true → l ≤ x ∧ x < r ∧ t ≤ y ∧ y < b
 le : ∃ y x, P y x = true ∧ x = l
 ri : ∃ y x, P y x = true ∧ x + 1 = r
 up : ∃ y x, P y x = true ∧ y = t
 lo : ∃ y x, P y x = true ∧ y + 1 = b
theorem BoxP.same {P : Nat → Nat → Bool} {l t r b l' t' r' b' : Nat} (h : BoxP P l t r b) (k : BoxP P l' t' r' b') : l = l' ∧ t = t' ∧ r = r' ∧ b = b' := by
 obtain ⟨y1, x1, a1, e1⟩ := h.le
 obtain ⟨y2, x2, a2, e2⟩ := k.le
 obtain ⟨y3, x3, a3, e3⟩ := h.ri
 obtain ⟨y4, x4, a4, e4⟩ := k.ri
 obtain ⟨y5, x5, a5, e5⟩ := h.up
 obtain ⟨y6, x6, a6, e6⟩ := k.up
 obtain ⟨y7, x7, a7, e7⟩ := h.lo
 obtain ⟨y8, x8, a8, e8⟩ := k.lo
 have := h.inn _ _ a2
 have := h.inn _ _ a4
 have := h.inn _ _ a6
 have := h.inn _ _ a8
 have := k.inn _ _ a1
 have := k.inn _ _ a3
 have := k.inn _ _ a5
 have := k.inn _ _ a7
 omega
theorem bbx_spec (W H : Nat) (xs : List Int) : ∀ m, m ≤ W * H →
  ((∀ i, i < m → xs.getD i 0 ≠ 1) ∧ bbx W H xs m = ⟨W, H, 0, 0⟩) ∨
  ((∀ i, i < m → xs.getD i 0 = 1 → (bbx W H xs m).l ≤ i % W ∧ i % W < (bbx W H xs m).r ∧ (bbx W H xs m).t ≤ i / W ∧ i / W < (bbx W H xs m).b) ∧
   (∃ i, i < m ∧ xs.getD i 0 = 1 ∧ i % W = (bbx W H xs m).l) ∧ (∃ i, i < m ∧ xs.getD i 0 = 1 ∧ i % W + 1 = (bbx W H xs m).r) ∧ (∃ i, i < m ∧ xs.getD i 0 = 1 ∧ i / W = (bbx W H xs m).t) ∧ (∃ i, i < m ∧ xs.getD i 0 = 1 ∧ i / W + 1 = (bbx W H xs m).b)) := by
 intro m
 induction m with
 | zero => intro _; left; exact ⟨fun i h => by omega, rfl⟩
 | succ m ih =>
  intro hm
  obtain ⟨x, y, hx, hy, ex, ey, -⟩ := split_lt (W := W) (H := H) (i := m) (by omega)
  by_cases q : xs.getD m 0 = 1
  ·right
   rw [bbx_yes q]
   dsimp only
   rcases ih (by omega) with ⟨h0, h1⟩ | ⟨h0, h1, h2, h3, h4⟩
   ·rw [h1]
    dsimp only
    rw [ex, ey]
    refine ⟨fun i hi hc => ?_, ⟨m, by omega, q, by rw [ex]; omega⟩, ⟨m, by omega, q, by rw [ex]; omega⟩, ⟨m, by omega, q, by rw [ey]; omega⟩, ⟨m, by omega, q, by rw [ey]; omega⟩⟩
    have : i = m := by
     rcases Nat.lt_or_ge i m with u | u
     ·exact absurd hc (h0 i u)
     ·omega
    subst this
    rw [ex, ey]
    omega
   ·obtain ⟨i1, l1, c1, e1⟩ := h1
    obtain ⟨i2, l2, c2, e2⟩ := h2
    obtain ⟨i3, l3, c3, e3⟩ := h3
    obtain ⟨i4, l4, c4, e4⟩ := h4
    rw [ex, ey]
    refine ⟨fun i hi hc => ?_, ?_, ?_, ?_, ?_⟩
    ·rcases Nat.lt_or_ge i m with u | u
     ·have := h0 i u hc; omega
     ·have : i = m := by omega
      subst this
      rw [ex, ey]; omega
    ·rcases Nat.le_total (bbx W H xs m).l x with u | u
     ·exact ⟨i1, by omega, c1, by omega⟩
     ·exact ⟨m, by omega, q, by omega⟩
    ·rcases Nat.le_total (bbx W H xs m).r (x + 1) with u | u
     ·exact ⟨m, by omega, q, by omega⟩
     ·exact ⟨i2, by omega, c2, by omega⟩
    ·rcases Nat.le_total (bbx W H xs m).t y with u | u
     ·exact ⟨i3, by omega, c3, by omega⟩
     ·exact ⟨m, by omega, q, by omega⟩
    ·rcases Nat.le_total (bbx W H xs m).b (y + 1) with u | u
     ·exact ⟨m, by omega, q, by omega⟩
     ·exact ⟨i4, by omega, c4, by omega⟩
  ·rw [bbx_no q]
   rcases ih (by omega) with ⟨h0, h1⟩ | ⟨h0, h1, h2, h3, h4⟩
   ·left
    refine ⟨fun i hi => ?_, h1⟩
    rcases Nat.lt_or_ge i m with u | u
    ·exact h0 i u
    ·have : i = m := by omega
     subst this; exact q
   ·right
    obtain ⟨i1, l1, c1, e1⟩ := h1
    obtain ⟨i2, l2, c2, e2⟩ := h2
    obtain ⟨i3, l3, c3, e3⟩ := h3
    obtain ⟨i4, l4, c4, e4⟩ := h4
    refine ⟨fun i hi hc => ?_, ⟨i1, by omega, c1, e1⟩, ⟨i2, by omega, c2, e2⟩, ⟨i3, by omega, c3, e3⟩, ⟨i4, by omega, c4, e4⟩⟩
    rcases Nat.lt_or_ge i m with u | u
    ·exact h0 i u hc
    ·have : i = m := by omega
     subst this; exact absurd hc q
theorem cellP_of {q : Pat} {i : Nat} (hi : i < q.W * q.H) : cellP q (i / q.W) (i % q.W) = decide (q.xs.getD i 0 = 1) := by
 obtain ⟨x, y, hx, hy, ex, ey, e⟩ := split_lt hi
 unfold cellP
 rw [ex, ey, e]
 simp [hx, hy]
theorem cellP_at {q : Pat} {y x : Nat} (h : cellP q y x = true) : x < q.W ∧ y < q.H ∧ y * q.W + x < q.W * q.H ∧ q.xs.getD (y * q.W + x) 0 = 1 ∧ (y * q.W + x) % q.W = x ∧ (y * q.W + x) / q.W = y := by
 unfold cellP at h
 simp only [Bool.and_eq_true, decide_eq_true_eq] at h
 obtain ⟨⟨h1, h2⟩, h3⟩ := h
 refine ⟨h1, h2, mk_lt h1 h2, h3, ?_, ?_⟩
 ·rw [Nat.mul_comm, Nat.mul_add_mod]; exact Nat.mod_eq_of_lt h1
 ·rw [Nat.mul_comm, Nat.mul_add_div (by omega), Nat.div_eq_of_lt h1, Nat.add_zero]
theorem trim_cases (q : Pat) :
  ((∀ y x, cellP q y x = false) ∧ trimP q = (⟨0, 0, []⟩, 0, 0)) ∨
  (∃ l t r b, BoxP (cellP q) l t r b ∧ trimP q = (⟨r - l, b - t, winP q.W l t (r - l) ((r - l) * (b - t)) q.xs⟩, l, t)) := by
 have sp := bbx_spec q.W q.H q.xs (q.W * q.H) (Nat.le_refl _)
 unfold trimP
 dsimp only
 rcases sp with ⟨h0, h1⟩ | ⟨h0, h1, h2, h3, h4⟩
 ·left
  refine ⟨fun y x => ?_, by rw [h1, if_pos rfl]⟩
  cases hc : cellP q y x with
  | false => rfl
  | true => obtain ⟨a, b, c, d, -⟩ := cellP_at hc; exact absurd d (h0 _ c)
 ·right
  obtain ⟨i1, l1, c1, e1⟩ := h1
  obtain ⟨i2, l2, c2, e2⟩ := h2
  obtain ⟨i3, l3, c3, e3⟩ := h3
  obtain ⟨i4, l4, c4, e4⟩ := h4
  refine ⟨_, _, _, _, ⟨fun y x hc => ?_, ⟨i1 / q.W, i1 % q.W, by rw [cellP_of l1]; simpa using c1, e1⟩, ⟨i2 / q.W, i2 % q.W, by rw [cellP_of l2]; simpa using c2, e2⟩, ⟨i3 / q.W, i3 % q.W, by rw [cellP_of l3]; simpa using c3, e3⟩, ⟨i4 / q.W, i4 % q.W, by rw [cellP_of l4]; simpa using c4, e4⟩⟩, by rw [if_neg (by omega)]⟩
  obtain ⟨a, b, c, d, e, f⟩ := cellP_at hc
  have := h0 _ c d
  rw [e, f] at this
  exact this
theorem trim_cell {q : Pat} {l t r b : Nat} (hB : BoxP (cellP q) l t r b) (y x : Nat) :
  cellP ⟨r - l, b - t, winP q.W l t (r - l) ((r - l) * (b - t)) q.xs⟩ y x = (decide (x < r - l) && decide (y < b - t) && cellP q (t + y) (l + x)) := by
 unfold cellP
 dsimp only
 by_cases hx : x < r - l
 ·by_cases hy : y < b - t
  ·have i1 : y * (r - l) + x < (r - l) * (b - t) := mk_lt hx hy
   have m1 : (y * (r - l) + x) % (r - l) = x := by rw [Nat.mul_comm, Nat.mul_add_mod]; exact Nat.mod_eq_of_lt hx
   have d1 : (y * (r - l) + x) / (r - l) = y := by rw [Nat.mul_comm, Nat.mul_add_div (by omega), Nat.div_eq_of_lt hx, Nat.add_zero]
   have g : (winP q.W l t (r - l) ((r - l) * (b - t)) q.xs).getD (y * (r - l) + x) 0 = q.xs.getD ((t + y) * q.W + (l + x)) 0 := by
    unfold winP winC atP
    simp [List.getD, i1, m1, d1]
   obtain ⟨y1, x1, c1, e1⟩ := hB.ri
   obtain ⟨y2, x2, c2, e2⟩ := hB.lo
   have w1 := (cellP_at c1).1
   have w2 := (cellP_at c2).2.1
   rw [g]
   simp [hx, hy, show l + x < q.W by omega, show t + y < q.H by omega]
  ·simp [hx, hy]
 ·simp [hx]
def c2 (q : Pat) (y x : Nat) : Bool := decide (2 ≤ y) && decide (2 ≤ x) && cellP q (y - 2) (x - 2)
def nb2 (q : Pat) (y x : Nat) : Nat := (c2 q y x).toNat + (c2 q y (x + 1)).toNat + (c2 q y (x + 2)).toNat + (c2 q (y + 1) x).toNat + (c2 q (y + 1) (x + 2)).toNat + (c2 q (y + 2) x).toNat + (c2 q (y + 2) (x + 1)).toNat + (c2 q (y + 2) (x + 2)).toNat
def nxB (born stay : Nat) (q : Pat) (y x : Nat) : Bool := if c2 q (y + 1) (x + 1) then stay.testBit (nb2 q y x) else born.testBit (nb2 q y x)
def nextC (born stay : Nat) (q : Pat) : Pat := ⟨q.W + 2, q.H + 2, (List.range ((q.W + 2) * (q.H + 2))).map fun i => if nxB born stay q (i / (q.W + 2)) (i % (q.W + 2)) then 1 else 0⟩
theorem nextC_cell (born stay : Nat) (q : Pat) (y x : Nat) : cellP (nextC born stay q) y x = (decide (x < q.W + 2) && decide (y < q.H + 2) && nxB born stay q y x) := by
 unfold cellP nextC
 dsimp only
 by_cases hx : x < q.W + 2
 ·by_cases hy : y < q.H + 2
  ·have i1 : y * (q.W + 2) + x < (q.W + 2) * (q.H + 2) := mk_lt hx hy
   have m1 : (y * (q.W + 2) + x) % (q.W + 2) = x := by rw [Nat.mul_comm, Nat.mul_add_mod]; exact Nat.mod_eq_of_lt hx
   have d1 : (y * (q.W + 2) + x) / (q.W + 2) = y := by rw [Nat.mul_comm, Nat.mul_add_div (by omega), Nat.div_eq_of_lt hx, Nat.add_zero]
   simp only [List.getD, List.getElem?_map, List.getElem?_range i1, Option.map_some, Option.getD_some, m1, d1, hx, hy, decide_true, Bool.true_and]
   cases nxB born stay q y x <;> simp
  ·simp [hy]
 ·simp [hx]
structure Gst where
 P : Pat
 r : Int
 d : Int
def noG : Gst := ⟨⟨0, 0, []⟩, 0, 0⟩
def boxG (q : Pat) (R D : Int) : Gst := if (trimP q).1.W = 0 then noG else ⟨(trimP q).1, R + ((trimP q).2.1 : Int), D + ((trimP q).2.2 : Int)⟩
def firstG (p : Pat) : Gst := boxG p 0 0
def nextG (born stay : Nat) (s : Gst) : Gst := boxG (nextC born stay s.P) (s.r - 1) (s.d - 1)
structure GOk (s : Gst) : Prop where
 len : s.P.xs.length = s.P.W * s.P.H
 bits : ∀ k, 0 ≤ s.P.xs.getD k 0 ∧ s.P.xs.getD k 0 ≤ 1
theorem noG_ok : GOk noG := ⟨rfl, fun k => by simp [noG]⟩
theorem win_bits {W l t V N : Nat} {xs : List Int} (h : ∀ k, 0 ≤ xs.getD k 0 ∧ xs.getD k 0 ≤ 1) (k : Nat) : 0 ≤ (winP W l t V N xs).getD k 0 ∧ (winP W l t V N xs).getD k 0 ≤ 1 := by
 unfold winP
 by_cases q : k < N
 ·have e : ((List.range N).map (winC W l t V xs)).getD k 0 = winC W l t V xs k := by simp [List.getD, q]
  rw [e]
  exact h _
 ·have e : ((List.range N).map (winC W l t V xs)).getD k 0 = 0 := by simp [List.getD, q]
  rw [e]; omega
theorem box_ok {q : Pat} (h : ∀ k, 0 ≤ q.xs.getD k 0 ∧ q.xs.getD k 0 ≤ 1) (R D : Int) : GOk (boxG q R D) := by
 unfold boxG
 rcases trim_cases q with ⟨h0, h1⟩ | ⟨l, t, r, b, hB, h1⟩
 ·rw [h1, if_pos rfl]; exact noG_ok
 ·rw [h1]
  dsimp only
  split
  ·exact noG_ok
  ·exact ⟨by simp [winP], fun k => win_bits h k⟩
theorem next_bits (born stay : Nat) (q : Pat) (k : Nat) : 0 ≤ (nextC born stay q).xs.getD k 0 ∧ (nextC born stay q).xs.getD k 0 ≤ 1 := by
 unfold nextC
 dsimp only
 by_cases z : k < (q.W + 2) * (q.H + 2)
 ·simp only [List.getD, List.getElem?_map, List.getElem?_range z, Option.map_some, Option.getD_some]
  split <;> omega
 ·have e : ∀ f : Nat → Int, ((List.range ((q.W + 2) * (q.H + 2))).map f).getD k 0 = 0 := fun f => by simp [List.getD, z]
  rw [e]; omega
theorem next_ok (born stay : Nat) (s : Gst) : GOk (nextG born stay s) := box_ok (next_bits born stay s.P) _ _
theorem box_near {q : Pat} {R D : Int} {m : Int} (hW : (q.W : Int) ≤ 102) (hH : (q.H : Int) ≤ 102) (R1 : -m - 1 ≤ R) (R2 : R ≤ m) (D1 : -m - 1 ≤ D) (D2 : D ≤ m) (m0 : 0 ≤ m) : -m - 102 ≤ (boxG q R D).r ∧ (boxG q R D).r ≤ m + 102 ∧ -m - 102 ≤ (boxG q R D).d ∧ (boxG q R D).d ≤ m + 102 := by
 unfold boxG
 rcases trim_cases q with ⟨h0, h1⟩ | ⟨l, t, r, b, hB, h1⟩
 ·rw [h1, if_pos rfl]; simp [noG]; omega
 ·rw [h1]
  dsimp only
  split
  ·simp [noG]; omega
  ·obtain ⟨y, x, c, e⟩ := hB.le
   obtain ⟨y2, x2, c2, e2⟩ := hB.up
   have := (cellP_at c).1
   have := (cellP_at c2).2.1
   dsimp only
   omega
def growG (born stay : Nat) (s : Gst) : Nat → Option Gst
 | 0 => some s
 | n + 1 => match growG born stay s n with
  | none => none
  | some u => if 100 < (nextG born stay u).P.W ∨ 100 < (nextG born stay u).P.H then none else some (nextG born stay u)
set_option maxHeartbeats 800000 in
theorem At_in (W H : Nat) (xs : List Int) (a : Option Addr) (n c x y : Nat) (X Y : Int) (w : World) (hP : ArgP w xs a n c) (lW : W ≤ 100) (lH : H ≤ 100) (hn : n = W * H) (hX : X = x) (hY : Y = y) (hx : x < W) (hy : y < H) :
  Calls Tryz.prog 66 #[.agg #[.int .i64 (W : Int), .int .i64 (H : Int), .slice a n c], .int .i64 X, .int .i64 Y] w fun e w' => e = .returned (.int .i64 (atP W xs x y)) ∧ Below w.heap.size w w' := by
 subst hX hY
 have hN4 : n ≤ 10000 := by rw [hn]; exact Nat.mul_le_mul lW lH
 have hq := mk_lt hx hy
 rw [← hn] at hq
 obtain ⟨Q, hQ⟩ : ∃ Q, y * W = Q := ⟨_, rfl⟩
 have hQi : (y : Int) * (W : Int) = (Q : Int) := by rw [← hQ]; simp
 have hl : Q + x < xs.length := by rw [← hP.len, ← hQ]; exact hq
 have hQn : Q + x < n := by rw [← hQ]; exact hq
 obtain ⟨g, off, rfl, hg, hc⟩ := (hP.alloc (.cells #[.int .i64 (W : Int), .int .i64 (H : Int), .slice a n c] 26)).cells (Q + x) hl
 have V := hide' (show atP W xs x y = xs[Q + x] by unfold atP; rw [hQ]; simp [List.getD, hl])
 obtain ⟨v, hv⟩ : ∃ v, xs[Q + x] = v := ⟨_, rfl⟩
 rw [hv] at hc V
 have h1 : ¬ (x : Int) < 0 := by omega
 have h2 : ¬ (W : Int) ≤ (x : Int) := by omega
 have h3 : ¬ (y : Int) < 0 := by omega
 have h4 : ¬ (H : Int) ≤ (y : Int) := by omega
 clear hP hn hq hQ hv
 go_enter Tryz.func66, Tryz.ntmps66
 go_wp2
 go_ret
 rw [V.out]
 exact ⟨rfl, (Below.refl _ _).alloc (Nat.le_refl _) _⟩
structure RT (w wr : World) (W H W' H' : Nat) (a : Option Addr) (n c : Nat) (v : Value) (ys : List Int) : Prop where
 box : TB w.heap.size (.int .i64 (W : Int)) (.int .i64 (H : Int)) (.slice a n c) wr
 res : TB (w.heap.size + 1) (.int .i64 0) (.int .i64 0) (.slice none 0 0) wr
 q : TB (w.heap.size + 2) (.int .i64 (W' : Int)) (.int .i64 (H' : Int)) v wr
 own : wr.ownsRow (w.heap.size + 3) 3 1 v ys.length (ys.map fun x => .int .i64 x)
 below : Below w.heap.size w wr
 sz : w.heap.size + 3 ≤ wr.heap.size
theorem RT.next {w wr w' : World} {W H W' H' : Nat} {a : Option Addr} {n c : Nat} {v : Value} {ys : List Int} (h : RT w wr W H W' H' a n c v ys) (hb : Below wr.heap.size wr w') : RT w w' W H W' H' a n c v ys := by
 have hz := h.sz
 exact ⟨h.box.next hb, h.res.next hb, h.q.next hb, ownsRow_from h.own fun k _ hk => hb.block k hk, h.below.trans (hb.mono (by omega)), by have := hb.size; omega⟩
theorem RT.grown {w wr w' : World} {W H W' H' : Nat} {a : Option Addr} {n c : Nat} {v : Value} {ys : List Int} (h : RT w wr W H W' H' a n c v ys) (x : Int) (hg : (wr.alloc (.cells #[.int .i64 x] 3)).grownBy w' v.ownBlock) : ∀ k, k < w.heap.size + 3 → w'.heap[k]? = wr.heap[k]? := fun k hk => by
 have hz := h.sz
 have hob := ownsRow_block h.own
 rw [hg.block k (by rw [World.size_alloc]; omega) (fun e => by have := hob k e.symm; omega)]
 exact Below.heap_alloc _ _ _ (by omega)
theorem RT.mid {w wr w' : World} {W H W' H' : Nat} {a : Option Addr} {n c : Nat} {v : Value} {ys : List Int} (h : RT w wr W H W' H' a n c v ys) (x : Int) (hg : (wr.alloc (.cells #[.int .i64 x] 3)).grownBy w' v.ownBlock) : w'.cell? ⟨w.heap.size + 2, 2, none⟩ = some v ∧ w'.frozen? ⟨w.heap.size + 2, 2, none⟩ = false := by
 have t := h.q.block (h.grown x hg _ (by omega))
 exact ⟨t.c2, t.fz 2⟩
theorem RT.push {w wr w' : World} {W H W' H' : Nat} {a : Option Addr} {n c : Nat} {v v' : Value} {ys : List Int} (h : RT w wr W H W' H' a n c v ys) (x : Int) (hg : (wr.alloc (.cells #[.int .i64 x] 3)).grownBy w' v.ownBlock) (ho : w'.ownsRow (w.heap.size + 3) 3 1 v' (ys.length + 1) ((ys.map fun x => .int .i64 x) ++ [.int .i64 x])) : RT w (w'.setCell ⟨w.heap.size + 2, 2, none⟩ v') W H W' H' a n c v' (ys ++ [x]) := by
 have hk := h.grown x hg
 have hz := h.sz
 have hsz : wr.heap.size + 1 ≤ w'.heap.size := by have := hg.size; rw [World.size_alloc] at this; exact this
 have hb : Below w.heap.size w w' := h.below.trans ⟨hg.os, hg.tape, hg.output, by omega, fun k hkk => hk k (by omega)⟩
 have tq := h.q.block (hk _ (by omega))
 refine ⟨(h.box.block (hk _ (by omega))).block (Below.heap_setCell _ _ _ _ (by simp)), (h.res.block (hk _ (by omega))).block (Below.heap_setCell _ _ _ _ (by simp)), ⟨cell_other tq.c0 (by omega), cell_other tq.c1 (by omega), cell_same tq.c2, fun k => by rw [World.frozen?_setCell]; exact tq.fz k⟩, ?_, hb.setCell (by simp) _, by rw [World.size_setCell]; omega⟩
 have := ownsRow_setCell_below ho (a := ⟨w.heap.size + 2, 2, none⟩) (by simp) v'
 simpa using this
theorem RT.start (w : World) (W H W' H' : Nat) (a : Option Addr) (n c : Nat) (t1 t2 t3 : TypeId) : RT w (((w.alloc (.cells #[.int .i64 (W : Int), .int .i64 (H : Int), .slice a n c] t1)).alloc (.cells #[.int .i64 0, .int .i64 0, .slice none 0 0] t2)).alloc (.cells #[.int .i64 (W' : Int), .int .i64 (H' : Int), .slice none 0 0] t3)) W H W' H' a n c (.slice none 0 0) [] := by
 have r1 := TB.new (w.alloc (.cells #[.int .i64 (W : Int), .int .i64 (H : Int), .slice a n c] t1)) (.int .i64 0) (.int .i64 0) (.slice none 0 0) t2
 have r2 := TB.new ((w.alloc (.cells #[.int .i64 (W : Int), .int .i64 (H : Int), .slice a n c] t1)).alloc (.cells #[.int .i64 0, .int .i64 0, .slice none 0 0] t2)) (.int .i64 (W' : Int)) (.int .i64 (H' : Int)) (.slice none 0 0) t3
 rw [World.size_alloc] at r1 r2
 rw [World.size_alloc] at r2
 exact ⟨((TB.new w _ _ _ t1).alloc _).alloc _, r1.alloc _, r2, ⟨by simp, Or.inl ⟨rfl, by simp⟩⟩, (((Below.refl _ _).alloc (Nat.le_refl _) _).alloc (by simp) _).alloc (by simp; omega) _, by simp⟩
def c2I (q : Pat) (y x : Nat) : Int := ((c2 q y x).toNat : Int)
theorem c2I_in {q : Pat} {y x : Nat} (hb : ∀ k, 0 ≤ q.xs.getD k 0 ∧ q.xs.getD k 0 ≤ 1) (hx : x < q.W) (hy : y < q.H) : atP q.W q.xs x y = c2I q (y + 2) (x + 2) := by
 unfold c2I c2 cellP atP
 have := hb (y * q.W + x)
 rw [show y + 2 - 2 = y by omega, show x + 2 - 2 = x by omega]
 simp only [hx, hy, decide_true, Bool.true_and, show 2 ≤ y + 2 by omega, show 2 ≤ x + 2 by omega]
 by_cases z : q.xs.getD (y * q.W + x) 0 = 1
 ·rw [z]; simp
 ·have : q.xs.getD (y * q.W + x) 0 = 0 := by omega
  rw [this]; simp
theorem c2I_out {q : Pat} {y x : Nat} (h : ¬ (2 ≤ x ∧ x - 2 < q.W ∧ 2 ≤ y ∧ y - 2 < q.H)) : c2I q y x = 0 := by
 unfold c2I c2 cellP
 have : (decide (2 ≤ y) && decide (2 ≤ x) && (decide (x - 2 < q.W) && decide (y - 2 < q.H) && decide (q.xs.getD ((y - 2) * q.W + (x - 2)) 0 = 1))) = false := by
  by_cases a1 : 2 ≤ y <;> by_cases a2 : 2 ≤ x <;> by_cases a3 : x - 2 < q.W <;> by_cases a4 : y - 2 < q.H <;> simp [a1, a2, a3, a4] <;> exact absurd ⟨a2, a3, a1, a4⟩ h
 rw [this]; rfl
theorem c2I_le (q : Pat) (y x : Nat) : 0 ≤ c2I q y x ∧ c2I q y x ≤ 1 := by
 unfold c2I
 cases c2 q y x <;> simp
set_option maxRecDepth 100000 in
set_option maxHeartbeats 3200000 in
theorem At_any (q : Pat) (a : Option Addr) (n c x y : Nat) (w : World) (hP : ArgP w q.xs a n c) (lW : q.W ≤ 100) (lH : q.H ≤ 100) (hn : n = q.W * q.H) (hb : ∀ k, 0 ≤ q.xs.getD k 0 ∧ q.xs.getD k 0 ≤ 1) (lx : x ≤ 200) (ly : y ≤ 200) (X Y : Int) (hX : X = (x : Int) - 2) (hY : Y = (y : Int) - 2) :
  Calls Tryz.prog 66 #[.agg #[.int .i64 (q.W : Int), .int .i64 (q.H : Int), .slice a n c], .int .i64 X, .int .i64 Y] w fun e w' => e = .returned (.int .i64 (c2I q y x)) ∧ Below w.heap.size w w' := by
 by_cases h : 2 ≤ x ∧ x - 2 < q.W ∧ 2 ≤ y ∧ y - 2 < q.H
 ·have g := At_in q.W q.H q.xs a n c (x - 2) (y - 2) X Y w hP lW lH hn (by omega) (by omega) h.2.1 h.2.2.2
  rw [c2I_in hb h.2.1 h.2.2.2, show y - 2 + 2 = y by omega, show x - 2 + 2 = x by omega] at g
  exact g
 ·rw [c2I_out h]
  obtain ⟨W, hW⟩ : ∃ W, q.W = W := ⟨_, rfl⟩
  obtain ⟨H, hH⟩ : ∃ H, q.H = H := ⟨_, rfl⟩
  rw [hW, hH] at h ⊢
  clear hP hn hb
  by_cases h1 : X < 0
  ·clear h
   go_enter Tryz.func66, Tryz.ntmps66
   go_wp2
   go_ret
   exact ⟨rfl, (Below.refl _ _).alloc (Nat.le_refl _) _⟩
  ·by_cases h2 : (W : Int) ≤ X
   ·clear h
    go_enter Tryz.func66, Tryz.ntmps66
    go_wp2
    go_ret
    exact ⟨rfl, (Below.refl _ _).alloc (Nat.le_refl _) _⟩
   ·by_cases h3 : Y < 0
    ·clear h
     go_enter Tryz.func66, Tryz.ntmps66
     go_wp2
     go_ret
     exact ⟨rfl, (Below.refl _ _).alloc (Nat.le_refl _) _⟩
    ·have h4 : (H : Int) ≤ Y := by omega
     clear h
     go_enter Tryz.func66, Tryz.ntmps66
     go_wp2
     go_ret
     exact ⟨rfl, (Below.refl _ _).alloc (Nat.le_refl _) _⟩
def nbS (q : Pat) (y x : Nat) : Nat → Int
 | 0 => 0
 | t + 1 => nbS q y x t + if t = 4 then 0 else c2I q (y + t / 3) (x + t % 3)
theorem nbS_le (q : Pat) (y x : Nat) : ∀ t, 0 ≤ nbS q y x t ∧ nbS q y x t ≤ (t : Int)
 | 0 => ⟨Int.le_refl _, Int.le_refl _⟩
 | t + 1 => by
  have ih := nbS_le q y x t
  have := c2I_le q (y + t / 3) (x + t % 3)
  rw [nbS]
  push_cast
  split <;> omega
theorem nbS_nine (q : Pat) (y x : Nat) : nbS q y x 9 = ((nb2 q y x : Nat) : Int) := by
 simp only [nbS, nb2, c2I, Nat.reduceDiv, Nat.reduceMod, Nat.add_zero]
 push_cast
 simp
theorem becN_nx (born stay : Nat) (q : Pat) (y x : Nat) : ((becN born stay (c2I q (y + 1) (x + 1)) (nb2 q y x) : Nat) : Int) = if nxB born stay q y x then 1 else 0 := by
 unfold becN nxB c2I
 cases c2 q (y + 1) (x + 1)
 ·simp only [Bool.toNat_false, Bool.false_eq_true, if_false]
  rw [if_neg (by decide), bitN, Nat.testBit_eq_decide_div_mod_eq]
  by_cases h : born / 2 ^ nb2 q y x % 2 = 1
  ·simp [h]
  ·have : born / 2 ^ nb2 q y x % 2 = 0 := by omega
   simp [this]
 ·simp only [Bool.toNat_true, if_true]
  rw [if_pos (by decide), bitN, Nat.testBit_eq_decide_div_mod_eq]
  by_cases h : stay / 2 ^ nb2 q y x % 2 = 1
  ·simp [h]
  ·have : stay / 2 ^ nb2 q y x % 2 = 0 := by omega
   simp [this]
def winPre (W l t V m : Nat) (xs : List Int) : List Int := (List.range m).map (winC W l t V xs)
theorem winPre_length (W l t V m : Nat) (xs : List Int) : (winPre W l t V m xs).length = m := by simp [winPre]
theorem winPre_step (W l t V j i : Nat) (xs : List Int) (hi : i < V) : winPre W l t V (j * V + (i + 1)) xs = winPre W l t V (j * V + i) xs ++ [xs.getD ((t + j) * W + (l + i)) 0] := by
 unfold winPre
 rw [← Nat.add_assoc, List.range_succ, List.map_append]
 obtain ⟨d, m⟩ := divmod_mk V j i hi
 simp [winC, atP, d, m]
def RefTrimPost (p : Pat) (w : World) (e : Ending) (w' : World) : Prop :=
 ∃ v, e = .returned (.tuple #[.agg #[.int .i64 ((trimP p).1.W : Int), .int .i64 ((trimP p).1.H : Int), v], .int .i64 ((trimP p).2.1 : Int), .int .i64 ((trimP p).2.2 : Int)]) ∧ Tab w' v (trimP p).1.xs ∧ Fresh w v ∧ Below w.heap.size w w'
end Go.Proofs.YtemhcpldflcfbaaGreatDoor
