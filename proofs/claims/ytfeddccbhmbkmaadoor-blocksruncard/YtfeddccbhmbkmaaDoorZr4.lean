/-
  What the last text of this claim leans on, part 4: Bk3, PSpec, Pa1, Pa2, Pa3, Pa4, Pa5, Pa6, Al1, Wa1.
-/
import Derived.Test.YtfeddccbhmbkmaaDoorZr3
import Derived.Test.YtfeddccbhmbkmaaDoorZr1
namespace Go.Proofs.YtfeddccbhmbkmaaDoor
open Go.RowKit
set_option linter.unusedVariables false
/-- Where the k-th cell of the j-th block stands. -/
def plc (W H ph j k : Nat) : Nat := ((ph + 2 * (j / (W / 2)) + k / 2) % H) * W + (ph + 2 * (j % (W / 2)) + k % 2) % W
def bX (V ph x : Nat) : Nat := if x < (x + ph) % 2 then V - 1 else (x - (x + ph) % 2) / 2
theorem wrapX {V a : Nat} (hV : 0 < V) (h : a ≤ 2 * V) : a % (2 * V) = if a = 2 * V then 0 else a := by
  by_cases e : a = 2 * V
  · rw [if_pos e, e, Nat.mod_self]
  · rw [if_neg e, Nat.mod_eq_of_lt (by omega)]
theorem bX_of {V ph x : Nat} (hx : x < 2 * V) (hp : ph ≤ 1) : bX V ph x < V ∧ (ph + 2 * bX V ph x + (x + ph) % 2) % (2 * V) = x := by
  unfold bX
  by_cases h : x < (x + ph) % 2
  · rw [if_pos h, wrapX (by omega) (by omega)]
    refine ⟨by omega, ?_⟩
    rw [if_pos (by omega)]; omega
  · rw [if_neg h, wrapX (by omega) (by omega)]
    refine ⟨by omega, ?_⟩
    rw [if_neg (by omega)]; omega
theorem bX_un {V ph X d : Nat} (hX : X < V) (hd : d ≤ 1) (hp : ph ≤ 1) : (ph + 2 * X + d) % (2 * V) < 2 * V ∧ bX V ph ((ph + 2 * X + d) % (2 * V)) = X ∧ ((ph + 2 * X + d) % (2 * V) + ph) % 2 = d := by
  rw [wrapX (by omega) (by omega)]
  by_cases e : ph + 2 * X + d = 2 * V
  · rw [if_pos e]
    unfold bX
    refine ⟨by omega, ?_, by omega⟩
    rw [if_pos (by omega)]; omega
  · rw [if_neg e]
    unfold bX
    refine ⟨by omega, ?_, by omega⟩
    rw [if_neg (by omega)]; omega
def bI (W H ph i : Nat) : Nat := bX (H / 2) ph (i / W) * (W / 2) + bX (W / 2) ph (i % W)
def bK (W ph i : Nat) : Nat := (i / W + ph) % 2 * 2 + (i % W + ph) % 2
/-- A pattern with even sides. -/
structure Evn (W H V U : Nat) : Prop where
  w : W = 2 * V
  h : H = 2 * U
theorem Evn.half {W H V U : Nat} (e : Evn W H V U) : W / 2 = V ∧ H / 2 = U := by have := e.w; have := e.h; omega
theorem plc_of {W H V U ph i : Nat} (e : Evn W H V U) (hp : ph ≤ 1) (hi : i < W * H) : bI W H ph i < U * V ∧ bK W ph i < 4 ∧ plc W H ph (bI W H ph i) (bK W ph i) = i := by
  obtain ⟨e1, e2⟩ := e.half
  have W0 : 0 < W := by rcases Nat.eq_zero_or_pos W with h | h; · rw [h] at hi; simp at hi
                        · exact h
  have hy : i / W < 2 * U := by rw [← e.h]; exact Nat.div_lt_of_lt_mul hi
  have hx : i % W < 2 * V := by rw [← e.w]; exact Nat.mod_lt _ W0
  obtain ⟨x1, x2⟩ := bX_of hx hp
  obtain ⟨y1, y2⟩ := bX_of hy hp
  unfold bI bK plc
  rw [e1, e2]
  have V0 : 0 < V := by omega
  have dv : (bX U ph (i / W) * V + bX V ph (i % W)) / V = bX U ph (i / W) := by
    rw [Nat.mul_comm, Nat.mul_add_div V0, Nat.div_eq_of_lt x1, Nat.add_zero]
  have md : (bX U ph (i / W) * V + bX V ph (i % W)) % V = bX V ph (i % W) := by
    rw [Nat.mul_comm, Nat.mul_add_mod, Nat.mod_eq_of_lt x1]
  refine ⟨?_, by omega, ?_⟩
  · have := Nat.mul_le_mul_right V (show bX U ph (i / W) + 1 ≤ U from y1)
    rw [Nat.add_mul] at this
    omega
  · rw [dv, md, show ((i / W + ph) % 2 * 2 + (i % W + ph) % 2) / 2 = (i / W + ph) % 2 by omega, show ((i / W + ph) % 2 * 2 + (i % W + ph) % 2) % 2 = (i % W + ph) % 2 by omega]
    have a1 : (ph + 2 * bX U ph (i / W) + (i / W + ph) % 2) % H = i / W := by rw [e.h]; exact y2
    have a2 : (ph + 2 * bX V ph (i % W) + (i % W + ph) % 2) % W = i % W := by rw [e.w]; rw [e.w] at x2; exact x2
    rw [a1, a2, Nat.mul_comm]
    exact Nat.div_add_mod i W
theorem jdm {V U j : Nat} (hj : j < U * V) : j / V < U ∧ j % V < V := by
  have V0 : 0 < V := by rcases Nat.eq_zero_or_pos V with h | h; · rw [h] at hj; simp at hj
                        · exact h
  exact ⟨Nat.div_lt_of_lt_mul (by rw [Nat.mul_comm]; exact hj), Nat.mod_lt _ V0⟩
theorem of_plc {W H V U ph j k : Nat} (e : Evn W H V U) (hp : ph ≤ 1) (hj : j < U * V) (hk : k < 4) : plc W H ph j k < W * H ∧ bI W H ph (plc W H ph j k) = j ∧ bK W ph (plc W H ph j k) = k := by
  obtain ⟨e1, e2⟩ := e.half
  obtain ⟨j1, j2⟩ := jdm hj
  obtain ⟨y0, y1, y2⟩ := bX_un (d := k / 2) j1 (by omega) hp
  obtain ⟨x0, x1, x2⟩ := bX_un (d := k % 2) j2 (by omega) hp
  unfold plc
  rw [e1]
  rw [← e.h] at y0 y1 y2
  rw [← e.w] at x0 x1 x2
  have dv : ((ph + 2 * (j / V) + k / 2) % H * W + (ph + 2 * (j % V) + k % 2) % W) / W = (ph + 2 * (j / V) + k / 2) % H := by
    rw [Nat.mul_comm, Nat.mul_add_div (by omega), Nat.div_eq_of_lt x0, Nat.add_zero]
  have md : ((ph + 2 * (j / V) + k / 2) % H * W + (ph + 2 * (j % V) + k % 2) % W) % W = (ph + 2 * (j % V) + k % 2) % W := by
    rw [Nat.mul_comm, Nat.mul_add_mod, Nat.mod_eq_of_lt x0]
  refine ⟨?_, ?_, ?_⟩
  · have := Nat.mul_le_mul_right W (show (ph + 2 * (j / V) + k / 2) % H + 1 ≤ H from y0)
    rw [Nat.add_mul, Nat.mul_comm H W] at this
    omega
  · unfold bI
    rw [dv, md, e1, e2, y1, x1, Nat.mul_comm]
    exact Nat.div_add_mod j V
  · unfold bK
    rw [dv, md, y2, x2]
    omega
/-- The number of a block, and what becomes of a cell. -/
def nbB (f : Nat → Nat) (W H ph j : Nat) : Nat := f (plc W H ph j 0) + 2 * f (plc W H ph j 1) + 4 * f (plc W H ph j 2) + 8 * f (plc W H ph j 3)
def newB (tv : Nat → Nat) (W H ph : Nat) (f : Nat → Nat) (i : Nat) : Nat := dg (tv (nbB f W H ph (bI W H ph i))) (bK W ph i)
/-- When j blocks and m cells of the next one are done. -/
def parB (tv : Nat → Nat) (W H ph : Nat) (f : Nat → Nat) (j m i : Nat) : Nat := if bI W H ph i < j ∨ (bI W H ph i = j ∧ bK W ph i < m) then newB tv W H ph f i else f i
theorem dg_le (n k : Nat) : dg n k ≤ 1 := by unfold dg; omega
theorem par_le {tv : Nat → Nat} {W H ph : Nat} {f : Nat → Nat} (hf : ∀ i, f i ≤ 1) (j m i : Nat) : parB tv W H ph f j m i ≤ 1 := by
  unfold parB newB
  split
  · exact dg_le _ _
  · exact hf i
theorem par_read {W H V U ph j k : Nat} (e : Evn W H V U) (hp : ph ≤ 1) (hj : j < U * V) (hk : k < 4) (tv f : Nat → Nat) : parB tv W H ph f j 0 (plc W H ph j k) = f (plc W H ph j k) := by
  obtain ⟨-, a, -⟩ := of_plc e hp hj hk
  unfold parB
  rw [a, if_neg (by omega)]
theorem par_set {W H V U ph j m : Nat} (e : Evn W H V U) (hp : ph ≤ 1) (hj : j < U * V) (hm : m < 4) (tv f : Nat → Nat) (i : Nat) (hi : i < W * H) :
    (if i = plc W H ph j m then dg (tv (nbB f W H ph j)) m else parB tv W H ph f j m i) = parB tv W H ph f j (m + 1) i := by
  obtain ⟨-, a, b⟩ := of_plc e hp hj hm
  by_cases h : i = plc W H ph j m
  · rw [if_pos h]
    unfold parB newB
    rw [h, a, b, if_pos (by omega)]
  · rw [if_neg h]
    have nb : ¬ (bI W H ph i = j ∧ bK W ph i = m) := fun ⟨h1, h2⟩ => h (by
      have := (plc_of e hp hi).2.2
      rw [h1, h2] at this
      exact this.symm)
    unfold parB
    by_cases q : bI W H ph i < j ∨ (bI W H ph i = j ∧ bK W ph i < m)
    · rw [if_pos q, if_pos (by omega)]
    · rw [if_neg q, if_neg (by omega)]
theorem par_next {W H V U ph j : Nat} (e : Evn W H V U) (hp : ph ≤ 1) (tv f : Nat → Nat) (i : Nat) (hi : i < W * H) : parB tv W H ph f j 4 i = parB tv W H ph f (j + 1) 0 i := by
  have := (plc_of e hp hi).2.1
  unfold parB
  by_cases q : bI W H ph i < j + 1
  · rw [if_pos (by omega), if_pos (by omega)]
  · rw [if_neg (by omega), if_neg (by omega)]
theorem par_start (tv : Nat → Nat) (W H ph : Nat) (f : Nat → Nat) (i : Nat) : parB tv W H ph f 0 0 i = f i := by unfold parB; rw [if_neg (by omega)]
theorem par_end {W H V U ph : Nat} (e : Evn W H V U) (hp : ph ≤ 1) (tv f : Nat → Nat) (i : Nat) (hi : i < W * H) : parB tv W H ph f (U * V) 0 i = newB tv W H ph f i := by
  have := (plc_of e hp hi).1
  unfold parB; rw [if_pos (by omega)]
end Go.Proofs.YtfeddccbhmbkmaaDoor

namespace Go.Proofs.YtfeddccbhmbkmaaDoor

def blankAt (s : ByteArray) (i : Nat) : Bool := decide (i < s.size) && (decide (bt s i = 32) || decide (bt s i = 10))
/-- Behind the blanks and bytes 10 from i on. -/
def skF (s : ByteArray) : Nat → Nat → Nat
  | 0, i => i
  | f + 1, i => if blankAt s i then skF s f (i + 1) else i
def sk (s : ByteArray) (i : Nat) : Nat := skF s (s.size - i) i

/-- These bytes stand from i on: behind them; or where they don't. -/
def wordF (s : ByteArray) : List Nat → Nat → Nat ⊕ Nat
  | [], i => .inl i
  | c :: cs, i => if i < s.size ∧ bt s i = c then wordF s cs (i + 1) else .inr i

/-- Is what stands at i a number of at most six digits without a needless 0? -/
def numSix (s : ByteArray) (i : Nat) : Bool :=
  decide (i < (num s i).2) && !(decide (1 < (num s i).2 - i) && decide (bt s i = 48)) && decide ((num s i).2 - i ≤ 6)

def sideS (s : ByteArray) (ws : List Nat) (i : Nat) : (Nat × Nat) ⊕ (Nat × Nat) :=
  match wordF s ws i with
  | .inr j => .inr (j, 2)
  | .inl j => if !numSix s j then .inr (j, 2) else if 100 < (num s j).1 then .inr (j, 1) else .inl ((num s j).1, (num s j).2)

/-- One tag, at j: on, done, or wrong. -/
abbrev Go1 : Type := (Nat × Nat × Nat × List Int) ⊕ (List Int ⊕ (Nat × Nat))
abbrev Go1.on (i x y : Nat) (xs : List Int) : Go1 := Sum.inl (i, x, y, xs)
abbrev Go1.done (xs : List Int) : Go1 := Sum.inr (Sum.inl xs)
abbrev Go1.bad (a e : Nat) : Go1 := Sum.inr (Sum.inr (a, e))

end Go.Proofs.YtfeddccbhmbkmaaDoor

namespace Go.Proofs.YtfeddccbhmbkmaaDoor
open Go.RowKit
set_option linter.unusedVariables false

/-- What the reader holds, its text aside. -/
structure Rv where
  i : Nat
  fl : Int
  wd : Int
  hi : Int
  cs : Value
  rt : Int
  dn : Int
  bg : Int
  tm : Int

def Rv.val (r : Rv) (s : ByteArray) : Nat → Value
  | 0 => .string s
  | 1 => .int .i64 (r.i : Int)
  | 2 => .int .i64 r.fl
  | 3 => .int .i64 r.wd
  | 4 => .int .i64 r.hi
  | 5 => r.cs
  | 6 => .int .i64 r.rt
  | 7 => .int .i64 r.dn
  | 8 => .int .i64 r.bg
  | 9 => .int .i64 r.tm
  | _ => .bool false

structure RAt (b : Nat) (s : ByteArray) (r : Rv) (w : World) : Prop where
  cell : ∀ k, k < 10 → w.cell? ⟨b, k, none⟩ = some (r.val s k)
  fz : ∀ k, k < 10 → w.frozen? ⟨b, k, none⟩ = false

theorem RAt.lt {b : Nat} {s : ByteArray} {r : Rv} {w : World} (h : RAt b s r w) : b < w.heap.size := by
  rcases Nat.lt_or_ge b w.heap.size with k | k
  · exact k
  · have := h.cell 0 (by omega); simp [World.cell?, Array.getElem?_eq_none k] at this
theorem RAt.block {b : Nat} {s : ByteArray} {r : Rv} {w w' : World} (h : RAt b s r w) (e : w'.heap[b]? = w.heap[b]?) : RAt b s r w' :=
  ⟨fun k hk => (World.cell?_of_block (w := w) (a := ⟨b, k, none⟩) e).trans (h.cell k hk), fun k hk => (World.frozen?_of_block (w := w) (a := ⟨b, k, none⟩) e).trans (h.fz k hk)⟩
theorem RAt.drewN {b : Nat} {s : ByteArray} {r : Rv} {w : World} (h : RAt b s r w) (n : Nat) : RAt b s r (w.drewN n) := h.block rfl
theorem RAt.alloc {b : Nat} {s : ByteArray} {r : Rv} {w : World} (h : RAt b s r w) (o : Obj) : RAt b s r (w.alloc o) := h.block (Below.heap_alloc _ _ _ h.lt)
theorem RAt.below {b : Nat} {s : ByteArray} {r : Rv} {w w' : World} (h : RAt b s r w) (hb : Below w.heap.size w w') : RAt b s r w' := h.block (hb.block b h.lt)
theorem RAt.set {b : Nat} {s : ByteArray} {r r' : Rv} {w : World} (h : RAt b s r w) (k : Nat) (u : Value) (hk : k < 10) (h1 : r'.val s k = u) (h2 : ∀ j, j < 10 → j ≠ k → r'.val s j = r.val s j) : RAt b s r' (w.setCell ⟨b, k, none⟩ u) := by
  refine ⟨fun j hj => ?_, fun j hj => by rw [World.frozen?_setCell]; exact h.fz j hj⟩
  by_cases e : j = k
  · subst e; rw [h1]; exact World.cell?_setCell_same (w := w) (a := ⟨b, j, none⟩) (v := _) (h := h.cell j hj)
  · rw [h2 j hj e]; exact (World.cell?_setCell_other (w := w) (a := ⟨b, k, none⟩) (b := ⟨b, j, none⟩) (v := _) (h := fun q => e (congrArg Addr.off q).symm)).trans (h.cell j hj)

/-- What a method of the reader leaves: the reader so, and nothing else turned. -/
def Left (b : Nat) (s : ByteArray) (r : Rv) (w w' : World) : Prop := RAt b s r w' ∧ Rd b w w'
end Go.Proofs.YtfeddccbhmbkmaaDoor

namespace Go.Proofs.YtfeddccbhmbkmaaDoor
open Go.RowKit
set_option linter.unusedVariables false

end Go.Proofs.YtfeddccbhmbkmaaDoor

namespace Go.Proofs.YtfeddccbhmbkmaaDoor
open Go.RowKit
set_option linter.unusedVariables false

end Go.Proofs.YtfeddccbhmbkmaaDoor

namespace Go.Proofs.YtfeddccbhmbkmaaDoor
open Go.RowKit
set_option linter.unusedVariables false

end Go.Proofs.YtfeddccbhmbkmaaDoor

namespace Go.Proofs.YtfeddccbhmbkmaaDoor
open Go.RowKit
set_option linter.unusedVariables false

end Go.Proofs.YtfeddccbhmbkmaaDoor

namespace Go.Proofs.YtfeddccbhmbkmaaDoor
open Go.RowKit
set_option linter.unusedVariables false

def sideB (n : Int) : Bool := decide (0 ≤ n) && decide (n ≤ 100)
theorem pisSide (n : Int) (w : World) :
    Calls Tryd.prog 101 #[.int .i64 n] w fun e w' => e = .returned (.bool (sideB n)) ∧ w' = w := by
  by_cases h1 : 0 ≤ n
  · by_cases h2 : n ≤ 100
    · rw [show sideB n = true by unfold sideB; simp; omega]
      go_enter Tryd.func101, Tryd.ntmps101
      go_wp2
      go_ret
      exact ⟨rfl, rfl⟩
    · rw [show sideB n = false by unfold sideB; simp; omega]
      go_enter Tryd.func101, Tryd.ntmps101
      go_wp2
      go_ret
      exact ⟨rfl, rfl⟩
  · rw [show sideB n = false by unfold sideB; simp; omega]
    go_enter Tryd.func101, Tryd.ntmps101
    go_wp2
    go_ret
    exact ⟨rfl, rfl⟩

/-- At block g these ints, writable. -/
structure Cel (w : World) (g : Nat) (xs : List Int) : Prop where
  lt : g < w.heap.size
  cells : ∀ k, k < xs.length → w.cell? ⟨g, k, none⟩ = some (.int .i64 (xs.getD k 0))
  fz : ∀ k, w.frozen? ⟨g, k, none⟩ = false
theorem Cel.block {w w' : World} {g : Nat} {xs : List Int} (h : Cel w g xs) (hs : w.heap.size ≤ w'.heap.size) (e : w'.heap[g]? = w.heap[g]?) : Cel w' g xs :=
  ⟨Nat.lt_of_lt_of_le h.lt hs, fun k hk => (World.cell?_of_block (w := w) (a := ⟨g, k, none⟩) e).trans (h.cells k hk), fun k => (World.frozen?_of_block (w := w) (a := ⟨g, k, none⟩) e).trans (h.fz k)⟩
theorem Cel.rd {w w' : World} {g b : Nat} {xs : List Int} (h : Cel w g xs) (hr : Rd b w w') (hb : g ≠ b) : Cel w' g xs := h.block hr.size (hr.block g h.lt hb)
theorem Cel.below {w w' : World} {g : Nat} {xs : List Int} (h : Cel w g xs) (hb : Below w.heap.size w w') : Cel w' g xs := h.block hb.size (hb.block g h.lt)
theorem Cel.set {w : World} {g : Nat} {xs : List Int} (h : Cel w g xs) (p : Nat) (x : Int) (hp : p < xs.length) : Cel (w.setCell ⟨g, p, none⟩ (.int .i64 x)) g (xs.set p x) := by
  refine ⟨by rw [World.size_setCell]; exact h.lt, fun k hk => ?_, fun k => by rw [World.frozen?_setCell]; exact h.fz k⟩
  rw [List.length_set] at hk
  by_cases e : k = p
  · subst e
    rw [show (xs.set k x).getD k 0 = x by simp [List.getD, hk]]
    exact World.cell?_setCell_same (w := w) (a := ⟨g, k, none⟩) (v := _) (h := h.cells k hk)
  · rw [show (xs.set p x).getD k 0 = xs.getD k 0 by simp [List.getD, Ne.symm e]]
    exact (World.cell?_setCell_other (w := w) (a := ⟨g, p, none⟩) (b := ⟨g, k, none⟩) (v := _) (h := fun q => e (congrArg Addr.off q).symm)).trans (h.cells k hk)

end Go.Proofs.YtfeddccbhmbkmaaDoor

namespace Go.Proofs.YtfeddccbhmbkmaaDoor
open Go.RowKit
set_option linter.unusedVariables false

theorem Cel.tab {w : World} {g n : Nat} {xs : List Int} (h : Cel w g xs) (hn : xs.length = n) : Tab w (.slice (some ⟨g, 0, none⟩) n n) xs := by
  subst hn
  exact Or.inr ⟨g, xs.length, rfl, h.lt, fun k hk => by rw [h.cells k hk]; simp [List.getD, hk]⟩

end Go.Proofs.YtfeddccbhmbkmaaDoor

namespace Go.Proofs.YtfeddccbhmbkmaaDoor
open Go.RowKit
set_option linter.unusedVariables false

/-- A pattern that came in, as a value: its cells anywhere. -/
structure ArgP (w : World) (xs : List Int) (a : Option Addr) (n c : Nat) : Prop where
  len : n = xs.length
  max : n ≤ maxLen
  cells : ∀ k (h : k < xs.length), ∃ g off, a = some ⟨g, off, none⟩ ∧ g < w.heap.size ∧ w.cell? ⟨g, off + k, none⟩ = some (.int .i64 xs[k])
theorem ArgP.below {w w' : World} {xs : List Int} {a : Option Addr} {n c : Nat} (h : ArgP w xs a n c) (hb : Below w.heap.size w w') : ArgP w' xs a n c :=
  ⟨h.len, h.max, fun k hk => by
    obtain ⟨g, off, e, hg, hc⟩ := h.cells k hk
    exact ⟨g, off, e, Nat.lt_of_lt_of_le hg hb.size, (World.cell?_of_block (w := w) (a := ⟨g, off + k, none⟩) (hb.block g hg)).trans hc⟩⟩
theorem ArgP.alloc {w : World} {xs : List Int} {a : Option Addr} {n c : Nat} (h : ArgP w xs a n c) (x : Obj) : ArgP (w.alloc x) xs a n c :=
  h.below ((Below.refl _ _).alloc (Nat.le_refl _) _)

def cellB (x : Int) : Bool := decide (x = 0) || decide (x = 1)
def shapeF (W H : Int) (xs : List Int) : Nat :=
  if sideB W && sideB H then (if (xs.length : Int) = W * H then (if xs.all cellB then 0 else 1) else 3) else 1

def errOf (f : Nat) : Value := if f = 0 then .nilIface else .iface 83 (.int .i64 (f : Int))

theorem side_nat {W : Int} (h : sideB W = true) : ∃ n : Nat, W = (n : Int) ∧ n ≤ 100 := by
  unfold sideB at h
  simp at h
  exact ⟨W.toNat, by omega, by omega⟩
theorem side_no {W : Int} (h : sideB W = false) : W < 0 ∨ 100 < W := by
  unfold sideB at h
  simp at h
  omega
theorem all_bad {xs : List Int} {k : Nat} (hk : k < xs.length) (h : cellB xs[k] = false) : xs.all cellB = false := by
  cases q : xs.all cellB with
  | false => rfl
  | true => rw [List.all_eq_true.1 q _ (List.getElem_mem hk)] at h; cases h
theorem all_ok {xs : List Int} (h : ∀ k (hk : k < xs.length), cellB xs[k] = true) : xs.all cellB = true := by
  rw [List.all_eq_true]
  intro x hx
  obtain ⟨k, hk, rfl⟩ := List.getElem_of_mem hx
  exact h k hk
theorem cellB_iff (x : Int) : cellB x = true ↔ x = 0 ∨ x = 1 := by simp [cellB]

set_option maxHeartbeats 1600000 in
theorem Check_P (W H : Int) (xs : List Int) (a : Option Addr) (n c : Nat) (w : World) (hP : ArgP w xs a n c) :
    Calls Tryd.prog 57 #[.agg #[.int .i64 W, .int .i64 H, .slice a n c]] w fun e w' => e = .returned (errOf (shapeF W H xs)) ∧ Below w.heap.size w w' := by
  have HP := hide' (hP.alloc (.cells #[.int .i64 W, .int .i64 H, .slice a n c] 26))
  have hlen := hP.len
  have hmax := hP.max
  have HL := hide' hlen
  unfold maxLen at hmax
  clear hP hlen
  cases s1 : sideB W with
  | false =>
    have F := hide' (show errOf (shapeF W H xs) = .iface 83 (.int .i64 1) by unfold shapeF; rw [s1]; rfl)
    go_enter Tryd.func57, Tryd.ntmps57
    go_wp2_with fail
    refine (pisSide W _).mono ?_
    rw [s1]
    rintro e w1 ⟨rfl, rfl⟩
    go_wp2
    go_ret
    rw [F.out]
    exact ⟨rfl, (Below.refl _ _).alloc (Nat.le_refl _) _⟩
  | true =>
    cases s2 : sideB H with
    | false =>
      have F := hide' (show errOf (shapeF W H xs) = .iface 83 (.int .i64 1) by unfold shapeF; rw [s1, s2]; rfl)
      go_enter Tryd.func57, Tryd.ntmps57
      go_wp2_with fail
      refine (pisSide W _).mono ?_
      rw [s1]
      rintro e w1 ⟨rfl, rfl⟩
      go_wp2_with fail
      refine (pisSide H _).mono ?_
      rw [s2]
      rintro e w1 ⟨rfl, rfl⟩
      go_wp2
      go_ret
      rw [F.out]
      exact ⟨rfl, (Below.refl _ _).alloc (Nat.le_refl _) _⟩
    | true =>
      obtain ⟨Wn, rfl, lW⟩ := side_nat s1
      obtain ⟨Hn, rfl, lH⟩ := side_nat s2
      obtain ⟨N, hN⟩ : ∃ N, Wn * Hn = N := ⟨_, rfl⟩
      have hNi : (Wn : Int) * (Hn : Int) = (N : Int) := by rw [← hN]; simp
      have hN4 : N ≤ 10000 := by rw [← hN]; exact Nat.mul_le_mul lW lH
      by_cases q : n = N
      · have m1 : ((n : Int) != (N : Int)) = false := by simp; omega
        have FO := hide' (fun (h : xs.all cellB = true) => show errOf (shapeF Wn Hn xs) = .nilIface by unfold shapeF; rw [s1, s2, if_pos (show (true && true) = true from rfl), if_pos (by rw [hNi, ← HL.out, q]), if_pos h]; rfl)
        have FN := hide' (fun (h : xs.all cellB = false) => show errOf (shapeF Wn Hn xs) = .iface 83 (.int .i64 1) by unfold shapeF; rw [s1, s2, if_pos (show (true && true) = true from rfl), if_pos (by rw [hNi, ← HL.out, q]), if_neg (by rw [h]; simp)]; rfl)
        clear q hN
        go_enter Tryd.func57, Tryd.ntmps57
        go_wp2_with fail
        refine (pisSide _ _).mono ?_
        rw [s1]
        rintro e w1 ⟨rfl, rfl⟩
        go_wp2_with fail
        refine (pisSide _ _).mono ?_
        rw [s2]
        rintro e w1 ⟨rfl, rfl⟩
        go_wp2
        go_loop [29] (fun kv => ∃ k : Nat, kv = .int .i64 (k : Int) ∧ k ≤ n ∧ ∀ j (h : j < xs.length), j < k → cellB xs[j] = true) (fun kv => n - (intOf kv).toNat)
        case atStart => exact ⟨0, rfl, by omega, fun j h hj => by omega⟩
        case round =>
          obtain ⟨k, rfl, hk, hall⟩ := hrel
          have HA := hide' hall
          clear hall
          by_cases d : (k : Int) < (n : Int)
          · have hkl : k < xs.length := by have := HL.out; omega
            obtain ⟨g, off, rfl, hg, hc⟩ := HP.out.cells k hkl
            obtain ⟨x, hx⟩ : ∃ x, xs[k] = x := ⟨_, rfl⟩
            rw [hx] at hc
            have HX := hide' hx
            clear hx
            by_cases x0 : x = 0
            · have m2 : (x != 0) = false := by simp [x0]
              have X := hide' x0
              clear x0
              go_wp2
              refine ⟨⟨k + 1, by go_num, by omega, fun j h hj => ?_⟩, by simp [intOf]; omega⟩
              by_cases e : j = k
              · subst e; rw [HX.out, X.out]; rfl
              · exact HA.out j h (by omega)
            · have m2 : (x != 0) = true := by simp [x0]
              by_cases x1 : x = 1
              · have m3 : (x != 1) = false := by simp [x1]
                have X := hide' x1
                clear x0 x1
                go_wp2
                refine ⟨⟨k + 1, by go_num, by omega, fun j h hj => ?_⟩, by simp [intOf]; omega⟩
                by_cases e : j = k
                · subst e; rw [HX.out, X.out]; rfl
                · exact HA.out j h (by omega)
              · have m3 : (x != 1) = true := by simp [x1]
                have X := hide' (show cellB x = false by unfold cellB; simp [x0, x1])
                clear x0 x1
                go_wp2
                go_ret
                rw [FN.out (all_bad hkl (by rw [HX.out]; exact X.out))]
                exact ⟨rfl, (Below.refl _ _).alloc (Nat.le_refl _) _⟩
          · go_wp2
            go_ret
            rw [FO.out (all_ok fun j hj => HA.out j hj (by have := HL.out; omega))]
            exact ⟨rfl, (Below.refl _ _).alloc (Nat.le_refl _) _⟩
      · have m1 : ((n : Int) != (N : Int)) = true := by simp; omega
        have F := hide' (show errOf (shapeF Wn Hn xs) = .iface 83 (.int .i64 3) by unfold shapeF; rw [s1, s2, if_pos (show (true && true) = true from rfl), if_neg (by rw [hNi, ← HL.out]; omega)]; rfl)
        clear q hN
        go_enter Tryd.func57, Tryd.ntmps57
        go_wp2_with fail
        refine (pisSide _ _).mono ?_
        rw [s1]
        rintro e w1 ⟨rfl, rfl⟩
        go_wp2_with fail
        refine (pisSide _ _).mono ?_
        rw [s2]
        rintro e w1 ⟨rfl, rfl⟩
        go_wp2
        go_ret
        rw [F.out]
        exact ⟨rfl, (Below.refl _ _).alloc (Nat.le_refl _) _⟩
end Go.Proofs.YtfeddccbhmbkmaaDoor

