/-
  What the last text of this claim leans on, part 15: Bk3, Bk4, Bk5, Bk6, Gr5.
-/
import Derived.Test.YtlpdobfjgpedaaaDoorZe14
import Derived.Test.YtlpdobfjgpedaaaDoorZe10
import Derived.OwnWalk
import Derived.Deep.DeepAppendRoom
import Derived.BigRegion
import Derived.Deep.RegionHeld3
namespace Go.Proofs.YtlpdobfjgpedaaaDoor
open Go.RowKit
set_option linter.unusedVariables false
/-- Where the k-th cell of the j-th block stands. -/
def plc (W H ph j k : Nat) : Nat := ((ph + 2 * (j / (W / 2)) + k / 2) % H) * W + (ph + 2 * (j % (W / 2)) + k % 2) % W
def bX (V ph x : Nat) : Nat := if x < (x + ph) % 2 then V - 1 else (x - (x + ph) % 2) / 2
theorem wrapX {V a : Nat} (hV : 0 < V) (h : a ≤ 2 * V) : a % (2 * V) = if a = 2 * V then 0 else a := by
  by_cases e : a = 2 * V
  · rw [if_pos e, e, Nat.mod_self]
  · rw [if_neg e, Nat.mod_eq_of_lt (by omega)]
theorem bX_of {V ph x : Nat} (hx : x < 2 * V) (hp : ph ≤ 1) : bX V ph x < V ∧ (ph + 2 * bX V ph x + (x + ph) % 2) % (2 * V) = x := by
  unfold bX
  by_cases h : x < (x + ph) % 2
  · rw [if_pos h, wrapX (by omega) (by omega)]
    refine ⟨by omega, ?_⟩
    rw [if_pos (by omega)]; omega
  · rw [if_neg h, wrapX (by omega) (by omega)]
    refine ⟨by omega, ?_⟩
    rw [if_neg (by omega)]; omega
theorem bX_un {V ph X d : Nat} (hX : X < V) (hd : d ≤ 1) (hp : ph ≤ 1) : (ph + 2 * X + d) % (2 * V) < 2 * V ∧ bX V ph ((ph + 2 * X + d) % (2 * V)) = X ∧ ((ph + 2 * X + d) % (2 * V) + ph) % 2 = d := by
  rw [wrapX (by omega) (by omega)]
  by_cases e : ph + 2 * X + d = 2 * V
  · rw [if_pos e]
    unfold bX
    refine ⟨by omega, ?_, by omega⟩
    rw [if_pos (by omega)]; omega
  · rw [if_neg e]
    unfold bX
    refine ⟨by omega, ?_, by omega⟩
    rw [if_neg (by omega)]; omega
def bI (W H ph i : Nat) : Nat := bX (H / 2) ph (i / W) * (W / 2) + bX (W / 2) ph (i % W)
def bK (W ph i : Nat) : Nat := (i / W + ph) % 2 * 2 + (i % W + ph) % 2
/-- A pattern with even sides. -/
structure Evn (W H V U : Nat) : Prop where
  w : W = 2 * V
  h : H = 2 * U
theorem Evn.half {W H V U : Nat} (e : Evn W H V U) : W / 2 = V ∧ H / 2 = U := by have := e.w; have := e.h; omega
theorem plc_of {W H V U ph i : Nat} (e : Evn W H V U) (hp : ph ≤ 1) (hi : i < W * H) : bI W H ph i < U * V ∧ bK W ph i < 4 ∧ plc W H ph (bI W H ph i) (bK W ph i) = i := by
  obtain ⟨e1, e2⟩ := e.half
  have W0 : 0 < W := by rcases Nat.eq_zero_or_pos W with h | h; · rw [h] at hi; simp at hi
                        · exact h
  have hy : i / W < 2 * U := by rw [← e.h]; exact Nat.div_lt_of_lt_mul hi
  have hx : i % W < 2 * V := by rw [← e.w]; exact Nat.mod_lt _ W0
  obtain ⟨x1, x2⟩ := bX_of hx hp
  obtain ⟨y1, y2⟩ := bX_of hy hp
  unfold bI bK plc
  rw [e1, e2]
  have V0 : 0 < V := by omega
  have dv : (bX U ph (i / W) * V + bX V ph (i % W)) / V = bX U ph (i / W) := by
    rw [Nat.mul_comm, Nat.mul_add_div V0, Nat.div_eq_of_lt x1, Nat.add_zero]
  have md : (bX U ph (i / W) * V + bX V ph (i % W)) % V = bX V ph (i % W) := by
    rw [Nat.mul_comm, Nat.mul_add_mod, Nat.mod_eq_of_lt x1]
  refine ⟨?_, by omega, ?_⟩
  · have := Nat.mul_le_mul_right V (show bX U ph (i / W) + 1 ≤ U from y1)
    rw [Nat.add_mul] at this
    omega
  · rw [dv, md, show ((i / W + ph) % 2 * 2 + (i % W + ph) % 2) / 2 = (i / W + ph) % 2 by omega, show ((i / W + ph) % 2 * 2 + (i % W + ph) % 2) % 2 = (i % W + ph) % 2 by omega]
    have a1 : (ph + 2 * bX U ph (i / W) + (i / W + ph) % 2) % H = i / W := by rw [e.h]; exact y2
    have a2 : (ph + 2 * bX V ph (i % W) + (i % W + ph) % 2) % W = i % W := by rw [e.w]; rw [e.w] at x2; exact x2
    rw [a1, a2, Nat.mul_comm]
    exact Nat.div_add_mod i W
theorem jdm {V U j : Nat} (hj : j < U * V) : j / V < U ∧ j % V < V := by
  have V0 : 0 < V := by rcases Nat.eq_zero_or_pos V with h | h; · rw [h] at hj; simp at hj
                        · exact h
  exact ⟨Nat.div_lt_of_lt_mul (by rw [Nat.mul_comm]; exact hj), Nat.mod_lt _ V0⟩
theorem of_plc {W H V U ph j k : Nat} (e : Evn W H V U) (hp : ph ≤ 1) (hj : j < U * V) (hk : k < 4) : plc W H ph j k < W * H ∧ bI W H ph (plc W H ph j k) = j ∧ bK W ph (plc W H ph j k) = k := by
  obtain ⟨e1, e2⟩ := e.half
  obtain ⟨j1, j2⟩ := jdm hj
  obtain ⟨y0, y1, y2⟩ := bX_un (d := k / 2) j1 (by omega) hp
  obtain ⟨x0, x1, x2⟩ := bX_un (d := k % 2) j2 (by omega) hp
  unfold plc
  rw [e1]
  rw [← e.h] at y0 y1 y2
  rw [← e.w] at x0 x1 x2
  have dv : ((ph + 2 * (j / V) + k / 2) % H * W + (ph + 2 * (j % V) + k % 2) % W) / W = (ph + 2 * (j / V) + k / 2) % H := by
    rw [Nat.mul_comm, Nat.mul_add_div (by omega), Nat.div_eq_of_lt x0, Nat.add_zero]
  have md : ((ph + 2 * (j / V) + k / 2) % H * W + (ph + 2 * (j % V) + k % 2) % W) % W = (ph + 2 * (j % V) + k % 2) % W := by
    rw [Nat.mul_comm, Nat.mul_add_mod, Nat.mod_eq_of_lt x0]
  refine ⟨?_, ?_, ?_⟩
  · have := Nat.mul_le_mul_right W (show (ph + 2 * (j / V) + k / 2) % H + 1 ≤ H from y0)
    rw [Nat.add_mul, Nat.mul_comm H W] at this
    omega
  · unfold bI
    rw [dv, md, e1, e2, y1, x1, Nat.mul_comm]
    exact Nat.div_add_mod j V
  · unfold bK
    rw [dv, md, y2, x2]
    omega
/-- The number of a block, and what becomes of a cell. -/
def nbB (f : Nat → Nat) (W H ph j : Nat) : Nat := f (plc W H ph j 0) + 2 * f (plc W H ph j 1) + 4 * f (plc W H ph j 2) + 8 * f (plc W H ph j 3)
def newB (tv : Nat → Nat) (W H ph : Nat) (f : Nat → Nat) (i : Nat) : Nat := dg (tv (nbB f W H ph (bI W H ph i))) (bK W ph i)
/-- When j blocks and m cells of the next one are done. -/
def parB (tv : Nat → Nat) (W H ph : Nat) (f : Nat → Nat) (j m i : Nat) : Nat := if bI W H ph i < j ∨ (bI W H ph i = j ∧ bK W ph i < m) then newB tv W H ph f i else f i
theorem dg_le (n k : Nat) : dg n k ≤ 1 := by unfold dg; omega
theorem par_le {tv : Nat → Nat} {W H ph : Nat} {f : Nat → Nat} (hf : ∀ i, f i ≤ 1) (j m i : Nat) : parB tv W H ph f j m i ≤ 1 := by
  unfold parB newB
  split
  · exact dg_le _ _
  · exact hf i
theorem par_read {W H V U ph j k : Nat} (e : Evn W H V U) (hp : ph ≤ 1) (hj : j < U * V) (hk : k < 4) (tv f : Nat → Nat) : parB tv W H ph f j 0 (plc W H ph j k) = f (plc W H ph j k) := by
  obtain ⟨-, a, -⟩ := of_plc e hp hj hk
  unfold parB
  rw [a, if_neg (by omega)]
theorem par_set {W H V U ph j m : Nat} (e : Evn W H V U) (hp : ph ≤ 1) (hj : j < U * V) (hm : m < 4) (tv f : Nat → Nat) (i : Nat) (hi : i < W * H) :
    (if i = plc W H ph j m then dg (tv (nbB f W H ph j)) m else parB tv W H ph f j m i) = parB tv W H ph f j (m + 1) i := by
  obtain ⟨-, a, b⟩ := of_plc e hp hj hm
  by_cases h : i = plc W H ph j m
  · rw [if_pos h]
    unfold parB newB
    rw [h, a, b, if_pos (by omega)]
  · rw [if_neg h]
    have nb : ¬ (bI W H ph i = j ∧ bK W ph i = m) := fun ⟨h1, h2⟩ => h (by
      have := (plc_of e hp hi).2.2
      rw [h1, h2] at this
      exact this.symm)
    unfold parB
    by_cases q : bI W H ph i < j ∨ (bI W H ph i = j ∧ bK W ph i < m)
    · rw [if_pos q, if_pos (by omega)]
    · rw [if_neg q, if_neg (by omega)]
theorem par_next {W H V U ph j : Nat} (e : Evn W H V U) (hp : ph ≤ 1) (tv f : Nat → Nat) (i : Nat) (hi : i < W * H) : parB tv W H ph f j 4 i = parB tv W H ph f (j + 1) 0 i := by
  have := (plc_of e hp hi).2.1
  unfold parB
  by_cases q : bI W H ph i < j + 1
  · rw [if_pos (by omega), if_pos (by omega)]
  · rw [if_neg (by omega), if_neg (by omega)]
theorem par_start (tv : Nat → Nat) (W H ph : Nat) (f : Nat → Nat) (i : Nat) : parB tv W H ph f 0 0 i = f i := by unfold parB; rw [if_neg (by omega)]
theorem par_end {W H V U ph : Nat} (e : Evn W H V U) (hp : ph ≤ 1) (tv f : Nat → Nat) (i : Nat) (hi : i < W * H) : parB tv W H ph f (U * V) 0 i = newB tv W H ph f i := by
  have := (plc_of e hp hi).1
  unfold parB; rw [if_pos (by omega)]
end Go.Proofs.YtlpdobfjgpedaaaDoor

namespace Go.Proofs.YtlpdobfjgpedaaaDoor
open Go.RowKit
set_option linter.unusedVariables false
/-- Where the cells of all blocks stand, one behind another. -/
def stG (W H ph k : Nat) : Value := .int .i64 ((plc W H ph (k / 4) (k % 4) : Nat) : Int)
def stL (W H ph m : Nat) : List Value := (List.range (m * 4)).map (stG W H ph)
theorem stL_next (W H ph m : Nat) : stL W H ph m ++ [.int .i64 ((plc W H ph m 0 : Nat) : Int), .int .i64 ((plc W H ph m 1 : Nat) : Int), .int .i64 ((plc W H ph m 2 : Nat) : Int), .int .i64 ((plc W H ph m 3 : Nat) : Int)] = stL W H ph (m + 1) := by
  unfold stL
  rw [show (m + 1) * 4 = m * 4 + 1 + 1 + 1 + 1 by omega, List.range_succ, List.range_succ, List.range_succ, List.range_succ]
  simp only [List.map_append, List.map_cons, List.map_nil, List.append_assoc, List.cons_append, List.nil_append]
  unfold stG
  rw [show (m * 4) / 4 = m by omega, show (m * 4) % 4 = 0 by omega, show (m * 4 + 1) / 4 = m by omega, show (m * 4 + 1) % 4 = 1 by omega, show (m * 4 + 1 + 1) / 4 = m by omega, show (m * 4 + 1 + 1) % 4 = 2 by omega, show (m * 4 + 1 + 1 + 1) / 4 = m by omega, show (m * 4 + 1 + 1 + 1) % 4 = 3 by omega]
theorem cells_new4 (w : World) (x0 x1 x2 x3 : Value) (T : TypeId) : ∀ j u, [x0, x1, x2, x3][j]? = some u → (w.alloc (.cells #[x0, x1, x2, x3] T)).cell? ((⟨w.heap.size, 0, none⟩ : Addr).add j) = some u := by
  intro j u h
  have g := heap_alloc_new w (.cells #[x0, x1, x2, x3] T (0, 0))
  have : j = 0 ∨ j = 1 ∨ j = 2 ∨ j = 3 ∨ 4 ≤ j := by omega
  rcases this with rfl | rfl | rfl | rfl | h4
  · simp at h; subst h; exact cell_of_row _ _ 0 _ _ _ g
  · simp at h; subst h; exact cell_of_row _ _ 1 _ _ _ g
  · simp at h; subst h; exact cell_of_row _ _ 2 _ _ _ g
  · simp at h; subst h; exact cell_of_row _ _ 3 _ _ _ g
  · rw [List.getElem?_eq_none (by simpa using h4)] at h; cases h
theorem wrap_nB (n : Nat) (h : n ≤ 1000000) : IntKind.i64.wrap (n : Int) = (n : Int) := by simp [IntKind.wrap, IntKind.bits, IntKind.signed]; omega
end Go.Proofs.YtlpdobfjgpedaaaDoor

namespace Go.Proofs.YtlpdobfjgpedaaaDoor
open Go.RowKit
set_option linter.unusedVariables false
/-- Cells that lie at a block's head and may be written. -/
def CA (w : World) (g n : Nat) (f : Nat → Nat) : Prop := ∃ cur, w.heap[g]? = some (.cells cur 3 (0, 0)) ∧ n ≤ cur.size ∧ ∀ k, k < n → cur[k]? = some (.int .i64 (f k : Int))
theorem CA.cell {w : World} {g n : Nat} {f : Nat → Nat} (h : CA w g n f) {k : Nat} (hk : k < n) : w.cell? ⟨g, k, none⟩ = some (.int .i64 (f k : Int)) ∧ w.frozen? ⟨g, k, none⟩ = false := by
  obtain ⟨cur, h1, h2, h3⟩ := h
  exact ⟨by rw [cell_of_row w _ _ _ _ _ h1]; exact h3 k hk, frozen_of_row w _ _ _ _ h1⟩
theorem CA.set {w : World} {g n : Nat} {f : Nat → Nat} (h : CA w g n f) (i v : Nat) : CA (w.setCell ⟨g, i, none⟩ (.int .i64 (v : Int))) g n (fun k => if k = i then v else f k) := by
  obtain ⟨cur, h1, h2, h3⟩ := h
  refine ⟨cur.setIfInBounds i (.int .i64 (v : Int)), by rw [heap_setCell_same _ _ _ _ _ _ h1], by simpa using h2, fun k hk => ?_⟩
  dsimp only
  by_cases e : k = i
  · subst e
    rw [if_pos rfl, Array.getElem?_setIfInBounds_self_of_lt (by omega)]
  · rw [if_neg e, Array.getElem?_setIfInBounds_ne (by omega)]
    exact h3 k hk
theorem CA.ext {w : World} {g n : Nat} {f f' : Nat → Nat} (h : CA w g n f) (e : ∀ k, k < n → f k = f' k) : CA w g n f' := by
  obtain ⟨cur, h1, h2, h3⟩ := h
  exact ⟨cur, h1, h2, fun k hk => by rw [← e k hk]; exact h3 k hk⟩
theorem CA.block {w w' : World} {g n : Nat} {f : Nat → Nat} (h : CA w g n f) (e : w'.heap[g]? = w.heap[g]?) : CA w' g n f := by
  obtain ⟨cur, h1, h2, h3⟩ := h
  exact ⟨cur, e.trans h1, h2, h3⟩
theorem CA.lt {w : World} {g n : Nat} {f : Nat → Nat} (h : CA w g n f) : g < w.heap.size := by
  obtain ⟨cur, h1, -⟩ := h
  exact lt_of_block h1
/-- What is kept while the cells of one block of memory are written. -/
structure SP (w wr : World) (B gc n : Nat) (f : Nat → Nat) : Prop where
  keep : ∀ k, k < w.heap.size → k ≠ gc → wr.heap[k]? = w.heap[k]?
  ca : CA wr gc n f
  size : w.heap.size ≤ wr.heap.size
  below : Below B w wr
theorem SP.next {w wr w' : World} {B gc n : Nat} {f : Nat → Nat} (h : SP w wr B gc n f) (hB : B ≤ wr.heap.size) (b : Below wr.heap.size wr w') : SP w w' B gc n f :=
  ⟨fun k hk hn => (b.block k (Nat.lt_of_lt_of_le hk h.size)).trans (h.keep k hk hn), h.ca.block (b.block _ h.ca.lt), Nat.le_trans h.size b.size, h.below.trans (b.mono hB)⟩
theorem SP.set {w wr : World} {B gc n : Nat} {f : Nat → Nat} (h : SP w wr B gc n f) (hB : B ≤ gc) (i v : Nat) : SP w (wr.setCell ⟨gc, i, none⟩ (.int .i64 (v : Int))) B gc n (fun k => if k = i then v else f k) :=
  ⟨fun k hk hn => (Below.heap_setCell _ _ _ _ hn).trans (h.keep k hk hn), h.ca.set i v, by rw [World.size_setCell]; exact h.size, h.below.setCell hB _⟩
theorem SP.ext {w wr : World} {B gc n : Nat} {f f' : Nat → Nat} (h : SP w wr B gc n f) (e : ∀ k, k < n → f k = f' k) : SP w wr B gc n f' := ⟨h.keep, h.ca.ext e, h.size, h.below⟩
end Go.Proofs.YtlpdobfjgpedaaaDoor

namespace Go.Proofs.YtlpdobfjgpedaaaDoor
open Go.RowKit
set_option linter.unusedVariables false
def in16 (x : Int) : Bool := decide (0 ≤ x) && decide (x < 16)
/-- What is wrong with a table of blocks. -/
def tabE (t : List Int) : Nat := if t.length = 16 then (if t.all in16 then 0 else 1) else 3
theorem all_take_next {t : List Int} {i : Nat} (hi : i < t.length) (h : ∀ k (hk : k < t.length), k < i → in16 t[k] = true) (h1 : in16 t[i] = true) : ∀ k (hk : k < t.length), k < i + 1 → in16 t[k] = true := fun k hk hl => by
  by_cases e : k = i
  · subst e; exact h1
  · exact h k hk (by omega)
theorem tabE_bad {t : List Int} {i : Nat} (hl : t.length = 16) (hi : i < t.length) (h1 : in16 t[i] = false) : tabE t = 1 := by
  unfold tabE
  rw [if_pos hl, if_neg]
  intro h
  have := List.all_eq_true.1 h t[i] (List.getElem_mem hi)
  rw [h1] at this; cases this
theorem tabE_good {t : List Int} (hl : t.length = 16) (h : ∀ k (hk : k < t.length), k < 16 → in16 t[k] = true) : tabE t = 0 := by
  unfold tabE
  rw [if_pos hl, if_pos]
  refine List.all_eq_true.2 fun x hx => ?_
  obtain ⟨k, hk, rfl⟩ := List.getElem_of_mem hx
  exact h k hk (by omega)
/-- What is wrong where blocks are to run. -/
def runE (t : List Int) (W H : Int) (xs : List Int) (ph n : Int) : Nat := if tabE t ≠ 0 then tabE t else if shapeF W H xs ≠ 0 then shapeF W H xs else if W % 2 ≠ 0 ∨ H % 2 ≠ 0 then 3 else if ph ≠ 0 ∧ ph ≠ 1 then 1 else if n < 0 ∨ 100000 < n then 1 else 0
theorem shape_nat {W H : Int} {xs : List Int} (h : shapeF W H xs = 0) : ∃ Wn Hn : Nat, W = (Wn : Int) ∧ H = (Hn : Int) ∧ Wn ≤ 100 ∧ Hn ≤ 100 := by
  unfold shapeF at h
  split at h
  · rename_i hs
    simp only [Bool.and_eq_true] at hs
    unfold sideB at hs
    simp at hs
    exact ⟨W.toNat, H.toNat, by omega, by omega, by omega, by omega⟩
  · omega
theorem errOf_posB {f : Nat} (h : f ≠ 0) : errOf f = .iface 54 (.int .i64 (f : Int)) := by unfold errOf; rw [if_neg h]
end Go.Proofs.YtlpdobfjgpedaaaDoor

namespace Go.Proofs.YtlpdobfjgpedaaaDoor
open Go.RowKit
set_option linter.unusedVariables false
/-- What lives, as it lies: the sheet's words, then its sides and where it is. -/
def grF (X : Nat → Nat) (W H r d : Int) (k : Nat) : Value := if k < 204 then uF X k else if k = 204 then .int .i64 W else if k = 205 then .int .i64 H else if k = 206 then .int .i64 r else .int .i64 d
def bxX (X : Nat → Nat) (F f H k : Nat) : Nat := if k / 2 < H then (if k % 2 = 0 then lft0 (X ((F + k / 2) * 2)) (X ((F + k / 2) * 2 + 1)) f else lft1 (X ((F + k / 2) * 2 + 1)) f) else 0
theorem zero_grown : Tryd.zeroCells113 = arrF 208 (grF (fun _ => 0) 0 0 0 0) := by kernel_rfl
theorem zero_sheet : Tryd.zeroCells111 = arrF 204 (uF fun _ => 0) := by kernel_rfl
theorem grF_all (X : Nat → Nat) (W H r d : Int) : (arrF 208 (grF X W H r d)).all (·.oneCell') = true := arrF_all _ _ (fun k _ => by
  unfold grF uF
  split
  · rfl
  · split
    · rfl
    · split
      · rfl
      · split <;> rfl)
set_option maxRecDepth 100000 in
set_option maxHeartbeats 12800000 in
theorem boxed_none (X : Nat → Nat) (R D : Int) (w : World) (hX : ∀ k, k < 204 → X k < 18446744073709551616) (hT : TzTab w) (h0 : endsF (orA X 0 102) (orA X 1 102) = endsE (orA X 0 102) (orA X 1 102)) (h1 : livF X 102 = livT X 102) :
    Calls Tryd.prog 66 #[.agg (arrF 204 (uF X)), .int .i64 R, .int .i64 D] w fun e w' => e = .returned (.agg Tryd.zeroCells113) ∧ Below w.heap.size w w' := by
  obtain ⟨w1, hw1⟩ : ∃ w1, (w.alloc (.cells (arrF 204 (uF X)) 111)).alloc (.cells Tryd.zeroCells113 113) = w1 := ⟨_, rfl⟩
  have BB := hide' (show Below w.heap.size w w1 by rw [← hw1]; exact ((Below.refl _ _).alloc (Nat.le_refl _) _).alloc (by simp) _)
  have g0 : w1.heap[w.heap.size]? = some (.cells (arrF 204 (uF X)) 111 (0, 0)) := by rw [← hw1, Below.heap_alloc _ _ _ (by simp)]; exact heap_alloc_new _ _
  have g1 : w1.heap[w.heap.size + 1]? = some (.cells Tryd.zeroCells113 113 (0, 0)) := by rw [← hw1]; exact heap_atX _ _ _ (by simp)
  have LV1 := hide' (living_any X w.heap.size w1 hX g0 (hT.below BB.out))
  have G1 := hide' g1
  rw [← h0, ← h1] at LV1
  obtain ⟨f, hf⟩ : ∃ f, endsF (orA X 0 102) (orA X 1 102) = f := ⟨_, rfl⟩
  obtain ⟨l, hl⟩ : ∃ l, livF X 102 = l := ⟨_, rfl⟩
  rw [hf, hl] at LV1
  have q := fun w => corner_eq (f : Int) (l : Int) (f : Int) (l : Int) w
  simp at q
  obtain ⟨A, hA⟩ : ∃ A, arrF 204 (uF X) = A := ⟨_, rfl⟩
  rw [hA] at hw1 ⊢
  clear hf hl h0 h1 hA g0 g1 hX hT
  go_enter Tryd.func66, Tryd.ntmps66
  go_wp2_with fail
  refine LV1.out.mono ?_
  rintro e w2 ⟨rfl, b2⟩
  obtain ⟨w3, hw3⟩ : ∃ w3, (w2.alloc (.cells #[.int .i64 (f : Int), .int .i64 (l : Int)] 171)).alloc (.cells #[.int .i64 (f : Int), .int .i64 (l : Int)] 171) = w3 := ⟨_, rfl⟩
  have C3 : Below w1.heap.size w1 w3 := by rw [← hw3]; exact (b2.alloc b2.size _).alloc (Nat.le_trans b2.size (by simp)) _
  have g3 := (C3.block _ (lt_of_block G1.out)).trans G1.out
  have B3 := hide' (BB.out.trans (C3.mono BB.out.size))
  have k0 : w3.heap[w2.heap.size]? = some (.cells #[.int .i64 (f : Int), .int .i64 (l : Int)] 171 (0, 0)) := by rw [← hw3, Below.heap_alloc _ _ _ (by simp)]; exact heap_alloc_new _ _
  have k1 : w3.heap[w2.heap.size + 1]? = some (.cells #[.int .i64 (f : Int), .int .i64 (l : Int)] 171 (0, 0)) := by rw [← hw3]; exact heap_atX _ _ _ (by simp)
  have m0 := cell_of_row w3 _ 0 _ _ _ k0
  have m1 := cell_of_row w3 _ 1 _ _ _ k0
  have m2 := cell_of_row w3 _ 0 _ _ _ k1
  have m3 := cell_of_row w3 _ 1 _ _ _ k1
  simp at m0 m1 m2 m3
  clear b2 C3 hw1 k0 k1
  go_wp2_with (first | (refine wpList_store_row rfl 113 _ _ rfl (w.heap.size + 1) Tryd.zeroCells113 rfl rfl 113 _ g3 (by kernel_rfl) rfl (by rw [zero_grown]; exact grF_all ..) ?_))
  refine bodyPost_ret (v := .agg Tryd.zeroCells113) (results_cell_row Tryd.results66 _ _ (w.heap.size + 1) 113 _ (0, 0) _ rfl (setRow_heap _ _ _ _ _ _ g3) Tryd.underlying113 rfl (by kernel_rfl)) rfl ?_
  exact ⟨rfl, below_setRow B3.out (by omega) _⟩

theorem built_grown (a b c d : Int) : Tryd.prog.built 113 [(1, .int .i64 a), (2, .int .i64 b), (3, .int .i64 c), (4, .int .i64 d)] = some ((((Tryd.zeroCells113.setIfInBounds 204 (.int .i64 a)).setIfInBounds 205 (.int .i64 b)).setIfInBounds 206 (.int .i64 c)).setIfInBounds 207 (.int .i64 d)) := by kernel_rfl
theorem grown_set (a b c d : Int) : (((Tryd.zeroCells113.setIfInBounds 204 (.int .i64 a)).setIfInBounds 205 (.int .i64 b)).setIfInBounds 206 (.int .i64 c)).setIfInBounds 207 (.int .i64 d) = arrF 208 (grF (fun _ => 0) a b c d) := by
  rw [zero_grown, arrF_set, arrF_set, arrF_set, arrF_set]
  refine arrF_ext fun k hk => ?_
  unfold grF
  by_cases h1 : k = 207
  · subst h1; rfl
  · by_cases h2 : k = 206
    · subst h2; rfl
    · by_cases h3 : k = 205
      · subst h3; rfl
      · by_cases h4 : k = 204
        · subst h4; rfl
        · rw [if_neg h1, if_neg h2, if_neg h3, if_neg h4]
          have h5 : k < 204 := by omega
          rw [if_pos h5, if_pos h5]
/-- What lies there while the rows are moved. -/
structure BX (w w4 wr : World) (p : Nat) (G : Nat → Value) : Prop where
  keep : ∀ k, k < w4.heap.size → k ≠ p → wr.heap[k]? = w4.heap[k]?
  out : wr.heap[p]? = some (.cells (arrF 208 G) 113 (0, 0))
  below : Below w.heap.size w wr
  size : w4.heap.size ≤ wr.heap.size
theorem BX.next {w w4 wr w' : World} {p : Nat} {G : Nat → Value} (h : BX w w4 wr p G) (b : Below wr.heap.size wr w') : BX w w4 w' p G :=
  ⟨fun k hk hn => (b.block k (Nat.lt_of_lt_of_le hk h.size)).trans (h.keep k hk hn), (b.block _ (lt_of_block h.out)).trans h.out, h.below.trans (b.mono h.below.size), Nat.le_trans h.size b.size⟩
theorem BX.set {w w4 wr : World} {p : Nat} {G : Nat → Value} (h : BX w w4 wr p G) (hp : w.heap.size ≤ p) (i : Nat) (v : Value) : BX w w4 (wr.setCell ⟨p, i, none⟩ v) p (fun k => if k = i then v else G k) :=
  ⟨fun k hk hn => (Below.heap_setCell _ _ _ _ hn).trans (h.keep k hk hn), by rw [heap_setCell_same _ _ _ _ _ _ h.out, arrF_set], h.below.setCell hp _, by rw [World.size_setCell]; exact h.size⟩
theorem BX.ext {w w4 wr : World} {p : Nat} {G G' : Nat → Value} (h : BX w w4 wr p G) (e : ∀ k, k < 208 → G k = G' k) : BX w w4 wr p G' := ⟨h.keep, by rw [← arrF_ext e]; exact h.out, h.below, h.size⟩
theorem bx_step (X : Nat → Nat) (F f y : Nat) (W H r d : Int) (hy : y < 102) (k : Nat) (hk : k < 208) :
    (fun k => if k = y * 2 + 1 then Value.int .u64 ((lft1 (X ((F + y) * 2 + 1)) f : Nat) : Int) else (fun k => if k = y * 2 then Value.int .u64 ((lft0 (X ((F + y) * 2)) (X ((F + y) * 2 + 1)) f : Nat) : Int) else grF (bxX X F f y) W H r d k) k) k = grF (bxX X F f (y + 1)) W H r d k := by
  dsimp only
  by_cases h1 : k = y * 2 + 1
  · subst h1
    rw [if_pos rfl]
    unfold grF uF bxX
    rw [if_pos (by omega), if_pos (by omega), if_neg (by omega), show (y * 2 + 1) / 2 = y by omega]
  · rw [if_neg h1]
    by_cases h2 : k = y * 2
    · subst h2
      rw [if_pos rfl]
      unfold grF uF bxX
      rw [if_pos (by omega), if_pos (by omega), if_pos (by omega), show (y * 2) / 2 = y by omega]
    · rw [if_neg h2]
      unfold grF
      by_cases h3 : k < 204
      · rw [if_pos h3, if_pos h3]
        unfold uF bxX
        by_cases h4 : k / 2 < y
        · have h5 : k / 2 < y + 1 := by omega
          rw [if_pos h4, if_pos h5]
        · have h5 : ¬ k / 2 < y + 1 := by omega
          rw [if_neg h4, if_neg h5]
      · rw [if_neg h3, if_neg h3]
theorem wpList_build_is {P : Program} {ops : Array Oper} {rest : List Oper} {o : Oper} {a : Act} {w : World} {Q : Exit → Act → World → Prop} (hg : o.guard = none) (t : TypeId) (parts : Array (Nat × Operand)) (ho : o.op = .build t parts)
    (cells : Array Value) (hf : P.built t (parts.map fun (i, x) => (i, a.eval x)).toList = some cells) (h : wpList P ops Q rest (a.put o.dst (.agg cells)) w) : wpList P ops Q (o :: rest) a w := by
  refine wpList_build hg t parts ho (by rw [hf]; rfl) ?_
  rw [hf]
  exact h
end Go.Proofs.YtlpdobfjgpedaaaDoor

