/-
  What the last text of this claim leans on, part 11: Gr3, Gr4, Bk2, Bk3, Bk4, Bk5, Bk6.
-/
import Derived.Test.YtbkllhlapdmlfaaQb9
import Derived.Test.YtbkllhlapdmlfaaQb10
import Derived.Test.YtbkllhlapdmlfaaQb7
import Derived.Test.YtbkllhlapdmlfaaQb4
import Derived.Deep.RegionHeld3
import Derived.OwnWalk
import Derived.Deep.DeepAppendRoom
import Derived.BigRegion
namespace Go.Proofs.Ytbkllhlapdmlfaa
open Go.RowKit
set_option linter.unusedVariables false

/-- An array, told by a function. -/
def arrF (n : Nat) (f : Nat → Value) : Array Value := ((List.range n).map f).toArray
theorem arrF_size (n : Nat) (f : Nat → Value) : (arrF n f).size = n := by simp [arrF]
theorem arrF_get {n k : Nat} (f : Nat → Value) (h : k < n) : (arrF n f)[k]? = some (f k) := by simp [arrF, h]
theorem arrF_ext {n : Nat} {f g : Nat → Value} (h : ∀ k, k < n → f k = g k) : arrF n f = arrF n g := by
  unfold arrF
  congr 1
  apply List.map_congr_left
  intro k hk
  exact h k (List.mem_range.1 hk)
theorem arrF_set (n i : Nat) (f : Nat → Value) (v : Value) : (arrF n f).setIfInBounds i v = arrF n (fun k => if k = i then v else f k) := by
  apply Array.ext
  · simp [arrF]
  · intro k h1 h2
    simp only [arrF, List.getElem_toArray, List.getElem_map, List.getElem_range]
    by_cases q : k = i
    · simp [q]
    · simp [q, Ne.symm q]
theorem arrF_all (n : Nat) (f : Nat → Value) (h : ∀ k, k < n → (f k).oneCell' = true) : (arrF n f).all (·.oneCell') = true := by
  simp only [Array.all_eq_true]
  intro i hi
  have hi' : i < n := by rw [arrF_size] at hi; exact hi
  have := arrF_get f hi'
  rw [Array.getElem?_eq_some_iff] at this
  obtain ⟨_, e⟩ := this
  rw [e]; exact h i hi'
/-- A word of a sheet, all words being known. -/
def uF (X : Nat → Nat) (k : Nat) : Value := .int .u64 ((X k : Nat) : Int)
def orA (X : Nat → Nat) (h : Nat) : Nat → Nat
  | 0 => 0
  | y + 1 => orA X h y ||| X (y * 2 + h)
theorem orA_lt {X : Nat → Nat} {h n : Nat} (hX : ∀ k, k < n * 2 → X k < 18446744073709551616) (hh : h < 2) : ∀ y, y ≤ n → orA X h y < 18446744073709551616
  | 0, _ => by simp [orA]
  | y + 1, hy => Nat.or_lt_two_pow (n := 64) (orA_lt hX hh y (by omega)) (hX _ (by omega))
/-- The first row that has something, and behind the last. -/
def livF (X : Nat → Nat) : Nat → Nat
  | 0 => 0
  | y + 1 => if X (y * 2) = 0 ∧ X (y * 2 + 1) = 0 then livF X y else if orA X 0 y = 0 ∧ orA X 1 y = 0 then y else livF X y
def livT (X : Nat → Nat) : Nat → Nat
  | 0 => 0
  | y + 1 => if X (y * 2) = 0 ∧ X (y * 2 + 1) = 0 then livT X y else y + 1
theorem two_set0 {w : World} {g : Nat} {x y : Value} {t : TypeId} (h : w.heap[g]? = some (.cells #[x, y] t (0, 0))) (v : Value) : (w.setCell ⟨g, 0, none⟩ v).heap[g]? = some (.cells #[v, y] t (0, 0)) := by
  rw [heap_setCell_same _ _ _ _ _ _ h]; rfl
theorem two_set1 {w : World} {g : Nat} {x y : Value} {t : TypeId} (h : w.heap[g]? = some (.cells #[x, y] t (0, 0))) (v : Value) : (w.setCell ⟨g, 1, none⟩ v).heap[g]? = some (.cells #[x, v] t (0, 0)) := by
  rw [heap_setCell_same _ _ _ _ _ _ h]; rfl
theorem two_other {w : World} {g : Nat} {o : Obj} (h : w.heap[g]? = some o) (b i : Nat) (v : Value) (hn : g ≠ b) : (w.setCell ⟨b, i, none⟩ v).heap[g]? = some o := (Below.heap_setCell _ _ _ _ hn).trans h
theorem drew_block {w : World} {g : Nat} {o : Obj} (h : w.heap[g]? = some o) : w.drew.heap[g]? = some o := h
end Go.Proofs.Ytbkllhlapdmlfaa

namespace Go.Proofs.Ytbkllhlapdmlfaa
open Go.RowKit
set_option linter.unusedVariables false
theorem heap_atX (w : World) (o : Obj) (k : Nat) (h : k = w.heap.size) : (w.alloc o).heap[k]? = some o := by subst h; exact heap_alloc_new w o
end Go.Proofs.Ytbkllhlapdmlfaa

namespace Go.Proofs.Ytbkllhlapdmlfaa
open Go.RowKit
set_option linter.unusedVariables false
/-- What lies there while a block is written. -/
structure AX (w w4 wr : World) (B p : Nat) (T : TypeId) (n : Nat) (G : Nat → Value) : Prop where
  keep : ∀ k, k < B → k ≠ p → wr.heap[k]? = w4.heap[k]?
  out : wr.heap[p]? = some (.cells (arrF n G) T (0, 0))
  below : Below w.heap.size w wr
  size : B ≤ wr.heap.size
theorem AX.next {w w4 wr w' : World} {B p : Nat} {T : TypeId} {n : Nat} {G : Nat → Value} (h : AX w w4 wr B p T n G) (b : Below wr.heap.size wr w') : AX w w4 w' B p T n G :=
  ⟨fun k hk hn => (b.block k (Nat.lt_of_lt_of_le hk h.size)).trans (h.keep k hk hn), (b.block _ (lt_of_block h.out)).trans h.out, h.below.trans (b.mono h.below.size), Nat.le_trans h.size b.size⟩
theorem AX.set {w w4 wr : World} {B p : Nat} {T : TypeId} {n : Nat} {G : Nat → Value} (h : AX w w4 wr B p T n G) (hp : w.heap.size ≤ p) (i : Nat) (v : Value) : AX w w4 (wr.setCell ⟨p, i, none⟩ v) B p T n (fun k => if k = i then v else G k) :=
  ⟨fun k hk hn => (Below.heap_setCell _ _ _ _ hn).trans (h.keep k hk hn), by rw [heap_setCell_same _ _ _ _ _ _ h.out, arrF_set], h.below.setCell hp _, by rw [World.size_setCell]; exact h.size⟩
theorem AX.ext {w w4 wr : World} {B p : Nat} {T : TypeId} {n : Nat} {G G' : Nat → Value} (h : AX w w4 wr B p T n G) (e : ∀ k, k < n → G k = G' k) : AX w w4 wr B p T n G' := ⟨h.keep, by rw [← arrF_ext e]; exact h.out, h.below, h.size⟩
/-- A table of blocks as it lies. -/
structure TbB (w : World) (a : Option Addr) (tv : Nat → Nat) : Prop where
  lt : ∀ k, k < 16 → tv k < 16
  cells : ∃ g off, a = some ⟨g, off, none⟩ ∧ g < w.heap.size ∧ ∀ k, k < 16 → w.cell? ⟨g, off + k, none⟩ = some (.int .i64 (tv k : Int))
theorem TbB.below {w w' : World} {a : Option Addr} {tv : Nat → Nat} (h : TbB w a tv) (b : Below w.heap.size w w') : TbB w' a tv := by
  obtain ⟨g, off, e, hg, hc⟩ := h.cells
  exact ⟨h.lt, g, off, e, Nat.lt_of_lt_of_le hg b.size, fun k hk => (World.cell?_of_block (w := w) (a := ⟨g, off + k, none⟩) (b.block g hg)).trans (hc k hk)⟩
def dg (n k : Nat) : Nat := n / 2 ^ k % 2
theorem dg_0 (n : Nat) : dg n 0 = d0 n := by simp [dg, d0]
theorem dg_1 (n : Nat) : dg n 1 = d1 n := by simp [dg, d1]
theorem dg_2 (n : Nat) : dg n 2 = d2 n := by simp [dg, d2]
theorem dg_3 (n : Nat) (h : n < 16) : dg n 3 = d3 n := by simp [dg, d3]; omega
def bkG (tv : Nat → Nat) (k : Nat) : Value := .int .i64 ((dg (tv (k / 4)) (k % 4) : Nat) : Int)
def bkP (tv : Nat → Nat) (i k : Nat) : Value := if k / 4 < i then bkG tv k else .int .i64 0
theorem zero64 : (#[.int .i64 0, .int .i64 0, .int .i64 0, .int .i64 0, .int .i64 0, .int .i64 0, .int .i64 0, .int .i64 0, .int .i64 0, .int .i64 0, .int .i64 0, .int .i64 0, .int .i64 0, .int .i64 0, .int .i64 0, .int .i64 0, .int .i64 0, .int .i64 0, .int .i64 0, .int .i64 0, .int .i64 0, .int .i64 0, .int .i64 0, .int .i64 0, .int .i64 0, .int .i64 0, .int .i64 0, .int .i64 0, .int .i64 0, .int .i64 0, .int .i64 0, .int .i64 0, .int .i64 0, .int .i64 0, .int .i64 0, .int .i64 0, .int .i64 0, .int .i64 0, .int .i64 0, .int .i64 0, .int .i64 0, .int .i64 0, .int .i64 0, .int .i64 0, .int .i64 0, .int .i64 0, .int .i64 0, .int .i64 0, .int .i64 0, .int .i64 0, .int .i64 0, .int .i64 0, .int .i64 0, .int .i64 0, .int .i64 0, .int .i64 0, .int .i64 0, .int .i64 0, .int .i64 0, .int .i64 0, .int .i64 0, .int .i64 0, .int .i64 0, .int .i64 0] : Array Value) = arrF 64 (fun _ => .int .i64 0) := by kernel_rfl
theorem bk_step (tv : Nat → Nat) (i k : Nat) (hi : i < 16) (ht : tv i < 16) :
    (fun k => if k = i * 4 + 3 then Value.int .i64 (d3 (tv i) : Int) else (fun k => if k = i * 4 + 2 then Value.int .i64 (d2 (tv i) : Int) else (fun k => if k = i * 4 + 1 then Value.int .i64 (d1 (tv i) : Int) else (fun k => if k = i * 4 then Value.int .i64 (d0 (tv i) : Int) else bkP tv i k) k) k) k) k = bkP tv (i + 1) k := by
  dsimp only
  unfold bkP bkG
  by_cases h3 : k = i * 4 + 3
  · subst h3
    rw [if_pos rfl, if_pos (by omega), show (i * 4 + 3) / 4 = i by omega, show (i * 4 + 3) % 4 = 3 by omega, dg_3 _ ht]
  · rw [if_neg h3]
    by_cases h2 : k = i * 4 + 2
    · subst h2
      rw [if_pos rfl, if_pos (by omega), show (i * 4 + 2) / 4 = i by omega, show (i * 4 + 2) % 4 = 2 by omega, dg_2]
    · rw [if_neg h2]
      by_cases h1 : k = i * 4 + 1
      · subst h1
        rw [if_pos rfl, if_pos (by omega), show (i * 4 + 1) / 4 = i by omega, show (i * 4 + 1) % 4 = 1 by omega, dg_1]
      · rw [if_neg h1]
        by_cases h0 : k = i * 4
        · subst h0
          rw [if_pos rfl, if_pos (by omega), show (i * 4) / 4 = i by omega, show (i * 4) % 4 = 0 by omega, dg_0]
        · rw [if_neg h0]
          by_cases h : k / 4 < i
          · rw [if_pos h, if_pos (by omega)]
          · rw [if_neg h, if_neg (by omega)]
end Go.Proofs.Ytbkllhlapdmlfaa

namespace Go.Proofs.Ytbkllhlapdmlfaa
open Go.RowKit
set_option linter.unusedVariables false
/-- Where the k-th cell of the j-th block stands. -/
def plc (W H ph j k : Nat) : Nat := ((ph + 2 * (j / (W / 2)) + k / 2) % H) * W + (ph + 2 * (j % (W / 2)) + k % 2) % W
def bX (V ph x : Nat) : Nat := if x < (x + ph) % 2 then V - 1 else (x - (x + ph) % 2) / 2
theorem wrapX {V a : Nat} (hV : 0 < V) (h : a ≤ 2 * V) : a % (2 * V) = if a = 2 * V then 0 else a := by
  by_cases e : a = 2 * V
  · rw [if_pos e, e, Nat.mod_self]
  · rw [if_neg e, Nat.mod_eq_of_lt (by omega)]
theorem bX_of {V ph x : Nat} (hx : x < 2 * V) (hp : ph ≤ 1) : bX V ph x < V ∧ (ph + 2 * bX V ph x + (x + ph) % 2) % (2 * V) = x := by
  unfold bX
  by_cases h : x < (x + ph) % 2
  · rw [if_pos h, wrapX (by omega) (by omega)]
    refine ⟨by omega, ?_⟩
    rw [if_pos (by omega)]; omega
  · rw [if_neg h, wrapX (by omega) (by omega)]
    refine ⟨by omega, ?_⟩
    rw [if_neg (by omega)]; omega
theorem bX_un {V ph X d : Nat} (hX : X < V) (hd : d ≤ 1) (hp : ph ≤ 1) : (ph + 2 * X + d) % (2 * V) < 2 * V ∧ bX V ph ((ph + 2 * X + d) % (2 * V)) = X ∧ ((ph + 2 * X + d) % (2 * V) + ph) % 2 = d := by
  rw [wrapX (by omega) (by omega)]
  by_cases e : ph + 2 * X + d = 2 * V
  · rw [if_pos e]
    unfold bX
    refine ⟨by omega, ?_, by omega⟩
    rw [if_pos (by omega)]; omega
  · rw [if_neg e]
    unfold bX
    refine ⟨by omega, ?_, by omega⟩
    rw [if_neg (by omega)]; omega
def bI (W H ph i : Nat) : Nat := bX (H / 2) ph (i / W) * (W / 2) + bX (W / 2) ph (i % W)
def bK (W ph i : Nat) : Nat := (i / W + ph) % 2 * 2 + (i % W + ph) % 2
/-- A pattern with even sides. -/
structure Evn (W H V U : Nat) : Prop where
  w : W = 2 * V
  h : H = 2 * U
theorem Evn.half {W H V U : Nat} (e : Evn W H V U) : W / 2 = V ∧ H / 2 = U := by have := e.w; have := e.h; omega
theorem plc_of {W H V U ph i : Nat} (e : Evn W H V U) (hp : ph ≤ 1) (hi : i < W * H) : bI W H ph i < U * V ∧ bK W ph i < 4 ∧ plc W H ph (bI W H ph i) (bK W ph i) = i := by
  obtain ⟨e1, e2⟩ := e.half
  have W0 : 0 < W := by rcases Nat.eq_zero_or_pos W with h | h; · rw [h] at hi; simp at hi
                        · exact h
  have hy : i / W < 2 * U := by rw [← e.h]; exact Nat.div_lt_of_lt_mul hi
  have hx : i % W < 2 * V := by rw [← e.w]; exact Nat.mod_lt _ W0
  obtain ⟨x1, x2⟩ := bX_of hx hp
  obtain ⟨y1, y2⟩ := bX_of hy hp
  unfold bI bK plc
  rw [e1, e2]
  have V0 : 0 < V := by omega
  have dv : (bX U ph (i / W) * V + bX V ph (i % W)) / V = bX U ph (i / W) := by
    rw [Nat.mul_comm, Nat.mul_add_div V0, Nat.div_eq_of_lt x1, Nat.add_zero]
  have md : (bX U ph (i / W) * V + bX V ph (i % W)) % V = bX V ph (i % W) := by
    rw [Nat.mul_comm, Nat.mul_add_mod, Nat.mod_eq_of_lt x1]
  refine ⟨?_, by omega, ?_⟩
  · have := Nat.mul_le_mul_right V (show bX U ph (i / W) + 1 ≤ U from y1)
    rw [Nat.add_mul] at this
    omega
  · rw [dv, md, show ((i / W + ph) % 2 * 2 + (i % W + ph) % 2) / 2 = (i / W + ph) % 2 by omega, show ((i / W + ph) % 2 * 2 + (i % W + ph) % 2) % 2 = (i % W + ph) % 2 by omega]
    have a1 : (ph + 2 * bX U ph (i / W) + (i / W + ph) % 2) % H = i / W := by rw [e.h]; exact y2
    have a2 : (ph + 2 * bX V ph (i % W) + (i % W + ph) % 2) % W = i % W := by rw [e.w]; rw [e.w] at x2; exact x2
    rw [a1, a2, Nat.mul_comm]
    exact Nat.div_add_mod i W
theorem jdm {V U j : Nat} (hj : j < U * V) : j / V < U ∧ j % V < V := by
  have V0 : 0 < V := by rcases Nat.eq_zero_or_pos V with h | h; · rw [h] at hj; simp at hj
                        · exact h
  exact ⟨Nat.div_lt_of_lt_mul (by rw [Nat.mul_comm]; exact hj), Nat.mod_lt _ V0⟩
theorem of_plc {W H V U ph j k : Nat} (e : Evn W H V U) (hp : ph ≤ 1) (hj : j < U * V) (hk : k < 4) : plc W H ph j k < W * H ∧ bI W H ph (plc W H ph j k) = j ∧ bK W ph (plc W H ph j k) = k := by
  obtain ⟨e1, e2⟩ := e.half
  obtain ⟨j1, j2⟩ := jdm hj
  obtain ⟨y0, y1, y2⟩ := bX_un (d := k / 2) j1 (by omega) hp
  obtain ⟨x0, x1, x2⟩ := bX_un (d := k % 2) j2 (by omega) hp
  unfold plc
  rw [e1]
  rw [← e.h] at y0 y1 y2
  rw [← e.w] at x0 x1 x2
  have dv : ((ph + 2 * (j / V) + k / 2) % H * W + (ph + 2 * (j % V) + k % 2) % W) / W = (ph + 2 * (j / V) + k / 2) % H := by
    rw [Nat.mul_comm, Nat.mul_add_div (by omega), Nat.div_eq_of_lt x0, Nat.add_zero]
  have md : ((ph + 2 * (j / V) + k / 2) % H * W + (ph + 2 * (j % V) + k % 2) % W) % W = (ph + 2 * (j % V) + k % 2) % W := by
    rw [Nat.mul_comm, Nat.mul_add_mod, Nat.mod_eq_of_lt x0]
  refine ⟨?_, ?_, ?_⟩
  · have := Nat.mul_le_mul_right W (show (ph + 2 * (j / V) + k / 2) % H + 1 ≤ H from y0)
    rw [Nat.add_mul, Nat.mul_comm H W] at this
    omega
  · unfold bI
    rw [dv, md, e1, e2, y1, x1, Nat.mul_comm]
    exact Nat.div_add_mod j V
  · unfold bK
    rw [dv, md, y2, x2]
    omega
/-- The number of a block, and what becomes of a cell. -/
def nbB (f : Nat → Nat) (W H ph j : Nat) : Nat := f (plc W H ph j 0) + 2 * f (plc W H ph j 1) + 4 * f (plc W H ph j 2) + 8 * f (plc W H ph j 3)
def newB (tv : Nat → Nat) (W H ph : Nat) (f : Nat → Nat) (i : Nat) : Nat := dg (tv (nbB f W H ph (bI W H ph i))) (bK W ph i)
/-- When j blocks and m cells of the next one are done. -/
def parB (tv : Nat → Nat) (W H ph : Nat) (f : Nat → Nat) (j m i : Nat) : Nat := if bI W H ph i < j ∨ (bI W H ph i = j ∧ bK W ph i < m) then newB tv W H ph f i else f i
theorem dg_le (n k : Nat) : dg n k ≤ 1 := by unfold dg; omega
theorem par_le {tv : Nat → Nat} {W H ph : Nat} {f : Nat → Nat} (hf : ∀ i, f i ≤ 1) (j m i : Nat) : parB tv W H ph f j m i ≤ 1 := by
  unfold parB newB
  split
  · exact dg_le _ _
  · exact hf i
theorem par_read {W H V U ph j k : Nat} (e : Evn W H V U) (hp : ph ≤ 1) (hj : j < U * V) (hk : k < 4) (tv f : Nat → Nat) : parB tv W H ph f j 0 (plc W H ph j k) = f (plc W H ph j k) := by
  obtain ⟨-, a, -⟩ := of_plc e hp hj hk
  unfold parB
  rw [a, if_neg (by omega)]
theorem par_set {W H V U ph j m : Nat} (e : Evn W H V U) (hp : ph ≤ 1) (hj : j < U * V) (hm : m < 4) (tv f : Nat → Nat) (i : Nat) (hi : i < W * H) :
    (if i = plc W H ph j m then dg (tv (nbB f W H ph j)) m else parB tv W H ph f j m i) = parB tv W H ph f j (m + 1) i := by
  obtain ⟨-, a, b⟩ := of_plc e hp hj hm
  by_cases h : i = plc W H ph j m
  · rw [if_pos h]
    unfold parB newB
    rw [h, a, b, if_pos (by omega)]
  · rw [if_neg h]
    have nb : ¬ (bI W H ph i = j ∧ bK W ph i = m) := fun ⟨h1, h2⟩ => h (by
      have := (plc_of e hp hi).2.2
      rw [h1, h2] at this
      exact this.symm)
    unfold parB
    by_cases q : bI W H ph i < j ∨ (bI W H ph i = j ∧ bK W ph i < m)
    · rw [if_pos q, if_pos (by omega)]
    · rw [if_neg q, if_neg (by omega)]
theorem par_next {W H V U ph j : Nat} (e : Evn W H V U) (hp : ph ≤ 1) (tv f : Nat → Nat) (i : Nat) (hi : i < W * H) : parB tv W H ph f j 4 i = parB tv W H ph f (j + 1) 0 i := by
  have := (plc_of e hp hi).2.1
  unfold parB
  by_cases q : bI W H ph i < j + 1
  · rw [if_pos (by omega), if_pos (by omega)]
  · rw [if_neg (by omega), if_neg (by omega)]
theorem par_start (tv : Nat → Nat) (W H ph : Nat) (f : Nat → Nat) (i : Nat) : parB tv W H ph f 0 0 i = f i := by unfold parB; rw [if_neg (by omega)]
theorem par_end {W H V U ph : Nat} (e : Evn W H V U) (hp : ph ≤ 1) (tv f : Nat → Nat) (i : Nat) (hi : i < W * H) : parB tv W H ph f (U * V) 0 i = newB tv W H ph f i := by
  have := (plc_of e hp hi).1
  unfold parB; rw [if_pos (by omega)]
end Go.Proofs.Ytbkllhlapdmlfaa

namespace Go.Proofs.Ytbkllhlapdmlfaa
open Go.RowKit
set_option linter.unusedVariables false
/-- Where the cells of all blocks stand, one behind another. -/
def stG (W H ph k : Nat) : Value := .int .i64 ((plc W H ph (k / 4) (k % 4) : Nat) : Int)
def stL (W H ph m : Nat) : List Value := (List.range (m * 4)).map (stG W H ph)
theorem stL_next (W H ph m : Nat) : stL W H ph m ++ [.int .i64 ((plc W H ph m 0 : Nat) : Int), .int .i64 ((plc W H ph m 1 : Nat) : Int), .int .i64 ((plc W H ph m 2 : Nat) : Int), .int .i64 ((plc W H ph m 3 : Nat) : Int)] = stL W H ph (m + 1) := by
  unfold stL
  rw [show (m + 1) * 4 = m * 4 + 1 + 1 + 1 + 1 by omega, List.range_succ, List.range_succ, List.range_succ, List.range_succ]
  simp only [List.map_append, List.map_cons, List.map_nil, List.append_assoc, List.cons_append, List.nil_append]
  unfold stG
  rw [show (m * 4) / 4 = m by omega, show (m * 4) % 4 = 0 by omega, show (m * 4 + 1) / 4 = m by omega, show (m * 4 + 1) % 4 = 1 by omega, show (m * 4 + 1 + 1) / 4 = m by omega, show (m * 4 + 1 + 1) % 4 = 2 by omega, show (m * 4 + 1 + 1 + 1) / 4 = m by omega, show (m * 4 + 1 + 1 + 1) % 4 = 3 by omega]
theorem cells_new4 (w : World) (x0 x1 x2 x3 : Value) (T : TypeId) : ∀ j u, [x0, x1, x2, x3][j]? = some u → (w.alloc (.cells #[x0, x1, x2, x3] T)).cell? ((⟨w.heap.size, 0, none⟩ : Addr).add j) = some u := by
  intro j u h
  have g := heap_alloc_new w (.cells #[x0, x1, x2, x3] T (0, 0))
  have : j = 0 ∨ j = 1 ∨ j = 2 ∨ j = 3 ∨ 4 ≤ j := by omega
  rcases this with rfl | rfl | rfl | rfl | h4
  · simp at h; subst h; exact cell_of_row _ _ 0 _ _ _ g
  · simp at h; subst h; exact cell_of_row _ _ 1 _ _ _ g
  · simp at h; subst h; exact cell_of_row _ _ 2 _ _ _ g
  · simp at h; subst h; exact cell_of_row _ _ 3 _ _ _ g
  · rw [List.getElem?_eq_none (by simpa using h4)] at h; cases h
theorem wrap_nB (n : Nat) (h : n ≤ 1000000) : IntKind.i64.wrap (n : Int) = (n : Int) := by simp [IntKind.wrap, IntKind.bits, IntKind.signed]; omega
end Go.Proofs.Ytbkllhlapdmlfaa

namespace Go.Proofs.Ytbkllhlapdmlfaa
open Go.RowKit
set_option linter.unusedVariables false
/-- Cells that lie at a block's head and may be written. -/
def CA (w : World) (g n : Nat) (f : Nat → Nat) : Prop := ∃ cur, w.heap[g]? = some (.cells cur 3 (0, 0)) ∧ n ≤ cur.size ∧ ∀ k, k < n → cur[k]? = some (.int .i64 (f k : Int))
theorem CA.cell {w : World} {g n : Nat} {f : Nat → Nat} (h : CA w g n f) {k : Nat} (hk : k < n) : w.cell? ⟨g, k, none⟩ = some (.int .i64 (f k : Int)) ∧ w.frozen? ⟨g, k, none⟩ = false := by
  obtain ⟨cur, h1, h2, h3⟩ := h
  exact ⟨by rw [cell_of_row w _ _ _ _ _ h1]; exact h3 k hk, frozen_of_row w _ _ _ _ h1⟩
theorem CA.set {w : World} {g n : Nat} {f : Nat → Nat} (h : CA w g n f) (i v : Nat) : CA (w.setCell ⟨g, i, none⟩ (.int .i64 (v : Int))) g n (fun k => if k = i then v else f k) := by
  obtain ⟨cur, h1, h2, h3⟩ := h
  refine ⟨cur.setIfInBounds i (.int .i64 (v : Int)), by rw [heap_setCell_same _ _ _ _ _ _ h1], by simpa using h2, fun k hk => ?_⟩
  dsimp only
  by_cases e : k = i
  · subst e
    rw [if_pos rfl, Array.getElem?_setIfInBounds_self_of_lt (by omega)]
  · rw [if_neg e, Array.getElem?_setIfInBounds_ne (by omega)]
    exact h3 k hk
theorem CA.ext {w : World} {g n : Nat} {f f' : Nat → Nat} (h : CA w g n f) (e : ∀ k, k < n → f k = f' k) : CA w g n f' := by
  obtain ⟨cur, h1, h2, h3⟩ := h
  exact ⟨cur, h1, h2, fun k hk => by rw [← e k hk]; exact h3 k hk⟩
theorem CA.block {w w' : World} {g n : Nat} {f : Nat → Nat} (h : CA w g n f) (e : w'.heap[g]? = w.heap[g]?) : CA w' g n f := by
  obtain ⟨cur, h1, h2, h3⟩ := h
  exact ⟨cur, e.trans h1, h2, h3⟩
theorem CA.lt {w : World} {g n : Nat} {f : Nat → Nat} (h : CA w g n f) : g < w.heap.size := by
  obtain ⟨cur, h1, -⟩ := h
  exact lt_of_block h1
/-- What is kept while the cells of one block of memory are written. -/
structure SP (w wr : World) (B gc n : Nat) (f : Nat → Nat) : Prop where
  keep : ∀ k, k < w.heap.size → k ≠ gc → wr.heap[k]? = w.heap[k]?
  ca : CA wr gc n f
  size : w.heap.size ≤ wr.heap.size
  below : Below B w wr
theorem SP.next {w wr w' : World} {B gc n : Nat} {f : Nat → Nat} (h : SP w wr B gc n f) (hB : B ≤ wr.heap.size) (b : Below wr.heap.size wr w') : SP w w' B gc n f :=
  ⟨fun k hk hn => (b.block k (Nat.lt_of_lt_of_le hk h.size)).trans (h.keep k hk hn), h.ca.block (b.block _ h.ca.lt), Nat.le_trans h.size b.size, h.below.trans (b.mono hB)⟩
theorem SP.set {w wr : World} {B gc n : Nat} {f : Nat → Nat} (h : SP w wr B gc n f) (hB : B ≤ gc) (i v : Nat) : SP w (wr.setCell ⟨gc, i, none⟩ (.int .i64 (v : Int))) B gc n (fun k => if k = i then v else f k) :=
  ⟨fun k hk hn => (Below.heap_setCell _ _ _ _ hn).trans (h.keep k hk hn), h.ca.set i v, by rw [World.size_setCell]; exact h.size, h.below.setCell hB _⟩
theorem SP.ext {w wr : World} {B gc n : Nat} {f f' : Nat → Nat} (h : SP w wr B gc n f) (e : ∀ k, k < n → f k = f' k) : SP w wr B gc n f' := ⟨h.keep, h.ca.ext e, h.size, h.below⟩
end Go.Proofs.Ytbkllhlapdmlfaa

namespace Go.Proofs.Ytbkllhlapdmlfaa
open Go.RowKit
set_option linter.unusedVariables false
def in16 (x : Int) : Bool := decide (0 ≤ x) && decide (x < 16)
/-- What is wrong with a table of blocks. -/
def tabE (t : List Int) : Nat := if t.length = 16 then (if t.all in16 then 0 else 1) else 3
theorem all_take_next {t : List Int} {i : Nat} (hi : i < t.length) (h : ∀ k (hk : k < t.length), k < i → in16 t[k] = true) (h1 : in16 t[i] = true) : ∀ k (hk : k < t.length), k < i + 1 → in16 t[k] = true := fun k hk hl => by
  by_cases e : k = i
  · subst e; exact h1
  · exact h k hk (by omega)
theorem tabE_bad {t : List Int} {i : Nat} (hl : t.length = 16) (hi : i < t.length) (h1 : in16 t[i] = false) : tabE t = 1 := by
  unfold tabE
  rw [if_pos hl, if_neg]
  intro h
  have := List.all_eq_true.1 h t[i] (List.getElem_mem hi)
  rw [h1] at this; cases this
theorem tabE_good {t : List Int} (hl : t.length = 16) (h : ∀ k (hk : k < t.length), k < 16 → in16 t[k] = true) : tabE t = 0 := by
  unfold tabE
  rw [if_pos hl, if_pos]
  refine List.all_eq_true.2 fun x hx => ?_
  obtain ⟨k, hk, rfl⟩ := List.getElem_of_mem hx
  exact h k hk (by omega)
/-- What is wrong where blocks are to run. -/
def runE (t : List Int) (W H : Int) (xs : List Int) (ph n : Int) : Nat := if tabE t ≠ 0 then tabE t else if shapeF W H xs ≠ 0 then shapeF W H xs else if W % 2 ≠ 0 ∨ H % 2 ≠ 0 then 3 else if ph ≠ 0 ∧ ph ≠ 1 then 1 else if n < 0 ∨ 100000 < n then 1 else 0
theorem shape_nat {W H : Int} {xs : List Int} (h : shapeF W H xs = 0) : ∃ Wn Hn : Nat, W = (Wn : Int) ∧ H = (Hn : Int) ∧ Wn ≤ 100 ∧ Hn ≤ 100 := by
  unfold shapeF at h
  split at h
  · rename_i hs
    simp only [Bool.and_eq_true] at hs
    unfold sideB at hs
    simp at hs
    exact ⟨W.toNat, H.toNat, by omega, by omega, by omega, by omega⟩
  · omega
theorem errOf_posB {f : Nat} (h : f ≠ 0) : errOf f = .iface 74 (.int .i64 (f : Int)) := by unfold errOf; rw [if_neg h]
end Go.Proofs.Ytbkllhlapdmlfaa

