/-
  What the last text of this claim leans on, part 3: Gr1, Gr2, Gq5, Gr3, Gr4, Bk2.
-/
import Derived.Test.YtfeddccbhmbkmaaDoorZr2
import Derived.Test.YtfeddccbhmbkmaaDoorShelf
import Derived.Laws.Bits64b
import Derived.Lib.TrailingZeros
import Derived.Lib.BitFns
import Derived.ChangeKeysEq
import Derived.Deep.RegionHeld3
namespace Go.Proofs.YtfeddccbhmbkmaaDoor
open Go.RowKit
set_option linter.unusedVariables false

/-- The library's table as it is laid. -/
def TzTab (w : World) : Prop := ∀ j, j < 64 → w.cell? ⟨1, j, none⟩ = some (.int .u8 (Lib.deBruijn64tab.getD j 0))
theorem tz_lt {w : World} (h : TzTab w) : 1 < w.heap.size := by
  rcases Nat.lt_or_ge 1 w.heap.size with k | k
  · exact k
  · have := h 0 (by omega); simp [World.cell?, Array.getElem?_eq_none k] at this
theorem TzTab.below {w w' : World} (h : TzTab w) (hb : Below w.heap.size w w') : TzTab w' := fun j hj => (World.cell?_of_block (w := w) (a := ⟨1, j, none⟩) (hb.block _ (tz_lt h))).trans (h j hj)
end Go.Proofs.YtfeddccbhmbkmaaDoor

namespace Go.Proofs.YtfeddccbhmbkmaaDoor
open Go.RowKit
set_option linter.unusedVariables false

theorem eqItems_ints {P : Program} (w : World) (d : Nat) {e : TypeId} {k : IntKind} (he : P.underlying e = some (.int k)) (xs ys : Array Value) (f g : Nat → Int) :
    ∀ is : List Nat, (∀ i ∈ is, xs[i]? = some (.int k (f i)) ∧ ys[i]? = some (.int k (g i))) → (Op.eqItems (d + 1) e 1 xs ys is).run P w = .ok (is.all fun i => f i == g i) w
  | [], _ => by simp [Op.eqItems]
  | i :: is, h => by
    have h1 := h i (by simp)
    have px : (part e xs (i * 1)).run P w = .ok (.int k (f i)) w := by rw [Nat.mul_one]; simp [part, isAgg, run_underlying he, h1.1]
    have py : (part e ys (i * 1)).run P w = .ok (.int k (g i)) w := by rw [Nat.mul_one]; simp [part, isAgg, run_underlying he, h1.2]
    have ih := eqItems_ints w d he xs ys f g is (fun j hj => h j (by simp [hj]))
    simp only [Op.eqItems, Sem.run_bind, px, py, Result.andThen_ok, run_equalIn_int w d e k k _ _ he, List.all_cons]
    cases hb : (f i == g i)
    · simp
    · simpa using ih
theorem equal_ints {P : Program} (w : World) (d : Nat) {t e : TypeId} {n : Nat} {k : IntKind} {i : TypeInfo} (hu : P.underlying t = some (.array n e)) (hi : P.info? e = some i) (hc : P.cellsOf e = 1) (he : P.underlying e = some (.int k)) (xs ys : Array Value) (f g : Nat → Int)
    (h : ∀ j, j < n → xs[j]? = some (.int k (f j)) ∧ ys[j]? = some (.int k (g j))) : (Op.equalIn (d + 2) t (.agg xs) (.agg ys)).run P w = .ok ((List.range n).all fun j => f j == g j) w := by
  rw [run_equalIn_array w (d + 1) xs ys hu hi, hc]
  exact eqItems_ints w d he xs ys f g _ (fun j hj => h j (List.mem_range.1 hj))
end Go.Proofs.YtfeddccbhmbkmaaDoor

namespace Go.Proofs.YtfeddccbhmbkmaaDoor
open Go.RowKit
set_option linter.unusedVariables false

theorem below_setRow {B : Nat} {a w : World} (h : Below B a w) {g : Nat} (hg : B ≤ g) (cs : Array Value) : Below B a (w.setRow g cs) :=
  ⟨h.os, h.tape, h.output, by rw [setRow_size]; exact h.size, fun k hk => (setRow_other w g k cs (by omega)).trans (h.block k hk)⟩
theorem lt_of_block {w : World} {p : Nat} {o : Obj} (h : w.heap[p]? = some o) : p < w.heap.size := (Array.getElem?_eq_some_iff.1 h).1
end Go.Proofs.YtfeddccbhmbkmaaDoor

namespace Go.Proofs.YtfeddccbhmbkmaaDoor
open Go.RowKit
set_option linter.unusedVariables false

/-- An array, told by a function. -/
def arrF (n : Nat) (f : Nat → Value) : Array Value := ((List.range n).map f).toArray
theorem arrF_size (n : Nat) (f : Nat → Value) : (arrF n f).size = n := by simp [arrF]
theorem arrF_get {n k : Nat} (f : Nat → Value) (h : k < n) : (arrF n f)[k]? = some (f k) := by simp [arrF, h]
theorem arrF_ext {n : Nat} {f g : Nat → Value} (h : ∀ k, k < n → f k = g k) : arrF n f = arrF n g := by
  unfold arrF
  congr 1
  apply List.map_congr_left
  intro k hk
  exact h k (List.mem_range.1 hk)
theorem arrF_set (n i : Nat) (f : Nat → Value) (v : Value) : (arrF n f).setIfInBounds i v = arrF n (fun k => if k = i then v else f k) := by
  apply Array.ext
  · simp [arrF]
  · intro k h1 h2
    simp only [arrF, List.getElem_toArray, List.getElem_map, List.getElem_range]
    by_cases q : k = i
    · simp [q]
    · simp [q, Ne.symm q]
theorem arrF_all (n : Nat) (f : Nat → Value) (h : ∀ k, k < n → (f k).oneCell' = true) : (arrF n f).all (·.oneCell') = true := by
  simp only [Array.all_eq_true]
  intro i hi
  have hi' : i < n := by rw [arrF_size] at hi; exact hi
  have := arrF_get f hi'
  rw [Array.getElem?_eq_some_iff] at this
  obtain ⟨_, e⟩ := this
  rw [e]; exact h i hi'
def orA (X : Nat → Nat) (h : Nat) : Nat → Nat
  | 0 => 0
  | y + 1 => orA X h y ||| X (y * 2 + h)
/-- The first row that has something, and behind the last. -/
def livF (X : Nat → Nat) : Nat → Nat
  | 0 => 0
  | y + 1 => if X (y * 2) = 0 ∧ X (y * 2 + 1) = 0 then livF X y else if orA X 0 y = 0 ∧ orA X 1 y = 0 then y else livF X y
def livT (X : Nat → Nat) : Nat → Nat
  | 0 => 0
  | y + 1 => if X (y * 2) = 0 ∧ X (y * 2 + 1) = 0 then livT X y else y + 1
/-- What lies there while the rows are looked through. -/
structure LV (w wr : World) (X : Nat → Nat) (y : Nat) : Prop where
  below : Below w.heap.size w wr
  b0 : wr.heap[w.heap.size]? = some (.cells #[.int .i64 0, .int .i64 ((livF X y : Nat) : Int)] 241 (0, 0))
  b1 : wr.heap[w.heap.size + 1]? = some (.cells #[.int .i64 0, .int .i64 ((livT X y : Nat) : Int)] 241 (0, 0))
  b2 : wr.heap[w.heap.size + 1 + 1]? = some (.cells #[.int .u64 ((orA X 0 y : Nat) : Int), .int .u64 ((orA X 1 y : Nat) : Int)] 170 (0, 0))
theorem LV.next {w wr w' : World} {X : Nat → Nat} {y : Nat} (h : LV w wr X y) (b : Below wr.heap.size wr w') : LV w w' X y :=
  ⟨h.below.trans (b.mono h.below.size), (b.block _ (lt_of_block h.b0)).trans h.b0, (b.block _ (lt_of_block h.b1)).trans h.b1, (b.block _ (lt_of_block h.b2)).trans h.b2⟩
theorem LV.zero {w wr : World} {X : Nat → Nat} {y : Nat} (h : LV w wr X y) (h0 : X (y * 2) = 0) (h1 : X (y * 2 + 1) = 0) : LV w wr X (y + 1) := by
  refine ⟨h.below, ?_, ?_, ?_⟩
  · rw [livF, if_pos ⟨h0, h1⟩]; exact h.b0
  · rw [livT, if_pos ⟨h0, h1⟩]; exact h.b1
  · rw [orA, orA, show y * 2 + 0 = y * 2 from rfl, h0, h1, Nat.or_zero, Nat.or_zero]; exact h.b2
theorem LV.two {w wr : World} {X : Nat → Nat} {y : Nat} (h : LV w wr X y) (h0 : ¬ (X (y * 2) = 0 ∧ X (y * 2 + 1) = 0)) (ha : ¬ (orA X 0 y = 0 ∧ orA X 1 y = 0)) (t : Int) (o0 o1 : Nat) (ht : t = ((y + 1 : Nat) : Int)) (e0 : o0 = orA X 0 y ||| X (y * 2)) (e1 : o1 = orA X 1 y ||| X (y * 2 + 1)) :
    LV w (((wr.setCell ⟨w.heap.size + 1, 1, none⟩ (.int .i64 t)).setCell ⟨w.heap.size + 1 + 1, 0, none⟩ (.int .u64 (o0 : Int))).setCell ⟨w.heap.size + 1 + 1, 1, none⟩ (.int .u64 (o1 : Int))) X (y + 1) := by
  subst ht e0 e1
  refine ⟨((h.below.setCell (by simp) _).setCell (by simp; omega) _).setCell (by simp; omega) _, ?_, ?_, ?_⟩
  · rw [Below.heap_setCell _ _ _ _ (by simp; omega), Below.heap_setCell _ _ _ _ (by simp; omega), Below.heap_setCell _ _ _ _ (by simp), livF, if_neg h0, if_neg ha]; exact h.b0
  · rw [Below.heap_setCell _ _ _ _ (by simp), Below.heap_setCell _ _ _ _ (by simp), heap_setCell_same _ _ _ _ _ _ h.b1, livT, if_neg h0]; rfl
  · have e1 := heap_setCell_same (wr.setCell ⟨w.heap.size + 1, 1, none⟩ (.int .i64 ((y + 1 : Nat) : Int))) (w.heap.size + 1 + 1) 0 _ _ (.int .u64 ((orA X 0 y ||| X (y * 2) : Nat) : Int)) ((Below.heap_setCell _ _ _ _ (by simp)).trans h.b2)
    rw [heap_setCell_same _ _ _ _ _ _ e1, orA, orA]; rfl
theorem LV.one {w wr : World} {X : Nat → Nat} {y : Nat} (h : LV w wr X y) (h0 : ¬ (X (y * 2) = 0 ∧ X (y * 2 + 1) = 0)) (ha : orA X 0 y = 0 ∧ orA X 1 y = 0) (t : Int) (o0 o1 : Nat) (ht : t = ((y + 1 : Nat) : Int)) (e0 : o0 = orA X 0 y ||| X (y * 2)) (e1 : o1 = orA X 1 y ||| X (y * 2 + 1)) :
    LV w ((((wr.setCell ⟨w.heap.size, 1, none⟩ (.int .i64 (y : Int))).setCell ⟨w.heap.size + 1, 1, none⟩ (.int .i64 t)).setCell ⟨w.heap.size + 1 + 1, 0, none⟩ (.int .u64 (o0 : Int))).setCell ⟨w.heap.size + 1 + 1, 1, none⟩ (.int .u64 (o1 : Int))) X (y + 1) := by
  subst ht e0 e1
  refine ⟨(((h.below.setCell (by simp) _).setCell (by simp) _).setCell (by simp; omega) _).setCell (by simp; omega) _, ?_, ?_, ?_⟩
  · rw [Below.heap_setCell _ _ _ _ (by simp; omega), Below.heap_setCell _ _ _ _ (by simp; omega), Below.heap_setCell _ _ _ _ (by simp), heap_setCell_same _ _ _ _ _ _ h.b0, livF, if_neg h0, if_pos ha]; rfl
  · have e1 := (Below.heap_setCell wr ⟨w.heap.size, 1, none⟩ (.int .i64 (y : Int)) (w.heap.size + 1) (by simp)).trans h.b1
    rw [Below.heap_setCell _ _ _ _ (by simp), Below.heap_setCell _ _ _ _ (by simp), heap_setCell_same _ _ _ _ _ _ e1, livT, if_neg h0]; rfl
  · have e0 := (Below.heap_setCell wr ⟨w.heap.size, 1, none⟩ (.int .i64 (y : Int)) (w.heap.size + 1 + 1) (by simp; omega)).trans h.b2
    have e1 := heap_setCell_same ((wr.setCell ⟨w.heap.size, 1, none⟩ (.int .i64 (y : Int))).setCell ⟨w.heap.size + 1, 1, none⟩ (.int .i64 ((y + 1 : Nat) : Int))) (w.heap.size + 1 + 1) 0 _ _ (.int .u64 ((orA X 0 y ||| X (y * 2) : Nat) : Int)) ((Below.heap_setCell _ _ _ _ (by simp)).trans e0)
    rw [heap_setCell_same _ _ _ _ _ _ e1, orA, orA]; rfl
theorem two_other {w : World} {g : Nat} {o : Obj} (h : w.heap[g]? = some o) (b i : Nat) (v : Value) (hn : g ≠ b) : (w.setCell ⟨b, i, none⟩ v).heap[g]? = some o := (Below.heap_setCell _ _ _ _ hn).trans h
end Go.Proofs.YtfeddccbhmbkmaaDoor

namespace Go.Proofs.YtfeddccbhmbkmaaDoor
open Go.RowKit
set_option linter.unusedVariables false
theorem heap_atX (w : World) (o : Obj) (k : Nat) (h : k = w.heap.size) : (w.alloc o).heap[k]? = some o := by subst h; exact heap_alloc_new w o
end Go.Proofs.YtfeddccbhmbkmaaDoor

namespace Go.Proofs.YtfeddccbhmbkmaaDoor
open Go.RowKit
set_option linter.unusedVariables false
/-- What lies there while a block is written. -/
structure AX (w w4 wr : World) (B p : Nat) (T : TypeId) (n : Nat) (G : Nat → Value) : Prop where
  keep : ∀ k, k < B → k ≠ p → wr.heap[k]? = w4.heap[k]?
  out : wr.heap[p]? = some (.cells (arrF n G) T (0, 0))
  below : Below w.heap.size w wr
  size : B ≤ wr.heap.size
theorem AX.next {w w4 wr w' : World} {B p : Nat} {T : TypeId} {n : Nat} {G : Nat → Value} (h : AX w w4 wr B p T n G) (b : Below wr.heap.size wr w') : AX w w4 w' B p T n G :=
  ⟨fun k hk hn => (b.block k (Nat.lt_of_lt_of_le hk h.size)).trans (h.keep k hk hn), (b.block _ (lt_of_block h.out)).trans h.out, h.below.trans (b.mono h.below.size), Nat.le_trans h.size b.size⟩
theorem AX.set {w w4 wr : World} {B p : Nat} {T : TypeId} {n : Nat} {G : Nat → Value} (h : AX w w4 wr B p T n G) (hp : w.heap.size ≤ p) (i : Nat) (v : Value) : AX w w4 (wr.setCell ⟨p, i, none⟩ v) B p T n (fun k => if k = i then v else G k) :=
  ⟨fun k hk hn => (Below.heap_setCell _ _ _ _ hn).trans (h.keep k hk hn), by rw [heap_setCell_same _ _ _ _ _ _ h.out, arrF_set], h.below.setCell hp _, by rw [World.size_setCell]; exact h.size⟩
theorem AX.ext {w w4 wr : World} {B p : Nat} {T : TypeId} {n : Nat} {G G' : Nat → Value} (h : AX w w4 wr B p T n G) (e : ∀ k, k < n → G k = G' k) : AX w w4 wr B p T n G' := ⟨h.keep, by rw [← arrF_ext e]; exact h.out, h.below, h.size⟩
/-- A table of blocks as it lies. -/
structure TbB (w : World) (a : Option Addr) (tv : Nat → Nat) : Prop where
  lt : ∀ k, k < 16 → tv k < 16
  cells : ∃ g off, a = some ⟨g, off, none⟩ ∧ g < w.heap.size ∧ ∀ k, k < 16 → w.cell? ⟨g, off + k, none⟩ = some (.int .i64 (tv k : Int))
theorem TbB.below {w w' : World} {a : Option Addr} {tv : Nat → Nat} (h : TbB w a tv) (b : Below w.heap.size w w') : TbB w' a tv := by
  obtain ⟨g, off, e, hg, hc⟩ := h.cells
  exact ⟨h.lt, g, off, e, Nat.lt_of_lt_of_le hg b.size, fun k hk => (World.cell?_of_block (w := w) (a := ⟨g, off + k, none⟩) (b.block g hg)).trans (hc k hk)⟩
def dg (n k : Nat) : Nat := n / 2 ^ k % 2
theorem dg_0 (n : Nat) : dg n 0 = d0 n := by simp [dg, d0]
theorem dg_1 (n : Nat) : dg n 1 = d1 n := by simp [dg, d1]
theorem dg_2 (n : Nat) : dg n 2 = d2 n := by simp [dg, d2]
theorem dg_3 (n : Nat) (h : n < 16) : dg n 3 = d3 n := by simp [dg, d3]; omega
def bkG (tv : Nat → Nat) (k : Nat) : Value := .int .i64 ((dg (tv (k / 4)) (k % 4) : Nat) : Int)
def bkP (tv : Nat → Nat) (i k : Nat) : Value := if k / 4 < i then bkG tv k else .int .i64 0
theorem zero64 : (#[.int .i64 0, .int .i64 0, .int .i64 0, .int .i64 0, .int .i64 0, .int .i64 0, .int .i64 0, .int .i64 0, .int .i64 0, .int .i64 0, .int .i64 0, .int .i64 0, .int .i64 0, .int .i64 0, .int .i64 0, .int .i64 0, .int .i64 0, .int .i64 0, .int .i64 0, .int .i64 0, .int .i64 0, .int .i64 0, .int .i64 0, .int .i64 0, .int .i64 0, .int .i64 0, .int .i64 0, .int .i64 0, .int .i64 0, .int .i64 0, .int .i64 0, .int .i64 0, .int .i64 0, .int .i64 0, .int .i64 0, .int .i64 0, .int .i64 0, .int .i64 0, .int .i64 0, .int .i64 0, .int .i64 0, .int .i64 0, .int .i64 0, .int .i64 0, .int .i64 0, .int .i64 0, .int .i64 0, .int .i64 0, .int .i64 0, .int .i64 0, .int .i64 0, .int .i64 0, .int .i64 0, .int .i64 0, .int .i64 0, .int .i64 0, .int .i64 0, .int .i64 0, .int .i64 0, .int .i64 0, .int .i64 0, .int .i64 0, .int .i64 0, .int .i64 0] : Array Value) = arrF 64 (fun _ => .int .i64 0) := by kernel_rfl
theorem bk_step (tv : Nat → Nat) (i k : Nat) (hi : i < 16) (ht : tv i < 16) :
    (fun k => if k = i * 4 + 3 then Value.int .i64 (d3 (tv i) : Int) else (fun k => if k = i * 4 + 2 then Value.int .i64 (d2 (tv i) : Int) else (fun k => if k = i * 4 + 1 then Value.int .i64 (d1 (tv i) : Int) else (fun k => if k = i * 4 then Value.int .i64 (d0 (tv i) : Int) else bkP tv i k) k) k) k) k = bkP tv (i + 1) k := by
  dsimp only
  unfold bkP bkG
  by_cases h3 : k = i * 4 + 3
  · subst h3
    rw [if_pos rfl, if_pos (by omega), show (i * 4 + 3) / 4 = i by omega, show (i * 4 + 3) % 4 = 3 by omega, dg_3 _ ht]
  · rw [if_neg h3]
    by_cases h2 : k = i * 4 + 2
    · subst h2
      rw [if_pos rfl, if_pos (by omega), show (i * 4 + 2) / 4 = i by omega, show (i * 4 + 2) % 4 = 2 by omega, dg_2]
    · rw [if_neg h2]
      by_cases h1 : k = i * 4 + 1
      · subst h1
        rw [if_pos rfl, if_pos (by omega), show (i * 4 + 1) / 4 = i by omega, show (i * 4 + 1) % 4 = 1 by omega, dg_1]
      · rw [if_neg h1]
        by_cases h0 : k = i * 4
        · subst h0
          rw [if_pos rfl, if_pos (by omega), show (i * 4) / 4 = i by omega, show (i * 4) % 4 = 0 by omega, dg_0]
        · rw [if_neg h0]
          by_cases h : k / 4 < i
          · rw [if_pos h, if_pos (by omega)]
          · rw [if_neg h, if_neg (by omega)]
set_option maxRecDepth 100000 in
set_option maxHeartbeats 3200000 in
theorem becomesB_any (a : Option Addr) (c : Nat) (tv : Nat → Nat) (w : World) (hT : TbB w a tv) : Calls Tryd.prog 63 #[.slice a 16 c] w fun e w' => e = .returned (.agg (arrF 64 (bkG tv))) ∧ Below w.heap.size w w' := by
  obtain ⟨w1, hw1⟩ : ∃ w1, (w.alloc (.cells #[.int .i64 0, .int .i64 0, .int .i64 0, .int .i64 0, .int .i64 0, .int .i64 0, .int .i64 0, .int .i64 0, .int .i64 0, .int .i64 0, .int .i64 0, .int .i64 0, .int .i64 0, .int .i64 0, .int .i64 0, .int .i64 0, .int .i64 0, .int .i64 0, .int .i64 0, .int .i64 0, .int .i64 0, .int .i64 0, .int .i64 0, .int .i64 0, .int .i64 0, .int .i64 0, .int .i64 0, .int .i64 0, .int .i64 0, .int .i64 0, .int .i64 0, .int .i64 0, .int .i64 0, .int .i64 0, .int .i64 0, .int .i64 0, .int .i64 0, .int .i64 0, .int .i64 0, .int .i64 0, .int .i64 0, .int .i64 0, .int .i64 0, .int .i64 0, .int .i64 0, .int .i64 0, .int .i64 0, .int .i64 0, .int .i64 0, .int .i64 0, .int .i64 0, .int .i64 0, .int .i64 0, .int .i64 0, .int .i64 0, .int .i64 0, .int .i64 0, .int .i64 0, .int .i64 0, .int .i64 0, .int .i64 0, .int .i64 0, .int .i64 0, .int .i64 0] 125)).alloc (.cells #[.int .i64 0, .int .i64 0, .int .i64 0, .int .i64 0, .int .i64 0, .int .i64 0, .int .i64 0, .int .i64 0, .int .i64 0, .int .i64 0, .int .i64 0, .int .i64 0, .int .i64 0, .int .i64 0, .int .i64 0, .int .i64 0, .int .i64 0, .int .i64 0, .int .i64 0, .int .i64 0, .int .i64 0, .int .i64 0, .int .i64 0, .int .i64 0, .int .i64 0, .int .i64 0, .int .i64 0, .int .i64 0, .int .i64 0, .int .i64 0, .int .i64 0, .int .i64 0, .int .i64 0, .int .i64 0, .int .i64 0, .int .i64 0, .int .i64 0, .int .i64 0, .int .i64 0, .int .i64 0, .int .i64 0, .int .i64 0, .int .i64 0, .int .i64 0, .int .i64 0, .int .i64 0, .int .i64 0, .int .i64 0, .int .i64 0, .int .i64 0, .int .i64 0, .int .i64 0, .int .i64 0, .int .i64 0, .int .i64 0, .int .i64 0, .int .i64 0, .int .i64 0, .int .i64 0, .int .i64 0, .int .i64 0, .int .i64 0, .int .i64 0, .int .i64 0] 125) = w1 := ⟨_, rfl⟩
  have BB := hide' (show Below w.heap.size w w1 by rw [← hw1]; exact ((Below.refl _ _).alloc (Nat.le_refl _) _).alloc (by simp) _)
  have G0 := hide' (show w1.heap[w.heap.size]? = some (.cells #[.int .i64 0, .int .i64 0, .int .i64 0, .int .i64 0, .int .i64 0, .int .i64 0, .int .i64 0, .int .i64 0, .int .i64 0, .int .i64 0, .int .i64 0, .int .i64 0, .int .i64 0, .int .i64 0, .int .i64 0, .int .i64 0, .int .i64 0, .int .i64 0, .int .i64 0, .int .i64 0, .int .i64 0, .int .i64 0, .int .i64 0, .int .i64 0, .int .i64 0, .int .i64 0, .int .i64 0, .int .i64 0, .int .i64 0, .int .i64 0, .int .i64 0, .int .i64 0, .int .i64 0, .int .i64 0, .int .i64 0, .int .i64 0, .int .i64 0, .int .i64 0, .int .i64 0, .int .i64 0, .int .i64 0, .int .i64 0, .int .i64 0, .int .i64 0, .int .i64 0, .int .i64 0, .int .i64 0, .int .i64 0, .int .i64 0, .int .i64 0, .int .i64 0, .int .i64 0, .int .i64 0, .int .i64 0, .int .i64 0, .int .i64 0, .int .i64 0, .int .i64 0, .int .i64 0, .int .i64 0, .int .i64 0, .int .i64 0, .int .i64 0, .int .i64 0] 125 (0, 0)) by rw [← hw1, Below.heap_alloc _ _ _ (by simp)]; exact heap_alloc_new _ _)
  have X0 := hide' (show AX w w1 w1 (w.heap.size + 1 + 1) (w.heap.size + 1) 125 64 (bkP tv 0) from ⟨fun _ _ _ => rfl, by rw [arrF_ext (fun k _ => show bkP tv 0 k = .int .i64 0 by unfold bkP; rw [if_neg (by omega)]), ← zero64, ← hw1]; exact heap_atX _ _ _ (by simp), BB.out, by rw [← hw1]; simp⟩)
  obtain ⟨g, off, rfl, hg, hc⟩ := hT.cells
  have HC := hide' (fun (V : World) (hV : Below w.heap.size w V) k (hk : k < 16) => show V.cell? ⟨g, off + k, none⟩ = some (.int .i64 (tv k : Int)) from (World.cell?_of_block (w := w) (a := ⟨g, off + k, none⟩) (hV.block g hg)).trans (hc k hk))
  have HL := hide' hT.lt
  clear hT hg hc
  go_enter Tryd.func63, Tryd.ntmps63
  go_wp2
  try rw [hw1]
  clear hw1
  go_loopw [5] (fun iv wr => ∃ (i : Nat), iv = .int .i64 (i : Int) ∧ i ≤ 16 ∧ Hid (AX w w1 wr (w.heap.size + 1 + 1) (w.heap.size + 1) 125 64 (bkP tv i))) (fun iv _ => 16 - (intOf iv).toNat)
  case atStart => exact ⟨0, rfl, by omega, X0⟩
  case round =>
    obtain ⟨i, rfl, hi, HX⟩ := hrel
    by_cases d : (i : Int) < 16
    · have il : i < 16 := by omega
      have ci := HC.out wr HX.out.below i il
      have ht := HL.out i il
      obtain ⟨n, hn⟩ : ∃ n, tv i = n := ⟨_, rfl⟩
      rw [hn] at ci
      have BC := hide' (fun V => blockOf_any n V (by rw [← hn]; exact ht))
      have NX := hide' (fun (V : World) (hV : AX w w1 V (w.heap.size + 1 + 1) (w.heap.size + 1) 125 64 (bkP tv i)) => show AX w w1 ((((V.setCell ⟨w.heap.size + 1, i * 4, none⟩ (.int .i64 (d0 n : Int))).setCell ⟨w.heap.size + 1, i * 4 + 1, none⟩ (.int .i64 (d1 n : Int))).setCell ⟨w.heap.size + 1, i * 4 + 2, none⟩ (.int .i64 (d2 n : Int))).setCell ⟨w.heap.size + 1, i * 4 + 3, none⟩ (.int .i64 (d3 n : Int))) (w.heap.size + 1 + 1) (w.heap.size + 1) 125 64 (bkP tv (i + 1)) from
        AX.ext ((((hV.set (by omega) (i * 4) _).set (by omega) (i * 4 + 1) _).set (by omega) (i * 4 + 2) _).set (by omega) (i * 4 + 3) _) (fun k hk => by
          rw [← bk_step tv i k il ht, hn]))
      have ili : (i : Int) < 16 := d
      clear hn ht
      unfold blkV at BC
      go_wp2_with fail
      refine (BC.out wr).mono ?_
      rintro e w2 ⟨rfl, b⟩
      have H2 := hide' (HX.out.next b)
      have z0 : w2.cell? ⟨w.heap.size + 1, i * 4, none⟩ = some (bkP tv i (i * 4)) := by rw [cell_of_row w2 _ _ _ _ _ H2.out.out, arrF_get _ (by omega)]
      have z1 : w2.cell? ⟨w.heap.size + 1, i * 4 + 1, none⟩ = some (bkP tv i (i * 4 + 1)) := by rw [cell_of_row w2 _ _ _ _ _ H2.out.out, arrF_get _ (by omega)]
      have z2 : w2.cell? ⟨w.heap.size + 1, i * 4 + 2, none⟩ = some (bkP tv i (i * 4 + 2)) := by rw [cell_of_row w2 _ _ _ _ _ H2.out.out, arrF_get _ (by omega)]
      have z3 : w2.cell? ⟨w.heap.size + 1, i * 4 + 3, none⟩ = some (bkP tv i (i * 4 + 3)) := by rw [cell_of_row w2 _ _ _ _ _ H2.out.out, arrF_get _ (by omega)]
      have f0 := frozen_of_row w2 _ (i * 4) _ _ H2.out.out
      have f1 := frozen_of_row w2 _ (i * 4 + 1) _ _ H2.out.out
      have f2 := frozen_of_row w2 _ (i * 4 + 2) _ _ H2.out.out
      have f3 := frozen_of_row w2 _ (i * 4 + 3) _ _ H2.out.out
      have H3 := hide' (NX.out w2 H2.out)
      clear b ci
      go_wp2
      exact ⟨⟨i + 1, by go_num, by omega, H3⟩, by simp [intOf]; omega⟩
    · have e16 : i = 16 := by omega
      subst e16
      have gp : wr.heap[w.heap.size + 1]? = some (.cells (arrF 64 (bkG tv)) 125 (0, 0)) := by
        rw [HX.out.out, arrF_ext (fun k hk => show bkP tv 16 k = bkG tv k by unfold bkP; rw [if_pos (by omega)])]
      have gb := (HX.out.keep w.heap.size (by omega) (by omega)).trans G0.out
      obtain ⟨Zb, hZ⟩ : ∃ Z, arrF 64 (bkG tv) = Z := ⟨_, rfl⟩
      have zs : Zb.size = 64 := by rw [← hZ, arrF_size]
      have za : Zb.all (·.oneCell') = true := by rw [← hZ]; exact arrF_all _ _ (fun k _ => rfl)
      rw [hZ] at gp
      have HZ := hide' hZ
      have BF := hide' HX.out.below
      clear hZ
      go_wp2_with (first
        | (refine wpList_load_row rfl 125 _ rfl (w.heap.size + 1) rfl 125 Zb (0, 0) _ gp Tryd.underlying125 rfl (by rw [zs]; kernel_rfl) ?_)
        | (refine wpList_store_row rfl 125 _ _ rfl w.heap.size Zb rfl rfl 125 _ gb (by rw [zs]; kernel_rfl) (by rw [zs]; rfl) za ?_))
      refine bodyPost_ret (v := .agg Zb) (results_cell_row Tryd.results63 _ _ w.heap.size 125 _ (0, 0) _ rfl (setRow_heap _ _ _ _ _ _ gb) Tryd.underlying125 rfl (by rw [zs]; kernel_rfl)) rfl ?_
      exact ⟨by rw [HZ.out], below_setRow BF.out (by omega) _⟩
end Go.Proofs.YtfeddccbhmbkmaaDoor

