/-
  What the last text of this claim leans on, part 12: Gr1, Gr2, Gq5, Gr3, Gr4, Bk2, Bk3, Bk4, Bk5, Bk6, Gr5, Gr6, Wb1, Qa1, Pa7, Pa8, Jumps, Pa9, Pa10, Qa2.
-/
import Derived.Test.YtfdbgkdbmlmigaaDoorZp11
import Derived.Test.YtfdbgkdbmlmigaaDoorZp7
import Derived.Test.YtfdbgkdbmlmigaaDoorZp1
import Derived.Test.YtfdbgkdbmlmigaaDoorZp2
import Derived.Laws.Bits64b
import Derived.Lib.TrailingZeros
import Derived.Lib.BitFns
import Derived.ChangeKeysEq
import Derived.Deep.RegionHeld3
import Derived.OwnWalk
import Derived.Deep.DeepAppendRoom
import Derived.BigRegion
import Derived.Scope
import Derived.WalkMore
namespace Go.Proofs.YtfdbgkdbmlmigaaDoor
open Go.RowKit
set_option linter.unusedVariables false

end Go.Proofs.YtfdbgkdbmlmigaaDoor

namespace Go.Proofs.YtfdbgkdbmlmigaaDoor
open Go.RowKit
set_option linter.unusedVariables false

end Go.Proofs.YtfdbgkdbmlmigaaDoor

namespace Go.Proofs.YtfdbgkdbmlmigaaDoor
open Go.RowKit
set_option linter.unusedVariables false

/-- The state of such a region: what has come up is in its slot. -/
structure R3 (B : Nat) (w0 : World) (T : TypeId) (z r1 r2 r3 s1 s2 s3 : Array Value) (fr : Value → Value → Value → Value → Value → Value → Value → Value → Value → Act) (l0 l1 l2 l3 l4 l5 l6 l7 l8 l9 l10 l11 : Bool) (v1 u1 v2 u2 v3 u3 x1 x2 x3 : Value) (p1 p2 p3 : Nat) (a : Act) (w : World) : Prop where
  frame : a = fr v1 u1 v2 u2 v3 u3 x1 x2 x3
  below : Below B w0 w
  d1 : l0 = true → v1 = .agg r1
  d2 : l2 = true → v2 = .agg r2
  d3 : l4 = true → v3 = .agg r3
  c1 : l1 = true → u1 = .agg s1
  c2 : l3 = true → u2 = .agg s2
  c3 : l5 = true → u3 = .agg s3
  n1 : l6 = false → x1 = undef
  n2 : l7 = false → x2 = undef
  n3 : l8 = false → x3 = undef
  m1 : l6 = true → x1 = .pointer (some ⟨p1, 0, none⟩) ∧ B ≤ p1 ∧ w.heap[p1]? = some (.cells (if l9 then s1 else z) T (0, 0))
  m2 : l7 = true → x2 = .pointer (some ⟨p2, 0, none⟩) ∧ B ≤ p2 ∧ w.heap[p2]? = some (.cells (if l10 then s2 else z) T (0, 0))
  m3 : l8 = true → x3 = .pointer (some ⟨p3, 0, none⟩) ∧ B ≤ p3 ∧ w.heap[p3]? = some (.cells (if l11 then s3 else z) T (0, 0))
  n12 : l6 = true → l7 = true → p1 ≠ p2
  n13 : l6 = true → l8 = true → p1 ≠ p3
  n23 : l7 = true → l8 = true → p2 ≠ p3
  e1 : l9 = true → l6 = true
  e2 : l10 = true → l7 = true
  e3 : l11 = true → l8 = true

theorem lt_of_block {w : World} {p : Nat} {o : Obj} (h : w.heap[p]? = some o) : p < w.heap.size := (Array.getElem?_eq_some_iff.1 h).1
end Go.Proofs.YtfdbgkdbmlmigaaDoor

namespace Go.Proofs.YtfdbgkdbmlmigaaDoor
open Go.RowKit
set_option linter.unusedVariables false

/-- An array, told by a function. -/
def arrF (n : Nat) (f : Nat → Value) : Array Value := ((List.range n).map f).toArray
theorem arrF_get {n k : Nat} (f : Nat → Value) (h : k < n) : (arrF n f)[k]? = some (f k) := by simp [arrF, h]
theorem arrF_ext {n : Nat} {f g : Nat → Value} (h : ∀ k, k < n → f k = g k) : arrF n f = arrF n g := by
  unfold arrF
  congr 1
  apply List.map_congr_left
  intro k hk
  exact h k (List.mem_range.1 hk)
theorem arrF_set (n i : Nat) (f : Nat → Value) (v : Value) : (arrF n f).setIfInBounds i v = arrF n (fun k => if k = i then v else f k) := by
  apply Array.ext
  · simp [arrF]
  · intro k h1 h2
    simp only [arrF, List.getElem_toArray, List.getElem_map, List.getElem_range]
    by_cases q : k = i
    · simp [q]
    · simp [q, Ne.symm q]
theorem two_other {w : World} {g : Nat} {o : Obj} (h : w.heap[g]? = some o) (b i : Nat) (v : Value) (hn : g ≠ b) : (w.setCell ⟨b, i, none⟩ v).heap[g]? = some o := (Below.heap_setCell _ _ _ _ hn).trans h
end Go.Proofs.YtfdbgkdbmlmigaaDoor

namespace Go.Proofs.YtfdbgkdbmlmigaaDoor
open Go.RowKit
set_option linter.unusedVariables false
end Go.Proofs.YtfdbgkdbmlmigaaDoor

namespace Go.Proofs.YtfdbgkdbmlmigaaDoor
open Go.RowKit
set_option linter.unusedVariables false
/-- What lies there while a block is written. -/
structure AX (w w4 wr : World) (B p : Nat) (T : TypeId) (n : Nat) (G : Nat → Value) : Prop where
  keep : ∀ k, k < B → k ≠ p → wr.heap[k]? = w4.heap[k]?
  out : wr.heap[p]? = some (.cells (arrF n G) T (0, 0))
  below : Below w.heap.size w wr
  size : B ≤ wr.heap.size
theorem AX.next {w w4 wr w' : World} {B p : Nat} {T : TypeId} {n : Nat} {G : Nat → Value} (h : AX w w4 wr B p T n G) (b : Below wr.heap.size wr w') : AX w w4 w' B p T n G :=
  ⟨fun k hk hn => (b.block k (Nat.lt_of_lt_of_le hk h.size)).trans (h.keep k hk hn), (b.block _ (lt_of_block h.out)).trans h.out, h.below.trans (b.mono h.below.size), Nat.le_trans h.size b.size⟩
theorem AX.set {w w4 wr : World} {B p : Nat} {T : TypeId} {n : Nat} {G : Nat → Value} (h : AX w w4 wr B p T n G) (hp : w.heap.size ≤ p) (i : Nat) (v : Value) : AX w w4 (wr.setCell ⟨p, i, none⟩ v) B p T n (fun k => if k = i then v else G k) :=
  ⟨fun k hk hn => (Below.heap_setCell _ _ _ _ hn).trans (h.keep k hk hn), by rw [heap_setCell_same _ _ _ _ _ _ h.out, arrF_set], h.below.setCell hp _, by rw [World.size_setCell]; exact h.size⟩
/-- A table of blocks as it lies. -/
structure TbB (w : World) (a : Option Addr) (tv : Nat → Nat) : Prop where
  lt : ∀ k, k < 16 → tv k < 16
  cells : ∃ g off, a = some ⟨g, off, none⟩ ∧ g < w.heap.size ∧ ∀ k, k < 16 → w.cell? ⟨g, off + k, none⟩ = some (.int .i64 (tv k : Int))
theorem TbB.below {w w' : World} {a : Option Addr} {tv : Nat → Nat} (h : TbB w a tv) (b : Below w.heap.size w w') : TbB w' a tv := by
  obtain ⟨g, off, e, hg, hc⟩ := h.cells
  exact ⟨h.lt, g, off, e, Nat.lt_of_lt_of_le hg b.size, fun k hk => (World.cell?_of_block (w := w) (a := ⟨g, off + k, none⟩) (b.block g hg)).trans (hc k hk)⟩
end Go.Proofs.YtfdbgkdbmlmigaaDoor

namespace Go.Proofs.YtfdbgkdbmlmigaaDoor
open Go.RowKit
set_option linter.unusedVariables false
/-- Where the k-th cell of the j-th block stands. -/
def plc (W H ph j k : Nat) : Nat := ((ph + 2 * (j / (W / 2)) + k / 2) % H) * W + (ph + 2 * (j % (W / 2)) + k % 2) % W
end Go.Proofs.YtfdbgkdbmlmigaaDoor

namespace Go.Proofs.YtfdbgkdbmlmigaaDoor
open Go.RowKit
set_option linter.unusedVariables false
end Go.Proofs.YtfdbgkdbmlmigaaDoor

namespace Go.Proofs.YtfdbgkdbmlmigaaDoor
open Go.RowKit
set_option linter.unusedVariables false
/-- Cells that lie at a block's head and may be written. -/
def CA (w : World) (g n : Nat) (f : Nat → Nat) : Prop := ∃ cur, w.heap[g]? = some (.cells cur 3 (0, 0)) ∧ n ≤ cur.size ∧ ∀ k, k < n → cur[k]? = some (.int .i64 (f k : Int))
theorem CA.cell {w : World} {g n : Nat} {f : Nat → Nat} (h : CA w g n f) {k : Nat} (hk : k < n) : w.cell? ⟨g, k, none⟩ = some (.int .i64 (f k : Int)) ∧ w.frozen? ⟨g, k, none⟩ = false := by
  obtain ⟨cur, h1, h2, h3⟩ := h
  exact ⟨by rw [cell_of_row w _ _ _ _ _ h1]; exact h3 k hk, frozen_of_row w _ _ _ _ h1⟩
theorem CA.set {w : World} {g n : Nat} {f : Nat → Nat} (h : CA w g n f) (i v : Nat) : CA (w.setCell ⟨g, i, none⟩ (.int .i64 (v : Int))) g n (fun k => if k = i then v else f k) := by
  obtain ⟨cur, h1, h2, h3⟩ := h
  refine ⟨cur.setIfInBounds i (.int .i64 (v : Int)), by rw [heap_setCell_same _ _ _ _ _ _ h1], by simpa using h2, fun k hk => ?_⟩
  dsimp only
  by_cases e : k = i
  · subst e
    rw [if_pos rfl, Array.getElem?_setIfInBounds_self_of_lt (by omega)]
  · rw [if_neg e, Array.getElem?_setIfInBounds_ne (by omega)]
    exact h3 k hk
theorem CA.block {w w' : World} {g n : Nat} {f : Nat → Nat} (h : CA w g n f) (e : w'.heap[g]? = w.heap[g]?) : CA w' g n f := by
  obtain ⟨cur, h1, h2, h3⟩ := h
  exact ⟨cur, e.trans h1, h2, h3⟩
theorem CA.lt {w : World} {g n : Nat} {f : Nat → Nat} (h : CA w g n f) : g < w.heap.size := by
  obtain ⟨cur, h1, -⟩ := h
  exact lt_of_block h1
/-- What is kept while the cells of one block of memory are written. -/
structure SP (w wr : World) (B gc n : Nat) (f : Nat → Nat) : Prop where
  keep : ∀ k, k < w.heap.size → k ≠ gc → wr.heap[k]? = w.heap[k]?
  ca : CA wr gc n f
  size : w.heap.size ≤ wr.heap.size
  below : Below B w wr
theorem SP.next {w wr w' : World} {B gc n : Nat} {f : Nat → Nat} (h : SP w wr B gc n f) (hB : B ≤ wr.heap.size) (b : Below wr.heap.size wr w') : SP w w' B gc n f :=
  ⟨fun k hk hn => (b.block k (Nat.lt_of_lt_of_le hk h.size)).trans (h.keep k hk hn), h.ca.block (b.block _ h.ca.lt), Nat.le_trans h.size b.size, h.below.trans (b.mono hB)⟩
theorem SP.set {w wr : World} {B gc n : Nat} {f : Nat → Nat} (h : SP w wr B gc n f) (hB : B ≤ gc) (i v : Nat) : SP w (wr.setCell ⟨gc, i, none⟩ (.int .i64 (v : Int))) B gc n (fun k => if k = i then v else f k) :=
  ⟨fun k hk hn => (Below.heap_setCell _ _ _ _ hn).trans (h.keep k hk hn), h.ca.set i v, by rw [World.size_setCell]; exact h.size, h.below.setCell hB _⟩
end Go.Proofs.YtfdbgkdbmlmigaaDoor

namespace Go.Proofs.YtfdbgkdbmlmigaaDoor
open Go.RowKit
set_option linter.unusedVariables false
end Go.Proofs.YtfdbgkdbmlmigaaDoor

namespace Go.Proofs.YtfdbgkdbmlmigaaDoor
open Go.RowKit
set_option linter.unusedVariables false
end Go.Proofs.YtfdbgkdbmlmigaaDoor

namespace Go.Proofs.YtfdbgkdbmlmigaaDoor
open Go.RowKit
set_option linter.unusedVariables false
end Go.Proofs.YtfdbgkdbmlmigaaDoor

namespace Go.Proofs.YtfdbgkdbmlmigaaDoor
open Go.RowKit
set_option linter.unusedVariables false

/-- The pattern mirrored; turned by a quarter (as wide as it was high). -/
def mirP (W H : Nat) (xs : List Int) : List Int := (List.range (W * H)).map fun q => xs.getD (q / W * W + (W - 1 - q % W)) 0
def qtrP (W H : Nat) (xs : List Int) : List Int := (List.range (H * W)).map fun q => xs.getD ((H - 1 - q % H) * W + q / H) 0
/-- At block g a list of n ints of the call's own; what stands at f i, for i below k, is xs' i-th. -/
structure ScJ (w0 w : World) (g n k : Nat) (f : Nat → Nat) (xs : List Int) : Prop where
  below : Below w0.heap.size w0 w
  ge : w0.heap.size ≤ g
  lt : g < w.heap.size
  cells : ∀ j, j < n → ∃ v, w.cell? ⟨g, j, none⟩ = some v ∧ (∀ i, i < k → f i = j → v = .int .i64 (xs.getD i 0))
  fz : ∀ j, w.frozen? ⟨g, j, none⟩ = false
theorem ScJ.step {w0 w : World} {g n k : Nat} {f : Nat → Nat} {xs : List Int} (h : ScJ w0 w g n k f xs) (hk : f k < n) (hinj : ∀ i, i < k → f i ≠ f k) {x : Int} (hx : xs.getD k 0 = x) : ScJ w0 (w.setCell ⟨g, f k, none⟩ (.int .i64 x)) g n (k + 1) f xs := by
  refine ⟨h.below.setCell h.ge _, h.ge, by rw [World.size_setCell]; exact h.lt, fun j hj => ?_, fun j => by rw [World.frozen?_setCell]; exact h.fz j⟩
  by_cases e : j = f k
  · subst e
    obtain ⟨v, hv, -⟩ := h.cells _ hj
    refine ⟨_, World.cell?_setCell_same _ _ _ hv, fun i hi he => ?_⟩
    by_cases q : i = k
    · subst q; rw [hx]
    · exact absurd he (hinj i (by omega))
  · obtain ⟨v, hv, hv'⟩ := h.cells j hj
    refine ⟨v, ?_, fun i hi he => hv' i (by have : i ≠ k := fun q => e (by rw [← he, q]); omega) he⟩
    exact (World.cell?_setCell_other _ ⟨g, f k, none⟩ ⟨g, j, none⟩ _ (fun q => e (congrArg Addr.off q).symm)).trans hv
theorem ScJ.drewN {w0 w : World} {g n k : Nat} {f : Nat → Nat} {xs : List Int} (h : ScJ w0 w g n k f xs) (m : Nat) : ScJ w0 (w.drewN m) g n k f xs :=
  ⟨h.below.trans ⟨rfl, rfl, rfl, Nat.le_refl _, fun _ _ => rfl⟩, h.ge, h.lt, h.cells, h.fz⟩
theorem ScJ.start {w0 w : World} {g n : Nat} (f : Nat → Nat) (xs ys : List Int) (hb : Below w0.heap.size w0 w) (hg : w0.heap.size ≤ g) (hc : Cel w g ys) (hn : ys.length = n) : ScJ w0 w g n 0 f xs :=
  ⟨hb, hg, hc.lt, fun j hj => ⟨_, hc.cells j (by omega), fun i hi => by omega⟩, hc.fz⟩
theorem ScJ.cel {w0 w : World} {g n : Nat} {f fi : Nat → Nat} {xs : List Int} (h : ScJ w0 w g n n f xs) (h1 : ∀ j, j < n → fi j < n) (h2 : ∀ j, j < n → f (fi j) = j) : Cel w g ((List.range n).map fun j => xs.getD (fi j) 0) := by
  refine ⟨h.lt, fun k hk => ?_, h.fz⟩
  simp only [List.length_map, List.length_range] at hk
  obtain ⟨v, hv, hv'⟩ := h.cells k hk
  rw [hv, hv' (fi k) (h1 k hk) (h2 k hk)]
  simp [List.getD, hk]
end Go.Proofs.YtfdbgkdbmlmigaaDoor

namespace Go.Proofs.YtfdbgkdbmlmigaaDoor
open Go.RowKit
set_option linter.unusedVariables false

def hd2 (s : ByteArray) (i a b : Nat) : (Nat × Nat × Nat) ⊕ (Nat × Nat) := match wordF s [10] i with | .inr k => .inr (k, 2) | .inl k => .inl (a, b, k)
def hd1 (s : ByteArray) (i a : Nat) : (Nat × Nat × Nat) ⊕ (Nat × Nat) := match sideS s [44, 32, 121, 32, 61, 32] i with | .inr e => .inr e | .inl (h, j) => hd2 s j a h
def wd (q : Nat) : ByteArray := if q = 0 then ⟨#[120, 32, 61, 32]⟩ else if q = 1 then ⟨#[44, 32, 121, 32, 61, 32]⟩ else ⟨#[10]⟩

structure SdW (w wr : World) (a b : Nat) : Prop where
  below : Below w.heap.size w wr
  size : w.heap.size + 2 ≤ wr.heap.size
  words : ∀ q, q < 3 → wr.cell? ⟨w.heap.size, q, none⟩ = some (.string (wd q))
  n0 : wr.cell? ⟨w.heap.size + 1, 0, none⟩ = some (.int .i64 (a : Int))
  n1 : wr.cell? ⟨w.heap.size + 1, 1, none⟩ = some (.int .i64 (b : Int))
  fz : ∀ k, wr.frozen? ⟨w.heap.size + 1, k, none⟩ = false
theorem SdW.drewN {w wr : World} {a b : Nat} (h : SdW w wr a b) (n : Nat) : SdW w (wr.drewN n) a b :=
  ⟨h.below.trans ⟨rfl, rfl, rfl, Nat.le_refl _, fun _ _ => rfl⟩, h.size, h.words, h.n0, h.n1, h.fz⟩
theorem SdW.start (w : World) (t1 t2 : TypeId) : SdW w ((w.alloc (.cells #[.string ⟨#[120, 32, 61, 32]⟩, .string ⟨#[44, 32, 121, 32, 61, 32]⟩, .string ⟨#[10]⟩] t1)).alloc (.cells #[.int .i64 0, .int .i64 0, .int .i64 0] t2)) 0 0 := by
  refine ⟨((Below.refl _ _).alloc (Nat.le_refl _) _).alloc (by simp) _, by simp, fun q hq => ?_, ?_, ?_, fun k => ?_⟩
  · rw [World.cell?_alloc_past _ _ _ (by simp), World.cell?_alloc_at _ _ _ _ rfl]
    match q, hq with
    | 0, _ => rfl
    | 1, _ => rfl
    | 2, _ => rfl
  · rw [World.cell?_alloc_at _ _ _ _ (by simp)]; rfl
  · rw [World.cell?_alloc_at _ _ _ _ (by simp)]; rfl
  · simp

end Go.Proofs.YtfdbgkdbmlmigaaDoor

namespace Go.Proofs.YtfdbgkdbmlmigaaDoor
open Go.RowKit
set_option linter.unusedVariables false

end Go.Proofs.YtfdbgkdbmlmigaaDoor

namespace Go.Proofs.YtfdbgkdbmlmigaaDoor
open Go.RowKit
set_option linter.unusedVariables false

end Go.Proofs.YtfdbgkdbmlmigaaDoor

namespace Go.Proofs.YtfdbgkdbmlmigaaDoor
open Go

end Go.Proofs.YtfdbgkdbmlmigaaDoor

namespace Go.Proofs.YtfdbgkdbmlmigaaDoor
open Go.RowKit
set_option linter.unusedVariables false

/-- The result's block. -/
structure ResB (R : Nat) (w : World) : Prop where
  c0 : w.cell? ⟨R, 0, none⟩ = some (.int .i64 0)
  c1 : w.cell? ⟨R, 1, none⟩ = some (.int .i64 0)
  c2 : w.cell? ⟨R, 2, none⟩ = some (.slice none 0 0)
  f0 : w.frozen? ⟨R, 0, none⟩ = false
  f1 : w.frozen? ⟨R, 1, none⟩ = false
  f2 : w.frozen? ⟨R, 2, none⟩ = false
theorem ResB.block {R : Nat} {w w' : World} (h : ResB R w) (e : w'.heap[R]? = w.heap[R]?) : ResB R w' :=
  ⟨(World.cell?_of_block (w := w) (a := ⟨R, 0, none⟩) e).trans h.c0, (World.cell?_of_block (w := w) (a := ⟨R, 1, none⟩) e).trans h.c1, (World.cell?_of_block (w := w) (a := ⟨R, 2, none⟩) e).trans h.c2,
   (World.frozen?_of_block (w := w) (a := ⟨R, 0, none⟩) e).trans h.f0, (World.frozen?_of_block (w := w) (a := ⟨R, 1, none⟩) e).trans h.f1, (World.frozen?_of_block (w := w) (a := ⟨R, 2, none⟩) e).trans h.f2⟩
def resW (w : World) : World := w.alloc (.cells #[.int .i64 0, .int .i64 0, .slice none 0 0] 26)
theorem resW_size (w : World) : (resW w).heap.size = w.heap.size + 1 := by simp [resW]
theorem ResB.below {w w' : World} {R : Nat} (h : ResB R w) (hR : R < w.heap.size) (hb : Below (R + 1) w w') : ResB R w' := h.block (hb.block R (by omega))

structure JCells (s : ByteArray) (w0 w' : World) (v : Rv) (W H g : Nat) (xs : List Int) : Prop where
  rat : RAt (w0.heap.size + 1) s v w'
  wd : v.wd = (W : Int)
  hi : v.hi = (H : Int)
  cs : v.cs = .slice (some ⟨g, 0, none⟩) (W * H) (W * H)
  cel : Cel w' g xs
  len : xs.length = W * H
  gb : w0.heap.size + 1 < g
  lw : W ≤ 100
  lh : H ≤ 100
  li : v.i ≤ s.size
  below : Below (w0.heap.size + 1) (resW w0) w'
theorem JCells.rd {s : ByteArray} {w0 w' w'' : World} {v v' : Rv} {W H g : Nat} {xs : List Int} (h : JCells s w0 w' v W H g xs) (ha : RAt (w0.heap.size + 1) s v' w'') (hr : Rd (w0.heap.size + 1) w' w'') (h1 : v'.wd = v.wd) (h2 : v'.hi = v.hi) (h3 : v'.cs = v.cs) (h4 : v'.i ≤ s.size) : JCells s w0 w'' v' W H g xs :=
  ⟨ha, h1.trans h.wd, h2.trans h.hi, h3.trans h.cs, h.cel.rd hr (by have := h.gb; omega), h.len, h.gb, h.lw, h.lh, h4, h.below.trans (hr.below (Nat.le_refl _) (by have := h.below.size; rw [resW_size] at this; omega))⟩

end Go.Proofs.YtfdbgkdbmlmigaaDoor

namespace Go.Proofs.YtfdbgkdbmlmigaaDoor
open Go.RowKit
set_option linter.unusedVariables false

theorem JCells.cells {s : ByteArray} {w0 w' w'' : World} {v v' : Rv} {W H g : Nat} {xs xs' : List Int} (h : JCells s w0 w' v W H g xs) (ha : RAt (w0.heap.size + 1) s v' w'') (hb : Below (w0.heap.size + 1) w' w'') (hC : Cel w'' g xs') (hl : xs'.length = xs.length) (h1 : v'.wd = v.wd) (h2 : v'.hi = v.hi) (h3 : v'.cs = v.cs) (h4 : v'.i ≤ s.size) : JCells s w0 w'' v' W H g xs' :=
  ⟨ha, h1.trans h.wd, h2.trans h.hi, h3.trans h.cs, hC, hl.trans h.len, h.gb, h.lw, h.lh, h4, h.below.trans hb⟩
end Go.Proofs.YtfdbgkdbmlmigaaDoor

namespace Go.Proofs.YtfdbgkdbmlmigaaDoor
open Go.RowKit
set_option linter.unusedVariables false

structure RS (w wr : World) (P W H : Nat) (xs : List Int) : Prop where
  res : ResB w.heap.size wr
  non : ResB (w.heap.size + 1) wr
  p0 : wr.cell? ⟨P, 0, none⟩ = some (.int .i64 (W : Int))
  p1 : wr.cell? ⟨P, 1, none⟩ = some (.int .i64 (H : Int))
  p2 : wr.cell? ⟨P, 2, none⟩ = some (.slice (some ⟨P + 1, 0, none⟩) (W * H) (W * H))
  cel : Cel wr (P + 1) xs
  len : xs.length = W * H
  hP : w.heap.size + 2 ≤ P
  below : Below w.heap.size w wr
theorem RS.set {w wr : World} {P W H : Nat} {xs : List Int} (h : RS w wr P W H xs) (p : Nat) (x : Int) (hp : p < xs.length) : RS w (wr.setCell ⟨P + 1, p, none⟩ (.int .i64 x)) P W H (xs.set p x) := by
  have hP := h.hP
  refine ⟨h.res.block (Below.heap_setCell _ _ _ _ (by simp; omega)), h.non.block (Below.heap_setCell _ _ _ _ (by simp; omega)), ?_, ?_, ?_, h.cel.set p x hp, by rw [List.length_set]; exact h.len, hP, h.below.setCell (by simp; omega) _⟩
  · exact (World.cell?_of_block (w := wr) (a := ⟨P, 0, none⟩) (Below.heap_setCell _ _ _ _ (by simp))).trans h.p0
  · exact (World.cell?_of_block (w := wr) (a := ⟨P, 1, none⟩) (Below.heap_setCell _ _ _ _ (by simp))).trans h.p1
  · exact (World.cell?_of_block (w := wr) (a := ⟨P, 2, none⟩) (Below.heap_setCell _ _ _ _ (by simp))).trans h.p2

theorem res_new (w : World) (t : TypeId) : ResB w.heap.size (w.alloc (.cells #[.int .i64 0, .int .i64 0, .slice none 0 0] t)) :=
  ⟨cell_new_at _ _ _ _, cell_new_at _ _ _ _, cell_new_at _ _ _ _, by simp, by simp, by simp⟩
theorem RS.start {w w1 : World} {W H : Nat} (t1 t2 t3 t4 : TypeId) (hW : W ≤ 100) (hH : H ≤ 100)
    (hb : Below (w.heap.size + 2) ((w.alloc (.cells #[.int .i64 0, .int .i64 0, .slice none 0 0] t1)).alloc (.cells #[.int .i64 0, .int .i64 0, .slice none 0 0] t2)) w1) (N : Nat) (hN : W * H = N) :
    RS w ((w1.alloc (.cells #[.int .i64 (W : Int), .int .i64 (H : Int), .slice (some ⟨w1.heap.size + 1, 0, none⟩) N N] t3)).alloc (.cells (madeCells #[.int .i64 0] N) t4)) w1.heap.size W H (List.replicate N 0) := by
  subst hN
  have z := hb.size
  simp at z
  have r0 := (res_new w t1).block (w' := (w.alloc (.cells #[.int .i64 0, .int .i64 0, .slice none 0 0] t1)).alloc (.cells #[.int .i64 0, .int .i64 0, .slice none 0 0] t2)) (Below.heap_alloc _ _ _ (by simp))
  have r1 := res_new (w.alloc (.cells #[.int .i64 0, .int .i64 0, .slice none 0 0] t1)) t2
  rw [show (w.alloc (.cells #[.int .i64 0, .int .i64 0, .slice none 0 0] t1)).heap.size = w.heap.size + 1 by simp] at r1
  have e : ∀ k, k < w1.heap.size → ((w1.alloc (.cells #[.int .i64 (W : Int), .int .i64 (H : Int), .slice (some ⟨w1.heap.size + 1, 0, none⟩) (W * H) (W * H)] t3)).alloc (.cells (madeCells #[.int .i64 0] (W * H)) t4)).heap[k]? = w1.heap[k]? := fun k hk =>
    (Below.heap_alloc _ _ _ (by simp; omega)).trans (Below.heap_alloc _ _ _ hk)
  refine ⟨(r0.block (hb.block _ (by omega))).block (e _ (by omega)), (r1.block (hb.block _ (by omega))).block (e _ (by omega)), ?_, ?_, ?_, ⟨by simp, fun k hk => ?_, fun k => by simp⟩, by simp, z, ?_⟩
  · rw [World.cell?_alloc_past _ _ _ (by simp), World.cell?_alloc_at _ _ _ _ rfl]; rfl
  · rw [World.cell?_alloc_past _ _ _ (by simp), World.cell?_alloc_at _ _ _ _ rfl]; rfl
  · rw [World.cell?_alloc_past _ _ _ (by simp), World.cell?_alloc_at _ _ _ _ rfl]; rfl
  · rw [World.cell?_alloc_at _ _ _ _ (by simp)]
    rw [List.length_replicate] at hk
    rw [show (List.replicate (W * H) (0 : Int)).getD k 0 = 0 by simp [List.getD, hk]]
    rw [← Array.getElem?_toList, toList_madeCells_one]
    simp [hk]
  · exact (((((Below.refl _ _).alloc (Nat.le_refl _) _).alloc (by simp) _).trans (hb.mono (by omega))).alloc (by omega) _).alloc (by simp; omega) _
end Go.Proofs.YtfdbgkdbmlmigaaDoor

