/-
  What the last text of this claim leans on, part 7: DSpec, Da1, Da2, Da3, Wd1, Wd2, We1, Wf1, Gs2, Bk7, Bk8, Bk9, Bka, Bkb, Bkd, Bke, Bkf, Gb7, Ab2, Ab3.
-/
import Derived.Test.YtbkllhlapdmlfaaQn1
import Derived.Test.YtbkllhlapdmlfaaQn2
import Derived.Test.YtbkllhlapdmlfaaQn6
import Derived.Test.YtbkllhlapdmlfaaQn4
import Derived.Test.YtbkllhlapdmlfaaQn5
import Derived.Laws.RangeAny
import Derived.Lib.OthersKept
import Derived.Laws.CopyOwn
import Derived.Deep.AppendLies
import Derived.Deep.RegionLaw
import Derived.Deep.CutRange
import Derived.BigRegion
import Derived.Deep.RegionHeld3
namespace Go.Proofs.Ytbkllhlapdmlfaa

def isDot (s : ByteArray) (i : Nat) : Bool := decide (bt s i = 194) && decide (i + 1 < s.size) && decide (bt s (i + 1) = 183)
def isBall (s : ByteArray) (i : Nat) : Bool := decide (bt s i = 226) && decide (i + 2 < s.size) && decide (bt s (i + 1) = 151) && decide (bt s (i + 2) = 143)
/-- A drawing from i on: its row began at r, with n cells so far; wide, high and the cells of what was read. -/
def drawF (s : ByteArray) : Nat → Nat → Nat → Nat → Nat → Nat → List Int → (Nat × Nat × List Int) ⊕ (Nat × Nat)
  | 0, _, _, _, _, _, _ => .inr (0, 0)
  | f + 1, i, r, n, wide, high, xs =>
    if s.size ≤ i then (if r < s.size then .inr (s.size, 2) else .inl (wide, high, xs))
    else if isDot s i then (if high = 100 then .inr (r, 1) else if n = 100 then .inr (i, 1) else drawF s f (i + 2) r (n + 1) wide high (xs ++ [0]))
    else if isBall s i then (if high = 100 then .inr (r, 1) else if n = 100 then .inr (i, 1) else drawF s f (i + 3) r (n + 1) wide high (xs ++ [1]))
    else if bt s i ≠ 10 then .inr (i, 2)
    else if high = 100 then .inr (r, 1)
    else if 0 < high ∧ n ≠ wide then .inr (r, 3)
    else drawF s f (i + 1) (i + 1) 0 n (high + 1) xs

def drawS (s : ByteArray) : (Nat × Nat × List Int) ⊕ (Nat × Nat) :=
  if 40000 < s.size then .inr (0, 4) else drawF s (s.size + 1) 0 0 0 0 0 []
end Go.Proofs.Ytbkllhlapdmlfaa

namespace Go.Proofs.Ytbkllhlapdmlfaa
open Go.RowKit
set_option linter.unusedVariables false

/-- Of the blocks below base, b alone may have turned. -/
structure DRd (b base : Nat) (w w' : World) : Prop where
  os : w'.os = w.os
  tape : w'.tape = w.tape
  output : w'.output = w.output
  size : w.heap.size ≤ w'.heap.size
  block : ∀ k, k < base → k ≠ b → w'.heap[k]? = w.heap[k]?
theorem DRd.refl (b base : Nat) (w : World) : DRd b base w w := ⟨rfl, rfl, rfl, Nat.le_refl _, fun _ _ _ => rfl⟩
theorem DRd.trans {b base : Nat} {a c d : World} (h : DRd b base a c) (k : DRd b base c d) : DRd b base a d :=
  ⟨k.os.trans h.os, k.tape.trans h.tape, k.output.trans h.output, Nat.le_trans h.size k.size, fun i hi hb => (k.block i hi hb).trans (h.block i hi hb)⟩
/-- The drawing at b: its sides so far, the slice of its cells, where its row begins, how many it has. -/
structure DAt (b : Nat) (W H : Nat) (v : Value) (r n : Nat) (w : World) : Prop where
  c0 : w.cell? ⟨b, 0, none⟩ = some (.int .i64 (W : Int))
  c1 : w.cell? ⟨b, 1, none⟩ = some (.int .i64 (H : Int))
  c2 : w.cell? ⟨b, 2, none⟩ = some v
  c3 : w.cell? ⟨b, 3, none⟩ = some (.int .i64 (r : Int))
  c4 : w.cell? ⟨b, 4, none⟩ = some (.int .i64 (n : Int))
  fz : ∀ k, w.frozen? ⟨b, k, none⟩ = false
theorem DAt.block {b W H : Nat} {v : Value} {r n : Nat} {w w' : World} (h : DAt b W H v r n w) (e : w'.heap[b]? = w.heap[b]?) : DAt b W H v r n w' :=
  ⟨(World.cell?_of_block (w := w) (a := ⟨b, 0, none⟩) e).trans h.c0, (World.cell?_of_block (w := w) (a := ⟨b, 1, none⟩) e).trans h.c1, (World.cell?_of_block (w := w) (a := ⟨b, 2, none⟩) e).trans h.c2, (World.cell?_of_block (w := w) (a := ⟨b, 3, none⟩) e).trans h.c3, (World.cell?_of_block (w := w) (a := ⟨b, 4, none⟩) e).trans h.c4,
   fun k => (World.frozen?_of_block (w := w) (a := ⟨b, k, none⟩) e).trans (h.fz k)⟩
theorem cell_same {w : World} {b k : Nat} {v u : Value} (h : w.cell? ⟨b, k, none⟩ = some v) : (w.setCell ⟨b, k, none⟩ u).cell? ⟨b, k, none⟩ = some u := World.cell?_setCell_same _ _ _ h
theorem cell_other {w : World} {b k j : Nat} {v u : Value} (h : w.cell? ⟨b, j, none⟩ = some v) (hk : k ≠ j) : (w.setCell ⟨b, k, none⟩ u).cell? ⟨b, j, none⟩ = some v :=
  (World.cell?_setCell_other _ ⟨b, k, none⟩ ⟨b, j, none⟩ _ (fun q => hk (congrArg Addr.off q))).trans h
end Go.Proofs.Ytbkllhlapdmlfaa

namespace Go.Proofs.Ytbkllhlapdmlfaa
open Go.RowKit
set_option linter.unusedVariables false

end Go.Proofs.Ytbkllhlapdmlfaa

namespace Go.Proofs.Ytbkllhlapdmlfaa
open Go.RowKit
set_option linter.unusedVariables false

theorem ownsRow_from {w w' : World} {base : Nat} {e : TypeId} {v : Value} {n : Nat} {xs : List Value} (h : w.ownsRow base e 1 v n xs) (hb : ∀ k, base ≤ k → k < w.heap.size → w'.heap[k]? = w.heap[k]?) : w'.ownsRow base e 1 v n xs := by
  refine ⟨h.1, ?_⟩
  rcases h.2 with h0 | ⟨g, cap, cur, hv, hg, hh, rest⟩
  · exact Or.inl h0
  · exact Or.inr ⟨g, cap, cur, hv, hg, (hb g hg (Array.getElem?_eq_some_iff.1 hh).1).trans hh, rest⟩

/-- What holds of the numbers between two rounds. -/
structure DNum (s : ByteArray) (i r n W H : Nat) (xs : List Int) : Prop where
  li : i ≤ s.size
  lH : H ≤ 100
  ln : n ≤ 100
  lW : W ≤ 100
  len : xs.length = H * W + n
  top : H = 100 → n = 0
  row : n = 0 → r = i
  lr : r ≤ i
  eq : drawF s (s.size + 1 - i) i r n W H xs = drawS s
theorem DNum.cell {s : ByteArray} {i r n W H : Nat} {xs : List Int} (h : DNum s i r n W H xs) (j : Nat) (x : Int) (hj : j ≤ s.size) (hij : i ≤ j) (hH : ¬ H = 100) (hn : ¬ n = 100) (e : drawF s (s.size + 1 - i) i r n W H xs = drawF s (s.size + 1 - j) j r (n + 1) W H (xs ++ [x])) : DNum s j r (n + 1) W H (xs ++ [x]) :=
  ⟨hj, h.lH, by have := h.ln; omega, h.lW, by have := h.len; simp; omega, fun q => absurd q hH, fun q => by omega, Nat.le_trans h.lr hij, e.symm.trans h.eq⟩
theorem DNum.all {s : ByteArray} {i r n W H : Nat} {xs : List Int} (h : DNum s i r n W H xs) : xs.length ≤ 10100 := by
  have h2 : H * W ≤ 100 * 100 := Nat.mul_le_mul h.lH h.lW
  have h3 := h.len
  have h4 := h.ln
  omega
/-- pattern.ParseDraw's memory between two rounds: the result's block, the drawing's, the iterator's. -/
structure DS (s : ByteArray) (w wr : World) (i r n W H : Nat) (v : Value) (xs : List Int) : Prop where
  it : wr.heap[w.heap.size + 2]? = some (.stringIter s i)
  dat : DAt (w.heap.size + 1) W H v r n wr
  own : wr.ownsRow (w.heap.size + 3) 3 1 v xs.length (xs.map fun x => .int .i64 x)
  res : ResB w.heap.size wr
  below : Below w.heap.size w wr
theorem DS.sz {s : ByteArray} {w wr : World} {i r n W H : Nat} {v : Value} {xs : List Int} (h : DS s w wr i r n W H v xs) : w.heap.size + 3 ≤ wr.heap.size := (Array.getElem?_eq_some_iff.1 h.it).1
theorem DS.rd {s : ByteArray} {w wr w' : World} {i r n W H r' n' W' H' : Nat} {v : Value} {xs : List Int} (h : DS s w wr i r n W H v xs) (hr : Rd (w.heap.size + 1) wr w') (hd : DAt (w.heap.size + 1) W' H' v r' n' w') : DS s w w' i r' n' W' H' v xs := by
  have hz := h.sz
  exact ⟨(hr.block _ (by omega) (by omega)).trans h.it, hd, ownsRow_from h.own fun k hk hl => hr.block k hl (by omega), h.res.block (hr.block _ (by omega) (by omega)), h.below.trans (hr.below (by omega) (by omega))⟩
end Go.Proofs.Ytbkllhlapdmlfaa

namespace Go.Proofs.Ytbkllhlapdmlfaa
open Go.RowKit
set_option linter.unusedVariables false

theorem TB.store {p : Nat} {a b c : Value} {w : World} (h : TB p a b c w) (a' b' c' : Value) : TB p a' b' c' (((w.setCell ⟨p, 0, none⟩ a').setCell ⟨p, 1, none⟩ b').setCell ⟨p, 2, none⟩ c') :=
  ⟨cell_other (cell_other (cell_same h.c0) (by omega)) (by omega), cell_other (cell_same (cell_other h.c1 (by omega))) (by omega), cell_same (cell_other (cell_other h.c2 (by omega)) (by omega)), fun k => by rw [World.frozen?_setCell, World.frozen?_setCell, World.frozen?_setCell]; exact h.fz k⟩
end Go.Proofs.Ytbkllhlapdmlfaa

namespace Go.Proofs.Ytbkllhlapdmlfaa
open Go.RowKit
set_option linter.unusedVariables false

end Go.Proofs.Ytbkllhlapdmlfaa

namespace Go.Proofs.Ytbkllhlapdmlfaa
open Go.RowKit
set_option linter.unusedVariables false

end Go.Proofs.Ytbkllhlapdmlfaa

namespace Go.Proofs.Ytbkllhlapdmlfaa
open Go.RowKit
set_option linter.unusedVariables false

end Go.Proofs.Ytbkllhlapdmlfaa

namespace Go.Proofs.Ytbkllhlapdmlfaa
open Go.RowKit
set_option linter.unusedVariables false
end Go.Proofs.Ytbkllhlapdmlfaa

namespace Go.Proofs.Ytbkllhlapdmlfaa
open Go.RowKit
set_option linter.unusedVariables false
structure Kp (w W V : World) : Prop where
  keep : ∀ k, k < W.heap.size → V.heap[k]? = W.heap[k]?
  size : W.heap.size ≤ V.heap.size
  below : Below w.heap.size w V
theorem Kp.drew {w W V : World} (h : Kp w W V) : Kp w W V.drew := ⟨h.keep, h.size, ⟨h.below.os, h.below.tape, h.below.output, h.below.size, h.below.block⟩⟩
theorem Kp.alloc {w W V : World} (h : Kp w W V) (o : Obj) : Kp w W (V.alloc o) := ⟨fun k hk => (Below.heap_alloc _ _ _ (Nat.lt_of_lt_of_le hk h.size)).trans (h.keep k hk), by simp; have := h.size; omega, h.below.alloc h.below.size _⟩
theorem Kp.call {w W S U : World} (h : Kp w W S) (b : Below S.heap.size S U) {g : Nat} (hg : S.heap.size ≤ g) : Kp w W U ∧ W.heap.size ≤ g := ⟨⟨fun k hk => (b.block k (Nat.lt_of_lt_of_le hk h.size)).trans (h.keep k hk), Nat.le_trans h.size b.size, h.below.trans (b.mono h.below.size)⟩, Nat.le_trans h.size hg⟩
end Go.Proofs.Ytbkllhlapdmlfaa

namespace Go.Proofs.Ytbkllhlapdmlfaa
open Go.RowKit
set_option linter.unusedVariables false
end Go.Proofs.Ytbkllhlapdmlfaa

namespace Go.Proofs.Ytbkllhlapdmlfaa
open Go.RowKit
set_option linter.unusedVariables false
end Go.Proofs.Ytbkllhlapdmlfaa

namespace Go.Proofs.Ytbkllhlapdmlfaa
open Go.RowKit
set_option linter.unusedVariables false
end Go.Proofs.Ytbkllhlapdmlfaa

namespace Go.Proofs.Ytbkllhlapdmlfaa
open Go.RowKit
set_option linter.unusedVariables false
end Go.Proofs.Ytbkllhlapdmlfaa

namespace Go.Proofs.Ytbkllhlapdmlfaa
open Go.RowKit
set_option linter.unusedVariables false
end Go.Proofs.Ytbkllhlapdmlfaa

namespace Go.Proofs.Ytbkllhlapdmlfaa
open Go.RowKit
set_option linter.unusedVariables false
end Go.Proofs.Ytbkllhlapdmlfaa

namespace Go.Proofs.Ytbkllhlapdmlfaa
open Go.RowKit
set_option linter.unusedVariables false
end Go.Proofs.Ytbkllhlapdmlfaa

namespace Go.Proofs.Ytbkllhlapdmlfaa
open Go.RowKit
set_option linter.unusedVariables false
theorem IsI_zero : IsI 0 0 := by
  have := IsI_of 0 (by decide)
  exact this
end Go.Proofs.Ytbkllhlapdmlfaa

namespace Go.Proofs.Ytbkllhlapdmlfaa
open Go.RowKit
set_option linter.unusedVariables false
/-- What a map of colours holds. -/
structure MCo (D : DataW Unit) (col : Int → Int → Nat) : Prop where
  at' : ∀ x y, inC x → inC y → D.atKey (kC x y) (.lit (.int .i64 0)) = .lit (.int .i64 (col x y : Int))
  has : ∀ x y, inC x → inC y → Maps.has D (kC x y) = decide (col x y ≠ 0)
  keys : ∀ kl, Maps.has D kl = true → ∃ x y, inC x ∧ inC y ∧ kl = kC x y
  isMap : Maps.IsMap D
  out : ∀ x y, ¬ (inC x ∧ inC y) → col x y = 0
theorem MCo.empty : MCo (.map []) (fun _ _ => 0) := ⟨fun _ _ _ _ => rfl, fun _ _ _ _ => rfl, (fun kl h => by cases h), Maps.isMap_empty, fun _ _ _ => rfl⟩
theorem kC_ne {x y u v : Int} (hx : inC x) (hy : inC y) (hu : inC u) (hv : inC v) (h : ¬ (u = x ∧ v = y)) : kC u v ≠ kC x y := fun e => h (kC_inj hu hv hx hy e)
theorem MCo.put {D : DataW Unit} {col : Int → Int → Nat} (h : MCo D col) {x y : Int} (hx : inC x) (hy : inC y) {c : Nat} (hc : c ≠ 0) : MCo (D.put (kC x y) (.lit (.int .i64 (c : Int)))) (setA col x y c) := by
  have hk : WideAt.IsKeyLit (kC x y) := trivial
  refine ⟨fun u v hu hv => ?_, fun u v hu hv => ?_, fun kl hkl => ?_, h.isMap.put _ _, fun u v huv => ?_⟩
  · unfold setA
    by_cases e : u = x ∧ v = y
    · rw [if_pos e, e.1, e.2, Maps.atKey_put_same h.isMap hk]
    · rw [if_neg e, Maps.atKey_put_other (kC_ne hx hy hu hv e)]; exact h.at' u v hu hv
  · unfold setA
    by_cases e : u = x ∧ v = y
    · rw [if_pos e, e.1, e.2, Maps.has_put_same h.isMap hk]; simp [hc]
    · rw [if_neg e, Maps.has_put_other (kC_ne hx hy hu hv e)]; exact h.has u v hu hv
  · by_cases e : kl = kC x y
    · exact ⟨x, y, hx, hy, e⟩
    · rw [Maps.has_put_other e] at hkl; exact h.keys kl hkl
  · unfold setA
    rw [if_neg (fun e => huv (by rw [e.1, e.2]; exact ⟨hx, hy⟩))]
    exact h.out u v huv
theorem MCo.del {D : DataW Unit} {col : Int → Int → Nat} (h : MCo D col) {x y : Int} (hx : inC x) (hy : inC y) : MCo (D.del (kC x y)) (setA col x y 0) := by
  refine ⟨fun u v hu hv => ?_, fun u v hu hv => ?_, fun kl hkl => ?_, h.isMap.del _, fun u v huv => ?_⟩
  · unfold setA
    by_cases e : u = x ∧ v = y
    · rw [if_pos e, e.1, e.2, Maps.atKey_del_same]; rfl
    · rw [if_neg e, Maps.atKey_del_other (kC_ne hx hy hu hv e)]; exact h.at' u v hu hv
  · unfold setA
    by_cases e : u = x ∧ v = y
    · rw [if_pos e, e.1, e.2, Maps.has_del_same]; rfl
    · rw [if_neg e, Maps.has_del_other (kC_ne hx hy hu hv e)]; exact h.has u v hu hv
  · by_cases e : kl = kC x y
    · rw [e, Maps.has_del_same] at hkl; cases hkl
    · rw [Maps.has_del_other e] at hkl; exact h.keys kl hkl
  · unfold setA
    rw [if_neg (fun e => huv (by rw [e.1, e.2]; exact ⟨hx, hy⟩))]
    exact h.out u v huv
/-- The number by which a letter turns, as it lies. -/
def tuV (b : Bool) : Value := .complex .f64 0 (if b then 13830554455654793216 else 4607182418800017408)
/-- The struct of a walker as it lies. -/
def wkV (tb L mb ra ia rd id : Nat) : Array Value := #[.slice (some ⟨tb, 0, none⟩) L L, .map (some mb), .complex .f64 ra ia, .complex .f64 rd id]
structure WkB (w : World) (kb tb mb L : Nat) (x y : Int) (d : Nat) : Prop where
  blk : ∃ ra ia rd id, w.heap[kb]? = some (.cells (wkV tb L mb ra ia rd id) 93 (0, 0)) ∧ IsI ra x ∧ IsI ia (-y) ∧ IsI rd (dxA d) ∧ IsI id (-(dyA d))
theorem wrap_negA {y : Int} (h : inC y) : IntKind.i64.wrap (-(-y)) = y := by unfold inC at h; rw [Int.neg_neg]; simp [IntKind.wrap, IntKind.bits, IntKind.signed]; omega
set_option maxRecDepth 100000 in
set_option maxHeartbeats 6400000 in
theorem here_any (kb tb mb L d : Nat) (x y : Int) (w : World) (h : WkB w kb tb mb L x y d) (hx : inC x) (hy : inC y) :
    Calls Try.prog 42 #[.pointer (some ⟨kb, 0, none⟩)] w fun e w' => e = .returned (.agg #[.int .i64 x, .int .i64 y]) ∧ Below w.heap.size w w' := by
  obtain ⟨ra, ia, rd, id, hb, i1, i2, -, -⟩ := h.blk
  unfold wkV at hb
  obtain ⟨w1, hw1⟩ : ∃ w1, w.alloc (.cells #[.int .i64 0, .int .i64 0] 95) = w1 := ⟨_, rfl⟩
  have BB := hide' (show Below w.heap.size w w1 by rw [← hw1]; exact (Below.refl _ _).alloc (Nat.le_refl _) _)
  have g1 : w1.heap[w.heap.size]? = some (.cells #[.int .i64 0, .int .i64 0] 95 (0, 0)) := by rw [← hw1]; exact heap_alloc_new _ _
  have gk : w1.heap[kb]? = _ := (BB.out.block kb (lt_of_block hb)).trans hb
  have c2 := cell_of_row w1 _ 2 _ _ _ gk
  simp at c2
  have r0 := cell_of_row w1 _ 0 _ _ _ g1
  have r1 := cell_of_row w1 _ 1 _ _ _ g1
  simp at r0 r1
  have f0 := frozen_of_row w1 _ 0 _ _ g1
  have f1 := frozen_of_row w1 _ 1 _ _ g1
  have l1 := lt_of_block g1
  have hc1 := fun V => run_convert_float_int (P := Try.prog) V 63 3 .f64 .i64 ra x (by rw [Try.underlying63]; rfl) Try.underlying3 (IsI_toInt i1 (by unfold inC at hx; omega))
  have hc2 := fun V => run_convert_float_int (P := Try.prog) V 63 3 .f64 .i64 ia (-y) (by rw [Try.underlying63]; rfl) Try.underlying3 (IsI_toInt i2 (by unfold inC at hy; omega))
  have wn := wrap_negA hy
  obtain ⟨z, hz⟩ : ∃ z, -y = z := ⟨_, rfl⟩
  rw [hz] at hc2 wn
  have nz : -z = y := by omega
  obtain ⟨y1, y2⟩ := hy
  clear hb gk g1 i1 i2 h hz hx
  go_enter Try.func42, Try.ntmps42
  go_upto_region 1 with fail
  clear hw1
  go_region
  go_wp2
  refine bodyPost_ret (v := .agg #[.int .i64 x, .int .i64 y]) (by simp [results, Try.results42, go_sem, r0, r1]) rfl ?_
  exact ⟨rfl, ((BB.out.setCell (by simp) _).setCell (by simp) _).drew⟩
end Go.Proofs.Ytbkllhlapdmlfaa

namespace Go.Proofs.Ytbkllhlapdmlfaa
open Go.RowKit
set_option linter.unusedVariables false
theorem below_turned {w w' : World} {B b : Nat} (h : w.mapTurned w' b) (hb : B ≤ b) (hs : B ≤ w.heap.size) : Below B w w' := by
  have g := h.grown
  exact ⟨g.os, g.tape, g.output, g.size, fun k hk => g.block k (by omega) (fun e => by injection e; omega)⟩
theorem turned_other {w w' : World} {b : Nat} (h : w.mapTurned w' b) {j : Nat} (hj : j ≠ b) (hs : j < w.heap.size) : w'.heap[j]? = w.heap[j]? :=
  h.grown.block j hs (fun e => by injection e; exact hj (by omega))
def PaintPost (B mb n : Nat) (col : Int → Int → Nat) (w : World) (e : Ending) (w' : World) : Prop := e = .returned (.tuple #[]) ∧ (∃ D, w'.ownsMap Try.prog 95 (plainElem Try.prog 3) mb (n + 1) D ∧ MCo D col) ∧ (∀ j, j ≠ mb → j < w.heap.size → w'.heap[j]? = w.heap[j]?) ∧ Below B w w' ∧ w.heap.size ≤ w'.heap.size
set_option maxRecDepth 100000 in
set_option maxHeartbeats 6400000 in
theorem paint_zero (kb tb mb n L B : Nat) (ra ia rd id : Nat) (x y z : Int) (D : DataW Unit) (col : Int → Int → Nat) (w : World) (hb : w.heap[kb]? = some (.cells (wkV tb L mb ra ia rd id) 93 (0, 0))) (hm : w.ownsMap Try.prog 95 (plainElem Try.prog 3) mb n D) (hc : MCo D col) (hx : inC x) (hy : inC y) (L1 : 1 ≤ L) (L26 : L ≤ 26) (hz : -1 ≤ z ∧ z ≤ 26) (hv : (z + (L : Int)).tmod (L : Int) = 0) (hB : B ≤ mb) (hB2 : B ≤ w.heap.size) :
    Calls Try.prog 43 #[.pointer (some ⟨kb, 0, none⟩), .agg #[.int .i64 x, .int .i64 y], .int .i64 z] w (PaintPost B mb n (setA col x y 0) w) := by
  unfold wkV at hb
  obtain ⟨w1, hw1⟩ : ∃ w1, w.alloc (.cells #[.int .i64 x, .int .i64 y] 95) = w1 := ⟨_, rfl⟩
  have BB := hide' (show Below w.heap.size w w1 by rw [← hw1]; exact (Below.refl _ _).alloc (Nat.le_refl _) _)
  have g1 : w1.heap[w.heap.size]? = some (.cells #[.int .i64 x, .int .i64 y] 95 (0, 0)) := by rw [← hw1]; exact heap_alloc_new _ _
  have gk : w1.heap[kb]? = _ := (BB.out.block kb (lt_of_block hb)).trans hb
  have c0 := cell_of_row w1 _ 0 _ _ _ gk
  have c1 := cell_of_row w1 _ 1 _ _ _ gk
  have r0 := cell_of_row w1 _ 0 _ _ _ g1
  have r1 := cell_of_row w1 _ 1 _ _ _ g1
  simp at c0 c1 r0 r1
  have hm1 : w1.drew.drew.ownsMap Try.prog 95 (plainElem Try.prog 3) mb n D := by rw [← hw1]; exact (hm.alloc _).drew.drew
  obtain ⟨w2, hrun, hown, htu⟩ := hm1.drop (t := 91) lawC Try.underlying91 (key_cell hx hy) 0
  have PO := hide' (show PaintPost B mb n (setA col x y 0) w (.returned (.tuple #[])) w2 from by
    have ml : mb ≠ w.heap.size := fun e => by have := hm.lt; omega
    have sz : w1.heap.size = w.heap.size + 1 := by rw [← hw1]; simp
    have z2 : w1.heap.size ≤ w2.heap.size := htu.grown.size
    refine ⟨rfl, ⟨_, hown.mono (by omega), hc.del hx hy⟩, fun j h1 h2 => ?_, ?_, by show w.heap.size ≤ w2.heap.size; omega⟩
    · exact (turned_other htu h1 (by show j < w1.heap.size; omega)).trans (BB.out.block j h2)
    · exact ((BB.out.mono hB2).drew.drew).trans (below_turned htu hB (by show B ≤ w1.heap.size; omega)))
  have L0 : ¬ (L : Int) = 0 := by omega
  have L0b : ((L : Int) == 0) = false := by simp; omega
  obtain ⟨z1, z2⟩ := hz
  clear hb gk g1 hm1 hown htu hm hc hx hy
  go_enter Try.func43, Try.ntmps43
  go_upto_region 1 with fail
  clear hw1
  go_region
  go_wp2
  go_region
  go_wp2
  go_end0
  exact PO.out
set_option maxRecDepth 100000 in
set_option maxHeartbeats 6400000 in
theorem paint_some (v : Nat) (v0 : v ≠ 0) (vL : v < 27) (kb tb mb n L B : Nat) (n63 : n < 4611686018427387904) (ra ia rd id : Nat) (x y z : Int) (D : DataW Unit) (col : Int → Int → Nat) (w : World) (hb : w.heap[kb]? = some (.cells (wkV tb L mb ra ia rd id) 93 (0, 0))) (hm : w.ownsMap Try.prog 95 (plainElem Try.prog 3) mb n D) (hc : MCo D col) (hx : inC x) (hy : inC y) (L1 : 1 ≤ L) (L26 : L ≤ 26) (hz : -1 ≤ z ∧ z ≤ 26) (hv : (z + (L : Int)).tmod (L : Int) = (v : Int)) (hB : B ≤ mb) (hB2 : B ≤ w.heap.size) :
    Calls Try.prog 43 #[.pointer (some ⟨kb, 0, none⟩), .agg #[.int .i64 x, .int .i64 y], .int .i64 z] w (PaintPost B mb n (setA col x y v) w) := by
  unfold wkV at hb
  obtain ⟨w1, hw1⟩ : ∃ w1, w.alloc (.cells #[.int .i64 x, .int .i64 y] 95) = w1 := ⟨_, rfl⟩
  have BB := hide' (show Below w.heap.size w w1 by rw [← hw1]; exact (Below.refl _ _).alloc (Nat.le_refl _) _)
  have g1 : w1.heap[w.heap.size]? = some (.cells #[.int .i64 x, .int .i64 y] 95 (0, 0)) := by rw [← hw1]; exact heap_alloc_new _ _
  have gk : w1.heap[kb]? = _ := (BB.out.block kb (lt_of_block hb)).trans hb
  have c0 := cell_of_row w1 _ 0 _ _ _ gk
  have c1 := cell_of_row w1 _ 1 _ _ _ gk
  have r0 := cell_of_row w1 _ 0 _ _ _ g1
  have r1 := cell_of_row w1 _ 1 _ _ _ g1
  simp at c0 c1 r0 r1
  have hm1 : w1.drew.drew.ownsMap Try.prog 95 (plainElem Try.prog 3) mb n D := by rw [← hw1]; exact (hm.alloc _).drew.drew
  obtain ⟨w2, hrun, hown, htu⟩ := hm1.store (t := 91) lawC Try.underlying91 (by unfold maxLen; omega) (key_cell hx hy) (plainElem_int Try.underlying3 (WalkArith.wf_i64 (n := (v : Int)) (by omega)))
  have PO := hide' (show PaintPost B mb n (setA col x y v) w (.returned (.tuple #[])) w2 from by
    have ml : mb ≠ w.heap.size := fun e => by have := hm.lt; omega
    have sz : w1.heap.size = w.heap.size + 1 := by rw [← hw1]; simp
    have z2 : w1.heap.size ≤ w2.heap.size := htu.grown.size
    refine ⟨rfl, ⟨_, hown, hc.put hx hy v0⟩, fun j h1 h2 => ?_, ?_, by show w.heap.size ≤ w2.heap.size; omega⟩
    · exact (turned_other htu h1 (by show j < w1.heap.size; omega)).trans (BB.out.block j h2)
    · exact ((BB.out.mono hB2).drew.drew).trans (below_turned htu hB (by show B ≤ w1.heap.size; omega)))
  have v0i : ¬ (v : Int) = 0 := by omega
  have v0b : ((v : Int) == 0) = false := by simp; omega
  have L0 : ¬ (L : Int) = 0 := by omega
  have L0b : ((L : Int) == 0) = false := by simp; omega
  obtain ⟨z1, z2⟩ := hz
  clear hb gk g1 hm1 hown htu hm hc hx hy
  go_enter Try.func43, Try.ntmps43
  go_upto_region 1 with fail
  clear hw1
  go_region
  go_wp2
  go_region
  go_wp2
  go_end0
  exact PO.out
end Go.Proofs.Ytbkllhlapdmlfaa

