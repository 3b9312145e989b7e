/-
  What the last text of this claim leans on, part 6: Da1, Da2, Da3, Wd1, Wd2, We1, Wf1, Gs2, Bk7, Bk8, Bk9, Bka, Bkb, Bkd, Bke, Bkf, Bkg, Bkh, Ga2.
-/
import Derived.Test.YtbkllhlapdmlfaaDoorQf1
import Derived.Test.YtbkllhlapdmlfaaDoorQf5
import Derived.Test.YtbkllhlapdmlfaaDoorQf3
import Derived.Test.YtbkllhlapdmlfaaDoorQf2
import Derived.Lib.OthersKept
import Derived.Laws.CopyOwn
import Derived.Deep.AppendLies
import Derived.Deep.RegionLaw
import Derived.Deep.CutRange
import Derived.BigRegion
import Derived.Deep.RegionHeld3
namespace Go.Proofs.YtbkllhlapdmlfaaDoor
open Go.RowKit
set_option linter.unusedVariables false

/-- Of the blocks below base, b alone may have turned. -/
structure DRd (b base : Nat) (w w' : World) : Prop where
  os : w'.os = w.os
  tape : w'.tape = w.tape
  output : w'.output = w.output
  size : w.heap.size ≤ w'.heap.size
  block : ∀ k, k < base → k ≠ b → w'.heap[k]? = w.heap[k]?
theorem DRd.refl (b base : Nat) (w : World) : DRd b base w w := ⟨rfl, rfl, rfl, Nat.le_refl _, fun _ _ _ => rfl⟩
theorem DRd.trans {b base : Nat} {a c d : World} (h : DRd b base a c) (k : DRd b base c d) : DRd b base a d :=
  ⟨k.os.trans h.os, k.tape.trans h.tape, k.output.trans h.output, Nat.le_trans h.size k.size, fun i hi hb => (k.block i hi hb).trans (h.block i hi hb)⟩
theorem DRd.set {b base : Nat} {a w : World} (h : DRd b base a w) (o : Nat) (u : Value) : DRd b base a (w.setCell ⟨b, o, none⟩ u) :=
  h.trans ⟨rfl, rfl, rfl, by simp [World.setCell], fun k _ hk => Below.heap_setCell _ _ _ _ hk⟩
theorem DRd.drewN {b base : Nat} {a w : World} (h : DRd b base a w) (n : Nat) : DRd b base a (w.drewN n) := h.trans ⟨rfl, rfl, rfl, Nat.le_refl _, fun _ _ _ => rfl⟩

/-- The drawing at b: its sides so far, the slice of its cells, where its row begins, how many it has. -/
structure DAt (b : Nat) (W H : Nat) (v : Value) (r n : Nat) (w : World) : Prop where
  c0 : w.cell? ⟨b, 0, none⟩ = some (.int .i64 (W : Int))
  c1 : w.cell? ⟨b, 1, none⟩ = some (.int .i64 (H : Int))
  c2 : w.cell? ⟨b, 2, none⟩ = some v
  c3 : w.cell? ⟨b, 3, none⟩ = some (.int .i64 (r : Int))
  c4 : w.cell? ⟨b, 4, none⟩ = some (.int .i64 (n : Int))
  fz : ∀ k, w.frozen? ⟨b, k, none⟩ = false
theorem DAt.block {b W H : Nat} {v : Value} {r n : Nat} {w w' : World} (h : DAt b W H v r n w) (e : w'.heap[b]? = w.heap[b]?) : DAt b W H v r n w' :=
  ⟨(World.cell?_of_block (w := w) (a := ⟨b, 0, none⟩) e).trans h.c0, (World.cell?_of_block (w := w) (a := ⟨b, 1, none⟩) e).trans h.c1, (World.cell?_of_block (w := w) (a := ⟨b, 2, none⟩) e).trans h.c2, (World.cell?_of_block (w := w) (a := ⟨b, 3, none⟩) e).trans h.c3, (World.cell?_of_block (w := w) (a := ⟨b, 4, none⟩) e).trans h.c4,
   fun k => (World.frozen?_of_block (w := w) (a := ⟨b, k, none⟩) e).trans (h.fz k)⟩
theorem DAt.drewN {b W H : Nat} {v : Value} {r n : Nat} {w : World} (h : DAt b W H v r n w) (m : Nat) : DAt b W H v r n (w.drewN m) := h.block rfl
theorem cell_same {w : World} {b k : Nat} {v u : Value} (h : w.cell? ⟨b, k, none⟩ = some v) : (w.setCell ⟨b, k, none⟩ u).cell? ⟨b, k, none⟩ = some u := World.cell?_setCell_same _ _ _ h
theorem cell_other {w : World} {b k j : Nat} {v u : Value} (h : w.cell? ⟨b, j, none⟩ = some v) (hk : k ≠ j) : (w.setCell ⟨b, k, none⟩ u).cell? ⟨b, j, none⟩ = some v :=
  (World.cell?_setCell_other _ ⟨b, k, none⟩ ⟨b, j, none⟩ _ (fun q => hk (congrArg Addr.off q))).trans h
end Go.Proofs.YtbkllhlapdmlfaaDoor

namespace Go.Proofs.YtbkllhlapdmlfaaDoor
open Go.RowKit
set_option linter.unusedVariables false

end Go.Proofs.YtbkllhlapdmlfaaDoor

namespace Go.Proofs.YtbkllhlapdmlfaaDoor
open Go.RowKit
set_option linter.unusedVariables false

theorem ownsRow_from {w w' : World} {base : Nat} {e : TypeId} {v : Value} {n : Nat} {xs : List Value} (h : w.ownsRow base e 1 v n xs) (hb : ∀ k, base ≤ k → k < w.heap.size → w'.heap[k]? = w.heap[k]?) : w'.ownsRow base e 1 v n xs := by
  refine ⟨h.1, ?_⟩
  rcases h.2 with h0 | ⟨g, cap, cur, hv, hg, hh, rest⟩
  · exact Or.inl h0
  · exact Or.inr ⟨g, cap, cur, hv, hg, (hb g hg (Array.getElem?_eq_some_iff.1 hh).1).trans hh, rest⟩

/-- What holds of the numbers between two rounds. -/
structure DNum (s : ByteArray) (i r n W H : Nat) (xs : List Int) : Prop where
  li : i ≤ s.size
  lH : H ≤ 100
  ln : n ≤ 100
  lW : W ≤ 100
  len : xs.length = H * W + n
  top : H = 100 → n = 0
  row : n = 0 → r = i
  lr : r ≤ i
  eq : drawF s (s.size + 1 - i) i r n W H xs = drawS s
theorem DNum.cell {s : ByteArray} {i r n W H : Nat} {xs : List Int} (h : DNum s i r n W H xs) (j : Nat) (x : Int) (hj : j ≤ s.size) (hij : i ≤ j) (hH : ¬ H = 100) (hn : ¬ n = 100) (e : drawF s (s.size + 1 - i) i r n W H xs = drawF s (s.size + 1 - j) j r (n + 1) W H (xs ++ [x])) : DNum s j r (n + 1) W H (xs ++ [x]) :=
  ⟨hj, h.lH, by have := h.ln; omega, h.lW, by have := h.len; simp; omega, fun q => absurd q hH, fun q => by omega, Nat.le_trans h.lr hij, e.symm.trans h.eq⟩
theorem DNum.small {s : ByteArray} {i r n W H : Nat} {xs : List Int} (h : DNum s i r n W H xs) (hH : ¬ H = 100) : xs.length ≤ 10000 := by
  have h1 := h.lH
  have h2 : H * W ≤ 99 * 100 := Nat.mul_le_mul (by omega) h.lW
  have h3 := h.len
  have h4 := h.ln
  omega
theorem DNum.all {s : ByteArray} {i r n W H : Nat} {xs : List Int} (h : DNum s i r n W H xs) : xs.length ≤ 10100 := by
  have h2 : H * W ≤ 100 * 100 := Nat.mul_le_mul h.lH h.lW
  have h3 := h.len
  have h4 := h.ln
  omega
theorem DNum.start (s : ByteArray) (hs : s.size ≤ 40000) : DNum s 0 0 0 0 0 [] :=
  ⟨by omega, by omega, by omega, by omega, by simp, by omega, by omega, by omega, by unfold drawS; rw [if_neg (by omega)]; rfl⟩

/-- pattern.ParseDraw's memory between two rounds: the result's block, the drawing's, the iterator's. -/
structure DS (s : ByteArray) (w wr : World) (i r n W H : Nat) (v : Value) (xs : List Int) : Prop where
  it : wr.heap[w.heap.size + 2]? = some (.stringIter s i)
  dat : DAt (w.heap.size + 1) W H v r n wr
  own : wr.ownsRow (w.heap.size + 3) 3 1 v xs.length (xs.map fun x => .int .i64 x)
  res : ResB w.heap.size wr
  below : Below w.heap.size w wr
theorem DS.sz {s : ByteArray} {w wr : World} {i r n W H : Nat} {v : Value} {xs : List Int} (h : DS s w wr i r n W H v xs) : w.heap.size + 3 ≤ wr.heap.size := (Array.getElem?_eq_some_iff.1 h.it).1
theorem DS.rd {s : ByteArray} {w wr w' : World} {i r n W H r' n' W' H' : Nat} {v : Value} {xs : List Int} (h : DS s w wr i r n W H v xs) (hr : Rd (w.heap.size + 1) wr w') (hd : DAt (w.heap.size + 1) W' H' v r' n' w') : DS s w w' i r' n' W' H' v xs := by
  have hz := h.sz
  exact ⟨(hr.block _ (by omega) (by omega)).trans h.it, hd, ownsRow_from h.own fun k hk hl => hr.block k hl (by omega), h.res.block (hr.block _ (by omega) (by omega)), h.below.trans (hr.below (by omega) (by omega))⟩
theorem DS.push {s : ByteArray} {w wr w' : World} {i r n W H : Nat} {v v' : Value} {xs : List Int} {x : Int} (h : DS s w wr i r n W H v xs) (hr : DRd (w.heap.size + 1) (w.heap.size + 3) wr w') (hd : DAt (w.heap.size + 1) W H v' r (n + 1) w') (ho : w'.ownsRow (w.heap.size + 3) 3 1 v' (xs ++ [x]).length ((xs ++ [x]).map fun x => .int .i64 x)) : DS s w w' i r (n + 1) W H v' (xs ++ [x]) := by
  have hz := h.sz
  exact ⟨(hr.block _ (by omega) (by omega)).trans h.it, hd, ho, h.res.block (hr.block _ (by omega) (by omega)), h.below.trans ⟨hr.os, hr.tape, hr.output, hr.size, fun k hk => hr.block k (by omega) (by omega)⟩⟩
end Go.Proofs.YtbkllhlapdmlfaaDoor

namespace Go.Proofs.YtbkllhlapdmlfaaDoor
open Go.RowKit
set_option linter.unusedVariables false

theorem Cel.arg {w : World} {g n c : Nat} {xs : List Int} (h : Cel w g xs) (hn : xs.length = n) (hm : n ≤ maxLen) : ArgP w xs (some ⟨g, 0, none⟩) n c := by
  subst hn
  exact ⟨rfl, hm, fun k hk => ⟨g, 0, rfl, h.lt, by rw [Nat.zero_add, h.cells k hk]; simp [List.getD, hk]⟩⟩
theorem Tab.arg {w : World} {v : Value} {xs : List Int} (h : Tab w v xs) (hm : xs.length ≤ maxLen) : ∃ a c, v = .slice a xs.length c ∧ ArgP w xs a xs.length c := by
  rcases h with ⟨h1, h2⟩ | ⟨g, cap, h1, h2, h3⟩
  · subst h1
    exact ⟨none, 0, h2, rfl, hm, fun k hk => by simp at hk⟩
  · exact ⟨some ⟨g, 0, none⟩, cap, h1, rfl, hm, fun k hk => ⟨g, 0, rfl, h2, by rw [Nat.zero_add]; exact h3 k hk⟩⟩

theorem small (p : Pat) (hp : p.ok) (h1 : p.W ≤ 100) (h2 : p.H ≤ 100) : p.xs.length ≤ 10000 := by rw [hp]; exact Nat.mul_le_mul h1 h2
/-- The pattern in the box, as far as it is turned. -/
structure TD (w wr : World) (p : Pat) (v : Value) : Prop where
  box : TB w.heap.size (.int .i64 (p.W : Int)) (.int .i64 (p.H : Int)) v wr
  res : TB (w.heap.size + 1) (.int .i64 0) (.int .i64 0) (.slice none 0 0) wr
  tab : Tab wr v p.xs
  fresh : ∀ g k c, v = .slice (some ⟨g, 0, none⟩) k c → w.heap.size + 2 ≤ g ∧ k ≤ c ∧ c ≤ maxLen
  ok : p.ok
  lW : p.W ≤ 100
  lH : p.H ≤ 100
  below : Below w.heap.size w wr
  sz : w.heap.size + 2 ≤ wr.heap.size

theorem TB.store {p : Nat} {a b c : Value} {w : World} (h : TB p a b c w) (a' b' c' : Value) : TB p a' b' c' (((w.setCell ⟨p, 0, none⟩ a').setCell ⟨p, 1, none⟩ b').setCell ⟨p, 2, none⟩ c') :=
  ⟨cell_other (cell_other (cell_same h.c0) (by omega)) (by omega), cell_other (cell_same (cell_other h.c1 (by omega))) (by omega), cell_same (cell_other (cell_other h.c2 (by omega)) (by omega)), fun k => by rw [World.frozen?_setCell, World.frozen?_setCell, World.frozen?_setCell]; exact h.fz k⟩
theorem stored_blk (w : World) (p q : Nat) (a b c : Value) (h : q ≠ p) : (((w.setCell ⟨p, 0, none⟩ a).setCell ⟨p, 1, none⟩ b).setCell ⟨p, 2, none⟩ c).heap[q]? = w.heap[q]? :=
  (Below.heap_setCell _ _ _ _ h).trans ((Below.heap_setCell _ _ _ _ h).trans (Below.heap_setCell _ _ _ _ h))
theorem TD.next {w wr w' : World} {p : Pat} {v : Value} (h : TD w wr p v) (hb : Below wr.heap.size wr w') (q : Pat) (g : Nat) (n : Nat) (hC : Cel w' g q.xs) (hn : q.xs.length = n) (hg : wr.heap.size ≤ g) (hq : q.ok) (l1 : q.W ≤ 100) (l2 : q.H ≤ 100) :
    TD w (((w'.setCell ⟨w.heap.size, 0, none⟩ (.int .i64 (q.W : Int))).setCell ⟨w.heap.size, 1, none⟩ (.int .i64 (q.H : Int))).setCell ⟨w.heap.size, 2, none⟩ (.slice (some ⟨g, 0, none⟩) n n)) q (.slice (some ⟨g, 0, none⟩) n n) := by
  have hz := h.sz
  have hz' := hb.size
  refine ⟨(h.box.next hb).store _ _ _, (h.res.next hb).block (stored_blk _ _ _ _ _ _ (by omega)), ?_, fun g' k c e => by injection e with e1 e5 e6; injection e1 with e2; injection e2 with e3; subst e5 e6; exact ⟨by omega, Nat.le_refl _, by rw [← hn]; exact Nat.le_trans (small q hq l1 l2) (by unfold maxLen; omega)⟩, hq, l1, l2, ?_, ?_⟩
  · exact (((hC.rd ((Rd.refl w.heap.size _).set 0 _) (by omega)).rd ((Rd.refl w.heap.size _).set 1 _) (by omega)).rd ((Rd.refl w.heap.size _).set 2 _) (by omega)).tab hn
  · exact (((h.below.trans (hb.mono (by omega))).setCell (Nat.le_refl _) _).setCell (Nat.le_refl _) _).setCell (Nat.le_refl _) _
  · rw [World.size_setCell, World.size_setCell, World.size_setCell]; omega
end Go.Proofs.YtbkllhlapdmlfaaDoor

namespace Go.Proofs.YtbkllhlapdmlfaaDoor
open Go.RowKit
set_option linter.unusedVariables false

end Go.Proofs.YtbkllhlapdmlfaaDoor

namespace Go.Proofs.YtbkllhlapdmlfaaDoor
open Go.RowKit
set_option linter.unusedVariables false

end Go.Proofs.YtbkllhlapdmlfaaDoor

namespace Go.Proofs.YtbkllhlapdmlfaaDoor
open Go.RowKit
set_option linter.unusedVariables false

end Go.Proofs.YtbkllhlapdmlfaaDoor

namespace Go.Proofs.YtbkllhlapdmlfaaDoor
open Go.RowKit
set_option linter.unusedVariables false
theorem drew_keep {w w1 : World} {k : Nat} (h : w.heap[k]? = w1.heap[k]?) : w.drew.heap[k]? = w1.heap[k]? := h
theorem cut3P {A B C : Type} {P Φ : A → B → C → Prop} {G : Prop} (h : (∀ a b c, P a b c → Φ a b c) → G) (k : ∀ a b c, P a b c → Φ a b c) : G := h k
/-- What lies there while the pattern is made. -/
structure PX (w w1 wr : World) (W H : Nat) (n p q : Nat) (f : Nat → Value) : Prop where
  keep : ∀ k, k < w.heap.size + 1 + 1 → wr.heap[k]? = w1.heap[k]?
  pat : wr.heap[p]? = some (.cells #[.int .i64 (W : Int), .int .i64 (H : Int), .slice (some ⟨q, 0, none⟩) n n] 26 (0, 0))
  out : wr.heap[q]? = some (.cells (arrF n f) 3 (0, 0))
  pl : w.heap.size + 1 + 1 ≤ p
  ql : w.heap.size + 1 + 1 ≤ q
  ne : p ≠ q
  below : Below w.heap.size w wr
theorem made_arr (n : Nat) : madeCells #[Value.int .i64 0] n = arrF n (fun _ => .int .i64 0) := by
  apply Array.ext'
  rw [toList_madeCells_one]
  simp [arrF, List.map_const']
theorem PX.set {w w1 wr : World} {W H n p q : Nat} {f : Nat → Value} (h : PX w w1 wr W H n p q f) (i : Nat) (v : Value) : PX w w1 (wr.setCell ⟨q, i, none⟩ v) W H n p q (fun k => if k = i then v else f k) :=
  ⟨fun k hk => (Below.heap_setCell _ _ _ _ (by have := h.ql; simp; omega)).trans (h.keep k hk), two_other h.pat _ _ _ h.ne, by rw [heap_setCell_same _ _ _ _ _ _ h.out, arrF_set], h.pl, h.ql, h.ne, h.below.setCell (by have := h.ql; simp; omega) _⟩
theorem PX.ext {w w1 wr : World} {W H n p q : Nat} {f g : Nat → Value} (h : PX w w1 wr W H n p q f) (e : ∀ k, k < n → f k = g k) : PX w w1 wr W H n p q g := ⟨h.keep, h.pat, by rw [← arrF_ext e]; exact h.out, h.pl, h.ql, h.ne, h.below⟩
theorem PX.drewN {w w1 wr : World} {W H n p q : Nat} {f : Nat → Value} (h : PX w w1 wr W H n p q f) (k : Nat) : PX w w1 (wr.drewN k) W H n p q f := ⟨h.keep, h.pat, h.out, h.pl, h.ql, h.ne, below_drewN h.below k⟩
end Go.Proofs.YtbkllhlapdmlfaaDoor

namespace Go.Proofs.YtbkllhlapdmlfaaDoor
open Go.RowKit
set_option linter.unusedVariables false
structure Kp (w W V : World) : Prop where
  keep : ∀ k, k < W.heap.size → V.heap[k]? = W.heap[k]?
  size : W.heap.size ≤ V.heap.size
  below : Below w.heap.size w V
theorem Kp.drew {w W V : World} (h : Kp w W V) : Kp w W V.drew := ⟨h.keep, h.size, ⟨h.below.os, h.below.tape, h.below.output, h.below.size, h.below.block⟩⟩
theorem Kp.alloc {w W V : World} (h : Kp w W V) (o : Obj) : Kp w W (V.alloc o) := ⟨fun k hk => (Below.heap_alloc _ _ _ (Nat.lt_of_lt_of_le hk h.size)).trans (h.keep k hk), by simp; have := h.size; omega, h.below.alloc h.below.size _⟩
theorem Kp.call {w W S U : World} (h : Kp w W S) (b : Below S.heap.size S U) {g : Nat} (hg : S.heap.size ≤ g) : Kp w W U ∧ W.heap.size ≤ g := ⟨⟨fun k hk => (b.block k (Nat.lt_of_lt_of_le hk h.size)).trans (h.keep k hk), Nat.le_trans h.size b.size, h.below.trans (b.mono h.below.size)⟩, Nat.le_trans h.size hg⟩
end Go.Proofs.YtbkllhlapdmlfaaDoor

namespace Go.Proofs.YtbkllhlapdmlfaaDoor
open Go.RowKit
set_option linter.unusedVariables false
end Go.Proofs.YtbkllhlapdmlfaaDoor

namespace Go.Proofs.YtbkllhlapdmlfaaDoor
open Go.RowKit
set_option linter.unusedVariables false
def ones4 (n : Nat) : Nat := dg n 0 + dg n 1 + dg n 2 + dg n 3
def keepB (tv : Nat → Nat) : Bool := (List.range 16).all fun j => ones4 j == ones4 (tv j)
end Go.Proofs.YtbkllhlapdmlfaaDoor

namespace Go.Proofs.YtbkllhlapdmlfaaDoor
open Go.RowKit
set_option linter.unusedVariables false
end Go.Proofs.YtbkllhlapdmlfaaDoor

namespace Go.Proofs.YtbkllhlapdmlfaaDoor
open Go.RowKit
set_option linter.unusedVariables false
end Go.Proofs.YtbkllhlapdmlfaaDoor

namespace Go.Proofs.YtbkllhlapdmlfaaDoor
open Go.RowKit
set_option linter.unusedVariables false
def sumB (g : Nat → Nat) : Nat → Nat
  | 0 => 0
  | n + 1 => sumB g n + g n
theorem sumB_ext {g h : Nat → Nat} : ∀ n, (∀ i, i < n → g i = h i) → sumB g n = sumB h n
  | 0, _ => rfl
  | n + 1, e => by rw [sumB, sumB, sumB_ext n (fun i hi => e i (by omega)), e n (by omega)]
end Go.Proofs.YtbkllhlapdmlfaaDoor

namespace Go.Proofs.YtbkllhlapdmlfaaDoor
open Go.RowKit
set_option linter.unusedVariables false
end Go.Proofs.YtbkllhlapdmlfaaDoor

namespace Go.Proofs.YtbkllhlapdmlfaaDoor
open Go.RowKit
set_option linter.unusedVariables false
theorem CA_arg {w : World} {g n c : Nat} {f : Nat → Nat} (h : CA w g n f) (hm : n ≤ maxLen) : ArgP w ((List.range n).map fun i => (f i : Int)) (some ⟨g, 0, none⟩) n c :=
  ⟨by simp, hm, fun k hk => ⟨g, 0, rfl, h.lt, by
    have hk' : k < n := by simpa using hk
    rw [Nat.zero_add, (h.cell hk').1]
    simp⟩⟩
end Go.Proofs.YtbkllhlapdmlfaaDoor

namespace Go.Proofs.YtbkllhlapdmlfaaDoor
open Go.RowKit
set_option linter.unusedVariables false
end Go.Proofs.YtbkllhlapdmlfaaDoor

namespace Go.Proofs.YtbkllhlapdmlfaaDoor
open Go.RowKit
set_option linter.unusedVariables false
end Go.Proofs.YtbkllhlapdmlfaaDoor

namespace Go.Proofs.YtbkllhlapdmlfaaDoor
open Go.RowKit
set_option linter.unusedVariables false
def u8F (f : Nat → Nat) (k : Nat) : Value := .int .u8 (f k : Int)
/-- Cells that lie in bytes at a block's head. -/
def CU (w : World) (g n : Nat) (f : Nat → Nat) : Prop := w.heap[g]? = some (.cells (arrF n (u8F f)) 143 (0, 0))
theorem CU.cell {w : World} {g n : Nat} {f : Nat → Nat} (h : CU w g n f) {k : Nat} (hk : k < n) : w.cell? ⟨g, k, none⟩ = some (.int .u8 (f k : Int)) := by
  rw [cell_of_row w _ _ _ _ _ h, arrF_get _ hk]; rfl
theorem CU.free {w : World} {g n : Nat} {f : Nat → Nat} (h : CU w g n f) (k : Nat) : w.frozen? ⟨g, k, none⟩ = false := frozen_of_row w _ _ _ _ h
theorem CU.lt {w : World} {g n : Nat} {f : Nat → Nat} (h : CU w g n f) : g < w.heap.size := lt_of_block h
theorem CU.set {w : World} {g n : Nat} {f : Nat → Nat} (h : CU w g n f) (i v : Nat) : CU (w.setCell ⟨g, i, none⟩ (.int .u8 (v : Int))) g n (fun k => if k = i then v else f k) := by
  unfold CU
  rw [heap_setCell_same _ _ _ _ _ _ h, arrF_set]
  refine congrArg (fun z => some (Obj.cells z 143 (0, 0))) (arrF_ext fun k _ => ?_)
  unfold u8F
  try dsimp only
  by_cases e : k = i
  · rw [if_pos e, if_pos e]
  · rw [if_neg e, if_neg e]
theorem CU.ext {w : World} {g n : Nat} {f f' : Nat → Nat} (h : CU w g n f) (e : ∀ k, k < n → f k = f' k) : CU w g n f' := by
  unfold CU
  rw [h]
  exact congrArg (fun z => some (Obj.cells z 143 (0, 0))) (arrF_ext fun k hk => by unfold u8F; rw [e k hk])
theorem CU.block {w w' : World} {g n : Nat} {f : Nat → Nat} (h : CU w g n f) (e : w'.heap[g]? = w.heap[g]?) : CU w' g n f := e.trans h
theorem info_cellG : (Tryd.prog.info? 143).map (fun i => (i.zero, i.size, i.bytes)) = some (some (.int .u8 0), 1, 1) := by kernel_rfl
theorem made_u8 (n : Nat) : madeCells #[Value.int .u8 0] n = arrF n (u8F fun _ => 0) := by
  apply Array.ext'
  rw [toList_madeCells_one]
  unfold u8F
  simp [arrF, List.map_const']
theorem mk_cellG (n : Nat) (hn : n ≤ 10000) (w : World) : (Instr.makeSlice 124 (.int .i64 (n : Int)) (.int .i64 (n : Int))).run Tryd.prog w = .ok (.slice (some ⟨w.heap.size, 0, none⟩) n n) (w.alloc (.cells (madeCells #[.int .u8 0] n) 143)) := run_make_row' (P := Tryd.prog) 124 143 (.int .u8 0) 1 Tryd.underlying124 info_cellG rfl .i64 .i64 n (by omega) (by omega) w
theorem wrap_u8 (n : Nat) (h : n ≤ 255) : IntKind.u8.wrap (n : Int) = (n : Int) := by simp [IntKind.wrap, IntKind.bits, IntKind.signed]; omega
theorem pre_next (f : Nat → Nat) (i k : Nat) : (if k = i then f i else (if k < i then f k else 0)) = (if k < i + 1 then f k else 0) := by
  by_cases h : k = i
  · subst h; rw [if_pos rfl, if_pos (by omega)]
  · rw [if_neg h]
    by_cases q : k < i
    · rw [if_pos q, if_pos (by omega)]
    · rw [if_neg q, if_neg (by omega)]
set_option maxRecDepth 100000 in
set_option maxHeartbeats 1600000 in
theorem packed_any (f : Nat → Nat) (a : Option Addr) (n c : Nat) (w : World) (hP : ArgP w ((List.range n).map fun i => (f i : Int)) a n c) (hf : ∀ i, f i ≤ 63) (hn : n ≤ 10000) :
    Calls Tryd.prog 62 #[.slice a n c] w fun e w' => e = .returned (.slice (some ⟨w.heap.size, 0, none⟩) n n) ∧ CU w' w.heap.size n f ∧ Below w.heap.size w w' := by
  obtain ⟨w1, hw1⟩ : ∃ w1, w.alloc (.cells (madeCells #[.int .u8 0] n) 143) = w1 := ⟨_, rfl⟩
  have hmk := mk_cellG n hn w
  rw [hw1] at hmk
  have S0 := hide' (show CU w1 w.heap.size n (fun k => if k < 0 then f k else 0) from by rw [← hw1, made_u8]; unfold CU; rw [heap_alloc_new]; exact congrArg (fun z => some (Obj.cells z 143 (0, 0))) (arrF_ext fun k _ => by unfold u8F; simp))
  have B0 := hide' (show Below w.heap.size w w1 by rw [← hw1]; exact (Below.refl _ _).alloc (Nat.le_refl _) _)
  have HC := hide' (fun (V : World) (hV : Below w.heap.size w V) k (hk : k < n) => show ∃ g off, a = some ⟨g, off, none⟩ ∧ V.cell? ⟨g, off + k, none⟩ = some (.int .i64 (f k : Int)) from by
    obtain ⟨g, off, e, hg, hc⟩ := (hP.below hV).cells k (by simpa using hk)
    simp only [List.getElem_map, List.getElem_range] at hc
    exact ⟨g, off, e, hc⟩)
  have HF := hide' hf
  clear hP hf hw1
  go_enter Tryd.func62, Tryd.ntmps62
  go_wp2
  clear hmk
  go_loopw [11] (fun iv wr => ∃ (i : Nat), iv = .int .i64 (i : Int) ∧ i ≤ n ∧ Hid (CU wr w.heap.size n (fun k => if k < i then f k else 0)) ∧ Hid (Below w.heap.size w wr)) (fun iv _ => ((n : Int) - intOf iv).toNat)
  case atStart => exact ⟨0, by go_num, by omega, S0, B0⟩
  case round =>
    obtain ⟨i, rfl, hi, HS, HB⟩ := hrel
    obtain ⟨V, rfl⟩ : ∃ V, V = wr := ⟨_, rfl⟩
    by_cases d : (i : Int) < (n : Int)
    · have il : i < n := by omega
      obtain ⟨g, off, rfl, hc⟩ := HC.out V HB.out i il
      have c1 := HS.out.cell il
      have f1 := HS.out.free i
      have l1 := HS.out.lt
      have NS := hide' ((HS.out.set i (f i)).ext (fun k _ => pre_next f i k))
      have NB := hide' (HB.out.setCell (show w.heap.size ≤ (⟨w.heap.size, i, none⟩ : Addr).block from Nat.le_refl _) (.int .u8 (f i : Int)))
      have x63 := HF.out i
      obtain ⟨x, hx⟩ : ∃ x, f i = x := ⟨_, rfl⟩
      rw [hx] at hc NS NB x63
      have wx := wrap_u8 x (by omega)
      clear hx
      go_wp2
      exact ⟨⟨i + 1, by go_num, by omega, NS, NB⟩, by simp [intOf]; omega⟩
    · have ni : i = n := by omega
      subst ni
      have FS := hide' (HS.out.ext (f' := f) (fun k hk => if_pos hk))
      go_wp2
      go_ret
      exact ⟨rfl, FS.out, HB.out⟩
end Go.Proofs.YtbkllhlapdmlfaaDoor

