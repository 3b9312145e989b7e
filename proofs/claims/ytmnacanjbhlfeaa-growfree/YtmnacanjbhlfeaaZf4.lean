/-
  What the last text of this claim leans on, part 4: Wb2, Wb3, Wc1, DSpec, Da1, Da2, Da3, Wd1, Wd2, We1, Wf1, Gs2, Gw6, Gw8.
-/
import Derived.Test.YtmnacanjbhlfeaaZf3
import Derived.Test.YtmnacanjbhlfeaaZf1
import Derived.Test.YtmnacanjbhlfeaaZf2
import Derived.Laws.RangeAny
import Derived.Lib.OthersKept
import Derived.Laws.CopyOwn
namespace Go.Proofs.Ytmnacanjbhlfeaa
open Go.RowKit
set_option linter.unusedVariables false

/-- Three values in a block. -/
structure TB (p : Nat) (a b c : Value) (w : World) : Prop where
  c0 : w.cell? ⟨p, 0, none⟩ = some a
  c1 : w.cell? ⟨p, 1, none⟩ = some b
  c2 : w.cell? ⟨p, 2, none⟩ = some c
  fz : ∀ k, w.frozen? ⟨p, k, none⟩ = false
theorem TB.lt {p : Nat} {a b c : Value} {w : World} (h : TB p a b c w) : p < w.heap.size := by
  rcases Nat.lt_or_ge p w.heap.size with k | k
  · exact k
  · have := h.c0; simp [World.cell?, Array.getElem?_eq_none k] at this
theorem TB.block {p : Nat} {a b c : Value} {w w' : World} (h : TB p a b c w) (e : w'.heap[p]? = w.heap[p]?) : TB p a b c w' :=
  ⟨(World.cell?_of_block (w := w) (a := ⟨p, 0, none⟩) e).trans h.c0, (World.cell?_of_block (w := w) (a := ⟨p, 1, none⟩) e).trans h.c1, (World.cell?_of_block (w := w) (a := ⟨p, 2, none⟩) e).trans h.c2, fun k => (World.frozen?_of_block (w := w) (a := ⟨p, k, none⟩) e).trans (h.fz k)⟩
theorem TB.next {p : Nat} {a b c : Value} {w w' : World} (h : TB p a b c w) (hb : Below w.heap.size w w') : TB p a b c w' := h.block (hb.block p h.lt)
theorem TB.alloc {p : Nat} {a b c : Value} {w : World} (h : TB p a b c w) (o : Obj) : TB p a b c (w.alloc o) := h.block (Below.heap_alloc _ _ _ h.lt)
theorem TB.new (w : World) (a b c : Value) (t : TypeId) : TB w.heap.size a b c (w.alloc (.cells #[a, b, c] t)) :=
  ⟨cell_new_at _ _ _ _, cell_new_at _ _ _ _, cell_new_at _ _ _ _, fun k => by simp⟩

/-- A turning's memory: the box, the result's block, the new pattern's block, its cells. -/
structure TW (w wr : World) (O g W H W' H' n k : Nat) (f : Nat → Nat) (xs : List Int) (a : Option Addr) (c : Nat) : Prop where
  box : TB w.heap.size (.int .i64 (W : Int)) (.int .i64 (H : Int)) (.slice a n c) wr
  res : TB (w.heap.size + 1) (.int .i64 0) (.int .i64 0) (.slice none 0 0) wr
  out : TB O (.int .i64 (W' : Int)) (.int .i64 (H' : Int)) (.slice (some ⟨g, 0, none⟩) n n) wr
  sc : ScJ w wr g n k f xs
  hg : w.heap.size + 2 ≤ g
  hO : g < O
theorem TW.step {w wr : World} {O g W H W' H' n k : Nat} {f : Nat → Nat} {xs : List Int} {a : Option Addr} {c : Nat} (h : TW w wr O g W H W' H' n k f xs a c) (m : Nat) (hk : f k < n) (hinj : ∀ i, i < k → f i ≠ f k) {x : Int} (hx : xs.getD k 0 = x) : TW w ((wr.drewN m).setCell ⟨g, f k, none⟩ (.int .i64 x)) O g W H W' H' n (k + 1) f xs a c := by
  have h1 := h.hg
  have h2 := h.hO
  exact ⟨(h.box.block rfl).block (Below.heap_setCell _ _ _ _ (by simp; omega)), (h.res.block rfl).block (Below.heap_setCell _ _ _ _ (by simp; omega)), (h.out.block rfl).block (Below.heap_setCell _ _ _ _ (by simp; omega)), (h.sc.drewN m).step hk hinj hx, h1, h2⟩

end Go.Proofs.Ytmnacanjbhlfeaa

namespace Go.Proofs.Ytmnacanjbhlfeaa
open Go.RowKit
set_option linter.unusedVariables false

end Go.Proofs.Ytmnacanjbhlfeaa

namespace Go.Proofs.Ytmnacanjbhlfeaa
open Go.RowKit
set_option linter.unusedVariables false

structure Pat where
  W : Nat
  H : Nat
  xs : List Int
def Pat.ok (p : Pat) : Prop := p.xs.length = p.W * p.H
def Pat.mir (p : Pat) : Pat := ⟨p.W, p.H, mirP p.W p.H p.xs⟩
def Pat.qtr (p : Pat) : Pat := ⟨p.H, p.W, qtrP p.W p.H p.xs⟩
def Pat.rot (p : Pat) : Nat → Pat
  | 0 => p
  | j + 1 => (p.rot j).qtr
def Pat.turn (p : Pat) (k : Nat) : Pat := (if 4 ≤ k then p.mir else p).rot (k % 4)

end Go.Proofs.Ytmnacanjbhlfeaa

namespace Go.Proofs.Ytmnacanjbhlfeaa

def isDot (s : ByteArray) (i : Nat) : Bool := decide (bt s i = 194) && decide (i + 1 < s.size) && decide (bt s (i + 1) = 183)
def isBall (s : ByteArray) (i : Nat) : Bool := decide (bt s i = 226) && decide (i + 2 < s.size) && decide (bt s (i + 1) = 151) && decide (bt s (i + 2) = 143)
/-- A drawing from i on: its row began at r, with n cells so far; wide, high and the cells of what was read. -/
def drawF (s : ByteArray) : Nat → Nat → Nat → Nat → Nat → Nat → List Int → (Nat × Nat × List Int) ⊕ (Nat × Nat)
  | 0, _, _, _, _, _, _ => .inr (0, 0)
  | f + 1, i, r, n, wide, high, xs =>
    if s.size ≤ i then (if r < s.size then .inr (s.size, 2) else .inl (wide, high, xs))
    else if isDot s i then (if high = 100 then .inr (r, 1) else if n = 100 then .inr (i, 1) else drawF s f (i + 2) r (n + 1) wide high (xs ++ [0]))
    else if isBall s i then (if high = 100 then .inr (r, 1) else if n = 100 then .inr (i, 1) else drawF s f (i + 3) r (n + 1) wide high (xs ++ [1]))
    else if bt s i ≠ 10 then .inr (i, 2)
    else if high = 100 then .inr (r, 1)
    else if 0 < high ∧ n ≠ wide then .inr (r, 3)
    else drawF s f (i + 1) (i + 1) 0 n (high + 1) xs

def drawS (s : ByteArray) : (Nat × Nat × List Int) ⊕ (Nat × Nat) :=
  if 40000 < s.size then .inr (0, 4) else drawF s (s.size + 1) 0 0 0 0 0 []
end Go.Proofs.Ytmnacanjbhlfeaa

namespace Go.Proofs.Ytmnacanjbhlfeaa
open Go.RowKit
set_option linter.unusedVariables false

/-- Of the blocks below base, b alone may have turned. -/
structure DRd (b base : Nat) (w w' : World) : Prop where
  os : w'.os = w.os
  tape : w'.tape = w.tape
  output : w'.output = w.output
  size : w.heap.size ≤ w'.heap.size
  block : ∀ k, k < base → k ≠ b → w'.heap[k]? = w.heap[k]?
theorem DRd.refl (b base : Nat) (w : World) : DRd b base w w := ⟨rfl, rfl, rfl, Nat.le_refl _, fun _ _ _ => rfl⟩
theorem DRd.trans {b base : Nat} {a c d : World} (h : DRd b base a c) (k : DRd b base c d) : DRd b base a d :=
  ⟨k.os.trans h.os, k.tape.trans h.tape, k.output.trans h.output, Nat.le_trans h.size k.size, fun i hi hb => (k.block i hi hb).trans (h.block i hi hb)⟩
theorem DRd.set {b base : Nat} {a w : World} (h : DRd b base a w) (o : Nat) (u : Value) : DRd b base a (w.setCell ⟨b, o, none⟩ u) :=
  h.trans ⟨rfl, rfl, rfl, by simp [World.setCell], fun k _ hk => Below.heap_setCell _ _ _ _ hk⟩
theorem DRd.drewN {b base : Nat} {a w : World} (h : DRd b base a w) (n : Nat) : DRd b base a (w.drewN n) := h.trans ⟨rfl, rfl, rfl, Nat.le_refl _, fun _ _ _ => rfl⟩

/-- The drawing at b: its sides so far, the slice of its cells, where its row begins, how many it has. -/
structure DAt (b : Nat) (W H : Nat) (v : Value) (r n : Nat) (w : World) : Prop where
  c0 : w.cell? ⟨b, 0, none⟩ = some (.int .i64 (W : Int))
  c1 : w.cell? ⟨b, 1, none⟩ = some (.int .i64 (H : Int))
  c2 : w.cell? ⟨b, 2, none⟩ = some v
  c3 : w.cell? ⟨b, 3, none⟩ = some (.int .i64 (r : Int))
  c4 : w.cell? ⟨b, 4, none⟩ = some (.int .i64 (n : Int))
  fz : ∀ k, w.frozen? ⟨b, k, none⟩ = false
theorem DAt.block {b W H : Nat} {v : Value} {r n : Nat} {w w' : World} (h : DAt b W H v r n w) (e : w'.heap[b]? = w.heap[b]?) : DAt b W H v r n w' :=
  ⟨(World.cell?_of_block (w := w) (a := ⟨b, 0, none⟩) e).trans h.c0, (World.cell?_of_block (w := w) (a := ⟨b, 1, none⟩) e).trans h.c1, (World.cell?_of_block (w := w) (a := ⟨b, 2, none⟩) e).trans h.c2, (World.cell?_of_block (w := w) (a := ⟨b, 3, none⟩) e).trans h.c3, (World.cell?_of_block (w := w) (a := ⟨b, 4, none⟩) e).trans h.c4,
   fun k => (World.frozen?_of_block (w := w) (a := ⟨b, k, none⟩) e).trans (h.fz k)⟩
theorem DAt.drewN {b W H : Nat} {v : Value} {r n : Nat} {w : World} (h : DAt b W H v r n w) (m : Nat) : DAt b W H v r n (w.drewN m) := h.block rfl
theorem cell_same {w : World} {b k : Nat} {v u : Value} (h : w.cell? ⟨b, k, none⟩ = some v) : (w.setCell ⟨b, k, none⟩ u).cell? ⟨b, k, none⟩ = some u := World.cell?_setCell_same _ _ _ h
theorem cell_other {w : World} {b k j : Nat} {v u : Value} (h : w.cell? ⟨b, j, none⟩ = some v) (hk : k ≠ j) : (w.setCell ⟨b, k, none⟩ u).cell? ⟨b, j, none⟩ = some v :=
  (World.cell?_setCell_other _ ⟨b, k, none⟩ ⟨b, j, none⟩ _ (fun q => hk (congrArg Addr.off q))).trans h
end Go.Proofs.Ytmnacanjbhlfeaa

namespace Go.Proofs.Ytmnacanjbhlfeaa
open Go.RowKit
set_option linter.unusedVariables false

end Go.Proofs.Ytmnacanjbhlfeaa

namespace Go.Proofs.Ytmnacanjbhlfeaa
open Go.RowKit
set_option linter.unusedVariables false

theorem ownsRow_from {w w' : World} {base : Nat} {e : TypeId} {v : Value} {n : Nat} {xs : List Value} (h : w.ownsRow base e 1 v n xs) (hb : ∀ k, base ≤ k → k < w.heap.size → w'.heap[k]? = w.heap[k]?) : w'.ownsRow base e 1 v n xs := by
  refine ⟨h.1, ?_⟩
  rcases h.2 with h0 | ⟨g, cap, cur, hv, hg, hh, rest⟩
  · exact Or.inl h0
  · exact Or.inr ⟨g, cap, cur, hv, hg, (hb g hg (Array.getElem?_eq_some_iff.1 hh).1).trans hh, rest⟩

/-- What holds of the numbers between two rounds. -/
structure DNum (s : ByteArray) (i r n W H : Nat) (xs : List Int) : Prop where
  li : i ≤ s.size
  lH : H ≤ 100
  ln : n ≤ 100
  lW : W ≤ 100
  len : xs.length = H * W + n
  top : H = 100 → n = 0
  row : n = 0 → r = i
  lr : r ≤ i
  eq : drawF s (s.size + 1 - i) i r n W H xs = drawS s
theorem DNum.cell {s : ByteArray} {i r n W H : Nat} {xs : List Int} (h : DNum s i r n W H xs) (j : Nat) (x : Int) (hj : j ≤ s.size) (hij : i ≤ j) (hH : ¬ H = 100) (hn : ¬ n = 100) (e : drawF s (s.size + 1 - i) i r n W H xs = drawF s (s.size + 1 - j) j r (n + 1) W H (xs ++ [x])) : DNum s j r (n + 1) W H (xs ++ [x]) :=
  ⟨hj, h.lH, by have := h.ln; omega, h.lW, by have := h.len; simp; omega, fun q => absurd q hH, fun q => by omega, Nat.le_trans h.lr hij, e.symm.trans h.eq⟩
theorem DNum.small {s : ByteArray} {i r n W H : Nat} {xs : List Int} (h : DNum s i r n W H xs) (hH : ¬ H = 100) : xs.length ≤ 10000 := by
  have h1 := h.lH
  have h2 : H * W ≤ 99 * 100 := Nat.mul_le_mul (by omega) h.lW
  have h3 := h.len
  have h4 := h.ln
  omega
theorem DNum.all {s : ByteArray} {i r n W H : Nat} {xs : List Int} (h : DNum s i r n W H xs) : xs.length ≤ 10100 := by
  have h2 : H * W ≤ 100 * 100 := Nat.mul_le_mul h.lH h.lW
  have h3 := h.len
  have h4 := h.ln
  omega
/-- pattern.ParseDraw's memory between two rounds: the result's block, the drawing's, the iterator's. -/
structure DS (s : ByteArray) (w wr : World) (i r n W H : Nat) (v : Value) (xs : List Int) : Prop where
  it : wr.heap[w.heap.size + 2]? = some (.stringIter s i)
  dat : DAt (w.heap.size + 1) W H v r n wr
  own : wr.ownsRow (w.heap.size + 3) 3 1 v xs.length (xs.map fun x => .int .i64 x)
  res : ResB w.heap.size wr
  below : Below w.heap.size w wr
theorem DS.sz {s : ByteArray} {w wr : World} {i r n W H : Nat} {v : Value} {xs : List Int} (h : DS s w wr i r n W H v xs) : w.heap.size + 3 ≤ wr.heap.size := (Array.getElem?_eq_some_iff.1 h.it).1
theorem DS.iter {s : ByteArray} {w wr : World} {i r n W H : Nat} {v : Value} {xs : List Int} (h : DS s w wr i r n W H v xs) (j : Nat) : DS s w (wr.iterAt (w.heap.size + 2) s j) j r n W H v xs := by
  refine ⟨Lib.iterAt_heap _ _ _ i _ h.it, h.dat.block (Lib.iterAt_other _ _ _ _ _ (by omega)), ownsRow_from h.own fun k hk _ => Lib.iterAt_other _ _ _ _ _ (by omega), h.res.block (Lib.iterAt_other _ _ _ _ _ (by omega)), Lib.below_iterAt h.below (by omega) _ _⟩
theorem DS.rd {s : ByteArray} {w wr w' : World} {i r n W H r' n' W' H' : Nat} {v : Value} {xs : List Int} (h : DS s w wr i r n W H v xs) (hr : Rd (w.heap.size + 1) wr w') (hd : DAt (w.heap.size + 1) W' H' v r' n' w') : DS s w w' i r' n' W' H' v xs := by
  have hz := h.sz
  exact ⟨(hr.block _ (by omega) (by omega)).trans h.it, hd, ownsRow_from h.own fun k hk hl => hr.block k hl (by omega), h.res.block (hr.block _ (by omega) (by omega)), h.below.trans (hr.below (by omega) (by omega))⟩
end Go.Proofs.Ytmnacanjbhlfeaa

namespace Go.Proofs.Ytmnacanjbhlfeaa
open Go.RowKit
set_option linter.unusedVariables false

theorem small (p : Pat) (hp : p.ok) (h1 : p.W ≤ 100) (h2 : p.H ≤ 100) : p.xs.length ≤ 10000 := by rw [hp]; exact Nat.mul_le_mul h1 h2
/-- The pattern in the box, as far as it is turned. -/
structure TD (w wr : World) (p : Pat) (v : Value) : Prop where
  box : TB w.heap.size (.int .i64 (p.W : Int)) (.int .i64 (p.H : Int)) v wr
  res : TB (w.heap.size + 1) (.int .i64 0) (.int .i64 0) (.slice none 0 0) wr
  tab : Tab wr v p.xs
  fresh : ∀ g k c, v = .slice (some ⟨g, 0, none⟩) k c → w.heap.size + 2 ≤ g ∧ k ≤ c ∧ c ≤ maxLen
  ok : p.ok
  lW : p.W ≤ 100
  lH : p.H ≤ 100
  below : Below w.heap.size w wr
  sz : w.heap.size + 2 ≤ wr.heap.size

theorem TB.store {p : Nat} {a b c : Value} {w : World} (h : TB p a b c w) (a' b' c' : Value) : TB p a' b' c' (((w.setCell ⟨p, 0, none⟩ a').setCell ⟨p, 1, none⟩ b').setCell ⟨p, 2, none⟩ c') :=
  ⟨cell_other (cell_other (cell_same h.c0) (by omega)) (by omega), cell_other (cell_same (cell_other h.c1 (by omega))) (by omega), cell_same (cell_other (cell_other h.c2 (by omega)) (by omega)), fun k => by rw [World.frozen?_setCell, World.frozen?_setCell, World.frozen?_setCell]; exact h.fz k⟩
theorem stored_blk (w : World) (p q : Nat) (a b c : Value) (h : q ≠ p) : (((w.setCell ⟨p, 0, none⟩ a).setCell ⟨p, 1, none⟩ b).setCell ⟨p, 2, none⟩ c).heap[q]? = w.heap[q]? :=
  (Below.heap_setCell _ _ _ _ h).trans ((Below.heap_setCell _ _ _ _ h).trans (Below.heap_setCell _ _ _ _ h))
theorem TD.next {w wr w' : World} {p : Pat} {v : Value} (h : TD w wr p v) (hb : Below wr.heap.size wr w') (q : Pat) (g : Nat) (n : Nat) (hC : Cel w' g q.xs) (hn : q.xs.length = n) (hg : wr.heap.size ≤ g) (hq : q.ok) (l1 : q.W ≤ 100) (l2 : q.H ≤ 100) :
    TD w (((w'.setCell ⟨w.heap.size, 0, none⟩ (.int .i64 (q.W : Int))).setCell ⟨w.heap.size, 1, none⟩ (.int .i64 (q.H : Int))).setCell ⟨w.heap.size, 2, none⟩ (.slice (some ⟨g, 0, none⟩) n n)) q (.slice (some ⟨g, 0, none⟩) n n) := by
  have hz := h.sz
  have hz' := hb.size
  refine ⟨(h.box.next hb).store _ _ _, (h.res.next hb).block (stored_blk _ _ _ _ _ _ (by omega)), ?_, fun g' k c e => by injection e with e1 e5 e6; injection e1 with e2; injection e2 with e3; subst e5 e6; exact ⟨by omega, Nat.le_refl _, by rw [← hn]; exact Nat.le_trans (small q hq l1 l2) (by unfold maxLen; omega)⟩, hq, l1, l2, ?_, ?_⟩
  · exact (((hC.rd ((Rd.refl w.heap.size _).set 0 _) (by omega)).rd ((Rd.refl w.heap.size _).set 1 _) (by omega)).rd ((Rd.refl w.heap.size _).set 2 _) (by omega)).tab hn
  · exact (((h.below.trans (hb.mono (by omega))).setCell (Nat.le_refl _) _).setCell (Nat.le_refl _) _).setCell (Nat.le_refl _) _
  · rw [World.size_setCell, World.size_setCell, World.size_setCell]; omega
end Go.Proofs.Ytmnacanjbhlfeaa

namespace Go.Proofs.Ytmnacanjbhlfeaa
open Go.RowKit
set_option linter.unusedVariables false

end Go.Proofs.Ytmnacanjbhlfeaa

namespace Go.Proofs.Ytmnacanjbhlfeaa
open Go.RowKit
set_option linter.unusedVariables false

end Go.Proofs.Ytmnacanjbhlfeaa

namespace Go.Proofs.Ytmnacanjbhlfeaa
open Go.RowKit
set_option linter.unusedVariables false

end Go.Proofs.Ytmnacanjbhlfeaa

namespace Go.Proofs.Ytmnacanjbhlfeaa
open Go.RowKit
set_option linter.unusedVariables false
theorem made_arr (n : Nat) : madeCells #[Value.int .i64 0] n = arrF n (fun _ => .int .i64 0) := by
  apply Array.ext'
  rw [toList_madeCells_one]
  simp [arrF, List.map_const']
end Go.Proofs.Ytmnacanjbhlfeaa

namespace Go.Proofs.Ytmnacanjbhlfeaa
open Go.RowKit
set_option linter.unusedVariables false
set_option linter.unusedSimpArgs false
/-- How often a letter stands there. -/
def ctL (l : List UInt8) (x : Nat) : Nat := l.countP fun c => c.toNat - 97 == x
theorem ctL_le (l : List UInt8) (x : Nat) : ctL l x ≤ l.length := List.countP_le_length
theorem ctL_next {l : List UInt8} {i : Nat} (hi : i < l.length) (x : Nat) : ctL (l.take (i + 1)) x = if x = (l.getD i 0).toNat - 97 then ctL (l.take i) x + 1 else ctL (l.take i) x := by
  unfold ctL
  rw [List.take_add_one, List.countP_append, List.getElem?_eq_getElem hi]
  have e : l.getD i 0 = l[i] := by simp [List.getD, hi]
  rw [e]
  simp only [Option.toList_some, List.countP_cons, List.countP_nil, beq_iff_eq]
  by_cases q : x = l[i].toNat - 97
  · rw [if_pos q, if_pos q.symm]
  · rw [if_neg q, if_neg (fun h => q h.symm)]
    rfl
/-- A sum. -/
def smG (f : Nat → Nat) : Nat → Nat
  | 0 => 0
  | k + 1 => smG f k + f k
theorem smG_up (f : Nat → Nat) {i n : Nat} (h : i < n) : smG f i + f i ≤ smG f n := by
  induction n with
  | zero => omega
  | succ n ih =>
    by_cases e : i = n
    · subst e; exact Nat.le_refl _
    · have := ih (by omega)
      show _ ≤ smG f n + f n
      omega
/-- How many of a letter there are a round on; how many in all. -/
def nxV (xs : List (List UInt8)) (c : Nat → Nat) (n x : Nat) : Nat := smG (fun i => c i * ctL (xs.getD i []) x) n
def lnV (xs : List (List UInt8)) (c : Nat → Nat) (n : Nat) : Nat := smG (fun i => c i * (xs.getD i []).length) n
/-- A row of numbers as it lies. -/
def RowG (V : World) (g n : Nat) (f : Nat → Nat) : Prop := V.heap[g]? = some (.cells (arrF n (fun k => .int .i64 ((f k : Nat) : Int))) 3 (0, 0))
theorem RowG.lt {V : World} {g n : Nat} {f : Nat → Nat} (h : RowG V g n f) : g < V.heap.size := lt_blockG h
theorem RowG.cell {V : World} {g n : Nat} {f : Nat → Nat} (h : RowG V g n f) {k : Nat} (hk : k < n) : V.cell? ⟨g, k, none⟩ = some (.int .i64 ((f k : Nat) : Int)) := by
  rw [cell_of_row V _ _ _ _ _ h, arrF_get _ hk]
theorem RowG.set {V : World} {g n : Nat} {f : Nat → Nat} (h : RowG V g n f) (k v : Nat) : RowG (V.setCell ⟨g, k, none⟩ (.int .i64 (v : Int))) g n (fun y => if y = k then v else f y) := by
  unfold RowG
  rw [heap_setCell_same _ _ _ _ _ _ h, arrF_set]
  congr 2
  apply arrF_ext
  intro y _
  by_cases e : y = k
  · simp [e]
  · simp [e]
theorem RowG.ext {V : World} {g n : Nat} {f f' : Nat → Nat} (h : RowG V g n f) (e : ∀ k, k < n → f k = f' k) : RowG V g n f' := by
  unfold RowG at h ⊢
  rw [h]
  congr 2
  exact arrF_ext (fun k hk => by rw [e k hk])
theorem RowG.below {V V' : World} {g n B : Nat} {f : Nat → Nat} (h : RowG V g n f) (b : Below B V V') (hg : g < B) : RowG V' g n f := (b.block g hg).trans h
theorem RowG.made (V : World) (n : Nat) : RowG (V.alloc (.cells (madeCells #[.int .i64 0] n) 3)) V.heap.size n (fun _ => 0) := by
  unfold RowG
  rw [made_arr]
  exact heap_alloc_new _ _
end Go.Proofs.Ytmnacanjbhlfeaa

namespace Go.Proofs.Ytmnacanjbhlfeaa
open Go.RowKit
set_option linter.unusedVariables false
set_option linter.unusedSimpArgs false
/-- The word behind n rounds; none: one on the way has more than 10^18 letters. -/
def cnW (xs : List (List UInt8)) : Nat → List UInt8 → Option (List UInt8)
  | 0, l => some l
  | n + 1, l => if 1000000000000000000 < (imgL xs l).length then none else cnW xs n (imgL xs l)
theorem cnW_zero (xs : List (List UInt8)) (l : List UInt8) : cnW xs 0 l = some l := rfl
theorem cnW_succ (xs : List (List UInt8)) (n : Nat) (l : List UInt8) : cnW xs (n + 1) l = if 1000000000000000000 < (imgL xs l).length then none else cnW xs n (imgL xs l) := rfl
theorem imgL_append (xs : List (List UInt8)) (a b : List UInt8) : imgL xs (a ++ b) = imgL xs a ++ imgL xs b := by unfold imgL; rw [List.flatMap_append]
theorem imgL_cons (xs : List (List UInt8)) (c : UInt8) (b : List UInt8) : imgL xs (c :: b) = xs.getD (c.toNat - 97) [] ++ imgL xs b := by unfold imgL; rw [List.flatMap_cons]
theorem imgL_one (xs : List (List UInt8)) (c : UInt8) : imgL xs [c] = xs.getD (c.toNat - 97) [] := by rw [imgL_cons]; unfold imgL; simp
theorem cnW_all {xs : List (List UInt8)} {n : Nat} (h : ∀ k, k < n → (xs.getD k []).all (ltB n) = true) : ∀ {m : Nat} {l s : List UInt8}, l.all (ltB n) = true → cnW xs m l = some s → s.all (ltB n) = true
  | 0, l, s, hl, e => by rw [← Option.some.inj e]; exact hl
  | m + 1, l, s, hl, e => by
    rw [cnW_succ] at e
    split at e
    · cases e
    · exact cnW_all h (imgL_all h hl) e
theorem smG_add (f g : Nat → Nat) : ∀ n, smG (fun i => f i + g i) n = smG f n + smG g n
  | 0 => rfl
  | n + 1 => by show smG _ n + (f n + g n) = smG f n + f n + (smG g n + g n); rw [smG_add f g n]; omega
theorem smG_zero : ∀ n, smG (fun _ => 0) n = 0
  | 0 => rfl
  | n + 1 => by show smG _ n + 0 = 0; rw [smG_zero n]
theorem smG_pick (g : Nat → Nat) (k : Nat) : ∀ n, smG (fun i => if i = k then g i else 0) n = if k < n then g k else 0
  | 0 => by simp [smG]
  | n + 1 => by
    show smG _ n + (if n = k then g n else 0) = _
    rw [smG_pick g k n]
    by_cases e : n = k
    · subst e; simp
    · by_cases q : k < n
      · rw [if_pos q, if_neg e, if_pos (by omega)]; omega
      · rw [if_neg q, if_neg e, if_neg (by omega)]
theorem smG_ext {f g : Nat → Nat} (h : ∀ i, f i = g i) (n : Nat) : smG f n = smG g n := by rw [show f = g from funext h]
theorem ctL_cons (c : UInt8) (l : List UInt8) (x : Nat) : ctL (c :: l) x = (if x = c.toNat - 97 then 1 else 0) + ctL l x := by
  unfold ctL
  rw [List.countP_cons]
  simp only [beq_iff_eq]
  by_cases e : x = c.toNat - 97
  · rw [if_pos e, if_pos e.symm]; omega
  · rw [if_neg e, if_neg (fun h => e h.symm)]; omega
theorem ctL_append (a b : List UInt8) (x : Nat) : ctL (a ++ b) x = ctL a x + ctL b x := by unfold ctL; rw [List.countP_append]
theorem wsum (g : Nat → Nat) {n : Nat} : ∀ {l : List UInt8}, l.all (ltB n) = true → smG (fun i => ctL l i * g i) n = (l.map fun c => g (c.toNat - 97)).sum
  | [], _ => by
    rw [smG_ext (g := fun _ => 0) (fun i => by simp [ctL]), smG_zero]; rfl
  | c :: l, h => by
    rw [List.all_cons, Bool.and_eq_true] at h
    have q : 97 ≤ c.toNat ∧ c.toNat < n + 97 := by simpa [ltB] using h.1
    rw [smG_ext (g := fun i => (if i = c.toNat - 97 then g i else 0) + ctL l i * g i) (fun i => by
      rw [ctL_cons, Nat.add_mul]
      by_cases e : i = c.toNat - 97 <;> simp [e]), smG_add, smG_pick, if_pos (by omega), wsum g h.2]
    rfl
theorem ctL_img (xs : List (List UInt8)) (x : Nat) : ∀ l : List UInt8, ctL (imgL xs l) x = (l.map fun c => ctL (xs.getD (c.toNat - 97) []) x).sum
  | [] => by simp [imgL, ctL]
  | c :: l => by rw [imgL_cons, ctL_append, ctL_img xs x l]; rfl
theorem len_img (xs : List (List UInt8)) : ∀ l : List UInt8, (imgL xs l).length = (l.map fun c => (xs.getD (c.toNat - 97) []).length).sum
  | [] => by simp [imgL]
  | c :: l => by rw [imgL_cons, List.length_append, len_img xs l]; rfl
theorem nxV_is {xs : List (List UInt8)} {n : Nat} {l : List UInt8} (h : l.all (ltB n) = true) : nxV xs (ctL l) n = ctL (imgL xs l) := by
  funext x
  rw [ctL_img]
  exact wsum (fun i => ctL (xs.getD i []) x) h
theorem lnV_is {xs : List (List UInt8)} {n : Nat} {l : List UInt8} (h : l.all (ltB n) = true) : lnV xs (ctL l) n = (imgL xs l).length := by
  rw [len_img]
  exact wsum (fun i => (xs.getD i []).length) h
/-- All counts together are all letters. -/
theorem ctL_sum {n : Nat} {l : List UInt8} (h : l.all (ltB n) = true) : smG (ctL l) n = l.length := by
  have := wsum (fun _ => 1) h
  simp only [Nat.mul_one] at this
  rw [this]
  clear this h
  induction l with
  | nil => rfl
  | cons c l ih => simp only [List.map_cons, List.sum_cons, List.length_cons, ih]; omega
end Go.Proofs.Ytmnacanjbhlfeaa

