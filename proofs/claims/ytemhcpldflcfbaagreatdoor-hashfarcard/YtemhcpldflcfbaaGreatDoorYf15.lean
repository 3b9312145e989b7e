/-
  What the last text of this claim leans on, part 15: Qa2, Wb2, Wb3, Wc1, DSpec, Da1, Da2, Da3, Wd1, Wd2, We1, Wf1, Gs2.
-/
import Derived.Test.YtemhcpldflcfbaaGreatDoorYf14
import Derived.Test.YtemhcpldflcfbaaGreatDoorYf9
import Derived.Test.YtemhcpldflcfbaaGreatDoorYf1
import Derived.Laws.RangeAny
import Derived.Lib.OthersKept
import Derived.Laws.CopyOwn
namespace Go.Proofs.YtemhcpldflcfbaaGreatDoor
open Go.RowKit
set_option linter.unusedVariables false
structure RS (w wr : World) (P W H : Nat) (xs : List Int) : Prop where
 res : ResB w.heap.size wr
 non : ResB (w.heap.size + 1) wr
 p0 : wr.cell? ⟨P, 0, none⟩ = some (.int .i64 (W : Int))
 p1 : wr.cell? ⟨P, 1, none⟩ = some (.int .i64 (H : Int))
 p2 : wr.cell? ⟨P, 2, none⟩ = some (.slice (some ⟨P + 1, 0, none⟩) (W * H) (W * H))
 cel : Cel wr (P + 1) xs
 len : xs.length = W * H
 hP : w.heap.size + 2 ≤ P
 below : Below w.heap.size w wr
theorem RS.set {w wr : World} {P W H : Nat} {xs : List Int} (h : RS w wr P W H xs) (p : Nat) (x : Int) (hp : p < xs.length) : RS w (wr.setCell ⟨P + 1, p, none⟩ (.int .i64 x)) P W H (xs.set p x) := by
 have hP := h.hP
 refine ⟨h.res.block (Below.heap_setCell _ _ _ _ (by simp; omega)), h.non.block (Below.heap_setCell _ _ _ _ (by simp; omega)), ?_, ?_, ?_, h.cel.set p x hp, by rw [List.length_set]; exact h.len, hP, h.below.setCell (by simp; omega) _⟩
 ·exact (World.cell?_of_block (w := wr) (a := ⟨P, 0, none⟩) (Below.heap_setCell _ _ _ _ (by simp))).trans h.p0
 ·exact (World.cell?_of_block (w := wr) (a := ⟨P, 1, none⟩) (Below.heap_setCell _ _ _ _ (by simp))).trans h.p1
 ·exact (World.cell?_of_block (w := wr) (a := ⟨P, 2, none⟩) (Below.heap_setCell _ _ _ _ (by simp))).trans h.p2
theorem res_new (w : World) (t : TypeId) : ResB w.heap.size (w.alloc (.cells #[.int .i64 0, .int .i64 0, .slice none 0 0] t)) :=
 ⟨cell_new_at _ _ _ _, cell_new_at _ _ _ _, cell_new_at _ _ _ _, by simp, by simp, by simp⟩
theorem RS.start {w w1 : World} {W H : Nat} (t1 t2 t3 t4 : TypeId) (hW : W ≤ 100) (hH : H ≤ 100)
  (hb : Below (w.heap.size + 2) ((w.alloc (.cells #[.int .i64 0, .int .i64 0, .slice none 0 0] t1)).alloc (.cells #[.int .i64 0, .int .i64 0, .slice none 0 0] t2)) w1) (N : Nat) (hN : W * H = N) :
  RS w ((w1.alloc (.cells #[.int .i64 (W : Int), .int .i64 (H : Int), .slice (some ⟨w1.heap.size + 1, 0, none⟩) N N] t3)).alloc (.cells (madeCells #[.int .i64 0] N) t4)) w1.heap.size W H (List.replicate N 0) := by
 subst hN
 have z := hb.size
 simp at z
 have r0 := (res_new w t1).block (w' := (w.alloc (.cells #[.int .i64 0, .int .i64 0, .slice none 0 0] t1)).alloc (.cells #[.int .i64 0, .int .i64 0, .slice none 0 0] t2)) (Below.heap_alloc _ _ _ (by simp))
 have r1 := res_new (w.alloc (.cells #[.int .i64 0, .int .i64 0, .slice none 0 0] t1)) t2
 rw [show (w.alloc (.cells #[.int .i64 0, .int .i64 0, .slice none 0 0] t1)).heap.size = w.heap.size + 1 by simp] at r1
 have e : ∀ k, k < w1.heap.size → ((w1.alloc (.cells #[.int .i64 (W : Int), .int .i64 (H : Int), .slice (some ⟨w1.heap.size + 1, 0, none⟩) (W * H) (W * H)] t3)).alloc (.cells (madeCells #[.int .i64 0] (W * H)) t4)).heap[k]? = w1.heap[k]? := fun k hk =>
  (Below.heap_alloc _ _ _ (by simp; omega)).trans (Below.heap_alloc _ _ _ hk)
 refine ⟨(r0.block (hb.block _ (by omega))).block (e _ (by omega)), (r1.block (hb.block _ (by omega))).block (e _ (by omega)), ?_, ?_, ?_, ⟨by simp, fun k hk => ?_, fun k => by simp⟩, by simp, z, ?_⟩
 ·rw [World.cell?_alloc_past _ _ _ (by simp), World.cell?_alloc_at _ _ _ _ rfl]; rfl
 ·rw [World.cell?_alloc_past _ _ _ (by simp), World.cell?_alloc_at _ _ _ _ rfl]; rfl
 ·rw [World.cell?_alloc_past _ _ _ (by simp), World.cell?_alloc_at _ _ _ _ rfl]; rfl
 ·rw [World.cell?_alloc_at _ _ _ _ (by simp)]
  rw [List.length_replicate] at hk
  rw [show (List.replicate (W * H) (0 : Int)).getD k 0 = 0 by simp [List.getD, hk]]
  rw [← Array.getElem?_toList, toList_madeCells_one]
  simp [hk]
 ·exact (((((Below.refl _ _).alloc (Nat.le_refl _) _).alloc (by simp) _).trans (hb.mono (by omega))).alloc (by omega) _).alloc (by simp; omega) _
structure TB (p : Nat) (a b c : Value) (w : World) : Prop where
 c0 : w.cell? ⟨p, 0, none⟩ = some a
 c1 : w.cell? ⟨p, 1, none⟩ = some b
 c2 : w.cell? ⟨p, 2, none⟩ = some c
 fz : ∀ k, w.frozen? ⟨p, k, none⟩ = false
theorem TB.lt {p : Nat} {a b c : Value} {w : World} (h : TB p a b c w) : p < w.heap.size := by
 rcases Nat.lt_or_ge p w.heap.size with k | k
 ·exact k
 ·have := h.c0; simp [World.cell?, Array.getElem?_eq_none k] at this
theorem TB.block {p : Nat} {a b c : Value} {w w' : World} (h : TB p a b c w) (e : w'.heap[p]? = w.heap[p]?) : TB p a b c w' :=
 ⟨(World.cell?_of_block (w := w) (a := ⟨p, 0, none⟩) e).trans h.c0, (World.cell?_of_block (w := w) (a := ⟨p, 1, none⟩) e).trans h.c1, (World.cell?_of_block (w := w) (a := ⟨p, 2, none⟩) e).trans h.c2, fun k => (World.frozen?_of_block (w := w) (a := ⟨p, k, none⟩) e).trans (h.fz k)⟩
theorem TB.next {p : Nat} {a b c : Value} {w w' : World} (h : TB p a b c w) (hb : Below w.heap.size w w') : TB p a b c w' := h.block (hb.block p h.lt)
theorem TB.alloc {p : Nat} {a b c : Value} {w : World} (h : TB p a b c w) (o : Obj) : TB p a b c (w.alloc o) := h.block (Below.heap_alloc _ _ _ h.lt)
theorem TB.new (w : World) (a b c : Value) (t : TypeId) : TB w.heap.size a b c (w.alloc (.cells #[a, b, c] t)) :=
 ⟨cell_new_at _ _ _ _, cell_new_at _ _ _ _, cell_new_at _ _ _ _, fun k => by simp⟩
structure TW (w wr : World) (O g W H W' H' n k : Nat) (f : Nat → Nat) (xs : List Int) (a : Option Addr) (c : Nat) : Prop where
 box : TB w.heap.size (.int .i64 (W : Int)) (.int .i64 (H : Int)) (.slice a n c) wr
 res : TB (w.heap.size + 1) (.int .i64 0) (.int .i64 0) (.slice none 0 0) wr
 out : TB O (.int .i64 (W' : Int)) (.int .i64 (H' : Int)) (.slice (some ⟨g, 0, none⟩) n n) wr
 sc : ScJ w wr g n k f xs
 hg : w.heap.size + 2 ≤ g
 hO : g < O
theorem TW.step {w wr : World} {O g W H W' H' n k : Nat} {f : Nat → Nat} {xs : List Int} {a : Option Addr} {c : Nat} (h : TW w wr O g W H W' H' n k f xs a c) (m : Nat) (hk : f k < n) (hinj : ∀ i, i < k → f i ≠ f k) {x : Int} (hx : xs.getD k 0 = x) : TW w ((wr.drewN m).setCell ⟨g, f k, none⟩ (.int .i64 x)) O g W H W' H' n (k + 1) f xs a c := by
 have h1 := h.hg
 have h2 := h.hO
 exact ⟨(h.box.block rfl).block (Below.heap_setCell _ _ _ _ (by simp; omega)), (h.res.block rfl).block (Below.heap_setCell _ _ _ _ (by simp; omega)), (h.out.block rfl).block (Below.heap_setCell _ _ _ _ (by simp; omega)), (h.sc.drewN m).step hk hinj hx, h1, h2⟩
theorem TW.start {w w1 : World} {g W H W' H' n : Nat} {f : Nat → Nat} {xs ys : List Int} {a : Option Addr} {c : Nat} (t1 t2 t3 : TypeId) (hg : ((w.alloc (.cells #[.int .i64 (W : Int), .int .i64 (H : Int), .slice a n c] t1)).alloc (.cells #[.int .i64 0, .int .i64 0, .slice none 0 0] t2)).heap.size ≤ g)
  (hc : Cel w1 g ys) (hn : ys.length = n) (hb : Below ((w.alloc (.cells #[.int .i64 (W : Int), .int .i64 (H : Int), .slice a n c] t1)).alloc (.cells #[.int .i64 0, .int .i64 0, .slice none 0 0] t2)).heap.size ((w.alloc (.cells #[.int .i64 (W : Int), .int .i64 (H : Int), .slice a n c] t1)).alloc (.cells #[.int .i64 0, .int .i64 0, .slice none 0 0] t2)) w1) :
  TW w (w1.alloc (.cells #[.int .i64 (W' : Int), .int .i64 (H' : Int), .slice (some ⟨g, 0, none⟩) n n] t3)) w1.heap.size g W H W' H' n 0 f xs a c := by
 have r1 := TB.new (w.alloc (.cells #[.int .i64 (W : Int), .int .i64 (H : Int), .slice a n c] t1)) (.int .i64 0) (.int .i64 0) (.slice none 0 0) t2
 rw [World.size_alloc] at r1
 simp only [World.size_alloc] at hg hb
 have hz := hb.size
 simp only [World.size_alloc] at hz
 have hlt := hc.lt
 have BB : Below w.heap.size w (w1.alloc (.cells #[.int .i64 (W' : Int), .int .i64 (H' : Int), .slice (some ⟨g, 0, none⟩) n n] t3)) :=
  ((((Below.refl _ _).alloc (Nat.le_refl _) _).alloc (by simp) _).trans (hb.mono (by omega))).alloc (by omega) _
 exact ⟨(((TB.new w _ _ _ t1).alloc _).block (hb.block _ (by omega))).alloc _, (r1.block (hb.block _ (by omega))).alloc _, TB.new w1 _ _ _ t3, ScJ.start f xs ys BB (by omega) (hc.block (by simp) (Below.heap_alloc _ _ _ hlt)) hn, by omega, hlt⟩

def atP (W : Nat) (xs : List Int) (x y : Nat) : Int := xs.getD (y * W + x) 0
structure Pat where
 W : Nat
 H : Nat
 xs : List Int
def Pat.ok (p : Pat) : Prop := p.xs.length = p.W * p.H
def Pat.mir (p : Pat) : Pat := ⟨p.W, p.H, mirP p.W p.H p.xs⟩
def Pat.qtr (p : Pat) : Pat := ⟨p.H, p.W, qtrP p.W p.H p.xs⟩
def Pat.rot (p : Pat) : Nat → Pat
 | 0 => p
 | j + 1 => (p.rot j).qtr
def Pat.turn (p : Pat) (k : Nat) : Pat := (if 4 ≤ k then p.mir else p).rot (k % 4)
def isDot (s : ByteArray) (i : Nat) : Bool := decide (bt s i = 194) && decide (i + 1 < s.size) && decide (bt s (i + 1) = 183)
def isBall (s : ByteArray) (i : Nat) : Bool := decide (bt s i = 226) && decide (i + 2 < s.size) && decide (bt s (i + 1) = 151) && decide (bt s (i + 2) = 143)
def drawF (s : ByteArray) : Nat → Nat → Nat → Nat → Nat → Nat → List Int → (Nat × Nat × List Int) ⊕ (Nat × Nat)
 | 0, _, _, _, _, _, _ => .inr (0, 0)
 | f + 1, i, r, n, wide, high, xs =>
  if s.size ≤ i then (if r < s.size then .inr (s.size, 2) else .inl (wide, high, xs))
  else if isDot s i then (if high = 100 then .inr (r, 1) else if n = 100 then .inr (i, 1) else drawF s f (i + 2) r (n + 1) wide high (xs ++ [0]))
  else if isBall s i then (if high = 100 then .inr (r, 1) else if n = 100 then .inr (i, 1) else drawF s f (i + 3) r (n + 1) wide high (xs ++ [1]))
  else if bt s i ≠ 10 then .inr (i, 2)
  else if high = 100 then .inr (r, 1)
  else if 0 < high ∧ n ≠ wide then .inr (r, 3)
  else drawF s f (i + 1) (i + 1) 0 n (high + 1) xs
def drawS (s : ByteArray) : (Nat × Nat × List Int) ⊕ (Nat × Nat) :=
 if 40000 < s.size then .inr (0, 4) else drawF s (s.size + 1) 0 0 0 0 0 []
structure DRd (b base : Nat) (w w' : World) : Prop where
 os : w'.os = w.os
 tape : w'.tape = w.tape
 output : w'.output = w.output
 size : w.heap.size ≤ w'.heap.size
 block : ∀ k, k < base → k ≠ b → w'.heap[k]? = w.heap[k]?
theorem DRd.refl (b base : Nat) (w : World) : DRd b base w w := ⟨rfl, rfl, rfl, Nat.le_refl _, fun _ _ _ => rfl⟩
theorem DRd.trans {b base : Nat} {a c d : World} (h : DRd b base a c) (k : DRd b base c d) : DRd b base a d :=
 ⟨k.os.trans h.os, k.tape.trans h.tape, k.output.trans h.output, Nat.le_trans h.size k.size, fun i hi hb => (k.block i hi hb).trans (h.block i hi hb)⟩
theorem DRd.set {b base : Nat} {a w : World} (h : DRd b base a w) (o : Nat) (u : Value) : DRd b base a (w.setCell ⟨b, o, none⟩ u) :=
 h.trans ⟨rfl, rfl, rfl, by simp [World.setCell], fun k _ hk => Below.heap_setCell _ _ _ _ hk⟩
theorem DRd.drewN {b base : Nat} {a w : World} (h : DRd b base a w) (n : Nat) : DRd b base a (w.drewN n) := h.trans ⟨rfl, rfl, rfl, Nat.le_refl _, fun _ _ _ => rfl⟩
structure DAt (b : Nat) (W H : Nat) (v : Value) (r n : Nat) (w : World) : Prop where
 c0 : w.cell? ⟨b, 0, none⟩ = some (.int .i64 (W : Int))
 c1 : w.cell? ⟨b, 1, none⟩ = some (.int .i64 (H : Int))
 c2 : w.cell? ⟨b, 2, none⟩ = some v
 c3 : w.cell? ⟨b, 3, none⟩ = some (.int .i64 (r : Int))
 c4 : w.cell? ⟨b, 4, none⟩ = some (.int .i64 (n : Int))
 fz : ∀ k, w.frozen? ⟨b, k, none⟩ = false
theorem DAt.block {b W H : Nat} {v : Value} {r n : Nat} {w w' : World} (h : DAt b W H v r n w) (e : w'.heap[b]? = w.heap[b]?) : DAt b W H v r n w' :=
 ⟨(World.cell?_of_block (w := w) (a := ⟨b, 0, none⟩) e).trans h.c0, (World.cell?_of_block (w := w) (a := ⟨b, 1, none⟩) e).trans h.c1, (World.cell?_of_block (w := w) (a := ⟨b, 2, none⟩) e).trans h.c2, (World.cell?_of_block (w := w) (a := ⟨b, 3, none⟩) e).trans h.c3, (World.cell?_of_block (w := w) (a := ⟨b, 4, none⟩) e).trans h.c4,
  fun k => (World.frozen?_of_block (w := w) (a := ⟨b, k, none⟩) e).trans (h.fz k)⟩
theorem DAt.drewN {b W H : Nat} {v : Value} {r n : Nat} {w : World} (h : DAt b W H v r n w) (m : Nat) : DAt b W H v r n (w.drewN m) := h.block rfl
theorem cell_same {w : World} {b k : Nat} {v u : Value} (h : w.cell? ⟨b, k, none⟩ = some v) : (w.setCell ⟨b, k, none⟩ u).cell? ⟨b, k, none⟩ = some u := World.cell?_setCell_same _ _ _ h
theorem cell_other {w : World} {b k j : Nat} {v u : Value} (h : w.cell? ⟨b, j, none⟩ = some v) (hk : k ≠ j) : (w.setCell ⟨b, k, none⟩ u).cell? ⟨b, j, none⟩ = some v :=
 (World.cell?_setCell_other _ ⟨b, k, none⟩ ⟨b, j, none⟩ _ (fun q => hk (congrArg Addr.off q))).trans h
theorem DAt.set0 {b W H : Nat} {v : Value} {r n : Nat} {w : World} (h : DAt b W H v r n w) (x : Nat) : DAt b x H v r n (w.setCell ⟨b, 0, none⟩ (.int .i64 (x : Int))) :=
 ⟨cell_same h.c0, cell_other h.c1 (by omega), cell_other h.c2 (by omega), cell_other h.c3 (by omega), cell_other h.c4 (by omega), fun k => by rw [World.frozen?_setCell]; exact h.fz k⟩
theorem DAt.set1 {b W H : Nat} {v : Value} {r n : Nat} {w : World} (h : DAt b W H v r n w) (x : Nat) : DAt b W x v r n (w.setCell ⟨b, 1, none⟩ (.int .i64 (x : Int))) :=
 ⟨cell_other h.c0 (by omega), cell_same h.c1, cell_other h.c2 (by omega), cell_other h.c3 (by omega), cell_other h.c4 (by omega), fun k => by rw [World.frozen?_setCell]; exact h.fz k⟩
theorem DAt.set4 {b W H : Nat} {v : Value} {r n : Nat} {w : World} (h : DAt b W H v r n w) (x : Nat) : DAt b W H v r x (w.setCell ⟨b, 4, none⟩ (.int .i64 (x : Int))) :=
 ⟨cell_other h.c0 (by omega), cell_other h.c1 (by omega), cell_other h.c2 (by omega), cell_other h.c3 (by omega), cell_same h.c4, fun k => by rw [World.frozen?_setCell]; exact h.fz k⟩

theorem ownsRow_from {w w' : World} {base : Nat} {e : TypeId} {v : Value} {n : Nat} {xs : List Value} (h : w.ownsRow base e 1 v n xs) (hb : ∀ k, base ≤ k → k < w.heap.size → w'.heap[k]? = w.heap[k]?) : w'.ownsRow base e 1 v n xs := by
 refine ⟨h.1, ?_⟩
 rcases h.2 with h0 | ⟨g, cap, cur, hv, hg, hh, rest⟩
 ·exact Or.inl h0
 ·exact Or.inr ⟨g, cap, cur, hv, hg, (hb g hg (Array.getElem?_eq_some_iff.1 hh).1).trans hh, rest⟩
structure DNum (s : ByteArray) (i r n W H : Nat) (xs : List Int) : Prop where
 li : i ≤ s.size
 lH : H ≤ 100
 ln : n ≤ 100
 lW : W ≤ 100
 len : xs.length = H * W + n
 top : H = 100 → n = 0
 row : n = 0 → r = i
 lr : r ≤ i
 eq : drawF s (s.size + 1 - i) i r n W H xs = drawS s
theorem DNum.cell {s : ByteArray} {i r n W H : Nat} {xs : List Int} (h : DNum s i r n W H xs) (j : Nat) (x : Int) (hj : j ≤ s.size) (hij : i ≤ j) (hH : ¬ H = 100) (hn : ¬ n = 100) (e : drawF s (s.size + 1 - i) i r n W H xs = drawF s (s.size + 1 - j) j r (n + 1) W H (xs ++ [x])) : DNum s j r (n + 1) W H (xs ++ [x]) :=
 ⟨hj, h.lH, by have := h.ln; omega, h.lW, by have := h.len; simp; omega, fun q => absurd q hH, fun q => by omega, Nat.le_trans h.lr hij, e.symm.trans h.eq⟩
theorem DNum.small {s : ByteArray} {i r n W H : Nat} {xs : List Int} (h : DNum s i r n W H xs) (hH : ¬ H = 100) : xs.length ≤ 10000 := by
 have h1 := h.lH
 have h2 : H * W ≤ 99 * 100 := Nat.mul_le_mul (by omega) h.lW
 have h3 := h.len
 have h4 := h.ln
 omega
theorem DNum.all {s : ByteArray} {i r n W H : Nat} {xs : List Int} (h : DNum s i r n W H xs) : xs.length ≤ 10100 := by
 have h2 : H * W ≤ 100 * 100 := Nat.mul_le_mul h.lH h.lW
 have h3 := h.len
 have h4 := h.ln
 omega
theorem DNum.start (s : ByteArray) (hs : s.size ≤ 40000) : DNum s 0 0 0 0 0 [] :=
 ⟨by omega, by omega, by omega, by omega, by simp, by omega, by omega, by omega, by unfold drawS; rw [if_neg (by omega)]; rfl⟩
structure DS (s : ByteArray) (w wr : World) (i r n W H : Nat) (v : Value) (xs : List Int) : Prop where
 it : wr.heap[w.heap.size + 2]? = some (.stringIter s i)
 dat : DAt (w.heap.size + 1) W H v r n wr
 own : wr.ownsRow (w.heap.size + 3) 3 1 v xs.length (xs.map fun x => .int .i64 x)
 res : ResB w.heap.size wr
 below : Below w.heap.size w wr
theorem DS.sz {s : ByteArray} {w wr : World} {i r n W H : Nat} {v : Value} {xs : List Int} (h : DS s w wr i r n W H v xs) : w.heap.size + 3 ≤ wr.heap.size := (Array.getElem?_eq_some_iff.1 h.it).1
theorem DS.rd {s : ByteArray} {w wr w' : World} {i r n W H r' n' W' H' : Nat} {v : Value} {xs : List Int} (h : DS s w wr i r n W H v xs) (hr : Rd (w.heap.size + 1) wr w') (hd : DAt (w.heap.size + 1) W' H' v r' n' w') : DS s w w' i r' n' W' H' v xs := by
 have hz := h.sz
 exact ⟨(hr.block _ (by omega) (by omega)).trans h.it, hd, ownsRow_from h.own fun k hk hl => hr.block k hl (by omega), h.res.block (hr.block _ (by omega) (by omega)), h.below.trans (hr.below (by omega) (by omega))⟩
theorem DS.pos {s : ByteArray} {w wr : World} {i r n W H : Nat} {v : Value} {xs : List Int} (h : DS s w wr i r n W H v xs) : wr.iterPos (w.heap.size + 2) = i := by
 unfold World.iterPos; rw [h.it]
theorem small (p : Pat) (hp : p.ok) (h1 : p.W ≤ 100) (h2 : p.H ≤ 100) : p.xs.length ≤ 10000 := by rw [hp]; exact Nat.mul_le_mul h1 h2
structure TD (w wr : World) (p : Pat) (v : Value) : Prop where
 box : TB w.heap.size (.int .i64 (p.W : Int)) (.int .i64 (p.H : Int)) v wr
 res : TB (w.heap.size + 1) (.int .i64 0) (.int .i64 0) (.slice none 0 0) wr
 tab : Tab wr v p.xs
 fresh : ∀ g k c, v = .slice (some ⟨g, 0, none⟩) k c → w.heap.size + 2 ≤ g ∧ k ≤ c ∧ c ≤ maxLen
 ok : p.ok
 lW : p.W ≤ 100
 lH : p.H ≤ 100
 below : Below w.heap.size w wr
 sz : w.heap.size + 2 ≤ wr.heap.size
theorem TB.store {p : Nat} {a b c : Value} {w : World} (h : TB p a b c w) (a' b' c' : Value) : TB p a' b' c' (((w.setCell ⟨p, 0, none⟩ a').setCell ⟨p, 1, none⟩ b').setCell ⟨p, 2, none⟩ c') :=
 ⟨cell_other (cell_other (cell_same h.c0) (by omega)) (by omega), cell_other (cell_same (cell_other h.c1 (by omega))) (by omega), cell_same (cell_other (cell_other h.c2 (by omega)) (by omega)), fun k => by rw [World.frozen?_setCell, World.frozen?_setCell, World.frozen?_setCell]; exact h.fz k⟩
theorem stored_blk (w : World) (p q : Nat) (a b c : Value) (h : q ≠ p) : (((w.setCell ⟨p, 0, none⟩ a).setCell ⟨p, 1, none⟩ b).setCell ⟨p, 2, none⟩ c).heap[q]? = w.heap[q]? :=
 (Below.heap_setCell _ _ _ _ h).trans ((Below.heap_setCell _ _ _ _ h).trans (Below.heap_setCell _ _ _ _ h))
theorem TD.next {w wr w' : World} {p : Pat} {v : Value} (h : TD w wr p v) (hb : Below wr.heap.size wr w') (q : Pat) (g : Nat) (n : Nat) (hC : Cel w' g q.xs) (hn : q.xs.length = n) (hg : wr.heap.size ≤ g) (hq : q.ok) (l1 : q.W ≤ 100) (l2 : q.H ≤ 100) :
  TD w (((w'.setCell ⟨w.heap.size, 0, none⟩ (.int .i64 (q.W : Int))).setCell ⟨w.heap.size, 1, none⟩ (.int .i64 (q.H : Int))).setCell ⟨w.heap.size, 2, none⟩ (.slice (some ⟨g, 0, none⟩) n n)) q (.slice (some ⟨g, 0, none⟩) n n) := by
 have hz := h.sz
 have hz' := hb.size
 refine ⟨(h.box.next hb).store _ _ _, (h.res.next hb).block (stored_blk _ _ _ _ _ _ (by omega)), ?_, fun g' k c e => by injection e with e1 e5 e6; injection e1 with e2; injection e2 with e3; subst e5 e6; exact ⟨by omega, Nat.le_refl _, by rw [← hn]; exact Nat.le_trans (small q hq l1 l2) (by unfold maxLen; omega)⟩, hq, l1, l2, ?_, ?_⟩
 ·exact (((hC.rd ((Rd.refl w.heap.size _).set 0 _) (by omega)).rd ((Rd.refl w.heap.size _).set 1 _) (by omega)).rd ((Rd.refl w.heap.size _).set 2 _) (by omega)).tab hn
 ·exact (((h.below.trans (hb.mono (by omega))).setCell (Nat.le_refl _) _).setCell (Nat.le_refl _) _).setCell (Nat.le_refl _) _
 ·rw [World.size_setCell, World.size_setCell, World.size_setCell]; omega

def winC (W l t V : Nat) (xs : List Int) (q : Nat) : Int := atP W xs (l + q % V) (t + q / V)
def winP (W l t V N : Nat) (xs : List Int) : List Int := (List.range N).map (winC W l t V xs)
structure Bx where
 l : Nat
 t : Nat
 r : Nat
 b : Nat
def bbx (W H : Nat) (xs : List Int) : Nat → Bx
 | 0 => ⟨W, H, 0, 0⟩
 | m + 1 => if xs.getD m 0 = 1 then ⟨min (bbx W H xs m).l (m % W), min (bbx W H xs m).t (m / W), max (bbx W H xs m).r (m % W + 1), max (bbx W H xs m).b (m / W + 1)⟩ else bbx W H xs m
theorem bbx_yes {W H m : Nat} {xs : List Int} (h : xs.getD m 0 = 1) : bbx W H xs (m + 1) = ⟨min (bbx W H xs m).l (m % W), min (bbx W H xs m).t (m / W), max (bbx W H xs m).r (m % W + 1), max (bbx W H xs m).b (m / W + 1)⟩ := by
 rw [bbx, if_pos h]
theorem bbx_no {W H m : Nat} {xs : List Int} (h : ¬ xs.getD m 0 = 1) : bbx W H xs (m + 1) = bbx W H xs m := by
 rw [bbx, if_neg h]
def trimP (p : Pat) : Pat × Nat × Nat :=
 let q := bbx p.W p.H p.xs (p.W * p.H)
 if q.r = 0 then (⟨0, 0, []⟩, 0, 0) else (⟨q.r - q.l, q.b - q.t, winP p.W q.l q.t (q.r - q.l) ((q.r - q.l) * (q.b - q.t)) p.xs⟩, q.l, q.t)
set_option maxRecDepth 100000 in
set_option maxHeartbeats 6400000 in
theorem tooGreat_any (X : Nat → Nat) (W H r d : Int) (w : World) :
  Calls Tryz.prog 43 #[.agg (arrF 208 (grF X W H r d))] w fun e w' => e = .returned (.bool (decide (100 < W) || decide (100 < H))) ∧ Below w.heap.size w w' := by
 obtain ⟨G, hG⟩ : ∃ G, arrF 208 (grF X W H r d) = G := ⟨_, rfl⟩
 obtain ⟨w1, hw1⟩ : ∃ w1, w.alloc (.cells G 110) = w1 := ⟨_, rfl⟩
 have BB := hide' (show Below w.heap.size w w1 by rw [← hw1]; exact (Below.refl _ _).alloc (Nat.le_refl _) _)
 have g0 : w1.heap[w.heap.size]? = some (.cells G 110 (0, 0)) := by rw [← hw1]; exact heap_alloc_new _ _
 have c0 : w1.cell? ⟨w.heap.size, 204, none⟩ = some (.int .i64 W) := by rw [cell_of_row w1 _ _ _ _ _ g0, ← hG, arrF_get _ (by omega)]; rfl
 have c1 : w1.cell? ⟨w.heap.size, 205, none⟩ = some (.int .i64 H) := by rw [cell_of_row w1 _ _ _ _ _ g0, ← hG, arrF_get _ (by omega)]; rfl
 rw [hG]
 clear hG g0
 by_cases h : 100 < W
 ·have h2 : decide (100 < W) = true := by simp [h]
  rw [h2]
  go_enter Tryz.func43, Tryz.ntmps43
  go_wp2
  go_ret
  exact ⟨rfl, BB.out⟩
 ·have h2 : decide (100 < W) = false := by simp [h]
  rw [h2]
  go_enter Tryz.func43, Tryz.ntmps43
  go_wp2
  go_ret
  exact ⟨by simp, BB.out⟩
theorem drew_keep {w w1 : World} {k : Nat} (h : w.heap[k]? = w1.heap[k]?) : w.drew.heap[k]? = w1.heap[k]? := h
theorem cut3P {A B C : Type} {P Φ : A → B → C → Prop} {G : Prop} (h : (∀ a b c, P a b c → Φ a b c) → G) (k : ∀ a b c, P a b c → Φ a b c) : G := h k
def patX (X : Nat → Nat) (W i : Nat) : Nat := X (i / W * 2 + i % W / 64) / 2 ^ (i % W % 64) % 2
structure PX (w w1 wr : World) (W H : Nat) (n p q : Nat) (f : Nat → Value) : Prop where
 keep : ∀ k, k < w.heap.size + 1 + 1 → wr.heap[k]? = w1.heap[k]?
 pat : wr.heap[p]? = some (.cells #[.int .i64 (W : Int), .int .i64 (H : Int), .slice (some ⟨q, 0, none⟩) n n] 26 (0, 0))
 out : wr.heap[q]? = some (.cells (arrF n f) 3 (0, 0))
 pl : w.heap.size + 1 + 1 ≤ p
 ql : w.heap.size + 1 + 1 ≤ q
 ne : p ≠ q
 below : Below w.heap.size w wr
theorem made_arr (n : Nat) : madeCells #[Value.int .i64 0] n = arrF n (fun _ => .int .i64 0) := by
 apply Array.ext'
 rw [toList_madeCells_one]
 simp [arrF, List.map_const']
theorem PX.set {w w1 wr : World} {W H n p q : Nat} {f : Nat → Value} (h : PX w w1 wr W H n p q f) (i : Nat) (v : Value) : PX w w1 (wr.setCell ⟨q, i, none⟩ v) W H n p q (fun k => if k = i then v else f k) :=
 ⟨fun k hk => (Below.heap_setCell _ _ _ _ (by have := h.ql; simp; omega)).trans (h.keep k hk), two_other h.pat _ _ _ h.ne, by rw [heap_setCell_same _ _ _ _ _ _ h.out, arrF_set], h.pl, h.ql, h.ne, h.below.setCell (by have := h.ql; simp; omega) _⟩
theorem PX.ext {w w1 wr : World} {W H n p q : Nat} {f g : Nat → Value} (h : PX w w1 wr W H n p q f) (e : ∀ k, k < n → f k = g k) : PX w w1 wr W H n p q g := ⟨h.keep, h.pat, by rw [← arrF_ext e]; exact h.out, h.pl, h.ql, h.ne, h.below⟩
theorem PX.drewN {w w1 wr : World} {W H n p q : Nat} {f : Nat → Value} (h : PX w w1 wr W H n p q f) (k : Nat) : PX w w1 (wr.drewN k) W H n p q f := ⟨h.keep, h.pat, h.out, h.pl, h.ql, h.ne, below_drewN h.below k⟩
set_option maxRecDepth 100000 in
set_option maxHeartbeats 12800000 in
theorem pattern_any (X : Nat → Nat) (W H : Nat) (r d : Int) (w : World) (hX : ∀ k, X k < 18446744073709551616) (hW : W ≤ 100) (hH : H ≤ 100) :
  Calls Tryz.prog 44 #[.agg (arrF 208 (grF X (W : Int) (H : Int) r d))] w fun e w' => (∃ q, e = .returned (.agg #[.int .i64 (W : Int), .int .i64 (H : Int), .slice (some ⟨q, 0, none⟩) (W * H) (W * H)]) ∧ w.heap.size ≤ q ∧ w'.heap[q]? = some (.cells (arrF (W * H) (fun k => .int .i64 ((patX X W k : Nat) : Int))) 3 (0, 0))) ∧ Below w.heap.size w w' := by
 obtain ⟨G, hG⟩ : ∃ G, arrF 208 (grF X (W : Int) (H : Int) r d) = G := ⟨_, rfl⟩
 obtain ⟨w1, hw1⟩ : ∃ w1, (w.alloc (.cells G 110)).alloc (.cells #[.int .i64 0, .int .i64 0, .slice none 0 0] 26) = w1 := ⟨_, rfl⟩
 have BB : Below w.heap.size w w1 := by rw [← hw1]; exact ((Below.refl _ _).alloc (Nat.le_refl _) _).alloc (by simp) _
 have g0 : w1.heap[w.heap.size]? = some (.cells G 110 (0, 0)) := by rw [← hw1, Below.heap_alloc _ _ _ (by simp)]; exact heap_alloc_new _ _
 have g1 : w1.heap[w.heap.size + 1]? = some (.cells #[.int .i64 0, .int .i64 0, .slice none 0 0] 26 (0, 0)) := by rw [← hw1]; exact heap_atX _ _ _ (by simp)
 have c0 : w1.cell? ⟨w.heap.size, 204, none⟩ = some (.int .i64 (W : Int)) := by rw [cell_of_row w1 _ _ _ _ _ g0, ← hG, arrF_get _ (by omega)]; rfl
 have c1 : w1.cell? ⟨w.heap.size, 205, none⟩ = some (.int .i64 (H : Int)) := by rw [cell_of_row w1 _ _ _ _ _ g0, ← hG, arrF_get _ (by omega)]; rfl
 have s1 : w1.heap.size = w.heap.size + 1 + 1 := by rw [← hw1]; simp
 obtain ⟨n, hn⟩ : ∃ n, W * H = n := ⟨_, rfl⟩
 have NH := hide' hn
 have n4 : n ≤ 10000 := by rw [← hn]; exact Nat.mul_le_mul hW hH
 have en : (W : Int) * (H : Int) = (n : Int) := by rw [← hn]; simp
 have hmk := run_make_row' (P := Tryz.prog) 22 3 (.int .i64 0) 8 Tryz.underlying22 info_int rfl .i64 .i64 n (by omega) (by omega)
 rw [hn, hG]
 have HG := hide' hG
 have G0 := hide' g0
 have G1 := hide' g1
 have BH := hide' BB
 have HX := hide' hX
 clear hn hG g0 g1 BB hX
 go_enter Tryz.func44, Tryz.ntmps44
 go_wp2
 refine cut3P (P := fun p q V => Hid (PX w w1 V W H n p q (fun _ => .int .i64 0))) (Φ := ?PH) (fun CUT => ?mn) ?rs
 case mn =>
  go_region
  ·obtain ⟨p, hp⟩ : ∃ p, w.heap.size + 1 + 1 + 1 = p := ⟨_, rfl⟩
   obtain ⟨q, hq⟩ : ∃ q, w.heap.size + 1 + 1 = q := ⟨_, rfl⟩
   rw [hp, hq]
   obtain ⟨V, hV⟩ : ∃ V, ((w1.alloc (.cells (madeCells #[.int .i64 0] n) 3)).alloc (.cells #[.int .i64 (W : Int), .int .i64 (H : Int), .slice (some ⟨q, 0, none⟩) n n] 26)).drew = V := ⟨_, rfl⟩
   rw [hV]
   have T8 := hide' (show PX w w1 V W H n p q (fun _ => .int .i64 0) from by
    rw [← hV]
    exact ⟨fun k hk => drew_keep ((Below.heap_alloc _ _ _ (by simp; omega)).trans (Below.heap_alloc _ _ _ (by omega))), drew_block (heap_atX _ _ _ (by simp; omega)), drew_block ((Below.heap_alloc _ _ _ (by simp; omega)).trans (by rw [made_arr]; exact heap_atX _ _ _ (by omega))), by omega, by omega, by omega, ((BH.out.alloc (by omega) _).alloc (by simp; omega) _).drew⟩)
   exact CUT _ _ _ T8
  ·obtain ⟨q, hp⟩ : ∃ p, w.heap.size + 1 + 1 + 1 = p := ⟨_, rfl⟩
   obtain ⟨p, hq⟩ : ∃ q, w.heap.size + 1 + 1 = q := ⟨_, rfl⟩
   rw [hp, hq]
   obtain ⟨V, hV⟩ : ∃ V, ((w1.alloc (.cells #[.int .i64 (W : Int), .int .i64 (H : Int), .slice (some ⟨q, 0, none⟩) n n] 26)).alloc (.cells (madeCells #[.int .i64 0] n) 3)).drew = V := ⟨_, rfl⟩
   rw [hV]
   have T8 := hide' (show PX w w1 V W H n p q (fun _ => .int .i64 0) from by
    rw [← hV]
    exact ⟨fun k hk => drew_keep ((Below.heap_alloc _ _ _ (by simp; omega)).trans (Below.heap_alloc _ _ _ (by omega))), drew_block ((Below.heap_alloc _ _ _ (by simp; omega)).trans (heap_atX _ _ _ (by omega))), drew_block (by rw [made_arr]; exact heap_atX _ _ _ (by simp; omega)), by omega, by omega, by omega, ((BH.out.alloc (by omega) _).alloc (by simp; omega) _).drew⟩)
   exact CUT _ _ _ T8
 case rs =>
  intro p q V T8
  clear hmk hw1 c0 c1
  have v2 := cell_of_row V _ 2 _ _ _ T8.out.pat
  simp at v2
  go_wp2
  go_loopw [21] (fun iv wr => ∃ (i : Nat), iv = .int .i64 (i : Int) ∧ i ≤ n ∧ Hid (PX w w1 wr W H n p q (fun k => .int .i64 (if k < i then ((patX X W k : Nat) : Int) else 0)))) (fun iv _ => n - (intOf iv).toNat)
  case atStart => exact ⟨0, rfl, by omega, hide' (T8.out.ext (fun k _ => by simp))⟩
  case round =>
   obtain ⟨i, rfl, hi, H1⟩ := hrel
   by_cases d2 : (i : Int) < (n : Int)
   ·have il : i < W * H := by rw [NH.out]; omega
    obtain ⟨x, y, hx, hy, ex, ey, -⟩ := split_lt (W := W) (H := H) (i := i) il
    have gb := (H1.out.keep _ (by omega)).trans G0.out
    have q0 : wr.cell? ⟨w.heap.size, 204, none⟩ = some (.int .i64 (W : Int)) := by rw [cell_of_row wr _ _ _ _ _ gb, ← HG.out, arrF_get _ (by omega)]; rfl
    have q2 := cell_of_row wr _ 2 _ _ _ H1.out.pat
    simp at q2
    have e1 : (i : Int).tmod (W : Int) = (x : Int) := by rw [Int.tmod_eq_emod_of_nonneg (by omega), ← ex]; simp
    have e2 : (i : Int).tdiv (W : Int) = (y : Int) := by rw [Int.tdiv_eq_ediv_of_nonneg (by omega), ← ey]; simp
    have nW : ¬ (W : Int) = 0 := by omega
    obtain ⟨h, hh⟩ : ∃ h : Nat, x / 64 = h := ⟨_, rfl⟩
    obtain ⟨b, hb⟩ : ∃ b : Nat, x % 64 = b := ⟨_, rfl⟩
    have hl : h < 2 := by omega
    have bl : b < 64 := by omega
    have e3 : (x : Int).tdiv 64 = (h : Int) := by rw [Int.tdiv_eq_ediv_of_nonneg (by omega), ← hh]; simp
    have e4 : (x : Int).tmod 64 = (b : Int) := by rw [Int.tmod_eq_emod_of_nonneg (by omega), ← hb]; simp
    have hli : (h : Int) < 2 := by omega
    have yli : (y : Int) < 102 := by omega
    obtain ⟨wd, hwd⟩ : ∃ v, X (y * 2 + h) = v := ⟨_, rfl⟩
    have wl : wd < 18446744073709551616 := by rw [← hwd]; exact HX.out _
    have cs : wr.cell? ⟨w.heap.size, y * 2 + h, none⟩ = some (.int .u64 (wd : Int)) := by rw [cell_of_row wr _ _ _ _ _ gb, ← HG.out, arrF_get _ (by omega), grF, if_pos (by omega), uF, hwd]
    obtain ⟨sh, hsh⟩ : ∃ v : Nat, wd / 2 ^ b = v := ⟨_, rfl⟩
    have us : (wd : Int) / 2 ^ b = (sh : Int) := by rw [← hsh]; simp
    have us2 : (wd : Int) / 2 ^ min b 64 = (sh : Int) := by rw [show min b 64 = b by omega]; exact us
    have shl : sh < 18446744073709551616 := by rw [← hsh]; exact div_ltW wl
    have ua := u64_and_nat sh 1 shl (by omega)
    obtain ⟨bt, hbt⟩ : ∃ v : Nat, sh % 2 = v := ⟨_, rfl⟩
    have ua2 : bits .and .u64 (sh : Int) 1 = (bt : Int) := by rw [← hbt, ← nat_mask1]; exact ua
    have w1' := wrap_natP h (by omega)
    have w2' := wrap_natP b (by omega)
    have w3' := wrap_natP bt (by omega)
    have co : wr.cell? ⟨q, i, none⟩ = some (.int .i64 0) := by rw [cell_of_row wr _ _ _ _ _ H1.out.out, arrF_get _ (by omega), if_neg (by omega)]
    have fo := frozen_of_row wr _ i _ _ H1.out.out
    have NX := hide' (fun (U : World) (hU : PX w w1 U W H n p q (fun k => .int .i64 (if k < i then ((patX X W k : Nat) : Int) else 0))) => show PX w w1 (U.setCell ⟨q, i, none⟩ (.int .i64 (bt : Int))) W H n p q (fun k => .int .i64 (if k < i + 1 then ((patX X W k : Nat) : Int) else 0)) from
     (hU.set i _).ext (fun k _ => by
      by_cases z : k = i
      ·subst z
       rw [if_pos rfl, if_pos (Nat.lt_succ_self _), patX, ex, ey, hh, hb, hwd, hsh, hbt]
      ·rw [if_neg z]
       by_cases z2 : k < i
       ·rw [if_pos z2, if_pos (by omega)]
       ·rw [if_neg z2, if_neg (by omega)]))
    clear gb ex ey hh hb hwd wl hsh shl hbt ua il hx hy
    go_wp2
    go_quiet (fail)
    go_wp2
    go_region
    all_goals go_wp2
    all_goals exact ⟨⟨i + 1, by go_num, by omega, hide' (show PX w w1 ((wr.setCell ⟨q, i, none⟩ (.int .i64 (bt : Int))).drewN (nq + 1)) W H n p q (fun k => .int .i64 (if k < i + 1 then ((patX X W k : Nat) : Int) else 0)) from (NX.out wr H1.out).drewN _)⟩, by simp [intOf]; omega⟩
   ·have iN : i = n := by omega
    have HF := H1.out
    rw [iN] at HF
    have g1 := (HF.keep _ (by omega)).trans G1.out
    have o0 := cell_of_row wr _ 0 _ _ _ HF.pat
    have o1 := cell_of_row wr _ 1 _ _ _ HF.pat
    have o2 := cell_of_row wr _ 2 _ _ _ HF.pat
    have r0 := cell_of_row wr _ 0 _ _ _ g1
    have r1 := cell_of_row wr _ 1 _ _ _ g1
    have r2 := cell_of_row wr _ 2 _ _ _ g1
    have f0 := frozen_of_row wr _ 0 _ _ g1
    have f1 := frozen_of_row wr _ 1 _ _ g1
    have f2 := frozen_of_row wr _ 2 _ _ g1
    simp at o0 o1 o2 r0 r1 r2
    have QO := hide' (HF.ext (g := fun k => .int .i64 ((patX X W k : Nat) : Int)) (fun k hk => by rw [if_pos hk]))
    clear iN HF g1
    go_wp2
    refine bodyPost_ret (v := .agg #[.int .i64 (W : Int), .int .i64 (H : Int), .slice (some ⟨q, 0, none⟩) n n]) (by simp [results, Tryz.results44, go_sem, r0, r1, r2]) rfl ?_
    have qn : q ≠ w.heap.size + 1 := by have := QO.out.ql; omega
    exact ⟨⟨q, rfl, by have := QO.out.ql; omega, two_other (two_other (two_other QO.out.out _ _ _ qn) _ _ _ qn) _ _ _ qn⟩, ((QO.out.below.setCell (by simp) _).setCell (by simp) _).setCell (by simp) _⟩
end Go.Proofs.YtemhcpldflcfbaaGreatDoor
