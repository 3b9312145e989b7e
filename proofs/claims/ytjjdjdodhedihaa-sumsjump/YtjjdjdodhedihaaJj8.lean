/-
  What the last text of this claim leans on, part 8: Oc2, Oc3, Oc4, Oc5, Od1, Oc6, Oc7, Oc8, Od2, Od3, As, Err, Er1, Lk1, Lk2, Lk3, Lk4, LawN, Ob5, Od4, Oe1, Oe2, Oe3, Ll1, Ll2, Ll3, Ll4, Of1, Of2.
-/
import Derived.Test.YtjjdjdodhedihaaJj7
import Derived.Test.YtjjdjdodhedihaaProg
import Derived.Test.YtjjdjdodhedihaaJj1
import Derived.Test.YtjjdjdodhedihaaJj2
import Derived.Test.YtjjdjdodhedihaaJj6
import Derived.RangeFuncBox
import Derived.Maps.AppendAt
import Derived.Deep.RegionHeld3
import Derived.Deep.AppendLies
import Derived.WalkKit
import Derived.LaidEql
import Derived.Stop.Asserts
import Derived.RowKitTokens
import Derived.WalkSpells
import Derived.WalkLawsBesides
import Derived.OneCell
import Derived.Deep.RegionWith
namespace Go.Proofs.Ytjjdjdodhedihaa
open Go.RowKit
set_option linter.unusedVariables false

/-- A block of cells, as it lies. -/
def Blk (w : World) (p : Nat) (cs : Array Value) (t : TypeId) : Prop := w.heap[p]? = some (.cells cs t (0, 0))
theorem Blk.lt {w : World} {p : Nat} {cs : Array Value} {t : TypeId} (h : Blk w p cs t) : p < w.heap.size := (Array.getElem?_eq_some_iff.1 h).1
theorem Blk.cell {w : World} {p : Nat} {cs : Array Value} {t : TypeId} (h : Blk w p cs t) (i : Nat) : w.cell? ⟨p, i, none⟩ = cs[i]? := by simp [World.cell?, show w.heap[p]? = _ from h]
theorem Blk.new (w : World) (cs : Array Value) (t : TypeId) : Blk (w.alloc (.cells cs t)) w.heap.size cs t := World.alloc_heap_new w _
theorem Blk.alloc {w : World} {p : Nat} {cs : Array Value} {t : TypeId} (h : Blk w p cs t) (o : Obj) : Blk (w.alloc o) p cs t := (Below.heap_alloc w o p h.lt).trans h
theorem Blk.of {w w' : World} {p : Nat} {cs : Array Value} {t : TypeId} (h : Blk w p cs t) (e : w'.heap[p]? = w.heap[p]?) : Blk w' p cs t := e.trans h
theorem Blk.set {w : World} {p : Nat} {cs : Array Value} {t : TypeId} (h : Blk w p cs t) (i : Nat) (v : Value) : Blk (w.setCell ⟨p, i, none⟩ v) p (cs.setIfInBounds i v) t := by
  obtain ⟨hlt, hk⟩ := Array.getElem?_eq_some_iff.1 h
  show (w.heap.modify p _)[p]? = _
  rw [Array.getElem?_eq_getElem (by rw [Array.size_modify]; exact hlt), Array.getElem_modify_self, hk]
  rfl
/-- A stop: a pair of places, the cells by which it was come to, the number of the one ahead. -/
structure Stp where
  p : Nat
  q : Nat
  a : Nat
  b : Nat
  h : Int
def Stp.cells (s : Stp) : List Value := [.int .i64 (s.p : Int), .int .i64 (s.q : Int), .int .i64 (s.a : Int), .int .i64 (s.b : Int), .int .i64 s.h]
/-- Was a pair seen? -/
def wasSeen (n : Nat) (sn : List Bool) (p q : Nat) : Bool := sn.getD (p * n + q) false
end Go.Proofs.Ytjjdjdodhedihaa

namespace Go.Proofs.Ytjjdjdodhedihaa
open Go.RowKit
set_option linter.unusedVariables false

/-- Pairs of numbers in a block. -/
structure PC (w : World) (g n : Nat) (E : Nat → Nat × Nat) : Prop where
  lt : g < w.heap.size
  c0 : ∀ k, k < n → w.cell? ⟨g, k * 2, none⟩ = some (.int .i64 ((E k).1 : Int))
  c1 : ∀ k, k < n → w.cell? ⟨g, k * 2 + 1, none⟩ = some (.int .i64 ((E k).2 : Int))
  fz : ∀ k, w.frozen? ⟨g, k, none⟩ = false
theorem PC.drew {w : World} {g n : Nat} {E : Nat → Nat × Nat} (h : PC w g n E) : PC w.drew g n E := ⟨h.lt, h.c0, h.c1, h.fz⟩
theorem PC.set {w : World} {g n : Nat} {E : Nat → Nat × Nat} (h : PC w g n E) (i : Nat) (hi : i < n) (x : Nat × Nat) : PC ((w.setCell ⟨g, i * 2, none⟩ (.int .i64 (x.1 : Int))).setCell ⟨g, i * 2 + 1, none⟩ (.int .i64 (x.2 : Int))) g n (fun k => if k = i then x else E k) := by
  have o : ∀ (W : World) (a b : Nat) (u : Value), a ≠ b → (W.setCell ⟨g, a, none⟩ u).cell? ⟨g, b, none⟩ = W.cell? ⟨g, b, none⟩ := fun W a b u h => World.cell?_setCell_other _ ⟨g, a, none⟩ ⟨g, b, none⟩ _ (fun q => h (congrArg Addr.off q))
  refine ⟨by simpa using h.lt, fun k hk => ?_, fun k hk => ?_, fun k => by simp [World.frozen?_setCell]; exact h.fz k⟩
  · rw [o _ _ _ _ (by omega)]
    by_cases e : k = i
    · subst e
      simp only [if_true]
      exact World.cell?_setCell_same _ _ _ (h.c0 k hk)
    · rw [o _ _ _ _ (by omega), if_neg e]; exact h.c0 k hk
  · by_cases e : k = i
    · subst e
      simp only [if_true]
      exact World.cell?_setCell_same _ _ _ (by rw [o _ _ _ _ (by omega)]; exact h.c1 k hk)
    · rw [o _ _ _ _ (by omega), o _ _ _ _ (by omega), if_neg e]; exact h.c1 k hk
theorem rd_drew {w w' : World} {g : Nat} (h : Rd g w w') : Rd g w w'.drew := ⟨h.os, h.tape, h.output, h.size, h.block⟩
end Go.Proofs.Ytjjdjdodhedihaa

namespace Go.Proofs.Ytjjdjdodhedihaa
open Go.RowKit
set_option linter.unusedVariables false

/-- The stop of a number. -/
def stAt (st : List Stp) (j : Nat) : Stp := st.getD j ⟨0, 0, 0, 0, 0⟩
/-- The stops, cell by cell. -/
structure SC (W : World) (g : Nat) (st : List Stp) : Prop where
  lt : g < W.heap.size
  cells : ∀ i k, i < st.length → k < 5 → W.cell? ⟨g, i * 5 + k, none⟩ = ((stAt st i).cells)[k]?
theorem SC.below {W W' : World} {g : Nat} {st : List Stp} (h : SC W g st) (hb : Below W.heap.size W W') : SC W' g st :=
  ⟨Nat.lt_of_lt_of_le h.lt hb.size, fun i k hi hk => (World.cell?_of_block (w := W) (a := ⟨g, i * 5 + k, none⟩) (hb.block g h.lt)).trans (h.cells i k hi hk)⟩
theorem SC.block {W W' : World} {g : Nat} {st : List Stp} (h : SC W g st) (hs : W.heap.size ≤ W'.heap.size) (e : W'.heap[g]? = W.heap[g]?) : SC W' g st :=
  ⟨Nat.lt_of_lt_of_le h.lt hs, fun i k hi hk => (World.cell?_of_block (w := W) (a := ⟨g, i * 5 + k, none⟩) e).trans (h.cells i k hi hk)⟩
theorem row_base {w : World} {base : Nat} {e : TypeId} {size n : Nat} {v : Value} {xs : List Value} (h : w.ownsRow base e size v n xs) : ∀ r, v.ownBlock = some r → base ≤ r := fun r er => by
  rcases h.2 with ⟨rfl, _⟩ | ⟨g, cap, cur, rfl, hb, _⟩
  · simp [Value.ownBlock] at er
  · obtain rfl : g = r := by simpa [Value.ownBlock] using er
    exact hb
theorem PC.block {w w' : World} {g n : Nat} {E : Nat → Nat × Nat} (h : PC w g n E) (hs : w.heap.size ≤ w'.heap.size) (e : w'.heap[g]? = w.heap[g]?) : PC w' g n E :=
  ⟨Nat.lt_of_lt_of_le h.lt hs, fun k hk => (World.cell?_of_block (w := w) (a := ⟨g, k * 2, none⟩) e).trans (h.c0 k hk), fun k hk => (World.cell?_of_block (w := w) (a := ⟨g, k * 2 + 1, none⟩) e).trans (h.c1 k hk), fun k => (World.frozen?_of_block (w := w) (a := ⟨g, k, none⟩) e).trans (h.fz k)⟩
end Go.Proofs.Ytjjdjdodhedihaa

namespace Go.Proofs.Ytjjdjdodhedihaa
open Go.RowKit
set_option linter.unusedVariables false

/-- What rings wants of a way. -/
def wantR (x y p' q' a b : Nat) : Bool := decide (p' = x ∧ q' = y) && !decide (a = b)
end Go.Proofs.Ytjjdjdodhedihaa

namespace Go.Proofs.Ytjjdjdodhedihaa
open Go.RowKit
set_option linter.unusedVariables false

theorem row_lt {w : World} {base : Nat} {e : TypeId} {size n : Nat} {v : Value} {xs : List Value} (h : w.ownsRow base e size v n xs) : ∀ b, v.ownBlock = some b → b < w.heap.size := fun b eb => by
  rcases h.2 with ⟨rfl, _⟩ | ⟨g, cap, cur, rfl, _, hh, _⟩
  · simp [Value.ownBlock] at eb
  · obtain rfl : g = b := by simpa [Value.ownBlock] using eb
    exact (Array.getElem?_eq_some_iff.1 hh).1
end Go.Proofs.Ytjjdjdodhedihaa

namespace Go.Proofs.Ytjjdjdodhedihaa
set_option linter.unusedVariables false

def stepP (S n : Nat) (u c : Nat × Nat) : Nat × Nat := ((u.1 * S + c.1) % n, (u.2 * S + c.2) % n)
def OkWay (S : Nat) (T : List Int) (u c : Nat × Nat) : Prop := c.1 < S ∧ c.2 < S ∧ T.getD (u.1 * S + c.1) 0 = T.getD (u.2 * S + c.2) 0
/-- A path: cell by cell the same becomes of both. -/
def okP (S n : Nat) (T : List Int) : Nat × Nat → List (Nat × Nat) → Prop
  | _, [] => True
  | u, c :: r => OkWay S T u c ∧ okP S n T (stepP S n u c) r
def endP (S n : Nat) : Nat × Nat → List (Nat × Nat) → Nat × Nat
  | u, [] => u
  | u, c :: r => endP S n (stepP S n u c) r
/-- What holds while it goes on. -/
structure Inv (S n : Nat) (T : List Int) (starts : List (Nat × Nat)) (sn : List Bool) (st : List Stp) : Prop where
  len : sn.length = n * n
  cnt : st.length = sn.count true
  seen : ∀ p q, p < n → q < n → (wasSeen n sn p q = true ↔ ∃ j, j < st.length ∧ (stAt st j).p = p ∧ (stAt st j).q = q)
  rng : ∀ j, j < st.length → (stAt st j).p < n ∧ (stAt st j).q < n
  link : ∀ j, j < st.length → ((stAt st j).h < 0 ∧ ((stAt st j).p, (stAt st j).q) ∈ starts) ∨ ∃ h : Nat, h < j ∧ (stAt st j).h = (h : Int) ∧ OkWay S T ((stAt st h).p, (stAt st h).q) ((stAt st j).a, (stAt st j).b) ∧ stepP S n ((stAt st h).p, (stAt st h).q) ((stAt st j).a, (stAt st j).b) = ((stAt st j).p, (stAt st j).q)
theorem Inv.start (S n : Nat) (T : List Int) (starts : List (Nat × Nat)) : Inv S n T starts (List.replicate (n * n) false) [] := by
  refine ⟨by simp, by simp [List.count_replicate], fun p q hp hq => ?_, fun j hj => by simp at hj, fun j hj => by simp at hj⟩
  constructor
  · intro h
    unfold wasSeen at h
    rw [List.getD_eq_getElem?_getD, List.getElem?_replicate] at h
    split at h <;> simp at h
  · rintro ⟨j, hj, _⟩; simp at hj
theorem count_set_true : ∀ (l : List Bool) (k : Nat), k < l.length → l.getD k false = false → (l.set k true).count true = l.count true + 1
  | [], k, h, _ => by simp at h
  | b :: l, 0, _, h => by
    have : b = false := by simpa [List.getD] using h
    subst this
    simp
  | b :: l, k + 1, h, h2 => by
    have ih := count_set_true l k (by simpa using h) (by simpa [List.getD] using h2)
    rw [List.set_cons_succ, List.count_cons, List.count_cons, ih]
    omega
end Go.Proofs.Ytjjdjdodhedihaa

namespace Go.Proofs.Ytjjdjdodhedihaa
open Go.RowKit Go.Shelf
set_option linter.unusedVariables false
attribute [local go_sem] Oper.semAt_some

theorem run_store_func {P : Program} {w : World} {a : Addr} {m : Mode} (fn : Fn) (x y : Array Value) : (store a (.func fn x y) m).run P w = stored P w a (.func fn x y) m := run_store P w a _ m rfl
attribute [local go_sem] run_store_func
def SMs (w : World) (S R n : Nat) (v3 : Value) (g L cap pi i sp sq : Nat) (w' : World) : Prop := w'.cell? ⟨w.heap.size, 0, none⟩ = some (.int .i64 (S : Int)) ∧ w'.cell? ⟨w.heap.size, 1, none⟩ = some (.int .i64 (2 * (R : Int))) ∧ w'.cell? ⟨w.heap.size, 2, none⟩ = some (.int .i64 (n : Int)) ∧ w'.cell? ⟨w.heap.size, 3, none⟩ = some (v3) ∧ w'.cell? ⟨w.heap.size + 6, 0, none⟩ = some (.slice (some ⟨g, 0, none⟩) L cap) ∧ w'.cell? ⟨pi, 0, none⟩ = some (.int .i64 (i : Int)) ∧ w'.cell? ⟨g, i * 5, none⟩ = some (.int .i64 (sp : Int)) ∧ w'.cell? ⟨g, i * 5 + 1, none⟩ = some (.int .i64 (sq : Int))
theorem SMs.next {w W W' : World} {S R n : Nat} {v3 : Value} {g L cap pi i sp sq : Nat} (h : SMs w S R n v3 g L cap pi i sp sq W) (k : Below W.heap.size W W') : SMs w S R n v3 g L cap pi i sp sq W' := by
  have key : ∀ {a : Addr} {v : Value}, W.cell? a = some v → W'.cell? a = some v := fun {a v} e => by
    have hlt : a.block < W.heap.size := by
      unfold World.cell? at e
      by_cases hp : a.block < W.heap.size
      · exact hp
      · simp only [Array.getElem?_eq_none (Nat.le_of_not_lt hp)] at e
        cases e
    exact (World.cell?_of_block (k.block a.block hlt)).trans e
  obtain ⟨h0, h1, h2, h3, h4, h5, h6, h7⟩ := h
  exact ⟨key h0, key h1, key h2, key h3, key h4, key h5, key h6, key h7⟩
theorem Blk.gb {w : World} {p S R n : Nat} {v : Value} {t : TypeId} (h : Blk w p #[.int .i64 (S : Int), .int .i64 (2 * (R : Int)), .int .i64 (n : Int), v] t) : GB p S R n v w := ⟨h.cell 0, h.cell 1, h.cell 2, h.cell 3⟩
/-- Whatever is cells lies as it lay. -/
structure KC (W W' : World) : Prop where
  size : W.heap.size ≤ W'.heap.size
  same : ∀ (k : Nat) (c : Array Value) (t : TypeId) (f : Nat × Nat), W.heap[k]? = some (Obj.cells c t f) → W'.heap[k]? = some (Obj.cells c t f)
theorem KC.refl (W : World) : KC W W := ⟨Nat.le_refl _, fun _ _ _ _ h => h⟩
theorem KC.trans {A B C : World} (h : KC A B) (k : KC B C) : KC A C := ⟨Nat.le_trans h.size k.size, fun i c t f e => k.same i c t f (h.same i c t f e)⟩
theorem KC.of_grown {W W' : World} {row : Option Nat} (h : W.grownBy W' row) (hr : ∀ r, row = some r → ∃ o : Obj, W.heap[r]? = some o ∧ o.isCells = false) : KC W W' :=
  ⟨h.size, fun k c t f e => (h.block k (Array.getElem?_eq_some_iff.1 e).1 (fun q => by
    obtain ⟨o, ho, hc⟩ := hr k q.symm
    rw [e] at ho
    cases ho
    cases hc)).trans e⟩
theorem KC.blk {W W' : World} (h : KC W W') {p : Nat} {cs : Array Value} {t : TypeId} (b : Blk W p cs t) : Blk W' p cs t := h.same _ _ _ _ b
theorem KC.cell {W W' : World} (h : KC W W') {a : Addr} {v : Value} (e : W.cell? a = some v) : W'.cell? a = some v := by
  unfold World.cell? at e ⊢
  cases hb : W.heap[a.block]? with
  | none => rw [hb] at e; cases e
  | some o =>
    rw [hb] at e
    cases o with
    | cells c t f => rw [h.same _ _ _ _ hb]; exact e
    | _ => cases e
theorem KC.row {W W' : World} (h : KC W W') {base : Nat} {e : TypeId} {size n : Nat} {v : Value} {xs : List Value} (r : W.ownsRow base e size v n xs) : W'.ownsRow base e size v n xs := by
  refine ⟨r.1, ?_⟩
  rcases r.2 with q | ⟨g, cap, cur, hv, hg, hh, rest⟩
  · exact Or.inl q
  · exact Or.inr ⟨g, cap, cur, hv, hg, h.same _ _ _ _ hh, rest⟩
theorem KC.pc {W W' : World} (h : KC W W') {g n : Nat} {E : Nat → Nat × Nat} (p : PC W g n E) (h0 : 0 < n) : PC W' g n E := by
  have e0 := p.c0 0 h0
  obtain ⟨c, t, f, hb⟩ : ∃ c t f, W.heap[g]? = some (.cells c t f) := by
    unfold World.cell? at e0
    cases hb : W.heap[g]? with
    | none => simp only [hb] at e0; cases e0
    | some o =>
      simp only [hb] at e0
      cases o with
      | cells c t f => exact ⟨c, t, f, rfl⟩
      | _ => cases e0
  exact p.block h.size ((h.same _ _ _ _ hb).trans hb.symm)
theorem below_grown {B0 B : Nat} {w W W' : World} {row : Option Nat} (h : Below B0 w W) (g : W.grownBy W' row) (hs : B0 ≤ W.heap.size) (hB : B0 ≤ B) (hr : ∀ r, row = some r → B ≤ r) : Below B0 w W' :=
  ⟨g.os.trans h.os, g.tape.trans h.tape, g.output.trans h.output, Nat.le_trans h.size g.size, fun k hk => (g.block k (by omega) (fun e => by have := hr k e.symm; omega)).trans (h.block k hk)⟩

end Go.Proofs.Ytjjdjdodhedihaa

namespace Go.Proofs.Ytjjdjdodhedihaa
open Go.RowKit Go.Shelf
set_option linter.unusedVariables false
attribute [local go_sem] Oper.semAt_some
attribute [local go_sem] run_store_func

/-- What rings wants, what twins wants, of a way from a pair of places. -/
def wantRf (S n x y : Nat) (u c : Nat × Nat) : Bool := wantR x y ((u.1 * S + c.1) % n) ((u.2 * S + c.2) % n) c.1 c.2
end Go.Proofs.Ytjjdjdodhedihaa

namespace Go.Proofs.Ytjjdjdodhedihaa
open Go.RowKit Go.Shelf
set_option linter.unusedVariables false
attribute [local go_sem] Oper.semAt_some

/-- Two unlike rings of which the same becomes, as a way round. -/
def IsRing (S n : Nat) (T : List Int) (u : Nat × Nat) (full : List (Nat × Nat)) : Prop := u.1 ≤ u.2 ∧ u.2 < n ∧ okP S n T u full ∧ (∃ cs d, full = cs ++ [d] ∧ wantRf S n u.1 u.2 (endP S n u cs) d = true) ∧ full.length ≤ 257
/-- What rings has found. -/
structure GF (w W : World) (S n : Nat) (T : List Int) (B : Nat) (u : Nat × Nat) (full : List (Nat × Nat)) (v1 v2 : Value) : Prop where
  r2 : Blk W (w.heap.size + 1) #[v1] 22
  r3 : Blk W (w.heap.size + 2) #[v2] 22
  o1 : W.ownsRow w.heap.size 3 1 v1 full.length (full.map fun y => .int .i64 (y.1 : Int))
  o2 : W.ownsRow w.heap.size 3 1 v2 full.length (full.map fun y => .int .i64 (y.2 : Int))
  is : IsRing S n T u full
  bl : Below w.heap.size w W
  sB : B ≤ W.heap.size
  wB : w.heap.size + 4 ≤ B
theorem GF.own {w W W' : World} {S n : Nat} {T : List Int} {B : Nat} {u : Nat × Nat} {full : List (Nat × Nat)} {v1 v2 : Value} {row : Option Nat} (h : GF w W S n T B u full v1 v2) (g : W.grownBy W' row) (hr : ∀ r, row = some r → B ≤ r ∧ ∃ o : Obj, W.heap[r]? = some o ∧ o.isCells = false) : GF w W' S n T B u full v1 v2 := by
  have k := KC.of_grown g (fun r e => (hr r e).2)
  have wB := h.wB
  have sB := h.sB
  exact ⟨k.blk h.r2, k.blk h.r3, k.row h.o1, k.row h.o2, h.is, below_grown h.bl g (by omega) (show w.heap.size ≤ B by omega) (fun r e => (hr r e).1), Nat.le_trans h.sB k.size, h.wB⟩
end Go.Proofs.Ytjjdjdodhedihaa

namespace Go.Proofs.Ytjjdjdodhedihaa
open Go.RowKit Go.Shelf
set_option linter.unusedVariables false
attribute [local go_sem] Oper.semAt_some

end Go.Proofs.Ytjjdjdodhedihaa

namespace Go.Proofs.Ytjjdjdodhedihaa
open Go.RowKit Go.Extern.Stop Go.Stop Go.Extern

end Go.Proofs.Ytjjdjdodhedihaa

namespace Go.Proofs.Ytjjdjdodhedihaa
open Go.RowKit

end Go.Proofs.Ytjjdjdodhedihaa

namespace Go.Proofs.Ytjjdjdodhedihaa
open Go.RowKit
set_option linter.unusedVariables false

end Go.Proofs.Ytjjdjdodhedihaa

namespace Go.Proofs.Ytjjdjdodhedihaa
open Go.RowKit
set_option linter.unusedVariables false

/-- What Step's function sees: its own place, the length, the word. -/
structure CloS (w : World) (pi pn pw : Nat) (i : Nat) (ws : List Int) (wa : Option Addr) (wc : Nat) : Prop where
  ci : w.cell? ⟨pi, 0, none⟩ = some (.int .i64 (i : Int))
  cn : w.cell? ⟨pn, 0, none⟩ = some (.int .i64 (ws.length : Int))
  cw : w.cell? ⟨pw, 0, none⟩ = some (.slice wa ws.length wc)
  arg : ArgP w ws wa ws.length wc
theorem cell_lt {w : World} {p o : Nat} {v : Value} (h : w.cell? ⟨p, o, none⟩ = some v) : p < w.heap.size := by
  rcases Nat.lt_or_ge p w.heap.size with k | k
  · exact k
  · simp [World.cell?, Array.getElem?_eq_none k] at h
theorem cell_next {w w' : World} {p o : Nat} {v : Value} (h : w.cell? ⟨p, o, none⟩ = some v) (hb : Below w.heap.size w w') : w'.cell? ⟨p, o, none⟩ = some v :=
  (World.cell?_of_block (w := w) (a := ⟨p, o, none⟩) (hb.block p (cell_lt h))).trans h
theorem CloS.below {w w' : World} {pi pn pw i : Nat} {ws : List Int} {wa : Option Addr} {wc : Nat} (h : CloS w pi pn pw i ws wa wc) (hb : Below w.heap.size w w') : CloS w' pi pn pw i ws wa wc :=
  ⟨cell_next h.ci hb, cell_next h.cn hb, cell_next h.cw hb, h.arg.below hb⟩

/-- What Apply's function sees. -/
structure CloA (w : World) (pw pi : Nat) (i : Nat) (ws : List Int) (wa : Option Addr) (wc : Nat) : Prop where
  cw : w.cell? ⟨pw, 0, none⟩ = some (.slice wa ws.length wc)
  ci : w.cell? ⟨pi, 0, none⟩ = some (.int .i64 (i : Int))
  arg : ArgP w ws wa ws.length wc
theorem CloA.below {w w' : World} {pw pi i : Nat} {ws : List Int} {wa : Option Addr} {wc : Nat} (h : CloA w pw pi i ws wa wc) (hb : Below w.heap.size w w') : CloA w' pw pi i ws wa wc :=
  ⟨cell_next h.cw hb, cell_next h.ci hb, h.arg.below hb⟩

end Go.Proofs.Ytjjdjdodhedihaa

namespace Go.Proofs.Ytjjdjdodhedihaa
open Go.RowKit
set_option linter.unusedVariables false

end Go.Proofs.Ytjjdjdodhedihaa

namespace Go.Proofs.Ytjjdjdodhedihaa
open Go.RowKit
set_option linter.unusedVariables false

theorem ownsRow_keepB {w w' : World} {base : Nat} {e : TypeId} {v : Value} {n : Nat} {xs : List Value} (h : w.ownsRow base e 1 v n xs) (hb : ∀ k, base ≤ k → k < w.heap.size → w'.heap[k]? = w.heap[k]?) : w'.ownsRow base e 1 v n xs := by
  refine ⟨h.1, ?_⟩
  rcases h.2 with h0 | ⟨g, cap, cur, hv, hg, hh, rest⟩
  · exact Or.inl h0
  · exact Or.inr ⟨g, cap, cur, hv, hg, (hb g hg (Array.getElem?_eq_some_iff.1 hh).1).trans hh, rest⟩
/-- Between the rounds: the counter in its box, the list that grows; all else as it was. -/
structure LS (w0 wr : World) (p i : Nat) (v : Value) (xs : List Int) : Prop where
  below : Below w0.heap.size w0 wr
  ci : wr.cell? ⟨p, 0, none⟩ = some (.int .i64 (i : Int))
  fi : wr.frozen? ⟨p, 0, none⟩ = false
  pge : w0.heap.size ≤ p
  own : wr.ownsRow w0.heap.size 3 1 v xs.length (xs.map fun x => .int .i64 x)
  ne : v.ownBlock ≠ some p
theorem LS.start (w0 : World) (i : Nat) (t : TypeId) : LS w0 (w0.alloc (.cells #[.int .i64 (i : Int)] t)) w0.heap.size i (.slice none 0 0) [] :=
  ⟨(Below.refl _ _).alloc (Nat.le_refl _) _, by rw [World.cell?_alloc_at _ _ _ _ rfl]; rfl, by simp, Nat.le_refl _, ⟨by simp, Or.inl ⟨rfl, by simp⟩⟩, by intro h; cases h⟩
theorem LS.next {w0 wr w' : World} {p i : Nat} {v : Value} {xs : List Int} (h : LS w0 wr p i v xs) (hb : Below wr.heap.size wr w') : LS w0 w' p i v xs :=
  ⟨h.below.trans (hb.mono h.below.size), cell_next h.ci hb, (World.frozen?_of_block (w := wr) (a := ⟨p, 0, none⟩) (hb.block p (cell_lt h.ci))).trans h.fi, h.pge, ownsRow_keepB h.own fun k _ hk => hb.block k hk, h.ne⟩
end Go.Proofs.Ytjjdjdodhedihaa

namespace Go.Proofs.Ytjjdjdodhedihaa
open Go.RowKit
set_option linter.unusedVariables false

end Go.Proofs.Ytjjdjdodhedihaa

namespace Go.Proofs.Ytjjdjdodhedihaa
open Go.RowKit
set_option linter.unusedVariables false

end Go.Proofs.Ytjjdjdodhedihaa

namespace Go.Proofs.Ytjjdjdodhedihaa
open Go.RowKit
set_option linter.unusedVariables false

theorem LineOk.graph {S R tn n : Nat} {T : List Int} (hL : LineOk S R T) (ht : tn = T.length) (hn : S ^ (2 * R) = n) : tn / S = n ∧ tn = n * S ∧ 0 < n := by
  have s2 := hL.s2
  refine ⟨by rw [places_of hL ht, hn], by rw [ht, hL.len, Nat.pow_succ, hn], ?_⟩
  rw [← hn]
  exact Nat.pow_pos (by omega)

end Go.Proofs.Ytjjdjdodhedihaa

namespace Go.Proofs.Ytjjdjdodhedihaa
open Go.RowKit
set_option linter.unusedVariables false

end Go.Proofs.Ytjjdjdodhedihaa

namespace Go.Proofs.Ytjjdjdodhedihaa
open Go.RowKit
set_option linter.unusedVariables false

end Go.Proofs.Ytjjdjdodhedihaa

namespace Go.Proofs.Ytjjdjdodhedihaa
open Go.RowKit
set_option linter.unusedVariables false

end Go.Proofs.Ytjjdjdodhedihaa

namespace Go.Proofs.Ytjjdjdodhedihaa
open Go.RowKit
set_option linter.unusedVariables false

end Go.Proofs.Ytjjdjdodhedihaa

namespace Go.Proofs.Ytjjdjdodhedihaa
open Go.RowKit
set_option linter.unusedVariables false

end Go.Proofs.Ytjjdjdodhedihaa

namespace Go.Proofs.Ytjjdjdodhedihaa
open Go.RowKit
set_option linter.unusedVariables false

/-- The result's box, while nothing is stored there. -/
structure ZB (p : Nat) (w : World) : Prop where
  c0 : w.cell? ⟨p, 0, none⟩ = some (.int .i64 0)
  c1 : w.cell? ⟨p, 1, none⟩ = some (.int .i64 0)
  c2 : w.cell? ⟨p, 2, none⟩ = some (.int .i64 0)
  c3 : w.cell? ⟨p, 3, none⟩ = some (.int .i64 0)
  c4 : w.cell? ⟨p, 4, none⟩ = some (.int .i64 0)
  c5 : w.cell? ⟨p, 5, none⟩ = some (.slice none 0 0)
  c6 : w.cell? ⟨p, 6, none⟩ = some (.string ⟨#[]⟩)
  fz : ∀ k, w.frozen? ⟨p, k, none⟩ = false
theorem ZB.lt {p : Nat} {w : World} (h : ZB p w) : p < w.heap.size := by
  rcases Nat.lt_or_ge p w.heap.size with k | k
  · exact k
  · have := h.c0; simp [World.cell?, Array.getElem?_eq_none k] at this
theorem ZB.block {p : Nat} {w w' : World} (h : ZB p w) (e : w'.heap[p]? = w.heap[p]?) : ZB p w' :=
  ⟨(World.cell?_of_block (w := w) (a := ⟨p, 0, none⟩) e).trans h.c0, (World.cell?_of_block (w := w) (a := ⟨p, 1, none⟩) e).trans h.c1, (World.cell?_of_block (w := w) (a := ⟨p, 2, none⟩) e).trans h.c2, (World.cell?_of_block (w := w) (a := ⟨p, 3, none⟩) e).trans h.c3, (World.cell?_of_block (w := w) (a := ⟨p, 4, none⟩) e).trans h.c4, (World.cell?_of_block (w := w) (a := ⟨p, 5, none⟩) e).trans h.c5, (World.cell?_of_block (w := w) (a := ⟨p, 6, none⟩) e).trans h.c6, fun k => (World.frozen?_of_block (w := w) (a := ⟨p, k, none⟩) e).trans (h.fz k)⟩
theorem ZB.next {p : Nat} {w w' : World} (h : ZB p w) (hb : Below w.heap.size w w') : ZB p w' := h.block (hb.block p h.lt)
theorem ZB.new (w : World) (t : TypeId) : ZB w.heap.size (w.alloc (.cells #[.int .i64 0, .int .i64 0, .int .i64 0, .int .i64 0, .int .i64 0, .slice none 0 0, .string ⟨#[]⟩] t)) :=
  ⟨by rw [World.cell?_alloc_at _ _ _ _ rfl]; rfl, by rw [World.cell?_alloc_at _ _ _ _ rfl]; rfl, by rw [World.cell?_alloc_at _ _ _ _ rfl]; rfl, by rw [World.cell?_alloc_at _ _ _ _ rfl]; rfl, by rw [World.cell?_alloc_at _ _ _ _ rfl]; rfl, by rw [World.cell?_alloc_at _ _ _ _ rfl]; rfl, by rw [World.cell?_alloc_at _ _ _ _ rfl]; rfl, fun k => by simp⟩

end Go.Proofs.Ytjjdjdodhedihaa

namespace Go.Proofs.Ytjjdjdodhedihaa
open Go.RowKit
set_option linter.unusedVariables false

end Go.Proofs.Ytjjdjdodhedihaa

namespace Go.Proofs.Ytjjdjdodhedihaa
open Go.RowKit
set_option linter.unusedVariables false

end Go.Proofs.Ytjjdjdodhedihaa

namespace Go.Proofs.Ytjjdjdodhedihaa
open Go.RowKit
set_option linter.unusedVariables false

/-- What may turn: two blocks, rows of numbers; all below B0 lies as it lay. -/
structure RK (gs pt B0 : Nat) (W W' : World) : Prop where
  bl : Below B0 W W'
  same : ∀ k o, W.heap[k]? = some o → k ≠ gs → k ≠ pt → (∀ c f, o ≠ .cells c 3 f) → W'.heap[k]? = some o
theorem RK.refl (gs pt B0 : Nat) (W : World) : RK gs pt B0 W W := ⟨Below.refl _ _, fun _ _ h _ _ _ => h⟩
theorem RK.trans {gs pt B0 : Nat} {A B C : World} (h : RK gs pt B0 A B) (k : RK gs pt B0 B C) : RK gs pt B0 A C :=
  ⟨h.bl.trans k.bl, fun i o h0 h1 h2 h3 => k.same i o (h.same i o h0 h1 h2 h3) h1 h2 h3⟩
theorem RK.below {gs pt B0 : Nat} {A B : World} (h : Below A.heap.size A B) (hB : B0 ≤ A.heap.size) : RK gs pt B0 A B :=
  ⟨h.mono hB, fun k o h0 _ _ _ => (h.block k (Array.getElem?_eq_some_iff.1 h0).1).trans h0⟩
theorem RK.blk {gs pt B0 : Nat} {A B : World} (h : RK gs pt B0 A B) {p : Nat} {cs : Array Value} {t : TypeId} (hp : Blk A p cs t) (h1 : p ≠ gs) (h2 : p ≠ pt) (ht : t ≠ 3) : Blk B p cs t :=
  h.same p _ hp h1 h2 (fun c f e => by injection e with _ e _; exact ht e)
end Go.Proofs.Ytjjdjdodhedihaa

namespace Go.Proofs.Ytjjdjdodhedihaa
open Go.RowKit
set_option linter.unusedVariables false

theorem getD_setB (l : List Bool) (i t : Nat) (h : i < l.length) : (l.set i true).getD t false = (decide (t = i) || l.getD t false) := by
  rw [List.getD_eq_getElem?_getD, List.getD_eq_getElem?_getD, List.getElem?_set]
  by_cases e : i = t
  · subst e; simp [h]
  · have e' : ¬ t = i := fun q => e q.symm
    simp [e, e']
end Go.Proofs.Ytjjdjdodhedihaa

