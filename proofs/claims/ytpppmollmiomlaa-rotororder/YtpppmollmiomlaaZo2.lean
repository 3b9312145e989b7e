/-
  What the last text of this claim leans on, part 2: Sd3, Spec, Rd, Rb, Rn, Ref1, Sw1, Sw2, Rk, Fill, Ref2, Ow.
-/
import Derived.Test.YtpppmollmiomlaaZo1
import Derived.Test.YtpppmollmiomlaaProg
import Derived.WalkKit
import Derived.WalkSpells
import Derived.WalkLawsBesides
import Derived.Deep.QuietTactic
import Derived.BigQuiet
import Derived.Laws.BitsAllLaws
import Derived.Deep.Cut
import Derived.Deep.RegionHeld3
import Derived.Below
import Derived.Laws.Rows
import Derived.Deep.OwnRows
import Derived.Deep.AppendLies
import Derived.Deep.RegionLaw
import Derived.Deep.RegionWith
import Derived.Laws.IdiomStrings
import Derived.Laws.MakeOwn
import Derived.Lib.BufferWrite
import Derived.Lib.Hide
import Derived.Lib.Walk
import Derived.WalkSmall
namespace Go.Proofs.Ytpppmollmiomlaa
set_option linter.unusedVariables false
/-- An edge: between which places, how many times. -/
structure EdS where
  a : Nat
  b : Nat
  t : Int
def okE (n : Nat) (e : EdS) : Prop := e.a < n ∧ e.b < n ∧ e.a ≠ e.b ∧ 1 ≤ e.t ∧ e.t ≤ 100
/-- How many edges two places have, and a place. -/
def btE (e : EdS) (k j : Nat) : Int := if (e.a = k ∧ e.b = j) ∨ (e.a = j ∧ e.b = k) then e.t else 0
def dgE (e : EdS) (k : Nat) : Int := if e.a = k ∨ e.b = k then e.t else 0
def btL (es : List EdS) (k j : Nat) : Int := (es.map fun e => btE e k j).sum
def dgL (es : List EdS) (k : Nat) : Int := (es.map fun e => dgE e k).sum
theorem bt_cons (e : EdS) (es : List EdS) (k j : Nat) : btL (e :: es) k j = btE e k j + btL es k j := by simp [btL]
theorem dg_cons (e : EdS) (es : List EdS) (k : Nat) : dgL (e :: es) k = dgE e k + dgL es k := by simp [dgL]
theorem bt_sym : ∀ (es : List EdS) (k j : Nat), btL es k j = btL es j k
  | [], _, _ => rfl
  | e :: es, k, j => by
    rw [bt_cons, bt_cons, bt_sym es k j]
    congr 1
    unfold btE
    by_cases h : (e.a = k ∧ e.b = j) ∨ (e.a = j ∧ e.b = k)
    · rw [if_pos h, if_pos (by omega)]
    · rw [if_neg h, if_neg (by omega)]
theorem bt_posS {n : Nat} : ∀ {es : List EdS}, (∀ e ∈ es, okE n e) → ∀ k j : Nat, 0 ≤ btL es k j
  | [], _, _, _ => Int.le_refl _
  | e :: es, h, k, j => by
    rw [bt_cons]
    have a := bt_posS (n := n) (es := es) (fun x hx => h x (List.mem_cons_of_mem _ hx)) k j
    have b := h e (List.mem_cons_self ..)
    unfold okE at b
    unfold btE
    split <;> omega
theorem bt_self {n : Nat} : ∀ {es : List EdS}, (∀ e ∈ es, okE n e) → ∀ k : Nat, btL es k k = 0
  | [], _, _ => rfl
  | e :: es, h, k => by
    rw [bt_cons, bt_self (n := n) (es := es) (fun x hx => h x (List.mem_cons_of_mem _ hx)) k]
    have b := h e (List.mem_cons_self ..)
    unfold okE at b
    unfold btE
    rw [if_neg (by omega)]; rfl
theorem bt_mem {n : Nat} : ∀ {es : List EdS}, (∀ e ∈ es, okE n e) → ∀ e ∈ es, 1 ≤ btL es e.a e.b
  | [], _, _, h => by simp at h
  | x :: es, h, e, he => by
    rw [bt_cons]
    have p := bt_posS (n := n) (es := es) (fun y hy => h y (List.mem_cons_of_mem _ hy)) e.a e.b
    have px : 0 ≤ btE x e.a e.b := by have b := h x (List.mem_cons_self ..); unfold okE at b; unfold btE; split <;> omega
    rcases List.mem_cons.1 he with q | q
    · subst q
      have b := h e (List.mem_cons_self ..)
      unfold okE at b
      have : btE e e.a e.b = e.t := by unfold btE; rw [if_pos (Or.inl ⟨rfl, rfl⟩)]
      omega
    · have := bt_mem (n := n) (es := es) (fun y hy => h y (List.mem_cons_of_mem _ hy)) e q
      omega
theorem dg_sum {n : Nat} : ∀ {es : List EdS}, (∀ e ∈ es, okE n e) → ∀ k : Nat, smS n (btL es k) = dgL es k
  | [], _, k => smS_zero n
  | e :: es, h, k => by
    have ih := dg_sum (n := n) (es := es) (fun x hx => h x (List.mem_cons_of_mem _ hx)) k
    have b := h e (List.mem_cons_self ..)
    unfold okE at b
    rw [dg_cons, ← ih, show btL (e :: es) k = fun j => btE e k j + btL es k j from funext fun j => bt_cons e es k j, smS_add]
    congr 1
    unfold dgE
    by_cases h1 : e.a = k
    · rw [if_pos (Or.inl h1), show btE e k = fun j => if j = e.b then e.t else 0 from funext fun j => by unfold btE; by_cases q : j = e.b; { rw [if_pos (Or.inl ⟨h1, q.symm⟩), if_pos q] }; { rw [if_neg (by omega), if_neg q] }, smS_at, if_pos b.2.1]
    · by_cases h2 : e.b = k
      · rw [if_pos (Or.inr h2), show btE e k = fun j => if j = e.a then e.t else 0 from funext fun j => by unfold btE; by_cases q : j = e.a; { rw [if_pos (Or.inr ⟨q.symm, h2⟩), if_pos q] }; { rw [if_neg (by omega), if_neg q] }, smS_at, if_pos b.1]
      · rw [if_neg (by omega), show btE e k = fun _ => 0 from funext fun j => by unfold btE; rw [if_neg (by omega)], smS_zero]
/-- Whom an edge reaches; a round over all edges; so many rounds. -/
def rcE (R : Nat → Bool) (e : EdS) (k : Nat) : Bool := if k = e.a ∨ k = e.b then R e.a || R e.b else R k
def rcL (es : List EdS) (R : Nat → Bool) : Nat → Bool := es.foldl rcE R
def rcN (es : List EdS) : Nat → (Nat → Bool) → Nat → Bool
  | 0, R => R
  | m + 1, R => rcN es m (rcL es R)
theorem rcE_keep {R : Nat → Bool} {e : EdS} {S : Nat → Bool} {z : Bool} (hs : S e.a = S e.b) (h : ∀ k, R k = true → S k = z) : ∀ k, rcE R e k = true → S k = z := fun k hk => by
  unfold rcE at hk
  split at hk
  · rename_i q
    have : S e.a = z := by
      rcases Bool.or_eq_true_iff.1 hk with r | r
      · exact h _ r
      · rw [hs]; exact h _ r
    rcases q with q | q
    · rw [q]; exact this
    · rw [q, ← hs]; exact this
  · exact h k hk
theorem rcL_keep {S : Nat → Bool} {z : Bool} : ∀ {es : List EdS}, (∀ e ∈ es, S e.a = S e.b) → ∀ {R : Nat → Bool}, (∀ k, R k = true → S k = z) → ∀ k, rcL es R k = true → S k = z
  | [], _, _, h => h
  | e :: es, hs, R, h => rcL_keep (es := es) (fun x hx => hs x (List.mem_cons_of_mem _ hx)) (R := rcE R e) (rcE_keep (hs e (List.mem_cons_self ..)) h)
theorem rcN_keep {es : List EdS} {S : Nat → Bool} {z : Bool} (hs : ∀ e ∈ es, S e.a = S e.b) : ∀ (m : Nat) {R : Nat → Bool}, (∀ k, R k = true → S k = z) → ∀ k, rcN es m R k = true → S k = z
  | 0, _, h => h
  | m + 1, R, h => rcN_keep hs m (R := rcL es R) (rcL_keep hs h)
/-- All are reached from the first: that is a graph. -/
theorem graph_of {n s m : Nat} {es : List EdS} (hs : s < n) (ok : ∀ e ∈ es, okE n e) (all : ∀ k, k < n → rcN es m (fun k => decide (k = 0)) k = true) : GrS n s (btL es) := by
  refine ⟨hs, bt_sym es, bt_posS ok, bt_self ok, fun S s0 ⟨k, hk, sk⟩ => ?_⟩
  by_cases h : ∀ e ∈ es, S e.a = S e.b
  · exfalso
    have r := rcN_keep (S := S) (z := S 0) h m (R := fun k => decide (k = 0)) (fun k hk => by rw [of_decide_eq_true hk])
    have a := r k (all k hk)
    have b := r s (all s hs)
    rw [sk] at a; rw [s0, ← a] at b; cases b
  · have : ∃ e, e ∈ es ∧ S e.a ≠ S e.b := Classical.byContradiction fun q => h fun e he => Classical.byContradiction fun q2 => q ⟨e, he, q2⟩
    obtain ⟨e, he, hne⟩ := this
    have o := ok e he
    have t := bt_mem ok e he
    unfold okE at o
    cases ha : S e.a with
    | true =>
      cases hb : S e.b with
      | true => rw [ha, hb] at hne; exact absurd rfl hne
      | false => exact ⟨e.a, e.b, o.1, o.2.1, ha, hb, t⟩
    | false =>
      cases hb : S e.b with
      | true => exact ⟨e.b, e.a, o.2.1, o.1, hb, ha, by rw [bt_sym]; exact t⟩
      | false => rw [ha, hb] at hne; exact absurd rfl hne
theorem dg_pos {n s m : Nat} {es : List EdS} (hs : s < n) (ok : ∀ e ∈ es, okE n e) (all : ∀ k, k < n → rcN es m (fun k => decide (k = 0)) k = true) {k : Nat} (hk : k < n) (ks : k ≠ s) : 1 ≤ dgL es k := by
  obtain ⟨k', j, hk', hj, sk, sj, t⟩ := (graph_of hs ok all).con (fun i => decide (i = k)) (decide_eq_false (fun e => ks e.symm)) ⟨k, hk, decide_eq_true rfl⟩
  obtain rfl : k' = k := of_decide_eq_true sk
  have := smS_one (f := btL es k') (fun j _ => bt_posS ok k' j) hj
  rw [dg_sum ok] at this
  omega
end Go.Proofs.Ytpppmollmiomlaa

namespace Go.Proofs.Ytpppmollmiomlaa

/-- The byte at i, 0 behind the end. -/
def bt (s : ByteArray) (i : Nat) : Nat := if h : i < s.size then s[i].toNat else 0

/-- A rule, as plain data. -/
structure Out where
  kind : Int
  born : Int
  stay : Int
  states : Int
  radius : Int
  table : List Int
  turns : ByteArray

def entries (n m : Nat) : Nat := n ^ (2 * m + 1)

end Go.Proofs.Ytpppmollmiomlaa

namespace Go.Proofs.Ytpppmollmiomlaa
open Go.RowKit

/-- The reader at block b: its text s, its place i. -/
structure At (b : Nat) (s : ByteArray) (i : Nat) (w : World) : Prop where
  txt : w.cell? ⟨b, 0, none⟩ = some (.string s)
  pos : w.cell? ⟨b, 1, none⟩ = some (.int .i64 (i : Int))
  fz0 : w.frozen? ⟨b, 0, none⟩ = false
  fz1 : w.frozen? ⟨b, 1, none⟩ = false

/-- Of what was there, block b alone may have turned. -/
structure Rd (b : Nat) (w w' : World) : Prop where
  os : w'.os = w.os
  tape : w'.tape = w.tape
  output : w'.output = w.output
  size : w.heap.size ≤ w'.heap.size
  block : ∀ k, k < w.heap.size → k ≠ b → w'.heap[k]? = w.heap[k]?

theorem Rd.refl (b : Nat) (w : World) : Rd b w w := ⟨rfl, rfl, rfl, Nat.le_refl _, fun _ _ _ => rfl⟩
theorem Rd.trans {b : Nat} {a c d : World} (h : Rd b a c) (k : Rd b c d) : Rd b a d :=
  ⟨k.os.trans h.os, k.tape.trans h.tape, k.output.trans h.output, Nat.le_trans h.size k.size, fun i hi hb => (k.block i (Nat.lt_of_lt_of_le hi h.size) hb).trans (h.block i hi hb)⟩
theorem Rd.drewN {b : Nat} {a w : World} (h : Rd b a w) (n : Nat) : Rd b a (w.drewN n) := h.trans ⟨rfl, rfl, rfl, Nat.le_refl _, fun _ _ _ => rfl⟩
theorem Rd.drew {b : Nat} {a w : World} (h : Rd b a w) : Rd b a w.drew := h.trans ⟨rfl, rfl, rfl, Nat.le_refl _, fun _ _ _ => rfl⟩
theorem Rd.alloc {b : Nat} {a w : World} (h : Rd b a w) (o : Obj) : Rd b a (w.alloc o) :=
  h.trans ⟨rfl, rfl, rfl, by simp, fun k hk _ => Below.heap_alloc _ _ _ hk⟩
/-- A store into the reader. -/
theorem Rd.set {b : Nat} {a w : World} (h : Rd b a w) (o : Nat) (u : Value) : Rd b a (w.setCell ⟨b, o, none⟩ u) :=
  h.trans ⟨rfl, rfl, rfl, by simp [World.setCell], fun k _ hk => Below.heap_setCell _ _ _ _ hk⟩
theorem Rd.below {b B : Nat} {w w' : World} (h : Rd b w w') (hB : B ≤ b) (hs : B ≤ w.heap.size) : Below B w w' :=
  ⟨h.os, h.tape, h.output, h.size, fun k hk => h.block k (by omega) (by omega)⟩
theorem Rd.cell {b : Nat} {w w' : World} (h : Rd b w w') : ∀ k o, k < w.heap.size → k ≠ b → w'.cell? ⟨k, o, none⟩ = w.cell? ⟨k, o, none⟩ :=
  fun k _ hk hb => World.cell?_of_block (w := w) (h.block k hk hb)
theorem Rd.frozen {b : Nat} {w w' : World} (h : Rd b w w') : ∀ k o, k < w.heap.size → k ≠ b → w'.frozen? ⟨k, o, none⟩ = w.frozen? ⟨k, o, none⟩ :=
  fun k _ hk hb => World.frozen?_of_block (w := w) (h.block k hk hb)

theorem At.lt {b : Nat} {s : ByteArray} {i : Nat} {w : World} (h : At b s i w) : b < w.heap.size := by
  rcases Nat.lt_or_ge b w.heap.size with k | k
  · exact k
  · have := h.txt; simp [World.cell?, Array.getElem?_eq_none k] at this
theorem At.drewN {b : Nat} {s : ByteArray} {i : Nat} {w : World} (h : At b s i w) (n : Nat) : At b s i (w.drewN n) := ⟨h.txt, h.pos, h.fz0, h.fz1⟩
theorem At.alloc {b : Nat} {s : ByteArray} {i : Nat} {w : World} (h : At b s i w) (o : Obj) : At b s i (w.alloc o) := by
  have hl := h.lt
  have e : (w.alloc o).heap[b]? = w.heap[b]? := Below.heap_alloc _ _ _ hl
  exact ⟨(World.cell?_of_block (w := w) (a := ⟨b, 0, none⟩) e).trans h.txt, (World.cell?_of_block (w := w) (a := ⟨b, 1, none⟩) e).trans h.pos,
    (World.frozen?_of_block (w := w) (a := ⟨b, 0, none⟩) e).trans h.fz0, (World.frozen?_of_block (w := w) (a := ⟨b, 1, none⟩) e).trans h.fz1⟩
theorem At.setOther {b : Nat} {s : ByteArray} {i : Nat} {w : World} (h : At b s i w) {p : Addr} (hp : b ≠ p.block) (u : Value) : At b s i (w.setCell p u) := by
  have e : (w.setCell p u).heap[b]? = w.heap[b]? := Below.heap_setCell _ _ _ _ hp
  exact ⟨(World.cell?_of_block (w := w) (a := ⟨b, 0, none⟩) e).trans h.txt, (World.cell?_of_block (w := w) (a := ⟨b, 1, none⟩) e).trans h.pos,
    (World.frozen?_of_block (w := w) (a := ⟨b, 0, none⟩) e).trans h.fz0, (World.frozen?_of_block (w := w) (a := ⟨b, 1, none⟩) e).trans h.fz1⟩
theorem At.go {b : Nat} {s : ByteArray} {i : Nat} {w : World} (h : At b s i w) (j : Nat) : At b s j (w.setCell ⟨b, 1, none⟩ (.int .i64 (j : Int))) := by
  refine ⟨?_, ?_, ?_, ?_⟩
  · exact (World.cell?_setCell_other (w := w) (a := ⟨b, 1, none⟩) (b := ⟨b, 0, none⟩) (v := _) (h := by simp)).trans h.txt
  · exact World.cell?_setCell_same (w := w) (a := ⟨b, 1, none⟩) (v := _) (h := h.pos)
  · rw [World.frozen?_setCell]; exact h.fz0
  · rw [World.frozen?_setCell]; exact h.fz1

end Go.Proofs.Ytpppmollmiomlaa

namespace Go.Proofs.Ytpppmollmiomlaa
open Go.RowKit

end Go.Proofs.Ytpppmollmiomlaa

namespace Go.Proofs.Ytpppmollmiomlaa
open Go.RowKit

/-- The number as it is kept: right up to most, and above it whatever is above. -/
structure Cap (most v k : Nat) : Prop where
  eq : v ≤ most → k = v
  gt : most < v → most < k
  le : k ≤ 10 * most + 9

theorem Cap.below {most v k d : Nat} (h : Cap most v k) (hd : d ≤ 9) (hk : k ≤ most) : Cap most (v * 10 + d) (10 * k + d) := by
  have h1 := h.eq
  have h2 := h.gt
  refine ⟨?_, ?_, by omega⟩ <;> omega
end Go.Proofs.Ytpppmollmiomlaa

namespace Go.Proofs.Ytpppmollmiomlaa
open Go.RowKit
set_option linter.unusedVariables false

theorem hide' {p : Prop} (h : p) : Hid p := h

end Go.Proofs.Ytpppmollmiomlaa

namespace Go.Proofs.Ytpppmollmiomlaa
open Go.RowKit
set_option linter.unusedVariables false
/-- An edge as it comes in. -/
structure EgT where
  a : Int
  b : Int
  t : Int
def egz : EgT := ⟨0, 0, 0⟩
/-- Edges that lie in a row. -/
structure ArgE (w : World) (xs : List EgT) (a : Option Addr) (n c : Nat) : Prop where
  len : n = xs.length
  max : n ≤ 9223372036854775807
  cells : ∀ k (h : k < xs.length), ∃ g off, a = some ⟨g, off, none⟩ ∧ g < w.heap.size ∧ w.cell? ⟨g, off + k * 3, none⟩ = some (.int .i64 xs[k].a) ∧ w.cell? ⟨g, off + k * 3 + 1, none⟩ = some (.int .i64 xs[k].b) ∧ w.cell? ⟨g, off + k * 3 + 2, none⟩ = some (.int .i64 xs[k].t)
theorem ArgE.below {w w' : World} {xs : List EgT} {a : Option Addr} {n c : Nat} (h : ArgE w xs a n c) (hb : Below w.heap.size w w') : ArgE w' xs a n c :=
  ⟨h.len, h.max, fun k hk => by
    obtain ⟨g, off, e, hg, h1, h2, h3⟩ := h.cells k hk
    have b := hb.block g hg
    exact ⟨g, off, e, Nat.lt_of_lt_of_le hg hb.size, (World.cell?_of_block (w := w) (a := ⟨g, off + k * 3, none⟩) b).trans h1, (World.cell?_of_block (w := w) (a := ⟨g, off + k * 3 + 1, none⟩) b).trans h2, (World.cell?_of_block (w := w) (a := ⟨g, off + k * 3 + 2, none⟩) b).trans h3⟩⟩
theorem eg_at {xs : List EgT} {k : Nat} (h : k < xs.length) : xs.getD k egz = xs[k] := by simp [List.getD, h]
theorem ltS_of_block {w : World} {p : Nat} {o : Obj} (h : w.heap[p]? = some o) : p < w.heap.size := (Array.getElem?_eq_some_iff.1 h).1
end Go.Proofs.Ytpppmollmiomlaa

namespace Go.Proofs.Ytpppmollmiomlaa
open Go.RowKit
set_option linter.unusedVariables false
def badE (P : Int) (e : EgT) : Prop := e.a < 0 ∨ P ≤ e.a ∨ e.b < 0 ∨ P ≤ e.b ∨ e.a = e.b ∨ e.t < 1 ∨ 100 < e.t
def edS (e : EgT) : EdS := ⟨e.a.toNat, e.b.toNat, e.t⟩
/-- Whom the first so many edges reach; so many rounds. -/
def rcS (xs : List EgT) (R : Nat → Bool) : Nat → Nat → Bool
  | 0 => R
  | j + 1 => rcE (rcS xs R j) (edS (xs.getD j egz))
def rcM (xs : List EgT) : Nat → Nat → Bool
  | 0 => fun k => decide (k = 0)
  | m + 1 => rcS xs (rcM xs m) xs.length
/-- An array, told by a function. -/
def arrS (n : Nat) (f : Nat → Value) : Array Value := ((List.range n).map f).toArray
theorem arrS_get {n k : Nat} (f : Nat → Value) (h : k < n) : (arrS n f)[k]? = some (f k) := by simp [arrS, h]
theorem arrS_set (n i : Nat) (f : Nat → Value) (v : Value) : (arrS n f).setIfInBounds i v = arrS n (fun k => if k = i then v else f k) := by
  apply Array.ext
  · simp [arrS]
  · intro k h1 h2
    simp only [arrS, List.getElem_toArray, List.getElem_map, List.getElem_range]
    by_cases q : k = i
    · simp [q]
    · simp [q, Ne.symm q]
theorem arrS_ext {n : Nat} {f g : Nat → Value} (h : ∀ k, k < n → f k = g k) : arrS n f = arrS n g := by
  unfold arrS
  congr 1
  apply List.map_congr_left
  intro k hk
  exact h k (List.mem_range.1 hk)
theorem made_allS (z : Value) (n : Nat) : madeCells #[z] n = arrS n (fun _ => z) := by
  apply Array.ext'
  rw [toList_madeCells_one]
  unfold arrS
  simp [List.map_const']
/-- Who is reached, as it lies. -/
def BkS (V : World) (mb P : Nat) (R : Nat → Bool) : Prop := V.heap[mb]? = some (.cells (arrS P fun k => .bool (R k)) 4 (0, 0))
theorem BkS.cell {V : World} {mb P k : Nat} {R : Nat → Bool} (h : BkS V mb P R) (hk : k < P) : V.cell? ⟨mb, k, none⟩ = some (.bool (R k)) := by
  have := cell_of_row V mb k _ _ _ h
  rw [arrS_get _ hk] at this
  exact this
theorem BkS.set {V : World} {mb P i : Nat} {R : Nat → Bool} (h : BkS V mb P R) : BkS (V.setCell ⟨mb, i, none⟩ (.bool true)) mb P (fun k => if k = i then true else R k) := by
  have := heap_setCell_same V mb i _ _ (.bool true) h
  rw [arrS_set] at this
  unfold BkS
  rw [this]
  congr 2
  exact arrS_ext fun k _ => by by_cases q : k = i <;> simp [q]
theorem BkS.ext {V : World} {mb P : Nat} {R R' : Nat → Bool} (h : BkS V mb P R) (e : ∀ k, k < P → R k = R' k) : BkS V mb P R' := by
  unfold BkS at *
  rw [h]
  congr 2
  exact arrS_ext fun k hk => by rw [e k hk]
theorem BkS.alloc {V : World} {mb P : Nat} {R : Nat → Bool} (h : BkS V mb P R) (o : Obj) : BkS (V.alloc o) mb P R := (heap_alloc_old _ _ (ltS_of_block h)).trans h
end Go.Proofs.Ytpppmollmiomlaa

namespace Go.Proofs.Ytpppmollmiomlaa
open Go.RowKit

/-- A table in memory: a slice that reads as the numbers. -/
def Tab (w : World) (v : Value) (xs : List Int) : Prop :=
  (xs = [] ∧ v = .slice none 0 0) ∨ ∃ g cap, v = .slice (some ⟨g, 0, none⟩) xs.length cap ∧ g < w.heap.size ∧ ∀ k (h : k < xs.length), w.cell? ⟨g, k, none⟩ = some (.int .i64 xs[k])

/-- A slice whose block was made since. -/
def Fresh (w : World) (v : Value) : Prop := ∀ g k c, v = .slice (some ⟨g, 0, none⟩) k c → w.heap.size ≤ g
theorem Fresh.nil (w : World) : Fresh w (.slice none 0 0) := fun _ _ _ h => by injection h with h1; cases h1
theorem Fresh.mk {w : World} {g k c : Nat} (h : w.heap.size ≤ g) : Fresh w (.slice (some ⟨g, 0, none⟩) k c) := fun g' _ _ q => by
  injection q with q1; injection q1 with q2; injection q2 with q3; omega

/-- A rule as a value, its table at v. -/
def Out.val (o : Out) (v : Value) : Value := .agg #[.int .i64 o.kind, .int .i64 o.born, .int .i64 o.stay, .int .i64 o.states, .int .i64 o.radius, v, .string o.turns]

/-- A block that the call made ahead still lies there. -/
theorem Rd.made {b : Nat} {w w' : World} {C : Array Value} {t : TypeId} (h : Rd b (w.alloc (.cells C t)) w') (hb : b < w.heap.size) :
    (∀ j, w'.cell? ⟨w.heap.size, j, none⟩ = C[j]?) ∧ (∀ j, w'.frozen? ⟨w.heap.size, j, none⟩ = false) := by
  refine ⟨fun j => ?_, fun j => ?_⟩
  · rw [h.cell w.heap.size j (by simp) (by omega)]; simp
  · rw [h.frozen w.heap.size j (by simp) (by omega)]; simp

end Go.Proofs.Ytpppmollmiomlaa

namespace Go.Proofs.Ytpppmollmiomlaa
open Go.RowKit

/-- At block g a list of n numbers, the first k of which are f's. -/
structure Fill (g n k : Nat) (f : Nat → Int) (w : World) : Prop where
  lt : g < w.heap.size
  cells : ∀ j, j < n → ∃ v, w.cell? ⟨g, j, none⟩ = some v ∧ (j < k → v = .int .i64 (f j))
  fz : ∀ j, w.frozen? ⟨g, j, none⟩ = false

theorem Fill.start (w : World) (n : Nat) (f : Nat → Int) (z : Value) (t : TypeId) : Fill w.heap.size n 0 f (w.alloc (.cells (madeCells #[z] n) t)) := by
  refine ⟨by simp, fun j hj => ⟨(madeCells #[z] n)[j]'(by rw [size_madeCells]; exact hj), ?_, by omega⟩, fun j => by simp⟩
  rw [World.cell?_alloc_at _ _ _ _ rfl]
  exact Array.getElem?_eq_getElem (by rw [size_madeCells]; exact hj)
theorem Fill.step {g n k : Nat} {f : Nat → Int} {w : World} (h : Fill g n k f w) (hk : k < n) : Fill g n (k + 1) f (w.setCell ⟨g, k, none⟩ (.int .i64 (f k))) := by
  refine ⟨by rw [World.size_setCell]; exact h.lt, fun j hj => ?_, fun j => by rw [World.frozen?_setCell]; exact h.fz j⟩
  by_cases e : j = k
  · subst e
    obtain ⟨v, hv, -⟩ := h.cells j hj
    exact ⟨_, World.cell?_setCell_same (w := w) (a := ⟨g, j, none⟩) (v := _) (h := hv), fun _ => rfl⟩
  · obtain ⟨v, hv, hv'⟩ := h.cells j hj
    refine ⟨v, ?_, fun _ => hv' (by omega)⟩
    exact (World.cell?_setCell_other (w := w) (a := ⟨g, k, none⟩) (b := ⟨g, j, none⟩) (v := _) (h := fun q => e (congrArg Addr.off q).symm)).trans hv
theorem Fill.other {g n k : Nat} {f : Nat → Int} {w : World} (h : Fill g n k f w) {p : Addr} (hp : g ≠ p.block) (u : Value) : Fill g n k f (w.setCell p u) := by
  have e : (w.setCell p u).heap[g]? = w.heap[g]? := Below.heap_setCell _ _ _ _ hp
  refine ⟨by rw [World.size_setCell]; exact h.lt, fun j hj => ?_, fun j => ?_⟩
  · obtain ⟨v, hv, hv'⟩ := h.cells j hj
    exact ⟨v, (World.cell?_of_block (w := w) (a := ⟨g, j, none⟩) e).trans hv, hv'⟩
  · exact (World.frozen?_of_block (w := w) (a := ⟨g, j, none⟩) e).trans (h.fz j)
theorem Tab.other {w : World} {v : Value} {xs : List Int} (h : Tab w v xs) {p : Addr} (u : Value) (hp : ∀ g c, v = .slice (some ⟨g, 0, none⟩) xs.length c → g ≠ p.block) : Tab (w.setCell p u) v xs := by
  rcases h with h | ⟨g, cap, hv, hg, hc⟩
  · exact Or.inl h
  · have e : (w.setCell p u).heap[g]? = w.heap[g]? := Below.heap_setCell _ _ _ _ (hp g cap hv)
    exact Or.inr ⟨g, cap, hv, by rw [World.size_setCell]; exact hg, fun k hk => (World.cell?_of_block (w := w) (a := ⟨g, k, none⟩) e).trans (hc k hk)⟩

end Go.Proofs.Ytpppmollmiomlaa

namespace Go.Proofs.Ytpppmollmiomlaa
open Go.RowKit
set_option linter.unusedVariables false

theorem Tab.parts {w : World} {v : Value} {xs : List Int} (h : Tab w v xs) :
    ∃ a c, v = .slice a xs.length c ∧ ∀ k (h : k < xs.length), ∃ g, a = some ⟨g, 0, none⟩ ∧ w.cell? ⟨g, k, none⟩ = some (.int .i64 xs[k]) := by
  rcases h with ⟨rfl, rfl⟩ | ⟨g, cap, rfl, hg, hc⟩
  · exact ⟨none, 0, rfl, fun k h => absurd h (by simp)⟩
  · exact ⟨_, cap, rfl, fun k h => ⟨g, rfl, hc k h⟩⟩

end Go.Proofs.Ytpppmollmiomlaa

namespace Go.Proofs.Ytpppmollmiomlaa
open Go.RowKit
set_option linter.unusedVariables false

theorem info_int : (Try.prog.info? 3).map (fun i => (i.zero, i.size, i.bytes)) = some (some (.int .i64 0), 1, 8) := by kernel_rfl
theorem Tab.slice {w : World} {v : Value} {xs : List Int} (h : Tab w v xs) : ∃ a n c, v = .slice a n c := by
  rcases h with ⟨-, h⟩ | ⟨g, cap, h, -, -⟩
  · exact ⟨_, _, _, h⟩
  · exact ⟨_, _, _, h⟩
theorem ownsRow_slice {w : World} {base : Nat} {e : TypeId} {v : Value} {n : Nat} {xs : List Value} (h : w.ownsRow base e 1 v n xs) : ∃ a m c, v = .slice a m c := by
  rcases h.2 with ⟨hv, -⟩ | ⟨g, cap, cur, hv, -⟩
  · exact ⟨_, _, _, hv⟩
  · exact ⟨_, _, _, hv⟩
end Go.Proofs.Ytpppmollmiomlaa

