/-
  What the last text of this claim leans on, part 2: Sd3, Spec, Rd, Rb, Rn, Ref1, Sw1.
-/
import Derived.Test.YtpppmollmiomlaaDoorZu1
import Derived.Test.YtpppmollmiomlaaDoorProg
import Derived.WalkKit
import Derived.WalkSpells
import Derived.WalkLawsBesides
import Derived.Deep.QuietTactic
import Derived.BigQuiet
import Derived.Laws.BitsAllLaws
import Derived.Deep.Cut
import Derived.Deep.RegionHeld3
import Derived.Below
import Derived.Laws.Rows
namespace Go.Proofs.YtpppmollmiomlaaDoor
set_option linter.unusedVariables false
/-- An edge: between which places, how many times. -/
structure EdS where
  a : Nat
  b : Nat
  t : Int
def okE (n : Nat) (e : EdS) : Prop := e.a < n ∧ e.b < n ∧ e.a ≠ e.b ∧ 1 ≤ e.t ∧ e.t ≤ 100
/-- How many edges two places have, and a place. -/
def btE (e : EdS) (k j : Nat) : Int := if (e.a = k ∧ e.b = j) ∨ (e.a = j ∧ e.b = k) then e.t else 0
def dgE (e : EdS) (k : Nat) : Int := if e.a = k ∨ e.b = k then e.t else 0
def btL (es : List EdS) (k j : Nat) : Int := (es.map fun e => btE e k j).sum
def dgL (es : List EdS) (k : Nat) : Int := (es.map fun e => dgE e k).sum
theorem bt_cons (e : EdS) (es : List EdS) (k j : Nat) : btL (e :: es) k j = btE e k j + btL es k j := by simp [btL]
theorem dg_cons (e : EdS) (es : List EdS) (k : Nat) : dgL (e :: es) k = dgE e k + dgL es k := by simp [dgL]
theorem bt_sym : ∀ (es : List EdS) (k j : Nat), btL es k j = btL es j k
  | [], _, _ => rfl
  | e :: es, k, j => by
    rw [bt_cons, bt_cons, bt_sym es k j]
    congr 1
    unfold btE
    by_cases h : (e.a = k ∧ e.b = j) ∨ (e.a = j ∧ e.b = k)
    · rw [if_pos h, if_pos (by omega)]
    · rw [if_neg h, if_neg (by omega)]
theorem bt_posS {n : Nat} : ∀ {es : List EdS}, (∀ e ∈ es, okE n e) → ∀ k j : Nat, 0 ≤ btL es k j
  | [], _, _, _ => Int.le_refl _
  | e :: es, h, k, j => by
    rw [bt_cons]
    have a := bt_posS (n := n) (es := es) (fun x hx => h x (List.mem_cons_of_mem _ hx)) k j
    have b := h e (List.mem_cons_self ..)
    unfold okE at b
    unfold btE
    split <;> omega
theorem bt_self {n : Nat} : ∀ {es : List EdS}, (∀ e ∈ es, okE n e) → ∀ k : Nat, btL es k k = 0
  | [], _, _ => rfl
  | e :: es, h, k => by
    rw [bt_cons, bt_self (n := n) (es := es) (fun x hx => h x (List.mem_cons_of_mem _ hx)) k]
    have b := h e (List.mem_cons_self ..)
    unfold okE at b
    unfold btE
    rw [if_neg (by omega)]; rfl
theorem bt_mem {n : Nat} : ∀ {es : List EdS}, (∀ e ∈ es, okE n e) → ∀ e ∈ es, 1 ≤ btL es e.a e.b
  | [], _, _, h => by simp at h
  | x :: es, h, e, he => by
    rw [bt_cons]
    have p := bt_posS (n := n) (es := es) (fun y hy => h y (List.mem_cons_of_mem _ hy)) e.a e.b
    have px : 0 ≤ btE x e.a e.b := by have b := h x (List.mem_cons_self ..); unfold okE at b; unfold btE; split <;> omega
    rcases List.mem_cons.1 he with q | q
    · subst q
      have b := h e (List.mem_cons_self ..)
      unfold okE at b
      have : btE e e.a e.b = e.t := by unfold btE; rw [if_pos (Or.inl ⟨rfl, rfl⟩)]
      omega
    · have := bt_mem (n := n) (es := es) (fun y hy => h y (List.mem_cons_of_mem _ hy)) e q
      omega
theorem dg_sum {n : Nat} : ∀ {es : List EdS}, (∀ e ∈ es, okE n e) → ∀ k : Nat, smS n (btL es k) = dgL es k
  | [], _, k => smS_zero n
  | e :: es, h, k => by
    have ih := dg_sum (n := n) (es := es) (fun x hx => h x (List.mem_cons_of_mem _ hx)) k
    have b := h e (List.mem_cons_self ..)
    unfold okE at b
    rw [dg_cons, ← ih, show btL (e :: es) k = fun j => btE e k j + btL es k j from funext fun j => bt_cons e es k j, smS_add]
    congr 1
    unfold dgE
    by_cases h1 : e.a = k
    · rw [if_pos (Or.inl h1), show btE e k = fun j => if j = e.b then e.t else 0 from funext fun j => by unfold btE; by_cases q : j = e.b; { rw [if_pos (Or.inl ⟨h1, q.symm⟩), if_pos q] }; { rw [if_neg (by omega), if_neg q] }, smS_at, if_pos b.2.1]
    · by_cases h2 : e.b = k
      · rw [if_pos (Or.inr h2), show btE e k = fun j => if j = e.a then e.t else 0 from funext fun j => by unfold btE; by_cases q : j = e.a; { rw [if_pos (Or.inr ⟨q.symm, h2⟩), if_pos q] }; { rw [if_neg (by omega), if_neg q] }, smS_at, if_pos b.1]
      · rw [if_neg (by omega), show btE e k = fun _ => 0 from funext fun j => by unfold btE; rw [if_neg (by omega)], smS_zero]
/-- Whom an edge reaches; a round over all edges; so many rounds. -/
def rcE (R : Nat → Bool) (e : EdS) (k : Nat) : Bool := if k = e.a ∨ k = e.b then R e.a || R e.b else R k
def rcL (es : List EdS) (R : Nat → Bool) : Nat → Bool := es.foldl rcE R
def rcN (es : List EdS) : Nat → (Nat → Bool) → Nat → Bool
  | 0, R => R
  | m + 1, R => rcN es m (rcL es R)
theorem rcE_keep {R : Nat → Bool} {e : EdS} {S : Nat → Bool} {z : Bool} (hs : S e.a = S e.b) (h : ∀ k, R k = true → S k = z) : ∀ k, rcE R e k = true → S k = z := fun k hk => by
  unfold rcE at hk
  split at hk
  · rename_i q
    have : S e.a = z := by
      rcases Bool.or_eq_true_iff.1 hk with r | r
      · exact h _ r
      · rw [hs]; exact h _ r
    rcases q with q | q
    · rw [q]; exact this
    · rw [q, ← hs]; exact this
  · exact h k hk
theorem rcL_keep {S : Nat → Bool} {z : Bool} : ∀ {es : List EdS}, (∀ e ∈ es, S e.a = S e.b) → ∀ {R : Nat → Bool}, (∀ k, R k = true → S k = z) → ∀ k, rcL es R k = true → S k = z
  | [], _, _, h => h
  | e :: es, hs, R, h => rcL_keep (es := es) (fun x hx => hs x (List.mem_cons_of_mem _ hx)) (R := rcE R e) (rcE_keep (hs e (List.mem_cons_self ..)) h)
theorem rcN_keep {es : List EdS} {S : Nat → Bool} {z : Bool} (hs : ∀ e ∈ es, S e.a = S e.b) : ∀ (m : Nat) {R : Nat → Bool}, (∀ k, R k = true → S k = z) → ∀ k, rcN es m R k = true → S k = z
  | 0, _, h => h
  | m + 1, R, h => rcN_keep hs m (R := rcL es R) (rcL_keep hs h)
/-- All are reached from the first: that is a graph. -/
theorem graph_of {n s m : Nat} {es : List EdS} (hs : s < n) (ok : ∀ e ∈ es, okE n e) (all : ∀ k, k < n → rcN es m (fun k => decide (k = 0)) k = true) : GrS n s (btL es) := by
  refine ⟨hs, bt_sym es, bt_posS ok, bt_self ok, fun S s0 ⟨k, hk, sk⟩ => ?_⟩
  by_cases h : ∀ e ∈ es, S e.a = S e.b
  · exfalso
    have r := rcN_keep (S := S) (z := S 0) h m (R := fun k => decide (k = 0)) (fun k hk => by rw [of_decide_eq_true hk])
    have a := r k (all k hk)
    have b := r s (all s hs)
    rw [sk] at a; rw [s0, ← a] at b; cases b
  · have : ∃ e, e ∈ es ∧ S e.a ≠ S e.b := Classical.byContradiction fun q => h fun e he => Classical.byContradiction fun q2 => q ⟨e, he, q2⟩
    obtain ⟨e, he, hne⟩ := this
    have o := ok e he
    have t := bt_mem ok e he
    unfold okE at o
    cases ha : S e.a with
    | true =>
      cases hb : S e.b with
      | true => rw [ha, hb] at hne; exact absurd rfl hne
      | false => exact ⟨e.a, e.b, o.1, o.2.1, ha, hb, t⟩
    | false =>
      cases hb : S e.b with
      | true => exact ⟨e.b, e.a, o.2.1, o.1, hb, ha, by rw [bt_sym]; exact t⟩
      | false => rw [ha, hb] at hne; exact absurd rfl hne
theorem dg_pos {n s m : Nat} {es : List EdS} (hs : s < n) (ok : ∀ e ∈ es, okE n e) (all : ∀ k, k < n → rcN es m (fun k => decide (k = 0)) k = true) {k : Nat} (hk : k < n) (ks : k ≠ s) : 1 ≤ dgL es k := by
  obtain ⟨k', j, hk', hj, sk, sj, t⟩ := (graph_of hs ok all).con (fun i => decide (i = k)) (decide_eq_false (fun e => ks e.symm)) ⟨k, hk, decide_eq_true rfl⟩
  obtain rfl : k' = k := of_decide_eq_true sk
  have := smS_one (f := btL es k') (fun j _ => bt_posS ok k' j) hj
  rw [dg_sum ok] at this
  omega
end Go.Proofs.YtpppmollmiomlaaDoor

namespace Go.Proofs.YtpppmollmiomlaaDoor

/-- The byte at i, 0 behind the end. -/
def bt (s : ByteArray) (i : Nat) : Nat := if h : i < s.size then s[i].toNat else 0

/-- A rule, as plain data. -/
structure Out where
  kind : Int
  born : Int
  stay : Int
  states : Int
  radius : Int
  table : List Int
  turns : ByteArray

def entries (n m : Nat) : Nat := n ^ (2 * m + 1)

end Go.Proofs.YtpppmollmiomlaaDoor

namespace Go.Proofs.YtpppmollmiomlaaDoor
open Go.RowKit

/-- The reader at block b: its text s, its place i. -/
structure At (b : Nat) (s : ByteArray) (i : Nat) (w : World) : Prop where
  txt : w.cell? ⟨b, 0, none⟩ = some (.string s)
  pos : w.cell? ⟨b, 1, none⟩ = some (.int .i64 (i : Int))
  fz0 : w.frozen? ⟨b, 0, none⟩ = false
  fz1 : w.frozen? ⟨b, 1, none⟩ = false

/-- Of what was there, block b alone may have turned. -/
structure Rd (b : Nat) (w w' : World) : Prop where
  os : w'.os = w.os
  tape : w'.tape = w.tape
  output : w'.output = w.output
  size : w.heap.size ≤ w'.heap.size
  block : ∀ k, k < w.heap.size → k ≠ b → w'.heap[k]? = w.heap[k]?

theorem Rd.refl (b : Nat) (w : World) : Rd b w w := ⟨rfl, rfl, rfl, Nat.le_refl _, fun _ _ _ => rfl⟩
theorem Rd.trans {b : Nat} {a c d : World} (h : Rd b a c) (k : Rd b c d) : Rd b a d :=
  ⟨k.os.trans h.os, k.tape.trans h.tape, k.output.trans h.output, Nat.le_trans h.size k.size, fun i hi hb => (k.block i (Nat.lt_of_lt_of_le hi h.size) hb).trans (h.block i hi hb)⟩
theorem Rd.drewN {b : Nat} {a w : World} (h : Rd b a w) (n : Nat) : Rd b a (w.drewN n) := h.trans ⟨rfl, rfl, rfl, Nat.le_refl _, fun _ _ _ => rfl⟩
theorem Rd.drew {b : Nat} {a w : World} (h : Rd b a w) : Rd b a w.drew := h.trans ⟨rfl, rfl, rfl, Nat.le_refl _, fun _ _ _ => rfl⟩
theorem Rd.alloc {b : Nat} {a w : World} (h : Rd b a w) (o : Obj) : Rd b a (w.alloc o) :=
  h.trans ⟨rfl, rfl, rfl, by simp, fun k hk _ => Below.heap_alloc _ _ _ hk⟩
/-- A store into the reader. -/
theorem Rd.set {b : Nat} {a w : World} (h : Rd b a w) (o : Nat) (u : Value) : Rd b a (w.setCell ⟨b, o, none⟩ u) :=
  h.trans ⟨rfl, rfl, rfl, by simp [World.setCell], fun k _ hk => Below.heap_setCell _ _ _ _ hk⟩
theorem Rd.below {b B : Nat} {w w' : World} (h : Rd b w w') (hB : B ≤ b) (hs : B ≤ w.heap.size) : Below B w w' :=
  ⟨h.os, h.tape, h.output, h.size, fun k hk => h.block k (by omega) (by omega)⟩
theorem Rd.cell {b : Nat} {w w' : World} (h : Rd b w w') : ∀ k o, k < w.heap.size → k ≠ b → w'.cell? ⟨k, o, none⟩ = w.cell? ⟨k, o, none⟩ :=
  fun k _ hk hb => World.cell?_of_block (w := w) (h.block k hk hb)
theorem Rd.frozen {b : Nat} {w w' : World} (h : Rd b w w') : ∀ k o, k < w.heap.size → k ≠ b → w'.frozen? ⟨k, o, none⟩ = w.frozen? ⟨k, o, none⟩ :=
  fun k _ hk hb => World.frozen?_of_block (w := w) (h.block k hk hb)

theorem At.lt {b : Nat} {s : ByteArray} {i : Nat} {w : World} (h : At b s i w) : b < w.heap.size := by
  rcases Nat.lt_or_ge b w.heap.size with k | k
  · exact k
  · have := h.txt; simp [World.cell?, Array.getElem?_eq_none k] at this
theorem At.drewN {b : Nat} {s : ByteArray} {i : Nat} {w : World} (h : At b s i w) (n : Nat) : At b s i (w.drewN n) := ⟨h.txt, h.pos, h.fz0, h.fz1⟩
theorem At.alloc {b : Nat} {s : ByteArray} {i : Nat} {w : World} (h : At b s i w) (o : Obj) : At b s i (w.alloc o) := by
  have hl := h.lt
  have e : (w.alloc o).heap[b]? = w.heap[b]? := Below.heap_alloc _ _ _ hl
  exact ⟨(World.cell?_of_block (w := w) (a := ⟨b, 0, none⟩) e).trans h.txt, (World.cell?_of_block (w := w) (a := ⟨b, 1, none⟩) e).trans h.pos,
    (World.frozen?_of_block (w := w) (a := ⟨b, 0, none⟩) e).trans h.fz0, (World.frozen?_of_block (w := w) (a := ⟨b, 1, none⟩) e).trans h.fz1⟩
theorem At.setOther {b : Nat} {s : ByteArray} {i : Nat} {w : World} (h : At b s i w) {p : Addr} (hp : b ≠ p.block) (u : Value) : At b s i (w.setCell p u) := by
  have e : (w.setCell p u).heap[b]? = w.heap[b]? := Below.heap_setCell _ _ _ _ hp
  exact ⟨(World.cell?_of_block (w := w) (a := ⟨b, 0, none⟩) e).trans h.txt, (World.cell?_of_block (w := w) (a := ⟨b, 1, none⟩) e).trans h.pos,
    (World.frozen?_of_block (w := w) (a := ⟨b, 0, none⟩) e).trans h.fz0, (World.frozen?_of_block (w := w) (a := ⟨b, 1, none⟩) e).trans h.fz1⟩
theorem At.go {b : Nat} {s : ByteArray} {i : Nat} {w : World} (h : At b s i w) (j : Nat) : At b s j (w.setCell ⟨b, 1, none⟩ (.int .i64 (j : Int))) := by
  refine ⟨?_, ?_, ?_, ?_⟩
  · exact (World.cell?_setCell_other (w := w) (a := ⟨b, 1, none⟩) (b := ⟨b, 0, none⟩) (v := _) (h := by simp)).trans h.txt
  · exact World.cell?_setCell_same (w := w) (a := ⟨b, 1, none⟩) (v := _) (h := h.pos)
  · rw [World.frozen?_setCell]; exact h.fz0
  · rw [World.frozen?_setCell]; exact h.fz1

end Go.Proofs.YtpppmollmiomlaaDoor

namespace Go.Proofs.YtpppmollmiomlaaDoor
open Go.RowKit

end Go.Proofs.YtpppmollmiomlaaDoor

namespace Go.Proofs.YtpppmollmiomlaaDoor
open Go.RowKit

/-- The number as it is kept: right up to most, and above it whatever is above. -/
structure Cap (most v k : Nat) : Prop where
  eq : v ≤ most → k = v
  gt : most < v → most < k
  le : k ≤ 10 * most + 9

theorem Cap.below {most v k d : Nat} (h : Cap most v k) (hd : d ≤ 9) (hk : k ≤ most) : Cap most (v * 10 + d) (10 * k + d) := by
  have h1 := h.eq
  have h2 := h.gt
  refine ⟨?_, ?_, by omega⟩ <;> omega
end Go.Proofs.YtpppmollmiomlaaDoor

namespace Go.Proofs.YtpppmollmiomlaaDoor
open Go.RowKit
set_option linter.unusedVariables false

theorem hide' {p : Prop} (h : p) : Hid p := h

end Go.Proofs.YtpppmollmiomlaaDoor

namespace Go.Proofs.YtpppmollmiomlaaDoor
open Go.RowKit
set_option linter.unusedVariables false
/-- An edge as it comes in. -/
structure EgT where
  a : Int
  b : Int
  t : Int
def egz : EgT := ⟨0, 0, 0⟩
/-- Edges that lie in a row. -/
structure ArgE (w : World) (xs : List EgT) (a : Option Addr) (n c : Nat) : Prop where
  len : n = xs.length
  max : n ≤ 9223372036854775807
  cells : ∀ k (h : k < xs.length), ∃ g off, a = some ⟨g, off, none⟩ ∧ g < w.heap.size ∧ w.cell? ⟨g, off + k * 3, none⟩ = some (.int .i64 xs[k].a) ∧ w.cell? ⟨g, off + k * 3 + 1, none⟩ = some (.int .i64 xs[k].b) ∧ w.cell? ⟨g, off + k * 3 + 2, none⟩ = some (.int .i64 xs[k].t)
theorem ArgE.below {w w' : World} {xs : List EgT} {a : Option Addr} {n c : Nat} (h : ArgE w xs a n c) (hb : Below w.heap.size w w') : ArgE w' xs a n c :=
  ⟨h.len, h.max, fun k hk => by
    obtain ⟨g, off, e, hg, h1, h2, h3⟩ := h.cells k hk
    have b := hb.block g hg
    exact ⟨g, off, e, Nat.lt_of_lt_of_le hg hb.size, (World.cell?_of_block (w := w) (a := ⟨g, off + k * 3, none⟩) b).trans h1, (World.cell?_of_block (w := w) (a := ⟨g, off + k * 3 + 1, none⟩) b).trans h2, (World.cell?_of_block (w := w) (a := ⟨g, off + k * 3 + 2, none⟩) b).trans h3⟩⟩
theorem eg_at {xs : List EgT} {k : Nat} (h : k < xs.length) : xs.getD k egz = xs[k] := by simp [List.getD, h]
/-- How many edges a place has, of the first so many. -/
def dgS (xs : List EgT) (k : Int) (i : Nat) : Int := smS i fun j => if (xs.getD j egz).a = k ∨ (xs.getD j egz).b = k then (xs.getD j egz).t else 0
def tmB (xs : List EgT) : Prop := xs.length ≤ 40 ∧ ∀ j, j < xs.length → 1 ≤ (xs.getD j egz).t ∧ (xs.getD j egz).t ≤ 100
theorem dgS_le {xs : List EgT} (h : tmB xs) (k : Int) : ∀ {i : Nat}, i ≤ xs.length → 0 ≤ dgS xs k i ∧ dgS xs k i ≤ 100 * i
  | 0, _ => by simp [dgS, smS]
  | i + 1, hi => by
    have a := dgS_le h k (i := i) (by omega)
    have b := h.2 i (by omega)
    unfold dgS at *
    simp only [smS]
    split <;> omega
theorem dgS_yes {xs : List EgT} {k : Int} {i : Nat} (h : (xs.getD i egz).a = k ∨ (xs.getD i egz).b = k) : dgS xs k (i + 1) = dgS xs k i + (xs.getD i egz).t := by
  unfold dgS; simp only [smS]; rw [if_pos h]
theorem dgS_no {xs : List EgT} {k : Int} {i : Nat} (h : ¬ ((xs.getD i egz).a = k ∨ (xs.getD i egz).b = k)) : dgS xs k (i + 1) = dgS xs k i := by
  unfold dgS; simp only [smS]; rw [if_neg h]; omega
theorem ltS_of_block {w : World} {p : Nat} {o : Obj} (h : w.heap[p]? = some o) : p < w.heap.size := (Array.getElem?_eq_some_iff.1 h).1
set_option maxRecDepth 100000 in
set_option maxHeartbeats 3200000 in
theorem Degree_any (P : Int) (xs : List EgT) (ea : Option Addr) (n c : Nat) (k : Int) (w : World) (hE : ArgE w xs ea n c) (ht : tmB xs) :
    Calls Tryd.prog 16 #[.agg #[.int .i64 P, .slice ea n c], .int .i64 k] w fun e w' => e = .returned (.int .i64 (dgS xs k n)) ∧ Below w.heap.size w w' := by
  obtain ⟨w1, hw1⟩ : ∃ w1, w.alloc (.cells #[.int .i64 P, .slice ea n c] 24) = w1 := ⟨_, rfl⟩
  have HW1 := hide' hw1
  have B1 := hide' (show Below w.heap.size w w1 by rw [← hw1]; exact (Below.refl _ _).alloc (Nat.le_refl _) _)
  have R1 := hide' (show w1.heap[w.heap.size]? = some (.cells #[.int .i64 P, .slice ea n c] 24 (0, 0)) by rw [← hw1]; exact heap_alloc_new _ _)
  have HE := hide' (fun (V : World) (h : Below w.heap.size w V) => hE.below h)
  have HL := hide' hE.len
  have nm := hE.max
  have HT := hide' ht
  clear hw1 hE ht
  go_enter Tryd.func16, Tryd.ntmps16
  go_upto_region 2 with fail
  rw [HW1.out]
  go_wp2
  go_loopw [5, 6] (fun nv iv wr => ∃ i : Nat, iv = .int .i64 (i : Int) ∧ nv = .int .i64 (dgS xs k i) ∧ i ≤ n ∧ Hid (Below w1.heap.size w1 wr)) (fun _ iv _ => n - (intOf iv).toNat)
  case atStart => exact ⟨0, rfl, rfl, by omega, hide' (Below.refl _ _)⟩
  case round =>
    obtain ⟨i, rfl, rfl, hi, BW⟩ := hrel
    have R2 := (BW.out.block _ (ltS_of_block R1.out)).trans R1.out
    have y1 := cell_of_row wr _ 1 _ _ _ R2
    simp at y1
    clear R2
    by_cases d : (i : Int) < (n : Int)
    · have hl : i < xs.length := by have := HL.out; omega
      obtain ⟨g, off, rfl, hg, c0, c1, c2⟩ := (HE.out wr (B1.out.trans (BW.out.mono B1.out.size))).cells i hl
      obtain ⟨⟨p, q, t⟩, hx⟩ : ∃ x, xs[i] = x := ⟨_, rfl⟩
      rw [hx] at c0 c1 c2
      simp only at c0 c1 c2
      have EQ := hide' (show xs.getD i egz = ⟨p, q, t⟩ by rw [eg_at hl, hx])
      have b1 := HT.out.2 i hl
      rw [EQ.out] at b1
      simp only at b1
      have b2 := dgS_le HT.out k (i := i) (by omega)
      have b3 := HT.out.1
      have b4 := HL.out
      obtain ⟨z, hz⟩ : ∃ z, dgS xs k i = z := ⟨_, rfl⟩
      rw [hz] at b2 ⊢
      have BN := hide' (show ∀ o, Below w1.heap.size w1 (wr.alloc o) from fun o => BW.out.alloc BW.out.size o)
      have b5 : 0 ≤ z ∧ z ≤ 4000 := by omega
      obtain ⟨y, hy⟩ : ∃ y, z + t = y := ⟨_, rfl⟩
      have wy : IntKind.i64.wrap y = y := by simp [IntKind.wrap, IntKind.bits, IntKind.signed]; omega
      have YES := hide' (show (p = k ∨ q = k) → dgS xs k (i + 1) = y from fun h => by rw [dgS_yes (by rw [EQ.out]; exact h), EQ.out, hz]; exact hy)
      have NO := hide' (show ¬ (p = k ∨ q = k) → dgS xs k (i + 1) = z from fun h => by rw [dgS_no (by rw [EQ.out]; exact h), hz])
      clear hx b1 b2 b3 b4 b5 hz
      by_cases e1 : p = k
      · have X := hide' (YES.out (Or.inl e1))
        go_wp2
        exact ⟨⟨i + 1, by go_num, by rw [X.out], by omega, hide' (BN.out _)⟩, by simp [intOf]; omega⟩
      · by_cases e2 : q = k
        · have X := hide' (YES.out (Or.inr e2))
          go_wp2
          exact ⟨⟨i + 1, by go_num, by rw [X.out], by omega, hide' (BN.out _)⟩, by simp [intOf]; omega⟩
        · have X := hide' (NO.out (by omega))
          have k1 : (p == k) = false := by simpa using e1
          have k2 : (q == k) = false := by simpa using e2
          go_wp2
          exact ⟨⟨i + 1, by go_num, by rw [X.out], by omega, hide' (BN.out _)⟩, by simp [intOf]; omega⟩
    · obtain rfl : i = n := by omega
      have FIN := hide' (B1.out.trans (BW.out.mono B1.out.size))
      go_wp2
      go_ret
      exact ⟨rfl, FIN.out⟩
end Go.Proofs.YtpppmollmiomlaaDoor

