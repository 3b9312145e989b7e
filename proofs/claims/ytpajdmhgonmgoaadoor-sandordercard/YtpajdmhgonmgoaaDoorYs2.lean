/-
  What the last text of this claim leans on, part 2: Rd, Rb, Rn, Ref1, Sw1, Sw2, Sw4, Sw5, Rk.
-/
import Derived.Test.YtpajdmhgonmgoaaDoorProg
import Derived.Test.YtpajdmhgonmgoaaDoorYs1
import Derived.WalkKit
import Derived.WalkSpells
import Derived.WalkLawsBesides
import Derived.Deep.QuietTactic
import Derived.BigQuiet
import Derived.Laws.BitsAllLaws
import Derived.Deep.Cut
import Derived.Deep.RegionHeld3
import Derived.Below
import Derived.Laws.Rows
import Derived.Deep.OwnRows
import Derived.Deep.CutRange
namespace Go.Proofs.YtpajdmhgonmgoaaDoor
open Go.RowKit

/-- The reader at block b: its text s, its place i. -/
structure At (b : Nat) (s : ByteArray) (i : Nat) (w : World) : Prop where
  txt : w.cell? ⟨b, 0, none⟩ = some (.string s)
  pos : w.cell? ⟨b, 1, none⟩ = some (.int .i64 (i : Int))
  fz0 : w.frozen? ⟨b, 0, none⟩ = false
  fz1 : w.frozen? ⟨b, 1, none⟩ = false

/-- Of what was there, block b alone may have turned. -/
structure Rd (b : Nat) (w w' : World) : Prop where
  os : w'.os = w.os
  tape : w'.tape = w.tape
  output : w'.output = w.output
  size : w.heap.size ≤ w'.heap.size
  block : ∀ k, k < w.heap.size → k ≠ b → w'.heap[k]? = w.heap[k]?

theorem Rd.refl (b : Nat) (w : World) : Rd b w w := ⟨rfl, rfl, rfl, Nat.le_refl _, fun _ _ _ => rfl⟩
theorem Rd.trans {b : Nat} {a c d : World} (h : Rd b a c) (k : Rd b c d) : Rd b a d :=
  ⟨k.os.trans h.os, k.tape.trans h.tape, k.output.trans h.output, Nat.le_trans h.size k.size, fun i hi hb => (k.block i (Nat.lt_of_lt_of_le hi h.size) hb).trans (h.block i hi hb)⟩
theorem Rd.drew {b : Nat} {a w : World} (h : Rd b a w) : Rd b a w.drew := h.trans ⟨rfl, rfl, rfl, Nat.le_refl _, fun _ _ _ => rfl⟩
theorem Rd.alloc {b : Nat} {a w : World} (h : Rd b a w) (o : Obj) : Rd b a (w.alloc o) :=
  h.trans ⟨rfl, rfl, rfl, by simp, fun k hk _ => Below.heap_alloc _ _ _ hk⟩
/-- A store into the reader. -/
theorem Rd.set {b : Nat} {a w : World} (h : Rd b a w) (o : Nat) (u : Value) : Rd b a (w.setCell ⟨b, o, none⟩ u) :=
  h.trans ⟨rfl, rfl, rfl, by simp [World.setCell], fun k _ hk => Below.heap_setCell _ _ _ _ hk⟩
theorem Rd.below {b B : Nat} {w w' : World} (h : Rd b w w') (hB : B ≤ b) (hs : B ≤ w.heap.size) : Below B w w' :=
  ⟨h.os, h.tape, h.output, h.size, fun k hk => h.block k (by omega) (by omega)⟩
theorem Rd.cell {b : Nat} {w w' : World} (h : Rd b w w') : ∀ k o, k < w.heap.size → k ≠ b → w'.cell? ⟨k, o, none⟩ = w.cell? ⟨k, o, none⟩ :=
  fun k _ hk hb => World.cell?_of_block (w := w) (h.block k hk hb)
theorem Rd.frozen {b : Nat} {w w' : World} (h : Rd b w w') : ∀ k o, k < w.heap.size → k ≠ b → w'.frozen? ⟨k, o, none⟩ = w.frozen? ⟨k, o, none⟩ :=
  fun k _ hk hb => World.frozen?_of_block (w := w) (h.block k hk hb)

theorem At.lt {b : Nat} {s : ByteArray} {i : Nat} {w : World} (h : At b s i w) : b < w.heap.size := by
  rcases Nat.lt_or_ge b w.heap.size with k | k
  · exact k
  · have := h.txt; simp [World.cell?, Array.getElem?_eq_none k] at this
theorem At.alloc {b : Nat} {s : ByteArray} {i : Nat} {w : World} (h : At b s i w) (o : Obj) : At b s i (w.alloc o) := by
  have hl := h.lt
  have e : (w.alloc o).heap[b]? = w.heap[b]? := Below.heap_alloc _ _ _ hl
  exact ⟨(World.cell?_of_block (w := w) (a := ⟨b, 0, none⟩) e).trans h.txt, (World.cell?_of_block (w := w) (a := ⟨b, 1, none⟩) e).trans h.pos,
    (World.frozen?_of_block (w := w) (a := ⟨b, 0, none⟩) e).trans h.fz0, (World.frozen?_of_block (w := w) (a := ⟨b, 1, none⟩) e).trans h.fz1⟩
theorem At.go {b : Nat} {s : ByteArray} {i : Nat} {w : World} (h : At b s i w) (j : Nat) : At b s j (w.setCell ⟨b, 1, none⟩ (.int .i64 (j : Int))) := by
  refine ⟨?_, ?_, ?_, ?_⟩
  · exact (World.cell?_setCell_other (w := w) (a := ⟨b, 1, none⟩) (b := ⟨b, 0, none⟩) (v := _) (h := by simp)).trans h.txt
  · exact World.cell?_setCell_same (w := w) (a := ⟨b, 1, none⟩) (v := _) (h := h.pos)
  · rw [World.frozen?_setCell]; exact h.fz0
  · rw [World.frozen?_setCell]; exact h.fz1

end Go.Proofs.YtpajdmhgonmgoaaDoor

namespace Go.Proofs.YtpajdmhgonmgoaaDoor
open Go.RowKit

end Go.Proofs.YtpajdmhgonmgoaaDoor

namespace Go.Proofs.YtpajdmhgonmgoaaDoor
open Go.RowKit

def posOf (b : Nat) (w : World) : Nat := match w.cell? ⟨b, 1, none⟩ with | some (.int _ q) => q.toNat | _ => 0
theorem At.posOf {b : Nat} {s : ByteArray} {i : Nat} {w : World} (h : At b s i w) : posOf b w = i := by
  unfold Go.Proofs.YtpajdmhgonmgoaaDoor.posOf; rw [h.pos]; simp

/-- The number as it is kept: right up to most, and above it whatever is above. -/
structure Cap (most v k : Nat) : Prop where
  eq : v ≤ most → k = v
  gt : most < v → most < k
  le : k ≤ 10 * most + 9

theorem Cap.below {most v k d : Nat} (h : Cap most v k) (hd : d ≤ 9) (hk : k ≤ most) : Cap most (v * 10 + d) (10 * k + d) := by
  have h1 := h.eq
  have h2 := h.gt
  refine ⟨?_, ?_, by omega⟩ <;> omega
theorem Cap.above {most v k d : Nat} (h : Cap most v k) (hk : most < k) : Cap most (v * 10 + d) k := by
  have h1 := h.eq
  have h2 := h.gt
  have h3 := h.le
  refine ⟨?_, ?_, by omega⟩ <;> omega

end Go.Proofs.YtpajdmhgonmgoaaDoor

namespace Go.Proofs.YtpajdmhgonmgoaaDoor
open Go.RowKit
set_option linter.unusedVariables false

theorem hide' {p : Prop} (h : p) : Hid p := h

end Go.Proofs.YtpajdmhgonmgoaaDoor

namespace Go.Proofs.YtpajdmhgonmgoaaDoor
open Go.RowKit
set_option linter.unusedVariables false
/-- An edge as it comes in. -/
structure EgT where
  a : Int
  b : Int
  t : Int
def egz : EgT := ⟨0, 0, 0⟩
/-- Edges that lie in a row. -/
structure ArgE (w : World) (xs : List EgT) (a : Option Addr) (n c : Nat) : Prop where
  len : n = xs.length
  max : n ≤ 9223372036854775807
  cells : ∀ k (h : k < xs.length), ∃ g off, a = some ⟨g, off, none⟩ ∧ g < w.heap.size ∧ w.cell? ⟨g, off + k * 3, none⟩ = some (.int .i64 xs[k].a) ∧ w.cell? ⟨g, off + k * 3 + 1, none⟩ = some (.int .i64 xs[k].b) ∧ w.cell? ⟨g, off + k * 3 + 2, none⟩ = some (.int .i64 xs[k].t)
theorem ArgE.below {w w' : World} {xs : List EgT} {a : Option Addr} {n c : Nat} (h : ArgE w xs a n c) (hb : Below w.heap.size w w') : ArgE w' xs a n c :=
  ⟨h.len, h.max, fun k hk => by
    obtain ⟨g, off, e, hg, h1, h2, h3⟩ := h.cells k hk
    have b := hb.block g hg
    exact ⟨g, off, e, Nat.lt_of_lt_of_le hg hb.size, (World.cell?_of_block (w := w) (a := ⟨g, off + k * 3, none⟩) b).trans h1, (World.cell?_of_block (w := w) (a := ⟨g, off + k * 3 + 1, none⟩) b).trans h2, (World.cell?_of_block (w := w) (a := ⟨g, off + k * 3 + 2, none⟩) b).trans h3⟩⟩
theorem eg_at {xs : List EgT} {k : Nat} (h : k < xs.length) : xs.getD k egz = xs[k] := by simp [List.getD, h]
theorem ltS_of_block {w : World} {p : Nat} {o : Obj} (h : w.heap[p]? = some o) : p < w.heap.size := (Array.getElem?_eq_some_iff.1 h).1
end Go.Proofs.YtpajdmhgonmgoaaDoor

namespace Go.Proofs.YtpajdmhgonmgoaaDoor
open Go.RowKit
set_option linter.unusedVariables false
def badE (P : Int) (e : EgT) : Prop := e.a < 0 ∨ P ≤ e.a ∨ e.b < 0 ∨ P ≤ e.b ∨ e.a = e.b ∨ e.t < 1 ∨ 100 < e.t
def edS (e : EgT) : EdS := ⟨e.a.toNat, e.b.toNat, e.t⟩
/-- Whom the first so many edges reach; so many rounds. -/
def rcS (xs : List EgT) (R : Nat → Bool) : Nat → Nat → Bool
  | 0 => R
  | j + 1 => rcE (rcS xs R j) (edS (xs.getD j egz))
def rcM (xs : List EgT) : Nat → Nat → Bool
  | 0 => fun k => decide (k = 0)
  | m + 1 => rcS xs (rcM xs m) xs.length
/-- An array, told by a function. -/
def arrS (n : Nat) (f : Nat → Value) : Array Value := ((List.range n).map f).toArray
theorem arrS_get {n k : Nat} (f : Nat → Value) (h : k < n) : (arrS n f)[k]? = some (f k) := by simp [arrS, h]
theorem arrS_set (n i : Nat) (f : Nat → Value) (v : Value) : (arrS n f).setIfInBounds i v = arrS n (fun k => if k = i then v else f k) := by
  apply Array.ext
  · simp [arrS]
  · intro k h1 h2
    simp only [arrS, List.getElem_toArray, List.getElem_map, List.getElem_range]
    by_cases q : k = i
    · simp [q]
    · simp [q, Ne.symm q]
theorem arrS_ext {n : Nat} {f g : Nat → Value} (h : ∀ k, k < n → f k = g k) : arrS n f = arrS n g := by
  unfold arrS
  congr 1
  apply List.map_congr_left
  intro k hk
  exact h k (List.mem_range.1 hk)
theorem made_allS (z : Value) (n : Nat) : madeCells #[z] n = arrS n (fun _ => z) := by
  apply Array.ext'
  rw [toList_madeCells_one]
  unfold arrS
  simp [List.map_const']
/-- Who is reached, as it lies. -/
def BkS (V : World) (mb P : Nat) (R : Nat → Bool) : Prop := V.heap[mb]? = some (.cells (arrS P fun k => .bool (R k)) 4 (0, 0))
theorem BkS.cell {V : World} {mb P k : Nat} {R : Nat → Bool} (h : BkS V mb P R) (hk : k < P) : V.cell? ⟨mb, k, none⟩ = some (.bool (R k)) := by
  have := cell_of_row V mb k _ _ _ h
  rw [arrS_get _ hk] at this
  exact this
theorem BkS.set {V : World} {mb P i : Nat} {R : Nat → Bool} (h : BkS V mb P R) : BkS (V.setCell ⟨mb, i, none⟩ (.bool true)) mb P (fun k => if k = i then true else R k) := by
  have := heap_setCell_same V mb i _ _ (.bool true) h
  rw [arrS_set] at this
  unfold BkS
  rw [this]
  congr 2
  exact arrS_ext fun k _ => by by_cases q : k = i <;> simp [q]
theorem BkS.ext {V : World} {mb P : Nat} {R R' : Nat → Bool} (h : BkS V mb P R) (e : ∀ k, k < P → R k = R' k) : BkS V mb P R' := by
  unfold BkS at *
  rw [h]
  congr 2
  exact arrS_ext fun k hk => by rw [e k hk]
theorem BkS.alloc {V : World} {mb P : Nat} {R : Nat → Bool} (h : BkS V mb P R) (o : Obj) : BkS (V.alloc o) mb P R := (heap_alloc_old _ _ (ltS_of_block h)).trans h
end Go.Proofs.YtpajdmhgonmgoaaDoor

namespace Go.Proofs.YtpajdmhgonmgoaaDoor
open Go.RowKit
set_option linter.unusedVariables false
set_option linter.unusedSimpArgs false
def inB (P x : Int) : Bool := decide (0 ≤ x) && decide (x < P)
theorem inB_yes {P x : Int} (h : 0 ≤ x) (h2 : x < P) : inB P x = true := by unfold inB; simp [h, h2]
theorem inB_no {P x : Int} (h : ¬ (0 ≤ x ∧ x < P)) : inB P x = false := by unfold inB; simp; omega
set_option maxRecDepth 100000 in
theorem isPlaceS_any (P x : Int) (ea : Option Addr) (n c : Nat) (w : World) :
    Calls Tryd.prog 16 #[.agg #[.int .i64 P, .slice ea n c], .int .i64 x] w fun e w' => e = .returned (.bool (inB P x)) ∧ Below w.heap.size w w' := by
  obtain ⟨w1, hw1⟩ : ∃ w1, w.alloc (.cells #[.int .i64 P, .slice ea n c] 24) = w1 := ⟨_, rfl⟩
  have HW1 := hide' hw1
  have B1 := hide' (show Below w.heap.size w w1 by rw [← hw1]; exact (Below.refl _ _).alloc (Nat.le_refl _) _)
  have R1 : w1.heap[w.heap.size]? = some (.cells #[.int .i64 P, .slice ea n c] 24 (0, 0)) := by rw [← hw1]; exact heap_alloc_new _ _
  have y0 := cell_of_row w1 _ 0 _ _ _ R1
  simp at y0
  clear hw1 R1
  obtain ⟨z, hz⟩ : ∃ z, inB P x = z := ⟨_, rfl⟩
  have Y := hide' (fun (h : 0 ≤ x) (h2 : x < P) => show z = true by rw [← hz]; exact inB_yes h h2)
  have N := hide' (fun (h : ¬ (0 ≤ x ∧ x < P)) => show z = false by rw [← hz]; exact inB_no h)
  rw [hz]
  clear hz
  go_enter Tryd.func16, Tryd.ntmps16
  go_upto_region 1 with fail
  rw [HW1.out]
  by_cases q1 : 0 ≤ x
  · by_cases q2 : x < P
    · go_wp2
      go_ret
      rw [Y.out q1 q2]
      exact ⟨by simp [q1, q2], B1.out⟩
    · go_wp2
      go_ret
      rw [N.out (by omega)]
      exact ⟨by simp [q1, q2], B1.out⟩
  · go_wp2
    go_ret
    rw [N.out (by omega)]
    exact ⟨by simp [q1], B1.out⟩
set_option maxRecDepth 100000 in
set_option maxHeartbeats 3200000 in
theorem Index_bool (R : Nat → Bool) (mb P C : Nat) (w : World) (p2 : P ≤ 10) (hc : ∀ k, k < P → w.cell? ⟨mb, k, none⟩ = some (.bool (R k))) :
    Calls Tryd.prog 43 #[.slice (some ⟨mb, 0, none⟩) P C, .bool false] w fun e w' => (∃ i : Int, e = .returned (.int .i64 i) ∧ (i = -1 ∧ (∀ k, k < P → R k = true) ∨ 0 ≤ i ∧ ¬ ∀ k, k < P → R k = true)) ∧ w' = w := by
  have HC := hide' hc
  clear hc
  go_enter Tryd.func43, Tryd.ntmps43
  go_wp2
  go_loopw [8] (fun iv wr => ∃ i : Nat, iv = .int .i64 (i : Int) ∧ i ≤ P ∧ wr = w ∧ Hid (∀ k, k < i → R k = true)) (fun iv _ => P - (intOf iv).toNat)
  case atStart => exact ⟨0, rfl, by omega, rfl, hide' fun k h => by omega⟩
  case round =>
    obtain ⟨i, rfl, hi, rfl, HA⟩ := hrel
    by_cases d : (i : Int) < (P : Int)
    · have ck := HC.out i (by omega)
      cases hr : R i with
      | true =>
        have NX := hide' (show ∀ k, k < i + 1 → R k = true from fun k h => by
          by_cases q : k = i
          · rw [q]; exact hr
          · exact HA.out k (by omega))
        rw [hr] at ck
        clear hr
        go_wp2
        exact ⟨⟨i + 1, by go_num, by omega, by trivial, NX⟩, by simp [intOf]; omega⟩
      | false =>
        have X := hide' (show ¬ ∀ k, k < P → R k = true from fun h => by rw [h i (by omega)] at hr; cases hr)
        rw [hr] at ck
        clear hr
        go_wp2
        go_ret
        exact ⟨⟨_, rfl, Or.inr ⟨by omega, X.out⟩⟩, rfl⟩
    · obtain rfl : i = P := by omega
      go_wp2
      go_ret
      exact ⟨⟨_, rfl, Or.inl ⟨rfl, HA.out⟩⟩, rfl⟩
set_option maxRecDepth 100000 in
theorem Contains_bool (R : Nat → Bool) (mb P C : Nat) (w : World) (p2 : P ≤ 10) (hc : ∀ k, k < P → w.cell? ⟨mb, k, none⟩ = some (.bool (R k))) :
    Calls Tryd.prog 29 #[.slice (some ⟨mb, 0, none⟩) P C, .bool false] w fun e w' => (∃ z : Bool, e = .returned (.bool z) ∧ (z = false ∧ (∀ k, k < P → R k = true) ∨ z = true ∧ ¬ ∀ k, k < P → R k = true)) ∧ w' = w := by
  have IX := hide' (Index_bool R mb P C w p2 hc)
  clear hc
  go_enter Tryd.func29, Tryd.ntmps29
  go_wp2_with fail
  refine IX.out.mono ?_
  rintro e w2 ⟨⟨i, rfl, h⟩, rfl⟩
  have H := hide' h
  clear h
  by_cases q : 0 ≤ i
  · go_wp2
    go_ret
    refine ⟨⟨true, by simp [q], Or.inr ⟨rfl, ?_⟩⟩, rfl⟩
    rcases H.out with ⟨e, _⟩ | ⟨_, h⟩
    · omega
    · exact h
  · go_wp2
    go_ret
    refine ⟨⟨false, by simp [q], Or.inl ⟨rfl, ?_⟩⟩, rfl⟩
    rcases H.out with ⟨_, h⟩ | ⟨e, _⟩
    · exact h
    · omega
end Go.Proofs.YtpajdmhgonmgoaaDoor

namespace Go.Proofs.YtpajdmhgonmgoaaDoor
open Go.RowKit
set_option linter.unusedVariables false
set_option linter.unusedSimpArgs false
/-- Who is reached, as it lies in an array. -/
def BkT (V : World) (mb : Nat) (R : Nat → Bool) : Prop := V.heap[mb]? = some (.cells (arrS 10 fun k => .bool (R k)) 69 (0, 0))
theorem BkT.cell {V : World} {mb k : Nat} {R : Nat → Bool} (h : BkT V mb R) (hk : k < 10) : V.cell? ⟨mb, k, none⟩ = some (.bool (R k)) := by
  have := cell_of_row V mb k _ _ _ h
  rw [arrS_get _ hk] at this
  exact this
theorem BkT.set {V : World} {mb i : Nat} {z : Bool} {R : Nat → Bool} (h : BkT V mb R) : BkT (V.setCell ⟨mb, i, none⟩ (.bool z)) mb (fun k => if k = i then z else R k) := by
  have := heap_setCell_same V mb i _ _ (.bool z) h
  rw [arrS_set] at this
  unfold BkT
  rw [this]
  congr 2
  exact arrS_ext fun k _ => by by_cases q : k = i <;> simp [q]
theorem BkT.ext {V : World} {mb : Nat} {R R' : Nat → Bool} (h : BkT V mb R) (e : ∀ k, k < 10 → R k = R' k) : BkT V mb R' := by
  unfold BkT at *
  rw [h]
  congr 2
  exact arrS_ext fun k hk => by rw [e k hk]
theorem rc_both {R : Nat → Bool} {e : EgT} {a b : Nat} {z : Bool} (ha : e.a = a) (hb : e.b = b) (h : (R a || R b) = z) (k : Nat) : (if k = b then z else if k = a then z else R k) = rcE R (edS e) k := by
  unfold rcE edS
  rw [ha, hb]
  have e1 : (R ((a : Int).toNat) || R ((b : Int).toNat)) = z := by simpa using h
  by_cases q : k = b
  · rw [if_pos q, if_pos (Or.inr (by simpa using q)), e1]
  · by_cases r : k = a
    · rw [if_neg q, if_pos r, if_pos (Or.inl (by simpa using r)), e1]
    · rw [if_neg q, if_neg r, if_neg (by simp; omega)]
def allR (P : Nat) (xs : List EgT) : Prop := ∀ k, k < P → rcM xs P k = true
set_option maxRecDepth 100000 in
set_option maxHeartbeats 12800000 in
theorem connected_any (P : Nat) (xs : List EgT) (ea : Option Addr) (n c : Nat) (w : World) (hE : ArgE w xs ea n c) (p1 : 1 ≤ P) (p2 : P ≤ 10) (n4 : n ≤ 40) (ok : ∀ j, j < xs.length → ¬ badE P (xs.getD j egz)) :
    Calls Tryd.prog 17 #[.agg #[.int .i64 (P : Int), .slice ea n c]] w fun e w' => (∃ z : Bool, e = .returned (.bool z) ∧ (z = true ↔ allR P xs)) ∧ Below w.heap.size w w' := by
  obtain ⟨w1, hw1⟩ : ∃ w1, w.alloc (.cells #[.int .i64 (P : Int), .slice ea n c] 24) = w1 := ⟨_, rfl⟩
  have HW1 := hide' hw1
  have B1 := hide' (show Below w.heap.size w w1 by rw [← hw1]; exact (Below.refl _ _).alloc (Nat.le_refl _) _)
  have R1 := hide' (show w1.heap[w.heap.size]? = some (.cells #[.int .i64 (P : Int), .slice ea n c] 24 (0, 0)) by rw [← hw1]; exact heap_alloc_new _ _)
  have HE := hide' (fun (V : World) (h : Below w.heap.size w V) => hE.below h)
  have HL := hide' hE.len
  have OK := hide' ok
  clear hw1 hE ok
  go_enter Tryd.func17, Tryd.ntmps17
  go_upto_region 1 with fail
  rw [HW1.out]
  go_upto_region 2 with fail
  obtain ⟨mb, hmb⟩ : ∃ mb, w1.heap.size = mb := ⟨_, rfl⟩
  obtain ⟨w2, hw2⟩ : ∃ w2, w1.alloc (.cells #[.bool false, .bool false, .bool false, .bool false, .bool false, .bool false, .bool false, .bool false, .bool false, .bool false] 69) = w2 := ⟨_, rfl⟩
  have K2 : BkT w2 mb (fun _ => false) := by rw [← hw2, ← hmb]; exact heap_alloc_new _ _
  have B2 := hide' (show Below w1.heap.size w1 w2 by rw [← hw2]; exact (Below.refl _ _).alloc (Nat.le_refl _) _)
  have M3 := hide' (show w1.heap.size ≤ mb by omega)
  rw [hmb, hw2]
  have c0 := K2.cell (k := 0) (by omega)
  have f0 := frozen_of_row w2 mb 0 _ _ K2
  have K3 := hide' ((K2.set (i := 0) (z := true)).ext (R' := rcM xs 0) fun k _ => by unfold rcM; by_cases q : k = 0 <;> simp [q])
  have B3 := hide' (show Below w1.heap.size w1 (w2.setCell ⟨mb, 0, none⟩ (.bool true)) from B2.out.setCell M3.out _)
  clear hmb hw2 K2
  have RW := hide' (fun (V : World) (h : Below w1.heap.size w1 V) => (h.block _ (ltS_of_block R1.out)).trans R1.out)
  go_upto_region 3 with fail
  clear c0 f0
  obtain ⟨w3, hw3⟩ : ∃ w3, w2.setCell ⟨mb, 0, none⟩ (.bool true) = w3 := ⟨_, rfl⟩
  rw [hw3] at K3 B3 ⊢
  clear hw3
  have y0 := cell_of_row w3 _ 0 _ _ _ (RW.out w3 B3.out)
  simp at y0
  go_wp2
  go_loopw [10] (fun mv V => ∃ m : Nat, mv = .int .i64 (m : Int) ∧ m ≤ P ∧ Hid (BkT V mb (rcM xs m)) ∧ Hid (Below w1.heap.size w1 V)) (fun mv _ => P - (intOf mv).toNat)
  case atStart => exact ⟨0, rfl, by omega, K3, B3⟩
  case round =>
    obtain ⟨m, rfl, hm, KM, BM⟩ := hrel
    clear y0
    by_cases dm : (m : Int) < (P : Int)
    · have y1 := cell_of_row wr _ 1 _ _ _ (RW.out wr BM.out)
      simp at y1
      go_wp2
      go_loopw [15] (fun iv V => ∃ i : Nat, iv = .int .i64 (i : Int) ∧ i ≤ n ∧ Hid (BkT V mb (rcS xs (rcM xs m) i)) ∧ Hid (Below w1.heap.size w1 V)) (fun iv _ => n - (intOf iv).toNat)
      case atStart => exact ⟨0, rfl, by omega, KM, BM⟩
      case round =>
        obtain ⟨j, rfl, hj, KJ, BJ⟩ := hrel
        clear y1
        by_cases dj : (j : Int) < (n : Int)
        · have hl : j < xs.length := by have := HL.out; omega
          obtain ⟨g, off, rfl, hg, e0, e1, e2⟩ := (HE.out wr (B1.out.trans (BJ.out.mono B1.out.size))).cells j hl
          obtain ⟨⟨p, q, t⟩, hx⟩ : ∃ x, xs[j] = x := ⟨_, rfl⟩
          rw [hx] at e0 e1 e2
          simp only at e0 e1 e2
          have EQ := hide' (show xs.getD j egz = ⟨p, q, t⟩ by rw [eg_at hl, hx])
          have b1 := OK.out j hl
          rw [EQ.out] at b1
          unfold badE at b1
          simp only at b1
          obtain ⟨pa, rfl⟩ := Int.eq_ofNat_of_zero_le (show 0 ≤ p by omega)
          obtain ⟨qa, rfl⟩ := Int.eq_ofNat_of_zero_le (show 0 ≤ q by omega)
          have lp : (pa : Int) < 10 := by omega
          have lq : (qa : Int) < 10 := by omega
          have lp' : pa < 10 := by omega
          have lq' : qa < 10 := by omega
          obtain ⟨R, hR⟩ : ∃ R, rcS xs (rcM xs m) j = R := ⟨_, rfl⟩
          obtain ⟨eb, heb⟩ : ∃ eb, wr.heap.size = eb := ⟨_, rfl⟩
          obtain ⟨w4, hw4⟩ : ∃ w4, wr.alloc (.cells #[.int .i64 (pa : Int), .int .i64 (qa : Int), .int .i64 t] 46) = w4 := ⟨_, rfl⟩
          have E4 := hide' (show w4.heap[eb]? = some (.cells #[.int .i64 (pa : Int), .int .i64 (qa : Int), .int .i64 t] 46 (0, 0)) by rw [← hw4, ← heb]; exact heap_alloc_new _ _)
          have K4 := hide' (show BkT w4 mb R by rw [← hw4, ← hR]; exact (heap_alloc_old _ _ (ltS_of_block KJ.out)).trans KJ.out)
          have B4 := hide' (show Below w1.heap.size w1 w4 by rw [← hw4]; exact BJ.out.alloc BJ.out.size _)
          have HEB := hide' heb
          have HW4 := hide' hw4
          have KD := hide' (show BkT w4.drew mb R from K4.out)
          have BD := hide' B4.out.drew
          have NEB := hide' (show eb ≠ mb from fun e => by
            have h1 := E4.out
            rw [e, K4.out] at h1
            simp at h1)
          clear hx b1 heb hw4
          go_upto_region 8 with fail
          rw [HEB.out, HW4.out]
          clear e0 e1 e2
          have y0 := cell_of_row w4 eb 0 _ _ _ E4.out
          have y1 := cell_of_row w4 eb 1 _ _ _ E4.out
          simp at y0 y1
          have ca := K4.out.cell (k := pa) lp'
          have cb := K4.out.cell (k := qa) lq'
          have fa := frozen_of_row w4 mb pa _ _ K4.out
          have fb := frozen_of_row w4 mb qa _ _ K4.out
          have nq := NEB.out
          cases ha : R pa with
          | true =>
            cases hb : R qa with
            | true =>
              have KX := hide' (fun (V : World) (h : BkT V mb R) => ((h.set (i := pa) (z := true)).set (i := qa) (z := true)).ext (R' := rcS xs (rcM xs m) (j + 1)) (fun k _ => by
                show _ = rcE (rcS xs (rcM xs m) j) (edS (xs.getD j egz)) k
                rw [hR, EQ.out]; exact rc_both rfl rfl (by rw [ha, hb]; rfl) k))
              have cc := (K4.out.set (i := pa) (z := true)).cell (k := qa) lq'
              obtain ⟨cv, hcv⟩ : ∃ cv : Bool, (if qa = pa then true else R qa) = cv := ⟨_, rfl⟩
              rw [hcv] at cc
              rw [ha] at ca
              rw [hb] at cb
              clear ha hb hR hcv
              go_upto_region 9 with fail
              go_region
              go_wp2
              refine ⟨⟨j + 1, by go_num, by omega, hide' ?_, hide' ?_⟩, by simp [intOf]; omega⟩
              · exact KX.out _ KD.out
              · exact (BD.out.setCell M3.out _).setCell M3.out _
            | false =>
              have KX := hide' (fun (V : World) (h : BkT V mb R) => ((h.set (i := pa) (z := true)).set (i := qa) (z := true)).ext (R' := rcS xs (rcM xs m) (j + 1)) (fun k _ => by
                show _ = rcE (rcS xs (rcM xs m) j) (edS (xs.getD j egz)) k
                rw [hR, EQ.out]; exact rc_both rfl rfl (by rw [ha, hb]; rfl) k))
              have cc := (K4.out.set (i := pa) (z := true)).cell (k := qa) lq'
              obtain ⟨cv, hcv⟩ : ∃ cv : Bool, (if qa = pa then true else R qa) = cv := ⟨_, rfl⟩
              rw [hcv] at cc
              rw [ha] at ca
              rw [hb] at cb
              clear ha hb hR hcv
              go_upto_region 9 with fail
              go_region
              go_wp2
              refine ⟨⟨j + 1, by go_num, by omega, hide' ?_, hide' ?_⟩, by simp [intOf]; omega⟩
              · exact KX.out _ KD.out
              · exact (BD.out.setCell M3.out _).setCell M3.out _
          | false =>
            cases hb : R qa with
            | true =>
              have KX := hide' (fun (V : World) (h : BkT V mb R) => ((h.set (i := pa) (z := true)).set (i := qa) (z := true)).ext (R' := rcS xs (rcM xs m) (j + 1)) (fun k _ => by
                show _ = rcE (rcS xs (rcM xs m) j) (edS (xs.getD j egz)) k
                rw [hR, EQ.out]; exact rc_both rfl rfl (by rw [ha, hb]; rfl) k))
              have cc := (K4.out.set (i := pa) (z := true)).cell (k := qa) lq'
              obtain ⟨cv, hcv⟩ : ∃ cv : Bool, (if qa = pa then true else R qa) = cv := ⟨_, rfl⟩
              rw [hcv] at cc
              rw [ha] at ca
              rw [hb] at cb
              clear ha hb hR hcv
              go_upto_region 9 with fail
              go_region
              go_wp2
              refine ⟨⟨j + 1, by go_num, by omega, hide' ?_, hide' ?_⟩, by simp [intOf]; omega⟩
              · exact KX.out _ KD.out
              · exact (BD.out.setCell M3.out _).setCell M3.out _
            | false =>
              have KX := hide' (fun (V : World) (h : BkT V mb R) => ((h.set (i := pa) (z := false)).set (i := qa) (z := false)).ext (R' := rcS xs (rcM xs m) (j + 1)) (fun k _ => by
                show _ = rcE (rcS xs (rcM xs m) j) (edS (xs.getD j egz)) k
                rw [hR, EQ.out]; exact rc_both rfl rfl (by rw [ha, hb]; rfl) k))
              have cc := (K4.out.set (i := pa) (z := false)).cell (k := qa) lq'
              obtain ⟨cv, hcv⟩ : ∃ cv : Bool, (if qa = pa then false else R qa) = cv := ⟨_, rfl⟩
              rw [hcv] at cc
              rw [ha] at ca
              rw [hb] at cb
              clear ha hb hR hcv
              go_upto_region 9 with fail
              go_region
              go_wp2
              refine ⟨⟨j + 1, by go_num, by omega, hide' ?_, hide' ?_⟩, by simp [intOf]; omega⟩
              · exact KX.out _ KD.out
              · exact (BD.out.setCell M3.out _).setCell M3.out _
        · obtain rfl : j = n := by omega
          have KN := hide' (show BkT wr mb (rcM xs (m + 1)) by
            have e := HL.out
            show BkT wr mb (rcS xs (rcM xs m) xs.length)
            rw [← e]; exact KJ.out)
          go_wp2
          exact ⟨⟨m + 1, by go_num, by omega, KN, BJ⟩, by simp [intOf]; omega⟩
    · obtain rfl : m = P := by omega
      have y0 := cell_of_row wr _ 0 _ _ _ (RW.out wr BM.out)
      simp at y0
      have CO := hide' (Contains_bool (rcM xs m) mb m 10 wr p2 (fun k hk => KM.out.cell (by omega)))
      have FIN := hide' (B1.out.trans (BM.out.mono B1.out.size))
      have m10 : (m : Int) ≤ 10 := by omega
      go_wp2_with fail
      refine CO.out.mono ?_
      rintro e w5 ⟨⟨z, rfl, h⟩, rfl⟩
      have H := hide' h
      clear h
      go_wp2
      go_ret
      refine ⟨⟨!z, rfl, ?_⟩, FIN.out⟩
      unfold allR
      rcases H.out with ⟨e, h⟩ | ⟨e, h⟩
      · subst e; simp; exact h
      · subst e; simp; exact Classical.not_forall.1 h |>.elim fun k hk => ⟨k, by simpa using hk⟩
end Go.Proofs.YtpajdmhgonmgoaaDoor

namespace Go.Proofs.YtpajdmhgonmgoaaDoor
open Go.RowKit

/-- A table in memory: a slice that reads as the numbers. -/
def Tab (w : World) (v : Value) (xs : List Int) : Prop :=
  (xs = [] ∧ v = .slice none 0 0) ∨ ∃ g cap, v = .slice (some ⟨g, 0, none⟩) xs.length cap ∧ g < w.heap.size ∧ ∀ k (h : k < xs.length), w.cell? ⟨g, k, none⟩ = some (.int .i64 xs[k])

/-- A slice whose block was made since. -/
def Fresh (w : World) (v : Value) : Prop := ∀ g k c, v = .slice (some ⟨g, 0, none⟩) k c → w.heap.size ≤ g
theorem Fresh.nil (w : World) : Fresh w (.slice none 0 0) := fun _ _ _ h => by injection h with h1; cases h1
theorem Fresh.mk {w : World} {g k c : Nat} (h : w.heap.size ≤ g) : Fresh w (.slice (some ⟨g, 0, none⟩) k c) := fun g' _ _ q => by
  injection q with q1; injection q1 with q2; injection q2 with q3; omega

/-- A rule as a value, its table at v. -/
def Out.val (o : Out) (v : Value) : Value := .agg #[.int .i64 o.kind, .int .i64 o.born, .int .i64 o.stay, .int .i64 o.states, .int .i64 o.radius, v, .string o.turns]

/-- A block that the call made ahead still lies there. -/
theorem Rd.made {b : Nat} {w w' : World} {C : Array Value} {t : TypeId} (h : Rd b (w.alloc (.cells C t)) w') (hb : b < w.heap.size) :
    (∀ j, w'.cell? ⟨w.heap.size, j, none⟩ = C[j]?) ∧ (∀ j, w'.frozen? ⟨w.heap.size, j, none⟩ = false) := by
  refine ⟨fun j => ?_, fun j => ?_⟩
  · rw [h.cell w.heap.size j (by simp) (by omega)]; simp
  · rw [h.frozen w.heap.size j (by simp) (by omega)]; simp

theorem Rd.un {b : Nat} {w w' : World} {O : Obj} (h : Rd b (w.alloc O) w') : Rd b w w' := (Rd.alloc (Rd.refl b w) O).trans h
end Go.Proofs.YtpajdmhgonmgoaaDoor

