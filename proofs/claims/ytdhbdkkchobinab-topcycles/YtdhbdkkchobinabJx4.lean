/-
  What the last text of this claim leans on, part 4: Pa1, Pa2, Pa3, Pa4, Pa5, Pa6, Al1, Wa1, In1.
-/
import Derived.Test.YtdhbdkkchobinabJx2
import Derived.Test.YtdhbdkkchobinabJx3
namespace Go.Proofs.Ytdhbdkkchobinab
open Go.RowKit
set_option linter.unusedVariables false

/-- What the reader holds, its text aside. -/
structure Rv where
  i : Nat
  fl : Int
  wd : Int
  hi : Int
  cs : Value
  rt : Int
  dn : Int
  bg : Int
  tm : Int

def Rv.val (r : Rv) (s : ByteArray) : Nat → Value
  | 0 => .string s
  | 1 => .int .i64 (r.i : Int)
  | 2 => .int .i64 r.fl
  | 3 => .int .i64 r.wd
  | 4 => .int .i64 r.hi
  | 5 => r.cs
  | 6 => .int .i64 r.rt
  | 7 => .int .i64 r.dn
  | 8 => .int .i64 r.bg
  | 9 => .int .i64 r.tm
  | _ => .bool false

structure RAt (b : Nat) (s : ByteArray) (r : Rv) (w : World) : Prop where
  cell : ∀ k, k < 10 → w.cell? ⟨b, k, none⟩ = some (r.val s k)
  fz : ∀ k, k < 10 → w.frozen? ⟨b, k, none⟩ = false

theorem RAt.lt {b : Nat} {s : ByteArray} {r : Rv} {w : World} (h : RAt b s r w) : b < w.heap.size := by
  rcases Nat.lt_or_ge b w.heap.size with k | k
  · exact k
  · have := h.cell 0 (by omega); simp [World.cell?, Array.getElem?_eq_none k] at this
theorem RAt.block {b : Nat} {s : ByteArray} {r : Rv} {w w' : World} (h : RAt b s r w) (e : w'.heap[b]? = w.heap[b]?) : RAt b s r w' :=
  ⟨fun k hk => (World.cell?_of_block (w := w) (a := ⟨b, k, none⟩) e).trans (h.cell k hk), fun k hk => (World.frozen?_of_block (w := w) (a := ⟨b, k, none⟩) e).trans (h.fz k hk)⟩
theorem RAt.drewN {b : Nat} {s : ByteArray} {r : Rv} {w : World} (h : RAt b s r w) (n : Nat) : RAt b s r (w.drewN n) := h.block rfl
theorem RAt.alloc {b : Nat} {s : ByteArray} {r : Rv} {w : World} (h : RAt b s r w) (o : Obj) : RAt b s r (w.alloc o) := h.block (Below.heap_alloc _ _ _ h.lt)
theorem RAt.setOther {b : Nat} {s : ByteArray} {r : Rv} {w : World} (h : RAt b s r w) {p : Addr} (hp : b ≠ p.block) (u : Value) : RAt b s r (w.setCell p u) := h.block (Below.heap_setCell _ _ _ _ hp)
theorem RAt.below {b : Nat} {s : ByteArray} {r : Rv} {w w' : World} (h : RAt b s r w) (hb : Below w.heap.size w w') : RAt b s r w' := h.block (hb.block b h.lt)
theorem RAt.set {b : Nat} {s : ByteArray} {r r' : Rv} {w : World} (h : RAt b s r w) (k : Nat) (u : Value) (hk : k < 10) (h1 : r'.val s k = u) (h2 : ∀ j, j < 10 → j ≠ k → r'.val s j = r.val s j) : RAt b s r' (w.setCell ⟨b, k, none⟩ u) := by
  refine ⟨fun j hj => ?_, fun j hj => by rw [World.frozen?_setCell]; exact h.fz j hj⟩
  by_cases e : j = k
  · subst e; rw [h1]; exact World.cell?_setCell_same (w := w) (a := ⟨b, j, none⟩) (v := _) (h := h.cell j hj)
  · rw [h2 j hj e]; exact (World.cell?_setCell_other (w := w) (a := ⟨b, k, none⟩) (b := ⟨b, j, none⟩) (v := _) (h := fun q => e (congrArg Addr.off q).symm)).trans (h.cell j hj)

theorem RAt.set_i {b : Nat} {s : ByteArray} {r : Rv} {w : World} (h : RAt b s r w) (x : Nat) : RAt b s { r with i := x } (w.setCell ⟨b, 1, none⟩ (.int .i64 (x : Int))) :=
  h.set 1 _ (by omega) rfl fun j hj hn => by
    match j, hj, hn with
    | 0, _, hn => rfl
    | 1, _, hn => exact absurd rfl hn
    | 2, _, hn => rfl
    | 3, _, hn => rfl
    | 4, _, hn => rfl
    | 5, _, hn => rfl
    | 6, _, hn => rfl
    | 7, _, hn => rfl
    | 8, _, hn => rfl
    | 9, _, hn => rfl
theorem RAt.set_fl {b : Nat} {s : ByteArray} {r : Rv} {w : World} (h : RAt b s r w) (x : Int) : RAt b s { r with fl := x } (w.setCell ⟨b, 2, none⟩ (.int .i64 x)) :=
  h.set 2 _ (by omega) rfl fun j hj hn => by
    match j, hj, hn with
    | 0, _, hn => rfl
    | 1, _, hn => rfl
    | 2, _, hn => exact absurd rfl hn
    | 3, _, hn => rfl
    | 4, _, hn => rfl
    | 5, _, hn => rfl
    | 6, _, hn => rfl
    | 7, _, hn => rfl
    | 8, _, hn => rfl
    | 9, _, hn => rfl
theorem RAt.set_wd {b : Nat} {s : ByteArray} {r : Rv} {w : World} (h : RAt b s r w) (x : Int) : RAt b s { r with wd := x } (w.setCell ⟨b, 3, none⟩ (.int .i64 x)) :=
  h.set 3 _ (by omega) rfl fun j hj hn => by
    match j, hj, hn with
    | 0, _, hn => rfl
    | 1, _, hn => rfl
    | 2, _, hn => rfl
    | 3, _, hn => exact absurd rfl hn
    | 4, _, hn => rfl
    | 5, _, hn => rfl
    | 6, _, hn => rfl
    | 7, _, hn => rfl
    | 8, _, hn => rfl
    | 9, _, hn => rfl
theorem RAt.set_hi {b : Nat} {s : ByteArray} {r : Rv} {w : World} (h : RAt b s r w) (x : Int) : RAt b s { r with hi := x } (w.setCell ⟨b, 4, none⟩ (.int .i64 x)) :=
  h.set 4 _ (by omega) rfl fun j hj hn => by
    match j, hj, hn with
    | 0, _, hn => rfl
    | 1, _, hn => rfl
    | 2, _, hn => rfl
    | 3, _, hn => rfl
    | 4, _, hn => exact absurd rfl hn
    | 5, _, hn => rfl
    | 6, _, hn => rfl
    | 7, _, hn => rfl
    | 8, _, hn => rfl
    | 9, _, hn => rfl
theorem RAt.set_cs {b : Nat} {s : ByteArray} {r : Rv} {w : World} (h : RAt b s r w) (x : Value) : RAt b s { r with cs := x } (w.setCell ⟨b, 5, none⟩ x) :=
  h.set 5 _ (by omega) rfl fun j hj hn => by
    match j, hj, hn with
    | 0, _, hn => rfl
    | 1, _, hn => rfl
    | 2, _, hn => rfl
    | 3, _, hn => rfl
    | 4, _, hn => rfl
    | 5, _, hn => exact absurd rfl hn
    | 6, _, hn => rfl
    | 7, _, hn => rfl
    | 8, _, hn => rfl
    | 9, _, hn => rfl
theorem RAt.set_rt {b : Nat} {s : ByteArray} {r : Rv} {w : World} (h : RAt b s r w) (x : Int) : RAt b s { r with rt := x } (w.setCell ⟨b, 6, none⟩ (.int .i64 x)) :=
  h.set 6 _ (by omega) rfl fun j hj hn => by
    match j, hj, hn with
    | 0, _, hn => rfl
    | 1, _, hn => rfl
    | 2, _, hn => rfl
    | 3, _, hn => rfl
    | 4, _, hn => rfl
    | 5, _, hn => rfl
    | 6, _, hn => exact absurd rfl hn
    | 7, _, hn => rfl
    | 8, _, hn => rfl
    | 9, _, hn => rfl
theorem RAt.set_dn {b : Nat} {s : ByteArray} {r : Rv} {w : World} (h : RAt b s r w) (x : Int) : RAt b s { r with dn := x } (w.setCell ⟨b, 7, none⟩ (.int .i64 x)) :=
  h.set 7 _ (by omega) rfl fun j hj hn => by
    match j, hj, hn with
    | 0, _, hn => rfl
    | 1, _, hn => rfl
    | 2, _, hn => rfl
    | 3, _, hn => rfl
    | 4, _, hn => rfl
    | 5, _, hn => rfl
    | 6, _, hn => rfl
    | 7, _, hn => exact absurd rfl hn
    | 8, _, hn => rfl
    | 9, _, hn => rfl
theorem RAt.set_bg {b : Nat} {s : ByteArray} {r : Rv} {w : World} (h : RAt b s r w) (x : Int) : RAt b s { r with bg := x } (w.setCell ⟨b, 8, none⟩ (.int .i64 x)) :=
  h.set 8 _ (by omega) rfl fun j hj hn => by
    match j, hj, hn with
    | 0, _, hn => rfl
    | 1, _, hn => rfl
    | 2, _, hn => rfl
    | 3, _, hn => rfl
    | 4, _, hn => rfl
    | 5, _, hn => rfl
    | 6, _, hn => rfl
    | 7, _, hn => rfl
    | 8, _, hn => exact absurd rfl hn
    | 9, _, hn => rfl
theorem RAt.set_tm {b : Nat} {s : ByteArray} {r : Rv} {w : World} (h : RAt b s r w) (x : Int) : RAt b s { r with tm := x } (w.setCell ⟨b, 9, none⟩ (.int .i64 x)) :=
  h.set 9 _ (by omega) rfl fun j hj hn => by
    match j, hj, hn with
    | 0, _, hn => rfl
    | 1, _, hn => rfl
    | 2, _, hn => rfl
    | 3, _, hn => rfl
    | 4, _, hn => rfl
    | 5, _, hn => rfl
    | 6, _, hn => rfl
    | 7, _, hn => rfl
    | 8, _, hn => rfl
    | 9, _, hn => exact absurd rfl hn

/-- The ten cells, and that they may be written. -/
structure Ten (b : Nat) (s : ByteArray) (r : Rv) (w : World) : Prop where
  c0 : w.cell? ⟨b, 0, none⟩ = some (.string s)
  c1 : w.cell? ⟨b, 1, none⟩ = some (.int .i64 (r.i : Int))
  c2 : w.cell? ⟨b, 2, none⟩ = some (.int .i64 r.fl)
  c3 : w.cell? ⟨b, 3, none⟩ = some (.int .i64 r.wd)
  c4 : w.cell? ⟨b, 4, none⟩ = some (.int .i64 r.hi)
  c5 : w.cell? ⟨b, 5, none⟩ = some (r.cs)
  c6 : w.cell? ⟨b, 6, none⟩ = some (.int .i64 r.rt)
  c7 : w.cell? ⟨b, 7, none⟩ = some (.int .i64 r.dn)
  c8 : w.cell? ⟨b, 8, none⟩ = some (.int .i64 r.bg)
  c9 : w.cell? ⟨b, 9, none⟩ = some (.int .i64 r.tm)
  f1 : w.frozen? ⟨b, 1, none⟩ = false
  f2 : w.frozen? ⟨b, 2, none⟩ = false
  f3 : w.frozen? ⟨b, 3, none⟩ = false
  f4 : w.frozen? ⟨b, 4, none⟩ = false
  f5 : w.frozen? ⟨b, 5, none⟩ = false
  f6 : w.frozen? ⟨b, 6, none⟩ = false
  f7 : w.frozen? ⟨b, 7, none⟩ = false
  f8 : w.frozen? ⟨b, 8, none⟩ = false
  f9 : w.frozen? ⟨b, 9, none⟩ = false
theorem RAt.ten {b : Nat} {s : ByteArray} {r : Rv} {w : World} (h : RAt b s r w) : Ten b s r w :=
  ⟨h.cell 0 (by omega), h.cell 1 (by omega), h.cell 2 (by omega), h.cell 3 (by omega), h.cell 4 (by omega), h.cell 5 (by omega), h.cell 6 (by omega), h.cell 7 (by omega), h.cell 8 (by omega), h.cell 9 (by omega), h.fz 1 (by omega), h.fz 2 (by omega), h.fz 3 (by omega), h.fz 4 (by omega), h.fz 5 (by omega), h.fz 6 (by omega), h.fz 7 (by omega), h.fz 8 (by omega), h.fz 9 (by omega)⟩

/-- What a method of the reader leaves: the reader so, and nothing else turned. -/
def Left (b : Nat) (s : ByteArray) (r : Rv) (w w' : World) : Prop := RAt b s r w' ∧ Rd b w w'
end Go.Proofs.Ytdhbdkkchobinab

namespace Go.Proofs.Ytdhbdkkchobinab
open Go.RowKit
set_option linter.unusedVariables false

end Go.Proofs.Ytdhbdkkchobinab

namespace Go.Proofs.Ytdhbdkkchobinab
open Go.RowKit
set_option linter.unusedVariables false

theorem RAt.posOf {b : Nat} {s : ByteArray} {r : Rv} {w : World} (h : RAt b s r w) : posOf b w = r.i := by
  unfold Go.Proofs.Ytdhbdkkchobinab.posOf; rw [h.ten.c1]; simp

theorem digit_lo (s : ByteArray) (i : Nat) (h : bt s i < 48) : inR s i 48 57 = false := inR_false.2 (by omega)
theorem digit_hi (s : ByteArray) (i : Nat) (h : 57 < bt s i) : inR s i 48 57 = false := inR_false.2 (by omega)
theorem bt_pos {s : ByteArray} {i : Nat} (h : 0 < bt s i) : i < s.size := by
  rcases Nat.lt_or_ge i s.size with z | z
  · exact z
  · simp [bt, show ¬ i < s.size by omega] at h
theorem digit_in (s : ByteArray) (i : Nat) (h : 48 ≤ bt s i) (h' : bt s i ≤ 57) : inR s i 48 57 = true := inR_true.2 ⟨bt_pos (by omega), by omega, by omega⟩

end Go.Proofs.Ytdhbdkkchobinab

namespace Go.Proofs.Ytdhbdkkchobinab
open Go.RowKit
set_option linter.unusedVariables false

def NumPost (b : Nat) (s : ByteArray) (r : Rv) (w : World) (e : Ending) (w' : World) : Prop :=
  (numSix s r.i = true ∧ e = .returned (.tuple #[.int .i64 ((num s r.i).1 : Int), .bool true]) ∧ RAt b s { r with i := (num s r.i).2 } w' ∧ Rd b w w' ∧ (num s r.i).2 ≤ s.size) ∨
  (numSix s r.i = false ∧ e = .returned (.tuple #[.int .i64 0, .bool false]) ∧ RAt b s { r with fl := 2 } w' ∧ Rd b w w')

theorem numSix_true {s : ByteArray} {i : Nat} : numSix s i = true ↔ i < (num s i).2 ∧ ¬ (1 < (num s i).2 - i ∧ bt s i = 48) ∧ (num s i).2 - i ≤ 6 := by
  unfold numSix
  rw [Bool.and_eq_true, Bool.and_eq_true, decide_eq_true_eq, Bool.not_eq_true', decide_eq_true_eq, and_assoc]
  constructor <;> rintro ⟨a, c, d⟩ <;> refine ⟨a, ?_, d⟩ <;> simp at c ⊢ <;> omega
theorem numSix_false {s : ByteArray} {i : Nat} : numSix s i = false ↔ ¬ (i < (num s i).2 ∧ ¬ (1 < (num s i).2 - i ∧ bt s i = 48) ∧ (num s i).2 - i ≤ 6) := by
  rw [← numSix_true]; cases numSix s i <;> simp

end Go.Proofs.Ytdhbdkkchobinab

namespace Go.Proofs.Ytdhbdkkchobinab
open Go.RowKit
set_option linter.unusedVariables false

/-- A text's bytes. -/
def bts (t : ByteArray) : List Nat := (List.range t.size).map (bt t)
theorem bts_drop (t : ByteArray) (k : Nat) (h : k < t.size) : (bts t).drop k = bt t k :: (bts t).drop (k + 1) := by
  rw [List.drop_eq_getElem_cons (by simpa [bts] using h)]
  simp [bts]
theorem bts_end (t : ByteArray) : (bts t).drop t.size = [] := by simp [bts]

def WordPost (b : Nat) (s : ByteArray) (r : Rv) (ws : List Nat) (w : World) (e : Ending) (w' : World) : Prop :=
  (∃ j, wordF s ws r.i = .inl j ∧ e = .returned (.bool true) ∧ RAt b s { r with i := j } w' ∧ Rd b w w' ∧ j ≤ s.size) ∨
  (∃ j, wordF s ws r.i = .inr j ∧ e = .returned (.bool false) ∧ RAt b s { r with i := j, fl := 2 } w' ∧ Rd b w w')

end Go.Proofs.Ytdhbdkkchobinab

namespace Go.Proofs.Ytdhbdkkchobinab
open Go.RowKit
set_option linter.unusedVariables false

def sideB (n : Int) : Bool := decide (0 ≤ n) && decide (n ≤ 100)
def SidePost (b : Nat) (s : ByteArray) (r : Rv) (ws : List Nat) (w : World) (e : Ending) (w' : World) : Prop :=
  (∃ n j, sideS s ws r.i = .inl (n, j) ∧ e = .returned (.tuple #[.int .i64 (n : Int), .bool true]) ∧ RAt b s { r with i := j } w' ∧ Rd b w w' ∧ j ≤ s.size ∧ n ≤ 100) ∨
  (∃ (a f : Nat) (m : Int), sideS s ws r.i = .inr (a, f) ∧ e = .returned (.tuple #[.int .i64 m, .bool false]) ∧ RAt b s { r with i := a, fl := f } w' ∧ Rd b w w')

/-- At block g these ints, writable. -/
structure Cel (w : World) (g : Nat) (xs : List Int) : Prop where
  lt : g < w.heap.size
  cells : ∀ k, k < xs.length → w.cell? ⟨g, k, none⟩ = some (.int .i64 (xs.getD k 0))
  fz : ∀ k, w.frozen? ⟨g, k, none⟩ = false
theorem Cel.block {w w' : World} {g : Nat} {xs : List Int} (h : Cel w g xs) (hs : w.heap.size ≤ w'.heap.size) (e : w'.heap[g]? = w.heap[g]?) : Cel w' g xs :=
  ⟨Nat.lt_of_lt_of_le h.lt hs, fun k hk => (World.cell?_of_block (w := w) (a := ⟨g, k, none⟩) e).trans (h.cells k hk), fun k => (World.frozen?_of_block (w := w) (a := ⟨g, k, none⟩) e).trans (h.fz k)⟩
theorem Cel.rd {w w' : World} {g b : Nat} {xs : List Int} (h : Cel w g xs) (hr : Rd b w w') (hb : g ≠ b) : Cel w' g xs := h.block hr.size (hr.block g h.lt hb)
theorem Cel.below {w w' : World} {g : Nat} {xs : List Int} (h : Cel w g xs) (hb : Below w.heap.size w w') : Cel w' g xs := h.block hb.size (hb.block g h.lt)
theorem Cel.set {w : World} {g : Nat} {xs : List Int} (h : Cel w g xs) (p : Nat) (x : Int) (hp : p < xs.length) : Cel (w.setCell ⟨g, p, none⟩ (.int .i64 x)) g (xs.set p x) := by
  refine ⟨by rw [World.size_setCell]; exact h.lt, fun k hk => ?_, fun k => by rw [World.frozen?_setCell]; exact h.fz k⟩
  rw [List.length_set] at hk
  by_cases e : k = p
  · subst e
    rw [show (xs.set k x).getD k 0 = x by simp [List.getD, hk]]
    exact World.cell?_setCell_same (w := w) (a := ⟨g, k, none⟩) (v := _) (h := h.cells k hk)
  · rw [show (xs.set p x).getD k 0 = xs.getD k 0 by simp [List.getD, Ne.symm e]]
    exact (World.cell?_setCell_other (w := w) (a := ⟨g, p, none⟩) (b := ⟨g, k, none⟩) (v := _) (h := fun q => e (congrArg Addr.off q).symm)).trans (h.cells k hk)

end Go.Proofs.Ytdhbdkkchobinab

namespace Go.Proofs.Ytdhbdkkchobinab
open Go.RowKit
set_option linter.unusedVariables false

theorem Cel.tab {w : World} {g n : Nat} {xs : List Int} (h : Cel w g xs) (hn : xs.length = n) : Tab w (.slice (some ⟨g, 0, none⟩) n n) xs := by
  subst hn
  exact Or.inr ⟨g, xs.length, rfl, h.lt, fun k hk => by rw [h.cells k hk]; simp [List.getD, hk]⟩

end Go.Proofs.Ytdhbdkkchobinab

namespace Go.Proofs.Ytdhbdkkchobinab
open Go.RowKit
set_option linter.unusedVariables false

/-- A pattern that came in, as a value: its cells anywhere. -/
structure ArgP (w : World) (xs : List Int) (a : Option Addr) (n c : Nat) : Prop where
  len : n = xs.length
  max : n ≤ maxLen
  cells : ∀ k (h : k < xs.length), ∃ g off, a = some ⟨g, off, none⟩ ∧ g < w.heap.size ∧ w.cell? ⟨g, off + k, none⟩ = some (.int .i64 xs[k])
theorem ArgP.below {w w' : World} {xs : List Int} {a : Option Addr} {n c : Nat} (h : ArgP w xs a n c) (hb : Below w.heap.size w w') : ArgP w' xs a n c :=
  ⟨h.len, h.max, fun k hk => by
    obtain ⟨g, off, e, hg, hc⟩ := h.cells k hk
    exact ⟨g, off, e, Nat.lt_of_lt_of_le hg hb.size, (World.cell?_of_block (w := w) (a := ⟨g, off + k, none⟩) (hb.block g hg)).trans hc⟩⟩
theorem ArgP.alloc {w : World} {xs : List Int} {a : Option Addr} {n c : Nat} (h : ArgP w xs a n c) (x : Obj) : ArgP (w.alloc x) xs a n c :=
  h.below ((Below.refl _ _).alloc (Nat.le_refl _) _)

def cellB (x : Int) : Bool := decide (x = 0) || decide (x = 1)
def shapeF (W H : Int) (xs : List Int) : Nat :=
  if sideB W && sideB H then (if (xs.length : Int) = W * H then (if xs.all cellB then 0 else 1) else 3) else 1

def errOf (f : Nat) : Value := if f = 0 then .nilIface else .iface 43 (.int .i64 (f : Int))

theorem side_nat {W : Int} (h : sideB W = true) : ∃ n : Nat, W = (n : Int) ∧ n ≤ 100 := by
  unfold sideB at h
  simp at h
  exact ⟨W.toNat, by omega, by omega⟩
theorem side_no {W : Int} (h : sideB W = false) : W < 0 ∨ 100 < W := by
  unfold sideB at h
  simp at h
  omega
theorem all_bad {xs : List Int} {k : Nat} (hk : k < xs.length) (h : cellB xs[k] = false) : xs.all cellB = false := by
  cases q : xs.all cellB with
  | false => rfl
  | true => rw [List.all_eq_true.1 q _ (List.getElem_mem hk)] at h; cases h
theorem all_ok {xs : List Int} (h : ∀ k (hk : k < xs.length), cellB xs[k] = true) : xs.all cellB = true := by
  rw [List.all_eq_true]
  intro x hx
  obtain ⟨k, hk, rfl⟩ := List.getElem_of_mem hx
  exact h k hk
theorem cellB_iff (x : Int) : cellB x = true ↔ x = 0 ∨ x = 1 := by simp [cellB]

end Go.Proofs.Ytdhbdkkchobinab

namespace Go.Proofs.Ytdhbdkkchobinab
open Go.RowKit
set_option linter.unusedVariables false

theorem list_ne_len {xs ys : List Int} (h : xs.length ≠ ys.length) : decide (xs = ys) = false := by
  simp; intro e; exact h (by rw [e])
theorem list_ne_at {xs ys : List Int} {k : Nat} (hx : k < xs.length) (hy : k < ys.length) (h : xs[k] ≠ ys[k]) : decide (xs = ys) = false := by
  simp; intro e; subst e; exact h rfl

end Go.Proofs.Ytdhbdkkchobinab

