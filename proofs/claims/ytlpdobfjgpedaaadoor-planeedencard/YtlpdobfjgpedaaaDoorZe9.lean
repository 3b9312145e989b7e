/-
  What the last text of this claim leans on, part 9: PSpec, Pa1, Pa2, Pa3, Pa4, Pa5, Pa6, Al1.
-/
import Derived.Test.YtlpdobfjgpedaaaDoorZe1
import Derived.Test.YtlpdobfjgpedaaaDoorZe2
namespace Go.Proofs.YtlpdobfjgpedaaaDoor

def blankAt (s : ByteArray) (i : Nat) : Bool := decide (i < s.size) && (decide (bt s i = 32) || decide (bt s i = 10))
theorem blankAt_true {s : ByteArray} {i : Nat} : blankAt s i = true ↔ i < s.size ∧ (bt s i = 32 ∨ bt s i = 10) := by simp [blankAt]
theorem blankAt_false {s : ByteArray} {i : Nat} : blankAt s i = false ↔ ¬ (i < s.size ∧ (bt s i = 32 ∨ bt s i = 10)) := by
  rw [← blankAt_true]; cases blankAt s i <;> simp

/-- Behind the blanks and bytes 10 from i on. -/
def skF (s : ByteArray) : Nat → Nat → Nat
  | 0, i => i
  | f + 1, i => if blankAt s i then skF s f (i + 1) else i
def sk (s : ByteArray) (i : Nat) : Nat := skF s (s.size - i) i

theorem sk_step {s : ByteArray} {i : Nat} (h : blankAt s i = true) : sk s i = sk s (i + 1) := by
  have hl := (blankAt_true.1 h).1
  unfold sk
  rw [show s.size - i = (s.size - (i + 1)) + 1 by omega]
  simp [skF, h]
theorem sk_stop {s : ByteArray} {i : Nat} (h : blankAt s i = false) : sk s i = i := by
  unfold sk
  cases s.size - i <;> simp [skF, h]
theorem skF_ge (s : ByteArray) : ∀ f i, i ≤ skF s f i := by
  intro f
  induction f with
  | zero => intro i; simp [skF]
  | succ f ih =>
    intro i
    simp only [skF]
    split
    · have := ih (i + 1); omega
    · omega
theorem sk_ge (s : ByteArray) (i : Nat) : i ≤ sk s i := skF_ge s _ i
theorem skF_le (s : ByteArray) : ∀ f i, i + f ≤ s.size → skF s f i ≤ i + f := by
  intro f
  induction f with
  | zero => intro i h; simp [skF]
  | succ f ih =>
    intro i h
    simp only [skF]
    split
    · have := ih (i + 1) (by omega); omega
    · omega
theorem sk_le {s : ByteArray} {i : Nat} (h : i ≤ s.size) : sk s i ≤ s.size := by
  have := skF_le s (s.size - i) i (by omega)
  unfold sk; omega
theorem skF_end (s : ByteArray) : ∀ f i, i + f = s.size → blankAt s (skF s f i) = false := by
  intro f
  induction f with
  | zero => intro i h; rw [blankAt_false]; simp [skF]; omega
  | succ f ih =>
    intro i h
    simp only [skF]
    split
    · exact ih (i + 1) (by omega)
    · rename_i hb; simpa using hb
theorem sk_end {s : ByteArray} {i : Nat} (h : i ≤ s.size) : blankAt s (sk s i) = false := skF_end s _ i (by omega)

/-- These bytes stand from i on: behind them; or where they don't. -/
def wordF (s : ByteArray) : List Nat → Nat → Nat ⊕ Nat
  | [], i => .inl i
  | c :: cs, i => if i < s.size ∧ bt s i = c then wordF s cs (i + 1) else .inr i

/-- Is what stands at i a number of at most six digits without a needless 0? -/
def numSix (s : ByteArray) (i : Nat) : Bool :=
  decide (i < (num s i).2) && !(decide (1 < (num s i).2 - i) && decide (bt s i = 48)) && decide ((num s i).2 - i ≤ 6)

def sideS (s : ByteArray) (ws : List Nat) (i : Nat) : (Nat × Nat) ⊕ (Nat × Nat) :=
  match wordF s ws i with
  | .inr j => .inr (j, 2)
  | .inl j => if !numSix s j then .inr (j, 2) else if 100 < (num s j).1 then .inr (j, 1) else .inl ((num s j).1, (num s j).2)

def headS (s : ByteArray) : (Nat × Nat × Nat) ⊕ (Nat × Nat) :=
  match sideS s [120, 32, 61, 32] 0 with
  | .inr e => .inr e
  | .inl (w, i) =>
    match sideS s [44, 32, 121, 32, 61, 32] i with
    | .inr e => .inr e
    | .inl (h, j) =>
      match wordF s [10] j with
      | .inr k => .inr (k, 2)
      | .inl k => .inl (w, h, k)

/-- n cells from p on are v. -/
def setRun (xs : List Int) (p : Nat) : Nat → Int → List Int
  | 0, _ => xs
  | n + 1, v => (setRun xs p n v).set (p + n) v
theorem setRun_length (xs : List Int) (p n : Nat) (v : Int) : (setRun xs p n v).length = xs.length := by
  induction n with
  | zero => rfl
  | succ n ih => simp [setRun, ih]

/-- What stands where a tag may: its number or 1, and the tag's place. -/
def dAt (s : ByteArray) (j : Nat) : Bool := inR s j 48 57
def tagN (s : ByteArray) (j : Nat) : Nat := if dAt s j then (num s j).1 else 1
def tagK (s : ByteArray) (j : Nat) : Nat := if dAt s j then (num s j).2 else j
def tagBad (s : ByteArray) (j : Nat) : Bool := dAt s j && (!numSix s j || decide ((num s j).1 < 2))

/-- One tag, at j: on, done, or wrong. -/
abbrev Go1 : Type := (Nat × Nat × Nat × List Int) ⊕ (List Int ⊕ (Nat × Nat))
abbrev Go1.on (i x y : Nat) (xs : List Int) : Go1 := Sum.inl (i, x, y, xs)
abbrev Go1.done (xs : List Int) : Go1 := Sum.inr (Sum.inl xs)
abbrev Go1.bad (a e : Nat) : Go1 := Sum.inr (Sum.inr (a, e))

def tag1 (s : ByteArray) (W H j x y : Nat) (xs : List Int) : Go1 :=
  if tagBad s j then .bad j 2
  else if s.size ≤ tagK s j then .bad (tagK s j) 2
  else if bt s (tagK s j) = 98 ∨ bt s (tagK s j) = 111 then
    if H ≤ y ∨ W < x + tagN s j then .bad j 1
    else .on (tagK s j + 1) (x + tagN s j) y (setRun xs (y * W + x) (tagN s j) (if bt s (tagK s j) = 111 then 1 else 0))
  else if bt s (tagK s j) = 36 then
    if H ≤ y + tagN s j then .bad j 1 else .on (tagK s j + 1) 0 (y + tagN s j) xs
  else if bt s (tagK s j) = 33 then
    if j ≠ tagK s j then .bad (tagK s j) 2
    else if sk s (tagK s j + 1) = s.size then .done xs else .bad (sk s (tagK s j + 1)) 2
  else .bad (tagK s j) 2

def tagsF (s : ByteArray) (W H : Nat) : Nat → Nat → Nat → Nat → List Int → List Int ⊕ (Nat × Nat)
  | 0, _, _, _, _ => .inr (0, 0)
  | f + 1, i, x, y, xs =>
    match tag1 s W H (sk s i) x y xs with
    | .inl (i', x', y', xs') => tagsF s W H f i' x' y' xs'
    | .inr (.inl xs') => .inl xs'
    | .inr (.inr (a, e)) => .inr (a, e)

/-- A pattern, or where it is wrong and how. -/
def runsS (s : ByteArray) : (Nat × Nat × List Int) ⊕ (Nat × Nat) :=
  if 40000 < s.size then .inr (0, 4)
  else match headS s with
    | .inr e => .inr e
    | .inl (w, h, i) =>
      match tagsF s w h (s.size + 1 - i) i 0 0 (List.replicate (w * h) 0) with
      | .inl xs => .inl (w, h, xs)
      | .inr e => .inr e

theorem numF_ge (s : ByteArray) : ∀ f i v, i ≤ (numF s f i v).2 := by
  intro f
  induction f with
  | zero => intro i v; simp [numF]
  | succ f ih =>
    intro i v
    simp only [numF]
    split
    · have := ih (i + 1) (v * 10 + (bt s i - 48)); omega
    · simp
theorem num_ge (s : ByteArray) (i : Nat) : i ≤ (num s i).2 := numF_ge s _ i 0
theorem num_gt {s : ByteArray} {i : Nat} (h : inR s i 48 57 = true) : i < (num s i).2 := by
  unfold num
  rw [numF_step h]
  exact numF_ge s _ (i + 1) _
theorem numF_bound (s : ByteArray) : ∀ f i v n, v < 10 ^ n → (numF s f i v).1 < 10 ^ (n + ((numF s f i v).2 - i)) := by
  intro f
  induction f with
  | zero => intro i v n h; simpa [numF] using h
  | succ f ih =>
    intro i v n h
    simp only [numF]
    split
    · rename_i hin
      have hb := inR_true.1 hin
      have h1 := ih (i + 1) (v * 10 + (bt s i - 48)) (n + 1) (by rw [Nat.pow_succ]; omega)
      have h2 := numF_ge s f (i + 1) (v * 10 + (bt s i - 48))
      rw [show n + ((numF s f (i + 1) (v * 10 + (bt s i - 48))).2 - i) = n + 1 + ((numF s f (i + 1) (v * 10 + (bt s i - 48))).2 - (i + 1)) by omega]
      exact h1
    · simpa using h
theorem num_bound (s : ByteArray) (i : Nat) (h : (num s i).2 - i ≤ 6) : (num s i).1 < 1000000 := by
  have := numF_bound s (s.size - i) i 0 0 (by simp)
  have h2 : 10 ^ (0 + ((numF s (s.size - i) i 0).2 - i)) ≤ 10 ^ 6 := Nat.pow_le_pow_right (by omega) (by unfold num at h; omega)
  unfold num
  omega
theorem tagK_ge (s : ByteArray) (j : Nat) : j ≤ tagK s j := by
  unfold tagK
  split
  · exact num_ge s j
  · omega
end Go.Proofs.YtlpdobfjgpedaaaDoor

namespace Go.Proofs.YtlpdobfjgpedaaaDoor
open Go.RowKit
set_option linter.unusedVariables false

/-- What the reader holds, its text aside. -/
structure Rv where
  i : Nat
  fl : Int
  wd : Int
  hi : Int
  cs : Value
  rt : Int
  dn : Int
  bg : Int
  tm : Int

def Rv.val (r : Rv) (s : ByteArray) : Nat → Value
  | 0 => .string s
  | 1 => .int .i64 (r.i : Int)
  | 2 => .int .i64 r.fl
  | 3 => .int .i64 r.wd
  | 4 => .int .i64 r.hi
  | 5 => r.cs
  | 6 => .int .i64 r.rt
  | 7 => .int .i64 r.dn
  | 8 => .int .i64 r.bg
  | 9 => .int .i64 r.tm
  | _ => .bool false

structure RAt (b : Nat) (s : ByteArray) (r : Rv) (w : World) : Prop where
  cell : ∀ k, k < 10 → w.cell? ⟨b, k, none⟩ = some (r.val s k)
  fz : ∀ k, k < 10 → w.frozen? ⟨b, k, none⟩ = false

theorem RAt.lt {b : Nat} {s : ByteArray} {r : Rv} {w : World} (h : RAt b s r w) : b < w.heap.size := by
  rcases Nat.lt_or_ge b w.heap.size with k | k
  · exact k
  · have := h.cell 0 (by omega); simp [World.cell?, Array.getElem?_eq_none k] at this
theorem RAt.block {b : Nat} {s : ByteArray} {r : Rv} {w w' : World} (h : RAt b s r w) (e : w'.heap[b]? = w.heap[b]?) : RAt b s r w' :=
  ⟨fun k hk => (World.cell?_of_block (w := w) (a := ⟨b, k, none⟩) e).trans (h.cell k hk), fun k hk => (World.frozen?_of_block (w := w) (a := ⟨b, k, none⟩) e).trans (h.fz k hk)⟩
theorem RAt.drewN {b : Nat} {s : ByteArray} {r : Rv} {w : World} (h : RAt b s r w) (n : Nat) : RAt b s r (w.drewN n) := h.block rfl
theorem RAt.alloc {b : Nat} {s : ByteArray} {r : Rv} {w : World} (h : RAt b s r w) (o : Obj) : RAt b s r (w.alloc o) := h.block (Below.heap_alloc _ _ _ h.lt)
theorem RAt.setOther {b : Nat} {s : ByteArray} {r : Rv} {w : World} (h : RAt b s r w) {p : Addr} (hp : b ≠ p.block) (u : Value) : RAt b s r (w.setCell p u) := h.block (Below.heap_setCell _ _ _ _ hp)
theorem RAt.below {b : Nat} {s : ByteArray} {r : Rv} {w w' : World} (h : RAt b s r w) (hb : Below w.heap.size w w') : RAt b s r w' := h.block (hb.block b h.lt)
theorem RAt.set {b : Nat} {s : ByteArray} {r r' : Rv} {w : World} (h : RAt b s r w) (k : Nat) (u : Value) (hk : k < 10) (h1 : r'.val s k = u) (h2 : ∀ j, j < 10 → j ≠ k → r'.val s j = r.val s j) : RAt b s r' (w.setCell ⟨b, k, none⟩ u) := by
  refine ⟨fun j hj => ?_, fun j hj => by rw [World.frozen?_setCell]; exact h.fz j hj⟩
  by_cases e : j = k
  · subst e; rw [h1]; exact World.cell?_setCell_same (w := w) (a := ⟨b, j, none⟩) (v := _) (h := h.cell j hj)
  · rw [h2 j hj e]; exact (World.cell?_setCell_other (w := w) (a := ⟨b, k, none⟩) (b := ⟨b, j, none⟩) (v := _) (h := fun q => e (congrArg Addr.off q).symm)).trans (h.cell j hj)

theorem RAt.set_i {b : Nat} {s : ByteArray} {r : Rv} {w : World} (h : RAt b s r w) (x : Nat) : RAt b s { r with i := x } (w.setCell ⟨b, 1, none⟩ (.int .i64 (x : Int))) :=
  h.set 1 _ (by omega) rfl fun j hj hn => by
    match j, hj, hn with
    | 0, _, hn => rfl
    | 1, _, hn => exact absurd rfl hn
    | 2, _, hn => rfl
    | 3, _, hn => rfl
    | 4, _, hn => rfl
    | 5, _, hn => rfl
    | 6, _, hn => rfl
    | 7, _, hn => rfl
    | 8, _, hn => rfl
    | 9, _, hn => rfl
theorem RAt.set_fl {b : Nat} {s : ByteArray} {r : Rv} {w : World} (h : RAt b s r w) (x : Int) : RAt b s { r with fl := x } (w.setCell ⟨b, 2, none⟩ (.int .i64 x)) :=
  h.set 2 _ (by omega) rfl fun j hj hn => by
    match j, hj, hn with
    | 0, _, hn => rfl
    | 1, _, hn => rfl
    | 2, _, hn => exact absurd rfl hn
    | 3, _, hn => rfl
    | 4, _, hn => rfl
    | 5, _, hn => rfl
    | 6, _, hn => rfl
    | 7, _, hn => rfl
    | 8, _, hn => rfl
    | 9, _, hn => rfl
theorem RAt.set_wd {b : Nat} {s : ByteArray} {r : Rv} {w : World} (h : RAt b s r w) (x : Int) : RAt b s { r with wd := x } (w.setCell ⟨b, 3, none⟩ (.int .i64 x)) :=
  h.set 3 _ (by omega) rfl fun j hj hn => by
    match j, hj, hn with
    | 0, _, hn => rfl
    | 1, _, hn => rfl
    | 2, _, hn => rfl
    | 3, _, hn => exact absurd rfl hn
    | 4, _, hn => rfl
    | 5, _, hn => rfl
    | 6, _, hn => rfl
    | 7, _, hn => rfl
    | 8, _, hn => rfl
    | 9, _, hn => rfl
theorem RAt.set_hi {b : Nat} {s : ByteArray} {r : Rv} {w : World} (h : RAt b s r w) (x : Int) : RAt b s { r with hi := x } (w.setCell ⟨b, 4, none⟩ (.int .i64 x)) :=
  h.set 4 _ (by omega) rfl fun j hj hn => by
    match j, hj, hn with
    | 0, _, hn => rfl
    | 1, _, hn => rfl
    | 2, _, hn => rfl
    | 3, _, hn => rfl
    | 4, _, hn => exact absurd rfl hn
    | 5, _, hn => rfl
    | 6, _, hn => rfl
    | 7, _, hn => rfl
    | 8, _, hn => rfl
    | 9, _, hn => rfl
theorem RAt.set_cs {b : Nat} {s : ByteArray} {r : Rv} {w : World} (h : RAt b s r w) (x : Value) : RAt b s { r with cs := x } (w.setCell ⟨b, 5, none⟩ x) :=
  h.set 5 _ (by omega) rfl fun j hj hn => by
    match j, hj, hn with
    | 0, _, hn => rfl
    | 1, _, hn => rfl
    | 2, _, hn => rfl
    | 3, _, hn => rfl
    | 4, _, hn => rfl
    | 5, _, hn => exact absurd rfl hn
    | 6, _, hn => rfl
    | 7, _, hn => rfl
    | 8, _, hn => rfl
    | 9, _, hn => rfl
theorem RAt.set_rt {b : Nat} {s : ByteArray} {r : Rv} {w : World} (h : RAt b s r w) (x : Int) : RAt b s { r with rt := x } (w.setCell ⟨b, 6, none⟩ (.int .i64 x)) :=
  h.set 6 _ (by omega) rfl fun j hj hn => by
    match j, hj, hn with
    | 0, _, hn => rfl
    | 1, _, hn => rfl
    | 2, _, hn => rfl
    | 3, _, hn => rfl
    | 4, _, hn => rfl
    | 5, _, hn => rfl
    | 6, _, hn => exact absurd rfl hn
    | 7, _, hn => rfl
    | 8, _, hn => rfl
    | 9, _, hn => rfl
theorem RAt.set_dn {b : Nat} {s : ByteArray} {r : Rv} {w : World} (h : RAt b s r w) (x : Int) : RAt b s { r with dn := x } (w.setCell ⟨b, 7, none⟩ (.int .i64 x)) :=
  h.set 7 _ (by omega) rfl fun j hj hn => by
    match j, hj, hn with
    | 0, _, hn => rfl
    | 1, _, hn => rfl
    | 2, _, hn => rfl
    | 3, _, hn => rfl
    | 4, _, hn => rfl
    | 5, _, hn => rfl
    | 6, _, hn => rfl
    | 7, _, hn => exact absurd rfl hn
    | 8, _, hn => rfl
    | 9, _, hn => rfl
theorem RAt.set_bg {b : Nat} {s : ByteArray} {r : Rv} {w : World} (h : RAt b s r w) (x : Int) : RAt b s { r with bg := x } (w.setCell ⟨b, 8, none⟩ (.int .i64 x)) :=
  h.set 8 _ (by omega) rfl fun j hj hn => by
    match j, hj, hn with
    | 0, _, hn => rfl
    | 1, _, hn => rfl
    | 2, _, hn => rfl
    | 3, _, hn => rfl
    | 4, _, hn => rfl
    | 5, _, hn => rfl
    | 6, _, hn => rfl
    | 7, _, hn => rfl
    | 8, _, hn => exact absurd rfl hn
    | 9, _, hn => rfl
theorem RAt.set_tm {b : Nat} {s : ByteArray} {r : Rv} {w : World} (h : RAt b s r w) (x : Int) : RAt b s { r with tm := x } (w.setCell ⟨b, 9, none⟩ (.int .i64 x)) :=
  h.set 9 _ (by omega) rfl fun j hj hn => by
    match j, hj, hn with
    | 0, _, hn => rfl
    | 1, _, hn => rfl
    | 2, _, hn => rfl
    | 3, _, hn => rfl
    | 4, _, hn => rfl
    | 5, _, hn => rfl
    | 6, _, hn => rfl
    | 7, _, hn => rfl
    | 8, _, hn => rfl
    | 9, _, hn => exact absurd rfl hn

/-- The ten cells, and that they may be written. -/
structure Ten (b : Nat) (s : ByteArray) (r : Rv) (w : World) : Prop where
  c0 : w.cell? ⟨b, 0, none⟩ = some (.string s)
  c1 : w.cell? ⟨b, 1, none⟩ = some (.int .i64 (r.i : Int))
  c2 : w.cell? ⟨b, 2, none⟩ = some (.int .i64 r.fl)
  c3 : w.cell? ⟨b, 3, none⟩ = some (.int .i64 r.wd)
  c4 : w.cell? ⟨b, 4, none⟩ = some (.int .i64 r.hi)
  c5 : w.cell? ⟨b, 5, none⟩ = some (r.cs)
  c6 : w.cell? ⟨b, 6, none⟩ = some (.int .i64 r.rt)
  c7 : w.cell? ⟨b, 7, none⟩ = some (.int .i64 r.dn)
  c8 : w.cell? ⟨b, 8, none⟩ = some (.int .i64 r.bg)
  c9 : w.cell? ⟨b, 9, none⟩ = some (.int .i64 r.tm)
  f1 : w.frozen? ⟨b, 1, none⟩ = false
  f2 : w.frozen? ⟨b, 2, none⟩ = false
  f3 : w.frozen? ⟨b, 3, none⟩ = false
  f4 : w.frozen? ⟨b, 4, none⟩ = false
  f5 : w.frozen? ⟨b, 5, none⟩ = false
  f6 : w.frozen? ⟨b, 6, none⟩ = false
  f7 : w.frozen? ⟨b, 7, none⟩ = false
  f8 : w.frozen? ⟨b, 8, none⟩ = false
  f9 : w.frozen? ⟨b, 9, none⟩ = false
theorem RAt.ten {b : Nat} {s : ByteArray} {r : Rv} {w : World} (h : RAt b s r w) : Ten b s r w :=
  ⟨h.cell 0 (by omega), h.cell 1 (by omega), h.cell 2 (by omega), h.cell 3 (by omega), h.cell 4 (by omega), h.cell 5 (by omega), h.cell 6 (by omega), h.cell 7 (by omega), h.cell 8 (by omega), h.cell 9 (by omega), h.fz 1 (by omega), h.fz 2 (by omega), h.fz 3 (by omega), h.fz 4 (by omega), h.fz 5 (by omega), h.fz 6 (by omega), h.fz 7 (by omega), h.fz 8 (by omega), h.fz 9 (by omega)⟩

/-- What a method of the reader leaves: the reader so, and nothing else turned. -/
def Left (b : Nat) (s : ByteArray) (r : Rv) (w w' : World) : Prop := RAt b s r w' ∧ Rd b w w'
end Go.Proofs.YtlpdobfjgpedaaaDoor

namespace Go.Proofs.YtlpdobfjgpedaaaDoor
open Go.RowKit
set_option linter.unusedVariables false

end Go.Proofs.YtlpdobfjgpedaaaDoor

namespace Go.Proofs.YtlpdobfjgpedaaaDoor
open Go.RowKit
set_option linter.unusedVariables false

theorem RAt.posOf {b : Nat} {s : ByteArray} {r : Rv} {w : World} (h : RAt b s r w) : posOf b w = r.i := by
  unfold Go.Proofs.YtlpdobfjgpedaaaDoor.posOf; rw [h.ten.c1]; simp

theorem digit_lo (s : ByteArray) (i : Nat) (h : bt s i < 48) : inR s i 48 57 = false := inR_false.2 (by omega)
theorem digit_hi (s : ByteArray) (i : Nat) (h : 57 < bt s i) : inR s i 48 57 = false := inR_false.2 (by omega)
theorem bt_pos {s : ByteArray} {i : Nat} (h : 0 < bt s i) : i < s.size := by
  rcases Nat.lt_or_ge i s.size with z | z
  · exact z
  · simp [bt, show ¬ i < s.size by omega] at h
theorem digit_in (s : ByteArray) (i : Nat) (h : 48 ≤ bt s i) (h' : bt s i ≤ 57) : inR s i 48 57 = true := inR_true.2 ⟨bt_pos (by omega), by omega, by omega⟩

end Go.Proofs.YtlpdobfjgpedaaaDoor

namespace Go.Proofs.YtlpdobfjgpedaaaDoor
open Go.RowKit
set_option linter.unusedVariables false

def NumPost (b : Nat) (s : ByteArray) (r : Rv) (w : World) (e : Ending) (w' : World) : Prop :=
  (numSix s r.i = true ∧ e = .returned (.tuple #[.int .i64 ((num s r.i).1 : Int), .bool true]) ∧ RAt b s { r with i := (num s r.i).2 } w' ∧ Rd b w w' ∧ (num s r.i).2 ≤ s.size) ∨
  (numSix s r.i = false ∧ e = .returned (.tuple #[.int .i64 0, .bool false]) ∧ RAt b s { r with fl := 2 } w' ∧ Rd b w w')

theorem numSix_true {s : ByteArray} {i : Nat} : numSix s i = true ↔ i < (num s i).2 ∧ ¬ (1 < (num s i).2 - i ∧ bt s i = 48) ∧ (num s i).2 - i ≤ 6 := by
  unfold numSix
  rw [Bool.and_eq_true, Bool.and_eq_true, decide_eq_true_eq, Bool.not_eq_true', decide_eq_true_eq, and_assoc]
  constructor <;> rintro ⟨a, c, d⟩ <;> refine ⟨a, ?_, d⟩ <;> simp at c ⊢ <;> omega
theorem numSix_false {s : ByteArray} {i : Nat} : numSix s i = false ↔ ¬ (i < (num s i).2 ∧ ¬ (1 < (num s i).2 - i ∧ bt s i = 48) ∧ (num s i).2 - i ≤ 6) := by
  rw [← numSix_true]; cases numSix s i <;> simp

end Go.Proofs.YtlpdobfjgpedaaaDoor

namespace Go.Proofs.YtlpdobfjgpedaaaDoor
open Go.RowKit
set_option linter.unusedVariables false

/-- A text's bytes. -/
def bts (t : ByteArray) : List Nat := (List.range t.size).map (bt t)
theorem bts_drop (t : ByteArray) (k : Nat) (h : k < t.size) : (bts t).drop k = bt t k :: (bts t).drop (k + 1) := by
  rw [List.drop_eq_getElem_cons (by simpa [bts] using h)]
  simp [bts]
theorem bts_end (t : ByteArray) : (bts t).drop t.size = [] := by simp [bts]

def WordPost (b : Nat) (s : ByteArray) (r : Rv) (ws : List Nat) (w : World) (e : Ending) (w' : World) : Prop :=
  (∃ j, wordF s ws r.i = .inl j ∧ e = .returned (.bool true) ∧ RAt b s { r with i := j } w' ∧ Rd b w w' ∧ j ≤ s.size) ∨
  (∃ j, wordF s ws r.i = .inr j ∧ e = .returned (.bool false) ∧ RAt b s { r with i := j, fl := 2 } w' ∧ Rd b w w')

end Go.Proofs.YtlpdobfjgpedaaaDoor

namespace Go.Proofs.YtlpdobfjgpedaaaDoor
open Go.RowKit
set_option linter.unusedVariables false

def sideB (n : Int) : Bool := decide (0 ≤ n) && decide (n ≤ 100)
theorem pisSide (n : Int) (w : World) :
    Calls Tryd.prog 54 #[.int .i64 n] w fun e w' => e = .returned (.bool (sideB n)) ∧ w' = w := by
  by_cases h1 : 0 ≤ n
  · by_cases h2 : n ≤ 100
    · rw [show sideB n = true by unfold sideB; simp; omega]
      go_enter Tryd.func54, Tryd.ntmps54
      go_wp2
      go_ret
      exact ⟨rfl, rfl⟩
    · rw [show sideB n = false by unfold sideB; simp; omega]
      go_enter Tryd.func54, Tryd.ntmps54
      go_wp2
      go_ret
      exact ⟨rfl, rfl⟩
  · rw [show sideB n = false by unfold sideB; simp; omega]
    go_enter Tryd.func54, Tryd.ntmps54
    go_wp2
    go_ret
    exact ⟨rfl, rfl⟩

def SidePost (b : Nat) (s : ByteArray) (r : Rv) (ws : List Nat) (w : World) (e : Ending) (w' : World) : Prop :=
  (∃ n j, sideS s ws r.i = .inl (n, j) ∧ e = .returned (.tuple #[.int .i64 (n : Int), .bool true]) ∧ RAt b s { r with i := j } w' ∧ Rd b w w' ∧ j ≤ s.size ∧ n ≤ 100) ∨
  (∃ (a f : Nat) (m : Int), sideS s ws r.i = .inr (a, f) ∧ e = .returned (.tuple #[.int .i64 m, .bool false]) ∧ RAt b s { r with i := a, fl := f } w' ∧ Rd b w w')

/-- At block g these ints, writable. -/
structure Cel (w : World) (g : Nat) (xs : List Int) : Prop where
  lt : g < w.heap.size
  cells : ∀ k, k < xs.length → w.cell? ⟨g, k, none⟩ = some (.int .i64 (xs.getD k 0))
  fz : ∀ k, w.frozen? ⟨g, k, none⟩ = false
theorem Cel.block {w w' : World} {g : Nat} {xs : List Int} (h : Cel w g xs) (hs : w.heap.size ≤ w'.heap.size) (e : w'.heap[g]? = w.heap[g]?) : Cel w' g xs :=
  ⟨Nat.lt_of_lt_of_le h.lt hs, fun k hk => (World.cell?_of_block (w := w) (a := ⟨g, k, none⟩) e).trans (h.cells k hk), fun k => (World.frozen?_of_block (w := w) (a := ⟨g, k, none⟩) e).trans (h.fz k)⟩
theorem Cel.rd {w w' : World} {g b : Nat} {xs : List Int} (h : Cel w g xs) (hr : Rd b w w') (hb : g ≠ b) : Cel w' g xs := h.block hr.size (hr.block g h.lt hb)
theorem Cel.below {w w' : World} {g : Nat} {xs : List Int} (h : Cel w g xs) (hb : Below w.heap.size w w') : Cel w' g xs := h.block hb.size (hb.block g h.lt)
theorem Cel.set {w : World} {g : Nat} {xs : List Int} (h : Cel w g xs) (p : Nat) (x : Int) (hp : p < xs.length) : Cel (w.setCell ⟨g, p, none⟩ (.int .i64 x)) g (xs.set p x) := by
  refine ⟨by rw [World.size_setCell]; exact h.lt, fun k hk => ?_, fun k => by rw [World.frozen?_setCell]; exact h.fz k⟩
  rw [List.length_set] at hk
  by_cases e : k = p
  · subst e
    rw [show (xs.set k x).getD k 0 = x by simp [List.getD, hk]]
    exact World.cell?_setCell_same (w := w) (a := ⟨g, k, none⟩) (v := _) (h := h.cells k hk)
  · rw [show (xs.set p x).getD k 0 = xs.getD k 0 by simp [List.getD, Ne.symm e]]
    exact (World.cell?_setCell_other (w := w) (a := ⟨g, p, none⟩) (b := ⟨g, k, none⟩) (v := _) (h := fun q => e (congrArg Addr.off q).symm)).trans (h.cells k hk)

end Go.Proofs.YtlpdobfjgpedaaaDoor

namespace Go.Proofs.YtlpdobfjgpedaaaDoor
open Go.RowKit
set_option linter.unusedVariables false

theorem Cel.tab {w : World} {g n : Nat} {xs : List Int} (h : Cel w g xs) (hn : xs.length = n) : Tab w (.slice (some ⟨g, 0, none⟩) n n) xs := by
  subst hn
  exact Or.inr ⟨g, xs.length, rfl, h.lt, fun k hk => by rw [h.cells k hk]; simp [List.getD, hk]⟩

set_option maxHeartbeats 1600000 in
theorem Alike_same (W H : Int) (va vb : Value) (xs : List Int) (w : World) (ha : Tab w va xs) (hb : Tab w vb xs) (hm : xs.length ≤ maxLen) :
    Calls Tryd.prog 10 #[.agg #[.int .i64 W, .int .i64 H, va], .agg #[.int .i64 W, .int .i64 H, vb]] w fun e w' => e = .returned (.bool true) ∧ Below w.heap.size w w' := by
  have TA := hide' (show Tab ((w.alloc (.cells #[.int .i64 W, .int .i64 H, va] 26)).alloc (.cells #[.int .i64 W, .int .i64 H, vb] 26)) va xs from (ha.alloc' _).alloc' _)
  have TB := hide' (show Tab ((w.alloc (.cells #[.int .i64 W, .int .i64 H, va] 26)).alloc (.cells #[.int .i64 W, .int .i64 H, vb] 26)) vb xs from (hb.alloc' _).alloc' _)
  obtain ⟨a, ca, rfl, -⟩ := ha.parts
  obtain ⟨b, cb, rfl, -⟩ := hb.parts
  go_enter Tryd.func10, Tryd.ntmps10
  go_wp2_with fail
  refine (Ints_same xs _ _ _ TA.out TB.out hm).mono ?_
  rintro e w1 ⟨rfl, m, rfl⟩
  go_wp2
  go_ret
  exact ⟨rfl, below_drewN (((Below.refl _ _).alloc (Nat.le_refl _) _).alloc (by simp) _) m⟩
end Go.Proofs.YtlpdobfjgpedaaaDoor

