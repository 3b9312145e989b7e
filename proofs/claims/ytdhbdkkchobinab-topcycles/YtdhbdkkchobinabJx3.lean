/-
  What the last text of this claim leans on, part 3: Fill, Ref2, Ow, PSpec.
-/
import Derived.Test.YtdhbdkkchobinabJx2
import Derived.Test.YtdhbdkkchobinabJx1
import Derived.Deep.OwnRows
import Derived.Deep.AppendLies
import Derived.Deep.RegionHeld3
import Derived.Deep.RegionLaw
import Derived.Deep.RegionWith
import Derived.Laws.IdiomStrings
import Derived.Laws.MakeOwn
import Derived.Lib.BufferWrite
import Derived.Lib.Hide
import Derived.Lib.Walk
import Derived.WalkKit
import Derived.WalkSmall
namespace Go.Proofs.Ytdhbdkkchobinab
open Go.RowKit

theorem hide {p : Prop} (h : p) : Hid p := h
theorem unhide {p : Prop} (h : Hid p) : p := h

/-- At block g a list of n numbers, the first k of which are f's. -/
structure Fill (g n k : Nat) (f : Nat → Int) (w : World) : Prop where
  lt : g < w.heap.size
  cells : ∀ j, j < n → ∃ v, w.cell? ⟨g, j, none⟩ = some v ∧ (j < k → v = .int .i64 (f j))
  fz : ∀ j, w.frozen? ⟨g, j, none⟩ = false

theorem Fill.start (w : World) (n : Nat) (f : Nat → Int) (z : Value) (t : TypeId) : Fill w.heap.size n 0 f (w.alloc (.cells (madeCells #[z] n) t)) := by
  refine ⟨by simp, fun j hj => ⟨(madeCells #[z] n)[j]'(by rw [size_madeCells]; exact hj), ?_, by omega⟩, fun j => by simp⟩
  rw [World.cell?_alloc_at _ _ _ _ rfl]
  exact Array.getElem?_eq_getElem (by rw [size_madeCells]; exact hj)
theorem Fill.step {g n k : Nat} {f : Nat → Int} {w : World} (h : Fill g n k f w) (hk : k < n) : Fill g n (k + 1) f (w.setCell ⟨g, k, none⟩ (.int .i64 (f k))) := by
  refine ⟨by rw [World.size_setCell]; exact h.lt, fun j hj => ?_, fun j => by rw [World.frozen?_setCell]; exact h.fz j⟩
  by_cases e : j = k
  · subst e
    obtain ⟨v, hv, -⟩ := h.cells j hj
    exact ⟨_, World.cell?_setCell_same (w := w) (a := ⟨g, j, none⟩) (v := _) (h := hv), fun _ => rfl⟩
  · obtain ⟨v, hv, hv'⟩ := h.cells j hj
    refine ⟨v, ?_, fun _ => hv' (by omega)⟩
    exact (World.cell?_setCell_other (w := w) (a := ⟨g, k, none⟩) (b := ⟨g, j, none⟩) (v := _) (h := fun q => e (congrArg Addr.off q).symm)).trans hv
theorem Fill.rd {b g n k : Nat} {f : Nat → Int} {w w' : World} (h : Fill g n k f w) (r : Rd b w w') (hb : g ≠ b) : Fill g n k f w' := by
  refine ⟨Nat.lt_of_lt_of_le h.lt r.size, fun j hj => ?_, fun j => ?_⟩
  · obtain ⟨v, hv, hv'⟩ := h.cells j hj
    exact ⟨v, by rw [r.cell g j h.lt hb]; exact hv, hv'⟩
  · rw [r.frozen g j h.lt hb]; exact h.fz j
theorem Fill.other {g n k : Nat} {f : Nat → Int} {w : World} (h : Fill g n k f w) {p : Addr} (hp : g ≠ p.block) (u : Value) : Fill g n k f (w.setCell p u) := by
  have e : (w.setCell p u).heap[g]? = w.heap[g]? := Below.heap_setCell _ _ _ _ hp
  refine ⟨by rw [World.size_setCell]; exact h.lt, fun j hj => ?_, fun j => ?_⟩
  · obtain ⟨v, hv, hv'⟩ := h.cells j hj
    exact ⟨v, (World.cell?_of_block (w := w) (a := ⟨g, j, none⟩) e).trans hv, hv'⟩
  · exact (World.frozen?_of_block (w := w) (a := ⟨g, j, none⟩) e).trans (h.fz j)
theorem Fill.tab {g n cap : Nat} {f : Nat → Int} {w : World} (h : Fill g n n f w) : Tab w (.slice (some ⟨g, 0, none⟩) n cap) ((List.range n).map f) := by
  refine Or.inr ⟨g, cap, by simp, h.lt, fun k hk => ?_⟩
  simp at hk
  obtain ⟨v, hv, hv'⟩ := h.cells k hk
  rw [hv, hv' hk]; simp
theorem Tab.other {w : World} {v : Value} {xs : List Int} (h : Tab w v xs) {p : Addr} (u : Value) (hp : ∀ g c, v = .slice (some ⟨g, 0, none⟩) xs.length c → g ≠ p.block) : Tab (w.setCell p u) v xs := by
  rcases h with h | ⟨g, cap, hv, hg, hc⟩
  · exact Or.inl h
  · have e : (w.setCell p u).heap[g]? = w.heap[g]? := Below.heap_setCell _ _ _ _ (hp g cap hv)
    exact Or.inr ⟨g, cap, hv, by rw [World.size_setCell]; exact hg, fun k hk => (World.cell?_of_block (w := w) (a := ⟨g, k, none⟩) e).trans (hc k hk)⟩

/-- How many windows: the product stops above 4096. -/
def entF (n : Nat) : Nat → Nat → Nat
  | 0, e => e
  | f + 1, e => if e ≤ 4096 then entF n f (e * (n * n)) else e
def entOf (n m : Nat) : Nat := entF n m n

theorem entOf_small (n m : Nat) (hn : 2 ≤ n) (hn' : n ≤ 4) (hm : m ≤ 2) : entOf n m = entries n m := by
  have h1 : n = 2 ∨ n = 3 ∨ n = 4 := by omega
  have h2 : m = 0 ∨ m = 1 ∨ m = 2 := by omega
  rcases h1 with rfl | rfl | rfl <;> rcases h2 with rfl | rfl | rfl <;> decide

theorem entF_stop {n e : Nat} (h : ¬ e ≤ 4096) : ∀ f, entF n f e = e
  | 0 => rfl
  | f + 1 => by simp [entF, h]

set_option maxHeartbeats 800000 in
theorem entries_any (n m : Nat) (N M : Int) (w : World) (hN : N = n) (hM : M = m) (hn : 2 ≤ n) (hn' : n ≤ 4) (hm : m ≤ 4611686018427387904) :
    Calls Try.prog 36 #[.int .i64 N, .int .i64 M] w fun e w' => e = .returned (.int .i64 ((entOf n m : Nat) : Int)) ∧ w' = w := by
  subst hN hM
  have h1 : n = 2 ∨ n = 3 ∨ n = 4 := by omega
  rcases h1 with rfl | rfl | rfl
  all_goals
    go_enter Try.func36, Try.ntmps36
    go_wp2
    go_loop [5, 6] (fun ev iv => ∃ k e : Nat, iv = .int .i64 (k : Int) ∧ ev = .int .i64 (e : Int) ∧ k ≤ m ∧ e ≤ 65536 ∧ entF _ (m - k) e = entOf _ m) (fun _ iv => m - (intOf iv).toNat)
    case atStart => exact ⟨0, _, rfl, rfl, by omega, by omega, rfl⟩
    case round =>
      obtain ⟨k, e, rfl, rfl, hk, he, hent⟩ := hrel
      have HE := hide hent
      clear hent
      by_cases hkm : (k : Int) < (m : Int)
      · by_cases hee : (e : Int) ≤ 4096
        · go_wp2
          have e1 := unhide HE
          rw [show m - k = (m - (k + 1)) + 1 by omega, entF, if_pos (by omega)] at e1
          refine ⟨⟨k + 1, _, by go_num, ?_, by omega, ?_, e1⟩, by simp [intOf]; omega⟩
          · go_num
          · omega
        · go_wp2
          go_ret
          have e1 := unhide HE
          rw [entF_stop (by omega)] at e1
          rw [← e1]
          exact ⟨rfl, rfl⟩
      · go_wp2
        go_ret
        have e1 := unhide HE
        rw [show m - k = 0 by omega, entF] at e1
        rw [← e1]
        exact ⟨rfl, rfl⟩
end Go.Proofs.Ytdhbdkkchobinab

namespace Go.Proofs.Ytdhbdkkchobinab
open Go.RowKit
set_option linter.unusedVariables false

/-- a to the n, or 5000 above 4096. -/
def powS (a n : Nat) : Nat := if a ^ n ≤ 4096 then a ^ n else 5000

theorem pow_grows {a k n : Nat} (ha : 1 ≤ a) (hk : k ≤ n) (h : 4096 < a ^ k) : powS a n = 5000 := by
  have : a ^ k ≤ a ^ n := Nat.pow_le_pow_right ha hk
  unfold powS
  rw [if_neg (by omega)]

/-- Two lists that read alike are the same. -/
theorem Tab.alloc' {w : World} {v : Value} {xs : List Int} (h : Tab w v xs) (o : Obj) : Tab (w.alloc o) v xs := by
  rcases h with h | ⟨g, cap, hv, hg, hc⟩
  · exact Or.inl h
  · have e : (w.alloc o).heap[g]? = w.heap[g]? := Below.heap_alloc _ _ _ hg
    exact Or.inr ⟨g, cap, hv, by rw [World.size_alloc]; omega, fun k hk => (World.cell?_of_block (w := w) (a := ⟨g, k, none⟩) e).trans (hc k hk)⟩

theorem Tab.parts {w : World} {v : Value} {xs : List Int} (h : Tab w v xs) :
    ∃ a c, v = .slice a xs.length c ∧ ∀ k (h : k < xs.length), ∃ g, a = some ⟨g, 0, none⟩ ∧ w.cell? ⟨g, k, none⟩ = some (.int .i64 xs[k]) := by
  rcases h with ⟨rfl, rfl⟩ | ⟨g, cap, rfl, hg, hc⟩
  · exact ⟨none, 0, rfl, fun k h => absurd h (by simp)⟩
  · exact ⟨_, cap, rfl, fun k h => ⟨g, rfl, hc k h⟩⟩

end Go.Proofs.Ytdhbdkkchobinab

namespace Go.Proofs.Ytdhbdkkchobinab
open Go.RowKit
set_option linter.unusedVariables false

theorem info_int : (Try.prog.info? 3).map (fun i => (i.zero, i.size, i.bytes)) = some (some (.int .i64 0), 1, 8) := by kernel_rfl
theorem Tab.slice {w : World} {v : Value} {xs : List Int} (h : Tab w v xs) : ∃ a n c, v = .slice a n c := by
  rcases h with ⟨-, h⟩ | ⟨g, cap, h, -, -⟩
  · exact ⟨_, _, _, h⟩
  · exact ⟨_, _, _, h⟩
theorem ownsRow_block {w : World} {base : Nat} {e : TypeId} {v : Value} {n : Nat} {xs : List Value} (h : w.ownsRow base e 1 v n xs) : ∀ k, v.ownBlock = some k → base ≤ k := by
  intro k hk
  rcases h.2 with ⟨hv, -⟩ | ⟨g, cap, cur, hv, hg, -⟩
  · rw [hv] at hk; cases hk
  · rw [hv] at hk
    have : g = k := by simpa [Value.ownBlock] using hk
    omega
theorem ownsRow_slice {w : World} {base : Nat} {e : TypeId} {v : Value} {n : Nat} {xs : List Value} (h : w.ownsRow base e 1 v n xs) : ∃ a m c, v = .slice a m c := by
  rcases h.2 with ⟨hv, -⟩ | ⟨g, cap, cur, hv, -⟩
  · exact ⟨_, _, _, hv⟩
  · exact ⟨_, _, _, hv⟩
theorem ownsRow_tab {w : World} {base : Nat} {e : TypeId} {v : Value} {xs : List Int} (h : w.ownsRow base e 1 v xs.length (xs.map fun x => .int .i64 x)) : Tab w v xs := by
  rcases h.2 with ⟨hv, hn⟩ | ⟨g, cap, cur, hv, hg, hh, hc, hm, hs, ht⟩
  · exact Or.inl ⟨List.eq_nil_of_length_eq_zero hn, hv⟩
  · refine Or.inr ⟨g, cap, hv, ?_, fun k hk => ?_⟩
    · exact (Array.getElem?_eq_some_iff.1 hh).1
    · have h1 : (cur.toList.take (xs.length * 1))[k]? = some (.int .i64 xs[k]) := by
        rw [ht, List.getElem?_map, List.getElem?_eq_getElem hk]; rfl
      rw [List.getElem?_take] at h1
      simp only [World.cell?, hh]
      have : k < xs.length * 1 := by omega
      rw [if_pos this] at h1
      simpa using h1
theorem grownBy_drew {w w' : World} {r : Option Nat} (h : w.drew.grownBy w' r) : w.grownBy w' r := ⟨h.os, h.tape, h.output, h.size, h.block⟩
theorem num_size (s : ByteArray) (i : Nat) (h : i ≤ s.size) : (num s i).2 ≤ s.size := by
  have H : ∀ f i v, i + f = s.size → (numF s f i v).2 ≤ s.size := by
    intro f
    induction f with
    | zero => intro i v e; simp [numF]; omega
    | succ f ih =>
      intro i v e
      unfold numF
      split
      · exact ih _ _ (by omega)
      · simp; omega
  exact H _ _ _ (by omega)
theorem cell_all_new (w : World) (cs : Array Value) (u k : Nat) : (w.alloc (.cells cs u)).drew.cell? ⟨w.heap.size, k, none⟩ = cs[k]? := by
  have h : (w.alloc (.cells cs u)).heap[w.heap.size]? = some (.cells cs u) := by unfold World.alloc; simp
  show (w.alloc (.cells cs u)).cell? _ = _
  simp only [World.cell?, h]
  rfl
theorem cell_new_at (w : World) (cs : Array Value) (u k : Nat) : (w.alloc (.cells cs u)).cell? ⟨w.heap.size, k, none⟩ = cs[k]? := cell_all_new w cs u k
end Go.Proofs.Ytdhbdkkchobinab

namespace Go.Proofs.Ytdhbdkkchobinab

def blankAt (s : ByteArray) (i : Nat) : Bool := decide (i < s.size) && (decide (bt s i = 32) || decide (bt s i = 10))
theorem blankAt_true {s : ByteArray} {i : Nat} : blankAt s i = true ↔ i < s.size ∧ (bt s i = 32 ∨ bt s i = 10) := by simp [blankAt]
theorem blankAt_false {s : ByteArray} {i : Nat} : blankAt s i = false ↔ ¬ (i < s.size ∧ (bt s i = 32 ∨ bt s i = 10)) := by
  rw [← blankAt_true]; cases blankAt s i <;> simp

/-- Behind the blanks and bytes 10 from i on. -/
def skF (s : ByteArray) : Nat → Nat → Nat
  | 0, i => i
  | f + 1, i => if blankAt s i then skF s f (i + 1) else i
def sk (s : ByteArray) (i : Nat) : Nat := skF s (s.size - i) i

theorem sk_step {s : ByteArray} {i : Nat} (h : blankAt s i = true) : sk s i = sk s (i + 1) := by
  have hl := (blankAt_true.1 h).1
  unfold sk
  rw [show s.size - i = (s.size - (i + 1)) + 1 by omega]
  simp [skF, h]
theorem sk_stop {s : ByteArray} {i : Nat} (h : blankAt s i = false) : sk s i = i := by
  unfold sk
  cases s.size - i <;> simp [skF, h]
theorem skF_ge (s : ByteArray) : ∀ f i, i ≤ skF s f i := by
  intro f
  induction f with
  | zero => intro i; simp [skF]
  | succ f ih =>
    intro i
    simp only [skF]
    split
    · have := ih (i + 1); omega
    · omega
theorem sk_ge (s : ByteArray) (i : Nat) : i ≤ sk s i := skF_ge s _ i
theorem skF_le (s : ByteArray) : ∀ f i, i + f ≤ s.size → skF s f i ≤ i + f := by
  intro f
  induction f with
  | zero => intro i h; simp [skF]
  | succ f ih =>
    intro i h
    simp only [skF]
    split
    · have := ih (i + 1) (by omega); omega
    · omega
theorem sk_le {s : ByteArray} {i : Nat} (h : i ≤ s.size) : sk s i ≤ s.size := by
  have := skF_le s (s.size - i) i (by omega)
  unfold sk; omega
theorem skF_end (s : ByteArray) : ∀ f i, i + f = s.size → blankAt s (skF s f i) = false := by
  intro f
  induction f with
  | zero => intro i h; rw [blankAt_false]; simp [skF]; omega
  | succ f ih =>
    intro i h
    simp only [skF]
    split
    · exact ih (i + 1) (by omega)
    · rename_i hb; simpa using hb
theorem sk_end {s : ByteArray} {i : Nat} (h : i ≤ s.size) : blankAt s (sk s i) = false := skF_end s _ i (by omega)

/-- These bytes stand from i on: behind them; or where they don't. -/
def wordF (s : ByteArray) : List Nat → Nat → Nat ⊕ Nat
  | [], i => .inl i
  | c :: cs, i => if i < s.size ∧ bt s i = c then wordF s cs (i + 1) else .inr i

/-- Is what stands at i a number of at most six digits without a needless 0? -/
def numSix (s : ByteArray) (i : Nat) : Bool :=
  decide (i < (num s i).2) && !(decide (1 < (num s i).2 - i) && decide (bt s i = 48)) && decide ((num s i).2 - i ≤ 6)

def sideS (s : ByteArray) (ws : List Nat) (i : Nat) : (Nat × Nat) ⊕ (Nat × Nat) :=
  match wordF s ws i with
  | .inr j => .inr (j, 2)
  | .inl j => if !numSix s j then .inr (j, 2) else if 100 < (num s j).1 then .inr (j, 1) else .inl ((num s j).1, (num s j).2)

def headS (s : ByteArray) : (Nat × Nat × Nat) ⊕ (Nat × Nat) :=
  match sideS s [120, 32, 61, 32] 0 with
  | .inr e => .inr e
  | .inl (w, i) =>
    match sideS s [44, 32, 121, 32, 61, 32] i with
    | .inr e => .inr e
    | .inl (h, j) =>
      match wordF s [10] j with
      | .inr k => .inr (k, 2)
      | .inl k => .inl (w, h, k)

/-- n cells from p on are v. -/
def setRun (xs : List Int) (p : Nat) : Nat → Int → List Int
  | 0, _ => xs
  | n + 1, v => (setRun xs p n v).set (p + n) v
theorem setRun_length (xs : List Int) (p n : Nat) (v : Int) : (setRun xs p n v).length = xs.length := by
  induction n with
  | zero => rfl
  | succ n ih => simp [setRun, ih]

/-- What stands where a tag may: its number or 1, and the tag's place. -/
def dAt (s : ByteArray) (j : Nat) : Bool := inR s j 48 57
def tagN (s : ByteArray) (j : Nat) : Nat := if dAt s j then (num s j).1 else 1
def tagK (s : ByteArray) (j : Nat) : Nat := if dAt s j then (num s j).2 else j
def tagBad (s : ByteArray) (j : Nat) : Bool := dAt s j && (!numSix s j || decide ((num s j).1 < 2))

/-- One tag, at j: on, done, or wrong. -/
abbrev Go1 : Type := (Nat × Nat × Nat × List Int) ⊕ (List Int ⊕ (Nat × Nat))
abbrev Go1.on (i x y : Nat) (xs : List Int) : Go1 := Sum.inl (i, x, y, xs)
abbrev Go1.done (xs : List Int) : Go1 := Sum.inr (Sum.inl xs)
abbrev Go1.bad (a e : Nat) : Go1 := Sum.inr (Sum.inr (a, e))

def tag1 (s : ByteArray) (W H j x y : Nat) (xs : List Int) : Go1 :=
  if tagBad s j then .bad j 2
  else if s.size ≤ tagK s j then .bad (tagK s j) 2
  else if bt s (tagK s j) = 98 ∨ bt s (tagK s j) = 111 then
    if H ≤ y ∨ W < x + tagN s j then .bad j 1
    else .on (tagK s j + 1) (x + tagN s j) y (setRun xs (y * W + x) (tagN s j) (if bt s (tagK s j) = 111 then 1 else 0))
  else if bt s (tagK s j) = 36 then
    if H ≤ y + tagN s j then .bad j 1 else .on (tagK s j + 1) 0 (y + tagN s j) xs
  else if bt s (tagK s j) = 33 then
    if j ≠ tagK s j then .bad (tagK s j) 2
    else if sk s (tagK s j + 1) = s.size then .done xs else .bad (sk s (tagK s j + 1)) 2
  else .bad (tagK s j) 2

def tagsF (s : ByteArray) (W H : Nat) : Nat → Nat → Nat → Nat → List Int → List Int ⊕ (Nat × Nat)
  | 0, _, _, _, _ => .inr (0, 0)
  | f + 1, i, x, y, xs =>
    match tag1 s W H (sk s i) x y xs with
    | .inl (i', x', y', xs') => tagsF s W H f i' x' y' xs'
    | .inr (.inl xs') => .inl xs'
    | .inr (.inr (a, e)) => .inr (a, e)

/-- A pattern, or where it is wrong and how. -/
def runsS (s : ByteArray) : (Nat × Nat × List Int) ⊕ (Nat × Nat) :=
  if 40000 < s.size then .inr (0, 4)
  else match headS s with
    | .inr e => .inr e
    | .inl (w, h, i) =>
      match tagsF s w h (s.size + 1 - i) i 0 0 (List.replicate (w * h) 0) with
      | .inl xs => .inl (w, h, xs)
      | .inr e => .inr e

theorem numF_ge (s : ByteArray) : ∀ f i v, i ≤ (numF s f i v).2 := by
  intro f
  induction f with
  | zero => intro i v; simp [numF]
  | succ f ih =>
    intro i v
    simp only [numF]
    split
    · have := ih (i + 1) (v * 10 + (bt s i - 48)); omega
    · simp
theorem num_ge (s : ByteArray) (i : Nat) : i ≤ (num s i).2 := numF_ge s _ i 0
theorem num_gt {s : ByteArray} {i : Nat} (h : inR s i 48 57 = true) : i < (num s i).2 := by
  unfold num
  rw [numF_step h]
  exact numF_ge s _ (i + 1) _
theorem numF_bound (s : ByteArray) : ∀ f i v n, v < 10 ^ n → (numF s f i v).1 < 10 ^ (n + ((numF s f i v).2 - i)) := by
  intro f
  induction f with
  | zero => intro i v n h; simpa [numF] using h
  | succ f ih =>
    intro i v n h
    simp only [numF]
    split
    · rename_i hin
      have hb := inR_true.1 hin
      have h1 := ih (i + 1) (v * 10 + (bt s i - 48)) (n + 1) (by rw [Nat.pow_succ]; omega)
      have h2 := numF_ge s f (i + 1) (v * 10 + (bt s i - 48))
      rw [show n + ((numF s f (i + 1) (v * 10 + (bt s i - 48))).2 - i) = n + 1 + ((numF s f (i + 1) (v * 10 + (bt s i - 48))).2 - (i + 1)) by omega]
      exact h1
    · simpa using h
theorem num_bound (s : ByteArray) (i : Nat) (h : (num s i).2 - i ≤ 6) : (num s i).1 < 1000000 := by
  have := numF_bound s (s.size - i) i 0 0 (by simp)
  have h2 : 10 ^ (0 + ((numF s (s.size - i) i 0).2 - i)) ≤ 10 ^ 6 := Nat.pow_le_pow_right (by omega) (by unfold num at h; omega)
  unfold num
  omega
theorem tagK_ge (s : ByteArray) (j : Nat) : j ≤ tagK s j := by
  unfold tagK
  split
  · exact num_ge s j
  · omega
end Go.Proofs.Ytdhbdkkchobinab

