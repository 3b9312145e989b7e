/-
  What the last text of this claim leans on, part 2: Rd, Rb, Rn, Ref1, Rk.
-/
import Derived.Test.YtdhbdkkchobinaaProg
import Derived.Test.YtdhbdkkchobinaaJz1
import Derived.WalkKit
import Derived.WalkSpells
import Derived.WalkLawsBesides
import Derived.Deep.QuietTactic
import Derived.BigQuiet
import Derived.Laws.BitsAllLaws
namespace Go.Proofs.Ytdhbdkkchobinaa
open Go.RowKit

/-- The reader at block b: its text s, its place i. -/
structure At (b : Nat) (s : ByteArray) (i : Nat) (w : World) : Prop where
  txt : w.cell? ⟨b, 0, none⟩ = some (.string s)
  pos : w.cell? ⟨b, 1, none⟩ = some (.int .i64 (i : Int))
  fz0 : w.frozen? ⟨b, 0, none⟩ = false
  fz1 : w.frozen? ⟨b, 1, none⟩ = false

/-- Of what was there, block b alone may have turned. -/
structure Rd (b : Nat) (w w' : World) : Prop where
  os : w'.os = w.os
  tape : w'.tape = w.tape
  output : w'.output = w.output
  size : w.heap.size ≤ w'.heap.size
  block : ∀ k, k < w.heap.size → k ≠ b → w'.heap[k]? = w.heap[k]?

theorem Rd.refl (b : Nat) (w : World) : Rd b w w := ⟨rfl, rfl, rfl, Nat.le_refl _, fun _ _ _ => rfl⟩
theorem Rd.trans {b : Nat} {a c d : World} (h : Rd b a c) (k : Rd b c d) : Rd b a d :=
  ⟨k.os.trans h.os, k.tape.trans h.tape, k.output.trans h.output, Nat.le_trans h.size k.size, fun i hi hb => (k.block i (Nat.lt_of_lt_of_le hi h.size) hb).trans (h.block i hi hb)⟩
theorem Rd.drewN {b : Nat} {a w : World} (h : Rd b a w) (n : Nat) : Rd b a (w.drewN n) := h.trans ⟨rfl, rfl, rfl, Nat.le_refl _, fun _ _ _ => rfl⟩
theorem Rd.drew {b : Nat} {a w : World} (h : Rd b a w) : Rd b a w.drew := h.trans ⟨rfl, rfl, rfl, Nat.le_refl _, fun _ _ _ => rfl⟩
theorem Rd.alloc {b : Nat} {a w : World} (h : Rd b a w) (o : Obj) : Rd b a (w.alloc o) :=
  h.trans ⟨rfl, rfl, rfl, by simp, fun k hk _ => Below.heap_alloc _ _ _ hk⟩
/-- A store into the reader. -/
theorem Rd.set {b : Nat} {a w : World} (h : Rd b a w) (o : Nat) (u : Value) : Rd b a (w.setCell ⟨b, o, none⟩ u) :=
  h.trans ⟨rfl, rfl, rfl, by simp [World.setCell], fun k _ hk => Below.heap_setCell _ _ _ _ hk⟩
/-- A store into a new block. -/
theorem Rd.setNew {b : Nat} {a w : World} (h : Rd b a w) {p : Addr} (hp : a.heap.size ≤ p.block) (u : Value) : Rd b a (w.setCell p u) := by
  refine ⟨h.os, h.tape, h.output, ?_, fun k hk hb => ?_⟩
  · have := h.size; simp [World.setCell]; exact this
  · rw [Below.heap_setCell _ _ _ _ (by omega)]; exact h.block k hk hb
theorem Rd.below {b B : Nat} {w w' : World} (h : Rd b w w') (hB : B ≤ b) (hs : B ≤ w.heap.size) : Below B w w' :=
  ⟨h.os, h.tape, h.output, h.size, fun k hk => h.block k (by omega) (by omega)⟩
theorem Rd.cell {b : Nat} {w w' : World} (h : Rd b w w') : ∀ k o, k < w.heap.size → k ≠ b → w'.cell? ⟨k, o, none⟩ = w.cell? ⟨k, o, none⟩ :=
  fun k _ hk hb => World.cell?_of_block (w := w) (h.block k hk hb)
theorem Rd.frozen {b : Nat} {w w' : World} (h : Rd b w w') : ∀ k o, k < w.heap.size → k ≠ b → w'.frozen? ⟨k, o, none⟩ = w.frozen? ⟨k, o, none⟩ :=
  fun k _ hk hb => World.frozen?_of_block (w := w) (h.block k hk hb)

theorem At.lt {b : Nat} {s : ByteArray} {i : Nat} {w : World} (h : At b s i w) : b < w.heap.size := by
  rcases Nat.lt_or_ge b w.heap.size with k | k
  · exact k
  · have := h.txt; simp [World.cell?, Array.getElem?_eq_none k] at this
theorem At.drewN {b : Nat} {s : ByteArray} {i : Nat} {w : World} (h : At b s i w) (n : Nat) : At b s i (w.drewN n) := ⟨h.txt, h.pos, h.fz0, h.fz1⟩
theorem At.alloc {b : Nat} {s : ByteArray} {i : Nat} {w : World} (h : At b s i w) (o : Obj) : At b s i (w.alloc o) := by
  have hl := h.lt
  have e : (w.alloc o).heap[b]? = w.heap[b]? := Below.heap_alloc _ _ _ hl
  exact ⟨(World.cell?_of_block (w := w) (a := ⟨b, 0, none⟩) e).trans h.txt, (World.cell?_of_block (w := w) (a := ⟨b, 1, none⟩) e).trans h.pos,
    (World.frozen?_of_block (w := w) (a := ⟨b, 0, none⟩) e).trans h.fz0, (World.frozen?_of_block (w := w) (a := ⟨b, 1, none⟩) e).trans h.fz1⟩
theorem At.setOther {b : Nat} {s : ByteArray} {i : Nat} {w : World} (h : At b s i w) {p : Addr} (hp : b ≠ p.block) (u : Value) : At b s i (w.setCell p u) := by
  have e : (w.setCell p u).heap[b]? = w.heap[b]? := Below.heap_setCell _ _ _ _ hp
  exact ⟨(World.cell?_of_block (w := w) (a := ⟨b, 0, none⟩) e).trans h.txt, (World.cell?_of_block (w := w) (a := ⟨b, 1, none⟩) e).trans h.pos,
    (World.frozen?_of_block (w := w) (a := ⟨b, 0, none⟩) e).trans h.fz0, (World.frozen?_of_block (w := w) (a := ⟨b, 1, none⟩) e).trans h.fz1⟩
theorem At.go {b : Nat} {s : ByteArray} {i : Nat} {w : World} (h : At b s i w) (j : Nat) : At b s j (w.setCell ⟨b, 1, none⟩ (.int .i64 (j : Int))) := by
  refine ⟨?_, ?_, ?_, ?_⟩
  · exact (World.cell?_setCell_other (w := w) (a := ⟨b, 1, none⟩) (b := ⟨b, 0, none⟩) (v := _) (h := by simp)).trans h.txt
  · exact World.cell?_setCell_same (w := w) (a := ⟨b, 1, none⟩) (v := _) (h := h.pos)
  · rw [World.frozen?_setCell]; exact h.fz0
  · rw [World.frozen?_setCell]; exact h.fz1

def oops : List PanicEntry := [{ v := .iface 23 (.int .i64 2), recovered := false }]

end Go.Proofs.Ytdhbdkkchobinaa

namespace Go.Proofs.Ytdhbdkkchobinaa
open Go.RowKit

theorem i64_or_nat (a b : Nat) (ha : a < 4294967296) (hb : b < 4294967296) : bits .or .i64 (a : Int) (b : Int) = ((a ||| b : Nat) : Int) := by
  have hx : a ||| b < 2 ^ 32 := Nat.or_lt_two_pow (by omega) (by omega)
  show IntKind.i64.wrap ((BitVec.ofInt 64 (a : Int) ||| BitVec.ofInt 64 (b : Int)).toNat : Int) = _
  rw [BitVec.toNat_or, ofInt_u64 a (by omega), ofInt_u64 b (by omega)]
  simp [IntKind.wrap, IntKind.bits, IntKind.signed]
  omega
theorem or_pow (a k : Nat) (hk : k ≤ 8) (ha : a < 2 ^ k) : bits .or .i64 (a : Int) (wrap64 (2 ^ k)) = ((a + 2 ^ k : Nat) : Int) := by
  have hp : 2 ^ k ≤ 2 ^ 8 := Nat.pow_le_pow_right (by omega) hk
  have e : wrap64 (2 ^ k) = ((2 ^ k : Nat) : Int) := by
    rw [show ((2 : Int) ^ k) = ((2 ^ k : Nat) : Int) by simp]
    unfold wrap64; omega
  rw [e, i64_or_nat a (2 ^ k) (by omega) (by omega)]
  have h2 := Nat.two_pow_add_eq_or_of_lt ha 1
  simp only [Nat.mul_one] at h2
  rw [Nat.or_comm, ← h2, Nat.add_comm]

end Go.Proofs.Ytdhbdkkchobinaa

namespace Go.Proofs.Ytdhbdkkchobinaa
open Go.RowKit

def posOf (b : Nat) (w : World) : Nat := match w.cell? ⟨b, 1, none⟩ with | some (.int _ q) => q.toNat | _ => 0
theorem At.posOf {b : Nat} {s : ByteArray} {i : Nat} {w : World} (h : At b s i w) : posOf b w = i := by
  unfold Go.Proofs.Ytdhbdkkchobinaa.posOf; rw [h.pos]; simp

/-- The number as it is kept: right up to most, and above it whatever is above. -/
structure Cap (most v k : Nat) : Prop where
  eq : v ≤ most → k = v
  gt : most < v → most < k
  le : k ≤ 10 * most + 9

theorem Cap.below {most v k d : Nat} (h : Cap most v k) (hd : d ≤ 9) (hk : k ≤ most) : Cap most (v * 10 + d) (10 * k + d) := by
  have h1 := h.eq
  have h2 := h.gt
  refine ⟨?_, ?_, by omega⟩ <;> omega
theorem Cap.above {most v k d : Nat} (h : Cap most v k) (hk : most < k) : Cap most (v * 10 + d) k := by
  have h1 := h.eq
  have h2 := h.gt
  have h3 := h.le
  refine ⟨?_, ?_, by omega⟩ <;> omega

/-- How the number's reading ends, by the places and what was kept. -/
structure NumEnd (s : ByteArray) (b i0 most : Nat) (w wr : World) (k i : Nat) : Prop where
  hat : At b s i wr
  rd : Rd b w wr
  lo : i0 ≤ i
  hi : i ≤ s.size
  fin : (num s i0).2 = i
  cap : Cap most (num s i0).1 k

theorem ok_cases {s : ByteArray} {b i0 least most : Nat} {w wr : World} {k i : Nat} (h : NumEnd s b i0 most w wr k i) (hok : numOk s i0 least most = true) :
    ¬ i = i0 ∧ (¬ 1 < i - i0 ∨ ¬ bt s i0 = 48) ∧ least ≤ k ∧ k ≤ most ∧ k = (num s i0).1 := by
  have h1 := h.fin
  have h2 := h.cap.eq
  simp [numOk, h1] at hok
  obtain ⟨⟨⟨a, b'⟩, c⟩, d⟩ := hok
  have := h2 d
  exact ⟨a, by omega, by omega, by omega, this⟩
theorem no_cases {s : ByteArray} {b i0 least most : Nat} {w wr : World} {k i : Nat} (h : NumEnd s b i0 most w wr k i) (hok : numOk s i0 least most = false) :
    i = i0 ∨ (1 < i - i0 ∧ bt s i0 = 48) ∨ (¬ i = i0 ∧ (¬ 1 < i - i0 ∨ ¬ bt s i0 = 48) ∧ (k < least ∨ (least ≤ k ∧ most < k))) := by
  have h1 := h.fin
  have h2 := h.cap.eq
  have h3 := h.cap.gt
  by_cases c1 : i = i0
  · exact Or.inl c1
  by_cases c2 : 1 < i - i0 ∧ bt s i0 = 48
  · exact Or.inr (Or.inl c2)
  refine Or.inr (Or.inr ⟨c1, by omega, ?_⟩)
  have hn : (num s i0).1 < least ∨ most < (num s i0).1 := by
    rcases Nat.lt_or_ge (num s i0).1 least with q | q
    · exact Or.inl q
    rcases Nat.lt_or_ge most (num s i0).1 with p | p
    · exact Or.inr p
    simp [numOk, h1, c1] at hok
    omega
  rcases hn with q | q
  · by_cases hm : (num s i0).1 ≤ most
    · have := h2 hm; omega
    · have := h3 (by omega); omega
  · have := h3 q; omega

end Go.Proofs.Ytdhbdkkchobinaa

namespace Go.Proofs.Ytdhbdkkchobinaa
open Go.RowKit
set_option linter.unusedVariables false

theorem hide' {p : Prop} (h : p) : Hid p := h

/-- What Number makes of the digits. -/
structure NumRef (s : ByteArray) (i0 : Nat) (N : Int) : Prop where
  ok : ∀ least most : Nat, most < 1000000 → numOk s i0 least most = true → N = ((num s i0).1 : Int) ∧ (least : Int) ≤ N ∧ N ≤ (most : Int)
  no : ∀ least most : Nat, most < 1000000 → numOk s i0 least most = false → N < (least : Int) ∨ (most : Int) < N
  lo : -1 ≤ N
  hi : N ≤ 10000000
  bad : (num s i0).2 = i0 ∨ (1 < (num s i0).2 - i0 ∧ bt s i0 = 48) → N = -1
  good : ¬ ((num s i0).2 = i0 ∨ (1 < (num s i0).2 - i0 ∧ bt s i0 = 48)) → 0 ≤ N

theorem numRef_bad {s : ByteArray} {i0 i : Nat} (hf : (num s i0).2 = i) (hb : i = i0 ∨ (1 < i - i0 ∧ bt s i0 = 48)) : NumRef s i0 (-1) := by
  refine ⟨fun least most hm hok => ?_, fun least most hm hok => by omega, by omega, by omega, fun _ => rfl, fun h => absurd (by rw [hf]; exact hb) h⟩
  simp [numOk, hf] at hok
  omega
theorem numRef_good {s : ByteArray} {i0 i k : Nat} (hf : (num s i0).2 = i) (hb : ¬ (i = i0 ∨ (1 < i - i0 ∧ bt s i0 = 48))) (h1 : (num s i0).1 < 1000000 → k = (num s i0).1) (h2 : 1000000 ≤ (num s i0).1 → 1000000 ≤ k) (h3 : k ≤ 10000000) : NumRef s i0 (k : Int) := by
  refine ⟨fun least most hm hok => ?_, fun least most hm hok => ?_, by omega, by omega, fun h => absurd (by rw [hf] at h; exact h) hb, fun _ => by omega⟩
  · simp [numOk, hf] at hok
    have := h1 (by omega)
    omega
  · by_cases q : (num s i0).1 < 1000000
    · have := h1 q
      by_cases c : (num s i0).1 < least
      · omega
      by_cases d : most < (num s i0).1
      · omega
      simp [numOk, hf] at hok
      omega
    · have := h2 (by omega)
      omega

end Go.Proofs.Ytdhbdkkchobinaa

namespace Go.Proofs.Ytdhbdkkchobinaa
open Go.RowKit

/-- A table in memory: a slice that reads as the numbers. -/
def Tab (w : World) (v : Value) (xs : List Int) : Prop :=
  (xs = [] ∧ v = .slice none 0 0) ∨ ∃ g cap, v = .slice (some ⟨g, 0, none⟩) xs.length cap ∧ g < w.heap.size ∧ ∀ k (h : k < xs.length), w.cell? ⟨g, k, none⟩ = some (.int .i64 xs[k])

/-- A slice whose block was made since. -/
def Fresh (w : World) (v : Value) : Prop := ∀ g k c, v = .slice (some ⟨g, 0, none⟩) k c → w.heap.size ≤ g
theorem Fresh.nil (w : World) : Fresh w (.slice none 0 0) := fun _ _ _ h => by injection h with h1; cases h1
theorem Fresh.mk {w : World} {g k c : Nat} (h : w.heap.size ≤ g) : Fresh w (.slice (some ⟨g, 0, none⟩) k c) := fun g' _ _ q => by
  injection q with q1; injection q1 with q2; injection q2 with q3; omega

/-- A rule as a value, its table at v. -/
def Out.val (o : Out) (v : Value) : Value := .agg #[.int .i64 o.kind, .int .i64 o.born, .int .i64 o.stay, .int .i64 o.states, .int .i64 o.radius, v, .string o.turns]

theorem ris_le (s : ByteArray) (i : Nat) (h : i ≤ s.size) : (ris s i).2 ≤ s.size := by
  have H : ∀ f i low acc, i + f = s.size → (risF s f i low acc).2 ≤ s.size := by
    intro f
    induction f with
    | zero => intro i low acc e; simp [risF]; omega
    | succ f ih =>
      intro i low acc e
      unfold risF
      split
      · exact ih _ _ _ (by omega)
      · simp; omega
  exact H _ _ _ _ (by omega)

/-- The cells of a new rule. -/
def zeroCells : Array Value := #[.int .i64 0, .int .i64 0, .int .i64 0, .int .i64 0, .int .i64 0, .slice none 0 0, .string ⟨#[]⟩]

/-- A block that the call made ahead still lies there. -/
theorem Rd.made {b : Nat} {w w' : World} {C : Array Value} {t : TypeId} (h : Rd b (w.alloc (.cells C t)) w') (hb : b < w.heap.size) :
    (∀ j, w'.cell? ⟨w.heap.size, j, none⟩ = C[j]?) ∧ (∀ j, w'.frozen? ⟨w.heap.size, j, none⟩ = false) := by
  refine ⟨fun j => ?_, fun j => ?_⟩
  · rw [h.cell w.heap.size j (by simp) (by omega)]; simp
  · rw [h.frozen w.heap.size j (by simp) (by omega)]; simp

theorem Rd.un {b : Nat} {w w' : World} {O : Obj} (h : Rd b (w.alloc O) w') : Rd b w w' := (Rd.alloc (Rd.refl b w) O).trans h
theorem set7_at {b : Nat} {s : ByteArray} {i : Nat} {w : World} (h : At b s i w) {g : Nat} {v0 v1 v2 v3 v4 v5 v6 : Value} (hg : b ≠ g) :
    At b s i (((((((w.setCell ⟨g, 0, none⟩ v0).setCell ⟨g, 1, none⟩ v1).setCell ⟨g, 2, none⟩ v2).setCell ⟨g, 3, none⟩ v3).setCell ⟨g, 4, none⟩ v4).setCell ⟨g, 5, none⟩ v5).setCell ⟨g, 6, none⟩ v6) :=
  ((((((h.setOther hg v0).setOther hg v1).setOther hg v2).setOther hg v3).setOther hg v4).setOther hg v5).setOther hg v6
theorem set7_rd {b : Nat} {w w' : World} (h : Rd b w w') {g : Nat} {v0 v1 v2 v3 v4 v5 v6 : Value} (hg : w.heap.size ≤ g) :
    Rd b w (((((((w'.setCell ⟨g, 0, none⟩ v0).setCell ⟨g, 1, none⟩ v1).setCell ⟨g, 2, none⟩ v2).setCell ⟨g, 3, none⟩ v3).setCell ⟨g, 4, none⟩ v4).setCell ⟨g, 5, none⟩ v5).setCell ⟨g, 6, none⟩ v6) :=
  ((((((h.setNew hg v0).setNew hg v1).setNew hg v2).setNew hg v3).setNew hg v4).setNew hg v5).setNew hg v6

end Go.Proofs.Ytdhbdkkchobinaa

