/-
  What the last text of this claim leans on, part 1: Gq1, Spec, Rd, Rb, Rn, Ref1, Rk, Fill, Ref2.
-/
import Derived.Test.YtdbgdfodoceadaaDoorProg
import Derived.Laws.Bits64b
import Derived.Laws.BitsAllLaws
import Derived.WalkKit
import Derived.WalkSpells
import Derived.WalkLawsBesides
import Derived.Deep.QuietTactic
import Derived.BigQuiet
import Derived.Deep.OwnRows
namespace Go.Proofs.YtdbgdfodoceadaaDoor
set_option linter.unusedVariables false

def bitsF (f : Nat → Bool) : Nat → Nat
  | 0 => 0
  | n + 1 => bitsF f n + if f n then 2 ^ n else 0
theorem bitsF_lt (f : Nat → Bool) : ∀ n, bitsF f n < 2 ^ n
  | 0 => by simp [bitsF]
  | n + 1 => by
    have := bitsF_lt f n
    rw [bitsF, Nat.pow_succ]
    split <;> omega
theorem bitsF_test (f : Nat → Bool) : ∀ n i, (bitsF f n).testBit i = (decide (i < n) && f i)
  | 0, i => by simp [bitsF]
  | n + 1, i => by
    have h := bitsF_lt f n
    have ih := bitsF_test f n i
    rw [bitsF]
    by_cases hf : f n = true
    · rw [if_pos hf]
      rw [show bitsF f n + 2 ^ n = 2 ^ n * 1 + bitsF f n by omega, Nat.testBit_two_pow_mul_add _ h]
      by_cases hi : i < n
      · rw [if_pos hi, ih]; simp [hi]; omega
      · rw [if_neg hi]
        by_cases hn : i = n
        · subst hn; simp [hf]
        · have : ¬ i < n + 1 := by omega
          simp [this]
          have : 1 ≤ i - n := by omega
          obtain ⟨k, hk⟩ : ∃ k, i - n = k + 1 := ⟨i - n - 1, by omega⟩
          rw [hk, Nat.testBit_succ]; simp
    · rw [if_neg hf, Nat.add_zero, ih]
      by_cases hn : i = n
      · subst hn; simp [hf]
      · have : (i < n + 1) ↔ (i < n) := by omega
        simp [this]
theorem bitsF_is {f : Nat → Bool} {n a : Nat} (ha : a < 2 ^ n) (h : ∀ i, i < n → a.testBit i = f i) : a = bitsF f n := by
  apply Nat.eq_of_testBit_eq
  intro i
  rw [bitsF_test]
  by_cases hi : i < n
  · rw [h i hi]; simp [hi]
  · rw [Nat.testBit_lt_two_pow (Nat.lt_of_lt_of_le ha (Nat.pow_le_pow_right (by omega) (by omega)))]; simp [hi]
theorem test_comp {b j : Nat} (hb : b < 18446744073709551616) (hj : j < 64) : (18446744073709551615 - b).testBit j = !b.testBit j := by
  have := Nat.testBit_two_pow_sub_succ (x := b) (n := 64) (by simpa using hb) j
  rw [show (2 : Nat) ^ 64 - (b + 1) = 18446744073709551615 - b by omega] at this
  rw [this]; simp [hj]
theorem test_ones {j : Nat} (hj : j < 64) : Nat.testBit 18446744073709551615 j = true := by
  have := test_comp (b := 0) (by decide) hj
  simpa using this
def addS (a b c : Nat) : Nat := a ^^^ b ^^^ c
def addC (a b c : Nat) : Nat := (a &&& b) ||| (c &&& (a ^^^ b))
theorem addS_lt {a b c : Nat} (ha : a < 2 ^ 64) (hb : b < 2 ^ 64) (hc : c < 2 ^ 64) : addS a b c < 2 ^ 64 := Nat.xor_lt_two_pow (Nat.xor_lt_two_pow ha hb) hc
theorem addC_lt {a b c : Nat} (ha : a < 2 ^ 64) (hb : b < 2 ^ 64) (hc : c < 2 ^ 64) : addC a b c < 2 ^ 64 := Nat.or_lt_two_pow (Nat.and_lt_two_pow _ hb) (Nat.and_lt_two_pow _ (Nat.xor_lt_two_pow ha hb))
/-- One digit of a number of neighbours, as it is asked. -/
def digM (t : Bool) (d : Nat) : Nat := if t then d else 18446744073709551615 - d
def dgN (d0 d1 d2 d3 : Nat) : Nat → Nat
  | 0 => d0
  | 1 => d1
  | 2 => d2
  | _ => d3
def thoseN (k d0 d1 d2 d3 : Nat) : Nat → Nat
  | 0 => 18446744073709551615
  | i + 1 => thoseN k d0 d1 d2 d3 i &&& digM (k.testBit i) (dgN d0 d1 d2 d3 i)
theorem thoseN_four (k d0 d1 d2 d3 : Nat) : thoseN k d0 d1 d2 d3 4 = 18446744073709551615 &&& digM (k.testBit 0) d0 &&& digM (k.testBit 1) d1 &&& digM (k.testBit 2) d2 &&& digM (k.testBit 3) d3 := rfl
def maskN (t : Bool) : Nat := if t then 18446744073709551615 else 0
def chosenN (born stay h d0 d1 d2 d3 : Nat) : Nat → Nat
  | 0 => 0
  | k + 1 => chosenN born stay h d0 d1 d2 d3 k ||| (thoseN k d0 d1 d2 d3 4 &&& ((maskN (born.testBit k) &&& (18446744073709551615 - h)) ||| (maskN (stay.testBit k) &&& h)))
theorem chosenN_lt {born stay h d0 d1 d2 d3 : Nat} (hh : h < 2 ^ 64) : ∀ k, chosenN born stay h d0 d1 d2 d3 k < 2 ^ 64
  | 0 => by simp [chosenN]
  | k + 1 => by
    rw [chosenN]
    refine Nat.or_lt_two_pow (chosenN_lt hh k) (Nat.and_lt_two_pow _ (Nat.or_lt_two_pow (Nat.and_lt_two_pow _ (by omega)) (Nat.and_lt_two_pow _ hh)))
theorem digM_test {t : Bool} {d j : Nat} (hd : d < 18446744073709551616) (hj : j < 64) : (digM t d).testBit j = (d.testBit j == t) := by
  unfold digM
  cases t
  · simp [test_comp hd hj]
  · simp
theorem maskN_test {t : Bool} {j : Nat} (hj : j < 64) : (maskN t).testBit j = t := by
  unfold maskN
  cases t
  · simp
  · simp [test_ones hj]
/-- The number that four digits write. -/
def cntD (a b c d : Bool) : Nat := a.toNat + 2 * b.toNat + 4 * c.toNat + 8 * d.toNat
theorem those_test {k d0 d1 d2 d3 j : Nat} (h0 : d0 < 18446744073709551616) (h1 : d1 < 18446744073709551616) (h2 : d2 < 18446744073709551616) (h3 : d3 < 18446744073709551616) (hj : j < 64) (hk : k < 16) :
    (thoseN k d0 d1 d2 d3 4).testBit j = decide (cntD (d0.testBit j) (d1.testBit j) (d2.testBit j) (d3.testBit j) = k) := by
  rw [thoseN_four, Nat.testBit_and, Nat.testBit_and, Nat.testBit_and, Nat.testBit_and, digM_test h0 hj, digM_test h1 hj, digM_test h2 hj, digM_test h3 hj, test_ones hj]
  have key : ∀ a b c d : Bool, ∀ k : Fin 16, ((((true && a == (k : Nat).testBit 0) && b == (k : Nat).testBit 1) && c == (k : Nat).testBit 2) && d == (k : Nat).testBit 3) = decide (cntD a b c d = k) := by decide
  exact key _ _ _ _ ⟨k, hk⟩
theorem chosenN_test {born stay h d0 d1 d2 d3 j : Nat} (h0 : d0 < 18446744073709551616) (h1 : d1 < 18446744073709551616) (h2 : d2 < 18446744073709551616) (h3 : d3 < 18446744073709551616) (hh : h < 18446744073709551616) (hj : j < 64) :
    ∀ k, k ≤ 9 → (chosenN born stay h d0 d1 d2 d3 k).testBit j = (decide (cntD (d0.testBit j) (d1.testBit j) (d2.testBit j) (d3.testBit j) < k) && (if h.testBit j then stay.testBit (cntD (d0.testBit j) (d1.testBit j) (d2.testBit j) (d3.testBit j)) else born.testBit (cntD (d0.testBit j) (d1.testBit j) (d2.testBit j) (d3.testBit j))))
  | 0, _ => by simp [chosenN]
  | k + 1, hk => by
    rw [chosenN, Nat.testBit_or, Nat.testBit_and, Nat.testBit_or, Nat.testBit_and, Nat.testBit_and, those_test h0 h1 h2 h3 hj (by omega), maskN_test hj, maskN_test hj, test_comp hh hj, chosenN_test h0 h1 h2 h3 hh hj k (by omega)]
    generalize cntD (d0.testBit j) (d1.testBit j) (d2.testBit j) (d3.testBit j) = c
    by_cases hc : c = k
    · subst hc
      cases h.testBit j <;> simp
    · have : (c < k + 1) ↔ (c < k) := by omega
      simp [hc, this]
/-- What becomes of a word, all around it being known. -/
def becW (born stay al a ar hl h hr bl b br : Nat) : Nat :=
  chosenN born stay h
    (addS (addS al a ar) (addS bl b br) (addS hl hr 0))
    (addS (addS (addC al a ar) (addC bl b br) (addC hl hr 0)) (addC (addS al a ar) (addS bl b br) (addS hl hr 0)) 0)
    (addS (addC (addC al a ar) (addC bl b br) (addC hl hr 0)) (addC (addS (addC al a ar) (addC bl b br) (addC hl hr 0)) (addC (addS al a ar) (addS bl b br) (addS hl hr 0)) 0) 0)
    (addC (addC (addC al a ar) (addC bl b br) (addC hl hr 0)) (addC (addS (addC al a ar) (addC bl b br) (addC hl hr 0)) (addC (addS al a ar) (addS bl b br) (addS hl hr 0)) 0) 0) 9
theorem addS_test (a b c j : Nat) : (addS a b c).testBit j = (a.testBit j ^^ b.testBit j ^^ c.testBit j) := by simp [addS]
theorem addC_test (a b c j : Nat) : (addC a b c).testBit j = ((a.testBit j && b.testBit j) || (c.testBit j && (a.testBit j ^^ b.testBit j))) := by simp [addC]
theorem adders : ∀ al a ar hl hr bl b br : Bool,
    cntD (((al ^^ a ^^ ar) ^^ (bl ^^ b ^^ br)) ^^ (hl ^^ hr ^^ false))
      ((((al && a || ar && (al ^^ a)) ^^ (bl && b || br && (bl ^^ b))) ^^ (hl && hr || false && (hl ^^ hr))) ^^ ((al ^^ a ^^ ar) && (bl ^^ b ^^ br) || (hl ^^ hr ^^ false) && ((al ^^ a ^^ ar) ^^ (bl ^^ b ^^ br))) ^^ false)
      ((((al && a || ar && (al ^^ a)) && (bl && b || br && (bl ^^ b)) || (hl && hr || false && (hl ^^ hr)) && ((al && a || ar && (al ^^ a)) ^^ (bl && b || br && (bl ^^ b)))) ^^ ((((al && a || ar && (al ^^ a)) ^^ (bl && b || br && (bl ^^ b))) ^^ (hl && hr || false && (hl ^^ hr))) && ((al ^^ a ^^ ar) && (bl ^^ b ^^ br) || (hl ^^ hr ^^ false) && ((al ^^ a ^^ ar) ^^ (bl ^^ b ^^ br))) || false && ((((al && a || ar && (al ^^ a)) ^^ (bl && b || br && (bl ^^ b))) ^^ (hl && hr || false && (hl ^^ hr))) ^^ ((al ^^ a ^^ ar) && (bl ^^ b ^^ br) || (hl ^^ hr ^^ false) && ((al ^^ a ^^ ar) ^^ (bl ^^ b ^^ br)))))) ^^ false)
      ((((al && a || ar && (al ^^ a)) && (bl && b || br && (bl ^^ b)) || (hl && hr || false && (hl ^^ hr)) && ((al && a || ar && (al ^^ a)) ^^ (bl && b || br && (bl ^^ b)))) && ((((al && a || ar && (al ^^ a)) ^^ (bl && b || br && (bl ^^ b))) ^^ (hl && hr || false && (hl ^^ hr))) && ((al ^^ a ^^ ar) && (bl ^^ b ^^ br) || (hl ^^ hr ^^ false) && ((al ^^ a ^^ ar) ^^ (bl ^^ b ^^ br))) || false && ((((al && a || ar && (al ^^ a)) ^^ (bl && b || br && (bl ^^ b))) ^^ (hl && hr || false && (hl ^^ hr))) ^^ ((al ^^ a ^^ ar) && (bl ^^ b ^^ br) || (hl ^^ hr ^^ false) && ((al ^^ a ^^ ar) ^^ (bl ^^ b ^^ br)))))) || false && ((((al && a || ar && (al ^^ a)) && (bl && b || br && (bl ^^ b)) || (hl && hr || false && (hl ^^ hr)) && ((al && a || ar && (al ^^ a)) ^^ (bl && b || br && (bl ^^ b)))) ^^ ((((al && a || ar && (al ^^ a)) ^^ (bl && b || br && (bl ^^ b))) ^^ (hl && hr || false && (hl ^^ hr))) && ((al ^^ a ^^ ar) && (bl ^^ b ^^ br) || (hl ^^ hr ^^ false) && ((al ^^ a ^^ ar) ^^ (bl ^^ b ^^ br))) || false && ((((al && a || ar && (al ^^ a)) ^^ (bl && b || br && (bl ^^ b))) ^^ (hl && hr || false && (hl ^^ hr))) ^^ ((al ^^ a ^^ ar) && (bl ^^ b ^^ br) || (hl ^^ hr ^^ false) && ((al ^^ a ^^ ar) ^^ (bl ^^ b ^^ br))))))))
    = al.toNat + a.toNat + ar.toNat + hl.toNat + hr.toNat + bl.toNat + b.toNat + br.toNat := by
  intro al a ar hl hr bl b br
  cases al <;> cases a <;> cases ar <;> cases hl <;> cases hr <;> cases bl <;> cases b <;> cases br <;> rfl
theorem becW_test {born stay al a ar hl h hr bl b br j : Nat} (h1 : al < 2 ^ 64) (h2 : a < 2 ^ 64) (h3 : ar < 2 ^ 64) (h4 : hl < 2 ^ 64) (h5 : h < 2 ^ 64) (h6 : hr < 2 ^ 64) (h7 : bl < 2 ^ 64) (h8 : b < 2 ^ 64) (h9 : br < 2 ^ 64) (hj : j < 64) (cn : Nat)
    (hc : (al.testBit j).toNat + (a.testBit j).toNat + (ar.testBit j).toNat + (hl.testBit j).toNat + (hr.testBit j).toNat + (bl.testBit j).toNat + (b.testBit j).toNat + (br.testBit j).toNat = cn) :
    (becW born stay al a ar hl h hr bl b br).testBit j = if h.testBit j then stay.testBit cn else born.testBit cn := by
  have z : (0 : Nat) < 2 ^ 64 := by decide
  have o := addS_lt h1 h2 h3
  have u := addC_lt h1 h2 h3
  have m := addS_lt h7 h8 h9
  have l := addC_lt h7 h8 h9
  have s := addS_lt h4 h6 z
  have t := addC_lt h4 h6 z
  have tw := addS_lt u l t
  have fo := addC_lt u l t
  have ct := addC_lt o m s
  have cf := addC_lt tw ct z
  have A := adders (al.testBit j) (a.testBit j) (ar.testBit j) (hl.testBit j) (hr.testBit j) (bl.testBit j) (b.testBit j) (br.testBit j)
  rw [hc] at A
  have cl : cn ≤ 8 := by
    have q : ∀ x : Bool, x.toNat ≤ 1 := by decide
    have := q (al.testBit j); have := q (a.testBit j); have := q (ar.testBit j); have := q (hl.testBit j); have := q (hr.testBit j); have := q (bl.testBit j); have := q (b.testBit j); have := q (br.testBit j)
    omega
  unfold becW
  rw [chosenN_test (addS_lt o m s) (addS_lt tw ct z) (addS_lt fo cf z) (addC_lt fo cf z) h5 hj 9 (Nat.le_refl _)]
  simp only [addS_test, addC_test, Nat.zero_testBit]
  rw [A]
  have : cn < 9 := by omega
  simp [this]
end Go.Proofs.YtdbgdfodoceadaaDoor

namespace Go.Proofs.YtdbgdfodoceadaaDoor

/-- The byte at i, 0 behind the end. -/
def bt (s : ByteArray) (i : Nat) : Nat := if h : i < s.size then s[i].toNat else 0

theorem bt_lt (s : ByteArray) (i : Nat) (h : i < s.size) : s[i].toNat = bt s i := by simp [bt, h]
/-- A rule, as plain data. -/
structure Out where
  kind : Int
  born : Int
  stay : Int
  states : Int
  radius : Int
  table : List Int
  turns : ByteArray

def entries (n m : Nat) : Nat := n ^ (2 * m + 1)

end Go.Proofs.YtdbgdfodoceadaaDoor

namespace Go.Proofs.YtdbgdfodoceadaaDoor
open Go.RowKit

/-- The reader at block b: its text s, its place i. -/
structure At (b : Nat) (s : ByteArray) (i : Nat) (w : World) : Prop where
  txt : w.cell? ⟨b, 0, none⟩ = some (.string s)
  pos : w.cell? ⟨b, 1, none⟩ = some (.int .i64 (i : Int))
  fz0 : w.frozen? ⟨b, 0, none⟩ = false
  fz1 : w.frozen? ⟨b, 1, none⟩ = false

/-- Of what was there, block b alone may have turned. -/
structure Rd (b : Nat) (w w' : World) : Prop where
  os : w'.os = w.os
  tape : w'.tape = w.tape
  output : w'.output = w.output
  size : w.heap.size ≤ w'.heap.size
  block : ∀ k, k < w.heap.size → k ≠ b → w'.heap[k]? = w.heap[k]?

theorem Rd.refl (b : Nat) (w : World) : Rd b w w := ⟨rfl, rfl, rfl, Nat.le_refl _, fun _ _ _ => rfl⟩
theorem Rd.trans {b : Nat} {a c d : World} (h : Rd b a c) (k : Rd b c d) : Rd b a d :=
  ⟨k.os.trans h.os, k.tape.trans h.tape, k.output.trans h.output, Nat.le_trans h.size k.size, fun i hi hb => (k.block i (Nat.lt_of_lt_of_le hi h.size) hb).trans (h.block i hi hb)⟩
theorem Rd.drewN {b : Nat} {a w : World} (h : Rd b a w) (n : Nat) : Rd b a (w.drewN n) := h.trans ⟨rfl, rfl, rfl, Nat.le_refl _, fun _ _ _ => rfl⟩
theorem Rd.drew {b : Nat} {a w : World} (h : Rd b a w) : Rd b a w.drew := h.trans ⟨rfl, rfl, rfl, Nat.le_refl _, fun _ _ _ => rfl⟩
theorem Rd.alloc {b : Nat} {a w : World} (h : Rd b a w) (o : Obj) : Rd b a (w.alloc o) :=
  h.trans ⟨rfl, rfl, rfl, by simp, fun k hk _ => Below.heap_alloc _ _ _ hk⟩
/-- A store into the reader. -/
theorem Rd.set {b : Nat} {a w : World} (h : Rd b a w) (o : Nat) (u : Value) : Rd b a (w.setCell ⟨b, o, none⟩ u) :=
  h.trans ⟨rfl, rfl, rfl, by simp [World.setCell], fun k _ hk => Below.heap_setCell _ _ _ _ hk⟩
theorem Rd.below {b B : Nat} {w w' : World} (h : Rd b w w') (hB : B ≤ b) (hs : B ≤ w.heap.size) : Below B w w' :=
  ⟨h.os, h.tape, h.output, h.size, fun k hk => h.block k (by omega) (by omega)⟩
theorem Rd.cell {b : Nat} {w w' : World} (h : Rd b w w') : ∀ k o, k < w.heap.size → k ≠ b → w'.cell? ⟨k, o, none⟩ = w.cell? ⟨k, o, none⟩ :=
  fun k _ hk hb => World.cell?_of_block (w := w) (h.block k hk hb)
theorem Rd.frozen {b : Nat} {w w' : World} (h : Rd b w w') : ∀ k o, k < w.heap.size → k ≠ b → w'.frozen? ⟨k, o, none⟩ = w.frozen? ⟨k, o, none⟩ :=
  fun k _ hk hb => World.frozen?_of_block (w := w) (h.block k hk hb)

theorem At.lt {b : Nat} {s : ByteArray} {i : Nat} {w : World} (h : At b s i w) : b < w.heap.size := by
  rcases Nat.lt_or_ge b w.heap.size with k | k
  · exact k
  · have := h.txt; simp [World.cell?, Array.getElem?_eq_none k] at this
theorem At.drewN {b : Nat} {s : ByteArray} {i : Nat} {w : World} (h : At b s i w) (n : Nat) : At b s i (w.drewN n) := ⟨h.txt, h.pos, h.fz0, h.fz1⟩
theorem At.alloc {b : Nat} {s : ByteArray} {i : Nat} {w : World} (h : At b s i w) (o : Obj) : At b s i (w.alloc o) := by
  have hl := h.lt
  have e : (w.alloc o).heap[b]? = w.heap[b]? := Below.heap_alloc _ _ _ hl
  exact ⟨(World.cell?_of_block (w := w) (a := ⟨b, 0, none⟩) e).trans h.txt, (World.cell?_of_block (w := w) (a := ⟨b, 1, none⟩) e).trans h.pos,
    (World.frozen?_of_block (w := w) (a := ⟨b, 0, none⟩) e).trans h.fz0, (World.frozen?_of_block (w := w) (a := ⟨b, 1, none⟩) e).trans h.fz1⟩
end Go.Proofs.YtdbgdfodoceadaaDoor

namespace Go.Proofs.YtdbgdfodoceadaaDoor
open Go.RowKit

end Go.Proofs.YtdbgdfodoceadaaDoor

namespace Go.Proofs.YtdbgdfodoceadaaDoor
open Go.RowKit

/-- The number as it is kept: right up to most, and above it whatever is above. -/
structure Cap (most v k : Nat) : Prop where
  eq : v ≤ most → k = v
  gt : most < v → most < k
  le : k ≤ 10 * most + 9

theorem Cap.below {most v k d : Nat} (h : Cap most v k) (hd : d ≤ 9) (hk : k ≤ most) : Cap most (v * 10 + d) (10 * k + d) := by
  have h1 := h.eq
  have h2 := h.gt
  refine ⟨?_, ?_, by omega⟩ <;> omega
theorem Cap.above {most v k d : Nat} (h : Cap most v k) (hk : most < k) : Cap most (v * 10 + d) k := by
  have h1 := h.eq
  have h2 := h.gt
  have h3 := h.le
  refine ⟨?_, ?_, by omega⟩ <;> omega

end Go.Proofs.YtdbgdfodoceadaaDoor

namespace Go.Proofs.YtdbgdfodoceadaaDoor
open Go.RowKit
set_option linter.unusedVariables false

theorem hide' {p : Prop} (h : p) : Hid p := h

end Go.Proofs.YtdbgdfodoceadaaDoor

namespace Go.Proofs.YtdbgdfodoceadaaDoor
open Go.RowKit

/-- A table in memory: a slice that reads as the numbers. -/
def Tab (w : World) (v : Value) (xs : List Int) : Prop :=
  (xs = [] ∧ v = .slice none 0 0) ∨ ∃ g cap, v = .slice (some ⟨g, 0, none⟩) xs.length cap ∧ g < w.heap.size ∧ ∀ k (h : k < xs.length), w.cell? ⟨g, k, none⟩ = some (.int .i64 xs[k])

/-- A slice whose block was made since. -/
def Fresh (w : World) (v : Value) : Prop := ∀ g k c, v = .slice (some ⟨g, 0, none⟩) k c → w.heap.size ≤ g
theorem Fresh.nil (w : World) : Fresh w (.slice none 0 0) := fun _ _ _ h => by injection h with h1; cases h1
/-- A rule as a value, its table at v. -/
def Out.val (o : Out) (v : Value) : Value := .agg #[.int .i64 o.kind, .int .i64 o.born, .int .i64 o.stay, .int .i64 o.states, .int .i64 o.radius, v, .string o.turns]

/-- The cells of a new rule. -/
def zeroCells : Array Value := #[.int .i64 0, .int .i64 0, .int .i64 0, .int .i64 0, .int .i64 0, .slice none 0 0, .string ⟨#[]⟩]

/-- A block that the call made ahead still lies there. -/
theorem Rd.made {b : Nat} {w w' : World} {C : Array Value} {t : TypeId} (h : Rd b (w.alloc (.cells C t)) w') (hb : b < w.heap.size) :
    (∀ j, w'.cell? ⟨w.heap.size, j, none⟩ = C[j]?) ∧ (∀ j, w'.frozen? ⟨w.heap.size, j, none⟩ = false) := by
  refine ⟨fun j => ?_, fun j => ?_⟩
  · rw [h.cell w.heap.size j (by simp) (by omega)]; simp
  · rw [h.frozen w.heap.size j (by simp) (by omega)]; simp

end Go.Proofs.YtdbgdfodoceadaaDoor

namespace Go.Proofs.YtdbgdfodoceadaaDoor
open Go.RowKit

theorem hide {p : Prop} (h : p) : Hid p := h
theorem unhide {p : Prop} (h : Hid p) : p := h

/-- At block g a list of n numbers, the first k of which are f's. -/
structure Fill (g n k : Nat) (f : Nat → Int) (w : World) : Prop where
  lt : g < w.heap.size
  cells : ∀ j, j < n → ∃ v, w.cell? ⟨g, j, none⟩ = some v ∧ (j < k → v = .int .i64 (f j))
  fz : ∀ j, w.frozen? ⟨g, j, none⟩ = false

theorem Fill.start (w : World) (n : Nat) (f : Nat → Int) (z : Value) (t : TypeId) : Fill w.heap.size n 0 f (w.alloc (.cells (madeCells #[z] n) t)) := by
  refine ⟨by simp, fun j hj => ⟨(madeCells #[z] n)[j]'(by rw [size_madeCells]; exact hj), ?_, by omega⟩, fun j => by simp⟩
  rw [World.cell?_alloc_at _ _ _ _ rfl]
  exact Array.getElem?_eq_getElem (by rw [size_madeCells]; exact hj)
theorem Fill.step {g n k : Nat} {f : Nat → Int} {w : World} (h : Fill g n k f w) (hk : k < n) : Fill g n (k + 1) f (w.setCell ⟨g, k, none⟩ (.int .i64 (f k))) := by
  refine ⟨by rw [World.size_setCell]; exact h.lt, fun j hj => ?_, fun j => by rw [World.frozen?_setCell]; exact h.fz j⟩
  by_cases e : j = k
  · subst e
    obtain ⟨v, hv, -⟩ := h.cells j hj
    exact ⟨_, World.cell?_setCell_same (w := w) (a := ⟨g, j, none⟩) (v := _) (h := hv), fun _ => rfl⟩
  · obtain ⟨v, hv, hv'⟩ := h.cells j hj
    refine ⟨v, ?_, fun _ => hv' (by omega)⟩
    exact (World.cell?_setCell_other (w := w) (a := ⟨g, k, none⟩) (b := ⟨g, j, none⟩) (v := _) (h := fun q => e (congrArg Addr.off q).symm)).trans hv
theorem Fill.rd {b g n k : Nat} {f : Nat → Int} {w w' : World} (h : Fill g n k f w) (r : Rd b w w') (hb : g ≠ b) : Fill g n k f w' := by
  refine ⟨Nat.lt_of_lt_of_le h.lt r.size, fun j hj => ?_, fun j => ?_⟩
  · obtain ⟨v, hv, hv'⟩ := h.cells j hj
    exact ⟨v, by rw [r.cell g j h.lt hb]; exact hv, hv'⟩
  · rw [r.frozen g j h.lt hb]; exact h.fz j
theorem Fill.other {g n k : Nat} {f : Nat → Int} {w : World} (h : Fill g n k f w) {p : Addr} (hp : g ≠ p.block) (u : Value) : Fill g n k f (w.setCell p u) := by
  have e : (w.setCell p u).heap[g]? = w.heap[g]? := Below.heap_setCell _ _ _ _ hp
  refine ⟨by rw [World.size_setCell]; exact h.lt, fun j hj => ?_, fun j => ?_⟩
  · obtain ⟨v, hv, hv'⟩ := h.cells j hj
    exact ⟨v, (World.cell?_of_block (w := w) (a := ⟨g, j, none⟩) e).trans hv, hv'⟩
  · exact (World.frozen?_of_block (w := w) (a := ⟨g, j, none⟩) e).trans (h.fz j)
theorem Fill.tab {g n cap : Nat} {f : Nat → Int} {w : World} (h : Fill g n n f w) : Tab w (.slice (some ⟨g, 0, none⟩) n cap) ((List.range n).map f) := by
  refine Or.inr ⟨g, cap, by simp, h.lt, fun k hk => ?_⟩
  simp at hk
  obtain ⟨v, hv, hv'⟩ := h.cells k hk
  rw [hv, hv' hk]; simp
theorem Tab.other {w : World} {v : Value} {xs : List Int} (h : Tab w v xs) {p : Addr} (u : Value) (hp : ∀ g c, v = .slice (some ⟨g, 0, none⟩) xs.length c → g ≠ p.block) : Tab (w.setCell p u) v xs := by
  rcases h with h | ⟨g, cap, hv, hg, hc⟩
  · exact Or.inl h
  · have e : (w.setCell p u).heap[g]? = w.heap[g]? := Below.heap_setCell _ _ _ _ (hp g cap hv)
    exact Or.inr ⟨g, cap, hv, by rw [World.size_setCell]; exact hg, fun k hk => (World.cell?_of_block (w := w) (a := ⟨g, k, none⟩) e).trans (hc k hk)⟩

/-- How many windows: the product stops above 4096. -/
def entF (n : Nat) : Nat → Nat → Nat
  | 0, e => e
  | f + 1, e => if e ≤ 4096 then entF n f (e * (n * n)) else e
def entOf (n m : Nat) : Nat := entF n m n

theorem entF_stop {n e : Nat} (h : ¬ e ≤ 4096) : ∀ f, entF n f e = e
  | 0 => rfl
  | f + 1 => by simp [entF, h]

end Go.Proofs.YtdbgdfodoceadaaDoor

namespace Go.Proofs.YtdbgdfodoceadaaDoor
open Go.RowKit
set_option linter.unusedVariables false

theorem Tab.parts {w : World} {v : Value} {xs : List Int} (h : Tab w v xs) :
    ∃ a c, v = .slice a xs.length c ∧ ∀ k (h : k < xs.length), ∃ g, a = some ⟨g, 0, none⟩ ∧ w.cell? ⟨g, k, none⟩ = some (.int .i64 xs[k]) := by
  rcases h with ⟨rfl, rfl⟩ | ⟨g, cap, rfl, hg, hc⟩
  · exact ⟨none, 0, rfl, fun k h => absurd h (by simp)⟩
  · exact ⟨_, cap, rfl, fun k h => ⟨g, rfl, hc k h⟩⟩

end Go.Proofs.YtdbgdfodoceadaaDoor

