/-
  What the last text of this claim leans on, part 3: Gq1, Rk2, Rk3, Clone, Rk4.
-/
import Derived.Test.YtdbgdfodoceadaaDoorZa1
import Derived.Test.YtdbgdfodoceadaaDoorProg
import Derived.Laws.Bits64b
import Derived.Laws.BitsAllLaws
import Derived.Lib.Strings
import Derived.Lib.Walk
import Derived.Lib.BufferWrite
import Derived.Lib.UnsafeStr
import Derived.Lib.Hide
import Derived.Laws.MakeOwn
import Derived.WalkKit
import Derived.Deep.RegionWith
namespace Go.Proofs.YtdbgdfodoceadaaDoor
set_option linter.unusedVariables false

def bitsF (f : Nat → Bool) : Nat → Nat
  | 0 => 0
  | n + 1 => bitsF f n + if f n then 2 ^ n else 0
theorem bitsF_lt (f : Nat → Bool) : ∀ n, bitsF f n < 2 ^ n
  | 0 => by simp [bitsF]
  | n + 1 => by
    have := bitsF_lt f n
    rw [bitsF, Nat.pow_succ]
    split <;> omega
theorem bitsF_test (f : Nat → Bool) : ∀ n i, (bitsF f n).testBit i = (decide (i < n) && f i)
  | 0, i => by simp [bitsF]
  | n + 1, i => by
    have h := bitsF_lt f n
    have ih := bitsF_test f n i
    rw [bitsF]
    by_cases hf : f n = true
    · rw [if_pos hf]
      rw [show bitsF f n + 2 ^ n = 2 ^ n * 1 + bitsF f n by omega, Nat.testBit_two_pow_mul_add _ h]
      by_cases hi : i < n
      · rw [if_pos hi, ih]; simp [hi]; omega
      · rw [if_neg hi]
        by_cases hn : i = n
        · subst hn; simp [hf]
        · have : ¬ i < n + 1 := by omega
          simp [this]
          have : 1 ≤ i - n := by omega
          obtain ⟨k, hk⟩ : ∃ k, i - n = k + 1 := ⟨i - n - 1, by omega⟩
          rw [hk, Nat.testBit_succ]; simp
    · rw [if_neg hf, Nat.add_zero, ih]
      by_cases hn : i = n
      · subst hn; simp [hf]
      · have : (i < n + 1) ↔ (i < n) := by omega
        simp [this]
theorem bitsF_is {f : Nat → Bool} {n a : Nat} (ha : a < 2 ^ n) (h : ∀ i, i < n → a.testBit i = f i) : a = bitsF f n := by
  apply Nat.eq_of_testBit_eq
  intro i
  rw [bitsF_test]
  by_cases hi : i < n
  · rw [h i hi]; simp [hi]
  · rw [Nat.testBit_lt_two_pow (Nat.lt_of_lt_of_le ha (Nat.pow_le_pow_right (by omega) (by omega)))]; simp [hi]
theorem test_comp {b j : Nat} (hb : b < 18446744073709551616) (hj : j < 64) : (18446744073709551615 - b).testBit j = !b.testBit j := by
  have := Nat.testBit_two_pow_sub_succ (x := b) (n := 64) (by simpa using hb) j
  rw [show (2 : Nat) ^ 64 - (b + 1) = 18446744073709551615 - b by omega] at this
  rw [this]; simp [hj]
theorem test_ones {j : Nat} (hj : j < 64) : Nat.testBit 18446744073709551615 j = true := by
  have := test_comp (b := 0) (by decide) hj
  simpa using this
def addS (a b c : Nat) : Nat := a ^^^ b ^^^ c
def addC (a b c : Nat) : Nat := (a &&& b) ||| (c &&& (a ^^^ b))
theorem addS_lt {a b c : Nat} (ha : a < 2 ^ 64) (hb : b < 2 ^ 64) (hc : c < 2 ^ 64) : addS a b c < 2 ^ 64 := Nat.xor_lt_two_pow (Nat.xor_lt_two_pow ha hb) hc
theorem addC_lt {a b c : Nat} (ha : a < 2 ^ 64) (hb : b < 2 ^ 64) (hc : c < 2 ^ 64) : addC a b c < 2 ^ 64 := Nat.or_lt_two_pow (Nat.and_lt_two_pow _ hb) (Nat.and_lt_two_pow _ (Nat.xor_lt_two_pow ha hb))
/-- One digit of a number of neighbours, as it is asked. -/
def digM (t : Bool) (d : Nat) : Nat := if t then d else 18446744073709551615 - d
def dgN (d0 d1 d2 d3 : Nat) : Nat → Nat
  | 0 => d0
  | 1 => d1
  | 2 => d2
  | _ => d3
def thoseN (k d0 d1 d2 d3 : Nat) : Nat → Nat
  | 0 => 18446744073709551615
  | i + 1 => thoseN k d0 d1 d2 d3 i &&& digM (k.testBit i) (dgN d0 d1 d2 d3 i)
theorem thoseN_four (k d0 d1 d2 d3 : Nat) : thoseN k d0 d1 d2 d3 4 = 18446744073709551615 &&& digM (k.testBit 0) d0 &&& digM (k.testBit 1) d1 &&& digM (k.testBit 2) d2 &&& digM (k.testBit 3) d3 := rfl
def maskN (t : Bool) : Nat := if t then 18446744073709551615 else 0
def chosenN (born stay h d0 d1 d2 d3 : Nat) : Nat → Nat
  | 0 => 0
  | k + 1 => chosenN born stay h d0 d1 d2 d3 k ||| (thoseN k d0 d1 d2 d3 4 &&& ((maskN (born.testBit k) &&& (18446744073709551615 - h)) ||| (maskN (stay.testBit k) &&& h)))
theorem chosenN_lt {born stay h d0 d1 d2 d3 : Nat} (hh : h < 2 ^ 64) : ∀ k, chosenN born stay h d0 d1 d2 d3 k < 2 ^ 64
  | 0 => by simp [chosenN]
  | k + 1 => by
    rw [chosenN]
    refine Nat.or_lt_two_pow (chosenN_lt hh k) (Nat.and_lt_two_pow _ (Nat.or_lt_two_pow (Nat.and_lt_two_pow _ (by omega)) (Nat.and_lt_two_pow _ hh)))
theorem digM_test {t : Bool} {d j : Nat} (hd : d < 18446744073709551616) (hj : j < 64) : (digM t d).testBit j = (d.testBit j == t) := by
  unfold digM
  cases t
  · simp [test_comp hd hj]
  · simp
theorem maskN_test {t : Bool} {j : Nat} (hj : j < 64) : (maskN t).testBit j = t := by
  unfold maskN
  cases t
  · simp
  · simp [test_ones hj]
/-- The number that four digits write. -/
def cntD (a b c d : Bool) : Nat := a.toNat + 2 * b.toNat + 4 * c.toNat + 8 * d.toNat
theorem those_test {k d0 d1 d2 d3 j : Nat} (h0 : d0 < 18446744073709551616) (h1 : d1 < 18446744073709551616) (h2 : d2 < 18446744073709551616) (h3 : d3 < 18446744073709551616) (hj : j < 64) (hk : k < 16) :
    (thoseN k d0 d1 d2 d3 4).testBit j = decide (cntD (d0.testBit j) (d1.testBit j) (d2.testBit j) (d3.testBit j) = k) := by
  rw [thoseN_four, Nat.testBit_and, Nat.testBit_and, Nat.testBit_and, Nat.testBit_and, digM_test h0 hj, digM_test h1 hj, digM_test h2 hj, digM_test h3 hj, test_ones hj]
  have key : ∀ a b c d : Bool, ∀ k : Fin 16, ((((true && a == (k : Nat).testBit 0) && b == (k : Nat).testBit 1) && c == (k : Nat).testBit 2) && d == (k : Nat).testBit 3) = decide (cntD a b c d = k) := by decide
  exact key _ _ _ _ ⟨k, hk⟩
theorem chosenN_test {born stay h d0 d1 d2 d3 j : Nat} (h0 : d0 < 18446744073709551616) (h1 : d1 < 18446744073709551616) (h2 : d2 < 18446744073709551616) (h3 : d3 < 18446744073709551616) (hh : h < 18446744073709551616) (hj : j < 64) :
    ∀ k, k ≤ 9 → (chosenN born stay h d0 d1 d2 d3 k).testBit j = (decide (cntD (d0.testBit j) (d1.testBit j) (d2.testBit j) (d3.testBit j) < k) && (if h.testBit j then stay.testBit (cntD (d0.testBit j) (d1.testBit j) (d2.testBit j) (d3.testBit j)) else born.testBit (cntD (d0.testBit j) (d1.testBit j) (d2.testBit j) (d3.testBit j))))
  | 0, _ => by simp [chosenN]
  | k + 1, hk => by
    rw [chosenN, Nat.testBit_or, Nat.testBit_and, Nat.testBit_or, Nat.testBit_and, Nat.testBit_and, those_test h0 h1 h2 h3 hj (by omega), maskN_test hj, maskN_test hj, test_comp hh hj, chosenN_test h0 h1 h2 h3 hh hj k (by omega)]
    generalize cntD (d0.testBit j) (d1.testBit j) (d2.testBit j) (d3.testBit j) = c
    by_cases hc : c = k
    · subst hc
      cases h.testBit j <;> simp
    · have : (c < k + 1) ↔ (c < k) := by omega
      simp [hc, this]
/-- What becomes of a word, all around it being known. -/
def becW (born stay al a ar hl h hr bl b br : Nat) : Nat :=
  chosenN born stay h
    (addS (addS al a ar) (addS bl b br) (addS hl hr 0))
    (addS (addS (addC al a ar) (addC bl b br) (addC hl hr 0)) (addC (addS al a ar) (addS bl b br) (addS hl hr 0)) 0)
    (addS (addC (addC al a ar) (addC bl b br) (addC hl hr 0)) (addC (addS (addC al a ar) (addC bl b br) (addC hl hr 0)) (addC (addS al a ar) (addS bl b br) (addS hl hr 0)) 0) 0)
    (addC (addC (addC al a ar) (addC bl b br) (addC hl hr 0)) (addC (addS (addC al a ar) (addC bl b br) (addC hl hr 0)) (addC (addS al a ar) (addS bl b br) (addS hl hr 0)) 0) 0) 9
theorem addS_test (a b c j : Nat) : (addS a b c).testBit j = (a.testBit j ^^ b.testBit j ^^ c.testBit j) := by simp [addS]
theorem addC_test (a b c j : Nat) : (addC a b c).testBit j = ((a.testBit j && b.testBit j) || (c.testBit j && (a.testBit j ^^ b.testBit j))) := by simp [addC]
theorem adders : ∀ al a ar hl hr bl b br : Bool,
    cntD (((al ^^ a ^^ ar) ^^ (bl ^^ b ^^ br)) ^^ (hl ^^ hr ^^ false))
      ((((al && a || ar && (al ^^ a)) ^^ (bl && b || br && (bl ^^ b))) ^^ (hl && hr || false && (hl ^^ hr))) ^^ ((al ^^ a ^^ ar) && (bl ^^ b ^^ br) || (hl ^^ hr ^^ false) && ((al ^^ a ^^ ar) ^^ (bl ^^ b ^^ br))) ^^ false)
      ((((al && a || ar && (al ^^ a)) && (bl && b || br && (bl ^^ b)) || (hl && hr || false && (hl ^^ hr)) && ((al && a || ar && (al ^^ a)) ^^ (bl && b || br && (bl ^^ b)))) ^^ ((((al && a || ar && (al ^^ a)) ^^ (bl && b || br && (bl ^^ b))) ^^ (hl && hr || false && (hl ^^ hr))) && ((al ^^ a ^^ ar) && (bl ^^ b ^^ br) || (hl ^^ hr ^^ false) && ((al ^^ a ^^ ar) ^^ (bl ^^ b ^^ br))) || false && ((((al && a || ar && (al ^^ a)) ^^ (bl && b || br && (bl ^^ b))) ^^ (hl && hr || false && (hl ^^ hr))) ^^ ((al ^^ a ^^ ar) && (bl ^^ b ^^ br) || (hl ^^ hr ^^ false) && ((al ^^ a ^^ ar) ^^ (bl ^^ b ^^ br)))))) ^^ false)
      ((((al && a || ar && (al ^^ a)) && (bl && b || br && (bl ^^ b)) || (hl && hr || false && (hl ^^ hr)) && ((al && a || ar && (al ^^ a)) ^^ (bl && b || br && (bl ^^ b)))) && ((((al && a || ar && (al ^^ a)) ^^ (bl && b || br && (bl ^^ b))) ^^ (hl && hr || false && (hl ^^ hr))) && ((al ^^ a ^^ ar) && (bl ^^ b ^^ br) || (hl ^^ hr ^^ false) && ((al ^^ a ^^ ar) ^^ (bl ^^ b ^^ br))) || false && ((((al && a || ar && (al ^^ a)) ^^ (bl && b || br && (bl ^^ b))) ^^ (hl && hr || false && (hl ^^ hr))) ^^ ((al ^^ a ^^ ar) && (bl ^^ b ^^ br) || (hl ^^ hr ^^ false) && ((al ^^ a ^^ ar) ^^ (bl ^^ b ^^ br)))))) || false && ((((al && a || ar && (al ^^ a)) && (bl && b || br && (bl ^^ b)) || (hl && hr || false && (hl ^^ hr)) && ((al && a || ar && (al ^^ a)) ^^ (bl && b || br && (bl ^^ b)))) ^^ ((((al && a || ar && (al ^^ a)) ^^ (bl && b || br && (bl ^^ b))) ^^ (hl && hr || false && (hl ^^ hr))) && ((al ^^ a ^^ ar) && (bl ^^ b ^^ br) || (hl ^^ hr ^^ false) && ((al ^^ a ^^ ar) ^^ (bl ^^ b ^^ br))) || false && ((((al && a || ar && (al ^^ a)) ^^ (bl && b || br && (bl ^^ b))) ^^ (hl && hr || false && (hl ^^ hr))) ^^ ((al ^^ a ^^ ar) && (bl ^^ b ^^ br) || (hl ^^ hr ^^ false) && ((al ^^ a ^^ ar) ^^ (bl ^^ b ^^ br))))))))
    = al.toNat + a.toNat + ar.toNat + hl.toNat + hr.toNat + bl.toNat + b.toNat + br.toNat := by
  intro al a ar hl hr bl b br
  cases al <;> cases a <;> cases ar <;> cases hl <;> cases hr <;> cases bl <;> cases b <;> cases br <;> rfl
theorem becW_test {born stay al a ar hl h hr bl b br j : Nat} (h1 : al < 2 ^ 64) (h2 : a < 2 ^ 64) (h3 : ar < 2 ^ 64) (h4 : hl < 2 ^ 64) (h5 : h < 2 ^ 64) (h6 : hr < 2 ^ 64) (h7 : bl < 2 ^ 64) (h8 : b < 2 ^ 64) (h9 : br < 2 ^ 64) (hj : j < 64) (cn : Nat)
    (hc : (al.testBit j).toNat + (a.testBit j).toNat + (ar.testBit j).toNat + (hl.testBit j).toNat + (hr.testBit j).toNat + (bl.testBit j).toNat + (b.testBit j).toNat + (br.testBit j).toNat = cn) :
    (becW born stay al a ar hl h hr bl b br).testBit j = if h.testBit j then stay.testBit cn else born.testBit cn := by
  have z : (0 : Nat) < 2 ^ 64 := by decide
  have o := addS_lt h1 h2 h3
  have u := addC_lt h1 h2 h3
  have m := addS_lt h7 h8 h9
  have l := addC_lt h7 h8 h9
  have s := addS_lt h4 h6 z
  have t := addC_lt h4 h6 z
  have tw := addS_lt u l t
  have fo := addC_lt u l t
  have ct := addC_lt o m s
  have cf := addC_lt tw ct z
  have A := adders (al.testBit j) (a.testBit j) (ar.testBit j) (hl.testBit j) (hr.testBit j) (bl.testBit j) (b.testBit j) (br.testBit j)
  rw [hc] at A
  have cl : cn ≤ 8 := by
    have q : ∀ x : Bool, x.toNat ≤ 1 := by decide
    have := q (al.testBit j); have := q (a.testBit j); have := q (ar.testBit j); have := q (hl.testBit j); have := q (hr.testBit j); have := q (bl.testBit j); have := q (b.testBit j); have := q (br.testBit j)
    omega
  unfold becW
  rw [chosenN_test (addS_lt o m s) (addS_lt tw ct z) (addS_lt fo cf z) (addC_lt fo cf z) h5 hj 9 (Nat.le_refl _)]
  simp only [addS_test, addC_test, Nat.zero_testBit]
  rw [A]
  have : cn < 9 := by omega
  simp [this]
end Go.Proofs.YtdbgdfodoceadaaDoor

namespace Go.Proofs.YtdbgdfodoceadaaDoor
open Go.RowKit

theorem i64_and_nat (a b : Nat) (ha : a < 4294967296) (hb : b < 4294967296) : bits .and .i64 (a : Int) (b : Int) = ((a &&& b : Nat) : Int) := by
  have hx : a &&& b < 2 ^ 32 := Nat.and_lt_two_pow _ (by omega)
  show IntKind.i64.wrap ((BitVec.ofInt 64 (a : Int) &&& BitVec.ofInt 64 (b : Int)).toNat : Int) = _
  rw [BitVec.toNat_and, ofInt_u64 a (by omega), ofInt_u64 b (by omega)]
  simp [IntKind.wrap, IntKind.bits, IntKind.signed]
  omega

end Go.Proofs.YtdbgdfodoceadaaDoor

namespace Go.Proofs.YtdbgdfodoceadaaDoor
open Go.RowKit
set_option linter.unusedVariables false

/-- What a call on the reader comes to: the rule, and how far; or the fault's place, by a panic. -/
def Reads (x : (Out × Nat) ⊕ Nat) (b : Nat) (s : ByteArray) (w : World) (e : Ending) (w' : World) : Prop :=
  match x with
  | .inr a => e = .panicked oops ∧ At b s a w' ∧ Rd b w w'
  | .inl (o, p) => ∃ v, e = .returned (o.val v) ∧ Tab w' v o.table ∧ Fresh w v ∧ At b s p w' ∧ Rd b w w' ∧ p ≤ s.size

theorem Reads.bad {b : Nat} {s : ByteArray} {w w' : World} {a : Nat} (ha : At b s a w') (hr : Rd b w w') : Reads (.inr a) b s w (.panicked oops) w' := ⟨rfl, ha, hr⟩

end Go.Proofs.YtdbgdfodoceadaaDoor

namespace Go.Proofs.YtdbgdfodoceadaaDoor
open Go.RowKit

end Go.Proofs.YtdbgdfodoceadaaDoor

namespace Go.Proofs.YtdbgdfodoceadaaDoor
open Go.RowKit
set_option linter.unusedVariables false

theorem isTurn_any (c : Int) (w : World) :
    Calls Tryd.prog 125 #[.int .u8 c] w fun e w' => e = .returned (.bool (c == 76 || c == 82)) ∧ w' = w := by
  cases h1 : (c == 76)
  · cases h2 : (c == 82)
    · go_enter Tryd.func125, Tryd.ntmps125
      go_wp2
      go_ret
      exact ⟨rfl, rfl⟩
    · go_enter Tryd.func125, Tryd.ntmps125
      go_wp2
      go_ret
      exact ⟨rfl, rfl⟩
  · go_enter Tryd.func125, Tryd.ntmps125
    go_wp2
    go_ret
    exact ⟨rfl, rfl⟩

theorem isTurn_yes (c : Int) (w : World) (h : c = 76 ∨ c = 82) :
    Calls Tryd.prog 125 #[.int .u8 c] w fun e w' => e = .returned (.bool true) ∧ w' = w := by
  refine (isTurn_any c w).mono fun e w' ⟨he, hw⟩ => ⟨?_, hw⟩
  rw [he, show (c == 76 || c == 82) = true by simp; omega]
theorem isTurn_no (c : Int) (w : World) (h : ¬ (c = 76 ∨ c = 82)) :
    Calls Tryd.prog 125 #[.int .u8 c] w fun e w' => e = .returned (.bool false) ∧ w' = w := by
  refine (isTurn_any c w).mono fun e w' ⟨he, hw⟩ => ⟨?_, hw⟩
  rw [he, show (c == 76 || c == 82) = false by simp; omega]

theorem At.below {b : Nat} {s : ByteArray} {i : Nat} {w w' : World} (h : At b s i w) (hb : Below w.heap.size w w') : At b s i w' := by
  have e := hb.block b h.lt
  exact ⟨(World.cell?_of_block (w := w) (a := ⟨b, 0, none⟩) e).trans h.txt, (World.cell?_of_block (w := w) (a := ⟨b, 1, none⟩) e).trans h.pos,
    (World.frozen?_of_block (w := w) (a := ⟨b, 0, none⟩) e).trans h.fz0, (World.frozen?_of_block (w := w) (a := ⟨b, 1, none⟩) e).trans h.fz1⟩
theorem At.drew {b : Nat} {s : ByteArray} {i : Nat} {w : World} (h : At b s i w) : At b s i w.drew := ⟨h.txt, h.pos, h.fz0, h.fz1⟩
end Go.Proofs.YtdbgdfodoceadaaDoor

