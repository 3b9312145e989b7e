/-
  What the last text of this claim leans on, part 12: Pr7, Pr8, Pr9, Pr10, Pr11, Pr12, Pr13, Pr14.
-/
import Derived.Test.YtdhbdkkchobinaaJz11
import Derived.Test.YtdhbdkkchobinaaJz3
import Derived.WalkSmall
import Derived.Deep.RegionWith
import Derived.Lib.ItoaLen
import Derived.Deep.RegionHeld3
import Derived.Deep.CutRange
namespace Go.Proofs.Ytdhbdkkchobinaa
open Go.RowKit
set_option linter.unusedVariables false

/-- The library's table of powers reads as it is written. -/
def PowT (w : World) : Prop := Lib.TabIs Try.prog w "internal/strconv.uint64pow10" .u64 Lib.pow10Tab
theorem below_grow (w : World) (k : Nat) (os : Array Obj) : Below w.heap.size w (Sort.grow (w.drewN k) os) :=
  ⟨rfl, rfl, rfl, by show w.heap.size ≤ (w.heap ++ os).size; simp, fun i hi => by show (w.heap ++ os)[i]? = w.heap[i]?; rw [Array.getElem?_append_left hi]⟩

end Go.Proofs.Ytdhbdkkchobinaa

namespace Go.Proofs.Ytdhbdkkchobinaa
open Go.RowKit
set_option linter.unusedVariables false

theorem decS_len (x : Int) (h0 : 0 ≤ x) (h1 : x < 100) : (Lib.decDigits x.toNat).length ≤ 21 := by
  obtain ⟨i, rfl⟩ := Int.eq_ofNat_of_zero_le h0
  have := Lib.itoa_length_le (i : Int) (by omega) (by omega)
  rw [Lib.itoa_nonneg] at this
  simpa using this

/-- The rule's copy lies at block b with these fields, and nothing older has turned. -/
def SL (w : World) (o : Out) (v : Value) (w' : World) : Prop :=
  w'.cell? ⟨w.heap.size, 3, none⟩ = some (.int .i64 o.states) ∧ w'.cell? ⟨w.heap.size, 4, none⟩ = some (.int .i64 o.radius) ∧ w'.cell? ⟨w.heap.size, 5, none⟩ = some v ∧ Hid (w.heap.size + 1 ≤ w'.heap.size ∧ Below w.heap.size w w')
theorem SL.next {w w1 w2 : World} {o : Out} {v : Value} (h : SL w o v w1) (hb : Below w1.heap.size w1 w2) : SL w o v w2 := by
  obtain ⟨h1, h2, h3, h4⟩ := h
  obtain ⟨h4, h5⟩ := h4.out
  have e : ∀ k, w2.cell? ⟨w.heap.size, k, none⟩ = w1.cell? ⟨w.heap.size, k, none⟩ := fun k =>
    World.cell?_of_block (w := w1) (a := ⟨w.heap.size, k, none⟩) (hb.block w.heap.size (by omega))
  exact ⟨(e 3).trans h1, (e 4).trans h2, (e 5).trans h3, hide' ⟨Nat.le_trans h4 hb.size, h5.trans (hb.mono (by omega))⟩⟩
theorem SL.start (w : World) (o : Out) (a : Option Addr) (n c : Nat) : SL w o (.slice a n c) ((w.alloc (.cells #[.int .i64 o.kind, .int .i64 o.born, .int .i64 o.stay, .int .i64 o.states, .int .i64 o.radius, .slice a n c, .string o.turns] 28)).drew) := by
  refine ⟨cell_all_new _ _ _ _, cell_all_new _ _ _ _, cell_all_new _ _ _ _, hide' ⟨?_, ((Below.refl _ _).alloc (Nat.le_refl _) _).drew⟩⟩
  simp

end Go.Proofs.Ytdhbdkkchobinaa

namespace Go.Proofs.Ytdhbdkkchobinaa
open Go.RowKit
set_option linter.unusedVariables false

/-- Two fields of the rule's copy, and nothing older has turned. -/
def SB (w : World) (o : Out) (w' : World) : Prop :=
  w'.cell? ⟨w.heap.size, 1, none⟩ = some (.int .i64 o.born) ∧ w'.cell? ⟨w.heap.size, 2, none⟩ = some (.int .i64 o.stay) ∧ Hid (w.heap.size + 1 ≤ w'.heap.size ∧ Below w.heap.size w w')
theorem SB.next {w w1 w2 : World} {o : Out} (h : SB w o w1) (hb : Below w1.heap.size w1 w2) : SB w o w2 := by
  obtain ⟨h1, h2, h4⟩ := h
  obtain ⟨h4, h5⟩ := h4.out
  have e : ∀ k, w2.cell? ⟨w.heap.size, k, none⟩ = w1.cell? ⟨w.heap.size, k, none⟩ := fun k =>
    World.cell?_of_block (w := w1) (a := ⟨w.heap.size, k, none⟩) (hb.block w.heap.size (by omega))
  exact ⟨(e 1).trans h1, (e 2).trans h2, hide' ⟨Nat.le_trans h4 hb.size, h5.trans (hb.mono (by omega))⟩⟩

/-- The text of a rule that has one. -/
def lineB (o : Out) : ByteArray :=
  if (o.states == 2 && o.radius == 1) = true then ⟨#[87]⟩ ++ ⟨(Lib.itoa (tabNum o.table 8 : Int)).toArray⟩
  else ((((⟨#[76, 32]⟩ ++ ⟨(Lib.decDigits o.states.toNat).toArray⟩) ++ ⟨#[32]⟩) ++ ⟨(Lib.decDigits o.radius.toNat).toArray⟩) ++ ⟨#[32]⟩) ++ ⟨((List.range o.table.length).map (stB o.table)).toArray⟩
def lifeB (o : Out) : ByteArray := ((⟨#[66]⟩ ++ ⟨(dl o.born.toNat 9).toArray⟩) ++ ⟨#[47, 83]⟩) ++ ⟨(dl o.stay.toNat 9).toArray⟩

/-- A line rule's conditions, as the walks want them. -/
theorem lineP_parts (o : Out) (h : lineP o) (hr : o.radius ≤ 2) : 0 ≤ o.states ∧ o.states < 100 ∧ 0 ≤ o.radius ∧ o.table.length ≤ 4096 ∧ (∀ k, k < o.table.length → 0 ≤ o.table.getD k 0 ∧ o.table.getD k 0 < o.states) ∧ o.states ≤ 4 ∧ ((o.states == 2 && o.radius == 1) = true → o.table.length = 8) := by
  obtain ⟨h1, h2, h3, h4, h5, h6⟩ := h
  refine ⟨by omega, by omega, h3, by omega, fun k hk => ?_, h2, fun hx => ?_⟩
  · have := h6 k hk
    rw [List.getD_eq_getElem?_getD, List.getElem?_eq_getElem hk]
    exact this
  · simp at hx
    rw [h5, hx.1, hx.2]
    decide

end Go.Proofs.Ytdhbdkkchobinaa

namespace Go.Proofs.Ytdhbdkkchobinaa
open Go.RowKit
set_option linter.unusedVariables false

theorem cat_one (d : UInt8) (l : List UInt8) : (⟨#[d]⟩ ++ ⟨l.toArray⟩ : ByteArray) = ⟨(d :: l).toArray⟩ := by
  apply ByteArray.ext
  simp [ByteArray.data_append]

/-- What is still ahead of the digits that are written, when m is left. -/
def frontD (m : Nat) : List UInt8 := if m < 10 then [] else Lib.decDigits (m / 10)
theorem frontD_start (n : Nat) : Lib.decDigits n = frontD n ++ [UInt8.ofNat (48 + n % 10)] := by
  rw [Lib.decDigits]
  unfold frontD
  by_cases h : n < 10
  · rw [dif_pos h, if_pos h, Nat.mod_eq_of_lt h]; rfl
  · rw [dif_neg h, if_neg h]
theorem frontD_step (m : Nat) (h : 10 ≤ m) (l : List UInt8) : frontD m ++ l = frontD (m / 10) ++ (UInt8.ofNat (48 + m / 10 % 10) :: l) := by
  have e : frontD m = Lib.decDigits (m / 10) := by unfold frontD; rw [if_neg (by omega)]
  rw [e, frontD_start]
  simp

end Go.Proofs.Ytdhbdkkchobinaa

namespace Go.Proofs.Ytdhbdkkchobinaa
open Go.RowKit
set_option linter.unusedVariables false

theorem wrapsum' (t m : Nat) (x : Int) (ht : t ≤ 255) (hm : m ≤ 256) (hx : x = 0 ∨ x = 1) : wrap64 ((t : Int) + wrap64 ((m : Int) * x)) = ((t + x.toNat * m : Nat) : Int) := by
  rcases hx with rfl | rfl
  · simp [wrap64]; omega
  · simp [wrap64]; omega

end Go.Proofs.Ytdhbdkkchobinaa

namespace Go.Proofs.Ytdhbdkkchobinaa
open Go.RowKit
set_option linter.unusedVariables false

theorem stB_bval (o : Out) (k : Nat) (hk : k < o.table.length) (hx : 0 ≤ o.table[k] ∧ o.table[k] < 4) : bval (stB o.table k) = .int .u8 (48 + o.table[k]) := by
  have hget : o.table.getD k 0 = o.table[k] := by simp [List.getD, hk]
  unfold stB
  rw [hget, bval_dig _ (by omega)]
  congr 1
  omega
theorem stB_succ (xs : List Int) (k : Nat) : (List.range (k + 1)).map (stB xs) = (List.range k).map (stB xs) ++ [stB xs k] := by
  rw [List.range_succ, List.map_append]; rfl

end Go.Proofs.Ytdhbdkkchobinaa

namespace Go.Proofs.Ytdhbdkkchobinaa
open Go.RowKit
set_option linter.unusedVariables false

/-- The last c digits of n to the base s, behind acc, the lowest first. -/
def rv (s : Nat) : Nat → Nat → Nat → Nat
  | 0, acc, _ => acc
  | c + 1, acc, n => rv s c (acc * s + n % s) (n / s)
theorem rv_acc (s : Nat) : ∀ c acc n, rv s c acc n = acc * s ^ c + rv s c 0 n
  | 0, acc, n => by simp [rv]
  | c + 1, acc, n => by
    show rv s c (acc * s + n % s) (n / s) = _ + rv s c (0 * s + n % s) (n / s)
    rw [rv_acc s c (acc * s + n % s), rv_acc s c (0 * s + n % s), Nat.pow_succ, Nat.add_mul, Nat.add_mul, Nat.zero_mul, Nat.zero_mul, Nat.zero_add, Nat.mul_assoc, Nat.mul_comm s (s ^ c), Nat.add_assoc]
theorem rv_low (s c n : Nat) : rv s (c + 1) 0 n = n % s * s ^ c + rv s c 0 (n / s) := by
  show rv s c (0 * s + n % s) (n / s) = _
  rw [rv_acc s c (0 * s + n % s), Nat.zero_mul, Nat.zero_add]
theorem rv_lt (s : Nat) (hs : 0 < s) : ∀ c n, rv s c 0 n < s ^ c
  | 0, n => by simp [rv]
  | c + 1, n => by
    rw [rv_low, Nat.pow_succ]
    have h1 := rv_lt s hs c (n / s)
    have h2 : n % s < s := Nat.mod_lt _ hs
    calc n % s * s ^ c + rv s c 0 (n / s) < n % s * s ^ c + s ^ c := by omega
      _ = (n % s + 1) * s ^ c := by rw [Nat.add_mul, Nat.one_mul]
      _ ≤ s * s ^ c := Nat.mul_le_mul_right _ h2
      _ = s ^ c * s := Nat.mul_comm _ _
theorem rv_top (s : Nat) (hs : 0 < s) : ∀ c a b, a < s → b < s ^ c → rv s (c + 1) 0 (a * s ^ c + b) = rv s c 0 b * s + a
  | 0, a, b, ha, hb => by
    have : b = 0 := by simpa using hb
    subst this
    simp [rv, Nat.mod_eq_of_lt ha]
  | c + 1, a, b, ha, hb => by
    have e : a * s ^ (c + 1) + b = b + s * (a * s ^ c) := by rw [Nat.pow_succ, Nat.mul_comm s, Nat.mul_assoc, Nat.add_comm]
    have h1 : (a * s ^ (c + 1) + b) % s = b % s := by rw [e, Nat.add_mul_mod_self_left]
    have h2 : (a * s ^ (c + 1) + b) / s = a * s ^ c + b / s := by rw [e, Nat.add_mul_div_left _ _ hs, Nat.add_comm]
    have h3 : b / s < s ^ c := by rw [Nat.div_lt_iff_lt_mul hs]; rw [Nat.pow_succ] at hb; exact hb
    rw [rv_low, h1, h2, rv_top s hs c a (b / s) ha h3, rv_low s c b, Nat.add_mul, Nat.pow_succ, Nat.mul_assoc, Nat.add_assoc]
theorem rv_rv (s : Nat) (hs : 0 < s) : ∀ c n, n < s ^ c → rv s c 0 (rv s c 0 n) = n
  | 0, n, h => by simp [rv]; simp at h; exact h.symm
  | c + 1, n, h => by
    have h3 : n / s < s ^ c := by rw [Nat.div_lt_iff_lt_mul hs]; rw [Nat.pow_succ] at h; exact h
    rw [rv_low s c n, rv_top s hs c _ _ (Nat.mod_lt _ hs) (rv_lt s hs c _), rv_rv s hs c _ h3]
    exact Nat.div_add_mod' n s
end Go.Proofs.Ytdhbdkkchobinaa

namespace Go.Proofs.Ytdhbdkkchobinaa
open Go.RowKit
set_option linter.unusedVariables false

theorem wrapmul (p q : Nat) (hp : p ≤ 100000) (hq : q ≤ 100000) : wrap64 (wrap64 (p : Int) + (q : Int)) = ((p + q : Nat) : Int) := by
  simp [wrap64]; omega
theorem wrapq (p : Nat) (hp : p ≤ 100000) : wrap64 (p : Int) = (p : Int) := by
  simp [wrap64]; omega

theorem ent_small : ∀ n, n < 5 → ∀ m, m < 11 → entOf n m ≤ 4096 → 2 ≤ n → entOf n m = n ^ (2 * m + 1) := by decide +kernel
theorem ent_is (n m : Nat) (hn : 2 ≤ n) (hn' : n ≤ 4) (h : entOf n m ≤ 4096) : entOf n m = n ^ (2 * m + 1) ∧ m ≤ 10 := by
  by_cases hm : m ≤ 10
  · exact ⟨ent_small n (by omega) m (by omega) h hn, hm⟩
  · have := ent_far n m hn hn' (by omega)
    omega
end Go.Proofs.Ytdhbdkkchobinaa

