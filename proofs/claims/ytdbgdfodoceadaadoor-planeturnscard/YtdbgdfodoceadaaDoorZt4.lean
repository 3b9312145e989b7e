/-
  What the last text of this claim leans on, part 4: Rk6, Parse, Ref4, Pr5, Gp1, Gq3.
-/
import Derived.Test.YtdbgdfodoceadaaDoorZt3
import Derived.Test.YtdbgdfodoceadaaDoorZt2
import Derived.Test.YtdbgdfodoceadaaDoorZt1
import Derived.Defers
import Derived.Recover
import Derived.Laws.IdiomStrings
import Derived.Laws.BytesArg
namespace Go.Proofs.YtdbgdfodoceadaaDoor
open Go.RowKit
set_option linter.unusedVariables false

theorem Tab.alloc {w : World} {v : Value} {xs : List Int} (h : Tab w v xs) (o : Obj) : Tab (w.alloc o) v xs := by
  rcases h with h | ⟨g, cap, hv, hg, hc⟩
  · exact Or.inl h
  · have e : (w.alloc o).heap[g]? = w.heap[g]? := Below.heap_alloc _ _ _ hg
    exact Or.inr ⟨g, cap, hv, by rw [World.size_alloc]; omega, fun k hk => (World.cell?_of_block (w := w) (a := ⟨g, k, none⟩) e).trans (hc k hk)⟩
theorem Tab.drewN {w : World} {v : Value} {xs : List Int} (h : Tab w v xs) (n : Nat) : Tab (w.drewN n) v xs := h

end Go.Proofs.YtdbgdfodoceadaaDoor

namespace Go.Proofs.YtdbgdfodoceadaaDoor
open Go.RowKit
set_option linter.unusedVariables false

/-- The seven cells of a rule at g. -/
def setRule (w : World) (g : Nat) (v0 v1 v2 v3 v4 v5 v6 : Value) : World :=
  ((((((w.setCell ⟨g, 0, none⟩ v0).setCell ⟨g, 1, none⟩ v1).setCell ⟨g, 2, none⟩ v2).setCell ⟨g, 3, none⟩ v3).setCell ⟨g, 4, none⟩ v4).setCell ⟨g, 5, none⟩ v5).setCell ⟨g, 6, none⟩ v6

/-- The seven cells of a rule at g: they are there. -/
structure Seven (w : World) (g : Nat) (v0 v1 v2 v3 v4 v5 v6 : Value) : Prop where
  c0 : w.cell? ⟨g, 0, none⟩ = some v0
  c1 : w.cell? ⟨g, 1, none⟩ = some v1
  c2 : w.cell? ⟨g, 2, none⟩ = some v2
  c3 : w.cell? ⟨g, 3, none⟩ = some v3
  c4 : w.cell? ⟨g, 4, none⟩ = some v4
  c5 : w.cell? ⟨g, 5, none⟩ = some v5
  c6 : w.cell? ⟨g, 6, none⟩ = some v6
theorem Seven.set {w : World} {g : Nat} {u0 u1 u2 u3 u4 u5 u6 v0 v1 v2 v3 v4 v5 v6 : Value} (h : Seven w g u0 u1 u2 u3 u4 u5 u6) : Seven (setRule w g v0 v1 v2 v3 v4 v5 v6) g v0 v1 v2 v3 v4 v5 v6 := by
  obtain ⟨c0, c1, c2, c3, c4, c5, c6⟩ := h
  unfold setRule
  constructor <;> simp [go_sem, c0, c1, c2, c3, c4, c5, c6]
theorem Seven.other {w : World} {g : Nat} {v0 v1 v2 v3 v4 v5 v6 : Value} (h : Seven w g v0 v1 v2 v3 v4 v5 v6) {p : Addr} (hp : p.block ≠ g) (u : Value) : Seven (w.setCell p u) g v0 v1 v2 v3 v4 v5 v6 := by
  have e : (w.setCell p u).heap[g]? = w.heap[g]? := Below.heap_setCell _ _ _ _ (fun q => hp q.symm)
  obtain ⟨c0, c1, c2, c3, c4, c5, c6⟩ := h
  exact ⟨(World.cell?_of_block (w := w) (a := ⟨g, 0, none⟩) e).trans c0, (World.cell?_of_block (w := w) (a := ⟨g, 1, none⟩) e).trans c1, (World.cell?_of_block (w := w) (a := ⟨g, 2, none⟩) e).trans c2, (World.cell?_of_block (w := w) (a := ⟨g, 3, none⟩) e).trans c3, (World.cell?_of_block (w := w) (a := ⟨g, 4, none⟩) e).trans c4, (World.cell?_of_block (w := w) (a := ⟨g, 5, none⟩) e).trans c5, (World.cell?_of_block (w := w) (a := ⟨g, 6, none⟩) e).trans c6⟩
theorem Tab.block {w w' : World} {v : Value} {xs : List Int} (h : Tab w v xs) (hs : w'.heap.size = w.heap.size) (hb : ∀ g k c, v = .slice (some ⟨g, 0, none⟩) k c → w'.heap[g]? = w.heap[g]?) : Tab w' v xs := by
  rcases h with h | ⟨g, cap, hv, hg, hc⟩
  · exact Or.inl h
  · exact Or.inr ⟨g, cap, hv, by rw [hs]; exact hg, fun k hk => (World.cell?_of_block (w := w) (a := ⟨g, k, none⟩) (hb g _ _ hv)).trans (hc k hk)⟩

end Go.Proofs.YtdbgdfodoceadaaDoor

namespace Go.Proofs.YtdbgdfodoceadaaDoor
open Go.RowKit
set_option linter.unusedVariables false

/-- edenref1.Parse in the midst of a table: its result's block, its rule's, its empty rule's; the table grows. -/
structure RefW (w wr : World) (k st ra : Int) (v : Value) (xs : List Int) : Prop where
  below : Below w.heap.size w wr
  size : w.heap.size + 3 ≤ wr.heap.size
  res : Seven wr w.heap.size (.int .i64 0) (.int .i64 0) (.int .i64 0) (.int .i64 0) (.int .i64 0) (.slice none 0 0) (.string ⟨#[]⟩)
  rr : Seven wr (w.heap.size + 1) (.int .i64 k) (.int .i64 0) (.int .i64 0) (.int .i64 st) (.int .i64 ra) v (.string ⟨#[]⟩)
  no : Seven wr (w.heap.size + 1 + 1) (.int .i64 0) (.int .i64 0) (.int .i64 0) (.int .i64 0) (.int .i64 0) (.slice none 0 0) (.string ⟨#[]⟩)
  fz : ∀ b j, w.heap.size ≤ b → b < w.heap.size + 3 → wr.frozen? ⟨b, j, none⟩ = false
  own : wr.ownsRow (w.heap.size + 3) 3 1 v xs.length (xs.map fun x => .int .i64 x)

theorem Seven.block {w w' : World} {g : Nat} {v0 v1 v2 v3 v4 v5 v6 : Value} (h : Seven w g v0 v1 v2 v3 v4 v5 v6) (e : w'.heap[g]? = w.heap[g]?) : Seven w' g v0 v1 v2 v3 v4 v5 v6 := by
  obtain ⟨c0, c1, c2, c3, c4, c5, c6⟩ := h
  exact ⟨(World.cell?_of_block (w := w) (a := ⟨g, 0, none⟩) e).trans c0, (World.cell?_of_block (w := w) (a := ⟨g, 1, none⟩) e).trans c1, (World.cell?_of_block (w := w) (a := ⟨g, 2, none⟩) e).trans c2, (World.cell?_of_block (w := w) (a := ⟨g, 3, none⟩) e).trans c3, (World.cell?_of_block (w := w) (a := ⟨g, 4, none⟩) e).trans c4, (World.cell?_of_block (w := w) (a := ⟨g, 5, none⟩) e).trans c5, (World.cell?_of_block (w := w) (a := ⟨g, 6, none⟩) e).trans c6⟩
theorem RefW.start (w : World) (k st ra : Int) : RefW w (((w.alloc (.cells zeroCells 24)).alloc (.cells #[.int .i64 k, .int .i64 0, .int .i64 0, .int .i64 st, .int .i64 ra, .slice none 0 0, .string ⟨#[]⟩] 24)).alloc (.cells zeroCells 24)) k st ra (.slice none 0 0) [] := by
  refine ⟨?_, by simp, ?_, ?_, ?_, ?_, ⟨by simp, Or.inl ⟨rfl, by simp⟩⟩⟩
  · exact (((Below.refl _ _).alloc (Nat.le_refl _) _).alloc (by simp) _).alloc (by simp; omega) _
  · constructor <;> simp [go_sem, zeroCells]
  · constructor <;> simp [go_sem]
  · constructor <;> simp [go_sem, zeroCells]
  · intro b j h1 h2
    have h3 : b = w.heap.size ∨ b = w.heap.size + 1 ∨ b = w.heap.size + 1 + 1 := by omega
    rcases h3 with rfl | rfl | rfl <;> simp [go_sem]

end Go.Proofs.YtdbgdfodoceadaaDoor

namespace Go.Proofs.YtdbgdfodoceadaaDoor
open Go.RowKit
set_option linter.unusedVariables false

def bval (b : UInt8) : Value := .int .u8 (b.toNat : Int)

theorem and_bit' (n k : Nat) (hn : n ≤ 511) : bits BinOp.and IntKind.i64 ((n : Int) / 2 ^ k) 1 = ((n / 2 ^ k % 2 : Nat) : Int) := by
  rw [show ((n : Int) / 2 ^ k) = ((n / 2 ^ k : Nat) : Int) by simp]
  have hl : n / 2 ^ k ≤ n := Nat.div_le_self _ _
  have := i64_and_nat (n / 2 ^ k) 1 (by omega) (by omega)
  simp only [Nat.and_one_is_mod] at this
  exact this

/-- Bytes of the call's own, gathered so far. -/
structure Row8 (w wr : World) (v : Value) (l : List UInt8) : Prop where
  below : Below w.heap.size w wr
  own : wr.ownsRow w.heap.size 5 1 v l.length (l.map bval)
theorem Row8.start (w : World) : Row8 w w (.slice none 0 0) [] := ⟨Below.refl _ _, by simp, Or.inl ⟨rfl, by simp⟩⟩
end Go.Proofs.YtdbgdfodoceadaaDoor

namespace Go.Proofs.YtdbgdfodoceadaaDoor
open Go.RowKit
set_option linter.unusedVariables false

/-- A bit of a number. -/
def bitN (n i : Nat) : Nat := n / 2 ^ i % 2

/-- What becomes of a cell that has so many neighbours. -/
def becN (born stay : Nat) (c : Int) (n : Nat) : Nat := if c = 1 then bitN stay n else bitN born n
set_option maxRecDepth 100000 in
set_option maxHeartbeats 3200000 in
theorem becomes_any (k c st ra : Int) (born stay : Nat) (ta : Option Addr) (tn tc : Nat) (s : ByteArray) (n : Nat) (w : World) (hb : born ≤ 511) (hs : stay ≤ 511) (hn : n ≤ 9) :
    Calls Tryd.prog 41 #[.agg #[.int .i64 k, .int .i64 (born : Int), .int .i64 (stay : Int), .int .i64 st, .int .i64 ra, .slice ta tn tc, .string s], .int .i64 c, .int .i64 (n : Int)] w fun e w' => e = .returned (.int .i64 ((becN born stay c n : Nat) : Int)) ∧ Below w.heap.size w w' := by
  obtain ⟨w1, hw1⟩ : ∃ w1, w.alloc (.cells #[.int .i64 k, .int .i64 (born : Int), .int .i64 (stay : Int), .int .i64 st, .int .i64 ra, .slice ta tn tc, .string s] 24) = w1 := ⟨_, rfl⟩
  have BB := hide' (show Below w.heap.size w w1 by rw [← hw1]; exact (Below.refl _ _).alloc (Nat.le_refl _) _)
  have x1 : w1.cell? ⟨w.heap.size, 1, none⟩ = some (.int .i64 (born : Int)) := by rw [← hw1, World.cell?_alloc_at _ _ _ _ rfl]; rfl
  have x2 : w1.cell? ⟨w.heap.size, 2, none⟩ = some (.int .i64 (stay : Int)) := by rw [← hw1, World.cell?_alloc_at _ _ _ _ rfl]; rfl
  by_cases d : c = 1
  · have d1 : (c == 1) = true := by simp [d]
    have e1 := and_bit' stay n hs
    have HR := hide' (show becN born stay c n = stay / 2 ^ n % 2 by rw [becN, if_pos d]; rfl)
    rw [HR.out]
    clear d
    go_enter Tryd.func41, Tryd.ntmps41
    go_wp2
    go_ret
    exact ⟨by first | rfl | (show Ending.returned (Value.int .i64 (bits BinOp.and IntKind.i64 ((stay : Int) / 2 ^ n) 1)) = _; rw [e1]), BB.out⟩
  · have d1 : (c == 1) = false := by simp [d]
    have e1 := and_bit' born n hb
    have HR := hide' (show becN born stay c n = born / 2 ^ n % 2 by rw [becN, if_neg d]; rfl)
    rw [HR.out]
    clear d
    go_enter Tryd.func41, Tryd.ntmps41
    go_wp2
    go_ret
    exact ⟨by first | rfl | (show Ending.returned (Value.int .i64 (bits BinOp.and IntKind.i64 ((born : Int) / 2 ^ n) 1)) = _; rw [e1]), BB.out⟩
end Go.Proofs.YtdbgdfodoceadaaDoor

namespace Go.Proofs.YtdbgdfodoceadaaDoor
open Go.RowKit
set_option linter.unusedVariables false

def rgt0 (a : Nat) : Nat := a * 2 % 18446744073709551616
def rgt1 (a b : Nat) : Nat := b * 2 % 18446744073709551616 ||| a / 9223372036854775808
set_option maxRecDepth 100000 in
set_option maxHeartbeats 3200000 in
theorem right_any (a b : Nat) (w : World) (ha : a < 18446744073709551616) (hb : b < 18446744073709551616) :
    Calls Tryd.prog 81 #[.agg #[.int .u64 (a : Int), .int .u64 (b : Int)]] w fun e w' => e = .returned (.agg #[.int .u64 ((rgt0 a : Nat) : Int), .int .u64 ((rgt1 a b : Nat) : Int)]) ∧ Below w.heap.size w w' := by
  obtain ⟨r0, h0⟩ : ∃ r0, rgt0 a = r0 := ⟨_, rfl⟩
  obtain ⟨r1, h1⟩ : ∃ r1, rgt1 a b = r1 := ⟨_, rfl⟩
  have x1 : IntKind.u64.wrap ((a : Int) * 2) = (r0 : Int) := by rw [IntKind.wrap_u64, ← h0, rgt0]; simp
  obtain ⟨q, hq⟩ : ∃ q, b * 2 % 18446744073709551616 = q := ⟨_, rfl⟩
  obtain ⟨s, hs⟩ : ∃ s, a / 9223372036854775808 = s := ⟨_, rfl⟩
  have x2 : IntKind.u64.wrap ((b : Int) * 2) = (q : Int) := by rw [IntKind.wrap_u64, ← hq]; simp
  have x3 : (a : Int) / 9223372036854775808 = (s : Int) := by rw [← hs]; simp
  have x4 := bits_or_u64_nat q s (by omega) (by omega)
  rw [show q ||| s = r1 by rw [← h1, rgt1, hq, hs]] at x4
  rw [h0, h1]
  clear h0 h1 hq hs
  go_enter Tryd.func81, Tryd.ntmps81
  go_wp2
  refine bodyPost_ret (v := .agg #[.int .u64 (r0 : Int), .int .u64 (r1 : Int)]) (by simp [results, Tryd.results81, go_sem]) rfl ?_
  exact ⟨rfl, by repeat (first | exact Below.refl _ _ | refine Below.alloc ?_ (by simp) _ | refine Below.setCell ?_ (by simp) _)⟩
def lftU (k : Nat) : Nat := (64 + 18446744073709551616 - k) % 18446744073709551616
def lftV (k : Nat) : Nat := (k + 18446744073709551616 - 64) % 18446744073709551616
def lft0 (a b k : Nat) : Nat := (a / 2 ^ min k 64 ||| b * 2 ^ min (lftU k) 64 % 18446744073709551616) ||| b / 2 ^ min (lftV k) 64
def lft1 (b k : Nat) : Nat := b / 2 ^ min k 64
theorem div_ltW {a k : Nat} (ha : a < 18446744073709551616) : a / 2 ^ k < 18446744073709551616 := Nat.lt_of_le_of_lt (Nat.div_le_self _ _) ha
set_option maxRecDepth 100000 in
set_option maxHeartbeats 3200000 in
theorem left_any (a b k : Nat) (w : World) (ha : a < 18446744073709551616) (hb : b < 18446744073709551616) (hk : k < 128) :
    Calls Tryd.prog 104 #[.agg #[.int .u64 (a : Int), .int .u64 (b : Int)], .int .u64 (k : Int)] w fun e w' => e = .returned (.agg #[.int .u64 ((lft0 a b k : Nat) : Int), .int .u64 ((lft1 b k : Nat) : Int)]) ∧ Below w.heap.size w w' := by
  obtain ⟨l0, h0⟩ : ∃ l0, lft0 a b k = l0 := ⟨_, rfl⟩
  obtain ⟨l1, h1⟩ : ∃ l1, lft1 b k = l1 := ⟨_, rfl⟩
  obtain ⟨u, hu⟩ : ∃ u, lftU k = u := ⟨_, rfl⟩
  obtain ⟨v, hv⟩ : ∃ v, lftV k = v := ⟨_, rfl⟩
  obtain ⟨p, hp⟩ : ∃ p, a / 2 ^ min k 64 = p := ⟨_, rfl⟩
  obtain ⟨q, hq⟩ : ∃ q, b * 2 ^ min u 64 % 18446744073709551616 = q := ⟨_, rfl⟩
  obtain ⟨r, hr⟩ : ∃ r, b / 2 ^ min v 64 = r := ⟨_, rfl⟩
  have pl : p < 18446744073709551616 := by rw [← hp]; exact div_ltW ha
  have rl : r < 18446744073709551616 := by rw [← hr]; exact div_ltW hb
  have ql : q < 18446744073709551616 := by omega
  have x1 : (a : Int) / 2 ^ min k 64 = (p : Int) := by rw [← hp]; simp
  have x2 : IntKind.u64.wrap (64 - (k : Int)) = (u : Int) := by rw [IntKind.wrap_u64, ← hu, lftU]; omega
  have x2' : IntKind.u64.wrap ((k : Int) - 64) = (v : Int) := by rw [IntKind.wrap_u64, ← hv, lftV]; omega
  have x3 : IntKind.u64.wrap ((b : Int) * 2 ^ min u 64) = (q : Int) := by rw [IntKind.wrap_u64, ← hq]; simp
  have x4 : (b : Int) / 2 ^ min v 64 = (r : Int) := by rw [← hr]; simp
  have x5 := bits_or_u64_nat p q pl ql
  have ol : p ||| q < 18446744073709551616 := Nat.or_lt_two_pow (n := 64) pl ql
  have x6 := bits_or_u64_nat (p ||| q) r ol rl
  have x7 : (b : Int) / 2 ^ min k 64 = (l1 : Int) := by rw [← h1, lft1]; simp
  obtain ⟨s, hs⟩ : ∃ s, p ||| q = s := ⟨_, rfl⟩
  rw [hs] at x5 x6
  rw [show s ||| r = l0 by rw [← h0, lft0, hu, hv, hp, hq, hr, hs]] at x6
  rw [h0, h1]
  clear h0 h1 hq hs hu hv hp hr ol
  go_enter Tryd.func104, Tryd.ntmps104
  go_wp2
  refine bodyPost_ret (v := .agg #[.int .u64 (l0 : Int), .int .u64 (l1 : Int)]) (by simp [results, Tryd.results104, go_sem]) rfl ?_
  exact ⟨rfl, by repeat (first | exact Below.refl _ _ | refine Below.alloc ?_ (by simp) _ | refine Below.setCell ?_ (by simp) _)⟩

/-- A row's cell. -/
def rb (a b x : Nat) : Bool := if x < 64 then a.testBit x else b.testBit (x - 64)
theorem rgt0_lt (a : Nat) : rgt0 a < 18446744073709551616 := Nat.mod_lt _ (by decide)
theorem rgt1_lt {a b : Nat} (ha : a < 18446744073709551616) : rgt1 a b < 18446744073709551616 := Nat.or_lt_two_pow (n := 64) (Nat.mod_lt _ (by decide)) (by omega)
theorem lft1_lt {b k : Nat} (hb : b < 18446744073709551616) : lft1 b k < 18446744073709551616 := div_ltW hb
theorem lft0_lt {a b k : Nat} (ha : a < 18446744073709551616) (hb : b < 18446744073709551616) : lft0 a b k < 18446744073709551616 :=
  Nat.or_lt_two_pow (n := 64) (Nat.or_lt_two_pow (n := 64) (div_ltW ha) (Nat.mod_lt _ (by decide))) (div_ltW hb)
theorem test_hi {a j : Nat} (ha : a < 18446744073709551616) (hj : 64 ≤ j) : a.testBit j = false :=
  Nat.testBit_lt_two_pow (Nat.lt_of_lt_of_le (show a < 2 ^ 64 from ha) (Nat.pow_le_pow_right (by omega) hj))
theorem test_div (a k j : Nat) : (a / 2 ^ k).testBit j = a.testBit (k + j) := by rw [Nat.testBit_div_two_pow, Nat.add_comm]
theorem test_mul (a k j : Nat) : (a * 2 ^ k % 18446744073709551616).testBit j = (decide (j < 64) && (decide (k ≤ j) && a.testBit (j - k))) := by
  rw [show (18446744073709551616 : Nat) = 2 ^ 64 from rfl, Nat.testBit_mod_two_pow, ← Nat.shiftLeft_eq, Nat.testBit_shiftLeft]
theorem rb_right {a b x : Nat} (ha : a < 18446744073709551616) (hx : x < 128) : rb (rgt0 a) (rgt1 a b) x = (decide (0 < x) && rb a b (x - 1)) := by
  have t0 := test_mul a 1 x
  have t1 := test_mul b 1 (x - 64)
  have t2 := test_div a 63 (x - 64)
  rw [show (2 : Nat) ^ 1 = 2 from rfl] at t0 t1
  rw [show (2 : Nat) ^ 63 = 9223372036854775808 from rfl] at t2
  unfold rb rgt0 rgt1
  by_cases h : x < 64
  · rw [if_pos h, t0]
    have : x - 1 < 64 := by omega
    rw [if_pos this]
    by_cases h1 : 0 < x
    · simp [h, h1, show 1 ≤ x by omega]
    · simp [show x = 0 by omega]
  · rw [if_neg h, Nat.testBit_or, t1, t2]
    by_cases h1 : x = 64
    · subst h1; simp
    · rw [test_hi ha (by omega)]
      simp [show x - 64 < 64 by omega, show 1 ≤ x - 64 by omega, show ¬ x - 1 < 64 by omega, show 0 < x by omega, show x - 64 - 1 = x - 1 - 64 by omega]
theorem rb_left {a b x k : Nat} (ha : a < 18446744073709551616) (hb : b < 18446744073709551616) (hx : x < 128) (hk : k < 128) : rb (lft0 a b k) (lft1 b k) x = (decide (x + k < 128) && rb a b (x + k)) := by
  unfold rb lft0 lft1
  by_cases h : x < 64
  · rw [if_pos h, Nat.testBit_or, Nat.testBit_or, test_div, test_mul, test_div]
    by_cases k1 : k < 64
    · have e1 : min k 64 = k := by omega
      have e2 : lftU k = 64 - k := by unfold lftU; omega
      have e3 : 64 ≤ lftV k := by unfold lftV; omega
      rw [e1, e2, show min (64 - k) 64 = 64 - k by omega, show min (lftV k) 64 = 64 by omega, test_hi hb (show 64 ≤ 64 + x by omega)]
      by_cases q : x + k < 64
      · simp [q, h, show ¬ 64 - k ≤ x by omega, show x + k < 128 by omega, Nat.add_comm k x]
      · rw [test_hi ha (show 64 ≤ k + x by omega)]
        simp [q, h, show 64 - k ≤ x by omega, show x + k < 128 by omega, show x - (64 - k) = x + k - 64 by omega]
    · have e1 : min k 64 = 64 := by omega
      have e3 : lftV k = k - 64 := by unfold lftV; omega
      rw [e1, test_hi ha (show 64 ≤ 64 + x by omega), e3, show min (k - 64) 64 = k - 64 by omega]
      by_cases q : k = 64
      · subst q
        have e2 : lftU 64 = 0 := by unfold lftU; omega
        rw [e2]
        simp [h, show x + 64 < 128 by omega, show ¬ x + 64 < 64 by omega]
      · have e2 : 64 ≤ lftU k := by unfold lftU; omega
        rw [show min (lftU k) 64 = 64 by omega]
        by_cases q2 : x + k < 128
        · simp [h, q2, show ¬ 64 ≤ x by omega, show ¬ x + k < 64 by omega, show k - 64 + x = x + k - 64 by omega]
        · rw [test_hi hb (show 64 ≤ k - 64 + x by omega)]
          simp [q2, show ¬ 64 ≤ x by omega]
  · rw [if_neg h, test_div]
    by_cases q2 : x + k < 128
    · simp [q2, show ¬ x + k < 64 by omega, show min k 64 = k by omega, show k + (x - 64) = x + k - 64 by omega]
    · rw [test_hi hb (show 64 ≤ min k 64 + (x - 64) by omega)]
      simp [q2]
end Go.Proofs.YtdbgdfodoceadaaDoor

