/-
  What the last text of this claim leans on, part 10: Wa1, Ga1, Bk1, Gq1.
-/
import Derived.Test.YtlpdobfjgpedaaaDoorZe9
import Derived.Test.YtlpdobfjgpedaaaDoorZe7
import Derived.Laws.Bits64b
import Derived.Laws.BitsAllLaws
namespace Go.Proofs.YtlpdobfjgpedaaaDoor
open Go.RowKit
set_option linter.unusedVariables false

/-- A pattern that came in, as a value: its cells anywhere. -/
structure ArgP (w : World) (xs : List Int) (a : Option Addr) (n c : Nat) : Prop where
  len : n = xs.length
  max : n ≤ maxLen
  cells : ∀ k (h : k < xs.length), ∃ g off, a = some ⟨g, off, none⟩ ∧ g < w.heap.size ∧ w.cell? ⟨g, off + k, none⟩ = some (.int .i64 xs[k])
theorem ArgP.below {w w' : World} {xs : List Int} {a : Option Addr} {n c : Nat} (h : ArgP w xs a n c) (hb : Below w.heap.size w w') : ArgP w' xs a n c :=
  ⟨h.len, h.max, fun k hk => by
    obtain ⟨g, off, e, hg, hc⟩ := h.cells k hk
    exact ⟨g, off, e, Nat.lt_of_lt_of_le hg hb.size, (World.cell?_of_block (w := w) (a := ⟨g, off + k, none⟩) (hb.block g hg)).trans hc⟩⟩
theorem ArgP.alloc {w : World} {xs : List Int} {a : Option Addr} {n c : Nat} (h : ArgP w xs a n c) (x : Obj) : ArgP (w.alloc x) xs a n c :=
  h.below ((Below.refl _ _).alloc (Nat.le_refl _) _)

def cellB (x : Int) : Bool := decide (x = 0) || decide (x = 1)
def shapeF (W H : Int) (xs : List Int) : Nat :=
  if sideB W && sideB H then (if (xs.length : Int) = W * H then (if xs.all cellB then 0 else 1) else 3) else 1

def errOf (f : Nat) : Value := if f = 0 then .nilIface else .iface 54 (.int .i64 (f : Int))

theorem side_nat {W : Int} (h : sideB W = true) : ∃ n : Nat, W = (n : Int) ∧ n ≤ 100 := by
  unfold sideB at h
  simp at h
  exact ⟨W.toNat, by omega, by omega⟩
theorem side_no {W : Int} (h : sideB W = false) : W < 0 ∨ 100 < W := by
  unfold sideB at h
  simp at h
  omega
theorem all_bad {xs : List Int} {k : Nat} (hk : k < xs.length) (h : cellB xs[k] = false) : xs.all cellB = false := by
  cases q : xs.all cellB with
  | false => rfl
  | true => rw [List.all_eq_true.1 q _ (List.getElem_mem hk)] at h; cases h
theorem all_ok {xs : List Int} (h : ∀ k (hk : k < xs.length), cellB xs[k] = true) : xs.all cellB = true := by
  rw [List.all_eq_true]
  intro x hx
  obtain ⟨k, hk, rfl⟩ := List.getElem_of_mem hx
  exact h k hk
theorem cellB_iff (x : Int) : cellB x = true ↔ x = 0 ∨ x = 1 := by simp [cellB]

set_option maxHeartbeats 1600000 in
theorem Check_P (W H : Int) (xs : List Int) (a : Option Addr) (n c : Nat) (w : World) (hP : ArgP w xs a n c) :
    Calls Tryd.prog 35 #[.agg #[.int .i64 W, .int .i64 H, .slice a n c]] w fun e w' => e = .returned (errOf (shapeF W H xs)) ∧ Below w.heap.size w w' := by
  have HP := hide' (hP.alloc (.cells #[.int .i64 W, .int .i64 H, .slice a n c] 26))
  have hlen := hP.len
  have hmax := hP.max
  have HL := hide' hlen
  unfold maxLen at hmax
  clear hP hlen
  cases s1 : sideB W with
  | false =>
    have F := hide' (show errOf (shapeF W H xs) = .iface 54 (.int .i64 1) by unfold shapeF; rw [s1]; rfl)
    go_enter Tryd.func35, Tryd.ntmps35
    go_wp2_with fail
    refine (pisSide W _).mono ?_
    rw [s1]
    rintro e w1 ⟨rfl, rfl⟩
    go_wp2
    go_ret
    rw [F.out]
    exact ⟨rfl, (Below.refl _ _).alloc (Nat.le_refl _) _⟩
  | true =>
    cases s2 : sideB H with
    | false =>
      have F := hide' (show errOf (shapeF W H xs) = .iface 54 (.int .i64 1) by unfold shapeF; rw [s1, s2]; rfl)
      go_enter Tryd.func35, Tryd.ntmps35
      go_wp2_with fail
      refine (pisSide W _).mono ?_
      rw [s1]
      rintro e w1 ⟨rfl, rfl⟩
      go_wp2_with fail
      refine (pisSide H _).mono ?_
      rw [s2]
      rintro e w1 ⟨rfl, rfl⟩
      go_wp2
      go_ret
      rw [F.out]
      exact ⟨rfl, (Below.refl _ _).alloc (Nat.le_refl _) _⟩
    | true =>
      obtain ⟨Wn, rfl, lW⟩ := side_nat s1
      obtain ⟨Hn, rfl, lH⟩ := side_nat s2
      obtain ⟨N, hN⟩ : ∃ N, Wn * Hn = N := ⟨_, rfl⟩
      have hNi : (Wn : Int) * (Hn : Int) = (N : Int) := by rw [← hN]; simp
      have hN4 : N ≤ 10000 := by rw [← hN]; exact Nat.mul_le_mul lW lH
      by_cases q : n = N
      · have m1 : ((n : Int) != (N : Int)) = false := by simp; omega
        have FO := hide' (fun (h : xs.all cellB = true) => show errOf (shapeF Wn Hn xs) = .nilIface by unfold shapeF; rw [s1, s2, if_pos (show (true && true) = true from rfl), if_pos (by rw [hNi, ← HL.out, q]), if_pos h]; rfl)
        have FN := hide' (fun (h : xs.all cellB = false) => show errOf (shapeF Wn Hn xs) = .iface 54 (.int .i64 1) by unfold shapeF; rw [s1, s2, if_pos (show (true && true) = true from rfl), if_pos (by rw [hNi, ← HL.out, q]), if_neg (by rw [h]; simp)]; rfl)
        clear q hN
        go_enter Tryd.func35, Tryd.ntmps35
        go_wp2_with fail
        refine (pisSide _ _).mono ?_
        rw [s1]
        rintro e w1 ⟨rfl, rfl⟩
        go_wp2_with fail
        refine (pisSide _ _).mono ?_
        rw [s2]
        rintro e w1 ⟨rfl, rfl⟩
        go_wp2
        go_loop [29] (fun kv => ∃ k : Nat, kv = .int .i64 (k : Int) ∧ k ≤ n ∧ ∀ j (h : j < xs.length), j < k → cellB xs[j] = true) (fun kv => n - (intOf kv).toNat)
        case atStart => exact ⟨0, rfl, by omega, fun j h hj => by omega⟩
        case round =>
          obtain ⟨k, rfl, hk, hall⟩ := hrel
          have HA := hide' hall
          clear hall
          by_cases d : (k : Int) < (n : Int)
          · have hkl : k < xs.length := by have := HL.out; omega
            obtain ⟨g, off, rfl, hg, hc⟩ := HP.out.cells k hkl
            obtain ⟨x, hx⟩ : ∃ x, xs[k] = x := ⟨_, rfl⟩
            rw [hx] at hc
            have HX := hide' hx
            clear hx
            by_cases x0 : x = 0
            · have m2 : (x != 0) = false := by simp [x0]
              have X := hide' x0
              clear x0
              go_wp2
              refine ⟨⟨k + 1, by go_num, by omega, fun j h hj => ?_⟩, by simp [intOf]; omega⟩
              by_cases e : j = k
              · subst e; rw [HX.out, X.out]; rfl
              · exact HA.out j h (by omega)
            · have m2 : (x != 0) = true := by simp [x0]
              by_cases x1 : x = 1
              · have m3 : (x != 1) = false := by simp [x1]
                have X := hide' x1
                clear x0 x1
                go_wp2
                refine ⟨⟨k + 1, by go_num, by omega, fun j h hj => ?_⟩, by simp [intOf]; omega⟩
                by_cases e : j = k
                · subst e; rw [HX.out, X.out]; rfl
                · exact HA.out j h (by omega)
              · have m3 : (x != 1) = true := by simp [x1]
                have X := hide' (show cellB x = false by unfold cellB; simp [x0, x1])
                clear x0 x1
                go_wp2
                go_ret
                rw [FN.out (all_bad hkl (by rw [HX.out]; exact X.out))]
                exact ⟨rfl, (Below.refl _ _).alloc (Nat.le_refl _) _⟩
          · go_wp2
            go_ret
            rw [FO.out (all_ok fun j hj => HA.out j hj (by have := HL.out; omega))]
            exact ⟨rfl, (Below.refl _ _).alloc (Nat.le_refl _) _⟩
      · have m1 : ((n : Int) != (N : Int)) = true := by simp; omega
        have F := hide' (show errOf (shapeF Wn Hn xs) = .iface 54 (.int .i64 3) by unfold shapeF; rw [s1, s2, if_pos (show (true && true) = true from rfl), if_neg (by rw [hNi, ← HL.out]; omega)]; rfl)
        clear q hN
        go_enter Tryd.func35, Tryd.ntmps35
        go_wp2_with fail
        refine (pisSide _ _).mono ?_
        rw [s1]
        rintro e w1 ⟨rfl, rfl⟩
        go_wp2_with fail
        refine (pisSide _ _).mono ?_
        rw [s2]
        rintro e w1 ⟨rfl, rfl⟩
        go_wp2
        go_ret
        rw [F.out]
        exact ⟨rfl, (Below.refl _ _).alloc (Nat.le_refl _) _⟩
end Go.Proofs.YtlpdobfjgpedaaaDoor

namespace Go.Proofs.YtlpdobfjgpedaaaDoor
open Go.RowKit
set_option linter.unusedVariables false
def sideG (x : Int) : Bool := decide (1 ≤ x) && decide (x ≤ 100)
def limG (K : Int) : Int := if K = 4 then 16 else 64
def cellG (K x : Int) : Bool := decide (0 ≤ x) && decide (x < limG K)
/-- What is wrong with a gas. -/
def gasE (K W H : Int) (xs : List Int) : Nat :=
  if K = 4 ∨ K = 6 then (if sideG W && sideG H then (if K = 6 ∧ H % 2 ≠ 0 then 3 else if (xs.length : Int) = W * H then (if xs.all (cellG K) then 0 else 1) else 3) else 1) else 1
theorem sideG_nat {W : Int} (h : sideG W = true) : ∃ n : Nat, W = (n : Int) ∧ 1 ≤ n ∧ n ≤ 100 := by
  unfold sideG at h
  simp at h
  exact ⟨W.toNat, by omega, by omega, by omega⟩
theorem allG_bad {K : Int} {xs : List Int} {k : Nat} (hk : k < xs.length) (h : cellG K xs[k] = false) : xs.all (cellG K) = false := by
  cases q : xs.all (cellG K) with
  | false => rfl
  | true => rw [List.all_eq_true.1 q _ (List.getElem_mem hk)] at h; cases h
theorem allG_ok {K : Int} {xs : List Int} (h : ∀ k (hk : k < xs.length), cellG K xs[k] = true) : xs.all (cellG K) = true := by
  rw [List.all_eq_true]
  intro x hx
  obtain ⟨k, hk, rfl⟩ := List.getElem_of_mem hx
  exact h k hk
end Go.Proofs.YtlpdobfjgpedaaaDoor

namespace Go.Proofs.YtlpdobfjgpedaaaDoor
open Go.RowKit
set_option linter.unusedVariables false
def d0 (n : Nat) : Nat := n % 2
def d1 (n : Nat) : Nat := n / 2 % 2
def d2 (n : Nat) : Nat := n / 4 % 2
def d3 (n : Nat) : Nat := n / 8
def blkV (n : Nat) : Array Value := #[.int .i64 (d0 n : Int), .int .i64 (d1 n : Int), .int .i64 (d2 n : Int), .int .i64 (d3 n : Int)]
theorem and16 : ∀ n : Fin 16, bits BinOp.and IntKind.i64 (n.val : Int) 1 = ((n.val % 2 : Nat) : Int) := by decide
theorem and_one (n : Nat) (hn : n < 16) : bits BinOp.and IntKind.i64 (n : Int) 1 = ((n % 2 : Nat) : Int) := and16 ⟨n, hn⟩
theorem or16 : ∀ a b c d : Fin 2, bits BinOp.or IntKind.i64 (bits BinOp.or IntKind.i64 (bits BinOp.or IntKind.i64 (a.val : Int) ((b.val : Int) * 2)) ((c.val : Int) * 4)) ((d.val : Int) * 8) = ((a.val + 2 * b.val + 4 * c.val + 8 * d.val : Nat) : Int) := by decide
end Go.Proofs.YtlpdobfjgpedaaaDoor

namespace Go.Proofs.YtlpdobfjgpedaaaDoor
set_option linter.unusedVariables false

def bitsF (f : Nat → Bool) : Nat → Nat
  | 0 => 0
  | n + 1 => bitsF f n + if f n then 2 ^ n else 0
theorem bitsF_lt (f : Nat → Bool) : ∀ n, bitsF f n < 2 ^ n
  | 0 => by simp [bitsF]
  | n + 1 => by
    have := bitsF_lt f n
    rw [bitsF, Nat.pow_succ]
    split <;> omega
theorem bitsF_test (f : Nat → Bool) : ∀ n i, (bitsF f n).testBit i = (decide (i < n) && f i)
  | 0, i => by simp [bitsF]
  | n + 1, i => by
    have h := bitsF_lt f n
    have ih := bitsF_test f n i
    rw [bitsF]
    by_cases hf : f n = true
    · rw [if_pos hf]
      rw [show bitsF f n + 2 ^ n = 2 ^ n * 1 + bitsF f n by omega, Nat.testBit_two_pow_mul_add _ h]
      by_cases hi : i < n
      · rw [if_pos hi, ih]; simp [hi]; omega
      · rw [if_neg hi]
        by_cases hn : i = n
        · subst hn; simp [hf]
        · have : ¬ i < n + 1 := by omega
          simp [this]
          have : 1 ≤ i - n := by omega
          obtain ⟨k, hk⟩ : ∃ k, i - n = k + 1 := ⟨i - n - 1, by omega⟩
          rw [hk, Nat.testBit_succ]; simp
    · rw [if_neg hf, Nat.add_zero, ih]
      by_cases hn : i = n
      · subst hn; simp [hf]
      · have : (i < n + 1) ↔ (i < n) := by omega
        simp [this]
theorem bitsF_ext {f g : Nat → Bool} {n : Nat} (h : ∀ i, i < n → f i = g i) : bitsF f n = bitsF g n := by
  apply Nat.eq_of_testBit_eq
  intro i
  rw [bitsF_test, bitsF_test]
  by_cases hi : i < n
  · rw [h i hi]
  · simp [hi]
theorem bitsF_is {f : Nat → Bool} {n a : Nat} (ha : a < 2 ^ n) (h : ∀ i, i < n → a.testBit i = f i) : a = bitsF f n := by
  apply Nat.eq_of_testBit_eq
  intro i
  rw [bitsF_test]
  by_cases hi : i < n
  · rw [h i hi]; simp [hi]
  · rw [Nat.testBit_lt_two_pow (Nat.lt_of_lt_of_le ha (Nat.pow_le_pow_right (by omega) (by omega)))]; simp [hi]
theorem test_comp {b j : Nat} (hb : b < 18446744073709551616) (hj : j < 64) : (18446744073709551615 - b).testBit j = !b.testBit j := by
  have := Nat.testBit_two_pow_sub_succ (x := b) (n := 64) (by simpa using hb) j
  rw [show (2 : Nat) ^ 64 - (b + 1) = 18446744073709551615 - b by omega] at this
  rw [this]; simp [hj]
theorem test_ones {j : Nat} (hj : j < 64) : Nat.testBit 18446744073709551615 j = true := by
  have := test_comp (b := 0) (by decide) hj
  simpa using this
def addS (a b c : Nat) : Nat := a ^^^ b ^^^ c
def addC (a b c : Nat) : Nat := (a &&& b) ||| (c &&& (a ^^^ b))
theorem addS_lt {a b c : Nat} (ha : a < 2 ^ 64) (hb : b < 2 ^ 64) (hc : c < 2 ^ 64) : addS a b c < 2 ^ 64 := Nat.xor_lt_two_pow (Nat.xor_lt_two_pow ha hb) hc
theorem addC_lt {a b c : Nat} (ha : a < 2 ^ 64) (hb : b < 2 ^ 64) (hc : c < 2 ^ 64) : addC a b c < 2 ^ 64 := Nat.or_lt_two_pow (Nat.and_lt_two_pow _ hb) (Nat.and_lt_two_pow _ (Nat.xor_lt_two_pow ha hb))
/-- One digit of a number of neighbours, as it is asked. -/
def digM (t : Bool) (d : Nat) : Nat := if t then d else 18446744073709551615 - d
theorem digM_lt {t : Bool} {d : Nat} (h : d < 2 ^ 64) : digM t d < 2 ^ 64 := by unfold digM; split <;> omega
def dgN (d0 d1 d2 d3 : Nat) : Nat → Nat
  | 0 => d0
  | 1 => d1
  | 2 => d2
  | _ => d3
def thoseN (k d0 d1 d2 d3 : Nat) : Nat → Nat
  | 0 => 18446744073709551615
  | i + 1 => thoseN k d0 d1 d2 d3 i &&& digM (k.testBit i) (dgN d0 d1 d2 d3 i)
theorem thoseN_lt (k d0 d1 d2 d3 : Nat) : ∀ i, thoseN k d0 d1 d2 d3 i < 2 ^ 64
  | 0 => by simp [thoseN]
  | i + 1 => Nat.lt_of_le_of_lt Nat.and_le_left (thoseN_lt k d0 d1 d2 d3 i)
theorem thoseN_four (k d0 d1 d2 d3 : Nat) : thoseN k d0 d1 d2 d3 4 = 18446744073709551615 &&& digM (k.testBit 0) d0 &&& digM (k.testBit 1) d1 &&& digM (k.testBit 2) d2 &&& digM (k.testBit 3) d3 := rfl
def maskN (t : Bool) : Nat := if t then 18446744073709551615 else 0
def chosenN (born stay h d0 d1 d2 d3 : Nat) : Nat → Nat
  | 0 => 0
  | k + 1 => chosenN born stay h d0 d1 d2 d3 k ||| (thoseN k d0 d1 d2 d3 4 &&& ((maskN (born.testBit k) &&& (18446744073709551615 - h)) ||| (maskN (stay.testBit k) &&& h)))
theorem chosenN_lt {born stay h d0 d1 d2 d3 : Nat} (hh : h < 2 ^ 64) : ∀ k, chosenN born stay h d0 d1 d2 d3 k < 2 ^ 64
  | 0 => by simp [chosenN]
  | k + 1 => by
    rw [chosenN]
    refine Nat.or_lt_two_pow (chosenN_lt hh k) (Nat.and_lt_two_pow _ (Nat.or_lt_two_pow (Nat.and_lt_two_pow _ (by omega)) (Nat.and_lt_two_pow _ hh)))
theorem digM_test {t : Bool} {d j : Nat} (hd : d < 18446744073709551616) (hj : j < 64) : (digM t d).testBit j = (d.testBit j == t) := by
  unfold digM
  cases t
  · simp [test_comp hd hj]
  · simp
theorem maskN_test {t : Bool} {j : Nat} (hj : j < 64) : (maskN t).testBit j = t := by
  unfold maskN
  cases t
  · simp
  · simp [test_ones hj]
/-- The number that four digits write. -/
def cntD (a b c d : Bool) : Nat := a.toNat + 2 * b.toNat + 4 * c.toNat + 8 * d.toNat
theorem those_test {k d0 d1 d2 d3 j : Nat} (h0 : d0 < 18446744073709551616) (h1 : d1 < 18446744073709551616) (h2 : d2 < 18446744073709551616) (h3 : d3 < 18446744073709551616) (hj : j < 64) (hk : k < 16) :
    (thoseN k d0 d1 d2 d3 4).testBit j = decide (cntD (d0.testBit j) (d1.testBit j) (d2.testBit j) (d3.testBit j) = k) := by
  rw [thoseN_four, Nat.testBit_and, Nat.testBit_and, Nat.testBit_and, Nat.testBit_and, digM_test h0 hj, digM_test h1 hj, digM_test h2 hj, digM_test h3 hj, test_ones hj]
  have key : ∀ a b c d : Bool, ∀ k : Fin 16, ((((true && a == (k : Nat).testBit 0) && b == (k : Nat).testBit 1) && c == (k : Nat).testBit 2) && d == (k : Nat).testBit 3) = decide (cntD a b c d = k) := by decide
  exact key _ _ _ _ ⟨k, hk⟩
theorem chosenN_test {born stay h d0 d1 d2 d3 j : Nat} (h0 : d0 < 18446744073709551616) (h1 : d1 < 18446744073709551616) (h2 : d2 < 18446744073709551616) (h3 : d3 < 18446744073709551616) (hh : h < 18446744073709551616) (hj : j < 64) :
    ∀ k, k ≤ 9 → (chosenN born stay h d0 d1 d2 d3 k).testBit j = (decide (cntD (d0.testBit j) (d1.testBit j) (d2.testBit j) (d3.testBit j) < k) && (if h.testBit j then stay.testBit (cntD (d0.testBit j) (d1.testBit j) (d2.testBit j) (d3.testBit j)) else born.testBit (cntD (d0.testBit j) (d1.testBit j) (d2.testBit j) (d3.testBit j))))
  | 0, _ => by simp [chosenN]
  | k + 1, hk => by
    rw [chosenN, Nat.testBit_or, Nat.testBit_and, Nat.testBit_or, Nat.testBit_and, Nat.testBit_and, those_test h0 h1 h2 h3 hj (by omega), maskN_test hj, maskN_test hj, test_comp hh hj, chosenN_test h0 h1 h2 h3 hh hj k (by omega)]
    generalize cntD (d0.testBit j) (d1.testBit j) (d2.testBit j) (d3.testBit j) = c
    by_cases hc : c = k
    · subst hc
      cases h.testBit j <;> simp
    · have : (c < k + 1) ↔ (c < k) := by omega
      simp [hc, this]
/-- What becomes of a word, all around it being known. -/
def becW (born stay al a ar hl h hr bl b br : Nat) : Nat :=
  chosenN born stay h
    (addS (addS al a ar) (addS bl b br) (addS hl hr 0))
    (addS (addS (addC al a ar) (addC bl b br) (addC hl hr 0)) (addC (addS al a ar) (addS bl b br) (addS hl hr 0)) 0)
    (addS (addC (addC al a ar) (addC bl b br) (addC hl hr 0)) (addC (addS (addC al a ar) (addC bl b br) (addC hl hr 0)) (addC (addS al a ar) (addS bl b br) (addS hl hr 0)) 0) 0)
    (addC (addC (addC al a ar) (addC bl b br) (addC hl hr 0)) (addC (addS (addC al a ar) (addC bl b br) (addC hl hr 0)) (addC (addS al a ar) (addS bl b br) (addS hl hr 0)) 0) 0) 9
theorem addS_test (a b c j : Nat) : (addS a b c).testBit j = (a.testBit j ^^ b.testBit j ^^ c.testBit j) := by simp [addS]
theorem addC_test (a b c j : Nat) : (addC a b c).testBit j = ((a.testBit j && b.testBit j) || (c.testBit j && (a.testBit j ^^ b.testBit j))) := by simp [addC]
theorem adders : ∀ al a ar hl hr bl b br : Bool,
    cntD (((al ^^ a ^^ ar) ^^ (bl ^^ b ^^ br)) ^^ (hl ^^ hr ^^ false))
      ((((al && a || ar && (al ^^ a)) ^^ (bl && b || br && (bl ^^ b))) ^^ (hl && hr || false && (hl ^^ hr))) ^^ ((al ^^ a ^^ ar) && (bl ^^ b ^^ br) || (hl ^^ hr ^^ false) && ((al ^^ a ^^ ar) ^^ (bl ^^ b ^^ br))) ^^ false)
      ((((al && a || ar && (al ^^ a)) && (bl && b || br && (bl ^^ b)) || (hl && hr || false && (hl ^^ hr)) && ((al && a || ar && (al ^^ a)) ^^ (bl && b || br && (bl ^^ b)))) ^^ ((((al && a || ar && (al ^^ a)) ^^ (bl && b || br && (bl ^^ b))) ^^ (hl && hr || false && (hl ^^ hr))) && ((al ^^ a ^^ ar) && (bl ^^ b ^^ br) || (hl ^^ hr ^^ false) && ((al ^^ a ^^ ar) ^^ (bl ^^ b ^^ br))) || false && ((((al && a || ar && (al ^^ a)) ^^ (bl && b || br && (bl ^^ b))) ^^ (hl && hr || false && (hl ^^ hr))) ^^ ((al ^^ a ^^ ar) && (bl ^^ b ^^ br) || (hl ^^ hr ^^ false) && ((al ^^ a ^^ ar) ^^ (bl ^^ b ^^ br)))))) ^^ false)
      ((((al && a || ar && (al ^^ a)) && (bl && b || br && (bl ^^ b)) || (hl && hr || false && (hl ^^ hr)) && ((al && a || ar && (al ^^ a)) ^^ (bl && b || br && (bl ^^ b)))) && ((((al && a || ar && (al ^^ a)) ^^ (bl && b || br && (bl ^^ b))) ^^ (hl && hr || false && (hl ^^ hr))) && ((al ^^ a ^^ ar) && (bl ^^ b ^^ br) || (hl ^^ hr ^^ false) && ((al ^^ a ^^ ar) ^^ (bl ^^ b ^^ br))) || false && ((((al && a || ar && (al ^^ a)) ^^ (bl && b || br && (bl ^^ b))) ^^ (hl && hr || false && (hl ^^ hr))) ^^ ((al ^^ a ^^ ar) && (bl ^^ b ^^ br) || (hl ^^ hr ^^ false) && ((al ^^ a ^^ ar) ^^ (bl ^^ b ^^ br)))))) || false && ((((al && a || ar && (al ^^ a)) && (bl && b || br && (bl ^^ b)) || (hl && hr || false && (hl ^^ hr)) && ((al && a || ar && (al ^^ a)) ^^ (bl && b || br && (bl ^^ b)))) ^^ ((((al && a || ar && (al ^^ a)) ^^ (bl && b || br && (bl ^^ b))) ^^ (hl && hr || false && (hl ^^ hr))) && ((al ^^ a ^^ ar) && (bl ^^ b ^^ br) || (hl ^^ hr ^^ false) && ((al ^^ a ^^ ar) ^^ (bl ^^ b ^^ br))) || false && ((((al && a || ar && (al ^^ a)) ^^ (bl && b || br && (bl ^^ b))) ^^ (hl && hr || false && (hl ^^ hr))) ^^ ((al ^^ a ^^ ar) && (bl ^^ b ^^ br) || (hl ^^ hr ^^ false) && ((al ^^ a ^^ ar) ^^ (bl ^^ b ^^ br))))))))
    = al.toNat + a.toNat + ar.toNat + hl.toNat + hr.toNat + bl.toNat + b.toNat + br.toNat := by
  intro al a ar hl hr bl b br
  cases al <;> cases a <;> cases ar <;> cases hl <;> cases hr <;> cases bl <;> cases b <;> cases br <;> rfl
theorem becW_test {born stay al a ar hl h hr bl b br j : Nat} (h1 : al < 2 ^ 64) (h2 : a < 2 ^ 64) (h3 : ar < 2 ^ 64) (h4 : hl < 2 ^ 64) (h5 : h < 2 ^ 64) (h6 : hr < 2 ^ 64) (h7 : bl < 2 ^ 64) (h8 : b < 2 ^ 64) (h9 : br < 2 ^ 64) (hj : j < 64) (cn : Nat)
    (hc : (al.testBit j).toNat + (a.testBit j).toNat + (ar.testBit j).toNat + (hl.testBit j).toNat + (hr.testBit j).toNat + (bl.testBit j).toNat + (b.testBit j).toNat + (br.testBit j).toNat = cn) :
    (becW born stay al a ar hl h hr bl b br).testBit j = if h.testBit j then stay.testBit cn else born.testBit cn := by
  have z : (0 : Nat) < 2 ^ 64 := by decide
  have o := addS_lt h1 h2 h3
  have u := addC_lt h1 h2 h3
  have m := addS_lt h7 h8 h9
  have l := addC_lt h7 h8 h9
  have s := addS_lt h4 h6 z
  have t := addC_lt h4 h6 z
  have tw := addS_lt u l t
  have fo := addC_lt u l t
  have ct := addC_lt o m s
  have cf := addC_lt tw ct z
  have A := adders (al.testBit j) (a.testBit j) (ar.testBit j) (hl.testBit j) (hr.testBit j) (bl.testBit j) (b.testBit j) (br.testBit j)
  rw [hc] at A
  have cl : cn ≤ 8 := by
    have q : ∀ x : Bool, x.toNat ≤ 1 := by decide
    have := q (al.testBit j); have := q (a.testBit j); have := q (ar.testBit j); have := q (hl.testBit j); have := q (hr.testBit j); have := q (bl.testBit j); have := q (b.testBit j); have := q (br.testBit j)
    omega
  unfold becW
  rw [chosenN_test (addS_lt o m s) (addS_lt tw ct z) (addS_lt fo cf z) (addC_lt fo cf z) h5 hj 9 (Nat.le_refl _)]
  simp only [addS_test, addC_test, Nat.zero_testBit]
  rw [A]
  have : cn < 9 := by omega
  simp [this]
end Go.Proofs.YtlpdobfjgpedaaaDoor

