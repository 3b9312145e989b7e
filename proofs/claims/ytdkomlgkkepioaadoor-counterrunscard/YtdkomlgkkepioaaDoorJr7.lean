/-
  What the last text of this claim leans on, part 7: Cd3, Cb1, Cb2, Cb3, Cb4, Cb5, Ce1.
-/
import Derived.Test.YtdkomlgkkepioaaDoorJr6
import Derived.Test.YtdkomlgkkepioaaDoorJr1
import Derived.Test.YtdkomlgkkepioaaDoorShelf
import Derived.Deep.CutRange
import Derived.Lib.ItoaNum
import Derived.Laws.BitsAllLaws
import Derived.BigQuiet
import Derived.Maps.AppendAt
import Derived.Deep.AppendLies
namespace Go.Proofs.YtdkomlgkkepioaaDoor
open Go.RowKit
set_option linter.unusedVariables false
def isP (j : Nat) : Bool := decide (2 ≤ j) && (List.range j).all fun i => decide (i < 2) || decide (j % i ≠ 0)
def prL (k : Nat) : List Nat := (List.range k).filter isP
def primT : List Nat := [2, 3, 5, 7, 11, 13, 17, 19, 23, 29, 31, 37, 41, 43, 47, 53, 59, 61, 67, 71, 73, 79, 83, 89, 97, 101, 103, 107]
set_option maxRecDepth 100000 in
theorem prL_all : prL 108 = primT := by decide +kernel
theorem prL_succ (k : Nat) : prL (k + 1) = prL k ++ if isP k then [k] else [] := by
  unfold prL
  rw [List.range_succ, List.filter_append]
  congr 1
  cases h : isP k <;> simp [h]
theorem prL_prefix {k : Nat} : ∀ d, ∃ r, prL (k + d) = prL k ++ r
  | 0 => ⟨[], by simp⟩
  | d + 1 => by
    obtain ⟨r, hr⟩ := prL_prefix (k := k) d
    rw [show k + (d + 1) = (k + d) + 1 by omega, prL_succ, hr]
    exact ⟨r ++ if isP (k + d) then [k + d] else [], by rw [List.append_assoc]⟩
theorem prL_take {k : Nat} (h : k ≤ 108) : prL k = primT.take (prL k).length := by
  obtain ⟨r, hr⟩ := prL_prefix (k := k) (108 - k)
  rw [show k + (108 - k) = 108 by omega, prL_all] at hr
  rw [hr, List.take_left]
theorem prL_lt {k n : Nat} (h : (prL k).length < n) (hn : n ≤ 28) (hk : k ≤ 108) : k < 108 := by
  rcases Nat.lt_or_ge k 108 with q | q
  · exact q
  · obtain rfl : k = 108 := by omega
    rw [prL_all] at h
    have : primT.length = 28 := by decide
    omega
/-- Of the numbers below i none divides k, from 2 on. -/
def noneB (k i : Nat) : Bool := (List.range i).all fun j => decide (j < 2) || decide (k % j ≠ 0)
theorem noneB_succ (k i : Nat) (h : 2 ≤ i) : noneB k (i + 1) = (noneB k i && decide (k % i ≠ 0)) := by
  unfold noneB
  rw [List.range_succ, List.all_append]
  simp [show ¬ i < 2 by omega]
theorem noneB_two (k : Nat) : noneB k 2 = true := by unfold noneB; simp [List.range, List.range.loop]
theorem isP_none {k : Nat} (h : 2 ≤ k) : isP k = noneB k k := by unfold isP noneB; simp [h]
/-- The first so many, as numbers of Go. -/
def primI (n : Nat) : List Int := (primT.take n).map fun x : Nat => (x : Int)
theorem own_slice {w : World} {base : Nat} {e : TypeId} {size n : Nat} {v : Value} {xs : List Value} (h : w.ownsRow base e size v n xs) : ∃ a q, v = .slice a n q := by
  rcases h.2 with ⟨rfl, rfl⟩ | ⟨g, cap, cur, rfl, -⟩
  · exact ⟨none, 0, rfl⟩
  · exact ⟨_, cap, rfl⟩
theorem own_argN {w : World} {base : Nat} {a : Option Addr} {q : Nat} {xs : List Nat} (h : w.ownsRow base 3 1 (.slice a xs.length q) xs.length (xs.map fun x : Nat => Value.int .i64 (x : Int))) : ArgP w (xs.map fun x : Nat => (x : Int)) a xs.length q := by
  rcases h.2 with ⟨e, h0⟩ | ⟨g, cap, cur, e, hb, hg, hn, hm, hs, ht⟩
  · obtain rfl : xs = [] := List.eq_nil_of_length_eq_zero h0
    exact argP_nil _ _ _
  · cases e
    refine ⟨by simp, Nat.le_trans hn hm, fun k hk => ⟨g, 0, rfl, lt_of_block hg, ?_⟩⟩
    have hk' : k < xs.length := by simpa using hk
    have e1 := congrArg (fun l => l[k]?) ht
    simp only [Nat.mul_one] at e1
    rw [List.getElem?_take_of_lt hk', Array.getElem?_toList] at e1
    rw [Nat.zero_add, cell_of_row w _ k _ _ _ hg, e1]
    simp [hk']
theorem own_geN {w : World} {base : Nat} {e : TypeId} {size n : Nat} {v : Value} {xs : List Value} (h : w.ownsRow base e size v n xs) : ∀ b, v.ownBlock = some b → base ≤ b := fun b eb => by
  rcases h.2 with ⟨rfl, -⟩ | ⟨g, cap, cur, rfl, h1, -⟩
  · cases eb
  · cases eb; exact h1
set_option maxRecDepth 100000 in
set_option maxHeartbeats 6400000 in
theorem refPrimes_any (n : Nat) (n28 : n ≤ 28) (w : World) : Calls Tryd.prog 91 #[.int .i64 (n : Int)] w fun e w' => ∃ a q, e = .returned (.slice a n q) ∧ ArgP w' (primI n) a n q ∧ Below w.heap.size w w' := by
  obtain ⟨i0, hi0, hz⟩ := Option.map_eq_some_iff.1 info_intC
  simp only [Prod.mk.injEq] at hz
  obtain ⟨hz0, hz1, hz2⟩ := hz
  go_enter Tryd.func91, Tryd.ntmps91
  go_wp2
  go_loopw [3, 4] (fun lv kv wr => ∃ (k L : Nat) (a : Option Addr) (q : Nat), kv = .int .i64 (k : Int) ∧ lv = .slice a L q ∧ Hid ((prL k).length = L ∧ wr.ownsRow w.heap.size 3 1 (.slice a L q) L ((prL k).map fun x : Nat => Value.int .i64 (x : Int))) ∧ 2 ≤ k ∧ k ≤ 108 ∧ L ≤ n ∧ Hid (Below w.heap.size w wr)) (fun _ kv _ => 108 - (intOf kv).toNat)
  case atStart => exact ⟨2, 0, none, 0, rfl, rfl, hide' ⟨by decide, World.ownsRow_nil w w.heap.size 3 1⟩, by omega, by omega, by omega, hide' (Below.refl _ _)⟩
  case round =>
    obtain ⟨k, L, a, q, rfl, rfl, OW, k2, k8, Ln, BW⟩ := hrel
    by_cases dl : (L : Int) < (n : Int)
    · have k7 : k < 108 := prL_lt (n := n) (by rw [OW.out.1]; omega) n28 k8
      obtain ⟨V0, rfl⟩ : ∃ V0, V0 = wr := ⟨_, rfl⟩
      go_wp2
      go_loopw [5, 6] (fun pv iv wr => ∃ i : Nat, iv = .int .i64 (i : Int) ∧ 2 ≤ i ∧ i ≤ k ∧ pv = .bool (noneB k i) ∧ V0 = wr) (fun _ iv _ => k - (intOf iv).toNat)
      case atStart => exact ⟨2, rfl, by omega, by omega, by rw [noneB_two], rfl⟩
      case round =>
        obtain ⟨i, rfl, i2, ik, rfl, rfl⟩ := hrel
        by_cases di : (i : Int) < (k : Int)
        · have iz : ¬ i = 0 := by omega
          have NB := hide' (noneB_succ k i i2)
          obtain ⟨r, hr⟩ : ∃ r, k % i = r := ⟨_, rfl⟩
          rw [hr] at NB
          have qr : (k : Int) % (i : Int) = (r : Int) := by rw [← hr]; rfl
          obtain ⟨b, hb⟩ : ∃ b, noneB k i = b := ⟨_, rfl⟩
          rw [hb] at NB ⊢
          clear hr hb
          by_cases r0 : r = 0
          · subst r0
            have FN := hide' (show noneB k (i + 1) = false by rw [NB.out]; simp)
            go_wp2
            exact ⟨⟨i + 1, by go_num, by omega, by omega, by rw [FN.out], by simp⟩, by simp [intOf]; omega⟩
          · have rz : (r == 0) = false := by simpa using r0
            have FN := hide' (show noneB k (i + 1) = b by rw [NB.out]; simp [r0])
            go_wp2
            exact ⟨⟨i + 1, by go_num, by omega, by omega, by rw [FN.out], by simp⟩, by simp [intOf]; omega⟩
        · obtain rfl : i = k := by omega
          have IP := hide' (isP_none i2)
          have PS := hide' (prL_succ i)
          cases hb : noneB i i
          · have PE := hide' (show prL (i + 1) = prL i by rw [PS.out, IP.out, hb]; simp)
            clear hb
            go_wp2
            exact ⟨⟨i + 1, L, a, q, by go_num, rfl, hide' (by rw [PE.out]; exact OW.out), by omega, by omega, Ln, BW⟩, by simp [intOf]; omega⟩
          · have PE := hide' (show prL (i + 1) = prL i ++ [i] by rw [PS.out, IP.out, hb]; simp)
            clear hb
            have NW : ∀ j u, [Value.int .i64 (i : Int)][j]? = some u → (V0.alloc (.cells #[.int .i64 (i : Int)] 3)).cell? ((⟨V0.heap.size, 0, none⟩ : Addr).add j) = some u := fun j u hj => by
              have j0 : j = 0 := by
                rcases Nat.eq_zero_or_pos j with h | h
                · exact h
                · rw [List.getElem?_eq_none (by simp; omega)] at hj; cases hj
              subst j0
              simp at hj
              subst hj
              exact cell_of_row _ _ 0 _ _ _ (heap_alloc_new _ _)
            have z0 := BW.out.size
            go_wp2_with (at_builtin; go_loud (refine wpList_append_own _ rfl _ _ 22 rfl w.heap.size 3 i0 (.int .i64 0) 1 8 Tryd.underlying22 hi0 hz0 hz1 hz2 rfl (by decide) _ L _ rfl (OW.out.2.alloc _) ⟨V0.heap.size, 0, none⟩ 1 1 [Value.int .i64 (i : Int)] rfl rfl NW (fun u hu => by simp at hu; subst hu; rfl) (by unfold maxLen; omega) (by omega) (by simp; omega) ?_; intro v' w1 ho hg hn; go_frame))
            obtain ⟨a', q', rfl⟩ := own_slice ho
            refine ⟨⟨i + 1, L + 1, a', q', by go_num, rfl, hide' ⟨by rw [PE.out, List.length_append, OW.out.1]; rfl, by rw [PE.out, List.map_append]; exact ho⟩, by omega, by omega, by omega, hide' ((BW.out.alloc z0 _).grown hg (by simp; omega) (own_geN OW.out.2))⟩, by simp [intOf]; omega⟩
    · have E := hide' (show n = L by omega)
      have FIN := hide' (show ArgP wr (primI n) a n q from by
        unfold primI
        have h := prL_take k8
        rw [OW.out.1, ← E.out] at h
        have o := OW.out.2
        rw [← OW.out.1] at o
        have := own_argN o
        rw [OW.out.1, ← E.out, h] at this
        exact this)
      go_wp2
      go_ret
      exact ⟨a, q, by rw [E.out]; rfl, FIN.out, BW.out⟩
end Go.Proofs.YtdkomlgkkepioaaDoor

namespace Go.Proofs.YtdkomlgkkepioaaDoor
set_option linter.unusedVariables false
theorem dg_mul (q v1 v0 B : Nat) : q * (v1 * B + v0) = q * v1 * B + q * v0 := by rw [Nat.mul_add, ← Nat.mul_assoc]
theorem dg_high {u v1 v0 d B q r : Nat} (h : q * v1 + r = u) (h2 : B * r + d < q * v0) : u * B + d < q * (v1 * B + v0) := by
  rw [dg_mul, ← h, Nat.add_mul, Nat.mul_comm r B]; omega
/-- While a digit is looked for: not below the true one. -/
structure Dg (u v1 v0 d B q r : Nat) : Prop where
  sum : q * v1 + r = u
  lt : r < B
  up : u * B + d < (q + 1) * (v1 * B + v0)
  le : q ≤ B + 1
theorem Dg.start {u v1 v0 d B : Nat} (hv : B ≤ 2 * v1) (h1 : v1 < B) (h0 : v0 < B) (hd : d < B) (hu : u < v1 * B + v0) : Dg u v1 v0 d B (u / v1) (u % v1) := by
  have v0' : 0 < v1 := by omega
  have hm := Nat.mod_lt u v0'
  have hs := Nat.div_add_mod u v1
  refine ⟨by rw [Nat.mul_comm]; exact hs, by omega, ?_, ?_⟩
  · have h2 : u + 1 ≤ (u / v1 + 1) * v1 := by rw [Nat.add_mul, Nat.one_mul, Nat.mul_comm]; omega
    have h3 : (u + 1) * B ≤ (u / v1 + 1) * v1 * B := Nat.mul_le_mul_right B h2
    rw [dg_mul]
    have h4 : (u + 1) * B = u * B + B := by rw [Nat.add_mul, Nat.one_mul]
    omega
  · have h2 : u < v1 * (B + 2) := by rw [Nat.mul_add]; omega
    have := Nat.div_lt_of_lt_mul h2
    omega
theorem Dg.next {u v1 v0 d B q r : Nat} (h : Dg u v1 v0 d B q r) (hd : d < B) (hu : u < v1 * B + v0) (t : B ≤ q ∨ B * r + d < q * v0) : 1 ≤ q ∧ (q - 1) * v1 + (r + v1) = u ∧ u * B + d < (q - 1 + 1) * (v1 * B + v0) ∧ q - 1 ≤ B := by
  have hlt : u * B + d < q * (v1 * B + v0) := by
    rcases t with t | t
    · have h1 : (u + 1) * B ≤ (v1 * B + v0) * B := Nat.mul_le_mul_right B hu
      have h2 : B * (v1 * B + v0) ≤ q * (v1 * B + v0) := Nat.mul_le_mul_right _ t
      rw [Nat.mul_comm B] at h2
      have h4 : (u + 1) * B = u * B + B := by rw [Nat.add_mul, Nat.one_mul]
      omega
    · exact dg_high h.sum t
  have q1 : 1 ≤ q := by
    rcases Nat.eq_zero_or_pos q with z | z
    · rw [z, Nat.zero_mul] at hlt; omega
    · exact z
  obtain ⟨p, rfl⟩ : ∃ p, q = p + 1 := ⟨q - 1, by omega⟩
  have hs := h.sum
  have := h.le
  rw [Nat.add_mul, Nat.one_mul] at hs
  simp only [Nat.add_sub_cancel]
  exact ⟨q1, by omega, hlt, by omega⟩
/-- The digit is found. -/
def DgIs (u v1 v0 d B q : Nat) : Prop := q * (v1 * B + v0) ≤ u * B + d ∧ u * B + d < (q + 1) * (v1 * B + v0) 
theorem DgIs.lt {u v1 v0 d B q : Nat} (h : DgIs u v1 v0 d B q) (hd : d < B) (hu : u < v1 * B + v0) : q < B := by
  rcases Nat.lt_or_ge q B with k | k
  · exact k
  · have h1 : (u + 1) * B ≤ (v1 * B + v0) * B := Nat.mul_le_mul_right B hu
    have h2 : B * (v1 * B + v0) ≤ q * (v1 * B + v0) := Nat.mul_le_mul_right _ k
    rw [Nat.mul_comm B] at h2
    have h4 : (u + 1) * B = u * B + B := by rw [Nat.add_mul, Nat.one_mul]
    have := h.1
    omega
end Go.Proofs.YtdkomlgkkepioaaDoor

namespace Go.Proofs.YtdkomlgkkepioaaDoor
open Go.RowKit
set_option linter.unusedVariables false
end Go.Proofs.YtdkomlgkkepioaaDoor

namespace Go.Proofs.YtdkomlgkkepioaaDoor
open Go.RowKit
set_option linter.unusedVariables false
end Go.Proofs.YtdkomlgkkepioaaDoor

namespace Go.Proofs.YtdkomlgkkepioaaDoor
open Go.RowKit
set_option linter.unusedVariables false
/-- A fraction: what is above, what is below. -/
abbrev FraT := Int × Int
end Go.Proofs.YtdkomlgkkepioaaDoor

namespace Go.Proofs.YtdkomlgkkepioaaDoor
open Go.RowKit
set_option linter.unusedVariables false
/-- Fractions that lie in a row. -/
structure ArgF (w : World) (xs : List FraT) (a : Option Addr) (n c : Nat) : Prop where
  len : n = xs.length
  max : n ≤ 9223372036854775807
  cells : ∀ k (h : k < xs.length), ∃ g off, a = some ⟨g, off, none⟩ ∧ g < w.heap.size ∧ w.cell? ⟨g, off + k * 2, none⟩ = some (.int .i64 xs[k].1) ∧ w.cell? ⟨g, off + k * 2 + 1, none⟩ = some (.int .i64 xs[k].2)
  fit : ∀ k (h : k < xs.length), xs[k].1 ≤ 9223372036854775807 ∧ xs[k].2 ≤ 9223372036854775807
theorem ArgF.below {w w' : World} {xs : List FraT} {a : Option Addr} {n c : Nat} {B : Nat} (h : ArgF w xs a n c) (hb : Below w.heap.size w w') : ArgF w' xs a n c :=
  ⟨h.len, h.max, fun k hk => by
    obtain ⟨g, off, e, hg, h1, h2⟩ := h.cells k hk
    have b := hb.block g hg
    exact ⟨g, off, e, Nat.lt_of_lt_of_le hg hb.size, (World.cell?_of_block (w := w) (a := ⟨g, off + k * 2, none⟩) b).trans h1, (World.cell?_of_block (w := w) (a := ⟨g, off + k * 2 + 1, none⟩) b).trans h2⟩, h.fit⟩
end Go.Proofs.YtdkomlgkkepioaaDoor

namespace Go.Proofs.YtdkomlgkkepioaaDoor
open Go.RowKit
set_option linter.unusedVariables false
def prN (i : Nat) : Nat := primT.getD i 0
theorem prN_le (i : Nat) : prN i ≤ 107 := by
  unfold prN
  rcases Nat.lt_or_ge i 28 with h | h
  · have : ∀ j : Fin 28, primT.getD j.val 0 ≤ 107 := by decide
    exact this ⟨i, h⟩
  · have : primT.length = 28 := by decide
    rw [show primT.getD i 0 = 0 by simp [List.getD, List.getElem?_eq_none (show primT.length ≤ i by omega)]]; omega
def natF (a b : Nat) : FraT := ((a : Int), (b : Int))
/-- What a line becomes. -/
def lineF (k : Nat) (p : InsT) : List FraT :=
  if p.1 = 1 then [natF (prN p.2.1.toNat * prN (5 + 2 * p.2.2.1.toNat)) (prN (4 + 2 * k))]
  else if p.1 = 2 then [natF (prN (5 + 2 * p.2.2.1.toNat)) (prN (4 + 2 * k) * prN p.2.1.toNat), natF (prN (5 + 2 * p.2.2.2.toNat)) (prN (4 + 2 * k))]
  else []
def linesF (xs : List InsT) : Nat → List FraT
  | 0 => []
  | k + 1 => linesF xs k ++ lineF k (lnM xs k)
def endsF : Nat → List FraT
  | 0 => []
  | k + 1 => endsF k ++ [natF (prN (4 + 2 * k)) (prN (5 + 2 * k))]
/-- The fractions of a machine. -/
def fraL (xs : List InsT) : List FraT := linesF xs xs.length ++ endsF xs.length
theorem lineF_len (k : Nat) (p : InsT) : (lineF k p).length ≤ 2 := by unfold lineF; split; simp; split <;> simp
theorem linesF_len (xs : List InsT) : ∀ k, (linesF xs k).length ≤ 2 * k
  | 0 => by simp [linesF]
  | k + 1 => by have := linesF_len xs k; have := lineF_len k (lnM xs k); simp only [linesF, List.length_append]; omega
theorem endsF_len : ∀ k, (endsF k).length = k
  | 0 => rfl
  | k + 1 => by simp [endsF, endsF_len k]
/-- The table of primes, as it lies. -/
def PrT (w : World) : Prop := ∀ k, k < 28 → w.cell? ⟨2, k, none⟩ = some (.int .i64 (prN k : Int))
theorem PrT.lt {w : World} (h : PrT w) : 2 < w.heap.size := by
  rcases Nat.lt_or_ge 2 w.heap.size with q | q
  · exact q
  · have := h 0 (by omega)
    simp [World.cell?, Array.getElem?_eq_none q] at this
theorem PrT.below {w w' : World} {B : Nat} (h : PrT w) (hb : Below B w w') (hB : 2 < B) : PrT w' := fun j hj => (World.cell?_of_block (w := w) (a := ⟨2, j, none⟩) (hb.block _ hB)).trans (h j hj)
set_option maxRecDepth 100000 in
theorem stand_any (k : Nat) (hk : k < 12) (w : World) (h : PrT w) : Calls Tryd.prog 85 #[.int .i64 (k : Int)] w fun e w' => e = .returned (.int .i64 (prN (4 + 2 * k) : Int)) ∧ w' = w := by
  have c := h (4 + 2 * k) (by omega)
  obtain ⟨j, hj⟩ : ∃ j, 4 + 2 * k = j := ⟨_, rfl⟩
  have e1 : wrap64 (4 + wrap64 (2 * (k : Int))) = (j : Int) := by simp [wrap64]; omega
  have e2 : (4 : Int) + 2 * (k : Int) = (j : Int) := by omega
  have e3 : IntKind.i64.wrap (2 * (k : Int)) = 2 * (k : Int) := by simp [IntKind.wrap, IntKind.bits, IntKind.signed]; omega
  rw [hj] at c ⊢
  have j0 : (0 : Int) ≤ (j : Int) := by omega
  have j28 : (j : Int) < 28 := by omega
  clear hj h
  go_enter Tryd.func85, Tryd.ntmps85
  go_wp2
  go_ret
  exact ⟨rfl, rfl⟩
set_option maxRecDepth 100000 in
theorem come_any (k : Nat) (hk : k < 12) (w : World) (h : PrT w) : Calls Tryd.prog 84 #[.int .i64 (k : Int)] w fun e w' => e = .returned (.int .i64 (prN (5 + 2 * k) : Int)) ∧ w' = w := by
  have c := h (5 + 2 * k) (by omega)
  obtain ⟨j, hj⟩ : ∃ j, 5 + 2 * k = j := ⟨_, rfl⟩
  have e2 : (4 : Int) + 2 * (k : Int) + 1 = (j : Int) := by omega
  rw [hj] at c ⊢
  have j0 : (0 : Int) ≤ (j : Int) := by omega
  have j28 : (j : Int) < 28 := by omega
  clear hj h
  go_enter Tryd.func84, Tryd.ntmps84
  go_wp2
  go_ret
  exact ⟨rfl, rfl⟩
def flF (ys : List FraT) : List Value := ys.flatMap fun p => [.int .i64 p.1, .int .i64 p.2]
theorem flF_append (xs ys : List FraT) : flF (xs ++ ys) = flF xs ++ flF ys := by unfold flF; simp
theorem flF_get : ∀ (ys : List FraT) (k : Nat) (hk : k < ys.length), (flF ys)[k * 2]? = some (.int .i64 ys[k].1) ∧ (flF ys)[k * 2 + 1]? = some (.int .i64 ys[k].2)
  | p :: r, 0, hk => by unfold flF; simp
  | p :: r, k + 1, hk => by
    have ih := flF_get r k (by simpa using hk)
    unfold flF at *
    simp only [List.flatMap_cons, List.getElem_cons_succ]
    rw [List.getElem?_append_right (by show 2 ≤ (k + 1) * 2; omega), List.getElem?_append_right (by show 2 ≤ (k + 1) * 2 + 1; omega)]
    show (_ : List Value)[(k + 1) * 2 - 2]? = _ ∧ (_ : List Value)[(k + 1) * 2 + 1 - 2]? = _
    rw [show (k + 1) * 2 - 2 = k * 2 by omega, show (k + 1) * 2 + 1 - 2 = k * 2 + 1 by omega]
    exact ih
theorem one_flF (ys : List FraT) : ∀ u ∈ flF ys, u.oneCell' = true := fun u hu => by
  unfold flF at hu
  obtain ⟨p, -, hp⟩ := List.mem_flatMap.1 hu
  simp at hp
  rcases hp with rfl | rfl <;> rfl
theorem info_fra : (Tryd.prog.info? 166).map (fun i => (i.zero, i.size, i.bytes)) = some (some (.agg #[.int .i64 0, .int .i64 0]), 2, 16) := by kernel_rfl
/-- A list of fractions of one's own, as a list that may be read. -/
theorem own_argF {w : World} {base : Nat} {a : Option Addr} {q : Nat} {ys : List FraT} (h : w.ownsRow base 166 2 (.slice a ys.length q) ys.length (flF ys)) (hf : ∀ p ∈ ys, p.1 ≤ 9223372036854775807 ∧ p.2 ≤ 9223372036854775807) : ArgF w ys a ys.length q := by
  rcases h.2 with ⟨e, h0⟩ | ⟨g, cap, cur, e, hb, hg, hn, hm, hs, ht⟩
  · obtain rfl : ys = [] := List.eq_nil_of_length_eq_zero h0
    exact ⟨rfl, by simp, (fun k hk => by cases hk), fun k hk => by cases hk⟩
  · cases e
    have cm : ys.length ≤ 9223372036854775807 := by unfold maxLen at hm; omega
    refine ⟨rfl, by omega, fun k hk => ?_, fun k hk => hf _ (List.getElem_mem hk)⟩
    have cl : ∀ i, i < ys.length * 2 → w.cell? ⟨g, i, none⟩ = (flF ys)[i]? := fun i hi => by
      rw [cell_of_row w _ _ _ _ _ hg, ← ht, List.getElem?_take_of_lt (by omega), Array.getElem?_toList]
    obtain ⟨k0, k1⟩ := flF_get ys k hk
    refine ⟨g, 0, rfl, lt_of_block hg, ?_, ?_⟩
    · rw [Nat.zero_add, cl _ (by omega)]; exact k0
    · rw [Nat.zero_add, cl _ (by omega)]; exact k1
end Go.Proofs.YtdkomlgkkepioaaDoor

