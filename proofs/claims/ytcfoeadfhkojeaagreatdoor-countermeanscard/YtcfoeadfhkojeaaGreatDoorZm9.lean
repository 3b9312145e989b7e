/-
  What the last text of this claim leans on, part 9: Cb5, Ce1.
-/
import Derived.Test.YtcfoeadfhkojeaaGreatDoorZm8
import Derived.Test.YtcfoeadfhkojeaaGreatDoorZm5
import Derived.Test.YtcfoeadfhkojeaaGreatDoorZm6
import Derived.Maps.AppendAt
import Derived.Deep.AppendLies
namespace Go.Proofs.YtcfoeadfhkojeaaGreatDoor
open Go.RowKit
set_option linter.unusedVariables false
/-- Fractions that lie in a row. -/
structure ArgF (w : World) (xs : List FraT) (a : Option Addr) (n c : Nat) : Prop where
  len : n = xs.length
  max : n ≤ 9223372036854775807
  cells : ∀ k (h : k < xs.length), ∃ g off, a = some ⟨g, off, none⟩ ∧ g < w.heap.size ∧ w.cell? ⟨g, off + k * 2, none⟩ = some (.int .i64 xs[k].1) ∧ w.cell? ⟨g, off + k * 2 + 1, none⟩ = some (.int .i64 xs[k].2)
  fit : ∀ k (h : k < xs.length), xs[k].1 ≤ 9223372036854775807 ∧ xs[k].2 ≤ 9223372036854775807
theorem ArgF.below {w w' : World} {xs : List FraT} {a : Option Addr} {n c : Nat} {B : Nat} (h : ArgF w xs a n c) (hb : Below w.heap.size w w') : ArgF w' xs a n c :=
  ⟨h.len, h.max, fun k hk => by
    obtain ⟨g, off, e, hg, h1, h2⟩ := h.cells k hk
    have b := hb.block g hg
    exact ⟨g, off, e, Nat.lt_of_lt_of_le hg hb.size, (World.cell?_of_block (w := w) (a := ⟨g, off + k * 2, none⟩) b).trans h1, (World.cell?_of_block (w := w) (a := ⟨g, off + k * 2 + 1, none⟩) b).trans h2⟩, h.fit⟩
def fraB (p : FraT) : Bool := decide (1 ≤ p.1) && decide (1 ≤ p.2)
/-- What is wrong with a game. -/
def playE (xs : List FraT) (n f : Int) : Nat := if xs.all fraB then (if n < 1 then 1 else fuelE f) else 1
set_option maxRecDepth 100000 in
set_option maxHeartbeats 3200000 in
theorem checkPlay_any (xs : List FraT) (a : Option Addr) (m c : Nat) (n f : Int) (w : World) (hP : ArgF w xs a m c) :
    Calls Tryz.prog 27 #[.slice a m c, .int .i64 n, .int .i64 f] w fun e w' => e = .returned (errOf (playE xs n f)) ∧ Below w.heap.size w w' := by
  have HL := hide' hP.len
  have nm := hP.max
  have HP := hide' (fun (V : World) (h : Below w.heap.size w V) => hP.below (B := 0) h)
  have FU := hide' (fun V => checkFuel_any f V)
  clear hP
  go_enter Tryz.func27, Tryz.ntmps27
  go_wp2
  go_loopw [11] (fun kv wr => ∃ k : Nat, kv = .int .i64 (k : Int) ∧ k ≤ m ∧ Hid (Below w.heap.size w wr) ∧ Hid (∀ j (h : j < xs.length), j < k → fraB xs[j] = true)) (fun kv _ => m - (intOf kv).toNat)
  case atStart => exact ⟨0, rfl, by omega, hide' (Below.refl _ _), hide' (fun j h hj => by omega)⟩
  case round =>
    obtain ⟨k, rfl, hk, BW, HA⟩ := hrel
    by_cases d : (k : Int) < (m : Int)
    · have hkl : k < xs.length := by have := HL.out; omega
      obtain ⟨g, off, rfl, hg, c0, c1⟩ := (HP.out wr BW.out).cells k hkl
      obtain ⟨⟨x, y⟩, hx⟩ : ∃ x, xs[k] = x := ⟨_, rfl⟩
      rw [hx] at c0 c1
      simp only at c0 c1
      have HX := hide' hx
      have BN := hide' (show Below w.heap.size w (wr.alloc (.cells #[.int .i64 x, .int .i64 y] 69)) from BW.out.alloc BW.out.size _)
      clear hx
      have BAD := hide' (show fraB (x, y) = false → playE xs n f = 1 from fun q => by
        unfold playE
        rw [if_neg]
        intro al
        have := List.all_eq_true.1 al xs[k] (List.getElem_mem hkl)
        rw [HX.out, q] at this
        cases this)
      by_cases x1 : x < 1
      · have X := hide' (BAD.out (by unfold fraB; simp; omega))
        by_cases y1 : y < 1
        all_goals
          go_wp2
          go_ret
          rw [X.out]; exact ⟨rfl, BN.out⟩
      · by_cases y1 : y < 1
        · have X := hide' (BAD.out (by unfold fraB; simp; omega))
          go_wp2
          go_ret
          rw [X.out]; exact ⟨rfl, BN.out⟩
        · have X := hide' (show fraB xs[k] = true by rw [HX.out]; unfold fraB; simp; omega)
          go_wp2
          refine ⟨⟨k + 1, by go_num, by omega, BN, hide' fun j h hj => ?_⟩, by simp [intOf]; omega⟩
          by_cases e : j = k
          · subst e; exact X.out
          · exact HA.out j h (by omega)
    · have AL := hide' (show xs.all fraB = true from List.all_eq_true.2 fun p hp => by
        obtain ⟨j, hj, rfl⟩ := List.getElem_of_mem hp
        exact HA.out j hj (by have := HL.out; omega))
      by_cases n1 : n < 1
      · have X := hide' (show playE xs n f = 1 by unfold playE; rw [if_pos AL.out, if_pos n1])
        go_wp2
        go_ret
        rw [X.out]; exact ⟨rfl, BW.out⟩
      · have X := hide' (show playE xs n f = fuelE f by unfold playE; rw [if_pos AL.out, if_neg n1])
        go_wp2_with fail
        refine (FU.out _).mono ?_
        rintro e w2 ⟨rfl, rfl⟩
        go_wp2
        go_ret
        rw [X.out]; exact ⟨rfl, BW.out⟩
/-- The first of them for which n times it is whole. -/
def firstF (n : Nat) (xs : List FraT) : Option FraT := xs.find? fun p => fitsF n p.1.toNat p.2.toNat
def nextF (n : Nat) (p : FraT) : Nat := n * p.1.toNat / p.2.toNat
/-- What a game comes to: the number, how often, what is wrong. -/
def goG (xs : List FraT) : Nat → Nat → Nat → Nat × Nat × Nat
  | 0, n, k => match firstF n xs with | none => (n, k, 0) | some _ => (n, k, 6)
  | f + 1, n, k => match firstF n xs with | none => (n, k, 0) | some p => if 4611686018427387904 < nextF n p then (n, k, 4) else goG xs f (nextF n p) (k + 1)
theorem goG_end {xs : List FraT} {f n k : Nat} (h : firstF n xs = none) : goG xs f n k = (n, k, 0) := by cases f <;> simp [goG, h]
theorem goG_long {xs : List FraT} {n k : Nat} {p : FraT} (h : firstF n xs = some p) : goG xs 0 n k = (n, k, 6) := by simp [goG, h]
theorem goG_full {xs : List FraT} {f n k : Nat} {p : FraT} (h : firstF n xs = some p) (hf : 4611686018427387904 < nextF n p) : goG xs (f + 1) n k = (n, k, 4) := by simp [goG, h, hf]
theorem goG_next {xs : List FraT} {f n k : Nat} {p : FraT} (h : firstF n xs = some p) (hf : ¬ 4611686018427387904 < nextF n p) : goG xs (f + 1) n k = goG xs f (nextF n p) (k + 1) := by simp [goG, h, hf]
theorem first_at {n : Nat} : ∀ {xs : List FraT} {k : Nat} (hk : k < xs.length), (∀ j (h : j < xs.length), j < k → fitsF n xs[j].1.toNat xs[j].2.toNat = false) → fitsF n xs[k].1.toNat xs[k].2.toNat = true → firstF n xs = some xs[k]
  | p :: r, 0, _, _, h => by unfold firstF; rw [List.find?_cons_of_pos (by exact h)]; rfl
  | p :: r, k + 1, hk, h1, h2 => by
    have h0 := h1 0 (by simp) (by omega)
    have ih := first_at (xs := r) (k := k) (by simpa using hk) (fun j hj hjk => by have := h1 (j + 1) (by simp; omega) (by omega); simpa using this) (by simpa using h2)
    unfold firstF at ih ⊢
    rw [List.find?_cons_of_neg (by simpa using h0), ih]; rfl
theorem first_none {n : Nat} {xs : List FraT} (h : ∀ j (h : j < xs.length), fitsF n xs[j].1.toNat xs[j].2.toNat = false) : firstF n xs = none := by
  unfold firstF
  rw [List.find?_eq_none]
  intro p hp
  obtain ⟨j, hj, rfl⟩ := List.getElem_of_mem hp
  rw [h j hj]; simp
end Go.Proofs.YtcfoeadfhkojeaaGreatDoor

namespace Go.Proofs.YtcfoeadfhkojeaaGreatDoor
open Go.RowKit
set_option linter.unusedVariables false
def prN (i : Nat) : Nat := primT.getD i 0
theorem prN_le (i : Nat) : prN i ≤ 107 := by
  unfold prN
  rcases Nat.lt_or_ge i 28 with h | h
  · have : ∀ j : Fin 28, primT.getD j.val 0 ≤ 107 := by decide
    exact this ⟨i, h⟩
  · have : primT.length = 28 := by decide
    rw [show primT.getD i 0 = 0 by simp [List.getD, List.getElem?_eq_none (show primT.length ≤ i by omega)]]; omega
def natF (a b : Nat) : FraT := ((a : Int), (b : Int))
/-- What a line becomes. -/
def lineF (k : Nat) (p : InsT) : List FraT :=
  if p.1 = 1 then [natF (prN p.2.1.toNat * prN (5 + 2 * p.2.2.1.toNat)) (prN (4 + 2 * k))]
  else if p.1 = 2 then [natF (prN (5 + 2 * p.2.2.1.toNat)) (prN (4 + 2 * k) * prN p.2.1.toNat), natF (prN (5 + 2 * p.2.2.2.toNat)) (prN (4 + 2 * k))]
  else []
def linesF (xs : List InsT) : Nat → List FraT
  | 0 => []
  | k + 1 => linesF xs k ++ lineF k (lnM xs k)
def endsF : Nat → List FraT
  | 0 => []
  | k + 1 => endsF k ++ [natF (prN (4 + 2 * k)) (prN (5 + 2 * k))]
/-- The fractions of a machine. -/
def fraL (xs : List InsT) : List FraT := linesF xs xs.length ++ endsF xs.length
theorem lineF_len (k : Nat) (p : InsT) : (lineF k p).length ≤ 2 := by unfold lineF; split; simp; split <;> simp
theorem linesF_len (xs : List InsT) : ∀ k, (linesF xs k).length ≤ 2 * k
  | 0 => by simp [linesF]
  | k + 1 => by have := linesF_len xs k; have := lineF_len k (lnM xs k); simp only [linesF, List.length_append]; omega
theorem endsF_len : ∀ k, (endsF k).length = k
  | 0 => rfl
  | k + 1 => by simp [endsF, endsF_len k]
/-- The table of primes, as it lies. -/
def PrT (w : World) : Prop := ∀ k, k < 28 → w.cell? ⟨2, k, none⟩ = some (.int .i64 (prN k : Int))
theorem PrT.lt {w : World} (h : PrT w) : 2 < w.heap.size := by
  rcases Nat.lt_or_ge 2 w.heap.size with q | q
  · exact q
  · have := h 0 (by omega)
    simp [World.cell?, Array.getElem?_eq_none q] at this
theorem PrT.below {w w' : World} {B : Nat} (h : PrT w) (hb : Below B w w') (hB : 2 < B) : PrT w' := fun j hj => (World.cell?_of_block (w := w) (a := ⟨2, j, none⟩) (hb.block _ hB)).trans (h j hj)
set_option maxRecDepth 100000 in
theorem stand_any (k : Nat) (hk : k < 12) (w : World) (h : PrT w) : Calls Tryz.prog 26 #[.int .i64 (k : Int)] w fun e w' => e = .returned (.int .i64 (prN (4 + 2 * k) : Int)) ∧ w' = w := by
  have c := h (4 + 2 * k) (by omega)
  obtain ⟨j, hj⟩ : ∃ j, 4 + 2 * k = j := ⟨_, rfl⟩
  have e1 : wrap64 (4 + wrap64 (2 * (k : Int))) = (j : Int) := by simp [wrap64]; omega
  have e2 : (4 : Int) + 2 * (k : Int) = (j : Int) := by omega
  have e3 : IntKind.i64.wrap (2 * (k : Int)) = 2 * (k : Int) := by simp [IntKind.wrap, IntKind.bits, IntKind.signed]; omega
  rw [hj] at c ⊢
  have j0 : (0 : Int) ≤ (j : Int) := by omega
  have j28 : (j : Int) < 28 := by omega
  clear hj h
  go_enter Tryz.func26, Tryz.ntmps26
  go_wp2
  go_ret
  exact ⟨rfl, rfl⟩
set_option maxRecDepth 100000 in
theorem come_any (k : Nat) (hk : k < 12) (w : World) (h : PrT w) : Calls Tryz.prog 25 #[.int .i64 (k : Int)] w fun e w' => e = .returned (.int .i64 (prN (5 + 2 * k) : Int)) ∧ w' = w := by
  have c := h (5 + 2 * k) (by omega)
  obtain ⟨j, hj⟩ : ∃ j, 5 + 2 * k = j := ⟨_, rfl⟩
  have e2 : (4 : Int) + 2 * (k : Int) + 1 = (j : Int) := by omega
  rw [hj] at c ⊢
  have j0 : (0 : Int) ≤ (j : Int) := by omega
  have j28 : (j : Int) < 28 := by omega
  clear hj h
  go_enter Tryz.func25, Tryz.ntmps25
  go_wp2
  go_ret
  exact ⟨rfl, rfl⟩
def flF (ys : List FraT) : List Value := ys.flatMap fun p => [.int .i64 p.1, .int .i64 p.2]
theorem flF_append (xs ys : List FraT) : flF (xs ++ ys) = flF xs ++ flF ys := by unfold flF; simp
theorem flF_get : ∀ (ys : List FraT) (k : Nat) (hk : k < ys.length), (flF ys)[k * 2]? = some (.int .i64 ys[k].1) ∧ (flF ys)[k * 2 + 1]? = some (.int .i64 ys[k].2)
  | p :: r, 0, hk => by unfold flF; simp
  | p :: r, k + 1, hk => by
    have ih := flF_get r k (by simpa using hk)
    unfold flF at *
    simp only [List.flatMap_cons, List.getElem_cons_succ]
    rw [List.getElem?_append_right (by show 2 ≤ (k + 1) * 2; omega), List.getElem?_append_right (by show 2 ≤ (k + 1) * 2 + 1; omega)]
    show (_ : List Value)[(k + 1) * 2 - 2]? = _ ∧ (_ : List Value)[(k + 1) * 2 + 1 - 2]? = _
    rw [show (k + 1) * 2 - 2 = k * 2 by omega, show (k + 1) * 2 + 1 - 2 = k * 2 + 1 by omega]
    exact ih
theorem one_flF (ys : List FraT) : ∀ u ∈ flF ys, u.oneCell' = true := fun u hu => by
  unfold flF at hu
  obtain ⟨p, -, hp⟩ := List.mem_flatMap.1 hu
  simp at hp
  rcases hp with rfl | rfl <;> rfl
theorem info_fra : (Tryz.prog.info? 69).map (fun i => (i.zero, i.size, i.bytes)) = some (some (.agg #[.int .i64 0, .int .i64 0]), 2, 16) := by kernel_rfl
/-- A list of fractions of one's own, as a list that may be read. -/
theorem own_argF {w : World} {base : Nat} {a : Option Addr} {q : Nat} {ys : List FraT} (h : w.ownsRow base 69 2 (.slice a ys.length q) ys.length (flF ys)) (hf : ∀ p ∈ ys, p.1 ≤ 9223372036854775807 ∧ p.2 ≤ 9223372036854775807) : ArgF w ys a ys.length q := by
  rcases h.2 with ⟨e, h0⟩ | ⟨g, cap, cur, e, hb, hg, hn, hm, hs, ht⟩
  · obtain rfl : ys = [] := List.eq_nil_of_length_eq_zero h0
    exact ⟨rfl, by simp, (fun k hk => by cases hk), fun k hk => by cases hk⟩
  · cases e
    have cm : ys.length ≤ 9223372036854775807 := by unfold maxLen at hm; omega
    refine ⟨rfl, by omega, fun k hk => ?_, fun k hk => hf _ (List.getElem_mem hk)⟩
    have cl : ∀ i, i < ys.length * 2 → w.cell? ⟨g, i, none⟩ = (flF ys)[i]? := fun i hi => by
      rw [cell_of_row w _ _ _ _ _ hg, ← ht, List.getElem?_take_of_lt (by omega), Array.getElem?_toList]
    obtain ⟨k0, k1⟩ := flF_get ys k hk
    refine ⟨g, 0, rfl, lt_of_block hg, ?_, ?_⟩
    · rw [Nat.zero_add, cl _ (by omega)]; exact k0
    · rw [Nat.zero_add, cl _ (by omega)]; exact k1
end Go.Proofs.YtcfoeadfhkojeaaGreatDoor

