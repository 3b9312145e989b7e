/-
  What the last text of this claim leans on, part 10: Ha6, Hb1, Ha7.
-/
import Derived.Test.YtemhcpldflcfbaaGreatDoorYf9
import Derived.Test.YtemhcpldflcfbaaGreatDoorYf3
import Derived.Laws.BitsAllLaws
namespace Go.Proofs.YtemhcpldflcfbaaGreatDoor
open Go.RowKit
set_option linter.unusedVariables false
theorem sideI_nat (n : Nat) : sideI n = ((2 ^ (n + 3) : Nat) : Int) := by
 unfold sideI
 rw [Nat.pow_add]
 push_cast
 omega
theorem sideI_le {n : Nat} (h : n ≤ 45) : sideI n ≤ 281474976710656 := by
 rw [sideI_nat]
 have : 2 ^ (n + 3) ≤ 2 ^ 48 := Nat.pow_le_pow_right (by omega) (by omega)
 omega
def apartB (n : Nat) (x y : Int) (W H : Nat) : Bool := decide ((W : Int) ≤ x ∨ (H : Int) ≤ y ∨ x + sideI n ≤ 0 ∨ y + sideI n ≤ 0)
def BoolP (b : Bool) (w : World) (e : Ending) (w' : World) : Prop := e = .returned (.bool b) ∧ Below w.heap.size w w'
set_option maxRecDepth 100000 in
set_option maxHeartbeats 3200000 in
theorem isApart_any (n L : Nat) (x y : Int) (W H : Nat) (a : Option Addr) (m c : Nat) (w : World) (hL : L = n + 3) (hn : n ≤ 45) (hx : -576460752303423488 ≤ x ∧ x ≤ 576460752303423488) (hy : -576460752303423488 ≤ y ∧ y ≤ 576460752303423488) :
  Calls Tryz.prog 69 #[.int .i64 (L : Int), .int .i64 x, .int .i64 y, .agg #[.int .i64 (W : Int), .int .i64 (H : Int), .slice a m c]] w (BoolP (apartB n x y W H) w) := by
 obtain ⟨sd, hsd⟩ : ∃ sd, sideI n = sd := ⟨_, rfl⟩
 have b1 := sideI_le hn
 have b2 := sideI_pos n
 have e1 : wrap64 (2 ^ L) = sd := by
  have : (2 : Int) ^ L = sd := by rw [hL, ← hsd, sideI_nat]; push_cast; rfl
  rw [this]; unfold wrap64; omega
 have hL2 : L ≤ 48 := by omega
 have e2 : wrap64 (x + sd) = x + sd := by unfold wrap64; omega
 have e3 : wrap64 (y + sd) = y + sd := by unfold wrap64; omega
 have AP := hide' (show apartB n x y W H = decide ((W : Int) ≤ x ∨ (H : Int) ≤ y ∨ x + sd ≤ 0 ∨ y + sd ≤ 0) by unfold apartB; rw [hsd])
 have BB := hide' (show Below w.heap.size w (w.alloc (.cells #[.int .i64 (W : Int), .int .i64 (H : Int), .slice a m c] 26)) from (Below.refl _ _).alloc (Nat.le_refl _) _)
 clear hsd b1 b2 hx hy hL hn
 by_cases c1 : (W : Int) ≤ x
 ·go_enter Tryz.func69, Tryz.ntmps69
  go_wp2
  go_ret
  exact ⟨by rw [AP.out, decide_eq_true (Or.inl c1)]; rfl, BB.out⟩
 ·by_cases c2 : (H : Int) ≤ y
  ·go_enter Tryz.func69, Tryz.ntmps69
   go_wp2
   go_ret
   exact ⟨by rw [AP.out, decide_eq_true (Or.inr (Or.inl c2))]; rfl, BB.out⟩
  ·by_cases c3 : x + sd ≤ 0
   ·go_enter Tryz.func69, Tryz.ntmps69
    go_wp2
    go_ret
    exact ⟨by rw [AP.out, decide_eq_true (Or.inr (Or.inr (Or.inl c3)))]; rfl, BB.out⟩
   ·by_cases c4 : y + sd ≤ 0
    ·go_enter Tryz.func69, Tryz.ntmps69
     go_wp2
     go_ret
     exact ⟨by rw [AP.out, decide_eq_true (Or.inr (Or.inr (Or.inr c4)))]; rfl, BB.out⟩
    ·go_enter Tryz.func69, Tryz.ntmps69
     go_wp2
     go_ret
     exact ⟨by rw [AP.out, decide_eq_false (fun h => by clear e1 e2 e3 AP BB; omega)]; rfl, BB.out⟩
def inB (x y : Int) (W H : Nat) : Bool := decide (0 ≤ x ∧ x < W ∧ 0 ≤ y ∧ y < H)
def WiP (x y : Int) (W H : Nat) (w : World) (e : Ending) (w' : World) : Prop := (∃ v : Int, e = .returned (.tuple #[.int .i64 v, .bool (inB x y W H)]) ∧ (inB x y W H = true → v = y * W + x)) ∧ Below w.heap.size w w'
set_option maxRecDepth 100000 in
set_option maxHeartbeats 3200000 in
theorem within_any (x y : Int) (W H : Nat) (a : Option Addr) (m c : Nat) (w : World) (hW : W ≤ 100) (hH : H ≤ 100) :
  Calls Tryz.prog 71 #[.int .i64 x, .int .i64 y, .agg #[.int .i64 (W : Int), .int .i64 (H : Int), .slice a m c]] w (WiP x y W H w) := by
 obtain ⟨w1, hw1⟩ : ∃ w1, w.alloc (.cells #[.int .i64 (W : Int), .int .i64 (H : Int), .slice a m c] 26) = w1 := ⟨_, rfl⟩
 have BB := hide' (show Below w.heap.size w w1 by rw [← hw1]; exact (Below.refl _ _).alloc (Nat.le_refl _) _)
 have F1 := hide' (show w1.heap[w.heap.size]? = some (.cells #[.int .i64 (W : Int), .int .i64 (H : Int), .slice a m c] 26 (0, 0)) by rw [← hw1]; exact heap_alloc_new _ _)
 have HW1 := hide' hw1
 have y0 := cell_of_row w1 _ 0 _ _ _ F1.out
 have y1 := cell_of_row w1 _ 1 _ _ _ F1.out
 simp at y0 y1
 obtain ⟨vm, hvm⟩ : ∃ vm, wrap64 (y * (W : Int)) = vm := ⟨_, rfl⟩
 have VV := hide' (show inB x y W H = true → wrap64 (vm + x) = y * W + x from fun h => by
  have h := of_decide_eq_true h
  have h0 : 0 ≤ y * (W : Int) := Int.mul_nonneg h.2.2.1 (by omega)
  have h1 : y * (W : Int) ≤ 100 * 100 := Int.mul_le_mul (by omega) (by omega) (by omega) (by omega)
  rw [← hvm]
  unfold wrap64
  generalize y * (W : Int) = z at h0 h1
  omega)
 clear hw1
 have fin : ∀ (t : Bool) (V : World), (t = inB x y W H) → (∃ q, V = w1.drewN q) → WiP x y W H w (.returned (.tuple #[.int .i64 (wrap64 (vm + x)), .bool t])) V := fun t V h1 h2 => by
  subst h1
  obtain ⟨q, rfl⟩ := h2
  exact ⟨⟨_, rfl, VV.out⟩, below_drewN BB.out q⟩
 have FIN := hide' fin
 clear fin
 by_cases c1 : 0 ≤ x
 ·by_cases c2 : x < (W : Int)
  ·by_cases c3 : 0 ≤ y
   ·by_cases c4 : y < (H : Int)
    ·have IB := hide' (show inB x y W H = true from decide_eq_true ⟨c1, c2, c3, c4⟩)
     go_enter Tryz.func71, Tryz.ntmps71
     go_upto_region 1 with fail
     rw [HW1.out]
     go_quiet (fail)
     go_wp2
     go_ret2
     exact FIN.out _ _ (IB.out.symm) ⟨_, rfl⟩
    ·have IB := hide' (show inB x y W H = false from decide_eq_false (fun h => c4 h.2.2.2))
     go_enter Tryz.func71, Tryz.ntmps71
     go_upto_region 1 with fail
     rw [HW1.out]
     go_quiet (fail)
     go_wp2
     go_ret2
     exact FIN.out _ _ (IB.out.symm) ⟨_, rfl⟩
   ·have IB := hide' (show inB x y W H = false from decide_eq_false (fun h => c3 h.2.2.1))
    go_enter Tryz.func71, Tryz.ntmps71
    go_upto_region 1 with fail
    rw [HW1.out]
    go_quiet (fail)
    go_wp2
    go_ret2
    exact FIN.out _ _ (IB.out.symm) ⟨_, rfl⟩
  ·have IB := hide' (show inB x y W H = false from decide_eq_false (fun h => c2 h.2.1))
   go_enter Tryz.func71, Tryz.ntmps71
   go_upto_region 1 with fail
   rw [HW1.out]
   go_quiet (fail)
   go_wp2
   go_ret2
   exact FIN.out _ _ (IB.out.symm) ⟨_, rfl⟩
 ·have IB := hide' (show inB x y W H = false from decide_eq_false (fun h => c1 h.1))
  go_enter Tryz.func71, Tryz.ntmps71
  go_upto_region 1 with fail
  rw [HW1.out]
  go_quiet (fail)
  go_wp2
  go_ret2
  exact FIN.out _ _ (IB.out.symm) ⟨_, rfl⟩
def hasB (n : Nat) (fr fd u v : Int) : Bool := decide (0 ≤ u - fr ∧ u - fr < sideI n ∧ 0 ≤ v - fd ∧ v - fd < sideI n)
set_option maxRecDepth 100000 in
set_option maxHeartbeats 3200000 in
theorem has_any (n L sb : Nat) (rt : Int) (fr fd u v : Int) (w : World) (hL : L = n + 3) (hn : n ≤ 45) (h1 : -576460752303423488 ≤ fr ∧ fr ≤ 576460752303423488) (h2 : -576460752303423488 ≤ fd ∧ fd ≤ 576460752303423488) (h3 : -576460752303423488 ≤ u ∧ u ≤ 576460752303423488) (h4 : -576460752303423488 ≤ v ∧ v ≤ 576460752303423488) :
  Calls Tryz.prog 51 #[.agg #[.pointer (some ⟨sb, 0, none⟩), .int .i32 rt, .int .i64 (L : Int), .int .i64 fr, .int .i64 fd], .int .i64 u, .int .i64 v] w (BoolP (hasB n fr fd u v) w) := by
 obtain ⟨sd, hsd⟩ : ∃ sd, sideI n = sd := ⟨_, rfl⟩
 have b1 := sideI_le hn
 have b2 := sideI_pos n
 have e1 : wrap64 (2 ^ L) = sd := by
  have : (2 : Int) ^ L = sd := by rw [hL, ← hsd, sideI_nat]; push_cast; rfl
  rw [this]; unfold wrap64; omega
 have hL2 : L ≤ 48 := by omega
 obtain ⟨p, hp⟩ : ∃ p, u - fr = p := ⟨_, rfl⟩
 obtain ⟨q, hq⟩ : ∃ q, v - fd = q := ⟨_, rfl⟩
 have e2 : wrap64 (u - fr) = p := by rw [← hp]; unfold wrap64; omega
 have e3 : wrap64 (v - fd) = q := by rw [← hq]; unfold wrap64; omega
 have AP := hide' (show hasB n fr fd u v = decide (0 ≤ p ∧ p < sd ∧ 0 ≤ q ∧ q < sd) by unfold hasB; rw [hsd, hp, hq])
 obtain ⟨w1, hw1⟩ : ∃ w1, w.alloc (.cells #[.pointer (some ⟨sb, 0, none⟩), .int .i32 rt, .int .i64 (L : Int), .int .i64 fr, .int .i64 fd] 72) = w1 := ⟨_, rfl⟩
 have BB := hide' (show Below w.heap.size w w1 by rw [← hw1]; exact (Below.refl _ _).alloc (Nat.le_refl _) _)
 have F1 := hide' (show w1.heap[w.heap.size]? = some (.cells #[.pointer (some ⟨sb, 0, none⟩), .int .i32 rt, .int .i64 (L : Int), .int .i64 fr, .int .i64 fd] 72 (0, 0)) by rw [← hw1]; exact heap_alloc_new _ _)
 have HW1 := hide' hw1
 have y2 := cell_of_row w1 _ 2 _ _ _ F1.out
 have y3 := cell_of_row w1 _ 3 _ _ _ F1.out
 have y4 := cell_of_row w1 _ 4 _ _ _ F1.out
 simp at y2 y3 y4
 clear hsd b1 b2 h1 h2 h3 h4 hp hq hw1 hL hn
 have fin : ∀ (t : Bool) (V : World), (t = hasB n fr fd u v) → (∃ q, V = w1.drewN q) → BoolP (hasB n fr fd u v) w (.returned (.bool t)) V := fun t V h1 h2 => by
  subst h1
  obtain ⟨q, rfl⟩ := h2
  exact ⟨rfl, below_drewN BB.out q⟩
 have FIN := hide' fin
 clear fin
 by_cases c1 : 0 ≤ p
 ·by_cases c2 : p < sd
  ·by_cases c3 : 0 ≤ q
   ·by_cases c4 : q < sd
    ·have IB := hide' (show hasB n fr fd u v = true by rw [AP.out]; exact decide_eq_true ⟨c1, c2, c3, c4⟩)
     go_enter Tryz.func51, Tryz.ntmps51
     go_upto_region 1 with fail
     rw [HW1.out]
     go_upto_region 2 with fail
     go_quiet (fail)
     go_wp2
     go_ret
     exact FIN.out _ _ (IB.out.symm) ⟨_, rfl⟩
    ·have IB := hide' (show hasB n fr fd u v = false by rw [AP.out]; exact decide_eq_false (fun h => c4 h.2.2.2))
     go_enter Tryz.func51, Tryz.ntmps51
     go_upto_region 1 with fail
     rw [HW1.out]
     go_upto_region 2 with fail
     go_quiet (fail)
     go_wp2
     go_ret
     exact FIN.out _ _ (IB.out.symm) ⟨_, rfl⟩
   ·have IB := hide' (show hasB n fr fd u v = false by rw [AP.out]; exact decide_eq_false (fun h => c3 h.2.2.1))
    go_enter Tryz.func51, Tryz.ntmps51
    go_upto_region 1 with fail
    rw [HW1.out]
    go_upto_region 2 with fail
    go_quiet (fail)
    go_wp2
    go_ret
    exact FIN.out _ _ (IB.out.symm) ⟨_, rfl⟩
  ·have IB := hide' (show hasB n fr fd u v = false by rw [AP.out]; exact decide_eq_false (fun h => c2 h.2.1))
   go_enter Tryz.func51, Tryz.ntmps51
   go_upto_region 1 with fail
   rw [HW1.out]
   go_upto_region 2 with fail
   go_quiet (fail)
   go_wp2
   go_ret
   exact FIN.out _ _ (IB.out.symm) ⟨_, rfl⟩
 ·have IB := hide' (show hasB n fr fd u v = false by rw [AP.out]; exact decide_eq_false (fun h => c1 h.1))
  go_enter Tryz.func51, Tryz.ntmps51
  go_upto_region 1 with fail
  rw [HW1.out]
  go_upto_region 2 with fail
  go_quiet (fail)
  go_wp2
  go_ret
  exact FIN.out _ _ (IB.out.symm) ⟨_, rfl⟩
def cellF (W : Nat) (xs : List Int) (u v : Int) : Int := xs.getD (v * W + u).toNat 0
def setB (k j c : Nat) : Nat := (k &&& (18446744073709551615 - 2 ^ j)) ||| (c * 2 ^ j)
theorem setB_test {k j c i : Nat} (hk : k < 2 ^ 64) (hj : j < 64) (hc : c ≤ 1) (hi : i < 64) : (setB k j c).testBit i = if i = j then decide (c = 1) else k.testBit i := by
 unfold setB
 rw [Nat.testBit_or, Nat.testBit_and, show 18446744073709551615 - 2 ^ j = 2 ^ 64 - (2 ^ j + 1) by omega, Nat.testBit_two_pow_sub_succ (Nat.pow_lt_pow_right (by omega) hj), Nat.testBit_two_pow, Nat.testBit_mul_two_pow]
 by_cases e : i = j
 ·subst e
  have : c = 0 ∨ c = 1 := by omega
  rcases this with rfl | rfl <;> simp
 ·rw [if_neg e]
  have h1 : decide (j = i) = false := by simp; omega
  have h2 : decide (i < 64) = true := by simp; omega
  rw [h1, h2]
  by_cases d : j ≤ i
  ·have : c.testBit (i - j) = false := Nat.testBit_lt_two_pow (Nat.lt_of_le_of_lt hc (Nat.one_lt_two_pow (by omega)))
   simp [this]
  ·simp [show ¬ j ≤ i from d]
theorem setB_lt {k j c : Nat} (hk : k < 2 ^ 64) (hj : j < 64) (hc : c ≤ 1) : setB k j c < 2 ^ 64 := by
 unfold setB
 refine Nat.or_lt_two_pow (Nat.lt_of_le_of_lt Nat.and_le_left hk) ?_
 have h1 : c * 2 ^ j ≤ 1 * 2 ^ j := Nat.mul_le_mul_right _ hc
 have h2 : 2 ^ j < 2 ^ 64 := Nat.pow_lt_pow_right (by omega) hj
 omega
def LKn (W H : Nat) (xs : List Int) (x y : Int) (k j kj : Nat) : Prop := kj < 2 ^ 64 ∧ ∀ i, i < 64 → kj.testBit i = if i < j ∧ inP W H (x + (i : Int) % 8) (y + (i : Int) / 8) then decide (cellF W xs (x + (i : Int) % 8) (y + (i : Int) / 8) = 1) else k.testBit i
theorem LKn.zero {W H : Nat} {xs : List Int} {x y : Int} {k : Nat} (hk : k < 2 ^ 64) : LKn W H xs x y k 0 k := ⟨hk, fun i hi => by rw [if_neg (by omega)]⟩
theorem LKn.skip {W H : Nat} {xs : List Int} {x y : Int} {k j kj : Nat} (h : LKn W H xs x y k j kj) (hn : ¬ inP W H (x + (j : Int) % 8) (y + (j : Int) / 8)) : LKn W H xs x y k (j + 1) kj := ⟨h.1, fun i hi => by
 rw [h.2 i hi]
 by_cases e : i = j
 ·subst e; rw [if_neg (fun q => hn q.2), if_neg (fun q => hn q.2)]
 ·congr 1
  apply propext
  constructor
  ·rintro ⟨a, b⟩; exact ⟨by omega, b⟩
  ·rintro ⟨a, b⟩; exact ⟨by omega, b⟩⟩
theorem LKn.put {W H : Nat} {xs : List Int} {x y : Int} {k j kj c : Nat} (h : LKn W H xs x y k j kj) (hj : j < 64) (hn : inP W H (x + (j : Int) % 8) (y + (j : Int) / 8)) (hc : c ≤ 1) (he : cellF W xs (x + (j : Int) % 8) (y + (j : Int) / 8) = (c : Int)) : LKn W H xs x y k (j + 1) (setB kj j c) := ⟨setB_lt h.1 hj hc, fun i hi => by
 rw [setB_test h.1 hj hc hi]
 by_cases e : i = j
 ·subst e; rw [if_pos rfl, if_pos ⟨by omega, hn⟩, he]
  congr 1
  apply propext
  omega
 ·rw [if_neg e, h.2 i hi]
  congr 1
  apply propext
  constructor
  ·rintro ⟨a, b⟩; exact ⟨by omega, b⟩
  ·rintro ⟨a, b⟩; exact ⟨by omega, b⟩⟩
theorem bit_test (k : Nat) {X Y : Int} (h : 0 ≤ X ∧ X < 8 ∧ 0 ≤ Y ∧ Y < 8) : bitQ k X Y = ((k.testBit (8 * Y + X).toNat).toNat : Int) := by
 unfold bitQ; rw [if_pos h, Nat.toNat_testBit]
theorem LKn.done {W H : Nat} {xs : List Int} {x y : Int} {k kj : Nat} (h : LKn W H xs x y k 64 kj) (hb : ∀ i, 0 ≤ xs.getD i 0 ∧ xs.getD i 0 ≤ 1) {X Y : Int} (r : 0 ≤ X ∧ X < 8 ∧ 0 ≤ Y ∧ Y < 8) :
  (inP W H (x + X) (y + Y) → bitQ kj X Y = cellF W xs (x + X) (y + Y)) ∧ (¬ inP W H (x + X) (y + Y) → bitQ kj X Y = bitQ k X Y) := by
 obtain ⟨i, hi⟩ : ∃ i, (8 * Y + X).toNat = i := ⟨_, rfl⟩
 have il : i < 64 := by omega
 have e1 : (i : Int) % 8 = X := by omega
 have e2 : (i : Int) / 8 = Y := by omega
 have t := h.2 i il
 rw [e1, e2] at t
 rw [bit_test _ r, bit_test _ r, hi]
 constructor
 ·intro p
  rw [t, if_pos ⟨il, p⟩]
  have := hb ((y + Y) * W + (x + X)).toNat
  unfold cellF
  generalize xs.getD ((y + Y) * W + (x + X)).toNat 0 = z at this
  have : z = 0 ∨ z = 1 := by omega
  rcases this with rfl | rfl <;> rfl
 ·intro p
  rw [t, if_neg (fun q => p q.2)]
theorem ArgP.cellAt {w : World} {xs : List Int} {a : Option Addr} {n c : Nat} (h : ArgP w xs a n c) {i : Nat} (hi : i < xs.length) : ∃ g off, a = some ⟨g, off, none⟩ ∧ w.cell? ⟨g, off + i, none⟩ = some (.int .i64 (xs.getD i 0)) := by
 obtain ⟨g, off, e, -, hc⟩ := h.cells i hi
 exact ⟨g, off, e, by rw [hc]; simp [List.getD, hi]⟩
theorem set_bits {k j c : Nat} (hk : k < 2 ^ 64) (hj : j < 64) (hc : c ≤ 1) : bits BinOp.or IntKind.u64 (bits BinOp.andNot IntKind.u64 (k : Int) (IntKind.u64.wrap (2 ^ j))) (IntKind.u64.wrap ((c : Int) * 2 ^ j)) = ((setB k j c : Nat) : Int) := by
 have p : 2 ^ j < 2 ^ 64 := Nat.pow_lt_pow_right (by omega) hj
 have q : c * 2 ^ j ≤ 1 * 2 ^ j := Nat.mul_le_mul_right _ hc
 have e1 : IntKind.u64.wrap (2 ^ j) = ((2 ^ j : Nat) : Int) := by
  have : (2 : Int) ^ j = ((2 ^ j : Nat) : Int) := by push_cast; rfl
  rw [this]
  generalize 2 ^ j = z at p
  simp [IntKind.wrap, IntKind.bits, IntKind.signed]; omega
 have e2 : IntKind.u64.wrap ((c : Int) * 2 ^ j) = ((c * 2 ^ j : Nat) : Int) := by
  have : (c : Int) * (2 : Int) ^ j = ((c * 2 ^ j : Nat) : Int) := by push_cast; rfl
  rw [this]
  generalize c * 2 ^ j = z at q
  simp [IntKind.wrap, IntKind.bits, IntKind.signed]; omega
 rw [e1, e2, u64_andNot_nat k (2 ^ j) (by omega) (by omega), u64_or_nat _ _ (Nat.lt_of_le_of_lt Nat.and_le_left (by omega)) (by omega)]
 rfl
def cntQ : Nat → Nat
 | 0 => 1
 | n + 1 => 4 * cntQ n + 1
def LyP (sb B g : Nat) (W H : Nat) (xs : List Int) (qs : List Sq) (n t : Nat) (x y : Int) (w : World) (e : Ending) (w' : World) : Prop :=
 ∃ g' cap' qs' t', e = .returned (.int .i32 ((t' : Nat) : Int)) ∧ StkA w' sb B g' cap' qs' ∧ (∃ ms, qs' = qs ++ ms ∧ ms.length ≤ cntQ n) ∧ LayQ W H (cellF W xs) qs n t x y qs' t' ∧ KpS sb g g' w w'
set_option maxRecDepth 100000 in
set_option maxHeartbeats 3200000 in
theorem lay_eight (sb B g cap : Nat) (qs : List Sq) (t k : Nat) (x y : Int) (W H : Nat) (xs : List Int) (a : Option Addr) (m c : Nat) (w : World) (h : StkA w sb B g cap qs) (hB : B ≤ w.heap.size) (hn : qs.length ≤ 2000000) (ht : t < qs.length) (hk : (sqA qs t).k = k) (k64 : k < 2 ^ 64) (hx : -288230376151711744 ≤ x ∧ x ≤ 288230376151711744) (hy : -288230376151711744 ≤ y ∧ y ≤ 288230376151711744) (hW : W ≤ 100) (hH : H ≤ 100)
  (hP : ArgP w xs a m c) (hm : xs.length = W * H) (hb : ∀ i, 0 ≤ xs.getD i 0 ∧ xs.getD i 0 ≤ 1) (ap : apartB 0 x y W H = false) :
  Calls Tryz.prog 53 #[.pointer (some ⟨sb, 0, none⟩), .int .i32 (t : Int), .int .i64 3, .int .i64 x, .int .i64 y, .agg #[.int .i64 (W : Int), .int .i64 (H : Int), .slice a m c]] w (LyP sb B g W H xs qs 0 t x y w) := by
 have HK := hide' h
 obtain ⟨w1, hw1⟩ : ∃ w1, w.alloc (.cells #[.int .i64 (W : Int), .int .i64 (H : Int), .slice a m c] 26) = w1 := ⟨_, rfl⟩
 have B1 := hide' (show Below w.heap.size w w1 by rw [← hw1]; exact (Below.refl _ _).alloc (Nat.le_refl _) _)
 have F1 := hide' (show w1.heap[w.heap.size]? = some (.cells #[.int .i64 (W : Int), .int .i64 (H : Int), .slice a m c] 26 (0, 0)) by rw [← hw1]; exact heap_alloc_new _ _)
 have HW1 := hide' hw1
 have SV := hide' (fun (V : World) (hV : Below w1.heap.size w1 V) => show StkA V sb B g cap qs ∧ V.heap[w.heap.size]? = some (.cells #[.int .i64 (W : Int), .int .i64 (H : Int), .slice a m c] 26 (0, 0)) ∧ ArgP V xs a m c from
  have b := B1.out.trans (hV.mono B1.out.size)
  ⟨h.below b, (hV.block _ (lt_of_block F1.out)).trans F1.out, hP.below b⟩)
 have AP := hide' ap
 have HX := hide' hx
 have HY := hide' hy
 have HWH := hide' (And.intro hW hH)
 have HT := hide' ht
 have HM := hide' hm
 have HBT := hide' hb
 have HKK := hide' hk
 have K64 := hide' k64
 have HN := hide' hn
 have HBB := hide' hB
 obtain ⟨n, hnn⟩ : ∃ n, qs.length = n := ⟨_, rfl⟩
 have HNN := hide' hnn
 have y0 := cell_of_row w1 _ 0 _ _ _ F1.out
 have y1 := cell_of_row w1 _ 1 _ _ _ F1.out
 have y2 := cell_of_row w1 _ 2 _ _ _ F1.out
 simp at y0 y1 y2
 clear hw1 h hP ap hx hy ht hm hk hnn hb k64 hn hB
 go_enter Tryz.func53, Tryz.ntmps53
 go_upto_region 1 with fail
 rw [HW1.out]
 go_wp2_with fail
 refine (isApart_any 0 3 x y W H a m c w1 rfl (by omega) (by have := HX.out; omega) (by have := HY.out; omega)).mono ?_
 rw [AP.out]
 rintro e w2 ⟨rfl, b⟩
 have B2 := hide' b
 obtain ⟨K2, G2, P2⟩ := SV.out w2 b
 have c0 := cell_of_row w2 sb 0 _ _ _ K2.blk
 have lt := HT.out
 have c4 := (K2.cells lt).2.2.2.2.1
 simp at c0
 rw [HNN.out] at c0 lt
 rw [HKK.out] at c4
 have l1 : (t : Int) < (n : Int) := by omega
 clear b K2 G2 P2 lt y0 y1 y2
 go_upto_region 14 with fail
 go_loopw [17, 77] (fun kv iv wr => ∃ (j kj : Nat), iv = .int .i64 (j : Int) ∧ kv = .int .u64 (kj : Int) ∧ j ≤ 64 ∧ Hid (LKn W H xs x y k j kj) ∧ Hid (Below w1.heap.size w1 wr)) (fun _ iv _ => 64 - (intOf iv).toNat)
 case atStart => exact ⟨0, k, rfl, rfl, by omega, hide' (LKn.zero K64.out), B2⟩
 case round =>
  obtain ⟨j, kj, rfl, rfl, hj, HKJ, BW⟩ := hrel
  by_cases dj : j < 64
  ·have d1 : (j : Int) < 64 := by omega
   obtain ⟨K2, G2, P2⟩ := SV.out wr BW.out
   have y0 := cell_of_row wr _ 0 _ _ _ G2
   have y1 := cell_of_row wr _ 1 _ _ _ G2
   have y2 := cell_of_row wr _ 2 _ _ _ G2
   simp at y0 y1 y2
   clear K2 P2 c0 c4 l1
   obtain ⟨u, hu⟩ : ∃ u, x + (j : Int) % 8 = u := ⟨_, rfl⟩
   obtain ⟨v, hv⟩ : ∃ v, y + (j : Int) / 8 = v := ⟨_, rfl⟩
   have E1 := hide' (show wrap64 (x + (j : Int) % 8) = u by have := HX.out; rw [hu]; unfold wrap64; omega)
   have E2 := hide' (show wrap64 (y + (j : Int) / 8) = v by have := HY.out; rw [hv]; unfold wrap64; omega)
   have HU := hide' (And.intro hu hv)
   clear hu hv
   go_wp2_with fail
   rw [E1.out, E2.out]
   refine (within_any u v W H a m c wr HWH.out.1 HWH.out.2).mono ?_
   rintro e w3 ⟨⟨vi, rfl, hvi⟩, b⟩
   have BX := hide' (BW.out.trans (b.mono BW.out.size))
   clear y0 y1 y2 G2 b
   cases hin : inB u v W H with
   | false =>
    have NI := hide' (show ¬ inP W H (x + (j : Int) % 8) (y + (j : Int) / 8) by rw [HU.out.1, HU.out.2]; exact of_decide_eq_false hin)
    have LK2 := hide' (HKJ.out.skip NI.out)
    clear hvi hin
    go_wp2
    exact ⟨⟨j + 1, kj, by go_num, rfl, by omega, LK2, BX⟩, by simp [intOf]; omega⟩
   | true =>
    obtain ⟨K2, G2, P2⟩ := SV.out w3 BX.out
    have y2 := cell_of_row w3 _ 2 _ _ _ G2
    simp at y2
    have hvi' := hvi hin
    have hq := of_decide_eq_true hin
    have YI := hide' (show inP W H (x + (j : Int) % 8) (y + (j : Int) / 8) by rw [HU.out.1, HU.out.2]; exact hq)
    obtain ⟨U, hU⟩ := Int.eq_ofNat_of_zero_le hq.1
    obtain ⟨V, hV⟩ := Int.eq_ofNat_of_zero_le hq.2.2.1
    obtain ⟨i, hi⟩ : ∃ i, V * W + U = i := ⟨_, rfl⟩
    have iv : v * W + u = (i : Int) := by rw [hU, hV, ← hi]; push_cast; rfl
    have iv2 : vi = (i : Int) := by rw [hvi', iv]
    have il : i < xs.length := by
     have h1 : U < W := by have := hq.2.1; omega
     have h2 : V < H := by have := hq.2.2.2; omega
     have h3 : (V + 1) * W ≤ H * W := Nat.mul_le_mul_right _ (by omega)
     rw [HM.out, ← hi, Nat.mul_comm W H]
     rw [Nat.succ_mul] at h3
     omega
    obtain ⟨cb, hcb⟩ : ∃ cb, xs.getD i 0 = cb := ⟨_, rfl⟩
    have b0 := HBT.out i
    rw [hcb] at b0
    obtain ⟨cn, hcn⟩ := Int.eq_ofNat_of_zero_le b0.1
    have cn1 : cn ≤ 1 := by omega
    have CE := hide' (show cellF W xs (x + (j : Int) % 8) (y + (j : Int) / 8) = (cn : Int) by
     rw [HU.out.1, HU.out.2]
     unfold cellF
     rw [iv]
     exact hcb.trans hcn)
    obtain ⟨pg, po, rfl, pc⟩ := P2.cellAt il
    rw [hcb, hcn] at pc
    have il2 : (i : Int) < (m : Int) := by rw [P2.len]; omega
    have LK2 := hide' (HKJ.out.put dj YI.out cn1 CE.out)
    have SB := hide' (set_bits HKJ.out.1 dj cn1)
    subst iv2
    clear hvi hvi' hq K2 G2 P2 hi hcb b0 il hj hU hV iv hcn
    go_upto_region 18 with fail
    go_region
    rw [SB.out]
    have BX2 := hide' (BX.out.drew)
    clear SB
    go_wp2
    exact ⟨⟨j + 1, setB kj j cn, by go_num, rfl, by omega, LK2, BX2⟩, by simp [intOf]; omega⟩
  ·have d1 : ¬ (j : Int) < 64 := by omega
   obtain rfl : j = 64 := by omega
   obtain ⟨K2, -, -⟩ := SV.out wr BW.out
   have K3 := hide' K2
   clear K2 c0 c4 l1
   go_wp2_with fail
   have BWW := hide' (show Below w.heap.size w wr from B1.out.trans (BW.out.mono B1.out.size))
   refine (eight_stk sb B g cap qs kj wr K3.out (Nat.le_trans HBB.out BWW.out.size) HN.out HKJ.out.1).mono ?_
   rintro e w3 ⟨g', cap', qs', t', rfl, hs, he, hk⟩
   have LQ := hide' (show LayQ W H (cellF W xs) qs 0 t x y qs' t' from LayQ.eight K3.out.st HKJ.out.1 he (fun X Y a b c d i => (HKJ.out.done HBT.out ⟨a, b, c, d⟩).1 i) (fun X Y a b c d i => by rw [HKK.out]; exact (HKJ.out.done HBT.out ⟨a, b, c, d⟩).2 i))
   have HS := hide' hs
   have HE := hide' he
   have HKP := hide' hk
   clear hs he hk
   go_wp2
   go_ret
   obtain ⟨ms, e1, e2⟩ := HE.out.app
   exact ⟨g', cap', qs', t', rfl, HS.out, ⟨ms, e1, e2⟩, LQ.out, (KpS.of_below BWW.out).trans HKP.out⟩
end Go.Proofs.YtemhcpldflcfbaaGreatDoor
