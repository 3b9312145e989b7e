/-
  What the last text of this claim leans on, part 22: Pq3, Pq4, Ps1.
-/
import Derived.Test.YtfdbgkdbmlmigaaDoorZp11
import Derived.Test.YtfdbgkdbmlmigaaDoorZp7
import Derived.Deep.RegionHeld3
import Derived.Deep.CutRange
namespace Go.Proofs.YtfdbgkdbmlmigaaDoor
open Go.RowKit
set_option linter.unusedVariables false
theorem midS_le {g : Nat → Nat} (hg : ∀ i, g i ≤ 1) (w x y : Nat) : ∀ k, midS g w x y k ≤ k
  | 0 => Nat.le_refl _
  | k + 1 => by
    have := midS_le hg w x y k
    rw [midS]
    split
    · omega
    · have := hg ((y + k / 3) * w + (x + k % 3)); omega
theorem midS_eight {g : Nat → Nat} (hg : ∀ i, g i ≤ 1) (w x y : Nat) : midS g w x y 9 ≤ 9 := midS_le hg w x y 9
/-- The cells of a list, as numbers. -/
def gL (xs : List Int) : Nat → Nat := fun i => (xs.getD i 0).toNat
set_option maxRecDepth 100000 in
set_option maxHeartbeats 12800000 in
theorem middle_any (kd st ra : Int) (born stay : Nat) (ta : Option Addr) (tn tc : Nat) (s : ByteArray) (W2 H2 : Nat) (xs : List Int) (a : Option Addr) (n c x y : Nat) (w : World) (hP : ArgP w xs a n c) (hn : xs.length = W2 * H2) (hx : ∀ k, 0 ≤ xs.getD k 0 ∧ xs.getD k 0 ≤ 1) (xl : x + 2 < W2) (yl : y + 2 < H2) (W100 : W2 ≤ 102) (H100 : H2 ≤ 102) (hb : born ≤ 511) (hs : stay ≤ 511) :
    Calls Tryd.prog 20 #[.agg #[.int .i64 kd, .int .i64 (born : Int), .int .i64 (stay : Int), .int .i64 st, .int .i64 ra, .slice ta tn tc, .string s], .agg #[.int .i64 (W2 : Int), .int .i64 (H2 : Int), .slice a n c], .int .i64 (x : Int), .int .i64 (y : Int)] w fun e w' => e = .returned (.int .i64 (midP born stay (gL xs) W2 x y : Int)) ∧ Below w.heap.size w w' := by
  obtain ⟨w1, hw1⟩ : ∃ w1, (w.alloc (.cells #[.int .i64 kd, .int .i64 (born : Int), .int .i64 (stay : Int), .int .i64 st, .int .i64 ra, .slice ta tn tc, .string s] 24)).alloc (.cells #[.int .i64 (W2 : Int), .int .i64 (H2 : Int), .slice a n c] 26) = w1 := ⟨_, rfl⟩
  have R0 := hide' (show w1.heap[w.heap.size]? = some (.cells #[.int .i64 kd, .int .i64 (born : Int), .int .i64 (stay : Int), .int .i64 st, .int .i64 ra, .slice ta tn tc, .string s] 24 (0, 0)) by rw [← hw1]; exact (heap_alloc_old (w.alloc _) _ (by simp)).trans (heap_alloc_new w _))
  have R1 := hide' (show w1.heap[w.heap.size + 1]? = some (.cells #[.int .i64 (W2 : Int), .int .i64 (H2 : Int), .slice a n c] 26 (0, 0)) by rw [← hw1]; exact heap_alloc2_new _ _ _)
  have B1 := hide' (show Below w.heap.size w w1 by rw [← hw1]; exact ((Below.refl _ _).alloc (Nat.le_refl _) _).alloc (by simp) _)
  have HW1 := hide' hw1
  have GL : ∀ i, gL xs i ≤ 1 := fun i => by have := hx i; unfold gL; omega
  have n2 : n = W2 * H2 := hP.len.trans hn
  have nl : W2 * H2 ≤ 10404 := Nat.mul_le_mul W100 H100
  have plc : ∀ j i, j ≤ 2 → i ≤ 2 → (y + j) * W2 + (x + i) < W2 * H2 := fun j i hj hi => by
    have h1 := Nat.mul_le_mul_right W2 (show y + j + 1 ≤ H2 by omega)
    rw [Nat.add_mul, Nat.one_mul, Nat.mul_comm H2 W2] at h1
    omega
  have CE := hide' (fun (V : World) (hV : Below w.heap.size w V) (p : Nat) (hp : p < W2 * H2) => show ∃ g off, a = some ⟨g, off, none⟩ ∧ V.cell? ⟨g, off + p, none⟩ = some (.int .i64 (gL xs p : Int)) from by
    obtain ⟨g, off, e, h⟩ := (hP.below hV).atP (k := p) (by rw [n2]; exact hp)
    refine ⟨g, off, e, ?_⟩
    rw [h]
    have := hx p
    unfold gL
    congr 2
    omega)
  have BC := hide' (fun (c : Int) (m : Nat) (V : World) (hm : m ≤ 9) => refBecomes_any kd c st ra born stay ta tn tc s m V hb hs hm)
  have PLC := hide' plc
  have HGL := hide' GL
  have HNL := hide' nl
  have M9 := hide' (midS_eight GL W2 x y)
  have MP := hide' (show midP born stay (gL xs) W2 x y = becN born stay (gL xs ((y + 1) * W2 + (x + 1)) : Int) (midS (gL xs) W2 x y 9) from rfl)
  obtain ⟨N, hN⟩ : ∃ N, W2 * H2 = N := ⟨_, rfl⟩
  rw [hN] at n2 CE PLC HNL
  subst n2
  obtain ⟨g, off, rfl, -⟩ := CE.out w1 B1.out 0 (by have := PLC.out 0 0 (by omega) (by omega); omega)
  have CF := hide' (fun (V : World) (hV : Below w.heap.size w V) (p : Nat) (hp : p < n) => show V.cell? ⟨g, off + p, none⟩ = some (.int .i64 (gL xs p : Int)) from by
    obtain ⟨g', off', e, h⟩ := CE.out V hV p hp
    cases e; exact h)
  clear hP hn hx hw1 GL nl plc CE hN hb hs
  go_enter Tryd.func20, Tryd.ntmps20
  go_upto_region 1 with fail
  rw [HW1.out]
  have p0 := cell_of_row w1 _ 0 _ _ _ R1.out
  have p2 := cell_of_row w1 _ 2 _ _ _ R1.out
  simp at p0 p2
  go_wp2
  go_loopw [9, 10] (fun nv kv wr => ∃ (k m : Nat), kv = .int .i64 (k : Int) ∧ nv = .int .i64 (m : Int) ∧ k ≤ 9 ∧ m ≤ 9 ∧ w1 = wr ∧ Hid (midS (gL xs) W2 x y k = m)) (fun _ kv _ => 9 - (intOf kv).toNat)
  case atStart => exact ⟨0, 0, rfl, rfl, by omega, by omega, rfl, hide' rfl⟩
  case round =>
    obtain ⟨k, m, rfl, rfl, hk, hm, rfl, MS⟩ := hrel
    have nl := HNL.out
    rcases (show k = 0 ∨ k = 1 ∨ k = 2 ∨ k = 3 ∨ k = 4 ∨ k = 5 ∨ k = 6 ∨ k = 7 ∨ k = 8 ∨ k = 9 by omega) with rfl | rfl | rfl | rfl | rfl | rfl | rfl | rfl | rfl | rfl
    · obtain ⟨b, hb⟩ : ∃ b, (y + 0) * W2 = b := ⟨_, rfl⟩
      obtain ⟨bx, hbx⟩ : ∃ bx, b + x = bx := ⟨_, rfl⟩
      obtain ⟨p, hp⟩ : ∃ p, bx + 0 = p := ⟨_, rfl⟩
      have pn : p < n := by rw [← hp, ← hbx, ← hb]; have := PLC.out 0 0 (by omega) (by omega); omega
      have cp := CF.out w1 B1.out p pn
      have bl := HGL.out p
      have MN := hide' (show midS (gL xs) W2 x y 1 = m + gL xs p by rw [midS, MS.out, if_neg (by decide), show (y + 0 / 3) * W2 + (x + 0 % 3) = p by rw [← hp, ← hbx, ← hb]; show (y + 0) * W2 + (x + 0) = _; omega])
      have ML := hide' (show m + gL xs p ≤ 9 by rw [← MN.out]; exact Nat.le_trans (midS_le HGL.out W2 x y 1) (by omega))
      obtain ⟨q, hq⟩ : ∃ q, gL xs p = q := ⟨_, rfl⟩
      rw [hq] at cp bl MN ML
      have e1 : (y : Int) * (W2 : Int) = (b : Int) := by rw [← hb]; simp
      have e2 : (b : Int) + (x : Int) = (bx : Int) := by omega
      obtain rfl : bx = p := by omega
      have p0' : (0 : Int) ≤ (bx : Int) := by omega
      have pl' : (bx : Int) < (n : Int) := by omega
      have b104 : b ≤ 10404 := by omega
      have bx104 : bx ≤ 10404 := by omega
      clear hb hbx hp hq
      go_wp2
      exact ⟨⟨1, m + q, by go_num, by go_num, by omega, ML.out, by trivial, MN⟩, by simp [intOf]⟩
    · obtain ⟨b, hb⟩ : ∃ b, (y + 0) * W2 = b := ⟨_, rfl⟩
      obtain ⟨bx, hbx⟩ : ∃ bx, b + x = bx := ⟨_, rfl⟩
      obtain ⟨p, hp⟩ : ∃ p, bx + 1 = p := ⟨_, rfl⟩
      have pn : p < n := by rw [← hp, ← hbx, ← hb]; have := PLC.out 0 1 (by omega) (by omega); omega
      have cp := CF.out w1 B1.out p pn
      have bl := HGL.out p
      have MN := hide' (show midS (gL xs) W2 x y 2 = m + gL xs p by rw [midS, MS.out, if_neg (by decide), show (y + 1 / 3) * W2 + (x + 1 % 3) = p by rw [← hp, ← hbx, ← hb]; show (y + 0) * W2 + (x + 1) = _; omega])
      have ML := hide' (show m + gL xs p ≤ 9 by rw [← MN.out]; exact Nat.le_trans (midS_le HGL.out W2 x y 2) (by omega))
      obtain ⟨q, hq⟩ : ∃ q, gL xs p = q := ⟨_, rfl⟩
      rw [hq] at cp bl MN ML
      have e1 : (y : Int) * (W2 : Int) = (b : Int) := by rw [← hb]; simp
      have e2 : (b : Int) + (x : Int) = (bx : Int) := by omega
      have e3 : (bx : Int) + 1 = (p : Int) := by omega
      have p0' : (0 : Int) ≤ (p : Int) := by omega
      have pl' : (p : Int) < (n : Int) := by omega
      have b104 : b ≤ 10404 := by omega
      have bx104 : bx ≤ 10404 := by omega
      clear hb hbx hp hq
      go_wp2
      exact ⟨⟨2, m + q, by go_num, by go_num, by omega, ML.out, by trivial, MN⟩, by simp [intOf]⟩
    · obtain ⟨b, hb⟩ : ∃ b, (y + 0) * W2 = b := ⟨_, rfl⟩
      obtain ⟨bx, hbx⟩ : ∃ bx, b + x = bx := ⟨_, rfl⟩
      obtain ⟨p, hp⟩ : ∃ p, bx + 2 = p := ⟨_, rfl⟩
      have pn : p < n := by rw [← hp, ← hbx, ← hb]; have := PLC.out 0 2 (by omega) (by omega); omega
      have cp := CF.out w1 B1.out p pn
      have bl := HGL.out p
      have MN := hide' (show midS (gL xs) W2 x y 3 = m + gL xs p by rw [midS, MS.out, if_neg (by decide), show (y + 2 / 3) * W2 + (x + 2 % 3) = p by rw [← hp, ← hbx, ← hb]; show (y + 0) * W2 + (x + 2) = _; omega])
      have ML := hide' (show m + gL xs p ≤ 9 by rw [← MN.out]; exact Nat.le_trans (midS_le HGL.out W2 x y 3) (by omega))
      obtain ⟨q, hq⟩ : ∃ q, gL xs p = q := ⟨_, rfl⟩
      rw [hq] at cp bl MN ML
      have e1 : (y : Int) * (W2 : Int) = (b : Int) := by rw [← hb]; simp
      have e2 : (b : Int) + (x : Int) = (bx : Int) := by omega
      have e3 : (bx : Int) + 2 = (p : Int) := by omega
      have p0' : (0 : Int) ≤ (p : Int) := by omega
      have pl' : (p : Int) < (n : Int) := by omega
      have b104 : b ≤ 10404 := by omega
      have bx104 : bx ≤ 10404 := by omega
      clear hb hbx hp hq
      go_wp2
      exact ⟨⟨3, m + q, by go_num, by go_num, by omega, ML.out, by trivial, MN⟩, by simp [intOf]⟩
    · obtain ⟨b, hb⟩ : ∃ b, (y + 1) * W2 = b := ⟨_, rfl⟩
      obtain ⟨bx, hbx⟩ : ∃ bx, b + x = bx := ⟨_, rfl⟩
      obtain ⟨p, hp⟩ : ∃ p, bx + 0 = p := ⟨_, rfl⟩
      have pn : p < n := by rw [← hp, ← hbx, ← hb]; have := PLC.out 1 0 (by omega) (by omega); omega
      have cp := CF.out w1 B1.out p pn
      have bl := HGL.out p
      have MN := hide' (show midS (gL xs) W2 x y 4 = m + gL xs p by rw [midS, MS.out, if_neg (by decide), show (y + 3 / 3) * W2 + (x + 3 % 3) = p by rw [← hp, ← hbx, ← hb]; show (y + 1) * W2 + (x + 0) = _; omega])
      have ML := hide' (show m + gL xs p ≤ 9 by rw [← MN.out]; exact Nat.le_trans (midS_le HGL.out W2 x y 4) (by omega))
      obtain ⟨q, hq⟩ : ∃ q, gL xs p = q := ⟨_, rfl⟩
      rw [hq] at cp bl MN ML
      have e1 : ((y : Int) + 1) * (W2 : Int) = (b : Int) := by rw [← hb]; simp
      have e2 : (b : Int) + (x : Int) = (bx : Int) := by omega
      obtain rfl : bx = p := by omega
      have p0' : (0 : Int) ≤ (bx : Int) := by omega
      have pl' : (bx : Int) < (n : Int) := by omega
      have b104 : b ≤ 10404 := by omega
      have bx104 : bx ≤ 10404 := by omega
      clear hb hbx hp hq
      go_wp2
      exact ⟨⟨4, m + q, by go_num, by go_num, by omega, ML.out, by trivial, MN⟩, by simp [intOf]⟩
    · have MN := hide' (show midS (gL xs) W2 x y 5 = m by rw [midS, MS.out]; rfl)
      go_wp2
      exact ⟨⟨5, m, by go_num, rfl, by omega, hm, by trivial, MN⟩, by simp [intOf]⟩
    · obtain ⟨b, hb⟩ : ∃ b, (y + 1) * W2 = b := ⟨_, rfl⟩
      obtain ⟨bx, hbx⟩ : ∃ bx, b + x = bx := ⟨_, rfl⟩
      obtain ⟨p, hp⟩ : ∃ p, bx + 2 = p := ⟨_, rfl⟩
      have pn : p < n := by rw [← hp, ← hbx, ← hb]; have := PLC.out 1 2 (by omega) (by omega); omega
      have cp := CF.out w1 B1.out p pn
      have bl := HGL.out p
      have MN := hide' (show midS (gL xs) W2 x y 6 = m + gL xs p by rw [midS, MS.out, if_neg (by decide), show (y + 5 / 3) * W2 + (x + 5 % 3) = p by rw [← hp, ← hbx, ← hb]; show (y + 1) * W2 + (x + 2) = _; omega])
      have ML := hide' (show m + gL xs p ≤ 9 by rw [← MN.out]; exact Nat.le_trans (midS_le HGL.out W2 x y 6) (by omega))
      obtain ⟨q, hq⟩ : ∃ q, gL xs p = q := ⟨_, rfl⟩
      rw [hq] at cp bl MN ML
      have e1 : ((y : Int) + 1) * (W2 : Int) = (b : Int) := by rw [← hb]; simp
      have e2 : (b : Int) + (x : Int) = (bx : Int) := by omega
      have e3 : (bx : Int) + 2 = (p : Int) := by omega
      have p0' : (0 : Int) ≤ (p : Int) := by omega
      have pl' : (p : Int) < (n : Int) := by omega
      have b104 : b ≤ 10404 := by omega
      have bx104 : bx ≤ 10404 := by omega
      clear hb hbx hp hq
      go_wp2
      exact ⟨⟨6, m + q, by go_num, by go_num, by omega, ML.out, by trivial, MN⟩, by simp [intOf]⟩
    · obtain ⟨b, hb⟩ : ∃ b, (y + 2) * W2 = b := ⟨_, rfl⟩
      obtain ⟨bx, hbx⟩ : ∃ bx, b + x = bx := ⟨_, rfl⟩
      obtain ⟨p, hp⟩ : ∃ p, bx + 0 = p := ⟨_, rfl⟩
      have pn : p < n := by rw [← hp, ← hbx, ← hb]; have := PLC.out 2 0 (by omega) (by omega); omega
      have cp := CF.out w1 B1.out p pn
      have bl := HGL.out p
      have MN := hide' (show midS (gL xs) W2 x y 7 = m + gL xs p by rw [midS, MS.out, if_neg (by decide), show (y + 6 / 3) * W2 + (x + 6 % 3) = p by rw [← hp, ← hbx, ← hb]; show (y + 2) * W2 + (x + 0) = _; omega])
      have ML := hide' (show m + gL xs p ≤ 9 by rw [← MN.out]; exact Nat.le_trans (midS_le HGL.out W2 x y 7) (by omega))
      obtain ⟨q, hq⟩ : ∃ q, gL xs p = q := ⟨_, rfl⟩
      rw [hq] at cp bl MN ML
      have e1 : ((y : Int) + 2) * (W2 : Int) = (b : Int) := by rw [← hb]; simp
      have e2 : (b : Int) + (x : Int) = (bx : Int) := by omega
      obtain rfl : bx = p := by omega
      have p0' : (0 : Int) ≤ (bx : Int) := by omega
      have pl' : (bx : Int) < (n : Int) := by omega
      have b104 : b ≤ 10404 := by omega
      have bx104 : bx ≤ 10404 := by omega
      clear hb hbx hp hq
      go_wp2
      exact ⟨⟨7, m + q, by go_num, by go_num, by omega, ML.out, by trivial, MN⟩, by simp [intOf]⟩
    · obtain ⟨b, hb⟩ : ∃ b, (y + 2) * W2 = b := ⟨_, rfl⟩
      obtain ⟨bx, hbx⟩ : ∃ bx, b + x = bx := ⟨_, rfl⟩
      obtain ⟨p, hp⟩ : ∃ p, bx + 1 = p := ⟨_, rfl⟩
      have pn : p < n := by rw [← hp, ← hbx, ← hb]; have := PLC.out 2 1 (by omega) (by omega); omega
      have cp := CF.out w1 B1.out p pn
      have bl := HGL.out p
      have MN := hide' (show midS (gL xs) W2 x y 8 = m + gL xs p by rw [midS, MS.out, if_neg (by decide), show (y + 7 / 3) * W2 + (x + 7 % 3) = p by rw [← hp, ← hbx, ← hb]; show (y + 2) * W2 + (x + 1) = _; omega])
      have ML := hide' (show m + gL xs p ≤ 9 by rw [← MN.out]; exact Nat.le_trans (midS_le HGL.out W2 x y 8) (by omega))
      obtain ⟨q, hq⟩ : ∃ q, gL xs p = q := ⟨_, rfl⟩
      rw [hq] at cp bl MN ML
      have e1 : ((y : Int) + 2) * (W2 : Int) = (b : Int) := by rw [← hb]; simp
      have e2 : (b : Int) + (x : Int) = (bx : Int) := by omega
      have e3 : (bx : Int) + 1 = (p : Int) := by omega
      have p0' : (0 : Int) ≤ (p : Int) := by omega
      have pl' : (p : Int) < (n : Int) := by omega
      have b104 : b ≤ 10404 := by omega
      have bx104 : bx ≤ 10404 := by omega
      clear hb hbx hp hq
      go_wp2
      exact ⟨⟨8, m + q, by go_num, by go_num, by omega, ML.out, by trivial, MN⟩, by simp [intOf]⟩
    · obtain ⟨b, hb⟩ : ∃ b, (y + 2) * W2 = b := ⟨_, rfl⟩
      obtain ⟨bx, hbx⟩ : ∃ bx, b + x = bx := ⟨_, rfl⟩
      obtain ⟨p, hp⟩ : ∃ p, bx + 2 = p := ⟨_, rfl⟩
      have pn : p < n := by rw [← hp, ← hbx, ← hb]; have := PLC.out 2 2 (by omega) (by omega); omega
      have cp := CF.out w1 B1.out p pn
      have bl := HGL.out p
      have MN := hide' (show midS (gL xs) W2 x y 9 = m + gL xs p by rw [midS, MS.out, if_neg (by decide), show (y + 8 / 3) * W2 + (x + 8 % 3) = p by rw [← hp, ← hbx, ← hb]; show (y + 2) * W2 + (x + 2) = _; omega])
      have ML := hide' (show m + gL xs p ≤ 9 by rw [← MN.out]; exact Nat.le_trans (midS_le HGL.out W2 x y 9) (by omega))
      obtain ⟨q, hq⟩ : ∃ q, gL xs p = q := ⟨_, rfl⟩
      rw [hq] at cp bl MN ML
      have e1 : ((y : Int) + 2) * (W2 : Int) = (b : Int) := by rw [← hb]; simp
      have e2 : (b : Int) + (x : Int) = (bx : Int) := by omega
      have e3 : (bx : Int) + 2 = (p : Int) := by omega
      have p0' : (0 : Int) ≤ (p : Int) := by omega
      have pl' : (p : Int) < (n : Int) := by omega
      have b104 : b ≤ 10404 := by omega
      have bx104 : bx ≤ 10404 := by omega
      clear hb hbx hp hq
      go_wp2
      exact ⟨⟨9, m + q, by go_num, by go_num, by omega, ML.out, by trivial, MN⟩, by simp [intOf]⟩
    · obtain ⟨b, hb⟩ : ∃ b, (y + 1) * W2 = b := ⟨_, rfl⟩
      obtain ⟨bx, hbx⟩ : ∃ bx, b + x = bx := ⟨_, rfl⟩
      obtain ⟨p, hp⟩ : ∃ p, bx + 1 = p := ⟨_, rfl⟩
      have pn : p < n := by rw [← hp, ← hbx, ← hb]; have := PLC.out 1 1 (by omega) (by omega); omega
      have cp := CF.out w1 B1.out p pn
      have MV := hide' (show midP born stay (gL xs) W2 x y = becN born stay (gL xs p : Int) m by rw [MP.out, MS.out, show (y + 1) * W2 + (x + 1) = p by rw [← hp, ← hbx, ← hb]; omega])
      obtain ⟨q, hq⟩ : ∃ q, gL xs p = q := ⟨_, rfl⟩
      rw [hq] at cp MV
      have e1 : ((y : Int) + 1) * (W2 : Int) = (b : Int) := by rw [← hb]; simp
      have e2 : (b : Int) + (x : Int) = (bx : Int) := by omega
      have e3 : (bx : Int) + 1 = (p : Int) := by omega
      have p0' : (0 : Int) ≤ (p : Int) := by omega
      have pl' : (p : Int) < (n : Int) := by omega
      have f1 : IntKind.i64.wrap ((y : Int) + 1) = (y : Int) + 1 := by simp [IntKind.wrap, IntKind.bits, IntKind.signed]; omega
      have f2 : IntKind.i64.wrap (b : Int) = (b : Int) := by simp [IntKind.wrap, IntKind.bits, IntKind.signed]; omega
      have f3 : IntKind.i64.wrap (bx : Int) = (bx : Int) := by simp [IntKind.wrap, IntKind.bits, IntKind.signed]; omega
      have f4 : IntKind.i64.wrap (p : Int) = (p : Int) := by simp [IntKind.wrap, IntKind.bits, IntKind.signed]; omega
      have BE := hide' (fun V => BC.out (q : Int) m V hm)
      have SV := hide' (fun (V : World) (hV : Below w1.heap.size w1 V) => show V.cell? ⟨w.heap.size, 0, none⟩ = some (.int .i64 kd) ∧ V.cell? ⟨w.heap.size, 1, none⟩ = some (.int .i64 (born : Int)) ∧ V.cell? ⟨w.heap.size, 2, none⟩ = some (.int .i64 (stay : Int)) ∧ V.cell? ⟨w.heap.size, 3, none⟩ = some (.int .i64 st) ∧ V.cell? ⟨w.heap.size, 4, none⟩ = some (.int .i64 ra) ∧ V.cell? ⟨w.heap.size, 5, none⟩ = some (.slice ta tn tc) ∧ V.cell? ⟨w.heap.size, 6, none⟩ = some (.string s) ∧ V.cell? ⟨w.heap.size + 1, 0, none⟩ = some (.int .i64 (W2 : Int)) ∧ V.cell? ⟨w.heap.size + 1, 2, none⟩ = some (.slice (some ⟨g, off, none⟩) n c) ∧ V.cell? ⟨g, off + p, none⟩ = some (.int .i64 (q : Int)) from
        ⟨cell_of_row V _ 0 _ _ _ ((hV.block _ (lt_of_block R0.out)).trans R0.out), cell_of_row V _ 1 _ _ _ ((hV.block _ (lt_of_block R0.out)).trans R0.out), cell_of_row V _ 2 _ _ _ ((hV.block _ (lt_of_block R0.out)).trans R0.out), cell_of_row V _ 3 _ _ _ ((hV.block _ (lt_of_block R0.out)).trans R0.out), cell_of_row V _ 4 _ _ _ ((hV.block _ (lt_of_block R0.out)).trans R0.out), cell_of_row V _ 5 _ _ _ ((hV.block _ (lt_of_block R0.out)).trans R0.out), cell_of_row V _ 6 _ _ _ ((hV.block _ (lt_of_block R0.out)).trans R0.out), cell_of_row V _ 0 _ _ _ ((hV.block _ (lt_of_block R1.out)).trans R1.out), cell_of_row V _ 2 _ _ _ ((hV.block _ (lt_of_block R1.out)).trans R1.out), by rw [← hq]; exact CF.out V (B1.out.trans (hV.mono B1.out.size)) p pn⟩)
      clear hb hbx hp hq cp p0 p2
      go_wp2
      go_region_held3 (fun V => V.cell? ⟨w.heap.size, 0, none⟩ = some (.int .i64 kd) ∧ V.cell? ⟨w.heap.size, 1, none⟩ = some (.int .i64 (born : Int)) ∧ V.cell? ⟨w.heap.size, 2, none⟩ = some (.int .i64 (stay : Int)) ∧ V.cell? ⟨w.heap.size, 3, none⟩ = some (.int .i64 st) ∧ V.cell? ⟨w.heap.size, 4, none⟩ = some (.int .i64 ra) ∧ V.cell? ⟨w.heap.size, 5, none⟩ = some (.slice ta tn tc) ∧ V.cell? ⟨w.heap.size, 6, none⟩ = some (.string s) ∧ V.cell? ⟨w.heap.size + 1, 0, none⟩ = some (.int .i64 (W2 : Int)) ∧ V.cell? ⟨w.heap.size + 1, 2, none⟩ = some (.slice (some ⟨g, off, none⟩) n c) ∧ V.cell? ⟨g, off + p, none⟩ = some (.int .i64 (q : Int))) (first | exact SV.out _ B6.out | exact SV.out _ (Below.refl _ _) | exact SV.out _ (Below.refl _ _).drew | fail)
        (first
          | (go_at_call 26; refine (BE.out _).mono ?_; rintro e w6 ⟨rfl, b6⟩; have B6 := hide' (show Below w1.heap.size w1 w6 from (show Below w1.heap.size w1 w1.drew from (Below.refl _ _).drew).trans b6); clear b6)
          | fail)
      go_wp2
      go_ret
      exact ⟨by rw [MV.out]; rfl, B1.out.trans (B6.out.mono B1.out.size)⟩
end Go.Proofs.YtfdbgkdbmlmigaaDoor

namespace Go.Proofs.YtfdbgkdbmlmigaaDoor
open Go.RowKit
set_option linter.unusedVariables false
end Go.Proofs.YtfdbgkdbmlmigaaDoor

namespace Go.Proofs.YtfdbgkdbmlmigaaDoor
open Go.RowKit
set_option linter.unusedVariables false
/-- The cell that stands t places behind the first of the m ahead of a place. -/
def kB (g : Nat → Nat) (m p t : Nat) : Nat := if m ≤ p + t then g (p + t - m) else 0
/-- The first t of the m cells ahead of a place, as a number. -/
def kyN (g : Nat → Nat) (m p : Nat) : Nat → Nat
  | 0 => 0
  | t + 1 => 2 * kyN g m p t + kB g m p t
theorem kyN_lt {g : Nat → Nat} {m p : Nat} (hg : ∀ i, i < p → g i ≤ 1) : ∀ t, t ≤ m → kyN g m p t < 2 ^ t
  | 0, _ => by simp [kyN]
  | t + 1, h => by
    have h1 := kyN_lt (m := m) hg t (by omega)
    have h2 : kB g m p t ≤ 1 := by
      unfold kB
      split
      · exact hg _ (by omega)
      · omega
    rw [kyN, Nat.pow_succ]
    omega
set_option maxRecDepth 100000 in
set_option maxHeartbeats 6400000 in
theorem key_any (fb qb N W2 p : Nat) (g : Nat → Nat) (w : World) (h14 : w.cell? ⟨fb, 14, none⟩ = some (.int .i64 (W2 : Int))) (h12 : w.cell? ⟨fb, 12, none⟩ = some (.slice (some ⟨qb, 0, none⟩) N N)) (hc : ∀ i, i < p → w.cell? ⟨qb, i, none⟩ = some (.int .i64 (g i : Int))) (hg : ∀ i, i < p → g i ≤ 1) (hp : p ≤ N) (N49 : N ≤ 49) (W7 : W2 ≤ 7) :
    Calls Tryd.prog 19 #[.pointer (some ⟨fb, 0, none⟩), .int .i64 (p : Int)] w fun e w' => e = .returned (.int .i64 (kyN g (2 * W2 + 2) p (2 * W2 + 2) : Int)) ∧ w'.heap = w.heap ∧ Below w.heap.size w w' := by
  obtain ⟨m, hm⟩ : ∃ m, 2 * W2 + 2 = m := ⟨_, rfl⟩
  rw [hm]
  obtain ⟨Z, hZ⟩ : ∃ Z, 2 * W2 = Z := ⟨_, rfl⟩
  have e1 : (2 : Int) * (W2 : Int) = (Z : Int) := by omega
  have mz : m = Z + 2 := by omega
  have HZ := hide' hZ
  have m16 : m ≤ 16 := by omega
  have HC := hide' hc
  have HG := hide' hg
  have KL := hide' (fun t (ht : t ≤ m) => show kyN g m p t < 65536 by
    have h1 := kyN_lt hg t ht
    have : 2 ^ t ≤ 2 ^ 16 := Nat.pow_le_pow_right (by omega) (by omega)
    omega)
  have HM := hide' hm
  have MZ := hide' mz
  have M16 := hide' m16
  have z14 : Z ≤ 14 := by omega
  have SC := hide' (And.intro h14 h12)
  clear hc hg hm hZ mz m16
  go_enter Tryd.func19, Tryd.ntmps19
  go_wp2
  go_loopw [5, 6] (fun nv iv wr => ∃ (t n : Nat) (i : Int), nv = .int .i64 (n : Int) ∧ iv = .int .i64 i ∧ w = wr ∧ t ≤ m ∧ Hid (i = (p : Int) - (Z : Int) - 2 + (t : Int)) ∧ n < 65536 ∧ -100 ≤ i ∧ i ≤ 100 ∧ Hid (kyN g m p t = n)) (fun _ iv _ => ((p : Int) - intOf iv).toNat)
  case atStart => exact ⟨0, 0, _, rfl, rfl, rfl, by omega, hide' (by omega), by omega, by omega, by omega, hide' rfl⟩
  case round =>
    obtain ⟨t, n, i, rfl, rfl, rfl, ht, HI, hn, i1, i2, HK⟩ := hrel
    by_cases di : i < (p : Int)
    · have tm : t + 1 ≤ m := by have := HI.out; have := MZ.out; omega
      have KN := hide' (KL.out (t + 1) tm)
      by_cases d0 : 0 ≤ i
      · obtain ⟨I, rfl⟩ : ∃ I : Nat, i = (I : Int) := ⟨i.toNat, by omega⟩
        have cI := HC.out I (by omega)
        have gI := HG.out I (by omega)
        have KS := hide' (show kyN g m p (t + 1) = 2 * n + g I from by
          have e : p + t - m = I := by have := HI.out; have := MZ.out; omega
          rw [kyN, HK.out, kB, if_pos (by have := HI.out; have := MZ.out; omega), e])
        obtain ⟨b, hb⟩ : ∃ b, g I = b := ⟨_, rfl⟩
        rw [hb] at cI gI KS
        have lI : I < N := by omega
        have lI' : (I : Int) < (N : Int) := by omega
        have NB := hide' (show 2 * n + b < 65536 by have := KN.out; rw [KS.out] at this; exact this)
        clear hb
        go_wp2
        refine ⟨⟨t + 1, 2 * n + b, (I : Int) + 1, ?_, by go_num, trivial, tm, hide' (by have := HI.out; omega), NB.out, by omega, by omega, KS⟩, by simp [intOf]; omega⟩
        congr 1
        omega
      · have KS := hide' (show kyN g m p (t + 1) = 2 * n from by
          rw [kyN, HK.out, kB, if_neg (by have := HI.out; have := MZ.out; omega), Nat.add_zero])
        have NB := hide' (show 2 * n < 65536 by have := KN.out; rw [KS.out] at this; exact this)
        go_wp2
        refine ⟨⟨t + 1, 2 * n, i + 1, ?_, by go_num, trivial, tm, hide' (by have := HI.out; omega), NB.out, by omega, by omega, KS⟩, by simp [intOf]; omega⟩
        congr 1
        omega
    · have tm : t = m := by have := HI.out; have := MZ.out; omega
      subst tm
      go_wp2
      go_ret
      exact ⟨by rw [HK.out]; rfl, rfl, Below.refl _ _⟩
end Go.Proofs.YtfdbgkdbmlmigaaDoor

