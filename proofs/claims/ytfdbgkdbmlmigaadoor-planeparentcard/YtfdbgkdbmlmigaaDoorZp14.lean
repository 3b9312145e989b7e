/-
  What the last text of this claim leans on, part 14: Ga0, On1, Pp3.
-/
import Derived.Test.YtfdbgkdbmlmigaaDoorZp11
import Derived.Test.YtfdbgkdbmlmigaaDoorZp13
import Derived.Test.YtfdbgkdbmlmigaaDoorZp7
import Derived.Deep.RegionHeld3
import Derived.Deep.CutRange
namespace Go.Proofs.YtfdbgkdbmlmigaaDoor
open Go.RowKit
set_option linter.unusedVariables false
def ones6 (n : Nat) : Nat := n % 2 + n / 2 % 2 + n / 4 % 2 + n / 8 % 2 + n / 16 % 2 + n / 32 % 2
set_option maxRecDepth 100000 in
set_option maxHeartbeats 6400000 in
theorem ones64_any (n : Nat) (w : World) (hn : n < 64) : Calls Tryd.prog 48 #[.int .u64 (n : Int)] w fun e w' => e = .returned (.int .i64 (ones6 n : Int)) ∧ w' = w := by
  have : n = 0 ∨ n = 1 ∨ n = 2 ∨ n = 3 ∨ n = 4 ∨ n = 5 ∨ n = 6 ∨ n = 7 ∨ n = 8 ∨ n = 9 ∨ n = 10 ∨ n = 11 ∨ n = 12 ∨ n = 13 ∨ n = 14 ∨ n = 15 ∨ n = 16 ∨ n = 17 ∨ n = 18 ∨ n = 19 ∨ n = 20 ∨ n = 21 ∨ n = 22 ∨ n = 23 ∨ n = 24 ∨ n = 25 ∨ n = 26 ∨ n = 27 ∨ n = 28 ∨ n = 29 ∨ n = 30 ∨ n = 31 ∨ n = 32 ∨ n = 33 ∨ n = 34 ∨ n = 35 ∨ n = 36 ∨ n = 37 ∨ n = 38 ∨ n = 39 ∨ n = 40 ∨ n = 41 ∨ n = 42 ∨ n = 43 ∨ n = 44 ∨ n = 45 ∨ n = 46 ∨ n = 47 ∨ n = 48 ∨ n = 49 ∨ n = 50 ∨ n = 51 ∨ n = 52 ∨ n = 53 ∨ n = 54 ∨ n = 55 ∨ n = 56 ∨ n = 57 ∨ n = 58 ∨ n = 59 ∨ n = 60 ∨ n = 61 ∨ n = 62 ∨ n = 63 := by omega
  rcases this with rfl | rfl | rfl | rfl | rfl | rfl | rfl | rfl | rfl | rfl | rfl | rfl | rfl | rfl | rfl | rfl | rfl | rfl | rfl | rfl | rfl | rfl | rfl | rfl | rfl | rfl | rfl | rfl | rfl | rfl | rfl | rfl | rfl | rfl | rfl | rfl | rfl | rfl | rfl | rfl | rfl | rfl | rfl | rfl | rfl | rfl | rfl | rfl | rfl | rfl | rfl | rfl | rfl | rfl | rfl | rfl | rfl | rfl | rfl | rfl | rfl | rfl | rfl | rfl
  all_goals (
    go_enter Tryd.func48, Tryd.ntmps48
    go_wp2
    go_ret
    exact ⟨by kernel_rfl, rfl⟩)
end Go.Proofs.YtfdbgkdbmlmigaaDoor

namespace Go.Proofs.YtfdbgkdbmlmigaaDoor
open Go.RowKit
set_option linter.unusedVariables false
set_option maxRecDepth 100000 in
theorem ones_any (n : Nat) (w : World) (hn : n < 64) : Calls Tryd.prog 41 #[.int .u64 (n : Int)] w fun e w' => e = .returned (.int .i64 (ones6 n : Int)) ∧ w' = w := by
  have C := hide' (ones64_any n w hn)
  go_enter Tryd.func41, Tryd.ntmps41
  go_wp2_with fail
  refine C.out.mono ?_
  rintro e w2 ⟨rfl, rfl⟩
  go_wp2
  go_ret
  exact ⟨rfl, rfl⟩
end Go.Proofs.YtfdbgkdbmlmigaaDoor

namespace Go.Proofs.YtfdbgkdbmlmigaaDoor
open Go.RowKit
set_option linter.unusedVariables false
theorem ones_three (v x : Nat) : ones6 (v / 2 ^ x % 8) = thN v x := by
  unfold ones6 thN bitN
  rw [show 2 ^ (x + 1) = 2 ^ x * 2 by rw [Nat.pow_succ], show 2 ^ (x + 2) = 2 ^ x * 4 by rw [Nat.pow_succ, Nat.pow_succ, Nat.mul_assoc], ← Nat.div_div_eq_div_mul, ← Nat.div_div_eq_div_mul]
  generalize v / 2 ^ x = z
  omega
set_option maxRecDepth 100000 in
theorem and_seven (z : Nat) (hz : z < 128) : bits BinOp.and IntKind.i64 (z : Int) 7 = ((z % 8 : Nat) : Int) := by
  have : ∀ y : Fin 128, bits BinOp.and IntKind.i64 (y.val : Int) 7 = ((y.val % 8 : Nat) : Int) := by decide +kernel
  exact this ⟨z, hz⟩
set_option maxRecDepth 100000 in
theorem and_oneP (z : Nat) (hz : z < 128) : bits BinOp.and IntKind.i64 (z : Int) 1 = ((z % 2 : Nat) : Int) := by
  have : ∀ y : Fin 128, bits BinOp.and IntKind.i64 (y.val : Int) 1 = ((y.val % 2 : Nat) : Int) := by decide +kernel
  exact this ⟨z, hz⟩
set_option maxRecDepth 100000 in
theorem three_any (v x : Nat) (w : World) (hv : v < 128) (hx : x ≤ 7) : Calls Tryd.prog 29 #[.int .i64 (v : Int), .int .i64 (x : Int)] w fun e w' => e = .returned (.int .i64 (thN v x : Int)) ∧ w' = w := by
  obtain ⟨z, hz⟩ : ∃ z, v / 2 ^ x = z := ⟨_, rfl⟩
  have e1 : (v : Int) / 2 ^ x = (z : Int) := by rw [← hz]; simp
  have z1 : z < 128 := by have := Nat.div_le_self v (2 ^ x); omega
  have e2 := and_seven z z1
  obtain ⟨m, hm⟩ : ∃ m, z % 8 = m := ⟨_, rfl⟩
  have m8 : m < 8 := by omega
  have O := hide' (fun V => ones_any m V (by omega))
  have TH := hide' (show thN v x = ones6 m by rw [← ones_three, hz, hm])
  rw [hm] at e2
  rw [TH.out]
  clear hz hm TH
  go_enter Tryd.func29, Tryd.ntmps29
  go_wp2_with fail
  refine (O.out _).mono ?_
  rintro e w2 ⟨rfl, rfl⟩
  go_wp2
  go_ret
  exact ⟨rfl, rfl⟩
/-- A search as it lies. -/
def seV (k st ra : Int) (born stay : Nat) (ta : Option Addr) (tn tc : Nat) (s : ByteArray) (W2 H2 : Nat) (wv rv mv : Value) : Array Value := #[.int .i64 k, .int .i64 (born : Int), .int .i64 (stay : Int), .int .i64 st, .int .i64 ra, .slice ta tn tc, .string s, .int .i64 (W2 : Int), .int .i64 (H2 : Int), wv, rv, mv]
/-- The rule of a search, cell by cell. -/
def SeR (V : World) (sb : Nat) (k st ra : Int) (born stay : Nat) (ta : Option Addr) (tn tc : Nat) (s : ByteArray) : Prop := V.cell? ⟨sb, 0, none⟩ = some (.int .i64 k) ∧ V.cell? ⟨sb, 1, none⟩ = some (.int .i64 (born : Int)) ∧ V.cell? ⟨sb, 2, none⟩ = some (.int .i64 (stay : Int)) ∧ V.cell? ⟨sb, 3, none⟩ = some (.int .i64 st) ∧ V.cell? ⟨sb, 4, none⟩ = some (.int .i64 ra) ∧ V.cell? ⟨sb, 5, none⟩ = some (.slice ta tn tc) ∧ V.cell? ⟨sb, 6, none⟩ = some (.string s)
theorem se_rule {V : World} {sb : Nat} {k st ra : Int} {born stay : Nat} {ta : Option Addr} {tn tc : Nat} {s : ByteArray} {W2 H2 : Nat} {wv rv mv : Value} (h : V.heap[sb]? = some (.cells (seV k st ra born stay ta tn tc s W2 H2 wv rv mv) 60 (0, 0))) : SeR V sb k st ra born stay ta tn tc s :=
  ⟨cell_of_row V _ 0 _ _ _ h, cell_of_row V _ 1 _ _ _ h, cell_of_row V _ 2 _ _ _ h, cell_of_row V _ 3 _ _ _ h, cell_of_row V _ 4 _ _ _ h, cell_of_row V _ 5 _ _ _ h, cell_of_row V _ 6 _ _ _ h⟩
def mkAll (born stay a h b wanted n : Nat) : Bool := (List.range n).all fun x => mkB born stay a h b wanted x
theorem mkAll_no {born stay a h b wanted n x : Nat} (hx : x < n) (hn : mkB born stay a h b wanted x = false) : mkAll born stay a h b wanted n = false := by
  unfold mkAll
  rw [Bool.eq_false_iff]
  intro q
  have := List.all_eq_true.1 q x (List.mem_range.2 hx)
  rw [hn] at this; cases this
theorem mkAll_yes {born stay a h b wanted n : Nat} : mkAll born stay a h b wanted n = true ↔ ∀ x, x < n → mkB born stay a h b wanted x = true := by
  unfold mkAll
  rw [List.all_eq_true]
  exact ⟨fun q x hx => q x (List.mem_range.2 hx), fun q x hx => q x (List.mem_range.1 hx)⟩
theorem th_le (v x : Nat) : thN v x ≤ 3 := by
  unfold thN
  have := bit_le v x
  have := bit_le v (x + 1)
  have := bit_le v (x + 2)
  omega
theorem th_mid (v x : Nat) : bitN v (x + 1) ≤ thN v x := by unfold thN; omega
theorem shr_bit {v x : Nat} (hv : v < 128) : ∃ z : Nat, (v : Int) / 2 ^ x = (z : Int) ∧ z < 128 ∧ bits BinOp.and IntKind.i64 (z : Int) 1 = (bitN v x : Int) := by
  refine ⟨v / 2 ^ x, by simp, by have := Nat.div_le_self v (2 ^ x); omega, ?_⟩
  rw [and_oneP _ (by have := Nat.div_le_self v (2 ^ x); omega)]
  rfl
set_option maxRecDepth 100000 in
set_option maxHeartbeats 6400000 in
theorem makes_any (k st ra : Int) (born stay : Nat) (ta : Option Addr) (tn tc : Nat) (s : ByteArray) (W2 H2 : Nat) (wv rv mv : Value) (sb a h b wanted : Nat) (w : World) (hS : w.heap[sb]? = some (.cells (seV k st ra born stay ta tn tc s W2 H2 wv rv mv) 60 (0, 0)))
    (hb : born ≤ 511) (hs : stay ≤ 511) (w2 : 2 ≤ W2) (w7 : W2 ≤ 7) (ha : a < 128) (hh : h < 128) (hbl : b < 128) (hw : wanted < 128) :
    Calls Tryd.prog 24 #[.pointer (some ⟨sb, 0, none⟩), .int .i64 (a : Int), .int .i64 (h : Int), .int .i64 (b : Int), .int .i64 (wanted : Int)] w fun e w' => e = .returned (.bool (mkAll born stay a h b wanted (W2 - 2))) ∧ Below w.heap.size w w' := by
  have HS := hide' (fun (V : World) (hb : Below w.heap.size w V) => (hb.block sb (lt_of_block hS)).trans hS)
  have c7 := cell_of_row w _ 7 _ _ _ hS
  simp [seV] at c7
  have TH := hide' (fun (v x : Nat) (V : World) (hv : v < 128) (hx : x ≤ 7) => three_any v x V hv hx)
  have BC := hide' (fun (c : Int) (n : Nat) (V : World) (hn : n ≤ 9) => becomes_any k c st ra born stay ta tn tc s n V hb hs hn)
  have HV := hide' (And.intro ha (And.intro hh (And.intro hbl hw)))
  obtain ⟨n, hn⟩ : ∃ n, W2 - 2 = n := ⟨_, rfl⟩
  have e0 : (W2 : Int) - 2 = (n : Int) := by omega
  rw [hn]
  have n5 : n ≤ 5 := by omega
  clear hS ha hh hbl hw hn
  go_enter Tryd.func24, Tryd.ntmps24
  go_wp2
  go_loopw [19] (fun xv wr => ∃ (x : Nat), xv = .int .i64 (x : Int) ∧ x ≤ n ∧ Hid (Below w.heap.size w wr) ∧ Hid (∀ j, j < x → mkB born stay a h b wanted j = true)) (fun xv _ => n - (intOf xv).toNat)
  case atStart => exact ⟨0, rfl, by omega, hide' (Below.refl _ _), hide' (fun j hj => by omega)⟩
  case round =>
    obtain ⟨x, rfl, hx, BW, KS⟩ := hrel
    by_cases d : (x : Int) < (n : Int)
    · obtain ⟨z1, q1, -, q2⟩ := shr_bit (v := h) (x := x + 1) HV.out.2.1
      obtain ⟨z2, q3, -, q4⟩ := shr_bit (v := wanted) (x := x) HV.out.2.2.2
      have TA := hide' (fun V => TH.out a x V HV.out.1 (by omega))
      have TB := hide' (fun V => TH.out h x V HV.out.2.1 (by omega))
      have TC := hide' (fun V => TH.out b x V HV.out.2.2.1 (by omega))
      have la := th_le a x
      have lh := th_le h x
      have lb := th_le b x
      have lm := th_mid h x
      have MK := hide' (show mkB born stay a h b wanted x = decide (becN born stay (bitN h (x + 1) : Int) (thN a x + thN h x + thN b x - bitN h (x + 1)) = bitN wanted x) from rfl)
      obtain ⟨A, hA⟩ : ∃ A, thN a x = A := ⟨_, rfl⟩
      obtain ⟨B, hB⟩ : ∃ A, thN h x = A := ⟨_, rfl⟩
      obtain ⟨C, hC⟩ : ∃ A, thN b x = A := ⟨_, rfl⟩
      obtain ⟨c, hc⟩ : ∃ c, bitN h (x + 1) = c := ⟨_, rfl⟩
      obtain ⟨u, hu⟩ : ∃ u, bitN wanted x = u := ⟨_, rfl⟩
      rw [hA] at TA la MK
      rw [hB] at TB lh lm MK
      rw [hC] at TC lb MK
      rw [hc] at q2 lm MK
      rw [hu] at q4 MK
      obtain ⟨N, hN⟩ : ∃ N, A + B + C - c = N := ⟨_, rfl⟩
      have e1 : (A : Int) + (B : Int) + (C : Int) - (c : Int) = (N : Int) := by omega
      have N9 : N ≤ 9 := by omega
      have BE := hide' (fun V => BC.out (c : Int) N V N9)
      rw [hN] at MK
      obtain ⟨r, hr⟩ : ∃ r, becN born stay (c : Int) N = r := ⟨_, rfl⟩
      rw [hr] at BE MK
      have HR := hide' (fun (V : World) (hb : Below w.heap.size w V) => show V.cell? ⟨sb, 0, none⟩ = some (.int .i64 k) ∧ V.cell? ⟨sb, 1, none⟩ = some (.int .i64 (born : Int)) ∧ V.cell? ⟨sb, 2, none⟩ = some (.int .i64 (stay : Int)) ∧ V.cell? ⟨sb, 3, none⟩ = some (.int .i64 st) ∧ V.cell? ⟨sb, 4, none⟩ = some (.int .i64 ra) ∧ V.cell? ⟨sb, 5, none⟩ = some (.slice ta tn tc) ∧ V.cell? ⟨sb, 6, none⟩ = some (.string s) from se_rule (HS.out V hb))
      have w1 : IntKind.i64.wrap ((x : Int) + 1) = ((x + 1 : Nat) : Int) := by simp [IntKind.wrap, IntKind.bits, IntKind.signed]; omega
      clear hA hB hC hc hu hN hr
      go_wp2_with fail
      refine (TA.out _).mono ?_
      rintro e w3 ⟨rfl, rfl⟩
      go_wp2_with fail
      refine (TB.out _).mono ?_
      rintro e w4 ⟨rfl, rfl⟩
      go_wp2_with fail
      refine (TC.out _).mono ?_
      rintro e w5 ⟨rfl, rfl⟩
      by_cases ru : r = u
      · subst ru
        have MK1 := hide' (show mkB born stay a h b wanted x = true by rw [MK.out]; simp)
        clear MK
        go_wp2
        go_region_held3 (fun V => V.cell? ⟨sb, 0, none⟩ = some (.int .i64 k) ∧ V.cell? ⟨sb, 1, none⟩ = some (.int .i64 (born : Int)) ∧ V.cell? ⟨sb, 2, none⟩ = some (.int .i64 (stay : Int)) ∧ V.cell? ⟨sb, 3, none⟩ = some (.int .i64 st) ∧ V.cell? ⟨sb, 4, none⟩ = some (.int .i64 ra) ∧ V.cell? ⟨sb, 5, none⟩ = some (.slice ta tn tc) ∧ V.cell? ⟨sb, 6, none⟩ = some (.string s)) (first | exact HR.out _ B6.out | exact HR.out _ BW.out | exact HR.out _ BW.out.drew | fail)
          (first
            | (go_at_call 30; refine (BE.out _).mono ?_; rintro e w6 ⟨rfl, b6⟩; have B6 := hide' (BW.out.drew.trans (b6.mono BW.out.drew.size)); clear b6)
            | fail)
        go_wp2
        exact ⟨⟨x + 1, by go_num, by omega, B6, hide' (fun j hj => by
          by_cases e : j = x
          · subst e; exact MK1.out
          · exact KS.out j (by omega))⟩, by simp [intOf]; omega⟩
      · have ru' : ((r : Int) == (u : Int)) = false := by rw [beq_eq_false_iff_ne]; omega
        have F := hide' (mkAll_no (n := n) (x := x) (by omega) (show mkB born stay a h b wanted x = false by rw [MK.out]; simp [ru]))
        clear MK ru
        go_wp2
        go_region_held3 (fun V => V.cell? ⟨sb, 0, none⟩ = some (.int .i64 k) ∧ V.cell? ⟨sb, 1, none⟩ = some (.int .i64 (born : Int)) ∧ V.cell? ⟨sb, 2, none⟩ = some (.int .i64 (stay : Int)) ∧ V.cell? ⟨sb, 3, none⟩ = some (.int .i64 st) ∧ V.cell? ⟨sb, 4, none⟩ = some (.int .i64 ra) ∧ V.cell? ⟨sb, 5, none⟩ = some (.slice ta tn tc) ∧ V.cell? ⟨sb, 6, none⟩ = some (.string s)) (first | exact HR.out _ B6.out | exact HR.out _ BW.out | exact HR.out _ BW.out.drew | fail)
          (first
            | (go_at_call 30; refine (BE.out _).mono ?_; rintro e w6 ⟨rfl, b6⟩; have B6 := hide' (BW.out.drew.trans (b6.mono BW.out.drew.size)); clear b6)
            | fail)
        go_wp2
        go_ret
        exact ⟨by rw [F.out]; rfl, B6.out⟩
    · have F := hide' (show mkAll born stay a h b wanted n = true from mkAll_yes.2 (fun j hj => KS.out j (by omega)))
      go_wp2
      go_ret
      exact ⟨by rw [F.out]; rfl, BW.out⟩
end Go.Proofs.YtfdbgkdbmlmigaaDoor

