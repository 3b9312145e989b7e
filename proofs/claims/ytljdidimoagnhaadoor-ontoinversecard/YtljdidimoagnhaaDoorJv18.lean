/-
  What the last text of this claim leans on, part 18: Pr11, Pr12, Pr13.
-/
import Derived.Test.YtljdidimoagnhaaDoorJv17
namespace Go.Proofs.YtljdidimoagnhaaDoor
open Go.RowKit
set_option linter.unusedVariables false

theorem bits_int (x : Int) (h : bitsB x = true) (w : World) :
    Calls Tryd.prog 83 #[.int .i64 x] w fun e w' => e = .returned (.string ⟨(dl x.toNat 9).toArray⟩) ∧ Below w.heap.size w w' := by
  unfold bitsB at h
  simp at h
  obtain ⟨i, rfl⟩ := Int.eq_ofNat_of_zero_le h.1
  exact bits_ref i w (by omega)
theorem Digits_int (x : Int) (h0 : 0 ≤ x) (h1 : x ≤ 1000000) (w : World) :
    Calls Tryd.prog 84 #[.int .i64 x] w fun e w' => e = .returned (.string ⟨(Lib.decDigits x.toNat).toArray⟩) ∧ Below w.heap.size w w' := by
  obtain ⟨i, rfl⟩ := Int.eq_ofNat_of_zero_le h0
  exact Digits_ref i w (by omega)

set_option maxHeartbeats 1600000 in
theorem RefPrint_bad (o : Out) (a : Option Addr) (n c : Nat) (w : World) (hR : ArgR w o a n c) (hg : ¬ Good o) :
    Calls Tryd.prog 23 #[.agg #[.int .i64 o.kind, .int .i64 o.born, .int .i64 o.stay, .int .i64 o.states, .int .i64 o.radius, .slice a n c, .string o.turns]] w fun e w' => e = .returned (.tuple #[.string ⟨#[]⟩, .int .i64 1]) ∧ Below w.heap.size w w' := by
  have HR := hide' hR
  have A0 := hide' (hR.alloc (.cells #[.int .i64 o.kind, .int .i64 o.born, .int .i64 o.stay, .int .i64 o.states, .int .i64 o.radius, .slice a n c, .string o.turns] 24))
  clear hR
  go_enter Tryd.func23, Tryd.ntmps23
  go_wp2_with fail
  refine (Fault_any o a n c _ A0.out).mono ?_
  rintro e w1 ⟨he, b1⟩
  have BW := hide' (((Below.refl _ _).alloc (Nat.le_refl _) (.cells #[.int .i64 o.kind, .int .i64 o.born, .int .i64 o.stay, .int .i64 o.states, .int .i64 o.radius, .slice a n c, .string o.turns] 24)).trans (b1.mono (by simp)) : Below w.heap.size w w1)
  have x0 := b1.cell (p := ⟨w.heap.size, 0, none⟩) (by simp)
  have hsz := b1.size
  simp at x0 hsz
  clear b1 A0
  rcases he with ⟨rfl, g⟩ | ⟨rfl, g⟩
  case inl => exact absurd g hg
  clear hg g
  go_wp2
  go_ret2
  exact ⟨rfl, BW.out⟩

set_option maxHeartbeats 1600000 in
theorem RefPrint_full (o : Out) (a : Option Addr) (n c : Nat) (w : World) (hR : ArgR w o a n c) (hg : Good o) (hk : o.kind = 2) (hr : 2 < o.radius) :
    Calls Tryd.prog 23 #[.agg #[.int .i64 o.kind, .int .i64 o.born, .int .i64 o.stay, .int .i64 o.states, .int .i64 o.radius, .slice a n c, .string o.turns]] w fun e w' => e = .returned (.tuple #[.string ⟨#[]⟩, .int .i64 4]) ∧ Below w.heap.size w w' := by
  have k1 : (o.kind == 1) = false := by simp; omega
  have k3 : (o.kind == 3) = false := by simp; omega
  clear hk
  have HR := hide' hR
  have A0 := hide' (hR.alloc (.cells #[.int .i64 o.kind, .int .i64 o.born, .int .i64 o.stay, .int .i64 o.states, .int .i64 o.radius, .slice a n c, .string o.turns] 24))
  clear hR
  go_enter Tryd.func23, Tryd.ntmps23
  go_wp2_with fail
  refine (Fault_any o a n c _ A0.out).mono ?_
  rintro e w1 ⟨he, b1⟩
  have BW := hide' (((Below.refl _ _).alloc (Nat.le_refl _) (.cells #[.int .i64 o.kind, .int .i64 o.born, .int .i64 o.stay, .int .i64 o.states, .int .i64 o.radius, .slice a n c, .string o.turns] 24)).trans (b1.mono (by simp)) : Below w.heap.size w w1)
  have x0 := b1.cell (p := ⟨w.heap.size, 0, none⟩) (by simp)
  have x4 := b1.cell (p := ⟨w.heap.size, 4, none⟩) (by simp)
  have hsz := b1.size
  simp at x0 x4 hsz
  clear b1 A0
  rcases he with ⟨rfl, g⟩ | ⟨rfl, g⟩
  case inr => exact absurd hg g
  clear hg g
  go_wp2
  go_ret2
  exact ⟨rfl, BW.out⟩

set_option maxHeartbeats 1600000 in
theorem RefPrint_turns (o : Out) (a : Option Addr) (n c : Nat) (w : World) (hR : ArgR w o a n c) (hg : Good o) (hk : o.kind = 3) (ht : 2 + o.turns.size ≤ maxLen) :
    Calls Tryd.prog 23 #[.agg #[.int .i64 o.kind, .int .i64 o.born, .int .i64 o.stay, .int .i64 o.states, .int .i64 o.radius, .slice a n c, .string o.turns]] w fun e w' => e = .returned (.tuple #[.string (⟨#[84, 32]⟩ ++ o.turns), .int .i64 0]) ∧ Below w.heap.size w w' := by
  have k1 : (o.kind == 1) = false := by simp; omega
  have k3 : (o.kind == 3) = true := by simp; omega
  have m1 : ¬ (9223372036854775807 < 2 + o.turns.size) := by unfold maxLen at ht; omega
  clear hk ht
  have HR := hide' hR
  have A0 := hide' (hR.alloc (.cells #[.int .i64 o.kind, .int .i64 o.born, .int .i64 o.stay, .int .i64 o.states, .int .i64 o.radius, .slice a n c, .string o.turns] 24))
  clear hR
  go_enter Tryd.func23, Tryd.ntmps23
  go_wp2_with fail
  refine (Fault_any o a n c _ A0.out).mono ?_
  rintro e w1 ⟨he, b1⟩
  have BW := hide' (((Below.refl _ _).alloc (Nat.le_refl _) (.cells #[.int .i64 o.kind, .int .i64 o.born, .int .i64 o.stay, .int .i64 o.states, .int .i64 o.radius, .slice a n c, .string o.turns] 24)).trans (b1.mono (by simp)) : Below w.heap.size w w1)
  have x0 := b1.cell (p := ⟨w.heap.size, 0, none⟩) (by simp)
  have x6 := b1.cell (p := ⟨w.heap.size, 6, none⟩) (by simp)
  have hsz := b1.size
  simp at x0 x6 hsz
  clear b1 A0
  rcases he with ⟨rfl, g⟩ | ⟨rfl, g⟩
  case inr => exact absurd hg g
  clear hg g
  go_wp2
  go_ret2
  exact ⟨rfl, BW.out⟩

set_option maxHeartbeats 1600000 in
theorem RefPrint_life (o : Out) (a : Option Addr) (n c : Nat) (w : World) (hR : ArgR w o a n c) (hg : Good o) (hk : o.kind = 1) (h1 : bitsB o.born = true) (h2 : bitsB o.stay = true) :
    Calls Tryd.prog 23 #[.agg #[.int .i64 o.kind, .int .i64 o.born, .int .i64 o.stay, .int .i64 o.states, .int .i64 o.radius, .slice a n c, .string o.turns]] w fun e w' => e = .returned (.tuple #[.string (((⟨#[66]⟩ ++ ⟨(dl o.born.toNat 9).toArray⟩) ++ ⟨#[47, 83]⟩) ++ ⟨(dl o.stay.toNat 9).toArray⟩), .int .i64 0]) ∧ Below w.heap.size w w' := by
  have k1 : (o.kind == 1) = true := by simp; omega
  have H1 := hide' (bits_int o.born h1)
  have H2 := hide' (bits_int o.stay h2)
  have l1 := dl_len o.born.toNat 9
  have l2 := dl_len o.stay.toNat 9
  have m1 : ¬ (9223372036854775807 < 1 + (dl o.born.toNat 9).length) := by omega
  have m2 : ¬ (9223372036854775807 < 1 + (dl o.born.toNat 9).length + 2) := by omega
  have m3 : ¬ (9223372036854775807 < 1 + (dl o.born.toNat 9).length + 2 + (dl o.stay.toNat 9).length) := by omega
  clear hk h1 h2
  have HR := hide' hR
  have A0 := hide' (hR.alloc (.cells #[.int .i64 o.kind, .int .i64 o.born, .int .i64 o.stay, .int .i64 o.states, .int .i64 o.radius, .slice a n c, .string o.turns] 24))
  clear hR
  go_enter Tryd.func23, Tryd.ntmps23
  go_wp2_with fail
  refine (Fault_any o a n c _ A0.out).mono ?_
  rintro e w1 ⟨he, b1⟩
  have BW := hide' (((Below.refl _ _).alloc (Nat.le_refl _) (.cells #[.int .i64 o.kind, .int .i64 o.born, .int .i64 o.stay, .int .i64 o.states, .int .i64 o.radius, .slice a n c, .string o.turns] 24)).trans (b1.mono (by simp)) : Below w.heap.size w w1)
  have x0 := b1.cell (p := ⟨w.heap.size, 0, none⟩) (by simp)
  have x1 := b1.cell (p := ⟨w.heap.size, 1, none⟩) (by simp)
  have x2 := b1.cell (p := ⟨w.heap.size, 2, none⟩) (by simp)
  have hsz := b1.size
  simp at x0 x1 x2 hsz
  clear b1 A0
  rcases he with ⟨rfl, g⟩ | ⟨rfl, g⟩
  case inr => exact absurd hg g
  clear hg g
  go_wp2_with fail
  refine (H1.out _).mono ?_
  rintro e w2 ⟨rfl, b2⟩
  have x2' := (b2.cell (p := ⟨w.heap.size, 2, none⟩) (by simp; omega)).trans x2
  have B2 := hide' (BW.out.trans (b2.mono BW.out.size))
  clear b2
  go_wp2_with fail
  refine (H2.out _).mono ?_
  rintro e w3 ⟨rfl, b3⟩
  have B3 := hide' (B2.out.trans (b3.mono B2.out.size))
  clear b3
  go_wp2
  go_ret2
  exact ⟨rfl, B3.out⟩

theorem wrapsum' (t m : Nat) (x : Int) (ht : t ≤ 255) (hm : m ≤ 256) (hx : x = 0 ∨ x = 1) : wrap64 ((t : Int) + wrap64 ((m : Int) * x)) = ((t + x.toNat * m : Nat) : Int) := by
  rcases hx with rfl | rfl
  · simp [wrap64]; omega
  · simp [wrap64]; omega

set_option maxHeartbeats 1600000 in
theorem RefPrint_W (o : Out) (a : Option Addr) (n c : Nat) (w : World) (hR : ArgR w o a n c) (hg : Good o) (hk : o.kind = 2) (h1 : o.states = 2) (h2 : o.radius = 1) (h8 : n = 8) (hb : ∀ k, k < o.table.length → 0 ≤ o.table.getD k 0 ∧ o.table.getD k 0 < 2) :
    Calls Tryd.prog 23 #[.agg #[.int .i64 o.kind, .int .i64 o.born, .int .i64 o.stay, .int .i64 o.states, .int .i64 o.radius, .slice a n c, .string o.turns]] w fun e w' => e = .returned (.tuple #[.string (⟨#[87]⟩ ++ ⟨(Lib.decDigits (tabNum o.table 8)).toArray⟩), .int .i64 0]) ∧ Below w.heap.size w w' := by
  have k1 : (o.kind == 1) = false := by simp; omega
  have k3 : (o.kind == 3) = false := by simp; omega
  have k4 : decide (2 < o.radius) = false := by simp; omega
  have k5 : (o.states == 2) = true := by simp; omega
  have k6 : (o.radius == 1) = true := by simp; omega
  have H8 := hide' h8
  have HB := hide' hb
  have HL := hide' hR.len
  have n8 : n ≤ 8 := by omega
  clear hk h1 h2 h8 hb
  have HR := hide' hR
  have A0 := hide' (hR.alloc (.cells #[.int .i64 o.kind, .int .i64 o.born, .int .i64 o.stay, .int .i64 o.states, .int .i64 o.radius, .slice a n c, .string o.turns] 24))
  clear hR
  go_enter Tryd.func23, Tryd.ntmps23
  go_wp2_with fail
  refine (Fault_any o a n c _ A0.out).mono ?_
  rintro e w1 ⟨he, b1⟩
  have BW := hide' (((Below.refl _ _).alloc (Nat.le_refl _) (.cells #[.int .i64 o.kind, .int .i64 o.born, .int .i64 o.stay, .int .i64 o.states, .int .i64 o.radius, .slice a n c, .string o.turns] 24)).trans (b1.mono (by simp)) : Below w.heap.size w w1)
  have x0 := b1.cell (p := ⟨w.heap.size, 0, none⟩) (by simp)
  have x3 := b1.cell (p := ⟨w.heap.size, 3, none⟩) (by simp)
  have x4 := b1.cell (p := ⟨w.heap.size, 4, none⟩) (by simp)
  have x5 := b1.cell (p := ⟨w.heap.size, 5, none⟩) (by simp)
  have hsz := b1.size
  simp at x0 x3 x4 x5 hsz
  clear b1 A0
  rcases he with ⟨rfl, g⟩ | ⟨rfl, g⟩
  case inr => exact absurd hg g
  clear hg g
  go_wp2
  go_loop [7, 8, 9] (fun tv mv kv => ∃ k t m : Nat, kv = .int .i64 (k : Int) ∧ tv = .int .i64 (t : Int) ∧ mv = .int .i64 (m : Int) ∧ k ≤ 8 ∧ t ≤ 255 ∧ m ≤ 256 ∧ Hid (t = tabNum o.table k ∧ m = 2 ^ k)) (fun _ _ kv => 8 - (intOf kv).toNat)
  case atStart => exact ⟨0, 0, 1, rfl, rfl, rfl, by omega, by omega, by omega, hide' ⟨rfl, rfl⟩⟩
  case round =>
    obtain ⟨k, t, m, rfl, rfl, rfl, hk, ht, hm, HT⟩ := hrel
    by_cases d : (k : Int) < 8
    · have hkl : k < o.table.length := by have := HL.out; have := H8.out; omega
      obtain ⟨g, off, rfl, hg, hc⟩ := (HR.out.below BW.out).cells k hkl
      have hx := HB.out k hkl
      have hget : o.table.getD k 0 = o.table[k] := by simp [List.getD, hkl]
      rw [hget] at hx
      have hlt := tabNum_lt o.table HB.out (k + 1) (by omega)
      have hp8 : 2 ^ (k + 1) ≤ 2 ^ 8 := Nat.pow_le_pow_right (by omega) (by omega)
      have hp9 : 2 ^ (k + 1) = 2 ^ k * 2 := Nat.pow_succ 2 k
      have T2 := hide' (show tabNum o.table (k + 1) = t + (o.table[k]).toNat * m by unfold tabNum; rw [hget, ← HT.out.1, ← HT.out.2])
      have L2 := hide' (show tabNum o.table (k + 1) ≤ 255 by omega)
      have M2 := hide' (show m * 2 = 2 ^ (k + 1) ∧ m * 2 ≤ 256 by have := HT.out.2; omega)
      have hcase : o.table[k] = 0 ∨ o.table[k] = 1 := by omega
      clear hlt hp8 hp9 hget
      have hkn : (k : Int) < (n : Int) := by have := H8.out; omega
      go_wp2
      rw [wrapsum' t m o.table[k] ht hm hcase]
      exact ⟨⟨k + 1, _, m * 2, by go_num, rfl, by go_num, by omega, by have := L2.out; rw [T2.out] at this; exact this, M2.out.2, hide' ⟨T2.out.symm, M2.out.1⟩⟩, by simp [intOf]; omega⟩
    · have K := hide' (show t = tabNum o.table 8 by have := HT.out.1; rw [show k = 8 by omega] at this; exact this)
      have ll : (Lib.decDigits t).length ≤ 21 := by
        have := Lib.itoa_length_le (t : Int) (by omega) (by omega)
        rw [Lib.itoa_nonneg] at this
        simpa using this
      have m1 : ¬ (9223372036854775807 < 1 + (Lib.decDigits t).length) := by omega
      go_wp2_with fail
      refine (Digits_ref t _ (by omega)).mono ?_
      rintro e w2 ⟨rfl, b2⟩
      have B2 := hide' (BW.out.trans (b2.mono BW.out.size))
      clear b2
      go_wp2
      go_ret2
      rw [K.out]
      exact ⟨rfl, B2.out⟩

end Go.Proofs.YtljdidimoagnhaaDoor

namespace Go.Proofs.YtljdidimoagnhaaDoor
open Go.RowKit
set_option linter.unusedVariables false

theorem stB_bval (o : Out) (k : Nat) (hk : k < o.table.length) (hx : 0 ≤ o.table[k] ∧ o.table[k] < 4) : bval (stB o.table k) = .int .u8 (48 + o.table[k]) := by
  have hget : o.table.getD k 0 = o.table[k] := by simp [List.getD, hk]
  unfold stB
  rw [hget, bval_dig _ (by omega)]
  congr 1
  omega
theorem stB_succ (xs : List Int) (k : Nat) : (List.range (k + 1)).map (stB xs) = (List.range k).map (stB xs) ++ [stB xs k] := by
  rw [List.range_succ, List.map_append]; rfl

set_option maxHeartbeats 1600000 in
theorem RefPrint_La (o : Out) (a : Option Addr) (n c : Nat) (w : World) (hR : ArgR w o a n c) (hg : Good o) (hk : o.kind = 2) (hs0 : 0 ≤ o.states) (hs1 : o.states < 100) (hr0 : 0 ≤ o.radius) (hr1 : o.radius ≤ 2) (k5 : (o.states == 2) = false) (hn4 : n ≤ 4096) (hb : ∀ k, k < o.table.length → 0 ≤ o.table.getD k 0 ∧ o.table.getD k 0 < 4) :
    Calls Tryd.prog 23 #[.agg #[.int .i64 o.kind, .int .i64 o.born, .int .i64 o.stay, .int .i64 o.states, .int .i64 o.radius, .slice a n c, .string o.turns]] w fun e w' => e = .returned (.tuple #[.string (((((⟨#[76, 32]⟩ ++ ⟨(Lib.decDigits o.states.toNat).toArray⟩) ++ ⟨#[32]⟩) ++ ⟨(Lib.decDigits o.radius.toNat).toArray⟩) ++ ⟨#[32]⟩) ++ ⟨((List.range n).map (stB o.table)).toArray⟩), .int .i64 0]) ∧ Below w.heap.size w w' := by
  have k1 : (o.kind == 1) = false := by simp; omega
  have k3 : (o.kind == 3) = false := by simp; omega
  have k4 : decide (2 < o.radius) = false := by simp; omega
  have HB := hide' hb
  have HL := hide' hR.len
  have l1 := decS_len o.states hs0 hs1
  have l2 := decS_len o.radius hr0 (by omega)
  have HS := hide' (Digits_int o.states hs0 (by omega))
  have HT := hide' (Digits_int o.radius hr0 (by omega))
  have m1 : ¬ (9223372036854775807 < 2 + (Lib.decDigits o.states.toNat).length) := by omega
  have m2 : ¬ (9223372036854775807 < 2 + (Lib.decDigits o.states.toNat).length + 1) := by omega
  have m3 : ¬ (9223372036854775807 < 2 + (Lib.decDigits o.states.toNat).length + 1 + (Lib.decDigits o.radius.toNat).length) := by omega
  have m4 : ¬ (9223372036854775807 < 2 + (Lib.decDigits o.states.toNat).length + 1 + (Lib.decDigits o.radius.toNat).length + 1) := by omega
  clear hk hb hs0 hs1 hr0 hr1
  obtain ⟨i0, hi, hz0, hz1, hz2⟩ := info_parts info_u8
  have HR := hide' hR
  have A0 := hide' (hR.alloc (.cells #[.int .i64 o.kind, .int .i64 o.born, .int .i64 o.stay, .int .i64 o.states, .int .i64 o.radius, .slice a n c, .string o.turns] 24))
  clear hR
  go_enter Tryd.func23, Tryd.ntmps23
  go_wp2_with fail
  refine (Fault_any o a n c _ A0.out).mono ?_
  rintro e w1 ⟨he, b1⟩
  have BW := hide' (((Below.refl _ _).alloc (Nat.le_refl _) (.cells #[.int .i64 o.kind, .int .i64 o.born, .int .i64 o.stay, .int .i64 o.states, .int .i64 o.radius, .slice a n c, .string o.turns] 24)).trans (b1.mono (by simp)) : Below w.heap.size w w1)
  have x0 := b1.cell (p := ⟨w.heap.size, 0, none⟩) (by simp)
  have x3 := b1.cell (p := ⟨w.heap.size, 3, none⟩) (by simp)
  have x4 := b1.cell (p := ⟨w.heap.size, 4, none⟩) (by simp)
  have x5 := b1.cell (p := ⟨w.heap.size, 5, none⟩) (by simp)
  have hsz := b1.size
  simp at x0 x3 x4 x5 hsz
  clear b1 A0
  rcases he with ⟨rfl, g⟩ | ⟨rfl, g⟩
  case inr => exact absurd hg g
  clear hg g
  go_wp2_with fail
  refine (HS.out _).mono ?_
  rintro e w2 ⟨rfl, b2⟩
  have y4 := (b2.cell (p := ⟨w.heap.size, 4, none⟩) (by simp; omega)).trans x4
  have y5 := (b2.cell (p := ⟨w.heap.size, 5, none⟩) (by simp; omega)).trans x5
  have B2 := hide' (BW.out.trans (b2.mono BW.out.size))
  have hs2 : w.heap.size + 1 ≤ w2.heap.size := Nat.le_trans hsz b2.size
  clear b2
  go_wp2_with fail
  refine (HT.out _).mono ?_
  rintro e w3 ⟨rfl, b3⟩
  have z5 := (b3.cell (p := ⟨w.heap.size, 5, none⟩) (by simp; omega)).trans y5
  have B3 := hide' (B2.out.trans (b3.mono B2.out.size))
  have hs3 : w.heap.size + 1 ≤ w3.heap.size := Nat.le_trans hs2 b3.size
  have Z5 := hide' z5
  clear b3 x0 x3 x4 x5 y4 y5 hs2 hsz
  have S := hide' (Row8.start w3)
  go_wp2
  go_loopw [13, 14] (fun ov kv wr => ∃ k : Nat, kv = .int .i64 (k : Int) ∧ k ≤ n ∧ Row8 w3 wr ov ((List.range k).map (stB o.table))) (fun _ kv _ => n - (intOf kv).toNat)
  case atStart => exact ⟨0, rfl, by omega, S.out⟩
  case round =>
    obtain ⟨k, rfl, hk, hR8⟩ := hrel
    have R8 := hide' hR8
    have ho := hR8.own
    have hz := hR8.below.size
    have v5 := (hR8.below.cell (p := ⟨w.heap.size, 5, none⟩) (by simp; omega)).trans Z5.out
    obtain ⟨sa, sn, sc, rfl⟩ := ownsRow_slice ho
    have HO := hide' ho
    have hcv := own_string ho
    clear hR8 ho S z5
    by_cases d : (k : Int) < (n : Int)
    · have hkl : k < o.table.length := by have := HL.out; omega
      obtain ⟨g, off, rfl, hg, hc⟩ := (HR.out.below (B3.out.trans (R8.out.below.mono B3.out.size))).cells k hkl
      have hx := HB.out k hkl
      have hget : o.table.getD k 0 = o.table[k] := by simp [List.getD, hkl]
      rw [hget] at hx
      have X := hide' (stB_bval o k hkl hx)
      have hll : ((List.range k).map (stB o.table)).length = k := by simp
      clear hget hcv
      go_wp2_with (at_builtin; refine wpList_append_own _ rfl _ _ 105 rfl w3.heap.size 5 i0 (.int .u8 0) 1 1 Tryd.underlying105 hi hz0 hz1 hz2 rfl (by decide) (.slice sa sn sc) _ _ rfl (HO.out.alloc _) ⟨wr.heap.size, 0, none⟩ 1 1 [.int .u8 (48 + o.table[k])] rfl rfl (cell_one_new _ _ _) (fun x hx => by simp at hx; subst hx; rfl) (by unfold maxLen; simp; omega) (by simp; omega) (by simp; omega) ?_; intro v' w4 hown' hgrow3 hnil3; have G3 := hide' hgrow3; have O3 := hide' hown'; clear hgrow3 hown' hnil3)
      refine ⟨⟨k + 1, by go_num, by omega, ?_⟩, by simp [intOf]; omega⟩
      rw [stB_succ]
      exact R8.out.push X.out G3.out O3.out
    · have m5 : ¬ (9223372036854775807 < 2 + (Lib.decDigits o.states.toNat).length + 1 + (Lib.decDigits o.radius.toNat).length + 1 + k) := by omega
      have K := hide' (show k = n by omega)
      go_wp2
      go_ret2
      have e := (B3.out.trans (R8.out.below.mono B3.out.size))
      rw [K.out]
      exact ⟨rfl, e⟩

set_option maxHeartbeats 1600000 in
theorem RefPrint_Lb (o : Out) (a : Option Addr) (n c : Nat) (w : World) (hR : ArgR w o a n c) (hg : Good o) (hk : o.kind = 2) (hs0 : 0 ≤ o.states) (hs1 : o.states < 100) (hr0 : 0 ≤ o.radius) (hr1 : o.radius ≤ 2) (k5 : (o.states == 2) = true) (k6 : (o.radius == 1) = false) (hn4 : n ≤ 4096) (hb : ∀ k, k < o.table.length → 0 ≤ o.table.getD k 0 ∧ o.table.getD k 0 < 4) :
    Calls Tryd.prog 23 #[.agg #[.int .i64 o.kind, .int .i64 o.born, .int .i64 o.stay, .int .i64 o.states, .int .i64 o.radius, .slice a n c, .string o.turns]] w fun e w' => e = .returned (.tuple #[.string (((((⟨#[76, 32]⟩ ++ ⟨(Lib.decDigits o.states.toNat).toArray⟩) ++ ⟨#[32]⟩) ++ ⟨(Lib.decDigits o.radius.toNat).toArray⟩) ++ ⟨#[32]⟩) ++ ⟨((List.range n).map (stB o.table)).toArray⟩), .int .i64 0]) ∧ Below w.heap.size w w' := by
  have k1 : (o.kind == 1) = false := by simp; omega
  have k3 : (o.kind == 3) = false := by simp; omega
  have k4 : decide (2 < o.radius) = false := by simp; omega
  have HB := hide' hb
  have HL := hide' hR.len
  have l1 := decS_len o.states hs0 hs1
  have l2 := decS_len o.radius hr0 (by omega)
  have HS := hide' (Digits_int o.states hs0 (by omega))
  have HT := hide' (Digits_int o.radius hr0 (by omega))
  have m1 : ¬ (9223372036854775807 < 2 + (Lib.decDigits o.states.toNat).length) := by omega
  have m2 : ¬ (9223372036854775807 < 2 + (Lib.decDigits o.states.toNat).length + 1) := by omega
  have m3 : ¬ (9223372036854775807 < 2 + (Lib.decDigits o.states.toNat).length + 1 + (Lib.decDigits o.radius.toNat).length) := by omega
  have m4 : ¬ (9223372036854775807 < 2 + (Lib.decDigits o.states.toNat).length + 1 + (Lib.decDigits o.radius.toNat).length + 1) := by omega
  clear hk hb hs0 hs1 hr0 hr1
  obtain ⟨i0, hi, hz0, hz1, hz2⟩ := info_parts info_u8
  have HR := hide' hR
  have A0 := hide' (hR.alloc (.cells #[.int .i64 o.kind, .int .i64 o.born, .int .i64 o.stay, .int .i64 o.states, .int .i64 o.radius, .slice a n c, .string o.turns] 24))
  clear hR
  go_enter Tryd.func23, Tryd.ntmps23
  go_wp2_with fail
  refine (Fault_any o a n c _ A0.out).mono ?_
  rintro e w1 ⟨he, b1⟩
  have BW := hide' (((Below.refl _ _).alloc (Nat.le_refl _) (.cells #[.int .i64 o.kind, .int .i64 o.born, .int .i64 o.stay, .int .i64 o.states, .int .i64 o.radius, .slice a n c, .string o.turns] 24)).trans (b1.mono (by simp)) : Below w.heap.size w w1)
  have x0 := b1.cell (p := ⟨w.heap.size, 0, none⟩) (by simp)
  have x3 := b1.cell (p := ⟨w.heap.size, 3, none⟩) (by simp)
  have x4 := b1.cell (p := ⟨w.heap.size, 4, none⟩) (by simp)
  have x5 := b1.cell (p := ⟨w.heap.size, 5, none⟩) (by simp)
  have hsz := b1.size
  simp at x0 x3 x4 x5 hsz
  clear b1 A0
  rcases he with ⟨rfl, g⟩ | ⟨rfl, g⟩
  case inr => exact absurd hg g
  clear hg g
  go_wp2_with fail
  refine (HS.out _).mono ?_
  rintro e w2 ⟨rfl, b2⟩
  have y4 := (b2.cell (p := ⟨w.heap.size, 4, none⟩) (by simp; omega)).trans x4
  have y5 := (b2.cell (p := ⟨w.heap.size, 5, none⟩) (by simp; omega)).trans x5
  have B2 := hide' (BW.out.trans (b2.mono BW.out.size))
  have hs2 : w.heap.size + 1 ≤ w2.heap.size := Nat.le_trans hsz b2.size
  clear b2
  go_wp2_with fail
  refine (HT.out _).mono ?_
  rintro e w3 ⟨rfl, b3⟩
  have z5 := (b3.cell (p := ⟨w.heap.size, 5, none⟩) (by simp; omega)).trans y5
  have B3 := hide' (B2.out.trans (b3.mono B2.out.size))
  have hs3 : w.heap.size + 1 ≤ w3.heap.size := Nat.le_trans hs2 b3.size
  have Z5 := hide' z5
  clear b3 x0 x3 x4 x5 y4 y5 hs2 hsz
  have S := hide' (Row8.start w3)
  go_wp2
  go_loopw [13, 14] (fun ov kv wr => ∃ k : Nat, kv = .int .i64 (k : Int) ∧ k ≤ n ∧ Row8 w3 wr ov ((List.range k).map (stB o.table))) (fun _ kv _ => n - (intOf kv).toNat)
  case atStart => exact ⟨0, rfl, by omega, S.out⟩
  case round =>
    obtain ⟨k, rfl, hk, hR8⟩ := hrel
    have R8 := hide' hR8
    have ho := hR8.own
    have hz := hR8.below.size
    have v5 := (hR8.below.cell (p := ⟨w.heap.size, 5, none⟩) (by simp; omega)).trans Z5.out
    obtain ⟨sa, sn, sc, rfl⟩ := ownsRow_slice ho
    have HO := hide' ho
    have hcv := own_string ho
    clear hR8 ho S z5
    by_cases d : (k : Int) < (n : Int)
    · have hkl : k < o.table.length := by have := HL.out; omega
      obtain ⟨g, off, rfl, hg, hc⟩ := (HR.out.below (B3.out.trans (R8.out.below.mono B3.out.size))).cells k hkl
      have hx := HB.out k hkl
      have hget : o.table.getD k 0 = o.table[k] := by simp [List.getD, hkl]
      rw [hget] at hx
      have X := hide' (stB_bval o k hkl hx)
      have hll : ((List.range k).map (stB o.table)).length = k := by simp
      clear hget hcv
      go_wp2_with (at_builtin; refine wpList_append_own _ rfl _ _ 105 rfl w3.heap.size 5 i0 (.int .u8 0) 1 1 Tryd.underlying105 hi hz0 hz1 hz2 rfl (by decide) (.slice sa sn sc) _ _ rfl (HO.out.alloc _) ⟨wr.heap.size, 0, none⟩ 1 1 [.int .u8 (48 + o.table[k])] rfl rfl (cell_one_new _ _ _) (fun x hx => by simp at hx; subst hx; rfl) (by unfold maxLen; simp; omega) (by simp; omega) (by simp; omega) ?_; intro v' w4 hown' hgrow3 hnil3; have G3 := hide' hgrow3; have O3 := hide' hown'; clear hgrow3 hown' hnil3)
      refine ⟨⟨k + 1, by go_num, by omega, ?_⟩, by simp [intOf]; omega⟩
      rw [stB_succ]
      exact R8.out.push X.out G3.out O3.out
    · have m5 : ¬ (9223372036854775807 < 2 + (Lib.decDigits o.states.toNat).length + 1 + (Lib.decDigits o.radius.toNat).length + 1 + k) := by omega
      have K := hide' (show k = n by omega)
      go_wp2
      go_ret2
      have e := (B3.out.trans (R8.out.below.mono B3.out.size))
      rw [K.out]
      exact ⟨rfl, e⟩

end Go.Proofs.YtljdidimoagnhaaDoor

namespace Go.Proofs.YtljdidimoagnhaaDoor
open Go.RowKit
set_option linter.unusedVariables false

/-- The last c digits of n to the base s, behind acc, the lowest first. -/
def rv (s : Nat) : Nat → Nat → Nat → Nat
  | 0, acc, _ => acc
  | c + 1, acc, n => rv s c (acc * s + n % s) (n / s)
theorem rv_acc (s : Nat) : ∀ c acc n, rv s c acc n = acc * s ^ c + rv s c 0 n
  | 0, acc, n => by simp [rv]
  | c + 1, acc, n => by
    show rv s c (acc * s + n % s) (n / s) = _ + rv s c (0 * s + n % s) (n / s)
    rw [rv_acc s c (acc * s + n % s), rv_acc s c (0 * s + n % s), Nat.pow_succ, Nat.add_mul, Nat.add_mul, Nat.zero_mul, Nat.zero_mul, Nat.zero_add, Nat.mul_assoc, Nat.mul_comm s (s ^ c), Nat.add_assoc]
theorem rv_low (s c n : Nat) : rv s (c + 1) 0 n = n % s * s ^ c + rv s c 0 (n / s) := by
  show rv s c (0 * s + n % s) (n / s) = _
  rw [rv_acc s c (0 * s + n % s), Nat.zero_mul, Nat.zero_add]
theorem rv_lt (s : Nat) (hs : 0 < s) : ∀ c n, rv s c 0 n < s ^ c
  | 0, n => by simp [rv]
  | c + 1, n => by
    rw [rv_low, Nat.pow_succ]
    have h1 := rv_lt s hs c (n / s)
    have h2 : n % s < s := Nat.mod_lt _ hs
    calc n % s * s ^ c + rv s c 0 (n / s) < n % s * s ^ c + s ^ c := by omega
      _ = (n % s + 1) * s ^ c := by rw [Nat.add_mul, Nat.one_mul]
      _ ≤ s * s ^ c := Nat.mul_le_mul_right _ h2
      _ = s ^ c * s := Nat.mul_comm _ _
theorem rv_top (s : Nat) (hs : 0 < s) : ∀ c a b, a < s → b < s ^ c → rv s (c + 1) 0 (a * s ^ c + b) = rv s c 0 b * s + a
  | 0, a, b, ha, hb => by
    have : b = 0 := by simpa using hb
    subst this
    simp [rv, Nat.mod_eq_of_lt ha]
  | c + 1, a, b, ha, hb => by
    have e : a * s ^ (c + 1) + b = b + s * (a * s ^ c) := by rw [Nat.pow_succ, Nat.mul_comm s, Nat.mul_assoc, Nat.add_comm]
    have h1 : (a * s ^ (c + 1) + b) % s = b % s := by rw [e, Nat.add_mul_mod_self_left]
    have h2 : (a * s ^ (c + 1) + b) / s = a * s ^ c + b / s := by rw [e, Nat.add_mul_div_left _ _ hs, Nat.add_comm]
    have h3 : b / s < s ^ c := by rw [Nat.div_lt_iff_lt_mul hs]; rw [Nat.pow_succ] at hb; exact hb
    rw [rv_low, h1, h2, rv_top s hs c a (b / s) ha h3, rv_low s c b, Nat.add_mul, Nat.pow_succ, Nat.mul_assoc, Nat.add_assoc]
theorem rv_rv (s : Nat) (hs : 0 < s) : ∀ c n, n < s ^ c → rv s c 0 (rv s c 0 n) = n
  | 0, n, h => by simp [rv]; simp at h; exact h.symm
  | c + 1, n, h => by
    have h3 : n / s < s ^ c := by rw [Nat.div_lt_iff_lt_mul hs]; rw [Nat.pow_succ] at h; exact h
    rw [rv_low s c n, rv_top s hs c _ _ (Nat.mod_lt _ hs) (rv_lt s hs c _), rv_rv s hs c _ h3]
    exact Nat.div_add_mod' n s
end Go.Proofs.YtljdidimoagnhaaDoor

