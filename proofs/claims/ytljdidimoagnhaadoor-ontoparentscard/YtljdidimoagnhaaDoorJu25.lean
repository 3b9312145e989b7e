/-
  What the last text of this claim leans on, part 25: Pr11.
-/
import Derived.Test.YtljdidimoagnhaaDoorJu24
namespace Go.Proofs.YtljdidimoagnhaaDoor
open Go.RowKit
set_option linter.unusedVariables false

theorem bits_int (x : Int) (h : bitsB x = true) (w : World) :
    Calls Tryd.prog 83 #[.int .i64 x] w fun e w' => e = .returned (.string ⟨(dl x.toNat 9).toArray⟩) ∧ Below w.heap.size w w' := by
  unfold bitsB at h
  simp at h
  obtain ⟨i, rfl⟩ := Int.eq_ofNat_of_zero_le h.1
  exact bits_ref i w (by omega)
theorem Digits_int (x : Int) (h0 : 0 ≤ x) (h1 : x ≤ 1000000) (w : World) :
    Calls Tryd.prog 84 #[.int .i64 x] w fun e w' => e = .returned (.string ⟨(Lib.decDigits x.toNat).toArray⟩) ∧ Below w.heap.size w w' := by
  obtain ⟨i, rfl⟩ := Int.eq_ofNat_of_zero_le h0
  exact Digits_ref i w (by omega)

set_option maxHeartbeats 1600000 in
theorem RefPrint_bad (o : Out) (a : Option Addr) (n c : Nat) (w : World) (hR : ArgR w o a n c) (hg : ¬ Good o) :
    Calls Tryd.prog 23 #[.agg #[.int .i64 o.kind, .int .i64 o.born, .int .i64 o.stay, .int .i64 o.states, .int .i64 o.radius, .slice a n c, .string o.turns]] w fun e w' => e = .returned (.tuple #[.string ⟨#[]⟩, .int .i64 1]) ∧ Below w.heap.size w w' := by
  have HR := hide' hR
  have A0 := hide' (hR.alloc (.cells #[.int .i64 o.kind, .int .i64 o.born, .int .i64 o.stay, .int .i64 o.states, .int .i64 o.radius, .slice a n c, .string o.turns] 24))
  clear hR
  go_enter Tryd.func23, Tryd.ntmps23
  go_wp2_with fail
  refine (Fault_any o a n c _ A0.out).mono ?_
  rintro e w1 ⟨he, b1⟩
  have BW := hide' (((Below.refl _ _).alloc (Nat.le_refl _) (.cells #[.int .i64 o.kind, .int .i64 o.born, .int .i64 o.stay, .int .i64 o.states, .int .i64 o.radius, .slice a n c, .string o.turns] 24)).trans (b1.mono (by simp)) : Below w.heap.size w w1)
  have x0 := b1.cell (p := ⟨w.heap.size, 0, none⟩) (by simp)
  have hsz := b1.size
  simp at x0 hsz
  clear b1 A0
  rcases he with ⟨rfl, g⟩ | ⟨rfl, g⟩
  case inl => exact absurd g hg
  clear hg g
  go_wp2
  go_ret2
  exact ⟨rfl, BW.out⟩

set_option maxHeartbeats 1600000 in
theorem RefPrint_full (o : Out) (a : Option Addr) (n c : Nat) (w : World) (hR : ArgR w o a n c) (hg : Good o) (hk : o.kind = 2) (hr : 2 < o.radius) :
    Calls Tryd.prog 23 #[.agg #[.int .i64 o.kind, .int .i64 o.born, .int .i64 o.stay, .int .i64 o.states, .int .i64 o.radius, .slice a n c, .string o.turns]] w fun e w' => e = .returned (.tuple #[.string ⟨#[]⟩, .int .i64 4]) ∧ Below w.heap.size w w' := by
  have k1 : (o.kind == 1) = false := by simp; omega
  have k3 : (o.kind == 3) = false := by simp; omega
  clear hk
  have HR := hide' hR
  have A0 := hide' (hR.alloc (.cells #[.int .i64 o.kind, .int .i64 o.born, .int .i64 o.stay, .int .i64 o.states, .int .i64 o.radius, .slice a n c, .string o.turns] 24))
  clear hR
  go_enter Tryd.func23, Tryd.ntmps23
  go_wp2_with fail
  refine (Fault_any o a n c _ A0.out).mono ?_
  rintro e w1 ⟨he, b1⟩
  have BW := hide' (((Below.refl _ _).alloc (Nat.le_refl _) (.cells #[.int .i64 o.kind, .int .i64 o.born, .int .i64 o.stay, .int .i64 o.states, .int .i64 o.radius, .slice a n c, .string o.turns] 24)).trans (b1.mono (by simp)) : Below w.heap.size w w1)
  have x0 := b1.cell (p := ⟨w.heap.size, 0, none⟩) (by simp)
  have x4 := b1.cell (p := ⟨w.heap.size, 4, none⟩) (by simp)
  have hsz := b1.size
  simp at x0 x4 hsz
  clear b1 A0
  rcases he with ⟨rfl, g⟩ | ⟨rfl, g⟩
  case inr => exact absurd hg g
  clear hg g
  go_wp2
  go_ret2
  exact ⟨rfl, BW.out⟩

set_option maxHeartbeats 1600000 in
theorem RefPrint_turns (o : Out) (a : Option Addr) (n c : Nat) (w : World) (hR : ArgR w o a n c) (hg : Good o) (hk : o.kind = 3) (ht : 2 + o.turns.size ≤ maxLen) :
    Calls Tryd.prog 23 #[.agg #[.int .i64 o.kind, .int .i64 o.born, .int .i64 o.stay, .int .i64 o.states, .int .i64 o.radius, .slice a n c, .string o.turns]] w fun e w' => e = .returned (.tuple #[.string (⟨#[84, 32]⟩ ++ o.turns), .int .i64 0]) ∧ Below w.heap.size w w' := by
  have k1 : (o.kind == 1) = false := by simp; omega
  have k3 : (o.kind == 3) = true := by simp; omega
  have m1 : ¬ (9223372036854775807 < 2 + o.turns.size) := by unfold maxLen at ht; omega
  clear hk ht
  have HR := hide' hR
  have A0 := hide' (hR.alloc (.cells #[.int .i64 o.kind, .int .i64 o.born, .int .i64 o.stay, .int .i64 o.states, .int .i64 o.radius, .slice a n c, .string o.turns] 24))
  clear hR
  go_enter Tryd.func23, Tryd.ntmps23
  go_wp2_with fail
  refine (Fault_any o a n c _ A0.out).mono ?_
  rintro e w1 ⟨he, b1⟩
  have BW := hide' (((Below.refl _ _).alloc (Nat.le_refl _) (.cells #[.int .i64 o.kind, .int .i64 o.born, .int .i64 o.stay, .int .i64 o.states, .int .i64 o.radius, .slice a n c, .string o.turns] 24)).trans (b1.mono (by simp)) : Below w.heap.size w w1)
  have x0 := b1.cell (p := ⟨w.heap.size, 0, none⟩) (by simp)
  have x6 := b1.cell (p := ⟨w.heap.size, 6, none⟩) (by simp)
  have hsz := b1.size
  simp at x0 x6 hsz
  clear b1 A0
  rcases he with ⟨rfl, g⟩ | ⟨rfl, g⟩
  case inr => exact absurd hg g
  clear hg g
  go_wp2
  go_ret2
  exact ⟨rfl, BW.out⟩

set_option maxHeartbeats 1600000 in
theorem RefPrint_life (o : Out) (a : Option Addr) (n c : Nat) (w : World) (hR : ArgR w o a n c) (hg : Good o) (hk : o.kind = 1) (h1 : bitsB o.born = true) (h2 : bitsB o.stay = true) :
    Calls Tryd.prog 23 #[.agg #[.int .i64 o.kind, .int .i64 o.born, .int .i64 o.stay, .int .i64 o.states, .int .i64 o.radius, .slice a n c, .string o.turns]] w fun e w' => e = .returned (.tuple #[.string (((⟨#[66]⟩ ++ ⟨(dl o.born.toNat 9).toArray⟩) ++ ⟨#[47, 83]⟩) ++ ⟨(dl o.stay.toNat 9).toArray⟩), .int .i64 0]) ∧ Below w.heap.size w w' := by
  have k1 : (o.kind == 1) = true := by simp; omega
  have H1 := hide' (bits_int o.born h1)
  have H2 := hide' (bits_int o.stay h2)
  have l1 := dl_len o.born.toNat 9
  have l2 := dl_len o.stay.toNat 9
  have m1 : ¬ (9223372036854775807 < 1 + (dl o.born.toNat 9).length) := by omega
  have m2 : ¬ (9223372036854775807 < 1 + (dl o.born.toNat 9).length + 2) := by omega
  have m3 : ¬ (9223372036854775807 < 1 + (dl o.born.toNat 9).length + 2 + (dl o.stay.toNat 9).length) := by omega
  clear hk h1 h2
  have HR := hide' hR
  have A0 := hide' (hR.alloc (.cells #[.int .i64 o.kind, .int .i64 o.born, .int .i64 o.stay, .int .i64 o.states, .int .i64 o.radius, .slice a n c, .string o.turns] 24))
  clear hR
  go_enter Tryd.func23, Tryd.ntmps23
  go_wp2_with fail
  refine (Fault_any o a n c _ A0.out).mono ?_
  rintro e w1 ⟨he, b1⟩
  have BW := hide' (((Below.refl _ _).alloc (Nat.le_refl _) (.cells #[.int .i64 o.kind, .int .i64 o.born, .int .i64 o.stay, .int .i64 o.states, .int .i64 o.radius, .slice a n c, .string o.turns] 24)).trans (b1.mono (by simp)) : Below w.heap.size w w1)
  have x0 := b1.cell (p := ⟨w.heap.size, 0, none⟩) (by simp)
  have x1 := b1.cell (p := ⟨w.heap.size, 1, none⟩) (by simp)
  have x2 := b1.cell (p := ⟨w.heap.size, 2, none⟩) (by simp)
  have hsz := b1.size
  simp at x0 x1 x2 hsz
  clear b1 A0
  rcases he with ⟨rfl, g⟩ | ⟨rfl, g⟩
  case inr => exact absurd hg g
  clear hg g
  go_wp2_with fail
  refine (H1.out _).mono ?_
  rintro e w2 ⟨rfl, b2⟩
  have x2' := (b2.cell (p := ⟨w.heap.size, 2, none⟩) (by simp; omega)).trans x2
  have B2 := hide' (BW.out.trans (b2.mono BW.out.size))
  clear b2
  go_wp2_with fail
  refine (H2.out _).mono ?_
  rintro e w3 ⟨rfl, b3⟩
  have B3 := hide' (B2.out.trans (b3.mono B2.out.size))
  clear b3
  go_wp2
  go_ret2
  exact ⟨rfl, B3.out⟩

theorem wrapsum' (t m : Nat) (x : Int) (ht : t ≤ 255) (hm : m ≤ 256) (hx : x = 0 ∨ x = 1) : wrap64 ((t : Int) + wrap64 ((m : Int) * x)) = ((t + x.toNat * m : Nat) : Int) := by
  rcases hx with rfl | rfl
  · simp [wrap64]; omega
  · simp [wrap64]; omega

set_option maxHeartbeats 1600000 in
theorem RefPrint_W (o : Out) (a : Option Addr) (n c : Nat) (w : World) (hR : ArgR w o a n c) (hg : Good o) (hk : o.kind = 2) (h1 : o.states = 2) (h2 : o.radius = 1) (h8 : n = 8) (hb : ∀ k, k < o.table.length → 0 ≤ o.table.getD k 0 ∧ o.table.getD k 0 < 2) :
    Calls Tryd.prog 23 #[.agg #[.int .i64 o.kind, .int .i64 o.born, .int .i64 o.stay, .int .i64 o.states, .int .i64 o.radius, .slice a n c, .string o.turns]] w fun e w' => e = .returned (.tuple #[.string (⟨#[87]⟩ ++ ⟨(Lib.decDigits (tabNum o.table 8)).toArray⟩), .int .i64 0]) ∧ Below w.heap.size w w' := by
  have k1 : (o.kind == 1) = false := by simp; omega
  have k3 : (o.kind == 3) = false := by simp; omega
  have k4 : decide (2 < o.radius) = false := by simp; omega
  have k5 : (o.states == 2) = true := by simp; omega
  have k6 : (o.radius == 1) = true := by simp; omega
  have H8 := hide' h8
  have HB := hide' hb
  have HL := hide' hR.len
  have n8 : n ≤ 8 := by omega
  clear hk h1 h2 h8 hb
  have HR := hide' hR
  have A0 := hide' (hR.alloc (.cells #[.int .i64 o.kind, .int .i64 o.born, .int .i64 o.stay, .int .i64 o.states, .int .i64 o.radius, .slice a n c, .string o.turns] 24))
  clear hR
  go_enter Tryd.func23, Tryd.ntmps23
  go_wp2_with fail
  refine (Fault_any o a n c _ A0.out).mono ?_
  rintro e w1 ⟨he, b1⟩
  have BW := hide' (((Below.refl _ _).alloc (Nat.le_refl _) (.cells #[.int .i64 o.kind, .int .i64 o.born, .int .i64 o.stay, .int .i64 o.states, .int .i64 o.radius, .slice a n c, .string o.turns] 24)).trans (b1.mono (by simp)) : Below w.heap.size w w1)
  have x0 := b1.cell (p := ⟨w.heap.size, 0, none⟩) (by simp)
  have x3 := b1.cell (p := ⟨w.heap.size, 3, none⟩) (by simp)
  have x4 := b1.cell (p := ⟨w.heap.size, 4, none⟩) (by simp)
  have x5 := b1.cell (p := ⟨w.heap.size, 5, none⟩) (by simp)
  have hsz := b1.size
  simp at x0 x3 x4 x5 hsz
  clear b1 A0
  rcases he with ⟨rfl, g⟩ | ⟨rfl, g⟩
  case inr => exact absurd hg g
  clear hg g
  go_wp2
  go_loop [7, 8, 9] (fun tv mv kv => ∃ k t m : Nat, kv = .int .i64 (k : Int) ∧ tv = .int .i64 (t : Int) ∧ mv = .int .i64 (m : Int) ∧ k ≤ 8 ∧ t ≤ 255 ∧ m ≤ 256 ∧ Hid (t = tabNum o.table k ∧ m = 2 ^ k)) (fun _ _ kv => 8 - (intOf kv).toNat)
  case atStart => exact ⟨0, 0, 1, rfl, rfl, rfl, by omega, by omega, by omega, hide' ⟨rfl, rfl⟩⟩
  case round =>
    obtain ⟨k, t, m, rfl, rfl, rfl, hk, ht, hm, HT⟩ := hrel
    by_cases d : (k : Int) < 8
    · have hkl : k < o.table.length := by have := HL.out; have := H8.out; omega
      obtain ⟨g, off, rfl, hg, hc⟩ := (HR.out.below BW.out).cells k hkl
      have hx := HB.out k hkl
      have hget : o.table.getD k 0 = o.table[k] := by simp [List.getD, hkl]
      rw [hget] at hx
      have hlt := tabNum_lt o.table HB.out (k + 1) (by omega)
      have hp8 : 2 ^ (k + 1) ≤ 2 ^ 8 := Nat.pow_le_pow_right (by omega) (by omega)
      have hp9 : 2 ^ (k + 1) = 2 ^ k * 2 := Nat.pow_succ 2 k
      have T2 := hide' (show tabNum o.table (k + 1) = t + (o.table[k]).toNat * m by unfold tabNum; rw [hget, ← HT.out.1, ← HT.out.2])
      have L2 := hide' (show tabNum o.table (k + 1) ≤ 255 by omega)
      have M2 := hide' (show m * 2 = 2 ^ (k + 1) ∧ m * 2 ≤ 256 by have := HT.out.2; omega)
      have hcase : o.table[k] = 0 ∨ o.table[k] = 1 := by omega
      clear hlt hp8 hp9 hget
      have hkn : (k : Int) < (n : Int) := by have := H8.out; omega
      go_wp2
      rw [wrapsum' t m o.table[k] ht hm hcase]
      exact ⟨⟨k + 1, _, m * 2, by go_num, rfl, by go_num, by omega, by have := L2.out; rw [T2.out] at this; exact this, M2.out.2, hide' ⟨T2.out.symm, M2.out.1⟩⟩, by simp [intOf]; omega⟩
    · have K := hide' (show t = tabNum o.table 8 by have := HT.out.1; rw [show k = 8 by omega] at this; exact this)
      have ll : (Lib.decDigits t).length ≤ 21 := by
        have := Lib.itoa_length_le (t : Int) (by omega) (by omega)
        rw [Lib.itoa_nonneg] at this
        simpa using this
      have m1 : ¬ (9223372036854775807 < 1 + (Lib.decDigits t).length) := by omega
      go_wp2_with fail
      refine (Digits_ref t _ (by omega)).mono ?_
      rintro e w2 ⟨rfl, b2⟩
      have B2 := hide' (BW.out.trans (b2.mono BW.out.size))
      clear b2
      go_wp2
      go_ret2
      rw [K.out]
      exact ⟨rfl, B2.out⟩

end Go.Proofs.YtljdidimoagnhaaDoor

