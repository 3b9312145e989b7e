/-
  edenref1.Print at the general line rule.
-/
import Derived.Test.YtpbcgojfpmpgpaaDoorPr11
namespace Go.Proofs.YtpbcgojfpmpgpaaDoor
open Go.RowKit
set_option linter.unusedVariables false

theorem stB_bval (o : Out) (k : Nat) (hk : k < o.table.length) (hx : 0 ≤ o.table[k] ∧ o.table[k] < 4) : bval (stB o.table k) = .int .u8 (48 + o.table[k]) := by
  have hget : o.table.getD k 0 = o.table[k] := by simp [List.getD, hk]
  unfold stB
  rw [hget, bval_dig _ (by omega)]
  congr 1
  omega
theorem stB_succ (xs : List Int) (k : Nat) : (List.range (k + 1)).map (stB xs) = (List.range k).map (stB xs) ++ [stB xs k] := by
  rw [List.range_succ, List.map_append]; rfl

set_option maxHeartbeats 1600000 in
theorem RefPrint_La (o : Out) (a : Option Addr) (n c : Nat) (w : World) (hR : ArgR w o a n c) (hg : Good o) (hk : o.kind = 2) (hs0 : 0 ≤ o.states) (hs1 : o.states < 100) (hr0 : 0 ≤ o.radius) (hr1 : o.radius ≤ 2) (k5 : (o.states == 2) = false) (hn4 : n ≤ 4096) (hb : ∀ k, k < o.table.length → 0 ≤ o.table.getD k 0 ∧ o.table.getD k 0 < 4) :
    Calls Tryd.prog 15 #[.agg #[.int .i64 o.kind, .int .i64 o.born, .int .i64 o.stay, .int .i64 o.states, .int .i64 o.radius, .slice a n c, .string o.turns]] w fun e w' => e = .returned (.tuple #[.string (((((⟨#[76, 32]⟩ ++ ⟨(Lib.decDigits o.states.toNat).toArray⟩) ++ ⟨#[32]⟩) ++ ⟨(Lib.decDigits o.radius.toNat).toArray⟩) ++ ⟨#[32]⟩) ++ ⟨((List.range n).map (stB o.table)).toArray⟩), .int .i64 0]) ∧ Below w.heap.size w w' := by
  have k1 : (o.kind == 1) = false := by simp; omega
  have k3 : (o.kind == 3) = false := by simp; omega
  have k4 : decide (2 < o.radius) = false := by simp; omega
  have HB := hide' hb
  have HL := hide' hR.len
  have l1 := decS_len o.states hs0 hs1
  have l2 := decS_len o.radius hr0 (by omega)
  have HS := hide' (Digits_int o.states hs0 (by omega))
  have HT := hide' (Digits_int o.radius hr0 (by omega))
  have m1 : ¬ (9223372036854775807 < 2 + (Lib.decDigits o.states.toNat).length) := by omega
  have m2 : ¬ (9223372036854775807 < 2 + (Lib.decDigits o.states.toNat).length + 1) := by omega
  have m3 : ¬ (9223372036854775807 < 2 + (Lib.decDigits o.states.toNat).length + 1 + (Lib.decDigits o.radius.toNat).length) := by omega
  have m4 : ¬ (9223372036854775807 < 2 + (Lib.decDigits o.states.toNat).length + 1 + (Lib.decDigits o.radius.toNat).length + 1) := by omega
  clear hk hb hs0 hs1 hr0 hr1
  obtain ⟨i0, hi, hz0, hz1, hz2⟩ := info_parts info_u8
  have HR := hide' hR
  have A0 := hide' (hR.alloc (.cells #[.int .i64 o.kind, .int .i64 o.born, .int .i64 o.stay, .int .i64 o.states, .int .i64 o.radius, .slice a n c, .string o.turns] 24))
  clear hR
  go_enter Tryd.func15, Tryd.ntmps15
  go_wp2_with fail
  refine (Fault_any o a n c _ A0.out).mono ?_
  rintro e w1 ⟨he, b1⟩
  have BW := hide' (((Below.refl _ _).alloc (Nat.le_refl _) (.cells #[.int .i64 o.kind, .int .i64 o.born, .int .i64 o.stay, .int .i64 o.states, .int .i64 o.radius, .slice a n c, .string o.turns] 24)).trans (b1.mono (by simp)) : Below w.heap.size w w1)
  have x0 := b1.cell (p := ⟨w.heap.size, 0, none⟩) (by simp)
  have x3 := b1.cell (p := ⟨w.heap.size, 3, none⟩) (by simp)
  have x4 := b1.cell (p := ⟨w.heap.size, 4, none⟩) (by simp)
  have x5 := b1.cell (p := ⟨w.heap.size, 5, none⟩) (by simp)
  have hsz := b1.size
  simp at x0 x3 x4 x5 hsz
  clear b1 A0
  rcases he with ⟨rfl, g⟩ | ⟨rfl, g⟩
  case inr => exact absurd hg g
  clear hg g
  go_wp2_with fail
  refine (HS.out _).mono ?_
  rintro e w2 ⟨rfl, b2⟩
  have y4 := (b2.cell (p := ⟨w.heap.size, 4, none⟩) (by simp; omega)).trans x4
  have y5 := (b2.cell (p := ⟨w.heap.size, 5, none⟩) (by simp; omega)).trans x5
  have B2 := hide' (BW.out.trans (b2.mono BW.out.size))
  have hs2 : w.heap.size + 1 ≤ w2.heap.size := Nat.le_trans hsz b2.size
  clear b2
  go_wp2_with fail
  refine (HT.out _).mono ?_
  rintro e w3 ⟨rfl, b3⟩
  have z5 := (b3.cell (p := ⟨w.heap.size, 5, none⟩) (by simp; omega)).trans y5
  have B3 := hide' (B2.out.trans (b3.mono B2.out.size))
  have hs3 : w.heap.size + 1 ≤ w3.heap.size := Nat.le_trans hs2 b3.size
  have Z5 := hide' z5
  clear b3 x0 x3 x4 x5 y4 y5 hs2 hsz
  have S := hide' (Row8.start w3)
  go_wp2
  go_loopw [13, 14] (fun ov kv wr => ∃ k : Nat, kv = .int .i64 (k : Int) ∧ k ≤ n ∧ Row8 w3 wr ov ((List.range k).map (stB o.table))) (fun _ kv _ => n - (intOf kv).toNat)
  case atStart => exact ⟨0, rfl, by omega, S.out⟩
  case round =>
    obtain ⟨k, rfl, hk, hR8⟩ := hrel
    have R8 := hide' hR8
    have ho := hR8.own
    have hz := hR8.below.size
    have v5 := (hR8.below.cell (p := ⟨w.heap.size, 5, none⟩) (by simp; omega)).trans Z5.out
    obtain ⟨sa, sn, sc, rfl⟩ := ownsRow_slice ho
    have HO := hide' ho
    have hcv := own_string ho
    clear hR8 ho S z5
    by_cases d : (k : Int) < (n : Int)
    · have hkl : k < o.table.length := by have := HL.out; omega
      obtain ⟨g, off, rfl, hg, hc⟩ := (HR.out.below (B3.out.trans (R8.out.below.mono B3.out.size))).cells k hkl
      have hx := HB.out k hkl
      have hget : o.table.getD k 0 = o.table[k] := by simp [List.getD, hkl]
      rw [hget] at hx
      have X := hide' (stB_bval o k hkl hx)
      have hll : ((List.range k).map (stB o.table)).length = k := by simp
      clear hget hcv
      go_wp2_with (at_builtin; refine wpList_append_own _ rfl _ _ 82 rfl w3.heap.size 5 i0 (.int .u8 0) 1 1 Tryd.underlying82 hi hz0 hz1 hz2 rfl (by decide) (.slice sa sn sc) _ _ rfl (HO.out.alloc _) ⟨wr.heap.size, 0, none⟩ 1 1 [.int .u8 (48 + o.table[k])] rfl rfl (cell_one_new _ _ _) (fun x hx => by simp at hx; subst hx; rfl) (by unfold maxLen; simp; omega) (by simp; omega) (by simp; omega) ?_; intro v' w4 hown' hgrow3 hnil3; have G3 := hide' hgrow3; have O3 := hide' hown'; clear hgrow3 hown' hnil3)
      refine ⟨⟨k + 1, by go_num, by omega, ?_⟩, by simp [intOf]; omega⟩
      rw [stB_succ]
      exact R8.out.push X.out G3.out O3.out
    · have m5 : ¬ (9223372036854775807 < 2 + (Lib.decDigits o.states.toNat).length + 1 + (Lib.decDigits o.radius.toNat).length + 1 + k) := by omega
      have K := hide' (show k = n by omega)
      go_wp2
      go_ret2
      have e := (B3.out.trans (R8.out.below.mono B3.out.size))
      rw [K.out]
      exact ⟨rfl, e⟩

set_option maxHeartbeats 1600000 in
theorem RefPrint_Lb (o : Out) (a : Option Addr) (n c : Nat) (w : World) (hR : ArgR w o a n c) (hg : Good o) (hk : o.kind = 2) (hs0 : 0 ≤ o.states) (hs1 : o.states < 100) (hr0 : 0 ≤ o.radius) (hr1 : o.radius ≤ 2) (k5 : (o.states == 2) = true) (k6 : (o.radius == 1) = false) (hn4 : n ≤ 4096) (hb : ∀ k, k < o.table.length → 0 ≤ o.table.getD k 0 ∧ o.table.getD k 0 < 4) :
    Calls Tryd.prog 15 #[.agg #[.int .i64 o.kind, .int .i64 o.born, .int .i64 o.stay, .int .i64 o.states, .int .i64 o.radius, .slice a n c, .string o.turns]] w fun e w' => e = .returned (.tuple #[.string (((((⟨#[76, 32]⟩ ++ ⟨(Lib.decDigits o.states.toNat).toArray⟩) ++ ⟨#[32]⟩) ++ ⟨(Lib.decDigits o.radius.toNat).toArray⟩) ++ ⟨#[32]⟩) ++ ⟨((List.range n).map (stB o.table)).toArray⟩), .int .i64 0]) ∧ Below w.heap.size w w' := by
  have k1 : (o.kind == 1) = false := by simp; omega
  have k3 : (o.kind == 3) = false := by simp; omega
  have k4 : decide (2 < o.radius) = false := by simp; omega
  have HB := hide' hb
  have HL := hide' hR.len
  have l1 := decS_len o.states hs0 hs1
  have l2 := decS_len o.radius hr0 (by omega)
  have HS := hide' (Digits_int o.states hs0 (by omega))
  have HT := hide' (Digits_int o.radius hr0 (by omega))
  have m1 : ¬ (9223372036854775807 < 2 + (Lib.decDigits o.states.toNat).length) := by omega
  have m2 : ¬ (9223372036854775807 < 2 + (Lib.decDigits o.states.toNat).length + 1) := by omega
  have m3 : ¬ (9223372036854775807 < 2 + (Lib.decDigits o.states.toNat).length + 1 + (Lib.decDigits o.radius.toNat).length) := by omega
  have m4 : ¬ (9223372036854775807 < 2 + (Lib.decDigits o.states.toNat).length + 1 + (Lib.decDigits o.radius.toNat).length + 1) := by omega
  clear hk hb hs0 hs1 hr0 hr1
  obtain ⟨i0, hi, hz0, hz1, hz2⟩ := info_parts info_u8
  have HR := hide' hR
  have A0 := hide' (hR.alloc (.cells #[.int .i64 o.kind, .int .i64 o.born, .int .i64 o.stay, .int .i64 o.states, .int .i64 o.radius, .slice a n c, .string o.turns] 24))
  clear hR
  go_enter Tryd.func15, Tryd.ntmps15
  go_wp2_with fail
  refine (Fault_any o a n c _ A0.out).mono ?_
  rintro e w1 ⟨he, b1⟩
  have BW := hide' (((Below.refl _ _).alloc (Nat.le_refl _) (.cells #[.int .i64 o.kind, .int .i64 o.born, .int .i64 o.stay, .int .i64 o.states, .int .i64 o.radius, .slice a n c, .string o.turns] 24)).trans (b1.mono (by simp)) : Below w.heap.size w w1)
  have x0 := b1.cell (p := ⟨w.heap.size, 0, none⟩) (by simp)
  have x3 := b1.cell (p := ⟨w.heap.size, 3, none⟩) (by simp)
  have x4 := b1.cell (p := ⟨w.heap.size, 4, none⟩) (by simp)
  have x5 := b1.cell (p := ⟨w.heap.size, 5, none⟩) (by simp)
  have hsz := b1.size
  simp at x0 x3 x4 x5 hsz
  clear b1 A0
  rcases he with ⟨rfl, g⟩ | ⟨rfl, g⟩
  case inr => exact absurd hg g
  clear hg g
  go_wp2_with fail
  refine (HS.out _).mono ?_
  rintro e w2 ⟨rfl, b2⟩
  have y4 := (b2.cell (p := ⟨w.heap.size, 4, none⟩) (by simp; omega)).trans x4
  have y5 := (b2.cell (p := ⟨w.heap.size, 5, none⟩) (by simp; omega)).trans x5
  have B2 := hide' (BW.out.trans (b2.mono BW.out.size))
  have hs2 : w.heap.size + 1 ≤ w2.heap.size := Nat.le_trans hsz b2.size
  clear b2
  go_wp2_with fail
  refine (HT.out _).mono ?_
  rintro e w3 ⟨rfl, b3⟩
  have z5 := (b3.cell (p := ⟨w.heap.size, 5, none⟩) (by simp; omega)).trans y5
  have B3 := hide' (B2.out.trans (b3.mono B2.out.size))
  have hs3 : w.heap.size + 1 ≤ w3.heap.size := Nat.le_trans hs2 b3.size
  have Z5 := hide' z5
  clear b3 x0 x3 x4 x5 y4 y5 hs2 hsz
  have S := hide' (Row8.start w3)
  go_wp2
  go_loopw [13, 14] (fun ov kv wr => ∃ k : Nat, kv = .int .i64 (k : Int) ∧ k ≤ n ∧ Row8 w3 wr ov ((List.range k).map (stB o.table))) (fun _ kv _ => n - (intOf kv).toNat)
  case atStart => exact ⟨0, rfl, by omega, S.out⟩
  case round =>
    obtain ⟨k, rfl, hk, hR8⟩ := hrel
    have R8 := hide' hR8
    have ho := hR8.own
    have hz := hR8.below.size
    have v5 := (hR8.below.cell (p := ⟨w.heap.size, 5, none⟩) (by simp; omega)).trans Z5.out
    obtain ⟨sa, sn, sc, rfl⟩ := ownsRow_slice ho
    have HO := hide' ho
    have hcv := own_string ho
    clear hR8 ho S z5
    by_cases d : (k : Int) < (n : Int)
    · have hkl : k < o.table.length := by have := HL.out; omega
      obtain ⟨g, off, rfl, hg, hc⟩ := (HR.out.below (B3.out.trans (R8.out.below.mono B3.out.size))).cells k hkl
      have hx := HB.out k hkl
      have hget : o.table.getD k 0 = o.table[k] := by simp [List.getD, hkl]
      rw [hget] at hx
      have X := hide' (stB_bval o k hkl hx)
      have hll : ((List.range k).map (stB o.table)).length = k := by simp
      clear hget hcv
      go_wp2_with (at_builtin; refine wpList_append_own _ rfl _ _ 82 rfl w3.heap.size 5 i0 (.int .u8 0) 1 1 Tryd.underlying82 hi hz0 hz1 hz2 rfl (by decide) (.slice sa sn sc) _ _ rfl (HO.out.alloc _) ⟨wr.heap.size, 0, none⟩ 1 1 [.int .u8 (48 + o.table[k])] rfl rfl (cell_one_new _ _ _) (fun x hx => by simp at hx; subst hx; rfl) (by unfold maxLen; simp; omega) (by simp; omega) (by simp; omega) ?_; intro v' w4 hown' hgrow3 hnil3; have G3 := hide' hgrow3; have O3 := hide' hown'; clear hgrow3 hown' hnil3)
      refine ⟨⟨k + 1, by go_num, by omega, ?_⟩, by simp [intOf]; omega⟩
      rw [stB_succ]
      exact R8.out.push X.out G3.out O3.out
    · have m5 : ¬ (9223372036854775807 < 2 + (Lib.decDigits o.states.toNat).length + 1 + (Lib.decDigits o.radius.toNat).length + 1 + k) := by omega
      have K := hide' (show k = n by omega)
      go_wp2
      go_ret2
      have e := (B3.out.trans (R8.out.below.mono B3.out.size))
      rw [K.out]
      exact ⟨rfl, e⟩

end Go.Proofs.YtpbcgojfpmpgpaaDoor
