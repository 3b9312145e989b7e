/-
  What the last text of this claim leans on, part 26: Pr12, Pr13, Pr14.
-/
import Derived.Test.YtljdidimoagnhaaDoorJu25
namespace Go.Proofs.YtljdidimoagnhaaDoor
open Go.RowKit
set_option linter.unusedVariables false

theorem stB_bval (o : Out) (k : Nat) (hk : k < o.table.length) (hx : 0 ≤ o.table[k] ∧ o.table[k] < 4) : bval (stB o.table k) = .int .u8 (48 + o.table[k]) := by
  have hget : o.table.getD k 0 = o.table[k] := by simp [List.getD, hk]
  unfold stB
  rw [hget, bval_dig _ (by omega)]
  congr 1
  omega
theorem stB_succ (xs : List Int) (k : Nat) : (List.range (k + 1)).map (stB xs) = (List.range k).map (stB xs) ++ [stB xs k] := by
  rw [List.range_succ, List.map_append]; rfl

set_option maxHeartbeats 1600000 in
theorem RefPrint_La (o : Out) (a : Option Addr) (n c : Nat) (w : World) (hR : ArgR w o a n c) (hg : Good o) (hk : o.kind = 2) (hs0 : 0 ≤ o.states) (hs1 : o.states < 100) (hr0 : 0 ≤ o.radius) (hr1 : o.radius ≤ 2) (k5 : (o.states == 2) = false) (hn4 : n ≤ 4096) (hb : ∀ k, k < o.table.length → 0 ≤ o.table.getD k 0 ∧ o.table.getD k 0 < 4) :
    Calls Tryd.prog 23 #[.agg #[.int .i64 o.kind, .int .i64 o.born, .int .i64 o.stay, .int .i64 o.states, .int .i64 o.radius, .slice a n c, .string o.turns]] w fun e w' => e = .returned (.tuple #[.string (((((⟨#[76, 32]⟩ ++ ⟨(Lib.decDigits o.states.toNat).toArray⟩) ++ ⟨#[32]⟩) ++ ⟨(Lib.decDigits o.radius.toNat).toArray⟩) ++ ⟨#[32]⟩) ++ ⟨((List.range n).map (stB o.table)).toArray⟩), .int .i64 0]) ∧ Below w.heap.size w w' := by
  have k1 : (o.kind == 1) = false := by simp; omega
  have k3 : (o.kind == 3) = false := by simp; omega
  have k4 : decide (2 < o.radius) = false := by simp; omega
  have HB := hide' hb
  have HL := hide' hR.len
  have l1 := decS_len o.states hs0 hs1
  have l2 := decS_len o.radius hr0 (by omega)
  have HS := hide' (Digits_int o.states hs0 (by omega))
  have HT := hide' (Digits_int o.radius hr0 (by omega))
  have m1 : ¬ (9223372036854775807 < 2 + (Lib.decDigits o.states.toNat).length) := by omega
  have m2 : ¬ (9223372036854775807 < 2 + (Lib.decDigits o.states.toNat).length + 1) := by omega
  have m3 : ¬ (9223372036854775807 < 2 + (Lib.decDigits o.states.toNat).length + 1 + (Lib.decDigits o.radius.toNat).length) := by omega
  have m4 : ¬ (9223372036854775807 < 2 + (Lib.decDigits o.states.toNat).length + 1 + (Lib.decDigits o.radius.toNat).length + 1) := by omega
  clear hk hb hs0 hs1 hr0 hr1
  obtain ⟨i0, hi, hz0, hz1, hz2⟩ := info_parts info_u8
  have HR := hide' hR
  have A0 := hide' (hR.alloc (.cells #[.int .i64 o.kind, .int .i64 o.born, .int .i64 o.stay, .int .i64 o.states, .int .i64 o.radius, .slice a n c, .string o.turns] 24))
  clear hR
  go_enter Tryd.func23, Tryd.ntmps23
  go_wp2_with fail
  refine (Fault_any o a n c _ A0.out).mono ?_
  rintro e w1 ⟨he, b1⟩
  have BW := hide' (((Below.refl _ _).alloc (Nat.le_refl _) (.cells #[.int .i64 o.kind, .int .i64 o.born, .int .i64 o.stay, .int .i64 o.states, .int .i64 o.radius, .slice a n c, .string o.turns] 24)).trans (b1.mono (by simp)) : Below w.heap.size w w1)
  have x0 := b1.cell (p := ⟨w.heap.size, 0, none⟩) (by simp)
  have x3 := b1.cell (p := ⟨w.heap.size, 3, none⟩) (by simp)
  have x4 := b1.cell (p := ⟨w.heap.size, 4, none⟩) (by simp)
  have x5 := b1.cell (p := ⟨w.heap.size, 5, none⟩) (by simp)
  have hsz := b1.size
  simp at x0 x3 x4 x5 hsz
  clear b1 A0
  rcases he with ⟨rfl, g⟩ | ⟨rfl, g⟩
  case inr => exact absurd hg g
  clear hg g
  go_wp2_with fail
  refine (HS.out _).mono ?_
  rintro e w2 ⟨rfl, b2⟩
  have y4 := (b2.cell (p := ⟨w.heap.size, 4, none⟩) (by simp; omega)).trans x4
  have y5 := (b2.cell (p := ⟨w.heap.size, 5, none⟩) (by simp; omega)).trans x5
  have B2 := hide' (BW.out.trans (b2.mono BW.out.size))
  have hs2 : w.heap.size + 1 ≤ w2.heap.size := Nat.le_trans hsz b2.size
  clear b2
  go_wp2_with fail
  refine (HT.out _).mono ?_
  rintro e w3 ⟨rfl, b3⟩
  have z5 := (b3.cell (p := ⟨w.heap.size, 5, none⟩) (by simp; omega)).trans y5
  have B3 := hide' (B2.out.trans (b3.mono B2.out.size))
  have hs3 : w.heap.size + 1 ≤ w3.heap.size := Nat.le_trans hs2 b3.size
  have Z5 := hide' z5
  clear b3 x0 x3 x4 x5 y4 y5 hs2 hsz
  have S := hide' (Row8.start w3)
  go_wp2
  go_loopw [13, 14] (fun ov kv wr => ∃ k : Nat, kv = .int .i64 (k : Int) ∧ k ≤ n ∧ Row8 w3 wr ov ((List.range k).map (stB o.table))) (fun _ kv _ => n - (intOf kv).toNat)
  case atStart => exact ⟨0, rfl, by omega, S.out⟩
  case round =>
    obtain ⟨k, rfl, hk, hR8⟩ := hrel
    have R8 := hide' hR8
    have ho := hR8.own
    have hz := hR8.below.size
    have v5 := (hR8.below.cell (p := ⟨w.heap.size, 5, none⟩) (by simp; omega)).trans Z5.out
    obtain ⟨sa, sn, sc, rfl⟩ := ownsRow_slice ho
    have HO := hide' ho
    have hcv := own_string ho
    clear hR8 ho S z5
    by_cases d : (k : Int) < (n : Int)
    · have hkl : k < o.table.length := by have := HL.out; omega
      obtain ⟨g, off, rfl, hg, hc⟩ := (HR.out.below (B3.out.trans (R8.out.below.mono B3.out.size))).cells k hkl
      have hx := HB.out k hkl
      have hget : o.table.getD k 0 = o.table[k] := by simp [List.getD, hkl]
      rw [hget] at hx
      have X := hide' (stB_bval o k hkl hx)
      have hll : ((List.range k).map (stB o.table)).length = k := by simp
      clear hget hcv
      go_wp2_with (at_builtin; refine wpList_append_own _ rfl _ _ 105 rfl w3.heap.size 5 i0 (.int .u8 0) 1 1 Tryd.underlying105 hi hz0 hz1 hz2 rfl (by decide) (.slice sa sn sc) _ _ rfl (HO.out.alloc _) ⟨wr.heap.size, 0, none⟩ 1 1 [.int .u8 (48 + o.table[k])] rfl rfl (cell_one_new _ _ _) (fun x hx => by simp at hx; subst hx; rfl) (by unfold maxLen; simp; omega) (by simp; omega) (by simp; omega) ?_; intro v' w4 hown' hgrow3 hnil3; have G3 := hide' hgrow3; have O3 := hide' hown'; clear hgrow3 hown' hnil3)
      refine ⟨⟨k + 1, by go_num, by omega, ?_⟩, by simp [intOf]; omega⟩
      rw [stB_succ]
      exact R8.out.push X.out G3.out O3.out
    · have m5 : ¬ (9223372036854775807 < 2 + (Lib.decDigits o.states.toNat).length + 1 + (Lib.decDigits o.radius.toNat).length + 1 + k) := by omega
      have K := hide' (show k = n by omega)
      go_wp2
      go_ret2
      have e := (B3.out.trans (R8.out.below.mono B3.out.size))
      rw [K.out]
      exact ⟨rfl, e⟩

set_option maxHeartbeats 1600000 in
theorem RefPrint_Lb (o : Out) (a : Option Addr) (n c : Nat) (w : World) (hR : ArgR w o a n c) (hg : Good o) (hk : o.kind = 2) (hs0 : 0 ≤ o.states) (hs1 : o.states < 100) (hr0 : 0 ≤ o.radius) (hr1 : o.radius ≤ 2) (k5 : (o.states == 2) = true) (k6 : (o.radius == 1) = false) (hn4 : n ≤ 4096) (hb : ∀ k, k < o.table.length → 0 ≤ o.table.getD k 0 ∧ o.table.getD k 0 < 4) :
    Calls Tryd.prog 23 #[.agg #[.int .i64 o.kind, .int .i64 o.born, .int .i64 o.stay, .int .i64 o.states, .int .i64 o.radius, .slice a n c, .string o.turns]] w fun e w' => e = .returned (.tuple #[.string (((((⟨#[76, 32]⟩ ++ ⟨(Lib.decDigits o.states.toNat).toArray⟩) ++ ⟨#[32]⟩) ++ ⟨(Lib.decDigits o.radius.toNat).toArray⟩) ++ ⟨#[32]⟩) ++ ⟨((List.range n).map (stB o.table)).toArray⟩), .int .i64 0]) ∧ Below w.heap.size w w' := by
  have k1 : (o.kind == 1) = false := by simp; omega
  have k3 : (o.kind == 3) = false := by simp; omega
  have k4 : decide (2 < o.radius) = false := by simp; omega
  have HB := hide' hb
  have HL := hide' hR.len
  have l1 := decS_len o.states hs0 hs1
  have l2 := decS_len o.radius hr0 (by omega)
  have HS := hide' (Digits_int o.states hs0 (by omega))
  have HT := hide' (Digits_int o.radius hr0 (by omega))
  have m1 : ¬ (9223372036854775807 < 2 + (Lib.decDigits o.states.toNat).length) := by omega
  have m2 : ¬ (9223372036854775807 < 2 + (Lib.decDigits o.states.toNat).length + 1) := by omega
  have m3 : ¬ (9223372036854775807 < 2 + (Lib.decDigits o.states.toNat).length + 1 + (Lib.decDigits o.radius.toNat).length) := by omega
  have m4 : ¬ (9223372036854775807 < 2 + (Lib.decDigits o.states.toNat).length + 1 + (Lib.decDigits o.radius.toNat).length + 1) := by omega
  clear hk hb hs0 hs1 hr0 hr1
  obtain ⟨i0, hi, hz0, hz1, hz2⟩ := info_parts info_u8
  have HR := hide' hR
  have A0 := hide' (hR.alloc (.cells #[.int .i64 o.kind, .int .i64 o.born, .int .i64 o.stay, .int .i64 o.states, .int .i64 o.radius, .slice a n c, .string o.turns] 24))
  clear hR
  go_enter Tryd.func23, Tryd.ntmps23
  go_wp2_with fail
  refine (Fault_any o a n c _ A0.out).mono ?_
  rintro e w1 ⟨he, b1⟩
  have BW := hide' (((Below.refl _ _).alloc (Nat.le_refl _) (.cells #[.int .i64 o.kind, .int .i64 o.born, .int .i64 o.stay, .int .i64 o.states, .int .i64 o.radius, .slice a n c, .string o.turns] 24)).trans (b1.mono (by simp)) : Below w.heap.size w w1)
  have x0 := b1.cell (p := ⟨w.heap.size, 0, none⟩) (by simp)
  have x3 := b1.cell (p := ⟨w.heap.size, 3, none⟩) (by simp)
  have x4 := b1.cell (p := ⟨w.heap.size, 4, none⟩) (by simp)
  have x5 := b1.cell (p := ⟨w.heap.size, 5, none⟩) (by simp)
  have hsz := b1.size
  simp at x0 x3 x4 x5 hsz
  clear b1 A0
  rcases he with ⟨rfl, g⟩ | ⟨rfl, g⟩
  case inr => exact absurd hg g
  clear hg g
  go_wp2_with fail
  refine (HS.out _).mono ?_
  rintro e w2 ⟨rfl, b2⟩
  have y4 := (b2.cell (p := ⟨w.heap.size, 4, none⟩) (by simp; omega)).trans x4
  have y5 := (b2.cell (p := ⟨w.heap.size, 5, none⟩) (by simp; omega)).trans x5
  have B2 := hide' (BW.out.trans (b2.mono BW.out.size))
  have hs2 : w.heap.size + 1 ≤ w2.heap.size := Nat.le_trans hsz b2.size
  clear b2
  go_wp2_with fail
  refine (HT.out _).mono ?_
  rintro e w3 ⟨rfl, b3⟩
  have z5 := (b3.cell (p := ⟨w.heap.size, 5, none⟩) (by simp; omega)).trans y5
  have B3 := hide' (B2.out.trans (b3.mono B2.out.size))
  have hs3 : w.heap.size + 1 ≤ w3.heap.size := Nat.le_trans hs2 b3.size
  have Z5 := hide' z5
  clear b3 x0 x3 x4 x5 y4 y5 hs2 hsz
  have S := hide' (Row8.start w3)
  go_wp2
  go_loopw [13, 14] (fun ov kv wr => ∃ k : Nat, kv = .int .i64 (k : Int) ∧ k ≤ n ∧ Row8 w3 wr ov ((List.range k).map (stB o.table))) (fun _ kv _ => n - (intOf kv).toNat)
  case atStart => exact ⟨0, rfl, by omega, S.out⟩
  case round =>
    obtain ⟨k, rfl, hk, hR8⟩ := hrel
    have R8 := hide' hR8
    have ho := hR8.own
    have hz := hR8.below.size
    have v5 := (hR8.below.cell (p := ⟨w.heap.size, 5, none⟩) (by simp; omega)).trans Z5.out
    obtain ⟨sa, sn, sc, rfl⟩ := ownsRow_slice ho
    have HO := hide' ho
    have hcv := own_string ho
    clear hR8 ho S z5
    by_cases d : (k : Int) < (n : Int)
    · have hkl : k < o.table.length := by have := HL.out; omega
      obtain ⟨g, off, rfl, hg, hc⟩ := (HR.out.below (B3.out.trans (R8.out.below.mono B3.out.size))).cells k hkl
      have hx := HB.out k hkl
      have hget : o.table.getD k 0 = o.table[k] := by simp [List.getD, hkl]
      rw [hget] at hx
      have X := hide' (stB_bval o k hkl hx)
      have hll : ((List.range k).map (stB o.table)).length = k := by simp
      clear hget hcv
      go_wp2_with (at_builtin; refine wpList_append_own _ rfl _ _ 105 rfl w3.heap.size 5 i0 (.int .u8 0) 1 1 Tryd.underlying105 hi hz0 hz1 hz2 rfl (by decide) (.slice sa sn sc) _ _ rfl (HO.out.alloc _) ⟨wr.heap.size, 0, none⟩ 1 1 [.int .u8 (48 + o.table[k])] rfl rfl (cell_one_new _ _ _) (fun x hx => by simp at hx; subst hx; rfl) (by unfold maxLen; simp; omega) (by simp; omega) (by simp; omega) ?_; intro v' w4 hown' hgrow3 hnil3; have G3 := hide' hgrow3; have O3 := hide' hown'; clear hgrow3 hown' hnil3)
      refine ⟨⟨k + 1, by go_num, by omega, ?_⟩, by simp [intOf]; omega⟩
      rw [stB_succ]
      exact R8.out.push X.out G3.out O3.out
    · have m5 : ¬ (9223372036854775807 < 2 + (Lib.decDigits o.states.toNat).length + 1 + (Lib.decDigits o.radius.toNat).length + 1 + k) := by omega
      have K := hide' (show k = n by omega)
      go_wp2
      go_ret2
      have e := (B3.out.trans (R8.out.below.mono B3.out.size))
      rw [K.out]
      exact ⟨rfl, e⟩

end Go.Proofs.YtljdidimoagnhaaDoor

namespace Go.Proofs.YtljdidimoagnhaaDoor
open Go.RowKit
set_option linter.unusedVariables false

/-- The last c digits of n to the base s, behind acc, the lowest first. -/
def rv (s : Nat) : Nat → Nat → Nat → Nat
  | 0, acc, _ => acc
  | c + 1, acc, n => rv s c (acc * s + n % s) (n / s)
theorem rv_acc (s : Nat) : ∀ c acc n, rv s c acc n = acc * s ^ c + rv s c 0 n
  | 0, acc, n => by simp [rv]
  | c + 1, acc, n => by
    show rv s c (acc * s + n % s) (n / s) = _ + rv s c (0 * s + n % s) (n / s)
    rw [rv_acc s c (acc * s + n % s), rv_acc s c (0 * s + n % s), Nat.pow_succ, Nat.add_mul, Nat.add_mul, Nat.zero_mul, Nat.zero_mul, Nat.zero_add, Nat.mul_assoc, Nat.mul_comm s (s ^ c), Nat.add_assoc]
theorem rv_low (s c n : Nat) : rv s (c + 1) 0 n = n % s * s ^ c + rv s c 0 (n / s) := by
  show rv s c (0 * s + n % s) (n / s) = _
  rw [rv_acc s c (0 * s + n % s), Nat.zero_mul, Nat.zero_add]
theorem rv_lt (s : Nat) (hs : 0 < s) : ∀ c n, rv s c 0 n < s ^ c
  | 0, n => by simp [rv]
  | c + 1, n => by
    rw [rv_low, Nat.pow_succ]
    have h1 := rv_lt s hs c (n / s)
    have h2 : n % s < s := Nat.mod_lt _ hs
    calc n % s * s ^ c + rv s c 0 (n / s) < n % s * s ^ c + s ^ c := by omega
      _ = (n % s + 1) * s ^ c := by rw [Nat.add_mul, Nat.one_mul]
      _ ≤ s * s ^ c := Nat.mul_le_mul_right _ h2
      _ = s ^ c * s := Nat.mul_comm _ _
theorem rv_top (s : Nat) (hs : 0 < s) : ∀ c a b, a < s → b < s ^ c → rv s (c + 1) 0 (a * s ^ c + b) = rv s c 0 b * s + a
  | 0, a, b, ha, hb => by
    have : b = 0 := by simpa using hb
    subst this
    simp [rv, Nat.mod_eq_of_lt ha]
  | c + 1, a, b, ha, hb => by
    have e : a * s ^ (c + 1) + b = b + s * (a * s ^ c) := by rw [Nat.pow_succ, Nat.mul_comm s, Nat.mul_assoc, Nat.add_comm]
    have h1 : (a * s ^ (c + 1) + b) % s = b % s := by rw [e, Nat.add_mul_mod_self_left]
    have h2 : (a * s ^ (c + 1) + b) / s = a * s ^ c + b / s := by rw [e, Nat.add_mul_div_left _ _ hs, Nat.add_comm]
    have h3 : b / s < s ^ c := by rw [Nat.div_lt_iff_lt_mul hs]; rw [Nat.pow_succ] at hb; exact hb
    rw [rv_low, h1, h2, rv_top s hs c a (b / s) ha h3, rv_low s c b, Nat.add_mul, Nat.pow_succ, Nat.mul_assoc, Nat.add_assoc]
theorem rv_rv (s : Nat) (hs : 0 < s) : ∀ c n, n < s ^ c → rv s c 0 (rv s c 0 n) = n
  | 0, n, h => by simp [rv]; simp at h; exact h.symm
  | c + 1, n, h => by
    have h3 : n / s < s ^ c := by rw [Nat.div_lt_iff_lt_mul hs]; rw [Nat.pow_succ] at h; exact h
    rw [rv_low s c n, rv_top s hs c _ _ (Nat.mod_lt _ hs) (rv_lt s hs c _), rv_rv s hs c _ h3]
    exact Nat.div_add_mod' n s
end Go.Proofs.YtljdidimoagnhaaDoor

namespace Go.Proofs.YtljdidimoagnhaaDoor
open Go.RowKit
set_option linter.unusedVariables false

theorem wrapmul (p q : Nat) (hp : p ≤ 100000) (hq : q ≤ 100000) : wrap64 (wrap64 (p : Int) + (q : Int)) = ((p + q : Nat) : Int) := by
  simp [wrap64]; omega
theorem wrapq (p : Nat) (hp : p ≤ 100000) : wrap64 (p : Int) = (p : Int) := by
  simp [wrap64]; omega

set_option maxHeartbeats 1600000 in
theorem mirrorWindow_any (m s c : Nat) (w : World) (hs2 : 2 ≤ s) (hs4 : s ≤ 4) (hc : c ≤ 4096) (hp : s ^ c ≤ 4096) (hm : m < s ^ c) :
    Calls Tryd.prog 147 #[.int .i64 (m : Int), .int .i64 (s : Int), .int .i64 (c : Int)] w fun e w' => e = .returned (.int .i64 (rv s c 0 m : Int)) ∧ w' = w := by
  have hs0 : ((s : Int) == 0) = false := by simp; omega
  have hs1 : (s : Int) ≠ 0 := by omega
  have hs2' : (2 : Int) ≤ (s : Int) := by omega
  have hs4' : (s : Int) ≤ 4 := by omega
  have HP := hide' hp
  have m4 : m ≤ 4096 := by omega
  have HM := hide' hm
  clear hp hm
  go_enter Tryd.func147, Tryd.ntmps147
  go_wp2
  go_loop [0, 7, 8] (fun xv tv kv => ∃ k t x : Nat, kv = .int .i64 (k : Int) ∧ tv = .int .i64 (t : Int) ∧ xv = .int .i64 (x : Int) ∧ k ≤ c ∧ t ≤ 4096 ∧ x ≤ 4096 ∧ Hid (rv s (c - k) t x = rv s c 0 m ∧ t < s ^ k)) (fun _ _ kv => c - (intOf kv).toNat)
  case atStart => exact ⟨0, 0, m, rfl, rfl, rfl, by omega, by omega, m4, hide' ⟨rfl, by simp⟩⟩
  case round =>
    obtain ⟨k, t, x, rfl, rfl, rfl, hk, ht, hx, HT⟩ := hrel
    by_cases d : (k : Int) < (c : Int)
    · have q1 : x % s < s := Nat.mod_lt _ (by omega)
      have q2 : x / s ≤ x := Nat.div_le_self _ _
      have q3 : (t + 1) * s ≤ s ^ (k + 1) := by rw [Nat.pow_succ]; exact Nat.mul_le_mul_right _ HT.out.2
      have q4 : s ^ (k + 1) ≤ s ^ c := Nat.pow_le_pow_right (by omega) (by omega)
      have q5 : t * s + x % s < s ^ (k + 1) := by rw [Nat.add_mul, Nat.one_mul] at q3; omega
      have Q5 := hide' q5
      have Q6 := hide' (show t * s + x % s ≤ 4096 by have := HP.out; omega)
      have Q2 := hide' q2
      have Q1 := hide' q1
      clear q1 q2 q3 q4 q5
      go_wp2
      rw [show ((t : Int) * (s : Int)) = ((t * s : Nat) : Int) by simp, show ((x : Int) % (s : Int)) = ((x % s : Nat) : Int) by simp, wrapmul _ _ (by have := Q6.out; omega) (by have := Q1.out; omega), show ((x : Int) / (s : Int)) = ((x / s : Nat) : Int) by simp, wrapq _ (by have := Q2.out; omega)]
      refine ⟨⟨k + 1, t * s + x % s, x / s, by go_num, rfl, rfl, by omega, Q6.out, by have := Q2.out; omega, hide' ⟨?_, Q5.out⟩⟩, by simp [intOf]; omega⟩
      rw [← HT.out.1, show c - k = (c - (k + 1)) + 1 by omega]
      rfl
    · go_wp2
      go_ret
      have h := HT.out.1
      rw [show c - k = 0 by omega] at h
      rw [← h]
      exact ⟨rfl, rfl⟩

theorem ent_small : ∀ n, n < 5 → ∀ m, m < 11 → entOf n m ≤ 4096 → 2 ≤ n → entOf n m = n ^ (2 * m + 1) := by decide +kernel
theorem ent_is (n m : Nat) (hn : 2 ≤ n) (hn' : n ≤ 4) (h : entOf n m ≤ 4096) : entOf n m = n ^ (2 * m + 1) ∧ m ≤ 10 := by
  by_cases hm : m ≤ 10
  · exact ⟨ent_small n (by omega) m (by omega) h hn, hm⟩
  · have := ent_far n m hn hn' (by omega)
    omega
end Go.Proofs.YtljdidimoagnhaaDoor

