/-
  The reader's bits and number.
-/
import Derived.Test.YtpbcgojfpmpgpaaDoorRd
import Derived.Laws.BitsAllLaws
namespace Go.Proofs.YtpbcgojfpmpgpaaDoor
open Go.RowKit

theorem i64_or_nat (a b : Nat) (ha : a < 4294967296) (hb : b < 4294967296) : bits .or .i64 (a : Int) (b : Int) = ((a ||| b : Nat) : Int) := by
  have hx : a ||| b < 2 ^ 32 := Nat.or_lt_two_pow (by omega) (by omega)
  show IntKind.i64.wrap ((BitVec.ofInt 64 (a : Int) ||| BitVec.ofInt 64 (b : Int)).toNat : Int) = _
  rw [BitVec.toNat_or, ofInt_u64 a (by omega), ofInt_u64 b (by omega)]
  simp [IntKind.wrap, IntKind.bits, IntKind.signed]
  omega
theorem or_pow (a k : Nat) (hk : k ≤ 8) (ha : a < 2 ^ k) : bits .or .i64 (a : Int) (wrap64 (2 ^ k)) = ((a + 2 ^ k : Nat) : Int) := by
  have hp : 2 ^ k ≤ 2 ^ 8 := Nat.pow_le_pow_right (by omega) hk
  have e : wrap64 (2 ^ k) = ((2 ^ k : Nat) : Int) := by
    rw [show ((2 : Int) ^ k) = ((2 ^ k : Nat) : Int) by simp]
    unfold wrap64; omega
  rw [e, i64_or_nat a (2 ^ k) (by omega) (by omega)]
  have h2 := Nat.two_pow_add_eq_or_of_lt ha 1
  simp only [Nat.mul_one] at h2
  rw [Nat.or_comm, ← h2, Nat.add_comm]

set_option maxHeartbeats 400000 in
theorem bits_any (b : Nat) (s : ByteArray) (i0 : Nat) (w : World) (h : At b s i0 w) (hs : s.size ≤ maxLen) (hi0 : i0 ≤ s.size) :
    Calls Tryd.prog 123 #[.pointer (some ⟨b, 0, none⟩)] w fun e w' => e = .returned (.int .i64 ((ris s i0).1 : Int)) ∧ At b s (ris s i0).2 w' ∧ Rd b w w' ∧ (ris s i0).2 ≤ s.size := by
  go_enter Tryd.func123, Tryd.ntmps123
  go_wp2
  go_loopw [3, 4] (fun bv lv wr => ∃ acc low i : Nat, bv = .int .i64 (acc : Int) ∧ lv = .int .u8 (low : Int) ∧ At b s i wr ∧ Rd b w wr ∧ i ≤ s.size ∧ 48 ≤ low ∧ low ≤ 57 ∧ acc < 2 ^ (low - 48) ∧ risF s (s.size - i) i low acc = ris s i0) (fun _ lv _ => (57 - intOf lv).toNat)
  case atStart => exact ⟨0, 48, i0, rfl, rfl, h, Rd.refl _ _, hi0, by omega, by omega, by decide, rfl⟩
  case round =>
    obtain ⟨acc, low, i, rfl, rfl, ha, hr, hi, hl1, hl2, hacc, hris⟩ := hrel
    have HR : Hid (risF s (s.size - i) i low acc = ris s i0) := hris
    have HA : Hid (At b s i wr) := ha
    clear hris h ha
    cases hin : inR s i low 56 with
    | false =>
      go_wp2_with fail
      refine (within_is b s i low 56 _ HA.out hi).mono ?_
      rw [hin]
      rintro e w' ⟨rfl, n, rfl⟩
      go_wp2
      go_ret
      have e1 := HR.out
      rw [risF_stop hin] at e1
      rw [← e1]
      exact ⟨rfl, HA.out.drewN n, hr.drewN n, hi⟩
    | true =>
      have hlt := (inR_true.1 hin).1
      have hb := (inR_true.1 hin).2
      rw [← bt_lt s i hlt] at hb
      go_wp2_with fail
      refine (within_is b s i low 56 _ HA.out hi).mono ?_
      rw [hin]
      rintro e w' ⟨rfl, n, rfl⟩
      go_wp2_with fail
      refine (take_yes b s i low 56 _ (HA.out.drewN _) hs hlt hin).mono ?_
      rintro e w' ⟨rfl, ha2, hr2⟩
      go_wp2
      have e1 := HR.out
      rw [risF_step hin] at e1
      have e2 := bt_lt s i hlt
      rw [e2] at hb ⊢
      refine ⟨⟨acc + 2 ^ (bt s i - 48), bt s i + 1, i + 1, by rw [or_pow _ _ (by omega) (Nat.lt_of_lt_of_le hacc (Nat.pow_le_pow_right (by omega) (by omega)))], rfl, ha2, (hr.drewN n).trans hr2, by omega, by omega, by omega, ?_, e1⟩, by simp [intOf]; omega⟩
      have hp : 2 ^ (low - 48) ≤ 2 ^ (bt s i - 48) := Nat.pow_le_pow_right (by omega) (by omega)
      rw [show bt s i + 1 - 48 = (bt s i - 48) + 1 by omega, Nat.pow_succ]
      omega
end Go.Proofs.YtpbcgojfpmpgpaaDoor
