/-
  The document's answer on texts of rules: rising, Number, power, by the plain functions.
-/
import Derived.Test.YtpbcgojfpmpgpaaDoorRn
namespace Go.Proofs.YtpbcgojfpmpgpaaDoor
open Go.RowKit
set_option linter.unusedVariables false

theorem hide' {p : Prop} (h : p) : Hid p := h

set_option maxHeartbeats 1600000 in
theorem rising_any (s : ByteArray) (i0 : Nat) (I : Int) (w : World) (hI : I = i0) (hs : s.size ≤ maxLen) (hi0 : i0 ≤ s.size) :
    Calls Tryd.prog 41 #[.string s, .int .i64 I] w fun e w' => e = .returned (.tuple #[.int .i64 ((ris s i0).1 : Int), .int .i64 ((ris s i0).2 : Int), .bool (inR s (ris s i0).2 48 56)]) ∧ w' = w := by
  subst hI
  unfold maxLen at hs
  go_enter Tryd.func41, Tryd.ntmps41
  go_wp2
  go_loop [1, 7, 8] (fun iv nv lv => ∃ acc low i : Nat, iv = .int .i64 (i : Int) ∧ nv = .int .i64 (acc : Int) ∧ lv = .int .i64 ((low : Int) - 49) ∧ i ≤ s.size ∧ 48 ≤ low ∧ low ≤ 57 ∧ acc < 2 ^ (low - 48) ∧ risF s (s.size - i) i low acc = ris s i0) (fun iv _ _ => s.size - (intOf iv).toNat)
  case atStart => exact ⟨0, 48, i0, rfl, rfl, rfl, hi0, by omega, by omega, by decide, rfl⟩
  case round =>
    obtain ⟨acc, low, i, rfl, rfl, rfl, hi, hl1, hl2, hacc, hris⟩ := hrel
    have HR := hide' hris
    have hp : 2 ^ (low - 48) ≤ 2 ^ 9 := Nat.pow_le_pow_right (by omega) (by omega)
    have hacc2 : acc < 512 := by omega
    have HC := hide' hacc
    clear hris hacc hp
    cases hin : inR s i 48 56 with
    | false =>
      have hin2 : inR s i low 56 = false := by
        rw [inR_false] at hin ⊢; omega
      have X := hide' (show ris s i0 = (acc, i) by rw [← HR.out, risF_stop hin2])
      have HI := hide' hin
      have hno := inR_false.1 hin
      clear hin2
      by_cases c1 : i < s.size
      · have e2 := bt_lt s i c1
        by_cases c2 : 48 ≤ bt s i
        · have k1 : (48 : Int) ≤ (s[i].toNat : Int) := by omega
          have k2 : ¬ (s[i].toNat : Int) ≤ 56 := by omega
          clear hno e2 hin
          go_wp2
          go_ret3
          rw [X.out, HI.out]
          exact ⟨rfl, rfl⟩
        · have k1 : ¬ (48 : Int) ≤ (s[i].toNat : Int) := by omega
          clear hno e2 hin
          go_wp2
          go_ret3
          rw [X.out, HI.out]
          exact ⟨rfl, rfl⟩
      · have k1 : ¬ (i : Int) < (s.size : Int) := by omega
        clear hno hin
        go_wp2
        go_ret3
        rw [X.out, HI.out]
        exact ⟨rfl, rfl⟩
    | true =>
      have c1 := (inR_true.1 hin).1
      have hb := (inR_true.1 hin).2
      have e2 := bt_lt s i c1
      have k1 : (48 : Int) ≤ (s[i].toNat : Int) := by omega
      have k2 : (s[i].toNat : Int) ≤ 56 := by omega
      have HI := hide' hin
      have E2 := hide' e2
      clear hin
      by_cases c2 : bt s i < low
      · have hin2 : inR s i low 56 = false := by rw [inR_false]; omega
        have X := hide' (show ris s i0 = (acc, i) by rw [← HR.out, risF_stop hin2])
        have k3 : (s[i].toNat : Int) - 48 ≤ (low : Int) - 49 := by omega
        clear hin2 hb e2
        go_wp2
        go_ret3
        rw [X.out, HI.out]
        exact ⟨rfl, rfl⟩
      · have hin2 : inR s i low 56 = true := by rw [inR_true]; omega
        have X := hide' (risF_step (acc := acc) hin2)
        have k3 : ¬ (s[i].toNat : Int) - 48 ≤ (low : Int) - 49 := by omega
        clear hin2 hb e2
        go_wp2
        go_loop [10, 11] (fun mv kv => ∃ k m : Nat, mv = .int .i64 (m : Int) ∧ kv = .int .i64 (k : Int) ∧ m = 2 ^ k ∧ (k : Int) ≤ (s[i].toNat : Int) - 48) (fun _ kv => 10 - (intOf kv).toNat)
        case atStart => exact ⟨0, 1, rfl, rfl, rfl, by omega⟩
        case round =>
          obtain ⟨k, m, rfl, rfl, hm, hk⟩ := hrel
          have hpk : 2 ^ k ≤ 2 ^ 8 := Nat.pow_le_pow_right (by omega) (by omega)
          have hm2 : m ≤ 256 := by omega
          have HM := hide' hm
          clear hm hpk
          by_cases c3 : (k : Int) < (s[i].toNat : Int) - 48
          · go_wp2
            refine ⟨⟨k + 1, m * 2, by go_num, by go_num, ?_, by omega⟩, ?_⟩
            · rw [HM.out, Nat.pow_succ]
            · simp [intOf]; omega
          · go_wp2
            have e2 := E2.out
            have hkk : k = bt s i - 48 := by omega
            have hmm := HM.out
            rw [hkk] at hmm
            have hc := HC.out
            have hpl : 2 ^ (low - 48) ≤ 2 ^ (bt s i - 48) := Nat.pow_le_pow_right (by omega) (by omega)
            refine ⟨⟨acc + m, bt s i + 1, i + 1, by go_num, by go_num, ?_, by omega, by omega, by omega, ?_, ?_⟩, by simp [intOf]; omega⟩
            · rw [show (s[i].toNat : Int) - 48 = ((bt s i + 1 : Nat) : Int) - 49 by omega]
            · rw [show bt s i + 1 - 48 = (bt s i - 48) + 1 by omega, Nat.pow_succ]; omega
            · rw [hmm]; exact X.out.symm.trans HR.out

/-- What Number makes of the digits. -/
structure NumRef (s : ByteArray) (i0 : Nat) (N : Int) : Prop where
  ok : ∀ least most : Nat, most < 1000000 → numOk s i0 least most = true → N = ((num s i0).1 : Int) ∧ (least : Int) ≤ N ∧ N ≤ (most : Int)
  no : ∀ least most : Nat, most < 1000000 → numOk s i0 least most = false → N < (least : Int) ∨ (most : Int) < N
  lo : -1 ≤ N
  hi : N ≤ 10000000
  bad : (num s i0).2 = i0 ∨ (1 < (num s i0).2 - i0 ∧ bt s i0 = 48) → N = -1
  good : ¬ ((num s i0).2 = i0 ∨ (1 < (num s i0).2 - i0 ∧ bt s i0 = 48)) → 0 ≤ N

theorem numRef_bad {s : ByteArray} {i0 i : Nat} (hf : (num s i0).2 = i) (hb : i = i0 ∨ (1 < i - i0 ∧ bt s i0 = 48)) : NumRef s i0 (-1) := by
  refine ⟨fun least most hm hok => ?_, fun least most hm hok => by omega, by omega, by omega, fun _ => rfl, fun h => absurd (by rw [hf]; exact hb) h⟩
  simp [numOk, hf] at hok
  omega
theorem numRef_good {s : ByteArray} {i0 i k : Nat} (hf : (num s i0).2 = i) (hb : ¬ (i = i0 ∨ (1 < i - i0 ∧ bt s i0 = 48))) (h1 : (num s i0).1 < 1000000 → k = (num s i0).1) (h2 : 1000000 ≤ (num s i0).1 → 1000000 ≤ k) (h3 : k ≤ 10000000) : NumRef s i0 (k : Int) := by
  refine ⟨fun least most hm hok => ?_, fun least most hm hok => ?_, by omega, by omega, fun h => absurd (by rw [hf] at h; exact h) hb, fun _ => by omega⟩
  · simp [numOk, hf] at hok
    have := h1 (by omega)
    omega
  · by_cases q : (num s i0).1 < 1000000
    · have := h1 q
      by_cases c : (num s i0).1 < least
      · omega
      by_cases d : most < (num s i0).1
      · omega
      simp [numOk, hf] at hok
      omega
    · have := h2 (by omega)
      omega

set_option maxHeartbeats 1600000 in
theorem Number_any (s : ByteArray) (i0 : Nat) (I : Int) (w : World) (hI : I = i0) (hs : s.size ≤ maxLen) (hi0 : i0 ≤ s.size) :
    Calls Tryd.prog 42 #[.string s, .int .i64 I] w fun e w' => ∃ N : Int, e = .returned (.tuple #[.int .i64 N, .int .i64 ((num s i0).2 : Int)]) ∧ NumRef s i0 N ∧ w' = w := by
  subst hI
  unfold maxLen at hs
  go_enter Tryd.func42, Tryd.ntmps42
  go_wp2
  go_loop [1, 7] (fun iv nv => ∃ k v i : Nat, iv = .int .i64 (i : Int) ∧ nv = .int .i64 (k : Int) ∧ i0 ≤ i ∧ i ≤ s.size ∧ (v < 1000000 → k = v) ∧ (1000000 ≤ v → 1000000 ≤ k) ∧ k ≤ 10000000 ∧ numF s (s.size - i) i v = num s i0) (fun iv _ => s.size - (intOf iv).toNat)
  case atStart => exact ⟨0, 0, i0, rfl, rfl, by omega, hi0, by omega, by omega, by omega, rfl⟩
  case round =>
    obtain ⟨k, v, i, rfl, rfl, hlo, hi, h1, h2, h3, hnum⟩ := hrel
    have HR := hide' hnum
    have H1 := hide' h1
    have H2 := hide' h2
    clear hnum h1 h2
    cases hin : inR s i 48 57 with
    | false =>
      have X := hide' (show num s i0 = (v, i) by rw [← HR.out, numF_stop hin])
      have hno := inR_false.1 hin
      have hfin : (num s i0).2 = i := by rw [X.out]
      have hval : (num s i0).1 = v := by rw [X.out]
      have HF := hide' hfin
      have G := hide' (fun hb => numRef_good (k := k) hfin hb (by rw [hval]; exact H1.out) (by rw [hval]; exact H2.out) h3)
      have B := hide' (fun hb => numRef_bad hfin hb)
      clear hfin hval
      -- how the loop is left, and what stands at the beginning
      have hw : (i < s.size ∧ 48 ≤ bt s i ∧ ¬ bt s i ≤ 57) ∨ (i < s.size ∧ ¬ 48 ≤ bt s i) ∨ ¬ i < s.size := by omega
      clear hno hin
      rcases hw with ⟨c1, c2, c3⟩ | ⟨c1, c2⟩ | c1
      · have e2 := bt_lt s i c1
        have k1 : (48 : Int) ≤ (s[i].toNat : Int) := by omega
        have k2 : ¬ (s[i].toNat : Int) ≤ 57 := by omega
        clear e2 c2 c3
        by_cases d1 : i = i0
        · have n1 : ((i : Int) == (i0 : Int)) = true := by simp; omega
          have D := hide' d1
          clear d1
          go_wp2
          go_ret2
          rw [HF.out]
          exact ⟨_, rfl, B.out (Or.inl D.out), rfl⟩
        · have n1 : ((i : Int) == (i0 : Int)) = false := by simp; omega
          have hlt0 : i0 < s.size := by omega
          have e0 := bt_lt s i0 hlt0
          by_cases d2 : bt s i0 = 48
          · have n2 : ((s[i0].toNat : Int) == 48) = true := by simp; omega
            have D2 := hide' d2
            clear e0 d2
            by_cases d3 : i0 + 1 < i
            · have n3 : (i0 : Int) + 1 < (i : Int) := by omega
              go_wp2
              go_ret2
              rw [HF.out]
              exact ⟨_, rfl, B.out (Or.inr ⟨by omega, D2.out⟩), rfl⟩
            · have n3 : ¬ (i0 : Int) + 1 < (i : Int) := by omega
              go_wp2
              go_ret2
              rw [HF.out]
              exact ⟨_, rfl, G.out (by omega), rfl⟩
          · have n2 : ((s[i0].toNat : Int) == 48) = false := by simp; omega
            have D2 := hide' d2
            clear e0 d2
            go_wp2
            go_ret2
            rw [HF.out]
            have := D2.out
            exact ⟨_, rfl, G.out (by omega), rfl⟩
      · have e2 := bt_lt s i c1
        have k1 : ¬ (48 : Int) ≤ (s[i].toNat : Int) := by omega
        clear e2 c2
        by_cases d1 : i = i0
        · have n1 : ((i : Int) == (i0 : Int)) = true := by simp; omega
          have D := hide' d1
          clear d1
          go_wp2
          go_ret2
          rw [HF.out]
          exact ⟨_, rfl, B.out (Or.inl D.out), rfl⟩
        · have n1 : ((i : Int) == (i0 : Int)) = false := by simp; omega
          have hlt0 : i0 < s.size := by omega
          have e0 := bt_lt s i0 hlt0
          by_cases d2 : bt s i0 = 48
          · have n2 : ((s[i0].toNat : Int) == 48) = true := by simp; omega
            have D2 := hide' d2
            clear e0 d2
            by_cases d3 : i0 + 1 < i
            · have n3 : (i0 : Int) + 1 < (i : Int) := by omega
              go_wp2
              go_ret2
              rw [HF.out]
              exact ⟨_, rfl, B.out (Or.inr ⟨by omega, D2.out⟩), rfl⟩
            · have n3 : ¬ (i0 : Int) + 1 < (i : Int) := by omega
              go_wp2
              go_ret2
              rw [HF.out]
              exact ⟨_, rfl, G.out (by omega), rfl⟩
          · have n2 : ((s[i0].toNat : Int) == 48) = false := by simp; omega
            have D2 := hide' d2
            clear e0 d2
            go_wp2
            go_ret2
            rw [HF.out]
            have := D2.out
            exact ⟨_, rfl, G.out (by omega), rfl⟩
      · have k1 : ¬ (i : Int) < (s.size : Int) := by omega
        by_cases d1 : i = i0
        · have n1 : ((i : Int) == (i0 : Int)) = true := by simp; omega
          have D := hide' d1
          clear d1
          go_wp2
          go_ret2
          rw [HF.out]
          exact ⟨_, rfl, B.out (Or.inl D.out), rfl⟩
        · have n1 : ((i : Int) == (i0 : Int)) = false := by simp; omega
          have hlt0 : i0 < s.size := by omega
          have e0 := bt_lt s i0 hlt0
          by_cases d2 : bt s i0 = 48
          · have n2 : ((s[i0].toNat : Int) == 48) = true := by simp; omega
            have D2 := hide' d2
            clear e0 d2
            by_cases d3 : i0 + 1 < i
            · have n3 : (i0 : Int) + 1 < (i : Int) := by omega
              go_wp2
              go_ret2
              rw [HF.out]
              exact ⟨_, rfl, B.out (Or.inr ⟨by omega, D2.out⟩), rfl⟩
            · have n3 : ¬ (i0 : Int) + 1 < (i : Int) := by omega
              go_wp2
              go_ret2
              rw [HF.out]
              exact ⟨_, rfl, G.out (by omega), rfl⟩
          · have n2 : ((s[i0].toNat : Int) == 48) = false := by simp; omega
            have D2 := hide' d2
            clear e0 d2
            go_wp2
            go_ret2
            rw [HF.out]
            have := D2.out
            exact ⟨_, rfl, G.out (by omega), rfl⟩
    | true =>
      have c1 := (inR_true.1 hin).1
      have hb := (inR_true.1 hin).2
      have e2 := bt_lt s i c1
      have k1 : (48 : Int) ≤ (s[i].toNat : Int) := by omega
      have k2 : (s[i].toNat : Int) ≤ 57 := by omega
      have X := hide' (numF_step (v := v) hin)
      have E2 := hide' e2
      clear hin hb e2
      by_cases c2 : (k : Int) < 1000000
      · go_wp2
        have h1 := H1.out
        have h2 := H2.out
        have e2 := E2.out
        refine ⟨⟨k * 10 + (bt s i - 48), v * 10 + (bt s i - 48), i + 1, by go_num, ?_, by omega, by omega, by omega, by omega, by omega, X.out.symm.trans HR.out⟩, by simp [intOf]; omega⟩
        rw [show (k : Int) * 10 + (s[i].toNat : Int) - 48 = ((k * 10 + (bt s i - 48) : Nat) : Int) by omega]
      · go_wp2
        have h1 := H1.out
        have h2 := H2.out
        exact ⟨⟨k, v * 10 + (bt s i - 48), i + 1, by go_num, rfl, by omega, by omega, by omega, by omega, h3, X.out.symm.trans HR.out⟩, by simp [intOf]; omega⟩
end Go.Proofs.YtpbcgojfpmpgpaaDoor
