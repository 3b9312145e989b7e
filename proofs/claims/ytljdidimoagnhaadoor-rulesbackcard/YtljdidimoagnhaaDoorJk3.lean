/-
  What the last text of this claim leans on, part 3: Rn, Ref1.
-/
import Derived.Test.YtljdidimoagnhaaDoorJk2
namespace Go.Proofs.YtljdidimoagnhaaDoor
open Go.RowKit

def posOf (b : Nat) (w : World) : Nat := match w.cell? ⟨b, 1, none⟩ with | some (.int _ q) => q.toNat | _ => 0
theorem At.posOf {b : Nat} {s : ByteArray} {i : Nat} {w : World} (h : At b s i w) : posOf b w = i := by
  unfold Go.Proofs.YtljdidimoagnhaaDoor.posOf; rw [h.pos]; simp

/-- The number as it is kept: right up to most, and above it whatever is above. -/
structure Cap (most v k : Nat) : Prop where
  eq : v ≤ most → k = v
  gt : most < v → most < k
  le : k ≤ 10 * most + 9

theorem Cap.below {most v k d : Nat} (h : Cap most v k) (hd : d ≤ 9) (hk : k ≤ most) : Cap most (v * 10 + d) (10 * k + d) := by
  have h1 := h.eq
  have h2 := h.gt
  refine ⟨?_, ?_, by omega⟩ <;> omega
theorem Cap.above {most v k d : Nat} (h : Cap most v k) (hk : most < k) : Cap most (v * 10 + d) k := by
  have h1 := h.eq
  have h2 := h.gt
  have h3 := h.le
  refine ⟨?_, ?_, by omega⟩ <;> omega

/-- How the number's reading ends, by the places and what was kept. -/
structure NumEnd (s : ByteArray) (b i0 most : Nat) (w wr : World) (k i : Nat) : Prop where
  hat : At b s i wr
  rd : Rd b w wr
  lo : i0 ≤ i
  hi : i ≤ s.size
  fin : (num s i0).2 = i
  cap : Cap most (num s i0).1 k

theorem ok_cases {s : ByteArray} {b i0 least most : Nat} {w wr : World} {k i : Nat} (h : NumEnd s b i0 most w wr k i) (hok : numOk s i0 least most = true) :
    ¬ i = i0 ∧ (¬ 1 < i - i0 ∨ ¬ bt s i0 = 48) ∧ least ≤ k ∧ k ≤ most ∧ k = (num s i0).1 := by
  have h1 := h.fin
  have h2 := h.cap.eq
  simp [numOk, h1] at hok
  obtain ⟨⟨⟨a, b'⟩, c⟩, d⟩ := hok
  have := h2 d
  exact ⟨a, by omega, by omega, by omega, this⟩
theorem no_cases {s : ByteArray} {b i0 least most : Nat} {w wr : World} {k i : Nat} (h : NumEnd s b i0 most w wr k i) (hok : numOk s i0 least most = false) :
    i = i0 ∨ (1 < i - i0 ∧ bt s i0 = 48) ∨ (¬ i = i0 ∧ (¬ 1 < i - i0 ∨ ¬ bt s i0 = 48) ∧ (k < least ∨ (least ≤ k ∧ most < k))) := by
  have h1 := h.fin
  have h2 := h.cap.eq
  have h3 := h.cap.gt
  by_cases c1 : i = i0
  · exact Or.inl c1
  by_cases c2 : 1 < i - i0 ∧ bt s i0 = 48
  · exact Or.inr (Or.inl c2)
  refine Or.inr (Or.inr ⟨c1, by omega, ?_⟩)
  have hn : (num s i0).1 < least ∨ most < (num s i0).1 := by
    rcases Nat.lt_or_ge (num s i0).1 least with q | q
    · exact Or.inl q
    rcases Nat.lt_or_ge most (num s i0).1 with p | p
    · exact Or.inr p
    simp [numOk, h1, c1] at hok
    omega
  rcases hn with q | q
  · by_cases hm : (num s i0).1 ≤ most
    · have := h2 hm; omega
    · have := h3 (by omega); omega
  · have := h3 q; omega

set_option maxHeartbeats 800000 in
theorem number_ok (b : Nat) (s : ByteArray) (i0 least most : Nat) (L M : Int) (w : World) (h : At b s i0 w) (hs : s.size ≤ maxLen) (hi0 : i0 ≤ s.size) (hL : L = least) (hM : M = most) (hm : most ≤ 255) (hok : numOk s i0 least most = true) :
    Calls Tryd.prog 209 #[.pointer (some ⟨b, 0, none⟩), .int .i64 L, .int .i64 M] w fun e w' => e = .returned (.int .i64 ((num s i0).1 : Int)) ∧ At b s (num s i0).2 w' ∧ Rd b w w' ∧ (num s i0).2 ≤ s.size := by
  subst hL hM
  have H0 : Hid (At b s i0 w) := h
  obtain ⟨p0, p1, q0, q1⟩ := h
  go_enter Tryd.func209, Tryd.ntmps209
  go_wp2
  go_loopw [8] (fun nv wr => ∃ k v i : Nat, nv = .int .i64 (k : Int) ∧ At b s i wr ∧ Rd b w wr ∧ i0 ≤ i ∧ i ≤ s.size ∧ Cap most v k ∧ numF s (s.size - i) i v = num s i0) (fun _ wr => s.size - posOf b wr)
  case atStart => exact ⟨0, 0, i0, rfl, H0.out, Rd.refl _ _, by omega, hi0, ⟨by omega, by omega, by omega⟩, rfl⟩
  case round =>
    obtain ⟨k, v, i, rfl, ha, hr, hlo, hi, hcap, hnum⟩ := hrel
    have HR : Hid (numF s (s.size - i) i v = num s i0) := hnum
    have HA : Hid (At b s i wr) := ha
    have hk := hcap.le
    have HC : Hid (Cap most v k) := hcap
    clear hnum ha hcap p0 p1 q0 q1
    cases hin : inR s i 48 57 with
    | false =>
      have hE : NumEnd s b i0 most w wr k i := by
        have e1 := HR.out
        rw [numF_stop hin] at e1
        exact ⟨HA.out, hr, hlo, hi, by rw [← e1], by rw [← e1]; exact HC.out⟩
      obtain ⟨a1, a2, a3, a4, a5⟩ := ok_cases hE hok
      have HE : Hid (NumEnd s b i0 most w wr k i) := hE
      have HK : Hid (k = (num s i0).1) := a5
      have hi0lt : i0 < s.size := by omega
      clear hE a5 hok
      obtain ⟨g0, g1, g2, g3⟩ := HA.out
      have hs' := hs
      unfold maxLen at hs'
      have n1 : ((i : Int) == (i0 : Int)) = false := by simp; omega
      go_wp2_with fail
      refine (within_is b s i 48 57 _ HA.out hi).mono ?_
      rw [hin]
      rintro e w' ⟨rfl, n, rfl⟩
      by_cases c : 1 < i - i0
      · have c' : 1 < (i : Int) - (i0 : Int) := by omega
        have d : ((s[i0].toNat : Int) == 48) = false := by
          have := bt_lt s i0 hi0lt
          simp; omega
        go_wp2
        go_ret
        rw [← HK.out, HE.out.fin]
        exact ⟨rfl, HA.out.drewN n, hr.drewN n, hi⟩
      · have c' : ¬ 1 < (i : Int) - (i0 : Int) := by omega
        go_wp2
        go_ret
        rw [← HK.out, HE.out.fin]
        exact ⟨rfl, HA.out.drewN n, hr.drewN n, hi⟩
    | true =>
      have hlt := (inR_true.1 hin).1
      have hb := (inR_true.1 hin).2
      rw [← bt_lt s i hlt] at hb
      go_wp2_with fail
      refine (within_is b s i 48 57 _ HA.out hi).mono ?_
      rw [hin]
      rintro e w' ⟨rfl, n, rfl⟩
      go_wp2_with fail
      refine (take_yes b s i 48 57 _ (HA.out.drewN _) hs hlt hin).mono ?_
      rintro e w' ⟨rfl, ha2, hr2⟩
      have HA2 : Hid (At b s (i + 1) w') := ha2
      clear ha2
      have e1 := HR.out
      rw [numF_step hin] at e1
      have e2 := bt_lt s i hlt
      have HE1 : Hid (numF s (s.size - (i + 1)) (i + 1) (v * 10 + (bt s i - 48)) = num s i0) := e1
      clear e1
      by_cases c : (k : Int) ≤ (most : Int)
      · go_wp2
        refine ⟨⟨10 * k + (bt s i - 48), _, i + 1, ?_, HA2.out, (hr.drewN n).trans hr2, by omega, by omega, HC.out.below (by omega) (by omega), HE1.out⟩, ?_⟩
        · rw [show (10 * (k : Int) + ((bt s i : Int) - 48)) = ((10 * k + (bt s i - 48) : Nat) : Int) by omega]
        · rw [HA.out.posOf, HA2.out.posOf]; omega
      · go_wp2
        refine ⟨⟨k, _, i + 1, rfl, HA2.out, (hr.drewN n).trans hr2, by omega, by omega, HC.out.above (by omega), HE1.out⟩, ?_⟩
        rw [HA.out.posOf, HA2.out.posOf]; omega

set_option maxHeartbeats 800000 in
theorem number_no (b : Nat) (s : ByteArray) (i0 least most : Nat) (L M : Int) (w : World) (h : At b s i0 w) (hs : s.size ≤ maxLen) (hi0 : i0 ≤ s.size) (hL : L = least) (hM : M = most) (hm : most ≤ 255) (hok : numOk s i0 least most = false) :
    Calls Tryd.prog 209 #[.pointer (some ⟨b, 0, none⟩), .int .i64 L, .int .i64 M] w fun e w' => e = .panicked oops ∧ At b s i0 w' ∧ Rd b w w' := by
  subst hL hM
  have H0 : Hid (At b s i0 w) := h
  obtain ⟨p0, p1, q0, q1⟩ := h
  go_enter Tryd.func209, Tryd.ntmps209
  go_wp2
  go_loopw [8] (fun nv wr => ∃ k v i : Nat, nv = .int .i64 (k : Int) ∧ At b s i wr ∧ Rd b w wr ∧ i0 ≤ i ∧ i ≤ s.size ∧ Cap most v k ∧ numF s (s.size - i) i v = num s i0) (fun _ wr => s.size - posOf b wr)
  case atStart => exact ⟨0, 0, i0, rfl, H0.out, Rd.refl _ _, by omega, hi0, ⟨by omega, by omega, by omega⟩, rfl⟩
  case round =>
    obtain ⟨k, v, i, rfl, ha, hr, hlo, hi, hcap, hnum⟩ := hrel
    have HR : Hid (numF s (s.size - i) i v = num s i0) := hnum
    have HA : Hid (At b s i wr) := ha
    have hk := hcap.le
    have HC : Hid (Cap most v k) := hcap
    clear hnum ha hcap p0 p1 q0 q1
    cases hin : inR s i 48 57 with
    | false =>
      have hE : NumEnd s b i0 most w wr k i := by
        have e1 := HR.out
        rw [numF_stop hin] at e1
        exact ⟨HA.out, hr, hlo, hi, by rw [← e1], by rw [← e1]; exact HC.out⟩
      have hc := no_cases hE hok
      clear hE hok
      obtain ⟨g0, g1, g2, g3⟩ := HA.out
      have hs' := hs
      unfold maxLen at hs'
      go_wp2_with fail
      refine (within_is b s i 48 57 _ HA.out hi).mono ?_
      rw [hin]
      rintro e w' ⟨rfl, n, rfl⟩
      rcases hc with c1 | ⟨c2, c3⟩ | ⟨c1, c2, c3⟩
      · have n1 : ((i : Int) == (i0 : Int)) = true := by simp; omega
        have c' : ¬ 1 < (i : Int) - (i0 : Int) := by omega
        have C1 : Hid (i = i0) := c1
        clear c1
        go_wp2_with fail
        refine (fail_any b s i i0 _ (HA.out.drewN n)).mono ?_
        rintro e w' ⟨rfl, ha2, hr2⟩
        go_wp2
        exact ⟨rfl, rfl, ha2, (hr.drewN n).trans hr2⟩
      · have n1 : ((i : Int) == (i0 : Int)) = false := by simp; omega
        have c' : 1 < (i : Int) - (i0 : Int) := by omega
        have hi0lt : i0 < s.size := by omega
        have d : ((s[i0].toNat : Int) == 48) = true := by
          have := bt_lt s i0 hi0lt
          simp; omega
        clear c3
        go_wp2_with fail
        refine (fail_any b s i i0 _ (HA.out.drewN n)).mono ?_
        rintro e w' ⟨rfl, ha2, hr2⟩
        go_wp2
        exact ⟨rfl, rfl, ha2, (hr.drewN n).trans hr2⟩
      · have n1 : ((i : Int) == (i0 : Int)) = false := by simp; omega
        have hi0lt : i0 < s.size := by omega
        clear c1
        by_cases c : 1 < i - i0
        · have c' : 1 < (i : Int) - (i0 : Int) := by omega
          have d : ((s[i0].toNat : Int) == 48) = false := by
            have := bt_lt s i0 hi0lt
            simp; omega
          clear c2
          rcases c3 with c4 | ⟨c4, c5⟩
          · have c6 : (k : Int) < (least : Int) := by omega
            go_wp2_with fail
            refine (fail_any b s i i0 _ (HA.out.drewN n)).mono ?_
            rintro e w' ⟨rfl, ha2, hr2⟩
            go_wp2
            exact ⟨rfl, rfl, ha2, (hr.drewN n).trans hr2⟩
          · have c6 : ¬ (k : Int) < (least : Int) := by omega
            have c7 : (most : Int) < (k : Int) := by omega
            go_wp2_with fail
            refine (fail_any b s i i0 _ (HA.out.drewN n)).mono ?_
            rintro e w' ⟨rfl, ha2, hr2⟩
            go_wp2
            exact ⟨rfl, rfl, ha2, (hr.drewN n).trans hr2⟩
        · have c' : ¬ 1 < (i : Int) - (i0 : Int) := by omega
          clear c2
          rcases c3 with c4 | ⟨c4, c5⟩
          · have c6 : (k : Int) < (least : Int) := by omega
            go_wp2_with fail
            refine (fail_any b s i i0 _ (HA.out.drewN n)).mono ?_
            rintro e w' ⟨rfl, ha2, hr2⟩
            go_wp2
            exact ⟨rfl, rfl, ha2, (hr.drewN n).trans hr2⟩
          · have c6 : ¬ (k : Int) < (least : Int) := by omega
            have c7 : (most : Int) < (k : Int) := by omega
            go_wp2_with fail
            refine (fail_any b s i i0 _ (HA.out.drewN n)).mono ?_
            rintro e w' ⟨rfl, ha2, hr2⟩
            go_wp2
            exact ⟨rfl, rfl, ha2, (hr.drewN n).trans hr2⟩
    | true =>
      have hlt := (inR_true.1 hin).1
      have hb := (inR_true.1 hin).2
      rw [← bt_lt s i hlt] at hb
      go_wp2_with fail
      refine (within_is b s i 48 57 _ HA.out hi).mono ?_
      rw [hin]
      rintro e w' ⟨rfl, n, rfl⟩
      go_wp2_with fail
      refine (take_yes b s i 48 57 _ (HA.out.drewN _) hs hlt hin).mono ?_
      rintro e w' ⟨rfl, ha2, hr2⟩
      have HA2 : Hid (At b s (i + 1) w') := ha2
      clear ha2
      have e1 := HR.out
      rw [numF_step hin] at e1
      have e2 := bt_lt s i hlt
      have HE1 : Hid (numF s (s.size - (i + 1)) (i + 1) (v * 10 + (bt s i - 48)) = num s i0) := e1
      clear e1
      by_cases c : (k : Int) ≤ (most : Int)
      · go_wp2
        refine ⟨⟨10 * k + (bt s i - 48), _, i + 1, ?_, HA2.out, (hr.drewN n).trans hr2, by omega, by omega, HC.out.below (by omega) (by omega), HE1.out⟩, ?_⟩
        · rw [show (10 * (k : Int) + ((bt s i : Int) - 48)) = ((10 * k + (bt s i - 48) : Nat) : Int) by omega]
        · rw [HA.out.posOf, HA2.out.posOf]; omega
      · go_wp2
        refine ⟨⟨k, _, i + 1, rfl, HA2.out, (hr.drewN n).trans hr2, by omega, by omega, HC.out.above (by omega), HE1.out⟩, ?_⟩
        rw [HA.out.posOf, HA2.out.posOf]; omega
end Go.Proofs.YtljdidimoagnhaaDoor

namespace Go.Proofs.YtljdidimoagnhaaDoor
open Go.RowKit
set_option linter.unusedVariables false

theorem hide' {p : Prop} (h : p) : Hid p := h

set_option maxHeartbeats 1600000 in
theorem rising_any (s : ByteArray) (i0 : Nat) (I : Int) (w : World) (hI : I = i0) (hs : s.size ≤ maxLen) (hi0 : i0 ≤ s.size) :
    Calls Tryd.prog 76 #[.string s, .int .i64 I] w fun e w' => e = .returned (.tuple #[.int .i64 ((ris s i0).1 : Int), .int .i64 ((ris s i0).2 : Int), .bool (inR s (ris s i0).2 48 56)]) ∧ w' = w := by
  subst hI
  unfold maxLen at hs
  go_enter Tryd.func76, Tryd.ntmps76
  go_wp2
  go_loop [1, 7, 8] (fun iv nv lv => ∃ acc low i : Nat, iv = .int .i64 (i : Int) ∧ nv = .int .i64 (acc : Int) ∧ lv = .int .i64 ((low : Int) - 49) ∧ i ≤ s.size ∧ 48 ≤ low ∧ low ≤ 57 ∧ acc < 2 ^ (low - 48) ∧ risF s (s.size - i) i low acc = ris s i0) (fun iv _ _ => s.size - (intOf iv).toNat)
  case atStart => exact ⟨0, 48, i0, rfl, rfl, rfl, hi0, by omega, by omega, by decide, rfl⟩
  case round =>
    obtain ⟨acc, low, i, rfl, rfl, rfl, hi, hl1, hl2, hacc, hris⟩ := hrel
    have HR := hide' hris
    have hp : 2 ^ (low - 48) ≤ 2 ^ 9 := Nat.pow_le_pow_right (by omega) (by omega)
    have hacc2 : acc < 512 := by omega
    have HC := hide' hacc
    clear hris hacc hp
    cases hin : inR s i 48 56 with
    | false =>
      have hin2 : inR s i low 56 = false := by
        rw [inR_false] at hin ⊢; omega
      have X := hide' (show ris s i0 = (acc, i) by rw [← HR.out, risF_stop hin2])
      have HI := hide' hin
      have hno := inR_false.1 hin
      clear hin2
      by_cases c1 : i < s.size
      · have e2 := bt_lt s i c1
        by_cases c2 : 48 ≤ bt s i
        · have k1 : (48 : Int) ≤ (s[i].toNat : Int) := by omega
          have k2 : ¬ (s[i].toNat : Int) ≤ 56 := by omega
          clear hno e2 hin
          go_wp2
          go_ret3
          rw [X.out, HI.out]
          exact ⟨rfl, rfl⟩
        · have k1 : ¬ (48 : Int) ≤ (s[i].toNat : Int) := by omega
          clear hno e2 hin
          go_wp2
          go_ret3
          rw [X.out, HI.out]
          exact ⟨rfl, rfl⟩
      · have k1 : ¬ (i : Int) < (s.size : Int) := by omega
        clear hno hin
        go_wp2
        go_ret3
        rw [X.out, HI.out]
        exact ⟨rfl, rfl⟩
    | true =>
      have c1 := (inR_true.1 hin).1
      have hb := (inR_true.1 hin).2
      have e2 := bt_lt s i c1
      have k1 : (48 : Int) ≤ (s[i].toNat : Int) := by omega
      have k2 : (s[i].toNat : Int) ≤ 56 := by omega
      have HI := hide' hin
      have E2 := hide' e2
      clear hin
      by_cases c2 : bt s i < low
      · have hin2 : inR s i low 56 = false := by rw [inR_false]; omega
        have X := hide' (show ris s i0 = (acc, i) by rw [← HR.out, risF_stop hin2])
        have k3 : (s[i].toNat : Int) - 48 ≤ (low : Int) - 49 := by omega
        clear hin2 hb e2
        go_wp2
        go_ret3
        rw [X.out, HI.out]
        exact ⟨rfl, rfl⟩
      · have hin2 : inR s i low 56 = true := by rw [inR_true]; omega
        have X := hide' (risF_step (acc := acc) hin2)
        have k3 : ¬ (s[i].toNat : Int) - 48 ≤ (low : Int) - 49 := by omega
        clear hin2 hb e2
        go_wp2
        go_loop [10, 11] (fun mv kv => ∃ k m : Nat, mv = .int .i64 (m : Int) ∧ kv = .int .i64 (k : Int) ∧ m = 2 ^ k ∧ (k : Int) ≤ (s[i].toNat : Int) - 48) (fun _ kv => 10 - (intOf kv).toNat)
        case atStart => exact ⟨0, 1, rfl, rfl, rfl, by omega⟩
        case round =>
          obtain ⟨k, m, rfl, rfl, hm, hk⟩ := hrel
          have hpk : 2 ^ k ≤ 2 ^ 8 := Nat.pow_le_pow_right (by omega) (by omega)
          have hm2 : m ≤ 256 := by omega
          have HM := hide' hm
          clear hm hpk
          by_cases c3 : (k : Int) < (s[i].toNat : Int) - 48
          · go_wp2
            refine ⟨⟨k + 1, m * 2, by go_num, by go_num, ?_, by omega⟩, ?_⟩
            · rw [HM.out, Nat.pow_succ]
            · simp [intOf]; omega
          · go_wp2
            have e2 := E2.out
            have hkk : k = bt s i - 48 := by omega
            have hmm := HM.out
            rw [hkk] at hmm
            have hc := HC.out
            have hpl : 2 ^ (low - 48) ≤ 2 ^ (bt s i - 48) := Nat.pow_le_pow_right (by omega) (by omega)
            refine ⟨⟨acc + m, bt s i + 1, i + 1, by go_num, by go_num, ?_, by omega, by omega, by omega, ?_, ?_⟩, by simp [intOf]; omega⟩
            · rw [show (s[i].toNat : Int) - 48 = ((bt s i + 1 : Nat) : Int) - 49 by omega]
            · rw [show bt s i + 1 - 48 = (bt s i - 48) + 1 by omega, Nat.pow_succ]; omega
            · rw [hmm]; exact X.out.symm.trans HR.out

/-- What Number makes of the digits. -/
structure NumRef (s : ByteArray) (i0 : Nat) (N : Int) : Prop where
  ok : ∀ least most : Nat, most < 1000000 → numOk s i0 least most = true → N = ((num s i0).1 : Int) ∧ (least : Int) ≤ N ∧ N ≤ (most : Int)
  no : ∀ least most : Nat, most < 1000000 → numOk s i0 least most = false → N < (least : Int) ∨ (most : Int) < N
  lo : -1 ≤ N
  hi : N ≤ 10000000
  bad : (num s i0).2 = i0 ∨ (1 < (num s i0).2 - i0 ∧ bt s i0 = 48) → N = -1
  good : ¬ ((num s i0).2 = i0 ∨ (1 < (num s i0).2 - i0 ∧ bt s i0 = 48)) → 0 ≤ N

theorem numRef_bad {s : ByteArray} {i0 i : Nat} (hf : (num s i0).2 = i) (hb : i = i0 ∨ (1 < i - i0 ∧ bt s i0 = 48)) : NumRef s i0 (-1) := by
  refine ⟨fun least most hm hok => ?_, fun least most hm hok => by omega, by omega, by omega, fun _ => rfl, fun h => absurd (by rw [hf]; exact hb) h⟩
  simp [numOk, hf] at hok
  omega
theorem numRef_good {s : ByteArray} {i0 i k : Nat} (hf : (num s i0).2 = i) (hb : ¬ (i = i0 ∨ (1 < i - i0 ∧ bt s i0 = 48))) (h1 : (num s i0).1 < 1000000 → k = (num s i0).1) (h2 : 1000000 ≤ (num s i0).1 → 1000000 ≤ k) (h3 : k ≤ 10000000) : NumRef s i0 (k : Int) := by
  refine ⟨fun least most hm hok => ?_, fun least most hm hok => ?_, by omega, by omega, fun h => absurd (by rw [hf] at h; exact h) hb, fun _ => by omega⟩
  · simp [numOk, hf] at hok
    have := h1 (by omega)
    omega
  · by_cases q : (num s i0).1 < 1000000
    · have := h1 q
      by_cases c : (num s i0).1 < least
      · omega
      by_cases d : most < (num s i0).1
      · omega
      simp [numOk, hf] at hok
      omega
    · have := h2 (by omega)
      omega

set_option maxHeartbeats 1600000 in
theorem Number_any (s : ByteArray) (i0 : Nat) (I : Int) (w : World) (hI : I = i0) (hs : s.size ≤ maxLen) (hi0 : i0 ≤ s.size) :
    Calls Tryd.prog 77 #[.string s, .int .i64 I] w fun e w' => ∃ N : Int, e = .returned (.tuple #[.int .i64 N, .int .i64 ((num s i0).2 : Int)]) ∧ NumRef s i0 N ∧ w' = w := by
  subst hI
  unfold maxLen at hs
  go_enter Tryd.func77, Tryd.ntmps77
  go_wp2
  go_loop [1, 7] (fun iv nv => ∃ k v i : Nat, iv = .int .i64 (i : Int) ∧ nv = .int .i64 (k : Int) ∧ i0 ≤ i ∧ i ≤ s.size ∧ (v < 1000000 → k = v) ∧ (1000000 ≤ v → 1000000 ≤ k) ∧ k ≤ 10000000 ∧ numF s (s.size - i) i v = num s i0) (fun iv _ => s.size - (intOf iv).toNat)
  case atStart => exact ⟨0, 0, i0, rfl, rfl, by omega, hi0, by omega, by omega, by omega, rfl⟩
  case round =>
    obtain ⟨k, v, i, rfl, rfl, hlo, hi, h1, h2, h3, hnum⟩ := hrel
    have HR := hide' hnum
    have H1 := hide' h1
    have H2 := hide' h2
    clear hnum h1 h2
    cases hin : inR s i 48 57 with
    | false =>
      have X := hide' (show num s i0 = (v, i) by rw [← HR.out, numF_stop hin])
      have hno := inR_false.1 hin
      have hfin : (num s i0).2 = i := by rw [X.out]
      have hval : (num s i0).1 = v := by rw [X.out]
      have HF := hide' hfin
      have G := hide' (fun hb => numRef_good (k := k) hfin hb (by rw [hval]; exact H1.out) (by rw [hval]; exact H2.out) h3)
      have B := hide' (fun hb => numRef_bad hfin hb)
      clear hfin hval
      -- how the loop is left, and what stands at the beginning
      have hw : (i < s.size ∧ 48 ≤ bt s i ∧ ¬ bt s i ≤ 57) ∨ (i < s.size ∧ ¬ 48 ≤ bt s i) ∨ ¬ i < s.size := by omega
      clear hno hin
      rcases hw with ⟨c1, c2, c3⟩ | ⟨c1, c2⟩ | c1
      · have e2 := bt_lt s i c1
        have k1 : (48 : Int) ≤ (s[i].toNat : Int) := by omega
        have k2 : ¬ (s[i].toNat : Int) ≤ 57 := by omega
        clear e2 c2 c3
        by_cases d1 : i = i0
        · have n1 : ((i : Int) == (i0 : Int)) = true := by simp; omega
          have D := hide' d1
          clear d1
          go_wp2
          go_ret2
          rw [HF.out]
          exact ⟨_, rfl, B.out (Or.inl D.out), rfl⟩
        · have n1 : ((i : Int) == (i0 : Int)) = false := by simp; omega
          have hlt0 : i0 < s.size := by omega
          have e0 := bt_lt s i0 hlt0
          by_cases d2 : bt s i0 = 48
          · have n2 : ((s[i0].toNat : Int) == 48) = true := by simp; omega
            have D2 := hide' d2
            clear e0 d2
            by_cases d3 : i0 + 1 < i
            · have n3 : (i0 : Int) + 1 < (i : Int) := by omega
              go_wp2
              go_ret2
              rw [HF.out]
              exact ⟨_, rfl, B.out (Or.inr ⟨by omega, D2.out⟩), rfl⟩
            · have n3 : ¬ (i0 : Int) + 1 < (i : Int) := by omega
              go_wp2
              go_ret2
              rw [HF.out]
              exact ⟨_, rfl, G.out (by omega), rfl⟩
          · have n2 : ((s[i0].toNat : Int) == 48) = false := by simp; omega
            have D2 := hide' d2
            clear e0 d2
            go_wp2
            go_ret2
            rw [HF.out]
            have := D2.out
            exact ⟨_, rfl, G.out (by omega), rfl⟩
      · have e2 := bt_lt s i c1
        have k1 : ¬ (48 : Int) ≤ (s[i].toNat : Int) := by omega
        clear e2 c2
        by_cases d1 : i = i0
        · have n1 : ((i : Int) == (i0 : Int)) = true := by simp; omega
          have D := hide' d1
          clear d1
          go_wp2
          go_ret2
          rw [HF.out]
          exact ⟨_, rfl, B.out (Or.inl D.out), rfl⟩
        · have n1 : ((i : Int) == (i0 : Int)) = false := by simp; omega
          have hlt0 : i0 < s.size := by omega
          have e0 := bt_lt s i0 hlt0
          by_cases d2 : bt s i0 = 48
          · have n2 : ((s[i0].toNat : Int) == 48) = true := by simp; omega
            have D2 := hide' d2
            clear e0 d2
            by_cases d3 : i0 + 1 < i
            · have n3 : (i0 : Int) + 1 < (i : Int) := by omega
              go_wp2
              go_ret2
              rw [HF.out]
              exact ⟨_, rfl, B.out (Or.inr ⟨by omega, D2.out⟩), rfl⟩
            · have n3 : ¬ (i0 : Int) + 1 < (i : Int) := by omega
              go_wp2
              go_ret2
              rw [HF.out]
              exact ⟨_, rfl, G.out (by omega), rfl⟩
          · have n2 : ((s[i0].toNat : Int) == 48) = false := by simp; omega
            have D2 := hide' d2
            clear e0 d2
            go_wp2
            go_ret2
            rw [HF.out]
            have := D2.out
            exact ⟨_, rfl, G.out (by omega), rfl⟩
      · have k1 : ¬ (i : Int) < (s.size : Int) := by omega
        by_cases d1 : i = i0
        · have n1 : ((i : Int) == (i0 : Int)) = true := by simp; omega
          have D := hide' d1
          clear d1
          go_wp2
          go_ret2
          rw [HF.out]
          exact ⟨_, rfl, B.out (Or.inl D.out), rfl⟩
        · have n1 : ((i : Int) == (i0 : Int)) = false := by simp; omega
          have hlt0 : i0 < s.size := by omega
          have e0 := bt_lt s i0 hlt0
          by_cases d2 : bt s i0 = 48
          · have n2 : ((s[i0].toNat : Int) == 48) = true := by simp; omega
            have D2 := hide' d2
            clear e0 d2
            by_cases d3 : i0 + 1 < i
            · have n3 : (i0 : Int) + 1 < (i : Int) := by omega
              go_wp2
              go_ret2
              rw [HF.out]
              exact ⟨_, rfl, B.out (Or.inr ⟨by omega, D2.out⟩), rfl⟩
            · have n3 : ¬ (i0 : Int) + 1 < (i : Int) := by omega
              go_wp2
              go_ret2
              rw [HF.out]
              exact ⟨_, rfl, G.out (by omega), rfl⟩
          · have n2 : ((s[i0].toNat : Int) == 48) = false := by simp; omega
            have D2 := hide' d2
            clear e0 d2
            go_wp2
            go_ret2
            rw [HF.out]
            have := D2.out
            exact ⟨_, rfl, G.out (by omega), rfl⟩
    | true =>
      have c1 := (inR_true.1 hin).1
      have hb := (inR_true.1 hin).2
      have e2 := bt_lt s i c1
      have k1 : (48 : Int) ≤ (s[i].toNat : Int) := by omega
      have k2 : (s[i].toNat : Int) ≤ 57 := by omega
      have X := hide' (numF_step (v := v) hin)
      have E2 := hide' e2
      clear hin hb e2
      by_cases c2 : (k : Int) < 1000000
      · go_wp2
        have h1 := H1.out
        have h2 := H2.out
        have e2 := E2.out
        refine ⟨⟨k * 10 + (bt s i - 48), v * 10 + (bt s i - 48), i + 1, by go_num, ?_, by omega, by omega, by omega, by omega, by omega, X.out.symm.trans HR.out⟩, by simp [intOf]; omega⟩
        rw [show (k : Int) * 10 + (s[i].toNat : Int) - 48 = ((k * 10 + (bt s i - 48) : Nat) : Int) by omega]
      · go_wp2
        have h1 := H1.out
        have h2 := H2.out
        exact ⟨⟨k, v * 10 + (bt s i - 48), i + 1, by go_num, rfl, by omega, by omega, by omega, by omega, h3, X.out.symm.trans HR.out⟩, by simp [intOf]; omega⟩
end Go.Proofs.YtljdidimoagnhaaDoor

