/-
  What the last text of this claim leans on, part 3: Rn.
-/
import Derived.Test.YtljdidimoagnhaaDoorJu2
namespace Go.Proofs.YtljdidimoagnhaaDoor
open Go.RowKit

def posOf (b : Nat) (w : World) : Nat := match w.cell? ⟨b, 1, none⟩ with | some (.int _ q) => q.toNat | _ => 0
theorem At.posOf {b : Nat} {s : ByteArray} {i : Nat} {w : World} (h : At b s i w) : posOf b w = i := by
  unfold Go.Proofs.YtljdidimoagnhaaDoor.posOf; rw [h.pos]; simp

/-- The number as it is kept: right up to most, and above it whatever is above. -/
structure Cap (most v k : Nat) : Prop where
  eq : v ≤ most → k = v
  gt : most < v → most < k
  le : k ≤ 10 * most + 9

theorem Cap.below {most v k d : Nat} (h : Cap most v k) (hd : d ≤ 9) (hk : k ≤ most) : Cap most (v * 10 + d) (10 * k + d) := by
  have h1 := h.eq
  have h2 := h.gt
  refine ⟨?_, ?_, by omega⟩ <;> omega
theorem Cap.above {most v k d : Nat} (h : Cap most v k) (hk : most < k) : Cap most (v * 10 + d) k := by
  have h1 := h.eq
  have h2 := h.gt
  have h3 := h.le
  refine ⟨?_, ?_, by omega⟩ <;> omega

/-- How the number's reading ends, by the places and what was kept. -/
structure NumEnd (s : ByteArray) (b i0 most : Nat) (w wr : World) (k i : Nat) : Prop where
  hat : At b s i wr
  rd : Rd b w wr
  lo : i0 ≤ i
  hi : i ≤ s.size
  fin : (num s i0).2 = i
  cap : Cap most (num s i0).1 k

theorem ok_cases {s : ByteArray} {b i0 least most : Nat} {w wr : World} {k i : Nat} (h : NumEnd s b i0 most w wr k i) (hok : numOk s i0 least most = true) :
    ¬ i = i0 ∧ (¬ 1 < i - i0 ∨ ¬ bt s i0 = 48) ∧ least ≤ k ∧ k ≤ most ∧ k = (num s i0).1 := by
  have h1 := h.fin
  have h2 := h.cap.eq
  simp [numOk, h1] at hok
  obtain ⟨⟨⟨a, b'⟩, c⟩, d⟩ := hok
  have := h2 d
  exact ⟨a, by omega, by omega, by omega, this⟩
theorem no_cases {s : ByteArray} {b i0 least most : Nat} {w wr : World} {k i : Nat} (h : NumEnd s b i0 most w wr k i) (hok : numOk s i0 least most = false) :
    i = i0 ∨ (1 < i - i0 ∧ bt s i0 = 48) ∨ (¬ i = i0 ∧ (¬ 1 < i - i0 ∨ ¬ bt s i0 = 48) ∧ (k < least ∨ (least ≤ k ∧ most < k))) := by
  have h1 := h.fin
  have h2 := h.cap.eq
  have h3 := h.cap.gt
  by_cases c1 : i = i0
  · exact Or.inl c1
  by_cases c2 : 1 < i - i0 ∧ bt s i0 = 48
  · exact Or.inr (Or.inl c2)
  refine Or.inr (Or.inr ⟨c1, by omega, ?_⟩)
  have hn : (num s i0).1 < least ∨ most < (num s i0).1 := by
    rcases Nat.lt_or_ge (num s i0).1 least with q | q
    · exact Or.inl q
    rcases Nat.lt_or_ge most (num s i0).1 with p | p
    · exact Or.inr p
    simp [numOk, h1, c1] at hok
    omega
  rcases hn with q | q
  · by_cases hm : (num s i0).1 ≤ most
    · have := h2 hm; omega
    · have := h3 (by omega); omega
  · have := h3 q; omega

set_option maxHeartbeats 800000 in
theorem number_ok (b : Nat) (s : ByteArray) (i0 least most : Nat) (L M : Int) (w : World) (h : At b s i0 w) (hs : s.size ≤ maxLen) (hi0 : i0 ≤ s.size) (hL : L = least) (hM : M = most) (hm : most ≤ 255) (hok : numOk s i0 least most = true) :
    Calls Tryd.prog 209 #[.pointer (some ⟨b, 0, none⟩), .int .i64 L, .int .i64 M] w fun e w' => e = .returned (.int .i64 ((num s i0).1 : Int)) ∧ At b s (num s i0).2 w' ∧ Rd b w w' ∧ (num s i0).2 ≤ s.size := by
  subst hL hM
  have H0 : Hid (At b s i0 w) := h
  obtain ⟨p0, p1, q0, q1⟩ := h
  go_enter Tryd.func209, Tryd.ntmps209
  go_wp2
  go_loopw [8] (fun nv wr => ∃ k v i : Nat, nv = .int .i64 (k : Int) ∧ At b s i wr ∧ Rd b w wr ∧ i0 ≤ i ∧ i ≤ s.size ∧ Cap most v k ∧ numF s (s.size - i) i v = num s i0) (fun _ wr => s.size - posOf b wr)
  case atStart => exact ⟨0, 0, i0, rfl, H0.out, Rd.refl _ _, by omega, hi0, ⟨by omega, by omega, by omega⟩, rfl⟩
  case round =>
    obtain ⟨k, v, i, rfl, ha, hr, hlo, hi, hcap, hnum⟩ := hrel
    have HR : Hid (numF s (s.size - i) i v = num s i0) := hnum
    have HA : Hid (At b s i wr) := ha
    have hk := hcap.le
    have HC : Hid (Cap most v k) := hcap
    clear hnum ha hcap p0 p1 q0 q1
    cases hin : inR s i 48 57 with
    | false =>
      have hE : NumEnd s b i0 most w wr k i := by
        have e1 := HR.out
        rw [numF_stop hin] at e1
        exact ⟨HA.out, hr, hlo, hi, by rw [← e1], by rw [← e1]; exact HC.out⟩
      obtain ⟨a1, a2, a3, a4, a5⟩ := ok_cases hE hok
      have HE : Hid (NumEnd s b i0 most w wr k i) := hE
      have HK : Hid (k = (num s i0).1) := a5
      have hi0lt : i0 < s.size := by omega
      clear hE a5 hok
      obtain ⟨g0, g1, g2, g3⟩ := HA.out
      have hs' := hs
      unfold maxLen at hs'
      have n1 : ((i : Int) == (i0 : Int)) = false := by simp; omega
      go_wp2_with fail
      refine (within_is b s i 48 57 _ HA.out hi).mono ?_
      rw [hin]
      rintro e w' ⟨rfl, n, rfl⟩
      by_cases c : 1 < i - i0
      · have c' : 1 < (i : Int) - (i0 : Int) := by omega
        have d : ((s[i0].toNat : Int) == 48) = false := by
          have := bt_lt s i0 hi0lt
          simp; omega
        go_wp2
        go_ret
        rw [← HK.out, HE.out.fin]
        exact ⟨rfl, HA.out.drewN n, hr.drewN n, hi⟩
      · have c' : ¬ 1 < (i : Int) - (i0 : Int) := by omega
        go_wp2
        go_ret
        rw [← HK.out, HE.out.fin]
        exact ⟨rfl, HA.out.drewN n, hr.drewN n, hi⟩
    | true =>
      have hlt := (inR_true.1 hin).1
      have hb := (inR_true.1 hin).2
      rw [← bt_lt s i hlt] at hb
      go_wp2_with fail
      refine (within_is b s i 48 57 _ HA.out hi).mono ?_
      rw [hin]
      rintro e w' ⟨rfl, n, rfl⟩
      go_wp2_with fail
      refine (take_yes b s i 48 57 _ (HA.out.drewN _) hs hlt hin).mono ?_
      rintro e w' ⟨rfl, ha2, hr2⟩
      have HA2 : Hid (At b s (i + 1) w') := ha2
      clear ha2
      have e1 := HR.out
      rw [numF_step hin] at e1
      have e2 := bt_lt s i hlt
      have HE1 : Hid (numF s (s.size - (i + 1)) (i + 1) (v * 10 + (bt s i - 48)) = num s i0) := e1
      clear e1
      by_cases c : (k : Int) ≤ (most : Int)
      · go_wp2
        refine ⟨⟨10 * k + (bt s i - 48), _, i + 1, ?_, HA2.out, (hr.drewN n).trans hr2, by omega, by omega, HC.out.below (by omega) (by omega), HE1.out⟩, ?_⟩
        · rw [show (10 * (k : Int) + ((bt s i : Int) - 48)) = ((10 * k + (bt s i - 48) : Nat) : Int) by omega]
        · rw [HA.out.posOf, HA2.out.posOf]; omega
      · go_wp2
        refine ⟨⟨k, _, i + 1, rfl, HA2.out, (hr.drewN n).trans hr2, by omega, by omega, HC.out.above (by omega), HE1.out⟩, ?_⟩
        rw [HA.out.posOf, HA2.out.posOf]; omega

set_option maxHeartbeats 800000 in
theorem number_no (b : Nat) (s : ByteArray) (i0 least most : Nat) (L M : Int) (w : World) (h : At b s i0 w) (hs : s.size ≤ maxLen) (hi0 : i0 ≤ s.size) (hL : L = least) (hM : M = most) (hm : most ≤ 255) (hok : numOk s i0 least most = false) :
    Calls Tryd.prog 209 #[.pointer (some ⟨b, 0, none⟩), .int .i64 L, .int .i64 M] w fun e w' => e = .panicked oops ∧ At b s i0 w' ∧ Rd b w w' := by
  subst hL hM
  have H0 : Hid (At b s i0 w) := h
  obtain ⟨p0, p1, q0, q1⟩ := h
  go_enter Tryd.func209, Tryd.ntmps209
  go_wp2
  go_loopw [8] (fun nv wr => ∃ k v i : Nat, nv = .int .i64 (k : Int) ∧ At b s i wr ∧ Rd b w wr ∧ i0 ≤ i ∧ i ≤ s.size ∧ Cap most v k ∧ numF s (s.size - i) i v = num s i0) (fun _ wr => s.size - posOf b wr)
  case atStart => exact ⟨0, 0, i0, rfl, H0.out, Rd.refl _ _, by omega, hi0, ⟨by omega, by omega, by omega⟩, rfl⟩
  case round =>
    obtain ⟨k, v, i, rfl, ha, hr, hlo, hi, hcap, hnum⟩ := hrel
    have HR : Hid (numF s (s.size - i) i v = num s i0) := hnum
    have HA : Hid (At b s i wr) := ha
    have hk := hcap.le
    have HC : Hid (Cap most v k) := hcap
    clear hnum ha hcap p0 p1 q0 q1
    cases hin : inR s i 48 57 with
    | false =>
      have hE : NumEnd s b i0 most w wr k i := by
        have e1 := HR.out
        rw [numF_stop hin] at e1
        exact ⟨HA.out, hr, hlo, hi, by rw [← e1], by rw [← e1]; exact HC.out⟩
      have hc := no_cases hE hok
      clear hE hok
      obtain ⟨g0, g1, g2, g3⟩ := HA.out
      have hs' := hs
      unfold maxLen at hs'
      go_wp2_with fail
      refine (within_is b s i 48 57 _ HA.out hi).mono ?_
      rw [hin]
      rintro e w' ⟨rfl, n, rfl⟩
      rcases hc with c1 | ⟨c2, c3⟩ | ⟨c1, c2, c3⟩
      · have n1 : ((i : Int) == (i0 : Int)) = true := by simp; omega
        have c' : ¬ 1 < (i : Int) - (i0 : Int) := by omega
        have C1 : Hid (i = i0) := c1
        clear c1
        go_wp2_with fail
        refine (fail_any b s i i0 _ (HA.out.drewN n)).mono ?_
        rintro e w' ⟨rfl, ha2, hr2⟩
        go_wp2
        exact ⟨rfl, rfl, ha2, (hr.drewN n).trans hr2⟩
      · have n1 : ((i : Int) == (i0 : Int)) = false := by simp; omega
        have c' : 1 < (i : Int) - (i0 : Int) := by omega
        have hi0lt : i0 < s.size := by omega
        have d : ((s[i0].toNat : Int) == 48) = true := by
          have := bt_lt s i0 hi0lt
          simp; omega
        clear c3
        go_wp2_with fail
        refine (fail_any b s i i0 _ (HA.out.drewN n)).mono ?_
        rintro e w' ⟨rfl, ha2, hr2⟩
        go_wp2
        exact ⟨rfl, rfl, ha2, (hr.drewN n).trans hr2⟩
      · have n1 : ((i : Int) == (i0 : Int)) = false := by simp; omega
        have hi0lt : i0 < s.size := by omega
        clear c1
        by_cases c : 1 < i - i0
        · have c' : 1 < (i : Int) - (i0 : Int) := by omega
          have d : ((s[i0].toNat : Int) == 48) = false := by
            have := bt_lt s i0 hi0lt
            simp; omega
          clear c2
          rcases c3 with c4 | ⟨c4, c5⟩
          · have c6 : (k : Int) < (least : Int) := by omega
            go_wp2_with fail
            refine (fail_any b s i i0 _ (HA.out.drewN n)).mono ?_
            rintro e w' ⟨rfl, ha2, hr2⟩
            go_wp2
            exact ⟨rfl, rfl, ha2, (hr.drewN n).trans hr2⟩
          · have c6 : ¬ (k : Int) < (least : Int) := by omega
            have c7 : (most : Int) < (k : Int) := by omega
            go_wp2_with fail
            refine (fail_any b s i i0 _ (HA.out.drewN n)).mono ?_
            rintro e w' ⟨rfl, ha2, hr2⟩
            go_wp2
            exact ⟨rfl, rfl, ha2, (hr.drewN n).trans hr2⟩
        · have c' : ¬ 1 < (i : Int) - (i0 : Int) := by omega
          clear c2
          rcases c3 with c4 | ⟨c4, c5⟩
          · have c6 : (k : Int) < (least : Int) := by omega
            go_wp2_with fail
            refine (fail_any b s i i0 _ (HA.out.drewN n)).mono ?_
            rintro e w' ⟨rfl, ha2, hr2⟩
            go_wp2
            exact ⟨rfl, rfl, ha2, (hr.drewN n).trans hr2⟩
          · have c6 : ¬ (k : Int) < (least : Int) := by omega
            have c7 : (most : Int) < (k : Int) := by omega
            go_wp2_with fail
            refine (fail_any b s i i0 _ (HA.out.drewN n)).mono ?_
            rintro e w' ⟨rfl, ha2, hr2⟩
            go_wp2
            exact ⟨rfl, rfl, ha2, (hr.drewN n).trans hr2⟩
    | true =>
      have hlt := (inR_true.1 hin).1
      have hb := (inR_true.1 hin).2
      rw [← bt_lt s i hlt] at hb
      go_wp2_with fail
      refine (within_is b s i 48 57 _ HA.out hi).mono ?_
      rw [hin]
      rintro e w' ⟨rfl, n, rfl⟩
      go_wp2_with fail
      refine (take_yes b s i 48 57 _ (HA.out.drewN _) hs hlt hin).mono ?_
      rintro e w' ⟨rfl, ha2, hr2⟩
      have HA2 : Hid (At b s (i + 1) w') := ha2
      clear ha2
      have e1 := HR.out
      rw [numF_step hin] at e1
      have e2 := bt_lt s i hlt
      have HE1 : Hid (numF s (s.size - (i + 1)) (i + 1) (v * 10 + (bt s i - 48)) = num s i0) := e1
      clear e1
      by_cases c : (k : Int) ≤ (most : Int)
      · go_wp2
        refine ⟨⟨10 * k + (bt s i - 48), _, i + 1, ?_, HA2.out, (hr.drewN n).trans hr2, by omega, by omega, HC.out.below (by omega) (by omega), HE1.out⟩, ?_⟩
        · rw [show (10 * (k : Int) + ((bt s i : Int) - 48)) = ((10 * k + (bt s i - 48) : Nat) : Int) by omega]
        · rw [HA.out.posOf, HA2.out.posOf]; omega
      · go_wp2
        refine ⟨⟨k, _, i + 1, rfl, HA2.out, (hr.drewN n).trans hr2, by omega, by omega, HC.out.above (by omega), HE1.out⟩, ?_⟩
        rw [HA.out.posOf, HA2.out.posOf]; omega
end Go.Proofs.YtljdidimoagnhaaDoor

