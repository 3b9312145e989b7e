/-
  The reader of package pattern: skip, isDigit.
-/
import Derived.Test.YtpbcgojfpmpgpaaDoorPa2
namespace Go.Proofs.YtpbcgojfpmpgpaaDoor
open Go.RowKit
set_option linter.unusedVariables false

theorem RAt.posOf {b : Nat} {s : ByteArray} {r : Rv} {w : World} (h : RAt b s r w) : posOf b w = r.i := by
  unfold Go.Proofs.YtpbcgojfpmpgpaaDoor.posOf; rw [h.ten.c1]; simp

set_option maxHeartbeats 800000 in
theorem pskip (b : Nat) (s : ByteArray) (r : Rv) (w : World) (h : RAt b s r w) (hi : r.i ≤ s.size) (hs : s.size ≤ 40000) :
    Calls Tryd.prog 70 #[.pointer (some ⟨b, 0, none⟩)] w fun e w' => e = .returned (.tuple #[]) ∧ RAt b s { r with i := sk s r.i } w' ∧ Rd b w w' := by
  have H := hide' h
  clear h
  go_enter Tryd.func70, Tryd.ntmps70
  go_wp2
  go_loopw [] (fun wr => ∃ i, RAt b s { r with i := i } wr ∧ Rd b w wr ∧ i ≤ s.size ∧ sk s i = sk s r.i) (fun wr => s.size - posOf b wr)
  case atStart => exact ⟨r.i, H.out, Rd.refl _ _, hi, rfl⟩
  case round =>
    obtain ⟨i, ha, hr, hi', hsk⟩ := hrel
    have HA := hide' ha
    have HR := hide' hr
    have HS := hide' hsk
    obtain ⟨c0, c1, -, -, -, -, -, -, -, -, f1, -, -, -, -, -, -, -, -⟩ := ha.ten
    clear ha hr hsk
    dsimp only at c1
    by_cases q32 : bt s i = 32
    · have n1 : ((bt s i : Int) == 32) = true := by simp; omega
      have hlt : i < s.size := by
        rcases Nat.lt_or_ge i s.size with z | z
        · exact z
        · simp [bt, show ¬ i < s.size by omega] at q32
      have hb : blankAt s i = true := blankAt_true.2 ⟨hlt, Or.inl q32⟩
      have HB := hide' hb
      clear hb q32
      go_wp2_with fail
      refine (pnext b s _ _ HA.out hi').mono ?_
      rintro e w1 ⟨rfl, n, rfl⟩
      go_wp2
      go_roundw
      case rel => exact ⟨i + 1, by rw [show (i : Int) + 1 = ((i + 1 : Nat) : Int) by omega]; exact (HA.out.drewN n).set_i (i + 1), (HR.out.drewN n).set _ _, by omega, (sk_step HB.out).symm.trans HS.out⟩
      · rw [show (i : Int) + 1 = ((i + 1 : Nat) : Int) by omega, ((HA.out.drewN n).set_i (i + 1)).posOf, HA.out.posOf]
        dsimp only; omega
    · have n1 : ((bt s i : Int) == 32) = false := by simp; omega
      by_cases q10 : bt s i = 10
      · have n2 : ((bt s i : Int) == 10) = true := by simp; omega
        have hlt : i < s.size := by
          rcases Nat.lt_or_ge i s.size with z | z
          · exact z
          · simp [bt, show ¬ i < s.size by omega] at q10
        have hb : blankAt s i = true := blankAt_true.2 ⟨hlt, Or.inr q10⟩
        have HB := hide' hb
        clear hb q32 q10
        go_wp2_with fail
        refine (pnext b s _ _ HA.out hi').mono ?_
        rintro e w1 ⟨rfl, n, rfl⟩
        go_wp2_with fail
        refine (pnext b s _ _ (HA.out.drewN n) hi').mono ?_
        rintro e w1 ⟨rfl, n', rfl⟩
        go_wp2
        go_roundw
        case rel => exact ⟨i + 1, by rw [show (i : Int) + 1 = ((i + 1 : Nat) : Int) by omega]; exact (HA.out.drewN (n + n')).set_i (i + 1), (HR.out.drewN (n + n')).set _ _, by omega, (sk_step HB.out).symm.trans HS.out⟩
        · rw [show (i : Int) + 1 = ((i + 1 : Nat) : Int) by omega, ((HA.out.drewN (n + n')).set_i (i + 1)).posOf, HA.out.posOf]
          dsimp only; omega
      · have n2 : ((bt s i : Int) == 10) = false := by simp; omega
        have hb : blankAt s i = false := blankAt_false.2 (by omega)
        have HB := hide' hb
        clear hb q32 q10
        go_wp2_with fail
        refine (pnext b s _ _ HA.out hi').mono ?_
        rintro e w1 ⟨rfl, n, rfl⟩
        go_wp2_with fail
        refine (pnext b s _ _ (HA.out.drewN n) hi').mono ?_
        rintro e w1 ⟨rfl, n', rfl⟩
        go_wp2
        go_end0
        have e := (sk_stop HB.out).symm.trans HS.out
        rw [← e]
        exact ⟨rfl, HA.out.drewN _, HR.out.drewN _⟩

theorem digit_lo (s : ByteArray) (i : Nat) (h : bt s i < 48) : inR s i 48 57 = false := inR_false.2 (by omega)
theorem digit_hi (s : ByteArray) (i : Nat) (h : 57 < bt s i) : inR s i 48 57 = false := inR_false.2 (by omega)
theorem bt_pos {s : ByteArray} {i : Nat} (h : 0 < bt s i) : i < s.size := by
  rcases Nat.lt_or_ge i s.size with z | z
  · exact z
  · simp [bt, show ¬ i < s.size by omega] at h
theorem digit_in (s : ByteArray) (i : Nat) (h : 48 ≤ bt s i) (h' : bt s i ≤ 57) : inR s i 48 57 = true := inR_true.2 ⟨bt_pos (by omega), by omega, by omega⟩

set_option maxHeartbeats 800000 in
theorem pisDigit (b : Nat) (s : ByteArray) (r : Rv) (w : World) (h : RAt b s r w) (hi : r.i ≤ s.size) :
    Calls Tryd.prog 103 #[.pointer (some ⟨b, 0, none⟩)] w fun e w' => e = .returned (.bool (inR s r.i 48 57)) ∧ ∃ n, w' = w.drewN n := by
  have H := hide' h
  clear h
  by_cases q1 : bt s r.i < 48
  · have n1 : ¬ (48 : Int) ≤ (bt s r.i : Int) := by omega
    rw [digit_lo s r.i q1]
    clear q1
    go_enter Tryd.func103, Tryd.ntmps103
    go_wp2_with fail
    refine (pnext b s _ _ H.out hi).mono ?_
    rintro e w1 ⟨rfl, n, rfl⟩
    go_wp2
    go_ret
    exact ⟨rfl, n, rfl⟩
  · have n1 : (48 : Int) ≤ (bt s r.i : Int) := by omega
    by_cases q2 : 57 < bt s r.i
    · have n2 : ¬ (bt s r.i : Int) ≤ 57 := by omega
      rw [digit_hi s r.i q2]
      clear q1 q2
      go_enter Tryd.func103, Tryd.ntmps103
      go_wp2_with fail
      refine (pnext b s _ _ H.out hi).mono ?_
      rintro e w1 ⟨rfl, n, rfl⟩
      go_wp2_with fail
      refine (pnext b s _ _ (H.out.drewN n) hi).mono ?_
      rintro e w1 ⟨rfl, n', rfl⟩
      go_wp2
      go_ret
      exact ⟨by simp [n2], _, rfl⟩
    · have n2 : (bt s r.i : Int) ≤ 57 := by omega
      rw [digit_in s r.i (by omega) (by omega)]
      clear q1 q2
      go_enter Tryd.func103, Tryd.ntmps103
      go_wp2_with fail
      refine (pnext b s _ _ H.out hi).mono ?_
      rintro e w1 ⟨rfl, n, rfl⟩
      go_wp2_with fail
      refine (pnext b s _ _ (H.out.drewN n) hi).mono ?_
      rintro e w1 ⟨rfl, n', rfl⟩
      go_wp2
      go_ret
      exact ⟨by simp, _, rfl⟩
theorem pisDigit' (b : Nat) (s : ByteArray) (r : Rv) (w : World) (c : Bool) (hc : inR s r.i 48 57 = c) (h : RAt b s r w) (hi : r.i ≤ s.size) :
    Calls Tryd.prog 103 #[.pointer (some ⟨b, 0, none⟩)] w fun e w' => e = .returned (.bool c) ∧ ∃ n, w' = w.drewN n := by
  subst hc
  exact pisDigit b s r w h hi
end Go.Proofs.YtpbcgojfpmpgpaaDoor
