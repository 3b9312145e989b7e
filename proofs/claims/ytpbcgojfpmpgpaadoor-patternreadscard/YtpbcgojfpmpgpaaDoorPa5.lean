/-
  The reader of package pattern: expect, side.
-/
import Derived.Test.YtpbcgojfpmpgpaaDoorPa4
namespace Go.Proofs.YtpbcgojfpmpgpaaDoor
open Go.RowKit
set_option linter.unusedVariables false

/-- A text's bytes. -/
def bts (t : ByteArray) : List Nat := (List.range t.size).map (bt t)
theorem bts_drop (t : ByteArray) (k : Nat) (h : k < t.size) : (bts t).drop k = bt t k :: (bts t).drop (k + 1) := by
  rw [List.drop_eq_getElem_cons (by simpa [bts] using h)]
  simp [bts]
theorem bts_end (t : ByteArray) : (bts t).drop t.size = [] := by simp [bts]

def WordPost (b : Nat) (s : ByteArray) (r : Rv) (ws : List Nat) (w : World) (e : Ending) (w' : World) : Prop :=
  (∃ j, wordF s ws r.i = .inl j ∧ e = .returned (.bool true) ∧ RAt b s { r with i := j } w' ∧ Rd b w w' ∧ j ≤ s.size) ∨
  (∃ j, wordF s ws r.i = .inr j ∧ e = .returned (.bool false) ∧ RAt b s { r with i := j, fl := 2 } w' ∧ Rd b w w')

set_option maxHeartbeats 1600000 in
theorem pexpect (b : Nat) (s t : ByteArray) (r : Rv) (w : World) (h : RAt b s r w) (hi : r.i ≤ s.size) (hs : s.size ≤ 40000) (ht : t.size ≤ 100) (hz : ∀ k, k < t.size → 0 < bt t k) :
    Calls Tryd.prog 102 #[.pointer (some ⟨b, 0, none⟩), .string t] w (WordPost b s r (bts t) w) := by
  have H := hide' h
  have HZ := hide' hz
  clear h hz
  go_enter Tryd.func102, Tryd.ntmps102
  go_wp2
  go_loopw [8] (fun kv wr => ∃ k i : Nat, kv = .int .i64 (k : Int) ∧ k ≤ t.size ∧ RAt b s { r with i := i } wr ∧ Rd b w wr ∧ i ≤ s.size ∧ wordF s ((bts t).drop k) i = wordF s (bts t) r.i) (fun kv _ => t.size - (intOf kv).toNat)
  case atStart => exact ⟨0, r.i, rfl, by omega, H.out, Rd.refl _ _, hi, rfl⟩
  case round =>
    obtain ⟨k, i, rfl, hk, ha, hr, hi', hw⟩ := hrel
    have HA := hide' ha
    have HR := hide' hr
    have HW := hide' hw
    have c1 := ha.ten.c1
    have f1 := ha.ten.f1
    dsimp only at c1
    clear ha hr hw
    by_cases q : k < t.size
    · have n1 : (k : Int) < (t.size : Int) := by omega
      have hbt := bt_lt t k q
      by_cases e : bt s i = bt t k
      · have n2 : ((bt s i : Int) == (t[k].toNat : Int)) = true := by simp; omega
        have hlt : i < s.size := bt_pos (by have := HZ.out k q; omega)
        have hw := HW.out
        rw [bts_drop t k q, wordF, if_pos ⟨hlt, e⟩] at hw
        have HW2 := hide' hw
        clear hw hbt e
        go_wp2
        go_quiet ((go_at_call 72; exact Calls.quiet_of (pnext b s _ _ (HA.out.drewN _) hi')))
        go_wp2
        go_roundw
        case rel => exact ⟨k + 1, i + 1, by go_num, by omega, by rw [show (i : Int) + 1 = ((i + 1 : Nat) : Int) by omega]; exact (HA.out.drewN _).set_i (i + 1), (HR.out.drewN _).set _ _, by omega, HW2.out⟩
        · simp [intOf]; omega
      · have n2 : ((bt s i : Int) == (t[k].toNat : Int)) = false := by simp; omega
        have hw := HW.out
        rw [bts_drop t k q, wordF, if_neg (fun h => e h.2)] at hw
        have HW2 := hide' hw
        clear hw hbt e
        go_wp2
        go_quiet ((go_at_call 72; exact Calls.quiet_of (pnext b s _ _ (HA.out.drewN _) hi')))
        go_wp2_with fail
        refine (pfail b s _ i _ _ _ rfl (HA.out.drewN _)).mono ?_
        rintro e w1 ⟨rfl, a1, r1⟩
        go_wp2
        go_ret
        right
        exact ⟨i, HW2.out.symm, rfl, a1, (HR.out.drewN _).trans r1⟩
    · have n1 : ¬ (k : Int) < (t.size : Int) := by omega
      have hw := HW.out
      rw [show k = t.size by omega, bts_end, wordF] at hw
      have HW2 := hide' hw
      clear hw
      go_wp2
      go_ret
      left
      exact ⟨i, HW2.out.symm, rfl, HA.out, HR.out, hi'⟩
end Go.Proofs.YtpbcgojfpmpgpaaDoor
