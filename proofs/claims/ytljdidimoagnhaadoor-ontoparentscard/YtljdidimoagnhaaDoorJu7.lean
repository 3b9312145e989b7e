/-
  What the last text of this claim leans on, part 7: Pa3, Pa4, Pa5.
-/
import Derived.Test.YtljdidimoagnhaaDoorJu6
namespace Go.Proofs.YtljdidimoagnhaaDoor
open Go.RowKit
set_option linter.unusedVariables false

theorem RAt.posOf {b : Nat} {s : ByteArray} {r : Rv} {w : World} (h : RAt b s r w) : posOf b w = r.i := by
  unfold Go.Proofs.YtljdidimoagnhaaDoor.posOf; rw [h.ten.c1]; simp

set_option maxHeartbeats 800000 in
theorem pskip (b : Nat) (s : ByteArray) (r : Rv) (w : World) (h : RAt b s r w) (hi : r.i ≤ s.size) (hs : s.size ≤ 40000) :
    Calls Tryd.prog 105 #[.pointer (some ⟨b, 0, none⟩)] w fun e w' => e = .returned (.tuple #[]) ∧ RAt b s { r with i := sk s r.i } w' ∧ Rd b w w' := by
  have H := hide' h
  clear h
  go_enter Tryd.func105, Tryd.ntmps105
  go_wp2
  go_loopw [] (fun wr => ∃ i, RAt b s { r with i := i } wr ∧ Rd b w wr ∧ i ≤ s.size ∧ sk s i = sk s r.i) (fun wr => s.size - posOf b wr)
  case atStart => exact ⟨r.i, H.out, Rd.refl _ _, hi, rfl⟩
  case round =>
    obtain ⟨i, ha, hr, hi', hsk⟩ := hrel
    have HA := hide' ha
    have HR := hide' hr
    have HS := hide' hsk
    obtain ⟨c0, c1, -, -, -, -, -, -, -, -, f1, -, -, -, -, -, -, -, -⟩ := ha.ten
    clear ha hr hsk
    dsimp only at c1
    by_cases q32 : bt s i = 32
    · have n1 : ((bt s i : Int) == 32) = true := by simp; omega
      have hlt : i < s.size := by
        rcases Nat.lt_or_ge i s.size with z | z
        · exact z
        · simp [bt, show ¬ i < s.size by omega] at q32
      have hb : blankAt s i = true := blankAt_true.2 ⟨hlt, Or.inl q32⟩
      have HB := hide' hb
      clear hb q32
      go_wp2_with fail
      refine (pnext b s _ _ HA.out hi').mono ?_
      rintro e w1 ⟨rfl, n, rfl⟩
      go_wp2
      go_roundw
      case rel => exact ⟨i + 1, by rw [show (i : Int) + 1 = ((i + 1 : Nat) : Int) by omega]; exact (HA.out.drewN n).set_i (i + 1), (HR.out.drewN n).set _ _, by omega, (sk_step HB.out).symm.trans HS.out⟩
      · rw [show (i : Int) + 1 = ((i + 1 : Nat) : Int) by omega, ((HA.out.drewN n).set_i (i + 1)).posOf, HA.out.posOf]
        dsimp only; omega
    · have n1 : ((bt s i : Int) == 32) = false := by simp; omega
      by_cases q10 : bt s i = 10
      · have n2 : ((bt s i : Int) == 10) = true := by simp; omega
        have hlt : i < s.size := by
          rcases Nat.lt_or_ge i s.size with z | z
          · exact z
          · simp [bt, show ¬ i < s.size by omega] at q10
        have hb : blankAt s i = true := blankAt_true.2 ⟨hlt, Or.inr q10⟩
        have HB := hide' hb
        clear hb q32 q10
        go_wp2_with fail
        refine (pnext b s _ _ HA.out hi').mono ?_
        rintro e w1 ⟨rfl, n, rfl⟩
        go_wp2_with fail
        refine (pnext b s _ _ (HA.out.drewN n) hi').mono ?_
        rintro e w1 ⟨rfl, n', rfl⟩
        go_wp2
        go_roundw
        case rel => exact ⟨i + 1, by rw [show (i : Int) + 1 = ((i + 1 : Nat) : Int) by omega]; exact (HA.out.drewN (n + n')).set_i (i + 1), (HR.out.drewN (n + n')).set _ _, by omega, (sk_step HB.out).symm.trans HS.out⟩
        · rw [show (i : Int) + 1 = ((i + 1 : Nat) : Int) by omega, ((HA.out.drewN (n + n')).set_i (i + 1)).posOf, HA.out.posOf]
          dsimp only; omega
      · have n2 : ((bt s i : Int) == 10) = false := by simp; omega
        have hb : blankAt s i = false := blankAt_false.2 (by omega)
        have HB := hide' hb
        clear hb q32 q10
        go_wp2_with fail
        refine (pnext b s _ _ HA.out hi').mono ?_
        rintro e w1 ⟨rfl, n, rfl⟩
        go_wp2_with fail
        refine (pnext b s _ _ (HA.out.drewN n) hi').mono ?_
        rintro e w1 ⟨rfl, n', rfl⟩
        go_wp2
        go_end0
        have e := (sk_stop HB.out).symm.trans HS.out
        rw [← e]
        exact ⟨rfl, HA.out.drewN _, HR.out.drewN _⟩

theorem digit_lo (s : ByteArray) (i : Nat) (h : bt s i < 48) : inR s i 48 57 = false := inR_false.2 (by omega)
theorem digit_hi (s : ByteArray) (i : Nat) (h : 57 < bt s i) : inR s i 48 57 = false := inR_false.2 (by omega)
theorem bt_pos {s : ByteArray} {i : Nat} (h : 0 < bt s i) : i < s.size := by
  rcases Nat.lt_or_ge i s.size with z | z
  · exact z
  · simp [bt, show ¬ i < s.size by omega] at h
theorem digit_in (s : ByteArray) (i : Nat) (h : 48 ≤ bt s i) (h' : bt s i ≤ 57) : inR s i 48 57 = true := inR_true.2 ⟨bt_pos (by omega), by omega, by omega⟩

set_option maxHeartbeats 800000 in
theorem pisDigit (b : Nat) (s : ByteArray) (r : Rv) (w : World) (h : RAt b s r w) (hi : r.i ≤ s.size) :
    Calls Tryd.prog 161 #[.pointer (some ⟨b, 0, none⟩)] w fun e w' => e = .returned (.bool (inR s r.i 48 57)) ∧ ∃ n, w' = w.drewN n := by
  have H := hide' h
  clear h
  by_cases q1 : bt s r.i < 48
  · have n1 : ¬ (48 : Int) ≤ (bt s r.i : Int) := by omega
    rw [digit_lo s r.i q1]
    clear q1
    go_enter Tryd.func161, Tryd.ntmps161
    go_wp2_with fail
    refine (pnext b s _ _ H.out hi).mono ?_
    rintro e w1 ⟨rfl, n, rfl⟩
    go_wp2
    go_ret
    exact ⟨rfl, n, rfl⟩
  · have n1 : (48 : Int) ≤ (bt s r.i : Int) := by omega
    by_cases q2 : 57 < bt s r.i
    · have n2 : ¬ (bt s r.i : Int) ≤ 57 := by omega
      rw [digit_hi s r.i q2]
      clear q1 q2
      go_enter Tryd.func161, Tryd.ntmps161
      go_wp2_with fail
      refine (pnext b s _ _ H.out hi).mono ?_
      rintro e w1 ⟨rfl, n, rfl⟩
      go_wp2_with fail
      refine (pnext b s _ _ (H.out.drewN n) hi).mono ?_
      rintro e w1 ⟨rfl, n', rfl⟩
      go_wp2
      go_ret
      exact ⟨by simp [n2], _, rfl⟩
    · have n2 : (bt s r.i : Int) ≤ 57 := by omega
      rw [digit_in s r.i (by omega) (by omega)]
      clear q1 q2
      go_enter Tryd.func161, Tryd.ntmps161
      go_wp2_with fail
      refine (pnext b s _ _ H.out hi).mono ?_
      rintro e w1 ⟨rfl, n, rfl⟩
      go_wp2_with fail
      refine (pnext b s _ _ (H.out.drewN n) hi).mono ?_
      rintro e w1 ⟨rfl, n', rfl⟩
      go_wp2
      go_ret
      exact ⟨by simp, _, rfl⟩
theorem pisDigit' (b : Nat) (s : ByteArray) (r : Rv) (w : World) (c : Bool) (hc : inR s r.i 48 57 = c) (h : RAt b s r w) (hi : r.i ≤ s.size) :
    Calls Tryd.prog 161 #[.pointer (some ⟨b, 0, none⟩)] w fun e w' => e = .returned (.bool c) ∧ ∃ n, w' = w.drewN n := by
  subst hc
  exact pisDigit b s r w h hi
end Go.Proofs.YtljdidimoagnhaaDoor

namespace Go.Proofs.YtljdidimoagnhaaDoor
open Go.RowKit
set_option linter.unusedVariables false

def NumPost (b : Nat) (s : ByteArray) (r : Rv) (w : World) (e : Ending) (w' : World) : Prop :=
  (numSix s r.i = true ∧ e = .returned (.tuple #[.int .i64 ((num s r.i).1 : Int), .bool true]) ∧ RAt b s { r with i := (num s r.i).2 } w' ∧ Rd b w w' ∧ (num s r.i).2 ≤ s.size) ∨
  (numSix s r.i = false ∧ e = .returned (.tuple #[.int .i64 0, .bool false]) ∧ RAt b s { r with fl := 2 } w' ∧ Rd b w w')

theorem numSix_true {s : ByteArray} {i : Nat} : numSix s i = true ↔ i < (num s i).2 ∧ ¬ (1 < (num s i).2 - i ∧ bt s i = 48) ∧ (num s i).2 - i ≤ 6 := by
  unfold numSix
  rw [Bool.and_eq_true, Bool.and_eq_true, decide_eq_true_eq, Bool.not_eq_true', decide_eq_true_eq, and_assoc]
  constructor <;> rintro ⟨a, c, d⟩ <;> refine ⟨a, ?_, d⟩ <;> simp at c ⊢ <;> omega
theorem numSix_false {s : ByteArray} {i : Nat} : numSix s i = false ↔ ¬ (i < (num s i).2 ∧ ¬ (1 < (num s i).2 - i ∧ bt s i = 48) ∧ (num s i).2 - i ≤ 6) := by
  rw [← numSix_true]; cases numSix s i <;> simp

set_option maxHeartbeats 1600000 in
theorem pnumber (b : Nat) (s : ByteArray) (r : Rv) (w : World) (h : RAt b s r w) (hi : r.i ≤ s.size) (hs : s.size ≤ 40000) :
    Calls Tryd.prog 162 #[.pointer (some ⟨b, 0, none⟩)] w (NumPost b s r w) := by
  have H := hide' h
  obtain ⟨i0, hI⟩ : ∃ i0, i0 = r.i := ⟨_, rfl⟩
  have hi0 : i0 ≤ s.size := by omega
  have HI := hide' hI
  have c1 : w.cell? ⟨b, 1, none⟩ = some (.int .i64 (i0 : Int)) := by rw [hI]; exact h.ten.c1
  clear h hI hi
  go_enter Tryd.func162, Tryd.ntmps162
  go_wp2
  have N := hide' (show ∃ k v i : Nat, True from ⟨0, 0, 0, trivial⟩)
  clear N
  go_loopw [5] (fun nv wr => ∃ v i : Nat, nv = .int .i64 (v : Int) ∧ RAt b s { r with i := i } wr ∧ Rd b w wr ∧ i0 ≤ i ∧ i ≤ s.size ∧ i - i0 ≤ 6 ∧ v < 1000000 ∧ v < 10 ^ (i - i0) ∧ (1 < i - i0 → ¬ bt s i0 = 48) ∧ numF s (s.size - i) i v = num s i0) (fun _ wr => s.size - posOf b wr)
  case atStart => exact ⟨0, i0, rfl, by rw [HI.out]; exact H.out, Rd.refl _ _, by omega, hi0, by omega, by omega, by simp, by omega, rfl⟩
  case round =>
    obtain ⟨v, i, rfl, ha, hr, hlo, hi, h6, hv, hv', hz, hnum⟩ := hrel
    have HR := hide' hr
    have HA := hide' ha
    have HN := hide' hnum
    have HV := hide' hv'
    have HZ := hide' hz
    have c1' := ha.ten.c1
    have c0' := ha.ten.c0
    have f1' := ha.ten.f1
    dsimp only at c1'
    clear ha hr hnum hv' hz c1
    cases hin : inR s i 48 57 with
    | false =>
      have e1 := HN.out
      rw [numF_stop hin] at e1
      have F := hide' (show (num s i0).2 = i by rw [← e1])
      have V := hide' (show (num s i0).1 = v by rw [← e1])
      clear e1
      by_cases q : i = i0
      · have n1 : ((i : Int) == (i0 : Int)) = true := by simp; omega
        have Q := hide' q
        clear q
        go_wp2_with fail
        refine (pisDigit' b s _ _ false hin HA.out hi).mono ?_
        rintro e w1 ⟨rfl, n, rfl⟩
        go_wp2_with fail
        refine (pfail b s _ i0 _ _ _ rfl (HA.out.drewN n)).mono ?_
        rintro e w1 ⟨rfl, a1, r1⟩
        go_wp2
        go_ret2
        right
        have hI := HI.out
        subst hI
        refine ⟨numSix_false.2 (by have := F.out; have := Q.out; omega), rfl, ?_, (HR.out.drewN n).trans r1⟩
        exact a1
      · have n1 : ((i : Int) == (i0 : Int)) = false := by simp; omega
        go_wp2_with fail
        refine (pisDigit' b s _ _ false hin HA.out hi).mono ?_
        rintro e w1 ⟨rfl, n, rfl⟩
        go_wp2
        go_ret2
        left
        have hI := HI.out
        subst hI
        have f := F.out
        have z := HZ.out
        refine ⟨numSix_true.2 (by rw [f]; omega), by rw [V.out]; rfl, ?_, HR.out.drewN n, by rw [f]; exact hi⟩
        rw [f]
        exact HA.out.drewN n
    | true =>
      have hb := inR_true.1 hin
      have hlt := hb.1
      have hlt0 : i0 < s.size := by omega
      have k1 : (48 : Int) ≤ (bt s i : Int) := hb.2.1
      have k2 : (bt s i : Int) ≤ 57 := hb.2.2
      have e1 := HN.out
      rw [numF_step hin] at e1
      have E1 := hide' e1
      have G := hide' (show i + 1 ≤ (num s i0).2 by rw [← e1]; exact numF_ge s _ _ _)
      clear e1 hb
      by_cases q1 : i0 < i
      · have n1 : (i0 : Int) < (i : Int) := by omega
        by_cases q2 : bt s i0 = 48
        · have n2 : ((s[i0].toNat : Int) == 48) = true := by have := bt_lt s i0 hlt0; simp; omega
          have Q2 := hide' q2
          clear q2
          go_wp2_with fail
          refine (pisDigit' b s _ _ true hin HA.out hi).mono ?_
          rintro e w1 ⟨rfl, n, rfl⟩
          go_wp2_with fail
          refine (pfail b s _ i0 _ _ _ rfl (HA.out.drewN _)).mono ?_
          rintro e w1 ⟨rfl, a1, r1⟩
          go_wp2
          go_ret2
          right
          have hI := HI.out
          subst hI
          exact ⟨numSix_false.2 (by have := G.out; have := Q2.out; omega), rfl, a1, (HR.out.drewN _).trans r1⟩
        · have n2 : ((s[i0].toNat : Int) == 48) = false := by have := bt_lt s i0 hlt0; simp; omega
          have Q2 := hide' q2
          clear q2
          by_cases q3 : i - i0 = 6
          · have n3 : ((i : Int) - (i0 : Int) == 6) = true := by simp; omega
            have Q3 := hide' q3
            clear q3
            go_wp2_with fail
            refine (pisDigit' b s _ _ true hin HA.out hi).mono ?_
            rintro e w1 ⟨rfl, n, rfl⟩
            go_wp2_with fail
            refine (pfail b s _ i0 _ _ _ rfl (HA.out.drewN _)).mono ?_
            rintro e w1 ⟨rfl, a1, r1⟩
            go_wp2
            go_ret2
            right
            have hI := HI.out
            subst hI
            exact ⟨numSix_false.2 (by have := G.out; have := Q3.out; omega), rfl, a1, (HR.out.drewN _).trans r1⟩
          · have n3 : ((i : Int) - (i0 : Int) == 6) = false := by simp; omega
            have hv2 : v < 100000 := by
              have h1 := HV.out
              have h2 : 10 ^ (i - i0) ≤ 10 ^ 5 := Nat.pow_le_pow_right (by omega) (by omega)
              omega
            go_wp2_with fail
            refine (pisDigit' b s _ _ true hin HA.out hi).mono ?_
            rintro e w1 ⟨rfl, n, rfl⟩
            go_wp2_with fail
            refine (pnext b s _ _ (HA.out.drewN _) hi).mono ?_
            rintro e w1 ⟨rfl, n', rfl⟩
            go_wp2
            go_roundw
            case rel =>
              have hn1 : i - i0 ≤ 5 := by omega
              refine ⟨v * 10 + (bt s i - 48), i + 1, by go_num, by rw [show (i : Int) + 1 = ((i + 1 : Nat) : Int) by omega]; exact (HA.out.drewN _).set_i (i + 1), (HR.out.drewN _).set _ _, by omega, by omega, by omega, by omega, ?_, ?_, E1.out⟩
              · have h1 := HV.out
                rw [show i + 1 - i0 = (i - i0) + 1 by omega, Nat.pow_succ]
                omega
              · exact fun _ => Q2.out
            · rw [show (i : Int) + 1 = ((i + 1 : Nat) : Int) by omega, ((HA.out.drewN _).set_i (i + 1)).posOf, HA.out.posOf]
              dsimp only; omega
      · have n1 : ¬ (i0 : Int) < (i : Int) := by omega
        have n3 : ((i : Int) - (i0 : Int) == 6) = false := by simp; omega
        have hv2 : v < 100000 := by
          have h1 := HV.out
          have h2 : 10 ^ (i - i0) ≤ 10 ^ 5 := Nat.pow_le_pow_right (by omega) (by omega)
          omega
        go_wp2_with fail
        refine (pisDigit' b s _ _ true hin HA.out hi).mono ?_
        rintro e w1 ⟨rfl, n, rfl⟩
        go_wp2_with fail
        refine (pnext b s _ _ (HA.out.drewN _) hi).mono ?_
        rintro e w1 ⟨rfl, n', rfl⟩
        go_wp2
        go_roundw
        case rel =>
          have hn1 : i - i0 ≤ 5 := by omega
          refine ⟨v * 10 + (bt s i - 48), i + 1, by go_num, by rw [show (i : Int) + 1 = ((i + 1 : Nat) : Int) by omega]; exact (HA.out.drewN _).set_i (i + 1), (HR.out.drewN _).set _ _, by omega, by omega, by omega, by omega, ?_, ?_, E1.out⟩
          · have h1 := HV.out
            rw [show i + 1 - i0 = (i - i0) + 1 by omega, Nat.pow_succ]
            omega
          · intro hh; omega
        · rw [show (i : Int) + 1 = ((i + 1 : Nat) : Int) by omega, ((HA.out.drewN _).set_i (i + 1)).posOf, HA.out.posOf]
          dsimp only; omega
end Go.Proofs.YtljdidimoagnhaaDoor

namespace Go.Proofs.YtljdidimoagnhaaDoor
open Go.RowKit
set_option linter.unusedVariables false

/-- A text's bytes. -/
def bts (t : ByteArray) : List Nat := (List.range t.size).map (bt t)
theorem bts_drop (t : ByteArray) (k : Nat) (h : k < t.size) : (bts t).drop k = bt t k :: (bts t).drop (k + 1) := by
  rw [List.drop_eq_getElem_cons (by simpa [bts] using h)]
  simp [bts]
theorem bts_end (t : ByteArray) : (bts t).drop t.size = [] := by simp [bts]

def WordPost (b : Nat) (s : ByteArray) (r : Rv) (ws : List Nat) (w : World) (e : Ending) (w' : World) : Prop :=
  (∃ j, wordF s ws r.i = .inl j ∧ e = .returned (.bool true) ∧ RAt b s { r with i := j } w' ∧ Rd b w w' ∧ j ≤ s.size) ∨
  (∃ j, wordF s ws r.i = .inr j ∧ e = .returned (.bool false) ∧ RAt b s { r with i := j, fl := 2 } w' ∧ Rd b w w')

set_option maxHeartbeats 1600000 in
theorem pexpect (b : Nat) (s t : ByteArray) (r : Rv) (w : World) (h : RAt b s r w) (hi : r.i ≤ s.size) (hs : s.size ≤ 40000) (ht : t.size ≤ 100) (hz : ∀ k, k < t.size → 0 < bt t k) :
    Calls Tryd.prog 160 #[.pointer (some ⟨b, 0, none⟩), .string t] w (WordPost b s r (bts t) w) := by
  have H := hide' h
  have HZ := hide' hz
  clear h hz
  go_enter Tryd.func160, Tryd.ntmps160
  go_wp2
  go_loopw [8] (fun kv wr => ∃ k i : Nat, kv = .int .i64 (k : Int) ∧ k ≤ t.size ∧ RAt b s { r with i := i } wr ∧ Rd b w wr ∧ i ≤ s.size ∧ wordF s ((bts t).drop k) i = wordF s (bts t) r.i) (fun kv _ => t.size - (intOf kv).toNat)
  case atStart => exact ⟨0, r.i, rfl, by omega, H.out, Rd.refl _ _, hi, rfl⟩
  case round =>
    obtain ⟨k, i, rfl, hk, ha, hr, hi', hw⟩ := hrel
    have HA := hide' ha
    have HR := hide' hr
    have HW := hide' hw
    have c1 := ha.ten.c1
    have f1 := ha.ten.f1
    dsimp only at c1
    clear ha hr hw
    by_cases q : k < t.size
    · have n1 : (k : Int) < (t.size : Int) := by omega
      have hbt := bt_lt t k q
      by_cases e : bt s i = bt t k
      · have n2 : ((bt s i : Int) == (t[k].toNat : Int)) = true := by simp; omega
        have hlt : i < s.size := bt_pos (by have := HZ.out k q; omega)
        have hw := HW.out
        rw [bts_drop t k q, wordF, if_pos ⟨hlt, e⟩] at hw
        have HW2 := hide' hw
        clear hw hbt e
        go_wp2
        go_quiet ((go_at_call 107; exact Calls.quiet_of (pnext b s _ _ (HA.out.drewN _) hi')))
        go_wp2
        go_roundw
        case rel => exact ⟨k + 1, i + 1, by go_num, by omega, by rw [show (i : Int) + 1 = ((i + 1 : Nat) : Int) by omega]; exact (HA.out.drewN _).set_i (i + 1), (HR.out.drewN _).set _ _, by omega, HW2.out⟩
        · simp [intOf]; omega
      · have n2 : ((bt s i : Int) == (t[k].toNat : Int)) = false := by simp; omega
        have hw := HW.out
        rw [bts_drop t k q, wordF, if_neg (fun h => e h.2)] at hw
        have HW2 := hide' hw
        clear hw hbt e
        go_wp2
        go_quiet ((go_at_call 107; exact Calls.quiet_of (pnext b s _ _ (HA.out.drewN _) hi')))
        go_wp2_with fail
        refine (pfail b s _ i _ _ _ rfl (HA.out.drewN _)).mono ?_
        rintro e w1 ⟨rfl, a1, r1⟩
        go_wp2
        go_ret
        right
        exact ⟨i, HW2.out.symm, rfl, a1, (HR.out.drewN _).trans r1⟩
    · have n1 : ¬ (k : Int) < (t.size : Int) := by omega
      have hw := HW.out
      rw [show k = t.size by omega, bts_end, wordF] at hw
      have HW2 := hide' hw
      clear hw
      go_wp2
      go_ret
      left
      exact ⟨i, HW2.out.symm, rfl, HA.out, HR.out, hi'⟩
end Go.Proofs.YtljdidimoagnhaaDoor

