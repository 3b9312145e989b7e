/-
  What the last text of this claim leans on, part 29: Oe1, Oe2.
-/
import Derived.Test.YtdhbdkkchobinaaJz28
namespace Go.Proofs.Ytdhbdkkchobinaa
open Go.RowKit
set_option linter.unusedVariables false

set_option maxRecDepth 100000 in
set_option maxHeartbeats 1600000 in
theorem ontoPower_any (S e : Nat) (w : World) (hS : 2 ≤ S) (hS4 : S ≤ 4) (he : S ^ e ≤ 1000000) (he2 : e ≤ 100) :
    Calls Try.prog 37 #[.int .i64 (S : Int), .int .i64 (e : Int)] w fun en w' => en = .returned (.int .i64 ((S ^ e : Nat) : Int)) ∧ w' = w := by
  have BD := hide' (show ∀ i, i ≤ e → S ^ i ≤ 1000000 from fun i hi => Nat.le_trans (Nat.pow_le_pow_right (by omega) hi) he)
  obtain ⟨q, hq⟩ : ∃ q, S ^ e = q := ⟨_, rfl⟩
  have HQ := hide' hq
  rw [hq]
  clear hq he
  go_enter Try.func37, Try.ntmps37
  go_wp2
  go_loopw [5, 7] (fun pv iv wr => ∃ i p : Nat, pv = .int .i64 (p : Int) ∧ iv = .int .i64 (i : Int) ∧ i ≤ e ∧ p ≤ 1000000 ∧ wr = w ∧ Hid (p = S ^ i)) (fun _ iv _ => e - (intOf iv).toNat)
  case atStart => exact ⟨0, 1, rfl, rfl, by omega, by omega, by trivial, hide' (by simp)⟩
  case round =>
    obtain ⟨i, p, rfl, rfl, hi, hp, rfl, HP⟩ := hrel
    by_cases d : (i : Int) < (e : Int)
    · obtain ⟨p', hp'⟩ : ∃ p', p * S = p' := ⟨_, rfl⟩
      have HP' := hide' (show p' = S ^ (i + 1) by rw [Nat.pow_succ, ← HP.out]; exact hp'.symm)
      have q1 : (p : Int) * (S : Int) = (p' : Int) := by rw [← hp']; simp
      have q2 : p' ≤ 1000000 := by rw [HP'.out]; exact BD.out (i + 1) (by omega)
      clear hp'
      go_wp2
      exact ⟨⟨i + 1, p', rfl, by go_num, by omega, by omega, by trivial, HP'⟩, by simp [intOf]; omega⟩
    · have Q := hide' (show p = q by rw [HP.out, ← HQ.out, show i = e by omega])
      go_wp2
      go_ret
      exact ⟨by rw [← Q.out]; rfl, rfl⟩

/-- What becomes of a word that is read as a number, digit by digit. -/
def shortN (S : Nat) (T : List Int) (x : Nat) : Nat → Nat
  | 0 => 0
  | k + 1 => shortN S T x k + (T.getD (x / S ^ k % T.length) 0).toNat * S ^ k
theorem shortN_lt {S : Nat} {T : List Int} (hS : 0 < S) (hok : cellsOk S T) (x : Nat) : ∀ k, shortN S T x k < S ^ k
  | 0 => by simp [shortN]
  | k + 1 => by
    have ih := shortN_lt hS hok x k
    have ht : (T.getD (x / S ^ k % T.length) 0).toNat + 1 ≤ S := by
      by_cases h : x / S ^ k % T.length < T.length
      · have := cellsOk_at hok h
        omega
      · rw [List.getD_eq_getElem?_getD, List.getElem?_eq_none (by omega)]
        exact hS
    have := Nat.mul_le_mul_right (S ^ k) ht
    rw [Nat.add_mul, Nat.one_mul] at this
    rw [shortN, Nat.pow_succ, Nat.mul_comm (S ^ k) S]
    omega

set_option maxRecDepth 100000 in
set_option maxHeartbeats 3200000 in
theorem shortened_any (S R m x : Nat) (T : List Int) (ta : Option Addr) (tn tc : Nat) (w : World) (hL : LineOk S R T) (hT : ArgP w T ta tn tc) (hm : S ^ m ≤ 4096) (hm2 : m ≤ 100) (hx : x ≤ 100000) :
    Calls Try.prog 39 #[.agg #[.int .i64 2, .int .i64 0, .int .i64 0, .int .i64 (S : Int), .int .i64 (R : Int), .slice ta tn tc, .string ⟨#[]⟩], .int .i64 (x : Int), .int .i64 ((S ^ m : Nat) : Int)] w fun e w' => e = .returned (.int .i64 ((shortN S T x m : Nat) : Int)) ∧ Below w.heap.size w w' := by
  obtain ⟨w1, hw1⟩ : ∃ w1, w.alloc (.cells #[.int .i64 2, .int .i64 0, .int .i64 0, .int .i64 (S : Int), .int .i64 (R : Int), .slice ta tn tc, .string ⟨#[]⟩] 28) = w1 := ⟨_, rfl⟩
  have BB := hide' (show Below w.heap.size w w1 by rw [← hw1]; exact (Below.refl _ _).alloc (Nat.le_refl _) _)
  have RX := hide' (show RB w.heap.size S R (.slice ta tn tc) w1 by rw [← hw1]; exact RB.new w S R _ _)
  have AT := hide' (hT.below BB.out)
  have s2 := hL.s2
  have s4 := hL.s4
  have TP : 0 < tn := by rw [hT.len]; exact hL.pos
  have TL := hide' hT.len
  have t4 : tn ≤ 4096 := by rw [hT.len]; exact hL.max
  have OK := hide' hL.ok
  have LTs := hide' (show ∀ k, shortN S T x k < S ^ k from shortN_lt (by omega) hL.ok x)
  have BD := hide' (show ∀ i, i ≤ m → S ^ i ≤ 4096 from fun i hi => Nat.le_trans (Nat.pow_le_pow_right (by omega) hi) hm)
  have MO := hide' (show ∀ i, i < m → S ^ i < S ^ m from fun i hi => Nat.pow_lt_pow_right (by omega) hi)
  obtain ⟨E, hE⟩ : ∃ E, S ^ m = E := ⟨_, rfl⟩
  have HE := hide' hE
  obtain ⟨ans, hans⟩ : ∃ a, shortN S T x m = a := ⟨_, rfl⟩
  have ANS := hide' hans
  rw [hE] at hm MO ⊢
  rw [hans]
  clear hL hT hE hans
  obtain ⟨x0, x1, x2, x3, x4, x5, x6⟩ := RX.out
  go_enter Try.func39, Try.ntmps39
  go_wp2
  go_loopw [7, 8] (fun bv dv wr => ∃ k b p : Nat, bv = .int .i64 (b : Int) ∧ dv = .int .i64 (p : Int) ∧ k ≤ m ∧ p ≤ 4096 ∧ b < p ∧ Hid (b = shortN S T x k ∧ p = S ^ k ∧ Below w1.heap.size w1 wr)) (fun _ dv _ => E - (intOf dv).toNat)
  case atStart => exact ⟨0, 0, 1, rfl, rfl, by omega, by omega, by omega, hide' ⟨rfl, by simp, Below.refl _ _⟩⟩
  case round =>
    obtain ⟨k, b, p, rfl, rfl, hk, hp, hb, H1⟩ := hrel
    have pp : 0 < p := by omega
    clear x0 x1 x2 x3 x4 x5 x6
    obtain ⟨x0, x1, x2, x3, x4, x5, x6⟩ := RX.out.next H1.out.2.2
    by_cases d : (p : Int) < (E : Int)
    · have km : k < m := by
        rcases Nat.lt_or_ge k m with q | q
        · exact q
        · exfalso
          have : k = m := by omega
          have h2 := H1.out.2.1
          rw [this, HE.out] at h2
          omega
      obtain ⟨j, hj⟩ : ∃ j, x / p % tn = j := ⟨_, rfl⟩
      have jt : j < tn := by rw [← hj]; exact Nat.mod_lt _ TP
      obtain ⟨xp, hxp⟩ : ∃ y, x / p = y := ⟨_, rfl⟩
      have e1 : (x : Int).tdiv (p : Int) = (xp : Int) := by rw [Int.tdiv_eq_ediv_of_nonneg (by omega), ← hxp]; simp
      have xpl : xp ≤ 100000 := by rw [← hxp]; exact Nat.le_trans (Nat.div_le_self _ _) hx
      rw [hxp] at hj
      have e2 : (xp : Int).tmod (tn : Int) = (j : Int) := by rw [Int.tmod_eq_emod_of_nonneg (by omega), ← hj]; simp
      have n1 : ¬ (p : Int) = 0 := by omega
      have n2 : ¬ (tn : Int) = 0 := by omega
      obtain ⟨g, off, rfl, hc⟩ := (AT.out.below H1.out.2.2).at (k := j) jt
      obtain ⟨t, ht⟩ : ∃ t : Nat, T.getD j 0 = (t : Int) := ⟨(T.getD j 0).toNat, by have := cellsOk_at OK.out (k := j) (by rw [← TL.out]; exact jt); omega⟩
      have t4' : t < S := by have := cellsOk_at OK.out (k := j) (by rw [← TL.out]; exact jt); omega
      rw [ht] at hc
      obtain ⟨tp, htp⟩ : ∃ y, t * p = y := ⟨_, rfl⟩
      have e3 : (t : Int) * (p : Int) = (tp : Int) := by rw [← htp]; simp
      obtain ⟨p', hp'⟩ : ∃ y, p * S = y := ⟨_, rfl⟩
      have e4 : (p : Int) * (S : Int) = (p' : Int) := by rw [← hp']; simp
      have HP' := hide' (show p' = S ^ (k + 1) by rw [Nat.pow_succ, ← H1.out.2.1]; exact hp'.symm)
      have p4 : p' ≤ 4096 := by rw [HP'.out]; exact BD.out (k + 1) (by omega)
      have NX := hide' (show b + tp = shortN S T x (k + 1) by
        rw [shortN, ← H1.out.1, ← H1.out.2.1, ← TL.out, hxp, hj, ht, ← htp]
        simp)
      have bp' : b + tp < p' := by rw [NX.out, HP'.out]; exact LTs.out (k + 1)
      have pgt : p < p' := by rw [← hp']; have := Nat.mul_le_mul_left p s2; omega
      have BW := hide' H1.out.2.2
      clear hj hxp ht htp hp' H1
      go_wp2
      go_region
      go_wp2
      exact ⟨⟨k + 1, b + tp, p', by go_num, rfl, by omega, by omega, by omega, hide' ⟨NX.out, HP'.out, BW.out.drew⟩⟩, by simp [intOf]; omega⟩
    · have KM := hide' (show k = m by
        rcases Nat.lt_or_ge k m with q | q
        · have := MO.out k q
          rw [← H1.out.2.1] at this
          omega
        · omega)
      have Q := hide' (show b = ans by rw [H1.out.1, KM.out]; exact ANS.out)
      go_wp2
      go_ret
      exact ⟨by rw [← Q.out]; rfl, BB.out.trans (H1.out.2.2.mono BB.out.size)⟩
end Go.Proofs.Ytdhbdkkchobinaa

namespace Go.Proofs.Ytdhbdkkchobinaa
open Go.RowKit
set_option linter.unusedVariables false

/-- The table that undoes, behind x words; none where one does not know. -/
def undoL (S : Nat) (T : List Int) (m mid : Nat) : Nat → Option (List Int)
  | 0 => some (List.replicate (S ^ m) (-1))
  | x + 1 => match undoL S T m mid x with
    | none => none
    | some t => if t.getD (shortN S T x m) 0 ≠ -1 ∧ t.getD (shortN S T x m) 0 ≠ ((x / mid % S : Nat) : Int) then none else some (t.set (shortN S T x m) ((x / mid % S : Nat) : Int))
theorem undoL_none {S : Nat} {T : List Int} {m mid x : Nat} (h : undoL S T m mid x = none) : ∀ d, undoL S T m mid (x + d) = none
  | 0 => h
  | d + 1 => by rw [← Nat.add_assoc, undoL, undoL_none h d]
theorem undoL_length {S : Nat} {T : List Int} {m mid : Nat} : ∀ (x : Nat) (t : List Int), undoL S T m mid x = some t → t.length = S ^ m
  | 0, t, h => by rw [undoL] at h; injection h with h; rw [← h]; simp
  | x + 1, t, h => by
    rw [undoL] at h
    cases hu : undoL S T m mid x with
    | none => rw [hu] at h; cases h
    | some t' =>
      have ih := undoL_length x t' hu
      rw [hu] at h
      simp only at h
      split at h
      · cases h
      · injection h with h
        rw [← h, List.length_set]; exact ih
def UndoPost (u : Option (List Int)) (E : Nat) (w : World) (e : Ending) (w' : World) : Prop :=
  ((u = none ∧ e = .returned (.slice none 0 0)) ∨ ∃ t g, u = some t ∧ e = .returned (.slice (some ⟨g, 0, none⟩) E E) ∧ Cel w' g t ∧ w.heap.size ≤ g) ∧ Below w.heap.size w w'

set_option maxRecDepth 100000 in
set_option maxHeartbeats 6400000 in
theorem undoing_any (S R n q : Nat) (T : List Int) (ta : Option Addr) (tn tc : Nat) (w : World) (hL : LineOk S R T) (hT : ArgP w T ta tn tc) (hn : tn / S = n) (hn0 : 0 < n) (hn16 : n ≤ 16) (hE : S ^ (2 * q + 1) ≤ 4096) (hq : q ≤ 40) :
    Calls Try.prog 25 #[.agg #[.int .i64 2, .int .i64 0, .int .i64 0, .int .i64 (S : Int), .int .i64 (R : Int), .slice ta tn tc, .string ⟨#[]⟩], .int .i64 (q : Int), .int .i64 ((S ^ (2 * q + 1) : Nat) : Int)] w (UndoPost (undoL S T (2 * q + 1) (S ^ (q + R)) (S ^ (2 * q + 1) * n)) (S ^ (2 * q + 1)) w) := by
  obtain ⟨w1, hw1⟩ : ∃ w1, w.alloc (.cells #[.int .i64 2, .int .i64 0, .int .i64 0, .int .i64 (S : Int), .int .i64 (R : Int), .slice ta tn tc, .string ⟨#[]⟩] 28) = w1 := ⟨_, rfl⟩
  have BB := hide' (show Below w.heap.size w w1 by rw [← hw1]; exact (Below.refl _ _).alloc (Nat.le_refl _) _)
  have RX := hide' (show RB w.heap.size S R (.slice ta tn tc) w1 by rw [← hw1]; exact RB.new w S R _ _)
  have AT := hide' hT
  have HL := hide' hL
  have s2 := hL.s2
  have s4 := hL.s4
  have r10 := hL.r10
  have t4 : tn ≤ 4096 := by rw [hT.len]; exact hL.max
  have MB : S ^ (q + R) ≤ 1000000 := by
    have h1 : S ^ (q + R) * S ^ (q + R) ≤ 65536 * S := by
      rw [← Nat.pow_add]
      have h2 : S ^ (2 * R) = n := by rw [← hn]; exact (places_of hL hT.len).symm
      have e : S ^ (q + R + (q + R)) * S = S ^ (2 * q + 1) * S ^ (2 * R) := by rw [← Nat.pow_succ, ← Nat.pow_add]; congr 1; omega
      rw [h2] at e
      have h3 : S ^ (2 * q + 1) * n ≤ 4096 * 16 := Nat.mul_le_mul hE hn16
      have h4 : S ^ (q + R + (q + R)) ≤ S ^ (q + R + (q + R)) * S := Nat.le_mul_of_pos_right _ (by omega)
      omega
    rcases Nat.lt_or_ge 1000000 (S ^ (q + R)) with c | c
    · have := Nat.mul_le_mul (Nat.le_of_lt c) (Nat.le_of_lt c)
      omega
    · exact c
  have MP : 0 < S ^ (q + R) := Nat.pow_pos (by omega)
  have PW := hide' (fun (wr : World) => ontoPower_any S (q + R) wr s2 s4 MB (by omega))
  have PL := hide' (fun (wr : World) => placesOf_any S R ta tn tc n wr s2 s4 hn t4)
  have SH := hide' (fun (x : Nat) (wr : World) (h : ArgP wr T ta tn tc) (hx : x ≤ 100000) => shortened_any S R (2 * q + 1) x T ta tn tc wr hL h hE (by omega) hx)
  have SL := hide' (show ∀ x, shortN S T x (2 * q + 1) < S ^ (2 * q + 1) from fun x => shortN_lt (by omega) hL.ok x _)
  have UL := hide' (show ∀ x t, undoL S T (2 * q + 1) (S ^ (q + R)) x = some t → t.length = S ^ (2 * q + 1) from fun x t h => undoL_length x t h)
  have UN := hide' (show ∀ x d, undoL S T (2 * q + 1) (S ^ (q + R)) x = none → undoL S T (2 * q + 1) (S ^ (q + R)) (x + d) = none from fun x d h => undoL_none h d)
  have U0 := hide' (show undoL S T (2 * q + 1) (S ^ (q + R)) 0 = some (List.replicate (S ^ (2 * q + 1)) (-1)) from rfl)
  have US := hide' (show ∀ x t, undoL S T (2 * q + 1) (S ^ (q + R)) x = some t → undoL S T (2 * q + 1) (S ^ (q + R)) (x + 1) = if t.getD (shortN S T x (2 * q + 1)) 0 ≠ -1 ∧ t.getD (shortN S T x (2 * q + 1)) 0 ≠ ((x / S ^ (q + R) % S : Nat) : Int) then none else some (t.set (shortN S T x (2 * q + 1)) ((x / S ^ (q + R) % S : Nat) : Int)) from fun x t h => by rw [undoL, h])
  generalize undoL S T (2 * q + 1) (S ^ (q + R)) = U at UL UN U0 US ⊢
  obtain ⟨sh, hsh⟩ : ∃ sh : Nat → Nat, ∀ x, shortN S T x (2 * q + 1) = sh x := ⟨fun x => shortN S T x (2 * q + 1), fun _ => rfl⟩
  simp only [hsh] at SH SL US
  clear hsh
  obtain ⟨E, hEE⟩ : ∃ E, S ^ (2 * q + 1) = E := ⟨_, rfl⟩
  obtain ⟨M, hMM⟩ : ∃ M, S ^ (q + R) = M := ⟨_, rfl⟩
  rw [hEE] at hE SH SL UL U0 ⊢
  rw [hMM] at MB MP PW US
  obtain ⟨N, hN⟩ : ∃ N, E * n = N := ⟨_, rfl⟩
  have N6 : N ≤ 65536 := by rw [← hN]; exact Nat.mul_le_mul hE hn16
  have qN : (E : Int) * (n : Int) = (N : Int) := by rw [← hN]; simp
  rw [hN]
  have hmk := run_make_row' (P := Try.prog) 26 3 (.int .i64 0) 8 Try.underlying26 info_int rfl .i64 .i64 E (by omega) (by omega)
  have P0 := hide' (show QS w (w1.alloc (.cells (madeCells #[.int .i64 0] E) 3)) S R (.slice ta tn tc) w1.heap.size (List.replicate E 0) from ⟨RX.out.alloc _, BB.out.alloc BB.out.size _, Cel.made w1 E _, Nat.lt_of_lt_of_le RX.out.lt (Nat.le_refl _)⟩)
  obtain ⟨g, hg⟩ : ∃ g, w1.heap.size = g := ⟨_, rfl⟩
  rw [hg] at P0
  clear hEE hMM hN hL hT hn
  obtain ⟨x0, x1, x2, x3, x4, x5, x6⟩ := RX.out
  go_enter Try.func25, Try.ntmps25
  go_wp2
  try rw [hg]
  clear x0 x1 x2 x3 x4 x5 x6 hw1
  go_loopw [17] (fun iv wr => ∃ i : Nat, iv = .int .i64 (i : Int) ∧ i ≤ E ∧ Hid (QS w wr S R (.slice ta tn tc) g (mixL (List.replicate E (-1)) (List.replicate E 0) i))) (fun iv _ => E - (intOf iv).toNat)
  case atStart => exact ⟨0, rfl, by omega, hide' (by rw [mixL_zero]; exact P0.out)⟩
  case round =>
    clear P0 hg
    obtain ⟨i, rfl, hi, HH⟩ := hrel
    by_cases d : (i : Int) < (E : Int)
    · have HC := HH.out.cl.cells i (by rw [mixL_length]; simp; omega)
      have HF := HH.out.cl.fz i
      go_wp2
      refine ⟨⟨i + 1, by go_num, by omega, hide' ?_⟩, by simp [intOf]; omega⟩
      have := HH.out.set i (-1) (by rw [mixL_length]; simp; omega)
      rw [mixL_set _ _ _ (show (List.replicate E (-1 : Int)).getD i 0 = -1 by simp [List.getD, show i < E by omega])] at this
      exact this
    · have P1 := hide' (show QS w wr S R (.slice ta tn tc) g (List.replicate E (-1)) by
        have := HH.out
        rw [show i = (List.replicate E (0 : Int)).length by simp; omega, mixL_full _ _ (by simp)] at this
        exact this)
      clear HH
      obtain ⟨x0, x1, x2, x3, x4, x5, x6⟩ := P1.out.rb
      go_wp2_with fail
      refine (PW.out _).mono ?_
      rintro e w4 ⟨rfl, rfl⟩
      go_wp2_with fail
      refine (PL.out _).mono ?_
      rintro e w5 ⟨rfl, b5⟩
      have P2 := hide' (P1.out.below b5)
      clear x0 x1 x2 x3 x4 x5 x6 b5 P1
      go_wp2
      go_loopw [35] (fun iv wr => ∃ (x : Nat) (t : List Int), iv = .int .i64 (x : Int) ∧ x ≤ N ∧ Hid (U x = some t ∧ QS w wr S R (.slice ta tn tc) g t)) (fun iv _ => N - (intOf iv).toNat)
      case atStart => exact ⟨0, _, rfl, by omega, hide' ⟨U0.out, P2.out⟩⟩
      case round =>
        clear P2
        obtain ⟨x, t, rfl, hx, H1⟩ := hrel
        by_cases d : (x : Int) < (N : Int)
        · obtain ⟨x0, x1, x2, x3, x4, x5, x6⟩ := H1.out.2.rb
          obtain ⟨b, hb⟩ : ∃ b, sh x = b := ⟨_, rfl⟩
          have bE : b < E := by rw [← hb]; exact SL.out x
          obtain ⟨y, hy⟩ : ∃ y, x / M = y := ⟨_, rfl⟩
          obtain ⟨z, hz⟩ : ∃ z, y % S = z := ⟨_, rfl⟩
          have e1 : (x : Int).tdiv (M : Int) = (y : Int) := by rw [Int.tdiv_eq_ediv_of_nonneg (by omega), ← hy]; simp
          have yl : y ≤ 65536 := by rw [← hy]; exact Nat.le_trans (Nat.div_le_self _ _) (by omega)
          have e2 : (y : Int).tmod (S : Int) = (z : Int) := by rw [Int.tmod_eq_emod_of_nonneg (by omega), ← hz]; simp
          have n1 : ¬ (M : Int) = 0 := by omega
          have n2 : ¬ (S : Int) = 0 := by omega
          have zS : z < S := by rw [← hz]; exact Nat.mod_lt _ (by omega)
          have US1 := hide' (US.out x t H1.out.1)
          rw [hb, hy, hz] at US1
          have SX := hide' (SH.out x wr (AT.out.below H1.out.2.bl) (by omega))
          rw [hb] at SX
          clear hb hy hz
          go_wp2_with fail
          refine SX.out.mono ?_
          rintro e w6 ⟨rfl, b6⟩
          have H2 := hide' (show QS w w6 S R (.slice ta tn tc) g t from H1.out.2.below b6)
          have TL := hide' (UL.out x t H1.out.1)
          clear x0 x1 x2 x3 x4 x5 x6 b6 SX H1
          obtain ⟨x0, x1, x2, x3, x4, x5, x6⟩ := H2.out.rb
          obtain ⟨v, hv⟩ : ∃ v, t.getD b 0 = v := ⟨_, rfl⟩
          have cv := H2.out.cl.cells b (by rw [TL.out]; exact bE)
          have cf := H2.out.cl.fz b
          rw [hv] at cv US1
          clear hv
          by_cases dv : v = -1
          · have NX := hide' (show U (x + 1) = some (t.set b (z : Int)) by rw [US1.out, if_neg (fun q => q.1 dv)])
            have ev : (v != -1) = false := by simp [dv]
            have eq1 : (v == -1) = true := by simp [dv]
            clear dv US1
            go_wp2
            go_region
            go_wp2
            exact ⟨⟨x + 1, t.set b (z : Int), by go_num, by omega, hide' ⟨NX.out, H2.out.drew.set b _ (by rw [TL.out]; exact bE)⟩⟩, by simp [intOf]; omega⟩
          · by_cases dz : v = (z : Int)
            · have NX := hide' (show U (x + 1) = some (t.set b (z : Int)) by rw [US1.out, if_neg (fun q => q.2 dz)])
              have ev : (v != -1) = true := by simp [dv]
              have ez : (v != (z : Int)) = false := by simp [dz]
              clear dv dz US1
              go_wp2
              go_region
              go_wp2
              exact ⟨⟨x + 1, t.set b (z : Int), by go_num, by omega, hide' ⟨NX.out, H2.out.drew.set b _ (by rw [TL.out]; exact bE)⟩⟩, by simp [intOf]; omega⟩
            · have NX := hide' (show U (x + 1) = none by rw [US1.out, if_pos ⟨dv, dz⟩])
              have FI := hide' (show U N = none by have := UN.out (x + 1) (N - (x + 1)) NX.out; rw [show x + 1 + (N - (x + 1)) = N by omega] at this; exact this)
              have ev : (v != -1) = true := by simp [dv]
              have ez : (v != (z : Int)) = true := by simp [dz]
              clear dv dz US1
              go_wp2
              go_region
              go_wp2
              go_ret
              exact ⟨Or.inl ⟨FI.out, rfl⟩, H2.out.bl.drew⟩
        · have E1 := hide' (show U N = some t by rw [show N = x by omega]; exact H1.out.1)
          have H2 := hide' H1.out.2
          clear H1
          go_wp2
          go_ret
          exact ⟨Or.inr ⟨t, g, E1.out, rfl, H2.out.cl, Nat.le_of_lt H2.out.lt⟩, H2.out.bl⟩
end Go.Proofs.Ytdhbdkkchobinaa

