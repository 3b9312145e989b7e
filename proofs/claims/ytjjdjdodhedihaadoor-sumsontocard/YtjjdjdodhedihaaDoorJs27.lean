/-
  What the last text of this claim leans on, part 27: Sf2, Sf3, Sf4, Sf5, Sd2, Sf6, Gd4, Ge1.
-/
import Derived.Test.YtjjdjdodhedihaaDoorJs26
import Derived.Test.YtjjdjdodhedihaaDoorJs18
import Derived.Test.YtjjdjdodhedihaaDoorJs7
import Derived.Test.YtjjdjdodhedihaaDoorJs21
import Derived.Test.YtjjdjdodhedihaaDoorJs25
import Derived.Test.YtjjdjdodhedihaaDoorJs17
import Derived.Test.YtjjdjdodhedihaaDoorJs19
import Derived.Laws.IdiomCopy
import Derived.Laws.AppendOwnNone
namespace Go.Proofs.YtjjdjdodhedihaaDoor
open Go.RowKit
set_option linter.unusedVariables false

end Go.Proofs.YtjjdjdodhedihaaDoor

namespace Go.Proofs.YtjjdjdodhedihaaDoor
open Go.RowKit
set_option linter.unusedVariables false

/-- All but two blocks lie as they lay. -/
structure K2 (gs gr : Nat) (W W' : World) : Prop where
  os : W'.os = W.os
  tape : W'.tape = W.tape
  output : W'.output = W.output
  size : W.heap.size ≤ W'.heap.size
  block : ∀ k, k < W.heap.size → k ≠ gs → k ≠ gr → W'.heap[k]? = W.heap[k]?
theorem K2.refl (gs gr : Nat) (W : World) : K2 gs gr W W := ⟨rfl, rfl, rfl, Nat.le_refl _, fun _ _ _ _ => rfl⟩
end Go.Proofs.YtjjdjdodhedihaaDoor

namespace Go.Proofs.YtjjdjdodhedihaaDoor
open Go.RowKit
set_option linter.unusedVariables false

end Go.Proofs.YtjjdjdodhedihaaDoor

namespace Go.Proofs.YtjjdjdodhedihaaDoor
open Go.RowKit
set_option linter.unusedVariables false

theorem K2.trans {gs gr : Nat} {A B C : World} (h : K2 gs gr A B) (k : K2 gs gr B C) : K2 gs gr A C :=
  ⟨k.os.trans h.os, k.tape.trans h.tape, k.output.trans h.output, Nat.le_trans h.size k.size, fun i hi h1 h2 => (k.block i (Nat.lt_of_lt_of_le hi h.size) h1 h2).trans (h.block i hi h1 h2)⟩
theorem K2.below {gs gr B : Nat} {w w' : World} (h : K2 gs gr w w') (ha : B ≤ gs) (hb : B ≤ gr) (hs : B ≤ w.heap.size) : Below B w w' :=
  Rd2.below ⟨h.os, h.tape, h.output, h.size, h.block⟩ ha hb hs

end Go.Proofs.YtjjdjdodhedihaaDoor

namespace Go.Proofs.YtjjdjdodhedihaaDoor
open Go.RowKit
set_option linter.unusedVariables false

theorem argP_nil' (w : World) : ArgP w [] none 0 0 := ⟨rfl, by simp, fun k hk => by simp at hk⟩

set_option maxRecDepth 100000 in
set_option maxHeartbeats 6400000 in
theorem linear_off (o : Out) (ta : Option Addr) (tn tc : Nat) (w : World) (hR : ArgR w o ta tn tc) (h : ¬ (Good o ∧ o.kind = 2)) :
    Calls Tryd.prog 17 #[.agg #[.int .i64 o.kind, .int .i64 o.born, .int .i64 o.stay, .int .i64 o.states, .int .i64 o.radius, .slice ta tn tc, .string o.turns]] w (ListErr 1 w) := by
  obtain ⟨w1, hw1⟩ : ∃ w1, w.alloc (.cells #[.int .i64 o.kind, .int .i64 o.born, .int .i64 o.stay, .int .i64 o.states, .int .i64 o.radius, .slice ta tn tc, .string o.turns] 24) = w1 := ⟨_, rfl⟩
  have BB := hide' (show Below w.heap.size w w1 by rw [← hw1]; exact (Below.refl _ _).alloc (Nat.le_refl _) _)
  have RX := hide' (show RBo w.heap.size o (.slice ta tn tc) w1 by rw [← hw1]; exact RBo.new w o _ _)
  have AT := hide' (show ArgR w1 o ta tn tc by rw [← hw1]; exact hR.alloc _)
  have HH := hide' h
  clear hR h
  obtain ⟨x0, x1, x2, x3, x4, x5, x6⟩ := RX.out
  go_enter Tryd.func17, Tryd.ntmps17
  go_wp2_with fail
  refine (lineCheck_off o ta tn tc (.slice none 0 0) _ AT.out HH.out).mono ?_
  rintro e w2 ⟨rfl, b⟩
  clear hw1 x0 x1 x2 x3 x4 x5 x6
  go_wp2
  go_ret2
  exact ⟨rfl, BB.out.trans (b.mono BB.out.size)⟩
/-- What Linear answers at a rule of a line. -/
def LinPost (S R : Nat) (T : List Int) (w : World) (e : Ending) (w' : World) : Prop :=
  ((LinP S R T ∧ ∃ g, e = .returned (.tuple #[.slice (some ⟨g, 0, none⟩) (2 * R + 1) (2 * R + 1), .nilIface]) ∧ Cel w' g (numL S R T) ∧ w.heap.size ≤ g) ∨ (¬ LinP S R T ∧ e = .returned (.tuple #[.slice none 0 0, .iface 85 (.int .i64 5)]))) ∧ Below w.heap.size w w'

set_option maxRecDepth 100000 in
set_option maxHeartbeats 6400000 in
theorem linear_line (S R : Nat) (T : List Int) (ta : Option Addr) (tn tc : Nat) (w : World) (hL : LineOk S R T) (hT : ArgP w T ta tn tc) :
    Calls Tryd.prog 17 #[.agg #[.int .i64 2, .int .i64 0, .int .i64 0, .int .i64 (S : Int), .int .i64 (R : Int), .slice ta tn tc, .string ⟨#[]⟩]] w (LinPost S R T w) := by
  obtain ⟨w1, hw1⟩ : ∃ w1, w.alloc (.cells #[.int .i64 2, .int .i64 0, .int .i64 0, .int .i64 (S : Int), .int .i64 (R : Int), .slice ta tn tc, .string ⟨#[]⟩] 24) = w1 := ⟨_, rfl⟩
  have BB := hide' (show Below w.heap.size w w1 by rw [← hw1]; exact (Below.refl _ _).alloc (Nat.le_refl _) _)
  have RX := hide' (show RB w.heap.size S R (.slice ta tn tc) w1 by rw [← hw1]; exact RB.new w S R _ _)
  have AT := hide' (hT.below BB.out)
  have HL := hide' hL
  have r10 := hL.r10
  obtain ⟨m, hm⟩ : ∃ m, 2 * R + 1 = m := ⟨_, rfl⟩
  have HM := hide' hm
  have W0 := hide' (show errOf (wordE S []) = .nilIface by rw [wordE_ok (by simp) (fun x hx => by simp at hx)]; rfl)
  have NUM := hide' (fun (W : World) (h : ArgP W T ta tn tc) => numbersOf_any S R T ta tn tc W hL h)
  have ISS := hide' (fun (W : World) (g : Nat) (h : ArgP W T ta tn tc) (h2 : ArgP W (numL S R T) (some ⟨g, 0, none⟩) m m) => isSum_any S R T (numL S R T) ta tn tc (some ⟨g, 0, none⟩) m m W hL h h2 hm.symm (numL_ok hL))
  have LEN := hide' (numL_length S R T)
  have LP := hide' (show (∀ x, x < T.length → sumF (addF S m (numL S R T) x) m % S = T.getD x 0) ↔ LinP S R T by rw [← hm]; exact Iff.rfl)
  obtain ⟨PP, hPP⟩ : ∃ PP, LinPost S R T w = PP := ⟨_, rfl⟩
  have HPP := hide' hPP
  rw [hPP]
  rw [hm] at NUM LEN
  clear hT hL hPP hm
  obtain ⟨x0, x1, x2, x3, x4, x5, x6⟩ := RX.out
  go_enter Tryd.func17, Tryd.ntmps17
  go_wp2_with fail
  refine (lineCheck_line S R T ta tn tc [] none 0 0 _ HL.out AT.out (argP_nil' _)).mono ?_
  rw [W0.out]
  rintro e w2 ⟨rfl, b⟩
  have C1 := hide' b
  clear hw1 x0 x1 x2 x3 x4 x5 x6 b
  obtain ⟨x0, x1, x2, x3, x4, x5, x6⟩ := RX.out.next C1.out
  go_wp2_with fail
  refine (NUM.out _ (AT.out.below C1.out)).mono ?_
  rintro e w3 ⟨g, rfl, cl, hg, b⟩
  have C2 := hide' (C1.out.trans (b.mono C1.out.size))
  have CL := hide' cl
  have GL := hide' (show w.heap.size ≤ g by have := BB.out.size; have := C1.out.size; omega)
  clear b x0 x1 x2 x3 x4 x5 x6 C1 cl hg
  obtain ⟨x0, x1, x2, x3, x4, x5, x6⟩ := RX.out.next C2.out
  go_wp2_with fail
  refine (ISS.out _ g (AT.out.below C2.out) (CL.out.argP LEN.out (by unfold maxLen; have := HM.out; omega))).mono ?_
  unfold SumPost
  rintro e w4 ⟨⟨β, rfl, hβ⟩, b⟩
  have C3 := hide' (C2.out.trans (b.mono C2.out.size))
  have CL4 := hide' (CL.out.below b)
  rw [LP.out] at hβ
  clear b x0 x1 x2 x3 x4 x5 x6 C2
  cases β
  · have NL := hide' (show ¬ LinP S R T from fun h => by have := hβ.2 h; cases this)
    clear hβ
    go_wp2
    rw [← HPP.out]
    exact ⟨Or.inr ⟨NL.out, rfl⟩, BB.out.trans (C3.out.mono BB.out.size)⟩
  · have YL := hide' (hβ.1 rfl)
    clear hβ
    go_wp2
    rw [← HPP.out]
    exact ⟨Or.inl ⟨YL.out, g, by rw [HM.out]; rfl, CL4.out, GL.out⟩, BB.out.trans (C3.out.mono BB.out.size)⟩
end Go.Proofs.YtjjdjdodhedihaaDoor

namespace Go.Proofs.YtjjdjdodhedihaaDoor
open Go.RowKit
set_option linter.unusedVariables false

end Go.Proofs.YtjjdjdodhedihaaDoor

namespace Go.Proofs.YtjjdjdodhedihaaDoor
open Go.RowKit
set_option linter.unusedVariables false

theorem tabOk {S R n : Nat} {T : List Int} (hL : LineOk S R T) (hn : S ^ (2 * R) = n) : ∀ j, j < n * S → 0 ≤ T.getD j 0 ∧ T.getD j 0 < (S : Int) := fun j hj =>
  cellsOk_at hL.ok (by rw [hL.len, Nat.pow_succ, hn]; exact hj)
theorem garden_orphan {S R n : Nat} {T wd : List Int} (hL : LineOk S R T) (hn : S ^ (2 * R) = n) (h : OrphanIs (follN S n T) S (2 ^ n - 1) (some wd)) : ¬ NoTwin S n T := fun hno => by
  have s2 := hL.s2
  have n0 : 0 < n := by rw [← hn]; exact Nat.pow_pos (by omega)
  obtain ⟨h1, h2⟩ := orphan_some (by omega) h
  have := no_twin_onto (by omega) n0 (tabOk hL hn) hno wd h1
  omega
theorem gfact_line : LineOk 2 0 [0, 1] := ⟨by omega, by omega, by omega, by simp, by simp, fun x hx => by simp at hx; omega⟩
end Go.Proofs.YtjjdjdodhedihaaDoor

namespace Go.Proofs.YtjjdjdodhedihaaDoor
set_option linter.unusedVariables false

/-- The prime of the states. -/
def PrmS (S p : Nat) : Prop := (S = 2 ∧ p = 2) ∨ (S = 3 ∧ p = 3) ∨ (S = 4 ∧ p = 2)
theorem prime23 {p : Nat} (h : p = 2 ∨ p = 3) {a b : Int} (hd : (p : Int) ∣ a * b) (ha : ¬ (p : Int) ∣ a) : (p : Int) ∣ b := by
  have h1 := Int.emod_eq_zero_of_dvd hd
  rw [Int.mul_emod] at h1
  apply Int.dvd_of_emod_eq_zero
  have h2 : a % (p : Int) ≠ 0 := fun e => ha (Int.dvd_of_emod_eq_zero e)
  rcases h with rfl | rfl
  · have q1 : a % ((2 : Nat) : Int) = 1 := by omega
    rw [q1] at h1
    omega
  · have q1 : a % ((3 : Nat) : Int) = 1 ∨ a % ((3 : Nat) : Int) = 2 := by omega
    rcases q1 with q | q <;> rw [q] at h1 <;> omega
theorem square23 {p : Nat} (h : p = 2 ∨ p = 3) {a : Int} (ha : ¬ (p : Int) ∣ a) : (p : Int) ∣ a * a - 1 := by
  apply Int.dvd_of_emod_eq_zero
  have h2 : a % (p : Int) ≠ 0 := fun e => ha (Int.dvd_of_emod_eq_zero e)
  rw [Int.sub_emod, Int.mul_emod]
  rcases h with rfl | rfl
  · have q1 : a % ((2 : Nat) : Int) = 1 := by omega
    rw [q1]; decide
  · have q1 : a % ((3 : Nat) : Int) = 1 ∨ a % ((3 : Nat) : Int) = 2 := by omega
    rcases q1 with q | q <;> rw [q] <;> decide
/-- All but one divided: so is that one. -/
theorem sumF_dvd {p : Int} {f : Nat → Int} : ∀ m, (∀ i, i < m → p ∣ f i) → p ∣ sumF f m
  | 0, _ => ⟨0, by rw [sumF]; omega⟩
  | m + 1, h => by rw [sumF]; exact Int.dvd_add (sumF_dvd m (fun i hi => h i (by omega))) (h m (by omega))
theorem sumF_one {p : Int} {f : Nat → Int} {k : Nat} : ∀ m, k < m → (∀ i, i < m → i ≠ k → p ∣ f i) → p ∣ sumF f m → p ∣ f k
  | 0, h, _, _ => by omega
  | m + 1, hk, h, hs => by
    rw [sumF] at hs
    rcases Nat.lt_or_ge k m with c | c
    · refine sumF_one m c (fun i hi hn => h i (by omega) hn) ?_
      exact (Int.dvd_iff_dvd_of_dvd_add hs).2 (h m (by omega) (by omega))
    · obtain rfl : k = m := by omega
      exact (Int.dvd_iff_dvd_of_dvd_add hs).1 (sumF_dvd k (fun i hi => h i (by omega) (by omega)))
/-- How many of the numbers a prime does not divide. -/
def cntP (p : Nat) (c : Nat → Int) : Nat → Nat
  | 0 => 0
  | m + 1 => cntP p c m + if c m % (p : Int) = 0 then 0 else 1
theorem cntP_zero {p : Nat} {c : Nat → Int} : ∀ m, cntP p c m = 0 → ∀ i, i < m → (p : Int) ∣ c i
  | 0, _, i, hi => by omega
  | m + 1, h, i, hi => by
    rw [cntP] at h
    by_cases q : c m % (p : Int) = 0
    · rw [if_pos q] at h
      rcases Nat.lt_or_ge i m with e | e
      · exact cntP_zero m (by omega) i e
      · obtain rfl : i = m := by omega
        exact Int.dvd_of_emod_eq_zero q
    · rw [if_neg q] at h; omega
theorem cntP_last {p : Nat} {c : Nat → Int} : ∀ m, 0 < cntP p c m → ∃ i, i < m ∧ ¬ (p : Int) ∣ c i ∧ (∀ k, i < k → k < m → (p : Int) ∣ c k) ∧ cntP p c m = cntP p c i + 1
  | 0, h => by simp [cntP] at h
  | m + 1, h => by
    rw [cntP] at h ⊢
    by_cases q : c m % (p : Int) = 0
    · rw [if_pos q] at h ⊢
      obtain ⟨i, h1, h2, h3, h4⟩ := cntP_last m (by omega)
      refine ⟨i, by omega, h2, fun k hk hm => ?_, by omega⟩
      rcases Nat.lt_or_ge k m with e | e
      · exact h3 k hk e
      · obtain rfl : k = m := by omega
        exact Int.dvd_of_emod_eq_zero q
    · rw [if_neg q]
      exact ⟨m, by omega, fun e => q (Int.emod_eq_zero_of_dvd e), fun k h1 h2 => by omega, rfl⟩
theorem cntP_first {p : Nat} {c : Nat → Int} : ∀ m, 0 < cntP p c m → ∃ i, i < m ∧ ¬ (p : Int) ∣ c i ∧ (∀ k, k < i → (p : Int) ∣ c k)
  | 0, h => by simp [cntP] at h
  | m + 1, h => by
    by_cases q : 0 < cntP p c m
    · obtain ⟨i, h1, h2, h3⟩ := cntP_first m q
      exact ⟨i, by omega, h2, h3⟩
    · have z : cntP p c m = 0 := by omega
      rw [cntP, z] at h
      by_cases q : c m % (p : Int) = 0
      · rw [if_pos q] at h; omega
      · exact ⟨m, by omega, fun e => q (Int.emod_eq_zero_of_dvd e), fun k hk => cntP_zero m z k hk⟩
/-- A sequence that begins and ends with zeros, and of which all windows sum up to nothing. -/
theorem seq_dvd {p K L i0 : Nat} {c d : Nat → Int} (hp : p = 2 ∨ p = 3) (hi : i0 ≤ K) (h1 : ¬ (p : Int) ∣ c i0) (h2 : ∀ k, i0 < k → k < K + 1 → (p : Int) ∣ c k) (hs : ∀ j, j < L → (p : Int) ∣ sumF (fun i => c i * d (j + i)) (K + 1)) (ha : ∀ j, j < K → d j = 0) (hz : ∀ j, L ≤ j → d j = 0) : ∀ j, (p : Int) ∣ d j := by
  intro j
  induction j using Nat.strongRecOn with
  | ind j ih =>
    rcases Nat.lt_or_ge j K with q | q
    · rw [ha j q]; exact Int.dvd_zero _
    · rcases Nat.lt_or_ge j L with r | r
      · have hw := hs (j - i0) (by omega)
        have := sumF_one (k := i0) (K + 1) (by omega) (fun i hi hn => by
          rcases Nat.lt_or_ge i i0 with e | e
          · exact Int.dvd_mul_of_dvd_right (ih (j - i0 + i) (by omega))
          · exact Int.dvd_mul_of_dvd_left (h2 i (by omega) hi)) hw
        have e : j - i0 + i0 = j := by omega
        rw [e] at this
        exact prime23 hp this h1
      · rw [hz j r]; exact Int.dvd_zero _
theorem sumF_mulL (x : Int) (f : Nat → Int) : ∀ m, sumF (fun i => x * f i) m = x * sumF f m
  | 0 => by simp [sumF]
  | m + 1 => by rw [sumF, sumF, sumF_mulL x f m, Int.mul_add]
/-- .. so it is nothing. -/
theorem seq_zero {S p K L : Nat} {c d : Nat → Int} (hp : PrmS S p) (hc : 0 < cntP p c (K + 1)) (hs : ∀ j, j < L → (S : Int) ∣ sumF (fun i => c i * d (j + i)) (K + 1)) (ha : ∀ j, j < K → d j = 0) (hz : ∀ j, L ≤ j → d j = 0) (hb : ∀ j, -(S : Int) < d j ∧ d j < S) : ∀ j, d j = 0 := by
  obtain ⟨i0, hi, h1, h2, _⟩ := cntP_last (K + 1) hc
  have small : ∀ {x : Int}, (S : Int) ∣ x → -(S : Int) < x → x < S → x = 0 := fun {x} hd a b => by
    obtain ⟨z, rfl⟩ := hd
    rcases hp with ⟨rfl, _⟩ | ⟨rfl, _⟩ | ⟨rfl, _⟩ <;> omega
  rcases hp with ⟨rfl, rfl⟩ | ⟨rfl, rfl⟩ | ⟨rfl, rfl⟩
  · exact fun j => small (seq_dvd (Or.inl rfl) (by omega) h1 h2 hs ha hz j) (hb j).1 (hb j).2
  · exact fun j => small (seq_dvd (Or.inr rfl) (by omega) h1 h2 hs ha hz j) (hb j).1 (hb j).2
  · have e1 := seq_dvd (p := 2) (Or.inl rfl) (by omega) h1 h2 (fun j hj => Int.dvd_trans ⟨2, rfl⟩ (hs j hj)) ha hz
    have e2 : ∀ j, ∃ z, d j = 2 * z := fun j => e1 j
    have ez : ∀ j, d j = 2 * (d j / 2) := fun j => by obtain ⟨z, hz⟩ := e2 j; omega
    have hs2 : ∀ j, j < L → ((2 : Nat) : Int) ∣ sumF (fun i => c i * (d (j + i) / 2)) (K + 1) := fun j hj => by
      have := hs j hj
      rw [sumF_ext (g := fun i => 2 * (c i * (d (j + i) / 2))) (K + 1) (fun i _ => by
        have := ez (j + i)
        rw [Int.mul_left_comm, ← this]), sumF_mulL] at this
      obtain ⟨z, hz⟩ := this
      exact ⟨z, by omega⟩
    have e3 := seq_dvd (p := 2) (d := fun j => d j / 2) (Or.inl rfl) (by omega) h1 h2 hs2 (fun j hj => by rw [ha j hj]; rfl) (fun j hj => by rw [hz j hj]; rfl)
    intro j
    obtain ⟨z, hz'⟩ := e3 j
    have := ez j
    have hz'' : d j / 2 = 2 * z := hz'
    exact small ⟨z, by omega⟩ (hb j).1 (hb j).2

/-- What becomes of a window of a sum. -/
theorem lin_window {S R : Nat} {T : List Int} (hL : LineOk S R T) (hlin : LinP S R T) {f : Nat → Nat} (hf : ∀ t, f t < S) (j : Nat) : T.getD (hn S f j (2 * R + 1)) 0 = sumF (fun i => (numL S R T).getD i 0 * ((f (j + i) : Nat) : Int)) (2 * R + 1) % S := by
  have s2 := hL.s2
  have hl : hn S f j (2 * R + 1) < T.length := by rw [hL.len]; exact hn_lt hf _ _
  rw [← hlin _ hl]
  congr 1
  apply sumF_ext
  intro i hi
  show (numL S R T).getD i 0 * ((hn S f j (2 * R + 1) / S ^ (2 * R + 1 - 1 - i) % S : Nat) : Int) = _
  have e : hn S f j (2 * R + 1) / S ^ (2 * R + 1 - 1 - i) = hn S f j (i + 1) := by
    have := hn_div (S := S) (f := f) (by omega) hf j (i + 1) (2 * R + 1 - 1 - i)
    rwa [show i + 1 + (2 * R + 1 - 1 - i) = 2 * R + 1 by omega] at this
  rw [e, hn, Nat.mul_comm, Nat.mul_add_mod, Nat.mod_eq_of_lt (hf _)]
/-- A sum with a number that the prime does not divide has no twins. -/
theorem sum_no_twin {S R p : Nat} {T : List Int} (hL : LineOk S R T) (hlin : LinP S R T) (hp : PrmS S p) (hc : 0 < cntP p (fun i => (numL S R T).getD i 0) (2 * R + 1)) : NoTwin S (S ^ (2 * R)) T := fun q hq cs c h1 h2 => by
  have s2 := hL.s2
  cases hw : wantTf S (S ^ (2 * R)) (endP S (S ^ (2 * R)) (q, q) cs) c with
  | false => rfl
  | true =>
    exfalso
    have hS : 0 < S := by omega
    have ho : okP S (S ^ (2 * R)) T (q, q) (cs ++ [c]) := by rw [okP_append]; exact ⟨h1, h2, trivial⟩
    obtain ⟨F, hF⟩ : ∃ F, F = cellF (winL S (2 * R) q ++ (cs ++ [c]).map fun y => (y.1 : Int)) := ⟨_, rfl⟩
    obtain ⟨G, hG⟩ : ∃ G, G = cellF (winL S (2 * R) q ++ (cs ++ [c]).map fun y => (y.2 : Int)) := ⟨_, rfl⟩
    have pc := path_cells _ _ ho
    have okF : ∀ (g : Nat × Nat → Nat), (∀ y ∈ cs ++ [c], g y < S) → cellsOk S (winL S (2 * R) q ++ (cs ++ [c]).map fun y => ((g y : Nat) : Int)) := fun g hg z hz => by
      rcases List.mem_append.1 hz with hz | hz
      · exact winL_ok hS z hz
      · obtain ⟨y, hy, rfl⟩ := List.mem_map.1 hz
        have := hg y hy
        omega
    have ltF : ∀ t, F t < S := fun t => by rw [hF]; exact cellF_lt hS (okF (fun y => y.1) (fun y hy => (pc y hy).1)) t
    have ltG : ∀ t, G t < S := fun t => by rw [hG]; exact cellF_lt hS (okF (fun y => y.2) (fun y hy => (pc y hy).2)) t
    have place : ∀ j, j ≤ (cs ++ [c]).length → endP S (S ^ (2 * R)) (q, q) ((cs ++ [c]).take j) = (hn S F j (2 * R), hn S G j (2 * R)) := fun j hj => by rw [hF, hG]; exact place_at hS hq _ ho j hj
    obtain ⟨L, hLL⟩ : ∃ L, (cs ++ [c]).length = L := ⟨_, rfl⟩
    have cl : cs.length + 1 = L := by rw [← hLL]; simp
    have cellAt : ∀ (g : Nat × Nat → Nat) j (hj : j < (cs ++ [c]).length), cellF (winL S (2 * R) q ++ (cs ++ [c]).map fun y => ((g y : Nat) : Int)) (j + 2 * R) = g (cs ++ [c])[j] := fun g j hj => by
      unfold cellF
      rw [List.getD_eq_getElem?_getD, List.getElem?_append_right (by rw [winL_length]; omega), winL_length, show j + 2 * R - 2 * R = j by omega, List.getElem?_map, List.getElem?_eq_getElem hj]
      simp
    have win : ∀ j, j < L → T.getD (hn S F j (2 * R + 1)) 0 = T.getD (hn S G j (2 * R + 1)) 0 := fun j hj => by
      have hj' : j < (cs ++ [c]).length := by omega
      have w := (path_way (cs ++ [c]) (q, q) ho j hj').2.2
      rw [place j (by omega)] at w
      have e1 := cellAt (fun y => y.1) j hj'
      have e2 := cellAt (fun y => y.2) j hj'
      rw [← hF] at e1
      rw [← hG] at e2
      rw [hn, hn, e1, e2]
      exact w
    have beg : ∀ j, j < 2 * R → F j = G j := fun j hj => by
      rw [hF, hG]
      rw [cell_app j hj, cell_app j hj]
    have endq : hn S F L (2 * R) = hn S G L (2 * R) := by
      have e := place L (by omega)
      rw [← hLL, List.take_length, endP_append] at e
      have hw' := hw
      unfold wantTf wantT at hw'
      simp only [Bool.and_eq_true, decide_eq_true_eq] at hw'
      rw [← hLL]
      have := congrArg Prod.fst e
      have e2 := congrArg Prod.snd e
      exact this.symm.trans (hw'.1.trans e2)
    have fin := hn_inj ltF ltG L (2 * R) endq
    have beyond : ∀ j, L + 2 * R ≤ j → F j = G j := fun j hj => by
      have : ∀ (g : Nat × Nat → Nat), cellF (winL S (2 * R) q ++ (cs ++ [c]).map fun y => ((g y : Nat) : Int)) j = 0 := fun g => by
        unfold cellF
        rw [List.getD_eq_getElem?_getD, List.getElem?_eq_none (by rw [List.length_append, winL_length, List.length_map, hLL]; omega)]
        rfl
      rw [hF, hG, this (fun y => y.1), this (fun y => y.2)]
    have zero := seq_zero (K := 2 * R) (L := L) (d := fun j => (F j : Int) - (G j : Int)) hp hc (fun j hj => by
      have w := win j hj
      rw [lin_window hL hlin ltF, lin_window hL hlin ltG] at w
      have := Int.dvd_of_emod_eq_zero (Int.emod_eq_emod_iff_emod_sub_eq_zero.1 w)
      rw [← sumF_sub] at this
      rw [sumF_ext (g := fun i => (numL S R T).getD i 0 * ((F (j + i) : Nat) : Int) - (numL S R T).getD i 0 * ((G (j + i) : Nat) : Int)) _ (fun i _ => Int.mul_sub _ _ _)]
      exact this) (fun j hj => by show (F j : Int) - (G j : Int) = 0; rw [beg j hj]; omega) (fun j hj => by
      show (F j : Int) - (G j : Int) = 0
      rcases Nat.lt_or_ge j (L + 2 * R) with r | r
      · have := fin (j - L) (by omega)
        rw [show L + (j - L) = j by omega] at this
        rw [this]; omega
      · rw [beyond j r]; omega) (fun j => by
      show -(S : Int) < (F j : Int) - (G j : Int) ∧ (F j : Int) - (G j : Int) < S
      have := ltF j
      have := ltG j
      omega)
    have same : F = G := funext fun j => by have := zero j; have h : (F j : Int) - (G j : Int) = 0 := this; omega
    have hj' : cs.length < (cs ++ [c]).length := by simp
    have pl := place cs.length (by omega)
    rw [List.take_left, same] at pl
    have e1 := cellAt (fun y => y.1) cs.length hj'
    have e2 := cellAt (fun y => y.2) cs.length hj'
    rw [← hF] at e1
    rw [← hG] at e2
    have ec : (cs ++ [c])[cs.length] = c := by simp
    rw [ec] at e1 e2
    rw [pl] at hw
    unfold wantTf wantT at hw
    have c12 : c.1 = c.2 := by rw [← e1, ← e2, same]
    simp [c12] at hw
end Go.Proofs.YtjjdjdodhedihaaDoor

