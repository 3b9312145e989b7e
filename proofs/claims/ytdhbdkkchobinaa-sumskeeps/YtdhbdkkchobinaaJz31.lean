/-
  What the last text of this claim leans on, part 31: Ll1.
-/
import Derived.Test.YtdhbdkkchobinaaJz14
namespace Go.Proofs.Ytdhbdkkchobinaa
open Go.RowKit
set_option linter.unusedVariables false

/-- The digits of m, L of them, the highest first. -/
def spellL (S L m : Nat) : List Int := (List.range L).map fun j => ((m / S ^ (L - 1 - j) % S : Nat) : Int)
theorem spellL_length (S L m : Nat) : (spellL S L m).length = L := by simp [spellL]
theorem spellL_at (S L m : Nat) {j : Nat} (h : j < L) : (spellL S L m).getD j 0 = ((m / S ^ (L - 1 - j) % S : Nat) : Int) := by
  simp [spellL, List.getD, h]
theorem spellL_ok (S L m : Nat) (h : 2 ≤ S) : cellsOk S (spellL S L m) := by
  intro x hx
  simp only [spellL, List.mem_map] at hx
  obtain ⟨j, -, rfl⟩ := hx
  have := Nat.mod_lt (m / S ^ (L - 1 - j)) (show 0 < S by omega)
  omega
/-- The last t cells are A's, the rest as they were. -/
def mixR (A ts : List Int) (t : Nat) : List Int := (List.range ts.length).map fun j => if ts.length ≤ j + t then A.getD j 0 else ts.getD j 0
theorem mixR_length (A ts : List Int) (t : Nat) : (mixR A ts t).length = ts.length := by simp [mixR]
theorem mixR_zero (A ts : List Int) : mixR A ts 0 = ts := by
  apply List.ext_getElem (by simp [mixR])
  intro k h1 h2
  simp [mixR, h2]
  intro h; omega
theorem mixR_full (A ts : List Int) (h : A.length = ts.length) : mixR A ts ts.length = A := by
  apply List.ext_getElem (by simp [mixR, h])
  intro k h1 h2
  simp [mixR, h2]
theorem mixR_set (A ts : List Int) (t e : Nat) (he : e + t + 1 = ts.length) {x : Int} (hx : A.getD e 0 = x) : (mixR A ts t).set e x = mixR A ts (t + 1) := by
  apply List.ext_getElem (by simp [mixR])
  intro k h1 h2
  have hk : k < ts.length := by simpa [mixR] using h2
  rw [List.getElem_set]
  by_cases q : e = k
  · subst q
    rw [if_pos rfl]
    simp only [mixR, List.getElem_map, List.getElem_range]
    rw [if_pos (by omega), hx]
  · rw [if_neg q]
    simp only [mixR, List.getElem_map, List.getElem_range]
    by_cases d : ts.length ≤ k + t
    · rw [if_pos d, if_pos (by omega)]
    · rw [if_neg d, if_neg (by omega)]

set_option maxRecDepth 100000 in
set_option maxHeartbeats 1600000 in
theorem spell_any (S L m g : Nat) (ts : List Int) (w : World) (hS : 2 ≤ S) (hS4 : S ≤ 4) (hm : m ≤ 100000) (hL : L ≤ 100) (hC : Cel w g ts) (hl : ts.length = L) :
    Calls Try.prog 32 #[.int .i64 (m : Int), .int .i64 (S : Int), .slice (some ⟨g, 0, none⟩) L L] w fun e w' => e = .returned (.tuple #[]) ∧ Cel w' g (spellL S L m) ∧ Rd g w w' := by
  have s0 : ((S : Int) == 0) = false := by rw [beq_eq_false_iff_ne]; omega
  have C0 := hide' (show Cel w g (mixR (spellL S L m) ts 0) by rw [mixR_zero]; exact hC)
  have HL := hide' hl
  clear hC hl
  go_enter Try.func32, Try.ntmps32
  go_wp2
  go_loopw [0, 6] (fun nv iv wr => ∃ (t q : Nat) (k : Int), nv = .int .i64 (q : Int) ∧ iv = .int .i64 k ∧ t ≤ L ∧ Hid (k = (L : Int) - 1 - t) ∧ Hid (q = m / S ^ t) ∧ Cel wr g (mixR (spellL S L m) ts t) ∧ Rd g w wr) (fun _ iv _ => (intOf iv + 1).toNat)
  case atStart => exact ⟨0, m, (L : Int) - 1, rfl, rfl, by omega, hide' (by omega), hide' (by simp), C0.out, Rd.refl _ _⟩
  case round =>
    obtain ⟨t, q, k, rfl, rfl, ht, HK, HQ, ce, rd⟩ := hrel
    have CE := hide' ce
    have RR := hide' rd
    clear ce rd
    have hk1 : -1 ≤ k := by have := HK.out; omega
    have hk2 : k ≤ 100 := by have := HK.out; omega
    have hq : q ≤ 100000 := by rw [HQ.out]; exact Nat.le_trans (Nat.div_le_self _ _) hm
    by_cases d : 0 ≤ k
    · obtain ⟨e, rfl⟩ : ∃ e : Nat, k = (e : Int) := ⟨k.toNat, by omega⟩
      obtain ⟨r, hr⟩ : ∃ r, q % S = r := ⟨_, rfl⟩
      obtain ⟨p, hp⟩ : ∃ p, q / S = p := ⟨_, rfl⟩
      have q1 : (q : Int) % (S : Int) = (r : Int) := by rw [← hr]; simp
      have q2 : (q : Int) / (S : Int) = (p : Int) := by rw [← hp]; simp
      have he : e + t + 1 = L := by have := HK.out; omega
      have HE := hide' he
      have el : e < L := by omega
      have c1 := CE.out.cells e (by rw [mixR_length, HL.out]; exact el)
      have f1 := CE.out.fz e
      have ST := hide' (show (mixR (spellL S L m) ts t).set e (r : Int) = mixR (spellL S L m) ts (t + 1) from mixR_set _ _ _ _ (by rw [HL.out]; exact he) (by rw [spellL_at S L m el, show L - 1 - e = t by omega, ← HQ.out, hr]))
      have NX := hide' (show p = m / S ^ (t + 1) by rw [← hp, HQ.out, Nat.div_div_eq_div_mul, ← Nat.pow_succ])
      have hp1 : p ≤ 100000 := by rw [← hp]; exact Nat.le_trans (Nat.div_le_self _ _) hq
      have tl : t + 1 ≤ L := by omega
      clear hr hp he
      go_wp2
      refine ⟨⟨t + 1, p, (e : Int) - 1, rfl, rfl, by omega, hide' (by have := HE.out; omega), NX, ?_, RR.out.set _ _⟩, by simp [intOf]⟩
      rw [← ST.out]
      exact Cel.set CE.out e _ (by rw [mixR_length, HL.out]; exact el)
    · have FIN := hide' (show Cel wr g (spellL S L m) by
        have h := CE.out
        rw [show t = ts.length by have := HK.out; have := HL.out; omega, mixR_full _ _ (by rw [spellL_length, HL.out])] at h
        exact h)
      go_wp2
      go_end0
      exact ⟨rfl, FIN.out, RR.out⟩
end Go.Proofs.Ytdhbdkkchobinaa

