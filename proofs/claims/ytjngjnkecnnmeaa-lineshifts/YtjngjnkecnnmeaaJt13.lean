/-
  What the last text of this claim leans on, part 13: Li8, Ll1.
-/
import Derived.Test.YtjngjnkecnnmeaaJt7
import Derived.Test.YtjngjnkecnnmeaaJt12
namespace Go.Proofs.Ytjngjnkecnnmeaa
open Go.RowKit
set_option linter.unusedVariables false

set_option maxRecDepth 100000 in
set_option maxHeartbeats 1600000 in
theorem layOut_none (R : Nat) (v : Value) (w : World) :
    Calls Try.prog 23 #[.slice none 0 0, v, .int .i64 (R : Int)] w fun e w' => e = .returned (.tuple #[]) ∧ w' = w := by
  go_enter Try.func23, Try.ntmps23
  go_wp2
  refine bodyPost_ret (v := .tuple #[]) (by simp [results, Try.results23, go_sem]) rfl ⟨rfl, rfl⟩
theorem ST.below {w w' : World} {pr pw gw S R N : Nat} {T : List Int} {ta : Option Addr} {tn tc : Nat} {ws : List Int} (h : ST w pr pw gw S R N T ta tn tc ws) (hb : Below w.heap.size w w') : ST w' pr pw gw S R N T ta tn tc ws :=
  ⟨h.rb.next hb, (World.cell?_of_block (w := w) (a := ⟨pw, 0, none⟩) (hb.block pw h.wl)).trans h.wb, Nat.lt_of_lt_of_le h.wl hb.size, h.cw.below hb, h.wn, h.ap.below hb, h.ne1, h.ne2, h.ne3⟩

set_option maxRecDepth 100000 in
set_option maxHeartbeats 1600000 in
theorem step_none (S R : Nat) (T : List Int) (ta : Option Addr) (tn tc pr pw gw : Nat) (w : World)
    (hL : LineOk S R T) (hS : ST w pr pw gw S R (2 * R) T ta tn tc (List.replicate (2 * R) 0)) :
    Calls Try.prog 22 #[.slice none 0 0, .pointer (some ⟨pw, 0, none⟩), .pointer (some ⟨pr, 0, none⟩)] w fun e w' => e = .returned (.tuple #[]) ∧ ST w' pr pw gw S R (2 * R) T ta tn tc (List.replicate (2 * R) 0) ∧ Below w.heap.size w w' := by
  have HS := hide' hS
  have HL := hide' hL
  have r10 := hL.r10
  have HF := hide' (show ArgP w (List.replicate (2 * R) 0) (some ⟨gw, 0, none⟩) (2 * R) (2 * R) from hS.cw.argP (by simp) (by unfold maxLen; omega))
  have HZ := hide' (zeros_ok S (2 * R) hL.s2)
  obtain ⟨x0, x1, x2, x3, x4, x5, x6⟩ := hS.rb
  have y0 := hS.wb
  clear hS hL
  rcases Nat.eq_zero_or_pos R with r0 | r0
  · subst r0
    go_enter Try.func22, Try.ntmps22
    go_wp2_with fail
    refine (layOut_none 0 _ _).mono ?_
    rintro e w2 ⟨rfl, rfl⟩
    go_wp2_with fail
    refine (shorten_none0 S T ta tn tc _ _ HL.out HS.out.ap).mono ?_
    rintro e w3 ⟨rfl, b3⟩
    have S3 := hide' (HS.out.below b3)
    have B3 := hide' b3
    clear b3
    go_wp2
    go_end0
    exact ⟨rfl, S3.out, B3.out⟩
  · go_enter Try.func22, Try.ntmps22
    go_wp2_with fail
    refine (layOut_none R _ _).mono ?_
    rintro e w2 ⟨rfl, rfl⟩
    go_wp2_with fail
    obtain ⟨fc, hfc⟩ : ∃ fc, 2 * R = fc + 1 := ⟨2 * R - 1, by omega⟩
    have K := shorten_none S R T ta tn tc (List.replicate (2 * R) 0) (some ⟨gw, 0, none⟩) fc _ HL.out HS.out.ap (by rw [← hfc]; exact HF.out) (by omega) (by omega) HZ.out
    rw [← hfc] at K
    refine K.mono ?_
    clear K hfc
    rintro e w3 ⟨rfl, b3⟩
    have S3 := hide' (HS.out.below b3)
    have B3 := hide' b3
    clear b3
    go_wp2
    go_end0
    exact ⟨rfl, S3.out, B3.out⟩

set_option maxRecDepth 100000 in
set_option maxHeartbeats 1600000 in
theorem applied_pos (S R : Nat) (T : List Int) (ta : Option Addr) (tn tc : Nat) (ws : List Int) (wa : Option Addr) (wn wc m : Nat) (w : World)
    (hL : LineOk S R T) (hT : ArgP w T ta tn tc) (hW : ArgP w ws wa wn wc) (hwc : wn ≤ wc) (hcm : wc ≤ maxLen) (hok : cellsOk S ws) (hm : wn = m + 2 * R) (h0 : 0 < m) (hm1 : m ≤ 1100) :
    Calls Try.prog 15 #[.agg #[.int .i64 2, .int .i64 0, .int .i64 0, .int .i64 (S : Int), .int .i64 (R : Int), .slice ta tn tc, .string ⟨#[]⟩], .slice wa wn wc] w fun e w' => ∃ g, e = .returned (.slice (some ⟨g, 0, none⟩) m m) ∧ w.heap.size ≤ g ∧ Cel w' g (applyL S R T ws) ∧ Below w.heap.size w w' := by
  obtain ⟨w1, hw1⟩ : ∃ w1, w.alloc (.cells #[.int .i64 2, .int .i64 0, .int .i64 0, .int .i64 (S : Int), .int .i64 (R : Int), .slice ta tn tc, .string ⟨#[]⟩] 28) = w1 := ⟨_, rfl⟩
  have z1 : w1.heap.size = w.heap.size + 1 := by rw [← hw1]; simp
  have BB := hide' (show Below w.heap.size w w1 by rw [← hw1]; exact (Below.refl _ _).alloc (Nat.le_refl _) _)
  obtain ⟨w2, hw2⟩ : ∃ w2, w1.alloc (.cells (madeCells #[.int .i64 0] m) 3) = w2 := ⟨_, rfl⟩
  have r10 := hL.r10
  have hmk := run_make_row' (P := Try.prog) 26 3 (.int .i64 0) 8 Try.underlying26 info_int rfl .i64 .i64 m (by omega) (by omega) w1
  have TB := hide' (hT.blk (by have := hT.len; have := hL.pos; omega))
  have WB := hide' (hW.blk (by omega))
  have RX := hide' (show RB w.heap.size S R (.slice ta tn tc) w1 by rw [← hw1]; exact RB.new w S R _ _)
  have B2 := hide' (show Below w1.heap.size w1 w2 by rw [← hw2]; exact (Below.refl _ _).alloc (Nat.le_refl _) _)
  have AT := hide' ((hT.below BB.out).below B2.out)
  have AW := hide' ((hW.below BB.out).below B2.out)
  have CM := hide' (show Cel w2 (w.heap.size + 1) (List.replicate m 0) by rw [← hw2, ← z1]; exact Cel.made w1 m _)
  have HL := hide' hL
  have HM := hide' hm
  have HO := hide' hok
  have q1 : (wn : Int) - 2 * (R : Int) = (m : Int) := by omega
  have hmx := hW.max
  unfold maxLen at hmx
  rw [hw2, z1] at hmk
  clear hT hW hL hok hw2 hm
  obtain ⟨x0, x1, x2, x3, x4, x5, x6⟩ := RX.out
  obtain ⟨y0, y1, y2, y3, y4, y5, y6⟩ := RX.out.next B2.out
  go_enter Try.func15, Try.ntmps15
  go_wp2_with fail
  clear hw1
  refine (shorten_pos S R T ta tn tc ws wa wn wc (w.heap.size + 1) m m (List.replicate m 0) _ HL.out AT.out AW.out (by omega) hwc hcm HO.out CM.out (by simp) HM.out hm1 (fun g off e => by have := TB.out g off e; omega) (fun g off e => by have := WB.out g off e; omega)).mono ?_
  rintro e w3 ⟨rfl, c3, r3⟩
  have C3 := hide' c3
  have s2 := B2.out.size
  have B3 := hide' (show Below w.heap.size w w3 from (BB.out.trans (B2.out.mono (by omega))).trans (r3.below (by omega) (by omega)))
  clear c3 r3
  go_wp2
  go_ret
  exact ⟨w.heap.size + 1, rfl, by omega, C3.out, B3.out⟩

set_option maxHeartbeats 800000 in
theorem applied_none (S R : Nat) (ta : Option Addr) (tn tc : Nat) (wa : Option Addr) (wn wc : Nat) (w : World) (hR : R ≤ 10) (hm : wn ≤ 2 * R) :
    Calls Try.prog 15 #[.agg #[.int .i64 2, .int .i64 0, .int .i64 0, .int .i64 (S : Int), .int .i64 (R : Int), .slice ta tn tc, .string ⟨#[]⟩], .slice wa wn wc] w fun e w' => e = .returned (.slice none 0 0) ∧ Below w.heap.size w w' := by
  have q1 : (wn : Int) - 2 * (R : Int) ≤ 0 := by omega
  go_enter Try.func15, Try.ntmps15
  go_wp2
  go_ret
  exact ⟨rfl, (Below.refl _ _).alloc (Nat.le_refl _) _⟩
end Go.Proofs.Ytjngjnkecnnmeaa

namespace Go.Proofs.Ytjngjnkecnnmeaa
open Go.RowKit
set_option linter.unusedVariables false

/-- The digits of m, L of them, the highest first. -/
def spellL (S L m : Nat) : List Int := (List.range L).map fun j => ((m / S ^ (L - 1 - j) % S : Nat) : Int)
theorem spellL_length (S L m : Nat) : (spellL S L m).length = L := by simp [spellL]
theorem spellL_at (S L m : Nat) {j : Nat} (h : j < L) : (spellL S L m).getD j 0 = ((m / S ^ (L - 1 - j) % S : Nat) : Int) := by
  simp [spellL, List.getD, h]
theorem spellL_ok (S L m : Nat) (h : 2 ≤ S) : cellsOk S (spellL S L m) := by
  intro x hx
  simp only [spellL, List.mem_map] at hx
  obtain ⟨j, -, rfl⟩ := hx
  have := Nat.mod_lt (m / S ^ (L - 1 - j)) (show 0 < S by omega)
  omega
/-- The last t cells are A's, the rest as they were. -/
def mixR (A ts : List Int) (t : Nat) : List Int := (List.range ts.length).map fun j => if ts.length ≤ j + t then A.getD j 0 else ts.getD j 0
theorem mixR_length (A ts : List Int) (t : Nat) : (mixR A ts t).length = ts.length := by simp [mixR]
theorem mixR_zero (A ts : List Int) : mixR A ts 0 = ts := by
  apply List.ext_getElem (by simp [mixR])
  intro k h1 h2
  simp [mixR, h2]
  intro h; omega
theorem mixR_full (A ts : List Int) (h : A.length = ts.length) : mixR A ts ts.length = A := by
  apply List.ext_getElem (by simp [mixR, h])
  intro k h1 h2
  simp [mixR, h2]
theorem mixR_set (A ts : List Int) (t e : Nat) (he : e + t + 1 = ts.length) {x : Int} (hx : A.getD e 0 = x) : (mixR A ts t).set e x = mixR A ts (t + 1) := by
  apply List.ext_getElem (by simp [mixR])
  intro k h1 h2
  have hk : k < ts.length := by simpa [mixR] using h2
  rw [List.getElem_set]
  by_cases q : e = k
  · subst q
    rw [if_pos rfl]
    simp only [mixR, List.getElem_map, List.getElem_range]
    rw [if_pos (by omega), hx]
  · rw [if_neg q]
    simp only [mixR, List.getElem_map, List.getElem_range]
    by_cases d : ts.length ≤ k + t
    · rw [if_pos d, if_pos (by omega)]
    · rw [if_neg d, if_neg (by omega)]

set_option maxRecDepth 100000 in
set_option maxHeartbeats 1600000 in
theorem spell_any (S L m g : Nat) (ts : List Int) (w : World) (hS : 2 ≤ S) (hS4 : S ≤ 4) (hm : m ≤ 100000) (hL : L ≤ 100) (hC : Cel w g ts) (hl : ts.length = L) :
    Calls Try.prog 20 #[.int .i64 (m : Int), .int .i64 (S : Int), .slice (some ⟨g, 0, none⟩) L L] w fun e w' => e = .returned (.tuple #[]) ∧ Cel w' g (spellL S L m) ∧ Rd g w w' := by
  have s0 : ((S : Int) == 0) = false := by rw [beq_eq_false_iff_ne]; omega
  have C0 := hide' (show Cel w g (mixR (spellL S L m) ts 0) by rw [mixR_zero]; exact hC)
  have HL := hide' hl
  clear hC hl
  go_enter Try.func20, Try.ntmps20
  go_wp2
  go_loopw [0, 6] (fun nv iv wr => ∃ (t q : Nat) (k : Int), nv = .int .i64 (q : Int) ∧ iv = .int .i64 k ∧ t ≤ L ∧ Hid (k = (L : Int) - 1 - t) ∧ Hid (q = m / S ^ t) ∧ Cel wr g (mixR (spellL S L m) ts t) ∧ Rd g w wr) (fun _ iv _ => (intOf iv + 1).toNat)
  case atStart => exact ⟨0, m, (L : Int) - 1, rfl, rfl, by omega, hide' (by omega), hide' (by simp), C0.out, Rd.refl _ _⟩
  case round =>
    obtain ⟨t, q, k, rfl, rfl, ht, HK, HQ, ce, rd⟩ := hrel
    have CE := hide' ce
    have RR := hide' rd
    clear ce rd
    have hk1 : -1 ≤ k := by have := HK.out; omega
    have hk2 : k ≤ 100 := by have := HK.out; omega
    have hq : q ≤ 100000 := by rw [HQ.out]; exact Nat.le_trans (Nat.div_le_self _ _) hm
    by_cases d : 0 ≤ k
    · obtain ⟨e, rfl⟩ : ∃ e : Nat, k = (e : Int) := ⟨k.toNat, by omega⟩
      obtain ⟨r, hr⟩ : ∃ r, q % S = r := ⟨_, rfl⟩
      obtain ⟨p, hp⟩ : ∃ p, q / S = p := ⟨_, rfl⟩
      have q1 : (q : Int) % (S : Int) = (r : Int) := by rw [← hr]; simp
      have q2 : (q : Int) / (S : Int) = (p : Int) := by rw [← hp]; simp
      have he : e + t + 1 = L := by have := HK.out; omega
      have HE := hide' he
      have el : e < L := by omega
      have c1 := CE.out.cells e (by rw [mixR_length, HL.out]; exact el)
      have f1 := CE.out.fz e
      have ST := hide' (show (mixR (spellL S L m) ts t).set e (r : Int) = mixR (spellL S L m) ts (t + 1) from mixR_set _ _ _ _ (by rw [HL.out]; exact he) (by rw [spellL_at S L m el, show L - 1 - e = t by omega, ← HQ.out, hr]))
      have NX := hide' (show p = m / S ^ (t + 1) by rw [← hp, HQ.out, Nat.div_div_eq_div_mul, ← Nat.pow_succ])
      have hp1 : p ≤ 100000 := by rw [← hp]; exact Nat.le_trans (Nat.div_le_self _ _) hq
      have tl : t + 1 ≤ L := by omega
      clear hr hp he
      go_wp2
      refine ⟨⟨t + 1, p, (e : Int) - 1, rfl, rfl, by omega, hide' (by have := HE.out; omega), NX, ?_, RR.out.set _ _⟩, by simp [intOf]⟩
      rw [← ST.out]
      exact Cel.set CE.out e _ (by rw [mixR_length, HL.out]; exact el)
    · have FIN := hide' (show Cel wr g (spellL S L m) by
        have h := CE.out
        rw [show t = ts.length by have := HK.out; have := HL.out; omega, mixR_full _ _ (by rw [spellL_length, HL.out])] at h
        exact h)
      go_wp2
      go_end0
      exact ⟨rfl, FIN.out, RR.out⟩
end Go.Proofs.Ytjngjnkecnnmeaa

