/-
  What the last text of this claim leans on, part 8: Ob1.
-/
import Derived.Test.YtjjdjdodhedihaaDoorJg1
import Derived.Test.YtjjdjdodhedihaaDoorJg7
namespace Go.Proofs.YtjjdjdodhedihaaDoor
open Go.RowKit
set_option linter.unusedVariables false

set_option maxRecDepth 100000 in
set_option maxHeartbeats 1600000 in
theorem refPlaces_any (S R : Nat) (T : List Int) (ta : Option Addr) (tn tc : Nat) (w : World) (hL : LineOk S R T) :
    Calls Tryd.prog 14 #[.agg #[.int .i64 2, .int .i64 0, .int .i64 0, .int .i64 (S : Int), .int .i64 (R : Int), .slice ta tn tc, .string ⟨#[]⟩]] w fun e w' => e = .returned (.int .i64 ((plc S R : Nat) : Int)) ∧ Below w.heap.size w w' := by
  obtain ⟨w1, hw1⟩ : ∃ w1, w.alloc (.cells #[.int .i64 2, .int .i64 0, .int .i64 0, .int .i64 (S : Int), .int .i64 (R : Int), .slice ta tn tc, .string ⟨#[]⟩] 24) = w1 := ⟨_, rfl⟩
  have BB := hide' (show Below w.heap.size w w1 by rw [← hw1]; exact (Below.refl _ _).alloc (Nat.le_refl _) _)
  have RX := hide' (show RB w.heap.size S R (.slice ta tn tc) w1 by rw [← hw1]; exact RB.new w S R _ _)
  have s2 := hL.s2
  have s4 := hL.s4
  have r10 := hL.r10
  have FAR := hide' (fun i (hi : i ≤ 2 * R) (h : 16 < S ^ i) => plc_far s2 hi h)
  have END := hide' (fun (h : S ^ (2 * R) ≤ 16) => plc_end h)
  obtain ⟨q, hq⟩ : ∃ q, plc S R = q := ⟨_, rfl⟩
  rw [hq] at FAR ⊢
  have END' := hide' (fun (h : S ^ (2 * R) ≤ 16) => show q = S ^ (2 * R) by rw [← hq]; exact END.out h)
  clear hq END hL
  obtain ⟨x0, x1, x2, x3, x4, x5, x6⟩ := RX.out
  go_enter Tryd.func14, Tryd.ntmps14
  go_wp2
  clear hw1
  go_loopw [3, 4] (fun nv iv wr => ∃ i p : Nat, nv = .int .i64 (p : Int) ∧ iv = .int .i64 (i : Int) ∧ i ≤ 2 * R ∧ p ≤ 16 ∧ wr = w1 ∧ Hid (p = S ^ i)) (fun _ iv _ => 2 * R - (intOf iv).toNat)
  case atStart => exact ⟨0, 1, rfl, rfl, by omega, by omega, by trivial, hide' (by simp)⟩
  case round =>
    obtain ⟨i, p, rfl, rfl, hi, hp, rfl, HP⟩ := hrel
    by_cases d : (i : Int) < 2 * (R : Int)
    · obtain ⟨p', hp'⟩ : ∃ p', p * S = p' := ⟨_, rfl⟩
      have HP' := hide' (show p' = S ^ (i + 1) by rw [Nat.pow_succ, ← HP.out]; exact hp'.symm)
      have q1 : (p : Int) * (S : Int) = (p' : Int) := by rw [← hp']; simp
      have q2 : p' ≤ 64 := by rw [← hp']; exact Nat.mul_le_mul hp s4
      clear hp'
      by_cases d2 : (16 : Int) < (p' : Int)
      · have Q := hide' (FAR.out (i + 1) (by omega) (by rw [← HP'.out]; omega))
        go_wp2
        go_ret
        exact ⟨by rw [Q.out]; rfl, BB.out⟩
      · go_wp2
        exact ⟨⟨i + 1, p', rfl, by go_num, by omega, by omega, by trivial, HP'⟩, by simp [intOf]; omega⟩
    · have Q := hide' (show q = p by
        have e : i = 2 * R := by omega
        have := HP.out
        rw [e] at this
        rw [END'.out (by omega), this])
      go_wp2
      go_ret
      exact ⟨by rw [Q.out]; rfl, BB.out⟩

set_option maxRecDepth 100000 in
set_option maxHeartbeats 1600000 in
theorem placesOf_any (S R : Nat) (ta : Option Addr) (tn tc n : Nat) (w : World) (hS : 2 ≤ S) (hS4 : S ≤ 4) (hn : tn / S = n) (ht : tn ≤ 4096) :
    Calls Tryd.prog 73 #[.agg #[.int .i64 2, .int .i64 0, .int .i64 0, .int .i64 (S : Int), .int .i64 (R : Int), .slice ta tn tc, .string ⟨#[]⟩]] w fun e w' => e = .returned (.int .i64 (n : Int)) ∧ Below w.heap.size w w' := by
  obtain ⟨w1, hw1⟩ : ∃ w1, w.alloc (.cells #[.int .i64 2, .int .i64 0, .int .i64 0, .int .i64 (S : Int), .int .i64 (R : Int), .slice ta tn tc, .string ⟨#[]⟩] 24) = w1 := ⟨_, rfl⟩
  have BB := hide' (show Below w.heap.size w w1 by rw [← hw1]; exact (Below.refl _ _).alloc (Nat.le_refl _) _)
  have RX := hide' (show RB w.heap.size S R (.slice ta tn tc) w1 by rw [← hw1]; exact RB.new w S R _ _)
  have q1 : (tn : Int).tdiv (S : Int) = (n : Int) := by rw [Int.tdiv_eq_ediv_of_nonneg (by omega), ← hn]; simp
  have q0 : ¬ (S : Int) = 0 := by omega
  have n1 : n ≤ 4096 := by rw [← hn]; exact Nat.le_trans (Nat.div_le_self _ _) ht
  clear hn
  obtain ⟨x0, x1, x2, x3, x4, x5, x6⟩ := RX.out
  go_enter Tryd.func73, Tryd.ntmps73
  go_wp2
  go_ret
  exact ⟨rfl, BB.out⟩

theorem places_of {S R : Nat} {T : List Int} {tn : Nat} (hL : LineOk S R T) (ht : tn = T.length) : tn / S = S ^ (2 * R) := by
  rw [ht]; exact places_div hL.s2 hL.len

set_option maxRecDepth 100000 in
set_option maxHeartbeats 1600000 in
theorem ontoCheck_off (o : Out) (ta : Option Addr) (tn tc : Nat) (v : Value) (w : World) (hR : ArgR w o ta tn tc) (h : ¬ (Good o ∧ o.kind = 2)) :
    Calls Tryd.prog 40 #[.agg #[.int .i64 o.kind, .int .i64 o.born, .int .i64 o.stay, .int .i64 o.states, .int .i64 o.radius, .slice ta tn tc, .string o.turns], v] w fun e w' => e = .returned (.iface 85 (.int .i64 1)) ∧ Below w.heap.size w w' := by
  obtain ⟨w1, hw1⟩ : ∃ w1, w.alloc (.cells #[.int .i64 o.kind, .int .i64 o.born, .int .i64 o.stay, .int .i64 o.states, .int .i64 o.radius, .slice ta tn tc, .string o.turns] 24) = w1 := ⟨_, rfl⟩
  have BB := hide' (show Below w.heap.size w w1 by rw [← hw1]; exact (Below.refl _ _).alloc (Nat.le_refl _) _)
  have RX := hide' (show RBo w.heap.size o (.slice ta tn tc) w1 by rw [← hw1]; exact RBo.new w o _ _)
  have AT := hide' (show ArgR w1 o ta tn tc by rw [← hw1]; exact hR.alloc _)
  have HH := hide' h
  clear hR h
  obtain ⟨x0, x1, x2, x3, x4, x5, x6⟩ := RX.out
  go_enter Tryd.func40, Tryd.ntmps40
  go_wp2_with fail
  refine (lineCheck_off o ta tn tc v _ AT.out HH.out).mono ?_
  rintro e w2 ⟨rfl, b2⟩
  have B2 := hide' (BB.out.trans (b2.mono BB.out.size))
  clear x0 x1 x2 x3 x4 x5 x6 b2 hw1
  go_wp2
  go_ret
  exact ⟨rfl, B2.out⟩

/-- What is wrong with a rule that is looked at by pairs, or with a word. -/
def askE (S R : Nat) (ws : List Int) : Nat := if wordE S ws ≠ 0 then wordE S ws else if 16 < S ^ (2 * R) then 4 else 0
theorem askE_word {S R : Nat} {ws : List Int} (h : wordE S ws ≠ 0) : askE S R ws = wordE S ws := if_pos h
theorem askE_far {S R : Nat} {ws : List Int} (h : wordE S ws = 0) (h2 : 16 < S ^ (2 * R)) : askE S R ws = 4 := by unfold askE; rw [if_neg (by simpa using h), if_pos h2]
theorem askE_ok {S R : Nat} {ws : List Int} (h : wordE S ws = 0) (h2 : ¬ 16 < S ^ (2 * R)) : askE S R ws = 0 := by unfold askE; rw [if_neg (by simpa using h), if_neg h2]
theorem askE_zero {S R : Nat} {ws : List Int} (h : askE S R ws = 0) : wordE S ws = 0 ∧ S ^ (2 * R) ≤ 16 := by
  unfold askE at h
  split at h
  · contradiction
  · split at h
    · omega
    · exact ⟨by simpa using ‹¬ wordE S ws ≠ 0›, by omega⟩

set_option maxRecDepth 100000 in
set_option maxHeartbeats 1600000 in
theorem ontoCheck_line (S R : Nat) (T : List Int) (ta : Option Addr) (tn tc : Nat) (ws : List Int) (wa : Option Addr) (wn wc : Nat) (w : World) (hL : LineOk S R T) (hT : ArgP w T ta tn tc) (hW : ArgP w ws wa wn wc) :
    Calls Tryd.prog 40 #[.agg #[.int .i64 2, .int .i64 0, .int .i64 0, .int .i64 (S : Int), .int .i64 (R : Int), .slice ta tn tc, .string ⟨#[]⟩], .slice wa wn wc] w fun e w' => e = .returned (errOf (askE S R ws)) ∧ Below w.heap.size w w' := by
  obtain ⟨w1, hw1⟩ : ∃ w1, w.alloc (.cells #[.int .i64 2, .int .i64 0, .int .i64 0, .int .i64 (S : Int), .int .i64 (R : Int), .slice ta tn tc, .string ⟨#[]⟩] 24) = w1 := ⟨_, rfl⟩
  have BB := hide' (show Below w.heap.size w w1 by rw [← hw1]; exact (Below.refl _ _).alloc (Nat.le_refl _) _)
  have RX := hide' (show RB w.heap.size S R (.slice ta tn tc) w1 by rw [← hw1]; exact RB.new w S R _ _)
  have AT := hide' (hT.below BB.out)
  have AW := hide' (hW.below BB.out)
  have HL := hide' hL
  obtain ⟨n, hn⟩ : ∃ n, tn / S = n := ⟨_, rfl⟩
  have HN := hide' hn
  have PN := hide' (show S ^ (2 * R) = n by rw [← hn]; exact (places_of hL hT.len).symm)
  have t4 : tn ≤ 4096 := by rw [hT.len]; exact hL.max
  have HP := hide' (fun (wr : World) => placesOf_any S R ta tn tc n wr hL.s2 hL.s4 hn t4)
  clear hn
  rcases Nat.eq_zero_or_pos (wordE S ws) with he | he
  · have HE := hide' he
    clear hT hW hL he
    obtain ⟨x0, x1, x2, x3, x4, x5, x6⟩ := RX.out
    go_enter Tryd.func40, Tryd.ntmps40
    go_wp2_with fail
    refine (lineCheck_line S R T ta tn tc ws wa wn wc _ HL.out AT.out AW.out).mono ?_
    rw [HE.out, show errOf 0 = .nilIface from rfl]
    rintro e w2 ⟨rfl, b2⟩
    have C2 := hide' b2
    have B2 := hide' (BB.out.trans (b2.mono BB.out.size))
    clear x0 x1 x2 x3 x4 x5 x6 b2 hw1
    obtain ⟨x0, x1, x2, x3, x4, x5, x6⟩ := RX.out.next C2.out
    go_wp2_with fail
    refine (HP.out _).mono ?_
    rintro e w3 ⟨rfl, b3⟩
    have B3 := hide' (B2.out.trans (b3.mono B2.out.size))
    clear x0 x1 x2 x3 x4 x5 x6 b3
    by_cases d : (16 : Int) < (n : Int)
    · have Q := hide' (askE_far (R := R) HE.out (by rw [PN.out]; omega))
      go_wp2
      go_ret
      exact ⟨by rw [Q.out]; rfl, B3.out⟩
    · have Q := hide' (askE_ok (R := R) HE.out (by rw [PN.out]; omega))
      go_wp2
      go_ret
      exact ⟨by rw [Q.out]; rfl, B3.out⟩
  · have Q := hide' (askE_word (R := R) (show wordE S ws ≠ 0 by omega))
    obtain ⟨f, hf⟩ : ∃ f, wordE S ws = f := ⟨_, rfl⟩
    have HF := hide' hf
    have ER := hide' (show errOf (wordE S ws) = .iface 85 (.int .i64 (f : Int)) by rw [hf]; exact errOf_ne (by omega))
    have ER' := hide' (show errOf (askE S R ws) = .iface 85 (.int .i64 (f : Int)) by rw [Q.out]; exact ER.out)
    rw [ER'.out]
    clear hf hT hW hL he Q
    obtain ⟨x0, x1, x2, x3, x4, x5, x6⟩ := RX.out
    go_enter Tryd.func40, Tryd.ntmps40
    go_wp2_with fail
    refine (lineCheck_line S R T ta tn tc ws wa wn wc _ HL.out AT.out AW.out).mono ?_
    rw [ER.out]
    rintro e w2 ⟨rfl, b2⟩
    have B2 := hide' (BB.out.trans (b2.mono BB.out.size))
    clear x0 x1 x2 x3 x4 x5 x6 b2 hw1
    go_wp2
    go_ret
    exact ⟨rfl, B2.out⟩

set_option maxRecDepth 100000 in
set_option maxHeartbeats 1600000 in
theorem sum_any (a b : Int) (w : World) (h1 : 0 ≤ a) (h2 : a ≤ big) (h3 : 0 ≤ b) (h4 : b ≤ big) :
    Calls Tryd.prog 85 #[.int .i64 a, .int .i64 b] w fun e w' => e = .returned (.int .i64 (satB a b)) ∧ w' = w := by
  have M := hide' (show min (a + b) 1000000000000000001 = satB a b by unfold satB big; split <;> omega)
  unfold big at h2 h4
  go_enter Tryd.func85, Tryd.ntmps85
  go_wp2
  go_ret
  refine ⟨?_, rfl⟩
  show Ending.returned (.int .i64 (min (a + b) 1000000000000000001)) = _
  rw [M.out]

/-- A graph in a box of its own. -/
structure GB (p S R n : Nat) (v : Value) (w : World) : Prop where
  c0 : w.cell? ⟨p, 0, none⟩ = some (.int .i64 (S : Int))
  c1 : w.cell? ⟨p, 1, none⟩ = some (.int .i64 (2 * (R : Int)))
  c2 : w.cell? ⟨p, 2, none⟩ = some (.int .i64 (n : Int))
  c3 : w.cell? ⟨p, 3, none⟩ = some v
theorem GB.lt {p S R n : Nat} {v : Value} {w : World} (h : GB p S R n v w) : p < w.heap.size := by
  have h0 := h.c0
  unfold World.cell? at h0
  by_cases hp : p < w.heap.size
  · exact hp
  · simp only [Array.getElem?_eq_none (Nat.le_of_not_lt hp)] at h0
    cases h0
theorem GB.block {p S R n : Nat} {v : Value} {w w' : World} (h : GB p S R n v w) (e : w'.heap[p]? = w.heap[p]?) : GB p S R n v w' :=
  ⟨(World.cell?_of_block (w := w) (a := ⟨p, 0, none⟩) e).trans h.c0, (World.cell?_of_block (w := w) (a := ⟨p, 1, none⟩) e).trans h.c1, (World.cell?_of_block (w := w) (a := ⟨p, 2, none⟩) e).trans h.c2, (World.cell?_of_block (w := w) (a := ⟨p, 3, none⟩) e).trans h.c3⟩
theorem GB.next {p S R n : Nat} {v : Value} {w w' : World} (h : GB p S R n v w) (hb : Below w.heap.size w w') : GB p S R n v w' := h.block (hb.block p h.lt)
theorem GB.new (w : World) (S R n : Nat) (v : Value) (t : TypeId) : GB w.heap.size S R n v (w.alloc (.cells #[.int .i64 (S : Int), .int .i64 (2 * (R : Int)), .int .i64 (n : Int), v] t)) :=
  ⟨by rw [World.cell?_alloc_at _ _ _ _ rfl]; rfl, by rw [World.cell?_alloc_at _ _ _ _ rfl]; rfl, by rw [World.cell?_alloc_at _ _ _ _ rfl]; rfl, by rw [World.cell?_alloc_at _ _ _ _ rfl]; rfl⟩

set_option maxRecDepth 100000 in
set_option maxHeartbeats 1600000 in
theorem on_any (S R n : Nat) (T : List Int) (ta : Option Addr) (tn tc p c : Nat) (w : World) (hT : ArgP w T ta tn tc) (hn : 0 < n) (hw : p * S + c < tn) (ht : tn ≤ 4096) (hS4 : S ≤ 4) (hp : p ≤ 4096) (hc : c ≤ 4096) :
    Calls Tryd.prog 84 #[.agg #[.int .i64 (S : Int), .int .i64 (2 * (R : Int)), .int .i64 (n : Int), .slice ta tn tc], .int .i64 (p : Int), .int .i64 (c : Int)] w fun e w' => e = .returned (.tuple #[.int .i64 (((p * S + c) % n : Nat) : Int), .int .i64 (T.getD (p * S + c) 0)]) ∧ Below w.heap.size w w' := by
  obtain ⟨w1, hw1⟩ : ∃ w1, w.alloc (.cells #[.int .i64 (S : Int), .int .i64 (2 * (R : Int)), .int .i64 (n : Int), .slice ta tn tc] 79) = w1 := ⟨_, rfl⟩
  have BB := hide' (show Below w.heap.size w w1 by rw [← hw1]; exact (Below.refl _ _).alloc (Nat.le_refl _) _)
  have GX := hide' (show GB w.heap.size S R n (.slice ta tn tc) w1 by rw [← hw1]; exact GB.new w S R n _ _)
  have AT := hide' (hT.below BB.out)
  obtain ⟨j, hj⟩ : ∃ j, p * S + c = j := ⟨_, rfl⟩
  have q1 : (p : Int) * (S : Int) + (c : Int) = (j : Int) := by rw [← hj]; simp
  obtain ⟨k, hk⟩ : ∃ k, p * S = k := ⟨_, rfl⟩
  have q2 : (p : Int) * (S : Int) = (k : Int) := by rw [← hk]; simp
  have k4 : k ≤ 4096 := by omega
  have q3 : (k : Int) + (c : Int) = (j : Int) := by omega
  rw [hj] at hw ⊢
  obtain ⟨m, hm⟩ : ∃ m, j % n = m := ⟨_, rfl⟩
  have q4 : (j : Int).tmod (n : Int) = (m : Int) := by rw [Int.tmod_eq_emod_of_nonneg (by omega), ← hm]; simp
  have q5 : ¬ (n : Int) = 0 := by omega
  rw [hm]
  obtain ⟨g, off, rfl, hc'⟩ := AT.out.at hw
  obtain ⟨x, hx⟩ : ∃ x, T.getD j 0 = x := ⟨_, rfl⟩
  rw [hx] at hc' ⊢
  clear hj hk hm hx hT
  obtain ⟨y0, y1, y2, y3⟩ := GX.out
  go_enter Tryd.func84, Tryd.ntmps84
  go_wp2
  go_region
  go_wp2
  go_ret2
  exact ⟨rfl, by first | exact BB.out | (rw [hw1]; exact BB.out) | exact BB.out.drew⟩
end Go.Proofs.YtjjdjdodhedihaaDoor

