/-
  What the last text of this claim leans on, part 22: Ob1, Ob2.
-/
import Derived.Test.YtljdidimoagnhaaDoorJv1
import Derived.Test.YtljdidimoagnhaaDoorJv21
namespace Go.Proofs.YtljdidimoagnhaaDoor
open Go.RowKit
set_option linter.unusedVariables false

set_option maxRecDepth 100000 in
set_option maxHeartbeats 1600000 in
theorem refPlaces_any (S R : Nat) (T : List Int) (ta : Option Addr) (tn tc : Nat) (w : World) (hL : LineOk S R T) :
    Calls Tryd.prog 71 #[.agg #[.int .i64 2, .int .i64 0, .int .i64 0, .int .i64 (S : Int), .int .i64 (R : Int), .slice ta tn tc, .string ⟨#[]⟩]] w fun e w' => e = .returned (.int .i64 ((plc S R : Nat) : Int)) ∧ Below w.heap.size w w' := by
  obtain ⟨w1, hw1⟩ : ∃ w1, w.alloc (.cells #[.int .i64 2, .int .i64 0, .int .i64 0, .int .i64 (S : Int), .int .i64 (R : Int), .slice ta tn tc, .string ⟨#[]⟩] 24) = w1 := ⟨_, rfl⟩
  have BB := hide' (show Below w.heap.size w w1 by rw [← hw1]; exact (Below.refl _ _).alloc (Nat.le_refl _) _)
  have RX := hide' (show RB w.heap.size S R (.slice ta tn tc) w1 by rw [← hw1]; exact RB.new w S R _ _)
  have s2 := hL.s2
  have s4 := hL.s4
  have r10 := hL.r10
  have FAR := hide' (fun i (hi : i ≤ 2 * R) (h : 16 < S ^ i) => plc_far s2 hi h)
  have END := hide' (fun (h : S ^ (2 * R) ≤ 16) => plc_end h)
  obtain ⟨q, hq⟩ : ∃ q, plc S R = q := ⟨_, rfl⟩
  rw [hq] at FAR ⊢
  have END' := hide' (fun (h : S ^ (2 * R) ≤ 16) => show q = S ^ (2 * R) by rw [← hq]; exact END.out h)
  clear hq END hL
  obtain ⟨x0, x1, x2, x3, x4, x5, x6⟩ := RX.out
  go_enter Tryd.func71, Tryd.ntmps71
  go_wp2
  clear hw1
  go_loopw [3, 4] (fun nv iv wr => ∃ i p : Nat, nv = .int .i64 (p : Int) ∧ iv = .int .i64 (i : Int) ∧ i ≤ 2 * R ∧ p ≤ 16 ∧ wr = w1 ∧ Hid (p = S ^ i)) (fun _ iv _ => 2 * R - (intOf iv).toNat)
  case atStart => exact ⟨0, 1, rfl, rfl, by omega, by omega, by trivial, hide' (by simp)⟩
  case round =>
    obtain ⟨i, p, rfl, rfl, hi, hp, rfl, HP⟩ := hrel
    by_cases d : (i : Int) < 2 * (R : Int)
    · obtain ⟨p', hp'⟩ : ∃ p', p * S = p' := ⟨_, rfl⟩
      have HP' := hide' (show p' = S ^ (i + 1) by rw [Nat.pow_succ, ← HP.out]; exact hp'.symm)
      have q1 : (p : Int) * (S : Int) = (p' : Int) := by rw [← hp']; simp
      have q2 : p' ≤ 64 := by rw [← hp']; exact Nat.mul_le_mul hp s4
      clear hp'
      by_cases d2 : (16 : Int) < (p' : Int)
      · have Q := hide' (FAR.out (i + 1) (by omega) (by rw [← HP'.out]; omega))
        go_wp2
        go_ret
        exact ⟨by rw [Q.out]; rfl, BB.out⟩
      · go_wp2
        exact ⟨⟨i + 1, p', rfl, by go_num, by omega, by omega, by trivial, HP'⟩, by simp [intOf]; omega⟩
    · have Q := hide' (show q = p by
        have e : i = 2 * R := by omega
        have := HP.out
        rw [e] at this
        rw [END'.out (by omega), this])
      go_wp2
      go_ret
      exact ⟨by rw [Q.out]; rfl, BB.out⟩

set_option maxRecDepth 100000 in
set_option maxHeartbeats 1600000 in
theorem placesOf_any (S R : Nat) (ta : Option Addr) (tn tc n : Nat) (w : World) (hS : 2 ≤ S) (hS4 : S ≤ 4) (hn : tn / S = n) (ht : tn ≤ 4096) :
    Calls Tryd.prog 169 #[.agg #[.int .i64 2, .int .i64 0, .int .i64 0, .int .i64 (S : Int), .int .i64 (R : Int), .slice ta tn tc, .string ⟨#[]⟩]] w fun e w' => e = .returned (.int .i64 (n : Int)) ∧ Below w.heap.size w w' := by
  obtain ⟨w1, hw1⟩ : ∃ w1, w.alloc (.cells #[.int .i64 2, .int .i64 0, .int .i64 0, .int .i64 (S : Int), .int .i64 (R : Int), .slice ta tn tc, .string ⟨#[]⟩] 24) = w1 := ⟨_, rfl⟩
  have BB := hide' (show Below w.heap.size w w1 by rw [← hw1]; exact (Below.refl _ _).alloc (Nat.le_refl _) _)
  have RX := hide' (show RB w.heap.size S R (.slice ta tn tc) w1 by rw [← hw1]; exact RB.new w S R _ _)
  have q1 : (tn : Int).tdiv (S : Int) = (n : Int) := by rw [Int.tdiv_eq_ediv_of_nonneg (by omega), ← hn]; simp
  have q0 : ¬ (S : Int) = 0 := by omega
  have n1 : n ≤ 4096 := by rw [← hn]; exact Nat.le_trans (Nat.div_le_self _ _) ht
  clear hn
  obtain ⟨x0, x1, x2, x3, x4, x5, x6⟩ := RX.out
  go_enter Tryd.func169, Tryd.ntmps169
  go_wp2
  go_ret
  exact ⟨rfl, BB.out⟩

theorem places_of {S R : Nat} {T : List Int} {tn : Nat} (hL : LineOk S R T) (ht : tn = T.length) : tn / S = S ^ (2 * R) := by
  rw [ht]; exact places_div hL.s2 hL.len

set_option maxRecDepth 100000 in
set_option maxHeartbeats 1600000 in
theorem ontoCheck_off (o : Out) (ta : Option Addr) (tn tc : Nat) (v : Value) (w : World) (hR : ArgR w o ta tn tc) (h : ¬ (Good o ∧ o.kind = 2)) :
    Calls Tryd.prog 124 #[.agg #[.int .i64 o.kind, .int .i64 o.born, .int .i64 o.stay, .int .i64 o.states, .int .i64 o.radius, .slice ta tn tc, .string o.turns], v] w fun e w' => e = .returned (.iface 97 (.int .i64 1)) ∧ Below w.heap.size w w' := by
  obtain ⟨w1, hw1⟩ : ∃ w1, w.alloc (.cells #[.int .i64 o.kind, .int .i64 o.born, .int .i64 o.stay, .int .i64 o.states, .int .i64 o.radius, .slice ta tn tc, .string o.turns] 24) = w1 := ⟨_, rfl⟩
  have BB := hide' (show Below w.heap.size w w1 by rw [← hw1]; exact (Below.refl _ _).alloc (Nat.le_refl _) _)
  have RX := hide' (show RBo w.heap.size o (.slice ta tn tc) w1 by rw [← hw1]; exact RBo.new w o _ _)
  have AT := hide' (show ArgR w1 o ta tn tc by rw [← hw1]; exact hR.alloc _)
  have HH := hide' h
  clear hR h
  obtain ⟨x0, x1, x2, x3, x4, x5, x6⟩ := RX.out
  go_enter Tryd.func124, Tryd.ntmps124
  go_wp2_with fail
  refine (lineCheck_off o ta tn tc v _ AT.out HH.out).mono ?_
  rintro e w2 ⟨rfl, b2⟩
  have B2 := hide' (BB.out.trans (b2.mono BB.out.size))
  clear x0 x1 x2 x3 x4 x5 x6 b2 hw1
  go_wp2
  go_ret
  exact ⟨rfl, B2.out⟩

/-- What is wrong with a rule that is looked at by pairs, or with a word. -/
def askE (S R : Nat) (ws : List Int) : Nat := if wordE S ws ≠ 0 then wordE S ws else if 16 < S ^ (2 * R) then 4 else 0
theorem askE_word {S R : Nat} {ws : List Int} (h : wordE S ws ≠ 0) : askE S R ws = wordE S ws := if_pos h
theorem askE_far {S R : Nat} {ws : List Int} (h : wordE S ws = 0) (h2 : 16 < S ^ (2 * R)) : askE S R ws = 4 := by unfold askE; rw [if_neg (by simpa using h), if_pos h2]
theorem askE_ok {S R : Nat} {ws : List Int} (h : wordE S ws = 0) (h2 : ¬ 16 < S ^ (2 * R)) : askE S R ws = 0 := by unfold askE; rw [if_neg (by simpa using h), if_neg h2]
theorem askE_zero {S R : Nat} {ws : List Int} (h : askE S R ws = 0) : wordE S ws = 0 ∧ S ^ (2 * R) ≤ 16 := by
  unfold askE at h
  split at h
  · contradiction
  · split at h
    · omega
    · exact ⟨by simpa using ‹¬ wordE S ws ≠ 0›, by omega⟩

set_option maxRecDepth 100000 in
set_option maxHeartbeats 1600000 in
theorem ontoCheck_line (S R : Nat) (T : List Int) (ta : Option Addr) (tn tc : Nat) (ws : List Int) (wa : Option Addr) (wn wc : Nat) (w : World) (hL : LineOk S R T) (hT : ArgP w T ta tn tc) (hW : ArgP w ws wa wn wc) :
    Calls Tryd.prog 124 #[.agg #[.int .i64 2, .int .i64 0, .int .i64 0, .int .i64 (S : Int), .int .i64 (R : Int), .slice ta tn tc, .string ⟨#[]⟩], .slice wa wn wc] w fun e w' => e = .returned (errOf (askE S R ws)) ∧ Below w.heap.size w w' := by
  obtain ⟨w1, hw1⟩ : ∃ w1, w.alloc (.cells #[.int .i64 2, .int .i64 0, .int .i64 0, .int .i64 (S : Int), .int .i64 (R : Int), .slice ta tn tc, .string ⟨#[]⟩] 24) = w1 := ⟨_, rfl⟩
  have BB := hide' (show Below w.heap.size w w1 by rw [← hw1]; exact (Below.refl _ _).alloc (Nat.le_refl _) _)
  have RX := hide' (show RB w.heap.size S R (.slice ta tn tc) w1 by rw [← hw1]; exact RB.new w S R _ _)
  have AT := hide' (hT.below BB.out)
  have AW := hide' (hW.below BB.out)
  have HL := hide' hL
  obtain ⟨n, hn⟩ : ∃ n, tn / S = n := ⟨_, rfl⟩
  have HN := hide' hn
  have PN := hide' (show S ^ (2 * R) = n by rw [← hn]; exact (places_of hL hT.len).symm)
  have t4 : tn ≤ 4096 := by rw [hT.len]; exact hL.max
  have HP := hide' (fun (wr : World) => placesOf_any S R ta tn tc n wr hL.s2 hL.s4 hn t4)
  clear hn
  rcases Nat.eq_zero_or_pos (wordE S ws) with he | he
  · have HE := hide' he
    clear hT hW hL he
    obtain ⟨x0, x1, x2, x3, x4, x5, x6⟩ := RX.out
    go_enter Tryd.func124, Tryd.ntmps124
    go_wp2_with fail
    refine (lineCheck_line S R T ta tn tc ws wa wn wc _ HL.out AT.out AW.out).mono ?_
    rw [HE.out, show errOf 0 = .nilIface from rfl]
    rintro e w2 ⟨rfl, b2⟩
    have C2 := hide' b2
    have B2 := hide' (BB.out.trans (b2.mono BB.out.size))
    clear x0 x1 x2 x3 x4 x5 x6 b2 hw1
    obtain ⟨x0, x1, x2, x3, x4, x5, x6⟩ := RX.out.next C2.out
    go_wp2_with fail
    refine (HP.out _).mono ?_
    rintro e w3 ⟨rfl, b3⟩
    have B3 := hide' (B2.out.trans (b3.mono B2.out.size))
    clear x0 x1 x2 x3 x4 x5 x6 b3
    by_cases d : (16 : Int) < (n : Int)
    · have Q := hide' (askE_far (R := R) HE.out (by rw [PN.out]; omega))
      go_wp2
      go_ret
      exact ⟨by rw [Q.out]; rfl, B3.out⟩
    · have Q := hide' (askE_ok (R := R) HE.out (by rw [PN.out]; omega))
      go_wp2
      go_ret
      exact ⟨by rw [Q.out]; rfl, B3.out⟩
  · have Q := hide' (askE_word (R := R) (show wordE S ws ≠ 0 by omega))
    obtain ⟨f, hf⟩ : ∃ f, wordE S ws = f := ⟨_, rfl⟩
    have HF := hide' hf
    have ER := hide' (show errOf (wordE S ws) = .iface 97 (.int .i64 (f : Int)) by rw [hf]; exact errOf_ne (by omega))
    have ER' := hide' (show errOf (askE S R ws) = .iface 97 (.int .i64 (f : Int)) by rw [Q.out]; exact ER.out)
    rw [ER'.out]
    clear hf hT hW hL he Q
    obtain ⟨x0, x1, x2, x3, x4, x5, x6⟩ := RX.out
    go_enter Tryd.func124, Tryd.ntmps124
    go_wp2_with fail
    refine (lineCheck_line S R T ta tn tc ws wa wn wc _ HL.out AT.out AW.out).mono ?_
    rw [ER.out]
    rintro e w2 ⟨rfl, b2⟩
    have B2 := hide' (BB.out.trans (b2.mono BB.out.size))
    clear x0 x1 x2 x3 x4 x5 x6 b2 hw1
    go_wp2
    go_ret
    exact ⟨rfl, B2.out⟩

set_option maxRecDepth 100000 in
set_option maxHeartbeats 1600000 in
theorem sum_any (a b : Int) (w : World) (h1 : 0 ≤ a) (h2 : a ≤ big) (h3 : 0 ≤ b) (h4 : b ≤ big) :
    Calls Tryd.prog 182 #[.int .i64 a, .int .i64 b] w fun e w' => e = .returned (.int .i64 (satB a b)) ∧ w' = w := by
  have M := hide' (show min (a + b) 1000000000000000001 = satB a b by unfold satB big; split <;> omega)
  unfold big at h2 h4
  go_enter Tryd.func182, Tryd.ntmps182
  go_wp2
  go_ret
  refine ⟨?_, rfl⟩
  show Ending.returned (.int .i64 (min (a + b) 1000000000000000001)) = _
  rw [M.out]

/-- A graph in a box of its own. -/
structure GB (p S R n : Nat) (v : Value) (w : World) : Prop where
  c0 : w.cell? ⟨p, 0, none⟩ = some (.int .i64 (S : Int))
  c1 : w.cell? ⟨p, 1, none⟩ = some (.int .i64 (2 * (R : Int)))
  c2 : w.cell? ⟨p, 2, none⟩ = some (.int .i64 (n : Int))
  c3 : w.cell? ⟨p, 3, none⟩ = some v
theorem GB.lt {p S R n : Nat} {v : Value} {w : World} (h : GB p S R n v w) : p < w.heap.size := by
  have h0 := h.c0
  unfold World.cell? at h0
  by_cases hp : p < w.heap.size
  · exact hp
  · simp only [Array.getElem?_eq_none (Nat.le_of_not_lt hp)] at h0
    cases h0
theorem GB.block {p S R n : Nat} {v : Value} {w w' : World} (h : GB p S R n v w) (e : w'.heap[p]? = w.heap[p]?) : GB p S R n v w' :=
  ⟨(World.cell?_of_block (w := w) (a := ⟨p, 0, none⟩) e).trans h.c0, (World.cell?_of_block (w := w) (a := ⟨p, 1, none⟩) e).trans h.c1, (World.cell?_of_block (w := w) (a := ⟨p, 2, none⟩) e).trans h.c2, (World.cell?_of_block (w := w) (a := ⟨p, 3, none⟩) e).trans h.c3⟩
theorem GB.next {p S R n : Nat} {v : Value} {w w' : World} (h : GB p S R n v w) (hb : Below w.heap.size w w') : GB p S R n v w' := h.block (hb.block p h.lt)
theorem GB.new (w : World) (S R n : Nat) (v : Value) (t : TypeId) : GB w.heap.size S R n v (w.alloc (.cells #[.int .i64 (S : Int), .int .i64 (2 * (R : Int)), .int .i64 (n : Int), v] t)) :=
  ⟨by rw [World.cell?_alloc_at _ _ _ _ rfl]; rfl, by rw [World.cell?_alloc_at _ _ _ _ rfl]; rfl, by rw [World.cell?_alloc_at _ _ _ _ rfl]; rfl, by rw [World.cell?_alloc_at _ _ _ _ rfl]; rfl⟩

set_option maxRecDepth 100000 in
set_option maxHeartbeats 1600000 in
theorem on_any (S R n : Nat) (T : List Int) (ta : Option Addr) (tn tc p c : Nat) (w : World) (hT : ArgP w T ta tn tc) (hn : 0 < n) (hw : p * S + c < tn) (ht : tn ≤ 4096) (hS4 : S ≤ 4) (hp : p ≤ 4096) (hc : c ≤ 4096) :
    Calls Tryd.prog 181 #[.agg #[.int .i64 (S : Int), .int .i64 (2 * (R : Int)), .int .i64 (n : Int), .slice ta tn tc], .int .i64 (p : Int), .int .i64 (c : Int)] w fun e w' => e = .returned (.tuple #[.int .i64 (((p * S + c) % n : Nat) : Int), .int .i64 (T.getD (p * S + c) 0)]) ∧ Below w.heap.size w w' := by
  obtain ⟨w1, hw1⟩ : ∃ w1, w.alloc (.cells #[.int .i64 (S : Int), .int .i64 (2 * (R : Int)), .int .i64 (n : Int), .slice ta tn tc] 144) = w1 := ⟨_, rfl⟩
  have BB := hide' (show Below w.heap.size w w1 by rw [← hw1]; exact (Below.refl _ _).alloc (Nat.le_refl _) _)
  have GX := hide' (show GB w.heap.size S R n (.slice ta tn tc) w1 by rw [← hw1]; exact GB.new w S R n _ _)
  have AT := hide' (hT.below BB.out)
  obtain ⟨j, hj⟩ : ∃ j, p * S + c = j := ⟨_, rfl⟩
  have q1 : (p : Int) * (S : Int) + (c : Int) = (j : Int) := by rw [← hj]; simp
  obtain ⟨k, hk⟩ : ∃ k, p * S = k := ⟨_, rfl⟩
  have q2 : (p : Int) * (S : Int) = (k : Int) := by rw [← hk]; simp
  have k4 : k ≤ 4096 := by omega
  have q3 : (k : Int) + (c : Int) = (j : Int) := by omega
  rw [hj] at hw ⊢
  obtain ⟨m, hm⟩ : ∃ m, j % n = m := ⟨_, rfl⟩
  have q4 : (j : Int).tmod (n : Int) = (m : Int) := by rw [Int.tmod_eq_emod_of_nonneg (by omega), ← hm]; simp
  have q5 : ¬ (n : Int) = 0 := by omega
  rw [hm]
  obtain ⟨g, off, rfl, hc'⟩ := AT.out.at hw
  obtain ⟨x, hx⟩ : ∃ x, T.getD j 0 = x := ⟨_, rfl⟩
  rw [hx] at hc' ⊢
  clear hj hk hm hx hT
  obtain ⟨y0, y1, y2, y3⟩ := GX.out
  go_enter Tryd.func181, Tryd.ntmps181
  go_wp2
  go_region
  go_wp2
  go_ret2
  exact ⟨rfl, by first | exact BB.out | (rw [hw1]; exact BB.out) | exact BB.out.drew⟩
end Go.Proofs.YtljdidimoagnhaaDoor

namespace Go.Proofs.YtljdidimoagnhaaDoor
open Go.RowKit
set_option linter.unusedVariables false

/-- The graph's box and a list of the call's own. -/
structure PS (w wr : World) (S R n : Nat) (v : Value) (g : Nat) (xs : List Int) : Prop where
  gb : GB w.heap.size S R n v wr
  bl : Below w.heap.size w wr
  cl : Cel wr g xs
  lt : w.heap.size < g
theorem PS.below {w wr w' : World} {S R n g : Nat} {v : Value} {xs : List Int} (h : PS w wr S R n v g xs) (hb : Below wr.heap.size wr w') : PS w w' S R n v g xs :=
  ⟨h.gb.next hb, h.bl.trans (hb.mono h.bl.size), h.cl.below hb, h.lt⟩
theorem heap_setCell_other (w : World) (g i k : Nat) (v : Value) (h : k ≠ g) : (w.setCell ⟨g, i, none⟩ v).heap[k]? = w.heap[k]? := RowKit.Below.heap_setCell _ _ _ _ h
theorem PS.set {w wr : World} {S R n g : Nat} {v : Value} {xs : List Int} (h : PS w wr S R n v g xs) (i : Nat) (x : Int) (hi : i < xs.length) : PS w (wr.setCell ⟨g, i, none⟩ (.int .i64 x)) S R n v g (xs.set i x) :=
  ⟨h.gb.block (heap_setCell_other _ _ _ _ _ (by have := h.lt; omega)), h.bl.setCell (Nat.le_of_lt h.lt) _, h.cl.set i x hi, h.lt⟩
theorem PS.setOther {w wr : World} {S R n g f : Nat} {v : Value} {xs : List Int} (h : PS w wr S R n v g xs) (hf : w.heap.size < f) (hne : g ≠ f) (i : Nat) (u : Value) : PS w (wr.setCell ⟨f, i, none⟩ u) S R n v g xs :=
  ⟨h.gb.block (heap_setCell_other _ _ _ _ _ (by omega)), h.bl.setCell (Nat.le_of_lt hf) _, h.cl.block (by simp) (heap_setCell_other _ _ _ _ _ hne), h.lt⟩
theorem PS.drew {w wr : World} {S R n g : Nat} {v : Value} {xs : List Int} (h : PS w wr S R n v g xs) : PS w wr.drew S R n v g xs :=
  ⟨⟨h.gb.c0, h.gb.c1, h.gb.c2, h.gb.c3⟩, h.bl.drew, ⟨h.cl.lt, h.cl.cells, h.cl.fz⟩, h.lt⟩
theorem PS.at {w wr : World} {S R n g : Nat} {v : Value} {xs : List Int} (h : PS w wr S R n v g xs) {i : Nat} (hi : i < xs.length) : wr.cell? ⟨g, i, none⟩ = some (.int .i64 (xs.getD i 0)) := h.cl.cells i hi
theorem PS.new {w wr : World} {S R n g : Nat} {v : Value} {xs : List Int} (h : PS w wr S R n v g xs) (N : Nat) (t : TypeId) : PS w (wr.alloc (.cells (madeCells #[.int .i64 0] N) t)) S R n v wr.heap.size (List.replicate N 0) :=
  ⟨h.gb.block (Below.heap_alloc _ _ _ h.gb.lt), h.bl.alloc h.bl.size _, Cel.made wr N t, Nat.lt_of_lt_of_le h.gb.lt (Nat.le_refl _)⟩
theorem PS.start (w : World) (S R n : Nat) (v : Value) (t t' : TypeId) : PS w ((w.alloc (.cells #[.int .i64 (S : Int), .int .i64 (2 * (R : Int)), .int .i64 (n : Int), v] t)).alloc (.cells (madeCells #[.int .i64 0] n) t')) S R n v (w.heap.size + 1) (List.replicate n 0) := by
  have b := GB.new w S R n v t
  have c := Cel.made (w.alloc (.cells #[.int .i64 (S : Int), .int .i64 (2 * (R : Int)), .int .i64 (n : Int), v] t)) n t'
  rw [World.size_alloc] at c
  exact ⟨b.block (Below.heap_alloc _ _ _ b.lt), ((Below.refl _ _).alloc (Nat.le_refl _) _).alloc (by simp) _, c, by omega⟩

set_option maxRecDepth 100000 in
set_option maxHeartbeats 6400000 in
theorem parents_any (S R n : Nat) (T : List Int) (ta : Option Addr) (tn tc : Nat) (ws : List Int) (wa : Option Addr) (L wc : Nat) (w : World) (hT : ArgP w T ta tn tc) (hW : ArgP w ws wa L wc) (hn : 0 < n) (hn16 : n ≤ 16) (hS : 2 ≤ S) (hS4 : S ≤ 4) (htn : tn = n * S) (hl : L ≤ 1000) :
    Calls Tryd.prog 133 #[.agg #[.int .i64 (S : Int), .int .i64 (2 * (R : Int)), .int .i64 (n : Int), .slice ta tn tc], .slice wa L wc] w fun e w' => e = .returned (.int .i64 (parL S n T ws)) ∧ Below w.heap.size w w' := by
  have AT := hide' hT
  have AW := hide' hW
  have HTN := hide' htn
  have HLN := hide' hW.len
  have LL := hide' (fun i => cntL_length S n T ws i)
  have LS := hide' (fun i => cntL_small S n T ws i)
  have hmk := run_make_row' (P := Tryd.prog) 22 3 (.int .i64 0) 8 Tryd.underlying22 info_int rfl .i64 .i64 n (by omega) (by omega)
  have P0 := hide' (PS.start w S R n (.slice ta tn tc) 144 3)
  obtain ⟨y0, y1, y2, y3⟩ := GB.new w S R n (.slice ta tn tc) 144
  obtain ⟨ans, hans⟩ : ∃ ans, parL S n T ws = ans := ⟨_, rfl⟩
  have ANS := hide' hans
  rw [hans]
  clear hT hW htn hans
  go_enter Tryd.func133, Tryd.ntmps133
  go_wp2
  clear y0 y1 y2 y3
  go_loopw [23] (fun iv wr => ∃ i : Nat, iv = .int .i64 (i : Int) ∧ i ≤ n ∧ Hid (PS w wr S R n (.slice ta tn tc) (w.heap.size + 1) (mixL (List.replicate n 1) (List.replicate n 0) i))) (fun iv _ => n - (intOf iv).toNat)
  case atStart => exact ⟨0, rfl, by omega, hide' (by rw [mixL_zero]; exact P0.out)⟩
  case round =>
    clear P0
    obtain ⟨i, rfl, hi, HH⟩ := hrel
    by_cases d : (i : Int) < (n : Int)
    · have HC := HH.out.at (i := i) (by rw [mixL_length]; simp; omega)
      have HF := HH.out.cl.fz i
      go_wp2
      refine ⟨⟨i + 1, by go_num, by omega, hide' ?_⟩, by simp [intOf]; omega⟩
      have := HH.out.set i 1 (by rw [mixL_length]; simp; omega)
      rw [mixL_set _ _ _ (show (List.replicate n (1 : Int)).getD i 0 = 1 by simp [List.getD, show i < n by omega])] at this
      exact this
    · have P1 := hide' (show PS w wr S R n (.slice ta tn tc) (w.heap.size + 1) (cntL S n T ws 0) by
        have := HH.out
        rw [show i = (List.replicate n (0 : Int)).length by simp; omega, mixL_full _ _ (by simp)] at this
        exact this)
      clear HH
      go_wp2
      go_loopw [5, 32] (fun cv iv wr => ∃ i g : Nat, cv = .slice (some ⟨g, 0, none⟩) n n ∧ iv = .int .i64 (i : Int) ∧ i ≤ L ∧ Hid (PS w wr S R n (.slice ta tn tc) g (cntL S n T ws i))) (fun _ iv _ => L - (intOf iv).toNat)
      case atStart => exact ⟨0, _, rfl, rfl, by omega, P1⟩
      case round =>
        clear P1
        obtain ⟨i, g, rfl, rfl, hi, H1⟩ := hrel
        by_cases d : (i : Int) < (L : Int)
        · obtain ⟨ga, off, rfl, hcw⟩ := (AW.out.below H1.out.bl).at (k := i) (by omega)
          obtain ⟨s, hs⟩ : ∃ s, ws.getD i 0 = s := ⟨_, rfl⟩
          have HS := hide' hs
          rw [hs] at hcw
          have P1 := hide' (H1.out.new n 3)
          have Q1 := hide' (H1.out.below ((Below.refl _ _).alloc (Nat.le_refl _) (.cells (madeCells #[.int .i64 0] n) 3)))
          obtain ⟨f, hf⟩ : ∃ f, wr.heap.size = f := ⟨_, rfl⟩
          have fl : w.heap.size < f := by have := H1.out.gb.lt; omega
          have fg : g ≠ f := by have := H1.out.cl.lt; omega
          obtain ⟨y0, y1, y2, y3⟩ := H1.out.gb
          rw [hf] at P1
          clear hs H1
          go_wp2
          try rw [hf]
          clear y0 y1 y2 y3 hcw
          go_loopw [41] (fun iv wr => ∃ q : Nat, iv = .int .i64 (q : Int) ∧ q ≤ n ∧ Hid (PS w wr S R n (.slice ta tn tc) g (cntL S n T ws i) ∧ PS w wr S R n (.slice ta tn tc) f (cntS S n T (cntL S n T ws i) s (q * S)))) (fun iv _ => n - (intOf iv).toNat)
          case atStart => exact ⟨0, rfl, by omega, hide' ⟨Q1.out, by rw [Nat.zero_mul]; exact P1.out⟩⟩
          case round =>
            clear P1 Q1 hf
            obtain ⟨q, rfl, hq, H2⟩ := hrel
            by_cases d : (q : Int) < (n : Int)
            · have hcq := H2.out.1.at (i := q) (by rw [LL.out]; omega)
              obtain ⟨x, hx⟩ : ∃ x, (cntL S n T ws i).getD q 0 = x := ⟨_, rfl⟩
              have HX := hide' hx
              have XS := hide' (show 0 ≤ x ∧ x ≤ big by rw [← hx]; exact LS.out i q)
              rw [hx] at hcq
              obtain ⟨y0, y1, y2, y3⟩ := H2.out.1.gb
              clear hx
              go_wp2
              clear y0 y1 y2 y3 hcq
              go_loopw [48] (fun iv wr => ∃ c : Nat, iv = .int .i64 (c : Int) ∧ c ≤ S ∧ Hid (PS w wr S R n (.slice ta tn tc) g (cntL S n T ws i) ∧ PS w wr S R n (.slice ta tn tc) f (cntS S n T (cntL S n T ws i) s (q * S + c)))) (fun iv _ => S - (intOf iv).toNat)
              case atStart => exact ⟨0, rfl, by omega, H2⟩
              case round =>
                clear H2
                obtain ⟨c, rfl, hc, H3⟩ := hrel
                by_cases d : (c : Int) < (S : Int)
                · obtain ⟨y0, y1, y2, y3⟩ := H3.out.1.gb
                  obtain ⟨j, hj⟩ : ∃ j, q * S + c = j := ⟨_, rfl⟩
                  have jt : j < tn := by
                    rw [HTN.out, ← hj]
                    have : (q + 1) * S ≤ n * S := Nat.mul_le_mul_right _ (by omega)
                    rw [Nat.add_mul] at this
                    omega
                  have jd := hide' (show j / S = q by rw [← hj, Nat.mul_comm, Nat.mul_add_div (by omega), Nat.div_eq_of_lt (by omega)]; omega)
                  have t64 : tn ≤ 64 := by rw [HTN.out]; exact Nat.mul_le_mul hn16 hS4
                  have ON := hide' (on_any S R n T ta tn tc q c wr (AT.out.below H3.out.1.bl) hn (by rw [hj]; exact jt) (by omega) hS4 (by omega) (by omega))
                  rw [hj] at ON
                  obtain ⟨m, hm⟩ : ∃ m, j % n = m := ⟨_, rfl⟩
                  have mn : m < n := by rw [← hm]; exact Nat.mod_lt _ hn
                  obtain ⟨t, ht⟩ : ∃ t, T.getD j 0 = t := ⟨_, rfl⟩
                  rw [hm, ht] at ON
                  have NX := hide' (show cntS S n T (cntL S n T ws i) s (j + 1) = if t = s then (cntS S n T (cntL S n T ws i) s j).set m (satB ((cntS S n T (cntL S n T ws i) s j).getD m 0) x) else cntS S n T (cntL S n T ws i) s j by
                    rw [cntS, ht, hm, jd.out, HX.out])
                  rw [hj] at H3
                  have JJ := hide' (show q * S + (c + 1) = j + 1 by omega)
                  clear hm ht jd jt
                  go_wp2_with fail
                  refine ON.out.mono ?_
                  rintro e w5 ⟨rfl, b5⟩
                  have H5 := hide' (show PS w w5 S R n (.slice ta tn tc) g (cntL S n T ws i) ∧ PS w w5 S R n (.slice ta tn tc) f (cntS S n T (cntL S n T ws i) s j) from ⟨H3.out.1.below b5, H3.out.2.below b5⟩)
                  clear y0 y1 y2 y3 b5 ON H3
                  obtain ⟨y, hy⟩ : ∃ y, (cntS S n T (cntL S n T ws i) s j).getD m 0 = y := ⟨_, rfl⟩
                  have YS := hide' (show 0 ≤ y ∧ y ≤ big by rw [← hy]; exact cntS_small S n T _ s (LS.out i) j m)
                  have cy := H5.out.2.at (i := m) (by rw [cntS_length]; exact mn)
                  have cf := H5.out.2.cl.fz m
                  rw [hy] at cy NX
                  clear hy
                  by_cases dts : t = s
                  · have N1 := hide' (show cntS S n T (cntL S n T ws i) s (j + 1) = (cntS S n T (cntL S n T ws i) s j).set m (satB y x) by rw [NX.out, if_pos dts])
                    have e1 : (t == s) = true := by simp [dts]
                    clear dts NX
                    go_wp2_with fail
                    refine (sum_any y x _ YS.out.1 YS.out.2 XS.out.1 XS.out.2).mono ?_
                    rintro e w6 ⟨rfl, rfl⟩
                    go_wp2
                    refine ⟨⟨c + 1, by go_num, by omega, hide' ?_⟩, by simp [intOf]; omega⟩
                    rw [JJ.out, N1.out]
                    exact ⟨H5.out.1.setOther fl fg _ _, H5.out.2.set m _ (by rw [cntS_length]; exact mn)⟩
                  · have N1 := hide' (show cntS S n T (cntL S n T ws i) s (j + 1) = cntS S n T (cntL S n T ws i) s j by rw [NX.out, if_neg dts])
                    have e1 : (t == s) = false := by simp [dts]
                    clear dts NX
                    go_wp2
                    refine ⟨⟨c + 1, by go_num, by omega, hide' ?_⟩, by simp [intOf]; omega⟩
                    rw [JJ.out, N1.out]
                    exact H5.out
                · have H4 := hide' (show PS w wr S R n (.slice ta tn tc) g (cntL S n T ws i) ∧ PS w wr S R n (.slice ta tn tc) f (cntS S n T (cntL S n T ws i) s ((q + 1) * S)) by
                    have := H3.out
                    rw [show q * S + c = (q + 1) * S by rw [Nat.add_mul]; omega] at this
                    exact this)
                  clear H3
                  go_wp2
                  exact ⟨⟨q + 1, by go_num, by omega, H4⟩, by simp [intOf]; omega⟩
            · have H4 := hide' (show PS w wr S R n (.slice ta tn tc) f (cntL S n T ws (i + 1)) by
                have := H2.out.2
                rw [show q = n by omega, ← HS.out] at this
                exact this)
              clear H2
              go_wp2
              exact ⟨⟨i + 1, f, rfl, by go_num, by omega, H4⟩, by simp [intOf]; omega⟩
        · have HI := hide' (show i = ws.length by have := HLN.out; omega)
          obtain ⟨xs, hxs⟩ : ∃ xs, cntL S n T ws i = xs := ⟨_, rfl⟩
          have XL := hide' (show xs.length = n by rw [← hxs]; exact LL.out i)
          have XB := hide' (show smallB xs by rw [← hxs]; exact LS.out i)
          have AN := hide' (show sumB xs n = ans by rw [← ANS.out, ← hxs, HI.out]; rfl)
          rw [hxs] at H1
          clear hxs
          go_wp2
          go_loopw [15, 76] (fun tv iv wr => ∃ k : Nat, tv = .int .i64 (sumB xs k) ∧ iv = .int .i64 (k : Int) ∧ k ≤ n ∧ Hid (PS w wr S R n (.slice ta tn tc) g xs)) (fun _ iv _ => n - (intOf iv).toNat)
          case atStart => exact ⟨0, rfl, rfl, by omega, H1⟩
          case round =>
            clear H1
            obtain ⟨k, rfl, rfl, hk, H2⟩ := hrel
            by_cases d : (k : Int) < (n : Int)
            · have hck := H2.out.at (i := k) (by rw [XL.out]; omega)
              obtain ⟨y, hy⟩ : ∃ y, xs.getD k 0 = y := ⟨_, rfl⟩
              have YS := hide' (show 0 ≤ y ∧ y ≤ big by rw [← hy]; exact XB.out k)
              have TS := hide' (sumB_in xs XB.out k)
              have NX := hide' (show sumB xs (k + 1) = satB (sumB xs k) y by rw [sumB, hy])
              rw [hy] at hck
              clear hy
              go_wp2_with fail
              refine (sum_any _ y _ TS.out.1 TS.out.2 YS.out.1 YS.out.2).mono ?_
              rintro e w6 ⟨rfl, rfl⟩
              go_wp2
              exact ⟨⟨k + 1, by rw [NX.out], by go_num, by omega, H2⟩, by simp [intOf]; omega⟩
            · have E := hide' (show sumB xs k = ans by rw [show k = n by omega]; exact AN.out)
              go_wp2
              go_ret
              exact ⟨by rw [← E.out]; rfl, H2.out.bl⟩
end Go.Proofs.YtljdidimoagnhaaDoor

