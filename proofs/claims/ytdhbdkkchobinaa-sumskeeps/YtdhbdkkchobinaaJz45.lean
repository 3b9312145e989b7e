/-
  What the last text of this claim leans on, part 45: Oi1.
-/
import Derived.Test.YtdhbdkkchobinaaJz43
import Derived.Test.YtdhbdkkchobinaaJz44
import Derived.Test.YtdhbdkkchobinaaJz15
namespace Go.Proofs.Ytdhbdkkchobinaa
open Go.RowKit
set_option linter.unusedVariables false

theorem small_radius' {S p : Nat} (hS : 2 ≤ S) (h : S ^ (2 * p + 1) ≤ 4096) : p ≤ 5 := by
  rcases Nat.lt_or_ge 5 p with q | q
  · have h1 : 2 ^ 13 ≤ S ^ (2 * p + 1) := Nat.le_trans (Nat.pow_le_pow_left hS 13) (Nat.pow_le_pow_right (by omega) (by omega))
    omega
  · exact q
theorem Tab.argI {w : World} {v : Value} {xs : List Int} (h : Tab w v xs) (hm : xs.length ≤ maxLen) : ∃ a c, v = .slice a xs.length c ∧ ArgP w xs a xs.length c := by
  rcases h with ⟨h1, h2⟩ | ⟨g, cap, h1, h2, h3⟩
  · subst h1
    exact ⟨none, 0, h2, rfl, hm, fun k hk => by simp at hk⟩
  · exact ⟨some ⟨g, 0, none⟩, cap, h1, rfl, hm, fun k hk => ⟨g, 0, rfl, h2, by rw [Nat.zero_add]; exact h3 k hk⟩⟩
theorem fact_undo : undoAt 2 0 1 [1, 0] 0 = some [1, 0] := by decide
/-- onto.Inverse at the closed fact. -/
def FactInv (W : World) (e : Ending) (w' : World) : Prop := ∃ g, e = .returned (.tuple #[.agg #[.int .i64 2, .int .i64 0, .int .i64 0, .int .i64 2, .int .i64 0, .slice (some ⟨g, 0, none⟩) 2 2, .string ⟨#[]⟩], .nilIface]) ∧ Cel w' g [1, 0] ∧ Below W.heap.size W w'
theorem fact_inv (g : Nat) (W : World) (hA : ArgP W [1, 0] (some ⟨g, 0, none⟩) 2 2) :
    Calls Try.prog 14 #[.agg #[.int .i64 2, .int .i64 0, .int .i64 0, .int .i64 2, .int .i64 0, .slice (some ⟨g, 0, none⟩) 2 2, .string ⟨#[]⟩]] W (FactInv W) := by
  refine (inverse_ok 2 0 1 [1, 0] (some ⟨g, 0, none⟩) 2 2 W fact_line hA fact_ask rfl).mono ?_
  unfold InvAll FactInv
  rintro e w' (⟨⟨u, full, r⟩, _⟩ | ⟨_, hpost⟩)
  · exact absurd r (fact_ring u full)
  · unfold InvPost at hpost
    obtain ⟨⟨q, t, g', hE, hq, hn, rfl, hc, hg⟩ | ⟨hn, _⟩, b⟩ := hpost
    · rcases Nat.eq_zero_or_pos q with z | z
      · subst z
        rw [fact_undo] at hq
        injection hq with hq
        subst hq
        exact ⟨g', rfl, hc, b⟩
      · have := hn 0 z
        rw [fact_undo] at this
        cases this
    · have := hn 0 (by simp)
      rw [fact_undo] at this
      cases this
/-- A step that goes well, as a list that may be handed on. -/
def StepPost (xs : List Int) (W : World) (e : Ending) (w' : World) : Prop := ∃ a c, e = .returned (.tuple #[.slice a xs.length c, .nilIface]) ∧ ArgP w' xs a xs.length c ∧ Below W.heap.size W w'
theorem step_well (S R : Nat) (T : List Int) (ta : Option Addr) (tn tc : Nat) (ws : List Int) (wa : Option Addr) (wc : Nat) (w : World) (hL : LineOk S R T) (hT : ArgP w T ta tn tc) (hW : ArgP w ws wa ws.length wc) (he : wordE S ws = 0) :
    Calls Try.prog 9 #[.agg #[.int .i64 2, .int .i64 0, .int .i64 0, .int .i64 (S : Int), .int .i64 (R : Int), .slice ta tn tc, .string ⟨#[]⟩], .slice wa ws.length wc] w (StepPost (stepL S R T ws) w) := by
  refine (lineStep_ok S R T ta tn tc ws wa wc w hL hT hW he).mono ?_
  unfold ListPost StepPost
  rintro e w' ⟨v, rfl, ht, _, b⟩
  obtain ⟨a, c, rfl, h⟩ := ht.argI (by rw [stepL_length]; have := (wordE_zero he).1; unfold maxLen; omega)
  exact ⟨a, c, rfl, h, b⟩
theorem word_step {S R : Nat} {T ws : List Int} (hL : LineOk S R T) (he : wordE S ws = 0) : wordE S (stepL S R T ws) = 0 := by
  obtain ⟨h1, h2⟩ := wordE_zero he
  exact wordE_ok (by rw [stepL_length]; omega) (stepL_ok (by have := hL.s2; omega) hL.lenI hL.ok h2)
theorem IntsEq (xs : List Int) (a b : Option Addr) (n c m d : Nat) (w : World) (hA : ArgP w xs a n c) (hB : ArgP w xs b m d) :
    Calls Try.prog 11 #[.slice a n c, .slice b m d] w fun e w' => e = .returned (.bool true) ∧ Below w.heap.size w w' :=
  (Ints_any xs xs a b n c m d w hA hB).mono fun e w' ⟨h1, q, h2⟩ => ⟨by rw [h1]; simp, by rw [h2]; exact below_drewN (Below.refl _ _) q⟩

set_option maxRecDepth 100000 in
set_option maxHeartbeats 6400000 in
theorem law_undoes_off (o : Out) (ta : Option Addr) (tn tc : Nat) (v : Value) (w : World) (hR : ArgR w o ta tn tc) (h : ¬ (Good o ∧ o.kind = 2)) :
    Calls Try.prog 5 #[.agg #[.int .i64 o.kind, .int .i64 o.born, .int .i64 o.stay, .int .i64 o.states, .int .i64 o.radius, .slice ta tn tc, .string o.turns], v] w fun e w' => e = .returned (.bool true) ∧ Below w.heap.size w w' := by
  obtain ⟨w1, hw1⟩ : ∃ w1, w.alloc (.cells #[.int .i64 o.kind, .int .i64 o.born, .int .i64 o.stay, .int .i64 o.states, .int .i64 o.radius, .slice ta tn tc, .string o.turns] 28) = w1 := ⟨_, rfl⟩
  have BB := hide' (show Below w.heap.size w w1 by rw [← hw1]; exact (Below.refl _ _).alloc (Nat.le_refl _) _)
  have RX := hide' (show RBo w.heap.size o (.slice ta tn tc) w1 by rw [← hw1]; exact RBo.new w o _ _)
  have AT := hide' (show ArgR w1 o ta tn tc by rw [← hw1]; exact hR.alloc _)
  have HH := hide' h
  clear hR h
  obtain ⟨w2, hw2⟩ : ∃ w2, w1.alloc (.cells #[.int .i64 1, .int .i64 0] 3) = w2 := ⟨_, rfl⟩
  have C0 := hide' (show Below w1.heap.size w1 w2 by rw [← hw2]; exact (Below.refl _ _).alloc (Nat.le_refl _) _)
  have FA := hide' (show ArgP w2 [1, 0] (some ⟨w1.heap.size, 0, none⟩) 2 2 by
    refine ⟨rfl, by unfold maxLen; omega, fun k hk => ⟨w1.heap.size, 0, rfl, by rw [← hw2]; simp, ?_⟩⟩
    rw [← hw2, World.cell?_alloc_at _ _ _ _ rfl]
    have : k = 0 ∨ k = 1 := by simp at hk; omega
    rcases this with rfl | rfl <;> rfl)
  have FO := hide' (fact_inv w1.heap.size w2 FA.out)
  obtain ⟨x0, x1, x2, x3, x4, x5, x6⟩ := RX.out.next C0.out
  go_enter Try.func5, Try.ntmps5
  go_wp2_with fail
  refine (show Calls Try.prog _ _ _ _ from FO.out).mono ?_
  unfold FactInv
  rintro e w3 ⟨gf, rfl, cf, b⟩
  have C1' := hide' (C0.out.trans (b.mono C0.out.size))
  clear b x0 x1 x2 x3 x4 x5 x6 C0 FO FA hw1 hw2
  have C1 := hide' (C1'.out.alloc C1'.out.size (.cells #[.int .i64 2, .int .i64 0, .int .i64 0, .int .i64 2, .int .i64 0, .slice (some ⟨gf, 0, none⟩) 2 2, .string ⟨#[]⟩] 28))
  have FQ := hide' (RB.new w3 2 0 (.slice (some ⟨gf, 0, none⟩) 2 2) 28)
  have cf4 := cf.below ((Below.refl _ w3).alloc (Nat.le_refl _) (.cells #[.int .i64 2, .int .i64 0, .int .i64 0, .int .i64 2, .int .i64 0, .slice (some ⟨gf, 0, none⟩) 2 2, .string ⟨#[]⟩] 28))
  have yc := cf4.cells 0 (by simp)
  rw [show ([1, 0] : List Int).getD 0 0 = 1 from rfl] at yc
  clear C1' cf cf4
  obtain ⟨y0, y1, y2, y3, y4, y5, y6⟩ := FQ.out
  obtain ⟨x0, x1, x2, x3, x4, x5, x6⟩ := RX.out.next C1.out
  go_wp2_with fail
  refine (inverse_off o ta tn tc _ (AT.out.below C1.out) HH.out).mono ?_
  unfold InvErr
  rintro e w5 ⟨rfl, b⟩
  have C2 := hide' (C1.out.trans (b.mono C1.out.size))
  have C3 := hide' (C2.out.alloc C2.out.size (.cells #[.int .i64 0, .int .i64 0, .int .i64 0, .int .i64 0, .int .i64 0, .slice none 0 0, .string ⟨#[]⟩] 28))
  clear b x0 x1 x2 x3 x4 x5 x6 y0 y1 y2 y3 y4 y5 y6 yc FQ C1
  go_wp2
  go_ret
  exact ⟨rfl, BB.out.trans (C3.out.mono BB.out.size)⟩

set_option maxRecDepth 100000 in
set_option maxHeartbeats 6400000 in
theorem law_undoes_bad (S R : Nat) (T : List Int) (ta : Option Addr) (tn tc : Nat) (v : Value) (w : World) (hL : LineOk S R T) (hT : ArgP w T ta tn tc) (he : askE S R [] ≠ 0) :
    Calls Try.prog 5 #[.agg #[.int .i64 2, .int .i64 0, .int .i64 0, .int .i64 (S : Int), .int .i64 (R : Int), .slice ta tn tc, .string ⟨#[]⟩], v] w fun e w' => e = .returned (.bool true) ∧ Below w.heap.size w w' := by
  obtain ⟨w1, hw1⟩ : ∃ w1, w.alloc (.cells #[.int .i64 2, .int .i64 0, .int .i64 0, .int .i64 (S : Int), .int .i64 (R : Int), .slice ta tn tc, .string ⟨#[]⟩] 28) = w1 := ⟨_, rfl⟩
  have BB := hide' (show Below w.heap.size w w1 by rw [← hw1]; exact (Below.refl _ _).alloc (Nat.le_refl _) _)
  have RX := hide' (show RB w.heap.size S R (.slice ta tn tc) w1 by rw [← hw1]; exact RB.new w S R _ _)
  have AT := hide' (hT.below BB.out)
  have HL := hide' hL
  have HE := hide' he
  clear hT hL he
  obtain ⟨w2, hw2⟩ : ∃ w2, w1.alloc (.cells #[.int .i64 1, .int .i64 0] 3) = w2 := ⟨_, rfl⟩
  have C0 := hide' (show Below w1.heap.size w1 w2 by rw [← hw2]; exact (Below.refl _ _).alloc (Nat.le_refl _) _)
  have FA := hide' (show ArgP w2 [1, 0] (some ⟨w1.heap.size, 0, none⟩) 2 2 by
    refine ⟨rfl, by unfold maxLen; omega, fun k hk => ⟨w1.heap.size, 0, rfl, by rw [← hw2]; simp, ?_⟩⟩
    rw [← hw2, World.cell?_alloc_at _ _ _ _ rfl]
    have : k = 0 ∨ k = 1 := by simp at hk; omega
    rcases this with rfl | rfl <;> rfl)
  have FO := hide' (fact_inv w1.heap.size w2 FA.out)
  obtain ⟨x0, x1, x2, x3, x4, x5, x6⟩ := RX.out.next C0.out
  go_enter Try.func5, Try.ntmps5
  go_wp2_with fail
  refine (show Calls Try.prog _ _ _ _ from FO.out).mono ?_
  unfold FactInv
  rintro e w3 ⟨gf, rfl, cf, b⟩
  have C1' := hide' (C0.out.trans (b.mono C0.out.size))
  clear b x0 x1 x2 x3 x4 x5 x6 C0 FO FA hw1 hw2
  have C1 := hide' (C1'.out.alloc C1'.out.size (.cells #[.int .i64 2, .int .i64 0, .int .i64 0, .int .i64 2, .int .i64 0, .slice (some ⟨gf, 0, none⟩) 2 2, .string ⟨#[]⟩] 28))
  have FQ := hide' (RB.new w3 2 0 (.slice (some ⟨gf, 0, none⟩) 2 2) 28)
  have cf4 := cf.below ((Below.refl _ w3).alloc (Nat.le_refl _) (.cells #[.int .i64 2, .int .i64 0, .int .i64 0, .int .i64 2, .int .i64 0, .slice (some ⟨gf, 0, none⟩) 2 2, .string ⟨#[]⟩] 28))
  have yc := cf4.cells 0 (by simp)
  rw [show ([1, 0] : List Int).getD 0 0 = 1 from rfl] at yc
  clear C1' cf cf4
  obtain ⟨y0, y1, y2, y3, y4, y5, y6⟩ := FQ.out
  obtain ⟨x0, x1, x2, x3, x4, x5, x6⟩ := RX.out.next C1.out
  go_wp2_with fail
  refine (inverse_bad S R T ta tn tc _ HL.out (AT.out.below C1.out) HE.out).mono ?_
  unfold InvErr
  rintro e w5 ⟨rfl, b⟩
  have C2 := hide' (C1.out.trans (b.mono C1.out.size))
  have C3 := hide' (C2.out.alloc C2.out.size (.cells #[.int .i64 0, .int .i64 0, .int .i64 0, .int .i64 0, .int .i64 0, .slice none 0 0, .string ⟨#[]⟩] 28))
  clear b x0 x1 x2 x3 x4 x5 x6 y0 y1 y2 y3 y4 y5 y6 yc FQ C1
  go_wp2
  go_ret
  exact ⟨rfl, BB.out.trans (C3.out.mono BB.out.size)⟩

set_option maxRecDepth 100000 in
set_option maxHeartbeats 6400000 in
theorem law_undoes_ok (S R : Nat) (T : List Int) (ta : Option Addr) (tn tc : Nat) (ws : List Int) (wa : Option Addr) (wc : Nat) (w : World) (hL : LineOk S R T) (hT : ArgP w T ta tn tc) (hW : ArgP w ws wa ws.length wc) (he : askE S R [] = 0) :
    Calls Try.prog 5 #[.agg #[.int .i64 2, .int .i64 0, .int .i64 0, .int .i64 (S : Int), .int .i64 (R : Int), .slice ta tn tc, .string ⟨#[]⟩], .slice wa ws.length wc] w fun e w' => e = .returned (.bool true) ∧ Below w.heap.size w w' := by
  obtain ⟨w1, hw1⟩ : ∃ w1, w.alloc (.cells #[.int .i64 2, .int .i64 0, .int .i64 0, .int .i64 (S : Int), .int .i64 (R : Int), .slice ta tn tc, .string ⟨#[]⟩] 28) = w1 := ⟨_, rfl⟩
  have BB := hide' (show Below w.heap.size w w1 by rw [← hw1]; exact (Below.refl _ _).alloc (Nat.le_refl _) _)
  have RX := hide' (show RB w.heap.size S R (.slice ta tn tc) w1 by rw [← hw1]; exact RB.new w S R _ _)
  have AT := hide' (hT.below BB.out)
  have HL := hide' hL
  have HE := hide' he
  have AW := hide' (hW.below BB.out)
  have s2 := hL.s2
  have g3 : 0 < S ^ (2 * R) := Nat.pow_pos (by omega)
  have IV := hide' (fun (W : World) (h : ArgP W T ta tn tc) => inverse_ok S R (S ^ (2 * R)) T ta tn tc W hL h he rfl)
  have UO := hide' (fun (hno : ∀ k, ¬ TurnAt S (S ^ (2 * R)) T k) (q : Nat) (t : List Int) (hu : undoAt S R (S ^ (2 * R)) T q = some t) => undo_ok (by omega) hL.len hL.ok hno hu)
  have U1 := hide' (fun (q : Nat) (t xs : List Int) (hu : undoAt S R (S ^ (2 * R)) T q = some t) (hx : cellsOk S xs) => undo_step (by omega) hL.len hL.ok hu hx)
  have U2 := hide' (fun (hno : ∀ k, ¬ TurnAt S (S ^ (2 * R)) T k) (q : Nat) (t xs : List Int) (hu : undoAt S R (S ^ (2 * R)) T q = some t) (hx : cellsOk S xs) => undo_other (by omega) hL.len hL.ok hno hu hx)
  have SR := hide' (fun (xs : List Int) (a : Option Addr) (c : Nat) (W : World) (h : ArgP W T ta tn tc) (hx : ArgP W xs a xs.length c) (h0 : wordE S xs = 0) => step_well S R T ta tn tc xs a c W hL h hx h0)
  have SB := hide' (fun (xs : List Int) (a : Option Addr) (c : Nat) (W : World) (h : ArgP W T ta tn tc) (hx : ArgP W xs a xs.length c) (h0 : wordE S xs ≠ 0) => lineStep_word S R T ta tn tc xs a c W hL h hx h0)
  clear hT hL he hW
  obtain ⟨w2, hw2⟩ : ∃ w2, w1.alloc (.cells #[.int .i64 1, .int .i64 0] 3) = w2 := ⟨_, rfl⟩
  have C0 := hide' (show Below w1.heap.size w1 w2 by rw [← hw2]; exact (Below.refl _ _).alloc (Nat.le_refl _) _)
  have FA := hide' (show ArgP w2 [1, 0] (some ⟨w1.heap.size, 0, none⟩) 2 2 by
    refine ⟨rfl, by unfold maxLen; omega, fun k hk => ⟨w1.heap.size, 0, rfl, by rw [← hw2]; simp, ?_⟩⟩
    rw [← hw2, World.cell?_alloc_at _ _ _ _ rfl]
    have : k = 0 ∨ k = 1 := by simp at hk; omega
    rcases this with rfl | rfl <;> rfl)
  have FO := hide' (fact_inv w1.heap.size w2 FA.out)
  obtain ⟨x0, x1, x2, x3, x4, x5, x6⟩ := RX.out.next C0.out
  go_enter Try.func5, Try.ntmps5
  go_wp2_with fail
  refine (show Calls Try.prog _ _ _ _ from FO.out).mono ?_
  unfold FactInv
  rintro e w3 ⟨gf, rfl, cf, b⟩
  have C1' := hide' (C0.out.trans (b.mono C0.out.size))
  clear b x0 x1 x2 x3 x4 x5 x6 C0 FO FA hw1 hw2
  have C1 := hide' (C1'.out.alloc C1'.out.size (.cells #[.int .i64 2, .int .i64 0, .int .i64 0, .int .i64 2, .int .i64 0, .slice (some ⟨gf, 0, none⟩) 2 2, .string ⟨#[]⟩] 28))
  have FQ := hide' (RB.new w3 2 0 (.slice (some ⟨gf, 0, none⟩) 2 2) 28)
  have cf4 := cf.below ((Below.refl _ w3).alloc (Nat.le_refl _) (.cells #[.int .i64 2, .int .i64 0, .int .i64 0, .int .i64 2, .int .i64 0, .slice (some ⟨gf, 0, none⟩) 2 2, .string ⟨#[]⟩] 28))
  have yc := cf4.cells 0 (by simp)
  rw [show ([1, 0] : List Int).getD 0 0 = 1 from rfl] at yc
  clear C1' cf cf4
  obtain ⟨y0, y1, y2, y3, y4, y5, y6⟩ := FQ.out
  obtain ⟨x0, x1, x2, x3, x4, x5, x6⟩ := RX.out.next C1.out
  go_wp2_with fail
  refine (IV.out _ (AT.out.below C1.out)).mono ?_
  unfold InvAll
  rintro e w5 (⟨_, rfl, b⟩ | ⟨noring, hpost⟩)
  · have C2 := hide' (C1.out.trans (b.mono C1.out.size))
    have C3 := hide' (C2.out.alloc C2.out.size (.cells #[.int .i64 0, .int .i64 0, .int .i64 0, .int .i64 0, .int .i64 0, .slice none 0 0, .string ⟨#[]⟩] 28))
    clear b x0 x1 x2 x3 x4 x5 x6 y0 y1 y2 y3 y4 y5 y6 yc FQ C1
    go_wp2
    go_ret
    exact ⟨rfl, BB.out.trans (C3.out.mono BB.out.size)⟩
  · have NT := hide' (no_turn g3 noring)
    unfold InvPost at hpost
    obtain ⟨⟨q, t, g, hE, hq, hn, rfl, hc, hg⟩ | ⟨hn, rfl⟩, b⟩ := hpost
    · have C2 := hide' (C1.out.trans (b.mono C1.out.size))
      obtain ⟨tok, tl⟩ := UO.out NT.out q t hq
      have LQ := hide' (show LineOk S q t from ⟨s2, HL.out.s4, by have := small_radius' s2 hE; omega, tl, by rw [tl]; exact hE, tok⟩)
      have HQ := hide' hq
      obtain ⟨E, hEE⟩ : ∃ E, S ^ (2 * q + 1) = E := ⟨_, rfl⟩
      rw [hEE] at hE tl ⊢
      have TE := hide' tl
      have HEX := hide' hE
      have q5 : q ≤ 5 := small_radius' s2 (by rw [hEE]; exact hE)
      have CQ := hide' hc
      clear noring hn hq hc hg tok tl b hE x0 x1 x2 x3 x4 x5 x6 y0 y1 y2 y3 y4 y5 y6 yc FQ C1
      have C3 := hide' (C2.out.alloc C2.out.size (.cells #[.int .i64 2, .int .i64 0, .int .i64 0, .int .i64 (S : Int), .int .i64 (q : Int), .slice (some ⟨g, 0, none⟩) E E, .string ⟨#[]⟩] 28))
      have RQ0 := hide' (RB.new w5 S q (.slice (some ⟨g, 0, none⟩) E E) 28)
      have CQ1 := hide' (CQ.out.below ((Below.refl _ w5).alloc (Nat.le_refl _) (.cells #[.int .i64 2, .int .i64 0, .int .i64 0, .int .i64 (S : Int), .int .i64 (q : Int), .slice (some ⟨g, 0, none⟩) E E, .string ⟨#[]⟩] 28)))
      clear CQ C2
      obtain ⟨x0, x1, x2, x3, x4, x5, x6⟩ := RX.out.next C3.out
      obtain ⟨y0, y1, y2, y3, y4, y5, y6⟩ := RQ0.out
      by_cases he : wordE S ws = 0
      · have WO := hide' (wordE_zero he).2
        have WA := hide' he
        have SC1 := hide' (SR.out ws wa wc _ (AT.out.below C3.out) (AW.out.below C3.out) he)
        have LW := hide' (show (stepL S R T ws).length = ws.length from stepL_length ..)
        obtain ⟨lx, hlx⟩ : ∃ lx, ws.length = lx := ⟨_, rfl⟩
        rw [hlx] at SC1 ⊢
        clear he
        go_wp2_with fail
        refine (show Calls Try.prog _ _ _ _ from SC1.out).mono ?_
        unfold StepPost
        rintro e w7 ⟨a, c, rfl, ha, b⟩
        have C4 := hide' (C3.out.trans (b.mono C3.out.size))
        have RQ := hide' (RQ0.out.next b)
        have CQ2 := hide' (CQ1.out.below b)
        have HA := hide' ha
        obtain ⟨qb, hqb⟩ : ∃ qb, w5.heap.size = qb := ⟨_, rfl⟩
        rw [hqb] at RQ
        try rw [hqb]
        rw [LW.out, hlx] at HA ⊢
        clear b ha x0 x1 x2 x3 x4 x5 x6 y0 y1 y2 y3 y4 y5 y6 C3 RQ0 CQ1 hqb SC1
        obtain ⟨x0, x1, x2, x3, x4, x5, x6⟩ := RX.out.next C4.out
        obtain ⟨y0, y1, y2, y3, y4, y5, y6⟩ := RQ.out
        have W7 := hide' (show wordE S (stepL S R T ws) = 0 from word_step HL.out WA.out)
        have SQ := hide' (fun (xs : List Int) (a : Option Addr) (c : Nat) (W : World) (h : ArgP W t (some ⟨g, 0, none⟩) E E) (hx : ArgP W xs a xs.length c) (h0 : wordE S xs = 0) => step_well S q t (some ⟨g, 0, none⟩) E E xs a c W LQ.out h hx h0)
        have AQ := hide' (fun (W : World) (h : Cel W g t) => show ArgP W t (some ⟨g, 0, none⟩) E E from h.argP (by rw [TE.out]) (by unfold maxLen; have := HEX.out; omega))
        have SC2 := hide' (SQ.out (stepL S R T ws) a c w7 (AQ.out w7 CQ2.out) (by rw [LW.out, hlx]; exact HA.out) W7.out)
        rw [U1.out q t ws HQ.out WO.out, LW.out, hlx] at SC2
        unfold StepPost at SC2
        rw [hlx] at SC2
        go_wp2_with fail
        refine (show Calls Try.prog _ _ _ _ from SC2.out).mono ?_
        rintro e w8 ⟨a8, c8, rfl, ha, b⟩
        have C5 := hide' (C4.out.trans (b.mono C4.out.size))
        have RQ8 := hide' (RQ.out.next b)
        have CQ8 := hide' (CQ2.out.below b)
        have HB := hide' ha
        clear b ha x0 x1 x2 x3 x4 x5 x6 y0 y1 y2 y3 y4 y5 y6 C4 RQ CQ2 SC2
        obtain ⟨x0, x1, x2, x3, x4, x5, x6⟩ := RX.out.next C5.out
        obtain ⟨y0, y1, y2, y3, y4, y5, y6⟩ := RQ8.out
        have SC3 := hide' (SQ.out ws wa wc w8 (AQ.out w8 CQ8.out) (AW.out.below C5.out) WA.out)
        unfold StepPost at SC3
        rw [stepL_length, hlx] at SC3
        go_wp2_with fail
        refine (show Calls Try.prog _ _ _ _ from SC3.out).mono ?_
        rintro e w9 ⟨a9, c9, rfl, ha, b⟩
        have C6 := hide' (C5.out.trans (b.mono C5.out.size))
        have HB9 := hide' (HB.out.below b)
        have HC := hide' ha
        clear b ha x0 x1 x2 x3 x4 x5 x6 y0 y1 y2 y3 y4 y5 y6 C5 RQ8 CQ8 SC3 HB
        obtain ⟨x0, x1, x2, x3, x4, x5, x6⟩ := RX.out.next C6.out
        have SC4 := hide' (SR.out (stepL S q t ws) a9 c9 w9 (AT.out.below C6.out) (by rw [stepL_length, hlx]; exact HC.out) (word_step LQ.out WA.out))
        unfold StepPost at SC4
        rw [U2.out NT.out q t ws HQ.out WO.out, stepL_length, hlx] at SC4
        go_wp2_with fail
        refine (show Calls Try.prog _ _ _ _ from SC4.out).mono ?_
        rintro e w10 ⟨a10, c10, rfl, ha, b⟩
        have C7 := hide' (C6.out.trans (b.mono C6.out.size))
        have HB10 := hide' (HB9.out.below b)
        have HD := hide' ha
        clear b ha x0 x1 x2 x3 x4 x5 x6 C6 SC4 HB9 HC
        go_wp2_with fail
        refine (IntsEq ws a8 wa lx c8 lx wc _ HB10.out (by rw [← hlx]; exact AW.out.below C7.out)).mono ?_
        rintro e w11 ⟨rfl, b⟩
        have C8 := hide' (C7.out.trans (b.mono C7.out.size))
        have HD11 := hide' (HD.out.below b)
        clear b
        go_wp2_with fail
        refine (IntsEq ws a10 wa lx c10 lx wc _ HD11.out (by rw [← hlx]; exact AW.out.below C8.out)).mono ?_
        rintro e w12 ⟨rfl, b⟩
        have C9 := hide' (C8.out.trans (b.mono C8.out.size))
        clear b
        go_wp2
        go_ret
        exact ⟨rfl, BB.out.trans (C9.out.mono BB.out.size)⟩
      · have SC1 := hide' (SB.out ws wa wc _ (AT.out.below C3.out) (AW.out.below C3.out) he)
        obtain ⟨lx, hlx⟩ : ∃ lx, ws.length = lx := ⟨_, rfl⟩
        rw [hlx] at SC1 ⊢
        clear he
        go_wp2_with fail
        refine (show Calls Try.prog _ _ _ _ from SC1.out).mono ?_
        unfold ListErr
        rintro e w7 ⟨rfl, b⟩
        have C4 := hide' (C3.out.trans (b.mono C3.out.size))
        clear b x0 x1 x2 x3 x4 x5 x6 y0 y1 y2 y3 y4 y5 y6 C3
        go_wp2
        go_ret
        exact ⟨rfl, BB.out.trans (C4.out.mono BB.out.size)⟩
    · have C2 := hide' (C1.out.trans (b.mono C1.out.size))
      have C3 := hide' (C2.out.alloc C2.out.size (.cells #[.int .i64 0, .int .i64 0, .int .i64 0, .int .i64 0, .int .i64 0, .slice none 0 0, .string ⟨#[]⟩] 28))
      clear b x0 x1 x2 x3 x4 x5 x6 y0 y1 y2 y3 y4 y5 y6 yc FQ C1 noring hn
      go_wp2
      go_ret
      exact ⟨rfl, BB.out.trans (C3.out.mono BB.out.size)⟩

/-- At every rule and word. -/
theorem law_undoes_all (o : Out) (ta : Option Addr) (tn tc : Nat) (ws : List Int) (wa : Option Addr) (wc : Nat) (w : World) (hR : ArgR w o ta tn tc) (hW : ArgP w ws wa ws.length wc) :
    Calls Try.prog 5 #[.agg #[.int .i64 o.kind, .int .i64 o.born, .int .i64 o.stay, .int .i64 o.states, .int .i64 o.radius, .slice ta tn tc, .string o.turns], .slice wa ws.length wc] w fun e w' => e = .returned (.bool true) ∧ Below w.heap.size w w' := by
  by_cases h : Good o ∧ o.kind = 2
  · obtain ⟨S, R, e, hL⟩ := good_line o h.1 h.2
    have hT : ArgP w o.table ta tn tc := ⟨hR.len, hR.max, hR.cells⟩
    obtain ⟨T, hTe⟩ : ∃ T, o.table = T := ⟨_, rfl⟩
    rw [hTe] at e hL hT
    subst e
    by_cases he : askE S R [] = 0
    · exact law_undoes_ok S R T ta tn tc ws wa wc w hL hT hW he
    · exact law_undoes_bad S R T ta tn tc _ w hL hT he
  · exact law_undoes_off o ta tn tc _ w hR h
end Go.Proofs.Ytdhbdkkchobinaa

