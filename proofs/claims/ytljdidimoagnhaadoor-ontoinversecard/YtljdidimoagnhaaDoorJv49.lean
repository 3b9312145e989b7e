/-
  What the last text of this claim leans on, part 49: Of9.
-/
import Derived.Test.YtljdidimoagnhaaDoorJv47
import Derived.Test.YtljdidimoagnhaaDoorJv48
import Derived.Test.YtljdidimoagnhaaDoorJv34
namespace Go.Proofs.YtljdidimoagnhaaDoor
open Go.RowKit
set_option linter.unusedVariables false

set_option maxRecDepth 100000 in
set_option maxHeartbeats 6400000 in
theorem law_inverse_off (o : Out) (ta : Option Addr) (tn tc : Nat) (w : World) (hR : ArgR w o ta tn tc) (h : ¬ (Good o ∧ o.kind = 2)) (hg : Handle w) :
    Calls Tryd.prog 15 #[.agg #[.int .i64 o.kind, .int .i64 o.born, .int .i64 o.stay, .int .i64 o.states, .int .i64 o.radius, .slice ta tn tc, .string o.turns]] w fun e w' => e = .returned (.bool true) ∧ Below w.heap.size w w' := by
  obtain ⟨w1, hw1⟩ : ∃ w1, w.alloc (.cells #[.int .i64 o.kind, .int .i64 o.born, .int .i64 o.stay, .int .i64 o.states, .int .i64 o.radius, .slice ta tn tc, .string o.turns] 24) = w1 := ⟨_, rfl⟩
  have BB := hide' (show Below w.heap.size w w1 by rw [← hw1]; exact (Below.refl _ _).alloc (Nat.le_refl _) _)
  have RX := hide' (show RBo w.heap.size o (.slice ta tn tc) w1 by rw [← hw1]; exact RBo.new w o _ _)
  have AT := hide' (show ArgR w1 o ta tn tc by rw [← hw1]; exact hR.alloc _)
  have HH := hide' h
  have HG := hide' (hg.below BB.out)
  clear hR h hg
  have C0 := hide' (Below.refl w1.heap.size w1)
  obtain ⟨x0, x1, x2, x3, x4, x5, x6⟩ := RX.out
  go_enter Tryd.func15, Tryd.ntmps15
  go_wp2_with fail
  refine (inverse_off o ta tn tc _ (AT.out.below C0.out) HH.out).mono ?_
  unfold InvErr
  rintro e w2 ⟨rfl, b⟩
  clear hw1
  have C1 := hide' (C0.out.trans (b.mono C0.out.size))
  clear b x0 x1 x2 x3 x4 x5 x6 C0
  obtain ⟨x0, x1, x2, x3, x4, x5, x6⟩ := RX.out.next C1.out
  skip
  have C2 := hide' (C1.out.alloc C1.out.size (.cells #[.int .i64 0, .int .i64 0, .int .i64 0, .int .i64 0, .int .i64 0, .slice none 0 0, .string ⟨#[]⟩] 24))
  have QB := hide' (S7.new w2 (.int .i64 0) (.int .i64 0) (.int .i64 0) (.int .i64 0) (.int .i64 0) (.slice none 0 0) (.string ⟨#[]⟩) 24)
  obtain ⟨qb, hqb⟩ : ∃ qb, w2.heap.size = qb := ⟨_, rfl⟩
  rw [hqb] at QB
  clear x0 x1 x2 x3 x4 x5 x6 C1
  obtain ⟨x0, x1, x2, x3, x4, x5, x6⟩ := RX.out.next C2.out
  obtain ⟨z0, z1, z2, z3, z4, z5, z6, zf⟩ := QB.out
  go_wp2_with fail
  refine (asked_off o ta tn tc (.slice none 0 0) _ (AT.out.below C2.out) HH.out).mono ?_
  rintro e w3 ⟨rfl, b⟩
  have C3 := hide' (C2.out.trans (b.mono C2.out.size))
  have QB' := hide' (QB.out.next b)
  clear QB
  have QB := QB'
  clear QB' z0 z1 z2 z3 z4 z5 z6 zf
  clear b x0 x1 x2 x3 x4 x5 x6 C2
  obtain ⟨x0, x1, x2, x3, x4, x5, x6⟩ := RX.out.next C3.out
  obtain ⟨z0, z1, z2, z3, z4, z5, z6, zf⟩ := QB.out
  go_wp2_with fail
  refine (err_some_true 1 _ (HG.out.below C3.out)).mono ?_
  rintro e w4 ⟨rfl, b⟩
  have C4 := hide' (C3.out.trans (b.mono C3.out.size))
  have QB' := hide' (QB.out.next b)
  clear QB
  have QB := QB'
  clear QB' z0 z1 z2 z3 z4 z5 z6 zf
  clear b x0 x1 x2 x3 x4 x5 x6 C3
  obtain ⟨x0, x1, x2, x3, x4, x5, x6⟩ := RX.out.next C4.out
  obtain ⟨z0, z1, z2, z3, z4, z5, z6, zf⟩ := QB.out
  go_wp2_with fail
  refine (same_zero _).mono ?_
  rintro e w5 ⟨rfl, b⟩
  have C5 := hide' (C4.out.trans (b.mono C4.out.size))
  have QB' := hide' (QB.out.next b)
  clear QB
  have QB := QB'
  clear QB' z0 z1 z2 z3 z4 z5 z6 zf
  clear b x0 x1 x2 x3 x4 x5 x6 C4
  obtain ⟨x0, x1, x2, x3, x4, x5, x6⟩ := RX.out.next C5.out
  obtain ⟨z0, z1, z2, z3, z4, z5, z6, zf⟩ := QB.out
  go_wp2
  go_ret
  exact ⟨rfl, BB.out.trans (C5.out.mono BB.out.size)⟩

set_option maxRecDepth 100000 in
set_option maxHeartbeats 6400000 in
theorem law_inverse_bad (S R : Nat) (T : List Int) (ta : Option Addr) (tn tc : Nat) (w : World) (hL : LineOk S R T) (hT : ArgP w T ta tn tc) (hg : Handle w) (he : askE S R [] ≠ 0) :
    Calls Tryd.prog 15 #[.agg #[.int .i64 2, .int .i64 0, .int .i64 0, .int .i64 (S : Int), .int .i64 (R : Int), .slice ta tn tc, .string ⟨#[]⟩]] w fun e w' => e = .returned (.bool true) ∧ Below w.heap.size w w' := by
  obtain ⟨w1, hw1⟩ : ∃ w1, w.alloc (.cells #[.int .i64 2, .int .i64 0, .int .i64 0, .int .i64 (S : Int), .int .i64 (R : Int), .slice ta tn tc, .string ⟨#[]⟩] 24) = w1 := ⟨_, rfl⟩
  have BB := hide' (show Below w.heap.size w w1 by rw [← hw1]; exact (Below.refl _ _).alloc (Nat.le_refl _) _)
  have RX := hide' (show RB w.heap.size S R (.slice ta tn tc) w1 by rw [← hw1]; exact RB.new w S R _ _)
  have AT := hide' (hT.below BB.out)
  have HG := hide' (hg.below BB.out)
  have HL := hide' hL
  have HE := hide' he
  obtain ⟨f, hf⟩ : ∃ f, askE S R [] = f := ⟨_, rfl⟩
  have HF := hide' hf
  have k0 : ((f : Int) == 0) = false := by rw [beq_eq_false_iff_ne]; rw [hf] at he; omega
  have k1 : ((f : Int) != 0) = true := by rw [bne, k0]; rfl
  clear hf hT hL he hg
  have C0 := hide' (Below.refl w1.heap.size w1)
  obtain ⟨x0, x1, x2, x3, x4, x5, x6⟩ := RX.out
  go_enter Tryd.func15, Tryd.ntmps15
  go_wp2_with fail
  refine (inverse_bad S R T ta tn tc _ HL.out (AT.out.below C0.out) HE.out).mono ?_
  rw [HF.out]
  unfold InvErr
  rintro e w2 ⟨rfl, b⟩
  clear hw1
  have C1 := hide' (C0.out.trans (b.mono C0.out.size))
  clear b x0 x1 x2 x3 x4 x5 x6 C0
  obtain ⟨x0, x1, x2, x3, x4, x5, x6⟩ := RX.out.next C1.out
  skip
  have C2 := hide' (C1.out.alloc C1.out.size (.cells #[.int .i64 0, .int .i64 0, .int .i64 0, .int .i64 0, .int .i64 0, .slice none 0 0, .string ⟨#[]⟩] 24))
  have QB := hide' (S7.new w2 (.int .i64 0) (.int .i64 0) (.int .i64 0) (.int .i64 0) (.int .i64 0) (.slice none 0 0) (.string ⟨#[]⟩) 24)
  obtain ⟨qb, hqb⟩ : ∃ qb, w2.heap.size = qb := ⟨_, rfl⟩
  rw [hqb] at QB
  clear x0 x1 x2 x3 x4 x5 x6 C1
  obtain ⟨x0, x1, x2, x3, x4, x5, x6⟩ := RX.out.next C2.out
  obtain ⟨z0, z1, z2, z3, z4, z5, z6, zf⟩ := QB.out
  go_wp2_with fail
  refine (asked_line S R T ta tn tc [] none 0 _ HL.out (AT.out.below C2.out) (argP_nil _)).mono ?_
  rw [HF.out]
  rintro e w3 ⟨rfl, b⟩
  have C3 := hide' (C2.out.trans (b.mono C2.out.size))
  have QB' := hide' (QB.out.next b)
  clear QB
  have QB := QB'
  clear QB' z0 z1 z2 z3 z4 z5 z6 zf
  clear b x0 x1 x2 x3 x4 x5 x6 C2
  obtain ⟨x0, x1, x2, x3, x4, x5, x6⟩ := RX.out.next C3.out
  obtain ⟨z0, z1, z2, z3, z4, z5, z6, zf⟩ := QB.out
  go_wp2_with fail
  refine (err_some_true (f : Int) _ (HG.out.below C3.out)).mono ?_
  rintro e w4 ⟨rfl, b⟩
  have C4 := hide' (C3.out.trans (b.mono C3.out.size))
  have QB' := hide' (QB.out.next b)
  clear QB
  have QB := QB'
  clear QB' z0 z1 z2 z3 z4 z5 z6 zf
  clear b x0 x1 x2 x3 x4 x5 x6 C3
  obtain ⟨x0, x1, x2, x3, x4, x5, x6⟩ := RX.out.next C4.out
  obtain ⟨z0, z1, z2, z3, z4, z5, z6, zf⟩ := QB.out
  go_wp2_with fail
  refine (same_zero _).mono ?_
  rintro e w5 ⟨rfl, b⟩
  have C5 := hide' (C4.out.trans (b.mono C4.out.size))
  have QB' := hide' (QB.out.next b)
  clear QB
  have QB := QB'
  clear QB' z0 z1 z2 z3 z4 z5 z6 zf
  clear b x0 x1 x2 x3 x4 x5 x6 C4
  obtain ⟨x0, x1, x2, x3, x4, x5, x6⟩ := RX.out.next C5.out
  obtain ⟨z0, z1, z2, z3, z4, z5, z6, zf⟩ := QB.out
  go_wp2
  go_ret
  exact ⟨rfl, BB.out.trans (C5.out.mono BB.out.size)⟩

theorem Cel.argp {w : World} {g n : Nat} {xs : List Int} (h : Cel w g xs) (hn : n = xs.length) (hm : n ≤ maxLen) : ArgP w xs (some ⟨g, 0, none⟩) n n :=
  ⟨hn, hm, fun k hk => ⟨g, 0, rfl, h.lt, by
    have := h.cells k hk
    rw [List.getD_eq_getElem?_getD, List.getElem?_eq_getElem hk] at this
    rw [Nat.zero_add]
    exact this⟩⟩
theorem small_radius {S p : Nat} (hS : 2 ≤ S) (h : S ^ (2 * p + 1) ≤ 4096) : p ≤ 5 := by
  rcases Nat.lt_or_ge 5 p with q | q
  · have h1 : 2 ^ 13 ≤ S ^ (2 * p + 1) := Nat.le_trans (Nat.pow_le_pow_left hS 13) (Nat.pow_le_pow_right (by omega) (by omega))
    omega
  · exact q

set_option maxRecDepth 100000 in
set_option maxHeartbeats 6400000 in
theorem law_inverse_ok (S R : Nat) (T : List Int) (ta : Option Addr) (tn tc : Nat) (w : World) (hL : LineOk S R T) (hT : ArgP w T ta tn tc) (hg : Handle w) (he : askE S R [] = 0) :
    Calls Tryd.prog 15 #[.agg #[.int .i64 2, .int .i64 0, .int .i64 0, .int .i64 (S : Int), .int .i64 (R : Int), .slice ta tn tc, .string ⟨#[]⟩]] w fun e w' => e = .returned (.bool true) ∧ Below w.heap.size w w' := by
  obtain ⟨w1, hw1⟩ : ∃ w1, w.alloc (.cells #[.int .i64 2, .int .i64 0, .int .i64 0, .int .i64 (S : Int), .int .i64 (R : Int), .slice ta tn tc, .string ⟨#[]⟩] 24) = w1 := ⟨_, rfl⟩
  have BB := hide' (show Below w.heap.size w w1 by rw [← hw1]; exact (Below.refl _ _).alloc (Nat.le_refl _) _)
  have RX := hide' (show RB w.heap.size S R (.slice ta tn tc) w1 by rw [← hw1]; exact RB.new w S R _ _)
  have AT := hide' (hT.below BB.out)
  have HG := hide' (hg.below BB.out)
  have HL := hide' hL
  have HE := hide' he
  obtain ⟨h1, h2⟩ := askE_zero he
  obtain ⟨n, hn⟩ : ∃ n, S ^ (2 * R) = n := ⟨_, rfl⟩
  obtain ⟨g1, g2, g3⟩ := hL.graph hT.len hn
  rw [hn] at h2
  have s2 := hL.s2
  have s4 := hL.s4
  have IV := hide' (fun (W : World) (h : ArgP W T ta tn tc) => inverse_ok S R n T ta tn tc W hL h he hn)
  have ON := hide' (fun (W : World) (h : ArgP W T ta tn tc) => refOne_any S R n T ta tn tc W hL h hn h2)
  have SZ := hide' (fun (p : Nat) (W : World) (hp : p ≤ 1000) => refSize S p W s2 s4 hp)
  have UD := hide' (fun (p : Nat) (W : World) (h : ArgP W T ta tn tc) (hp : S ^ (2 * p + 1) ≤ 4096) => refUndone_any S R n p T ta tn tc W hL h hn h2 hp (by have := small_radius s2 hp; omega))
  have UL := hide' (show ∀ p t, undoAt S R n T p = some t → t.length = S ^ (2 * p + 1) from fun p t h => undoL_length _ t h)
  have UE := hide' (show ∀ p, undoL S T (2 * p + 1) (S ^ (p + R)) (S ^ (2 * p + 1) * n) = undoAt S R n T p from fun p => rfl)
  simp only [UE.out] at UD
  clear hT hL he hg h1 h2 hn g1 g2
  have C0 := hide' (Below.refl w1.heap.size w1)
  obtain ⟨x0, x1, x2, x3, x4, x5, x6⟩ := RX.out
  go_enter Tryd.func15, Tryd.ntmps15
  go_wp2_with fail
  refine (IV.out _ (AT.out.below C0.out)).mono ?_
  unfold InvAll
  rintro e w2 hor
  clear hw1
  rcases hor with ⟨⟨u, full, ring⟩, rfl, b⟩ | ⟨noring, hpost⟩
  · have TU := hide' (ring_turn g3 ring)
    have C1 := hide' (C0.out.trans (b.mono C0.out.size))
    clear b ring
    have C2 := hide' (C1.out.alloc C1.out.size (.cells #[.int .i64 0, .int .i64 0, .int .i64 0, .int .i64 0, .int .i64 0, .slice none 0 0, .string ⟨#[]⟩] 24))
    have QB := hide' (S7.new w2 (.int .i64 0) (.int .i64 0) (.int .i64 0) (.int .i64 0) (.int .i64 0) (.slice none 0 0) (.string ⟨#[]⟩) 24)
    obtain ⟨qb, hqb⟩ : ∃ qb, w2.heap.size = qb := ⟨_, rfl⟩
    rw [hqb] at QB
    clear x0 x1 x2 x3 x4 x5 x6 C1
    obtain ⟨x0, x1, x2, x3, x4, x5, x6⟩ := RX.out.next C2.out
    obtain ⟨z0, z1, z2, z3, z4, z5, z6, zf⟩ := QB.out
    go_wp2_with fail
    refine (asked_line S R T ta tn tc [] none 0 _ HL.out (AT.out.below C2.out) (argP_nil _)).mono ?_
    rw [HE.out]
    rintro e w3 ⟨rfl, b⟩
    have C3 := hide' (C2.out.trans (b.mono C2.out.size))
    have QB' := hide' (QB.out.next b)
    clear QB
    have QB := QB'
    clear QB' z0 z1 z2 z3 z4 z5 z6 zf
    clear b x0 x1 x2 x3 x4 x5 x6 C2
    obtain ⟨x0, x1, x2, x3, x4, x5, x6⟩ := RX.out.next C3.out
    obtain ⟨z0, z1, z2, z3, z4, z5, z6, zf⟩ := QB.out
    go_wp2_with fail
    refine ((ON.out _ (AT.out.below C3.out)).mono (fun e w' (h : OneRefPost S n T _ e w') => show e = .returned (.bool false) ∧ Below _ _ w' from ⟨by rcases h.1 with q | q; exact q.1; obtain ⟨k, hk, ht⟩ := TU.out; exact absurd ht (q.2 k hk), h.2⟩)).mono ?_
    rintro e w4 ⟨rfl, b⟩
    have C4 := hide' (C3.out.trans (b.mono C3.out.size))
    have QB' := hide' (QB.out.next b)
    clear QB
    have QB := QB'
    clear QB' z0 z1 z2 z3 z4 z5 z6 zf
    clear b x0 x1 x2 x3 x4 x5 x6 C3
    obtain ⟨x0, x1, x2, x3, x4, x5, x6⟩ := RX.out.next C4.out
    obtain ⟨z0, z1, z2, z3, z4, z5, z6, zf⟩ := QB.out
    go_wp2_with fail
    refine (err_some_true 5 _ (HG.out.below C4.out)).mono ?_
    rintro e w5 ⟨rfl, b⟩
    have C5 := hide' (C4.out.trans (b.mono C4.out.size))
    have QB' := hide' (QB.out.next b)
    clear QB
    have QB := QB'
    clear QB' z0 z1 z2 z3 z4 z5 z6 zf
    clear b x0 x1 x2 x3 x4 x5 x6 C4
    obtain ⟨x0, x1, x2, x3, x4, x5, x6⟩ := RX.out.next C5.out
    obtain ⟨z0, z1, z2, z3, z4, z5, z6, zf⟩ := QB.out
    go_wp2_with fail
    refine (same_zero _).mono ?_
    rintro e w6 ⟨rfl, b⟩
    have C6 := hide' (C5.out.trans (b.mono C5.out.size))
    have QB' := hide' (QB.out.next b)
    clear QB
    have QB := QB'
    clear QB' z0 z1 z2 z3 z4 z5 z6 zf
    clear b x0 x1 x2 x3 x4 x5 x6 C5
    obtain ⟨x0, x1, x2, x3, x4, x5, x6⟩ := RX.out.next C6.out
    obtain ⟨z0, z1, z2, z3, z4, z5, z6, zf⟩ := QB.out
    go_wp2
    go_ret
    exact ⟨rfl, BB.out.trans (C6.out.mono BB.out.size)⟩
  · have NT := hide' (no_turn g3 noring)
    clear noring
    unfold InvPost at hpost
    obtain ⟨hor, b⟩ := hpost
    have C1 := hide' (C0.out.trans (b.mono C0.out.size))
    rcases hor with ⟨q, t, g, hqE, hqt, hqn, rfl, hcel, hge⟩ | ⟨hnone, rfl⟩
    · have q5 := small_radius s2 hqE
      have HQT := hide' hqt
      have HQN := hide' hqn
      have HQE := hide' hqE
      have TLQ := hide' (UL.out q t hqt)
      have CG2 := hide' hcel
      obtain ⟨E, hE⟩ : ∃ E, S ^ (2 * q + 1) = E := ⟨_, rfl⟩
      have HEE := hide' hE
      rw [hE] at TLQ HQE ⊢
      clear hqt hqn hqE hcel hge b hE
      have CG := hide' (CG2.out.below ((Below.refl _ w2).alloc (Nat.le_refl _) (.cells #[.int .i64 2, .int .i64 0, .int .i64 0, .int .i64 (S : Int), .int .i64 (q : Int), .slice (some ⟨g, 0, none⟩) E E, .string ⟨#[]⟩] 24)))
      have C2 := hide' (C1.out.alloc C1.out.size (.cells #[.int .i64 2, .int .i64 0, .int .i64 0, .int .i64 (S : Int), .int .i64 (q : Int), .slice (some ⟨g, 0, none⟩) E E, .string ⟨#[]⟩] 24))
      have QB := hide' (S7.new w2 (.int .i64 2) (.int .i64 0) (.int .i64 0) (.int .i64 (S : Int)) (.int .i64 (q : Int)) (.slice (some ⟨g, 0, none⟩) E E) (.string ⟨#[]⟩) 24)
      obtain ⟨qb, hqb⟩ : ∃ qb, w2.heap.size = qb := ⟨_, rfl⟩
      rw [hqb] at QB
      clear x0 x1 x2 x3 x4 x5 x6 C1
      obtain ⟨x0, x1, x2, x3, x4, x5, x6⟩ := RX.out.next C2.out
      obtain ⟨z0, z1, z2, z3, z4, z5, z6, zf⟩ := QB.out
      go_wp2_with fail
      refine (asked_line S R T ta tn tc [] none 0 _ HL.out (AT.out.below C2.out) (argP_nil _)).mono ?_
      rw [HE.out]
      rintro e w3 ⟨rfl, b⟩
      have C3 := hide' (C2.out.trans (b.mono C2.out.size))
      have QB' := hide' (QB.out.next b)
      clear QB
      have QB := QB'
      clear QB' z0 z1 z2 z3 z4 z5 z6 zf
      have CG' := hide' (CG.out.below b)
      clear CG
      have CG := CG'
      clear CG'
      clear b x0 x1 x2 x3 x4 x5 x6 C2
      obtain ⟨x0, x1, x2, x3, x4, x5, x6⟩ := RX.out.next C3.out
      obtain ⟨z0, z1, z2, z3, z4, z5, z6, zf⟩ := QB.out
      go_wp2_with fail
      refine ((ON.out _ (AT.out.below C3.out)).mono (fun e w' (h : OneRefPost S n T _ e w') => show e = .returned (.bool true) ∧ Below _ _ w' from ⟨by rcases h.1 with q | q; (obtain ⟨_, k, hk, ht⟩ := q; exact absurd ht (NT.out k)); exact q.1, h.2⟩)).mono ?_
      rintro e w4 ⟨rfl, b⟩
      have C4 := hide' (C3.out.trans (b.mono C3.out.size))
      have QB' := hide' (QB.out.next b)
      clear QB
      have QB := QB'
      clear QB' z0 z1 z2 z3 z4 z5 z6 zf
      have CG' := hide' (CG.out.below b)
      clear CG
      have CG := CG'
      clear CG'
      clear b x0 x1 x2 x3 x4 x5 x6 C3
      obtain ⟨x0, x1, x2, x3, x4, x5, x6⟩ := RX.out.next C4.out
      obtain ⟨z0, z1, z2, z3, z4, z5, z6, zf⟩ := QB.out
      go_wp2
      clear x0 x1 x2 x3 x4 x5 x6 z0 z1 z2 z3 z4 z5 z6 zf
      go_loopw [9] (fun pv wr => ∃ p : Nat, pv = .int .i64 (p : Int) ∧ p ≤ q ∧ Hid (Below w1.heap.size w1 wr ∧ S7 qb (.int .i64 2) (.int .i64 0) (.int .i64 0) (.int .i64 (S : Int)) (.int .i64 (q : Int)) (.slice (some ⟨g, 0, none⟩) E E) (.string ⟨#[]⟩) wr ∧ Cel wr g t)) (fun pv _ => q - (intOf pv).toNat)
      case atStart => exact ⟨0, rfl, by omega, hide' ⟨C4.out, QB.out, CG.out⟩⟩
      case round =>
        clear C4 QB CG hqb
        obtain ⟨p, rfl, hp, H1⟩ := hrel
        obtain ⟨x0, x1, x2, x3, x4, x5, x6⟩ := RX.out.next H1.out.1
        obtain ⟨z0, z1, z2, z3, z4, z5, z6, zf⟩ := H1.out.2.1
        have HPE := hide' (show S ^ (2 * p + 1) ≤ 4096 from Nat.le_trans (Nat.pow_le_pow_right (by omega) (by omega)) (HEE.out ▸ HQE.out))
        obtain ⟨Ep, hEp⟩ : ∃ Ep, sizeV S p = Ep := ⟨_, rfl⟩
        have El : Ep ≤ 4096 := by rw [← hEp]; unfold sizeV; rw [if_pos HPE.out]; exact HPE.out
        have SP := hide' (SZ.out p wr (by omega))
        rw [hEp] at SP
        clear hEp
        go_wp2_with fail
        refine SP.out.mono ?_
        rintro e w6 ⟨rfl, rfl⟩
        go_wp2_with fail
        refine (UD.out p _ (AT.out.below H1.out.1) HPE.out).mono ?_
        unfold UndoneRef
        rintro e w7 ⟨hor, b7⟩
        have B7 := hide' (H1.out.1.trans (b7.mono H1.out.1.size))
        have Q7 := hide' (H1.out.2.1.next b7)
        have G7 := hide' (H1.out.2.2.below b7)
        clear x0 x1 x2 x3 x4 x5 x6 z0 z1 z2 z3 z4 z5 z6 zf b7
        obtain ⟨x0, x1, x2, x3, x4, x5, x6⟩ := RX.out.next B7.out
        obtain ⟨z0, z1, z2, z3, z4, z5, z6, zf⟩ := Q7.out
        rcases hor with ⟨hu, rfl⟩ | ⟨t', g', hu, rfl, hc', hge'⟩
        · have pq : p < q := by
            rcases Nat.lt_or_ge p q with c | c
            · exact c
            · rw [show p = q by omega, HQT.out] at hu; cases hu
          clear hu
          go_wp2
          exact ⟨⟨p + 1, by go_num, by omega, hide' ⟨B7.out, Q7.out, G7.out⟩⟩, by simp [intOf]; omega⟩
        · have pq : p = q := by
            rcases Nat.lt_or_ge p q with c | c
            · rw [HQN.out p c] at hu; cases hu
            · omega
          subst pq
          rw [HQT.out] at hu
          injection hu with hu
          subst hu
          have E1 := HEE.out
          have HA := hide' (show ArgP w7 t (some ⟨g', 0, none⟩) E E from Cel.argp hc' TLQ.out.symm (by unfold maxLen; have := HQE.out; omega))
          have HB := hide' (show ArgP w7 t (some ⟨g, 0, none⟩) E E from Cel.argp G7.out TLQ.out.symm (by unfold maxLen; have := HQE.out; omega))
          rw [E1]
          clear E1 hc' hge' G7 H1
          go_wp2_with fail
          refine (Ints_both t (some ⟨g', 0, none⟩) (some ⟨g, 0, none⟩) E E E E _ HA.out HB.out).mono ?_
          rintro e w8 ⟨rfl, b8⟩
          have B8 := hide' (B7.out.trans (b8.mono B7.out.size))
          have Q8 := hide' (Q7.out.next b8)
          clear x0 x1 x2 x3 x4 x5 x6 z0 z1 z2 z3 z4 z5 z6 zf b8
          obtain ⟨x0, x1, x2, x3, x4, x5, x6⟩ := RX.out.next B8.out
          obtain ⟨z0, z1, z2, z3, z4, z5, z6, zf⟩ := Q8.out
          go_wp2
          go_ret
          exact ⟨rfl, BB.out.trans (B8.out.mono BB.out.size)⟩
    · have HNO := hide' hnone
      clear hnone b
      have C2 := hide' (C1.out.alloc C1.out.size (.cells #[.int .i64 0, .int .i64 0, .int .i64 0, .int .i64 0, .int .i64 0, .slice none 0 0, .string ⟨#[]⟩] 24))
      have QB := hide' (S7.new w2 (.int .i64 0) (.int .i64 0) (.int .i64 0) (.int .i64 0) (.int .i64 0) (.slice none 0 0) (.string ⟨#[]⟩) 24)
      obtain ⟨qb, hqb⟩ : ∃ qb, w2.heap.size = qb := ⟨_, rfl⟩
      rw [hqb] at QB
      clear x0 x1 x2 x3 x4 x5 x6 C1
      obtain ⟨x0, x1, x2, x3, x4, x5, x6⟩ := RX.out.next C2.out
      obtain ⟨z0, z1, z2, z3, z4, z5, z6, zf⟩ := QB.out
      go_wp2_with fail
      refine (asked_line S R T ta tn tc [] none 0 _ HL.out (AT.out.below C2.out) (argP_nil _)).mono ?_
      rw [HE.out]
      rintro e w3 ⟨rfl, b⟩
      have C3 := hide' (C2.out.trans (b.mono C2.out.size))
      have QB' := hide' (QB.out.next b)
      clear QB
      have QB := QB'
      clear QB' z0 z1 z2 z3 z4 z5 z6 zf
      clear b x0 x1 x2 x3 x4 x5 x6 C2
      obtain ⟨x0, x1, x2, x3, x4, x5, x6⟩ := RX.out.next C3.out
      obtain ⟨z0, z1, z2, z3, z4, z5, z6, zf⟩ := QB.out
      go_wp2_with fail
      refine ((ON.out _ (AT.out.below C3.out)).mono (fun e w' (h : OneRefPost S n T _ e w') => show e = .returned (.bool true) ∧ Below _ _ w' from ⟨by rcases h.1 with q | q; (obtain ⟨_, k, hk, ht⟩ := q; exact absurd ht (NT.out k)); exact q.1, h.2⟩)).mono ?_
      rintro e w4 ⟨rfl, b⟩
      have C4 := hide' (C3.out.trans (b.mono C3.out.size))
      have QB' := hide' (QB.out.next b)
      clear QB
      have QB := QB'
      clear QB' z0 z1 z2 z3 z4 z5 z6 zf
      clear b x0 x1 x2 x3 x4 x5 x6 C3
      obtain ⟨x0, x1, x2, x3, x4, x5, x6⟩ := RX.out.next C4.out
      obtain ⟨z0, z1, z2, z3, z4, z5, z6, zf⟩ := QB.out
      go_wp2
      clear x0 x1 x2 x3 x4 x5 x6 z0 z1 z2 z3 z4 z5 z6 zf
      go_loopw [9] (fun pv wr => ∃ p : Nat, pv = .int .i64 (p : Int) ∧ p ≤ 6 ∧ Hid (Below w1.heap.size w1 wr ∧ S7 qb (.int .i64 0) (.int .i64 0) (.int .i64 0) (.int .i64 0) (.int .i64 0) (.slice none 0 0) (.string ⟨#[]⟩) wr)) (fun pv _ => 10 - (intOf pv).toNat)
      case atStart => exact ⟨0, rfl, by omega, hide' ⟨C4.out, QB.out⟩⟩
      case round =>
        clear C4 QB hqb
        obtain ⟨p, rfl, hp, H1⟩ := hrel
        obtain ⟨x0, x1, x2, x3, x4, x5, x6⟩ := RX.out.next H1.out.1
        obtain ⟨z0, z1, z2, z3, z4, z5, z6, zf⟩ := H1.out.2
        obtain ⟨Ep, hEp⟩ : ∃ Ep, sizeV S p = Ep := ⟨_, rfl⟩
        have SP := hide' (SZ.out p wr (by omega))
        rw [hEp] at SP
        by_cases hpE : S ^ (2 * p + 1) ≤ 4096
        · have HPE := hide' hpE
          have El : Ep ≤ 4096 := by rw [← hEp]; unfold sizeV; rw [if_pos hpE]; exact hpE
          have p5 := small_radius s2 hpE
          clear hEp hpE
          go_wp2_with fail
          refine SP.out.mono ?_
          rintro e w6 ⟨rfl, rfl⟩
          go_wp2_with fail
          refine (UD.out p _ (AT.out.below H1.out.1) HPE.out).mono ?_
          unfold UndoneRef
          rintro e w7 ⟨hor, b7⟩
          have B7 := hide' (H1.out.1.trans (b7.mono H1.out.1.size))
          have Q7 := hide' (H1.out.2.next b7)
          clear x0 x1 x2 x3 x4 x5 x6 z0 z1 z2 z3 z4 z5 z6 zf b7
          obtain ⟨x0, x1, x2, x3, x4, x5, x6⟩ := RX.out.next B7.out
          obtain ⟨z0, z1, z2, z3, z4, z5, z6, zf⟩ := Q7.out
          rcases hor with ⟨hu, rfl⟩ | ⟨t', g', hu, rfl, hc', hge'⟩
          · clear hu
            go_wp2
            exact ⟨⟨p + 1, by go_num, by omega, hide' ⟨B7.out, Q7.out⟩⟩, by simp [intOf]; omega⟩
          · rw [HNO.out p HPE.out] at hu; cases hu
        · have El : Ep = 5000 := by rw [← hEp]; unfold sizeV; rw [if_neg hpE]
          clear hEp hpE
          rw [El] at SP
          clear El
          go_wp2_with fail
          refine SP.out.mono ?_
          rintro e w6 ⟨rfl, rfl⟩
          go_wp2_with fail
          refine (err_some_true 4 _ (HG.out.below H1.out.1)).mono ?_
          rintro e w7 ⟨rfl, b7⟩
          have B7 := hide' (H1.out.1.trans (b7.mono H1.out.1.size))
          have Q7 := hide' (H1.out.2.next b7)
          clear x0 x1 x2 x3 x4 x5 x6 z0 z1 z2 z3 z4 z5 z6 zf b7
          obtain ⟨x0, x1, x2, x3, x4, x5, x6⟩ := RX.out.next B7.out
          obtain ⟨z0, z1, z2, z3, z4, z5, z6, zf⟩ := Q7.out
          go_wp2_with fail
          refine (same_zero _).mono ?_
          rintro e w8 ⟨rfl, b8⟩
          have B8 := hide' (B7.out.trans (b8.mono B7.out.size))
          clear b8
          go_wp2
          go_ret
          exact ⟨rfl, BB.out.trans (B8.out.mono BB.out.size)⟩

/-- At every rule. -/
theorem law_inverse_all (o : Out) (ta : Option Addr) (tn tc : Nat) (w : World) (hR : ArgR w o ta tn tc) (hg : Handle w) :
    Calls Tryd.prog 15 #[.agg #[.int .i64 o.kind, .int .i64 o.born, .int .i64 o.stay, .int .i64 o.states, .int .i64 o.radius, .slice ta tn tc, .string o.turns]] w fun e w' => e = .returned (.bool true) ∧ Below w.heap.size w w' := by
  by_cases h : Good o ∧ o.kind = 2
  · obtain ⟨S, R, e, hL⟩ := good_line o h.1 h.2
    have hT : ArgP w o.table ta tn tc := ⟨hR.len, hR.max, hR.cells⟩
    obtain ⟨T, hTe⟩ : ∃ T, o.table = T := ⟨_, rfl⟩
    rw [hTe] at e hL hT
    subst e
    by_cases he : askE S R [] = 0
    · exact law_inverse_ok S R T ta tn tc w hL hT hg he
    · exact law_inverse_bad S R T ta tn tc w hL hT hg he
  · exact law_inverse_off o ta tn tc w hR h hg
end Go.Proofs.YtljdidimoagnhaaDoor

