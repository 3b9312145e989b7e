/-
  What the last text of this claim leans on, part 32: Oh1.
-/
import Derived.Test.YtdhbdkkchobinabJx29
import Derived.Test.YtdhbdkkchobinabJx31
import Derived.Test.YtdhbdkkchobinabJx25
namespace Go.Proofs.Ytdhbdkkchobinab
open Go.RowKit
set_option linter.unusedVariables false

theorem fact_line : LineOk 2 0 [1, 0] := ⟨by omega, by omega, by omega, by simp, by simp, fun x hx => by simp at hx; omega⟩
theorem fact_ask : askE 2 0 [] = 0 := askE_ok (wordE_ok (by simp) (fun x hx => by simp at hx)) (by simp)
theorem fact_ring (u : Nat × Nat) (full : List (Nat × Nat)) : ¬ IsRing 2 1 [1, 0] u full := by
  rintro ⟨h1, h2, h3, ⟨cs, d, e, hw⟩, _⟩
  obtain ⟨q1, q2⟩ := wantRf_is.1 hw
  rw [e, okP_append] at h3
  obtain ⟨a, b, c⟩ := h3.2.1
  have hl := endP_lt (S := 2) (n := 1) (by omega) cs u (by omega) h2
  rw [show (endP 2 1 u cs).1 = 0 by omega, show (endP 2 1 u cs).2 = 0 by omega] at c
  have h3 : ∀ x, x < 2 → x = 0 ∨ x = 1 := fun x hx => by omega
  rcases h3 d.1 a with q | q <;> rcases h3 d.2 b with r | r <;> rw [q, r] at c q2 <;> simp at c q2
/-- onto.One at the closed fact. -/
theorem fact_one (g : Nat) (W : World) (hA : ArgP W [1, 0] (some ⟨g, 0, none⟩) 2 2) :
    Calls Try.prog 4 #[.agg #[.int .i64 2, .int .i64 0, .int .i64 0, .int .i64 2, .int .i64 0, .slice (some ⟨g, 0, none⟩) 2 2, .string ⟨#[]⟩]] W fun e w' => e = .returned (.tuple #[.bool true, .slice none 0 0, .slice none 0 0, .nilIface]) ∧ Below W.heap.size W w' := by
  refine (one_ok 2 0 1 [1, 0] (some ⟨g, 0, none⟩) 2 2 W fact_line hA fact_ask rfl).mono ?_
  rintro e w' ⟨h, b⟩
  rcases h with ⟨u, full, v1, v2, _, _, _, r⟩ | ⟨rfl, _⟩
  · exact absurd r (fact_ring u full)
  · exact ⟨rfl, b⟩
def CycAny (S R : Nat) (T ws : List Int) (w : World) (e : Ending) (w' : World) : Prop :=
  ((wordE S ws = 0 ∧ ∃ m p : Nat, First (fun n => runL S R T n ws) m p ∧ m + p ≤ 100000 ∧ e = .returned (.tuple #[.int .i64 (m : Int), .int .i64 (p : Int), .nilIface])) ∨ (∃ k : Int, e = .returned (.tuple #[.int .i64 0, .int .i64 0, .iface 43 (.int .i64 k)]))) ∧ Below w.heap.size w w'
theorem cycle_any (S R : Nat) (T : List Int) (ta : Option Addr) (tn tc : Nat) (ws : List Int) (wa : Option Addr) (wc : Nat) (w : World) (hL : LineOk S R T) (hT : ArgP w T ta tn tc) (hW : ArgP w ws wa ws.length wc) :
    Calls Try.prog 5 #[.agg #[.int .i64 2, .int .i64 0, .int .i64 0, .int .i64 (S : Int), .int .i64 (R : Int), .slice ta tn tc, .string ⟨#[]⟩], .slice wa ws.length wc] w (CycAny S R T ws w) := by
  by_cases he : wordE S ws = 0
  · refine (lineCycle_ok S R T ta tn tc ws wa wc w hL hT hW he).mono ?_
    rintro e w' ⟨h, b⟩
    rcases h with ⟨m, p, h1, h2, h3⟩ | ⟨_, h3⟩
    · exact ⟨Or.inl ⟨he, m, p, h1, h2, h3⟩, b⟩
    · exact ⟨Or.inr ⟨6, h3⟩, b⟩
  · refine (lineCycle_word S R T ta tn tc ws wa wc w hL hT hW he).mono ?_
    rintro e w' ⟨h, b⟩
    exact ⟨Or.inr ⟨_, h⟩, b⟩
theorem owns_arg {W : World} {B0 : Nat} {v : Value} {xs : List Int} (h : W.ownsRow B0 3 1 v xs.length (xs.map fun y => Value.int .i64 y)) (h0 : 0 < xs.length) (hm : xs.length ≤ maxLen) : ∃ g cap, v = .slice (some ⟨g, 0, none⟩) xs.length cap ∧ ArgP W xs (some ⟨g, 0, none⟩) xs.length cap := by
  rcases h.2 with ⟨rfl, h1⟩ | ⟨g, cap, cur, rfl, hg, hh, hc, hm', hs, ht⟩
  · omega
  · refine ⟨g, cap, rfl, rfl, hm, fun k hk => ⟨g, 0, rfl, (Array.getElem?_eq_some_iff.1 hh).1, ?_⟩⟩
    have e : (xs.map fun y => Value.int .i64 y)[k]? = some (.int .i64 xs[k]) := by simp [hk]
    rw [← ht, List.getElem?_take, if_pos (by omega)] at e
    rw [Nat.zero_add]
    simp only [World.cell?, hh]
    rw [← Array.getElem?_toList]
    exact e

set_option maxRecDepth 100000 in
set_option maxHeartbeats 6400000 in
theorem law_top_off (o : Out) (ta : Option Addr) (tn tc : Nat) (v : Value) (w : World) (hR : ArgR w o ta tn tc) (h : ¬ (Good o ∧ o.kind = 2)) :
    Calls Try.prog 3 #[.agg #[.int .i64 o.kind, .int .i64 o.born, .int .i64 o.stay, .int .i64 o.states, .int .i64 o.radius, .slice ta tn tc, .string o.turns], v] w fun e w' => e = .returned (.bool true) ∧ Below w.heap.size w w' := by
  obtain ⟨w1, hw1⟩ : ∃ w1, w.alloc (.cells #[.int .i64 o.kind, .int .i64 o.born, .int .i64 o.stay, .int .i64 o.states, .int .i64 o.radius, .slice ta tn tc, .string o.turns] 24) = w1 := ⟨_, rfl⟩
  have BB := hide' (show Below w.heap.size w w1 by rw [← hw1]; exact (Below.refl _ _).alloc (Nat.le_refl _) _)
  have RX := hide' (show RBo w.heap.size o (.slice ta tn tc) w1 by rw [← hw1]; exact RBo.new w o _ _)
  have AT := hide' (show ArgR w1 o ta tn tc by rw [← hw1]; exact hR.alloc _)
  have HH := hide' h
  clear hR h
  obtain ⟨w2, hw2⟩ : ∃ w2, w1.alloc (.cells #[.int .i64 1, .int .i64 0] 3) = w2 := ⟨_, rfl⟩
  have C0 := hide' (show Below w1.heap.size w1 w2 by rw [← hw2]; exact (Below.refl _ _).alloc (Nat.le_refl _) _)
  have FA := hide' (show ArgP w2 [1, 0] (some ⟨w1.heap.size, 0, none⟩) 2 2 by
    refine ⟨rfl, by unfold maxLen; omega, fun k hk => ⟨w1.heap.size, 0, rfl, by rw [← hw2]; simp, ?_⟩⟩
    rw [← hw2, World.cell?_alloc_at _ _ _ _ rfl]
    have : k = 0 ∨ k = 1 := by simp at hk; omega
    rcases this with rfl | rfl <;> rfl)
  have FO := hide' (fact_one w1.heap.size w2 FA.out)
  obtain ⟨x0, x1, x2, x3, x4, x5, x6⟩ := RX.out.next C0.out
  go_enter Try.func3, Try.ntmps3
  go_wp2_with fail
  refine (show Calls Try.prog _ _ _ _ from FO.out).mono ?_
  rintro e w3 ⟨rfl, b⟩
  have C1 := hide' (C0.out.trans (b.mono C0.out.size))
  clear b x0 x1 x2 x3 x4 x5 x6 C0 FO FA hw1 hw2
  obtain ⟨x0, x1, x2, x3, x4, x5, x6⟩ := RX.out.next C1.out
  go_wp2_with fail
  refine (one_off o ta tn tc _ (AT.out.below C1.out) HH.out).mono ?_
  unfold OneErr
  rintro e w4 ⟨rfl, b⟩
  have C2 := hide' (C1.out.trans (b.mono C1.out.size))
  clear b x0 x1 x2 x3 x4 x5 x6 C1
  go_wp2
  go_ret
  exact ⟨rfl, BB.out.trans (C2.out.mono BB.out.size)⟩

set_option maxRecDepth 100000 in
set_option maxHeartbeats 6400000 in
theorem law_top_bad (S R : Nat) (T : List Int) (ta : Option Addr) (tn tc : Nat) (v : Value) (w : World) (hL : LineOk S R T) (hT : ArgP w T ta tn tc) (he : askE S R [] ≠ 0) :
    Calls Try.prog 3 #[.agg #[.int .i64 2, .int .i64 0, .int .i64 0, .int .i64 (S : Int), .int .i64 (R : Int), .slice ta tn tc, .string ⟨#[]⟩], v] w fun e w' => e = .returned (.bool true) ∧ Below w.heap.size w w' := by
  obtain ⟨w1, hw1⟩ : ∃ w1, w.alloc (.cells #[.int .i64 2, .int .i64 0, .int .i64 0, .int .i64 (S : Int), .int .i64 (R : Int), .slice ta tn tc, .string ⟨#[]⟩] 24) = w1 := ⟨_, rfl⟩
  have BB := hide' (show Below w.heap.size w w1 by rw [← hw1]; exact (Below.refl _ _).alloc (Nat.le_refl _) _)
  have RX := hide' (show RB w.heap.size S R (.slice ta tn tc) w1 by rw [← hw1]; exact RB.new w S R _ _)
  have AT := hide' (hT.below BB.out)
  have HL := hide' hL
  have HE := hide' he
  clear hT hL he
  obtain ⟨w2, hw2⟩ : ∃ w2, w1.alloc (.cells #[.int .i64 1, .int .i64 0] 3) = w2 := ⟨_, rfl⟩
  have C0 := hide' (show Below w1.heap.size w1 w2 by rw [← hw2]; exact (Below.refl _ _).alloc (Nat.le_refl _) _)
  have FA := hide' (show ArgP w2 [1, 0] (some ⟨w1.heap.size, 0, none⟩) 2 2 by
    refine ⟨rfl, by unfold maxLen; omega, fun k hk => ⟨w1.heap.size, 0, rfl, by rw [← hw2]; simp, ?_⟩⟩
    rw [← hw2, World.cell?_alloc_at _ _ _ _ rfl]
    have : k = 0 ∨ k = 1 := by simp at hk; omega
    rcases this with rfl | rfl <;> rfl)
  have FO := hide' (fact_one w1.heap.size w2 FA.out)
  obtain ⟨x0, x1, x2, x3, x4, x5, x6⟩ := RX.out.next C0.out
  go_enter Try.func3, Try.ntmps3
  go_wp2_with fail
  refine (show Calls Try.prog _ _ _ _ from FO.out).mono ?_
  rintro e w3 ⟨rfl, b⟩
  have C1 := hide' (C0.out.trans (b.mono C0.out.size))
  clear b x0 x1 x2 x3 x4 x5 x6 C0 FO FA hw1 hw2
  obtain ⟨x0, x1, x2, x3, x4, x5, x6⟩ := RX.out.next C1.out
  go_wp2_with fail
  refine (one_bad S R T ta tn tc _ HL.out (AT.out.below C1.out) HE.out).mono ?_
  unfold OneErr
  rintro e w4 ⟨rfl, b⟩
  have C2 := hide' (C1.out.trans (b.mono C1.out.size))
  clear b x0 x1 x2 x3 x4 x5 x6 C1
  go_wp2
  go_ret
  exact ⟨rfl, BB.out.trans (C2.out.mono BB.out.size)⟩

set_option maxRecDepth 100000 in
set_option maxHeartbeats 6400000 in
theorem law_top_ok (S R : Nat) (T : List Int) (ta : Option Addr) (tn tc : Nat) (ws : List Int) (wa : Option Addr) (wc : Nat) (w : World) (hL : LineOk S R T) (hT : ArgP w T ta tn tc) (hW : ArgP w ws wa ws.length wc) (he : askE S R [] = 0) :
    Calls Try.prog 3 #[.agg #[.int .i64 2, .int .i64 0, .int .i64 0, .int .i64 (S : Int), .int .i64 (R : Int), .slice ta tn tc, .string ⟨#[]⟩], .slice wa ws.length wc] w fun e w' => e = .returned (.bool true) ∧ Below w.heap.size w w' := by
  obtain ⟨w1, hw1⟩ : ∃ w1, w.alloc (.cells #[.int .i64 2, .int .i64 0, .int .i64 0, .int .i64 (S : Int), .int .i64 (R : Int), .slice ta tn tc, .string ⟨#[]⟩] 24) = w1 := ⟨_, rfl⟩
  have BB := hide' (show Below w.heap.size w w1 by rw [← hw1]; exact (Below.refl _ _).alloc (Nat.le_refl _) _)
  have RX := hide' (show RB w.heap.size S R (.slice ta tn tc) w1 by rw [← hw1]; exact RB.new w S R _ _)
  have AT := hide' (hT.below BB.out)
  have HL := hide' hL
  have HE := hide' he
  have AW := hide' (hW.below BB.out)
  have s2 := hL.s2
  have g3 : 0 < S ^ (2 * R) := Nat.pow_pos (by omega)
  have ON := hide' (fun (W : World) (h : ArgP W T ta tn tc) => one_ok S R (S ^ (2 * R)) T ta tn tc W hL h he rfl)
  have CY := hide' (fun (xs : List Int) (a : Option Addr) (c : Nat) (W : World) (h : ArgP W T ta tn tc) (hx : ArgP W xs a xs.length c) => cycle_any S R T ta tn tc xs a c W hL h hx)
  have FZ := hide' (fun (hno : ∀ k, ¬ TurnAt S (S ^ (2 * R)) T k) (xs : List Int) (hx : cellsOk S xs) (m p : Nat) (h : First (fun n => runL S R T n xs) m p) => first_zero (by omega) hL.lenI hL.ok hx hno h)
  clear hT hL he hW
  obtain ⟨w2, hw2⟩ : ∃ w2, w1.alloc (.cells #[.int .i64 1, .int .i64 0] 3) = w2 := ⟨_, rfl⟩
  have C0 := hide' (show Below w1.heap.size w1 w2 by rw [← hw2]; exact (Below.refl _ _).alloc (Nat.le_refl _) _)
  have FA := hide' (show ArgP w2 [1, 0] (some ⟨w1.heap.size, 0, none⟩) 2 2 by
    refine ⟨rfl, by unfold maxLen; omega, fun k hk => ⟨w1.heap.size, 0, rfl, by rw [← hw2]; simp, ?_⟩⟩
    rw [← hw2, World.cell?_alloc_at _ _ _ _ rfl]
    have : k = 0 ∨ k = 1 := by simp at hk; omega
    rcases this with rfl | rfl <;> rfl)
  have FO := hide' (fact_one w1.heap.size w2 FA.out)
  obtain ⟨x0, x1, x2, x3, x4, x5, x6⟩ := RX.out.next C0.out
  go_enter Try.func3, Try.ntmps3
  go_wp2_with fail
  refine (show Calls Try.prog _ _ _ _ from FO.out).mono ?_
  rintro e w3 ⟨rfl, b⟩
  have C1 := hide' (C0.out.trans (b.mono C0.out.size))
  clear b x0 x1 x2 x3 x4 x5 x6 C0 FO FA hw1 hw2
  obtain ⟨x0, x1, x2, x3, x4, x5, x6⟩ := RX.out.next C1.out
  go_wp2_with fail
  refine (ON.out _ (AT.out.below C1.out)).mono ?_
  unfold OnePost
  rintro e w4 ⟨hor, b⟩
  have C2 := hide' (C1.out.trans (b.mono C1.out.size))
  clear b x0 x1 x2 x3 x4 x5 x6 C1
  obtain ⟨x0, x1, x2, x3, x4, x5, x6⟩ := RX.out.next C2.out
  rcases hor with ⟨u, full, v1, v2, rfl, r1, r2, ring⟩ | ⟨rfl, hno⟩
  · have hl : 0 < full.length := by obtain ⟨_, _, _, ⟨cs, d, e, _⟩, _⟩ := ring; rw [e]; simp
    have hl2 := ring.2.2.2.2
    obtain ⟨o1, o2, es, ne⟩ := ring_rings (by omega) ring
    have e1 : (full.map fun y => Value.int .i64 (y.1 : Int)) = (full.map fun y => (y.1 : Int)).map fun y => Value.int .i64 y := by rw [List.map_map]; rfl
    have e2 : (full.map fun y => Value.int .i64 (y.2 : Int)) = (full.map fun y => (y.2 : Int)).map fun y => Value.int .i64 y := by rw [List.map_map]; rfl
    obtain ⟨xs, hxs⟩ : ∃ xs : List Int, (full.map fun y => (y.1 : Int)) = xs := ⟨_, rfl⟩
    obtain ⟨ys, hys⟩ : ∃ ys : List Int, (full.map fun y => (y.2 : Int)) = ys := ⟨_, rfl⟩
    have lx : xs.length = full.length := by rw [← hxs]; simp
    have ly : ys.length = full.length := by rw [← hys]; simp
    rw [e1, hxs, ← lx] at r1
    rw [e2, hys, ← ly] at r2
    rw [hxs, hys] at es ne
    obtain ⟨gx, cx, rfl, ax⟩ := owns_arg r1 (by omega) (by unfold maxLen; omega)
    obtain ⟨gy, cy, rfl, ay⟩ := owns_arg r2 (by omega) (by unfold maxLen; omega)
    have AX := hide' ax
    have AY := hide' ay
    have NB := hide' (fun p q (h1 : First (fun n => runL S R T n xs) 0 p) (h2 : First (fun n => runL S R T n ys) 0 q) => not_both es ne h1 h2)
    clear ring r1 r2 e1 e2 es ne ax ay o1 o2 hxs hys
    obtain ⟨lX, hlX⟩ : ∃ l, xs.length = l := ⟨_, rfl⟩
    obtain ⟨lY, hlY⟩ : ∃ l, ys.length = l := ⟨_, rfl⟩
    have CX := hide' (CY.out xs (some ⟨gx, 0, none⟩) cx w4 (AT.out.below C2.out) AX.out)
    rw [hlX] at CX
    rw [hlX, hlY]
    go_wp2_with fail
    refine (show Calls Try.prog _ _ _ _ from CX.out).mono ?_
    unfold CycAny
    rintro e w5 ⟨h5, b⟩
    have C3 := hide' (C2.out.trans (b.mono C2.out.size))
    have AY5 := hide' (AY.out.below b)
    clear b x0 x1 x2 x3 x4 x5 x6 C2
    obtain ⟨x0, x1, x2, x3, x4, x5, x6⟩ := RX.out.next C3.out
    have CV := hide' (CY.out ys (some ⟨gy, 0, none⟩) cy w5 (AT.out.below C3.out) AY5.out)
    rw [hlY] at CV
    rcases h5 with ⟨_, m, p, f1, mp, rfl⟩ | ⟨k, rfl⟩
    · have F1 := hide' f1
      clear f1
      go_wp2_with fail
      refine (show Calls Try.prog _ _ _ _ from CV.out).mono ?_
      unfold CycAny
      rintro e w6 ⟨h6, b⟩
      have C4 := hide' (C3.out.trans (b.mono C3.out.size))
      clear b x0 x1 x2 x3 x4 x5 x6 C3
      rcases h6 with ⟨_, m', p', f2, mp', rfl⟩ | ⟨k', rfl⟩
      · have F2 := hide' f2
        clear f2
        rcases Nat.eq_zero_or_pos m with c | c
        · subst c
          rcases Nat.eq_zero_or_pos m' with c' | c'
          · subst c'; exact absurd F2.out (fun h => NB.out p p' F1.out h)
          · have d : (0 : Int) < (m' : Int) := by omega
            rw [show ((0 : Nat) : Int) = 0 from rfl]
            go_wp2
            go_ret
            exact ⟨rfl, BB.out.trans (C4.out.mono BB.out.size)⟩
        · have d : (0 : Int) < (m : Int) := by omega
          go_wp2
          go_ret
          exact ⟨rfl, BB.out.trans (C4.out.mono BB.out.size)⟩
      · go_wp2
        go_ret
        exact ⟨rfl, BB.out.trans (C4.out.mono BB.out.size)⟩
    · go_wp2_with fail
      refine (show Calls Try.prog _ _ _ _ from CV.out).mono ?_
      unfold CycAny
      rintro e w6 ⟨h6, b⟩
      have C4 := hide' (C3.out.trans (b.mono C3.out.size))
      clear b x0 x1 x2 x3 x4 x5 x6 C3
      rcases h6 with ⟨_, m', p', f2, mp', rfl⟩ | ⟨k', rfl⟩
      · go_wp2
        go_ret
        exact ⟨rfl, BB.out.trans (C4.out.mono BB.out.size)⟩
      · go_wp2
        go_ret
        exact ⟨rfl, BB.out.trans (C4.out.mono BB.out.size)⟩
  · have NT := hide' (no_turn g3 hno)
    clear hno
    have CX := hide' (CY.out ws wa wc w4 (AT.out.below C2.out) (AW.out.below C2.out))
    obtain ⟨lX, hlX⟩ : ∃ l, ws.length = l := ⟨_, rfl⟩
    rw [hlX] at CX
    rw [hlX]
    go_wp2_with fail
    refine (show Calls Try.prog _ _ _ _ from CX.out).mono ?_
    unfold CycAny
    rintro e w5 ⟨h5, b⟩
    have C3 := hide' (C2.out.trans (b.mono C2.out.size))
    clear b x0 x1 x2 x3 x4 x5 x6 C2
    rcases h5 with ⟨we, m, p, f1, mp, rfl⟩ | ⟨k, rfl⟩
    · have mz := FZ.out NT.out ws (wordE_zero we).2 m p f1
      have p1 : (1 : Int) ≤ (p : Int) := by have := f1.pos; omega
      subst mz
      clear f1 we
      rw [show ((0 : Nat) : Int) = 0 from rfl]
      go_wp2
      go_ret
      exact ⟨rfl, BB.out.trans (C3.out.mono BB.out.size)⟩
    · go_wp2
      go_ret
      exact ⟨rfl, BB.out.trans (C3.out.mono BB.out.size)⟩

/-- At every rule and word. -/
theorem law_top_all (o : Out) (ta : Option Addr) (tn tc : Nat) (ws : List Int) (wa : Option Addr) (wc : Nat) (w : World) (hR : ArgR w o ta tn tc) (hW : ArgP w ws wa ws.length wc) :
    Calls Try.prog 3 #[.agg #[.int .i64 o.kind, .int .i64 o.born, .int .i64 o.stay, .int .i64 o.states, .int .i64 o.radius, .slice ta tn tc, .string o.turns], .slice wa ws.length wc] w fun e w' => e = .returned (.bool true) ∧ Below w.heap.size w w' := by
  by_cases h : Good o ∧ o.kind = 2
  · obtain ⟨S, R, e, hL⟩ := good_line o h.1 h.2
    have hT : ArgP w o.table ta tn tc := ⟨hR.len, hR.max, hR.cells⟩
    obtain ⟨T, hTe⟩ : ∃ T, o.table = T := ⟨_, rfl⟩
    rw [hTe] at e hL hT
    subst e
    by_cases he : askE S R [] = 0
    · exact law_top_ok S R T ta tn tc ws wa wc w hL hT hW he
    · exact law_top_bad S R T ta tn tc _ w hL hT he
  · exact law_top_off o ta tn tc _ w hR h
end Go.Proofs.Ytdhbdkkchobinab

