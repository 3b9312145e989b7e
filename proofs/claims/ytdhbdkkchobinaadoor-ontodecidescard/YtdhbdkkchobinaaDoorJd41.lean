/-
  What the last text of this claim leans on, part 41: Ok6.
-/
import Derived.Test.YtdhbdkkchobinaaDoorJd26
import Derived.Test.YtdhbdkkchobinaaDoorJd3
import Derived.Test.YtdhbdkkchobinaaDoorJd10
import Derived.Test.YtdhbdkkchobinaaDoorJd29
namespace Go.Proofs.YtdhbdkkchobinaaDoor
open Go.RowKit
set_option linter.unusedVariables false

/-- A list that is answered by the other side, as one that may be handed on. -/
theorem listRef_arg {xs : List Int} {w w' : World} {e : Ending} (h : ListRef xs w e w') (hm : xs.length ≤ maxLen) : ∃ a c, e = .returned (.slice a xs.length c) ∧ ArgP w' xs a xs.length c ∧ Below w.heap.size w w' := by
  obtain ⟨v, rfl, ht, _, b⟩ := h
  rcases ht with ⟨h1, h2⟩ | ⟨g, cap, h1, h2, h3⟩
  · subst h1
    exact ⟨none, 0, by rw [h2]; rfl, ⟨rfl, hm, fun k hk => by simp at hk⟩, b⟩
  · exact ⟨some ⟨g, 0, none⟩, cap, by rw [h1], ⟨rfl, hm, fun k hk => ⟨g, 0, rfl, h2, by rw [Nat.zero_add]; exact h3 k hk⟩⟩, b⟩
theorem ints_say (xs ys : List Int) (a b : Option Addr) (n c m d : Nat) (w : World) (hA : ArgP w xs a n c) (hB : ArgP w ys b m d) (β : Bool) (hβ : decide (xs = ys) = β) :
    Calls Tryd.prog 30 #[.slice a n c, .slice b m d] w fun e w' => e = .returned (.bool β) ∧ ∃ q, w' = w.drewN q := by rw [← hβ]; exact Ints_any xs ys a b n c m d w hA hB

set_option maxRecDepth 100000 in
set_option maxHeartbeats 12800000 in
theorem ringsLaw_any (S R : Nat) (T : List Int) (ta : Option Addr) (tn tc : Nat) (xs ys : List Int) (xa ya : Option Addr) (L cx cy : Nat) (w : World) (hL : LineOk S R T) (hT : ArgP w T ta tn tc) (hX : ArgP w xs xa L cx) (hY : ArgP w ys ya L cy) (lx : xs.length = L) (ly : ys.length = L) (ex : wordE S xs = 0) (ey : wordE S ys = 0) (ne : xs ≠ ys) (es : stepL S R T xs = stepL S R T ys) :
    Calls Tryd.prog 70 #[.agg #[.int .i64 2, .int .i64 0, .int .i64 0, .int .i64 (S : Int), .int .i64 (R : Int), .slice ta tn tc, .string ⟨#[]⟩], .slice xa L cx, .slice ya L cy] w fun e w' => e = .returned (.bool true) ∧ Below w.heap.size w w' := by
  obtain ⟨w1, hw1⟩ : ∃ w1, w.alloc (.cells #[.int .i64 2, .int .i64 0, .int .i64 0, .int .i64 (S : Int), .int .i64 (R : Int), .slice ta tn tc, .string ⟨#[]⟩] 24) = w1 := ⟨_, rfl⟩
  have BB := hide' (show Below w.heap.size w w1 by rw [← hw1]; exact (Below.refl _ _).alloc (Nat.le_refl _) _)
  have RX := hide' (show RB w.heap.size S R (.slice ta tn tc) w1 by rw [← hw1]; exact RB.new w S R _ _)
  have AT := hide' (hT.below BB.out)
  have AX := hide' (hX.below BB.out)
  have AY := hide' (hY.below BB.out)
  have lm := hX.max
  have l1 : L ≤ 1000 := by rw [← lx]; exact (wordE_zero ex).1
  have FX := hide' (fun (W : World) (h : ArgP W T ta tn tc) (h2 : ArgP W xs xa L cx) => lineFault_line S R T ta tn tc xs xa L cx W hL h h2)
  have FY := hide' (fun (W : World) (h : ArgP W T ta tn tc) (h2 : ArgP W ys ya L cy) => lineFault_line S R T ta tn tc ys ya L cy W hL h h2)
  rw [ex] at FX
  rw [ey] at FY
  have SX := hide' (fun (W : World) (h : ArgP W T ta tn tc) (h2 : ArgP W xs xa xs.length cx) => refStep_any S R T ta tn tc xs xa cx W hL h h2 (wordE_zero ex).2 (wordE_zero ex).1)
  have SY := hide' (fun (W : World) (h : ArgP W T ta tn tc) (h2 : ArgP W ys ya ys.length cy) => refStep_any S R T ta tn tc ys ya cy W hL h h2 (wordE_zero ey).2 (wordE_zero ey).1)
  rw [lx, es] at SX
  rw [ly] at SY
  have ZL := hide' (show (stepL S R T ys).length = L by rw [stepL_length, ly])
  obtain ⟨zs, hzs⟩ : ∃ zs, stepL S R T ys = zs := ⟨_, rfl⟩
  rw [hzs] at SX SY ZL
  have NE := hide' (show decide (xs = ys) = false by simp [ne])
  clear hT hX hY hL lx ly ex ey ne es hzs
  have C0 := hide' (Below.refl w1.heap.size w1)
  obtain ⟨x0, x1, x2, x3, x4, x5, x6⟩ := RX.out
  go_enter Tryd.func70, Tryd.ntmps70
  go_wp2_with fail
  refine (FX.out _ (AT.out.below C0.out) (AX.out.below C0.out)).mono ?_
  rintro e w2 ⟨rfl, b⟩
  have C1 := hide' (C0.out.trans (b.mono C0.out.size))
  clear hw1
  clear b x0 x1 x2 x3 x4 x5 x6 C0
  obtain ⟨x0, x1, x2, x3, x4, x5, x6⟩ := RX.out.next C1.out
  go_wp2_with fail
  refine (FY.out _ (AT.out.below C1.out) (AY.out.below C1.out)).mono ?_
  rintro e w3 ⟨rfl, b⟩
  have C2 := hide' (C1.out.trans (b.mono C1.out.size))
  clear b x0 x1 x2 x3 x4 x5 x6 C1
  obtain ⟨x0, x1, x2, x3, x4, x5, x6⟩ := RX.out.next C2.out
  go_wp2_with fail
  refine (ints_say xs ys xa ya L cx L cy _ (AX.out.below C2.out) (AY.out.below C2.out) false NE.out).mono ?_
  rintro e w4 ⟨rfl, q, rfl⟩
  have C3 := hide' (below_drewN C2.out q)
  clear x0 x1 x2 x3 x4 x5 x6
  obtain ⟨x0, x1, x2, x3, x4, x5, x6⟩ := RX.out.next C3.out
  go_wp2_with fail
  refine (SX.out _ (AT.out.below C3.out) (AX.out.below C3.out)).mono ?_
  intro e w5 hlr
  obtain ⟨ap, cp, rfl, hp, b⟩ := listRef_arg hlr (by rw [ZL.out]; unfold maxLen; omega)
  have Hp := hide' hp
  rw [ZL.out] at Hp ⊢
  have C4 := hide' (C3.out.trans (b.mono C3.out.size))
  clear b hlr hp x0 x1 x2 x3 x4 x5 x6 C3
  obtain ⟨x0, x1, x2, x3, x4, x5, x6⟩ := RX.out.next C4.out
  go_wp2_with fail
  refine (SY.out _ (AT.out.below C4.out) (AY.out.below C4.out)).mono ?_
  intro e w6 hlr
  obtain ⟨aq, cq, rfl, hq, b⟩ := listRef_arg hlr (by rw [ZL.out]; unfold maxLen; omega)
  have Hq := hide' hq
  rw [ZL.out] at Hq ⊢
  have C5 := hide' (C4.out.trans (b.mono C4.out.size))
  have HP6 := hide' (Hp.out.below b)
  clear b hlr hq x0 x1 x2 x3 x4 x5 x6 C4
  obtain ⟨x0, x1, x2, x3, x4, x5, x6⟩ := RX.out.next C5.out
  go_wp2_with fail
  refine (ints_say zs zs ap aq L cp L cq _ HP6.out Hq.out true (by simp)).mono ?_
  rintro e w7 ⟨rfl, q', rfl⟩
  have C6 := hide' (below_drewN C5.out q')
  go_wp2
  go_ret
  exact ⟨rfl, BB.out.trans (C6.out.mono BB.out.size)⟩

set_option maxRecDepth 100000 in
set_option maxHeartbeats 12800000 in
theorem apart_any (S R k lo : Nat) (T : List Int) (ta : Option Addr) (tn tc : Nat) (xs ys : List Int) (gx gy L cx cy : Nat) (w : World) (hL : LineOk S R T) (hT : ArgP w T ta tn tc) (hX : ArgP w xs (some ⟨gx, 0, none⟩) L cx) (hY : ArgP w ys (some ⟨gy, 0, none⟩) L cy) (lx : xs.length = L) (ly : ys.length = L) (ex : wordE S xs = 0) (ey : wordE S ys = 0) (ne : xs ≠ ys) (es : applyL S R T xs = applyL S R T ys) (hk : 2 * R = k) (hlo : L = lo + k) (hcx : L ≤ cx) (hcy : L ≤ cy) (hmx : cx ≤ maxLen) (hmy : cy ≤ maxLen) (et : xs.take k = ys.take k) (ed : xs.drop lo = ys.drop lo) (hl0 : 0 < lo) :
    Calls Tryd.prog 69 #[.agg #[.int .i64 2, .int .i64 0, .int .i64 0, .int .i64 (S : Int), .int .i64 (R : Int), .slice ta tn tc, .string ⟨#[]⟩], .slice (some ⟨gx, 0, none⟩) L cx, .slice (some ⟨gy, 0, none⟩) L cy] w fun e w' => e = .returned (.bool true) ∧ Below w.heap.size w w' := by
  obtain ⟨w1, hw1⟩ : ∃ w1, w.alloc (.cells #[.int .i64 2, .int .i64 0, .int .i64 0, .int .i64 (S : Int), .int .i64 (R : Int), .slice ta tn tc, .string ⟨#[]⟩] 24) = w1 := ⟨_, rfl⟩
  have BB := hide' (show Below w.heap.size w w1 by rw [← hw1]; exact (Below.refl _ _).alloc (Nat.le_refl _) _)
  have RX := hide' (show RB w.heap.size S R (.slice ta tn tc) w1 by rw [← hw1]; exact RB.new w S R _ _)
  have AT := hide' (hT.below BB.out)
  have AX := hide' (hX.below BB.out)
  have AY := hide' (hY.below BB.out)
  have l1 : L ≤ 1000 := by rw [← lx]; exact (wordE_zero ex).1
  have FX := hide' (fun (W : World) (h : ArgP W T ta tn tc) (h2 : ArgP W xs (some ⟨gx, 0, none⟩) L cx) => lineFault_line S R T ta tn tc xs (some ⟨gx, 0, none⟩) L cx W hL h h2)
  have FY := hide' (fun (W : World) (h : ArgP W T ta tn tc) (h2 : ArgP W ys (some ⟨gy, 0, none⟩) L cy) => lineFault_line S R T ta tn tc ys (some ⟨gy, 0, none⟩) L cy W hL h h2)
  rw [ex] at FX
  rw [ey] at FY
  have SX := hide' (fun (W : World) (h : ArgP W T ta tn tc) (h2 : ArgP W xs (some ⟨gx, 0, none⟩) xs.length cx) => refApply_any S R T ta tn tc xs (some ⟨gx, 0, none⟩) cx W hL h h2 (wordE_zero ex).2 (by have := (wordE_zero ex).1; omega))
  have SY := hide' (fun (W : World) (h : ArgP W T ta tn tc) (h2 : ArgP W ys (some ⟨gy, 0, none⟩) ys.length cy) => refApply_any S R T ta tn tc ys (some ⟨gy, 0, none⟩) cy W hL h h2 (wordE_zero ey).2 (by have := (wordE_zero ey).1; omega))
  rw [lx, es] at SX
  rw [ly] at SY
  have ZL := hide' (show (applyL S R T ys).length = lo by rw [applyL_length, ly, hk, hlo]; omega)
  obtain ⟨zs, hzs⟩ : ∃ zs, applyL S R T ys = zs := ⟨_, rfl⟩
  rw [hzs] at SX SY ZL
  have NE := hide' (show decide (xs = ys) = false by simp [ne])
  have sub1 : ∀ (zs : List Int) (g c : Nat) (W : World), ArgP W zs (some ⟨g, 0, none⟩) L c → zs.length = L → ArgP W (zs.take k) (some ⟨g, 0, none⟩) k c := fun zs g c W h hl => ⟨by rw [List.length_take]; omega, by unfold maxLen; omega, fun j hj => by
    rw [List.length_take] at hj
    obtain ⟨g', o', e1, e2, e3⟩ := h.cells j (by omega)
    injection e1 with e1
    injection e1 with e1 e4
    subst e1 e4
    exact ⟨g, 0, rfl, e2, by rw [List.getElem_take]; exact e3⟩⟩
  have sub2 : ∀ (zs : List Int) (g c c' : Nat) (W : World), ArgP W zs (some ⟨g, 0, none⟩) L c → zs.length = L → ArgP W (zs.drop lo) (some ⟨g, lo, none⟩) k c' := fun zs g c c' W h hl => ⟨by rw [List.length_drop]; omega, by unfold maxLen; omega, fun j hj => by
    rw [List.length_drop] at hj
    obtain ⟨g', o', e1, e2, e3⟩ := h.cells (lo + j) (by omega)
    injection e1 with e1
    injection e1 with e1 e4
    subst e1 e4
    exact ⟨g, lo, rfl, e2, by rw [List.getElem_drop]; rw [Nat.zero_add] at e3; exact e3⟩⟩
  have sub3 : ∀ (zs : List Int) (a : Option Addr) (c' : Nat) (W : World), k = 0 → zs.length = L → ArgP W (zs.drop lo) a 0 c' := fun zs a c' W h hl => ⟨by rw [List.length_drop]; omega, by unfold maxLen; omega, fun j hj => by rw [List.length_drop] at hj; omega⟩
  have I1 := hide' (fun (W : World) (h : ArgP W xs (some ⟨gx, 0, none⟩) L cx) (h2 : ArgP W ys (some ⟨gy, 0, none⟩) L cy) => ints_say (xs.take k) (ys.take k) (some ⟨gx, 0, none⟩) (some ⟨gy, 0, none⟩) k cx k cy W (sub1 xs gx cx W h lx) (sub1 ys gy cy W h2 ly) true (by simp [et]))
  have I2 := hide' (fun (W : World) (c1 c2 : Nat) (h : ArgP W xs (some ⟨gx, 0, none⟩) L cx) (h2 : ArgP W ys (some ⟨gy, 0, none⟩) L cy) => ints_say (xs.drop lo) (ys.drop lo) (some ⟨gx, lo, none⟩) (some ⟨gy, lo, none⟩) k c1 k c2 W (sub2 xs gx cx c1 W h lx) (sub2 ys gy cy c2 W h2 ly) true (by simp [ed]))
  have I3 := hide' (fun (W : World) (a b : Option Addr) (c1 c2 : Nat) (h0 : k = 0) => ints_say (xs.drop lo) (ys.drop lo) a b 0 c1 0 c2 W (sub3 xs a c1 W h0 lx) (sub3 ys b c2 W h0 ly) true (by simp [ed]))
  have qk : 2 * (R : Int) = (k : Int) := by omega
  have qlo : (L : Int) - (k : Int) = (lo : Int) := by omega
  have kl : k ≤ L := by omega
  have wlo : IntKind.i64.wrap (lo : Int) = (lo : Int) := wrap_natL lo (by omega)
  have llo : lo ≤ L := by omega
  have HK := hide' hk
  have HLO := hide' hlo
  unfold maxLen at hmx hmy
  clear hT hX hY hL lx ly ex ey ne es hzs sub1 sub2 sub3 et ed hk hlo
  have C0 := hide' (Below.refl w1.heap.size w1)
  obtain ⟨x0, x1, x2, x3, x4, x5, x6⟩ := RX.out
  go_enter Tryd.func69, Tryd.ntmps69
  go_wp2_with fail
  refine (FX.out _ (AT.out.below C0.out) (AX.out.below C0.out)).mono ?_
  rintro e w2 ⟨rfl, b⟩
  have C1 := hide' (C0.out.trans (b.mono C0.out.size))
  clear hw1
  clear b x0 x1 x2 x3 x4 x5 x6 C0
  obtain ⟨x0, x1, x2, x3, x4, x5, x6⟩ := RX.out.next C1.out
  go_wp2_with fail
  refine (FY.out _ (AT.out.below C1.out) (AY.out.below C1.out)).mono ?_
  rintro e w3 ⟨rfl, b⟩
  have C2 := hide' (C1.out.trans (b.mono C1.out.size))
  clear b x0 x1 x2 x3 x4 x5 x6 C1
  obtain ⟨x0, x1, x2, x3, x4, x5, x6⟩ := RX.out.next C2.out
  go_wp2_with fail
  refine (ints_say xs ys _ _ L cx L cy _ (AX.out.below C2.out) (AY.out.below C2.out) false NE.out).mono ?_
  rintro e w4 ⟨rfl, q, rfl⟩
  have C3 := hide' (below_drewN C2.out q)
  have AX3 := hide' (AX.out.below C3.out)
  have AY3 := hide' (AY.out.below C3.out)
  clear x0 x1 x2 x3 x4 x5 x6
  obtain ⟨x0, x1, x2, x3, x4, x5, x6⟩ := RX.out.next C2.out
  have c0 : ¬ cx = 0 := by omega
  have c0' : ¬ cy = 0 := by omega
  go_wp2_with fail
  have AX3' := hide' (AX3.out.below (below_drewN (Below.refl _ _) 1))
  have AY3' := hide' (AY3.out.below (below_drewN (Below.refl _ _) 1))
  go_region_with ((go_at_call 30; refine (I1.out _ AX3'.out AY3'.out).mono ?_; rintro e w9 ⟨rfl, q1, rfl⟩))
  all_goals
    go_wp2_with fail
    by_cases hk0 : k = 0
    · subst hk0
      obtain rfl : L = lo := by omega
      by_cases d1 : cx = L
      · subst d1
        by_cases d2 : cy = cx
        · subst d2
          go_region_with ((go_at_call 30; refine (I3.out _ _ _ _ _ rfl).mono ?_; rintro e w9 ⟨rfl, q2, rfl⟩))
          all_goals
            go_wp2_with fail
            refine (SX.out _ (AT.out.below (below_drewN C2.out _)) (AX.out.below (below_drewN C2.out _))).mono ?_
            intro e w5 hlr
            obtain ⟨ap, cp, rfl, hp, b⟩ := listRef_arg hlr (by rw [ZL.out]; unfold maxLen; omega)
            have Hp := hide' hp
            rw [ZL.out] at Hp ⊢
            have C6 := hide' ((below_drewN C2.out _).trans (b.mono (below_drewN C2.out _).size))
            clear b hlr hp x0 x1 x2 x3 x4 x5 x6
            obtain ⟨x0, x1, x2, x3, x4, x5, x6⟩ := RX.out.next C6.out
            go_wp2_with fail
            refine (SY.out _ (AT.out.below C6.out) (AY.out.below C6.out)).mono ?_
            intro e w6 hlr
            obtain ⟨aq, cq, rfl, hq, b⟩ := listRef_arg hlr (by rw [ZL.out]; unfold maxLen; omega)
            have Hq := hide' hq
            rw [ZL.out] at Hq ⊢
            have C7 := hide' (C6.out.trans (b.mono C6.out.size))
            have HP6 := hide' (Hp.out.below b)
            clear b hlr hq x0 x1 x2 x3 x4 x5 x6 C6
            obtain ⟨x0, x1, x2, x3, x4, x5, x6⟩ := RX.out.next C7.out
            go_wp2_with fail
            refine (ints_say zs zs ap aq _ cp _ cq _ HP6.out Hq.out true (by simp)).mono ?_
            rintro e w7 ⟨rfl, q', rfl⟩
            have C8 := hide' (below_drewN C7.out q')
            go_wp2
            go_ret
            exact ⟨rfl, BB.out.trans (C8.out.mono BB.out.size)⟩
        · skip
          go_region_with ((go_at_call 30; refine (I3.out _ _ _ _ _ rfl).mono ?_; rintro e w9 ⟨rfl, q2, rfl⟩))
          all_goals
            go_wp2_with fail
            refine (SX.out _ (AT.out.below (below_drewN C2.out _)) (AX.out.below (below_drewN C2.out _))).mono ?_
            intro e w5 hlr
            obtain ⟨ap, cp, rfl, hp, b⟩ := listRef_arg hlr (by rw [ZL.out]; unfold maxLen; omega)
            have Hp := hide' hp
            rw [ZL.out] at Hp ⊢
            have C6 := hide' ((below_drewN C2.out _).trans (b.mono (below_drewN C2.out _).size))
            clear b hlr hp x0 x1 x2 x3 x4 x5 x6
            obtain ⟨x0, x1, x2, x3, x4, x5, x6⟩ := RX.out.next C6.out
            go_wp2_with fail
            refine (SY.out _ (AT.out.below C6.out) (AY.out.below C6.out)).mono ?_
            intro e w6 hlr
            obtain ⟨aq, cq, rfl, hq, b⟩ := listRef_arg hlr (by rw [ZL.out]; unfold maxLen; omega)
            have Hq := hide' hq
            rw [ZL.out] at Hq ⊢
            have C7 := hide' (C6.out.trans (b.mono C6.out.size))
            have HP6 := hide' (Hp.out.below b)
            clear b hlr hq x0 x1 x2 x3 x4 x5 x6 C6
            obtain ⟨x0, x1, x2, x3, x4, x5, x6⟩ := RX.out.next C7.out
            go_wp2_with fail
            refine (ints_say zs zs ap aq _ cp _ cq _ HP6.out Hq.out true (by simp)).mono ?_
            rintro e w7 ⟨rfl, q', rfl⟩
            have C8 := hide' (below_drewN C7.out q')
            go_wp2
            go_ret
            exact ⟨rfl, BB.out.trans (C8.out.mono BB.out.size)⟩
      · skip
        by_cases d2 : cy = L
        · subst d2
          go_region_with ((go_at_call 30; refine (I3.out _ _ _ _ _ rfl).mono ?_; rintro e w9 ⟨rfl, q2, rfl⟩))
          all_goals
            go_wp2_with fail
            refine (SX.out _ (AT.out.below (below_drewN C2.out _)) (AX.out.below (below_drewN C2.out _))).mono ?_
            intro e w5 hlr
            obtain ⟨ap, cp, rfl, hp, b⟩ := listRef_arg hlr (by rw [ZL.out]; unfold maxLen; omega)
            have Hp := hide' hp
            rw [ZL.out] at Hp ⊢
            have C6 := hide' ((below_drewN C2.out _).trans (b.mono (below_drewN C2.out _).size))
            clear b hlr hp x0 x1 x2 x3 x4 x5 x6
            obtain ⟨x0, x1, x2, x3, x4, x5, x6⟩ := RX.out.next C6.out
            go_wp2_with fail
            refine (SY.out _ (AT.out.below C6.out) (AY.out.below C6.out)).mono ?_
            intro e w6 hlr
            obtain ⟨aq, cq, rfl, hq, b⟩ := listRef_arg hlr (by rw [ZL.out]; unfold maxLen; omega)
            have Hq := hide' hq
            rw [ZL.out] at Hq ⊢
            have C7 := hide' (C6.out.trans (b.mono C6.out.size))
            have HP6 := hide' (Hp.out.below b)
            clear b hlr hq x0 x1 x2 x3 x4 x5 x6 C6
            obtain ⟨x0, x1, x2, x3, x4, x5, x6⟩ := RX.out.next C7.out
            go_wp2_with fail
            refine (ints_say zs zs ap aq _ cp _ cq _ HP6.out Hq.out true (by simp)).mono ?_
            rintro e w7 ⟨rfl, q', rfl⟩
            have C8 := hide' (below_drewN C7.out q')
            go_wp2
            go_ret
            exact ⟨rfl, BB.out.trans (C8.out.mono BB.out.size)⟩
        · skip
          go_region_with ((go_at_call 30; refine (I3.out _ _ _ _ _ rfl).mono ?_; rintro e w9 ⟨rfl, q2, rfl⟩))
          all_goals
            go_wp2_with fail
            refine (SX.out _ (AT.out.below (below_drewN C2.out _)) (AX.out.below (below_drewN C2.out _))).mono ?_
            intro e w5 hlr
            obtain ⟨ap, cp, rfl, hp, b⟩ := listRef_arg hlr (by rw [ZL.out]; unfold maxLen; omega)
            have Hp := hide' hp
            rw [ZL.out] at Hp ⊢
            have C6 := hide' ((below_drewN C2.out _).trans (b.mono (below_drewN C2.out _).size))
            clear b hlr hp x0 x1 x2 x3 x4 x5 x6
            obtain ⟨x0, x1, x2, x3, x4, x5, x6⟩ := RX.out.next C6.out
            go_wp2_with fail
            refine (SY.out _ (AT.out.below C6.out) (AY.out.below C6.out)).mono ?_
            intro e w6 hlr
            obtain ⟨aq, cq, rfl, hq, b⟩ := listRef_arg hlr (by rw [ZL.out]; unfold maxLen; omega)
            have Hq := hide' hq
            rw [ZL.out] at Hq ⊢
            have C7 := hide' (C6.out.trans (b.mono C6.out.size))
            have HP6 := hide' (Hp.out.below b)
            clear b hlr hq x0 x1 x2 x3 x4 x5 x6 C6
            obtain ⟨x0, x1, x2, x3, x4, x5, x6⟩ := RX.out.next C7.out
            go_wp2_with fail
            refine (ints_say zs zs ap aq _ cp _ cq _ HP6.out Hq.out true (by simp)).mono ?_
            rintro e w7 ⟨rfl, q', rfl⟩
            have C8 := hide' (below_drewN C7.out q')
            go_wp2
            go_ret
            exact ⟨rfl, BB.out.trans (C8.out.mono BB.out.size)⟩
    · skip
      have d1 : ¬ cx = lo := by omega
      have d2 : ¬ cy = lo := by omega
      have e1 : L - lo = k := by omega
      go_region_with ((go_at_call 30; refine (I2.out _ _ _ (AX.out.below (below_drewN C2.out _)) (AY.out.below (below_drewN C2.out _))).mono ?_; rintro e w9 ⟨rfl, q2, rfl⟩))
      all_goals
        go_wp2_with fail
        refine (SX.out _ (AT.out.below (below_drewN C2.out _)) (AX.out.below (below_drewN C2.out _))).mono ?_
        intro e w5 hlr
        obtain ⟨ap, cp, rfl, hp, b⟩ := listRef_arg hlr (by rw [ZL.out]; unfold maxLen; omega)
        have Hp := hide' hp
        rw [ZL.out] at Hp ⊢
        have C6 := hide' ((below_drewN C2.out _).trans (b.mono (below_drewN C2.out _).size))
        clear b hlr hp x0 x1 x2 x3 x4 x5 x6
        obtain ⟨x0, x1, x2, x3, x4, x5, x6⟩ := RX.out.next C6.out
        go_wp2_with fail
        refine (SY.out _ (AT.out.below C6.out) (AY.out.below C6.out)).mono ?_
        intro e w6 hlr
        obtain ⟨aq, cq, rfl, hq, b⟩ := listRef_arg hlr (by rw [ZL.out]; unfold maxLen; omega)
        have Hq := hide' hq
        rw [ZL.out] at Hq ⊢
        have C7 := hide' (C6.out.trans (b.mono C6.out.size))
        have HP6 := hide' (Hp.out.below b)
        clear b hlr hq x0 x1 x2 x3 x4 x5 x6 C6
        obtain ⟨x0, x1, x2, x3, x4, x5, x6⟩ := RX.out.next C7.out
        go_wp2_with fail
        refine (ints_say zs zs ap aq _ cp _ cq _ HP6.out Hq.out true (by simp)).mono ?_
        rintro e w7 ⟨rfl, q', rfl⟩
        have C8 := hide' (below_drewN C7.out q')
        go_wp2
        go_ret
        exact ⟨rfl, BB.out.trans (C8.out.mono BB.out.size)⟩
end Go.Proofs.YtdhbdkkchobinaaDoor

