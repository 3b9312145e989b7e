/-
  What the last text of this claim leans on, part 32: Gd5, Gd6.
-/
import Derived.Test.YtjjdjdodhedihaaDoorJg31
namespace Go.Proofs.YtjjdjdodhedihaaDoor
open Go.RowKit
set_option linter.unusedVariables false

set_option maxRecDepth 100000 in
set_option maxHeartbeats 12800000 in
theorem law_garden_off (o : Out) (ta : Option Addr) (tn tc : Nat) (u v : Value) (w : World) (hR : ArgR w o ta tn tc) (h : ¬ (Good o ∧ o.kind = 2)) (hz : TzTab w) :
    Calls Tryd.prog 3 #[.agg #[.int .i64 o.kind, .int .i64 o.born, .int .i64 o.stay, .int .i64 o.states, .int .i64 o.radius, .slice ta tn tc, .string o.turns], u, v] w fun e w' => e = .returned (.bool true) ∧ Below w.heap.size w w' := by
  obtain ⟨w1, hw1⟩ : ∃ w1, w.alloc (.cells #[.int .i64 o.kind, .int .i64 o.born, .int .i64 o.stay, .int .i64 o.states, .int .i64 o.radius, .slice ta tn tc, .string o.turns] 24) = w1 := ⟨_, rfl⟩
  have BB := hide' (show Below w.heap.size w w1 by rw [← hw1]; exact (Below.refl _ _).alloc (Nat.le_refl _) _)
  have RX := hide' (show RBo w.heap.size o (.slice ta tn tc) w1 by rw [← hw1]; exact RBo.new w o _ _)
  have AT := hide' (show ArgR w1 o ta tn tc by rw [← hw1]; exact hR.alloc _)
  have ON := hide' (fun (W : World) (h' : ArgR W o ta tn tc) => onto_off o ta tn tc W h' h)
  have PR := hide' (fun (W : World) (h' : ArgR W o ta tn tc) => pre_off o ta tn tc W h' h)
  have OE := hide' (fun (W : World) (h' : ArgR W o ta tn tc) => one_off o ta tn tc W h' h)
  clear hR h
  have TZ := hide' (hz.below BB.out)
  clear hz
  obtain ⟨w2, hw2⟩ : ∃ w2, w1.alloc (.cells #[.int .i64 0, .int .i64 1] 3) = w2 := ⟨_, rfl⟩
  have C0 := hide' (show Below w1.heap.size w1 w2 by rw [← hw2]; exact (Below.refl _ _).alloc (Nat.le_refl _) _)
  have FA0 := hide' (show ArgP w2 [0, 1] (some ⟨w1.heap.size, 0, none⟩) 2 2 by
    refine ⟨rfl, by unfold maxLen; omega, fun k hk => ⟨w1.heap.size, 0, rfl, by rw [← hw2]; simp, ?_⟩⟩
    rw [← hw2, World.cell?_alloc_at _ _ _ _ rfl]
    have : k = 0 ∨ k = 1 := by simp at hk; omega
    rcases this with rfl | rfl <;> rfl)
  have D0 := hide' ((Below.refl w2.heap.size w2).alloc (Nat.le_refl _) (.cells #[.int .i64 2, .int .i64 0, .int .i64 0, .int .i64 2, .int .i64 0, .slice (some ⟨w1.heap.size, 0, none⟩) 2 2, .string ⟨#[]⟩] 24))
  have C1 := hide' (C0.out.trans (D0.out.mono C0.out.size))
  have FO := hide' (fact_onto w1.heap.size _ (FA0.out.below D0.out) (TZ.out.below C1.out))
  obtain ⟨x0, x1, x2, x3, x4, x5, x6⟩ := RX.out.next C0.out
  go_enter Tryd.func3, Tryd.ntmps3
  go_wp2_with fail
  refine (show Calls Tryd.prog _ _ _ _ from FO.out).mono ?_
  rintro e w4 ⟨rfl, b⟩
  have C2 := hide' (C1.out.trans (b.mono C1.out.size))
  clear b x0 x1 x2 x3 x4 x5 x6 C0 C1 D0 FO FA0 hw1 hw2
  obtain ⟨x0, x1, x2, x3, x4, x5, x6⟩ := RX.out.next C2.out
  go_wp2_with fail
  refine (ON.out _ (AT.out.below C2.out)).mono ?_
  unfold OntoErr
  rintro e w5 ⟨rfl, b⟩
  have C3 := hide' (C2.out.trans (b.mono C2.out.size))
  clear b x0 x1 x2 x3 x4 x5 x6 C2
  obtain ⟨x0, x1, x2, x3, x4, x5, x6⟩ := RX.out.next C3.out
  go_wp2_with fail
  refine (PR.out _ (AT.out.below C3.out)).mono ?_
  unfold OneErr
  rintro e w6 ⟨rfl, b⟩
  have C4 := hide' (C3.out.trans (b.mono C3.out.size))
  clear b x0 x1 x2 x3 x4 x5 x6 C3
  obtain ⟨x0, x1, x2, x3, x4, x5, x6⟩ := RX.out.next C4.out
  go_wp2_with fail
  refine (OE.out _ (AT.out.below C4.out)).mono ?_
  unfold OneErr
  rintro e w7 ⟨rfl, b⟩
  have C5 := hide' (C4.out.trans (b.mono C4.out.size))
  clear b x0 x1 x2 x3 x4 x5 x6 C4
  obtain ⟨x0, x1, x2, x3, x4, x5, x6⟩ := RX.out.next C5.out
  go_wp2
  go_ret
  exact ⟨rfl, BB.out.trans (C5.out.mono BB.out.size)⟩

set_option maxRecDepth 100000 in
set_option maxHeartbeats 12800000 in
theorem law_garden_bad (S R : Nat) (T : List Int) (ta : Option Addr) (tn tc : Nat) (u v : Value) (w : World) (hL : LineOk S R T) (hT : ArgP w T ta tn tc) (he : askE S R [] ≠ 0) (hz : TzTab w) :
    Calls Tryd.prog 3 #[.agg #[.int .i64 2, .int .i64 0, .int .i64 0, .int .i64 (S : Int), .int .i64 (R : Int), .slice ta tn tc, .string ⟨#[]⟩], u, v] w fun e w' => e = .returned (.bool true) ∧ Below w.heap.size w w' := by
  obtain ⟨w1, hw1⟩ : ∃ w1, w.alloc (.cells #[.int .i64 2, .int .i64 0, .int .i64 0, .int .i64 (S : Int), .int .i64 (R : Int), .slice ta tn tc, .string ⟨#[]⟩] 24) = w1 := ⟨_, rfl⟩
  have BB := hide' (show Below w.heap.size w w1 by rw [← hw1]; exact (Below.refl _ _).alloc (Nat.le_refl _) _)
  have RX := hide' (show RB w.heap.size S R (.slice ta tn tc) w1 by rw [← hw1]; exact RB.new w S R _ _)
  have AT := hide' (hT.below BB.out)
  have HL := hide' hL
  have HE := hide' he
  obtain ⟨f, hf⟩ : ∃ f, askE S R [] = f := ⟨_, rfl⟩
  have ON := hide' (fun (W : World) (h : ArgP W T ta tn tc) => onto_bad S R T ta tn tc W hL h he)
  have PR := hide' (fun (W : World) (h : ArgP W T ta tn tc) => pre_bad S R T ta tn tc W hL h he)
  have OE := hide' (fun (W : World) (h : ArgP W T ta tn tc) => one_bad S R T ta tn tc W hL h he)
  rw [hf] at ON PR OE
  clear hT hL he hf HE
  have TZ := hide' (hz.below BB.out)
  clear hz
  obtain ⟨w2, hw2⟩ : ∃ w2, w1.alloc (.cells #[.int .i64 0, .int .i64 1] 3) = w2 := ⟨_, rfl⟩
  have C0 := hide' (show Below w1.heap.size w1 w2 by rw [← hw2]; exact (Below.refl _ _).alloc (Nat.le_refl _) _)
  have FA0 := hide' (show ArgP w2 [0, 1] (some ⟨w1.heap.size, 0, none⟩) 2 2 by
    refine ⟨rfl, by unfold maxLen; omega, fun k hk => ⟨w1.heap.size, 0, rfl, by rw [← hw2]; simp, ?_⟩⟩
    rw [← hw2, World.cell?_alloc_at _ _ _ _ rfl]
    have : k = 0 ∨ k = 1 := by simp at hk; omega
    rcases this with rfl | rfl <;> rfl)
  have D0 := hide' ((Below.refl w2.heap.size w2).alloc (Nat.le_refl _) (.cells #[.int .i64 2, .int .i64 0, .int .i64 0, .int .i64 2, .int .i64 0, .slice (some ⟨w1.heap.size, 0, none⟩) 2 2, .string ⟨#[]⟩] 24))
  have C1 := hide' (C0.out.trans (D0.out.mono C0.out.size))
  have FO := hide' (fact_onto w1.heap.size _ (FA0.out.below D0.out) (TZ.out.below C1.out))
  obtain ⟨x0, x1, x2, x3, x4, x5, x6⟩ := RX.out.next C0.out
  go_enter Tryd.func3, Tryd.ntmps3
  go_wp2_with fail
  refine (show Calls Tryd.prog _ _ _ _ from FO.out).mono ?_
  rintro e w4 ⟨rfl, b⟩
  have C2 := hide' (C1.out.trans (b.mono C1.out.size))
  clear b x0 x1 x2 x3 x4 x5 x6 C0 C1 D0 FO FA0 hw1 hw2
  obtain ⟨x0, x1, x2, x3, x4, x5, x6⟩ := RX.out.next C2.out
  go_wp2_with fail
  refine (ON.out _ (AT.out.below C2.out)).mono ?_
  unfold OntoErr
  rintro e w5 ⟨rfl, b⟩
  have C3 := hide' (C2.out.trans (b.mono C2.out.size))
  clear b x0 x1 x2 x3 x4 x5 x6 C2
  obtain ⟨x0, x1, x2, x3, x4, x5, x6⟩ := RX.out.next C3.out
  go_wp2_with fail
  refine (PR.out _ (AT.out.below C3.out)).mono ?_
  unfold OneErr
  rintro e w6 ⟨rfl, b⟩
  have C4 := hide' (C3.out.trans (b.mono C3.out.size))
  clear b x0 x1 x2 x3 x4 x5 x6 C3
  obtain ⟨x0, x1, x2, x3, x4, x5, x6⟩ := RX.out.next C4.out
  go_wp2_with fail
  refine (OE.out _ (AT.out.below C4.out)).mono ?_
  unfold OneErr
  rintro e w7 ⟨rfl, b⟩
  have C5 := hide' (C4.out.trans (b.mono C4.out.size))
  clear b x0 x1 x2 x3 x4 x5 x6 C4
  obtain ⟨x0, x1, x2, x3, x4, x5, x6⟩ := RX.out.next C5.out
  go_wp2
  go_ret
  exact ⟨rfl, BB.out.trans (C5.out.mono BB.out.size)⟩

set_option maxRecDepth 100000 in
set_option maxHeartbeats 12800000 in
theorem law_garden_yes (S R n : Nat) (T : List Int) (ta : Option Addr) (tn tc : Nat) (ah : List Int) (aa : Option Addr) (ac : Nat) (ws : List Int) (wa : Option Addr) (wc : Nat) (w : World) (hL : LineOk S R T) (hT : ArgP w T ta tn tc) (hA : ArgP w ah aa ah.length ac) (hW : ArgP w ws wa ws.length wc) (he : askE S R [] = 0) (hn : S ^ (2 * R) = n) (hz : TzTab w) (hO : OrphanIs (follN S n T) S (2 ^ n - 1) none) :
    Calls Tryd.prog 3 #[.agg #[.int .i64 2, .int .i64 0, .int .i64 0, .int .i64 (S : Int), .int .i64 (R : Int), .slice ta tn tc, .string ⟨#[]⟩], .slice aa ah.length ac, .slice wa ws.length wc] w fun e w' => e = .returned (.bool true) ∧ Below w.heap.size w w' := by
  obtain ⟨w1, hw1⟩ : ∃ w1, w.alloc (.cells #[.int .i64 2, .int .i64 0, .int .i64 0, .int .i64 (S : Int), .int .i64 (R : Int), .slice ta tn tc, .string ⟨#[]⟩] 24) = w1 := ⟨_, rfl⟩
  have BB := hide' (show Below w.heap.size w w1 by rw [← hw1]; exact (Below.refl _ _).alloc (Nat.le_refl _) _)
  have RX := hide' (show RB w.heap.size S R (.slice ta tn tc) w1 by rw [← hw1]; exact RB.new w S R _ _)
  have AT := hide' (hT.below BB.out)
  have AA := hide' (hA.below BB.out)
  have AW := hide' (hW.below BB.out)
  have n16 : n ≤ 16 := by rw [← hn]; exact (askE_zero he).2
  have PL := hide' (fun (W : World) => refPlaces_any S R T ta tn tc W hL)
  have hp : plc S R = n := by rw [← hn]; exact plc_end (askE_zero he).2
  rw [hp] at PL
  have ON := hide' (fun (W : World) (h : ArgP W T ta tn tc) (h2 : TzTab W) => onto_yes S R n T ta tn tc W hL h he hn h2 hO)
  have PR := hide' (fun (W : World) (h : ArgP W T ta tn tc) => pre_yes S R n T ta tn tc W hL h he hn hO)
  have OE := hide' (fun (W : World) (h : ArgP W T ta tn tc) => one_some S R n T ta tn tc W hL h he hn)
  have PA := hide' (fun (W : World) (h : ArgP W T ta tn tc) (h2 : ArgP W ws wa ws.length wc) => parents_is S R n n T ta tn tc ws wa wc W hL h h2 hn n16 (fun hc => garden_cnt hL hn hO ws hc))
  clear hT hL he hO hA hW hn hp
  have TZ := hide' (hz.below BB.out)
  clear hz
  obtain ⟨w2, hw2⟩ : ∃ w2, w1.alloc (.cells #[.int .i64 0, .int .i64 1] 3) = w2 := ⟨_, rfl⟩
  have C0 := hide' (show Below w1.heap.size w1 w2 by rw [← hw2]; exact (Below.refl _ _).alloc (Nat.le_refl _) _)
  have FA0 := hide' (show ArgP w2 [0, 1] (some ⟨w1.heap.size, 0, none⟩) 2 2 by
    refine ⟨rfl, by unfold maxLen; omega, fun k hk => ⟨w1.heap.size, 0, rfl, by rw [← hw2]; simp, ?_⟩⟩
    rw [← hw2, World.cell?_alloc_at _ _ _ _ rfl]
    have : k = 0 ∨ k = 1 := by simp at hk; omega
    rcases this with rfl | rfl <;> rfl)
  have D0 := hide' ((Below.refl w2.heap.size w2).alloc (Nat.le_refl _) (.cells #[.int .i64 2, .int .i64 0, .int .i64 0, .int .i64 2, .int .i64 0, .slice (some ⟨w1.heap.size, 0, none⟩) 2 2, .string ⟨#[]⟩] 24))
  have C1 := hide' (C0.out.trans (D0.out.mono C0.out.size))
  have FO := hide' (fact_onto w1.heap.size _ (FA0.out.below D0.out) (TZ.out.below C1.out))
  obtain ⟨x0, x1, x2, x3, x4, x5, x6⟩ := RX.out.next C0.out
  go_enter Tryd.func3, Tryd.ntmps3
  go_wp2_with fail
  refine (show Calls Tryd.prog _ _ _ _ from FO.out).mono ?_
  rintro e w4 ⟨rfl, b⟩
  have C2 := hide' (C1.out.trans (b.mono C1.out.size))
  clear b x0 x1 x2 x3 x4 x5 x6 C0 C1 D0 FO FA0 hw1 hw2
  obtain ⟨x0, x1, x2, x3, x4, x5, x6⟩ := RX.out.next C2.out
  go_wp2_with fail
  refine (ON.out _ (AT.out.below C2.out) (TZ.out.below C2.out)).mono ?_
  rintro e w5 ⟨rfl, b⟩
  have C3 := hide' (C2.out.trans (b.mono C2.out.size))
  clear b x0 x1 x2 x3 x4 x5 x6 C2
  obtain ⟨x0, x1, x2, x3, x4, x5, x6⟩ := RX.out.next C3.out
  go_wp2_with fail
  refine (PR.out _ (AT.out.below C3.out)).mono ?_
  rintro e w6 ⟨rfl, b⟩
  have C4 := hide' (C3.out.trans (b.mono C3.out.size))
  clear b x0 x1 x2 x3 x4 x5 x6 C3
  obtain ⟨x0, x1, x2, x3, x4, x5, x6⟩ := RX.out.next C4.out
  go_wp2_with fail
  refine (OE.out _ (AT.out.below C4.out)).mono ?_
  rintro e w7 ⟨⟨c, v1, v2, rfl, _⟩, b⟩
  have C5 := hide' (C4.out.trans (b.mono C4.out.size))
  clear b x0 x1 x2 x3 x4 x5 x6 C4
  obtain ⟨x0, x1, x2, x3, x4, x5, x6⟩ := RX.out.next C5.out
  cases c
  · go_wp2_with fail
    refine (PL.out _).mono ?_
    rintro e w8 ⟨rfl, b⟩
    have C6 := hide' (C5.out.trans (b.mono C5.out.size))
    clear b x0 x1 x2 x3 x4 x5 x6 C5
    obtain ⟨x0, x1, x2, x3, x4, x5, x6⟩ := RX.out.next C6.out
    go_wp2_with fail
    refine (PA.out _ (AT.out.below C6.out) (AW.out.below C6.out)).mono ?_
    unfold ParAns
    rintro e w9 ⟨⟨_, k, rfl⟩ | rfl, b⟩
    · have C7 := hide' (C6.out.trans (b.mono C6.out.size))
      clear b x0 x1 x2 x3 x4 x5 x6 C6
      go_wp2
      go_ret
      exact ⟨rfl, BB.out.trans (C7.out.mono BB.out.size)⟩
    · have C7 := hide' (C6.out.trans (b.mono C6.out.size))
      clear b x0 x1 x2 x3 x4 x5 x6 C6
      go_wp2
      go_ret
      exact ⟨rfl, BB.out.trans (C7.out.mono BB.out.size)⟩
  · go_wp2_with fail
    refine (PL.out _).mono ?_
    rintro e w8 ⟨rfl, b⟩
    have C6 := hide' (C5.out.trans (b.mono C5.out.size))
    clear b x0 x1 x2 x3 x4 x5 x6 C5
    obtain ⟨x0, x1, x2, x3, x4, x5, x6⟩ := RX.out.next C6.out
    go_wp2_with fail
    refine (PA.out _ (AT.out.below C6.out) (AW.out.below C6.out)).mono ?_
    unfold ParAns
    rintro e w9 ⟨⟨_, k, rfl⟩ | rfl, b⟩
    · have C7 := hide' (C6.out.trans (b.mono C6.out.size))
      clear b x0 x1 x2 x3 x4 x5 x6 C6
      go_wp2
      go_ret
      exact ⟨rfl, BB.out.trans (C7.out.mono BB.out.size)⟩
    · have C7 := hide' (C6.out.trans (b.mono C6.out.size))
      clear b x0 x1 x2 x3 x4 x5 x6 C6
      go_wp2
      go_ret
      exact ⟨rfl, BB.out.trans (C7.out.mono BB.out.size)⟩
end Go.Proofs.YtjjdjdodhedihaaDoor

namespace Go.Proofs.YtjjdjdodhedihaaDoor
open Go.RowKit
set_option linter.unusedVariables false

set_option maxRecDepth 100000 in
set_option maxHeartbeats 12800000 in
theorem law_garden_not (S R n : Nat) (T : List Int) (ta : Option Addr) (tn tc : Nat) (ah : List Int) (aa : Option Addr) (ac : Nat) (ws : List Int) (wa : Option Addr) (wc : Nat) (w : World) (hL : LineOk S R T) (hT : ArgP w T ta tn tc) (hA : ArgP w ah aa ah.length ac) (hW : ArgP w ws wa ws.length wc) (he : askE S R [] = 0) (hn : S ^ (2 * R) = n) (hz : TzTab w) (hO : ¬ OrphanIs (follN S n T) S (2 ^ n - 1) none) (hla : ah.length ≤ 1048576) (hlw : ws.length ≤ 1048576) :
    Calls Tryd.prog 3 #[.agg #[.int .i64 2, .int .i64 0, .int .i64 0, .int .i64 (S : Int), .int .i64 (R : Int), .slice ta tn tc, .string ⟨#[]⟩], .slice aa ah.length ac, .slice wa ws.length wc] w fun e w' => e = .returned (.bool true) ∧ Below w.heap.size w w' := by
  obtain ⟨w1, hw1⟩ : ∃ w1, w.alloc (.cells #[.int .i64 2, .int .i64 0, .int .i64 0, .int .i64 (S : Int), .int .i64 (R : Int), .slice ta tn tc, .string ⟨#[]⟩] 24) = w1 := ⟨_, rfl⟩
  have BB := hide' (show Below w.heap.size w w1 by rw [← hw1]; exact (Below.refl _ _).alloc (Nat.le_refl _) _)
  have RX := hide' (show RB w.heap.size S R (.slice ta tn tc) w1 by rw [← hw1]; exact RB.new w S R _ _)
  have AT := hide' (hT.below BB.out)
  have AA := hide' (hA.below BB.out)
  have AW := hide' (hW.below BB.out)
  have n16 : n ≤ 16 := by rw [← hn]; exact (askE_zero he).2
  have PL := hide' (fun (W : World) => refPlaces_any S R T ta tn tc W hL)
  have hp : plc S R = n := by rw [← hn]; exact plc_end (askE_zero he).2
  rw [hp] at PL
  have ON := hide' (fun (W : World) (h : ArgP W T ta tn tc) (h2 : TzTab W) => onto_not S R n T ta tn tc W hL h he hn h2 hO)
  have PR := hide' (fun (W : World) (h : ArgP W T ta tn tc) (hN : ¬ NoTwin S n T) => pre_not S R n T ta tn tc W hL h he hn hN)
  have NT := hide' (fun (us : List Int) (hc : cellsOk S us) (h0 : cntN S n T us = 0) => cnt_twin hL hn hc h0)
  have OE := hide' (fun (W : World) (h : ArgP W T ta tn tc) => one_some S R n T ta tn tc W hL h he hn)
  have PA := hide' (fun (us : List Int) (ua : Option Addr) (uc : Nat) (W : World) (h : ArgP W T ta tn tc) (h2 : ArgP W us ua us.length uc) (h0 : cntN S n T us = 0) => parents_is S R n 0 T ta tn tc us ua uc W hL h h2 hn (by omega) (fun _ => h0))
  have LO := hide' (fun (us : List Int) (hc : cellsOk S us) (h : askE S R us ≠ 0) => long_of_ask he hc h)
  clear hT hL he hO hA hW hn hp
  have TZ := hide' (hz.below BB.out)
  clear hz
  obtain ⟨w2, hw2⟩ : ∃ w2, w1.alloc (.cells #[.int .i64 0, .int .i64 1] 3) = w2 := ⟨_, rfl⟩
  have C0 := hide' (show Below w1.heap.size w1 w2 by rw [← hw2]; exact (Below.refl _ _).alloc (Nat.le_refl _) _)
  have FA0 := hide' (show ArgP w2 [0, 1] (some ⟨w1.heap.size, 0, none⟩) 2 2 by
    refine ⟨rfl, by unfold maxLen; omega, fun k hk => ⟨w1.heap.size, 0, rfl, by rw [← hw2]; simp, ?_⟩⟩
    rw [← hw2, World.cell?_alloc_at _ _ _ _ rfl]
    have : k = 0 ∨ k = 1 := by simp at hk; omega
    rcases this with rfl | rfl <;> rfl)
  have D0 := hide' ((Below.refl w2.heap.size w2).alloc (Nat.le_refl _) (.cells #[.int .i64 2, .int .i64 0, .int .i64 0, .int .i64 2, .int .i64 0, .slice (some ⟨w1.heap.size, 0, none⟩) 2 2, .string ⟨#[]⟩] 24))
  have C1 := hide' (C0.out.trans (D0.out.mono C0.out.size))
  have FO := hide' (fact_onto w1.heap.size _ (FA0.out.below D0.out) (TZ.out.below C1.out))
  obtain ⟨x0, x1, x2, x3, x4, x5, x6⟩ := RX.out.next C0.out
  go_enter Tryd.func3, Tryd.ntmps3
  go_wp2_with fail
  refine (show Calls Tryd.prog _ _ _ _ from FO.out).mono ?_
  rintro e w4 ⟨rfl, b⟩
  have C2 := hide' (C1.out.trans (b.mono C1.out.size))
  clear b x0 x1 x2 x3 x4 x5 x6 C0 C1 D0 FO FA0 hw1 hw2
  obtain ⟨x0, x1, x2, x3, x4, x5, x6⟩ := RX.out.next C2.out
  go_wp2_with fail
  refine (ON.out _ (AT.out.below C2.out) (TZ.out.below C2.out)).mono ?_
  rintro e w5 ⟨⟨wd, g, cc, rfl, wd0, wdm, cl, hco, hcn⟩, b⟩
  have AO := hide' (show ArgP w5 wd (some ⟨g, 0, none⟩) wd.length cc from ⟨rfl, by unfold maxLen; omega, fun k hk => ⟨g, 0, rfl, cl.lt, by have := cl.cells k hk; rw [Nat.zero_add]; rw [this]; simp [List.getD, hk]⟩⟩)
  have HCO := hide' hco
  have HCN := hide' hcn
  have HN := hide' (NT.out wd hco hcn)
  have WD := hide' (And.intro wd0 wdm)
  clear cl hco hcn wd0 wdm
  have C3 := hide' (C2.out.trans (b.mono C2.out.size))
  clear b x0 x1 x2 x3 x4 x5 x6 C2
  obtain ⟨x0, x1, x2, x3, x4, x5, x6⟩ := RX.out.next C3.out
  go_wp2_with fail
  refine (PR.out _ (AT.out.below C3.out) HN.out).mono ?_
  rintro e w6 ⟨⟨v1, v2, rfl⟩, b⟩
  have AO6 := hide' (AO.out.below b)
  have C4 := hide' (C3.out.trans (b.mono C3.out.size))
  clear b x0 x1 x2 x3 x4 x5 x6 C3
  obtain ⟨x0, x1, x2, x3, x4, x5, x6⟩ := RX.out.next C4.out
  go_wp2_with fail
  refine (OE.out _ (AT.out.below C4.out)).mono ?_
  rintro e w7 ⟨⟨c, v3, v4, rfl, hc⟩, b⟩
  have AO7 := hide' (AO6.out.below b)
  obtain rfl : c = false := by
    cases c with
    | false => rfl
    | true => exact absurd (hc rfl) HN.out
  clear hc AO6 AO
  have C5 := hide' (C4.out.trans (b.mono C4.out.size))
  clear b x0 x1 x2 x3 x4 x5 x6 C4
  obtain ⟨x0, x1, x2, x3, x4, x5, x6⟩ := RX.out.next C5.out
  go_wp2_with fail
  refine (PL.out _).mono ?_
  rintro e w8 ⟨rfl, b⟩
  have AO8 := hide' (AO7.out.below b)
  clear AO7
  have C6 := hide' (C5.out.trans (b.mono C5.out.size))
  clear b x0 x1 x2 x3 x4 x5 x6 C5
  obtain ⟨x0, x1, x2, x3, x4, x5, x6⟩ := RX.out.next C6.out
  go_upto_region 18 with (at_builtin; refine wpList_append_list w8 rfl _ _ rfl w8.heap.size (.slice none 0 0) [] rfl ⟨by simp, Or.inl ⟨rfl, by simp⟩⟩ ah aa ac rfl (AA.out.below C6.out) (by simp; omega) w8 (Below.refl _ _) (Nat.le_refl _) ?_; intro va w9 hown9 hB9; have B9 := hide' hB9; have OW9 := hide' hown9; clear hown9 hB9 x0 x1 x2 x3 x4 x5 x6; rw [List.nil_append] at OW9)
  go_upto_region 19 with (at_builtin; refine wpList_append_list w9 rfl _ _ rfl w8.heap.size va ah rfl OW9.out wd (some ⟨g, 0, none⟩) cc rfl (AO8.out.below B9.out) (by have := WD.out.2; omega) w8 B9.out B9.out.size ?_; intro vb w10 hown10 hB10; have B10 := hide' hB10; have OW10 := hide' hown10; clear hown10 hB10 OW9 B9)
  go_upto_region 20 with (at_builtin; refine wpList_append_list w10 rfl _ _ rfl w8.heap.size vb (ah ++ wd) rfl OW10.out ws wa wc rfl ((AW.out.below C6.out).below B10.out) (by have := WD.out.2; rw [List.length_append]; omega) w8 B10.out B10.out.size ?_; intro vc w11 hown11 hB11; have B11 := hide' hB11; obtain ⟨us, hus⟩ : ∃ us, (ah ++ wd) ++ ws = us := ⟨_, rfl⟩; have HCU := hide' (show cntN S n T us = 0 by rw [← hus]; exact garden_all HCN.out); rw [hus] at hown11; obtain ⟨g3, cap3, rfl, al⟩ := ownsRow_argP hown11 (by have := WD.out.1; rw [← hus, List.length_append, List.length_append]; omega) (by have := WD.out.2; unfold maxLen; rw [← hus, List.length_append, List.length_append]; omega); clear hus; have AL := hide' al; clear hown11 hB11 al OW10 B10)
  have C7 := hide' (C6.out.trans (B11.out.mono C6.out.size))
  have AO9 := hide' (AO8.out.below B11.out)
  obtain ⟨x0, x1, x2, x3, x4, x5, x6⟩ := RX.out.next C7.out
  go_wp2_with fail
  refine (PA.out wd (some ⟨g, 0, none⟩) cc _ (AT.out.below C7.out) AO9.out HCN.out).mono ?_
  unfold ParAns
  rintro e w12 ⟨⟨hq, k, rfl⟩ | rfl, b⟩
  · have d : (1000 : Int) < (wd.length : Int) := by have := LO.out wd HCO.out hq; omega
    clear hq
    have AL2 := hide' (AL.out.below b)
    have C8 := hide' (C7.out.trans (b.mono C7.out.size))
    clear b x0 x1 x2 x3 x4 x5 x6 C7 AL AO9
    obtain ⟨x0, x1, x2, x3, x4, x5, x6⟩ := RX.out.next C8.out
    go_wp2_with fail
    refine (PA.out us (some ⟨g3, 0, none⟩) cap3 _ (AT.out.below C8.out) AL2.out HCU.out).mono ?_
    unfold ParAns
    rintro e w13 ⟨⟨_, k2, rfl⟩ | rfl, b⟩
    · have C9 := hide' (C8.out.trans (b.mono C8.out.size))
      clear b x0 x1 x2 x3 x4 x5 x6 C8
      go_wp2
      go_ret
      exact ⟨rfl, BB.out.trans (C9.out.mono BB.out.size)⟩
    · have C9 := hide' (C8.out.trans (b.mono C8.out.size))
      clear b x0 x1 x2 x3 x4 x5 x6 C8
      go_wp2
      go_ret
      exact ⟨rfl, BB.out.trans (C9.out.mono BB.out.size)⟩
  · by_cases d : (1000 : Int) < (wd.length : Int)
    · skip
      have AL2 := hide' (AL.out.below b)
      have C8 := hide' (C7.out.trans (b.mono C7.out.size))
      clear b x0 x1 x2 x3 x4 x5 x6 C7 AL AO9
      obtain ⟨x0, x1, x2, x3, x4, x5, x6⟩ := RX.out.next C8.out
      go_wp2_with fail
      refine (PA.out us (some ⟨g3, 0, none⟩) cap3 _ (AT.out.below C8.out) AL2.out HCU.out).mono ?_
      unfold ParAns
      rintro e w13 ⟨⟨_, k2, rfl⟩ | rfl, b⟩
      · have C9 := hide' (C8.out.trans (b.mono C8.out.size))
        clear b x0 x1 x2 x3 x4 x5 x6 C8
        go_wp2
        go_ret
        exact ⟨rfl, BB.out.trans (C9.out.mono BB.out.size)⟩
      · have C9 := hide' (C8.out.trans (b.mono C8.out.size))
        clear b x0 x1 x2 x3 x4 x5 x6 C8
        go_wp2
        go_ret
        exact ⟨rfl, BB.out.trans (C9.out.mono BB.out.size)⟩
    · skip
      have AL2 := hide' (AL.out.below b)
      have C8 := hide' (C7.out.trans (b.mono C7.out.size))
      clear b x0 x1 x2 x3 x4 x5 x6 C7 AL AO9
      obtain ⟨x0, x1, x2, x3, x4, x5, x6⟩ := RX.out.next C8.out
      go_wp2_with fail
      refine (PA.out us (some ⟨g3, 0, none⟩) cap3 _ (AT.out.below C8.out) AL2.out HCU.out).mono ?_
      unfold ParAns
      rintro e w13 ⟨⟨_, k2, rfl⟩ | rfl, b⟩
      · have C9 := hide' (C8.out.trans (b.mono C8.out.size))
        clear b x0 x1 x2 x3 x4 x5 x6 C8
        go_wp2
        go_ret
        exact ⟨rfl, BB.out.trans (C9.out.mono BB.out.size)⟩
      · have C9 := hide' (C8.out.trans (b.mono C8.out.size))
        clear b x0 x1 x2 x3 x4 x5 x6 C8
        go_wp2
        go_ret
        exact ⟨rfl, BB.out.trans (C9.out.mono BB.out.size)⟩

theorem law_garden_all (o : Out) (ta : Option Addr) (tn tc : Nat) (ah : List Int) (aa : Option Addr) (ac : Nat) (ws : List Int) (wa : Option Addr) (wc : Nat) (w : World) (hR : ArgR w o ta tn tc) (hA : ArgP w ah aa ah.length ac) (hW : ArgP w ws wa ws.length wc) (hz : TzTab w) (hla : ah.length ≤ 1048576) (hlw : ws.length ≤ 1048576) :
    Calls Tryd.prog 3 #[.agg #[.int .i64 o.kind, .int .i64 o.born, .int .i64 o.stay, .int .i64 o.states, .int .i64 o.radius, .slice ta tn tc, .string o.turns], .slice aa ah.length ac, .slice wa ws.length wc] w fun e w' => e = .returned (.bool true) ∧ Below w.heap.size w w' := by
  by_cases h : Good o ∧ o.kind = 2
  · obtain ⟨S, R, e, hL⟩ := good_line o h.1 h.2
    have hT : ArgP w o.table ta tn tc := ⟨hR.len, hR.max, hR.cells⟩
    obtain ⟨T, hTe⟩ : ∃ T, o.table = T := ⟨_, rfl⟩
    rw [hTe] at e hL hT
    subst e
    by_cases he : askE S R [] = 0
    · obtain ⟨n, hn⟩ : ∃ n, S ^ (2 * R) = n := ⟨_, rfl⟩
      by_cases hO : OrphanIs (follN S n T) S (2 ^ n - 1) none
      · exact law_garden_yes S R n T ta tn tc ah aa ac ws wa wc w hL hT hA hW he hn hz hO
      · exact law_garden_not S R n T ta tn tc ah aa ac ws wa wc w hL hT hA hW he hn hz hO hla hlw
    · exact law_garden_bad S R T ta tn tc _ _ w hL hT he hz
  · exact law_garden_off o ta tn tc _ _ w hR h hz
end Go.Proofs.YtjjdjdodhedihaaDoor

