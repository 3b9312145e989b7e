/-
  What the last text of this claim leans on, part 39: Ll6.
-/
import Derived.Test.YtdhbdkkchobinaaJz38
namespace Go.Proofs.Ytdhbdkkchobinaa
open Go.RowKit
set_option linter.unusedVariables false

set_option maxRecDepth 100000 in
set_option maxHeartbeats 3200000 in
theorem widen_off (o : Out) (k : Int) (ta : Option Addr) (na ca : Nat) (w : World) (hR : ArgR w o ta na ca) (h : ¬ (Good o ∧ o.kind = 2)) :
    Calls Try.prog 13 #[.agg #[.int .i64 o.kind, .int .i64 o.born, .int .i64 o.stay, .int .i64 o.states, .int .i64 o.radius, .slice ta na ca, .string o.turns], .int .i64 k] w (RuleErr 1 w) := by
  obtain ⟨w1, hw1⟩ : ∃ w1, (w.alloc (.cells #[.int .i64 o.kind, .int .i64 o.born, .int .i64 o.stay, .int .i64 o.states, .int .i64 o.radius, .slice ta na ca, .string o.turns] 28)).alloc (.cells #[.int .i64 0, .int .i64 0, .int .i64 0, .int .i64 0, .int .i64 0, .slice none 0 0, .string ⟨#[]⟩] 28) = w1 := ⟨_, rfl⟩
  have BB := hide' (show Below w.heap.size w w1 by rw [← hw1]; exact ((Below.refl _ _).alloc (Nat.le_refl _) _).alloc (by simp) _)
  have z1 : w1.heap.size = w.heap.size + 2 := by rw [← hw1]; simp
  have ZZ := hide' (show ZB (w.heap.size + 1) w1 by
    have h := ZB.new (w.alloc (.cells #[.int .i64 o.kind, .int .i64 o.born, .int .i64 o.stay, .int .i64 o.states, .int .i64 o.radius, .slice ta na ca, .string o.turns] 28)) 28
    rw [World.size_alloc, hw1] at h
    exact h)
  have XA := hide' (show RBo w.heap.size o (.slice ta na ca) w1 by
    have h := RBo.new w o (.slice ta na ca) 28
    rw [← hw1]
    exact h.block (Below.heap_alloc _ _ _ (by simp)))
  have AT := hide' (hR.below BB.out)
  have HH := hide' h
  clear hR h
  obtain ⟨x0, x1, x2, x3, x4, x5, x6⟩ := XA.out
  go_enter Try.func13, Try.ntmps13
  go_wp2_with fail
  refine (checkRule_off o ta na ca _ AT.out HH.out).mono ?_
  rintro e w2 ⟨rfl, b2⟩
  have s2 := b2.size
  have B2 := hide' (BB.out.trans (b2.mono BB.out.size))
  have Z2 := hide' (ZZ.out.next b2)
  have XA2 := hide' (XA.out.next b2)
  have AT2 := hide' (AT.out.below b2)
  clear x0 x1 x2 x3 x4 x5 x6 b2 hw1
  obtain ⟨x0, x1, x2, x3, x4, x5, x6⟩ := XA2.out
  obtain ⟨r0, r1, r2, r3, r4, r5, r6, rf⟩ := Z2.out
  have f0 := rf 0
  have f1 := rf 1
  have f2 := rf 2
  have f3 := rf 3
  have f4 := rf 4
  have f5 := rf 5
  have f6 := rf 6
  clear rf
  go_wp2
  refine bodyPost_ret (v := .tuple #[.agg #[.int .i64 0, .int .i64 0, .int .i64 0, .int .i64 0, .int .i64 0, .slice none 0 0, .string ⟨#[]⟩], .iface 23 (.int .i64 1)]) (by simp [results, Try.results13, go_sem, r0, r1, r2, r3, r4, r5, r6]) rfl ?_
  exact ⟨rfl, seven_below B2.out (by omega) _ _ _ _ _ _ _⟩

set_option maxRecDepth 100000 in
set_option maxHeartbeats 3200000 in
theorem widen_low (S R : Nat) (T : List Int) (k : Int) (ta : Option Addr) (na ca : Nat) (w : World) (hL : LineOk S R T) (hT : ArgP w T ta na ca) (hk : k < (R : Int)) :
    Calls Try.prog 13 #[.agg #[.int .i64 2, .int .i64 0, .int .i64 0, .int .i64 (S : Int), .int .i64 (R : Int), .slice ta na ca, .string ⟨#[]⟩], .int .i64 k] w (RuleErr 1 w) := by
  obtain ⟨w1, hw1⟩ : ∃ w1, (w.alloc (.cells #[.int .i64 2, .int .i64 0, .int .i64 0, .int .i64 (S : Int), .int .i64 (R : Int), .slice ta na ca, .string ⟨#[]⟩] 28)).alloc (.cells #[.int .i64 0, .int .i64 0, .int .i64 0, .int .i64 0, .int .i64 0, .slice none 0 0, .string ⟨#[]⟩] 28) = w1 := ⟨_, rfl⟩
  have BB := hide' (show Below w.heap.size w w1 by rw [← hw1]; exact ((Below.refl _ _).alloc (Nat.le_refl _) _).alloc (by simp) _)
  have z1 : w1.heap.size = w.heap.size + 2 := by rw [← hw1]; simp
  have ZZ := hide' (show ZB (w.heap.size + 1) w1 by
    have h := ZB.new (w.alloc (.cells #[.int .i64 2, .int .i64 0, .int .i64 0, .int .i64 (S : Int), .int .i64 (R : Int), .slice ta na ca, .string ⟨#[]⟩] 28)) 28
    rw [World.size_alloc, hw1] at h
    exact h)
  have XA := hide' (show RB w.heap.size S R (.slice ta na ca) w1 by
    have h := RB.new w S R (.slice ta na ca) 28
    rw [← hw1]
    exact h.block (Below.heap_alloc _ _ _ (by simp)))
  have hmf : ∀ (fn : Fn) (first cap : Array Value) (w : World), (Instr.makeFunc fn first cap).run Try.prog w = .ok (.func fn first cap) w := fun _ _ _ _ => rfl
  have AT := hide' (hT.below BB.out)
  have HL := hide' hL
  have r10 := hL.r10
  have s2' := hL.s2
  have s4 := hL.s4
  have i1 : k < (R : Int) := hk
  clear hT hL hk
  obtain ⟨x0, x1, x2, x3, x4, x5, x6⟩ := XA.out
  go_enter Try.func13, Try.ntmps13
  go_wp2_with fail
  refine (checkRule_line S R T ta na ca _ HL.out AT.out).mono ?_
  rintro e w2 ⟨rfl, b2⟩
  have s2 := b2.size
  have B2 := hide' (BB.out.trans (b2.mono BB.out.size))
  have Z2 := hide' (ZZ.out.next b2)
  have XA2 := hide' (XA.out.next b2)
  have AT2 := hide' (AT.out.below b2)
  clear x0 x1 x2 x3 x4 x5 x6 b2 hw1
  obtain ⟨x0, x1, x2, x3, x4, x5, x6⟩ := XA2.out
  obtain ⟨r0, r1, r2, r3, r4, r5, r6, rf⟩ := Z2.out
  have f0 := rf 0
  have f1 := rf 1
  have f2 := rf 2
  have f3 := rf 3
  have f4 := rf 4
  have f5 := rf 5
  have f6 := rf 6
  clear rf
  go_wp2
  refine bodyPost_ret (v := .tuple #[.agg #[.int .i64 0, .int .i64 0, .int .i64 0, .int .i64 0, .int .i64 0, .slice none 0 0, .string ⟨#[]⟩], .iface 23 (.int .i64 1)]) (by simp [results, Try.results13, go_sem, r0, r1, r2, r3, r4, r5, r6]) rfl ?_
  exact ⟨rfl, seven_below B2.out (by omega) _ _ _ _ _ _ _⟩

set_option maxRecDepth 100000 in
set_option maxHeartbeats 3200000 in
theorem widen_full (S R : Nat) (T : List Int) (K : Nat) (ta : Option Addr) (na ca : Nat) (w : World) (hL : LineOk S R T) (hT : ArgP w T ta na ca) (hk : R ≤ K) (hK : K ≤ 9223372036854775807) (hsz : 4096 < S ^ (2 * K + 1)) :
    Calls Try.prog 13 #[.agg #[.int .i64 2, .int .i64 0, .int .i64 0, .int .i64 (S : Int), .int .i64 (R : Int), .slice ta na ca, .string ⟨#[]⟩], .int .i64 (K : Int)] w (RuleErr 4 w) := by
  obtain ⟨w1, hw1⟩ : ∃ w1, (w.alloc (.cells #[.int .i64 2, .int .i64 0, .int .i64 0, .int .i64 (S : Int), .int .i64 (R : Int), .slice ta na ca, .string ⟨#[]⟩] 28)).alloc (.cells #[.int .i64 0, .int .i64 0, .int .i64 0, .int .i64 0, .int .i64 0, .slice none 0 0, .string ⟨#[]⟩] 28) = w1 := ⟨_, rfl⟩
  have BB := hide' (show Below w.heap.size w w1 by rw [← hw1]; exact ((Below.refl _ _).alloc (Nat.le_refl _) _).alloc (by simp) _)
  have z1 : w1.heap.size = w.heap.size + 2 := by rw [← hw1]; simp
  have ZZ := hide' (show ZB (w.heap.size + 1) w1 by
    have h := ZB.new (w.alloc (.cells #[.int .i64 2, .int .i64 0, .int .i64 0, .int .i64 (S : Int), .int .i64 (R : Int), .slice ta na ca, .string ⟨#[]⟩] 28)) 28
    rw [World.size_alloc, hw1] at h
    exact h)
  have XA := hide' (show RB w.heap.size S R (.slice ta na ca) w1 by
    have h := RB.new w S R (.slice ta na ca) 28
    rw [← hw1]
    exact h.block (Below.heap_alloc _ _ _ (by simp)))
  have hmf : ∀ (fn : Fn) (first cap : Array Value) (w : World), (Instr.makeFunc fn first cap).run Try.prog w = .ok (.func fn first cap) w := fun _ _ _ _ => rfl
  have AT := hide' (hT.below BB.out)
  have HL := hide' hL
  have r10 := hL.r10
  have s2' := hL.s2
  have s4 := hL.s4
  have i1 : ¬ (K : Int) < (R : Int) := by omega
  obtain ⟨M, hM⟩ : ∃ M, K - R = M := ⟨_, rfl⟩
  have q1 : (K : Int) - (R : Int) = (M : Int) := by omega
  have HZ := hide' hsz
  have m1 : M ≤ 9223372036854775807 := by omega
  clear hT hL hsz hM
  obtain ⟨x0, x1, x2, x3, x4, x5, x6⟩ := XA.out
  go_enter Try.func13, Try.ntmps13
  go_wp2_with fail
  refine (checkRule_line S R T ta na ca _ HL.out AT.out).mono ?_
  rintro e w2 ⟨rfl, b2⟩
  have s2 := b2.size
  have B2 := hide' (BB.out.trans (b2.mono BB.out.size))
  have Z2 := hide' (ZZ.out.next b2)
  have XA2 := hide' (XA.out.next b2)
  have AT2 := hide' (AT.out.below b2)
  clear x0 x1 x2 x3 x4 x5 x6 b2 hw1
  obtain ⟨x0, x1, x2, x3, x4, x5, x6⟩ := XA2.out
  obtain ⟨w3, hw3⟩ : ∃ w3, w2.alloc (.cells #[.int .i64 (M : Int)] 3) = w3 := ⟨_, rfl⟩
  have b3 := hide' (show Below w2.heap.size w2 w3 by rw [← hw3]; exact (Below.refl _ _).alloc (Nat.le_refl _) _)
  have s3 := b3.out.size
  have c3 := hide' (show w3.cell? ⟨w2.heap.size, 0, none⟩ = some (.int .i64 (M : Int)) by rw [← hw3, World.cell?_alloc_at _ _ _ _ rfl]; rfl)
  have B3 := hide' (B2.out.trans (b3.out.mono B2.out.size))
  have Z3 := hide' (Z2.out.next b3.out)
  have XA3 := hide' (XA2.out.next b3.out)
  have AT3 := hide' (AT2.out.below b3.out)
  clear x0 x1 x2 x3 x4 x5 x6
  obtain ⟨x0, x1, x2, x3, x4, x5, x6⟩ := XA2.out
  obtain ⟨y0, y1, y2, y3, y4, y5, y6⟩ := XA3.out
  go_wp2_with fail
  refine (made_full S K _ _ (by omega) s4 hK HZ.out).mono ?_
  rintro e w4 ⟨rfl, b4⟩
  have s5 := b4.size
  have B4 := hide' (B3.out.trans (b4.mono B3.out.size))
  have Z4 := hide' (Z3.out.next b4)
  clear x0 x1 x2 x3 x4 x5 x6 y0 y1 y2 y3 y4 y5 y6 b4 hw3
  obtain ⟨r0, r1, r2, r3, r4, r5, r6, rf⟩ := Z4.out
  have f0 := rf 0
  have f1 := rf 1
  have f2 := rf 2
  have f3 := rf 3
  have f4 := rf 4
  have f5 := rf 5
  have f6 := rf 6
  clear rf
  go_wp2
  refine bodyPost_ret (v := .tuple #[.agg #[.int .i64 0, .int .i64 0, .int .i64 0, .int .i64 0, .int .i64 0, .slice none 0 0, .string ⟨#[]⟩], .iface 23 (.int .i64 4)]) (by simp [results, Try.results13, go_sem, r0, r1, r2, r3, r4, r5, r6]) rfl ?_
  exact ⟨rfl, seven_below B4.out (by omega) _ _ _ _ _ _ _⟩

set_option maxRecDepth 100000 in
set_option maxHeartbeats 3200000 in
theorem widen_ok (S R : Nat) (T : List Int) (K : Nat) (ta : Option Addr) (na ca : Nat) (w : World) (hL : LineOk S R T) (hT : ArgP w T ta na ca) (hk : R ≤ K) (hsz : S ^ (2 * K + 1) ≤ 4096) :
    Calls Try.prog 13 #[.agg #[.int .i64 2, .int .i64 0, .int .i64 0, .int .i64 (S : Int), .int .i64 (R : Int), .slice ta na ca, .string ⟨#[]⟩], .int .i64 (K : Int)] w (RulePost S K (madeL S K fun ds => (applyL S R T ((ds.drop (K - R)).take (2 * R + 1))).getD 0 0) w) := by
  obtain ⟨w1, hw1⟩ : ∃ w1, (w.alloc (.cells #[.int .i64 2, .int .i64 0, .int .i64 0, .int .i64 (S : Int), .int .i64 (R : Int), .slice ta na ca, .string ⟨#[]⟩] 28)).alloc (.cells #[.int .i64 0, .int .i64 0, .int .i64 0, .int .i64 0, .int .i64 0, .slice none 0 0, .string ⟨#[]⟩] 28) = w1 := ⟨_, rfl⟩
  have BB := hide' (show Below w.heap.size w w1 by rw [← hw1]; exact ((Below.refl _ _).alloc (Nat.le_refl _) _).alloc (by simp) _)
  have z1 : w1.heap.size = w.heap.size + 2 := by rw [← hw1]; simp
  have ZZ := hide' (show ZB (w.heap.size + 1) w1 by
    have h := ZB.new (w.alloc (.cells #[.int .i64 2, .int .i64 0, .int .i64 0, .int .i64 (S : Int), .int .i64 (R : Int), .slice ta na ca, .string ⟨#[]⟩] 28)) 28
    rw [World.size_alloc, hw1] at h
    exact h)
  have XA := hide' (show RB w.heap.size S R (.slice ta na ca) w1 by
    have h := RB.new w S R (.slice ta na ca) 28
    rw [← hw1]
    exact h.block (Below.heap_alloc _ _ _ (by simp)))
  have hmf : ∀ (fn : Fn) (first cap : Array Value) (w : World), (Instr.makeFunc fn first cap).run Try.prog w = .ok (.func fn first cap) w := fun _ _ _ _ => rfl
  have AT := hide' (hT.below BB.out)
  have HL := hide' hL
  have r10 := hL.r10
  have s2' := hL.s2
  have s4 := hL.s4
  have i1 : ¬ (K : Int) < (R : Int) := by omega
  obtain ⟨M, hM⟩ : ∃ M, K - R = M := ⟨_, rfl⟩
  have q1 : (K : Int) - (R : Int) = (M : Int) := by omega
  have HZ := hide' hsz
  have k10 : K ≤ 10 := pow_small s2' hsz
  have HMe := hide' (show K = R + M by omega)
  have m1 : M ≤ 10 := by omega
  obtain ⟨FF, hFF⟩ : ∃ FF : List Int → Int, (fun ds : List Int => (applyL S R T ((ds.drop M).take (2 * R + 1))).getD 0 0) = FF := ⟨_, rfl⟩
  have FH := hide' hFF
  rw [hM, hFF]
  clear hFF
  clear hT hL hsz hM
  obtain ⟨x0, x1, x2, x3, x4, x5, x6⟩ := XA.out
  go_enter Try.func13, Try.ntmps13
  go_wp2_with fail
  refine (checkRule_line S R T ta na ca _ HL.out AT.out).mono ?_
  rintro e w2 ⟨rfl, b2⟩
  have s2 := b2.size
  have B2 := hide' (BB.out.trans (b2.mono BB.out.size))
  have Z2 := hide' (ZZ.out.next b2)
  have XA2 := hide' (XA.out.next b2)
  have AT2 := hide' (AT.out.below b2)
  clear x0 x1 x2 x3 x4 x5 x6 b2 hw1
  obtain ⟨x0, x1, x2, x3, x4, x5, x6⟩ := XA2.out
  obtain ⟨w3, hw3⟩ : ∃ w3, w2.alloc (.cells #[.int .i64 (M : Int)] 3) = w3 := ⟨_, rfl⟩
  have b3 := hide' (show Below w2.heap.size w2 w3 by rw [← hw3]; exact (Below.refl _ _).alloc (Nat.le_refl _) _)
  have s3 := b3.out.size
  have c3 := hide' (show w3.cell? ⟨w2.heap.size, 0, none⟩ = some (.int .i64 (M : Int)) by rw [← hw3, World.cell?_alloc_at _ _ _ _ rfl]; rfl)
  have B3 := hide' (B2.out.trans (b3.out.mono B2.out.size))
  have Z3 := hide' (Z2.out.next b3.out)
  have XA3 := hide' (XA2.out.next b3.out)
  have AT3 := hide' (AT2.out.below b3.out)
  clear x0 x1 x2 x3 x4 x5 x6
  obtain ⟨x0, x1, x2, x3, x4, x5, x6⟩ := XA2.out
  obtain ⟨y0, y1, y2, y3, y4, y5, y6⟩ := XA3.out
  have BE := hide' (show Becomes w3 23 w.heap.size w2.heap.size S (2 * K + 1) FF by
    rw [← FH.out]
    exact fun ds wr g hb hc hl hok hg => widen_clo S R M T ta na ca w.heap.size w2.heap.size g (2 * K + 1) ds wr HL.out (XA3.out.next hb) ((World.cell?_of_block (w := w3) (a := ⟨w2.heap.size, 0, none⟩) (hb.block _ (by have := c3.out; rcases Nat.lt_or_ge w2.heap.size w3.heap.size with q | q; exact q; simp [World.cell?, Array.getElem?_eq_none q] at this))).trans c3.out) (AT3.out.below hb) hc hl (by rw [HMe.out]) m1 hok)
  go_wp2_with fail
  refine (made_w S K w.heap.size w2.heap.size FF _ (by omega) s4 k10 HZ.out BE.out).mono ?_
  rintro e w4 ⟨g, N, rfl, hN, hg, ce, b4⟩
  have s5 := b4.size
  have B4 := hide' (B3.out.trans (b4.mono B3.out.size))
  have Z4 := hide' (Z3.out.next b4)
  have CE := hide' ce
  have HN := hide' hN
  clear x0 x1 x2 x3 x4 x5 x6 y0 y1 y2 y3 y4 y5 y6 b4 ce hN hw3
  obtain ⟨r0, r1, r2, r3, r4, r5, r6, rf⟩ := Z4.out
  have f0 := rf 0
  have f1 := rf 1
  have f2 := rf 2
  have f3 := rf 3
  have f4 := rf 4
  have f5 := rf 5
  have f6 := rf 6
  clear rf
  go_wp2
  refine bodyPost_ret (v := .tuple #[.agg #[.int .i64 2, .int .i64 0, .int .i64 0, .int .i64 (S : Int), .int .i64 (K : Int), .slice (some ⟨g, 0, none⟩) N N, .string ⟨#[]⟩], .nilIface]) (by simp [results, Try.results13, go_sem, r0, r1, r2, r3, r4, r5, r6]) rfl ?_
  exact ⟨g, N, rfl, by rw [HN.out, madeL_length], by omega, seven_cel CE.out (by omega) _ _ _ _ _ _ _, seven_below B4.out (by omega) _ _ _ _ _ _ _⟩
end Go.Proofs.Ytdhbdkkchobinaa

