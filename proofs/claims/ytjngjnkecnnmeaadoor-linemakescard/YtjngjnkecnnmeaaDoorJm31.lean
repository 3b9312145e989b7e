/-
  What the last text of this claim leans on, part 31: Ll6, Lk1.
-/
import Derived.Test.YtjngjnkecnnmeaaDoorJm30
import Derived.Test.YtjngjnkecnnmeaaDoorJm9
namespace Go.Proofs.YtjngjnkecnnmeaaDoor
open Go.RowKit
set_option linter.unusedVariables false

set_option maxRecDepth 100000 in
set_option maxHeartbeats 3200000 in
theorem widen_off (o : Out) (k : Int) (ta : Option Addr) (na ca : Nat) (w : World) (hR : ArgR w o ta na ca) (h : ¬ (Good o ∧ o.kind = 2)) :
    Calls Tryd.prog 54 #[.agg #[.int .i64 o.kind, .int .i64 o.born, .int .i64 o.stay, .int .i64 o.states, .int .i64 o.radius, .slice ta na ca, .string o.turns], .int .i64 k] w (RuleErr 1 w) := by
  obtain ⟨w1, hw1⟩ : ∃ w1, (w.alloc (.cells #[.int .i64 o.kind, .int .i64 o.born, .int .i64 o.stay, .int .i64 o.states, .int .i64 o.radius, .slice ta na ca, .string o.turns] 24)).alloc (.cells #[.int .i64 0, .int .i64 0, .int .i64 0, .int .i64 0, .int .i64 0, .slice none 0 0, .string ⟨#[]⟩] 24) = w1 := ⟨_, rfl⟩
  have BB := hide' (show Below w.heap.size w w1 by rw [← hw1]; exact ((Below.refl _ _).alloc (Nat.le_refl _) _).alloc (by simp) _)
  have z1 : w1.heap.size = w.heap.size + 2 := by rw [← hw1]; simp
  have ZZ := hide' (show ZB (w.heap.size + 1) w1 by
    have h := ZB.new (w.alloc (.cells #[.int .i64 o.kind, .int .i64 o.born, .int .i64 o.stay, .int .i64 o.states, .int .i64 o.radius, .slice ta na ca, .string o.turns] 24)) 24
    rw [World.size_alloc, hw1] at h
    exact h)
  have XA := hide' (show RBo w.heap.size o (.slice ta na ca) w1 by
    have h := RBo.new w o (.slice ta na ca) 24
    rw [← hw1]
    exact h.block (Below.heap_alloc _ _ _ (by simp)))
  have AT := hide' (hR.below BB.out)
  have HH := hide' h
  clear hR h
  obtain ⟨x0, x1, x2, x3, x4, x5, x6⟩ := XA.out
  go_enter Tryd.func54, Tryd.ntmps54
  go_wp2_with fail
  refine (checkRule_off o ta na ca _ AT.out HH.out).mono ?_
  rintro e w2 ⟨rfl, b2⟩
  have s2 := b2.size
  have B2 := hide' (BB.out.trans (b2.mono BB.out.size))
  have Z2 := hide' (ZZ.out.next b2)
  have XA2 := hide' (XA.out.next b2)
  have AT2 := hide' (AT.out.below b2)
  clear x0 x1 x2 x3 x4 x5 x6 b2 hw1
  obtain ⟨x0, x1, x2, x3, x4, x5, x6⟩ := XA2.out
  obtain ⟨r0, r1, r2, r3, r4, r5, r6, rf⟩ := Z2.out
  have f0 := rf 0
  have f1 := rf 1
  have f2 := rf 2
  have f3 := rf 3
  have f4 := rf 4
  have f5 := rf 5
  have f6 := rf 6
  clear rf
  go_wp2
  refine bodyPost_ret (v := .tuple #[.agg #[.int .i64 0, .int .i64 0, .int .i64 0, .int .i64 0, .int .i64 0, .slice none 0 0, .string ⟨#[]⟩], .iface 87 (.int .i64 1)]) (by simp [results, Tryd.results54, go_sem, r0, r1, r2, r3, r4, r5, r6]) rfl ?_
  exact ⟨rfl, seven_below B2.out (by omega) _ _ _ _ _ _ _⟩

set_option maxRecDepth 100000 in
set_option maxHeartbeats 3200000 in
theorem widen_low (S R : Nat) (T : List Int) (k : Int) (ta : Option Addr) (na ca : Nat) (w : World) (hL : LineOk S R T) (hT : ArgP w T ta na ca) (hk : k < (R : Int)) :
    Calls Tryd.prog 54 #[.agg #[.int .i64 2, .int .i64 0, .int .i64 0, .int .i64 (S : Int), .int .i64 (R : Int), .slice ta na ca, .string ⟨#[]⟩], .int .i64 k] w (RuleErr 1 w) := by
  obtain ⟨w1, hw1⟩ : ∃ w1, (w.alloc (.cells #[.int .i64 2, .int .i64 0, .int .i64 0, .int .i64 (S : Int), .int .i64 (R : Int), .slice ta na ca, .string ⟨#[]⟩] 24)).alloc (.cells #[.int .i64 0, .int .i64 0, .int .i64 0, .int .i64 0, .int .i64 0, .slice none 0 0, .string ⟨#[]⟩] 24) = w1 := ⟨_, rfl⟩
  have BB := hide' (show Below w.heap.size w w1 by rw [← hw1]; exact ((Below.refl _ _).alloc (Nat.le_refl _) _).alloc (by simp) _)
  have z1 : w1.heap.size = w.heap.size + 2 := by rw [← hw1]; simp
  have ZZ := hide' (show ZB (w.heap.size + 1) w1 by
    have h := ZB.new (w.alloc (.cells #[.int .i64 2, .int .i64 0, .int .i64 0, .int .i64 (S : Int), .int .i64 (R : Int), .slice ta na ca, .string ⟨#[]⟩] 24)) 24
    rw [World.size_alloc, hw1] at h
    exact h)
  have XA := hide' (show RB w.heap.size S R (.slice ta na ca) w1 by
    have h := RB.new w S R (.slice ta na ca) 24
    rw [← hw1]
    exact h.block (Below.heap_alloc _ _ _ (by simp)))
  have hmf : ∀ (fn : Fn) (first cap : Array Value) (w : World), (Instr.makeFunc fn first cap).run Tryd.prog w = .ok (.func fn first cap) w := fun _ _ _ _ => rfl
  have AT := hide' (hT.below BB.out)
  have HL := hide' hL
  have r10 := hL.r10
  have s2' := hL.s2
  have s4 := hL.s4
  have i1 : k < (R : Int) := hk
  clear hT hL hk
  obtain ⟨x0, x1, x2, x3, x4, x5, x6⟩ := XA.out
  go_enter Tryd.func54, Tryd.ntmps54
  go_wp2_with fail
  refine (checkRule_line S R T ta na ca _ HL.out AT.out).mono ?_
  rintro e w2 ⟨rfl, b2⟩
  have s2 := b2.size
  have B2 := hide' (BB.out.trans (b2.mono BB.out.size))
  have Z2 := hide' (ZZ.out.next b2)
  have XA2 := hide' (XA.out.next b2)
  have AT2 := hide' (AT.out.below b2)
  clear x0 x1 x2 x3 x4 x5 x6 b2 hw1
  obtain ⟨x0, x1, x2, x3, x4, x5, x6⟩ := XA2.out
  obtain ⟨r0, r1, r2, r3, r4, r5, r6, rf⟩ := Z2.out
  have f0 := rf 0
  have f1 := rf 1
  have f2 := rf 2
  have f3 := rf 3
  have f4 := rf 4
  have f5 := rf 5
  have f6 := rf 6
  clear rf
  go_wp2
  refine bodyPost_ret (v := .tuple #[.agg #[.int .i64 0, .int .i64 0, .int .i64 0, .int .i64 0, .int .i64 0, .slice none 0 0, .string ⟨#[]⟩], .iface 87 (.int .i64 1)]) (by simp [results, Tryd.results54, go_sem, r0, r1, r2, r3, r4, r5, r6]) rfl ?_
  exact ⟨rfl, seven_below B2.out (by omega) _ _ _ _ _ _ _⟩

set_option maxRecDepth 100000 in
set_option maxHeartbeats 3200000 in
theorem widen_full (S R : Nat) (T : List Int) (K : Nat) (ta : Option Addr) (na ca : Nat) (w : World) (hL : LineOk S R T) (hT : ArgP w T ta na ca) (hk : R ≤ K) (hK : K ≤ 9223372036854775807) (hsz : 4096 < S ^ (2 * K + 1)) :
    Calls Tryd.prog 54 #[.agg #[.int .i64 2, .int .i64 0, .int .i64 0, .int .i64 (S : Int), .int .i64 (R : Int), .slice ta na ca, .string ⟨#[]⟩], .int .i64 (K : Int)] w (RuleErr 4 w) := by
  obtain ⟨w1, hw1⟩ : ∃ w1, (w.alloc (.cells #[.int .i64 2, .int .i64 0, .int .i64 0, .int .i64 (S : Int), .int .i64 (R : Int), .slice ta na ca, .string ⟨#[]⟩] 24)).alloc (.cells #[.int .i64 0, .int .i64 0, .int .i64 0, .int .i64 0, .int .i64 0, .slice none 0 0, .string ⟨#[]⟩] 24) = w1 := ⟨_, rfl⟩
  have BB := hide' (show Below w.heap.size w w1 by rw [← hw1]; exact ((Below.refl _ _).alloc (Nat.le_refl _) _).alloc (by simp) _)
  have z1 : w1.heap.size = w.heap.size + 2 := by rw [← hw1]; simp
  have ZZ := hide' (show ZB (w.heap.size + 1) w1 by
    have h := ZB.new (w.alloc (.cells #[.int .i64 2, .int .i64 0, .int .i64 0, .int .i64 (S : Int), .int .i64 (R : Int), .slice ta na ca, .string ⟨#[]⟩] 24)) 24
    rw [World.size_alloc, hw1] at h
    exact h)
  have XA := hide' (show RB w.heap.size S R (.slice ta na ca) w1 by
    have h := RB.new w S R (.slice ta na ca) 24
    rw [← hw1]
    exact h.block (Below.heap_alloc _ _ _ (by simp)))
  have hmf : ∀ (fn : Fn) (first cap : Array Value) (w : World), (Instr.makeFunc fn first cap).run Tryd.prog w = .ok (.func fn first cap) w := fun _ _ _ _ => rfl
  have AT := hide' (hT.below BB.out)
  have HL := hide' hL
  have r10 := hL.r10
  have s2' := hL.s2
  have s4 := hL.s4
  have i1 : ¬ (K : Int) < (R : Int) := by omega
  obtain ⟨M, hM⟩ : ∃ M, K - R = M := ⟨_, rfl⟩
  have q1 : (K : Int) - (R : Int) = (M : Int) := by omega
  have HZ := hide' hsz
  have m1 : M ≤ 9223372036854775807 := by omega
  clear hT hL hsz hM
  obtain ⟨x0, x1, x2, x3, x4, x5, x6⟩ := XA.out
  go_enter Tryd.func54, Tryd.ntmps54
  go_wp2_with fail
  refine (checkRule_line S R T ta na ca _ HL.out AT.out).mono ?_
  rintro e w2 ⟨rfl, b2⟩
  have s2 := b2.size
  have B2 := hide' (BB.out.trans (b2.mono BB.out.size))
  have Z2 := hide' (ZZ.out.next b2)
  have XA2 := hide' (XA.out.next b2)
  have AT2 := hide' (AT.out.below b2)
  clear x0 x1 x2 x3 x4 x5 x6 b2 hw1
  obtain ⟨x0, x1, x2, x3, x4, x5, x6⟩ := XA2.out
  obtain ⟨w3, hw3⟩ : ∃ w3, w2.alloc (.cells #[.int .i64 (M : Int)] 3) = w3 := ⟨_, rfl⟩
  have b3 := hide' (show Below w2.heap.size w2 w3 by rw [← hw3]; exact (Below.refl _ _).alloc (Nat.le_refl _) _)
  have s3 := b3.out.size
  have c3 := hide' (show w3.cell? ⟨w2.heap.size, 0, none⟩ = some (.int .i64 (M : Int)) by rw [← hw3, World.cell?_alloc_at _ _ _ _ rfl]; rfl)
  have B3 := hide' (B2.out.trans (b3.out.mono B2.out.size))
  have Z3 := hide' (Z2.out.next b3.out)
  have XA3 := hide' (XA2.out.next b3.out)
  have AT3 := hide' (AT2.out.below b3.out)
  clear x0 x1 x2 x3 x4 x5 x6
  obtain ⟨x0, x1, x2, x3, x4, x5, x6⟩ := XA2.out
  obtain ⟨y0, y1, y2, y3, y4, y5, y6⟩ := XA3.out
  go_wp2_with fail
  refine (made_full S K _ _ (by omega) s4 hK HZ.out).mono ?_
  rintro e w4 ⟨rfl, b4⟩
  have s5 := b4.size
  have B4 := hide' (B3.out.trans (b4.mono B3.out.size))
  have Z4 := hide' (Z3.out.next b4)
  clear x0 x1 x2 x3 x4 x5 x6 y0 y1 y2 y3 y4 y5 y6 b4 hw3
  obtain ⟨r0, r1, r2, r3, r4, r5, r6, rf⟩ := Z4.out
  have f0 := rf 0
  have f1 := rf 1
  have f2 := rf 2
  have f3 := rf 3
  have f4 := rf 4
  have f5 := rf 5
  have f6 := rf 6
  clear rf
  go_wp2
  refine bodyPost_ret (v := .tuple #[.agg #[.int .i64 0, .int .i64 0, .int .i64 0, .int .i64 0, .int .i64 0, .slice none 0 0, .string ⟨#[]⟩], .iface 87 (.int .i64 4)]) (by simp [results, Tryd.results54, go_sem, r0, r1, r2, r3, r4, r5, r6]) rfl ?_
  exact ⟨rfl, seven_below B4.out (by omega) _ _ _ _ _ _ _⟩

set_option maxRecDepth 100000 in
set_option maxHeartbeats 3200000 in
theorem widen_ok (S R : Nat) (T : List Int) (K : Nat) (ta : Option Addr) (na ca : Nat) (w : World) (hL : LineOk S R T) (hT : ArgP w T ta na ca) (hk : R ≤ K) (hsz : S ^ (2 * K + 1) ≤ 4096) :
    Calls Tryd.prog 54 #[.agg #[.int .i64 2, .int .i64 0, .int .i64 0, .int .i64 (S : Int), .int .i64 (R : Int), .slice ta na ca, .string ⟨#[]⟩], .int .i64 (K : Int)] w (RulePost S K (madeL S K fun ds => (applyL S R T ((ds.drop (K - R)).take (2 * R + 1))).getD 0 0) w) := by
  obtain ⟨w1, hw1⟩ : ∃ w1, (w.alloc (.cells #[.int .i64 2, .int .i64 0, .int .i64 0, .int .i64 (S : Int), .int .i64 (R : Int), .slice ta na ca, .string ⟨#[]⟩] 24)).alloc (.cells #[.int .i64 0, .int .i64 0, .int .i64 0, .int .i64 0, .int .i64 0, .slice none 0 0, .string ⟨#[]⟩] 24) = w1 := ⟨_, rfl⟩
  have BB := hide' (show Below w.heap.size w w1 by rw [← hw1]; exact ((Below.refl _ _).alloc (Nat.le_refl _) _).alloc (by simp) _)
  have z1 : w1.heap.size = w.heap.size + 2 := by rw [← hw1]; simp
  have ZZ := hide' (show ZB (w.heap.size + 1) w1 by
    have h := ZB.new (w.alloc (.cells #[.int .i64 2, .int .i64 0, .int .i64 0, .int .i64 (S : Int), .int .i64 (R : Int), .slice ta na ca, .string ⟨#[]⟩] 24)) 24
    rw [World.size_alloc, hw1] at h
    exact h)
  have XA := hide' (show RB w.heap.size S R (.slice ta na ca) w1 by
    have h := RB.new w S R (.slice ta na ca) 24
    rw [← hw1]
    exact h.block (Below.heap_alloc _ _ _ (by simp)))
  have hmf : ∀ (fn : Fn) (first cap : Array Value) (w : World), (Instr.makeFunc fn first cap).run Tryd.prog w = .ok (.func fn first cap) w := fun _ _ _ _ => rfl
  have AT := hide' (hT.below BB.out)
  have HL := hide' hL
  have r10 := hL.r10
  have s2' := hL.s2
  have s4 := hL.s4
  have i1 : ¬ (K : Int) < (R : Int) := by omega
  obtain ⟨M, hM⟩ : ∃ M, K - R = M := ⟨_, rfl⟩
  have q1 : (K : Int) - (R : Int) = (M : Int) := by omega
  have HZ := hide' hsz
  have k10 : K ≤ 10 := pow_small s2' hsz
  have HMe := hide' (show K = R + M by omega)
  have m1 : M ≤ 10 := by omega
  obtain ⟨FF, hFF⟩ : ∃ FF : List Int → Int, (fun ds : List Int => (applyL S R T ((ds.drop M).take (2 * R + 1))).getD 0 0) = FF := ⟨_, rfl⟩
  have FH := hide' hFF
  rw [hM, hFF]
  clear hFF
  clear hT hL hsz hM
  obtain ⟨x0, x1, x2, x3, x4, x5, x6⟩ := XA.out
  go_enter Tryd.func54, Tryd.ntmps54
  go_wp2_with fail
  refine (checkRule_line S R T ta na ca _ HL.out AT.out).mono ?_
  rintro e w2 ⟨rfl, b2⟩
  have s2 := b2.size
  have B2 := hide' (BB.out.trans (b2.mono BB.out.size))
  have Z2 := hide' (ZZ.out.next b2)
  have XA2 := hide' (XA.out.next b2)
  have AT2 := hide' (AT.out.below b2)
  clear x0 x1 x2 x3 x4 x5 x6 b2 hw1
  obtain ⟨x0, x1, x2, x3, x4, x5, x6⟩ := XA2.out
  obtain ⟨w3, hw3⟩ : ∃ w3, w2.alloc (.cells #[.int .i64 (M : Int)] 3) = w3 := ⟨_, rfl⟩
  have b3 := hide' (show Below w2.heap.size w2 w3 by rw [← hw3]; exact (Below.refl _ _).alloc (Nat.le_refl _) _)
  have s3 := b3.out.size
  have c3 := hide' (show w3.cell? ⟨w2.heap.size, 0, none⟩ = some (.int .i64 (M : Int)) by rw [← hw3, World.cell?_alloc_at _ _ _ _ rfl]; rfl)
  have B3 := hide' (B2.out.trans (b3.out.mono B2.out.size))
  have Z3 := hide' (Z2.out.next b3.out)
  have XA3 := hide' (XA2.out.next b3.out)
  have AT3 := hide' (AT2.out.below b3.out)
  clear x0 x1 x2 x3 x4 x5 x6
  obtain ⟨x0, x1, x2, x3, x4, x5, x6⟩ := XA2.out
  obtain ⟨y0, y1, y2, y3, y4, y5, y6⟩ := XA3.out
  have BE := hide' (show Becomes w3 105 w.heap.size w2.heap.size S (2 * K + 1) FF by
    rw [← FH.out]
    exact fun ds wr g hb hc hl hok hg => widen_clo S R M T ta na ca w.heap.size w2.heap.size g (2 * K + 1) ds wr HL.out (XA3.out.next hb) ((World.cell?_of_block (w := w3) (a := ⟨w2.heap.size, 0, none⟩) (hb.block _ (by have := c3.out; rcases Nat.lt_or_ge w2.heap.size w3.heap.size with q | q; exact q; simp [World.cell?, Array.getElem?_eq_none q] at this))).trans c3.out) (AT3.out.below hb) hc hl (by rw [HMe.out]) m1 hok)
  go_wp2_with fail
  refine (made_w S K w.heap.size w2.heap.size FF _ (by omega) s4 k10 HZ.out BE.out).mono ?_
  rintro e w4 ⟨g, N, rfl, hN, hg, ce, b4⟩
  have s5 := b4.size
  have B4 := hide' (B3.out.trans (b4.mono B3.out.size))
  have Z4 := hide' (Z3.out.next b4)
  have CE := hide' ce
  have HN := hide' hN
  clear x0 x1 x2 x3 x4 x5 x6 y0 y1 y2 y3 y4 y5 y6 b4 ce hN hw3
  obtain ⟨r0, r1, r2, r3, r4, r5, r6, rf⟩ := Z4.out
  have f0 := rf 0
  have f1 := rf 1
  have f2 := rf 2
  have f3 := rf 3
  have f4 := rf 4
  have f5 := rf 5
  have f6 := rf 6
  clear rf
  go_wp2
  refine bodyPost_ret (v := .tuple #[.agg #[.int .i64 2, .int .i64 0, .int .i64 0, .int .i64 (S : Int), .int .i64 (K : Int), .slice (some ⟨g, 0, none⟩) N N, .string ⟨#[]⟩], .nilIface]) (by simp [results, Tryd.results54, go_sem, r0, r1, r2, r3, r4, r5, r6]) rfl ?_
  exact ⟨g, N, rfl, by rw [HN.out, madeL_length], by omega, seven_cel CE.out (by omega) _ _ _ _ _ _ _, seven_below B4.out (by omega) _ _ _ _ _ _ _⟩
end Go.Proofs.YtjngjnkecnnmeaaDoor

namespace Go.Proofs.YtjngjnkecnnmeaaDoor
open Go.RowKit
set_option linter.unusedVariables false

/-- Go's remainder of what is below nothing. -/
theorem tmod_neg (a : Int) (n : Nat) (hn : 0 < n) (ha : a < 0) : (a.tmod (n : Int) = 0 ∧ a % (n : Int) = 0) ∨ (a.tmod (n : Int) < 0 ∧ -(n : Int) < a.tmod (n : Int) ∧ a % (n : Int) = a.tmod (n : Int) + n) := by
  obtain ⟨b, rfl⟩ : ∃ b : Int, a = -b := ⟨-a, by omega⟩
  rw [Int.neg_tmod, Int.tmod_eq_emod_of_nonneg (by omega)]
  have h1 := Int.emod_nonneg b (show (n : Int) ≠ 0 by omega)
  have h2 := Int.emod_lt_of_pos b (show (0 : Int) < n by omega)
  have h3 := Int.emod_add_mul_ediv b (n : Int)
  by_cases h : b % (n : Int) = 0
  · left
    refine ⟨by omega, ?_⟩
    rw [show -b = 0 + (n : Int) * (-(b / (n : Int))) by rw [Int.mul_neg]; omega, Int.add_mul_emod_self_left]
    rfl
  · right
    refine ⟨by omega, by omega, ?_⟩
    rw [show -b = ((n : Int) - b % (n : Int)) + (n : Int) * (-(b / (n : Int)) - 1) by rw [Int.mul_sub, Int.mul_neg]; omega, Int.add_mul_emod_self_left, Int.emod_eq_of_lt (by omega) (by omega)]
    omega

/-- What Step's function sees: its own place, the length, the word. -/
structure CloS (w : World) (pi pn pw : Nat) (i : Nat) (ws : List Int) (wa : Option Addr) (wc : Nat) : Prop where
  ci : w.cell? ⟨pi, 0, none⟩ = some (.int .i64 (i : Int))
  cn : w.cell? ⟨pn, 0, none⟩ = some (.int .i64 (ws.length : Int))
  cw : w.cell? ⟨pw, 0, none⟩ = some (.slice wa ws.length wc)
  arg : ArgP w ws wa ws.length wc
theorem cell_lt {w : World} {p o : Nat} {v : Value} (h : w.cell? ⟨p, o, none⟩ = some v) : p < w.heap.size := by
  rcases Nat.lt_or_ge p w.heap.size with k | k
  · exact k
  · simp [World.cell?, Array.getElem?_eq_none k] at h
theorem cell_next {w w' : World} {p o : Nat} {v : Value} (h : w.cell? ⟨p, o, none⟩ = some v) (hb : Below w.heap.size w w') : w'.cell? ⟨p, o, none⟩ = some v :=
  (World.cell?_of_block (w := w) (a := ⟨p, o, none⟩) (hb.block p (cell_lt h))).trans h
theorem CloS.below {w w' : World} {pi pn pw i : Nat} {ws : List Int} {wa : Option Addr} {wc : Nat} (h : CloS w pi pn pw i ws wa wc) (hb : Below w.heap.size w w') : CloS w' pi pn pw i ws wa wc :=
  ⟨cell_next h.ci hb, cell_next h.cn hb, cell_next h.cw hb, h.arg.below hb⟩

set_option maxHeartbeats 1600000 in
theorem cloS_any (pi pn pw i : Nat) (ws : List Int) (wa : Option Addr) (wc : Nat) (k : Int) (w : World) (hC : CloS w pi pn pw i ws wa wc) (hi : i < ws.length) (hl : ws.length ≤ 1000) (k1 : -10 ≤ k) (k2 : k ≤ 10) :
    Calls Tryd.prog 99 #[.int .i64 k, .pointer (some ⟨pi, 0, none⟩), .pointer (some ⟨pn, 0, none⟩), .pointer (some ⟨pw, 0, none⟩)] w fun e w' => e = .returned (.int .i64 (rat ws ((i : Int) + k))) ∧ w' = w := by
  obtain ⟨c1, c2, c3, ha⟩ := hC
  have HA := hide' ha
  have n0 : ((ws.length : Int) == 0) = false := by rw [beq_eq_false_iff_ne]; omega
  obtain ⟨r, hr⟩ : ∃ r : Nat, ((i : Int) + k) % (ws.length : Int) = (r : Int) := ⟨(((i : Int) + k) % (ws.length : Int)).toNat, by have := Int.emod_nonneg ((i : Int) + k) (show (ws.length : Int) ≠ 0 by omega); omega⟩
  have hrl : r < ws.length := by have := Int.emod_lt_of_pos ((i : Int) + k) (show (0 : Int) < (ws.length : Int) by omega); omega
  obtain ⟨g, off, rfl, hc⟩ := ha.at (k := r) hrl
  have RA := hide' (show rat ws ((i : Int) + k) = ws.getD r 0 by unfold rat; rw [hr]; rfl)
  rw [RA.out]
  obtain ⟨x, hx⟩ : ∃ x, ws.getD r 0 = x := ⟨_, rfl⟩
  rw [hx] at hc ⊢
  clear ha hx RA
  by_cases h0 : 0 ≤ (i : Int) + k
  · have q1 : ((i : Int) + k).tmod (ws.length : Int) = (r : Int) := by rw [Int.tmod_eq_emod_of_nonneg h0]; exact hr
    have q2 : ¬ (r : Int) < 0 := by omega
    go_enter Tryd.func99, Tryd.ntmps99
    go_wp2
    go_ret
    exact ⟨rfl, rfl⟩
  · rcases tmod_neg ((i : Int) + k) ws.length (by omega) (by omega) with ⟨h1, h2⟩ | ⟨h1, h2, h3⟩
    · have r0 : r = 0 := by omega
      subst r0
      rw [Nat.add_zero] at hc
      clear hr h2
      go_enter Tryd.func99, Tryd.ntmps99
      go_wp2
      go_ret
      exact ⟨rfl, rfl⟩
    · obtain ⟨t, ht⟩ : ∃ t, ((i : Int) + k).tmod (ws.length : Int) = t := ⟨_, rfl⟩
      rw [ht] at h1 h2 h3
      have q3 : t + (ws.length : Int) = (r : Int) := by omega
      clear hr h3
      go_enter Tryd.func99, Tryd.ntmps99
      go_wp2
      go_ret
      exact ⟨rfl, rfl⟩

/-- What Apply's function sees. -/
structure CloA (w : World) (pw pi : Nat) (i : Nat) (ws : List Int) (wa : Option Addr) (wc : Nat) : Prop where
  cw : w.cell? ⟨pw, 0, none⟩ = some (.slice wa ws.length wc)
  ci : w.cell? ⟨pi, 0, none⟩ = some (.int .i64 (i : Int))
  arg : ArgP w ws wa ws.length wc
theorem CloA.below {w w' : World} {pw pi i : Nat} {ws : List Int} {wa : Option Addr} {wc : Nat} (h : CloA w pw pi i ws wa wc) (hb : Below w.heap.size w w') : CloA w' pw pi i ws wa wc :=
  ⟨cell_next h.cw hb, cell_next h.ci hb, h.arg.below hb⟩

set_option maxHeartbeats 1600000 in
theorem cloA_any (pw pi i d R : Nat) (ws : List Int) (wa : Option Addr) (wc : Nat) (k : Int) (w : World) (hC : CloA w pw pi i ws wa wc) (hk : k = (d : Int) - R) (hi : R ≤ i + d) (hd : i + d - R < ws.length) (hl : ws.length ≤ 5000) (hd1 : d ≤ 30) (hR : R ≤ 30) :
    Calls Tryd.prog 100 #[.int .i64 k, .pointer (some ⟨pw, 0, none⟩), .pointer (some ⟨pi, 0, none⟩)] w fun e w' => e = .returned (.int .i64 (ws.getD (i + d - R) 0)) ∧ w' = w := by
  obtain ⟨c1, c2, ha⟩ := hC
  obtain ⟨g, off, rfl, hc⟩ := ha.at (k := i + d - R) hd
  obtain ⟨x, hx⟩ : ∃ x, ws.getD (i + d - R) 0 = x := ⟨_, rfl⟩
  rw [hx] at hc ⊢
  obtain ⟨t, ht⟩ : ∃ t, i + d - R = t := ⟨_, rfl⟩
  rw [ht] at hc hd
  have q1 : (i : Int) + k = (t : Int) := by omega
  have k3 : -100 ≤ k := by omega
  have k4 : k ≤ 100 := by omega
  have HA := hide' ha
  clear ha hx ht hk
  go_enter Tryd.func100, Tryd.ntmps100
  go_wp2
  go_ret
  exact ⟨rfl, rfl⟩
end Go.Proofs.YtjngjnkecnnmeaaDoor

