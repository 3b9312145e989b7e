/-
  What the last text of this claim leans on, part 38: Ll5.
-/
import Derived.Test.YtdhbdkkchobinaaJz33
import Derived.Test.YtdhbdkkchobinaaJz13
namespace Go.Proofs.Ytdhbdkkchobinaa
open Go.RowKit
set_option linter.unusedVariables false

/-- A rule that is answered with an error. -/
def RuleErr (f : Nat) (w : World) (e : Ending) (w' : World) : Prop :=
  e = .returned (.tuple #[.agg #[.int .i64 0, .int .i64 0, .int .i64 0, .int .i64 0, .int .i64 0, .slice none 0 0, .string ⟨#[]⟩], .iface 23 (.int .i64 (f : Int))]) ∧ Below w.heap.size w w'
/-- A rule of a line that is answered. -/
def RulePost (S R : Nat) (T : List Int) (w : World) (e : Ending) (w' : World) : Prop :=
  ∃ g N, e = .returned (.tuple #[.agg #[.int .i64 2, .int .i64 0, .int .i64 0, .int .i64 (S : Int), .int .i64 (R : Int), .slice (some ⟨g, 0, none⟩) N N, .string ⟨#[]⟩], .nilIface]) ∧ N = T.length ∧ w.heap.size ≤ g ∧ Cel w' g T ∧ Below w.heap.size w w'
theorem seven_below {B p : Nat} {w w' : World} (h : Below B w w') (hp : B ≤ p) (a b c d e f g : Value) : Below B w (((((((w'.setCell ⟨p, 0, none⟩ a).setCell ⟨p, 1, none⟩ b).setCell ⟨p, 2, none⟩ c).setCell ⟨p, 3, none⟩ d).setCell ⟨p, 4, none⟩ e).setCell ⟨p, 5, none⟩ f).setCell ⟨p, 6, none⟩ g) :=
  ((((((h.setCell hp _).setCell hp _).setCell hp _).setCell hp _).setCell hp _).setCell hp _).setCell hp _
theorem seven_cel {p k : Nat} {w' : World} {xs : List Int} (h : Cel w' k xs) (hp : k ≠ p) (a b c d e f g : Value) : Cel (((((((w'.setCell ⟨p, 0, none⟩ a).setCell ⟨p, 1, none⟩ b).setCell ⟨p, 2, none⟩ c).setCell ⟨p, 3, none⟩ d).setCell ⟨p, 4, none⟩ e).setCell ⟨p, 5, none⟩ f).setCell ⟨p, 6, none⟩ g) k xs :=
  ((((((h.rd ((Rd.refl p _).set 0 _) hp).rd ((Rd.refl p _).set 1 _) hp).rd ((Rd.refl p _).set 2 _) hp).rd ((Rd.refl p _).set 3 _) hp).rd ((Rd.refl p _).set 4 _) hp).rd ((Rd.refl p _).set 5 _) hp).rd ((Rd.refl p _).set 6 _) hp

set_option maxRecDepth 100000 in
set_option maxHeartbeats 3200000 in
theorem made_full (S K : Nat) (v : Value) (w : World) (hS : 2 ≤ S) (hS4 : S ≤ 4) (hK : K ≤ 9223372036854775807) (hsz : 4096 < S ^ (2 * K + 1)) :
    Calls Try.prog 20 #[.int .i64 (S : Int), .int .i64 (K : Int), v] w (RuleErr 4 w) := by
  obtain ⟨q, hq⟩ : ∃ q, S * S = q := ⟨_, rfl⟩
  have q1 : (S : Int) * (S : Int) = (q : Int) := by rw [← hq]; simp
  have hq16 : q ≤ 16 := by rw [← hq]; exact Nat.mul_le_mul hS4 hS4
  have HQ := hide' hq
  have HZ := hide' hsz
  have Z0 := hide' (ZB.new w 28)
  have BB := hide' (show Below w.heap.size w (w.alloc (.cells #[.int .i64 0, .int .i64 0, .int .i64 0, .int .i64 0, .int .i64 0, .slice none 0 0, .string ⟨#[]⟩] 28)) from (Below.refl _ _).alloc (Nat.le_refl _) _)
  clear hq hsz
  go_enter Try.func20, Try.ntmps20
  go_wp2
  go_loop [8, 9] (fun ev iv => ∃ i e : Nat, iv = .int .i64 (i : Int) ∧ ev = .int .i64 (e : Int) ∧ i ≤ K ∧ e ≤ 4096 ∧ Hid (e = S ^ (2 * i + 1))) (fun _ iv => K - (intOf iv).toNat)
  case atStart => exact ⟨0, S, rfl, rfl, by omega, by omega, hide' (by simp)⟩
  case round =>
    obtain ⟨i, e, rfl, rfl, hi, he4, HE⟩ := hrel
    have d : (i : Int) < (K : Int) := by
      have h1 := HE.out
      have h2 := HZ.out
      rcases Nat.lt_or_ge i K with h | h
      · omega
      · rw [show i = K by omega] at h1; omega
    obtain ⟨f, hf⟩ : ∃ f, e * q = f := ⟨_, rfl⟩
    have q2 : (e : Int) * (q : Int) = (f : Int) := by rw [← hf]; simp
    have FE := hide' (show f = S ^ (2 * (i + 1) + 1) by rw [← hf, HE.out, ← HQ.out, show 2 * (i + 1) + 1 = (2 * i + 1) + 2 by omega, Nat.pow_add S (2 * i + 1) 2, Nat.pow_two])
    have hfb : f ≤ 65536 := by rw [← hf]; exact Nat.mul_le_mul he4 hq16
    clear hf
    by_cases d2 : (4096 : Int) < (f : Int)
    · obtain ⟨r0, r1, r2, r3, r4, r5, r6, rf⟩ := Z0.out
      have f0 := rf 0
      have f1 := rf 1
      have f2 := rf 2
      have f3 := rf 3
      have f4 := rf 4
      have f5 := rf 5
      have f6 := rf 6
      clear rf
      go_wp2
      refine bodyPost_ret (v := .tuple #[.agg #[.int .i64 0, .int .i64 0, .int .i64 0, .int .i64 0, .int .i64 0, .slice none 0 0, .string ⟨#[]⟩], .iface 23 (.int .i64 4)]) (by simp [results, Try.results20, go_sem, r0, r1, r2, r3, r4, r5, r6]) rfl ?_
      first | exact ⟨rfl, BB.out⟩ | exact ⟨rfl, seven_below BB.out (Nat.le_refl _) _ _ _ _ _ _ _⟩
    · go_wp2
      exact ⟨⟨i + 1, f, by go_num, rfl, by omega, by omega, FE⟩, by simp [intOf]; omega⟩

theorem pow_small {S K : Nat} (h : 2 ≤ S) (hs : S ^ (2 * K + 1) ≤ 4096) : K ≤ 10 := by
  rcases Nat.lt_or_ge 10 K with d | d
  · have h1 : 2 ^ (2 * K + 1) ≤ S ^ (2 * K + 1) := Nat.pow_le_pow_left h _
    have h2 : 2 ^ 21 ≤ 2 ^ (2 * K + 1) := Nat.pow_le_pow_right (by omega) (by omega)
    omega
  · exact d

set_option maxRecDepth 100000 in
set_option maxHeartbeats 3200000 in
theorem compose_offa (o o' : Out) (ta : Option Addr) (na ca : Nat) (tb : Option Addr) (nb cb : Nat) (w : World) (hR : ArgR w o ta na ca) (h : ¬ (Good o ∧ o.kind = 2)) :
    Calls Try.prog 12 #[.agg #[.int .i64 o.kind, .int .i64 o.born, .int .i64 o.stay, .int .i64 o.states, .int .i64 o.radius, .slice ta na ca, .string o.turns], .agg #[.int .i64 o'.kind, .int .i64 o'.born, .int .i64 o'.stay, .int .i64 o'.states, .int .i64 o'.radius, .slice tb nb cb, .string o'.turns]] w (RuleErr 1 w) := by
  obtain ⟨w1, hw1⟩ : ∃ w1, ((w.alloc (.cells #[.int .i64 o.kind, .int .i64 o.born, .int .i64 o.stay, .int .i64 o.states, .int .i64 o.radius, .slice ta na ca, .string o.turns] 28)).alloc (.cells #[.int .i64 o'.kind, .int .i64 o'.born, .int .i64 o'.stay, .int .i64 o'.states, .int .i64 o'.radius, .slice tb nb cb, .string o'.turns] 28)).alloc (.cells #[.int .i64 0, .int .i64 0, .int .i64 0, .int .i64 0, .int .i64 0, .slice none 0 0, .string ⟨#[]⟩] 28) = w1 := ⟨_, rfl⟩
  have BB := hide' (show Below w.heap.size w w1 by rw [← hw1]; exact (((Below.refl _ _).alloc (Nat.le_refl _) _).alloc (by simp) _).alloc (by simp; omega) _)
  have z1 : w1.heap.size = w.heap.size + 3 := by rw [← hw1]; simp
  have ZZ := hide' (show ZB (w.heap.size + 2) w1 by
    have h := ZB.new ((w.alloc (.cells #[.int .i64 o.kind, .int .i64 o.born, .int .i64 o.stay, .int .i64 o.states, .int .i64 o.radius, .slice ta na ca, .string o.turns] 28)).alloc (.cells #[.int .i64 o'.kind, .int .i64 o'.born, .int .i64 o'.stay, .int .i64 o'.states, .int .i64 o'.radius, .slice tb nb cb, .string o'.turns] 28)) 28
    rw [World.size_alloc, World.size_alloc, hw1] at h
    exact h)
  have XA := hide' (show RBo w.heap.size o (.slice ta na ca) w1 by
    have h := RBo.new w o (.slice ta na ca) 28
    rw [← hw1]
    exact h.block ((Below.heap_alloc _ _ _ (by simp; omega)).trans (Below.heap_alloc _ _ _ (by simp))))
  have AT := hide' (hR.below BB.out)
  have HH := hide' h
  clear hR h
  obtain ⟨x0, x1, x2, x3, x4, x5, x6⟩ := XA.out
  go_enter Try.func12, Try.ntmps12
  go_wp2_with fail
  refine (checkRule_off o ta na ca _ AT.out HH.out).mono ?_
  rintro e w2 ⟨rfl, b2⟩
  have s2 := b2.size
  have B2 := hide' (BB.out.trans (b2.mono BB.out.size))
  have Z2 := hide' (ZZ.out.next b2)
  clear x0 x1 x2 x3 x4 x5 x6 b2 hw1
  obtain ⟨r0, r1, r2, r3, r4, r5, r6, rf⟩ := Z2.out
  have f0 := rf 0
  have f1 := rf 1
  have f2 := rf 2
  have f3 := rf 3
  have f4 := rf 4
  have f5 := rf 5
  have f6 := rf 6
  clear rf
  go_wp2
  refine bodyPost_ret (v := .tuple #[.agg #[.int .i64 0, .int .i64 0, .int .i64 0, .int .i64 0, .int .i64 0, .slice none 0 0, .string ⟨#[]⟩], .iface 23 (.int .i64 1)]) (by simp [results, Try.results12, go_sem, r0, r1, r2, r3, r4, r5, r6]) rfl ?_
  exact ⟨rfl, seven_below B2.out (by omega) _ _ _ _ _ _ _⟩

set_option maxRecDepth 100000 in
set_option maxHeartbeats 3200000 in
theorem compose_offb (S Ra : Nat) (Ta : List Int) (o' : Out) (ta : Option Addr) (na ca : Nat) (tb : Option Addr) (nb cb : Nat) (w : World) (hLa : LineOk S Ra Ta) (hTa : ArgP w Ta ta na ca) (hR : ArgR w o' tb nb cb) (h : ¬ (Good o' ∧ o'.kind = 2)) :
    Calls Try.prog 12 #[.agg #[.int .i64 2, .int .i64 0, .int .i64 0, .int .i64 (S : Int), .int .i64 (Ra : Int), .slice ta na ca, .string ⟨#[]⟩], .agg #[.int .i64 o'.kind, .int .i64 o'.born, .int .i64 o'.stay, .int .i64 o'.states, .int .i64 o'.radius, .slice tb nb cb, .string o'.turns]] w (RuleErr 1 w) := by
  obtain ⟨w1, hw1⟩ : ∃ w1, ((w.alloc (.cells #[.int .i64 2, .int .i64 0, .int .i64 0, .int .i64 (S : Int), .int .i64 (Ra : Int), .slice ta na ca, .string ⟨#[]⟩] 28)).alloc (.cells #[.int .i64 o'.kind, .int .i64 o'.born, .int .i64 o'.stay, .int .i64 o'.states, .int .i64 o'.radius, .slice tb nb cb, .string o'.turns] 28)).alloc (.cells #[.int .i64 0, .int .i64 0, .int .i64 0, .int .i64 0, .int .i64 0, .slice none 0 0, .string ⟨#[]⟩] 28) = w1 := ⟨_, rfl⟩
  have BB := hide' (show Below w.heap.size w w1 by rw [← hw1]; exact (((Below.refl _ _).alloc (Nat.le_refl _) _).alloc (by simp) _).alloc (by simp; omega) _)
  have z1 : w1.heap.size = w.heap.size + 3 := by rw [← hw1]; simp
  have ZZ := hide' (show ZB (w.heap.size + 2) w1 by
    have h := ZB.new ((w.alloc (.cells #[.int .i64 2, .int .i64 0, .int .i64 0, .int .i64 (S : Int), .int .i64 (Ra : Int), .slice ta na ca, .string ⟨#[]⟩] 28)).alloc (.cells #[.int .i64 o'.kind, .int .i64 o'.born, .int .i64 o'.stay, .int .i64 o'.states, .int .i64 o'.radius, .slice tb nb cb, .string o'.turns] 28)) 28
    rw [World.size_alloc, World.size_alloc, hw1] at h
    exact h)
  have XA := hide' (show RB w.heap.size S Ra (.slice ta na ca) w1 by
    have h := RB.new w S Ra (.slice ta na ca) 28
    rw [← hw1]
    exact h.block ((Below.heap_alloc _ _ _ (by simp; omega)).trans (Below.heap_alloc _ _ _ (by simp))))
  have XB := hide' (show RBo (w.heap.size + 1) o' (.slice tb nb cb) w1 by
    have h := RBo.new (w.alloc (.cells #[.int .i64 2, .int .i64 0, .int .i64 0, .int .i64 (S : Int), .int .i64 (Ra : Int), .slice ta na ca, .string ⟨#[]⟩] 28)) o' (.slice tb nb cb) 28
    rw [World.size_alloc] at h
    rw [← hw1]
    exact h.block (Below.heap_alloc _ _ _ (by simp)))
  have ATa := hide' (hTa.below BB.out)
  have ATb := hide' (hR.below BB.out)
  have HLa := hide' hLa
  have HH := hide' h
  clear hTa hR h hLa
  obtain ⟨x0, x1, x2, x3, x4, x5, x6⟩ := XA.out
  obtain ⟨y0, y1, y2, y3, y4, y5, y6⟩ := XB.out
  go_enter Try.func12, Try.ntmps12
  go_wp2_with fail
  refine (checkRule_line S Ra Ta ta na ca _ HLa.out ATa.out).mono ?_
  rintro e w2 ⟨rfl, b2⟩
  have s2 := b2.size
  have B2 := hide' (BB.out.trans (b2.mono BB.out.size))
  have Z2 := hide' (ZZ.out.next b2)
  have XA2 := hide' (XA.out.next b2)
  have XB2 := hide' (XB.out.next b2)
  have ATa2 := hide' (ATa.out.below b2)
  have ATb2 := hide' (ATb.out.below b2)
  clear x0 x1 x2 x3 x4 x5 x6 y0 y1 y2 y3 y4 y5 y6 b2 hw1
  obtain ⟨x0, x1, x2, x3, x4, x5, x6⟩ := XA2.out
  obtain ⟨y0, y1, y2, y3, y4, y5, y6⟩ := XB2.out
  go_wp2_with fail
  refine (checkRule_off o' tb nb cb _ ATb2.out HH.out).mono ?_
  rintro e w3 ⟨rfl, b3⟩
  have s3 := b3.size
  have B3 := hide' (B2.out.trans (b3.mono B2.out.size))
  have Z3 := hide' (Z2.out.next b3)
  have XA3 := hide' (XA2.out.next b3)
  have XB3 := hide' (XB2.out.next b3)
  have ATa3 := hide' (ATa2.out.below b3)
  have ATb3 := hide' (ATb2.out.below b3)
  clear x0 x1 x2 x3 x4 x5 x6 y0 y1 y2 y3 y4 y5 y6 b3
  obtain ⟨x0, x1, x2, x3, x4, x5, x6⟩ := XA3.out
  obtain ⟨y0, y1, y2, y3, y4, y5, y6⟩ := XB3.out
  obtain ⟨r0, r1, r2, r3, r4, r5, r6, rf⟩ := Z3.out
  have f0 := rf 0
  have f1 := rf 1
  have f2 := rf 2
  have f3 := rf 3
  have f4 := rf 4
  have f5 := rf 5
  have f6 := rf 6
  clear rf
  go_wp2
  refine bodyPost_ret (v := .tuple #[.agg #[.int .i64 0, .int .i64 0, .int .i64 0, .int .i64 0, .int .i64 0, .slice none 0 0, .string ⟨#[]⟩], .iface 23 (.int .i64 1)]) (by simp [results, Try.results12, go_sem, r0, r1, r2, r3, r4, r5, r6]) rfl ?_
  exact ⟨rfl, seven_below B3.out (by omega) _ _ _ _ _ _ _⟩

set_option maxRecDepth 100000 in
set_option maxHeartbeats 3200000 in
theorem compose_shape (S Ra : Nat) (Ta : List Int) (S' Rb : Nat) (Tb : List Int) (ta : Option Addr) (na ca : Nat) (tb : Option Addr) (nb cb : Nat) (w : World) (hLa : LineOk S Ra Ta) (hTa : ArgP w Ta ta na ca) (hLb : LineOk S' Rb Tb) (hTb : ArgP w Tb tb nb cb) (hne : S ≠ S') :
    Calls Try.prog 12 #[.agg #[.int .i64 2, .int .i64 0, .int .i64 0, .int .i64 (S : Int), .int .i64 (Ra : Int), .slice ta na ca, .string ⟨#[]⟩], .agg #[.int .i64 2, .int .i64 0, .int .i64 0, .int .i64 (S' : Int), .int .i64 (Rb : Int), .slice tb nb cb, .string ⟨#[]⟩]] w (RuleErr 3 w) := by
  obtain ⟨w1, hw1⟩ : ∃ w1, ((w.alloc (.cells #[.int .i64 2, .int .i64 0, .int .i64 0, .int .i64 (S : Int), .int .i64 (Ra : Int), .slice ta na ca, .string ⟨#[]⟩] 28)).alloc (.cells #[.int .i64 2, .int .i64 0, .int .i64 0, .int .i64 (S' : Int), .int .i64 (Rb : Int), .slice tb nb cb, .string ⟨#[]⟩] 28)).alloc (.cells #[.int .i64 0, .int .i64 0, .int .i64 0, .int .i64 0, .int .i64 0, .slice none 0 0, .string ⟨#[]⟩] 28) = w1 := ⟨_, rfl⟩
  have BB := hide' (show Below w.heap.size w w1 by rw [← hw1]; exact (((Below.refl _ _).alloc (Nat.le_refl _) _).alloc (by simp) _).alloc (by simp; omega) _)
  have z1 : w1.heap.size = w.heap.size + 3 := by rw [← hw1]; simp
  have ZZ := hide' (show ZB (w.heap.size + 2) w1 by
    have h := ZB.new ((w.alloc (.cells #[.int .i64 2, .int .i64 0, .int .i64 0, .int .i64 (S : Int), .int .i64 (Ra : Int), .slice ta na ca, .string ⟨#[]⟩] 28)).alloc (.cells #[.int .i64 2, .int .i64 0, .int .i64 0, .int .i64 (S' : Int), .int .i64 (Rb : Int), .slice tb nb cb, .string ⟨#[]⟩] 28)) 28
    rw [World.size_alloc, World.size_alloc, hw1] at h
    exact h)
  have XA := hide' (show RB w.heap.size S Ra (.slice ta na ca) w1 by
    have h := RB.new w S Ra (.slice ta na ca) 28
    rw [← hw1]
    exact h.block ((Below.heap_alloc _ _ _ (by simp; omega)).trans (Below.heap_alloc _ _ _ (by simp))))
  have XB := hide' (show RB (w.heap.size + 1) S' Rb (.slice tb nb cb) w1 by
    have h := RB.new (w.alloc (.cells #[.int .i64 2, .int .i64 0, .int .i64 0, .int .i64 (S : Int), .int .i64 (Ra : Int), .slice ta na ca, .string ⟨#[]⟩] 28)) S' Rb (.slice tb nb cb) 28
    rw [World.size_alloc] at h
    rw [← hw1]
    exact h.block (Below.heap_alloc _ _ _ (by simp)))
  have m1 : ((S : Int) != (S' : Int)) = true := by rw [bne_iff_ne]; omega
  have ATa := hide' (hTa.below BB.out)
  have ATb := hide' (hTb.below BB.out)
  have HLa := hide' hLa
  have HLb := hide' hLb
  clear hTa hTb hLb hLa
  obtain ⟨x0, x1, x2, x3, x4, x5, x6⟩ := XA.out
  obtain ⟨y0, y1, y2, y3, y4, y5, y6⟩ := XB.out
  go_enter Try.func12, Try.ntmps12
  go_wp2_with fail
  refine (checkRule_line S Ra Ta ta na ca _ HLa.out ATa.out).mono ?_
  rintro e w2 ⟨rfl, b2⟩
  have s2 := b2.size
  have B2 := hide' (BB.out.trans (b2.mono BB.out.size))
  have Z2 := hide' (ZZ.out.next b2)
  have XA2 := hide' (XA.out.next b2)
  have XB2 := hide' (XB.out.next b2)
  have ATa2 := hide' (ATa.out.below b2)
  have ATb2 := hide' (ATb.out.below b2)
  clear x0 x1 x2 x3 x4 x5 x6 y0 y1 y2 y3 y4 y5 y6 b2 hw1
  obtain ⟨x0, x1, x2, x3, x4, x5, x6⟩ := XA2.out
  obtain ⟨y0, y1, y2, y3, y4, y5, y6⟩ := XB2.out
  go_wp2_with fail
  refine (checkRule_line S' Rb Tb tb nb cb _ HLb.out ATb2.out).mono ?_
  rintro e w3 ⟨rfl, b3⟩
  have s3 := b3.size
  have B3 := hide' (B2.out.trans (b3.mono B2.out.size))
  have Z3 := hide' (Z2.out.next b3)
  have XA3 := hide' (XA2.out.next b3)
  have XB3 := hide' (XB2.out.next b3)
  have ATa3 := hide' (ATa2.out.below b3)
  have ATb3 := hide' (ATb2.out.below b3)
  clear x0 x1 x2 x3 x4 x5 x6 y0 y1 y2 y3 y4 y5 y6 b3
  obtain ⟨x0, x1, x2, x3, x4, x5, x6⟩ := XA3.out
  obtain ⟨y0, y1, y2, y3, y4, y5, y6⟩ := XB3.out
  obtain ⟨r0, r1, r2, r3, r4, r5, r6, rf⟩ := Z3.out
  have f0 := rf 0
  have f1 := rf 1
  have f2 := rf 2
  have f3 := rf 3
  have f4 := rf 4
  have f5 := rf 5
  have f6 := rf 6
  clear rf
  go_wp2
  refine bodyPost_ret (v := .tuple #[.agg #[.int .i64 0, .int .i64 0, .int .i64 0, .int .i64 0, .int .i64 0, .slice none 0 0, .string ⟨#[]⟩], .iface 23 (.int .i64 3)]) (by simp [results, Try.results12, go_sem, r0, r1, r2, r3, r4, r5, r6]) rfl ?_
  exact ⟨rfl, seven_below B3.out (by omega) _ _ _ _ _ _ _⟩

set_option maxRecDepth 100000 in
set_option maxHeartbeats 3200000 in
theorem compose_full (S Ra : Nat) (Ta : List Int) (Rb : Nat) (Tb : List Int) (ta : Option Addr) (na ca : Nat) (tb : Option Addr) (nb cb : Nat) (w : World) (hLa : LineOk S Ra Ta) (hTa : ArgP w Ta ta na ca) (hLb : LineOk S Rb Tb) (hTb : ArgP w Tb tb nb cb) (hsz : 4096 < S ^ (2 * (Ra + Rb) + 1)) :
    Calls Try.prog 12 #[.agg #[.int .i64 2, .int .i64 0, .int .i64 0, .int .i64 (S : Int), .int .i64 (Ra : Int), .slice ta na ca, .string ⟨#[]⟩], .agg #[.int .i64 2, .int .i64 0, .int .i64 0, .int .i64 (S : Int), .int .i64 (Rb : Int), .slice tb nb cb, .string ⟨#[]⟩]] w (RuleErr 4 w) := by
  obtain ⟨w1, hw1⟩ : ∃ w1, ((w.alloc (.cells #[.int .i64 2, .int .i64 0, .int .i64 0, .int .i64 (S : Int), .int .i64 (Ra : Int), .slice ta na ca, .string ⟨#[]⟩] 28)).alloc (.cells #[.int .i64 2, .int .i64 0, .int .i64 0, .int .i64 (S : Int), .int .i64 (Rb : Int), .slice tb nb cb, .string ⟨#[]⟩] 28)).alloc (.cells #[.int .i64 0, .int .i64 0, .int .i64 0, .int .i64 0, .int .i64 0, .slice none 0 0, .string ⟨#[]⟩] 28) = w1 := ⟨_, rfl⟩
  have BB := hide' (show Below w.heap.size w w1 by rw [← hw1]; exact (((Below.refl _ _).alloc (Nat.le_refl _) _).alloc (by simp) _).alloc (by simp; omega) _)
  have z1 : w1.heap.size = w.heap.size + 3 := by rw [← hw1]; simp
  have ZZ := hide' (show ZB (w.heap.size + 2) w1 by
    have h := ZB.new ((w.alloc (.cells #[.int .i64 2, .int .i64 0, .int .i64 0, .int .i64 (S : Int), .int .i64 (Ra : Int), .slice ta na ca, .string ⟨#[]⟩] 28)).alloc (.cells #[.int .i64 2, .int .i64 0, .int .i64 0, .int .i64 (S : Int), .int .i64 (Rb : Int), .slice tb nb cb, .string ⟨#[]⟩] 28)) 28
    rw [World.size_alloc, World.size_alloc, hw1] at h
    exact h)
  have XA := hide' (show RB w.heap.size S Ra (.slice ta na ca) w1 by
    have h := RB.new w S Ra (.slice ta na ca) 28
    rw [← hw1]
    exact h.block ((Below.heap_alloc _ _ _ (by simp; omega)).trans (Below.heap_alloc _ _ _ (by simp))))
  have XB := hide' (show RB (w.heap.size + 1) S Rb (.slice tb nb cb) w1 by
    have h := RB.new (w.alloc (.cells #[.int .i64 2, .int .i64 0, .int .i64 0, .int .i64 (S : Int), .int .i64 (Ra : Int), .slice ta na ca, .string ⟨#[]⟩] 28)) S Rb (.slice tb nb cb) 28
    rw [World.size_alloc] at h
    rw [← hw1]
    exact h.block (Below.heap_alloc _ _ _ (by simp)))
  have hmf : ∀ (fn : Fn) (first cap : Array Value) (w : World), (Instr.makeFunc fn first cap).run Try.prog w = .ok (.func fn first cap) w := fun _ _ _ _ => rfl
  have m1 : ((S : Int) != (S : Int)) = false := by simp
  have ra10 := hLa.r10
  have rb10 := hLb.r10
  have s2 := hLa.s2
  have s4 := hLa.s4
  obtain ⟨K, hK⟩ : ∃ K, Ra + Rb = K := ⟨_, rfl⟩
  have q1 : (Ra : Int) + (Rb : Int) = (K : Int) := by omega
  have HZ := hide' (show 4096 < S ^ (2 * K + 1) by rw [← hK]; exact hsz)
  clear hsz hK
  have ATa := hide' (hTa.below BB.out)
  have ATb := hide' (hTb.below BB.out)
  have HLa := hide' hLa
  have HLb := hide' hLb
  clear hTa hTb hLb hLa
  obtain ⟨x0, x1, x2, x3, x4, x5, x6⟩ := XA.out
  obtain ⟨y0, y1, y2, y3, y4, y5, y6⟩ := XB.out
  go_enter Try.func12, Try.ntmps12
  go_wp2_with fail
  refine (checkRule_line S Ra Ta ta na ca _ HLa.out ATa.out).mono ?_
  rintro e w2 ⟨rfl, b2⟩
  have s2 := b2.size
  have B2 := hide' (BB.out.trans (b2.mono BB.out.size))
  have Z2 := hide' (ZZ.out.next b2)
  have XA2 := hide' (XA.out.next b2)
  have XB2 := hide' (XB.out.next b2)
  have ATa2 := hide' (ATa.out.below b2)
  have ATb2 := hide' (ATb.out.below b2)
  clear x0 x1 x2 x3 x4 x5 x6 y0 y1 y2 y3 y4 y5 y6 b2 hw1
  obtain ⟨x0, x1, x2, x3, x4, x5, x6⟩ := XA2.out
  obtain ⟨y0, y1, y2, y3, y4, y5, y6⟩ := XB2.out
  go_wp2_with fail
  refine (checkRule_line S Rb Tb tb nb cb _ HLb.out ATb2.out).mono ?_
  rintro e w3 ⟨rfl, b3⟩
  have s3 := b3.size
  have B3 := hide' (B2.out.trans (b3.mono B2.out.size))
  have Z3 := hide' (Z2.out.next b3)
  have XA3 := hide' (XA2.out.next b3)
  have XB3 := hide' (XB2.out.next b3)
  have ATa3 := hide' (ATa2.out.below b3)
  have ATb3 := hide' (ATb2.out.below b3)
  clear x0 x1 x2 x3 x4 x5 x6 y0 y1 y2 y3 y4 y5 y6 b3
  obtain ⟨x0, x1, x2, x3, x4, x5, x6⟩ := XA3.out
  obtain ⟨y0, y1, y2, y3, y4, y5, y6⟩ := XB3.out
  go_wp2_with fail
  refine (made_full S K _ _ (by omega) s4 (by omega) HZ.out).mono ?_
  rintro e w4 ⟨rfl, b4⟩
  have s5 := b4.size
  have B4 := hide' (B3.out.trans (b4.mono B3.out.size))
  have Z4 := hide' (Z3.out.next b4)
  clear x0 x1 x2 x3 x4 x5 x6 y0 y1 y2 y3 y4 y5 y6 b4
  obtain ⟨r0, r1, r2, r3, r4, r5, r6, rf⟩ := Z4.out
  have f0 := rf 0
  have f1 := rf 1
  have f2 := rf 2
  have f3 := rf 3
  have f4 := rf 4
  have f5 := rf 5
  have f6 := rf 6
  clear rf
  go_wp2
  refine bodyPost_ret (v := .tuple #[.agg #[.int .i64 0, .int .i64 0, .int .i64 0, .int .i64 0, .int .i64 0, .slice none 0 0, .string ⟨#[]⟩], .iface 23 (.int .i64 4)]) (by simp [results, Try.results12, go_sem, r0, r1, r2, r3, r4, r5, r6]) rfl ?_
  exact ⟨rfl, seven_below B4.out (by omega) _ _ _ _ _ _ _⟩

set_option maxRecDepth 100000 in
set_option maxHeartbeats 3200000 in
theorem compose_ok (S Ra : Nat) (Ta : List Int) (Rb : Nat) (Tb : List Int) (ta : Option Addr) (na ca : Nat) (tb : Option Addr) (nb cb : Nat) (w : World) (hLa : LineOk S Ra Ta) (hTa : ArgP w Ta ta na ca) (hLb : LineOk S Rb Tb) (hTb : ArgP w Tb tb nb cb) (hsz : S ^ (2 * (Ra + Rb) + 1) ≤ 4096) :
    Calls Try.prog 12 #[.agg #[.int .i64 2, .int .i64 0, .int .i64 0, .int .i64 (S : Int), .int .i64 (Ra : Int), .slice ta na ca, .string ⟨#[]⟩], .agg #[.int .i64 2, .int .i64 0, .int .i64 0, .int .i64 (S : Int), .int .i64 (Rb : Int), .slice tb nb cb, .string ⟨#[]⟩]] w (RulePost S (Ra + Rb) (madeL S (Ra + Rb) fun ds => (applyL S Rb Tb (applyL S Ra Ta ds)).getD 0 0) w) := by
  obtain ⟨w1, hw1⟩ : ∃ w1, ((w.alloc (.cells #[.int .i64 2, .int .i64 0, .int .i64 0, .int .i64 (S : Int), .int .i64 (Ra : Int), .slice ta na ca, .string ⟨#[]⟩] 28)).alloc (.cells #[.int .i64 2, .int .i64 0, .int .i64 0, .int .i64 (S : Int), .int .i64 (Rb : Int), .slice tb nb cb, .string ⟨#[]⟩] 28)).alloc (.cells #[.int .i64 0, .int .i64 0, .int .i64 0, .int .i64 0, .int .i64 0, .slice none 0 0, .string ⟨#[]⟩] 28) = w1 := ⟨_, rfl⟩
  have BB := hide' (show Below w.heap.size w w1 by rw [← hw1]; exact (((Below.refl _ _).alloc (Nat.le_refl _) _).alloc (by simp) _).alloc (by simp; omega) _)
  have z1 : w1.heap.size = w.heap.size + 3 := by rw [← hw1]; simp
  have ZZ := hide' (show ZB (w.heap.size + 2) w1 by
    have h := ZB.new ((w.alloc (.cells #[.int .i64 2, .int .i64 0, .int .i64 0, .int .i64 (S : Int), .int .i64 (Ra : Int), .slice ta na ca, .string ⟨#[]⟩] 28)).alloc (.cells #[.int .i64 2, .int .i64 0, .int .i64 0, .int .i64 (S : Int), .int .i64 (Rb : Int), .slice tb nb cb, .string ⟨#[]⟩] 28)) 28
    rw [World.size_alloc, World.size_alloc, hw1] at h
    exact h)
  have XA := hide' (show RB w.heap.size S Ra (.slice ta na ca) w1 by
    have h := RB.new w S Ra (.slice ta na ca) 28
    rw [← hw1]
    exact h.block ((Below.heap_alloc _ _ _ (by simp; omega)).trans (Below.heap_alloc _ _ _ (by simp))))
  have XB := hide' (show RB (w.heap.size + 1) S Rb (.slice tb nb cb) w1 by
    have h := RB.new (w.alloc (.cells #[.int .i64 2, .int .i64 0, .int .i64 0, .int .i64 (S : Int), .int .i64 (Ra : Int), .slice ta na ca, .string ⟨#[]⟩] 28)) S Rb (.slice tb nb cb) 28
    rw [World.size_alloc] at h
    rw [← hw1]
    exact h.block (Below.heap_alloc _ _ _ (by simp)))
  have hmf : ∀ (fn : Fn) (first cap : Array Value) (w : World), (Instr.makeFunc fn first cap).run Try.prog w = .ok (.func fn first cap) w := fun _ _ _ _ => rfl
  have m1 : ((S : Int) != (S : Int)) = false := by simp
  have ra10 := hLa.r10
  have rb10 := hLb.r10
  have s2' := hLa.s2
  have s4 := hLa.s4
  have TBa := hide' (hTa.blk (by have := hTa.len; have := hLa.pos; omega))
  obtain ⟨K, hK⟩ : ∃ K, Ra + Rb = K := ⟨_, rfl⟩
  have HKe := hide' hK
  have q1 : (Ra : Int) + (Rb : Int) = (K : Int) := by omega
  have HZ := hide' (show S ^ (2 * K + 1) ≤ 4096 by rw [← hK]; exact hsz)
  have k10 : K ≤ 10 := pow_small s2' (by rw [← hK]; exact hsz)
  obtain ⟨FF, hFF⟩ : ∃ FF : List Int → Int, (fun ds => (applyL S Rb Tb (applyL S Ra Ta ds)).getD 0 0) = FF := ⟨_, rfl⟩
  have FH := hide' hFF
  rw [hK, hFF]
  clear hsz hK hFF
  have ATa := hide' (hTa.below BB.out)
  have ATb := hide' (hTb.below BB.out)
  have HLa := hide' hLa
  have HLb := hide' hLb
  clear hTa hTb hLb hLa
  obtain ⟨x0, x1, x2, x3, x4, x5, x6⟩ := XA.out
  obtain ⟨y0, y1, y2, y3, y4, y5, y6⟩ := XB.out
  go_enter Try.func12, Try.ntmps12
  go_wp2_with fail
  refine (checkRule_line S Ra Ta ta na ca _ HLa.out ATa.out).mono ?_
  rintro e w2 ⟨rfl, b2⟩
  have s2 := b2.size
  have B2 := hide' (BB.out.trans (b2.mono BB.out.size))
  have Z2 := hide' (ZZ.out.next b2)
  have XA2 := hide' (XA.out.next b2)
  have XB2 := hide' (XB.out.next b2)
  have ATa2 := hide' (ATa.out.below b2)
  have ATb2 := hide' (ATb.out.below b2)
  clear x0 x1 x2 x3 x4 x5 x6 y0 y1 y2 y3 y4 y5 y6 b2 hw1
  obtain ⟨x0, x1, x2, x3, x4, x5, x6⟩ := XA2.out
  obtain ⟨y0, y1, y2, y3, y4, y5, y6⟩ := XB2.out
  go_wp2_with fail
  refine (checkRule_line S Rb Tb tb nb cb _ HLb.out ATb2.out).mono ?_
  rintro e w3 ⟨rfl, b3⟩
  have s3 := b3.size
  have B3 := hide' (B2.out.trans (b3.mono B2.out.size))
  have Z3 := hide' (Z2.out.next b3)
  have XA3 := hide' (XA2.out.next b3)
  have XB3 := hide' (XB2.out.next b3)
  have ATa3 := hide' (ATa2.out.below b3)
  have ATb3 := hide' (ATb2.out.below b3)
  clear x0 x1 x2 x3 x4 x5 x6 y0 y1 y2 y3 y4 y5 y6 b3
  obtain ⟨x0, x1, x2, x3, x4, x5, x6⟩ := XA3.out
  obtain ⟨y0, y1, y2, y3, y4, y5, y6⟩ := XB3.out
  have BE := hide' (show Becomes w3 21 (w.heap.size + 1) w.heap.size S (2 * K + 1) FF by
    rw [← FH.out]
    exact fun ds wr g hb hc hl hok hg => compose_clo S Ra Rb Ta Tb ta na ca tb nb cb w.heap.size (w.heap.size + 1) g (2 * K + 1) ds wr HLa.out HLb.out (XA3.out.next hb) (XB3.out.next hb) (ATa3.out.below hb) (ATb3.out.below hb) hc hl (by rw [HKe.out]) hok)
  go_wp2_with fail
  refine (made_c S K (w.heap.size + 1) w.heap.size FF _ (by omega) s4 k10 HZ.out BE.out).mono ?_
  rintro e w4 ⟨g, N, rfl, hN, hg, ce, b4⟩
  have s5 := b4.size
  have B4 := hide' (B3.out.trans (b4.mono B3.out.size))
  have Z4 := hide' (Z3.out.next b4)
  have CE := hide' ce
  have HN := hide' hN
  clear x0 x1 x2 x3 x4 x5 x6 y0 y1 y2 y3 y4 y5 y6 b4 ce hN
  obtain ⟨r0, r1, r2, r3, r4, r5, r6, rf⟩ := Z4.out
  have f0 := rf 0
  have f1 := rf 1
  have f2 := rf 2
  have f3 := rf 3
  have f4 := rf 4
  have f5 := rf 5
  have f6 := rf 6
  clear rf
  go_wp2
  refine bodyPost_ret (v := .tuple #[.agg #[.int .i64 2, .int .i64 0, .int .i64 0, .int .i64 (S : Int), .int .i64 (K : Int), .slice (some ⟨g, 0, none⟩) N N, .string ⟨#[]⟩], .nilIface]) (by simp [results, Try.results12, go_sem, r0, r1, r2, r3, r4, r5, r6]) rfl ?_
  exact ⟨g, N, rfl, by rw [HN.out, madeL_length], by omega, seven_cel CE.out (by omega) _ _ _ _ _ _ _, seven_below B4.out (by omega) _ _ _ _ _ _ _⟩
end Go.Proofs.Ytdhbdkkchobinaa

