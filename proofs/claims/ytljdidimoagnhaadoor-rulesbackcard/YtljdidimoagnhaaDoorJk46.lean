/-
  What the last text of this claim leans on, part 46: LawC, LawQ0, LawQ1.
-/
import Derived.Test.YtljdidimoagnhaaDoorJk44
import Derived.Test.YtljdidimoagnhaaDoorJk45
import Derived.Test.YtljdidimoagnhaaDoorJk27
import Derived.Test.YtljdidimoagnhaaDoorJk33
import Derived.Test.YtljdidimoagnhaaDoorJk40
import Derived.Test.YtljdidimoagnhaaDoorJk41
namespace Go.Proofs.YtljdidimoagnhaaDoor
open Go.RowKit
set_option linter.unusedVariables false

def errV (k : Int) : Value := if k = 0 then .nilIface else .iface 97 (.int .i64 k)
theorem good_radius (o : Out) (h : Good o) (hk : o.kind ≠ 2) : o.radius ≤ 2 := by
  rcases h with h | h | h
  · have := h.2.2.2.1; unfold noLineB at this; simp at this; omega
  · exact absurd h.1 hk
  · have := h.2.2.2; unfold noLineB at this; simp at this; omega

theorem Print_both (o : Out) (a : Option Addr) (n c : Nat) : ∃ (x : ByteArray) (k : Int),
    (∀ w, ArgR w o a n c → PowT w → Calls Tryd.prog 22 #[.agg #[.int .i64 o.kind, .int .i64 o.born, .int .i64 o.stay, .int .i64 o.states, .int .i64 o.radius, .slice a n c, .string o.turns]] w fun e w' => e = .returned (.tuple #[.string x, errV k]) ∧ Below w.heap.size w w') ∧
    (∀ w, ArgR w o a n c → Calls Tryd.prog 23 #[.agg #[.int .i64 o.kind, .int .i64 o.born, .int .i64 o.stay, .int .i64 o.states, .int .i64 o.radius, .slice a n c, .string o.turns]] w fun e w' => e = .returned (.tuple #[.string x, .int .i64 k]) ∧ Below w.heap.size w w') := by
  by_cases hg : Good o
  · by_cases h2 : o.kind = 2
    · have hl : lineP o := by
        rcases hg with h | h | h
        · have := h.1; omega
        · exact h.2.1
        · have := h.1; omega
      by_cases hr : 2 < o.radius
      · exact ⟨⟨#[]⟩, 4, fun w hR _ => Print_full o a n c w hR hg hr, fun w hR => RefPrint_full o a n c w hR hg h2 hr⟩
      · have hr' : o.radius ≤ 2 := by omega
        refine ⟨lineB o, 0, fun w hR hP => Print_line o a n c w hR hP hg h2 hr' hl, fun w hR => ?_⟩
        obtain ⟨p1, p2, p3, p4, p5, p6, p7⟩ := lineP_parts o hl hr'
        have hlen := hR.len
        have hb : ∀ k, k < o.table.length → 0 ≤ o.table.getD k 0 ∧ o.table.getD k 0 < 4 := fun k hk => ⟨(p5 k hk).1, by have := (p5 k hk).2; omega⟩
        cases k5 : (o.states == 2) with
        | false =>
          have H := RefPrint_La o a n c w hR hg h2 p1 p2 p3 hr' k5 (by omega) hb
          unfold lineB
          rw [k5, ← hlen]
          exact H
        | true =>
          cases k6 : (o.radius == 1) with
          | false =>
            have H := RefPrint_Lb o a n c w hR hg h2 p1 p2 p3 hr' k5 k6 (by omega) hb
            unfold lineB
            rw [k5, k6, ← hlen]
            exact H
          | true =>
            have h8 := p7 (by rw [k5, k6]; rfl)
            have H := RefPrint_W o a n c w hR hg h2 (by simpa using k5) (by simpa using k6) (by omega) (fun k hk => ⟨(p5 k hk).1, by have q := (p5 k hk).2; rw [show o.states = 2 by simpa using k5] at q; exact q⟩)
            unfold lineB
            rw [k5, k6, Lib.itoa_nonneg]
            exact H
    · have hr := good_radius o hg h2
      rcases hg with h | h | h
      · have hg : Good o := Or.inl h
        exact ⟨_, 0, fun w hR _ => Print_life o a n c w hR hg h.1 hr h.2.1 h.2.2.1, fun w hR => RefPrint_life o a n c w hR hg h.1 h.2.1 h.2.2.1⟩
      · exact absurd h.1 h2
      · have hg : Good o := Or.inr (Or.inr h)
        have ht : 2 + o.turns.size ≤ maxLen := by have := h.2.1.2.1; unfold maxLen; omega
        exact ⟨_, 0, fun w hR _ => Print_turns o a n c w hR hg h.1 hr ht, fun w hR => RefPrint_turns o a n c w hR hg h.1 ht⟩
  · exact ⟨⟨#[]⟩, 1, fun w hR _ => Print_bad o a n c w hR hg, fun w hR => RefPrint_bad o a n c w hR hg⟩
end Go.Proofs.YtljdidimoagnhaaDoor

namespace Go.Proofs.YtljdidimoagnhaaDoor
open Go.RowKit
set_option linter.unusedVariables false

theorem bytes_empty (t : ByteArray) (h : t.toList.isEmpty = true) : t = ⟨#[]⟩ := by
  rcases Nat.eq_zero_or_pos t.size with q | q
  · apply ByteArray.ext
    exact Array.eq_empty_of_size_eq_zero q
  · rw [not_empty q] at h
    cases h
def aggR (M : Out) (sl : Value) : Value := .agg #[.int .i64 M.kind, .int .i64 M.born, .int .i64 M.stay, .int .i64 M.states, .int .i64 M.radius, sl, .string M.turns]
theorem Mirror_both (o : Out) (a : Option Addr) (n c : Nat) (hg : Good o) : ∃ M : Out, M.table.length ≤ 4096 ∧
    (∀ w, ArgR w o a n c → Calls Tryd.prog 24 #[.agg #[.int .i64 o.kind, .int .i64 o.born, .int .i64 o.stay, .int .i64 o.states, .int .i64 o.radius, .slice a n c, .string o.turns]] w fun e w' => (∃ b cb, e = .returned (.tuple #[aggR M (.slice b M.table.length cb), .nilIface]) ∧ Reads0 w' b M.table) ∧ Below w.heap.size w w') ∧
    (∀ w, ArgR w o a n c → Calls Tryd.prog 25 #[.agg #[.int .i64 o.kind, .int .i64 o.born, .int .i64 o.stay, .int .i64 o.states, .int .i64 o.radius, .slice a n c, .string o.turns]] w fun e w' => (∃ b cb, e = .returned (aggR M (.slice b M.table.length cb)) ∧ Reads0 w' b M.table) ∧ Below w.heap.size w w') := by
  have HG := hg
  rcases hg with h | h | h
  · obtain ⟨h1, h2, h3, h4, h5⟩ := h
    have ht := bytes_empty _ h5
    unfold noLineB at h4
    simp at h4
    refine ⟨⟨1, o.born, o.stay, 0, 0, [], ⟨#[]⟩⟩, by simp, fun w hR => ?_, fun w hR => ?_⟩
    · refine (Mirror_life o a n c w hR HG h1).mono ?_
      rintro e w' ⟨rfl, hb⟩
      exact ⟨⟨none, 0, rfl, Reads0.nil _ _⟩, hb⟩
    · refine (RefMirror_life o a n c w h1).mono ?_
      rintro e w' ⟨rfl, hb⟩
      have hn : n = 0 := by have := hR.len; rw [h4.2] at this; simpa using this
      refine ⟨⟨a, c, ?_, Reads0.nil _ _⟩, hb⟩
      rw [h1, h4.1.1, h4.1.2, ht, hn]
      rfl
  · obtain ⟨h1, h2, h3, h4⟩ := h
    have ht := bytes_empty _ h4
    unfold noLifeB at h3
    simp at h3
    obtain ⟨s, r, q1, q2, q3, q4, q5, q6, q7⟩ := lineP_nat o h2
    refine ⟨⟨2, 0, 0, o.states, o.radius, (List.range o.table.length).map (mirT o), ⟨#[]⟩⟩, by simpa using q7, fun w hR => ?_, fun w hR => ?_⟩
    · refine (Mirror_line o a n c w hR HG h1 h2).mono ?_
      rintro e w' ⟨⟨g, rfl, hg, hc⟩, hb⟩
      have hn := hR.len
      refine ⟨⟨some ⟨g, 0, none⟩, n, ?_, fun k hk => ⟨g, rfl, ?_⟩⟩, hb⟩
      · unfold aggR; simp [hn]
      · simp at hk
        rw [hc k (by omega)]
        simp
    · have hn := hR.len
      have H := RefMirror_line o a n c s r w hR h1 q1 q2 q3 q4 q5 (by omega) (by omega)
      rw [← q1, ← q2] at H
      refine H.mono ?_
      rintro e w' ⟨⟨v, rfl, hT⟩, hb⟩
      obtain ⟨b, cb, rfl, hp⟩ := hT.parts
      rw [hn] at hp ⊢
      refine ⟨⟨b, cb, ?_, hp⟩, hb⟩
      unfold aggR
      rw [h1, h3.1, h3.2, ht]
  · obtain ⟨h1, h2, h3, h4⟩ := h
    unfold noLifeB at h3
    unfold noLineB at h4
    simp at h3 h4
    refine ⟨⟨3, 0, 0, 0, 0, [], ⟨((List.range o.turns.size).map (mirU o.turns)).toArray⟩⟩, by simp, fun w hR => ?_, fun w hR => ?_⟩
    · refine (Mirror_turns o a n c w hR HG h1 h2.2.1).mono ?_
      rintro e w' ⟨rfl, hb⟩
      exact ⟨⟨none, 0, rfl, Reads0.nil _ _⟩, hb⟩
    · refine (RefMirror_turns o a n c w h1 h2).mono ?_
      rintro e w' ⟨rfl, hb⟩
      have hn : n = 0 := by have := hR.len; rw [h4.2] at this; simpa using this
      refine ⟨⟨a, c, ?_, Reads0.nil _ _⟩, hb⟩
      rw [h1, h3.1, h3.2, h4.1.1, h4.1.2, hn]
      rfl
end Go.Proofs.YtljdidimoagnhaaDoor

namespace Go.Proofs.YtljdidimoagnhaaDoor
open Go.RowKit
set_option linter.unusedVariables false

theorem error_V (k : Int) (w : World) (hg : Handle w) :
    Calls Tryd.prog 19 #[errV k, .int .i64 k] w fun e w' => e = .returned (.bool true) ∧ Below w.heap.size w w' := by
  unfold errV
  by_cases h : k = 0
  · rw [if_pos h]
    refine (error_nil k w).mono ?_
    rintro e w' ⟨rfl, rfl⟩
    exact ⟨by rw [h]; rfl, Below.refl _ _⟩
  · rw [if_neg h]
    refine (error_errno k k w hg).mono ?_
    rintro e w' ⟨rfl, hb⟩
    exact ⟨by simp, hb⟩
/-- The law's argument stands in its own block, and nothing older has turned. -/
structure LawR (w w' : World) (o : Out) (a : Option Addr) (n c : Nat) : Prop where
  arg : Seven w' w.heap.size (.int .i64 o.kind) (.int .i64 o.born) (.int .i64 o.stay) (.int .i64 o.states) (.int .i64 o.radius) (.slice a n c) (.string o.turns)
  size : w.heap.size + 1 ≤ w'.heap.size
  below : Below w.heap.size w w'
theorem LawR.next {w w1 w2 : World} {o : Out} {a : Option Addr} {n c : Nat} (h : LawR w w1 o a n c) (hb : Below w1.heap.size w1 w2) : LawR w w2 o a n c :=
  ⟨h.arg.block (hb.block _ (by have := h.size; omega)), Nat.le_trans h.size hb.size, h.below.trans (hb.mono h.below.size)⟩
theorem LawR.start (w : World) (o : Out) (a : Option Addr) (n c : Nat) : LawR w (w.alloc (.cells #[.int .i64 o.kind, .int .i64 o.born, .int .i64 o.stay, .int .i64 o.states, .int .i64 o.radius, .slice a n c, .string o.turns] 24)) o a n c :=
  ⟨by constructor <;> exact cell_new_at _ _ _ _, by simp, (Below.refl _ _).alloc (Nat.le_refl _) _⟩

set_option maxRecDepth 100000 in
set_option maxHeartbeats 3200000 in
theorem law_prints_good (o : Out) (a : Option Addr) (n c : Nat) (w : World) (hR : ArgR w o a n c) (hP : PowT w) (hH : Handle w) (hg : Good o) :
    Calls Tryd.prog 4 #[.agg #[.int .i64 o.kind, .int .i64 o.born, .int .i64 o.stay, .int .i64 o.states, .int .i64 o.radius, .slice a n c, .string o.turns]] w fun e w' => e = .returned (.bool true) ∧ Below w.heap.size w w' := by
  obtain ⟨x, k, p1, p2⟩ := Print_both o a n c
  obtain ⟨M, ml, m1, m2⟩ := Mirror_both o a n c hg
  have P1 := hide' p1
  have P2 := hide' p2
  have M1 := hide' m1
  have M2 := hide' m2
  have HR := hide' hR
  have HP := hide' hP
  have HH := hide' hH
  have HG := hide' hg
  have L0 := hide' (LawR.start w o a n c)
  clear p1 p2 m1 m2 hR hP hH hg
  go_enter Tryd.func4, Tryd.ntmps4
  go_wp2_with fail
  refine (Fault_any o a n c _ (HR.out.below L0.out.below)).mono ?_
  rintro e w1 ⟨he, b1⟩
  rcases he with ⟨rfl, g⟩ | ⟨rfl, g⟩
  case inr => exact absurd HG.out g
  clear g
  have L1 := hide' (L0.out.next b1)
  obtain ⟨x0, x1, x2, x3, x4, x5, x6⟩ := L1.out.arg
  clear b1
  go_wp2_with fail
  refine (Check_any o a n c _ (HR.out.below L1.out.below)).mono ?_
  rintro e w2 ⟨he, b2⟩
  rcases he with ⟨rfl, g⟩ | ⟨rfl, g⟩
  case inr => exact absurd HG.out g
  clear g x0 x1 x2 x3 x4 x5 x6
  have L2 := hide' (L1.out.next b2)
  obtain ⟨x0, x1, x2, x3, x4, x5, x6⟩ := L2.out.arg
  clear b2
  go_wp2_with fail
  refine (error_nil 0 _).mono ?_
  rintro e w3 ⟨rfl, rfl⟩
  go_wp2_with fail
  refine (P1.out _ (HR.out.below L2.out.below) (HP.out.below L2.out.below)).mono ?_
  rintro e w3 ⟨rfl, b3⟩
  clear x0 x1 x2 x3 x4 x5 x6
  have L3 := hide' (L2.out.next b3)
  obtain ⟨x0, x1, x2, x3, x4, x5, x6⟩ := L3.out.arg
  clear b3
  go_wp2_with fail
  refine (P2.out _ (HR.out.below L3.out.below)).mono ?_
  rintro e w4 ⟨rfl, b4⟩
  clear x0 x1 x2 x3 x4 x5 x6
  have L4 := hide' (L3.out.next b4)
  obtain ⟨x0, x1, x2, x3, x4, x5, x6⟩ := L4.out.arg
  clear b4
  go_wp2_with fail
  refine (error_V k _ (HH.out.below L4.out.below)).mono ?_
  rintro e w5 ⟨rfl, b5⟩
  clear x0 x1 x2 x3 x4 x5 x6
  have L5 := hide' (L4.out.next b5)
  obtain ⟨x0, x1, x2, x3, x4, x5, x6⟩ := L5.out.arg
  clear b5
  go_wp2_with fail
  refine (M1.out _ (HR.out.below L5.out.below)).mono ?_
  rintro e w6 ⟨⟨q, cq, rfl, rd⟩, b6⟩
  unfold aggR
  have RD := hide' rd
  clear x0 x1 x2 x3 x4 x5 x6 rd
  have L6 := hide' (L5.out.next b6)
  obtain ⟨x0, x1, x2, x3, x4, x5, x6⟩ := L6.out.arg
  clear b6
  go_wp2_with fail
  refine (error_nil 0 _).mono ?_
  rintro e w7 ⟨rfl, hw7⟩
  have B7 := hide' (show Below w6.heap.size w6 w7 by rw [hw7]; exact (Below.refl _ _).alloc (Nat.le_refl _) _)
  have S7 := hide' (show Seven w7 w6.heap.size (.int .i64 M.kind) (.int .i64 M.born) (.int .i64 M.stay) (.int .i64 M.states) (.int .i64 M.radius) (.slice q M.table.length cq) (.string M.turns) by rw [hw7]; constructor <;> exact cell_new_at _ _ _ _)
  have z7 : w7.heap.size = w6.heap.size + 1 := by rw [hw7]; simp
  clear hw7 x0 x1 x2 x3 x4 x5 x6
  have L7 := hide' (L6.out.next B7.out)
  obtain ⟨x0, x1, x2, x3, x4, x5, x6⟩ := L7.out.arg
  go_wp2_with fail
  refine (M2.out _ (HR.out.below L7.out.below)).mono ?_
  rintro e w8 ⟨⟨q2, cq2, rfl, rd2⟩, b8⟩
  unfold aggR
  have R2 := hide' rd2
  have R1 := hide' ((RD.out.below B7.out).below b8)
  have S8 := hide' (S7.out.block (b8.block w6.heap.size (by omega)))
  have L8 := hide' (L7.out.next b8)
  have z8 := b8.size
  clear x0 x1 x2 x3 x4 x5 x6 rd2 b8
  have SA := hide' (fun ob => S8.out.block (w' := w8.alloc ob) (Below.heap_alloc _ _ _ (by omega)))
  have u0 := fun ob => (SA.out ob).c0
  have u1 := fun ob => (SA.out ob).c1
  have u2 := fun ob => (SA.out ob).c2
  have u3 := fun ob => (SA.out ob).c3
  have u4 := fun ob => (SA.out ob).c4
  have u5 := fun ob => (SA.out ob).c5
  have u6 := fun ob => (SA.out ob).c6
  go_wp2_with fail
  refine (Same_any M q q2 M.table.length cq cq2 _ rfl (by unfold maxLen; omega) (R1.out.below ((Below.refl _ _).alloc (Nat.le_refl _) _)) (R2.out.below ((Below.refl _ _).alloc (Nat.le_refl _) _))).mono ?_
  rintro e w9 ⟨rfl, b9⟩
  have B9 := hide' (L8.out.below.trans ((((Below.refl _ _).alloc (Nat.le_refl _) _).trans (b9.mono (by simp))).mono L8.out.below.size))
  clear b9 u0 u1 u2 u3 u4 u5 u6
  go_wp2
  go_ret
  exact ⟨rfl, B9.out⟩
end Go.Proofs.YtljdidimoagnhaaDoor

namespace Go.Proofs.YtljdidimoagnhaaDoor
open Go.RowKit
set_option linter.unusedVariables false

set_option maxRecDepth 100000 in
set_option maxHeartbeats 3200000 in
theorem law_prints_bad (o : Out) (a : Option Addr) (n c : Nat) (w : World) (hR : ArgR w o a n c) (hP : PowT w) (hH : Handle w) (hg : ¬ Good o) :
    Calls Tryd.prog 4 #[.agg #[.int .i64 o.kind, .int .i64 o.born, .int .i64 o.stay, .int .i64 o.states, .int .i64 o.radius, .slice a n c, .string o.turns]] w fun e w' => e = .returned (.bool true) ∧ Below w.heap.size w w' := by
  obtain ⟨x, k, p1, p2⟩ := Print_both o a n c
  have P1 := hide' p1
  have P2 := hide' p2
  have HR := hide' hR
  have HP := hide' hP
  have HH := hide' hH
  have HG := hide' hg
  have L0 := hide' (LawR.start w o a n c)
  clear p1 p2 hR hP hH hg
  go_enter Tryd.func4, Tryd.ntmps4
  go_wp2_with fail
  refine (Fault_any o a n c _ (HR.out.below L0.out.below)).mono ?_
  rintro e w1 ⟨he, b1⟩
  rcases he with ⟨rfl, g⟩ | ⟨rfl, g⟩
  case inl => exact absurd g HG.out
  clear g
  have L1 := hide' (L0.out.next b1)
  obtain ⟨x0, x1, x2, x3, x4, x5, x6⟩ := L1.out.arg
  clear b1
  go_wp2_with fail
  refine (Check_any o a n c _ (HR.out.below L1.out.below)).mono ?_
  rintro e w2 ⟨he, b2⟩
  rcases he with ⟨rfl, g⟩ | ⟨rfl, g⟩
  case inl => exact absurd g HG.out
  clear g x0 x1 x2 x3 x4 x5 x6
  have L2 := hide' (L1.out.next b2)
  obtain ⟨x0, x1, x2, x3, x4, x5, x6⟩ := L2.out.arg
  clear b2
  go_wp2_with fail
  refine (error_errno 1 1 _ (HH.out.below L2.out.below)).mono ?_
  rintro e w3 ⟨rfl, b3⟩
  clear x0 x1 x2 x3 x4 x5 x6
  have L3 := hide' (L2.out.next b3)
  obtain ⟨x0, x1, x2, x3, x4, x5, x6⟩ := L3.out.arg
  clear b3
  go_wp2_with fail
  refine (P1.out _ (HR.out.below L3.out.below) (HP.out.below L3.out.below)).mono ?_
  rintro e w4 ⟨rfl, b4⟩
  clear x0 x1 x2 x3 x4 x5 x6
  have L4 := hide' (L3.out.next b4)
  obtain ⟨x0, x1, x2, x3, x4, x5, x6⟩ := L4.out.arg
  clear b4
  go_wp2_with fail
  refine (P2.out _ (HR.out.below L4.out.below)).mono ?_
  rintro e w5 ⟨rfl, b5⟩
  clear x0 x1 x2 x3 x4 x5 x6
  have L5 := hide' (L4.out.next b5)
  obtain ⟨x0, x1, x2, x3, x4, x5, x6⟩ := L5.out.arg
  clear b5
  go_wp2_with fail
  refine (error_V k _ (HH.out.below L5.out.below)).mono ?_
  rintro e w6 ⟨rfl, b6⟩
  clear x0 x1 x2 x3 x4 x5 x6
  have L6 := hide' (L5.out.next b6)
  obtain ⟨x0, x1, x2, x3, x4, x5, x6⟩ := L6.out.arg
  clear b6
  go_wp2_with fail
  refine (Mirror_bad o a n c _ (HR.out.below L6.out.below) HG.out).mono ?_
  rintro e w7 ⟨rfl, b7⟩
  unfold zeroCells
  clear x0 x1 x2 x3 x4 x5 x6
  have L7 := hide' (L6.out.next b7)
  obtain ⟨x0, x1, x2, x3, x4, x5, x6⟩ := L7.out.arg
  clear b7
  go_wp2_with fail
  refine (error_errno 1 1 _ (HH.out.below (L7.out.below.trans (((Below.refl _ _).alloc (Nat.le_refl _) _).mono L7.out.below.size)))).mono ?_
  rintro e w8 ⟨rfl, b8⟩
  have y0 := b8.cell (p := ⟨w7.heap.size, 0, none⟩) (by simp)
  have y1 := b8.cell (p := ⟨w7.heap.size, 1, none⟩) (by simp)
  have y2 := b8.cell (p := ⟨w7.heap.size, 2, none⟩) (by simp)
  have y3 := b8.cell (p := ⟨w7.heap.size, 3, none⟩) (by simp)
  have y4 := b8.cell (p := ⟨w7.heap.size, 4, none⟩) (by simp)
  have y5 := b8.cell (p := ⟨w7.heap.size, 5, none⟩) (by simp)
  have y6 := b8.cell (p := ⟨w7.heap.size, 6, none⟩) (by simp)
  simp at y0 y1 y2 y3 y4 y5 y6
  have B8 := hide' (L7.out.below.trans ((((Below.refl _ _).alloc (Nat.le_refl _) _).trans (b8.mono (by simp))).mono L7.out.below.size))
  clear b8 x0 x1 x2 x3 x4 x5 x6
  go_wp2_with fail
  refine (Same_any noRule none none 0 0 0 _ rfl (by simp [maxLen]) (Reads0.nil _ _) (Reads0.nil _ _)).mono ?_
  rintro e w9 ⟨rfl, b9⟩
  have B9 := hide' (B8.out.trans (b9.mono B8.out.size))
  clear b9
  go_wp2
  go_ret
  exact ⟨rfl, B9.out⟩

/-- At every rule that came in the law returns true. -/
theorem law_prints (o : Out) (a : Option Addr) (n c : Nat) (w : World) (hR : ArgR w o a n c) (hP : PowT w) (hH : Handle w) :
    Calls Tryd.prog 4 #[.agg #[.int .i64 o.kind, .int .i64 o.born, .int .i64 o.stay, .int .i64 o.states, .int .i64 o.radius, .slice a n c, .string o.turns]] w fun e w' => e = .returned (.bool true) ∧ Below w.heap.size w w' := by
  by_cases hg : Good o
  · exact law_prints_good o a n c w hR hP hH hg
  · exact law_prints_bad o a n c w hR hP hH hg
end Go.Proofs.YtljdidimoagnhaaDoor

namespace Go.Proofs.YtljdidimoagnhaaDoor
open Go.RowKit
set_option linter.unusedVariables false

set_option maxHeartbeats 800000 in
theorem Same_arg (o : Out) (a b : Option Addr) (n ca m cb : Nat) (w : World) (ha : ArgP w o.table a n ca) (hb : ArgP w o.table b m cb) :
    Calls Tryd.prog 18 #[.agg #[.int .i64 o.kind, .int .i64 o.born, .int .i64 o.stay, .int .i64 o.states, .int .i64 o.radius, .slice a n ca, .string o.turns], .agg #[.int .i64 o.kind, .int .i64 o.born, .int .i64 o.stay, .int .i64 o.states, .int .i64 o.radius, .slice b m cb, .string o.turns]] w fun e w' => e = .returned (.bool true) ∧ Below w.heap.size w w' := by
  have B := hide' (((Below.refl w.heap.size w).alloc (Nat.le_refl _) (.cells #[.int .i64 o.kind, .int .i64 o.born, .int .i64 o.stay, .int .i64 o.states, .int .i64 o.radius, .slice a n ca, .string o.turns] 24)).alloc (by simp) (.cells #[.int .i64 o.kind, .int .i64 o.born, .int .i64 o.stay, .int .i64 o.states, .int .i64 o.radius, .slice b m cb, .string o.turns] 24))
  have HI := hide' (Ints_both o.table a b n ca m cb _ (ha.below B.out) (hb.below B.out))
  clear ha hb
  go_enter Tryd.func18, Tryd.ntmps18
  go_wp2_with fail
  refine HI.out.mono ?_
  rintro e w1 ⟨rfl, b1⟩
  have B1 := hide' (B.out.trans (b1.mono B.out.size))
  clear b1
  go_wp2
  go_ret
  exact ⟨rfl, B1.out⟩
/-- A rule that is answered, with no error. -/
def RuleAns (M : Out) (w : World) (e : Ending) (w' : World) : Prop :=
  ∃ a c, e = .returned (.tuple #[.agg #[.int .i64 M.kind, .int .i64 M.born, .int .i64 M.stay, .int .i64 M.states, .int .i64 M.radius, .slice a M.table.length c, .string M.turns], .nilIface]) ∧ ArgP w' M.table a M.table.length c ∧ Below w.heap.size w w'
def TextAns (s : ByteArray) (w : World) (e : Ending) (w' : World) : Prop := e = .returned (.tuple #[.string s, .nilIface]) ∧ Below w.heap.size w w'
def TextErr (f : Nat) (w : World) (e : Ending) (w' : World) : Prop := e = .returned (.tuple #[.string ⟨#[]⟩, .iface 97 (.int .i64 (f : Int))]) ∧ Below w.heap.size w w'
def FaultNo (w : World) (e : Ending) (w' : World) : Prop := e = .returned (.int .i64 0) ∧ Below w.heap.size w w'
theorem fact_txt : txt ([66] ++ (dl 8 9 ++ ([47, 83] ++ dl 12 9))) = ⟨#[66, 51, 47, 83, 50, 51]⟩ := by decide +kernel
theorem fact_parse : parseS ⟨#[66, 51, 47, 83, 50, 51]⟩ = .inl ⟨1, 8, 12, 0, 0, [], ⟨#[]⟩⟩ := by
  rw [← fact_txt]
  exact life_back 8 12 (by omega) (by omega)
end Go.Proofs.YtljdidimoagnhaaDoor

namespace Go.Proofs.YtljdidimoagnhaaDoor
open Go.RowKit
set_option linter.unusedVariables false

set_option maxRecDepth 100000 in
set_option maxHeartbeats 6400000 in
theorem law_rback_err_bad (o : Out) (ra : Option Addr) (rc : Nat) (ws : List Int) (wa : Option Addr) (wc : Nat) (w : World) (hR : ArgR w o ra o.table.length rc) (hW : ArgP w ws wa ws.length wc) (f : Nat) (hP : ∀ wr, Below w.heap.size w wr → Calls Tryd.prog 22 #[.agg #[.int .i64 o.kind, .int .i64 o.born, .int .i64 o.stay, .int .i64 o.states, .int .i64 o.radius, .slice ra o.table.length rc, .string o.turns]] wr (TextErr f wr)) (hM : ∀ wr, Below w.heap.size w wr → Calls Tryd.prog 24 #[.agg #[.int .i64 o.kind, .int .i64 o.born, .int .i64 o.stay, .int .i64 o.states, .int .i64 o.radius, .slice ra o.table.length rc, .string o.turns]] wr (RuleErr 1 wr)) :
    Calls Tryd.prog 5 #[.agg #[.int .i64 o.kind, .int .i64 o.born, .int .i64 o.stay, .int .i64 o.states, .int .i64 o.radius, .slice ra o.table.length rc, .string o.turns], .slice wa ws.length wc] w fun e w' => e = .returned (.bool true) ∧ Below w.heap.size w w' := by
  obtain ⟨w1, hw1⟩ : ∃ w1, w.alloc (.cells #[.int .i64 o.kind, .int .i64 o.born, .int .i64 o.stay, .int .i64 o.states, .int .i64 o.radius, .slice ra o.table.length rc, .string o.turns] 24) = w1 := ⟨_, rfl⟩
  have BB := hide' (show Below w.heap.size w w1 by rw [← hw1]; exact (Below.refl _ _).alloc (Nat.le_refl _) _)
  have RX := hide' (show RBo w.heap.size o (.slice ra o.table.length rc) w1 by rw [← hw1]; exact RBo.new w o _ _)
  have AR := hide' ((show ArgP w o.table ra o.table.length rc from ⟨hR.len, hR.max, hR.cells⟩).below BB.out)
  have OM := hide' hR.max
  have AW := hide' (hW.below BB.out)
  have HP := hide' (fun wr (h : Below w1.heap.size w1 wr) => hP wr (BB.out.trans (h.mono BB.out.size)))
  clear hP
  have HM := hide' (fun wr (h : Below w1.heap.size w1 wr) => hM wr (BB.out.trans (h.mono BB.out.size)))
  clear hM
  clear hR hW
  have C1 := hide' (Below.refl w1.heap.size w1)
  obtain ⟨x0, x1, x2, x3, x4, x5, x6⟩ := RX.out.next C1.out
  go_enter Tryd.func5, Tryd.ntmps5
  go_wp2_with fail
  refine (parse_ok _ _ (by decide) _ fact_parse).mono ?_
  unfold ParsedOk Out.val
  rintro e w2 ⟨v2, rfl, t2, -, b⟩
  clear x0 x1 x2 x3 x4 x5 x6
  clear hw1
  have C2 := hide' (C1.out.trans (b.mono C1.out.size))
  obtain ⟨a2, c2, hv2, -⟩ := Tab.argL (xs := []) t2 (by decide)
  obtain rfl : v2 = .slice a2 0 c2 := hv2
  clear t2
  clear b C1
  have C2' := hide' (C2.out.alloc C2.out.size (.cells #[.int .i64 1, .int .i64 8, .int .i64 12, .int .i64 0, .int .i64 0, .slice a2 0 c2, .string ⟨#[]⟩] 24))
  clear C2
  have C2 := C2'
  clear C2'
  have FB := hide' (S7.new w2 (.int .i64 1) (.int .i64 8) (.int .i64 12) (.int .i64 0) (.int .i64 0) (.slice a2 0 c2) (.string ⟨#[]⟩) 24)
  obtain ⟨x0, x1, x2, x3, x4, x5, x6⟩ := RX.out.next C2.out
  obtain ⟨p0, p1, p2, p3, p4, p5, p6, -⟩ := FB.out
  go_wp2_with fail
  refine (HP.out _ C2.out).mono ?_
  unfold TextErr
  rintro e w3 ⟨rfl, b⟩
  clear p0 p1 p2 p3 p4 p5 p6
  clear x0 x1 x2 x3 x4 x5 x6
  clear FB
  clear HP
  have C3 := hide' (C2.out.trans (b.mono C2.out.size))
  clear b C2
  obtain ⟨x0, x1, x2, x3, x4, x5, x6⟩ := RX.out.next C3.out
  go_wp2_with fail
  refine (HM.out _ C3.out).mono ?_
  unfold RuleErr
  rintro e w4 ⟨rfl, b⟩
  clear x0 x1 x2 x3 x4 x5 x6
  clear HM
  have C4 := hide' (C3.out.trans (b.mono C3.out.size))
  clear b C3
  have C4' := hide' (C4.out.alloc C4.out.size (.cells #[.int .i64 0, .int .i64 0, .int .i64 0, .int .i64 0, .int .i64 0, .slice none 0 0, .string ⟨#[]⟩] 24))
  clear C4
  have C4 := C4'
  clear C4'
  obtain ⟨x0, x1, x2, x3, x4, x5, x6⟩ := RX.out.next C4.out
  go_wp2
  go_ret
  exact ⟨rfl, BB.out.trans (C4.out.mono BB.out.size)⟩
end Go.Proofs.YtljdidimoagnhaaDoor

