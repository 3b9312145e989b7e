/-
  What the last text of this claim leans on, part 10: Li6, Li8, Li9, Lj1.
-/
import Derived.Test.YtdhbdkkchobinaaDoorJd9
import Derived.Test.YtdhbdkkchobinaaDoorJd3
import Derived.Test.YtdhbdkkchobinaaDoorJd2
namespace Go.Proofs.YtdhbdkkchobinaaDoor
open Go.RowKit
set_option linter.unusedVariables false

theorem not_cellsOk {S : Nat} {ws : List Int} {k : Nat} (hk : k < ws.length) (h : ws.getD k 0 < 0 ∨ (S : Int) ≤ ws.getD k 0) : ¬ cellsOk S ws := fun q => by
  have := cellsOk_at q hk
  omega
theorem is_cellsOk {S : Nat} {ws : List Int} (h : ∀ j, j < ws.length → 0 ≤ ws.getD j 0 ∧ ws.getD j 0 < (S : Int)) : cellsOk S ws := fun x hx => by
  obtain ⟨k, hk, rfl⟩ := List.getElem_of_mem hx
  have := h k hk
  simpa [List.getD, hk] using this

set_option maxHeartbeats 1600000 in
theorem lineCheck_line (S R : Nat) (T : List Int) (a : Option Addr) (n c : Nat) (ws : List Int) (wa : Option Addr) (wn wc : Nat) (w : World) (hL : LineOk S R T) (hT : ArgP w T a n c) (hW : ArgP w ws wa wn wc) :
    Calls Tryd.prog 122 #[.agg #[.int .i64 2, .int .i64 0, .int .i64 0, .int .i64 (S : Int), .int .i64 (R : Int), .slice a n c, .string ⟨#[]⟩], .slice wa wn wc] w fun e w' => e = .returned (errOf (wordE S ws)) ∧ Below w.heap.size w w' := by
  obtain ⟨w1, hw1⟩ : ∃ w1, w.alloc (.cells #[.int .i64 2, .int .i64 0, .int .i64 0, .int .i64 (S : Int), .int .i64 (R : Int), .slice a n c, .string ⟨#[]⟩] 24) = w1 := ⟨_, rfl⟩
  have RX := hide' (show RB w.heap.size S R (.slice a n c) w1 by rw [← hw1]; exact RB.new w S R _ _)
  have AT := hide' (show ArgP w1 T a n c by rw [← hw1]; exact hT.alloc _)
  have AW := hide' (show ArgP w1 ws wa wn wc by rw [← hw1]; exact hW.alloc _)
  have BB := hide' (show Below w.heap.size w w1 by rw [← hw1]; exact (Below.refl _ _).alloc (Nat.le_refl _) _)
  have HL := hide' hL
  have WL := hide' hW.len
  have hmx := hW.max
  have s4 := hL.s4
  unfold maxLen at hmx
  clear hT hL hW
  obtain ⟨x0, x1, x2, x3, x4, x5, x6⟩ := RX.out
  go_enter Tryd.func122, Tryd.ntmps122
  go_wp2_with fail
  refine (checkRule_line S R T a n c _ HL.out AT.out).mono ?_
  rintro e w2 ⟨rfl, b2⟩
  have B2 := hide' (BB.out.trans (b2.mono BB.out.size))
  have AW2 := hide' (AW.out.below b2)
  clear x0 x1 x2 x3 x4 x5 x6 hw1
  obtain ⟨x0, x1, x2, x3, x4, x5, x6⟩ := RX.out.next b2
  clear b2
  by_cases hf : (1000 : Int) < (wn : Int)
  · have E := hide' (wordE_full (S := S) (ws := ws) (by have := WL.out; omega))
    go_wp2
    go_ret
    exact ⟨by rw [E.out]; rfl, B2.out⟩
  · have hle : ¬ 1000 < ws.length := by have := WL.out; omega
    have EO := hide' (wordE_ok (S := S) hle)
    have EB := hide' (wordE_bad (S := S) hle)
    clear hle
    go_wp2
    go_loop [19] (fun kv => ∃ k : Nat, kv = .int .i64 (k : Int) ∧ k ≤ wn ∧ Hid (∀ j, j < k → 0 ≤ ws.getD j 0 ∧ ws.getD j 0 < (S : Int))) (fun kv => wn - (intOf kv).toNat)
    case atStart => exact ⟨0, rfl, by omega, fun j hj => by omega⟩
    case round =>
      obtain ⟨k, rfl, hk, HK⟩ := hrel
      by_cases d : (k : Int) < (wn : Int)
      · obtain ⟨g, off, rfl, hc⟩ := AW2.out.at (k := k) (by omega)
        obtain ⟨x, hx⟩ : ∃ x, ws.getD k 0 = x := ⟨_, rfl⟩
        rw [hx] at hc
        have HX := hide' hx
        clear hx
        by_cases d1 : x < 0
        · have F := hide' (EB.out (not_cellsOk (k := k) (by have := WL.out; omega) (by rw [HX.out]; exact Or.inl d1)))
          go_wp2
          go_ret
          exact ⟨by rw [F.out]; rfl, B2.out⟩
        · skip
          by_cases d2 : (S : Int) ≤ x
          · have F := hide' (EB.out (not_cellsOk (k := k) (by have := WL.out; omega) (by rw [HX.out]; exact Or.inr d2)))
            go_wp2
            go_ret
            exact ⟨by rw [F.out]; rfl, B2.out⟩
          · go_wp2
            refine ⟨⟨k + 1, by go_num, by omega, fun j hj => ?_⟩, by simp [intOf]; omega⟩
            by_cases ej : j = k
            · subst ej; rw [HX.out]; omega
            · exact HK.out j (by omega)
      · have F := hide' (EO.out (is_cellsOk fun j hj => HK.out j (by have := WL.out; omega)))
        go_wp2
        go_ret
        exact ⟨by rw [F.out]; rfl, B2.out⟩

set_option maxHeartbeats 1600000 in
theorem lineFault_line (S R : Nat) (T : List Int) (a : Option Addr) (n c : Nat) (ws : List Int) (wa : Option Addr) (wn wc : Nat) (w : World) (hL : LineOk S R T) (hT : ArgP w T a n c) (hW : ArgP w ws wa wn wc) :
    Calls Tryd.prog 31 #[.agg #[.int .i64 2, .int .i64 0, .int .i64 0, .int .i64 (S : Int), .int .i64 (R : Int), .slice a n c, .string ⟨#[]⟩], .slice wa wn wc] w fun e w' => e = .returned (.int .i64 ((wordE S ws : Nat) : Int)) ∧ Below w.heap.size w w' := by
  obtain ⟨w1, hw1⟩ : ∃ w1, w.alloc (.cells #[.int .i64 2, .int .i64 0, .int .i64 0, .int .i64 (S : Int), .int .i64 (R : Int), .slice a n c, .string ⟨#[]⟩] 24) = w1 := ⟨_, rfl⟩
  have RX := hide' (show RB w.heap.size S R (.slice a n c) w1 by rw [← hw1]; exact RB.new w S R _ _)
  have AT := hide' (show ArgP w1 T a n c by rw [← hw1]; exact hT.alloc _)
  have AW := hide' (show ArgP w1 ws wa wn wc by rw [← hw1]; exact hW.alloc _)
  have BB := hide' (show Below w.heap.size w w1 by rw [← hw1]; exact (Below.refl _ _).alloc (Nat.le_refl _) _)
  have HL := hide' hL
  have WL := hide' hW.len
  have hmx := hW.max
  have s4 := hL.s4
  unfold maxLen at hmx
  clear hT hL hW
  obtain ⟨x0, x1, x2, x3, x4, x5, x6⟩ := RX.out
  go_enter Tryd.func31, Tryd.ntmps31
  go_wp2_with fail
  refine (refFault_line S R T a n c _ HL.out AT.out).mono ?_
  rintro e w2 ⟨rfl, b2⟩
  have B2 := hide' (BB.out.trans (b2.mono BB.out.size))
  have AW2 := hide' (AW.out.below b2)
  clear x0 x1 x2 x3 x4 x5 x6 hw1
  obtain ⟨x0, x1, x2, x3, x4, x5, x6⟩ := RX.out.next b2
  clear b2
  by_cases hf : (1000 : Int) < (wn : Int)
  · have E := hide' (wordE_full (S := S) (ws := ws) (by have := WL.out; omega))
    go_wp2
    go_ret
    exact ⟨by rw [E.out]; rfl, B2.out⟩
  · have hle : ¬ 1000 < ws.length := by have := WL.out; omega
    have EO := hide' (wordE_ok (S := S) hle)
    have EB := hide' (wordE_bad (S := S) hle)
    clear hle
    go_wp2
    go_loopw [6] (fun kv wr => ∃ k m : Nat, kv = .int .i64 (k : Int) ∧ k ≤ wn ∧ wr = w2.drewN m ∧ Hid (∀ j, j < k → 0 ≤ ws.getD j 0 ∧ ws.getD j 0 < (S : Int))) (fun kv _ => wn - (intOf kv).toNat)
    case atStart => exact ⟨0, 0, rfl, by omega, rfl, fun j hj => by omega⟩
    case round =>
      obtain ⟨k, m, rfl, hk, rfl, HK⟩ := hrel
      by_cases d : (k : Int) < (wn : Int)
      · obtain ⟨g, off, rfl, hc⟩ := AW2.out.at (k := k) (by omega)
        obtain ⟨x, hx⟩ : ∃ x, ws.getD k 0 = x := ⟨_, rfl⟩
        rw [hx] at hc
        have HX := hide' hx
        clear hx
        by_cases d1 : x < 0
        · have F := hide' (EB.out (not_cellsOk (k := k) (by have := WL.out; omega) (by rw [HX.out]; exact Or.inl d1)))
          have d1b : decide (x < 0) = true := by simp; exact d1
          go_wp2
          go_quiet (fail)
          go_wp2
          go_ret
          exact ⟨by rw [F.out]; rfl, below_drewN (below_drewN B2.out _) _⟩
        · have d1b : decide (x < 0) = false := by simp; omega
          by_cases d2 : (S : Int) ≤ x
          · have F := hide' (EB.out (not_cellsOk (k := k) (by have := WL.out; omega) (by rw [HX.out]; exact Or.inr d2)))
            go_wp2
            go_quiet (fail)
            go_wp2
            go_ret
            exact ⟨by rw [F.out]; rfl, below_drewN (below_drewN B2.out _) _⟩
          · go_wp2
            go_quiet (fail)
            go_wp2
            refine ⟨⟨k + 1, m + nq, by go_num, by omega, by simp, fun j hj => ?_⟩, by simp [intOf]; omega⟩
            by_cases ej : j = k
            · subst ej; rw [HX.out]; omega
            · exact HK.out j (by omega)
      · have F := hide' (EO.out (is_cellsOk fun j hj => HK.out j (by have := WL.out; omega)))
        go_wp2
        go_ret
        exact ⟨by rw [F.out]; rfl, below_drewN B2.out _⟩
end Go.Proofs.YtdhbdkkchobinaaDoor

namespace Go.Proofs.YtdhbdkkchobinaaDoor
open Go.RowKit
set_option linter.unusedVariables false

theorem ST.below {w w' : World} {pr pw gw S R N : Nat} {T : List Int} {ta : Option Addr} {tn tc : Nat} {ws : List Int} (h : ST w pr pw gw S R N T ta tn tc ws) (hb : Below w.heap.size w w') : ST w' pr pw gw S R N T ta tn tc ws :=
  ⟨h.rb.next hb, (World.cell?_of_block (w := w) (a := ⟨pw, 0, none⟩) (hb.block pw h.wl)).trans h.wb, Nat.lt_of_lt_of_le h.wl hb.size, h.cw.below hb, h.wn, h.ap.below hb, h.ne1, h.ne2, h.ne3⟩

end Go.Proofs.YtdhbdkkchobinaaDoor

namespace Go.Proofs.YtdhbdkkchobinaaDoor
open Go.RowKit
set_option linter.unusedVariables false

end Go.Proofs.YtdhbdkkchobinaaDoor

namespace Go.Proofs.YtdhbdkkchobinaaDoor
open Go.RowKit
set_option linter.unusedVariables false

/-- A list whose block was made since, its capacity in bounds. -/
def FreshL (w : World) (v : Value) : Prop := ∀ g k c, v = .slice (some ⟨g, 0, none⟩) k c → w.heap.size ≤ g ∧ k ≤ c ∧ c ≤ maxLen
theorem FreshL.mk {w : World} {g k c : Nat} (h : w.heap.size ≤ g) (h1 : k ≤ c) (h2 : c ≤ maxLen) : FreshL w (.slice (some ⟨g, 0, none⟩) k c) := fun g' _ _ q => by
  injection q with q1 q2 q3
  injection q1 with q4
  injection q4 with q5
  subst q2 q3 q5
  exact ⟨h, h1, h2⟩
theorem FreshL.nil (w : World) : FreshL w (.slice none 0 0) := fun _ _ _ h => by injection h with h1; cases h1
theorem errOf_ne {f : Nat} (h : f ≠ 0) : errOf f = .iface 103 (.int .i64 (f : Int)) := by unfold errOf; rw [if_neg h]

end Go.Proofs.YtdhbdkkchobinaaDoor

