/-
  What the two Prints have in common.
-/
import Derived.Test.YtpbcgojfpmpgpaaDoorPr22
namespace Go.Proofs.YtpbcgojfpmpgpaaDoor
open Go.RowKit
set_option linter.unusedVariables false

def errV (k : Int) : Value := if k = 0 then .nilIface else .iface 72 (.int .i64 k)
theorem good_radius (o : Out) (h : Good o) (hk : o.kind ≠ 2) : o.radius ≤ 2 := by
  rcases h with h | h | h
  · have := h.2.2.2.1; unfold noLineB at this; simp at this; omega
  · exact absurd h.1 hk
  · have := h.2.2.2; unfold noLineB at this; simp at this; omega

theorem Print_both (o : Out) (a : Option Addr) (n c : Nat) : ∃ (x : ByteArray) (k : Int),
    (∀ w, ArgR w o a n c → PowT w → Calls Tryd.prog 14 #[.agg #[.int .i64 o.kind, .int .i64 o.born, .int .i64 o.stay, .int .i64 o.states, .int .i64 o.radius, .slice a n c, .string o.turns]] w fun e w' => e = .returned (.tuple #[.string x, errV k]) ∧ Below w.heap.size w w') ∧
    (∀ w, ArgR w o a n c → Calls Tryd.prog 15 #[.agg #[.int .i64 o.kind, .int .i64 o.born, .int .i64 o.stay, .int .i64 o.states, .int .i64 o.radius, .slice a n c, .string o.turns]] w fun e w' => e = .returned (.tuple #[.string x, .int .i64 k]) ∧ Below w.heap.size w w') := by
  by_cases hg : Good o
  · by_cases h2 : o.kind = 2
    · have hl : lineP o := by
        rcases hg with h | h | h
        · have := h.1; omega
        · exact h.2.1
        · have := h.1; omega
      by_cases hr : 2 < o.radius
      · exact ⟨⟨#[]⟩, 4, fun w hR _ => Print_full o a n c w hR hg hr, fun w hR => RefPrint_full o a n c w hR hg h2 hr⟩
      · have hr' : o.radius ≤ 2 := by omega
        refine ⟨lineB o, 0, fun w hR hP => Print_line o a n c w hR hP hg h2 hr' hl, fun w hR => ?_⟩
        obtain ⟨p1, p2, p3, p4, p5, p6, p7⟩ := lineP_parts o hl hr'
        have hlen := hR.len
        have hb : ∀ k, k < o.table.length → 0 ≤ o.table.getD k 0 ∧ o.table.getD k 0 < 4 := fun k hk => ⟨(p5 k hk).1, by have := (p5 k hk).2; omega⟩
        cases k5 : (o.states == 2) with
        | false =>
          have H := RefPrint_La o a n c w hR hg h2 p1 p2 p3 hr' k5 (by omega) hb
          unfold lineB
          rw [k5, ← hlen]
          exact H
        | true =>
          cases k6 : (o.radius == 1) with
          | false =>
            have H := RefPrint_Lb o a n c w hR hg h2 p1 p2 p3 hr' k5 k6 (by omega) hb
            unfold lineB
            rw [k5, k6, ← hlen]
            exact H
          | true =>
            have h8 := p7 (by rw [k5, k6]; rfl)
            have H := RefPrint_W o a n c w hR hg h2 (by simpa using k5) (by simpa using k6) (by omega) (fun k hk => ⟨(p5 k hk).1, by have q := (p5 k hk).2; rw [show o.states = 2 by simpa using k5] at q; exact q⟩)
            unfold lineB
            rw [k5, k6, Lib.itoa_nonneg]
            exact H
    · have hr := good_radius o hg h2
      rcases hg with h | h | h
      · have hg : Good o := Or.inl h
        exact ⟨_, 0, fun w hR _ => Print_life o a n c w hR hg h.1 hr h.2.1 h.2.2.1, fun w hR => RefPrint_life o a n c w hR hg h.1 h.2.1 h.2.2.1⟩
      · exact absurd h.1 h2
      · have hg : Good o := Or.inr (Or.inr h)
        have ht : 2 + o.turns.size ≤ maxLen := by have := h.2.1.2.1; unfold maxLen; omega
        exact ⟨_, 0, fun w hR _ => Print_turns o a n c w hR hg h.1 hr ht, fun w hR => RefPrint_turns o a n c w hR hg h.1 ht⟩
  · exact ⟨⟨#[]⟩, 1, fun w hR _ => Print_bad o a n c w hR hg, fun w hR => RefPrint_bad o a n c w hR hg⟩
end Go.Proofs.YtpbcgojfpmpgpaaDoor
