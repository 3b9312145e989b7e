/-
  What the two Mirrors have in common.
-/
import Derived.Test.YtpbcgojfpmpgpaaDoorPr23
namespace Go.Proofs.YtpbcgojfpmpgpaaDoor
open Go.RowKit
set_option linter.unusedVariables false

theorem bytes_empty (t : ByteArray) (h : t.toList.isEmpty = true) : t = ⟨#[]⟩ := by
  rcases Nat.eq_zero_or_pos t.size with q | q
  · apply ByteArray.ext
    exact Array.eq_empty_of_size_eq_zero q
  · rw [not_empty q] at h
    cases h
def aggR (M : Out) (sl : Value) : Value := .agg #[.int .i64 M.kind, .int .i64 M.born, .int .i64 M.stay, .int .i64 M.states, .int .i64 M.radius, sl, .string M.turns]
theorem Mirror_both (o : Out) (a : Option Addr) (n c : Nat) (hg : Good o) : ∃ M : Out, M.table.length ≤ 4096 ∧
    (∀ w, ArgR w o a n c → Calls Tryd.prog 16 #[.agg #[.int .i64 o.kind, .int .i64 o.born, .int .i64 o.stay, .int .i64 o.states, .int .i64 o.radius, .slice a n c, .string o.turns]] w fun e w' => (∃ b cb, e = .returned (.tuple #[aggR M (.slice b M.table.length cb), .nilIface]) ∧ Reads0 w' b M.table) ∧ Below w.heap.size w w') ∧
    (∀ w, ArgR w o a n c → Calls Tryd.prog 17 #[.agg #[.int .i64 o.kind, .int .i64 o.born, .int .i64 o.stay, .int .i64 o.states, .int .i64 o.radius, .slice a n c, .string o.turns]] w fun e w' => (∃ b cb, e = .returned (aggR M (.slice b M.table.length cb)) ∧ Reads0 w' b M.table) ∧ Below w.heap.size w w') := by
  have HG := hg
  rcases hg with h | h | h
  · obtain ⟨h1, h2, h3, h4, h5⟩ := h
    have ht := bytes_empty _ h5
    unfold noLineB at h4
    simp at h4
    refine ⟨⟨1, o.born, o.stay, 0, 0, [], ⟨#[]⟩⟩, by simp, fun w hR => ?_, fun w hR => ?_⟩
    · refine (Mirror_life o a n c w hR HG h1).mono ?_
      rintro e w' ⟨rfl, hb⟩
      exact ⟨⟨none, 0, rfl, Reads0.nil _ _⟩, hb⟩
    · refine (RefMirror_life o a n c w h1).mono ?_
      rintro e w' ⟨rfl, hb⟩
      have hn : n = 0 := by have := hR.len; rw [h4.2] at this; simpa using this
      refine ⟨⟨a, c, ?_, Reads0.nil _ _⟩, hb⟩
      rw [h1, h4.1.1, h4.1.2, ht, hn]
      rfl
  · obtain ⟨h1, h2, h3, h4⟩ := h
    have ht := bytes_empty _ h4
    unfold noLifeB at h3
    simp at h3
    obtain ⟨s, r, q1, q2, q3, q4, q5, q6, q7⟩ := lineP_nat o h2
    refine ⟨⟨2, 0, 0, o.states, o.radius, (List.range o.table.length).map (mirT o), ⟨#[]⟩⟩, by simpa using q7, fun w hR => ?_, fun w hR => ?_⟩
    · refine (Mirror_line o a n c w hR HG h1 h2).mono ?_
      rintro e w' ⟨⟨g, rfl, hg, hc⟩, hb⟩
      have hn := hR.len
      refine ⟨⟨some ⟨g, 0, none⟩, n, ?_, fun k hk => ⟨g, rfl, ?_⟩⟩, hb⟩
      · unfold aggR; simp [hn]
      · simp at hk
        rw [hc k (by omega)]
        simp
    · have hn := hR.len
      have H := RefMirror_line o a n c s r w hR h1 q1 q2 q3 q4 q5 (by omega) (by omega)
      rw [← q1, ← q2] at H
      refine H.mono ?_
      rintro e w' ⟨⟨v, rfl, hT⟩, hb⟩
      obtain ⟨b, cb, rfl, hp⟩ := hT.parts
      rw [hn] at hp ⊢
      refine ⟨⟨b, cb, ?_, hp⟩, hb⟩
      unfold aggR
      rw [h1, h3.1, h3.2, ht]
  · obtain ⟨h1, h2, h3, h4⟩ := h
    unfold noLifeB at h3
    unfold noLineB at h4
    simp at h3 h4
    refine ⟨⟨3, 0, 0, 0, 0, [], ⟨((List.range o.turns.size).map (mirU o.turns)).toArray⟩⟩, by simp, fun w hR => ?_, fun w hR => ?_⟩
    · refine (Mirror_turns o a n c w hR HG h1 h2.2.1).mono ?_
      rintro e w' ⟨rfl, hb⟩
      exact ⟨⟨none, 0, rfl, Reads0.nil _ _⟩, hb⟩
    · refine (RefMirror_turns o a n c w h1 h2).mono ?_
      rintro e w' ⟨rfl, hb⟩
      have hn : n = 0 := by have := hR.len; rw [h4.2] at this; simpa using this
      refine ⟨⟨a, c, ?_, Reads0.nil _ _⟩, hb⟩
      rw [h1, h3.1, h3.2, h4.1.1, h4.1.2, hn]
      rfl
end Go.Proofs.YtpbcgojfpmpgpaaDoor
