/-
  What the last text of this claim leans on, part 16: LawA.
-/
import Derived.Test.YtjngjnkecnnmeaaDoorJa14
import Derived.Test.YtjngjnkecnnmeaaDoorJa15
namespace Go.Proofs.YtjngjnkecnnmeaaDoor
open Go.RowKit
set_option linter.unusedVariables false

theorem Tab.below {w w' : World} {v : Value} {xs : List Int} (h : Tab w v xs) (hb : Below w.heap.size w w') : Tab w' v xs := by
  rcases h with h | ⟨g, cap, hv, hg, hc⟩
  · exact Or.inl h
  · exact Or.inr ⟨g, cap, hv, Nat.lt_of_lt_of_le hg hb.size, fun k hk => (World.cell?_of_block (w := w) (a := ⟨g, k, none⟩) (hb.block g hg)).trans (hc k hk)⟩

theorem table_len (s : ByteArray) (o : Out) (h : parseS s = .inl o) : o.table.length ≤ maxLen := by
  have H : ∀ p, kindS s = .inl (o, p) → o.table.length ≤ 1024 := by
    intro p hp
    unfold kindS at hp
    split at hp
    · cases hp
    split at hp
    · unfold lifeS at hp
      split at hp
      · cases hp
      split at hp
      · cases hp
      · injection hp with hp; injection hp with h1 h2; rw [← h1]; simp
    split at hp
    · unfold numberedS at hp
      split at hp
      · cases hp
      · injection hp with hp; injection hp with h1 h2; rw [← h1]; simp
    split at hp
    · rcases tabled_ways s with ⟨a, q⟩ | ⟨a, c, q⟩ | ⟨a, c, d, q⟩ | ⟨a, c, d, e, q⟩ | ⟨a, c, d, e, f, q⟩ | ⟨a, c, d, e, f, q⟩
      · rw [q] at hp; cases hp
      · rw [q] at hp; cases hp
      · rw [q] at hp; cases hp
      · rw [q] at hp; cases hp
      · rw [q] at hp; cases hp
      · rw [q] at hp
        unfold tabEnd at hp
        split at hp
        · cases hp
        · injection hp with hp; injection hp with h1 h2
          rw [← h1]
          have n1 := num_le s 2 2 4 c
          have n2 := num_le s _ 0 2 e
          have := (powS_small _ _ n1.2 n1.1 n2.1).2
          simpa using this
    split at hp
    · unfold antS at hp
      split at hp
      · cases hp
      split at hp
      · cases hp
      · injection hp with hp; injection hp with h1 h2; rw [← h1]; simp
    · cases hp
  unfold parseS at h
  split at h
  · cases h
  · rename_i o' p' hk
    split at h
    · injection h with h1
      subst h1
      have := H _ hk
      unfold maxLen; omega
    · cases h

def noRule : Out := ⟨0, 0, 0, 0, 0, [], ⟨#[]⟩⟩
theorem noRule_val : noRule.val (.slice none 0 0) = .agg zeroCells := rfl

set_option maxHeartbeats 1600000 in
theorem law_parses_ok (s : ByteArray) (w : World) (hs : s.size ≤ maxLen) (hg : Handle w) (o : Out) (hx : parseS s = .inl o) :
    Calls Tryd.prog 3 #[.string s] w fun e w' => e = .returned (.bool true) ∧ Below w.heap.size w w' := by
  have HX := hide' hx
  have HL := hide' (table_len s o hx)
  clear hx
  go_enter Tryd.func3, Tryd.ntmps3
  go_wp2_with fail
  refine (parse_ok s _ hs o HX.out).mono ?_
  rintro e w1 ⟨v1, rfl, t1, f1, b1⟩
  obtain ⟨a1, m1, c1, rfl⟩ := t1.slice
  have T1 := hide' t1
  have B1 := hide' b1
  clear t1 f1 b1
  unfold Out.val
  go_wp2_with fail
  refine (ref_any s _ hs).mono ?_
  rw [HX.out]
  rintro e w2 ⟨v2, rfl, t2, b2⟩
  obtain ⟨a2, m2, c2, rfl⟩ := t2.slice
  have T2 := hide' t2
  have B2 := hide' b2
  have x0 := b2.cell (p := ⟨w1.heap.size, 0, none⟩) (by simp)
  have x1 := b2.cell (p := ⟨w1.heap.size, 1, none⟩) (by simp)
  have x2 := b2.cell (p := ⟨w1.heap.size, 2, none⟩) (by simp)
  have x3 := b2.cell (p := ⟨w1.heap.size, 3, none⟩) (by simp)
  have x4 := b2.cell (p := ⟨w1.heap.size, 4, none⟩) (by simp)
  have x5 := b2.cell (p := ⟨w1.heap.size, 5, none⟩) (by simp)
  have x6 := b2.cell (p := ⟨w1.heap.size, 6, none⟩) (by simp)
  simp at x0 x1 x2 x3 x4 x5 x6
  have hz : w1.heap.size < w2.heap.size := by have := b2.size; simp at this; omega
  have TA := hide' (show Tab (w2.alloc (.cells #[.int .i64 o.kind, .int .i64 o.born, .int .i64 o.stay, .int .i64 o.states, .int .i64 o.radius, .slice a2 m2 c2, .string o.turns] 24)) (.slice a1 m1 c1) o.table from ((T1.out.alloc' _).below b2).alloc' _)
  have TB := hide' (show Tab (w2.alloc (.cells #[.int .i64 o.kind, .int .i64 o.born, .int .i64 o.stay, .int .i64 o.states, .int .i64 o.radius, .slice a2 m2 c2, .string o.turns] 24)) (.slice a2 m2 c2) o.table from t2.alloc' _)
  clear t2 b2
  unfold Out.val
  go_wp2_with fail
  refine (Same_same o (.slice a1 m1 c1) (.slice a2 m2 c2) _ TA.out TB.out HL.out).mono ?_
  rintro e w3 ⟨rfl, b3⟩
  have B3 := hide' b3
  clear b3
  go_wp2_with fail
  refine (error_nil 0 _).mono ?_
  rintro e w4 ⟨rfl, rfl⟩
  go_wp2
  go_ret
  refine ⟨rfl, ?_⟩
  have q1 := B1.out
  have q2 := B2.out
  have q3 := B3.out
  have s1 := q1.size
  have s2 := q2.size
  simp at s2
  exact ((q1.alloc (by omega) _).trans (q2.mono (by simp; omega))).alloc (by omega) _ |>.trans (q3.mono (by simp; omega))

set_option maxHeartbeats 1600000 in
theorem law_parses_no (s : ByteArray) (w : World) (hs : s.size ≤ maxLen) (hg : Handle w) (a : Nat) (hx : parseS s = .inr a) :
    Calls Tryd.prog 3 #[.string s] w fun e w' => e = .returned (.bool true) ∧ Below w.heap.size w w' := by
  have HX := hide' hx
  have HG := hide' hg
  clear hx hg
  go_enter Tryd.func3, Tryd.ntmps3
  go_wp2_with fail
  refine (parse_no s _ hs a HX.out).mono ?_
  rintro e w1 ⟨rfl, b1⟩
  have B1 := hide' b1
  clear b1
  unfold zeroCells
  go_wp2_with fail
  refine (ref_any s _ hs).mono ?_
  rw [HX.out]
  rintro e w2 ⟨rfl, b2⟩
  have B2 := hide' b2
  have x0 := b2.cell (p := ⟨w1.heap.size, 0, none⟩) (by simp)
  have x1 := b2.cell (p := ⟨w1.heap.size, 1, none⟩) (by simp)
  have x2 := b2.cell (p := ⟨w1.heap.size, 2, none⟩) (by simp)
  have x3 := b2.cell (p := ⟨w1.heap.size, 3, none⟩) (by simp)
  have x4 := b2.cell (p := ⟨w1.heap.size, 4, none⟩) (by simp)
  have x5 := b2.cell (p := ⟨w1.heap.size, 5, none⟩) (by simp)
  have x6 := b2.cell (p := ⟨w1.heap.size, 6, none⟩) (by simp)
  simp at x0 x1 x2 x3 x4 x5 x6
  have hz : w1.heap.size < w2.heap.size := by have := b2.size; simp at this; omega
  have TA := hide' (show Tab (w2.alloc (.cells zeroCells 24)) (.slice none 0 0) noRule.table from Or.inl ⟨rfl, rfl⟩)
  clear b2
  unfold zeroCells
  go_wp2_with fail
  refine (Same_same noRule (.slice none 0 0) (.slice none 0 0) _ TA.out TA.out (by unfold noRule maxLen; simp)).mono ?_
  rintro e w3 ⟨rfl, b3⟩
  have B3 := hide' b3
  clear b3
  have q1 := B1.out
  have q2 := B2.out
  have q3 := B3.out
  have s1 := q1.size
  have s2 := q2.size
  simp at s2
  have Q := hide' (show Below w.heap.size w w3 from ((q1.alloc (by omega) _).trans (q2.mono (by simp; omega))).alloc (by omega) _ |>.trans (q3.mono (by simp; omega)))
  have GG := hide' (HG.out.below Q.out)
  clear q1 q2 q3 s1 s2
  go_wp2_with fail
  refine (error_errno 2 2 _ GG.out).mono ?_
  rintro e w4 ⟨rfl, b4⟩
  go_wp2
  go_ret
  refine ⟨rfl, Q.out.trans (b4.mono ?_)⟩
  exact Q.out.size

theorem law_parses (s : ByteArray) (w : World) (hs : s.size ≤ maxLen) (hg : Handle w) :
    Calls Tryd.prog 3 #[.string s] w fun e w' => e = .returned (.bool true) ∧ Below w.heap.size w w' := by
  cases hx : parseS s with
  | inl o => exact law_parses_ok s w hs hg o hx
  | inr a => exact law_parses_no s w hs hg a hx
end Go.Proofs.YtjngjnkecnnmeaaDoor

