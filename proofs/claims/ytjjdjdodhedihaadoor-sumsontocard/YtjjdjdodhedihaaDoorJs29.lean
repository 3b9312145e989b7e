/-
  What the last text of this claim leans on, part 29: Ge3.
-/
import Derived.Test.YtjjdjdodhedihaaDoorJs28
import Derived.Test.YtjjdjdodhedihaaDoorJs27
namespace Go.Proofs.YtjjdjdodhedihaaDoor
open Go.RowKit
set_option linter.unusedVariables false

def numC (S R : Nat) (T : List Int) : Nat → Int := fun i => (numL S R T).getD i 0
/-- Do the primes below P say that the sum is onto; one to one? -/
def allB (S K : Nat) (c : Nat → Int) (P : Nat) : Bool := (!(decide (2 < P) && decide (S % 2 = 0)) || decide (0 < cntP 2 c K)) && (!(decide (3 < P) && decide (S % 3 = 0)) || decide (0 < cntP 3 c K))
def oneB (S K : Nat) (c : Nat → Int) (P : Nat) : Bool := (!(decide (2 < P) && decide (S % 2 = 0)) || decide (cntP 2 c K = 1)) && (!(decide (3 < P) && decide (S % 3 = 0)) || decide (cntP 3 c K = 1))
theorem allB_two (S K : Nat) (c : Nat → Int) : allB S K c 2 = true := by simp [allB]
theorem oneB_two (S K : Nat) (c : Nat → Int) : oneB S K c 2 = true := by simp [oneB]
theorem allB_skip {S K P : Nat} {c : Nat → Int} (h : P = 2 ∨ P = 3) (hd : ¬ S % P = 0) : allB S K c (P + 1) = allB S K c P := by
  rcases h with rfl | rfl <;> simp [allB, hd]
theorem oneB_skip {S K P : Nat} {c : Nat → Int} (h : P = 2 ∨ P = 3) (hd : ¬ S % P = 0) : oneB S K c (P + 1) = oneB S K c P := by
  rcases h with rfl | rfl <;> simp [oneB, hd]
theorem allB_next {S K P : Nat} {c : Nat → Int} (h : P = 2 ∨ P = 3) (hd : S % P = 0) : allB S K c (P + 1) = (allB S K c P && decide (0 < cntP P c K)) := by
  rcases h with rfl | rfl <;> simp [allB, hd]
theorem oneB_next {S K P : Nat} {c : Nat → Int} (h : P = 2 ∨ P = 3) (hd : S % P = 0) : oneB S K c (P + 1) = (oneB S K c P && decide (cntP P c K = 1)) := by
  rcases h with rfl | rfl <;> simp [oneB, hd]
theorem allB_fin {S p K : Nat} {c : Nat → Int} (h : PrmS S p) : allB S K c 4 = decide (0 < cntP p c K) := by
  rcases h with ⟨rfl, rfl⟩ | ⟨rfl, rfl⟩ | ⟨rfl, rfl⟩ <;> simp [allB]
theorem oneB_fin {S p K : Nat} {c : Nat → Int} (h : PrmS S p) : oneB S K c 4 = decide (cntP p c K = 1) := by
  rcases h with ⟨rfl, rfl⟩ | ⟨rfl, rfl⟩ | ⟨rfl, rfl⟩ <;> simp [oneB]
theorem prmS_of {S R : Nat} {T : List Int} (h : LineOk S R T) : ∃ p, PrmS S p := by
  have h1 := h.s2
  have h2 := h.s4
  rcases (show S = 2 ∨ S = 3 ∨ S = 4 by omega) with q | q | q
  · exact ⟨2, Or.inl ⟨q, rfl⟩⟩
  · exact ⟨3, Or.inr (Or.inl ⟨q, rfl⟩)⟩
  · exact ⟨2, Or.inr (Or.inr ⟨q, rfl⟩)⟩

theorem onto_sum (S R n : Nat) (T : List Int) (ta : Option Addr) (tn tc : Nat) (w : World) (hL : LineOk S R T) (hT : ArgP w T ta tn tc) (he : askE S R [] = 0) (hn : S ^ (2 * R) = n) (hz : TzTab w) (hlin : LinP S R T) :
    Calls Tryd.prog 11 #[.agg #[.int .i64 2, .int .i64 0, .int .i64 0, .int .i64 (S : Int), .int .i64 (R : Int), .slice ta tn tc, .string ⟨#[]⟩]] w fun e w' => (∃ v, e = .returned (.tuple #[.bool (allB S (2 * R + 1) (numC S R T) 4), v, .nilIface])) ∧ Below w.heap.size w w' := by
  obtain ⟨p, hp⟩ := prmS_of hL
  have s2 := hL.s2
  rw [allB_fin hp]
  refine (onto_ok S R n T ta tn tc w hL hT he hn hz).mono ?_
  rintro e w' ⟨h | h, b⟩
  · obtain ⟨wd, g, c, h1, h2, _⟩ := h
    refine ⟨⟨.slice (some ⟨g, 0, none⟩) wd.length c, ?_⟩, b⟩
    rw [h1, show decide (0 < cntP p (numC S R T) (2 * R + 1)) = false by
      rw [decide_eq_false_iff_not]
      intro q
      subst hn
      exact garden_orphan hL rfl h2 (sum_no_twin hL hlin hp q)]
  · refine ⟨⟨.slice none 0 0, ?_⟩, b⟩
    rw [h.1, show decide (0 < cntP p (numC S R T) (2 * R + 1)) = true by
      rw [decide_eq_true_eq]
      rcases Nat.eq_zero_or_pos (cntP p (numC S R T) (2 * R + 1)) with q | q
      · have h3 := orphan_none (by omega) h.2 [1] (cells_one (c := 1) (by omega))
        subst hn
        rw [sum_orphan hL hlin hp q] at h3
        omega
      · exact q]
theorem one_sum (S R n : Nat) (T : List Int) (ta : Option Addr) (tn tc : Nat) (w : World) (hL : LineOk S R T) (hT : ArgP w T ta tn tc) (he : askE S R [] = 0) (hn : S ^ (2 * R) = n) (hlin : LinP S R T) :
    Calls Tryd.prog 13 #[.agg #[.int .i64 2, .int .i64 0, .int .i64 0, .int .i64 (S : Int), .int .i64 (R : Int), .slice ta tn tc, .string ⟨#[]⟩]] w fun e w' => (∃ v1 v2, e = .returned (.tuple #[.bool (oneB S (2 * R + 1) (numC S R T) 4), v1, v2, .nilIface])) ∧ Below w.heap.size w w' := by
  obtain ⟨p, hp⟩ := prmS_of hL
  have s2 := hL.s2
  have n0 : 0 < n := by rw [← hn]; exact Nat.pow_pos (by omega)
  rw [oneB_fin hp]
  refine (one_ok S R n T ta tn tc w hL hT he hn).mono ?_
  rintro e w' ⟨h | h, b⟩
  · obtain ⟨u, full, v1, v2, h1, _, _, h2⟩ := h
    refine ⟨⟨v1, v2, ?_⟩, b⟩
    rw [h1, show decide (cntP p (numC S R T) (2 * R + 1) = 1) = false by
      rw [decide_eq_false_iff_not]
      intro q
      subst hn
      obtain ⟨o1, o2, es, ne⟩ := ring_rings (by omega) h2
      exact ne (sum_one hL hlin hp q o1 o2 (by simp) es)]
  · refine ⟨⟨.slice none 0 0, .slice none 0 0, ?_⟩, b⟩
    rw [h.1, show decide (cntP p (numC S R T) (2 * R + 1) = 1) = true by
      rw [decide_eq_true_eq]
      have hno := no_turn n0 h.2
      subst hn
      rcases Nat.lt_or_ge 1 (cntP p (numC S R T) (2 * R + 1)) with q | q
      · exact absurd hno (sum_more hL hlin hp q)
      · rcases Nat.eq_zero_or_pos (cntP p (numC S R T) (2 * R + 1)) with r | r
        · exact absurd hno (sum_none hL hlin hp r)
        · omega]
theorem cntP_le (p : Nat) (c : Nat → Int) : ∀ m, cntP p c m ≤ m
  | 0 => Nat.le_refl _
  | m + 1 => by
    have := cntP_le p c m
    rw [cntP]
    split <;> omega
theorem sfact_lin : LinP 2 0 [0, 1] := by unfold LinP; decide
theorem fact_linear (g : Nat) (W : World) (hA : ArgP W [0, 1] (some ⟨g, 0, none⟩) 2 2) :
    Calls Tryd.prog 17 #[.agg #[.int .i64 2, .int .i64 0, .int .i64 0, .int .i64 2, .int .i64 0, .slice (some ⟨g, 0, none⟩) 2 2, .string ⟨#[]⟩]] W fun e w' => (∃ g', e = .returned (.tuple #[.slice (some ⟨g', 0, none⟩) 1 1, .nilIface]) ∧ w'.cell? ⟨g', 0, none⟩ = some (.int .i64 1)) ∧ Below W.heap.size W w' := by
  refine (linear_line 2 0 [0, 1] (some ⟨g, 0, none⟩) 2 2 W gfact_line hA).mono ?_
  rintro e w' ⟨h | h, b⟩
  · obtain ⟨_, g', h1, h2, _⟩ := h
    exact ⟨⟨g', h1, h2.cells 0 (by decide)⟩, b⟩
  · exact absurd sfact_lin h.1
set_option maxRecDepth 100000 in
set_option maxHeartbeats 12800000 in
theorem prime_any (P S : Nat) (w : World) (hP : P = 2 ∨ P = 3) (hS : S ≤ 4) :
    Calls Tryd.prog 25 #[.int .i64 (P : Int), .int .i64 (S : Int)] w fun e w' => e = .returned (.bool (decide (S % P = 0))) ∧ w' = w := by
  have n0 : ¬ (P : Int) = 0 := by omega
  obtain ⟨z, hz⟩ : ∃ z, S % P = z := ⟨_, rfl⟩
  have e1 : (S : Int).tmod (P : Int) = (z : Int) := by rw [Int.tmod_eq_emod_of_nonneg (by omega), ← hz]; simp
  rw [hz]
  clear hz
  by_cases d : z = 0
  · subst d
    go_enter Tryd.func25, Tryd.ntmps25
    go_wp2
    go_ret
    exact ⟨rfl, rfl⟩
  · have d1 : ((z : Int) == 0) = false := by simp; omega
    have d2 : decide (z = 0) = false := by simp [d]
    rw [d2]
    clear d d2
    go_enter Tryd.func25, Tryd.ntmps25
    go_wp2
    go_ret
    exact ⟨by first | rfl | (show Ending.returned (Value.bool ((z : Int) == 0)) = _; rw [d1]), rfl⟩
end Go.Proofs.YtjjdjdodhedihaaDoor

