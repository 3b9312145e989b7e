/-
  What the last text of this claim leans on, part 4: Ca5, Ca6.
-/
import Derived.Test.YtcfoeadfhkojeaaGreatDoorZm3
namespace Go.Proofs.YtcfoeadfhkojeaaGreatDoor
open Go.RowKit
set_option linter.unusedVariables false
/-- Counters, and the line that is next. -/
abbrev MaS := (Nat → Int) × Nat
def lnM (xs : List InsT) (t : Nat) : InsT := xs.getD t (0, 0, 0, 0)
def fullM (xs : List InsT) (s : MaS) : Bool := decide ((lnM xs s.2).1 = 1) && decide (s.1 (lnM xs s.2).2.1.toNat = 1000000)
def nextM (xs : List InsT) (s : MaS) : MaS :=
  if (lnM xs s.2).1 = 1 then (updM s.1 (lnM xs s.2).2.1.toNat (s.1 (lnM xs s.2).2.1.toNat + 1), (lnM xs s.2).2.2.1.toNat)
  else if s.1 (lnM xs s.2).2.1.toNat = 0 then (s.1, (lnM xs s.2).2.2.2.toNat)
  else (updM s.1 (lnM xs s.2).2.1.toNat (s.1 (lnM xs s.2).2.1.toNat - 1), (lnM xs s.2).2.2.1.toNat)
/-- What a machine comes to: its state, how many lines are gone, and what is wrong. -/
def goM (xs : List InsT) : Nat → MaS → Nat → MaS × Nat × Nat
  | 0, s, k => if (lnM xs s.2).1 = 3 then (s, k, 0) else (s, k, 6)
  | f + 1, s, k => if (lnM xs s.2).1 = 3 then (s, k, 0) else if fullM xs s then (s, k, 4) else goM xs f (nextM xs s) (k + 1)
/-- Counters that may be, and a line. -/
def OkM (xs : List InsT) (s : MaS) : Prop := (∀ k, k < 4 → 0 ≤ s.1 k ∧ s.1 k ≤ 1000000) ∧ s.2 < xs.length
theorem ln_at {xs : List InsT} {t : Nat} (h : t < xs.length) : lnM xs t = xs[t] := by unfold lnM; simp [List.getD, h]
theorem ins_parts {L : Int} {p : InsT} (h : insB L p = true) : (p.1 = 1 ∧ 0 ≤ p.2.1 ∧ p.2.1 < 4 ∧ 0 ≤ p.2.2.1 ∧ p.2.2.1 < L ∧ p.2.2.2 = 0) ∨ (p.1 = 2 ∧ 0 ≤ p.2.1 ∧ p.2.1 < 4 ∧ 0 ≤ p.2.2.1 ∧ p.2.2.1 < L ∧ 0 ≤ p.2.2.2 ∧ p.2.2.2 < L) ∨ (p.1 = 3 ∧ p.2.1 = 0 ∧ p.2.2.1 = 0 ∧ p.2.2.2 = 0) := by
  obtain ⟨o, a, t, e⟩ := p
  unfold insB at h
  simp only [Bool.and_eq_true, decide_eq_true_eq] at h
  obtain ⟨⟨h1, h2⟩, ⟨h3, h4⟩, h5⟩ := h
  rcases (show o = 1 ∨ o = 2 ∨ o = 3 by omega) with rfl | rfl | rfl
  · simp [okI, numI, usN] at h3 h4 h5
    left; refine ⟨rfl, ?_, ?_, ?_, ?_, ?_⟩ <;> simp only <;> omega
  · simp [okI, numI, usN] at h3 h4 h5
    right; left; refine ⟨rfl, ?_, ?_, ?_, ?_, ?_, ?_⟩ <;> simp only <;> omega
  · simp [okI, numI, usN] at h3 h4 h5
    right; right; refine ⟨rfl, ?_, ?_, ?_⟩ <;> simp only <;> omega
theorem next_ok {xs : List InsT} (hc : codeE xs = 0) {s : MaS} (h : OkM xs s) (h3 : ¬ (lnM xs s.2).1 = 3) (hf : fullM xs s = false) : OkM xs (nextM xs s) := by
  obtain ⟨_, _, hx⟩ := code_at hc
  have hi := ins_parts (hx s.2 h.2)
  rw [← ln_at h.2] at hi
  unfold nextM
  unfold fullM at hf
  revert hi h3 hf
  generalize lnM xs s.2 = p
  obtain ⟨o, a, t, e⟩ := p
  intro h3 hf hi
  simp only at *
  split
  · rename_i o1
    subst o1
    simp only [decide_true, Bool.true_and, decide_eq_false_iff_not] at hf
    have ha := h.1 a.toNat (by omega)
    refine ⟨fun k hk => ?_, by simp only; omega⟩
    simp only [updM]
    have := h.1 k hk
    split
    · omega
    · omega
  · split
    · exact ⟨h.1, by simp only; omega⟩
    · have ha := h.1 a.toNat (by omega)
      refine ⟨fun k hk => ?_, by simp only; omega⟩
      simp only [updM]
      have := h.1 k hk
      split
      · omega
      · omega
set_option maxRecDepth 100000 in
set_option maxHeartbeats 6400000 in
theorem step_halt (xs : List InsT) (a : Option Addr) (n c : Nat) (mb : Nat) (s : MaS) (eb : Addr) (w : World) (hm : MaB w mb (.slice a n c) s.1 s.2) (hP : ArgI w xs a n c) (hs : s.2 < xs.length) (h3 : (lnM xs s.2).1 = 3) (hE : w.cell? ⟨3, 0, none⟩ = some (.iface 158 (.pointer (some eb)))) (lE : 3 < w.heap.size) :
    Calls Tryz.prog 16 #[.pointer (some ⟨mb, 0, none⟩)] w fun x w' => x = .returned (.iface 158 (.pointer (some eb))) ∧ Below w.heap.size w w' := by
  obtain ⟨cs, t⟩ := s
  simp only at hm hs h3
  obtain ⟨g, off, rfl, hg, c0, c1, c2, c3⟩ := hP.cells t hs
  rw [ln_at hs] at h3
  obtain ⟨⟨o, y, z, u⟩, hx⟩ : ∃ x, xs[t] = x := ⟨_, rfl⟩
  rw [hx] at c0 c1 c2 c3 h3
  simp only at c0 c1 c2 c3 h3
  subst h3
  have m0 := hm.code
  have m5 := hm.ats
  have tn : (t : Int) < (n : Int) := by have := hP.len; omega
  have t0 : (0 : Int) ≤ (t : Int) := by omega
  obtain ⟨w1, hw1⟩ : ∃ w1, w.alloc (.cells #[.int .i64 3, .int .i64 y, .int .i64 z, .int .i64 u] 25) = w1 := ⟨_, rfl⟩
  have B1 := hide' (show Below w.heap.size w w1 by rw [← hw1]; exact (Below.refl _ _).alloc (Nat.le_refl _) _)
  have r1 : w1.heap[w.heap.size]? = some (.cells #[.int .i64 3, .int .i64 y, .int .i64 z, .int .i64 u] 25 (0, 0)) := by rw [← hw1]; exact heap_alloc_new _ _
  have e0 := cell_of_row w1 _ 0 _ _ _ r1
  have e1 := cell_of_row w1 _ 1 _ _ _ r1
  have e2 := cell_of_row w1 _ 2 _ _ _ r1
  have e3 := cell_of_row w1 _ 3 _ _ _ r1
  simp at e0 e1 e2 e3
  have lm := hm.lt
  have A0 : ∀ ob, (w.alloc ob).cell? ⟨mb, 0, none⟩ = some (.slice (some ⟨g, off, none⟩) n c) := fun ob => (World.cell?_alloc_lt _ _ ⟨mb, 0, none⟩ lm).trans m0
  have A5 : ∀ ob, (w.alloc ob).cell? ⟨mb, 5, none⟩ = some (.int .i64 (t : Int)) := fun ob => (World.cell?_alloc_lt _ _ ⟨mb, 5, none⟩ lm).trans m5
  have C0 : ∀ ob, (w.alloc ob).cell? ⟨g, off + t * 4, none⟩ = some (.int .i64 3) := fun ob => (World.cell?_alloc_lt _ _ ⟨g, off + t * 4, none⟩ hg).trans c0
  have C1 : ∀ ob, (w.alloc ob).cell? ⟨g, off + t * 4 + 1, none⟩ = some (.int .i64 y) := fun ob => (World.cell?_alloc_lt _ _ ⟨g, off + t * 4 + 1, none⟩ hg).trans c1
  have C2 : ∀ ob, (w.alloc ob).cell? ⟨g, off + t * 4 + 2, none⟩ = some (.int .i64 z) := fun ob => (World.cell?_alloc_lt _ _ ⟨g, off + t * 4 + 2, none⟩ hg).trans c2
  have C3 : ∀ ob, (w.alloc ob).cell? ⟨g, off + t * 4 + 3, none⟩ = some (.int .i64 u) := fun ob => (World.cell?_alloc_lt _ _ ⟨g, off + t * 4 + 3, none⟩ hg).trans c3
  have hE1 := (B1.out.cell (p := ⟨3, 0, none⟩) lE).trans hE
  clear hm hP hx hs r1 hE lm
  go_enter Tryz.func16, Tryz.ntmps16
  go_wp2
  go_region
  clear hw1 A0 A5 C0 C1 C2 C3 c0 c1 c2 c3 m0 m5
  go_wp2
  go_ret
  exact ⟨rfl, B1.out.drew⟩
set_option maxRecDepth 100000 in
set_option maxHeartbeats 6400000 in
theorem step_full (xs : List InsT) (a : Option Addr) (n c : Nat) (mb : Nat) (s : MaS) (w : World) (hm : MaB w mb (.slice a n c) s.1 s.2) (hP : ArgI w xs a n c) (hs : s.2 < xs.length) (h3 : (lnM xs s.2).1 = 1) (ha : 0 ≤ (lnM xs s.2).2.1 ∧ (lnM xs s.2).2.1 < 4) (hf : s.1 (lnM xs s.2).2.1.toNat = 1000000) :
    Calls Tryz.prog 16 #[.pointer (some ⟨mb, 0, none⟩)] w fun x w' => x = .returned (.iface 73 (.int .i64 4)) ∧ Below w.heap.size w w' := by
  obtain ⟨cs, t⟩ := s
  simp only at hm hs h3
  obtain ⟨g, off, rfl, hg, c0, c1, c2, c3⟩ := hP.cells t hs
  rw [ln_at hs] at h3
  obtain ⟨⟨o, y, z, u⟩, hx⟩ : ∃ x, xs[t] = x := ⟨_, rfl⟩
  rw [hx] at c0 c1 c2 c3 h3
  simp only at c0 c1 c2 c3 h3
  subst h3
  rw [ln_at hs, hx] at ha hf
  simp only at ha hf
  obtain ⟨k, rfl⟩ : ∃ k : Nat, y = (k : Int) := ⟨y.toNat, by omega⟩
  rw [Int.toNat_natCast] at hf
  have m0 := hm.code
  have m5 := hm.ats
  have tn : (t : Int) < (n : Int) := by have := hP.len; omega
  have t0 : (0 : Int) ≤ (t : Int) := by omega
  obtain ⟨w1, hw1⟩ : ∃ w1, w.alloc (.cells #[.int .i64 1, .int .i64 (k : Int), .int .i64 z, .int .i64 u] 25) = w1 := ⟨_, rfl⟩
  have B1 := hide' (show Below w.heap.size w w1 by rw [← hw1]; exact (Below.refl _ _).alloc (Nat.le_refl _) _)
  have r1 : w1.heap[w.heap.size]? = some (.cells #[.int .i64 1, .int .i64 (k : Int), .int .i64 z, .int .i64 u] 25 (0, 0)) := by rw [← hw1]; exact heap_alloc_new _ _
  have e0 := cell_of_row w1 _ 0 _ _ _ r1
  have e1 := cell_of_row w1 _ 1 _ _ _ r1
  have e2 := cell_of_row w1 _ 2 _ _ _ r1
  have e3 := cell_of_row w1 _ 3 _ _ _ r1
  simp at e0 e1 e2 e3
  have lm := hm.lt
  have A0 : ∀ ob, (w.alloc ob).cell? ⟨mb, 0, none⟩ = some (.slice (some ⟨g, off, none⟩) n c) := fun ob => (World.cell?_alloc_lt _ _ ⟨mb, 0, none⟩ lm).trans m0
  have A5 : ∀ ob, (w.alloc ob).cell? ⟨mb, 5, none⟩ = some (.int .i64 (t : Int)) := fun ob => (World.cell?_alloc_lt _ _ ⟨mb, 5, none⟩ lm).trans m5
  have C0 : ∀ ob, (w.alloc ob).cell? ⟨g, off + t * 4, none⟩ = some (.int .i64 1) := fun ob => (World.cell?_alloc_lt _ _ ⟨g, off + t * 4, none⟩ hg).trans c0
  have C1 : ∀ ob, (w.alloc ob).cell? ⟨g, off + t * 4 + 1, none⟩ = some (.int .i64 (k : Int)) := fun ob => (World.cell?_alloc_lt _ _ ⟨g, off + t * 4 + 1, none⟩ hg).trans c1
  have C2 : ∀ ob, (w.alloc ob).cell? ⟨g, off + t * 4 + 2, none⟩ = some (.int .i64 z) := fun ob => (World.cell?_alloc_lt _ _ ⟨g, off + t * 4 + 2, none⟩ hg).trans c2
  have C3 : ∀ ob, (w.alloc ob).cell? ⟨g, off + t * 4 + 3, none⟩ = some (.int .i64 u) := fun ob => (World.cell?_alloc_lt _ _ ⟨g, off + t * 4 + 3, none⟩ hg).trans c3
  have M1 := hide' (hm.below B1.out hm.lt)
  have IN := hide' (inc_full 1 z u k mb (by omega) _ cs t w1.drew M1.out.drew hf)
  clear hm hP hx hs r1 lm hf ha
  go_enter Tryz.func16, Tryz.ntmps16
  go_wp2
  go_region
  clear hw1 A0 A5 C0 C1 C2 C3 c0 c1 c2 c3 m0 m5
  go_wp2_with fail
  refine IN.out.mono ?_
  rintro x w2 ⟨rfl, b2⟩
  go_wp2
  go_ret
  exact ⟨rfl, (B1.out.drew).trans (b2.mono B1.out.size)⟩
set_option maxRecDepth 100000 in
set_option maxHeartbeats 6400000 in
theorem step_inc (xs : List InsT) (a : Option Addr) (n c : Nat) (mb : Nat) (s : MaS) (B : Nat) (w : World) (hm : MaB w mb (.slice a n c) s.1 s.2) (hP : ArgI w xs a n c) (hs : s.2 < xs.length) (h3 : (lnM xs s.2).1 = 1) (ha : 0 ≤ (lnM xs s.2).2.1 ∧ (lnM xs s.2).2.1 < 4) (hz : 0 ≤ (lnM xs s.2).2.2.1) (hf : ¬ s.1 (lnM xs s.2).2.1.toNat = 1000000) (hok : ∀ k, k < 4 → 0 ≤ s.1 k ∧ s.1 k ≤ 1000000) (hB : B ≤ mb) :
    Calls Tryz.prog 16 #[.pointer (some ⟨mb, 0, none⟩)] w fun x w' => x = .returned .nilIface ∧ MaB w' mb (.slice a n c) (nextM xs s).1 (nextM xs s).2 ∧ Below B w w' := by
  obtain ⟨cs, t⟩ := s
  simp only at hm hs h3
  obtain ⟨g, off, rfl, hg, c0, c1, c2, c3⟩ := hP.cells t hs
  rw [ln_at hs] at h3
  obtain ⟨⟨o, y, z, u⟩, hx⟩ : ∃ x, xs[t] = x := ⟨_, rfl⟩
  rw [hx] at c0 c1 c2 c3 h3
  simp only at c0 c1 c2 c3 h3
  subst h3
  have NX := hide' (show nextM xs (cs, t) = (updM cs y.toNat (cs y.toNat + 1), z.toNat) by unfold nextM; simp only [ln_at hs, hx, if_true])
  rw [ln_at hs, hx] at ha hf hz
  simp only at ha hf hz
  obtain ⟨k, rfl⟩ : ∃ k : Nat, y = (k : Int) := ⟨y.toNat, by omega⟩
  obtain ⟨z, rfl⟩ : ∃ k : Nat, z = (k : Int) := ⟨z.toNat, by omega⟩
  rw [Int.toNat_natCast] at hf
  rw [Int.toNat_natCast, Int.toNat_natCast] at NX
  have m0 := hm.code
  have m5 := hm.ats
  have tn : (t : Int) < (n : Int) := by have := hP.len; omega
  have t0 : (0 : Int) ≤ (t : Int) := by omega
  obtain ⟨w1, hw1⟩ : ∃ w1, w.alloc (.cells #[.int .i64 1, .int .i64 (k : Int), .int .i64 (z : Int), .int .i64 u] 25) = w1 := ⟨_, rfl⟩
  have B1 := hide' (show Below w.heap.size w w1 by rw [← hw1]; exact (Below.refl _ _).alloc (Nat.le_refl _) _)
  have r1 : w1.heap[w.heap.size]? = some (.cells #[.int .i64 1, .int .i64 (k : Int), .int .i64 (z : Int), .int .i64 u] 25 (0, 0)) := by rw [← hw1]; exact heap_alloc_new _ _
  have e0 := cell_of_row w1 _ 0 _ _ _ r1
  have e1 := cell_of_row w1 _ 1 _ _ _ r1
  have e2 := cell_of_row w1 _ 2 _ _ _ r1
  have e3 := cell_of_row w1 _ 3 _ _ _ r1
  simp at e0 e1 e2 e3
  have lm := hm.lt
  have A0 : ∀ ob, (w.alloc ob).cell? ⟨mb, 0, none⟩ = some (.slice (some ⟨g, off, none⟩) n c) := fun ob => (World.cell?_alloc_lt _ _ ⟨mb, 0, none⟩ lm).trans m0
  have A5 : ∀ ob, (w.alloc ob).cell? ⟨mb, 5, none⟩ = some (.int .i64 (t : Int)) := fun ob => (World.cell?_alloc_lt _ _ ⟨mb, 5, none⟩ lm).trans m5
  have C0 : ∀ ob, (w.alloc ob).cell? ⟨g, off + t * 4, none⟩ = some (.int .i64 1) := fun ob => (World.cell?_alloc_lt _ _ ⟨g, off + t * 4, none⟩ hg).trans c0
  have C1 : ∀ ob, (w.alloc ob).cell? ⟨g, off + t * 4 + 1, none⟩ = some (.int .i64 (k : Int)) := fun ob => (World.cell?_alloc_lt _ _ ⟨g, off + t * 4 + 1, none⟩ hg).trans c1
  have C2 : ∀ ob, (w.alloc ob).cell? ⟨g, off + t * 4 + 2, none⟩ = some (.int .i64 (z : Int)) := fun ob => (World.cell?_alloc_lt _ _ ⟨g, off + t * 4 + 2, none⟩ hg).trans c2
  have C3 : ∀ ob, (w.alloc ob).cell? ⟨g, off + t * 4 + 3, none⟩ = some (.int .i64 u) := fun ob => (World.cell?_alloc_lt _ _ ⟨g, off + t * 4 + 3, none⟩ hg).trans c3
  have M1 := hide' (hm.below B1.out hm.lt)
  have ok := hok k (by omega)
  have IN := hide' (inc_some 1 u z k mb B (by omega) _ cs t w1.drew M1.out.drew hf ok.1 ok.2 hB)
  have BB := hide' (show Below B w w1.drew from (B1.out.drew).mono (by omega))
  clear hm hP hx hs r1 lm hf ha hz ok hok
  go_enter Tryz.func16, Tryz.ntmps16
  go_wp2
  go_region
  clear hw1 A0 A5 C0 C1 C2 C3 c0 c1 c2 c3 m0 m5
  go_wp2_with fail
  refine IN.out.mono ?_
  rintro x w2 ⟨rfl, m2, b2⟩
  go_wp2
  go_ret
  rw [NX.out]
  exact ⟨rfl, m2, BB.out.trans b2⟩
set_option maxRecDepth 100000 in
set_option maxHeartbeats 6400000 in
theorem step_dec (xs : List InsT) (a : Option Addr) (n c : Nat) (mb : Nat) (s : MaS) (B : Nat) (w : World) (hm : MaB w mb (.slice a n c) s.1 s.2) (hP : ArgI w xs a n c) (hs : s.2 < xs.length) (h3 : (lnM xs s.2).1 = 2) (ha : 0 ≤ (lnM xs s.2).2.1 ∧ (lnM xs s.2).2.1 < 4) (hz : 0 ≤ (lnM xs s.2).2.2.1 ∧ 0 ≤ (lnM xs s.2).2.2.2) (hok : ∀ k, k < 4 → 0 ≤ s.1 k ∧ s.1 k ≤ 1000000) (hB : B ≤ mb) :
    Calls Tryz.prog 16 #[.pointer (some ⟨mb, 0, none⟩)] w fun x w' => x = .returned .nilIface ∧ MaB w' mb (.slice a n c) (nextM xs s).1 (nextM xs s).2 ∧ Below B w w' := by
  obtain ⟨cs, t⟩ := s
  simp only at hm hs h3
  obtain ⟨g, off, rfl, hg, c0, c1, c2, c3⟩ := hP.cells t hs
  rw [ln_at hs] at h3
  obtain ⟨⟨o, y, z, u⟩, hx⟩ : ∃ x, xs[t] = x := ⟨_, rfl⟩
  rw [hx] at c0 c1 c2 c3 h3
  simp only at c0 c1 c2 c3 h3
  subst h3
  have NX := hide' (show nextM xs (cs, t) = if cs y.toNat = 0 then (cs, u.toNat) else (updM cs y.toNat (cs y.toNat - 1), z.toNat) by unfold nextM; simp only [ln_at hs, hx]; rw [if_neg (by decide)])
  rw [ln_at hs, hx] at ha hz
  simp only at ha hz
  obtain ⟨k, rfl⟩ : ∃ k : Nat, y = (k : Int) := ⟨y.toNat, by omega⟩
  obtain ⟨z, rfl⟩ : ∃ k : Nat, z = (k : Int) := ⟨z.toNat, by omega⟩
  obtain ⟨u, rfl⟩ : ∃ k : Nat, u = (k : Int) := ⟨u.toNat, by omega⟩
  simp only [Int.toNat_natCast] at NX
  have m0 := hm.code
  have m5 := hm.ats
  have tn : (t : Int) < (n : Int) := by have := hP.len; omega
  have t0 : (0 : Int) ≤ (t : Int) := by omega
  obtain ⟨w1, hw1⟩ : ∃ w1, w.alloc (.cells #[.int .i64 2, .int .i64 (k : Int), .int .i64 (z : Int), .int .i64 (u : Int)] 25) = w1 := ⟨_, rfl⟩
  have B1 := hide' (show Below w.heap.size w w1 by rw [← hw1]; exact (Below.refl _ _).alloc (Nat.le_refl _) _)
  have r1 : w1.heap[w.heap.size]? = some (.cells #[.int .i64 2, .int .i64 (k : Int), .int .i64 (z : Int), .int .i64 (u : Int)] 25 (0, 0)) := by rw [← hw1]; exact heap_alloc_new _ _
  have e0 := cell_of_row w1 _ 0 _ _ _ r1
  have e1 := cell_of_row w1 _ 1 _ _ _ r1
  have e2 := cell_of_row w1 _ 2 _ _ _ r1
  have e3 := cell_of_row w1 _ 3 _ _ _ r1
  simp at e0 e1 e2 e3
  have lm := hm.lt
  have A0 : ∀ ob, (w.alloc ob).cell? ⟨mb, 0, none⟩ = some (.slice (some ⟨g, off, none⟩) n c) := fun ob => (World.cell?_alloc_lt _ _ ⟨mb, 0, none⟩ lm).trans m0
  have A5 : ∀ ob, (w.alloc ob).cell? ⟨mb, 5, none⟩ = some (.int .i64 (t : Int)) := fun ob => (World.cell?_alloc_lt _ _ ⟨mb, 5, none⟩ lm).trans m5
  have C0 : ∀ ob, (w.alloc ob).cell? ⟨g, off + t * 4, none⟩ = some (.int .i64 2) := fun ob => (World.cell?_alloc_lt _ _ ⟨g, off + t * 4, none⟩ hg).trans c0
  have C1 : ∀ ob, (w.alloc ob).cell? ⟨g, off + t * 4 + 1, none⟩ = some (.int .i64 (k : Int)) := fun ob => (World.cell?_alloc_lt _ _ ⟨g, off + t * 4 + 1, none⟩ hg).trans c1
  have C2 : ∀ ob, (w.alloc ob).cell? ⟨g, off + t * 4 + 2, none⟩ = some (.int .i64 (z : Int)) := fun ob => (World.cell?_alloc_lt _ _ ⟨g, off + t * 4 + 2, none⟩ hg).trans c2
  have C3 : ∀ ob, (w.alloc ob).cell? ⟨g, off + t * 4 + 3, none⟩ = some (.int .i64 (u : Int)) := fun ob => (World.cell?_alloc_lt _ _ ⟨g, off + t * 4 + 3, none⟩ hg).trans c3
  have M1 := hide' (hm.below B1.out hm.lt)
  have ok := hok k (by omega)
  have IN := hide' (show Calls Tryz.prog 33 #[.pointer (some ⟨mb, 0, none⟩), .agg #[.int .i64 2, .int .i64 (k : Int), .int .i64 (z : Int), .int .i64 (u : Int)]] w1.drew fun x w' => x = .returned (.tuple #[]) ∧ MaB w' mb (.slice (some ⟨g, off, none⟩) n c) (nextM xs (cs, t)).1 (nextM xs (cs, t)).2 ∧ Below B w1.drew w' from by
    rw [NX.out]
    by_cases z0 : cs k = 0
    · rw [if_pos z0]; exact dec_zero 2 z u k mb B (by omega) _ cs t w1.drew M1.out.drew z0 hB
    · rw [if_neg z0]; exact dec_some 2 u z k mb B (by omega) _ cs t w1.drew M1.out.drew z0 ok.1 ok.2 hB)
  have BB := hide' (show Below B w w1.drew from (B1.out.drew).mono (by omega))
  clear hm hP hx hs r1 lm ha hz ok hok NX
  go_enter Tryz.func16, Tryz.ntmps16
  go_wp2
  go_region
  clear hw1 A0 A5 C0 C1 C2 C3 c0 c1 c2 c3 m0 m5
  go_wp2_with fail
  refine IN.out.mono ?_
  rintro x w2 ⟨rfl, m2, b2⟩
  go_wp2
  go_ret
  exact ⟨rfl, m2, BB.out.trans b2⟩
end Go.Proofs.YtcfoeadfhkojeaaGreatDoor

namespace Go.Proofs.YtcfoeadfhkojeaaGreatDoor
open Go.RowKit
set_option linter.unusedVariables false
/-- What is wrong with fuel. -/
def fuelE (f : Int) : Nat := if f < 0 ∨ 100000 < f then 1 else 0
theorem checkFuel_any (f : Int) (w : World) : Calls Tryz.prog 30 #[.int .i64 f] w fun e w' => e = .returned (errOf (fuelE f)) ∧ w' = w := by
  by_cases h1 : f < 0
  · have h2 : ¬ 100000 < f := by omega
    have F := hide' (show fuelE f = 1 by unfold fuelE; rw [if_pos (Or.inl h1)])
    go_enter Tryz.func30, Tryz.ntmps30
    go_wp2
    go_ret
    rw [F.out]; exact ⟨rfl, rfl⟩
  · by_cases h2 : 100000 < f
    · have F := hide' (show fuelE f = 1 by unfold fuelE; rw [if_pos (Or.inr h2)])
      go_enter Tryz.func30, Tryz.ntmps30
      go_wp2
      go_ret
      rw [F.out]; exact ⟨rfl, rfl⟩
    · have F := hide' (show fuelE f = 0 by unfold fuelE; rw [if_neg (by omega)])
      go_enter Tryz.func30, Tryz.ntmps30
      go_wp2
      go_ret
      rw [F.out]; exact ⟨rfl, rfl⟩
/-- What is wrong with a run. -/
def runE (xs : List InsT) (cs : List Int) (f : Int) : Nat := if codeE xs ≠ 0 then codeE xs else if cs.length ≠ 4 then 3 else if cs.all (fun v => decide (0 ≤ v) && decide (v ≤ 1000000)) then (fuelE f) else 1
theorem errOf_is {f : Nat} (h : f ≠ 0) : errOf f = .iface 73 (.int .i64 (f : Int)) := by unfold errOf; rw [if_neg h]
set_option maxRecDepth 100000 in
set_option maxHeartbeats 6400000 in
theorem checkRunC_any (xs : List InsT) (a : Option Addr) (n c : Nat) (cs : List Int) (b : Option Addr) (m d : Nat) (f : Int) (w : World) (hP : ArgI w xs a n c) (hU : UsT w) (hC : ArgP w cs b m d) :
    Calls Tryz.prog 14 #[.slice a n c, .slice b m d, .int .i64 f] w fun e w' => e = .returned (errOf (runE xs cs f)) ∧ Below w.heap.size w w' := by
  have CK := hide' (counterCheck_any xs a n c w hP hU)
  by_cases h0 : codeE xs = 0
  · rw [h0, show errOf 0 = .nilIface from rfl] at CK
    have hl := hC.len
    have HL := hide' hl
    by_cases h4 : m = 4
    · have HC := hide' (fun (V : World) (h : Below w.heap.size w V) => hC.below h)
      have m4 : (m : Int) = 4 := by omega
      have FU := hide' (fun V => checkFuel_any f V)
      have RE := hide' (show cs.all (fun v => decide (0 ≤ v) && decide (v ≤ 1000000)) = true → runE xs cs f = (fuelE f) from fun q => by unfold runE; rw [if_neg (by simp [h0]), if_neg (by omega), if_pos q])
      have RB := hide' (show ¬ cs.all (fun v => decide (0 ≤ v) && decide (v ≤ 1000000)) = true → runE xs cs f = 1 from fun q => by unfold runE; rw [if_neg (by simp [h0]), if_neg (by omega), if_neg q])
      clear hC hP hU h0 hl
      subst h4
      go_enter Tryz.func14, Tryz.ntmps14
      go_wp2_with fail
      refine CK.out.mono ?_
      rintro e w1 ⟨rfl, b1⟩
      go_wp2
      go_loopw [21] (fun kv wr => ∃ k : Nat, kv = .int .i64 (k : Int) ∧ k ≤ 4 ∧ w1 = wr ∧ Hid (∀ j (h : j < cs.length), j < k → 0 ≤ cs[j] ∧ cs[j] ≤ 1000000)) (fun kv _ => 4 - (intOf kv).toNat)
      case atStart => exact ⟨0, rfl, by omega, rfl, hide' (fun j h hj => by omega)⟩
      case round =>
        obtain ⟨k, rfl, hk, rfl, HA⟩ := hrel
        by_cases dk : (k : Int) < 4
        · have hkl : k < cs.length := by have := HL.out; omega
          obtain ⟨g, off, rfl, hg, c0⟩ := (HC.out w1 b1).cells k hkl
          obtain ⟨v, hv⟩ : ∃ v, cs[k] = v := ⟨_, rfl⟩
          rw [hv] at c0
          have i0 : (0 : Int) ≤ (k : Int) := by omega
          have HV := hide' hv
          clear hv
          have bad : ¬ (0 ≤ v ∧ v ≤ 1000000) → runE xs cs f = 1 := fun q => RB.out fun al => by
            have := List.all_eq_true.1 al cs[k] (List.getElem_mem hkl)
            rw [HV.out] at this
            simp at this
            exact q this
          have BAD := hide' bad
          clear bad
          by_cases v0 : v < 0
          · have v1 : ¬ 1000000 < v := by omega
            have X := hide' (BAD.out (by omega))
            go_wp2
            go_ret
            rw [X.out]; exact ⟨rfl, b1⟩
          · by_cases v1 : 1000000 < v
            · have X := hide' (BAD.out (by omega))
              go_wp2
              go_ret
              rw [X.out]; exact ⟨rfl, b1⟩
            · go_wp2
              refine ⟨⟨k + 1, by go_num, by omega, by simp, hide' fun j h hj => ?_⟩, by simp [intOf]; omega⟩
              by_cases e : j = k
              · subst e; rw [HV.out]; omega
              · exact HA.out j h (by omega)
        · have X := hide' (RE.out (List.all_eq_true.2 fun x hx => by
            obtain ⟨j, hj, rfl⟩ := List.getElem_of_mem hx
            have := HA.out j hj (by have := HL.out; omega)
            simp; omega))
          go_wp2_with fail
          refine (FU.out _).mono ?_
          rintro e w2 ⟨rfl, rfl⟩
          go_wp2
          go_ret
          rw [X.out]; exact ⟨rfl, b1⟩
    · have X := hide' (show runE xs cs f = 3 by unfold runE; rw [if_neg (by simp [h0]), if_pos (by omega)])
      have m4 : ¬ (m : Int) = 4 := by omega
      clear hC hP hU h0 hl h4
      go_enter Tryz.func14, Tryz.ntmps14
      go_wp2_with fail
      refine CK.out.mono ?_
      rintro e w1 ⟨rfl, b1⟩
      go_wp2
      go_ret
      rw [X.out]; exact ⟨rfl, b1⟩
  · have X := hide' (show runE xs cs f = codeE xs by unfold runE; rw [if_pos h0])
    rw [errOf_is h0] at CK
    have E := hide' (errOf_is h0)
    clear hC hP hU h0
    go_enter Tryz.func14, Tryz.ntmps14
    go_wp2_with fail
    refine CK.out.mono ?_
    rintro e w1 ⟨rfl, b1⟩
    go_wp2
    go_ret
    rw [X.out, E.out]; exact ⟨rfl, b1⟩
end Go.Proofs.YtcfoeadfhkojeaaGreatDoor

