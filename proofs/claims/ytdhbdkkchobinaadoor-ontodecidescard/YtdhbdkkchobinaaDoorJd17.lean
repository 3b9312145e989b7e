/-
  What the last text of this claim leans on, part 17: Oc5.
-/
import Derived.Test.YtdhbdkkchobinaaDoorJd16
namespace Go.Proofs.YtdhbdkkchobinaaDoor
open Go.RowKit
set_option linter.unusedVariables false

set_option maxRecDepth 100000 in
set_option maxHeartbeats 1600000 in
theorem alike_any (a b : Nat) (β : Bool) (hβ : decide (a = b) = β) (w : World) :
    Calls Tryd.prog 188 #[.agg #[.int .i64 (a : Int), .int .i64 (b : Int)]] w fun e w' => e = .returned (.bool β) ∧ Below w.heap.size w w' := by
  obtain ⟨w1, hw1⟩ : ∃ w1, w.alloc (.cells #[.int .i64 (a : Int), .int .i64 (b : Int)] 193) = w1 := ⟨_, rfl⟩
  have BB := hide' (show Below w.heap.size w w1 by rw [← hw1]; exact (Below.refl _ _).alloc (Nat.le_refl _) _)
  have BX := hide' (show Blk w1 w.heap.size #[.int .i64 (a : Int), .int .i64 (b : Int)] 193 by rw [← hw1]; exact Blk.new _ _ _)
  have c0 : w1.cell? ⟨w.heap.size, 0, none⟩ = some (.int .i64 (a : Int)) := BX.out.cell 0
  have c1 : w1.cell? ⟨w.heap.size, 1, none⟩ = some (.int .i64 (b : Int)) := BX.out.cell 1
  have e1 : ((a : Int) == (b : Int)) = β := by
    rw [← hβ]
    by_cases h : a = b
    · simp [h]
    · simp [h, show ¬ (a : Int) = (b : Int) by omega]
  clear hβ
  go_enter Tryd.func188, Tryd.ntmps188
  go_wp2
  go_ret
  exact ⟨rfl, BB.out⟩

/-- What rings wants of a way. -/
def wantR (x y p' q' a b : Nat) : Bool := decide (p' = x ∧ q' = y) && !decide (a = b)
set_option maxRecDepth 100000 in
set_option maxHeartbeats 1600000 in
theorem wantR_any (x y p q p' q' a b : Nat) (pst : Nat) (w : World) (hP : PB pst x y w) :
    Calls Tryd.prog 192 #[.agg #[.int .i64 (p : Int), .int .i64 (q : Int), .int .i64 (p' : Int), .int .i64 (q' : Int), .int .i64 (a : Int), .int .i64 (b : Int)], .pointer (some ⟨pst, 0, none⟩)] w fun e w' => e = .returned (.bool (wantR x y p' q' a b)) ∧ Below w.heap.size w w' := by
  obtain ⟨w1, hw1⟩ : ∃ w1, w.alloc (.cells #[.int .i64 (p : Int), .int .i64 (q : Int), .int .i64 (p' : Int), .int .i64 (q' : Int), .int .i64 (a : Int), .int .i64 (b : Int)] 197) = w1 := ⟨_, rfl⟩
  have BB := hide' (show Below w.heap.size w w1 by rw [← hw1]; exact (Below.refl _ _).alloc (Nat.le_refl _) _)
  have BX := hide' (show Blk w1 w.heap.size #[.int .i64 (p : Int), .int .i64 (q : Int), .int .i64 (p' : Int), .int .i64 (q' : Int), .int .i64 (a : Int), .int .i64 (b : Int)] 197 by rw [← hw1]; exact Blk.new _ _ _)
  have c2 : w1.cell? ⟨w.heap.size, 2, none⟩ = some (.int .i64 (p' : Int)) := BX.out.cell 2
  have c3 : w1.cell? ⟨w.heap.size, 3, none⟩ = some (.int .i64 (q' : Int)) := BX.out.cell 3
  have c4 : w1.cell? ⟨w.heap.size, 4, none⟩ = some (.int .i64 (a : Int)) := BX.out.cell 4
  have c5 : w1.cell? ⟨w.heap.size, 5, none⟩ = some (.int .i64 (b : Int)) := BX.out.cell 5
  obtain ⟨d0, d1⟩ := hP.block (BB.out.block pst hP.lt)
  clear hP
  by_cases e1 : p' = x
  · subst e1
    by_cases e2 : q' = y
    · subst e2
      obtain ⟨β, hβ⟩ : ∃ β, decide (a = b) = β := ⟨_, rfl⟩
      have AL := hide' (fun (wr : World) => alike_any a b β hβ wr)
      have E := hide' (show wantR p' q' p' q' a b = !β by unfold wantR; rw [hβ]; simp)
      rw [E.out]
      clear hβ E
      go_enter Tryd.func192, Tryd.ntmps192
      go_wp2_with fail
      refine (AL.out _).mono ?_
      rintro e w2 ⟨rfl, b2⟩
      have B2 := hide' (BB.out.trans (b2.mono BB.out.size))
      clear b2
      go_wp2
      go_ret
      exact ⟨rfl, B2.out⟩
    · have n2 : ¬ (q' : Int) = (y : Int) := by omega
      have E := hide' (show wantR p' y p' q' a b = false by unfold wantR; simp [e2])
      rw [E.out]
      clear e2
      go_enter Tryd.func192, Tryd.ntmps192
      go_wp2
      go_ret
      exact ⟨rfl, BB.out⟩
  · have n1 : ¬ (p' : Int) = (x : Int) := by omega
    have E := hide' (show wantR x y p' q' a b = false by unfold wantR; simp [e1])
    rw [E.out]
    clear e1
    go_enter Tryd.func192, Tryd.ntmps192
    go_wp2
    go_ret
    exact ⟨rfl, BB.out⟩

/-- What twins wants of a way. -/
def wantT (p q p' q' a b : Nat) : Bool := decide (p' = q') && !(decide (p = q) && decide (a = b))
set_option maxRecDepth 100000 in
set_option maxHeartbeats 1600000 in
theorem wantT_any (p q p' q' a b : Nat) (w : World) :
    Calls Tryd.prog 187 #[.agg #[.int .i64 (p : Int), .int .i64 (q : Int), .int .i64 (p' : Int), .int .i64 (q' : Int), .int .i64 (a : Int), .int .i64 (b : Int)]] w fun e w' => e = .returned (.bool (wantT p q p' q' a b)) ∧ Below w.heap.size w w' := by
  obtain ⟨w1, hw1⟩ : ∃ w1, w.alloc (.cells #[.int .i64 (p : Int), .int .i64 (q : Int), .int .i64 (p' : Int), .int .i64 (q' : Int), .int .i64 (a : Int), .int .i64 (b : Int)] 197) = w1 := ⟨_, rfl⟩
  have BB := hide' (show Below w.heap.size w w1 by rw [← hw1]; exact (Below.refl _ _).alloc (Nat.le_refl _) _)
  have BX := hide' (show Blk w1 w.heap.size #[.int .i64 (p : Int), .int .i64 (q : Int), .int .i64 (p' : Int), .int .i64 (q' : Int), .int .i64 (a : Int), .int .i64 (b : Int)] 197 by rw [← hw1]; exact Blk.new _ _ _)
  have c0 : w1.cell? ⟨w.heap.size, 0, none⟩ = some (.int .i64 (p : Int)) := BX.out.cell 0
  have c1 : w1.cell? ⟨w.heap.size, 1, none⟩ = some (.int .i64 (q : Int)) := BX.out.cell 1
  have c2 : w1.cell? ⟨w.heap.size, 2, none⟩ = some (.int .i64 (p' : Int)) := BX.out.cell 2
  have c3 : w1.cell? ⟨w.heap.size, 3, none⟩ = some (.int .i64 (q' : Int)) := BX.out.cell 3
  have A1 := hide' (fun (wr : World) (β : Bool) (h : decide (p' = q') = β) => alike_any p' q' β h wr)
  have A2 := hide' (fun (wr : World) (β : Bool) (h : decide (p = q) = β) => alike_any p q β h wr)
  have A3 := hide' (fun (wr : World) (β : Bool) (h : decide (a = b) = β) => alike_any a b β h wr)
  obtain ⟨β1, h1⟩ : ∃ β, decide (p' = q') = β := ⟨_, rfl⟩
  obtain ⟨β2, h2⟩ : ∃ β, decide (p = q) = β := ⟨_, rfl⟩
  obtain ⟨β3, h3⟩ : ∃ β, decide (a = b) = β := ⟨_, rfl⟩
  have H1 := hide' h1
  have H2 := hide' h2
  have H3 := hide' h3
  have E := hide' (show wantT p q p' q' a b = (β1 && !(β2 && β3)) by unfold wantT; rw [h1, h2, h3])
  rw [E.out]
  clear E h1 h2 h3
  cases β1 with
  | false =>
    go_enter Tryd.func187, Tryd.ntmps187
    go_wp2_with fail
    refine (A1.out _ _ H1.out).mono ?_
    rintro e w2 ⟨rfl, b2⟩
    have B2 := hide' (BB.out.trans (b2.mono BB.out.size))
    clear b2
    go_wp2
    go_ret
    exact ⟨rfl, B2.out⟩
  | true =>
    go_enter Tryd.func187, Tryd.ntmps187
    go_wp2_with fail
    refine (A1.out _ _ H1.out).mono ?_
    rintro e w2 ⟨rfl, b2⟩
    have B2 := hide' (BB.out.trans (b2.mono BB.out.size))
    have BX2 := hide' (BX.out.of (b2.block w.heap.size BX.out.lt))
    clear b2 c0 c1 c2 c3
    have c0 : w2.cell? ⟨w.heap.size, 0, none⟩ = some (.int .i64 (p : Int)) := BX2.out.cell 0
    have c1 : w2.cell? ⟨w.heap.size, 1, none⟩ = some (.int .i64 (q : Int)) := BX2.out.cell 1
    go_wp2_with fail
    refine (A2.out _ _ H2.out).mono ?_
    rintro e w3 ⟨rfl, b3⟩
    have B3 := hide' (B2.out.trans (b3.mono B2.out.size))
    have BX3 := hide' (BX2.out.of (b3.block w.heap.size BX2.out.lt))
    clear b3 c0 c1
    cases β2 with
    | false =>
      go_wp2
      go_ret
      exact ⟨rfl, B3.out⟩
    | true =>
      have c4 : w3.cell? ⟨w.heap.size, 4, none⟩ = some (.int .i64 (a : Int)) := BX3.out.cell 4
      have c5 : w3.cell? ⟨w.heap.size, 5, none⟩ = some (.int .i64 (b : Int)) := BX3.out.cell 5
      go_wp2_with fail
      refine (A3.out _ _ H3.out).mono ?_
      rintro e w4 ⟨rfl, b4⟩
      have B4 := hide' (B3.out.trans (b4.mono B3.out.size))
      clear b4
      go_wp2
      go_ret
      exact ⟨by simp, B4.out⟩
end Go.Proofs.YtdhbdkkchobinaaDoor

