/-
  The drawing of package pattern in memory; endRow, take.
-/
import Derived.Test.YtpbcgojfpmpgpaaDoorOw
import Derived.Test.YtpbcgojfpmpgpaaDoorPa6
import Derived.Test.YtpbcgojfpmpgpaaDoorDSpec
namespace Go.Proofs.YtpbcgojfpmpgpaaDoor
open Go.RowKit
set_option linter.unusedVariables false

/-- Of the blocks below base, b alone may have turned. -/
structure DRd (b base : Nat) (w w' : World) : Prop where
  os : w'.os = w.os
  tape : w'.tape = w.tape
  output : w'.output = w.output
  size : w.heap.size ≤ w'.heap.size
  block : ∀ k, k < base → k ≠ b → w'.heap[k]? = w.heap[k]?
theorem DRd.refl (b base : Nat) (w : World) : DRd b base w w := ⟨rfl, rfl, rfl, Nat.le_refl _, fun _ _ _ => rfl⟩
theorem DRd.trans {b base : Nat} {a c d : World} (h : DRd b base a c) (k : DRd b base c d) : DRd b base a d :=
  ⟨k.os.trans h.os, k.tape.trans h.tape, k.output.trans h.output, Nat.le_trans h.size k.size, fun i hi hb => (k.block i hi hb).trans (h.block i hi hb)⟩
theorem DRd.set {b base : Nat} {a w : World} (h : DRd b base a w) (o : Nat) (u : Value) : DRd b base a (w.setCell ⟨b, o, none⟩ u) :=
  h.trans ⟨rfl, rfl, rfl, by simp [World.setCell], fun k _ hk => Below.heap_setCell _ _ _ _ hk⟩
theorem DRd.drewN {b base : Nat} {a w : World} (h : DRd b base a w) (n : Nat) : DRd b base a (w.drewN n) := h.trans ⟨rfl, rfl, rfl, Nat.le_refl _, fun _ _ _ => rfl⟩

/-- The drawing at b: its sides so far, the slice of its cells, where its row begins, how many it has. -/
structure DAt (b : Nat) (W H : Nat) (v : Value) (r n : Nat) (w : World) : Prop where
  c0 : w.cell? ⟨b, 0, none⟩ = some (.int .i64 (W : Int))
  c1 : w.cell? ⟨b, 1, none⟩ = some (.int .i64 (H : Int))
  c2 : w.cell? ⟨b, 2, none⟩ = some v
  c3 : w.cell? ⟨b, 3, none⟩ = some (.int .i64 (r : Int))
  c4 : w.cell? ⟨b, 4, none⟩ = some (.int .i64 (n : Int))
  fz : ∀ k, w.frozen? ⟨b, k, none⟩ = false
theorem DAt.block {b W H : Nat} {v : Value} {r n : Nat} {w w' : World} (h : DAt b W H v r n w) (e : w'.heap[b]? = w.heap[b]?) : DAt b W H v r n w' :=
  ⟨(World.cell?_of_block (w := w) (a := ⟨b, 0, none⟩) e).trans h.c0, (World.cell?_of_block (w := w) (a := ⟨b, 1, none⟩) e).trans h.c1, (World.cell?_of_block (w := w) (a := ⟨b, 2, none⟩) e).trans h.c2, (World.cell?_of_block (w := w) (a := ⟨b, 3, none⟩) e).trans h.c3, (World.cell?_of_block (w := w) (a := ⟨b, 4, none⟩) e).trans h.c4,
   fun k => (World.frozen?_of_block (w := w) (a := ⟨b, k, none⟩) e).trans (h.fz k)⟩
theorem DAt.drewN {b W H : Nat} {v : Value} {r n : Nat} {w : World} (h : DAt b W H v r n w) (m : Nat) : DAt b W H v r n (w.drewN m) := h.block rfl
theorem cell_same {w : World} {b k : Nat} {v u : Value} (h : w.cell? ⟨b, k, none⟩ = some v) : (w.setCell ⟨b, k, none⟩ u).cell? ⟨b, k, none⟩ = some u := World.cell?_setCell_same _ _ _ h
theorem cell_other {w : World} {b k j : Nat} {v u : Value} (h : w.cell? ⟨b, j, none⟩ = some v) (hk : k ≠ j) : (w.setCell ⟨b, k, none⟩ u).cell? ⟨b, j, none⟩ = some v :=
  (World.cell?_setCell_other _ ⟨b, k, none⟩ ⟨b, j, none⟩ _ (fun q => hk (congrArg Addr.off q))).trans h
theorem DAt.set0 {b W H : Nat} {v : Value} {r n : Nat} {w : World} (h : DAt b W H v r n w) (x : Nat) : DAt b x H v r n (w.setCell ⟨b, 0, none⟩ (.int .i64 (x : Int))) :=
  ⟨cell_same h.c0, cell_other h.c1 (by omega), cell_other h.c2 (by omega), cell_other h.c3 (by omega), cell_other h.c4 (by omega), fun k => by rw [World.frozen?_setCell]; exact h.fz k⟩
theorem DAt.set1 {b W H : Nat} {v : Value} {r n : Nat} {w : World} (h : DAt b W H v r n w) (x : Nat) : DAt b W x v r n (w.setCell ⟨b, 1, none⟩ (.int .i64 (x : Int))) :=
  ⟨cell_other h.c0 (by omega), cell_same h.c1, cell_other h.c2 (by omega), cell_other h.c3 (by omega), cell_other h.c4 (by omega), fun k => by rw [World.frozen?_setCell]; exact h.fz k⟩
theorem DAt.set2 {b W H : Nat} {v : Value} {r n : Nat} {w : World} (h : DAt b W H v r n w) (x : Value) : DAt b W H x r n (w.setCell ⟨b, 2, none⟩ x) :=
  ⟨cell_other h.c0 (by omega), cell_other h.c1 (by omega), cell_same h.c2, cell_other h.c3 (by omega), cell_other h.c4 (by omega), fun k => by rw [World.frozen?_setCell]; exact h.fz k⟩
theorem DAt.set3 {b W H : Nat} {v : Value} {r n : Nat} {w : World} (h : DAt b W H v r n w) (x : Nat) : DAt b W H v x n (w.setCell ⟨b, 3, none⟩ (.int .i64 (x : Int))) :=
  ⟨cell_other h.c0 (by omega), cell_other h.c1 (by omega), cell_other h.c2 (by omega), cell_same h.c3, cell_other h.c4 (by omega), fun k => by rw [World.frozen?_setCell]; exact h.fz k⟩
theorem DAt.set4 {b W H : Nat} {v : Value} {r n : Nat} {w : World} (h : DAt b W H v r n w) (x : Nat) : DAt b W H v r x (w.setCell ⟨b, 4, none⟩ (.int .i64 (x : Int))) :=
  ⟨cell_other h.c0 (by omega), cell_other h.c1 (by omega), cell_other h.c2 (by omega), cell_other h.c3 (by omega), cell_same h.c4, fun k => by rw [World.frozen?_setCell]; exact h.fz k⟩

set_option maxHeartbeats 1600000 in
theorem pendRow (b W H : Nat) (v : Value) (r n at_ : Nat) (A : Int) (w : World) (hA : A = at_) (h : DAt b W H v r n w) (hat : at_ ≤ 40000) (hH : H < 100) (hn : n ≤ 100) :
    Calls Tryd.prog 105 #[.pointer (some ⟨b, 0, none⟩), .int .i64 A] w fun e w' => Rd b w w' ∧ (((0 < H ∧ n ≠ W) ∧ e = .returned (.tuple #[.int .i64 (r : Int), .iface 72 (.int .i64 3)])) ∨ (¬ (0 < H ∧ n ≠ W) ∧ e = .returned (.tuple #[.int .i64 0, .nilIface]) ∧ DAt b n (H + 1) v (at_ + 1) 0 w')) := by
  subst hA
  have D := hide' h
  have z0 := h.fz 0
  have z1 := h.fz 1
  have z3 := h.fz 3
  have z4 := h.fz 4
  obtain ⟨c0, c1, c2, c3, c4, -⟩ := h
  by_cases q : H = 0
  · have m1 : ((H : Int) == 0) = true := by simp; omega
    have m2 : ((n : Int) != (n : Int)) = false := by simp
    have Q := hide' q
    clear q
    go_enter Tryd.func105, Tryd.ntmps105
    go_wp2
    go_quiet (fail)
    go_wp2
    go_ret2
    refine ⟨(((((Rd.refl _ _).set _ _).drewN _).set _ _).set _ _).set _ _, Or.inr ⟨by have := Q.out; omega, rfl, ?_⟩⟩
    rw [show (H : Int) + 1 = ((H + 1 : Nat) : Int) by omega, show (at_ : Int) + 1 = ((at_ + 1 : Nat) : Int) by omega]
    exact ((((D.out.set0 n).drewN _).set1 (H + 1)).set3 (at_ + 1)).set4 0
  · have m1 : ((H : Int) == 0) = false := by simp; omega
    by_cases q2 : n = W
    · have m2 : ((n : Int) != (W : Int)) = false := by simp; omega
      have Q := hide' q2
      clear q2
      go_enter Tryd.func105, Tryd.ntmps105
      go_wp2
      go_quiet (fail)
      go_wp2
      go_ret2
      refine ⟨((((Rd.refl _ _).drewN _).set _ _).set _ _).set _ _, Or.inr ⟨fun h => h.2 Q.out, rfl, ?_⟩⟩
      rw [show (H : Int) + 1 = ((H + 1 : Nat) : Int) by omega, show (at_ : Int) + 1 = ((at_ + 1 : Nat) : Int) by omega]
      rw [show n = W from Q.out]
      exact (((D.out.drewN _).set1 (H + 1)).set3 (at_ + 1)).set4 0
    · have m2 : ((n : Int) != (W : Int)) = true := by simp; omega
      have Q := hide' q2
      clear q2
      go_enter Tryd.func105, Tryd.ntmps105
      go_wp2
      go_quiet (fail)
      go_wp2
      go_ret2
      exact ⟨(Rd.refl _ _).drewN _, Or.inl ⟨⟨by omega, Q.out⟩, rfl⟩⟩

/-- The three ways in which take ends by an error. -/
theorem ptake_syntax (b W H : Nat) (v : Value) (r n at_ : Nat) (A c : Int) (w : World) (hA : A = at_) (h : DAt b W H v r n w) (h1 : ¬ c = 183) (h2 : ¬ c = 9679) (h3 : ¬ c = 10) :
    Calls Tryd.prog 77 #[.pointer (some ⟨b, 0, none⟩), .int .i64 A, .int .i32 c] w fun e w' => e = .returned (.tuple #[.int .i64 (at_ : Int), .iface 72 (.int .i64 2)]) ∧ Rd b w w' := by
  subst hA
  have m1 : (c != 183) = true := by simp [h1]
  have m2 : (c != 9679) = true := by simp [h2]
  have m3 : (c != 10) = true := by simp [h3]
  clear h1 h2 h3
  go_enter Tryd.func77, Tryd.ntmps77
  go_wp2
  go_ret2
  exact ⟨rfl, Rd.refl _ _⟩

theorem ptake_high (b W H : Nat) (v : Value) (r n at_ : Nat) (A c : Int) (w : World) (hA : A = at_) (h : DAt b W H v r n w) (h1 : c = 183 ∨ c = 9679 ∨ c = 10) (hH : H = 100) :
    Calls Tryd.prog 77 #[.pointer (some ⟨b, 0, none⟩), .int .i64 A, .int .i32 c] w fun e w' => e = .returned (.tuple #[.int .i64 (at_ : Int), .iface 72 (.int .i64 1)]) ∧ Rd b w w' := by
  subst hA
  obtain ⟨c0, c1, c2, c3, c4, z⟩ := h
  have m0 : ((H : Int) == 100) = true := by simp; omega
  clear hH
  rcases h1 with rfl | rfl | rfl
  · go_enter Tryd.func77, Tryd.ntmps77
    go_wp2
    go_ret2
    exact ⟨rfl, Rd.refl _ _⟩
  · go_enter Tryd.func77, Tryd.ntmps77
    go_wp2
    go_ret2
    exact ⟨rfl, Rd.refl _ _⟩
  · go_enter Tryd.func77, Tryd.ntmps77
    go_wp2
    go_ret2
    exact ⟨rfl, Rd.refl _ _⟩

theorem ptake_wide (b W H : Nat) (v : Value) (r n at_ : Nat) (A c : Int) (w : World) (hA : A = at_) (h : DAt b W H v r n w) (h1 : c = 183 ∨ c = 9679) (hH : ¬ H = 100) (hn : n = 100) :
    Calls Tryd.prog 77 #[.pointer (some ⟨b, 0, none⟩), .int .i64 A, .int .i32 c] w fun e w' => e = .returned (.tuple #[.int .i64 (at_ : Int), .iface 72 (.int .i64 1)]) ∧ Rd b w w' := by
  subst hA
  obtain ⟨c0, c1, c2, c3, c4, z⟩ := h
  have m0 : ((H : Int) == 100) = false := by simp; omega
  have m1 : ((n : Int) == 100) = true := by simp; omega
  clear hH hn
  rcases h1 with rfl | rfl
  · go_enter Tryd.func77, Tryd.ntmps77
    go_wp2
    go_ret2
    exact ⟨rfl, Rd.refl _ _⟩
  · go_enter Tryd.func77, Tryd.ntmps77
    go_wp2
    go_ret2
    exact ⟨rfl, Rd.refl _ _⟩

theorem ptake_row (b W H : Nat) (v : Value) (r n at_ : Nat) (A : Int) (w : World) (hA : A = at_) (h : DAt b W H v r n w) (hat : at_ ≤ 40000) (hH : ¬ H = 100) (hH' : H ≤ 100) (hn : n ≤ 100) :
    Calls Tryd.prog 77 #[.pointer (some ⟨b, 0, none⟩), .int .i64 A, .int .i32 10] w fun e w' => Rd b w w' ∧ (((0 < H ∧ n ≠ W) ∧ e = .returned (.tuple #[.int .i64 (r : Int), .iface 72 (.int .i64 3)])) ∨ (¬ (0 < H ∧ n ≠ W) ∧ e = .returned (.tuple #[.int .i64 0, .nilIface]) ∧ DAt b n (H + 1) v (at_ + 1) 0 w')) := by
  subst hA
  have D := hide' h
  obtain ⟨c0, c1, c2, c3, c4, z⟩ := h
  have m0 : ((H : Int) == 100) = false := by simp; omega
  go_enter Tryd.func77, Tryd.ntmps77
  go_wp2_with fail
  refine (pendRow b W H v r n at_ _ _ rfl D.out hat (by omega) hn).mono ?_
  rintro e w1 ⟨r1, (⟨q, rfl⟩ | ⟨q, rfl, d⟩)⟩
  · go_wp2
    go_ret2
    exact ⟨r1, Or.inl ⟨q, rfl⟩⟩
  · have DD := hide' d
    clear d
    go_wp2
    go_ret2
    exact ⟨r1, Or.inr ⟨q, rfl, DD.out⟩⟩
end Go.Proofs.YtpbcgojfpmpgpaaDoor
