/-
  What the last text of this claim leans on, part 8: Da1, Da2.
-/
import Derived.Test.YtjngjnkecnnmeaaDoorJr4
import Derived.Test.YtjngjnkecnnmeaaDoorJr7
namespace Go.Proofs.YtjngjnkecnnmeaaDoor
open Go.RowKit
set_option linter.unusedVariables false

/-- Of the blocks below base, b alone may have turned. -/
structure DRd (b base : Nat) (w w' : World) : Prop where
  os : w'.os = w.os
  tape : w'.tape = w.tape
  output : w'.output = w.output
  size : w.heap.size ≤ w'.heap.size
  block : ∀ k, k < base → k ≠ b → w'.heap[k]? = w.heap[k]?
theorem DRd.refl (b base : Nat) (w : World) : DRd b base w w := ⟨rfl, rfl, rfl, Nat.le_refl _, fun _ _ _ => rfl⟩
theorem DRd.trans {b base : Nat} {a c d : World} (h : DRd b base a c) (k : DRd b base c d) : DRd b base a d :=
  ⟨k.os.trans h.os, k.tape.trans h.tape, k.output.trans h.output, Nat.le_trans h.size k.size, fun i hi hb => (k.block i hi hb).trans (h.block i hi hb)⟩
theorem DRd.set {b base : Nat} {a w : World} (h : DRd b base a w) (o : Nat) (u : Value) : DRd b base a (w.setCell ⟨b, o, none⟩ u) :=
  h.trans ⟨rfl, rfl, rfl, by simp [World.setCell], fun k _ hk => Below.heap_setCell _ _ _ _ hk⟩
theorem DRd.drewN {b base : Nat} {a w : World} (h : DRd b base a w) (n : Nat) : DRd b base a (w.drewN n) := h.trans ⟨rfl, rfl, rfl, Nat.le_refl _, fun _ _ _ => rfl⟩

/-- The drawing at b: its sides so far, the slice of its cells, where its row begins, how many it has. -/
structure DAt (b : Nat) (W H : Nat) (v : Value) (r n : Nat) (w : World) : Prop where
  c0 : w.cell? ⟨b, 0, none⟩ = some (.int .i64 (W : Int))
  c1 : w.cell? ⟨b, 1, none⟩ = some (.int .i64 (H : Int))
  c2 : w.cell? ⟨b, 2, none⟩ = some v
  c3 : w.cell? ⟨b, 3, none⟩ = some (.int .i64 (r : Int))
  c4 : w.cell? ⟨b, 4, none⟩ = some (.int .i64 (n : Int))
  fz : ∀ k, w.frozen? ⟨b, k, none⟩ = false
theorem DAt.block {b W H : Nat} {v : Value} {r n : Nat} {w w' : World} (h : DAt b W H v r n w) (e : w'.heap[b]? = w.heap[b]?) : DAt b W H v r n w' :=
  ⟨(World.cell?_of_block (w := w) (a := ⟨b, 0, none⟩) e).trans h.c0, (World.cell?_of_block (w := w) (a := ⟨b, 1, none⟩) e).trans h.c1, (World.cell?_of_block (w := w) (a := ⟨b, 2, none⟩) e).trans h.c2, (World.cell?_of_block (w := w) (a := ⟨b, 3, none⟩) e).trans h.c3, (World.cell?_of_block (w := w) (a := ⟨b, 4, none⟩) e).trans h.c4,
   fun k => (World.frozen?_of_block (w := w) (a := ⟨b, k, none⟩) e).trans (h.fz k)⟩
theorem DAt.drewN {b W H : Nat} {v : Value} {r n : Nat} {w : World} (h : DAt b W H v r n w) (m : Nat) : DAt b W H v r n (w.drewN m) := h.block rfl
theorem cell_same {w : World} {b k : Nat} {v u : Value} (h : w.cell? ⟨b, k, none⟩ = some v) : (w.setCell ⟨b, k, none⟩ u).cell? ⟨b, k, none⟩ = some u := World.cell?_setCell_same _ _ _ h
theorem cell_other {w : World} {b k j : Nat} {v u : Value} (h : w.cell? ⟨b, j, none⟩ = some v) (hk : k ≠ j) : (w.setCell ⟨b, k, none⟩ u).cell? ⟨b, j, none⟩ = some v :=
  (World.cell?_setCell_other _ ⟨b, k, none⟩ ⟨b, j, none⟩ _ (fun q => hk (congrArg Addr.off q))).trans h
theorem DAt.set0 {b W H : Nat} {v : Value} {r n : Nat} {w : World} (h : DAt b W H v r n w) (x : Nat) : DAt b x H v r n (w.setCell ⟨b, 0, none⟩ (.int .i64 (x : Int))) :=
  ⟨cell_same h.c0, cell_other h.c1 (by omega), cell_other h.c2 (by omega), cell_other h.c3 (by omega), cell_other h.c4 (by omega), fun k => by rw [World.frozen?_setCell]; exact h.fz k⟩
theorem DAt.set1 {b W H : Nat} {v : Value} {r n : Nat} {w : World} (h : DAt b W H v r n w) (x : Nat) : DAt b W x v r n (w.setCell ⟨b, 1, none⟩ (.int .i64 (x : Int))) :=
  ⟨cell_other h.c0 (by omega), cell_same h.c1, cell_other h.c2 (by omega), cell_other h.c3 (by omega), cell_other h.c4 (by omega), fun k => by rw [World.frozen?_setCell]; exact h.fz k⟩
theorem DAt.set2 {b W H : Nat} {v : Value} {r n : Nat} {w : World} (h : DAt b W H v r n w) (x : Value) : DAt b W H x r n (w.setCell ⟨b, 2, none⟩ x) :=
  ⟨cell_other h.c0 (by omega), cell_other h.c1 (by omega), cell_same h.c2, cell_other h.c3 (by omega), cell_other h.c4 (by omega), fun k => by rw [World.frozen?_setCell]; exact h.fz k⟩
theorem DAt.set3 {b W H : Nat} {v : Value} {r n : Nat} {w : World} (h : DAt b W H v r n w) (x : Nat) : DAt b W H v x n (w.setCell ⟨b, 3, none⟩ (.int .i64 (x : Int))) :=
  ⟨cell_other h.c0 (by omega), cell_other h.c1 (by omega), cell_other h.c2 (by omega), cell_same h.c3, cell_other h.c4 (by omega), fun k => by rw [World.frozen?_setCell]; exact h.fz k⟩
theorem DAt.set4 {b W H : Nat} {v : Value} {r n : Nat} {w : World} (h : DAt b W H v r n w) (x : Nat) : DAt b W H v r x (w.setCell ⟨b, 4, none⟩ (.int .i64 (x : Int))) :=
  ⟨cell_other h.c0 (by omega), cell_other h.c1 (by omega), cell_other h.c2 (by omega), cell_other h.c3 (by omega), cell_same h.c4, fun k => by rw [World.frozen?_setCell]; exact h.fz k⟩

set_option maxHeartbeats 1600000 in
theorem pendRow (b W H : Nat) (v : Value) (r n at_ : Nat) (A : Int) (w : World) (hA : A = at_) (h : DAt b W H v r n w) (hat : at_ ≤ 40000) (hH : H < 100) (hn : n ≤ 100) :
    Calls Tryd.prog 133 #[.pointer (some ⟨b, 0, none⟩), .int .i64 A] w fun e w' => Rd b w w' ∧ (((0 < H ∧ n ≠ W) ∧ e = .returned (.tuple #[.int .i64 (r : Int), .iface 87 (.int .i64 3)])) ∨ (¬ (0 < H ∧ n ≠ W) ∧ e = .returned (.tuple #[.int .i64 0, .nilIface]) ∧ DAt b n (H + 1) v (at_ + 1) 0 w')) := by
  subst hA
  have D := hide' h
  have z0 := h.fz 0
  have z1 := h.fz 1
  have z3 := h.fz 3
  have z4 := h.fz 4
  obtain ⟨c0, c1, c2, c3, c4, -⟩ := h
  by_cases q : H = 0
  · have m1 : ((H : Int) == 0) = true := by simp; omega
    have m2 : ((n : Int) != (n : Int)) = false := by simp
    have Q := hide' q
    clear q
    go_enter Tryd.func133, Tryd.ntmps133
    go_wp2
    go_quiet (fail)
    go_wp2
    go_ret2
    refine ⟨(((((Rd.refl _ _).set _ _).drewN _).set _ _).set _ _).set _ _, Or.inr ⟨by have := Q.out; omega, rfl, ?_⟩⟩
    rw [show (H : Int) + 1 = ((H + 1 : Nat) : Int) by omega, show (at_ : Int) + 1 = ((at_ + 1 : Nat) : Int) by omega]
    exact ((((D.out.set0 n).drewN _).set1 (H + 1)).set3 (at_ + 1)).set4 0
  · have m1 : ((H : Int) == 0) = false := by simp; omega
    by_cases q2 : n = W
    · have m2 : ((n : Int) != (W : Int)) = false := by simp; omega
      have Q := hide' q2
      clear q2
      go_enter Tryd.func133, Tryd.ntmps133
      go_wp2
      go_quiet (fail)
      go_wp2
      go_ret2
      refine ⟨((((Rd.refl _ _).drewN _).set _ _).set _ _).set _ _, Or.inr ⟨fun h => h.2 Q.out, rfl, ?_⟩⟩
      rw [show (H : Int) + 1 = ((H + 1 : Nat) : Int) by omega, show (at_ : Int) + 1 = ((at_ + 1 : Nat) : Int) by omega]
      rw [show n = W from Q.out]
      exact (((D.out.drewN _).set1 (H + 1)).set3 (at_ + 1)).set4 0
    · have m2 : ((n : Int) != (W : Int)) = true := by simp; omega
      have Q := hide' q2
      clear q2
      go_enter Tryd.func133, Tryd.ntmps133
      go_wp2
      go_quiet (fail)
      go_wp2
      go_ret2
      exact ⟨(Rd.refl _ _).drewN _, Or.inl ⟨⟨by omega, Q.out⟩, rfl⟩⟩

/-- The three ways in which take ends by an error. -/
theorem ptake_syntax (b W H : Nat) (v : Value) (r n at_ : Nat) (A c : Int) (w : World) (hA : A = at_) (h : DAt b W H v r n w) (h1 : ¬ c = 183) (h2 : ¬ c = 9679) (h3 : ¬ c = 10) :
    Calls Tryd.prog 94 #[.pointer (some ⟨b, 0, none⟩), .int .i64 A, .int .i32 c] w fun e w' => e = .returned (.tuple #[.int .i64 (at_ : Int), .iface 87 (.int .i64 2)]) ∧ Rd b w w' := by
  subst hA
  have m1 : (c != 183) = true := by simp [h1]
  have m2 : (c != 9679) = true := by simp [h2]
  have m3 : (c != 10) = true := by simp [h3]
  clear h1 h2 h3
  go_enter Tryd.func94, Tryd.ntmps94
  go_wp2
  go_ret2
  exact ⟨rfl, Rd.refl _ _⟩

theorem ptake_high (b W H : Nat) (v : Value) (r n at_ : Nat) (A c : Int) (w : World) (hA : A = at_) (h : DAt b W H v r n w) (h1 : c = 183 ∨ c = 9679 ∨ c = 10) (hH : H = 100) :
    Calls Tryd.prog 94 #[.pointer (some ⟨b, 0, none⟩), .int .i64 A, .int .i32 c] w fun e w' => e = .returned (.tuple #[.int .i64 (at_ : Int), .iface 87 (.int .i64 1)]) ∧ Rd b w w' := by
  subst hA
  obtain ⟨c0, c1, c2, c3, c4, z⟩ := h
  have m0 : ((H : Int) == 100) = true := by simp; omega
  clear hH
  rcases h1 with rfl | rfl | rfl
  · go_enter Tryd.func94, Tryd.ntmps94
    go_wp2
    go_ret2
    exact ⟨rfl, Rd.refl _ _⟩
  · go_enter Tryd.func94, Tryd.ntmps94
    go_wp2
    go_ret2
    exact ⟨rfl, Rd.refl _ _⟩
  · go_enter Tryd.func94, Tryd.ntmps94
    go_wp2
    go_ret2
    exact ⟨rfl, Rd.refl _ _⟩

theorem ptake_wide (b W H : Nat) (v : Value) (r n at_ : Nat) (A c : Int) (w : World) (hA : A = at_) (h : DAt b W H v r n w) (h1 : c = 183 ∨ c = 9679) (hH : ¬ H = 100) (hn : n = 100) :
    Calls Tryd.prog 94 #[.pointer (some ⟨b, 0, none⟩), .int .i64 A, .int .i32 c] w fun e w' => e = .returned (.tuple #[.int .i64 (at_ : Int), .iface 87 (.int .i64 1)]) ∧ Rd b w w' := by
  subst hA
  obtain ⟨c0, c1, c2, c3, c4, z⟩ := h
  have m0 : ((H : Int) == 100) = false := by simp; omega
  have m1 : ((n : Int) == 100) = true := by simp; omega
  clear hH hn
  rcases h1 with rfl | rfl
  · go_enter Tryd.func94, Tryd.ntmps94
    go_wp2
    go_ret2
    exact ⟨rfl, Rd.refl _ _⟩
  · go_enter Tryd.func94, Tryd.ntmps94
    go_wp2
    go_ret2
    exact ⟨rfl, Rd.refl _ _⟩

theorem ptake_row (b W H : Nat) (v : Value) (r n at_ : Nat) (A : Int) (w : World) (hA : A = at_) (h : DAt b W H v r n w) (hat : at_ ≤ 40000) (hH : ¬ H = 100) (hH' : H ≤ 100) (hn : n ≤ 100) :
    Calls Tryd.prog 94 #[.pointer (some ⟨b, 0, none⟩), .int .i64 A, .int .i32 10] w fun e w' => Rd b w w' ∧ (((0 < H ∧ n ≠ W) ∧ e = .returned (.tuple #[.int .i64 (r : Int), .iface 87 (.int .i64 3)])) ∨ (¬ (0 < H ∧ n ≠ W) ∧ e = .returned (.tuple #[.int .i64 0, .nilIface]) ∧ DAt b n (H + 1) v (at_ + 1) 0 w')) := by
  subst hA
  have D := hide' h
  obtain ⟨c0, c1, c2, c3, c4, z⟩ := h
  have m0 : ((H : Int) == 100) = false := by simp; omega
  go_enter Tryd.func94, Tryd.ntmps94
  go_wp2_with fail
  refine (pendRow b W H v r n at_ _ _ rfl D.out hat (by omega) hn).mono ?_
  rintro e w1 ⟨r1, (⟨q, rfl⟩ | ⟨q, rfl, d⟩)⟩
  · go_wp2
    go_ret2
    exact ⟨r1, Or.inl ⟨q, rfl⟩⟩
  · have DD := hide' d
    clear d
    go_wp2
    go_ret2
    exact ⟨r1, Or.inr ⟨q, rfl, DD.out⟩⟩
end Go.Proofs.YtjngjnkecnnmeaaDoor

namespace Go.Proofs.YtjngjnkecnnmeaaDoor
open Go.RowKit
set_option linter.unusedVariables false

def PushPost (b base W H : Nat) (xs : List Int) (r n : Nat) (x : Int) (w : World) (e : Ending) (w' : World) : Prop :=
  e = .returned (.tuple #[.int .i64 0, .nilIface]) ∧ DRd b base w w' ∧ ∃ v', DAt b W H v' r (n + 1) w' ∧ w'.ownsRow base 3 1 v' (xs ++ [x]).length ((xs ++ [x]).map fun x => .int .i64 x)
def pushW (w : World) (b : Nat) (x m : Int) : World := ((w.setCell ⟨b, 4, none⟩ (.int .i64 m)).alloc (.cells #[.int .i64 x] 3)).drew
theorem push_own {w : World} {b base n : Nat} {v : Value} {ys : List Value} (ho : w.ownsRow base 3 1 v n ys) (x m : Int) (hb : b < base) : (((w.setCell ⟨b, 4, none⟩ (.int .i64 m)).alloc (.cells #[.int .i64 x] 3)).drew).ownsRow base 3 1 v n ys :=
  ((ownsRow_setCell_below ho (a := ⟨b, 4, none⟩) hb _).alloc _).drew
theorem push_news (w : World) (b : Nat) (x m : Int) : ∀ j u, [Value.int .i64 x][j]? = some u → (((w.setCell ⟨b, 4, none⟩ (.int .i64 m)).alloc (.cells #[.int .i64 x] 3)).drew).cell? ((⟨w.heap.size, 0, none⟩ : Addr).add j) = some u := by
  have h := World.news_of_block (w := ((w.setCell ⟨b, 4, none⟩ (.int .i64 m)).alloc (.cells #[.int .i64 x] 3)).drew) (cs := #[.int .i64 x]) (t := 3) (fr := (0, 0)) (heap_alloc_new (w.setCell ⟨b, 4, none⟩ (.int .i64 m)) _)
  rw [World.size_setCell] at h
  exact h
theorem push_block {w w1 : World} {b base : Nat} {v : Value} {xs : List Int} (x m : Int) (ho : w.ownsRow base 3 1 v xs.length (xs.map fun x => .int .i64 x)) (hb : b < base) (hbw : base ≤ w.heap.size)
    (hg : (((w.setCell ⟨b, 4, none⟩ (.int .i64 m)).alloc (.cells #[.int .i64 x] 3)).drew).grownBy w1 v.ownBlock) : ∀ k, k < base → w1.heap[k]? = (w.setCell ⟨b, 4, none⟩ (.int .i64 m)).heap[k]? := by
  intro k hk
  have hob := ownsRow_block ho
  rw [(grownBy_drew hg).block k (by rw [World.size_alloc, World.size_setCell]; omega) (fun e => by have := hob k e.symm; omega)]
  exact Below.heap_alloc _ _ _ (by rw [World.size_setCell]; omega)
theorem push_mid {w w1 : World} {b base W H r n : Nat} {v : Value} {xs : List Int} (x : Int) (D : DAt b W H v r n w) (ho : w.ownsRow base 3 1 v xs.length (xs.map fun x => .int .i64 x)) (hb : b < base) (hbw : base ≤ w.heap.size)
    (hg : (((w.setCell ⟨b, 4, none⟩ (.int .i64 ((n : Int) + 1))).alloc (.cells #[.int .i64 x] 3)).drew).grownBy w1 v.ownBlock) : w1.cell? ⟨b, 2, none⟩ = some v ∧ w1.frozen? ⟨b, 2, none⟩ = false := by
  have d := (D.set4 (n + 1)).block (w' := w1) (by rw [show ((n + 1 : Nat) : Int) = (n : Int) + 1 by omega]; exact push_block x _ ho hb hbw hg b hb)
  exact ⟨d.c2, d.fz 2⟩
theorem push_end {w w1 : World} {b base W H r n : Nat} {v u : Value} {xs : List Int} (x : Int) (D : DAt b W H v r n w) (ho : w.ownsRow base 3 1 v xs.length (xs.map fun x => .int .i64 x)) (hb : b < base) (hbw : base ≤ w.heap.size)
    (hg : (((w.setCell ⟨b, 4, none⟩ (.int .i64 ((n : Int) + 1))).alloc (.cells #[.int .i64 x] 3)).drew).grownBy w1 v.ownBlock)
    (h1 : w1.ownsRow base 3 1 u (xs.length + 1) ((xs.map fun x => .int .i64 x) ++ [.int .i64 x])) :
    DRd b base w (w1.setCell ⟨b, 2, none⟩ u) ∧ ∃ v', DAt b W H v' r (n + 1) (w1.setCell ⟨b, 2, none⟩ u) ∧ (w1.setCell ⟨b, 2, none⟩ u).ownsRow base 3 1 v' (xs ++ [x]).length ((xs ++ [x]).map fun x => .int .i64 x) := by
  have hk := push_block x _ ho hb hbw hg
  have d := (D.set4 (n + 1)).block (w' := w1) (by rw [show ((n + 1 : Nat) : Int) = (n : Int) + 1 by omega]; exact hk b hb)
  have g := grownBy_drew hg
  refine ⟨DRd.set (show DRd b base w w1 from ⟨g.os, g.tape, g.output, ?_, fun k hkb hne => ?_⟩) _ _, u, d.set2 u, ?_⟩
  · have := g.size
    rw [World.size_alloc, World.size_setCell] at this
    omega
  · rw [hk k hkb]; exact Below.heap_setCell _ _ _ _ hne
  · have := ownsRow_setCell_below h1 (a := ⟨b, 2, none⟩) hb u
    simpa using this

set_option maxRecDepth 100000 in
set_option maxHeartbeats 3200000 in
theorem ptake_dot (b base W H : Nat) (v : Value) (xs : List Int) (r n at_ : Nat) (A : Int) (w : World) (hA : A = at_) (h : DAt b W H v r n w) (hH : ¬ H = 100) (hn : n < 100)
    (ho : w.ownsRow base 3 1 v xs.length (xs.map fun x => .int .i64 x)) (hb : b < base) (hl : xs.length ≤ 10000) (hbw : base ≤ w.heap.size) :
    Calls Tryd.prog 94 #[.pointer (some ⟨b, 0, none⟩), .int .i64 A, .int .i32 183] w (PushPost b base W H xs r n 0 w) := by
  subst hA
  have D := hide' h
  have HO := hide' ho
  have z2 := h.fz 2
  have z4 := h.fz 4
  obtain ⟨c0, c1, c2, c3, c4, -⟩ := h
  have m0 : ((H : Int) == 100) = false := by simp; omega
  have m1 : ((n : Int) == 100) = false := by simp; omega
  obtain ⟨sa, sn, sc, rfl⟩ := ownsRow_slice ho
  have OW := hide' (push_own ho 0 ((n : Int) + 1) hb)
  have NB := hide' (push_news w b 0 ((n : Int) + 1))
  have PM := hide' (fun (w1 : World) hg => push_mid (w1 := w1) 0 (n := n) D.out ho hb hbw hg)
  have PE := hide' (fun (w1 : World) (u : Value) hg h1 => push_end (w1 := w1) 0 (n := n) (u := u) D.out ho hb hbw hg h1)
  have d6 : ∀ o, ((w.setCell ⟨b, 4, none⟩ (.int .i64 ((n : Int) + 1))).alloc o).cell? ⟨b, 2, none⟩ = some (.slice sa sn sc) := fun o => (World.cell?_alloc_lt _ o ⟨b, 2, none⟩ (by rw [World.size_setCell]; exact Nat.lt_of_lt_of_le hb hbw)).trans (cell_other c2 (by omega))
  obtain ⟨i0, hi, hz0, hz1, hz2⟩ := info_parts info_int
  clear ho
  go_enter Tryd.func94, Tryd.ntmps94
  go_wp2
  go_region_law (first | (refine step_append_lies _ (by rfl) _ _ _ (by rfl) base 3 i0 _ 1 8 Tryd.underlying22 hi hz0 hz1 hz2 rfl (by omega) (.slice sa sn sc) _ _ (by rfl) OW.out ⟨w.heap.size, 0, none⟩ 1 1 [.int .i64 0] (by rfl) (by rfl) NB.out (by simp [Value.oneCell']) (by omega) (by unfold maxLen; omega) (by omega) (by simp; omega) (w.heap.size + 1) (by simp) ?_; intro gg cap w1 hown1 hgrow hat hlt; have x5 := (PM.out w1 hgrow).1; have x6 := (PM.out w1 hgrow).2) | (go_simp; go_wp2))
  all_goals
    go_wp2
    go_ret2
    exact ⟨rfl, PE.out w1 _ hgrow hown1⟩

set_option maxRecDepth 100000 in
set_option maxHeartbeats 3200000 in
theorem ptake_ball (b base W H : Nat) (v : Value) (xs : List Int) (r n at_ : Nat) (A : Int) (w : World) (hA : A = at_) (h : DAt b W H v r n w) (hH : ¬ H = 100) (hn : n < 100)
    (ho : w.ownsRow base 3 1 v xs.length (xs.map fun x => .int .i64 x)) (hb : b < base) (hl : xs.length ≤ 10000) (hbw : base ≤ w.heap.size) :
    Calls Tryd.prog 94 #[.pointer (some ⟨b, 0, none⟩), .int .i64 A, .int .i32 9679] w (PushPost b base W H xs r n 1 w) := by
  subst hA
  have D := hide' h
  have HO := hide' ho
  have z2 := h.fz 2
  have z4 := h.fz 4
  obtain ⟨c0, c1, c2, c3, c4, -⟩ := h
  have m0 : ((H : Int) == 100) = false := by simp; omega
  have m1 : ((n : Int) == 100) = false := by simp; omega
  obtain ⟨sa, sn, sc, rfl⟩ := ownsRow_slice ho
  have OW := hide' (push_own ho 1 ((n : Int) + 1) hb)
  have NB := hide' (push_news w b 1 ((n : Int) + 1))
  have PM := hide' (fun (w1 : World) hg => push_mid (w1 := w1) 1 (n := n) D.out ho hb hbw hg)
  have PE := hide' (fun (w1 : World) (u : Value) hg h1 => push_end (w1 := w1) 1 (n := n) (u := u) D.out ho hb hbw hg h1)
  have d6 : ∀ o, ((w.setCell ⟨b, 4, none⟩ (.int .i64 ((n : Int) + 1))).alloc o).cell? ⟨b, 2, none⟩ = some (.slice sa sn sc) := fun o => (World.cell?_alloc_lt _ o ⟨b, 2, none⟩ (by rw [World.size_setCell]; exact Nat.lt_of_lt_of_le hb hbw)).trans (cell_other c2 (by omega))
  obtain ⟨i0, hi, hz0, hz1, hz2⟩ := info_parts info_int
  clear ho
  go_enter Tryd.func94, Tryd.ntmps94
  go_wp2
  go_region_law (first | (refine step_append_lies _ (by rfl) _ _ _ (by rfl) base 3 i0 _ 1 8 Tryd.underlying22 hi hz0 hz1 hz2 rfl (by omega) (.slice sa sn sc) _ _ (by rfl) OW.out ⟨w.heap.size, 0, none⟩ 1 1 [.int .i64 1] (by rfl) (by rfl) NB.out (by simp [Value.oneCell']) (by omega) (by unfold maxLen; omega) (by omega) (by simp; omega) (w.heap.size + 1) (by simp) ?_; intro gg cap w1 hown1 hgrow hat hlt; have x5 := (PM.out w1 hgrow).1; have x6 := (PM.out w1 hgrow).2) | (go_simp; go_wp2))
  all_goals
    go_wp2
    go_ret2
    exact ⟨rfl, PE.out w1 _ hgrow hown1⟩
end Go.Proofs.YtjngjnkecnnmeaaDoor

