/-
  What the last text of this claim leans on, part 3: Da1, Da2, Da3, Wd1, Wd2, We1, Wf1, We2, We3, Wf2, Wg1, Wh1, Wh2, Wh3, Wi1.
-/
import Derived.Test.YtjngjnkecnnmeaaDoorJ1
import Derived.Test.YtjngjnkecnnmeaaDoorJ2
import Derived.Lib.OthersKept
import Derived.Laws.CopyOwn
namespace Go.Proofs.YtjngjnkecnnmeaaDoor
open Go.RowKit
set_option linter.unusedVariables false

/-- Of the blocks below base, b alone may have turned. -/
structure DRd (b base : Nat) (w w' : World) : Prop where
  os : w'.os = w.os
  tape : w'.tape = w.tape
  output : w'.output = w.output
  size : w.heap.size ≤ w'.heap.size
  block : ∀ k, k < base → k ≠ b → w'.heap[k]? = w.heap[k]?
theorem DRd.refl (b base : Nat) (w : World) : DRd b base w w := ⟨rfl, rfl, rfl, Nat.le_refl _, fun _ _ _ => rfl⟩
theorem DRd.trans {b base : Nat} {a c d : World} (h : DRd b base a c) (k : DRd b base c d) : DRd b base a d :=
  ⟨k.os.trans h.os, k.tape.trans h.tape, k.output.trans h.output, Nat.le_trans h.size k.size, fun i hi hb => (k.block i hi hb).trans (h.block i hi hb)⟩
theorem DRd.set {b base : Nat} {a w : World} (h : DRd b base a w) (o : Nat) (u : Value) : DRd b base a (w.setCell ⟨b, o, none⟩ u) :=
  h.trans ⟨rfl, rfl, rfl, by simp [World.setCell], fun k _ hk => Below.heap_setCell _ _ _ _ hk⟩
theorem DRd.drewN {b base : Nat} {a w : World} (h : DRd b base a w) (n : Nat) : DRd b base a (w.drewN n) := h.trans ⟨rfl, rfl, rfl, Nat.le_refl _, fun _ _ _ => rfl⟩

/-- The drawing at b: its sides so far, the slice of its cells, where its row begins, how many it has. -/
structure DAt (b : Nat) (W H : Nat) (v : Value) (r n : Nat) (w : World) : Prop where
  c0 : w.cell? ⟨b, 0, none⟩ = some (.int .i64 (W : Int))
  c1 : w.cell? ⟨b, 1, none⟩ = some (.int .i64 (H : Int))
  c2 : w.cell? ⟨b, 2, none⟩ = some v
  c3 : w.cell? ⟨b, 3, none⟩ = some (.int .i64 (r : Int))
  c4 : w.cell? ⟨b, 4, none⟩ = some (.int .i64 (n : Int))
  fz : ∀ k, w.frozen? ⟨b, k, none⟩ = false
theorem DAt.block {b W H : Nat} {v : Value} {r n : Nat} {w w' : World} (h : DAt b W H v r n w) (e : w'.heap[b]? = w.heap[b]?) : DAt b W H v r n w' :=
  ⟨(World.cell?_of_block (w := w) (a := ⟨b, 0, none⟩) e).trans h.c0, (World.cell?_of_block (w := w) (a := ⟨b, 1, none⟩) e).trans h.c1, (World.cell?_of_block (w := w) (a := ⟨b, 2, none⟩) e).trans h.c2, (World.cell?_of_block (w := w) (a := ⟨b, 3, none⟩) e).trans h.c3, (World.cell?_of_block (w := w) (a := ⟨b, 4, none⟩) e).trans h.c4,
   fun k => (World.frozen?_of_block (w := w) (a := ⟨b, k, none⟩) e).trans (h.fz k)⟩
theorem DAt.drewN {b W H : Nat} {v : Value} {r n : Nat} {w : World} (h : DAt b W H v r n w) (m : Nat) : DAt b W H v r n (w.drewN m) := h.block rfl
theorem cell_same {w : World} {b k : Nat} {v u : Value} (h : w.cell? ⟨b, k, none⟩ = some v) : (w.setCell ⟨b, k, none⟩ u).cell? ⟨b, k, none⟩ = some u := World.cell?_setCell_same _ _ _ h
theorem cell_other {w : World} {b k j : Nat} {v u : Value} (h : w.cell? ⟨b, j, none⟩ = some v) (hk : k ≠ j) : (w.setCell ⟨b, k, none⟩ u).cell? ⟨b, j, none⟩ = some v :=
  (World.cell?_setCell_other _ ⟨b, k, none⟩ ⟨b, j, none⟩ _ (fun q => hk (congrArg Addr.off q))).trans h
theorem DAt.set0 {b W H : Nat} {v : Value} {r n : Nat} {w : World} (h : DAt b W H v r n w) (x : Nat) : DAt b x H v r n (w.setCell ⟨b, 0, none⟩ (.int .i64 (x : Int))) :=
  ⟨cell_same h.c0, cell_other h.c1 (by omega), cell_other h.c2 (by omega), cell_other h.c3 (by omega), cell_other h.c4 (by omega), fun k => by rw [World.frozen?_setCell]; exact h.fz k⟩
theorem DAt.set1 {b W H : Nat} {v : Value} {r n : Nat} {w : World} (h : DAt b W H v r n w) (x : Nat) : DAt b W x v r n (w.setCell ⟨b, 1, none⟩ (.int .i64 (x : Int))) :=
  ⟨cell_other h.c0 (by omega), cell_same h.c1, cell_other h.c2 (by omega), cell_other h.c3 (by omega), cell_other h.c4 (by omega), fun k => by rw [World.frozen?_setCell]; exact h.fz k⟩
theorem DAt.set2 {b W H : Nat} {v : Value} {r n : Nat} {w : World} (h : DAt b W H v r n w) (x : Value) : DAt b W H x r n (w.setCell ⟨b, 2, none⟩ x) :=
  ⟨cell_other h.c0 (by omega), cell_other h.c1 (by omega), cell_same h.c2, cell_other h.c3 (by omega), cell_other h.c4 (by omega), fun k => by rw [World.frozen?_setCell]; exact h.fz k⟩
theorem DAt.set3 {b W H : Nat} {v : Value} {r n : Nat} {w : World} (h : DAt b W H v r n w) (x : Nat) : DAt b W H v x n (w.setCell ⟨b, 3, none⟩ (.int .i64 (x : Int))) :=
  ⟨cell_other h.c0 (by omega), cell_other h.c1 (by omega), cell_other h.c2 (by omega), cell_same h.c3, cell_other h.c4 (by omega), fun k => by rw [World.frozen?_setCell]; exact h.fz k⟩
theorem DAt.set4 {b W H : Nat} {v : Value} {r n : Nat} {w : World} (h : DAt b W H v r n w) (x : Nat) : DAt b W H v r x (w.setCell ⟨b, 4, none⟩ (.int .i64 (x : Int))) :=
  ⟨cell_other h.c0 (by omega), cell_other h.c1 (by omega), cell_other h.c2 (by omega), cell_other h.c3 (by omega), cell_same h.c4, fun k => by rw [World.frozen?_setCell]; exact h.fz k⟩

set_option maxHeartbeats 1600000 in
theorem pendRow (b W H : Nat) (v : Value) (r n at_ : Nat) (A : Int) (w : World) (hA : A = at_) (h : DAt b W H v r n w) (hat : at_ ≤ 40000) (hH : H < 100) (hn : n ≤ 100) :
    Calls Tryd.prog 133 #[.pointer (some ⟨b, 0, none⟩), .int .i64 A] w fun e w' => Rd b w w' ∧ (((0 < H ∧ n ≠ W) ∧ e = .returned (.tuple #[.int .i64 (r : Int), .iface 87 (.int .i64 3)])) ∨ (¬ (0 < H ∧ n ≠ W) ∧ e = .returned (.tuple #[.int .i64 0, .nilIface]) ∧ DAt b n (H + 1) v (at_ + 1) 0 w')) := by
  subst hA
  have D := hide' h
  have z0 := h.fz 0
  have z1 := h.fz 1
  have z3 := h.fz 3
  have z4 := h.fz 4
  obtain ⟨c0, c1, c2, c3, c4, -⟩ := h
  by_cases q : H = 0
  · have m1 : ((H : Int) == 0) = true := by simp; omega
    have m2 : ((n : Int) != (n : Int)) = false := by simp
    have Q := hide' q
    clear q
    go_enter Tryd.func133, Tryd.ntmps133
    go_wp2
    go_quiet (fail)
    go_wp2
    go_ret2
    refine ⟨(((((Rd.refl _ _).set _ _).drewN _).set _ _).set _ _).set _ _, Or.inr ⟨by have := Q.out; omega, rfl, ?_⟩⟩
    rw [show (H : Int) + 1 = ((H + 1 : Nat) : Int) by omega, show (at_ : Int) + 1 = ((at_ + 1 : Nat) : Int) by omega]
    exact ((((D.out.set0 n).drewN _).set1 (H + 1)).set3 (at_ + 1)).set4 0
  · have m1 : ((H : Int) == 0) = false := by simp; omega
    by_cases q2 : n = W
    · have m2 : ((n : Int) != (W : Int)) = false := by simp; omega
      have Q := hide' q2
      clear q2
      go_enter Tryd.func133, Tryd.ntmps133
      go_wp2
      go_quiet (fail)
      go_wp2
      go_ret2
      refine ⟨((((Rd.refl _ _).drewN _).set _ _).set _ _).set _ _, Or.inr ⟨fun h => h.2 Q.out, rfl, ?_⟩⟩
      rw [show (H : Int) + 1 = ((H + 1 : Nat) : Int) by omega, show (at_ : Int) + 1 = ((at_ + 1 : Nat) : Int) by omega]
      rw [show n = W from Q.out]
      exact (((D.out.drewN _).set1 (H + 1)).set3 (at_ + 1)).set4 0
    · have m2 : ((n : Int) != (W : Int)) = true := by simp; omega
      have Q := hide' q2
      clear q2
      go_enter Tryd.func133, Tryd.ntmps133
      go_wp2
      go_quiet (fail)
      go_wp2
      go_ret2
      exact ⟨(Rd.refl _ _).drewN _, Or.inl ⟨⟨by omega, Q.out⟩, rfl⟩⟩

/-- The three ways in which take ends by an error. -/
theorem ptake_syntax (b W H : Nat) (v : Value) (r n at_ : Nat) (A c : Int) (w : World) (hA : A = at_) (h : DAt b W H v r n w) (h1 : ¬ c = 183) (h2 : ¬ c = 9679) (h3 : ¬ c = 10) :
    Calls Tryd.prog 94 #[.pointer (some ⟨b, 0, none⟩), .int .i64 A, .int .i32 c] w fun e w' => e = .returned (.tuple #[.int .i64 (at_ : Int), .iface 87 (.int .i64 2)]) ∧ Rd b w w' := by
  subst hA
  have m1 : (c != 183) = true := by simp [h1]
  have m2 : (c != 9679) = true := by simp [h2]
  have m3 : (c != 10) = true := by simp [h3]
  clear h1 h2 h3
  go_enter Tryd.func94, Tryd.ntmps94
  go_wp2
  go_ret2
  exact ⟨rfl, Rd.refl _ _⟩

theorem ptake_high (b W H : Nat) (v : Value) (r n at_ : Nat) (A c : Int) (w : World) (hA : A = at_) (h : DAt b W H v r n w) (h1 : c = 183 ∨ c = 9679 ∨ c = 10) (hH : H = 100) :
    Calls Tryd.prog 94 #[.pointer (some ⟨b, 0, none⟩), .int .i64 A, .int .i32 c] w fun e w' => e = .returned (.tuple #[.int .i64 (at_ : Int), .iface 87 (.int .i64 1)]) ∧ Rd b w w' := by
  subst hA
  obtain ⟨c0, c1, c2, c3, c4, z⟩ := h
  have m0 : ((H : Int) == 100) = true := by simp; omega
  clear hH
  rcases h1 with rfl | rfl | rfl
  · go_enter Tryd.func94, Tryd.ntmps94
    go_wp2
    go_ret2
    exact ⟨rfl, Rd.refl _ _⟩
  · go_enter Tryd.func94, Tryd.ntmps94
    go_wp2
    go_ret2
    exact ⟨rfl, Rd.refl _ _⟩
  · go_enter Tryd.func94, Tryd.ntmps94
    go_wp2
    go_ret2
    exact ⟨rfl, Rd.refl _ _⟩

theorem ptake_wide (b W H : Nat) (v : Value) (r n at_ : Nat) (A c : Int) (w : World) (hA : A = at_) (h : DAt b W H v r n w) (h1 : c = 183 ∨ c = 9679) (hH : ¬ H = 100) (hn : n = 100) :
    Calls Tryd.prog 94 #[.pointer (some ⟨b, 0, none⟩), .int .i64 A, .int .i32 c] w fun e w' => e = .returned (.tuple #[.int .i64 (at_ : Int), .iface 87 (.int .i64 1)]) ∧ Rd b w w' := by
  subst hA
  obtain ⟨c0, c1, c2, c3, c4, z⟩ := h
  have m0 : ((H : Int) == 100) = false := by simp; omega
  have m1 : ((n : Int) == 100) = true := by simp; omega
  clear hH hn
  rcases h1 with rfl | rfl
  · go_enter Tryd.func94, Tryd.ntmps94
    go_wp2
    go_ret2
    exact ⟨rfl, Rd.refl _ _⟩
  · go_enter Tryd.func94, Tryd.ntmps94
    go_wp2
    go_ret2
    exact ⟨rfl, Rd.refl _ _⟩

theorem ptake_row (b W H : Nat) (v : Value) (r n at_ : Nat) (A : Int) (w : World) (hA : A = at_) (h : DAt b W H v r n w) (hat : at_ ≤ 40000) (hH : ¬ H = 100) (hH' : H ≤ 100) (hn : n ≤ 100) :
    Calls Tryd.prog 94 #[.pointer (some ⟨b, 0, none⟩), .int .i64 A, .int .i32 10] w fun e w' => Rd b w w' ∧ (((0 < H ∧ n ≠ W) ∧ e = .returned (.tuple #[.int .i64 (r : Int), .iface 87 (.int .i64 3)])) ∨ (¬ (0 < H ∧ n ≠ W) ∧ e = .returned (.tuple #[.int .i64 0, .nilIface]) ∧ DAt b n (H + 1) v (at_ + 1) 0 w')) := by
  subst hA
  have D := hide' h
  obtain ⟨c0, c1, c2, c3, c4, z⟩ := h
  have m0 : ((H : Int) == 100) = false := by simp; omega
  go_enter Tryd.func94, Tryd.ntmps94
  go_wp2_with fail
  refine (pendRow b W H v r n at_ _ _ rfl D.out hat (by omega) hn).mono ?_
  rintro e w1 ⟨r1, (⟨q, rfl⟩ | ⟨q, rfl, d⟩)⟩
  · go_wp2
    go_ret2
    exact ⟨r1, Or.inl ⟨q, rfl⟩⟩
  · have DD := hide' d
    clear d
    go_wp2
    go_ret2
    exact ⟨r1, Or.inr ⟨q, rfl, DD.out⟩⟩
end Go.Proofs.YtjngjnkecnnmeaaDoor

namespace Go.Proofs.YtjngjnkecnnmeaaDoor
open Go.RowKit
set_option linter.unusedVariables false

def PushPost (b base W H : Nat) (xs : List Int) (r n : Nat) (x : Int) (w : World) (e : Ending) (w' : World) : Prop :=
  e = .returned (.tuple #[.int .i64 0, .nilIface]) ∧ DRd b base w w' ∧ ∃ v', DAt b W H v' r (n + 1) w' ∧ w'.ownsRow base 3 1 v' (xs ++ [x]).length ((xs ++ [x]).map fun x => .int .i64 x)
def pushW (w : World) (b : Nat) (x m : Int) : World := ((w.setCell ⟨b, 4, none⟩ (.int .i64 m)).alloc (.cells #[.int .i64 x] 3)).drew
theorem push_own {w : World} {b base n : Nat} {v : Value} {ys : List Value} (ho : w.ownsRow base 3 1 v n ys) (x m : Int) (hb : b < base) : (((w.setCell ⟨b, 4, none⟩ (.int .i64 m)).alloc (.cells #[.int .i64 x] 3)).drew).ownsRow base 3 1 v n ys :=
  ((ownsRow_setCell_below ho (a := ⟨b, 4, none⟩) hb _).alloc _).drew
theorem push_news (w : World) (b : Nat) (x m : Int) : ∀ j u, [Value.int .i64 x][j]? = some u → (((w.setCell ⟨b, 4, none⟩ (.int .i64 m)).alloc (.cells #[.int .i64 x] 3)).drew).cell? ((⟨w.heap.size, 0, none⟩ : Addr).add j) = some u := by
  have h := World.news_of_block (w := ((w.setCell ⟨b, 4, none⟩ (.int .i64 m)).alloc (.cells #[.int .i64 x] 3)).drew) (cs := #[.int .i64 x]) (t := 3) (fr := (0, 0)) (heap_alloc_new (w.setCell ⟨b, 4, none⟩ (.int .i64 m)) _)
  rw [World.size_setCell] at h
  exact h
theorem push_block {w w1 : World} {b base : Nat} {v : Value} {xs : List Int} (x m : Int) (ho : w.ownsRow base 3 1 v xs.length (xs.map fun x => .int .i64 x)) (hb : b < base) (hbw : base ≤ w.heap.size)
    (hg : (((w.setCell ⟨b, 4, none⟩ (.int .i64 m)).alloc (.cells #[.int .i64 x] 3)).drew).grownBy w1 v.ownBlock) : ∀ k, k < base → w1.heap[k]? = (w.setCell ⟨b, 4, none⟩ (.int .i64 m)).heap[k]? := by
  intro k hk
  have hob := ownsRow_block ho
  rw [(grownBy_drew hg).block k (by rw [World.size_alloc, World.size_setCell]; omega) (fun e => by have := hob k e.symm; omega)]
  exact Below.heap_alloc _ _ _ (by rw [World.size_setCell]; omega)
theorem push_mid {w w1 : World} {b base W H r n : Nat} {v : Value} {xs : List Int} (x : Int) (D : DAt b W H v r n w) (ho : w.ownsRow base 3 1 v xs.length (xs.map fun x => .int .i64 x)) (hb : b < base) (hbw : base ≤ w.heap.size)
    (hg : (((w.setCell ⟨b, 4, none⟩ (.int .i64 ((n : Int) + 1))).alloc (.cells #[.int .i64 x] 3)).drew).grownBy w1 v.ownBlock) : w1.cell? ⟨b, 2, none⟩ = some v ∧ w1.frozen? ⟨b, 2, none⟩ = false := by
  have d := (D.set4 (n + 1)).block (w' := w1) (by rw [show ((n + 1 : Nat) : Int) = (n : Int) + 1 by omega]; exact push_block x _ ho hb hbw hg b hb)
  exact ⟨d.c2, d.fz 2⟩
theorem push_end {w w1 : World} {b base W H r n : Nat} {v u : Value} {xs : List Int} (x : Int) (D : DAt b W H v r n w) (ho : w.ownsRow base 3 1 v xs.length (xs.map fun x => .int .i64 x)) (hb : b < base) (hbw : base ≤ w.heap.size)
    (hg : (((w.setCell ⟨b, 4, none⟩ (.int .i64 ((n : Int) + 1))).alloc (.cells #[.int .i64 x] 3)).drew).grownBy w1 v.ownBlock)
    (h1 : w1.ownsRow base 3 1 u (xs.length + 1) ((xs.map fun x => .int .i64 x) ++ [.int .i64 x])) :
    DRd b base w (w1.setCell ⟨b, 2, none⟩ u) ∧ ∃ v', DAt b W H v' r (n + 1) (w1.setCell ⟨b, 2, none⟩ u) ∧ (w1.setCell ⟨b, 2, none⟩ u).ownsRow base 3 1 v' (xs ++ [x]).length ((xs ++ [x]).map fun x => .int .i64 x) := by
  have hk := push_block x _ ho hb hbw hg
  have d := (D.set4 (n + 1)).block (w' := w1) (by rw [show ((n + 1 : Nat) : Int) = (n : Int) + 1 by omega]; exact hk b hb)
  have g := grownBy_drew hg
  refine ⟨DRd.set (show DRd b base w w1 from ⟨g.os, g.tape, g.output, ?_, fun k hkb hne => ?_⟩) _ _, u, d.set2 u, ?_⟩
  · have := g.size
    rw [World.size_alloc, World.size_setCell] at this
    omega
  · rw [hk k hkb]; exact Below.heap_setCell _ _ _ _ hne
  · have := ownsRow_setCell_below h1 (a := ⟨b, 2, none⟩) hb u
    simpa using this

set_option maxRecDepth 100000 in
set_option maxHeartbeats 3200000 in
theorem ptake_dot (b base W H : Nat) (v : Value) (xs : List Int) (r n at_ : Nat) (A : Int) (w : World) (hA : A = at_) (h : DAt b W H v r n w) (hH : ¬ H = 100) (hn : n < 100)
    (ho : w.ownsRow base 3 1 v xs.length (xs.map fun x => .int .i64 x)) (hb : b < base) (hl : xs.length ≤ 10000) (hbw : base ≤ w.heap.size) :
    Calls Tryd.prog 94 #[.pointer (some ⟨b, 0, none⟩), .int .i64 A, .int .i32 183] w (PushPost b base W H xs r n 0 w) := by
  subst hA
  have D := hide' h
  have HO := hide' ho
  have z2 := h.fz 2
  have z4 := h.fz 4
  obtain ⟨c0, c1, c2, c3, c4, -⟩ := h
  have m0 : ((H : Int) == 100) = false := by simp; omega
  have m1 : ((n : Int) == 100) = false := by simp; omega
  obtain ⟨sa, sn, sc, rfl⟩ := ownsRow_slice ho
  have OW := hide' (push_own ho 0 ((n : Int) + 1) hb)
  have NB := hide' (push_news w b 0 ((n : Int) + 1))
  have PM := hide' (fun (w1 : World) hg => push_mid (w1 := w1) 0 (n := n) D.out ho hb hbw hg)
  have PE := hide' (fun (w1 : World) (u : Value) hg h1 => push_end (w1 := w1) 0 (n := n) (u := u) D.out ho hb hbw hg h1)
  have d6 : ∀ o, ((w.setCell ⟨b, 4, none⟩ (.int .i64 ((n : Int) + 1))).alloc o).cell? ⟨b, 2, none⟩ = some (.slice sa sn sc) := fun o => (World.cell?_alloc_lt _ o ⟨b, 2, none⟩ (by rw [World.size_setCell]; exact Nat.lt_of_lt_of_le hb hbw)).trans (cell_other c2 (by omega))
  obtain ⟨i0, hi, hz0, hz1, hz2⟩ := info_parts info_int
  clear ho
  go_enter Tryd.func94, Tryd.ntmps94
  go_wp2
  go_region_law (first | (refine step_append_lies _ (by rfl) _ _ _ (by rfl) base 3 i0 _ 1 8 Tryd.underlying22 hi hz0 hz1 hz2 rfl (by omega) (.slice sa sn sc) _ _ (by rfl) OW.out ⟨w.heap.size, 0, none⟩ 1 1 [.int .i64 0] (by rfl) (by rfl) NB.out (by simp [Value.oneCell']) (by omega) (by unfold maxLen; omega) (by omega) (by simp; omega) (w.heap.size + 1) (by simp) ?_; intro gg cap w1 hown1 hgrow hat hlt; have x5 := (PM.out w1 hgrow).1; have x6 := (PM.out w1 hgrow).2) | (go_simp; go_wp2))
  all_goals
    go_wp2
    go_ret2
    exact ⟨rfl, PE.out w1 _ hgrow hown1⟩

set_option maxRecDepth 100000 in
set_option maxHeartbeats 3200000 in
theorem ptake_ball (b base W H : Nat) (v : Value) (xs : List Int) (r n at_ : Nat) (A : Int) (w : World) (hA : A = at_) (h : DAt b W H v r n w) (hH : ¬ H = 100) (hn : n < 100)
    (ho : w.ownsRow base 3 1 v xs.length (xs.map fun x => .int .i64 x)) (hb : b < base) (hl : xs.length ≤ 10000) (hbw : base ≤ w.heap.size) :
    Calls Tryd.prog 94 #[.pointer (some ⟨b, 0, none⟩), .int .i64 A, .int .i32 9679] w (PushPost b base W H xs r n 1 w) := by
  subst hA
  have D := hide' h
  have HO := hide' ho
  have z2 := h.fz 2
  have z4 := h.fz 4
  obtain ⟨c0, c1, c2, c3, c4, -⟩ := h
  have m0 : ((H : Int) == 100) = false := by simp; omega
  have m1 : ((n : Int) == 100) = false := by simp; omega
  obtain ⟨sa, sn, sc, rfl⟩ := ownsRow_slice ho
  have OW := hide' (push_own ho 1 ((n : Int) + 1) hb)
  have NB := hide' (push_news w b 1 ((n : Int) + 1))
  have PM := hide' (fun (w1 : World) hg => push_mid (w1 := w1) 1 (n := n) D.out ho hb hbw hg)
  have PE := hide' (fun (w1 : World) (u : Value) hg h1 => push_end (w1 := w1) 1 (n := n) (u := u) D.out ho hb hbw hg h1)
  have d6 : ∀ o, ((w.setCell ⟨b, 4, none⟩ (.int .i64 ((n : Int) + 1))).alloc o).cell? ⟨b, 2, none⟩ = some (.slice sa sn sc) := fun o => (World.cell?_alloc_lt _ o ⟨b, 2, none⟩ (by rw [World.size_setCell]; exact Nat.lt_of_lt_of_le hb hbw)).trans (cell_other c2 (by omega))
  obtain ⟨i0, hi, hz0, hz1, hz2⟩ := info_parts info_int
  clear ho
  go_enter Tryd.func94, Tryd.ntmps94
  go_wp2
  go_region_law (first | (refine step_append_lies _ (by rfl) _ _ _ (by rfl) base 3 i0 _ 1 8 Tryd.underlying22 hi hz0 hz1 hz2 rfl (by omega) (.slice sa sn sc) _ _ (by rfl) OW.out ⟨w.heap.size, 0, none⟩ 1 1 [.int .i64 1] (by rfl) (by rfl) NB.out (by simp [Value.oneCell']) (by omega) (by unfold maxLen; omega) (by omega) (by simp; omega) (w.heap.size + 1) (by simp) ?_; intro gg cap w1 hown1 hgrow hat hlt; have x5 := (PM.out w1 hgrow).1; have x6 := (PM.out w1 hgrow).2) | (go_simp; go_wp2))
  all_goals
    go_wp2
    go_ret2
    exact ⟨rfl, PE.out w1 _ hgrow hown1⟩
end Go.Proofs.YtjngjnkecnnmeaaDoor

namespace Go.Proofs.YtjngjnkecnnmeaaDoor
open Go.RowKit
set_option linter.unusedVariables false

theorem drawF_fuel (s : ByteArray) : ∀ f f' i r n W H xs, i ≤ s.size → s.size + 1 - i ≤ f → s.size + 1 - i ≤ f' → drawF s f i r n W H xs = drawF s f' i r n W H xs := by
  intro f
  induction f with
  | zero => intro f' i r n W H xs h1 h2; omega
  | succ f ih =>
    intro f' i r n W H xs h1 h2 h3
    obtain ⟨f'', rfl⟩ : ∃ f'', f' = f'' + 1 := ⟨f' - 1, by omega⟩
    simp only [drawF]
    split
    · rfl
    split
    · rename_i hd
      have := isDot_true.1 hd
      split
      · rfl
      split
      · rfl
      exact ih f'' _ _ _ _ _ _ (by omega) (by omega) (by omega)
    split
    · rename_i hd
      have := isBall_true.1 hd
      split
      · rfl
      split
      · rfl
      exact ih f'' _ _ _ _ _ _ (by omega) (by omega) (by omega)
    split
    · rfl
    split
    · rfl
    split
    · rfl
    exact ih f'' _ _ _ _ _ _ (by omega) (by omega) (by omega)

theorem drawF_end {s : ByteArray} {i r n W H : Nat} {xs : List Int} (hi : i = s.size) : drawF s (s.size + 1 - i) i r n W H xs = if r < s.size then .inr (s.size, 2) else .inl (W, H, xs) := by
  rw [show s.size + 1 - i = 0 + 1 by omega, drawF, if_pos (by omega)]
theorem drawF_dot {s : ByteArray} {i r n W H : Nat} {xs : List Int} (hi : i < s.size) (h : isDot s i = true) : drawF s (s.size + 1 - i) i r n W H xs = if H = 100 then .inr (r, 1) else if n = 100 then .inr (i, 1) else drawF s (s.size + 1 - (i + 2)) (i + 2) r (n + 1) W H (xs ++ [0]) := by
  have := isDot_true.1 h
  rw [show s.size + 1 - i = (s.size - i) + 1 by omega, drawF, if_neg (by omega), if_pos h]
  split
  · rfl
  split
  · rfl
  exact drawF_fuel s _ _ _ _ _ _ _ _ (by omega) (by omega) (by omega)
theorem drawF_ball {s : ByteArray} {i r n W H : Nat} {xs : List Int} (hi : i < s.size) (h0 : isDot s i = false) (h : isBall s i = true) : drawF s (s.size + 1 - i) i r n W H xs = if H = 100 then .inr (r, 1) else if n = 100 then .inr (i, 1) else drawF s (s.size + 1 - (i + 3)) (i + 3) r (n + 1) W H (xs ++ [1]) := by
  have := isBall_true.1 h
  rw [show s.size + 1 - i = (s.size - i) + 1 by omega, drawF, if_neg (by omega), if_neg (by rw [h0]; simp), if_pos h]
  split
  · rfl
  split
  · rfl
  exact drawF_fuel s _ _ _ _ _ _ _ _ (by omega) (by omega) (by omega)
theorem drawF_none {s : ByteArray} {i r n W H : Nat} {xs : List Int} (hi : i < s.size) (h0 : isDot s i = false) (h1 : isBall s i = false) (h2 : ¬ bt s i = 10) : drawF s (s.size + 1 - i) i r n W H xs = .inr (i, 2) := by
  rw [show s.size + 1 - i = (s.size - i) + 1 by omega, drawF, if_neg (by omega), if_neg (by rw [h0]; simp), if_neg (by rw [h1]; simp), if_pos h2]
theorem ten_no {s : ByteArray} {i : Nat} (h : bt s i = 10) : isDot s i = false ∧ isBall s i = false := by
  constructor
  · cases hd : isDot s i with
    | false => rfl
    | true => have := isDot_true.1 hd; omega
  · cases hd : isBall s i with
    | false => rfl
    | true => have := isBall_true.1 hd; omega
theorem dot_ball {s : ByteArray} {i : Nat} (h : isBall s i = true) : isDot s i = false := by
  cases hd : isDot s i with
  | false => rfl
  | true => have := isDot_true.1 hd; have := isBall_true.1 h; omega
theorem drawF_ten {s : ByteArray} {i r n W H : Nat} {xs : List Int} (hi : i < s.size) (h : bt s i = 10) : drawF s (s.size + 1 - i) i r n W H xs = if H = 100 then .inr (r, 1) else if 0 < H ∧ n ≠ W then .inr (r, 3) else drawF s (s.size + 1 - (i + 1)) (i + 1) (i + 1) 0 n (H + 1) xs := by
  obtain ⟨h0, h1⟩ := ten_no h
  rw [show s.size + 1 - i = (s.size - i) + 1 by omega, drawF, if_neg (by omega), if_neg (by rw [h0]; simp), if_neg (by rw [h1]; simp), if_neg (by simp [h])]
  split
  · rfl
  split
  · rfl
  exact drawF_fuel s _ _ _ _ _ _ _ _ (by omega) (by omega) (by omega)

theorem ownsRow_from {w w' : World} {base : Nat} {e : TypeId} {v : Value} {n : Nat} {xs : List Value} (h : w.ownsRow base e 1 v n xs) (hb : ∀ k, base ≤ k → k < w.heap.size → w'.heap[k]? = w.heap[k]?) : w'.ownsRow base e 1 v n xs := by
  refine ⟨h.1, ?_⟩
  rcases h.2 with h0 | ⟨g, cap, cur, hv, hg, hh, rest⟩
  · exact Or.inl h0
  · exact Or.inr ⟨g, cap, cur, hv, hg, (hb g hg (Array.getElem?_eq_some_iff.1 hh).1).trans hh, rest⟩

/-- What holds of the numbers between two rounds. -/
structure DNum (s : ByteArray) (i r n W H : Nat) (xs : List Int) : Prop where
  li : i ≤ s.size
  lH : H ≤ 100
  ln : n ≤ 100
  lW : W ≤ 100
  len : xs.length = H * W + n
  top : H = 100 → n = 0
  row : n = 0 → r = i
  lr : r ≤ i
  eq : drawF s (s.size + 1 - i) i r n W H xs = drawS s
theorem DNum.cell {s : ByteArray} {i r n W H : Nat} {xs : List Int} (h : DNum s i r n W H xs) (j : Nat) (x : Int) (hj : j ≤ s.size) (hij : i ≤ j) (hH : ¬ H = 100) (hn : ¬ n = 100) (e : drawF s (s.size + 1 - i) i r n W H xs = drawF s (s.size + 1 - j) j r (n + 1) W H (xs ++ [x])) : DNum s j r (n + 1) W H (xs ++ [x]) :=
  ⟨hj, h.lH, by have := h.ln; omega, h.lW, by have := h.len; simp; omega, fun q => absurd q hH, fun q => by omega, Nat.le_trans h.lr hij, e.symm.trans h.eq⟩
theorem DNum.ten {s : ByteArray} {i r n W H : Nat} {xs : List Int} (h : DNum s i r n W H xs) (hi : i < s.size) (hH : ¬ H = 100) (hn : ¬ (0 < H ∧ n ≠ W)) (hb : bt s i = 10) : DNum s (i + 1) (i + 1) 0 n (H + 1) xs := by
  refine ⟨by omega, by have := h.lH; omega, by omega, h.ln, ?_, fun _ => rfl, fun _ => rfl, Nat.le_refl _, ?_⟩
  · have := h.len
    by_cases q : H = 0
    · subst q; simp at this ⊢; omega
    · have : n = W := by
        rcases Nat.decEq n W with e | e
        · exact absurd ⟨by omega, e⟩ hn
        · exact e
      subst this
      rw [Nat.add_mul]; omega
  · rw [← h.eq, drawF_ten hi hb, if_neg hH, if_neg hn]
theorem DNum.small {s : ByteArray} {i r n W H : Nat} {xs : List Int} (h : DNum s i r n W H xs) (hH : ¬ H = 100) : xs.length ≤ 10000 := by
  have h1 := h.lH
  have h2 : H * W ≤ 99 * 100 := Nat.mul_le_mul (by omega) h.lW
  have h3 := h.len
  have h4 := h.ln
  omega
theorem DNum.all {s : ByteArray} {i r n W H : Nat} {xs : List Int} (h : DNum s i r n W H xs) : xs.length ≤ 10100 := by
  have h2 : H * W ≤ 100 * 100 := Nat.mul_le_mul h.lH h.lW
  have h3 := h.len
  have h4 := h.ln
  omega
theorem DNum.start (s : ByteArray) (hs : s.size ≤ 40000) : DNum s 0 0 0 0 0 [] :=
  ⟨by omega, by omega, by omega, by omega, by simp, by omega, by omega, by omega, by unfold drawS; rw [if_neg (by omega)]; rfl⟩

/-- pattern.ParseDraw's memory between two rounds: the result's block, the drawing's, the iterator's. -/
structure DS (s : ByteArray) (w wr : World) (i r n W H : Nat) (v : Value) (xs : List Int) : Prop where
  it : wr.heap[w.heap.size + 2]? = some (.stringIter s i)
  dat : DAt (w.heap.size + 1) W H v r n wr
  own : wr.ownsRow (w.heap.size + 3) 3 1 v xs.length (xs.map fun x => .int .i64 x)
  res : ResB w.heap.size wr
  below : Below w.heap.size w wr
theorem DS.sz {s : ByteArray} {w wr : World} {i r n W H : Nat} {v : Value} {xs : List Int} (h : DS s w wr i r n W H v xs) : w.heap.size + 3 ≤ wr.heap.size := (Array.getElem?_eq_some_iff.1 h.it).1
theorem DS.iter {s : ByteArray} {w wr : World} {i r n W H : Nat} {v : Value} {xs : List Int} (h : DS s w wr i r n W H v xs) (j : Nat) : DS s w (wr.iterAt (w.heap.size + 2) s j) j r n W H v xs := by
  refine ⟨Lib.iterAt_heap _ _ _ i _ h.it, h.dat.block (Lib.iterAt_other _ _ _ _ _ (by omega)), ownsRow_from h.own fun k hk _ => Lib.iterAt_other _ _ _ _ _ (by omega), h.res.block (Lib.iterAt_other _ _ _ _ _ (by omega)), Lib.below_iterAt h.below (by omega) _ _⟩
theorem DS.rd {s : ByteArray} {w wr w' : World} {i r n W H r' n' W' H' : Nat} {v : Value} {xs : List Int} (h : DS s w wr i r n W H v xs) (hr : Rd (w.heap.size + 1) wr w') (hd : DAt (w.heap.size + 1) W' H' v r' n' w') : DS s w w' i r' n' W' H' v xs := by
  have hz := h.sz
  exact ⟨(hr.block _ (by omega) (by omega)).trans h.it, hd, ownsRow_from h.own fun k hk hl => hr.block k hl (by omega), h.res.block (hr.block _ (by omega) (by omega)), h.below.trans (hr.below (by omega) (by omega))⟩
theorem DS.push {s : ByteArray} {w wr w' : World} {i r n W H : Nat} {v v' : Value} {xs : List Int} {x : Int} (h : DS s w wr i r n W H v xs) (hr : DRd (w.heap.size + 1) (w.heap.size + 3) wr w') (hd : DAt (w.heap.size + 1) W H v' r (n + 1) w') (ho : w'.ownsRow (w.heap.size + 3) 3 1 v' (xs ++ [x]).length ((xs ++ [x]).map fun x => .int .i64 x)) : DS s w w' i r (n + 1) W H v' (xs ++ [x]) := by
  have hz := h.sz
  exact ⟨(hr.block _ (by omega) (by omega)).trans h.it, hd, ho, h.res.block (hr.block _ (by omega) (by omega)), h.below.trans ⟨hr.os, hr.tape, hr.output, hr.size, fun k hk => hr.block k (by omega) (by omega)⟩⟩
theorem DS.pos {s : ByteArray} {w wr : World} {i r n W H : Nat} {v : Value} {xs : List Int} (h : DS s w wr i r n W H v xs) : wr.iterPos (w.heap.size + 2) = i := by
  unfold World.iterPos; rw [h.it]

theorem fresh_own {w0 w : World} {base : Nat} {e : TypeId} {v : Value} {n : Nat} {xs : List Value} (h : w.ownsRow base e 1 v n xs) (hb : w0.heap.size ≤ base) : Fresh w0 v := fun g k c hv => by
  have := ownsRow_block h g (by rw [hv]; rfl)
  omega

def DrawPost (s : ByteArray) (w : World) (e : Ending) (w' : World) : Prop :=
  Below w.heap.size w w' ∧
  ((∃ (W H : Nat) (xs : List Int) (v : Value), drawS s = .inl (W, H, xs) ∧ e = .returned (.tuple #[.agg #[.int .i64 (W : Int), .int .i64 (H : Int), v], .int .i64 0, .nilIface]) ∧ Tab w' v xs ∧ xs.length ≤ 10100 ∧ Fresh w v) ∨
   (∃ a f : Nat, drawS s = .inr (a, f) ∧ e = .returned (.tuple #[.agg #[.int .i64 0, .int .i64 0, .slice none 0 0], .int .i64 (a : Int), .iface 87 (.int .i64 (f : Int))])))
end Go.Proofs.YtjngjnkecnnmeaaDoor

namespace Go.Proofs.YtjngjnkecnnmeaaDoor
open Go.RowKit
set_option linter.unusedVariables false

theorem Cel.arg {w : World} {g n c : Nat} {xs : List Int} (h : Cel w g xs) (hn : xs.length = n) (hm : n ≤ maxLen) : ArgP w xs (some ⟨g, 0, none⟩) n c := by
  subst hn
  exact ⟨rfl, hm, fun k hk => ⟨g, 0, rfl, h.lt, by rw [Nat.zero_add, h.cells k hk]; simp [List.getD, hk]⟩⟩
theorem Tab.arg {w : World} {v : Value} {xs : List Int} (h : Tab w v xs) (hm : xs.length ≤ maxLen) : ∃ a c, v = .slice a xs.length c ∧ ArgP w xs a xs.length c := by
  rcases h with ⟨h1, h2⟩ | ⟨g, cap, h1, h2, h3⟩
  · subst h1
    exact ⟨none, 0, h2, rfl, hm, fun k hk => by simp at hk⟩
  · exact ⟨some ⟨g, 0, none⟩, cap, h1, rfl, hm, fun k hk => ⟨g, 0, rfl, h2, by rw [Nat.zero_add]; exact h3 k hk⟩⟩

theorem small (p : Pat) (hp : p.ok) (h1 : p.W ≤ 100) (h2 : p.H ≤ 100) : p.xs.length ≤ 10000 := by rw [hp]; exact Nat.mul_le_mul h1 h2
/-- A slice whose block was made since, its capacity in bounds. -/
def FreshC (w : World) (v : Value) : Prop := ∀ g k c, v = .slice (some ⟨g, 0, none⟩) k c → w.heap.size ≤ g ∧ k ≤ c ∧ c ≤ maxLen
/-- The pattern in the box, as far as it is turned. -/
structure TD (w wr : World) (p : Pat) (v : Value) : Prop where
  box : TB w.heap.size (.int .i64 (p.W : Int)) (.int .i64 (p.H : Int)) v wr
  res : TB (w.heap.size + 1) (.int .i64 0) (.int .i64 0) (.slice none 0 0) wr
  tab : Tab wr v p.xs
  fresh : ∀ g k c, v = .slice (some ⟨g, 0, none⟩) k c → w.heap.size + 2 ≤ g ∧ k ≤ c ∧ c ≤ maxLen
  ok : p.ok
  lW : p.W ≤ 100
  lH : p.H ≤ 100
  below : Below w.heap.size w wr
  sz : w.heap.size + 2 ≤ wr.heap.size

theorem TB.store {p : Nat} {a b c : Value} {w : World} (h : TB p a b c w) (a' b' c' : Value) : TB p a' b' c' (((w.setCell ⟨p, 0, none⟩ a').setCell ⟨p, 1, none⟩ b').setCell ⟨p, 2, none⟩ c') :=
  ⟨cell_other (cell_other (cell_same h.c0) (by omega)) (by omega), cell_other (cell_same (cell_other h.c1 (by omega))) (by omega), cell_same (cell_other (cell_other h.c2 (by omega)) (by omega)), fun k => by rw [World.frozen?_setCell, World.frozen?_setCell, World.frozen?_setCell]; exact h.fz k⟩
theorem stored_blk (w : World) (p q : Nat) (a b c : Value) (h : q ≠ p) : (((w.setCell ⟨p, 0, none⟩ a).setCell ⟨p, 1, none⟩ b).setCell ⟨p, 2, none⟩ c).heap[q]? = w.heap[q]? :=
  (Below.heap_setCell _ _ _ _ h).trans ((Below.heap_setCell _ _ _ _ h).trans (Below.heap_setCell _ _ _ _ h))
theorem TD.next {w wr w' : World} {p : Pat} {v : Value} (h : TD w wr p v) (hb : Below wr.heap.size wr w') (q : Pat) (g : Nat) (n : Nat) (hC : Cel w' g q.xs) (hn : q.xs.length = n) (hg : wr.heap.size ≤ g) (hq : q.ok) (l1 : q.W ≤ 100) (l2 : q.H ≤ 100) :
    TD w (((w'.setCell ⟨w.heap.size, 0, none⟩ (.int .i64 (q.W : Int))).setCell ⟨w.heap.size, 1, none⟩ (.int .i64 (q.H : Int))).setCell ⟨w.heap.size, 2, none⟩ (.slice (some ⟨g, 0, none⟩) n n)) q (.slice (some ⟨g, 0, none⟩) n n) := by
  have hz := h.sz
  have hz' := hb.size
  refine ⟨(h.box.next hb).store _ _ _, (h.res.next hb).block (stored_blk _ _ _ _ _ _ (by omega)), ?_, fun g' k c e => by injection e with e1 e5 e6; injection e1 with e2; injection e2 with e3; subst e5 e6; exact ⟨by omega, Nat.le_refl _, by rw [← hn]; exact Nat.le_trans (small q hq l1 l2) (by unfold maxLen; omega)⟩, hq, l1, l2, ?_, ?_⟩
  · exact (((hC.rd ((Rd.refl w.heap.size _).set 0 _) (by omega)).rd ((Rd.refl w.heap.size _).set 1 _) (by omega)).rd ((Rd.refl w.heap.size _).set 2 _) (by omega)).tab hn
  · exact (((h.below.trans (hb.mono (by omega))).setCell (Nat.le_refl _) _).setCell (Nat.le_refl _) _).setCell (Nat.le_refl _) _
  · rw [World.size_setCell, World.size_setCell, World.size_setCell]; omega
theorem ok_qtr (p : Pat) : p.qtr.ok := qtrP_length _ _ _
theorem ok_mir (p : Pat) : p.mir.ok := mirP_length _ _ _

def TurnedPost (q : Pat) (w : World) (e : Ending) (w' : World) : Prop :=
  ∃ v, e = .returned (.agg #[.int .i64 (q.W : Int), .int .i64 (q.H : Int), v]) ∧ Tab w' v q.xs ∧ Fresh w v ∧ Below w.heap.size w w'

def TurnedPostC (q : Pat) (w : World) (e : Ending) (w' : World) : Prop :=
  ∃ v, e = .returned (.agg #[.int .i64 (q.W : Int), .int .i64 (q.H : Int), v]) ∧ Tab w' v q.xs ∧ FreshC w v ∧ Below w.heap.size w w'

theorem TD.start_nil (w : World) (W H c : Nat) (hp : Pat.ok ⟨W, H, []⟩) (l1 : W ≤ 100) (l2 : H ≤ 100) (t1 t2 : TypeId) : TD w ((w.alloc (.cells #[.int .i64 (W : Int), .int .i64 (H : Int), .slice none 0 0] t1)).alloc (.cells #[.int .i64 0, .int .i64 0, .slice none 0 0] t2)) ⟨W, H, []⟩ (.slice none 0 0) := by
  have r1 := TB.new (w.alloc (.cells #[.int .i64 (W : Int), .int .i64 (H : Int), .slice none 0 0] t1)) (.int .i64 0) (.int .i64 0) (.slice none 0 0) t2
  rw [World.size_alloc] at r1
  exact ⟨(TB.new w _ _ _ t1).alloc _, r1, Or.inl ⟨rfl, rfl⟩, fun g k c e => (by injection e with e1; cases e1), hp, l1, l2, ((Below.refl _ _).alloc (Nat.le_refl _) _).alloc (by simp) _, by simp⟩

set_option maxRecDepth 100000 in
set_option maxHeartbeats 1600000 in
theorem pturned_nil (W H : Nat) (k : Nat) (c : Nat) (w : World) (hp : Pat.ok ⟨W, H, []⟩) (lW : W ≤ 100) (lH : H ≤ 100) (hk : k < 8) :
    Calls Tryd.prog 80 #[.agg #[.int .i64 (W : Int), .int .i64 (H : Int), .slice none 0 c], .int .i64 (k : Int)] w (TurnedPostC (Pat.turn ⟨W, H, []⟩ k) w) := by
  have D0 := hide' (TD.start_nil w W H c hp lW lH 51 51)
  have OK0 := hide' (show (⟨W, H, []⟩ : Pat).xs.length = W * H from hp)
  go_enter Tryd.func80, Tryd.ntmps80
  by_cases h4 : 4 ≤ k
  · have m4 : (4 : Int) ≤ (k : Int) := by omega
    have AP0 := hide' (show ArgP ((w.alloc (.cells #[.int .i64 (W : Int), .int .i64 (H : Int), .slice none 0 0] 51)).alloc (.cells #[.int .i64 0, .int .i64 0, .slice none 0 0] 51)) [] none 0 0 from ⟨rfl, by unfold maxLen; omega, fun k hk => by simp at hk⟩)
    go_wp2_with fail
    refine (pmirrored ((⟨W, H, []⟩ : Pat)).W ((⟨W, H, []⟩ : Pat)).H ((⟨W, H, []⟩ : Pat)).xs none _ 0 _ AP0.out D0.out.lW D0.out.lH OK0.out).mono ?_
    rintro e w2 ⟨g, rfl, hg, C, b2⟩
    have D := hide' (D0.out.next b2 (((⟨W, H, []⟩ : Pat)).mir) g ((⟨W, H, []⟩ : Pat)).xs.length C (by rw [OK0.out]; exact mirP_length _ _ _) hg (ok_mir _) D0.out.lW D0.out.lH)
    obtain ⟨z0, z1, z2, zf⟩ := D0.out.box.next b2
    have h0 := zf 0
    have h1 := zf 1
    have h2 := zf 2
    clear hg C b2 zf
    go_wp2
    go_loopw [15] (fun jv wr => ∃ (j : Nat) (v : Value), jv = .int .i64 (j : Int) ∧ j ≤ k % 4 ∧ TD w wr ((((⟨W, H, []⟩ : Pat)).mir).rot j) v) (fun jv _ => k % 4 - (intOf jv).toNat)
    case atStart => exact ⟨0, _, rfl, by omega, D.out⟩
    case round =>
      obtain ⟨j, v, rfl, hj, td⟩ := hrel
      have D2 := hide' td
      obtain ⟨a2, c2, rfl, ap⟩ := td.tab.arg (Nat.le_trans (small _ td.ok td.lW td.lH) (by unfold maxLen; omega))
      have AP := hide' ap
      obtain ⟨x0, x1, x2, xf⟩ := td.box
      obtain ⟨r0, r1, r2, rf⟩ := td.res
      have f0 := xf 0
      have f1 := xf 1
      have f2 := xf 2
      have e0 := rf 0
      have e1 := rf 1
      have e2 := rf 2
      have OK := hide' (show ((((⟨W, H, []⟩ : Pat)).mir).rot j).xs.length = ((((⟨W, H, []⟩ : Pat)).mir).rot j).W * ((((⟨W, H, []⟩ : Pat)).mir).rot j).H from td.ok)
      clear td ap xf rf D
      by_cases d : j < k % 4
      · have m1 : (j : Int) < (k : Int) % 4 := by omega
        go_wp2_with fail
        refine (pquarter ((((⟨W, H, []⟩ : Pat)).mir).rot j).W ((((⟨W, H, []⟩ : Pat)).mir).rot j).H ((((⟨W, H, []⟩ : Pat)).mir).rot j).xs a2 _ c2 _ AP.out D2.out.lW D2.out.lH OK.out).mono ?_
        rintro e w2 ⟨g, rfl, hg, C, b2⟩
        have D3 := hide' (D2.out.next b2 (((((⟨W, H, []⟩ : Pat)).mir).rot j).qtr) g ((((⟨W, H, []⟩ : Pat)).mir).rot j).xs.length C (by rw [OK.out, Nat.mul_comm]; exact qtrP_length _ _ _) hg (ok_qtr _) D2.out.lH D2.out.lW)
        obtain ⟨z0, z1, z2, zf⟩ := D2.out.box.next b2
        have h0 := zf 0
        have h1 := zf 1
        have h2 := zf 2
        clear x0 x1 x2 r0 r1 r2 f0 f1 f2 e0 e1 e2 hg C b2 zf
        go_wp2
        exact ⟨⟨j + 1, _, by go_num, by omega, D3.out⟩, by simp [intOf]; omega⟩
      · have m1 : ¬ (j : Int) < (k : Int) % 4 := by omega
        have J := hide' (show j = k % 4 by omega)
        clear d
        go_wp2
        refine bodyPost_ret (v := .agg #[.int .i64 (((((⟨W, H, []⟩ : Pat)).mir).rot j).W : Int), .int .i64 (((((⟨W, H, []⟩ : Pat)).mir).rot j).H : Int), .slice a2 ((((⟨W, H, []⟩ : Pat)).mir).rot j).xs.length c2]) (by simp [results, Tryd.results80, go_sem, r0, r1, r2]) rfl ?_
        have hq : Pat.turn (⟨W, H, []⟩ : Pat) k = (((⟨W, H, []⟩ : Pat)).mir).rot j := by rw [J.out]; unfold Pat.turn; rw [if_pos h4]
        rw [hq]
        have hz := D2.out.sz
        refine ⟨_, rfl, ?_, fun g k c e => by have := D2.out.fresh g k c e; omega, ((D2.out.below.setCell (by simp) _).setCell (by simp) _).setCell (by simp) _⟩
        rcases D2.out.tab with h | ⟨g, cap, e, hg, hc⟩
        · exact Or.inl h
        · exact Or.inr ⟨g, cap, e, by rw [World.size_setCell, World.size_setCell, World.size_setCell]; exact hg, fun i hi => (World.cell?_of_block (w := wr) (a := ⟨g, i, none⟩) (stored_blk wr (w.heap.size + 1) g _ _ _ (by have := D2.out.fresh g _ _ e; omega))).trans (hc i hi)⟩
  · have m4 : ¬ (4 : Int) ≤ (k : Int) := by omega
    have AP0 := hide' (show ArgP ((w.alloc (.cells #[.int .i64 (W : Int), .int .i64 (H : Int), .slice none 0 0] 51)).alloc (.cells #[.int .i64 0, .int .i64 0, .slice none 0 0] 51)) [] none 0 0 from ⟨rfl, by unfold maxLen; omega, fun k hk => by simp at hk⟩)
    go_wp2
    have D := D0
    go_loopw [15] (fun jv wr => ∃ (j : Nat) (v : Value), jv = .int .i64 (j : Int) ∧ j ≤ k % 4 ∧ TD w wr (((⟨W, H, []⟩ : Pat)).rot j) v) (fun jv _ => k % 4 - (intOf jv).toNat)
    case atStart => exact ⟨0, _, rfl, by omega, D.out⟩
    case round =>
      obtain ⟨j, v, rfl, hj, td⟩ := hrel
      have D2 := hide' td
      obtain ⟨a2, c2, rfl, ap⟩ := td.tab.arg (Nat.le_trans (small _ td.ok td.lW td.lH) (by unfold maxLen; omega))
      have AP := hide' ap
      obtain ⟨x0, x1, x2, xf⟩ := td.box
      obtain ⟨r0, r1, r2, rf⟩ := td.res
      have f0 := xf 0
      have f1 := xf 1
      have f2 := xf 2
      have e0 := rf 0
      have e1 := rf 1
      have e2 := rf 2
      have OK := hide' (show (((⟨W, H, []⟩ : Pat)).rot j).xs.length = (((⟨W, H, []⟩ : Pat)).rot j).W * (((⟨W, H, []⟩ : Pat)).rot j).H from td.ok)
      clear td ap xf rf D
      by_cases d : j < k % 4
      · have m1 : (j : Int) < (k : Int) % 4 := by omega
        go_wp2_with fail
        refine (pquarter (((⟨W, H, []⟩ : Pat)).rot j).W (((⟨W, H, []⟩ : Pat)).rot j).H (((⟨W, H, []⟩ : Pat)).rot j).xs a2 _ c2 _ AP.out D2.out.lW D2.out.lH OK.out).mono ?_
        rintro e w2 ⟨g, rfl, hg, C, b2⟩
        have D3 := hide' (D2.out.next b2 ((((⟨W, H, []⟩ : Pat)).rot j).qtr) g (((⟨W, H, []⟩ : Pat)).rot j).xs.length C (by rw [OK.out, Nat.mul_comm]; exact qtrP_length _ _ _) hg (ok_qtr _) D2.out.lH D2.out.lW)
        obtain ⟨z0, z1, z2, zf⟩ := D2.out.box.next b2
        have h0 := zf 0
        have h1 := zf 1
        have h2 := zf 2
        clear x0 x1 x2 r0 r1 r2 f0 f1 f2 e0 e1 e2 hg C b2 zf
        go_wp2
        exact ⟨⟨j + 1, _, by go_num, by omega, D3.out⟩, by simp [intOf]; omega⟩
      · have m1 : ¬ (j : Int) < (k : Int) % 4 := by omega
        have J := hide' (show j = k % 4 by omega)
        clear d
        go_wp2
        refine bodyPost_ret (v := .agg #[.int .i64 ((((⟨W, H, []⟩ : Pat)).rot j).W : Int), .int .i64 ((((⟨W, H, []⟩ : Pat)).rot j).H : Int), .slice a2 (((⟨W, H, []⟩ : Pat)).rot j).xs.length c2]) (by simp [results, Tryd.results80, go_sem, r0, r1, r2]) rfl ?_
        have hq : Pat.turn (⟨W, H, []⟩ : Pat) k = ((⟨W, H, []⟩ : Pat)).rot j := by rw [J.out]; unfold Pat.turn; rw [if_neg h4]
        rw [hq]
        have hz := D2.out.sz
        refine ⟨_, rfl, ?_, fun g k c e => by have := D2.out.fresh g k c e; omega, ((D2.out.below.setCell (by simp) _).setCell (by simp) _).setCell (by simp) _⟩
        rcases D2.out.tab with h | ⟨g, cap, e, hg, hc⟩
        · exact Or.inl h
        · exact Or.inr ⟨g, cap, e, by rw [World.size_setCell, World.size_setCell, World.size_setCell]; exact hg, fun i hi => (World.cell?_of_block (w := wr) (a := ⟨g, i, none⟩) (stored_blk wr (w.heap.size + 1) g _ _ _ (by have := D2.out.fresh g _ _ e; omega))).trans (hc i hi)⟩
end Go.Proofs.YtjngjnkecnnmeaaDoor

namespace Go.Proofs.YtjngjnkecnnmeaaDoor
open Go.RowKit
set_option linter.unusedVariables false

theorem TD.grown_some {w w3 : World} {b r : Obj} (hg : ((w.alloc b).alloc r).grownBy w3 none) : ∀ k, k < w.heap.size + 2 → w3.heap[k]? = ((w.alloc b).alloc r).heap[k]? := fun k hk => hg.block k (by simp; omega) (by simp)
theorem TD.mid_some {w w3 : World} {W H n c : Nat} {a : Addr} {t : TypeId} {r : Obj} (hg : ((w.alloc (.cells #[.int .i64 (W : Int), .int .i64 (H : Int), .slice (some a) n c] t)).alloc r).grownBy w3 none) : w3.cell? ⟨w.heap.size, 0, none⟩ = some (.int .i64 (W : Int)) ∧ w3.cell? ⟨w.heap.size, 1, none⟩ = some (.int .i64 (H : Int)) ∧ w3.cell? ⟨w.heap.size, 2, none⟩ = some (.slice (some a) n c) ∧ w3.frozen? ⟨w.heap.size, 2, none⟩ = false := by
  have h := ((TB.new w (.int .i64 (W : Int)) (.int .i64 (H : Int)) (.slice (some a) n c) t).alloc r).block (TD.grown_some hg _ (by omega))
  exact ⟨h.c0, h.c1, h.c2, h.fz 2⟩
theorem TD.start_some {w w3 : World} {W H c : Nat} {xs : List Int} {a : Addr} {v : Value} {t1 t2 : TypeId} (hp : Pat.ok ⟨W, H, xs⟩) (l1 : W ≤ 100) (l2 : H ≤ 100) (hg : ((w.alloc (.cells #[.int .i64 (W : Int), .int .i64 (H : Int), .slice (some a) xs.length c] t1)).alloc (.cells #[.int .i64 0, .int .i64 0, .slice none 0 0] t2)).grownBy w3 none)
    (ho : w3.ownsRow (w.heap.size + 2) 3 1 v (0 + xs.length) ([] ++ xs.map fun x => .int .i64 x)) : TD w (w3.setCell ⟨w.heap.size, 2, none⟩ v) ⟨W, H, xs⟩ v := by
  have hk := TD.grown_some hg
  have hb := ((TB.new w (.int .i64 (W : Int)) (.int .i64 (H : Int)) (.slice (some a) xs.length c) t1).alloc (.cells #[.int .i64 0, .int .i64 0, .slice none 0 0] t2)).block (hk _ (by omega))
  have r1 := TB.new (w.alloc (.cells #[.int .i64 (W : Int), .int .i64 (H : Int), .slice (some a) xs.length c] t1)) (.int .i64 0) (.int .i64 0) (.slice none 0 0) t2
  rw [World.size_alloc] at r1
  have hsz := hg.size
  simp only [World.size_alloc] at hsz
  rw [Nat.zero_add, List.nil_append] at ho
  refine ⟨⟨cell_other hb.c0 (by omega), cell_other hb.c1 (by omega), cell_same hb.c2, fun k => by rw [World.frozen?_setCell]; exact hb.fz k⟩, (r1.block (hk _ (by omega))).block (Below.heap_setCell _ _ _ _ (by simp)), ownsRow_tab (ownsRow_setCell_below ho (a := ⟨w.heap.size, 2, none⟩) (by simp) _), fun g k c e => ?_, hp, l1, l2, ?_, by rw [World.size_setCell]; omega⟩
  · rcases ho.2 with ⟨h1, -⟩ | ⟨g', cap, cur, h1, h2, -, h3, h4, -⟩
    · rw [h1] at e; cases e
    · rw [h1] at e
      injection e with e1 e2 e3
      injection e1 with e1
      injection e1 with e1
      subst e1 e2 e3
      exact ⟨h2, h3, h4⟩
  · refine Below.setCell (p := ⟨w.heap.size, 2, none⟩) ?_ (Nat.le_refl _) _
    exact (((Below.refl _ _).alloc (Nat.le_refl _) _).alloc (by simp) _).trans ⟨hg.os, hg.tape, hg.output, by simp only [World.size_alloc]; omega, fun k hkk => hk k (by omega)⟩
theorem own_form {w : World} {base : Nat} {v : Value} {xs : List Int} (h : w.ownsRow base 3 1 v (0 + xs.length) ([] ++ xs.map fun x => .int .i64 x)) : ∃ a c, v = .slice a xs.length c := by
  rw [Nat.zero_add, List.nil_append] at h
  rcases ownsRow_tab h with ⟨h1, h2⟩ | ⟨g, cap, h1, -⟩
  · subst h1; exact ⟨none, 0, h2⟩
  · exact ⟨_, cap, h1⟩
theorem TD.arg0 {w wr : World} {W H n c : Nat} {xs : List Int} {a : Option Addr} (h : TD w wr ⟨W, H, xs⟩ (.slice a n c)) : ArgP wr xs a xs.length c := by
  obtain ⟨a', c', e, ap⟩ := h.tab.arg (Nat.le_trans (small _ h.ok h.lW h.lH) (by unfold maxLen; omega))
  injection e with e1 e2 e3
  subst e1 e3
  exact ap
theorem news_arg {w : World} {xs : List Int} {a : Addr} {n c : Nat} (h : ArgP w xs (some a) n c) : ∀ (j : Nat) (u : Value), (xs.map fun x => Value.int .i64 x)[j]? = some u → w.cell? (a.add j) = some u := by
  intro j u hu
  rw [List.getElem?_map] at hu
  obtain ⟨x, hx, rfl⟩ := Option.map_eq_some_iff.1 hu
  obtain ⟨hj, he⟩ := List.getElem?_eq_some_iff.1 hx
  obtain ⟨g, off, e, hg, hc⟩ := h.cells j hj
  injection e with e1
  subst e1
  have ea : (⟨g, off, none⟩ : Addr).add j = ⟨g, off + j, none⟩ := by
    unfold Addr.add
    split
    · rename_i hz; subst hz; rfl
    · rfl
  rw [ea, hc, he]

set_option maxRecDepth 100000 in
set_option maxHeartbeats 1600000 in
theorem pturned_some (W H : Nat) (xs : List Int) (k : Nat) (a : Addr) (c : Nat) (w : World) (hP : ArgP w xs (some a) xs.length c) (hp : Pat.ok ⟨W, H, xs⟩) (lW : W ≤ 100) (lH : H ≤ 100) (hk : k < 8) :
    Calls Tryd.prog 80 #[.agg #[.int .i64 (W : Int), .int .i64 (H : Int), .slice (some a) xs.length c], .int .i64 (k : Int)] w (TurnedPostC (Pat.turn ⟨W, H, xs⟩ k) w) := by
  have hsm := small _ hp lW lH
  dsimp only at hsm
  have NW := hide' (news_arg ((hP.alloc (.cells #[.int .i64 (W : Int), .int .i64 (H : Int), .slice (some a) xs.length c] 51)).alloc (.cells #[.int .i64 0, .int .i64 0, .slice none 0 0] 51)))
  obtain ⟨i0, hi, hz0, hz1, hz2⟩ := info_parts info_int
  have OK0 := hide' (show (⟨W, H, xs⟩ : Pat).xs.length = W * H from hp)
  clear hP
  go_enter Tryd.func80, Tryd.ntmps80
  by_cases h4 : 4 ≤ k
  · have m4 : (4 : Int) ≤ (k : Int) := by omega
    go_wp2_with (at_builtin; refine wpList_append_own _ rfl _ _ 22 rfl (w.heap.size + 2) 3 i0 (.int .i64 0) 1 8 Tryd.underlying22 hi hz0 hz1 hz2 rfl (by decide) (.slice none 0 0) 0 [] rfl ⟨by simp, Or.inl ⟨rfl, by simp⟩⟩ a xs.length c (xs.map fun x => .int .i64 x) rfl (by simp) NW.out (fun x hx => by obtain ⟨y, -, rfl⟩ := List.mem_map.1 hx; rfl) (by unfold maxLen; omega) (by omega) (by simp) ?_; intro v' w3 hown' hgrow3 hnil3; obtain ⟨ta, tc, rfl⟩ := own_form hown'; have D0 := hide' (TD.start_some hp lW lH hgrow3 hown'); obtain ⟨x3, x4, x5, x6⟩ := TD.mid_some hgrow3; clear hgrow3 hown' hnil3)
    have AP0 := hide' (TD.arg0 D0.out)
    refine (pmirrored W H xs _ _ _ _ AP0.out D0.out.lW D0.out.lH OK0.out).mono ?_
    rintro e w2 ⟨g, rfl, hg, C, b2⟩
    have D := hide' (D0.out.next b2 (((⟨W, H, xs⟩ : Pat)).mir) g xs.length C (by rw [show xs.length = W * H from OK0.out]; exact mirP_length _ _ _) hg (ok_mir _) D0.out.lW D0.out.lH)
    obtain ⟨z0, z1, z2, zf⟩ := D0.out.box.next b2
    have h0 := zf 0
    have h1 := zf 1
    have h2 := zf 2
    clear hg C b2 zf
    go_wp2
    go_loopw [15] (fun jv wr => ∃ (j : Nat) (v : Value), jv = .int .i64 (j : Int) ∧ j ≤ k % 4 ∧ TD w wr ((((⟨W, H, xs⟩ : Pat)).mir).rot j) v) (fun jv _ => k % 4 - (intOf jv).toNat)
    case atStart => exact ⟨0, _, rfl, by omega, D.out⟩
    case round =>
      obtain ⟨j, v, rfl, hj, td⟩ := hrel
      have D2 := hide' td
      obtain ⟨a2, c2, rfl, ap⟩ := td.tab.arg (Nat.le_trans (small _ td.ok td.lW td.lH) (by unfold maxLen; omega))
      have AP := hide' ap
      obtain ⟨x0, x1, x2, xf⟩ := td.box
      obtain ⟨r0, r1, r2, rf⟩ := td.res
      have f0 := xf 0
      have f1 := xf 1
      have f2 := xf 2
      have e0 := rf 0
      have e1 := rf 1
      have e2 := rf 2
      have OK := hide' (show ((((⟨W, H, xs⟩ : Pat)).mir).rot j).xs.length = ((((⟨W, H, xs⟩ : Pat)).mir).rot j).W * ((((⟨W, H, xs⟩ : Pat)).mir).rot j).H from td.ok)
      clear td ap xf rf D
      by_cases d : j < k % 4
      · have m1 : (j : Int) < (k : Int) % 4 := by omega
        go_wp2_with fail
        refine (pquarter ((((⟨W, H, xs⟩ : Pat)).mir).rot j).W ((((⟨W, H, xs⟩ : Pat)).mir).rot j).H ((((⟨W, H, xs⟩ : Pat)).mir).rot j).xs a2 _ c2 _ AP.out D2.out.lW D2.out.lH OK.out).mono ?_
        rintro e w2 ⟨g, rfl, hg, C, b2⟩
        have D3 := hide' (D2.out.next b2 (((((⟨W, H, xs⟩ : Pat)).mir).rot j).qtr) g ((((⟨W, H, xs⟩ : Pat)).mir).rot j).xs.length C (by rw [OK.out, Nat.mul_comm]; exact qtrP_length _ _ _) hg (ok_qtr _) D2.out.lH D2.out.lW)
        obtain ⟨z0, z1, z2, zf⟩ := D2.out.box.next b2
        have h0 := zf 0
        have h1 := zf 1
        have h2 := zf 2
        clear x0 x1 x2 r0 r1 r2 f0 f1 f2 e0 e1 e2 hg C b2 zf
        go_wp2
        exact ⟨⟨j + 1, _, by go_num, by omega, D3.out⟩, by simp [intOf]; omega⟩
      · have m1 : ¬ (j : Int) < (k : Int) % 4 := by omega
        have J := hide' (show j = k % 4 by omega)
        clear d
        go_wp2
        refine bodyPost_ret (v := .agg #[.int .i64 (((((⟨W, H, xs⟩ : Pat)).mir).rot j).W : Int), .int .i64 (((((⟨W, H, xs⟩ : Pat)).mir).rot j).H : Int), .slice a2 ((((⟨W, H, xs⟩ : Pat)).mir).rot j).xs.length c2]) (by simp [results, Tryd.results80, go_sem, r0, r1, r2]) rfl ?_
        have hq : Pat.turn (⟨W, H, xs⟩ : Pat) k = (((⟨W, H, xs⟩ : Pat)).mir).rot j := by rw [J.out]; unfold Pat.turn; rw [if_pos h4]
        rw [hq]
        have hz := D2.out.sz
        refine ⟨_, rfl, ?_, fun g k c e => by have := D2.out.fresh g k c e; omega, ((D2.out.below.setCell (by simp) _).setCell (by simp) _).setCell (by simp) _⟩
        rcases D2.out.tab with h | ⟨g, cap, e, hg, hc⟩
        · exact Or.inl h
        · exact Or.inr ⟨g, cap, e, by rw [World.size_setCell, World.size_setCell, World.size_setCell]; exact hg, fun i hi => (World.cell?_of_block (w := wr) (a := ⟨g, i, none⟩) (stored_blk wr (w.heap.size + 1) g _ _ _ (by have := D2.out.fresh g _ _ e; omega))).trans (hc i hi)⟩
  · have m4 : ¬ (4 : Int) ≤ (k : Int) := by omega
    go_wp2_with (at_builtin; refine wpList_append_own _ rfl _ _ 22 rfl (w.heap.size + 2) 3 i0 (.int .i64 0) 1 8 Tryd.underlying22 hi hz0 hz1 hz2 rfl (by decide) (.slice none 0 0) 0 [] rfl ⟨by simp, Or.inl ⟨rfl, by simp⟩⟩ a xs.length c (xs.map fun x => .int .i64 x) rfl (by simp) NW.out (fun x hx => by obtain ⟨y, -, rfl⟩ := List.mem_map.1 hx; rfl) (by unfold maxLen; omega) (by omega) (by simp) ?_; intro v' w3 hown' hgrow3 hnil3; obtain ⟨ta, tc, rfl⟩ := own_form hown'; have D0 := hide' (TD.start_some hp lW lH hgrow3 hown'); obtain ⟨x3, x4, x5, x6⟩ := TD.mid_some hgrow3; clear hgrow3 hown' hnil3)
    have AP0 := hide' (TD.arg0 D0.out)
    have D := D0
    go_loopw [15] (fun jv wr => ∃ (j : Nat) (v : Value), jv = .int .i64 (j : Int) ∧ j ≤ k % 4 ∧ TD w wr (((⟨W, H, xs⟩ : Pat)).rot j) v) (fun jv _ => k % 4 - (intOf jv).toNat)
    case atStart => exact ⟨0, _, rfl, by omega, D.out⟩
    case round =>
      obtain ⟨j, v, rfl, hj, td⟩ := hrel
      have D2 := hide' td
      obtain ⟨a2, c2, rfl, ap⟩ := td.tab.arg (Nat.le_trans (small _ td.ok td.lW td.lH) (by unfold maxLen; omega))
      have AP := hide' ap
      obtain ⟨x0, x1, x2, xf⟩ := td.box
      obtain ⟨r0, r1, r2, rf⟩ := td.res
      have f0 := xf 0
      have f1 := xf 1
      have f2 := xf 2
      have e0 := rf 0
      have e1 := rf 1
      have e2 := rf 2
      have OK := hide' (show (((⟨W, H, xs⟩ : Pat)).rot j).xs.length = (((⟨W, H, xs⟩ : Pat)).rot j).W * (((⟨W, H, xs⟩ : Pat)).rot j).H from td.ok)
      clear td ap xf rf D
      by_cases d : j < k % 4
      · have m1 : (j : Int) < (k : Int) % 4 := by omega
        go_wp2_with fail
        refine (pquarter (((⟨W, H, xs⟩ : Pat)).rot j).W (((⟨W, H, xs⟩ : Pat)).rot j).H (((⟨W, H, xs⟩ : Pat)).rot j).xs a2 _ c2 _ AP.out D2.out.lW D2.out.lH OK.out).mono ?_
        rintro e w2 ⟨g, rfl, hg, C, b2⟩
        have D3 := hide' (D2.out.next b2 ((((⟨W, H, xs⟩ : Pat)).rot j).qtr) g (((⟨W, H, xs⟩ : Pat)).rot j).xs.length C (by rw [OK.out, Nat.mul_comm]; exact qtrP_length _ _ _) hg (ok_qtr _) D2.out.lH D2.out.lW)
        obtain ⟨z0, z1, z2, zf⟩ := D2.out.box.next b2
        have h0 := zf 0
        have h1 := zf 1
        have h2 := zf 2
        clear x0 x1 x2 r0 r1 r2 f0 f1 f2 e0 e1 e2 hg C b2 zf
        go_wp2
        exact ⟨⟨j + 1, _, by go_num, by omega, D3.out⟩, by simp [intOf]; omega⟩
      · have m1 : ¬ (j : Int) < (k : Int) % 4 := by omega
        have J := hide' (show j = k % 4 by omega)
        clear d
        go_wp2
        refine bodyPost_ret (v := .agg #[.int .i64 ((((⟨W, H, xs⟩ : Pat)).rot j).W : Int), .int .i64 ((((⟨W, H, xs⟩ : Pat)).rot j).H : Int), .slice a2 (((⟨W, H, xs⟩ : Pat)).rot j).xs.length c2]) (by simp [results, Tryd.results80, go_sem, r0, r1, r2]) rfl ?_
        have hq : Pat.turn (⟨W, H, xs⟩ : Pat) k = ((⟨W, H, xs⟩ : Pat)).rot j := by rw [J.out]; unfold Pat.turn; rw [if_neg h4]
        rw [hq]
        have hz := D2.out.sz
        refine ⟨_, rfl, ?_, fun g k c e => by have := D2.out.fresh g k c e; omega, ((D2.out.below.setCell (by simp) _).setCell (by simp) _).setCell (by simp) _⟩
        rcases D2.out.tab with h | ⟨g, cap, e, hg, hc⟩
        · exact Or.inl h
        · exact Or.inr ⟨g, cap, e, by rw [World.size_setCell, World.size_setCell, World.size_setCell]; exact hg, fun i hi => (World.cell?_of_block (w := wr) (a := ⟨g, i, none⟩) (stored_blk wr (w.heap.size + 1) g _ _ _ (by have := D2.out.fresh g _ _ e; omega))).trans (hc i hi)⟩
end Go.Proofs.YtjngjnkecnnmeaaDoor

namespace Go.Proofs.YtjngjnkecnnmeaaDoor
open Go.RowKit
set_option linter.unusedVariables false

/-- The q-th cell of a window V wide that begins at l, t. -/
def winC (W l t V : Nat) (xs : List Int) (q : Nat) : Int := atP W xs (l + q % V) (t + q / V)
def winP (W l t V N : Nat) (xs : List Int) : List Int := (List.range N).map (winC W l t V xs)
/-- The row while it is filled: m cells so far. -/
def winR (W l t V N m : Nat) (xs : List Int) : List Value := (List.range N).map fun q => if q < m then .int .i64 (winC W l t V xs q) else .int .i64 0
theorem winR_length (W l t V N m : Nat) (xs : List Int) : (winR W l t V N m xs).length = N := by simp [winR]
theorem winR_zero (W l t V N : Nat) (xs : List Int) : winR W l t V N 0 xs = List.replicate N (.int .i64 0) := by
  apply List.ext_getElem (by simp [winR])
  intro i h1 h2
  simp [winR]
theorem winR_step (W l t V N y : Nat) (xs : List Int) (h : y * V + V ≤ N) : splice (winR W l t V N (y * V) xs) (y * V) ((List.range V).map fun x => Value.int .i64 (winC W l t V xs (y * V + x))) = winR W l t V N (y * V + V) xs := by
  apply List.ext_getElem?
  intro i
  unfold splice
  rw [List.getElem?_append]
  simp only [List.length_take, winR_length, List.length_map, List.length_range]
  rw [Nat.min_eq_left (by omega)]
  split
  · rename_i hi
    rw [List.getElem?_take, if_pos hi]
    simp [winR, show i < N by omega, hi, show i < y * V + V by omega]
  · rename_i hi
    rw [List.getElem?_append]
    simp only [List.length_map, List.length_range]
    split
    · rename_i hj
      simp [winR, hj, show i < N by omega, show i < y * V + V by omega, show y * V + (i - y * V) = i by omega]
    · rename_i hj
      rw [List.getElem?_drop, show y * V + V + (i - y * V - V) = i by omega]
      by_cases hN : i < N
      · simp [winR, hN, show ¬ i < y * V + V by omega, show ¬ i < y * V by omega]
      · simp [winR, hN]

set_option maxHeartbeats 800000 in
theorem pblank_row (W H : Nat) (w : World) (hW : W ≤ 100) (hH : H ≤ 100) :
    Calls Tryd.prog 123 #[.int .i64 (W : Int), .int .i64 (H : Int)] w fun e w' => ∃ g, e = .returned (.agg #[.int .i64 (W : Int), .int .i64 (H : Int), .slice (some ⟨g, 0, none⟩) (W * H) (W * H)]) ∧ w.heap.size ≤ g ∧ w'.heap[g]? = some (.cells (List.replicate (W * H) (.int .i64 0)).toArray 3 (0, 0)) ∧ Below w.heap.size w w' := by
  have hn : W * H ≤ 10000 := Nat.mul_le_mul hW hH
  have hc : (W : Int) * (H : Int) = ((W * H : Nat) : Int) := by simp
  have hmk := run_make_row' (P := Tryd.prog) 22 3 (.int .i64 0) 8 Tryd.underlying22 info_int rfl .i64 .i64 (W * H) (by omega) (by omega)
  obtain ⟨N, hN⟩ : ∃ N, W * H = N := ⟨_, rfl⟩
  rw [hN] at hn hc hmk ⊢
  clear hN
  go_enter Tryd.func123, Tryd.ntmps123
  go_wp2
  refine bodyPost_ret (v := .agg #[.int .i64 (W : Int), .int .i64 (H : Int), .slice (some ⟨w.heap.size + 1, 0, none⟩) N N]) (by simp [results, Tryd.results123, go_sem]) rfl ?_
  refine ⟨w.heap.size + 1, rfl, by omega, ?_, ((Below.refl _ _).alloc (Nat.le_refl _) _).alloc (by simp) _⟩
  have h := heap_alloc_new (w.alloc (.cells #[.int .i64 (W : Int), .int .i64 (H : Int), .slice (some ⟨w.heap.size + 1, 0, none⟩) N N] 51)) (.cells (madeCells #[.int .i64 0] N) 3)
  rw [World.size_alloc] at h
  rw [h]
  congr 2
  rw [← toList_madeCells_one]

theorem row_cel {w : World} {g : Nat} {xs : List Int} {t : TypeId} (h : w.heap[g]? = some (.cells (xs.map fun x => Value.int .i64 x).toArray t (0, 0))) : Cel w g xs := by
  refine ⟨(Array.getElem?_eq_some_iff.1 h).1, fun k hk => ?_, fun k => ?_⟩
  · simp [World.cell?, h, hk, List.getD]
  · simp [World.frozen?, h]
end Go.Proofs.YtjngjnkecnnmeaaDoor

namespace Go.Proofs.YtjngjnkecnnmeaaDoor
open Go.RowKit
set_option linter.unusedVariables false

/-- Of the first m cells that live: the least column and row, and behind the greatest. -/
structure Bx where
  l : Nat
  t : Nat
  r : Nat
  b : Nat
def bbx (W H : Nat) (xs : List Int) : Nat → Bx
  | 0 => ⟨W, H, 0, 0⟩
  | m + 1 => if xs.getD m 0 = 1 then ⟨min (bbx W H xs m).l (m % W), min (bbx W H xs m).t (m / W), max (bbx W H xs m).r (m % W + 1), max (bbx W H xs m).b (m / W + 1)⟩ else bbx W H xs m
theorem bbx_yes {W H m : Nat} {xs : List Int} (h : xs.getD m 0 = 1) : bbx W H xs (m + 1) = ⟨min (bbx W H xs m).l (m % W), min (bbx W H xs m).t (m / W), max (bbx W H xs m).r (m % W + 1), max (bbx W H xs m).b (m / W + 1)⟩ := by
  rw [bbx, if_pos h]
theorem bbx_no {W H m : Nat} {xs : List Int} (h : ¬ xs.getD m 0 = 1) : bbx W H xs (m + 1) = bbx W H xs m := by
  rw [bbx, if_neg h]
theorem bbx_le (W H : Nat) (xs : List Int) : ∀ m, m ≤ W * H → (bbx W H xs m).l ≤ W ∧ (bbx W H xs m).t ≤ H ∧ (bbx W H xs m).r ≤ W ∧ (bbx W H xs m).b ≤ H ∧ (((bbx W H xs m).r = 0 ∧ (bbx W H xs m).b = 0) ∨ ((bbx W H xs m).l < (bbx W H xs m).r ∧ (bbx W H xs m).t < (bbx W H xs m).b)) := by
  intro m
  induction m with
  | zero => intro _; simp [bbx]
  | succ m ih =>
    intro hm
    obtain ⟨h1, h2, h3, h4, h5⟩ := ih (by omega)
    by_cases q : xs.getD m 0 = 1
    · rw [bbx_yes q]
      obtain ⟨x, y, hx, hy, ex, ey, -⟩ := split_lt (W := W) (H := H) (i := m) (by omega)
      rw [ex, ey]
      dsimp only
      omega
    · rw [bbx_no q]; exact ⟨h1, h2, h3, h4, h5⟩

/-- Trimmed: the pattern, and what was left out to the left and above. -/
def trimP (p : Pat) : Pat × Nat × Nat :=
  let q := bbx p.W p.H p.xs (p.W * p.H)
  if q.r = 0 then (⟨0, 0, []⟩, 0, 0) else (⟨q.r - q.l, q.b - q.t, winP p.W q.l q.t (q.r - q.l) ((q.r - q.l) * (q.b - q.t)) p.xs⟩, q.l, q.t)
theorem trim_ok (p : Pat) : (trimP p).1.ok := by
  unfold trimP
  dsimp only
  split
  · rfl
  · simp [Pat.ok, winP]
theorem trim_le (p : Pat) (h1 : p.W ≤ 100) (h2 : p.H ≤ 100) : (trimP p).1.W ≤ 100 ∧ (trimP p).1.H ≤ 100 := by
  obtain ⟨a, b, c, d, -⟩ := bbx_le p.W p.H p.xs (p.W * p.H) (Nat.le_refl _)
  unfold trimP
  dsimp only
  split
  · exact ⟨Nat.zero_le _, Nat.zero_le _⟩
  · exact ⟨by dsimp only; omega, by dsimp only; omega⟩
end Go.Proofs.YtjngjnkecnnmeaaDoor

namespace Go.Proofs.YtjngjnkecnnmeaaDoor
open Go.RowKit
set_option linter.unusedVariables false

/-- The window's memory: the box, the result's block, the new pattern's block, its row. -/
structure WW (w wr : World) (O g W H V U N m l t : Nat) (xs : List Int) (a : Option Addr) (n c : Nat) : Prop where
  box : TB w.heap.size (.int .i64 (W : Int)) (.int .i64 (H : Int)) (.slice a n c) wr
  res : TB (w.heap.size + 1) (.int .i64 0) (.int .i64 0) (.slice none 0 0) wr
  out : TB O (.int .i64 (V : Int)) (.int .i64 (U : Int)) (.slice (some ⟨g, 0, none⟩) N N) wr
  row : wr.heap[g]? = some (.cells (winR W l t V N m xs).toArray 3 (0, 0))
  hg : w.heap.size + 2 ≤ g
  hO : g < O
  below : Below w.heap.size w wr
theorem WW.step {w wr w' : World} {O g W H V U N m l t m' : Nat} {xs : List Int} {a : Option Addr} {n c : Nat} (h : WW w wr O g W H V U N m l t xs a n c) (hr : w'.heap[g]? = some (.cells (winR W l t V N m' xs).toArray 3 (0, 0))) (hb : ∀ k, k < O + 1 → k ≠ g → w'.heap[k]? = wr.heap[k]?) (hbb : Below w.heap.size w w') : WW w w' O g W H V U N m' l t xs a n c := by
  have h1 := h.hg
  have h2 := h.hO
  exact ⟨h.box.block (hb _ (by omega) (by omega)), h.res.block (hb _ (by omega) (by omega)), h.out.block (hb _ (by omega) (by omega)), hr, h1, h2, hbb⟩

/-- copy as one step of a region that draws, the world behind it written out. -/
theorem step_copy_exact {P : Program} {ops : Array Oper} {o : Oper} {a : Act} {w : World} {K : Act → World → Prop} {Q : Exit → Act → World → Prop} {E : Prop} (hgd : o.guard = none) (d s : Operand) (dT sT : TypeId)
    (ho : o.op = .call { callee := .builtin .copy, args := #[d, s], argTypes := #[dT, sT] }) (elem : TypeId) (hu : P.underlying dT = some (.slice elem)) (hsz : (P.info? elem).map (·.size) = some 1)
    (g off dLen dCap : Nat) (ad : Addr) (sLen sCap : Nat) (hd : a.eval d = .slice (some ⟨g, off, none⟩) dLen dCap) (hs : a.eval s = .slice (some ad) sLen sCap)
    (cur : List Value) (t : TypeId) (hg : w.heap[g]? = some (.cells cur.toArray t (0, 0))) (cs : List Value) (hn : cs.length = Nat.min sLen dLen) (hsrc : ∀ j v, cs[j]? = some v → w.cell? (ad.add j) = some v)
    (hfit : off + cs.length ≤ cur.length) (h1 : ∀ v ∈ cs, v.oneCell' = true)
    (h : ∀ w', w'.heap[g]? = some (.cells (splice cur off cs).toArray t (0, 0)) → (∀ k, k ≠ g → w'.heap[k]? = w.heap[k]?) → (w'.os = w.os ∧ w'.tape = w.tape ∧ w'.output = w.output ∧ w'.heap.size = w.heap.size) → K (a.put o.dst (goInt cs.length)) w') :
    if Region.wanted o (yielded ops a.tmps) = true then Oper.wp P o a w K Q else E := by
  have hw : Region.wanted o (yielded ops a.tmps) = true := by simp [Region.wanted, hgd]
  rw [if_pos hw]
  have hrun := run_copy_row (P := P) w dT sT o.type elem g off dLen dCap ad sLen sCap cur.toArray t cs hu hsz hg hn hsrc (by simpa using hfit) h1
  unfold Oper.wp
  simp [execOp, ho, resolve, invoke, builtin, hd, hs, hrun, Result.andThen]
  exact h _ (by simpa [splice] using setRow_heap w g _ _ t _ hg) (fun k hk => setRow_other w g k _ hk) ⟨rfl, rfl, rfl, by simp [World.setRow]⟩
end Go.Proofs.YtjngjnkecnnmeaaDoor

namespace Go.Proofs.YtjngjnkecnnmeaaDoor
open Go.RowKit
set_option linter.unusedVariables false

theorem wrap_nat (n : Nat) (h : n ≤ 1000000) : IntKind.i64.wrap (n : Int) = (n : Int) := by
  unfold IntKind.wrap
  simp [IntKind.signed, IntKind.bits]
  omega

set_option maxRecDepth 100000 in
set_option maxHeartbeats 6400000 in
theorem pwindow (W H l t r b : Nat) (xs : List Int) (a : Addr) (n c : Nat) (w : World) (hP : ArgP w xs (some a) n c) (lW : W ≤ 100) (lH : H ≤ 100) (hn : n = W * H) (hc : n ≤ c) (hcm : c ≤ maxLen) (hl : l < r) (hr : r ≤ W) (ht : t < b) (hb : b ≤ H) :
    Calls Tryd.prog 79 #[.agg #[.int .i64 (W : Int), .int .i64 (H : Int), .slice (some a) n c], .int .i64 (l : Int), .int .i64 (t : Int), .int .i64 (r : Int), .int .i64 (b : Int)] w fun e w' => ∃ g, e = .returned (.agg #[.int .i64 ((r - l : Nat) : Int), .int .i64 ((b - t : Nat) : Int), .slice (some ⟨g, 0, none⟩) ((r - l) * (b - t)) ((r - l) * (b - t))]) ∧ w.heap.size ≤ g ∧ Cel w' g (winP W l t (r - l) ((r - l) * (b - t)) xs) ∧ Below w.heap.size w w' := by
  obtain ⟨V, hV⟩ : ∃ V, V = r - l := ⟨_, rfl⟩
  obtain ⟨U, hU⟩ : ∃ U, U = b - t := ⟨_, rfl⟩
  have q1 : (r : Int) - (l : Int) = (V : Int) := by omega
  have q2 : (b : Int) - (t : Int) = (U : Int) := by omega
  have lV : V ≤ 100 := by omega
  have lU : U ≤ 100 := by omega
  rw [← hV, ← hU]
  have HV := hide' hV
  have HU := hide' hU
  have lV1 : l + V ≤ W := by omega
  have lU1 : t + U ≤ H := by omega
  have lV2 : 1 ≤ V := by omega
  clear hV hU
  have hN4 : n ≤ 10000 := by rw [hn]; exact Nat.mul_le_mul lW lH
  have HP := hide' hP
  have HN := hide' hn
  unfold maxLen at hcm
  clear hP hn
  go_enter Tryd.func79, Tryd.ntmps79
  go_wp2_with fail
  refine (pblank_row V U _ lV lU).mono ?_
  rintro e w1 ⟨g, rfl, hg, hrow, b1⟩
  obtain ⟨N, hNN⟩ : ∃ N, V * U = N := ⟨_, rfl⟩
  rw [hNN] at hrow ⊢
  have HNN := hide' hNN
  have T0 := hide' (show WW w (w1.alloc (.cells #[.int .i64 (V : Int), .int .i64 (U : Int), .slice (some ⟨g, 0, none⟩) N N] 51)) w1.heap.size g W H V U N 0 l t xs (some a) n c by
    have hz := b1.size
    simp only [World.size_alloc] at hz hg b1
    have r1 := TB.new (w.alloc (.cells #[.int .i64 (W : Int), .int .i64 (H : Int), .slice (some a) n c] 51)) (.int .i64 0) (.int .i64 0) (.slice none 0 0) 51
    rw [World.size_alloc] at r1
    have hlt := (Array.getElem?_eq_some_iff.1 hrow).1
    refine ⟨(((TB.new w _ _ _ _).alloc _).block (b1.block _ (by omega))).alloc _, (r1.block (b1.block _ (by omega))).alloc _, TB.new w1 _ _ _ _, ?_, by omega, hlt, ?_⟩
    · rw [winR_zero]; exact (Below.heap_alloc _ _ _ hlt).trans hrow
    · exact ((((Below.refl _ _).alloc (Nat.le_refl _) _).alloc (by simp) _).trans (b1.mono (by omega))).alloc (by omega) _)
  clear hg hrow b1
  go_wp2
  go_loopw [23] (fun yv wr => ∃ y : Nat, yv = .int .i64 (y : Int) ∧ y ≤ U ∧ WW w wr w1.heap.size g W H V U N (y * V) l t xs (some a) n c) (fun yv _ => U - (intOf yv).toNat)
  case atStart => exact ⟨0, rfl, by omega, by rw [Nat.zero_mul]; exact T0.out⟩
  case round =>
    obtain ⟨y, rfl, hy, ww⟩ := hrel
    have T := hide' ww
    clear ww T0
    by_cases d : (y : Int) < (U : Int)
    · obtain ⟨PP, hPP⟩ : ∃ PP, (t + y) * W = PP := ⟨_, rfl⟩
      have q3 : ((t : Int) + (y : Int)) * (W : Int) = (PP : Int) := by rw [← hPP]; simp
      obtain ⟨YV, hYV⟩ : ∃ YV, y * V = YV := ⟨_, rfl⟩
      have q4 : (y : Int) * (V : Int) = (YV : Int) := by rw [← hYV]; simp
      have hPn : PP + l + V ≤ n := by
        rw [← hPP, HN.out, Nat.mul_comm W H]
        have := Nat.mul_le_mul_right W (show t + y + 1 ≤ H by omega)
        rw [Nat.add_mul (t + y)] at this
        omega
      have hYN : YV + V ≤ N := by
        rw [← hYV, ← HNN.out, Nat.mul_comm V U]
        have := Nat.mul_le_mul_right V (show y + 1 ≤ U by omega)
        rw [Nat.add_mul] at this
        omega
      have hN5 : N ≤ 10000 := by rw [← HNN.out]; exact Nat.mul_le_mul lV lU
      have AP := HP.out.below T.out.below
      obtain ⟨ga, off, ea, hga, -⟩ := AP.cells (PP + l) (by rw [← AP.len]; omega)
      injection ea with ea
      subst ea
      have SRC := hide' (show ∀ j v, ((List.range V).map fun x => Value.int .i64 (winC W l t V xs (y * V + x)))[j]? = some v → wr.cell? ((⟨ga, off + (PP + l), none⟩ : Addr).add j) = some v by
        intro j v hv
        have hj : j < V := by
          rcases Nat.lt_or_ge j V with q | q
          · exact q
          · rw [List.getElem?_eq_none (by simpa using q)] at hv; cases hv
        obtain ⟨ga', off', ea', -, hc'⟩ := AP.cells (PP + l + j) (by rw [← AP.len]; omega)
        injection ea' with ea'
        injection ea' with e1 e2
        subst e1 e2
        have ead : (⟨ga, off + (PP + l), none⟩ : Addr).add j = ⟨ga, off + (PP + l + j), none⟩ := by
          unfold Addr.add
          split
          · rename_i hz; subst hz; rfl
          · simp; omega
        rw [ead, hc']
        simp [hj] at hv
        rw [← hv]
        obtain ⟨dd, mm⟩ := divmod_mk V y j hj
        unfold winC atP
        rw [dd, mm, hPP, show PP + (l + j) = PP + l + j by omega]
        have : PP + l + j < xs.length := by rw [← AP.len]; omega
        simp [List.getD, this])
      have b0 := T.out.box.c0
      have b2 := T.out.box.c2
      have o0 := T.out.out.c0
      have o2 := T.out.out.c2
      have ROW := hide' T.out.row
      have HY := hide' hYV
      obtain ⟨F, hF⟩ : ∃ F, PP + l = F := ⟨_, rfl⟩
      obtain ⟨G, hG⟩ : ∃ G, F + V = G := ⟨_, rfl⟩
      have q5 : (PP : Int) + (l : Int) = (F : Int) := by omega
      have q6 : (F : Int) + (V : Int) = (G : Int) := by omega
      rw [hF] at SRC
      have v1 : IntKind.i64.wrap (YV : Int) = (YV : Int) := wrap_nat YV (by omega)
      have v2 : IntKind.i64.wrap (G : Int) = (G : Int) := wrap_nat G (by omega)
      have v3 : ¬ N = YV := by omega
      have v4 : ¬ c = F := by omega
      have v5 : YV ≤ N := by omega
      have v6 : G ≤ c := by omega
      have v7 : F ≤ G := by omega
      have GF := hide' (show G - F = V by omega)
      clear hF hG
      clear hPP hYV AP
      go_wp2
      go_region_law (refine step_copy_exact (by rfl) _ _ _ _ (by rfl) 3 Tryd.underlying22 (by kernel_rfl) g YV _ _ ⟨ga, off + F, none⟩ _ _ (by rfl) (by rfl) _ 3 ROW.out ((List.range V).map fun x => Value.int .i64 (winC W l t V xs (y * V + x))) (by simp only [List.length_map, List.length_range]; rw [GF.out]; exact (Nat.min_eq_left (by omega)).symm) SRC.out (by simp only [List.length_map, List.length_range, winR_length]; omega) (fun v hv => by obtain ⟨x, -, rfl⟩ := List.mem_map.1 hv; rfl) ?_; intro w4 hr4 hb4 hs4; have R4 := hide' hr4; have B4 := hide' hb4; have S4 := hide' hs4; clear hr4 hb4 hs4)
      all_goals
        go_wp2
        refine ⟨⟨y + 1, by go_num, by omega, ?_⟩, by simp [intOf]; omega⟩
        have hr := R4.out
        rw [← HY.out, winR_step _ _ _ _ _ _ _ (by rw [HY.out]; omega)] at hr
        rw [Nat.add_mul, Nat.one_mul]
        exact T.out.step hr (fun k _ hk => B4.out k hk) (T.out.below.trans ⟨S4.out.1, S4.out.2.1, S4.out.2.2.1, by rw [S4.out.2.2.2]; exact Nat.le_refl _, fun k hk => B4.out k (by have := T.out.hg; omega)⟩)
    · have Y := hide' (show y = U by omega)
      obtain ⟨o0, o1, o2, -⟩ := T.out.out
      obtain ⟨r0, r1, r2, rf⟩ := T.out.res
      have f0 := rf 0
      have f1 := rf 1
      have f2 := rf 2
      clear rf
      go_wp2
      refine bodyPost_ret (v := .agg #[.int .i64 (V : Int), .int .i64 (U : Int), .slice (some ⟨g, 0, none⟩) N N]) (by simp [results, Tryd.results79, go_sem, r0, r1, r2]) rfl ?_
      have hgg := T.out.hg
      have hrow := T.out.row
      rw [Y.out, show U * V = N by rw [Nat.mul_comm]; exact HNN.out, show winR W l t V N N xs = (winP W l t V N xs).map (fun x => Value.int .i64 x) by unfold winR winP; rw [List.map_map]; apply List.map_congr_left; intro q hq; simp [List.mem_range.1 hq]] at hrow
      have C := row_cel hrow
      refine ⟨g, rfl, by omega, ((C.rd ((Rd.refl (w.heap.size + 1) _).set 0 _) (by omega)).rd ((Rd.refl (w.heap.size + 1) _).set 1 _) (by omega)).rd ((Rd.refl (w.heap.size + 1) _).set 2 _) (by omega), ?_⟩
      exact ((T.out.below.setCell (by simp) _).setCell (by simp) _).setCell (by simp) _
end Go.Proofs.YtjngjnkecnnmeaaDoor

namespace Go.Proofs.YtjngjnkecnnmeaaDoor
open Go.RowKit
set_option linter.unusedVariables false

def TrimPost (p : Pat) (w : World) (e : Ending) (w' : World) : Prop :=
  ∃ v, e = .returned (.tuple #[.agg #[.int .i64 ((trimP p).1.W : Int), .int .i64 ((trimP p).1.H : Int), v], .int .i64 ((trimP p).2.1 : Int), .int .i64 ((trimP p).2.2 : Int), .nilIface]) ∧ Tab w' v (trimP p).1.xs ∧ Fresh w v ∧ Below w.heap.size w w'

set_option maxRecDepth 100000 in
set_option maxHeartbeats 800000 in
theorem pTrim (W H : Nat) (xs : List Int) (a : Option Addr) (n c : Nat) (w : World) (hP : ArgP w xs a n c) (hc : n ≤ c) (hcm : c ≤ maxLen) (lW : W ≤ 100) (lH : H ≤ 100) (hs : shapeF W H xs = 0) (hn : n = W * H) :
    Calls Tryd.prog 30 #[.agg #[.int .i64 (W : Int), .int .i64 (H : Int), .slice a n c]] w (TrimPost ⟨W, H, xs⟩ w) := by
  have hN4 : n ≤ 10000 := by rw [hn]; exact Nat.mul_le_mul lW lH
  have HP := hide' hP
  have HL := hide' hP.len
  have HN := hide' hn
  have HS := hide' hs
  clear hP hn hs
  go_enter Tryd.func30, Tryd.ntmps30
  have AP0 := hide' ((HP.out.alloc (.cells #[.int .i64 (W : Int), .int .i64 (H : Int), .slice a n c] 51)).alloc (.cells #[.int .i64 0, .int .i64 0, .slice none 0 0] 51))
  have BX := hide' ((TB.new w (.int .i64 (W : Int)) (.int .i64 (H : Int)) (.slice a n c) 51).alloc (.cells #[.int .i64 0, .int .i64 0, .slice none 0 0] 51))
  have RX0 := TB.new (w.alloc (.cells #[.int .i64 (W : Int), .int .i64 (H : Int), .slice a n c] 51)) (.int .i64 0) (.int .i64 0) (.slice none 0 0) 51
  rw [World.size_alloc] at RX0
  have RX := hide' RX0
  clear RX0
  go_wp2_with fail
  refine (Check_P W H xs a n c _ AP0.out).mono ?_
  rw [HS.out]
  rintro e w2 ⟨rfl, b2⟩
  have hz2 := b2.size
  simp only [World.size_alloc] at hz2
  have BX2 := hide' (BX.out.next b2)
  have RX2 := hide' (RX.out.next b2)
  have AP2 := hide' (AP0.out.below b2)
  have BB := hide' (show Below w.heap.size w w2 from (((Below.refl _ _).alloc (Nat.le_refl _) _).alloc (by simp) _).trans (b2.mono (by simp only [World.size_alloc]; omega)))
  obtain ⟨x0, x1, x2, -⟩ := BX2.out
  have er : errOf 0 = .nilIface := rfl
  rw [er]
  clear b2 er
  go_wp2
  go_quiet (fail)
  go_wp2
  go_loopw [7, 8, 9, 10, 28] (fun lv tv rv bv kv wr => ∃ k m : Nat, kv = .int .i64 (k : Int) ∧ k ≤ n ∧ wr = w2.drewN m ∧ lv = .int .i64 ((bbx W H xs k).l : Int) ∧ tv = .int .i64 ((bbx W H xs k).t : Int) ∧ rv = .int .i64 ((bbx W H xs k).r : Int) ∧ bv = .int .i64 ((bbx W H xs k).b : Int)) (fun _ _ _ _ kv _ => n - (intOf kv).toNat)
  case atStart => exact ⟨0, _, rfl, by omega, rfl, rfl, rfl, rfl, rfl⟩
  case round =>
    obtain ⟨k, m, rfl, hk, rfl, rfl, rfl, rfl, rfl⟩ := hrel
    have BL := hide' (bbx_le W H xs k (by rw [← HN.out]; exact hk))
    obtain ⟨Q, hQ⟩ : ∃ Q, bbx W H xs k = Q := ⟨_, rfl⟩
    have HQ := hide' hQ
    obtain ⟨b1, b2, b3, b4, b5⟩ := BL.out
    rw [hQ] at b1 b2 b3 b4 b5 ⊢
    obtain ⟨L, T, R, B⟩ := Q
    dsimp only at b1 b2 b3 b4 b5 ⊢
    clear hQ BL
    by_cases d : (k : Int) < (n : Int)
    · have hkl : k < xs.length := by have := HL.out; omega
      have hkn : k < W * H := by rw [← HN.out]; omega
      obtain ⟨ga, off, rfl, hga, hcc⟩ := AP2.out.cells k hkl
      obtain ⟨z, hz⟩ : ∃ z, xs[k] = z := ⟨_, rfl⟩
      rw [hz] at hcc
      have HZ := hide' (show xs.getD k 0 = z by rw [← hz]; simp [List.getD, hkl])
      clear hz b5
      by_cases z1 : z = 1
      · have m1 : (z == 1) = true := by simp [z1]
        obtain ⟨X, Y, hX, hY, hXe, hYe, hsp⟩ := split_lt hkn
        have hW0 : ¬ (W : Int) = 0 := by omega
        have q1 : (k : Int) / (W : Int) = (Y : Int) := by rw [← hYe]; simp
        have q2 : (k : Int) % (W : Int) = (X : Int) := by rw [← hXe]; simp
        have STEP := hide' (show bbx W H xs (k + 1) = ⟨min L X, min T Y, max R (X + 1), max B (Y + 1)⟩ by rw [bbx_yes (by rw [HZ.out]; exact z1), hXe, hYe, HQ.out])
        clear z1 hXe hYe hsp
        go_wp2
        go_quiet (fail)
        go_wp2
        refine ⟨⟨k + 1, _, by go_num, by omega, rfl, ?_, ?_, ?_, ?_⟩, by simp [intOf]; omega⟩
        all_goals (rw [STEP.out]; dsimp only; congr 1; omega)
      · have m1 : (z == 1) = false := by simp [z1]
        have STEP := hide' (show bbx W H xs (k + 1) = ⟨L, T, R, B⟩ by rw [bbx_no (by rw [HZ.out]; exact z1), HQ.out])
        clear z1
        go_wp2
        refine ⟨⟨k + 1, m, by go_num, by omega, rfl, ?_, ?_, ?_, ?_⟩, by simp [intOf]; omega⟩
        all_goals (rw [STEP.out])
    · have K := hide' (show k = W * H by rw [← HN.out]; omega)
      have HQ2 := hide' (show bbx W H xs (W * H) = ⟨L, T, R, B⟩ by rw [← K.out]; exact HQ.out)
      obtain ⟨r0', r1', r2', rf⟩ := RX2.out
      have f0 := rf 0
      have f1 := rf 1
      have f2 := rf 2
      clear rf
      by_cases r0 : R = 0
      · have i1 : ((R : Int) == 0) = true := by simp; omega
        have TR := hide' (show trimP ⟨W, H, xs⟩ = (⟨0, 0, []⟩, 0, 0) by unfold trimP; dsimp only; rw [HQ2.out, if_pos r0])
        clear r0 b5
        go_wp2
        refine bodyPost_ret (v := .tuple #[.agg #[.int .i64 0, .int .i64 0, .slice none 0 0], .int .i64 0, .int .i64 0, .nilIface]) (by simp [results, Tryd.results30, go_sem, r0', r1', r2']) rfl ?_
        refine ⟨.slice none 0 0, by rw [TR.out]; rfl, by rw [TR.out]; exact Or.inl ⟨rfl, rfl⟩, Fresh.nil _, ?_⟩
        exact ((((BB.out.trans ⟨rfl, rfl, rfl, Nat.le_refl _, fun _ _ => rfl⟩ : Below w.heap.size w (w2.drewN m)).setCell (by simp) _).setCell (by simp) _).setCell (by simp) _)
      · have i1 : ((R : Int) == 0) = false := by simp; omega
        obtain ⟨hLR, hTB⟩ : L < R ∧ T < B := by omega
        have hpos : 0 < W * H := Nat.mul_pos (by omega) (by omega)
        obtain ⟨ga, off, rfl, hga, -⟩ := AP2.out.cells 0 (by rw [← HL.out, HN.out]; exact hpos)
        have TR := hide' (show trimP ⟨W, H, xs⟩ = (⟨R - L, B - T, winP W L T (R - L) ((R - L) * (B - T)) xs⟩, L, T) by unfold trimP; dsimp only; rw [HQ2.out, if_neg r0])
        clear r0 b5
        go_wp2_with fail
        refine (pwindow W H L T R B xs ⟨ga, off, none⟩ n c _ (AP2.out.below (w' := w2.drewN m) ⟨rfl, rfl, rfl, Nat.le_refl _, fun _ _ => rfl⟩) lW lH HN.out hc hcm hLR b3 hTB b4).mono ?_
        rintro e w3 ⟨g, rfl, hg, C, b3'⟩
        have hz3 := b3'.size
        obtain ⟨s0, s1, s2, sf⟩ := (RX2.out.block (w' := w2.drewN m) rfl).next b3'
        have h0 := sf 0
        have h1 := sf 1
        have h2 := sf 2
        have CC := hide' C
        have B3 := hide' (show Below w.heap.size w w3 from (BB.out.trans ⟨rfl, rfl, rfl, Nat.le_refl _, fun _ _ => rfl⟩ : Below w.heap.size w (w2.drewN m)).trans (b3'.mono (by show w.heap.size ≤ w2.heap.size; omega)))
        have hg' : w2.heap.size ≤ g := hg
        clear C b3' sf r0' r1' r2' f0 f1 f2 hg
        go_wp2
        refine bodyPost_ret (v := .tuple #[.agg #[.int .i64 ((R - L : Nat) : Int), .int .i64 ((B - T : Nat) : Int), .slice (some ⟨g, 0, none⟩) ((R - L) * (B - T)) ((R - L) * (B - T))], .int .i64 (L : Int), .int .i64 (T : Int), .nilIface]) (by simp [results, Tryd.results30, go_sem, s0, s1, s2]) rfl ?_
        refine ⟨.slice (some ⟨g, 0, none⟩) ((R - L) * (B - T)) ((R - L) * (B - T)), by rw [TR.out], ?_, Fresh.mk (by omega), ((B3.out.setCell (by simp) _).setCell (by simp) _).setCell (by simp) _⟩
        rw [TR.out]
        exact (((CC.out.rd ((Rd.refl (w.heap.size + 1) _).set 0 _) (by omega)).rd ((Rd.refl (w.heap.size + 1) _).set 1 _) (by omega)).rd ((Rd.refl (w.heap.size + 1) _).set 2 _) (by omega)).tab (by simp [winP])
end Go.Proofs.YtjngjnkecnnmeaaDoor

namespace Go.Proofs.YtjngjnkecnnmeaaDoor
open Go.RowKit
set_option linter.unusedVariables false

def ErrPost (f : Nat) (w : World) (e : Ending) (w' : World) : Prop :=
  e = .returned (.tuple #[.agg #[.int .i64 0, .int .i64 0, .slice none 0 0], .iface 87 (.int .i64 (f : Int))]) ∧ Below w.heap.size w w'
theorem errOf_pos {f : Nat} (h : f ≠ 0) : errOf f = .iface 87 (.int .i64 (f : Int)) := by unfold errOf; rw [if_neg h]

set_option maxRecDepth 100000 in
set_option maxHeartbeats 800000 in
theorem pTurn_bad (W H k : Int) (xs : List Int) (a : Option Addr) (n c : Nat) (w : World) (hP : ArgP w xs a n c) (hs : shapeF W H xs ≠ 0) :
    Calls Tryd.prog 32 #[.agg #[.int .i64 W, .int .i64 H, .slice a n c], .int .i64 k] w (ErrPost (shapeF W H xs) w) := by
  have AP0 := hide' ((hP.alloc (.cells #[.int .i64 W, .int .i64 H, .slice a n c] 51)).alloc (.cells #[.int .i64 0, .int .i64 0, .slice none 0 0] 51))
  have RX0 := TB.new (w.alloc (.cells #[.int .i64 W, .int .i64 H, .slice a n c] 51)) (.int .i64 0) (.int .i64 0) (.slice none 0 0) 51
  rw [World.size_alloc] at RX0
  have RX := hide' RX0
  obtain ⟨f, hf⟩ : ∃ f, shapeF W H xs = f := ⟨_, rfl⟩
  rw [hf] at hs ⊢
  have HF := hide' hf
  have HS := hide' hs
  clear hP RX0 hf hs
  go_enter Tryd.func32, Tryd.ntmps32
  go_wp2_with fail
  refine (Check_P W H xs a n c _ AP0.out).mono ?_
  rw [HF.out, errOf_pos HS.out]
  rintro e w2 ⟨rfl, b2⟩
  have BB := hide' (show Below w.heap.size w w2 from (((Below.refl _ _).alloc (Nat.le_refl _) _).alloc (by simp) _).trans (b2.mono (by simp only [World.size_alloc]; omega)))
  obtain ⟨r0, r1, r2, rf⟩ := RX.out.next b2
  have f0 := rf 0
  have f1 := rf 1
  have f2 := rf 2
  clear rf b2
  go_wp2
  refine bodyPost_ret (v := .tuple #[.agg #[.int .i64 0, .int .i64 0, .slice none 0 0], .iface 87 (.int .i64 (f : Int))]) (by simp [results, Tryd.results32, go_sem, r0, r1, r2]) rfl ?_
  exact ⟨rfl, ((BB.out.setCell (by simp) _).setCell (by simp) _).setCell (by simp) _⟩

set_option maxRecDepth 100000 in
set_option maxHeartbeats 800000 in
theorem pTurn_k (W H k : Int) (xs : List Int) (a : Option Addr) (n c : Nat) (w : World) (hP : ArgP w xs a n c) (hs : shapeF W H xs = 0) (hk : k < 0 ∨ 7 < k) :
    Calls Tryd.prog 32 #[.agg #[.int .i64 W, .int .i64 H, .slice a n c], .int .i64 k] w (ErrPost 1 w) := by
  have AP0 := hide' ((hP.alloc (.cells #[.int .i64 W, .int .i64 H, .slice a n c] 51)).alloc (.cells #[.int .i64 0, .int .i64 0, .slice none 0 0] 51))
  have RX0 := TB.new (w.alloc (.cells #[.int .i64 W, .int .i64 H, .slice a n c] 51)) (.int .i64 0) (.int .i64 0) (.slice none 0 0) 51
  rw [World.size_alloc] at RX0
  have RX := hide' RX0
  have HS := hide' hs
  clear hP RX0 hs
  go_enter Tryd.func32, Tryd.ntmps32
  go_wp2_with fail
  refine (Check_P W H xs a n c _ AP0.out).mono ?_
  rw [HS.out, show errOf 0 = .nilIface from rfl]
  rintro e w2 ⟨rfl, b2⟩
  have BB := hide' (show Below w.heap.size w w2 from (((Below.refl _ _).alloc (Nat.le_refl _) _).alloc (by simp) _).trans (b2.mono (by simp only [World.size_alloc]; omega)))
  obtain ⟨r0, r1, r2, rf⟩ := RX.out.next b2
  have f0 := rf 0
  have f1 := rf 1
  have f2 := rf 2
  clear rf b2
  rcases hk with h | h
  · go_wp2
    refine bodyPost_ret (v := .tuple #[.agg #[.int .i64 0, .int .i64 0, .slice none 0 0], .iface 87 (.int .i64 1)]) (by simp [results, Tryd.results32, go_sem, r0, r1, r2]) rfl ?_
    exact ⟨rfl, ((BB.out.setCell (by simp) _).setCell (by simp) _).setCell (by simp) _⟩
  · have h1 : ¬ k < 0 := by omega
    have h2 : (8 : Int) ≤ k := by omega
    go_wp2
    refine bodyPost_ret (v := .tuple #[.agg #[.int .i64 0, .int .i64 0, .slice none 0 0], .iface 87 (.int .i64 1)]) (by simp [results, Tryd.results32, go_sem, r0, r1, r2]) rfl ?_
    exact ⟨rfl, ((BB.out.setCell (by simp) _).setCell (by simp) _).setCell (by simp) _⟩

theorem pturned_any (p : Pat) (k : Nat) (a : Option Addr) (c : Nat) (w : World) (hP : ArgP w p.xs a p.xs.length c) (hp : p.ok) (lW : p.W ≤ 100) (lH : p.H ≤ 100) (hk : k < 8) :
    Calls Tryd.prog 80 #[.agg #[.int .i64 (p.W : Int), .int .i64 (p.H : Int), .slice a p.xs.length c], .int .i64 (k : Int)] w (TurnedPostC (p.turn k) w) := by
  obtain ⟨W, H, xs⟩ := p
  cases a with
  | some a => exact pturned_some W H xs k a c w hP hp lW lH hk
  | none =>
    cases xs with
    | nil => exact pturned_nil W H k c w hp lW lH hk
    | cons x xs =>
      obtain ⟨g, off, e, -⟩ := hP.cells 0 (by simp)
      cases e

set_option maxRecDepth 100000 in
set_option maxHeartbeats 800000 in
theorem pTurn_ok (p : Pat) (k : Nat) (a : Option Addr) (c : Nat) (w : World) (hP : ArgP w p.xs a p.xs.length c) (hp : p.ok) (lW : p.W ≤ 100) (lH : p.H ≤ 100) (hs : shapeF p.W p.H p.xs = 0) (hk : k < 8) :
    Calls Tryd.prog 32 #[.agg #[.int .i64 (p.W : Int), .int .i64 (p.H : Int), .slice a p.xs.length c], .int .i64 (k : Int)] w fun e w' => ∃ v, e = .returned (.tuple #[.agg #[.int .i64 ((p.turn k).W : Int), .int .i64 ((p.turn k).H : Int), v], .nilIface]) ∧ Tab w' v (p.turn k).xs ∧ FreshC w v ∧ Below w.heap.size w w' := by
  have AP0 := hide' ((hP.alloc (.cells #[.int .i64 (p.W : Int), .int .i64 (p.H : Int), .slice a p.xs.length c] 51)).alloc (.cells #[.int .i64 0, .int .i64 0, .slice none 0 0] 51))
  have BX := hide' ((TB.new w (.int .i64 (p.W : Int)) (.int .i64 (p.H : Int)) (.slice a p.xs.length c) 51).alloc (.cells #[.int .i64 0, .int .i64 0, .slice none 0 0] 51))
  have RX0 := TB.new (w.alloc (.cells #[.int .i64 (p.W : Int), .int .i64 (p.H : Int), .slice a p.xs.length c] 51)) (.int .i64 0) (.int .i64 0) (.slice none 0 0) 51
  rw [World.size_alloc] at RX0
  have RX := hide' RX0
  have HS := hide' hs
  have h1 : ¬ (k : Int) < 0 := by omega
  have h2 : ¬ (8 : Int) ≤ (k : Int) := by omega
  clear hP RX0 hs
  go_enter Tryd.func32, Tryd.ntmps32
  go_wp2_with fail
  refine (Check_P p.W p.H p.xs a p.xs.length c _ AP0.out).mono ?_
  rw [HS.out, show errOf 0 = .nilIface from rfl]
  rintro e w2 ⟨rfl, b2⟩
  have hz2 := b2.size
  simp only [World.size_alloc] at hz2
  have BB := hide' (show Below w.heap.size w w2 from (((Below.refl _ _).alloc (Nat.le_refl _) _).alloc (by simp) _).trans (b2.mono (by simp only [World.size_alloc]; omega)))
  obtain ⟨x0, x1, x2, -⟩ := BX.out.next b2
  have RX2 := hide' (RX.out.next b2)
  have AP2 := hide' (AP0.out.below b2)
  clear b2
  go_wp2_with fail
  refine (pturned_any p k a c _ AP2.out hp lW lH hk).mono ?_
  rintro e w3 ⟨v, rfl, tb, fr, b3⟩
  obtain ⟨va, vn, vc, rfl⟩ := tb.slice
  obtain ⟨r0, r1, r2, rf⟩ := RX2.out.next b3
  have f0 := rf 0
  have f1 := rf 1
  have f2 := rf 2
  have TBH := hide' tb
  have FR := hide' fr
  have B3 := hide' (BB.out.trans (b3.mono (by omega)))
  clear rf tb fr b3
  go_wp2
  refine bodyPost_ret (v := .tuple #[.agg #[.int .i64 ((p.turn k).W : Int), .int .i64 ((p.turn k).H : Int), .slice va vn vc], .nilIface]) (by simp [results, Tryd.results32, go_sem, r0, r1, r2]) rfl ?_
  refine ⟨_, rfl, ?_, fun g k c e => by have := FR.out g k c e; omega, ((B3.out.setCell (by simp) _).setCell (by simp) _).setCell (by simp) _⟩
  rcases TBH.out with h | ⟨g, cap, e, hg, hc⟩
  · exact Or.inl h
  · exact Or.inr ⟨g, cap, e, by rw [World.size_setCell, World.size_setCell, World.size_setCell]; exact hg, fun i hi => (World.cell?_of_block (w := w3) (a := ⟨g, i, none⟩) (stored_blk w3 (w.heap.size + 1) g _ _ _ (by have := FR.out g _ _ e; omega))).trans (hc i hi)⟩
end Go.Proofs.YtjngjnkecnnmeaaDoor

namespace Go.Proofs.YtjngjnkecnnmeaaDoor
open Go.RowKit
set_option linter.unusedVariables false

def cmpI (a b : Int) : Int := if a < b then -1 else if b < a then 1 else 0
def lexF : List Int → List Int → Int
  | x :: xs, y :: ys => if x < y then -1 else if y < x then 1 else lexF xs ys
  | [], [] => 0
  | [], _ :: _ => -1
  | _ :: _, [] => 1
def orI (a b c : Int) : Int := if a ≠ 0 then a else if b ≠ 0 then b else c
def cmpP (p q : Pat) : Int := orI (cmpI p.H q.H) (cmpI p.W q.W) (lexF p.xs q.xs)
def aheadB (p q : Pat) : Bool := decide (cmpP p q < 0)

theorem lexF_drop {xs ys : List Int} {i : Nat} (h1 : i < xs.length) (h2 : i < ys.length) : lexF (xs.drop i) (ys.drop i) = if xs[i] < ys[i] then -1 else if ys[i] < xs[i] then 1 else lexF (xs.drop (i + 1)) (ys.drop (i + 1)) := by
  rw [List.drop_eq_getElem_cons h1, List.drop_eq_getElem_cons h2, lexF]
theorem ahead_H {p q : Pat} (h : p.H ≠ q.H) : aheadB p q = decide ((p.H : Int) < (q.H : Int)) := by
  unfold aheadB cmpP orI cmpI
  by_cases c : (p.H : Int) < (q.H : Int)
  · simp [c]
  · have c2 : (q.H : Int) < (p.H : Int) := by omega
    simp [c, c2]
theorem ahead_W {p q : Pat} (h0 : p.H = q.H) (h : p.W ≠ q.W) : aheadB p q = decide ((p.W : Int) < (q.W : Int)) := by
  unfold aheadB cmpP orI cmpI
  by_cases c : (p.W : Int) < (q.W : Int)
  · simp [c, h0]
  · have c2 : (q.W : Int) < (p.W : Int) := by omega
    simp [c, c2, h0]
theorem ahead_xs {p q : Pat} (h0 : p.H = q.H) (h : p.W = q.W) : aheadB p q = decide (lexF p.xs q.xs < 0) := by
  unfold aheadB cmpP orI cmpI
  simp [h0, h]

set_option maxRecDepth 100000 in
set_option maxHeartbeats 800000 in
theorem ahead_any (p q : Pat) (a b : Option Addr) (c d : Nat) (w : World) (hP : ArgP w p.xs a p.xs.length c) (hQ : ArgP w q.xs b q.xs.length d) (hp : p.ok) (hq : q.ok) (l1 : p.W ≤ 100) (l2 : p.H ≤ 100) :
    Calls Tryd.prog 83 #[.agg #[.int .i64 (p.W : Int), .int .i64 (p.H : Int), .slice a p.xs.length c], .agg #[.int .i64 (q.W : Int), .int .i64 (q.H : Int), .slice b q.xs.length d]] w fun e w' => e = .returned (.bool (aheadB p q)) ∧ Below w.heap.size w w' := by
  have HP := hide' ((hP.alloc (.cells #[.int .i64 (p.W : Int), .int .i64 (p.H : Int), .slice a p.xs.length c] 51)).alloc (.cells #[.int .i64 (q.W : Int), .int .i64 (q.H : Int), .slice b q.xs.length d] 51))
  have HQ := hide' ((hQ.alloc (.cells #[.int .i64 (p.W : Int), .int .i64 (p.H : Int), .slice a p.xs.length c] 51)).alloc (.cells #[.int .i64 (q.W : Int), .int .i64 (q.H : Int), .slice b q.xs.length d] 51))
  have hsm := small p hp l1 l2
  have BB := hide' (show Below w.heap.size w ((w.alloc (.cells #[.int .i64 (p.W : Int), .int .i64 (p.H : Int), .slice a p.xs.length c] 51)).alloc (.cells #[.int .i64 (q.W : Int), .int .i64 (q.H : Int), .slice b q.xs.length d] 51)) from ((Below.refl _ _).alloc (Nat.le_refl _) _).alloc (by simp) _)
  clear hP hQ
  by_cases h1 : p.H = q.H
  · have m1 : ((p.H : Int) != (q.H : Int)) = false := by simp; omega
    by_cases h2 : p.W = q.W
    · have m2 : ((p.W : Int) != (q.W : Int)) = false := by simp; omega
      have AH := hide' (ahead_xs h1 h2)
      have hlen : q.xs.length = p.xs.length := by rw [hq, hp, h1, h2]
      have HLEN := hide' hlen
      clear h1 h2 hlen
      go_enter Tryd.func83, Tryd.ntmps83
      go_wp2
      go_loopw [5] (fun iv wr => ∃ i m : Nat, iv = .int .i64 (i : Int) ∧ i ≤ p.xs.length ∧ wr = ((w.alloc (.cells #[.int .i64 (p.W : Int), .int .i64 (p.H : Int), .slice a p.xs.length c] 51)).alloc (.cells #[.int .i64 (q.W : Int), .int .i64 (q.H : Int), .slice b q.xs.length d] 51)).drewN m ∧ lexF (p.xs.drop i) (q.xs.drop i) = lexF p.xs q.xs) (fun iv _ => p.xs.length - (intOf iv).toNat)
      case atStart => exact ⟨0, 0, rfl, by omega, rfl, rfl⟩
      case round =>
        obtain ⟨i, m, rfl, hi, rfl, hx⟩ := hrel
        have HX := hide' hx
        clear hx
        by_cases e : (i : Int) < (p.xs.length : Int)
        · have g1 : i < p.xs.length := by omega
          have g2 : i < q.xs.length := by rw [HLEN.out]; exact g1
          obtain ⟨ga, oa, rfl, hga, ca⟩ := HP.out.cells i g1
          obtain ⟨gb, ob, rfl, hgb, cb⟩ := HQ.out.cells i g2
          have DR := hide' ((lexF_drop g1 g2).symm.trans HX.out)
          obtain ⟨x, hx⟩ : ∃ x, p.xs[i] = x := ⟨_, rfl⟩
          obtain ⟨y, hy⟩ : ∃ y, q.xs[i] = y := ⟨_, rfl⟩
          rw [hx, hy] at DR
          rw [hx] at ca
          rw [hy] at cb
          clear hx hy
          by_cases ne : x = y
          · have m3 : (x != y) = false := by simp [ne]
            have NX := hide' (show lexF (p.xs.drop (i + 1)) (q.xs.drop (i + 1)) = lexF p.xs q.xs by have h := DR.out; rw [if_neg (by omega), if_neg (by omega)] at h; exact h)
            clear ne DR
            go_wp2
            go_quiet (fail)
            go_wp2
            exact ⟨⟨i + 1, _, by go_num, by omega, rfl, NX.out⟩, by simp [intOf]; omega⟩
          · have m3 : (x != y) = true := by simp [ne]
            have VV := hide' (show aheadB p q = decide (x < y) by
              rw [AH.out]
              have h := DR.out
              rw [← h]
              by_cases c1 : x < y
              · simp [c1]
              · have c2 : y < x := by omega
                simp [c1, c2])
            clear ne DR
            go_wp2
            go_quiet (fail)
            go_wp2
            go_quiet (fail)
            go_wp2
            go_ret
            rw [VV.out]
            exact ⟨rfl, BB.out.trans ⟨rfl, rfl, rfl, Nat.le_refl _, fun _ _ => rfl⟩⟩
        · have I := hide' (show i = p.xs.length by omega)
          have VV := hide' (show aheadB p q = false by
            rw [AH.out, ← HX.out, I.out, List.drop_length, ← HLEN.out, List.drop_length]
            rfl)
          go_wp2
          go_ret
          rw [VV.out]
          exact ⟨rfl, BB.out.trans ⟨rfl, rfl, rfl, Nat.le_refl _, fun _ _ => rfl⟩⟩
    · have m2 : ((p.W : Int) != (q.W : Int)) = true := by simp; omega
      have AH := hide' (ahead_W h1 h2)
      clear h1 h2
      go_enter Tryd.func83, Tryd.ntmps83
      go_wp2
      go_ret
      rw [AH.out]
      exact ⟨by simp, BB.out⟩
  · have m1 : ((p.H : Int) != (q.H : Int)) = true := by simp; omega
    have AH := hide' (ahead_H h1)
    clear h1
    go_enter Tryd.func83, Tryd.ntmps83
    go_wp2
    go_ret
    rw [AH.out]
    exact ⟨by simp, BB.out⟩
end Go.Proofs.YtjngjnkecnnmeaaDoor

namespace Go.Proofs.YtjngjnkecnnmeaaDoor
open Go.RowKit
set_option linter.unusedVariables false

theorem cmp_any (x y : Int) (w : World) : Calls Tryd.prog 127 #[.int .i64 x, .int .i64 y] w fun e w' => e = .returned (.int .i64 (cmpI x y)) ∧ w' = w := by
  have s1 : (x != x) = false := by simp
  have s2 : (y != y) = false := by simp
  by_cases h1 : x < y
  · rw [show cmpI x y = -1 by unfold cmpI; rw [if_pos h1]]
    go_enter Tryd.func127, Tryd.ntmps127
    go_wp2
    go_ret
    exact ⟨rfl, rfl⟩
  · by_cases h2 : y < x
    · rw [show cmpI x y = 1 by unfold cmpI; rw [if_neg h1, if_pos h2]]
      go_enter Tryd.func127, Tryd.ntmps127
      go_wp2
      go_ret
      exact ⟨rfl, rfl⟩
    · rw [show cmpI x y = 0 by unfold cmpI; rw [if_neg h1, if_neg h2]]
      go_enter Tryd.func127, Tryd.ntmps127
      go_wp2
      go_ret
      exact ⟨rfl, rfl⟩

theorem lexF_cmp {xs ys : List Int} {i : Nat} (h1 : i < xs.length) (h2 : i < ys.length) : lexF (xs.drop i) (ys.drop i) = if cmpI xs[i] ys[i] ≠ 0 then cmpI xs[i] ys[i] else lexF (xs.drop (i + 1)) (ys.drop (i + 1)) := by
  rw [lexF_drop h1 h2]
  unfold cmpI
  by_cases a : xs[i] < ys[i]
  · simp [a]
  · by_cases b : ys[i] < xs[i]
    · simp [a, b]
    · simp [a, b]

set_option maxHeartbeats 800000 in
theorem scmp_any (xs ys : List Int) (a b : Option Addr) (c d : Nat) (w : World) (hP : ArgP w xs a xs.length c) (hQ : ArgP w ys b ys.length d) (l1 : xs.length ≤ 10000) (l2 : ys.length = xs.length) :
    Calls Tryd.prog 128 #[.slice a xs.length c, .slice b ys.length d] w fun e w' => e = .returned (.int .i64 (lexF xs ys)) ∧ w' = w := by
  have HP := hide' hP
  have HQ := hide' hQ
  have L2 := hide' l2
  have l3 : ys.length ≤ 10000 := by omega
  clear hP hQ l2
  go_enter Tryd.func128, Tryd.ntmps128
  go_wp2
  go_loop [11] (fun iv => ∃ i : Nat, iv = .int .i64 (i : Int) ∧ i ≤ xs.length ∧ lexF (xs.drop i) (ys.drop i) = lexF xs ys) (fun iv => xs.length - (intOf iv).toNat)
  case atStart => exact ⟨0, rfl, by omega, rfl⟩
  case round =>
    obtain ⟨i, rfl, hi, hx⟩ := hrel
    have HX := hide' hx
    clear hx
    by_cases e : (i : Int) < (xs.length : Int)
    · have g1 : i < xs.length := by omega
      have g2 : i < ys.length := by rw [L2.out]; exact g1
      have n1 : ¬ (ys.length : Int) ≤ (i : Int) := by omega
      obtain ⟨ga, oa, rfl, hga, ca⟩ := HP.out.cells i g1
      obtain ⟨gb, ob, rfl, hgb, cb⟩ := HQ.out.cells i g2
      have DR := hide' ((lexF_cmp g1 g2).symm.trans HX.out)
      obtain ⟨x, hx⟩ : ∃ x, xs[i] = x := ⟨_, rfl⟩
      obtain ⟨y, hy⟩ : ∃ y, ys[i] = y := ⟨_, rfl⟩
      rw [hx, hy] at DR
      rw [hx] at ca
      rw [hy] at cb
      obtain ⟨z, hz⟩ : ∃ z, cmpI x y = z := ⟨_, rfl⟩
      rw [hz] at DR
      have HZ := hide' hz
      clear hx hy hz
      by_cases z0 : z = 0
      · have m1 : (z != 0) = false := by simp [z0]
        have NX := hide' (show lexF (xs.drop (i + 1)) (ys.drop (i + 1)) = lexF xs ys by have h := DR.out; rw [if_neg (by simp [z0])] at h; exact h)
        clear z0 DR
        go_wp2_with fail
        refine (cmp_any x y _).mono ?_
        rw [HZ.out]
        rintro e w1 ⟨rfl, rfl⟩
        go_wp2
        exact ⟨⟨i + 1, by go_num, by omega, NX.out⟩, by simp [intOf]; omega⟩
      · have m1 : (z != 0) = true := by simp [z0]
        have VV := hide' (show lexF xs ys = z by have h := DR.out; rw [if_pos z0] at h; exact h.symm)
        clear z0 DR
        go_wp2_with fail
        refine (cmp_any x y _).mono ?_
        rw [HZ.out]
        rintro e w1 ⟨rfl, rfl⟩
        go_wp2
        go_ret
        rw [VV.out]
        exact ⟨rfl, rfl⟩
    · have I := hide' (show i = xs.length by omega)
      have n2 : ¬ (xs.length : Int) < (ys.length : Int) := by have := L2.out; omega
      have VV := hide' (show lexF xs ys = 0 by rw [← HX.out, I.out, List.drop_length, ← L2.out, List.drop_length]; rfl)
      go_wp2
      go_ret
      rw [VV.out]
      exact ⟨rfl, rfl⟩

set_option maxHeartbeats 800000 in
theorem or_any (x y z : Int) (g : Nat) (w : World) (c0 : w.cell? ⟨g, 0, none⟩ = some (.int .i64 x)) (c1 : w.cell? ⟨g, 1, none⟩ = some (.int .i64 y)) (c2 : w.cell? ⟨g, 2, none⟩ = some (.int .i64 z)) :
    Calls Tryd.prog 126 #[.slice (some ⟨g, 0, none⟩) 3 3] w fun e w' => e = .returned (.int .i64 (orI x y z)) ∧ w' = w := by
  go_enter Tryd.func126, Tryd.ntmps126
  go_wp2
  go_loop [8] (fun iv => ∃ i : Nat, iv = .int .i64 (i : Int) ∧ i ≤ 3 ∧ (0 < i → x = 0) ∧ (1 < i → y = 0) ∧ (2 < i → z = 0)) (fun iv => 3 - (intOf iv).toNat)
  case atStart => exact ⟨0, rfl, by omega, by omega, by omega, by omega⟩
  case round =>
    obtain ⟨i, rfl, hi, h0, h1, h2⟩ := hrel
    have H0 := hide' h0
    have H1 := hide' h1
    have H2 := hide' h2
    clear h0 h1 h2
    rcases (show i = 0 ∨ i = 1 ∨ i = 2 ∨ i = 3 by omega) with rfl | rfl | rfl | rfl
    · by_cases v : x = 0
      · have m : (x != 0) = false := by simp [v]
        have V := hide' v
        clear v
        go_wp2
        exact ⟨⟨1, rfl, by omega, fun _ => V.out, by omega, by omega⟩, by simp [intOf]⟩
      · have m : (x != 0) = true := by simp [v]
        have V := hide' v
        clear v
        go_wp2
        go_ret
        exact ⟨by unfold orI; rw [if_pos V.out]; rfl, rfl⟩
    · by_cases v : y = 0
      · have m : (y != 0) = false := by simp [v]
        have V := hide' v
        clear v
        go_wp2
        exact ⟨⟨2, rfl, by omega, fun _ => H0.out (by omega), fun _ => V.out, by omega⟩, by simp [intOf]⟩
      · have m : (y != 0) = true := by simp [v]
        have V := hide' v
        clear v
        go_wp2
        go_ret
        exact ⟨by unfold orI; rw [if_neg (by simp [H0.out (by omega)]), if_pos V.out]; rfl, rfl⟩
    · by_cases v : z = 0
      · have m : (z != 0) = false := by simp [v]
        have V := hide' v
        clear v
        go_wp2
        exact ⟨⟨3, rfl, by omega, fun _ => H0.out (by omega), fun _ => H1.out (by omega), fun _ => V.out⟩, by simp [intOf]⟩
      · have m : (z != 0) = true := by simp [v]
        clear v
        go_wp2
        go_ret
        exact ⟨by unfold orI; rw [if_neg (by simp [H0.out (by omega)]), if_neg (by simp [H1.out (by omega)])]; rfl, rfl⟩
    · go_wp2
      go_ret
      exact ⟨by unfold orI; rw [if_neg (by simp [H0.out (by omega)]), if_neg (by simp [H1.out (by omega)]), H2.out (by omega)]; rfl, rfl⟩
end Go.Proofs.YtjngjnkecnnmeaaDoor

namespace Go.Proofs.YtjngjnkecnnmeaaDoor
open Go.RowKit
set_option linter.unusedVariables false

def SC (w : World) (p q : Pat) (va vb : Value) (w' : World) : Prop :=
  w'.cell? ⟨w.heap.size, 0, none⟩ = some (.int .i64 (p.W : Int)) ∧ w'.cell? ⟨w.heap.size, 1, none⟩ = some (.int .i64 (p.H : Int)) ∧ w'.cell? ⟨w.heap.size, 2, none⟩ = some va ∧
  w'.cell? ⟨w.heap.size + 1, 0, none⟩ = some (.int .i64 (q.W : Int)) ∧ w'.cell? ⟨w.heap.size + 1, 1, none⟩ = some (.int .i64 (q.H : Int)) ∧ w'.cell? ⟨w.heap.size + 1, 2, none⟩ = some vb ∧
  Hid (w.heap.size + 2 ≤ w'.heap.size ∧ Below w.heap.size w w')
theorem SC.start (w : World) (p q : Pat) (va vb : Value) (t1 t2 : TypeId) : SC w p q va vb (((w.alloc (.cells #[.int .i64 (p.W : Int), .int .i64 (p.H : Int), va] t1)).alloc (.cells #[.int .i64 (q.W : Int), .int .i64 (q.H : Int), vb] t2))) := by
  have h1 := (TB.new w (.int .i64 (p.W : Int)) (.int .i64 (p.H : Int)) va t1).alloc (.cells #[.int .i64 (q.W : Int), .int .i64 (q.H : Int), vb] t2)
  have h2 := TB.new (w.alloc (.cells #[.int .i64 (p.W : Int), .int .i64 (p.H : Int), va] t1)) (.int .i64 (q.W : Int)) (.int .i64 (q.H : Int)) vb t2
  rw [World.size_alloc] at h2
  exact ⟨h1.c0, h1.c1, h1.c2, h2.c0, h2.c1, h2.c2, hide' ⟨by show _ ≤ ((w.alloc _).alloc _).heap.size; simp, ((Below.refl _ _).alloc (Nat.le_refl _) _).alloc (by simp) _⟩⟩
theorem SC.drew {w : World} {p q : Pat} {va vb : Value} {w1 : World} (h : SC w p q va vb w1) : SC w p q va vb w1.drew := ⟨h.1, h.2.1, h.2.2.1, h.2.2.2.1, h.2.2.2.2.1, h.2.2.2.2.2.1, hide' ⟨h.2.2.2.2.2.2.out.1, h.2.2.2.2.2.2.out.2.drew⟩⟩
theorem SC.next {w : World} {p q : Pat} {va vb : Value} {w1 w2 : World} (h : SC w p q va vb w1) (hb : Below w1.heap.size w1 w2) : SC w p q va vb w2 := by
  obtain ⟨c0, c1, c2, d0, d1, d2, hh⟩ := h
  have hz := hh.out.1
  have e : ∀ b k, b < w.heap.size + 2 → w2.cell? ⟨b, k, none⟩ = w1.cell? ⟨b, k, none⟩ := fun b k hbk => World.cell?_of_block (w := w1) (a := ⟨b, k, none⟩) (hb.block b (by omega))
  exact ⟨(e _ 0 (by omega)).trans c0, (e _ 1 (by omega)).trans c1, (e _ 2 (by omega)).trans c2, (e _ 0 (by omega)).trans d0, (e _ 1 (by omega)).trans d1, (e _ 2 (by omega)).trans d2, hide' ⟨Nat.le_trans hz hb.size, hh.out.2.trans (hb.mono (by omega))⟩⟩
theorem SC.alloc {w : World} {p q : Pat} {va vb : Value} {w1 : World} (h : SC w p q va vb w1) (o : Obj) : SC w p q va vb (w1.alloc o) := h.next ((Below.refl _ _).alloc (Nat.le_refl _) _)

theorem third_cell (w : World) (o1 o2 : Obj) (cs : Array Value) (t : TypeId) (k : Nat) : (((w.alloc o1).alloc o2).alloc (.cells cs t)).drew.cell? ⟨w.heap.size + 1 + 1, k, none⟩ = cs[k]? := by
  have h := cell_all_new ((w.alloc o1).alloc o2) cs t k
  simp only [World.size_alloc] at h
  exact h

set_option maxRecDepth 100000 in
set_option maxHeartbeats 2000000 in
theorem compare_any (p q : Pat) (a b : Option Addr) (c d : Nat) (w : World) (hP : ArgP w p.xs a p.xs.length c) (hQ : ArgP w q.xs b q.xs.length d) (hl : p.xs.length ≤ 10000) (he : q.xs.length = p.xs.length) :
    Calls Tryd.prog 81 #[.agg #[.int .i64 (p.W : Int), .int .i64 (p.H : Int), .slice a p.xs.length c], .agg #[.int .i64 (q.W : Int), .int .i64 (q.H : Int), .slice b q.xs.length d]] w fun e w' => e = .returned (.int .i64 (cmpP p q)) ∧ Below w.heap.size w w' := by
  have HP := hide' hP
  have HQ := hide' hQ
  have HE := hide' he
  clear hP hQ he
  have S0 := hide' (SC.start w p q (.slice a p.xs.length c) (.slice b q.xs.length d) 51 51)
  go_enter Tryd.func81, Tryd.ntmps81
  go_wp2_with fail
  go_region_held3 (fun w' => w'.cell? ⟨w.heap.size, 0, none⟩ = some (.int .i64 (p.W : Int)) ∧ w'.cell? ⟨w.heap.size, 1, none⟩ = some (.int .i64 (p.H : Int)) ∧ w'.cell? ⟨w.heap.size, 2, none⟩ = some (.slice a p.xs.length c) ∧ w'.cell? ⟨w.heap.size + 1, 0, none⟩ = some (.int .i64 (q.W : Int)) ∧ w'.cell? ⟨w.heap.size + 1, 1, none⟩ = some (.int .i64 (q.H : Int)) ∧ w'.cell? ⟨w.heap.size + 1, 2, none⟩ = some (.slice b q.xs.length d) ∧ Hid (w.heap.size + 2 ≤ w'.heap.size ∧ Below w.heap.size w w')) (first | (show SC w p q _ _ _; with_reducible exact S0.out.drew) | (show SC w p q _ _ _; with_reducible exact (S0.out.alloc _).drew))
    (first
      | (go_at_call_of 127 (Value.int .i64 (p.H : Int)); refine (cmp_any _ _ _).mono ?_; rintro e w' ⟨rfl, rfl⟩)
      | (go_at_call_of 127 (Value.int .i64 (p.W : Int)); refine (cmp_any _ _ _).mono ?_; rintro e w' ⟨rfl, rfl⟩)
      | (go_at_call 128; refine (scmp_any p.xs q.xs a b c d _ (HP.out.below S0.out.drew.2.2.2.2.2.2.out.2) (HQ.out.below S0.out.drew.2.2.2.2.2.2.out.2) hl HE.out).mono ?_; rintro e w' ⟨rfl, rfl⟩)
      | (go_at_call 126; refine (or_any _ _ _ _ _ (third_cell _ _ _ _ _ 0) (third_cell _ _ _ _ _ 1) (third_cell _ _ _ _ _ 2)).mono ?_; rintro e w' ⟨rfl, rfl⟩))
  go_wp2
  go_ret
  exact ⟨rfl, (S0.out.alloc _).drew.2.2.2.2.2.2.out.2⟩
end Go.Proofs.YtjngjnkecnnmeaaDoor

namespace Go.Proofs.YtjngjnkecnnmeaaDoor
open Go.RowKit
set_option linter.unusedVariables false

def bestP (q : Pat) : Nat → Pat
  | 0 => q
  | k + 1 => if aheadB (q.turn (k + 1)) (bestP q k) then q.turn (k + 1) else bestP q k
def canonP (p : Pat) : Pat := bestP (trimP p).1 7

structure Fits (n : Nat) (p : Pat) : Prop where
  ok : p.ok
  w : p.W ≤ 100
  h : p.H ≤ 100
  len : p.xs.length = n
theorem Fits.small {n : Nat} {p : Pat} (h : Fits n p) : p.xs.length ≤ 10000 := Go.Proofs.YtjngjnkecnnmeaaDoor.small p h.ok h.w h.h
theorem Fits.max {n : Nat} {p : Pat} (h : Fits n p) : p.xs.length ≤ maxLen := Nat.le_trans h.small (by decide)
theorem turn_fits {n : Nat} {p : Pat} (h : Fits n p) (k : Nat) (hk : k < 8) : Fits n (p.turn k) := by
  rw [turn_is p h.ok k hk]
  have hl := h.len
  have ho : p.xs.length = p.W * p.H := h.ok
  refine ⟨refTurn_length p k, ?_, ?_, ?_⟩
  · show turnW p k ≤ 100; unfold turnW; have := h.w; have := h.h; split <;> omega
  · show turnH p k ≤ 100; unfold turnH; have := h.w; have := h.h; split <;> omega
  · show (refTurn p k).length = n
    rw [refTurn_length, ← hl, ho]
    unfold turnW turnH
    split
    · exact Nat.mul_comm _ _
    · rfl
theorem best_fits {n : Nat} {p : Pat} (h : Fits n p) : ∀ k, k < 8 → Fits n (bestP p k) := by
  intro k
  induction k with
  | zero => intro _; exact h
  | succ k ih =>
    intro hk
    rw [bestP]
    split
    · exact turn_fits h _ hk
    · exact ih (by omega)
theorem trim_fits (p : Pat) (h1 : p.W ≤ 100) (h2 : p.H ≤ 100) : Fits (trimP p).1.xs.length (trimP p).1 := ⟨trim_ok p, (trim_le p h1 h2).1, (trim_le p h1 h2).2, rfl⟩

theorem Tab.keep {w w' : World} {v : Value} {xs : List Int} (h : Tab w v xs) (hs : w.heap.size ≤ w'.heap.size) (e : ∀ g k c, v = .slice (some ⟨g, 0, none⟩) k c → w'.heap[g]? = w.heap[g]?) : Tab w' v xs := by
  rcases h with h | ⟨g, cap, e1, hg, hc⟩
  · exact Or.inl h
  · exact Or.inr ⟨g, cap, e1, by omega, fun k hk => (World.cell?_of_block (w := w) (a := ⟨g, k, none⟩) (e g _ _ e1)).trans (hc k hk)⟩
theorem Tab.lt {w : World} {v : Value} {xs : List Int} (h : Tab w v xs) {g k c : Nat} (e : v = .slice (some ⟨g, 0, none⟩) k c) : g < w.heap.size := by
  rcases h with ⟨-, h⟩ | ⟨g', cap, e1, hg, hc⟩
  · rw [e] at h; injection h with h1; cases h1
  · rw [e] at e1; injection e1 with h1; injection h1 with h2; injection h2 with h3; omega
theorem Tab.nextB {w w' : World} {v : Value} {xs : List Int} (h : Tab w v xs) (hb : Below w.heap.size w w') : Tab w' v xs := h.keep hb.size fun g k c e => hb.block g (h.lt e)

structure CN (w wr : World) (T : Nat) (q b : Pat) (va vb : Value) : Prop where
  qb : TB T (.int .i64 (q.W : Int)) (.int .i64 (q.H : Int)) va wr
  fb : TB (T + 1) (.int .i64 (b.W : Int)) (.int .i64 (b.H : Int)) vb wr
  rb : TB (w.heap.size + 1) (.int .i64 0) (.int .i64 0) (.slice none 0 0) wr
  ta : Tab wr va q.xs
  tb : Tab wr vb b.xs
  na : ∀ g k c, va = .slice (some ⟨g, 0, none⟩) k c → w.heap.size + 2 ≤ g ∧ g ≠ T + 1
  nb : ∀ g k c, vb = .slice (some ⟨g, 0, none⟩) k c → w.heap.size + 2 ≤ g ∧ g ≠ T + 1
  lo : w.heap.size + 2 ≤ T
  sz : T + 2 ≤ wr.heap.size
  below : Below w.heap.size w wr
theorem CN.start {w w1 : World} {q : Pat} {va : Value} (rb : TB (w.heap.size + 1) (.int .i64 0) (.int .i64 0) (.slice none 0 0) w1) (ta : Tab w1 va q.xs) (fr : ∀ g k c, va = .slice (some ⟨g, 0, none⟩) k c → w.heap.size + 2 ≤ g) (hb : Below w.heap.size w w1) (hz : w.heap.size + 2 ≤ w1.heap.size) (t1 t2 : TypeId) :
    CN w ((w1.alloc (.cells #[.int .i64 (q.W : Int), .int .i64 (q.H : Int), va] t1)).alloc (.cells #[.int .i64 (q.W : Int), .int .i64 (q.H : Int), va] t2)) w1.heap.size q q va va := by
  have f := TB.new (w1.alloc (.cells #[.int .i64 (q.W : Int), .int .i64 (q.H : Int), va] t1)) (.int .i64 (q.W : Int)) (.int .i64 (q.H : Int)) va t2
  rw [World.size_alloc] at f
  have ta2 : Tab ((w1.alloc (.cells #[.int .i64 (q.W : Int), .int .i64 (q.H : Int), va] t1)).alloc (.cells #[.int .i64 (q.W : Int), .int .i64 (q.H : Int), va] t2)) va q.xs := ta.nextB (((Below.refl _ _).alloc (Nat.le_refl _) _).alloc (by simp) _)
  have na : ∀ g k c, va = .slice (some ⟨g, 0, none⟩) k c → w.heap.size + 2 ≤ g ∧ g ≠ w1.heap.size + 1 := fun g k c e => ⟨fr g k c e, by have := ta.lt e; omega⟩
  exact ⟨(TB.new w1 _ _ _ t1).alloc _, f, (rb.alloc _).alloc _, ta2, ta2, na, na, hz, by simp, (hb.alloc (by omega) _).alloc (by simp; omega) _⟩
theorem CN.next {w wr w' : World} {T : Nat} {q b : Pat} {va vb : Value} (h : CN w wr T q b va vb) (hb : Below wr.heap.size wr w') : CN w w' T q b va vb :=
  ⟨h.qb.next hb, h.fb.next hb, h.rb.next hb, h.ta.nextB hb, h.tb.nextB hb, h.na, h.nb, h.lo, Nat.le_trans h.sz hb.size, h.below.trans (hb.mono (by have := h.below.size; omega))⟩
theorem CN.put {w wr : World} {T : Nat} {q b : Pat} {va vb : Value} (h : CN w wr T q b va vb) (t : Pat) (v : Value) (hv : Tab wr v t.xs) (hn : ∀ g k c, v = .slice (some ⟨g, 0, none⟩) k c → w.heap.size + 2 ≤ g ∧ g ≠ T + 1) :
    CN w (((wr.setCell ⟨T + 1, 0, none⟩ (.int .i64 (t.W : Int))).setCell ⟨T + 1, 1, none⟩ (.int .i64 (t.H : Int))).setCell ⟨T + 1, 2, none⟩ v) T q t va v := by
  have hl := h.lo
  exact ⟨h.qb.block (stored_blk wr _ _ _ _ _ (by omega)), h.fb.store _ _ _, h.rb.block (stored_blk wr _ _ _ _ _ (by omega)), h.ta.keep (by simp) (fun g k c e => stored_blk wr _ _ _ _ _ (h.na g k c e).2), hv.keep (by simp) (fun g k c e => stored_blk wr _ _ _ _ _ (hn g k c e).2), h.na, hn, h.lo, by simp; exact h.sz,
    ((h.below.setCell (by simp; omega) _).setCell (by simp; omega) _).setCell (by simp; omega) _⟩

set_option maxRecDepth 100000 in
set_option maxHeartbeats 800000 in
theorem pTrim_bad (W H : Int) (xs : List Int) (a : Option Addr) (n c : Nat) (w : World) (hP : ArgP w xs a n c) (hs : shapeF W H xs ≠ 0) :
    Calls Tryd.prog 30 #[.agg #[.int .i64 W, .int .i64 H, .slice a n c]] w fun e w' => e = .returned (.tuple #[.agg #[.int .i64 0, .int .i64 0, .slice none 0 0], .int .i64 0, .int .i64 0, .iface 87 (.int .i64 (shapeF W H xs : Int))]) ∧ Below w.heap.size w w' := by
  have AP0 := hide' ((hP.alloc (.cells #[.int .i64 W, .int .i64 H, .slice a n c] 51)).alloc (.cells #[.int .i64 0, .int .i64 0, .slice none 0 0] 51))
  have RX0 := TB.new (w.alloc (.cells #[.int .i64 W, .int .i64 H, .slice a n c] 51)) (.int .i64 0) (.int .i64 0) (.slice none 0 0) 51
  rw [World.size_alloc] at RX0
  have RX := hide' RX0
  obtain ⟨f, hf⟩ : ∃ f, shapeF W H xs = f := ⟨_, rfl⟩
  rw [hf] at hs ⊢
  have HF := hide' hf
  have HS := hide' hs
  clear hP RX0 hf hs
  go_enter Tryd.func30, Tryd.ntmps30
  go_wp2_with fail
  refine (Check_P W H xs a n c _ AP0.out).mono ?_
  rw [HF.out, errOf_pos HS.out]
  rintro e w2 ⟨rfl, b2⟩
  have BB := hide' (show Below w.heap.size w w2 from (((Below.refl _ _).alloc (Nat.le_refl _) _).alloc (by simp) _).trans (b2.mono (by simp only [World.size_alloc]; omega)))
  obtain ⟨r0, r1, r2, rf⟩ := RX.out.next b2
  have f0 := rf 0
  have f1 := rf 1
  have f2 := rf 2
  clear rf b2
  go_wp2
  refine bodyPost_ret (v := .tuple #[.agg #[.int .i64 0, .int .i64 0, .slice none 0 0], .int .i64 0, .int .i64 0, .iface 87 (.int .i64 (f : Int))]) (by simp [results, Tryd.results30, go_sem, r0, r1, r2]) rfl ?_
  exact ⟨rfl, ((BB.out.setCell (by simp) _).setCell (by simp) _).setCell (by simp) _⟩

set_option maxRecDepth 100000 in
set_option maxHeartbeats 800000 in
theorem pCanon_bad (W H : Int) (xs : List Int) (a : Option Addr) (n c : Nat) (w : World) (hP : ArgP w xs a n c) (hs : shapeF W H xs ≠ 0) :
    Calls Tryd.prog 31 #[.agg #[.int .i64 W, .int .i64 H, .slice a n c]] w (ErrPost (shapeF W H xs) w) := by
  have AP0 := hide' ((hP.alloc (.cells #[.int .i64 W, .int .i64 H, .slice a n c] 51)).alloc (.cells #[.int .i64 0, .int .i64 0, .slice none 0 0] 51))
  have RX0 := TB.new (w.alloc (.cells #[.int .i64 W, .int .i64 H, .slice a n c] 51)) (.int .i64 0) (.int .i64 0) (.slice none 0 0) 51
  rw [World.size_alloc] at RX0
  have RX := hide' RX0
  have HS := hide' hs
  clear hP RX0 hs
  go_enter Tryd.func31, Tryd.ntmps31
  go_wp2_with fail
  refine (pTrim_bad W H xs a n c _ AP0.out HS.out).mono ?_
  rintro e w2 ⟨rfl, b2⟩
  have hz2 := b2.size
  simp only [World.size_alloc] at hz2
  have BB := hide' (show Below w.heap.size w w2 from (((Below.refl _ _).alloc (Nat.le_refl _) _).alloc (by simp) _).trans (b2.mono (by simp only [World.size_alloc]; omega)))
  obtain ⟨r0, r1, r2, rf⟩ := (RX.out.next b2).alloc (.cells #[.int .i64 0, .int .i64 0, .slice none 0 0] 51)
  have f0 := rf 0
  have f1 := rf 1
  have f2 := rf 2
  clear rf b2
  go_wp2
  refine bodyPost_ret (v := .tuple #[.agg #[.int .i64 0, .int .i64 0, .slice none 0 0], .iface 87 (.int .i64 (shapeF W H xs : Int))]) (by simp [results, Tryd.results31, go_sem, r0, r1, r2]) rfl ?_
  exact ⟨rfl, (((BB.out.alloc (by omega) _).setCell (by simp) _).setCell (by simp) _).setCell (by simp) _⟩
end Go.Proofs.YtjngjnkecnnmeaaDoor

