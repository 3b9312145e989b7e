/-
  The drawing of package pattern: take at a cell: the slice grows.
-/
import Derived.Test.YtpbcgojfpmpgpaaDoorDa1
namespace Go.Proofs.YtpbcgojfpmpgpaaDoor
open Go.RowKit
set_option linter.unusedVariables false

def PushPost (b base W H : Nat) (xs : List Int) (r n : Nat) (x : Int) (w : World) (e : Ending) (w' : World) : Prop :=
  e = .returned (.tuple #[.int .i64 0, .nilIface]) ∧ DRd b base w w' ∧ ∃ v', DAt b W H v' r (n + 1) w' ∧ w'.ownsRow base 3 1 v' (xs ++ [x]).length ((xs ++ [x]).map fun x => .int .i64 x)
def pushW (w : World) (b : Nat) (x m : Int) : World := ((w.setCell ⟨b, 4, none⟩ (.int .i64 m)).alloc (.cells #[.int .i64 x] 3)).drew
theorem push_own {w : World} {b base n : Nat} {v : Value} {ys : List Value} (ho : w.ownsRow base 3 1 v n ys) (x m : Int) (hb : b < base) : (((w.setCell ⟨b, 4, none⟩ (.int .i64 m)).alloc (.cells #[.int .i64 x] 3)).drew).ownsRow base 3 1 v n ys :=
  ((ownsRow_setCell_below ho (a := ⟨b, 4, none⟩) hb _).alloc _).drew
theorem push_news (w : World) (b : Nat) (x m : Int) : ∀ j u, [Value.int .i64 x][j]? = some u → (((w.setCell ⟨b, 4, none⟩ (.int .i64 m)).alloc (.cells #[.int .i64 x] 3)).drew).cell? ((⟨w.heap.size, 0, none⟩ : Addr).add j) = some u := by
  have h := World.news_of_block (w := ((w.setCell ⟨b, 4, none⟩ (.int .i64 m)).alloc (.cells #[.int .i64 x] 3)).drew) (cs := #[.int .i64 x]) (t := 3) (fr := (0, 0)) (heap_alloc_new (w.setCell ⟨b, 4, none⟩ (.int .i64 m)) _)
  rw [World.size_setCell] at h
  exact h
theorem push_block {w w1 : World} {b base : Nat} {v : Value} {xs : List Int} (x m : Int) (ho : w.ownsRow base 3 1 v xs.length (xs.map fun x => .int .i64 x)) (hb : b < base) (hbw : base ≤ w.heap.size)
    (hg : (((w.setCell ⟨b, 4, none⟩ (.int .i64 m)).alloc (.cells #[.int .i64 x] 3)).drew).grownBy w1 v.ownBlock) : ∀ k, k < base → w1.heap[k]? = (w.setCell ⟨b, 4, none⟩ (.int .i64 m)).heap[k]? := by
  intro k hk
  have hob := ownsRow_block ho
  rw [(grownBy_drew hg).block k (by rw [World.size_alloc, World.size_setCell]; omega) (fun e => by have := hob k e.symm; omega)]
  exact Below.heap_alloc _ _ _ (by rw [World.size_setCell]; omega)
theorem push_mid {w w1 : World} {b base W H r n : Nat} {v : Value} {xs : List Int} (x : Int) (D : DAt b W H v r n w) (ho : w.ownsRow base 3 1 v xs.length (xs.map fun x => .int .i64 x)) (hb : b < base) (hbw : base ≤ w.heap.size)
    (hg : (((w.setCell ⟨b, 4, none⟩ (.int .i64 ((n : Int) + 1))).alloc (.cells #[.int .i64 x] 3)).drew).grownBy w1 v.ownBlock) : w1.cell? ⟨b, 2, none⟩ = some v ∧ w1.frozen? ⟨b, 2, none⟩ = false := by
  have d := (D.set4 (n + 1)).block (w' := w1) (by rw [show ((n + 1 : Nat) : Int) = (n : Int) + 1 by omega]; exact push_block x _ ho hb hbw hg b hb)
  exact ⟨d.c2, d.fz 2⟩
theorem push_end {w w1 : World} {b base W H r n : Nat} {v u : Value} {xs : List Int} (x : Int) (D : DAt b W H v r n w) (ho : w.ownsRow base 3 1 v xs.length (xs.map fun x => .int .i64 x)) (hb : b < base) (hbw : base ≤ w.heap.size)
    (hg : (((w.setCell ⟨b, 4, none⟩ (.int .i64 ((n : Int) + 1))).alloc (.cells #[.int .i64 x] 3)).drew).grownBy w1 v.ownBlock)
    (h1 : w1.ownsRow base 3 1 u (xs.length + 1) ((xs.map fun x => .int .i64 x) ++ [.int .i64 x])) :
    DRd b base w (w1.setCell ⟨b, 2, none⟩ u) ∧ ∃ v', DAt b W H v' r (n + 1) (w1.setCell ⟨b, 2, none⟩ u) ∧ (w1.setCell ⟨b, 2, none⟩ u).ownsRow base 3 1 v' (xs ++ [x]).length ((xs ++ [x]).map fun x => .int .i64 x) := by
  have hk := push_block x _ ho hb hbw hg
  have d := (D.set4 (n + 1)).block (w' := w1) (by rw [show ((n + 1 : Nat) : Int) = (n : Int) + 1 by omega]; exact hk b hb)
  have g := grownBy_drew hg
  refine ⟨DRd.set (show DRd b base w w1 from ⟨g.os, g.tape, g.output, ?_, fun k hkb hne => ?_⟩) _ _, u, d.set2 u, ?_⟩
  · have := g.size
    rw [World.size_alloc, World.size_setCell] at this
    omega
  · rw [hk k hkb]; exact Below.heap_setCell _ _ _ _ hne
  · have := ownsRow_setCell_below h1 (a := ⟨b, 2, none⟩) hb u
    simpa using this

set_option maxRecDepth 100000 in
set_option maxHeartbeats 3200000 in
theorem ptake_dot (b base W H : Nat) (v : Value) (xs : List Int) (r n at_ : Nat) (A : Int) (w : World) (hA : A = at_) (h : DAt b W H v r n w) (hH : ¬ H = 100) (hn : n < 100)
    (ho : w.ownsRow base 3 1 v xs.length (xs.map fun x => .int .i64 x)) (hb : b < base) (hl : xs.length ≤ 10000) (hbw : base ≤ w.heap.size) :
    Calls Tryd.prog 77 #[.pointer (some ⟨b, 0, none⟩), .int .i64 A, .int .i32 183] w (PushPost b base W H xs r n 0 w) := by
  subst hA
  have D := hide' h
  have HO := hide' ho
  have z2 := h.fz 2
  have z4 := h.fz 4
  obtain ⟨c0, c1, c2, c3, c4, -⟩ := h
  have m0 : ((H : Int) == 100) = false := by simp; omega
  have m1 : ((n : Int) == 100) = false := by simp; omega
  obtain ⟨sa, sn, sc, rfl⟩ := ownsRow_slice ho
  have OW := hide' (push_own ho 0 ((n : Int) + 1) hb)
  have NB := hide' (push_news w b 0 ((n : Int) + 1))
  have PM := hide' (fun (w1 : World) hg => push_mid (w1 := w1) 0 (n := n) D.out ho hb hbw hg)
  have PE := hide' (fun (w1 : World) (u : Value) hg h1 => push_end (w1 := w1) 0 (n := n) (u := u) D.out ho hb hbw hg h1)
  have d6 : ∀ o, ((w.setCell ⟨b, 4, none⟩ (.int .i64 ((n : Int) + 1))).alloc o).cell? ⟨b, 2, none⟩ = some (.slice sa sn sc) := fun o => (World.cell?_alloc_lt _ o ⟨b, 2, none⟩ (by rw [World.size_setCell]; exact Nat.lt_of_lt_of_le hb hbw)).trans (cell_other c2 (by omega))
  obtain ⟨i0, hi, hz0, hz1, hz2⟩ := info_parts info_int
  clear ho
  go_enter Tryd.func77, Tryd.ntmps77
  go_wp2
  go_region_law (first | (refine step_append_lies _ (by rfl) _ _ _ (by rfl) base 3 i0 _ 1 8 Tryd.underlying22 hi hz0 hz1 hz2 rfl (by omega) (.slice sa sn sc) _ _ (by rfl) OW.out ⟨w.heap.size, 0, none⟩ 1 1 [.int .i64 0] (by rfl) (by rfl) NB.out (by simp [Value.oneCell']) (by omega) (by unfold maxLen; omega) (by omega) (by simp; omega) (w.heap.size + 1) (by simp) ?_; intro gg cap w1 hown1 hgrow hat hlt; have x5 := (PM.out w1 hgrow).1; have x6 := (PM.out w1 hgrow).2) | (go_simp; go_wp2))
  all_goals
    go_wp2
    go_ret2
    exact ⟨rfl, PE.out w1 _ hgrow hown1⟩

set_option maxRecDepth 100000 in
set_option maxHeartbeats 3200000 in
theorem ptake_ball (b base W H : Nat) (v : Value) (xs : List Int) (r n at_ : Nat) (A : Int) (w : World) (hA : A = at_) (h : DAt b W H v r n w) (hH : ¬ H = 100) (hn : n < 100)
    (ho : w.ownsRow base 3 1 v xs.length (xs.map fun x => .int .i64 x)) (hb : b < base) (hl : xs.length ≤ 10000) (hbw : base ≤ w.heap.size) :
    Calls Tryd.prog 77 #[.pointer (some ⟨b, 0, none⟩), .int .i64 A, .int .i32 9679] w (PushPost b base W H xs r n 1 w) := by
  subst hA
  have D := hide' h
  have HO := hide' ho
  have z2 := h.fz 2
  have z4 := h.fz 4
  obtain ⟨c0, c1, c2, c3, c4, -⟩ := h
  have m0 : ((H : Int) == 100) = false := by simp; omega
  have m1 : ((n : Int) == 100) = false := by simp; omega
  obtain ⟨sa, sn, sc, rfl⟩ := ownsRow_slice ho
  have OW := hide' (push_own ho 1 ((n : Int) + 1) hb)
  have NB := hide' (push_news w b 1 ((n : Int) + 1))
  have PM := hide' (fun (w1 : World) hg => push_mid (w1 := w1) 1 (n := n) D.out ho hb hbw hg)
  have PE := hide' (fun (w1 : World) (u : Value) hg h1 => push_end (w1 := w1) 1 (n := n) (u := u) D.out ho hb hbw hg h1)
  have d6 : ∀ o, ((w.setCell ⟨b, 4, none⟩ (.int .i64 ((n : Int) + 1))).alloc o).cell? ⟨b, 2, none⟩ = some (.slice sa sn sc) := fun o => (World.cell?_alloc_lt _ o ⟨b, 2, none⟩ (by rw [World.size_setCell]; exact Nat.lt_of_lt_of_le hb hbw)).trans (cell_other c2 (by omega))
  obtain ⟨i0, hi, hz0, hz1, hz2⟩ := info_parts info_int
  clear ho
  go_enter Tryd.func77, Tryd.ntmps77
  go_wp2
  go_region_law (first | (refine step_append_lies _ (by rfl) _ _ _ (by rfl) base 3 i0 _ 1 8 Tryd.underlying22 hi hz0 hz1 hz2 rfl (by omega) (.slice sa sn sc) _ _ (by rfl) OW.out ⟨w.heap.size, 0, none⟩ 1 1 [.int .i64 1] (by rfl) (by rfl) NB.out (by simp [Value.oneCell']) (by omega) (by unfold maxLen; omega) (by omega) (by simp; omega) (w.heap.size + 1) (by simp) ?_; intro gg cap w1 hown1 hgrow hat hlt; have x5 := (PM.out w1 hgrow).1; have x6 := (PM.out w1 hgrow).2) | (go_simp; go_wp2))
  all_goals
    go_wp2
    go_ret2
    exact ⟨rfl, PE.out w1 _ hgrow hown1⟩
end Go.Proofs.YtpbcgojfpmpgpaaDoor
