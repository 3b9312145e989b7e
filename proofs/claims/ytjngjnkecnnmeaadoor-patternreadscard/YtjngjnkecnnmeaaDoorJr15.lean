/-
  What the last text of this claim leans on, part 15: Qb0.
-/
import Derived.Test.YtjngjnkecnnmeaaDoorJr12
namespace Go.Proofs.YtjngjnkecnnmeaaDoor
open Go.RowKit
set_option linter.unusedVariables false

structure RD (w wr : World) (W H : Nat) (v : Value) (xs : List Int) : Prop where
  res : ResB w.heap.size wr
  non : ResB (w.heap.size + 1) wr
  p0 : wr.cell? ⟨w.heap.size + 2, 0, none⟩ = some (.int .i64 (W : Int))
  p1 : wr.cell? ⟨w.heap.size + 2, 1, none⟩ = some (.int .i64 (H : Int))
  p2 : wr.cell? ⟨w.heap.size + 2, 2, none⟩ = some v
  fz : ∀ k, wr.frozen? ⟨w.heap.size + 2, k, none⟩ = false
  own : wr.ownsRow (w.heap.size + 3) 3 1 v xs.length (xs.map fun x => .int .i64 x)
  below : Below w.heap.size w wr
  sz : w.heap.size + 3 ≤ wr.heap.size
theorem RD.grown {w wr w' : World} {W H : Nat} {v : Value} {xs : List Int} (h : RD w wr W H v xs) (x : Int) (hg : (wr.alloc (.cells #[.int .i64 x] 3)).grownBy w' v.ownBlock) : ∀ k, k < w.heap.size + 3 → w'.heap[k]? = wr.heap[k]? := fun k hk => by
  have hz := h.sz
  have hob := ownsRow_block h.own
  rw [hg.block k (by rw [World.size_alloc]; omega) (fun e => by have := hob k e.symm; omega)]
  exact Below.heap_alloc _ _ _ (by omega)
theorem RD.mid {w wr w' : World} {W H : Nat} {v : Value} {xs : List Int} (h : RD w wr W H v xs) (x : Int) (hg : (wr.alloc (.cells #[.int .i64 x] 3)).grownBy w' v.ownBlock) : w'.cell? ⟨w.heap.size + 2, 2, none⟩ = some v ∧ w'.frozen? ⟨w.heap.size + 2, 2, none⟩ = false :=
  ⟨(World.cell?_of_block (w := wr) (a := ⟨w.heap.size + 2, 2, none⟩) (h.grown x hg _ (by simp))).trans h.p2, (World.frozen?_of_block (w := wr) (a := ⟨w.heap.size + 2, 2, none⟩) (h.grown x hg _ (by simp))).trans (h.fz 2)⟩
theorem RD.push {w wr w' : World} {W H : Nat} {v v' : Value} {xs : List Int} (h : RD w wr W H v xs) (x : Int) (hg : (wr.alloc (.cells #[.int .i64 x] 3)).grownBy w' v.ownBlock) (ho : w'.ownsRow (w.heap.size + 3) 3 1 v' (xs.length + 1) ((xs.map fun x => .int .i64 x) ++ [.int .i64 x])) : RD w (w'.setCell ⟨w.heap.size + 2, 2, none⟩ v') W H v' (xs ++ [x]) := by
  have hk := h.grown x hg
  have hz := h.sz
  have hsz : wr.heap.size + 1 ≤ w'.heap.size := by have := hg.size; rw [World.size_alloc] at this; exact this
  have hb : Below w.heap.size w w' := h.below.trans ⟨hg.os, hg.tape, hg.output, by omega, fun k hkk => hk k (by omega)⟩
  refine ⟨(h.res.block (hk _ (by omega))).block (Below.heap_setCell _ _ _ _ (by simp)), (h.non.block (hk _ (by omega))).block (Below.heap_setCell _ _ _ _ (by simp)), ?_, ?_, ?_, fun k => ?_, ?_, hb.setCell (by simp) _, by rw [World.size_setCell]; omega⟩
  · exact cell_other ((World.cell?_of_block (w := wr) (a := ⟨w.heap.size + 2, 0, none⟩) (hk _ (by simp))).trans h.p0) (by omega)
  · exact cell_other ((World.cell?_of_block (w := wr) (a := ⟨w.heap.size + 2, 1, none⟩) (hk _ (by simp))).trans h.p1) (by omega)
  · exact cell_same ((World.cell?_of_block (w := wr) (a := ⟨w.heap.size + 2, 2, none⟩) (hk _ (by simp))).trans h.p2)
  · rw [World.frozen?_setCell]; exact (World.frozen?_of_block (w := wr) (a := ⟨w.heap.size + 2, k, none⟩) (hk _ (by simp))).trans (h.fz k)
  · have := ownsRow_setCell_below ho (a := ⟨w.heap.size + 2, 2, none⟩) (by simp) v'
    simpa using this
theorem RD.ten {w wr : World} {W H : Nat} {v : Value} {xs : List Int} (h : RD w wr W H v xs) (n : Nat) : RD w ((wr.setCell ⟨w.heap.size + 2, 0, none⟩ (.int .i64 (n : Int))).setCell ⟨w.heap.size + 2, 1, none⟩ (.int .i64 ((H + 1 : Nat) : Int))) n (H + 1) v xs := by
  refine ⟨(h.res.block (Below.heap_setCell _ _ _ _ (by simp))).block (Below.heap_setCell _ _ _ _ (by simp)), (h.non.block (Below.heap_setCell _ _ _ _ (by simp))).block (Below.heap_setCell _ _ _ _ (by simp)), cell_other (cell_same h.p0) (by omega), cell_same (cell_other h.p1 (by omega)), cell_other (cell_other h.p2 (by omega)) (by omega), fun k => ?_, ?_, (h.below.setCell (by simp) _).setCell (by simp) _, by rw [World.size_setCell, World.size_setCell]; exact h.sz⟩
  · rw [World.frozen?_setCell, World.frozen?_setCell]; exact h.fz k
  · exact ownsRow_setCell_below (ownsRow_setCell_below h.own (a := ⟨w.heap.size + 2, 0, none⟩) (by simp) _) (a := ⟨w.heap.size + 2, 1, none⟩) (by simp) _
theorem frozen_new (w : World) (a : Array Value) (t : TypeId) (k : Nat) : (w.alloc (.cells a t)).frozen? ⟨w.heap.size, k, none⟩ = false := by simp
theorem RD.start (w : World) (t1 t2 t3 : TypeId) : RD w (((w.alloc (.cells #[.int .i64 0, .int .i64 0, .slice none 0 0] t1)).alloc (.cells #[.int .i64 0, .int .i64 0, .slice none 0 0] t2)).alloc (.cells #[.int .i64 0, .int .i64 0, .slice none 0 0] t3)) 0 0 (.slice none 0 0) [] := by
  have r1 := res_new (w.alloc (.cells #[.int .i64 0, .int .i64 0, .slice none 0 0] t1)) t2
  rw [show (w.alloc (.cells #[.int .i64 0, .int .i64 0, .slice none 0 0] t1)).heap.size = w.heap.size + 1 by simp] at r1
  refine ⟨((res_new w t1).block (Below.heap_alloc _ _ _ (by simp))).block (Below.heap_alloc _ _ _ (by simp; omega)), r1.block (Below.heap_alloc _ _ _ (by simp)), ?_, ?_, ?_, fun k => ?_, ⟨by simp, Or.inl ⟨rfl, by simp⟩⟩, (((Below.refl _ _).alloc (Nat.le_refl _) _).alloc (by simp) _).alloc (by simp; omega) _, by simp⟩
  · rw [World.cell?_alloc_at _ _ _ _ (by simp)]; rfl
  · rw [World.cell?_alloc_at _ _ _ _ (by simp)]; rfl
  · rw [World.cell?_alloc_at _ _ _ _ (by simp)]; rfl
  · rw [show w.heap.size + 2 = ((w.alloc (.cells #[.int .i64 0, .int .i64 0, .slice none 0 0] t1)).alloc (.cells #[.int .i64 0, .int .i64 0, .slice none 0 0] t2)).heap.size by simp]
    exact frozen_new _ _ _ _

def RefDraw (s : ByteArray) (w : World) (e : Ending) (w' : World) : Prop :=
  Below w.heap.size w w' ∧
  ((∃ (W H : Nat) (xs : List Int) (v : Value), drawS s = .inl (W, H, xs) ∧ e = .returned (.tuple #[.agg #[.int .i64 (W : Int), .int .i64 (H : Int), v], .int .i64 0, .int .i64 0]) ∧ Tab w' v xs ∧ xs.length ≤ 10100 ∧ Fresh w v) ∨
   (∃ a f : Nat, drawS s = .inr (a, f) ∧ 1 ≤ f ∧ e = .returned (.tuple #[.agg #[.int .i64 0, .int .i64 0, .slice none 0 0], .int .i64 (a : Int), .int .i64 (f : Int)])))

end Go.Proofs.YtjngjnkecnnmeaaDoor

