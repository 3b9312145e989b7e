/-
  edenref1.ParseRuns: what is held while it reads.
-/
import Derived.Test.YtpbcgojfpmpgpaaDoorQa1
import Derived.Test.YtpbcgojfpmpgpaaDoorPa10
namespace Go.Proofs.YtpbcgojfpmpgpaaDoor
open Go.RowKit
set_option linter.unusedVariables false

structure RS (w wr : World) (P W H : Nat) (xs : List Int) : Prop where
  res : ResB w.heap.size wr
  non : ResB (w.heap.size + 1) wr
  p0 : wr.cell? ⟨P, 0, none⟩ = some (.int .i64 (W : Int))
  p1 : wr.cell? ⟨P, 1, none⟩ = some (.int .i64 (H : Int))
  p2 : wr.cell? ⟨P, 2, none⟩ = some (.slice (some ⟨P + 1, 0, none⟩) (W * H) (W * H))
  cel : Cel wr (P + 1) xs
  len : xs.length = W * H
  hP : w.heap.size + 2 ≤ P
  below : Below w.heap.size w wr
theorem RS.set {w wr : World} {P W H : Nat} {xs : List Int} (h : RS w wr P W H xs) (p : Nat) (x : Int) (hp : p < xs.length) : RS w (wr.setCell ⟨P + 1, p, none⟩ (.int .i64 x)) P W H (xs.set p x) := by
  have hP := h.hP
  refine ⟨h.res.block (Below.heap_setCell _ _ _ _ (by simp; omega)), h.non.block (Below.heap_setCell _ _ _ _ (by simp; omega)), ?_, ?_, ?_, h.cel.set p x hp, by rw [List.length_set]; exact h.len, hP, h.below.setCell (by simp; omega) _⟩
  · exact (World.cell?_of_block (w := wr) (a := ⟨P, 0, none⟩) (Below.heap_setCell _ _ _ _ (by simp))).trans h.p0
  · exact (World.cell?_of_block (w := wr) (a := ⟨P, 1, none⟩) (Below.heap_setCell _ _ _ _ (by simp))).trans h.p1
  · exact (World.cell?_of_block (w := wr) (a := ⟨P, 2, none⟩) (Below.heap_setCell _ _ _ _ (by simp))).trans h.p2

def zeros (xs : List Int) (p : Nat) : Prop := ∀ q, p ≤ q → xs.getD q 0 = 0
theorem zeros_mono {xs : List Int} {p p' : Nat} (h : zeros xs p) (hp : p ≤ p') : zeros xs p' := fun q hq => h q (by omega)
theorem zeros_replicate (n p : Nat) : zeros (List.replicate n 0) p := fun q _ => by
  simp [List.getD, List.getElem?_replicate]
  split <;> rfl
theorem setRun_zero {xs : List Int} {p : Nat} (h : zeros xs p) (n : Nat) : setRun xs p n 0 = xs := by
  induction n with
  | zero => rfl
  | succ n ih =>
    rw [setRun, ih]
    have := h (p + n) (by omega)
    apply List.ext_getElem?
    intro k
    rw [List.getElem?_set]
    split
    · rename_i e
      subst e
      split
      · rename_i hl
        simp [List.getD, hl] at this
        simp [this, hl]
      · rename_i hl
        rw [List.getElem?_eq_none (by omega)]
    · rfl
theorem setRun_zeros {xs : List Int} {p : Nat} (v : Int) : ∀ n, zeros xs (p + n) → zeros (setRun xs p n v) (p + n) := by
  intro n h q hq
  have : ∀ m, m ≤ n → (setRun xs p m v).getD q 0 = xs.getD q 0 := by
    intro m hm
    induction m with
    | zero => rfl
    | succ m ih =>
      rw [setRun]
      rw [← ih (by omega)]
      simp only [List.getD]
      rw [List.getElem?_set_ne (by omega)]
  rw [this n (Nat.le_refl _)]
  exact h q hq

def RefRuns (s : ByteArray) (w : World) (e : Ending) (w' : World) : Prop :=
  Below w.heap.size w w' ∧
  ((∃ W H xs g, runsS s = .inl (W, H, xs) ∧ e = .returned (.tuple #[.agg #[.int .i64 (W : Int), .int .i64 (H : Int), .slice (some ⟨g, 0, none⟩) (W * H) (W * H)], .int .i64 0, .int .i64 0]) ∧ Cel w' g xs ∧ xs.length = W * H ∧ W ≤ 100 ∧ H ≤ 100) ∨
   (∃ a f : Nat, runsS s = .inr (a, f) ∧ 1 ≤ f ∧ e = .returned (.tuple #[.agg #[.int .i64 0, .int .i64 0, .slice none 0 0], .int .i64 (a : Int), .int .i64 (f : Int)])))

/-- The result's block, written. -/
theorem fin_below {w wr : World} (hb : Below w.heap.size w wr) (a b c : Value) : Below w.heap.size w (((wr.setCell ⟨w.heap.size, 0, none⟩ a).setCell ⟨w.heap.size, 1, none⟩ b).setCell ⟨w.heap.size, 2, none⟩ c) :=
  ((hb.setCell (Nat.le_refl _) _).setCell (Nat.le_refl _) _).setCell (Nat.le_refl _) _
theorem fin_cel {w wr : World} {g : Nat} {xs : List Int} (h : Cel wr g xs) (hg : g ≠ w.heap.size) (a b c : Value) : Cel (((wr.setCell ⟨w.heap.size, 0, none⟩ a).setCell ⟨w.heap.size, 1, none⟩ b).setCell ⟨w.heap.size, 2, none⟩ c) g xs :=
  ((h.rd ((Rd.refl w.heap.size _).set 0 _) hg).rd ((Rd.refl w.heap.size _).set 1 _) hg).rd ((Rd.refl w.heap.size _).set 2 _) hg
theorem res_new (w : World) (t : TypeId) : ResB w.heap.size (w.alloc (.cells #[.int .i64 0, .int .i64 0, .slice none 0 0] t)) :=
  ⟨cell_new_at _ _ _ _, cell_new_at _ _ _ _, cell_new_at _ _ _ _, by simp, by simp, by simp⟩
theorem RS.start {w w1 : World} {W H : Nat} (t1 t2 t3 t4 : TypeId) (hW : W ≤ 100) (hH : H ≤ 100)
    (hb : Below (w.heap.size + 2) ((w.alloc (.cells #[.int .i64 0, .int .i64 0, .slice none 0 0] t1)).alloc (.cells #[.int .i64 0, .int .i64 0, .slice none 0 0] t2)) w1) (N : Nat) (hN : W * H = N) :
    RS w ((w1.alloc (.cells #[.int .i64 (W : Int), .int .i64 (H : Int), .slice (some ⟨w1.heap.size + 1, 0, none⟩) N N] t3)).alloc (.cells (madeCells #[.int .i64 0] N) t4)) w1.heap.size W H (List.replicate N 0) := by
  subst hN
  have z := hb.size
  simp at z
  have r0 := (res_new w t1).block (w' := (w.alloc (.cells #[.int .i64 0, .int .i64 0, .slice none 0 0] t1)).alloc (.cells #[.int .i64 0, .int .i64 0, .slice none 0 0] t2)) (Below.heap_alloc _ _ _ (by simp))
  have r1 := res_new (w.alloc (.cells #[.int .i64 0, .int .i64 0, .slice none 0 0] t1)) t2
  rw [show (w.alloc (.cells #[.int .i64 0, .int .i64 0, .slice none 0 0] t1)).heap.size = w.heap.size + 1 by simp] at r1
  have e : ∀ k, k < w1.heap.size → ((w1.alloc (.cells #[.int .i64 (W : Int), .int .i64 (H : Int), .slice (some ⟨w1.heap.size + 1, 0, none⟩) (W * H) (W * H)] t3)).alloc (.cells (madeCells #[.int .i64 0] (W * H)) t4)).heap[k]? = w1.heap[k]? := fun k hk =>
    (Below.heap_alloc _ _ _ (by simp; omega)).trans (Below.heap_alloc _ _ _ hk)
  refine ⟨(r0.block (hb.block _ (by omega))).block (e _ (by omega)), (r1.block (hb.block _ (by omega))).block (e _ (by omega)), ?_, ?_, ?_, ⟨by simp, fun k hk => ?_, fun k => by simp⟩, by simp, z, ?_⟩
  · rw [World.cell?_alloc_past _ _ _ (by simp), World.cell?_alloc_at _ _ _ _ rfl]; rfl
  · rw [World.cell?_alloc_past _ _ _ (by simp), World.cell?_alloc_at _ _ _ _ rfl]; rfl
  · rw [World.cell?_alloc_past _ _ _ (by simp), World.cell?_alloc_at _ _ _ _ rfl]; rfl
  · rw [World.cell?_alloc_at _ _ _ _ (by simp)]
    rw [List.length_replicate] at hk
    rw [show (List.replicate (W * H) (0 : Int)).getD k 0 = 0 by simp [List.getD, hk]]
    rw [← Array.getElem?_toList, toList_madeCells_one]
    simp [hk]
  · exact (((((Below.refl _ _).alloc (Nat.le_refl _) _).alloc (by simp) _).trans (hb.mono (by omega))).alloc (by omega) _).alloc (by simp; omega) _
end Go.Proofs.YtpbcgojfpmpgpaaDoor
