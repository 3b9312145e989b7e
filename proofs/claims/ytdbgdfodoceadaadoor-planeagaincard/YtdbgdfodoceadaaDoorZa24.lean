/-
  What the last text of this claim leans on, part 24: Gp4, Gt7, Gt8, Gu1, Gt9, Gu2, Gu3, LawGr1, LawGr2, LawGr3, Gv1.
-/
import Derived.Test.YtdbgdfodoceadaaDoorZa23
import Derived.Test.YtdbgdfodoceadaaDoorZa22
import Derived.Test.YtdbgdfodoceadaaDoorZa2
namespace Go.Proofs.YtdbgdfodoceadaaDoor
open Go.RowKit
set_option linter.unusedVariables false

set_option maxRecDepth 100000 in
set_option maxHeartbeats 6400000 in
theorem refPlaneFault_any (o : Out) (ta : Option Addr) (tn tc : Nat) (W H : Int) (xs : List Int) (a : Option Addr) (n c : Nat) (w : World) (hR : ArgR w o ta tn tc) (hP : ArgP w xs a n c) :
    Calls Tryd.prog 10 #[.agg #[.int .i64 o.kind, .int .i64 o.born, .int .i64 o.stay, .int .i64 o.states, .int .i64 o.radius, .slice ta tn tc, .string o.turns], .agg #[.int .i64 W, .int .i64 H, .slice a n c]] w fun e w' => (∃ f, plaE o W H xs f ∧ e = .returned (.int .i64 (f : Int))) ∧ Below w.heap.size w w' := by
  obtain ⟨w1, hw1⟩ : ∃ w1, (w.alloc (.cells #[.int .i64 o.kind, .int .i64 o.born, .int .i64 o.stay, .int .i64 o.states, .int .i64 o.radius, .slice ta tn tc, .string o.turns] 24)).alloc (.cells #[.int .i64 W, .int .i64 H, .slice a n c] 26) = w1 := ⟨_, rfl⟩
  have BB := hide' (show Below w.heap.size w w1 by rw [← hw1]; exact ((Below.refl _ _).alloc (Nat.le_refl _) _).alloc (by simp) _)
  have RX := hide' (show RBp w.heap.size o (.slice ta tn tc) w1 by rw [← hw1]; exact (RBp.new w o (.slice ta tn tc) 24).block (Below.heap_alloc _ _ _ (by simp)))
  have y0 : w1.cell? ⟨w.heap.size + 1, 0, none⟩ = some (.int .i64 W) := by rw [← hw1, World.cell?_alloc_at _ _ _ _ (by simp)]; rfl
  have y1 : w1.cell? ⟨w.heap.size + 1, 1, none⟩ = some (.int .i64 H) := by rw [← hw1, World.cell?_alloc_at _ _ _ _ (by simp)]; rfl
  have y2 : w1.cell? ⟨w.heap.size + 1, 2, none⟩ = some (.slice a n c) := by rw [← hw1, World.cell?_alloc_at _ _ _ _ (by simp)]; rfl
  have PL : w.heap.size + 1 < w1.heap.size := by rw [← hw1]; simp
  have PX := hide' (fun (w' : World) (hb : Below w1.heap.size w1 w') => show w'.cell? ⟨w.heap.size + 1, 0, none⟩ = some (.int .i64 W) ∧ w'.cell? ⟨w.heap.size + 1, 1, none⟩ = some (.int .i64 H) ∧ w'.cell? ⟨w.heap.size + 1, 2, none⟩ = some (.slice a n c) from
    have e := hb.block (w.heap.size + 1) PL
    ⟨(World.cell?_of_block (w := w1) (a := ⟨w.heap.size + 1, 0, none⟩) e).trans y0, (World.cell?_of_block (w := w1) (a := ⟨w.heap.size + 1, 1, none⟩) e).trans y1, (World.cell?_of_block (w := w1) (a := ⟨w.heap.size + 1, 2, none⟩) e).trans y2⟩)
  have AT := hide' (show ArgR w1 o ta tn tc by rw [← hw1]; exact (hR.alloc _).alloc _)
  have AP := hide' (hP.below BB.out)
  clear hR hP y0 y1 y2 PL
  have C0 := hide' (Below.refl w1.heap.size w1)
  obtain ⟨x0, x1, x2, x3, x4, x5, x6⟩ := RX.out
  go_enter Tryd.func10, Tryd.ntmps10
  go_wp2_with fail
  refine (Fault_any o ta tn tc _ (AT.out.below C0.out)).mono ?_
  rintro e w2 ⟨hor, b⟩
  have C1 := hide' (C0.out.trans (b.mono C0.out.size))
  clear hw1 b x0 x1 x2 x3 x4 x5 x6 C0
  obtain ⟨x0, x1, x2, x3, x4, x5, x6⟩ := RX.out.next C1.out
  obtain ⟨y0, y1, y2⟩ := PX.out _ C1.out
  rcases hor with ⟨rfl, hG⟩ | ⟨rfl, hG⟩
  · have HG := hide' hG
    clear hG
    go_wp2_with fail
    refine (Shape_P W H xs a n c _ (AP.out.below C1.out)).mono ?_
    obtain ⟨f, hf⟩ : ∃ f, shapeF W H xs = f := ⟨_, rfl⟩
    have HF := hide' hf
    rw [hf]
    clear hf
    rintro e w3 ⟨rfl, b⟩
    have C2 := hide' (C1.out.trans (b.mono C1.out.size))
    clear b x0 x1 x2 x3 x4 x5 x6 y0 y1 y2 C1
    obtain ⟨x0, x1, x2, x3, x4, x5, x6⟩ := RX.out.next C2.out
    by_cases f0 : f = 0
    · subst f0
      by_cases k1 : o.kind = 1
      · have kb : (o.kind != 1) = false := by simp [k1]
        have PE := hide' (show plaE o W H xs 0 from Or.inr (Or.inr (Or.inr ⟨HG.out, HF.out, k1, rfl⟩)))
        clear k1
        go_wp2
        go_ret
        exact ⟨⟨0, PE.out, rfl⟩, BB.out.trans (C2.out.mono BB.out.size)⟩
      · have kb : (o.kind != 1) = true := by simp [k1]
        have PE := hide' (show plaE o W H xs 1 from Or.inr (Or.inr (Or.inl ⟨HG.out, HF.out, k1, rfl⟩)))
        clear k1
        go_wp2
        go_ret
        exact ⟨⟨1, PE.out, rfl⟩, BB.out.trans (C2.out.mono BB.out.size)⟩
    · have PE := hide' (show plaE o W H xs f from Or.inr (Or.inl ⟨HG.out, by rw [HF.out]; exact f0, HF.out.symm⟩))
      have fb : ((f : Int) == 0) = false := by simp; omega
      clear f0
      go_wp2
      go_ret
      exact ⟨⟨f, PE.out, rfl⟩, BB.out.trans (C2.out.mono BB.out.size)⟩
  · have PE := hide' (show plaE o W H xs 1 from Or.inl ⟨hG, rfl⟩)
    clear hG
    go_wp2
    go_ret
    exact ⟨⟨1, PE.out, rfl⟩, BB.out.trans (C1.out.mono BB.out.size)⟩
end Go.Proofs.YtdbgdfodoceadaaDoor

namespace Go.Proofs.YtdbgdfodoceadaaDoor
open Go.RowKit
set_option linter.unusedVariables false
/-- What is wrong where a plane without an end is asked for. -/
def grE (o : Out) (W H : Int) (xs : List Int) (f : Nat) : Prop := (∃ g, plaE o W H xs g ∧ g ≠ 0 ∧ f = g) ∨ (plaE o W H xs 0 ∧ o.born % 2 = 1 ∧ f = 1) ∨ (plaE o W H xs 0 ∧ o.born % 2 = 0 ∧ f = 0)
theorem pla_good {o : Out} {W H : Int} {xs : List Int} (h : plaE o W H xs 0) : ∃ b s : Nat, o.born = (b : Int) ∧ o.stay = (s : Int) ∧ b ≤ 511 ∧ s ≤ 511 ∧ o.kind = 1 ∧ shapeF W H xs = 0 := by
  rcases h with ⟨_, h⟩ | ⟨_, h1, h2⟩ | ⟨_, _, _, h⟩ | ⟨hg, hs, hk, _⟩
  · omega
  · exact absurd h2.symm h1
  · omega
  · rcases hg with ⟨_, h1, h2, _⟩ | ⟨h, _⟩ | ⟨h, _⟩
    · unfold bitsB at h1 h2
      simp at h1 h2
      exact ⟨o.born.toNat, o.stay.toNat, by omega, by omega, by omega, by omega, hk, hs⟩
    · omega
    · omega
set_option maxRecDepth 100000 in
set_option maxHeartbeats 6400000 in
theorem checkGrowth_any (o : Out) (ta : Option Addr) (tn tc : Nat) (W H : Int) (xs : List Int) (a : Option Addr) (n c : Nat) (w : World) (hR : ArgR w o ta tn tc) (hP : ArgP w xs a n c) :
    Calls Tryd.prog 48 #[.agg #[.int .i64 o.kind, .int .i64 o.born, .int .i64 o.stay, .int .i64 o.states, .int .i64 o.radius, .slice ta tn tc, .string o.turns], .agg #[.int .i64 W, .int .i64 H, .slice a n c]] w fun e w' => (∃ f, grE o W H xs f ∧ e = .returned (errOf f)) ∧ Below w.heap.size w w' := by
  obtain ⟨w1, hw1⟩ : ∃ w1, (w.alloc (.cells #[.int .i64 o.kind, .int .i64 o.born, .int .i64 o.stay, .int .i64 o.states, .int .i64 o.radius, .slice ta tn tc, .string o.turns] 24)).alloc (.cells #[.int .i64 W, .int .i64 H, .slice a n c] 26) = w1 := ⟨_, rfl⟩
  have BB := hide' (show Below w.heap.size w w1 by rw [← hw1]; exact ((Below.refl _ _).alloc (Nat.le_refl _) _).alloc (by simp) _)
  have g0 : w1.heap[w.heap.size]? = some (.cells #[.int .i64 o.kind, .int .i64 o.born, .int .i64 o.stay, .int .i64 o.states, .int .i64 o.radius, .slice ta tn tc, .string o.turns] 24 (0, 0)) := by rw [← hw1, Below.heap_alloc _ _ _ (by simp)]; exact heap_alloc_new _ _
  have g1 : w1.heap[w.heap.size + 1]? = some (.cells #[.int .i64 W, .int .i64 H, .slice a n c] 26 (0, 0)) := by rw [← hw1]; exact heap_atX _ _ _ (by simp)
  have x0 := cell_of_row w1 _ 0 _ _ _ g0
  have x1 := cell_of_row w1 _ 1 _ _ _ g0
  have x2 := cell_of_row w1 _ 2 _ _ _ g0
  have x3 := cell_of_row w1 _ 3 _ _ _ g0
  have x4 := cell_of_row w1 _ 4 _ _ _ g0
  have x5 := cell_of_row w1 _ 5 _ _ _ g0
  have x6 := cell_of_row w1 _ 6 _ _ _ g0
  have y0 := cell_of_row w1 _ 0 _ _ _ g1
  have y1 := cell_of_row w1 _ 1 _ _ _ g1
  have y2 := cell_of_row w1 _ 2 _ _ _ g1
  simp at x0 x1 x2 x3 x4 x5 x6 y0 y1 y2
  have CC := hide' (planeCheck_any o ta tn tc W H xs a n c w1 (hR.below BB.out) (hP.below BB.out))
  have G0 := hide' g0
  clear hR hP g0 g1
  go_enter Tryd.func48, Tryd.ntmps48
  go_wp2_with fail
  refine CC.out.mono ?_
  rintro e w2 ⟨⟨f, hf, rfl⟩, b2⟩
  have HF := hide' hf
  have z1 := cell_of_row w2 _ 1 _ _ _ ((b2.block _ (lt_of_block G0.out)).trans G0.out)
  simp at z1
  have BQ := hide' (BB.out.trans (b2.mono BB.out.size))
  clear hf b2 hw1 x0 x1 x2 x3 x4 x5 x6 y0 y1 y2
  by_cases f0 : f = 0
  · subst f0
    rw [show errOf 0 = .nilIface from rfl]
    obtain ⟨b, s, hb, -, b5, -⟩ := pla_good HF.out
    have HB := hide' hb
    rw [hb] at z1
    have an := and_bit' b 0 b5
    have an2 : bits BinOp.and IntKind.i64 (b : Int) 1 = ((b % 2 : Nat) : Int) := by simpa using an
    obtain ⟨r, hr⟩ : ∃ r, b % 2 = r := ⟨_, rfl⟩
    rw [hr] at an2
    have HR := hide' hr
    have r2 : r ≤ 1 := by omega
    clear an hr hb
    by_cases r0 : r = 0
    · subst r0
      go_wp2
      go_ret
      exact ⟨⟨0, Or.inr (Or.inr ⟨HF.out, by rw [HB.out]; have := HR.out; omega, rfl⟩), rfl⟩, BQ.out⟩
    · have r1 : r = 1 := by omega
      subst r1
      go_wp2
      go_ret
      exact ⟨⟨1, Or.inr (Or.inl ⟨HF.out, by rw [HB.out]; have := HR.out; omega, rfl⟩), rfl⟩, BQ.out⟩
  · have PE := hide' (show grE o W H xs f from Or.inl ⟨f, HF.out, f0, rfl⟩)
    rw [show errOf f = .iface 77 (.int .i64 (f : Int)) from if_neg f0]
    have EF := hide' (show errOf f = .iface 77 (.int .i64 (f : Int)) from if_neg f0)
    clear f0
    go_wp2
    go_ret
    exact ⟨⟨f, PE.out, by rw [EF.out]; rfl⟩, BQ.out⟩
end Go.Proofs.YtdbgdfodoceadaaDoor

namespace Go.Proofs.YtdbgdfodoceadaaDoor
open Go.RowKit
set_option linter.unusedVariables false
theorem shape_sides {W H : Int} {xs : List Int} (h : shapeF W H xs = 0) : ∃ Wn Hn : Nat, W = (Wn : Int) ∧ H = (Hn : Int) ∧ Wn ≤ 100 ∧ Hn ≤ 100 ∧ xs.length = Wn * Hn ∧ ∀ k, 0 ≤ xs.getD k 0 ∧ xs.getD k 0 ≤ 1 := by
  unfold shapeF at h
  split at h
  · rename_i hs
    split at h
    · rename_i hl
      split at h
      · rename_i ha
        simp only [Bool.and_eq_true] at hs
        unfold sideB at hs
        simp at hs
        refine ⟨W.toNat, H.toNat, by omega, by omega, by omega, by omega, ?_, fun k => ?_⟩
        · have e : ((W.toNat * H.toNat : Nat) : Int) = W * H := by rw [Int.natCast_mul, Int.toNat_of_nonneg (by omega), Int.toNat_of_nonneg (by omega)]
          omega
        · by_cases q : k < xs.length
          · have := List.all_eq_true.1 ha xs[k] (List.getElem_mem q)
            have e : xs.getD k 0 = xs[k] := by simp [List.getD, q]
            rw [e]
            unfold cellB at this
            simp at this
            omega
          · have e : xs.getD k 0 = 0 := by simp [List.getD, q]
            rw [e]; omega
      · omega
    · omega
  · omega
end Go.Proofs.YtdbgdfodoceadaaDoor

namespace Go.Proofs.YtdbgdfodoceadaaDoor
open Go.RowKit
set_option linter.unusedVariables false
end Go.Proofs.YtdbgdfodoceadaaDoor

namespace Go.Proofs.YtdbgdfodoceadaaDoor
open Go.RowKit
set_option linter.unusedVariables false
structure PG (w w4 wr : World) (p : Nat) (Z : Array Value) : Prop where
  keep : ∀ k, k < w.heap.size + 1 + 1 + 1 → wr.heap[k]? = w4.heap[k]?
  blk : wr.heap[p]? = some (.cells Z 89 (0, 0))
  pl : w.heap.size + 1 + 1 + 1 ≤ p
  below : Below w.heap.size w wr
theorem PG.next {w w4 wr w' : World} {p : Nat} {Z : Array Value} (h : PG w w4 wr p Z) (b : Below wr.heap.size wr w') : PG w w4 w' p Z := by
  have l := lt_of_block h.blk
  have := h.pl
  exact ⟨fun k hk => (b.block k (by omega)).trans (h.keep k hk), (b.block _ l).trans h.blk, h.pl, h.below.trans (b.mono h.below.size)⟩
theorem PG.setRow {w w4 wr : World} {p : Nat} {Z : Array Value} (h : PG w w4 wr p Z) (Y : Array Value) : PG w w4 (wr.setRow p Y) p Y :=
  ⟨fun k hk => (setRow_other _ _ _ _ (by have := h.pl; omega)).trans (h.keep k hk), setRow_heap _ _ _ _ _ _ h.blk, h.pl, below_setRow h.below (by have := h.pl; omega) _⟩
end Go.Proofs.YtdbgdfodoceadaaDoor

namespace Go.Proofs.YtdbgdfodoceadaaDoor
open Go.RowKit
set_option linter.unusedVariables false
/-- What lies there while the rings are gone round. -/
structure PY (w w2 wr : World) (W H : Nat) (n p q : Nat) (f : Nat → Value) : Prop where
  keep : ∀ k, k < w2.heap.size → wr.heap[k]? = w2.heap[k]?
  pat : wr.heap[p]? = some (.cells #[.int .i64 (W : Int), .int .i64 (H : Int), .slice (some ⟨q, 0, none⟩) n n] 26 (0, 0))
  out : wr.heap[q]? = some (.cells (arrF n f) 3 (0, 0))
  pl : w2.heap.size ≤ p
  ql : w2.heap.size ≤ q
  ne : p ≠ q
  below : Below w.heap.size w wr
theorem PY.next {w w2 wr w' : World} {W H n p q : Nat} {f : Nat → Value} (h : PY w w2 wr W H n p q f) (b : Below wr.heap.size wr w') : PY w w2 w' W H n p q f := by
  have l := lt_of_block h.pat
  have := h.pl
  exact ⟨fun k hk => (b.block k (by omega)).trans (h.keep k hk), (b.block _ l).trans h.pat, (b.block _ (lt_of_block h.out)).trans h.out, h.pl, h.ql, h.ne, h.below.trans (b.mono h.below.size)⟩
theorem PY.set {w w2 wr : World} {W H n p q : Nat} {f : Nat → Value} (h : PY w w2 wr W H n p q f) (hb : w.heap.size ≤ w2.heap.size) (i : Nat) (v : Value) : PY w w2 (wr.setCell ⟨q, i, none⟩ v) W H n p q (fun k => if k = i then v else f k) :=
  ⟨fun k hk => (Below.heap_setCell _ _ _ _ (by have := h.ql; simp; omega)).trans (h.keep k hk), two_other h.pat _ _ _ h.ne, by rw [heap_setCell_same _ _ _ _ _ _ h.out, arrF_set], h.pl, h.ql, h.ne, h.below.setCell (by have := h.ql; simp; omega) _⟩
end Go.Proofs.YtdbgdfodoceadaaDoor

namespace Go.Proofs.YtdbgdfodoceadaaDoor
open Go.RowKit
set_option linter.unusedVariables false
end Go.Proofs.YtdbgdfodoceadaaDoor

namespace Go.Proofs.YtdbgdfodoceadaaDoor
open Go.RowKit
set_option linter.unusedVariables false
end Go.Proofs.YtdbgdfodoceadaaDoor

namespace Go.Proofs.YtdbgdfodoceadaaDoor
open Go.RowKit
set_option linter.unusedVariables false
theorem err_any (k : Nat) (w : World) (hg : Handle w) : Calls Tryd.prog 12 #[errOf k, .int .i64 (k : Int)] w fun e w' => e = .returned (.bool true) ∧ Below w.heap.size w w' := by
  by_cases h : k = 0
  · subst h; exact err_nil_true w
  · rw [show errOf k = .iface 77 (.int .i64 (k : Int)) by unfold errOf; rw [if_neg h]]; exact err_some_true _ w hg
end Go.Proofs.YtdbgdfodoceadaaDoor

namespace Go.Proofs.YtdbgdfodoceadaaDoor
open Go.RowKit
set_option linter.unusedVariables false
theorem plaE_some (o : Out) (W H : Int) (xs : List Int) : ∃ f, plaE o W H xs f := by
  by_cases g : Good o
  · by_cases s : shapeF W H xs = 0
    · by_cases k : o.kind = 1
      · exact ⟨0, Or.inr (Or.inr (Or.inr ⟨g, s, k, rfl⟩))⟩
      · exact ⟨1, Or.inr (Or.inr (Or.inl ⟨g, s, k, rfl⟩))⟩
    · exact ⟨_, Or.inr (Or.inl ⟨g, s, rfl⟩)⟩
  · exact ⟨1, Or.inl ⟨g, rfl⟩⟩
end Go.Proofs.YtdbgdfodoceadaaDoor

namespace Go.Proofs.YtdbgdfodoceadaaDoor
open Go.RowKit
set_option linter.unusedVariables false
theorem wrap_near {x : Int} (h1 : -1000000000 ≤ x) (h2 : x ≤ 1000000000) : IntKind.i64.wrap x = x := by simp [IntKind.wrap, IntKind.bits, IntKind.signed]; omega
def sameP (a b : Pat) : Bool := decide (a.W = b.W) && decide (a.H = b.H) && decide (a.xs = b.xs)
/-- A state as boxG makes it. -/
def Bxd (s : Gst) : Prop := s = noG ∨ (BoxP (cellP s.P) 0 0 s.P.W s.P.H ∧ GOk s)
theorem box_bxd {q : Pat} (h : ∀ k, 0 ≤ q.xs.getD k 0 ∧ q.xs.getD k 0 ≤ 1) (R D : Int) : Bxd (boxG q R D) := by
  have ok := box_ok h R D
  unfold boxG at ok ⊢
  rcases trim_cases q with ⟨h0, h1⟩ | ⟨l, t, r, b, hB, h1⟩
  · left; rw [h1, if_pos rfl]
  · right
    rw [h1] at ok ⊢
    dsimp only at ok ⊢
    obtain ⟨y1, x1, c1, e1⟩ := hB.le
    obtain ⟨y2, x2, c2, e2⟩ := hB.ri
    obtain ⟨y3, x3, c3, e3⟩ := hB.up
    obtain ⟨y4, x4, c4, e4⟩ := hB.lo
    have i1 := hB.inn _ _ c1
    have i2 := hB.inn _ _ c2
    have i3 := hB.inn _ _ c3
    have i4 := hB.inn _ _ c4
    rw [if_neg (by omega)] at ok ⊢
    refine ⟨⟨fun y x hc => ?_, ⟨y1 - t, 0, ?_, rfl⟩, ⟨y2 - t, x2 - l, ?_, by dsimp only; omega⟩, ⟨0, x3 - l, ?_, rfl⟩, ⟨y4 - t, x4 - l, ?_, by dsimp only; omega⟩⟩, ok⟩
    · rw [trim_cell hB] at hc
      simp at hc
      dsimp only
      omega
    · rw [trim_cell hB, show t + (y1 - t) = y1 by omega, show l + 0 = x1 by omega, c1]; simp; omega
    · rw [trim_cell hB, show t + (y2 - t) = y2 by omega, show l + (x2 - l) = x2 by omega, c2]; simp; omega
    · rw [trim_cell hB, show t + 0 = y3 by omega, show l + (x3 - l) = x3 by omega, c3]; simp; omega
    · rw [trim_cell hB, show t + (y4 - t) = y4 by omega, show l + (x4 - l) = x4 by omega, c4]; simp; omega
theorem cellP_words {a b : Pat} (aW : a.W ≤ 128) (aH : a.H ≤ 102) (bW : b.W ≤ 128) (bH : b.H ≤ 102) (h : ∀ k, k < 204 → wX a k = wX b k) : cellP a = cellP b := by
  funext y x
  by_cases hx : x < 128
  · by_cases hy : y < 102
    · rw [← wX_rb a y x hx, ← wX_rb b y x hx, h _ (by omega), h _ (by omega)]
    · unfold cellP
      rw [decide_eq_false (show ¬ y < a.H by omega), decide_eq_false (show ¬ y < b.H by omega)]; simp
  · unfold cellP
    rw [decide_eq_false (show ¬ x < a.W by omega), decide_eq_false (show ¬ x < b.W by omega)]; simp
theorem words_same {s t : Gst} (hs : Bxd s) (ht : Bxd t) (sW : s.P.W ≤ 102) (sH : s.P.H ≤ 102) (tW : t.P.W ≤ 102) (tH : t.P.H ≤ 102) : (∀ k, k < 204 → wX s.P k = wX t.P k) ↔ sameP s.P t.P = true := by
  constructor
  · intro h
    have e := cellP_words (by omega) sH (by omega) tH h
    rcases hs with rfl | ⟨bs, os⟩
    · rcases ht with rfl | ⟨bt, ot⟩
      · simp [sameP]
      · obtain ⟨y, x, c, -⟩ := bt.le
        rw [← e] at c
        simp [cellP, noG] at c
    · rcases ht with rfl | ⟨bt, ot⟩
      · obtain ⟨y, x, c, -⟩ := bs.le
        rw [e] at c
        simp [cellP, noG] at c
      · rw [e] at bs
        obtain ⟨-, -, eW, eH⟩ := bs.same bt
        have el : s.P.xs = t.P.xs := by
          refine List.ext_getElem (by rw [os.len, ot.len, eW, eH]) (fun i h1 h2 => ?_)
          have hi : i < s.P.W * s.P.H := by rw [← os.len]; exact h1
          have hj : i < t.P.W * t.P.H := by rw [← ot.len]; exact h2
          have c1 := cellP_of hi
          have c2 := cellP_of hj
          rw [e, eW, c2] at c1
          have b1 := os.bits i
          have b2 := ot.bits i
          have g1 : s.P.xs.getD i 0 = s.P.xs[i] := by simp [List.getD, h1]
          have g2 : t.P.xs.getD i 0 = t.P.xs[i] := by simp [List.getD, h2]
          rw [g1] at b1 c1
          rw [g2] at b2 c1
          rw [decide_eq_decide] at c1
          omega
        unfold sameP
        rw [decide_eq_true eW, decide_eq_true eH, decide_eq_true el]; rfl
  · intro h k _
    unfold sameP at h
    simp at h
    obtain ⟨⟨h1, h2⟩, h3⟩ := h
    have : s.P = t.P := by
      cases hs : s.P; cases ht : t.P
      rw [hs, ht] at h1 h2 h3
      dsimp only at h1 h2 h3
      rw [h1, h2, h3]
    rw [this]
theorem grow_bxd {born stay : Nat} {s : Gst} (hs : Bxd s) : ∀ n u, growG born stay s n = some u → Bxd u
  | 0, u, h => by rw [growG] at h; injection h with h; rw [← h]; exact hs
  | n + 1, u, h => by
    rw [growG] at h
    cases hg : growG born stay s n with
    | none => rw [hg] at h; cases h
    | some t =>
      rw [hg] at h
      dsimp only at h
      split at h
      · cases h
      · injection h with h; rw [← h]; exact box_bxd (next_bits born stay t.P) _ _
/-- What Again answers: so many rounds more, behind i of them; a period, how far right and down, and what is wrong. -/
structure AgR where
  n : Nat
  r : Int
  d : Int
  f : Nat
def agn (born stay : Nat) (s0 : Gst) : Nat → Nat → Gst → AgR
  | 0, _, _ => ⟨0, 0, 0, 5⟩
  | k + 1, i, u => if 100 < (nextG born stay u).P.W ∨ 100 < (nextG born stay u).P.H then ⟨0, 0, 0, 4⟩ else if sameP (nextG born stay u).P s0.P then ⟨i + 1, (nextG born stay u).r - s0.r, (nextG born stay u).d - s0.d, 0⟩ else agn born stay s0 k (i + 1) (nextG born stay u)
def agA (born stay : Nat) (s0 : Gst) (m : Nat) : AgR := if s0.P.W = 0 then ⟨0, 0, 0, 5⟩ else agn born stay s0 m 0 s0
theorem agn_noG {born stay : Nat} {s0 : Gst} (b0 : born.testBit 0 = false) (h : s0.P.W ≠ 0) : ∀ k i, agn born stay s0 k i noG = ⟨0, 0, 0, 5⟩
  | 0, i => rfl
  | k + 1, i => by
    rw [agn, noG_next b0, if_neg (by simp [noG]), if_neg (by unfold sameP; rw [decide_eq_false (show ¬ noG.P.W = s0.P.W from fun e => h e.symm)]; simp)]
    exact agn_noG b0 h k (i + 1)
theorem bxd_wide {s : Gst} (h : Bxd s) : s.P.W = 0 ↔ s.P.H = 0 := by
  rcases h with rfl | ⟨b, -⟩
  · simp [noG]
  · obtain ⟨y, x, c, -⟩ := b.le
    have := b.inn _ _ c
    omega
end Go.Proofs.YtdbgdfodoceadaaDoor

