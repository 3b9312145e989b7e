/-
  What the last text of this claim leans on, part 20: Gp3, Gp4, Gt7, Gt8.
-/
import Derived.Test.YtdbgdfodoceadaaDoorZt9
import Derived.Test.YtdbgdfodoceadaaDoorZt19
import Derived.Test.YtdbgdfodoceadaaDoorZt3
namespace Go.Proofs.YtdbgdfodoceadaaDoor
open Go.RowKit
set_option linter.unusedVariables false

/-- What is wrong with a rule of a plane and a pattern. -/
def plaE (o : Out) (W H : Int) (xs : List Int) (f : Nat) : Prop := (¬ Good o ∧ f = 1) ∨ (Good o ∧ shapeF W H xs ≠ 0 ∧ f = shapeF W H xs) ∨ (Good o ∧ shapeF W H xs = 0 ∧ o.kind ≠ 1 ∧ f = 1) ∨ (Good o ∧ shapeF W H xs = 0 ∧ o.kind = 1 ∧ f = 0)
theorem plaE_only {o : Out} {W H : Int} {xs : List Int} {f g : Nat} (h : plaE o W H xs f) (k : plaE o W H xs g) : f = g := by
  rcases h with ⟨a, b⟩ | ⟨a, b, c⟩ | ⟨a, b, c, d⟩ | ⟨a, b, c, d⟩ <;> rcases k with ⟨a', b'⟩ | ⟨a', b', c'⟩ | ⟨a', b', c', d'⟩ | ⟨a', b', c', d'⟩ <;> first | (exact absurd a' a) | (exact absurd a a') | (exact absurd b' b) | (exact absurd b b') | (exact absurd c' c) | (exact absurd c c') | omega

set_option maxRecDepth 100000 in
set_option maxHeartbeats 6400000 in
theorem planeCheck_any (o : Out) (ta : Option Addr) (tn tc : Nat) (W H : Int) (xs : List Int) (a : Option Addr) (n c : Nat) (w : World) (hR : ArgR w o ta tn tc) (hP : ArgP w xs a n c) :
    Calls Tryd.prog 40 #[.agg #[.int .i64 o.kind, .int .i64 o.born, .int .i64 o.stay, .int .i64 o.states, .int .i64 o.radius, .slice ta tn tc, .string o.turns], .agg #[.int .i64 W, .int .i64 H, .slice a n c]] w fun e w' => (∃ f, plaE o W H xs f ∧ e = .returned (errOf f)) ∧ Below w.heap.size w w' := by
  obtain ⟨w1, hw1⟩ : ∃ w1, (w.alloc (.cells #[.int .i64 o.kind, .int .i64 o.born, .int .i64 o.stay, .int .i64 o.states, .int .i64 o.radius, .slice ta tn tc, .string o.turns] 24)).alloc (.cells #[.int .i64 W, .int .i64 H, .slice a n c] 26) = w1 := ⟨_, rfl⟩
  have BB := hide' (show Below w.heap.size w w1 by rw [← hw1]; exact ((Below.refl _ _).alloc (Nat.le_refl _) _).alloc (by simp) _)
  have RX := hide' (show RBp w.heap.size o (.slice ta tn tc) w1 by rw [← hw1]; exact (RBp.new w o (.slice ta tn tc) 24).block (Below.heap_alloc _ _ _ (by simp)))
  have y0 : w1.cell? ⟨w.heap.size + 1, 0, none⟩ = some (.int .i64 W) := by rw [← hw1, World.cell?_alloc_at _ _ _ _ (by simp)]; rfl
  have y1 : w1.cell? ⟨w.heap.size + 1, 1, none⟩ = some (.int .i64 H) := by rw [← hw1, World.cell?_alloc_at _ _ _ _ (by simp)]; rfl
  have y2 : w1.cell? ⟨w.heap.size + 1, 2, none⟩ = some (.slice a n c) := by rw [← hw1, World.cell?_alloc_at _ _ _ _ (by simp)]; rfl
  have PL : w.heap.size + 1 < w1.heap.size := by rw [← hw1]; simp
  have PX := hide' (fun (w' : World) (hb : Below w1.heap.size w1 w') => show w'.cell? ⟨w.heap.size + 1, 0, none⟩ = some (.int .i64 W) ∧ w'.cell? ⟨w.heap.size + 1, 1, none⟩ = some (.int .i64 H) ∧ w'.cell? ⟨w.heap.size + 1, 2, none⟩ = some (.slice a n c) from
    have e := hb.block (w.heap.size + 1) PL
    ⟨(World.cell?_of_block (w := w1) (a := ⟨w.heap.size + 1, 0, none⟩) e).trans y0, (World.cell?_of_block (w := w1) (a := ⟨w.heap.size + 1, 1, none⟩) e).trans y1, (World.cell?_of_block (w := w1) (a := ⟨w.heap.size + 1, 2, none⟩) e).trans y2⟩)
  have AT := hide' (show ArgR w1 o ta tn tc by rw [← hw1]; exact (hR.alloc _).alloc _)
  have AP := hide' (hP.below BB.out)
  clear hR hP y0 y1 y2 PL
  have C0 := hide' (Below.refl w1.heap.size w1)
  obtain ⟨x0, x1, x2, x3, x4, x5, x6⟩ := RX.out
  go_enter Tryd.func40, Tryd.ntmps40
  go_wp2_with fail
  refine (Check_any o ta tn tc _ (AT.out.below C0.out)).mono ?_
  rintro e w2 ⟨hor, b⟩
  have C1 := hide' (C0.out.trans (b.mono C0.out.size))
  clear hw1 b x0 x1 x2 x3 x4 x5 x6 C0
  obtain ⟨x0, x1, x2, x3, x4, x5, x6⟩ := RX.out.next C1.out
  obtain ⟨y0, y1, y2⟩ := PX.out _ C1.out
  rcases hor with ⟨rfl, hG⟩ | ⟨rfl, hG⟩
  · have HG := hide' hG
    clear hG
    go_wp2_with fail
    refine (Check_P W H xs a n c _ (AP.out.below C1.out)).mono ?_
    obtain ⟨f, hf⟩ : ∃ f, shapeF W H xs = f := ⟨_, rfl⟩
    have HF := hide' hf
    rw [hf]
    clear hf
    rintro e w3 ⟨rfl, b⟩
    have C2 := hide' (C1.out.trans (b.mono C1.out.size))
    clear b x0 x1 x2 x3 x4 x5 x6 y0 y1 y2 C1
    obtain ⟨x0, x1, x2, x3, x4, x5, x6⟩ := RX.out.next C2.out
    by_cases f0 : f = 0
    · subst f0
      rw [show errOf 0 = .nilIface from rfl]
      by_cases k1 : o.kind = 1
      · have kb : (o.kind != 1) = false := by simp [k1]
        have PE := hide' (show plaE o W H xs 0 from Or.inr (Or.inr (Or.inr ⟨HG.out, HF.out, k1, rfl⟩)))
        clear k1
        go_wp2
        go_ret
        exact ⟨⟨0, PE.out, rfl⟩, BB.out.trans (C2.out.mono BB.out.size)⟩
      · have kb : (o.kind != 1) = true := by simp [k1]
        have PE := hide' (show plaE o W H xs 1 from Or.inr (Or.inr (Or.inl ⟨HG.out, HF.out, k1, rfl⟩)))
        clear k1
        go_wp2
        go_ret
        exact ⟨⟨1, PE.out, rfl⟩, BB.out.trans (C2.out.mono BB.out.size)⟩
    · have PE := hide' (show plaE o W H xs f from Or.inr (Or.inl ⟨HG.out, by rw [HF.out]; exact f0, HF.out.symm⟩))
      rw [show errOf f = .iface 77 (.int .i64 (f : Int)) from if_neg f0]
      have EF := hide' (show errOf f = .iface 77 (.int .i64 (f : Int)) from if_neg f0)
      clear f0
      go_wp2
      go_ret
      exact ⟨⟨f, PE.out, by rw [EF.out]; rfl⟩, BB.out.trans (C2.out.mono BB.out.size)⟩
  · have PE := hide' (show plaE o W H xs 1 from Or.inl ⟨hG, rfl⟩)
    clear hG
    go_wp2
    go_ret
    exact ⟨⟨1, PE.out, rfl⟩, BB.out.trans (C1.out.mono BB.out.size)⟩
end Go.Proofs.YtdbgdfodoceadaaDoor

namespace Go.Proofs.YtdbgdfodoceadaaDoor
open Go.RowKit
set_option linter.unusedVariables false

end Go.Proofs.YtdbgdfodoceadaaDoor

namespace Go.Proofs.YtdbgdfodoceadaaDoor
open Go.RowKit
set_option linter.unusedVariables false
/-- What is wrong where a plane without an end is asked for. -/
def grE (o : Out) (W H : Int) (xs : List Int) (f : Nat) : Prop := (∃ g, plaE o W H xs g ∧ g ≠ 0 ∧ f = g) ∨ (plaE o W H xs 0 ∧ o.born % 2 = 1 ∧ f = 1) ∨ (plaE o W H xs 0 ∧ o.born % 2 = 0 ∧ f = 0)
theorem pla_good {o : Out} {W H : Int} {xs : List Int} (h : plaE o W H xs 0) : ∃ b s : Nat, o.born = (b : Int) ∧ o.stay = (s : Int) ∧ b ≤ 511 ∧ s ≤ 511 ∧ o.kind = 1 ∧ shapeF W H xs = 0 := by
  rcases h with ⟨_, h⟩ | ⟨_, h1, h2⟩ | ⟨_, _, _, h⟩ | ⟨hg, hs, hk, _⟩
  · omega
  · exact absurd h2.symm h1
  · omega
  · rcases hg with ⟨_, h1, h2, _⟩ | ⟨h, _⟩ | ⟨h, _⟩
    · unfold bitsB at h1 h2
      simp at h1 h2
      exact ⟨o.born.toNat, o.stay.toNat, by omega, by omega, by omega, by omega, hk, hs⟩
    · omega
    · omega
set_option maxRecDepth 100000 in
set_option maxHeartbeats 6400000 in
theorem checkGrowth_any (o : Out) (ta : Option Addr) (tn tc : Nat) (W H : Int) (xs : List Int) (a : Option Addr) (n c : Nat) (w : World) (hR : ArgR w o ta tn tc) (hP : ArgP w xs a n c) :
    Calls Tryd.prog 48 #[.agg #[.int .i64 o.kind, .int .i64 o.born, .int .i64 o.stay, .int .i64 o.states, .int .i64 o.radius, .slice ta tn tc, .string o.turns], .agg #[.int .i64 W, .int .i64 H, .slice a n c]] w fun e w' => (∃ f, grE o W H xs f ∧ e = .returned (errOf f)) ∧ Below w.heap.size w w' := by
  obtain ⟨w1, hw1⟩ : ∃ w1, (w.alloc (.cells #[.int .i64 o.kind, .int .i64 o.born, .int .i64 o.stay, .int .i64 o.states, .int .i64 o.radius, .slice ta tn tc, .string o.turns] 24)).alloc (.cells #[.int .i64 W, .int .i64 H, .slice a n c] 26) = w1 := ⟨_, rfl⟩
  have BB := hide' (show Below w.heap.size w w1 by rw [← hw1]; exact ((Below.refl _ _).alloc (Nat.le_refl _) _).alloc (by simp) _)
  have g0 : w1.heap[w.heap.size]? = some (.cells #[.int .i64 o.kind, .int .i64 o.born, .int .i64 o.stay, .int .i64 o.states, .int .i64 o.radius, .slice ta tn tc, .string o.turns] 24 (0, 0)) := by rw [← hw1, Below.heap_alloc _ _ _ (by simp)]; exact heap_alloc_new _ _
  have g1 : w1.heap[w.heap.size + 1]? = some (.cells #[.int .i64 W, .int .i64 H, .slice a n c] 26 (0, 0)) := by rw [← hw1]; exact heap_atX _ _ _ (by simp)
  have x0 := cell_of_row w1 _ 0 _ _ _ g0
  have x1 := cell_of_row w1 _ 1 _ _ _ g0
  have x2 := cell_of_row w1 _ 2 _ _ _ g0
  have x3 := cell_of_row w1 _ 3 _ _ _ g0
  have x4 := cell_of_row w1 _ 4 _ _ _ g0
  have x5 := cell_of_row w1 _ 5 _ _ _ g0
  have x6 := cell_of_row w1 _ 6 _ _ _ g0
  have y0 := cell_of_row w1 _ 0 _ _ _ g1
  have y1 := cell_of_row w1 _ 1 _ _ _ g1
  have y2 := cell_of_row w1 _ 2 _ _ _ g1
  simp at x0 x1 x2 x3 x4 x5 x6 y0 y1 y2
  have CC := hide' (planeCheck_any o ta tn tc W H xs a n c w1 (hR.below BB.out) (hP.below BB.out))
  have G0 := hide' g0
  clear hR hP g0 g1
  go_enter Tryd.func48, Tryd.ntmps48
  go_wp2_with fail
  refine CC.out.mono ?_
  rintro e w2 ⟨⟨f, hf, rfl⟩, b2⟩
  have HF := hide' hf
  have z1 := cell_of_row w2 _ 1 _ _ _ ((b2.block _ (lt_of_block G0.out)).trans G0.out)
  simp at z1
  have BQ := hide' (BB.out.trans (b2.mono BB.out.size))
  clear hf b2 hw1 x0 x1 x2 x3 x4 x5 x6 y0 y1 y2
  by_cases f0 : f = 0
  · subst f0
    rw [show errOf 0 = .nilIface from rfl]
    obtain ⟨b, s, hb, -, b5, -⟩ := pla_good HF.out
    have HB := hide' hb
    rw [hb] at z1
    have an := and_bit' b 0 b5
    have an2 : bits BinOp.and IntKind.i64 (b : Int) 1 = ((b % 2 : Nat) : Int) := by simpa using an
    obtain ⟨r, hr⟩ : ∃ r, b % 2 = r := ⟨_, rfl⟩
    rw [hr] at an2
    have HR := hide' hr
    have r2 : r ≤ 1 := by omega
    clear an hr hb
    by_cases r0 : r = 0
    · subst r0
      go_wp2
      go_ret
      exact ⟨⟨0, Or.inr (Or.inr ⟨HF.out, by rw [HB.out]; have := HR.out; omega, rfl⟩), rfl⟩, BQ.out⟩
    · have r1 : r = 1 := by omega
      subst r1
      go_wp2
      go_ret
      exact ⟨⟨1, Or.inr (Or.inl ⟨HF.out, by rw [HB.out]; have := HR.out; omega, rfl⟩), rfl⟩, BQ.out⟩
  · have PE := hide' (show grE o W H xs f from Or.inl ⟨f, HF.out, f0, rfl⟩)
    rw [show errOf f = .iface 77 (.int .i64 (f : Int)) from if_neg f0]
    have EF := hide' (show errOf f = .iface 77 (.int .i64 (f : Int)) from if_neg f0)
    clear f0
    go_wp2
    go_ret
    exact ⟨⟨f, PE.out, by rw [EF.out]; rfl⟩, BQ.out⟩
end Go.Proofs.YtdbgdfodoceadaaDoor

namespace Go.Proofs.YtdbgdfodoceadaaDoor
open Go.RowKit
set_option linter.unusedVariables false
def GrowBad (f : Nat) (w : World) (e : Ending) (w' : World) : Prop := e = .returned (.tuple #[.agg #[.int .i64 0, .int .i64 0, .slice none 0 0], .int .i64 0, .int .i64 0, errOf f]) ∧ Below w.heap.size w w'
def GrowPost (born stay : Nat) (s0 : Gst) (m : Nat) (w : World) (e : Ending) (w' : World) : Prop :=
  (growG born stay s0 m = none ∧ GrowBad 4 w e w') ∨
  (∃ u q, growG born stay s0 m = some u ∧ e = .returned (.tuple #[.agg #[.int .i64 (u.P.W : Int), .int .i64 (u.P.H : Int), .slice (some ⟨q, 0, none⟩) u.P.xs.length u.P.xs.length], .int .i64 u.r, .int .i64 u.d, .nilIface]) ∧ Tab w' (.slice (some ⟨q, 0, none⟩) u.P.xs.length u.P.xs.length) u.P.xs ∧ Below w.heap.size w w')
theorem shape_sides {W H : Int} {xs : List Int} (h : shapeF W H xs = 0) : ∃ Wn Hn : Nat, W = (Wn : Int) ∧ H = (Hn : Int) ∧ Wn ≤ 100 ∧ Hn ≤ 100 ∧ xs.length = Wn * Hn ∧ ∀ k, 0 ≤ xs.getD k 0 ∧ xs.getD k 0 ≤ 1 := by
  unfold shapeF at h
  split at h
  · rename_i hs
    split at h
    · rename_i hl
      split at h
      · rename_i ha
        simp only [Bool.and_eq_true] at hs
        unfold sideB at hs
        simp at hs
        refine ⟨W.toNat, H.toNat, by omega, by omega, by omega, by omega, ?_, fun k => ?_⟩
        · have e : ((W.toNat * H.toNat : Nat) : Int) = W * H := by rw [Int.natCast_mul, Int.toNat_of_nonneg (by omega), Int.toNat_of_nonneg (by omega)]
          omega
        · by_cases q : k < xs.length
          · have := List.all_eq_true.1 ha xs[k] (List.getElem_mem q)
            have e : xs.getD k 0 = xs[k] := by simp [List.getD, q]
            rw [e]
            unfold cellB at this
            simp at this
            omega
          · have e : xs.getD k 0 = 0 := by simp [List.getD, q]
            rw [e]; omega
      · omega
    · omega
  · omega
end Go.Proofs.YtdbgdfodoceadaaDoor

