/-
  What the last text of this claim leans on, part 8: Wa2, Gp3, Gp4, Ce0, LawPp0.
-/
import Derived.Test.YtfdbgkdbmlmigaaDoorZp7
import Derived.Test.YtfdbgkdbmlmigaaDoorZp6
import Derived.Test.YtfdbgkdbmlmigaaDoorZp2
import Derived.Test.YtfdbgkdbmlmigaaDoorZp3
namespace Go.Proofs.YtfdbgkdbmlmigaaDoor
open Go.RowKit
set_option linter.unusedVariables false

set_option maxHeartbeats 1600000 in
theorem Shape_P (W H : Int) (xs : List Int) (a : Option Addr) (n c : Nat) (w : World) (hP : ArgP w xs a n c) :
    Calls Tryd.prog 10 #[.agg #[.int .i64 W, .int .i64 H, .slice a n c]] w fun e w' => e = .returned (.int .i64 ((shapeF W H xs : Nat) : Int)) ∧ Below w.heap.size w w' := by
  have HP := hide' (hP.alloc (.cells #[.int .i64 W, .int .i64 H, .slice a n c] 26))
  have hlen := hP.len
  have hmax := hP.max
  have HL := hide' hlen
  unfold maxLen at hmax
  clear hP hlen
  cases s1 : sideB W with
  | false =>
    have F := hide' (show shapeF W H xs = 1 by unfold shapeF; rw [s1]; rfl)
    rcases side_no s1 with h | h
    · clear s1
      go_enter Tryd.func10, Tryd.ntmps10
      go_wp2
      go_ret
      rw [F.out]
      exact ⟨rfl, (Below.refl _ _).alloc (Nat.le_refl _) _⟩
    · have h' : ¬ W < 0 := by omega
      clear s1
      go_enter Tryd.func10, Tryd.ntmps10
      go_wp2
      go_ret
      rw [F.out]
      exact ⟨rfl, (Below.refl _ _).alloc (Nat.le_refl _) _⟩
  | true =>
    cases s2 : sideB H with
    | false =>
      have F := hide' (show shapeF W H xs = 1 by unfold shapeF; rw [s1, s2]; rfl)
      obtain ⟨Wn, rfl, lW⟩ := side_nat s1
      have h1 : ¬ (Wn : Int) < 0 := by omega
      have h2 : ¬ 100 < (Wn : Int) := by omega
      rcases side_no s2 with h | h
      · clear s1 s2
        go_enter Tryd.func10, Tryd.ntmps10
        go_wp2
        go_ret
        rw [F.out]
        exact ⟨rfl, (Below.refl _ _).alloc (Nat.le_refl _) _⟩
      · have h' : ¬ H < 0 := by omega
        clear s1 s2
        go_enter Tryd.func10, Tryd.ntmps10
        go_wp2
        go_ret
        rw [F.out]
        exact ⟨rfl, (Below.refl _ _).alloc (Nat.le_refl _) _⟩
    | true =>
      obtain ⟨Wn, rfl, lW⟩ := side_nat s1
      obtain ⟨Hn, rfl, lH⟩ := side_nat s2
      have h1 : ¬ (Wn : Int) < 0 := by omega
      have h2 : ¬ 100 < (Wn : Int) := by omega
      have h3 : ¬ (Hn : Int) < 0 := by omega
      have h4 : ¬ 100 < (Hn : Int) := by omega
      obtain ⟨N, hN⟩ : ∃ N, Wn * Hn = N := ⟨_, rfl⟩
      have hNi : (Wn : Int) * (Hn : Int) = (N : Int) := by rw [← hN]; simp
      have hN4 : N ≤ 10000 := by rw [← hN]; exact Nat.mul_le_mul lW lH
      by_cases q : n = N
      · have m1 : ((n : Int) != (N : Int)) = false := by simp; omega
        have FO := hide' (fun (h : xs.all cellB = true) => show shapeF Wn Hn xs = 0 by unfold shapeF; rw [s1, s2, if_pos (show (true && true) = true from rfl), if_pos (by rw [hNi, ← HL.out, q]), if_pos h])
        have FN := hide' (fun (h : xs.all cellB = false) => show shapeF Wn Hn xs = 1 by unfold shapeF; rw [s1, s2, if_pos (show (true && true) = true from rfl), if_pos (by rw [hNi, ← HL.out, q]), if_neg (by rw [h]; simp)])
        clear q hN s1 s2
        go_enter Tryd.func10, Tryd.ntmps10
        go_wp2
        go_loop [3] (fun kv => ∃ k : Nat, kv = .int .i64 (k : Int) ∧ k ≤ n ∧ ∀ j (h : j < xs.length), j < k → cellB xs[j] = true) (fun kv => n - (intOf kv).toNat)
        case atStart => exact ⟨0, rfl, by omega, fun j h hj => by omega⟩
        case round =>
          obtain ⟨k, rfl, hk, hall⟩ := hrel
          have HA := hide' hall
          clear hall
          by_cases d : (k : Int) < (n : Int)
          · have hkl : k < xs.length := by have := HL.out; omega
            obtain ⟨g, off, rfl, hg, hc⟩ := HP.out.cells k hkl
            obtain ⟨x, hx⟩ : ∃ x, xs[k] = x := ⟨_, rfl⟩
            rw [hx] at hc
            have HX := hide' hx
            clear hx
            by_cases x0 : x < 0
            · have X := hide' (show cellB x = false by unfold cellB; simp; omega)
              go_wp2
              go_ret
              rw [FN.out (all_bad hkl (by rw [HX.out]; exact X.out))]
              exact ⟨rfl, (Below.refl _ _).alloc (Nat.le_refl _) _⟩
            · by_cases x1 : 1 < x
              · have X := hide' (show cellB x = false by unfold cellB; simp; omega)
                go_wp2
                go_ret
                rw [FN.out (all_bad hkl (by rw [HX.out]; exact X.out))]
                exact ⟨rfl, (Below.refl _ _).alloc (Nat.le_refl _) _⟩
              · have X := hide' (show cellB x = true by rw [cellB_iff]; omega)
                go_wp2
                refine ⟨⟨k + 1, by go_num, by omega, fun j h hj => ?_⟩, by simp [intOf]; omega⟩
                by_cases e : j = k
                · subst e; rw [HX.out]; exact X.out
                · exact HA.out j h (by omega)
          · go_wp2
            go_ret
            rw [FO.out (all_ok fun j hj => HA.out j hj (by have := HL.out; omega))]
            exact ⟨rfl, (Below.refl _ _).alloc (Nat.le_refl _) _⟩
      · have m1 : ((n : Int) != (N : Int)) = true := by simp; omega
        have F := hide' (show shapeF Wn Hn xs = 3 by unfold shapeF; rw [s1, s2, if_pos (show (true && true) = true from rfl), if_neg (by rw [hNi, ← HL.out]; omega)])
        clear q hN s1 s2
        go_enter Tryd.func10, Tryd.ntmps10
        go_wp2
        go_ret
        rw [F.out]
        exact ⟨rfl, (Below.refl _ _).alloc (Nat.le_refl _) _⟩
end Go.Proofs.YtfdbgkdbmlmigaaDoor

namespace Go.Proofs.YtfdbgkdbmlmigaaDoor
open Go.RowKit
set_option linter.unusedVariables false

/-- What is wrong with a rule of a plane and a pattern. -/
def plaE (o : Out) (W H : Int) (xs : List Int) (f : Nat) : Prop := (¬ Good o ∧ f = 1) ∨ (Good o ∧ shapeF W H xs ≠ 0 ∧ f = shapeF W H xs) ∨ (Good o ∧ shapeF W H xs = 0 ∧ o.kind ≠ 1 ∧ f = 1) ∨ (Good o ∧ shapeF W H xs = 0 ∧ o.kind = 1 ∧ f = 0)
theorem plaE_only {o : Out} {W H : Int} {xs : List Int} {f g : Nat} (h : plaE o W H xs f) (k : plaE o W H xs g) : f = g := by
  rcases h with ⟨a, b⟩ | ⟨a, b, c⟩ | ⟨a, b, c, d⟩ | ⟨a, b, c, d⟩ <;> rcases k with ⟨a', b'⟩ | ⟨a', b', c'⟩ | ⟨a', b', c', d'⟩ | ⟨a', b', c', d'⟩ <;> first | (exact absurd a' a) | (exact absurd a a') | (exact absurd b' b) | (exact absurd b b') | (exact absurd c' c) | (exact absurd c c') | omega

set_option maxRecDepth 100000 in
set_option maxHeartbeats 6400000 in
theorem planeCheck_any (o : Out) (ta : Option Addr) (tn tc : Nat) (W H : Int) (xs : List Int) (a : Option Addr) (n c : Nat) (w : World) (hR : ArgR w o ta tn tc) (hP : ArgP w xs a n c) :
    Calls Tryd.prog 12 #[.agg #[.int .i64 o.kind, .int .i64 o.born, .int .i64 o.stay, .int .i64 o.states, .int .i64 o.radius, .slice ta tn tc, .string o.turns], .agg #[.int .i64 W, .int .i64 H, .slice a n c]] w fun e w' => (∃ f, plaE o W H xs f ∧ e = .returned (errOf f)) ∧ Below w.heap.size w w' := by
  obtain ⟨w1, hw1⟩ : ∃ w1, (w.alloc (.cells #[.int .i64 o.kind, .int .i64 o.born, .int .i64 o.stay, .int .i64 o.states, .int .i64 o.radius, .slice ta tn tc, .string o.turns] 24)).alloc (.cells #[.int .i64 W, .int .i64 H, .slice a n c] 26) = w1 := ⟨_, rfl⟩
  have BB := hide' (show Below w.heap.size w w1 by rw [← hw1]; exact ((Below.refl _ _).alloc (Nat.le_refl _) _).alloc (by simp) _)
  have RX := hide' (show RBp w.heap.size o (.slice ta tn tc) w1 by rw [← hw1]; exact (RBp.new w o (.slice ta tn tc) 24).block (Below.heap_alloc _ _ _ (by simp)))
  have y0 : w1.cell? ⟨w.heap.size + 1, 0, none⟩ = some (.int .i64 W) := by rw [← hw1, World.cell?_alloc_at _ _ _ _ (by simp)]; rfl
  have y1 : w1.cell? ⟨w.heap.size + 1, 1, none⟩ = some (.int .i64 H) := by rw [← hw1, World.cell?_alloc_at _ _ _ _ (by simp)]; rfl
  have y2 : w1.cell? ⟨w.heap.size + 1, 2, none⟩ = some (.slice a n c) := by rw [← hw1, World.cell?_alloc_at _ _ _ _ (by simp)]; rfl
  have PL : w.heap.size + 1 < w1.heap.size := by rw [← hw1]; simp
  have PX := hide' (fun (w' : World) (hb : Below w1.heap.size w1 w') => show w'.cell? ⟨w.heap.size + 1, 0, none⟩ = some (.int .i64 W) ∧ w'.cell? ⟨w.heap.size + 1, 1, none⟩ = some (.int .i64 H) ∧ w'.cell? ⟨w.heap.size + 1, 2, none⟩ = some (.slice a n c) from
    have e := hb.block (w.heap.size + 1) PL
    ⟨(World.cell?_of_block (w := w1) (a := ⟨w.heap.size + 1, 0, none⟩) e).trans y0, (World.cell?_of_block (w := w1) (a := ⟨w.heap.size + 1, 1, none⟩) e).trans y1, (World.cell?_of_block (w := w1) (a := ⟨w.heap.size + 1, 2, none⟩) e).trans y2⟩)
  have AT := hide' (show ArgR w1 o ta tn tc by rw [← hw1]; exact (hR.alloc _).alloc _)
  have AP := hide' (hP.below BB.out)
  clear hR hP y0 y1 y2 PL
  have C0 := hide' (Below.refl w1.heap.size w1)
  obtain ⟨x0, x1, x2, x3, x4, x5, x6⟩ := RX.out
  go_enter Tryd.func12, Tryd.ntmps12
  go_wp2_with fail
  refine (Check_any o ta tn tc _ (AT.out.below C0.out)).mono ?_
  rintro e w2 ⟨hor, b⟩
  have C1 := hide' (C0.out.trans (b.mono C0.out.size))
  clear hw1 b x0 x1 x2 x3 x4 x5 x6 C0
  obtain ⟨x0, x1, x2, x3, x4, x5, x6⟩ := RX.out.next C1.out
  obtain ⟨y0, y1, y2⟩ := PX.out _ C1.out
  rcases hor with ⟨rfl, hG⟩ | ⟨rfl, hG⟩
  · have HG := hide' hG
    clear hG
    go_wp2_with fail
    refine (Check_P W H xs a n c _ (AP.out.below C1.out)).mono ?_
    obtain ⟨f, hf⟩ : ∃ f, shapeF W H xs = f := ⟨_, rfl⟩
    have HF := hide' hf
    rw [hf]
    clear hf
    rintro e w3 ⟨rfl, b⟩
    have C2 := hide' (C1.out.trans (b.mono C1.out.size))
    clear b x0 x1 x2 x3 x4 x5 x6 y0 y1 y2 C1
    obtain ⟨x0, x1, x2, x3, x4, x5, x6⟩ := RX.out.next C2.out
    by_cases f0 : f = 0
    · subst f0
      rw [show errOf 0 = .nilIface from rfl]
      by_cases k1 : o.kind = 1
      · have kb : (o.kind != 1) = false := by simp [k1]
        have PE := hide' (show plaE o W H xs 0 from Or.inr (Or.inr (Or.inr ⟨HG.out, HF.out, k1, rfl⟩)))
        clear k1
        go_wp2
        go_ret
        exact ⟨⟨0, PE.out, rfl⟩, BB.out.trans (C2.out.mono BB.out.size)⟩
      · have kb : (o.kind != 1) = true := by simp [k1]
        have PE := hide' (show plaE o W H xs 1 from Or.inr (Or.inr (Or.inl ⟨HG.out, HF.out, k1, rfl⟩)))
        clear k1
        go_wp2
        go_ret
        exact ⟨⟨1, PE.out, rfl⟩, BB.out.trans (C2.out.mono BB.out.size)⟩
    · have PE := hide' (show plaE o W H xs f from Or.inr (Or.inl ⟨HG.out, by rw [HF.out]; exact f0, HF.out.symm⟩))
      rw [show errOf f = .iface 45 (.int .i64 (f : Int)) from if_neg f0]
      have EF := hide' (show errOf f = .iface 45 (.int .i64 (f : Int)) from if_neg f0)
      clear f0
      go_wp2
      go_ret
      exact ⟨⟨f, PE.out, by rw [EF.out]; rfl⟩, BB.out.trans (C2.out.mono BB.out.size)⟩
  · have PE := hide' (show plaE o W H xs 1 from Or.inl ⟨hG, rfl⟩)
    clear hG
    go_wp2
    go_ret
    exact ⟨⟨1, PE.out, rfl⟩, BB.out.trans (C1.out.mono BB.out.size)⟩
end Go.Proofs.YtfdbgkdbmlmigaaDoor

namespace Go.Proofs.YtfdbgkdbmlmigaaDoor
open Go.RowKit
set_option linter.unusedVariables false

set_option maxRecDepth 100000 in
set_option maxHeartbeats 6400000 in
theorem refPlaneFault_any (o : Out) (ta : Option Addr) (tn tc : Nat) (W H : Int) (xs : List Int) (a : Option Addr) (n c : Nat) (w : World) (hR : ArgR w o ta tn tc) (hP : ArgP w xs a n c) :
    Calls Tryd.prog 4 #[.agg #[.int .i64 o.kind, .int .i64 o.born, .int .i64 o.stay, .int .i64 o.states, .int .i64 o.radius, .slice ta tn tc, .string o.turns], .agg #[.int .i64 W, .int .i64 H, .slice a n c]] w fun e w' => (∃ f, plaE o W H xs f ∧ e = .returned (.int .i64 (f : Int))) ∧ Below w.heap.size w w' := by
  obtain ⟨w1, hw1⟩ : ∃ w1, (w.alloc (.cells #[.int .i64 o.kind, .int .i64 o.born, .int .i64 o.stay, .int .i64 o.states, .int .i64 o.radius, .slice ta tn tc, .string o.turns] 24)).alloc (.cells #[.int .i64 W, .int .i64 H, .slice a n c] 26) = w1 := ⟨_, rfl⟩
  have BB := hide' (show Below w.heap.size w w1 by rw [← hw1]; exact ((Below.refl _ _).alloc (Nat.le_refl _) _).alloc (by simp) _)
  have RX := hide' (show RBp w.heap.size o (.slice ta tn tc) w1 by rw [← hw1]; exact (RBp.new w o (.slice ta tn tc) 24).block (Below.heap_alloc _ _ _ (by simp)))
  have y0 : w1.cell? ⟨w.heap.size + 1, 0, none⟩ = some (.int .i64 W) := by rw [← hw1, World.cell?_alloc_at _ _ _ _ (by simp)]; rfl
  have y1 : w1.cell? ⟨w.heap.size + 1, 1, none⟩ = some (.int .i64 H) := by rw [← hw1, World.cell?_alloc_at _ _ _ _ (by simp)]; rfl
  have y2 : w1.cell? ⟨w.heap.size + 1, 2, none⟩ = some (.slice a n c) := by rw [← hw1, World.cell?_alloc_at _ _ _ _ (by simp)]; rfl
  have PL : w.heap.size + 1 < w1.heap.size := by rw [← hw1]; simp
  have PX := hide' (fun (w' : World) (hb : Below w1.heap.size w1 w') => show w'.cell? ⟨w.heap.size + 1, 0, none⟩ = some (.int .i64 W) ∧ w'.cell? ⟨w.heap.size + 1, 1, none⟩ = some (.int .i64 H) ∧ w'.cell? ⟨w.heap.size + 1, 2, none⟩ = some (.slice a n c) from
    have e := hb.block (w.heap.size + 1) PL
    ⟨(World.cell?_of_block (w := w1) (a := ⟨w.heap.size + 1, 0, none⟩) e).trans y0, (World.cell?_of_block (w := w1) (a := ⟨w.heap.size + 1, 1, none⟩) e).trans y1, (World.cell?_of_block (w := w1) (a := ⟨w.heap.size + 1, 2, none⟩) e).trans y2⟩)
  have AT := hide' (show ArgR w1 o ta tn tc by rw [← hw1]; exact (hR.alloc _).alloc _)
  have AP := hide' (hP.below BB.out)
  clear hR hP y0 y1 y2 PL
  have C0 := hide' (Below.refl w1.heap.size w1)
  obtain ⟨x0, x1, x2, x3, x4, x5, x6⟩ := RX.out
  go_enter Tryd.func4, Tryd.ntmps4
  go_wp2_with fail
  refine (Fault_any o ta tn tc _ (AT.out.below C0.out)).mono ?_
  rintro e w2 ⟨hor, b⟩
  have C1 := hide' (C0.out.trans (b.mono C0.out.size))
  clear hw1 b x0 x1 x2 x3 x4 x5 x6 C0
  obtain ⟨x0, x1, x2, x3, x4, x5, x6⟩ := RX.out.next C1.out
  obtain ⟨y0, y1, y2⟩ := PX.out _ C1.out
  rcases hor with ⟨rfl, hG⟩ | ⟨rfl, hG⟩
  · have HG := hide' hG
    clear hG
    go_wp2_with fail
    refine (Shape_P W H xs a n c _ (AP.out.below C1.out)).mono ?_
    obtain ⟨f, hf⟩ : ∃ f, shapeF W H xs = f := ⟨_, rfl⟩
    have HF := hide' hf
    rw [hf]
    clear hf
    rintro e w3 ⟨rfl, b⟩
    have C2 := hide' (C1.out.trans (b.mono C1.out.size))
    clear b x0 x1 x2 x3 x4 x5 x6 y0 y1 y2 C1
    obtain ⟨x0, x1, x2, x3, x4, x5, x6⟩ := RX.out.next C2.out
    by_cases f0 : f = 0
    · subst f0
      by_cases k1 : o.kind = 1
      · have kb : (o.kind != 1) = false := by simp [k1]
        have PE := hide' (show plaE o W H xs 0 from Or.inr (Or.inr (Or.inr ⟨HG.out, HF.out, k1, rfl⟩)))
        clear k1
        go_wp2
        go_ret
        exact ⟨⟨0, PE.out, rfl⟩, BB.out.trans (C2.out.mono BB.out.size)⟩
      · have kb : (o.kind != 1) = true := by simp [k1]
        have PE := hide' (show plaE o W H xs 1 from Or.inr (Or.inr (Or.inl ⟨HG.out, HF.out, k1, rfl⟩)))
        clear k1
        go_wp2
        go_ret
        exact ⟨⟨1, PE.out, rfl⟩, BB.out.trans (C2.out.mono BB.out.size)⟩
    · have PE := hide' (show plaE o W H xs f from Or.inr (Or.inl ⟨HG.out, by rw [HF.out]; exact f0, HF.out.symm⟩))
      have fb : ((f : Int) == 0) = false := by simp; omega
      clear f0
      go_wp2
      go_ret
      exact ⟨⟨f, PE.out, rfl⟩, BB.out.trans (C2.out.mono BB.out.size)⟩
  · have PE := hide' (show plaE o W H xs 1 from Or.inl ⟨hG, rfl⟩)
    clear hG
    go_wp2
    go_ret
    exact ⟨⟨1, PE.out, rfl⟩, BB.out.trans (C1.out.mono BB.out.size)⟩
end Go.Proofs.YtfdbgkdbmlmigaaDoor

namespace Go.Proofs.YtfdbgkdbmlmigaaDoor
open Go.RowKit
set_option linter.unusedVariables false
theorem errSameC_any (s : Nat) (w : World) (hg : Handle w) : Calls Tryd.prog 7 #[errOf s, .int .i64 (s : Int)] w fun e w' => e = .returned (.bool true) ∧ Below w.heap.size w w' := by
  by_cases h : s = 0
  · subst h
    refine (error_nil 0 w).mono ?_
    rintro e w' ⟨rfl, rfl⟩
    exact ⟨rfl, Below.refl _ _⟩
  · have := error_errno (s : Int) (s : Int) w hg
    unfold errOf
    rw [if_neg h]
    refine this.mono ?_
    rintro e w' ⟨rfl, b⟩
    exact ⟨by simp, b⟩
end Go.Proofs.YtfdbgkdbmlmigaaDoor

namespace Go.Proofs.YtfdbgkdbmlmigaaDoor
open Go.RowKit
set_option linter.unusedVariables false
theorem heap_atP (w : World) (o : Obj) (k : Nat) (h : k = w.heap.size) : (w.alloc o).heap[k]? = some o := by subst h; exact heap_alloc_new w o
theorem three_rowP {w : World} {g : Nat} {x0 x1 x2 : Value} {t : TypeId} (h : w.heap[g]? = some (.cells #[x0, x1, x2] t (0, 0))) (a b c : Value) :
    (((w.setCell ⟨g, 0, none⟩ a).setCell ⟨g, 1, none⟩ b).setCell ⟨g, 2, none⟩ c).heap[g]? = some (.cells #[a, b, c] t (0, 0)) := by
  have h0 : (w.setCell ⟨g, 0, none⟩ a).heap[g]? = some (.cells #[a, x1, x2] t (0, 0)) := by rw [heap_setCell_same _ _ _ _ _ _ h]; rfl
  have h1 : ((w.setCell ⟨g, 0, none⟩ a).setCell ⟨g, 1, none⟩ b).heap[g]? = some (.cells #[a, b, x2] t (0, 0)) := by rw [heap_setCell_same _ _ _ _ _ _ h0]; rfl
  rw [heap_setCell_same _ _ _ _ _ _ h1]; rfl
/-- What the two Parents answer. -/
def RefP (qW qH : Int) (has : Bool) (ys : List Int) (V : World) (e : Ending) (w' : World) : Prop := ∃ v, e = .returned (.tuple #[.agg #[.int .i64 qW, .int .i64 qH, v], .bool has]) ∧ Tab w' v ys ∧ Fresh V v ∧ Below V.heap.size V w'
def PlaP (qW qH : Int) (k : Nat) (ys : List Int) (V : World) (e : Ending) (w' : World) : Prop := ∃ v, e = .returned (.tuple #[.agg #[.int .i64 qW, .int .i64 qH, v], errOf k]) ∧ Tab w' v ys ∧ Below V.heap.size V w'
end Go.Proofs.YtfdbgkdbmlmigaaDoor

