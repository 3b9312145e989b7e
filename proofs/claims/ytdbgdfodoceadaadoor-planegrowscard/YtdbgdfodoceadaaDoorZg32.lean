/-
  What the last text of this claim leans on, part 32: LawGr1, LawGr2.
-/
import Derived.Test.YtdbgdfodoceadaaDoorZg3
import Derived.Test.YtdbgdfodoceadaaDoorZg2
import Derived.Test.YtdbgdfodoceadaaDoorZg31
import Derived.Test.YtdbgdfodoceadaaDoorZg29
namespace Go.Proofs.YtdbgdfodoceadaaDoor
open Go.RowKit
set_option linter.unusedVariables false
set_option maxRecDepth 100000 in
set_option maxHeartbeats 6400000 in
theorem law_grows_bad (o : Out) (ta : Option Addr) (tn tc : Nat) (W H : Int) (xs : List Int) (a : Option Addr) (n c : Nat) (N : Int) (f : Nat) (w : World) (hR : ArgR w o ta tn tc) (hP : ArgP w xs a n c) (hg : Handle w) (hf : plaE o W H xs f) (f0 : f ≠ 0) :
    Calls Tryd.prog 3 #[.agg #[.int .i64 o.kind, .int .i64 o.born, .int .i64 o.stay, .int .i64 o.states, .int .i64 o.radius, .slice ta tn tc, .string o.turns], .agg #[.int .i64 W, .int .i64 H, .slice a n c], .int .i64 N] w fun e w' => e = .returned (.bool true) ∧ Below w.heap.size w w' := by
  obtain ⟨w1, hw1⟩ : ∃ w1, (w.alloc (.cells #[.int .i64 o.kind, .int .i64 o.born, .int .i64 o.stay, .int .i64 o.states, .int .i64 o.radius, .slice ta tn tc, .string o.turns] 24)).alloc (.cells #[.int .i64 W, .int .i64 H, .slice a n c] 26) = w1 := ⟨_, rfl⟩
  have BB := hide' (show Below w.heap.size w w1 by rw [← hw1]; exact ((Below.refl _ _).alloc (Nat.le_refl _) _).alloc (by simp) _)
  have g0 : w1.heap[w.heap.size]? = some (.cells #[.int .i64 o.kind, .int .i64 o.born, .int .i64 o.stay, .int .i64 o.states, .int .i64 o.radius, .slice ta tn tc, .string o.turns] 24 (0, 0)) := by rw [← hw1, Below.heap_alloc _ _ _ (by simp; try omega)]; exact heap_atX _ _ _ (by simp)
  have g1 : w1.heap[w.heap.size + 1]? = some (.cells #[.int .i64 W, .int .i64 H, .slice a n c] 26 (0, 0)) := by rw [← hw1]; exact heap_atX _ _ _ (by simp)
  have AR := hide' (fun (V : World) (h : Below w1.heap.size w1 V) => hR.below (BB.out.trans (h.mono BB.out.size)))
  have AP := hide' (fun (V : World) (h : Below w1.heap.size w1 V) => hP.below (BB.out.trans (h.mono BB.out.size)))
  have HG := hide' (fun (V : World) (h : Below w1.heap.size w1 V) => hg.below (BB.out.trans (h.mono BB.out.size)))
  have SV := hide' (fun (V : World) (h : Below w1.heap.size w1 V) => show V.cell? ⟨w.heap.size, 0, none⟩ = some (.int .i64 o.kind) ∧ V.cell? ⟨w.heap.size, 1, none⟩ = some (.int .i64 o.born) ∧ V.cell? ⟨w.heap.size, 2, none⟩ = some (.int .i64 o.stay) ∧ V.cell? ⟨w.heap.size, 3, none⟩ = some (.int .i64 o.states) ∧ V.cell? ⟨w.heap.size, 4, none⟩ = some (.int .i64 o.radius) ∧ V.cell? ⟨w.heap.size, 5, none⟩ = some (.slice ta tn tc) ∧ V.cell? ⟨w.heap.size, 6, none⟩ = some (.string o.turns) ∧ V.cell? ⟨w.heap.size + 1, 0, none⟩ = some (.int .i64 W) ∧ V.cell? ⟨w.heap.size + 1, 1, none⟩ = some (.int .i64 H) ∧ V.cell? ⟨w.heap.size + 1, 2, none⟩ = some (.slice a n c) from by
    have e0 := (h.block _ (lt_of_block g0)).trans g0
    have e1 := (h.block _ (lt_of_block g1)).trans g1
    exact ⟨cell_of_row V _ 0 _ _ _ e0, cell_of_row V _ 1 _ _ _ e0, cell_of_row V _ 2 _ _ _ e0, cell_of_row V _ 3 _ _ _ e0, cell_of_row V _ 4 _ _ _ e0, cell_of_row V _ 5 _ _ _ e0, cell_of_row V _ 6 _ _ _ e0, cell_of_row V _ 0 _ _ _ e1, cell_of_row V _ 1 _ _ _ e1, cell_of_row V _ 2 _ _ _ e1⟩)
  have HF := hide' hf
  have F0 := hide' f0
  have ER := hide' (show errOf f = .iface 77 (.int .i64 (f : Int)) by unfold errOf; rw [if_neg f0])
  have k0 : ((f : Int) == 0) = false := by simp; omega
  have GB := hide' (show ∀ g, grE o W H xs g → (g ≠ 0 ∧ f = g) ∨ (g = 0 ∧ f = 1 ∧ (N < 0 ∨ 100000 < N)) from fun g h => by
    rcases h with ⟨g', h1, h2, h3⟩ | ⟨h1, _, _⟩ | ⟨h1, _, _⟩
    · exact Or.inl ⟨by omega, by rw [h3]; exact plaE_only hf h1⟩
    · exact absurd (plaE_only hf h1) f0
    · exact absurd (plaE_only hf h1) f0)
  have C0 := hide' (Below.refl w1.heap.size w1)
  obtain ⟨x0, x1, x2, x3, x4, x5, x6, y0, y1, y2⟩ := SV.out w1 C0.out
  clear hR hP hg hf f0 g0 g1
  go_enter Tryd.func3, Tryd.ntmps3
  go_wp2_with fail
  refine (refPlaneFault_any o ta tn tc W H xs a n c _ (AR.out _ C0.out) (AP.out _ C0.out)).mono ?_
  rintro e w2 ⟨⟨f', hf', rfl⟩, b⟩
  have ff : f' = f := plaE_only hf' HF.out
  clear hf'
  subst ff
  have C1 := hide' (C0.out.trans (b.mono C0.out.size))
  clear hw1 b x0 x1 x2 x3 x4 x5 x6 y0 y1 y2 C0
  obtain ⟨x0, x1, x2, x3, x4, x5, x6, y0, y1, y2⟩ := SV.out _ C1.out
  go_wp2_with fail
  refine (torus_bad o ta tn tc W H xs a n c f' _ (AR.out _ C1.out) (AP.out _ C1.out) HF.out F0.out).mono ?_
  unfold TorBad
  rw [ER.out]
  rintro e w3 ⟨rfl, b⟩
  have C2 := hide' (C1.out.trans (b.mono C1.out.size))
  clear b x0 x1 x2 x3 x4 x5 x6 y0 y1 y2 C1
  have Q1 := hide' (TB.new w3 (.int .i64 0) (.int .i64 0) (.slice none 0 0) 26)
  have C3 := hide' (C2.out.alloc C2.out.size (.cells #[.int .i64 0, .int .i64 0, .slice none 0 0] 26))
  go_wp2_with fail
  refine (err_some_true (f' : Int) _ (HG.out _ C3.out)).mono ?_
  rintro e w4 ⟨rfl, b⟩
  have C4 := hide' (C3.out.trans (b.mono C3.out.size))
  have Q2 := hide' (Q1.out.next b)
  have s4 : w3.heap.size < w4.heap.size := by have := b.size; simp at this; omega
  clear b C3 Q1 C2
  have Q3 := hide' (Q2.out.block (Below.heap_alloc w4 (.cells #[.int .i64 0, .int .i64 0, .slice none 0 0] 26) _ s4))
  have R3 := hide' (TB.new w4 (.int .i64 0) (.int .i64 0) (.slice none 0 0) 26)
  have C5 := hide' (C4.out.alloc C4.out.size (.cells #[.int .i64 0, .int .i64 0, .slice none 0 0] 26))
  obtain ⟨q0, q1, q2, -⟩ := Q3.out
  obtain ⟨r0, r1, r2, -⟩ := R3.out
  go_wp2_with fail
  refine (Alike_same 0 0 (.slice none 0 0) (.slice none 0 0) [] _ (tab_nil _) (tab_nil _) (by unfold maxLen; simp)).mono ?_
  rintro e w5 ⟨rfl, b⟩
  have C6 := hide' (C5.out.trans (b.mono C5.out.size))
  clear b C5 C4 Q2 Q3 R3 q0 q1 q2 r0 r1 r2 s4
  have C7 := hide' (C6.out.alloc C6.out.size (.cells #[.int .i64 0, .int .i64 0, .slice none 0 0, .int .i64 0, .int .i64 0] 36))
  obtain ⟨x0, x1, x2, x3, x4, x5, x6, y0, y1, y2⟩ := SV.out _ C7.out
  go_wp2_with fail
  refine (grow_bad o ta tn tc W H xs a n c N f' _ (AR.out _ C7.out) (AP.out _ C7.out) GB.out).mono ?_
  unfold GrowBad
  rw [ER.out]
  rintro e w6 ⟨rfl, b⟩
  have C8 := hide' (C7.out.trans (b.mono C7.out.size))
  have gn : (w5.alloc (.cells #[.int .i64 0, .int .i64 0, .slice none 0 0, .int .i64 0, .int .i64 0] 36)).heap[w5.heap.size]? = some (.cells #[.int .i64 0, .int .i64 0, .slice none 0 0, .int .i64 0, .int .i64 0] 36 (0, 0)) := heap_atX _ _ _ (by simp)
  have GN := hide' ((b.block _ (lt_of_block gn)).trans gn)
  clear gn b x0 x1 x2 x3 x4 x5 x6 y0 y1 y2 C7
  have Q1 := hide' (TB.new w6 (.int .i64 0) (.int .i64 0) (.slice none 0 0) 26)
  have C9 := hide' (C8.out.alloc C8.out.size (.cells #[.int .i64 0, .int .i64 0, .slice none 0 0] 26))
  have GM := hide' ((Below.heap_alloc w6 (.cells #[.int .i64 0, .int .i64 0, .slice none 0 0] 26) _ (lt_of_block GN.out)).trans GN.out)
  go_wp2_with fail
  refine (err_some_true (f' : Int) _ (HG.out _ C9.out)).mono ?_
  rintro e w7 ⟨rfl, b⟩
  have D1 := hide' (C9.out.trans (b.mono C9.out.size))
  have GK := hide' ((b.block _ (lt_of_block GM.out)).trans GM.out)
  obtain ⟨q0, q1, q2, -⟩ := Q1.out.next b
  clear b C9 Q1 C8 GN GM
  have r0 := cell_of_row w7 _ 0 _ _ _ GK.out
  have r1 := cell_of_row w7 _ 1 _ _ _ GK.out
  have r2 := cell_of_row w7 _ 2 _ _ _ GK.out
  simp at r0 r1 r2
  go_wp2_with fail
  refine (Alike_same 0 0 (.slice none 0 0) (.slice none 0 0) [] _ (tab_nil _) (tab_nil _) (by unfold maxLen; simp)).mono ?_
  rintro e w8 ⟨rfl, b⟩
  have D2 := hide' (D1.out.trans (b.mono D1.out.size))
  have GL := hide' ((b.block _ (lt_of_block GK.out)).trans GK.out)
  clear b D1 GK q0 q1 q2 r0 r1 r2
  have r3 := cell_of_row w8 _ 3 _ _ _ GL.out
  have r4 := cell_of_row w8 _ 4 _ _ _ GL.out
  simp at r3 r4
  go_wp2
  go_ret
  exact ⟨rfl, BB.out.trans (D2.out.mono BB.out.size)⟩
end Go.Proofs.YtdbgdfodoceadaaDoor

namespace Go.Proofs.YtdbgdfodoceadaaDoor
open Go.RowKit
set_option linter.unusedVariables false
theorem err_any (k : Nat) (w : World) (hg : Handle w) : Calls Tryd.prog 12 #[errOf k, .int .i64 (k : Int)] w fun e w' => e = .returned (.bool true) ∧ Below w.heap.size w w' := by
  by_cases h : k = 0
  · subst h; exact err_nil_true w
  · rw [show errOf k = .iface 77 (.int .i64 (k : Int)) by unfold errOf; rw [if_neg h]]; exact err_some_true _ w hg
theorem five_row {w : World} {g : Nat} {x0 x1 x2 x3 x4 : Value} {t : TypeId} (h : w.heap[g]? = some (.cells #[x0, x1, x2, x3, x4] t (0, 0))) (a b c d e : Value) :
    (((((w.setCell ⟨g, 0, none⟩ a).setCell ⟨g, 1, none⟩ b).setCell ⟨g, 2, none⟩ c).setCell ⟨g, 3, none⟩ d).setCell ⟨g, 4, none⟩ e).heap[g]? = some (.cells #[a, b, c, d, e] t (0, 0)) := by
  have h0 : (w.setCell ⟨g, 0, none⟩ a).heap[g]? = some (.cells #[a, x1, x2, x3, x4] t (0, 0)) := by rw [heap_setCell_same _ _ _ _ _ _ h]; rfl
  have h1 : ((w.setCell ⟨g, 0, none⟩ a).setCell ⟨g, 1, none⟩ b).heap[g]? = some (.cells #[a, b, x2, x3, x4] t (0, 0)) := by rw [heap_setCell_same _ _ _ _ _ _ h0]; rfl
  have h2 : (((w.setCell ⟨g, 0, none⟩ a).setCell ⟨g, 1, none⟩ b).setCell ⟨g, 2, none⟩ c).heap[g]? = some (.cells #[a, b, c, x3, x4] t (0, 0)) := by rw [heap_setCell_same _ _ _ _ _ _ h1]; rfl
  have h3 : ((((w.setCell ⟨g, 0, none⟩ a).setCell ⟨g, 1, none⟩ b).setCell ⟨g, 2, none⟩ c).setCell ⟨g, 3, none⟩ d).heap[g]? = some (.cells #[a, b, c, d, x4] t (0, 0)) := by rw [heap_setCell_same _ _ _ _ _ _ h2]; rfl
  rw [heap_setCell_same _ _ _ _ _ _ h3]; rfl
theorem five_other {w : World} {g k : Nat} (hk : k ≠ g) (x0 x1 x2 x3 x4 : Value) : (((((w.setCell ⟨g, 0, none⟩ x0).setCell ⟨g, 1, none⟩ x1).setCell ⟨g, 2, none⟩ x2).setCell ⟨g, 3, none⟩ x3).setCell ⟨g, 4, none⟩ x4).heap[k]? = w.heap[k]? := by
  rw [Below.heap_setCell _ _ _ _ (by simpa using hk), Below.heap_setCell _ _ _ _ (by simpa using hk), Below.heap_setCell _ _ _ _ (by simpa using hk), Below.heap_setCell _ _ _ _ (by simpa using hk), Below.heap_setCell _ _ _ _ (by simpa using hk)]
theorem five_bel {B : Nat} {a w : World} (h : Below B a w) {g : Nat} (hg : B ≤ g) (x0 x1 x2 x3 x4 : Value) : Below B a (((((w.setCell ⟨g, 0, none⟩ x0).setCell ⟨g, 1, none⟩ x1).setCell ⟨g, 2, none⟩ x2).setCell ⟨g, 3, none⟩ x3).setCell ⟨g, 4, none⟩ x4) :=
  ((((h.setCell hg _).setCell hg _).setCell hg _).setCell hg _).setCell hg _
/-- What the two Grows answer alike. -/
def RefG (gW gH gr gd : Int) (k : Nat) (ys : List Int) (V : World) (e : Ending) (w' : World) : Prop := ∃ v, e = .returned (.tuple #[.agg #[.int .i64 gW, .int .i64 gH, v, .int .i64 gr, .int .i64 gd], .int .i64 (k : Int)]) ∧ Tab w' v ys ∧ Fresh V v ∧ Below V.heap.size V w'
def PlaG (gW gH gr gd : Int) (k : Nat) (ys : List Int) (V : World) (e : Ending) (w' : World) : Prop := ∃ v, e = .returned (.tuple #[.agg #[.int .i64 gW, .int .i64 gH, v], .int .i64 gr, .int .i64 gd, errOf k]) ∧ Tab w' v ys ∧ Below V.heap.size V w'
set_option maxRecDepth 100000 in
set_option maxHeartbeats 6400000 in
theorem law_grows_good (o : Out) (ta : Option Addr) (tn tc : Nat) (W H : Nat) (xs : List Int) (a : Option Addr) (n c : Nat) (N : Int) (born stay : Nat) (w : World) (hR : ArgR w o ta tn tc) (hP : ArgP w xs a n c) (hg : Handle w) (hf : plaE o (W : Int) (H : Int) xs 0) (hb : o.born = (born : Int)) (hs : o.stay = (stay : Int)) (b5 : born ≤ 511) (s5 : stay ≤ 511) (hn : xs.length = W * H) (hx : ∀ k, 0 ≤ xs.getD k 0 ∧ xs.getD k 0 ≤ 1) (hW : W ≤ 100) (hH : H ≤ 100)
    (gW gH gr gd : Int) (k : Nat) (ys : List Int) (hy : ys.length ≤ maxLen)
    (rg : ∀ V, Below w.heap.size w V → Calls Tryd.prog 15 #[.agg #[.int .i64 o.kind, .int .i64 o.born, .int .i64 o.stay, .int .i64 o.states, .int .i64 o.radius, .slice ta tn tc, .string o.turns], .agg #[.int .i64 (W : Int), .int .i64 (H : Int), .slice a n c], .int .i64 N] V (RefG gW gH gr gd k ys V))
    (pg : ∀ V, Below w.heap.size w V → Calls Tryd.prog 16 #[.agg #[.int .i64 o.kind, .int .i64 o.born, .int .i64 o.stay, .int .i64 o.states, .int .i64 o.radius, .slice ta tn tc, .string o.turns], .agg #[.int .i64 (W : Int), .int .i64 (H : Int), .slice a n c], .int .i64 N] V (PlaG gW gH gr gd k ys V)) :
    Calls Tryd.prog 3 #[.agg #[.int .i64 o.kind, .int .i64 o.born, .int .i64 o.stay, .int .i64 o.states, .int .i64 o.radius, .slice ta tn tc, .string o.turns], .agg #[.int .i64 (W : Int), .int .i64 (H : Int), .slice a n c], .int .i64 N] w fun e w' => e = .returned (.bool true) ∧ Below w.heap.size w w' := by
  obtain ⟨w1, hw1⟩ : ∃ w1, (w.alloc (.cells #[.int .i64 o.kind, .int .i64 o.born, .int .i64 o.stay, .int .i64 o.states, .int .i64 o.radius, .slice ta tn tc, .string o.turns] 24)).alloc (.cells #[.int .i64 (W : Int), .int .i64 (H : Int), .slice a n c] 26) = w1 := ⟨_, rfl⟩
  have BB := hide' (show Below w.heap.size w w1 by rw [← hw1]; exact ((Below.refl _ _).alloc (Nat.le_refl _) _).alloc (by simp) _)
  have g0 : w1.heap[w.heap.size]? = some (.cells #[.int .i64 o.kind, .int .i64 o.born, .int .i64 o.stay, .int .i64 o.states, .int .i64 o.radius, .slice ta tn tc, .string o.turns] 24 (0, 0)) := by rw [← hw1, Below.heap_alloc _ _ _ (by simp; try omega)]; exact heap_atX _ _ _ (by simp)
  have g1 : w1.heap[w.heap.size + 1]? = some (.cells #[.int .i64 (W : Int), .int .i64 (H : Int), .slice a n c] 26 (0, 0)) := by rw [← hw1]; exact heap_atX _ _ _ (by simp)
  have HG := hide' (fun (V : World) (h : Below w1.heap.size w1 V) => hg.below (BB.out.trans (h.mono BB.out.size)))
  have FC := hide' (fun (V : World) (h : Below w1.heap.size w1 V) => show Calls Tryd.prog 10 #[.agg #[.int .i64 o.kind, .int .i64 o.born, .int .i64 o.stay, .int .i64 o.states, .int .i64 o.radius, .slice ta tn tc, .string o.turns], .agg #[.int .i64 (W : Int), .int .i64 (H : Int), .slice a n c]] V (fun e w' => e = .returned (.int .i64 0) ∧ Below V.heap.size V w') from by
    refine (refPlaneFault_any o ta tn tc (W : Int) (H : Int) xs a n c V (hR.below (BB.out.trans (h.mono BB.out.size))) (hP.below (BB.out.trans (h.mono BB.out.size)))).mono ?_
    rintro e w' ⟨⟨f', hf', rfl⟩, b⟩
    rw [plaE_only hf' hf]
    exact ⟨rfl, b⟩)
  have TG := hide' (fun (V : World) (h : Below w1.heap.size w1 V) => torus_good o ta tn tc W H xs a n c born stay V (hR.below (BB.out.trans (h.mono BB.out.size))) (hP.below (BB.out.trans (h.mono BB.out.size))) hf hb hs b5 s5 hn hx hW hH)
  have RT := hide' (fun (V : World) (h : Below w1.heap.size w1 V) => refTorus_any o.kind o.states o.radius born stay ta tn tc o.turns W H xs a n c V b5 s5 (hP.below (BB.out.trans (h.mono BB.out.size))) (hP.len.trans hn) hx hW hH)
  rw [← hb, ← hs] at RT
  have RG := hide' (fun (V : World) (h : Below w1.heap.size w1 V) => rg V (BB.out.trans (h.mono BB.out.size)))
  have PGC := hide' (fun (V : World) (h : Below w1.heap.size w1 V) => pg V (BB.out.trans (h.mono BB.out.size)))
  have LT := hide' (show (torL born stay W H xs).length ≤ maxLen by
    have : W * H ≤ 100 * 100 := Nat.mul_le_mul hW hH
    simp [torL, maxLen]; omega)
  have LY := hide' hy
  have SV := hide' (fun (V : World) (h : Below w1.heap.size w1 V) => show V.cell? ⟨w.heap.size, 0, none⟩ = some (.int .i64 o.kind) ∧ V.cell? ⟨w.heap.size, 1, none⟩ = some (.int .i64 o.born) ∧ V.cell? ⟨w.heap.size, 2, none⟩ = some (.int .i64 o.stay) ∧ V.cell? ⟨w.heap.size, 3, none⟩ = some (.int .i64 o.states) ∧ V.cell? ⟨w.heap.size, 4, none⟩ = some (.int .i64 o.radius) ∧ V.cell? ⟨w.heap.size, 5, none⟩ = some (.slice ta tn tc) ∧ V.cell? ⟨w.heap.size, 6, none⟩ = some (.string o.turns) ∧ V.cell? ⟨w.heap.size + 1, 0, none⟩ = some (.int .i64 (W : Int)) ∧ V.cell? ⟨w.heap.size + 1, 1, none⟩ = some (.int .i64 (H : Int)) ∧ V.cell? ⟨w.heap.size + 1, 2, none⟩ = some (.slice a n c) from by
    have e0 := (h.block _ (lt_of_block g0)).trans g0
    have e1 := (h.block _ (lt_of_block g1)).trans g1
    exact ⟨cell_of_row V _ 0 _ _ _ e0, cell_of_row V _ 1 _ _ _ e0, cell_of_row V _ 2 _ _ _ e0, cell_of_row V _ 3 _ _ _ e0, cell_of_row V _ 4 _ _ _ e0, cell_of_row V _ 5 _ _ _ e0, cell_of_row V _ 6 _ _ _ e0, cell_of_row V _ 0 _ _ _ e1, cell_of_row V _ 1 _ _ _ e1, cell_of_row V _ 2 _ _ _ e1⟩)
  have C0 := hide' (Below.refl w1.heap.size w1)
  have l1 := lt_of_block g1
  obtain ⟨x0, x1, x2, x3, x4, x5, x6, y0, y1, y2⟩ := SV.out w1 C0.out
  clear hR hP hg hf g0 g1 hb hs b5 s5 hn hx rg pg hy
  go_enter Tryd.func3, Tryd.ntmps3
  go_wp2_with fail
  refine (FC.out w1 C0.out).mono ?_
  rintro e w2 ⟨rfl, b⟩
  have C1 := hide' (C0.out.trans (b.mono C0.out.size))
  clear hw1 b x0 x1 x2 x3 x4 x5 x6 y0 y1 y2 C0
  obtain ⟨x0, x1, x2, x3, x4, x5, x6, y0, y1, y2⟩ := SV.out _ C1.out
  go_wp2_with fail
  refine (TG.out w2 C1.out).mono ?_
  rintro e w3 ⟨⟨q, rfl, tq⟩, b⟩
  have C2 := hide' (C1.out.trans (b.mono C1.out.size))
  clear b x0 x1 x2 x3 x4 x5 x6 y0 y1 y2 C1
  obtain ⟨L, hL⟩ : ∃ L, W * H = L := ⟨_, rfl⟩
  rw [hL] at tq ⊢
  clear hL
  have Q1 := hide' (TB.new w3 (.int .i64 (W : Int)) (.int .i64 (H : Int)) (.slice (some ⟨q, 0, none⟩) L L) 26)
  have C3 := hide' (C2.out.alloc C2.out.size (.cells #[.int .i64 (W : Int), .int .i64 (H : Int), .slice (some ⟨q, 0, none⟩) L L] 26))
  have T1 := hide' (tq.alloc' (.cells #[.int .i64 (W : Int), .int .i64 (H : Int), .slice (some ⟨q, 0, none⟩) L L] 26))
  have sz3 := C2.out.size
  clear tq
  go_wp2_with fail
  refine (err_nil_true _).mono ?_
  rintro e w4 ⟨rfl, b⟩
  have C4 := hide' (C3.out.trans (b.mono C3.out.size))
  have Q2 := hide' (Q1.out.next b)
  have T2 := hide' (tab_below T1.out b)
  have s4 : w3.heap.size < w4.heap.size := by have := b.size; simp at this; omega
  clear b C3 Q1 C2 T1
  have Q3 := hide' (Q2.out.alloc (.cells #[.int .i64 0, .int .i64 0, .slice none 0 0] 26))
  have R3 := hide' (TB.new w4 (.int .i64 0) (.int .i64 0) (.slice none 0 0) 26)
  have C5 := hide' (C4.out.alloc C4.out.size (.cells #[.int .i64 0, .int .i64 0, .slice none 0 0] 26))
  have T3 := hide' (T2.out.alloc' (.cells #[.int .i64 0, .int .i64 0, .slice none 0 0] 26))
  have F3 := hide' (fun g k cap (h : Value.slice (some ⟨q, 0, none⟩) L L = .slice (some ⟨g, 0, none⟩) k cap) => tab_lt T2.out h)
  clear Q2 C4 T2
  obtain ⟨x0, x1, x2, x3, x4, x5, x6, y0, y1, y2⟩ := SV.out _ C5.out
  go_wp2_with fail
  refine (RT.out _ C5.out).mono ?_
  rintro e w5 ⟨vb, rfl, tb, fb, b⟩
  obtain ⟨ba, bc, rfl, -⟩ := tb.parts
  obtain ⟨bl, hbl⟩ : ∃ bl, (torL born stay W H xs).length = bl := ⟨_, rfl⟩
  rw [hbl] at tb fb ⊢
  clear hbl
  have C6 := hide' (C5.out.trans (b.mono C5.out.size))
  have T5 := hide' (tab_below T3.out b)
  have U5 := hide' tb
  have FB := hide' (fun g k cap (h : Value.slice ba bl bc = .slice (some ⟨g, 0, none⟩) k cap) => (show g ≠ w4.heap.size by have := fb g k cap h; simp at this; omega))
  have lb : w4.heap.size < w5.heap.size := by have := b.size; simp at this; omega
  obtain ⟨q0, q1, q2, -⟩ := Q3.out.next b
  obtain ⟨r0, r1, r2, rf⟩ := R3.out.next b
  have f0 := rf 0
  have f1 := rf 1
  have f2 := rf 2
  have ne1 : ¬ w3.heap.size = w4.heap.size := by omega
  have ne2 : ¬ w4.heap.size = w3.heap.size := by omega
  clear b x0 x1 x2 x3 x4 x5 x6 y0 y1 y2 C5 Q3 R3 T3 tb fb rf
  go_wp2_with fail
  refine (Alike_same (W : Int) (H : Int) (.slice (some ⟨q, 0, none⟩) L L) (.slice ba bl bc) (torL born stay W H xs) _ (tab_stored T5.out w4.heap.size (.int .i64 (W : Int)) (.int .i64 (H : Int)) (.slice ba bl bc) lb (fun g k cap h => by have := F3.out g k cap h; omega)) (tab_stored U5.out w4.heap.size (.int .i64 (W : Int)) (.int .i64 (H : Int)) (.slice ba bl bc) lb FB.out) LT.out).mono ?_
  rintro e w6 ⟨rfl, b⟩
  have C7 := hide' ((below_stored C6.out w4.heap.size (by omega) (.int .i64 (W : Int)) (.int .i64 (H : Int)) (.slice ba bl bc)).trans (b.mono (by rw [stored_size]; exact C6.out.size)))
  clear b C6 T5 U5 FB F3 lb q0 q1 q2 r0 r1 r2 f0 f1 f2 ne1 ne2 s4 sz3
  have C8 := hide' (C7.out.alloc C7.out.size (.cells #[.int .i64 0, .int .i64 0, .slice none 0 0, .int .i64 0, .int .i64 0] 36))
  obtain ⟨x0, x1, x2, x3, x4, x5, x6, y0, y1, y2⟩ := SV.out _ C8.out
  go_wp2_with fail
  refine (RG.out _ C8.out).mono ?_
  rintro e w7 ⟨vg, rfl, tg, fg, b⟩
  obtain ⟨va, ca, rfl, -⟩ := tg.parts
  obtain ⟨yl, hyl⟩ : ∃ yl, ys.length = yl := ⟨_, rfl⟩
  rw [hyl] at tg fg ⊢
  have s6 := C7.out.size
  have C9 := hide' (five_bel (C8.out.trans (b.mono C8.out.size)) (g := w6.heap.size) s6 (.int .i64 gW) (.int .i64 gH) (.slice va yl ca) (.int .i64 gr) (.int .i64 gd))
  have gn : (w6.alloc (.cells #[.int .i64 0, .int .i64 0, .slice none 0 0, .int .i64 0, .int .i64 0] 36)).heap[w6.heap.size]? = some (.cells #[.int .i64 0, .int .i64 0, .slice none 0 0, .int .i64 0, .int .i64 0] 36 (0, 0)) := heap_atX _ _ _ (by simp)
  have gm := (b.block _ (lt_of_block gn)).trans gn
  have GN := hide' (five_row gm (.int .i64 gW) (.int .i64 gH) (.slice va yl ca) (.int .i64 gr) (.int .i64 gd))
  have T7 := hide' (tab_keep tg (fun g k cap h => five_other (w := w7) (g := w6.heap.size) (show g ≠ w6.heap.size by have := fg g k cap h; simp at this; omega) (.int .i64 gW) (.int .i64 gH) (.slice va yl ca) (.int .i64 gr) (.int .i64 gd)))
  have f0 := frozen_of_row w7 _ 0 _ _ gm
  have f1 := frozen_of_row w7 _ 1 _ _ gm
  have f2 := frozen_of_row w7 _ 2 _ _ gm
  have f3 := frozen_of_row w7 _ 3 _ _ gm
  have f4 := frozen_of_row w7 _ 4 _ _ gm
  have r0 := cell_of_row w7 _ 0 _ _ _ gm
  have r1 := cell_of_row w7 _ 1 _ _ _ gm
  have r2 := cell_of_row w7 _ 2 _ _ _ gm
  have r3 := cell_of_row w7 _ 3 _ _ _ gm
  have r4 := cell_of_row w7 _ 4 _ _ _ gm
  simp at r0 r1 r2 r3 r4
  have K7 := hide' (C8.out.trans (b.mono C8.out.size))
  clear b x0 x1 x2 x3 x4 x5 x6 y0 y1 y2 tg fg gn gm C8
  obtain ⟨x0, x1, x2, x3, x4, x5, x6, y0, y1, y2⟩ := SV.out _ K7.out
  have ne1 : ¬ w.heap.size = w6.heap.size := by omega
  have ne2 : ¬ w6.heap.size = w.heap.size := by omega
  have ne3 : ¬ w.heap.size + 1 = w6.heap.size := by omega
  have ne4 : ¬ w6.heap.size = w.heap.size + 1 := by omega
  go_wp2_with fail
  obtain ⟨X, hX⟩ : ∃ X, ((((w7.setCell ⟨w6.heap.size, 0, none⟩ (.int .i64 gW)).setCell ⟨w6.heap.size, 1, none⟩ (.int .i64 gH)).setCell ⟨w6.heap.size, 2, none⟩ (.slice va yl ca)).setCell ⟨w6.heap.size, 3, none⟩ (.int .i64 gr)).setCell ⟨w6.heap.size, 4, none⟩ (.int .i64 gd) = X := ⟨_, rfl⟩
  rw [hX] at C9 GN T7 ⊢
  refine (PGC.out _ C9.out).mono ?_
  rintro e w8 ⟨vc, rfl, tc', b⟩
  obtain ⟨vv, vd, rfl, -⟩ := tc'.parts
  rw [hyl] at tc' ⊢
  have D0 := hide' (C9.out.trans (b.mono C9.out.size))
  have GM := hide' ((b.block _ (lt_of_block GN.out)).trans GN.out)
  have T8 := hide' (tab_below T7.out b)
  have U8 := hide' tc'
  clear hX b x0 x1 x2 x3 x4 x5 x6 y0 y1 y2 C9 GN T7 tc' f0 f1 f2 f3 f4 r0 r1 r2 r3 r4 K7 ne1 ne2 ne3 ne4
  have Q1 := hide' (TB.new w8 (.int .i64 gW) (.int .i64 gH) (.slice vv yl vd) 26)
  have D1 := hide' (D0.out.alloc D0.out.size (.cells #[.int .i64 gW, .int .i64 gH, .slice vv yl vd] 26))
  have GK := hide' ((Below.heap_alloc w8 (.cells #[.int .i64 gW, .int .i64 gH, .slice vv yl vd] 26) _ (lt_of_block GM.out)).trans GM.out)
  have T9 := hide' (T8.out.alloc' (.cells #[.int .i64 gW, .int .i64 gH, .slice vv yl vd] 26))
  have U9 := hide' (U8.out.alloc' (.cells #[.int .i64 gW, .int .i64 gH, .slice vv yl vd] 26))
  go_wp2_with fail
  refine (err_any k _ (HG.out _ D1.out)).mono ?_
  rintro e w9 ⟨rfl, b⟩
  have D2 := hide' (D1.out.trans (b.mono D1.out.size))
  have GL := hide' ((b.block _ (lt_of_block GK.out)).trans GK.out)
  have TA := hide' (tab_below T9.out b)
  have UA := hide' (tab_below U9.out b)
  obtain ⟨q0, q1, q2, -⟩ := Q1.out.next b
  clear b D1 Q1 D0 GM GK T8 U8 T9 U9
  have r0 := cell_of_row w9 _ 0 _ _ _ GL.out
  have r1 := cell_of_row w9 _ 1 _ _ _ GL.out
  have r2 := cell_of_row w9 _ 2 _ _ _ GL.out
  simp at r0 r1 r2
  go_wp2_with fail
  refine (Alike_same gW gH (.slice vv yl vd) (.slice va yl ca) ys _ UA.out TA.out LY.out).mono ?_
  rintro e w10 ⟨rfl, b⟩
  have D3 := hide' (D2.out.trans (b.mono D2.out.size))
  have GJ := hide' ((b.block _ (lt_of_block GL.out)).trans GL.out)
  clear b D2 GL q0 q1 q2 r0 r1 r2 TA UA
  have r3 := cell_of_row w10 _ 3 _ _ _ GJ.out
  have r4 := cell_of_row w10 _ 4 _ _ _ GJ.out
  simp at r3 r4
  go_wp2
  go_ret
  exact ⟨rfl, BB.out.trans (D3.out.mono BB.out.size)⟩
end Go.Proofs.YtdbgdfodoceadaaDoor

