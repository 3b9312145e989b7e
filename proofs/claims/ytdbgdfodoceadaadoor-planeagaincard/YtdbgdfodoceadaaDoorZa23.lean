/-
  What the last text of this claim leans on, part 23: Gt5, Gt6, Gp0, Wa2, Gp3.
-/
import Derived.Test.YtdbgdfodoceadaaDoorZa22
import Derived.Test.YtdbgdfodoceadaaDoorZa7
import Derived.Test.YtdbgdfodoceadaaDoorZa13
namespace Go.Proofs.YtdbgdfodoceadaaDoor
open Go.RowKit
set_option linter.unusedVariables false
/-- A state of growth as edenref3 has it. -/
def gV (s : Gst) (v : Value) : Value := .agg #[.int .i64 (s.P.W : Int), .int .i64 (s.P.H : Int), v, .int .i64 s.r, .int .i64 s.d]
theorem box_le {q : Pat} (hW : q.W ≤ 102) (hH : q.H ≤ 102) (R D : Int) : (boxG q R D).P.W ≤ q.W ∧ (boxG q R D).P.H ≤ q.H := by
  unfold boxG
  rcases trim_cases q with ⟨h0, h1⟩ | ⟨l, t, r, b, hB, h1⟩
  · rw [h1, if_pos rfl]; exact ⟨Nat.zero_le _, Nat.zero_le _⟩
  · rw [h1]
    dsimp only
    split
    · exact ⟨Nat.zero_le _, Nat.zero_le _⟩
    · obtain ⟨y, x, c, e⟩ := hB.ri
      obtain ⟨y2, x2, c2, e2⟩ := hB.lo
      have := (cellP_at c).1
      have := (cellP_at c2).2.1
      dsimp only
      omega
theorem box_zero {q : Pat} {R D : Int} (h : (boxG q R D).P.W = 0) : boxG q R D = noG := by
  unfold boxG at h ⊢
  split
  · rfl
  · rename_i k; rw [if_neg k] at h; exact absurd h k
theorem noG_next {born stay : Nat} (b0 : born.testBit 0 = false) : nextG born stay noG = noG := by
  unfold nextG boxG
  have z : ∀ y x, cellP (nextC born stay noG.P) y x = false := fun y x => by
    rw [nextC_cell]
    have e : ∀ y x, c2 noG.P y x = false := fun y x => by simp [c2, cellP, noG]
    have : nxB born stay noG.P y x = false := by simp [nxB, nb2, e, b0]
    rw [this]; simp
  rcases trim_cases (nextC born stay noG.P) with ⟨h0, h1⟩ | ⟨l, t, r, b, hB, h1⟩
  · rw [h1, if_pos rfl]
  · obtain ⟨y, x, c, e⟩ := hB.le; rw [z] at c; cases c
/-- What stays so while it grows. -/
theorem grow_ok {born stay : Nat} {s : Gst} (hs : GOk s) (hW : s.P.W ≤ 100) (hH : s.P.H ≤ 100) (hr : -200 ≤ s.r ∧ s.r ≤ 200 ∧ -200 ≤ s.d ∧ s.d ≤ 200) : ∀ n u, growG born stay s n = some u → GOk u ∧ u.P.W ≤ 100 ∧ u.P.H ≤ 100 ∧ -200 - 103 * (n : Int) ≤ u.r ∧ u.r ≤ 200 + 103 * (n : Int) ∧ -200 - 103 * (n : Int) ≤ u.d ∧ u.d ≤ 200 + 103 * (n : Int)
  | 0, u, h => by
    rw [growG] at h
    injection h with h
    subst h
    exact ⟨hs, hW, hH, by omega, by omega, by omega, by omega⟩
  | n + 1, u, h => by
    rw [growG] at h
    cases hg : growG born stay s n with
    | none => rw [hg] at h; cases h
    | some t =>
      rw [hg] at h
      dsimp only at h
      obtain ⟨i1, i2, i3, i4, i5, i6, i7⟩ := grow_ok hs hW hH hr n t hg
      split at h
      · cases h
      · rename_i nb
        injection h with h
        subst h
        have bn := box_near (q := nextC born stay t.P) (R := t.r - 1) (D := t.d - 1) (m := 200 + 103 * (n : Int)) (by show ((t.P.W + 2 : Nat) : Int) ≤ 102; omega) (by show ((t.P.H + 2 : Nat) : Int) ≤ 102; omega) (by omega) (by omega) (by omega) (by omega) (by omega)
        refine ⟨next_ok born stay t, by omega, by omega, ?_, ?_, ?_, ?_⟩
        · have := bn.1; show _ ≤ (boxG _ _ _).r; push_cast; omega
        · have := bn.2.1; show (boxG _ _ _).r ≤ _; push_cast; omega
        · have := bn.2.2.1; show _ ≤ (boxG _ _ _).d; push_cast; omega
        · have := bn.2.2.2; show (boxG _ _ _).d ≤ _; push_cast; omega
theorem first_ok {p : Pat} (hx : ∀ k, 0 ≤ p.xs.getD k 0 ∧ p.xs.getD k 0 ≤ 1) (hW : p.W ≤ 100) (hH : p.H ≤ 100) : GOk (firstG p) ∧ (firstG p).P.W ≤ 100 ∧ (firstG p).P.H ≤ 100 ∧ (-200 ≤ (firstG p).r ∧ (firstG p).r ≤ 200 ∧ -200 ≤ (firstG p).d ∧ (firstG p).d ≤ 200) := by
  have l := box_le (q := p) (by omega) (by omega) 0 0
  have bn := box_near (q := p) (R := 0) (D := 0) (m := 0) (by omega) (by omega) (by omega) (by omega) (by omega) (by omega) (by omega)
  exact ⟨box_ok hx 0 0, by show (boxG p 0 0).P.W ≤ 100; omega, by show (boxG p 0 0).P.H ≤ 100; omega, by show -200 ≤ (boxG p 0 0).r; omega, by show (boxG p 0 0).r ≤ 200; omega, by show -200 ≤ (boxG p 0 0).d; omega, by show (boxG p 0 0).d ≤ 200; omega⟩
def GPost (s : Gst) (w : World) (e : Ending) (w' : World) : Prop := ∃ v, e = .returned (gV s v) ∧ Tab w' v s.P.xs ∧ Fresh w v ∧ Below w.heap.size w w'
set_option maxRecDepth 100000 in
set_option maxHeartbeats 6400000 in
theorem refFirst_any (W H : Nat) (xs : List Int) (a : Option Addr) (n c : Nat) (w : World) (hP : ArgP w xs a n c) (hn : n = W * H) (hW : W ≤ 100) (hH : H ≤ 100) :
    Calls Tryd.prog 46 #[.agg #[.int .i64 (W : Int), .int .i64 (H : Int), .slice a n c]] w (GPost (firstG ⟨W, H, xs⟩) w) := by
  obtain ⟨w1, hw1⟩ : ∃ w1, (w.alloc (.cells #[.int .i64 (W : Int), .int .i64 (H : Int), .slice a n c] 26)).alloc (.cells #[.int .i64 0, .int .i64 0, .slice none 0 0, .int .i64 0, .int .i64 0] 36) = w1 := ⟨_, rfl⟩
  have BB : Below w.heap.size w w1 := by rw [← hw1]; exact ((Below.refl _ _).alloc (Nat.le_refl _) _).alloc (by simp) _
  have g0 : w1.heap[w.heap.size]? = some (.cells #[.int .i64 (W : Int), .int .i64 (H : Int), .slice a n c] 26 (0, 0)) := by rw [← hw1, Below.heap_alloc _ _ _ (by simp)]; exact heap_alloc_new _ _
  have g1 : w1.heap[w.heap.size + 1]? = some (.cells #[.int .i64 0, .int .i64 0, .slice none 0 0, .int .i64 0, .int .i64 0] 36 (0, 0)) := by rw [← hw1]; exact heap_atX _ _ _ (by simp)
  have c0 := cell_of_row w1 _ 0 _ _ _ g0
  have c1 := cell_of_row w1 _ 1 _ _ _ g0
  have c2' := cell_of_row w1 _ 2 _ _ _ g0
  simp at c0 c1 c2'
  have TC := hide' (refTrimB W H xs a n c w1 (hP.below BB) (by omega) (by omega) hn)
  have BH := hide' BB
  have G1 := hide' g1
  have TL := trim_ok ⟨W, H, xs⟩
  have BG : firstG ⟨W, H, xs⟩ = if (trimP ⟨W, H, xs⟩).1.W = 0 then noG else ⟨(trimP ⟨W, H, xs⟩).1, 0 + ((trimP ⟨W, H, xs⟩).2.1 : Int), 0 + ((trimP ⟨W, H, xs⟩).2.2 : Int)⟩ := rfl
  have TSH := hide' (trim_cases ⟨W, H, xs⟩)
  have BGH := hide' BG
  have tl := trim_le ⟨W, H, xs⟩ hW hH
  have TLH := hide' TL
  have tlH := hide' tl
  clear g0 g1 BB hP hn BG TL tl
  go_enter Tryd.func46, Tryd.ntmps46
  go_wp2_with (first | (go_at_call 79; refine TC.out.mono ?_))
  rintro e w5 ⟨v5, rfl, tb5, fr5, b5⟩
  have TS := TSH.out
  have BG := BGH.out
  have TL := TLH.out
  have tl := tlH.out
  obtain ⟨tp, htp⟩ : ∃ tp, trimP ⟨W, H, xs⟩ = tp := ⟨_, rfl⟩
  obtain ⟨⟨V, U, ts⟩, L, T⟩ := tp
  rw [htp] at tb5 TL BG TS tl ⊢
  dsimp only at tb5 TL BG tl ⊢
  have EG : firstG ⟨W, H, xs⟩ = ⟨⟨V, U, ts⟩, (L : Int), (T : Int)⟩ := by
    rw [BG]
    split
    · rcases TS with ⟨_, h1⟩ | ⟨l, t, r, b, hB, h1⟩
      · injection h1 with h1 h2
        injection h2 with h2 h3
        rw [h1, h2, h3]; rfl
      · exfalso
        injection h1 with h1 h2
        injection h1 with h1 h3
        obtain ⟨y, x, c, e⟩ := hB.le
        have := hB.inn _ _ c
        omega
    · rw [Int.zero_add, Int.zero_add]
  have tlen : ts.length ≤ 10000 := by rw [show ts.length = V * U from TL]; exact Nat.mul_le_mul tl.1 tl.2
  obtain ⟨va, vc, rfl, AP5⟩ := tab_arg tb5 (by unfold maxLen; omega)
  have EGH := hide' EG
  have T5 := hide' tb5
  have F5 := hide' fr5
  have e2 := (b5.block _ (lt_of_block G1.out)).trans G1.out
  have E2 := hide' e2
  have r0 := cell_of_row w5 _ 0 _ _ _ e2
  have r1 := cell_of_row w5 _ 1 _ _ _ e2
  have r2 := cell_of_row w5 _ 2 _ _ _ e2
  have r3 := cell_of_row w5 _ 3 _ _ _ e2
  have r4 := cell_of_row w5 _ 4 _ _ _ e2
  simp at r0 r1 r2 r3 r4
  have f0 := frozen_of_row w5 _ 0 _ _ e2
  have f1 := frozen_of_row w5 _ 1 _ _ e2
  have f2 := frozen_of_row w5 _ 2 _ _ e2
  have f3 := frozen_of_row w5 _ 3 _ _ e2
  have f4 := frozen_of_row w5 _ 4 _ _ e2
  have s5 : w.heap.size + 1 < w5.heap.size := lt_of_block e2
  have ne5 : ¬ w.heap.size + 1 = w5.heap.size := by omega
  have ne6 : ¬ w5.heap.size = w.heap.size + 1 := by omega
  have BE := hide' (BH.out.trans (b5.mono BH.out.size))
  have SB := hide' (lt_of_block G1.out)
  clear tb5 fr5 b5 AP5 TL BG TS tl htp EG e2 hw1 TSH BGH TLH tlH
  go_wp2
  obtain ⟨X, hXX⟩ : ∃ X, (((((w5.setCell ⟨w.heap.size + 1, 0, none⟩ (.int .i64 (V : Int))).setCell ⟨w.heap.size + 1, 1, none⟩ (.int .i64 (U : Int))).setCell ⟨w.heap.size + 1, 2, none⟩ (.slice va ts.length vc)).setCell ⟨w.heap.size + 1, 3, none⟩ (.int .i64 (L : Int))).setCell ⟨w.heap.size + 1, 4, none⟩ (.int .i64 (T : Int))).alloc (.cells #[.int .i64 (V : Int), .int .i64 (U : Int), .slice va ts.length vc] 26) = X := ⟨_, rfl⟩
  rw [hXX]
  have k0 : X.heap[w.heap.size + 1]? = some (.cells #[.int .i64 (V : Int), .int .i64 (U : Int), .slice va ts.length vc, .int .i64 (L : Int), .int .i64 (T : Int)] 36 (0, 0)) := by rw [← hXX]; exact five_set E2.out _ _ _ _ _ _
  have m0 := cell_of_row X _ 0 _ _ _ k0
  have m1 := cell_of_row X _ 1 _ _ _ k0
  have m2 := cell_of_row X _ 2 _ _ _ k0
  have m3 := cell_of_row X _ 3 _ _ _ k0
  have m4 := cell_of_row X _ 4 _ _ _ k0
  simp at m0 m1 m2 m3 m4
  have BQ : Below w.heap.size w X := by rw [← hXX]; exact five_below BE.out (by omega) (by omega) _ _ _ _ _ _
  refine bodyPost_ret (v := .agg #[.int .i64 (V : Int), .int .i64 (U : Int), .slice va ts.length vc, .int .i64 (L : Int), .int .i64 (T : Int)]) (by simp [results, Tryd.results46, go_sem, m0, m1, m2, m3, m4]) rfl ?_
  refine ⟨.slice va ts.length vc, by rw [EGH.out]; rfl, ?_, fun g k c h => Nat.le_trans BH.out.size (F5.out g k c h), BQ⟩
  rw [EGH.out]
  refine tab_keep T5.out (fun g k cap h => ?_)
  rw [← hXX]
  exact five_keep (by have := F5.out g k cap h; have := SB.out; omega) (tab_lt T5.out h) _ _ _ _ _ _
end Go.Proofs.YtdbgdfodoceadaaDoor

namespace Go.Proofs.YtdbgdfodoceadaaDoor
open Go.RowKit
set_option linter.unusedVariables false
theorem big_iff (born stay : Nat) (s : Gst) : (100 < (trimP (nextC born stay s.P)).1.W ∨ 100 < (trimP (nextC born stay s.P)).1.H) ↔ (100 < (nextG born stay s).P.W ∨ 100 < (nextG born stay s).P.H) := by
  unfold nextG boxG
  rcases trim_cases (nextC born stay s.P) with ⟨h0, h1⟩ | ⟨l, t, r, b, hB, h1⟩
  · rw [h1, if_pos rfl]; simp [noG]
  · rw [h1]
    dsimp only
    obtain ⟨y, x, c, e⟩ := hB.le
    have := hB.inn _ _ c
    rw [if_neg (by omega)]
theorem grow_small {born stay : Nat} {s u : Gst} {i : Nat} (h : growG born stay s i = some u) (hb : ¬ (100 < (trimP (nextC born stay u.P)).1.W ∨ 100 < (trimP (nextC born stay u.P)).1.H)) : growG born stay s (i + 1) = some (nextG born stay u) := by
  rw [growG, h]
  dsimp only
  rw [if_neg (fun k => hb ((big_iff born stay u).2 k))]
end Go.Proofs.YtdbgdfodoceadaaDoor

namespace Go.Proofs.YtdbgdfodoceadaaDoor
open Go.RowKit
set_option linter.unusedVariables false

structure RBp (p : Nat) (o : Out) (v : Value) (w : World) : Prop where
  c0 : w.cell? ⟨p, 0, none⟩ = some (.int .i64 o.kind)
  c1 : w.cell? ⟨p, 1, none⟩ = some (.int .i64 o.born)
  c2 : w.cell? ⟨p, 2, none⟩ = some (.int .i64 o.stay)
  c3 : w.cell? ⟨p, 3, none⟩ = some (.int .i64 o.states)
  c4 : w.cell? ⟨p, 4, none⟩ = some (.int .i64 o.radius)
  c5 : w.cell? ⟨p, 5, none⟩ = some v
  c6 : w.cell? ⟨p, 6, none⟩ = some (.string o.turns)
theorem RBp.lt {p : Nat} {o : Out} {v : Value} {w : World} (h : RBp p o v w) : p < w.heap.size := by
  rcases Nat.lt_or_ge p w.heap.size with k | k
  · exact k
  · have := h.c0; simp [World.cell?, Array.getElem?_eq_none k] at this
theorem RBp.block {p : Nat} {o : Out} {v : Value} {w w' : World} (h : RBp p o v w) (e : w'.heap[p]? = w.heap[p]?) : RBp p o v w' :=
  ⟨(World.cell?_of_block (w := w) (a := ⟨p, 0, none⟩) e).trans h.c0, (World.cell?_of_block (w := w) (a := ⟨p, 1, none⟩) e).trans h.c1, (World.cell?_of_block (w := w) (a := ⟨p, 2, none⟩) e).trans h.c2, (World.cell?_of_block (w := w) (a := ⟨p, 3, none⟩) e).trans h.c3, (World.cell?_of_block (w := w) (a := ⟨p, 4, none⟩) e).trans h.c4, (World.cell?_of_block (w := w) (a := ⟨p, 5, none⟩) e).trans h.c5, (World.cell?_of_block (w := w) (a := ⟨p, 6, none⟩) e).trans h.c6⟩
theorem RBp.next {p : Nat} {o : Out} {v : Value} {w w' : World} (h : RBp p o v w) (hb : Below w.heap.size w w') : RBp p o v w' := h.block (hb.block p h.lt)
theorem RBp.new (w : World) (o : Out) (v : Value) (t : TypeId) : RBp w.heap.size o v (w.alloc (.cells #[.int .i64 o.kind, .int .i64 o.born, .int .i64 o.stay, .int .i64 o.states, .int .i64 o.radius, v, .string o.turns] t)) :=
  ⟨by rw [World.cell?_alloc_at _ _ _ _ rfl]; rfl, by rw [World.cell?_alloc_at _ _ _ _ rfl]; rfl, by rw [World.cell?_alloc_at _ _ _ _ rfl]; rfl, by rw [World.cell?_alloc_at _ _ _ _ rfl]; rfl, by rw [World.cell?_alloc_at _ _ _ _ rfl]; rfl, by rw [World.cell?_alloc_at _ _ _ _ rfl]; rfl, by rw [World.cell?_alloc_at _ _ _ _ rfl]; rfl⟩
end Go.Proofs.YtdbgdfodoceadaaDoor

namespace Go.Proofs.YtdbgdfodoceadaaDoor
open Go.RowKit
set_option linter.unusedVariables false

set_option maxHeartbeats 1600000 in
theorem Shape_P (W H : Int) (xs : List Int) (a : Option Addr) (n c : Nat) (w : World) (hP : ArgP w xs a n c) :
    Calls Tryd.prog 23 #[.agg #[.int .i64 W, .int .i64 H, .slice a n c]] w fun e w' => e = .returned (.int .i64 ((shapeF W H xs : Nat) : Int)) ∧ Below w.heap.size w w' := by
  have HP := hide' (hP.alloc (.cells #[.int .i64 W, .int .i64 H, .slice a n c] 26))
  have hlen := hP.len
  have hmax := hP.max
  have HL := hide' hlen
  unfold maxLen at hmax
  clear hP hlen
  cases s1 : sideB W with
  | false =>
    have F := hide' (show shapeF W H xs = 1 by unfold shapeF; rw [s1]; rfl)
    rcases side_no s1 with h | h
    · clear s1
      go_enter Tryd.func23, Tryd.ntmps23
      go_wp2
      go_ret
      rw [F.out]
      exact ⟨rfl, (Below.refl _ _).alloc (Nat.le_refl _) _⟩
    · have h' : ¬ W < 0 := by omega
      clear s1
      go_enter Tryd.func23, Tryd.ntmps23
      go_wp2
      go_ret
      rw [F.out]
      exact ⟨rfl, (Below.refl _ _).alloc (Nat.le_refl _) _⟩
  | true =>
    cases s2 : sideB H with
    | false =>
      have F := hide' (show shapeF W H xs = 1 by unfold shapeF; rw [s1, s2]; rfl)
      obtain ⟨Wn, rfl, lW⟩ := side_nat s1
      have h1 : ¬ (Wn : Int) < 0 := by omega
      have h2 : ¬ 100 < (Wn : Int) := by omega
      rcases side_no s2 with h | h
      · clear s1 s2
        go_enter Tryd.func23, Tryd.ntmps23
        go_wp2
        go_ret
        rw [F.out]
        exact ⟨rfl, (Below.refl _ _).alloc (Nat.le_refl _) _⟩
      · have h' : ¬ H < 0 := by omega
        clear s1 s2
        go_enter Tryd.func23, Tryd.ntmps23
        go_wp2
        go_ret
        rw [F.out]
        exact ⟨rfl, (Below.refl _ _).alloc (Nat.le_refl _) _⟩
    | true =>
      obtain ⟨Wn, rfl, lW⟩ := side_nat s1
      obtain ⟨Hn, rfl, lH⟩ := side_nat s2
      have h1 : ¬ (Wn : Int) < 0 := by omega
      have h2 : ¬ 100 < (Wn : Int) := by omega
      have h3 : ¬ (Hn : Int) < 0 := by omega
      have h4 : ¬ 100 < (Hn : Int) := by omega
      obtain ⟨N, hN⟩ : ∃ N, Wn * Hn = N := ⟨_, rfl⟩
      have hNi : (Wn : Int) * (Hn : Int) = (N : Int) := by rw [← hN]; simp
      have hN4 : N ≤ 10000 := by rw [← hN]; exact Nat.mul_le_mul lW lH
      by_cases q : n = N
      · have m1 : ((n : Int) != (N : Int)) = false := by simp; omega
        have FO := hide' (fun (h : xs.all cellB = true) => show shapeF Wn Hn xs = 0 by unfold shapeF; rw [s1, s2, if_pos (show (true && true) = true from rfl), if_pos (by rw [hNi, ← HL.out, q]), if_pos h])
        have FN := hide' (fun (h : xs.all cellB = false) => show shapeF Wn Hn xs = 1 by unfold shapeF; rw [s1, s2, if_pos (show (true && true) = true from rfl), if_pos (by rw [hNi, ← HL.out, q]), if_neg (by rw [h]; simp)])
        clear q hN s1 s2
        go_enter Tryd.func23, Tryd.ntmps23
        go_wp2
        go_loop [3] (fun kv => ∃ k : Nat, kv = .int .i64 (k : Int) ∧ k ≤ n ∧ ∀ j (h : j < xs.length), j < k → cellB xs[j] = true) (fun kv => n - (intOf kv).toNat)
        case atStart => exact ⟨0, rfl, by omega, fun j h hj => by omega⟩
        case round =>
          obtain ⟨k, rfl, hk, hall⟩ := hrel
          have HA := hide' hall
          clear hall
          by_cases d : (k : Int) < (n : Int)
          · have hkl : k < xs.length := by have := HL.out; omega
            obtain ⟨g, off, rfl, hg, hc⟩ := HP.out.cells k hkl
            obtain ⟨x, hx⟩ : ∃ x, xs[k] = x := ⟨_, rfl⟩
            rw [hx] at hc
            have HX := hide' hx
            clear hx
            by_cases x0 : x < 0
            · have X := hide' (show cellB x = false by unfold cellB; simp; omega)
              go_wp2
              go_ret
              rw [FN.out (all_bad hkl (by rw [HX.out]; exact X.out))]
              exact ⟨rfl, (Below.refl _ _).alloc (Nat.le_refl _) _⟩
            · by_cases x1 : 1 < x
              · have X := hide' (show cellB x = false by unfold cellB; simp; omega)
                go_wp2
                go_ret
                rw [FN.out (all_bad hkl (by rw [HX.out]; exact X.out))]
                exact ⟨rfl, (Below.refl _ _).alloc (Nat.le_refl _) _⟩
              · have X := hide' (show cellB x = true by rw [cellB_iff]; omega)
                go_wp2
                refine ⟨⟨k + 1, by go_num, by omega, fun j h hj => ?_⟩, by simp [intOf]; omega⟩
                by_cases e : j = k
                · subst e; rw [HX.out]; exact X.out
                · exact HA.out j h (by omega)
          · go_wp2
            go_ret
            rw [FO.out (all_ok fun j hj => HA.out j hj (by have := HL.out; omega))]
            exact ⟨rfl, (Below.refl _ _).alloc (Nat.le_refl _) _⟩
      · have m1 : ((n : Int) != (N : Int)) = true := by simp; omega
        have F := hide' (show shapeF Wn Hn xs = 3 by unfold shapeF; rw [s1, s2, if_pos (show (true && true) = true from rfl), if_neg (by rw [hNi, ← HL.out]; omega)])
        clear q hN s1 s2
        go_enter Tryd.func23, Tryd.ntmps23
        go_wp2
        go_ret
        rw [F.out]
        exact ⟨rfl, (Below.refl _ _).alloc (Nat.le_refl _) _⟩
end Go.Proofs.YtdbgdfodoceadaaDoor

namespace Go.Proofs.YtdbgdfodoceadaaDoor
open Go.RowKit
set_option linter.unusedVariables false

/-- What is wrong with a rule of a plane and a pattern. -/
def plaE (o : Out) (W H : Int) (xs : List Int) (f : Nat) : Prop := (¬ Good o ∧ f = 1) ∨ (Good o ∧ shapeF W H xs ≠ 0 ∧ f = shapeF W H xs) ∨ (Good o ∧ shapeF W H xs = 0 ∧ o.kind ≠ 1 ∧ f = 1) ∨ (Good o ∧ shapeF W H xs = 0 ∧ o.kind = 1 ∧ f = 0)
theorem plaE_only {o : Out} {W H : Int} {xs : List Int} {f g : Nat} (h : plaE o W H xs f) (k : plaE o W H xs g) : f = g := by
  rcases h with ⟨a, b⟩ | ⟨a, b, c⟩ | ⟨a, b, c, d⟩ | ⟨a, b, c, d⟩ <;> rcases k with ⟨a', b'⟩ | ⟨a', b', c'⟩ | ⟨a', b', c', d'⟩ | ⟨a', b', c', d'⟩ <;> first | (exact absurd a' a) | (exact absurd a a') | (exact absurd b' b) | (exact absurd b b') | (exact absurd c' c) | (exact absurd c c') | omega

set_option maxRecDepth 100000 in
set_option maxHeartbeats 6400000 in
theorem planeCheck_any (o : Out) (ta : Option Addr) (tn tc : Nat) (W H : Int) (xs : List Int) (a : Option Addr) (n c : Nat) (w : World) (hR : ArgR w o ta tn tc) (hP : ArgP w xs a n c) :
    Calls Tryd.prog 40 #[.agg #[.int .i64 o.kind, .int .i64 o.born, .int .i64 o.stay, .int .i64 o.states, .int .i64 o.radius, .slice ta tn tc, .string o.turns], .agg #[.int .i64 W, .int .i64 H, .slice a n c]] w fun e w' => (∃ f, plaE o W H xs f ∧ e = .returned (errOf f)) ∧ Below w.heap.size w w' := by
  obtain ⟨w1, hw1⟩ : ∃ w1, (w.alloc (.cells #[.int .i64 o.kind, .int .i64 o.born, .int .i64 o.stay, .int .i64 o.states, .int .i64 o.radius, .slice ta tn tc, .string o.turns] 24)).alloc (.cells #[.int .i64 W, .int .i64 H, .slice a n c] 26) = w1 := ⟨_, rfl⟩
  have BB := hide' (show Below w.heap.size w w1 by rw [← hw1]; exact ((Below.refl _ _).alloc (Nat.le_refl _) _).alloc (by simp) _)
  have RX := hide' (show RBp w.heap.size o (.slice ta tn tc) w1 by rw [← hw1]; exact (RBp.new w o (.slice ta tn tc) 24).block (Below.heap_alloc _ _ _ (by simp)))
  have y0 : w1.cell? ⟨w.heap.size + 1, 0, none⟩ = some (.int .i64 W) := by rw [← hw1, World.cell?_alloc_at _ _ _ _ (by simp)]; rfl
  have y1 : w1.cell? ⟨w.heap.size + 1, 1, none⟩ = some (.int .i64 H) := by rw [← hw1, World.cell?_alloc_at _ _ _ _ (by simp)]; rfl
  have y2 : w1.cell? ⟨w.heap.size + 1, 2, none⟩ = some (.slice a n c) := by rw [← hw1, World.cell?_alloc_at _ _ _ _ (by simp)]; rfl
  have PL : w.heap.size + 1 < w1.heap.size := by rw [← hw1]; simp
  have PX := hide' (fun (w' : World) (hb : Below w1.heap.size w1 w') => show w'.cell? ⟨w.heap.size + 1, 0, none⟩ = some (.int .i64 W) ∧ w'.cell? ⟨w.heap.size + 1, 1, none⟩ = some (.int .i64 H) ∧ w'.cell? ⟨w.heap.size + 1, 2, none⟩ = some (.slice a n c) from
    have e := hb.block (w.heap.size + 1) PL
    ⟨(World.cell?_of_block (w := w1) (a := ⟨w.heap.size + 1, 0, none⟩) e).trans y0, (World.cell?_of_block (w := w1) (a := ⟨w.heap.size + 1, 1, none⟩) e).trans y1, (World.cell?_of_block (w := w1) (a := ⟨w.heap.size + 1, 2, none⟩) e).trans y2⟩)
  have AT := hide' (show ArgR w1 o ta tn tc by rw [← hw1]; exact (hR.alloc _).alloc _)
  have AP := hide' (hP.below BB.out)
  clear hR hP y0 y1 y2 PL
  have C0 := hide' (Below.refl w1.heap.size w1)
  obtain ⟨x0, x1, x2, x3, x4, x5, x6⟩ := RX.out
  go_enter Tryd.func40, Tryd.ntmps40
  go_wp2_with fail
  refine (Check_any o ta tn tc _ (AT.out.below C0.out)).mono ?_
  rintro e w2 ⟨hor, b⟩
  have C1 := hide' (C0.out.trans (b.mono C0.out.size))
  clear hw1 b x0 x1 x2 x3 x4 x5 x6 C0
  obtain ⟨x0, x1, x2, x3, x4, x5, x6⟩ := RX.out.next C1.out
  obtain ⟨y0, y1, y2⟩ := PX.out _ C1.out
  rcases hor with ⟨rfl, hG⟩ | ⟨rfl, hG⟩
  · have HG := hide' hG
    clear hG
    go_wp2_with fail
    refine (Check_P W H xs a n c _ (AP.out.below C1.out)).mono ?_
    obtain ⟨f, hf⟩ : ∃ f, shapeF W H xs = f := ⟨_, rfl⟩
    have HF := hide' hf
    rw [hf]
    clear hf
    rintro e w3 ⟨rfl, b⟩
    have C2 := hide' (C1.out.trans (b.mono C1.out.size))
    clear b x0 x1 x2 x3 x4 x5 x6 y0 y1 y2 C1
    obtain ⟨x0, x1, x2, x3, x4, x5, x6⟩ := RX.out.next C2.out
    by_cases f0 : f = 0
    · subst f0
      rw [show errOf 0 = .nilIface from rfl]
      by_cases k1 : o.kind = 1
      · have kb : (o.kind != 1) = false := by simp [k1]
        have PE := hide' (show plaE o W H xs 0 from Or.inr (Or.inr (Or.inr ⟨HG.out, HF.out, k1, rfl⟩)))
        clear k1
        go_wp2
        go_ret
        exact ⟨⟨0, PE.out, rfl⟩, BB.out.trans (C2.out.mono BB.out.size)⟩
      · have kb : (o.kind != 1) = true := by simp [k1]
        have PE := hide' (show plaE o W H xs 1 from Or.inr (Or.inr (Or.inl ⟨HG.out, HF.out, k1, rfl⟩)))
        clear k1
        go_wp2
        go_ret
        exact ⟨⟨1, PE.out, rfl⟩, BB.out.trans (C2.out.mono BB.out.size)⟩
    · have PE := hide' (show plaE o W H xs f from Or.inr (Or.inl ⟨HG.out, by rw [HF.out]; exact f0, HF.out.symm⟩))
      rw [show errOf f = .iface 77 (.int .i64 (f : Int)) from if_neg f0]
      have EF := hide' (show errOf f = .iface 77 (.int .i64 (f : Int)) from if_neg f0)
      clear f0
      go_wp2
      go_ret
      exact ⟨⟨f, PE.out, by rw [EF.out]; rfl⟩, BB.out.trans (C2.out.mono BB.out.size)⟩
  · have PE := hide' (show plaE o W H xs 1 from Or.inl ⟨hG, rfl⟩)
    clear hG
    go_wp2
    go_ret
    exact ⟨⟨1, PE.out, rfl⟩, BB.out.trans (C1.out.mono BB.out.size)⟩
end Go.Proofs.YtdbgdfodoceadaaDoor

