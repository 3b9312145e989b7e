/-
  What the last text of this claim leans on, part 24: Gt5.
-/
import Derived.Test.YtdbgdfodoceadaaDoorZg23
namespace Go.Proofs.YtdbgdfodoceadaaDoor
open Go.RowKit
set_option linter.unusedVariables false
/-- A state of growth as edenref3 has it. -/
def gV (s : Gst) (v : Value) : Value := .agg #[.int .i64 (s.P.W : Int), .int .i64 (s.P.H : Int), v, .int .i64 s.r, .int .i64 s.d]
theorem box_le {q : Pat} (hW : q.W ≤ 102) (hH : q.H ≤ 102) (R D : Int) : (boxG q R D).P.W ≤ q.W ∧ (boxG q R D).P.H ≤ q.H := by
  unfold boxG
  rcases trim_cases q with ⟨h0, h1⟩ | ⟨l, t, r, b, hB, h1⟩
  · rw [h1, if_pos rfl]; exact ⟨Nat.zero_le _, Nat.zero_le _⟩
  · rw [h1]
    dsimp only
    split
    · exact ⟨Nat.zero_le _, Nat.zero_le _⟩
    · obtain ⟨y, x, c, e⟩ := hB.ri
      obtain ⟨y2, x2, c2, e2⟩ := hB.lo
      have := (cellP_at c).1
      have := (cellP_at c2).2.1
      dsimp only
      omega
theorem box_zero {q : Pat} {R D : Int} (h : (boxG q R D).P.W = 0) : boxG q R D = noG := by
  unfold boxG at h ⊢
  split
  · rfl
  · rename_i k; rw [if_neg k] at h; exact absurd h k
theorem noG_next {born stay : Nat} (b0 : born.testBit 0 = false) : nextG born stay noG = noG := by
  unfold nextG boxG
  have z : ∀ y x, cellP (nextC born stay noG.P) y x = false := fun y x => by
    rw [nextC_cell]
    have e : ∀ y x, c2 noG.P y x = false := fun y x => by simp [c2, cellP, noG]
    have : nxB born stay noG.P y x = false := by simp [nxB, nb2, e, b0]
    rw [this]; simp
  rcases trim_cases (nextC born stay noG.P) with ⟨h0, h1⟩ | ⟨l, t, r, b, hB, h1⟩
  · rw [h1, if_pos rfl]
  · obtain ⟨y, x, c, e⟩ := hB.le; rw [z] at c; cases c
theorem grow_noG {born stay : Nat} (b0 : born.testBit 0 = false) {s : Gst} {m : Nat} (h : growG born stay s m = some noG) : ∀ k, growG born stay s (m + k) = some noG
  | 0 => h
  | k + 1 => by
    rw [← Nat.add_assoc, growG, grow_noG b0 h k]
    dsimp only
    rw [noG_next b0, if_neg (by simp [noG])]
/-- What stays so while it grows. -/
theorem grow_ok {born stay : Nat} {s : Gst} (hs : GOk s) (hW : s.P.W ≤ 100) (hH : s.P.H ≤ 100) (hr : -200 ≤ s.r ∧ s.r ≤ 200 ∧ -200 ≤ s.d ∧ s.d ≤ 200) : ∀ n u, growG born stay s n = some u → GOk u ∧ u.P.W ≤ 100 ∧ u.P.H ≤ 100 ∧ -200 - 103 * (n : Int) ≤ u.r ∧ u.r ≤ 200 + 103 * (n : Int) ∧ -200 - 103 * (n : Int) ≤ u.d ∧ u.d ≤ 200 + 103 * (n : Int)
  | 0, u, h => by
    rw [growG] at h
    injection h with h
    subst h
    exact ⟨hs, hW, hH, by omega, by omega, by omega, by omega⟩
  | n + 1, u, h => by
    rw [growG] at h
    cases hg : growG born stay s n with
    | none => rw [hg] at h; cases h
    | some t =>
      rw [hg] at h
      dsimp only at h
      obtain ⟨i1, i2, i3, i4, i5, i6, i7⟩ := grow_ok hs hW hH hr n t hg
      split at h
      · cases h
      · rename_i nb
        injection h with h
        subst h
        have bn := box_near (q := nextC born stay t.P) (R := t.r - 1) (D := t.d - 1) (m := 200 + 103 * (n : Int)) (by show ((t.P.W + 2 : Nat) : Int) ≤ 102; omega) (by show ((t.P.H + 2 : Nat) : Int) ≤ 102; omega) (by omega) (by omega) (by omega) (by omega) (by omega)
        refine ⟨next_ok born stay t, by omega, by omega, ?_, ?_, ?_, ?_⟩
        · have := bn.1; show _ ≤ (boxG _ _ _).r; push_cast; omega
        · have := bn.2.1; show (boxG _ _ _).r ≤ _; push_cast; omega
        · have := bn.2.2.1; show _ ≤ (boxG _ _ _).d; push_cast; omega
        · have := bn.2.2.2; show (boxG _ _ _).d ≤ _; push_cast; omega
theorem first_ok {p : Pat} (hx : ∀ k, 0 ≤ p.xs.getD k 0 ∧ p.xs.getD k 0 ≤ 1) (hW : p.W ≤ 100) (hH : p.H ≤ 100) : GOk (firstG p) ∧ (firstG p).P.W ≤ 100 ∧ (firstG p).P.H ≤ 100 ∧ (-200 ≤ (firstG p).r ∧ (firstG p).r ≤ 200 ∧ -200 ≤ (firstG p).d ∧ (firstG p).d ≤ 200) := by
  have l := box_le (q := p) (by omega) (by omega) 0 0
  have bn := box_near (q := p) (R := 0) (D := 0) (m := 0) (by omega) (by omega) (by omega) (by omega) (by omega) (by omega) (by omega)
  exact ⟨box_ok hx 0 0, by show (boxG p 0 0).P.W ≤ 100; omega, by show (boxG p 0 0).P.H ≤ 100; omega, by show -200 ≤ (boxG p 0 0).r; omega, by show (boxG p 0 0).r ≤ 200; omega, by show -200 ≤ (boxG p 0 0).d; omega, by show (boxG p 0 0).d ≤ 200; omega⟩
def GPost (s : Gst) (w : World) (e : Ending) (w' : World) : Prop := ∃ v, e = .returned (gV s v) ∧ Tab w' v s.P.xs ∧ Fresh w v ∧ Below w.heap.size w w'
set_option maxRecDepth 100000 in
set_option maxHeartbeats 6400000 in
theorem refFirst_any (W H : Nat) (xs : List Int) (a : Option Addr) (n c : Nat) (w : World) (hP : ArgP w xs a n c) (hn : n = W * H) (hW : W ≤ 100) (hH : H ≤ 100) :
    Calls Tryd.prog 46 #[.agg #[.int .i64 (W : Int), .int .i64 (H : Int), .slice a n c]] w (GPost (firstG ⟨W, H, xs⟩) w) := by
  obtain ⟨w1, hw1⟩ : ∃ w1, (w.alloc (.cells #[.int .i64 (W : Int), .int .i64 (H : Int), .slice a n c] 26)).alloc (.cells #[.int .i64 0, .int .i64 0, .slice none 0 0, .int .i64 0, .int .i64 0] 36) = w1 := ⟨_, rfl⟩
  have BB : Below w.heap.size w w1 := by rw [← hw1]; exact ((Below.refl _ _).alloc (Nat.le_refl _) _).alloc (by simp) _
  have g0 : w1.heap[w.heap.size]? = some (.cells #[.int .i64 (W : Int), .int .i64 (H : Int), .slice a n c] 26 (0, 0)) := by rw [← hw1, Below.heap_alloc _ _ _ (by simp)]; exact heap_alloc_new _ _
  have g1 : w1.heap[w.heap.size + 1]? = some (.cells #[.int .i64 0, .int .i64 0, .slice none 0 0, .int .i64 0, .int .i64 0] 36 (0, 0)) := by rw [← hw1]; exact heap_atX _ _ _ (by simp)
  have c0 := cell_of_row w1 _ 0 _ _ _ g0
  have c1 := cell_of_row w1 _ 1 _ _ _ g0
  have c2' := cell_of_row w1 _ 2 _ _ _ g0
  simp at c0 c1 c2'
  have TC := hide' (refTrimB W H xs a n c w1 (hP.below BB) (by omega) (by omega) hn)
  have BH := hide' BB
  have G1 := hide' g1
  have TL := trim_ok ⟨W, H, xs⟩
  have BG : firstG ⟨W, H, xs⟩ = if (trimP ⟨W, H, xs⟩).1.W = 0 then noG else ⟨(trimP ⟨W, H, xs⟩).1, 0 + ((trimP ⟨W, H, xs⟩).2.1 : Int), 0 + ((trimP ⟨W, H, xs⟩).2.2 : Int)⟩ := rfl
  have TSH := hide' (trim_cases ⟨W, H, xs⟩)
  have BGH := hide' BG
  have tl := trim_le ⟨W, H, xs⟩ hW hH
  have TLH := hide' TL
  have tlH := hide' tl
  clear g0 g1 BB hP hn BG TL tl
  go_enter Tryd.func46, Tryd.ntmps46
  go_wp2_with (first | (go_at_call 79; refine TC.out.mono ?_))
  rintro e w5 ⟨v5, rfl, tb5, fr5, b5⟩
  have TS := TSH.out
  have BG := BGH.out
  have TL := TLH.out
  have tl := tlH.out
  obtain ⟨tp, htp⟩ : ∃ tp, trimP ⟨W, H, xs⟩ = tp := ⟨_, rfl⟩
  obtain ⟨⟨V, U, ts⟩, L, T⟩ := tp
  rw [htp] at tb5 TL BG TS tl ⊢
  dsimp only at tb5 TL BG tl ⊢
  have EG : firstG ⟨W, H, xs⟩ = ⟨⟨V, U, ts⟩, (L : Int), (T : Int)⟩ := by
    rw [BG]
    split
    · rcases TS with ⟨_, h1⟩ | ⟨l, t, r, b, hB, h1⟩
      · injection h1 with h1 h2
        injection h2 with h2 h3
        rw [h1, h2, h3]; rfl
      · exfalso
        injection h1 with h1 h2
        injection h1 with h1 h3
        obtain ⟨y, x, c, e⟩ := hB.le
        have := hB.inn _ _ c
        omega
    · rw [Int.zero_add, Int.zero_add]
  have tlen : ts.length ≤ 10000 := by rw [show ts.length = V * U from TL]; exact Nat.mul_le_mul tl.1 tl.2
  obtain ⟨va, vc, rfl, AP5⟩ := tab_arg tb5 (by unfold maxLen; omega)
  have EGH := hide' EG
  have T5 := hide' tb5
  have F5 := hide' fr5
  have e2 := (b5.block _ (lt_of_block G1.out)).trans G1.out
  have E2 := hide' e2
  have r0 := cell_of_row w5 _ 0 _ _ _ e2
  have r1 := cell_of_row w5 _ 1 _ _ _ e2
  have r2 := cell_of_row w5 _ 2 _ _ _ e2
  have r3 := cell_of_row w5 _ 3 _ _ _ e2
  have r4 := cell_of_row w5 _ 4 _ _ _ e2
  simp at r0 r1 r2 r3 r4
  have f0 := frozen_of_row w5 _ 0 _ _ e2
  have f1 := frozen_of_row w5 _ 1 _ _ e2
  have f2 := frozen_of_row w5 _ 2 _ _ e2
  have f3 := frozen_of_row w5 _ 3 _ _ e2
  have f4 := frozen_of_row w5 _ 4 _ _ e2
  have s5 : w.heap.size + 1 < w5.heap.size := lt_of_block e2
  have ne5 : ¬ w.heap.size + 1 = w5.heap.size := by omega
  have ne6 : ¬ w5.heap.size = w.heap.size + 1 := by omega
  have BE := hide' (BH.out.trans (b5.mono BH.out.size))
  have SB := hide' (lt_of_block G1.out)
  clear tb5 fr5 b5 AP5 TL BG TS tl htp EG e2 hw1 TSH BGH TLH tlH
  go_wp2
  obtain ⟨X, hXX⟩ : ∃ X, (((((w5.setCell ⟨w.heap.size + 1, 0, none⟩ (.int .i64 (V : Int))).setCell ⟨w.heap.size + 1, 1, none⟩ (.int .i64 (U : Int))).setCell ⟨w.heap.size + 1, 2, none⟩ (.slice va ts.length vc)).setCell ⟨w.heap.size + 1, 3, none⟩ (.int .i64 (L : Int))).setCell ⟨w.heap.size + 1, 4, none⟩ (.int .i64 (T : Int))).alloc (.cells #[.int .i64 (V : Int), .int .i64 (U : Int), .slice va ts.length vc] 26) = X := ⟨_, rfl⟩
  rw [hXX]
  have k0 : X.heap[w.heap.size + 1]? = some (.cells #[.int .i64 (V : Int), .int .i64 (U : Int), .slice va ts.length vc, .int .i64 (L : Int), .int .i64 (T : Int)] 36 (0, 0)) := by rw [← hXX]; exact five_set E2.out _ _ _ _ _ _
  have m0 := cell_of_row X _ 0 _ _ _ k0
  have m1 := cell_of_row X _ 1 _ _ _ k0
  have m2 := cell_of_row X _ 2 _ _ _ k0
  have m3 := cell_of_row X _ 3 _ _ _ k0
  have m4 := cell_of_row X _ 4 _ _ _ k0
  simp at m0 m1 m2 m3 m4
  have BQ : Below w.heap.size w X := by rw [← hXX]; exact five_below BE.out (by omega) (by omega) _ _ _ _ _ _
  refine bodyPost_ret (v := .agg #[.int .i64 (V : Int), .int .i64 (U : Int), .slice va ts.length vc, .int .i64 (L : Int), .int .i64 (T : Int)]) (by simp [results, Tryd.results46, go_sem, m0, m1, m2, m3, m4]) rfl ?_
  refine ⟨.slice va ts.length vc, by rw [EGH.out]; rfl, ?_, fun g k c h => Nat.le_trans BH.out.size (F5.out g k c h), BQ⟩
  rw [EGH.out]
  refine tab_keep T5.out (fun g k cap h => ?_)
  rw [← hXX]
  exact five_keep (by have := F5.out g k cap h; have := SB.out; omega) (tab_lt T5.out h) _ _ _ _ _ _
end Go.Proofs.YtdbgdfodoceadaaDoor

