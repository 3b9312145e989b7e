/-
  What the last text of this claim leans on, part 39: Gt5, Gt6, Gp0, Wa2, Gp3, Gp4, Gt7, Gt8, Gu1, Gt9, Gu2, Gu3, LawGr1, LawGr2, LawHj0, Hs0.
-/
import Derived.Test.YtemhcpldflcfbaaGreatDoorZj38
import Derived.Test.YtemhcpldflcfbaaGreatDoorZj4
import Derived.Test.YtemhcpldflcfbaaGreatDoorZj9
import Derived.Test.YtemhcpldflcfbaaGreatDoorZj35
import Derived.Test.YtemhcpldflcfbaaGreatDoorZj5
namespace Go.Proofs.YtemhcpldflcfbaaGreatDoor
open Go.RowKit
set_option linter.unusedVariables false
def gV (s : Gst) (v : Value) : Value := .agg #[.int .i64 (s.P.W : Int), .int .i64 (s.P.H : Int), v, .int .i64 s.r, .int .i64 s.d]
theorem box_le {q : Pat} (hW : q.W ≤ 102) (hH : q.H ≤ 102) (R D : Int) : (boxG q R D).P.W ≤ q.W ∧ (boxG q R D).P.H ≤ q.H := by
 unfold boxG
 rcases trim_cases q with ⟨h0, h1⟩ | ⟨l, t, r, b, hB, h1⟩
 ·rw [h1, if_pos rfl]; exact ⟨Nat.zero_le _, Nat.zero_le _⟩
 ·rw [h1]
  dsimp only
  split
  ·exact ⟨Nat.zero_le _, Nat.zero_le _⟩
  ·obtain ⟨y, x, c, e⟩ := hB.ri
   obtain ⟨y2, x2, c2, e2⟩ := hB.lo
   have := (cellP_at c).1
   have := (cellP_at c2).2.1
   dsimp only
   omega
theorem box_zero {q : Pat} {R D : Int} (h : (boxG q R D).P.W = 0) : boxG q R D = noG := by
 unfold boxG at h ⊢
 split
 ·rfl
 ·rename_i k; rw [if_neg k] at h; exact absurd h k
theorem noG_next {born stay : Nat} (b0 : born.testBit 0 = false) : nextG born stay noG = noG := by
 unfold nextG boxG
 have z : ∀ y x, cellP (nextC born stay noG.P) y x = false := fun y x => by
  rw [nextC_cell]
  have e : ∀ y x, c2 noG.P y x = false := fun y x => by simp [c2, cellP, noG]
  have : nxB born stay noG.P y x = false := by simp [nxB, nb2, e, b0]
  rw [this]; simp
 rcases trim_cases (nextC born stay noG.P) with ⟨h0, h1⟩ | ⟨l, t, r, b, hB, h1⟩
 ·rw [h1, if_pos rfl]
 ·obtain ⟨y, x, c, e⟩ := hB.le; rw [z] at c; cases c
theorem grow_ok {born stay : Nat} {s : Gst} (hs : GOk s) (hW : s.P.W ≤ 100) (hH : s.P.H ≤ 100) (hr : -200 ≤ s.r ∧ s.r ≤ 200 ∧ -200 ≤ s.d ∧ s.d ≤ 200) : ∀ n u, growG born stay s n = some u → GOk u ∧ u.P.W ≤ 100 ∧ u.P.H ≤ 100 ∧ -200 - 103 * (n : Int) ≤ u.r ∧ u.r ≤ 200 + 103 * (n : Int) ∧ -200 - 103 * (n : Int) ≤ u.d ∧ u.d ≤ 200 + 103 * (n : Int)
 | 0, u, h => by
  rw [growG] at h
  injection h with h
  subst h
  exact ⟨hs, hW, hH, by omega, by omega, by omega, by omega⟩
 | n + 1, u, h => by
  rw [growG] at h
  cases hg : growG born stay s n with
  | none => rw [hg] at h; cases h
  | some t =>
   rw [hg] at h
   dsimp only at h
   obtain ⟨i1, i2, i3, i4, i5, i6, i7⟩ := grow_ok hs hW hH hr n t hg
   split at h
   ·cases h
   ·rename_i nb
    injection h with h
    subst h
    have bn := box_near (q := nextC born stay t.P) (R := t.r - 1) (D := t.d - 1) (m := 200 + 103 * (n : Int)) (by show ((t.P.W + 2 : Nat) : Int) ≤ 102; omega) (by show ((t.P.H + 2 : Nat) : Int) ≤ 102; omega) (by omega) (by omega) (by omega) (by omega) (by omega)
    refine ⟨next_ok born stay t, by omega, by omega, ?_, ?_, ?_, ?_⟩
    ·have := bn.1; show _ ≤ (boxG _ _ _).r; push_cast; omega
    ·have := bn.2.1; show (boxG _ _ _).r ≤ _; push_cast; omega
    ·have := bn.2.2.1; show _ ≤ (boxG _ _ _).d; push_cast; omega
    ·have := bn.2.2.2; show (boxG _ _ _).d ≤ _; push_cast; omega
theorem first_ok {p : Pat} (hx : ∀ k, 0 ≤ p.xs.getD k 0 ∧ p.xs.getD k 0 ≤ 1) (hW : p.W ≤ 100) (hH : p.H ≤ 100) : GOk (firstG p) ∧ (firstG p).P.W ≤ 100 ∧ (firstG p).P.H ≤ 100 ∧ (-200 ≤ (firstG p).r ∧ (firstG p).r ≤ 200 ∧ -200 ≤ (firstG p).d ∧ (firstG p).d ≤ 200) := by
 have l := box_le (q := p) (by omega) (by omega) 0 0
 have bn := box_near (q := p) (R := 0) (D := 0) (m := 0) (by omega) (by omega) (by omega) (by omega) (by omega) (by omega) (by omega)
 exact ⟨box_ok hx 0 0, by show (boxG p 0 0).P.W ≤ 100; omega, by show (boxG p 0 0).P.H ≤ 100; omega, by show -200 ≤ (boxG p 0 0).r; omega, by show (boxG p 0 0).r ≤ 200; omega, by show -200 ≤ (boxG p 0 0).d; omega, by show (boxG p 0 0).d ≤ 200; omega⟩
def GPost (s : Gst) (w : World) (e : Ending) (w' : World) : Prop := ∃ v, e = .returned (gV s v) ∧ Tab w' v s.P.xs ∧ Fresh w v ∧ Below w.heap.size w w'
set_option maxRecDepth 100000 in
set_option maxHeartbeats 6400000 in
theorem refFirst_any (W H : Nat) (xs : List Int) (a : Option Addr) (n c : Nat) (w : World) (hP : ArgP w xs a n c) (hn : n = W * H) (hW : W ≤ 100) (hH : H ≤ 100) :
  Calls Tryz.prog 32 #[.agg #[.int .i64 (W : Int), .int .i64 (H : Int), .slice a n c]] w (GPost (firstG ⟨W, H, xs⟩) w) := by
 obtain ⟨w1, hw1⟩ : ∃ w1, (w.alloc (.cells #[.int .i64 (W : Int), .int .i64 (H : Int), .slice a n c] 26)).alloc (.cells #[.int .i64 0, .int .i64 0, .slice none 0 0, .int .i64 0, .int .i64 0] 39) = w1 := ⟨_, rfl⟩
 have BB : Below w.heap.size w w1 := by rw [← hw1]; exact ((Below.refl _ _).alloc (Nat.le_refl _) _).alloc (by simp) _
 have g0 : w1.heap[w.heap.size]? = some (.cells #[.int .i64 (W : Int), .int .i64 (H : Int), .slice a n c] 26 (0, 0)) := by rw [← hw1, Below.heap_alloc _ _ _ (by simp)]; exact heap_alloc_new _ _
 have g1 : w1.heap[w.heap.size + 1]? = some (.cells #[.int .i64 0, .int .i64 0, .slice none 0 0, .int .i64 0, .int .i64 0] 39 (0, 0)) := by rw [← hw1]; exact heap_atX _ _ _ (by simp)
 have c0 := cell_of_row w1 _ 0 _ _ _ g0
 have c1 := cell_of_row w1 _ 1 _ _ _ g0
 have c2' := cell_of_row w1 _ 2 _ _ _ g0
 simp at c0 c1 c2'
 have TC := hide' (refTrimB W H xs a n c w1 (hP.below BB) (by omega) (by omega) hn)
 have BH := hide' BB
 have G1 := hide' g1
 have TL := trim_ok ⟨W, H, xs⟩
 have BG : firstG ⟨W, H, xs⟩ = if (trimP ⟨W, H, xs⟩).1.W = 0 then noG else ⟨(trimP ⟨W, H, xs⟩).1, 0 + ((trimP ⟨W, H, xs⟩).2.1 : Int), 0 + ((trimP ⟨W, H, xs⟩).2.2 : Int)⟩ := rfl
 have TSH := hide' (trim_cases ⟨W, H, xs⟩)
 have BGH := hide' BG
 have tl := trim_le ⟨W, H, xs⟩ hW hH
 have TLH := hide' TL
 have tlH := hide' tl
 clear g0 g1 BB hP hn BG TL tl
 go_enter Tryz.func32, Tryz.ntmps32
 go_wp2_with (first | (go_at_call 63; refine TC.out.mono ?_))
 rintro e w5 ⟨v5, rfl, tb5, fr5, b5⟩
 have TS := TSH.out
 have BG := BGH.out
 have TL := TLH.out
 have tl := tlH.out
 obtain ⟨tp, htp⟩ : ∃ tp, trimP ⟨W, H, xs⟩ = tp := ⟨_, rfl⟩
 obtain ⟨⟨V, U, ts⟩, L, T⟩ := tp
 rw [htp] at tb5 TL BG TS tl ⊢
 dsimp only at tb5 TL BG tl ⊢
 have EG : firstG ⟨W, H, xs⟩ = ⟨⟨V, U, ts⟩, (L : Int), (T : Int)⟩ := by
  rw [BG]
  split
  ·rcases TS with ⟨_, h1⟩ | ⟨l, t, r, b, hB, h1⟩
   ·injection h1 with h1 h2
    injection h2 with h2 h3
    rw [h1, h2, h3]; rfl
   ·exfalso
    injection h1 with h1 h2
    injection h1 with h1 h3
    obtain ⟨y, x, c, e⟩ := hB.le
    have := hB.inn _ _ c
    omega
  ·rw [Int.zero_add, Int.zero_add]
 have tlen : ts.length ≤ 10000 := by rw [show ts.length = V * U from TL]; exact Nat.mul_le_mul tl.1 tl.2
 obtain ⟨va, vc, rfl, AP5⟩ := tab_arg tb5 (by unfold maxLen; omega)
 have EGH := hide' EG
 have T5 := hide' tb5
 have F5 := hide' fr5
 have e2 := (b5.block _ (lt_of_block G1.out)).trans G1.out
 have E2 := hide' e2
 have r0 := cell_of_row w5 _ 0 _ _ _ e2
 have r1 := cell_of_row w5 _ 1 _ _ _ e2
 have r2 := cell_of_row w5 _ 2 _ _ _ e2
 have r3 := cell_of_row w5 _ 3 _ _ _ e2
 have r4 := cell_of_row w5 _ 4 _ _ _ e2
 simp at r0 r1 r2 r3 r4
 have f0 := frozen_of_row w5 _ 0 _ _ e2
 have f1 := frozen_of_row w5 _ 1 _ _ e2
 have f2 := frozen_of_row w5 _ 2 _ _ e2
 have f3 := frozen_of_row w5 _ 3 _ _ e2
 have f4 := frozen_of_row w5 _ 4 _ _ e2
 have s5 : w.heap.size + 1 < w5.heap.size := lt_of_block e2
 have ne5 : ¬ w.heap.size + 1 = w5.heap.size := by omega
 have ne6 : ¬ w5.heap.size = w.heap.size + 1 := by omega
 have BE := hide' (BH.out.trans (b5.mono BH.out.size))
 have SB := hide' (lt_of_block G1.out)
 clear tb5 fr5 b5 AP5 TL BG TS tl htp EG e2 hw1 TSH BGH TLH tlH
 go_wp2
 obtain ⟨X, hXX⟩ : ∃ X, (((((w5.setCell ⟨w.heap.size + 1, 0, none⟩ (.int .i64 (V : Int))).setCell ⟨w.heap.size + 1, 1, none⟩ (.int .i64 (U : Int))).setCell ⟨w.heap.size + 1, 2, none⟩ (.slice va ts.length vc)).setCell ⟨w.heap.size + 1, 3, none⟩ (.int .i64 (L : Int))).setCell ⟨w.heap.size + 1, 4, none⟩ (.int .i64 (T : Int))).alloc (.cells #[.int .i64 (V : Int), .int .i64 (U : Int), .slice va ts.length vc] 26) = X := ⟨_, rfl⟩
 rw [hXX]
 have k0 : X.heap[w.heap.size + 1]? = some (.cells #[.int .i64 (V : Int), .int .i64 (U : Int), .slice va ts.length vc, .int .i64 (L : Int), .int .i64 (T : Int)] 39 (0, 0)) := by rw [← hXX]; exact five_set E2.out _ _ _ _ _ _
 have m0 := cell_of_row X _ 0 _ _ _ k0
 have m1 := cell_of_row X _ 1 _ _ _ k0
 have m2 := cell_of_row X _ 2 _ _ _ k0
 have m3 := cell_of_row X _ 3 _ _ _ k0
 have m4 := cell_of_row X _ 4 _ _ _ k0
 simp at m0 m1 m2 m3 m4
 have BQ : Below w.heap.size w X := by rw [← hXX]; exact five_below BE.out (by omega) (by omega) _ _ _ _ _ _
 refine bodyPost_ret (v := .agg #[.int .i64 (V : Int), .int .i64 (U : Int), .slice va ts.length vc, .int .i64 (L : Int), .int .i64 (T : Int)]) (by simp [results, Tryz.results32, go_sem, m0, m1, m2, m3, m4]) rfl ?_
 refine ⟨.slice va ts.length vc, by rw [EGH.out]; rfl, ?_, fun g k c h => Nat.le_trans BH.out.size (F5.out g k c h), BQ⟩
 rw [EGH.out]
 refine tab_keep T5.out (fun g k cap h => ?_)
 rw [← hXX]
 exact five_keep (by have := F5.out g k cap h; have := SB.out; omega) (tab_lt T5.out h) _ _ _ _ _ _
theorem big_iff (born stay : Nat) (s : Gst) : (100 < (trimP (nextC born stay s.P)).1.W ∨ 100 < (trimP (nextC born stay s.P)).1.H) ↔ (100 < (nextG born stay s).P.W ∨ 100 < (nextG born stay s).P.H) := by
 unfold nextG boxG
 rcases trim_cases (nextC born stay s.P) with ⟨h0, h1⟩ | ⟨l, t, r, b, hB, h1⟩
 ·rw [h1, if_pos rfl]; simp [noG]
 ·rw [h1]
  dsimp only
  obtain ⟨y, x, c, e⟩ := hB.le
  have := hB.inn _ _ c
  rw [if_neg (by omega)]
theorem grow_small {born stay : Nat} {s u : Gst} {i : Nat} (h : growG born stay s i = some u) (hb : ¬ (100 < (trimP (nextC born stay u.P)).1.W ∨ 100 < (trimP (nextC born stay u.P)).1.H)) : growG born stay s (i + 1) = some (nextG born stay u) := by
 rw [growG, h]
 dsimp only
 rw [if_neg (fun k => hb ((big_iff born stay u).2 k))]
structure GT (w w4 wr : World) (p : Nat) (s : Gst) (v : Value) : Prop where
 keep : ∀ k, k < w.heap.size + 1 + 1 + 1 → wr.heap[k]? = w4.heap[k]?
 blk : wr.heap[p]? = some (.cells #[.int .i64 (s.P.W : Int), .int .i64 (s.P.H : Int), v, .int .i64 s.r, .int .i64 s.d] 39 (0, 0))
 tab : Tab wr v s.P.xs
 fr : ∀ g k c, v = .slice (some ⟨g, 0, none⟩) k c → w.heap.size + 1 + 1 + 1 ≤ g ∧ g ≠ p
 pl : w.heap.size + 1 + 1 + 1 ≤ p
 below : Below w.heap.size w wr
structure RBp (p : Nat) (o : Out) (v : Value) (w : World) : Prop where
 c0 : w.cell? ⟨p, 0, none⟩ = some (.int .i64 o.kind)
 c1 : w.cell? ⟨p, 1, none⟩ = some (.int .i64 o.born)
 c2 : w.cell? ⟨p, 2, none⟩ = some (.int .i64 o.stay)
 c3 : w.cell? ⟨p, 3, none⟩ = some (.int .i64 o.states)
 c4 : w.cell? ⟨p, 4, none⟩ = some (.int .i64 o.radius)
 c5 : w.cell? ⟨p, 5, none⟩ = some v
 c6 : w.cell? ⟨p, 6, none⟩ = some (.string o.turns)
theorem RBp.lt {p : Nat} {o : Out} {v : Value} {w : World} (h : RBp p o v w) : p < w.heap.size := by
 rcases Nat.lt_or_ge p w.heap.size with k | k
 ·exact k
 ·have := h.c0; simp [World.cell?, Array.getElem?_eq_none k] at this
theorem RBp.block {p : Nat} {o : Out} {v : Value} {w w' : World} (h : RBp p o v w) (e : w'.heap[p]? = w.heap[p]?) : RBp p o v w' :=
 ⟨(World.cell?_of_block (w := w) (a := ⟨p, 0, none⟩) e).trans h.c0, (World.cell?_of_block (w := w) (a := ⟨p, 1, none⟩) e).trans h.c1, (World.cell?_of_block (w := w) (a := ⟨p, 2, none⟩) e).trans h.c2, (World.cell?_of_block (w := w) (a := ⟨p, 3, none⟩) e).trans h.c3, (World.cell?_of_block (w := w) (a := ⟨p, 4, none⟩) e).trans h.c4, (World.cell?_of_block (w := w) (a := ⟨p, 5, none⟩) e).trans h.c5, (World.cell?_of_block (w := w) (a := ⟨p, 6, none⟩) e).trans h.c6⟩
theorem RBp.next {p : Nat} {o : Out} {v : Value} {w w' : World} (h : RBp p o v w) (hb : Below w.heap.size w w') : RBp p o v w' := h.block (hb.block p h.lt)
set_option maxHeartbeats 1600000 in
theorem Shape_P (W H : Int) (xs : List Int) (a : Option Addr) (n c : Nat) (w : World) (hP : ArgP w xs a n c) :
  Calls Tryz.prog 8 #[.agg #[.int .i64 W, .int .i64 H, .slice a n c]] w fun e w' => e = .returned (.int .i64 ((shapeF W H xs : Nat) : Int)) ∧ Below w.heap.size w w' := by
 have HP := hide' (hP.alloc (.cells #[.int .i64 W, .int .i64 H, .slice a n c] 26))
 have hlen := hP.len
 have hmax := hP.max
 have HL := hide' hlen
 unfold maxLen at hmax
 clear hP hlen
 cases s1 : sideB W with
 | false =>
  have F := hide' (show shapeF W H xs = 1 by unfold shapeF; rw [s1]; rfl)
  rcases side_no s1 with h | h
  ·clear s1
   go_enter Tryz.func8, Tryz.ntmps8
   go_wp2
   go_ret
   rw [F.out]
   exact ⟨rfl, (Below.refl _ _).alloc (Nat.le_refl _) _⟩
  ·have h' : ¬ W < 0 := by omega
   clear s1
   go_enter Tryz.func8, Tryz.ntmps8
   go_wp2
   go_ret
   rw [F.out]
   exact ⟨rfl, (Below.refl _ _).alloc (Nat.le_refl _) _⟩
 | true =>
  cases s2 : sideB H with
  | false =>
   have F := hide' (show shapeF W H xs = 1 by unfold shapeF; rw [s1, s2]; rfl)
   obtain ⟨Wn, rfl, lW⟩ := side_nat s1
   have h1 : ¬ (Wn : Int) < 0 := by omega
   have h2 : ¬ 100 < (Wn : Int) := by omega
   rcases side_no s2 with h | h
   ·clear s1 s2
    go_enter Tryz.func8, Tryz.ntmps8
    go_wp2
    go_ret
    rw [F.out]
    exact ⟨rfl, (Below.refl _ _).alloc (Nat.le_refl _) _⟩
   ·have h' : ¬ H < 0 := by omega
    clear s1 s2
    go_enter Tryz.func8, Tryz.ntmps8
    go_wp2
    go_ret
    rw [F.out]
    exact ⟨rfl, (Below.refl _ _).alloc (Nat.le_refl _) _⟩
  | true =>
   obtain ⟨Wn, rfl, lW⟩ := side_nat s1
   obtain ⟨Hn, rfl, lH⟩ := side_nat s2
   have h1 : ¬ (Wn : Int) < 0 := by omega
   have h2 : ¬ 100 < (Wn : Int) := by omega
   have h3 : ¬ (Hn : Int) < 0 := by omega
   have h4 : ¬ 100 < (Hn : Int) := by omega
   obtain ⟨N, hN⟩ : ∃ N, Wn * Hn = N := ⟨_, rfl⟩
   have hNi : (Wn : Int) * (Hn : Int) = (N : Int) := by rw [← hN]; simp
   have hN4 : N ≤ 10000 := by rw [← hN]; exact Nat.mul_le_mul lW lH
   by_cases q : n = N
   ·have m1 : ((n : Int) != (N : Int)) = false := by simp; omega
    have FO := hide' (fun (h : xs.all cellB = true) => show shapeF Wn Hn xs = 0 by unfold shapeF; rw [s1, s2, if_pos (show (true && true) = true from rfl), if_pos (by rw [hNi, ← HL.out, q]), if_pos h])
    have FN := hide' (fun (h : xs.all cellB = false) => show shapeF Wn Hn xs = 1 by unfold shapeF; rw [s1, s2, if_pos (show (true && true) = true from rfl), if_pos (by rw [hNi, ← HL.out, q]), if_neg (by rw [h]; simp)])
    clear q hN s1 s2
    go_enter Tryz.func8, Tryz.ntmps8
    go_wp2
    go_loop [3] (fun kv => ∃ k : Nat, kv = .int .i64 (k : Int) ∧ k ≤ n ∧ ∀ j (h : j < xs.length), j < k → cellB xs[j] = true) (fun kv => n - (intOf kv).toNat)
    case atStart => exact ⟨0, rfl, by omega, fun j h hj => by omega⟩
    case round =>
     obtain ⟨k, rfl, hk, hall⟩ := hrel
     have HA := hide' hall
     clear hall
     by_cases d : (k : Int) < (n : Int)
     ·have hkl : k < xs.length := by have := HL.out; omega
      obtain ⟨g, off, rfl, hg, hc⟩ := HP.out.cells k hkl
      obtain ⟨x, hx⟩ : ∃ x, xs[k] = x := ⟨_, rfl⟩
      rw [hx] at hc
      have HX := hide' hx
      clear hx
      by_cases x0 : x < 0
      ·have X := hide' (show cellB x = false by unfold cellB; simp; omega)
       go_wp2
       go_ret
       rw [FN.out (all_bad hkl (by rw [HX.out]; exact X.out))]
       exact ⟨rfl, (Below.refl _ _).alloc (Nat.le_refl _) _⟩
      ·by_cases x1 : 1 < x
       ·have X := hide' (show cellB x = false by unfold cellB; simp; omega)
        go_wp2
        go_ret
        rw [FN.out (all_bad hkl (by rw [HX.out]; exact X.out))]
        exact ⟨rfl, (Below.refl _ _).alloc (Nat.le_refl _) _⟩
       ·have X := hide' (show cellB x = true by rw [cellB_iff]; omega)
        go_wp2
        refine ⟨⟨k + 1, by go_num, by omega, fun j h hj => ?_⟩, by simp [intOf]; omega⟩
        by_cases e : j = k
        ·subst e; rw [HX.out]; exact X.out
        ·exact HA.out j h (by omega)
     ·go_wp2
      go_ret
      rw [FO.out (all_ok fun j hj => HA.out j hj (by have := HL.out; omega))]
      exact ⟨rfl, (Below.refl _ _).alloc (Nat.le_refl _) _⟩
   ·have m1 : ((n : Int) != (N : Int)) = true := by simp; omega
    have F := hide' (show shapeF Wn Hn xs = 3 by unfold shapeF; rw [s1, s2, if_pos (show (true && true) = true from rfl), if_neg (by rw [hNi, ← HL.out]; omega)])
    clear q hN s1 s2
    go_enter Tryz.func8, Tryz.ntmps8
    go_wp2
    go_ret
    rw [F.out]
    exact ⟨rfl, (Below.refl _ _).alloc (Nat.le_refl _) _⟩





structure PG (w w4 wr : World) (p : Nat) (Z : Array Value) : Prop where
 keep : ∀ k, k < w.heap.size + 1 + 1 + 1 → wr.heap[k]? = w4.heap[k]?
 blk : wr.heap[p]? = some (.cells Z 110 (0, 0))
 pl : w.heap.size + 1 + 1 + 1 ≤ p
 below : Below w.heap.size w wr
theorem PG.next {w w4 wr w' : World} {p : Nat} {Z : Array Value} (h : PG w w4 wr p Z) (b : Below wr.heap.size wr w') : PG w w4 w' p Z := by
 have l := lt_of_block h.blk
 have := h.pl
 exact ⟨fun k hk => (b.block k (by omega)).trans (h.keep k hk), (b.block _ l).trans h.blk, h.pl, h.below.trans (b.mono h.below.size)⟩
structure PY (w w2 wr : World) (W H : Nat) (n p q : Nat) (f : Nat → Value) : Prop where
 keep : ∀ k, k < w2.heap.size → wr.heap[k]? = w2.heap[k]?
 pat : wr.heap[p]? = some (.cells #[.int .i64 (W : Int), .int .i64 (H : Int), .slice (some ⟨q, 0, none⟩) n n] 26 (0, 0))
 out : wr.heap[q]? = some (.cells (arrF n f) 3 (0, 0))
 pl : w2.heap.size ≤ p
 ql : w2.heap.size ≤ q
 ne : p ≠ q
 below : Below w.heap.size w wr
theorem PY.next {w w2 wr w' : World} {W H n p q : Nat} {f : Nat → Value} (h : PY w w2 wr W H n p q f) (b : Below wr.heap.size wr w') : PY w w2 w' W H n p q f := by
 have l := lt_of_block h.pat
 have := h.pl
 exact ⟨fun k hk => (b.block k (by omega)).trans (h.keep k hk), (b.block _ l).trans h.pat, (b.block _ (lt_of_block h.out)).trans h.out, h.pl, h.ql, h.ne, h.below.trans (b.mono h.below.size)⟩
theorem PY.set {w w2 wr : World} {W H n p q : Nat} {f : Nat → Value} (h : PY w w2 wr W H n p q f) (hb : w.heap.size ≤ w2.heap.size) (i : Nat) (v : Value) : PY w w2 (wr.setCell ⟨q, i, none⟩ v) W H n p q (fun k => if k = i then v else f k) :=
 ⟨fun k hk => (Below.heap_setCell _ _ _ _ (by have := h.ql; simp; omega)).trans (h.keep k hk), two_other h.pat _ _ _ h.ne, by rw [heap_setCell_same _ _ _ _ _ _ h.out, arrF_set], h.pl, h.ql, h.ne, h.below.setCell (by have := h.ql; simp; omega) _⟩
theorem PY.ext {w w2 wr : World} {W H n p q : Nat} {f g : Nat → Value} (h : PY w w2 wr W H n p q f) (e : ∀ k, k < n → f k = g k) : PY w w2 wr W H n p q g := ⟨h.keep, h.pat, by rw [← arrF_ext e]; exact h.out, h.pl, h.ql, h.ne, h.below⟩


theorem err_any (k : Nat) (w : World) (hg : Handle w) : Calls Tryz.prog 7 #[errOf k, .int .i64 (k : Int)] w fun e w' => e = .returned (.bool true) ∧ Below w.heap.size w w' := by
 by_cases h : k = 0
 ·subst h; exact err_nil_true w
 ·rw [show errOf k = .iface 56 (.int .i64 (k : Int)) by unfold errOf; rw [if_neg h]]; exact err_some_true _ w hg
theorem err_one (w : World) (hg : Handle w) : Calls Tryz.prog 7 #[.iface 56 (.int .i64 1), .int .i64 1] w fun e w' => e = .returned (.bool true) ∧ Below w.heap.size w w' := err_any 1 w hg
def LhS (o : Out) (ta : Option Addr) (tn tc : Nat) (W H : Int) (xs : List Int) (a : Option Addr) (n c : Nat) (w : World) (V : World) : Prop :=
 ArgR V o ta tn tc ∧ ArgP V xs a n c ∧ Handle V ∧ TzTab V ∧ V.heap[w.heap.size]? = some (.cells #[.int .i64 o.kind, .int .i64 o.born, .int .i64 o.stay, .int .i64 o.states, .int .i64 o.radius, .slice ta tn tc, .string o.turns] 24 (0, 0)) ∧ V.heap[w.heap.size + 1]? = some (.cells #[.int .i64 W, .int .i64 H, .slice a n c] 26 (0, 0)) ∧ Below w.heap.size w V
theorem LhS.start {o : Out} {ta : Option Addr} {tn tc : Nat} {W H : Int} {xs : List Int} {a : Option Addr} {n c : Nat} {w : World} (hR : ArgR w o ta tn tc) (hP : ArgP w xs a n c) (hg : Handle w) (hz : TzTab w) :
  LhS o ta tn tc W H xs a n c w ((w.alloc (.cells #[.int .i64 o.kind, .int .i64 o.born, .int .i64 o.stay, .int .i64 o.states, .int .i64 o.radius, .slice ta tn tc, .string o.turns] 24)).alloc (.cells #[.int .i64 W, .int .i64 H, .slice a n c] 26)) := by
 have b : Below w.heap.size w ((w.alloc (.cells #[.int .i64 o.kind, .int .i64 o.born, .int .i64 o.stay, .int .i64 o.states, .int .i64 o.radius, .slice ta tn tc, .string o.turns] 24)).alloc (.cells #[.int .i64 W, .int .i64 H, .slice a n c] 26)) := ((Below.refl _ _).alloc (Nat.le_refl _) _).alloc (by simp) _
 exact ⟨hR.below b, hP.below b, hg.below b, hz.below b, (heap_alloc_old _ _ (by simp)).trans (heap_alloc_new _ _), heap_atX _ _ _ (by simp), b⟩
theorem LhS.next {o : Out} {ta : Option Addr} {tn tc : Nat} {W H : Int} {xs : List Int} {a : Option Addr} {n c : Nat} {w V V' : World} (h : LhS o ta tn tc W H xs a n c w V) (b : Below V.heap.size V V') : LhS o ta tn tc W H xs a n c w V' := by
 obtain ⟨h1, h2, h3, h4, h5, h6, h7⟩ := h
 exact ⟨h1.below b, h2.below b, h3.below b, h4.below b, (b.block _ (lt_of_block h5)).trans h5, (b.block _ (lt_of_block h6)).trans h6, h7.trans (b.mono h7.size)⟩
set_option maxRecDepth 100000 in
set_option maxHeartbeats 6400000 in
theorem law_hj_no (o : Out) (ta : Option Addr) (tn tc : Nat) (W H : Int) (xs : List Int) (a : Option Addr) (n c : Nat) (r d k x y : Int) (w : World) (hR : ArgR w o ta tn tc) (hP : ArgP w xs a n c) (hg : Handle w) (hz : TzTab w) (hn : NoNew o) :
  Calls Tryz.prog 3 #[.agg #[.int .i64 o.kind, .int .i64 o.born, .int .i64 o.stay, .int .i64 o.states, .int .i64 o.radius, .slice ta tn tc, .string o.turns], .agg #[.int .i64 W, .int .i64 H, .slice a n c], .int .i64 r, .int .i64 d, .int .i64 k, .int .i64 x, .int .i64 y] w fun e w' => e = .returned (.bool true) ∧ Below w.heap.size w w' := by
 have L0 := LhS.start (W := W) (H := H) hR hP hg hz
 obtain ⟨w1, hw1⟩ : ∃ w1, (w.alloc (.cells #[.int .i64 o.kind, .int .i64 o.born, .int .i64 o.stay, .int .i64 o.states, .int .i64 o.radius, .slice ta tn tc, .string o.turns] 24)).alloc (.cells #[.int .i64 W, .int .i64 H, .slice a n c] 26) = w1 := ⟨_, rfl⟩
 rw [hw1] at L0
 have L1 := hide' L0
 have HW1 := hide' hw1
 have HN := hide' hn
 clear hw1 hR hP hg hz hn L0
 go_enter Tryz.func3, Tryz.ntmps3
 go_upto_region 1 with fail
 rw [HW1.out]
 have R0 := L1.out.2.2.2.2.1
 have x0 := cell_of_row w1 _ 0 _ _ _ R0
 have x1 := cell_of_row w1 _ 1 _ _ _ R0
 have x2 := cell_of_row w1 _ 2 _ _ _ R0
 have x3 := cell_of_row w1 _ 3 _ _ _ R0
 have x4 := cell_of_row w1 _ 4 _ _ _ R0
 have x5 := cell_of_row w1 _ 5 _ _ _ R0
 have x6 := cell_of_row w1 _ 6 _ _ _ R0
 simp at x0 x1 x2 x3 x4 x5 x6
 clear R0
 go_wp2_with fail
 refine (new_no o ta tn tc w1 L1.out.1 HN.out).mono ?_
 rintro e w2 ⟨rfl, b⟩
 have L2 := hide' (L1.out.next b)
 clear x0 x1 x2 x3 x4 x5 x6 b
 have R0 := L2.out.2.2.2.2.1
 have x0 := cell_of_row w2 _ 0 _ _ _ R0
 have x1 := cell_of_row w2 _ 1 _ _ _ R0
 have x2 := cell_of_row w2 _ 2 _ _ _ R0
 have x3 := cell_of_row w2 _ 3 _ _ _ R0
 have x4 := cell_of_row w2 _ 4 _ _ _ R0
 have x5 := cell_of_row w2 _ 5 _ _ _ R0
 have x6 := cell_of_row w2 _ 6 _ _ _ R0
 simp at x0 x1 x2 x3 x4 x5 x6
 clear R0
 go_wp2_with fail
 refine (Fault_any o ta tn tc w2 L2.out.1).mono ?_
 rintro e w3 ⟨⟨rfl, g⟩ | ⟨rfl, g⟩, b⟩
 ·have L3 := hide' (L2.out.next b)
  clear x0 x1 x2 x3 x4 x5 x6 b
  have R0 := L3.out.2.2.2.2.1
  have x0 := cell_of_row w3 _ 0 _ _ _ R0
  have x1 := cell_of_row w3 _ 1 _ _ _ R0
  simp at x0 x1
  clear R0
  rcases HN.out with q | ⟨_, q⟩ | ⟨_, q, b', e1, e2, e3⟩
  ·exact absurd g q
  ·have k1 : (o.kind != 1) = true := by simpa using q
   have k2 : (o.kind == 1) = false := by simpa using q
   clear g q
   go_wp2_with fail
   refine (err_one w3 L3.out.2.2.1).mono ?_
   rintro e w4 ⟨rfl, b⟩
   have FIN := hide' (L3.out.next b).2.2.2.2.2.2
   clear b x0 x1
   go_wp2
   go_ret
   exact ⟨rfl, FIN.out⟩
  ·have k1 : (o.kind != 1) = false := by simp [q]
   have k2 : (o.kind == 1) = true := by simp [q]
   rw [e1] at x1
   rw [q] at x0
   have md : (b' : Int) % 2 = 1 := by omega
   have HQ := hide' q
   clear g q e1 e2 e3
   go_wp2_with fail
   refine (err_one w3 L3.out.2.2.1).mono ?_
   rintro e w4 ⟨rfl, b⟩
   have FIN := hide' (L3.out.next b).2.2.2.2.2.2
   clear b x0 x1
   go_wp2
   go_ret
   exact ⟨rfl, FIN.out⟩
 ·have L3 := hide' (L2.out.next b)
  clear x0 x1 x2 x3 x4 x5 x6 b g
  go_wp2_with fail
  refine (err_one w3 L3.out.2.2.1).mono ?_
  rintro e w4 ⟨rfl, b⟩
  have FIN := hide' (L3.out.next b).2.2.2.2.2.2
  clear b
  go_wp2
  go_ret
  exact ⟨rfl, FIN.out⟩
def sum1 (f : Int → Int) (a : Int) : Nat → Int
 | 0 => 0
 | n + 1 => sum1 f a n + f (a + n)
def sum2 (F : Int → Int → Int) (a b : Int) (m k : Nat) : Int := sum1 (fun y => sum1 (fun x => F x y) a m) b k
theorem sum1_add (f : Int → Int) (a : Int) (p : Nat) : ∀ q, sum1 f a (p + q) = sum1 f a p + sum1 f (a + p) q
 | 0 => by show sum1 f a p = sum1 f a p + 0; omega
 | q + 1 => by
  show sum1 f a (p + q) + f (a + ((p + q : Nat) : Int)) = sum1 f a p + (sum1 f (a + p) q + f (a + p + q))
  rw [sum1_add f a p q, show a + ((p + q : Nat) : Int) = a + p + q by push_cast; omega]
  omega
theorem sum1_congr {f g : Int → Int} {a : Int} : ∀ {n : Nat}, (∀ x, a ≤ x → x < a + n → f x = g x) → sum1 f a n = sum1 g a n
 | 0, _ => rfl
 | n + 1, h => by
  show sum1 f a n + f (a + n) = sum1 g a n + g (a + n)
  rw [sum1_congr (n := n) (fun x h1 h2 => h x h1 (by push_cast; omega)), h (a + n) (by omega) (by push_cast; omega)]
theorem sum1_zero (a : Int) : ∀ n, sum1 (fun _ => 0) a n = 0
 | 0 => rfl
 | n + 1 => by show sum1 _ a n + 0 = 0; rw [sum1_zero a n]; rfl
theorem sum1_none {f : Int → Int} {a : Int} {n : Nat} (h : ∀ x, a ≤ x → x < a + n → f x = 0) : sum1 f a n = 0 := by
 rw [sum1_congr (g := fun _ => 0) h, sum1_zero]
theorem sum1_plus (f g : Int → Int) (a : Int) : ∀ n, sum1 (fun x => f x + g x) a n = sum1 f a n + sum1 g a n
 | 0 => rfl
 | n + 1 => by
  show sum1 (fun x => f x + g x) a n + (f (a + n) + g (a + n)) = (sum1 f a n + f (a + n)) + (sum1 g a n + g (a + n))
  rw [sum1_plus f g a n]; omega
theorem sum1_shift (f : Int → Int) (a s : Int) : ∀ n, sum1 (fun x => f (x - s)) a n = sum1 f (a - s) n
 | 0 => rfl
 | n + 1 => by
  show sum1 (fun x => f (x - s)) a n + f (a + n - s) = sum1 f (a - s) n + f (a - s + n)
  rw [sum1_shift f a s n, show a + n - s = a - s + n by omega]
theorem sum1_sub {f : Int → Int} {l : Int} {m : Nat} (h : ∀ x, ¬ (l ≤ x ∧ x < l + m) → f x = 0) {a : Int} {n : Nat} (ha : a ≤ l) (hn : l + m ≤ a + n) : sum1 f a n = sum1 f l m := by
 obtain ⟨p, hp⟩ : ∃ p : Nat, l = a + p := ⟨(l - a).toNat, by omega⟩
 obtain ⟨q, hq⟩ : ∃ q : Nat, n = p + m + q := ⟨n - p - m, by omega⟩
 subst hp hq
 rw [sum1_add, sum1_add, sum1_none (n := p) (fun x h1 h2 => h x (by omega)), sum1_none (n := q) (fun x h1 h2 => h x (by push_cast at h1; omega))]
 omega
theorem sum2_plus (F G : Int → Int → Int) (a b : Int) (m k : Nat) : sum2 (fun x y => F x y + G x y) a b m k = sum2 F a b m k + sum2 G a b m k := by
 unfold sum2
 rw [← sum1_plus]
 exact sum1_congr fun y _ _ => sum1_plus _ _ _ _
theorem sum2_shift (F : Int → Int → Int) (a b s t : Int) (m k : Nat) : sum2 (fun x y => F (x - s) (y - t)) a b m k = sum2 F (a - s) (b - t) m k := by
 unfold sum2
 rw [← sum1_shift]
 exact sum1_congr fun y _ _ => sum1_shift (fun x => F x (y - t)) a s m
theorem sum2_sub {F : Int → Int → Int} {l u : Int} {m k : Nat} (h : ∀ x y, ¬ (l ≤ x ∧ x < l + m ∧ u ≤ y ∧ y < u + k) → F x y = 0) {a b : Int} {m' k' : Nat} (ha : a ≤ l) (hm : l + m ≤ a + m') (hb : b ≤ u) (hk : u + k ≤ b + k') : sum2 F a b m' k' = sum2 F l u m k := by
 unfold sum2
 rw [sum1_sub (l := u) (m := k) (fun y hy => sum1_none fun x _ _ => h x y (by omega)) hb hk]
 exact sum1_congr fun y _ _ => sum1_sub (fun x hx => h x y (by omega)) ha hm
theorem sum2_any {F : Int → Int → Int} {l u l' u' : Int} {m k m' k' : Nat} (h : ∀ x y, ¬ (l ≤ x ∧ x < l + m ∧ u ≤ y ∧ y < u + k) → F x y = 0) (h' : ∀ x y, ¬ (l' ≤ x ∧ x < l' + m' ∧ u' ≤ y ∧ y < u' + k') → F x y = 0) : sum2 F l u m k = sum2 F l' u' m' k' := by
 have e := sum2_sub h (a := min l l') (b := min u u') (m' := (max (l + m) (l' + m') - min l l').toNat) (k' := (max (u + k) (u' + k') - min u u').toNat) (by omega) (by omega) (by omega) (by omega)
 have e' := sum2_sub h' (a := min l l') (b := min u u') (m' := (max (l + m) (l' + m') - min l l').toNat) (k' := (max (u + k) (u' + k') - min u u').toNat) (by omega) (by omega) (by omega) (by omega)
 rw [← e, e']
theorem popW_eight (k : Nat) : ((popW 8 k : Nat) : Int) = sum1 (fun x => ((k / 2 ^ x.toNat % 2 : Nat) : Int)) 0 8 := by
 simp only [popW, sum1, Nat.div_div_eq_div_mul]
 simp
 omega
theorem pop_rows (k : Nat) : ∀ n, n ≤ 8 → ((popW (8 * n) k : Nat) : Int) = sum2 (bitQ k) 0 0 8 n
 | 0, _ => rfl
 | n + 1, hn => by
  rw [show 8 * (n + 1) = 8 * n + 8 by omega, popW_add]
  show _ = sum2 (bitQ k) 0 0 8 n + sum1 (fun x => bitQ k x (0 + n)) 0 8
  rw [← pop_rows k n (by omega)]
  push_cast
  rw [popW_eight]
  congr 1
  refine sum1_congr fun x h1 h2 => ?_
  unfold bitQ
  rw [if_pos (by omega), Nat.div_div_eq_div_mul, ← Nat.pow_add]
  congr 4
  omega
theorem lvC_sum {qs : List Sq} : ∀ n t, ((lvC qs n t : Nat) : Int) = sum2 (valQ qs n t) 0 0 (8 * 2 ^ n) (8 * 2 ^ n)
 | 0, t => pop_rows (sqA qs t).k 8 (by omega)
 | n + 1, t => by
  have side : sideI n = ((8 * 2 ^ n : Nat) : Int) := by unfold sideI; push_cast; rfl
  have s2 : (8 * 2 ^ (n + 1) : Nat) = 2 * (8 * 2 ^ n) := by rw [Nat.pow_succ]; omega
  rw [s2]
  obtain ⟨S, hS⟩ : ∃ S : Nat, 8 * 2 ^ n = S := ⟨_, rfl⟩
  have ih := fun t => lvC_sum (qs := qs) n t
  rw [hS] at side ih ⊢
  have out : ∀ t x y, ¬ (0 ≤ x ∧ x < (S : Int) ∧ 0 ≤ y ∧ y < (S : Int)) → valQ qs n t x y = 0 := fun t x y h => val_out n t x y (by rw [side]; exact h)
  have e : valQ qs (n + 1) t = fun x y => ((valQ qs n (sqA qs t).a x y + valQ qs n (sqA qs t).b (x - S) (y - 0)) + valQ qs n (sqA qs t).c (x - 0) (y - S)) + valQ qs n (sqA qs t).d (x - S) (y - S) := by
   funext x y
   rw [val_step, side, Int.sub_zero, Int.sub_zero]
  rw [e, sum2_plus, sum2_plus, sum2_plus, sum2_shift, sum2_shift, sum2_shift]
  have g : ∀ t (p q : Int), (p = 0 ∨ p = S) → (q = 0 ∨ q = S) → sum2 (valQ qs n t) (0 - p) (0 - q) (2 * S) (2 * S) = ((lvC qs n t : Nat) : Int) := fun t p q hp hq => by
   rw [ih t]
   exact sum2_sub (fun x y h => out t x y (by omega)) (by omega) (by push_cast; omega) (by omega) (by push_cast; omega)
  have g0 := g (sqA qs t).a 0 0 (Or.inl rfl) (Or.inl rfl)
  rw [show (0 : Int) - 0 = 0 by rfl] at g0
  rw [g0, g _ _ _ (Or.inr rfl) (Or.inl rfl), g _ _ _ (Or.inl rfl) (Or.inr rfl), g _ _ _ (Or.inr rfl) (Or.inr rfl)]
  show ((lvC qs n (sqA qs t).a + lvC qs n (sqA qs t).b + lvC qs n (sqA qs t).c + lvC qs n (sqA qs t).d : Nat) : Int) = _
  push_cast
  rfl
theorem lvC_plane {qs : List Sq} {n t : Nat} {F : Int → Int → Int} {fr fd : Int} (hv : ∀ u v, valQ qs n t (u - fr) (v - fd) = F u v) {l u : Int} {m k : Nat} (h : ∀ x y, ¬ (l ≤ x ∧ x < l + m ∧ u ≤ y ∧ y < u + k) → F x y = 0) : ((lvC qs n t : Nat) : Int) = sum2 F l u m k := by
 have side : sideI n = ((8 * 2 ^ n : Nat) : Int) := by unfold sideI; push_cast; rfl
 have e : F = fun x y => valQ qs n t (x - fr) (y - fd) := by funext x y; exact (hv x y).symm
 have o : ∀ x y, ¬ (fr ≤ x ∧ x < fr + ((8 * 2 ^ n : Nat) : Int) ∧ fd ≤ y ∧ y < fd + ((8 * 2 ^ n : Nat) : Int)) → F x y = 0 := fun x y q => by
  rw [← hv]
  exact val_out n t _ _ (by rw [side]; omega)
 rw [← sum2_any o h, lvC_sum]
 rw [e, sum2_shift, Int.sub_self, Int.sub_self]
end Go.Proofs.YtemhcpldflcfbaaGreatDoor
