/-
  What the last text of this claim leans on, part 44: Wf4, Gt4, Gt5, Gt6, Gp0, Wa2, Gp3, Gp4, Gt7, Gt8.
-/
import Derived.Test.YtemhcpldflcfbaaGreatDoorYf43
import Derived.Test.YtemhcpldflcfbaaGreatDoorYf2
import Derived.Test.YtemhcpldflcfbaaGreatDoorYf9
import Derived.Test.YtemhcpldflcfbaaGreatDoorYf39
namespace Go.Proofs.YtemhcpldflcfbaaGreatDoor
open Go.RowKit
set_option linter.unusedVariables false

structure NT (w w4 wr : World) (W2 H2 : Int) (v : Value) (ys : List Int) : Prop where
 keep : ∀ k, k < w.heap.size + 1 + 1 + 1 → wr.heap[k]? = w4.heap[k]?
 q : TB (w.heap.size + 1 + 1 + 1) (.int .i64 W2) (.int .i64 H2) v wr
 own : wr.ownsRow (w.heap.size + 1 + 1 + 1 + 1) 3 1 v ys.length (ys.map fun x => .int .i64 x)
 below : Below w.heap.size w wr
 sz : w.heap.size + 1 + 1 + 1 + 1 ≤ wr.heap.size
theorem NT.next {w w4 wr w' : World} {W2 H2 : Int} {v : Value} {ys : List Int} (h : NT w w4 wr W2 H2 v ys) (hb : Below wr.heap.size wr w') : NT w w4 w' W2 H2 v ys := by
 have hz := h.sz
 exact ⟨fun k hk => (hb.block k (by omega)).trans (h.keep k hk), h.q.next hb, ownsRow_from h.own fun k _ hk => hb.block k hk, h.below.trans (hb.mono (by omega)), by have := hb.size; omega⟩
theorem NT.grown {w w4 wr w' : World} {W2 H2 : Int} {v : Value} {ys : List Int} (h : NT w w4 wr W2 H2 v ys) (x : Int) (hg : (wr.alloc (.cells #[.int .i64 x] 3)).grownBy w' v.ownBlock) : ∀ k, k < w.heap.size + 1 + 1 + 1 + 1 → w'.heap[k]? = wr.heap[k]? := fun k hk => by
 have hz := h.sz
 have hob := ownsRow_block h.own
 rw [hg.block k (by rw [World.size_alloc]; omega) (fun e => by have := hob k e.symm; omega)]
 exact Below.heap_alloc _ _ _ (by omega)
theorem box_le {q : Pat} (hW : q.W ≤ 102) (hH : q.H ≤ 102) (R D : Int) : (boxG q R D).P.W ≤ q.W ∧ (boxG q R D).P.H ≤ q.H := by
 unfold boxG
 rcases trim_cases q with ⟨h0, h1⟩ | ⟨l, t, r, b, hB, h1⟩
 ·rw [h1, if_pos rfl]; exact ⟨Nat.zero_le _, Nat.zero_le _⟩
 ·rw [h1]
  dsimp only
  split
  ·exact ⟨Nat.zero_le _, Nat.zero_le _⟩
  ·obtain ⟨y, x, c, e⟩ := hB.ri
   obtain ⟨y2, x2, c2, e2⟩ := hB.lo
   have := (cellP_at c).1
   have := (cellP_at c2).2.1
   dsimp only
   omega
theorem box_zero {q : Pat} {R D : Int} (h : (boxG q R D).P.W = 0) : boxG q R D = noG := by
 unfold boxG at h ⊢
 split
 ·rfl
 ·rename_i k; rw [if_neg k] at h; exact absurd h k
theorem noG_next {born stay : Nat} (b0 : born.testBit 0 = false) : nextG born stay noG = noG := by
 unfold nextG boxG
 have z : ∀ y x, cellP (nextC born stay noG.P) y x = false := fun y x => by
  rw [nextC_cell]
  have e : ∀ y x, c2 noG.P y x = false := fun y x => by simp [c2, cellP, noG]
  have : nxB born stay noG.P y x = false := by simp [nxB, nb2, e, b0]
  rw [this]; simp
 rcases trim_cases (nextC born stay noG.P) with ⟨h0, h1⟩ | ⟨l, t, r, b, hB, h1⟩
 ·rw [h1, if_pos rfl]
 ·obtain ⟨y, x, c, e⟩ := hB.le; rw [z] at c; cases c
theorem grow_ok {born stay : Nat} {s : Gst} (hs : GOk s) (hW : s.P.W ≤ 100) (hH : s.P.H ≤ 100) (hr : -200 ≤ s.r ∧ s.r ≤ 200 ∧ -200 ≤ s.d ∧ s.d ≤ 200) : ∀ n u, growG born stay s n = some u → GOk u ∧ u.P.W ≤ 100 ∧ u.P.H ≤ 100 ∧ -200 - 103 * (n : Int) ≤ u.r ∧ u.r ≤ 200 + 103 * (n : Int) ∧ -200 - 103 * (n : Int) ≤ u.d ∧ u.d ≤ 200 + 103 * (n : Int)
 | 0, u, h => by
  rw [growG] at h
  injection h with h
  subst h
  exact ⟨hs, hW, hH, by omega, by omega, by omega, by omega⟩
 | n + 1, u, h => by
  rw [growG] at h
  cases hg : growG born stay s n with
  | none => rw [hg] at h; cases h
  | some t =>
   rw [hg] at h
   dsimp only at h
   obtain ⟨i1, i2, i3, i4, i5, i6, i7⟩ := grow_ok hs hW hH hr n t hg
   split at h
   ·cases h
   ·rename_i nb
    injection h with h
    subst h
    have bn := box_near (q := nextC born stay t.P) (R := t.r - 1) (D := t.d - 1) (m := 200 + 103 * (n : Int)) (by show ((t.P.W + 2 : Nat) : Int) ≤ 102; omega) (by show ((t.P.H + 2 : Nat) : Int) ≤ 102; omega) (by omega) (by omega) (by omega) (by omega) (by omega)
    refine ⟨next_ok born stay t, by omega, by omega, ?_, ?_, ?_, ?_⟩
    ·have := bn.1; show _ ≤ (boxG _ _ _).r; push_cast; omega
    ·have := bn.2.1; show (boxG _ _ _).r ≤ _; push_cast; omega
    ·have := bn.2.2.1; show _ ≤ (boxG _ _ _).d; push_cast; omega
    ·have := bn.2.2.2; show (boxG _ _ _).d ≤ _; push_cast; omega
theorem first_ok {p : Pat} (hx : ∀ k, 0 ≤ p.xs.getD k 0 ∧ p.xs.getD k 0 ≤ 1) (hW : p.W ≤ 100) (hH : p.H ≤ 100) : GOk (firstG p) ∧ (firstG p).P.W ≤ 100 ∧ (firstG p).P.H ≤ 100 ∧ (-200 ≤ (firstG p).r ∧ (firstG p).r ≤ 200 ∧ -200 ≤ (firstG p).d ∧ (firstG p).d ≤ 200) := by
 have l := box_le (q := p) (by omega) (by omega) 0 0
 have bn := box_near (q := p) (R := 0) (D := 0) (m := 0) (by omega) (by omega) (by omega) (by omega) (by omega) (by omega) (by omega)
 exact ⟨box_ok hx 0 0, by show (boxG p 0 0).P.W ≤ 100; omega, by show (boxG p 0 0).P.H ≤ 100; omega, by show -200 ≤ (boxG p 0 0).r; omega, by show (boxG p 0 0).r ≤ 200; omega, by show -200 ≤ (boxG p 0 0).d; omega, by show (boxG p 0 0).d ≤ 200; omega⟩
theorem grow_stays {born stay : Nat} {s : Gst} {m : Nat} (h : growG born stay s m = none) : ∀ k, growG born stay s (m + k) = none
 | 0 => h
 | k + 1 => by rw [← Nat.add_assoc, growG, grow_stays h k]
structure RBp (p : Nat) (o : Out) (v : Value) (w : World) : Prop where
 c0 : w.cell? ⟨p, 0, none⟩ = some (.int .i64 o.kind)
 c1 : w.cell? ⟨p, 1, none⟩ = some (.int .i64 o.born)
 c2 : w.cell? ⟨p, 2, none⟩ = some (.int .i64 o.stay)
 c3 : w.cell? ⟨p, 3, none⟩ = some (.int .i64 o.states)
 c4 : w.cell? ⟨p, 4, none⟩ = some (.int .i64 o.radius)
 c5 : w.cell? ⟨p, 5, none⟩ = some v
 c6 : w.cell? ⟨p, 6, none⟩ = some (.string o.turns)
theorem RBp.lt {p : Nat} {o : Out} {v : Value} {w : World} (h : RBp p o v w) : p < w.heap.size := by
 rcases Nat.lt_or_ge p w.heap.size with k | k
 ·exact k
 ·have := h.c0; simp [World.cell?, Array.getElem?_eq_none k] at this
theorem RBp.block {p : Nat} {o : Out} {v : Value} {w w' : World} (h : RBp p o v w) (e : w'.heap[p]? = w.heap[p]?) : RBp p o v w' :=
 ⟨(World.cell?_of_block (w := w) (a := ⟨p, 0, none⟩) e).trans h.c0, (World.cell?_of_block (w := w) (a := ⟨p, 1, none⟩) e).trans h.c1, (World.cell?_of_block (w := w) (a := ⟨p, 2, none⟩) e).trans h.c2, (World.cell?_of_block (w := w) (a := ⟨p, 3, none⟩) e).trans h.c3, (World.cell?_of_block (w := w) (a := ⟨p, 4, none⟩) e).trans h.c4, (World.cell?_of_block (w := w) (a := ⟨p, 5, none⟩) e).trans h.c5, (World.cell?_of_block (w := w) (a := ⟨p, 6, none⟩) e).trans h.c6⟩
theorem RBp.next {p : Nat} {o : Out} {v : Value} {w w' : World} (h : RBp p o v w) (hb : Below w.heap.size w w') : RBp p o v w' := h.block (hb.block p h.lt)
theorem RBp.new (w : World) (o : Out) (v : Value) (t : TypeId) : RBp w.heap.size o v (w.alloc (.cells #[.int .i64 o.kind, .int .i64 o.born, .int .i64 o.stay, .int .i64 o.states, .int .i64 o.radius, v, .string o.turns] t)) :=
 ⟨by rw [World.cell?_alloc_at _ _ _ _ rfl]; rfl, by rw [World.cell?_alloc_at _ _ _ _ rfl]; rfl, by rw [World.cell?_alloc_at _ _ _ _ rfl]; rfl, by rw [World.cell?_alloc_at _ _ _ _ rfl]; rfl, by rw [World.cell?_alloc_at _ _ _ _ rfl]; rfl, by rw [World.cell?_alloc_at _ _ _ _ rfl]; rfl, by rw [World.cell?_alloc_at _ _ _ _ rfl]; rfl⟩

def plaE (o : Out) (W H : Int) (xs : List Int) (f : Nat) : Prop := (¬ Good o ∧ f = 1) ∨ (Good o ∧ shapeF W H xs ≠ 0 ∧ f = shapeF W H xs) ∨ (Good o ∧ shapeF W H xs = 0 ∧ o.kind ≠ 1 ∧ f = 1) ∨ (Good o ∧ shapeF W H xs = 0 ∧ o.kind = 1 ∧ f = 0)
theorem plaE_only {o : Out} {W H : Int} {xs : List Int} {f g : Nat} (h : plaE o W H xs f) (k : plaE o W H xs g) : f = g := by
 rcases h with ⟨a, b⟩ | ⟨a, b, c⟩ | ⟨a, b, c, d⟩ | ⟨a, b, c, d⟩ <;> rcases k with ⟨a', b'⟩ | ⟨a', b', c'⟩ | ⟨a', b', c', d'⟩ | ⟨a', b', c', d'⟩ <;> first | (exact absurd a' a) | (exact absurd a a') | (exact absurd b' b) | (exact absurd b b') | (exact absurd c' c) | (exact absurd c c') | omega
set_option maxRecDepth 100000 in
set_option maxHeartbeats 6400000 in
theorem planeCheck_any (o : Out) (ta : Option Addr) (tn tc : Nat) (W H : Int) (xs : List Int) (a : Option Addr) (n c : Nat) (w : World) (hR : ArgR w o ta tn tc) (hP : ArgP w xs a n c) :
  Calls Tryz.prog 73 #[.agg #[.int .i64 o.kind, .int .i64 o.born, .int .i64 o.stay, .int .i64 o.states, .int .i64 o.radius, .slice ta tn tc, .string o.turns], .agg #[.int .i64 W, .int .i64 H, .slice a n c]] w fun e w' => (∃ f, plaE o W H xs f ∧ e = .returned (errOf f)) ∧ Below w.heap.size w w' := by
 obtain ⟨w1, hw1⟩ : ∃ w1, (w.alloc (.cells #[.int .i64 o.kind, .int .i64 o.born, .int .i64 o.stay, .int .i64 o.states, .int .i64 o.radius, .slice ta tn tc, .string o.turns] 24)).alloc (.cells #[.int .i64 W, .int .i64 H, .slice a n c] 26) = w1 := ⟨_, rfl⟩
 have BB := hide' (show Below w.heap.size w w1 by rw [← hw1]; exact ((Below.refl _ _).alloc (Nat.le_refl _) _).alloc (by simp) _)
 have RX := hide' (show RBp w.heap.size o (.slice ta tn tc) w1 by rw [← hw1]; exact (RBp.new w o (.slice ta tn tc) 24).block (Below.heap_alloc _ _ _ (by simp)))
 have y0 : w1.cell? ⟨w.heap.size + 1, 0, none⟩ = some (.int .i64 W) := by rw [← hw1, World.cell?_alloc_at _ _ _ _ (by simp)]; rfl
 have y1 : w1.cell? ⟨w.heap.size + 1, 1, none⟩ = some (.int .i64 H) := by rw [← hw1, World.cell?_alloc_at _ _ _ _ (by simp)]; rfl
 have y2 : w1.cell? ⟨w.heap.size + 1, 2, none⟩ = some (.slice a n c) := by rw [← hw1, World.cell?_alloc_at _ _ _ _ (by simp)]; rfl
 have PL : w.heap.size + 1 < w1.heap.size := by rw [← hw1]; simp
 have PX := hide' (fun (w' : World) (hb : Below w1.heap.size w1 w') => show w'.cell? ⟨w.heap.size + 1, 0, none⟩ = some (.int .i64 W) ∧ w'.cell? ⟨w.heap.size + 1, 1, none⟩ = some (.int .i64 H) ∧ w'.cell? ⟨w.heap.size + 1, 2, none⟩ = some (.slice a n c) from
  have e := hb.block (w.heap.size + 1) PL
  ⟨(World.cell?_of_block (w := w1) (a := ⟨w.heap.size + 1, 0, none⟩) e).trans y0, (World.cell?_of_block (w := w1) (a := ⟨w.heap.size + 1, 1, none⟩) e).trans y1, (World.cell?_of_block (w := w1) (a := ⟨w.heap.size + 1, 2, none⟩) e).trans y2⟩)
 have AT := hide' (show ArgR w1 o ta tn tc by rw [← hw1]; exact (hR.alloc _).alloc _)
 have AP := hide' (hP.below BB.out)
 clear hR hP y0 y1 y2 PL
 have C0 := hide' (Below.refl w1.heap.size w1)
 obtain ⟨x0, x1, x2, x3, x4, x5, x6⟩ := RX.out
 go_enter Tryz.func73, Tryz.ntmps73
 go_wp2_with fail
 refine (Check_any o ta tn tc _ (AT.out.below C0.out)).mono ?_
 rintro e w2 ⟨hor, b⟩
 have C1 := hide' (C0.out.trans (b.mono C0.out.size))
 clear hw1 b x0 x1 x2 x3 x4 x5 x6 C0
 obtain ⟨x0, x1, x2, x3, x4, x5, x6⟩ := RX.out.next C1.out
 obtain ⟨y0, y1, y2⟩ := PX.out _ C1.out
 rcases hor with ⟨rfl, hG⟩ | ⟨rfl, hG⟩
 ·have HG := hide' hG
  clear hG
  go_wp2_with fail
  refine (Check_P W H xs a n c _ (AP.out.below C1.out)).mono ?_
  obtain ⟨f, hf⟩ : ∃ f, shapeF W H xs = f := ⟨_, rfl⟩
  have HF := hide' hf
  rw [hf]
  clear hf
  rintro e w3 ⟨rfl, b⟩
  have C2 := hide' (C1.out.trans (b.mono C1.out.size))
  clear b x0 x1 x2 x3 x4 x5 x6 y0 y1 y2 C1
  obtain ⟨x0, x1, x2, x3, x4, x5, x6⟩ := RX.out.next C2.out
  by_cases f0 : f = 0
  ·subst f0
   rw [show errOf 0 = .nilIface from rfl]
   by_cases k1 : o.kind = 1
   ·have kb : (o.kind != 1) = false := by simp [k1]
    have PE := hide' (show plaE o W H xs 0 from Or.inr (Or.inr (Or.inr ⟨HG.out, HF.out, k1, rfl⟩)))
    clear k1
    go_wp2
    go_ret
    exact ⟨⟨0, PE.out, rfl⟩, BB.out.trans (C2.out.mono BB.out.size)⟩
   ·have kb : (o.kind != 1) = true := by simp [k1]
    have PE := hide' (show plaE o W H xs 1 from Or.inr (Or.inr (Or.inl ⟨HG.out, HF.out, k1, rfl⟩)))
    clear k1
    go_wp2
    go_ret
    exact ⟨⟨1, PE.out, rfl⟩, BB.out.trans (C2.out.mono BB.out.size)⟩
  ·have PE := hide' (show plaE o W H xs f from Or.inr (Or.inl ⟨HG.out, by rw [HF.out]; exact f0, HF.out.symm⟩))
   rw [show errOf f = .iface 56 (.int .i64 (f : Int)) from if_neg f0]
   have EF := hide' (show errOf f = .iface 56 (.int .i64 (f : Int)) from if_neg f0)
   clear f0
   go_wp2
   go_ret
   exact ⟨⟨f, PE.out, by rw [EF.out]; rfl⟩, BB.out.trans (C2.out.mono BB.out.size)⟩
 ·have PE := hide' (show plaE o W H xs 1 from Or.inl ⟨hG, rfl⟩)
  clear hG
  go_wp2
  go_ret
  exact ⟨⟨1, PE.out, rfl⟩, BB.out.trans (C1.out.mono BB.out.size)⟩

def grE (o : Out) (W H : Int) (xs : List Int) (f : Nat) : Prop := (∃ g, plaE o W H xs g ∧ g ≠ 0 ∧ f = g) ∨ (plaE o W H xs 0 ∧ o.born % 2 = 1 ∧ f = 1) ∨ (plaE o W H xs 0 ∧ o.born % 2 = 0 ∧ f = 0)
theorem pla_good {o : Out} {W H : Int} {xs : List Int} (h : plaE o W H xs 0) : ∃ b s : Nat, o.born = (b : Int) ∧ o.stay = (s : Int) ∧ b ≤ 511 ∧ s ≤ 511 ∧ o.kind = 1 ∧ shapeF W H xs = 0 := by
 rcases h with ⟨_, h⟩ | ⟨_, h1, h2⟩ | ⟨_, _, _, h⟩ | ⟨hg, hs, hk, _⟩
 ·omega
 ·exact absurd h2.symm h1
 ·omega
 ·rcases hg with ⟨_, h1, h2, _⟩ | ⟨h, _⟩ | ⟨h, _⟩
  ·unfold bitsB at h1 h2
   simp at h1 h2
   exact ⟨o.born.toNat, o.stay.toNat, by omega, by omega, by omega, by omega, hk, hs⟩
  ·omega
  ·omega
set_option maxRecDepth 100000 in
set_option maxHeartbeats 6400000 in
theorem checkGrowth_any (o : Out) (ta : Option Addr) (tn tc : Nat) (W H : Int) (xs : List Int) (a : Option Addr) (n c : Nat) (w : World) (hR : ArgR w o ta tn tc) (hP : ArgP w xs a n c) :
  Calls Tryz.prog 40 #[.agg #[.int .i64 o.kind, .int .i64 o.born, .int .i64 o.stay, .int .i64 o.states, .int .i64 o.radius, .slice ta tn tc, .string o.turns], .agg #[.int .i64 W, .int .i64 H, .slice a n c]] w fun e w' => (∃ f, grE o W H xs f ∧ e = .returned (errOf f)) ∧ Below w.heap.size w w' := by
 obtain ⟨w1, hw1⟩ : ∃ w1, (w.alloc (.cells #[.int .i64 o.kind, .int .i64 o.born, .int .i64 o.stay, .int .i64 o.states, .int .i64 o.radius, .slice ta tn tc, .string o.turns] 24)).alloc (.cells #[.int .i64 W, .int .i64 H, .slice a n c] 26) = w1 := ⟨_, rfl⟩
 have BB := hide' (show Below w.heap.size w w1 by rw [← hw1]; exact ((Below.refl _ _).alloc (Nat.le_refl _) _).alloc (by simp) _)
 have g0 : w1.heap[w.heap.size]? = some (.cells #[.int .i64 o.kind, .int .i64 o.born, .int .i64 o.stay, .int .i64 o.states, .int .i64 o.radius, .slice ta tn tc, .string o.turns] 24 (0, 0)) := by rw [← hw1, Below.heap_alloc _ _ _ (by simp)]; exact heap_alloc_new _ _
 have g1 : w1.heap[w.heap.size + 1]? = some (.cells #[.int .i64 W, .int .i64 H, .slice a n c] 26 (0, 0)) := by rw [← hw1]; exact heap_atX _ _ _ (by simp)
 have x0 := cell_of_row w1 _ 0 _ _ _ g0
 have x1 := cell_of_row w1 _ 1 _ _ _ g0
 have x2 := cell_of_row w1 _ 2 _ _ _ g0
 have x3 := cell_of_row w1 _ 3 _ _ _ g0
 have x4 := cell_of_row w1 _ 4 _ _ _ g0
 have x5 := cell_of_row w1 _ 5 _ _ _ g0
 have x6 := cell_of_row w1 _ 6 _ _ _ g0
 have y0 := cell_of_row w1 _ 0 _ _ _ g1
 have y1 := cell_of_row w1 _ 1 _ _ _ g1
 have y2 := cell_of_row w1 _ 2 _ _ _ g1
 simp at x0 x1 x2 x3 x4 x5 x6 y0 y1 y2
 have CC := hide' (planeCheck_any o ta tn tc W H xs a n c w1 (hR.below BB.out) (hP.below BB.out))
 have G0 := hide' g0
 clear hR hP g0 g1
 go_enter Tryz.func40, Tryz.ntmps40
 go_wp2_with fail
 refine CC.out.mono ?_
 rintro e w2 ⟨⟨f, hf, rfl⟩, b2⟩
 have HF := hide' hf
 have z1 := cell_of_row w2 _ 1 _ _ _ ((b2.block _ (lt_of_block G0.out)).trans G0.out)
 simp at z1
 have BQ := hide' (BB.out.trans (b2.mono BB.out.size))
 clear hf b2 hw1 x0 x1 x2 x3 x4 x5 x6 y0 y1 y2
 by_cases f0 : f = 0
 ·subst f0
  rw [show errOf 0 = .nilIface from rfl]
  obtain ⟨b, s, hb, -, b5, -⟩ := pla_good HF.out
  have HB := hide' hb
  rw [hb] at z1
  have an := and_bit' b 0 b5
  have an2 : bits BinOp.and IntKind.i64 (b : Int) 1 = ((b % 2 : Nat) : Int) := by simpa using an
  obtain ⟨r, hr⟩ : ∃ r, b % 2 = r := ⟨_, rfl⟩
  rw [hr] at an2
  have HR := hide' hr
  have r2 : r ≤ 1 := by omega
  clear an hr hb
  by_cases r0 : r = 0
  ·subst r0
   go_wp2
   go_ret
   exact ⟨⟨0, Or.inr (Or.inr ⟨HF.out, by rw [HB.out]; have := HR.out; omega, rfl⟩), rfl⟩, BQ.out⟩
  ·have r1 : r = 1 := by omega
   subst r1
   go_wp2
   go_ret
   exact ⟨⟨1, Or.inr (Or.inl ⟨HF.out, by rw [HB.out]; have := HR.out; omega, rfl⟩), rfl⟩, BQ.out⟩
 ·have PE := hide' (show grE o W H xs f from Or.inl ⟨f, HF.out, f0, rfl⟩)
  rw [show errOf f = .iface 56 (.int .i64 (f : Int)) from if_neg f0]
  have EF := hide' (show errOf f = .iface 56 (.int .i64 (f : Int)) from if_neg f0)
  clear f0
  go_wp2
  go_ret
  exact ⟨⟨f, PE.out, by rw [EF.out]; rfl⟩, BQ.out⟩
def GrowBad (f : Nat) (w : World) (e : Ending) (w' : World) : Prop := e = .returned (.tuple #[.agg #[.int .i64 0, .int .i64 0, .slice none 0 0], .int .i64 0, .int .i64 0, errOf f]) ∧ Below w.heap.size w w'
def GrowPost (born stay : Nat) (s0 : Gst) (m : Nat) (w : World) (e : Ending) (w' : World) : Prop :=
 (growG born stay s0 m = none ∧ GrowBad 4 w e w') ∨
 (∃ u q, growG born stay s0 m = some u ∧ e = .returned (.tuple #[.agg #[.int .i64 (u.P.W : Int), .int .i64 (u.P.H : Int), .slice (some ⟨q, 0, none⟩) u.P.xs.length u.P.xs.length], .int .i64 u.r, .int .i64 u.d, .nilIface]) ∧ Tab w' (.slice (some ⟨q, 0, none⟩) u.P.xs.length u.P.xs.length) u.P.xs ∧ Below w.heap.size w w')
theorem shape_sides {W H : Int} {xs : List Int} (h : shapeF W H xs = 0) : ∃ Wn Hn : Nat, W = (Wn : Int) ∧ H = (Hn : Int) ∧ Wn ≤ 100 ∧ Hn ≤ 100 ∧ xs.length = Wn * Hn ∧ ∀ k, 0 ≤ xs.getD k 0 ∧ xs.getD k 0 ≤ 1 := by
 unfold shapeF at h
 split at h
 ·rename_i hs
  split at h
  ·rename_i hl
   split at h
   ·rename_i ha
    simp only [Bool.and_eq_true] at hs
    unfold sideB at hs
    simp at hs
    refine ⟨W.toNat, H.toNat, by omega, by omega, by omega, by omega, ?_, fun k => ?_⟩
    ·have e : ((W.toNat * H.toNat : Nat) : Int) = W * H := by rw [Int.natCast_mul, Int.toNat_of_nonneg (by omega), Int.toNat_of_nonneg (by omega)]
     omega
    ·by_cases q : k < xs.length
     ·have := List.all_eq_true.1 ha xs[k] (List.getElem_mem q)
      have e : xs.getD k 0 = xs[k] := by simp [List.getD, q]
      rw [e]
      unfold cellB at this
      simp at this
      omega
     ·have e : xs.getD k 0 = 0 := by simp [List.getD, q]
      rw [e]; omega
   ·omega
  ·omega
 ·omega
end Go.Proofs.YtemhcpldflcfbaaGreatDoor
