/-
  What the last text of this claim leans on, part 38: Gt4.
-/
import Derived.Test.YtemhcpldflcfbaaGreatDoorZj36
import Derived.Test.YtemhcpldflcfbaaGreatDoorZj37
namespace Go.Proofs.YtemhcpldflcfbaaGreatDoor
open Go.RowKit
set_option linter.unusedVariables false
theorem tab_arg {w : World} {v : Value} {xs : List Int} (h : Tab w v xs) (hm : xs.length ≤ maxLen) : ∃ a c, v = .slice a xs.length c ∧ ArgP w xs a xs.length c := by
 rcases h with ⟨rfl, rfl⟩ | ⟨g, cap, rfl, hg, hc⟩
 ·exact ⟨none, 0, rfl, rfl, by simp [maxLen], fun k hk => by simp at hk⟩
 ·exact ⟨some ⟨g, 0, none⟩, cap, rfl, rfl, hm, fun k hk => ⟨g, 0, rfl, hg, by rw [Nat.zero_add]; exact hc k hk⟩⟩
theorem tab_keep {w w' : World} {v : Value} {xs : List Int} (h : Tab w v xs) (hk : ∀ g k cap, v = .slice (some ⟨g, 0, none⟩) k cap → w'.heap[g]? = w.heap[g]?) : Tab w' v xs := by
 rcases h with h | ⟨g, cap, e, hg, hc⟩
 ·exact Or.inl h
 ·have b := hk g _ _ e
  have hg2 : g < w'.heap.size := by
   rcases Nat.lt_or_ge g w'.heap.size with u | u
   ·exact u
   ·rw [Array.getElem?_eq_none u, Array.getElem?_eq_getElem hg] at b; cases b
  exact Or.inr ⟨g, cap, e, hg2, fun k hk2 => (World.cell?_of_block (w := w) (a := ⟨g, k, none⟩) b).trans (hc k hk2)⟩
theorem tab_lt {w : World} {v : Value} {xs : List Int} (h : Tab w v xs) {g k cap : Nat} (e : v = .slice (some ⟨g, 0, none⟩) k cap) : g < w.heap.size := by
 rcases h with ⟨_, e2⟩ | ⟨g2, cap2, e2, hg, _⟩
 ·rw [e] at e2; injection e2 with e3; cases e3
 ·rw [e] at e2; injection e2 with e3; injection e3 with e4; injection e4 with e5; rw [e5]; exact hg
theorem five_set {w : World} {g : Nat} {x0 x1 x2 x3 x4 : Value} {t : TypeId} (h : w.heap[g]? = some (.cells #[x0, x1, x2, x3, x4] t (0, 0))) (a b c d e : Value) (o : Obj) :
  ((((((w.setCell ⟨g, 0, none⟩ a).setCell ⟨g, 1, none⟩ b).setCell ⟨g, 2, none⟩ c).setCell ⟨g, 3, none⟩ d).setCell ⟨g, 4, none⟩ e).alloc o).heap[g]? = some (.cells #[a, b, c, d, e] t (0, 0)) := by
 have h0 : (w.setCell ⟨g, 0, none⟩ a).heap[g]? = some (.cells #[a, x1, x2, x3, x4] t (0, 0)) := by rw [heap_setCell_same _ _ _ _ _ _ h]; rfl
 have h1 : ((w.setCell ⟨g, 0, none⟩ a).setCell ⟨g, 1, none⟩ b).heap[g]? = some (.cells #[a, b, x2, x3, x4] t (0, 0)) := by rw [heap_setCell_same _ _ _ _ _ _ h0]; rfl
 have h2 : (((w.setCell ⟨g, 0, none⟩ a).setCell ⟨g, 1, none⟩ b).setCell ⟨g, 2, none⟩ c).heap[g]? = some (.cells #[a, b, c, x3, x4] t (0, 0)) := by rw [heap_setCell_same _ _ _ _ _ _ h1]; rfl
 have h3 : ((((w.setCell ⟨g, 0, none⟩ a).setCell ⟨g, 1, none⟩ b).setCell ⟨g, 2, none⟩ c).setCell ⟨g, 3, none⟩ d).heap[g]? = some (.cells #[a, b, c, d, x4] t (0, 0)) := by rw [heap_setCell_same _ _ _ _ _ _ h2]; rfl
 have h4 : (((((w.setCell ⟨g, 0, none⟩ a).setCell ⟨g, 1, none⟩ b).setCell ⟨g, 2, none⟩ c).setCell ⟨g, 3, none⟩ d).setCell ⟨g, 4, none⟩ e).heap[g]? = some (.cells #[a, b, c, d, e] t (0, 0)) := by rw [heap_setCell_same _ _ _ _ _ _ h3]; rfl
 rw [Below.heap_alloc _ _ _ (lt_of_block h4)]
 exact h4
theorem five_below {B : Nat} {a w : World} (h : Below B a w) {g : Nat} (hg : B ≤ g) (hs : B ≤ w.heap.size) (x0 x1 x2 x3 x4 : Value) (o : Obj) : Below B a ((((((w.setCell ⟨g, 0, none⟩ x0).setCell ⟨g, 1, none⟩ x1).setCell ⟨g, 2, none⟩ x2).setCell ⟨g, 3, none⟩ x3).setCell ⟨g, 4, none⟩ x4).alloc o) :=
 (((((h.setCell hg _).setCell hg _).setCell hg _).setCell hg _).setCell hg _).alloc (by simp; omega) _
theorem five_keep {w : World} {g k : Nat} (hk : k ≠ g) (hs : k < w.heap.size) (x0 x1 x2 x3 x4 : Value) (o : Obj) : ((((((w.setCell ⟨g, 0, none⟩ x0).setCell ⟨g, 1, none⟩ x1).setCell ⟨g, 2, none⟩ x2).setCell ⟨g, 3, none⟩ x3).setCell ⟨g, 4, none⟩ x4).alloc o).heap[k]? = w.heap[k]? := by
 rw [Below.heap_alloc _ _ _ (by simp; omega), Below.heap_setCell _ _ _ _ (by simpa using hk), Below.heap_setCell _ _ _ _ (by simpa using hk), Below.heap_setCell _ _ _ _ (by simpa using hk), Below.heap_setCell _ _ _ _ (by simpa using hk), Below.heap_setCell _ _ _ _ (by simpa using hk)]
structure NT (w w4 wr : World) (W2 H2 : Int) (v : Value) (ys : List Int) : Prop where
 keep : ∀ k, k < w.heap.size + 1 + 1 + 1 → wr.heap[k]? = w4.heap[k]?
 q : TB (w.heap.size + 1 + 1 + 1) (.int .i64 W2) (.int .i64 H2) v wr
 own : wr.ownsRow (w.heap.size + 1 + 1 + 1 + 1) 3 1 v ys.length (ys.map fun x => .int .i64 x)
 below : Below w.heap.size w wr
 sz : w.heap.size + 1 + 1 + 1 + 1 ≤ wr.heap.size
theorem NT.next {w w4 wr w' : World} {W2 H2 : Int} {v : Value} {ys : List Int} (h : NT w w4 wr W2 H2 v ys) (hb : Below wr.heap.size wr w') : NT w w4 w' W2 H2 v ys := by
 have hz := h.sz
 exact ⟨fun k hk => (hb.block k (by omega)).trans (h.keep k hk), h.q.next hb, ownsRow_from h.own fun k _ hk => hb.block k hk, h.below.trans (hb.mono (by omega)), by have := hb.size; omega⟩
theorem NT.grown {w w4 wr w' : World} {W2 H2 : Int} {v : Value} {ys : List Int} (h : NT w w4 wr W2 H2 v ys) (x : Int) (hg : (wr.alloc (.cells #[.int .i64 x] 3)).grownBy w' v.ownBlock) : ∀ k, k < w.heap.size + 1 + 1 + 1 + 1 → w'.heap[k]? = wr.heap[k]? := fun k hk => by
 have hz := h.sz
 have hob := ownsRow_block h.own
 rw [hg.block k (by rw [World.size_alloc]; omega) (fun e => by have := hob k e.symm; omega)]
 exact Below.heap_alloc _ _ _ (by omega)
theorem NT.mid {w w4 wr w' : World} {W2 H2 : Int} {v : Value} {ys : List Int} (h : NT w w4 wr W2 H2 v ys) (x : Int) (hg : (wr.alloc (.cells #[.int .i64 x] 3)).grownBy w' v.ownBlock) : w'.cell? ⟨w.heap.size + 1 + 1 + 1, 2, none⟩ = some v ∧ w'.frozen? ⟨w.heap.size + 1 + 1 + 1, 2, none⟩ = false := by
 have t := h.q.block (h.grown x hg _ (by omega))
 exact ⟨t.c2, t.fz 2⟩
theorem NT.push {w w4 wr w' : World} {W2 H2 : Int} {v v' : Value} {ys : List Int} (h : NT w w4 wr W2 H2 v ys) (x : Int) (hg : (wr.alloc (.cells #[.int .i64 x] 3)).grownBy w' v.ownBlock) (ho : w'.ownsRow (w.heap.size + 1 + 1 + 1 + 1) 3 1 v' (ys.length + 1) ((ys.map fun x => .int .i64 x) ++ [.int .i64 x])) : NT w w4 (w'.setCell ⟨w.heap.size + 1 + 1 + 1, 2, none⟩ v') W2 H2 v' (ys ++ [x]) := by
 have hk := h.grown x hg
 have hz := h.sz
 have hsz : wr.heap.size + 1 ≤ w'.heap.size := by have := hg.size; rw [World.size_alloc] at this; exact this
 have hb : Below w.heap.size w w' := h.below.trans ⟨hg.os, hg.tape, hg.output, by omega, fun k hkk => hk k (by omega)⟩
 have tq := h.q.block (hk _ (by omega))
 refine ⟨fun k hkk => (Below.heap_setCell _ _ _ _ (by simp; omega)).trans ((hk k (by omega)).trans (h.keep k hkk)), ⟨cell_other tq.c0 (by omega), cell_other tq.c1 (by omega), cell_same tq.c2, fun k => by rw [World.frozen?_setCell]; exact tq.fz k⟩, ?_, hb.setCell (by simp; omega) _, by rw [World.size_setCell]; omega⟩
 have := ownsRow_setCell_below ho (a := ⟨w.heap.size + 1 + 1 + 1, 2, none⟩) (by simp) v'
 simpa using this
def nxPre (born stay : Nat) (q : Pat) (m : Nat) : List Int := (List.range m).map fun i => if nxB born stay q (i / (q.W + 2)) (i % (q.W + 2)) then 1 else 0
theorem nxPre_length (born stay : Nat) (q : Pat) (m : Nat) : (nxPre born stay q m).length = m := by simp [nxPre]
theorem nxPre_step (born stay : Nat) (q : Pat) (y x : Nat) (hx : x < q.W + 2) : nxPre born stay q (y * (q.W + 2) + x) ++ [if nxB born stay q y x then 1 else 0] = nxPre born stay q (y * (q.W + 2) + x + 1) := by
 unfold nxPre
 rw [List.range_succ, List.map_append, List.map_cons, List.map_nil]
 have m1 : (y * (q.W + 2) + x) % (q.W + 2) = x := by rw [Nat.mul_comm, Nat.mul_add_mod]; exact Nat.mod_eq_of_lt hx
 have d1 : (y * (q.W + 2) + x) / (q.W + 2) = y := by rw [Nat.mul_comm, Nat.mul_add_div (by omega), Nat.div_eq_of_lt hx, Nat.add_zero]
 rw [m1, d1]
def NextPost (born stay : Nat) (q : Pat) (r d : Int) (w : World) (e : Ending) (w' : World) : Prop :=
 (100 < (trimP (nextC born stay q)).1.W ∨ 100 < (trimP (nextC born stay q)).1.H) ∧ e = .returned (.tuple #[.agg #[.int .i64 0, .int .i64 0, .slice none 0 0, .int .i64 0, .int .i64 0], .bool false]) ∧ Below w.heap.size w w' ∨
 (¬ (100 < (trimP (nextC born stay q)).1.W ∨ 100 < (trimP (nextC born stay q)).1.H)) ∧ ∃ v, e = .returned (.tuple #[.agg #[.int .i64 ((nextG born stay ⟨q, r, d⟩).P.W : Int), .int .i64 ((nextG born stay ⟨q, r, d⟩).P.H : Int), v, .int .i64 (nextG born stay ⟨q, r, d⟩).r, .int .i64 (nextG born stay ⟨q, r, d⟩).d], .bool true]) ∧ Tab w' v (nextG born stay ⟨q, r, d⟩).P.xs ∧ Fresh w v ∧ Below w.heap.size w w'
set_option maxRecDepth 100000 in
set_option maxHeartbeats 12800000 in
theorem refNext_any (kd st ra : Int) (born stay : Nat) (ta : Option Addr) (tn tc : Nat) (sb : ByteArray) (q : Pat) (a : Option Addr) (n c : Nat) (r d : Int) (w : World) (hb : born ≤ 511) (hs : stay ≤ 511) (hP : ArgP w q.xs a n c) (hn : n = q.W * q.H) (hx : ∀ k, 0 ≤ q.xs.getD k 0 ∧ q.xs.getD k 0 ≤ 1) (hW : q.W ≤ 100) (hH : q.H ≤ 100) (R1 : -100000000 ≤ r) (R2 : r ≤ 100000000) (D1 : -100000000 ≤ d) (D2 : d ≤ 100000000) :
  Calls Tryz.prog 65 #[.agg #[.int .i64 kd, .int .i64 (born : Int), .int .i64 (stay : Int), .int .i64 st, .int .i64 ra, .slice ta tn tc, .string sb], .agg #[.int .i64 (q.W : Int), .int .i64 (q.H : Int), .slice a n c, .int .i64 r, .int .i64 d]] w (NextPost born stay q r d w) := by
 obtain ⟨w4, hw4⟩ : ∃ w4, (((w.alloc (.cells #[.int .i64 kd, .int .i64 (born : Int), .int .i64 (stay : Int), .int .i64 st, .int .i64 ra, .slice ta tn tc, .string sb] 24)).alloc (.cells #[.int .i64 (q.W : Int), .int .i64 (q.H : Int), .slice a n c, .int .i64 r, .int .i64 d] 39)).alloc (.cells #[.int .i64 0, .int .i64 0, .slice none 0 0, .int .i64 0, .int .i64 0] 39)).alloc (.cells #[.int .i64 ((q.W : Int) + 2), .int .i64 ((q.H : Int) + 2), .slice none 0 0] 26) = w4 := ⟨_, rfl⟩
 have BB : Below w.heap.size w w4 := by rw [← hw4]; repeat (first | exact Below.refl _ _ | refine Below.alloc ?_ (by simp; try omega) _)
 have g0 : w4.heap[w.heap.size]? = some (.cells #[.int .i64 kd, .int .i64 (born : Int), .int .i64 (stay : Int), .int .i64 st, .int .i64 ra, .slice ta tn tc, .string sb] 24 (0, 0)) := by rw [← hw4, Below.heap_alloc _ _ _ (by simp; try omega), Below.heap_alloc _ _ _ (by simp; try omega), Below.heap_alloc _ _ _ (by simp; try omega)]; exact heap_atX _ _ _ (by simp)
 have g1 : w4.heap[w.heap.size + 1]? = some (.cells #[.int .i64 (q.W : Int), .int .i64 (q.H : Int), .slice a n c, .int .i64 r, .int .i64 d] 39 (0, 0)) := by rw [← hw4, Below.heap_alloc _ _ _ (by simp; try omega), Below.heap_alloc _ _ _ (by simp; try omega)]; exact heap_atX _ _ _ (by simp)
 have g2 : w4.heap[w.heap.size + 1 + 1]? = some (.cells #[.int .i64 0, .int .i64 0, .slice none 0 0, .int .i64 0, .int .i64 0] 39 (0, 0)) := by rw [← hw4, Below.heap_alloc _ _ _ (by simp; try omega)]; exact heap_atX _ _ _ (by simp)
 have g3 : w4.heap[w.heap.size + 1 + 1 + 1]? = some (.cells #[.int .i64 ((q.W : Int) + 2), .int .i64 ((q.H : Int) + 2), .slice none 0 0] 26 (0, 0)) := by rw [← hw4]; exact heap_atX _ _ _ (by simp)
 have X0 : NT w w4 w4 ((q.W : Int) + 2) ((q.H : Int) + 2) (.slice none 0 0) (nxPre born stay q 0) := ⟨fun _ _ => rfl, ⟨cell_of_row w4 _ 0 _ _ _ g3, cell_of_row w4 _ 1 _ _ _ g3, cell_of_row w4 _ 2 _ _ _ g3, fun k => frozen_of_row w4 _ k _ _ g3⟩, ⟨by simp [nxPre], Or.inl ⟨rfl, by simp [nxPre]⟩⟩, BB, by rw [← hw4]; simp⟩
 have XZ := hide' X0
 have G0 := hide' g0
 have G1 := hide' g1
 have G2 := hide' g2
 have HP := hide' hP
 have HN := hide' hn
 have HX := hide' hx
 have HB := hide' hb
 have HS := hide' hs
 obtain ⟨w3, hw3⟩ : ∃ w3, ((w.alloc (.cells #[.int .i64 kd, .int .i64 (born : Int), .int .i64 (stay : Int), .int .i64 st, .int .i64 ra, .slice ta tn tc, .string sb] 24)).alloc (.cells #[.int .i64 (q.W : Int), .int .i64 (q.H : Int), .slice a n c, .int .i64 r, .int .i64 d] 39)).alloc (.cells #[.int .i64 0, .int .i64 0, .slice none 0 0, .int .i64 0, .int .i64 0] 39) = w3 := ⟨_, rfl⟩
 rw [hw3] at hw4
 have h1 : w3.heap[w.heap.size + 1]? = some (.cells #[.int .i64 (q.W : Int), .int .i64 (q.H : Int), .slice a n c, .int .i64 r, .int .i64 d] 39 (0, 0)) := by rw [← hw3, Below.heap_alloc _ _ _ (by simp; try omega)]; exact heap_atX _ _ _ (by simp)
 have s3 : w3.heap.size = w.heap.size + 1 + 1 + 1 := by rw [← hw3]; simp
 have b0 := cell_of_row w3 _ 0 _ _ _ h1
 have b1 := cell_of_row w3 _ 1 _ _ _ h1
 simp at b0 b1
 have RV := hide' (fun (V : World) (hV : ∀ k, k < w.heap.size + 1 + 1 + 1 → V.heap[k]? = w4.heap[k]?) => show V.cell? ⟨w.heap.size, 0, none⟩ = some (.int .i64 kd) ∧ V.cell? ⟨w.heap.size, 1, none⟩ = some (.int .i64 (born : Int)) ∧ V.cell? ⟨w.heap.size, 2, none⟩ = some (.int .i64 (stay : Int)) ∧ V.cell? ⟨w.heap.size, 3, none⟩ = some (.int .i64 st) ∧ V.cell? ⟨w.heap.size, 4, none⟩ = some (.int .i64 ra) ∧ V.cell? ⟨w.heap.size, 5, none⟩ = some (.slice ta tn tc) ∧ V.cell? ⟨w.heap.size, 6, none⟩ = some (.string sb) from
  have e := (hV _ (by omega)).trans G0.out
  ⟨cell_of_row V _ 0 _ _ _ e, cell_of_row V _ 1 _ _ _ e, cell_of_row V _ 2 _ _ _ e, cell_of_row V _ 3 _ _ _ e, cell_of_row V _ 4 _ _ _ e, cell_of_row V _ 5 _ _ _ e, cell_of_row V _ 6 _ _ _ e⟩)
 have GV := hide' (fun (V : World) (hV : ∀ k, k < w.heap.size + 1 + 1 + 1 → V.heap[k]? = w4.heap[k]?) => show V.cell? ⟨w.heap.size + 1, 0, none⟩ = some (.int .i64 (q.W : Int)) ∧ V.cell? ⟨w.heap.size + 1, 1, none⟩ = some (.int .i64 (q.H : Int)) ∧ V.cell? ⟨w.heap.size + 1, 2, none⟩ = some (.slice a n c) ∧ V.cell? ⟨w.heap.size + 1, 3, none⟩ = some (.int .i64 r) ∧ V.cell? ⟨w.heap.size + 1, 4, none⟩ = some (.int .i64 d) from
  have e := (hV _ (by omega)).trans G1.out
  ⟨cell_of_row V _ 0 _ _ _ e, cell_of_row V _ 1 _ _ _ e, cell_of_row V _ 2 _ _ _ e, cell_of_row V _ 3 _ _ _ e, cell_of_row V _ 4 _ _ _ e⟩)
 obtain ⟨i0, hi, hz0, hz1, hz2⟩ := info_parts info_int
 have HW4 := hide' hw4
 clear g0 g1 g2 g3 X0 BB hP hn hx hb hs hw4
 go_enter Tryz.func65, Tryz.ntmps65
 go_wp2
 rw [HW4.out]
 clear HW4 hw3 b0 b1 s3 h1
 go_loopw [7] (fun yv wr => ∃ (y : Nat) (v : Value), yv = .int .i64 ((y : Int) - 1) ∧ y ≤ q.H + 2 ∧ Hid (NT w w4 wr ((q.W : Int) + 2) ((q.H : Int) + 2) v (nxPre born stay q (y * (q.W + 2))))) (fun yv _ => ((q.H : Int) + 1 - intOf yv).toNat)
 case atStart => exact ⟨0, _, by go_num, by omega, hide' (by rw [Nat.zero_mul]; exact XZ.out)⟩
 case round =>
  obtain ⟨y, v, rfl, hy, HY⟩ := hrel
  obtain ⟨V1, rfl⟩ : ∃ V1, V1 = wr := ⟨_, rfl⟩
  obtain ⟨b0, b1, b2, b3, b4⟩ := GV.out V1 HY.out.keep
  by_cases dy : (y : Int) - 1 ≤ (q.H : Int)
  ·go_wp2
   clear b0 b1 b2 b3 b4
   go_loopw [8] (fun xv wr => ∃ (x : Nat) (v : Value), xv = .int .i64 ((x : Int) - 1) ∧ x ≤ q.W + 2 ∧ Hid (NT w w4 wr ((q.W : Int) + 2) ((q.H : Int) + 2) v (nxPre born stay q (y * (q.W + 2) + x)))) (fun xv _ => ((q.W : Int) + 1 - intOf xv).toNat)
   case atStart => exact ⟨0, v, by go_num, by omega, HY⟩
   case round =>
    obtain ⟨x, v, rfl, hxx, HV⟩ := hrel
    obtain ⟨V2, rfl⟩ : ∃ V2, V2 = wr := ⟨_, rfl⟩
    obtain ⟨b0, b1, b2, b3, b4⟩ := GV.out V2 HV.out.keep
    by_cases dx : (x : Int) - 1 ≤ (q.W : Int)
    ·go_wp2
     clear b0 b1 b2 b3 b4
     go_loopw [9, 10] (fun nv dv wr => ∃ (i : Nat) (u : Int), dv = .int .i64 ((i : Int) - 1) ∧ nv = .int .i64 u ∧ i ≤ 3 ∧ 0 ≤ u ∧ u ≤ 9 ∧ Hid (u = nbS q y x (i * 3)) ∧ Hid (NT w w4 wr ((q.W : Int) + 2) ((q.H : Int) + 2) v (nxPre born stay q (y * (q.W + 2) + x)))) (fun _ dv _ => ((2 : Int) - intOf dv).toNat)
     case atStart => exact ⟨0, 0, by go_num, rfl, by omega, by omega, by omega, hide' rfl, HV⟩
     case round =>
      obtain ⟨i, u, rfl, rfl, hi3, u1, u2, HU, HV3⟩ := hrel
      obtain ⟨V3, rfl⟩ : ∃ V3, V3 = wr := ⟨_, rfl⟩
      by_cases di : (i : Int) - 1 ≤ 1
      ·go_wp2
       go_loopw [9, 11] (fun nv dv wr => ∃ (j : Nat) (u : Int), dv = .int .i64 ((j : Int) - 1) ∧ nv = .int .i64 u ∧ j ≤ 3 ∧ 0 ≤ u ∧ u ≤ 9 ∧ Hid (u = nbS q y x (i * 3 + j)) ∧ Hid (NT w w4 wr ((q.W : Int) + 2) ((q.H : Int) + 2) v (nxPre born stay q (y * (q.W + 2) + x)))) (fun _ dv _ => ((2 : Int) - intOf dv).toNat)
       case atStart => exact ⟨0, u, by go_num, rfl, by omega, u1, u2, HU, HV3⟩
       case round =>
        obtain ⟨j, u, rfl, rfl, hj3, u3, u4, HU4, HV4⟩ := hrel
        by_cases dj : (j : Int) - 1 ≤ 1
        ·obtain ⟨b0, b1, b2, b3, b4⟩ := GV.out wr HV4.out.keep
         have dv : (i * 3 + j) / 3 = i := by omega
         have md : (i * 3 + j) % 3 = j := by omega
         by_cases mid : i = 1 ∧ j = 1
         ·obtain ⟨rfl, rfl⟩ := mid
          have NU := hide' (show u = nbS q y x (1 * 3 + (1 + 1)) by rw [show 1 * 3 + (1 + 1) = (1 * 3 + 1) + 1 from rfl, nbS, ← HU4.out, if_pos rfl]; omega)
          go_wp2
          exact ⟨⟨1 + 1, u, by go_num, rfl, by omega, u3, u4, NU, HV4⟩, by simp [intOf]⟩
         ·have n4 : i * 3 + j ≠ 4 := by omega
          have NU := hide' (show u + c2I q (y + i) (x + j) = nbS q y x (i * 3 + (j + 1)) by rw [← Nat.add_assoc, nbS, ← HU4.out, if_neg n4, dv, md])
          have bd := nbS_le q y x (i * 3 + (j + 1))
          rw [← NU.out] at bd
          have bd2 : u + c2I q (y + i) (x + j) ≤ 9 := by have := bd.2; push_cast at this; omega
          have CA := hide' (At_any q a n c (x + j) (y + i) wr (HP.out.below HV4.out.below) hW hH HN.out HX.out (by omega) (by omega) ((x : Int) - 1 + ((j : Int) - 1)) ((y : Int) - 1 + ((i : Int) - 1)) (by push_cast; omega) (by push_cast; omega))
          have ce := c2I_le q (y + i) (x + j)
          obtain ⟨z, hz⟩ : ∃ z, c2I q (y + i) (x + j) = z := ⟨_, rfl⟩
          rw [hz] at NU bd bd2 CA ce
          have bd1 := bd.1
          have tst : ((j : Int) - 1 != 0) = true ∨ (((j : Int) - 1 != 0) = false ∧ ((i : Int) - 1 != 0) = true) := by
           by_cases t : j = 1
           ·right; exact ⟨by simp; omega, by simp; omega⟩
           ·left; simp; omega
          clear hz n4 mid bd dv md
          rcases tst with t1 | ⟨t1, t2⟩
          ·go_wp2_with fail
           refine CA.out.mono ?_
           rintro e w5 ⟨rfl, b5⟩
           have H5 := hide' (HV4.out.next b5)
           clear b5
           go_wp2
           exact ⟨⟨j + 1, u + z, by go_num, rfl, by omega, bd1, bd2, NU, H5⟩, by simp [intOf]; omega⟩
          ·go_wp2_with fail
           refine CA.out.mono ?_
           rintro e w5 ⟨rfl, b5⟩
           have H5 := hide' (HV4.out.next b5)
           clear b5
           go_wp2
           exact ⟨⟨j + 1, u + z, by go_num, rfl, by omega, bd1, bd2, NU, H5⟩, by simp [intOf]; omega⟩
        ·have j3 : j = 3 := by omega
         have NU := hide' (show u = nbS q y x ((i + 1) * 3) by rw [HU4.out, j3]; congr 1; omega)
         clear j3
         go_wp2
         exact ⟨⟨i + 1, u, by go_num, rfl, by omega, u3, u4, NU, HV4⟩, by simp [intOf]; omega⟩
      ·have i3 : i = 3 := by omega
       have U9 : u = ((nb2 q y x : Nat) : Int) := by rw [HU.out, i3, ← nbS_nine]
       obtain ⟨b0, b1, b2, b3, b4⟩ := GV.out V3 HV3.out.keep
       have CA := hide' (At_any q a n c (x + 1) (y + 1) V3 (HP.out.below HV3.out.below) hW hH HN.out HX.out (by omega) (by omega) ((x : Int) - 1) ((y : Int) - 1) (by push_cast; omega) (by push_cast; omega))
       have NB := hide' (becN_nx born stay q y x)
       have ce := c2I_le q (y + 1) (x + 1)
       obtain ⟨m, hm⟩ : ∃ m, nb2 q y x = m := ⟨_, rfl⟩
       rw [hm] at U9 NB
       subst U9
       obtain ⟨z, hz⟩ : ∃ z, c2I q (y + 1) (x + 1) = z := ⟨_, rfl⟩
       rw [hz] at CA NB ce
       have m9 : m ≤ 9 := by omega
       have hlen : y * (q.W + 2) + x < 10404 := by
        have h1 := mk_lt (W := q.W + 2) (H := q.H + 2) (show x < q.W + 2 by omega) (show y < q.H + 2 by omega)
        have h2 : (q.W + 2) * (q.H + 2) ≤ 102 * 102 := Nat.mul_le_mul (by omega) (by omega)
        omega
       have xlt : x < q.W + 2 := by omega
       clear i3 hz hm HU
       go_wp2_with fail
       refine CA.out.mono ?_
       rintro e w6 ⟨rfl, b6⟩
       have S6 := hide' (HV3.out.next b6)
       obtain ⟨c0, c1, c2', c3, c4, c5, c6⟩ := RV.out w6 S6.out.keep
       clear b6 b0 b1 b2 b3 b4
       go_wp2_with fail
       refine (refBecomes_any kd z st ra born stay ta tn tc sb m w6 HB.out HS.out m9).mono ?_
       obtain ⟨x0, hx0⟩ : ∃ x0 : Int, ((becN born stay z m : Nat) : Int) = x0 := ⟨_, rfl⟩
       rw [hx0]
       rw [hx0] at NB
       rintro e w2 ⟨rfl, b2'⟩
       have S2 := hide' (S6.out.next b2')
       have d2 := S2.out.q.c2
       have z2 := S2.out.sz
       have OW := hide' S2.out.own
       obtain ⟨sa, sn, sc, rfl⟩ := ownsRow_slice OW.out
       have HLE := hide' (nxPre_length born stay q (y * (q.W + 2) + x))
       clear hx0 b2' c0 c1 c2' c3 c4 c5 c6
       go_wp2_with (at_builtin; refine wpList_append_own _ rfl _ _ 22 rfl (w.heap.size + 1 + 1 + 1 + 1) 3 i0 (.int .i64 0) 1 8 Tryz.underlying22 hi hz0 hz1 hz2 rfl (by decide) (.slice sa sn sc) _ _ rfl (OW.out.alloc _) ⟨w2.heap.size, 0, none⟩ 1 1 [.int .i64 x0] rfl rfl (cell_one_new _ _ _) (fun x hx => by simp at hx; subst hx; rfl) (by rw [HLE.out]; unfold maxLen; omega) (by rw [HLE.out]; omega) (by simp; omega) ?_; intro v' w3 hown' hgrow3 hnil3; obtain ⟨va, vn, vc, rfl⟩ := ownsRow_slice hown'; obtain ⟨x5, x6⟩ := S2.out.mid x0 hgrow3; have G3 := hide' hgrow3; have O3 := hide' hown'; clear hgrow3 hown' hnil3)
       refine ⟨⟨x + 1, .slice va vn vc, by go_num, by omega, hide' ?_⟩, by simp [intOf]; omega⟩
       have hp := S2.out.push x0 G3.out O3.out
       rw [NB.out, nxPre_step born stay q y x xlt] at hp
       rw [← Nat.add_assoc]
       exact hp
    ·have x2 : x = q.W + 2 := by omega
     have NV := hide' (show NT w w4 V2 ((q.W : Int) + 2) ((q.H : Int) + 2) v (nxPre born stay q ((y + 1) * (q.W + 2))) by
      have e : (y + 1) * (q.W + 2) = y * (q.W + 2) + x := by rw [Nat.add_mul, Nat.one_mul, x2]
      rw [e]; exact HV.out)
     clear x2
     go_wp2
     exact ⟨⟨y + 1, v, by go_num, by omega, NV⟩, by simp [intOf]; omega⟩
  ·have yH : y = q.H + 2 := by omega
   have HF := HY.out
   have em : y * (q.W + 2) = (q.W + 2) * (q.H + 2) := by rw [yH, Nat.mul_comm]
   rw [em] at HF
   have ml : (q.W + 2) * (q.H + 2) ≤ 10404 := Nat.mul_le_mul (show q.W + 2 ≤ 102 by omega) (show q.H + 2 ≤ 102 by omega)
   obtain ⟨sa, sc, rfl, AP⟩ := tab_arg (ownsRow_tab HF.own) (by rw [nxPre_length]; unfold maxLen; omega)
   rw [nxPre_length] at AP
   have q0 := HF.q.c0
   have q1 := HF.q.c1
   have q2 := HF.q.c2
   rw [nxPre_length] at q2
   have TC := hide' (refTrimB (q.W + 2) (q.H + 2) (nxPre born stay q ((q.W + 2) * (q.H + 2))) sa ((q.W + 2) * (q.H + 2)) sc V1 AP (by omega) (by omega) rfl)
   rw [show ((q.W + 2 : Nat) : Int) = (q.W : Int) + 2 by push_cast; rfl, show ((q.H + 2 : Nat) : Int) = (q.H : Int) + 2 by push_cast; rfl] at TC
   have KK := hide' HF.keep
   have BW := hide' HF.below
   have VS := hide' HF.sz
   obtain ⟨N, hN⟩ : ∃ N, (q.W + 2) * (q.H + 2) = N := ⟨_, rfl⟩
   have NC := hide' (show (⟨q.W + 2, q.H + 2, nxPre born stay q N⟩ : Pat) = nextC born stay q by rw [← hN]; rfl)
   rw [hN] at TC q2
   rw [NC.out] at TC
   clear yH HF em ml AP hN
   go_wp2_with fail
   refine TC.out.mono ?_
   rintro e w5 ⟨v5, rfl, tb5, fr5, b5⟩
   have TL := trim_ok (nextC born stay q)
   have BG : nextG born stay ⟨q, r, d⟩ = if (trimP (nextC born stay q)).1.W = 0 then noG else ⟨(trimP (nextC born stay q)).1, r - 1 + ((trimP (nextC born stay q)).2.1 : Int), d - 1 + ((trimP (nextC born stay q)).2.2 : Int)⟩ := rfl
   have bx := bbx_le (nextC born stay q).W (nextC born stay q).H (nextC born stay q).xs _ (Nat.le_refl _)
   have tW : (trimP (nextC born stay q)).1.W ≤ 102 ∧ (trimP (nextC born stay q)).1.H ≤ 102 ∧ (trimP (nextC born stay q)).2.1 ≤ 102 ∧ (trimP (nextC born stay q)).2.2 ≤ 102 := by
    obtain ⟨x1, x2, x3, x4, x5⟩ := bx
    have y1 : (nextC born stay q).W = q.W + 2 := rfl
    have y2 : (nextC born stay q).H = q.H + 2 := rfl
    unfold trimP
    dsimp only
    split
    ·exact ⟨Nat.zero_le _, Nat.zero_le _, Nat.zero_le _, Nat.zero_le _⟩
    ·dsimp only; omega
   have PO := hide' (rfl : NextPost born stay q r d w = NextPost born stay q r d w)
   obtain ⟨tp, htp⟩ : ∃ tp, trimP (nextC born stay q) = tp := ⟨_, rfl⟩
   obtain ⟨⟨V, U, ts⟩, L, T⟩ := tp
   rw [htp] at tb5 TL tW BG ⊢
   have HTP := hide' htp
   dsimp only at tb5 TL tW BG ⊢
   have BGH := hide' BG
   have tlen : ts.length ≤ 10404 := by rw [show ts.length = V * U from TL]; exact Nat.mul_le_mul tW.1 tW.2.1
   obtain ⟨va, vc, rfl, AP5⟩ := tab_arg tb5 (by unfold maxLen; omega)
   have T5 := hide' tb5
   have F5 := hide' fr5
   have B5 := hide' b5
   have vW := tW.1
   have vH := tW.2.1
   have vL := tW.2.2.1
   have vT := tW.2.2.2
   clear tb5 fr5 b5 AP5 bx TL tW htp
   have KW : ∀ k, k < w.heap.size + 1 + 1 + 1 → w5.heap[k]? = w4.heap[k]? := fun k hk => (B5.out.block k (Nat.lt_of_lt_of_le hk (by have := VS.out; omega))).trans (KK.out k hk)
   obtain ⟨b0, b1, b2, b3, b4⟩ := GV.out w5 KW
   have e2 := (KW _ (by omega)).trans G2.out
   have r0 := cell_of_row w5 _ 0 _ _ _ e2
   have r1 := cell_of_row w5 _ 1 _ _ _ e2
   have r2 := cell_of_row w5 _ 2 _ _ _ e2
   have r3 := cell_of_row w5 _ 3 _ _ _ e2
   have r4 := cell_of_row w5 _ 4 _ _ _ e2
   simp at r0 r1 r2 r3 r4
   have f0 := frozen_of_row w5 _ 0 _ _ e2
   have f1 := frozen_of_row w5 _ 1 _ _ e2
   have f2 := frozen_of_row w5 _ 2 _ _ e2
   have f3 := frozen_of_row w5 _ 3 _ _ e2
   have f4 := frozen_of_row w5 _ 4 _ _ e2
   have s5 : w.heap.size + 1 + 1 < w5.heap.size := lt_of_block e2
   have ne5 : ¬ w.heap.size + 1 + 1 = w5.heap.size := by omega
   have ne6 : ¬ w5.heap.size = w.heap.size + 1 + 1 := by omega
   have ne7 : ¬ w.heap.size + 1 = w5.heap.size := by omega
   have BE := hide' (BW.out.trans (B5.out.mono BW.out.size))
   have E2 := hide' e2
   clear KW e2 BG
   by_cases big : 100 < V ∨ 100 < U
   ·have BIG := hide' big
    have tst : decide ((100 : Int) < (V : Int)) = true ∨ (decide ((100 : Int) < (V : Int)) = false ∧ (100 : Int) < (U : Int)) := by
     by_cases t : 100 < V
     ·left; simp; omega
     ·right; exact ⟨by simp; omega, by omega⟩
    clear big
    rcases tst with t1 | ⟨t1, t2⟩
    all_goals (
     go_wp2
     obtain ⟨W, hWW⟩ : ∃ W, (((((w5.setCell ⟨w.heap.size + 1 + 1, 0, none⟩ (.int .i64 0)).setCell ⟨w.heap.size + 1 + 1, 1, none⟩ (.int .i64 0)).setCell ⟨w.heap.size + 1 + 1, 2, none⟩ (.slice none 0 0)).setCell ⟨w.heap.size + 1 + 1, 3, none⟩ (.int .i64 0)).setCell ⟨w.heap.size + 1 + 1, 4, none⟩ (.int .i64 0)).alloc (.cells #[.int .i64 (V : Int), .int .i64 (U : Int), .slice va ts.length vc] 26) = W := ⟨_, rfl⟩
     rw [hWW]
     have k0 : W.heap[w.heap.size + 1 + 1]? = some (.cells #[(.int .i64 0), (.int .i64 0), (.slice none 0 0), (.int .i64 0), (.int .i64 0)] 39 (0, 0)) := by rw [← hWW]; exact five_set E2.out _ _ _ _ _ _
     have m0 := cell_of_row W _ 0 _ _ _ k0
     have m1 := cell_of_row W _ 1 _ _ _ k0
     have m2 := cell_of_row W _ 2 _ _ _ k0
     have m3 := cell_of_row W _ 3 _ _ _ k0
     have m4 := cell_of_row W _ 4 _ _ _ k0
     simp at m0 m1 m2 m3 m4
     have BQ : Below w.heap.size w W := by rw [← hWW]; exact five_below BE.out (by omega) (by omega) _ _ _ _ _ _
     refine bodyPost_ret (v := .tuple #[.agg #[.int .i64 0, .int .i64 0, .slice none 0 0, .int .i64 0, .int .i64 0], .bool false]) (by simp [results, Tryz.results65, go_sem, m0, m1, m2, m3, m4]) rfl ?_
     refine Or.inl ⟨?_, rfl, BQ⟩
     rw [HTP.out]
     exact BIG.out)
   ·have NBIG := hide' big
    have t1 : decide ((100 : Int) < (V : Int)) = false := by simp; omega
    have t2 : ¬ (100 : Int) < (U : Int) := by omega
    clear big
    by_cases v0 : V = 0
    ·have t3 : ((V : Int) == 0) = true := by simp [v0]
     have NE := hide' (show nextG born stay ⟨q, r, d⟩ = noG by rw [BGH.out, if_pos v0])
     clear v0
     go_wp2
     obtain ⟨W, hWW⟩ : ∃ W, (((((w5.setCell ⟨w.heap.size + 1 + 1, 0, none⟩ (.int .i64 0)).setCell ⟨w.heap.size + 1 + 1, 1, none⟩ (.int .i64 0)).setCell ⟨w.heap.size + 1 + 1, 2, none⟩ (.slice none 0 0)).setCell ⟨w.heap.size + 1 + 1, 3, none⟩ (.int .i64 0)).setCell ⟨w.heap.size + 1 + 1, 4, none⟩ (.int .i64 0)).alloc (.cells #[.int .i64 (V : Int), .int .i64 (U : Int), .slice va ts.length vc] 26) = W := ⟨_, rfl⟩
     rw [hWW]
     have k0 : W.heap[w.heap.size + 1 + 1]? = some (.cells #[(.int .i64 0), (.int .i64 0), (.slice none 0 0), (.int .i64 0), (.int .i64 0)] 39 (0, 0)) := by rw [← hWW]; exact five_set E2.out _ _ _ _ _ _
     have m0 := cell_of_row W _ 0 _ _ _ k0
     have m1 := cell_of_row W _ 1 _ _ _ k0
     have m2 := cell_of_row W _ 2 _ _ _ k0
     have m3 := cell_of_row W _ 3 _ _ _ k0
     have m4 := cell_of_row W _ 4 _ _ _ k0
     simp at m0 m1 m2 m3 m4
     have BQ : Below w.heap.size w W := by rw [← hWW]; exact five_below BE.out (by omega) (by omega) _ _ _ _ _ _
     refine bodyPost_ret (v := .tuple #[.agg #[.int .i64 0, .int .i64 0, .slice none 0 0, .int .i64 0, .int .i64 0], .bool true]) (by simp [results, Tryz.results65, go_sem, m0, m1, m2, m3, m4]) rfl ?_
     refine Or.inr ⟨by rw [HTP.out]; exact NBIG.out, .slice none 0 0, by rw [NE.out]; rfl, by rw [NE.out]; exact Or.inl ⟨rfl, rfl⟩, Fresh.nil _, BQ⟩
    ·have t3 : ((V : Int) == 0) = false := by simp [v0]
     have b3' : ∀ o, (w5.alloc o).cell? ⟨w.heap.size + 1, 3, none⟩ = some (.int .i64 r) := fun o => (World.cell?_of_block (w := w5) (a := ⟨w.heap.size + 1, 3, none⟩) (Below.heap_alloc w5 o _ (by show w.heap.size + 1 < w5.heap.size; omega))).trans b3
     have b4' : ∀ o, (w5.alloc o).cell? ⟨w.heap.size + 1, 4, none⟩ = some (.int .i64 d) := fun o => (World.cell?_of_block (w := w5) (a := ⟨w.heap.size + 1, 4, none⟩) (Below.heap_alloc w5 o _ (by show w.heap.size + 1 < w5.heap.size; omega))).trans b4
     have NE := hide' (show nextG born stay ⟨q, r, d⟩ = ⟨⟨V, U, ts⟩, r - 1 + (L : Int), d - 1 + (T : Int)⟩ by rw [BGH.out, if_neg v0])
     clear v0
     go_wp2
     obtain ⟨W, hWW⟩ : ∃ W, (((((w5.setCell ⟨w.heap.size + 1 + 1, 0, none⟩ (.int .i64 (V : Int))).setCell ⟨w.heap.size + 1 + 1, 1, none⟩ (.int .i64 (U : Int))).setCell ⟨w.heap.size + 1 + 1, 2, none⟩ (.slice va ts.length vc)).setCell ⟨w.heap.size + 1 + 1, 3, none⟩ (.int .i64 (r + (L : Int) - 1))).setCell ⟨w.heap.size + 1 + 1, 4, none⟩ (.int .i64 (d + (T : Int) - 1))).alloc (.cells #[.int .i64 (V : Int), .int .i64 (U : Int), .slice va ts.length vc] 26) = W := ⟨_, rfl⟩
     rw [hWW]
     have k0 : W.heap[w.heap.size + 1 + 1]? = some (.cells #[(.int .i64 (V : Int)), (.int .i64 (U : Int)), (.slice va ts.length vc), (.int .i64 (r + (L : Int) - 1)), (.int .i64 (d + (T : Int) - 1))] 39 (0, 0)) := by rw [← hWW]; exact five_set E2.out _ _ _ _ _ _
     have m0 := cell_of_row W _ 0 _ _ _ k0
     have m1 := cell_of_row W _ 1 _ _ _ k0
     have m2 := cell_of_row W _ 2 _ _ _ k0
     have m3 := cell_of_row W _ 3 _ _ _ k0
     have m4 := cell_of_row W _ 4 _ _ _ k0
     simp at m0 m1 m2 m3 m4
     have BQ : Below w.heap.size w W := by rw [← hWW]; exact five_below BE.out (by omega) (by omega) _ _ _ _ _ _
     refine bodyPost_ret (v := .tuple #[.agg #[.int .i64 (V : Int), .int .i64 (U : Int), .slice va ts.length vc, .int .i64 (r + (L : Int) - 1), .int .i64 (d + (T : Int) - 1)], .bool true]) (by simp [results, Tryz.results65, go_sem, m0, m1, m2, m3, m4]) rfl ?_
     refine Or.inr ⟨by rw [HTP.out]; exact NBIG.out, .slice va ts.length vc, by rw [NE.out, show r + (L : Int) - 1 = r - 1 + (L : Int) by omega, show d + (T : Int) - 1 = d - 1 + (T : Int) by omega], ?_, fun g k c h => Nat.le_trans BW.out.size (F5.out g k c h), BQ⟩
     rw [NE.out]
     refine tab_keep T5.out (fun g k cap h => ?_)
     rw [← hWW]
     exact five_keep (by have := F5.out g k cap h; have := VS.out; omega) (tab_lt T5.out h) _ _ _ _ _ _
end Go.Proofs.YtemhcpldflcfbaaGreatDoor
