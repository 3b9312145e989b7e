/-
  What the last text of this claim leans on, part 35: Gt4, Gt5, Gt6, Gp4, Gt7.
-/
import Derived.Test.YtlpdobfjgpedaaaDoorZe34
import Derived.Test.YtlpdobfjgpedaaaDoorZe29
namespace Go.Proofs.YtlpdobfjgpedaaaDoor
open Go.RowKit
set_option linter.unusedVariables false
theorem tab_arg {w : World} {v : Value} {xs : List Int} (h : Tab w v xs) (hm : xs.length ≤ maxLen) : ∃ a c, v = .slice a xs.length c ∧ ArgP w xs a xs.length c := by
  rcases h with ⟨rfl, rfl⟩ | ⟨g, cap, rfl, hg, hc⟩
  · exact ⟨none, 0, rfl, rfl, by simp [maxLen], fun k hk => by simp at hk⟩
  · exact ⟨some ⟨g, 0, none⟩, cap, rfl, rfl, hm, fun k hk => ⟨g, 0, rfl, hg, by rw [Nat.zero_add]; exact hc k hk⟩⟩
theorem tab_keep {w w' : World} {v : Value} {xs : List Int} (h : Tab w v xs) (hk : ∀ g k cap, v = .slice (some ⟨g, 0, none⟩) k cap → w'.heap[g]? = w.heap[g]?) : Tab w' v xs := by
  rcases h with h | ⟨g, cap, e, hg, hc⟩
  · exact Or.inl h
  · have b := hk g _ _ e
    have hg2 : g < w'.heap.size := by
      rcases Nat.lt_or_ge g w'.heap.size with u | u
      · exact u
      · rw [Array.getElem?_eq_none u, Array.getElem?_eq_getElem hg] at b; cases b
    exact Or.inr ⟨g, cap, e, hg2, fun k hk2 => (World.cell?_of_block (w := w) (a := ⟨g, k, none⟩) b).trans (hc k hk2)⟩
theorem tab_lt {w : World} {v : Value} {xs : List Int} (h : Tab w v xs) {g k cap : Nat} (e : v = .slice (some ⟨g, 0, none⟩) k cap) : g < w.heap.size := by
  rcases h with ⟨_, e2⟩ | ⟨g2, cap2, e2, hg, _⟩
  · rw [e] at e2; injection e2 with e3; cases e3
  · rw [e] at e2; injection e2 with e3; injection e3 with e4; injection e4 with e5; rw [e5]; exact hg
theorem five_set {w : World} {g : Nat} {x0 x1 x2 x3 x4 : Value} {t : TypeId} (h : w.heap[g]? = some (.cells #[x0, x1, x2, x3, x4] t (0, 0))) (a b c d e : Value) (o : Obj) :
    ((((((w.setCell ⟨g, 0, none⟩ a).setCell ⟨g, 1, none⟩ b).setCell ⟨g, 2, none⟩ c).setCell ⟨g, 3, none⟩ d).setCell ⟨g, 4, none⟩ e).alloc o).heap[g]? = some (.cells #[a, b, c, d, e] t (0, 0)) := by
  have h0 : (w.setCell ⟨g, 0, none⟩ a).heap[g]? = some (.cells #[a, x1, x2, x3, x4] t (0, 0)) := by rw [heap_setCell_same _ _ _ _ _ _ h]; rfl
  have h1 : ((w.setCell ⟨g, 0, none⟩ a).setCell ⟨g, 1, none⟩ b).heap[g]? = some (.cells #[a, b, x2, x3, x4] t (0, 0)) := by rw [heap_setCell_same _ _ _ _ _ _ h0]; rfl
  have h2 : (((w.setCell ⟨g, 0, none⟩ a).setCell ⟨g, 1, none⟩ b).setCell ⟨g, 2, none⟩ c).heap[g]? = some (.cells #[a, b, c, x3, x4] t (0, 0)) := by rw [heap_setCell_same _ _ _ _ _ _ h1]; rfl
  have h3 : ((((w.setCell ⟨g, 0, none⟩ a).setCell ⟨g, 1, none⟩ b).setCell ⟨g, 2, none⟩ c).setCell ⟨g, 3, none⟩ d).heap[g]? = some (.cells #[a, b, c, d, x4] t (0, 0)) := by rw [heap_setCell_same _ _ _ _ _ _ h2]; rfl
  have h4 : (((((w.setCell ⟨g, 0, none⟩ a).setCell ⟨g, 1, none⟩ b).setCell ⟨g, 2, none⟩ c).setCell ⟨g, 3, none⟩ d).setCell ⟨g, 4, none⟩ e).heap[g]? = some (.cells #[a, b, c, d, e] t (0, 0)) := by rw [heap_setCell_same _ _ _ _ _ _ h3]; rfl
  rw [Below.heap_alloc _ _ _ (lt_of_block h4)]
  exact h4
theorem five_below {B : Nat} {a w : World} (h : Below B a w) {g : Nat} (hg : B ≤ g) (hs : B ≤ w.heap.size) (x0 x1 x2 x3 x4 : Value) (o : Obj) : Below B a ((((((w.setCell ⟨g, 0, none⟩ x0).setCell ⟨g, 1, none⟩ x1).setCell ⟨g, 2, none⟩ x2).setCell ⟨g, 3, none⟩ x3).setCell ⟨g, 4, none⟩ x4).alloc o) :=
  (((((h.setCell hg _).setCell hg _).setCell hg _).setCell hg _).setCell hg _).alloc (by simp; omega) _
theorem five_keep {w : World} {g k : Nat} (hk : k ≠ g) (hs : k < w.heap.size) (x0 x1 x2 x3 x4 : Value) (o : Obj) : ((((((w.setCell ⟨g, 0, none⟩ x0).setCell ⟨g, 1, none⟩ x1).setCell ⟨g, 2, none⟩ x2).setCell ⟨g, 3, none⟩ x3).setCell ⟨g, 4, none⟩ x4).alloc o).heap[k]? = w.heap[k]? := by
  rw [Below.heap_alloc _ _ _ (by simp; omega), Below.heap_setCell _ _ _ _ (by simpa using hk), Below.heap_setCell _ _ _ _ (by simpa using hk), Below.heap_setCell _ _ _ _ (by simpa using hk), Below.heap_setCell _ _ _ _ (by simpa using hk), Below.heap_setCell _ _ _ _ (by simpa using hk)]
/-- What lies there while the next pattern is made. -/
structure NT (w w4 wr : World) (W2 H2 : Int) (v : Value) (ys : List Int) : Prop where
  keep : ∀ k, k < w.heap.size + 1 + 1 + 1 → wr.heap[k]? = w4.heap[k]?
  q : TB (w.heap.size + 1 + 1 + 1) (.int .i64 W2) (.int .i64 H2) v wr
  own : wr.ownsRow (w.heap.size + 1 + 1 + 1 + 1) 3 1 v ys.length (ys.map fun x => .int .i64 x)
  below : Below w.heap.size w wr
  sz : w.heap.size + 1 + 1 + 1 + 1 ≤ wr.heap.size
theorem NT.next {w w4 wr w' : World} {W2 H2 : Int} {v : Value} {ys : List Int} (h : NT w w4 wr W2 H2 v ys) (hb : Below wr.heap.size wr w') : NT w w4 w' W2 H2 v ys := by
  have hz := h.sz
  exact ⟨fun k hk => (hb.block k (by omega)).trans (h.keep k hk), h.q.next hb, ownsRow_from h.own fun k _ hk => hb.block k hk, h.below.trans (hb.mono (by omega)), by have := hb.size; omega⟩
theorem NT.grown {w w4 wr w' : World} {W2 H2 : Int} {v : Value} {ys : List Int} (h : NT w w4 wr W2 H2 v ys) (x : Int) (hg : (wr.alloc (.cells #[.int .i64 x] 3)).grownBy w' v.ownBlock) : ∀ k, k < w.heap.size + 1 + 1 + 1 + 1 → w'.heap[k]? = wr.heap[k]? := fun k hk => by
  have hz := h.sz
  have hob := ownsRow_block h.own
  rw [hg.block k (by rw [World.size_alloc]; omega) (fun e => by have := hob k e.symm; omega)]
  exact Below.heap_alloc _ _ _ (by omega)
theorem NT.mid {w w4 wr w' : World} {W2 H2 : Int} {v : Value} {ys : List Int} (h : NT w w4 wr W2 H2 v ys) (x : Int) (hg : (wr.alloc (.cells #[.int .i64 x] 3)).grownBy w' v.ownBlock) : w'.cell? ⟨w.heap.size + 1 + 1 + 1, 2, none⟩ = some v ∧ w'.frozen? ⟨w.heap.size + 1 + 1 + 1, 2, none⟩ = false := by
  have t := h.q.block (h.grown x hg _ (by omega))
  exact ⟨t.c2, t.fz 2⟩
theorem NT.push {w w4 wr w' : World} {W2 H2 : Int} {v v' : Value} {ys : List Int} (h : NT w w4 wr W2 H2 v ys) (x : Int) (hg : (wr.alloc (.cells #[.int .i64 x] 3)).grownBy w' v.ownBlock) (ho : w'.ownsRow (w.heap.size + 1 + 1 + 1 + 1) 3 1 v' (ys.length + 1) ((ys.map fun x => .int .i64 x) ++ [.int .i64 x])) : NT w w4 (w'.setCell ⟨w.heap.size + 1 + 1 + 1, 2, none⟩ v') W2 H2 v' (ys ++ [x]) := by
  have hk := h.grown x hg
  have hz := h.sz
  have hsz : wr.heap.size + 1 ≤ w'.heap.size := by have := hg.size; rw [World.size_alloc] at this; exact this
  have hb : Below w.heap.size w w' := h.below.trans ⟨hg.os, hg.tape, hg.output, by omega, fun k hkk => hk k (by omega)⟩
  have tq := h.q.block (hk _ (by omega))
  refine ⟨fun k hkk => (Below.heap_setCell _ _ _ _ (by simp; omega)).trans ((hk k (by omega)).trans (h.keep k hkk)), ⟨cell_other tq.c0 (by omega), cell_other tq.c1 (by omega), cell_same tq.c2, fun k => by rw [World.frozen?_setCell]; exact tq.fz k⟩, ?_, hb.setCell (by simp; omega) _, by rw [World.size_setCell]; omega⟩
  have := ownsRow_setCell_below ho (a := ⟨w.heap.size + 1 + 1 + 1, 2, none⟩) (by simp) v'
  simpa using this
/-- The first cells of the next pattern. -/
def nxPre (born stay : Nat) (q : Pat) (m : Nat) : List Int := (List.range m).map fun i => if nxB born stay q (i / (q.W + 2)) (i % (q.W + 2)) then 1 else 0
theorem nxPre_length (born stay : Nat) (q : Pat) (m : Nat) : (nxPre born stay q m).length = m := by simp [nxPre]
theorem nxPre_step (born stay : Nat) (q : Pat) (y x : Nat) (hx : x < q.W + 2) : nxPre born stay q (y * (q.W + 2) + x) ++ [if nxB born stay q y x then 1 else 0] = nxPre born stay q (y * (q.W + 2) + x + 1) := by
  unfold nxPre
  rw [List.range_succ, List.map_append, List.map_cons, List.map_nil]
  have m1 : (y * (q.W + 2) + x) % (q.W + 2) = x := by rw [Nat.mul_comm, Nat.mul_add_mod]; exact Nat.mod_eq_of_lt hx
  have d1 : (y * (q.W + 2) + x) / (q.W + 2) = y := by rw [Nat.mul_comm, Nat.mul_add_div (by omega), Nat.div_eq_of_lt hx, Nat.add_zero]
  rw [m1, d1]
/-- What Next answers. -/
def NextPost (born stay : Nat) (q : Pat) (r d : Int) (w : World) (e : Ending) (w' : World) : Prop :=
  (100 < (trimP (nextC born stay q)).1.W ∨ 100 < (trimP (nextC born stay q)).1.H) ∧ e = .returned (.tuple #[.agg #[.int .i64 0, .int .i64 0, .slice none 0 0, .int .i64 0, .int .i64 0], .bool false]) ∧ Below w.heap.size w w' ∨
  (¬ (100 < (trimP (nextC born stay q)).1.W ∨ 100 < (trimP (nextC born stay q)).1.H)) ∧ ∃ v, e = .returned (.tuple #[.agg #[.int .i64 ((nextG born stay ⟨q, r, d⟩).P.W : Int), .int .i64 ((nextG born stay ⟨q, r, d⟩).P.H : Int), v, .int .i64 (nextG born stay ⟨q, r, d⟩).r, .int .i64 (nextG born stay ⟨q, r, d⟩).d], .bool true]) ∧ Tab w' v (nextG born stay ⟨q, r, d⟩).P.xs ∧ Fresh w v ∧ Below w.heap.size w w'
end Go.Proofs.YtlpdobfjgpedaaaDoor

namespace Go.Proofs.YtlpdobfjgpedaaaDoor
open Go.RowKit
set_option linter.unusedVariables false
/-- A state of growth as edenref3 has it. -/
def gV (s : Gst) (v : Value) : Value := .agg #[.int .i64 (s.P.W : Int), .int .i64 (s.P.H : Int), v, .int .i64 s.r, .int .i64 s.d]
theorem box_le {q : Pat} (hW : q.W ≤ 102) (hH : q.H ≤ 102) (R D : Int) : (boxG q R D).P.W ≤ q.W ∧ (boxG q R D).P.H ≤ q.H := by
  unfold boxG
  rcases trim_cases q with ⟨h0, h1⟩ | ⟨l, t, r, b, hB, h1⟩
  · rw [h1, if_pos rfl]; exact ⟨Nat.zero_le _, Nat.zero_le _⟩
  · rw [h1]
    dsimp only
    split
    · exact ⟨Nat.zero_le _, Nat.zero_le _⟩
    · obtain ⟨y, x, c, e⟩ := hB.ri
      obtain ⟨y2, x2, c2, e2⟩ := hB.lo
      have := (cellP_at c).1
      have := (cellP_at c2).2.1
      dsimp only
      omega
theorem box_zero {q : Pat} {R D : Int} (h : (boxG q R D).P.W = 0) : boxG q R D = noG := by
  unfold boxG at h ⊢
  split
  · rfl
  · rename_i k; rw [if_neg k] at h; exact absurd h k
theorem noG_next {born stay : Nat} (b0 : born.testBit 0 = false) : nextG born stay noG = noG := by
  unfold nextG boxG
  have z : ∀ y x, cellP (nextC born stay noG.P) y x = false := fun y x => by
    rw [nextC_cell]
    have e : ∀ y x, c2 noG.P y x = false := fun y x => by simp [c2, cellP, noG]
    have : nxB born stay noG.P y x = false := by simp [nxB, nb2, e, b0]
    rw [this]; simp
  rcases trim_cases (nextC born stay noG.P) with ⟨h0, h1⟩ | ⟨l, t, r, b, hB, h1⟩
  · rw [h1, if_pos rfl]
  · obtain ⟨y, x, c, e⟩ := hB.le; rw [z] at c; cases c
theorem grow_noG {born stay : Nat} (b0 : born.testBit 0 = false) {s : Gst} {m : Nat} (h : growG born stay s m = some noG) : ∀ k, growG born stay s (m + k) = some noG
  | 0 => h
  | k + 1 => by
    rw [← Nat.add_assoc, growG, grow_noG b0 h k]
    dsimp only
    rw [noG_next b0, if_neg (by simp [noG])]
/-- What stays so while it grows. -/
theorem grow_ok {born stay : Nat} {s : Gst} (hs : GOk s) (hW : s.P.W ≤ 100) (hH : s.P.H ≤ 100) (hr : -200 ≤ s.r ∧ s.r ≤ 200 ∧ -200 ≤ s.d ∧ s.d ≤ 200) : ∀ n u, growG born stay s n = some u → GOk u ∧ u.P.W ≤ 100 ∧ u.P.H ≤ 100 ∧ -200 - 103 * (n : Int) ≤ u.r ∧ u.r ≤ 200 + 103 * (n : Int) ∧ -200 - 103 * (n : Int) ≤ u.d ∧ u.d ≤ 200 + 103 * (n : Int)
  | 0, u, h => by
    rw [growG] at h
    injection h with h
    subst h
    exact ⟨hs, hW, hH, by omega, by omega, by omega, by omega⟩
  | n + 1, u, h => by
    rw [growG] at h
    cases hg : growG born stay s n with
    | none => rw [hg] at h; cases h
    | some t =>
      rw [hg] at h
      dsimp only at h
      obtain ⟨i1, i2, i3, i4, i5, i6, i7⟩ := grow_ok hs hW hH hr n t hg
      split at h
      · cases h
      · rename_i nb
        injection h with h
        subst h
        have bn := box_near (q := nextC born stay t.P) (R := t.r - 1) (D := t.d - 1) (m := 200 + 103 * (n : Int)) (by show ((t.P.W + 2 : Nat) : Int) ≤ 102; omega) (by show ((t.P.H + 2 : Nat) : Int) ≤ 102; omega) (by omega) (by omega) (by omega) (by omega) (by omega)
        refine ⟨next_ok born stay t, by omega, by omega, ?_, ?_, ?_, ?_⟩
        · have := bn.1; show _ ≤ (boxG _ _ _).r; push_cast; omega
        · have := bn.2.1; show (boxG _ _ _).r ≤ _; push_cast; omega
        · have := bn.2.2.1; show _ ≤ (boxG _ _ _).d; push_cast; omega
        · have := bn.2.2.2; show (boxG _ _ _).d ≤ _; push_cast; omega
theorem first_ok {p : Pat} (hx : ∀ k, 0 ≤ p.xs.getD k 0 ∧ p.xs.getD k 0 ≤ 1) (hW : p.W ≤ 100) (hH : p.H ≤ 100) : GOk (firstG p) ∧ (firstG p).P.W ≤ 100 ∧ (firstG p).P.H ≤ 100 ∧ (-200 ≤ (firstG p).r ∧ (firstG p).r ≤ 200 ∧ -200 ≤ (firstG p).d ∧ (firstG p).d ≤ 200) := by
  have l := box_le (q := p) (by omega) (by omega) 0 0
  have bn := box_near (q := p) (R := 0) (D := 0) (m := 0) (by omega) (by omega) (by omega) (by omega) (by omega) (by omega) (by omega)
  exact ⟨box_ok hx 0 0, by show (boxG p 0 0).P.W ≤ 100; omega, by show (boxG p 0 0).P.H ≤ 100; omega, by show -200 ≤ (boxG p 0 0).r; omega, by show (boxG p 0 0).r ≤ 200; omega, by show -200 ≤ (boxG p 0 0).d; omega, by show (boxG p 0 0).d ≤ 200; omega⟩
def GPost (s : Gst) (w : World) (e : Ending) (w' : World) : Prop := ∃ v, e = .returned (gV s v) ∧ Tab w' v s.P.xs ∧ Fresh w v ∧ Below w.heap.size w w'
end Go.Proofs.YtlpdobfjgpedaaaDoor

namespace Go.Proofs.YtlpdobfjgpedaaaDoor
open Go.RowKit
set_option linter.unusedVariables false
/-- What Grow answers where it may grow. -/
def RefGrowPost (born stay : Nat) (s0 : Gst) (m : Nat) (w : World) (e : Ending) (w' : World) : Prop :=
  (growG born stay s0 m = none ∧ e = .returned (.tuple #[.agg #[.int .i64 0, .int .i64 0, .slice none 0 0, .int .i64 0, .int .i64 0], .int .i64 4]) ∧ Below w.heap.size w w') ∨
  (∃ u v, growG born stay s0 m = some u ∧ e = .returned (.tuple #[gV u v, .int .i64 0]) ∧ Tab w' v u.P.xs ∧ Fresh w v ∧ Below w.heap.size w w')
theorem big_iff (born stay : Nat) (s : Gst) : (100 < (trimP (nextC born stay s.P)).1.W ∨ 100 < (trimP (nextC born stay s.P)).1.H) ↔ (100 < (nextG born stay s).P.W ∨ 100 < (nextG born stay s).P.H) := by
  unfold nextG boxG
  rcases trim_cases (nextC born stay s.P) with ⟨h0, h1⟩ | ⟨l, t, r, b, hB, h1⟩
  · rw [h1, if_pos rfl]; simp [noG]
  · rw [h1]
    dsimp only
    obtain ⟨y, x, c, e⟩ := hB.le
    have := hB.inn _ _ c
    rw [if_neg (by omega)]
theorem grow_stays {born stay : Nat} {s : Gst} {m : Nat} (h : growG born stay s m = none) : ∀ k, growG born stay s (m + k) = none
  | 0 => h
  | k + 1 => by rw [← Nat.add_assoc, growG, grow_stays h k]
theorem grow_big {born stay : Nat} {s u : Gst} {i : Nat} (h : growG born stay s i = some u) (hb : 100 < (trimP (nextC born stay u.P)).1.W ∨ 100 < (trimP (nextC born stay u.P)).1.H) : growG born stay s (i + 1) = none := by
  rw [growG, h]
  dsimp only
  rw [if_pos ((big_iff born stay u).1 hb)]
theorem grow_small {born stay : Nat} {s u : Gst} {i : Nat} (h : growG born stay s i = some u) (hb : ¬ (100 < (trimP (nextC born stay u.P)).1.W ∨ 100 < (trimP (nextC born stay u.P)).1.H)) : growG born stay s (i + 1) = some (nextG born stay u) := by
  rw [growG, h]
  dsimp only
  rw [if_neg (fun k => hb ((big_iff born stay u).2 k))]
theorem grow_zero {born stay : Nat} {s u : Gst} {i : Nat} (hs : s.P.W = 0 → s = noG) (h : growG born stay s i = some u) (hu : u.P.W = 0) : u = noG := by
  cases i with
  | zero => rw [growG] at h; injection h with h; subst h; exact hs hu
  | succ i =>
    rw [growG] at h
    cases hg : growG born stay s i with
    | none => rw [hg] at h; cases h
    | some t =>
      rw [hg] at h
      dsimp only at h
      split at h
      · cases h
      · injection h with h; subst h; exact box_zero hu
end Go.Proofs.YtlpdobfjgpedaaaDoor

namespace Go.Proofs.YtlpdobfjgpedaaaDoor
open Go.RowKit
set_option linter.unusedVariables false

set_option maxRecDepth 100000 in
set_option maxHeartbeats 6400000 in
theorem refPlaneFault_any (o : Out) (ta : Option Addr) (tn tc : Nat) (W H : Int) (xs : List Int) (a : Option Addr) (n c : Nat) (w : World) (hR : ArgR w o ta tn tc) (hP : ArgP w xs a n c) :
    Calls Tryd.prog 6 #[.agg #[.int .i64 o.kind, .int .i64 o.born, .int .i64 o.stay, .int .i64 o.states, .int .i64 o.radius, .slice ta tn tc, .string o.turns], .agg #[.int .i64 W, .int .i64 H, .slice a n c]] w fun e w' => (∃ f, plaE o W H xs f ∧ e = .returned (.int .i64 (f : Int))) ∧ Below w.heap.size w w' := by
  obtain ⟨w1, hw1⟩ : ∃ w1, (w.alloc (.cells #[.int .i64 o.kind, .int .i64 o.born, .int .i64 o.stay, .int .i64 o.states, .int .i64 o.radius, .slice ta tn tc, .string o.turns] 24)).alloc (.cells #[.int .i64 W, .int .i64 H, .slice a n c] 26) = w1 := ⟨_, rfl⟩
  have BB := hide' (show Below w.heap.size w w1 by rw [← hw1]; exact ((Below.refl _ _).alloc (Nat.le_refl _) _).alloc (by simp) _)
  have RX := hide' (show RBp w.heap.size o (.slice ta tn tc) w1 by rw [← hw1]; exact (RBp.new w o (.slice ta tn tc) 24).block (Below.heap_alloc _ _ _ (by simp)))
  have y0 : w1.cell? ⟨w.heap.size + 1, 0, none⟩ = some (.int .i64 W) := by rw [← hw1, World.cell?_alloc_at _ _ _ _ (by simp)]; rfl
  have y1 : w1.cell? ⟨w.heap.size + 1, 1, none⟩ = some (.int .i64 H) := by rw [← hw1, World.cell?_alloc_at _ _ _ _ (by simp)]; rfl
  have y2 : w1.cell? ⟨w.heap.size + 1, 2, none⟩ = some (.slice a n c) := by rw [← hw1, World.cell?_alloc_at _ _ _ _ (by simp)]; rfl
  have PL : w.heap.size + 1 < w1.heap.size := by rw [← hw1]; simp
  have PX := hide' (fun (w' : World) (hb : Below w1.heap.size w1 w') => show w'.cell? ⟨w.heap.size + 1, 0, none⟩ = some (.int .i64 W) ∧ w'.cell? ⟨w.heap.size + 1, 1, none⟩ = some (.int .i64 H) ∧ w'.cell? ⟨w.heap.size + 1, 2, none⟩ = some (.slice a n c) from
    have e := hb.block (w.heap.size + 1) PL
    ⟨(World.cell?_of_block (w := w1) (a := ⟨w.heap.size + 1, 0, none⟩) e).trans y0, (World.cell?_of_block (w := w1) (a := ⟨w.heap.size + 1, 1, none⟩) e).trans y1, (World.cell?_of_block (w := w1) (a := ⟨w.heap.size + 1, 2, none⟩) e).trans y2⟩)
  have AT := hide' (show ArgR w1 o ta tn tc by rw [← hw1]; exact (hR.alloc _).alloc _)
  have AP := hide' (hP.below BB.out)
  clear hR hP y0 y1 y2 PL
  have C0 := hide' (Below.refl w1.heap.size w1)
  obtain ⟨x0, x1, x2, x3, x4, x5, x6⟩ := RX.out
  go_enter Tryd.func6, Tryd.ntmps6
  go_wp2_with fail
  refine (Fault_any o ta tn tc _ (AT.out.below C0.out)).mono ?_
  rintro e w2 ⟨hor, b⟩
  have C1 := hide' (C0.out.trans (b.mono C0.out.size))
  clear hw1 b x0 x1 x2 x3 x4 x5 x6 C0
  obtain ⟨x0, x1, x2, x3, x4, x5, x6⟩ := RX.out.next C1.out
  obtain ⟨y0, y1, y2⟩ := PX.out _ C1.out
  rcases hor with ⟨rfl, hG⟩ | ⟨rfl, hG⟩
  · have HG := hide' hG
    clear hG
    go_wp2_with fail
    refine (Shape_P W H xs a n c _ (AP.out.below C1.out)).mono ?_
    obtain ⟨f, hf⟩ : ∃ f, shapeF W H xs = f := ⟨_, rfl⟩
    have HF := hide' hf
    rw [hf]
    clear hf
    rintro e w3 ⟨rfl, b⟩
    have C2 := hide' (C1.out.trans (b.mono C1.out.size))
    clear b x0 x1 x2 x3 x4 x5 x6 y0 y1 y2 C1
    obtain ⟨x0, x1, x2, x3, x4, x5, x6⟩ := RX.out.next C2.out
    by_cases f0 : f = 0
    · subst f0
      by_cases k1 : o.kind = 1
      · have kb : (o.kind != 1) = false := by simp [k1]
        have PE := hide' (show plaE o W H xs 0 from Or.inr (Or.inr (Or.inr ⟨HG.out, HF.out, k1, rfl⟩)))
        clear k1
        go_wp2
        go_ret
        exact ⟨⟨0, PE.out, rfl⟩, BB.out.trans (C2.out.mono BB.out.size)⟩
      · have kb : (o.kind != 1) = true := by simp [k1]
        have PE := hide' (show plaE o W H xs 1 from Or.inr (Or.inr (Or.inl ⟨HG.out, HF.out, k1, rfl⟩)))
        clear k1
        go_wp2
        go_ret
        exact ⟨⟨1, PE.out, rfl⟩, BB.out.trans (C2.out.mono BB.out.size)⟩
    · have PE := hide' (show plaE o W H xs f from Or.inr (Or.inl ⟨HG.out, by rw [HF.out]; exact f0, HF.out.symm⟩))
      have fb : ((f : Int) == 0) = false := by simp; omega
      clear f0
      go_wp2
      go_ret
      exact ⟨⟨f, PE.out, rfl⟩, BB.out.trans (C2.out.mono BB.out.size)⟩
  · have PE := hide' (show plaE o W H xs 1 from Or.inl ⟨hG, rfl⟩)
    clear hG
    go_wp2
    go_ret
    exact ⟨⟨1, PE.out, rfl⟩, BB.out.trans (C1.out.mono BB.out.size)⟩
end Go.Proofs.YtlpdobfjgpedaaaDoor

namespace Go.Proofs.YtlpdobfjgpedaaaDoor
open Go.RowKit
set_option linter.unusedVariables false
/-- What is wrong where a plane without an end is asked for. -/
def grE (o : Out) (W H : Int) (xs : List Int) (f : Nat) : Prop := (∃ g, plaE o W H xs g ∧ g ≠ 0 ∧ f = g) ∨ (plaE o W H xs 0 ∧ o.born % 2 = 1 ∧ f = 1) ∨ (plaE o W H xs 0 ∧ o.born % 2 = 0 ∧ f = 0)
theorem pla_good {o : Out} {W H : Int} {xs : List Int} (h : plaE o W H xs 0) : ∃ b s : Nat, o.born = (b : Int) ∧ o.stay = (s : Int) ∧ b ≤ 511 ∧ s ≤ 511 ∧ o.kind = 1 ∧ shapeF W H xs = 0 := by
  rcases h with ⟨_, h⟩ | ⟨_, h1, h2⟩ | ⟨_, _, _, h⟩ | ⟨hg, hs, hk, _⟩
  · omega
  · exact absurd h2.symm h1
  · omega
  · rcases hg with ⟨_, h1, h2, _⟩ | ⟨h, _⟩ | ⟨h, _⟩
    · unfold bitsB at h1 h2
      simp at h1 h2
      exact ⟨o.born.toNat, o.stay.toNat, by omega, by omega, by omega, by omega, hk, hs⟩
    · omega
    · omega
set_option maxRecDepth 100000 in
set_option maxHeartbeats 6400000 in
theorem checkGrowth_any (o : Out) (ta : Option Addr) (tn tc : Nat) (W H : Int) (xs : List Int) (a : Option Addr) (n c : Nat) (w : World) (hR : ArgR w o ta tn tc) (hP : ArgP w xs a n c) :
    Calls Tryd.prog 44 #[.agg #[.int .i64 o.kind, .int .i64 o.born, .int .i64 o.stay, .int .i64 o.states, .int .i64 o.radius, .slice ta tn tc, .string o.turns], .agg #[.int .i64 W, .int .i64 H, .slice a n c]] w fun e w' => (∃ f, grE o W H xs f ∧ e = .returned (errOf f)) ∧ Below w.heap.size w w' := by
  obtain ⟨w1, hw1⟩ : ∃ w1, (w.alloc (.cells #[.int .i64 o.kind, .int .i64 o.born, .int .i64 o.stay, .int .i64 o.states, .int .i64 o.radius, .slice ta tn tc, .string o.turns] 24)).alloc (.cells #[.int .i64 W, .int .i64 H, .slice a n c] 26) = w1 := ⟨_, rfl⟩
  have BB := hide' (show Below w.heap.size w w1 by rw [← hw1]; exact ((Below.refl _ _).alloc (Nat.le_refl _) _).alloc (by simp) _)
  have g0 : w1.heap[w.heap.size]? = some (.cells #[.int .i64 o.kind, .int .i64 o.born, .int .i64 o.stay, .int .i64 o.states, .int .i64 o.radius, .slice ta tn tc, .string o.turns] 24 (0, 0)) := by rw [← hw1, Below.heap_alloc _ _ _ (by simp)]; exact heap_alloc_new _ _
  have g1 : w1.heap[w.heap.size + 1]? = some (.cells #[.int .i64 W, .int .i64 H, .slice a n c] 26 (0, 0)) := by rw [← hw1]; exact heap_atX _ _ _ (by simp)
  have x0 := cell_of_row w1 _ 0 _ _ _ g0
  have x1 := cell_of_row w1 _ 1 _ _ _ g0
  have x2 := cell_of_row w1 _ 2 _ _ _ g0
  have x3 := cell_of_row w1 _ 3 _ _ _ g0
  have x4 := cell_of_row w1 _ 4 _ _ _ g0
  have x5 := cell_of_row w1 _ 5 _ _ _ g0
  have x6 := cell_of_row w1 _ 6 _ _ _ g0
  have y0 := cell_of_row w1 _ 0 _ _ _ g1
  have y1 := cell_of_row w1 _ 1 _ _ _ g1
  have y2 := cell_of_row w1 _ 2 _ _ _ g1
  simp at x0 x1 x2 x3 x4 x5 x6 y0 y1 y2
  have CC := hide' (planeCheck_any o ta tn tc W H xs a n c w1 (hR.below BB.out) (hP.below BB.out))
  have G0 := hide' g0
  clear hR hP g0 g1
  go_enter Tryd.func44, Tryd.ntmps44
  go_wp2_with fail
  refine CC.out.mono ?_
  rintro e w2 ⟨⟨f, hf, rfl⟩, b2⟩
  have HF := hide' hf
  have z1 := cell_of_row w2 _ 1 _ _ _ ((b2.block _ (lt_of_block G0.out)).trans G0.out)
  simp at z1
  have BQ := hide' (BB.out.trans (b2.mono BB.out.size))
  clear hf b2 hw1 x0 x1 x2 x3 x4 x5 x6 y0 y1 y2
  by_cases f0 : f = 0
  · subst f0
    rw [show errOf 0 = .nilIface from rfl]
    obtain ⟨b, s, hb, -, b5, -⟩ := pla_good HF.out
    have HB := hide' hb
    rw [hb] at z1
    have an := and_bit' b 0 b5
    have an2 : bits BinOp.and IntKind.i64 (b : Int) 1 = ((b % 2 : Nat) : Int) := by simpa using an
    obtain ⟨r, hr⟩ : ∃ r, b % 2 = r := ⟨_, rfl⟩
    rw [hr] at an2
    have HR := hide' hr
    have r2 : r ≤ 1 := by omega
    clear an hr hb
    by_cases r0 : r = 0
    · subst r0
      go_wp2
      go_ret
      exact ⟨⟨0, Or.inr (Or.inr ⟨HF.out, by rw [HB.out]; have := HR.out; omega, rfl⟩), rfl⟩, BQ.out⟩
    · have r1 : r = 1 := by omega
      subst r1
      go_wp2
      go_ret
      exact ⟨⟨1, Or.inr (Or.inl ⟨HF.out, by rw [HB.out]; have := HR.out; omega, rfl⟩), rfl⟩, BQ.out⟩
  · have PE := hide' (show grE o W H xs f from Or.inl ⟨f, HF.out, f0, rfl⟩)
    rw [show errOf f = .iface 54 (.int .i64 (f : Int)) from if_neg f0]
    have EF := hide' (show errOf f = .iface 54 (.int .i64 (f : Int)) from if_neg f0)
    clear f0
    go_wp2
    go_ret
    exact ⟨⟨f, PE.out, by rw [EF.out]; rfl⟩, BQ.out⟩
end Go.Proofs.YtlpdobfjgpedaaaDoor

