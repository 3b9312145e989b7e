/-
  What the last text of this claim leans on, part 19: Gt2, Wc2, Gt3, Wf3, Wf4, Gt4, Gt5, Gt6, Gp0, Wa2.
-/
import Derived.Test.YtdbgdfodoceadaaDoorZt18
import Derived.Test.YtdbgdfodoceadaaDoorZt11
import Derived.Test.YtdbgdfodoceadaaDoorZt12
import Derived.Test.YtdbgdfodoceadaaDoorZt13
import Derived.Test.YtdbgdfodoceadaaDoorZt3
import Derived.Test.YtdbgdfodoceadaaDoorZt9
namespace Go.Proofs.YtdbgdfodoceadaaDoor
open Go.RowKit
set_option linter.unusedVariables false
/-- What lives, and where its left upper corner is; as it lies. -/
structure Gst where
  P : Pat
  r : Int
  d : Int
def grV (s : Gst) : Array Value := arrF 208 (grF (wX s.P) (s.P.W : Int) (s.P.H : Int) s.r s.d)
theorem grV_size (s : Gst) : (grV s).size = 208 := arrF_size ..
theorem grV_all (s : Gst) : (grV s).all (·.oneCell') = true := grF_all ..
def noG : Gst := ⟨⟨0, 0, []⟩, 0, 0⟩
theorem noG_zero : Tryd.zeroCells89 = grV noG := by
  rw [zero_grown]
  refine arrF_ext fun k hk => ?_
  unfold grF uF
  have : wX noG.P k = 0 := by
    have := wX_is (q := noG.P) (k := k) (a := 0) (by omega) (fun j hj => by simp [cellP, noG])
    exact this.symm
  rw [this]
  rfl
def boxG (q : Pat) (R D : Int) : Gst := if (trimP q).1.W = 0 then noG else ⟨(trimP q).1, R + ((trimP q).2.1 : Int), D + ((trimP q).2.2 : Int)⟩
theorem uF_words {f g : Nat → Nat} (h : ∀ k, f k = g k) : arrF 204 (uF f) = arrF 204 (uF g) := arrF_ext fun k _ => by unfold uF; rw [h k]
theorem boxed_pat (q : Pat) (R D : Int) (w : World) (hW : q.W ≤ 128) (hH : q.H ≤ 102) (hT : TzTab w) (R1 : -1000000000 ≤ R) (R2 : R ≤ 1000000000) (D1 : -1000000000 ≤ D) (D2 : D ≤ 1000000000) :
    Calls Tryd.prog 80 #[.agg (arrF 204 (uF (wX q))), .int .i64 R, .int .i64 D] w fun e w' => e = .returned (.agg (grV (boxG q R D))) ∧ Below w.heap.size w w' := by
  unfold boxG
  rcases trim_cases q with ⟨h0, h1⟩ | ⟨l, t, r, b, hB, h1⟩
  · rw [h1, if_pos rfl, ← noG_zero]
    obtain ⟨e1, e2⟩ := living_none hW h0
    exact boxed_none (wX q) R D w (fun k _ => wX_lt q k) hT e1 e2
  · obtain ⟨y0, x0, c0, -⟩ := hB.le
    obtain ⟨k, k1, k2⟩ := living_box hW hH c0
    obtain ⟨e1, e2, e3, e4⟩ := hB.same k
    have lr := hB.inn _ _ c0
    have g := boxed_some (wX q) t b l r R D w (fun k _ => wX_lt q k) hT e1.symm e3.symm e2.symm e4.symm (by omega) (by omega) (by omega) (by omega) R1 R2 D1 D2
    rw [h1]
    dsimp only
    rw [if_neg (by omega)]
    have a1 : ((r : Int) - (l : Int)) = ((r - l : Nat) : Int) := by omega
    have a2 : ((b : Int) - (t : Int)) = ((b - t : Nat) : Int) := by omega
    rw [a1, a2] at g
    have a3 : arrF 208 (grF (bxX (wX q) t l (b - t)) ((r - l : Nat) : Int) ((b - t : Nat) : Int) (R + (l : Int)) (D + (t : Int))) = grV ⟨⟨r - l, b - t, winP q.W l t (r - l) ((r - l) * (b - t)) q.xs⟩, R + (l : Int), D + (t : Int)⟩ := by
      refine arrF_ext fun k _ => ?_
      unfold grF uF
      rw [boxed_words hB (by omega)]
    rw [a3] at g
    exact g
def firstG (p : Pat) : Gst := boxG p 0 0
def nextG (born stay : Nat) (s : Gst) : Gst := boxG (nextC born stay s.P) (s.r - 1) (s.d - 1)
theorem settle_pat (W H : Nat) (xs : List Int) (a : Option Addr) (n c : Nat) (w : World) (hP : ArgP w xs a n c) (hn : xs.length = W * H) (hx : ∀ k, 0 ≤ xs.getD k 0 ∧ xs.getD k 0 ≤ 1) (hW : W ≤ 100) (hH : H ≤ 100) (hT : TzTab w) :
    Calls Tryd.prog 49 #[.agg #[.int .i64 (W : Int), .int .i64 (H : Int), .slice a n c]] w fun e w' => e = .returned (.agg (grV (firstG ⟨W, H, xs⟩))) ∧ Below w.heap.size w w' := by
  refine settle_any W H xs a n c (grV (firstG ⟨W, H, xs⟩)) w hP hn hx hW hH hT (grV_size _) (grV_all _) (fun w' ht => ?_)
  rw [uF_words (fun k => settle_words (show W ≤ 128 by omega) hx k)]
  exact boxed_pat ⟨W, H, xs⟩ 0 0 w' (by show W ≤ 128; omega) (by show H ≤ 102; omega) ht (by omega) (by omega) (by omega) (by omega)
theorem step_pat (kd st ra : Int) (born stay : Nat) (ta : Option Addr) (tn tc : Nat) (sb : ByteArray) (s : Gst) (w : World) (hb : born ≤ 511) (hs : stay ≤ 511) (b0 : born.testBit 0 = false) (hW : s.P.W ≤ 100) (hH : s.P.H ≤ 100) (hT : TzTab w) (R1 : -100000000 ≤ s.r) (R2 : s.r ≤ 100000000) (D1 : -100000000 ≤ s.d) (D2 : s.d ≤ 100000000) :
    Calls Tryd.prog 50 #[.agg (grV s), .agg #[.int .i64 kd, .int .i64 (born : Int), .int .i64 (stay : Int), .int .i64 st, .int .i64 ra, .slice ta tn tc, .string sb]] w fun e w' => e = .returned (.agg (grV (nextG born stay s))) ∧ Below w.heap.size w w' := by
  refine step_any kd st ra born stay ta tn tc sb (wX s.P) (s.P.W : Int) s.P.H s.r s.d (grV (nextG born stay s)) w hb hs (wX_lt s.P) hH hT R1 R2 D1 D2 (grV_size _) (grV_all _) (fun w' ht => ?_)
  rw [uF_words (fun k => step_words b0 hW k)]
  exact boxed_pat (nextC born stay s.P) (s.r - 1) (s.d - 1) w' (by show s.P.W + 2 ≤ 128; omega) (by show s.P.H + 2 ≤ 102; omega) ht (by omega) (by omega) (by omega) (by omega)
/-- What a state of growth is. -/
structure GOk (s : Gst) : Prop where
  len : s.P.xs.length = s.P.W * s.P.H
  bits : ∀ k, 0 ≤ s.P.xs.getD k 0 ∧ s.P.xs.getD k 0 ≤ 1
theorem noG_ok : GOk noG := ⟨rfl, fun k => by simp [noG]⟩
theorem win_bits {W l t V N : Nat} {xs : List Int} (h : ∀ k, 0 ≤ xs.getD k 0 ∧ xs.getD k 0 ≤ 1) (k : Nat) : 0 ≤ (winP W l t V N xs).getD k 0 ∧ (winP W l t V N xs).getD k 0 ≤ 1 := by
  unfold winP
  by_cases q : k < N
  · have e : ((List.range N).map (winC W l t V xs)).getD k 0 = winC W l t V xs k := by simp [List.getD, q]
    rw [e]
    exact h _
  · have e : ((List.range N).map (winC W l t V xs)).getD k 0 = 0 := by simp [List.getD, q]
    rw [e]; omega
theorem box_ok {q : Pat} (h : ∀ k, 0 ≤ q.xs.getD k 0 ∧ q.xs.getD k 0 ≤ 1) (R D : Int) : GOk (boxG q R D) := by
  unfold boxG
  rcases trim_cases q with ⟨h0, h1⟩ | ⟨l, t, r, b, hB, h1⟩
  · rw [h1, if_pos rfl]; exact noG_ok
  · rw [h1]
    dsimp only
    split
    · exact noG_ok
    · exact ⟨by simp [winP], fun k => win_bits h k⟩
theorem next_bits (born stay : Nat) (q : Pat) (k : Nat) : 0 ≤ (nextC born stay q).xs.getD k 0 ∧ (nextC born stay q).xs.getD k 0 ≤ 1 := by
  unfold nextC
  dsimp only
  by_cases z : k < (q.W + 2) * (q.H + 2)
  · simp only [List.getD, List.getElem?_map, List.getElem?_range z, Option.map_some, Option.getD_some]
    split <;> omega
  · have e : ∀ f : Nat → Int, ((List.range ((q.W + 2) * (q.H + 2))).map f).getD k 0 = 0 := fun f => by simp [List.getD, z]
    rw [e]; omega
theorem next_ok (born stay : Nat) (s : Gst) : GOk (nextG born stay s) := box_ok (next_bits born stay s.P) _ _
theorem box_near {q : Pat} {R D : Int} {m : Int} (hW : (q.W : Int) ≤ 102) (hH : (q.H : Int) ≤ 102) (R1 : -m - 1 ≤ R) (R2 : R ≤ m) (D1 : -m - 1 ≤ D) (D2 : D ≤ m) (m0 : 0 ≤ m) : -m - 102 ≤ (boxG q R D).r ∧ (boxG q R D).r ≤ m + 102 ∧ -m - 102 ≤ (boxG q R D).d ∧ (boxG q R D).d ≤ m + 102 := by
  unfold boxG
  rcases trim_cases q with ⟨h0, h1⟩ | ⟨l, t, r, b, hB, h1⟩
  · rw [h1, if_pos rfl]; simp [noG]; omega
  · rw [h1]
    dsimp only
    split
    · simp [noG]; omega
    · obtain ⟨y, x, c, e⟩ := hB.le
      obtain ⟨y2, x2, c2, e2⟩ := hB.up
      have := (cellP_at c).1
      have := (cellP_at c2).2.1
      dsimp only
      omega
/-- So many steps, while it is not too great. -/
def growG (born stay : Nat) (s : Gst) : Nat → Option Gst
  | 0 => some s
  | n + 1 => match growG born stay s n with
    | none => none
    | some u => if 100 < (nextG born stay u).P.W ∨ 100 < (nextG born stay u).P.H then none else some (nextG born stay u)
end Go.Proofs.YtdbgdfodoceadaaDoor

namespace Go.Proofs.YtdbgdfodoceadaaDoor
open Go.RowKit
set_option linter.unusedVariables false

structure RT (w wr : World) (W H W' H' : Nat) (a : Option Addr) (n c : Nat) (v : Value) (ys : List Int) : Prop where
  box : TB w.heap.size (.int .i64 (W : Int)) (.int .i64 (H : Int)) (.slice a n c) wr
  res : TB (w.heap.size + 1) (.int .i64 0) (.int .i64 0) (.slice none 0 0) wr
  q : TB (w.heap.size + 2) (.int .i64 (W' : Int)) (.int .i64 (H' : Int)) v wr
  own : wr.ownsRow (w.heap.size + 3) 3 1 v ys.length (ys.map fun x => .int .i64 x)
  below : Below w.heap.size w wr
  sz : w.heap.size + 3 ≤ wr.heap.size
theorem RT.next {w wr w' : World} {W H W' H' : Nat} {a : Option Addr} {n c : Nat} {v : Value} {ys : List Int} (h : RT w wr W H W' H' a n c v ys) (hb : Below wr.heap.size wr w') : RT w w' W H W' H' a n c v ys := by
  have hz := h.sz
  exact ⟨h.box.next hb, h.res.next hb, h.q.next hb, ownsRow_from h.own fun k _ hk => hb.block k hk, h.below.trans (hb.mono (by omega)), by have := hb.size; omega⟩
theorem RT.grown {w wr w' : World} {W H W' H' : Nat} {a : Option Addr} {n c : Nat} {v : Value} {ys : List Int} (h : RT w wr W H W' H' a n c v ys) (x : Int) (hg : (wr.alloc (.cells #[.int .i64 x] 3)).grownBy w' v.ownBlock) : ∀ k, k < w.heap.size + 3 → w'.heap[k]? = wr.heap[k]? := fun k hk => by
  have hz := h.sz
  have hob := ownsRow_block h.own
  rw [hg.block k (by rw [World.size_alloc]; omega) (fun e => by have := hob k e.symm; omega)]
  exact Below.heap_alloc _ _ _ (by omega)
theorem RT.start (w : World) (W H W' H' : Nat) (a : Option Addr) (n c : Nat) (t1 t2 t3 : TypeId) : RT w (((w.alloc (.cells #[.int .i64 (W : Int), .int .i64 (H : Int), .slice a n c] t1)).alloc (.cells #[.int .i64 0, .int .i64 0, .slice none 0 0] t2)).alloc (.cells #[.int .i64 (W' : Int), .int .i64 (H' : Int), .slice none 0 0] t3)) W H W' H' a n c (.slice none 0 0) [] := by
  have r1 := TB.new (w.alloc (.cells #[.int .i64 (W : Int), .int .i64 (H : Int), .slice a n c] t1)) (.int .i64 0) (.int .i64 0) (.slice none 0 0) t2
  have r2 := TB.new ((w.alloc (.cells #[.int .i64 (W : Int), .int .i64 (H : Int), .slice a n c] t1)).alloc (.cells #[.int .i64 0, .int .i64 0, .slice none 0 0] t2)) (.int .i64 (W' : Int)) (.int .i64 (H' : Int)) (.slice none 0 0) t3
  rw [World.size_alloc] at r1 r2
  rw [World.size_alloc] at r2
  exact ⟨((TB.new w _ _ _ t1).alloc _).alloc _, r1.alloc _, r2, ⟨by simp, Or.inl ⟨rfl, by simp⟩⟩, (((Below.refl _ _).alloc (Nat.le_refl _) _).alloc (by simp) _).alloc (by simp; omega) _, by simp⟩
end Go.Proofs.YtdbgdfodoceadaaDoor

namespace Go.Proofs.YtdbgdfodoceadaaDoor
open Go.RowKit
set_option linter.unusedVariables false
end Go.Proofs.YtdbgdfodoceadaaDoor

namespace Go.Proofs.YtdbgdfodoceadaaDoor
open Go.RowKit
set_option linter.unusedVariables false

end Go.Proofs.YtdbgdfodoceadaaDoor

namespace Go.Proofs.YtdbgdfodoceadaaDoor
open Go.RowKit
set_option linter.unusedVariables false
end Go.Proofs.YtdbgdfodoceadaaDoor

namespace Go.Proofs.YtdbgdfodoceadaaDoor
open Go.RowKit
set_option linter.unusedVariables false
theorem tab_arg {w : World} {v : Value} {xs : List Int} (h : Tab w v xs) (hm : xs.length ≤ maxLen) : ∃ a c, v = .slice a xs.length c ∧ ArgP w xs a xs.length c := by
  rcases h with ⟨rfl, rfl⟩ | ⟨g, cap, rfl, hg, hc⟩
  · exact ⟨none, 0, rfl, rfl, by simp [maxLen], fun k hk => by simp at hk⟩
  · exact ⟨some ⟨g, 0, none⟩, cap, rfl, rfl, hm, fun k hk => ⟨g, 0, rfl, hg, by rw [Nat.zero_add]; exact hc k hk⟩⟩
/-- What lies there while the next pattern is made. -/
structure NT (w w4 wr : World) (W2 H2 : Int) (v : Value) (ys : List Int) : Prop where
  keep : ∀ k, k < w.heap.size + 1 + 1 + 1 → wr.heap[k]? = w4.heap[k]?
  q : TB (w.heap.size + 1 + 1 + 1) (.int .i64 W2) (.int .i64 H2) v wr
  own : wr.ownsRow (w.heap.size + 1 + 1 + 1 + 1) 3 1 v ys.length (ys.map fun x => .int .i64 x)
  below : Below w.heap.size w wr
  sz : w.heap.size + 1 + 1 + 1 + 1 ≤ wr.heap.size
theorem NT.next {w w4 wr w' : World} {W2 H2 : Int} {v : Value} {ys : List Int} (h : NT w w4 wr W2 H2 v ys) (hb : Below wr.heap.size wr w') : NT w w4 w' W2 H2 v ys := by
  have hz := h.sz
  exact ⟨fun k hk => (hb.block k (by omega)).trans (h.keep k hk), h.q.next hb, ownsRow_from h.own fun k _ hk => hb.block k hk, h.below.trans (hb.mono (by omega)), by have := hb.size; omega⟩
theorem NT.grown {w w4 wr w' : World} {W2 H2 : Int} {v : Value} {ys : List Int} (h : NT w w4 wr W2 H2 v ys) (x : Int) (hg : (wr.alloc (.cells #[.int .i64 x] 3)).grownBy w' v.ownBlock) : ∀ k, k < w.heap.size + 1 + 1 + 1 + 1 → w'.heap[k]? = wr.heap[k]? := fun k hk => by
  have hz := h.sz
  have hob := ownsRow_block h.own
  rw [hg.block k (by rw [World.size_alloc]; omega) (fun e => by have := hob k e.symm; omega)]
  exact Below.heap_alloc _ _ _ (by omega)
end Go.Proofs.YtdbgdfodoceadaaDoor

namespace Go.Proofs.YtdbgdfodoceadaaDoor
open Go.RowKit
set_option linter.unusedVariables false
theorem box_le {q : Pat} (hW : q.W ≤ 102) (hH : q.H ≤ 102) (R D : Int) : (boxG q R D).P.W ≤ q.W ∧ (boxG q R D).P.H ≤ q.H := by
  unfold boxG
  rcases trim_cases q with ⟨h0, h1⟩ | ⟨l, t, r, b, hB, h1⟩
  · rw [h1, if_pos rfl]; exact ⟨Nat.zero_le _, Nat.zero_le _⟩
  · rw [h1]
    dsimp only
    split
    · exact ⟨Nat.zero_le _, Nat.zero_le _⟩
    · obtain ⟨y, x, c, e⟩ := hB.ri
      obtain ⟨y2, x2, c2, e2⟩ := hB.lo
      have := (cellP_at c).1
      have := (cellP_at c2).2.1
      dsimp only
      omega
theorem box_zero {q : Pat} {R D : Int} (h : (boxG q R D).P.W = 0) : boxG q R D = noG := by
  unfold boxG at h ⊢
  split
  · rfl
  · rename_i k; rw [if_neg k] at h; exact absurd h k
theorem noG_next {born stay : Nat} (b0 : born.testBit 0 = false) : nextG born stay noG = noG := by
  unfold nextG boxG
  have z : ∀ y x, cellP (nextC born stay noG.P) y x = false := fun y x => by
    rw [nextC_cell]
    have e : ∀ y x, c2 noG.P y x = false := fun y x => by simp [c2, cellP, noG]
    have : nxB born stay noG.P y x = false := by simp [nxB, nb2, e, b0]
    rw [this]; simp
  rcases trim_cases (nextC born stay noG.P) with ⟨h0, h1⟩ | ⟨l, t, r, b, hB, h1⟩
  · rw [h1, if_pos rfl]
  · obtain ⟨y, x, c, e⟩ := hB.le; rw [z] at c; cases c
/-- What stays so while it grows. -/
theorem grow_ok {born stay : Nat} {s : Gst} (hs : GOk s) (hW : s.P.W ≤ 100) (hH : s.P.H ≤ 100) (hr : -200 ≤ s.r ∧ s.r ≤ 200 ∧ -200 ≤ s.d ∧ s.d ≤ 200) : ∀ n u, growG born stay s n = some u → GOk u ∧ u.P.W ≤ 100 ∧ u.P.H ≤ 100 ∧ -200 - 103 * (n : Int) ≤ u.r ∧ u.r ≤ 200 + 103 * (n : Int) ∧ -200 - 103 * (n : Int) ≤ u.d ∧ u.d ≤ 200 + 103 * (n : Int)
  | 0, u, h => by
    rw [growG] at h
    injection h with h
    subst h
    exact ⟨hs, hW, hH, by omega, by omega, by omega, by omega⟩
  | n + 1, u, h => by
    rw [growG] at h
    cases hg : growG born stay s n with
    | none => rw [hg] at h; cases h
    | some t =>
      rw [hg] at h
      dsimp only at h
      obtain ⟨i1, i2, i3, i4, i5, i6, i7⟩ := grow_ok hs hW hH hr n t hg
      split at h
      · cases h
      · rename_i nb
        injection h with h
        subst h
        have bn := box_near (q := nextC born stay t.P) (R := t.r - 1) (D := t.d - 1) (m := 200 + 103 * (n : Int)) (by show ((t.P.W + 2 : Nat) : Int) ≤ 102; omega) (by show ((t.P.H + 2 : Nat) : Int) ≤ 102; omega) (by omega) (by omega) (by omega) (by omega) (by omega)
        refine ⟨next_ok born stay t, by omega, by omega, ?_, ?_, ?_, ?_⟩
        · have := bn.1; show _ ≤ (boxG _ _ _).r; push_cast; omega
        · have := bn.2.1; show (boxG _ _ _).r ≤ _; push_cast; omega
        · have := bn.2.2.1; show _ ≤ (boxG _ _ _).d; push_cast; omega
        · have := bn.2.2.2; show (boxG _ _ _).d ≤ _; push_cast; omega
theorem first_ok {p : Pat} (hx : ∀ k, 0 ≤ p.xs.getD k 0 ∧ p.xs.getD k 0 ≤ 1) (hW : p.W ≤ 100) (hH : p.H ≤ 100) : GOk (firstG p) ∧ (firstG p).P.W ≤ 100 ∧ (firstG p).P.H ≤ 100 ∧ (-200 ≤ (firstG p).r ∧ (firstG p).r ≤ 200 ∧ -200 ≤ (firstG p).d ∧ (firstG p).d ≤ 200) := by
  have l := box_le (q := p) (by omega) (by omega) 0 0
  have bn := box_near (q := p) (R := 0) (D := 0) (m := 0) (by omega) (by omega) (by omega) (by omega) (by omega) (by omega) (by omega)
  exact ⟨box_ok hx 0 0, by show (boxG p 0 0).P.W ≤ 100; omega, by show (boxG p 0 0).P.H ≤ 100; omega, by show -200 ≤ (boxG p 0 0).r; omega, by show (boxG p 0 0).r ≤ 200; omega, by show -200 ≤ (boxG p 0 0).d; omega, by show (boxG p 0 0).d ≤ 200; omega⟩
end Go.Proofs.YtdbgdfodoceadaaDoor

namespace Go.Proofs.YtdbgdfodoceadaaDoor
open Go.RowKit
set_option linter.unusedVariables false
theorem grow_stays {born stay : Nat} {s : Gst} {m : Nat} (h : growG born stay s m = none) : ∀ k, growG born stay s (m + k) = none
  | 0 => h
  | k + 1 => by rw [← Nat.add_assoc, growG, grow_stays h k]
end Go.Proofs.YtdbgdfodoceadaaDoor

namespace Go.Proofs.YtdbgdfodoceadaaDoor
open Go.RowKit
set_option linter.unusedVariables false

structure RBp (p : Nat) (o : Out) (v : Value) (w : World) : Prop where
  c0 : w.cell? ⟨p, 0, none⟩ = some (.int .i64 o.kind)
  c1 : w.cell? ⟨p, 1, none⟩ = some (.int .i64 o.born)
  c2 : w.cell? ⟨p, 2, none⟩ = some (.int .i64 o.stay)
  c3 : w.cell? ⟨p, 3, none⟩ = some (.int .i64 o.states)
  c4 : w.cell? ⟨p, 4, none⟩ = some (.int .i64 o.radius)
  c5 : w.cell? ⟨p, 5, none⟩ = some v
  c6 : w.cell? ⟨p, 6, none⟩ = some (.string o.turns)
theorem RBp.lt {p : Nat} {o : Out} {v : Value} {w : World} (h : RBp p o v w) : p < w.heap.size := by
  rcases Nat.lt_or_ge p w.heap.size with k | k
  · exact k
  · have := h.c0; simp [World.cell?, Array.getElem?_eq_none k] at this
theorem RBp.block {p : Nat} {o : Out} {v : Value} {w w' : World} (h : RBp p o v w) (e : w'.heap[p]? = w.heap[p]?) : RBp p o v w' :=
  ⟨(World.cell?_of_block (w := w) (a := ⟨p, 0, none⟩) e).trans h.c0, (World.cell?_of_block (w := w) (a := ⟨p, 1, none⟩) e).trans h.c1, (World.cell?_of_block (w := w) (a := ⟨p, 2, none⟩) e).trans h.c2, (World.cell?_of_block (w := w) (a := ⟨p, 3, none⟩) e).trans h.c3, (World.cell?_of_block (w := w) (a := ⟨p, 4, none⟩) e).trans h.c4, (World.cell?_of_block (w := w) (a := ⟨p, 5, none⟩) e).trans h.c5, (World.cell?_of_block (w := w) (a := ⟨p, 6, none⟩) e).trans h.c6⟩
theorem RBp.next {p : Nat} {o : Out} {v : Value} {w w' : World} (h : RBp p o v w) (hb : Below w.heap.size w w') : RBp p o v w' := h.block (hb.block p h.lt)
theorem RBp.new (w : World) (o : Out) (v : Value) (t : TypeId) : RBp w.heap.size o v (w.alloc (.cells #[.int .i64 o.kind, .int .i64 o.born, .int .i64 o.stay, .int .i64 o.states, .int .i64 o.radius, v, .string o.turns] t)) :=
  ⟨by rw [World.cell?_alloc_at _ _ _ _ rfl]; rfl, by rw [World.cell?_alloc_at _ _ _ _ rfl]; rfl, by rw [World.cell?_alloc_at _ _ _ _ rfl]; rfl, by rw [World.cell?_alloc_at _ _ _ _ rfl]; rfl, by rw [World.cell?_alloc_at _ _ _ _ rfl]; rfl, by rw [World.cell?_alloc_at _ _ _ _ rfl]; rfl, by rw [World.cell?_alloc_at _ _ _ _ rfl]; rfl⟩
end Go.Proofs.YtdbgdfodoceadaaDoor

namespace Go.Proofs.YtdbgdfodoceadaaDoor
open Go.RowKit
set_option linter.unusedVariables false

end Go.Proofs.YtdbgdfodoceadaaDoor

