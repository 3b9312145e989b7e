/-
  What the last text of this claim leans on, part 34: Gt2, Wc2, Gt3, Wf3, Wf4.
-/
import Derived.Test.YtlpdobfjgpedaaaDoorZe33
import Derived.Test.YtlpdobfjgpedaaaDoorZe18
import Derived.Test.YtlpdobfjgpedaaaDoorZe19
namespace Go.Proofs.YtlpdobfjgpedaaaDoor
open Go.RowKit
set_option linter.unusedVariables false
/-- What lives, and where its left upper corner is; as it lies. -/
structure Gst where
  P : Pat
  r : Int
  d : Int
def grV (s : Gst) : Array Value := arrF 208 (grF (wX s.P) (s.P.W : Int) (s.P.H : Int) s.r s.d)
theorem grV_size (s : Gst) : (grV s).size = 208 := arrF_size ..
theorem grV_all (s : Gst) : (grV s).all (·.oneCell') = true := grF_all ..
def noG : Gst := ⟨⟨0, 0, []⟩, 0, 0⟩
theorem noG_zero : Tryd.zeroCells113 = grV noG := by
  rw [zero_grown]
  refine arrF_ext fun k hk => ?_
  unfold grF uF
  have : wX noG.P k = 0 := by
    have := wX_is (q := noG.P) (k := k) (a := 0) (by omega) (fun j hj => by simp [cellP, noG])
    exact this.symm
  rw [this]
  rfl
def boxG (q : Pat) (R D : Int) : Gst := if (trimP q).1.W = 0 then noG else ⟨(trimP q).1, R + ((trimP q).2.1 : Int), D + ((trimP q).2.2 : Int)⟩
theorem uF_words {f g : Nat → Nat} (h : ∀ k, f k = g k) : arrF 204 (uF f) = arrF 204 (uF g) := arrF_ext fun k _ => by unfold uF; rw [h k]
theorem boxed_pat (q : Pat) (R D : Int) (w : World) (hW : q.W ≤ 128) (hH : q.H ≤ 102) (hT : TzTab w) (R1 : -1000000000 ≤ R) (R2 : R ≤ 1000000000) (D1 : -1000000000 ≤ D) (D2 : D ≤ 1000000000) :
    Calls Tryd.prog 66 #[.agg (arrF 204 (uF (wX q))), .int .i64 R, .int .i64 D] w fun e w' => e = .returned (.agg (grV (boxG q R D))) ∧ Below w.heap.size w w' := by
  unfold boxG
  rcases trim_cases q with ⟨h0, h1⟩ | ⟨l, t, r, b, hB, h1⟩
  · rw [h1, if_pos rfl, ← noG_zero]
    obtain ⟨e1, e2⟩ := living_none hW h0
    exact boxed_none (wX q) R D w (fun k _ => wX_lt q k) hT e1 e2
  · obtain ⟨y0, x0, c0, -⟩ := hB.le
    obtain ⟨k, k1, k2⟩ := living_box hW hH c0
    obtain ⟨e1, e2, e3, e4⟩ := hB.same k
    have lr := hB.inn _ _ c0
    have g := boxed_some (wX q) t b l r R D w (fun k _ => wX_lt q k) hT e1.symm e3.symm e2.symm e4.symm (by omega) (by omega) (by omega) (by omega) R1 R2 D1 D2
    rw [h1]
    dsimp only
    rw [if_neg (by omega)]
    have a1 : ((r : Int) - (l : Int)) = ((r - l : Nat) : Int) := by omega
    have a2 : ((b : Int) - (t : Int)) = ((b - t : Nat) : Int) := by omega
    rw [a1, a2] at g
    have a3 : arrF 208 (grF (bxX (wX q) t l (b - t)) ((r - l : Nat) : Int) ((b - t : Nat) : Int) (R + (l : Int)) (D + (t : Int))) = grV ⟨⟨r - l, b - t, winP q.W l t (r - l) ((r - l) * (b - t)) q.xs⟩, R + (l : Int), D + (t : Int)⟩ := by
      refine arrF_ext fun k _ => ?_
      unfold grF uF
      rw [boxed_words hB (by omega)]
    rw [a3] at g
    exact g
def firstG (p : Pat) : Gst := boxG p 0 0
def nextG (born stay : Nat) (s : Gst) : Gst := boxG (nextC born stay s.P) (s.r - 1) (s.d - 1)
theorem settle_pat (W H : Nat) (xs : List Int) (a : Option Addr) (n c : Nat) (w : World) (hP : ArgP w xs a n c) (hn : xs.length = W * H) (hx : ∀ k, 0 ≤ xs.getD k 0 ∧ xs.getD k 0 ≤ 1) (hW : W ≤ 100) (hH : H ≤ 100) (hT : TzTab w) :
    Calls Tryd.prog 45 #[.agg #[.int .i64 (W : Int), .int .i64 (H : Int), .slice a n c]] w fun e w' => e = .returned (.agg (grV (firstG ⟨W, H, xs⟩))) ∧ Below w.heap.size w w' := by
  refine settle_any W H xs a n c (grV (firstG ⟨W, H, xs⟩)) w hP hn hx hW hH hT (grV_size _) (grV_all _) (fun w' ht => ?_)
  rw [uF_words (fun k => settle_words (show W ≤ 128 by omega) hx k)]
  exact boxed_pat ⟨W, H, xs⟩ 0 0 w' (by show W ≤ 128; omega) (by show H ≤ 102; omega) ht (by omega) (by omega) (by omega) (by omega)
theorem step_pat (kd st ra : Int) (born stay : Nat) (ta : Option Addr) (tn tc : Nat) (sb : ByteArray) (s : Gst) (w : World) (hb : born ≤ 511) (hs : stay ≤ 511) (b0 : born.testBit 0 = false) (hW : s.P.W ≤ 100) (hH : s.P.H ≤ 100) (hT : TzTab w) (R1 : -100000000 ≤ s.r) (R2 : s.r ≤ 100000000) (D1 : -100000000 ≤ s.d) (D2 : s.d ≤ 100000000) :
    Calls Tryd.prog 46 #[.agg (grV s), .agg #[.int .i64 kd, .int .i64 (born : Int), .int .i64 (stay : Int), .int .i64 st, .int .i64 ra, .slice ta tn tc, .string sb]] w fun e w' => e = .returned (.agg (grV (nextG born stay s))) ∧ Below w.heap.size w w' := by
  refine step_any kd st ra born stay ta tn tc sb (wX s.P) (s.P.W : Int) s.P.H s.r s.d (grV (nextG born stay s)) w hb hs (wX_lt s.P) hH hT R1 R2 D1 D2 (grV_size _) (grV_all _) (fun w' ht => ?_)
  rw [uF_words (fun k => step_words b0 hW k)]
  exact boxed_pat (nextC born stay s.P) (s.r - 1) (s.d - 1) w' (by show s.P.W + 2 ≤ 128; omega) (by show s.P.H + 2 ≤ 102; omega) ht (by omega) (by omega) (by omega) (by omega)
/-- What a state of growth is. -/
structure GOk (s : Gst) : Prop where
  len : s.P.xs.length = s.P.W * s.P.H
  bits : ∀ k, 0 ≤ s.P.xs.getD k 0 ∧ s.P.xs.getD k 0 ≤ 1
theorem noG_ok : GOk noG := ⟨rfl, fun k => by simp [noG]⟩
theorem win_bits {W l t V N : Nat} {xs : List Int} (h : ∀ k, 0 ≤ xs.getD k 0 ∧ xs.getD k 0 ≤ 1) (k : Nat) : 0 ≤ (winP W l t V N xs).getD k 0 ∧ (winP W l t V N xs).getD k 0 ≤ 1 := by
  unfold winP
  by_cases q : k < N
  · have e : ((List.range N).map (winC W l t V xs)).getD k 0 = winC W l t V xs k := by simp [List.getD, q]
    rw [e]
    exact h _
  · have e : ((List.range N).map (winC W l t V xs)).getD k 0 = 0 := by simp [List.getD, q]
    rw [e]; omega
theorem box_ok {q : Pat} (h : ∀ k, 0 ≤ q.xs.getD k 0 ∧ q.xs.getD k 0 ≤ 1) (R D : Int) : GOk (boxG q R D) := by
  unfold boxG
  rcases trim_cases q with ⟨h0, h1⟩ | ⟨l, t, r, b, hB, h1⟩
  · rw [h1, if_pos rfl]; exact noG_ok
  · rw [h1]
    dsimp only
    split
    · exact noG_ok
    · exact ⟨by simp [winP], fun k => win_bits h k⟩
theorem next_bits (born stay : Nat) (q : Pat) (k : Nat) : 0 ≤ (nextC born stay q).xs.getD k 0 ∧ (nextC born stay q).xs.getD k 0 ≤ 1 := by
  unfold nextC
  dsimp only
  by_cases z : k < (q.W + 2) * (q.H + 2)
  · simp only [List.getD, List.getElem?_map, List.getElem?_range z, Option.map_some, Option.getD_some]
    split <;> omega
  · have e : ∀ f : Nat → Int, ((List.range ((q.W + 2) * (q.H + 2))).map f).getD k 0 = 0 := fun f => by simp [List.getD, z]
    rw [e]; omega
theorem next_ok (born stay : Nat) (s : Gst) : GOk (nextG born stay s) := box_ok (next_bits born stay s.P) _ _
theorem box_near {q : Pat} {R D : Int} {m : Int} (hW : (q.W : Int) ≤ 102) (hH : (q.H : Int) ≤ 102) (R1 : -m - 1 ≤ R) (R2 : R ≤ m) (D1 : -m - 1 ≤ D) (D2 : D ≤ m) (m0 : 0 ≤ m) : -m - 102 ≤ (boxG q R D).r ∧ (boxG q R D).r ≤ m + 102 ∧ -m - 102 ≤ (boxG q R D).d ∧ (boxG q R D).d ≤ m + 102 := by
  unfold boxG
  rcases trim_cases q with ⟨h0, h1⟩ | ⟨l, t, r, b, hB, h1⟩
  · rw [h1, if_pos rfl]; simp [noG]; omega
  · rw [h1]
    dsimp only
    split
    · simp [noG]; omega
    · obtain ⟨y, x, c, e⟩ := hB.le
      obtain ⟨y2, x2, c2, e2⟩ := hB.up
      have := (cellP_at c).1
      have := (cellP_at c2).2.1
      dsimp only
      omega
/-- So many steps, while it is not too great. -/
def growG (born stay : Nat) (s : Gst) : Nat → Option Gst
  | 0 => some s
  | n + 1 => match growG born stay s n with
    | none => none
    | some u => if 100 < (nextG born stay u).P.W ∨ 100 < (nextG born stay u).P.H then none else some (nextG born stay u)
end Go.Proofs.YtlpdobfjgpedaaaDoor

namespace Go.Proofs.YtlpdobfjgpedaaaDoor
open Go.RowKit
set_option linter.unusedVariables false

set_option maxHeartbeats 800000 in
theorem At_in (W H : Nat) (xs : List Int) (a : Option Addr) (n c x y : Nat) (X Y : Int) (w : World) (hP : ArgP w xs a n c) (lW : W ≤ 100) (lH : H ≤ 100) (hn : n = W * H) (hX : X = x) (hY : Y = y) (hx : x < W) (hy : y < H) :
    Calls Tryd.prog 19 #[.agg #[.int .i64 (W : Int), .int .i64 (H : Int), .slice a n c], .int .i64 X, .int .i64 Y] w fun e w' => e = .returned (.int .i64 (atP W xs x y)) ∧ Below w.heap.size w w' := by
  subst hX hY
  have hN4 : n ≤ 10000 := by rw [hn]; exact Nat.mul_le_mul lW lH
  have hq := mk_lt hx hy
  rw [← hn] at hq
  obtain ⟨Q, hQ⟩ : ∃ Q, y * W = Q := ⟨_, rfl⟩
  have hQi : (y : Int) * (W : Int) = (Q : Int) := by rw [← hQ]; simp
  have hl : Q + x < xs.length := by rw [← hP.len, ← hQ]; exact hq
  have hQn : Q + x < n := by rw [← hQ]; exact hq
  obtain ⟨g, off, rfl, hg, hc⟩ := (hP.alloc (.cells #[.int .i64 (W : Int), .int .i64 (H : Int), .slice a n c] 26)).cells (Q + x) hl
  have V := hide' (show atP W xs x y = xs[Q + x] by unfold atP; rw [hQ]; simp [List.getD, hl])
  obtain ⟨v, hv⟩ : ∃ v, xs[Q + x] = v := ⟨_, rfl⟩
  rw [hv] at hc V
  have h1 : ¬ (x : Int) < 0 := by omega
  have h2 : ¬ (W : Int) ≤ (x : Int) := by omega
  have h3 : ¬ (y : Int) < 0 := by omega
  have h4 : ¬ (H : Int) ≤ (y : Int) := by omega
  clear hP hn hq hQ hv
  go_enter Tryd.func19, Tryd.ntmps19
  go_wp2
  go_ret
  rw [V.out]
  exact ⟨rfl, (Below.refl _ _).alloc (Nat.le_refl _) _⟩

structure RT (w wr : World) (W H W' H' : Nat) (a : Option Addr) (n c : Nat) (v : Value) (ys : List Int) : Prop where
  box : TB w.heap.size (.int .i64 (W : Int)) (.int .i64 (H : Int)) (.slice a n c) wr
  res : TB (w.heap.size + 1) (.int .i64 0) (.int .i64 0) (.slice none 0 0) wr
  q : TB (w.heap.size + 2) (.int .i64 (W' : Int)) (.int .i64 (H' : Int)) v wr
  own : wr.ownsRow (w.heap.size + 3) 3 1 v ys.length (ys.map fun x => .int .i64 x)
  below : Below w.heap.size w wr
  sz : w.heap.size + 3 ≤ wr.heap.size
theorem RT.next {w wr w' : World} {W H W' H' : Nat} {a : Option Addr} {n c : Nat} {v : Value} {ys : List Int} (h : RT w wr W H W' H' a n c v ys) (hb : Below wr.heap.size wr w') : RT w w' W H W' H' a n c v ys := by
  have hz := h.sz
  exact ⟨h.box.next hb, h.res.next hb, h.q.next hb, ownsRow_from h.own fun k _ hk => hb.block k hk, h.below.trans (hb.mono (by omega)), by have := hb.size; omega⟩
theorem RT.grown {w wr w' : World} {W H W' H' : Nat} {a : Option Addr} {n c : Nat} {v : Value} {ys : List Int} (h : RT w wr W H W' H' a n c v ys) (x : Int) (hg : (wr.alloc (.cells #[.int .i64 x] 3)).grownBy w' v.ownBlock) : ∀ k, k < w.heap.size + 3 → w'.heap[k]? = wr.heap[k]? := fun k hk => by
  have hz := h.sz
  have hob := ownsRow_block h.own
  rw [hg.block k (by rw [World.size_alloc]; omega) (fun e => by have := hob k e.symm; omega)]
  exact Below.heap_alloc _ _ _ (by omega)
theorem RT.mid {w wr w' : World} {W H W' H' : Nat} {a : Option Addr} {n c : Nat} {v : Value} {ys : List Int} (h : RT w wr W H W' H' a n c v ys) (x : Int) (hg : (wr.alloc (.cells #[.int .i64 x] 3)).grownBy w' v.ownBlock) : w'.cell? ⟨w.heap.size + 2, 2, none⟩ = some v ∧ w'.frozen? ⟨w.heap.size + 2, 2, none⟩ = false := by
  have t := h.q.block (h.grown x hg _ (by omega))
  exact ⟨t.c2, t.fz 2⟩
theorem RT.push {w wr w' : World} {W H W' H' : Nat} {a : Option Addr} {n c : Nat} {v v' : Value} {ys : List Int} (h : RT w wr W H W' H' a n c v ys) (x : Int) (hg : (wr.alloc (.cells #[.int .i64 x] 3)).grownBy w' v.ownBlock) (ho : w'.ownsRow (w.heap.size + 3) 3 1 v' (ys.length + 1) ((ys.map fun x => .int .i64 x) ++ [.int .i64 x])) : RT w (w'.setCell ⟨w.heap.size + 2, 2, none⟩ v') W H W' H' a n c v' (ys ++ [x]) := by
  have hk := h.grown x hg
  have hz := h.sz
  have hsz : wr.heap.size + 1 ≤ w'.heap.size := by have := hg.size; rw [World.size_alloc] at this; exact this
  have hb : Below w.heap.size w w' := h.below.trans ⟨hg.os, hg.tape, hg.output, by omega, fun k hkk => hk k (by omega)⟩
  have tq := h.q.block (hk _ (by omega))
  refine ⟨(h.box.block (hk _ (by omega))).block (Below.heap_setCell _ _ _ _ (by simp)), (h.res.block (hk _ (by omega))).block (Below.heap_setCell _ _ _ _ (by simp)), ⟨cell_other tq.c0 (by omega), cell_other tq.c1 (by omega), cell_same tq.c2, fun k => by rw [World.frozen?_setCell]; exact tq.fz k⟩, ?_, hb.setCell (by simp) _, by rw [World.size_setCell]; omega⟩
  have := ownsRow_setCell_below ho (a := ⟨w.heap.size + 2, 2, none⟩) (by simp) v'
  simpa using this
theorem RT.start (w : World) (W H W' H' : Nat) (a : Option Addr) (n c : Nat) (t1 t2 t3 : TypeId) : RT w (((w.alloc (.cells #[.int .i64 (W : Int), .int .i64 (H : Int), .slice a n c] t1)).alloc (.cells #[.int .i64 0, .int .i64 0, .slice none 0 0] t2)).alloc (.cells #[.int .i64 (W' : Int), .int .i64 (H' : Int), .slice none 0 0] t3)) W H W' H' a n c (.slice none 0 0) [] := by
  have r1 := TB.new (w.alloc (.cells #[.int .i64 (W : Int), .int .i64 (H : Int), .slice a n c] t1)) (.int .i64 0) (.int .i64 0) (.slice none 0 0) t2
  have r2 := TB.new ((w.alloc (.cells #[.int .i64 (W : Int), .int .i64 (H : Int), .slice a n c] t1)).alloc (.cells #[.int .i64 0, .int .i64 0, .slice none 0 0] t2)) (.int .i64 (W' : Int)) (.int .i64 (H' : Int)) (.slice none 0 0) t3
  rw [World.size_alloc] at r1 r2
  rw [World.size_alloc] at r2
  exact ⟨((TB.new w _ _ _ t1).alloc _).alloc _, r1.alloc _, r2, ⟨by simp, Or.inl ⟨rfl, by simp⟩⟩, (((Below.refl _ _).alloc (Nat.le_refl _) _).alloc (by simp) _).alloc (by simp; omega) _, by simp⟩
end Go.Proofs.YtlpdobfjgpedaaaDoor

namespace Go.Proofs.YtlpdobfjgpedaaaDoor
open Go.RowKit
set_option linter.unusedVariables false
/-- A pattern's cell, two rows and columns moved, as a number. -/
def c2I (q : Pat) (y x : Nat) : Int := ((c2 q y x).toNat : Int)
theorem c2I_in {q : Pat} {y x : Nat} (hb : ∀ k, 0 ≤ q.xs.getD k 0 ∧ q.xs.getD k 0 ≤ 1) (hx : x < q.W) (hy : y < q.H) : atP q.W q.xs x y = c2I q (y + 2) (x + 2) := by
  unfold c2I c2 cellP atP
  have := hb (y * q.W + x)
  rw [show y + 2 - 2 = y by omega, show x + 2 - 2 = x by omega]
  simp only [hx, hy, decide_true, Bool.true_and, show 2 ≤ y + 2 by omega, show 2 ≤ x + 2 by omega]
  by_cases z : q.xs.getD (y * q.W + x) 0 = 1
  · rw [z]; simp
  · have : q.xs.getD (y * q.W + x) 0 = 0 := by omega
    rw [this]; simp
theorem c2I_out {q : Pat} {y x : Nat} (h : ¬ (2 ≤ x ∧ x - 2 < q.W ∧ 2 ≤ y ∧ y - 2 < q.H)) : c2I q y x = 0 := by
  unfold c2I c2 cellP
  have : (decide (2 ≤ y) && decide (2 ≤ x) && (decide (x - 2 < q.W) && decide (y - 2 < q.H) && decide (q.xs.getD ((y - 2) * q.W + (x - 2)) 0 = 1))) = false := by
    by_cases a1 : 2 ≤ y <;> by_cases a2 : 2 ≤ x <;> by_cases a3 : x - 2 < q.W <;> by_cases a4 : y - 2 < q.H <;> simp [a1, a2, a3, a4] <;> exact absurd ⟨a2, a3, a1, a4⟩ h
  rw [this]; rfl
theorem c2I_le (q : Pat) (y x : Nat) : 0 ≤ c2I q y x ∧ c2I q y x ≤ 1 := by
  unfold c2I
  cases c2 q y x <;> simp
set_option maxRecDepth 100000 in
set_option maxHeartbeats 3200000 in
theorem At_any (q : Pat) (a : Option Addr) (n c x y : Nat) (w : World) (hP : ArgP w q.xs a n c) (lW : q.W ≤ 100) (lH : q.H ≤ 100) (hn : n = q.W * q.H) (hb : ∀ k, 0 ≤ q.xs.getD k 0 ∧ q.xs.getD k 0 ≤ 1) (lx : x ≤ 200) (ly : y ≤ 200) (X Y : Int) (hX : X = (x : Int) - 2) (hY : Y = (y : Int) - 2) :
    Calls Tryd.prog 19 #[.agg #[.int .i64 (q.W : Int), .int .i64 (q.H : Int), .slice a n c], .int .i64 X, .int .i64 Y] w fun e w' => e = .returned (.int .i64 (c2I q y x)) ∧ Below w.heap.size w w' := by
  by_cases h : 2 ≤ x ∧ x - 2 < q.W ∧ 2 ≤ y ∧ y - 2 < q.H
  · have g := At_in q.W q.H q.xs a n c (x - 2) (y - 2) X Y w hP lW lH hn (by omega) (by omega) h.2.1 h.2.2.2
    rw [c2I_in hb h.2.1 h.2.2.2, show y - 2 + 2 = y by omega, show x - 2 + 2 = x by omega] at g
    exact g
  · rw [c2I_out h]
    obtain ⟨W, hW⟩ : ∃ W, q.W = W := ⟨_, rfl⟩
    obtain ⟨H, hH⟩ : ∃ H, q.H = H := ⟨_, rfl⟩
    rw [hW, hH] at h ⊢
    clear hP hn hb
    by_cases h1 : X < 0
    · clear h
      go_enter Tryd.func19, Tryd.ntmps19
      go_wp2
      go_ret
      exact ⟨rfl, (Below.refl _ _).alloc (Nat.le_refl _) _⟩
    · by_cases h2 : (W : Int) ≤ X
      · clear h
        go_enter Tryd.func19, Tryd.ntmps19
        go_wp2
        go_ret
        exact ⟨rfl, (Below.refl _ _).alloc (Nat.le_refl _) _⟩
      · by_cases h3 : Y < 0
        · clear h
          go_enter Tryd.func19, Tryd.ntmps19
          go_wp2
          go_ret
          exact ⟨rfl, (Below.refl _ _).alloc (Nat.le_refl _) _⟩
        · have h4 : (H : Int) ≤ Y := by omega
          clear h
          go_enter Tryd.func19, Tryd.ntmps19
          go_wp2
          go_ret
          exact ⟨rfl, (Below.refl _ _).alloc (Nat.le_refl _) _⟩
/-- The sum of the first of the nine around, the midst left out. -/
def nbS (q : Pat) (y x : Nat) : Nat → Int
  | 0 => 0
  | t + 1 => nbS q y x t + if t = 4 then 0 else c2I q (y + t / 3) (x + t % 3)
theorem nbS_le (q : Pat) (y x : Nat) : ∀ t, 0 ≤ nbS q y x t ∧ nbS q y x t ≤ (t : Int)
  | 0 => ⟨Int.le_refl _, Int.le_refl _⟩
  | t + 1 => by
    have ih := nbS_le q y x t
    have := c2I_le q (y + t / 3) (x + t % 3)
    rw [nbS]
    push_cast
    split <;> omega
theorem nbS_nine (q : Pat) (y x : Nat) : nbS q y x 9 = ((nb2 q y x : Nat) : Int) := by
  simp only [nbS, nb2, c2I, Nat.reduceDiv, Nat.reduceMod, Nat.add_zero]
  push_cast
  simp
theorem becN_nx (born stay : Nat) (q : Pat) (y x : Nat) : ((becN born stay (c2I q (y + 1) (x + 1)) (nb2 q y x) : Nat) : Int) = if nxB born stay q y x then 1 else 0 := by
  unfold becN nxB c2I
  cases c2 q (y + 1) (x + 1)
  · simp only [Bool.toNat_false, Bool.false_eq_true, if_false]
    rw [if_neg (by decide), bitN, Nat.testBit_eq_decide_div_mod_eq]
    by_cases h : born / 2 ^ nb2 q y x % 2 = 1
    · simp [h]
    · have : born / 2 ^ nb2 q y x % 2 = 0 := by omega
      simp [this]
  · simp only [Bool.toNat_true, if_true]
    rw [if_pos (by decide), bitN, Nat.testBit_eq_decide_div_mod_eq]
    by_cases h : stay / 2 ^ nb2 q y x % 2 = 1
    · simp [h]
    · have : stay / 2 ^ nb2 q y x % 2 = 0 := by omega
      simp [this]
end Go.Proofs.YtlpdobfjgpedaaaDoor

namespace Go.Proofs.YtlpdobfjgpedaaaDoor
open Go.RowKit
set_option linter.unusedVariables false

def winPre (W l t V m : Nat) (xs : List Int) : List Int := (List.range m).map (winC W l t V xs)
theorem winPre_length (W l t V m : Nat) (xs : List Int) : (winPre W l t V m xs).length = m := by simp [winPre]
theorem winPre_step (W l t V j i : Nat) (xs : List Int) (hi : i < V) : winPre W l t V (j * V + (i + 1)) xs = winPre W l t V (j * V + i) xs ++ [xs.getD ((t + j) * W + (l + i)) 0] := by
  unfold winPre
  rw [← Nat.add_assoc, List.range_succ, List.map_append]
  obtain ⟨d, m⟩ := divmod_mk V j i hi
  simp [winC, atP, d, m]
theorem wrap_n (n : Nat) (h : n ≤ 1000000) : IntKind.i64.wrap (n : Int) = (n : Int) := by
  rw [IntKind.wrap_i64]; omega

def RefTrimPost (p : Pat) (w : World) (e : Ending) (w' : World) : Prop :=
  ∃ v, e = .returned (.tuple #[.agg #[.int .i64 ((trimP p).1.W : Int), .int .i64 ((trimP p).1.H : Int), v], .int .i64 ((trimP p).2.1 : Int), .int .i64 ((trimP p).2.2 : Int)]) ∧ Tab w' v (trimP p).1.xs ∧ Fresh w v ∧ Below w.heap.size w w'

end Go.Proofs.YtlpdobfjgpedaaaDoor

namespace Go.Proofs.YtlpdobfjgpedaaaDoor
open Go.RowKit
set_option linter.unusedVariables false
end Go.Proofs.YtlpdobfjgpedaaaDoor

