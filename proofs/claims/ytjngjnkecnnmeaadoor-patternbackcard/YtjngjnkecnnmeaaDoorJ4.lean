/-
  What the last text of this claim leans on, part 4: Wi2, Wc2, Wf3, Wc3, Wc4, Wi3, Rk2, Rk3, Clone, Rk4.
-/
import Derived.Test.YtjngjnkecnnmeaaDoorJ3
import Derived.Test.YtjngjnkecnnmeaaDoorJ2
import Derived.Test.YtjngjnkecnnmeaaDoorJ1
import Derived.Test.YtjngjnkecnnmeaaDoorProg
import Derived.Lib.Strings
import Derived.Lib.Walk
import Derived.Lib.BufferWrite
import Derived.Lib.UnsafeStr
import Derived.Lib.Hide
import Derived.Laws.MakeOwn
import Derived.WalkKit
import Derived.Deep.RegionWith
namespace Go.Proofs.YtjngjnkecnnmeaaDoor
open Go.RowKit
set_option linter.unusedVariables false

theorem best_yes {q : Pat} {m : Nat} (hm : 1 ≤ m) (h : cmpP (q.turn m) (bestP q (m - 1)) < 0) : bestP q m = q.turn m := by
  obtain ⟨k, rfl⟩ : ∃ k, m = k + 1 := ⟨m - 1, by omega⟩
  rw [bestP, if_pos]
  simp only [Nat.add_sub_cancel] at h
  simp [aheadB, h]
theorem best_no {q : Pat} {m : Nat} (hm : 1 ≤ m) (h : ¬ cmpP (q.turn m) (bestP q (m - 1)) < 0) : bestP q m = bestP q (m - 1) := by
  obtain ⟨k, rfl⟩ : ∃ k, m = k + 1 := ⟨m - 1, by omega⟩
  rw [bestP, if_neg]
  · simp
  · simp only [Nat.add_sub_cancel] at h
    simp [aheadB, h]

def CanonPost (p : Pat) (w : World) (e : Ending) (w' : World) : Prop :=
  ∃ v, e = .returned (.tuple #[.agg #[.int .i64 ((canonP p).W : Int), .int .i64 ((canonP p).H : Int), v], .nilIface]) ∧ Tab w' v (canonP p).xs ∧ Fresh w v ∧ Below w.heap.size w w'

set_option maxRecDepth 100000 in
set_option maxHeartbeats 1600000 in
theorem pCanon (W H : Nat) (xs : List Int) (a : Option Addr) (n c : Nat) (w : World) (hP : ArgP w xs a n c) (hc : n ≤ c) (hcm : c ≤ maxLen) (lW : W ≤ 100) (lH : H ≤ 100) (hs : shapeF W H xs = 0) (hn : n = W * H) :
    Calls Tryd.prog 31 #[.agg #[.int .i64 (W : Int), .int .i64 (H : Int), .slice a n c]] w (CanonPost ⟨W, H, xs⟩ w) := by
  have AP0 := hide' ((hP.alloc (.cells #[.int .i64 (W : Int), .int .i64 (H : Int), .slice a n c] 51)).alloc (.cells #[.int .i64 0, .int .i64 0, .slice none 0 0] 51))
  have RX0 := TB.new (w.alloc (.cells #[.int .i64 (W : Int), .int .i64 (H : Int), .slice a n c] 51)) (.int .i64 0) (.int .i64 0) (.slice none 0 0) 51
  rw [World.size_alloc] at RX0
  have RX := hide' RX0
  have HS := hide' hs
  have HN := hide' hn
  have FQ0 := hide' (trim_fits ⟨W, H, xs⟩ lW lH)
  obtain ⟨q, hq⟩ : ∃ q, (trimP ⟨W, H, xs⟩).1 = q := ⟨_, rfl⟩
  have HQ := hide' hq
  have CP := hide' (show canonP ⟨W, H, xs⟩ = bestP q 7 by unfold canonP; rw [hq])
  rw [hq] at FQ0
  have FQ := FQ0
  clear hP RX0 hs hn hq FQ0
  go_enter Tryd.func31, Tryd.ntmps31
  go_wp2_with fail
  refine (pTrim W H xs a n c _ AP0.out hc hcm lW lH HS.out HN.out).mono ?_
  rintro e w1 ⟨va, rfl, ta, fr, b1⟩
  rw [HQ.out] at ta ⊢
  have hz1 := b1.size
  simp only [World.size_alloc] at hz1
  have C0 := hide' (CN.start (RX.out.next b1) ta (fun g k c e => by have := fr g k c e; simp only [World.size_alloc] at this; omega) (show Below w.heap.size w w1 from (((Below.refl _ _).alloc (Nat.le_refl _) _).alloc (by simp) _).trans (b1.mono (by simp only [World.size_alloc]; omega))) (by omega) 51 51)
  obtain ⟨aa, ca, rfl, -⟩ := ta.arg FQ.out.max
  obtain ⟨l0, hl0⟩ : ∃ x, (trimP ⟨W, H, xs⟩).2.1 = x := ⟨_, rfl⟩
  obtain ⟨t0, ht0⟩ : ∃ x, (trimP ⟨W, H, xs⟩).2.2 = x := ⟨_, rfl⟩
  rw [hl0, ht0]
  clear ta fr b1 hl0 ht0
  go_wp2
  go_loopw [9] (fun kv wr => ∃ (m : Nat) (v : Value), kv = .int .i64 (m : Int) ∧ 1 ≤ m ∧ m ≤ 8 ∧ CN w wr w1.heap.size q (bestP q (m - 1)) (.slice aa q.xs.length ca) v) (fun kv _ => 8 - (intOf kv).toNat)
  case atStart => exact ⟨1, _, rfl, by omega, by omega, C0.out⟩
  case round =>
    obtain ⟨m, vb, rfl, hm1, hm8, cn⟩ := hrel
    have FB := hide' (best_fits FQ.out (m - 1) (by omega))
    have B1 := hide' (best_yes (q := q) hm1)
    have B2 := hide' (best_no (q := q) hm1)
    obtain ⟨b, hb⟩ : ∃ b, bestP q (m - 1) = b := ⟨_, rfl⟩
    have HB := hide' hb
    rw [hb] at cn FB B1 B2
    obtain ⟨ab, cb, rfl, -⟩ := cn.tb.arg FB.out.max
    have CNH := hide' cn
    clear C0 hb
    by_cases d : (m : Int) < 8
    · have FT := hide' (turn_fits FQ.out m (by omega))
      obtain ⟨_, _, e0, ap⟩ := cn.ta.arg FQ.out.max
      injection e0 with e1 _ e2
      subst e1 e2
      have AP := hide' ap
      obtain ⟨x0, x1, x2, -⟩ := cn.qb
      clear cn ap
      go_wp2_with fail
      refine (pturned_any q m _ _ _ AP.out FQ.out.ok FQ.out.w FQ.out.h (by omega)).mono ?_
      rintro e w2 ⟨v2, rfl, tb2, fr2, b2⟩
      have hzr := CNH.out.sz
      have hlo := CNH.out.lo
      have hz2 := b2.size
      obtain ⟨t, ht⟩ : ∃ t, q.turn m = t := ⟨_, rfl⟩
      rw [ht] at FT B1 B2 tb2 ⊢
      obtain ⟨a2, c2, rfl, -⟩ := tb2.arg FT.out.max
      have NV := hide' (fun g k c e => (⟨by have := fr2 g k c e; omega, by have := fr2 g k c e; omega⟩ : w.heap.size + 2 ≤ g ∧ g ≠ w1.heap.size + 1))
      have C2 := hide' ((CNH.out.next b2).next ((Below.refl _ _).alloc (Nat.le_refl _) (.cells #[.int .i64 (t.W : Int), .int .i64 (t.H : Int), .slice a2 t.xs.length c2] 51)))
      have T2 := hide' (tb2.nextB ((Below.refl _ _).alloc (Nat.le_refl _) (.cells #[.int .i64 (t.W : Int), .int .i64 (t.H : Int), .slice a2 t.xs.length c2] 51)))
      have X2 := hide' (TB.new w2 (.int .i64 (t.W : Int)) (.int .i64 (t.H : Int)) (.slice a2 t.xs.length c2) 51)
      obtain ⟨y0, y1, y2, -⟩ := C2.out.fb
      obtain ⟨z0, z1, z2, -⟩ := X2.out
      have hsz2 : (w2.alloc (.cells #[.int .i64 (t.W : Int), .int .i64 (t.H : Int), .slice a2 t.xs.length c2] 51)).heap.size = w2.heap.size + 1 := by simp
      have HT := hide' ht
      obtain ⟨_, _, e0, ap2⟩ := T2.out.arg FT.out.max
      injection e0 with e1 _ e2
      subst e1 e2
      obtain ⟨_, _, e0, apb⟩ := C2.out.tb.arg FB.out.max
      injection e0 with e1 _ e2
      subst e1 e2
      have AP2 := hide' ap2
      have APB := hide' apb
      clear x0 x1 x2 b2 tb2 fr2 ht ap2 apb
      go_wp2_with fail
      refine (compare_any t b _ _ _ _ _ AP2.out APB.out FT.out.small (by rw [FB.out.len, FT.out.len])).mono ?_
      rintro e w4 ⟨rfl, b4⟩
      have C4 := hide' (C2.out.next b4)
      have T4 := hide' (T2.out.nextB b4)
      obtain ⟨z0, z1, z2, -⟩ := X2.out.next b4
      obtain ⟨y0, y1, y2, yf⟩ := C4.out.fb
      have g0 := yf 0
      have g1 := yf 1
      have g2 := yf 2
      clear b4 yf
      obtain ⟨cv, hcv⟩ : ∃ x, cmpP t b = x := ⟨_, rfl⟩
      rw [hcv] at B1 B2 ⊢
      clear hcv
      by_cases i1 : cv < 0
      · have E := hide' (B1.out i1)
        go_wp2
        refine ⟨⟨m + 1, .slice a2 t.xs.length c2, by go_num, by omega, by omega, ?_⟩, by simp [intOf]; omega⟩
        rw [Nat.add_sub_cancel, E.out]
        exact C4.out.put t _ T4.out NV.out
      · have E := hide' (B2.out (by omega))
        go_wp2
        refine ⟨⟨m + 1, .slice ab b.xs.length cb, by go_num, by omega, by omega, ?_⟩, by simp [intOf]; omega⟩
        rw [Nat.add_sub_cancel, E.out]
        exact C4.out
    · have E := hide' (show bestP q 7 = b by rw [← HB.out, show m - 1 = 7 by omega])
      obtain ⟨y0, y1, y2, -⟩ := cn.fb
      obtain ⟨r0, r1, r2, rf⟩ := cn.rb
      have f0 := rf 0
      have f1 := rf 1
      have f2 := rf 2
      clear cn rf
      go_wp2
      refine bodyPost_ret (v := .tuple #[.agg #[.int .i64 (b.W : Int), .int .i64 (b.H : Int), .slice ab b.xs.length cb], .nilIface]) (by simp [results, Tryd.results31, go_sem, r0, r1, r2]) rfl ?_
      have hn2 := CNH.out.nb
      refine ⟨.slice ab b.xs.length cb, by rw [CP.out, E.out], ?_, fun g k c e => by have := hn2 g k c e; omega, ((CNH.out.below.setCell (by simp) _).setCell (by simp) _).setCell (by simp) _⟩
      rw [CP.out, E.out]
      exact CNH.out.tb.keep (by simp) (fun g k c e => stored_blk _ _ _ _ _ _ (by have := hn2 g k c e; omega))
end Go.Proofs.YtjngjnkecnnmeaaDoor

namespace Go.Proofs.YtjngjnkecnnmeaaDoor
open Go.RowKit
set_option linter.unusedVariables false

set_option maxHeartbeats 800000 in
theorem At_in (W H : Nat) (xs : List Int) (a : Option Addr) (n c x y : Nat) (X Y : Int) (w : World) (hP : ArgP w xs a n c) (lW : W ≤ 100) (lH : H ≤ 100) (hn : n = W * H) (hX : X = x) (hY : Y = y) (hx : x < W) (hy : y < H) :
    Calls Tryd.prog 84 #[.agg #[.int .i64 (W : Int), .int .i64 (H : Int), .slice a n c], .int .i64 X, .int .i64 Y] w fun e w' => e = .returned (.int .i64 (atP W xs x y)) ∧ Below w.heap.size w w' := by
  subst hX hY
  have hN4 : n ≤ 10000 := by rw [hn]; exact Nat.mul_le_mul lW lH
  have hq := mk_lt hx hy
  rw [← hn] at hq
  obtain ⟨Q, hQ⟩ : ∃ Q, y * W = Q := ⟨_, rfl⟩
  have hQi : (y : Int) * (W : Int) = (Q : Int) := by rw [← hQ]; simp
  have hl : Q + x < xs.length := by rw [← hP.len, ← hQ]; exact hq
  have hQn : Q + x < n := by rw [← hQ]; exact hq
  obtain ⟨g, off, rfl, hg, hc⟩ := (hP.alloc (.cells #[.int .i64 (W : Int), .int .i64 (H : Int), .slice a n c] 51)).cells (Q + x) hl
  have V := hide' (show atP W xs x y = xs[Q + x] by unfold atP; rw [hQ]; simp [List.getD, hl])
  obtain ⟨v, hv⟩ : ∃ v, xs[Q + x] = v := ⟨_, rfl⟩
  rw [hv] at hc V
  have h1 : ¬ (x : Int) < 0 := by omega
  have h2 : ¬ (W : Int) ≤ (x : Int) := by omega
  have h3 : ¬ (y : Int) < 0 := by omega
  have h4 : ¬ (H : Int) ≤ (y : Int) := by omega
  clear hP hn hq hQ hv
  go_enter Tryd.func84, Tryd.ntmps84
  go_wp2
  go_ret
  rw [V.out]
  exact ⟨rfl, (Below.refl _ _).alloc (Nat.le_refl _) _⟩

structure RT (w wr : World) (W H W' H' : Nat) (a : Option Addr) (n c : Nat) (v : Value) (ys : List Int) : Prop where
  box : TB w.heap.size (.int .i64 (W : Int)) (.int .i64 (H : Int)) (.slice a n c) wr
  res : TB (w.heap.size + 1) (.int .i64 0) (.int .i64 0) (.slice none 0 0) wr
  q : TB (w.heap.size + 2) (.int .i64 (W' : Int)) (.int .i64 (H' : Int)) v wr
  own : wr.ownsRow (w.heap.size + 3) 3 1 v ys.length (ys.map fun x => .int .i64 x)
  below : Below w.heap.size w wr
  sz : w.heap.size + 3 ≤ wr.heap.size
theorem RT.next {w wr w' : World} {W H W' H' : Nat} {a : Option Addr} {n c : Nat} {v : Value} {ys : List Int} (h : RT w wr W H W' H' a n c v ys) (hb : Below wr.heap.size wr w') : RT w w' W H W' H' a n c v ys := by
  have hz := h.sz
  exact ⟨h.box.next hb, h.res.next hb, h.q.next hb, ownsRow_from h.own fun k _ hk => hb.block k hk, h.below.trans (hb.mono (by omega)), by have := hb.size; omega⟩
theorem RT.grown {w wr w' : World} {W H W' H' : Nat} {a : Option Addr} {n c : Nat} {v : Value} {ys : List Int} (h : RT w wr W H W' H' a n c v ys) (x : Int) (hg : (wr.alloc (.cells #[.int .i64 x] 3)).grownBy w' v.ownBlock) : ∀ k, k < w.heap.size + 3 → w'.heap[k]? = wr.heap[k]? := fun k hk => by
  have hz := h.sz
  have hob := ownsRow_block h.own
  rw [hg.block k (by rw [World.size_alloc]; omega) (fun e => by have := hob k e.symm; omega)]
  exact Below.heap_alloc _ _ _ (by omega)
theorem RT.mid {w wr w' : World} {W H W' H' : Nat} {a : Option Addr} {n c : Nat} {v : Value} {ys : List Int} (h : RT w wr W H W' H' a n c v ys) (x : Int) (hg : (wr.alloc (.cells #[.int .i64 x] 3)).grownBy w' v.ownBlock) : w'.cell? ⟨w.heap.size + 2, 2, none⟩ = some v ∧ w'.frozen? ⟨w.heap.size + 2, 2, none⟩ = false := by
  have t := h.q.block (h.grown x hg _ (by omega))
  exact ⟨t.c2, t.fz 2⟩
theorem RT.push {w wr w' : World} {W H W' H' : Nat} {a : Option Addr} {n c : Nat} {v v' : Value} {ys : List Int} (h : RT w wr W H W' H' a n c v ys) (x : Int) (hg : (wr.alloc (.cells #[.int .i64 x] 3)).grownBy w' v.ownBlock) (ho : w'.ownsRow (w.heap.size + 3) 3 1 v' (ys.length + 1) ((ys.map fun x => .int .i64 x) ++ [.int .i64 x])) : RT w (w'.setCell ⟨w.heap.size + 2, 2, none⟩ v') W H W' H' a n c v' (ys ++ [x]) := by
  have hk := h.grown x hg
  have hz := h.sz
  have hsz : wr.heap.size + 1 ≤ w'.heap.size := by have := hg.size; rw [World.size_alloc] at this; exact this
  have hb : Below w.heap.size w w' := h.below.trans ⟨hg.os, hg.tape, hg.output, by omega, fun k hkk => hk k (by omega)⟩
  have tq := h.q.block (hk _ (by omega))
  refine ⟨(h.box.block (hk _ (by omega))).block (Below.heap_setCell _ _ _ _ (by simp)), (h.res.block (hk _ (by omega))).block (Below.heap_setCell _ _ _ _ (by simp)), ⟨cell_other tq.c0 (by omega), cell_other tq.c1 (by omega), cell_same tq.c2, fun k => by rw [World.frozen?_setCell]; exact tq.fz k⟩, ?_, hb.setCell (by simp) _, by rw [World.size_setCell]; omega⟩
  have := ownsRow_setCell_below ho (a := ⟨w.heap.size + 2, 2, none⟩) (by simp) v'
  simpa using this
theorem RT.start (w : World) (W H W' H' : Nat) (a : Option Addr) (n c : Nat) (t1 t2 t3 : TypeId) : RT w (((w.alloc (.cells #[.int .i64 (W : Int), .int .i64 (H : Int), .slice a n c] t1)).alloc (.cells #[.int .i64 0, .int .i64 0, .slice none 0 0] t2)).alloc (.cells #[.int .i64 (W' : Int), .int .i64 (H' : Int), .slice none 0 0] t3)) W H W' H' a n c (.slice none 0 0) [] := by
  have r1 := TB.new (w.alloc (.cells #[.int .i64 (W : Int), .int .i64 (H : Int), .slice a n c] t1)) (.int .i64 0) (.int .i64 0) (.slice none 0 0) t2
  have r2 := TB.new ((w.alloc (.cells #[.int .i64 (W : Int), .int .i64 (H : Int), .slice a n c] t1)).alloc (.cells #[.int .i64 0, .int .i64 0, .slice none 0 0] t2)) (.int .i64 (W' : Int)) (.int .i64 (H' : Int)) (.slice none 0 0) t3
  rw [World.size_alloc] at r1 r2
  rw [World.size_alloc] at r2
  exact ⟨((TB.new w _ _ _ t1).alloc _).alloc _, r1.alloc _, r2, ⟨by simp, Or.inl ⟨rfl, by simp⟩⟩, (((Below.refl _ _).alloc (Nat.le_refl _) _).alloc (by simp) _).alloc (by simp; omega) _, by simp⟩
end Go.Proofs.YtjngjnkecnnmeaaDoor

namespace Go.Proofs.YtjngjnkecnnmeaaDoor
open Go.RowKit
set_option linter.unusedVariables false

def winPre (W l t V m : Nat) (xs : List Int) : List Int := (List.range m).map (winC W l t V xs)
theorem winPre_length (W l t V m : Nat) (xs : List Int) : (winPre W l t V m xs).length = m := by simp [winPre]
theorem winPre_step (W l t V j i : Nat) (xs : List Int) (hi : i < V) : winPre W l t V (j * V + (i + 1)) xs = winPre W l t V (j * V + i) xs ++ [xs.getD ((t + j) * W + (l + i)) 0] := by
  unfold winPre
  rw [← Nat.add_assoc, List.range_succ, List.map_append]
  obtain ⟨d, m⟩ := divmod_mk V j i hi
  simp [winC, atP, d, m]
theorem wrap_n (n : Nat) (h : n ≤ 1000000) : IntKind.i64.wrap (n : Int) = (n : Int) := by
  rw [IntKind.wrap_i64]; omega

def RefTrimPost (p : Pat) (w : World) (e : Ending) (w' : World) : Prop :=
  ∃ v, e = .returned (.tuple #[.agg #[.int .i64 ((trimP p).1.W : Int), .int .i64 ((trimP p).1.H : Int), v], .int .i64 ((trimP p).2.1 : Int), .int .i64 ((trimP p).2.2 : Int)]) ∧ Tab w' v (trimP p).1.xs ∧ Fresh w v ∧ Below w.heap.size w w'

set_option maxRecDepth 100000 in
set_option maxHeartbeats 3200000 in
theorem refTrim (W H : Nat) (xs : List Int) (a : Option Addr) (n c : Nat) (w : World) (hP : ArgP w xs a n c) (lW : W ≤ 100) (lH : H ≤ 100) (hn : n = W * H) :
    Calls Tryd.prog 36 #[.agg #[.int .i64 (W : Int), .int .i64 (H : Int), .slice a n c]] w (RefTrimPost ⟨W, H, xs⟩ w) := by
  have hN4 : n ≤ 10000 := by rw [hn]; exact Nat.mul_le_mul lW lH
  have HP := hide' hP
  have HL := hide' hP.len
  have HN := hide' hn
  have AP := hide' ((hP.alloc (.cells #[.int .i64 (W : Int), .int .i64 (H : Int), .slice a n c] 51)).alloc (.cells #[.int .i64 0, .int .i64 0, .slice none 0 0] 51))
  clear hP hn
  go_enter Tryd.func36, Tryd.ntmps36
  go_wp2
  go_loop [5, 6, 7, 8, 9] (fun lv rv tv bv yv => ∃ y : Nat, yv = .int .i64 (y : Int) ∧ y ≤ H ∧ lv = .int .i64 ((bbx W H xs (y * W)).l : Int) ∧ rv = .int .i64 (((bbx W H xs (y * W)).r : Int) - 1) ∧ tv = .int .i64 ((bbx W H xs (y * W)).t : Int) ∧ bv = .int .i64 (((bbx W H xs (y * W)).b : Int) - 1)) (fun _ _ _ _ yv => H - (intOf yv).toNat)
  case atStart => exact ⟨0, rfl, by omega, by rw [Nat.zero_mul]; rfl, by rw [Nat.zero_mul]; rfl, by rw [Nat.zero_mul]; rfl, by rw [Nat.zero_mul]; rfl⟩
  case round =>
    obtain ⟨y, rfl, hy, rfl, rfl, rfl, rfl⟩ := hrel
    by_cases d : (y : Int) < (H : Int)
    · go_wp2
      go_loop [5, 6, 7, 8, 10] (fun lv rv tv bv xv => ∃ x : Nat, xv = .int .i64 (x : Int) ∧ x ≤ W ∧ lv = .int .i64 ((bbx W H xs (y * W + x)).l : Int) ∧ rv = .int .i64 (((bbx W H xs (y * W + x)).r : Int) - 1) ∧ tv = .int .i64 ((bbx W H xs (y * W + x)).t : Int) ∧ bv = .int .i64 (((bbx W H xs (y * W + x)).b : Int) - 1)) (fun _ _ _ _ xv => W - (intOf xv).toNat)
      case atStart => exact ⟨0, rfl, by omega, rfl, rfl, rfl, rfl⟩
      case round =>
        obtain ⟨x, rfl, hx, rfl, rfl, rfl, rfl⟩ := hrel
        by_cases e : (x : Int) < (W : Int)
        · have hm : y * W + x < W * H := mk_lt (by omega) (by omega)
          obtain ⟨PP, hPP⟩ : ∃ PP, y * W = PP := ⟨_, rfl⟩
          have q1 : (y : Int) * (W : Int) = (PP : Int) := by rw [← hPP]; simp
          have hxl : PP + x < xs.length := by rw [← HL.out, HN.out, ← hPP]; exact hm
          have hxn : PP + x < n := by rw [HN.out, ← hPP]; exact hm
          obtain ⟨ga, off, rfl, hga, hc⟩ := AP.out.cells (PP + x) hxl
          obtain ⟨z, hz⟩ : ∃ z, xs[PP + x] = z := ⟨_, rfl⟩
          rw [hz] at hc
          have HZ := hide' (show xs.getD (y * W + x) 0 = z by rw [hPP, ← hz]; simp [List.getD, hxl])
          obtain ⟨dd, mm⟩ := divmod_mk W y x (by omega)
          have DM := hide' (And.intro dd mm)
          have BL := hide' (bbx_le W H xs (y * W + x) (by omega))
          obtain ⟨Q, hQ⟩ : ∃ Q, bbx W H xs (y * W + x) = Q := ⟨_, rfl⟩
          have HQ := hide' hQ
          obtain ⟨b1, b2, b3, b4, -⟩ := BL.out
          rw [hQ] at b1 b2 b3 b4 ⊢
          obtain ⟨L, T, R, B⟩ := Q
          dsimp only at b1 b2 b3 b4 ⊢
          clear hz hQ hPP dd mm BL
          by_cases z1 : z = 1
          · have m1 : (z == 1) = true := by simp [z1]
            have STEP := hide' (show bbx W H xs (y * W + (x + 1)) = ⟨min L x, min T y, max R (x + 1), max B (y + 1)⟩ by rw [← Nat.add_assoc, bbx_yes (by rw [HZ.out]; exact z1), DM.out.1, DM.out.2, HQ.out])
            clear z1
            by_cases c1 : x < L <;> by_cases c2 : R ≤ x <;> by_cases c3 : y < T <;> by_cases c4 : B ≤ y
            all_goals
              (first | have i1 : (x : Int) < (L : Int) := by omega | have i1 : ¬ (x : Int) < (L : Int) := by omega)
              (first | have i2 : (R : Int) - 1 < (x : Int) := by omega | have i2 : ¬ (R : Int) - 1 < (x : Int) := by omega)
              (first | have i3 : (y : Int) < (T : Int) := by omega | have i3 : ¬ (y : Int) < (T : Int) := by omega)
              (first | have i4 : (B : Int) - 1 < (y : Int) := by omega | have i4 : ¬ (B : Int) - 1 < (y : Int) := by omega)
              go_wp2
              refine ⟨⟨x + 1, by go_num, by omega, ?_, ?_, ?_, ?_⟩, by simp [intOf]; omega⟩
              all_goals (rw [STEP.out]; dsimp only; congr 1; omega)
          · have m1 : (z == 1) = false := by simp [z1]
            have STEP := hide' (show bbx W H xs (y * W + (x + 1)) = ⟨L, T, R, B⟩ by rw [← Nat.add_assoc, bbx_no (by rw [HZ.out]; exact z1), HQ.out])
            clear z1
            go_wp2
            refine ⟨⟨x + 1, by go_num, by omega, ?_, ?_, ?_, ?_⟩, by simp [intOf]; omega⟩
            all_goals (rw [STEP.out])
        · have X := hide' (show x = W by omega)
          go_wp2
          refine ⟨⟨y + 1, by go_num, by omega, ?_, ?_, ?_, ?_⟩, by simp [intOf]; omega⟩
          all_goals (rw [X.out, Nat.add_mul, Nat.one_mul])
    · have Y := hide' (show y * W = W * H by rw [show y = H by omega, Nat.mul_comm])
      have BL := hide' (bbx_le W H xs (W * H) (Nat.le_refl _))
      obtain ⟨Q, hQ⟩ : ∃ Q, bbx W H xs (W * H) = Q := ⟨_, rfl⟩
      have HQ := hide' hQ
      obtain ⟨b1, b2, b3, b4, b5⟩ := BL.out
      rw [Y.out, hQ]
      rw [hQ] at b1 b2 b3 b4 b5
      obtain ⟨L, T, R, B⟩ := Q
      dsimp only at b1 b2 b3 b4 b5 ⊢
      clear hQ BL
      by_cases r0 : R = 0
      · have i1 : (R : Int) - 1 < 0 := by omega
        have TR := hide' (show trimP ⟨W, H, xs⟩ = (⟨0, 0, []⟩, 0, 0) by unfold trimP; dsimp only; rw [HQ.out, if_pos r0])
        clear r0 b5
        go_wp2
        refine bodyPost_ret (v := .tuple #[.agg #[.int .i64 0, .int .i64 0, .slice none 0 0], .int .i64 0, .int .i64 0]) (by simp [results, Tryd.results36, go_sem]) rfl ?_
        refine ⟨.slice none 0 0, by rw [TR.out]; rfl, by rw [TR.out]; exact Or.inl ⟨rfl, rfl⟩, Fresh.nil _, ?_⟩
        exact ((Below.refl _ _).alloc (Nat.le_refl _) _).alloc (by simp) _
      · have i1 : ¬ (R : Int) - 1 < 0 := by omega
        obtain ⟨hLR, hTB⟩ : L < R ∧ T < B := by omega
        obtain ⟨V, hV⟩ : ∃ V, V = R - L := ⟨_, rfl⟩
        obtain ⟨U, hU⟩ : ∃ U, U = B - T := ⟨_, rfl⟩
        have q1 : (R : Int) - 1 - (L : Int) + 1 = (V : Int) := by omega
        have q2 : (B : Int) - 1 - (T : Int) + 1 = (U : Int) := by omega
        have TR := hide' (show trimP ⟨W, H, xs⟩ = (⟨V, U, winP W L T V (V * U) xs⟩, L, T) by unfold trimP; dsimp only; rw [HQ.out, if_neg r0, hV, hU])
        have hVR : L + V = R := by omega
        have hUB : T + U = B := by omega
        have HV := hide' hVR
        have HU := hide' hUB
        have S0 := hide' (RT.start w W H V U a n c 51 51 51)
        obtain ⟨i0, hi, hz0, hz1, hz2⟩ := info_parts info_int
        clear r0 b5 hV hU hVR hUB
        go_wp2
        go_loopw [12] (fun yv wr => ∃ (j Yy : Nat) (v : Value), yv = .int .i64 (Yy : Int) ∧ Hid (Yy = T + j) ∧ j ≤ U ∧ RT w wr W H V U a n c v (winPre W L T V (j * V) xs)) (fun yv _ => B - (intOf yv).toNat)
        case atStart => exact ⟨0, T, .slice none 0 0, rfl, hide' (by omega), by omega, by rw [Nat.zero_mul]; exact S0.out⟩
        case round =>
          obtain ⟨j, Yy, v, rfl, HYy, hj, rt⟩ := hrel
          have R2 := hide' rt
          clear rt S0
          by_cases d2 : (Yy : Int) ≤ (B : Int) - 1
          · go_wp2
            go_loopw [13] (fun xv wx => ∃ (i Xx : Nat) (v : Value), xv = .int .i64 (Xx : Int) ∧ Hid (Xx = L + i) ∧ i ≤ V ∧ RT w wx W H V U a n c v (winPre W L T V (j * V + i) xs)) (fun xv _ => R - (intOf xv).toNat)
            case atStart => exact ⟨0, L, v, rfl, hide' (by omega), by omega, R2.out⟩
            case round =>
              obtain ⟨i, Xx, v, rfl, HXx, hi', rt⟩ := hrel
              have S := hide' rt
              have x0 := rt.box.c0
              have x2 := rt.box.c2
              have y2 := rt.q.c2
              have yf := rt.q.fz 2
              have hsz := rt.sz
              have ho := rt.own
              obtain ⟨sa, sn, sc, rfl⟩ := ownsRow_slice ho
              clear rt R2
              by_cases e2 : (Xx : Int) ≤ (R : Int) - 1
              · have hiV : i < V := by have := HXx.out; have := HV.out; omega
                have hjU : j < U := by have := HYy.out; have := HU.out; omega
                obtain ⟨PP, hPP⟩ : ∃ PP, Yy * W = PP := ⟨_, rfl⟩
                have q3 : (Yy : Int) * (W : Int) = (PP : Int) := by rw [← hPP]; simp
                obtain ⟨G, hG⟩ : ∃ G, PP + Xx = G := ⟨_, rfl⟩
                have q4 : (PP : Int) + (Xx : Int) = (G : Int) := by omega
                have hGn : G < n := by
                  rw [← hG, ← hPP, HN.out]
                  exact mk_lt (by have := HXx.out; have := HV.out; omega) (by have := HYy.out; have := HU.out; omega)
                have hGl : G < xs.length := by rw [← HL.out]; exact hGn
                obtain ⟨ga, off, rfl, hga, hc⟩ := (HP.out.below S.out.below).cells G hGl
                obtain ⟨z, hz⟩ : ∃ z, xs[G] = z := ⟨_, rfl⟩
                rw [hz] at hc
                have HZ := hide' (show xs.getD ((T + j) * W + (L + i)) 0 = z by rw [← HYy.out, ← HXx.out, hPP, hG, ← hz]; simp [List.getD, hGl])
                have v1 : IntKind.i64.wrap (PP : Int) = (PP : Int) := wrap_n PP (by omega)
                have v2 : IntKind.i64.wrap (G : Int) = (G : Int) := wrap_n G (by omega)
                have hlen : j * V + i < 10000 := by
                  have h1 := mk_lt hiV hjU
                  have h2 := Nat.mul_le_mul (show V ≤ 100 by have := HV.out; omega) (show U ≤ 100 by have := HU.out; omega)
                  omega
                have HLE := hide' (winPre_length W L T V (j * V + i) xs)
                have OW := hide' ((ho.alloc (.cells #[.int .i64 z] 3)).drew)
                have NB := hide' (World.news_of_block (w := (wr.alloc (.cells #[.int .i64 z] 3)).drew) (cs := #[.int .i64 z]) (t := 3) (fr := (0, 0)) (heap_alloc_new wr _))
                have d6 : ∀ o, (wr.alloc o).cell? ⟨w.heap.size + 2, 2, none⟩ = some (.slice sa sn sc) := fun o => (World.cell?_alloc_lt wr o ⟨w.heap.size + 2, 2, none⟩ (by simp; omega)).trans y2
                have d7 : ∀ o, (wr.alloc o).cell? ⟨w.heap.size + 1 + 1, 2, none⟩ = some (.slice sa sn sc) := d6
                clear ho hz hG hPP
                go_wp2
                go_region_law (refine step_append_lies _ (by rfl) _ _ _ (by rfl) (w.heap.size + 3) 3 i0 _ 1 8 Tryd.underlying22 hi hz0 hz1 hz2 rfl (by omega) (.slice sa sn sc) _ _ (by rfl) OW.out ⟨wr.heap.size, 0, none⟩ 1 1 [.int .i64 z] (by rfl) (by rfl) NB.out (by simp [Value.oneCell']) (by omega) (by rw [HLE.out]; unfold maxLen; omega) (by rw [HLE.out]; omega) (by simp; omega) (wr.heap.size + 1) (by simp) ?_; intro gg cap w4 hown1 hgrow hat hlt; have x5 := (S.out.mid z (grownBy_drew hgrow)).1; have x6 := (S.out.mid z (grownBy_drew hgrow)).2; have G3 := hide' (grownBy_drew hgrow); have O3 := hide' hown1; clear hgrow hown1 hat hlt)
                all_goals
                  go_wp2
                  refine ⟨⟨i + 1, Xx + 1, .slice (some ⟨gg, 0, none⟩) ((winPre W L T V (j * V + i) xs).length + 1) cap, by go_num, hide' (by have := HXx.out; omega), by omega, ?_⟩, by simp [intOf]; omega⟩
                  have hp := S.out.push z G3.out O3.out
                  rw [winPre_step _ _ _ _ _ _ _ hiV, HZ.out]
                  exact hp
              · have X := hide' (show i = V by have := HXx.out; have := HV.out; omega)
                go_wp2
                refine ⟨⟨j + 1, Yy + 1, .slice sa sn sc, by go_num, hide' (by have := HYy.out; omega), by have := HYy.out; have := HU.out; omega, ?_⟩, by simp [intOf]; omega⟩
                have := S.out
                rw [X.out] at this
                rw [Nat.add_mul, Nat.one_mul]
                exact this
          · have J := hide' (show j = U by have := HYy.out; have := HU.out; omega)
            obtain ⟨sa, sn, sc, rfl⟩ := ownsRow_slice R2.out.own
            obtain ⟨o0, o1, o2, -⟩ := R2.out.q
            obtain ⟨r0, r1, r2, rf⟩ := R2.out.res
            have f0 := rf 0
            have f1 := rf 1
            have f2 := rf 2
            clear rf
            go_wp2
            refine bodyPost_ret (v := .tuple #[.agg #[.int .i64 (V : Int), .int .i64 (U : Int), .slice sa sn sc], .int .i64 (L : Int), .int .i64 (T : Int)]) (by simp [results, Tryd.results36, go_sem, r0, r1, r2]) rfl ?_
            refine ⟨.slice sa sn sc, by rw [TR.out], ?_, fresh_own R2.out.own (by omega), ((R2.out.below.setCell (by simp) _).setCell (by simp) _).setCell (by simp) _⟩
            have h := R2.out.own
            rw [J.out, show winPre W L T V (U * V) xs = winP W L T V (V * U) xs by rw [Nat.mul_comm]; rfl] at h
            rw [TR.out]
            exact ownsRow_tab (ownsRow_setCell_below (ownsRow_setCell_below (ownsRow_setCell_below h (a := ⟨w.heap.size + 1, 0, none⟩) (by simp) _) (a := ⟨w.heap.size + 1, 1, none⟩) (by simp) _) (a := ⟨w.heap.size + 1, 2, none⟩) (by simp) _)
end Go.Proofs.YtjngjnkecnnmeaaDoor

namespace Go.Proofs.YtjngjnkecnnmeaaDoor
open Go.RowKit
set_option linter.unusedVariables false

/-- The first cells of the turned pattern. -/
def refPre (p : Pat) (k m : Nat) : List Int := (List.range m).map fun q => atP p.W p.xs (srcX p k (q % turnW p k) (q / turnW p k)) (srcY p k (q % turnW p k) (q / turnW p k))
theorem refPre_length (p : Pat) (k m : Nat) : (refPre p k m).length = m := by simp [refPre]
theorem refPre_succ (p : Pat) (k m : Nat) : refPre p k (m + 1) = refPre p k m ++ [atP p.W p.xs (srcX p k (m % turnW p k) (m / turnW p k)) (srcY p k (m % turnW p k) (m / turnW p k))] := by
  unfold refPre
  rw [List.range_succ, List.map_append]
  rfl
theorem refPre_val (p : Pat) (k x y : Nat) (hx : x < turnW p k) (hy : y < turnH p k) : atP p.W p.xs (srcX p k ((y * turnW p k + x) % turnW p k) ((y * turnW p k + x) / turnW p k)) (srcY p k ((y * turnW p k + x) % turnW p k) ((y * turnW p k + x) / turnW p k)) = atP p.W p.xs (srcX p k x y) (srcY p k x y) := by
  obtain ⟨d, m⟩ := divmod_mk (turnW p k) y x hx
  rw [d, m]
theorem refPre_step (p : Pat) (k x y : Nat) (hx : x < turnW p k) (hy : y < turnH p k) (m : Nat) (hm : m = y * turnW p k + x) : refPre p k (m + 1) = refPre p k m ++ [atP p.W p.xs (srcX p k x y) (srcY p k x y)] := by
  rw [refPre_succ, hm, refPre_val p k x y hx hy]
theorem refPre_full (p : Pat) (k : Nat) {m : Nat} (h : m = turnW p k * turnH p k) : refPre p k m = refTurn p k := by rw [h]; rfl

def TurnPost (p : Pat) (k : Nat) (w : World) (e : Ending) (w' : World) : Prop :=
  ∃ v, e = .returned (.agg #[.int .i64 (turnW p k : Int), .int .i64 (turnH p k : Int), v]) ∧ Tab w' v (refTurn p k) ∧ Fresh w v ∧ Below w.heap.size w w'

set_option maxRecDepth 100000 in
set_option maxHeartbeats 1600000 in
theorem refTurn_0 (W H : Nat) (xs : List Int) (a : Option Addr) (n c : Nat) (w : World) (hP : ArgP w xs a n c) (lW : W ≤ 100) (lH : H ≤ 100) (hn : n = W * H) :
    Calls Tryd.prog 38 #[.agg #[.int .i64 (W : Int), .int .i64 (H : Int), .slice a n c], .int .i64 0] w (TurnPost ⟨W, H, xs⟩ 0 w) := by
  have hN4 : n ≤ 10000 := by rw [hn]; exact Nat.mul_le_mul lW lH
  have HP := hide' hP
  have HN := hide' hn
  have HM := hide' (show n = W * H by rw [hn])
  have S0 := hide' (RT.start w W H W H a n c 51 51 51)
  obtain ⟨i0, hi, hz0, hz1, hz2⟩ := info_parts info_int
  clear hP hn
  go_enter Tryd.func38, Tryd.ntmps38
  go_wp2
  go_loopw [6] (fun yv wr => ∃ (y : Nat) (v : Value), yv = .int .i64 (y : Int) ∧ y ≤ H ∧ RT w wr W H W H a n c v (refPre ⟨W, H, xs⟩ 0 (y * W))) (fun yv _ => H - (intOf yv).toNat)
  case atStart => exact ⟨0, .slice none 0 0, rfl, by omega, by rw [Nat.zero_mul]; exact S0.out⟩
  case round =>
    obtain ⟨y, v, rfl, hy, rt⟩ := hrel
    have R := hide' rt
    have c1 := rt.q.c1
    clear rt S0
    by_cases d : (y : Int) < (H : Int)
    · go_wp2
      go_loopw [7] (fun xv wx => ∃ (x : Nat) (v : Value), xv = .int .i64 (x : Int) ∧ x ≤ W ∧ RT w wx W H W H a n c v (refPre ⟨W, H, xs⟩ 0 (y * W + x))) (fun xv _ => W - (intOf xv).toNat)
      case atStart => exact ⟨0, v, rfl, by omega, R.out⟩
      case round =>
        obtain ⟨x, v, rfl, hx, rt⟩ := hrel
        have S := hide' rt
        have d0 := rt.q.c0
        have b0 := rt.box.c0
        have b1 := rt.box.c1
        have b2 := rt.box.c2
        have hsz := rt.sz
        have ho := rt.own
        obtain ⟨sa, sn, sc, rfl⟩ := ownsRow_slice ho
        clear rt ho R c1
        by_cases e : (x : Int) < (W : Int)
        · have hx' : x < W := by omega
          have hy' : y < H := by omega
          go_wp2_with fail
          refine (At_in W H xs a n c x y _ _ wr (HP.out.below S.out.below) lW lH HN.out (by omega) (by omega) (by omega) (by omega)).mono ?_
          rintro e' w2 ⟨rfl, b2'⟩
          have S2 := hide' (S.out.next b2')
          have d2 := S2.out.q.c2
          have z2 := S2.out.sz
          have OW := hide' S2.out.own
          obtain ⟨x0, hx0⟩ : ∃ x0, x0 = atP W xs x y := ⟨_, rfl⟩
          rw [← hx0]
          have X0 := hide' hx0
          have hlen : y * W + x < 10000 := by have := mk_lt hx' hy'; rw [← HM.out] at this; omega
          have HLE := hide' (refPre_length ⟨W, H, xs⟩ 0 (y * W + x))
          clear hx0 b2' d0 b0 b1 b2
          go_wp2_with (at_builtin; refine wpList_append_own _ rfl _ _ 22 rfl (w.heap.size + 3) 3 i0 (.int .i64 0) 1 8 Tryd.underlying22 hi hz0 hz1 hz2 rfl (by decide) (.slice sa sn sc) _ _ rfl (OW.out.alloc _) ⟨w2.heap.size, 0, none⟩ 1 1 [.int .i64 x0] rfl rfl (cell_one_new _ _ _) (fun x hx => by simp at hx; subst hx; rfl) (by rw [HLE.out]; unfold maxLen; omega) (by rw [HLE.out]; omega) (by simp; omega) ?_; intro v' w3 hown' hgrow3 hnil3; obtain ⟨ta, tn, tc, rfl⟩ := ownsRow_slice hown'; obtain ⟨x5, x6⟩ := S2.out.mid x0 hgrow3; have G3 := hide' hgrow3; have O3 := hide' hown'; clear hgrow3 hown' hnil3)
          refine ⟨⟨x + 1, .slice ta tn tc, by go_num, by omega, ?_⟩, by simp [intOf]; omega⟩
          have hp := S2.out.push x0 G3.out O3.out
          rw [X0.out] at hp
          rw [← Nat.add_assoc, refPre_step ⟨W, H, xs⟩ 0 x y hx' hy' (y * W + x) rfl]
          exact hp
        · have X := hide' (show x = W by omega)
          go_wp2
          refine ⟨⟨y + 1, .slice sa sn sc, by go_num, by omega, ?_⟩, by simp [intOf]; omega⟩
          have := S.out
          rw [X.out] at this
          rw [Nat.add_mul, Nat.one_mul]
          exact this
    · have Y := hide' (show y = H by omega)
      obtain ⟨sa, sn, sc, rfl⟩ := ownsRow_slice R.out.own
      obtain ⟨q0, q1, q2, -⟩ := R.out.q
      obtain ⟨r0, r1, r2, rf⟩ := R.out.res
      have f0 := rf 0
      have f1 := rf 1
      have f2 := rf 2
      clear rf c1
      go_wp2
      refine bodyPost_ret (v := .agg #[.int .i64 (W : Int), .int .i64 (H : Int), .slice sa sn sc]) (by simp [results, Tryd.results38, go_sem, r0, r1, r2]) rfl ?_
      refine ⟨_, rfl, ?_, ?_, ((R.out.below.setCell (by simp) _).setCell (by simp) _).setCell (by simp) _⟩
      · have h := R.out.own
        rw [Y.out, refPre_full ⟨W, H, xs⟩ 0 (show H * W = W * H from Nat.mul_comm _ _)] at h
        exact ownsRow_tab (ownsRow_setCell_below (ownsRow_setCell_below (ownsRow_setCell_below h (a := ⟨w.heap.size + 1, 0, none⟩) (by simp) _) (a := ⟨w.heap.size + 1, 1, none⟩) (by simp) _) (a := ⟨w.heap.size + 1, 2, none⟩) (by simp) _)
      · exact fresh_own R.out.own (by omega)

set_option maxRecDepth 100000 in
set_option maxHeartbeats 1600000 in
theorem refTurn_1 (W H : Nat) (xs : List Int) (a : Option Addr) (n c : Nat) (w : World) (hP : ArgP w xs a n c) (lW : W ≤ 100) (lH : H ≤ 100) (hn : n = W * H) :
    Calls Tryd.prog 38 #[.agg #[.int .i64 (W : Int), .int .i64 (H : Int), .slice a n c], .int .i64 1] w (TurnPost ⟨W, H, xs⟩ 1 w) := by
  have hN4 : n ≤ 10000 := by rw [hn]; exact Nat.mul_le_mul lW lH
  have HP := hide' hP
  have HN := hide' hn
  have HM := hide' (show n = H * W by rw [hn, Nat.mul_comm])
  have S0 := hide' (RT.start w W H H W a n c 51 51 51)
  obtain ⟨i0, hi, hz0, hz1, hz2⟩ := info_parts info_int
  clear hP hn
  go_enter Tryd.func38, Tryd.ntmps38
  go_wp2
  go_loopw [6] (fun yv wr => ∃ (y : Nat) (v : Value), yv = .int .i64 (y : Int) ∧ y ≤ W ∧ RT w wr W H H W a n c v (refPre ⟨W, H, xs⟩ 1 (y * H))) (fun yv _ => W - (intOf yv).toNat)
  case atStart => exact ⟨0, .slice none 0 0, rfl, by omega, by rw [Nat.zero_mul]; exact S0.out⟩
  case round =>
    obtain ⟨y, v, rfl, hy, rt⟩ := hrel
    have R := hide' rt
    have c1 := rt.q.c1
    clear rt S0
    by_cases d : (y : Int) < (W : Int)
    · go_wp2
      go_loopw [7] (fun xv wx => ∃ (x : Nat) (v : Value), xv = .int .i64 (x : Int) ∧ x ≤ H ∧ RT w wx W H H W a n c v (refPre ⟨W, H, xs⟩ 1 (y * H + x))) (fun xv _ => H - (intOf xv).toNat)
      case atStart => exact ⟨0, v, rfl, by omega, R.out⟩
      case round =>
        obtain ⟨x, v, rfl, hx, rt⟩ := hrel
        have S := hide' rt
        have d0 := rt.q.c0
        have b0 := rt.box.c0
        have b1 := rt.box.c1
        have b2 := rt.box.c2
        have hsz := rt.sz
        have ho := rt.own
        obtain ⟨sa, sn, sc, rfl⟩ := ownsRow_slice ho
        clear rt ho R c1
        by_cases e : (x : Int) < (H : Int)
        · have hx' : x < H := by omega
          have hy' : y < W := by omega
          go_wp2_with fail
          refine (At_in W H xs a n c y (H - 1 - x) _ _ wr (HP.out.below S.out.below) lW lH HN.out (by omega) (by omega) (by omega) (by omega)).mono ?_
          rintro e' w2 ⟨rfl, b2'⟩
          have S2 := hide' (S.out.next b2')
          have d2 := S2.out.q.c2
          have z2 := S2.out.sz
          have OW := hide' S2.out.own
          obtain ⟨x0, hx0⟩ : ∃ x0, x0 = atP W xs y (H - 1 - x) := ⟨_, rfl⟩
          rw [← hx0]
          have X0 := hide' hx0
          have hlen : y * H + x < 10000 := by have := mk_lt hx' hy'; rw [← HM.out] at this; omega
          have HLE := hide' (refPre_length ⟨W, H, xs⟩ 1 (y * H + x))
          clear hx0 b2' d0 b0 b1 b2
          go_wp2_with (at_builtin; refine wpList_append_own _ rfl _ _ 22 rfl (w.heap.size + 3) 3 i0 (.int .i64 0) 1 8 Tryd.underlying22 hi hz0 hz1 hz2 rfl (by decide) (.slice sa sn sc) _ _ rfl (OW.out.alloc _) ⟨w2.heap.size, 0, none⟩ 1 1 [.int .i64 x0] rfl rfl (cell_one_new _ _ _) (fun x hx => by simp at hx; subst hx; rfl) (by rw [HLE.out]; unfold maxLen; omega) (by rw [HLE.out]; omega) (by simp; omega) ?_; intro v' w3 hown' hgrow3 hnil3; obtain ⟨ta, tn, tc, rfl⟩ := ownsRow_slice hown'; obtain ⟨x5, x6⟩ := S2.out.mid x0 hgrow3; have G3 := hide' hgrow3; have O3 := hide' hown'; clear hgrow3 hown' hnil3)
          refine ⟨⟨x + 1, .slice ta tn tc, by go_num, by omega, ?_⟩, by simp [intOf]; omega⟩
          have hp := S2.out.push x0 G3.out O3.out
          rw [X0.out] at hp
          rw [← Nat.add_assoc, refPre_step ⟨W, H, xs⟩ 1 x y hx' hy' (y * H + x) rfl]
          exact hp
        · have X := hide' (show x = H by omega)
          go_wp2
          refine ⟨⟨y + 1, .slice sa sn sc, by go_num, by omega, ?_⟩, by simp [intOf]; omega⟩
          have := S.out
          rw [X.out] at this
          rw [Nat.add_mul, Nat.one_mul]
          exact this
    · have Y := hide' (show y = W by omega)
      obtain ⟨sa, sn, sc, rfl⟩ := ownsRow_slice R.out.own
      obtain ⟨q0, q1, q2, -⟩ := R.out.q
      obtain ⟨r0, r1, r2, rf⟩ := R.out.res
      have f0 := rf 0
      have f1 := rf 1
      have f2 := rf 2
      clear rf c1
      go_wp2
      refine bodyPost_ret (v := .agg #[.int .i64 (H : Int), .int .i64 (W : Int), .slice sa sn sc]) (by simp [results, Tryd.results38, go_sem, r0, r1, r2]) rfl ?_
      refine ⟨_, rfl, ?_, ?_, ((R.out.below.setCell (by simp) _).setCell (by simp) _).setCell (by simp) _⟩
      · have h := R.out.own
        rw [Y.out, refPre_full ⟨W, H, xs⟩ 1 (show W * H = H * W from Nat.mul_comm _ _)] at h
        exact ownsRow_tab (ownsRow_setCell_below (ownsRow_setCell_below (ownsRow_setCell_below h (a := ⟨w.heap.size + 1, 0, none⟩) (by simp) _) (a := ⟨w.heap.size + 1, 1, none⟩) (by simp) _) (a := ⟨w.heap.size + 1, 2, none⟩) (by simp) _)
      · exact fresh_own R.out.own (by omega)

set_option maxRecDepth 100000 in
set_option maxHeartbeats 1600000 in
theorem refTurn_2 (W H : Nat) (xs : List Int) (a : Option Addr) (n c : Nat) (w : World) (hP : ArgP w xs a n c) (lW : W ≤ 100) (lH : H ≤ 100) (hn : n = W * H) :
    Calls Tryd.prog 38 #[.agg #[.int .i64 (W : Int), .int .i64 (H : Int), .slice a n c], .int .i64 2] w (TurnPost ⟨W, H, xs⟩ 2 w) := by
  have hN4 : n ≤ 10000 := by rw [hn]; exact Nat.mul_le_mul lW lH
  have HP := hide' hP
  have HN := hide' hn
  have HM := hide' (show n = W * H by rw [hn])
  have S0 := hide' (RT.start w W H W H a n c 51 51 51)
  obtain ⟨i0, hi, hz0, hz1, hz2⟩ := info_parts info_int
  clear hP hn
  go_enter Tryd.func38, Tryd.ntmps38
  go_wp2
  go_loopw [6] (fun yv wr => ∃ (y : Nat) (v : Value), yv = .int .i64 (y : Int) ∧ y ≤ H ∧ RT w wr W H W H a n c v (refPre ⟨W, H, xs⟩ 2 (y * W))) (fun yv _ => H - (intOf yv).toNat)
  case atStart => exact ⟨0, .slice none 0 0, rfl, by omega, by rw [Nat.zero_mul]; exact S0.out⟩
  case round =>
    obtain ⟨y, v, rfl, hy, rt⟩ := hrel
    have R := hide' rt
    have c1 := rt.q.c1
    clear rt S0
    by_cases d : (y : Int) < (H : Int)
    · go_wp2
      go_loopw [7] (fun xv wx => ∃ (x : Nat) (v : Value), xv = .int .i64 (x : Int) ∧ x ≤ W ∧ RT w wx W H W H a n c v (refPre ⟨W, H, xs⟩ 2 (y * W + x))) (fun xv _ => W - (intOf xv).toNat)
      case atStart => exact ⟨0, v, rfl, by omega, R.out⟩
      case round =>
        obtain ⟨x, v, rfl, hx, rt⟩ := hrel
        have S := hide' rt
        have d0 := rt.q.c0
        have b0 := rt.box.c0
        have b1 := rt.box.c1
        have b2 := rt.box.c2
        have hsz := rt.sz
        have ho := rt.own
        obtain ⟨sa, sn, sc, rfl⟩ := ownsRow_slice ho
        clear rt ho R c1
        by_cases e : (x : Int) < (W : Int)
        · have hx' : x < W := by omega
          have hy' : y < H := by omega
          go_wp2_with fail
          refine (At_in W H xs a n c (W - 1 - x) (H - 1 - y) _ _ wr (HP.out.below S.out.below) lW lH HN.out (by omega) (by omega) (by omega) (by omega)).mono ?_
          rintro e' w2 ⟨rfl, b2'⟩
          have S2 := hide' (S.out.next b2')
          have d2 := S2.out.q.c2
          have z2 := S2.out.sz
          have OW := hide' S2.out.own
          obtain ⟨x0, hx0⟩ : ∃ x0, x0 = atP W xs (W - 1 - x) (H - 1 - y) := ⟨_, rfl⟩
          rw [← hx0]
          have X0 := hide' hx0
          have hlen : y * W + x < 10000 := by have := mk_lt hx' hy'; rw [← HM.out] at this; omega
          have HLE := hide' (refPre_length ⟨W, H, xs⟩ 2 (y * W + x))
          clear hx0 b2' d0 b0 b1 b2
          go_wp2_with (at_builtin; refine wpList_append_own _ rfl _ _ 22 rfl (w.heap.size + 3) 3 i0 (.int .i64 0) 1 8 Tryd.underlying22 hi hz0 hz1 hz2 rfl (by decide) (.slice sa sn sc) _ _ rfl (OW.out.alloc _) ⟨w2.heap.size, 0, none⟩ 1 1 [.int .i64 x0] rfl rfl (cell_one_new _ _ _) (fun x hx => by simp at hx; subst hx; rfl) (by rw [HLE.out]; unfold maxLen; omega) (by rw [HLE.out]; omega) (by simp; omega) ?_; intro v' w3 hown' hgrow3 hnil3; obtain ⟨ta, tn, tc, rfl⟩ := ownsRow_slice hown'; obtain ⟨x5, x6⟩ := S2.out.mid x0 hgrow3; have G3 := hide' hgrow3; have O3 := hide' hown'; clear hgrow3 hown' hnil3)
          refine ⟨⟨x + 1, .slice ta tn tc, by go_num, by omega, ?_⟩, by simp [intOf]; omega⟩
          have hp := S2.out.push x0 G3.out O3.out
          rw [X0.out] at hp
          rw [← Nat.add_assoc, refPre_step ⟨W, H, xs⟩ 2 x y hx' hy' (y * W + x) rfl]
          exact hp
        · have X := hide' (show x = W by omega)
          go_wp2
          refine ⟨⟨y + 1, .slice sa sn sc, by go_num, by omega, ?_⟩, by simp [intOf]; omega⟩
          have := S.out
          rw [X.out] at this
          rw [Nat.add_mul, Nat.one_mul]
          exact this
    · have Y := hide' (show y = H by omega)
      obtain ⟨sa, sn, sc, rfl⟩ := ownsRow_slice R.out.own
      obtain ⟨q0, q1, q2, -⟩ := R.out.q
      obtain ⟨r0, r1, r2, rf⟩ := R.out.res
      have f0 := rf 0
      have f1 := rf 1
      have f2 := rf 2
      clear rf c1
      go_wp2
      refine bodyPost_ret (v := .agg #[.int .i64 (W : Int), .int .i64 (H : Int), .slice sa sn sc]) (by simp [results, Tryd.results38, go_sem, r0, r1, r2]) rfl ?_
      refine ⟨_, rfl, ?_, ?_, ((R.out.below.setCell (by simp) _).setCell (by simp) _).setCell (by simp) _⟩
      · have h := R.out.own
        rw [Y.out, refPre_full ⟨W, H, xs⟩ 2 (show H * W = W * H from Nat.mul_comm _ _)] at h
        exact ownsRow_tab (ownsRow_setCell_below (ownsRow_setCell_below (ownsRow_setCell_below h (a := ⟨w.heap.size + 1, 0, none⟩) (by simp) _) (a := ⟨w.heap.size + 1, 1, none⟩) (by simp) _) (a := ⟨w.heap.size + 1, 2, none⟩) (by simp) _)
      · exact fresh_own R.out.own (by omega)

set_option maxRecDepth 100000 in
set_option maxHeartbeats 1600000 in
theorem refTurn_3 (W H : Nat) (xs : List Int) (a : Option Addr) (n c : Nat) (w : World) (hP : ArgP w xs a n c) (lW : W ≤ 100) (lH : H ≤ 100) (hn : n = W * H) :
    Calls Tryd.prog 38 #[.agg #[.int .i64 (W : Int), .int .i64 (H : Int), .slice a n c], .int .i64 3] w (TurnPost ⟨W, H, xs⟩ 3 w) := by
  have hN4 : n ≤ 10000 := by rw [hn]; exact Nat.mul_le_mul lW lH
  have HP := hide' hP
  have HN := hide' hn
  have HM := hide' (show n = H * W by rw [hn, Nat.mul_comm])
  have S0 := hide' (RT.start w W H H W a n c 51 51 51)
  obtain ⟨i0, hi, hz0, hz1, hz2⟩ := info_parts info_int
  clear hP hn
  go_enter Tryd.func38, Tryd.ntmps38
  go_wp2
  go_loopw [6] (fun yv wr => ∃ (y : Nat) (v : Value), yv = .int .i64 (y : Int) ∧ y ≤ W ∧ RT w wr W H H W a n c v (refPre ⟨W, H, xs⟩ 3 (y * H))) (fun yv _ => W - (intOf yv).toNat)
  case atStart => exact ⟨0, .slice none 0 0, rfl, by omega, by rw [Nat.zero_mul]; exact S0.out⟩
  case round =>
    obtain ⟨y, v, rfl, hy, rt⟩ := hrel
    have R := hide' rt
    have c1 := rt.q.c1
    clear rt S0
    by_cases d : (y : Int) < (W : Int)
    · go_wp2
      go_loopw [7] (fun xv wx => ∃ (x : Nat) (v : Value), xv = .int .i64 (x : Int) ∧ x ≤ H ∧ RT w wx W H H W a n c v (refPre ⟨W, H, xs⟩ 3 (y * H + x))) (fun xv _ => H - (intOf xv).toNat)
      case atStart => exact ⟨0, v, rfl, by omega, R.out⟩
      case round =>
        obtain ⟨x, v, rfl, hx, rt⟩ := hrel
        have S := hide' rt
        have d0 := rt.q.c0
        have b0 := rt.box.c0
        have b1 := rt.box.c1
        have b2 := rt.box.c2
        have hsz := rt.sz
        have ho := rt.own
        obtain ⟨sa, sn, sc, rfl⟩ := ownsRow_slice ho
        clear rt ho R c1
        by_cases e : (x : Int) < (H : Int)
        · have hx' : x < H := by omega
          have hy' : y < W := by omega
          go_wp2_with fail
          refine (At_in W H xs a n c (W - 1 - y) x _ _ wr (HP.out.below S.out.below) lW lH HN.out (by omega) (by omega) (by omega) (by omega)).mono ?_
          rintro e' w2 ⟨rfl, b2'⟩
          have S2 := hide' (S.out.next b2')
          have d2 := S2.out.q.c2
          have z2 := S2.out.sz
          have OW := hide' S2.out.own
          obtain ⟨x0, hx0⟩ : ∃ x0, x0 = atP W xs (W - 1 - y) x := ⟨_, rfl⟩
          rw [← hx0]
          have X0 := hide' hx0
          have hlen : y * H + x < 10000 := by have := mk_lt hx' hy'; rw [← HM.out] at this; omega
          have HLE := hide' (refPre_length ⟨W, H, xs⟩ 3 (y * H + x))
          clear hx0 b2' d0 b0 b1 b2
          go_wp2_with (at_builtin; refine wpList_append_own _ rfl _ _ 22 rfl (w.heap.size + 3) 3 i0 (.int .i64 0) 1 8 Tryd.underlying22 hi hz0 hz1 hz2 rfl (by decide) (.slice sa sn sc) _ _ rfl (OW.out.alloc _) ⟨w2.heap.size, 0, none⟩ 1 1 [.int .i64 x0] rfl rfl (cell_one_new _ _ _) (fun x hx => by simp at hx; subst hx; rfl) (by rw [HLE.out]; unfold maxLen; omega) (by rw [HLE.out]; omega) (by simp; omega) ?_; intro v' w3 hown' hgrow3 hnil3; obtain ⟨ta, tn, tc, rfl⟩ := ownsRow_slice hown'; obtain ⟨x5, x6⟩ := S2.out.mid x0 hgrow3; have G3 := hide' hgrow3; have O3 := hide' hown'; clear hgrow3 hown' hnil3)
          refine ⟨⟨x + 1, .slice ta tn tc, by go_num, by omega, ?_⟩, by simp [intOf]; omega⟩
          have hp := S2.out.push x0 G3.out O3.out
          rw [X0.out] at hp
          rw [← Nat.add_assoc, refPre_step ⟨W, H, xs⟩ 3 x y hx' hy' (y * H + x) rfl]
          exact hp
        · have X := hide' (show x = H by omega)
          go_wp2
          refine ⟨⟨y + 1, .slice sa sn sc, by go_num, by omega, ?_⟩, by simp [intOf]; omega⟩
          have := S.out
          rw [X.out] at this
          rw [Nat.add_mul, Nat.one_mul]
          exact this
    · have Y := hide' (show y = W by omega)
      obtain ⟨sa, sn, sc, rfl⟩ := ownsRow_slice R.out.own
      obtain ⟨q0, q1, q2, -⟩ := R.out.q
      obtain ⟨r0, r1, r2, rf⟩ := R.out.res
      have f0 := rf 0
      have f1 := rf 1
      have f2 := rf 2
      clear rf c1
      go_wp2
      refine bodyPost_ret (v := .agg #[.int .i64 (H : Int), .int .i64 (W : Int), .slice sa sn sc]) (by simp [results, Tryd.results38, go_sem, r0, r1, r2]) rfl ?_
      refine ⟨_, rfl, ?_, ?_, ((R.out.below.setCell (by simp) _).setCell (by simp) _).setCell (by simp) _⟩
      · have h := R.out.own
        rw [Y.out, refPre_full ⟨W, H, xs⟩ 3 (show W * H = H * W from Nat.mul_comm _ _)] at h
        exact ownsRow_tab (ownsRow_setCell_below (ownsRow_setCell_below (ownsRow_setCell_below h (a := ⟨w.heap.size + 1, 0, none⟩) (by simp) _) (a := ⟨w.heap.size + 1, 1, none⟩) (by simp) _) (a := ⟨w.heap.size + 1, 2, none⟩) (by simp) _)
      · exact fresh_own R.out.own (by omega)
end Go.Proofs.YtjngjnkecnnmeaaDoor

namespace Go.Proofs.YtjngjnkecnnmeaaDoor
open Go.RowKit
set_option linter.unusedVariables false

set_option maxRecDepth 100000 in
set_option maxHeartbeats 1600000 in
theorem refTurn_4 (W H : Nat) (xs : List Int) (a : Option Addr) (n c : Nat) (w : World) (hP : ArgP w xs a n c) (lW : W ≤ 100) (lH : H ≤ 100) (hn : n = W * H) :
    Calls Tryd.prog 38 #[.agg #[.int .i64 (W : Int), .int .i64 (H : Int), .slice a n c], .int .i64 4] w (TurnPost ⟨W, H, xs⟩ 4 w) := by
  have hN4 : n ≤ 10000 := by rw [hn]; exact Nat.mul_le_mul lW lH
  have HP := hide' hP
  have HN := hide' hn
  have HM := hide' (show n = W * H by rw [hn])
  have S0 := hide' (RT.start w W H W H a n c 51 51 51)
  obtain ⟨i0, hi, hz0, hz1, hz2⟩ := info_parts info_int
  clear hP hn
  go_enter Tryd.func38, Tryd.ntmps38
  go_wp2
  go_loopw [6] (fun yv wr => ∃ (y : Nat) (v : Value), yv = .int .i64 (y : Int) ∧ y ≤ H ∧ RT w wr W H W H a n c v (refPre ⟨W, H, xs⟩ 4 (y * W))) (fun yv _ => H - (intOf yv).toNat)
  case atStart => exact ⟨0, .slice none 0 0, rfl, by omega, by rw [Nat.zero_mul]; exact S0.out⟩
  case round =>
    obtain ⟨y, v, rfl, hy, rt⟩ := hrel
    have R := hide' rt
    have c1 := rt.q.c1
    clear rt S0
    by_cases d : (y : Int) < (H : Int)
    · go_wp2
      go_loopw [7] (fun xv wx => ∃ (x : Nat) (v : Value), xv = .int .i64 (x : Int) ∧ x ≤ W ∧ RT w wx W H W H a n c v (refPre ⟨W, H, xs⟩ 4 (y * W + x))) (fun xv _ => W - (intOf xv).toNat)
      case atStart => exact ⟨0, v, rfl, by omega, R.out⟩
      case round =>
        obtain ⟨x, v, rfl, hx, rt⟩ := hrel
        have S := hide' rt
        have d0 := rt.q.c0
        have b0 := rt.box.c0
        have b1 := rt.box.c1
        have b2 := rt.box.c2
        have hsz := rt.sz
        have ho := rt.own
        obtain ⟨sa, sn, sc, rfl⟩ := ownsRow_slice ho
        clear rt ho R c1
        by_cases e : (x : Int) < (W : Int)
        · have hx' : x < W := by omega
          have hy' : y < H := by omega
          go_wp2_with fail
          refine (At_in W H xs a n c (W - 1 - x) y _ _ wr (HP.out.below S.out.below) lW lH HN.out (by omega) (by omega) (by omega) (by omega)).mono ?_
          rintro e' w2 ⟨rfl, b2'⟩
          have S2 := hide' (S.out.next b2')
          have d2 := S2.out.q.c2
          have z2 := S2.out.sz
          have OW := hide' S2.out.own
          obtain ⟨x0, hx0⟩ : ∃ x0, x0 = atP W xs (W - 1 - x) y := ⟨_, rfl⟩
          rw [← hx0]
          have X0 := hide' hx0
          have hlen : y * W + x < 10000 := by have := mk_lt hx' hy'; rw [← HM.out] at this; omega
          have HLE := hide' (refPre_length ⟨W, H, xs⟩ 4 (y * W + x))
          clear hx0 b2' d0 b0 b1 b2
          go_wp2_with (at_builtin; refine wpList_append_own _ rfl _ _ 22 rfl (w.heap.size + 3) 3 i0 (.int .i64 0) 1 8 Tryd.underlying22 hi hz0 hz1 hz2 rfl (by decide) (.slice sa sn sc) _ _ rfl (OW.out.alloc _) ⟨w2.heap.size, 0, none⟩ 1 1 [.int .i64 x0] rfl rfl (cell_one_new _ _ _) (fun x hx => by simp at hx; subst hx; rfl) (by rw [HLE.out]; unfold maxLen; omega) (by rw [HLE.out]; omega) (by simp; omega) ?_; intro v' w3 hown' hgrow3 hnil3; obtain ⟨ta, tn, tc, rfl⟩ := ownsRow_slice hown'; obtain ⟨x5, x6⟩ := S2.out.mid x0 hgrow3; have G3 := hide' hgrow3; have O3 := hide' hown'; clear hgrow3 hown' hnil3)
          refine ⟨⟨x + 1, .slice ta tn tc, by go_num, by omega, ?_⟩, by simp [intOf]; omega⟩
          have hp := S2.out.push x0 G3.out O3.out
          rw [X0.out] at hp
          rw [← Nat.add_assoc, refPre_step ⟨W, H, xs⟩ 4 x y hx' hy' (y * W + x) rfl]
          exact hp
        · have X := hide' (show x = W by omega)
          go_wp2
          refine ⟨⟨y + 1, .slice sa sn sc, by go_num, by omega, ?_⟩, by simp [intOf]; omega⟩
          have := S.out
          rw [X.out] at this
          rw [Nat.add_mul, Nat.one_mul]
          exact this
    · have Y := hide' (show y = H by omega)
      obtain ⟨sa, sn, sc, rfl⟩ := ownsRow_slice R.out.own
      obtain ⟨q0, q1, q2, -⟩ := R.out.q
      obtain ⟨r0, r1, r2, rf⟩ := R.out.res
      have f0 := rf 0
      have f1 := rf 1
      have f2 := rf 2
      clear rf c1
      go_wp2
      refine bodyPost_ret (v := .agg #[.int .i64 (W : Int), .int .i64 (H : Int), .slice sa sn sc]) (by simp [results, Tryd.results38, go_sem, r0, r1, r2]) rfl ?_
      refine ⟨_, rfl, ?_, ?_, ((R.out.below.setCell (by simp) _).setCell (by simp) _).setCell (by simp) _⟩
      · have h := R.out.own
        rw [Y.out, refPre_full ⟨W, H, xs⟩ 4 (show H * W = W * H from Nat.mul_comm _ _)] at h
        exact ownsRow_tab (ownsRow_setCell_below (ownsRow_setCell_below (ownsRow_setCell_below h (a := ⟨w.heap.size + 1, 0, none⟩) (by simp) _) (a := ⟨w.heap.size + 1, 1, none⟩) (by simp) _) (a := ⟨w.heap.size + 1, 2, none⟩) (by simp) _)
      · exact fresh_own R.out.own (by omega)

set_option maxRecDepth 100000 in
set_option maxHeartbeats 1600000 in
theorem refTurn_5 (W H : Nat) (xs : List Int) (a : Option Addr) (n c : Nat) (w : World) (hP : ArgP w xs a n c) (lW : W ≤ 100) (lH : H ≤ 100) (hn : n = W * H) :
    Calls Tryd.prog 38 #[.agg #[.int .i64 (W : Int), .int .i64 (H : Int), .slice a n c], .int .i64 5] w (TurnPost ⟨W, H, xs⟩ 5 w) := by
  have hN4 : n ≤ 10000 := by rw [hn]; exact Nat.mul_le_mul lW lH
  have HP := hide' hP
  have HN := hide' hn
  have HM := hide' (show n = H * W by rw [hn, Nat.mul_comm])
  have S0 := hide' (RT.start w W H H W a n c 51 51 51)
  obtain ⟨i0, hi, hz0, hz1, hz2⟩ := info_parts info_int
  clear hP hn
  go_enter Tryd.func38, Tryd.ntmps38
  go_wp2
  go_loopw [6] (fun yv wr => ∃ (y : Nat) (v : Value), yv = .int .i64 (y : Int) ∧ y ≤ W ∧ RT w wr W H H W a n c v (refPre ⟨W, H, xs⟩ 5 (y * H))) (fun yv _ => W - (intOf yv).toNat)
  case atStart => exact ⟨0, .slice none 0 0, rfl, by omega, by rw [Nat.zero_mul]; exact S0.out⟩
  case round =>
    obtain ⟨y, v, rfl, hy, rt⟩ := hrel
    have R := hide' rt
    have c1 := rt.q.c1
    clear rt S0
    by_cases d : (y : Int) < (W : Int)
    · go_wp2
      go_loopw [7] (fun xv wx => ∃ (x : Nat) (v : Value), xv = .int .i64 (x : Int) ∧ x ≤ H ∧ RT w wx W H H W a n c v (refPre ⟨W, H, xs⟩ 5 (y * H + x))) (fun xv _ => H - (intOf xv).toNat)
      case atStart => exact ⟨0, v, rfl, by omega, R.out⟩
      case round =>
        obtain ⟨x, v, rfl, hx, rt⟩ := hrel
        have S := hide' rt
        have d0 := rt.q.c0
        have b0 := rt.box.c0
        have b1 := rt.box.c1
        have b2 := rt.box.c2
        have hsz := rt.sz
        have ho := rt.own
        obtain ⟨sa, sn, sc, rfl⟩ := ownsRow_slice ho
        clear rt ho R c1
        by_cases e : (x : Int) < (H : Int)
        · have hx' : x < H := by omega
          have hy' : y < W := by omega
          go_wp2_with fail
          refine (At_in W H xs a n c (W - 1 - y) (H - 1 - x) _ _ wr (HP.out.below S.out.below) lW lH HN.out (by omega) (by omega) (by omega) (by omega)).mono ?_
          rintro e' w2 ⟨rfl, b2'⟩
          have S2 := hide' (S.out.next b2')
          have d2 := S2.out.q.c2
          have z2 := S2.out.sz
          have OW := hide' S2.out.own
          obtain ⟨x0, hx0⟩ : ∃ x0, x0 = atP W xs (W - 1 - y) (H - 1 - x) := ⟨_, rfl⟩
          rw [← hx0]
          have X0 := hide' hx0
          have hlen : y * H + x < 10000 := by have := mk_lt hx' hy'; rw [← HM.out] at this; omega
          have HLE := hide' (refPre_length ⟨W, H, xs⟩ 5 (y * H + x))
          clear hx0 b2' d0 b0 b1 b2
          go_wp2_with (at_builtin; refine wpList_append_own _ rfl _ _ 22 rfl (w.heap.size + 3) 3 i0 (.int .i64 0) 1 8 Tryd.underlying22 hi hz0 hz1 hz2 rfl (by decide) (.slice sa sn sc) _ _ rfl (OW.out.alloc _) ⟨w2.heap.size, 0, none⟩ 1 1 [.int .i64 x0] rfl rfl (cell_one_new _ _ _) (fun x hx => by simp at hx; subst hx; rfl) (by rw [HLE.out]; unfold maxLen; omega) (by rw [HLE.out]; omega) (by simp; omega) ?_; intro v' w3 hown' hgrow3 hnil3; obtain ⟨ta, tn, tc, rfl⟩ := ownsRow_slice hown'; obtain ⟨x5, x6⟩ := S2.out.mid x0 hgrow3; have G3 := hide' hgrow3; have O3 := hide' hown'; clear hgrow3 hown' hnil3)
          refine ⟨⟨x + 1, .slice ta tn tc, by go_num, by omega, ?_⟩, by simp [intOf]; omega⟩
          have hp := S2.out.push x0 G3.out O3.out
          rw [X0.out] at hp
          rw [← Nat.add_assoc, refPre_step ⟨W, H, xs⟩ 5 x y hx' hy' (y * H + x) rfl]
          exact hp
        · have X := hide' (show x = H by omega)
          go_wp2
          refine ⟨⟨y + 1, .slice sa sn sc, by go_num, by omega, ?_⟩, by simp [intOf]; omega⟩
          have := S.out
          rw [X.out] at this
          rw [Nat.add_mul, Nat.one_mul]
          exact this
    · have Y := hide' (show y = W by omega)
      obtain ⟨sa, sn, sc, rfl⟩ := ownsRow_slice R.out.own
      obtain ⟨q0, q1, q2, -⟩ := R.out.q
      obtain ⟨r0, r1, r2, rf⟩ := R.out.res
      have f0 := rf 0
      have f1 := rf 1
      have f2 := rf 2
      clear rf c1
      go_wp2
      refine bodyPost_ret (v := .agg #[.int .i64 (H : Int), .int .i64 (W : Int), .slice sa sn sc]) (by simp [results, Tryd.results38, go_sem, r0, r1, r2]) rfl ?_
      refine ⟨_, rfl, ?_, ?_, ((R.out.below.setCell (by simp) _).setCell (by simp) _).setCell (by simp) _⟩
      · have h := R.out.own
        rw [Y.out, refPre_full ⟨W, H, xs⟩ 5 (show W * H = H * W from Nat.mul_comm _ _)] at h
        exact ownsRow_tab (ownsRow_setCell_below (ownsRow_setCell_below (ownsRow_setCell_below h (a := ⟨w.heap.size + 1, 0, none⟩) (by simp) _) (a := ⟨w.heap.size + 1, 1, none⟩) (by simp) _) (a := ⟨w.heap.size + 1, 2, none⟩) (by simp) _)
      · exact fresh_own R.out.own (by omega)

set_option maxRecDepth 100000 in
set_option maxHeartbeats 1600000 in
theorem refTurn_6 (W H : Nat) (xs : List Int) (a : Option Addr) (n c : Nat) (w : World) (hP : ArgP w xs a n c) (lW : W ≤ 100) (lH : H ≤ 100) (hn : n = W * H) :
    Calls Tryd.prog 38 #[.agg #[.int .i64 (W : Int), .int .i64 (H : Int), .slice a n c], .int .i64 6] w (TurnPost ⟨W, H, xs⟩ 6 w) := by
  have hN4 : n ≤ 10000 := by rw [hn]; exact Nat.mul_le_mul lW lH
  have HP := hide' hP
  have HN := hide' hn
  have HM := hide' (show n = W * H by rw [hn])
  have S0 := hide' (RT.start w W H W H a n c 51 51 51)
  obtain ⟨i0, hi, hz0, hz1, hz2⟩ := info_parts info_int
  clear hP hn
  go_enter Tryd.func38, Tryd.ntmps38
  go_wp2
  go_loopw [6] (fun yv wr => ∃ (y : Nat) (v : Value), yv = .int .i64 (y : Int) ∧ y ≤ H ∧ RT w wr W H W H a n c v (refPre ⟨W, H, xs⟩ 6 (y * W))) (fun yv _ => H - (intOf yv).toNat)
  case atStart => exact ⟨0, .slice none 0 0, rfl, by omega, by rw [Nat.zero_mul]; exact S0.out⟩
  case round =>
    obtain ⟨y, v, rfl, hy, rt⟩ := hrel
    have R := hide' rt
    have c1 := rt.q.c1
    clear rt S0
    by_cases d : (y : Int) < (H : Int)
    · go_wp2
      go_loopw [7] (fun xv wx => ∃ (x : Nat) (v : Value), xv = .int .i64 (x : Int) ∧ x ≤ W ∧ RT w wx W H W H a n c v (refPre ⟨W, H, xs⟩ 6 (y * W + x))) (fun xv _ => W - (intOf xv).toNat)
      case atStart => exact ⟨0, v, rfl, by omega, R.out⟩
      case round =>
        obtain ⟨x, v, rfl, hx, rt⟩ := hrel
        have S := hide' rt
        have d0 := rt.q.c0
        have b0 := rt.box.c0
        have b1 := rt.box.c1
        have b2 := rt.box.c2
        have hsz := rt.sz
        have ho := rt.own
        obtain ⟨sa, sn, sc, rfl⟩ := ownsRow_slice ho
        clear rt ho R c1
        by_cases e : (x : Int) < (W : Int)
        · have hx' : x < W := by omega
          have hy' : y < H := by omega
          go_wp2_with fail
          refine (At_in W H xs a n c (W - 1 - (W - 1 - x)) (H - 1 - y) _ _ wr (HP.out.below S.out.below) lW lH HN.out (by omega) (by omega) (by omega) (by omega)).mono ?_
          rintro e' w2 ⟨rfl, b2'⟩
          have S2 := hide' (S.out.next b2')
          have d2 := S2.out.q.c2
          have z2 := S2.out.sz
          have OW := hide' S2.out.own
          obtain ⟨x0, hx0⟩ : ∃ x0, x0 = atP W xs (W - 1 - (W - 1 - x)) (H - 1 - y) := ⟨_, rfl⟩
          rw [← hx0]
          have X0 := hide' hx0
          have hlen : y * W + x < 10000 := by have := mk_lt hx' hy'; rw [← HM.out] at this; omega
          have HLE := hide' (refPre_length ⟨W, H, xs⟩ 6 (y * W + x))
          clear hx0 b2' d0 b0 b1 b2
          go_wp2_with (at_builtin; refine wpList_append_own _ rfl _ _ 22 rfl (w.heap.size + 3) 3 i0 (.int .i64 0) 1 8 Tryd.underlying22 hi hz0 hz1 hz2 rfl (by decide) (.slice sa sn sc) _ _ rfl (OW.out.alloc _) ⟨w2.heap.size, 0, none⟩ 1 1 [.int .i64 x0] rfl rfl (cell_one_new _ _ _) (fun x hx => by simp at hx; subst hx; rfl) (by rw [HLE.out]; unfold maxLen; omega) (by rw [HLE.out]; omega) (by simp; omega) ?_; intro v' w3 hown' hgrow3 hnil3; obtain ⟨ta, tn, tc, rfl⟩ := ownsRow_slice hown'; obtain ⟨x5, x6⟩ := S2.out.mid x0 hgrow3; have G3 := hide' hgrow3; have O3 := hide' hown'; clear hgrow3 hown' hnil3)
          refine ⟨⟨x + 1, .slice ta tn tc, by go_num, by omega, ?_⟩, by simp [intOf]; omega⟩
          have hp := S2.out.push x0 G3.out O3.out
          rw [X0.out] at hp
          rw [← Nat.add_assoc, refPre_step ⟨W, H, xs⟩ 6 x y hx' hy' (y * W + x) rfl]
          exact hp
        · have X := hide' (show x = W by omega)
          go_wp2
          refine ⟨⟨y + 1, .slice sa sn sc, by go_num, by omega, ?_⟩, by simp [intOf]; omega⟩
          have := S.out
          rw [X.out] at this
          rw [Nat.add_mul, Nat.one_mul]
          exact this
    · have Y := hide' (show y = H by omega)
      obtain ⟨sa, sn, sc, rfl⟩ := ownsRow_slice R.out.own
      obtain ⟨q0, q1, q2, -⟩ := R.out.q
      obtain ⟨r0, r1, r2, rf⟩ := R.out.res
      have f0 := rf 0
      have f1 := rf 1
      have f2 := rf 2
      clear rf c1
      go_wp2
      refine bodyPost_ret (v := .agg #[.int .i64 (W : Int), .int .i64 (H : Int), .slice sa sn sc]) (by simp [results, Tryd.results38, go_sem, r0, r1, r2]) rfl ?_
      refine ⟨_, rfl, ?_, ?_, ((R.out.below.setCell (by simp) _).setCell (by simp) _).setCell (by simp) _⟩
      · have h := R.out.own
        rw [Y.out, refPre_full ⟨W, H, xs⟩ 6 (show H * W = W * H from Nat.mul_comm _ _)] at h
        exact ownsRow_tab (ownsRow_setCell_below (ownsRow_setCell_below (ownsRow_setCell_below h (a := ⟨w.heap.size + 1, 0, none⟩) (by simp) _) (a := ⟨w.heap.size + 1, 1, none⟩) (by simp) _) (a := ⟨w.heap.size + 1, 2, none⟩) (by simp) _)
      · exact fresh_own R.out.own (by omega)

set_option maxRecDepth 100000 in
set_option maxHeartbeats 1600000 in
theorem refTurn_7 (W H : Nat) (xs : List Int) (a : Option Addr) (n c : Nat) (w : World) (hP : ArgP w xs a n c) (lW : W ≤ 100) (lH : H ≤ 100) (hn : n = W * H) :
    Calls Tryd.prog 38 #[.agg #[.int .i64 (W : Int), .int .i64 (H : Int), .slice a n c], .int .i64 7] w (TurnPost ⟨W, H, xs⟩ 7 w) := by
  have hN4 : n ≤ 10000 := by rw [hn]; exact Nat.mul_le_mul lW lH
  have HP := hide' hP
  have HN := hide' hn
  have HM := hide' (show n = H * W by rw [hn, Nat.mul_comm])
  have S0 := hide' (RT.start w W H H W a n c 51 51 51)
  obtain ⟨i0, hi, hz0, hz1, hz2⟩ := info_parts info_int
  clear hP hn
  go_enter Tryd.func38, Tryd.ntmps38
  go_wp2
  go_loopw [6] (fun yv wr => ∃ (y : Nat) (v : Value), yv = .int .i64 (y : Int) ∧ y ≤ W ∧ RT w wr W H H W a n c v (refPre ⟨W, H, xs⟩ 7 (y * H))) (fun yv _ => W - (intOf yv).toNat)
  case atStart => exact ⟨0, .slice none 0 0, rfl, by omega, by rw [Nat.zero_mul]; exact S0.out⟩
  case round =>
    obtain ⟨y, v, rfl, hy, rt⟩ := hrel
    have R := hide' rt
    have c1 := rt.q.c1
    clear rt S0
    by_cases d : (y : Int) < (W : Int)
    · go_wp2
      go_loopw [7] (fun xv wx => ∃ (x : Nat) (v : Value), xv = .int .i64 (x : Int) ∧ x ≤ H ∧ RT w wx W H H W a n c v (refPre ⟨W, H, xs⟩ 7 (y * H + x))) (fun xv _ => H - (intOf xv).toNat)
      case atStart => exact ⟨0, v, rfl, by omega, R.out⟩
      case round =>
        obtain ⟨x, v, rfl, hx, rt⟩ := hrel
        have S := hide' rt
        have d0 := rt.q.c0
        have b0 := rt.box.c0
        have b1 := rt.box.c1
        have b2 := rt.box.c2
        have hsz := rt.sz
        have ho := rt.own
        obtain ⟨sa, sn, sc, rfl⟩ := ownsRow_slice ho
        clear rt ho R c1
        by_cases e : (x : Int) < (H : Int)
        · have hx' : x < H := by omega
          have hy' : y < W := by omega
          go_wp2_with fail
          refine (At_in W H xs a n c (W - 1 - (W - 1 - y)) x _ _ wr (HP.out.below S.out.below) lW lH HN.out (by omega) (by omega) (by omega) (by omega)).mono ?_
          rintro e' w2 ⟨rfl, b2'⟩
          have S2 := hide' (S.out.next b2')
          have d2 := S2.out.q.c2
          have z2 := S2.out.sz
          have OW := hide' S2.out.own
          obtain ⟨x0, hx0⟩ : ∃ x0, x0 = atP W xs (W - 1 - (W - 1 - y)) x := ⟨_, rfl⟩
          rw [← hx0]
          have X0 := hide' hx0
          have hlen : y * H + x < 10000 := by have := mk_lt hx' hy'; rw [← HM.out] at this; omega
          have HLE := hide' (refPre_length ⟨W, H, xs⟩ 7 (y * H + x))
          clear hx0 b2' d0 b0 b1 b2
          go_wp2_with (at_builtin; refine wpList_append_own _ rfl _ _ 22 rfl (w.heap.size + 3) 3 i0 (.int .i64 0) 1 8 Tryd.underlying22 hi hz0 hz1 hz2 rfl (by decide) (.slice sa sn sc) _ _ rfl (OW.out.alloc _) ⟨w2.heap.size, 0, none⟩ 1 1 [.int .i64 x0] rfl rfl (cell_one_new _ _ _) (fun x hx => by simp at hx; subst hx; rfl) (by rw [HLE.out]; unfold maxLen; omega) (by rw [HLE.out]; omega) (by simp; omega) ?_; intro v' w3 hown' hgrow3 hnil3; obtain ⟨ta, tn, tc, rfl⟩ := ownsRow_slice hown'; obtain ⟨x5, x6⟩ := S2.out.mid x0 hgrow3; have G3 := hide' hgrow3; have O3 := hide' hown'; clear hgrow3 hown' hnil3)
          refine ⟨⟨x + 1, .slice ta tn tc, by go_num, by omega, ?_⟩, by simp [intOf]; omega⟩
          have hp := S2.out.push x0 G3.out O3.out
          rw [X0.out] at hp
          rw [← Nat.add_assoc, refPre_step ⟨W, H, xs⟩ 7 x y hx' hy' (y * H + x) rfl]
          exact hp
        · have X := hide' (show x = H by omega)
          go_wp2
          refine ⟨⟨y + 1, .slice sa sn sc, by go_num, by omega, ?_⟩, by simp [intOf]; omega⟩
          have := S.out
          rw [X.out] at this
          rw [Nat.add_mul, Nat.one_mul]
          exact this
    · have Y := hide' (show y = W by omega)
      obtain ⟨sa, sn, sc, rfl⟩ := ownsRow_slice R.out.own
      obtain ⟨q0, q1, q2, -⟩ := R.out.q
      obtain ⟨r0, r1, r2, rf⟩ := R.out.res
      have f0 := rf 0
      have f1 := rf 1
      have f2 := rf 2
      clear rf c1
      go_wp2
      refine bodyPost_ret (v := .agg #[.int .i64 (H : Int), .int .i64 (W : Int), .slice sa sn sc]) (by simp [results, Tryd.results38, go_sem, r0, r1, r2]) rfl ?_
      refine ⟨_, rfl, ?_, ?_, ((R.out.below.setCell (by simp) _).setCell (by simp) _).setCell (by simp) _⟩
      · have h := R.out.own
        rw [Y.out, refPre_full ⟨W, H, xs⟩ 7 (show W * H = H * W from Nat.mul_comm _ _)] at h
        exact ownsRow_tab (ownsRow_setCell_below (ownsRow_setCell_below (ownsRow_setCell_below h (a := ⟨w.heap.size + 1, 0, none⟩) (by simp) _) (a := ⟨w.heap.size + 1, 1, none⟩) (by simp) _) (a := ⟨w.heap.size + 1, 2, none⟩) (by simp) _)
      · exact fresh_own R.out.own (by omega)
end Go.Proofs.YtjngjnkecnnmeaaDoor

namespace Go.Proofs.YtjngjnkecnnmeaaDoor
open Go.RowKit
set_option linter.unusedVariables false

theorem refTurn_any (p : Pat) (k : Nat) (a : Option Addr) (c : Nat) (w : World) (hP : ArgP w p.xs a p.xs.length c) (hp : p.ok) (lW : p.W ≤ 100) (lH : p.H ≤ 100) (hk : k < 8) :
    Calls Tryd.prog 38 #[.agg #[.int .i64 (p.W : Int), .int .i64 (p.H : Int), .slice a p.xs.length c], .int .i64 (k : Int)] w (TurnedPost (p.turn k) w) := by
  rw [turn_is p hp k hk]
  obtain ⟨W, H, xs⟩ := p
  rcases (by omega : k = 0 ∨ k = 1 ∨ k = 2 ∨ k = 3 ∨ k = 4 ∨ k = 5 ∨ k = 6 ∨ k = 7) with rfl | rfl | rfl | rfl | rfl | rfl | rfl | rfl
  · exact refTurn_0 W H xs a _ c w hP lW lH hp
  · exact refTurn_1 W H xs a _ c w hP lW lH hp
  · exact refTurn_2 W H xs a _ c w hP lW lH hp
  · exact refTurn_3 W H xs a _ c w hP lW lH hp
  · exact refTurn_4 W H xs a _ c w hP lW lH hp
  · exact refTurn_5 W H xs a _ c w hP lW lH hp
  · exact refTurn_6 W H xs a _ c w hP lW lH hp
  · exact refTurn_7 W H xs a _ c w hP lW lH hp
def RefCanonPost (p : Pat) (w : World) (e : Ending) (w' : World) : Prop :=
  ∃ v, e = .returned (.agg #[.int .i64 ((canonP p).W : Int), .int .i64 ((canonP p).H : Int), v]) ∧ Tab w' v (canonP p).xs ∧ Fresh w v ∧ Below w.heap.size w w'

set_option maxRecDepth 100000 in
set_option maxHeartbeats 1600000 in
theorem refCanon (W H : Nat) (xs : List Int) (a : Option Addr) (n c : Nat) (w : World) (hP : ArgP w xs a n c) (lW : W ≤ 100) (lH : H ≤ 100) (hn : n = W * H) :
    Calls Tryd.prog 37 #[.agg #[.int .i64 (W : Int), .int .i64 (H : Int), .slice a n c]] w (RefCanonPost ⟨W, H, xs⟩ w) := by
  have AP0 := hide' ((hP.alloc (.cells #[.int .i64 (W : Int), .int .i64 (H : Int), .slice a n c] 51)).alloc (.cells #[.int .i64 0, .int .i64 0, .slice none 0 0] 51))
  have RX0 := TB.new (w.alloc (.cells #[.int .i64 (W : Int), .int .i64 (H : Int), .slice a n c] 51)) (.int .i64 0) (.int .i64 0) (.slice none 0 0) 51
  rw [World.size_alloc] at RX0
  have RX := hide' RX0
  have HN := hide' hn
  have FQ0 := hide' (trim_fits ⟨W, H, xs⟩ lW lH)
  obtain ⟨q, hq⟩ : ∃ q, (trimP ⟨W, H, xs⟩).1 = q := ⟨_, rfl⟩
  have HQ := hide' hq
  have CP := hide' (show canonP ⟨W, H, xs⟩ = bestP q 7 by unfold canonP; rw [hq])
  rw [hq] at FQ0
  have FQ := FQ0
  clear hP RX0 hn hq FQ0
  go_enter Tryd.func37, Tryd.ntmps37
  go_wp2_with fail
  refine (refTrim W H xs a n c _ AP0.out lW lH HN.out).mono ?_
  rintro e w1 ⟨va, rfl, ta, fr, b1⟩
  rw [HQ.out] at ta ⊢
  have hz1 := b1.size
  simp only [World.size_alloc] at hz1
  have C0 := hide' (CN.start (RX.out.next b1) ta (fun g k c e => by have := fr g k c e; simp only [World.size_alloc] at this; omega) (show Below w.heap.size w w1 from (((Below.refl _ _).alloc (Nat.le_refl _) _).alloc (by simp) _).trans (b1.mono (by simp only [World.size_alloc]; omega))) (by omega) 51 51)
  obtain ⟨aa, ca, rfl, -⟩ := ta.arg FQ.out.max
  obtain ⟨l0, hl0⟩ : ∃ x, (trimP ⟨W, H, xs⟩).2.1 = x := ⟨_, rfl⟩
  obtain ⟨t0, ht0⟩ : ∃ x, (trimP ⟨W, H, xs⟩).2.2 = x := ⟨_, rfl⟩
  rw [hl0, ht0]
  clear ta fr b1 hl0 ht0
  go_wp2
  go_loopw [7] (fun kv wr => ∃ (m : Nat) (v : Value), kv = .int .i64 (m : Int) ∧ 1 ≤ m ∧ m ≤ 8 ∧ CN w wr w1.heap.size q (bestP q (m - 1)) (.slice aa q.xs.length ca) v) (fun kv _ => 8 - (intOf kv).toNat)
  case atStart => exact ⟨1, _, rfl, by omega, by omega, C0.out⟩
  case round =>
    obtain ⟨m, vb, rfl, hm1, hm8, cn⟩ := hrel
    have FB := hide' (best_fits FQ.out (m - 1) (by omega))
    have B1 := hide' (fun h => best_yes (q := q) hm1 h)
    have B2 := hide' (fun h => best_no (q := q) hm1 h)
    obtain ⟨b, hb⟩ : ∃ b, bestP q (m - 1) = b := ⟨_, rfl⟩
    have HB := hide' hb
    rw [hb] at cn FB B1 B2
    obtain ⟨ab, cb, rfl, -⟩ := cn.tb.arg FB.out.max
    have CNH := hide' cn
    clear C0 hb
    by_cases d : (m : Int) < 8
    · have FT := hide' (turn_fits FQ.out m (by omega))
      obtain ⟨_, _, e0, ap⟩ := cn.ta.arg FQ.out.max
      injection e0 with e1 _ e2
      subst e1 e2
      have AP := hide' ap
      obtain ⟨x0, x1, x2, -⟩ := cn.qb
      clear cn ap
      go_wp2_with fail
      refine (refTurn_any q m _ _ _ AP.out FQ.out.ok FQ.out.w FQ.out.h (by omega)).mono ?_
      rintro e w2 ⟨v2, rfl, tb2, fr2, b2⟩
      have hzr := CNH.out.sz
      have hlo := CNH.out.lo
      have hz2 := b2.size
      obtain ⟨t, ht⟩ : ∃ t, q.turn m = t := ⟨_, rfl⟩
      rw [ht] at FT B1 B2 tb2 ⊢
      obtain ⟨a2, c2, rfl, -⟩ := tb2.arg FT.out.max
      have NV := hide' (fun g k c e => (⟨by have := fr2 g k c e; omega, by have := fr2 g k c e; omega⟩ : w.heap.size + 2 ≤ g ∧ g ≠ w1.heap.size + 1))
      have C2 := hide' ((CNH.out.next b2).next ((Below.refl _ _).alloc (Nat.le_refl _) (.cells #[.int .i64 (t.W : Int), .int .i64 (t.H : Int), .slice a2 t.xs.length c2] 51)))
      have T2 := hide' (tb2.nextB ((Below.refl _ _).alloc (Nat.le_refl _) (.cells #[.int .i64 (t.W : Int), .int .i64 (t.H : Int), .slice a2 t.xs.length c2] 51)))
      have X2 := hide' (TB.new w2 (.int .i64 (t.W : Int)) (.int .i64 (t.H : Int)) (.slice a2 t.xs.length c2) 51)
      obtain ⟨y0, y1, y2, -⟩ := C2.out.fb
      obtain ⟨z0, z1, z2, -⟩ := X2.out
      have hsz2 : (w2.alloc (.cells #[.int .i64 (t.W : Int), .int .i64 (t.H : Int), .slice a2 t.xs.length c2] 51)).heap.size = w2.heap.size + 1 := by simp
      have HT := hide' ht
      obtain ⟨_, _, e0, ap2⟩ := T2.out.arg FT.out.max
      injection e0 with e1 _ e2
      subst e1 e2
      obtain ⟨_, _, e0, apb⟩ := C2.out.tb.arg FB.out.max
      injection e0 with e1 _ e2
      subst e1 e2
      have AP2 := hide' ap2
      have APB := hide' apb
      clear x0 x1 x2 b2 tb2 fr2 ht ap2 apb
      go_wp2_with fail
      refine (ahead_any t b _ _ _ _ _ AP2.out APB.out FT.out.ok FB.out.ok FT.out.w FT.out.h).mono ?_
      rintro e w4 ⟨rfl, b4⟩
      have C4 := hide' (C2.out.next b4)
      have T4 := hide' (T2.out.nextB b4)
      obtain ⟨z0, z1, z2, -⟩ := X2.out.next b4
      obtain ⟨y0, y1, y2, yf⟩ := C4.out.fb
      have g0 := yf 0
      have g1 := yf 1
      have g2 := yf 2
      clear b4 yf
      by_cases i1 : cmpP t b < 0
      · have E := hide' (B1.out i1)
        have k1 : aheadB t b = true := by simp [aheadB, i1]
        clear i1
        go_wp2
        refine ⟨⟨m + 1, .slice a2 t.xs.length c2, by go_num, by omega, by omega, ?_⟩, by simp [intOf]; omega⟩
        rw [Nat.add_sub_cancel, E.out]
        exact C4.out.put t _ T4.out NV.out
      · have E := hide' (B2.out (by omega))
        have k1 : aheadB t b = false := by simp [aheadB]; omega
        clear i1
        go_wp2
        refine ⟨⟨m + 1, .slice ab b.xs.length cb, by go_num, by omega, by omega, ?_⟩, by simp [intOf]; omega⟩
        rw [Nat.add_sub_cancel, E.out]
        exact C4.out
    · have E := hide' (show bestP q 7 = b by rw [← HB.out, show m - 1 = 7 by omega])
      obtain ⟨y0, y1, y2, -⟩ := cn.fb
      obtain ⟨r0, r1, r2, rf⟩ := cn.rb
      have f0 := rf 0
      have f1 := rf 1
      have f2 := rf 2
      clear cn rf
      go_wp2
      refine bodyPost_ret (v := .agg #[.int .i64 (b.W : Int), .int .i64 (b.H : Int), .slice ab b.xs.length cb]) (by simp [results, Tryd.results37, go_sem, r0, r1, r2]) rfl ?_
      have hn2 := CNH.out.nb
      refine ⟨.slice ab b.xs.length cb, by rw [CP.out, E.out], ?_, fun g k c e => by have := hn2 g k c e; omega, ((CNH.out.below.setCell (by simp) _).setCell (by simp) _).setCell (by simp) _⟩
      rw [CP.out, E.out]
      exact CNH.out.tb.keep (by simp) (fun g k c e => stored_blk _ _ _ _ _ _ (by have := hn2 g k c e; omega))
end Go.Proofs.YtjngjnkecnnmeaaDoor

namespace Go.Proofs.YtjngjnkecnnmeaaDoor
open Go.RowKit

set_option maxHeartbeats 800000 in
theorem life_no (b : Nat) (s : ByteArray) (w : World) (h : At b s 1 w) (hs : s.size ≤ maxLen) (h1 : 1 ≤ s.size) (a : Nat) (hno : lifeS s = .inr a) :
    Calls Tryd.prog 140 #[.pointer (some ⟨b, 0, none⟩)] w fun e w' => e = .panicked oops ∧ At b s a w' ∧ Rd b w w' := by
  unfold lifeS at hno
  have H0 : Hid (At b s 1 w) := h
  clear h
  cases hA : inR s (ris s 1).2 47 47 with
  | false =>
    simp [hA] at hno
    subst hno
    go_enter Tryd.func140, Tryd.ntmps140
    go_wp2_with fail
    refine (bits_any b s 1 _ (H0.out.alloc _) hs h1).mono ?_
    rintro e w1 ⟨rfl, a1, r1, l1⟩
    have A1 := hide a1
    clear a1
    go_wp2_with fail
    refine (expect_no b s (ris s 1).2 47 _ A1.out l1 hA).mono ?_
    rintro e w2 ⟨rfl, a2, r2⟩
    go_wp2
    exact ⟨rfl, rfl, a2, (r1.trans r2).un⟩
  | true =>
  cases hB : inR s ((ris s 1).2 + 1) 83 83 with
  | false =>
    simp [hA, hB] at hno
    subst hno
    have hb1 := (inR_true.1 hA).1
    go_enter Tryd.func140, Tryd.ntmps140
    go_wp2_with fail
    refine (bits_any b s 1 _ (H0.out.alloc _) hs h1).mono ?_
    rintro e w1 ⟨rfl, a1, r1, l1⟩
    have A1 := hide a1
    clear a1
    go_wp2_with fail
    refine (expect_yes b s (ris s 1).2 47 _ A1.out hs hA).mono ?_
    rintro e w2 ⟨rfl, a2, r2⟩
    have A2 := hide a2
    clear a2
    go_wp2_with fail
    refine (expect_no b s ((ris s 1).2 + 1) 83 _ A2.out (by omega) hB).mono ?_
    rintro e w3 ⟨rfl, a3, r3⟩
    go_wp2
    exact ⟨rfl, rfl, a3, ((r1.trans r2).trans r3).un⟩
  | true => simp [hA, hB] at hno

set_option maxHeartbeats 400000 in
theorem numbered_no (b : Nat) (s : ByteArray) (w : World) (h : At b s 1 w) (hs : s.size ≤ maxLen) (h1 : 1 ≤ s.size) (a : Nat) (hno : numberedS s = .inr a) :
    Calls Tryd.prog 141 #[.pointer (some ⟨b, 0, none⟩)] w fun e w' => e = .panicked oops ∧ At b s a w' ∧ Rd b w w' := by
  unfold numberedS at hno
  have H0 : Hid (At b s 1 w) := h
  clear h
  cases hA : numOk s 1 0 255 with
  | true => simp [hA] at hno
  | false =>
    simp [hA] at hno
    subst hno
    go_enter Tryd.func141, Tryd.ntmps141
    go_wp2_with fail
    refine (number_no b s 1 0 255 0 255 _ (H0.out.alloc _) hs h1 rfl rfl (by omega) hA).mono ?_
    rintro e w1 ⟨rfl, a1, r1⟩
    go_wp2
    exact ⟨rfl, rfl, a1, r1.un⟩

theorem num_le (s : ByteArray) (i least most : Nat) (h : numOk s i least most = true) : (num s i).1 ≤ most ∧ least ≤ (num s i).1 := by
  simp [numOk] at h
  omega

theorem i64_and_nat (a b : Nat) (ha : a < 4294967296) (hb : b < 4294967296) : bits .and .i64 (a : Int) (b : Int) = ((a &&& b : Nat) : Int) := by
  have hx : a &&& b < 2 ^ 32 := Nat.and_lt_two_pow _ (by omega)
  show IntKind.i64.wrap ((BitVec.ofInt 64 (a : Int) &&& BitVec.ofInt 64 (b : Int)).toNat : Int) = _
  rw [BitVec.toNat_and, ofInt_u64 a (by omega), ofInt_u64 b (by omega)]
  simp [IntKind.wrap, IntKind.bits, IntKind.signed]
  omega

theorem and_bit (n k : Nat) (hn : n ≤ 255) : bits BinOp.and IntKind.i64 ((n : Int) / 2 ^ k) 1 = bitOf n k := by
  rw [show ((n : Int) / 2 ^ k) = ((n / 2 ^ k : Nat) : Int) by simp]
  have hl : n / 2 ^ k ≤ n := Nat.div_le_self _ _
  have := i64_and_nat (n / 2 ^ k) 1 (by omega) (by omega)
  simp only [Nat.and_one_is_mod] at this
  exact this

set_option maxHeartbeats 1000000 in
theorem numbered_any (b : Nat) (s : ByteArray) (w : World) (h : At b s 1 w) (hs : s.size ≤ maxLen) (h1 : 1 ≤ s.size) (o : Out) (p : Nat) (hok : numberedS s = .inl (o, p)) :
    Calls Tryd.prog 141 #[.pointer (some ⟨b, 0, none⟩)] w fun e w' => ∃ v, e = .returned (o.val v) ∧ Tab w' v o.table ∧ Fresh w v ∧ At b s p w' ∧ Rd b w w' ∧ p ≤ s.size := by
  unfold numberedS at hok
  cases hA : numOk s 1 0 255 with
  | false => simp [hA] at hok
  | true =>
  simp [hA] at hok
  obtain ⟨rfl, rfl⟩ := hok
  have H0 : Hid (At b s 1 w) := h
  have hlt := h.lt
  clear h
  have hn := (num_le s 1 0 255 hA).1
  obtain ⟨N, hN⟩ : ∃ N, N = entOf 2 1 := ⟨_, rfl⟩
  have hN8 : N = 8 := hN.trans (by decide)
  have hNl : N ≤ 8 := by omega
  have hmk := run_make_row' (P := Tryd.prog) 22 3 (.int .i64 0) 8 Tryd.underlying22 info_int rfl .i64 .i64 N (by omega) (by omega)
  have HN := hide hN
  have HN8 := hide hN8
  clear hN hN8
  go_enter Tryd.func141, Tryd.ntmps141
  go_wp2_with fail
  refine (number_ok b s 1 0 255 0 255 _ (H0.out.alloc _) hs h1 rfl rfl (by omega) hA).mono ?_
  rintro e w1 ⟨rfl, a1, r1, l1⟩
  have A1 := hide a1
  have L1 := hide l1
  clear a1 l1
  go_wp2_with fail
  refine (entries_any 2 1 2 1 _ rfl rfl (by omega) (by omega) (by omega)).mono ?_
  rw [← unhide HN]
  rintro e w2 ⟨rfl, rfl⟩
  have hz : w.heap.size + 1 ≤ w2.heap.size := by have := r1.size; simpa using this
  have hb2 : b < w2.heap.size := by omega
  have F0 := hide (Fill.start w2 N (bitOf (num s 1).1) (.int .i64 0) 3)
  have A2 := hide (A1.out.alloc (.cells (madeCells #[.int .i64 0] N) 3))
  have R2 := hide (show Rd b (w.alloc (.cells zeroCells 24)) (w2.alloc (.cells (madeCells #[.int .i64 0] N) 3)) from Rd.alloc r1 _)
  clear r1
  go_wp2
  go_loopw [12] (fun iv wr => ∃ k : Nat, iv = .int .i64 (k : Int) ∧ k ≤ N ∧ Fill w2.heap.size N k (bitOf (num s 1).1) wr ∧ At b s (num s 1).2 wr ∧ Rd b (w.alloc (.cells zeroCells 24)) wr) (fun iv _ => N - (intOf iv).toNat)
  case atStart => exact ⟨0, rfl, by omega, F0.out, A2.out, R2.out⟩
  case round =>
    obtain ⟨k, rfl, hk, fk, ak, rk⟩ := hrel
    clear hmk
    have FK := hide fk
    have AK := hide ak
    have RK := hide rk
    by_cases hkN : (k : Int) < (N : Int)
    · obtain ⟨v, hv, -⟩ := fk.cells k (by omega)
      have hf := fk.fz k
      clear fk ak rk
      go_wp2
      rw [show bits BinOp.and IntKind.i64 (((num s 1).1 : Int) / 2 ^ k) 1 = bitOf (num s 1).1 k from and_bit _ _ hn]
      exact ⟨⟨k + 1, by go_num, by omega, FK.out.step (by omega), AK.out.setOther (p := ⟨w2.heap.size, k, none⟩) (by simp; omega) _, RK.out.setNew (p := ⟨w2.heap.size, k, none⟩) (by simp; omega) _⟩, by simp [intOf]; omega⟩
    · obtain ⟨hc, hf⟩ := rk.made hlt
      have c0 := hc 0
      have c1 := hc 1
      have c2 := hc 2
      have c3 := hc 3
      have c4 := hc 4
      have c5 := hc 5
      have c6 := hc 6
      simp [zeroCells] at c0 c1 c2 c3 c4 c5 c6
      have HK : Hid (k = N) := (by omega : k = N)
      clear hc fk ak rk
      go_wp2
      refine bodyPost_ret (v := Out.val ⟨2, 0, 0, 2, 1, (List.range 8).map (bitOf (num s 1).1), ⟨#[]⟩⟩ (.slice (some ⟨w2.heap.size, 0, none⟩) N N)) (by simp [results, Tryd.results141, go_sem, Out.val, c0, c1, c2, c3, c4, c5, c6]) rfl ?_
      refine ⟨_, rfl, ?_, Fresh.mk (by omega), set7_at AK.out (by omega), set7_rd RK.out.un (by omega), L1.out⟩
      have ff := FK.out
      rw [HK.out] at ff
      have t := ff.tab (cap := N)
      show Tab _ _ ((List.range 8).map (bitOf (num s 1).1))
      rw [show (List.range 8) = List.range N by rw [HN8.out]]
      have hne : ∀ g c, Value.slice (some ⟨w2.heap.size, 0, none⟩) N N = .slice (some ⟨g, 0, none⟩) ((List.range N).map (bitOf (num s 1).1)).length c → g ≠ w.heap.size := by
        intro g c q; injection q with q1; injection q1 with q2; injection q2 with q3; omega
      exact ((((((t.other _ hne).other _ hne).other _ hne).other _ hne).other _ hne).other _ hne).other _ hne
end Go.Proofs.YtjngjnkecnnmeaaDoor

namespace Go.Proofs.YtjngjnkecnnmeaaDoor
open Go.RowKit
set_option linter.unusedVariables false

/-- What a text of tabled comes to, in one of six ways. -/
theorem tabled_ways (s : ByteArray) :
    (inR s 1 32 32 = false ∧ tabledS s = .inr 1) ∨
    (inR s 1 32 32 = true ∧ numOk s 2 2 4 = false ∧ tabledS s = .inr 2) ∨
    (inR s 1 32 32 = true ∧ numOk s 2 2 4 = true ∧ inR s (num s 2).2 32 32 = false ∧ tabledS s = .inr (num s 2).2) ∨
    (inR s 1 32 32 = true ∧ numOk s 2 2 4 = true ∧ inR s (num s 2).2 32 32 = true ∧ numOk s ((num s 2).2 + 1) 0 2 = false ∧ tabledS s = .inr ((num s 2).2 + 1)) ∨
    (inR s 1 32 32 = true ∧ numOk s 2 2 4 = true ∧ inR s (num s 2).2 32 32 = true ∧ numOk s ((num s 2).2 + 1) 0 2 = true ∧ inR s (num s ((num s 2).2 + 1)).2 32 32 = false ∧ tabledS s = .inr (num s ((num s 2).2 + 1)).2) ∨
    (inR s 1 32 32 = true ∧ numOk s 2 2 4 = true ∧ inR s (num s 2).2 32 32 = true ∧ numOk s ((num s 2).2 + 1) 0 2 = true ∧ inR s (num s ((num s 2).2 + 1)).2 32 32 = true ∧
      tabledS s = tabEnd s (num s 2).1 (num s ((num s 2).2 + 1)).1 (num s ((num s 2).2 + 1)).2) := by
  unfold tabledS
  cases hA : inR s 1 32 32
  · simp
  cases hB : numOk s 2 2 4
  · simp
  cases hC : inR s (num s 2).2 32 32
  · simp
  cases hD : numOk s ((num s 2).2 + 1) 0 2
  · simp
  cases hE : inR s (num s ((num s 2).2 + 1)).2 32 32
  · simp
  · simp

/-- What a call on the reader comes to: the rule, and how far; or the fault's place, by a panic. -/
def Reads (x : (Out × Nat) ⊕ Nat) (b : Nat) (s : ByteArray) (w : World) (e : Ending) (w' : World) : Prop :=
  match x with
  | .inr a => e = .panicked oops ∧ At b s a w' ∧ Rd b w w'
  | .inl (o, p) => ∃ v, e = .returned (o.val v) ∧ Tab w' v o.table ∧ Fresh w v ∧ At b s p w' ∧ Rd b w w' ∧ p ≤ s.size

theorem Reads.bad {b : Nat} {s : ByteArray} {w w' : World} {a : Nat} (ha : At b s a w') (hr : Rd b w w') : Reads (.inr a) b s w (.panicked oops) w' := ⟨rfl, ha, hr⟩

theorem tabF_step {s : ByteArray} {hi : Int} {N k i : Nat} (hk : k < N) (h : inR s i 48 hi = true) : tabF s hi (N - k) i + k = tabF s hi (N - (k + 1)) (i + 1) + (k + 1) := by
  rw [show N - k = (N - (k + 1)) + 1 by omega]
  simp [tabF, h]; omega
theorem tabF_stop {s : ByteArray} {hi : Int} {N k i : Nat} (h : inR s i 48 hi = false) : tabF s hi (N - k) i + k = k := by
  cases N - k <;> simp [tabF, h]

set_option maxHeartbeats 800000 in
theorem tabled_no1 (b : Nat) (s : ByteArray) (w : World) (h : At b s 1 w) (hs : s.size ≤ maxLen) (h1 : 1 ≤ s.size) (hA : inR s 1 32 32 = false) :
    Calls Tryd.prog 142 #[.pointer (some ⟨b, 0, none⟩)] w fun e w' => Reads (.inr 1) b s w e w' := by
  have H0 := hide h
  clear h
  go_enter Tryd.func142, Tryd.ntmps142
  go_wp2_with fail
  refine (expect_no b s 1 32 _ (H0.out.alloc _) (by omega) hA).mono ?_
  rintro e w1 ⟨rfl, a1, r1⟩
  go_wp2
  exact ⟨rfl, Reads.bad a1 r1.un⟩

set_option maxHeartbeats 800000 in
theorem tabled_no2 (b : Nat) (s : ByteArray) (w : World) (h : At b s 1 w) (hs : s.size ≤ maxLen) (h1 : 1 ≤ s.size) (hA : inR s 1 32 32 = true) (hB : numOk s 2 2 4 = false) :
    Calls Tryd.prog 142 #[.pointer (some ⟨b, 0, none⟩)] w fun e w' => Reads (.inr 2) b s w e w' := by
  have H0 := hide h
  clear h
  have b0 := (inR_true.1 hA).1
  go_enter Tryd.func142, Tryd.ntmps142
  go_wp2_with fail
  refine (expect_yes b s 1 32 _ (H0.out.alloc _) hs hA).mono ?_
  rintro e w1 ⟨rfl, a1, r1⟩
  have A1 := hide a1
  clear a1
  go_wp2_with fail
  refine (number_no b s 2 2 4 2 4 _ A1.out hs (by omega) rfl rfl (by omega) hB).mono ?_
  rintro e w2 ⟨rfl, a2, r2⟩
  go_wp2
  exact ⟨rfl, Reads.bad a2 (r1.trans r2).un⟩

set_option maxHeartbeats 800000 in
theorem tabled_no3 (b : Nat) (s : ByteArray) (w : World) (h : At b s 1 w) (hs : s.size ≤ maxLen) (h1 : 1 ≤ s.size) (hA : inR s 1 32 32 = true) (hB : numOk s 2 2 4 = true) (hC : inR s (num s 2).2 32 32 = false) :
    Calls Tryd.prog 142 #[.pointer (some ⟨b, 0, none⟩)] w fun e w' => Reads (.inr (num s 2).2) b s w e w' := by
  have H0 := hide h
  clear h
  have b0 := (inR_true.1 hA).1
  go_enter Tryd.func142, Tryd.ntmps142
  go_wp2_with fail
  refine (expect_yes b s 1 32 _ (H0.out.alloc _) hs hA).mono ?_
  rintro e w1 ⟨rfl, a1, r1⟩
  have A1 := hide a1
  clear a1
  go_wp2_with fail
  refine (number_ok b s 2 2 4 2 4 _ A1.out hs (by omega) rfl rfl (by omega) hB).mono ?_
  rintro e w2 ⟨rfl, a2, r2, l2⟩
  have A2 := hide a2
  clear a2
  go_wp2_with fail
  refine (expect_no b s (num s 2).2 32 _ A2.out (by omega) hC).mono ?_
  rintro e w3 ⟨rfl, a3, r3⟩
  go_wp2
  exact ⟨rfl, Reads.bad a3 ((r1.trans r2).trans r3).un⟩

set_option maxHeartbeats 800000 in
theorem tabled_no4 (b : Nat) (s : ByteArray) (w : World) (h : At b s 1 w) (hs : s.size ≤ maxLen) (h1 : 1 ≤ s.size) (hA : inR s 1 32 32 = true) (hB : numOk s 2 2 4 = true) (hC : inR s (num s 2).2 32 32 = true) (hD : numOk s ((num s 2).2 + 1) 0 2 = false) :
    Calls Tryd.prog 142 #[.pointer (some ⟨b, 0, none⟩)] w fun e w' => Reads (.inr ((num s 2).2 + 1)) b s w e w' := by
  have H0 := hide h
  clear h
  have b0 := (inR_true.1 hA).1
  have b2 := (inR_true.1 hC).1
  go_enter Tryd.func142, Tryd.ntmps142
  go_wp2_with fail
  refine (expect_yes b s 1 32 _ (H0.out.alloc _) hs hA).mono ?_
  rintro e w1 ⟨rfl, a1, r1⟩
  have A1 := hide a1
  clear a1
  go_wp2_with fail
  refine (number_ok b s 2 2 4 2 4 _ A1.out hs (by omega) rfl rfl (by omega) hB).mono ?_
  rintro e w2 ⟨rfl, a2, r2, l2⟩
  have A2 := hide a2
  clear a2
  go_wp2_with fail
  refine (expect_yes b s (num s 2).2 32 _ A2.out hs hC).mono ?_
  rintro e w3 ⟨rfl, a3, r3⟩
  have A3 := hide a3
  clear a3
  go_wp2_with fail
  refine (number_no b s ((num s 2).2 + 1) 0 2 0 2 _ A3.out hs (by omega) rfl rfl (by omega) hD).mono ?_
  rintro e w4 ⟨rfl, a4, r4⟩
  go_wp2
  exact ⟨rfl, Reads.bad a4 (((r1.trans r2).trans r3).trans r4).un⟩

set_option maxHeartbeats 800000 in
theorem tabled_no5 (b : Nat) (s : ByteArray) (w : World) (h : At b s 1 w) (hs : s.size ≤ maxLen) (h1 : 1 ≤ s.size) (hA : inR s 1 32 32 = true) (hB : numOk s 2 2 4 = true) (hC : inR s (num s 2).2 32 32 = true) (hD : numOk s ((num s 2).2 + 1) 0 2 = true) (hE : inR s (num s ((num s 2).2 + 1)).2 32 32 = false) :
    Calls Tryd.prog 142 #[.pointer (some ⟨b, 0, none⟩)] w fun e w' => Reads (.inr (num s ((num s 2).2 + 1)).2) b s w e w' := by
  have H0 := hide h
  clear h
  have b0 := (inR_true.1 hA).1
  have b2 := (inR_true.1 hC).1
  go_enter Tryd.func142, Tryd.ntmps142
  go_wp2_with fail
  refine (expect_yes b s 1 32 _ (H0.out.alloc _) hs hA).mono ?_
  rintro e w1 ⟨rfl, a1, r1⟩
  have A1 := hide a1
  clear a1
  go_wp2_with fail
  refine (number_ok b s 2 2 4 2 4 _ A1.out hs (by omega) rfl rfl (by omega) hB).mono ?_
  rintro e w2 ⟨rfl, a2, r2, l2⟩
  have A2 := hide a2
  clear a2
  go_wp2_with fail
  refine (expect_yes b s (num s 2).2 32 _ A2.out hs hC).mono ?_
  rintro e w3 ⟨rfl, a3, r3⟩
  have A3 := hide a3
  clear a3
  go_wp2_with fail
  refine (number_ok b s ((num s 2).2 + 1) 0 2 0 2 _ A3.out hs (by omega) rfl rfl (by omega) hD).mono ?_
  rintro e w4 ⟨rfl, a4, r4, l4⟩
  have A4 := hide a4
  clear a4
  go_wp2_with fail
  refine (expect_no b s (num s ((num s 2).2 + 1)).2 32 _ A4.out (by omega) hE).mono ?_
  rintro e w5 ⟨rfl, a5, r5⟩
  go_wp2
  exact ⟨rfl, Reads.bad a5 ((((r1.trans r2).trans r3).trans r4).trans r5).un⟩

set_option maxHeartbeats 1600000 in
theorem tabled_last (b : Nat) (s : ByteArray) (w : World) (h : At b s 1 w) (hs : s.size ≤ maxLen) (hA : inR s 1 32 32 = true) (hB : numOk s 2 2 4 = true) (hC : inR s (num s 2).2 32 32 = true) (hD : numOk s ((num s 2).2 + 1) 0 2 = true) (hE : inR s (num s ((num s 2).2 + 1)).2 32 32 = true) :
    Calls Tryd.prog 142 #[.pointer (some ⟨b, 0, none⟩)] w fun e w' => Reads (tabEnd s (num s 2).1 (num s ((num s 2).2 + 1)).1 (num s ((num s 2).2 + 1)).2) b s w e w' := by
  have H0 := hide h
  have hlt := h.lt
  clear h
  have b0 := (inR_true.1 hA).1
  have b2 := (inR_true.1 hC).1
  have b4 := (inR_true.1 hE).1
  have hn := num_le s 2 2 4 hB
  have hm := num_le s ((num s 2).2 + 1) 0 2 hD
  have hent := entOf_small (num s 2).1 (num s ((num s 2).2 + 1)).1 (by omega) (by omega) (by omega)
  obtain ⟨N, hN⟩ : ∃ N, N = entOf (num s 2).1 (num s ((num s 2).2 + 1)).1 := ⟨_, rfl⟩
  have hNl : N ≤ 1024 := by
    have e1 : (num s 2).1 = 2 ∨ (num s 2).1 = 3 ∨ (num s 2).1 = 4 := by omega
    have e2 : (num s ((num s 2).2 + 1)).1 = 0 ∨ (num s ((num s 2).2 + 1)).1 = 1 ∨ (num s ((num s 2).2 + 1)).1 = 2 := by omega
    rw [hN]
    rcases e1 with e1 | e1 | e1 <;> rcases e2 with e2 | e2 | e2 <;> rw [e1, e2] <;> decide
  have HN := hide hN
  have HE := hide (hN.trans hent)
  clear hN hent
  have hmk := run_make_row' (P := Tryd.prog) 22 3 (.int .i64 0) 8 Tryd.underlying22 info_int rfl .i64 .i64 N (by omega) (by omega)
  go_enter Tryd.func142, Tryd.ntmps142
  go_wp2_with fail
  refine (expect_yes b s 1 32 _ (H0.out.alloc _) hs hA).mono ?_
  rintro e w1 ⟨rfl, a1, r1⟩
  have A1 := hide a1
  clear a1
  go_wp2_with fail
  refine (number_ok b s 2 2 4 2 4 _ A1.out hs (by omega) rfl rfl (by omega) hB).mono ?_
  rintro e w2 ⟨rfl, a2, r2, l2⟩
  have A2 := hide a2
  clear a2
  go_wp2_with fail
  refine (expect_yes b s (num s 2).2 32 _ A2.out hs hC).mono ?_
  rintro e w3 ⟨rfl, a3, r3⟩
  have A3 := hide a3
  clear a3
  go_wp2_with fail
  refine (number_ok b s ((num s 2).2 + 1) 0 2 0 2 _ A3.out hs (by omega) rfl rfl (by omega) hD).mono ?_
  rintro e w4 ⟨rfl, a4, r4, l4⟩
  have A4 := hide a4
  clear a4
  go_wp2_with fail
  refine (expect_yes b s (num s ((num s 2).2 + 1)).2 32 _ A4.out hs hE).mono ?_
  rintro e w5 ⟨rfl, a5, r5⟩
  have A5 := hide a5
  clear a5
  go_wp2_with fail
  refine (entries_any (num s 2).1 (num s ((num s 2).2 + 1)).1 _ _ _ rfl rfl (by omega) (by omega) (by omega)).mono ?_
  rw [← unhide HN]
  rintro e w6 ⟨rfl, rfl⟩
  have hz : w.heap.size + 1 ≤ w6.heap.size := by have := ((((r1.trans r2).trans r3).trans r4).trans r5).size; simpa using this
  have hb2 : b < w6.heap.size := by omega
  have F0 := hide (Fill.start w6 N (fun y => (bt s ((num s ((num s 2).2 + 1)).2 + 1 + y) : Int) - 48) (.int .i64 0) 3)
  have A6 := hide (A5.out.alloc (.cells (madeCells #[.int .i64 0] N) 3))
  have R6 := hide (show Rd b (w.alloc (.cells zeroCells 24)) (w6.alloc (.cells (madeCells #[.int .i64 0] N) 3)) from Rd.alloc ((((r1.trans r2).trans r3).trans r4).trans r5) _)
  clear r1 r2 r3 r4 r5 A1 A2 A3 A4
  obtain ⟨X, hX⟩ : ∃ X, X = tabF s (48 + ((num s 2).1 : Int) - 1) N ((num s ((num s 2).2 + 1)).2 + 1) := ⟨_, rfl⟩
  have HX := hide hX
  have HS := hide hs
  clear hX
  unfold maxLen at hs
  go_wp2
  go_loopw [28] (fun iv wr => ∃ k : Nat, iv = .int .i64 (k : Int) ∧ k ≤ N ∧ Fill w6.heap.size N k (fun y => (bt s ((num s ((num s 2).2 + 1)).2 + 1 + y) : Int) - 48) wr ∧ At b s ((num s ((num s 2).2 + 1)).2 + 1 + k) wr ∧ Rd b (w.alloc (.cells zeroCells 24)) wr ∧ tabF s (48 + ((num s 2).1 : Int) - 1) (N - k) ((num s ((num s 2).2 + 1)).2 + 1 + k) + k = X ∧ (num s ((num s 2).2 + 1)).2 + 1 + k ≤ s.size) (fun iv _ => N - (intOf iv).toNat)
  case atStart => exact ⟨0, rfl, by omega, F0.out, A6.out, R6.out, HX.out.symm, by omega⟩
  case round =>
    obtain ⟨k, rfl, hk, fk, ak, rk, xk, bk⟩ := hrel
    clear hmk F0 A6 R6
    have FK := hide fk
    have AK := hide ak
    have RK := hide rk
    have XK := hide xk
    clear xk
    by_cases hkN : (k : Int) < (N : Int)
    · clear fk ak rk
      cases hin : inR s ((num s ((num s 2).2 + 1)).2 + 1 + k) 48 (48 + ((num s 2).1 : Int) - 1) with
      | false =>
        go_wp2_with fail
        refine (take_no b s ((num s ((num s 2).2 + 1)).2 + 1 + k) 48 (48 + ((num s 2).1 : Int) - 1) _ AK.out bk hin).mono ?_
        rintro e w7 ⟨rfl, a7, r7⟩
        go_wp2
        have x1 := XK.out
        rw [tabF_stop hin] at x1
        have x2 := HX.out
        rw [← x1, HE.out] at x2
        have x3 : tabEnd s (num s 2).1 (num s ((num s 2).2 + 1)).1 (num s ((num s 2).2 + 1)).2 = .inr ((num s ((num s 2).2 + 1)).2 + 1 + k) := by
          unfold tabEnd
          rw [if_pos (by rw [← x2, ← HE.out]; omega), ← x2]
        rw [x3]
        exact ⟨rfl, Reads.bad a7 (RK.out.un.trans r7)⟩
      | true =>
        have hlt2 := (inR_true.1 hin).1
        have hb := (inR_true.1 hin).2
        have e2 := bt_lt s ((num s ((num s 2).2 + 1)).2 + 1 + k) hlt2
        go_wp2_with fail
        refine (take_yes b s ((num s ((num s 2).2 + 1)).2 + 1 + k) 48 (48 + ((num s 2).1 : Int) - 1) _ AK.out HS.out hlt2 hin).mono ?_
        rintro e w7 ⟨rfl, a7, r7⟩
        have hne : w6.heap.size ≠ b := by omega
        have F7 := FK.out.rd r7 hne
        have R7 := RK.out.trans r7
        obtain ⟨v, hv, -⟩ := F7.cells k (by omega)
        have hf := F7.fz k
        have F8 := hide F7
        have R8 := hide R7
        have A8 := hide a7
        clear F7 R7 a7 r7
        go_wp2
        refine ⟨⟨k + 1, by go_num, by omega, F8.out.step (by omega), A8.out.setOther (p := ⟨w6.heap.size, k, none⟩) (by simp; omega) _, R8.out.setNew (p := ⟨w6.heap.size, k, none⟩) (by simp; omega) _, ?_, by omega⟩, by simp [intOf]; omega⟩
        exact (tabF_step (by omega) hin).symm.trans XK.out
    · obtain ⟨hc, hf⟩ := rk.made hlt
      have c0 := hc 0
      have c1 := hc 1
      have c2 := hc 2
      have c3 := hc 3
      have c4 := hc 4
      have c5 := hc 5
      have c6 := hc 6
      simp [zeroCells] at c0 c1 c2 c3 c4 c5 c6
      have HK : Hid (k = N) := (by omega : k = N)
      clear hc fk ak rk
      have x1 := XK.out
      rw [HK.out] at x1
      simp [tabF] at x1
      have x2 := HX.out
      rw [← x1] at x2
      have x3 : tabEnd s (num s 2).1 (num s ((num s 2).2 + 1)).1 (num s ((num s 2).2 + 1)).2 = .inl (⟨2, 0, 0, (num s 2).1, (num s ((num s 2).2 + 1)).1, (List.range N).map (fun y => (bt s ((num s ((num s 2).2 + 1)).2 + 1 + y) : Int) - 48), ⟨#[]⟩⟩, (num s ((num s 2).2 + 1)).2 + 1 + N) := by
        unfold tabEnd
        rw [← HE.out, if_neg (by rw [← x2]; omega)]
      have X3 := hide x3
      clear x1 x2 x3
      go_wp2
      refine bodyPost_ret (v := Out.val ⟨2, 0, 0, (num s 2).1, (num s ((num s 2).2 + 1)).1, (List.range N).map (fun y => (bt s ((num s ((num s 2).2 + 1)).2 + 1 + y) : Int) - 48), ⟨#[]⟩⟩ (.slice (some ⟨w6.heap.size, 0, none⟩) N N)) (by simp [results, Tryd.results142, go_sem, Out.val, c0, c1, c2, c3, c4, c5, c6]) rfl ?_
      rw [X3.out]
      have ff := FK.out
      have aa := AK.out
      rw [HK.out] at ff aa bk
      have t := ff.tab (cap := N)
      have hne : ∀ g c, Value.slice (some ⟨w6.heap.size, 0, none⟩) N N = .slice (some ⟨g, 0, none⟩) ((List.range N).map (fun y => (bt s ((num s ((num s 2).2 + 1)).2 + 1 + y) : Int) - 48)).length c → g ≠ w.heap.size := by
        intro g c q; injection q with q1; injection q1 with q2; injection q2 with q3; omega
      exact ⟨_, rfl, ((((((t.other _ hne).other _ hne).other _ hne).other _ hne).other _ hne).other _ hne).other _ hne, Fresh.mk (by omega), set7_at aa (by omega), set7_rd RK.out.un (by omega), bk⟩

theorem tabled_any (b : Nat) (s : ByteArray) (w : World) (h : At b s 1 w) (hs : s.size ≤ maxLen) (h1 : 1 ≤ s.size) :
    Calls Tryd.prog 142 #[.pointer (some ⟨b, 0, none⟩)] w fun e w' => Reads (tabledS s) b s w e w' := by
  rcases tabled_ways s with ⟨a, q⟩ | ⟨a, c, q⟩ | ⟨a, c, d, q⟩ | ⟨a, c, d, e, q⟩ | ⟨a, c, d, e, f, q⟩ | ⟨a, c, d, e, f, q⟩
  · rw [q]; exact tabled_no1 b s w h hs h1 a
  · rw [q]; exact tabled_no2 b s w h hs h1 a c
  · rw [q]; exact tabled_no3 b s w h hs h1 a c d
  · rw [q]; exact tabled_no4 b s w h hs h1 a c d e
  · rw [q]; exact tabled_no5 b s w h hs h1 a c d e f
  · rw [q]; exact tabled_last b s w h hs a c d e f
end Go.Proofs.YtjngjnkecnnmeaaDoor

namespace Go.Proofs.YtjngjnkecnnmeaaDoor
open Go.RowKit

theorem info_u8 : (Tryd.prog.info? 5).map (fun i => (i.zero, i.size, i.bytes)) = some (some (.int .u8 0), 1, 1) := by kernel_rfl

set_option maxHeartbeats 4000000 in
set_option maxRecDepth 100000 in
theorem slClone (s : ByteArray) (w : World) (hlim : s.size ≤ 281474976710656) :
    Calls Tryd.prog 166 #[.string s] w fun e w' => e = .returned (.string s) ∧ Below w.heap.size w w' := by
  by_cases h0 : s.size = 0
  · have hs : s = ⟨#[]⟩ := by
      apply ByteArray.ext
      exact Array.eq_empty_of_size_eq_zero h0
    subst hs
    go_enter Tryd.func166, Tryd.ntmps166
    go_wp2
    go_ret
    exact ⟨rfl, Below.refl _ _⟩
  · obtain ⟨i0, hi, hzz⟩ := Option.map_eq_some_iff.1 info_u8
    simp only [Prod.mk.injEq] at hzz
    obtain ⟨hz0, hz1, hz2⟩ := hzz
    have hinfo : (Tryd.prog.info? 5).map (·.size) = some 1 := by rw [hi]; simp [hz1]
    have hco : Tryd.prog.cellsOf 5 = 1 := by simp [Program.cellsOf, hi, hz1]
    obtain ⟨M, hM⟩ : ∃ M, M = madeCells (Value.int .u8 0).cells (((s.size : Nat) : Int).toNat * i0.size) := ⟨_, rfl⟩
    have hMs : M.size = s.size := by rw [hM, size_madeCells, hz1]; simp
    have hmk : ∀ W : World, (Instr.makeSlice 95 (.int .i64 (s.size : Int)) (.int .i64 (s.size : Int))).run Tryd.prog W = .ok (.slice (some ⟨W.heap.size, 0, none⟩) s.size s.size) (W.alloc (.cells M 5)) := fun W => by
      have h := run_make (P := Tryd.prog) W 95 5 i0 (.int .u8 0) Tryd.underlying95 hi hz0 .i64 .i64 (s.size : Int) (s.size : Int) (by omega) (by omega) (by rw [hz2]; omega) (by omega)
      rw [← hM] at h
      simpa using h
    clear hM
    have hcp := Lib.run_copy_row_string (P := Tryd.prog) (w.alloc (.cells M 5)) 95 9 3 5 w.heap.size 0 s.size s.size s M 5 Tryd.underlying95 hinfo (heap_alloc_new w _) (Nat.le_refl _) (by omega)
    obtain ⟨Y, hY⟩ : ∃ Y, Y = (M.toList.take 0 ++ Lib.byteCells s.data.toList ++ M.toList.drop (0 + s.size)).toArray := ⟨_, rfl⟩
    rw [← hY] at hcp
    have hYl : Y.toList = Lib.byteCells s.data.toList := by
      rw [hY, List.toList_toArray, List.take_zero, List.nil_append, List.drop_of_length_le (by rw [Array.length_toList]; omega), List.append_nil]
    have hYs : Y.size = s.size := by rw [← Array.length_toList, hYl, Lib.byteCells_length, ← Lib.size_eq]
    have hgY : ((w.alloc (.cells M 5)).setRow w.heap.size Y).heap[w.heap.size]? = some (.cells Y 5 (0, 0)) := setRow_heap _ _ M _ 5 (0, 0) (heap_alloc_new w _)
    have hne : s.data.toList ≠ [] := fun e => h0 (by rw [Lib.size_eq, e]; rfl)
    have hUS := Lib.run_unsafeString_row (P := Tryd.prog) ((w.alloc (.cells M 5)).setRow w.heap.size Y) 141 3 9 5 Tryd.underlying141 hco w.heap.size Y.size (by unfold World.shape?; rw [hgY]) s.data.toList hne (by rw [← Lib.size_eq]; omega) (by rw [← Lib.size_eq]; omega)
      (fun j x hx => Lib.cells_of_row hgY Y.size j _ (by rw [List.take_of_length_le (by rw [Array.length_toList]; exact Nat.le_refl _), hYl]; simp [Lib.byteCells, hx]))
    rw [← Lib.size_eq] at hUS
    clear hY
    go_enter Tryd.func166, Tryd.ntmps166
    go_wp2
    go_ret
    have hb1 : Below w.heap.size w (w.alloc (.cells M 5)) := (Below.refl _ w).alloc (Nat.le_refl _) _
    have hb2 : Below w.heap.size (w.alloc (.cells M 5)) ((w.alloc (.cells M 5)).setRow w.heap.size Y) := ⟨rfl, rfl, rfl, by simp, fun k hk => setRow_other _ _ _ _ (by omega)⟩
    exact ⟨rfl, Lib.below_freeze (hb1.trans hb2) (p := ⟨w.heap.size, 0, none⟩) (Nat.le_refl _) _⟩

theorem clone_any (t : ByteArray) (w : World) (ht : t.size ≤ 281474976710656) :
    Calls Tryd.prog 158 #[.string t] w fun e w' => e = .returned (.string t) ∧ Below w.heap.size w w' := by
  go_enter Tryd.func158, Tryd.ntmps158
  go_wp2_with fail
  refine (slClone t _ ht).mono ?_
  rintro e w1 ⟨rfl, hb⟩
  go_wp2
  go_ret
  exact ⟨rfl, hb⟩
end Go.Proofs.YtjngjnkecnnmeaaDoor

namespace Go.Proofs.YtjngjnkecnnmeaaDoor
open Go.RowKit
set_option linter.unusedVariables false

set_option maxHeartbeats 800000 in
theorem ant_no1 (b : Nat) (s : ByteArray) (w : World) (h : At b s 1 w) (hs : s.size ≤ maxLen) (h1 : 1 ≤ s.size) (hA : inR s 1 32 32 = false) :
    Calls Tryd.prog 143 #[.pointer (some ⟨b, 0, none⟩)] w fun e w' => Reads (.inr 1) b s w e w' := by
  have H0 := hide h
  clear h
  go_enter Tryd.func143, Tryd.ntmps143
  go_wp2_with fail
  refine (expect_no b s 1 32 _ (H0.out.alloc _) h1 hA).mono ?_
  rintro e w1 ⟨rfl, a1, r1⟩
  go_wp2
  exact ⟨rfl, Reads.bad a1 r1.un⟩

theorem isTurn_any (c : Int) (w : World) :
    Calls Tryd.prog 149 #[.int .u8 c] w fun e w' => e = .returned (.bool (c == 76 || c == 82)) ∧ w' = w := by
  cases h1 : (c == 76)
  · cases h2 : (c == 82)
    · go_enter Tryd.func149, Tryd.ntmps149
      go_wp2
      go_ret
      exact ⟨rfl, rfl⟩
    · go_enter Tryd.func149, Tryd.ntmps149
      go_wp2
      go_ret
      exact ⟨rfl, rfl⟩
  · go_enter Tryd.func149, Tryd.ntmps149
    go_wp2
    go_ret
    exact ⟨rfl, rfl⟩

theorem isTurn_yes (c : Int) (w : World) (h : c = 76 ∨ c = 82) :
    Calls Tryd.prog 149 #[.int .u8 c] w fun e w' => e = .returned (.bool true) ∧ w' = w := by
  refine (isTurn_any c w).mono fun e w' ⟨he, hw⟩ => ⟨?_, hw⟩
  rw [he, show (c == 76 || c == 82) = true by simp; omega]
theorem isTurn_no (c : Int) (w : World) (h : ¬ (c = 76 ∨ c = 82)) :
    Calls Tryd.prog 149 #[.int .u8 c] w fun e w' => e = .returned (.bool false) ∧ w' = w := by
  refine (isTurn_any c w).mono fun e w' ⟨he, hw⟩ => ⟨?_, hw⟩
  rw [he, show (c == 76 || c == 82) = false by simp; omega]

theorem turnF_step {s : ByteArray} {i : Nat} (h2 : i < 28) (hi : i < s.size) (h : bt s i = 76 ∨ bt s i = 82) : turnF s (28 - i) i = turnF s (28 - (i + 1)) (i + 1) := by
  rw [show 28 - i = (28 - (i + 1)) + 1 by omega]
  simp only [turnF]
  rw [if_pos ⟨hi, h⟩]
theorem turnF_stop {s : ByteArray} {i : Nat} (h : ¬ (i < 28 ∧ i < s.size ∧ (bt s i = 76 ∨ bt s i = 82))) : turnF s (28 - i) i = i := by
  by_cases h2 : i < 28
  · rw [show 28 - i = (28 - (i + 1)) + 1 by omega]
    simp only [turnF]
    rw [if_neg (by omega)]
  · rw [show 28 - i = 0 by omega]; rfl

theorem Rd.of_below {b : Nat} {w w' : World} (h : Below w.heap.size w w') : Rd b w w' := ⟨h.os, h.tape, h.output, h.size, fun k hk _ => h.block k hk⟩
theorem At.below {b : Nat} {s : ByteArray} {i : Nat} {w w' : World} (h : At b s i w) (hb : Below w.heap.size w w') : At b s i w' := by
  have e := hb.block b h.lt
  exact ⟨(World.cell?_of_block (w := w) (a := ⟨b, 0, none⟩) e).trans h.txt, (World.cell?_of_block (w := w) (a := ⟨b, 1, none⟩) e).trans h.pos,
    (World.frozen?_of_block (w := w) (a := ⟨b, 0, none⟩) e).trans h.fz0, (World.frozen?_of_block (w := w) (a := ⟨b, 1, none⟩) e).trans h.fz1⟩
theorem At.drew {b : Nat} {s : ByteArray} {i : Nat} {w : World} (h : At b s i w) : At b s i w.drew := ⟨h.txt, h.pos, h.fz0, h.fz1⟩
theorem extract_size (s : ByteArray) (a b : Nat) (h : b ≤ s.size) : (s.extract a b).size ≤ b - a := by simp [ByteArray.size_extract]; omega

set_option maxHeartbeats 1600000 in
theorem ant_yes (b : Nat) (s : ByteArray) (w : World) (h : At b s 1 w) (hs : s.size ≤ maxLen) (hA : inR s 1 32 32 = true) :
    Calls Tryd.prog 143 #[.pointer (some ⟨b, 0, none⟩)] w fun e w' => Reads (antS s) b s w e w' := by
  have hT : antS s = if turnF s 26 2 = 2 then .inr 2 else .inl (⟨3, 0, 0, 0, 0, [], s.extract 2 (turnF s 26 2)⟩, turnF s 26 2) := by
    unfold antS; simp [hA]
  have HT := hide hT
  clear hT
  have H0 := hide h
  have hlt := h.lt
  clear h
  have b0 := (inR_true.1 hA).1
  obtain ⟨J, hJ⟩ : ∃ J, J = turnF s 26 2 := ⟨_, rfl⟩
  have HJ := hide hJ
  have HS := hide hs
  clear hJ
  unfold maxLen at hs
  go_enter Tryd.func143, Tryd.ntmps143
  go_wp2_with fail
  refine (expect_yes b s 1 32 _ (H0.out.alloc _) HS.out hA).mono ?_
  rintro e w1 ⟨rfl, a1, r1⟩
  have a2 : At b s 2 w1 := a1
  have A1 := hide a2
  have R1 := hide (show Rd b (w.alloc (.cells zeroCells 24)) w1 from r1)
  have p1 : w1.cell? ⟨b, 1, none⟩ = some (.int .i64 2) := a2.pos
  clear a1 a2 r1
  go_wp2
  go_loopw [10] (fun _ wr => ∃ i : Nat, 2 ≤ i ∧ i ≤ 28 ∧ i ≤ s.size ∧ At b s i wr ∧ Rd b (w.alloc (.cells zeroCells 24)) wr ∧ turnF s (28 - i) i = J) (fun _ wr => s.size - posOf b wr)
  case atStart => exact ⟨2, by omega, by omega, by omega, A1.out, R1.out, HJ.out.symm⟩
  case round =>
    obtain ⟨i, hi2, hi28, his, ak, rk, jk⟩ := hrel
    have AK := hide ak
    have RK := hide rk
    have JK := hide jk
    obtain ⟨g0, g1, g2, g3⟩ := ak
    clear jk rk p1
    by_cases hc : i < 28 ∧ i < s.size ∧ (bt s i = 76 ∨ bt s i = 82)
    · obtain ⟨c1, c2, c3⟩ := hc
      have c1' : decide ((i : Int) - 2 < 26) = true := by simp; omega
      have e2 := bt_lt s i c2
      have C3 := hide (show ((s[i].toNat : Int) = 76 ∨ (s[i].toNat : Int) = 82) by omega)
      clear c3 e2
      go_wp2
      go_quiet (first | (go_at_call 107; exact Calls.quiet_of (ended_no b s i _ (AK.out.drewN _) c2)) | (go_at_call 149; exact Calls.quiet_of_same (isTurn_yes _ _ C3.out)))
      go_wp2
      rw [show (i : Int) + 1 = ((i + 1 : Nat) : Int) by omega]
      have A2 := (AK.out.drewN nq).go (i + 1)
      refine ⟨⟨i + 1, by omega, by omega, by omega, A2, (RK.out.drewN nq).set _ _, ?_⟩, ?_⟩
      · rw [← turnF_step c1 c2 (by have := bt_lt s i c2; have := C3.out; omega)]; exact JK.out
      · rw [A2.posOf, AK.out.posOf]; omega
    · have x1 := JK.out
      rw [turnF_stop hc] at x1
      have x2 := x1.trans HJ.out
      have hx := extract_size s 2 i his
      have HI := hide his
      by_cases c2 : i < s.size
      · by_cases c1 : i < 28
        · have c1' : decide ((i : Int) - 2 < 26) = true := by simp; omega
          have e2 := bt_lt s i c2
          have C3 := hide (show ¬ ((s[i].toNat : Int) = 76 ∨ (s[i].toNat : Int) = 82) by omega)
          clear e2 hc
          by_cases hz : i = 2
          · have n1 : ((i : Int) == 2) = true := by simp; omega
            have X := hide (show antS s = .inr 2 by rw [HT.out, if_pos (by omega)])
            clear x1 x2 hz
            go_wp2
            go_quiet (first | (go_at_call 107; exact Calls.quiet_of (ended_no b s i _ (AK.out.drewN _) c2)) | (go_at_call 149; exact Calls.quiet_of_same (isTurn_no _ _ C3.out)))
            go_wp2_with fail
            refine (fail_any b s i 2 _ (AK.out.drewN nq)).mono ?_
            rintro e w2 ⟨rfl, a2, r2⟩
            go_wp2
            rw [X.out]
            exact ⟨rfl, Reads.bad a2 ((RK.out.un.drewN nq).trans r2)⟩
          · have n1 : ((i : Int) == 2) = false := by simp; omega
            have X := hide (show antS s = .inl (⟨3, 0, 0, 0, 0, [], s.extract 2 i⟩, i) by rw [HT.out, if_neg (by omega), ← x2])
            clear x1 x2
            go_wp2
            go_quiet (first | (go_at_call 107; exact Calls.quiet_of (ended_no b s i _ (AK.out.drewN _) c2)) | (go_at_call 149; exact Calls.quiet_of_same (isTurn_no _ _ C3.out)))
            go_wp2
            go_region_with (go_at_call 158; refine (clone_any _ _ ?_).mono ?_; omega; rintro e w2 ⟨rfl, hb⟩; have R2 := Rd.trans (show Rd b (w.alloc (.cells zeroCells 24)) _ from by repeat (first | exact RK.out | apply Rd.drewN | apply Rd.drew)) (Rd.of_below hb); have A2 := At.below (show At b s i _ from by repeat (first | exact AK.out | apply At.drewN | apply At.drew)) hb; obtain ⟨hc, hf⟩ := R2.made hlt; have c0 := hc 0; have c1 := hc 1; have c2 := hc 2; have c3 := hc 3; have c4 := hc 4; have c5 := hc 5; have c6 := hc 6; simp [zeroCells] at c0 c1 c2 c3 c4 c5 c6; have R3 := hide R2; have A3 := hide A2; clear hc R2 A2 hb)
            all_goals
              go_wp2
              refine bodyPost_ret (v := Out.val ⟨3, 0, 0, 0, 0, [], s.extract 2 i⟩ (.slice none 0 0)) (by simp [results, Tryd.results143, go_sem, Out.val, c0, c1, c2, c3, c4, c5, c6]) rfl ?_
              rw [X.out]
              exact ⟨_, rfl, Or.inl ⟨rfl, rfl⟩, Fresh.nil _, set7_at A3.out (by omega), set7_rd R3.out.un (by omega), HI.out⟩
        · have c1' : decide ((i : Int) - 2 < 26) = false := by simp; omega
          clear hc
          by_cases hz : i = 2
          · have n1 : ((i : Int) == 2) = true := by simp; omega
            have X := hide (show antS s = .inr 2 by rw [HT.out, if_pos (by omega)])
            clear x1 x2 hz
            go_wp2
            go_quiet ((go_at_call 107; exact Calls.quiet_of (ended_no b s i _ (AK.out.drewN _) c2)))
            go_wp2_with fail
            refine (fail_any b s i 2 _ (AK.out.drewN nq)).mono ?_
            rintro e w2 ⟨rfl, a2, r2⟩
            go_wp2
            rw [X.out]
            exact ⟨rfl, Reads.bad a2 ((RK.out.un.drewN nq).trans r2)⟩
          · have n1 : ((i : Int) == 2) = false := by simp; omega
            have X := hide (show antS s = .inl (⟨3, 0, 0, 0, 0, [], s.extract 2 i⟩, i) by rw [HT.out, if_neg (by omega), ← x2])
            clear x1 x2
            go_wp2
            go_quiet ((go_at_call 107; exact Calls.quiet_of (ended_no b s i _ (AK.out.drewN _) c2)))
            go_wp2
            go_region_with (go_at_call 158; refine (clone_any _ _ ?_).mono ?_; omega; rintro e w2 ⟨rfl, hb⟩; have R2 := Rd.trans (show Rd b (w.alloc (.cells zeroCells 24)) _ from by repeat (first | exact RK.out | apply Rd.drewN | apply Rd.drew)) (Rd.of_below hb); have A2 := At.below (show At b s i _ from by repeat (first | exact AK.out | apply At.drewN | apply At.drew)) hb; obtain ⟨hc, hf⟩ := R2.made hlt; have c0 := hc 0; have c1 := hc 1; have c2 := hc 2; have c3 := hc 3; have c4 := hc 4; have c5 := hc 5; have c6 := hc 6; simp [zeroCells] at c0 c1 c2 c3 c4 c5 c6; have R3 := hide R2; have A3 := hide A2; clear hc R2 A2 hb)
            all_goals
              go_wp2
              refine bodyPost_ret (v := Out.val ⟨3, 0, 0, 0, 0, [], s.extract 2 i⟩ (.slice none 0 0)) (by simp [results, Tryd.results143, go_sem, Out.val, c0, c1, c2, c3, c4, c5, c6]) rfl ?_
              rw [X.out]
              exact ⟨_, rfl, Or.inl ⟨rfl, rfl⟩, Fresh.nil _, set7_at A3.out (by omega), set7_rd R3.out.un (by omega), HI.out⟩
      · have C3 := hide (show i = s.size by omega)
        clear hc
        by_cases hz : i = 2
        · have n1 : ((i : Int) == 2) = true := by simp; omega
          have X := hide (show antS s = .inr 2 by rw [HT.out, if_pos (by omega)])
          clear x1 x2 hz
          go_wp2
          go_quiet ((go_at_call 107; exact Calls.quiet_of (ended_yes b s i _ (AK.out.drewN _) C3.out)))
          go_wp2_with fail
          refine (fail_any b s i 2 _ (AK.out.drewN nq)).mono ?_
          rintro e w2 ⟨rfl, a2, r2⟩
          go_wp2
          rw [X.out]
          exact ⟨rfl, Reads.bad a2 ((RK.out.un.drewN nq).trans r2)⟩
        · have n1 : ((i : Int) == 2) = false := by simp; omega
          have X := hide (show antS s = .inl (⟨3, 0, 0, 0, 0, [], s.extract 2 i⟩, i) by rw [HT.out, if_neg (by omega), ← x2])
          clear x1 x2
          go_wp2
          go_quiet ((go_at_call 107; exact Calls.quiet_of (ended_yes b s i _ (AK.out.drewN _) C3.out)))
          go_wp2
          go_region_with (go_at_call 158; refine (clone_any _ _ ?_).mono ?_; omega; rintro e w2 ⟨rfl, hb⟩; have R2 := Rd.trans (show Rd b (w.alloc (.cells zeroCells 24)) _ from by repeat (first | exact RK.out | apply Rd.drewN | apply Rd.drew)) (Rd.of_below hb); have A2 := At.below (show At b s i _ from by repeat (first | exact AK.out | apply At.drewN | apply At.drew)) hb; obtain ⟨hc, hf⟩ := R2.made hlt; have c0 := hc 0; have c1 := hc 1; have c2 := hc 2; have c3 := hc 3; have c4 := hc 4; have c5 := hc 5; have c6 := hc 6; simp [zeroCells] at c0 c1 c2 c3 c4 c5 c6; have R3 := hide R2; have A3 := hide A2; clear hc R2 A2 hb)
          all_goals
            go_wp2
            refine bodyPost_ret (v := Out.val ⟨3, 0, 0, 0, 0, [], s.extract 2 i⟩ (.slice none 0 0)) (by simp [results, Tryd.results143, go_sem, Out.val, c0, c1, c2, c3, c4, c5, c6]) rfl ?_
            rw [X.out]
            exact ⟨_, rfl, Or.inl ⟨rfl, rfl⟩, Fresh.nil _, set7_at A3.out (by omega), set7_rd R3.out.un (by omega), HI.out⟩

theorem ant_any (b : Nat) (s : ByteArray) (w : World) (h : At b s 1 w) (hs : s.size ≤ maxLen) (h1 : 1 ≤ s.size) :
    Calls Tryd.prog 143 #[.pointer (some ⟨b, 0, none⟩)] w fun e w' => Reads (antS s) b s w e w' := by
  cases hA : inR s 1 32 32 with
  | true => exact ant_yes b s w h hs hA
  | false =>
    rw [show antS s = .inr 1 by unfold antS; simp [hA]]
    exact ant_no1 b s w h hs h1 hA
end Go.Proofs.YtjngjnkecnnmeaaDoor

