/-
  What the last text of this claim leans on, part 21: Wi1, Wi2.
-/
import Derived.Test.YtjngjnkecnnmeaaDoorJw18
import Derived.Test.YtjngjnkecnnmeaaDoorJw19
import Derived.Test.YtjngjnkecnnmeaaDoorJw20
namespace Go.Proofs.YtjngjnkecnnmeaaDoor
open Go.RowKit
set_option linter.unusedVariables false

def bestP (q : Pat) : Nat → Pat
  | 0 => q
  | k + 1 => if aheadB (q.turn (k + 1)) (bestP q k) then q.turn (k + 1) else bestP q k
def canonP (p : Pat) : Pat := bestP (trimP p).1 7

structure Fits (n : Nat) (p : Pat) : Prop where
  ok : p.ok
  w : p.W ≤ 100
  h : p.H ≤ 100
  len : p.xs.length = n
theorem Fits.small {n : Nat} {p : Pat} (h : Fits n p) : p.xs.length ≤ 10000 := Go.Proofs.YtjngjnkecnnmeaaDoor.small p h.ok h.w h.h
theorem Fits.max {n : Nat} {p : Pat} (h : Fits n p) : p.xs.length ≤ maxLen := Nat.le_trans h.small (by decide)
theorem turn_fits {n : Nat} {p : Pat} (h : Fits n p) (k : Nat) (hk : k < 8) : Fits n (p.turn k) := by
  rw [turn_is p h.ok k hk]
  have hl := h.len
  have ho : p.xs.length = p.W * p.H := h.ok
  refine ⟨refTurn_length p k, ?_, ?_, ?_⟩
  · show turnW p k ≤ 100; unfold turnW; have := h.w; have := h.h; split <;> omega
  · show turnH p k ≤ 100; unfold turnH; have := h.w; have := h.h; split <;> omega
  · show (refTurn p k).length = n
    rw [refTurn_length, ← hl, ho]
    unfold turnW turnH
    split
    · exact Nat.mul_comm _ _
    · rfl
theorem best_fits {n : Nat} {p : Pat} (h : Fits n p) : ∀ k, k < 8 → Fits n (bestP p k) := by
  intro k
  induction k with
  | zero => intro _; exact h
  | succ k ih =>
    intro hk
    rw [bestP]
    split
    · exact turn_fits h _ hk
    · exact ih (by omega)
theorem trim_fits (p : Pat) (h1 : p.W ≤ 100) (h2 : p.H ≤ 100) : Fits (trimP p).1.xs.length (trimP p).1 := ⟨trim_ok p, (trim_le p h1 h2).1, (trim_le p h1 h2).2, rfl⟩

theorem Tab.keep {w w' : World} {v : Value} {xs : List Int} (h : Tab w v xs) (hs : w.heap.size ≤ w'.heap.size) (e : ∀ g k c, v = .slice (some ⟨g, 0, none⟩) k c → w'.heap[g]? = w.heap[g]?) : Tab w' v xs := by
  rcases h with h | ⟨g, cap, e1, hg, hc⟩
  · exact Or.inl h
  · exact Or.inr ⟨g, cap, e1, by omega, fun k hk => (World.cell?_of_block (w := w) (a := ⟨g, k, none⟩) (e g _ _ e1)).trans (hc k hk)⟩
theorem Tab.lt {w : World} {v : Value} {xs : List Int} (h : Tab w v xs) {g k c : Nat} (e : v = .slice (some ⟨g, 0, none⟩) k c) : g < w.heap.size := by
  rcases h with ⟨-, h⟩ | ⟨g', cap, e1, hg, hc⟩
  · rw [e] at h; injection h with h1; cases h1
  · rw [e] at e1; injection e1 with h1; injection h1 with h2; injection h2 with h3; omega
theorem Tab.nextB {w w' : World} {v : Value} {xs : List Int} (h : Tab w v xs) (hb : Below w.heap.size w w') : Tab w' v xs := h.keep hb.size fun g k c e => hb.block g (h.lt e)

structure CN (w wr : World) (T : Nat) (q b : Pat) (va vb : Value) : Prop where
  qb : TB T (.int .i64 (q.W : Int)) (.int .i64 (q.H : Int)) va wr
  fb : TB (T + 1) (.int .i64 (b.W : Int)) (.int .i64 (b.H : Int)) vb wr
  rb : TB (w.heap.size + 1) (.int .i64 0) (.int .i64 0) (.slice none 0 0) wr
  ta : Tab wr va q.xs
  tb : Tab wr vb b.xs
  na : ∀ g k c, va = .slice (some ⟨g, 0, none⟩) k c → w.heap.size + 2 ≤ g ∧ g ≠ T + 1
  nb : ∀ g k c, vb = .slice (some ⟨g, 0, none⟩) k c → w.heap.size + 2 ≤ g ∧ g ≠ T + 1
  lo : w.heap.size + 2 ≤ T
  sz : T + 2 ≤ wr.heap.size
  below : Below w.heap.size w wr
theorem CN.start {w w1 : World} {q : Pat} {va : Value} (rb : TB (w.heap.size + 1) (.int .i64 0) (.int .i64 0) (.slice none 0 0) w1) (ta : Tab w1 va q.xs) (fr : ∀ g k c, va = .slice (some ⟨g, 0, none⟩) k c → w.heap.size + 2 ≤ g) (hb : Below w.heap.size w w1) (hz : w.heap.size + 2 ≤ w1.heap.size) (t1 t2 : TypeId) :
    CN w ((w1.alloc (.cells #[.int .i64 (q.W : Int), .int .i64 (q.H : Int), va] t1)).alloc (.cells #[.int .i64 (q.W : Int), .int .i64 (q.H : Int), va] t2)) w1.heap.size q q va va := by
  have f := TB.new (w1.alloc (.cells #[.int .i64 (q.W : Int), .int .i64 (q.H : Int), va] t1)) (.int .i64 (q.W : Int)) (.int .i64 (q.H : Int)) va t2
  rw [World.size_alloc] at f
  have ta2 : Tab ((w1.alloc (.cells #[.int .i64 (q.W : Int), .int .i64 (q.H : Int), va] t1)).alloc (.cells #[.int .i64 (q.W : Int), .int .i64 (q.H : Int), va] t2)) va q.xs := ta.nextB (((Below.refl _ _).alloc (Nat.le_refl _) _).alloc (by simp) _)
  have na : ∀ g k c, va = .slice (some ⟨g, 0, none⟩) k c → w.heap.size + 2 ≤ g ∧ g ≠ w1.heap.size + 1 := fun g k c e => ⟨fr g k c e, by have := ta.lt e; omega⟩
  exact ⟨(TB.new w1 _ _ _ t1).alloc _, f, (rb.alloc _).alloc _, ta2, ta2, na, na, hz, by simp, (hb.alloc (by omega) _).alloc (by simp; omega) _⟩
theorem CN.next {w wr w' : World} {T : Nat} {q b : Pat} {va vb : Value} (h : CN w wr T q b va vb) (hb : Below wr.heap.size wr w') : CN w w' T q b va vb :=
  ⟨h.qb.next hb, h.fb.next hb, h.rb.next hb, h.ta.nextB hb, h.tb.nextB hb, h.na, h.nb, h.lo, Nat.le_trans h.sz hb.size, h.below.trans (hb.mono (by have := h.below.size; omega))⟩
theorem CN.put {w wr : World} {T : Nat} {q b : Pat} {va vb : Value} (h : CN w wr T q b va vb) (t : Pat) (v : Value) (hv : Tab wr v t.xs) (hn : ∀ g k c, v = .slice (some ⟨g, 0, none⟩) k c → w.heap.size + 2 ≤ g ∧ g ≠ T + 1) :
    CN w (((wr.setCell ⟨T + 1, 0, none⟩ (.int .i64 (t.W : Int))).setCell ⟨T + 1, 1, none⟩ (.int .i64 (t.H : Int))).setCell ⟨T + 1, 2, none⟩ v) T q t va v := by
  have hl := h.lo
  exact ⟨h.qb.block (stored_blk wr _ _ _ _ _ (by omega)), h.fb.store _ _ _, h.rb.block (stored_blk wr _ _ _ _ _ (by omega)), h.ta.keep (by simp) (fun g k c e => stored_blk wr _ _ _ _ _ (h.na g k c e).2), hv.keep (by simp) (fun g k c e => stored_blk wr _ _ _ _ _ (hn g k c e).2), h.na, hn, h.lo, by simp; exact h.sz,
    ((h.below.setCell (by simp; omega) _).setCell (by simp; omega) _).setCell (by simp; omega) _⟩

set_option maxRecDepth 100000 in
set_option maxHeartbeats 800000 in
theorem pTrim_bad (W H : Int) (xs : List Int) (a : Option Addr) (n c : Nat) (w : World) (hP : ArgP w xs a n c) (hs : shapeF W H xs ≠ 0) :
    Calls Tryd.prog 30 #[.agg #[.int .i64 W, .int .i64 H, .slice a n c]] w fun e w' => e = .returned (.tuple #[.agg #[.int .i64 0, .int .i64 0, .slice none 0 0], .int .i64 0, .int .i64 0, .iface 87 (.int .i64 (shapeF W H xs : Int))]) ∧ Below w.heap.size w w' := by
  have AP0 := hide' ((hP.alloc (.cells #[.int .i64 W, .int .i64 H, .slice a n c] 51)).alloc (.cells #[.int .i64 0, .int .i64 0, .slice none 0 0] 51))
  have RX0 := TB.new (w.alloc (.cells #[.int .i64 W, .int .i64 H, .slice a n c] 51)) (.int .i64 0) (.int .i64 0) (.slice none 0 0) 51
  rw [World.size_alloc] at RX0
  have RX := hide' RX0
  obtain ⟨f, hf⟩ : ∃ f, shapeF W H xs = f := ⟨_, rfl⟩
  rw [hf] at hs ⊢
  have HF := hide' hf
  have HS := hide' hs
  clear hP RX0 hf hs
  go_enter Tryd.func30, Tryd.ntmps30
  go_wp2_with fail
  refine (Check_P W H xs a n c _ AP0.out).mono ?_
  rw [HF.out, errOf_pos HS.out]
  rintro e w2 ⟨rfl, b2⟩
  have BB := hide' (show Below w.heap.size w w2 from (((Below.refl _ _).alloc (Nat.le_refl _) _).alloc (by simp) _).trans (b2.mono (by simp only [World.size_alloc]; omega)))
  obtain ⟨r0, r1, r2, rf⟩ := RX.out.next b2
  have f0 := rf 0
  have f1 := rf 1
  have f2 := rf 2
  clear rf b2
  go_wp2
  refine bodyPost_ret (v := .tuple #[.agg #[.int .i64 0, .int .i64 0, .slice none 0 0], .int .i64 0, .int .i64 0, .iface 87 (.int .i64 (f : Int))]) (by simp [results, Tryd.results30, go_sem, r0, r1, r2]) rfl ?_
  exact ⟨rfl, ((BB.out.setCell (by simp) _).setCell (by simp) _).setCell (by simp) _⟩

set_option maxRecDepth 100000 in
set_option maxHeartbeats 800000 in
theorem pCanon_bad (W H : Int) (xs : List Int) (a : Option Addr) (n c : Nat) (w : World) (hP : ArgP w xs a n c) (hs : shapeF W H xs ≠ 0) :
    Calls Tryd.prog 31 #[.agg #[.int .i64 W, .int .i64 H, .slice a n c]] w (ErrPost (shapeF W H xs) w) := by
  have AP0 := hide' ((hP.alloc (.cells #[.int .i64 W, .int .i64 H, .slice a n c] 51)).alloc (.cells #[.int .i64 0, .int .i64 0, .slice none 0 0] 51))
  have RX0 := TB.new (w.alloc (.cells #[.int .i64 W, .int .i64 H, .slice a n c] 51)) (.int .i64 0) (.int .i64 0) (.slice none 0 0) 51
  rw [World.size_alloc] at RX0
  have RX := hide' RX0
  have HS := hide' hs
  clear hP RX0 hs
  go_enter Tryd.func31, Tryd.ntmps31
  go_wp2_with fail
  refine (pTrim_bad W H xs a n c _ AP0.out HS.out).mono ?_
  rintro e w2 ⟨rfl, b2⟩
  have hz2 := b2.size
  simp only [World.size_alloc] at hz2
  have BB := hide' (show Below w.heap.size w w2 from (((Below.refl _ _).alloc (Nat.le_refl _) _).alloc (by simp) _).trans (b2.mono (by simp only [World.size_alloc]; omega)))
  obtain ⟨r0, r1, r2, rf⟩ := (RX.out.next b2).alloc (.cells #[.int .i64 0, .int .i64 0, .slice none 0 0] 51)
  have f0 := rf 0
  have f1 := rf 1
  have f2 := rf 2
  clear rf b2
  go_wp2
  refine bodyPost_ret (v := .tuple #[.agg #[.int .i64 0, .int .i64 0, .slice none 0 0], .iface 87 (.int .i64 (shapeF W H xs : Int))]) (by simp [results, Tryd.results31, go_sem, r0, r1, r2]) rfl ?_
  exact ⟨rfl, (((BB.out.alloc (by omega) _).setCell (by simp) _).setCell (by simp) _).setCell (by simp) _⟩
end Go.Proofs.YtjngjnkecnnmeaaDoor

namespace Go.Proofs.YtjngjnkecnnmeaaDoor
open Go.RowKit
set_option linter.unusedVariables false

theorem best_yes {q : Pat} {m : Nat} (hm : 1 ≤ m) (h : cmpP (q.turn m) (bestP q (m - 1)) < 0) : bestP q m = q.turn m := by
  obtain ⟨k, rfl⟩ : ∃ k, m = k + 1 := ⟨m - 1, by omega⟩
  rw [bestP, if_pos]
  simp only [Nat.add_sub_cancel] at h
  simp [aheadB, h]
theorem best_no {q : Pat} {m : Nat} (hm : 1 ≤ m) (h : ¬ cmpP (q.turn m) (bestP q (m - 1)) < 0) : bestP q m = bestP q (m - 1) := by
  obtain ⟨k, rfl⟩ : ∃ k, m = k + 1 := ⟨m - 1, by omega⟩
  rw [bestP, if_neg]
  · simp
  · simp only [Nat.add_sub_cancel] at h
    simp [aheadB, h]

def CanonPost (p : Pat) (w : World) (e : Ending) (w' : World) : Prop :=
  ∃ v, e = .returned (.tuple #[.agg #[.int .i64 ((canonP p).W : Int), .int .i64 ((canonP p).H : Int), v], .nilIface]) ∧ Tab w' v (canonP p).xs ∧ Fresh w v ∧ Below w.heap.size w w'

set_option maxRecDepth 100000 in
set_option maxHeartbeats 1600000 in
theorem pCanon (W H : Nat) (xs : List Int) (a : Option Addr) (n c : Nat) (w : World) (hP : ArgP w xs a n c) (hc : n ≤ c) (hcm : c ≤ maxLen) (lW : W ≤ 100) (lH : H ≤ 100) (hs : shapeF W H xs = 0) (hn : n = W * H) :
    Calls Tryd.prog 31 #[.agg #[.int .i64 (W : Int), .int .i64 (H : Int), .slice a n c]] w (CanonPost ⟨W, H, xs⟩ w) := by
  have AP0 := hide' ((hP.alloc (.cells #[.int .i64 (W : Int), .int .i64 (H : Int), .slice a n c] 51)).alloc (.cells #[.int .i64 0, .int .i64 0, .slice none 0 0] 51))
  have RX0 := TB.new (w.alloc (.cells #[.int .i64 (W : Int), .int .i64 (H : Int), .slice a n c] 51)) (.int .i64 0) (.int .i64 0) (.slice none 0 0) 51
  rw [World.size_alloc] at RX0
  have RX := hide' RX0
  have HS := hide' hs
  have HN := hide' hn
  have FQ0 := hide' (trim_fits ⟨W, H, xs⟩ lW lH)
  obtain ⟨q, hq⟩ : ∃ q, (trimP ⟨W, H, xs⟩).1 = q := ⟨_, rfl⟩
  have HQ := hide' hq
  have CP := hide' (show canonP ⟨W, H, xs⟩ = bestP q 7 by unfold canonP; rw [hq])
  rw [hq] at FQ0
  have FQ := FQ0
  clear hP RX0 hs hn hq FQ0
  go_enter Tryd.func31, Tryd.ntmps31
  go_wp2_with fail
  refine (pTrim W H xs a n c _ AP0.out hc hcm lW lH HS.out HN.out).mono ?_
  rintro e w1 ⟨va, rfl, ta, fr, b1⟩
  rw [HQ.out] at ta ⊢
  have hz1 := b1.size
  simp only [World.size_alloc] at hz1
  have C0 := hide' (CN.start (RX.out.next b1) ta (fun g k c e => by have := fr g k c e; simp only [World.size_alloc] at this; omega) (show Below w.heap.size w w1 from (((Below.refl _ _).alloc (Nat.le_refl _) _).alloc (by simp) _).trans (b1.mono (by simp only [World.size_alloc]; omega))) (by omega) 51 51)
  obtain ⟨aa, ca, rfl, -⟩ := ta.arg FQ.out.max
  obtain ⟨l0, hl0⟩ : ∃ x, (trimP ⟨W, H, xs⟩).2.1 = x := ⟨_, rfl⟩
  obtain ⟨t0, ht0⟩ : ∃ x, (trimP ⟨W, H, xs⟩).2.2 = x := ⟨_, rfl⟩
  rw [hl0, ht0]
  clear ta fr b1 hl0 ht0
  go_wp2
  go_loopw [9] (fun kv wr => ∃ (m : Nat) (v : Value), kv = .int .i64 (m : Int) ∧ 1 ≤ m ∧ m ≤ 8 ∧ CN w wr w1.heap.size q (bestP q (m - 1)) (.slice aa q.xs.length ca) v) (fun kv _ => 8 - (intOf kv).toNat)
  case atStart => exact ⟨1, _, rfl, by omega, by omega, C0.out⟩
  case round =>
    obtain ⟨m, vb, rfl, hm1, hm8, cn⟩ := hrel
    have FB := hide' (best_fits FQ.out (m - 1) (by omega))
    have B1 := hide' (best_yes (q := q) hm1)
    have B2 := hide' (best_no (q := q) hm1)
    obtain ⟨b, hb⟩ : ∃ b, bestP q (m - 1) = b := ⟨_, rfl⟩
    have HB := hide' hb
    rw [hb] at cn FB B1 B2
    obtain ⟨ab, cb, rfl, -⟩ := cn.tb.arg FB.out.max
    have CNH := hide' cn
    clear C0 hb
    by_cases d : (m : Int) < 8
    · have FT := hide' (turn_fits FQ.out m (by omega))
      obtain ⟨_, _, e0, ap⟩ := cn.ta.arg FQ.out.max
      injection e0 with e1 _ e2
      subst e1 e2
      have AP := hide' ap
      obtain ⟨x0, x1, x2, -⟩ := cn.qb
      clear cn ap
      go_wp2_with fail
      refine (pturned_any q m _ _ _ AP.out FQ.out.ok FQ.out.w FQ.out.h (by omega)).mono ?_
      rintro e w2 ⟨v2, rfl, tb2, fr2, b2⟩
      have hzr := CNH.out.sz
      have hlo := CNH.out.lo
      have hz2 := b2.size
      obtain ⟨t, ht⟩ : ∃ t, q.turn m = t := ⟨_, rfl⟩
      rw [ht] at FT B1 B2 tb2 ⊢
      obtain ⟨a2, c2, rfl, -⟩ := tb2.arg FT.out.max
      have NV := hide' (fun g k c e => (⟨by have := fr2 g k c e; omega, by have := fr2 g k c e; omega⟩ : w.heap.size + 2 ≤ g ∧ g ≠ w1.heap.size + 1))
      have C2 := hide' ((CNH.out.next b2).next ((Below.refl _ _).alloc (Nat.le_refl _) (.cells #[.int .i64 (t.W : Int), .int .i64 (t.H : Int), .slice a2 t.xs.length c2] 51)))
      have T2 := hide' (tb2.nextB ((Below.refl _ _).alloc (Nat.le_refl _) (.cells #[.int .i64 (t.W : Int), .int .i64 (t.H : Int), .slice a2 t.xs.length c2] 51)))
      have X2 := hide' (TB.new w2 (.int .i64 (t.W : Int)) (.int .i64 (t.H : Int)) (.slice a2 t.xs.length c2) 51)
      obtain ⟨y0, y1, y2, -⟩ := C2.out.fb
      obtain ⟨z0, z1, z2, -⟩ := X2.out
      have hsz2 : (w2.alloc (.cells #[.int .i64 (t.W : Int), .int .i64 (t.H : Int), .slice a2 t.xs.length c2] 51)).heap.size = w2.heap.size + 1 := by simp
      have HT := hide' ht
      obtain ⟨_, _, e0, ap2⟩ := T2.out.arg FT.out.max
      injection e0 with e1 _ e2
      subst e1 e2
      obtain ⟨_, _, e0, apb⟩ := C2.out.tb.arg FB.out.max
      injection e0 with e1 _ e2
      subst e1 e2
      have AP2 := hide' ap2
      have APB := hide' apb
      clear x0 x1 x2 b2 tb2 fr2 ht ap2 apb
      go_wp2_with fail
      refine (compare_any t b _ _ _ _ _ AP2.out APB.out FT.out.small (by rw [FB.out.len, FT.out.len])).mono ?_
      rintro e w4 ⟨rfl, b4⟩
      have C4 := hide' (C2.out.next b4)
      have T4 := hide' (T2.out.nextB b4)
      obtain ⟨z0, z1, z2, -⟩ := X2.out.next b4
      obtain ⟨y0, y1, y2, yf⟩ := C4.out.fb
      have g0 := yf 0
      have g1 := yf 1
      have g2 := yf 2
      clear b4 yf
      obtain ⟨cv, hcv⟩ : ∃ x, cmpP t b = x := ⟨_, rfl⟩
      rw [hcv] at B1 B2 ⊢
      clear hcv
      by_cases i1 : cv < 0
      · have E := hide' (B1.out i1)
        go_wp2
        refine ⟨⟨m + 1, .slice a2 t.xs.length c2, by go_num, by omega, by omega, ?_⟩, by simp [intOf]; omega⟩
        rw [Nat.add_sub_cancel, E.out]
        exact C4.out.put t _ T4.out NV.out
      · have E := hide' (B2.out (by omega))
        go_wp2
        refine ⟨⟨m + 1, .slice ab b.xs.length cb, by go_num, by omega, by omega, ?_⟩, by simp [intOf]; omega⟩
        rw [Nat.add_sub_cancel, E.out]
        exact C4.out
    · have E := hide' (show bestP q 7 = b by rw [← HB.out, show m - 1 = 7 by omega])
      obtain ⟨y0, y1, y2, -⟩ := cn.fb
      obtain ⟨r0, r1, r2, rf⟩ := cn.rb
      have f0 := rf 0
      have f1 := rf 1
      have f2 := rf 2
      clear cn rf
      go_wp2
      refine bodyPost_ret (v := .tuple #[.agg #[.int .i64 (b.W : Int), .int .i64 (b.H : Int), .slice ab b.xs.length cb], .nilIface]) (by simp [results, Tryd.results31, go_sem, r0, r1, r2]) rfl ?_
      have hn2 := CNH.out.nb
      refine ⟨.slice ab b.xs.length cb, by rw [CP.out, E.out], ?_, fun g k c e => by have := hn2 g k c e; omega, ((CNH.out.below.setCell (by simp) _).setCell (by simp) _).setCell (by simp) _⟩
      rw [CP.out, E.out]
      exact CNH.out.tb.keep (by simp) (fun g k c e => stored_blk _ _ _ _ _ _ (by have := hn2 g k c e; omega))
end Go.Proofs.YtjngjnkecnnmeaaDoor

