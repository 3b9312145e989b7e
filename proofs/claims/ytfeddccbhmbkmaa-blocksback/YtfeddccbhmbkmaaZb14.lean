/-
  What the last text of this claim leans on, part 14: Bkh, We2, We3, Wf2, Wg1, Wh1, Wh2, Wh3, Wi1, Wi2, Wc2, Wf3.
-/
import Derived.Test.YtfeddccbhmbkmaaZb13
import Derived.Test.YtfeddccbhmbkmaaZb8
namespace Go.Proofs.Ytfeddccbhmbkmaa
open Go.RowKit
set_option linter.unusedVariables false
theorem keep_of {tv : Nat → Nat} (h : keepB tv = true) : ∀ j, j < 16 → ones4 j = ones4 (tv j) := fun j hj => by
  unfold keepB at h
  have := List.all_eq_true.1 h j (List.mem_range.2 hj)
  simpa using this
theorem turn_of {tv : Nat → Nat} (h : turnB tv = true) : ∀ j, j < 16 → tv (qtrN j) = qtrN (tv j) := fun j hj => by
  unfold turnB at h
  have := List.all_eq_true.1 h j (List.mem_range.2 hj)
  simpa using this
theorem getD_map {N : Nat} (g : Nat → Int) {i : Nat} (hi : i < N) : ((List.range N).map g).getD i 0 = g i := by simp [List.getD, hi]
theorem getD_far {N : Nat} (g : Nat → Int) {i : Nat} (hi : ¬ i < N) : ((List.range N).map g).getD i 0 = 0 := by simp [List.getD, hi]
theorem cf_map {N : Nat} {f : Nat → Nat} {i : Nat} (hi : i < N) : cfF ((List.range N).map fun i => (f i : Int)) i = f i := by unfold cfF; rw [getD_map _ hi]; rfl
theorem map_bits {N : Nat} {f : Nat → Nat} (hf : ∀ i, f i ≤ 1) (i : Nat) : 0 ≤ ((List.range N).map fun i => (f i : Int)).getD i 0 ∧ ((List.range N).map fun i => (f i : Int)).getD i 0 ≤ 1 := by
  by_cases h : i < N
  · rw [getD_map _ h]; have := hf i; omega
  · rw [getD_far _ h]; omega
theorem map_cong {N : Nat} {f g : Nat → Int} (h : ∀ i, i < N → f i = g i) : (List.range N).map f = (List.range N).map g := List.map_congr_left fun i hi => h i (List.mem_range.1 hi)
/-- What is kept is kept, as it is counted. -/
theorem count_kept {t xs : List Int} {W H V U ph n : Nat} (e : Evn W H V U) (hp : ph ≤ 1) (hx : ∀ i, 0 ≤ xs.getD i 0 ∧ xs.getD i 0 ≤ 1) (hn : xs.length = W * H) (hk : keepB (tvF t) = true) : sumI (runL8 t W H ph xs n) (W * H) = sumI xs (W * H) := by
  have a := sumI_B (f := runB (tvF t) W H ph (cfF xs) n) (N := W * H) (W * H) (Nat.le_refl _)
  have b := sumI_B (f := cfF xs) (N := W * H) (W * H) (Nat.le_refl _)
  have xl := cf_list hx
  rw [hn] at xl
  rw [← xl] at b
  rw [b, runL8, a, runB_sum e hp (keep_of hk) (cf_le hx) n]
/-- Steps of a turned pattern, as lists. -/
theorem list_turned {t xs : List Int} {W H V U ph n : Nat} (e : Evn W H V U) (hp : ph ≤ 1) (ht : ∀ k, k < 16 → tvF t k < 16) (hx : ∀ i, 0 ≤ xs.getD i 0 ∧ xs.getD i 0 ≤ 1) (hn : xs.length = W * H) (hq : turnB (tvF t) = true) : runL8 t H W ph (qtrP W H xs) n = qtrP W H (runL8 t W H ph xs n) := by
  unfold runL8
  show List.map _ _ = List.map (fun q => (List.map (fun i => (runB (tvF t) W H ph (cfF xs) n i : Int)) (List.range (W * H))).getD ((H - 1 - q % H) * W + q / H) 0) (List.range (H * W))
  refine map_cong fun i hi => ?_
  have H0 : 0 < H := by rcases Nat.eq_zero_or_pos H with h | h; · rw [h] at hi; simp at hi
                        · exact h
  have cq : ∀ i, i < H * W → cfF (qtrP W H xs) i = qF W H (cfF xs) i := fun i hi => by
    unfold qtrP qF cfF
    rw [getD_map _ hi]
  have sl : (H - 1 - i % H) * W + i / H < W * H := by
    have hy : i / H < W := Nat.div_lt_of_lt_mul hi
    have hx : i % H < H := Nat.mod_lt _ H0
    have := Nat.mul_le_mul_right W (show (H - 1 - i % H) + 1 ≤ H by omega)
    rw [Nat.add_mul, Nat.mul_comm H W] at this
    omega
  rw [getD_map _ sl, runB_congr e.swap hp (tvF t) cq n i hi, runB_turn e hp ht (turn_of hq) (cf_le hx) n i hi]
  rfl
/-- The undoing table, as a list. -/
def backL (tv : Nat → Nat) : List Int := (List.range 16).map fun v => (backF tv 16 v : Int)
theorem backF_lt (tv : Nat → Nat) : ∀ i v, i ≤ 16 → backF tv i v < 16
  | 0, _, _ => by rw [backF]; omega
  | i + 1, v, h => by
    rw [backF]
    split
    · omega
    · exact backF_lt tv i v (by omega)
theorem backL_ok (tv : Nat → Nat) : tabE (backL tv) = 0 := by
  refine tabE_good (by simp [backL]) fun k hk _ => ?_
  have e : (backL tv)[k]'hk = (backF tv 16 k : Int) := by simp [backL]
  have l := backF_lt tv 16 k (Nat.le_refl _)
  have g : in16 (backF tv 16 k : Int) = true := by unfold in16; simp; omega
  exact e ▸ g
theorem list_back {t xs : List Int} {W H V U ph n : Nat} (e : Evn W H V U) (hp : ph ≤ 1) (ht : ∀ k, k < 16 → tvF t k < 16) (hx : ∀ i, 0 ≤ xs.getD i 0 ∧ xs.getD i 0 ≤ 1) (hn : xs.length = W * H) (hi : ∀ a b, a < 16 → b < 16 → tvF t a = tvF t b → a = b) : runL8 (backL (tvF t)) W H ((ph + n + 1) % 2) (runL8 t W H ph xs n) n = xs := by
  have pe : (ph + n + 1) % 2 = phS ph (n + 1) := by unfold phS; split <;> omega
  have bk : ∀ k, k < 16 → tvF (backL (tvF t)) (tvF t k) = k := fun k hk => by
    have h1 : tvF (backL (tvF t)) (tvF t k) = backF (tvF t) 16 (tvF t k) := by
      unfold backL
      exact cf_map (ht k hk)
    rw [h1]
    exact backF_of hi 16 (Nat.le_refl _) k hk
  have xl := cf_list hx
  rw [hn] at xl
  rw [pe]
  conv => rhs; rw [xl]
  unfold runL8
  refine map_cong fun i hl => ?_
  rw [runB_congr e (phS_le hp (n + 1)) _ (fun i hi => cf_map (f := runB (tvF t) W H ph (cfF xs) n) hi) n i hl, runB_back e ht bk hp (cf_le hx) n i hl]
end Go.Proofs.Ytfeddccbhmbkmaa

namespace Go.Proofs.Ytfeddccbhmbkmaa
open Go.RowKit
set_option linter.unusedVariables false

end Go.Proofs.Ytfeddccbhmbkmaa

namespace Go.Proofs.Ytfeddccbhmbkmaa
open Go.RowKit
set_option linter.unusedVariables false

end Go.Proofs.Ytfeddccbhmbkmaa

namespace Go.Proofs.Ytfeddccbhmbkmaa
open Go.RowKit
set_option linter.unusedVariables false

end Go.Proofs.Ytfeddccbhmbkmaa

namespace Go.Proofs.Ytfeddccbhmbkmaa
open Go.RowKit
set_option linter.unusedVariables false

end Go.Proofs.Ytfeddccbhmbkmaa

namespace Go.Proofs.Ytfeddccbhmbkmaa
open Go.RowKit
set_option linter.unusedVariables false

end Go.Proofs.Ytfeddccbhmbkmaa

namespace Go.Proofs.Ytfeddccbhmbkmaa
open Go.RowKit
set_option linter.unusedVariables false

end Go.Proofs.Ytfeddccbhmbkmaa

namespace Go.Proofs.Ytfeddccbhmbkmaa
open Go.RowKit
set_option linter.unusedVariables false

def SC (w : World) (p q : Pat) (va vb : Value) (w' : World) : Prop :=
  w'.cell? ⟨w.heap.size, 0, none⟩ = some (.int .i64 (p.W : Int)) ∧ w'.cell? ⟨w.heap.size, 1, none⟩ = some (.int .i64 (p.H : Int)) ∧ w'.cell? ⟨w.heap.size, 2, none⟩ = some va ∧
  w'.cell? ⟨w.heap.size + 1, 0, none⟩ = some (.int .i64 (q.W : Int)) ∧ w'.cell? ⟨w.heap.size + 1, 1, none⟩ = some (.int .i64 (q.H : Int)) ∧ w'.cell? ⟨w.heap.size + 1, 2, none⟩ = some vb ∧
  Hid (w.heap.size + 2 ≤ w'.heap.size ∧ Below w.heap.size w w')
theorem SC.start (w : World) (p q : Pat) (va vb : Value) (t1 t2 : TypeId) : SC w p q va vb (((w.alloc (.cells #[.int .i64 (p.W : Int), .int .i64 (p.H : Int), va] t1)).alloc (.cells #[.int .i64 (q.W : Int), .int .i64 (q.H : Int), vb] t2))) := by
  have h1 := (TB.new w (.int .i64 (p.W : Int)) (.int .i64 (p.H : Int)) va t1).alloc (.cells #[.int .i64 (q.W : Int), .int .i64 (q.H : Int), vb] t2)
  have h2 := TB.new (w.alloc (.cells #[.int .i64 (p.W : Int), .int .i64 (p.H : Int), va] t1)) (.int .i64 (q.W : Int)) (.int .i64 (q.H : Int)) vb t2
  rw [World.size_alloc] at h2
  exact ⟨h1.c0, h1.c1, h1.c2, h2.c0, h2.c1, h2.c2, hide' ⟨by show _ ≤ ((w.alloc _).alloc _).heap.size; simp, ((Below.refl _ _).alloc (Nat.le_refl _) _).alloc (by simp) _⟩⟩
theorem SC.next {w : World} {p q : Pat} {va vb : Value} {w1 w2 : World} (h : SC w p q va vb w1) (hb : Below w1.heap.size w1 w2) : SC w p q va vb w2 := by
  obtain ⟨c0, c1, c2, d0, d1, d2, hh⟩ := h
  have hz := hh.out.1
  have e : ∀ b k, b < w.heap.size + 2 → w2.cell? ⟨b, k, none⟩ = w1.cell? ⟨b, k, none⟩ := fun b k hbk => World.cell?_of_block (w := w1) (a := ⟨b, k, none⟩) (hb.block b (by omega))
  exact ⟨(e _ 0 (by omega)).trans c0, (e _ 1 (by omega)).trans c1, (e _ 2 (by omega)).trans c2, (e _ 0 (by omega)).trans d0, (e _ 1 (by omega)).trans d1, (e _ 2 (by omega)).trans d2, hide' ⟨Nat.le_trans hz hb.size, hh.out.2.trans (hb.mono (by omega))⟩⟩
theorem SC.alloc {w : World} {p q : Pat} {va vb : Value} {w1 : World} (h : SC w p q va vb w1) (o : Obj) : SC w p q va vb (w1.alloc o) := h.next ((Below.refl _ _).alloc (Nat.le_refl _) _)

end Go.Proofs.Ytfeddccbhmbkmaa

namespace Go.Proofs.Ytfeddccbhmbkmaa
open Go.RowKit
set_option linter.unusedVariables false

structure Fits (n : Nat) (p : Pat) : Prop where
  ok : p.ok
  w : p.W ≤ 100
  h : p.H ≤ 100
  len : p.xs.length = n
theorem Fits.small {n : Nat} {p : Pat} (h : Fits n p) : p.xs.length ≤ 10000 := Go.Proofs.Ytfeddccbhmbkmaa.small p h.ok h.w h.h
theorem Fits.max {n : Nat} {p : Pat} (h : Fits n p) : p.xs.length ≤ maxLen := Nat.le_trans h.small (by decide)
theorem Tab.keep {w w' : World} {v : Value} {xs : List Int} (h : Tab w v xs) (hs : w.heap.size ≤ w'.heap.size) (e : ∀ g k c, v = .slice (some ⟨g, 0, none⟩) k c → w'.heap[g]? = w.heap[g]?) : Tab w' v xs := by
  rcases h with h | ⟨g, cap, e1, hg, hc⟩
  · exact Or.inl h
  · exact Or.inr ⟨g, cap, e1, by omega, fun k hk => (World.cell?_of_block (w := w) (a := ⟨g, k, none⟩) (e g _ _ e1)).trans (hc k hk)⟩
theorem Tab.lt {w : World} {v : Value} {xs : List Int} (h : Tab w v xs) {g k c : Nat} (e : v = .slice (some ⟨g, 0, none⟩) k c) : g < w.heap.size := by
  rcases h with ⟨-, h⟩ | ⟨g', cap, e1, hg, hc⟩
  · rw [e] at h; injection h with h1; cases h1
  · rw [e] at e1; injection e1 with h1; injection h1 with h2; injection h2 with h3; omega
theorem Tab.nextB {w w' : World} {v : Value} {xs : List Int} (h : Tab w v xs) (hb : Below w.heap.size w w') : Tab w' v xs := h.keep hb.size fun g k c e => hb.block g (h.lt e)

structure CN (w wr : World) (T : Nat) (q b : Pat) (va vb : Value) : Prop where
  qb : TB T (.int .i64 (q.W : Int)) (.int .i64 (q.H : Int)) va wr
  fb : TB (T + 1) (.int .i64 (b.W : Int)) (.int .i64 (b.H : Int)) vb wr
  rb : TB (w.heap.size + 1) (.int .i64 0) (.int .i64 0) (.slice none 0 0) wr
  ta : Tab wr va q.xs
  tb : Tab wr vb b.xs
  na : ∀ g k c, va = .slice (some ⟨g, 0, none⟩) k c → w.heap.size + 2 ≤ g ∧ g ≠ T + 1
  nb : ∀ g k c, vb = .slice (some ⟨g, 0, none⟩) k c → w.heap.size + 2 ≤ g ∧ g ≠ T + 1
  lo : w.heap.size + 2 ≤ T
  sz : T + 2 ≤ wr.heap.size
  below : Below w.heap.size w wr
theorem CN.start {w w1 : World} {q : Pat} {va : Value} (rb : TB (w.heap.size + 1) (.int .i64 0) (.int .i64 0) (.slice none 0 0) w1) (ta : Tab w1 va q.xs) (fr : ∀ g k c, va = .slice (some ⟨g, 0, none⟩) k c → w.heap.size + 2 ≤ g) (hb : Below w.heap.size w w1) (hz : w.heap.size + 2 ≤ w1.heap.size) (t1 t2 : TypeId) :
    CN w ((w1.alloc (.cells #[.int .i64 (q.W : Int), .int .i64 (q.H : Int), va] t1)).alloc (.cells #[.int .i64 (q.W : Int), .int .i64 (q.H : Int), va] t2)) w1.heap.size q q va va := by
  have f := TB.new (w1.alloc (.cells #[.int .i64 (q.W : Int), .int .i64 (q.H : Int), va] t1)) (.int .i64 (q.W : Int)) (.int .i64 (q.H : Int)) va t2
  rw [World.size_alloc] at f
  have ta2 : Tab ((w1.alloc (.cells #[.int .i64 (q.W : Int), .int .i64 (q.H : Int), va] t1)).alloc (.cells #[.int .i64 (q.W : Int), .int .i64 (q.H : Int), va] t2)) va q.xs := ta.nextB (((Below.refl _ _).alloc (Nat.le_refl _) _).alloc (by simp) _)
  have na : ∀ g k c, va = .slice (some ⟨g, 0, none⟩) k c → w.heap.size + 2 ≤ g ∧ g ≠ w1.heap.size + 1 := fun g k c e => ⟨fr g k c e, by have := ta.lt e; omega⟩
  exact ⟨(TB.new w1 _ _ _ t1).alloc _, f, (rb.alloc _).alloc _, ta2, ta2, na, na, hz, by simp, (hb.alloc (by omega) _).alloc (by simp; omega) _⟩
theorem CN.next {w wr w' : World} {T : Nat} {q b : Pat} {va vb : Value} (h : CN w wr T q b va vb) (hb : Below wr.heap.size wr w') : CN w w' T q b va vb :=
  ⟨h.qb.next hb, h.fb.next hb, h.rb.next hb, h.ta.nextB hb, h.tb.nextB hb, h.na, h.nb, h.lo, Nat.le_trans h.sz hb.size, h.below.trans (hb.mono (by have := h.below.size; omega))⟩
end Go.Proofs.Ytfeddccbhmbkmaa

namespace Go.Proofs.Ytfeddccbhmbkmaa
open Go.RowKit
set_option linter.unusedVariables false

end Go.Proofs.Ytfeddccbhmbkmaa

namespace Go.Proofs.Ytfeddccbhmbkmaa
open Go.RowKit
set_option linter.unusedVariables false

set_option maxHeartbeats 800000 in
theorem At_in (W H : Nat) (xs : List Int) (a : Option Addr) (n c x y : Nat) (X Y : Int) (w : World) (hP : ArgP w xs a n c) (lW : W ≤ 100) (lH : H ≤ 100) (hn : n = W * H) (hX : X = x) (hY : Y = y) (hx : x < W) (hy : y < H) :
    Calls Try.prog 26 #[.agg #[.int .i64 (W : Int), .int .i64 (H : Int), .slice a n c], .int .i64 X, .int .i64 Y] w fun e w' => e = .returned (.int .i64 (atP W xs x y)) ∧ Below w.heap.size w w' := by
  subst hX hY
  have hN4 : n ≤ 10000 := by rw [hn]; exact Nat.mul_le_mul lW lH
  have hq := mk_lt hx hy
  rw [← hn] at hq
  obtain ⟨Q, hQ⟩ : ∃ Q, y * W = Q := ⟨_, rfl⟩
  have hQi : (y : Int) * (W : Int) = (Q : Int) := by rw [← hQ]; simp
  have hl : Q + x < xs.length := by rw [← hP.len, ← hQ]; exact hq
  have hQn : Q + x < n := by rw [← hQ]; exact hq
  obtain ⟨g, off, rfl, hg, hc⟩ := (hP.alloc (.cells #[.int .i64 (W : Int), .int .i64 (H : Int), .slice a n c] 24)).cells (Q + x) hl
  have V := hide' (show atP W xs x y = xs[Q + x] by unfold atP; rw [hQ]; simp [List.getD, hl])
  obtain ⟨v, hv⟩ : ∃ v, xs[Q + x] = v := ⟨_, rfl⟩
  rw [hv] at hc V
  have h1 : ¬ (x : Int) < 0 := by omega
  have h2 : ¬ (W : Int) ≤ (x : Int) := by omega
  have h3 : ¬ (y : Int) < 0 := by omega
  have h4 : ¬ (H : Int) ≤ (y : Int) := by omega
  clear hP hn hq hQ hv
  go_enter Try.func26, Try.ntmps26
  go_wp2
  go_ret
  rw [V.out]
  exact ⟨rfl, (Below.refl _ _).alloc (Nat.le_refl _) _⟩

structure RT (w wr : World) (W H W' H' : Nat) (a : Option Addr) (n c : Nat) (v : Value) (ys : List Int) : Prop where
  box : TB w.heap.size (.int .i64 (W : Int)) (.int .i64 (H : Int)) (.slice a n c) wr
  res : TB (w.heap.size + 1) (.int .i64 0) (.int .i64 0) (.slice none 0 0) wr
  q : TB (w.heap.size + 2) (.int .i64 (W' : Int)) (.int .i64 (H' : Int)) v wr
  own : wr.ownsRow (w.heap.size + 3) 3 1 v ys.length (ys.map fun x => .int .i64 x)
  below : Below w.heap.size w wr
  sz : w.heap.size + 3 ≤ wr.heap.size
theorem RT.next {w wr w' : World} {W H W' H' : Nat} {a : Option Addr} {n c : Nat} {v : Value} {ys : List Int} (h : RT w wr W H W' H' a n c v ys) (hb : Below wr.heap.size wr w') : RT w w' W H W' H' a n c v ys := by
  have hz := h.sz
  exact ⟨h.box.next hb, h.res.next hb, h.q.next hb, ownsRow_from h.own fun k _ hk => hb.block k hk, h.below.trans (hb.mono (by omega)), by have := hb.size; omega⟩
theorem RT.grown {w wr w' : World} {W H W' H' : Nat} {a : Option Addr} {n c : Nat} {v : Value} {ys : List Int} (h : RT w wr W H W' H' a n c v ys) (x : Int) (hg : (wr.alloc (.cells #[.int .i64 x] 3)).grownBy w' v.ownBlock) : ∀ k, k < w.heap.size + 3 → w'.heap[k]? = wr.heap[k]? := fun k hk => by
  have hz := h.sz
  have hob := ownsRow_block h.own
  rw [hg.block k (by rw [World.size_alloc]; omega) (fun e => by have := hob k e.symm; omega)]
  exact Below.heap_alloc _ _ _ (by omega)
theorem RT.mid {w wr w' : World} {W H W' H' : Nat} {a : Option Addr} {n c : Nat} {v : Value} {ys : List Int} (h : RT w wr W H W' H' a n c v ys) (x : Int) (hg : (wr.alloc (.cells #[.int .i64 x] 3)).grownBy w' v.ownBlock) : w'.cell? ⟨w.heap.size + 2, 2, none⟩ = some v ∧ w'.frozen? ⟨w.heap.size + 2, 2, none⟩ = false := by
  have t := h.q.block (h.grown x hg _ (by omega))
  exact ⟨t.c2, t.fz 2⟩
theorem RT.push {w wr w' : World} {W H W' H' : Nat} {a : Option Addr} {n c : Nat} {v v' : Value} {ys : List Int} (h : RT w wr W H W' H' a n c v ys) (x : Int) (hg : (wr.alloc (.cells #[.int .i64 x] 3)).grownBy w' v.ownBlock) (ho : w'.ownsRow (w.heap.size + 3) 3 1 v' (ys.length + 1) ((ys.map fun x => .int .i64 x) ++ [.int .i64 x])) : RT w (w'.setCell ⟨w.heap.size + 2, 2, none⟩ v') W H W' H' a n c v' (ys ++ [x]) := by
  have hk := h.grown x hg
  have hz := h.sz
  have hsz : wr.heap.size + 1 ≤ w'.heap.size := by have := hg.size; rw [World.size_alloc] at this; exact this
  have hb : Below w.heap.size w w' := h.below.trans ⟨hg.os, hg.tape, hg.output, by omega, fun k hkk => hk k (by omega)⟩
  have tq := h.q.block (hk _ (by omega))
  refine ⟨(h.box.block (hk _ (by omega))).block (Below.heap_setCell _ _ _ _ (by simp)), (h.res.block (hk _ (by omega))).block (Below.heap_setCell _ _ _ _ (by simp)), ⟨cell_other tq.c0 (by omega), cell_other tq.c1 (by omega), cell_same tq.c2, fun k => by rw [World.frozen?_setCell]; exact tq.fz k⟩, ?_, hb.setCell (by simp) _, by rw [World.size_setCell]; omega⟩
  have := ownsRow_setCell_below ho (a := ⟨w.heap.size + 2, 2, none⟩) (by simp) v'
  simpa using this
theorem RT.start (w : World) (W H W' H' : Nat) (a : Option Addr) (n c : Nat) (t1 t2 t3 : TypeId) : RT w (((w.alloc (.cells #[.int .i64 (W : Int), .int .i64 (H : Int), .slice a n c] t1)).alloc (.cells #[.int .i64 0, .int .i64 0, .slice none 0 0] t2)).alloc (.cells #[.int .i64 (W' : Int), .int .i64 (H' : Int), .slice none 0 0] t3)) W H W' H' a n c (.slice none 0 0) [] := by
  have r1 := TB.new (w.alloc (.cells #[.int .i64 (W : Int), .int .i64 (H : Int), .slice a n c] t1)) (.int .i64 0) (.int .i64 0) (.slice none 0 0) t2
  have r2 := TB.new ((w.alloc (.cells #[.int .i64 (W : Int), .int .i64 (H : Int), .slice a n c] t1)).alloc (.cells #[.int .i64 0, .int .i64 0, .slice none 0 0] t2)) (.int .i64 (W' : Int)) (.int .i64 (H' : Int)) (.slice none 0 0) t3
  rw [World.size_alloc] at r1 r2
  rw [World.size_alloc] at r2
  exact ⟨((TB.new w _ _ _ t1).alloc _).alloc _, r1.alloc _, r2, ⟨by simp, Or.inl ⟨rfl, by simp⟩⟩, (((Below.refl _ _).alloc (Nat.le_refl _) _).alloc (by simp) _).alloc (by simp; omega) _, by simp⟩
end Go.Proofs.Ytfeddccbhmbkmaa

namespace Go.Proofs.Ytfeddccbhmbkmaa
open Go.RowKit
set_option linter.unusedVariables false

end Go.Proofs.Ytfeddccbhmbkmaa

