/-
  What the last text of this claim leans on, part 3: Bk2, Bk3, PSpec, Pa1, Pa2, Pa3.
-/
import Derived.Test.YtfeddccbhmbkmaaZb2
import Derived.Test.YtfeddccbhmbkmaaZb1
namespace Go.Proofs.Ytfeddccbhmbkmaa
open Go.RowKit
set_option linter.unusedVariables false
/-- What lies there while a block is written. -/
structure AX (w w4 wr : World) (B p : Nat) (T : TypeId) (n : Nat) (G : Nat → Value) : Prop where
  keep : ∀ k, k < B → k ≠ p → wr.heap[k]? = w4.heap[k]?
  out : wr.heap[p]? = some (.cells (arrF n G) T (0, 0))
  below : Below w.heap.size w wr
  size : B ≤ wr.heap.size
theorem AX.next {w w4 wr w' : World} {B p : Nat} {T : TypeId} {n : Nat} {G : Nat → Value} (h : AX w w4 wr B p T n G) (b : Below wr.heap.size wr w') : AX w w4 w' B p T n G :=
  ⟨fun k hk hn => (b.block k (Nat.lt_of_lt_of_le hk h.size)).trans (h.keep k hk hn), (b.block _ (lt_of_block h.out)).trans h.out, h.below.trans (b.mono h.below.size), Nat.le_trans h.size b.size⟩
theorem AX.set {w w4 wr : World} {B p : Nat} {T : TypeId} {n : Nat} {G : Nat → Value} (h : AX w w4 wr B p T n G) (hp : w.heap.size ≤ p) (i : Nat) (v : Value) : AX w w4 (wr.setCell ⟨p, i, none⟩ v) B p T n (fun k => if k = i then v else G k) :=
  ⟨fun k hk hn => (Below.heap_setCell _ _ _ _ hn).trans (h.keep k hk hn), by rw [heap_setCell_same _ _ _ _ _ _ h.out, arrF_set], h.below.setCell hp _, by rw [World.size_setCell]; exact h.size⟩
theorem AX.ext {w w4 wr : World} {B p : Nat} {T : TypeId} {n : Nat} {G G' : Nat → Value} (h : AX w w4 wr B p T n G) (e : ∀ k, k < n → G k = G' k) : AX w w4 wr B p T n G' := ⟨h.keep, by rw [← arrF_ext e]; exact h.out, h.below, h.size⟩
/-- A table of blocks as it lies. -/
structure TbB (w : World) (a : Option Addr) (tv : Nat → Nat) : Prop where
  lt : ∀ k, k < 16 → tv k < 16
  cells : ∃ g off, a = some ⟨g, off, none⟩ ∧ g < w.heap.size ∧ ∀ k, k < 16 → w.cell? ⟨g, off + k, none⟩ = some (.int .i64 (tv k : Int))
theorem TbB.below {w w' : World} {a : Option Addr} {tv : Nat → Nat} (h : TbB w a tv) (b : Below w.heap.size w w') : TbB w' a tv := by
  obtain ⟨g, off, e, hg, hc⟩ := h.cells
  exact ⟨h.lt, g, off, e, Nat.lt_of_lt_of_le hg b.size, fun k hk => (World.cell?_of_block (w := w) (a := ⟨g, off + k, none⟩) (b.block g hg)).trans (hc k hk)⟩
def dg (n k : Nat) : Nat := n / 2 ^ k % 2
theorem dg_0 (n : Nat) : dg n 0 = d0 n := by simp [dg, d0]
theorem dg_1 (n : Nat) : dg n 1 = d1 n := by simp [dg, d1]
theorem dg_2 (n : Nat) : dg n 2 = d2 n := by simp [dg, d2]
theorem dg_3 (n : Nat) (h : n < 16) : dg n 3 = d3 n := by simp [dg, d3]; omega
def bkG (tv : Nat → Nat) (k : Nat) : Value := .int .i64 ((dg (tv (k / 4)) (k % 4) : Nat) : Int)
def bkP (tv : Nat → Nat) (i k : Nat) : Value := if k / 4 < i then bkG tv k else .int .i64 0
theorem zero64 : (#[.int .i64 0, .int .i64 0, .int .i64 0, .int .i64 0, .int .i64 0, .int .i64 0, .int .i64 0, .int .i64 0, .int .i64 0, .int .i64 0, .int .i64 0, .int .i64 0, .int .i64 0, .int .i64 0, .int .i64 0, .int .i64 0, .int .i64 0, .int .i64 0, .int .i64 0, .int .i64 0, .int .i64 0, .int .i64 0, .int .i64 0, .int .i64 0, .int .i64 0, .int .i64 0, .int .i64 0, .int .i64 0, .int .i64 0, .int .i64 0, .int .i64 0, .int .i64 0, .int .i64 0, .int .i64 0, .int .i64 0, .int .i64 0, .int .i64 0, .int .i64 0, .int .i64 0, .int .i64 0, .int .i64 0, .int .i64 0, .int .i64 0, .int .i64 0, .int .i64 0, .int .i64 0, .int .i64 0, .int .i64 0, .int .i64 0, .int .i64 0, .int .i64 0, .int .i64 0, .int .i64 0, .int .i64 0, .int .i64 0, .int .i64 0, .int .i64 0, .int .i64 0, .int .i64 0, .int .i64 0, .int .i64 0, .int .i64 0, .int .i64 0, .int .i64 0] : Array Value) = arrF 64 (fun _ => .int .i64 0) := by kernel_rfl
theorem bk_step (tv : Nat → Nat) (i k : Nat) (hi : i < 16) (ht : tv i < 16) :
    (fun k => if k = i * 4 + 3 then Value.int .i64 (d3 (tv i) : Int) else (fun k => if k = i * 4 + 2 then Value.int .i64 (d2 (tv i) : Int) else (fun k => if k = i * 4 + 1 then Value.int .i64 (d1 (tv i) : Int) else (fun k => if k = i * 4 then Value.int .i64 (d0 (tv i) : Int) else bkP tv i k) k) k) k) k = bkP tv (i + 1) k := by
  dsimp only
  unfold bkP bkG
  by_cases h3 : k = i * 4 + 3
  · subst h3
    rw [if_pos rfl, if_pos (by omega), show (i * 4 + 3) / 4 = i by omega, show (i * 4 + 3) % 4 = 3 by omega, dg_3 _ ht]
  · rw [if_neg h3]
    by_cases h2 : k = i * 4 + 2
    · subst h2
      rw [if_pos rfl, if_pos (by omega), show (i * 4 + 2) / 4 = i by omega, show (i * 4 + 2) % 4 = 2 by omega, dg_2]
    · rw [if_neg h2]
      by_cases h1 : k = i * 4 + 1
      · subst h1
        rw [if_pos rfl, if_pos (by omega), show (i * 4 + 1) / 4 = i by omega, show (i * 4 + 1) % 4 = 1 by omega, dg_1]
      · rw [if_neg h1]
        by_cases h0 : k = i * 4
        · subst h0
          rw [if_pos rfl, if_pos (by omega), show (i * 4) / 4 = i by omega, show (i * 4) % 4 = 0 by omega, dg_0]
        · rw [if_neg h0]
          by_cases h : k / 4 < i
          · rw [if_pos h, if_pos (by omega)]
          · rw [if_neg h, if_neg (by omega)]
set_option maxRecDepth 100000 in
set_option maxHeartbeats 3200000 in
theorem becomesB_any (a : Option Addr) (c : Nat) (tv : Nat → Nat) (w : World) (hT : TbB w a tv) : Calls Try.prog 19 #[.slice a 16 c] w fun e w' => e = .returned (.agg (arrF 64 (bkG tv))) ∧ Below w.heap.size w w' := by
  obtain ⟨w1, hw1⟩ : ∃ w1, (w.alloc (.cells #[.int .i64 0, .int .i64 0, .int .i64 0, .int .i64 0, .int .i64 0, .int .i64 0, .int .i64 0, .int .i64 0, .int .i64 0, .int .i64 0, .int .i64 0, .int .i64 0, .int .i64 0, .int .i64 0, .int .i64 0, .int .i64 0, .int .i64 0, .int .i64 0, .int .i64 0, .int .i64 0, .int .i64 0, .int .i64 0, .int .i64 0, .int .i64 0, .int .i64 0, .int .i64 0, .int .i64 0, .int .i64 0, .int .i64 0, .int .i64 0, .int .i64 0, .int .i64 0, .int .i64 0, .int .i64 0, .int .i64 0, .int .i64 0, .int .i64 0, .int .i64 0, .int .i64 0, .int .i64 0, .int .i64 0, .int .i64 0, .int .i64 0, .int .i64 0, .int .i64 0, .int .i64 0, .int .i64 0, .int .i64 0, .int .i64 0, .int .i64 0, .int .i64 0, .int .i64 0, .int .i64 0, .int .i64 0, .int .i64 0, .int .i64 0, .int .i64 0, .int .i64 0, .int .i64 0, .int .i64 0, .int .i64 0, .int .i64 0, .int .i64 0, .int .i64 0] 54)).alloc (.cells #[.int .i64 0, .int .i64 0, .int .i64 0, .int .i64 0, .int .i64 0, .int .i64 0, .int .i64 0, .int .i64 0, .int .i64 0, .int .i64 0, .int .i64 0, .int .i64 0, .int .i64 0, .int .i64 0, .int .i64 0, .int .i64 0, .int .i64 0, .int .i64 0, .int .i64 0, .int .i64 0, .int .i64 0, .int .i64 0, .int .i64 0, .int .i64 0, .int .i64 0, .int .i64 0, .int .i64 0, .int .i64 0, .int .i64 0, .int .i64 0, .int .i64 0, .int .i64 0, .int .i64 0, .int .i64 0, .int .i64 0, .int .i64 0, .int .i64 0, .int .i64 0, .int .i64 0, .int .i64 0, .int .i64 0, .int .i64 0, .int .i64 0, .int .i64 0, .int .i64 0, .int .i64 0, .int .i64 0, .int .i64 0, .int .i64 0, .int .i64 0, .int .i64 0, .int .i64 0, .int .i64 0, .int .i64 0, .int .i64 0, .int .i64 0, .int .i64 0, .int .i64 0, .int .i64 0, .int .i64 0, .int .i64 0, .int .i64 0, .int .i64 0, .int .i64 0] 54) = w1 := ⟨_, rfl⟩
  have BB := hide' (show Below w.heap.size w w1 by rw [← hw1]; exact ((Below.refl _ _).alloc (Nat.le_refl _) _).alloc (by simp) _)
  have G0 := hide' (show w1.heap[w.heap.size]? = some (.cells #[.int .i64 0, .int .i64 0, .int .i64 0, .int .i64 0, .int .i64 0, .int .i64 0, .int .i64 0, .int .i64 0, .int .i64 0, .int .i64 0, .int .i64 0, .int .i64 0, .int .i64 0, .int .i64 0, .int .i64 0, .int .i64 0, .int .i64 0, .int .i64 0, .int .i64 0, .int .i64 0, .int .i64 0, .int .i64 0, .int .i64 0, .int .i64 0, .int .i64 0, .int .i64 0, .int .i64 0, .int .i64 0, .int .i64 0, .int .i64 0, .int .i64 0, .int .i64 0, .int .i64 0, .int .i64 0, .int .i64 0, .int .i64 0, .int .i64 0, .int .i64 0, .int .i64 0, .int .i64 0, .int .i64 0, .int .i64 0, .int .i64 0, .int .i64 0, .int .i64 0, .int .i64 0, .int .i64 0, .int .i64 0, .int .i64 0, .int .i64 0, .int .i64 0, .int .i64 0, .int .i64 0, .int .i64 0, .int .i64 0, .int .i64 0, .int .i64 0, .int .i64 0, .int .i64 0, .int .i64 0, .int .i64 0, .int .i64 0, .int .i64 0, .int .i64 0] 54 (0, 0)) by rw [← hw1, Below.heap_alloc _ _ _ (by simp)]; exact heap_alloc_new _ _)
  have X0 := hide' (show AX w w1 w1 (w.heap.size + 1 + 1) (w.heap.size + 1) 54 64 (bkP tv 0) from ⟨fun _ _ _ => rfl, by rw [arrF_ext (fun k _ => show bkP tv 0 k = .int .i64 0 by unfold bkP; rw [if_neg (by omega)]), ← zero64, ← hw1]; exact heap_atX _ _ _ (by simp), BB.out, by rw [← hw1]; simp⟩)
  obtain ⟨g, off, rfl, hg, hc⟩ := hT.cells
  have HC := hide' (fun (V : World) (hV : Below w.heap.size w V) k (hk : k < 16) => show V.cell? ⟨g, off + k, none⟩ = some (.int .i64 (tv k : Int)) from (World.cell?_of_block (w := w) (a := ⟨g, off + k, none⟩) (hV.block g hg)).trans (hc k hk))
  have HL := hide' hT.lt
  clear hT hg hc
  go_enter Try.func19, Try.ntmps19
  go_wp2
  try rw [hw1]
  clear hw1
  go_loopw [5] (fun iv wr => ∃ (i : Nat), iv = .int .i64 (i : Int) ∧ i ≤ 16 ∧ Hid (AX w w1 wr (w.heap.size + 1 + 1) (w.heap.size + 1) 54 64 (bkP tv i))) (fun iv _ => 16 - (intOf iv).toNat)
  case atStart => exact ⟨0, rfl, by omega, X0⟩
  case round =>
    obtain ⟨i, rfl, hi, HX⟩ := hrel
    by_cases d : (i : Int) < 16
    · have il : i < 16 := by omega
      have ci := HC.out wr HX.out.below i il
      have ht := HL.out i il
      obtain ⟨n, hn⟩ : ∃ n, tv i = n := ⟨_, rfl⟩
      rw [hn] at ci
      have BC := hide' (fun V => blockOf_any n V (by rw [← hn]; exact ht))
      have NX := hide' (fun (V : World) (hV : AX w w1 V (w.heap.size + 1 + 1) (w.heap.size + 1) 54 64 (bkP tv i)) => show AX w w1 ((((V.setCell ⟨w.heap.size + 1, i * 4, none⟩ (.int .i64 (d0 n : Int))).setCell ⟨w.heap.size + 1, i * 4 + 1, none⟩ (.int .i64 (d1 n : Int))).setCell ⟨w.heap.size + 1, i * 4 + 2, none⟩ (.int .i64 (d2 n : Int))).setCell ⟨w.heap.size + 1, i * 4 + 3, none⟩ (.int .i64 (d3 n : Int))) (w.heap.size + 1 + 1) (w.heap.size + 1) 54 64 (bkP tv (i + 1)) from
        AX.ext ((((hV.set (by omega) (i * 4) _).set (by omega) (i * 4 + 1) _).set (by omega) (i * 4 + 2) _).set (by omega) (i * 4 + 3) _) (fun k hk => by
          rw [← bk_step tv i k il ht, hn]))
      have ili : (i : Int) < 16 := d
      clear hn ht
      unfold blkV at BC
      go_wp2_with fail
      refine (BC.out wr).mono ?_
      rintro e w2 ⟨rfl, b⟩
      have H2 := hide' (HX.out.next b)
      have z0 : w2.cell? ⟨w.heap.size + 1, i * 4, none⟩ = some (bkP tv i (i * 4)) := by rw [cell_of_row w2 _ _ _ _ _ H2.out.out, arrF_get _ (by omega)]
      have z1 : w2.cell? ⟨w.heap.size + 1, i * 4 + 1, none⟩ = some (bkP tv i (i * 4 + 1)) := by rw [cell_of_row w2 _ _ _ _ _ H2.out.out, arrF_get _ (by omega)]
      have z2 : w2.cell? ⟨w.heap.size + 1, i * 4 + 2, none⟩ = some (bkP tv i (i * 4 + 2)) := by rw [cell_of_row w2 _ _ _ _ _ H2.out.out, arrF_get _ (by omega)]
      have z3 : w2.cell? ⟨w.heap.size + 1, i * 4 + 3, none⟩ = some (bkP tv i (i * 4 + 3)) := by rw [cell_of_row w2 _ _ _ _ _ H2.out.out, arrF_get _ (by omega)]
      have f0 := frozen_of_row w2 _ (i * 4) _ _ H2.out.out
      have f1 := frozen_of_row w2 _ (i * 4 + 1) _ _ H2.out.out
      have f2 := frozen_of_row w2 _ (i * 4 + 2) _ _ H2.out.out
      have f3 := frozen_of_row w2 _ (i * 4 + 3) _ _ H2.out.out
      have H3 := hide' (NX.out w2 H2.out)
      clear b ci
      go_wp2
      exact ⟨⟨i + 1, by go_num, by omega, H3⟩, by simp [intOf]; omega⟩
    · have e16 : i = 16 := by omega
      subst e16
      have gp : wr.heap[w.heap.size + 1]? = some (.cells (arrF 64 (bkG tv)) 54 (0, 0)) := by
        rw [HX.out.out, arrF_ext (fun k hk => show bkP tv 16 k = bkG tv k by unfold bkP; rw [if_pos (by omega)])]
      have gb := (HX.out.keep w.heap.size (by omega) (by omega)).trans G0.out
      obtain ⟨Zb, hZ⟩ : ∃ Z, arrF 64 (bkG tv) = Z := ⟨_, rfl⟩
      have zs : Zb.size = 64 := by rw [← hZ, arrF_size]
      have za : Zb.all (·.oneCell') = true := by rw [← hZ]; exact arrF_all _ _ (fun k _ => rfl)
      rw [hZ] at gp
      have HZ := hide' hZ
      have BF := hide' HX.out.below
      clear hZ
      go_wp2_with (first
        | (refine wpList_load_row rfl 54 _ rfl (w.heap.size + 1) rfl 54 Zb (0, 0) _ gp Try.underlying54 rfl (by rw [zs]; kernel_rfl) ?_)
        | (refine wpList_store_row rfl 54 _ _ rfl w.heap.size Zb rfl rfl 54 _ gb (by rw [zs]; kernel_rfl) (by rw [zs]; rfl) za ?_))
      refine bodyPost_ret (v := .agg Zb) (results_cell_row Try.results19 _ _ w.heap.size 54 _ (0, 0) _ rfl (setRow_heap _ _ _ _ _ _ gb) Try.underlying54 rfl (by rw [zs]; kernel_rfl)) rfl ?_
      exact ⟨by rw [HZ.out], below_setRow BF.out (by omega) _⟩
end Go.Proofs.Ytfeddccbhmbkmaa

namespace Go.Proofs.Ytfeddccbhmbkmaa
open Go.RowKit
set_option linter.unusedVariables false
/-- Where the k-th cell of the j-th block stands. -/
def plc (W H ph j k : Nat) : Nat := ((ph + 2 * (j / (W / 2)) + k / 2) % H) * W + (ph + 2 * (j % (W / 2)) + k % 2) % W
def bX (V ph x : Nat) : Nat := if x < (x + ph) % 2 then V - 1 else (x - (x + ph) % 2) / 2
theorem wrapX {V a : Nat} (hV : 0 < V) (h : a ≤ 2 * V) : a % (2 * V) = if a = 2 * V then 0 else a := by
  by_cases e : a = 2 * V
  · rw [if_pos e, e, Nat.mod_self]
  · rw [if_neg e, Nat.mod_eq_of_lt (by omega)]
theorem bX_of {V ph x : Nat} (hx : x < 2 * V) (hp : ph ≤ 1) : bX V ph x < V ∧ (ph + 2 * bX V ph x + (x + ph) % 2) % (2 * V) = x := by
  unfold bX
  by_cases h : x < (x + ph) % 2
  · rw [if_pos h, wrapX (by omega) (by omega)]
    refine ⟨by omega, ?_⟩
    rw [if_pos (by omega)]; omega
  · rw [if_neg h, wrapX (by omega) (by omega)]
    refine ⟨by omega, ?_⟩
    rw [if_neg (by omega)]; omega
theorem bX_un {V ph X d : Nat} (hX : X < V) (hd : d ≤ 1) (hp : ph ≤ 1) : (ph + 2 * X + d) % (2 * V) < 2 * V ∧ bX V ph ((ph + 2 * X + d) % (2 * V)) = X ∧ ((ph + 2 * X + d) % (2 * V) + ph) % 2 = d := by
  rw [wrapX (by omega) (by omega)]
  by_cases e : ph + 2 * X + d = 2 * V
  · rw [if_pos e]
    unfold bX
    refine ⟨by omega, ?_, by omega⟩
    rw [if_pos (by omega)]; omega
  · rw [if_neg e]
    unfold bX
    refine ⟨by omega, ?_, by omega⟩
    rw [if_neg (by omega)]; omega
def bI (W H ph i : Nat) : Nat := bX (H / 2) ph (i / W) * (W / 2) + bX (W / 2) ph (i % W)
def bK (W ph i : Nat) : Nat := (i / W + ph) % 2 * 2 + (i % W + ph) % 2
/-- A pattern with even sides. -/
structure Evn (W H V U : Nat) : Prop where
  w : W = 2 * V
  h : H = 2 * U
theorem Evn.half {W H V U : Nat} (e : Evn W H V U) : W / 2 = V ∧ H / 2 = U := by have := e.w; have := e.h; omega
theorem plc_of {W H V U ph i : Nat} (e : Evn W H V U) (hp : ph ≤ 1) (hi : i < W * H) : bI W H ph i < U * V ∧ bK W ph i < 4 ∧ plc W H ph (bI W H ph i) (bK W ph i) = i := by
  obtain ⟨e1, e2⟩ := e.half
  have W0 : 0 < W := by rcases Nat.eq_zero_or_pos W with h | h; · rw [h] at hi; simp at hi
                        · exact h
  have hy : i / W < 2 * U := by rw [← e.h]; exact Nat.div_lt_of_lt_mul hi
  have hx : i % W < 2 * V := by rw [← e.w]; exact Nat.mod_lt _ W0
  obtain ⟨x1, x2⟩ := bX_of hx hp
  obtain ⟨y1, y2⟩ := bX_of hy hp
  unfold bI bK plc
  rw [e1, e2]
  have V0 : 0 < V := by omega
  have dv : (bX U ph (i / W) * V + bX V ph (i % W)) / V = bX U ph (i / W) := by
    rw [Nat.mul_comm, Nat.mul_add_div V0, Nat.div_eq_of_lt x1, Nat.add_zero]
  have md : (bX U ph (i / W) * V + bX V ph (i % W)) % V = bX V ph (i % W) := by
    rw [Nat.mul_comm, Nat.mul_add_mod, Nat.mod_eq_of_lt x1]
  refine ⟨?_, by omega, ?_⟩
  · have := Nat.mul_le_mul_right V (show bX U ph (i / W) + 1 ≤ U from y1)
    rw [Nat.add_mul] at this
    omega
  · rw [dv, md, show ((i / W + ph) % 2 * 2 + (i % W + ph) % 2) / 2 = (i / W + ph) % 2 by omega, show ((i / W + ph) % 2 * 2 + (i % W + ph) % 2) % 2 = (i % W + ph) % 2 by omega]
    have a1 : (ph + 2 * bX U ph (i / W) + (i / W + ph) % 2) % H = i / W := by rw [e.h]; exact y2
    have a2 : (ph + 2 * bX V ph (i % W) + (i % W + ph) % 2) % W = i % W := by rw [e.w]; rw [e.w] at x2; exact x2
    rw [a1, a2, Nat.mul_comm]
    exact Nat.div_add_mod i W
theorem jdm {V U j : Nat} (hj : j < U * V) : j / V < U ∧ j % V < V := by
  have V0 : 0 < V := by rcases Nat.eq_zero_or_pos V with h | h; · rw [h] at hj; simp at hj
                        · exact h
  exact ⟨Nat.div_lt_of_lt_mul (by rw [Nat.mul_comm]; exact hj), Nat.mod_lt _ V0⟩
theorem of_plc {W H V U ph j k : Nat} (e : Evn W H V U) (hp : ph ≤ 1) (hj : j < U * V) (hk : k < 4) : plc W H ph j k < W * H ∧ bI W H ph (plc W H ph j k) = j ∧ bK W ph (plc W H ph j k) = k := by
  obtain ⟨e1, e2⟩ := e.half
  obtain ⟨j1, j2⟩ := jdm hj
  obtain ⟨y0, y1, y2⟩ := bX_un (d := k / 2) j1 (by omega) hp
  obtain ⟨x0, x1, x2⟩ := bX_un (d := k % 2) j2 (by omega) hp
  unfold plc
  rw [e1]
  rw [← e.h] at y0 y1 y2
  rw [← e.w] at x0 x1 x2
  have dv : ((ph + 2 * (j / V) + k / 2) % H * W + (ph + 2 * (j % V) + k % 2) % W) / W = (ph + 2 * (j / V) + k / 2) % H := by
    rw [Nat.mul_comm, Nat.mul_add_div (by omega), Nat.div_eq_of_lt x0, Nat.add_zero]
  have md : ((ph + 2 * (j / V) + k / 2) % H * W + (ph + 2 * (j % V) + k % 2) % W) % W = (ph + 2 * (j % V) + k % 2) % W := by
    rw [Nat.mul_comm, Nat.mul_add_mod, Nat.mod_eq_of_lt x0]
  refine ⟨?_, ?_, ?_⟩
  · have := Nat.mul_le_mul_right W (show (ph + 2 * (j / V) + k / 2) % H + 1 ≤ H from y0)
    rw [Nat.add_mul, Nat.mul_comm H W] at this
    omega
  · unfold bI
    rw [dv, md, e1, e2, y1, x1, Nat.mul_comm]
    exact Nat.div_add_mod j V
  · unfold bK
    rw [dv, md, y2, x2]
    omega
/-- The number of a block, and what becomes of a cell. -/
def nbB (f : Nat → Nat) (W H ph j : Nat) : Nat := f (plc W H ph j 0) + 2 * f (plc W H ph j 1) + 4 * f (plc W H ph j 2) + 8 * f (plc W H ph j 3)
def newB (tv : Nat → Nat) (W H ph : Nat) (f : Nat → Nat) (i : Nat) : Nat := dg (tv (nbB f W H ph (bI W H ph i))) (bK W ph i)
/-- When j blocks and m cells of the next one are done. -/
def parB (tv : Nat → Nat) (W H ph : Nat) (f : Nat → Nat) (j m i : Nat) : Nat := if bI W H ph i < j ∨ (bI W H ph i = j ∧ bK W ph i < m) then newB tv W H ph f i else f i
theorem dg_le (n k : Nat) : dg n k ≤ 1 := by unfold dg; omega
theorem par_le {tv : Nat → Nat} {W H ph : Nat} {f : Nat → Nat} (hf : ∀ i, f i ≤ 1) (j m i : Nat) : parB tv W H ph f j m i ≤ 1 := by
  unfold parB newB
  split
  · exact dg_le _ _
  · exact hf i
theorem par_read {W H V U ph j k : Nat} (e : Evn W H V U) (hp : ph ≤ 1) (hj : j < U * V) (hk : k < 4) (tv f : Nat → Nat) : parB tv W H ph f j 0 (plc W H ph j k) = f (plc W H ph j k) := by
  obtain ⟨-, a, -⟩ := of_plc e hp hj hk
  unfold parB
  rw [a, if_neg (by omega)]
theorem par_set {W H V U ph j m : Nat} (e : Evn W H V U) (hp : ph ≤ 1) (hj : j < U * V) (hm : m < 4) (tv f : Nat → Nat) (i : Nat) (hi : i < W * H) :
    (if i = plc W H ph j m then dg (tv (nbB f W H ph j)) m else parB tv W H ph f j m i) = parB tv W H ph f j (m + 1) i := by
  obtain ⟨-, a, b⟩ := of_plc e hp hj hm
  by_cases h : i = plc W H ph j m
  · rw [if_pos h]
    unfold parB newB
    rw [h, a, b, if_pos (by omega)]
  · rw [if_neg h]
    have nb : ¬ (bI W H ph i = j ∧ bK W ph i = m) := fun ⟨h1, h2⟩ => h (by
      have := (plc_of e hp hi).2.2
      rw [h1, h2] at this
      exact this.symm)
    unfold parB
    by_cases q : bI W H ph i < j ∨ (bI W H ph i = j ∧ bK W ph i < m)
    · rw [if_pos q, if_pos (by omega)]
    · rw [if_neg q, if_neg (by omega)]
theorem par_next {W H V U ph j : Nat} (e : Evn W H V U) (hp : ph ≤ 1) (tv f : Nat → Nat) (i : Nat) (hi : i < W * H) : parB tv W H ph f j 4 i = parB tv W H ph f (j + 1) 0 i := by
  have := (plc_of e hp hi).2.1
  unfold parB
  by_cases q : bI W H ph i < j + 1
  · rw [if_pos (by omega), if_pos (by omega)]
  · rw [if_neg (by omega), if_neg (by omega)]
theorem par_start (tv : Nat → Nat) (W H ph : Nat) (f : Nat → Nat) (i : Nat) : parB tv W H ph f 0 0 i = f i := by unfold parB; rw [if_neg (by omega)]
theorem par_end {W H V U ph : Nat} (e : Evn W H V U) (hp : ph ≤ 1) (tv f : Nat → Nat) (i : Nat) (hi : i < W * H) : parB tv W H ph f (U * V) 0 i = newB tv W H ph f i := by
  have := (plc_of e hp hi).1
  unfold parB; rw [if_pos (by omega)]
end Go.Proofs.Ytfeddccbhmbkmaa

namespace Go.Proofs.Ytfeddccbhmbkmaa

/-- These bytes stand from i on: behind them; or where they don't. -/
def wordF (s : ByteArray) : List Nat → Nat → Nat ⊕ Nat
  | [], i => .inl i
  | c :: cs, i => if i < s.size ∧ bt s i = c then wordF s cs (i + 1) else .inr i

/-- Is what stands at i a number of at most six digits without a needless 0? -/
def numSix (s : ByteArray) (i : Nat) : Bool :=
  decide (i < (num s i).2) && !(decide (1 < (num s i).2 - i) && decide (bt s i = 48)) && decide ((num s i).2 - i ≤ 6)

def sideS (s : ByteArray) (ws : List Nat) (i : Nat) : (Nat × Nat) ⊕ (Nat × Nat) :=
  match wordF s ws i with
  | .inr j => .inr (j, 2)
  | .inl j => if !numSix s j then .inr (j, 2) else if 100 < (num s j).1 then .inr (j, 1) else .inl ((num s j).1, (num s j).2)

/-- One tag, at j: on, done, or wrong. -/
abbrev Go1 : Type := (Nat × Nat × Nat × List Int) ⊕ (List Int ⊕ (Nat × Nat))
abbrev Go1.on (i x y : Nat) (xs : List Int) : Go1 := Sum.inl (i, x, y, xs)
end Go.Proofs.Ytfeddccbhmbkmaa

namespace Go.Proofs.Ytfeddccbhmbkmaa
open Go.RowKit
set_option linter.unusedVariables false

/-- What the reader holds, its text aside. -/
structure Rv where
  i : Nat
  fl : Int
  wd : Int
  hi : Int
  cs : Value
  rt : Int
  dn : Int
  bg : Int
  tm : Int

def Rv.val (r : Rv) (s : ByteArray) : Nat → Value
  | 0 => .string s
  | 1 => .int .i64 (r.i : Int)
  | 2 => .int .i64 r.fl
  | 3 => .int .i64 r.wd
  | 4 => .int .i64 r.hi
  | 5 => r.cs
  | 6 => .int .i64 r.rt
  | 7 => .int .i64 r.dn
  | 8 => .int .i64 r.bg
  | 9 => .int .i64 r.tm
  | _ => .bool false

structure RAt (b : Nat) (s : ByteArray) (r : Rv) (w : World) : Prop where
  cell : ∀ k, k < 10 → w.cell? ⟨b, k, none⟩ = some (r.val s k)
  fz : ∀ k, k < 10 → w.frozen? ⟨b, k, none⟩ = false

theorem RAt.lt {b : Nat} {s : ByteArray} {r : Rv} {w : World} (h : RAt b s r w) : b < w.heap.size := by
  rcases Nat.lt_or_ge b w.heap.size with k | k
  · exact k
  · have := h.cell 0 (by omega); simp [World.cell?, Array.getElem?_eq_none k] at this
theorem RAt.block {b : Nat} {s : ByteArray} {r : Rv} {w w' : World} (h : RAt b s r w) (e : w'.heap[b]? = w.heap[b]?) : RAt b s r w' :=
  ⟨fun k hk => (World.cell?_of_block (w := w) (a := ⟨b, k, none⟩) e).trans (h.cell k hk), fun k hk => (World.frozen?_of_block (w := w) (a := ⟨b, k, none⟩) e).trans (h.fz k hk)⟩
theorem RAt.drewN {b : Nat} {s : ByteArray} {r : Rv} {w : World} (h : RAt b s r w) (n : Nat) : RAt b s r (w.drewN n) := h.block rfl
theorem RAt.alloc {b : Nat} {s : ByteArray} {r : Rv} {w : World} (h : RAt b s r w) (o : Obj) : RAt b s r (w.alloc o) := h.block (Below.heap_alloc _ _ _ h.lt)
theorem RAt.below {b : Nat} {s : ByteArray} {r : Rv} {w w' : World} (h : RAt b s r w) (hb : Below w.heap.size w w') : RAt b s r w' := h.block (hb.block b h.lt)
theorem RAt.set {b : Nat} {s : ByteArray} {r r' : Rv} {w : World} (h : RAt b s r w) (k : Nat) (u : Value) (hk : k < 10) (h1 : r'.val s k = u) (h2 : ∀ j, j < 10 → j ≠ k → r'.val s j = r.val s j) : RAt b s r' (w.setCell ⟨b, k, none⟩ u) := by
  refine ⟨fun j hj => ?_, fun j hj => by rw [World.frozen?_setCell]; exact h.fz j hj⟩
  by_cases e : j = k
  · subst e; rw [h1]; exact World.cell?_setCell_same (w := w) (a := ⟨b, j, none⟩) (v := _) (h := h.cell j hj)
  · rw [h2 j hj e]; exact (World.cell?_setCell_other (w := w) (a := ⟨b, k, none⟩) (b := ⟨b, j, none⟩) (v := _) (h := fun q => e (congrArg Addr.off q).symm)).trans (h.cell j hj)

/-- What a method of the reader leaves: the reader so, and nothing else turned. -/
def Left (b : Nat) (s : ByteArray) (r : Rv) (w w' : World) : Prop := RAt b s r w' ∧ Rd b w w'
end Go.Proofs.Ytfeddccbhmbkmaa

namespace Go.Proofs.Ytfeddccbhmbkmaa
open Go.RowKit
set_option linter.unusedVariables false

end Go.Proofs.Ytfeddccbhmbkmaa

namespace Go.Proofs.Ytfeddccbhmbkmaa
open Go.RowKit
set_option linter.unusedVariables false

end Go.Proofs.Ytfeddccbhmbkmaa

