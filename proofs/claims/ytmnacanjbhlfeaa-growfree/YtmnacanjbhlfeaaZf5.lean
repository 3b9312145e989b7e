/-
  What the last text of this claim leans on, part 5: Gy4, Gy5, Gy6.
-/
import Derived.Test.YtmnacanjbhlfeaaZf2
import Derived.Test.YtmnacanjbhlfeaaZf4
import Derived.Deep.MidRow
namespace Go.Proofs.Ytmnacanjbhlfeaa
open Go.RowKit
set_option linter.unusedVariables false
set_option linter.unusedSimpArgs false
theorem zero8 : (#[.int .u64 0, .int .u64 0, .int .u64 0, .int .u64 0, .int .u64 0, .int .u64 0, .int .u64 0, .int .u64 0] : Array Value) = arrF 8 (uF fun _ => 0) := rfl
theorem iterAt_otherY (w : World) (k : Nat) (s : ByteArray) (p j : Nat) (h : j ≠ k) : (w.iterAt k s p).heap[j]? = w.heap[j]? := by
  show (w.heap.setIfInBounds k _)[j]? = _
  rw [Array.getElem?_setIfInBounds_ne (by omega)]
/-- What lies there while letters are counted. -/
structure CtS (w wr : World) (l : List UInt8) (i : Nat) : Prop where
  below : Below w.heap.size w wr
  res : wr.heap[w.heap.size]? = some (.cells (arrF 8 (uF fun _ => 0)) 40 (0, 0))
  out : wr.heap[w.heap.size + 1]? = some (.cells (arrF 8 (uF (ctL (l.take i)))) 40 (0, 0))
  it : wr.heap[w.heap.size + 1 + 1]? = some (.stringIter ⟨l.toArray⟩ i)
theorem CtS.turn {w wr : World} {l : List UInt8} {i : Nat} (h : CtS w wr l i) (p : Nat) : Below w.heap.size w (wr.iterAt (w.heap.size + 1 + 1) ⟨l.toArray⟩ p) ∧
    (wr.iterAt (w.heap.size + 1 + 1) ⟨l.toArray⟩ p).heap[w.heap.size]? = some (.cells (arrF 8 (uF fun _ => 0)) 40 (0, 0)) ∧
    (wr.iterAt (w.heap.size + 1 + 1) ⟨l.toArray⟩ p).heap[w.heap.size + 1]? = some (.cells (arrF 8 (uF (ctL (l.take i)))) 40 (0, 0)) ∧
    (wr.iterAt (w.heap.size + 1 + 1) ⟨l.toArray⟩ p).heap[w.heap.size + 1 + 1]? = some (.stringIter ⟨l.toArray⟩ p) :=
  ⟨Lib.below_iterAt h.below (by omega) _ _, (iterAt_otherY _ _ _ _ _ (by omega)).trans h.res, (iterAt_otherY _ _ _ _ _ (by omega)).trans h.out, Lib.iterAt_heap _ _ _ _ _ h.it⟩
set_option maxRecDepth 100000 in
set_option maxHeartbeats 6400000 in
theorem count_any (l : List UInt8) (n : Nat) (w : World) (hl : l.length ≤ 40000) (hn : n ≤ 8) (ha : l.all (ltB n) = true) : Calls Try.prog 23 #[.string ⟨l.toArray⟩] w fun e w' => e = .returned (.agg (arrF 8 (uF (ctL l)))) ∧ Below w.heap.size w w' := by
  obtain ⟨w1, hw1⟩ : ∃ w1, ((w.alloc (.cells #[.int .u64 0, .int .u64 0, .int .u64 0, .int .u64 0, .int .u64 0, .int .u64 0, .int .u64 0, .int .u64 0] 40)).alloc (.cells #[.int .u64 0, .int .u64 0, .int .u64 0, .int .u64 0, .int .u64 0, .int .u64 0, .int .u64 0, .int .u64 0] 40)).iter ⟨l.toArray⟩ 0 = w1 := ⟨_, rfl⟩
  have X0 := hide' (show CtS w w1 l 0 from ⟨by rw [← hw1]; exact (((Below.refl _ _).alloc (Nat.le_refl _) _).alloc (by simp; try omega) _).alloc (by simp; try omega) _,
    by rw [← hw1, ← zero8]; unfold World.iter; rw [Below.heap_alloc _ _ _ (by simp; try omega), Below.heap_alloc _ _ _ (by simp; try omega)]; exact heap_atX _ _ _ (by simp),
    by rw [← hw1, arrF_ext (n := 8) (f := uF (ctL (l.take 0))) (g := uF fun _ => 0) (fun k _ => by simp [uF, ctL]), ← zero8]; unfold World.iter; rw [Below.heap_alloc _ _ _ (by simp)]; exact heap_atX _ _ _ (by simp),
    by rw [← hw1]; unfold World.iter; exact heap_atX _ _ _ (by simp)⟩)
  have NM := hide' (fun (x : Nat) (V : World) (h : 97 ≤ x) (hx : x ≤ 2147483647) => numberOf_any x V h hx)
  have AL := hide' (fun j (hj : j < l.length) => ltB_at ha hj)
  clear ha
  go_enter Try.func23, Try.ntmps23
  go_wp2
  try rw [hw1]
  clear hw1
  go_loopw [5] (fun _ wr => ∃ i : Nat, i ≤ l.length ∧ Hid (CtS w wr l i)) (fun _ wr => l.length - wr.iterPos (w.heap.size + 1 + 1))
  case atStart => exact ⟨0, by omega, X0⟩
  case round =>
    obtain ⟨i, hi, HS⟩ := hrel
    have hit := HS.out.it
    rw [iterPos_of hit]
    by_cases d : i < l.length
    · obtain ⟨gi, GI⟩ := byte_at l d
      have rg := AL.out i d
      have hnx : ∀ ty, (Instr.next (.pointer (some ⟨w.heap.size + 1 + 1, 0, none⟩)) true ty).run Try.prog wr = _ := fun ty => Lib.run_next_ascii_at wr (w.heap.size + 1 + 1) _ i ty hit gi (by rw [GI]; omega)
      rw [GI] at hnx
      have CN := hide' (fun x => ctL_next d x)
      have CL := hide' (fun x => Nat.le_trans (ctL_le (l.take i) x) (by rw [List.length_take]; omega : (l.take i).length ≤ 40000))
      obtain ⟨x, hx⟩ : ∃ x, (l.getD i 0).toNat = x := ⟨_, rfl⟩
      rw [hx] at hnx rg CN
      have TT := hide' (HS.out.turn (i + 1))
      obtain ⟨W, hW⟩ : ∃ W, wr.iterAt (w.heap.size + 1 + 1) ⟨l.toArray⟩ (i + 1) = W := ⟨_, rfl⟩
      rw [hW] at hnx TT
      clear hx hW GI gi hit HS
      obtain ⟨r1, r2⟩ := rg
      have NC := hide' (NM.out x W r1 (by omega))
      obtain ⟨y, hy⟩ : ∃ y, x - 97 = y := ⟨_, rfl⟩
      rw [hy] at NC CN
      have y0 : (0 : Int) ≤ (y : Int) := by omega
      have y8 : (y : Int) < 8 := by omega
      have c1 : W.cell? ⟨w.heap.size + 1, y, none⟩ = some (.int .u64 ((ctL (l.take i) y : Nat) : Int)) := by rw [cell_of_row W _ _ _ _ _ TT.out.2.2.1, arrF_get _ (by omega)]; rfl
      have f1 := frozen_of_row W _ y _ _ TT.out.2.2.1
      have cl := CL.out y
      have NX := hide' (show ∀ t : Int, t = ((ctL (l.take i) y : Nat) : Int) + 1 → CtS w (W.setCell ⟨w.heap.size + 1, y, none⟩ (.int .u64 t)) l (i + 1) from fun t ht => ⟨TT.out.1.setCell (by simp) _, (Below.heap_setCell _ _ _ _ (by simp)).trans TT.out.2.1,
        by
          rw [heap_setCell_same _ _ _ _ _ _ TT.out.2.2.1, arrF_set]
          congr 2
          refine arrF_ext fun k hk => ?_
          unfold uF
          rw [CN.out k]
          by_cases e : k = y
          · rw [if_pos e, if_pos e, e, ht]; rfl
          · rw [if_neg e, if_neg e],
        (Below.heap_setCell _ _ _ _ (by simp)).trans TT.out.2.2.2⟩)
      obtain ⟨t, ht⟩ : ∃ t, ctL (l.take i) y = t := ⟨_, rfl⟩
      rw [ht] at c1 cl NX
      clear ht CN CL TT hy
      go_wp2_with fail
      refine NC.out.mono ?_
      rintro o w3 ⟨rfl, rfl⟩
      go_wp2
      exact ⟨⟨i + 1, by omega, hide' (NX.out _ (by omega))⟩, by rw [iterPos_of (NX.out _ (by omega)).it]; omega⟩
    · obtain rfl : i = l.length := by omega
      have hnx : ∀ ty, (Instr.next (.pointer (some ⟨w.heap.size + 1 + 1, 0, none⟩)) true ty).run Try.prog wr = _ := fun ty => Lib.run_next_end_at wr (w.heap.size + 1 + 1) _ _ ty hit (by show ¬ _ < l.toArray.size; simp)
      have gp := HS.out.out
      rw [List.take_length] at gp
      have gb := HS.out.res
      obtain ⟨Zb, hZ⟩ : ∃ Z, arrF 8 (uF (ctL l)) = Z := ⟨_, rfl⟩
      have zs : Zb.size = 8 := by rw [← hZ, arrF_size]
      have za : Zb.all (·.oneCell') = true := by rw [← hZ]; exact arrF_all _ _ (fun k _ => rfl)
      rw [hZ] at gp
      have HZ := hide' hZ
      clear hZ
      have BF := hide' HS.out.below
      clear d hit HS
      go_wp2_with (first
        | (refine wpList_load_row rfl 40 _ rfl (w.heap.size + 1) rfl 40 Zb (0, 0) _ gp Try.underlying40 rfl (by rw [zs]; kernel_rfl) ?_)
        | (refine wpList_store_row rfl 40 _ _ rfl w.heap.size Zb rfl rfl 40 _ gb (by rw [zs]; kernel_rfl) (by rw [zs]; rfl) za ?_))
      refine bodyPost_ret (v := .agg Zb) (results_cell_row Try.results23 _ _ w.heap.size 40 _ (0, 0) _ rfl (setRow_heap _ _ _ _ _ _ gb) Try.underlying40 rfl (by rw [zs]; kernel_rfl)) rfl ?_
      exact ⟨by rw [HZ.out], below_setRow BF.out (by omega) _⟩
end Go.Proofs.Ytmnacanjbhlfeaa

namespace Go.Proofs.Ytmnacanjbhlfeaa
open Go.RowKit
set_option linter.unusedVariables false
set_option linter.unusedSimpArgs false
theorem index_8 (c : Nat → Nat) (i : Nat) (hi : i < 8) (w : World) : (Instr.index 40 (.agg (arrF 8 (uF c))) (.int .i64 (i : Int))).run Try.prog w = .ok (.int .u64 ((c i : Nat) : Int)) w := by
  match i, hi with
  | 0, _ => exact (show (Instr.index 40 (.agg (arrF 8 (uF c))) (.int .i64 0)).run Try.prog w = .ok (.int .u64 ((c 0 : Nat) : Int)) w by kernel_rfl)
  | 1, _ => exact (show (Instr.index 40 (.agg (arrF 8 (uF c))) (.int .i64 1)).run Try.prog w = .ok (.int .u64 ((c 1 : Nat) : Int)) w by kernel_rfl)
  | 2, _ => exact (show (Instr.index 40 (.agg (arrF 8 (uF c))) (.int .i64 2)).run Try.prog w = .ok (.int .u64 ((c 2 : Nat) : Int)) w by kernel_rfl)
  | 3, _ => exact (show (Instr.index 40 (.agg (arrF 8 (uF c))) (.int .i64 3)).run Try.prog w = .ok (.int .u64 ((c 3 : Nat) : Int)) w by kernel_rfl)
  | 4, _ => exact (show (Instr.index 40 (.agg (arrF 8 (uF c))) (.int .i64 4)).run Try.prog w = .ok (.int .u64 ((c 4 : Nat) : Int)) w by kernel_rfl)
  | 5, _ => exact (show (Instr.index 40 (.agg (arrF 8 (uF c))) (.int .i64 5)).run Try.prog w = .ok (.int .u64 ((c 5 : Nat) : Int)) w by kernel_rfl)
  | 6, _ => exact (show (Instr.index 40 (.agg (arrF 8 (uF c))) (.int .i64 6)).run Try.prog w = .ok (.int .u64 ((c 6 : Nat) : Int)) w by kernel_rfl)
  | 7, _ => exact (show (Instr.index 40 (.agg (arrF 8 (uF c))) (.int .i64 7)).run Try.prog w = .ok (.int .u64 ((c 7 : Nat) : Int)) w by kernel_rfl)
theorem index_64 (B : Nat → Nat) (i : Nat) (hi : i < 8) (w : World) : (Instr.index 54 (.agg (arrF 64 (uF B))) (.int .i64 (i : Int))).run Try.prog w = .ok (.agg (arrF 8 (uF fun x => B (i * 8 + x)))) w := by
  match i, hi with
  | 0, _ => exact (show (Instr.index 54 (.agg (arrF 64 (uF B))) (.int .i64 0)).run Try.prog w = .ok (.agg (arrF 8 (uF fun x => B (0 * 8 + x)))) w by kernel_rfl)
  | 1, _ => exact (show (Instr.index 54 (.agg (arrF 64 (uF B))) (.int .i64 1)).run Try.prog w = .ok (.agg (arrF 8 (uF fun x => B (1 * 8 + x)))) w by kernel_rfl)
  | 2, _ => exact (show (Instr.index 54 (.agg (arrF 64 (uF B))) (.int .i64 2)).run Try.prog w = .ok (.agg (arrF 8 (uF fun x => B (2 * 8 + x)))) w by kernel_rfl)
  | 3, _ => exact (show (Instr.index 54 (.agg (arrF 64 (uF B))) (.int .i64 3)).run Try.prog w = .ok (.agg (arrF 8 (uF fun x => B (3 * 8 + x)))) w by kernel_rfl)
  | 4, _ => exact (show (Instr.index 54 (.agg (arrF 64 (uF B))) (.int .i64 4)).run Try.prog w = .ok (.agg (arrF 8 (uF fun x => B (4 * 8 + x)))) w by kernel_rfl)
  | 5, _ => exact (show (Instr.index 54 (.agg (arrF 64 (uF B))) (.int .i64 5)).run Try.prog w = .ok (.agg (arrF 8 (uF fun x => B (5 * 8 + x)))) w by kernel_rfl)
  | 6, _ => exact (show (Instr.index 54 (.agg (arrF 64 (uF B))) (.int .i64 6)).run Try.prog w = .ok (.agg (arrF 8 (uF fun x => B (6 * 8 + x)))) w by kernel_rfl)
  | 7, _ => exact (show (Instr.index 54 (.agg (arrF 64 (uF B))) (.int .i64 7)).run Try.prog w = .ok (.agg (arrF 8 (uF fun x => B (7 * 8 + x)))) w by kernel_rfl)
theorem smG_part (f : Nat → Nat) {i n : Nat} (h : i ≤ n) : smG f i ≤ smG f n := by
  rcases Nat.lt_or_ge i n with q | q
  · have := smG_up f q; omega
  · rw [show i = n by omega]; exact Nat.le_refl _
set_option maxRecDepth 100000 in
set_option maxHeartbeats 6400000 in
theorem sumY_any (c : Nat → Nat) (w : World) (hs : smG c 8 < 18446744073709551616) : Calls Try.prog 25 #[.agg (arrF 8 (uF c))] w fun e w' => e = .returned (.int .u64 ((smG c 8 : Nat) : Int)) ∧ Below w.heap.size w w' := by
  have IX := hide' (fun i (h : i < 8) (V : World) => index_8 c i h V)
  have UP := hide' (fun i (h : i < 8) => smG_up c h)
  have SC := hide' (fun i => show smG c (i + 1) = smG c i + c i from rfl)
  obtain ⟨Z, hZ⟩ : ∃ Z, arrF 8 (uF c) = Z := ⟨_, rfl⟩
  have zs : Z.size = 8 := by rw [← hZ, arrF_size]
  rw [hZ] at IX ⊢
  clear hZ
  have gp : (w.alloc (.cells Z 40)).heap[w.heap.size]? = some (.cells Z 40 (0, 0)) := heap_alloc_new w _
  have BB := hide' (show Below w.heap.size w (w.alloc (.cells Z 40)) from (Below.refl _ _).alloc (Nat.le_refl _) _)
  obtain ⟨W, hW⟩ : ∃ W, w.alloc (.cells Z 40) = W := ⟨_, rfl⟩
  rw [hW] at gp BB
  go_enter Try.func25, Try.ntmps25
  go_wp2_with (first
    | (refine wpList_load_row rfl 40 _ rfl w.heap.size rfl 40 Z (0, 0) _ gp Try.underlying40 rfl (by rw [zs]; kernel_rfl) ?_))
  go_loopw [3, 5, 7] (fun sv _ iv wr => ∃ i : Nat, sv = .int .u64 ((smG c i : Nat) : Int) ∧ iv = .int .i64 (i : Int) ∧ i ≤ 8 ∧ wr = W) (fun _ _ iv _ => 8 - (intOf iv).toNat)
  case atStart => exact ⟨0, rfl, rfl, by omega, rfl⟩
  case round =>
    obtain ⟨i, rfl, rfl, hi, rfl⟩ := hrel
    by_cases d : (i : Int) < 8
    · have ix := IX.out i (by omega) wr
      have up := UP.out i (by omega)
      have sc := SC.out i
      have pt := smG_part c (show i + 1 ≤ 8 by omega)
      obtain ⟨s', hs'⟩ : ∃ s', smG c (i + 1) = s' := ⟨_, rfl⟩
      obtain ⟨s, hs0⟩ : ∃ s, smG c i = s := ⟨_, rfl⟩
      obtain ⟨x, hx⟩ : ∃ x, c i = x := ⟨_, rfl⟩
      rw [hx] at ix
      rw [hs', hs0, hx] at sc
      rw [hs'] at pt
      rw [hs0]
      have SE := hide' hs'
      clear hs0 hx up gp hs'
      go_wp2
      exact ⟨⟨i + 1, by rw [SE.out, sc]; go_num, by go_num, by omega, trivial⟩, by simp [intOf]; omega⟩
    · obtain rfl : i = 8 := by omega
      clear gp
      go_wp2
      go_ret
      exact ⟨rfl, BB.out⟩
end Go.Proofs.Ytmnacanjbhlfeaa

namespace Go.Proofs.Ytmnacanjbhlfeaa
open Go.RowKit
set_option linter.unusedVariables false
set_option linter.unusedSimpArgs false
/-- The counts a round on, and while they are reckoned. -/
def rdV (c B : Nat → Nat) (n x : Nat) : Nat := smG (fun i => c i * B (i * 8 + x)) n
def prV (c B : Nat → Nat) (i x k : Nat) : Nat := rdV c B i k + if k < x then c i * B (i * 8 + k) else 0
theorem prV_full (c B : Nat → Nat) (i k : Nat) (h : k < 8) : prV c B i 8 k = prV c B (i + 1) 0 k := by
  unfold prV rdV
  rw [if_pos h, if_neg (by omega)]
  rfl
theorem prV_next (c B : Nat → Nat) (i x k : Nat) : prV c B i (x + 1) k = if k = x then prV c B i x k + c i * B (i * 8 + x) else prV c B i x k := by
  unfold prV
  by_cases e : k = x
  · subst e
    rw [if_pos (show k < k + 1 by omega), if_pos rfl, if_neg (show ¬ k < k by omega)]
    rfl
  · rw [if_neg e]
    by_cases q : k < x
    · rw [if_pos (by omega), if_pos q]
    · rw [if_neg (by omega), if_neg q]
/-- What lies there while it is reckoned. -/
structure RdS (w wr : World) (c B : Nat → Nat) (i x : Nat) : Prop where
  below : Below w.heap.size w wr
  each : wr.heap[w.heap.size]? = some (.cells (arrF 8 (uF c)) 40 (0, 0))
  res : wr.heap[w.heap.size + 1 + 1]? = some (.cells (arrF 8 (uF fun _ => 0)) 40 (0, 0))
  out : wr.heap[w.heap.size + 1 + 1 + 1]? = some (.cells (arrF 8 (uF (prV c B i x))) 40 (0, 0))
theorem RdS.keep {w wr V : World} {c B : Nat → Nat} {i x : Nat} (h : RdS w wr c B i x) (b : Below wr.heap.size wr V) : RdS w V c B i x :=
  ⟨h.below.trans (b.mono h.below.size), (b.block _ (lt_of_block h.each)).trans h.each, (b.block _ (lt_of_block h.res)).trans h.res, (b.block _ (lt_of_block h.out)).trans h.out⟩
theorem RdS.over {w wr : World} {c B : Nat → Nat} {i : Nat} (h : RdS w wr c B i 8) : RdS w wr c B (i + 1) 0 :=
  ⟨h.below, h.each, h.res, by rw [h.out, arrF_ext (n := 8) (f := uF (prV c B i 8)) (g := uF (prV c B (i + 1) 0)) (fun k hk => by unfold uF; rw [prV_full c B i k hk])]⟩
theorem RdS.put {w wr : World} {c B : Nat → Nat} {i x : Nat} {t : Int} (h : RdS w wr c B i x) (ht : t = ((prV c B i x x + c i * B (i * 8 + x) : Nat) : Int)) : RdS w (wr.setCell ⟨w.heap.size + 1 + 1 + 1, x, none⟩ (.int .u64 t)) c B i (x + 1) :=
  ⟨h.below.setCell (by simp; try omega) _, (Below.heap_setCell _ _ _ _ (by simp; try omega)).trans h.each, (Below.heap_setCell _ _ _ _ (by simp)).trans h.res, by
    rw [heap_setCell_same _ _ _ _ _ _ h.out, arrF_set]
    congr 2
    refine arrF_ext fun k hk => ?_
    unfold uF
    rw [prV_next]
    by_cases e : k = x
    · subst e; rw [if_pos rfl, if_pos rfl, ht]
    · rw [if_neg e, if_neg e]⟩
set_option maxRecDepth 100000 in
set_option maxHeartbeats 12800000 in
theorem round_any (c B : Nat → Nat) (w : World) (hs : ∀ x, x < 8 → rdV c B 8 x < 18446744073709551616) (hB : ∀ k, k < 64 → B k < 18446744073709551616) : Calls Try.prog 24 #[.agg (arrF 8 (uF c)), .agg (arrF 64 (uF B))] w fun e w' => e = .returned (.agg (arrF 8 (uF (rdV c B 8)))) ∧ Below w.heap.size w w' := by
  have IX := hide' (fun i (h : i < 8) (V : World) => index_64 B i h V)
  have IY := hide' (fun i x (h : x < 8) (V : World) => index_8 (fun x => B (i * 8 + x)) x h V)
  obtain ⟨Z, hZ⟩ : ∃ Z, arrF 8 (uF c) = Z := ⟨_, rfl⟩
  obtain ⟨Y, hY⟩ : ∃ Y, arrF 64 (uF B) = Y := ⟨_, rfl⟩
  have ys : Y.size = 64 := by rw [← hY, arrF_size]
  rw [hY] at IX
  obtain ⟨w1, hw1⟩ : ∃ w1, (((w.alloc (.cells Z 40)).alloc (.cells Y 54)).alloc (.cells #[.int .u64 0, .int .u64 0, .int .u64 0, .int .u64 0, .int .u64 0, .int .u64 0, .int .u64 0, .int .u64 0] 40)).alloc (.cells #[.int .u64 0, .int .u64 0, .int .u64 0, .int .u64 0, .int .u64 0, .int .u64 0, .int .u64 0, .int .u64 0] 40) = w1 := ⟨_, rfl⟩
  have X0 := hide' (show RdS w w1 c B 0 0 from ⟨by rw [← hw1]; exact ((((Below.refl _ _).alloc (Nat.le_refl _) _).alloc (by simp; try omega) _).alloc (by simp; try omega) _).alloc (by simp; try omega) _,
    by rw [hZ, ← hw1, Below.heap_alloc _ _ _ (by simp; try omega), Below.heap_alloc _ _ _ (by simp; try omega), Below.heap_alloc _ _ _ (by simp; try omega)]; exact heap_atX _ _ _ (by simp),
    by rw [← hw1, ← zero8, Below.heap_alloc _ _ _ (by simp; try omega)]; exact heap_atX _ _ _ (by simp),
    by rw [arrF_ext (n := 8) (f := uF (prV c B 0 0)) (g := uF fun _ => 0) (fun k _ => by simp [uF, prV, rdV, smG]), ← zero8, ← hw1]; exact heap_atX _ _ _ (by simp)⟩)
  have gy : w1.heap[w.heap.size + 1]? = some (.cells Y 54 (0, 0)) := by
    rw [← hw1, Below.heap_alloc _ _ _ (by simp; try omega), Below.heap_alloc _ _ _ (by simp; try omega)]; exact heap_atX _ _ _ (by simp)
  have HS := hide' hs
  have HB := hide' hB
  rw [hZ, hY]
  have HZ := hide' hZ
  clear hs hB hZ hY
  go_enter Try.func24, Try.ntmps24
  go_wp2_with (first
    | (refine wpList_load_row rfl 54 _ rfl (w.heap.size + 1) rfl 54 Y (0, 0) _ gy Try.underlying54 rfl (by rw [ys]; kernel_rfl) ?_))
  clear hw1 gy
  go_loopw [6, 7, 8, 9, 11] (fun _ _ _ _ iv wr => ∃ i : Nat, iv = .int .i64 (i : Int) ∧ i ≤ 8 ∧ Hid (RdS w wr c B i 0)) (fun _ _ _ _ iv _ => 8 - (intOf iv).toNat)
  case atStart => exact ⟨0, rfl, by omega, X0⟩
  case round =>
    obtain ⟨i, rfl, hi, H⟩ := hrel
    by_cases d : (i : Int) < 8
    · have ix := IX.out i (by omega) wr
      have IZ := hide' (fun x (h : x < 8) (V : World) => IY.out i x h V)
      obtain ⟨A, hA⟩ : ∃ A, arrF 8 (uF fun x => B (i * 8 + x)) = A := ⟨_, rfl⟩
      have asz : A.size = 8 := by rw [← hA, arrF_size]
      have al : A.all (·.oneCell') = true := by rw [← hA]; exact arrF_all _ _ (fun k _ => rfl)
      rw [hA] at ix IZ
      clear hA
      have gz : (wr.alloc (.cells #[.int .u64 0, .int .u64 0, .int .u64 0, .int .u64 0, .int .u64 0, .int .u64 0, .int .u64 0, .int .u64 0] 40)).heap[wr.heap.size]? = some (.cells #[.int .u64 0, .int .u64 0, .int .u64 0, .int .u64 0, .int .u64 0, .int .u64 0, .int .u64 0, .int .u64 0] 40 (0, 0)) := heap_alloc_new wr _
      obtain ⟨V, hV⟩ : ∃ V, (wr.alloc (.cells #[.int .u64 0, .int .u64 0, .int .u64 0, .int .u64 0, .int .u64 0, .int .u64 0, .int .u64 0, .int .u64 0] 40)).setRow wr.heap.size A = V := ⟨_, rfl⟩
      have gv : V.heap[wr.heap.size]? = some (.cells A 40 (0, 0)) := by rw [← hV]; exact setRow_heap _ _ _ _ _ _ gz
      have HV := hide' (H.out.keep (show Below wr.heap.size wr V by rw [← hV]; exact below_setRow ((Below.refl _ _).alloc (Nat.le_refl _) _) (Nat.le_refl _) _))
      go_wp2_with (first
        | (refine wpList_store_row rfl 40 _ _ rfl wr.heap.size A rfl rfl 40 _ gz (by rw [asz]; kernel_rfl) (by rw [asz]; rfl) al ?_; rw [hV])
        | (refine wpList_load_row rfl 40 _ rfl wr.heap.size rfl 40 A (0, 0) _ gv Try.underlying40 rfl (by rw [asz]; kernel_rfl) ?_))
      clear hV gz gv ix H
      obtain ⟨VV, rfl⟩ : ∃ VV, VV = wr := ⟨_, rfl⟩
      go_loopw [8, 9, 16] (fun _ _ xv wr => ∃ x : Nat, xv = .int .i64 (x : Int) ∧ x ≤ 8 ∧ Hid (RdS w wr c B i x)) (fun _ _ xv _ => 8 - (intOf xv).toNat)
      case atStart => exact ⟨0, rfl, by omega, HV⟩
      case round =>
        obtain ⟨x, rfl, hx, K⟩ := hrel
        by_cases e : (x : Int) < 8
        · have iy := IZ.out x (by omega) wr
          have x0 : (0 : Int) ≤ (x : Int) := by omega
          have i0 : (0 : Int) ≤ (i : Int) := by omega
          have c0 : wr.cell? ⟨w.heap.size + 1 + 1 + 1, x, none⟩ = some (.int .u64 ((prV c B i x x : Nat) : Int)) := by rw [cell_of_row wr _ _ _ _ _ K.out.out, arrF_get _ (by omega)]; rfl
          have f0 := frozen_of_row wr _ x _ _ K.out.out
          have c1 : wr.cell? ⟨w.heap.size, i, none⟩ = some (.int .u64 ((c i : Nat) : Int)) := by rw [cell_of_row wr _ _ _ _ _ K.out.each, arrF_get _ (by omega)]; rfl
          have lim : prV c B i x x + c i * B (i * 8 + x) < 18446744073709551616 := by
            have h1 := HS.out x (by omega)
            have h2 : rdV c B i x + c i * B (i * 8 + x) ≤ rdV c B 8 x := smG_up (fun i => c i * B (i * 8 + x)) (by omega : i < 8)
            have h3 : prV c B i x x = rdV c B i x := by unfold prV; rw [if_neg (by omega)]; rfl
            omega
          have NX := hide' (fun (t : Int) (k : Nat) (ht : t = ((prV c B i x x + c i * B (i * 8 + x) : Nat) : Int)) => (K.out.put ht).keep (below_drewN (Below.refl _ _) k))
          obtain ⟨p, hp⟩ : ∃ p, c i * B (i * 8 + x) = p := ⟨_, rfl⟩
          have ep : ((c i : Nat) : Int) * ((B (i * 8 + x) : Nat) : Int) = (p : Int) := by rw [← hp]; push_cast; rfl
          obtain ⟨q, hq⟩ : ∃ q, prV c B i x x = q := ⟨_, rfl⟩
          obtain ⟨u, hu⟩ : ∃ u, c i = u := ⟨_, rfl⟩
          obtain ⟨v, hv⟩ : ∃ v, B (i * 8 + x) = v := ⟨_, rfl⟩
          rw [hq, hp] at NX lim
          rw [hu, hv] at ep
          rw [hq] at c0
          rw [hu] at c1
          simp only [hv] at iy
          have p1 : (p : Int) < 18446744073709551616 := by omega
          have p0 : (0 : Int) ≤ (p : Int) := by omega
          have NXH := NX
          clear hq hp hu hv NX
          go_wp2
          go_region
          all_goals go_wp2
          all_goals exact ⟨⟨x + 1, by go_num, by omega, hide' (NXH.out _ 1 (by omega))⟩, by simp [intOf]; omega⟩
        · obtain rfl : x = 8 := by omega
          have KO := hide' K.out.over
          clear K
          go_wp2
          exact ⟨⟨i + 1, by go_num, by omega, KO⟩, by simp [intOf]; omega⟩
    · obtain rfl : i = 8 := by omega
      have gp := H.out.out
      rw [arrF_ext (n := 8) (f := uF (prV c B 8 0)) (g := uF (rdV c B 8)) (fun k _ => by unfold uF prV; rw [if_neg (by omega)]; rfl)] at gp
      have gb := H.out.res
      obtain ⟨Zb, hZb⟩ : ∃ Z, arrF 8 (uF (rdV c B 8)) = Z := ⟨_, rfl⟩
      have zs : Zb.size = 8 := by rw [← hZb, arrF_size]
      have za : Zb.all (·.oneCell') = true := by rw [← hZb]; exact arrF_all _ _ (fun k _ => rfl)
      rw [hZb] at gp
      have HZB := hide' hZb
      have BF := hide' H.out.below
      clear d hZb H
      go_wp2_with (first
        | (refine wpList_load_row rfl 40 _ rfl (w.heap.size + 1 + 1 + 1) rfl 40 Zb (0, 0) _ gp Try.underlying40 rfl (by rw [zs]; kernel_rfl) ?_)
        | (refine wpList_store_row rfl 40 _ _ rfl (w.heap.size + 1 + 1) Zb rfl rfl 40 _ gb (by rw [zs]; kernel_rfl) (by rw [zs]; rfl) za ?_))
      refine bodyPost_ret (v := .agg Zb) (results_cell_row Try.results24 _ _ (w.heap.size + 1 + 1) 40 _ (0, 0) _ rfl (setRow_heap _ _ _ _ _ _ gb) Try.underlying40 rfl (by rw [zs]; kernel_rfl)) rfl ?_
      exact ⟨by rw [HZB.out], below_setRow BF.out (by omega) _⟩
end Go.Proofs.Ytmnacanjbhlfeaa

