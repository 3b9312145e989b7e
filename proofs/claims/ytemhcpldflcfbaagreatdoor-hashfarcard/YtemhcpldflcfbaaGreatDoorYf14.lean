/-
  What the last text of this claim leans on, part 14: Hc7, Gr5, Gr6, Wb1, Qa1, Pa7, Pa8, Jumps, Pa9, Pa10.
-/
import Derived.Test.YtemhcpldflcfbaaGreatDoorYf13
import Derived.Test.YtemhcpldflcfbaaGreatDoorYf7
import Derived.Test.YtemhcpldflcfbaaGreatDoorYf9
import Derived.Test.YtemhcpldflcfbaaGreatDoorYf1
import Derived.OwnWalk
import Derived.Scope
import Derived.WalkMore
namespace Go.Proofs.YtemhcpldflcfbaaGreatDoor
open Go.RowKit
set_option linter.unusedVariables false
theorem StkA.weakB {w : World} {sb B B' g cap : Nat} {qs : List Sq} {mp : Option (Nat × Nat)} (h : StkA w sb B g cap qs mp) (hb : B' ≤ B) : StkA w sb B' g cap qs mp := ⟨h.blkM, by
 refine ⟨h.row.1, ?_⟩
 rcases h.row.2 with h1 | ⟨g', cap', cur, e, h2, r⟩
 ·exact Or.inl h1
 ·exact Or.inr ⟨g', cap', cur, e, Nat.le_trans hb h2, r⟩, Nat.le_trans hb h.le, h.st, h.lv, h.map.weak hb⟩
theorem st_nil : StQ [zQ] := ⟨by simp, rfl, rfl, rfl, rfl, rfl⟩
def NwP (w : World) (e : Ending) (w' : World) : Prop := ∃ sb g, e = .returned (.pointer (some ⟨sb, 0, none⟩)) ∧ StkA w' sb w.heap.size g 1 [zQ] ∧ Below w.heap.size w w'
theorem mk_sq (w : World) : (Instr.makeSlice 82 (.int .i64 1) (.int .i64 1)).run Tryz.prog w = .ok (.slice (some ⟨w.heap.size, 0, none⟩) 1 1) (w.alloc (bxQ zQ)) := by kernel_rfl
set_option maxRecDepth 100000 in
set_option maxHeartbeats 3200000 in
theorem newStock_any (w : World) : Calls Tryz.prog 48 #[] w (NwP w) := by
 have mk := mk_sq w
 obtain ⟨w1, hw1⟩ : ∃ w1, w.alloc (bxQ zQ) = w1 := ⟨_, rfl⟩
 rw [hw1] at mk
 have Z1 := hide' (show w1.heap.size = w.heap.size + 1 by rw [← hw1]; simp)
 have G1 := hide' (show w1.heap[w.heap.size]? = some (bxQ zQ) by rw [← hw1]; exact heap_alloc_new _ _)
 have B1 := hide' (show Below w.heap.size w w1 by rw [← hw1]; exact (Below.refl _ _).alloc (Nat.le_refl _) _)
 have FIN := hide' (show NwP w (.returned (.pointer (some ⟨w1.heap.size, 0, none⟩))) (w1.alloc (.cells #[.slice (some ⟨w.heap.size, 0, none⟩) 1 1, .map none, .map none] 86)) from
  ⟨w1.heap.size, w.heap.size, rfl, ⟨heap_alloc_new _ _, ⟨rfl, Or.inr ⟨w.heap.size, 1, _, rfl, Nat.le_refl _, (heap_alloc_old _ _ (by have := Z1.out; omega)).trans G1.out, Nat.le_refl _, by unfold maxLen; omega, rfl, rfl⟩⟩, by have := Z1.out; omega, st_nil, lv_nil, trivial⟩, B1.out.alloc B1.out.size _⟩)
 clear hw1
 go_enter Tryz.func48, Tryz.ntmps48
 go_wp2
 go_ret
 exact FIN.out
def EmP (w : World) (e : Ending) (w' : World) : Prop := ∃ sb g, e = .returned (.agg #[.pointer (some ⟨sb, 0, none⟩), .int .i32 0, .int .i64 4, .int .i64 0, .int .i64 0]) ∧ StkA w' sb w.heap.size g 1 [zQ] ∧ Below w.heap.size w w'
theorem five_stored {w : World} {g : Nat} {x0 x1 x2 x3 x4 : Value} {t : TypeId} (h : w.heap[g]? = some (.cells #[x0, x1, x2, x3, x4] t (0, 0))) (a b c d e : Value) :
  (((((w.setCell ⟨g, 0, none⟩ a).setCell ⟨g, 1, none⟩ b).setCell ⟨g, 2, none⟩ c).setCell ⟨g, 3, none⟩ d).setCell ⟨g, 4, none⟩ e).heap[g]? = some (.cells #[a, b, c, d, e] t (0, 0)) := by
 have h0 : (w.setCell ⟨g, 0, none⟩ a).heap[g]? = some (.cells #[a, x1, x2, x3, x4] t (0, 0)) := by rw [heap_setCell_same _ _ _ _ _ _ h]; rfl
 have h1 : ((w.setCell ⟨g, 0, none⟩ a).setCell ⟨g, 1, none⟩ b).heap[g]? = some (.cells #[a, b, x2, x3, x4] t (0, 0)) := by rw [heap_setCell_same _ _ _ _ _ _ h0]; rfl
 have h2 : (((w.setCell ⟨g, 0, none⟩ a).setCell ⟨g, 1, none⟩ b).setCell ⟨g, 2, none⟩ c).heap[g]? = some (.cells #[a, b, c, x3, x4] t (0, 0)) := by rw [heap_setCell_same _ _ _ _ _ _ h1]; rfl
 have h3 : ((((w.setCell ⟨g, 0, none⟩ a).setCell ⟨g, 1, none⟩ b).setCell ⟨g, 2, none⟩ c).setCell ⟨g, 3, none⟩ d).heap[g]? = some (.cells #[a, b, c, d, x4] t (0, 0)) := by rw [heap_setCell_same _ _ _ _ _ _ h2]; rfl
 rw [heap_setCell_same _ _ _ _ _ _ h3]; rfl
theorem five_else {w : World} {g k : Nat} (hk : k ≠ g) (x0 x1 x2 x3 x4 : Value) : (((((w.setCell ⟨g, 0, none⟩ x0).setCell ⟨g, 1, none⟩ x1).setCell ⟨g, 2, none⟩ x2).setCell ⟨g, 3, none⟩ x3).setCell ⟨g, 4, none⟩ x4).heap[k]? = w.heap[k]? := by
 rw [Below.heap_setCell _ _ _ _ (by simpa using hk), Below.heap_setCell _ _ _ _ (by simpa using hk), Below.heap_setCell _ _ _ _ (by simpa using hk), Below.heap_setCell _ _ _ _ (by simpa using hk), Below.heap_setCell _ _ _ _ (by simpa using hk)]
theorem five_belowH {B : Nat} {a w : World} (h : Below B a w) {g : Nat} (hg : B ≤ g) (x0 x1 x2 x3 x4 : Value) : Below B a (((((w.setCell ⟨g, 0, none⟩ x0).setCell ⟨g, 1, none⟩ x1).setCell ⟨g, 2, none⟩ x2).setCell ⟨g, 3, none⟩ x3).setCell ⟨g, 4, none⟩ x4) :=
 ((((h.setCell hg _).setCell hg _).setCell hg _).setCell hg _).setCell hg _
set_option maxRecDepth 100000 in
set_option maxHeartbeats 3200000 in
theorem emptyField_any (w : World) : Calls Tryz.prog 21 #[] w (EmP w) := by
 obtain ⟨w1, hw1⟩ : ∃ w1, w.alloc (.cells #[.pointer none, .int .i32 0, .int .i64 0, .int .i64 0, .int .i64 0] 72) = w1 := ⟨_, rfl⟩
 have HW1 := hide' hw1
 have Z1 := hide' (show w1.heap.size = w.heap.size + 1 by rw [← hw1]; simp)
 have G1 := hide' (show w1.heap[w.heap.size]? = some (.cells #[.pointer none, .int .i32 0, .int .i64 0, .int .i64 0, .int .i64 0] 72 (0, 0)) by rw [← hw1]; exact heap_alloc_new _ _)
 have B1 := hide' (show Below w.heap.size w w1 by rw [← hw1]; exact (Below.refl _ _).alloc (Nat.le_refl _) _)
 clear hw1
 go_enter Tryz.func21, Tryz.ntmps21
 go_upto_region 1 with fail
 rw [HW1.out]
 go_wp2_with fail
 refine (newStock_any w1).mono ?_
 rintro e w2 ⟨sb, g, rfl, hs, b⟩
 have G2 := (b.block _ (lt_of_block G1.out)).trans G1.out
 have c0 := cell_of_row w2 _ 0 _ _ _ G2
 have c1 := cell_of_row w2 _ 1 _ _ _ G2
 have c2 := cell_of_row w2 _ 2 _ _ _ G2
 have c3 := cell_of_row w2 _ 3 _ _ _ G2
 have c4 := cell_of_row w2 _ 4 _ _ _ G2
 have f0 := frozen_of_row w2 _ 0 _ _ G2
 have f1 := frozen_of_row w2 _ 1 _ _ G2
 have f2 := frozen_of_row w2 _ 2 _ _ G2
 have f3 := frozen_of_row w2 _ 3 _ _ G2
 have f4 := frozen_of_row w2 _ 4 _ _ G2
 simp at c0 c1 c2 c3 c4
 have GG := hide' G2
 have HS := hide' hs
 have BB := hide' b
 clear hs b G2
 go_wp2
 obtain ⟨X, hX⟩ : ∃ X, ((((w2.setCell ⟨w.heap.size, 0, none⟩ (.pointer (some ⟨sb, 0, none⟩))).setCell ⟨w.heap.size, 1, none⟩ (.int .i32 0)).setCell ⟨w.heap.size, 2, none⟩ (.int .i64 4)).setCell ⟨w.heap.size, 3, none⟩ (.int .i64 0)).setCell ⟨w.heap.size, 4, none⟩ (.int .i64 0) = X := ⟨_, rfl⟩
 have GX : X.heap[w.heap.size]? = some (.cells #[.pointer (some ⟨sb, 0, none⟩), .int .i32 0, .int .i64 4, .int .i64 0, .int .i64 0] 72 (0, 0)) := by rw [← hX]; exact five_stored GG.out _ _ _ _ _
 have nz := HS.out.le
 have ng := HS.out.rowB.1
 have z1 := Z1.out
 have SX : StkA X sb w.heap.size g 1 [zQ] := by
  rw [← hX]
  exact (HS.out.weakB (by omega)).keep (five_else (by omega) _ _ _ _ _) (five_else (by omega) _ _ _ _ _)
 have BX : Below w.heap.size w X := by
  rw [← hX]
  exact five_belowH (B1.out.trans (BB.out.mono (by omega))) (Nat.le_refl _) _ _ _ _ _
 rw [hX]
 clear hX c0 c1 c2 c3 c4 f0 f1 f2 f3 f4
 have i0 := cell_of_row X _ 0 _ _ _ GX
 have i1 := cell_of_row X _ 1 _ _ _ GX
 have i2 := cell_of_row X _ 2 _ _ _ GX
 have i3 := cell_of_row X _ 3 _ _ _ GX
 have i4 := cell_of_row X _ 4 _ _ _ GX
 simp at i0 i1 i2 i3 i4
 refine bodyPost_ret (v := .agg #[.pointer (some ⟨sb, 0, none⟩), .int .i32 0, .int .i64 4, .int .i64 0, .int .i64 0]) (by simp [results, Tryz.results21, go_sem, i0, i1, i2, i3, i4]) rfl ?_
 exact ⟨sb, g, rfl, SX, BX⟩
def grF (X : Nat → Nat) (W H r d : Int) (k : Nat) : Value := if k < 204 then uF X k else if k = 204 then .int .i64 W else if k = 205 then .int .i64 H else if k = 206 then .int .i64 r else .int .i64 d
def bxX (X : Nat → Nat) (F f H k : Nat) : Nat := if k / 2 < H then (if k % 2 = 0 then lft0 (X ((F + k / 2) * 2)) (X ((F + k / 2) * 2 + 1)) f else lft1 (X ((F + k / 2) * 2 + 1)) f) else 0
theorem zero_grown : Tryz.zeroCells110 = arrF 208 (grF (fun _ => 0) 0 0 0 0) := by kernel_rfl
theorem zero_sheet : Tryz.zeroCells108 = arrF 204 (uF fun _ => 0) := by kernel_rfl
theorem grF_all (X : Nat → Nat) (W H r d : Int) : (arrF 208 (grF X W H r d)).all (·.oneCell') = true := arrF_all _ _ (fun k _ => by
 unfold grF uF
 split
 ·rfl
 ·split
  ·rfl
  ·split
   ·rfl
   ·split <;> rfl)
set_option maxRecDepth 100000 in
set_option maxHeartbeats 12800000 in
theorem boxed_none (X : Nat → Nat) (R D : Int) (w : World) (hX : ∀ k, k < 204 → X k < 18446744073709551616) (hT : TzTab w) (h0 : endsF (orA X 0 102) (orA X 1 102) = endsE (orA X 0 102) (orA X 1 102)) (h1 : livF X 102 = livT X 102) :
  Calls Tryz.prog 74 #[.agg (arrF 204 (uF X)), .int .i64 R, .int .i64 D] w fun e w' => e = .returned (.agg Tryz.zeroCells110) ∧ Below w.heap.size w w' := by
 obtain ⟨w1, hw1⟩ : ∃ w1, (w.alloc (.cells (arrF 204 (uF X)) 108)).alloc (.cells Tryz.zeroCells110 110) = w1 := ⟨_, rfl⟩
 have BB := hide' (show Below w.heap.size w w1 by rw [← hw1]; exact ((Below.refl _ _).alloc (Nat.le_refl _) _).alloc (by simp) _)
 have g0 : w1.heap[w.heap.size]? = some (.cells (arrF 204 (uF X)) 108 (0, 0)) := by rw [← hw1, Below.heap_alloc _ _ _ (by simp)]; exact heap_alloc_new _ _
 have g1 : w1.heap[w.heap.size + 1]? = some (.cells Tryz.zeroCells110 110 (0, 0)) := by rw [← hw1]; exact heap_atX _ _ _ (by simp)
 have LV1 := hide' (living_any X w.heap.size w1 hX g0 (hT.below BB.out))
 have G1 := hide' g1
 rw [← h0, ← h1] at LV1
 obtain ⟨f, hf⟩ : ∃ f, endsF (orA X 0 102) (orA X 1 102) = f := ⟨_, rfl⟩
 obtain ⟨l, hl⟩ : ∃ l, livF X 102 = l := ⟨_, rfl⟩
 rw [hf, hl] at LV1
 have q := fun w => corner_eq (f : Int) (l : Int) (f : Int) (l : Int) w
 simp at q
 obtain ⟨A, hA⟩ : ∃ A, arrF 204 (uF X) = A := ⟨_, rfl⟩
 rw [hA] at hw1 ⊢
 clear hf hl h0 h1 hA g0 g1 hX hT
 go_enter Tryz.func74, Tryz.ntmps74
 go_wp2_with fail
 refine LV1.out.mono ?_
 rintro e w2 ⟨rfl, b2⟩
 obtain ⟨w3, hw3⟩ : ∃ w3, (w2.alloc (.cells #[.int .i64 (f : Int), .int .i64 (l : Int)] 193)).alloc (.cells #[.int .i64 (f : Int), .int .i64 (l : Int)] 193) = w3 := ⟨_, rfl⟩
 have C3 : Below w1.heap.size w1 w3 := by rw [← hw3]; exact (b2.alloc b2.size _).alloc (Nat.le_trans b2.size (by simp)) _
 have g3 := (C3.block _ (lt_of_block G1.out)).trans G1.out
 have B3 := hide' (BB.out.trans (C3.mono BB.out.size))
 have k0 : w3.heap[w2.heap.size]? = some (.cells #[.int .i64 (f : Int), .int .i64 (l : Int)] 193 (0, 0)) := by rw [← hw3, Below.heap_alloc _ _ _ (by simp)]; exact heap_alloc_new _ _
 have k1 : w3.heap[w2.heap.size + 1]? = some (.cells #[.int .i64 (f : Int), .int .i64 (l : Int)] 193 (0, 0)) := by rw [← hw3]; exact heap_atX _ _ _ (by simp)
 have m0 := cell_of_row w3 _ 0 _ _ _ k0
 have m1 := cell_of_row w3 _ 1 _ _ _ k0
 have m2 := cell_of_row w3 _ 0 _ _ _ k1
 have m3 := cell_of_row w3 _ 1 _ _ _ k1
 simp at m0 m1 m2 m3
 clear b2 C3 hw1 k0 k1
 go_wp2_with (first | (refine wpList_store_row rfl 110 _ _ rfl (w.heap.size + 1) Tryz.zeroCells110 rfl rfl 110 _ g3 (by kernel_rfl) rfl (by rw [zero_grown]; exact grF_all ..) ?_))
 refine bodyPost_ret (v := .agg Tryz.zeroCells110) (results_cell_row Tryz.results74 _ _ (w.heap.size + 1) 110 _ (0, 0) _ rfl (setRow_heap _ _ _ _ _ _ g3) Tryz.underlying110 rfl (by kernel_rfl)) rfl ?_
 exact ⟨rfl, below_setRow B3.out (by omega) _⟩
theorem grown_set (a b c d : Int) : (((Tryz.zeroCells110.setIfInBounds 204 (.int .i64 a)).setIfInBounds 205 (.int .i64 b)).setIfInBounds 206 (.int .i64 c)).setIfInBounds 207 (.int .i64 d) = arrF 208 (grF (fun _ => 0) a b c d) := by
 rw [zero_grown, arrF_set, arrF_set, arrF_set, arrF_set]
 refine arrF_ext fun k hk => ?_
 unfold grF
 by_cases h1 : k = 207
 ·subst h1; rfl
 ·by_cases h2 : k = 206
  ·subst h2; rfl
  ·by_cases h3 : k = 205
   ·subst h3; rfl
   ·by_cases h4 : k = 204
    ·subst h4; rfl
    ·rw [if_neg h1, if_neg h2, if_neg h3, if_neg h4]
     have h5 : k < 204 := by omega
     rw [if_pos h5, if_pos h5]
structure BX (w w4 wr : World) (p : Nat) (G : Nat → Value) : Prop where
 keep : ∀ k, k < w4.heap.size → k ≠ p → wr.heap[k]? = w4.heap[k]?
 out : wr.heap[p]? = some (.cells (arrF 208 G) 110 (0, 0))
 below : Below w.heap.size w wr
 size : w4.heap.size ≤ wr.heap.size
theorem BX.next {w w4 wr w' : World} {p : Nat} {G : Nat → Value} (h : BX w w4 wr p G) (b : Below wr.heap.size wr w') : BX w w4 w' p G :=
 ⟨fun k hk hn => (b.block k (Nat.lt_of_lt_of_le hk h.size)).trans (h.keep k hk hn), (b.block _ (lt_of_block h.out)).trans h.out, h.below.trans (b.mono h.below.size), Nat.le_trans h.size b.size⟩
theorem BX.set {w w4 wr : World} {p : Nat} {G : Nat → Value} (h : BX w w4 wr p G) (hp : w.heap.size ≤ p) (i : Nat) (v : Value) : BX w w4 (wr.setCell ⟨p, i, none⟩ v) p (fun k => if k = i then v else G k) :=
 ⟨fun k hk hn => (Below.heap_setCell _ _ _ _ hn).trans (h.keep k hk hn), by rw [heap_setCell_same _ _ _ _ _ _ h.out, arrF_set], h.below.setCell hp _, by rw [World.size_setCell]; exact h.size⟩
theorem BX.ext {w w4 wr : World} {p : Nat} {G G' : Nat → Value} (h : BX w w4 wr p G) (e : ∀ k, k < 208 → G k = G' k) : BX w w4 wr p G' := ⟨h.keep, by rw [← arrF_ext e]; exact h.out, h.below, h.size⟩
theorem bx_step (X : Nat → Nat) (F f y : Nat) (W H r d : Int) (hy : y < 102) (k : Nat) (hk : k < 208) :
  (fun k => if k = y * 2 + 1 then Value.int .u64 ((lft1 (X ((F + y) * 2 + 1)) f : Nat) : Int) else (fun k => if k = y * 2 then Value.int .u64 ((lft0 (X ((F + y) * 2)) (X ((F + y) * 2 + 1)) f : Nat) : Int) else grF (bxX X F f y) W H r d k) k) k = grF (bxX X F f (y + 1)) W H r d k := by
 dsimp only
 by_cases h1 : k = y * 2 + 1
 ·subst h1
  rw [if_pos rfl]
  unfold grF uF bxX
  rw [if_pos (by omega), if_pos (by omega), if_neg (by omega), show (y * 2 + 1) / 2 = y by omega]
 ·rw [if_neg h1]
  by_cases h2 : k = y * 2
  ·subst h2
   rw [if_pos rfl]
   unfold grF uF bxX
   rw [if_pos (by omega), if_pos (by omega), if_pos (by omega), show (y * 2) / 2 = y by omega]
  ·rw [if_neg h2]
   unfold grF
   by_cases h3 : k < 204
   ·rw [if_pos h3, if_pos h3]
    unfold uF bxX
    by_cases h4 : k / 2 < y
    ·have h5 : k / 2 < y + 1 := by omega
     rw [if_pos h4, if_pos h5]
    ·have h5 : ¬ k / 2 < y + 1 := by omega
     rw [if_neg h4, if_neg h5]
   ·rw [if_neg h3, if_neg h3]
theorem wpList_build_is {P : Program} {ops : Array Oper} {rest : List Oper} {o : Oper} {a : Act} {w : World} {Q : Exit → Act → World → Prop} (hg : o.guard = none) (t : TypeId) (parts : Array (Nat × Operand)) (ho : o.op = .build t parts)
  (cells : Array Value) (hf : P.built t (parts.map fun (i, x) => (i, a.eval x)).toList = some cells) (h : wpList P ops Q rest (a.put o.dst (.agg cells)) w) : wpList P ops Q (o :: rest) a w := by
 refine wpList_build hg t parts ho (by rw [hf]; rfl) ?_
 rw [hf]
 exact h
theorem wrap_natP (n : Nat) (h : n ≤ 1000000) : IntKind.i64.wrap (n : Int) = (n : Int) := by simp [IntKind.wrap, IntKind.bits, IntKind.signed]; omega
set_option maxRecDepth 100000 in
set_option maxHeartbeats 12800000 in
theorem boxed_some (X : Nat → Nat) (F T f e : Nat) (R D : Int) (w : World) (hX : ∀ k, k < 204 → X k < 18446744073709551616) (hT : TzTab w) (h1 : endsF (orA X 0 102) (orA X 1 102) = f) (h2 : endsE (orA X 0 102) (orA X 1 102) = e) (h3 : livF X 102 = F) (h4 : livT X 102 = T) (fe : f < e) (e128 : e ≤ 128) (FT : F < T) (T102 : T ≤ 102) (R1 : -1000000000 ≤ R) (R2 : R ≤ 1000000000) (D1 : -1000000000 ≤ D) (D2 : D ≤ 1000000000) :
  Calls Tryz.prog 74 #[.agg (arrF 204 (uF X)), .int .i64 R, .int .i64 D] w fun en w' => en = .returned (.agg (arrF 208 (grF (bxX X F f (T - F)) ((e : Int) - (f : Int)) ((T : Int) - (F : Int)) (R + (f : Int)) (D + (F : Int))))) ∧ Below w.heap.size w w' := by
 obtain ⟨w1, hw1⟩ : ∃ w1, (w.alloc (.cells (arrF 204 (uF X)) 108)).alloc (.cells Tryz.zeroCells110 110) = w1 := ⟨_, rfl⟩
 have BB := hide' (show Below w.heap.size w w1 by rw [← hw1]; exact ((Below.refl _ _).alloc (Nat.le_refl _) _).alloc (by simp) _)
 have g0 : w1.heap[w.heap.size]? = some (.cells (arrF 204 (uF X)) 108 (0, 0)) := by rw [← hw1, Below.heap_alloc _ _ _ (by simp)]; exact heap_alloc_new _ _
 have g1 : w1.heap[w.heap.size + 1]? = some (.cells Tryz.zeroCells110 110 (0, 0)) := by rw [← hw1]; exact heap_atX _ _ _ (by simp)
 have LV1 := hide' (living_any X w.heap.size w1 hX g0 (hT.below BB.out))
 have G0 := hide' g0
 have G1 := hide' g1
 have HX := hide' hX
 rw [h1, h2, h3, h4] at LV1
 have q := fun w => corner_eq (f : Int) (F : Int) (e : Int) (T : Int) w
 have qb : ((f : Int) == (e : Int) && (F : Int) == (T : Int)) = false := by rw [Bool.and_eq_false_iff]; left; simp; omega
 rw [qb] at q
 obtain ⟨A, hA⟩ : ∃ A, arrF 204 (uF X) = A := ⟨_, rfl⟩
 have HA := hide' hA
 rw [hA] at hw1 ⊢
 obtain ⟨Hn, hHn⟩ : ∃ h : Nat, T - F = h := ⟨_, rfl⟩
 rw [hHn]
 have hs1 : (T : Int) - (F : Int) = (Hn : Int) := by omega
 have HL : F + Hn ≤ 102 := by omega
 rw [hs1]
 obtain ⟨Wn, hWn⟩ : ∃ h : Nat, (e : Int) - (f : Int) = (h : Int) := ⟨e - f, by omega⟩
 rw [hWn]
 have f128 : f < 128 := by omega
 clear h1 h2 h3 h4 hA g0 g1 hX hT hHn qb
 go_enter Tryz.func74, Tryz.ntmps74
 go_wp2_with fail
 refine LV1.out.mono ?_
 rintro e' w2 ⟨rfl, b2⟩
 obtain ⟨w3, hw3⟩ : ∃ w3, (w2.alloc (.cells #[.int .i64 (f : Int), .int .i64 (F : Int)] 193)).alloc (.cells #[.int .i64 (e : Int), .int .i64 (T : Int)] 193) = w3 := ⟨_, rfl⟩
 have C3 : Below w1.heap.size w1 w3 := by rw [← hw3]; exact (b2.alloc b2.size _).alloc (Nat.le_trans b2.size (by simp)) _
 have k0 : w3.heap[w2.heap.size]? = some (.cells #[.int .i64 (f : Int), .int .i64 (F : Int)] 193 (0, 0)) := by rw [← hw3, Below.heap_alloc _ _ _ (by simp)]; exact heap_alloc_new _ _
 have k1 : w3.heap[w2.heap.size + 1]? = some (.cells #[.int .i64 (e : Int), .int .i64 (T : Int)] 193 (0, 0)) := by rw [← hw3]; exact heap_atX _ _ _ (by simp)
 have m0 := cell_of_row w3 _ 0 _ _ _ k0
 have m1 := cell_of_row w3 _ 1 _ _ _ k0
 have m2 := cell_of_row w3 _ 0 _ _ _ k1
 have m3 := cell_of_row w3 _ 1 _ _ _ k1
 simp at m0 m1 m2 m3
 obtain ⟨p, hp⟩ : ∃ p, w3.heap.size = p := ⟨_, rfl⟩
 obtain ⟨w4, hw4⟩ : ∃ w4, (w3.alloc (.cells Tryz.zeroCells110 110)).setRow p (arrF 208 (grF (fun _ => 0) (Wn : Int) (Hn : Int) (R + (f : Int)) (D + (F : Int)))) = w4 := ⟨_, rfl⟩
 have hz : (w3.alloc (.cells Tryz.zeroCells110 110)).heap[p]? = some (.cells Tryz.zeroCells110 110 (0, 0)) := by rw [← hp]; exact heap_alloc_new _ _
 have s3 := C3.size
 have B4 : Below w1.heap.size w1 w4 := by rw [← hw4]; exact below_setRow (C3.alloc C3.size _) (by omega) _
 have S4 : w4.heap.size = p + 1 := by rw [← hw4, setRow_size, ← hp]; simp
 have p4 : w4.heap[p]? = some (.cells (arrF 208 (grF (fun _ => 0) (Wn : Int) (Hn : Int) (R + (f : Int)) (D + (F : Int)))) 110 (0, 0)) := by rw [← hw4]; exact setRow_heap _ _ _ _ _ _ hz
 have K4 := hide' (show w4.heap[w2.heap.size]? = some (.cells #[.int .i64 (f : Int), .int .i64 (F : Int)] 193 (0, 0)) by
  rw [← hw4, setRow_other _ _ _ _ (by have := lt_of_block k0; omega), Below.heap_alloc _ _ _ (lt_of_block k0)]; exact k0)
 have BW := hide' (BB.out.trans (B4.mono BB.out.size))
 have G04 := hide' ((B4.block _ (lt_of_block G0.out)).trans G0.out)
 have G14 := hide' ((B4.block _ (lt_of_block G1.out)).trans G1.out)
 have P4 := hide' p4
 have S4H := hide' S4
 have PL := hide' (show w.heap.size + 1 < p by have := lt_of_block G1.out; omega)
 have P2 := hide' (show w2.heap.size < p by rw [← hp]; exact lt_of_block k0)
 have X0 := hide' (show BX w w4 w4 p (grF (bxX X F f 0) (Wn : Int) (Hn : Int) (R + (f : Int)) (D + (F : Int))) from ⟨fun _ _ _ => rfl, by rw [arrF_ext (fun k _ => show grF (bxX X F f 0) (Wn : Int) (Hn : Int) (R + (f : Int)) (D + (F : Int)) k = grF (fun _ => 0) (Wn : Int) (Hn : Int) (R + (f : Int)) (D + (F : Int)) k by unfold grF uF bxX; simp)]; exact p4, BW.out, Nat.le_refl _⟩)
 have n4 := cell_of_row w4 p 205 _ _ _ p4
 rw [arrF_get _ (by omega)] at n4
 have n5 : w4.cell? ⟨p, 205, none⟩ = some (.int .i64 (Hn : Int)) := n4
 clear b2 C3 hw1 k0 k1 n4 p4 B4 S4 s3
 go_wp2_with (first
  | (refine wpList_build_is rfl 110 _ rfl ((((Tryz.zeroCells110.setIfInBounds 204 (.int .i64 (Wn : Int))).setIfInBounds 205 (.int .i64 (Hn : Int))).setIfInBounds 206 (.int .i64 (R + (f : Int)))).setIfInBounds 207 (.int .i64 (D + (F : Int)))) (by kernel_rfl) ?_; rw [grown_set])
  | (refine wpList_store_row rfl 110 _ _ rfl p (arrF 208 (grF (fun _ => 0) (Wn : Int) (Hn : Int) (R + (f : Int)) (D + (F : Int)))) rfl rfl 110 _ hz (by rw [arrF_size]; kernel_rfl) (by rw [zero_grown, arrF_size, arrF_size]) (grF_all ..) ?_; rw [hw4]))
 go_loopw [40] (fun iv wr => ∃ (y : Nat), iv = .int .i64 (y : Int) ∧ y ≤ Hn ∧ Hid (BX w w4 wr p (grF (bxX X F f y) (Wn : Int) (Hn : Int) (R + (f : Int)) (D + (F : Int))))) (fun iv _ => Hn - (intOf iv).toNat)
 case atStart => exact ⟨0, rfl, by omega, X0⟩
 case round =>
  obtain ⟨y, rfl, hy, HB⟩ := hrel
  by_cases d : (y : Int) < (Hn : Int)
  ·obtain ⟨s, hs⟩ : ∃ s : Nat, F + y = s := ⟨_, rfl⟩
   have es : (F : Int) + (y : Int) = (s : Int) := by omega
   have sl : s < 102 := by omega
   have sli : (s : Int) < 102 := by omega
   have ew1 := wrap_natP s (by omega)
   have yli : (y : Int) < 102 := by omega
   obtain ⟨x0, hx0⟩ : ∃ x, X (s * 2) = x := ⟨_, rfl⟩
   obtain ⟨x1, hx1⟩ : ∃ x, X (s * 2 + 1) = x := ⟨_, rfl⟩
   have x0l : x0 < 18446744073709551616 := by rw [← hx0]; exact HX.out _ (by omega)
   have x1l : x1 < 18446744073709551616 := by rw [← hx1]; exact HX.out _ (by omega)
   have LC := hide' (fun w => left_any x0 x1 f w x0l x1l f128)
   obtain ⟨l0, hl0⟩ : ∃ x, lft0 x0 x1 f = x := ⟨_, rfl⟩
   obtain ⟨l1, hl1⟩ : ∃ x, lft1 x1 f = x := ⟨_, rfl⟩
   rw [hl0, hl1] at LC
   have uw : IntKind.u64.wrap (f : Int) = (f : Int) := by rw [IntKind.wrap_u64]; omega
   have SV := hide' (fun (V : World) (G : Nat → Value) (hV : BX w w4 V p G) => (show V.cell? ⟨w2.heap.size, 0, none⟩ = some (.int .i64 (f : Int)) ∧ V.cell? ⟨w2.heap.size, 1, none⟩ = some (.int .i64 (F : Int)) ∧ V.cell? ⟨w.heap.size, s * 2, none⟩ = some (.int .u64 (x0 : Int)) ∧ V.cell? ⟨w.heap.size, s * 2 + 1, none⟩ = some (.int .u64 (x1 : Int)) from by
    have e1 := (hV.keep _ (lt_of_block K4.out) (by have := P2.out; omega)).trans K4.out
    have e2 := (hV.keep _ (lt_of_block G04.out) (by have := PL.out; omega)).trans G04.out
    exact ⟨cell_of_row V _ 0 _ _ _ e1, cell_of_row V _ 1 _ _ _ e1, by rw [cell_of_row V _ _ _ _ _ e2, arrF_get _ (by omega), uF, hx0], by rw [cell_of_row V _ _ _ _ _ e2, arrF_get _ (by omega), uF, hx1]⟩))
   have NX := hide' (fun (V : World) (hV : BX w w4 V p (grF (bxX X F f y) (Wn : Int) (Hn : Int) (R + (f : Int)) (D + (F : Int)))) => show BX w w4 ((V.setCell ⟨p, y * 2, none⟩ (.int .u64 (l0 : Int))).setCell ⟨p, y * 2 + 1, none⟩ (.int .u64 (l1 : Int))) p (grF (bxX X F f (y + 1)) (Wn : Int) (Hn : Int) (R + (f : Int)) (D + (F : Int))) from
    BX.ext ((hV.set (by have := PL.out; omega) (y * 2) _).set (by have := PL.out; omega) (y * 2 + 1) _) (fun k hk => by
     rw [← bx_step X F f y _ _ _ _ (by omega) k hk, hs, hx0, hx1, hl0, hl1]))
   have CP := hide' (fun (V : World) (G : Nat → Value) (hV : BX w w4 V p G) => (show V.cell? ⟨p, y * 2, none⟩ = some (G (y * 2)) ∧ V.cell? ⟨p, y * 2 + 1, none⟩ = some (G (y * 2 + 1)) ∧ V.frozen? ⟨p, y * 2, none⟩ = false ∧ V.frozen? ⟨p, y * 2 + 1, none⟩ = false from
    ⟨by rw [cell_of_row V _ _ _ _ _ hV.out, arrF_get _ (by omega)], by rw [cell_of_row V _ _ _ _ _ hV.out, arrF_get _ (by omega)], frozen_of_row V _ _ _ _ hV.out, frozen_of_row V _ _ _ _ hV.out⟩))
   clear hs hx0 hx1 hl0 hl1 x0l x1l
   go_wp2
   go_region_held3 (fun V => V.cell? ⟨w2.heap.size, 0, none⟩ = some (.int .i64 (f : Int)) ∧ V.cell? ⟨w2.heap.size, 1, none⟩ = some (.int .i64 (F : Int)) ∧ V.cell? ⟨w.heap.size, s * 2, none⟩ = some (.int .u64 (x0 : Int)) ∧ V.cell? ⟨w.heap.size, s * 2 + 1, none⟩ = some (.int .u64 (x1 : Int))) (first | exact SV.out _ _ H2.out | exact SV.out _ _ H1.out | exact SV.out _ _ ⟨HB.out.keep, HB.out.out, ⟨HB.out.below.os, HB.out.below.tape, HB.out.below.output, HB.out.below.size, HB.out.below.block⟩, HB.out.size⟩ | fail)
    (first
     | (go_at_call 102; refine (LC.out _).mono ?_; rintro e w' ⟨rfl, hb1⟩; have H1 := hide' (BX.next HB.out (show Below wr.heap.size wr w' from ⟨hb1.os, hb1.tape, hb1.output, hb1.size, hb1.block⟩)); obtain ⟨cz0, cz1, fz0, fz1⟩ := CP.out w' _ H1.out; have H2 := hide' (NX.out w' H1.out); clear hb1)
     | fail)
   go_wp2
   exact ⟨⟨y + 1, by go_num, by omega, H2⟩, by simp [intOf]; omega⟩
  ·have yH : y = Hn := by omega
   have HF : BX w w4 wr p (grF (bxX X F f Hn) (Wn : Int) (Hn : Int) (R + (f : Int)) (D + (F : Int))) := by have := HB.out; rw [yH] at this; exact this
   have gp := HF.out
   have gb := (HF.keep _ (lt_of_block G14.out) (by have := PL.out; omega)).trans G14.out
   obtain ⟨Z, hZ⟩ : ∃ Z, arrF 208 (grF (bxX X F f Hn) (Wn : Int) (Hn : Int) (R + (f : Int)) (D + (F : Int))) = Z := ⟨_, rfl⟩
   have zs : Z.size = 208 := by rw [← hZ, arrF_size]
   have za : Z.all (·.oneCell') = true := by rw [← hZ]; exact grF_all ..
   have HZ := hide' hZ
   rw [hZ] at gp
   have BF := hide' HF.below
   clear yH HF hZ
   go_wp2_with (first
    | (refine wpList_load_row rfl 110 _ rfl p rfl 110 Z (0, 0) _ gp Tryz.underlying110 rfl (by rw [zs]; kernel_rfl) ?_)
    | (refine wpList_store_row rfl 110 _ _ rfl (w.heap.size + 1) Z rfl rfl 110 _ gb (by rw [zs]; kernel_rfl) (by rw [zs, zero_grown, arrF_size]) za ?_))
   refine bodyPost_ret (v := .agg Z) (results_cell_row Tryz.results74 _ _ (w.heap.size + 1) 110 _ (0, 0) _ rfl (setRow_heap _ _ _ _ _ _ gb) Tryz.underlying110 rfl (by rw [zs]; kernel_rfl)) rfl ?_
   exact ⟨by rw [HZ.out], below_setRow BF.out (by omega) _⟩
def mirP (W H : Nat) (xs : List Int) : List Int := (List.range (W * H)).map fun q => xs.getD (q / W * W + (W - 1 - q % W)) 0
def qtrP (W H : Nat) (xs : List Int) : List Int := (List.range (H * W)).map fun q => xs.getD ((H - 1 - q % H) * W + q / H) 0
theorem split_lt {W H i : Nat} (hi : i < W * H) : ∃ x y, x < W ∧ y < H ∧ i % W = x ∧ i / W = y ∧ y * W + x = i := by
 have hW : 0 < W := by
  rcases Nat.eq_zero_or_pos W with h | h
  ·rw [h, Nat.zero_mul] at hi; omega
  ·exact h
 refine ⟨i % W, i / W, Nat.mod_lt _ hW, ?_, rfl, rfl, ?_⟩
 ·rw [Nat.div_lt_iff_lt_mul hW, Nat.mul_comm]; exact hi
 ·rw [Nat.mul_comm]; exact Nat.div_add_mod i W
theorem mk_lt {W H x y : Nat} (hx : x < W) (hy : y < H) : y * W + x < W * H := by
 have := Nat.mul_le_mul_right W (show y + 1 ≤ H by omega)
 rw [Nat.add_mul, Nat.mul_comm H W] at this
 omega
structure ScJ (w0 w : World) (g n k : Nat) (f : Nat → Nat) (xs : List Int) : Prop where
 below : Below w0.heap.size w0 w
 ge : w0.heap.size ≤ g
 lt : g < w.heap.size
 cells : ∀ j, j < n → ∃ v, w.cell? ⟨g, j, none⟩ = some v ∧ (∀ i, i < k → f i = j → v = .int .i64 (xs.getD i 0))
 fz : ∀ j, w.frozen? ⟨g, j, none⟩ = false
theorem ScJ.step {w0 w : World} {g n k : Nat} {f : Nat → Nat} {xs : List Int} (h : ScJ w0 w g n k f xs) (hk : f k < n) (hinj : ∀ i, i < k → f i ≠ f k) {x : Int} (hx : xs.getD k 0 = x) : ScJ w0 (w.setCell ⟨g, f k, none⟩ (.int .i64 x)) g n (k + 1) f xs := by
 refine ⟨h.below.setCell h.ge _, h.ge, by rw [World.size_setCell]; exact h.lt, fun j hj => ?_, fun j => by rw [World.frozen?_setCell]; exact h.fz j⟩
 by_cases e : j = f k
 ·subst e
  obtain ⟨v, hv, -⟩ := h.cells _ hj
  refine ⟨_, World.cell?_setCell_same _ _ _ hv, fun i hi he => ?_⟩
  by_cases q : i = k
  ·subst q; rw [hx]
  ·exact absurd he (hinj i (by omega))
 ·obtain ⟨v, hv, hv'⟩ := h.cells j hj
  refine ⟨v, ?_, fun i hi he => hv' i (by have : i ≠ k := fun q => e (by rw [← he, q]); omega) he⟩
  exact (World.cell?_setCell_other _ ⟨g, f k, none⟩ ⟨g, j, none⟩ _ (fun q => e (congrArg Addr.off q).symm)).trans hv
theorem ScJ.drewN {w0 w : World} {g n k : Nat} {f : Nat → Nat} {xs : List Int} (h : ScJ w0 w g n k f xs) (m : Nat) : ScJ w0 (w.drewN m) g n k f xs :=
 ⟨h.below.trans ⟨rfl, rfl, rfl, Nat.le_refl _, fun _ _ => rfl⟩, h.ge, h.lt, h.cells, h.fz⟩
theorem ScJ.start {w0 w : World} {g n : Nat} (f : Nat → Nat) (xs ys : List Int) (hb : Below w0.heap.size w0 w) (hg : w0.heap.size ≤ g) (hc : Cel w g ys) (hn : ys.length = n) : ScJ w0 w g n 0 f xs :=
 ⟨hb, hg, hc.lt, fun j hj => ⟨_, hc.cells j (by omega), fun i hi => by omega⟩, hc.fz⟩
theorem ScJ.cel {w0 w : World} {g n : Nat} {f fi : Nat → Nat} {xs : List Int} (h : ScJ w0 w g n n f xs) (h1 : ∀ j, j < n → fi j < n) (h2 : ∀ j, j < n → f (fi j) = j) : Cel w g ((List.range n).map fun j => xs.getD (fi j) 0) := by
 refine ⟨h.lt, fun k hk => ?_, h.fz⟩
 simp only [List.length_map, List.length_range] at hk
 obtain ⟨v, hv, hv'⟩ := h.cells k hk
 rw [hv, hv' (fi k) (h1 k hk) (h2 k hk)]
 simp [List.getD, hk]
def wd (q : Nat) : ByteArray := if q = 0 then ⟨#[120, 32, 61, 32]⟩ else if q = 1 then ⟨#[44, 32, 121, 32, 61, 32]⟩ else ⟨#[10]⟩
structure SdW (w wr : World) (a b : Nat) : Prop where
 below : Below w.heap.size w wr
 size : w.heap.size + 2 ≤ wr.heap.size
 words : ∀ q, q < 3 → wr.cell? ⟨w.heap.size, q, none⟩ = some (.string (wd q))
 n0 : wr.cell? ⟨w.heap.size + 1, 0, none⟩ = some (.int .i64 (a : Int))
 n1 : wr.cell? ⟨w.heap.size + 1, 1, none⟩ = some (.int .i64 (b : Int))
 fz : ∀ k, wr.frozen? ⟨w.heap.size + 1, k, none⟩ = false
theorem SdW.drewN {w wr : World} {a b : Nat} (h : SdW w wr a b) (n : Nat) : SdW w (wr.drewN n) a b :=
 ⟨h.below.trans ⟨rfl, rfl, rfl, Nat.le_refl _, fun _ _ => rfl⟩, h.size, h.words, h.n0, h.n1, h.fz⟩
theorem SdW.set0 {w wr : World} {a b : Nat} (h : SdW w wr a b) (x : Nat) : SdW w (wr.setCell ⟨w.heap.size + 1, 0, none⟩ (.int .i64 (x : Int))) x b := by
 refine ⟨h.below.setCell (by simp) _, by rw [World.size_setCell]; exact h.size, fun q hq => ?_, ?_, ?_, fun k => by rw [World.frozen?_setCell]; exact h.fz k⟩
 ·exact (World.cell?_setCell_other _ ⟨w.heap.size + 1, 0, none⟩ ⟨w.heap.size, q, none⟩ _ (fun e => by have := congrArg Addr.block e; simp at this)).trans (h.words q hq)
 ·exact World.cell?_setCell_same _ _ _ h.n0
 ·exact (World.cell?_setCell_other _ ⟨w.heap.size + 1, 0, none⟩ ⟨w.heap.size + 1, 1, none⟩ _ (fun e => by have := congrArg Addr.off e; simp at this)).trans h.n1
theorem SdW.set1 {w wr : World} {a b : Nat} (h : SdW w wr a b) (x : Nat) : SdW w (wr.setCell ⟨w.heap.size + 1, 1, none⟩ (.int .i64 (x : Int))) a x := by
 refine ⟨h.below.setCell (by simp) _, by rw [World.size_setCell]; exact h.size, fun q hq => ?_, ?_, ?_, fun k => by rw [World.frozen?_setCell]; exact h.fz k⟩
 ·exact (World.cell?_setCell_other _ ⟨w.heap.size + 1, 1, none⟩ ⟨w.heap.size, q, none⟩ _ (fun e => by have := congrArg Addr.block e; simp at this)).trans (h.words q hq)
 ·exact (World.cell?_setCell_other _ ⟨w.heap.size + 1, 1, none⟩ ⟨w.heap.size + 1, 0, none⟩ _ (fun e => by have := congrArg Addr.off e; simp at this)).trans h.n0
 ·exact World.cell?_setCell_same _ _ _ h.n1
theorem SdW.start (w : World) (t1 t2 : TypeId) : SdW w ((w.alloc (.cells #[.string ⟨#[120, 32, 61, 32]⟩, .string ⟨#[44, 32, 121, 32, 61, 32]⟩, .string ⟨#[10]⟩] t1)).alloc (.cells #[.int .i64 0, .int .i64 0, .int .i64 0] t2)) 0 0 := by
 refine ⟨((Below.refl _ _).alloc (Nat.le_refl _) _).alloc (by simp) _, by simp, fun q hq => ?_, ?_, ?_, fun k => ?_⟩
 ·rw [World.cell?_alloc_past _ _ _ (by simp), World.cell?_alloc_at _ _ _ _ rfl]
  match q, hq with
  | 0, _ => rfl
  | 1, _ => rfl
  | 2, _ => rfl
 ·rw [World.cell?_alloc_at _ _ _ _ (by simp)]; rfl
 ·rw [World.cell?_alloc_at _ _ _ _ (by simp)]; rfl
 ·simp


open Go

structure ResB (R : Nat) (w : World) : Prop where
 c0 : w.cell? ⟨R, 0, none⟩ = some (.int .i64 0)
 c1 : w.cell? ⟨R, 1, none⟩ = some (.int .i64 0)
 c2 : w.cell? ⟨R, 2, none⟩ = some (.slice none 0 0)
 f0 : w.frozen? ⟨R, 0, none⟩ = false
 f1 : w.frozen? ⟨R, 1, none⟩ = false
 f2 : w.frozen? ⟨R, 2, none⟩ = false
theorem ResB.block {R : Nat} {w w' : World} (h : ResB R w) (e : w'.heap[R]? = w.heap[R]?) : ResB R w' :=
 ⟨(World.cell?_of_block (w := w) (a := ⟨R, 0, none⟩) e).trans h.c0, (World.cell?_of_block (w := w) (a := ⟨R, 1, none⟩) e).trans h.c1, (World.cell?_of_block (w := w) (a := ⟨R, 2, none⟩) e).trans h.c2,
  (World.frozen?_of_block (w := w) (a := ⟨R, 0, none⟩) e).trans h.f0, (World.frozen?_of_block (w := w) (a := ⟨R, 1, none⟩) e).trans h.f1, (World.frozen?_of_block (w := w) (a := ⟨R, 2, none⟩) e).trans h.f2⟩
def resW (w : World) : World := w.alloc (.cells #[.int .i64 0, .int .i64 0, .slice none 0 0] 26)
theorem resW_size (w : World) : (resW w).heap.size = w.heap.size + 1 := by simp [resW]
theorem ResB.below {w w' : World} {R : Nat} (h : ResB R w) (hR : R < w.heap.size) (hb : Below (R + 1) w w') : ResB R w' := h.block (hb.block R (by omega))
structure JCells (s : ByteArray) (w0 w' : World) (v : Rv) (W H g : Nat) (xs : List Int) : Prop where
 rat : RAt (w0.heap.size + 1) s v w'
 wd : v.wd = (W : Int)
 hi : v.hi = (H : Int)
 cs : v.cs = .slice (some ⟨g, 0, none⟩) (W * H) (W * H)
 cel : Cel w' g xs
 len : xs.length = W * H
 gb : w0.heap.size + 1 < g
 lw : W ≤ 100
 lh : H ≤ 100
 li : v.i ≤ s.size
 below : Below (w0.heap.size + 1) (resW w0) w'
theorem JCells.rd {s : ByteArray} {w0 w' w'' : World} {v v' : Rv} {W H g : Nat} {xs : List Int} (h : JCells s w0 w' v W H g xs) (ha : RAt (w0.heap.size + 1) s v' w'') (hr : Rd (w0.heap.size + 1) w' w'') (h1 : v'.wd = v.wd) (h2 : v'.hi = v.hi) (h3 : v'.cs = v.cs) (h4 : v'.i ≤ s.size) : JCells s w0 w'' v' W H g xs :=
 ⟨ha, h1.trans h.wd, h2.trans h.hi, h3.trans h.cs, h.cel.rd hr (by have := h.gb; omega), h.len, h.gb, h.lw, h.lh, h4, h.below.trans (hr.below (Nat.le_refl _) (by have := h.below.size; rw [resW_size] at this; omega))⟩
theorem JCells.cells {s : ByteArray} {w0 w' w'' : World} {v v' : Rv} {W H g : Nat} {xs xs' : List Int} (h : JCells s w0 w' v W H g xs) (ha : RAt (w0.heap.size + 1) s v' w'') (hb : Below (w0.heap.size + 1) w' w'') (hC : Cel w'' g xs') (hl : xs'.length = xs.length) (h1 : v'.wd = v.wd) (h2 : v'.hi = v.hi) (h3 : v'.cs = v.cs) (h4 : v'.i ≤ s.size) : JCells s w0 w'' v' W H g xs' :=
 ⟨ha, h1.trans h.wd, h2.trans h.hi, h3.trans h.cs, hC, hl.trans h.len, h.gb, h.lw, h.lh, h4, h.below.trans hb⟩
end Go.Proofs.YtemhcpldflcfbaaGreatDoor
