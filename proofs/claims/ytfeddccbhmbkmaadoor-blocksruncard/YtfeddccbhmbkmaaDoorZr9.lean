/-
  What the last text of this claim leans on, part 9: Bk7.
-/
import Derived.Test.YtfeddccbhmbkmaaDoorZr7
import Derived.Test.YtfeddccbhmbkmaaDoorZr8
import Derived.Deep.AppendLies
import Derived.Deep.RegionLaw
import Derived.Deep.CutRange
namespace Go.Proofs.YtfeddccbhmbkmaaDoor
open Go.RowKit
set_option linter.unusedVariables false
theorem info_intB : (Tryd.prog.info? 3).map (fun i => (i.zero, i.size, i.bytes)) = some (some (.int .i64 0), 1, 8) := by kernel_rfl
theorem news_intB {w : World} {xs : List Int} {ad : Addr} {n c : Nat} (hA : ArgP w xs (some ad) n c) : ∀ j u, (xs.map fun y => Value.int .i64 y)[j]? = some u → w.cell? (ad.add j) = some u := fun j u hu => by
  rw [List.getElem?_map] at hu
  rcases Nat.lt_or_ge j xs.length with h | h
  · obtain ⟨g, off, e, hg, hc⟩ := hA.cells j h
    cases e
    rw [List.getElem?_eq_getElem h] at hu
    simp at hu
    rw [show (⟨g, off, none⟩ : Addr).add j = ⟨g, off + j, none⟩ from Addr.add_mid g off j, hc, ← hu]
  · rw [List.getElem?_eq_none h] at hu; cases hu
theorem three_rowB {w : World} {g : Nat} {x0 x1 x2 : Value} {t : TypeId} (h : w.heap[g]? = some (.cells #[x0, x1, x2] t (0, 0))) (a b c : Value) :
    (((w.setCell ⟨g, 0, none⟩ a).setCell ⟨g, 1, none⟩ b).setCell ⟨g, 2, none⟩ c).heap[g]? = some (.cells #[a, b, c] t (0, 0)) := by
  have h0 : (w.setCell ⟨g, 0, none⟩ a).heap[g]? = some (.cells #[a, x1, x2] t (0, 0)) := by rw [heap_setCell_same _ _ _ _ _ _ h]; rfl
  have h1 : ((w.setCell ⟨g, 0, none⟩ a).setCell ⟨g, 1, none⟩ b).heap[g]? = some (.cells #[a, b, x2] t (0, 0)) := by rw [heap_setCell_same _ _ _ _ _ _ h0]; rfl
  rw [heap_setCell_same _ _ _ _ _ _ h1]; rfl
theorem three_oth {w : World} {g k : Nat} (hk : k ≠ g) (x0 x1 x2 : Value) : (((w.setCell ⟨g, 0, none⟩ x0).setCell ⟨g, 1, none⟩ x1).setCell ⟨g, 2, none⟩ x2).heap[k]? = w.heap[k]? := by
  rw [Below.heap_setCell _ _ _ _ (by simpa using hk), Below.heap_setCell _ _ _ _ (by simpa using hk), Below.heap_setCell _ _ _ _ (by simpa using hk)]
theorem two_oth {w : World} {g k : Nat} (hk : k ≠ g) (x0 x1 : Value) : ((w.setCell ⟨g, 0, none⟩ x0).setCell ⟨g, 1, none⟩ x1).heap[k]? = w.heap[k]? := by
  rw [Below.heap_setCell _ _ _ _ (by simpa using hk), Below.heap_setCell _ _ _ _ (by simpa using hk)]
/-- So many steps, the phases one behind another. -/
def runB (tv : Nat → Nat) (W H ph : Nat) (f : Nat → Nat) : Nat → Nat → Nat
  | 0 => f
  | i + 1 => if i % 2 = 0 then newB tv W H ph (runB tv W H ph f i) else newB tv W H (1 - ph) (runB tv W H ph f i)
theorem runB_le {tv : Nat → Nat} {W H ph : Nat} {f : Nat → Nat} (hf : ∀ i, f i ≤ 1) : ∀ i j, runB tv W H ph f i j ≤ 1
  | 0, j => hf j
  | i + 1, j => by
    rw [runB]
    split
    · exact dg_le _ _
    · exact dg_le _ _
def RunPost (W H n : Nat) (g : Nat → Nat) (w : World) (e : Ending) (w' : World) : Prop := ∃ gC cap, e = .returned (.tuple #[.agg #[.int .i64 (W : Int), .int .i64 (H : Int), .slice (some ⟨gC, 0, none⟩) n cap], .nilIface]) ∧ CA w' gC n g ∧ w.heap.size ≤ gC ∧ Below w.heap.size w w'
def RunBad (f : Nat) (w : World) (e : Ending) (w' : World) : Prop := e = .returned (.tuple #[.agg #[.int .i64 0, .int .i64 0, .slice none 0 0], errOf f]) ∧ Below w.heap.size w w'
set_option maxRecDepth 100000 in
set_option maxHeartbeats 6400000 in
theorem run_bad (t : List Int) (b : Option Addr) (m d : Nat) (W H : Int) (xs : List Int) (a : Option Addr) (n c : Nat) (ph k : Int) (w : World) (hT : ArgP w t b m d) (hP : ArgP w xs a n c) (f0 : runE t W H xs ph k ≠ 0) :
    Calls Tryd.prog 24 #[.slice b m d, .agg #[.int .i64 W, .int .i64 H, .slice a n c], .int .i64 ph, .int .i64 k] w (RunBad (runE t W H xs ph k) w) := by
  obtain ⟨w1, hw1⟩ : ∃ w1, (w.alloc (.cells #[.int .i64 W, .int .i64 H, .slice a n c] 26)).alloc (.cells #[.int .i64 0, .int .i64 0, .slice none 0 0] 26) = w1 := ⟨_, rfl⟩
  have BB := hide' (show Below w.heap.size w w1 by rw [← hw1]; exact ((Below.refl _ _).alloc (Nat.le_refl _) _).alloc (by simp) _)
  have g0 : w1.heap[w.heap.size]? = some (.cells #[.int .i64 W, .int .i64 H, .slice a n c] 26 (0, 0)) := by rw [← hw1, Below.heap_alloc _ _ _ (by simp)]; exact heap_alloc_new _ _
  have G1 := hide' (show w1.heap[w.heap.size + 1]? = some (.cells #[.int .i64 0, .int .i64 0, .slice none 0 0] 26 (0, 0)) by rw [← hw1]; exact heap_atX _ _ _ (by simp))
  have x0 := cell_of_row w1 _ 0 _ _ _ g0
  have x1 := cell_of_row w1 _ 1 _ _ _ g0
  have x2 := cell_of_row w1 _ 2 _ _ _ g0
  simp at x0 x1 x2
  have CC := hide' (checkRun_any t b m d W H xs a n c ph k w1 (hT.below BB.out) (hP.below BB.out))
  obtain ⟨f, hf⟩ : ∃ f, runE t W H xs ph k = f := ⟨_, rfl⟩
  rw [hf] at CC f0 ⊢
  have EF := hide' (errOf_posB f0)
  rw [EF.out] at CC
  clear hT hP g0 hf f0
  go_enter Tryd.func24, Tryd.ntmps24
  go_wp2_with fail
  refine CC.out.mono ?_
  rintro e w2 ⟨rfl, b2⟩
  have e2 := (b2.block _ (lt_of_block G1.out)).trans G1.out
  have r0 := cell_of_row w2 _ 0 _ _ _ e2
  have r1 := cell_of_row w2 _ 1 _ _ _ e2
  have r2 := cell_of_row w2 _ 2 _ _ _ e2
  simp at r0 r1 r2
  have f0 := frozen_of_row w2 _ 0 _ _ e2
  have f1 := frozen_of_row w2 _ 1 _ _ e2
  have f2 := frozen_of_row w2 _ 2 _ _ e2
  have BQ := hide' (BB.out.trans (b2.mono BB.out.size))
  clear b2 e2 hw1 x0 x1 x2
  go_wp2
  refine bodyPost_ret (v := .tuple #[.agg #[.int .i64 0, .int .i64 0, .slice none 0 0], .iface 83 (.int .i64 (f : Int))]) (by simp [results, Tryd.results24, go_sem, r0, r1, r2]) rfl ?_
  exact ⟨by rw [EF.out], ((BQ.out.setCell (by simp) _).setCell (by simp) _).setCell (by simp) _⟩
/-- What lies there behind the copy of the cells. -/
structure R4 (w w2 V : World) (W H n pO gC cap : Nat) (f : Nat → Nat) : Prop where
  keep : ∀ k, k < w2.heap.size → V.heap[k]? = w2.heap[k]?
  pat : V.heap[pO]? = some (.cells #[.int .i64 (W : Int), .int .i64 (H : Int), .slice (some ⟨gC, 0, none⟩) n cap] 26 (0, 0))
  ca : CA V gC n f
  po : w2.heap.size ≤ pO
  gc : w2.heap.size ≤ gC
  ne : pO ≠ gC
  below : Below w.heap.size w V
theorem own_CA {w : World} {B g n cap : Nat} {xs : List Int} {f : Nat → Nat} (h : w.ownsRow B 3 1 (.slice (some ⟨g, 0, none⟩) (0 + n) cap) (0 + n) ([] ++ xs.map fun y => Value.int .i64 y)) (hx : xs = (List.range n).map fun i => (f i : Int)) : CA w g n f ∧ B ≤ g := by
  rcases h.2 with ⟨h0, _⟩ | ⟨g', cap', cur, hv, hbg, hg, hnc, hcm, hcs, htake⟩
  · cases h0
  · cases hv
    refine ⟨⟨cur, hg, by omega, fun k hk => ?_⟩, hbg⟩
    have e : cur.toList[k]? = (cur.toList.take ((0 + n) * 1))[k]? := by rw [List.getElem?_take_of_lt (by omega)]
    rw [htake, hx] at e
    simp [hk] at e
    simpa using e
theorem below_grownB {B : Nat} {w V U : World} {row : Option Nat} (h : Below B w V) (hg : V.drew.grownBy U row) (hr : row = none) (hB : B ≤ V.heap.size) : Below B w U := by
  subst hr
  exact ⟨hg.os.trans h.os, hg.tape.trans h.tape, hg.output.trans h.output, Nat.le_trans h.size hg.size, fun k hk => (hg.block k (Nat.lt_of_lt_of_le hk hB) (by simp)).trans (h.block k hk)⟩
structure Kp (w W V : World) : Prop where
  keep : ∀ k, k < W.heap.size → V.heap[k]? = W.heap[k]?
  size : W.heap.size ≤ V.heap.size
  below : Below w.heap.size w V
theorem Kp.drew {w W V : World} (h : Kp w W V) : Kp w W V.drew := ⟨h.keep, h.size, ⟨h.below.os, h.below.tape, h.below.output, h.below.size, h.below.block⟩⟩
theorem Kp.alloc {w W V : World} (h : Kp w W V) (o : Obj) : Kp w W (V.alloc o) := ⟨fun k hk => (Below.heap_alloc _ _ _ (Nat.lt_of_lt_of_le hk h.size)).trans (h.keep k hk), by simp; have := h.size; omega, h.below.alloc h.below.size _⟩
theorem Kp.call {w W S U : World} (h : Kp w W S) (b : Below S.heap.size S U) {g : Nat} (hg : S.heap.size ≤ g) : Kp w W U ∧ W.heap.size ≤ g := ⟨⟨fun k hk => (b.block k (Nat.lt_of_lt_of_le hk h.size)).trans (h.keep k hk), Nat.le_trans h.size b.size, h.below.trans (b.mono h.below.size)⟩, Nat.le_trans h.size hg⟩
/-- What lies there behind the two lists of places. -/
structure R6 (w W5 V : World) (W H ph qh N pS g0 g1 : Nat) : Prop where
  kp : Kp w W5 V
  pat : V.heap[pS]? = some (.cells #[.slice (some ⟨g0, 0, none⟩) N N, .slice (some ⟨g1, 0, none⟩) N N] 129 (0, 0))
  s0 : V.heap[g0]? = some (.cells (arrF (N * 4) (stG W H ph)) 189 (0, 0))
  s1 : V.heap[g1]? = some (.cells (arrF (N * 4) (stG W H qh)) 189 (0, 0))
  lp : W5.heap.size ≤ pS
  l0 : W5.heap.size ≤ g0
  l1 : W5.heap.size ≤ g1
theorem R6.of_alloc {w W5 U : World} {W H ph qh N g0 g1 : Nat} (k : Kp w W5 U) (s0 : U.heap[g0]? = some (.cells (arrF (N * 4) (stG W H ph)) 189 (0, 0))) (s1 : U.heap[g1]? = some (.cells (arrF (N * 4) (stG W H qh)) 189 (0, 0))) (l0 : W5.heap.size ≤ g0) (l1 : W5.heap.size ≤ g1) : R6 w W5 (U.alloc (.cells #[.slice (some ⟨g0, 0, none⟩) N N, .slice (some ⟨g1, 0, none⟩) N N] 129)) W H ph qh N U.heap.size g0 g1 :=
  ⟨k.alloc _, heap_alloc_new _ _, (Below.heap_alloc _ _ _ (lt_of_block s0)).trans s0, (Below.heap_alloc _ _ _ (lt_of_block s1)).trans s1, k.size, l0, l1⟩
theorem R6.of_set {w W5 U : World} {W H ph qh N g0 g1 P : Nat} {a b : Value} (k : Kp w W5 U) (s0 : U.heap[g0]? = some (.cells (arrF (N * 4) (stG W H ph)) 189 (0, 0))) (s1 : U.heap[g1]? = some (.cells (arrF (N * 4) (stG W H qh)) 189 (0, 0))) (l0 : W5.heap.size ≤ g0) (l1 : W5.heap.size ≤ g1) (z : U.heap[P]? = some (.cells #[a, b] 129 (0, 0))) (lp : W5.heap.size ≤ P) (hw : w.heap.size ≤ W5.heap.size) : R6 w W5 ((U.setCell ⟨P, 0, none⟩ (.slice (some ⟨g0, 0, none⟩) N N)).setCell ⟨P, 1, none⟩ (.slice (some ⟨g1, 0, none⟩) N N)) W H ph qh N P g0 g1 := by
  have n0 : g0 ≠ P := fun h => by rw [h, z] at s0; injection s0 with s0; injection s0 with _ e; revert e; decide
  have n1 : g1 ≠ P := fun h => by rw [h, z] at s1; injection s1 with s1; injection s1 with _ e; revert e; decide
  have oth : ∀ j, j ≠ P → ((U.setCell ⟨P, 0, none⟩ (.slice (some ⟨g0, 0, none⟩) N N)).setCell ⟨P, 1, none⟩ (.slice (some ⟨g1, 0, none⟩) N N)).heap[j]? = U.heap[j]? := fun j hj => by
    rw [Below.heap_setCell _ _ _ _ (by simpa using hj), Below.heap_setCell _ _ _ _ (by simpa using hj)]
  have h0 : (U.setCell ⟨P, 0, none⟩ (.slice (some ⟨g0, 0, none⟩) N N)).heap[P]? = some (.cells #[.slice (some ⟨g0, 0, none⟩) N N, b] 129 (0, 0)) := by rw [heap_setCell_same _ _ _ _ _ _ z]; rfl
  refine ⟨⟨fun j hj => (oth j (by omega)).trans (k.keep j hj), by rw [World.size_setCell, World.size_setCell]; exact k.size, (k.below.setCell (by simp; omega) _).setCell (by simp; omega) _⟩, by rw [heap_setCell_same _ _ _ _ _ _ h0]; rfl, (oth _ n0).trans s0, (oth _ n1).trans s1, lp, l0, l1⟩
theorem cut4P {A B C D : Type} {P Φ : A → B → C → D → Prop} {G : Prop} (h : (∀ a b c d, P a b c d → Φ a b c d) → G) (k : ∀ a b c d, P a b c d → Φ a b c d) : G := h k
set_option maxRecDepth 100000 in
set_option maxHeartbeats 12800000 in
theorem run_some (t : List Int) (b : Option Addr) (d : Nat) (W H V U : Nat) (xs : List Int) (ad : Addr) (c : Nat) (ph k : Nat) (tv f : Nat → Nat) (w : World) (hT : ArgP w t b 16 d) (hP : ArgP w xs (some ad) (W * H) c) (hE : runE t (W : Int) (H : Int) xs (ph : Int) (k : Int) = 0) (e : Evn W H V U) (hp : ph ≤ 1) (hW : W ≤ 100) (hH : H ≤ 100) (hk : k ≤ 100000) (hTB : TbB w b tv) (hf : ∀ i, f i ≤ 1) (hxf : xs = (List.range (W * H)).map fun i => (f i : Int)) (n0 : 0 < W * H) :
    Calls Tryd.prog 24 #[.slice b 16 d, .agg #[.int .i64 (W : Int), .int .i64 (H : Int), .slice (some ad) (W * H) c], .int .i64 (ph : Int), .int .i64 (k : Int)] w (RunPost W H (W * H) (runB tv W H ph f k) w) := by
  obtain ⟨n, hn⟩ : ∃ n, W * H = n := ⟨_, rfl⟩
  rw [hn] at hP n0 hxf ⊢
  have n10 : n ≤ 10000 := by rw [← hn]; exact Nat.mul_le_mul hW hH
  obtain ⟨w1, hw1⟩ : ∃ w1, (w.alloc (.cells #[.int .i64 (W : Int), .int .i64 (H : Int), .slice (some ad) n c] 26)).alloc (.cells #[.int .i64 0, .int .i64 0, .slice none 0 0] 26) = w1 := ⟨_, rfl⟩
  have BB := hide' (show Below w.heap.size w w1 by rw [← hw1]; exact ((Below.refl _ _).alloc (Nat.le_refl _) _).alloc (by simp) _)
  have g0 : w1.heap[w.heap.size]? = some (.cells #[.int .i64 (W : Int), .int .i64 (H : Int), .slice (some ad) n c] 26 (0, 0)) := by rw [← hw1, Below.heap_alloc _ _ _ (by simp)]; exact heap_alloc_new _ _
  have G1 := hide' (show w1.heap[w.heap.size + 1]? = some (.cells #[.int .i64 0, .int .i64 0, .slice none 0 0] 26 (0, 0)) by rw [← hw1]; exact heap_atX _ _ _ (by simp))
  have G0 := hide' g0
  have x0 := cell_of_row w1 _ 0 _ _ _ g0
  have x1 := cell_of_row w1 _ 1 _ _ _ g0
  have x2 := cell_of_row w1 _ 2 _ _ _ g0
  simp at x0 x1 x2
  have CC := hide' (checkRun_any t b 16 d (W : Int) (H : Int) xs (some ad) n c (ph : Int) (k : Int) w1 (hT.below BB.out) (hP.below BB.out))
  rw [hE, show errOf 0 = .nilIface from rfl] at CC
  have AP := hide' (fun (V : World) (h : Below w.heap.size w V) => hP.below h)
  have TBB := hide' (fun (V : World) (h : Below w.heap.size w V) => hTB.below h)
  have XL := hide' (show xs.length = n from hP.len.symm)
  have XF := hide' hxf
  obtain ⟨i0, hi, hz0, hz1, hz2⟩ := info_parts info_intB
  have HN := hide' hn
  clear hT hP hE hTB hxf g0 hn
  go_enter Tryd.func24, Tryd.ntmps24
  go_wp2_with fail
  refine CC.out.mono ?_
  rintro e' w2 ⟨rfl, b2⟩
  have B2 := hide' (BB.out.trans (b2.mono BB.out.size))
  have E0 := hide' ((b2.block _ (lt_of_block G0.out)).trans G0.out)
  have E1 := hide' ((b2.block _ (lt_of_block G1.out)).trans G1.out)
  have y0 := cell_of_row w2 _ 0 _ _ _ E0.out
  have y1 := cell_of_row w2 _ 1 _ _ _ E0.out
  have y2 := cell_of_row w2 _ 2 _ _ _ E0.out
  simp at y0 y1 y2
  clear b2 hw1 x0 x1 x2
  have NWa := hide' (show ∀ j u, (xs.map fun y => Value.int .i64 y)[j]? = some u → w2.drew.cell? (ad.add j) = some u from fun j u hu => news_intB (AP.out w2 B2.out) j u hu)
  have NWb := hide' (fun (o : Obj) => show ∀ j u, (xs.map fun y => Value.int .i64 y)[j]? = some u → (w2.alloc o).drew.cell? (ad.add j) = some u from fun j u hu => news_intB ((AP.out w2 B2.out).alloc o) j u hu)
  have XLn : (xs.map fun y => Value.int .i64 y).length = n * 1 := by rw [List.length_map, XL.out, Nat.mul_one]
  have ONE : ∀ u ∈ (xs.map fun y => Value.int .i64 y), u.oneCell' = true := fun u hu => by obtain ⟨y, -, rfl⟩ := List.mem_map.1 hu; rfl
  go_wp2
  clear y0 y1 y2
  refine cut4P (P := fun pO gC cap V => Hid (R4 w w2 V W H n pO gC cap f)) (Φ := ?PH) (fun CUT => ?mn) ?rs
  case mn =>
    have FA := hide' (fun (o : Obj) (U1 : World) (hg : (w2.alloc o).drew.grownBy U1 none) => show U1.heap[w2.heap.size]? = some o from (hg.block _ (by simp [World.drew]) (by simp)).trans (heap_alloc_new w2 o))
    have sl : w.heap.size < w2.heap.size := lt_of_block E0.out
    have FB := hide' (fun (U1 : World) (hg : w2.drew.grownBy U1 none) => show U1.heap[w.heap.size]? = _ from (hg.block _ sl (by simp)).trans E0.out)
    have FC := hide' (fun (o : Obj) (U1 : World) (hg : (w2.alloc o).drew.grownBy U1 none) => show U1.heap[w.heap.size]? = _ from (hg.block _ (by simp [World.drew]; omega) (by simp)).trans ((Below.heap_alloc w2 o _ sl).trans E0.out))
    have SW := hide' (fun (V : World) (h : V.heap[w.heap.size]? = some (.cells #[.int .i64 (W : Int), .int .i64 (H : Int), .slice (some ad) n c] 26 (0, 0))) => show V.cell? ⟨w.heap.size, 0, none⟩ = some (.int .i64 (W : Int)) ∧ V.cell? ⟨w.heap.size, 1, none⟩ = some (.int .i64 (H : Int)) ∧ V.cell? ⟨w.heap.size, 2, none⟩ = some (.slice (some ad) n c) from ⟨cell_of_row V _ 0 _ _ _ h, cell_of_row V _ 1 _ _ _ h, cell_of_row V _ 2 _ _ _ h⟩)
    have SA := hide' (show w2.drew.cell? ⟨w.heap.size, 0, none⟩ = some (.int .i64 (W : Int)) ∧ w2.drew.cell? ⟨w.heap.size, 1, none⟩ = some (.int .i64 (H : Int)) ∧ w2.drew.cell? ⟨w.heap.size, 2, none⟩ = some (.slice (some ad) n c) from SW.out w2 E0.out)
    have SB := hide' (fun (o : Obj) => show (w2.alloc o).drew.cell? ⟨w.heap.size, 0, none⟩ = some (.int .i64 (W : Int)) ∧ (w2.alloc o).drew.cell? ⟨w.heap.size, 1, none⟩ = some (.int .i64 (H : Int)) ∧ (w2.alloc o).drew.cell? ⟨w.heap.size, 2, none⟩ = some (.slice (some ad) n c) from SW.out (w2.alloc o) ((Below.heap_alloc w2 o _ sl).trans E0.out))
    go_region_held3 (fun V => V.cell? ⟨w.heap.size, 0, none⟩ = some (.int .i64 (W : Int)) ∧ V.cell? ⟨w.heap.size, 1, none⟩ = some (.int .i64 (H : Int)) ∧ V.cell? ⟨w.heap.size, 2, none⟩ = some (.slice (some ad) n c)) (first | exact SW.out _ ((three_oth (Nat.ne_of_lt sl) _ _ _).trans fy) | exact SW.out _ ((Below.heap_alloc U1 _ _ sl1).trans fy) | exact SW.out _ fy | exact SA.out | exact SB.out _ | fail)
      (first | (refine step_append_lies _ (by rfl) _ _ _ (by rfl) w2.heap.size 3 i0 _ 1 8 Tryd.underlying22 hi hz0 hz1 hz2 rfl (by omega) (.slice none 0 0) 0 [] (by rfl) ⟨rfl, Or.inl ⟨rfl, rfl⟩⟩ ad n c (xs.map fun y => Value.int .i64 y) (by rfl) XLn (by first | exact NWa.out | exact NWb.out _) ONE n0 (by unfold maxLen; omega) (by omega) (by simp) _ rfl ?_; intro gg cap U1 hown1 hgrow hat hlt; have fy : U1.heap[w.heap.size]? = some (.cells #[.int .i64 (W : Int), .int .i64 (H : Int), .slice (some ad) n c] 26 (0, 0)) := (by first | exact FB.out U1 hgrow | exact FC.out _ U1 hgrow); have sl1 := lt_of_block fy; (try (have fx := FA.out _ U1 hgrow; have k0 := cell_of_row U1 _ 0 _ _ _ fx; have k1 := cell_of_row U1 _ 1 _ _ _ fx; have k2 := cell_of_row U1 _ 2 _ _ _ fx; simp at k0 k1 k2; have z0 := frozen_of_row U1 _ 0 _ _ fx; have z1 := frozen_of_row U1 _ 1 _ _ fx; have z2 := frozen_of_row U1 _ 2 _ _ fx)); have HW1 := hide' hown1; have HG1 := hide' hgrow; have HAT := hide' hat; clear hown1 hgrow hat) | fail)
    · obtain ⟨V4, hV⟩ : ∃ V, U1.alloc (.cells #[.int .i64 (W : Int), .int .i64 (H : Int), .slice (some ⟨gg, 0, none⟩) n cap] 26) = V := ⟨_, rfl⟩
      obtain ⟨pO, hpO⟩ : ∃ p, U1.heap.size = p := ⟨_, rfl⟩
      obtain ⟨c4, c5⟩ := own_CA HW1.out XF.out
      have T8 := hide' (show R4 w w2 V4 W H n pO gg cap f from ⟨fun k hk => by rw [← hV, Below.heap_alloc _ _ _ (Nat.lt_of_lt_of_le hk HG1.out.size)]; exact HG1.out.block k hk (by simp [Value.ownBlock]), by rw [← hV]; exact heap_atX _ _ _ hpO.symm, c4.block (by rw [← hV]; exact Below.heap_alloc _ _ _ hlt), by rw [← hpO]; exact HG1.out.size, c5, by omega, by rw [← hV]; exact (below_grownB B2.out HG1.out rfl (Nat.le_of_lt sl)).alloc (Nat.le_of_lt sl1) _⟩)
      rw [hV, hpO]
      exact CUT _ _ _ _ T8
    · obtain ⟨V4, hV⟩ : ∃ V, (((U1.setCell ⟨w2.heap.size, 0, none⟩ (.int .i64 (W : Int))).setCell ⟨w2.heap.size, 1, none⟩ (.int .i64 (H : Int))).setCell ⟨w2.heap.size, 2, none⟩ (.slice (some ⟨gg, 0, none⟩) n cap)) = V := ⟨_, rfl⟩
      obtain ⟨pO, hpO⟩ : ∃ p, w2.heap.size = p := ⟨_, rfl⟩
      obtain ⟨c4, c5⟩ := own_CA HW1.out XF.out
      have gne : w2.heap.size ≠ gg := by
        rcases HAT.out with h | h
        · cases h
        · rw [h]; simp [World.drew]
      have B3 := below_grownB (B2.out.alloc (Nat.le_of_lt sl) _) HG1.out rfl (by simp; omega)
      have T8 := hide' (show R4 w w2 V4 W H n pO gg cap f from ⟨fun k hk => by rw [← hV, three_oth (Nat.ne_of_lt hk), HG1.out.block k (by simp [World.drew]; omega) (by simp [Value.ownBlock])]; exact Below.heap_alloc _ _ _ hk, by rw [← hV, ← hpO]; exact three_rowB fx _ _ _, c4.block (by rw [← hV]; exact three_oth (Ne.symm gne) _ _ _), by omega, c5, by omega, by rw [← hV]; exact ((B3.setCell (by simp; omega) _).setCell (by simp; omega) _).setCell (by simp; omega) _⟩)
      rw [hV, hpO]
      exact CUT _ _ _ _ T8
  case rs =>
    intro pO gC cap V4 T8
    have BC := hide' (becomesB_any b d tv V4 (TBB.out V4 T8.out.below))
    go_wp2_with fail
    refine BC.out.mono ?_
    rintro e' w5 ⟨rfl, b5⟩
    obtain ⟨gB, hgB⟩ : ∃ p, w5.heap.size = p := ⟨_, rfl⟩
    obtain ⟨Zb, hZb⟩ : ∃ Z, arrF 64 (bkG tv) = Z := ⟨_, rfl⟩
    have hz : (w5.alloc (.cells #[.int .i64 0, .int .i64 0, .int .i64 0, .int .i64 0, .int .i64 0, .int .i64 0, .int .i64 0, .int .i64 0, .int .i64 0, .int .i64 0, .int .i64 0, .int .i64 0, .int .i64 0, .int .i64 0, .int .i64 0, .int .i64 0, .int .i64 0, .int .i64 0, .int .i64 0, .int .i64 0, .int .i64 0, .int .i64 0, .int .i64 0, .int .i64 0, .int .i64 0, .int .i64 0, .int .i64 0, .int .i64 0, .int .i64 0, .int .i64 0, .int .i64 0, .int .i64 0, .int .i64 0, .int .i64 0, .int .i64 0, .int .i64 0, .int .i64 0, .int .i64 0, .int .i64 0, .int .i64 0, .int .i64 0, .int .i64 0, .int .i64 0, .int .i64 0, .int .i64 0, .int .i64 0, .int .i64 0, .int .i64 0, .int .i64 0, .int .i64 0, .int .i64 0, .int .i64 0, .int .i64 0, .int .i64 0, .int .i64 0, .int .i64 0, .int .i64 0, .int .i64 0, .int .i64 0, .int .i64 0, .int .i64 0, .int .i64 0, .int .i64 0, .int .i64 0] 125)).heap[gB]? = some (.cells #[.int .i64 0, .int .i64 0, .int .i64 0, .int .i64 0, .int .i64 0, .int .i64 0, .int .i64 0, .int .i64 0, .int .i64 0, .int .i64 0, .int .i64 0, .int .i64 0, .int .i64 0, .int .i64 0, .int .i64 0, .int .i64 0, .int .i64 0, .int .i64 0, .int .i64 0, .int .i64 0, .int .i64 0, .int .i64 0, .int .i64 0, .int .i64 0, .int .i64 0, .int .i64 0, .int .i64 0, .int .i64 0, .int .i64 0, .int .i64 0, .int .i64 0, .int .i64 0, .int .i64 0, .int .i64 0, .int .i64 0, .int .i64 0, .int .i64 0, .int .i64 0, .int .i64 0, .int .i64 0, .int .i64 0, .int .i64 0, .int .i64 0, .int .i64 0, .int .i64 0, .int .i64 0, .int .i64 0, .int .i64 0, .int .i64 0, .int .i64 0, .int .i64 0, .int .i64 0, .int .i64 0, .int .i64 0, .int .i64 0, .int .i64 0, .int .i64 0, .int .i64 0, .int .i64 0, .int .i64 0, .int .i64 0, .int .i64 0, .int .i64 0, .int .i64 0] 125 (0, 0)) := by rw [← hgB]; exact heap_alloc_new _ _
    have zs : Zb.size = 64 := by rw [← hZb, arrF_size]
    have za : Zb.all (·.oneCell') = true := by rw [← hZb]; exact arrF_all _ _ (fun k _ => rfl)
    rw [hZb]
    obtain ⟨W5, hW5⟩ : ∃ V, (w5.alloc (.cells #[.int .i64 0, .int .i64 0, .int .i64 0, .int .i64 0, .int .i64 0, .int .i64 0, .int .i64 0, .int .i64 0, .int .i64 0, .int .i64 0, .int .i64 0, .int .i64 0, .int .i64 0, .int .i64 0, .int .i64 0, .int .i64 0, .int .i64 0, .int .i64 0, .int .i64 0, .int .i64 0, .int .i64 0, .int .i64 0, .int .i64 0, .int .i64 0, .int .i64 0, .int .i64 0, .int .i64 0, .int .i64 0, .int .i64 0, .int .i64 0, .int .i64 0, .int .i64 0, .int .i64 0, .int .i64 0, .int .i64 0, .int .i64 0, .int .i64 0, .int .i64 0, .int .i64 0, .int .i64 0, .int .i64 0, .int .i64 0, .int .i64 0, .int .i64 0, .int .i64 0, .int .i64 0, .int .i64 0, .int .i64 0, .int .i64 0, .int .i64 0, .int .i64 0, .int .i64 0, .int .i64 0, .int .i64 0, .int .i64 0, .int .i64 0, .int .i64 0, .int .i64 0, .int .i64 0, .int .i64 0, .int .i64 0, .int .i64 0, .int .i64 0, .int .i64 0] 125)).setRow gB Zb = V := ⟨_, rfl⟩
    have b5' : Below V4.heap.size V4 W5 := by rw [← hW5]; exact below_setRow (b5.alloc b5.size _) (by rw [← hgB]; exact b5.size) _
    have GB := hide' (show W5.heap[gB]? = some (.cells (arrF 64 (bkG tv)) 125 (0, 0)) by rw [← hW5, hZb]; exact setRow_heap _ _ _ _ _ _ hz)
    have GL := hide' (show V4.heap.size ≤ gB by rw [← hgB]; exact b5.size)
    have K5 := hide' (show Kp w V4 W5 from ⟨fun k hk => b5'.block k hk, b5'.size, T8.out.below.trans (b5'.mono T8.out.below.size)⟩)
    have V2 := hide' (show w2.heap.size ≤ V4.heap.size by have := lt_of_block T8.out.pat; have := T8.out.po; omega)
    have E5 := hide' (show W5.heap[w.heap.size]? = some (.cells #[.int .i64 (W : Int), .int .i64 (H : Int), .slice (some ad) n c] 26 (0, 0)) from (b5'.block _ (Nat.lt_of_lt_of_le (lt_of_block E0.out) V2.out)).trans ((T8.out.keep _ (lt_of_block E0.out)).trans E0.out))
    have HZB := hide' hZb
    clear b5 b5' hZb
    go_upto_region 6 with (first
      | (refine wpList_store_row rfl 125 _ _ rfl gB Zb rfl rfl 125 _ hz (by rw [zs]; kernel_rfl) (by rw [zs]; rfl) za ?_; rw [hW5]))
    clear hW5 hz zs za hgB
    obtain ⟨N, hN⟩ : ∃ N, U * V = N := ⟨_, rfl⟩
    have SC0 := hide' (fun Y => standing_any W H V U ph (some ad) c Y e hp hW hH)
    have SC1 := hide' (fun Y => standing_any W H V U (1 - ph) (some ad) c Y e (by omega) hW hH)
    rw [HN.out, hN] at SC0 SC1
    unfold StandPost at SC0 SC1
    have q1 : (1 : Int) - (ph : Int) = ((1 - ph : Nat) : Int) := by omega
    obtain ⟨qh, hqh⟩ : ∃ q, 1 - ph = q := ⟨_, rfl⟩
    rw [hqh] at SC1 q1
    have q2 : IntKind.i64.wrap (qh : Int) = (qh : Int) := wrap_nB _ (by omega)
    have q1' : IntKind.i64.wrap (1 - (ph : Int)) = (qh : Int) := by rw [q1]; exact wrap_nB _ (by omega)
    have K6 := hide' (show Kp w W5 W5 from ⟨fun _ _ => rfl, Nat.le_refl _, K5.out.below⟩)
    have w5l := lt_of_block E5.out
    have SW := hide' (fun (V : World) (h : V.heap[w.heap.size]? = some (.cells #[.int .i64 (W : Int), .int .i64 (H : Int), .slice (some ad) n c] 26 (0, 0))) => show V.cell? ⟨w.heap.size, 0, none⟩ = some (.int .i64 (W : Int)) ∧ V.cell? ⟨w.heap.size, 1, none⟩ = some (.int .i64 (H : Int)) ∧ V.cell? ⟨w.heap.size, 2, none⟩ = some (.slice (some ad) n c) from ⟨cell_of_row V _ 0 _ _ _ h, cell_of_row V _ 1 _ _ _ h, cell_of_row V _ 2 _ _ _ h⟩)
    have SA := hide' (show W5.drew.cell? ⟨w.heap.size, 0, none⟩ = some (.int .i64 (W : Int)) ∧ W5.drew.cell? ⟨w.heap.size, 1, none⟩ = some (.int .i64 (H : Int)) ∧ W5.drew.cell? ⟨w.heap.size, 2, none⟩ = some (.slice (some ad) n c) from SW.out W5 E5.out)
    have SB := hide' (fun (o : Obj) => show (W5.alloc o).drew.cell? ⟨w.heap.size, 0, none⟩ = some (.int .i64 (W : Int)) ∧ (W5.alloc o).drew.cell? ⟨w.heap.size, 1, none⟩ = some (.int .i64 (H : Int)) ∧ (W5.alloc o).drew.cell? ⟨w.heap.size, 2, none⟩ = some (.slice (some ad) n c) from SW.out (W5.alloc o) ((Below.heap_alloc W5 o _ w5l).trans E5.out))
    have EQ := hide' hqh
    have HNN := hide' hN
    clear hN hqh
    refine cut4P (P := fun pS g0 g1 V => Hid (R6 w W5 V W H ph qh N pS g0 g1)) (Φ := ?PH2) (fun CUT => ?mn2) ?rs2
    case mn2 =>
      go_region_held3 (fun V => V.cell? ⟨w.heap.size, 0, none⟩ = some (.int .i64 (W : Int)) ∧ V.cell? ⟨w.heap.size, 1, none⟩ = some (.int .i64 (H : Int)) ∧ V.cell? ⟨w.heap.size, 2, none⟩ = some (.slice (some ad) n c)) (first | exact SW.out _ ((two_oth (show w.heap.size ≠ _ by have := ZP.out; omega) _ _).trans fp) | exact SW.out _ fp | exact SW.out _ ((Below.heap_alloc _ _ _ sl1).trans fp) | exact SA.out | exact SB.out _ | fail)
        (first | (go_at_call_of 64 (Value.int .i64 (ph : Int)); refine (SC0.out _).mono ?_; rintro e' U0 ⟨g0, hg0, rfl, hs0, b0⟩; have K0 := hide' (show Kp w W5 U0 ∧ W5.heap.size ≤ g0 from by first | exact K1.out.1.call b0 hg0 | exact (K1.out.1.alloc _).call b0 hg0 | exact K6.out.drew.call b0 hg0 | exact (K6.out.alloc _).drew.call b0 hg0); have Q0 := hide' hs0; (try (have P1 := hide' (show U0.heap[g1]? = _ from by first | exact (b0.block _ (lt_of_block Q1.out)).trans Q1.out | exact (b0.block _ (lt_of_block ((Below.heap_alloc U1 _ _ (lt_of_block Q1.out)).trans Q1.out))).trans ((Below.heap_alloc U1 _ _ (lt_of_block Q1.out)).trans Q1.out)))); (try (have zz := (b0.block U1.heap.size (by simp)).trans (heap_atX U1 (.cells #[.slice none 0 0, .slice none 0 0] 129) _ rfl); have ZP := hide' (show W5.heap.size ≤ U1.heap.size from K1.out.1.size); have ZZ := hide' zz; have k0 := cell_of_row U0 _ 0 _ _ _ zz; have k1 := cell_of_row U0 _ 1 _ _ _ zz; simp at k0 k1; have z0 := frozen_of_row U0 _ 0 _ _ zz; have z1 := frozen_of_row U0 _ 1 _ _ zz)); (try (have zw := (b0.block W5.heap.size (by simp [World.drew])).trans (heap_atX W5 (.cells #[.slice none 0 0, .slice none 0 0] 129) _ rfl); have ZP := hide' (show W5.heap.size ≤ W5.heap.size from Nat.le_refl _); have ZW := hide' zw; have ZZ := hide' zw; have k0 := cell_of_row U0 _ 0 _ _ _ zw; have k1 := cell_of_row U0 _ 1 _ _ _ zw; simp at k0 k1; have z0 := frozen_of_row U0 _ 0 _ _ zw; have z1 := frozen_of_row U0 _ 1 _ _ zw)); (try (have zv := (b0.block _ (lt_of_block ZW.out)).trans ZW.out; have ZZ := hide' zv; have k0 := cell_of_row U0 _ 0 _ _ _ zv; have k1 := cell_of_row U0 _ 1 _ _ _ zv; simp at k0 k1; have z0 := frozen_of_row U0 _ 0 _ _ zv; have z1 := frozen_of_row U0 _ 1 _ _ zv)); have fp : U0.heap[w.heap.size]? = some (.cells #[.int .i64 (W : Int), .int .i64 (H : Int), .slice (some ad) n c] 26 (0, 0)) := (K0.out.1.keep _ w5l).trans E5.out; have sl1 := lt_of_block fp; clear hs0) | (go_at_call_of 64 (Value.int .i64 (qh : Int)); refine (SC1.out _).mono ?_; rintro e' U1 ⟨g1, hg1, rfl, hs1, b1⟩; have K1 := hide' (show Kp w W5 U1 ∧ W5.heap.size ≤ g1 from by first | exact K0.out.1.call b1 hg1 | exact (K0.out.1.alloc _).call b1 hg1 | exact K6.out.drew.call b1 hg1 | exact (K6.out.alloc _).drew.call b1 hg1); have Q1 := hide' hs1; (try (have P0 := hide' (show U1.heap[g0]? = _ from by first | exact (b1.block _ (lt_of_block Q0.out)).trans Q0.out | exact (b1.block _ (lt_of_block ((Below.heap_alloc U0 _ _ (lt_of_block Q0.out)).trans Q0.out))).trans ((Below.heap_alloc U0 _ _ (lt_of_block Q0.out)).trans Q0.out)))); (try (have zz := (b1.block U0.heap.size (by simp)).trans (heap_atX U0 (.cells #[.slice none 0 0, .slice none 0 0] 129) _ rfl); have ZP := hide' (show W5.heap.size ≤ U0.heap.size from K0.out.1.size); have ZZ := hide' zz; have k0 := cell_of_row U1 _ 0 _ _ _ zz; have k1 := cell_of_row U1 _ 1 _ _ _ zz; simp at k0 k1; have z0 := frozen_of_row U1 _ 0 _ _ zz; have z1 := frozen_of_row U1 _ 1 _ _ zz)); (try (have zw := (b1.block W5.heap.size (by simp [World.drew])).trans (heap_atX W5 (.cells #[.slice none 0 0, .slice none 0 0] 129) _ rfl); have ZP := hide' (show W5.heap.size ≤ W5.heap.size from Nat.le_refl _); have ZW := hide' zw; have ZZ := hide' zw; have k0 := cell_of_row U1 _ 0 _ _ _ zw; have k1 := cell_of_row U1 _ 1 _ _ _ zw; simp at k0 k1; have z0 := frozen_of_row U1 _ 0 _ _ zw; have z1 := frozen_of_row U1 _ 1 _ _ zw)); (try (have zv := (b1.block _ (lt_of_block ZW.out)).trans ZW.out; have ZZ := hide' zv; have k0 := cell_of_row U1 _ 0 _ _ _ zv; have k1 := cell_of_row U1 _ 1 _ _ _ zv; simp at k0 k1; have z0 := frozen_of_row U1 _ 0 _ _ zv; have z1 := frozen_of_row U1 _ 1 _ _ zv)); have fp : U1.heap[w.heap.size]? = some (.cells #[.int .i64 (W : Int), .int .i64 (H : Int), .slice (some ad) n c] 26 (0, 0)) := (K1.out.1.keep _ w5l).trans E5.out; have sl1 := lt_of_block fp; clear hs1) | fail)
      all_goals first
        | (obtain ⟨V6, hV⟩ : ∃ V, U1.alloc (.cells #[.slice (some ⟨g0, 0, none⟩) N N, .slice (some ⟨g1, 0, none⟩) N N] 129) = V := ⟨_, rfl⟩; obtain ⟨pS, hpS⟩ : ∃ p, U1.heap.size = p := ⟨_, rfl⟩; have T9 := hide' (show R6 w W5 V6 W H ph qh N pS g0 g1 from by rw [← hV, ← hpS]; exact R6.of_alloc K1.out.1 P0.out Q1.out K0.out.2 K1.out.2); rw [hV, hpS]; exact CUT _ _ _ _ T9)
        | (obtain ⟨V6, hV⟩ : ∃ V, U0.alloc (.cells #[.slice (some ⟨g0, 0, none⟩) N N, .slice (some ⟨g1, 0, none⟩) N N] 129) = V := ⟨_, rfl⟩; obtain ⟨pS, hpS⟩ : ∃ p, U0.heap.size = p := ⟨_, rfl⟩; have T9 := hide' (show R6 w W5 V6 W H ph qh N pS g0 g1 from by rw [← hV, ← hpS]; exact R6.of_alloc K0.out.1 Q0.out P1.out K0.out.2 K1.out.2); rw [hV, hpS]; exact CUT _ _ _ _ T9)
        | (obtain ⟨V6, hV⟩ : ∃ V, (U1.setCell ⟨U0.heap.size, 0, none⟩ (.slice (some ⟨g0, 0, none⟩) N N)).setCell ⟨U0.heap.size, 1, none⟩ (.slice (some ⟨g1, 0, none⟩) N N) = V := ⟨_, rfl⟩; obtain ⟨pS, hpS⟩ : ∃ p, U0.heap.size = p := ⟨_, rfl⟩; have T9 := hide' (show R6 w W5 V6 W H ph qh N pS g0 g1 from by rw [← hV, ← hpS]; exact R6.of_set K1.out.1 P0.out Q1.out K0.out.2 K1.out.2 ZZ.out ZP.out (Nat.le_of_lt w5l)); rw [hV, hpS]; exact CUT _ _ _ _ T9)
        | (obtain ⟨V6, hV⟩ : ∃ V, (U0.setCell ⟨U1.heap.size, 0, none⟩ (.slice (some ⟨g0, 0, none⟩) N N)).setCell ⟨U1.heap.size, 1, none⟩ (.slice (some ⟨g1, 0, none⟩) N N) = V := ⟨_, rfl⟩; obtain ⟨pS, hpS⟩ : ∃ p, U1.heap.size = p := ⟨_, rfl⟩; have T9 := hide' (show R6 w W5 V6 W H ph qh N pS g0 g1 from by rw [← hV, ← hpS]; exact R6.of_set K0.out.1 Q0.out P1.out K0.out.2 K1.out.2 ZZ.out ZP.out (Nat.le_of_lt w5l)); rw [hV, hpS]; exact CUT _ _ _ _ T9)
        | (obtain ⟨V6, hV⟩ : ∃ V, (U1.setCell ⟨W5.heap.size, 0, none⟩ (.slice (some ⟨g0, 0, none⟩) N N)).setCell ⟨W5.heap.size, 1, none⟩ (.slice (some ⟨g1, 0, none⟩) N N) = V := ⟨_, rfl⟩; obtain ⟨pS, hpS⟩ : ∃ p, W5.heap.size = p := ⟨_, rfl⟩; have T9 := hide' (show R6 w W5 V6 W H ph qh N pS g0 g1 from by rw [← hV, ← hpS]; exact R6.of_set K1.out.1 P0.out Q1.out K0.out.2 K1.out.2 ZZ.out ZP.out (Nat.le_of_lt w5l)); rw [hV, hpS]; exact CUT _ _ _ _ T9)
        | (obtain ⟨V6, hV⟩ : ∃ V, (U0.setCell ⟨W5.heap.size, 0, none⟩ (.slice (some ⟨g0, 0, none⟩) N N)).setCell ⟨W5.heap.size, 1, none⟩ (.slice (some ⟨g1, 0, none⟩) N N) = V := ⟨_, rfl⟩; obtain ⟨pS, hpS⟩ : ∃ p, W5.heap.size = p := ⟨_, rfl⟩; have T9 := hide' (show R6 w W5 V6 W H ph qh N pS g0 g1 from by rw [← hV, ← hpS]; exact R6.of_set K0.out.1 Q0.out P1.out K0.out.2 K1.out.2 ZZ.out ZP.out (Nat.le_of_lt w5l)); rw [hV, hpS]; exact CUT _ _ _ _ T9)
    case rs2 =>
      intro pS g0 g1 V6 T9
      have SP0 := hide' (show SP V6 V6 w.heap.size gC n (runB tv W H ph f 0) from ⟨fun _ _ _ => rfl, T8.out.ca.block ((T9.out.kp.keep _ (Nat.lt_of_lt_of_le T8.out.ca.lt K5.out.size)).trans (K5.out.keep _ T8.out.ca.lt)), Nat.le_refl _, Below.refl _ _⟩)
      have V45 := hide' (show V4.heap.size ≤ W5.heap.size from K5.out.size)
      have CL := hide' T8.out.ca.lt
      have PO := hide' (show V6.heap[pO]? = _ from (T9.out.kp.keep _ (Nat.lt_of_lt_of_le (lt_of_block T8.out.pat) K5.out.size)).trans ((K5.out.keep _ (lt_of_block T8.out.pat)).trans T8.out.pat))
      have GB6 := hide' ((T9.out.kp.keep _ (lt_of_block GB.out)).trans GB.out)
      have NE0 := hide' (show g0 ≠ gC ∧ g1 ≠ gC ∧ gB ≠ gC ∧ pS ≠ gC ∧ pO ≠ gC ∧ w.heap.size + 1 ≠ gC from ⟨by have := T9.out.l0; have := CL.out; have := V45.out; omega, by have := T9.out.l1; have := CL.out; have := V45.out; omega, by have := GL.out; have := CL.out; omega, by have := T9.out.lp; have := CL.out; have := V45.out; omega, T8.out.ne, by have := T8.out.gc; have := lt_of_block E1.out; omega⟩)
      have RES := hide' (show V6.heap[w.heap.size + 1]? = some (.cells #[.int .i64 0, .int .i64 0, .slice none 0 0] 26 (0, 0)) from (T9.out.kp.keep _ (Nat.lt_of_lt_of_le (Nat.lt_of_lt_of_le (lt_of_block E1.out) V2.out) K5.out.size)).trans ((K5.out.keep _ (Nat.lt_of_lt_of_le (lt_of_block E1.out) V2.out)).trans ((T8.out.keep _ (lt_of_block E1.out)).trans E1.out)))
      have BGC := hide' (show w.heap.size ≤ gC from Nat.le_trans (Nat.le_of_lt (lt_of_block E0.out)) T8.out.gc)
      have BW6 := hide' T9.out.kp.below
      have STP := hide' (fun (wr : World) (g : Nat → Nat) (phs gs : Nat) (hps : phs ≤ 1) (hS : SP V6 wr w.heap.size gC n g) (hg : ∀ i, g i ≤ 1) (hs : V6.heap[gs]? = some (.cells (arrF (N * 4) (stG W H phs)) 189 (0, 0))) (ngs : gs ≠ gC) => show Calls Tryd.prog 65 #[.slice (some ⟨gC, 0, none⟩) n cap, .slice (some ⟨gs, 0, none⟩) N N, .pointer (some ⟨gB, 0, none⟩)] wr (fun e w' => e = .returned (.tuple #[]) ∧ SP V6 w' w.heap.size gC n (newB tv W H phs g)) from by
        have t := step_blk W H V U phs tv g gC cap gs gB w.heap.size wr e hps hW hH (TBB.out w (Below.refl _ _)).lt hg BGC.out (by rw [HN.out]; exact hS.ca) ngs NE0.out.2.2.1 (by rw [HNN.out]; exact (hS.keep _ (lt_of_block hs) ngs).trans hs) ((hS.keep _ (lt_of_block GB6.out) NE0.out.2.2.1).trans GB6.out)
        rw [HN.out, HNN.out] at t
        refine t.mono ?_
        rintro e' w' ⟨rfl, h⟩
        exact ⟨rfl, ⟨fun k hk hn => (h.keep k (Nat.lt_of_lt_of_le hk hS.size) hn).trans (hS.keep k hk hn), h.ca, Nat.le_trans hS.size h.size, hS.below.trans h.below⟩⟩)
      have RLE := hide' (fun i j => runB_le (tv := tv) (W := W) (H := H) (ph := ph) hf i j)
      have KK := hide' hk
      have R6S := hide' (And.intro T9.out.s0 T9.out.s1)
      have R6P := hide' T9.out.pat
      clear SC0 SC1 q1 q1' q2 SW SA SB K6 w5l
      go_wp2
      go_loopw [43] (fun iv wr => ∃ (i : Nat), iv = .int .i64 (i : Int) ∧ i ≤ k ∧ Hid (SP V6 wr w.heap.size gC n (runB tv W H ph f i))) (fun iv _ => k - (intOf iv).toNat)
      case atStart => exact ⟨0, rfl, by omega, SP0⟩
      case round =>
        obtain ⟨i, rfl, hi, HR⟩ := hrel
        by_cases di : (i : Int) < (k : Int)
        · have SVX := hide' (fun (V : World) (h : SP V6 V w.heap.size gC n (runB tv W H ph f i)) => show V.cell? ⟨pO, 2, none⟩ = some (.slice (some ⟨gC, 0, none⟩) n cap) ∧ V.cell? ⟨pS, 0, none⟩ = some (.slice (some ⟨g0, 0, none⟩) N N) ∧ V.cell? ⟨pS, 1, none⟩ = some (.slice (some ⟨g1, 0, none⟩) N N) from
            have a1 := (h.keep _ (lt_of_block PO.out) NE0.out.2.2.2.2.1).trans PO.out
            have a2 := (h.keep _ (lt_of_block R6P.out) NE0.out.2.2.2.1).trans R6P.out
            ⟨cell_of_row V _ 2 _ _ _ a1, cell_of_row V _ 0 _ _ _ a2, cell_of_row V _ 1 _ _ _ a2⟩)
          have SD := hide' (show wr.drew.cell? ⟨pO, 2, none⟩ = some (.slice (some ⟨gC, 0, none⟩) n cap) ∧ wr.drew.cell? ⟨pS, 0, none⟩ = some (.slice (some ⟨g0, 0, none⟩) N N) ∧ wr.drew.cell? ⟨pS, 1, none⟩ = some (.slice (some ⟨g1, 0, none⟩) N N) from SVX.out wr HR.out)
          have HD := hide' (show SP V6 wr.drew w.heap.size gC n (runB tv W H ph f i) from ⟨HR.out.keep, HR.out.ca, HR.out.size, ⟨HR.out.below.os, HR.out.below.tape, HR.out.below.output, HR.out.below.size, HR.out.below.block⟩⟩)
          have i2 : i % 2 = 0 ∨ i % 2 = 1 := by omega
          rcases i2 with i2 | i2
          · have r0 : IntKind.i64.wrap ((i : Int).tmod 2) = 0 := by rw [show (i : Int).tmod 2 = 0 by rw [Int.tmod_eq_emod_of_nonneg (by omega)]; omega]; rfl
            have r1 : (i : Int) % 2 = 0 := by omega
            have r2 : (i : Int).tmod 2 = 0 := by rw [Int.tmod_eq_emod_of_nonneg (by omega)]; omega
            have SN := hide' (STP.out wr.drew _ ph g0 hp HD.out (RLE.out i) R6S.out.1 NE0.out.1)
            have RN := hide' (show newB tv W H ph (runB tv W H ph f i) = runB tv W H ph f (i + 1) by rw [runB, if_pos i2])
            rw [RN.out] at SN
            have SVN := hide' (fun (V : World) (h : SP V6 V w.heap.size gC n (runB tv W H ph f (i + 1))) => show V.cell? ⟨pO, 2, none⟩ = some (.slice (some ⟨gC, 0, none⟩) n cap) ∧ V.cell? ⟨pS, 0, none⟩ = some (.slice (some ⟨g0, 0, none⟩) N N) ∧ V.cell? ⟨pS, 1, none⟩ = some (.slice (some ⟨g1, 0, none⟩) N N) from
              have a1 := (h.keep _ (lt_of_block PO.out) NE0.out.2.2.2.2.1).trans PO.out
              have a2 := (h.keep _ (lt_of_block R6P.out) NE0.out.2.2.2.1).trans R6P.out
              ⟨cell_of_row V _ 2 _ _ _ a1, cell_of_row V _ 0 _ _ _ a2, cell_of_row V _ 1 _ _ _ a2⟩)
            clear i2
            go_wp2
            go_region_held3 (fun V => V.cell? ⟨pO, 2, none⟩ = some (.slice (some ⟨gC, 0, none⟩) n cap) ∧ V.cell? ⟨pS, 0, none⟩ = some (.slice (some ⟨g0, 0, none⟩) N N) ∧ V.cell? ⟨pS, 1, none⟩ = some (.slice (some ⟨g1, 0, none⟩) N N)) (first | exact SVN.out _ H9.out | exact SD.out | fail)
              (first | (go_at_call 65; refine SN.out.mono ?_; rintro e' w9 ⟨rfl, h9⟩; have H9 := hide' h9; clear h9) | fail)
            go_wp2
            exact ⟨⟨i + 1, by go_num, by omega, H9⟩, by simp [intOf]; omega⟩
          · have r0 : IntKind.i64.wrap ((i : Int).tmod 2) = 1 := by rw [show (i : Int).tmod 2 = 1 by rw [Int.tmod_eq_emod_of_nonneg (by omega)]; omega]; rfl
            have r1 : (i : Int) % 2 = 1 := by omega
            have r2 : (i : Int).tmod 2 = 1 := by rw [Int.tmod_eq_emod_of_nonneg (by omega)]; omega
            have SN := hide' (STP.out wr.drew _ qh g1 (by have := EQ.out; omega) HD.out (RLE.out i) R6S.out.2 NE0.out.2.1)
            have RN := hide' (show newB tv W H qh (runB tv W H ph f i) = runB tv W H ph f (i + 1) by rw [runB, if_neg (by omega), EQ.out])
            rw [RN.out] at SN
            have SVN := hide' (fun (V : World) (h : SP V6 V w.heap.size gC n (runB tv W H ph f (i + 1))) => show V.cell? ⟨pO, 2, none⟩ = some (.slice (some ⟨gC, 0, none⟩) n cap) ∧ V.cell? ⟨pS, 0, none⟩ = some (.slice (some ⟨g0, 0, none⟩) N N) ∧ V.cell? ⟨pS, 1, none⟩ = some (.slice (some ⟨g1, 0, none⟩) N N) from
              have a1 := (h.keep _ (lt_of_block PO.out) NE0.out.2.2.2.2.1).trans PO.out
              have a2 := (h.keep _ (lt_of_block R6P.out) NE0.out.2.2.2.1).trans R6P.out
              ⟨cell_of_row V _ 2 _ _ _ a1, cell_of_row V _ 0 _ _ _ a2, cell_of_row V _ 1 _ _ _ a2⟩)
            clear i2
            go_wp2
            go_region_held3 (fun V => V.cell? ⟨pO, 2, none⟩ = some (.slice (some ⟨gC, 0, none⟩) n cap) ∧ V.cell? ⟨pS, 0, none⟩ = some (.slice (some ⟨g0, 0, none⟩) N N) ∧ V.cell? ⟨pS, 1, none⟩ = some (.slice (some ⟨g1, 0, none⟩) N N)) (first | exact SVN.out _ H9.out | exact SD.out | fail)
              (first | (go_at_call 65; refine SN.out.mono ?_; rintro e' w9 ⟨rfl, h9⟩; have H9 := hide' h9; clear h9) | fail)
            go_wp2
            exact ⟨⟨i + 1, by go_num, by omega, H9⟩, by simp [intOf]; omega⟩
        · have ik : i = k := by omega
          have FIN := hide' (show SP V6 wr w.heap.size gC n (runB tv W H ph f k) by rw [← ik]; exact HR.out)
          have a1 := (HR.out.keep _ (lt_of_block PO.out) NE0.out.2.2.2.2.1).trans PO.out
          have a2 := (HR.out.keep _ (lt_of_block RES.out) NE0.out.2.2.2.2.2).trans RES.out
          have x0 := cell_of_row wr _ 0 _ _ _ a1
          have x1 := cell_of_row wr _ 1 _ _ _ a1
          have x2 := cell_of_row wr _ 2 _ _ _ a1
          have r0 := cell_of_row wr _ 0 _ _ _ a2
          have r1 := cell_of_row wr _ 1 _ _ _ a2
          have r2 := cell_of_row wr _ 2 _ _ _ a2
          simp at x0 x1 x2 r0 r1 r2
          have f0 := frozen_of_row wr _ 0 _ _ a2
          have f1 := frozen_of_row wr _ 1 _ _ a2
          have f2 := frozen_of_row wr _ 2 _ _ a2
          clear ik a1 a2
          go_wp2
          refine bodyPost_ret (v := .tuple #[.agg #[.int .i64 (W : Int), .int .i64 (H : Int), .slice (some ⟨gC, 0, none⟩) n cap], .nilIface]) (by simp [results, Tryd.results24, go_sem, r0, r1, r2]) rfl ?_
          refine ⟨gC, cap, rfl, FIN.out.ca.block (three_oth (Ne.symm NE0.out.2.2.2.2.2) _ _ _), BGC.out, ?_⟩
          exact (((BW6.out.trans FIN.out.below).setCell (by simp) _).setCell (by simp) _).setCell (by simp) _

end Go.Proofs.YtfeddccbhmbkmaaDoor

