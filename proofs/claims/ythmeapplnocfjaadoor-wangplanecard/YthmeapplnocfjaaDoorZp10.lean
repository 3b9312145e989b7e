/-
  What the last text of this claim leans on, part 10: Ws6.
-/
import Derived.Test.YthmeapplnocfjaaDoorZp9
namespace Go.Proofs.YthmeapplnocfjaaDoor
open Go.RowKit
set_option linter.unusedVariables false
set_option linter.unusedSimpArgs false
/-- What lies there for it. -/
structure ExtA (b : BdW) (g r col eg : Nat) (f : Nat → Int) (B : Nat) (V : World) : Prop where
  brd : BrdA V g b
  en : EnB V eg f
  tz : TzTab V
  base : B ≤ V.heap.size
  gB : g < B
  tB : 2 < B
def ExtC (b : BdW) (g r col eg : Nat) (f : Nat → Int) (B j : Nat) : Prop := ∀ (c lf : Nat) (l : LkW) (ls : List LkW) (oa : Option Addr) (oc : Nat) (V : World), c + j = b.W → lf < 8 → LenL l → ExtA b g r col eg f B V → V.ownsRow B 104 10 (.slice oa ls.length oc) ls.length (flK ls) → ls.length + enW b r col j c (lf : Int) ≤ 16777216 →
  Calls Tryd.prog 43 #[.pointer (some ⟨g, 0, none⟩), .int .i64 (r : Int), .int .i64 (c : Int), .int .i64 (lf : Int), .agg (lkV l).toArray, .pointer (some ⟨eg, 0, none⟩), .slice oa ls.length oc] V (ExO V B (.slice oa ls.length oc) ls (exW b r col j c (lf : Int) l))
theorem ExtA.grow {b : BdW} {g r col eg : Nat} {f : Nat → Int} {B : Nat} {V V' : World} {v v' : Value} {n : Nat} {xs : List Value} (h : ExtA b g r col eg f B V) (o : V.ownsRow B 104 10 v n xs) (k : GrW V V' v v') : ExtA b g r col eg f B V' :=
  ⟨by unfold BrdA; rw [k.block (lt_blockT h.brd) (own_less o h.gB)]; exact h.brd,
   by unfold EnB; rw [k.block (lt_blockT h.en) (own_other (cs := []) o h.en (by decide))]; exact h.en,
   fun j hj => (World.cell?_of_block (w := V) (a := ⟨2, j, none⟩) (k.block (tz_lt h.tz) (own_less o h.tB))).trans (h.tz j hj),
   Nat.le_trans h.base k.gr.size, h.gB, h.tB⟩
theorem ExtA.below {b : BdW} {g r col eg : Nat} {f : Nat → Int} {B : Nat} {V V' : World} (h : ExtA b g r col eg f B V) (k : Below V.heap.size V V') : ExtA b g r col eg f B V' :=
  ⟨h.brd.below k, h.en.below k, h.tz.below k, Nat.le_trans h.base k.size, h.gB, h.tB⟩
theorem own_alloc {w V : World} {B : Nat} {e : TypeId} {size n : Nat} {v : Value} {xs : List Value} (h : w.ownsRow B e size v n xs) (k : Below w.heap.size w V) : V.ownsRow B e size v n xs :=
  h.kept (row := none) ⟨k.os, k.tape, k.output, k.size, fun p hp _ => k.block p hp⟩ (by
    rcases hv : v.ownBlock with _ | q
    · exact Or.inl rfl
    · exact Or.inr (by simp))
set_option maxRecDepth 100000 in
set_option maxHeartbeats 6400000 in
theorem ext_nil (b : BdW) (g r col eg : Nat) (f : Nat → Int) (B : Nat) (j c lf : Nat) (l : LkW) (ls : List LkW) (oa : Option Addr) (oc : Nat) (V : World) (hc : c < 6) (h8 : lf < 8) (hA : ExtA b g r col eg f B V) (ho : V.ownsRow B 104 10 (.slice oa ls.length oc) ls.length (flK ls)) (hz : f (c * 8 + lf) = 0) (hx : exW b r col j c (lf : Int) l = []) :
    Calls Tryd.prog 43 #[.pointer (some ⟨g, 0, none⟩), .int .i64 (r : Int), .int .i64 (c : Int), .int .i64 (lf : Int), .agg (lkV l).toArray, .pointer (some ⟨eg, 0, none⟩), .slice oa ls.length oc] V (ExO V B (.slice oa ls.length oc) ls (exW b r col j c (lf : Int) l)) := by
  rw [hx]
  clear hx
  obtain ⟨n, hn⟩ : ∃ n, ls.length = n := ⟨_, rfl⟩
  obtain ⟨w1, hw1⟩ : ∃ w1, V.alloc (.cells (lkV l).toArray 104) = w1 := ⟨_, rfl⟩
  have B1 := hide' (show Below V.heap.size V w1 by rw [← hw1]; exact (Below.refl _ _).alloc (Nat.le_refl _) _)
  have ce := (hA.en.below B1.out).cell (i := c * 8 + lf) (by omega)
  have el := lt_blockT hA.en
  rw [hz] at ce
  have FIN := hide' (show ExO V B (.slice oa n oc) ls [] (.returned (.slice oa n oc)) w1 from ⟨oa, oc, by rw [← hn]; rfl, hide' (by rw [List.append_nil]; exact own_alloc ho B1.out), hide' (by rw [← hn]; exact GrW.of_below _ B1.out)⟩)
  have HW := hide' hw1
  rw [hn]
  clear hw1 hA ho hz hn
  have c0 : (0 : Int) ≤ (c : Int) := by omega
  have c6 : (c : Int) < 6 := by omega
  have l0 : (0 : Int) ≤ (lf : Int) := by omega
  have l8 : (lf : Int) < 8 := by omega
  go_enter Tryd.func43, Tryd.ntmps43
  go_upto_region 1 with fail
  try rw [HW.out]
  go_wp2
  go_ret
  exact FIN.out
set_option maxRecDepth 100000 in
set_option maxHeartbeats 6400000 in
theorem ext_end (b : BdW) (g r col eg : Nat) (f : Nat → Int) (B : Nat) (lf : Nat) (l : LkW) (ls : List LkW) (oa : Option Addr) (oc : Nat) (V : World) (W5 : b.W ≤ 5) (h8 : lf < 8) (hA : ExtA b g r col eg f B V) (ho : V.ownsRow B 104 10 (.slice oa ls.length oc) ls.length (flK ls)) (hz : f (b.W * 8 + lf) = 1) (hx : exW b r col 0 b.W (lf : Int) l = [l]) (hl : ls.length < 16777216) :
    Calls Tryd.prog 43 #[.pointer (some ⟨g, 0, none⟩), .int .i64 (r : Int), .int .i64 (b.W : Int), .int .i64 (lf : Int), .agg (lkV l).toArray, .pointer (some ⟨eg, 0, none⟩), .slice oa ls.length oc] V (ExO V B (.slice oa ls.length oc) ls (exW b r col 0 b.W (lf : Int) l)) := by
  rw [hx]
  clear hx
  obtain ⟨n, hn⟩ : ∃ n, ls.length = n := ⟨_, rfl⟩
  obtain ⟨w1, hw1⟩ : ∃ w1, V.alloc (.cells (lkV l).toArray 104) = w1 := ⟨_, rfl⟩
  obtain ⟨K, hK⟩ : ∃ K, (lkV l).toArray = K := ⟨_, rfl⟩
  have B1 := hide' (show Below V.heap.size V w1 by rw [← hw1]; exact (Below.refl _ _).alloc (Nat.le_refl _) _)
  have L1 : w1.heap[V.heap.size]? = some (.cells K 104 (0, 0)) := by rw [← hw1, ← hK]; exact heap_alloc_new _ _
  have ce := (hA.en.below B1.out).cell (i := b.W * 8 + lf) (by omega)
  have cw := (hA.brd.below B1.out).wide
  have el := lt_blockT hA.en
  have gl := lt_blockT hA.brd
  rw [hz] at ce
  have EK := hide' (show flK [l] = K.toList by rw [flK_one, ← hK])
  obtain ⟨a0, ha0⟩ : ∃ v, l.u.getD 0 0 = v := ⟨_, rfl⟩
  obtain ⟨a1, ha1⟩ : ∃ v, l.u.getD 1 0 = v := ⟨_, rfl⟩
  obtain ⟨a2, ha2⟩ : ∃ v, l.u.getD 2 0 = v := ⟨_, rfl⟩
  obtain ⟨a3, ha3⟩ : ∃ v, l.u.getD 3 0 = v := ⟨_, rfl⟩
  obtain ⟨a4, ha4⟩ : ∃ v, l.u.getD 4 0 = v := ⟨_, rfl⟩
  obtain ⟨b0, hb0⟩ : ∃ v, l.d.getD 0 0 = v := ⟨_, rfl⟩
  obtain ⟨b1, hb1⟩ : ∃ v, l.d.getD 1 0 = v := ⟨_, rfl⟩
  obtain ⟨b2, hb2⟩ : ∃ v, l.d.getD 2 0 = v := ⟨_, rfl⟩
  obtain ⟨b3, hb3⟩ : ∃ v, l.d.getD 3 0 = v := ⟨_, rfl⟩
  obtain ⟨b4, hb4⟩ : ∃ v, l.d.getD 4 0 = v := ⟨_, rfl⟩
  rw [show (lkV l).toArray = #[.int .u8 (a0 : Int), .int .u8 (a1 : Int), .int .u8 (a2 : Int), .int .u8 (a3 : Int), .int .u8 (a4 : Int), .int .u8 (b0 : Int), .int .u8 (b1 : Int), .int .u8 (b2 : Int), .int .u8 (b3 : Int), .int .u8 (b4 : Int)] from by unfold lkV; rw [ha0, ha1, ha2, ha3, ha4, hb0, hb1, hb2, hb3, hb4]] at hK
  have HK := hide' hK
  rw [← hK] at L1
  have y0 : w1.cell? ⟨V.heap.size, 0, none⟩ = some (.int .u8 (a0 : Int)) := by rw [cell_of_row w1 _ _ _ _ _ L1]; rfl
  have y1 : w1.cell? ⟨V.heap.size, 1, none⟩ = some (.int .u8 (a1 : Int)) := by rw [cell_of_row w1 _ _ _ _ _ L1]; rfl
  have y2 : w1.cell? ⟨V.heap.size, 2, none⟩ = some (.int .u8 (a2 : Int)) := by rw [cell_of_row w1 _ _ _ _ _ L1]; rfl
  have y3 : w1.cell? ⟨V.heap.size, 3, none⟩ = some (.int .u8 (a3 : Int)) := by rw [cell_of_row w1 _ _ _ _ _ L1]; rfl
  have y4 : w1.cell? ⟨V.heap.size, 4, none⟩ = some (.int .u8 (a4 : Int)) := by rw [cell_of_row w1 _ _ _ _ _ L1]; rfl
  have y5 : w1.cell? ⟨V.heap.size, 5, none⟩ = some (.int .u8 (b0 : Int)) := by rw [cell_of_row w1 _ _ _ _ _ L1]; rfl
  have y6 : w1.cell? ⟨V.heap.size, 6, none⟩ = some (.int .u8 (b1 : Int)) := by rw [cell_of_row w1 _ _ _ _ _ L1]; rfl
  have y7 : w1.cell? ⟨V.heap.size, 7, none⟩ = some (.int .u8 (b2 : Int)) := by rw [cell_of_row w1 _ _ _ _ _ L1]; rfl
  have y8 : w1.cell? ⟨V.heap.size, 8, none⟩ = some (.int .u8 (b3 : Int)) := by rw [cell_of_row w1 _ _ _ _ _ L1]; rfl
  have y9 : w1.cell? ⟨V.heap.size, 9, none⟩ = some (.int .u8 (b4 : Int)) := by rw [cell_of_row w1 _ _ _ _ _ L1]; rfl
  obtain ⟨w2, hw2⟩ : ∃ w2, w1.alloc (.cells #[.int .u8 (a0 : Int), .int .u8 (a1 : Int), .int .u8 (a2 : Int), .int .u8 (a3 : Int), .int .u8 (a4 : Int), .int .u8 (b0 : Int), .int .u8 (b1 : Int), .int .u8 (b2 : Int), .int .u8 (b3 : Int), .int .u8 (b4 : Int)] 104) = w2 := ⟨_, rfl⟩
  have B2 := hide' (show Below V.heap.size V w2 by rw [← hw2]; exact B1.out.alloc B1.out.size _)
  have OW := hide' (own_alloc ho B2.out)
  have NB := hide' (show ∀ j u, (flK [l])[j]? = some u → w2.cell? ((⟨w1.heap.size, 0, none⟩ : Addr).add j) = some u by
    rw [EK.out]
    exact World.news_of_block (by rw [← hw2, hK]; exact heap_alloc_new _ _))
  have BL := hide' hA.base
  have HL := hide' hn
  rw [hn] at OW
  have GB := hide' (fun (w' : World) (g' cap : Nat) (hg : w2.grownBy w' (Value.slice oa n oc).ownBlock) (ha : (Value.slice oa n oc).ownBlock = some g' ∨ g' = w2.heap.size) => show GrW V w' (.slice oa n oc) (.slice (some ⟨g', 0, none⟩) (n + 1) cap) from (GrW.of_below _ B2.out).trans ⟨hg, by
    rcases ha with e | e
    · exact Or.inl (by rw [e]; rfl)
    · exact Or.inr ⟨g', rfl, by omega⟩⟩)
  have HW := hide' (And.intro hw1 hw2)
  rw [hn]
  obtain ⟨i0, hi0, hz0, hz1, hz2⟩ := info_parts info_lookW
  have S2 := hide' B2.out.size
  have WE := hide' (show w2.heap.size = w1.heap.size + 1 by rw [← hw2]; simp)
  clear hw1 hw2 hA ho hz ha0 ha1 ha2 ha3 ha4 hb0 hb1 hb2 hb3 hb4 L1 hK
  have c0 : (0 : Int) ≤ (b.W : Int) := by omega
  have c6 : (b.W : Int) < 6 := by omega
  have l0 : (0 : Int) ≤ (lf : Int) := by omega
  have l8 : (lf : Int) < 8 := by omega
  have hn' := HL.out
  clear hn
  go_enter Tryd.func43, Tryd.ntmps43
  go_upto_region 1 with fail
  try rw [HW.out.1]
  go_upto_region 4 with fail
  go_wp2_with (at_builtin; (try rw [HW.out.2]); go_loud (refine wpList_append_lies _ rfl _ _ 74 rfl B 104 i0 _ 10 10 Tryd.underlying74 hi0 hz0 hz1 hz2 rfl (by decide) (.slice oa n oc) n (flK ls) rfl OW.out ⟨w1.heap.size, 0, none⟩ 1 1 (flK [l]) rfl (by rw [flK_length]; rfl) NB.out (one_flK _) (by omega) (by unfold maxLen; omega) (by omega) (Nat.le_trans BL.out S2.out) w2.heap.size rfl ?_; intro g5 cap5 w5 hown hgr hat hlt; go_frame))
  go_ret
  exact ⟨some ⟨g5, 0, none⟩, cap5, by rw [HL.out]; rfl, hide' (by rw [flK_append, HL.out]; exact hown), hide' (by rw [HL.out]; exact GB.out w5 g5 cap5 hgr hat)⟩
end Go.Proofs.YthmeapplnocfjaaDoor

