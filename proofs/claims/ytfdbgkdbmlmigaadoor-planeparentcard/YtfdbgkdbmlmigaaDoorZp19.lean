/-
  What the last text of this claim leans on, part 19: Pp9, Gs1, Gq2, Gq4, Gq6, Gr7, Gr8, Gt1, Gt2, Wc2, Gt3, Wf3, Wf4, Gt4, Gt5, Gt6, Gt7, Gt8.
-/
import Derived.Test.YtfdbgkdbmlmigaaDoorZp18
import Derived.Test.YtfdbgkdbmlmigaaDoorZp12
import Derived.Test.YtfdbgkdbmlmigaaDoorZp7
import Derived.Test.YtfdbgkdbmlmigaaDoorZp13
import Derived.Test.YtfdbgkdbmlmigaaDoorZp11
import Derived.Test.YtfdbgkdbmlmigaaDoorZp8
import Derived.Deep.AppendLies
import Derived.Deep.RegionHeld3
import Derived.BigQuiet
namespace Go.Proofs.YtfdbgkdbmlmigaaDoor
open Go.RowKit
set_option linter.unusedVariables false
/-- The first so many cells of rows. -/
def bitsL (W : Nat) (rs : List Nat) (N : Nat) : List Int := (List.range N).map fun i => (gR W rs i : Int)
theorem bitsL_next (W : Nat) (rs : List Nat) (N : Nat) : bitsL W rs (N + 1) = bitsL W rs N ++ [(gR W rs N : Int)] := by unfold bitsL; rw [List.range_succ, List.map_append]; rfl
/-- A pattern while its cells are written. -/
structure PaS (w V : World) (W2 H2 : Nat) (N : Nat) (cv : Value) (ys : List Int) : Prop where
  out : V.heap[w.heap.size + 1]? = some (.cells #[.int .i64 (W2 : Int), .int .i64 (H2 : Int), cv] 26 (0, 0))
  res : V.heap[w.heap.size]? = some (.cells #[.int .i64 0, .int .i64 0, .slice none 0 0] 26 (0, 0))
  row : V.ownsRow (w.heap.size + 2) 3 1 cv N (ys.map (Value.int .i64))
  bel : Below w.heap.size w V
  siz : w.heap.size + 2 ≤ V.heap.size
theorem PaS.mid {w V X V1 : World} {W2 H2 N : Nat} {cv : Value} {ys : List Int} {v : Int} (h : PaS w V W2 H2 N cv ys) (hX : X = V.alloc (.cells #[.int .i64 v] 3)) (hg : X.grownBy V1 cv.ownBlock) : V1.heap[w.heap.size + 1]? = some (.cells #[.int .i64 (W2 : Int), .int .i64 (H2 : Int), cv] 26 (0, 0)) := by
  subst hX
  exact (hg.block _ (by have := h.siz; simp; omega) (fun e => by have := (own_lt h.row _ e.symm).1; omega)).trans ((heap_alloc_old V _ (by have := h.siz; omega)).trans h.out)
theorem PaS.push {w V X V1 : World} {W2 H2 N : Nat} {cv cv1 : Value} {ys : List Int} {v : Int} (h : PaS w V W2 H2 N cv ys) (hX : X = V.alloc (.cells #[.int .i64 v] 3)) (hg : X.grownBy V1 cv.ownBlock) (ho : V1.ownsRow (w.heap.size + 2) 3 1 cv1 (N + 1) (ys.map (Value.int .i64) ++ [.int .i64 v])) :
    PaS w (V1.setCell ⟨w.heap.size + 1, 2, none⟩ cv1) W2 H2 (N + 1) cv1 (ys ++ [v]) := by
  have s1 := h.mid hX hg
  subst hX
  have k1 : ∀ j, j < w.heap.size + 2 → V1.heap[j]? = V.heap[j]? := fun j hj => (hg.block j (by have := h.siz; simp; omega) (fun e => by have := (own_lt h.row j e.symm).1; omega)).trans (heap_alloc_old V _ (by have := h.siz; omega))
  have oth : ∀ j, j ≠ w.heap.size + 1 → (V1.setCell ⟨w.heap.size + 1, 2, none⟩ cv1).heap[j]? = V1.heap[j]? := fun j hj => Below.heap_setCell _ _ _ _ (by simpa using hj)
  have sz : V.heap.size + 1 ≤ V1.heap.size := by have := hg.size; simpa using this
  refine ⟨?_, ?_, ?_, ?_, ?_⟩
  · rw [heap_setCell_same _ _ _ _ _ _ s1]; rfl
  · rw [oth _ (by omega), k1 _ (by omega)]; exact h.res
  · rw [List.map_append]
    exact own_keep ho (fun b e => oth b (fun q => by have := (own_lt ho b e).1; omega))
  · exact ((h.bel.alloc (by have := h.siz; omega) _).grown hg (by have := h.siz; simp; omega) (fun j e => by have := (own_lt h.row j e).1; omega)).setCell (by simp) _
  · show w.heap.size + 2 ≤ (V1.setCell _ _).heap.size
    have := h.siz
    simp; omega
theorem PaS.drew {w V : World} {W2 H2 N : Nat} {cv : Value} {ys : List Int} (h : PaS w V W2 H2 N cv ys) : PaS w V.drew W2 H2 N cv ys := ⟨h.out, h.res, h.row, h.bel.drew, h.siz⟩
set_option maxRecDepth 100000 in
set_option maxHeartbeats 12800000 in
theorem parent_any (k st ra : Int) (born stay : Nat) (ta : Option Addr) (tn tc : Nat) (s : ByteArray) (W2 H2 : Nat) (wv mv : Value) (sb : Nat) (rs : List Nat) (a : Option Addr) (m q : Nat) (w : World) (hS : w.heap[sb]? = some (.cells (seV k st ra born stay ta tn tc s W2 H2 wv (.slice a m q) mv) 60 (0, 0))) (hR : RowL w rs a) (hm : m = rs.length) (m7 : m ≤ 7) (w1 : 1 ≤ W2) (w7 : W2 ≤ 7) (hs : ∀ v ∈ rs, v < 128) :
    Calls Tryd.prog 15 #[.pointer (some ⟨sb, 0, none⟩)] w fun e w' => ∃ ca cq, e = .returned (.agg #[.int .i64 (W2 : Int), .int .i64 (H2 : Int), .slice ca (m * W2) cq]) ∧ w'.ownsRow (w.heap.size + 2) 3 1 (.slice ca (m * W2) cq) (m * W2) ((bitsL W2 rs (m * W2)).map (Value.int .i64)) ∧ Below w.heap.size w w' := by
  have HS := hide' (fun (V : World) (hb : Below w.heap.size w V) => (hb.block sb (lt_of_block hS)).trans hS)
  have HR := hide' (fun (V : World) (hb : Below w.heap.size w V) (k : Nat) (hk : k < rs.length) => show ∃ g, a = some ⟨g, 0, none⟩ ∧ V.cell? ⟨g, k, none⟩ = some (.int .i64 (rs.getD k 0 : Int)) from by
    obtain ⟨g, e, h⟩ := hR k hk
    have hg : g < w.heap.size := by
      rcases Nat.lt_or_ge g w.heap.size with z | z
      · exact z
      · simp [World.cell?, Array.getElem?_eq_none z] at h
    exact ⟨g, e, by rw [← h]; exact World.cell?_of_block (hb.block g hg)⟩)
  have SC := hide' (fun (V : World) (hb : Below w.heap.size w V) => show V.cell? ⟨sb, 7, none⟩ = some (.int .i64 (W2 : Int)) ∧ V.cell? ⟨sb, 8, none⟩ = some (.int .i64 (H2 : Int)) ∧ V.cell? ⟨sb, 10, none⟩ = some (.slice a m q) from ⟨cell_of_row V _ 7 _ _ _ (HS.out V hb), cell_of_row V _ 8 _ _ _ (HS.out V hb), cell_of_row V _ 10 _ _ _ (HS.out V hb)⟩)
  have HM := hide' hm
  have HSM := hide' hs
  obtain ⟨u1, hu1⟩ : ∃ u1, w.alloc (.cells #[.int .i64 0, .int .i64 0, .slice none 0 0] 26) = u1 := ⟨_, rfl⟩
  have B1 := hide' (show Below w.heap.size w u1 by rw [← hu1]; exact (Below.refl _ _).alloc (Nat.le_refl _) _)
  have S1 := hide' (show u1.heap.size = w.heap.size + 1 by rw [← hu1]; simp)
  have R1 := hide' (show u1.heap[w.heap.size]? = some (.cells #[.int .i64 0, .int .i64 0, .slice none 0 0] 26 (0, 0)) by rw [← hu1]; exact heap_alloc_new _ _)
  obtain ⟨u2, hu2⟩ : ∃ u2, (u1.alloc (.cells #[.int .i64 (W2 : Int), .int .i64 (H2 : Int), .slice none 0 0] 26)).drew = u2 := ⟨_, rfl⟩
  have P2 := hide' (show PaS w u2 W2 H2 0 (.slice none 0 0) [] from by
    rw [← hu2]
    refine ⟨?_, ?_, World.ownsRow_nil _ _ _ _, (B1.out.alloc B1.out.size _).drew, by simp [S1.out]⟩
    · show (u1.alloc _).heap[w.heap.size + 1]? = _
      rw [← S1.out]; exact heap_alloc_new _ _
    · exact (heap_alloc_old u1 _ (lt_of_block R1.out)).trans R1.out)
  have HU1 := hide' hu1
  have HU2 := hide' hu2
  obtain ⟨it, hit, hz⟩ := Option.map_eq_some_iff.1 info_intP
  simp only [Prod.mk.injEq] at hz
  obtain ⟨hz0, hz1, hz2⟩ := hz
  clear hS hR hm hs hu1 hu2
  go_enter Tryd.func15, Tryd.ntmps15
  go_upto_region 1 with fail
  rw [HU1.out]
  obtain ⟨c7, c8, -⟩ := SC.out u1 B1.out
  go_region_held3 (fun V => V.cell? ⟨sb, 7, none⟩ = some (.int .i64 (W2 : Int)) ∧ V.cell? ⟨sb, 8, none⟩ = some (.int .i64 (H2 : Int))) (first | exact ⟨c7, c8⟩ | go_keep) (fail)
  rw [HU2.out, S1.out]
  obtain ⟨ob, hob⟩ : ∃ ob, w.heap.size + 1 = ob := ⟨_, rfl⟩
  have HOB := hide' hob
  rw [hob]
  clear hob c7 c8
  obtain ⟨-, -, c10⟩ := SC.out u2 P2.out.bel
  go_wp2
  go_loopw [21] (fun yv wr => ∃ (y : Nat) (cv : Value), yv = .int .i64 (y : Int) ∧ y ≤ m ∧ Hid (PaS w wr W2 H2 (y * W2) cv (bitsL W2 rs (y * W2)))) (fun yv _ => m - (intOf yv).toNat)
  case atStart => exact ⟨0, _, rfl, by omega, hide' (by rw [Nat.zero_mul]; exact P2.out)⟩
  case round =>
    obtain ⟨y, cv, rfl, hy, PA⟩ := hrel
    by_cases dy : (y : Int) < (m : Int)
    · obtain ⟨g, rfl, cy⟩ := HR.out wr PA.out.bel y (by have := HM.out; omega)
      obtain ⟨v, hv⟩ : ∃ v, rs.getD y 0 = v := ⟨_, rfl⟩
      rw [hv] at cy
      have v128 : v < 128 := by
        rw [← hv]
        have yl : y < rs.length := by have := HM.out; omega
        rw [show rs.getD y 0 = rs[y] by simp [List.getD, yl]]
        exact HSM.out _ (List.getElem_mem yl)
      have GV := hide' (fun t (ht : t < W2) => show gR W2 rs (y * W2 + t) = bitN v (W2 - 1 - t) by rw [gR_at _ ht, hv]; rfl)
      have y0 : (0 : Int) ≤ (y : Int) := by omega
      obtain ⟨s7, -, -⟩ := SC.out wr PA.out.bel
      clear hv
      go_wp2
      go_loopw [6] (fun xv wr => ∃ (t N : Nat) (xi : Int) (cv : Value), xv = .int .i64 xi ∧ xi + 1 + (t : Int) = (W2 : Int) ∧ t ≤ W2 ∧ N ≤ 49 ∧ Hid (y * W2 + t = N) ∧ Hid (PaS w wr W2 H2 N cv (bitsL W2 rs N))) (fun xv _ => (intOf xv + 1).toNat)
      case atStart => exact ⟨0, y * W2, _, cv, rfl, by omega, by omega, by
        have := Nat.mul_le_mul (show y ≤ 7 by omega) w7; omega, hide' rfl, PA⟩
      case round =>
        obtain ⟨t, N, xi, cv, rfl, hx, ht, hN, TN, PB⟩ := hrel
        by_cases dx : (0 : Int) ≤ xi
        · obtain ⟨X, rfl⟩ : ∃ X : Nat, xi = (X : Int) := ⟨xi.toNat, by omega⟩
          obtain ⟨z, q1, -, q2⟩ := shr_bit (v := v) (x := X) v128
          obtain ⟨b, hb⟩ : ∃ b, bitN v X = b := ⟨_, rfl⟩
          have GB := hide' (show gR W2 rs N = b by rw [← TN.out, GV.out t (by omega), show W2 - 1 - t = X by omega, hb])
          rw [hb] at q2
          obtain ⟨ca, cq, rfl⟩ := own_sl PB.out.row
          have OW := hide' (fun (Y : World) (hY : Y.heap = (wr.alloc (.cells #[.int .i64 (b : Int)] 3)).heap) => show Y.ownsRow (w.heap.size + 2) 3 1 (.slice ca N cq) N ((bitsL W2 rs N).map (Value.int .i64)) from own_keep (PB.out.row.alloc (.cells #[.int .i64 (b : Int)] 3)) (fun j _ => by rw [hY]))
          have o2 := cell_of_row wr _ 2 _ _ _ PB.out.out
          simp at o2
          rw [HOB.out] at o2
          have sz := PB.out.siz
          have oA : ∀ o, (wr.alloc o).cell? ⟨ob, 2, none⟩ = some (.slice ca N cq) := fun o => (World.cell?_of_block (a := ⟨ob, 2, none⟩) (heap_alloc_old wr o (by have := HOB.out; show ob < _; omega))).trans o2
          have NB := hide' (fun (Y : World) (hY : Y.heap = (wr.alloc (.cells #[.int .i64 (b : Int)] 3)).heap) => show ∀ j u, [Value.int .i64 (b : Int)][j]? = some u → Y.cell? ((⟨wr.heap.size, 0, none⟩ : Addr).add j) = some u from World.news_of_block (cs := #[.int .i64 (b : Int)]) (t := 3) (fr := (0, 0)) (by rw [hY]; exact heap_alloc_new wr _))
          have MID := hide' (fun (w8 : World) (hg : (wr.alloc (.cells #[.int .i64 (b : Int)] 3)).drew.grownBy w8 (Value.slice ca N cq).ownBlock) => PB.out.drew.mid (v := (b : Int)) rfl hg)
          have PSH := hide' (fun (w8 : World) (r8 : Value) (hg : (wr.alloc (.cells #[.int .i64 (b : Int)] 3)).drew.grownBy w8 (Value.slice ca N cq).ownBlock) (ho : w8.ownsRow (w.heap.size + 2) 3 1 r8 (N + 1) ((bitsL W2 rs N).map (Value.int .i64) ++ [.int .i64 (b : Int)])) => PB.out.drew.push (v := (b : Int)) rfl hg ho)
          rw [HOB.out] at MID PSH
          have GN := hide' (show bitsL W2 rs (N + 1) = bitsL W2 rs N ++ [(b : Int)] by rw [bitsL_next, GB.out])
          have N49 : N + 1 ≤ 49 := by
            have h1 := TN.out
            have := Nat.mul_le_mul (show y + 1 ≤ 7 by omega) w7
            rw [Nat.add_mul, Nat.one_mul] at this
            omega
          clear hb
          go_wp2
          go_region_law (first | (refine step_append_lies _ (by rfl) _ _ _ (by rfl) (w.heap.size + 2) 3 it _ 1 8 Tryd.underlying22 hit hz0 hz1 hz2 rfl (by omega) (.slice ca N cq) _ _ (by rfl) (OW.out _ rfl) ⟨wr.heap.size, 0, none⟩ 1 1 [.int .i64 (b : Int)] (by rfl) (by rfl) (NB.out _ rfl) (by simp [Value.oneCell']) (by omega) (by unfold maxLen; omega) (by omega) (by simp; omega) (wr.heap.size + 1) (by simp) ?_; intro gg cap w8 hown1 hgrow hat hlt; have x5 := cell_of_row w8 _ 2 _ _ _ (MID.out w8 hgrow); have x6 := frozen_of_row w8 _ 2 _ _ (MID.out w8 hgrow); simp at x5) | (go_simp; go_wp2))
          all_goals (
            go_wp2
            exact ⟨⟨t + 1, N + 1, _, _, by go_num, by omega, by omega, N49, hide' (by have := TN.out; omega), hide' (by rw [GN.out]; exact PSH.out w8 _ hgrow hown1)⟩, by simp [intOf]⟩)
        · have PN := hide' (show PaS w wr W2 H2 ((y + 1) * W2) cv (bitsL W2 rs ((y + 1) * W2)) from by
            have e : (y + 1) * W2 = N := by rw [Nat.add_mul, Nat.one_mul, ← TN.out]; omega
            rw [e]; exact PB.out)
          go_wp2
          exact ⟨⟨y + 1, cv, by go_num, by omega, PN⟩, by simp [intOf]; omega⟩
    · obtain rfl : y = m := by omega
      obtain ⟨ca, cq, rfl⟩ := own_sl PA.out.row
      have o0 := cell_of_row wr _ 0 _ _ _ PA.out.out
      have o1 := cell_of_row wr _ 1 _ _ _ PA.out.out
      have o2 := cell_of_row wr _ 2 _ _ _ PA.out.out
      simp at o0 o1 o2
      rw [HOB.out] at o0 o1 o2
      have i0 := cell_of_row wr _ 0 _ _ _ PA.out.res
      have i1 := cell_of_row wr _ 1 _ _ _ PA.out.res
      have i2 := cell_of_row wr _ 2 _ _ _ PA.out.res
      simp at i0 i1 i2
      have j0 := frozen_of_row wr _ 0 _ _ PA.out.res
      have j1 := frozen_of_row wr _ 1 _ _ PA.out.res
      have j2 := frozen_of_row wr _ 2 _ _ PA.out.res
      have OUT := hide' (fun (V : World) (hV : ∀ j, j ≠ w.heap.size → V.heap[j]? = wr.heap[j]?) => show V.ownsRow (w.heap.size + 2) 3 1 (.slice ca (y * W2) cq) (y * W2) ((bitsL W2 rs (y * W2)).map (Value.int .i64)) from own_keep PA.out.row (fun b e => hV b (fun q => by have := (own_lt PA.out.row b e).1; omega)))
      go_wp2
      refine bodyPost_ret (v := .agg #[.int .i64 (W2 : Int), .int .i64 (H2 : Int), .slice ca (y * W2) cq]) (by simp [results, Tryd.results15, go_sem, i0, i1, i2]) rfl ?_
      refine ⟨ca, cq, rfl, OUT.out _ (fun j hj => ?_), ?_⟩
      · rw [Below.heap_setCell _ _ _ _ (by simpa using hj), Below.heap_setCell _ _ _ _ (by simpa using hj), Below.heap_setCell _ _ _ _ (by simpa using hj)]
      · repeat (first | exact PA.out.bel | refine Below.setCell ?_ (by simp) _)
end Go.Proofs.YtfdbgkdbmlmigaaDoor

namespace Go.Proofs.YtfdbgkdbmlmigaaDoor
open Go.RowKit
set_option linter.unusedVariables false
end Go.Proofs.YtfdbgkdbmlmigaaDoor

namespace Go.Proofs.YtfdbgkdbmlmigaaDoor
open Go.RowKit
set_option linter.unusedVariables false

end Go.Proofs.YtfdbgkdbmlmigaaDoor

namespace Go.Proofs.YtfdbgkdbmlmigaaDoor
open Go.RowKit
set_option linter.unusedVariables false

end Go.Proofs.YtfdbgkdbmlmigaaDoor

namespace Go.Proofs.YtfdbgkdbmlmigaaDoor
open Go.RowKit
set_option linter.unusedVariables false

end Go.Proofs.YtfdbgkdbmlmigaaDoor

namespace Go.Proofs.YtfdbgkdbmlmigaaDoor
open Go.RowKit
set_option linter.unusedVariables false
end Go.Proofs.YtfdbgkdbmlmigaaDoor

namespace Go.Proofs.YtfdbgkdbmlmigaaDoor
open Go.RowKit
set_option linter.unusedVariables false
end Go.Proofs.YtfdbgkdbmlmigaaDoor

namespace Go.Proofs.YtfdbgkdbmlmigaaDoor
open Go.RowKit
set_option linter.unusedVariables false
/-- Does a cell of a pattern live? -/
def cellP (q : Pat) (y x : Nat) : Bool := decide (x < q.W) && decide (y < q.H) && decide (q.xs.getD (y * q.W + x) 0 = 1)
/-- The least box, told by what it has. -/
structure BoxP (P : Nat → Nat → Bool) (l t r b : Nat) : Prop where
  inn : ∀ y x, P y x = true → l ≤ x ∧ x < r ∧ t ≤ y ∧ y < b
  le : ∃ y x, P y x = true ∧ x = l
  ri : ∃ y x, P y x = true ∧ x + 1 = r
  up : ∃ y x, P y x = true ∧ y = t
  lo : ∃ y x, P y x = true ∧ y + 1 = b
theorem BoxP.same {P : Nat → Nat → Bool} {l t r b l' t' r' b' : Nat} (h : BoxP P l t r b) (k : BoxP P l' t' r' b') : l = l' ∧ t = t' ∧ r = r' ∧ b = b' := by
  obtain ⟨y1, x1, a1, e1⟩ := h.le
  obtain ⟨y2, x2, a2, e2⟩ := k.le
  obtain ⟨y3, x3, a3, e3⟩ := h.ri
  obtain ⟨y4, x4, a4, e4⟩ := k.ri
  obtain ⟨y5, x5, a5, e5⟩ := h.up
  obtain ⟨y6, x6, a6, e6⟩ := k.up
  obtain ⟨y7, x7, a7, e7⟩ := h.lo
  obtain ⟨y8, x8, a8, e8⟩ := k.lo
  have := h.inn _ _ a2
  have := h.inn _ _ a4
  have := h.inn _ _ a6
  have := h.inn _ _ a8
  have := k.inn _ _ a1
  have := k.inn _ _ a3
  have := k.inn _ _ a5
  have := k.inn _ _ a7
  omega
/-- A pattern's cell, two rows and columns moved. -/
def c2 (q : Pat) (y x : Nat) : Bool := decide (2 ≤ y) && decide (2 ≤ x) && cellP q (y - 2) (x - 2)
end Go.Proofs.YtfdbgkdbmlmigaaDoor

namespace Go.Proofs.YtfdbgkdbmlmigaaDoor
open Go.RowKit
set_option linter.unusedVariables false
end Go.Proofs.YtfdbgkdbmlmigaaDoor

namespace Go.Proofs.YtfdbgkdbmlmigaaDoor
open Go.RowKit
set_option linter.unusedVariables false

structure RT (w wr : World) (W H W' H' : Nat) (a : Option Addr) (n c : Nat) (v : Value) (ys : List Int) : Prop where
  box : TB w.heap.size (.int .i64 (W : Int)) (.int .i64 (H : Int)) (.slice a n c) wr
  res : TB (w.heap.size + 1) (.int .i64 0) (.int .i64 0) (.slice none 0 0) wr
  q : TB (w.heap.size + 2) (.int .i64 (W' : Int)) (.int .i64 (H' : Int)) v wr
  own : wr.ownsRow (w.heap.size + 3) 3 1 v ys.length (ys.map fun x => .int .i64 x)
  below : Below w.heap.size w wr
  sz : w.heap.size + 3 ≤ wr.heap.size
theorem RT.next {w wr w' : World} {W H W' H' : Nat} {a : Option Addr} {n c : Nat} {v : Value} {ys : List Int} (h : RT w wr W H W' H' a n c v ys) (hb : Below wr.heap.size wr w') : RT w w' W H W' H' a n c v ys := by
  have hz := h.sz
  exact ⟨h.box.next hb, h.res.next hb, h.q.next hb, ownsRow_from h.own fun k _ hk => hb.block k hk, h.below.trans (hb.mono (by omega)), by have := hb.size; omega⟩
theorem RT.grown {w wr w' : World} {W H W' H' : Nat} {a : Option Addr} {n c : Nat} {v : Value} {ys : List Int} (h : RT w wr W H W' H' a n c v ys) (x : Int) (hg : (wr.alloc (.cells #[.int .i64 x] 3)).grownBy w' v.ownBlock) : ∀ k, k < w.heap.size + 3 → w'.heap[k]? = wr.heap[k]? := fun k hk => by
  have hz := h.sz
  have hob := ownsRow_block h.own
  rw [hg.block k (by rw [World.size_alloc]; omega) (fun e => by have := hob k e.symm; omega)]
  exact Below.heap_alloc _ _ _ (by omega)
theorem RT.start (w : World) (W H W' H' : Nat) (a : Option Addr) (n c : Nat) (t1 t2 t3 : TypeId) : RT w (((w.alloc (.cells #[.int .i64 (W : Int), .int .i64 (H : Int), .slice a n c] t1)).alloc (.cells #[.int .i64 0, .int .i64 0, .slice none 0 0] t2)).alloc (.cells #[.int .i64 (W' : Int), .int .i64 (H' : Int), .slice none 0 0] t3)) W H W' H' a n c (.slice none 0 0) [] := by
  have r1 := TB.new (w.alloc (.cells #[.int .i64 (W : Int), .int .i64 (H : Int), .slice a n c] t1)) (.int .i64 0) (.int .i64 0) (.slice none 0 0) t2
  have r2 := TB.new ((w.alloc (.cells #[.int .i64 (W : Int), .int .i64 (H : Int), .slice a n c] t1)).alloc (.cells #[.int .i64 0, .int .i64 0, .slice none 0 0] t2)) (.int .i64 (W' : Int)) (.int .i64 (H' : Int)) (.slice none 0 0) t3
  rw [World.size_alloc] at r1 r2
  rw [World.size_alloc] at r2
  exact ⟨((TB.new w _ _ _ t1).alloc _).alloc _, r1.alloc _, r2, ⟨by simp, Or.inl ⟨rfl, by simp⟩⟩, (((Below.refl _ _).alloc (Nat.le_refl _) _).alloc (by simp) _).alloc (by simp; omega) _, by simp⟩
end Go.Proofs.YtfdbgkdbmlmigaaDoor

namespace Go.Proofs.YtfdbgkdbmlmigaaDoor
open Go.RowKit
set_option linter.unusedVariables false
end Go.Proofs.YtfdbgkdbmlmigaaDoor

namespace Go.Proofs.YtfdbgkdbmlmigaaDoor
open Go.RowKit
set_option linter.unusedVariables false

end Go.Proofs.YtfdbgkdbmlmigaaDoor

namespace Go.Proofs.YtfdbgkdbmlmigaaDoor
open Go.RowKit
set_option linter.unusedVariables false
end Go.Proofs.YtfdbgkdbmlmigaaDoor

namespace Go.Proofs.YtfdbgkdbmlmigaaDoor
open Go.RowKit
set_option linter.unusedVariables false
/-- What lies there while the next pattern is made. -/
structure NT (w w4 wr : World) (W2 H2 : Int) (v : Value) (ys : List Int) : Prop where
  keep : ∀ k, k < w.heap.size + 1 + 1 + 1 → wr.heap[k]? = w4.heap[k]?
  q : TB (w.heap.size + 1 + 1 + 1) (.int .i64 W2) (.int .i64 H2) v wr
  own : wr.ownsRow (w.heap.size + 1 + 1 + 1 + 1) 3 1 v ys.length (ys.map fun x => .int .i64 x)
  below : Below w.heap.size w wr
  sz : w.heap.size + 1 + 1 + 1 + 1 ≤ wr.heap.size
theorem NT.grown {w w4 wr w' : World} {W2 H2 : Int} {v : Value} {ys : List Int} (h : NT w w4 wr W2 H2 v ys) (x : Int) (hg : (wr.alloc (.cells #[.int .i64 x] 3)).grownBy w' v.ownBlock) : ∀ k, k < w.heap.size + 1 + 1 + 1 + 1 → w'.heap[k]? = wr.heap[k]? := fun k hk => by
  have hz := h.sz
  have hob := ownsRow_block h.own
  rw [hg.block k (by rw [World.size_alloc]; omega) (fun e => by have := hob k e.symm; omega)]
  exact Below.heap_alloc _ _ _ (by omega)
end Go.Proofs.YtfdbgkdbmlmigaaDoor

namespace Go.Proofs.YtfdbgkdbmlmigaaDoor
open Go.RowKit
set_option linter.unusedVariables false
end Go.Proofs.YtfdbgkdbmlmigaaDoor

namespace Go.Proofs.YtfdbgkdbmlmigaaDoor
open Go.RowKit
set_option linter.unusedVariables false
end Go.Proofs.YtfdbgkdbmlmigaaDoor

namespace Go.Proofs.YtfdbgkdbmlmigaaDoor
open Go.RowKit
set_option linter.unusedVariables false
theorem pla_good {o : Out} {W H : Int} {xs : List Int} (h : plaE o W H xs 0) : ∃ b s : Nat, o.born = (b : Int) ∧ o.stay = (s : Int) ∧ b ≤ 511 ∧ s ≤ 511 ∧ o.kind = 1 ∧ shapeF W H xs = 0 := by
  rcases h with ⟨_, h⟩ | ⟨_, h1, h2⟩ | ⟨_, _, _, h⟩ | ⟨hg, hs, hk, _⟩
  · omega
  · exact absurd h2.symm h1
  · omega
  · rcases hg with ⟨_, h1, h2, _⟩ | ⟨h, _⟩ | ⟨h, _⟩
    · unfold bitsB at h1 h2
      simp at h1 h2
      exact ⟨o.born.toNat, o.stay.toNat, by omega, by omega, by omega, by omega, hk, hs⟩
    · omega
    · omega
end Go.Proofs.YtfdbgkdbmlmigaaDoor

namespace Go.Proofs.YtfdbgkdbmlmigaaDoor
open Go.RowKit
set_option linter.unusedVariables false
theorem shape_sides {W H : Int} {xs : List Int} (h : shapeF W H xs = 0) : ∃ Wn Hn : Nat, W = (Wn : Int) ∧ H = (Hn : Int) ∧ Wn ≤ 100 ∧ Hn ≤ 100 ∧ xs.length = Wn * Hn ∧ ∀ k, 0 ≤ xs.getD k 0 ∧ xs.getD k 0 ≤ 1 := by
  unfold shapeF at h
  split at h
  · rename_i hs
    split at h
    · rename_i hl
      split at h
      · rename_i ha
        simp only [Bool.and_eq_true] at hs
        unfold sideB at hs
        simp at hs
        refine ⟨W.toNat, H.toNat, by omega, by omega, by omega, by omega, ?_, fun k => ?_⟩
        · have e : ((W.toNat * H.toNat : Nat) : Int) = W * H := by rw [Int.natCast_mul, Int.toNat_of_nonneg (by omega), Int.toNat_of_nonneg (by omega)]
          omega
        · by_cases q : k < xs.length
          · have := List.all_eq_true.1 ha xs[k] (List.getElem_mem q)
            have e : xs.getD k 0 = xs[k] := by simp [List.getD, q]
            rw [e]
            unfold cellB at this
            simp at this
            omega
          · have e : xs.getD k 0 = 0 := by simp [List.getD, q]
            rw [e]; omega
      · omega
    · omega
  · omega
end Go.Proofs.YtfdbgkdbmlmigaaDoor

