/-
  What the last text of this claim leans on, part 28: Pp9, Gp0, Wa2.
-/
import Derived.Test.YtlpdobfjgpedaaaDoorZe27
import Derived.Test.YtlpdobfjgpedaaaDoorZe6
import Derived.Test.YtlpdobfjgpedaaaDoorZe10
import Derived.Deep.AppendLies
namespace Go.Proofs.YtlpdobfjgpedaaaDoor
open Go.RowKit
set_option linter.unusedVariables false
/-- The first so many cells of rows. -/
def bitsL (W : Nat) (rs : List Nat) (N : Nat) : List Int := (List.range N).map fun i => (gR W rs i : Int)
theorem bitsL_next (W : Nat) (rs : List Nat) (N : Nat) : bitsL W rs (N + 1) = bitsL W rs N ++ [(gR W rs N : Int)] := by unfold bitsL; rw [List.range_succ, List.map_append]; rfl
theorem bitsL_len (W : Nat) (rs : List Nat) (N : Nat) : (bitsL W rs N).length = N := by unfold bitsL; simp
/-- A pattern while its cells are written. -/
structure PaS (w V : World) (W2 H2 : Nat) (N : Nat) (cv : Value) (ys : List Int) : Prop where
  out : V.heap[w.heap.size + 1]? = some (.cells #[.int .i64 (W2 : Int), .int .i64 (H2 : Int), cv] 26 (0, 0))
  res : V.heap[w.heap.size]? = some (.cells #[.int .i64 0, .int .i64 0, .slice none 0 0] 26 (0, 0))
  row : V.ownsRow (w.heap.size + 2) 3 1 cv N (ys.map (Value.int .i64))
  bel : Below w.heap.size w V
  siz : w.heap.size + 2 ≤ V.heap.size
theorem PaS.mid {w V X V1 : World} {W2 H2 N : Nat} {cv : Value} {ys : List Int} {v : Int} (h : PaS w V W2 H2 N cv ys) (hX : X = V.alloc (.cells #[.int .i64 v] 3)) (hg : X.grownBy V1 cv.ownBlock) : V1.heap[w.heap.size + 1]? = some (.cells #[.int .i64 (W2 : Int), .int .i64 (H2 : Int), cv] 26 (0, 0)) := by
  subst hX
  exact (hg.block _ (by have := h.siz; simp; omega) (fun e => by have := (own_lt h.row _ e.symm).1; omega)).trans ((heap_alloc_old V _ (by have := h.siz; omega)).trans h.out)
theorem PaS.push {w V X V1 : World} {W2 H2 N : Nat} {cv cv1 : Value} {ys : List Int} {v : Int} (h : PaS w V W2 H2 N cv ys) (hX : X = V.alloc (.cells #[.int .i64 v] 3)) (hg : X.grownBy V1 cv.ownBlock) (ho : V1.ownsRow (w.heap.size + 2) 3 1 cv1 (N + 1) (ys.map (Value.int .i64) ++ [.int .i64 v])) :
    PaS w (V1.setCell ⟨w.heap.size + 1, 2, none⟩ cv1) W2 H2 (N + 1) cv1 (ys ++ [v]) := by
  have s1 := h.mid hX hg
  subst hX
  have k1 : ∀ j, j < w.heap.size + 2 → V1.heap[j]? = V.heap[j]? := fun j hj => (hg.block j (by have := h.siz; simp; omega) (fun e => by have := (own_lt h.row j e.symm).1; omega)).trans (heap_alloc_old V _ (by have := h.siz; omega))
  have oth : ∀ j, j ≠ w.heap.size + 1 → (V1.setCell ⟨w.heap.size + 1, 2, none⟩ cv1).heap[j]? = V1.heap[j]? := fun j hj => Below.heap_setCell _ _ _ _ (by simpa using hj)
  have sz : V.heap.size + 1 ≤ V1.heap.size := by have := hg.size; simpa using this
  refine ⟨?_, ?_, ?_, ?_, ?_⟩
  · rw [heap_setCell_same _ _ _ _ _ _ s1]; rfl
  · rw [oth _ (by omega), k1 _ (by omega)]; exact h.res
  · rw [List.map_append]
    exact own_keep ho (fun b e => oth b (fun q => by have := (own_lt ho b e).1; omega))
  · exact ((h.bel.alloc (by have := h.siz; omega) _).grown hg (by have := h.siz; simp; omega) (fun j e => by have := (own_lt h.row j e).1; omega)).setCell (by simp) _
  · show w.heap.size + 2 ≤ (V1.setCell _ _).heap.size
    have := h.siz
    simp; omega
theorem PaS.drew {w V : World} {W2 H2 N : Nat} {cv : Value} {ys : List Int} (h : PaS w V W2 H2 N cv ys) : PaS w V.drew W2 H2 N cv ys := ⟨h.out, h.res, h.row, h.bel.drew, h.siz⟩
set_option maxRecDepth 100000 in
set_option maxHeartbeats 12800000 in
theorem parent_any (k st ra : Int) (born stay : Nat) (ta : Option Addr) (tn tc : Nat) (s : ByteArray) (W2 H2 : Nat) (wv mv : Value) (sb : Nat) (rs : List Nat) (a : Option Addr) (m q : Nat) (w : World) (hS : w.heap[sb]? = some (.cells (seV k st ra born stay ta tn tc s W2 H2 wv (.slice a m q) mv) 98 (0, 0))) (hR : RowL w rs a) (hm : m = rs.length) (m7 : m ≤ 7) (w1 : 1 ≤ W2) (w7 : W2 ≤ 7) (hs : ∀ v ∈ rs, v < 128) :
    Calls Tryd.prog 24 #[.pointer (some ⟨sb, 0, none⟩)] w fun e w' => ∃ ca cq, e = .returned (.agg #[.int .i64 (W2 : Int), .int .i64 (H2 : Int), .slice ca (m * W2) cq]) ∧ w'.ownsRow (w.heap.size + 2) 3 1 (.slice ca (m * W2) cq) (m * W2) ((bitsL W2 rs (m * W2)).map (Value.int .i64)) ∧ Below w.heap.size w w' := by
  have HS := hide' (fun (V : World) (hb : Below w.heap.size w V) => (hb.block sb (lt_of_block hS)).trans hS)
  have HR := hide' (fun (V : World) (hb : Below w.heap.size w V) (k : Nat) (hk : k < rs.length) => show ∃ g, a = some ⟨g, 0, none⟩ ∧ V.cell? ⟨g, k, none⟩ = some (.int .i64 (rs.getD k 0 : Int)) from by
    obtain ⟨g, e, h⟩ := hR k hk
    have hg : g < w.heap.size := by
      rcases Nat.lt_or_ge g w.heap.size with z | z
      · exact z
      · simp [World.cell?, Array.getElem?_eq_none z] at h
    exact ⟨g, e, by rw [← h]; exact World.cell?_of_block (hb.block g hg)⟩)
  have SC := hide' (fun (V : World) (hb : Below w.heap.size w V) => show V.cell? ⟨sb, 7, none⟩ = some (.int .i64 (W2 : Int)) ∧ V.cell? ⟨sb, 8, none⟩ = some (.int .i64 (H2 : Int)) ∧ V.cell? ⟨sb, 10, none⟩ = some (.slice a m q) from ⟨cell_of_row V _ 7 _ _ _ (HS.out V hb), cell_of_row V _ 8 _ _ _ (HS.out V hb), cell_of_row V _ 10 _ _ _ (HS.out V hb)⟩)
  have HM := hide' hm
  have HSM := hide' hs
  obtain ⟨u1, hu1⟩ : ∃ u1, w.alloc (.cells #[.int .i64 0, .int .i64 0, .slice none 0 0] 26) = u1 := ⟨_, rfl⟩
  have B1 := hide' (show Below w.heap.size w u1 by rw [← hu1]; exact (Below.refl _ _).alloc (Nat.le_refl _) _)
  have S1 := hide' (show u1.heap.size = w.heap.size + 1 by rw [← hu1]; simp)
  have R1 := hide' (show u1.heap[w.heap.size]? = some (.cells #[.int .i64 0, .int .i64 0, .slice none 0 0] 26 (0, 0)) by rw [← hu1]; exact heap_alloc_new _ _)
  obtain ⟨u2, hu2⟩ : ∃ u2, (u1.alloc (.cells #[.int .i64 (W2 : Int), .int .i64 (H2 : Int), .slice none 0 0] 26)).drew = u2 := ⟨_, rfl⟩
  have P2 := hide' (show PaS w u2 W2 H2 0 (.slice none 0 0) [] from by
    rw [← hu2]
    refine ⟨?_, ?_, World.ownsRow_nil _ _ _ _, (B1.out.alloc B1.out.size _).drew, by simp [S1.out]⟩
    · show (u1.alloc _).heap[w.heap.size + 1]? = _
      rw [← S1.out]; exact heap_alloc_new _ _
    · exact (heap_alloc_old u1 _ (lt_of_block R1.out)).trans R1.out)
  have HU1 := hide' hu1
  have HU2 := hide' hu2
  obtain ⟨it, hit, hz⟩ := Option.map_eq_some_iff.1 info_intP
  simp only [Prod.mk.injEq] at hz
  obtain ⟨hz0, hz1, hz2⟩ := hz
  clear hS hR hm hs hu1 hu2
  go_enter Tryd.func24, Tryd.ntmps24
  go_upto_region 1 with fail
  rw [HU1.out]
  obtain ⟨c7, c8, -⟩ := SC.out u1 B1.out
  go_region_held3 (fun V => V.cell? ⟨sb, 7, none⟩ = some (.int .i64 (W2 : Int)) ∧ V.cell? ⟨sb, 8, none⟩ = some (.int .i64 (H2 : Int))) (first | exact ⟨c7, c8⟩ | go_keep) (fail)
  rw [HU2.out, S1.out]
  obtain ⟨ob, hob⟩ : ∃ ob, w.heap.size + 1 = ob := ⟨_, rfl⟩
  have HOB := hide' hob
  rw [hob]
  clear hob c7 c8
  obtain ⟨-, -, c10⟩ := SC.out u2 P2.out.bel
  go_wp2
  go_loopw [21] (fun yv wr => ∃ (y : Nat) (cv : Value), yv = .int .i64 (y : Int) ∧ y ≤ m ∧ Hid (PaS w wr W2 H2 (y * W2) cv (bitsL W2 rs (y * W2)))) (fun yv _ => m - (intOf yv).toNat)
  case atStart => exact ⟨0, _, rfl, by omega, hide' (by rw [Nat.zero_mul]; exact P2.out)⟩
  case round =>
    obtain ⟨y, cv, rfl, hy, PA⟩ := hrel
    by_cases dy : (y : Int) < (m : Int)
    · obtain ⟨g, rfl, cy⟩ := HR.out wr PA.out.bel y (by have := HM.out; omega)
      obtain ⟨v, hv⟩ : ∃ v, rs.getD y 0 = v := ⟨_, rfl⟩
      rw [hv] at cy
      have v128 : v < 128 := by
        rw [← hv]
        have yl : y < rs.length := by have := HM.out; omega
        rw [show rs.getD y 0 = rs[y] by simp [List.getD, yl]]
        exact HSM.out _ (List.getElem_mem yl)
      have GV := hide' (fun t (ht : t < W2) => show gR W2 rs (y * W2 + t) = bitN v (W2 - 1 - t) by rw [gR_at _ ht, hv]; rfl)
      have y0 : (0 : Int) ≤ (y : Int) := by omega
      obtain ⟨s7, -, -⟩ := SC.out wr PA.out.bel
      clear hv
      go_wp2
      go_loopw [6] (fun xv wr => ∃ (t N : Nat) (xi : Int) (cv : Value), xv = .int .i64 xi ∧ xi + 1 + (t : Int) = (W2 : Int) ∧ t ≤ W2 ∧ N ≤ 49 ∧ Hid (y * W2 + t = N) ∧ Hid (PaS w wr W2 H2 N cv (bitsL W2 rs N))) (fun xv _ => (intOf xv + 1).toNat)
      case atStart => exact ⟨0, y * W2, _, cv, rfl, by omega, by omega, by
        have := Nat.mul_le_mul (show y ≤ 7 by omega) w7; omega, hide' rfl, PA⟩
      case round =>
        obtain ⟨t, N, xi, cv, rfl, hx, ht, hN, TN, PB⟩ := hrel
        by_cases dx : (0 : Int) ≤ xi
        · obtain ⟨X, rfl⟩ : ∃ X : Nat, xi = (X : Int) := ⟨xi.toNat, by omega⟩
          obtain ⟨z, q1, -, q2⟩ := shr_bit (v := v) (x := X) v128
          obtain ⟨b, hb⟩ : ∃ b, bitN v X = b := ⟨_, rfl⟩
          have GB := hide' (show gR W2 rs N = b by rw [← TN.out, GV.out t (by omega), show W2 - 1 - t = X by omega, hb])
          rw [hb] at q2
          obtain ⟨ca, cq, rfl⟩ := own_sl PB.out.row
          have OW := hide' (fun (Y : World) (hY : Y.heap = (wr.alloc (.cells #[.int .i64 (b : Int)] 3)).heap) => show Y.ownsRow (w.heap.size + 2) 3 1 (.slice ca N cq) N ((bitsL W2 rs N).map (Value.int .i64)) from own_keep (PB.out.row.alloc (.cells #[.int .i64 (b : Int)] 3)) (fun j _ => by rw [hY]))
          have o2 := cell_of_row wr _ 2 _ _ _ PB.out.out
          simp at o2
          rw [HOB.out] at o2
          have sz := PB.out.siz
          have oA : ∀ o, (wr.alloc o).cell? ⟨ob, 2, none⟩ = some (.slice ca N cq) := fun o => (World.cell?_of_block (a := ⟨ob, 2, none⟩) (heap_alloc_old wr o (by have := HOB.out; show ob < _; omega))).trans o2
          have NB := hide' (fun (Y : World) (hY : Y.heap = (wr.alloc (.cells #[.int .i64 (b : Int)] 3)).heap) => show ∀ j u, [Value.int .i64 (b : Int)][j]? = some u → Y.cell? ((⟨wr.heap.size, 0, none⟩ : Addr).add j) = some u from World.news_of_block (cs := #[.int .i64 (b : Int)]) (t := 3) (fr := (0, 0)) (by rw [hY]; exact heap_alloc_new wr _))
          have MID := hide' (fun (w8 : World) (hg : (wr.alloc (.cells #[.int .i64 (b : Int)] 3)).drew.grownBy w8 (Value.slice ca N cq).ownBlock) => PB.out.drew.mid (v := (b : Int)) rfl hg)
          have PSH := hide' (fun (w8 : World) (r8 : Value) (hg : (wr.alloc (.cells #[.int .i64 (b : Int)] 3)).drew.grownBy w8 (Value.slice ca N cq).ownBlock) (ho : w8.ownsRow (w.heap.size + 2) 3 1 r8 (N + 1) ((bitsL W2 rs N).map (Value.int .i64) ++ [.int .i64 (b : Int)])) => PB.out.drew.push (v := (b : Int)) rfl hg ho)
          rw [HOB.out] at MID PSH
          have GN := hide' (show bitsL W2 rs (N + 1) = bitsL W2 rs N ++ [(b : Int)] by rw [bitsL_next, GB.out])
          have N49 : N + 1 ≤ 49 := by
            have h1 := TN.out
            have := Nat.mul_le_mul (show y + 1 ≤ 7 by omega) w7
            rw [Nat.add_mul, Nat.one_mul] at this
            omega
          clear hb
          go_wp2
          go_region_law (first | (refine step_append_lies _ (by rfl) _ _ _ (by rfl) (w.heap.size + 2) 3 it _ 1 8 Tryd.underlying22 hit hz0 hz1 hz2 rfl (by omega) (.slice ca N cq) _ _ (by rfl) (OW.out _ rfl) ⟨wr.heap.size, 0, none⟩ 1 1 [.int .i64 (b : Int)] (by rfl) (by rfl) (NB.out _ rfl) (by simp [Value.oneCell']) (by omega) (by unfold maxLen; omega) (by omega) (by simp; omega) (wr.heap.size + 1) (by simp) ?_; intro gg cap w8 hown1 hgrow hat hlt; have x5 := cell_of_row w8 _ 2 _ _ _ (MID.out w8 hgrow); have x6 := frozen_of_row w8 _ 2 _ _ (MID.out w8 hgrow); simp at x5) | (go_simp; go_wp2))
          all_goals (
            go_wp2
            exact ⟨⟨t + 1, N + 1, _, _, by go_num, by omega, by omega, N49, hide' (by have := TN.out; omega), hide' (by rw [GN.out]; exact PSH.out w8 _ hgrow hown1)⟩, by simp [intOf]⟩)
        · have PN := hide' (show PaS w wr W2 H2 ((y + 1) * W2) cv (bitsL W2 rs ((y + 1) * W2)) from by
            have e : (y + 1) * W2 = N := by rw [Nat.add_mul, Nat.one_mul, ← TN.out]; omega
            rw [e]; exact PB.out)
          go_wp2
          exact ⟨⟨y + 1, cv, by go_num, by omega, PN⟩, by simp [intOf]; omega⟩
    · obtain rfl : y = m := by omega
      obtain ⟨ca, cq, rfl⟩ := own_sl PA.out.row
      have o0 := cell_of_row wr _ 0 _ _ _ PA.out.out
      have o1 := cell_of_row wr _ 1 _ _ _ PA.out.out
      have o2 := cell_of_row wr _ 2 _ _ _ PA.out.out
      simp at o0 o1 o2
      rw [HOB.out] at o0 o1 o2
      have i0 := cell_of_row wr _ 0 _ _ _ PA.out.res
      have i1 := cell_of_row wr _ 1 _ _ _ PA.out.res
      have i2 := cell_of_row wr _ 2 _ _ _ PA.out.res
      simp at i0 i1 i2
      have j0 := frozen_of_row wr _ 0 _ _ PA.out.res
      have j1 := frozen_of_row wr _ 1 _ _ PA.out.res
      have j2 := frozen_of_row wr _ 2 _ _ PA.out.res
      have OUT := hide' (fun (V : World) (hV : ∀ j, j ≠ w.heap.size → V.heap[j]? = wr.heap[j]?) => show V.ownsRow (w.heap.size + 2) 3 1 (.slice ca (y * W2) cq) (y * W2) ((bitsL W2 rs (y * W2)).map (Value.int .i64)) from own_keep PA.out.row (fun b e => hV b (fun q => by have := (own_lt PA.out.row b e).1; omega)))
      go_wp2
      refine bodyPost_ret (v := .agg #[.int .i64 (W2 : Int), .int .i64 (H2 : Int), .slice ca (y * W2) cq]) (by simp [results, Tryd.results24, go_sem, i0, i1, i2]) rfl ?_
      refine ⟨ca, cq, rfl, OUT.out _ (fun j hj => ?_), ?_⟩
      · rw [Below.heap_setCell _ _ _ _ (by simpa using hj), Below.heap_setCell _ _ _ _ (by simpa using hj), Below.heap_setCell _ _ _ _ (by simpa using hj)]
      · repeat (first | exact PA.out.bel | refine Below.setCell ?_ (by simp) _)
end Go.Proofs.YtlpdobfjgpedaaaDoor

namespace Go.Proofs.YtlpdobfjgpedaaaDoor
open Go.RowKit
set_option linter.unusedVariables false

structure RBp (p : Nat) (o : Out) (v : Value) (w : World) : Prop where
  c0 : w.cell? ⟨p, 0, none⟩ = some (.int .i64 o.kind)
  c1 : w.cell? ⟨p, 1, none⟩ = some (.int .i64 o.born)
  c2 : w.cell? ⟨p, 2, none⟩ = some (.int .i64 o.stay)
  c3 : w.cell? ⟨p, 3, none⟩ = some (.int .i64 o.states)
  c4 : w.cell? ⟨p, 4, none⟩ = some (.int .i64 o.radius)
  c5 : w.cell? ⟨p, 5, none⟩ = some v
  c6 : w.cell? ⟨p, 6, none⟩ = some (.string o.turns)
theorem RBp.lt {p : Nat} {o : Out} {v : Value} {w : World} (h : RBp p o v w) : p < w.heap.size := by
  rcases Nat.lt_or_ge p w.heap.size with k | k
  · exact k
  · have := h.c0; simp [World.cell?, Array.getElem?_eq_none k] at this
theorem RBp.block {p : Nat} {o : Out} {v : Value} {w w' : World} (h : RBp p o v w) (e : w'.heap[p]? = w.heap[p]?) : RBp p o v w' :=
  ⟨(World.cell?_of_block (w := w) (a := ⟨p, 0, none⟩) e).trans h.c0, (World.cell?_of_block (w := w) (a := ⟨p, 1, none⟩) e).trans h.c1, (World.cell?_of_block (w := w) (a := ⟨p, 2, none⟩) e).trans h.c2, (World.cell?_of_block (w := w) (a := ⟨p, 3, none⟩) e).trans h.c3, (World.cell?_of_block (w := w) (a := ⟨p, 4, none⟩) e).trans h.c4, (World.cell?_of_block (w := w) (a := ⟨p, 5, none⟩) e).trans h.c5, (World.cell?_of_block (w := w) (a := ⟨p, 6, none⟩) e).trans h.c6⟩
theorem RBp.next {p : Nat} {o : Out} {v : Value} {w w' : World} (h : RBp p o v w) (hb : Below w.heap.size w w') : RBp p o v w' := h.block (hb.block p h.lt)
theorem RBp.new (w : World) (o : Out) (v : Value) (t : TypeId) : RBp w.heap.size o v (w.alloc (.cells #[.int .i64 o.kind, .int .i64 o.born, .int .i64 o.stay, .int .i64 o.states, .int .i64 o.radius, v, .string o.turns] t)) :=
  ⟨by rw [World.cell?_alloc_at _ _ _ _ rfl]; rfl, by rw [World.cell?_alloc_at _ _ _ _ rfl]; rfl, by rw [World.cell?_alloc_at _ _ _ _ rfl]; rfl, by rw [World.cell?_alloc_at _ _ _ _ rfl]; rfl, by rw [World.cell?_alloc_at _ _ _ _ rfl]; rfl, by rw [World.cell?_alloc_at _ _ _ _ rfl]; rfl, by rw [World.cell?_alloc_at _ _ _ _ rfl]; rfl⟩
end Go.Proofs.YtlpdobfjgpedaaaDoor

namespace Go.Proofs.YtlpdobfjgpedaaaDoor
open Go.RowKit
set_option linter.unusedVariables false

set_option maxHeartbeats 1600000 in
theorem Shape_P (W H : Int) (xs : List Int) (a : Option Addr) (n c : Nat) (w : World) (hP : ArgP w xs a n c) :
    Calls Tryd.prog 13 #[.agg #[.int .i64 W, .int .i64 H, .slice a n c]] w fun e w' => e = .returned (.int .i64 ((shapeF W H xs : Nat) : Int)) ∧ Below w.heap.size w w' := by
  have HP := hide' (hP.alloc (.cells #[.int .i64 W, .int .i64 H, .slice a n c] 26))
  have hlen := hP.len
  have hmax := hP.max
  have HL := hide' hlen
  unfold maxLen at hmax
  clear hP hlen
  cases s1 : sideB W with
  | false =>
    have F := hide' (show shapeF W H xs = 1 by unfold shapeF; rw [s1]; rfl)
    rcases side_no s1 with h | h
    · clear s1
      go_enter Tryd.func13, Tryd.ntmps13
      go_wp2
      go_ret
      rw [F.out]
      exact ⟨rfl, (Below.refl _ _).alloc (Nat.le_refl _) _⟩
    · have h' : ¬ W < 0 := by omega
      clear s1
      go_enter Tryd.func13, Tryd.ntmps13
      go_wp2
      go_ret
      rw [F.out]
      exact ⟨rfl, (Below.refl _ _).alloc (Nat.le_refl _) _⟩
  | true =>
    cases s2 : sideB H with
    | false =>
      have F := hide' (show shapeF W H xs = 1 by unfold shapeF; rw [s1, s2]; rfl)
      obtain ⟨Wn, rfl, lW⟩ := side_nat s1
      have h1 : ¬ (Wn : Int) < 0 := by omega
      have h2 : ¬ 100 < (Wn : Int) := by omega
      rcases side_no s2 with h | h
      · clear s1 s2
        go_enter Tryd.func13, Tryd.ntmps13
        go_wp2
        go_ret
        rw [F.out]
        exact ⟨rfl, (Below.refl _ _).alloc (Nat.le_refl _) _⟩
      · have h' : ¬ H < 0 := by omega
        clear s1 s2
        go_enter Tryd.func13, Tryd.ntmps13
        go_wp2
        go_ret
        rw [F.out]
        exact ⟨rfl, (Below.refl _ _).alloc (Nat.le_refl _) _⟩
    | true =>
      obtain ⟨Wn, rfl, lW⟩ := side_nat s1
      obtain ⟨Hn, rfl, lH⟩ := side_nat s2
      have h1 : ¬ (Wn : Int) < 0 := by omega
      have h2 : ¬ 100 < (Wn : Int) := by omega
      have h3 : ¬ (Hn : Int) < 0 := by omega
      have h4 : ¬ 100 < (Hn : Int) := by omega
      obtain ⟨N, hN⟩ : ∃ N, Wn * Hn = N := ⟨_, rfl⟩
      have hNi : (Wn : Int) * (Hn : Int) = (N : Int) := by rw [← hN]; simp
      have hN4 : N ≤ 10000 := by rw [← hN]; exact Nat.mul_le_mul lW lH
      by_cases q : n = N
      · have m1 : ((n : Int) != (N : Int)) = false := by simp; omega
        have FO := hide' (fun (h : xs.all cellB = true) => show shapeF Wn Hn xs = 0 by unfold shapeF; rw [s1, s2, if_pos (show (true && true) = true from rfl), if_pos (by rw [hNi, ← HL.out, q]), if_pos h])
        have FN := hide' (fun (h : xs.all cellB = false) => show shapeF Wn Hn xs = 1 by unfold shapeF; rw [s1, s2, if_pos (show (true && true) = true from rfl), if_pos (by rw [hNi, ← HL.out, q]), if_neg (by rw [h]; simp)])
        clear q hN s1 s2
        go_enter Tryd.func13, Tryd.ntmps13
        go_wp2
        go_loop [3] (fun kv => ∃ k : Nat, kv = .int .i64 (k : Int) ∧ k ≤ n ∧ ∀ j (h : j < xs.length), j < k → cellB xs[j] = true) (fun kv => n - (intOf kv).toNat)
        case atStart => exact ⟨0, rfl, by omega, fun j h hj => by omega⟩
        case round =>
          obtain ⟨k, rfl, hk, hall⟩ := hrel
          have HA := hide' hall
          clear hall
          by_cases d : (k : Int) < (n : Int)
          · have hkl : k < xs.length := by have := HL.out; omega
            obtain ⟨g, off, rfl, hg, hc⟩ := HP.out.cells k hkl
            obtain ⟨x, hx⟩ : ∃ x, xs[k] = x := ⟨_, rfl⟩
            rw [hx] at hc
            have HX := hide' hx
            clear hx
            by_cases x0 : x < 0
            · have X := hide' (show cellB x = false by unfold cellB; simp; omega)
              go_wp2
              go_ret
              rw [FN.out (all_bad hkl (by rw [HX.out]; exact X.out))]
              exact ⟨rfl, (Below.refl _ _).alloc (Nat.le_refl _) _⟩
            · by_cases x1 : 1 < x
              · have X := hide' (show cellB x = false by unfold cellB; simp; omega)
                go_wp2
                go_ret
                rw [FN.out (all_bad hkl (by rw [HX.out]; exact X.out))]
                exact ⟨rfl, (Below.refl _ _).alloc (Nat.le_refl _) _⟩
              · have X := hide' (show cellB x = true by rw [cellB_iff]; omega)
                go_wp2
                refine ⟨⟨k + 1, by go_num, by omega, fun j h hj => ?_⟩, by simp [intOf]; omega⟩
                by_cases e : j = k
                · subst e; rw [HX.out]; exact X.out
                · exact HA.out j h (by omega)
          · go_wp2
            go_ret
            rw [FO.out (all_ok fun j hj => HA.out j hj (by have := HL.out; omega))]
            exact ⟨rfl, (Below.refl _ _).alloc (Nat.le_refl _) _⟩
      · have m1 : ((n : Int) != (N : Int)) = true := by simp; omega
        have F := hide' (show shapeF Wn Hn xs = 3 by unfold shapeF; rw [s1, s2, if_pos (show (true && true) = true from rfl), if_neg (by rw [hNi, ← HL.out]; omega)])
        clear q hN s1 s2
        go_enter Tryd.func13, Tryd.ntmps13
        go_wp2
        go_ret
        rw [F.out]
        exact ⟨rfl, (Below.refl _ _).alloc (Nat.le_refl _) _⟩
end Go.Proofs.YtlpdobfjgpedaaaDoor

