/-
  What the last text of this claim leans on, part 6: Bk5.
-/
import Derived.Test.YtfeddccbhmbkmaaDoorZr5
import Derived.BigRegion
import Derived.Deep.RegionHeld3
namespace Go.Proofs.YtfeddccbhmbkmaaDoor
open Go.RowKit
set_option linter.unusedVariables false
/-- Cells that lie at a block's head and may be written. -/
def CA (w : World) (g n : Nat) (f : Nat → Nat) : Prop := ∃ cur, w.heap[g]? = some (.cells cur 3 (0, 0)) ∧ n ≤ cur.size ∧ ∀ k, k < n → cur[k]? = some (.int .i64 (f k : Int))
theorem CA.cell {w : World} {g n : Nat} {f : Nat → Nat} (h : CA w g n f) {k : Nat} (hk : k < n) : w.cell? ⟨g, k, none⟩ = some (.int .i64 (f k : Int)) ∧ w.frozen? ⟨g, k, none⟩ = false := by
  obtain ⟨cur, h1, h2, h3⟩ := h
  exact ⟨by rw [cell_of_row w _ _ _ _ _ h1]; exact h3 k hk, frozen_of_row w _ _ _ _ h1⟩
theorem CA.set {w : World} {g n : Nat} {f : Nat → Nat} (h : CA w g n f) (i v : Nat) : CA (w.setCell ⟨g, i, none⟩ (.int .i64 (v : Int))) g n (fun k => if k = i then v else f k) := by
  obtain ⟨cur, h1, h2, h3⟩ := h
  refine ⟨cur.setIfInBounds i (.int .i64 (v : Int)), by rw [heap_setCell_same _ _ _ _ _ _ h1], by simpa using h2, fun k hk => ?_⟩
  dsimp only
  by_cases e : k = i
  · subst e
    rw [if_pos rfl, Array.getElem?_setIfInBounds_self_of_lt (by omega)]
  · rw [if_neg e, Array.getElem?_setIfInBounds_ne (by omega)]
    exact h3 k hk
theorem CA.ext {w : World} {g n : Nat} {f f' : Nat → Nat} (h : CA w g n f) (e : ∀ k, k < n → f k = f' k) : CA w g n f' := by
  obtain ⟨cur, h1, h2, h3⟩ := h
  exact ⟨cur, h1, h2, fun k hk => by rw [← e k hk]; exact h3 k hk⟩
theorem CA.block {w w' : World} {g n : Nat} {f : Nat → Nat} (h : CA w g n f) (e : w'.heap[g]? = w.heap[g]?) : CA w' g n f := by
  obtain ⟨cur, h1, h2, h3⟩ := h
  exact ⟨cur, e.trans h1, h2, h3⟩
theorem CA.lt {w : World} {g n : Nat} {f : Nat → Nat} (h : CA w g n f) : g < w.heap.size := by
  obtain ⟨cur, h1, -⟩ := h
  exact lt_of_block h1
/-- What is kept while the cells of one block of memory are written. -/
structure SP (w wr : World) (B gc n : Nat) (f : Nat → Nat) : Prop where
  keep : ∀ k, k < w.heap.size → k ≠ gc → wr.heap[k]? = w.heap[k]?
  ca : CA wr gc n f
  size : w.heap.size ≤ wr.heap.size
  below : Below B w wr
theorem SP.next {w wr w' : World} {B gc n : Nat} {f : Nat → Nat} (h : SP w wr B gc n f) (hB : B ≤ wr.heap.size) (b : Below wr.heap.size wr w') : SP w w' B gc n f :=
  ⟨fun k hk hn => (b.block k (Nat.lt_of_lt_of_le hk h.size)).trans (h.keep k hk hn), h.ca.block (b.block _ h.ca.lt), Nat.le_trans h.size b.size, h.below.trans (b.mono hB)⟩
theorem SP.set {w wr : World} {B gc n : Nat} {f : Nat → Nat} (h : SP w wr B gc n f) (hB : B ≤ gc) (i v : Nat) : SP w (wr.setCell ⟨gc, i, none⟩ (.int .i64 (v : Int))) B gc n (fun k => if k = i then v else f k) :=
  ⟨fun k hk hn => (Below.heap_setCell _ _ _ _ hn).trans (h.keep k hk hn), h.ca.set i v, by rw [World.size_setCell]; exact h.size, h.below.setCell hB _⟩
theorem SP.ext {w wr : World} {B gc n : Nat} {f f' : Nat → Nat} (h : SP w wr B gc n f) (e : ∀ k, k < n → f k = f' k) : SP w wr B gc n f' := ⟨h.keep, h.ca.ext e, h.size, h.below⟩
set_option maxRecDepth 100000 in
set_option maxHeartbeats 12800000 in
theorem step_blk (W H V U ph : Nat) (tv f : Nat → Nat) (gc cc gs gb B : Nat) (w : World) (e : Evn W H V U) (hp : ph ≤ 1) (hW : W ≤ 100) (hH : H ≤ 100) (ht : ∀ k, k < 16 → tv k < 16) (hf : ∀ k, f k ≤ 1) (hB : B ≤ gc) (ca : CA w gc (W * H) f) (n1 : gs ≠ gc) (n2 : gb ≠ gc)
    (hs : w.heap[gs]? = some (.cells (arrF (U * V * 4) (stG W H ph)) 189 (0, 0))) (hb : w.heap[gb]? = some (.cells (arrF 64 (bkG tv)) 125 (0, 0))) :
    Calls Tryd.prog 65 #[.slice (some ⟨gc, 0, none⟩) (W * H) cc, .slice (some ⟨gs, 0, none⟩) (U * V) (U * V), .pointer (some ⟨gb, 0, none⟩)] w fun e w' => e = .returned (.tuple #[]) ∧ SP w w' B gc (W * H) (newB tv W H ph f) := by
  obtain ⟨n, hn⟩ : ∃ n, W * H = n := ⟨_, rfl⟩
  obtain ⟨N, hN⟩ : ∃ N, U * V = N := ⟨_, rfl⟩
  have n10 : n ≤ 10000 := by rw [← hn]; exact Nat.mul_le_mul hW hH
  have N2 : N ≤ 2500 := by have := Nat.mul_le_mul (show U ≤ 50 by have := e.h; omega) (show V ≤ 50 by have := e.w; omega); omega
  have RD := hide' (fun j k (hj : j < N) (hk : k < 4) => show plc W H ph j k < n ∧ parB tv W H ph f j 0 (plc W H ph j k) = f (plc W H ph j k) from by
    rw [← hN] at hj
    exact ⟨by rw [← hn]; exact (of_plc e hp hj hk).1, par_read e hp hj hk tv f⟩)
  have ST := hide' (fun j m (hj : j < N) (hm : m < 4) i (hi : i < n) => show (if i = plc W H ph j m then dg (tv (nbB f W H ph j)) m else parB tv W H ph f j m i) = parB tv W H ph f j (m + 1) i from by
    rw [← hN] at hj; rw [← hn] at hi
    exact par_set e hp hj hm tv f i hi)
  have NX := hide' (fun j i (hi : i < n) => show parB tv W H ph f j 4 i = parB tv W H ph f (j + 1) 0 i from by rw [← hn] at hi; exact par_next e hp tv f i hi)
  have EN := hide' (fun i (hi : i < n) => show parB tv W H ph f N 0 i = newB tv W H ph f i from by rw [← hn] at hi; rw [← hN]; exact par_end e hp tv f i hi)
  have S0 := hide' (show SP w w B gc n (parB tv W H ph f 0 0) from ⟨fun _ _ _ => rfl, (by rw [← hn]; exact ca.ext (fun k _ => (par_start tv W H ph f k).symm)), Nat.le_refl _, Below.refl _ _⟩)
  have BS := hide' (show B ≤ w.heap.size by have := ca.lt; omega)
  have CL := hide' ca.lt
  have SL := hide' (lt_of_block hs)
  have BL := hide' (lt_of_block hb)
  have HS := hide' (fun (V : World) (g : Nat → Nat) (hV : SP w V B gc n g) j k (hj : j < N) (hk : k < 4) => show V.cell? ⟨gs, j * 4 + k, none⟩ = some (.int .i64 ((plc W H ph j k : Nat) : Int)) from by
    rw [cell_of_row V _ _ _ _ _ ((hV.keep gs (lt_of_block hs) n1).trans hs), arrF_get _ (by rw [hN]; omega), stG, show (j * 4 + k) / 4 = j by omega, show (j * 4 + k) % 4 = k by omega])
  have HB := hide' (fun (V : World) (g : Nat → Nat) (hV : SP w V B gc n g) b k (hj : b < 16) (hk : k < 4) => show V.cell? ⟨gb, b * 4 + k, none⟩ = some (.int .i64 ((dg (tv b) k : Nat) : Int)) from by
    rw [cell_of_row V _ _ _ _ _ ((hV.keep gb (lt_of_block hb) n2).trans hb), arrF_get _ (by omega), bkG, show (b * 4 + k) / 4 = b by omega, show (b * 4 + k) % 4 = k by omega])
  have PL := hide' (fun j m i => par_le (tv := tv) (W := W) (H := H) (ph := ph) hf j m i)
  have HF := hide' hf
  rw [hn, hN]
  have QF := hide' (fun (V : World) (h : SP w V B gc n (parB tv W H ph f N 0)) => h.ext (f' := newB tv W H ph f) (fun i hi => EN.out i hi))
  clear hn hN e ht hf ca hs hb
  go_enter Tryd.func65, Tryd.ntmps65
  go_wp2
  go_loopw [13] (fun iv wr => ∃ (j : Nat), iv = .int .i64 (j : Int) ∧ j ≤ N ∧ Hid (SP w wr B gc n (parB tv W H ph f j 0))) (fun iv _ => N - (intOf iv).toNat)
  case atStart => exact ⟨0, rfl, by omega, S0⟩
  case round =>
    obtain ⟨j, rfl, hj, HP⟩ := hrel
    by_cases d : (j : Int) < (N : Int)
    · have jN : j < N := by omega
      obtain ⟨p0, hp0⟩ : ∃ p, plc W H ph j 0 = p := ⟨_, rfl⟩
      obtain ⟨p1, hp1⟩ : ∃ p, plc W H ph j 1 = p := ⟨_, rfl⟩
      obtain ⟨p2, hp2⟩ : ∃ p, plc W H ph j 2 = p := ⟨_, rfl⟩
      obtain ⟨p3, hp3⟩ : ∃ p, plc W H ph j 3 = p := ⟨_, rfl⟩
      have s0 := HS.out wr _ HP.out j 0 jN (by omega)
      obtain ⟨l0, r0⟩ := RD.out j 0 jN (by omega)
      rw [hp0] at s0 l0 r0
      obtain ⟨c0, hc0⟩ : ∃ c, f p0 = c := ⟨_, rfl⟩
      rw [hc0] at r0
      have v0 := (HP.out.ca.cell l0).1
      rw [r0] at v0
      have cl0 : c0 ≤ 1 := by rw [← hc0]; exact HF.out _
      have li0 : (p0 : Int) < (n : Int) := by omega
      have s1 := HS.out wr _ HP.out j 1 jN (by omega)
      obtain ⟨l1, r1⟩ := RD.out j 1 jN (by omega)
      rw [hp1] at s1 l1 r1
      obtain ⟨c1, hc1⟩ : ∃ c, f p1 = c := ⟨_, rfl⟩
      rw [hc1] at r1
      have v1 := (HP.out.ca.cell l1).1
      rw [r1] at v1
      have cl1 : c1 ≤ 1 := by rw [← hc1]; exact HF.out _
      have li1 : (p1 : Int) < (n : Int) := by omega
      have s2 := HS.out wr _ HP.out j 2 jN (by omega)
      obtain ⟨l2, r2⟩ := RD.out j 2 jN (by omega)
      rw [hp2] at s2 l2 r2
      obtain ⟨c2, hc2⟩ : ∃ c, f p2 = c := ⟨_, rfl⟩
      rw [hc2] at r2
      have v2 := (HP.out.ca.cell l2).1
      rw [r2] at v2
      have cl2 : c2 ≤ 1 := by rw [← hc2]; exact HF.out _
      have li2 : (p2 : Int) < (n : Int) := by omega
      have s3 := HS.out wr _ HP.out j 3 jN (by omega)
      obtain ⟨l3, r3⟩ := RD.out j 3 jN (by omega)
      rw [hp3] at s3 l3 r3
      obtain ⟨c3, hc3⟩ : ∃ c, f p3 = c := ⟨_, rfl⟩
      rw [hc3] at r3
      have v3 := (HP.out.ca.cell l3).1
      rw [r3] at v3
      have cl3 : c3 ≤ 1 := by rw [← hc3]; exact HF.out _
      have li3 : (p3 : Int) < (n : Int) := by omega
      rw [Nat.add_zero] at s0
      obtain ⟨nb, hnb⟩ : ∃ b, c0 + 2 * c1 + 4 * c2 + 8 * c3 = b := ⟨_, rfl⟩
      have nb16 : nb < 16 := by omega
      have NBB := hide' (show nbB f W H ph j = nb from by unfold nbB; rw [hp0, hp1, hp2, hp3, hc0, hc1, hc2, hc3]; exact hnb)
      have NC := hide' (fun V => number_any c0 c1 c2 c3 V cl0 cl1 cl2 cl3)
      rw [hnb] at NC
      have HP0 := hide' hp0
      have HP1 := hide' hp1
      have HP2 := hide' hp2
      have HP3 := hide' hp3
      clear hp0 hp1 hp2 hp3 hc0 hc1 hc2 hc3 hnb r0 r1 r2 r3
      have gl : gc < wr.heap.size := HP.out.ca.lt
      have ne1 : ¬ gc = wr.heap.size := by omega
      go_wp2
      obtain ⟨X, hX⟩ : ∃ X, wr.alloc (.cells #[.int .i64 (p0 : Int), .int .i64 (p1 : Int), .int .i64 (p2 : Int), .int .i64 (p3 : Int)] 189) = X := ⟨_, rfl⟩
      have gx : X.heap[wr.heap.size]? = some (.cells #[.int .i64 (p0 : Int), .int .i64 (p1 : Int), .int .i64 (p2 : Int), .int .i64 (p3 : Int)] 189 (0, 0)) := by rw [← hX]; exact heap_alloc_new _ _
      have XS := hide' (show X.cell? ⟨wr.heap.size, 0, none⟩ = some (.int .i64 (p0 : Int)) ∧ X.cell? ⟨wr.heap.size, 1, none⟩ = some (.int .i64 (p1 : Int)) ∧ X.cell? ⟨wr.heap.size, 2, none⟩ = some (.int .i64 (p2 : Int)) ∧ X.cell? ⟨wr.heap.size, 3, none⟩ = some (.int .i64 (p3 : Int)) ∧ X.cell? ⟨gc, p0, none⟩ = some (.int .i64 (c0 : Int)) ∧ X.cell? ⟨gc, p1, none⟩ = some (.int .i64 (c1 : Int)) ∧ X.cell? ⟨gc, p2, none⟩ = some (.int .i64 (c2 : Int)) ∧ X.cell? ⟨gc, p3, none⟩ = some (.int .i64 (c3 : Int)) from ⟨cell_of_row X _ 0 _ _ _ gx, cell_of_row X _ 1 _ _ _ gx, cell_of_row X _ 2 _ _ _ gx, cell_of_row X _ 3 _ _ _ gx, by rw [← hX, World.cell?_alloc_past (hn := gl)]; exact v0, by rw [← hX, World.cell?_alloc_past (hn := gl)]; exact v1, by rw [← hX, World.cell?_alloc_past (hn := gl)]; exact v2, by rw [← hX, World.cell?_alloc_past (hn := gl)]; exact v3⟩)
      have xl : wr.heap.size < X.heap.size := lt_of_block gx
      have xg : gc < X.heap.size := by omega
      have XA := hide' (fun (o : Obj) => show (X.alloc o).drew.cell? ⟨wr.heap.size, 0, none⟩ = some (.int .i64 (p0 : Int)) ∧ (X.alloc o).drew.cell? ⟨wr.heap.size, 1, none⟩ = some (.int .i64 (p1 : Int)) ∧ (X.alloc o).drew.cell? ⟨wr.heap.size, 2, none⟩ = some (.int .i64 (p2 : Int)) ∧ (X.alloc o).drew.cell? ⟨wr.heap.size, 3, none⟩ = some (.int .i64 (p3 : Int)) ∧ (X.alloc o).drew.cell? ⟨gc, p0, none⟩ = some (.int .i64 (c0 : Int)) ∧ (X.alloc o).drew.cell? ⟨gc, p1, none⟩ = some (.int .i64 (c1 : Int)) ∧ (X.alloc o).drew.cell? ⟨gc, p2, none⟩ = some (.int .i64 (c2 : Int)) ∧ (X.alloc o).drew.cell? ⟨gc, p3, none⟩ = some (.int .i64 (c3 : Int)) from ⟨(World.cell?_alloc_past (w := X) (o := o) (i := 0) (hn := xl)).trans XS.out.1, (World.cell?_alloc_past (w := X) (o := o) (i := 1) (hn := xl)).trans XS.out.2.1, (World.cell?_alloc_past (w := X) (o := o) (i := 2) (hn := xl)).trans XS.out.2.2.1, (World.cell?_alloc_past (w := X) (o := o) (i := 3) (hn := xl)).trans XS.out.2.2.2.1, (World.cell?_alloc_past (w := X) (o := o) (i := p0) (hn := xg)).trans XS.out.2.2.2.2.1, (World.cell?_alloc_past (w := X) (o := o) (i := p1) (hn := xg)).trans XS.out.2.2.2.2.2.1, (World.cell?_alloc_past (w := X) (o := o) (i := p2) (hn := xg)).trans XS.out.2.2.2.2.2.2.1, (World.cell?_alloc_past (w := X) (o := o) (i := p3) (hn := xg)).trans XS.out.2.2.2.2.2.2.2⟩)
      rw [hX]
      clear v0 v1 v2 v3 s0 s1 s2 s3
      go_region_held3 (fun V => V.cell? ⟨wr.heap.size, 0, none⟩ = some (.int .i64 (p0 : Int)) ∧ V.cell? ⟨wr.heap.size, 1, none⟩ = some (.int .i64 (p1 : Int)) ∧ V.cell? ⟨wr.heap.size, 2, none⟩ = some (.int .i64 (p2 : Int)) ∧ V.cell? ⟨wr.heap.size, 3, none⟩ = some (.int .i64 (p3 : Int)) ∧ V.cell? ⟨gc, p0, none⟩ = some (.int .i64 (c0 : Int)) ∧ V.cell? ⟨gc, p1, none⟩ = some (.int .i64 (c1 : Int)) ∧ V.cell? ⟨gc, p2, none⟩ = some (.int .i64 (c2 : Int)) ∧ V.cell? ⟨gc, p3, none⟩ = some (.int .i64 (c3 : Int))) (first | exact XS.out | exact XA.out _ | fail) (fail)
      obtain ⟨Z, hZ⟩ : ∃ Z, (X.alloc (.cells #[.int .i64 (c0 : Int), .int .i64 (c1 : Int), .int .i64 (c2 : Int), .int .i64 (c3 : Int)] 124)).drew = Z := ⟨_, rfl⟩
      have bz : Below wr.heap.size wr Z := by
        have b1 : Below wr.heap.size wr (X.alloc (.cells #[.int .i64 (c0 : Int), .int .i64 (c1 : Int), .int .i64 (c2 : Int), .int .i64 (c3 : Int)] 124)) := by
          rw [← hX]; exact ((Below.refl _ _).alloc (Nat.le_refl _) _).alloc (by simp) _
        rw [← hZ]
        exact ⟨b1.os, b1.tape, b1.output, b1.size, b1.block⟩
      have HZ := hide' (HP.out.next (Nat.le_trans BS.out HP.out.size) bz)
      have gz : Z.heap[X.heap.size]? = some (.cells #[.int .i64 (c0 : Int), .int .i64 (c1 : Int), .int .i64 (c2 : Int), .int .i64 (c3 : Int)] 124 (0, 0)) := by rw [← hZ]; exact heap_alloc_new X _
      have ga : Z.heap[wr.heap.size]? = some (.cells #[.int .i64 (p0 : Int), .int .i64 (p1 : Int), .int .i64 (p2 : Int), .int .i64 (p3 : Int)] 189 (0, 0)) := by rw [← hZ]; exact (Below.heap_alloc X _ _ xl).trans gx
      obtain ⟨e0, he0⟩ : ∃ x, dg (tv nb) 0 = x := ⟨_, rfl⟩
      obtain ⟨e1, he1⟩ : ∃ x, dg (tv nb) 1 = x := ⟨_, rfl⟩
      obtain ⟨e2, he2⟩ : ∃ x, dg (tv nb) 2 = x := ⟨_, rfl⟩
      obtain ⟨e3, he3⟩ : ∃ x, dg (tv nb) 3 = x := ⟨_, rfl⟩
      have YS := hide' (fun (V : World) (g : Nat → Nat) (hV : SP w V B gc n g) (gv : V.heap[X.heap.size]? = some (.cells #[.int .i64 (c0 : Int), .int .i64 (c1 : Int), .int .i64 (c2 : Int), .int .i64 (c3 : Int)] 124 (0, 0))) => show V.cell? ⟨X.heap.size, 0, none⟩ = some (.int .i64 (c0 : Int)) ∧ V.cell? ⟨X.heap.size, 1, none⟩ = some (.int .i64 (c1 : Int)) ∧ V.cell? ⟨X.heap.size, 2, none⟩ = some (.int .i64 (c2 : Int)) ∧ V.cell? ⟨X.heap.size, 3, none⟩ = some (.int .i64 (c3 : Int)) ∧ V.cell? ⟨gb, nb * 4, none⟩ = some (.int .i64 (e0 : Int)) ∧ V.cell? ⟨gb, nb * 4 + 1, none⟩ = some (.int .i64 (e1 : Int)) ∧ V.cell? ⟨gb, nb * 4 + 2, none⟩ = some (.int .i64 (e2 : Int)) ∧ V.cell? ⟨gb, nb * 4 + 3, none⟩ = some (.int .i64 (e3 : Int)) from ⟨cell_of_row V _ 0 _ _ _ gv, cell_of_row V _ 1 _ _ _ gv, cell_of_row V _ 2 _ _ _ gv, cell_of_row V _ 3 _ _ _ gv, by have := HB.out V g hV nb 0 nb16 (by omega); rw [he0] at this; exact this, by have := HB.out V g hV nb 1 nb16 (by omega); rw [he1] at this; exact this, by have := HB.out V g hV nb 2 nb16 (by omega); rw [he2] at this; exact this, by have := HB.out V g hV nb 3 nb16 (by omega); rw [he3] at this; exact this⟩)
      have HE := hide' (And.intro he0 (And.intro he1 (And.intro he2 he3)))
      have GZ := hide' gz
      have GA := hide' ga
      have SZ := hide' (show B ≤ Z.heap.size from Nat.le_trans BS.out (Nat.le_trans HP.out.size bz.size))
      have ZD := hide' (show Z.drew.cell? ⟨X.heap.size, 0, none⟩ = some (.int .i64 (c0 : Int)) ∧ Z.drew.cell? ⟨X.heap.size, 1, none⟩ = some (.int .i64 (c1 : Int)) ∧ Z.drew.cell? ⟨X.heap.size, 2, none⟩ = some (.int .i64 (c2 : Int)) ∧ Z.drew.cell? ⟨X.heap.size, 3, none⟩ = some (.int .i64 (c3 : Int)) ∧ Z.drew.cell? ⟨gb, nb * 4, none⟩ = some (.int .i64 (e0 : Int)) ∧ Z.drew.cell? ⟨gb, nb * 4 + 1, none⟩ = some (.int .i64 (e1 : Int)) ∧ Z.drew.cell? ⟨gb, nb * 4 + 2, none⟩ = some (.int .i64 (e2 : Int)) ∧ Z.drew.cell? ⟨gb, nb * 4 + 3, none⟩ = some (.int .i64 (e3 : Int)) from YS.out Z _ HZ.out GZ.out)
      rw [hZ]
      have nbi : (nb : Int) < 16 := by omega
      clear hZ hX gx xl xg XA XS bz gz ga he0 he1 he2 he3 gl ne1
      go_wp2
      go_region_held3 (fun V => V.cell? ⟨X.heap.size, 0, none⟩ = some (.int .i64 (c0 : Int)) ∧ V.cell? ⟨X.heap.size, 1, none⟩ = some (.int .i64 (c1 : Int)) ∧ V.cell? ⟨X.heap.size, 2, none⟩ = some (.int .i64 (c2 : Int)) ∧ V.cell? ⟨X.heap.size, 3, none⟩ = some (.int .i64 (c3 : Int)) ∧ V.cell? ⟨gb, nb * 4, none⟩ = some (.int .i64 (e0 : Int)) ∧ V.cell? ⟨gb, nb * 4 + 1, none⟩ = some (.int .i64 (e1 : Int)) ∧ V.cell? ⟨gb, nb * 4 + 2, none⟩ = some (.int .i64 (e2 : Int)) ∧ V.cell? ⟨gb, nb * 4 + 3, none⟩ = some (.int .i64 (e3 : Int))) (first | exact YS.out _ _ H1.out G1.out | exact ZD.out | fail)
        (first
          | (go_at_call 69; refine (NC.out _).mono ?_; rintro e w' ⟨rfl, hb1⟩; have b1 : Below Z.heap.size Z w' := ⟨hb1.os, hb1.tape, hb1.output, hb1.size, hb1.block⟩; have H1 := hide' (HZ.out.next SZ.out b1); have G1 := hide' ((b1.block _ (lt_of_block GZ.out)).trans GZ.out); have A1 := hide' ((b1.block _ (lt_of_block GA.out)).trans GA.out); clear hb1 b1)
          | fail)
      obtain ⟨pa, hpa⟩ : ∃ pa, wr.heap.size = pa := ⟨_, rfl⟩
      obtain ⟨pb, hpb⟩ : ∃ pb, X.heap.size = pb := ⟨_, rfl⟩
      rw [hpa] at A1 ⊢
      rw [hpb]
      have PAC := hide' (show pa ≠ gc by have := HP.out.ca.lt; omega)
      have PAB := hide' (show w.heap.size ≤ pa by rw [← hpa]; exact HP.out.size)
      clear hpa hpb ZD YS G1 GZ GA HZ
      go_wp2
      have i0 : ∀ w, (Instr.index 124 (.agg #[.int .i64 (e0 : Int), .int .i64 (e1 : Int), .int .i64 (e2 : Int), .int .i64 (e3 : Int)]) (.int .i64 0)).run Tryd.prog w = .ok (.int .i64 (e0 : Int)) w := fun _ => by kernel_rfl
      have i1 : ∀ w, (Instr.index 124 (.agg #[.int .i64 (e0 : Int), .int .i64 (e1 : Int), .int .i64 (e2 : Int), .int .i64 (e3 : Int)]) (.int .i64 1)).run Tryd.prog w = .ok (.int .i64 (e1 : Int)) w := fun _ => by kernel_rfl
      have i2 : ∀ w, (Instr.index 124 (.agg #[.int .i64 (e0 : Int), .int .i64 (e1 : Int), .int .i64 (e2 : Int), .int .i64 (e3 : Int)]) (.int .i64 2)).run Tryd.prog w = .ok (.int .i64 (e2 : Int)) w := fun _ => by kernel_rfl
      have i3 : ∀ w, (Instr.index 124 (.agg #[.int .i64 (e0 : Int), .int .i64 (e1 : Int), .int .i64 (e2 : Int), .int .i64 (e3 : Int)]) (.int .i64 3)).run Tryd.prog w = .ok (.int .i64 (e3 : Int)) w := fun _ => by kernel_rfl
      go_loopw [44] (fun iv wr => ∃ (m : Nat), iv = .int .i64 (m : Int) ∧ m ≤ 4 ∧ Hid (SP w wr B gc n (parB tv W H ph f j m)) ∧ Hid (wr.heap[pa]? = some (.cells #[.int .i64 (p0 : Int), .int .i64 (p1 : Int), .int .i64 (p2 : Int), .int .i64 (p3 : Int)] 189 (0, 0)))) (fun iv _ => 4 - (intOf iv).toNat)
      case atStart => exact ⟨0, rfl, by omega, H1, A1⟩
      case round =>
        obtain ⟨m, rfl, hm, HM, HA⟩ := hrel
        by_cases dm : m < 4
        · have SET := hide' (fun (pm em : Nat) (h1 : plc W H ph j m = pm) (h2 : dg (tv nb) m = em) => show SP w (wr.setCell ⟨gc, pm, none⟩ (.int .i64 (em : Int))) B gc n (parB tv W H ph f j (m + 1)) from (HM.out.set hB pm em).ext (fun i hi => by
            have t := ST.out j m jN dm i hi
            rw [h1, NBB.out, h2] at t
            exact t))
          have HA2 := hide' (fun (pm em : Nat) => show (wr.setCell ⟨gc, pm, none⟩ (.int .i64 (em : Int))).heap[pa]? = _ from (Below.heap_setCell _ _ _ _ PAC.out).trans HA.out)
          have mm : m = 0 ∨ m = 1 ∨ m = 2 ∨ m = 3 := by omega
          rcases mm with rfl | rfl | rfl | rfl
          · have a0 := cell_of_row wr _ 0 _ _ _ HA.out
            simp at a0
            have q0 := HM.out.ca.cell l0
            obtain ⟨q1, q2⟩ := q0
            have N1 := hide' (SET.out p0 e0 HP0.out HE.out.1)
            have N2' := hide' (HA2.out p0 e0)
            clear dm
            go_wp2
            exact ⟨⟨0 + 1, by go_num, by omega, N1, N2'⟩, by simp [intOf]⟩
          · have a0 := cell_of_row wr _ 1 _ _ _ HA.out
            simp at a0
            have q0 := HM.out.ca.cell l1
            obtain ⟨q1, q2⟩ := q0
            have N1 := hide' (SET.out p1 e1 HP1.out HE.out.2.1)
            have N2' := hide' (HA2.out p1 e1)
            clear dm
            go_wp2
            exact ⟨⟨1 + 1, by go_num, by omega, N1, N2'⟩, by simp [intOf]⟩
          · have a0 := cell_of_row wr _ 2 _ _ _ HA.out
            simp at a0
            have q0 := HM.out.ca.cell l2
            obtain ⟨q1, q2⟩ := q0
            have N1 := hide' (SET.out p2 e2 HP2.out HE.out.2.2.1)
            have N2' := hide' (HA2.out p2 e2)
            clear dm
            go_wp2
            exact ⟨⟨2 + 1, by go_num, by omega, N1, N2'⟩, by simp [intOf]⟩
          · have a0 := cell_of_row wr _ 3 _ _ _ HA.out
            simp at a0
            have q0 := HM.out.ca.cell l3
            obtain ⟨q1, q2⟩ := q0
            have N1 := hide' (SET.out p3 e3 HP3.out HE.out.2.2.2)
            have N2' := hide' (HA2.out p3 e3)
            clear dm
            go_wp2
            exact ⟨⟨3 + 1, by go_num, by omega, N1, N2'⟩, by simp [intOf]⟩
        · have m4 : m = 4 := by omega
          subst m4
          have NE := hide' (HM.out.ext (fun i hi => NX.out j i hi))
          clear dm
          go_wp2
          exact ⟨⟨j + 1, by go_num, by omega, NE⟩, by simp [intOf]; omega⟩
    · have jN : j = N := by omega
      have FIN := hide' (QF.out wr (by rw [← jN]; exact HP.out))
      clear jN HP
      go_wp2
      go_end0
      exact ⟨rfl, FIN.out⟩
end Go.Proofs.YtfeddccbhmbkmaaDoor

