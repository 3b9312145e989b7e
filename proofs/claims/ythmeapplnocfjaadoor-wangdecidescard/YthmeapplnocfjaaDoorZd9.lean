/-
  What the last text of this claim leans on, part 9: Ws1, Ws2, Wx2.
-/
import Derived.Test.YthmeapplnocfjaaDoorZd8
import Derived.Test.YthmeapplnocfjaaDoorZd5
import Derived.Deep.DeepCutAuto
import Derived.Laws.Rows
import Derived.Deep.RegionHeld3
namespace Go.Proofs.YthmeapplnocfjaaDoor
open Go.RowKit
set_option linter.unusedVariables false
set_option linter.unusedSimpArgs false
/-- An array told by a function. -/
def arV (n : Nat) (f : Nat → Value) : Array Value := ((List.range n).map f).toArray
theorem arV_get {n k : Nat} (f : Nat → Value) (h : k < n) : (arV n f)[k]? = some (f k) := by simp [arV, h]
theorem arV_size (n : Nat) (f : Nat → Value) : (arV n f).size = n := by simp [arV]
theorem arV_set (n i : Nat) (f : Nat → Value) (v : Value) : (arV n f).setIfInBounds i v = arV n (fun k => if k = i then v else f k) := by
  apply Array.ext
  · simp [arV]
  · intro k h1 h2
    simp only [arV, List.getElem_toArray, List.getElem_map, List.getElem_range]
    by_cases q : k = i
    · simp [q]
    · simp [q, Ne.symm q]
theorem arV_ext {n : Nat} {f g : Nat → Value} (h : ∀ k, k < n → f k = g k) : arV n f = arV n g := by
  unfold arV
  congr 1
  exact List.map_congr_left fun k hk => h k (List.mem_range.1 hk)
theorem arV_all {n : Nat} {f : Nat → Value} (h : ∀ k, k < n → (f k).oneCell' = true) : (arV n f).all (·.oneCell') = true := by
  rw [Array.all_eq_true]
  intro i hi
  have : i < n := by simpa [arV] using hi
  simpa [arV] using h i this
/-- A board's cells. -/
def bdV (b : BdW) (i : Nat) : Value :=
  if i < 64 then .int .i64 (tlC (b.t (i / 4)) (i % 4)) else if i = 64 then .int .i64 (b.W : Int) else if i = 65 then .int .i64 (b.H : Int) else if i = 66 then .bool b.ring else .int .u64 ((b.may ((i - 67) / 5) ((i - 67) % 5) : Nat) : Int)
def BrdA (V : World) (g : Nat) (b : BdW) : Prop := V.heap[g]? = some (.cells (arV 92 (bdV b)) 58 (0, 0))
theorem BrdA.cell {V : World} {g : Nat} {b : BdW} (h : BrdA V g b) {i : Nat} (hi : i < 92) : V.cell? ⟨g, i, none⟩ = some (bdV b i) := by rw [cell_of_row V _ _ _ _ _ h, arV_get _ hi]
theorem BrdA.wide {V : World} {g : Nat} {b : BdW} (h : BrdA V g b) : V.cell? ⟨g, 64, none⟩ = some (.int .i64 (b.W : Int)) := h.cell (by omega)
theorem BrdA.high {V : World} {g : Nat} {b : BdW} (h : BrdA V g b) : V.cell? ⟨g, 65, none⟩ = some (.int .i64 (b.H : Int)) := h.cell (by omega)
theorem BrdA.isRing {V : World} {g : Nat} {b : BdW} (h : BrdA V g b) : V.cell? ⟨g, 66, none⟩ = some (.bool b.ring) := h.cell (by omega)
theorem bdV_may (b : BdW) {r c : Nat} (hc : c < 5) : bdV b (67 + r * 5 + c) = .int .u64 ((b.may r c : Nat) : Int) := by
  unfold bdV
  rw [if_neg (by omega), if_neg (by omega), if_neg (by omega), if_neg (by omega), show (67 + r * 5 + c - 67) / 5 = r by omega, show (67 + r * 5 + c - 67) % 5 = c by omega]
theorem BrdA.may {V : World} {g : Nat} {b : BdW} (h : BrdA V g b) {r c : Nat} (hr : r < 5) (hc : c < 5) : V.cell? ⟨g, 67 + r * 5 + c, none⟩ = some (.int .u64 ((b.may r c : Nat) : Int)) := by
  rw [h.cell (by omega), bdV_may b hc]
theorem bdV_t (b : BdW) {k j : Nat} (hk : k < 16) (hj : j < 4) : bdV b (k * 4 + j) = .int .i64 (tlC (b.t k) j) := by
  unfold bdV
  rw [if_pos (by omega), show (k * 4 + j) / 4 = k by omega, show (k * 4 + j) % 4 = j by omega]
theorem BrdA.tile {V : World} {g : Nat} {b : BdW} (h : BrdA V g b) {k : Nat} (hk : k < 16) : V.cell? ⟨g, k * 4, none⟩ = some (.int .i64 (b.t k).u) ∧ V.cell? ⟨g, k * 4 + 1, none⟩ = some (.int .i64 (b.t k).r) ∧ V.cell? ⟨g, k * 4 + 2, none⟩ = some (.int .i64 (b.t k).d) ∧ V.cell? ⟨g, k * 4 + 3, none⟩ = some (.int .i64 (b.t k).l) :=
  ⟨by rw [h.cell (by omega)]; exact congrArg some (bdV_t b (j := 0) hk (by omega)), by rw [h.cell (by omega)]; exact congrArg some (bdV_t b (j := 1) hk (by omega)), by rw [h.cell (by omega)]; exact congrArg some (bdV_t b (j := 2) hk (by omega)), by rw [h.cell (by omega)]; exact congrArg some (bdV_t b (j := 3) hk (by omega))⟩
theorem BrdA.below {V V' : World} {g : Nat} {b : BdW} (h : BrdA V g b) (k : Below V.heap.size V V') : BrdA V' g b := (k.block g (lt_blockT h)).trans h
theorem BrdA.from {w V V' : World} {g : Nat} {b : BdW} (h : BrdA V g b) (hg : g < w.heap.size) (k : Below w.heap.size V V') : BrdA V' g b := (k.block g hg).trans h
/-- While a tile is looked at. -/
def InS (w wx : World) (t : TlT) : Prop := Below w.heap.size w wx ∧ wx.heap[w.heap.size]? = some (.cells #[.int .i64 0, .int .i64 0, .int .i64 0, .int .i64 0] 47 (0, 0)) ∧ wx.heap[w.heap.size + 1]? = some (.cells #[.int .i64 t.u, .int .i64 t.r, .int .i64 t.d, .int .i64 t.l] 47 (0, 0))
theorem InS.set {w wx : World} {t t' : TlT} {j : Nat} {v : Int} (h : InS w wx t) (e : (#[.int .i64 t.u, .int .i64 t.r, .int .i64 t.d, .int .i64 t.l] : Array Value).setIfInBounds j (.int .i64 v) = #[.int .i64 t'.u, .int .i64 t'.r, .int .i64 t'.d, .int .i64 t'.l]) : InS w (wx.setCell ⟨w.heap.size + 1, j, none⟩ (.int .i64 v)) t' := by
  refine ⟨h.1.setCell (by simp) _, ?_, ?_⟩
  · rw [heap_setCell_other _ _ _ _ (by simp)]
    exact h.2.1
  · rw [heap_setCell_same _ _ _ _ _ _ h.2.2, e]
end Go.Proofs.YthmeapplnocfjaaDoor

namespace Go.Proofs.YthmeapplnocfjaaDoor
open Go.RowKit
set_option linter.unusedVariables false
set_option linter.unusedSimpArgs false
set_option maxRecDepth 100000 in
set_option maxHeartbeats 12800000 in
theorem in_any (b : BdW) (g r c k : Nat) (w : World) (hB : BrdA w g b) (hb : BokW b) (hr : r < 5) (hc : c < 5) (hk : k < 16) :
    Calls Tryd.prog 28 #[.pointer (some ⟨g, 0, none⟩), .int .i64 (r : Int), .int .i64 (c : Int), .int .i64 (k : Int)] w fun e w' => e = .returned (.agg #[.int .i64 (inW b r c k).u, .int .i64 (inW b r c k).r, .int .i64 (inW b r c k).d, .int .i64 (inW b r c k).l]) ∧ Below w.heap.size w w' := by
  have gl := lt_blockT hB
  obtain ⟨t0, t1, t2, t3⟩ := hB.tile hk
  have W5 := hb.w5
  have W1 := hb.w1
  have H5 := hb.h5
  have H1 := hb.h1
  have HB := hide' (fun (V : World) (h : Below w.heap.size w V) => hB.below h)
  have IN := hide' (show inW b r c k = if b.ring = true then b.t k else ⟨if r = 0 then 0 else (b.t k).u, if c + 1 = b.W then 0 else (b.t k).r, if r + 1 = b.H then 0 else (b.t k).d, if c = 0 then 0 else (b.t k).l⟩ from rfl)
  obtain ⟨q, hq⟩ : ∃ q, inW b r c k = q := ⟨_, rfl⟩
  obtain ⟨t, ht⟩ : ∃ t, b.t k = t := ⟨_, rfl⟩
  rw [hq, ht] at IN
  rw [ht] at t0 t1 t2 t3
  rw [hq]
  clear hq ht hB hb
  have k0 : (0 : Int) ≤ (k : Int) := by omega
  have k16 : (k : Int) < 16 := by omega
  obtain ⟨w1, hw1⟩ : ∃ w1, w.alloc (.cells #[.int .i64 0, .int .i64 0, .int .i64 0, .int .i64 0] 47) = w1 := ⟨_, rfl⟩
  obtain ⟨w2, hw2⟩ : ∃ w2, w1.alloc (.cells #[.int .i64 t.u, .int .i64 t.r, .int .i64 t.d, .int .i64 t.l] 47) = w2 := ⟨_, rfl⟩
  have s1 : w1.heap.size = w.heap.size + 1 := by rw [← hw1]; simp
  have I2 := hide' (show InS w w2 t from ⟨by rw [← hw2, ← hw1]; exact ((Below.refl _ _).alloc (Nat.le_refl _) _).alloc (by simp) _, by
    rw [← hw2, heap_alloc_old _ _ (by omega), ← hw1]; exact heap_alloc_new _ _, by
    rw [← hw2, ← s1]; exact heap_alloc_new _ _⟩)
  have rc := (HB.out w2 I2.out.1).isRing
  have HW := hide' (And.intro hw1 hw2)
  clear hw1 hw2 s1
  go_enter Tryd.func28, Tryd.ntmps28
  go_upto_region 2 with fail
  rw [HW.out.1, HW.out.2]
  obtain ⟨rg, hrg⟩ : ∃ rg, b.ring = rg := ⟨_, rfl⟩
  rw [hrg] at IN rc
  clear hrg t0 t1 t2 t3
  cases rg with
  | true =>
    rw [if_pos rfl] at IN
    have I2' := I2.out
    rw [← IN.out] at I2'
    have z0 := cell_of_row w2 _ 0 _ _ _ I2'.2.2
    have z1 := cell_of_row w2 _ 1 _ _ _ I2'.2.2
    have z2 := cell_of_row w2 _ 2 _ _ _ I2'.2.2
    have z3 := cell_of_row w2 _ 3 _ _ _ I2'.2.2
    simp at z0 z1 z2 z3
    have gb := I2'.2.1
    obtain ⟨O, hO⟩ : ∃ O, (#[.int .i64 q.u, .int .i64 q.r, .int .i64 q.d, .int .i64 q.l] : Array Value) = O := ⟨_, rfl⟩
    have os : O.size = 4 := by rw [← hO]; rfl
    have ol : O.all (·.oneCell') = true := by rw [← hO]; simp [Value.oneCell']
    have BB := hide' I2'.1
    clear I2' I2 IN
    go_wp2_with (first
      | (refine wpList_store_row rfl 47 _ _ rfl w.heap.size O rfl (by first | rfl | (rw [← hO]; rfl)) 47 _ gb (by rw [os]; kernel_rfl) (by rw [os]; rfl) ol ?_))
    refine bodyPost_ret (v := .agg O) (results_cell_row Tryd.results28 _ _ w.heap.size 47 _ (0, 0) _ rfl (setRow_heap _ _ _ _ _ _ gb) Tryd.underlying47 rfl (by rw [os]; kernel_rfl)) rfl ?_
    exact ⟨by rw [← hO], belowW_set BB.out (by omega) _⟩
  | false =>
    rw [if_neg (by simp)] at IN
    obtain ⟨ux, hux⟩ : ∃ v, (if r = 0 then 0 else t.u) = v := ⟨_, rfl⟩
    obtain ⟨rx, hrx⟩ : ∃ v, (if c + 1 = b.W then 0 else t.r) = v := ⟨_, rfl⟩
    obtain ⟨dx, hdx⟩ : ∃ v, (if r + 1 = b.H then 0 else t.d) = v := ⟨_, rfl⟩
    obtain ⟨lx, hlx⟩ : ∃ v, (if c = 0 then 0 else t.l) = v := ⟨_, rfl⟩
    rw [hux, hrx, hdx, hlx] at IN
    have HU := hide' hux
    have HR := hide' hrx
    have HD := hide' hdx
    have HL := hide' hlx
    clear hux hrx hdx hlx
    have I2a := I2.out
    go_upto_if 22 with fail
    go_cut [] (fun wx => Hid (InS w wx ⟨ux, t.r, t.d, t.l⟩))
    case first =>
      by_cases x0 : (r : Int) = 0
      · have xb : ((r : Int) == 0) = true := by simp; omega
        have fz := frozen_of_row w2 _ 0 _ _ I2a.2.2
        have cz := cell_of_row w2 _ 0 _ _ _ I2a.2.2
        simp at cz
        have NX := hide' (show InS w (w2.setCell ⟨w.heap.size + 1, 0, none⟩ (.int .i64 0)) ⟨ux, t.r, t.d, t.l⟩ from I2.out.set (by rw [show ux = 0 by rw [← HU.out, if_pos (by omega)]]; rfl))
        clear x0 I2a
        go_wp2_with fail
        go_meet
        exact NX
      · have xb : ((r : Int) == 0) = false := by simp; omega
        have NX := hide' (show InS w w2 ⟨ux, t.r, t.d, t.l⟩ by rw [show ux = t.u by rw [← HU.out, if_neg (by omega)]]; exact I2.out)
        clear x0 I2a
        go_wp2_with fail
        go_meet
        exact NX
    case rest =>
    obtain ⟨w3, rfl⟩ : ∃ v, v = wc := ⟨_, rfl⟩
    have Iw3a := hcut.out
    have Iw3 := hide' hcut.out
    clear hcut
    obtain ⟨W', eW⟩ : ∃ v, b.W - 1 = v := ⟨_, rfl⟩
    have EW : (b.W : Int) - 1 = (W' : Int) := by omega
    have cw := (HB.out w3 Iw3a.1).wide
    go_upto_if 30 with fail
    go_cut [] (fun wx => Hid (InS w wx ⟨ux, rx, t.d, t.l⟩))
    case first =>
      by_cases x0 : (c : Int) = (W' : Int)
      · have xb : ((c : Int) == (W' : Int)) = true := by simp; omega
        have fz := frozen_of_row w3 _ 1 _ _ Iw3a.2.2
        have cz := cell_of_row w3 _ 1 _ _ _ Iw3a.2.2
        simp at cz
        have NX := hide' (show InS w (w3.setCell ⟨w.heap.size + 1, 1, none⟩ (.int .i64 0)) ⟨ux, rx, t.d, t.l⟩ from Iw3.out.set (by rw [show rx = 0 by rw [← HR.out, if_pos (by omega)]]; rfl))
        clear x0 Iw3a
        go_wp2_with fail
        go_meet
        exact NX
      · have xb : ((c : Int) == (W' : Int)) = false := by simp; omega
        have NX := hide' (show InS w w3 ⟨ux, rx, t.d, t.l⟩ by rw [show rx = t.r by rw [← HR.out, if_neg (by omega)]]; exact Iw3.out)
        clear x0 Iw3a
        go_wp2_with fail
        go_meet
        exact NX
    case rest =>
    obtain ⟨w4, rfl⟩ : ∃ v, v = wc := ⟨_, rfl⟩
    have Iw4a := hcut.out
    have Iw4 := hide' hcut.out
    clear hcut
    obtain ⟨H', eH⟩ : ∃ v, b.H - 1 = v := ⟨_, rfl⟩
    have EH : (b.H : Int) - 1 = (H' : Int) := by omega
    have ch := (HB.out w4 Iw4a.1).high
    go_upto_if 38 with fail
    go_cut [] (fun wx => Hid (InS w wx ⟨ux, rx, dx, t.l⟩))
    case first =>
      by_cases x0 : (r : Int) = (H' : Int)
      · have xb : ((r : Int) == (H' : Int)) = true := by simp; omega
        have fz := frozen_of_row w4 _ 2 _ _ Iw4a.2.2
        have cz := cell_of_row w4 _ 2 _ _ _ Iw4a.2.2
        simp at cz
        have NX := hide' (show InS w (w4.setCell ⟨w.heap.size + 1, 2, none⟩ (.int .i64 0)) ⟨ux, rx, dx, t.l⟩ from Iw4.out.set (by rw [show dx = 0 by rw [← HD.out, if_pos (by omega)]]; rfl))
        clear x0 Iw4a
        go_wp2_with fail
        go_meet
        exact NX
      · have xb : ((r : Int) == (H' : Int)) = false := by simp; omega
        have NX := hide' (show InS w w4 ⟨ux, rx, dx, t.l⟩ by rw [show dx = t.d by rw [← HD.out, if_neg (by omega)]]; exact Iw4.out)
        clear x0 Iw4a
        go_wp2_with fail
        go_meet
        exact NX
    case rest =>
    obtain ⟨w5, rfl⟩ : ∃ v, v = wc := ⟨_, rfl⟩
    have Iw5a := hcut.out
    have Iw5 := hide' hcut.out
    clear hcut
    go_upto_if 41 with fail
    go_cut [] (fun wx => Hid (InS w wx ⟨ux, rx, dx, lx⟩))
    case first =>
      by_cases x0 : (c : Int) = 0
      · have xb : ((c : Int) == 0) = true := by simp; omega
        have fz := frozen_of_row w5 _ 3 _ _ Iw5a.2.2
        have cz := cell_of_row w5 _ 3 _ _ _ Iw5a.2.2
        simp at cz
        have NX := hide' (show InS w (w5.setCell ⟨w.heap.size + 1, 3, none⟩ (.int .i64 0)) ⟨ux, rx, dx, lx⟩ from Iw5.out.set (by rw [show lx = 0 by rw [← HL.out, if_pos (by omega)]]; rfl))
        clear x0 Iw5a
        go_wp2_with fail
        go_meet
        exact NX
      · have xb : ((c : Int) == 0) = false := by simp; omega
        have NX := hide' (show InS w w5 ⟨ux, rx, dx, lx⟩ by rw [show lx = t.l by rw [← HL.out, if_neg (by omega)]]; exact Iw5.out)
        clear x0 Iw5a
        go_wp2_with fail
        go_meet
        exact NX
    case rest =>
    obtain ⟨w6, rfl⟩ : ∃ v, v = wc := ⟨_, rfl⟩
    have I6 := hcut.out
    clear hcut
    rw [← IN.out] at I6
    have z0 := cell_of_row w6 _ 0 _ _ _ I6.2.2
    have z1 := cell_of_row w6 _ 1 _ _ _ I6.2.2
    have z2 := cell_of_row w6 _ 2 _ _ _ I6.2.2
    have z3 := cell_of_row w6 _ 3 _ _ _ I6.2.2
    simp at z0 z1 z2 z3
    have gb := I6.2.1
    obtain ⟨O, hO⟩ : ∃ O, (#[.int .i64 q.u, .int .i64 q.r, .int .i64 q.d, .int .i64 q.l] : Array Value) = O := ⟨_, rfl⟩
    have os : O.size = 4 := by rw [← hO]; rfl
    have ol : O.all (·.oneCell') = true := by rw [← hO]; simp [Value.oneCell']
    have BB := hide' I6.1
    clear I6 IN
    go_wp2_with (first
      | (refine wpList_store_row rfl 47 _ _ rfl w.heap.size O rfl (by first | rfl | (rw [← hO]; rfl)) 47 _ gb (by rw [os]; kernel_rfl) (by rw [os]; rfl) ol ?_))
    refine bodyPost_ret (v := .agg O) (results_cell_row Tryd.results28 _ _ w.heap.size 47 _ (0, 0) _ rfl (setRow_heap _ _ _ _ _ _ gb) Tryd.underlying47 rfl (by rw [os]; kernel_rfl)) rfl ?_
    exact ⟨by rw [← hO], belowW_set BB.out (by omega) _⟩
end Go.Proofs.YthmeapplnocfjaaDoor

namespace Go.Proofs.YthmeapplnocfjaaDoor
open Go.RowKit
set_option linter.unusedVariables false
set_option linter.unusedSimpArgs false
end Go.Proofs.YthmeapplnocfjaaDoor

