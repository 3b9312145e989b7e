/-
  What the last text of this claim leans on, part 39: Gu2.
-/
import Derived.Test.YtlpdobfjgpedaaaDoorZe38
namespace Go.Proofs.YtlpdobfjgpedaaaDoor
open Go.RowKit
set_option linter.unusedVariables false
theorem torS_mid {W H x y : Nat} (xs : List Int) (xl : x < W) (yl : y < H) : torC W H xs x y 1 1 = xs.getD (y * W + x) 0 := by
  unfold torC
  rw [show y + (H - 1 + 1) = y + H by omega, show x + (W - 1 + 1) = x + W by omega, Nat.add_mod_right, Nat.add_mod_right, Nat.mod_eq_of_lt xl, Nat.mod_eq_of_lt yl]
theorem torS_nat {W H x y : Nat} {xs : List Int} (hx : ∀ k, 0 ≤ xs.getD k 0 ∧ xs.getD k 0 ≤ 1) (xl : x < W) (yl : y < H) : 0 ≤ torS W H xs x y 9 ∧ torS W H xs x y 9 ≤ 9 := by
  have b := torS_bound (W := W) (H := H) hx x y 9
  refine ⟨?_, by have := b.2; push_cast at this; omega⟩
  have m := torS_mid (H := H) xs xl yl
  have c : ∀ i j, 0 ≤ torC W H xs x y i j := fun i j => (hx _).1
  unfold torS
  simp only [sumG, Nat.reduceDiv, Nat.reduceMod]
  rw [m]
  have := c 0 0; have := c 0 1; have := c 0 2; have := c 1 0; have := c 1 2; have := c 2 0; have := c 2 1; have := c 2 2
  omega
/-- What stands on rings a step later. -/
def torV (born stay W H : Nat) (xs : List Int) (i : Nat) : Int := ((becN born stay (xs.getD i 0) (torS W H xs (i % W) (i / W) 9).toNat : Nat) : Int)
def torL (born stay W H : Nat) (xs : List Int) : List Int := (List.range (W * H)).map (torV born stay W H xs)
def TorBad (f : Nat) (w : World) (e : Ending) (w' : World) : Prop := e = .returned (.tuple #[.agg #[.int .i64 0, .int .i64 0, .slice none 0 0], errOf f]) ∧ Below w.heap.size w w'
set_option maxRecDepth 100000 in
set_option maxHeartbeats 6400000 in
theorem torus_bad (o : Out) (ta : Option Addr) (tn tc : Nat) (W H : Int) (xs : List Int) (a : Option Addr) (n c : Nat) (f : Nat) (w : World) (hR : ArgR w o ta tn tc) (hP : ArgP w xs a n c) (hf : plaE o W H xs f) (f0 : f ≠ 0) :
    Calls Tryd.prog 14 #[.agg #[.int .i64 o.kind, .int .i64 o.born, .int .i64 o.stay, .int .i64 o.states, .int .i64 o.radius, .slice ta tn tc, .string o.turns], .agg #[.int .i64 W, .int .i64 H, .slice a n c]] w (TorBad f w) := by
  obtain ⟨w1, hw1⟩ : ∃ w1, ((w.alloc (.cells #[.int .i64 o.kind, .int .i64 o.born, .int .i64 o.stay, .int .i64 o.states, .int .i64 o.radius, .slice ta tn tc, .string o.turns] 24)).alloc (.cells #[.int .i64 W, .int .i64 H, .slice a n c] 26)).alloc (.cells #[.int .i64 0, .int .i64 0, .slice none 0 0] 26) = w1 := ⟨_, rfl⟩
  have BB := hide' (show Below w.heap.size w w1 by rw [← hw1]; repeat (first | exact Below.refl _ _ | refine Below.alloc ?_ (by simp; try omega) _))
  have g0 : w1.heap[w.heap.size]? = some (.cells #[.int .i64 o.kind, .int .i64 o.born, .int .i64 o.stay, .int .i64 o.states, .int .i64 o.radius, .slice ta tn tc, .string o.turns] 24 (0, 0)) := by rw [← hw1, Below.heap_alloc _ _ _ (by simp; try omega), Below.heap_alloc _ _ _ (by simp; try omega)]; exact heap_atX _ _ _ (by simp)
  have g1 : w1.heap[w.heap.size + 1]? = some (.cells #[.int .i64 W, .int .i64 H, .slice a n c] 26 (0, 0)) := by rw [← hw1, Below.heap_alloc _ _ _ (by simp; try omega)]; exact heap_atX _ _ _ (by simp)
  have g2 : w1.heap[w.heap.size + 1 + 1]? = some (.cells #[.int .i64 0, .int .i64 0, .slice none 0 0] 26 (0, 0)) := by rw [← hw1]; exact heap_atX _ _ _ (by simp)
  have x0 := cell_of_row w1 _ 0 _ _ _ g0
  have x1 := cell_of_row w1 _ 1 _ _ _ g0
  have x2 := cell_of_row w1 _ 2 _ _ _ g0
  have x3 := cell_of_row w1 _ 3 _ _ _ g0
  have x4 := cell_of_row w1 _ 4 _ _ _ g0
  have x5 := cell_of_row w1 _ 5 _ _ _ g0
  have x6 := cell_of_row w1 _ 6 _ _ _ g0
  simp at x0 x1 x2 x3 x4 x5 x6
  have y0 := cell_of_row w1 _ 0 _ _ _ g1
  have y1 := cell_of_row w1 _ 1 _ _ _ g1
  have y2 := cell_of_row w1 _ 2 _ _ _ g1
  simp at y0 y1 y2
  have CC := hide' (planeCheck_any o ta tn tc W H xs a n c w1 (hR.below BB.out) (hP.below BB.out))
  have G2 := hide' g2
  have HF := hide' hf
  have F0 := hide' f0
  clear hR hP g0 g1 g2 hf f0
  go_enter Tryd.func14, Tryd.ntmps14
  go_wp2_with fail
  refine CC.out.mono ?_
  rintro e w2 ⟨⟨g, hg, rfl⟩, b2⟩
  rw [plaE_only hg HF.out]
  have e2 := (b2.block _ (lt_of_block G2.out)).trans G2.out
  have r0 := cell_of_row w2 _ 0 _ _ _ e2
  have r1 := cell_of_row w2 _ 1 _ _ _ e2
  have r2 := cell_of_row w2 _ 2 _ _ _ e2
  simp at r0 r1 r2
  have f0 := frozen_of_row w2 _ 0 _ _ e2
  have f1 := frozen_of_row w2 _ 1 _ _ e2
  have f2 := frozen_of_row w2 _ 2 _ _ e2
  have BQ := hide' (BB.out.trans (b2.mono BB.out.size))
  have EF := hide' (show errOf f = .iface 54 (.int .i64 (f : Int)) from if_neg F0.out)
  rw [EF.out]
  clear hg b2 hw1 e2 x0 x1 x2 x3 x4 x5 x6 y0 y1 y2
  go_wp2
  refine bodyPost_ret (v := .tuple #[.agg #[.int .i64 0, .int .i64 0, .slice none 0 0], .iface 54 (.int .i64 (f : Int))]) (by simp [results, Tryd.results14, go_sem, r0, r1, r2]) rfl ?_
  exact ⟨by rw [EF.out], ((BQ.out.setCell (by simp; omega) _).setCell (by simp; omega) _).setCell (by simp; omega) _⟩
/-- What lies there while the rings are gone round. -/
structure PY (w w2 wr : World) (W H : Nat) (n p q : Nat) (f : Nat → Value) : Prop where
  keep : ∀ k, k < w2.heap.size → wr.heap[k]? = w2.heap[k]?
  pat : wr.heap[p]? = some (.cells #[.int .i64 (W : Int), .int .i64 (H : Int), .slice (some ⟨q, 0, none⟩) n n] 26 (0, 0))
  out : wr.heap[q]? = some (.cells (arrF n f) 3 (0, 0))
  pl : w2.heap.size ≤ p
  ql : w2.heap.size ≤ q
  ne : p ≠ q
  below : Below w.heap.size w wr
theorem PY.next {w w2 wr w' : World} {W H n p q : Nat} {f : Nat → Value} (h : PY w w2 wr W H n p q f) (b : Below wr.heap.size wr w') : PY w w2 w' W H n p q f := by
  have l := lt_of_block h.pat
  have := h.pl
  exact ⟨fun k hk => (b.block k (by omega)).trans (h.keep k hk), (b.block _ l).trans h.pat, (b.block _ (lt_of_block h.out)).trans h.out, h.pl, h.ql, h.ne, h.below.trans (b.mono h.below.size)⟩
theorem PY.set {w w2 wr : World} {W H n p q : Nat} {f : Nat → Value} (h : PY w w2 wr W H n p q f) (hb : w.heap.size ≤ w2.heap.size) (i : Nat) (v : Value) : PY w w2 (wr.setCell ⟨q, i, none⟩ v) W H n p q (fun k => if k = i then v else f k) :=
  ⟨fun k hk => (Below.heap_setCell _ _ _ _ (by have := h.ql; simp; omega)).trans (h.keep k hk), two_other h.pat _ _ _ h.ne, by rw [heap_setCell_same _ _ _ _ _ _ h.out, arrF_set], h.pl, h.ql, h.ne, h.below.setCell (by have := h.ql; simp; omega) _⟩
theorem PY.ext {w w2 wr : World} {W H n p q : Nat} {f g : Nat → Value} (h : PY w w2 wr W H n p q f) (e : ∀ k, k < n → f k = g k) : PY w w2 wr W H n p q g := ⟨h.keep, h.pat, by rw [← arrF_ext e]; exact h.out, h.pl, h.ql, h.ne, h.below⟩
set_option maxRecDepth 100000 in
set_option maxHeartbeats 12800000 in
theorem torus_good (o : Out) (ta : Option Addr) (tn tc : Nat) (W H : Nat) (xs : List Int) (a : Option Addr) (n c : Nat) (born stay : Nat) (w : World) (hR : ArgR w o ta tn tc) (hP : ArgP w xs a n c) (hf : plaE o (W : Int) (H : Int) xs 0) (hb : o.born = (born : Int)) (hs : o.stay = (stay : Int)) (b5 : born ≤ 511) (s5 : stay ≤ 511) (hn : xs.length = W * H) (hx : ∀ k, 0 ≤ xs.getD k 0 ∧ xs.getD k 0 ≤ 1) (hW : W ≤ 100) (hH : H ≤ 100) :
    Calls Tryd.prog 14 #[.agg #[.int .i64 o.kind, .int .i64 o.born, .int .i64 o.stay, .int .i64 o.states, .int .i64 o.radius, .slice ta tn tc, .string o.turns], .agg #[.int .i64 (W : Int), .int .i64 (H : Int), .slice a n c]] w fun e w' => (∃ q, e = .returned (.tuple #[.agg #[.int .i64 (W : Int), .int .i64 (H : Int), .slice (some ⟨q, 0, none⟩) (W * H) (W * H)], .nilIface]) ∧ Tab w' (.slice (some ⟨q, 0, none⟩) (W * H) (W * H)) (torL born stay W H xs)) ∧ Below w.heap.size w w' := by
  obtain ⟨w1, hw1⟩ : ∃ w1, ((w.alloc (.cells #[.int .i64 o.kind, .int .i64 o.born, .int .i64 o.stay, .int .i64 o.states, .int .i64 o.radius, .slice ta tn tc, .string o.turns] 24)).alloc (.cells #[.int .i64 (W : Int), .int .i64 (H : Int), .slice a n c] 26)).alloc (.cells #[.int .i64 0, .int .i64 0, .slice none 0 0] 26) = w1 := ⟨_, rfl⟩
  have BB := hide' (show Below w.heap.size w w1 by rw [← hw1]; repeat (first | exact Below.refl _ _ | refine Below.alloc ?_ (by simp; try omega) _))
  have g0 : w1.heap[w.heap.size]? = some (.cells #[.int .i64 o.kind, .int .i64 o.born, .int .i64 o.stay, .int .i64 o.states, .int .i64 o.radius, .slice ta tn tc, .string o.turns] 24 (0, 0)) := by rw [← hw1, Below.heap_alloc _ _ _ (by simp; try omega), Below.heap_alloc _ _ _ (by simp; try omega)]; exact heap_atX _ _ _ (by simp)
  have g1 : w1.heap[w.heap.size + 1]? = some (.cells #[.int .i64 (W : Int), .int .i64 (H : Int), .slice a n c] 26 (0, 0)) := by rw [← hw1, Below.heap_alloc _ _ _ (by simp; try omega)]; exact heap_atX _ _ _ (by simp)
  have g2 : w1.heap[w.heap.size + 1 + 1]? = some (.cells #[.int .i64 0, .int .i64 0, .slice none 0 0] 26 (0, 0)) := by rw [← hw1]; exact heap_atX _ _ _ (by simp)
  have x0 := cell_of_row w1 _ 0 _ _ _ g0
  have x1 := cell_of_row w1 _ 1 _ _ _ g0
  have x2 := cell_of_row w1 _ 2 _ _ _ g0
  have x3 := cell_of_row w1 _ 3 _ _ _ g0
  have x4 := cell_of_row w1 _ 4 _ _ _ g0
  have x5 := cell_of_row w1 _ 5 _ _ _ g0
  have x6 := cell_of_row w1 _ 6 _ _ _ g0
  simp at x0 x1 x2 x3 x4 x5 x6
  have y0 := cell_of_row w1 _ 0 _ _ _ g1
  have y1 := cell_of_row w1 _ 1 _ _ _ g1
  have y2 := cell_of_row w1 _ 2 _ _ _ g1
  simp at y0 y1 y2
  have CC := hide' (planeCheck_any o ta tn tc (W : Int) (H : Int) xs a n c w1 (hR.below BB.out) (hP.below BB.out))
  have NL : n = W * H := by rw [hP.len]; exact hn
  have n4 : n ≤ 10000 := by rw [NL]; exact Nat.mul_le_mul hW hH
  have hmk := run_make_row' (P := Tryd.prog) 22 3 (.int .i64 0) 8 Tryd.underlying22 info_int rfl .i64 .i64 n (by omega) (by omega)
  have NH := hide' NL
  have G0 := hide' g0
  have G1 := hide' g1
  have G2 := hide' g2
  have HF := hide' hf
  have HP := hide' (hP.below BB.out)
  have HX := hide' hx
  have HN := hide' hn
  have AR := hide' (fun (x y : Nat) (V : World) (hV : Below w1.heap.size w1 V) (xl : x < W) (yl : y < H) => around_any W H x y xs a n c V (HP.out.below hV) hn hx hW hH xl yl)
  have BC := hide' (fun (cv : Int) (m : Nat) (V : World) (hm : m ≤ 9) => show Calls Tryd.prog 29 #[.agg #[.int .i64 o.kind, .int .i64 o.born, .int .i64 o.stay, .int .i64 o.states, .int .i64 o.radius, .slice ta tn tc, .string o.turns], .int .i64 cv, .int .i64 (m : Int)] V (fun e w' => e = .returned (.int .i64 ((becN born stay cv m : Nat) : Int)) ∧ Below V.heap.size V w') from by
    rw [hb, hs]; exact becomes_any o.kind cv o.states o.radius born stay ta tn tc o.turns m V b5 s5 hm)
  clear hR hP g0 g1 g2 hf NL hb hs hx hn
  go_enter Tryd.func14, Tryd.ntmps14
  go_wp2_with fail
  refine CC.out.mono ?_
  rintro e w2 ⟨⟨g, hg, rfl⟩, b2⟩
  rw [plaE_only hg HF.out]
  rw [show errOf 0 = .nilIface from rfl]
  have e0 := (b2.block _ (lt_of_block G0.out)).trans G0.out
  have e1 := (b2.block _ (lt_of_block G1.out)).trans G1.out
  have e2 := (b2.block _ (lt_of_block G2.out)).trans G2.out
  have z0 := cell_of_row w2 _ 0 _ _ _ e1
  have z1 := cell_of_row w2 _ 1 _ _ _ e1
  have z2 := cell_of_row w2 _ 2 _ _ _ e1
  simp at z0 z1 z2
  have E0 := hide' e0
  have E1 := hide' e1
  have E2 := hide' e2
  have B2 := hide' b2
  have BW := hide' (BB.out.trans (b2.mono BB.out.size))
  have WS := hide' BW.out.size
  clear hg b2 hw1 e0 e1 e2 x0 x1 x2 x3 x4 x5 x6 y0 y1 y2
  go_wp2
  refine cut3P (P := fun p q V => Hid (PY w w2 V W H n p q (fun _ => .int .i64 0))) (Φ := ?PH) (fun CUT => ?mn) ?rs
  case mn =>
    go_region_held3 (fun V => V.cell? ⟨w.heap.size + 1, 0, none⟩ = some (.int .i64 (W : Int)) ∧ V.cell? ⟨w.heap.size + 1, 1, none⟩ = some (.int .i64 (H : Int)) ∧ V.cell? ⟨w.heap.size + 1, 2, none⟩ = some (.slice a n c)) (first | exact ⟨z0, z1, z2⟩ | go_keep) (fail)
    · obtain ⟨p, hp⟩ : ∃ p, w2.heap.size + 1 = p := ⟨_, rfl⟩
      obtain ⟨q, hq⟩ : ∃ q, w2.heap.size = q := ⟨_, rfl⟩
      rw [hp, hq]
      obtain ⟨V, hV⟩ : ∃ V, ((w2.alloc (.cells (madeCells #[.int .i64 0] n) 3)).alloc (.cells #[.int .i64 (W : Int), .int .i64 (H : Int), .slice (some ⟨q, 0, none⟩) n n] 26)).drew = V := ⟨_, rfl⟩
      rw [hV]
      have T8 := hide' (show PY w w2 V W H n p q (fun _ => .int .i64 0) from by
        have ws := WS.out
        rw [← hV]
        exact ⟨fun k hk => drew_keep ((Below.heap_alloc _ _ _ (by simp; omega)).trans (Below.heap_alloc _ _ _ (by omega))), drew_block (heap_atX _ _ _ (by simp; omega)), drew_block ((Below.heap_alloc _ _ _ (by simp; omega)).trans (by rw [made_arr]; exact heap_atX _ _ _ (by omega))), by omega, by omega, by omega, ((BW.out.alloc (by omega) _).alloc (by simp; omega) _).drew⟩)
      exact CUT _ _ _ T8
    · obtain ⟨q, hp⟩ : ∃ p, w2.heap.size + 1 = p := ⟨_, rfl⟩
      obtain ⟨p, hq⟩ : ∃ q, w2.heap.size = q := ⟨_, rfl⟩
      rw [hp, hq]
      obtain ⟨V, hV⟩ : ∃ V, ((w2.alloc (.cells #[.int .i64 (W : Int), .int .i64 (H : Int), .slice (some ⟨q, 0, none⟩) n n] 26)).alloc (.cells (madeCells #[.int .i64 0] n) 3)).drew = V := ⟨_, rfl⟩
      rw [hV]
      have T8 := hide' (show PY w w2 V W H n p q (fun _ => .int .i64 0) from by
        have ws := WS.out
        rw [← hV]
        exact ⟨fun k hk => drew_keep ((Below.heap_alloc _ _ _ (by simp; omega)).trans (Below.heap_alloc _ _ _ (by omega))), drew_block ((Below.heap_alloc _ _ _ (by simp; omega)).trans (heap_atX _ _ _ (by omega))), drew_block (by rw [made_arr]; exact heap_atX _ _ _ (by simp; omega)), by omega, by omega, by omega, ((BW.out.alloc (by omega) _).alloc (by simp; omega) _).drew⟩)
      exact CUT _ _ _ T8
  case rs =>
    intro p q V T8
    have v1 := (T8.out.keep _ (lt_of_block E1.out)).trans E1.out
    have v2 := cell_of_row V _ 2 _ _ _ v1
    simp at v2
    clear v1
    go_wp2
    go_loopw [29] (fun iv wr => ∃ (i : Nat), iv = .int .i64 (i : Int) ∧ i ≤ n ∧ Hid (PY w w2 wr W H n p q (fun k => .int .i64 (if k < i then torV born stay W H xs k else 0)))) (fun iv _ => n - (intOf iv).toNat)
    case atStart => exact ⟨0, rfl, by omega, hide' (T8.out.ext (fun k _ => by simp))⟩
    case round =>
      obtain ⟨i, rfl, hi, H1⟩ := hrel
      by_cases d2 : (i : Int) < (n : Int)
      · have il : i < W * H := by rw [← NH.out]; omega
        obtain ⟨x, y, hx, hy, ex, ey, exy⟩ := split_lt (W := W) (H := H) (i := i) il
        have BX : Below w1.heap.size w1 wr := ⟨H1.out.below.os.trans BB.out.os.symm, H1.out.below.tape.trans BB.out.tape.symm, H1.out.below.output.trans BB.out.output.symm, by
          have := B2.out.size
          have l := lt_of_block H1.out.pat
          have := H1.out.pl
          omega, fun k hk => (H1.out.keep k (Nat.lt_of_lt_of_le hk B2.out.size)).trans (B2.out.block k hk)⟩
        have BXH := hide' BX
        obtain ⟨g, off, ea, hc⟩ := (HP.out.below BX).atP (k := i) (by omega)
        subst ea
        obtain ⟨cv, hcv⟩ : ∃ cv, xs.getD i 0 = cv := ⟨_, rfl⟩
        rw [hcv] at hc
        have e1 : (i : Int).tmod (W : Int) = (x : Int) := by rw [Int.tmod_eq_emod_of_nonneg (by omega), ← ex]; simp
        have e2 : (i : Int).tdiv (W : Int) = (y : Int) := by rw [Int.tdiv_eq_ediv_of_nonneg (by omega), ← ey]; simp
        have nW : ¬ (W : Int) = 0 := by omega
        have tb := torS_nat HX.out hx hy
        obtain ⟨m, hm⟩ : ∃ m : Nat, torS W H xs x y 9 = (m : Int) := ⟨(torS W H xs x y 9).toNat, by omega⟩
        have m9 : m ≤ 9 := by omega
        have ARX := hide' (fun (V : World) (hV : Below w1.heap.size w1 V) => AR.out x y V hV hx hy)
        rw [hm] at ARX
        obtain ⟨rv, hrv⟩ : ∃ rv : Int, ((becN born stay cv m : Nat) : Int) = rv := ⟨_, rfl⟩
        have BCX := hide' (fun (V : World) => BC.out cv m V m9)
        rw [hrv] at BCX
        have SV := hide' (fun (V : World) (fn : Nat → Value) (hV : PY w w2 V W H n p q fn) => show V.cell? ⟨p, 2, none⟩ = some (.slice (some ⟨q, 0, none⟩) n n) ∧ V.cell? ⟨w.heap.size, 0, none⟩ = some (.int .i64 o.kind) ∧ V.cell? ⟨w.heap.size, 1, none⟩ = some (.int .i64 o.born) ∧ V.cell? ⟨w.heap.size, 2, none⟩ = some (.int .i64 o.stay) ∧ V.cell? ⟨w.heap.size, 3, none⟩ = some (.int .i64 o.states) ∧ V.cell? ⟨w.heap.size, 4, none⟩ = some (.int .i64 o.radius) ∧ V.cell? ⟨w.heap.size, 5, none⟩ = some (.slice ta tn tc) ∧ V.cell? ⟨w.heap.size, 6, none⟩ = some (.string o.turns) ∧ V.cell? ⟨w.heap.size + 1, 0, none⟩ = some (.int .i64 (W : Int)) ∧ V.cell? ⟨w.heap.size + 1, 1, none⟩ = some (.int .i64 (H : Int)) ∧ V.cell? ⟨w.heap.size + 1, 2, none⟩ = some (.slice (some ⟨g, off, none⟩) n c) from by
          have e0 := (hV.keep _ (lt_of_block E0.out)).trans E0.out
          have e1 := (hV.keep _ (lt_of_block E1.out)).trans E1.out
          exact ⟨cell_of_row V _ 2 _ _ _ hV.pat, cell_of_row V _ 0 _ _ _ e0, cell_of_row V _ 1 _ _ _ e0, cell_of_row V _ 2 _ _ _ e0, cell_of_row V _ 3 _ _ _ e0, cell_of_row V _ 4 _ _ _ e0, cell_of_row V _ 5 _ _ _ e0, cell_of_row V _ 6 _ _ _ e0, cell_of_row V _ 0 _ _ _ e1, cell_of_row V _ 1 _ _ _ e1, cell_of_row V _ 2 _ _ _ e1⟩)
        have NX := hide' (fun (V : World) (hV : PY w w2 V W H n p q (fun k => .int .i64 (if k < i then torV born stay W H xs k else 0))) => show PY w w2 (V.setCell ⟨q, i, none⟩ (.int .i64 rv)) W H n p q (fun k => .int .i64 (if k < i + 1 then torV born stay W H xs k else 0)) from
          (hV.set WS.out i _).ext (fun k _ => by
            by_cases z : k = i
            · subst z
              rw [if_pos rfl, if_pos (Nat.lt_succ_self _), torV, ex, ey, hcv, hm, Int.toNat_natCast, hrv]
            · rw [if_neg z]
              by_cases z2 : k < i
              · rw [if_pos z2, if_pos (by omega)]
              · rw [if_neg z2, if_neg (by omega)]))
        have CO := hide' (fun (V : World) (hV : PY w w2 V W H n p q (fun k => .int .i64 (if k < i then torV born stay W H xs k else 0))) => (show V.cell? ⟨q, i, none⟩ = some (.int .i64 0) ∧ V.frozen? ⟨q, i, none⟩ = false from ⟨by rw [cell_of_row V _ _ _ _ _ hV.out, arrF_get _ (by omega), if_neg (by omega)], frozen_of_row V _ i _ _ hV.out⟩))
        have x2' := cell_of_row wr _ 2 _ _ _ ((H1.out.keep _ (lt_of_block E1.out)).trans E1.out)
        simp at x2'
        have w1' := wrap_natP x (by omega)
        have w2' := wrap_natP y (by omega)
        have nW1 : ((W : Int) == 0) = false := by simpa using nW
        have nW2 : ¬ W = 0 := by omega
        have w3' : IntKind.i64.wrap ((i : Int).tmod (W : Int)) = (x : Int) := by rw [e1]; exact w1'
        have w4' : IntKind.i64.wrap ((i : Int).tdiv (W : Int)) = (y : Int) := by rw [e2]; exact w2'
        clear ex ey exy hcv hm hrv tb il BX hx hy
        go_wp2
        go_region_held3 (fun V => V.cell? ⟨p, 2, none⟩ = some (.slice (some ⟨q, 0, none⟩) n n) ∧ V.cell? ⟨w.heap.size, 0, none⟩ = some (.int .i64 o.kind) ∧ V.cell? ⟨w.heap.size, 1, none⟩ = some (.int .i64 o.born) ∧ V.cell? ⟨w.heap.size, 2, none⟩ = some (.int .i64 o.stay) ∧ V.cell? ⟨w.heap.size, 3, none⟩ = some (.int .i64 o.states) ∧ V.cell? ⟨w.heap.size, 4, none⟩ = some (.int .i64 o.radius) ∧ V.cell? ⟨w.heap.size, 5, none⟩ = some (.slice ta tn tc) ∧ V.cell? ⟨w.heap.size, 6, none⟩ = some (.string o.turns) ∧ V.cell? ⟨w.heap.size + 1, 0, none⟩ = some (.int .i64 (W : Int)) ∧ V.cell? ⟨w.heap.size + 1, 1, none⟩ = some (.int .i64 (H : Int)) ∧ V.cell? ⟨w.heap.size + 1, 2, none⟩ = some (.slice (some ⟨g, off, none⟩) n c)) (first | exact SV.out _ _ H4.out | exact SV.out _ _ H3.out | exact SV.out _ _ H2.out | exact SV.out wr.drew _ ⟨H1.out.keep, H1.out.pat, H1.out.out, H1.out.pl, H1.out.ql, H1.out.ne, ⟨H1.out.below.os, H1.out.below.tape, H1.out.below.output, H1.out.below.size, H1.out.below.block⟩⟩ | fail)
          (first
            | (go_at_call 30; refine (ARX.out wr.drew ⟨BXH.out.os, BXH.out.tape, BXH.out.output, BXH.out.size, BXH.out.block⟩).mono ?_; rintro e w6 ⟨rfl, b6⟩; have H2 := hide' (H1.out.next (show Below wr.heap.size wr w6 from ⟨b6.os, b6.tape, b6.output, b6.size, b6.block⟩)); clear b6)
            | (go_at_call 29; refine (BCX.out _).mono ?_; rintro e w7 ⟨rfl, b7⟩; have H3 := hide' (H2.out.next b7); obtain ⟨cz, fz⟩ := CO.out w7 H3.out; have H4 := hide' (NX.out w7 H3.out); clear b7)
            | fail)
        go_wp2
        exact ⟨⟨i + 1, by go_num, by omega, H4⟩, by simp [intOf]; omega⟩
      · have iN : i = n := by omega
        have HF2 := H1.out
        rw [iN] at HF2
        have g1 := (HF2.keep _ (lt_of_block E2.out)).trans E2.out
        have o_0 := cell_of_row wr _ 0 _ _ _ HF2.pat
        have o_1 := cell_of_row wr _ 1 _ _ _ HF2.pat
        have o_2 := cell_of_row wr _ 2 _ _ _ HF2.pat
        simp at o_0 o_1 o_2
        have r0 := cell_of_row wr _ 0 _ _ _ g1
        have r1 := cell_of_row wr _ 1 _ _ _ g1
        have r2 := cell_of_row wr _ 2 _ _ _ g1
        simp at r0 r1 r2
        have f0 := frozen_of_row wr _ 0 _ _ g1
        have f1 := frozen_of_row wr _ 1 _ _ g1
        have f2 := frozen_of_row wr _ 2 _ _ g1
        have QO := hide' (HF2.ext (g := fun k => .int .i64 (torV born stay W H xs k)) (fun k hk => by rw [if_pos hk]))
        have l2 := lt_of_block E2.out
        clear iN HF2 g1
        go_wp2
        refine bodyPost_ret (v := .tuple #[.agg #[.int .i64 (W : Int), .int .i64 (H : Int), .slice (some ⟨q, 0, none⟩) n n], .nilIface]) (by simp [results, Tryd.results14, go_sem, r0, r1, r2]) rfl ?_
        have qn : q ≠ w.heap.size + 1 + 1 := by have := QO.out.ql; omega
        refine ⟨⟨q, by rw [NH.out], ?_⟩, ((QO.out.below.setCell (by simp; omega) _).setCell (by simp; omega) _).setCell (by simp; omega) _⟩
        have qb := two_other (two_other (two_other QO.out.out (w.heap.size + 1 + 1) 0 (.int .i64 (W : Int)) qn) (w.heap.size + 1 + 1) 1 (.int .i64 (H : Int)) qn) (w.heap.size + 1 + 1) 2 (.slice (some ⟨q, 0, none⟩) n n) qn
        rw [NH.out] at qb ⊢
        refine Or.inr ⟨q, W * H, by simp [torL], lt_of_block qb, fun k hk => ?_⟩
        have hk2 : k < W * H := by simpa [torL] using hk
        rw [cell_of_row _ _ _ _ _ _ qb, arrF_get _ hk2]
        simp [torL]
end Go.Proofs.YtlpdobfjgpedaaaDoor

