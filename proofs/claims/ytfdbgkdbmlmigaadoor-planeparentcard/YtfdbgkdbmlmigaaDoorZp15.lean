/-
  What the last text of this claim leans on, part 15: Pp4, Pp5.
-/
import Derived.Test.YtfdbgkdbmlmigaaDoorZp14
import Derived.Maps.OwnSet
import Derived.Maps.OwnOps
import Derived.WideKeyArgs
import Derived.DeepKeys4
namespace Go.Proofs.YtfdbgkdbmlmigaaDoor
open Go.RowKit
open Go.Maps (Keyed)
set_option linter.unusedVariables false
theorem laidOutE : laidOutB Tryd.prog = true := by kernel_rfl
theorem typesE : Tryd.prog.types.size = 134 := by kernel_rfl
theorem rowEn : (63 : TypeId) < Tryd.prog.types.size := of_decide_eq_true (by kernel_rfl)
theorem cellsE : Tryd.prog.cellsOf 63 = 3 := by kernel_rfl
theorem cellsEi : Tryd.prog.cellsOf 3 = 1 := by kernel_rfl
theorem deepE : Tryd.prog.keyType 63 = true := by kernel_rfl
theorem wideE : (match Tryd.prog.underlying 63 with | some (.array _ _) | some (.struct _) => true | _ => false) = true := by rw [Tryd.underlying63]
set_option maxRecDepth 100000 in
theorem lawE : Keyed Tryd.prog 63 := Keyed.of_law (deep_law_laid laidOutE (m := 3) (by omega) rowEn (by kernel_rfl) wideE)
theorem formedE {x y z : Int} : (Value.agg #[.int .i64 x, .int .i64 y, .int .i64 z]).formed Tryd.prog 63 = true := by simp [Value.formed, Tryd.underlying63, cellsE]
def kE (x y z : Nat) : Lit := .string (keyBytes [.int .i64 (x : Int), .int .i64 (y : Int), .int .i64 (z : Int)])
theorem wfE {x : Nat} (h : x < 1024) : (Lit.int .i64 (x : Int)).wf = true := WalkArith.wf_i64 (by omega)
theorem key_ends {x y z : Nat} (hx : x < 1024) (hy : y < 1024) (hz : z < 1024) : keyOf Tryd.prog 63 (.agg #[.int .i64 (x : Int), .int .i64 (y : Int), .int .i64 (z : Int)]) = some (kE x y z) := by
  have h1 := wfE hx
  have h2 := wfE hy
  have h2' := wfE hz
  unfold keyOf kE
  rw [Tryd.underlying63]
  simp only [deepE, formedE, Bool.and_self, if_true]
  have h3 : Tryd.prog.keyLits (Tryd.prog.types.size + 1) 63 (Value.agg #[.int .i64 (x : Int), .int .i64 (y : Int), .int .i64 (z : Int)]).cells.toList = some [.int .i64 (x : Int), .int .i64 (y : Int), .int .i64 (z : Int)] := by
    obtain ⟨n, hn⟩ : ∃ n, Tryd.prog.types.size = n + 1 := ⟨134 - 1, by rw [typesE]⟩
    rw [hn]
    simp [Program.keyLits, Tryd.underlying63, Tryd.underlying3, Value.cells, cellsEi, cellsE, h1, h2, h2']
  rw [h3]
  rfl
theorem kE_inj {x y z u v t : Nat} (hx : x < 1024) (hy : y < 1024) (hz : z < 1024) (hu : u < 1024) (hv : v < 1024) (ht : t < 1024) (h : kE x y z = kE u v t) : x = u ∧ y = v ∧ z = t := by
  have := lawE.inj (key_ends hx hy hz) ((key_ends hu hv ht).trans (by rw [h]))
  have h3 : (x : Int) = u ∧ (y : Int) = v ∧ (z : Int) = t := by simpa using this
  omega
def hereL (rs : List Nat) : Nat := rs.getD (rs.length - 1) 0
def aboveL (rs : List Nat) : Nat := if rs.length < 2 then 0 else rs.getD (rs.length - 2) 0
/-- Rows as they lie. -/
def RowL (w : World) (rs : List Nat) (a : Option Addr) : Prop := ∀ k, k < rs.length → ∃ g, a = some ⟨g, 0, none⟩ ∧ w.cell? ⟨g, k, none⟩ = some (.int .i64 (rs.getD k 0 : Int))
set_option maxRecDepth 100000 in
set_option maxHeartbeats 6400000 in
theorem ends_anyP (k st ra : Int) (born stay : Nat) (ta : Option Addr) (tn tc : Nat) (s : ByteArray) (W2 H2 : Nat) (wv mv : Value) (sb : Nat) (rs : List Nat) (a : Option Addr) (m q : Nat) (w : World) (hS : w.heap[sb]? = some (.cells (seV k st ra born stay ta tn tc s W2 H2 wv (.slice a m q) mv) 60 (0, 0))) (hR : RowL w rs a) (hm : m = rs.length) (m7 : m ≤ 7) :
    Calls Tryd.prog 23 #[.pointer (some ⟨sb, 0, none⟩)] w fun e w' => e = .returned (.agg #[.int .i64 (m : Int), .int .i64 (aboveL rs : Int), .int .i64 (if m = 0 then 0 else (hereL rs : Int))]) ∧ Below w.heap.size w w' := by
  obtain ⟨w1, hw1⟩ : ∃ w1, w.alloc (.cells #[.int .i64 0, .int .i64 0, .int .i64 0] 63) = w1 := ⟨_, rfl⟩
  have B1 := hide' (show Below w.heap.size w w1 by rw [← hw1]; exact (Below.refl _ _).alloc (Nat.le_refl _) _)
  have R0 := hide' (show w1.heap[w.heap.size]? = some (.cells #[.int .i64 0, .int .i64 0, .int .i64 0] 63 (0, 0)) by rw [← hw1]; exact heap_alloc_new w _)
  obtain ⟨w2, hw2⟩ : ∃ w2, w1.alloc (.cells #[.int .i64 (m : Int), .int .i64 0, .int .i64 0] 63) = w2 := ⟨_, rfl⟩
  have B2 := hide' (show Below w.heap.size w w2 by rw [← hw2]; exact B1.out.alloc B1.out.size _)
  have Z0 := hide' (show w2.heap[w.heap.size]? = some (.cells #[.int .i64 0, .int .i64 0, .int .i64 0] 63 (0, 0)) by rw [← hw2]; exact (heap_alloc_old w1 _ (lt_of_block R0.out)).trans R0.out)
  have c10 := cell_of_row w1 _ 10 _ _ _ ((B1.out.block sb (lt_of_block hS)).trans hS)
  simp [seV] at c10
  have d10 := cell_of_row w2 _ 10 _ _ _ ((B2.out.block sb (lt_of_block hS)).trans hS)
  simp [seV] at d10
  have R1 := hide' (show w2.heap[w1.heap.size]? = some (.cells #[.int .i64 (m : Int), .int .i64 0, .int .i64 0] 63 (0, 0)) by rw [← hw2]; exact heap_alloc_new _ _)
  have NE := hide' (show w.heap.size < w1.heap.size from lt_of_block R0.out)
  obtain ⟨eb, heb⟩ : ∃ eb, w1.heap.size = eb := ⟨_, rfl⟩
  rw [heb] at R1 NE
  have HEB := hide' heb
  have y0 := cell_of_row w2 _ 0 _ _ _ R1.out
  have y1 := cell_of_row w2 _ 1 _ _ _ R1.out
  have y2 := cell_of_row w2 _ 2 _ _ _ R1.out
  have g0 := frozen_of_row w2 _ 0 _ _ R1.out
  have g1 := frozen_of_row w2 _ 1 _ _ R1.out
  have g2 := frozen_of_row w2 _ 2 _ _ R1.out
  simp at y0 y1 y2
  have RR := hide' (fun k hk => (show ∃ g, a = some ⟨g, 0, none⟩ ∧ g < w.heap.size ∧ w2.cell? ⟨g, k, none⟩ = some (.int .i64 (rs.getD k 0 : Int)) by
    obtain ⟨g, e, h⟩ := hR k hk
    have hg : g < w.heap.size := by
      rcases Nat.lt_or_ge g w.heap.size with q | q
      · exact q
      · simp [World.cell?, Array.getElem?_eq_none q] at h
    exact ⟨g, e, hg, by rw [← h]; exact World.cell?_of_block (B2.out.block g hg)⟩))
  have SL := hide' (lt_of_block hS)
  have HW1 := hide' hw1
  have HW2 := hide' hw2
  have OUT := hide' (fun (x y z : Int) (V : World) (hv : V.heap[w.heap.size]? = some (.cells #[.int .i64 0, .int .i64 0, .int .i64 0] 63 (0, 0))) => And.intro (And.intro (cell_of_row V _ 0 _ _ _ hv) (And.intro (cell_of_row V _ 1 _ _ _ hv) (cell_of_row V _ 2 _ _ _ hv))) (And.intro (frozen_of_row V _ 0 _ _ hv) (And.intro (frozen_of_row V _ 1 _ _ hv) (frozen_of_row V _ 2 _ _ hv))))
  clear hR hw1 hw2 heb
  rcases (show m = 0 ∨ m = 1 ∨ 2 ≤ m by omega) with rfl | h1 | h2
  · have hr : rs = [] := List.eq_nil_of_length_eq_zero hm.symm
    subst hr
    obtain ⟨⟨z0, z1, z2⟩, f0, f1, f2⟩ := OUT.out 0 0 0 w2 Z0.out
    simp at z0 z1 z2
    rw [show ((0 : Nat) : Int) = 0 from rfl] at HW2 y0
    clear hS hm d10
    go_enter Tryd.func23, Tryd.ntmps23
    go_upto_region 1 with fail
    rw [HW1.out]
    go_upto_region 2 with fail
    rw [HW2.out, HEB.out]
    go_wp2
    refine bodyPost_ret (v := .agg #[.int .i64 0, .int .i64 0, .int .i64 0]) (by simp [results, Tryd.results23, go_sem, z0, z1, z2]) rfl ?_
    refine ⟨rfl, ?_⟩
    repeat (first | exact B2.out | refine Below.setCell ?_ (by simp) _)
  · have m0 : ¬ m = 0 := by omega
    rw [if_neg m0]
    obtain ⟨j, hj⟩ : ∃ j, m - 1 = j := ⟨_, rfl⟩
    obtain ⟨g, rfl, gl, r0⟩ := RR.out j (by omega)
    have h0 := hide' (show rs.getD j 0 = hereL rs by unfold hereL; rw [← hm, hj])
    rw [h0.out] at r0
    have e1 : (m : Int) - 1 = (j : Int) := by omega
    have j0 : (0 : Int) ≤ (j : Int) := by omega
    have jm : (j : Int) < (m : Int) := by omega
    have m1 : (1 : Int) ≤ (m : Int) := by omega
    have jw : IntKind.i64.wrap (j : Int) = (j : Int) := by simp [IntKind.wrap, IntKind.bits, IntKind.signed]; omega
    have m2 : ¬ (2 : Int) ≤ (m : Int) := by omega
    have A0 := hide' (show aboveL rs = 0 by unfold aboveL; rw [← hm, if_pos (by omega)])
    rw [A0.out]
    obtain ⟨h, hh⟩ : ∃ h, hereL rs = h := ⟨_, rfl⟩
    rw [hh] at r0 ⊢
    obtain ⟨w3, hw3⟩ : ∃ w3, (w2.setCell ⟨eb, 2, none⟩ (.int .i64 (h : Int))).drew = w3 := ⟨_, rfl⟩
    have OT := hide' (show ∀ j, j ≠ eb → w3.heap[j]? = w2.heap[j]? from fun j hj => by rw [← hw3]; exact Below.heap_setCell _ _ _ _ (by simpa using hj))
    have R3 := hide' (show w3.heap[eb]? = some (.cells #[.int .i64 (m : Int), .int .i64 0, .int .i64 (h : Int)] 63 (0, 0)) by rw [← hw3]; show (w2.setCell _ _).heap[eb]? = _; rw [heap_setCell_same _ _ _ _ _ _ R1.out]; rfl)
    have B3 := hide' (show Below w.heap.size w w3 by rw [← hw3]; exact (B2.out.setCell (by have := NE.out; simp; omega) _).drew)
    have Z3 := hide' ((OT.out w.heap.size (by have := NE.out; omega)).trans Z0.out)
    have x0 := cell_of_row w3 _ 0 _ _ _ R3.out
    have x1 := cell_of_row w3 _ 1 _ _ _ R3.out
    have x2 := cell_of_row w3 _ 2 _ _ _ R3.out
    have v1 := frozen_of_row w3 _ 1 _ _ R3.out
    simp at x0 x1 x2
    have HW3 := hide' hw3
    have SG := hide' (show sb ≠ eb ∧ g ≠ eb by have := SL.out; have := NE.out; omega)
    clear hw3 gl
    clear hS hm hj hh m0 h1
    go_enter Tryd.func23, Tryd.ntmps23
    go_upto_region 1 with fail
    rw [HW1.out]
    go_upto_region 2 with fail
    rw [HW2.out, HEB.out]
    go_wp2
    go_region
    rw [HW3.out]
    obtain ⟨⟨z0, z1, z2⟩, f0, f1, f2⟩ := OUT.out 0 0 0 w3 Z3.out
    simp at z0 z1 z2
    clear y0 y1 y2 g0 g1 g2 c10 d10 r0
    go_wp2
    refine bodyPost_ret (v := .agg #[.int .i64 (m : Int), .int .i64 0, .int .i64 (h : Int)]) (by simp [results, Tryd.results23, go_sem, z0, z1, z2]) rfl ?_
    refine ⟨rfl, ?_⟩
    repeat (first | exact B3.out | refine Below.setCell ?_ (by simp) _)
  · have m0 : ¬ m = 0 := by omega
    rw [if_neg m0]
    obtain ⟨j, hj⟩ : ∃ j, m - 1 = j := ⟨_, rfl⟩
    obtain ⟨g, rfl, gl, r0⟩ := RR.out j (by omega)
    have h0 := hide' (show rs.getD j 0 = hereL rs by unfold hereL; rw [← hm, hj])
    rw [h0.out] at r0
    have e1 : (m : Int) - 1 = (j : Int) := by omega
    have j0 : (0 : Int) ≤ (j : Int) := by omega
    have jm : (j : Int) < (m : Int) := by omega
    have m1 : (1 : Int) ≤ (m : Int) := by omega
    have jw : IntKind.i64.wrap (j : Int) = (j : Int) := by simp [IntKind.wrap, IntKind.bits, IntKind.signed]; omega
    have m2 : (2 : Int) ≤ (m : Int) := by omega
    obtain ⟨i, hi⟩ : ∃ i, m - 2 = i := ⟨_, rfl⟩
    obtain ⟨g', eg, -, r2⟩ := RR.out i (by omega)
    cases eg
    have a0 := hide' (show rs.getD i 0 = aboveL rs by unfold aboveL; rw [← hm, if_neg (by omega), hi])
    rw [a0.out] at r2
    have e2 : (m : Int) - 2 = (i : Int) := by omega
    have i0 : (0 : Int) ≤ (i : Int) := by omega
    have im : (i : Int) < (m : Int) := by omega
    have iw : IntKind.i64.wrap (i : Int) = (i : Int) := by simp [IntKind.wrap, IntKind.bits, IntKind.signed]; omega
    obtain ⟨u, hu⟩ : ∃ u, aboveL rs = u := ⟨_, rfl⟩
    rw [hu] at r2 ⊢
    obtain ⟨h, hh⟩ : ∃ h, hereL rs = h := ⟨_, rfl⟩
    rw [hh] at r0 ⊢
    obtain ⟨w3, hw3⟩ : ∃ w3, (w2.setCell ⟨eb, 2, none⟩ (.int .i64 (h : Int))).drew = w3 := ⟨_, rfl⟩
    have OT := hide' (show ∀ j, j ≠ eb → w3.heap[j]? = w2.heap[j]? from fun j hj => by rw [← hw3]; exact Below.heap_setCell _ _ _ _ (by simpa using hj))
    have R3 := hide' (show w3.heap[eb]? = some (.cells #[.int .i64 (m : Int), .int .i64 0, .int .i64 (h : Int)] 63 (0, 0)) by rw [← hw3]; show (w2.setCell _ _).heap[eb]? = _; rw [heap_setCell_same _ _ _ _ _ _ R1.out]; rfl)
    have B3 := hide' (show Below w.heap.size w w3 by rw [← hw3]; exact (B2.out.setCell (by have := NE.out; simp; omega) _).drew)
    have Z3 := hide' ((OT.out w.heap.size (by have := NE.out; omega)).trans Z0.out)
    have x0 := cell_of_row w3 _ 0 _ _ _ R3.out
    have x1 := cell_of_row w3 _ 1 _ _ _ R3.out
    have x2 := cell_of_row w3 _ 2 _ _ _ R3.out
    have v1 := frozen_of_row w3 _ 1 _ _ R3.out
    simp at x0 x1 x2
    have HW3 := hide' hw3
    have SG := hide' (show sb ≠ eb ∧ g ≠ eb by have := SL.out; have := NE.out; omega)
    clear hw3 gl
    clear hS hm hj hh m0 hi hu h2
    go_enter Tryd.func23, Tryd.ntmps23
    go_upto_region 1 with fail
    rw [HW1.out]
    go_upto_region 2 with fail
    rw [HW2.out, HEB.out]
    go_wp2
    go_region
    rw [HW3.out]
    have d3 := (World.cell?_of_block (a := ⟨sb, 10, none⟩) (OT.out sb SG.out.1)).trans d10
    have r3 := (World.cell?_of_block (a := ⟨g, i, none⟩) (OT.out g SG.out.2)).trans r2
    clear y0 y1 y2 g0 g1 g2 c10 d10 r0 r2
    obtain ⟨w4, hw4⟩ : ∃ w4, (w3.setCell ⟨eb, 1, none⟩ (.int .i64 (u : Int))).drew = w4 := ⟨_, rfl⟩
    have OT4 := hide' (show ∀ j, j ≠ eb → w4.heap[j]? = w3.heap[j]? from fun j hj => by rw [← hw4]; exact Below.heap_setCell _ _ _ _ (by simpa using hj))
    have R4 := hide' (show w4.heap[eb]? = some (.cells #[.int .i64 (m : Int), .int .i64 (u : Int), .int .i64 (h : Int)] 63 (0, 0)) by rw [← hw4]; show (w3.setCell _ _).heap[eb]? = _; rw [heap_setCell_same _ _ _ _ _ _ R3.out]; rfl)
    have B4 := hide' (show Below w.heap.size w w4 by rw [← hw4]; exact (B3.out.setCell (by have := NE.out; simp; omega) _).drew)
    have Z4 := hide' ((OT4.out w.heap.size (by have := NE.out; omega)).trans Z3.out)
    have HW4 := hide' hw4
    clear hw4
    go_wp2
    go_region
    rw [HW4.out]
    have t0 := cell_of_row w4 _ 0 _ _ _ R4.out
    have t1 := cell_of_row w4 _ 1 _ _ _ R4.out
    have t2 := cell_of_row w4 _ 2 _ _ _ R4.out
    simp at t0 t1 t2
    obtain ⟨⟨z0, z1, z2⟩, f0, f1, f2⟩ := OUT.out 0 0 0 w4 Z4.out
    simp at z0 z1 z2
    clear x0 x1 x2 v1 d3 r3
    go_wp2
    refine bodyPost_ret (v := .agg #[.int .i64 (m : Int), .int .i64 (u : Int), .int .i64 (h : Int)]) (by simp [results, Tryd.results23, go_sem, z0, z1, z2]) rfl ?_
    refine ⟨rfl, ?_⟩
    repeat (first | exact B4.out | refine Below.setCell ?_ (by simp) _)
end Go.Proofs.YtfdbgkdbmlmigaaDoor

namespace Go.Proofs.YtfdbgkdbmlmigaaDoor
set_option linter.unusedVariables false
theorem ext_congr {T a : Nat} {ok : (Nat → Nat) → Nat → Prop} {g h x : Nat → Nat} (e : ∀ i, i < a → g i = h i) (hx : ExtB T ok g a x) : ExtB T ok h a x := ⟨fun i hi => by rw [hx.1 i hi, e i hi], hx.2⟩
theorem best_congr {T a : Nat} {ok : (Nat → Nat) → Nat → Prop} {g h x : Nat → Nat} (e : ∀ i, i < a → g i = h i) (hx : BestB T ok g a x) : BestB T ok h a x :=
  ⟨ext_congr e hx.1, fun y hy => hx.2 y (ext_congr (fun i hi => (e i hi).symm) hy)⟩
theorem none_congr {T a : Nat} {ok : (Nat → Nat) → Nat → Prop} {g h : Nat → Nat} (e : ∀ i, i < a → g i = h i) (hx : NoneB T ok g a) : NoneB T ok h a := fun y hy => hx y (ext_congr (fun i hi => (e i hi).symm) hy)
/-- The cells of rows. -/
def gR (w : Nat) (rs : List Nat) : Nat → Nat := fun i => rowBit w (rs.getD (i / w) 0) (i % w)
theorem gR_at {w : Nat} (rs : List Nat) {y x : Nat} (hx : x < w) : gR w rs (y * w + x) = rowBit w (rs.getD y 0) x := by
  unfold gR
  rw [Nat.mul_comm, Nat.mul_add_div (by omega), Nat.div_eq_of_lt hx, Nat.mul_add_mod, Nat.mod_eq_of_lt hx, Nat.add_zero]
theorem set_app {w : Nat} (w0 : 0 < w) (rs : List Nat) (v : Nat) : ∀ i, i < rs.length * w + w → setR (gR w rs) w rs.length v i = gR w (rs ++ [v]) i := fun i hi => by
  unfold setR
  split
  · rename_i q
    obtain ⟨x, hx⟩ : ∃ x, i - rs.length * w = x := ⟨_, rfl⟩
    rw [show i = rs.length * w + x by omega, gR_at _ (by omega), show rs.length * w + x - rs.length * w = x by omega]
    simp [List.getD]
  · rename_i q
    have hl : i / w < rs.length := (Nat.div_lt_iff_lt_mul w0).2 (by omega)
    unfold gR
    rw [show (rs ++ [v]).getD (i / w) 0 = rs.getD (i / w) 0 by simp [List.getD, List.getElem?_append_left hl]]
/-- Nothing comes of so many rows whose last two are these. -/
def DeadR (T w : Nat) (ok : (Nat → Nat) → Nat → Prop) (r a h : Nat) : Prop := ∀ rs : List Nat, rs.length = r → aboveL rs = a → hereL rs = h → NoneB T ok (gR w rs) (r * w)
theorem dead_of {T w born stay : Nat} {pc : Nat → Int} (w0 : 0 < w) {rs : List Nat} (hn : NoneB T (okP born stay w pc) (gR w rs) (rs.length * w)) : DeadR T w (okP born stay w pc) rs.length (aboveL rs) (hereL rs) := by
  intro rs2 hl ha hh
  refine none_same (L := (rs.length - 2) * w) (okP_row born stay w pc T rs.length) (fun j j1 j2 => ?_) hn
  have hq : j / w < rs.length := (Nat.div_lt_iff_lt_mul w0).2 j2
  have hp : rs.length - 2 ≤ j / w := (Nat.le_div_iff_mul_le w0).2 j1
  unfold gR
  congr 1
  by_cases e : j / w = rs.length - 1
  · rw [e]
    unfold hereL at hh
    rw [hl] at hh
    exact hh.symm
  · have e2 : j / w = rs.length - 2 := by omega
    rw [e2]
    unfold aboveL at ha
    rw [hl, if_neg (by omega), if_neg (by omega)] at ha
    exact ha.symm
/-- A row does just where the program says so. -/
theorem row_iff {w born stay v : Nat} {pc : Nat → Int} {wt : Nat → Nat} (w2 : 2 ≤ w) {rs : List Nat} (h2 : 2 ≤ rs.length) (hp : ∀ c, c < w - 2 → pc ((rs.length - 2) * (w - 2) + c) = (bitN (wt (rs.length - 2)) (w - 3 - c) : Int)) :
    rowOk (okP born stay w pc) (setR (gR w rs) w rs.length v) w rs.length ↔ mkAll born stay (aboveL rs) (hereL rs) v (wt (rs.length - 2)) (w - 2) = true := by
  obtain ⟨m, hm⟩ : ∃ m, rs.length = m + 2 := ⟨rs.length - 2, by omega⟩
  have ea : aboveL rs = rs.getD m 0 := by unfold aboveL; rw [if_neg (by omega), hm]; rfl
  have eh : hereL rs = rs.getD (m + 1) 0 := by unfold hereL; rw [hm]; rfl
  rw [mkAll_yes]
  have lo : ∀ y x, y < m + 2 → x < w → setR (gR w rs) w (m + 2) v (y * w + x) = rowBit w (rs.getD y 0) x := fun y x hy hx => by
    unfold setR
    have : y * w + w ≤ (m + 2) * w := by
      have := Nat.mul_le_mul_right w (show y + 1 ≤ m + 2 by omega)
      rw [Nat.add_mul, Nat.one_mul] at this
      exact this
    rw [if_neg (by omega), gR_at _ hx]
  rw [hm, ea, eh]
  rw [hm] at hp
  simp only [Nat.add_sub_cancel] at hp ⊢
  exact row_ok (a := rs.getD m 0) (h := rs.getD (m + 1) 0) (b := v) (wanted := wt m) w2 (fun x hx => lo m x (by omega) hx) (fun x hx => lo (m + 1) x (by omega) hx) (fun x hx => by unfold setR; rw [if_pos (by omega), show (m + 2) * w + x - (m + 2) * w = x by omega]) hp
/-- How many a search may come to know, at most. -/
def cF : Nat → Nat
  | 0 => 0
  | d + 1 => 1 + 128 * cF d
theorem cF_le : ∀ d, d ≤ 7 → cF d ≤ 4432676798593 := fun d hd => by
  rcases (show d = 0 ∨ d = 1 ∨ d = 2 ∨ d = 3 ∨ d = 4 ∨ d = 5 ∨ d = 6 ∨ d = 7 by omega) with rfl | rfl | rfl | rfl | rfl | rfl | rfl | rfl <;> decide
end Go.Proofs.YtfdbgkdbmlmigaaDoor

