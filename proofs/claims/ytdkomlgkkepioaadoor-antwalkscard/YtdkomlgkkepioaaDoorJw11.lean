/-
  What the last text of this claim leans on, part 11: Ab2, Ab3, Ab4.
-/
import Derived.Test.YtdkomlgkkepioaaDoorJw8
import Derived.Test.YtdkomlgkkepioaaDoorJw10
import Derived.Test.YtdkomlgkkepioaaDoorJw7
import Derived.BigRegion
import Derived.Deep.RegionHeld3
import Derived.Deep.CutRange
namespace Go.Proofs.YtdkomlgkkepioaaDoor
open Go.RowKit
set_option linter.unusedVariables false
/-- What a map of colours holds. -/
structure MCo (D : DataW Unit) (col : Int → Int → Nat) : Prop where
  at' : ∀ x y, inC x → inC y → D.atKey (kC x y) (.lit (.int .i64 0)) = .lit (.int .i64 (col x y : Int))
  has : ∀ x y, inC x → inC y → Maps.has D (kC x y) = decide (col x y ≠ 0)
  keys : ∀ kl, Maps.has D kl = true → ∃ x y, inC x ∧ inC y ∧ kl = kC x y
  isMap : Maps.IsMap D
  out : ∀ x y, ¬ (inC x ∧ inC y) → col x y = 0
theorem MCo.empty : MCo (.map []) (fun _ _ => 0) := ⟨fun _ _ _ _ => rfl, fun _ _ _ _ => rfl, (fun kl h => by cases h), Maps.isMap_empty, fun _ _ _ => rfl⟩
theorem kC_ne {x y u v : Int} (hx : inC x) (hy : inC y) (hu : inC u) (hv : inC v) (h : ¬ (u = x ∧ v = y)) : kC u v ≠ kC x y := fun e => h (kC_inj hu hv hx hy e)
theorem MCo.put {D : DataW Unit} {col : Int → Int → Nat} (h : MCo D col) {x y : Int} (hx : inC x) (hy : inC y) {c : Nat} (hc : c ≠ 0) : MCo (D.put (kC x y) (.lit (.int .i64 (c : Int)))) (setA col x y c) := by
  have hk : WideAt.IsKeyLit (kC x y) := trivial
  refine ⟨fun u v hu hv => ?_, fun u v hu hv => ?_, fun kl hkl => ?_, h.isMap.put _ _, fun u v huv => ?_⟩
  · unfold setA
    by_cases e : u = x ∧ v = y
    · rw [if_pos e, e.1, e.2, Maps.atKey_put_same h.isMap hk]
    · rw [if_neg e, Maps.atKey_put_other (kC_ne hx hy hu hv e)]; exact h.at' u v hu hv
  · unfold setA
    by_cases e : u = x ∧ v = y
    · rw [if_pos e, e.1, e.2, Maps.has_put_same h.isMap hk]; simp [hc]
    · rw [if_neg e, Maps.has_put_other (kC_ne hx hy hu hv e)]; exact h.has u v hu hv
  · by_cases e : kl = kC x y
    · exact ⟨x, y, hx, hy, e⟩
    · rw [Maps.has_put_other e] at hkl; exact h.keys kl hkl
  · unfold setA
    rw [if_neg (fun e => huv (by rw [e.1, e.2]; exact ⟨hx, hy⟩))]
    exact h.out u v huv
theorem MCo.del {D : DataW Unit} {col : Int → Int → Nat} (h : MCo D col) {x y : Int} (hx : inC x) (hy : inC y) : MCo (D.del (kC x y)) (setA col x y 0) := by
  refine ⟨fun u v hu hv => ?_, fun u v hu hv => ?_, fun kl hkl => ?_, h.isMap.del _, fun u v huv => ?_⟩
  · unfold setA
    by_cases e : u = x ∧ v = y
    · rw [if_pos e, e.1, e.2, Maps.atKey_del_same]; rfl
    · rw [if_neg e, Maps.atKey_del_other (kC_ne hx hy hu hv e)]; exact h.at' u v hu hv
  · unfold setA
    by_cases e : u = x ∧ v = y
    · rw [if_pos e, e.1, e.2, Maps.has_del_same]; rfl
    · rw [if_neg e, Maps.has_del_other (kC_ne hx hy hu hv e)]; exact h.has u v hu hv
  · by_cases e : kl = kC x y
    · rw [e, Maps.has_del_same] at hkl; cases hkl
    · rw [Maps.has_del_other e] at hkl; exact h.keys kl hkl
  · unfold setA
    rw [if_neg (fun e => huv (by rw [e.1, e.2]; exact ⟨hx, hy⟩))]
    exact h.out u v huv
/-- The number by which a letter turns, as it lies. -/
def tuV (b : Bool) : Value := .complex .f64 0 (if b then 13830554455654793216 else 4607182418800017408)
/-- The struct of a walker as it lies. -/
def wkV (tb L mb ra ia rd id : Nat) : Array Value := #[.slice (some ⟨tb, 0, none⟩) L L, .map (some mb), .complex .f64 ra ia, .complex .f64 rd id]
structure WkB (w : World) (kb tb mb L : Nat) (x y : Int) (d : Nat) : Prop where
  blk : ∃ ra ia rd id, w.heap[kb]? = some (.cells (wkV tb L mb ra ia rd id) 214 (0, 0)) ∧ IsI ra x ∧ IsI ia (-y) ∧ IsI rd (dxA d) ∧ IsI id (-(dyA d))
theorem wrap_negA {y : Int} (h : inC y) : IntKind.i64.wrap (-(-y)) = y := by unfold inC at h; rw [Int.neg_neg]; simp [IntKind.wrap, IntKind.bits, IntKind.signed]; omega
set_option maxRecDepth 100000 in
set_option maxHeartbeats 6400000 in
theorem here_any (kb tb mb L d : Nat) (x y : Int) (w : World) (h : WkB w kb tb mb L x y d) (hx : inC x) (hy : inC y) :
    Calls Tryd.prog 119 #[.pointer (some ⟨kb, 0, none⟩)] w fun e w' => e = .returned (.agg #[.int .i64 x, .int .i64 y]) ∧ Below w.heap.size w w' := by
  obtain ⟨ra, ia, rd, id, hb, i1, i2, -, -⟩ := h.blk
  unfold wkV at hb
  obtain ⟨w1, hw1⟩ : ∃ w1, w.alloc (.cells #[.int .i64 0, .int .i64 0] 216) = w1 := ⟨_, rfl⟩
  have BB := hide' (show Below w.heap.size w w1 by rw [← hw1]; exact (Below.refl _ _).alloc (Nat.le_refl _) _)
  have g1 : w1.heap[w.heap.size]? = some (.cells #[.int .i64 0, .int .i64 0] 216 (0, 0)) := by rw [← hw1]; exact heap_alloc_new _ _
  have gk : w1.heap[kb]? = _ := (BB.out.block kb (lt_of_block hb)).trans hb
  have c2 := cell_of_row w1 _ 2 _ _ _ gk
  simp at c2
  have r0 := cell_of_row w1 _ 0 _ _ _ g1
  have r1 := cell_of_row w1 _ 1 _ _ _ g1
  simp at r0 r1
  have f0 := frozen_of_row w1 _ 0 _ _ g1
  have f1 := frozen_of_row w1 _ 1 _ _ g1
  have l1 := lt_of_block g1
  have hc1 := fun V => run_convert_float_int (P := Tryd.prog) V 217 3 .f64 .i64 ra x (by rw [Tryd.underlying217]; rfl) Tryd.underlying3 (IsI_toInt i1 (by unfold inC at hx; omega))
  have hc2 := fun V => run_convert_float_int (P := Tryd.prog) V 217 3 .f64 .i64 ia (-y) (by rw [Tryd.underlying217]; rfl) Tryd.underlying3 (IsI_toInt i2 (by unfold inC at hy; omega))
  have wn := wrap_negA hy
  obtain ⟨z, hz⟩ : ∃ z, -y = z := ⟨_, rfl⟩
  rw [hz] at hc2 wn
  have nz : -z = y := by omega
  obtain ⟨y1, y2⟩ := hy
  clear hb gk g1 i1 i2 h hz hx
  go_enter Tryd.func119, Tryd.ntmps119
  go_upto_region 1 with fail
  clear hw1
  go_region
  go_wp2
  refine bodyPost_ret (v := .agg #[.int .i64 x, .int .i64 y]) (by simp [results, Tryd.results119, go_sem, r0, r1]) rfl ?_
  exact ⟨rfl, ((BB.out.setCell (by simp) _).setCell (by simp) _).drew⟩
end Go.Proofs.YtdkomlgkkepioaaDoor

namespace Go.Proofs.YtdkomlgkkepioaaDoor
open Go.RowKit
set_option linter.unusedVariables false
theorem below_turned {w w' : World} {B b : Nat} (h : w.mapTurned w' b) (hb : B ≤ b) (hs : B ≤ w.heap.size) : Below B w w' := by
  have g := h.grown
  exact ⟨g.os, g.tape, g.output, g.size, fun k hk => g.block k (by omega) (fun e => by injection e; omega)⟩
theorem turned_other {w w' : World} {b : Nat} (h : w.mapTurned w' b) {j : Nat} (hj : j ≠ b) (hs : j < w.heap.size) : w'.heap[j]? = w.heap[j]? :=
  h.grown.block j hs (fun e => by injection e; exact hj (by omega))
def PaintPost (B mb n : Nat) (col : Int → Int → Nat) (w : World) (e : Ending) (w' : World) : Prop := e = .returned (.tuple #[]) ∧ (∃ D, w'.ownsMap Tryd.prog 216 (plainElem Tryd.prog 3) mb (n + 1) D ∧ MCo D col) ∧ (∀ j, j ≠ mb → j < w.heap.size → w'.heap[j]? = w.heap[j]?) ∧ Below B w w' ∧ w.heap.size ≤ w'.heap.size
set_option maxRecDepth 100000 in
set_option maxHeartbeats 6400000 in
theorem paint_zero (kb tb mb n L B : Nat) (ra ia rd id : Nat) (x y z : Int) (D : DataW Unit) (col : Int → Int → Nat) (w : World) (hb : w.heap[kb]? = some (.cells (wkV tb L mb ra ia rd id) 214 (0, 0))) (hm : w.ownsMap Tryd.prog 216 (plainElem Tryd.prog 3) mb n D) (hc : MCo D col) (hx : inC x) (hy : inC y) (L1 : 1 ≤ L) (L26 : L ≤ 26) (hz : -1 ≤ z ∧ z ≤ 26) (hv : (z + (L : Int)).tmod (L : Int) = 0) (hB : B ≤ mb) (hB2 : B ≤ w.heap.size) :
    Calls Tryd.prog 120 #[.pointer (some ⟨kb, 0, none⟩), .agg #[.int .i64 x, .int .i64 y], .int .i64 z] w (PaintPost B mb n (setA col x y 0) w) := by
  unfold wkV at hb
  obtain ⟨w1, hw1⟩ : ∃ w1, w.alloc (.cells #[.int .i64 x, .int .i64 y] 216) = w1 := ⟨_, rfl⟩
  have BB := hide' (show Below w.heap.size w w1 by rw [← hw1]; exact (Below.refl _ _).alloc (Nat.le_refl _) _)
  have g1 : w1.heap[w.heap.size]? = some (.cells #[.int .i64 x, .int .i64 y] 216 (0, 0)) := by rw [← hw1]; exact heap_alloc_new _ _
  have gk : w1.heap[kb]? = _ := (BB.out.block kb (lt_of_block hb)).trans hb
  have c0 := cell_of_row w1 _ 0 _ _ _ gk
  have c1 := cell_of_row w1 _ 1 _ _ _ gk
  have r0 := cell_of_row w1 _ 0 _ _ _ g1
  have r1 := cell_of_row w1 _ 1 _ _ _ g1
  simp at c0 c1 r0 r1
  have hm1 : w1.drew.drew.ownsMap Tryd.prog 216 (plainElem Tryd.prog 3) mb n D := by rw [← hw1]; exact (hm.alloc _).drew.drew
  obtain ⟨w2, hrun, hown, htu⟩ := hm1.drop (t := 211) lawC Tryd.underlying211 (key_cell hx hy) 0
  have PO := hide' (show PaintPost B mb n (setA col x y 0) w (.returned (.tuple #[])) w2 from by
    have ml : mb ≠ w.heap.size := fun e => by have := hm.lt; omega
    have sz : w1.heap.size = w.heap.size + 1 := by rw [← hw1]; simp
    have z2 : w1.heap.size ≤ w2.heap.size := htu.grown.size
    refine ⟨rfl, ⟨_, hown.mono (by omega), hc.del hx hy⟩, fun j h1 h2 => ?_, ?_, by show w.heap.size ≤ w2.heap.size; omega⟩
    · exact (turned_other htu h1 (by show j < w1.heap.size; omega)).trans (BB.out.block j h2)
    · exact ((BB.out.mono hB2).drew.drew).trans (below_turned htu hB (by show B ≤ w1.heap.size; omega)))
  have L0 : ¬ (L : Int) = 0 := by omega
  have L0b : ((L : Int) == 0) = false := by simp; omega
  obtain ⟨z1, z2⟩ := hz
  clear hb gk g1 hm1 hown htu hm hc hx hy
  go_enter Tryd.func120, Tryd.ntmps120
  go_upto_region 1 with fail
  clear hw1
  go_region
  go_wp2
  go_region
  go_wp2
  go_end0
  exact PO.out
set_option maxRecDepth 100000 in
set_option maxHeartbeats 6400000 in
theorem paint_some (v : Nat) (v0 : v ≠ 0) (vL : v < 27) (kb tb mb n L B : Nat) (n63 : n < 4611686018427387904) (ra ia rd id : Nat) (x y z : Int) (D : DataW Unit) (col : Int → Int → Nat) (w : World) (hb : w.heap[kb]? = some (.cells (wkV tb L mb ra ia rd id) 214 (0, 0))) (hm : w.ownsMap Tryd.prog 216 (plainElem Tryd.prog 3) mb n D) (hc : MCo D col) (hx : inC x) (hy : inC y) (L1 : 1 ≤ L) (L26 : L ≤ 26) (hz : -1 ≤ z ∧ z ≤ 26) (hv : (z + (L : Int)).tmod (L : Int) = (v : Int)) (hB : B ≤ mb) (hB2 : B ≤ w.heap.size) :
    Calls Tryd.prog 120 #[.pointer (some ⟨kb, 0, none⟩), .agg #[.int .i64 x, .int .i64 y], .int .i64 z] w (PaintPost B mb n (setA col x y v) w) := by
  unfold wkV at hb
  obtain ⟨w1, hw1⟩ : ∃ w1, w.alloc (.cells #[.int .i64 x, .int .i64 y] 216) = w1 := ⟨_, rfl⟩
  have BB := hide' (show Below w.heap.size w w1 by rw [← hw1]; exact (Below.refl _ _).alloc (Nat.le_refl _) _)
  have g1 : w1.heap[w.heap.size]? = some (.cells #[.int .i64 x, .int .i64 y] 216 (0, 0)) := by rw [← hw1]; exact heap_alloc_new _ _
  have gk : w1.heap[kb]? = _ := (BB.out.block kb (lt_of_block hb)).trans hb
  have c0 := cell_of_row w1 _ 0 _ _ _ gk
  have c1 := cell_of_row w1 _ 1 _ _ _ gk
  have r0 := cell_of_row w1 _ 0 _ _ _ g1
  have r1 := cell_of_row w1 _ 1 _ _ _ g1
  simp at c0 c1 r0 r1
  have hm1 : w1.drew.drew.ownsMap Tryd.prog 216 (plainElem Tryd.prog 3) mb n D := by rw [← hw1]; exact (hm.alloc _).drew.drew
  obtain ⟨w2, hrun, hown, htu⟩ := hm1.store (t := 211) lawC Tryd.underlying211 (by unfold maxLen; omega) (key_cell hx hy) (plainElem_int Tryd.underlying3 (WalkArith.wf_i64 (n := (v : Int)) (by omega)))
  have PO := hide' (show PaintPost B mb n (setA col x y v) w (.returned (.tuple #[])) w2 from by
    have ml : mb ≠ w.heap.size := fun e => by have := hm.lt; omega
    have sz : w1.heap.size = w.heap.size + 1 := by rw [← hw1]; simp
    have z2 : w1.heap.size ≤ w2.heap.size := htu.grown.size
    refine ⟨rfl, ⟨_, hown, hc.put hx hy v0⟩, fun j h1 h2 => ?_, ?_, by show w.heap.size ≤ w2.heap.size; omega⟩
    · exact (turned_other htu h1 (by show j < w1.heap.size; omega)).trans (BB.out.block j h2)
    · exact ((BB.out.mono hB2).drew.drew).trans (below_turned htu hB (by show B ≤ w1.heap.size; omega)))
  have v0i : ¬ (v : Int) = 0 := by omega
  have v0b : ((v : Int) == 0) = false := by simp; omega
  have L0 : ¬ (L : Int) = 0 := by omega
  have L0b : ((L : Int) == 0) = false := by simp; omega
  obtain ⟨z1, z2⟩ := hz
  clear hb gk g1 hm1 hown htu hm hc hx hy
  go_enter Tryd.func120, Tryd.ntmps120
  go_upto_region 1 with fail
  clear hw1
  go_region
  go_wp2
  go_region
  go_wp2
  go_end0
  exact PO.out
end Go.Proofs.YtdkomlgkkepioaaDoor

namespace Go.Proofs.YtdkomlgkkepioaaDoor
open Go.RowKit
set_option linter.unusedVariables false
theorem cmul_gen {a b c d : Nat} {n m p q : Int} (ha : IsI a n) (hb : IsI b m) (hc : IsI c p) (hd : IsI d q) (hn : -1 ≤ n ∧ n ≤ 1) (hm : -1 ≤ m ∧ m ≤ 1) (hp : -1 ≤ p ∧ p ≤ 1) (hq : -1 ≤ q ∧ q ≤ 1) : ∃ x y, cMulBits a b c d = some (x, y) ∧ IsI x (n * p - m * q) ∧ IsI y (n * q + m * p) := by
  have bd : ∀ u v : Int, -1 ≤ u ∧ u ≤ 1 → -1 ≤ v ∧ v ≤ 1 → (u * v).natAbs ≤ 1 := fun u v hu hv => by
    rcases (by omega : u = -1 ∨ u = 0 ∨ u = 1) with rfl | rfl | rfl <;> simp <;> omega
  have b1 := bd n p hn hp
  have b2 := bd m q hm hq
  have b3 := bd n q hn hq
  have b4 := bd m p hm hp
  obtain ⟨ac, e1, i1⟩ := IsI_mul ha hc (by omega)
  obtain ⟨bd', e2, i2⟩ := IsI_mul hb hd (by omega)
  obtain ⟨x, e3, i3⟩ := IsI_sub i1 i2 (by omega)
  obtain ⟨ad, e4, i4⟩ := IsI_mul ha hd (by omega)
  obtain ⟨bc, e5, i5⟩ := IsI_mul hb hc (by omega)
  obtain ⟨y, e6, i6⟩ := IsI_add i4 i5 (by omega)
  refine ⟨x, y, ?_, i3, i6⟩
  unfold cMulBits
  rw [e1, e2, e4, e5]
  simp only [Option.bind_some, e3, e6]
theorem csum_gen {a b c d : Nat} {n m p q : Int} (ha : IsI a n) (hb : IsI b m) (hc : IsI c p) (hd : IsI d q) (h1 : (n + p).natAbs ≤ 5000000) (h2 : (m + q).natAbs ≤ 5000000) : ∃ x y, cSumBits .add .f64 a b c d = some (x, y) ∧ IsI x (n + p) ∧ IsI y (m + q) := by
  obtain ⟨x, e1, i1⟩ := IsI_add ha hc (by omega)
  obtain ⟨y, e2, i2⟩ := IsI_add hb hd (by omega)
  refine ⟨x, y, ?_, i1, i2⟩
  unfold cSumBits
  rw [e1, e2]
  rfl
theorem csub_gen {a b c d : Nat} {n m p q : Int} (ha : IsI a n) (hb : IsI b m) (hc : IsI c p) (hd : IsI d q) (h1 : (n - p).natAbs ≤ 5000000) (h2 : (m - q).natAbs ≤ 5000000) : ∃ x y, cSumBits .sub .f64 a b c d = some (x, y) ∧ IsI x (n - p) ∧ IsI y (m - q) := by
  obtain ⟨x, e1, i1⟩ := IsI_sub ha hc (by omega)
  obtain ⟨y, e2, i2⟩ := IsI_sub hb hd (by omega)
  refine ⟨x, y, ?_, i1, i2⟩
  unfold cSumBits
  rw [e1, e2]
  rfl
theorem IsI_one : IsI 4607182418800017408 1 := by
  have := IsI_of 1 (by decide)
  rwa [show floatOfInt .f64 1 = 4607182418800017408 by decide +kernel] at this
theorem IsI_mone : IsI 13830554455654793216 (-1) := by
  have := IsI_of (-1) (by decide)
  rwa [show floatOfInt .f64 (-1) = 13830554455654793216 by decide +kernel] at this
def tuN (b : Bool) : Nat := if b then 13830554455654793216 else 4607182418800017408
theorem IsI_tu (b : Bool) : IsI (tuN b) (if b then -1 else 1) := by cases b; exact IsI_one; exact IsI_mone
theorem tuV_eq (b : Bool) : tuV b = .complex .f64 0 (tuN b) := rfl
theorem dx_near (d : Nat) : -1 ≤ dxA d ∧ dxA d ≤ 1 := by unfold dxA; split; omega; split <;> omega
theorem dy_near (d : Nat) : -1 ≤ dyA d ∧ dyA d ≤ 1 := by unfold dyA; split; omega; split <;> omega
/-- A turn, as a product. -/
theorem turn_mul (t : Nat → Bool) (c : Nat) {d : Nat} (h : d < 4) : dxA d * 0 - -(dyA d) * (if t c then -1 else 1) = dxA (trnA t c d) ∧ dxA d * (if t c then -1 else 1) + -(dyA d) * 0 = -(dyA (trnA t c d)) := by
  unfold trnA
  rcases (by omega : d = 0 ∨ d = 1 ∨ d = 2 ∨ d = 3) with rfl | rfl | rfl | rfl <;> cases t c <;> simp [dxA, dyA]
theorem paint_any (v : Nat) (kb tb mb n L B : Nat) (n63 : n < 4611686018427387904) (ra ia rd id : Nat) (x y z : Int) (D : DataW Unit) (col : Int → Int → Nat) (w : World) (hb : w.heap[kb]? = some (.cells (wkV tb L mb ra ia rd id) 214 (0, 0))) (hm : w.ownsMap Tryd.prog 216 (plainElem Tryd.prog 3) mb n D) (hc : MCo D col) (hx : inC x) (hy : inC y) (L1 : 1 ≤ L) (L26 : L ≤ 26) (hz : -1 ≤ z ∧ z ≤ 26) (hv : (z + (L : Int)).tmod (L : Int) = (v : Int)) (vL : v < L) (hB : B ≤ mb) (hB2 : B ≤ w.heap.size) :
    Calls Tryd.prog 120 #[.pointer (some ⟨kb, 0, none⟩), .agg #[.int .i64 x, .int .i64 y], .int .i64 z] w (PaintPost B mb n (setA col x y v) w) := by
  by_cases v0 : v = 0
  · subst v0; exact paint_zero kb tb mb n L B ra ia rd id x y z D col w hb hm hc hx hy L1 L26 hz hv hB hB2
  · exact paint_some v v0 (by omega) kb tb mb n L B n63 ra ia rd id x y z D col w hb hm hc hx hy L1 L26 hz hv hB hB2
structure WK (w : World) (kb tb mb n L : Nat) (t : Nat → Bool) (s : AntS) : Prop where
  bl : WkB w kb tb mb L s.x s.y s.d
  tu : ∀ c, c < L → w.cell? ⟨tb, c, none⟩ = some (tuV (t c))
  mp : ∃ D, w.ownsMap Tryd.prog 216 (plainElem Tryd.prog 3) mb n D ∧ MCo D s.col
  ok : OkA L s
  ne : kb ≠ tb ∧ kb ≠ mb ∧ tb ≠ mb
  lt : kb < w.heap.size ∧ tb < w.heap.size
theorem zeroI (w : World) : (zeroValue 3).run Tryd.prog w = .ok (.int .i64 0) w := by kernel_rfl
set_option maxRecDepth 100000 in
set_option maxHeartbeats 12800000 in
theorem step_anyA (kb tb mb n L B : Nat) (t : Nat → Bool) (s : AntS) (w : World) (h : WK w kb tb mb n L t s) (hx : -2000000 ≤ s.x ∧ s.x ≤ 2000000) (hy : -2000000 ≤ s.y ∧ s.y ≤ 2000000) (L26 : L ≤ 26) (n63 : n < 4611686018427387904) (hB : B ≤ mb ∧ B ≤ kb ∧ B ≤ tb) :
    Calls Tryd.prog 69 #[.pointer (some ⟨kb, 0, none⟩)] w fun e w' => e = .returned (.tuple #[]) ∧ WK w' kb tb mb (n + 1) L t (stepA' t L s) ∧ Below B w w' := by
  obtain ⟨col, x, y, d⟩ := s
  have ix : inC x := by unfold inC; simp only at hx; omega
  have iy : inC y := by unfold inC; simp only at hy; omega
  have HR := hide' (here_any kb tb mb L d x y w h.bl ix iy)
  obtain ⟨ra, ia, rd, id, hb, j1, j2, j3, j4⟩ := h.bl.blk
  obtain ⟨D, hm, hc⟩ := h.mp
  simp only at hb j1 j2 j3 j4 hc
  have OK := h.ok
  have c1 : col x y < L := OK.col x y
  have d4 : d < 4 := OK.d
  obtain ⟨q, hq⟩ : ∃ q, col x y = q := ⟨_, rfl⟩
  rw [hq] at c1
  obtain ⟨re, im, em, i1, i2⟩ := cmul_gen j3 j4 IsI_zero (IsI_tu (t q)) (dx_near d) (by have := dy_near d; omega) (by omega) (by cases t q <;> simp)
  rw [(turn_mul t q d4).1] at i1
  rw [(turn_mul t q d4).2] at i2
  have nx := dx_near (trnA t q d)
  have ny := dy_near (trnA t q d)
  obtain ⟨ar, ai, ea, k1, k2⟩ := csum_gen j1 j2 i1 i2 (by simp only at hx; omega) (by simp only at hy; omega)
  have hmul := fun t V => run_complex_mul (P := Tryd.prog) V t _ _ _ _ _ _ em
  have hadd := fun t V => run_complex_sum (P := Tryd.prog) V .add (Or.inl rfl) t .f64 _ _ _ _ _ _ ea
  have LT := h.lt
  have NE := hide' h.ne
  have TU := hide' h.tu
  have HM := hide' hm
  have HC := hide' hc
  have HB := hide' hb
  clear h hb
  go_enter Tryd.func69, Tryd.ntmps69
  go_wp2_with fail
  refine HR.out.mono ?_
  rintro e w1 ⟨rfl, b1⟩
  obtain ⟨w2, hw2⟩ : ∃ w2, w1.alloc (.cells #[.int .i64 x, .int .i64 y] 216) = w2 := ⟨_, rfl⟩
  have s1 := b1.size
  have B2 := hide' (show Below w.heap.size w w2 by rw [← hw2]; exact b1.alloc s1 _)
  have z2 : w2.heap.size = w1.heap.size + 1 := by rw [← hw2]; simp
  have g2 : w2.heap[w1.heap.size]? = some (.cells #[.int .i64 x, .int .i64 y] 216 (0, 0)) := by rw [← hw2]; exact heap_alloc_new _ _
  have gk : w2.heap[kb]? = _ := (B2.out.block kb LT.1).trans HB.out
  have ml := HM.out.lt
  have hm2 : w2.ownsMap Tryd.prog 216 (plainElem Tryd.prog 3) mb n D := by
    obtain ⟨es, clock, hb', r⟩ := HM.out
    exact ⟨es, clock, (B2.out.block mb ml).trans hb', r⟩
  obtain ⟨q', hlk, hat, -⟩ := (hm2.drew).lookup_int (t := 211) lawC Tryd.underlying211 Tryd.underlying3 (zeroI _) (key_cell ix iy)
  have hqq : q' = (q : Int) := by
    rw [HC.out.at' x y ix iy, hq] at hat
    injection hat with hat
    injection hat with _ hat
    exact hat.symm
  rw [hqq] at hlk
  have tc : w2.cell? ⟨tb, q, none⟩ = some (tuV (t q)) := (World.cell?_of_block (w := w) (a := ⟨tb, q, none⟩) (B2.out.block tb LT.2)).trans (TU.out q c1)
  rw [tuV_eq] at tc
  have c0 := cell_of_row w2 _ 0 _ _ _ gk
  have c1' := cell_of_row w2 _ 1 _ _ _ gk
  have c3 := cell_of_row w2 _ 3 _ _ _ gk
  have v0 := cell_of_row w2 _ 0 _ _ _ g2
  have v1 := cell_of_row w2 _ 1 _ _ _ g2
  unfold wkV at c0 c1' c3
  simp at c0 c1' c3 v0 v1
  have f3 := frozen_of_row w2 _ 3 _ _ gk
  have lk := lt_of_block gk
  go_upto_region 1 with fail
  try rw [hw2]
  clear hw2
  go_region
  go_wp2
  have qi : (q : Int) < (L : Int) := by omega
  have q0 : (0 : Int) ≤ (q : Int) := by omega
  have hst := fun V a m => run_store Tryd.prog V a (.complex .f64 re im) m rfl
  go_region
  obtain ⟨w3, hw3⟩ : ∃ w3, (w2.setCell ⟨kb, 3, none⟩ (.complex .f64 re im)).drew.drew = w3 := ⟨_, rfl⟩
  have z3 : w3.heap.size = w2.heap.size := by rw [← hw3]; exact World.size_setCell _ _ _
  have gk3 : w3.heap[kb]? = some (.cells (wkV tb L mb ra ia re im) 214 (0, 0)) := by rw [← hw3]; show (w2.setCell _ _).heap[kb]? = _; rw [heap_setCell_same _ _ _ _ _ _ gk]; rfl
  have k3 : ∀ j, j ≠ kb → w3.heap[j]? = w2.heap[j]? := fun j hj => by rw [← hw3]; show (w2.setCell _ _).heap[j]? = _; exact Below.heap_setCell _ _ _ _ (by simpa using hj)
  have hm3 : w3.ownsMap Tryd.prog 216 (plainElem Tryd.prog 3) mb n D := by
    obtain ⟨es, clock, hb', r⟩ := hm2
    exact ⟨es, clock, (k3 mb (fun e => NE.out.2.1 e.symm)).trans hb', r⟩
  have g3 := (k3 w1.heap.size (by have := LT.1; omega)).trans g2
  have u0 := cell_of_row w3 _ 0 _ _ _ g3
  have u1 := cell_of_row w3 _ 1 _ _ _ g3
  simp at u0 u1
  have B3 := hide' (show Below B w w3 by rw [← hw3]; exact ((B2.out.mono (by have := LT.1; omega)).setCell (by simp; omega) _).drew.drew)
  obtain ⟨v, hv⟩ : ∃ v, (q + 1) % L = v := ⟨_, rfl⟩
  have tv : (((q : Int) + 1) + (L : Int)).tmod (L : Int) = (v : Int) := by
    rw [Int.tmod_eq_emod_of_nonneg (by omega), Int.add_emod_right, ← hv]; simp
  have PC := hide' (paint_any v kb tb mb n L B n63 ra ia re im x y ((q : Int) + 1) D col w3 gk3 hm3 HC.out ix iy (by omega) L26 (by omega) tv (by rw [← hv]; exact Nat.mod_lt _ (by omega)) hB.1 (by have := LT.1; omega))
  have K3 := hide' k3
  have GK3 := hide' gk3
  have HV := hide' hv
  clear c0 c1' c3 v0 v1 f3 lk gk gk3 k3 hm3 hm2 g3 hlk tc hqq hat hmul hst
  go_wp2_with fail
  try rw [hw3]
  refine PC.out.mono ?_
  clear hw3
  rintro e w4 ⟨rfl, ⟨D4, hm4, hc4⟩, k4, b4, s4⟩
  have gk4 := (k4 kb NE.out.2.1 (by have := LT.1; omega)).trans GK3.out
  have c2 := cell_of_row w4 _ 2 _ _ _ gk4
  have c3 := cell_of_row w4 _ 3 _ _ _ gk4
  unfold wkV at c2 c3
  simp at c2 c3
  have f2 := frozen_of_row w4 _ 2 _ _ gk4
  have lk := lt_of_block gk4
  have hst := fun V a m => run_store Tryd.prog V a (.complex .f64 ar ai) m rfl
  have FIN := hide' (show WK (w4.setCell ⟨kb, 2, none⟩ (.complex .f64 ar ai)).drew kb tb mb (n + 1) L t (stepA' t L ⟨col, x, y, d⟩) ∧ Below B w (w4.setCell ⟨kb, 2, none⟩ (.complex .f64 ar ai)).drew from by
    refine ⟨⟨⟨ar, ai, re, im, ?_, ?_, ?_, ?_, ?_⟩, fun c hc' => ?_, ⟨D4, ?_, ?_⟩, step_ok OK, NE.out, ?_⟩, ?_⟩
    · show (w4.setCell _ _).heap[kb]? = _
      rw [heap_setCell_same _ _ _ _ _ _ gk4]; rfl
    · show IsI ar (x + dxA (trnA t (col x y) d)); rw [hq]; exact k1
    · show IsI ai (-(y + dyA (trnA t (col x y) d))); rw [hq, Int.neg_add]; exact k2
    · show IsI re (dxA (trnA t (col x y) d)); rw [hq]; exact i1
    · show IsI im (-(dyA (trnA t (col x y) d))); rw [hq]; exact i2
    · have hb' : ((w4.setCell ⟨kb, 2, none⟩ (.complex .f64 ar ai)).drew).heap[tb]? = w.heap[tb]? := by
        show (w4.setCell _ _).heap[tb]? = _
        rw [Below.heap_setCell _ _ _ _ (by simpa using fun e => NE.out.1 e.symm), k4 tb NE.out.2.2 (by have := LT.2; omega), K3.out tb (fun e => NE.out.1 e.symm)]
        exact B2.out.block tb LT.2
      exact (World.cell?_of_block (w := w) (a := ⟨tb, c, none⟩) hb').trans (TU.out c hc')
    · exact (hm4.setCell (a := ⟨kb, 2, none⟩) (fun e => NE.out.2.1 e.symm) _).drew
    · show MCo D4 (setA col x y ((col x y + 1) % L))
      rw [hq, HV.out]; exact hc4
    · refine ⟨?_, ?_⟩
      · show kb < (w4.setCell _ _).heap.size
        rw [World.size_setCell]; exact lk
      · show tb < (w4.setCell _ _).heap.size
        rw [World.size_setCell]; have := LT.2; omega
    · exact ((B3.out.trans b4).setCell (by simp; omega) _).drew)
  clear gk4 hm4 hc4 k4 b4 s4 u0 u1
  go_wp2
  go_region
  go_wp2
  go_end0
  exact ⟨rfl, FIN.out.1, FIN.out.2⟩
end Go.Proofs.YtdkomlgkkepioaaDoor

