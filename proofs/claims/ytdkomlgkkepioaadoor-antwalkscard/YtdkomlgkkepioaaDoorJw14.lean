/-
  What the last text of this claim leans on, part 14: Ab7.
-/
import Derived.Test.YtdkomlgkkepioaaDoorJw12
import Derived.Test.YtdkomlgkkepioaaDoorJw13
namespace Go.Proofs.YtdkomlgkkepioaaDoor
open Go.RowKit
set_option linter.unusedVariables false
theorem info_cplx : (Tryd.prog.info? 212).map (fun i => (i.zero, i.size, i.bytes)) = some (some (.complex .f64 0 0), 1, 16) := by kernel_rfl
theorem make_map (m : Nat) (w : World) : (Instr.makeMap 211 (some (.int .i64 (m : Int)))).run Tryd.prog w = .ok (.map (some w.heap.size)) (w.alloc (.map #[] 0)) := by
  kernel_rfl
/-- The colours of the first spots. -/
def colT (xs : List SpotT) : Nat → Int → Int → Nat
  | 0 => fun _ _ => 0
  | k + 1 => setA (colT xs k) (xs.getD k (0, 0, 0)).1 (xs.getD k (0, 0, 0)).2.1 (xs.getD k (0, 0, 0)).2.2.toNat
def trB (s : ByteArray) (c : Nat) : Bool := decide (bt s c = 82)
def tuF (s : ByteArray) (i c : Nat) : Value := if c < i then tuV (trB s c) else .complex .f64 0 0
theorem made_cplx (n : Nat) : madeCells #[Value.complex .f64 0 0] n = arrF n (fun _ => .complex .f64 0 0) := by
  unfold arrF
  apply Array.ext'
  rw [toList_madeCells_one]
  exact (List.eq_replicate_iff.2 ⟨by simp, fun b hb => by obtain ⟨_, _, h⟩ := List.mem_map.1 hb; exact h.symm⟩).symm
theorem cut4G {A B C D : Type} {P Φ : A → B → C → D → Prop} {G : Prop} (h : (∀ a b c d, P a b c d → Φ a b c d) → G) (k : ∀ a b c d, P a b c d → Φ a b c d) : G := h k
theorem near_in {x y : Int} (h : nearA x y = true) : inC x ∧ inC y := by
  unfold nearA at h
  unfold inC
  simp at h
  omega
theorem spot_in {L : Int} {xs : List SpotT} (h : spotE L xs = 0) {k : Nat} (hk : k < xs.length) {u v z : Int} (hp : xs[k] = (u, v, z)) : inC u ∧ inC v ∧ 1 ≤ z ∧ z < L := by
  have ha : xs.all (spotB L) = true := by
    unfold spotE at h
    by_cases q : xs.all (spotB L) = true
    · exact q
    · rw [if_neg q] at h; cases h
  have := List.all_eq_true.1 ha xs[k] (List.getElem_mem hk)
  rw [hp] at this
  unfold spotB at this
  simp at this
  obtain ⟨i1, i2⟩ := near_in this.1.1
  exact ⟨i1, i2, this.1.2, this.2⟩
/-- What stands while a walk begins. -/
structure BG (w w1 V : World) (L tb mb kb : Nat) (F : Nat → Value) (n : Nat) (col : Int → Int → Nat) : Prop where
  keep : ∀ j, j < w1.heap.size → V.heap[j]? = w1.heap[j]?
  blk : V.heap[kb]? = some (.cells (wkV tb L mb 0 0 0 0) 214 (0, 0))
  tur : V.heap[tb]? = some (.cells (arrF L F) 212 (0, 0))
  mp : ∃ D, V.ownsMap Tryd.prog 216 (plainElem Tryd.prog 3) mb n D ∧ MCo D col
  ne : kb ≠ tb ∧ kb ≠ mb ∧ tb ≠ mb
  ge : w1.heap.size ≤ tb ∧ w1.heap.size ≤ mb ∧ w1.heap.size ≤ kb
  below : Below w.heap.size w V
  size : w1.heap.size ≤ V.heap.size
theorem colT_lt {L : Nat} (L1 : 1 ≤ L) {xs : List SpotT} (h : spotE (L : Int) xs = 0) : ∀ k, k ≤ xs.length → ∀ x y, colT xs k x y < L
  | 0, _, x, y => by show 0 < L; omega
  | k + 1, hk, x, y => by
    have ih := colT_lt L1 h k (by omega) x y
    rw [colT]
    unfold setA
    split
    · obtain ⟨⟨u, v, z⟩, hp⟩ : ∃ p, xs[k] = p := ⟨_, rfl⟩
      obtain ⟨_, _, z1, z2⟩ := spot_in h (show k < xs.length by omega) hp
      rw [getD_at (show k < xs.length by omega), hp]
      show z.toNat < L
      omega
    · exact ih
theorem begin_fin {w w1 V3 w5 V : World} {L tb mb kb m : Nat} {s : ByteArray} {xs : List SpotT} {x y : Int} {d re im : Nat} (T : BG w w1 V3 L tb mb kb (tuF s L) m (colT xs m)) (b5 : Below V3.heap.size V3 w5) (hx : inC x) (hy : inC y) (hd : d < 4) (ir : IsI re (dxA d)) (ii : IsI im (-(dyA d))) (L1 : 1 ≤ L) (hE : spotE (L : Int) xs = 0) (hm : m ≤ xs.length) (ws : w1.heap.size = w.heap.size + 1)
    (hV : V = (w5.setCell ⟨kb, 2, none⟩ (.complex .f64 (floatOfInt .f64 x) (floatOfInt .f64 (-y)))).setCell ⟨kb, 3, none⟩ (.complex .f64 re im)) :
    WK V kb tb mb m L (trB s) ⟨colT xs m, x, y, d⟩ ∧ (w.heap.size ≤ kb ∧ w.heap.size ≤ tb ∧ w.heap.size ≤ mb) ∧ Below w.heap.size w V := by
  obtain ⟨g1, g2, g3⟩ := T.ge
  obtain ⟨n1, n2, n3⟩ := T.ne
  have lk := lt_of_block T.blk
  have lt' := lt_of_block T.tur
  have gk := (b5.block kb lk).trans T.blk
  have ot : ∀ j, j ≠ kb → V.heap[j]? = w5.heap[j]? := fun j hj => by rw [hV, Below.heap_setCell _ _ _ _ (by simpa using hj), Below.heap_setCell _ _ _ _ (by simpa using hj)]
  have sz : V.heap.size = w5.heap.size := by rw [hV, World.size_setCell, World.size_setCell]
  have s5 := b5.size
  refine ⟨⟨⟨floatOfInt .f64 x, floatOfInt .f64 (-y), re, im, ?_, ?_, ?_, ir, ii⟩, fun c hc => ?_, ?_, ⟨fun u v => colT_lt L1 hE m hm u v, hd⟩, T.ne, by omega, by omega⟩, ⟨by omega, by omega, by omega⟩, ?_⟩
  · rw [hV, heap_setCell_same _ _ _ _ _ _ (heap_setCell_same _ _ _ _ _ _ gk)]; rfl
  · exact IsI_of x (by unfold inC at hx; omega)
  · exact IsI_of (-y) (by unfold inC at hy; omega)
  · have e : V.heap[tb]? = _ := ((ot tb (fun e => n1 e.symm)).trans (b5.block tb lt')).trans T.tur
    rw [cell_of_row V _ _ _ _ _ e, arrF_get _ hc]
    unfold tuF
    rw [if_pos hc]
  · obtain ⟨D, ⟨es, clock, hb', r⟩, hc⟩ := T.mp
    have lm : mb < V3.heap.size := lt_of_block hb'
    exact ⟨D, ⟨es, clock, ((ot mb (fun e => n2 e.symm)).trans (b5.block mb lm)).trans hb', r⟩, hc⟩
  · rw [hV]
    exact ((T.below.trans (b5.mono T.below.size)).setCell (by simp; omega) _).setCell (by simp; omega) _
set_option maxRecDepth 100000 in
set_option maxHeartbeats 12800000 in
theorem begin_any (s : ByteArray) (xs : List SpotT) (b : Option Addr) (m e : Nat) (x y : Int) (d : Nat) (w : World) (hS : ArgS w xs b m e) (L1 : 1 ≤ s.size) (L26 : s.size ≤ 26) (hE : spotE (s.size : Int) xs = 0) (hxy : nearA x y = true) (hd : d < 4) :
    Calls Tryd.prog 68 #[.string s, .slice b m e, .agg #[.int .i64 x, .int .i64 y, .int .i64 (d : Int)]] w fun e' w' => ∃ kb tb mb, e' = .returned (.pointer (some ⟨kb, 0, none⟩)) ∧ WK w' kb tb mb m s.size (trB s) ⟨colT xs m, x, y, d⟩ ∧ (w.heap.size ≤ kb ∧ w.heap.size ≤ tb ∧ w.heap.size ≤ mb) ∧ Below w.heap.size w w' := by
  obtain ⟨w1, hw1⟩ : ∃ w1, w.alloc (.cells #[.int .i64 x, .int .i64 y, .int .i64 (d : Int)] 50) = w1 := ⟨_, rfl⟩
  have BB := hide' (show Below w.heap.size w w1 by rw [← hw1]; exact (Below.refl _ _).alloc (Nat.le_refl _) _)
  have g1 : w1.heap[w.heap.size]? = some (.cells #[.int .i64 x, .int .i64 y, .int .i64 (d : Int)] 50 (0, 0)) := by rw [← hw1]; exact heap_alloc_new _ _
  have z1 : w1.heap.size = w.heap.size + 1 := by rw [← hw1]; simp
  have G1 := hide' g1
  obtain ⟨L, hL⟩ : ∃ L, s.size = L := ⟨_, rfl⟩
  rw [hL] at L1 L26 hE ⊢
  have mm := hS.max
  have HMK := fun W => run_make_row' (P := Tryd.prog) 210 212 (.complex .f64 0 0) 16 Tryd.underlying210 info_cplx rfl .i64 .i64 L (by omega) (by omega) W
  have hmm := fun V => make_map m V
  have HL := hide' hL
  have HS := hide' hS
  have HE := hide' hE
  have HXY := hide' hxy
  clear g1 hS hE hxy
  go_enter Tryd.func68, Tryd.ntmps68
  go_upto_region 1 with fail
  clear hw1
  refine cut4G (P := fun tb mb kb V => Hid (BG w w1 V L tb mb kb (fun _ => .complex .f64 0 0) 0 (fun _ _ => 0))) (Φ := ?PH) (fun CUT => ?mn) ?rs
  case mn =>
    go_region
    · have T8 := hide' (show BG w w1 (((w1.alloc (.cells (madeCells #[.complex .f64 0 0] L) 212)).alloc (.map #[] 0)).alloc (.cells (wkV (w.heap.size + 1) L (w.heap.size + 1 + 1) 0 0 0 0) 214)).drew L (w.heap.size + 1) (w.heap.size + 1 + 1) (w.heap.size + 1 + 1 + 1) (fun _ => .complex .f64 0 0) 0 (fun _ _ => 0) from by
        have a1 : (w1.alloc (.cells (madeCells #[.complex .f64 0 0] L) 212)).heap.size = w.heap.size + 1 + 1 := by simp; omega
        have a2 : ((w1.alloc (.cells (madeCells #[.complex .f64 0 0] L) 212)).alloc (.map #[] 0)).heap.size = w.heap.size + 1 + 1 + 1 := by simp; omega
        refine ⟨fun j hj => ?_, ?_, ?_, ⟨.map [], ?_, MCo.empty⟩, ⟨by omega, by omega, by omega⟩, ⟨by omega, by omega, by omega⟩, ?_, ?_⟩
        · show (((w1.alloc (.cells (madeCells #[.complex .f64 0 0] L) 212)).alloc (.map #[] 0)).alloc (.cells (wkV (w.heap.size + 1) L (w.heap.size + 1 + 1) 0 0 0 0) 214)).heap[j]? = _
          rw [Below.heap_alloc _ _ _ (by omega), Below.heap_alloc _ _ _ (by omega), Below.heap_alloc _ _ _ hj]
        · have := heap_alloc_new ((w1.alloc (.cells (madeCells #[.complex .f64 0 0] L) 212)).alloc (.map #[] 0)) (.cells (wkV (w.heap.size + 1) L (w.heap.size + 1 + 1) 0 0 0 0) 214)
          rw [a2] at this
          exact this
        · show (((w1.alloc (.cells (madeCells #[.complex .f64 0 0] L) 212)).alloc (.map #[] 0)).alloc (.cells (wkV (w.heap.size + 1) L (w.heap.size + 1 + 1) 0 0 0 0) 214)).heap[w.heap.size + 1]? = _
          rw [Below.heap_alloc _ _ _ (by omega), Below.heap_alloc _ _ _ (by omega)]
          have := heap_alloc_new w1 (.cells (madeCells #[.complex .f64 0 0] L) 212)
          rw [z1, made_cplx] at this
          rw [made_cplx]
          exact this
        · have := ((World.ownsMap_made (H := Unit) (w1.alloc (.cells (madeCells #[.complex .f64 0 0] L) 212)) Tryd.prog 216 (plainElem Tryd.prog 3)).alloc (.cells (wkV (w.heap.size + 1) L (w.heap.size + 1 + 1) 0 0 0 0) 214)).drew
          rw [a1] at this
          exact this
        · exact (((BB.out.alloc (by omega) _).alloc (by omega) _).alloc (by omega) _).drew
        · show w1.heap.size ≤ (((w1.alloc (.cells (madeCells #[.complex .f64 0 0] L) 212)).alloc (.map #[] 0)).alloc (.cells (wkV (w.heap.size + 1) L (w.heap.size + 1 + 1) 0 0 0 0) 214)).heap.size
          have : (((w1.alloc (.cells (madeCells #[.complex .f64 0 0] L) 212)).alloc (.map #[] 0)).alloc (.cells (wkV (w.heap.size + 1) L (w.heap.size + 1 + 1) 0 0 0 0) 214)).heap.size = w.heap.size + 1 + 1 + 1 + 1 := by simp; omega
          omega)
      obtain ⟨V, hV⟩ : ∃ V, (((w1.alloc (.cells (madeCells #[.complex .f64 0 0] L) 212)).alloc (.map #[] 0)).alloc (.cells (wkV (w.heap.size + 1) L (w.heap.size + 1 + 1) 0 0 0 0) 214)).drew = V := ⟨_, rfl⟩
      obtain ⟨kb, hkb⟩ : ∃ g, w.heap.size + 1 + 1 + 1 = g := ⟨_, rfl⟩
      obtain ⟨q2, hq2⟩ : ∃ g, w.heap.size + 1 + 1 = g := ⟨_, rfl⟩
      obtain ⟨q1, hq1⟩ : ∃ g, w.heap.size + 1 = g := ⟨_, rfl⟩
      unfold wkV at hV
      unfold wkV at T8
      rw [hV] at T8 ⊢
      rw [hkb, hq2, hq1] at T8 ⊢
      exact CUT _ _ _ _ T8
    · have T8 := hide' (show BG w w1 (((w1.alloc (.map #[] 0)).alloc (.cells (madeCells #[.complex .f64 0 0] L) 212)).alloc (.cells (wkV (w.heap.size + 1 + 1) L (w.heap.size + 1) 0 0 0 0) 214)).drew L (w.heap.size + 1 + 1) (w.heap.size + 1) (w.heap.size + 1 + 1 + 1) (fun _ => .complex .f64 0 0) 0 (fun _ _ => 0) from by
        have a1 : (w1.alloc (.map #[] 0)).heap.size = w.heap.size + 1 + 1 := by simp; omega
        have a2 : ((w1.alloc (.map #[] 0)).alloc (.cells (madeCells #[.complex .f64 0 0] L) 212)).heap.size = w.heap.size + 1 + 1 + 1 := by simp; omega
        refine ⟨fun j hj => ?_, ?_, ?_, ⟨.map [], ?_, MCo.empty⟩, ⟨by omega, by omega, by omega⟩, ⟨by omega, by omega, by omega⟩, ?_, ?_⟩
        · show (((w1.alloc (.map #[] 0)).alloc (.cells (madeCells #[.complex .f64 0 0] L) 212)).alloc (.cells (wkV (w.heap.size + 1 + 1) L (w.heap.size + 1) 0 0 0 0) 214)).heap[j]? = _
          rw [Below.heap_alloc _ _ _ (by omega), Below.heap_alloc _ _ _ (by omega), Below.heap_alloc _ _ _ hj]
        · have := heap_alloc_new ((w1.alloc (.map #[] 0)).alloc (.cells (madeCells #[.complex .f64 0 0] L) 212)) (.cells (wkV (w.heap.size + 1 + 1) L (w.heap.size + 1) 0 0 0 0) 214)
          rw [a2] at this
          exact this
        · show (((w1.alloc (.map #[] 0)).alloc (.cells (madeCells #[.complex .f64 0 0] L) 212)).alloc (.cells (wkV (w.heap.size + 1 + 1) L (w.heap.size + 1) 0 0 0 0) 214)).heap[w.heap.size + 1 + 1]? = _
          rw [Below.heap_alloc _ _ _ (by omega)]
          have := heap_alloc_new (w1.alloc (.map #[] 0)) (.cells (madeCells #[.complex .f64 0 0] L) 212)
          rw [a1, made_cplx] at this
          rw [made_cplx]
          exact this
        · have := (((World.ownsMap_made (H := Unit) w1 Tryd.prog 216 (plainElem Tryd.prog 3)).alloc (.cells (madeCells #[.complex .f64 0 0] L) 212)).alloc (.cells (wkV (w.heap.size + 1 + 1) L (w.heap.size + 1) 0 0 0 0) 214)).drew
          rw [z1] at this
          exact this
        · exact (((BB.out.alloc (by omega) _).alloc (by omega) _).alloc (by omega) _).drew
        · show w1.heap.size ≤ (((w1.alloc (.map #[] 0)).alloc (.cells (madeCells #[.complex .f64 0 0] L) 212)).alloc (.cells (wkV (w.heap.size + 1 + 1) L (w.heap.size + 1) 0 0 0 0) 214)).heap.size
          have : (((w1.alloc (.map #[] 0)).alloc (.cells (madeCells #[.complex .f64 0 0] L) 212)).alloc (.cells (wkV (w.heap.size + 1 + 1) L (w.heap.size + 1) 0 0 0 0) 214)).heap.size = w.heap.size + 1 + 1 + 1 + 1 := by simp; omega
          omega)
      obtain ⟨V, hV⟩ : ∃ V, (((w1.alloc (.map #[] 0)).alloc (.cells (madeCells #[.complex .f64 0 0] L) 212)).alloc (.cells (wkV (w.heap.size + 1 + 1) L (w.heap.size + 1) 0 0 0 0) 214)).drew = V := ⟨_, rfl⟩
      obtain ⟨kb, hkb⟩ : ∃ g, w.heap.size + 1 + 1 + 1 = g := ⟨_, rfl⟩
      obtain ⟨q2, hq2⟩ : ∃ g, w.heap.size + 1 + 1 = g := ⟨_, rfl⟩
      obtain ⟨q1, hq1⟩ : ∃ g, w.heap.size + 1 = g := ⟨_, rfl⟩
      unfold wkV at hV
      unfold wkV at T8
      rw [hV] at T8 ⊢
      rw [hkb, hq2, hq1] at T8 ⊢
      exact CUT _ _ _ _ T8
  case rs =>
    intro tb mb kb V T
    have c0 := cell_of_row V _ 0 _ _ _ T.out.blk
    unfold wkV at c0
    simp at c0
    have T0 := hide' (show BG w w1 V L tb mb kb (tuF s 0) 0 (fun _ _ => 0) from ⟨T.out.keep, T.out.blk, by rw [T.out.tur]; exact congrArg (fun z => some (Obj.cells z 212 (0, 0))) (arrF_ext fun k _ => by simp [tuF]), T.out.mp, T.out.ne, T.out.ge, T.out.below, T.out.size⟩)
    have HST := fun p q V a m => run_store Tryd.prog V a (.complex .f64 p q) m rfl
    clear T
    go_wp2
    clear c0
    go_loopw [24] (fun iv wr => ∃ i : Nat, iv = .int .i64 (i : Int) ∧ i ≤ L ∧ Hid (BG w w1 wr L tb mb kb (tuF s i) 0 (fun _ _ => 0))) (fun iv _ => ((L : Int) - intOf iv).toNat)
    case atStart => exact ⟨0, by go_num, by omega, T0⟩
    case round =>
      obtain ⟨i, rfl, hi, T⟩ := hrel
      obtain ⟨V2, rfl⟩ : ∃ V2, V2 = wr := ⟨_, rfl⟩
      have c0 := cell_of_row V2 _ 0 _ _ _ T.out.blk
      unfold wkV at c0
      simp at c0
      by_cases di : (i : Int) < (L : Int)
      · have il : i < L := by omega
        have is : i < s.size := by have := HL.out; omega
        have gt := T.out.tur
        have ct : V2.cell? ⟨tb, i, none⟩ = some (tuF s i i) := by rw [cell_of_row V2 _ _ _ _ _ gt, arrF_get _ il]
        have ft := frozen_of_row V2 _ i _ _ gt
        have lt' := lt_of_block gt
        have lk := lt_of_block T.out.blk
        have nk := T.out.ne.1
        have nk1 : ¬ tb = kb := fun e => nk e.symm
        have eb := bt_lt s i is
        obtain ⟨V3, hV3⟩ : ∃ V3, V2.setCell ⟨tb, i, none⟩ (.complex .f64 0 4607182418800017408) = V3 := ⟨_, rfl⟩
        have gt3 : V3.heap[tb]? = some (.cells (arrF L (fun k => if k = i then .complex .f64 0 4607182418800017408 else tuF s i k)) 212 (0, 0)) := by rw [← hV3, heap_setCell_same _ _ _ _ _ _ gt, arrF_set]
        have k3 : ∀ j, j ≠ tb → V3.heap[j]? = V2.heap[j]? := fun j hj => by rw [← hV3]; exact Below.heap_setCell _ _ _ _ (by simpa using hj)
        have z3 : V3.heap.size = V2.heap.size := by rw [← hV3]; exact World.size_setCell _ _ _
        have b3 : Below w.heap.size w V3 := by rw [← hV3]; exact T.out.below.setCell (by have := T.out.ge.1; simp; omega) _
        have gk3 := (k3 kb nk).trans T.out.blk
        have c3 := cell_of_row V3 _ 0 _ _ _ gk3
        unfold wkV at c3
        simp at c3
        have ct3 : V3.cell? ⟨tb, i, none⟩ = some (.complex .f64 0 4607182418800017408) := by rw [cell_of_row V3 _ _ _ _ _ gt3, arrF_get _ il]; simp
        have ft3 := frozen_of_row V3 _ i _ _ gt3
        have lt3 := lt_of_block gt3
        have MP : ∀ U : World, U.heap[mb]? = V3.heap[mb]? → ∃ D, U.ownsMap Tryd.prog 216 (plainElem Tryd.prog 3) mb 0 D ∧ MCo D (fun _ _ => 0) := fun U hU => by
          obtain ⟨D, ⟨es, clock, hb', r⟩, hc⟩ := T.out.mp
          exact ⟨D, ⟨es, clock, hU.trans ((k3 mb (fun e => T.out.ne.2.2 e.symm)).trans hb'), r⟩, hc⟩
        by_cases r : bt s i = 82
        · have rb : ((s[i].toNat : Int) == 82) = true := by rw [eb]; simp [r]
          have ri : (s[i].toNat : Int) = 82 := by omega
          have NT := hide' (show BG w w1 (V3.setCell ⟨tb, i, none⟩ (.complex .f64 0 13830554455654793216)) L tb mb kb (tuF s (i + 1)) 0 (fun _ _ => 0) from by
            have k4 : ∀ j, j ≠ tb → (V3.setCell ⟨tb, i, none⟩ (.complex .f64 0 13830554455654793216)).heap[j]? = V3.heap[j]? := fun j hj => Below.heap_setCell _ _ _ _ (by simpa using hj)
            refine ⟨fun j hj => ?_, (k4 kb nk).trans gk3, ?_, MP _ (k4 mb (fun e => T.out.ne.2.2 e.symm)), T.out.ne, T.out.ge, b3.setCell (by have := T.out.ge.1; simp; omega) _, by rw [World.size_setCell, z3]; exact T.out.size⟩
            · have := T.out.ge.1
              exact ((k4 j (by omega)).trans (k3 j (by omega))).trans (T.out.keep j hj)
            · rw [heap_setCell_same _ _ _ _ _ _ gt3, arrF_set]
              refine congrArg (fun z => some (Obj.cells z 212 (0, 0))) (arrF_ext fun k _ => ?_)
              unfold tuF
              by_cases e : k = i
              · subst e; simp [tuV, trB, r]
              · simp only [e, if_false]
                by_cases q : k < i
                · rw [if_pos q, if_pos (by omega)]
                · rw [if_neg q, if_neg (by omega)])
          clear T0 MP k3 gk3 gt gt3 b3 z3 eb r
          go_wp2
          exact ⟨⟨i + 1, by go_num, by omega, NT⟩, by simp [intOf]; omega⟩
        · have rb : ((s[i].toNat : Int) == 82) = false := by rw [eb]; simp; omega
          have ri : ¬ (s[i].toNat : Int) = 82 := by omega
          have NT := hide' (show BG w w1 V3 L tb mb kb (tuF s (i + 1)) 0 (fun _ _ => 0) from by
            refine ⟨fun j hj => ?_, gk3, ?_, MP _ rfl, T.out.ne, T.out.ge, b3, by rw [z3]; exact T.out.size⟩
            · have := T.out.ge.1
              exact (k3 j (by omega)).trans (T.out.keep j hj)
            · rw [gt3]
              refine congrArg (fun z => some (Obj.cells z 212 (0, 0))) (arrF_ext fun k _ => ?_)
              unfold tuF
              by_cases e : k = i
              · subst e; simp [tuV, trB, r]
              · simp only [e, if_false]
                by_cases q : k < i
                · rw [if_pos q, if_pos (by omega)]
                · rw [if_neg q, if_neg (by omega)])
          clear T0 MP k3 gk3 gt gt3 b3 z3 eb r
          go_wp2
          exact ⟨⟨i + 1, by go_num, by omega, NT⟩, by simp [intOf]; omega⟩
      · have iL : i = L := by omega
        have T1 := hide' (show BG w w1 V2 L tb mb kb (tuF s L) 0 (colT xs 0) from by have h := T.out; rw [iL] at h; exact h)
        clear T T0 iL
        go_wp2
        clear c0
        go_loopw [46] (fun kv wr => ∃ k : Nat, kv = .int .i64 (k : Int) ∧ k ≤ m ∧ Hid (BG w w1 wr L tb mb kb (tuF s L) k (colT xs k))) (fun kv _ => ((m : Int) - intOf kv).toNat)
        case atStart => exact ⟨0, by go_num, by omega, T1⟩
        case round =>
          obtain ⟨k, rfl, hk, T⟩ := hrel
          obtain ⟨V3, rfl⟩ : ∃ V3, V3 = wr := ⟨_, rfl⟩
          by_cases dk : (k : Int) < (m : Int)
          · have kl : k < m := by omega
            have kx : k < xs.length := by have := HS.out.len; omega
            obtain ⟨g, off, hb', hg, p0, p1, p2⟩ := (HS.out.below T.out.below).cells k kx
            obtain ⟨⟨u, v, z⟩, hp⟩ : ∃ p, xs[k] = p := ⟨_, rfl⟩
            rw [hp] at p0 p1 p2
            simp only at p0 p1 p2
            obtain ⟨iu, iv, zz1, zz2⟩ := spot_in HE.out kx hp
            obtain ⟨q, rfl⟩ : ∃ q : Nat, z = (q : Int) := ⟨z.toNat, by omega⟩
            obtain ⟨D, hm, hc⟩ := T.out.mp
            obtain ⟨U, hU⟩ : ∃ U, V3.alloc (.cells #[.int .i64 u, .int .i64 v, .int .i64 (q : Int)] 136) = U := ⟨_, rfl⟩
            have gu : U.heap[V3.heap.size]? = some (.cells #[.int .i64 u, .int .i64 v, .int .i64 (q : Int)] 136 (0, 0)) := by rw [← hU]; exact heap_alloc_new _ _
            have ku : ∀ j, j < V3.heap.size → U.heap[j]? = V3.heap[j]? := fun j hj => by rw [← hU]; exact Below.heap_alloc _ _ _ hj
            have lk := lt_of_block T.out.blk
            have lt' := lt_of_block T.out.tur
            have gk := (ku kb lk).trans T.out.blk
            have c1 := cell_of_row U _ 1 _ _ _ gk
            unfold wkV at c1
            have v0 := cell_of_row U _ 0 _ _ _ gu
            have v1 := cell_of_row U _ 1 _ _ _ gu
            have v2 := cell_of_row U _ 2 _ _ _ gu
            simp at c1 v0 v1 v2
            have hm1 : U.drew.ownsMap Tryd.prog 216 (plainElem Tryd.prog 3) mb k D := by rw [← hU]; exact (hm.alloc _).drew
            obtain ⟨w2, hrun, hown, htu⟩ := hm1.store (t := 211) lawC Tryd.underlying211 (by unfold maxLen; omega) (key_cell iu iv) (plainElem_int Tryd.underlying3 (WalkArith.wf_i64 (n := (q : Int)) (by omega)))
            have zu : U.heap.size = V3.heap.size + 1 := by rw [← hU]; simp
            have NT := hide' (show BG w w1 w2 L tb mb kb (tuF s L) (k + 1) (colT xs (k + 1)) from by
              have kt : ∀ j, j ≠ mb → j < V3.heap.size → w2.heap[j]? = V3.heap[j]? := fun j h1 h2 => (turned_other htu h1 (by show j < U.heap.size; omega)).trans (ku j h2)
              have sz := T.out.size
              refine ⟨fun j hj => ?_, (kt kb T.out.ne.2.1 lk).trans T.out.blk, (kt tb T.out.ne.2.2 lt').trans T.out.tur, ⟨_, hown, ?_⟩, T.out.ne, T.out.ge, ?_, ?_⟩
              · have := T.out.ge.2.1
                exact (kt j (by omega) (by omega)).trans (T.out.keep j hj)
              · have e1 : xs.getD k (0, 0, 0) = (u, v, (q : Int)) := by rw [getD_at kx, hp]
                rw [colT, e1]
                exact hc.put iu iv (by omega)
              · have b1 : Below w.heap.size w U.drew := by rw [← hU]; exact (T.out.below.alloc (by omega) _).drew
                exact b1.trans (below_turned htu (by have := T.out.ge.2.1; omega) (by show w.heap.size ≤ U.heap.size; omega))
              · have : U.heap.size ≤ w2.heap.size := htu.grown.size
                omega)
            subst hb'
            clear T T1 gk gu ku hm hm1 hc hown htu hp
            go_upto_region 12 with fail
            try rw [hU]
            clear hU
            go_region
            go_wp2
            exact ⟨⟨k + 1, by go_num, by omega, NT⟩, by simp [intOf]; omega⟩
          · have km : k = m := by omega
            have T2 := hide' (show BG w w1 V3 L tb mb kb (tuF s L) m (colT xs m) from by have h := T.out; rw [km] at h; exact h)
            clear T T1 km
            have gw := (T2.out.keep w.heap.size (by omega)).trans G1.out
            have a0 := cell_of_row V3 _ 0 _ _ _ gw
            have a1 := cell_of_row V3 _ 1 _ _ _ gw
            have a2 := cell_of_row V3 _ 2 _ _ _ gw
            simp at a0 a1 a2
            have gk := T2.out.blk
            have lk := lt_of_block gk
            obtain ⟨⟨x1, x2⟩, ⟨y1, y2⟩⟩ := near_in HXY.out
            have FC := hide' (fun V => facings_any V)
            unfold fcV at FC
            have i0 := index_fc0
            have i1 := index_fc1
            have i2 := index_fc2
            have i3 := index_fc3
            have GK := hide' gk
            have nkw : ¬ w.heap.size = kb := by have := T2.out.ge.2.2; omega
            have l0 : w.heap.size < V3.heap.size := by have := T2.out.size; omega
            have setW := hide' (fun (U : World) (o : Nat) (v : Value) => show (U.setCell ⟨kb, o, none⟩ v).heap[w.heap.size]? = U.heap[w.heap.size]? from Below.heap_setCell _ _ _ _ (by simpa using nkw))
            clear gk gw
            have wy : IntKind.i64.wrap (-y) = -y := by simp [IntKind.wrap, IntKind.bits, IntKind.signed]; omega
            rcases (by omega : d = 0 ∨ d = 1 ∨ d = 2 ∨ d = 3) with rfl | rfl | rfl | rfl
            · have SX := hide' (fun (U : World) (h : U.heap[w.heap.size]? = V3.heap[w.heap.size]?) => show U.cell? ⟨w.heap.size, 0, none⟩ = some (.int .i64 x) ∧ U.cell? ⟨w.heap.size, 1, none⟩ = some (.int .i64 y) ∧ U.cell? ⟨w.heap.size, 2, none⟩ = some (.int .i64 0) from ⟨(World.cell?_of_block (w := V3) (a := ⟨w.heap.size, 0, none⟩) h).trans a0, (World.cell?_of_block (w := V3) (a := ⟨w.heap.size, 1, none⟩) h).trans a1, (World.cell?_of_block (w := V3) (a := ⟨w.heap.size, 2, none⟩) h).trans a2⟩)
              go_upto_region 14 with fail
              go_region_held3 (fun U => U.cell? ⟨w.heap.size, 0, none⟩ = some (.int .i64 x) ∧ U.cell? ⟨w.heap.size, 1, none⟩ = some (.int .i64 y) ∧ U.cell? ⟨w.heap.size, 2, none⟩ = some (.int .i64 0)) (first | exact SX.out _ ((setW.out _ _ _).trans ((setW.out _ _ _).trans E5.out)) | exact SX.out _ ((setW.out _ _ _).trans E5.out) | exact SX.out _ E5.out | exact SX.out _ rfl | fail)
                (first | (go_at_call 118; refine (FC.out _).mono ?_; rintro e5 w5 ⟨rfl, b5⟩; have E5 := hide' (b5.block w.heap.size l0); have B5 := hide' (show Below V3.heap.size V3 w5 from (Below.refl _ V3).drew.trans b5); have gk5 := (b5.block kb lk).trans GK.out; have k2 := cell_of_row w5 _ 2 _ _ _ gk5; have k3 := cell_of_row w5 _ 3 _ _ _ gk5; unfold wkV at k2 k3; simp at k2 k3; have f2 := frozen_of_row w5 _ 2 _ _ gk5; have f3 := frozen_of_row w5 _ 3 _ _ gk5; have l5 := lt_of_block gk5; clear b5) | fail)
              all_goals
                have FI := hide' (begin_fin (d := 0) T2.out B5.out (And.intro x1 x2) (And.intro y1 y2) (by omega) IsI_zero IsI_one L1 HE.out (by have := HS.out.len; omega) z1 rfl)
                clear k2 k3 f2 f3 gk5 l5
                go_wp2
                go_ret
                exact ⟨kb, tb, mb, rfl, FI.out⟩
            · have SX := hide' (fun (U : World) (h : U.heap[w.heap.size]? = V3.heap[w.heap.size]?) => show U.cell? ⟨w.heap.size, 0, none⟩ = some (.int .i64 x) ∧ U.cell? ⟨w.heap.size, 1, none⟩ = some (.int .i64 y) ∧ U.cell? ⟨w.heap.size, 2, none⟩ = some (.int .i64 1) from ⟨(World.cell?_of_block (w := V3) (a := ⟨w.heap.size, 0, none⟩) h).trans a0, (World.cell?_of_block (w := V3) (a := ⟨w.heap.size, 1, none⟩) h).trans a1, (World.cell?_of_block (w := V3) (a := ⟨w.heap.size, 2, none⟩) h).trans a2⟩)
              go_upto_region 14 with fail
              go_region_held3 (fun U => U.cell? ⟨w.heap.size, 0, none⟩ = some (.int .i64 x) ∧ U.cell? ⟨w.heap.size, 1, none⟩ = some (.int .i64 y) ∧ U.cell? ⟨w.heap.size, 2, none⟩ = some (.int .i64 1)) (first | exact SX.out _ ((setW.out _ _ _).trans ((setW.out _ _ _).trans E5.out)) | exact SX.out _ ((setW.out _ _ _).trans E5.out) | exact SX.out _ E5.out | exact SX.out _ rfl | fail)
                (first | (go_at_call 118; refine (FC.out _).mono ?_; rintro e5 w5 ⟨rfl, b5⟩; have E5 := hide' (b5.block w.heap.size l0); have B5 := hide' (show Below V3.heap.size V3 w5 from (Below.refl _ V3).drew.trans b5); have gk5 := (b5.block kb lk).trans GK.out; have k2 := cell_of_row w5 _ 2 _ _ _ gk5; have k3 := cell_of_row w5 _ 3 _ _ _ gk5; unfold wkV at k2 k3; simp at k2 k3; have f2 := frozen_of_row w5 _ 2 _ _ gk5; have f3 := frozen_of_row w5 _ 3 _ _ gk5; have l5 := lt_of_block gk5; clear b5) | fail)
              all_goals
                have FI := hide' (begin_fin (d := 1) T2.out B5.out (And.intro x1 x2) (And.intro y1 y2) (by omega) IsI_one IsI_zero L1 HE.out (by have := HS.out.len; omega) z1 rfl)
                clear k2 k3 f2 f3 gk5 l5
                go_wp2
                go_ret
                exact ⟨kb, tb, mb, rfl, FI.out⟩
            · have SX := hide' (fun (U : World) (h : U.heap[w.heap.size]? = V3.heap[w.heap.size]?) => show U.cell? ⟨w.heap.size, 0, none⟩ = some (.int .i64 x) ∧ U.cell? ⟨w.heap.size, 1, none⟩ = some (.int .i64 y) ∧ U.cell? ⟨w.heap.size, 2, none⟩ = some (.int .i64 2) from ⟨(World.cell?_of_block (w := V3) (a := ⟨w.heap.size, 0, none⟩) h).trans a0, (World.cell?_of_block (w := V3) (a := ⟨w.heap.size, 1, none⟩) h).trans a1, (World.cell?_of_block (w := V3) (a := ⟨w.heap.size, 2, none⟩) h).trans a2⟩)
              go_upto_region 14 with fail
              go_region_held3 (fun U => U.cell? ⟨w.heap.size, 0, none⟩ = some (.int .i64 x) ∧ U.cell? ⟨w.heap.size, 1, none⟩ = some (.int .i64 y) ∧ U.cell? ⟨w.heap.size, 2, none⟩ = some (.int .i64 2)) (first | exact SX.out _ ((setW.out _ _ _).trans ((setW.out _ _ _).trans E5.out)) | exact SX.out _ ((setW.out _ _ _).trans E5.out) | exact SX.out _ E5.out | exact SX.out _ rfl | fail)
                (first | (go_at_call 118; refine (FC.out _).mono ?_; rintro e5 w5 ⟨rfl, b5⟩; have E5 := hide' (b5.block w.heap.size l0); have B5 := hide' (show Below V3.heap.size V3 w5 from (Below.refl _ V3).drew.trans b5); have gk5 := (b5.block kb lk).trans GK.out; have k2 := cell_of_row w5 _ 2 _ _ _ gk5; have k3 := cell_of_row w5 _ 3 _ _ _ gk5; unfold wkV at k2 k3; simp at k2 k3; have f2 := frozen_of_row w5 _ 2 _ _ gk5; have f3 := frozen_of_row w5 _ 3 _ _ gk5; have l5 := lt_of_block gk5; clear b5) | fail)
              all_goals
                have FI := hide' (begin_fin (d := 2) T2.out B5.out (And.intro x1 x2) (And.intro y1 y2) (by omega) IsI_zero IsI_mone L1 HE.out (by have := HS.out.len; omega) z1 rfl)
                clear k2 k3 f2 f3 gk5 l5
                go_wp2
                go_ret
                exact ⟨kb, tb, mb, rfl, FI.out⟩
            · have SX := hide' (fun (U : World) (h : U.heap[w.heap.size]? = V3.heap[w.heap.size]?) => show U.cell? ⟨w.heap.size, 0, none⟩ = some (.int .i64 x) ∧ U.cell? ⟨w.heap.size, 1, none⟩ = some (.int .i64 y) ∧ U.cell? ⟨w.heap.size, 2, none⟩ = some (.int .i64 3) from ⟨(World.cell?_of_block (w := V3) (a := ⟨w.heap.size, 0, none⟩) h).trans a0, (World.cell?_of_block (w := V3) (a := ⟨w.heap.size, 1, none⟩) h).trans a1, (World.cell?_of_block (w := V3) (a := ⟨w.heap.size, 2, none⟩) h).trans a2⟩)
              go_upto_region 14 with fail
              go_region_held3 (fun U => U.cell? ⟨w.heap.size, 0, none⟩ = some (.int .i64 x) ∧ U.cell? ⟨w.heap.size, 1, none⟩ = some (.int .i64 y) ∧ U.cell? ⟨w.heap.size, 2, none⟩ = some (.int .i64 3)) (first | exact SX.out _ ((setW.out _ _ _).trans ((setW.out _ _ _).trans E5.out)) | exact SX.out _ ((setW.out _ _ _).trans E5.out) | exact SX.out _ E5.out | exact SX.out _ rfl | fail)
                (first | (go_at_call 118; refine (FC.out _).mono ?_; rintro e5 w5 ⟨rfl, b5⟩; have E5 := hide' (b5.block w.heap.size l0); have B5 := hide' (show Below V3.heap.size V3 w5 from (Below.refl _ V3).drew.trans b5); have gk5 := (b5.block kb lk).trans GK.out; have k2 := cell_of_row w5 _ 2 _ _ _ gk5; have k3 := cell_of_row w5 _ 3 _ _ _ gk5; unfold wkV at k2 k3; simp at k2 k3; have f2 := frozen_of_row w5 _ 2 _ _ gk5; have f3 := frozen_of_row w5 _ 3 _ _ gk5; have l5 := lt_of_block gk5; clear b5) | fail)
              all_goals
                have FI := hide' (begin_fin (d := 3) T2.out B5.out (And.intro x1 x2) (And.intro y1 y2) (by omega) IsI_mone IsI_zero L1 HE.out (by have := HS.out.len; omega) z1 rfl)
                clear k2 k3 f2 f3 gk5 l5
                go_wp2
                go_ret
                exact ⟨kb, tb, mb, rfl, FI.out⟩
end Go.Proofs.YtdkomlgkkepioaaDoor

