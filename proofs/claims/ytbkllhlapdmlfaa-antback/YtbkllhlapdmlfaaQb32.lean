/-
  What the last text of this claim leans on, part 32: Ad2, Ac3, Ad4.
-/
import Derived.Test.YtbkllhlapdmlfaaQb30
namespace Go.Proofs.Ytbkllhlapdmlfaa
open Go.RowKit
set_option linter.unusedVariables false
set_option maxRecDepth 100000 in
set_option maxHeartbeats 6400000 in
theorem antBack_bad (o : Out) (a : Option Addr) (n c : Nat) (xs : List SpotT) (b : Option Addr) (m e : Nat) (x y d k : Int) (w : World) (hR : ArgR w o a n c) (hS : ArgS w xs b m e) (hno : ¬ AntOk o xs x y d k) :
    Calls Try.prog 13 #[.agg #[.int .i64 o.kind, .int .i64 o.born, .int .i64 o.stay, .int .i64 o.states, .int .i64 o.radius, .slice a n c, .string o.turns], .slice b m e, .agg #[.int .i64 x, .int .i64 y, .int .i64 d], .int .i64 k] w fun e' w' => ∃ f, AntErr o xs x y d k f ∧ f ≠ 0 ∧ e' = .returned (.tuple #[.slice none 0 0, .agg #[.int .i64 0, .int .i64 0, .int .i64 0], errOf f]) ∧ Below w.heap.size w w' := by
  obtain ⟨w1, hw1⟩ : ∃ w1, ((w.alloc (.cells #[.int .i64 o.kind, .int .i64 o.born, .int .i64 o.stay, .int .i64 o.states, .int .i64 o.radius, .slice a n c, .string o.turns] 37)).alloc (.cells #[.int .i64 x, .int .i64 y, .int .i64 d] 40)).alloc (.cells #[.int .i64 0, .int .i64 0, .int .i64 0] 40) = w1 := ⟨_, rfl⟩
  have BB := hide' (show Below w.heap.size w w1 by rw [← hw1]; repeat (first | exact Below.refl _ _ | refine Below.alloc ?_ (by simp; try omega) _))
  have g0 : w1.heap[w.heap.size]? = some (.cells #[.int .i64 o.kind, .int .i64 o.born, .int .i64 o.stay, .int .i64 o.states, .int .i64 o.radius, .slice a n c, .string o.turns] 37 (0, 0)) := by rw [← hw1, Below.heap_alloc _ _ _ (by simp; try omega), Below.heap_alloc _ _ _ (by simp; try omega)]; exact heap_atX _ _ _ (by simp)
  have g1 : w1.heap[w.heap.size + 1]? = some (.cells #[.int .i64 x, .int .i64 y, .int .i64 d] 40 (0, 0)) := by rw [← hw1, Below.heap_alloc _ _ _ (by simp; try omega)]; exact heap_atX _ _ _ (by simp)
  have g2 : w1.heap[w.heap.size + 1 + 1]? = some (.cells #[.int .i64 0, .int .i64 0, .int .i64 0] 40 (0, 0)) := by rw [← hw1]; exact heap_atX _ _ _ (by simp)
  have z1 : w1.heap.size = w.heap.size + 1 + 1 + 1 := by rw [← hw1]; simp
  have SV := hide' (fun (V : World) (h : Below w1.heap.size w1 V) => show V.cell? ⟨w.heap.size, 0, none⟩ = some (.int .i64 o.kind) ∧ V.cell? ⟨w.heap.size, 1, none⟩ = some (.int .i64 o.born) ∧ V.cell? ⟨w.heap.size, 2, none⟩ = some (.int .i64 o.stay) ∧ V.cell? ⟨w.heap.size, 3, none⟩ = some (.int .i64 o.states) ∧ V.cell? ⟨w.heap.size, 4, none⟩ = some (.int .i64 o.radius) ∧ V.cell? ⟨w.heap.size, 5, none⟩ = some (.slice a n c) ∧ V.cell? ⟨w.heap.size, 6, none⟩ = some (.string o.turns) ∧ V.cell? ⟨w.heap.size + 1, 0, none⟩ = some (.int .i64 x) ∧ V.cell? ⟨w.heap.size + 1, 1, none⟩ = some (.int .i64 y) ∧ V.cell? ⟨w.heap.size + 1, 2, none⟩ = some (.int .i64 d) from by
    have e1 := (h.block _ (lt_of_block g0)).trans g0
    have e2 := (h.block _ (lt_of_block g1)).trans g1
    exact ⟨cell_of_row V _ 0 _ _ _ e1, cell_of_row V _ 1 _ _ _ e1, cell_of_row V _ 2 _ _ _ e1, cell_of_row V _ 3 _ _ _ e1, cell_of_row V _ 4 _ _ _ e1, cell_of_row V _ 5 _ _ _ e1, cell_of_row V _ 6 _ _ _ e1, cell_of_row V _ 0 _ _ _ e2, cell_of_row V _ 1 _ _ _ e2, cell_of_row V _ 2 _ _ _ e2⟩)
  have RS := hide' (fun (V : World) (h : Below w1.heap.size w1 V) => show V.heap[w.heap.size + 1 + 1]? = some (.cells #[.int .i64 0, .int .i64 0, .int .i64 0] 40 (0, 0)) from (h.block _ (lt_of_block g2)).trans g2)
  have BW := hide' (fun (V : World) (h : Below w1.heap.size w1 V) => BB.out.trans (h.mono BB.out.size))
  have CK := hide' (checkWalk_any o a n c xs b m e x y d k w1 (hR.below BB.out) (hS.below BB.out))
  have NO := hide' hno
  obtain ⟨c0, c1, c2, c3, c4, c5, c6, d0, d1, d2⟩ := SV.out w1 (Below.refl _ _)
  clear hR hS g0 g1 g2 hno
  go_enter Try.func13, Try.ntmps13
  go_upto_region 1 with fail
  clear hw1
  go_wp2_with fail
  refine CK.out.mono ?_
  rintro e' w2 ⟨f, hf, rfl, b2⟩
  have f0' : f ≠ 0 := fun q => by
    subst q
    rcases hf with ⟨_, h⟩ | ⟨_, _, h⟩ | ⟨_, _, h1, h⟩ | ⟨_, _, _, _, h⟩ | ⟨h, _⟩
    · cases h
    · cases h
    · exact h1 h.symm
    · cases h
    · exact NO.out h
  have EP := hide' (errOf_posB f0')
  have HF := hide' (And.intro hf f0')
  have C2 := hide' b2
  rw [EP.out]
  have e2 := RS.out w2 C2.out
  have r0 := cell_of_row w2 _ 0 _ _ _ e2
  have r1 := cell_of_row w2 _ 1 _ _ _ e2
  have r2 := cell_of_row w2 _ 2 _ _ _ e2
  simp at r0 r1 r2
  have f0 := frozen_of_row w2 _ 0 _ _ e2
  have f1 := frozen_of_row w2 _ 1 _ _ e2
  have f2 := frozen_of_row w2 _ 2 _ _ e2
  have l2 := lt_of_block e2
  clear c0 c1 c2 c3 c4 c5 c6 d0 d1 d2 hf f0' b2 e2
  go_wp2
  refine bodyPost_ret (v := .tuple #[.slice none 0 0, .agg #[.int .i64 0, .int .i64 0, .int .i64 0], .iface 74 (.int .i64 (f : Int))]) (by simp [results, Try.results13, go_sem, r0, r1, r2]) rfl ?_
  refine ⟨f, HF.out.1, HF.out.2, by rw [EP.out], ?_⟩
  exact (((BW.out _ C2.out).setCell (by simp; omega) _).setCell (by simp; omega) _).setCell (by simp; omega) _
end Go.Proofs.Ytbkllhlapdmlfaa

namespace Go.Proofs.Ytbkllhlapdmlfaa
open Go.RowKit Go.Shelf Go.Lib Go.Sort
set_option linter.unusedVariables false
theorem pn_lt {p q : SpotT} (hp : -1000000 ≤ p.1 ∧ p.1 ≤ 1000000 ∧ -1000000 ≤ p.2.1 ∧ p.2.1 ≤ 1000000) (hq : -1000000 ≤ q.1 ∧ q.1 ≤ 1000000 ∧ -1000000 ≤ q.2.1 ∧ q.2.1 ≤ 1000000) (h : ltOf plcA p q = true) : pnS p < pnS q := by
  rw [plc_neg] at h
  simp at h
  unfold pnS
  omega
theorem pn_mono {L : Int} {xs : List SpotT} (h : spotE L xs = 0) {i : Nat} : ∀ j (hi : i < xs.length) (hj : j < xs.length), i < j → pnS xs[i] < pnS xs[j]
  | 0, _, _, hij => by omega
  | j + 1, hi, hj, hij => by
    have s1 := pn_lt (spot_near h (show j < xs.length by omega)) (spot_near h hj) (spot_ris h hj)
    by_cases e : i = j
    · subst e; exact s1
    · have := pn_mono h j hi (by omega) (by omega)
      omega
theorem pn_place {p q : SpotT} (e : p.1 = q.1 ∧ p.2.1 = q.2.1) : pnS p = pnS q := by unfold pnS; rw [e.1, e.2]
/-- Spots that are right are the spots of the plane that they say. -/
theorem spots_self {L : Nat} {xs : List SpotT} (h : spotE (L : Int) xs = 0) : SpotsOut (colT xs xs.length) xs := by
  have fw : ∀ k, k ≤ xs.length → ∀ j (hj : j < xs.length), j < k → ∀ u v z, xs[j] = (u, v, z) → colT xs k u v = z.toNat := by
    intro k
    induction k with
    | zero => intro _ j hj hjk; omega
    | succ k ih =>
      intro hk j hj hjk u v z e
      rw [colT, getD_at (show k < xs.length by omega)]
      unfold setA
      by_cases q : j = k
      · subst q; rw [e, if_pos ⟨rfl, rfl⟩]
      · rw [if_neg]
        · exact ih (by omega) j hj (by omega) u v z e
        · rintro ⟨e1, e2⟩
          have := pn_mono h k hj (by omega) (by omega)
          rw [pn_place (p := xs[j]) (q := xs[k]) (by rw [e]; exact ⟨e1, e2⟩)] at this
          omega
  have bw : ∀ k, k ≤ xs.length → ∀ u v, colT xs k u v ≠ 0 → ∃ j, ∃ hj : j < xs.length, xs[j] = (u, v, (colT xs k u v : Int)) := by
    intro k
    induction k with
    | zero => intro _ u v hc; exact absurd rfl hc
    | succ k ih =>
      intro hk u v hc
      rw [colT, getD_at (show k < xs.length by omega)] at hc ⊢
      unfold setA at hc ⊢
      by_cases q : u = xs[k].1 ∧ v = xs[k].2.1
      · rw [if_pos q]
        obtain ⟨⟨a, b, c⟩, hp⟩ : ∃ p, xs[k] = p := ⟨_, rfl⟩
        obtain ⟨_, _, z1, _⟩ := spot_in h (show k < xs.length by omega) hp
        refine ⟨k, by omega, ?_⟩
        rw [hp] at q ⊢
        obtain ⟨rfl, rfl⟩ := q
        simp
        omega
      · rw [if_neg q] at hc ⊢
        exact ih (by omega) u v hc
  refine ⟨fun i j hi hj hij => ?_, fun u v z => ⟨fun hm => ?_, fun hm => ?_⟩, ?_, fun u v huv => ?_⟩
  · have := pn_mono h j hi hj hij
    cases q : ltOf plcA xs[j] xs[i]
    · rfl
    · have := pn_lt (spot_near h hj) (spot_near h hi) q
      omega
  · obtain ⟨j, hj, e⟩ := List.getElem_of_mem hm
    have f := fw xs.length (Nat.le_refl _) j hj hj u v z e
    obtain ⟨iu, iv, z1, _⟩ := spot_in h hj e
    exact ⟨iu, iv, by rw [f]; omega, by rw [f]; omega⟩
  · obtain ⟨_, _, hc, e⟩ := hm
    obtain ⟨j, hj, ej⟩ := bw xs.length (Nat.le_refl _) u v hc
    rw [e, ← ej]
    exact List.getElem_mem hj
  · refine List.pairwise_iff_getElem.2 fun i j hi hj hij e => ?_
    have := pn_mono h j hi hj hij
    rw [pn_place e] at this
    omega
  · rcases Nat.eq_zero_or_pos (colT xs xs.length u v) with q | q
    · exact q
    · obtain ⟨j, hj, ej⟩ := bw xs.length (Nat.le_refl _) u v (by omega)
      obtain ⟨iu, iv, _⟩ := spot_in h hj ej
      exact absurd ⟨iu, iv⟩ huv
/-- One list, one plane. -/
theorem spots_col {col col' : Int → Int → Nat} {ys : List SpotT} (h : SpotsOut col ys) (h' : SpotsOut col' ys) : col = col' := by
  funext u v
  by_cases q : inC u ∧ inC v
  · rcases Nat.eq_zero_or_pos (col u v) with z | z
    · rcases Nat.eq_zero_or_pos (col' u v) with z' | z'
      · omega
      · have := (h.2.1 u v (col' u v : Int)).1 ((h'.2.1 u v (col' u v : Int)).2 ⟨q.1, q.2, by omega, rfl⟩)
        omega
    · have := (h'.2.1 u v (col u v : Int)).1 ((h.2.1 u v (col u v : Int)).2 ⟨q.1, q.2, by omega, rfl⟩)
      omega
  · rw [h.2.2.2 u v q, h'.2.2.2 u v q]
theorem spot_eq (p q : SpotT) (w : World) : (Op.equalIn 10000 73 (.agg #[.int .i64 p.1, .int .i64 p.2.1, .int .i64 p.2.2]) (.agg #[.int .i64 q.1, .int .i64 q.2.1, .int .i64 q.2.2])).run Try.prog w = .ok (decide (p = q)) w := by
  have u3 := Try.underlying3
  have a3 := Try.isAgg3
  have z3 := Try.sizeOf3
  have hS : Try.prog.underlying 73 = some (.struct (Try.prog.fieldsOf 73)) := by kernel_rfl
  have hp : Try.prog.stoodInHeld 73 = false := by kernel_rfl
  rw [show (10000 : Nat) = 9999 + 1 from rfl, run_equalIn_agg w 9999 73 _ _ hS hp]
  simp only [Program.fieldsOf, Try.underlying73]
  go_simp
  obtain ⟨p1, p2, p3⟩ := p
  obtain ⟨q1, q2, q3⟩ := q
  by_cases h1 : p1 = q1 <;> by_cases h2 : p2 = q2 <;> by_cases h3 : p3 = q3 <;> simp [h1, h2, h3]
theorem walker_eq (p q : SpotT) (w : World) : (Op.equalIn 10000 40 (.agg #[.int .i64 p.1, .int .i64 p.2.1, .int .i64 p.2.2]) (.agg #[.int .i64 q.1, .int .i64 q.2.1, .int .i64 q.2.2])).run Try.prog w = .ok (decide (p = q)) w := by
  have u3 := Try.underlying3
  have a3 := Try.isAgg3
  have z3 := Try.sizeOf3
  have hS : Try.prog.underlying 40 = some (.struct (Try.prog.fieldsOf 40)) := by kernel_rfl
  have hp : Try.prog.stoodInHeld 40 = false := by kernel_rfl
  rw [show (10000 : Nat) = 9999 + 1 from rfl, run_equalIn_agg w 9999 40 _ _ hS hp]
  simp only [Program.fieldsOf, Try.underlying40]
  go_simp
  obtain ⟨p1, p2, p3⟩ := p
  obtain ⟨q1, q2, q3⟩ := q
  by_cases h1 : p1 = q1 <;> by_cases h2 : p2 = q2 <;> by_cases h3 : p3 = q3 <;> simp [h1, h2, h3]
end Go.Proofs.Ytbkllhlapdmlfaa

namespace Go.Proofs.Ytbkllhlapdmlfaa
open Go.RowKit Go.Shelf Go.Lib Go.Sort
set_option linter.unusedVariables false
def ltS (p q : SpotT) : Prop := p.2.1 < q.2.1 ∨ (p.2.1 = q.2.1 ∧ p.1 < q.1)
theorem sorted_one : ∀ (ys zs : List SpotT), ys.Pairwise ltS → zs.Pairwise ltS → (∀ p, p ∈ ys ↔ p ∈ zs) → ys = zs
  | [], [], _, _, _ => rfl
  | [], z :: zs, _, _, h => absurd ((h z).2 (by simp)) (by simp)
  | y :: ys, [], _, _, h => absurd ((h y).1 (by simp)) (by simp)
  | y :: ys, z :: zs, h1, h2, h => by
    obtain ⟨a1, b1⟩ := List.pairwise_cons.1 h1
    obtain ⟨a2, b2⟩ := List.pairwise_cons.1 h2
    have e : y = z := by
      rcases List.mem_cons.1 ((h y).1 (by simp)) with q | q
      · exact q
      · rcases List.mem_cons.1 ((h z).2 (by simp)) with r | r
        · exact r.symm
        · have l1 := a2 y q
          have l2 := a1 z r
          unfold ltS at l1 l2
          omega
    subst e
    congr 1
    refine sorted_one ys zs b1 b2 fun p => ⟨fun m => ?_, fun m => ?_⟩
    · rcases List.mem_cons.1 ((h p).1 (List.mem_cons_of_mem _ m)) with q | q
      · have l1 := a1 p m
        rw [q] at l1; unfold ltS at l1; omega
      · exact q
    · rcases List.mem_cons.1 ((h p).2 (List.mem_cons_of_mem _ m)) with q | q
      · have l1 := a2 p m
        rw [q] at l1; unfold ltS at l1; omega
      · exact q
theorem out_sorted {col : Int → Int → Nat} {ys : List SpotT} (h : SpotsOut col ys) : ys.Pairwise ltS := by
  refine List.pairwise_iff_getElem.2 fun i j hi hj hij => ?_
  have s := h.1 i j hi hj hij
  have d := List.pairwise_iff_getElem.1 h.2.2.1 i j hi hj hij
  rw [plc_neg] at s
  simp at s
  unfold ltS
  omega
theorem spots_one {col : Int → Int → Nat} {ys zs : List SpotT} (h : SpotsOut col ys) (g : SpotsOut col zs) : ys = zs :=
  sorted_one ys zs (out_sorted h) (out_sorted g) fun ⟨x, y, z⟩ => (h.2.1 x y z).trans (g.2.1 x y z).symm
theorem fits_ok {col : Int → Int → Nat} {L : Nat} {ys : List SpotT} (h : SpotsOut col ys) (hc : ∀ x y, col x y < L) (hn : ∀ p ∈ ys, nearA p.1 p.2.1 = true) : spotE (L : Int) ys = 0 := by
  unfold spotE
  rw [if_pos, if_pos]
  · refine List.all_eq_true.2 fun k hk => ?_
    have hk' : k + 1 < ys.length := by have := List.mem_range.1 hk; omega
    rw [getD_at (show k < ys.length by omega), getD_at hk']
    have l := List.pairwise_iff_getElem.1 (out_sorted h) k (k + 1) (by omega) hk' (by omega)
    show ltOf plcA ys[k] ys[k + 1] = true
    rw [plc_neg]
    unfold ltS at l
    simp
    omega
  · refine List.all_eq_true.2 fun p hp => ?_
    obtain ⟨x, y, z⟩ := p
    obtain ⟨_, _, c0, ez⟩ := (h.2.1 x y z).1 hp
    have := hc x y
    have n1 := hn _ hp
    unfold spotB
    simp only [n1, Bool.true_and, Bool.and_eq_true, decide_eq_true_eq]
    omega
theorem spots_plane {col : Int → Int → Nat} {L : Nat} {ys : List SpotT} (h : SpotsOut col ys) (e : spotE (L : Int) ys = 0) : colT ys ys.length = col := spots_col (spots_self e) h
end Go.Proofs.Ytbkllhlapdmlfaa

