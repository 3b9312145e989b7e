/-
  What the last text of this claim leans on, part 13: Rw5, Rw6.
-/
import Derived.Test.YtpppmollmiomlaaDoorZu11
import Derived.Deep.QuietTactic
import Derived.BigQuiet
namespace Go.Proofs.YtpppmollmiomlaaDoor
open Go.RowKit
set_option linter.unusedVariables false
set_option linter.unusedSimpArgs false
def lsN (P : Nat) (f : Nat → Nat) : List Int := (List.range P).map fun k => (f k : Int)
theorem lsN_len (P : Nat) (f : Nat → Nat) : (lsN P f).length = P := by simp [lsN]
theorem lsN_get {P k : Nat} (f : Nat → Nat) (h : k < P) : (lsN P f)[k]? = some (f k : Int) := by simp [lsN, h]
theorem lsN_ext {P : Nat} {f g : Nat → Nat} (h : ∀ k, k < P → f k = g k) : lsN P f = lsN P g := by
  unfold lsN
  apply List.map_congr_left
  intro k hk
  rw [h k (List.mem_range.1 hk)]
def upN (f : Nat → Nat) (k x j : Nat) : Nat := if j = k then x else f j
theorem lsN_set (P k x : Nat) (f : Nat → Nat) : ((lsN P f).map (Value.int .i64)).set k (.int .i64 (x : Int)) = (lsN P (upN f k x)).map (Value.int .i64) := by
  apply List.ext_getElem
  · simp [lsN]
  · intro i h1 h2
    simp only [List.getElem_set, lsN, List.getElem_map, List.getElem_range, upN]
    by_cases q : k = i
    · rw [if_pos q, if_pos q.symm]
    · rw [if_neg q, if_neg (fun e => q e.symm)]
theorem BdR.sgCell {V : World} {pb B P s wb sb sc tb : Nat} {v : Nat → Value} {L : Nat → List Int} {sg : Nat → Nat} {wt : List Int} (h : BdR V pb B P s wb sb sc tb v L (lsN P sg) wt) {k : Nat} (hk : k < P) : V.cell? ⟨sb, k, none⟩ = some (.int .i64 (sg k : Int)) := by
  rw [h.sgs.cellAt k (by omega), List.getElem?_map, lsN_get _ hk]
  rfl
theorem BdR.wtCell {V : World} {pb B P s wb sb sc tb : Nat} {v : Nat → Value} {L : Nat → List Int} {sg : List Int} {wt : Nat → Nat} (h : BdR V pb B P s wb sb sc tb v L sg (lsN P wt)) {k : Nat} (hk : k < P) : V.cell? ⟨tb, k, none⟩ = some (.int .i64 (wt k : Int)) := by
  rw [h.wts.cellAt k (by omega), List.getElem?_map, lsN_get _ hk]
  rfl
theorem BdR.next {V V' : World} {pb B P s wb sb sc tb : Nat} {v : Nat → Value} {L : Nat → List Int} {sg wt : List Int} (h : BdR V pb B P s wb sb sc tb v L sg wt) (b : Below V.heap.size V V') : BdR V' pb B P s wb sb sc tb v L sg wt :=
  ⟨(b.block _ (ltS_of_block h.box)).trans h.box, h.wy.keep b, own_next h.sgs b, own_next h.wts b, h.ne, h.ns, h.nt, h.base⟩
theorem WyA.setOther {V : World} {wb B P g i : Nat} {v : Nat → Value} {L : Nat → List Int} (h : WyA V wb B P v L) (x : Value) (n1 : wb ≠ g) (n2 : ∀ k, k < P → (v k).ownBlock ≠ some g) : WyA (V.setCell ⟨g, i, none⟩ x) wb B P v L :=
  ⟨(Below.heap_setCell _ _ _ _ n1).trans h.blk, fun k hk => (h.own k hk).kept (grownBy_setR V g i x) (Or.inr (n2 k hk)), h.apart, h.base⟩
theorem BdR.nws {V : World} {pb B P s wb sb sc tb : Nat} {v : Nat → Value} {L : Nat → List Int} {sg wt : List Int} (h : BdR V pb B P s wb sb sc tb v L sg wt) : wb ≠ sb ∧ wb ≠ tb ∧ pb ≠ sb ∧ pb ≠ tb := by
  have a := not_rowR h.wy.blk (by decide) h.sgs
  have b := not_rowR h.wy.blk (by decide) h.wts
  have c := not_rowR h.box (by decide) h.sgs
  have d := not_rowR h.box (by decide) h.wts
  simp [Value.ownBlock] at a b c d
  exact ⟨a, b, c, d⟩
theorem BdR.setS {V : World} {pb B P s wb sb sc tb : Nat} {v : Nat → Value} {L : Nat → List Int} {sg : Nat → Nat} {wt : List Int} (h : BdR V pb B P s wb sb sc tb v L (lsN P sg) wt) (k x : Nat) : BdR (V.setCell ⟨sb, k, none⟩ (.int .i64 (x : Int))) pb B P s wb sb sc tb v L (lsN P (upN sg k x)) wt := by
  obtain ⟨n1, n2, n3, n4⟩ := h.nws
  have st := (h.sgs.stored k (.int .i64 (x : Int))).1
  rw [lsN_set] at st
  exact ⟨(Below.heap_setCell _ _ _ _ n3).trans h.box, h.wy.setOther _ n1 h.ns, st, h.wts.kept (grownBy_setR V sb k _) (Or.inr (by simp [Value.ownBlock]; exact fun e => h.ne e.symm)), h.ne, h.ns, h.nt, h.base⟩
theorem BdR.setT {V : World} {pb B P s wb sb sc tb : Nat} {v : Nat → Value} {L : Nat → List Int} {sg : List Int} {wt : Nat → Nat} (h : BdR V pb B P s wb sb sc tb v L sg (lsN P wt)) (k x : Nat) : BdR (V.setCell ⟨tb, k, none⟩ (.int .i64 (x : Int))) pb B P s wb sb sc tb v L sg (lsN P (upN wt k x)) := by
  obtain ⟨n1, n2, n3, n4⟩ := h.nws
  have st := (h.wts.stored k (.int .i64 (x : Int))).1
  rw [lsN_set] at st
  exact ⟨(Below.heap_setCell _ _ _ _ n4).trans h.box, h.wy.setOther _ n2 h.nt, h.sgs.kept (grownBy_setR V tb k _) (Or.inr (by simp [Value.ownBlock]; exact h.ne)), st, h.ne, h.ns, h.nt, h.base⟩
/-- Only two rows are written. -/
structure KpB (sb tb : Nat) (w w' : World) : Prop where
  os : w'.os = w.os
  tape : w'.tape = w.tape
  output : w'.output = w.output
  size : w.heap.size ≤ w'.heap.size
  block : ∀ k, k < w.heap.size → k ≠ sb → k ≠ tb → w'.heap[k]? = w.heap[k]?
theorem KpB.refl (sb tb : Nat) (w : World) : KpB sb tb w w := ⟨rfl, rfl, rfl, Nat.le_refl _, fun _ _ _ _ => rfl⟩
theorem KpB.trans {sb tb : Nat} {a b c : World} (h : KpB sb tb a b) (k : KpB sb tb b c) : KpB sb tb a c :=
  ⟨k.os.trans h.os, k.tape.trans h.tape, k.output.trans h.output, Nat.le_trans h.size k.size, fun i hi n1 n2 => (k.block i (Nat.lt_of_lt_of_le hi h.size) n1 n2).trans (h.block i hi n1 n2)⟩
theorem KpB.of {sb tb : Nat} {w w' : World} (b : Below w.heap.size w w') : KpB sb tb w w' := ⟨b.os, b.tape, b.output, b.size, fun k hk _ _ => b.block k hk⟩
theorem KpB.below {sb tb B : Nat} {w w' : World} (h : KpB sb tb w w') (h1 : B ≤ sb) (h2 : B ≤ tb) (h3 : B ≤ w.heap.size) : Below B w w' := ⟨h.os, h.tape, h.output, h.size, fun k hk => h.block k (by omega) (by omega) (by omega)⟩
theorem KpB.setS (sb tb : Nat) (w : World) (k : Nat) (x : Value) : KpB sb tb w (w.setCell ⟨sb, k, none⟩ x) := ⟨rfl, rfl, rfl, by simp, fun i _ n1 _ => Below.heap_setCell _ _ _ _ n1⟩
theorem KpB.setT (sb tb : Nat) (w : World) (k : Nat) (x : Value) : KpB sb tb w (w.setCell ⟨tb, k, none⟩ x) := ⟨rfl, rfl, rfl, by simp, fun i _ _ n2 => Below.heap_setCell _ _ _ _ n2⟩
theorem BdR.row {V : World} {pb B P s wb sb sc tb : Nat} {v : Nat → Value} {L : Nat → List Int} {sg wt : List Int} (h : BdR V pb B P s wb sb sc tb v L sg wt) {k : Nat} (hk : k < P) (hp : 0 < (L k).length) : ∃ g cap, v k = .slice (some ⟨g, 0, none⟩) (L k).length cap ∧ (L k).length ≤ 9223372036854775807 ∧ ∀ i (hi : i < (L k).length), V.cell? ⟨g, i, none⟩ = some (.int .i64 (L k)[i]) := by
  obtain ⟨g, cap, e, _, _⟩ := (h.wy.own k hk).form hp
  have o := h.wy.own k hk
  rw [e] at o
  refine ⟨g, cap, e, ?_, fun i hi => ?_⟩
  · rcases o.2 with ⟨e', _⟩ | ⟨_, _, _, e', _, _, h1, h2, _⟩
    · simp at e'
    · unfold maxLen at h2; omega
  · rw [o.cellAt i (by omega), List.getElem?_map, List.getElem?_eq_getElem hi]
    rfl
set_option maxRecDepth 100000 in
set_option maxHeartbeats 3200000 in
theorem shown_any (V : World) (pb B P s wb sb sc tb : Nat) (v : Nat → Value) (L : Nat → List Int) (sg : Nat → Nat) (wt : List Int) (h : BdR V pb B P s wb sb sc tb v L (lsN P sg) wt) (k : Nat) (hk : k < P) (hs : sg k < (L k).length) :
    Calls Tryd.prog 35 #[.pointer (some ⟨pb, 0, none⟩), .int .i64 (k : Int)] V fun e w' => e = .returned (.int .i64 ((L k).getD (sg k) 0)) ∧ Below V.heap.size V w' := by
  obtain ⟨g, cap, ev, lm, hc⟩ := h.row hk (by omega)
  have x1 := cell_of_row V pb 1 _ _ _ h.box
  have x2 := cell_of_row V pb 2 _ _ _ h.box
  simp at x1 x2
  have x3 := h.wy.cell hk
  rw [ev] at x3
  have x4 := h.sgCell hk
  have x5 := hc (sg k) hs
  obtain ⟨z, hz⟩ : ∃ z, (L k)[sg k] = z := ⟨_, rfl⟩
  have e : (L k).getD (sg k) 0 = z := by rw [← hz]; simp [List.getD, hs]
  rw [hz] at x5
  rw [e]
  obtain ⟨m, hm⟩ : ∃ m, (L k).length = m := ⟨_, rfl⟩
  obtain ⟨y, hy⟩ : ∃ y, sg k = y := ⟨_, rfl⟩
  rw [hm] at x3 hs lm
  rw [hy] at x4 x5 hs
  have l1 : (k : Int) < (P : Int) := by omega
  have l2 : (y : Int) < (m : Int) := by omega
  clear h ev hc hz e hm hy
  go_enter Tryd.func35, Tryd.ntmps35
  go_upto_region 1 with fail
  go_quiet (fail)
  go_wp2
  go_ret
  exact ⟨rfl, ⟨rfl, rfl, rfl, Nat.le_refl _, fun _ _ => rfl⟩⟩
end Go.Proofs.YtpppmollmiomlaaDoor

namespace Go.Proofs.YtpppmollmiomlaaDoor
open Go.RowKit
set_option linter.unusedVariables false
set_option linter.unusedSimpArgs false
theorem upN_upN (f : Nat → Nat) (k x y : Nat) : upN (upN f k x) k y = upN f k y := by
  funext j
  unfold upN
  by_cases q : j = k <;> simp [q]
def TurnOut (V : World) (pb B P s wb sb sc tb : Nat) (v : Nat → Value) (L : Nat → List Int) (sg wt : Nat → Nat) (k : Nat) (e : Ending) (w' : World) : Prop :=
  e = .returned (.int .i64 ((L k).getD ((sg k + 1) % (L k).length) 0)) ∧ BdR w' pb B P s wb sb sc tb v L (lsN P (upN sg k ((sg k + 1) % (L k).length))) (lsN P (upN wt k (wt k + 1))) ∧ KpB sb tb V w'
set_option maxRecDepth 100000 in
set_option maxHeartbeats 6400000 in
theorem turn_any (V : World) (pb B P s wb sb sc tb : Nat) (v : Nat → Value) (L : Nat → List Int) (sg wt : Nat → Nat) (h : BdR V pb B P s wb sb sc tb v L (lsN P sg) (lsN P wt)) (k : Nat) (hk : k < P) (hs : sg k < (L k).length) (hb : wt k < 4611686018427387904) (hl : (L k).length ≤ 100000) :
    Calls Tryd.prog 27 #[.pointer (some ⟨pb, 0, none⟩), .int .i64 (k : Int)] V (TurnOut V pb B P s wb sb sc tb v L sg wt k) := by
  obtain ⟨g, cap, ev, lm, -⟩ := h.row hk (by omega)
  have x3 := cell_of_row V pb 3 _ _ _ h.box
  simp at x3
  have y1 := h.wtCell hk
  have z1 := h.wts.frozenAt k
  obtain ⟨t, ht⟩ : ∃ t, wt k = t := ⟨_, rfl⟩
  obtain ⟨y, hy⟩ : ∃ y, sg k = y := ⟨_, rfl⟩
  obtain ⟨m, hm⟩ : ∃ m, (L k).length = m := ⟨_, rfl⟩
  have H2 := hide' (h.setT k (wt k + 1))
  have H3 := hide' ((h.setT k (wt k + 1)).setS k (sg k + 1))
  have K3 := hide' ((KpB.setT sb tb V k (.int .i64 ((wt k + 1 : Nat) : Int))).trans (KpB.setS sb tb _ k (.int .i64 ((sg k + 1 : Nat) : Int))))
  have HM := hide' hm
  have HY := hide' hy
  have HV := hide' ev
  rw [ht] at y1 hb H2 H3 K3
  rw [hy] at hs H3 K3
  rw [hm] at hs hl
  have l1 : (k : Int) < (P : Int) := by omega
  have TG := hide' (fun (X : World) (sg' wt' : Nat → Nat) (hX : BdR X pb B P s wb sb sc tb v L (lsN P sg') (lsN P wt')) (q : sg' k < (L k).length) => shown_any X pb B P s wb sb sc tb v L sg' (lsN P wt') hX k hk q)
  have OUT := hide' (fun (e : Ending) (w' : World) (h1 : e = .returned (.int .i64 ((L k).getD ((y + 1) % m) 0))) (h2 : BdR w' pb B P s wb sb sc tb v L (lsN P (upN sg k ((y + 1) % m))) (lsN P (upN wt k (t + 1)))) (h3 : KpB sb tb V w') => show TurnOut V pb B P s wb sb sc tb v L sg wt k e w' by
    unfold TurnOut
    rw [ht, hy, hm]
    exact ⟨h1, h2, h3⟩)
  have HK := hide' hk
  clear h ht hy hm ev
  go_enter Tryd.func27, Tryd.ntmps27
  go_upto_region 2 with fail
  obtain ⟨w2, hw2⟩ : ∃ w2, V.setCell ⟨tb, k, none⟩ (.int .i64 ((t + 1 : Nat) : Int)) = w2 := ⟨_, rfl⟩
  have e1 : (t : Int) + 1 = ((t + 1 : Nat) : Int) := by omega
  rw [e1, hw2]
  rw [hw2] at H2 H3 K3
  clear hw2 e1 x3 y1 z1
  have x2 := cell_of_row w2 pb 2 _ _ _ H2.out.box
  simp at x2
  have y2 := H2.out.sgCell HK.out
  rw [HY.out] at y2
  have z2 := H2.out.sgs.frozenAt k
  go_upto_region 3 with fail
  obtain ⟨w3, hw3⟩ : ∃ w3, w2.setCell ⟨sb, k, none⟩ (.int .i64 ((y + 1 : Nat) : Int)) = w3 := ⟨_, rfl⟩
  have e1 : (y : Int) + 1 = ((y + 1 : Nat) : Int) := by omega
  rw [e1, hw3]
  rw [hw3] at H3 K3
  clear hw3 e1 x2 y2 z2
  have x1 := cell_of_row w3 pb 1 _ _ _ H3.out.box
  have x2 := cell_of_row w3 pb 2 _ _ _ H3.out.box
  simp at x1 x2
  have x4 := H3.out.wy.cell HK.out
  rw [HV.out, HM.out] at x4
  have y3 := H3.out.sgCell HK.out
  rw [show upN sg k (y + 1) k = y + 1 by unfold upN; rw [if_pos rfl]] at y3
  obtain ⟨y', hy'⟩ : ∃ y', y + 1 = y' := ⟨_, rfl⟩
  rw [hy'] at y3 ⊢
  have z3 := H3.out.sgs.frozenAt k
  by_cases d : y' = m
  · have MD := hide' (show (y + 1) % m = 0 by rw [hy', d, Nat.mod_self])
    have H4 := hide' (show BdR (w3.setCell ⟨sb, k, none⟩ (.int .i64 ((0 : Nat) : Int))) pb B P s wb sb sc tb v L (lsN P (upN sg k 0)) (lsN P (upN wt k (t + 1))) by
      have := H3.out.setS k 0
      rw [upN_upN] at this
      exact this)
    have K4 := hide' (K3.out.trans (KpB.setS sb tb w3 k (.int .i64 ((0 : Nat) : Int))))
    have e5 : ((y' : Int) == (m : Int)) = true := by rw [d]; simp
    have ML := hide' (show 0 < (L k).length by rw [HM.out]; omega)
    clear d hy'
    go_quiet (fail)
    have qb : ∀ p o, (w3.drewN nq).cell? ⟨p, o, none⟩ = w3.cell? ⟨p, o, none⟩ := fun _ _ => rfl
    have qf : ∀ p o, (w3.drewN nq).frozen? ⟨p, o, none⟩ = w3.frozen? ⟨p, o, none⟩ := fun _ _ => rfl
    obtain ⟨w4, hw4⟩ : ∃ w4, w3.drewN nq = w4 := ⟨_, rfl⟩
    have B4 := hide' (show Below w3.heap.size w3 w4 by rw [← hw4]; exact ⟨rfl, rfl, rfl, Nat.le_refl _, fun _ _ => rfl⟩)
    rw [hw4]
    clear qb qf hw4 x1 x2 x4 y3 z3 H4 K4
    have J4 := hide' (H3.out.next B4.out)
    have x2 := cell_of_row w4 pb 2 _ _ _ J4.out.box
    simp at x2
    have y3 := J4.out.sgCell HK.out
    have z3 := J4.out.sgs.frozenAt k
    have H5 := hide' (show BdR (w4.setCell ⟨sb, k, none⟩ (.int .i64 0)) pb B P s wb sb sc tb v L (lsN P (upN sg k 0)) (lsN P (upN wt k (t + 1))) by
      have := J4.out.setS k 0
      rw [upN_upN] at this
      exact this)
    have K5 := hide' ((K3.out.trans (KpB.of B4.out)).trans (KpB.setS sb tb w4 k (.int .i64 0)))
    go_upto_region 5 with fail
    obtain ⟨w5, hw5⟩ : ∃ w5, w4.setCell ⟨sb, k, none⟩ (.int .i64 0) = w5 := ⟨_, rfl⟩
    rw [hw5] at H5 K5 ⊢
    clear hw5 x2 y3 z3
    go_wp2_with fail
    refine (TG.out w5 _ _ H5.out (by unfold upN; rw [if_pos rfl]; exact ML.out)).mono ?_
    rintro e w6 ⟨rfl, b6⟩
    have er : (L k).getD (upN sg k 0 k) 0 = (L k).getD ((y + 1) % m) 0 := by rw [MD.out, show upN sg k 0 k = 0 by unfold upN; rw [if_pos rfl]]
    obtain ⟨r, hr⟩ : ∃ r, (L k).getD (upN sg k 0 k) 0 = r := ⟨_, rfl⟩
    rw [hr] at er ⊢
    clear hr
    have X := hide' (OUT.out _ w6 (by rw [← er]) (by rw [MD.out]; exact H5.out.next b6) (K5.out.trans (KpB.of b6)))
    clear b6 er
    go_wp2
    go_ret
    exact X.out
  · have MD := hide' (show (y + 1) % m = y' by rw [hy']; exact Nat.mod_eq_of_lt (by omega))
    have e5 : ((y' : Int) == (m : Int)) = false := by simp; omega
    have ML := hide' (show y' < (L k).length by rw [HM.out]; omega)
    have H3' := hide' (show BdR w3 pb B P s wb sb sc tb v L (lsN P (upN sg k y')) (lsN P (upN wt k (t + 1))) by rw [← hy']; exact H3.out)
    clear d hy'
    go_quiet (fail)
    obtain ⟨w4, hw4⟩ : ∃ w4, w3.drewN nq = w4 := ⟨_, rfl⟩
    have B4 := hide' (show Below w3.heap.size w3 w4 by rw [← hw4]; exact ⟨rfl, rfl, rfl, Nat.le_refl _, fun _ _ => rfl⟩)
    rw [hw4]
    clear hw4 x1 x2 x4 y3 z3
    have J4 := hide' (H3'.out.next B4.out)
    go_wp2_with fail
    refine (TG.out w4 _ _ J4.out (by unfold upN; rw [if_pos rfl]; exact ML.out)).mono ?_
    rintro e w6 ⟨rfl, b6⟩
    have er : (L k).getD (upN sg k y' k) 0 = (L k).getD ((y + 1) % m) 0 := by rw [MD.out, show upN sg k y' k = y' by unfold upN; rw [if_pos rfl]]
    obtain ⟨r, hr⟩ : ∃ r, (L k).getD (upN sg k y' k) 0 = r := ⟨_, rfl⟩
    rw [hr] at er ⊢
    clear hr
    have X := hide' (OUT.out _ w6 (by rw [← er]) (by rw [MD.out]; exact J4.out.next b6) ((K3.out.trans (KpB.of B4.out)).trans (KpB.of b6)))
    clear b6 er
    go_wp2
    go_ret
    exact X.out
end Go.Proofs.YtpppmollmiomlaaDoor

