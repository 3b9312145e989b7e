/-
  What the last text of this claim leans on, part 14: Rw7, Sw4.
-/
import Derived.Test.YtpppmollmiomlaaDoorZu13
import Derived.Test.YtpppmollmiomlaaDoorZu3
import Derived.Deep.CutRange
namespace Go.Proofs.YtpppmollmiomlaaDoor
open Go.RowKit
set_option linter.unusedVariables false
set_option linter.unusedSimpArgs false
/-- The ways of a graph's places. -/
def wyF (xs : List EgT) (k i : Nat) : Nat := (wyL (xs.map edS) k).getD i 0
def dgF (xs : List EgT) (k : Nat) : Nat := (wyL (xs.map edS) k).length
theorem wyO_len (xs : List EgT) (k : Nat) : (wyO xs k).length = dgF xs k := by simp [wyO, dgF]
theorem wyO_at (xs : List EgT) (k i : Nat) : (wyO xs k).getD i 0 = (wyF xs k i : Int) := by
  unfold wyO wyF
  rcases Nat.lt_or_ge i (wyL (xs.map edS) k).length with h | h
  · simp [List.getD, h]
  · simp [List.getD, h]
/-- A bool, just where something holds. -/
def BoolIff (Q : Prop) (e : Ending) : Prop := ∃ z : Bool, e = .returned (.bool z) ∧ (z = true ↔ Q)
def mayB (s : Nat) (d : Nat) (k : Nat) (x : Int) : Prop := (k = s ∧ x = 0) ∨ (k ≠ s ∧ 0 ≤ x ∧ x < (d : Int))
set_option maxRecDepth 100000 in
set_option maxHeartbeats 3200000 in
theorem maySign_any (V : World) (pb B P s wb sb sc tb : Nat) (v : Nat → Value) (L : Nat → List Int) (sg wt : List Int) (h : BdR V pb B P s wb sb sc tb v L sg wt) (k : Nat) (hk : k < P) (x : Int) :
    Calls Tryd.prog 30 #[.pointer (some ⟨pb, 0, none⟩), .int .i64 (k : Int), .int .i64 x] V fun e w' => BoolIff (mayB s (L k).length k x) e ∧ w' = V := by
  have x0 := cell_of_row V pb 0 _ _ _ h.box
  have x1 := cell_of_row V pb 1 _ _ _ h.box
  simp at x0 x1
  have x3 := h.wy.cell hk
  obtain ⟨a, n, c, ev⟩ := ownsRow_slice (h.wy.own k hk)
  have hn : n = (L k).length := by
    have o := h.wy.own k hk
    rw [ev] at o
    rcases o.2 with ⟨e, q⟩ | ⟨_, _, _, e, _⟩
    · simp at e; omega
    · simp at e; omega
  rw [ev] at x3
  have l1 : (k : Int) < (P : Int) := by omega
  rw [← hn]
  clear h ev hn
  by_cases q : k = s
  · subst q
    have e1 : ((k : Int) == (k : Int)) = true := by simp
    go_enter Tryd.func30, Tryd.ntmps30
    by_cases r : x = 0
    · have e2 : (x == 0) = true := by simpa using r
      have RR := hide' r
      clear r
      go_wp2
      go_ret
      refine ⟨⟨true, rfl, fun _ => Or.inl ⟨rfl, RR.out⟩, fun _ => rfl⟩, rfl⟩
    · have e2 : (x == 0) = false := by simpa using r
      have RR := hide' r
      clear r
      go_wp2
      go_ret
      refine ⟨⟨false, rfl, fun h => (by cases h), fun h => ?_⟩, rfl⟩
      rcases h with h | h
      · exact absurd h.2 RR.out
      · exact absurd rfl h.1
  · have e1 : ((k : Int) == (s : Int)) = false := by simp; omega
    have QQ := hide' q
    clear q
    go_enter Tryd.func30, Tryd.ntmps30
    by_cases r1 : 0 ≤ x
    · by_cases r2 : x < (n : Int)
      · go_wp2
        go_ret
        exact ⟨⟨true, by simp [r2], fun _ => Or.inr ⟨QQ.out, r1, r2⟩, fun _ => rfl⟩, rfl⟩
      · go_wp2
        go_ret
        refine ⟨⟨false, by simp [r2], fun h => (by cases h), fun h => ?_⟩, rfl⟩
        rcases h with h | h
        · exact absurd h.1 QQ.out
        · omega
    · go_wp2
      go_ret
      refine ⟨⟨false, by simp [r1], fun h => (by cases h), fun h => ?_⟩, rfl⟩
      rcases h with h | h
      · exact absurd h.1 QQ.out
      · omega
/-- Signs that are right. -/
structure SgOk (P s : Nat) (xs : List EgT) (sg : Nat → Nat) : Prop where
  low : ∀ k, k < P → k ≠ s → sg k < dgF xs k
  inn : ∀ k i, k < P → i < dgF xs k → wyF xs k i < P
  sk : s < P
theorem SgOk.hop {P s : Nat} {xs : List EgT} {sg : Nat → Nat} (h : SgOk P s xs sg) {k : Nat} (hk : k < P) (ks : k ≠ s) : wyF xs k (sg k) < P := h.inn k _ hk (h.low k hk ks)
theorem SgOk.at {P s : Nat} {xs : List EgT} {sg : Nat → Nat} (h : SgOk P s xs sg) {k : Nat} (hk : k < P) : ∀ m, atR s (wyF xs) sg m k < P
  | 0 => hk
  | m + 1 => by
    unfold atR
    rw [it_succ]
    have ih := h.at hk m
    unfold atR at ih
    obtain ⟨y, hy⟩ : ∃ y, itF (hopR s (wyF xs) sg) m k = y := ⟨_, rfl⟩
    rw [hy] at ih ⊢
    unfold hopR
    split
    · exact h.sk
    · exact h.hop ih (by assumption)
theorem at_next {s : Nat} {wy : Nat → Nat → Nat} {sg : Nat → Nat} {m k : Nat} (h : atR s wy sg m k ≠ s) : atR s wy sg (m + 1) k = wy (atR s wy sg m k) (sg (atR s wy sg m k)) := by
  unfold atR at *
  rw [it_succ]
  unfold hopR at *
  rw [if_neg h]
def comesP (P s : Nat) (xs : List EgT) (sg : Nat → Nat) (k : Nat) : Prop := ∃ m, m < P ∧ atR s (wyF xs) sg m k = s
set_option maxRecDepth 100000 in
set_option maxHeartbeats 3200000 in
theorem leads_any (V : World) (pb B P s wb sb sc tb : Nat) (v : Nat → Value) (xs : List EgT) (sg : Nat → Nat) (wt : List Int) (h : BdR V pb B P s wb sb sc tb v (wyO xs) (lsN P sg) wt) (p2 : P ≤ 10) (ok : SgOk P s xs sg) (k : Nat) (hk : k < P) :
    Calls Tryd.prog 31 #[.pointer (some ⟨pb, 0, none⟩), .int .i64 (k : Int)] V fun e w' => BoolIff (comesP P s xs sg k) e ∧ Below V.heap.size V w' := by
  have H := hide' h
  have OK := hide' ok
  have x2 := cell_of_row V pb 2 _ _ _ h.box
  simp at x2
  have SH := hide' (fun (X : World) (hX : BdR X pb B P s wb sb sc tb v (wyO xs) (lsN P sg) wt) (j : Nat) (hj : j < P) (js : j ≠ s) => show Calls Tryd.prog 35 #[.pointer (some ⟨pb, 0, none⟩), .int .i64 (j : Int)] X fun e w' => e = .returned (.int .i64 ((wyF xs j (sg j) : Nat) : Int)) ∧ Below X.heap.size X w' by
    have := shown_any X pb B P s wb sb sc tb v (wyO xs) sg wt hX j hj (by rw [wyO_len]; exact ok.low j hj js)
    rw [wyO_at] at this
    exact this)
  have ATK := hide' (fun m => ok.at hk m)
  clear h ok
  go_enter Tryd.func31, Tryd.ntmps31
  go_wp2
  go_loopw [1, 10] (fun pv iv wr => ∃ m y : Nat, iv = .int .i64 (m : Int) ∧ pv = .int .i64 (y : Int) ∧ m ≤ P ∧ Hid (y = atR s (wyF xs) sg m k) ∧ Hid (∀ i, i < m → atR s (wyF xs) sg i k ≠ s) ∧ Hid (Below V.heap.size V wr)) (fun _ iv _ => P - (intOf iv).toNat)
  case atStart => exact ⟨0, k, rfl, rfl, by omega, hide' rfl, hide' fun i h => by omega, hide' (Below.refl _ _)⟩
  case round =>
    obtain ⟨m, y, rfl, rfl, hm, HY, HN, BW⟩ := hrel
    clear x2
    by_cases d : (m : Int) < (P : Int)
    · have HW := hide' (H.out.next BW.out)
      have x0 := cell_of_row wr pb 0 _ _ _ HW.out.box
      simp at x0
      by_cases q : y = s
      · have e1 : ((y : Int) == (s : Int)) = true := by rw [q]; simp
        have X := hide' (show comesP P s xs sg k from ⟨m, by omega, by rw [← HY.out]; exact q⟩)
        clear q
        go_wp2
        go_ret
        exact ⟨⟨true, rfl, fun _ => X.out, fun _ => rfl⟩, BW.out⟩
      · have e1 : ((y : Int) == (s : Int)) = false := by simp; omega
        have ly := hide' (show y < P by rw [HY.out]; exact ATK.out m)
        have SC := hide' (SH.out wr HW.out y ly.out q)
        have NX := hide' (show wyF xs y (sg y) = atR s (wyF xs) sg (m + 1) k by rw [at_next (by rw [← HY.out]; exact q), ← HY.out])
        have NN := hide' (show ∀ i, i < m + 1 → atR s (wyF xs) sg i k ≠ s from fun i hi => by
          rcases Nat.lt_or_ge i m with c | c
          · exact HN.out i c
          · obtain rfl : i = m := by omega
            rw [← HY.out]; exact q)
        clear q
        go_wp2_with fail
        refine SC.out.mono ?_
        rintro e w3 ⟨rfl, b3⟩
        have B3 := hide' (BW.out.trans (b3.mono BW.out.size))
        clear b3 x0
        go_wp2
        exact ⟨⟨m + 1, _, by go_num, rfl, by omega, NX, NN, B3⟩, by simp [intOf]; omega⟩
    · obtain rfl : m = P := by omega
      go_wp2
      go_ret
      refine ⟨⟨false, rfl, fun h => (by cases h), fun h => ?_⟩, BW.out⟩
      obtain ⟨i, hi, e⟩ := h
      exact absurd e (HN.out i hi)
set_option maxRecDepth 100000 in
set_option maxHeartbeats 3200000 in
theorem tree_any (V : World) (pb B P s wb sb sc tb : Nat) (v : Nat → Value) (xs : List EgT) (sg : Nat → Nat) (wt : List Int) (h : BdR V pb B P s wb sb sc tb v (wyO xs) (lsN P sg) wt) (p2 : P ≤ 10) (ok : SgOk P s xs sg) :
    Calls Tryd.prog 18 #[.pointer (some ⟨pb, 0, none⟩)] V fun e w' => BoolIff (∀ k, k < P → comesP P s xs sg k) e ∧ Below V.heap.size V w' := by
  have H := hide' h
  have x2 := cell_of_row V pb 2 _ _ _ h.box
  simp at x2
  have LE := hide' (fun (X : World) (hX : BdR X pb B P s wb sb sc tb v (wyO xs) (lsN P sg) wt) (j : Nat) (hj : j < P) => leads_any X pb B P s wb sb sc tb v xs sg wt hX p2 ok j hj)
  clear h ok
  go_enter Tryd.func18, Tryd.ntmps18
  go_wp2
  go_loopw [9] (fun iv wr => ∃ m : Nat, iv = .int .i64 (m : Int) ∧ m ≤ P ∧ Hid (∀ i, i < m → comesP P s xs sg i) ∧ Hid (Below V.heap.size V wr)) (fun iv _ => P - (intOf iv).toNat)
  case atStart => exact ⟨0, rfl, by omega, hide' fun i h => by omega, hide' (Below.refl _ _)⟩
  case round =>
    obtain ⟨m, rfl, hm, HN, BW⟩ := hrel
    clear x2
    by_cases d : (m : Int) < (P : Int)
    · have LC := hide' (LE.out wr (H.out.next BW.out) m (by omega))
      go_wp2_with fail
      refine LC.out.mono ?_
      rintro e w3 ⟨⟨z, rfl, hz⟩, b3⟩
      have B3 := hide' (BW.out.trans (b3.mono BW.out.size))
      clear b3
      cases z with
      | true =>
        have NX := hide' (show ∀ i, i < m + 1 → comesP P s xs sg i from fun i hi => by
          rcases Nat.lt_or_ge i m with c | c
          · exact HN.out i c
          · obtain rfl : i = m := by omega
            exact hz.1 rfl)
        clear hz
        go_wp2
        exact ⟨⟨m + 1, by go_num, by omega, NX, B3⟩, by simp [intOf]; omega⟩
      | false =>
        have X := hide' (show ¬ ∀ k, k < P → comesP P s xs sg k from fun h => by have := hz.2 (h m (by omega)); cases this)
        clear hz
        go_wp2
        go_ret
        exact ⟨⟨false, rfl, fun h => (by cases h), fun h => absurd h X.out⟩, B3.out⟩
    · obtain rfl : m = P := by omega
      go_wp2
      go_ret
      exact ⟨⟨true, rfl, fun _ => HN.out, fun _ => rfl⟩, BW.out⟩
theorem smS_const1 : ∀ n : Nat, smS n (fun _ => (1 : Int)) = (n : Int)
  | 0 => rfl
  | n + 1 => by rw [smS, smS_const1 n]; omega
/-- All come to the sink in time just where the signs are a tree. -/
theorem comes_tree {P s : Nat} {xs : List EgT} {sg : Nat → Nat} (ok : SgOk P s xs sg) : (∀ k, k < P → comesP P s xs sg k) ↔ treeR P s (wyF xs) sg := by
  have inn : ∀ k, k < P → k ≠ s → wyF xs k (sg k) < P := fun k hk ks => ok.hop hk ks
  constructor
  · intro h k hk
    obtain ⟨m, _, hm⟩ := h k hk
    exact LdR.of_at hm
  · intro h k hk
    have hp := ok.sk
    have a := (tree_iff inn ok.sk).1 h
    refine ⟨P - 1, by omega, ?_⟩
    rcases at_grow (n := P) (s := s) (wy := wyF xs) (sg := sg) ok.sk (P - 1) with ⟨m', hm', hs⟩ | hc
    · have := at_stop inn ok.sk hs (P - m') k hk (by rw [show m' + (P - m') = P by omega]; exact a k hk)
      have := at_more this (P - 1 - m')
      rw [show m' + (P - 1 - m') = P - 1 by omega] at this
      exact this
    · have le := cntT_le P s (wyF xs) sg (P - 1)
      have eq : cntT P s (wyF xs) sg (P - 1) = (P : Int) := by omega
      apply Classical.byContradiction
      intro q
      have o := smS_one (f := fun i => 1 - (if atR s (wyF xs) sg (P - 1) i = s then 1 else 0)) (n := P) (fun i _ => by split <;> omega) hk
      rw [if_neg q, smS_sub, smS_const1] at o
      unfold cntT at eq
      omega
end Go.Proofs.YtpppmollmiomlaaDoor

namespace Go.Proofs.YtpppmollmiomlaaDoor
open Go.RowKit
set_option linter.unusedVariables false
set_option linter.unusedSimpArgs false
def inB (P x : Int) : Bool := decide (0 ≤ x) && decide (x < P)
theorem inB_yes {P x : Int} (h : 0 ≤ x) (h2 : x < P) : inB P x = true := by unfold inB; simp [h, h2]
theorem inB_no {P x : Int} (h : ¬ (0 ≤ x ∧ x < P)) : inB P x = false := by unfold inB; simp; omega
set_option maxRecDepth 100000 in
theorem isPlaceS_any (P x : Int) (ea : Option Addr) (n c : Nat) (w : World) :
    Calls Tryd.prog 36 #[.agg #[.int .i64 P, .slice ea n c], .int .i64 x] w fun e w' => e = .returned (.bool (inB P x)) ∧ Below w.heap.size w w' := by
  obtain ⟨w1, hw1⟩ : ∃ w1, w.alloc (.cells #[.int .i64 P, .slice ea n c] 24) = w1 := ⟨_, rfl⟩
  have HW1 := hide' hw1
  have B1 := hide' (show Below w.heap.size w w1 by rw [← hw1]; exact (Below.refl _ _).alloc (Nat.le_refl _) _)
  have R1 : w1.heap[w.heap.size]? = some (.cells #[.int .i64 P, .slice ea n c] 24 (0, 0)) := by rw [← hw1]; exact heap_alloc_new _ _
  have y0 := cell_of_row w1 _ 0 _ _ _ R1
  simp at y0
  clear hw1 R1
  obtain ⟨z, hz⟩ : ∃ z, inB P x = z := ⟨_, rfl⟩
  have Y := hide' (fun (h : 0 ≤ x) (h2 : x < P) => show z = true by rw [← hz]; exact inB_yes h h2)
  have N := hide' (fun (h : ¬ (0 ≤ x ∧ x < P)) => show z = false by rw [← hz]; exact inB_no h)
  rw [hz]
  clear hz
  go_enter Tryd.func36, Tryd.ntmps36
  go_upto_region 1 with fail
  rw [HW1.out]
  by_cases q1 : 0 ≤ x
  · by_cases q2 : x < P
    · go_wp2
      go_ret
      rw [Y.out q1 q2]
      exact ⟨by simp [q1, q2], B1.out⟩
    · go_wp2
      go_ret
      rw [N.out (by omega)]
      exact ⟨by simp [q1, q2], B1.out⟩
  · go_wp2
    go_ret
    rw [N.out (by omega)]
    exact ⟨by simp [q1], B1.out⟩
set_option maxRecDepth 100000 in
set_option maxHeartbeats 3200000 in
theorem Index_bool (R : Nat → Bool) (mb P C : Nat) (w : World) (p2 : P ≤ 10) (hc : ∀ k, k < P → w.cell? ⟨mb, k, none⟩ = some (.bool (R k))) :
    Calls Tryd.prog 53 #[.slice (some ⟨mb, 0, none⟩) P C, .bool false] w fun e w' => (∃ i : Int, e = .returned (.int .i64 i) ∧ (i = -1 ∧ (∀ k, k < P → R k = true) ∨ 0 ≤ i ∧ ¬ ∀ k, k < P → R k = true)) ∧ w' = w := by
  have HC := hide' hc
  clear hc
  go_enter Tryd.func53, Tryd.ntmps53
  go_wp2
  go_loopw [8] (fun iv wr => ∃ i : Nat, iv = .int .i64 (i : Int) ∧ i ≤ P ∧ wr = w ∧ Hid (∀ k, k < i → R k = true)) (fun iv _ => P - (intOf iv).toNat)
  case atStart => exact ⟨0, rfl, by omega, rfl, hide' fun k h => by omega⟩
  case round =>
    obtain ⟨i, rfl, hi, rfl, HA⟩ := hrel
    by_cases d : (i : Int) < (P : Int)
    · have ck := HC.out i (by omega)
      cases hr : R i with
      | true =>
        have NX := hide' (show ∀ k, k < i + 1 → R k = true from fun k h => by
          by_cases q : k = i
          · rw [q]; exact hr
          · exact HA.out k (by omega))
        rw [hr] at ck
        clear hr
        go_wp2
        exact ⟨⟨i + 1, by go_num, by omega, by trivial, NX⟩, by simp [intOf]; omega⟩
      | false =>
        have X := hide' (show ¬ ∀ k, k < P → R k = true from fun h => by rw [h i (by omega)] at hr; cases hr)
        rw [hr] at ck
        clear hr
        go_wp2
        go_ret
        exact ⟨⟨_, rfl, Or.inr ⟨by omega, X.out⟩⟩, rfl⟩
    · obtain rfl : i = P := by omega
      go_wp2
      go_ret
      exact ⟨⟨_, rfl, Or.inl ⟨rfl, HA.out⟩⟩, rfl⟩
set_option maxRecDepth 100000 in
theorem Contains_bool (R : Nat → Bool) (mb P C : Nat) (w : World) (p2 : P ≤ 10) (hc : ∀ k, k < P → w.cell? ⟨mb, k, none⟩ = some (.bool (R k))) :
    Calls Tryd.prog 47 #[.slice (some ⟨mb, 0, none⟩) P C, .bool false] w fun e w' => (∃ z : Bool, e = .returned (.bool z) ∧ (z = false ∧ (∀ k, k < P → R k = true) ∨ z = true ∧ ¬ ∀ k, k < P → R k = true)) ∧ w' = w := by
  have IX := hide' (Index_bool R mb P C w p2 hc)
  clear hc
  go_enter Tryd.func47, Tryd.ntmps47
  go_wp2_with fail
  refine IX.out.mono ?_
  rintro e w2 ⟨⟨i, rfl, h⟩, rfl⟩
  have H := hide' h
  clear h
  by_cases q : 0 ≤ i
  · go_wp2
    go_ret
    refine ⟨⟨true, by simp [q], Or.inr ⟨rfl, ?_⟩⟩, rfl⟩
    rcases H.out with ⟨e, _⟩ | ⟨_, h⟩
    · omega
    · exact h
  · go_wp2
    go_ret
    refine ⟨⟨false, by simp [q], Or.inl ⟨rfl, ?_⟩⟩, rfl⟩
    rcases H.out with ⟨_, h⟩ | ⟨e, _⟩
    · exact h
    · omega
end Go.Proofs.YtpppmollmiomlaaDoor

