/-
  What the last text of this claim leans on, part 22: Hd4.
-/
import Derived.Test.YtelocgefaommmaaDoorZh20
import Derived.Test.YtelocgefaommmaaDoorZh21
namespace Go.Proofs.YtelocgefaommmaaDoor
open Go.RowKit
set_option linter.unusedVariables false
def cidx (i : Nat) : Nat := if i = 0 then 5 else if i = 1 then 10 else if i = 2 then 15 else if i = 3 then 20 else 22
def bidx (i : Nat) : Nat := if i = 0 then 4 else if i = 1 then 9 else if i = 2 then 14 else if i = 3 then 19 else 21
/-- The parts of the joins. -/
def AAp (p0 p1 p2 p3 : Nat) (ts : Nat → Nat) (i j : Nat) : Nat := if i = 0 then (if j = 3 then p0 else 0) else if i = 1 then (if j = 2 then p1 else 0) else if i = 2 then (if j = 1 then p2 else 0) else if i = 3 then (if j = 0 then p3 else 0) else ts j
/-- So many joins, one behind another. -/
def ChnQ (p0 p1 p2 p3 : Nat) (qs0 : List Sq) (ts : Nat → Nat) : Nat → List Sq → Prop
  | 0, qs => qs = qs0
  | k + 1, qs => ∃ qs', ChnQ p0 p1 p2 p3 qs0 ts k qs' ∧ JoinQ qs' (AAp p0 p1 p2 p3 ts k 0) (AAp p0 p1 p2 p3 ts k 1) (AAp p0 p1 p2 p3 ts k 2) (AAp p0 p1 p2 p3 ts k 3) qs (ts k)
theorem AAp_ext {p0 p1 p2 p3 : Nat} {ts ts' : Nat → Nat} {i : Nat} (h : i < 4 ∨ ∀ j, j < 4 → ts j = ts' j) (j : Nat) (hj : j < 4) : AAp p0 p1 p2 p3 ts i j = AAp p0 p1 p2 p3 ts' i j := by
  unfold AAp
  rcases h with h | h
  · have : i = 0 ∨ i = 1 ∨ i = 2 ∨ i = 3 := by omega
    rcases this with rfl | rfl | rfl | rfl <;> simp
  · rw [h j hj]
theorem ChnQ.ext {p0 p1 p2 p3 : Nat} {qs0 : List Sq} {ts ts' : Nat → Nat} : ∀ {k : Nat} {qs : List Sq}, k ≤ 5 → (∀ j, j < k → ts j = ts' j) → ChnQ p0 p1 p2 p3 qs0 ts k qs → ChnQ p0 p1 p2 p3 qs0 ts' k qs
  | 0, _, _, _, h => h
  | k + 1, qs, hk, he, ⟨qs', h1, h2⟩ => by
    have e := fun j hj => AAp_ext (p0 := p0) (p1 := p1) (p2 := p2) (p3 := p3) (ts := ts) (ts' := ts') (i := k) (by
      by_cases c : k < 4
      · exact Or.inl c
      · exact Or.inr fun j hj => he j (by omega)) j hj
    refine ⟨qs', ChnQ.ext (by omega) (fun j hj => he j (by omega)) h1, ?_⟩
    rw [← e 0 (by omega), ← e 1 (by omega), ← e 2 (by omega), ← e 3 (by omega), ← he k (by omega)]
    exact h2
theorem ChnQ.len {p0 p1 p2 p3 : Nat} {qs0 : List Sq} {ts : Nat → Nat} : ∀ {k : Nat} {qs : List Sq}, ChnQ p0 p1 p2 p3 qs0 ts k qs → ∃ ms, qs = qs0 ++ ms ∧ ms.length ≤ k
  | 0, _, h => ⟨[], by rw [show _ = qs0 from h]; simp, by simp⟩
  | k + 1, qs, ⟨qs', h1, h2⟩ => by
    obtain ⟨ms, e1, l1⟩ := h1.len
    obtain ⟨m2, e2, l2⟩ := h2.app
    exact ⟨ms ++ m2, by rw [e2, e1, List.append_assoc], by rw [List.length_append]; omega⟩
theorem JoinQ.lt {qs qs' : List Sq} {a b c d t : Nat} (hS : StQ qs) (h : JoinQ qs a b c d qs' t) : t < qs'.length := by
  rcases h with ⟨_, _, _, _, rfl, rfl⟩ | ⟨_, rfl, l, rfl⟩
  · exact hS.1
  · simp
theorem ChnQ.lts {p0 p1 p2 p3 : Nat} {qs0 : List Sq} {ts : Nat → Nat} (hS : StQ qs0) : ∀ {k : Nat} {qs : List Sq}, ChnQ p0 p1 p2 p3 qs0 ts k qs → ∀ j, j < k → ts j < qs.length
  | 0, _, _, j, hj => absurd hj (by omega)
  | k + 1, qs, ⟨qs', h1, h2⟩, j, hj => by
    have s' : StQ qs' := by obtain ⟨ms, e, _⟩ := h1.len; rw [e]; exact hS.app ms
    by_cases e : j = k
    · subst e; exact h2.lt s'
    · have := ChnQ.lts hS h1 j (by omega)
      obtain ⟨m2, e2, _⟩ := h2.app
      rw [e2, List.length_append]; omega
/-- What stands. -/
def PdR (pvl : List (Option Value)) (p0 p1 p2 p3 : Nat) (qs0 : List Sq) (sb B g : Nat) (w3 : World) (L : Nat → Bool) (vals : Nat → Value) (w : World) : Prop :=
  (∀ i v, pvl[i]? = some (some v) → L i = true → vals i = v) ∧ ∃ (k : Nat) (ts : Nat → Nat) (qs' : List Sq) (g' cap' : Nat), k ≤ 5 ∧ (∀ i, i < 5 → (L (cidx i) = true ↔ i < k)) ∧ (∀ i, i < k → vals (cidx i) = .int .i32 (ts i : Int)) ∧ ChnQ p0 p1 p2 p3 qs0 ts k qs' ∧ StkA w sb B g' cap' qs' ∧ KpS sb g g' w3 w ∧ (L 21 = true → 4 ≤ k) ∧
    ∀ i, i < 5 → L (bidx i) = true → ∃ x, vals (bidx i) = .slice (some ⟨x, 0, none⟩) 4 4 ∧ (k ≤ i → w.heap[x]? = some (.cells #[.int .i32 (AAp p0 p1 p2 p3 ts i 0 : Int), .int .i32 (AAp p0 p1 p2 p3 ts i 1 : Int), .int .i32 (AAp p0 p1 p2 p3 ts i 2 : Int), .int .i32 (AAp p0 p1 p2 p3 ts i 3 : Int)] 21 (0, 0)))
theorem cb_ne {i j : Nat} (hi : i < 5) (hj : j < 5) : cidx i ≠ bidx j := by
  have a : i = 0 ∨ i = 1 ∨ i = 2 ∨ i = 3 ∨ i = 4 := by omega
  have b : j = 0 ∨ j = 1 ∨ j = 2 ∨ j = 3 ∨ j = 4 := by omega
  rcases a with rfl | rfl | rfl | rfl | rfl <;> rcases b with rfl | rfl | rfl | rfl | rfl <;> decide
theorem cidx_inj {i j : Nat} (hi : i < 5) (hj : j < 5) (h : cidx i = cidx j) : i = j := by
  have a : i = 0 ∨ i = 1 ∨ i = 2 ∨ i = 3 ∨ i = 4 := by omega
  have b : j = 0 ∨ j = 1 ∨ j = 2 ∨ j = 3 ∨ j = 4 := by omega
  rcases a with rfl | rfl | rfl | rfl | rfl <;> rcases b with rfl | rfl | rfl | rfl | rfl <;> first | rfl | (revert h; decide)
theorem bidx_inj {i j : Nat} (hi : i < 5) (hj : j < 5) (h : bidx i = bidx j) : i = j := by
  have a : i = 0 ∨ i = 1 ∨ i = 2 ∨ i = 3 ∨ i = 4 := by omega
  have b : j = 0 ∨ j = 1 ∨ j = 2 ∨ j = 3 ∨ j = 4 := by omega
  rcases a with rfl | rfl | rfl | rfl | rfl <;> rcases b with rfl | rfl | rfl | rfl | rfl <;> first | rfl | (revert h; decide)
theorem PdR.cong {pvl : List (Option Value)} {p0 p1 p2 p3 : Nat} {qs0 : List Sq} {sb B g : Nat} {w3 : World} {L : Nat → Bool} {vals : Nat → Value} {w : World} {L' : Nat → Bool} (h : PdR pvl p0 p1 p2 p3 qs0 sb B g w3 L vals w) (hl : pvl.length = 24) (e : ∀ i, i < 24 → L i = L' i) : PdR pvl p0 p1 p2 p3 qs0 sb B g w3 L' vals w := by
  have ec : ∀ i, i < 5 → cidx i < 24 := fun i hi => by
    have a : i = 0 ∨ i = 1 ∨ i = 2 ∨ i = 3 ∨ i = 4 := by omega
    rcases a with rfl | rfl | rfl | rfl | rfl <;> decide
  have eb : ∀ i, i < 5 → bidx i < 24 := fun i hi => by
    have a : i = 0 ∨ i = 1 ∨ i = 2 ∨ i = 3 ∨ i = 4 := by omega
    rcases a with rfl | rfl | rfl | rfl | rfl <;> decide
  obtain ⟨h1, k, ts, qs', g', cap', h2, h3, h4, h5, h6, h7, h8, h9⟩ := h
  refine ⟨fun i v hv hL => h1 i v hv (by rw [e i (by have := (List.getElem?_eq_some_iff.1 hv).1; omega)]; exact hL), k, ts, qs', g', cap', h2, fun i hi => by rw [← e _ (ec i hi)]; exact h3 i hi, h4, h5, h6, h7, fun q => h8 (by rw [e 21 (by omega)]; exact q), fun i hi q => h9 i hi (by rw [e _ (eb i hi)]; exact q)⟩
theorem PdR.pure {pvl : List (Option Value)} {p0 p1 p2 p3 : Nat} {qs0 : List Sq} {sb B g : Nat} {w3 : World} {L : Nat → Bool} {vals : Nat → Value} {w : World} {i : Nat} {v : Value} (h : PdR pvl p0 p1 p2 p3 qs0 sb B g w3 L vals w) (hv : pvl[i]? = some (some v)) (hc : ∀ j, j < 5 → i ≠ cidx j) (hb : ∀ j, j < 5 → i ≠ bidx j) : PdR pvl p0 p1 p2 p3 qs0 sb B g w3 (fun j => if j = i then true else L j) (fun j => if j = i then v else vals j) w := by
  obtain ⟨h1, k, ts, qs', g', cap', h2, h3, h4, h5, h6, h7, h8, h9⟩ := h
  refine ⟨fun j u hu hL => ?_, k, ts, qs', g', cap', h2, fun j hj => ?_, fun j hj => ?_, h5, h6, h7, fun q => ?_, fun j hj q => ?_⟩
  · by_cases e : j = i
    · subst e; rw [hv] at hu; injection hu with hu; injection hu with hu; simp [hu]
    · simp only [if_neg e] at hL ⊢; exact h1 j u hu hL
  · simp only [if_neg (Ne.symm (hc j hj))]; exact h3 j hj
  · simp only [if_neg (Ne.symm (hc j (by omega)))]; exact h4 j hj
  · have : (21 : Nat) ≠ i := fun e => hb 4 (by omega) (by rw [← e]; rfl)
    simp only [if_neg this] at q; exact h8 q
  · simp only [if_neg (Ne.symm (hb j hj))] at q ⊢; exact h9 j hj q
theorem PdR.build {pvl : List (Option Value)} {p0 p1 p2 p3 : Nat} {qs0 : List Sq} {sb B g : Nat} {w3 : World} {L : Nat → Bool} {vals : Nat → Value} {w : World} {i : Nat} (h : PdR pvl p0 p1 p2 p3 qs0 sb B g w3 L vals w) (hi : i < 5) (hp : pvl[bidx i]? = some none) (ts' : Nat → Nat) (hts : i = 4 → (∀ j, j < 4 → L (cidx j) = true ∧ vals (cidx j) = .int .i32 (ts' j : Int))) : PdR pvl p0 p1 p2 p3 qs0 sb B g w3 (fun j => if j = bidx i then true else L j) (fun j => if j = bidx i then .slice (some ⟨w.heap.size, 0, none⟩) 4 4 else vals j) (w.alloc (.cells #[.int .i32 (AAp p0 p1 p2 p3 ts' i 0 : Int), .int .i32 (AAp p0 p1 p2 p3 ts' i 1 : Int), .int .i32 (AAp p0 p1 p2 p3 ts' i 2 : Int), .int .i32 (AAp p0 p1 p2 p3 ts' i 3 : Int)] 21)) := by
  obtain ⟨h1, k, ts, qs', g', cap', h2, h3, h4, h5, h6, h7, h8, h9⟩ := h
  have ea : ∀ j, j < 4 → AAp p0 p1 p2 p3 ts' i j = AAp p0 p1 p2 p3 ts i j := AAp_ext (by
    by_cases c : i = 4
    · refine Or.inr fun j hj => ?_
      have a := (hts c j hj)
      have b := h4 j ((h3 j (by omega)).1 a.1)
      rw [b] at a
      have := a.2
      injection this with _ this
      omega
    · exact Or.inl (by omega))
  refine ⟨fun j u hu hL => ?_, k, ts, qs', g', cap', h2, fun j hj => ?_, fun j hj => ?_, h5, h6.alloc _, h7.trans (KpS.of_below ((Below.refl _ _).alloc (Nat.le_refl _) _)), fun q => ?_, fun j hj q => ?_⟩
  · by_cases e : j = bidx i
    · subst e; rw [hp] at hu; cases hu
    · simp only [if_neg e] at hL ⊢; exact h1 j u hu hL
  · simp only [if_neg (cb_ne hj hi)]; exact h3 j hj
  · simp only [if_neg (cb_ne (show j < 5 by omega) hi)]; exact h4 j hj
  · by_cases c : i = 4
    · have := (h3 3 (by omega)).1 (hts c 3 (by omega)).1
      omega
    · have : (21 : Nat) ≠ bidx i := fun e => c (bidx_inj hi (show 4 < 5 by omega) (by rw [← e]; rfl))
      simp only [if_neg this] at q; exact h8 q
  · by_cases e : j = i
    · subst e
      refine ⟨w.heap.size, by simp, fun _ => ?_⟩
      rw [heap_alloc_new, ea 0 (by omega), ea 1 (by omega), ea 2 (by omega), ea 3 (by omega)]
    · have ne : bidx j ≠ bidx i := fun c => e (bidx_inj hj hi c)
      simp only [if_neg ne] at q ⊢
      obtain ⟨x, a, b⟩ := h9 j hj q
      exact ⟨x, a, fun c => (heap_alloc_old _ _ (lt_of_block (b c))).trans (b c)⟩
theorem PdR.call {pvl : List (Option Value)} {p0 p1 p2 p3 : Nat} {qs0 : List Sq} {sb B g : Nat} {w3 : World} {L : Nat → Bool} {vals : Nat → Value} {w : World} {i : Nat} {v4 : Value} {t' : Nat} {W : World} {g2 cap2 : Nat} {qs2 : List Sq} {k : Nat} {ts : Nat → Nat} {qs' : List Sq} {g' cap' : Nat} (hi : i < 5) (hp : pvl[cidx i]? = some none)
    (h1 : ∀ i v, pvl[i]? = some (some v) → L i = true → vals i = v) (h3 : ∀ i, i < 5 → (L (cidx i) = true ↔ i < k)) (h4 : ∀ i, i < k → vals (cidx i) = .int .i32 (ts i : Int)) (h5 : ChnQ p0 p1 p2 p3 qs0 ts k qs') (h6 : StkA w sb B g' cap' qs') (h7 : KpS sb g g' w3 w) (h8 : L 21 = true → 4 ≤ k)
    (h9 : ∀ i, i < 5 → L (bidx i) = true → ∃ x, vals (bidx i) = .slice (some ⟨x, 0, none⟩) 4 4 ∧ (k ≤ i → w.heap[x]? = some (.cells #[.int .i32 (AAp p0 p1 p2 p3 ts i 0 : Int), .int .i32 (AAp p0 p1 p2 p3 ts i 1 : Int), .int .i32 (AAp p0 p1 p2 p3 ts i 2 : Int), .int .i32 (AAp p0 p1 p2 p3 ts i 3 : Int)] 21 (0, 0))))
    (hk : k = i) (hs : StkA W sb B g2 cap2 qs2) (hj : JoinQ qs' (AAp p0 p1 p2 p3 ts i 0) (AAp p0 p1 p2 p3 ts i 1) (AAp p0 p1 p2 p3 ts i 2) (AAp p0 p1 p2 p3 ts i 3) qs2 t') (hkp : KpS sb g' g2 w W) (hb4 : ∀ j, j < 5 → i < j → L (bidx j) = true → j < 4) :
    PdR pvl p0 p1 p2 p3 qs0 sb B g w3 (fun j => if j = cidx i then true else L j) (fun j => if j = cidx i then .int .i32 (t' : Int) else vals j) W := by
  subst hk
  obtain ⟨ts2, hts2⟩ : ∃ f : Nat → Nat, f = fun j => if j = k then t' else ts j := ⟨_, rfl⟩
  have e1 : ∀ j, j < k → ts j = ts2 j := fun j hj => by rw [hts2]; simp only [if_neg (show j ≠ k by omega)]
  have e2 : ts2 k = t' := by rw [hts2]; simp
  have ea : ∀ j, j < 4 → AAp p0 p1 p2 p3 ts k j = AAp p0 p1 p2 p3 ts2 k j := AAp_ext (by
    by_cases c : k < 4
    · exact Or.inl c
    · exact Or.inr fun j hj => e1 j (by omega))
  refine ⟨fun j u hu hL => ?_, k + 1, ts2, qs2, g2, cap2, by omega, fun j hj => ?_, fun j hj => ?_, ⟨qs', h5.ext (by omega) e1, ?_⟩, hs, h7.trans hkp, fun q => ?_, fun j hj q => ?_⟩
  · by_cases e : j = cidx k
    · subst e; rw [hp] at hu; cases hu
    · simp only [if_neg e] at hL ⊢; exact h1 j u hu hL
  · by_cases e : j = k
    · subst e; simp
    · have ne : cidx j ≠ cidx k := fun c => e (cidx_inj hj hi c)
      simp only [if_neg ne]
      rw [h3 j hj]; omega
  · by_cases e : j = k
    · subst e; simp [e2]
    · have ne : cidx j ≠ cidx k := fun c => e (cidx_inj (by omega) hi c)
      simp only [if_neg ne]
      rw [h4 j (by omega), e1 j (by omega)]
  · rw [← ea 0 (by omega), ← ea 1 (by omega), ← ea 2 (by omega), ← ea 3 (by omega), e2]; exact hj
  · have : (21 : Nat) ≠ cidx k := fun e => cb_ne hi (show 4 < 5 by omega) (by rw [← e]; rfl)
    simp only [if_neg this] at q
    have := h8 q
    omega
  · simp only [if_neg (Ne.symm (cb_ne hi hj))] at q ⊢
    obtain ⟨x, a, b⟩ := h9 j hj q
    refine ⟨x, a, fun c => ?_⟩
    have bx := b (by omega)
    have ne := h6.ne_four bx (by decide) (by decide)
    have j4 : j < 4 := hb4 j hj (by omega) q
    have eb := fun i hi => AAp_ext (p0 := p0) (p1 := p1) (p2 := p2) (p3 := p3) (ts := ts) (ts' := ts2) (i := j) (Or.inl j4) i hi
    rw [hkp.keep x (lt_of_block bx) ne.1 ne.2, bx, eb 0 (by omega), eb 1 (by omega), eb 2 (by omega), eb 3 (by omega)]
end Go.Proofs.YtelocgefaommmaaDoor

