/-
  What the last text of this claim leans on, part 8: Rt7.
-/
import Derived.Test.YtpppmollmiomlaaDoorZu7
namespace Go.Proofs.YtpppmollmiomlaaDoor
set_option linter.unusedVariables false
/-- The ways of a place: over each edge of its, as often as it has it. -/
def wyE (e : EdS) (k : Nat) : List Nat := if e.a = k then List.replicate e.t.toNat e.b else if e.b = k then List.replicate e.t.toNat e.a else []
def wyL (es : List EdS) (k : Nat) : List Nat := es.flatMap fun e => wyE e k
/-- How often a number stands in a list. -/
def cnL (l : List Nat) (j : Nat) : Int := smS l.length fun i => if l.getD i 0 = j then 1 else 0
theorem cn_nil (j : Nat) : cnL [] j = 0 := rfl
theorem cn_cons (x : Nat) (l : List Nat) (j : Nat) : cnL (x :: l) j = (if x = j then 1 else 0) + cnL l j := by
  unfold cnL
  rw [List.length_cons, smS_succ]
  rfl
theorem cn_append : ∀ (l m : List Nat) (j : Nat), cnL (l ++ m) j = cnL l j + cnL m j
  | [], m, j => by rw [List.nil_append, cn_nil]; omega
  | x :: l, m, j => by rw [List.cons_append, cn_cons, cn_cons, cn_append l m j]; omega
theorem cn_rep (x j : Nat) : ∀ t : Nat, cnL (List.replicate t x) j = if x = j then (t : Int) else 0
  | 0 => by simp [cnL, smS]
  | t + 1 => by rw [List.replicate_succ, cn_cons, cn_rep x j t]; split <;> omega
theorem wy_cnt {n : Nat} : ∀ {es : List EdS}, (∀ e ∈ es, okE n e) → ∀ k j : Nat, cnL (wyL es k) j = btL es k j
  | [], _, k, j => rfl
  | e :: es, h, k, j => by
    have ih := wy_cnt (n := n) (es := es) (fun x hx => h x (List.mem_cons_of_mem _ hx)) k j
    have b := h e (List.mem_cons_self ..)
    unfold okE at b
    rw [bt_cons, ← ih, show wyL (e :: es) k = wyE e k ++ wyL es k from rfl, cn_append]
    congr 1
    unfold wyE btE
    by_cases h1 : e.a = k
    · rw [if_pos h1, cn_rep]
      by_cases q : e.b = j
      · rw [if_pos q, if_pos (Or.inl ⟨h1, q⟩)]; omega
      · rw [if_neg q, if_neg (by omega)]
    · rw [if_neg h1]
      by_cases h2 : e.b = k
      · rw [if_pos h2, cn_rep]
        by_cases q : e.a = j
        · rw [if_pos q, if_pos (Or.inr ⟨q, h2⟩)]; omega
        · rw [if_neg q, if_neg (by omega)]
      · rw [if_neg h2, if_neg (by omega)]; rfl
theorem wy_len {n : Nat} : ∀ {es : List EdS}, (∀ e ∈ es, okE n e) → ∀ k : Nat, ((wyL es k).length : Int) = dgL es k
  | [], _, k => rfl
  | e :: es, h, k => by
    have ih := wy_len (n := n) (es := es) (fun x hx => h x (List.mem_cons_of_mem _ hx)) k
    have b := h e (List.mem_cons_self ..)
    unfold okE at b
    rw [dg_cons, ← ih, show wyL (e :: es) k = wyE e k ++ wyL es k from rfl, List.length_append, Int.natCast_add]
    congr 1
    unfold wyE dgE
    by_cases h1 : e.a = k
    · rw [if_pos h1, if_pos (Or.inl h1), List.length_replicate]; omega
    · rw [if_neg h1]
      by_cases h2 : e.b = k
      · rw [if_pos h2, if_pos (Or.inr h2), List.length_replicate]; omega
      · rw [if_neg h2, if_neg (by omega)]; rfl
theorem wy_in {n : Nat} {es : List EdS} (h : ∀ e ∈ es, okE n e) (k : Nat) : ∀ x ∈ wyL es k, x < n := fun x hx => by
  obtain ⟨e, he, hx⟩ := List.mem_flatMap.1 hx
  have b := h e he
  unfold okE at b
  unfold wyE at hx
  split at hx
  · rw [(List.mem_replicate.1 hx).2]; exact b.2.1
  · split at hx
    · rw [(List.mem_replicate.1 hx).2]; exact b.1
    · simp at hx
/-- That is a graph's ways. -/
theorem ways_of {n : Nat} {es : List EdS} (ok : ∀ e ∈ es, okE n e) : WyG n (btL es) (fun k i => (wyL es k).getD i 0) (fun k => (wyL es k).length) := by
  refine ⟨fun k _ => ?_, fun k j _ _ => wy_cnt ok k j, fun k i _ hi => ?_⟩
  · rw [dg_sum ok]; exact wy_len ok k
  · have e : (wyL es k).getD i 0 = (wyL es k)[i]'hi := by simp [List.getD, hi]
    show (wyL es k).getD i 0 < n
    rw [e]
    exact wy_in ok k _ (List.getElem_mem hi)
end Go.Proofs.YtpppmollmiomlaaDoor

