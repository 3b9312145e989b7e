/-
  What the last text of this claim leans on, part 8: Cl1.
-/
import Derived.Test.YtncinpkbiphpoaaDoorZr7
import Derived.Test.YtncinpkbiphpoaaDoorZr1
namespace Go.Proofs.YtncinpkbiphpoaaDoor
open Go.RowKit
set_option linter.unusedVariables false
def numDec (l : List UInt8) : Decidable (numC l) := by unfold numC digB; infer_instance
def numB (l : List UInt8) : Bool := @decide (numC l) (numDec l)
theorem numB_iff {l : List UInt8} : numB l = true ↔ numC l := @decide_eq_true_iff (numC l) (numDec l)
/-- A piece's number. -/
def vlC (p : List UInt8) : Int := (dvl p p.length : Int)
def allN (ps : List (List UInt8)) : Bool := ps.all numB
/-- What a line says. -/
def lineC (l : List UInt8) : Option InsT :=
  if opW ((spN 4 l).getD 0 []) = 0 ∨ ((spN 4 l).length : Int) ≠ 1 + usN (opW ((spN 4 l).getD 0 [])) then none
  else if allN ((spN 4 l).drop 1) then some ((opW ((spN 4 l).getD 0 []) : Int), (((spN 4 l).drop 1).map vlC).getD 0 0, (((spN 4 l).drop 1).map vlC).getD 1 0, (((spN 4 l).drop 1).map vlC).getD 2 0) else none
def digU (c : UInt8) : Bool := decide (48 ≤ c.toNat) && decide (c.toNat ≤ 57)
/-- The numbers behind a line's word. -/
def numsR : Nat → List UInt8 → Option (List Int)
  | 0, _ => some []
  | _ + 1, [] => some []
  | f + 1, c :: r => if c = 32 ∧ numB (r.takeWhile digU) = true then (numsR f (r.drop (r.takeWhile digU).length)).map (vlC (r.takeWhile digU) :: ·) else none
def lineR (l : List UInt8) : Option InsT :=
  if [104, 97, 108, 116] == l then some (3, 0, 0, 0)
  else if l.length < 3 then none
  else match numsR l.length (l.drop 3) with
    | none => none
    | some vs => if ([105, 110, 99] == l.take 3) && decide (vs.length = 2) then some (1, vs.getD 0 0, vs.getD 1 0, 0) else if ([100, 101, 99] == l.take 3) && decide (vs.length = 3) then some (2, vs.getD 0 0, vs.getD 1 0, vs.getD 2 0) else none
theorem dig_all {p : List UInt8} (h : digB p p.length) : ∀ x ∈ p, digU x = true := fun x hx => by
  obtain ⟨k, hk, rfl⟩ := List.getElem_of_mem hx
  have := h k hk
  rw [show p.getD k 0 = p[k] by simp [List.getD, hk]] at this
  simp [digU]; exact this
theorem take_dig {p r : List UInt8} (h : ∀ x ∈ p, digU x = true) : (p ++ 32 :: r).takeWhile digU = p := by
  rw [List.takeWhile_append_of_pos h]
  rw [List.takeWhile_cons_of_neg (by decide), List.append_nil]
theorem take_dig' {p : List UInt8} (h : ∀ x ∈ p, digU x = true) : p.takeWhile digU = p := by
  have := List.takeWhile_append_of_pos (l₂ := []) h
  simpa using this
theorem no_sp {p : List UInt8} (h : ∀ x ∈ p, digU x = true) : Lib.indexByte p 32 = -1 := by
  by_cases q : Lib.indexByte p 32 = -1
  · exact q
  · obtain ⟨i, hi, il, e⟩ := byte_split q
    have := h 32 (by rw [e]; simp)
    exact absurd this (by decide)
theorem index_app {p r : List UInt8} (h : ∀ x ∈ p, x ≠ 32) : Lib.indexByte (p ++ 32 :: r) 32 = (p.length : Int) := by
  induction p with
  | nil => rfl
  | cons x p ih =>
    have := ih (fun y hy => h y (by simp [hy]))
    have hx := h x (by simp)
    simp only [List.cons_append, Lib.indexByte, this]
    rw [if_neg (by simpa using hx), if_neg (by simp <;> omega)]
    simp
theorem dig_ne {p : List UInt8} (h : ∀ x ∈ p, digU x = true) : ∀ x ∈ p, x ≠ 32 := fun x hx e => by
  have := h x hx; rw [e] at this; exact absurd this (by decide)
theorem nums_to : ∀ (k f : Nat) (r : List UInt8), r.length < f → (spN k r).length ≤ k → allN (spN k r) = true → numsR f (32 :: r) = some ((spN k r).map vlC)
  | 0, f, r, _, h, _ => by simp [spN] at h
  | k + 1, 0, r, hf, h, ha => by omega
  | k + 1, f + 1, r, hf, h, ha => by
    by_cases q : Lib.indexByte r 32 = -1
    · rw [spN_none q] at h ha ⊢
      have hn : numC r := numB_iff.1 (by simpa [allN] using ha)
      have ht := take_dig' (dig_all hn.2.2.2)
      rw [numsR, ht, if_pos ⟨rfl, numB_iff.2 hn⟩]
      rw [List.drop_length]
      cases f <;> rfl
    · obtain ⟨i, hi, il, e⟩ := byte_split q
      rw [spN_some hi] at h ha ⊢
      simp only [allN, List.all_cons, Bool.and_eq_true] at ha
      have hn : numC (r.take i) := numB_iff.1 ha.1
      have ht := take_dig (r := r.drop (i + 1)) (dig_all hn.2.2.2)
      rw [← e] at ht
      have hd : r.drop (r.take i).length = 32 :: r.drop (i + 1) := by
        rw [List.length_take, Nat.min_eq_left (by omega)]
        have h2 := (List.getElem?_eq_some_iff.1 (Lib.indexByte_some hi).1)
        obtain ⟨h3, h4⟩ := h2
        rw [List.drop_eq_getElem_cons h3, h4]
      rw [numsR, ht, if_pos ⟨rfl, numB_iff.2 hn⟩, hd, nums_to k f (r.drop (i + 1)) (by simp; omega) (by simp at h; omega) ha.2]
      rfl
theorem nums_of : ∀ (k f : Nat) (r : List UInt8) (vs : List Int), r.length < f → numsR f (32 :: r) = some vs → vs.length ≤ k → allN (spN k r) = true ∧ (spN k r).map vlC = vs
  | k, 0, r, vs, hf, _, _ => by omega
  | k, f + 1, r, vs, hf, h, hk => by
    rw [numsR] at h
    split at h
    · rename_i q
      obtain ⟨-, hn'⟩ := q
      have hn := numB_iff.1 hn'
      clear hn'
      obtain ⟨vs', h1, rfl⟩ := Option.map_eq_some_iff.1 h
      have hda := dig_all hn.2.2.2
      cases hr : r.drop (r.takeWhile digU).length with
      | nil =>
        rw [hr] at h1
        have hl : r.length ≤ (r.takeWhile digU).length := by simpa using hr
        have hp : r.takeWhile digU = r := (List.takeWhile_prefix digU).eq_of_length_le hl
        rw [hp] at hn hda ⊢
        have hv : vs' = [] := by
          cases f with
          | zero => simpa [numsR] using h1.symm
          | succ f => simpa [numsR] using h1.symm
        subst hv
        rw [spN_none (no_sp hda)]
        exact ⟨by simpa [allN] using numB_iff.2 hn, rfl⟩
      | cons c r' =>
        rw [hr] at h1
        have e : r = r.takeWhile digU ++ c :: r' := by
          rw [← hr]
          have := List.prefix_iff_eq_append.1 (List.takeWhile_prefix (p := digU) (l := r))
          exact this.symm
        cases f with
        | zero => 
          have : r.length = 0 := by omega
          rw [e] at this; simp at this
        | succ f =>
          have hc : c = 32 := by
            rw [numsR] at h1
            split at h1
            · rename_i q; exact q.1
            · cases h1
          subst hc
          have hlen : r.length = (r.takeWhile digU).length + 1 + r'.length := by
            have := congrArg List.length e
            simp at this; omega
          obtain ⟨p, hp⟩ : ∃ p, r.takeWhile digU = p := ⟨_, rfl⟩
          rw [hp] at e hn hda hlen hk ⊢
          cases k with
          | zero => simp at hk
          | succ k =>
            have ih := nums_of k (f + 1) r' vs' (by omega) h1 (by simpa using hk)
            have hi := index_app (r := r') (dig_ne hda)
            rw [← e] at hi
            have e1 : r.take p.length = p := by rw [e]; simp
            have e2 : r.drop (p.length + 1) = r' := by rw [e]; simp
            rw [spN_some hi, e1, e2]
            refine ⟨?_, by rw [List.map_cons, ih.2]⟩
            simp only [allN, List.all_cons, Bool.and_eq_true]
            exact ⟨numB_iff.2 hn, ih.1⟩
    · cases h
theorem opW_one {l : List UInt8} (h : opW l = 1) : l = [105, 110, 99] := by
  unfold opW at h
  split at h
  · rename_i q; exact (beq_iff_eq.1 q).symm
  · split at h
    · cases h
    · split at h <;> cases h
theorem opW_two {l : List UInt8} (h : opW l = 2) : l = [100, 101, 99] := by
  unfold opW at h
  split at h
  · cases h
  · split at h
    · rename_i q; exact (beq_iff_eq.1 q).symm
    · split at h <;> cases h
theorem opW_three {l : List UInt8} (h : opW l = 3) : l = [104, 97, 108, 116] := by
  unfold opW at h
  split at h
  · cases h
  · split at h
    · cases h
    · split at h
      · rename_i q; exact (beq_iff_eq.1 q).symm
      · cases h
theorem sp_word {l W r : List UInt8} (h : ∀ x ∈ W, x ≠ 32) (e : l = W ++ 32 :: r) (k : Nat) : spN (k + 1) l = W :: spN k r := by
  have hi := index_app (r := r) h
  rw [← e] at hi
  rw [spN_some hi, e]
  simp
/-- A word that is followed by numbers. -/
theorem line_word {l r : List UInt8} {W : List UInt8} (h : ∀ x ∈ W, x ≠ 32) (e : l = W ++ 32 :: r) : spN 4 l = W :: spN 3 r := sp_word h e 3
theorem map_len {ps : List (List UInt8)} {vs : List Int} (h : ps.map vlC = vs) : ps.length = vs.length := by rw [← h]; simp
theorem line_to {l : List UInt8} {x : InsT} (h : lineR l = some x) : lineC l = some x := by
  unfold lineR at h
  split at h
  · rename_i q
    rw [← (beq_iff_eq.1 q), ← h]
    decide
  · split at h
    · cases h
    · rename_i q3
      split at h
      · cases h
      · rename_i vs hv
        split at h
        · rename_i c
          simp only [Bool.and_eq_true, beq_iff_eq, decide_eq_true_eq] at c
          obtain ⟨c1, c2⟩ := c
          cases hd : l.drop 3 with
          | nil => rw [hd] at hv; cases hl : l.length with
            | zero => omega
            | succ f => rw [hl] at hv; simp [numsR] at hv; rw [hv] at c2; simp at c2
          | cons y r =>
            rw [hd] at hv
            have hy : y = 32 := by
              cases hl : l.length with
              | zero => omega
              | succ f =>
                rw [hl, numsR] at hv
                split at hv
                · rename_i q; exact q.1
                · cases hv
            subst hy
            have e : l = [105, 110, 99] ++ 32 :: r := by rw [c1, ← hd, List.take_append_drop]
            have hl : r.length < l.length := by rw [e]; simp; omega
            obtain ⟨n1, n2⟩ := nums_of 3 l.length r vs hl hv (by omega)
            have sp := line_word (by decide) e
            have n3 := map_len n2
            unfold lineC
            rw [sp]
            simp only [List.getD_cons_zero, List.drop_succ_cons, List.drop_zero, List.length_cons]
            rw [if_neg (by rw [n3, c2]; decide), if_pos n1, n2, ← h]
            congr 1
            have : opW [105, 110, 99] = 1 := by decide
            rw [this]
            match vs, c2 with
            | [a, b], _ => rfl
        · split at h
          · rename_i c
            simp only [Bool.and_eq_true, beq_iff_eq, decide_eq_true_eq] at c
            obtain ⟨c1, c2⟩ := c
            cases hd : l.drop 3 with
            | nil => rw [hd] at hv; cases hl : l.length with
              | zero => omega
              | succ f => rw [hl] at hv; simp [numsR] at hv; rw [hv] at c2; simp at c2
            | cons y r =>
              rw [hd] at hv
              have hy : y = 32 := by
                cases hl : l.length with
                | zero => omega
                | succ f =>
                  rw [hl, numsR] at hv
                  split at hv
                  · rename_i q; exact q.1
                  · cases hv
              subst hy
              have e : l = [100, 101, 99] ++ 32 :: r := by rw [c1, ← hd, List.take_append_drop]
              have hl : r.length < l.length := by rw [e]; simp; omega
              obtain ⟨n1, n2⟩ := nums_of 3 l.length r vs hl hv (by omega)
              have sp := line_word (by decide) e
              have n3 := map_len n2
              unfold lineC
              rw [sp]
              simp only [List.getD_cons_zero, List.drop_succ_cons, List.drop_zero, List.length_cons]
              rw [if_neg (by rw [n3, c2]; decide), if_pos n1, n2, ← h]
              congr 1
          · cases h
theorem line_of {l : List UInt8} {x : InsT} (h : lineC l = some x) : lineR l = some x := by
  unfold lineC at h
  split at h
  · cases h
  · rename_i q
    split at h
    · rename_i ha
      have q0 : opW ((spN 4 l).getD 0 []) ≠ 0 := fun e => q (Or.inl e)
      have ql : ((spN 4 l).length : Int) = 1 + usN (opW ((spN 4 l).getD 0 [])) := Classical.byContradiction fun e => q (Or.inr e)
      clear q
      have o4 := opW_lt ((spN 4 l).getD 0 [])
      by_cases qi : Lib.indexByte l 32 = -1
      · rw [spN_none qi] at h ha q0 ql o4
        simp only [List.getD_cons_zero, List.length_cons, List.length_nil] at h q0 ql o4
        rcases (show opW l = 1 ∨ opW l = 2 ∨ opW l = 3 by omega) with e | e | e
        · rw [e] at ql; exact absurd ql (by decide)
        · rw [e] at ql; exact absurd ql (by decide)
        · rw [opW_three e] at h ⊢
          rw [← h]; decide
      · obtain ⟨i, hi, il, e⟩ := byte_split qi
        rw [spN_some hi] at h ha q0 ql o4
        simp only [List.getD_cons_zero, List.length_cons, List.drop_succ_cons, List.drop_zero] at h q0 ql o4 ha
        rcases (show opW (l.take i) = 1 ∨ opW (l.take i) = 2 ∨ opW (l.take i) = 3 by omega) with eo | eo | eo
        · rw [eo] at ql h
          have hw := opW_one eo
          rw [hw] at e
          have n2 : (spN 3 (l.drop (i + 1))).length = 2 := by
            have : usN 1 = 2 := rfl
            rw [this] at ql; omega
          have hl : (l.drop (i + 1)).length < l.length := by simp; omega
          have nt := nums_to 3 l.length (l.drop (i + 1)) hl (by omega) ha
          have t3 : l.take 3 = [105, 110, 99] := by rw [e]; rfl
          have d3 : l.drop 3 = 32 :: l.drop (i + 1) := by
            have := congrArg (List.drop 3) e
            rw [this]; rfl
          have l3 : 4 ≤ l.length := by rw [e]; simp
          unfold lineR
          rw [if_neg (by intro c; have := beq_iff_eq.1 c; rw [← this] at t3; revert t3; decide), if_neg (by omega), d3, nt]
          simp only [t3]
          rw [if_pos (by simp [n2]), ← h]
          congr 1
          have hm : ((spN 3 (l.drop (i + 1))).map vlC).length = 2 := by rw [List.length_map, n2]
          match (spN 3 (l.drop (i + 1))).map vlC, hm with
          | [a, b], _ => rfl
        · rw [eo] at ql h
          have hw := opW_two eo
          rw [hw] at e
          have n2 : (spN 3 (l.drop (i + 1))).length = 3 := by
            have : usN 2 = 3 := rfl
            rw [this] at ql; omega
          have hl : (l.drop (i + 1)).length < l.length := by simp; omega
          have nt := nums_to 3 l.length (l.drop (i + 1)) hl (by omega) ha
          have t3 : l.take 3 = [100, 101, 99] := by rw [e]; rfl
          have d3 : l.drop 3 = 32 :: l.drop (i + 1) := by
            have := congrArg (List.drop 3) e
            rw [this]; rfl
          have l3 : 4 ≤ l.length := by rw [e]; simp
          unfold lineR
          rw [if_neg (by intro c; have := beq_iff_eq.1 c; rw [← this] at t3; revert t3; decide), if_neg (by omega), d3, nt]
          simp only [t3]
          rw [if_neg (by simp [n2]), if_pos (by simp [n2]), ← h]
          congr 1
        · rw [eo] at ql
          have := List.length_pos_iff.2 (show spN 3 (l.drop (i + 1)) ≠ [] by rw [spN]; split <;> simp)
          have u3 : usN 3 = 0 := rfl
          rw [u3] at ql; omega
    · cases h
theorem line_same (l : List UInt8) : lineR l = lineC l := by
  cases h : lineR l with
  | some x => exact (line_to h).symm
  | none =>
    cases h' : lineC l with
    | none => rfl
    | some x => rw [line_of h'] at h; cases h
theorem tw_in : ∀ (l : List UInt8) (k : Nat), k < (l.takeWhile digU).length → l.getD k 0 = (l.takeWhile digU).getD k 0 ∧ k < l.length ∧ digU (l.getD k 0) = true
  | [], k, h => by simp at h
  | x :: l, k, h => by
    by_cases q : digU x = true
    · rw [List.takeWhile_cons_of_pos q] at h ⊢
      cases k with
      | zero => exact ⟨rfl, by simp, q⟩
      | succ k =>
        have := tw_in l k (by simpa using h)
        exact ⟨by simpa using this.1, by simp; exact this.2.1, by simpa using this.2.2⟩
    · rw [List.takeWhile_cons_of_neg q] at h; simp at h
theorem tw_out : ∀ (l : List UInt8), (l.takeWhile digU).length < l.length → digU (l.getD (l.takeWhile digU).length 0) = false
  | [], h => by simp at h
  | x :: l, h => by
    by_cases q : digU x = true
    · rw [List.takeWhile_cons_of_pos q] at h ⊢
      simp only [List.length_cons, List.getD_cons_succ]
      exact tw_out l (by simpa using h)
    · rw [List.takeWhile_cons_of_neg q]; simpa using q
theorem tw_le (l : List UInt8) : (l.takeWhile digU).length ≤ l.length := (List.takeWhile_prefix digU).length_le
theorem bt_list (l : List UInt8) (i : Nat) : bt ⟨l.toArray⟩ i = (l.getD i 0).toNat := by
  unfold bt
  by_cases h : i < l.length
  · rw [dif_pos (by show i < l.toArray.size; simpa using h)]
    show l[i].toNat = _
    rw [show l.getD i 0 = l[i] by simp [List.getD, h]]
  · rw [dif_neg (by show ¬ i < l.toArray.size; simpa using h)]
    simp [List.getD, List.getElem?_eq_none (Nat.le_of_not_lt h)]
theorem getD_drop (l : List UInt8) (i k : Nat) : (l.drop i).getD k 0 = l.getD (i + k) 0 := by simp [List.getD, List.getElem?_drop]
theorem inR_dig (l : List UInt8) (i : Nat) : inR ⟨l.toArray⟩ i 48 57 = true ↔ i < l.length ∧ digU (l.getD i 0) = true := by
  rw [inR_true, bt_list]
  have : (⟨l.toArray⟩ : ByteArray).size = l.length := by show l.toArray.size = _; simp
  rw [this]
  simp only [digU, Bool.and_eq_true, decide_eq_true_eq]
  omega
theorem num_run (l : List UInt8) (i0 : Nat) : ∀ d k, ((l.drop i0).takeWhile digU).length - k = d → k ≤ ((l.drop i0).takeWhile digU).length → numF ⟨l.toArray⟩ (l.length - (i0 + k)) (i0 + k) (dvl ((l.drop i0).takeWhile digU) k) = (dvl ((l.drop i0).takeWhile digU) ((l.drop i0).takeWhile digU).length, i0 + ((l.drop i0).takeWhile digU).length)
  | 0, k, hd, hk => by
    have hs : (⟨l.toArray⟩ : ByteArray).size = l.length := by show l.toArray.size = _; simp
    obtain rfl : k = ((l.drop i0).takeWhile digU).length := by omega
    rw [← hs, numF_stop]
    cases h : inR ⟨l.toArray⟩ (i0 + ((l.drop i0).takeWhile digU).length) 48 57 with
    | false => rfl
    | true =>
      have h1 := (inR_dig _ _).1 h
      have := tw_out (l.drop i0) (by rw [List.length_drop]; omega)
      rw [getD_drop, h1.2] at this; cases this
  | d + 1, k, hd, hk => by
    have hs : (⟨l.toArray⟩ : ByteArray).size = l.length := by show l.toArray.size = _; simp
    have h1 := tw_in (l.drop i0) k (by omega)
    rw [getD_drop, List.length_drop] at h1
    have h2 : inR ⟨l.toArray⟩ (i0 + k) 48 57 = true := (inR_dig _ _).2 ⟨by omega, h1.2.2⟩
    have h3 := numF_step (v := dvl ((l.drop i0).takeWhile digU) k) h2
    rw [hs] at h3
    rw [h3, bt_list, h1.1, Nat.mul_comm, show i0 + k + 1 = i0 + (k + 1) by omega]
    exact num_run l i0 d (k + 1) (by omega) (by omega)
theorem num_is (l : List UInt8) (i0 : Nat) : num ⟨l.toArray⟩ i0 = (dvl ((l.drop i0).takeWhile digU) ((l.drop i0).takeWhile digU).length, i0 + ((l.drop i0).takeWhile digU).length) := by
  have hs : (⟨l.toArray⟩ : ByteArray).size = l.length := by show l.toArray.size = _; simp
  unfold num
  rw [hs]
  exact num_run l i0 _ 0 rfl (by omega)
theorem tw_dig (l : List UInt8) : digB (l.takeWhile digU) (l.takeWhile digU).length := fun i hi => by
  have h := tw_in l i hi
  rw [h.1] at h
  simpa [digU] using h.2.2
/-- What the document's answer makes of a number: it is taken just where the piece is one. -/
theorem numR_ok {l : List UInt8} {i0 : Nat} {N : Int} (h : NumRef ⟨l.toArray⟩ i0 N) (hn : numB ((l.drop i0).takeWhile digU) = true) : N = vlC ((l.drop i0).takeWhile digU) ∧ 0 ≤ N ∧ ((l.drop i0).takeWhile digU).length ≤ 6 := by
  obtain ⟨h0, h6, hz, hd⟩ := numB_iff.1 hn
  have hv := dvl_le _ _ hd
  have hp : 10 ^ ((l.drop i0).takeWhile digU).length ≤ 10 ^ 6 := Nat.pow_le_pow_right (by omega) h6
  have l0 := List.length_pos_iff.2 h0
  have hb : bt ⟨l.toArray⟩ i0 = (((l.drop i0).takeWhile digU).getD 0 0).toNat := by
    rw [bt_list, ← (tw_in (l.drop i0) 0 l0).1, getD_drop]; rfl
  have hq : ¬ (1 < ((l.drop i0).takeWhile digU).length ∧ bt ⟨l.toArray⟩ i0 = 48) := by
    rintro ⟨a, b⟩
    rw [hb] at b
    have := hz (UInt8.toNat_inj.1 b)
    omega
  have ho := h.ok 0 999999 (by omega) (by
    unfold numOk
    rw [num_is]
    simp only [Bool.not_eq_true', Bool.or_eq_false_iff, decide_eq_false_iff_not, Bool.and_eq_false_iff]
    refine ⟨⟨⟨by omega, ?_⟩, by omega⟩, by omega⟩
    by_cases a : 1 < ((l.drop i0).takeWhile digU).length
    · right; intro b; exact hq ⟨a, b⟩
    · left; omega)
  rw [num_is] at ho
  exact ⟨ho.1, by omega, h6⟩
theorem numR_no {l : List UInt8} {i0 : Nat} {N : Int} (h : NumRef ⟨l.toArray⟩ i0 N) (hn : numB ((l.drop i0).takeWhile digU) = false) : N < 0 ∨ 6 < ((l.drop i0).takeWhile digU).length := by
  by_cases h6 : 6 < ((l.drop i0).takeWhile digU).length
  · exact Or.inr h6
  · left
    have hc : ¬ numC ((l.drop i0).takeWhile digU) := fun q => by rw [numB_iff.2 q] at hn; cases hn
    have : N = -1 := by
      refine h.bad ?_
      rw [num_is]
      by_cases l0 : ((l.drop i0).takeWhile digU).length = 0
      · left; simp only; omega
      · right
        have hb : bt ⟨l.toArray⟩ i0 = (((l.drop i0).takeWhile digU).getD 0 0).toNat := by
          rw [bt_list, ← (tw_in (l.drop i0) 0 (by omega)).1, getD_drop]; rfl
        rw [hb]
        have hz : ¬ (((l.drop i0).takeWhile digU).getD 0 0 = 48 → ((l.drop i0).takeWhile digU).length = 1) := fun q => hc ⟨by intro e; rw [e] at l0; simp at l0, by omega, q, tw_dig _⟩
        have hz1 : ((l.drop i0).takeWhile digU).getD 0 0 = 48 := Classical.byContradiction fun q => hz (fun e => absurd e q)
        have hz2 : ¬ ((l.drop i0).takeWhile digU).length = 1 := fun q => hz (fun _ => q)
        exact ⟨by simp only; omega, by rw [hz1]; rfl⟩
    omega
theorem numsR_end (f : Nat) : numsR f [] = some [] := by cases f <;> rfl
theorem numsR_at {l : List UInt8} {f i : Nat} (hi : i < l.length) : numsR (f + 1) (l.drop i) = if l.getD i 0 = 32 ∧ numB ((l.drop (i + 1)).takeWhile digU) = true then (numsR f (l.drop (i + 1 + ((l.drop (i + 1)).takeWhile digU).length))).map (vlC ((l.drop (i + 1)).takeWhile digU) :: ·) else none := by
  rw [List.drop_eq_getElem_cons hi, numsR, show l.getD i 0 = l[i] by simp [List.getD, hi], List.drop_drop]
/-- The lines of a text up to the first that is none, and whether there is none such. -/
def linesC : Nat → List UInt8 → List InsT × Bool
  | 0, _ => ([], true)
  | f + 1, l => if l = [] then ([], true) else if Lib.indexByte l 10 = -1 then ([], false) else match lineC (l.take (Lib.indexByte l 10).toNat) with
    | none => ([], false)
    | some x => (x :: (linesC f (l.drop ((Lib.indexByte l 10).toNat + 1))).1, (linesC f (l.drop ((Lib.indexByte l 10).toNat + 1))).2)
/-- So many lines are read, and this is left. -/
def PS (L : List UInt8) (acc : List InsT) (rest : List UInt8) : Prop := ∃ f, rest.length ≤ f ∧ linesC L.length L = (acc ++ (linesC f rest).1, (linesC f rest).2)
theorem PS.start (L : List UInt8) : PS L [] L := ⟨L.length, by omega, by simp⟩
theorem PS.next {L : List UInt8} {acc : List InsT} {rest : List UInt8} (h : PS L acc rest) {i : Nat} {x : InsT} (hi : Lib.indexByte rest 10 = (i : Int)) (hx : lineC (rest.take i) = some x) : PS L (acc ++ [x]) (rest.drop (i + 1)) := by
  obtain ⟨f, hf, h⟩ := h
  have hl : i < rest.length := by
    obtain ⟨h3, _⟩ := List.getElem?_eq_some_iff.1 (Lib.indexByte_some hi).1
    exact h3
  cases f with
  | zero => omega
  | succ f =>
    refine ⟨f, by simp; omega, ?_⟩
    rw [h, linesC, if_neg (by intro e; rw [e] at hl; simp at hl), if_neg (by omega), hi, Int.toNat_natCast, hx]
    simp
theorem PS.fin {L : List UInt8} {acc : List InsT} (h : PS L acc []) : linesC L.length L = (acc, true) := by
  obtain ⟨f, hf, h⟩ := h
  rw [h]
  cases f <;> simp [linesC]
theorem PS.bad {L : List UInt8} {acc : List InsT} {rest : List UInt8} (h : PS L acc rest) (h0 : rest ≠ []) (hb : Lib.indexByte rest 10 = -1 ∨ ∃ i : Nat, Lib.indexByte rest 10 = (i : Int) ∧ lineC (rest.take i) = none) : linesC L.length L = (acc, false) := by
  obtain ⟨f, hf, h⟩ := h
  have l0 := List.length_pos_iff.2 h0
  cases f with
  | zero => omega
  | succ f =>
    rw [h, linesC, if_neg h0]
    rcases hb with hb | ⟨i, hi, hx⟩
    · rw [if_pos hb]; simp
    · rw [if_neg (by omega), hi, Int.toNat_natCast, hx]; simp
theorem index_first (l : List UInt8) (c : UInt8) : ∀ (k : Nat), k < l.length → l.getD k 0 = c → (∀ j, j < k → l.getD j 0 ≠ c) → Lib.indexByte l c = (k : Int) := by
  intro k hk hc hj
  by_cases q : Lib.indexByte l c = -1
  · exact absurd (by rw [← hc]; simp [List.getD, hk]) (Lib.indexByte_none q k)
  · obtain ⟨i, hi, il, -⟩ := byte_split q
    obtain ⟨h1, h2⟩ := Lib.indexByte_some hi
    rw [hi]
    rcases Nat.lt_trichotomy i k with a | a | a
    · exact absurd (by rw [List.getD, h1]; rfl) (hj i a)
    · rw [a]
    · exact absurd (by rw [← hc]; simp [List.getD, hk]) (h2 k a)
theorem index_none' (l : List UInt8) (c : UInt8) (h : ∀ j, j < l.length → l.getD j 0 ≠ c) : Lib.indexByte l c = -1 := by
  by_cases q : Lib.indexByte l c = -1
  · exact q
  · obtain ⟨i, hi, il, -⟩ := byte_split q
    exact absurd (by rw [List.getD, (Lib.indexByte_some hi).1]; rfl) (h i il)
end Go.Proofs.YtncinpkbiphpoaaDoor

