/-
  What the last text of this claim leans on, part 4: Wr3, Wr4.
-/
import Derived.Test.YthmeapplnocfjaaDoorZp3
namespace Go.Proofs.YthmeapplnocfjaaDoor
set_option linter.unusedVariables false
set_option linter.unusedSimpArgs false
/-- The upper sides of looks, each once, in their order. -/
def nmS (acc : List (List Nat)) (x : List Nat) : List (List Nat) := if acc.contains x = true then acc else acc ++ [x]
def nmL : List (List Nat) → List LkW → List (List Nat)
  | acc, [] => acc
  | acc, l :: ls => nmL (nmS acc l.u) ls
theorem mem_nmS {acc : List (List Nat)} {x y : List Nat} : y ∈ nmS acc x ↔ y ∈ acc ∨ y = x := by
  unfold nmS
  split
  · rename_i q
    rw [List.contains_iff_mem] at q
    constructor
    · exact Or.inl
    · rintro (h | rfl)
      · exact h
      · exact q
  · simp
theorem mem_nmL {y : List Nat} : ∀ {ls : List LkW} {acc : List (List Nat)}, y ∈ nmL acc ls ↔ y ∈ acc ∨ ∃ l, l ∈ ls ∧ l.u = y
  | [], acc => by simp [nmL]
  | l :: ls, acc => by
    rw [nmL, mem_nmL (ls := ls), mem_nmS]
    constructor
    · rintro ((h | rfl) | ⟨q, h, e⟩)
      · exact Or.inl h
      · exact Or.inr ⟨l, List.mem_cons_self, rfl⟩
      · exact Or.inr ⟨q, List.mem_cons_of_mem _ h, e⟩
    · rintro (h | ⟨q, h, e⟩)
      · exact Or.inl (Or.inl h)
      · rcases List.mem_cons.1 h with rfl | h
        · exact Or.inl (Or.inr e.symm)
        · exact Or.inr ⟨q, h, e⟩
theorem nmL_len : ∀ {ls : List LkW} {acc : List (List Nat)}, (nmL acc ls).length ≤ acc.length + ls.length
  | [], acc => by simp [nmL]
  | l :: ls, acc => by
    have := nmL_len (ls := ls) (acc := nmS acc l.u)
    have : (nmS acc l.u).length ≤ acc.length + 1 := by unfold nmS; split <;> simp
    rw [nmL, List.length_cons]
    omega
theorem nmL_snoc : ∀ {ls : List LkW} {acc : List (List Nat)} {l : LkW}, nmL acc (ls ++ [l]) = nmS (nmL acc ls) l.u
  | [], acc, l => rfl
  | q :: ls, acc, l => nmL_snoc (ls := ls)
/-- A side's number. -/
def noS (acc : List (List Nat)) (x : List Nat) : Nat := acc.idxOf x
theorem noS_lt {acc : List (List Nat)} {x : List Nat} (h : x ∈ acc) : noS acc x < acc.length := List.idxOf_lt_length_of_mem h
theorem noS_inj {acc : List (List Nat)} {x y : List Nat} (hx : x ∈ acc) (hy : y ∈ acc) (e : noS acc x = noS acc y) : x = y := by
  have h1 := List.getElem_idxOf (noS_lt hx)
  have h2 := List.getElem_idxOf (noS_lt hy)
  rw [← h1, ← h2]
  congr 1
/-- The steps of a row. -/
def ldS (here next : List (List Nat)) (l : LkW) : List (Nat × Nat) := if next.contains l.d = true then [(noS here l.u, noS next l.d)] else []
def ldL (here next : List (List Nat)) : List LkW → List (Nat × Nat)
  | [] => []
  | l :: ls => ldS here next l ++ ldL here next ls
theorem ldL_snoc (here next : List (List Nat)) (l : LkW) : ∀ ls : List LkW, ldL here next (ls ++ [l]) = ldL here next ls ++ ldS here next l
  | [] => by simp [ldL]
  | q :: ls => by rw [List.cons_append, ldL, ldL, ldL_snoc here next l ls, List.append_assoc]
theorem ldS_len (here next : List (List Nat)) (l : LkW) : (ldS here next l).length ≤ 1 := by unfold ldS; split <;> simp
theorem ldL_len (here next : List (List Nat)) : ∀ ls : List LkW, (ldL here next ls).length ≤ ls.length
  | [] => by simp [ldL]
  | l :: ls => by
    have := ldL_len here next ls
    have := ldS_len here next l
    rw [ldL, List.length_append, List.length_cons]
    omega
theorem mem_ldL {here next : List (List Nat)} {p : Nat × Nat} : ∀ {ls : List LkW}, p ∈ ldL here next ls ↔ ∃ l, l ∈ ls ∧ l.d ∈ next ∧ p = (noS here l.u, noS next l.d)
  | [] => by simp [ldL]
  | l :: ls => by
    rw [ldL, List.mem_append, mem_ldL (ls := ls)]
    unfold ldS
    constructor
    · rintro (h | ⟨q, h, e⟩)
      · split at h
        · rename_i q
          rw [List.contains_iff_mem] at q
          rw [List.mem_singleton] at h
          exact ⟨l, List.mem_cons_self, q, h⟩
        · cases h
      · exact ⟨q, List.mem_cons_of_mem _ h, e⟩
    · rintro ⟨q, h, h1, e⟩
      rcases List.mem_cons.1 h with rfl | h
      · refine Or.inl ?_
        rw [if_pos (List.contains_iff_mem.2 h1), List.mem_singleton]
        exact e
      · exact Or.inr ⟨q, h, h1, e⟩
/-- Ways through the rows. -/
def PtW (st : Nat → List (Nat × Nat)) : Nat → Nat → Nat → Prop
  | 0, i, j => i = j
  | r + 1, i, j => ∃ m, PtW st r i m ∧ (m, j) ∈ st r
theorem PtW.all {st : Nat → List (Nat × Nat)} : ∀ {n i j : Nat}, PtW st n i j → ∃ m : Nat → Nat, m 0 = i ∧ m n = j ∧ ∀ r, r < n → (m r, m (r + 1)) ∈ st r
  | 0, i, j, h => ⟨fun _ => i, rfl, h, fun r hr => by omega⟩
  | n + 1, i, j, ⟨q, h, hq⟩ => by
    obtain ⟨m, h0, h1, h2⟩ := PtW.all h
    refine ⟨fun r => if r = n + 1 then j else m r, by simp [h0], by simp, fun r hr => ?_⟩
    have e1 : (if r = n + 1 then j else m r) = m r := if_neg (by omega)
    show ((if r = n + 1 then j else m r), (if r + 1 = n + 1 then j else m (r + 1))) ∈ st r
    rw [e1]
    by_cases e : r = n
    · subst e
      rw [if_pos rfl, h1]
      exact hq
    · rw [if_neg (by omega)]
      exact h2 r (by omega)
def sdL (b : BdW) (r : Nat) : List (List Nat) := nmL [] (lkL b r)
def stL (b : BdW) (r : Nat) : List (Nat × Nat) := ldL (sdL b r) (sdL b ((r + 1) % b.H)) (lkL b r)
theorem up_mem {b : BdW} {r : Nat} {L : LkW} (h : L ∈ lkL b r) : L.u ∈ sdL b r := mem_nmL.2 (Or.inr ⟨L, h, rfl⟩)
/-- All cells can be filled just where a way leads round. -/
theorem open_iff {b : BdW} (hb : BokW b) : OpB b ↔ ∃ i, i < (sdL b 0).length ∧ PtW (stL b) b.H i i := by
  have h1 := hb.h1
  constructor
  · rintro ⟨S, hm, hf⟩
    have row : ∀ r, r < b.H → sees b r (S r) ∈ lkL b r := fun r hr => (mem_lkL hb).2 ⟨S r, fun c hc => ⟨hm r c hr hc, (hf r c hr hc).1⟩, rfl⟩
    have nxt : ∀ r, r < b.H → (sees b r (S r)).d = (sees b ((r + 1) % b.H) (S ((r + 1) % b.H))).u := fun r hr => (sees_eq hb).2 fun c hc => (hf r c hr hc).2
    refine ⟨noS (sdL b 0) (sees b 0 (S 0)).u, noS_lt (up_mem (row 0 h1)), ?_⟩
    have key : ∀ r, r ≤ b.H → PtW (stL b) r (noS (sdL b 0) (sees b 0 (S 0)).u) (noS (sdL b (r % b.H)) (sees b (r % b.H) (S (r % b.H))).u) := by
      intro r
      induction r with
      | zero => intro _; rw [Nat.zero_mod]; exact rfl
      | succ r ih =>
        intro hr
        refine ⟨_, ih (by omega), ?_⟩
        rw [Nat.mod_eq_of_lt (show r < b.H by omega)]
        have lt : (r + 1) % b.H < b.H := Nat.mod_lt _ h1
        refine mem_ldL.2 ⟨sees b r (S r), row r (by omega), ?_, ?_⟩
        · rw [nxt r (by omega)]
          exact up_mem (row _ lt)
        · rw [nxt r (by omega)]
    have := key b.H (Nat.le_refl _)
    rwa [Nat.mod_self] at this
  · rintro ⟨i, _, h⟩
    obtain ⟨m, m0, mH, hs⟩ := h.all
    have ex : ∀ r, ∃ L : LkW, r < b.H → L ∈ lkL b r ∧ L.d ∈ sdL b ((r + 1) % b.H) ∧ m r = noS (sdL b r) L.u ∧ m (r + 1) = noS (sdL b ((r + 1) % b.H)) L.d := fun r => by
      by_cases hr : r < b.H
      · obtain ⟨L, a1, a2, a3⟩ := mem_ldL.1 (hs r hr)
        have e := Prod.mk.inj a3
        exact ⟨L, fun _ => ⟨a1, a2, e.1, e.2⟩⟩
      · exact ⟨lkZ, fun h => absurd h hr⟩
    have ex2 : ∀ r, ∃ s : Nat → Nat, r < b.H → RowB b r s ∧ (sees b r s).d ∈ sdL b ((r + 1) % b.H) ∧ m r = noS (sdL b r) (sees b r s).u ∧ m (r + 1) = noS (sdL b ((r + 1) % b.H)) (sees b r s).d := fun r => by
      obtain ⟨L, hL⟩ := ex r
      by_cases hr : r < b.H
      · obtain ⟨a1, a2, a3, a4⟩ := hL hr
        obtain ⟨s, b1, rfl⟩ := (mem_lkL hb).1 a1
        exact ⟨s, fun _ => ⟨b1, a2, a3, a4⟩⟩
      · exact ⟨fun _ => 0, fun h => absurd h hr⟩
    let S : Nat → Nat → Nat := fun r => Classical.choose (ex2 r)
    have hS : ∀ r, r < b.H → RowB b r (S r) ∧ (sees b r (S r)).d ∈ sdL b ((r + 1) % b.H) ∧ m r = noS (sdL b r) (sees b r (S r)).u ∧ m (r + 1) = noS (sdL b ((r + 1) % b.H)) (sees b r (S r)).d := fun r => Classical.choose_spec (ex2 r)
    refine ⟨S, fun r c hr hc => ((hS r hr).1 c hc).1, fun r c hr hc => ⟨((hS r hr).1 c hc).2, ?_⟩⟩
    have lt : (r + 1) % b.H < b.H := Nat.mod_lt _ h1
    refine (sees_eq hb).1 ?_ c hc
    obtain ⟨_, q2, _, q4⟩ := hS r hr
    obtain ⟨p1, _, p3, _⟩ := hS _ lt
    refine noS_inj q2 (up_mem ((mem_lkL hb).2 ⟨_, p1, rfl⟩)) ?_
    rw [← q4, ← p3]
    by_cases e : r + 1 = b.H
    · rw [e, Nat.mod_self, mH, m0]
    · rw [Nat.mod_eq_of_lt (by omega)]
end Go.Proofs.YthmeapplnocfjaaDoor

namespace Go.Proofs.YthmeapplnocfjaaDoor
set_option linter.unusedVariables false
set_option linter.unusedSimpArgs false
/-- The first tile with which a board stays open. -/
def ChoW (b : BdW) (r c k : Nat) : Prop := (b.may r c).testBit k = true ∧ OpB (setM b r c (2 ^ k)) ∧ ∀ j, j < k → (b.may r c).testBit j = true → ¬ OpB (setM b r c (2 ^ j))
theorem sol_one {b : BdW} {r c : Nat} {S : Nat → Nat → Nat} (h : SolB b S) (hr : r < b.H) (hc : c < b.W) : SolB (setM b r c (2 ^ S r c)) S := by
  refine ⟨fun r' c' h1 h2 => ?_, h.2⟩
  show (if r' = r ∧ c' = c then 2 ^ S r c else b.may r' c').testBit (S r' c') = true
  split
  · rename_i q
    rw [q.1, q.2]
    simp
  · exact h.1 r' c' h1 h2
/-- It is the last one that is left. -/
theorem cho_last {b : BdW} {r c n k rest : Nat} (ho : OpB b) (hr : r < b.H) (hc : c < b.W) (hn : ∀ j, j < n → (b.may r c).testBit j = true → ¬ OpB (setM b r c (2 ^ j))) (hk : n ≤ k) (hb : ∀ j, n ≤ j → j < k → (b.may r c).testBit j = false) (hz : ∀ j, k + 1 ≤ j → (b.may r c).testBit j = false) : OpB (setM b r c (2 ^ k)) := by
  obtain ⟨S, hS⟩ := ho
  have h1 := hS.1 r c hr hc
  have h2 := sol_one hS hr hc
  have e : S r c = k := by
    rcases Nat.lt_trichotomy (S r c) k with q | q | q
    · by_cases p : S r c < n
      · exact absurd ⟨S, h2⟩ (hn _ p h1)
      · rw [hb _ (by omega) q] at h1; cases h1
    · exact q
    · rw [hz _ (by omega)] at h1; cases h1
  rw [← e]
  exact ⟨S, h2⟩
theorem cho_of {b : BdW} {r c n k : Nat} (hn : ∀ j, j < n → (b.may r c).testBit j = true → ¬ OpB (setM b r c (2 ^ j))) (hk : n ≤ k) (hb : ∀ j, n ≤ j → j < k → (b.may r c).testBit j = false) (hm : (b.may r c).testBit k = true) (ho : OpB (setM b r c (2 ^ k))) : ChoW b r c k :=
  ⟨hm, ho, fun j hj hm => by
    by_cases p : j < n
    · exact hn j p hm
    · rw [hb j (by omega) hj] at hm; cases hm⟩
theorem cho_more {b : BdW} {r c n k : Nat} (hn : ∀ j, j < n → (b.may r c).testBit j = true → ¬ OpB (setM b r c (2 ^ j))) (hb : ∀ j, n ≤ j → j < k → (b.may r c).testBit j = false) (no : ¬ OpB (setM b r c (2 ^ k))) : ∀ j, j < k + 1 → (b.may r c).testBit j = true → ¬ OpB (setM b r c (2 ^ j)) := fun j hj hm => by
  by_cases e : j = k
  · rw [e]; exact no
  · by_cases p : j < n
    · exact hn j p hm
    · rw [hb j (by omega) (by omega)] at hm; cases hm
/-- A board of which so many cells are set. -/
def setN (b : BdW) (c : Nat → Nat) (N : Nat) : BdW := ⟨b.t, b.W, b.H, b.ring, fun r q => if r * b.W + q < N then 2 ^ c (r * b.W + q) else b.may r q⟩
/-- While it is filled. -/
structure FilW (b : BdW) (c : Nat → Nat) (N : Nat) : Prop where
  op : OpB (setN b c N)
  lt : ∀ i, i < N → c i < 16
  my : ∀ r q, q < b.W → r * b.W + q < N → (b.may r q).testBit (c (r * b.W + q)) = true
  less : ∀ D, SolB b D → ∀ j, j < N → (∀ i, i < j → D (i / b.W) (i % b.W) = c i) → ¬ D (j / b.W) (j % b.W) < c j
theorem setN_zero (b : BdW) (c : Nat → Nat) : setN b c 0 = b := by
  unfold setN
  simp
theorem FilW.start {b : BdW} (c : Nat → Nat) (h : OpB b) : FilW b c 0 := ⟨by rw [setN_zero]; exact h, fun i h => by omega, fun r q _ h => by omega, fun D _ j h => by omega⟩
theorem placeW {W r q r' q' : Nat} (hq : q < W) (hq' : q' < W) (e : r * W + q = r' * W + q') : r = r' ∧ q = q' := by
  have h1 : (r * W + q) / W = (r' * W + q') / W := by rw [e]
  have h2 : (r * W + q) % W = (r' * W + q') % W := by rw [e]
  have W0 : 0 < W := by omega
  rw [Nat.mul_comm r W, Nat.mul_comm r' W, Nat.mul_add_div W0, Nat.mul_add_div W0, Nat.div_eq_of_lt hq, Nat.div_eq_of_lt hq'] at h1
  rw [Nat.mul_comm r W, Nat.mul_comm r' W, Nat.mul_add_mod, Nat.mul_add_mod, Nat.mod_eq_of_lt hq, Nat.mod_eq_of_lt hq'] at h2
  exact ⟨by omega, h2⟩
theorem setN_succ {b : BdW} {c : Nat → Nat} {r q k : Nat} (hq : q < b.W) (r' q' : Nat) (hq' : q' < b.W) : (setM (setN b c (r * b.W + q)) r q (2 ^ k)).may r' q' = (setN b (upW c (r * b.W + q) k) (r * b.W + q + 1)).may r' q' := by
  show (if r' = r ∧ q' = q then 2 ^ k else if r' * b.W + q' < r * b.W + q then 2 ^ c (r' * b.W + q') else b.may r' q') = (if r' * b.W + q' < r * b.W + q + 1 then 2 ^ upW c (r * b.W + q) k (r' * b.W + q') else b.may r' q')
  by_cases e : r' = r ∧ q' = q
  · rw [if_pos e, e.1, e.2, if_pos (by omega), upW_at]
  · rw [if_neg e]
    have ne : r' * b.W + q' ≠ r * b.W + q := fun h => e (placeW hq' hq h)
    by_cases p : r' * b.W + q' < r * b.W + q
    · rw [if_pos p, if_pos (by omega), upW_other _ ne]
    · rw [if_neg p, if_neg (by omega)]
theorem op_congr {b b' : BdW} (ht : b'.t = b.t) (hW : b'.W = b.W) (hH : b'.H = b.H) (hr : b'.ring = b.ring) (hm : ∀ r q, q < b.W → b'.may r q = b.may r q) (h : OpB b) : OpB b' := by
  obtain ⟨S, h1, h2⟩ := h
  obtain ⟨t', W', H', r', m'⟩ := b'
  cases ht; cases hW; cases hH; cases hr
  exact ⟨S, fun r c hr hc => by rw [hm r c hc]; exact h1 r c hr hc, h2⟩
theorem FilW.next {b : BdW} {c : Nat → Nat} {r q k : Nat} (h : FilW b c (r * b.W + q)) (hq : q < b.W) (hr : r < b.H) (hm : ∀ r c, b.may r c < 65536) (hk : ChoW (setN b c (r * b.W + q)) r q k) : FilW b (upW c (r * b.W + q) k) (r * b.W + q + 1) := by
  obtain ⟨k1, k2, k3⟩ := hk
  have m0 : (setN b c (r * b.W + q)).may r q = b.may r q := if_neg (by omega)
  rw [m0] at k1 k3
  have k16 := bit_lt (hm r q) k1
  refine ⟨op_congr (b := setM (setN b c (r * b.W + q)) r q (2 ^ k)) rfl rfl rfl rfl (fun r' q' h' => (setN_succ hq r' q' h').symm) k2, fun i hi => ?_, fun r' q' h1 h2 => ?_, fun D hD j hj e => ?_⟩
  · by_cases p : i = r * b.W + q
    · rw [p, upW_at]; exact k16
    · rw [upW_other _ p]; exact h.lt i (by omega)
  · by_cases p : r' * b.W + q' = r * b.W + q
    · obtain ⟨rfl, rfl⟩ := placeW h1 hq p
      rw [upW_at]; exact k1
    · rw [upW_other _ p]; exact h.my r' q' h1 (by omega)
  · by_cases p : j = r * b.W + q
    · subst p
      rw [upW_at]
      intro l
      have W0 : 0 < b.W := by omega
      have d1 : (r * b.W + q) / b.W = r := by rw [Nat.mul_comm, Nat.mul_add_div W0, Nat.div_eq_of_lt hq, Nat.add_zero]
      have d2 : (r * b.W + q) % b.W = q := by rw [Nat.mul_comm, Nat.mul_add_mod, Nat.mod_eq_of_lt hq]
      rw [d1, d2] at l
      refine k3 _ l (hD.1 r q hr hq) ⟨D, ?_, hD.2⟩
      intro r' q' h1 h2
      have h2' : q' < b.W := h2
      show (if r' = r ∧ q' = q then 2 ^ D r q else if r' * b.W + q' < r * b.W + q then 2 ^ c (r' * b.W + q') else b.may r' q').testBit (D r' q') = true
      split
      · rename_i s
        rw [s.1, s.2]; simp
      · split
        · rename_i s
          have := e (r' * b.W + q') s
          rw [upW_other _ (by omega)] at this
          have d1 : (r' * b.W + q') / b.W = r' := by rw [Nat.mul_comm, Nat.mul_add_div W0, Nat.div_eq_of_lt h2', Nat.add_zero]
          have d2 : (r' * b.W + q') % b.W = q' := by rw [Nat.mul_comm, Nat.mul_add_mod, Nat.mod_eq_of_lt h2']
          rw [d1, d2] at this
          rw [this]; simp
        · exact hD.1 r' q' h1 h2
    · rw [upW_other _ p]
      exact h.less D hD j (by omega) (fun i hi => by rw [e i hi, upW_other _ (by omega)])
/-- All cells set: they are the first. -/
theorem FilW.sol {b : BdW} {c : Nat → Nat} (h : FilW b c (b.H * b.W)) : FitB b (fun r q => c (r * b.W + q)) := by
  obtain ⟨S, h1, h2⟩ := h.op
  have key : ∀ r q, r < b.H → q < b.W → S r q = c (r * b.W + q) := fun r q hr hq => by
    have := h1 r q hr hq
    have lt : r * b.W + q < b.H * b.W := by
      have : (r + 1) * b.W ≤ b.H * b.W := Nat.mul_le_mul_right _ hr
      rw [Nat.succ_mul] at this
      omega
    have e : (setN b c (b.H * b.W)).may r q = 2 ^ c (r * b.W + q) := if_pos lt
    rw [e, Nat.testBit_two_pow] at this
    exact (of_decide_eq_true this).symm
  intro r q hr hq
  obtain ⟨a1, a2⟩ := h2 r q hr hq
  have W0 : 0 < b.W := by omega
  have H0 : 0 < b.H := by omega
  have l1 : (q + 1) % b.W < b.W := Nat.mod_lt _ W0
  have l2 : (r + 1) % b.H < b.H := Nat.mod_lt _ H0
  have a1' : (inW b r q (S r q)).r = (inW b r ((q + 1) % b.W) (S r ((q + 1) % b.W))).l := a1
  have a2' : (inW b r q (S r q)).d = (inW b ((r + 1) % b.H) q (S ((r + 1) % b.H) q)).u := a2
  rw [key r q hr hq, key r _ hr l1] at a1'
  rw [key r q hr hq, key _ q l2 hq] at a2'
  exact ⟨a1', a2'⟩
/-- Tiles that look otherwise than all ahead of them, as a board is laid. -/
def layM (b : BdW) (n r c : Nat) : Nat → Prop := fun k => k < n ∧ ∀ j, j < k → inW b r c j ≠ inW b r c k
/-- A board as it is laid. -/
structure LaiW (xs : List TlT) (n W H : Nat) (ring : Bool) (b : BdW) : Prop where
  eW : b.W = W
  eH : b.H = H
  er : b.ring = ring
  et : ∀ k, k < n → b.t k = xs.getD k tlz
  em : ∀ r c k, r < H → c < W → ((b.may r c).testBit k = true ↔ layM b n r c k)
/-- Cells fit on the board just where they fit. -/
theorem fit_iff {xs : List TlT} {n W H : Nat} {ring : Bool} {b : BdW} (h : LaiW xs n W H ring b) (hW : 1 ≤ W) (hH : 1 ≤ H) {c : Nat → Nat} (hc : ∀ i, i < W * H → c i < n) : FitB b (fun r q => c (r * W + q)) ↔ ∀ k, k < W * H → okW xs W H ring k c := by
  have pl : ∀ r q, r < H → q < W → r * W + q < W * H := fun r q hr hq => by
    have : (r + 1) * W ≤ H * W := Nat.mul_le_mul_right _ hr
    rw [Nat.succ_mul, Nat.mul_comm H W] at this
    omega
  have tt : ∀ r q, r < H → q < W → b.t (c (r * W + q)) = xs.getD (c (r * W + q)) tlz := fun r q hr hq => h.et _ (hc _ (pl r q hr hq))
  constructor
  · intro F k hk
    obtain ⟨x, hx⟩ : ∃ x, k % W = x := ⟨_, rfl⟩
    obtain ⟨y, hy⟩ : ∃ y, k / W = y := ⟨_, rfl⟩
    have xW : x < W := by rw [← hx]; exact Nat.mod_lt _ (by omega)
    have yH : y < H := by rw [← hy]; exact Nat.div_lt_of_lt_mul hk
    have e : k = y * W + x := by rw [← hx, ← hy, Nat.mul_comm]; exact (Nat.div_add_mod k W).symm
    unfold okW
    rw [hx, hy]
    refine ⟨fun h0 => ?_, fun h0 => ?_, fun hr h0 => ?_, fun hr h0 => ?_⟩
    · obtain ⟨x', rfl⟩ : ∃ x', x = x' + 1 := ⟨x - 1, by omega⟩
      have f := (F y x' (by rw [h.eH]; exact yH) (by rw [h.eW]; omega)).1
      rw [h.eW, Nat.mod_eq_of_lt (by omega)] at f
      have q1 : ¬ x' + 1 = b.W := by rw [h.eW]; omega
      have q2 : ¬ x' + 1 = 0 := by omega
      rw [show k - 1 = y * W + x' by omega, ← tt y x' yH (by omega), e, ← tt y (x' + 1) yH xW]
      unfold inW at f
      simp only [q1, q2, if_false] at f
      split at f <;> exact f
    · obtain ⟨y', rfl⟩ : ∃ y', y = y' + 1 := ⟨y - 1, by omega⟩
      have f := (F y' x (by rw [h.eH]; omega) (by rw [h.eW]; exact xW)).2
      rw [h.eH, Nat.mod_eq_of_lt (by omega)] at f
      have q1 : ¬ y' + 1 = b.H := by rw [h.eH]; omega
      have q2 : ¬ y' + 1 = 0 := by omega
      have e' : k - W = y' * W + x := by rw [e, Nat.succ_mul]; omega
      rw [e', ← tt y' x (by omega) xW, e, ← tt (y' + 1) x yH xW]
      unfold inW at f
      simp only [q1, q2, if_false] at f
      split at f <;> exact f
    · have f := (F y x (by rw [h.eH]; exact yH) (by rw [h.eW]; exact xW)).1
      rw [h.eW, h0, Nat.mod_self] at f
      have rb : b.ring = true := by rw [h.er]; exact hr
      rw [show k - x = y * W + 0 by omega, ← tt y 0 yH (by omega), e, ← tt y x yH xW]
      unfold inW at f
      simp only [rb, if_true] at f
      exact f
    · have f := (F y x (by rw [h.eH]; exact yH) (by rw [h.eW]; exact xW)).2
      rw [h.eH, h0, Nat.mod_self] at f
      have rb : b.ring = true := by rw [h.er]; exact hr
      have e0 : x = 0 * W + x := by omega
      rw [e, ← tt y x yH xW]
      have t0 := tt 0 x (by omega) xW
      rw [← e0] at t0
      rw [← t0]
      unfold inW at f
      simp only [rb, if_true, ← e0] at f
      exact f
  · intro O r q hr hq
    rw [h.eH] at hr
    rw [h.eW] at hq
    have W0 : 0 < W := by omega
    have dv : ∀ y x, x < W → (y * W + x) / W = y ∧ (y * W + x) % W = x := fun y x hx => ⟨by rw [Nat.mul_comm, Nat.mul_add_div W0, Nat.div_eq_of_lt hx, Nat.add_zero], by rw [Nat.mul_comm, Nat.mul_add_mod, Nat.mod_eq_of_lt hx]⟩
    rw [h.eW, h.eH]
    refine ⟨?_, ?_⟩
    · by_cases l : q + 1 = W
      · rw [l, Nat.mod_self]
        cases hg : ring with
        | true =>
          have o := (O _ (pl r q hr hq)).2.2.1 hg (by rw [(dv r q hq).2]; exact l)
          rw [(dv r q hq).2, show r * W + q - q = r * W + 0 by omega, ← tt r q hr hq, ← tt r 0 hr (by omega)] at o
          have rb : b.ring = true := by rw [h.er]; exact hg
          unfold inW
          simp only [rb, if_true]
          exact o
        | false =>
          have rb : ¬ b.ring = true := by rw [h.er, hg]; simp
          have l' : q + 1 = b.W := by rw [h.eW]; exact l
          unfold inW
          simp only [rb, if_false, l', if_true]
          rfl
      · rw [Nat.mod_eq_of_lt (show q + 1 < W by omega)]
        have o := (O _ (pl r (q + 1) hr (by omega))).1 (by rw [(dv r (q + 1) (by omega)).2]; omega)
        rw [show r * W + (q + 1) - 1 = r * W + q by omega, ← tt r q hr hq, ← tt r (q + 1) hr (by omega)] at o
        have q1 : ¬ q + 1 = b.W := by rw [h.eW]; exact l
        have q2 : ¬ q + 1 = 0 := by omega
        unfold inW
        simp only [q1, q2, if_false]
        split <;> exact o
    · by_cases l : r + 1 = H
      · rw [l, Nat.mod_self]
        cases hg : ring with
        | true =>
          have o := (O _ (pl r q hr hq)).2.2.2 hg (by rw [(dv r q hq).1]; exact l)
          have e0 : q = 0 * W + q := by omega
          have t0 := tt 0 q (by omega) hq
          rw [← e0] at t0
          rw [(dv r q hq).2, ← tt r q hr hq, ← t0] at o
          have rb : b.ring = true := by rw [h.er]; exact hg
          unfold inW
          simp only [rb, if_true, ← e0]
          exact o
        | false =>
          have rb : ¬ b.ring = true := by rw [h.er, hg]; simp
          have l' : r + 1 = b.H := by rw [h.eH]; exact l
          unfold inW
          simp only [rb, if_false, l', if_true]
          rfl
      · rw [Nat.mod_eq_of_lt (show r + 1 < H by omega)]
        have o := (O _ (pl (r + 1) q (by omega) hq)).2.1 (by rw [(dv (r + 1) q hq).1]; omega)
        have e' : (r + 1) * W + q - W = r * W + q := by rw [Nat.succ_mul]; omega
        rw [e', ← tt r q hr hq, ← tt (r + 1) q (by omega) hq] at o
        have q1 : ¬ r + 1 = b.H := by rw [h.eH]; exact l
        have q2 : ¬ r + 1 = 0 := by omega
        unfold inW
        simp only [q1, q2, if_false]
        split <;> exact o
end Go.Proofs.YthmeapplnocfjaaDoor

