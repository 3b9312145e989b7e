/-
  What the last text of this claim leans on, part 7: Wr4, Wr5, Ws0.
-/
import Derived.Test.YthmeapplnocfjaaDoorZf6
import Derived.Laws.Bits64b
import Derived.Lib.TrailingZeros
namespace Go.Proofs.YthmeapplnocfjaaDoor
set_option linter.unusedVariables false
set_option linter.unusedSimpArgs false
/-- The first tile with which a board stays open. -/
def ChoW (b : BdW) (r c k : Nat) : Prop := (b.may r c).testBit k = true ∧ OpB (setM b r c (2 ^ k)) ∧ ∀ j, j < k → (b.may r c).testBit j = true → ¬ OpB (setM b r c (2 ^ j))
theorem sol_one {b : BdW} {r c : Nat} {S : Nat → Nat → Nat} (h : SolB b S) (hr : r < b.H) (hc : c < b.W) : SolB (setM b r c (2 ^ S r c)) S := by
  refine ⟨fun r' c' h1 h2 => ?_, h.2⟩
  show (if r' = r ∧ c' = c then 2 ^ S r c else b.may r' c').testBit (S r' c') = true
  split
  · rename_i q
    rw [q.1, q.2]
    simp
  · exact h.1 r' c' h1 h2
/-- It is the last one that is left. -/
theorem cho_last {b : BdW} {r c n k rest : Nat} (ho : OpB b) (hr : r < b.H) (hc : c < b.W) (hn : ∀ j, j < n → (b.may r c).testBit j = true → ¬ OpB (setM b r c (2 ^ j))) (hk : n ≤ k) (hb : ∀ j, n ≤ j → j < k → (b.may r c).testBit j = false) (hz : ∀ j, k + 1 ≤ j → (b.may r c).testBit j = false) : OpB (setM b r c (2 ^ k)) := by
  obtain ⟨S, hS⟩ := ho
  have h1 := hS.1 r c hr hc
  have h2 := sol_one hS hr hc
  have e : S r c = k := by
    rcases Nat.lt_trichotomy (S r c) k with q | q | q
    · by_cases p : S r c < n
      · exact absurd ⟨S, h2⟩ (hn _ p h1)
      · rw [hb _ (by omega) q] at h1; cases h1
    · exact q
    · rw [hz _ (by omega)] at h1; cases h1
  rw [← e]
  exact ⟨S, h2⟩
theorem cho_of {b : BdW} {r c n k : Nat} (hn : ∀ j, j < n → (b.may r c).testBit j = true → ¬ OpB (setM b r c (2 ^ j))) (hk : n ≤ k) (hb : ∀ j, n ≤ j → j < k → (b.may r c).testBit j = false) (hm : (b.may r c).testBit k = true) (ho : OpB (setM b r c (2 ^ k))) : ChoW b r c k :=
  ⟨hm, ho, fun j hj hm => by
    by_cases p : j < n
    · exact hn j p hm
    · rw [hb j (by omega) hj] at hm; cases hm⟩
theorem cho_more {b : BdW} {r c n k : Nat} (hn : ∀ j, j < n → (b.may r c).testBit j = true → ¬ OpB (setM b r c (2 ^ j))) (hb : ∀ j, n ≤ j → j < k → (b.may r c).testBit j = false) (no : ¬ OpB (setM b r c (2 ^ k))) : ∀ j, j < k + 1 → (b.may r c).testBit j = true → ¬ OpB (setM b r c (2 ^ j)) := fun j hj hm => by
  by_cases e : j = k
  · rw [e]; exact no
  · by_cases p : j < n
    · exact hn j p hm
    · rw [hb j (by omega) (by omega)] at hm; cases hm
/-- A board of which so many cells are set. -/
def setN (b : BdW) (c : Nat → Nat) (N : Nat) : BdW := ⟨b.t, b.W, b.H, b.ring, fun r q => if r * b.W + q < N then 2 ^ c (r * b.W + q) else b.may r q⟩
/-- While it is filled. -/
structure FilW (b : BdW) (c : Nat → Nat) (N : Nat) : Prop where
  op : OpB (setN b c N)
  lt : ∀ i, i < N → c i < 16
  my : ∀ r q, q < b.W → r * b.W + q < N → (b.may r q).testBit (c (r * b.W + q)) = true
  less : ∀ D, SolB b D → ∀ j, j < N → (∀ i, i < j → D (i / b.W) (i % b.W) = c i) → ¬ D (j / b.W) (j % b.W) < c j
theorem setN_zero (b : BdW) (c : Nat → Nat) : setN b c 0 = b := by
  unfold setN
  simp
theorem FilW.start {b : BdW} (c : Nat → Nat) (h : OpB b) : FilW b c 0 := ⟨by rw [setN_zero]; exact h, fun i h => by omega, fun r q _ h => by omega, fun D _ j h => by omega⟩
theorem placeW {W r q r' q' : Nat} (hq : q < W) (hq' : q' < W) (e : r * W + q = r' * W + q') : r = r' ∧ q = q' := by
  have h1 : (r * W + q) / W = (r' * W + q') / W := by rw [e]
  have h2 : (r * W + q) % W = (r' * W + q') % W := by rw [e]
  have W0 : 0 < W := by omega
  rw [Nat.mul_comm r W, Nat.mul_comm r' W, Nat.mul_add_div W0, Nat.mul_add_div W0, Nat.div_eq_of_lt hq, Nat.div_eq_of_lt hq'] at h1
  rw [Nat.mul_comm r W, Nat.mul_comm r' W, Nat.mul_add_mod, Nat.mul_add_mod, Nat.mod_eq_of_lt hq, Nat.mod_eq_of_lt hq'] at h2
  exact ⟨by omega, h2⟩
theorem setN_succ {b : BdW} {c : Nat → Nat} {r q k : Nat} (hq : q < b.W) (r' q' : Nat) (hq' : q' < b.W) : (setM (setN b c (r * b.W + q)) r q (2 ^ k)).may r' q' = (setN b (upW c (r * b.W + q) k) (r * b.W + q + 1)).may r' q' := by
  show (if r' = r ∧ q' = q then 2 ^ k else if r' * b.W + q' < r * b.W + q then 2 ^ c (r' * b.W + q') else b.may r' q') = (if r' * b.W + q' < r * b.W + q + 1 then 2 ^ upW c (r * b.W + q) k (r' * b.W + q') else b.may r' q')
  by_cases e : r' = r ∧ q' = q
  · rw [if_pos e, e.1, e.2, if_pos (by omega), upW_at]
  · rw [if_neg e]
    have ne : r' * b.W + q' ≠ r * b.W + q := fun h => e (placeW hq' hq h)
    by_cases p : r' * b.W + q' < r * b.W + q
    · rw [if_pos p, if_pos (by omega), upW_other _ ne]
    · rw [if_neg p, if_neg (by omega)]
theorem op_congr {b b' : BdW} (ht : b'.t = b.t) (hW : b'.W = b.W) (hH : b'.H = b.H) (hr : b'.ring = b.ring) (hm : ∀ r q, q < b.W → b'.may r q = b.may r q) (h : OpB b) : OpB b' := by
  obtain ⟨S, h1, h2⟩ := h
  obtain ⟨t', W', H', r', m'⟩ := b'
  cases ht; cases hW; cases hH; cases hr
  exact ⟨S, fun r c hr hc => by rw [hm r c hc]; exact h1 r c hr hc, h2⟩
theorem FilW.next {b : BdW} {c : Nat → Nat} {r q k : Nat} (h : FilW b c (r * b.W + q)) (hq : q < b.W) (hr : r < b.H) (hm : ∀ r c, b.may r c < 65536) (hk : ChoW (setN b c (r * b.W + q)) r q k) : FilW b (upW c (r * b.W + q) k) (r * b.W + q + 1) := by
  obtain ⟨k1, k2, k3⟩ := hk
  have m0 : (setN b c (r * b.W + q)).may r q = b.may r q := if_neg (by omega)
  rw [m0] at k1 k3
  have k16 := bit_lt (hm r q) k1
  refine ⟨op_congr (b := setM (setN b c (r * b.W + q)) r q (2 ^ k)) rfl rfl rfl rfl (fun r' q' h' => (setN_succ hq r' q' h').symm) k2, fun i hi => ?_, fun r' q' h1 h2 => ?_, fun D hD j hj e => ?_⟩
  · by_cases p : i = r * b.W + q
    · rw [p, upW_at]; exact k16
    · rw [upW_other _ p]; exact h.lt i (by omega)
  · by_cases p : r' * b.W + q' = r * b.W + q
    · obtain ⟨rfl, rfl⟩ := placeW h1 hq p
      rw [upW_at]; exact k1
    · rw [upW_other _ p]; exact h.my r' q' h1 (by omega)
  · by_cases p : j = r * b.W + q
    · subst p
      rw [upW_at]
      intro l
      have W0 : 0 < b.W := by omega
      have d1 : (r * b.W + q) / b.W = r := by rw [Nat.mul_comm, Nat.mul_add_div W0, Nat.div_eq_of_lt hq, Nat.add_zero]
      have d2 : (r * b.W + q) % b.W = q := by rw [Nat.mul_comm, Nat.mul_add_mod, Nat.mod_eq_of_lt hq]
      rw [d1, d2] at l
      refine k3 _ l (hD.1 r q hr hq) ⟨D, ?_, hD.2⟩
      intro r' q' h1 h2
      have h2' : q' < b.W := h2
      show (if r' = r ∧ q' = q then 2 ^ D r q else if r' * b.W + q' < r * b.W + q then 2 ^ c (r' * b.W + q') else b.may r' q').testBit (D r' q') = true
      split
      · rename_i s
        rw [s.1, s.2]; simp
      · split
        · rename_i s
          have := e (r' * b.W + q') s
          rw [upW_other _ (by omega)] at this
          have d1 : (r' * b.W + q') / b.W = r' := by rw [Nat.mul_comm, Nat.mul_add_div W0, Nat.div_eq_of_lt h2', Nat.add_zero]
          have d2 : (r' * b.W + q') % b.W = q' := by rw [Nat.mul_comm, Nat.mul_add_mod, Nat.mod_eq_of_lt h2']
          rw [d1, d2] at this
          rw [this]; simp
        · exact hD.1 r' q' h1 h2
    · rw [upW_other _ p]
      exact h.less D hD j (by omega) (fun i hi => by rw [e i hi, upW_other _ (by omega)])
/-- All cells set: they are the first. -/
theorem FilW.sol {b : BdW} {c : Nat → Nat} (h : FilW b c (b.H * b.W)) : FitB b (fun r q => c (r * b.W + q)) := by
  obtain ⟨S, h1, h2⟩ := h.op
  have key : ∀ r q, r < b.H → q < b.W → S r q = c (r * b.W + q) := fun r q hr hq => by
    have := h1 r q hr hq
    have lt : r * b.W + q < b.H * b.W := by
      have : (r + 1) * b.W ≤ b.H * b.W := Nat.mul_le_mul_right _ hr
      rw [Nat.succ_mul] at this
      omega
    have e : (setN b c (b.H * b.W)).may r q = 2 ^ c (r * b.W + q) := if_pos lt
    rw [e, Nat.testBit_two_pow] at this
    exact (of_decide_eq_true this).symm
  intro r q hr hq
  obtain ⟨a1, a2⟩ := h2 r q hr hq
  have W0 : 0 < b.W := by omega
  have H0 : 0 < b.H := by omega
  have l1 : (q + 1) % b.W < b.W := Nat.mod_lt _ W0
  have l2 : (r + 1) % b.H < b.H := Nat.mod_lt _ H0
  have a1' : (inW b r q (S r q)).r = (inW b r ((q + 1) % b.W) (S r ((q + 1) % b.W))).l := a1
  have a2' : (inW b r q (S r q)).d = (inW b ((r + 1) % b.H) q (S ((r + 1) % b.H) q)).u := a2
  rw [key r q hr hq, key r _ hr l1] at a1'
  rw [key r q hr hq, key _ q l2 hq] at a2'
  exact ⟨a1', a2'⟩
/-- Tiles that look otherwise than all ahead of them, as a board is laid. -/
def layM (b : BdW) (n r c : Nat) : Nat → Prop := fun k => k < n ∧ ∀ j, j < k → inW b r c j ≠ inW b r c k
/-- A board as it is laid. -/
structure LaiW (xs : List TlT) (n W H : Nat) (ring : Bool) (b : BdW) : Prop where
  eW : b.W = W
  eH : b.H = H
  er : b.ring = ring
  et : ∀ k, k < n → b.t k = xs.getD k tlz
  em : ∀ r c k, r < H → c < W → ((b.may r c).testBit k = true ↔ layM b n r c k)
/-- Cells fit on the board just where they fit. -/
theorem fit_iff {xs : List TlT} {n W H : Nat} {ring : Bool} {b : BdW} (h : LaiW xs n W H ring b) (hW : 1 ≤ W) (hH : 1 ≤ H) {c : Nat → Nat} (hc : ∀ i, i < W * H → c i < n) : FitB b (fun r q => c (r * W + q)) ↔ ∀ k, k < W * H → okW xs W H ring k c := by
  have pl : ∀ r q, r < H → q < W → r * W + q < W * H := fun r q hr hq => by
    have : (r + 1) * W ≤ H * W := Nat.mul_le_mul_right _ hr
    rw [Nat.succ_mul, Nat.mul_comm H W] at this
    omega
  have tt : ∀ r q, r < H → q < W → b.t (c (r * W + q)) = xs.getD (c (r * W + q)) tlz := fun r q hr hq => h.et _ (hc _ (pl r q hr hq))
  constructor
  · intro F k hk
    obtain ⟨x, hx⟩ : ∃ x, k % W = x := ⟨_, rfl⟩
    obtain ⟨y, hy⟩ : ∃ y, k / W = y := ⟨_, rfl⟩
    have xW : x < W := by rw [← hx]; exact Nat.mod_lt _ (by omega)
    have yH : y < H := by rw [← hy]; exact Nat.div_lt_of_lt_mul hk
    have e : k = y * W + x := by rw [← hx, ← hy, Nat.mul_comm]; exact (Nat.div_add_mod k W).symm
    unfold okW
    rw [hx, hy]
    refine ⟨fun h0 => ?_, fun h0 => ?_, fun hr h0 => ?_, fun hr h0 => ?_⟩
    · obtain ⟨x', rfl⟩ : ∃ x', x = x' + 1 := ⟨x - 1, by omega⟩
      have f := (F y x' (by rw [h.eH]; exact yH) (by rw [h.eW]; omega)).1
      rw [h.eW, Nat.mod_eq_of_lt (by omega)] at f
      have q1 : ¬ x' + 1 = b.W := by rw [h.eW]; omega
      have q2 : ¬ x' + 1 = 0 := by omega
      rw [show k - 1 = y * W + x' by omega, ← tt y x' yH (by omega), e, ← tt y (x' + 1) yH xW]
      unfold inW at f
      simp only [q1, q2, if_false] at f
      split at f <;> exact f
    · obtain ⟨y', rfl⟩ : ∃ y', y = y' + 1 := ⟨y - 1, by omega⟩
      have f := (F y' x (by rw [h.eH]; omega) (by rw [h.eW]; exact xW)).2
      rw [h.eH, Nat.mod_eq_of_lt (by omega)] at f
      have q1 : ¬ y' + 1 = b.H := by rw [h.eH]; omega
      have q2 : ¬ y' + 1 = 0 := by omega
      have e' : k - W = y' * W + x := by rw [e, Nat.succ_mul]; omega
      rw [e', ← tt y' x (by omega) xW, e, ← tt (y' + 1) x yH xW]
      unfold inW at f
      simp only [q1, q2, if_false] at f
      split at f <;> exact f
    · have f := (F y x (by rw [h.eH]; exact yH) (by rw [h.eW]; exact xW)).1
      rw [h.eW, h0, Nat.mod_self] at f
      have rb : b.ring = true := by rw [h.er]; exact hr
      rw [show k - x = y * W + 0 by omega, ← tt y 0 yH (by omega), e, ← tt y x yH xW]
      unfold inW at f
      simp only [rb, if_true] at f
      exact f
    · have f := (F y x (by rw [h.eH]; exact yH) (by rw [h.eW]; exact xW)).2
      rw [h.eH, h0, Nat.mod_self] at f
      have rb : b.ring = true := by rw [h.er]; exact hr
      have e0 : x = 0 * W + x := by omega
      rw [e, ← tt y x yH xW]
      have t0 := tt 0 x (by omega) xW
      rw [← e0] at t0
      rw [← t0]
      unfold inW at f
      simp only [rb, if_true, ← e0] at f
      exact f
  · intro O r q hr hq
    rw [h.eH] at hr
    rw [h.eW] at hq
    have W0 : 0 < W := by omega
    have dv : ∀ y x, x < W → (y * W + x) / W = y ∧ (y * W + x) % W = x := fun y x hx => ⟨by rw [Nat.mul_comm, Nat.mul_add_div W0, Nat.div_eq_of_lt hx, Nat.add_zero], by rw [Nat.mul_comm, Nat.mul_add_mod, Nat.mod_eq_of_lt hx]⟩
    rw [h.eW, h.eH]
    refine ⟨?_, ?_⟩
    · by_cases l : q + 1 = W
      · rw [l, Nat.mod_self]
        cases hg : ring with
        | true =>
          have o := (O _ (pl r q hr hq)).2.2.1 hg (by rw [(dv r q hq).2]; exact l)
          rw [(dv r q hq).2, show r * W + q - q = r * W + 0 by omega, ← tt r q hr hq, ← tt r 0 hr (by omega)] at o
          have rb : b.ring = true := by rw [h.er]; exact hg
          unfold inW
          simp only [rb, if_true]
          exact o
        | false =>
          have rb : ¬ b.ring = true := by rw [h.er, hg]; simp
          have l' : q + 1 = b.W := by rw [h.eW]; exact l
          unfold inW
          simp only [rb, if_false, l', if_true]
          rfl
      · rw [Nat.mod_eq_of_lt (show q + 1 < W by omega)]
        have o := (O _ (pl r (q + 1) hr (by omega))).1 (by rw [(dv r (q + 1) (by omega)).2]; omega)
        rw [show r * W + (q + 1) - 1 = r * W + q by omega, ← tt r q hr hq, ← tt r (q + 1) hr (by omega)] at o
        have q1 : ¬ q + 1 = b.W := by rw [h.eW]; exact l
        have q2 : ¬ q + 1 = 0 := by omega
        unfold inW
        simp only [q1, q2, if_false]
        split <;> exact o
    · by_cases l : r + 1 = H
      · rw [l, Nat.mod_self]
        cases hg : ring with
        | true =>
          have o := (O _ (pl r q hr hq)).2.2.2 hg (by rw [(dv r q hq).1]; exact l)
          have e0 : q = 0 * W + q := by omega
          have t0 := tt 0 q (by omega) hq
          rw [← e0] at t0
          rw [(dv r q hq).2, ← tt r q hr hq, ← t0] at o
          have rb : b.ring = true := by rw [h.er]; exact hg
          unfold inW
          simp only [rb, if_true, ← e0]
          exact o
        | false =>
          have rb : ¬ b.ring = true := by rw [h.er, hg]; simp
          have l' : r + 1 = b.H := by rw [h.eH]; exact l
          unfold inW
          simp only [rb, if_false, l', if_true]
          rfl
      · rw [Nat.mod_eq_of_lt (show r + 1 < H by omega)]
        have o := (O _ (pl (r + 1) q (by omega) hq)).2.1 (by rw [(dv (r + 1) q hq).1]; omega)
        have e' : (r + 1) * W + q - W = r * W + q := by rw [Nat.succ_mul]; omega
        rw [e', ← tt r q hr hq, ← tt (r + 1) q (by omega) hq] at o
        have q1 : ¬ r + 1 = b.H := by rw [h.eH]; exact l
        have q2 : ¬ r + 1 = 0 := by omega
        unfold inW
        simp only [q1, q2, if_false]
        split <;> exact o
end Go.Proofs.YthmeapplnocfjaaDoor

namespace Go.Proofs.YthmeapplnocfjaaDoor
set_option linter.unusedVariables false
set_option linter.unusedSimpArgs false
/-- The first tile that looks so. -/
theorem likeW (b : BdW) (r q : Nat) : ∀ k, ∃ j, j ≤ k ∧ inW b r q j = inW b r q k ∧ ∀ i, i < j → inW b r q i ≠ inW b r q j := fun k => by
  induction k using Nat.strongRecOn with
  | _ k ih =>
    by_cases h : ∃ i, i < k ∧ inW b r q i = inW b r q k
    · obtain ⟨i, hi, e⟩ := h
      obtain ⟨j, h1, h2, h3⟩ := ih i hi
      exact ⟨j, by omega, h2.trans e, h3⟩
    · exact ⟨k, Nat.le_refl _, rfl, fun i hi e => h ⟨i, hi, e⟩⟩
theorem canonW {xs : List TlT} {n W H : Nat} {ring : Bool} {b : BdW} (h : LaiW xs n W H ring b) (hW : 1 ≤ W) (hH : 1 ≤ H) {d : Nat → Nat} (hd : SolW n (W * H) (okW xs W H ring) d) : ∃ D : Nat → Nat → Nat, SolB b D ∧ ∀ r q, D r q ≤ d (r * W + q) ∧ inW b r q (D r q) = inW b r q (d (r * W + q)) ∧ ∀ i, i < D r q → inW b r q i ≠ inW b r q (D r q) := by
  let D : Nat → Nat → Nat := fun r q => Classical.choose (likeW b r q (d (r * W + q)))
  have hD : ∀ r q, D r q ≤ d (r * W + q) ∧ inW b r q (D r q) = inW b r q (d (r * W + q)) ∧ ∀ i, i < D r q → inW b r q i ≠ inW b r q (D r q) := fun r q => Classical.choose_spec (likeW b r q (d (r * W + q)))
  have F := (fit_iff h hW hH (fun i hi => (hd i hi).1)).2 (fun k hk => (hd k hk).2)
  refine ⟨D, ⟨fun r q hr hq => ?_, fun r q hr hq => ?_⟩, hD⟩
  · rw [h.eH] at hr
    rw [h.eW] at hq
    refine (h.em r q _ hr hq).2 ⟨?_, (hD r q).2.2⟩
    have pl : r * W + q < W * H := by
      have : (r + 1) * W ≤ H * W := Nat.mul_le_mul_right _ hr
      rw [Nat.succ_mul, Nat.mul_comm H W] at this
      omega
    have := (hd _ pl).1
    have := (hD r q).1
    omega
  · have f := F r q hr hq
    rw [(hD r q).2.1, (hD r _).2.1, (hD _ q).2.1]
    exact f
theorem none_of {xs : List TlT} {n W H : Nat} {ring : Bool} {b : BdW} (h : LaiW xs n W H ring b) (hW : 1 ≤ W) (hH : 1 ≤ H) (no : ¬ OpB b) : NoneW n (W * H) (okW xs W H ring) := fun d hd => by
  obtain ⟨D, hD, _⟩ := canonW h hW hH hd
  exact no ⟨D, hD⟩
theorem first_of {xs : List TlT} {n W H : Nat} {ring : Bool} {b : BdW} (h : LaiW xs n W H ring b) (hW : 1 ≤ W) (hH : 1 ≤ H) {c : Nat → Nat} (F : FilW b c (b.H * b.W)) : FirstW n (W * H) (okW xs W H ring) c := by
  have eN : b.H * b.W = W * H := by rw [h.eW, h.eH, Nat.mul_comm]
  have W0 : 0 < W := by omega
  have pq : ∀ i, i < W * H → i / W < H ∧ i % W < W ∧ i / W * W + i % W = i := fun i hi => ⟨Nat.div_lt_of_lt_mul hi, Nat.mod_lt _ W0, by rw [Nat.mul_comm]; exact Nat.div_add_mod i W⟩
  have my : ∀ i, i < W * H → layM b n (i / W) (i % W) (c i) := fun i hi => by
    obtain ⟨p1, p2, p3⟩ := pq i hi
    have := F.my (i / W) (i % W) (by rw [h.eW]; exact p2) (by rw [eN, h.eW, p3]; exact hi)
    rw [h.eW, p3] at this
    exact (h.em _ _ _ p1 p2).1 this
  have cn : ∀ i, i < W * H → c i < n := fun i hi => (my i hi).1
  have ft : FitB b (fun r q => c (r * W + q)) := by have := F.sol; rw [h.eW] at this; exact this
  refine ⟨fun i hi => ⟨cn i hi, (fit_iff h hW hH cn).1 ft i hi⟩, fun d hd => ?_⟩
  obtain ⟨D, hD, hl⟩ := canonW h hW hH hd
  -- the first place that differs
  have key : ∀ m, m ≤ W * H → (∀ i, i < m → d i = c i) ∨ ∃ j, j < m ∧ (∀ i, i < j → d i = c i) ∧ c j < d j := by
    intro m
    induction m with
    | zero => exact fun _ => Or.inl (fun i hi => by omega)
    | succ m ih =>
      intro hm
      rcases ih (by omega) with e | ⟨j, hj, e, l⟩
      · rcases Nat.lt_trichotomy (d m) (c m) with q | q | q
        · exfalso
          have same : ∀ i, i < m → D (i / W) (i % W) = c i := fun i hi => by
            obtain ⟨p1, p2, p3⟩ := pq i (by omega)
            obtain ⟨l1, l2, l3⟩ := hl (i / W) (i % W)
            rw [p3, e i hi] at l1 l2
            have mi := (my i (by omega)).2
            rcases Nat.lt_or_ge (D (i / W) (i % W)) (c i) with q | q
            · exact absurd l2 (mi _ q)
            · omega
          have lt := F.less D hD m (by rw [eN]; omega) (by rw [h.eW]; exact same)
          rw [h.eW] at lt
          obtain ⟨p1, p2, p3⟩ := pq m (by omega)
          have l1 := (hl (m / W) (m % W)).1
          rw [p3] at l1
          omega
        · refine Or.inl (fun i hi => ?_)
          by_cases im : i = m
          · rw [im, q]
          · exact e i (by omega)
        · exact Or.inr ⟨m, by omega, e, q⟩
      · exact Or.inr ⟨j, by omega, e, l⟩
  exact key _ (Nat.le_refl _)
end Go.Proofs.YthmeapplnocfjaaDoor

namespace Go.Proofs.YthmeapplnocfjaaDoor
open Go.RowKit
set_option linter.unusedVariables false
set_option linter.unusedSimpArgs false

/-- The library's table as it is laid. -/
def TzTab (w : World) : Prop := ∀ j, j < 64 → w.cell? ⟨2, j, none⟩ = some (.int .u8 (Lib.deBruijn64tab.getD j 0))
theorem tz_lt {w : World} (h : TzTab w) : 2 < w.heap.size := by
  rcases Nat.lt_or_ge 2 w.heap.size with k | k
  · exact k
  · have := h 0 (by omega); simp [World.cell?, Array.getElem?_eq_none k] at this
theorem TzTab.below {w w' : World} (h : TzTab w) (hb : Below w.heap.size w w') : TzTab w' := fun j hj => (World.cell?_of_block (w := w) (a := ⟨2, j, none⟩) (hb.block _ (tz_lt h))).trans (h j hj)
theorem tz_key' (x a : Nat) (hx : x < 18446744073709551616) (hx0 : x ≠ 0) (hlow : x &&& (18446744073709551616 - x) = a) :
    IntKind.u64.wrap (bits BinOp.and IntKind.u64 (x : Int) (IntKind.u64.wrap (-(x : Int))) * 285870213051353865) / 288230376151711744 = ((a * 285870213051353865 % 18446744073709551616 / 288230376151711744 : Nat) : Int) := by
  have e1 : IntKind.u64.wrap (-(x : Int)) = ((18446744073709551616 - x : Nat) : Int) := by rw [IntKind.wrap_u64]; omega
  rw [e1, bits_and_u64_nat x _ hx (by omega), hlow, IntKind.wrap_u64]
  omega
/-- The lowest bit, told by its number. -/
theorem ctz_low {x : Nat} (h0 : 0 < x) (h : x < 2 ^ 64) : x.testBit (Lib.ctz 64 x) = true ∧ ∀ j, j < Lib.ctz 64 x → x.testBit j = false := by
  obtain ⟨m, hm, _⟩ := Lib.ctzFrom_spec 64 x h0 h
  have hc : Lib.ctz 64 x = Lib.ctzFrom 64 x := by unfold Lib.ctz; rw [if_neg (by omega)]
  rw [hc]
  obtain ⟨k, hk⟩ : ∃ k, Lib.ctzFrom 64 x = k := ⟨_, rfl⟩
  rw [hk] at hm ⊢
  have e : x = 2 ^ k * (2 * m + 1) + 0 := by omega
  have hp : 0 < 2 ^ k := Nat.pow_pos (by omega)
  refine ⟨by rw [e, Nat.testBit_two_pow_mul_add _ hp]; simp, fun j hj => by rw [e, Nat.testBit_two_pow_mul_add _ hp, if_pos hj]; simp⟩

set_option maxRecDepth 100000 in
set_option maxHeartbeats 6400000 in
theorem tz64_any (x : Nat) (w : World) (hx0 : 0 < x) (hx : x < 18446744073709551616) (hT : TzTab w) :
    Calls Tryd.prog 50 #[.int .u64 (x : Int)] w fun e w' => e = .returned (.int .i64 ((Lib.ctz 64 x : Nat) : Int)) ∧ w' = w := by
  obtain ⟨hlow, hk⟩ := Lib.lowest_bit 64 x (by omega) hx
  obtain ⟨hi, htab⟩ := Lib.deBruijn64_at _ hk
  have hcell := hT _ hi
  rw [htab] at hcell
  have key := tz_key' x _ hx (by omega) hlow
  have xz : ((x : Int) == 0) = false := by rw [beq_eq_false_iff_ne]; omega
  obtain ⟨idx, hidx⟩ : ∃ idx, 2 ^ Lib.ctz 64 x * 285870213051353865 % 18446744073709551616 / 288230376151711744 = idx := ⟨_, rfl⟩
  rw [hidx] at hi hcell key
  obtain ⟨k, hkk⟩ : ∃ k, Lib.ctz 64 x = k := ⟨_, rfl⟩
  rw [hkk] at hcell hk ⊢
  clear hlow htab hidx hkk
  go_enter Tryd.func50, Tryd.ntmps50
  go_wp2_with (simp only [key])
  go_ret
  exact ⟨rfl, rfl⟩

set_option maxRecDepth 100000 in
set_option maxHeartbeats 6400000 in
theorem tz_any (x : Nat) (w : World) (hx0 : 0 < x) (hx : x < 18446744073709551616) (hT : TzTab w) :
    Calls Tryd.prog 41 #[.int .u64 (x : Int)] w fun e w' => e = .returned (.int .i64 ((Lib.ctz 64 x : Nat) : Int)) ∧ w' = w := by
  have C := hide' (tz64_any x w hx0 hx hT)
  go_enter Tryd.func41, Tryd.ntmps41
  go_wp2_with fail
  refine (show Calls Tryd.prog _ _ _ _ from C.out).mono ?_
  rintro e w' ⟨rfl, rfl⟩
  go_wp2
  go_ret
  exact ⟨rfl, rfl⟩

end Go.Proofs.YthmeapplnocfjaaDoor

