/-
  What the last text of this claim leans on, part 8: Ba1, Ba2, Bb1, Bc1, Bc2, In1, Pa11, Pa12, Da4.
-/
import Derived.Test.YtjngjnkecnnmeaaDoorJ3
import Derived.Test.YtjngjnkecnnmeaaDoorJ2
import Derived.Test.YtjngjnkecnnmeaaDoorJ6
import Derived.Test.YtjngjnkecnnmeaaDoorJ7
namespace Go.Proofs.YtjngjnkecnnmeaaDoor
set_option linter.unusedVariables false

theorem pat_at {p q : Pat} (hp : p.ok) (hq : q.ok) (hW : p.W = q.W) (hH : p.H = q.H) (h : ∀ x y, x < p.W → y < p.H → atP p.W p.xs x y = atP q.W q.xs x y) : p = q := by
  obtain ⟨W, H, xs⟩ := p
  obtain ⟨W', H', ys⟩ := q
  dsimp only at hW hH h
  subst hW hH
  congr 1
  exact list_at hp hq h
theorem mir_ok (p : Pat) : p.mir.ok := mirP_length _ _ _
theorem qtr_ok (p : Pat) : p.qtr.ok := qtrP_length _ _ _
theorem mirAt (p : Pat) (x y : Nat) (hx : x < p.W) (hy : y < p.H) : atP p.mir.W p.mir.xs x y = atP p.W p.xs (p.W - 1 - x) y := mir_at _ _ _ _ _ hx hy
theorem qtrAt (p : Pat) (x y : Nat) (hx : x < p.H) (hy : y < p.W) : atP p.qtr.W p.qtr.xs x y = atP p.W p.xs y (p.H - 1 - x) := qtr_at _ _ _ _ _ hx hy
theorem mir_mir (p : Pat) (hp : p.ok) : p.mir.mir = p := by
  refine pat_at (mir_ok _) hp rfl rfl fun x y hx hy => ?_
  have hx' : x < p.W := hx
  refine (mirAt p.mir x y hx hy).trans ((mirAt p _ _ (show p.W - 1 - x < p.W by omega) hy).trans ?_)
  rw [show p.W - 1 - (p.W - 1 - x) = x by omega]
theorem qtr_two (p : Pat) (x y : Nat) (hx : x < p.W) (hy : y < p.H) : atP p.qtr.qtr.W p.qtr.qtr.xs x y = atP p.W p.xs (p.W - 1 - x) (p.H - 1 - y) := by
  exact (qtrAt p.qtr x y hx hy).trans (qtrAt p _ _ hy (show p.W - 1 - x < p.W by omega))
theorem qtr_four (p : Pat) (hp : p.ok) : p.qtr.qtr.qtr.qtr = p := by
  refine pat_at (qtr_ok _) hp rfl rfl fun x y hx hy => ?_
  have hx' : x < p.W := hx
  have hy' : y < p.H := hy
  rw [qtr_two p.qtr.qtr x y hx hy]
  show atP p.qtr.qtr.W p.qtr.qtr.xs (p.W - 1 - x) (p.H - 1 - y) = _
  rw [qtr_two p _ _ (by omega) (by omega)]
  rw [show p.W - 1 - (p.W - 1 - x) = x by omega, show p.H - 1 - (p.H - 1 - y) = y by omega]
theorem qtr_mir (p : Pat) (hp : p.ok) : p.qtr.mir.qtr = p.mir := by
  refine pat_at (qtr_ok _) (mir_ok _) rfl rfl fun x y hx hy => ?_
  have hx' : x < p.W := hx
  have hy' : y < p.H := hy
  refine (qtrAt p.qtr.mir x y hx hy).trans ((mirAt p.qtr _ _ hy (show p.W - 1 - x < p.W by omega)).trans ?_)
  refine (qtrAt p (p.H - 1 - y) (p.W - 1 - x) (by omega) (by omega)).trans ?_
  rw [mirAt p x y hx' hy']
  rw [show p.H - 1 - (p.H - 1 - y) = y by omega]
theorem turn_ok (p : Pat) (hp : p.ok) (k : Nat) : (p.turn k).ok := by
  unfold Pat.turn
  have h : (if 4 ≤ k then p.mir else p).ok := by split; exact mir_ok p; exact hp
  cases k % 4 with
  | zero => exact h
  | succ j => exact qtr_ok _
/-- What mirrors first and turns then, the other way round. -/
theorem mir_qtr (p : Pat) (hp : p.ok) : p.qtr.mir = p.mir.qtr.qtr.qtr := by
  have h := qtr_mir p hp
  rw [← qtr_four p.qtr.mir (mir_ok _), h]
def Pat.near (p q : Pat) : Prop := ∃ k, k < 8 ∧ q = p.turn k
theorem near_self (p : Pat) : p.near p := ⟨0, by omega, rfl⟩
theorem near_cases {p q : Pat} : p.near q ↔ q = p ∨ q = p.qtr ∨ q = p.qtr.qtr ∨ q = p.qtr.qtr.qtr ∨ q = p.mir ∨ q = p.mir.qtr ∨ q = p.mir.qtr.qtr ∨ q = p.mir.qtr.qtr.qtr := by
  constructor
  · rintro ⟨k, hk, rfl⟩
    rcases (by omega : k = 0 ∨ k = 1 ∨ k = 2 ∨ k = 3 ∨ k = 4 ∨ k = 5 ∨ k = 6 ∨ k = 7) with rfl | rfl | rfl | rfl | rfl | rfl | rfl | rfl <;> simp [Pat.turn, Pat.rot]
  · rintro (rfl | rfl | rfl | rfl | rfl | rfl | rfl | rfl)
    · exact ⟨0, by omega, rfl⟩
    · exact ⟨1, by omega, rfl⟩
    · exact ⟨2, by omega, rfl⟩
    · exact ⟨3, by omega, rfl⟩
    · exact ⟨4, by omega, rfl⟩
    · exact ⟨5, by omega, rfl⟩
    · exact ⟨6, by omega, rfl⟩
    · exact ⟨7, by omega, rfl⟩
theorem near_qtr {p q : Pat} (hp : p.ok) (h : p.near q) : p.near q.qtr := by
  rcases near_cases.1 h with rfl | rfl | rfl | rfl | rfl | rfl | rfl | rfl
  · exact ⟨1, by omega, rfl⟩
  · exact ⟨2, by omega, rfl⟩
  · exact ⟨3, by omega, rfl⟩
  · rw [qtr_four p hp]; exact near_self p
  · exact ⟨5, by omega, rfl⟩
  · exact ⟨6, by omega, rfl⟩
  · exact ⟨7, by omega, rfl⟩
  · rw [qtr_four p.mir (mir_ok _)]; exact ⟨4, by omega, rfl⟩
theorem mir_qtr3 (p : Pat) (hp : p.ok) : p.qtr.qtr.qtr.mir = p.mir.qtr := by
  rw [mir_qtr p.qtr.qtr (qtr_ok _), mir_qtr p.qtr (qtr_ok _), mir_qtr p hp, qtr_four p.mir.qtr.qtr.qtr.qtr.qtr (qtr_ok _), qtr_four p.mir.qtr (qtr_ok _)]
theorem mir_qtr2 (p : Pat) (hp : p.ok) : p.qtr.qtr.mir = p.mir.qtr.qtr := by
  rw [mir_qtr p.qtr (qtr_ok _), mir_qtr p hp, qtr_four p.mir.qtr.qtr (qtr_ok _)]
theorem near_mir {p q : Pat} (hp : p.ok) (h : p.near q) : p.near q.mir := by
  rcases near_cases.1 h with rfl | rfl | rfl | rfl | rfl | rfl | rfl | rfl
  · exact ⟨4, by omega, rfl⟩
  · rw [mir_qtr p hp]; exact ⟨7, by omega, rfl⟩
  · rw [mir_qtr2 p hp]; exact ⟨6, by omega, rfl⟩
  · rw [mir_qtr3 p hp]; exact ⟨5, by omega, rfl⟩
  · rw [mir_mir p hp]; exact near_self p
  · rw [mir_qtr p.mir (mir_ok _), mir_mir p hp]; exact ⟨3, by omega, rfl⟩
  · rw [mir_qtr2 p.mir (mir_ok _), mir_mir p hp]; exact ⟨2, by omega, rfl⟩
  · rw [mir_qtr3 p.mir (mir_ok _), mir_mir p hp]; exact ⟨1, by omega, rfl⟩
theorem near_turn {p q : Pat} (hp : p.ok) (h : p.near q) (k : Nat) (hk : k < 8) : p.near (q.turn k) := by
  have a1 := near_qtr hp h
  have a2 := near_qtr hp a1
  have a3 := near_qtr hp a2
  have b0 := near_mir hp h
  have b1 := near_qtr hp b0
  have b2 := near_qtr hp b1
  have b3 := near_qtr hp b2
  rcases (by omega : k = 0 ∨ k = 1 ∨ k = 2 ∨ k = 3 ∨ k = 4 ∨ k = 5 ∨ k = 6 ∨ k = 7) with rfl | rfl | rfl | rfl | rfl | rfl | rfl | rfl
  · exact h
  · exact a1
  · exact a2
  · exact a3
  · exact b0
  · exact b1
  · exact b2
  · exact b3
/-- What undoes a turn. -/
def undo (k : Nat) : Nat := if k < 4 then (4 - k) % 4 else k
theorem turn_undo (p : Pat) (hp : p.ok) (k : Nat) (hk : k < 8) : (p.turn k).turn (undo k) = p := by
  rcases (by omega : k = 0 ∨ k = 1 ∨ k = 2 ∨ k = 3 ∨ k = 4 ∨ k = 5 ∨ k = 6 ∨ k = 7) with rfl | rfl | rfl | rfl | rfl | rfl | rfl | rfl
  · rfl
  · exact qtr_four p hp
  · exact qtr_four p hp
  · exact qtr_four p hp
  · exact mir_mir p hp
  · show p.mir.qtr.mir.qtr = p
    rw [qtr_mir p.mir (mir_ok _), mir_mir p hp]
  · show p.mir.qtr.qtr.mir.qtr.qtr = p
    rw [qtr_mir p.mir.qtr (qtr_ok _), qtr_mir p.mir (mir_ok _), mir_mir p hp]
  · show p.mir.qtr.qtr.qtr.mir.qtr.qtr.qtr = p
    rw [qtr_mir p.mir.qtr.qtr (qtr_ok _), qtr_mir p.mir.qtr (qtr_ok _), qtr_mir p.mir (mir_ok _), mir_mir p hp]
theorem undo_lt {k : Nat} (hk : k < 8) : undo k < 8 := by unfold undo; split <;> omega
theorem near_same {p q r : Pat} (hp : p.ok) (hq : q.ok) (h : p.near q) : p.near r ↔ q.near r := by
  obtain ⟨k, hk, rfl⟩ := h
  constructor
  · rintro ⟨j, hj, rfl⟩
    have : (p.turn k).near p := ⟨undo k, undo_lt hk, (turn_undo p hp k hk).symm⟩
    exact near_turn hq this j hj
  · rintro ⟨j, hj, rfl⟩
    exact near_turn hp ⟨k, hk, rfl⟩ j hj

/-! The order of patterns. -/
theorem lex_irr : ∀ a : List Int, lexF a a = 0
  | [] => rfl
  | x :: xs => by rw [lexF, if_neg (by omega), if_neg (by omega)]; exact lex_irr xs
theorem lex_trans : ∀ a b c : List Int, lexF a b < 0 → lexF b c < 0 → lexF a c < 0
  | [], [], c, h, _ => by simp [lexF] at h
  | [], _ :: _, [], _, h => by simp [lexF] at h
  | [], _ :: _, _ :: _, _, _ => by simp [lexF]
  | _ :: _, [], c, h, _ => by simp [lexF] at h
  | _ :: _, _ :: _, [], _, h => by simp [lexF] at h
  | x :: xs, y :: ys, z :: zs, h1, h2 => by
    rw [lexF] at h1 h2 ⊢
    by_cases a1 : x < y
    · by_cases a2 : y < z
      · rw [if_pos (by omega)]; omega
      · rw [if_neg a2] at h2
        by_cases a3 : z < y
        · rw [if_pos a3] at h2; omega
        · rw [if_pos (by omega)]; omega
    · rw [if_neg a1] at h1
      by_cases a2 : y < x
      · rw [if_pos a2] at h1; omega
      · rw [if_neg a2] at h1
        by_cases a3 : y < z
        · rw [if_pos (by omega)]; omega
        · rw [if_neg a3] at h2
          by_cases a4 : z < y
          · rw [if_pos a4] at h2; omega
          · rw [if_neg a4] at h2
            rw [if_neg (by omega), if_neg (by omega)]
            exact lex_trans xs ys zs h1 h2
theorem lex_eq : ∀ a b : List Int, ¬ lexF a b < 0 → ¬ lexF b a < 0 → a = b
  | [], [], _, _ => rfl
  | [], _ :: _, h, _ => by simp [lexF] at h
  | _ :: _, [], _, h => by simp [lexF] at h
  | x :: xs, y :: ys, h1, h2 => by
    rw [lexF] at h1 h2
    by_cases a1 : x < y
    · rw [if_pos a1] at h1; omega
    · by_cases a2 : y < x
      · rw [if_pos a2] at h2; omega
      · rw [if_neg a1, if_neg a2] at h1
        rw [if_neg a2, if_neg a1] at h2
        rw [lex_eq xs ys h1 h2, show x = y by omega]
def keyP (p : Pat) : List Int := (p.H : Int) :: (p.W : Int) :: p.xs
theorem cmp_key (p q : Pat) : cmpP p q = lexF (keyP p) (keyP q) := by
  unfold cmpP keyP orI cmpI
  rw [lexF, lexF]
  by_cases a1 : (p.H : Int) < q.H
  · simp [a1]
  · by_cases a2 : (q.H : Int) < p.H
    · simp [a1, a2]
    · by_cases a3 : (p.W : Int) < q.W
      · simp [a1, a2, a3]
      · by_cases a4 : (q.W : Int) < p.W
        · simp [a1, a2, a3, a4]
        · simp [a1, a2, a3, a4]
theorem key_inj {p q : Pat} (h : keyP p = keyP q) : p = q := by
  obtain ⟨W, H, xs⟩ := p
  obtain ⟨W', H', ys⟩ := q
  unfold keyP at h
  injection h with h1 h2
  injection h2 with h2 h3
  dsimp only at h1 h2 h3
  rw [h3, show H = H' by omega, show W = W' by omega]
theorem best_min (q : Pat) : ∀ k, ∀ j, j ≤ k → ¬ cmpP (q.turn j) (bestP q k) < 0 := by
  intro k
  induction k with
  | zero =>
    intro j hj
    obtain rfl : j = 0 := by omega
    show ¬ cmpP q q < 0
    rw [cmp_key, lex_irr]; omega
  | succ k ih =>
    intro j hj
    rw [bestP]
    by_cases c : cmpP (q.turn (k + 1)) (bestP q k) < 0
    · rw [if_pos (by simp [aheadB, c])]
      by_cases e : j = k + 1
      · rw [e, cmp_key, lex_irr]; omega
      · intro h
        refine ih j (by omega) ?_
        rw [cmp_key] at h c ⊢
        exact lex_trans _ _ _ h c
    · rw [if_neg (by simp [aheadB, c])]
      by_cases e : j = k + 1
      · rw [e]; exact c
      · exact ih j (by omega)
theorem best_near (q : Pat) : ∀ k, k < 8 → q.near (bestP q k) := by
  intro k
  induction k with
  | zero => intro _; exact near_self q
  | succ k ih =>
    intro hk
    rw [bestP]
    split
    · exact ⟨k + 1, hk, rfl⟩
    · exact ih (by omega)
theorem best_same {p q : Pat} (hp : p.ok) (hq : q.ok) (h : p.near q) : bestP p 7 = bestP q 7 := by
  obtain ⟨i, hi, ei⟩ := (near_same hp hq h).2 (best_near q 7 (by omega))
  obtain ⟨j, hj, ej⟩ := (near_same hp hq h).1 (best_near p 7 (by omega))
  have m1 := best_min p 7 i (by omega)
  have m2 := best_min q 7 j (by omega)
  rw [← ei, cmp_key] at m1
  rw [← ej, cmp_key] at m2
  exact key_inj (lex_eq _ _ m2 m1)
end Go.Proofs.YtjngjnkecnnmeaaDoor

namespace Go.Proofs.YtjngjnkecnnmeaaDoor
set_option linter.unusedVariables false

/-! Trimmed and turned. -/
def live (p : Pat) (x y : Nat) : Prop := x < p.W ∧ y < p.H ∧ atP p.W p.xs x y = 1
structure IsBx (p : Pat) (l t r b : Nat) : Prop where
  le : ∀ x y, live p x y → l ≤ x ∧ t ≤ y ∧ x < r ∧ y < b
  hl : ∃ y, live p l y
  ht : ∃ x, live p x t
  hr : ∃ x y, live p x y ∧ r = x + 1
  hb : ∃ x y, live p x y ∧ b = y + 1
theorem IsBx.unique {p : Pat} {l t r b l' t' r' b' : Nat} (h : IsBx p l t r b) (h' : IsBx p l' t' r' b') : l = l' ∧ t = t' ∧ r = r' ∧ b = b' := by
  obtain ⟨y1, a1⟩ := h.hl
  obtain ⟨x2, a2⟩ := h.ht
  obtain ⟨x3, y3, a3, e3⟩ := h.hr
  obtain ⟨x4, y4, a4, e4⟩ := h.hb
  obtain ⟨y5, a5⟩ := h'.hl
  obtain ⟨x6, a6⟩ := h'.ht
  obtain ⟨x7, y7, a7, e7⟩ := h'.hr
  obtain ⟨x8, y8, a8, e8⟩ := h'.hb
  have b1 := h'.le _ _ a1
  have b2 := h'.le _ _ a2
  have b3 := h'.le _ _ a3
  have b4 := h'.le _ _ a4
  have b5 := h.le _ _ a5
  have b6 := h.le _ _ a6
  have b7 := h.le _ _ a7
  have b8 := h.le _ _ a8
  omega
/-- What the box of the first m cells is. -/
theorem bbx_is (p : Pat) : ∀ m, m ≤ p.W * p.H →
    ((∀ i, i < m → ¬ p.xs.getD i 0 = 1) ∧ bbx p.W p.H p.xs m = ⟨p.W, p.H, 0, 0⟩) ∨
    (∃ l t r b, bbx p.W p.H p.xs m = ⟨l, t, r, b⟩ ∧ (∀ i, i < m → p.xs.getD i 0 = 1 → l ≤ i % p.W ∧ t ≤ i / p.W ∧ i % p.W < r ∧ i / p.W < b) ∧ (∃ i, i < m ∧ p.xs.getD i 0 = 1 ∧ i % p.W = l) ∧ (∃ i, i < m ∧ p.xs.getD i 0 = 1 ∧ i / p.W = t) ∧ (∃ i, i < m ∧ p.xs.getD i 0 = 1 ∧ r = i % p.W + 1) ∧ (∃ i, i < m ∧ p.xs.getD i 0 = 1 ∧ b = i / p.W + 1)) := by
  intro m
  induction m with
  | zero => intro _; exact Or.inl ⟨fun i hi => by omega, rfl⟩
  | succ m ih =>
    intro hm
    by_cases q : p.xs.getD m 0 = 1
    · right
      rw [bbx_yes q]
      rcases ih (by omega) with ⟨h1, h2⟩ | ⟨l, t, r, b, h0, h1, ⟨i1, c1, d1, e1⟩, ⟨i2, c2, d2, e2⟩, ⟨i3, c3, d3, e3⟩, ⟨i4, c4, d4, e4⟩⟩
      · rw [h2]
        obtain ⟨x, y, hx, hy, ex, ey, -⟩ := split_lt (W := p.W) (H := p.H) (i := m) (by omega)
        refine ⟨m % p.W, m / p.W, m % p.W + 1, m / p.W + 1, ?_, ?_, ⟨m, by omega, q, rfl⟩, ⟨m, by omega, q, rfl⟩, ⟨m, by omega, q, rfl⟩, ⟨m, by omega, q, rfl⟩⟩
        · rw [ex, ey]; dsimp only; rw [Nat.min_eq_right (by omega), Nat.min_eq_right (by omega), Nat.max_eq_right (by omega), Nat.max_eq_right (by omega)]
        · intro i hi hq
          by_cases e : i = m
          · subst e; omega
          · exact absurd hq (h1 i (by omega))
      · rw [h0]
        refine ⟨_, _, _, _, rfl, ?_, ?_, ?_, ?_, ?_⟩
        · intro i hi hq
          dsimp only
          by_cases e : i = m
          · subst e; omega
          · have := h1 i (by omega) hq; omega
        · dsimp only
          rcases Nat.le_total l (m % p.W) with k | k
          · exact ⟨i1, by omega, d1, by rw [Nat.min_eq_left k]; exact e1⟩
          · exact ⟨m, by omega, q, by rw [Nat.min_eq_right k]⟩
        · dsimp only
          rcases Nat.le_total t (m / p.W) with k | k
          · exact ⟨i2, by omega, d2, by rw [Nat.min_eq_left k]; exact e2⟩
          · exact ⟨m, by omega, q, by rw [Nat.min_eq_right k]⟩
        · dsimp only
          rcases Nat.le_total r (m % p.W + 1) with k | k
          · exact ⟨m, by omega, q, by rw [Nat.max_eq_right k]⟩
          · exact ⟨i3, by omega, d3, by rw [Nat.max_eq_left k]; exact e3⟩
        · dsimp only
          rcases Nat.le_total b (m / p.W + 1) with k | k
          · exact ⟨m, by omega, q, by rw [Nat.max_eq_right k]⟩
          · exact ⟨i4, by omega, d4, by rw [Nat.max_eq_left k]; exact e4⟩
    · rw [bbx_no q]
      rcases ih (by omega) with ⟨h1, h2⟩ | ⟨l, t, r, b, h0, h1, ⟨i1, c1, d1, e1⟩, ⟨i2, c2, d2, e2⟩, ⟨i3, c3, d3, e3⟩, ⟨i4, c4, d4, e4⟩⟩
      · left
        refine ⟨fun i hi => ?_, h2⟩
        by_cases e : i = m
        · subst e; exact q
        · exact h1 i (by omega)
      · right
        refine ⟨l, t, r, b, h0, fun i hi hq => ?_, ⟨i1, by omega, d1, e1⟩, ⟨i2, by omega, d2, e2⟩, ⟨i3, by omega, d3, e3⟩, ⟨i4, by omega, d4, e4⟩⟩
        by_cases e : i = m
        · subst e; exact absurd hq q
        · exact h1 i (by omega) hq
theorem live_of {p : Pat} {i : Nat} (hi : i < p.W * p.H) (h : p.xs.getD i 0 = 1) : live p (i % p.W) (i / p.W) := by
  obtain ⟨x, y, hx, hy, ex, ey, e⟩ := split_lt hi
  rw [ex, ey]
  exact ⟨hx, hy, by unfold atP; rw [e]; exact h⟩
theorem of_live {p : Pat} {x y : Nat} (h : live p x y) : y * p.W + x < p.W * p.H ∧ p.xs.getD (y * p.W + x) 0 = 1 ∧ (y * p.W + x) % p.W = x ∧ (y * p.W + x) / p.W = y := by
  obtain ⟨hx, hy, e⟩ := h
  obtain ⟨d, m⟩ := divmod_mk p.W y x hx
  exact ⟨mk_lt hx hy, e, m, d⟩
theorem trim_cases (p : Pat) : ((∀ x y, ¬ live p x y) ∧ (trimP p).1 = ⟨0, 0, []⟩) ∨ (∃ l t r b, IsBx p l t r b ∧ (trimP p).1 = ⟨r - l, b - t, winP p.W l t (r - l) ((r - l) * (b - t)) p.xs⟩) := by
  rcases bbx_is p (p.W * p.H) (Nat.le_refl _) with ⟨h1, h2⟩ | ⟨l, t, r, b, h0, h1, ⟨i1, c1, d1, e1⟩, ⟨i2, c2, d2, e2⟩, ⟨i3, c3, d3, e3⟩, ⟨i4, c4, d4, e4⟩⟩
  · left
    refine ⟨fun x y h => ?_, ?_⟩
    · obtain ⟨a, b, -, -⟩ := of_live h
      exact h1 _ a b
    · unfold trimP
      rw [h2]
      rfl
  · right
    refine ⟨l, t, r, b, ⟨fun x y h => ?_, ⟨_, e1 ▸ live_of c1 d1⟩, ⟨_, e2 ▸ live_of c2 d2⟩, ⟨_, _, live_of c3 d3, e3⟩, ⟨_, _, live_of c4 d4, e4⟩⟩, ?_⟩
    · obtain ⟨a, b, c, d⟩ := of_live h
      have := h1 _ a b
      rw [c, d] at this
      exact this
    · unfold trimP
      rw [h0]
      dsimp only
      rw [if_neg (by omega)]
theorem trim_none {p : Pat} (h : ∀ x y, ¬ live p x y) : (trimP p).1 = ⟨0, 0, []⟩ := by
  rcases trim_cases p with ⟨-, e⟩ | ⟨l, t, r, b, h', -⟩
  · exact e
  · obtain ⟨y, a⟩ := h'.hl
    exact absurd a (h _ _)
theorem trim_bx {p : Pat} {l t r b : Nat} (h : IsBx p l t r b) : (trimP p).1 = ⟨r - l, b - t, winP p.W l t (r - l) ((r - l) * (b - t)) p.xs⟩ := by
  rcases trim_cases p with ⟨n, -⟩ | ⟨l', t', r', b', h', e⟩
  · obtain ⟨y, a⟩ := h.hl
    exact absurd a (n _ _)
  · obtain ⟨rfl, rfl, rfl, rfl⟩ := h.unique h'
    exact e
theorem win_at (W l t V N : Nat) (xs : List Int) (x y : Nat) (hx : x < V) (hy : y < N) : atP V (winP W l t V (V * N) xs) x y = atP W xs (l + x) (t + y) := by
  obtain ⟨d, m⟩ := divmod_mk V y x hx
  have hl := mk_lt hx hy
  unfold winP
  rw [atP]
  simp [List.getD, hl, winC, d, m]
theorem live_mir {p : Pat} {x y : Nat} : live p.mir x y ↔ x < p.W ∧ live p (p.W - 1 - x) y := by
  constructor
  · rintro ⟨hx, hy, e⟩
    have hx' : x < p.W := hx
    rw [mirAt p x y hx hy] at e
    exact ⟨hx, by omega, hy, e⟩
  · rintro ⟨hx, -, hy, e⟩
    exact ⟨hx, hy, by rw [mirAt p x y hx hy]; exact e⟩
theorem live_mir' {p : Pat} {x y : Nat} (h : live p x y) : live p.mir (p.W - 1 - x) y := by
  have hx := h.1
  exact live_mir.2 ⟨by omega, by rw [show p.W - 1 - (p.W - 1 - x) = x by omega]; exact h⟩
theorem live_qtr {p : Pat} {x y : Nat} : live p.qtr x y ↔ x < p.H ∧ live p y (p.H - 1 - x) := by
  constructor
  · rintro ⟨hx, hy, e⟩
    have hx' : x < p.H := hx
    rw [qtrAt p x y hx hy] at e
    exact ⟨hx, hy, by omega, e⟩
  · rintro ⟨hx, hy, -, e⟩
    exact ⟨hx, hy, by rw [qtrAt p x y hx hy]; exact e⟩
theorem live_qtr' {p : Pat} {x y : Nat} (h : live p x y) : live p.qtr (p.H - 1 - y) x := by
  have hy := h.2.1
  exact live_qtr.2 ⟨by omega, by rw [show p.H - 1 - (p.H - 1 - y) = y by omega]; exact h⟩
theorem bx_mir {p : Pat} {l t r b : Nat} (h : IsBx p l t r b) : IsBx p.mir (p.W - r) t (p.W - l) b := by
  obtain ⟨y1, a1⟩ := h.hl
  obtain ⟨x2, a2⟩ := h.ht
  obtain ⟨x3, y3, a3, e3⟩ := h.hr
  obtain ⟨x4, y4, a4, e4⟩ := h.hb
  refine ⟨fun x y hh => ?_, ⟨y3, ?_⟩, ⟨_, live_mir' a2⟩, ⟨_, y1, live_mir' a1, ?_⟩, ⟨_, y4, live_mir' a4, e4⟩⟩
  · obtain ⟨c1, c2⟩ := live_mir.1 hh
    have := h.le _ _ c2
    omega
  · have := live_mir' a3
    rw [show p.W - r = p.W - 1 - x3 by omega]
    exact this
  · have := a1.1; omega
theorem bx_qtr {p : Pat} {l t r b : Nat} (h : IsBx p l t r b) : IsBx p.qtr (p.H - b) l (p.H - t) r := by
  obtain ⟨y1, a1⟩ := h.hl
  obtain ⟨x2, a2⟩ := h.ht
  obtain ⟨x3, y3, a3, e3⟩ := h.hr
  obtain ⟨x4, y4, a4, e4⟩ := h.hb
  refine ⟨fun x y hh => ?_, ⟨x4, ?_⟩, ⟨_, live_qtr' a1⟩, ⟨_, x2, live_qtr' a2, ?_⟩, ⟨_, x3, live_qtr' a3, e3⟩⟩
  · obtain ⟨c1, c2⟩ := live_qtr.1 hh
    have := h.le _ _ c2
    omega
  · have := live_qtr' a4
    rw [show p.H - b = p.H - 1 - y4 by omega]
    exact this
  · have := a2.2.1; omega
theorem IsBx.lims {p : Pat} {l t r b : Nat} (h : IsBx p l t r b) : l < r ∧ t < b ∧ r ≤ p.W ∧ b ≤ p.H := by
  obtain ⟨y1, a1⟩ := h.hl
  obtain ⟨x2, a2⟩ := h.ht
  obtain ⟨x3, y3, a3, e3⟩ := h.hr
  obtain ⟨x4, y4, a4, e4⟩ := h.hb
  have b1 := h.le _ _ a1
  have b2 := h.le _ _ a2
  have := a3.1
  have := a4.2.1
  omega
theorem trim_mir (p : Pat) : (trimP p.mir).1 = (trimP p).1.mir := by
  rcases trim_cases p with ⟨n, e⟩ | ⟨l, t, r, b, h, e⟩
  · rw [e, trim_none fun x y hh => n _ _ (live_mir.1 hh).2]
    rfl
  · have hh := bx_mir h
    obtain ⟨c1, c2, c3, c4⟩ := h.lims
    refine pat_at (trim_ok _) (mir_ok _) ?_ ?_ ?_
    · rw [trim_bx hh, e]; show p.W - l - (p.W - r) = r - l; omega
    · rw [trim_bx hh, e]; rfl
    · intro x y hx hy
      rw [trim_bx hh] at hx hy ⊢
      rw [e]
      have hx' : x < p.W - l - (p.W - r) := hx
      have hy' : y < b - t := hy
      refine (win_at _ _ _ _ _ _ x y hx hy).trans ?_
      refine (mirAt p _ _ (by show p.W - r + x < p.W; omega) (by show t + y < p.H; omega)).trans ?_
      refine Eq.trans ?_ (mirAt ⟨r - l, b - t, winP p.W l t (r - l) ((r - l) * (b - t)) p.xs⟩ x y (by show x < r - l; omega) hy).symm
      refine Eq.trans ?_ (win_at _ _ _ _ _ _ (r - l - 1 - x) y (show r - l - 1 - x < r - l by omega) hy').symm
      rw [show p.W - 1 - (p.W - r + x) = l + (r - l - 1 - x) by omega]
theorem trim_qtr (p : Pat) : (trimP p.qtr).1 = (trimP p).1.qtr := by
  rcases trim_cases p with ⟨n, e⟩ | ⟨l, t, r, b, h, e⟩
  · rw [e, trim_none fun x y hh => n _ _ (live_qtr.1 hh).2]
    rfl
  · have hh := bx_qtr h
    obtain ⟨c1, c2, c3, c4⟩ := h.lims
    refine pat_at (trim_ok _) (qtr_ok _) ?_ ?_ ?_
    · rw [trim_bx hh, e]; show p.H - t - (p.H - b) = b - t; omega
    · rw [trim_bx hh, e]; rfl
    · intro x y hx hy
      rw [trim_bx hh] at hx hy ⊢
      rw [e]
      have hx' : x < p.H - t - (p.H - b) := hx
      have hy' : y < r - l := hy
      refine (win_at _ _ _ _ _ _ x y hx hy).trans ?_
      refine (qtrAt p _ _ (by show p.H - b + x < p.H; omega) (by show l + y < p.W; omega)).trans ?_
      refine Eq.trans ?_ (qtrAt ⟨r - l, b - t, winP p.W l t (r - l) ((r - l) * (b - t)) p.xs⟩ x y (by show x < b - t; omega) hy).symm
      refine Eq.trans ?_ (win_at _ _ _ _ _ _ y (b - t - 1 - x) hy' (by omega)).symm
      rw [show p.H - 1 - (p.H - b + x) = t + (b - t - 1 - x) by omega]
theorem trim_rot (p : Pat) : ∀ j, (trimP (p.rot j)).1 = (trimP p).1.rot j := by
  intro j
  induction j with
  | zero => rfl
  | succ j ih => rw [Pat.rot, trim_qtr, ih]; rfl
theorem trim_turn (p : Pat) (k : Nat) : (trimP (p.turn k)).1 = (trimP p).1.turn k := by
  unfold Pat.turn
  rw [trim_rot]
  split
  · rw [trim_mir]
  · rfl
theorem canon_turn (p : Pat) (k : Nat) (hk : k < 8) : canonP (p.turn k) = canonP p := by
  unfold canonP
  rw [trim_turn]
  exact (best_same (trim_ok p) (turn_ok _ (trim_ok p) k) ⟨k, hk, rfl⟩).symm
end Go.Proofs.YtjngjnkecnnmeaaDoor

namespace Go.Proofs.YtjngjnkecnnmeaaDoor
set_option linter.unusedVariables false

/-- A text of these bytes. -/
def txt (l : List UInt8) : ByteArray := ⟨l.toArray⟩
theorem txt_size (l : List UInt8) : (txt l).size = l.length := by simp [txt, ByteArray.size]
theorem bt_mid {s : ByteArray} {pre post : List UInt8} {c : UInt8} (h : s = txt (pre ++ c :: post)) : bt s pre.length = c.toNat ∧ pre.length < s.size := by
  subst h
  have hl : pre.length < (txt (pre ++ c :: post)).size := by rw [txt_size]; simp
  refine ⟨?_, hl⟩
  unfold bt
  rw [dif_pos hl]
  show (ByteArray.get _ _ _).toNat = _
  simp [txt, ByteArray.get]
theorem bt_at {s : ByteArray} {pre post : List UInt8} {c : UInt8} {i : Nat} (h : s = txt (pre ++ c :: post)) (hi : i = pre.length) : bt s i = c.toNat ∧ i < s.size := by
  subst hi; exact bt_mid h
def bits (l : List Int) : Prop := ∀ x ∈ l, x = 0 ∨ x = 1
theorem draw_cells (s : ByteArray) (W : Nat) (high : Nat) (r : Nat) (hh : high < 100) : ∀ (cs : List Int) (pre post : List UInt8) (n wide f : Nat) (acc : List Int), bits cs → s = txt (pre ++ (cs.flatMap cellBytes ++ 10 :: post)) → n + cs.length ≤ 100 → (0 < high → n + cs.length = wide) →
    drawF s (cs.length + 1 + f) pre.length r n wide high acc = drawF s f (pre.length + (cs.flatMap cellBytes).length + 1) (pre.length + (cs.flatMap cellBytes).length + 1) 0 (n + cs.length) (high + 1) (acc ++ cs) := by
  intro cs
  induction cs with
  | nil =>
    intro pre post n wide f acc hb hs hn hw
    obtain ⟨h1, h2⟩ := bt_mid (pre := pre) (post := post) (c := 10) (by simpa using hs)
    have h1' : bt s pre.length = 10 := h1
    have hd : isDot s pre.length = false := by simp [isDot, h1']
    have hbl : isBall s pre.length = false := by simp [isBall, h1']
    rw [show ([] : List Int).length + 1 + f = f + 1 by simp; omega, drawF, if_neg (by omega), hd, hbl]
    simp only [Bool.false_eq_true, if_false, List.length_nil, Nat.add_zero, List.append_nil, List.flatMap_nil]
    rw [if_neg (by omega), if_neg (by omega), if_neg (by simp at hw; intro h; exact h.2 (hw h.1))]
  | cons c cs ih =>
    intro pre post n wide f acc hb hs hn hw
    have hc := hb c (by simp)
    have hb' : bits cs := fun x hx => hb x (by simp [hx])
    simp only [List.length_cons] at hn hw
    rw [show (c :: cs).length + 1 + f = (cs.length + 1 + f) + 1 by simp; omega, drawF]
    rcases hc with rfl | rfl
    · have hs' : s = txt (pre ++ 194 :: (183 :: (cs.flatMap cellBytes ++ 10 :: post))) := by rw [hs]; simp [cellBytes]
      have hs2 : s = txt ((pre ++ [194]) ++ 183 :: (cs.flatMap cellBytes ++ 10 :: post)) := by rw [hs']; simp
      obtain ⟨a1, a2⟩ := bt_mid hs'
      obtain ⟨b1, b2⟩ := bt_at (i := pre.length + 1) hs2 (by simp)
      have hd : isDot s pre.length = true := isDot_true.2 ⟨a1, b2, b1⟩
      rw [if_neg (by omega), hd]
      simp only [if_true]
      rw [if_neg (by omega), if_neg (by omega)]
      have := ih (pre ++ [194, 183]) post (n + 1) wide f (acc ++ [0]) hb' (by rw [hs']; simp) (by omega) (fun h => by have := hw h; omega)
      simp only [List.length_append, List.length_cons, List.length_nil] at this
      simp only [List.flatMap_cons, List.length_append, show cellBytes 0 = [194, 183] from rfl, List.length_cons, List.length_nil]
      rw [this]
      simp only [List.append_assoc, List.singleton_append]
      rw [show n + 1 + cs.length = n + (cs.length + 1) by omega, show pre.length + (0 + 1 + 1) + (cs.flatMap cellBytes).length + 1 = pre.length + (0 + 1 + 1 + (cs.flatMap cellBytes).length) + 1 by omega]
    · have hs' : s = txt (pre ++ 226 :: (151 :: (143 :: (cs.flatMap cellBytes ++ 10 :: post)))) := by rw [hs]; simp [cellBytes]
      have hs2 : s = txt ((pre ++ [226]) ++ 151 :: (143 :: (cs.flatMap cellBytes ++ 10 :: post))) := by rw [hs']; simp
      have hs3 : s = txt ((pre ++ [226, 151]) ++ 143 :: (cs.flatMap cellBytes ++ 10 :: post)) := by rw [hs']; simp
      obtain ⟨a1, a2⟩ := bt_mid hs'
      obtain ⟨b1, b2⟩ := bt_at (i := pre.length + 1) hs2 (by simp)
      obtain ⟨c1, c2⟩ := bt_at (i := pre.length + 2) hs3 (by simp)
      have hd : isDot s pre.length = false := by simp [isDot, show bt s pre.length = 226 from a1]
      have hbl : isBall s pre.length = true := isBall_true.2 ⟨a1, c2, b1, c1⟩
      rw [if_neg (by omega), hd, hbl]
      simp only [if_true, Bool.false_eq_true, if_false]
      rw [if_neg (by omega), if_neg (by omega)]
      have := ih (pre ++ [226, 151, 143]) post (n + 1) wide f (acc ++ [1]) hb' (by rw [hs']; simp) (by omega) (fun h => by have := hw h; omega)
      simp only [List.length_append, List.length_cons, List.length_nil] at this
      simp only [List.flatMap_cons, List.length_append, show cellBytes 1 = [226, 151, 143] from rfl, List.length_cons, List.length_nil]
      rw [this]
      simp only [List.append_assoc, List.singleton_append]
      rw [show n + 1 + cs.length = n + (cs.length + 1) by omega, show pre.length + (0 + 1 + 1 + 1) + (cs.flatMap cellBytes).length + 1 = pre.length + (0 + 1 + 1 + 1 + (cs.flatMap cellBytes).length) + 1 by omega]
theorem cellBytes_ge (cs : List Int) : cs.length ≤ (cs.flatMap cellBytes).length := by
  induction cs with
  | nil => simp
  | cons c cs ih =>
    simp only [List.flatMap_cons, List.length_append, List.length_cons]
    have : 1 ≤ (cellBytes c).length := by unfold cellBytes; split <;> simp
    omega
def rowB (cs : List Int) : List UInt8 := cs.flatMap cellBytes ++ [10]
theorem draw_rows (s : ByteArray) (W : Nat) (hW : W ≤ 100) : ∀ (rows : List (List Int)) (pre : List UInt8) (wide high f : Nat) (acc : List Int), (∀ r ∈ rows, r.length = W ∧ bits r) → s = txt (pre ++ rows.flatMap rowB) → high + rows.length ≤ 100 → (0 < high → wide = W) → (rows.flatMap rowB).length + 1 ≤ f →
    drawF s f pre.length pre.length 0 wide high acc = .inl (if rows = [] then wide else W, high + rows.length, acc ++ rows.flatten) := by
  intro rows
  induction rows with
  | nil =>
    intro pre wide high f acc hr hs hh hw hf
    have hz : s.size = pre.length := by rw [hs, txt_size]; simp
    obtain ⟨g, rfl⟩ : ∃ g, f = g + 1 := ⟨f - 1, by simp at hf; omega⟩
    rw [drawF, if_pos (by omega), if_neg (by omega)]
    simp
  | cons cs rows ih =>
    intro pre wide high f acc hr hs hh hw hf
    obtain ⟨hl, hb⟩ := hr cs (by simp)
    simp only [List.length_cons] at hh
    have hs' : s = txt (pre ++ (cs.flatMap cellBytes ++ 10 :: rows.flatMap rowB)) := by rw [hs]; simp [rowB]
    have hge := cellBytes_ge cs
    simp only [List.flatMap_cons, List.length_append, rowB, List.length_singleton] at hf
    obtain ⟨g, rfl⟩ : ∃ g, f = cs.length + 1 + g := ⟨f - (cs.length + 1), by omega⟩
    rw [draw_cells s W high pre.length (by omega) cs pre _ 0 wide g acc hb hs' (by omega) (fun h => by rw [hw h, hl]; omega)]
    have := ih (pre ++ rowB cs) W (high + 1) g (acc ++ cs) (fun r h => hr r (by simp [h])) (by rw [hs']; simp [rowB]) (by omega) (fun _ => rfl) (by simp only [show rowB = fun cs => cs.flatMap cellBytes ++ [10] from rfl] at *; omega)
    simp only [List.length_append, rowB, List.length_singleton] at this
    rw [hl, Nat.zero_add, show pre.length + (cs.flatMap cellBytes).length + 1 = pre.length + ((cs.flatMap cellBytes).length + 1) by omega, this]
    simp only [if_neg (List.cons_ne_nil cs rows), List.flatten_cons, List.append_assoc, List.length_cons]
    rw [show high + 1 + rows.length = high + (rows.length + 1) by omega]
    split <;> rfl
theorem rows_all (W H : Nat) (xs : List Int) (hx : xs.length = W * H) : ((List.range H).map fun j => (List.range W).map fun i => xs.getD (j * W + i) 0).flatten = xs := by
  have key : ∀ h, h ≤ H → ((List.range h).map fun j => (List.range W).map fun i => xs.getD (j * W + i) 0).flatten = xs.take (W * h) := by
    intro h
    induction h with
    | zero => intro _; simp
    | succ h ih =>
      intro hh
      rw [List.range_succ, List.map_append, List.flatten_append, ih (by omega)]
      have hle : W * h + W ≤ xs.length := by
        have := Nat.mul_le_mul_left W hh
        rw [Nat.mul_succ] at this
        omega
      rw [Nat.mul_succ]
      apply List.ext_getElem?
      intro i
      simp only [List.map_cons, List.map_nil, List.flatten_cons, List.flatten_nil, List.append_nil]
      rw [List.getElem?_append]
      simp only [List.length_take]
      rw [Nat.min_eq_left (by omega)]
      split
      · rename_i hi
        rw [List.getElem?_take, if_pos hi, List.getElem?_take, if_pos (by omega)]
      · rename_i hi
        rw [List.getElem?_take]
        by_cases hj : i < W * h + W
        · rw [if_pos hj]
          rw [List.getElem?_map, List.getElem?_range (by omega)]
          simp only [Option.map_some]
          rw [Nat.mul_comm h W, show W * h + (i - W * h) = i by omega]
          rw [List.getD, List.getElem?_eq_getElem (show i < xs.length by omega)]
          rfl
        · rw [if_neg hj, List.getElem?_eq_none]
          simp; omega
  rw [key H (Nat.le_refl _), ← hx, List.take_length]
theorem draw_back (W H : Nat) (xs : List Int) (hW : W ≤ 100) (hH : H ≤ 100) (hx : xs.length = W * H) (hb : bits xs) : drawS (txt (drawRows W xs H)) = .inl (if H = 0 then 0 else W, H, xs) := by
  have hl := drawRows_le W xs hW H
  have e : drawRows W xs H = ((List.range H).map fun j => (List.range W).map fun i => xs.getD (j * W + i) 0).flatMap rowB := by
    simp [drawRows, drawRow, rowB, List.flatMap_map]
  have hbt : ∀ i, xs.getD i 0 = 0 ∨ xs.getD i 0 = 1 := by
    intro i
    rw [List.getD]
    by_cases h : i < xs.length
    · rw [List.getElem?_eq_getElem h]; exact hb _ (List.getElem_mem h)
    · rw [List.getElem?_eq_none (by omega)]; exact Or.inl rfl
  unfold drawS
  rw [txt_size, if_neg (by omega), e]
  have := draw_rows (txt (drawRows W xs H)) W hW ((List.range H).map fun j => (List.range W).map fun i => xs.getD (j * W + i) 0) [] 0 0 ((drawRows W xs H).length + 1) [] (by
    intro r hr
    simp only [List.mem_map, List.mem_range] at hr
    obtain ⟨j, hj, rfl⟩ := hr
    refine ⟨by simp, ?_⟩
    intro x hx
    simp only [List.mem_map, List.mem_range] at hx
    obtain ⟨i, -, rfl⟩ := hx
    exact hbt _) (by rw [e]; rfl) (by simp; omega) (by omega) (by rw [e]; omega)
  rw [← e]
  refine this.trans ?_
  simp only [List.length_map, List.length_range, Nat.zero_add, List.nil_append, rows_all W H xs hx, List.map_eq_nil_iff, List.range_eq_nil]
end Go.Proofs.YtjngjnkecnnmeaaDoor

namespace Go.Proofs.YtjngjnkecnnmeaaDoor
set_option linter.unusedVariables false

/-! A number's digits read back. -/
theorem dec_last (n : Nat) (h : ¬ n < 10) : Lib.decDigits n = Lib.decDigits (n / 10) ++ [UInt8.ofNat (48 + n % 10)] := by rw [Lib.decDigits, dif_neg h]
theorem dec_small (n : Nat) (h : n < 10) : Lib.decDigits n = [UInt8.ofNat (48 + n)] := by rw [Lib.decDigits, dif_pos h]
theorem dig_nat (d : Nat) (h : d < 10) : (UInt8.ofNat (48 + d)).toNat = 48 + d := by
  simp; omega
theorem dec_pos (n : Nat) : 0 < (Lib.decDigits n).length := by
  by_cases h : n < 10
  · rw [dec_small n h]; simp
  · rw [dec_last n h]; simp
theorem dec_first : ∀ n, 0 < n → ∃ d rest, Lib.decDigits n = UInt8.ofNat (48 + d) :: rest ∧ 0 < d ∧ d < 10 := by
  intro n
  induction n using Nat.strongRecOn with
  | ind n ih =>
    intro hn
    by_cases h : n < 10
    · exact ⟨n, [], dec_small n h, hn, h⟩
    · obtain ⟨d, rest, e, h1, h2⟩ := ih (n / 10) (by omega) (by omega)
      exact ⟨d, rest ++ [UInt8.ofNat (48 + n % 10)], by rw [dec_last n h, e]; rfl, h1, h2⟩
theorem dec_lt3 (n : Nat) (h : n ≤ 100) : (Lib.decDigits n).length ≤ 3 := by
  by_cases h1 : n < 10
  · rw [dec_small n h1]; simp
  · rw [dec_last n h1]
    by_cases h2 : n / 10 < 10
    · rw [dec_small _ h2]; simp
    · rw [dec_last _ h2, dec_small _ (by omega)]; simp
theorem numF_fuel (s : ByteArray) : ∀ f i v, s.size - i ≤ f → numF s f i v = numF s (s.size - i) i v := by
  intro f
  induction f with
  | zero => intro i v h; rw [show s.size - i = 0 by omega]
  | succ f ih =>
    intro i v h
    by_cases hi : inR s i 48 57 = true
    · rw [numF_step hi]
      rw [numF, if_pos hi, ih _ _ (by omega)]
    · have hi' : inR s i 48 57 = false := by simpa using hi
      rw [numF_stop hi', numF, if_neg hi]
theorem numF_dec (s : ByteArray) : ∀ (ds : List Nat) (pre post : List UInt8) (v : Nat), (∀ d ∈ ds, d < 10) → s = txt (pre ++ (ds.map (fun d => UInt8.ofNat (48 + d)) ++ post)) →
    numF s (s.size - pre.length) pre.length v = numF s (s.size - (pre.length + ds.length)) (pre.length + ds.length) (ds.foldl (fun a d => a * 10 + d) v) := by
  intro ds
  induction ds with
  | nil => intro pre post v _ hs; simp
  | cons d ds ih =>
    intro pre post v hd hs
    have hd0 := hd d (by simp)
    have hs' : s = txt (pre ++ UInt8.ofNat (48 + d) :: (ds.map (fun d => UInt8.ofNat (48 + d)) ++ post)) := by rw [hs]; simp
    obtain ⟨a1, a2⟩ := bt_mid hs'
    rw [dig_nat d hd0] at a1
    rw [numF_step (inR_true.2 ⟨a2, by omega, by omega⟩), a1]
    have := ih (pre ++ [UInt8.ofNat (48 + d)]) post (v * 10 + d) (fun x hx => hd x (by simp [hx])) (by rw [hs']; simp)
    simp only [List.length_append, List.length_singleton] at this
    rw [show 48 + d - 48 = d by omega, this]
    simp only [List.length_cons, List.foldl_cons]
    rw [show pre.length + 1 + ds.length = pre.length + (ds.length + 1) by omega]
theorem dec_val : ∀ n, ∃ ds : List Nat, Lib.decDigits n = ds.map (fun d => UInt8.ofNat (48 + d)) ∧ (∀ d ∈ ds, d < 10) ∧ ds.foldl (fun a d => a * 10 + d) 0 = n := by
  intro n
  induction n using Nat.strongRecOn with
  | ind n ih =>
    by_cases h : n < 10
    · exact ⟨[n], by rw [dec_small n h]; rfl, by simpa using h, by simp⟩
    · obtain ⟨ds, e, h1, h2⟩ := ih (n / 10) (by omega)
      refine ⟨ds ++ [n % 10], by rw [dec_last n h, e, List.map_append]; rfl, ?_, ?_⟩
      · intro d hd
        rcases List.mem_append.1 hd with q | q
        · exact h1 d q
        · simp at q; omega
      · rw [List.foldl_append, h2]
        simp only [List.foldl_cons, List.foldl_nil]
        omega
theorem num_back (s : ByteArray) (n : Nat) (pre post : List UInt8) (c : UInt8) (hs : s = txt (pre ++ (Lib.decDigits n ++ c :: post))) (hc : c.toNat < 48 ∨ 57 < c.toNat) : num s pre.length = (n, pre.length + (Lib.decDigits n).length) := by
  obtain ⟨ds, e, h1, h2⟩ := dec_val n
  unfold num
  rw [numF_dec s ds pre (c :: post) 0 h1 (by rw [hs, e]), h2]
  have hs' : s = txt ((pre ++ Lib.decDigits n) ++ c :: post) := by rw [hs]; simp
  obtain ⟨a1, a2⟩ := bt_at (i := pre.length + ds.length) hs' (by rw [e]; simp)
  rw [numF_stop (inR_false.2 (by omega)), e]
  simp
theorem numSix_back (s : ByteArray) (n : Nat) (hn : n ≤ 100) (pre post : List UInt8) (c : UInt8) (hs : s = txt (pre ++ (Lib.decDigits n ++ c :: post))) (hc : c.toNat < 48 ∨ 57 < c.toNat) : numSix s pre.length = true := by
  have h3 := dec_lt3 n hn
  have h0 := dec_pos n
  unfold numSix
  rw [num_back s n pre post c hs hc]
  dsimp only
  rw [decide_eq_true (by omega), decide_eq_true (show pre.length + (Lib.decDigits n).length - pre.length ≤ 6 by omega)]
  simp only [Bool.true_and, Bool.and_true]
  by_cases h1 : n < 10
  · rw [decide_eq_false (show ¬ 1 < pre.length + (Lib.decDigits n).length - pre.length by rw [dec_small n h1]; simp)]
    rfl
  · obtain ⟨d, rest, e, d1, d2⟩ := dec_first n (by omega)
    have hs' : s = txt (pre ++ UInt8.ofNat (48 + d) :: (rest ++ c :: post)) := by rw [hs, e]; simp
    obtain ⟨a1, a2⟩ := bt_mid hs'
    rw [dig_nat d d2] at a1
    rw [decide_eq_false (show ¬ bt s pre.length = 48 by omega)]
    simp
theorem word_back (s : ByteArray) : ∀ (ws : List UInt8) (pre post : List UInt8), s = txt (pre ++ (ws ++ post)) → wordF s (ws.map UInt8.toNat) pre.length = .inl (pre.length + ws.length) := by
  intro ws
  induction ws with
  | nil => intro pre post hs; simp [wordF]
  | cons c ws ih =>
    intro pre post hs
    have hs' : s = txt (pre ++ c :: (ws ++ post)) := by rw [hs]; simp
    obtain ⟨a1, a2⟩ := bt_mid hs'
    rw [List.map_cons, wordF, if_pos ⟨a2, a1⟩]
    have := ih (pre ++ [c]) post (by rw [hs']; simp)
    simp only [List.length_append, List.length_singleton] at this
    rw [this, List.length_cons, show pre.length + 1 + ws.length = pre.length + (ws.length + 1) by omega]
theorem side_back (s : ByteArray) (ws : List UInt8) (n : Nat) (hn : n ≤ 100) (pre post : List UInt8) (c : UInt8) (hs : s = txt (pre ++ (ws ++ (Lib.decDigits n ++ c :: post)))) (hc : c.toNat < 48 ∨ 57 < c.toNat) :
    sideS s (ws.map UInt8.toNat) pre.length = .inl (n, pre.length + ws.length + (Lib.decDigits n).length) := by
  unfold sideS
  rw [word_back s ws pre _ hs]
  dsimp only
  have hs' : s = txt ((pre ++ ws) ++ (Lib.decDigits n ++ c :: post)) := by rw [hs]; simp
  have h1 := numSix_back s n hn _ _ c hs' hc
  have h2 := num_back s n _ _ c hs' hc
  rw [List.length_append] at h1 h2
  rw [h1, h2]
  simp only [Bool.not_true, Bool.false_eq_true, if_false]
  rw [if_neg (by omega)]
def headB (W H : Nat) : List UInt8 := [120, 32, 61, 32] ++ Lib.decDigits W ++ [44, 32, 121, 32, 61, 32] ++ Lib.decDigits H ++ [10]
theorem head_back (s : ByteArray) (W H : Nat) (hW : W ≤ 100) (hH : H ≤ 100) (post : List UInt8) (hs : s = txt (headB W H ++ post)) : headS s = .inl (W, H, (headB W H).length) := by
  unfold headS
  have e1 := side_back s [120, 32, 61, 32] W hW [] ([32, 121, 32, 61, 32] ++ Lib.decDigits H ++ [10] ++ post) 44 (by rw [hs, headB]; simp) (Or.inl (by decide))
  have e2 := side_back s [44, 32, 121, 32, 61, 32] H hH ([120, 32, 61, 32] ++ Lib.decDigits W) post 10 (by rw [hs, headB]; simp) (Or.inl (by decide))
  have e3 := word_back s [10] ([120, 32, 61, 32] ++ Lib.decDigits W ++ [44, 32, 121, 32, 61, 32] ++ Lib.decDigits H) post (by rw [hs, headB]; simp)
  rw [show ([120, 32, 61, 32] : List Nat) = ([120, 32, 61, 32] : List UInt8).map UInt8.toNat from rfl, show (0 : Nat) = ([] : List UInt8).length from rfl, e1]
  dsimp only
  rw [show ([] : List UInt8).length + ([120, 32, 61, 32] : List UInt8).length + (Lib.decDigits W).length = ([120, 32, 61, 32] ++ Lib.decDigits W).length by simp; omega]
  rw [show ([44, 32, 121, 32, 61, 32] : List Nat) = ([44, 32, 121, 32, 61, 32] : List UInt8).map UInt8.toNat from rfl, e2]
  dsimp only
  rw [show (([120, 32, 61, 32] : List UInt8) ++ Lib.decDigits W).length + ([44, 32, 121, 32, 61, 32] : List UInt8).length + (Lib.decDigits H).length = (([120, 32, 61, 32] : List UInt8) ++ Lib.decDigits W ++ [44, 32, 121, 32, 61, 32] ++ Lib.decDigits H).length by simp; omega]
  rw [show ([10] : List Nat) = ([10] : List UInt8).map UInt8.toNat from rfl, e3]
  simp [headB]
  omega
end Go.Proofs.YtjngjnkecnnmeaaDoor

namespace Go.Proofs.YtjngjnkecnnmeaaDoor
set_option linter.unusedVariables false

/-! Runs read back. -/
theorem sk_here {s : ByteArray} {i : Nat} (h : bt s i ≠ 32) (h' : bt s i ≠ 10) : sk s i = i := sk_stop (blankAt_false.2 (by omega))
theorem times_one (t : UInt8) : timesB 1 t = [t] := rfl
theorem times_more {n : Nat} (t : UInt8) (h : 2 ≤ n) : timesB n t = Lib.decDigits n ++ [t] := by unfold timesB; rw [if_neg (by omega), if_neg (by omega)]
/-- A tag with its number: what is read. -/
theorem tag_read (s : ByteArray) (n : Nat) (t : UInt8) (h1 : 1 ≤ n) (hn : n ≤ 100) (ht : 57 < t.toNat ∨ t.toNat = 36) (pre post : List UInt8) (hs : s = txt (pre ++ (timesB n t ++ post))) :
    sk s pre.length = pre.length ∧ tagBad s pre.length = false ∧ tagN s pre.length = n ∧ tagK s pre.length + 1 = pre.length + (timesB n t).length ∧ tagK s pre.length < s.size ∧ bt s (tagK s pre.length) = t.toNat ∧ (n = 1 → tagK s pre.length = pre.length) := by
  rcases (by omega : n = 1 ∨ 2 ≤ n) with rfl | h2
  · have hs' : s = txt (pre ++ t :: post) := by rw [hs, times_one]; rfl
    obtain ⟨a1, a2⟩ := bt_mid hs'
    have hd : dAt s pre.length = false := inR_false.2 (by omega)
    refine ⟨sk_here (by omega) (by omega), by simp [tagBad, hd], by simp [tagN, hd], by simp [tagK, hd, times_one], by simp [tagK, hd]; exact a2, by simp [tagK, hd]; exact a1, fun _ => by simp [tagK, hd]⟩
  · have hs' : s = txt (pre ++ (Lib.decDigits n ++ t :: post)) := by rw [hs, times_more t h2]; simp
    have hc : t.toNat < 48 ∨ 57 < t.toNat := by omega
    have e1 := num_back s n pre post t hs' hc
    have e2 := numSix_back s n hn pre post t hs' hc
    obtain ⟨d, rest, ed, d1, d2⟩ := dec_first n (by omega)
    have hs2 : s = txt (pre ++ UInt8.ofNat (48 + d) :: (rest ++ t :: post)) := by rw [hs', ed]; simp
    obtain ⟨a1, a2⟩ := bt_mid hs2
    rw [dig_nat d d2] at a1
    have hd : dAt s pre.length = true := inR_true.2 ⟨a2, by omega, by omega⟩
    have hs3 : s = txt ((pre ++ Lib.decDigits n) ++ t :: post) := by rw [hs']; simp
    obtain ⟨b1, b2⟩ := bt_at (i := pre.length + (Lib.decDigits n).length) hs3 (by simp)
    have ek : tagK s pre.length = pre.length + (Lib.decDigits n).length := by simp [tagK, hd, e1]
    refine ⟨sk_here (by omega) (by omega), ?_, by simp [tagN, hd, e1], ?_, by rw [ek]; exact b2, by rw [ek]; exact b1, fun h => by omega⟩
    · unfold tagBad
      rw [hd, e1, e2]
      simp; omega
    · rw [ek, times_more t h2]; simp; omega
theorem run_step (s : ByteArray) (W H : Nat) (n : Nat) (c : Int) (hc : c = 0 ∨ c = 1) (h1 : 1 ≤ n) (hn : n ≤ 100) (pre post : List UInt8) (hs : s = txt (pre ++ (timesB n (tagB c) ++ post))) (x y f : Nat) (xs : List Int) (hy : y < H) (hx : x + n ≤ W) :
    tagsF s W H (f + 1) pre.length x y xs = tagsF s W H f (pre.length + (timesB n (tagB c)).length) (x + n) y (setRun xs (y * W + x) n c) := by
  have ht : (tagB c).toNat = if c = 1 then 111 else 98 := by unfold tagB; split <;> rfl
  have ht2 : (tagB c).toNat = 98 ∨ (tagB c).toNat = 111 := by rw [ht]; split <;> omega
  obtain ⟨e0, e1, e2, e3, e4, e5, -⟩ := tag_read s n (tagB c) h1 hn (Or.inl (by omega)) pre post hs
  rw [tagsF, e0, tag1, e1, e2, e5]
  simp only [Bool.false_eq_true, if_false]
  rw [if_neg (by omega), if_pos ht2, if_neg (by omega)]
  dsimp only
  rw [e3, ht]
  congr 1
  rcases hc with rfl | rfl <;> simp
theorem end_step (s : ByteArray) (W H : Nat) (n : Nat) (h1 : 1 ≤ n) (hn : n ≤ 100) (pre post : List UInt8) (hs : s = txt (pre ++ (timesB n 36 ++ post))) (x y f : Nat) (xs : List Int) (hy : y + n < H) :
    tagsF s W H (f + 1) pre.length x y xs = tagsF s W H f (pre.length + (timesB n 36).length) 0 (y + n) xs := by
  obtain ⟨e0, e1, e2, e3, e4, e5, -⟩ := tag_read s n 36 h1 hn (Or.inr rfl) pre post hs
  have e5' : bt s (tagK s pre.length) = 36 := e5
  rw [tagsF, e0, tag1, e1, e2, e5']
  simp only [Bool.false_eq_true, if_false]
  rw [if_neg (by omega), if_neg (by omega), if_pos trivial, if_neg (by omega)]
  dsimp only
  rw [e3]
theorem last_step (s : ByteArray) (W H : Nat) (pre : List UInt8) (hs : s = txt (pre ++ [33, 10])) (x y f : Nat) (xs : List Int) :
    tagsF s W H (f + 1) pre.length x y xs = .inl xs := by
  have hs' : s = txt (pre ++ 33 :: [10]) := hs
  obtain ⟨a1, a2⟩ := bt_mid hs'
  have a1' : bt s pre.length = 33 := a1
  obtain ⟨b1, b2⟩ := bt_at (i := pre.length + 1) (pre := pre ++ [33]) (post := []) (c := 10) (s := s) (by rw [hs]; simp) (by simp)
  have b1' : bt s (pre.length + 1) = 10 := b1
  have hz : s.size = pre.length + 2 := by rw [hs, txt_size]; simp
  have hd : dAt s pre.length = false := inR_false.2 (by omega)
  have ek : tagK s pre.length = pre.length := by simp [tagK, hd]
  have es : sk s (pre.length + 1) = s.size := by
    rw [sk_step (blankAt_true.2 ⟨b2, Or.inr b1'⟩), sk_stop (blankAt_false.2 (by omega))]
    omega
  rw [tagsF, sk_here (by omega) (by omega), tag1, ek, a1', es]
  simp only [tagBad, hd, Bool.false_and, Bool.false_eq_true, if_false]
  rw [if_neg (by omega)]
  simp
/-- The first q cells are xs', the others 0. -/
def fillP (xs : List Int) (q : Nat) : List Int := xs.take q ++ List.replicate (xs.length - q) 0
theorem fillP_length (xs : List Int) (q : Nat) : (fillP xs q).length = xs.length := by simp [fillP]; omega
theorem fillP_get (xs : List Int) (q i : Nat) (hi : i < xs.length) : (fillP xs q)[i]? = some (if i < q then xs.getD i 0 else 0) := by
  unfold fillP
  rw [List.getElem?_append]
  simp only [List.length_take]
  by_cases h : i < q
  · rw [if_pos (by omega), List.getElem?_take, if_pos h, if_pos h, List.getElem?_eq_getElem hi, List.getD, List.getElem?_eq_getElem hi]; rfl
  · rw [if_neg (by omega), if_neg h, List.getElem?_replicate, if_pos (by omega)]
theorem fill_ext {xs ys : List Int} {q : Nat} (hl : ys.length = xs.length) (h : ∀ i, i < xs.length → ys[i]? = some (if i < q then xs.getD i 0 else 0)) : ys = fillP xs q := by
  apply List.ext_getElem?
  intro i
  by_cases hi : i < xs.length
  · rw [h i hi, fillP_get xs q i hi]
  · rw [List.getElem?_eq_none (by omega), List.getElem?_eq_none (by rw [fillP_length]; omega)]
theorem setRun_get (xs : List Int) (p : Nat) (v : Int) : ∀ n i, i < xs.length → (setRun xs p n v)[i]? = if p ≤ i ∧ i < p + n then some v else xs[i]? := by
  intro n
  induction n with
  | zero => intro i hi; rw [setRun, if_neg (by omega)]
  | succ n ih =>
    intro i hi
    rw [setRun, List.getElem?_set, ih i hi, setRun_length]
    by_cases e : p + n = i
    · rw [if_pos e, if_pos (by omega), if_pos (by omega)]
    · rw [if_neg e]
      by_cases h : p ≤ i ∧ i < p + n
      · rw [if_pos h, if_pos (by omega)]
      · rw [if_neg h, if_neg (by omega)]
theorem fill_run (xs : List Int) (q n : Nat) (v : Int) (h : ∀ i, q ≤ i → i < q + n → xs.getD i 0 = v) : setRun (fillP xs q) q n v = fillP xs (q + n) := by
  apply fill_ext
  · rw [setRun_length, fillP_length]
  · intro i hi
    rw [setRun_get _ _ _ _ _ (by rw [fillP_length]; exact hi), fillP_get xs q i hi]
    by_cases c : q ≤ i ∧ i < q + n
    · rw [if_pos c, if_pos (by omega), h i c.1 c.2]
    · rw [if_neg c]
      by_cases d : i < q
      · rw [if_pos d, if_pos (by omega)]
      · rw [if_neg d, if_neg (by omega)]
theorem fill_zero (xs : List Int) (q n : Nat) (h : ∀ i, q ≤ i → i < q + n → xs.getD i 0 = 0) : fillP xs q = fillP xs (q + n) := by
  apply fill_ext (fillP_length _ _)
  intro i hi
  rw [fillP_get xs q i hi]
  by_cases d : i < q
  · rw [if_pos d, if_pos (by omega)]
  · rw [if_neg d]
    by_cases c : i < q + n
    · rw [if_pos c, h i (by omega) c]
    · rw [if_neg c]
theorem cnt_same (f : Nat → Int) (c : Int) : ∀ k x i, x ≤ i → i < cntF f c k x → f i = c := by
  intro k
  induction k with
  | zero => intro x i h1 h2; simp [cntF] at h2; omega
  | succ k ih =>
    intro x i h1 h2
    rw [cntF] at h2
    by_cases h : f x = c
    · rw [if_pos h] at h2
      by_cases e : i = x
      · rw [e]; exact h
      · exact ih (x + 1) i (by omega) h2
    · rw [if_neg h] at h2; omega
theorem end_rest (f : Nat → Int) : ∀ n i, endF f n ≤ i → i < n → f i = 0 := by
  intro n
  induction n with
  | zero => intro i _ h; omega
  | succ n ih =>
    intro i h1 h2
    by_cases h : f n = 0
    · rw [endF_zero h] at h1
      by_cases e : i = n
      · rw [e]; exact h
      · exact ih i h1 (by omega)
    · rw [endF_one h] at h1; omega
theorem dec_le (n : Nat) (h : 2 ≤ n) (hn : n ≤ 100) : (Lib.decDigits n).length + 1 ≤ n := by
  by_cases h1 : n < 10
  · rw [dec_small n h1]; simp; omega
  · have := dec_lt3 n hn; omega
theorem times_le (n : Nat) (t : UInt8) (hn : n ≤ 100) : (timesB n t).length ≤ n := by
  unfold timesB
  split
  · simp
  · split
    · simp; omega
    · have := dec_le n (by omega) hn
      simp; omega
theorem times_pos (n : Nat) (t : UInt8) (h : 1 ≤ n) : 1 ≤ (timesB n t).length := by
  unfold timesB
  rw [if_neg (by omega)]
  split <;> simp
/-- A row's runs. -/
theorem row_read (s : ByteArray) (W H : Nat) (xs : List Int) (hb : bits xs) (y m : Nat) (hy : y < H) (hW : W ≤ 100) (hm : m ≤ W) : ∀ (k x : Nat) (pre post : List UInt8) (F : Nat), m - x ≤ k → x ≤ m →
    s = txt (pre ++ (runsF (fun i => xs.getD (y * W + i) 0) m (m - x) x ++ post)) → (runsF (fun i => xs.getD (y * W + i) 0) m (m - x) x).length ≤ F →
    ∃ g, F ≤ g + (runsF (fun i => xs.getD (y * W + i) 0) m (m - x) x).length ∧ tagsF s W H F pre.length x y (fillP xs (y * W + x)) = tagsF s W H g (pre.length + (runsF (fun i => xs.getD (y * W + i) 0) m (m - x) x).length) m y (fillP xs (y * W + m)) := by
  intro k
  induction k with
  | zero =>
    intro x pre post F hk hx hs hF
    obtain rfl : x = m := by omega
    rw [runsF_end]
    exact ⟨F, by simp, by simp⟩
  | succ k ih =>
    intro x pre post F hk hx hs hF
    by_cases h : x < m
    · have hn := nextF_lt (f := fun i => xs.getD (y * W + i) 0) h
      rw [runsF_step h] at hs hF ⊢
      have hp := times_pos (nextF (fun i => xs.getD (y * W + i) 0) m x - x) (tagB (xs.getD (y * W + x) 0)) (by omega)
      rw [List.length_append] at hF
      obtain ⟨F', rfl⟩ : ∃ F', F = F' + 1 := ⟨F - 1, by omega⟩
      have hbt : ∀ i, xs.getD i 0 = 0 ∨ xs.getD i 0 = 1 := by
        intro i
        rw [List.getD]
        by_cases h : i < xs.length
        · rw [List.getElem?_eq_getElem h]; exact hb _ (List.getElem_mem h)
        · rw [List.getElem?_eq_none (by omega)]; exact Or.inl rfl
      rw [run_step s W H (nextF (fun i => xs.getD (y * W + i) 0) m x - x) (xs.getD (y * W + x) 0) (hbt _) (by omega) (by omega) pre _ (by rw [hs, List.append_assoc]) x y F' _ hy (by omega)]
      rw [fill_run xs (y * W + x) _ _ (by
        intro i h1 h2
        have := cnt_same (fun i => xs.getD (y * W + i) 0) (xs.getD (y * W + x) 0) (m - x) x (i - y * W) (by omega) (by show i - y * W < nextF (fun i => xs.getD (y * W + i) 0) m x; omega)
        rw [show y * W + (i - y * W) = i by omega] at this
        exact this)]
      obtain ⟨g, g1, g2⟩ := ih (nextF (fun i => xs.getD (y * W + i) 0) m x) (pre ++ timesB (nextF (fun i => xs.getD (y * W + i) 0) m x - x) (tagB (xs.getD (y * W + x) 0))) post F' (by omega) hn.2 (by rw [hs]; simp) (by omega)
      refine ⟨g, by rw [List.length_append]; omega, ?_⟩
      rw [List.length_append] at g2
      rw [List.length_append, ← Nat.add_assoc, ← g2]
      rw [show y * W + x + (nextF (fun i => xs.getD (y * W + i) 0) m x - x) = y * W + nextF (fun i => xs.getD (y * W + i) 0) m x by omega, show x + (nextF (fun i => xs.getD (y * W + i) 0) m x - x) = nextF (fun i => xs.getD (y * W + i) 0) m x by omega]
    · obtain rfl : x = m := by omega
      rw [runsF_end]
      exact ⟨F, by simp, by simp⟩
theorem runsF_le (f : Nat → Int) (m : Nat) (hm : m ≤ 100) : ∀ k x, (runsF f m k x).length ≤ m - x := by
  intro k
  induction k with
  | zero => intro x; simp [runsF]
  | succ k ih =>
    intro x
    rw [runsF]
    split
    · rename_i h
      have h1 := nextF_lt (f := f) h
      have h2 := ih (nextF f m x)
      have h3 := times_le (nextF f m x - x) (tagB (f x)) (by omega)
      rw [List.length_append]
      omega
    · simp
theorem rowsF_sum (W : Nat) (xs : List Int) (hW : W ≤ 100) : ∀ y, y ≤ 100 → (rowsF W xs y).1.length ≤ y * W + (rowsF W xs y).2 ∧ (rowsF W xs y).2 ≤ y ∧ ((rowsF W xs y).2 = y → y = 0) := by
  intro y
  induction y with
  | zero => intro _; simp [rowsF]
  | succ y ih =>
    intro hy
    obtain ⟨h1, h2, h3⟩ := ih (by omega)
    rw [rowsF]
    split
    · rw [Nat.succ_mul]; omega
    · have hm := endF_le (fun i => xs.getD (y * W + i) 0) W
      have a := runsF_le (fun i => xs.getD (y * W + i) 0) (endF (fun i => xs.getD (y * W + i) 0) W) (by omega) (endF (fun i => xs.getD (y * W + i) 0) W) 0
      have b := times_le (y - (rowsF W xs y).2) 36 (by omega)
      simp only [List.length_append]
      rw [Nat.succ_mul]
      omega
theorem rows_read (s : ByteArray) (W H : Nat) (xs : List Int) (hb : bits xs) (hW : W ≤ 100) (hH : H ≤ 100) (hd : List UInt8) (F : Nat) : ∀ (y : Nat) (post : List UInt8), y ≤ H →
    s = txt (hd ++ ((rowsF W xs y).1 ++ post)) → (rowsF W xs y).1.length ≤ F →
    ∃ g x, F ≤ g + (rowsF W xs y).1.length ∧ (((rowsF W xs y).2 = 0 → y = 0 ∨ x = 0 ∨ 1 ≤ y)) ∧ (y = 0 → x = 0) ∧ tagsF s W H F hd.length 0 0 (fillP xs 0) = tagsF s W H g (hd.length + (rowsF W xs y).1.length) x (rowsF W xs y).2 (fillP xs (y * W)) := by
  intro y
  induction y with
  | zero =>
    intro post hy hs hF
    exact ⟨F, 0, by simp [rowsF], by omega, fun _ => rfl, by simp [rowsF]⟩
  | succ y ih =>
    intro post hy hs hF
    obtain ⟨l1, l2, l3⟩ := rowsF_sum W xs hW y (by omega)
    have hm := endF_le (fun i => xs.getD (y * W + i) 0) W
    rw [rowsF] at hs hF ⊢
    by_cases h0 : endF (fun i => xs.getD (y * W + i) 0) W = 0
    · rw [if_pos h0] at hs hF ⊢
      obtain ⟨g, x, g1, -, g2, g3⟩ := ih post (by omega) hs hF
      refine ⟨g, x, g1, by omega, by omega, ?_⟩
      rw [g3, fill_zero xs (y * W) W (by
        intro i h1 h2
        have := end_rest (fun i => xs.getD (y * W + i) 0) W (i - y * W) (by omega) (by omega)
        rw [show y * W + (i - y * W) = i by omega] at this
        exact this), Nat.succ_mul]
    · rw [if_neg h0] at hs hF ⊢
      dsimp only at hs hF ⊢
      simp only [List.length_append] at hF
      obtain ⟨g, x, g1, -, g2, g3⟩ := ih (timesB (y - (rowsF W xs y).2) 36 ++ runsF (fun i => xs.getD (y * W + i) 0) (endF (fun i => xs.getD (y * W + i) 0) W) (endF (fun i => xs.getD (y * W + i) 0) W) 0 ++ post) (by omega) (by rw [hs]; simp) (by omega)
      rw [g3]
      -- down to row y
      have dn : ∃ g', g ≤ g' + (timesB (y - (rowsF W xs y).2) 36).length ∧ tagsF s W H g (hd.length + (rowsF W xs y).1.length) x (rowsF W xs y).2 (fillP xs (y * W)) = tagsF s W H g' (hd.length + (rowsF W xs y).1.length + (timesB (y - (rowsF W xs y).2) 36).length) 0 y (fillP xs (y * W)) := by
        by_cases e : (rowsF W xs y).2 = y
        · have y0 := l3 e
          refine ⟨g, by omega, ?_⟩
          rw [e, Nat.sub_self, show timesB 0 36 = [] from rfl, g2 y0]
          rfl
        · have hp := times_pos (y - (rowsF W xs y).2) 36 (by omega)
          obtain ⟨g', rfl⟩ : ∃ g', g = g' + 1 := ⟨g - 1, by omega⟩
          refine ⟨g', by omega, ?_⟩
          have := end_step s W H (y - (rowsF W xs y).2) (by omega) (by omega) (hd ++ (rowsF W xs y).1) (runsF (fun i => xs.getD (y * W + i) 0) (endF (fun i => xs.getD (y * W + i) 0) W) (endF (fun i => xs.getD (y * W + i) 0) W) 0 ++ post) (by rw [hs]; simp) x (rowsF W xs y).2 g' (fillP xs (y * W)) (by omega)
          rw [List.length_append] at this
          rw [this, show (rowsF W xs y).2 + (y - (rowsF W xs y).2) = y by omega]
      obtain ⟨g', k1, k2⟩ := dn
      rw [k2]
      obtain ⟨g'', m1, m2⟩ := row_read s W H xs hb y (endF (fun i => xs.getD (y * W + i) 0) W) (by omega) hW hm _ 0 (hd ++ (rowsF W xs y).1 ++ timesB (y - (rowsF W xs y).2) 36) post g' (Nat.le_refl _) (by omega) (by rw [hs, Nat.sub_zero]; simp) (by rw [Nat.sub_zero]; omega)
      rw [Nat.sub_zero] at m1 m2
      refine ⟨g'', endF (fun i => xs.getD (y * W + i) 0) W, by simp only [List.length_append]; omega, by omega, by omega, ?_⟩
      simp only [List.length_append, Nat.add_zero] at m2
      rw [m2]
      simp only [List.length_append]
      rw [fill_zero xs (y * W + endF (fun i => xs.getD (y * W + i) 0) W) (W - endF (fun i => xs.getD (y * W + i) 0) W) (by
        intro i h1 h2
        have := end_rest (fun i => xs.getD (y * W + i) 0) W (i - y * W) (by omega) (by omega)
        rw [show y * W + (i - y * W) = i by omega] at this
        exact this)]
      rw [show y * W + endF (fun i => xs.getD (y * W + i) 0) W + (W - endF (fun i => xs.getD (y * W + i) 0) W) = (y + 1) * W by rw [Nat.succ_mul]; omega]
      rw [show hd.length + (rowsF W xs y).1.length + (timesB (y - (rowsF W xs y).2) 36).length + (runsF (fun i => xs.getD (y * W + i) 0) (endF (fun i => xs.getD (y * W + i) 0) W) (endF (fun i => xs.getD (y * W + i) 0) W) 0).length = hd.length + ((rowsF W xs y).1.length + (timesB (y - (rowsF W xs y).2) 36).length + (runsF (fun i => xs.getD (y * W + i) 0) (endF (fun i => xs.getD (y * W + i) 0) W) (endF (fun i => xs.getD (y * W + i) 0) W) 0).length) by omega]
theorem runsB_is (W H : Nat) (xs : List Int) : runsB ⟨W, H, xs⟩ = headB W H ++ ((rowsF W xs H).1 ++ [33, 10]) := by simp [runsB, headB]
theorem runs_back (W H : Nat) (xs : List Int) (hW : W ≤ 100) (hH : H ≤ 100) (hx : xs.length = W * H) (hb : bits xs) : runsS (txt (runsB ⟨W, H, xs⟩)) = .inl (W, H, xs) := by
  obtain ⟨l1, l2, l3⟩ := rowsF_sum W xs hW H hH
  have hz : H * W ≤ 10000 := Nat.mul_le_mul hH hW
  have a1 := dec_lt3 W hW
  have a2 := dec_lt3 H hH
  have hh : (headB W H).length ≤ 20 := by simp [headB]; omega
  have hs : txt (runsB ⟨W, H, xs⟩) = txt (headB W H ++ ((rowsF W xs H).1 ++ [33, 10])) := by rw [runsB_is]
  have hsz : (txt (runsB ⟨W, H, xs⟩)).size = (headB W H).length + ((rowsF W xs H).1.length + 2) := by rw [hs, txt_size]; simp
  unfold runsS
  rw [if_neg (by omega), head_back _ W H hW hH _ hs]
  dsimp only
  have e0 : List.replicate (W * H) (0 : Int) = fillP xs 0 := by simp [fillP, hx]
  obtain ⟨g, x, g1, -, -, g2⟩ := rows_read (txt (runsB ⟨W, H, xs⟩)) W H xs hb hW hH (headB W H) ((txt (runsB ⟨W, H, xs⟩)).size + 1 - (headB W H).length) H [33, 10] (Nat.le_refl _) hs (by omega)
  rw [e0, g2]
  obtain ⟨g', rfl⟩ : ∃ g', g = g' + 1 := ⟨g - 1, by omega⟩
  have := last_step (txt (runsB ⟨W, H, xs⟩)) W H (headB W H ++ (rowsF W xs H).1) (by rw [hs]; simp) x (rowsF W xs H).2 g' (fillP xs (H * W))
  rw [List.length_append] at this
  rw [this]
  dsimp only
  rw [show fillP xs (H * W) = xs by rw [Nat.mul_comm, ← hx]; simp [fillP]]
end Go.Proofs.YtjngjnkecnnmeaaDoor

namespace Go.Proofs.YtjngjnkecnnmeaaDoor
open Go.RowKit
set_option linter.unusedVariables false

theorem list_ne_len {xs ys : List Int} (h : xs.length ≠ ys.length) : decide (xs = ys) = false := by
  simp; intro e; exact h (by rw [e])
theorem list_ne_at {xs ys : List Int} {k : Nat} (hx : k < xs.length) (hy : k < ys.length) (h : xs[k] ≠ ys[k]) : decide (xs = ys) = false := by
  simp; intro e; subst e; exact h rfl

set_option maxHeartbeats 1600000 in
theorem Ints_any (xs ys : List Int) (a b : Option Addr) (n c m d : Nat) (w : World) (hA : ArgP w xs a n c) (hB : ArgP w ys b m d) :
    Calls Tryd.prog 24 #[.slice a n c, .slice b m d] w fun e w' => e = .returned (.bool (decide (xs = ys))) ∧ ∃ q, w' = w.drewN q := by
  have HA := hide' hA
  have HB := hide' hB
  have hlx := hA.len
  have hly := hB.len
  have hma := hA.max
  have hmb := hB.max
  have LX := hide' hlx
  have LY := hide' hly
  unfold maxLen at hma hmb
  by_cases hnm : n = m
  · subst hnm
    clear hA hB hlx hly
    have EQ := hide' (fun (h : ∀ j (h1 : j < xs.length) (h2 : j < ys.length), xs[j] = ys[j]) => show decide (xs = ys) = true by
      simp; exact List.ext_getElem (by rw [← LX.out, ← LY.out]) fun j h1 h2 => h j h1 h2)
    go_enter Tryd.func24, Tryd.ntmps24
    go_wp2
    go_loopw [5] (fun iv wr => ∃ k q : Nat, iv = .int .i64 (k : Int) ∧ k ≤ n ∧ wr = w.drewN q ∧ Hid (∀ j (h1 : j < xs.length) (h2 : j < ys.length), j < k → xs[j] = ys[j])) (fun iv _ => n - (intOf iv).toNat)
    case atStart => exact ⟨0, 0, rfl, by omega, rfl, fun j h1 h2 h => by omega⟩
    case round =>
      obtain ⟨k, q, rfl, hk, rfl, HK⟩ := hrel
      by_cases hkn : (k : Int) < (n : Int)
      · have l1 : k < xs.length := by have := LX.out; omega
        have l2 : k < ys.length := by have := LY.out; omega
        obtain ⟨ga, oa, rfl, -, c1⟩ := HA.out.cells k l1
        obtain ⟨gb, ob, rfl, -, c2⟩ := HB.out.cells k l2
        obtain ⟨x, hx⟩ : ∃ x, xs[k] = x := ⟨_, rfl⟩
        obtain ⟨y, hy⟩ : ∃ y, ys[k] = y := ⟨_, rfl⟩
        rw [hx] at c1
        rw [hy] at c2
        have HX := hide' hx
        have HY := hide' hy
        clear hx hy
        by_cases e : x = y
        · subst e
          have m1 : (x != x) = false := by simp
          go_wp2
          go_quiet (fail)
          go_wp2
          refine ⟨⟨k + 1, q + nq, by go_num, by omega, rfl, fun j h1 h2 h => ?_⟩, by simp [intOf]; omega⟩
          by_cases ej : j = k
          · subst ej; rw [HX.out, HY.out]
          · exact HK.out j h1 h2 (by omega)
        · have m1 : (x != y) = true := by simp [e]
          have F := hide' (list_ne_at l1 l2 (by rw [HX.out, HY.out]; exact e))
          clear e
          go_wp2
          go_quiet (fail)
          go_wp2
          go_ret
          exact ⟨by rw [F.out]; rfl, q + nq, by simp [World.drewN, Nat.add_assoc]⟩
      · have F := hide' (EQ.out fun j h1 h2 => HK.out j h1 h2 (by have := LX.out; omega))
        go_wp2
        go_ret
        exact ⟨by rw [F.out]; rfl, q, rfl⟩
  · have m1 : ((n : Int) != (m : Int)) = true := by simp; omega
    have F := hide' (list_ne_len (xs := xs) (ys := ys) (by rw [← hlx, ← hly]; exact hnm))
    clear hA hB hlx hly hnm
    go_enter Tryd.func24, Tryd.ntmps24
    go_wp2
    go_ret
    exact ⟨by rw [F.out]; rfl, 0, rfl⟩

set_option maxHeartbeats 1600000 in
theorem Alike_any (W H W' H' : Int) (xs ys : List Int) (a b : Option Addr) (n c m d : Nat) (w : World) (hA : ArgP w xs a n c) (hB : ArgP w ys b m d) :
    Calls Tryd.prog 33 #[.agg #[.int .i64 W, .int .i64 H, .slice a n c], .agg #[.int .i64 W', .int .i64 H', .slice b m d]] w fun e w' => e = .returned (.bool (decide (xs = ys) && (W == W') && (H == H'))) ∧ Below w.heap.size w w' := by
  have B := hide' (((Below.refl w.heap.size w).alloc (Nat.le_refl _) (.cells #[.int .i64 W, .int .i64 H, .slice a n c] 51)).alloc (by simp) (.cells #[.int .i64 W', .int .i64 H', .slice b m d] 51))
  have AA := hide' (hA.below B.out)
  have AB := hide' (hB.below B.out)
  obtain ⟨r, hr⟩ : ∃ r, decide (xs = ys) = r := ⟨_, rfl⟩
  have HR := hide' hr
  clear hA hB hr
  cases r
  · go_enter Tryd.func33, Tryd.ntmps33
    go_wp2_with fail
    refine (Ints_any xs ys a b n c m d _ AA.out AB.out).mono ?_
    rw [HR.out]
    rintro e w1 ⟨rfl, q, rfl⟩
    go_wp2
    go_ret
    exact ⟨by rw [HR.out]; simp, below_drewN B.out q⟩
  · cases e1 : (W == W')
    · go_enter Tryd.func33, Tryd.ntmps33
      go_wp2_with fail
      refine (Ints_any xs ys a b n c m d _ AA.out AB.out).mono ?_
      rw [HR.out]
      rintro e w1 ⟨rfl, q, rfl⟩
      go_wp2
      go_ret
      exact ⟨by rw [HR.out]; simp, below_drewN B.out q⟩
    · go_enter Tryd.func33, Tryd.ntmps33
      go_wp2_with fail
      refine (Ints_any xs ys a b n c m d _ AA.out AB.out).mono ?_
      rw [HR.out]
      rintro e w1 ⟨rfl, q, rfl⟩
      go_wp2
      go_ret
      exact ⟨by rw [HR.out]; simp, below_drewN B.out q⟩
end Go.Proofs.YtjngjnkecnnmeaaDoor

namespace Go.Proofs.YtjngjnkecnnmeaaDoor
open Go.RowKit
set_option linter.unusedVariables false

theorem mAll_0 (s : ByteArray) (w : World) (a : Act) (w' : World) : mAll s w 0 a w' = 0 := rfl
theorem mAll_2 (s : ByteArray) (w : World) (a : Act) (w' : World) : mAll s w 2 a w' = 1 := rfl
theorem mAll_1 (s : ByteArray) (w : World) (a : Act) (w' : World) : mAll s w 1 a w' = 2 + (s.size - posOf (w.heap.size + 1) w') := rfl

theorem jumps_ret (J : Nat → Act → World → Prop) (Q : Exit → Act → World → Prop) (a : Act) (w : World) : jumps J Q .ret a w = Q .ret a w := rfl
theorem below_res {w wr : World} (h : Below (w.heap.size + 1) (resW w) wr) : Below w.heap.size w wr :=
  (show Below w.heap.size w (resW w) from (Below.refl _ _).alloc (Nat.le_refl _) _).trans (h.mono (by omega))

def rv0 : Rv := ⟨0, 0, 0, 0, .slice none 0 0, 0, 0, 0, 0⟩
theorem rat_new (w : World) (s : ByteArray) (t : TypeId) : RAt w.heap.size s rv0 (w.alloc (.cells #[.string s, .int .i64 0, .int .i64 0, .int .i64 0, .int .i64 0, .slice none 0 0, .int .i64 0, .int .i64 0, .int .i64 0, .int .i64 0] t)) := by
  refine ⟨fun k hk => ?_, fun k hk => by simp⟩
  rw [World.cell?_alloc_at _ _ _ _ rfl]
  match k, hk with
  | 0, _ => rfl
  | 1, _ => rfl
  | 2, _ => rfl
  | 3, _ => rfl
  | 4, _ => rfl
  | 5, _ => rfl
  | 6, _ => rfl
  | 7, _ => rfl
  | 8, _ => rfl
  | 9, _ => rfl

set_option maxRecDepth 100000 in
set_option maxHeartbeats 6400000 in
theorem pParseRuns (s : ByteArray) (w : World) (hs : s.size ≤ 40000) :
    Calls Tryd.prog 39 #[.string s] w (RunsPost s w) := by
  have n1 : ¬ (40000 : Int) < (s.size : Int) := by omega
  go_enter Tryd.func39, Tryd.ntmps39
  go_wp2
  refine wp_scope_labels (JAll s w) (mAll s w) ?_ ?_
  · have A0 := hide' (rat_new (resW w) s 115)
    rw [resW_size] at A0
    go_wp2_with fail
    refine (pheader (w.heap.size + 1) s rv0 _ A0.out rfl hs).mono ?_
    have B0 := hide' (show Below (w.heap.size + 1) (resW w) ((resW w).alloc (.cells #[.string s, .int .i64 0, .int .i64 0, .int .i64 0, .int .i64 0, .slice none 0 0, .int .i64 0, .int .i64 0, .int .i64 0, .int .i64 0] 115)) from (Below.refl _ _).alloc (by rw [resW_size]; omega) _)
    rintro e wr (⟨W, H, k, g, hh, rfl, a1, hg, C1, r1, lk, lW, lH⟩ | ⟨a, f, hh, rfl, a1, r1⟩)
    · have jc : JCells s w wr { rv0 with i := k, wd := (W : Int), hi := (H : Int), cs := .slice (some ⟨g, 0, none⟩) (W * H) (W * H) } W H g (List.replicate (W * H) 0) :=
        ⟨a1, rfl, rfl, rfl, C1, by simp, by simp [resW] at hg; omega, lW, lH, lk, B0.out.trans (r1.below (Nat.le_refl _) (by simp [resW]))⟩
      have hF0 : fin2 W H (tagsF s W H (s.size + 1 - k) k 0 0 (List.replicate (W * H) 0)) = runsS s := by
        unfold runsS
        rw [if_neg (by omega), hh]
        dsimp only
        cases tagsF s W H (s.size + 1 - k) k 0 0 (List.replicate (W * H) 0) <;> rfl
      obtain ⟨v, x, y, xs, hx, hy, hxw, hyh, jc, hF⟩ : ∃ (v : Rv) (x y : Nat) (xs : List Int), v.rt = (x : Int) ∧ v.dn = (y : Int) ∧ x ≤ W ∧ y ≤ H ∧ JCells s w wr v W H g xs ∧ fin2 W H (tagsF s W H (s.size + 1 - v.i) v.i x y xs) = runsS s :=
        ⟨_, 0, 0, _, rfl, rfl, by omega, by omega, jc, hF0⟩
      clear a1 hg C1 r1 lk hh hF0 A0 B0
      go_wp2_with fail
      go_step3
      have JC := hide' jc
      have hli := jc.li
      have hgb := jc.gb
      have hlw := jc.lw
      have hlh := jc.lh
      have VW := hide' jc.wd
      have VH := hide' jc.hi
      have VC := hide' jc.cs
      have VX := hide' hx
      have VY := hide' hy
      have HF := hide' hF
      clear jc hx hy hF
      go_wp2_with fail
      refine (pskip (w.heap.size + 1) s v _ JC.out.rat hli hs).mono ?_
      rintro e w2 ⟨rfl, a2, r2⟩
      have J2 := hide' (JC.out.rd a2 r2 rfl rfl rfl (sk_le hli))
      have R2 := hide' r2
      clear a2 r2
      go_wp2_with fail
      refine (pcount (w.heap.size + 1) s _ _ J2.out.rat (sk_le hli) hs).mono ?_
      rintro e w3 (⟨hb, rfl, a3, r3, hk⟩ | ⟨hb, rfl, ⟨t, a3⟩, r3⟩)
      rotate_left
      · have J3 := hide' (JWrong.mk' J2.out a3 r3 (sk s v.i) 2 rfl rfl (by rw [← HF.out, tagsF_bad hli (tag1_bad hb)]; rfl))
        clear a3 r3
        go_wp2
        go_step3
        exact ⟨⟨_, _, _, _, _, _, _, _, _, _, _, _, _, _, _, _, _, _, _, _, _, _, _, _, _, _, _, _, _, _, _, _, _, _, _, _, _, _, _, _, _, _, _, _, rfl⟩, Or.inl ⟨rfl, J3.out⟩⟩
      · have J3 := hide' (JC.out.rd (v' := { v with i := tagK s (sk s v.i), bg := (sk s v.i : Int), tm := (tagN s (sk s v.i) : Int) }) a3 (show Rd (w.heap.size + 1) wr w3 from (R2.out).trans r3) rfl rfl rfl hk)
        have HB := hide' (show tagBad s (sk s v.i) = false from hb)
        have hk' : tagK s (sk s v.i) ≤ s.size := hk
        have hn := tagN_lt HB.out
        clear a3 r3 hb hk
        go_wp2_with fail
        refine (pnext (w.heap.size + 1) s _ _ J3.out.rat hk').mono ?_
        rintro e w4 ⟨rfl, n, rfl⟩
        have J4 := hide' (J3.out.rd (J3.out.rat.drewN n) ((Rd.refl _ _).drewN n) rfl rfl rfl hk')
        clear J2 J3
        by_cases q98 : bt s (tagK s (sk s v.i)) = 98
        · have Q := hide' q98
          have n98 : ((bt s (tagK s (sk s v.i)) : Int) == 98) = true := by simp; omega
          have hlt := bt_pos (s := s) (i := tagK s (sk s v.i)) (by omega)
          clear q98
          go_wp2_with fail
          refine (pcells (w.heap.size + 1) g s _ xs _ (w.heap.size + 1) (sk s v.i) x y (tagN s (sk s v.i)) W H 0 J4.out.rat J4.out.cel hlt hs rfl VX.out VY.out rfl VW.out VH.out VC.out J4.out.len (by omega) (Nat.le_refl _) (by omega) hxw hyh hlw hlh hn).mono ?_
          rintro e w5 (⟨hc, rfl, a5, r5⟩ | ⟨hc, rfl, a5, C5, b5⟩)
          · have J5 := hide' (JWrong.mk' J4.out a5 r5 (sk s v.i) 1 rfl rfl (by rw [← HF.out, tagsF_bad hli (tag1_cells_bad HB.out hlt (Or.inl Q.out) hc)]; rfl))
            clear a5 r5
            go_wp2
            go_step3
            exact ⟨⟨_, _, _, _, _, _, _, _, _, _, _, _, _, _, _, _, _, _, _, _, _, _, _, _, _, _, _, _, _, _, _, _, _, _, _, _, _, _, _, _, _, _, _, _, rfl⟩, Or.inl ⟨rfl, J5.out⟩⟩
          · have J5 := hide' (J4.out.cells a5 b5 C5 (setRun_length _ _ _ _) rfl rfl rfl (show tagK s (sk s v.i) + 1 ≤ s.size by omega))
            have F5 := hide' (show fin2 W H (tagsF s W H (s.size + 1 - (tagK s (sk s v.i) + 1)) (tagK s (sk s v.i) + 1) (x + tagN s (sk s v.i)) y (setRun xs (y * W + x) (tagN s (sk s v.i)) 0)) = runsS s by rw [← HF.out, tagsF_on hli (tag1_cells_on 0 HB.out hlt (Or.inl Q.out) (by rw [Q.out]; simp) hc)])
            clear a5 C5 b5
            go_wp2
            go_step3
            exact ⟨⟨_, _, _, _, _, _, _, _, _, _, _, _, _, _, _, _, _, _, _, _, _, _, _, _, _, _, _, _, _, _, _, _, _, _, _, _, _, _, _, _, _, _, _, _, rfl⟩, Or.inr (Or.inl ⟨rfl, ⟨_, W, H, g, x + tagN s (sk s v.i), y, _, J5.out, rfl, VY.out, by omega, by omega, F5.out⟩⟩)⟩
        have n98 : ((bt s (tagK s (sk s v.i)) : Int) == 98) = false := by simp; omega
        by_cases q111 : bt s (tagK s (sk s v.i)) = 111
        · have Q := hide' q111
          have n111 : ((bt s (tagK s (sk s v.i)) : Int) == 111) = true := by simp; omega
          have hlt := bt_pos (s := s) (i := tagK s (sk s v.i)) (by omega)
          clear q98 q111
          go_wp2_with fail
          refine (pcells (w.heap.size + 1) g s _ xs _ (w.heap.size + 1) (sk s v.i) x y (tagN s (sk s v.i)) W H 1 J4.out.rat J4.out.cel hlt hs rfl VX.out VY.out rfl VW.out VH.out VC.out J4.out.len (by omega) (Nat.le_refl _) (by omega) hxw hyh hlw hlh hn).mono ?_
          rintro e w5 (⟨hc, rfl, a5, r5⟩ | ⟨hc, rfl, a5, C5, b5⟩)
          · have J5 := hide' (JWrong.mk' J4.out a5 r5 (sk s v.i) 1 rfl rfl (by rw [← HF.out, tagsF_bad hli (tag1_cells_bad HB.out hlt (Or.inr Q.out) hc)]; rfl))
            clear a5 r5
            go_wp2
            go_step3
            exact ⟨⟨_, _, _, _, _, _, _, _, _, _, _, _, _, _, _, _, _, _, _, _, _, _, _, _, _, _, _, _, _, _, _, _, _, _, _, _, _, _, _, _, _, _, _, _, rfl⟩, Or.inl ⟨rfl, J5.out⟩⟩
          · have J5 := hide' (J4.out.cells a5 b5 C5 (setRun_length _ _ _ _) rfl rfl rfl (show tagK s (sk s v.i) + 1 ≤ s.size by omega))
            have F5 := hide' (show fin2 W H (tagsF s W H (s.size + 1 - (tagK s (sk s v.i) + 1)) (tagK s (sk s v.i) + 1) (x + tagN s (sk s v.i)) y (setRun xs (y * W + x) (tagN s (sk s v.i)) 1)) = runsS s by rw [← HF.out, tagsF_on hli (tag1_cells_on 1 HB.out hlt (Or.inr Q.out) (by rw [Q.out]; simp) hc)])
            clear a5 C5 b5
            go_wp2
            go_step3
            exact ⟨⟨_, _, _, _, _, _, _, _, _, _, _, _, _, _, _, _, _, _, _, _, _, _, _, _, _, _, _, _, _, _, _, _, _, _, _, _, _, _, _, _, _, _, _, _, rfl⟩, Or.inr (Or.inl ⟨rfl, ⟨_, W, H, g, x + tagN s (sk s v.i), y, _, J5.out, rfl, VY.out, by omega, by omega, F5.out⟩⟩)⟩
        have n111 : ((bt s (tagK s (sk s v.i)) : Int) == 111) = false := by simp; omega
        by_cases q36 : bt s (tagK s (sk s v.i)) = 36
        · have Q := hide' q36
          have n36 : ((bt s (tagK s (sk s v.i)) : Int) == 36) = true := by simp; omega
          have hlt := bt_pos (s := s) (i := tagK s (sk s v.i)) (by omega)
          clear q98 q111 q36
          go_wp2_with fail
          refine (prows (w.heap.size + 1) s _ _ (sk s v.i) y (tagN s (sk s v.i)) H J4.out.rat hlt hs rfl VY.out rfl VH.out (by omega) hn).mono ?_
          rintro e w5 (⟨hc, rfl, a5, r5⟩ | ⟨hc, rfl, a5, r5⟩)
          · have J5 := hide' (JWrong.mk' J4.out a5 r5 (sk s v.i) 1 rfl rfl (by rw [← HF.out, tagsF_bad hli (tag1_rows_bad HB.out hlt Q.out hc)]; rfl))
            clear a5 r5
            go_wp2
            go_step3
            exact ⟨⟨_, _, _, _, _, _, _, _, _, _, _, _, _, _, _, _, _, _, _, _, _, _, _, _, _, _, _, _, _, _, _, _, _, _, _, _, _, _, _, _, _, _, _, _, rfl⟩, Or.inl ⟨rfl, J5.out⟩⟩
          · have J5 := hide' (J4.out.rd a5 r5 rfl rfl rfl (show tagK s (sk s v.i) + 1 ≤ s.size by omega))
            have F5 := hide' (show fin2 W H (tagsF s W H (s.size + 1 - (tagK s (sk s v.i) + 1)) (tagK s (sk s v.i) + 1) 0 (y + tagN s (sk s v.i)) xs) = runsS s by rw [← HF.out, tagsF_on hli (tag1_rows_on HB.out hlt Q.out hc)])
            clear a5 r5
            go_wp2
            go_step3
            exact ⟨⟨_, _, _, _, _, _, _, _, _, _, _, _, _, _, _, _, _, _, _, _, _, _, _, _, _, _, _, _, _, _, _, _, _, _, _, _, _, _, _, _, _, _, _, _, rfl⟩, Or.inr (Or.inl ⟨rfl, ⟨_, W, H, g, 0, y + tagN s (sk s v.i), xs, J5.out, rfl, rfl, by omega, by omega, F5.out⟩⟩)⟩
        have n36 : ((bt s (tagK s (sk s v.i)) : Int) == 36) = false := by simp; omega
        by_cases q33 : bt s (tagK s (sk s v.i)) = 33
        · have Q := hide' q33
          have n33 : ((bt s (tagK s (sk s v.i)) : Int) == 33) = true := by simp; omega
          have hlt := bt_pos (s := s) (i := tagK s (sk s v.i)) (by omega)
          clear q98 q111 q36 q33
          go_wp2_with fail
          refine (pend (w.heap.size + 1) s _ _ (sk s v.i) J4.out.rat hlt hs rfl).mono ?_
          rintro e w5 (⟨hc, rfl, a5, r5⟩ | ⟨hc, rfl, a5, r5⟩)
          · have J5 := hide' (JWrong.mk' J4.out a5 r5 (tagK s (sk s v.i)) 2 rfl rfl (by rw [← HF.out, tagsF_bad hli (tag1_end_bad HB.out hlt Q.out hc)]; rfl))
            clear a5 r5
            go_wp2
            go_step3
            exact ⟨⟨_, _, _, _, _, _, _, _, _, _, _, _, _, _, _, _, _, _, _, _, _, _, _, _, _, _, _, _, _, _, _, _, _, _, _, _, _, _, _, _, _, _, _, _, rfl⟩, Or.inl ⟨rfl, J5.out⟩⟩
          · have J5 := hide' (J4.out.rd a5 r5 rfl rfl rfl (show tagK s (sk s v.i) + 1 ≤ s.size by omega))
            have F5 := hide' (show fin3 s W H (tagK s (sk s v.i) + 1) xs = runsS s by rw [← HF.out, fin_end hli (tag1_end HB.out hlt Q.out hc)])
            clear a5 r5
            go_wp2
            go_step3
            exact ⟨⟨_, _, _, _, _, _, _, _, _, _, _, _, _, _, _, _, _, _, _, _, _, _, _, _, _, _, _, _, _, _, _, _, _, _, _, _, _, _, _, _, _, _, _, _, rfl⟩, Or.inr (Or.inr ⟨rfl, ⟨_, W, H, g, xs, J5.out, F5.out⟩⟩)⟩
        have n33 : ((bt s (tagK s (sk s v.i)) : Int) == 33) = false := by simp; omega
        have Q := hide' (And.intro q98 (And.intro q111 (And.intro q36 q33)))
        have c1 := J4.out.rat.ten.c1
        dsimp only at c1
        clear q98 q111 q36 q33
        go_wp2_with fail
        refine (pfail (w.heap.size + 1) s _ (tagK s (sk s v.i)) _ _ _ rfl J4.out.rat).mono ?_
        rintro e w5 ⟨rfl, a5, r5⟩
        have J5 := hide' (JWrong.mk' J4.out a5 r5 (tagK s (sk s v.i)) 2 rfl rfl (by rw [← HF.out, tagsF_bad hli (tag1_none HB.out Q.out.1 Q.out.2.1 Q.out.2.2.1 Q.out.2.2.2)]; rfl))
        clear a5 r5
        go_wp2
        go_step3
        exact ⟨⟨_, _, _, _, _, _, _, _, _, _, _, _, _, _, _, _, _, _, _, _, _, _, _, _, _, _, _, _, _, _, _, _, _, _, _, _, _, _, _, _, _, _, _, _, rfl⟩, Or.inl ⟨rfl, J5.out⟩⟩
    · have J1 : JWrong s w wr := ⟨⟨a, f, _, a1, rfl, rfl, by unfold runsS; rw [if_neg (by omega), hh]⟩, B0.out.trans (r1.below (Nat.le_refl _) (by simp [resW]))⟩
      clear a1 r1
      go_wp2
      go_step3
      exact ⟨⟨_, _, _, _, _, _, _, _, _, _, _, _, _, _, _, _, _, _, _, _, _, _, _, _, _, _, _, _, _, _, _, _, _, _, _, _, _, _, _, _, _, _, _, _, rfl⟩, Or.inl ⟨rfl, J1⟩⟩
  · rintro l a' wr ⟨⟨u6, u7, u8, u9, u10, u11, u12, u13, u14, u15, u16, u17, u18, u19, u20, u21, u22, u23, u24, u25, u26, u27, u28, u29, u30, u31, u32, u33, u34, u35, u36, u37, u38, u39, u40, u41, u42, u43, u44, u45, u46, u47, u48, u49, rfl⟩, hl⟩
    rcases hl with ⟨rfl, ⟨rr, ff, v, ra, ri, rf, re⟩, rb⟩ | ⟨rfl, ⟨v, W, H, g, x, y, xs, jc, hx, hy, hxw, hyh, hF⟩⟩ | ⟨rfl, ⟨v, W, H, g, xs, jc, hF⟩⟩
    · refine ⟨_, rfl, ?_⟩
      have x1 := ra.ten.c1
      have x2 := ra.ten.c2
      rw [ri] at x1
      rw [rf] at x2
      obtain ⟨y0, y1, y2, g0, g1, g2⟩ := (resW_res w).below (by rw [resW_size]; omega) rb
      have RB := hide' rb
      have RE := hide' re
      clear ra ri rf rb re
      go_wp2
      go_region
      go_wp2
      rw [jumps_ret]
      refine bodyPost_ret (v := .tuple #[.agg #[.int .i64 0, .int .i64 0, .slice none 0 0], .int .i64 (rr : Int), .iface 87 (.int .i64 (ff : Int))]) (by simp [results, Tryd.results39, go_sem, y0, y1, y2]) rfl ?_
      exact ⟨(((below_res RB.out).setCell (Nat.le_refl _) _).setCell (Nat.le_refl _) _ |>.setCell (Nat.le_refl _) _).trans ⟨rfl, rfl, rfl, Nat.le_refl _, fun _ _ => rfl⟩, Or.inr ⟨rr, ff, RE.out, rfl⟩⟩
    · refine ⟨_, rfl, ?_⟩
      have JC := hide' jc
      have hli := jc.li
      have hgb := jc.gb
      have hlw := jc.lw
      have hlh := jc.lh
      have VW := hide' jc.wd
      have VH := hide' jc.hi
      have VC := hide' jc.cs
      have VX := hide' hx
      have VY := hide' hy
      have HF := hide' hF
      clear jc hx hy hF
      go_wp2_with fail
      refine (pskip (w.heap.size + 1) s v _ JC.out.rat hli hs).mono ?_
      rintro e w2 ⟨rfl, a2, r2⟩
      have J2 := hide' (JC.out.rd a2 r2 rfl rfl rfl (sk_le hli))
      have R2 := hide' r2
      clear a2 r2
      go_wp2_with fail
      refine (pcount (w.heap.size + 1) s _ _ J2.out.rat (sk_le hli) hs).mono ?_
      rintro e w3 (⟨hb, rfl, a3, r3, hk⟩ | ⟨hb, rfl, ⟨t, a3⟩, r3⟩)
      rotate_left
      · have J3 := hide' (JWrong.mk' J2.out a3 r3 (sk s v.i) 2 rfl rfl (by rw [← HF.out, tagsF_bad hli (tag1_bad hb)]; rfl))
        clear a3 r3
        go_wp2
        go_step3
        exact ⟨⟨⟨_, _, _, _, _, _, _, _, _, _, _, _, _, _, _, _, _, _, _, _, _, _, _, _, _, _, _, _, _, _, _, _, _, _, _, _, _, _, _, _, _, _, _, _, rfl⟩, Or.inl ⟨rfl, J3.out⟩⟩, by rw [mAll_0, mAll_1]; omega⟩
      · have J3 := hide' (JC.out.rd (v' := { v with i := tagK s (sk s v.i), bg := (sk s v.i : Int), tm := (tagN s (sk s v.i) : Int) }) a3 (show Rd (w.heap.size + 1) wr w3 from (R2.out).trans r3) rfl rfl rfl hk)
        have HB := hide' (show tagBad s (sk s v.i) = false from hb)
        have hk' : tagK s (sk s v.i) ≤ s.size := hk
        have hn := tagN_lt HB.out
        clear a3 r3 hb hk
        go_wp2_with fail
        refine (pnext (w.heap.size + 1) s _ _ J3.out.rat hk').mono ?_
        rintro e w4 ⟨rfl, n, rfl⟩
        have J4 := hide' (J3.out.rd (J3.out.rat.drewN n) ((Rd.refl _ _).drewN n) rfl rfl rfl hk')
        clear J2 J3
        by_cases q98 : bt s (tagK s (sk s v.i)) = 98
        · have Q := hide' q98
          have n98 : ((bt s (tagK s (sk s v.i)) : Int) == 98) = true := by simp; omega
          have hlt := bt_pos (s := s) (i := tagK s (sk s v.i)) (by omega)
          clear q98
          go_wp2_with fail
          refine (pcells (w.heap.size + 1) g s _ xs _ (w.heap.size + 1) (sk s v.i) x y (tagN s (sk s v.i)) W H 0 J4.out.rat J4.out.cel hlt hs rfl VX.out VY.out rfl VW.out VH.out VC.out J4.out.len (by omega) (Nat.le_refl _) (by omega) hxw hyh hlw hlh hn).mono ?_
          rintro e w5 (⟨hc, rfl, a5, r5⟩ | ⟨hc, rfl, a5, C5, b5⟩)
          · have J5 := hide' (JWrong.mk' J4.out a5 r5 (sk s v.i) 1 rfl rfl (by rw [← HF.out, tagsF_bad hli (tag1_cells_bad HB.out hlt (Or.inl Q.out) hc)]; rfl))
            clear a5 r5
            go_wp2
            go_step3
            exact ⟨⟨⟨_, _, _, _, _, _, _, _, _, _, _, _, _, _, _, _, _, _, _, _, _, _, _, _, _, _, _, _, _, _, _, _, _, _, _, _, _, _, _, _, _, _, _, _, rfl⟩, Or.inl ⟨rfl, J5.out⟩⟩, by rw [mAll_0, mAll_1]; omega⟩
          · have J5 := hide' (J4.out.cells a5 b5 C5 (setRun_length _ _ _ _) rfl rfl rfl (show tagK s (sk s v.i) + 1 ≤ s.size by omega))
            have F5 := hide' (show fin2 W H (tagsF s W H (s.size + 1 - (tagK s (sk s v.i) + 1)) (tagK s (sk s v.i) + 1) (x + tagN s (sk s v.i)) y (setRun xs (y * W + x) (tagN s (sk s v.i)) 0)) = runsS s by rw [← HF.out, tagsF_on hli (tag1_cells_on 0 HB.out hlt (Or.inl Q.out) (by rw [Q.out]; simp) hc)])
            clear a5 C5 b5
            go_wp2
            go_step3
            refine ⟨⟨⟨_, _, _, _, _, _, _, _, _, _, _, _, _, _, _, _, _, _, _, _, _, _, _, _, _, _, _, _, _, _, _, _, _, _, _, _, _, _, _, _, _, _, _, _, rfl⟩, Or.inr (Or.inl ⟨rfl, ⟨_, W, H, g, x + tagN s (sk s v.i), y, _, J5.out, rfl, VY.out, by omega, by omega, F5.out⟩⟩)⟩, ?_⟩
            rw [mAll_1, mAll_1, J5.out.rat.posOf, JC.out.rat.posOf]
            have h1 := sk_ge s v.i
            have h2 := tagK_ge s (sk s v.i)
            dsimp only
            omega
        have n98 : ((bt s (tagK s (sk s v.i)) : Int) == 98) = false := by simp; omega
        by_cases q111 : bt s (tagK s (sk s v.i)) = 111
        · have Q := hide' q111
          have n111 : ((bt s (tagK s (sk s v.i)) : Int) == 111) = true := by simp; omega
          have hlt := bt_pos (s := s) (i := tagK s (sk s v.i)) (by omega)
          clear q98 q111
          go_wp2_with fail
          refine (pcells (w.heap.size + 1) g s _ xs _ (w.heap.size + 1) (sk s v.i) x y (tagN s (sk s v.i)) W H 1 J4.out.rat J4.out.cel hlt hs rfl VX.out VY.out rfl VW.out VH.out VC.out J4.out.len (by omega) (Nat.le_refl _) (by omega) hxw hyh hlw hlh hn).mono ?_
          rintro e w5 (⟨hc, rfl, a5, r5⟩ | ⟨hc, rfl, a5, C5, b5⟩)
          · have J5 := hide' (JWrong.mk' J4.out a5 r5 (sk s v.i) 1 rfl rfl (by rw [← HF.out, tagsF_bad hli (tag1_cells_bad HB.out hlt (Or.inr Q.out) hc)]; rfl))
            clear a5 r5
            go_wp2
            go_step3
            exact ⟨⟨⟨_, _, _, _, _, _, _, _, _, _, _, _, _, _, _, _, _, _, _, _, _, _, _, _, _, _, _, _, _, _, _, _, _, _, _, _, _, _, _, _, _, _, _, _, rfl⟩, Or.inl ⟨rfl, J5.out⟩⟩, by rw [mAll_0, mAll_1]; omega⟩
          · have J5 := hide' (J4.out.cells a5 b5 C5 (setRun_length _ _ _ _) rfl rfl rfl (show tagK s (sk s v.i) + 1 ≤ s.size by omega))
            have F5 := hide' (show fin2 W H (tagsF s W H (s.size + 1 - (tagK s (sk s v.i) + 1)) (tagK s (sk s v.i) + 1) (x + tagN s (sk s v.i)) y (setRun xs (y * W + x) (tagN s (sk s v.i)) 1)) = runsS s by rw [← HF.out, tagsF_on hli (tag1_cells_on 1 HB.out hlt (Or.inr Q.out) (by rw [Q.out]; simp) hc)])
            clear a5 C5 b5
            go_wp2
            go_step3
            refine ⟨⟨⟨_, _, _, _, _, _, _, _, _, _, _, _, _, _, _, _, _, _, _, _, _, _, _, _, _, _, _, _, _, _, _, _, _, _, _, _, _, _, _, _, _, _, _, _, rfl⟩, Or.inr (Or.inl ⟨rfl, ⟨_, W, H, g, x + tagN s (sk s v.i), y, _, J5.out, rfl, VY.out, by omega, by omega, F5.out⟩⟩)⟩, ?_⟩
            rw [mAll_1, mAll_1, J5.out.rat.posOf, JC.out.rat.posOf]
            have h1 := sk_ge s v.i
            have h2 := tagK_ge s (sk s v.i)
            dsimp only
            omega
        have n111 : ((bt s (tagK s (sk s v.i)) : Int) == 111) = false := by simp; omega
        by_cases q36 : bt s (tagK s (sk s v.i)) = 36
        · have Q := hide' q36
          have n36 : ((bt s (tagK s (sk s v.i)) : Int) == 36) = true := by simp; omega
          have hlt := bt_pos (s := s) (i := tagK s (sk s v.i)) (by omega)
          clear q98 q111 q36
          go_wp2_with fail
          refine (prows (w.heap.size + 1) s _ _ (sk s v.i) y (tagN s (sk s v.i)) H J4.out.rat hlt hs rfl VY.out rfl VH.out (by omega) hn).mono ?_
          rintro e w5 (⟨hc, rfl, a5, r5⟩ | ⟨hc, rfl, a5, r5⟩)
          · have J5 := hide' (JWrong.mk' J4.out a5 r5 (sk s v.i) 1 rfl rfl (by rw [← HF.out, tagsF_bad hli (tag1_rows_bad HB.out hlt Q.out hc)]; rfl))
            clear a5 r5
            go_wp2
            go_step3
            exact ⟨⟨⟨_, _, _, _, _, _, _, _, _, _, _, _, _, _, _, _, _, _, _, _, _, _, _, _, _, _, _, _, _, _, _, _, _, _, _, _, _, _, _, _, _, _, _, _, rfl⟩, Or.inl ⟨rfl, J5.out⟩⟩, by rw [mAll_0, mAll_1]; omega⟩
          · have J5 := hide' (J4.out.rd a5 r5 rfl rfl rfl (show tagK s (sk s v.i) + 1 ≤ s.size by omega))
            have F5 := hide' (show fin2 W H (tagsF s W H (s.size + 1 - (tagK s (sk s v.i) + 1)) (tagK s (sk s v.i) + 1) 0 (y + tagN s (sk s v.i)) xs) = runsS s by rw [← HF.out, tagsF_on hli (tag1_rows_on HB.out hlt Q.out hc)])
            clear a5 r5
            go_wp2
            go_step3
            refine ⟨⟨⟨_, _, _, _, _, _, _, _, _, _, _, _, _, _, _, _, _, _, _, _, _, _, _, _, _, _, _, _, _, _, _, _, _, _, _, _, _, _, _, _, _, _, _, _, rfl⟩, Or.inr (Or.inl ⟨rfl, ⟨_, W, H, g, 0, y + tagN s (sk s v.i), xs, J5.out, rfl, rfl, by omega, by omega, F5.out⟩⟩)⟩, ?_⟩
            rw [mAll_1, mAll_1, J5.out.rat.posOf, JC.out.rat.posOf]
            have h1 := sk_ge s v.i
            have h2 := tagK_ge s (sk s v.i)
            dsimp only
            omega
        have n36 : ((bt s (tagK s (sk s v.i)) : Int) == 36) = false := by simp; omega
        by_cases q33 : bt s (tagK s (sk s v.i)) = 33
        · have Q := hide' q33
          have n33 : ((bt s (tagK s (sk s v.i)) : Int) == 33) = true := by simp; omega
          have hlt := bt_pos (s := s) (i := tagK s (sk s v.i)) (by omega)
          clear q98 q111 q36 q33
          go_wp2_with fail
          refine (pend (w.heap.size + 1) s _ _ (sk s v.i) J4.out.rat hlt hs rfl).mono ?_
          rintro e w5 (⟨hc, rfl, a5, r5⟩ | ⟨hc, rfl, a5, r5⟩)
          · have J5 := hide' (JWrong.mk' J4.out a5 r5 (tagK s (sk s v.i)) 2 rfl rfl (by rw [← HF.out, tagsF_bad hli (tag1_end_bad HB.out hlt Q.out hc)]; rfl))
            clear a5 r5
            go_wp2
            go_step3
            exact ⟨⟨⟨_, _, _, _, _, _, _, _, _, _, _, _, _, _, _, _, _, _, _, _, _, _, _, _, _, _, _, _, _, _, _, _, _, _, _, _, _, _, _, _, _, _, _, _, rfl⟩, Or.inl ⟨rfl, J5.out⟩⟩, by rw [mAll_0, mAll_1]; omega⟩
          · have J5 := hide' (J4.out.rd a5 r5 rfl rfl rfl (show tagK s (sk s v.i) + 1 ≤ s.size by omega))
            have F5 := hide' (show fin3 s W H (tagK s (sk s v.i) + 1) xs = runsS s by rw [← HF.out, fin_end hli (tag1_end HB.out hlt Q.out hc)])
            clear a5 r5
            go_wp2
            go_step3
            exact ⟨⟨⟨_, _, _, _, _, _, _, _, _, _, _, _, _, _, _, _, _, _, _, _, _, _, _, _, _, _, _, _, _, _, _, _, _, _, _, _, _, _, _, _, _, _, _, _, rfl⟩, Or.inr (Or.inr ⟨rfl, ⟨_, W, H, g, xs, J5.out, F5.out⟩⟩)⟩, by rw [mAll_2, mAll_1]; omega⟩
        have n33 : ((bt s (tagK s (sk s v.i)) : Int) == 33) = false := by simp; omega
        have Q := hide' (And.intro q98 (And.intro q111 (And.intro q36 q33)))
        have c1 := J4.out.rat.ten.c1
        dsimp only at c1
        clear q98 q111 q36 q33
        go_wp2_with fail
        refine (pfail (w.heap.size + 1) s _ (tagK s (sk s v.i)) _ _ _ rfl J4.out.rat).mono ?_
        rintro e w5 ⟨rfl, a5, r5⟩
        have J5 := hide' (JWrong.mk' J4.out a5 r5 (tagK s (sk s v.i)) 2 rfl rfl (by rw [← HF.out, tagsF_bad hli (tag1_none HB.out Q.out.1 Q.out.2.1 Q.out.2.2.1 Q.out.2.2.2)]; rfl))
        clear a5 r5
        go_wp2
        go_step3
        exact ⟨⟨⟨_, _, _, _, _, _, _, _, _, _, _, _, _, _, _, _, _, _, _, _, _, _, _, _, _, _, _, _, _, _, _, _, _, _, _, _, _, _, _, _, _, _, _, _, rfl⟩, Or.inl ⟨rfl, J5.out⟩⟩, by rw [mAll_0, mAll_1]; omega⟩
    · refine ⟨_, rfl, ?_⟩
      have JC := hide' jc
      have hli := jc.li
      have VW := hide' jc.wd
      have VH := hide' jc.hi
      have VC := hide' jc.cs
      have HF := hide' hF
      clear jc hF
      go_wp2_with fail
      refine (pskip (w.heap.size + 1) s v _ JC.out.rat hli hs).mono ?_
      rintro e w2 ⟨rfl, a2, r2⟩
      have J2 := hide' (JC.out.rd a2 r2 rfl rfl rfl (sk_le hli))
      clear a2 r2
      have x1 := J2.out.rat.ten.c1
      have x3 := J2.out.rat.ten.c3
      have x4 := J2.out.rat.ten.c4
      have x5 := J2.out.rat.ten.c5
      dsimp only at x1 x3 x4 x5
      rw [VW.out] at x3
      rw [VH.out] at x4
      rw [VC.out] at x5
      obtain ⟨y0, y1, y2, g0, g1, g2⟩ := (resW_res w).below (by rw [resW_size]; omega) J2.out.below
      by_cases q : sk s v.i = s.size
      · have n2 : ((sk s v.i : Int) == (s.size : Int)) = true := by simp; omega
        have RE := hide' (show runsS s = .inl (W, H, xs) by rw [← HF.out]; unfold fin3; rw [if_pos q])
        clear q
        go_wp2
        rw [jumps_ret]
        refine bodyPost_ret (v := .tuple #[.agg #[.int .i64 (W : Int), .int .i64 (H : Int), .slice (some ⟨g, 0, none⟩) (W * H) (W * H)], .int .i64 0, .nilIface]) (by simp [results, Tryd.results39, go_sem, y0, y1, y2]) rfl ?_
        have hg := J2.out.gb
        refine ⟨((below_res J2.out.below).setCell (Nat.le_refl _) _).setCell (Nat.le_refl _) _ |>.setCell (Nat.le_refl _) _, Or.inl ⟨W, H, xs, g, RE.out, rfl, ?_, J2.out.len, J2.out.lw, J2.out.lh⟩⟩
        exact ((J2.out.cel.rd ((Rd.refl w.heap.size _).set 0 _) (by omega)).rd ((Rd.refl w.heap.size _).set 1 _) (by omega)).rd ((Rd.refl w.heap.size _).set 2 _) (by omega)
      · have n2 : ((sk s v.i : Int) == (s.size : Int)) = false := by simp; omega
        have RE0 := hide' (show runsS s = .inr (sk s v.i, 2) by rw [← HF.out]; unfold fin3; rw [if_neg q])
        clear q y0 y1 y2 g0 g1 g2
        go_wp2_with fail
        refine (pfail (w.heap.size + 1) s _ (sk s v.i) _ _ _ rfl J2.out.rat).mono ?_
        rintro e wr' ⟨rfl, a5, r5⟩
        have J5 := JWrong.mk' J2.out a5 r5 (sk s v.i) 2 rfl rfl RE0.out
        clear a5 r5 x1 x3 x4 x5
        obtain ⟨⟨rr, ff, v', ra, ri, rf, re⟩, rb⟩ := J5
        go_wp2_with fail
        go_step3
        have x1 := ra.ten.c1
        have x2 := ra.ten.c2
        rw [ri] at x1
        rw [rf] at x2
        obtain ⟨y0, y1, y2, g0, g1, g2⟩ := (resW_res w).below (by rw [resW_size]; omega) rb
        have RB := hide' rb
        have RE := hide' re
        clear ra ri rf rb re
        go_wp2
        go_region
        go_wp2
        rw [jumps_ret]
        refine bodyPost_ret (v := .tuple #[.agg #[.int .i64 0, .int .i64 0, .slice none 0 0], .int .i64 (rr : Int), .iface 87 (.int .i64 (ff : Int))]) (by simp [results, Tryd.results39, go_sem, y0, y1, y2]) rfl ?_
        exact ⟨(((below_res RB.out).setCell (Nat.le_refl _) _).setCell (Nat.le_refl _) _ |>.setCell (Nat.le_refl _) _).trans ⟨rfl, rfl, rfl, Nat.le_refl _, fun _ _ => rfl⟩, Or.inr ⟨rr, ff, RE.out, rfl⟩⟩
end Go.Proofs.YtjngjnkecnnmeaaDoor

namespace Go.Proofs.YtjngjnkecnnmeaaDoor
open Go.RowKit
set_option linter.unusedVariables false

set_option maxRecDepth 100000 in
set_option maxHeartbeats 1600000 in
theorem pParseRuns_full (s : ByteArray) (w : World) (hf : 40000 < s.size) (hs : s.size ≤ maxLen) :
    Calls Tryd.prog 39 #[.string s] w (RunsPost s w) := by
  have n1 : (40000 : Int) < (s.size : Int) := by omega
  unfold maxLen at hs
  go_enter Tryd.func39, Tryd.ntmps39
  go_wp2
  refine wp_scope_labels (fun l a' w' => RunFrame s w.heap.size (w.heap.size + 1) a' ∧ l = 0 ∧ JWrong s w w') (mAll s w) ?_ ?_
  · have A0 := hide' (rat_new (resW w) s 115)
    rw [resW_size] at A0
    have B0 := hide' (show Below (w.heap.size + 1) (resW w) ((resW w).alloc (.cells #[.string s, .int .i64 0, .int .i64 0, .int .i64 0, .int .i64 0, .slice none 0 0, .int .i64 0, .int .i64 0, .int .i64 0, .int .i64 0] 115)) from (Below.refl _ _).alloc (by rw [resW_size]; omega) _)
    go_wp2_with fail
    refine (pfail (w.heap.size + 1) s rv0 0 _ _ _ rfl A0.out).mono ?_
    rintro e wr ⟨rfl, a1, r1⟩
    have J1 : JWrong s w wr := ⟨⟨0, 4, _, a1, rfl, rfl, by unfold runsS; rw [if_pos hf]⟩, B0.out.trans (r1.below (Nat.le_refl _) (by simp [resW]))⟩
    clear a1 r1
    go_wp2
    go_step3
    exact ⟨⟨_, _, _, _, _, _, _, _, _, _, _, _, _, _, _, _, _, _, _, _, _, _, _, _, _, _, _, _, _, _, _, _, _, _, _, _, _, _, _, _, _, _, _, _, rfl⟩, rfl, J1⟩
  · rintro l a' wr ⟨⟨u6, u7, u8, u9, u10, u11, u12, u13, u14, u15, u16, u17, u18, u19, u20, u21, u22, u23, u24, u25, u26, u27, u28, u29, u30, u31, u32, u33, u34, u35, u36, u37, u38, u39, u40, u41, u42, u43, u44, u45, u46, u47, u48, u49, rfl⟩, rfl, ⟨rr, ff, v, ra, ri, rf, re⟩, rb⟩
    refine ⟨_, rfl, ?_⟩
    have x1 := ra.ten.c1
    have x2 := ra.ten.c2
    rw [ri] at x1
    rw [rf] at x2
    obtain ⟨y0, y1, y2, g0, g1, g2⟩ := (resW_res w).below (by rw [resW_size]; omega) rb
    have RB := hide' rb
    have RE := hide' re
    clear ra ri rf rb re
    go_wp2
    go_region
    go_wp2
    rw [jumps_ret]
    refine bodyPost_ret (v := .tuple #[.agg #[.int .i64 0, .int .i64 0, .slice none 0 0], .int .i64 (rr : Int), .iface 87 (.int .i64 (ff : Int))]) (by simp [results, Tryd.results39, go_sem, y0, y1, y2]) rfl ?_
    exact ⟨(((below_res RB.out).setCell (Nat.le_refl _) _).setCell (Nat.le_refl _) _ |>.setCell (Nat.le_refl _) _).trans ⟨rfl, rfl, rfl, Nat.le_refl _, fun _ _ => rfl⟩, Or.inr ⟨rr, ff, RE.out, rfl⟩⟩

theorem pParseRuns_any (s : ByteArray) (w : World) (hs : s.size ≤ maxLen) :
    Calls Tryd.prog 39 #[.string s] w (RunsPost s w) := by
  by_cases h : 40000 < s.size
  · exact pParseRuns_full s w h hs
  · exact pParseRuns s w (by omega)
end Go.Proofs.YtjngjnkecnnmeaaDoor

namespace Go.Proofs.YtjngjnkecnnmeaaDoor
open Go.RowKit
set_option linter.unusedVariables false

theorem DS.start (s : ByteArray) (w : World) (t1 t2 : TypeId) : DS s w (((w.alloc (.cells #[.int .i64 0, .int .i64 0, .slice none 0 0] t1)).alloc (.cells #[.int .i64 0, .int .i64 0, .slice none 0 0, .int .i64 0, .int .i64 0] t2)).iter s 0) 0 0 0 0 0 (.slice none 0 0) [] := by
  have hb : ∀ k, k < w.heap.size + 2 → (((w.alloc (.cells #[.int .i64 0, .int .i64 0, .slice none 0 0] t1)).alloc (.cells #[.int .i64 0, .int .i64 0, .slice none 0 0, .int .i64 0, .int .i64 0] t2)).iter s 0).heap[k]? = ((w.alloc (.cells #[.int .i64 0, .int .i64 0, .slice none 0 0] t1)).alloc (.cells #[.int .i64 0, .int .i64 0, .slice none 0 0, .int .i64 0, .int .i64 0] t2)).heap[k]? := fun k hk => Below.heap_alloc _ _ _ (by simp; omega)
  have hd : DAt (w.heap.size + 1) 0 0 (.slice none 0 0) 0 0 ((w.alloc (.cells #[.int .i64 0, .int .i64 0, .slice none 0 0] t1)).alloc (.cells #[.int .i64 0, .int .i64 0, .slice none 0 0, .int .i64 0, .int .i64 0] t2)) := by
    refine ⟨?_, ?_, ?_, ?_, ?_, fun k => by simp⟩ <;> (rw [World.cell?_alloc_at _ _ _ _ (by simp)]; rfl)
  refine ⟨?_, hd.block (hb _ (by omega)), ⟨by simp, Or.inl ⟨rfl, by simp⟩⟩, ((res_new w t1).block (Below.heap_alloc _ _ _ (by simp))).block (hb _ (by omega)), ?_⟩
  · have := World.iter_heap ((w.alloc (.cells #[.int .i64 0, .int .i64 0, .slice none 0 0] t1)).alloc (.cells #[.int .i64 0, .int .i64 0, .slice none 0 0, .int .i64 0, .int .i64 0] t2)) s 0
    simpa using this
  · exact (((Below.refl _ _).alloc (Nat.le_refl _) _).alloc (by simp) _).trans ((Below.refl _ _).alloc (by simp; omega) _)

set_option maxRecDepth 100000 in
set_option maxHeartbeats 6400000 in
theorem pParseDraw (s : ByteArray) (w : World) (hs : s.size ≤ 40000) :
    Calls Tryd.prog 41 #[.string s] w (DrawPost s w) := by
  have n1 : ¬ (40000 : Int) < (s.size : Int) := by omega
  have S0 := hide' (DS.start s w 51 122)
  have N0 := hide' (DNum.start s hs)
  go_enter Tryd.func41, Tryd.ntmps41
  go_wp2
  go_loopw [] (fun wr => ∃ (i r n W H : Nat) (v : Value) (xs : List Int), DS s w wr i r n W H v xs ∧ DNum s i r n W H xs) (fun wr => s.size - wr.iterPos (w.heap.size + 2))
  case atStart => exact ⟨0, 0, 0, 0, 0, _, [], S0.out, N0.out⟩
  case round =>
    obtain ⟨i, r, n, W, H, v, xs, ds, dn⟩ := hrel
    have S := hide' ds
    have N := hide' dn
    have hli := dn.li
    clear ds dn S0 N0
    by_cases hlt : i < s.size
    · cases hd : isDot s i with
      | true =>
        have hj : i + 2 ≤ s.size := by have := isDot_true.1 hd; omega
        have hnx : ∀ ty, (Instr.next (.pointer (some ⟨w.heap.size + 2, 0, none⟩)) true ty).run Tryd.prog wr = .ok (.tuple #[.bool true, .int .i64 i, .int .i32 183]) (wr.iterAt (w.heap.size + 2) s (i + 2)) := fun ty => by
          rw [Lib.run_next_any_at wr (w.heap.size + 2) s i ty S.out.it hlt, decode_dot hd]; rfl
        have S1 := hide' (S.out.iter (i + 2))
        have hz := S1.out.sz
        have EQ := hide' (drawF_dot (r := r) (n := n) (W := W) (H := H) (xs := xs) hlt hd)
        by_cases h100 : H = 100
        · have RE := hide' (show drawS s = .inr (i, 1) by rw [← N.out.eq, EQ.out, if_pos h100, N.out.row (N.out.top h100)])
          go_wp2_with fail
          refine (ptake_high (w.heap.size + 1) W H v r n i _ _ _ rfl S1.out.dat (by omega) h100).mono ?_
          rintro e w2 ⟨rfl, r2⟩
          have RSB := hide' (S1.out.res.block (r2.block _ (by omega) (by omega)))
          have B := hide' (S1.out.below.trans (r2.below (by omega) (by omega)))
          obtain ⟨y0, y1, y2, g0, g1, g2⟩ := RSB.out
          go_wp2
          refine bodyPost_ret (v := .tuple #[.agg #[.int .i64 0, .int .i64 0, .slice none 0 0], .int .i64 ((i : Nat) : Int), .iface 87 (.int .i64 1)]) (by simp [results, Tryd.results41, go_sem, y0, y1, y2]) rfl ?_
          exact ⟨fin_below B.out _ _ _, Or.inr ⟨i, 1, RE.out, rfl⟩⟩
        by_cases n100 : n = 100
        · have RE := hide' (show drawS s = .inr (i, 1) by rw [← N.out.eq, EQ.out, if_neg h100, if_pos n100])
          go_wp2_with fail
          refine (ptake_wide (w.heap.size + 1) W H v r n i _ _ _ rfl S1.out.dat (by omega) h100 n100).mono ?_
          rintro e w2 ⟨rfl, r2⟩
          have RSB := hide' (S1.out.res.block (r2.block _ (by omega) (by omega)))
          have B := hide' (S1.out.below.trans (r2.below (by omega) (by omega)))
          obtain ⟨y0, y1, y2, g0, g1, g2⟩ := RSB.out
          go_wp2
          refine bodyPost_ret (v := .tuple #[.agg #[.int .i64 0, .int .i64 0, .slice none 0 0], .int .i64 ((i : Nat) : Int), .iface 87 (.int .i64 1)]) (by simp [results, Tryd.results41, go_sem, y0, y1, y2]) rfl ?_
          exact ⟨fin_below B.out _ _ _, Or.inr ⟨i, 1, RE.out, rfl⟩⟩
        have N2 := hide' (N.out.cell (i + 2) 0 hj (by omega) h100 n100 (by rw [EQ.out, if_neg h100, if_neg n100]))
        have hsm := N.out.small h100
        have hnl := N.out.ln
        go_wp2_with fail
        refine (ptake_dot (w.heap.size + 1) (w.heap.size + 3) W H v xs r n i _ _ rfl S1.out.dat h100 (by omega) S1.out.own (by omega) hsm hz).mono ?_
        rintro e w2 ⟨rfl, d2, v2, da, ow⟩
        have S2 := hide' (S1.out.push d2 da ow)
        clear d2 da ow
        go_wp2
        go_roundw
        case rel => exact ⟨i + 2, r, n + 1, W, H, v2, xs ++ [0], S2.out, N2.out⟩
        · rw [S2.out.pos, S.out.pos]; omega
      | false =>
        cases hba : isBall s i with
        | true =>
          have hj : i + 3 ≤ s.size := by have := isBall_true.1 hba; omega
          have hnx : ∀ ty, (Instr.next (.pointer (some ⟨w.heap.size + 2, 0, none⟩)) true ty).run Tryd.prog wr = .ok (.tuple #[.bool true, .int .i64 i, .int .i32 9679]) (wr.iterAt (w.heap.size + 2) s (i + 3)) := fun ty => by
            rw [Lib.run_next_any_at wr (w.heap.size + 2) s i ty S.out.it hlt, decode_ball hba]; rfl
          have S1 := hide' (S.out.iter (i + 3))
          have hz := S1.out.sz
          have EQ := hide' (drawF_ball (r := r) (n := n) (W := W) (H := H) (xs := xs) hlt hd hba)
          by_cases h100 : H = 100
          · have RE := hide' (show drawS s = .inr (i, 1) by rw [← N.out.eq, EQ.out, if_pos h100, N.out.row (N.out.top h100)])
            go_wp2_with fail
            refine (ptake_high (w.heap.size + 1) W H v r n i _ _ _ rfl S1.out.dat (by omega) h100).mono ?_
            rintro e w2 ⟨rfl, r2⟩
            have RSB := hide' (S1.out.res.block (r2.block _ (by omega) (by omega)))
            have B := hide' (S1.out.below.trans (r2.below (by omega) (by omega)))
            obtain ⟨y0, y1, y2, g0, g1, g2⟩ := RSB.out
            go_wp2
            refine bodyPost_ret (v := .tuple #[.agg #[.int .i64 0, .int .i64 0, .slice none 0 0], .int .i64 ((i : Nat) : Int), .iface 87 (.int .i64 1)]) (by simp [results, Tryd.results41, go_sem, y0, y1, y2]) rfl ?_
            exact ⟨fin_below B.out _ _ _, Or.inr ⟨i, 1, RE.out, rfl⟩⟩
          by_cases n100 : n = 100
          · have RE := hide' (show drawS s = .inr (i, 1) by rw [← N.out.eq, EQ.out, if_neg h100, if_pos n100])
            go_wp2_with fail
            refine (ptake_wide (w.heap.size + 1) W H v r n i _ _ _ rfl S1.out.dat (by omega) h100 n100).mono ?_
            rintro e w2 ⟨rfl, r2⟩
            have RSB := hide' (S1.out.res.block (r2.block _ (by omega) (by omega)))
            have B := hide' (S1.out.below.trans (r2.below (by omega) (by omega)))
            obtain ⟨y0, y1, y2, g0, g1, g2⟩ := RSB.out
            go_wp2
            refine bodyPost_ret (v := .tuple #[.agg #[.int .i64 0, .int .i64 0, .slice none 0 0], .int .i64 ((i : Nat) : Int), .iface 87 (.int .i64 1)]) (by simp [results, Tryd.results41, go_sem, y0, y1, y2]) rfl ?_
            exact ⟨fin_below B.out _ _ _, Or.inr ⟨i, 1, RE.out, rfl⟩⟩
          have N2 := hide' (N.out.cell (i + 3) 1 hj (by omega) h100 n100 (by rw [EQ.out, if_neg h100, if_neg n100]))
          have hsm := N.out.small h100
          have hnl := N.out.ln
          go_wp2_with fail
          refine (ptake_ball (w.heap.size + 1) (w.heap.size + 3) W H v xs r n i _ _ rfl S1.out.dat h100 (by omega) S1.out.own (by omega) hsm hz).mono ?_
          rintro e w2 ⟨rfl, d2, v2, da, ow⟩
          have S2 := hide' (S1.out.push d2 da ow)
          clear d2 da ow
          go_wp2
          go_roundw
          case rel => exact ⟨i + 3, r, n + 1, W, H, v2, xs ++ [1], S2.out, N2.out⟩
          · rw [S2.out.pos, S.out.pos]; omega
        | false =>
          by_cases h10 : bt s i = 10
          · have hnx : ∀ ty, (Instr.next (.pointer (some ⟨w.heap.size + 2, 0, none⟩)) true ty).run Tryd.prog wr = .ok (.tuple #[.bool true, .int .i64 i, .int .i32 10]) (wr.iterAt (w.heap.size + 2) s (i + 1)) := fun ty => by
              rw [Lib.run_next_any_at wr (w.heap.size + 2) s i ty S.out.it hlt, decode_ten h10]; rfl
            have S1 := hide' (S.out.iter (i + 1))
            have hz := S1.out.sz
            have EQ := hide' (drawF_ten (r := r) (n := n) (W := W) (H := H) (xs := xs) hlt h10)
            by_cases h100 : H = 100
            · have RE := hide' (show drawS s = .inr (i, 1) by rw [← N.out.eq, EQ.out, if_pos h100, N.out.row (N.out.top h100)])
              go_wp2_with fail
              refine (ptake_high (w.heap.size + 1) W H v r n i _ _ _ rfl S1.out.dat (by omega) h100).mono ?_
              rintro e w2 ⟨rfl, r2⟩
              have RSB := hide' (S1.out.res.block (r2.block _ (by omega) (by omega)))
              have B := hide' (S1.out.below.trans (r2.below (by omega) (by omega)))
              obtain ⟨y0, y1, y2, g0, g1, g2⟩ := RSB.out
              go_wp2
              refine bodyPost_ret (v := .tuple #[.agg #[.int .i64 0, .int .i64 0, .slice none 0 0], .int .i64 ((i : Nat) : Int), .iface 87 (.int .i64 1)]) (by simp [results, Tryd.results41, go_sem, y0, y1, y2]) rfl ?_
              exact ⟨fin_below B.out _ _ _, Or.inr ⟨i, 1, RE.out, rfl⟩⟩
            have hlh := N.out.lH
            have hln := N.out.ln
            go_wp2_with fail
            refine (ptake_row (w.heap.size + 1) W H v r n i _ _ rfl S1.out.dat (by omega) h100 hlh hln).mono ?_
            rintro e w2 ⟨r2, (⟨q, rfl⟩ | ⟨q, rfl, da⟩)⟩
            · have RE := hide' (show drawS s = .inr (r, 3) by rw [← N.out.eq, EQ.out, if_neg h100, if_pos q])
              have RSB := hide' (S1.out.res.block (r2.block _ (by omega) (by omega)))
              have B := hide' (S1.out.below.trans (r2.below (by omega) (by omega)))
              obtain ⟨y0, y1, y2, g0, g1, g2⟩ := RSB.out
              go_wp2
              refine bodyPost_ret (v := .tuple #[.agg #[.int .i64 0, .int .i64 0, .slice none 0 0], .int .i64 ((r : Nat) : Int), .iface 87 (.int .i64 3)]) (by simp [results, Tryd.results41, go_sem, y0, y1, y2]) rfl ?_
              exact ⟨fin_below B.out _ _ _, Or.inr ⟨r, 3, RE.out, rfl⟩⟩
            · have S2 := hide' (S1.out.rd r2 da)
              have N2 := hide' (N.out.ten hlt h100 q h10)
              clear r2 da
              go_wp2
              go_roundw
              case rel => exact ⟨i + 1, i + 1, 0, n, H + 1, v, xs, S2.out, N2.out⟩
              · rw [S2.out.pos, S.out.pos]; omega
          · obtain ⟨o1, o2, o3⟩ := decode_other hd hba h10
            obtain ⟨c, hc⟩ : ∃ c : Nat, (Utf8.decode s i).1 = c := ⟨_, rfl⟩
            obtain ⟨k, hk⟩ : ∃ k : Nat, (Utf8.decode s i).2 = k := ⟨_, rfl⟩
            rw [hc] at o1 o2 o3
            have hnx : ∀ ty, (Instr.next (.pointer (some ⟨w.heap.size + 2, 0, none⟩)) true ty).run Tryd.prog wr = .ok (.tuple #[.bool true, .int .i64 i, .int .i32 (c : Int)]) (wr.iterAt (w.heap.size + 2) s (i + k)) := fun ty => by
              rw [Lib.run_next_any_at wr (w.heap.size + 2) s i ty S.out.it hlt, hc, hk]
            have S1 := hide' (S.out.iter (i + k))
            have hz := S1.out.sz
            have RE := hide' (show drawS s = .inr (i, 2) by rw [← N.out.eq, drawF_none hlt hd hba h10])
            clear hc hk
            go_wp2_with fail
            refine (ptake_syntax (w.heap.size + 1) W H v r n i _ _ _ rfl S1.out.dat (by omega) (by omega) (by omega)).mono ?_
            rintro e w2 ⟨rfl, r2⟩
            have RSB := hide' (S1.out.res.block (r2.block _ (by omega) (by omega)))
            have B := hide' (S1.out.below.trans (r2.below (by omega) (by omega)))
            obtain ⟨y0, y1, y2, g0, g1, g2⟩ := RSB.out
            go_wp2
            refine bodyPost_ret (v := .tuple #[.agg #[.int .i64 0, .int .i64 0, .slice none 0 0], .int .i64 ((i : Nat) : Int), .iface 87 (.int .i64 2)]) (by simp [results, Tryd.results41, go_sem, y0, y1, y2]) rfl ?_
            exact ⟨fin_below B.out _ _ _, Or.inr ⟨i, 2, RE.out, rfl⟩⟩
    · have hnx : ∀ ty, (Instr.next (.pointer (some ⟨w.heap.size + 2, 0, none⟩)) true ty).run Tryd.prog wr = .ok (.tuple #[.bool false]) wr := fun ty => Lib.run_next_end_at wr (w.heap.size + 2) s i ty S.out.it hlt
      have EQ := hide' (drawF_end (s := s) (i := i) (r := r) (n := n) (W := W) (H := H) (xs := xs) (by omega))
      have x3 := S.out.dat.c3
      have x0 := S.out.dat.c0
      have x1 := S.out.dat.c1
      have x2 := S.out.dat.c2
      obtain ⟨y0, y1, y2, g0, g1, g2⟩ := S.out.res
      have hrs : r ≤ s.size := Nat.le_trans N.out.lr hli
      obtain ⟨sa, sn, sc, rfl⟩ := ownsRow_slice S.out.own
      by_cases q : r < s.size
      · have m1 : ((r : Int) != (s.size : Int)) = true := by simp; omega
        have RE := hide' (show drawS s = .inr (s.size, 2) by rw [← N.out.eq, EQ.out, if_pos q])
        go_wp2
        refine bodyPost_ret (v := .tuple #[.agg #[.int .i64 0, .int .i64 0, .slice none 0 0], .int .i64 (s.size : Int), .iface 87 (.int .i64 2)]) (by simp [results, Tryd.results41, go_sem, y0, y1, y2]) rfl ?_
        exact ⟨fin_below S.out.below _ _ _, Or.inr ⟨s.size, 2, RE.out, rfl⟩⟩
      · have m1 : ((r : Int) != (s.size : Int)) = false := by simp; omega
        have RE := hide' (show drawS s = .inl (W, H, xs) by rw [← N.out.eq, EQ.out, if_neg q])
        go_wp2
        refine bodyPost_ret (v := .tuple #[.agg #[.int .i64 (W : Int), .int .i64 (H : Int), .slice sa sn sc], .int .i64 0, .nilIface]) (by simp [results, Tryd.results41, go_sem, y0, y1, y2]) rfl ?_
        refine ⟨fin_below S.out.below _ _ _, Or.inl ⟨W, H, xs, _, RE.out, rfl, ?_, N.out.all, fresh_own S.out.own (by omega)⟩⟩
        exact ownsRow_tab (ownsRow_setCell_below (ownsRow_setCell_below (ownsRow_setCell_below S.out.own (a := ⟨w.heap.size, 0, none⟩) (by simp) _) (a := ⟨w.heap.size, 1, none⟩) (by simp) _) (a := ⟨w.heap.size, 2, none⟩) (by simp) _)
end Go.Proofs.YtjngjnkecnnmeaaDoor

