/-
  What the last text of this claim leans on, part 38: Ba1, Ba2.
-/
import Derived.Test.YtjngjnkecnnmeaaDoorJb16
namespace Go.Proofs.YtjngjnkecnnmeaaDoor
set_option linter.unusedVariables false

theorem pat_at {p q : Pat} (hp : p.ok) (hq : q.ok) (hW : p.W = q.W) (hH : p.H = q.H) (h : ∀ x y, x < p.W → y < p.H → atP p.W p.xs x y = atP q.W q.xs x y) : p = q := by
  obtain ⟨W, H, xs⟩ := p
  obtain ⟨W', H', ys⟩ := q
  dsimp only at hW hH h
  subst hW hH
  congr 1
  exact list_at hp hq h
theorem mir_ok (p : Pat) : p.mir.ok := mirP_length _ _ _
theorem qtr_ok (p : Pat) : p.qtr.ok := qtrP_length _ _ _
theorem mirAt (p : Pat) (x y : Nat) (hx : x < p.W) (hy : y < p.H) : atP p.mir.W p.mir.xs x y = atP p.W p.xs (p.W - 1 - x) y := mir_at _ _ _ _ _ hx hy
theorem qtrAt (p : Pat) (x y : Nat) (hx : x < p.H) (hy : y < p.W) : atP p.qtr.W p.qtr.xs x y = atP p.W p.xs y (p.H - 1 - x) := qtr_at _ _ _ _ _ hx hy
theorem mir_mir (p : Pat) (hp : p.ok) : p.mir.mir = p := by
  refine pat_at (mir_ok _) hp rfl rfl fun x y hx hy => ?_
  have hx' : x < p.W := hx
  refine (mirAt p.mir x y hx hy).trans ((mirAt p _ _ (show p.W - 1 - x < p.W by omega) hy).trans ?_)
  rw [show p.W - 1 - (p.W - 1 - x) = x by omega]
theorem qtr_two (p : Pat) (x y : Nat) (hx : x < p.W) (hy : y < p.H) : atP p.qtr.qtr.W p.qtr.qtr.xs x y = atP p.W p.xs (p.W - 1 - x) (p.H - 1 - y) := by
  exact (qtrAt p.qtr x y hx hy).trans (qtrAt p _ _ hy (show p.W - 1 - x < p.W by omega))
theorem qtr_four (p : Pat) (hp : p.ok) : p.qtr.qtr.qtr.qtr = p := by
  refine pat_at (qtr_ok _) hp rfl rfl fun x y hx hy => ?_
  have hx' : x < p.W := hx
  have hy' : y < p.H := hy
  rw [qtr_two p.qtr.qtr x y hx hy]
  show atP p.qtr.qtr.W p.qtr.qtr.xs (p.W - 1 - x) (p.H - 1 - y) = _
  rw [qtr_two p _ _ (by omega) (by omega)]
  rw [show p.W - 1 - (p.W - 1 - x) = x by omega, show p.H - 1 - (p.H - 1 - y) = y by omega]
theorem qtr_mir (p : Pat) (hp : p.ok) : p.qtr.mir.qtr = p.mir := by
  refine pat_at (qtr_ok _) (mir_ok _) rfl rfl fun x y hx hy => ?_
  have hx' : x < p.W := hx
  have hy' : y < p.H := hy
  refine (qtrAt p.qtr.mir x y hx hy).trans ((mirAt p.qtr _ _ hy (show p.W - 1 - x < p.W by omega)).trans ?_)
  refine (qtrAt p (p.H - 1 - y) (p.W - 1 - x) (by omega) (by omega)).trans ?_
  rw [mirAt p x y hx' hy']
  rw [show p.H - 1 - (p.H - 1 - y) = y by omega]
theorem turn_ok (p : Pat) (hp : p.ok) (k : Nat) : (p.turn k).ok := by
  unfold Pat.turn
  have h : (if 4 ≤ k then p.mir else p).ok := by split; exact mir_ok p; exact hp
  cases k % 4 with
  | zero => exact h
  | succ j => exact qtr_ok _
/-- What mirrors first and turns then, the other way round. -/
theorem mir_qtr (p : Pat) (hp : p.ok) : p.qtr.mir = p.mir.qtr.qtr.qtr := by
  have h := qtr_mir p hp
  rw [← qtr_four p.qtr.mir (mir_ok _), h]
def Pat.near (p q : Pat) : Prop := ∃ k, k < 8 ∧ q = p.turn k
theorem near_self (p : Pat) : p.near p := ⟨0, by omega, rfl⟩
theorem near_cases {p q : Pat} : p.near q ↔ q = p ∨ q = p.qtr ∨ q = p.qtr.qtr ∨ q = p.qtr.qtr.qtr ∨ q = p.mir ∨ q = p.mir.qtr ∨ q = p.mir.qtr.qtr ∨ q = p.mir.qtr.qtr.qtr := by
  constructor
  · rintro ⟨k, hk, rfl⟩
    rcases (by omega : k = 0 ∨ k = 1 ∨ k = 2 ∨ k = 3 ∨ k = 4 ∨ k = 5 ∨ k = 6 ∨ k = 7) with rfl | rfl | rfl | rfl | rfl | rfl | rfl | rfl <;> simp [Pat.turn, Pat.rot]
  · rintro (rfl | rfl | rfl | rfl | rfl | rfl | rfl | rfl)
    · exact ⟨0, by omega, rfl⟩
    · exact ⟨1, by omega, rfl⟩
    · exact ⟨2, by omega, rfl⟩
    · exact ⟨3, by omega, rfl⟩
    · exact ⟨4, by omega, rfl⟩
    · exact ⟨5, by omega, rfl⟩
    · exact ⟨6, by omega, rfl⟩
    · exact ⟨7, by omega, rfl⟩
theorem near_qtr {p q : Pat} (hp : p.ok) (h : p.near q) : p.near q.qtr := by
  rcases near_cases.1 h with rfl | rfl | rfl | rfl | rfl | rfl | rfl | rfl
  · exact ⟨1, by omega, rfl⟩
  · exact ⟨2, by omega, rfl⟩
  · exact ⟨3, by omega, rfl⟩
  · rw [qtr_four p hp]; exact near_self p
  · exact ⟨5, by omega, rfl⟩
  · exact ⟨6, by omega, rfl⟩
  · exact ⟨7, by omega, rfl⟩
  · rw [qtr_four p.mir (mir_ok _)]; exact ⟨4, by omega, rfl⟩
theorem mir_qtr3 (p : Pat) (hp : p.ok) : p.qtr.qtr.qtr.mir = p.mir.qtr := by
  rw [mir_qtr p.qtr.qtr (qtr_ok _), mir_qtr p.qtr (qtr_ok _), mir_qtr p hp, qtr_four p.mir.qtr.qtr.qtr.qtr.qtr (qtr_ok _), qtr_four p.mir.qtr (qtr_ok _)]
theorem mir_qtr2 (p : Pat) (hp : p.ok) : p.qtr.qtr.mir = p.mir.qtr.qtr := by
  rw [mir_qtr p.qtr (qtr_ok _), mir_qtr p hp, qtr_four p.mir.qtr.qtr (qtr_ok _)]
theorem near_mir {p q : Pat} (hp : p.ok) (h : p.near q) : p.near q.mir := by
  rcases near_cases.1 h with rfl | rfl | rfl | rfl | rfl | rfl | rfl | rfl
  · exact ⟨4, by omega, rfl⟩
  · rw [mir_qtr p hp]; exact ⟨7, by omega, rfl⟩
  · rw [mir_qtr2 p hp]; exact ⟨6, by omega, rfl⟩
  · rw [mir_qtr3 p hp]; exact ⟨5, by omega, rfl⟩
  · rw [mir_mir p hp]; exact near_self p
  · rw [mir_qtr p.mir (mir_ok _), mir_mir p hp]; exact ⟨3, by omega, rfl⟩
  · rw [mir_qtr2 p.mir (mir_ok _), mir_mir p hp]; exact ⟨2, by omega, rfl⟩
  · rw [mir_qtr3 p.mir (mir_ok _), mir_mir p hp]; exact ⟨1, by omega, rfl⟩
theorem near_turn {p q : Pat} (hp : p.ok) (h : p.near q) (k : Nat) (hk : k < 8) : p.near (q.turn k) := by
  have a1 := near_qtr hp h
  have a2 := near_qtr hp a1
  have a3 := near_qtr hp a2
  have b0 := near_mir hp h
  have b1 := near_qtr hp b0
  have b2 := near_qtr hp b1
  have b3 := near_qtr hp b2
  rcases (by omega : k = 0 ∨ k = 1 ∨ k = 2 ∨ k = 3 ∨ k = 4 ∨ k = 5 ∨ k = 6 ∨ k = 7) with rfl | rfl | rfl | rfl | rfl | rfl | rfl | rfl
  · exact h
  · exact a1
  · exact a2
  · exact a3
  · exact b0
  · exact b1
  · exact b2
  · exact b3
/-- What undoes a turn. -/
def undo (k : Nat) : Nat := if k < 4 then (4 - k) % 4 else k
theorem turn_undo (p : Pat) (hp : p.ok) (k : Nat) (hk : k < 8) : (p.turn k).turn (undo k) = p := by
  rcases (by omega : k = 0 ∨ k = 1 ∨ k = 2 ∨ k = 3 ∨ k = 4 ∨ k = 5 ∨ k = 6 ∨ k = 7) with rfl | rfl | rfl | rfl | rfl | rfl | rfl | rfl
  · rfl
  · exact qtr_four p hp
  · exact qtr_four p hp
  · exact qtr_four p hp
  · exact mir_mir p hp
  · show p.mir.qtr.mir.qtr = p
    rw [qtr_mir p.mir (mir_ok _), mir_mir p hp]
  · show p.mir.qtr.qtr.mir.qtr.qtr = p
    rw [qtr_mir p.mir.qtr (qtr_ok _), qtr_mir p.mir (mir_ok _), mir_mir p hp]
  · show p.mir.qtr.qtr.qtr.mir.qtr.qtr.qtr = p
    rw [qtr_mir p.mir.qtr.qtr (qtr_ok _), qtr_mir p.mir.qtr (qtr_ok _), qtr_mir p.mir (mir_ok _), mir_mir p hp]
theorem undo_lt {k : Nat} (hk : k < 8) : undo k < 8 := by unfold undo; split <;> omega
theorem near_same {p q r : Pat} (hp : p.ok) (hq : q.ok) (h : p.near q) : p.near r ↔ q.near r := by
  obtain ⟨k, hk, rfl⟩ := h
  constructor
  · rintro ⟨j, hj, rfl⟩
    have : (p.turn k).near p := ⟨undo k, undo_lt hk, (turn_undo p hp k hk).symm⟩
    exact near_turn hq this j hj
  · rintro ⟨j, hj, rfl⟩
    exact near_turn hp ⟨k, hk, rfl⟩ j hj

/-! The order of patterns. -/
theorem lex_irr : ∀ a : List Int, lexF a a = 0
  | [] => rfl
  | x :: xs => by rw [lexF, if_neg (by omega), if_neg (by omega)]; exact lex_irr xs
theorem lex_trans : ∀ a b c : List Int, lexF a b < 0 → lexF b c < 0 → lexF a c < 0
  | [], [], c, h, _ => by simp [lexF] at h
  | [], _ :: _, [], _, h => by simp [lexF] at h
  | [], _ :: _, _ :: _, _, _ => by simp [lexF]
  | _ :: _, [], c, h, _ => by simp [lexF] at h
  | _ :: _, _ :: _, [], _, h => by simp [lexF] at h
  | x :: xs, y :: ys, z :: zs, h1, h2 => by
    rw [lexF] at h1 h2 ⊢
    by_cases a1 : x < y
    · by_cases a2 : y < z
      · rw [if_pos (by omega)]; omega
      · rw [if_neg a2] at h2
        by_cases a3 : z < y
        · rw [if_pos a3] at h2; omega
        · rw [if_pos (by omega)]; omega
    · rw [if_neg a1] at h1
      by_cases a2 : y < x
      · rw [if_pos a2] at h1; omega
      · rw [if_neg a2] at h1
        by_cases a3 : y < z
        · rw [if_pos (by omega)]; omega
        · rw [if_neg a3] at h2
          by_cases a4 : z < y
          · rw [if_pos a4] at h2; omega
          · rw [if_neg a4] at h2
            rw [if_neg (by omega), if_neg (by omega)]
            exact lex_trans xs ys zs h1 h2
theorem lex_eq : ∀ a b : List Int, ¬ lexF a b < 0 → ¬ lexF b a < 0 → a = b
  | [], [], _, _ => rfl
  | [], _ :: _, h, _ => by simp [lexF] at h
  | _ :: _, [], _, h => by simp [lexF] at h
  | x :: xs, y :: ys, h1, h2 => by
    rw [lexF] at h1 h2
    by_cases a1 : x < y
    · rw [if_pos a1] at h1; omega
    · by_cases a2 : y < x
      · rw [if_pos a2] at h2; omega
      · rw [if_neg a1, if_neg a2] at h1
        rw [if_neg a2, if_neg a1] at h2
        rw [lex_eq xs ys h1 h2, show x = y by omega]
def keyP (p : Pat) : List Int := (p.H : Int) :: (p.W : Int) :: p.xs
theorem cmp_key (p q : Pat) : cmpP p q = lexF (keyP p) (keyP q) := by
  unfold cmpP keyP orI cmpI
  rw [lexF, lexF]
  by_cases a1 : (p.H : Int) < q.H
  · simp [a1]
  · by_cases a2 : (q.H : Int) < p.H
    · simp [a1, a2]
    · by_cases a3 : (p.W : Int) < q.W
      · simp [a1, a2, a3]
      · by_cases a4 : (q.W : Int) < p.W
        · simp [a1, a2, a3, a4]
        · simp [a1, a2, a3, a4]
theorem key_inj {p q : Pat} (h : keyP p = keyP q) : p = q := by
  obtain ⟨W, H, xs⟩ := p
  obtain ⟨W', H', ys⟩ := q
  unfold keyP at h
  injection h with h1 h2
  injection h2 with h2 h3
  dsimp only at h1 h2 h3
  rw [h3, show H = H' by omega, show W = W' by omega]
theorem best_min (q : Pat) : ∀ k, ∀ j, j ≤ k → ¬ cmpP (q.turn j) (bestP q k) < 0 := by
  intro k
  induction k with
  | zero =>
    intro j hj
    obtain rfl : j = 0 := by omega
    show ¬ cmpP q q < 0
    rw [cmp_key, lex_irr]; omega
  | succ k ih =>
    intro j hj
    rw [bestP]
    by_cases c : cmpP (q.turn (k + 1)) (bestP q k) < 0
    · rw [if_pos (by simp [aheadB, c])]
      by_cases e : j = k + 1
      · rw [e, cmp_key, lex_irr]; omega
      · intro h
        refine ih j (by omega) ?_
        rw [cmp_key] at h c ⊢
        exact lex_trans _ _ _ h c
    · rw [if_neg (by simp [aheadB, c])]
      by_cases e : j = k + 1
      · rw [e]; exact c
      · exact ih j (by omega)
theorem best_near (q : Pat) : ∀ k, k < 8 → q.near (bestP q k) := by
  intro k
  induction k with
  | zero => intro _; exact near_self q
  | succ k ih =>
    intro hk
    rw [bestP]
    split
    · exact ⟨k + 1, hk, rfl⟩
    · exact ih (by omega)
theorem best_same {p q : Pat} (hp : p.ok) (hq : q.ok) (h : p.near q) : bestP p 7 = bestP q 7 := by
  obtain ⟨i, hi, ei⟩ := (near_same hp hq h).2 (best_near q 7 (by omega))
  obtain ⟨j, hj, ej⟩ := (near_same hp hq h).1 (best_near p 7 (by omega))
  have m1 := best_min p 7 i (by omega)
  have m2 := best_min q 7 j (by omega)
  rw [← ei, cmp_key] at m1
  rw [← ej, cmp_key] at m2
  exact key_inj (lex_eq _ _ m2 m1)
end Go.Proofs.YtjngjnkecnnmeaaDoor

namespace Go.Proofs.YtjngjnkecnnmeaaDoor
set_option linter.unusedVariables false

/-! Trimmed and turned. -/
def live (p : Pat) (x y : Nat) : Prop := x < p.W ∧ y < p.H ∧ atP p.W p.xs x y = 1
structure IsBx (p : Pat) (l t r b : Nat) : Prop where
  le : ∀ x y, live p x y → l ≤ x ∧ t ≤ y ∧ x < r ∧ y < b
  hl : ∃ y, live p l y
  ht : ∃ x, live p x t
  hr : ∃ x y, live p x y ∧ r = x + 1
  hb : ∃ x y, live p x y ∧ b = y + 1
theorem IsBx.unique {p : Pat} {l t r b l' t' r' b' : Nat} (h : IsBx p l t r b) (h' : IsBx p l' t' r' b') : l = l' ∧ t = t' ∧ r = r' ∧ b = b' := by
  obtain ⟨y1, a1⟩ := h.hl
  obtain ⟨x2, a2⟩ := h.ht
  obtain ⟨x3, y3, a3, e3⟩ := h.hr
  obtain ⟨x4, y4, a4, e4⟩ := h.hb
  obtain ⟨y5, a5⟩ := h'.hl
  obtain ⟨x6, a6⟩ := h'.ht
  obtain ⟨x7, y7, a7, e7⟩ := h'.hr
  obtain ⟨x8, y8, a8, e8⟩ := h'.hb
  have b1 := h'.le _ _ a1
  have b2 := h'.le _ _ a2
  have b3 := h'.le _ _ a3
  have b4 := h'.le _ _ a4
  have b5 := h.le _ _ a5
  have b6 := h.le _ _ a6
  have b7 := h.le _ _ a7
  have b8 := h.le _ _ a8
  omega
/-- What the box of the first m cells is. -/
theorem bbx_is (p : Pat) : ∀ m, m ≤ p.W * p.H →
    ((∀ i, i < m → ¬ p.xs.getD i 0 = 1) ∧ bbx p.W p.H p.xs m = ⟨p.W, p.H, 0, 0⟩) ∨
    (∃ l t r b, bbx p.W p.H p.xs m = ⟨l, t, r, b⟩ ∧ (∀ i, i < m → p.xs.getD i 0 = 1 → l ≤ i % p.W ∧ t ≤ i / p.W ∧ i % p.W < r ∧ i / p.W < b) ∧ (∃ i, i < m ∧ p.xs.getD i 0 = 1 ∧ i % p.W = l) ∧ (∃ i, i < m ∧ p.xs.getD i 0 = 1 ∧ i / p.W = t) ∧ (∃ i, i < m ∧ p.xs.getD i 0 = 1 ∧ r = i % p.W + 1) ∧ (∃ i, i < m ∧ p.xs.getD i 0 = 1 ∧ b = i / p.W + 1)) := by
  intro m
  induction m with
  | zero => intro _; exact Or.inl ⟨fun i hi => by omega, rfl⟩
  | succ m ih =>
    intro hm
    by_cases q : p.xs.getD m 0 = 1
    · right
      rw [bbx_yes q]
      rcases ih (by omega) with ⟨h1, h2⟩ | ⟨l, t, r, b, h0, h1, ⟨i1, c1, d1, e1⟩, ⟨i2, c2, d2, e2⟩, ⟨i3, c3, d3, e3⟩, ⟨i4, c4, d4, e4⟩⟩
      · rw [h2]
        obtain ⟨x, y, hx, hy, ex, ey, -⟩ := split_lt (W := p.W) (H := p.H) (i := m) (by omega)
        refine ⟨m % p.W, m / p.W, m % p.W + 1, m / p.W + 1, ?_, ?_, ⟨m, by omega, q, rfl⟩, ⟨m, by omega, q, rfl⟩, ⟨m, by omega, q, rfl⟩, ⟨m, by omega, q, rfl⟩⟩
        · rw [ex, ey]; dsimp only; rw [Nat.min_eq_right (by omega), Nat.min_eq_right (by omega), Nat.max_eq_right (by omega), Nat.max_eq_right (by omega)]
        · intro i hi hq
          by_cases e : i = m
          · subst e; omega
          · exact absurd hq (h1 i (by omega))
      · rw [h0]
        refine ⟨_, _, _, _, rfl, ?_, ?_, ?_, ?_, ?_⟩
        · intro i hi hq
          dsimp only
          by_cases e : i = m
          · subst e; omega
          · have := h1 i (by omega) hq; omega
        · dsimp only
          rcases Nat.le_total l (m % p.W) with k | k
          · exact ⟨i1, by omega, d1, by rw [Nat.min_eq_left k]; exact e1⟩
          · exact ⟨m, by omega, q, by rw [Nat.min_eq_right k]⟩
        · dsimp only
          rcases Nat.le_total t (m / p.W) with k | k
          · exact ⟨i2, by omega, d2, by rw [Nat.min_eq_left k]; exact e2⟩
          · exact ⟨m, by omega, q, by rw [Nat.min_eq_right k]⟩
        · dsimp only
          rcases Nat.le_total r (m % p.W + 1) with k | k
          · exact ⟨m, by omega, q, by rw [Nat.max_eq_right k]⟩
          · exact ⟨i3, by omega, d3, by rw [Nat.max_eq_left k]; exact e3⟩
        · dsimp only
          rcases Nat.le_total b (m / p.W + 1) with k | k
          · exact ⟨m, by omega, q, by rw [Nat.max_eq_right k]⟩
          · exact ⟨i4, by omega, d4, by rw [Nat.max_eq_left k]; exact e4⟩
    · rw [bbx_no q]
      rcases ih (by omega) with ⟨h1, h2⟩ | ⟨l, t, r, b, h0, h1, ⟨i1, c1, d1, e1⟩, ⟨i2, c2, d2, e2⟩, ⟨i3, c3, d3, e3⟩, ⟨i4, c4, d4, e4⟩⟩
      · left
        refine ⟨fun i hi => ?_, h2⟩
        by_cases e : i = m
        · subst e; exact q
        · exact h1 i (by omega)
      · right
        refine ⟨l, t, r, b, h0, fun i hi hq => ?_, ⟨i1, by omega, d1, e1⟩, ⟨i2, by omega, d2, e2⟩, ⟨i3, by omega, d3, e3⟩, ⟨i4, by omega, d4, e4⟩⟩
        by_cases e : i = m
        · subst e; exact absurd hq q
        · exact h1 i (by omega) hq
theorem live_of {p : Pat} {i : Nat} (hi : i < p.W * p.H) (h : p.xs.getD i 0 = 1) : live p (i % p.W) (i / p.W) := by
  obtain ⟨x, y, hx, hy, ex, ey, e⟩ := split_lt hi
  rw [ex, ey]
  exact ⟨hx, hy, by unfold atP; rw [e]; exact h⟩
theorem of_live {p : Pat} {x y : Nat} (h : live p x y) : y * p.W + x < p.W * p.H ∧ p.xs.getD (y * p.W + x) 0 = 1 ∧ (y * p.W + x) % p.W = x ∧ (y * p.W + x) / p.W = y := by
  obtain ⟨hx, hy, e⟩ := h
  obtain ⟨d, m⟩ := divmod_mk p.W y x hx
  exact ⟨mk_lt hx hy, e, m, d⟩
theorem trim_cases (p : Pat) : ((∀ x y, ¬ live p x y) ∧ (trimP p).1 = ⟨0, 0, []⟩) ∨ (∃ l t r b, IsBx p l t r b ∧ (trimP p).1 = ⟨r - l, b - t, winP p.W l t (r - l) ((r - l) * (b - t)) p.xs⟩) := by
  rcases bbx_is p (p.W * p.H) (Nat.le_refl _) with ⟨h1, h2⟩ | ⟨l, t, r, b, h0, h1, ⟨i1, c1, d1, e1⟩, ⟨i2, c2, d2, e2⟩, ⟨i3, c3, d3, e3⟩, ⟨i4, c4, d4, e4⟩⟩
  · left
    refine ⟨fun x y h => ?_, ?_⟩
    · obtain ⟨a, b, -, -⟩ := of_live h
      exact h1 _ a b
    · unfold trimP
      rw [h2]
      rfl
  · right
    refine ⟨l, t, r, b, ⟨fun x y h => ?_, ⟨_, e1 ▸ live_of c1 d1⟩, ⟨_, e2 ▸ live_of c2 d2⟩, ⟨_, _, live_of c3 d3, e3⟩, ⟨_, _, live_of c4 d4, e4⟩⟩, ?_⟩
    · obtain ⟨a, b, c, d⟩ := of_live h
      have := h1 _ a b
      rw [c, d] at this
      exact this
    · unfold trimP
      rw [h0]
      dsimp only
      rw [if_neg (by omega)]
theorem trim_none {p : Pat} (h : ∀ x y, ¬ live p x y) : (trimP p).1 = ⟨0, 0, []⟩ := by
  rcases trim_cases p with ⟨-, e⟩ | ⟨l, t, r, b, h', -⟩
  · exact e
  · obtain ⟨y, a⟩ := h'.hl
    exact absurd a (h _ _)
theorem trim_bx {p : Pat} {l t r b : Nat} (h : IsBx p l t r b) : (trimP p).1 = ⟨r - l, b - t, winP p.W l t (r - l) ((r - l) * (b - t)) p.xs⟩ := by
  rcases trim_cases p with ⟨n, -⟩ | ⟨l', t', r', b', h', e⟩
  · obtain ⟨y, a⟩ := h.hl
    exact absurd a (n _ _)
  · obtain ⟨rfl, rfl, rfl, rfl⟩ := h.unique h'
    exact e
theorem win_at (W l t V N : Nat) (xs : List Int) (x y : Nat) (hx : x < V) (hy : y < N) : atP V (winP W l t V (V * N) xs) x y = atP W xs (l + x) (t + y) := by
  obtain ⟨d, m⟩ := divmod_mk V y x hx
  have hl := mk_lt hx hy
  unfold winP
  rw [atP]
  simp [List.getD, hl, winC, d, m]
theorem live_mir {p : Pat} {x y : Nat} : live p.mir x y ↔ x < p.W ∧ live p (p.W - 1 - x) y := by
  constructor
  · rintro ⟨hx, hy, e⟩
    have hx' : x < p.W := hx
    rw [mirAt p x y hx hy] at e
    exact ⟨hx, by omega, hy, e⟩
  · rintro ⟨hx, -, hy, e⟩
    exact ⟨hx, hy, by rw [mirAt p x y hx hy]; exact e⟩
theorem live_mir' {p : Pat} {x y : Nat} (h : live p x y) : live p.mir (p.W - 1 - x) y := by
  have hx := h.1
  exact live_mir.2 ⟨by omega, by rw [show p.W - 1 - (p.W - 1 - x) = x by omega]; exact h⟩
theorem live_qtr {p : Pat} {x y : Nat} : live p.qtr x y ↔ x < p.H ∧ live p y (p.H - 1 - x) := by
  constructor
  · rintro ⟨hx, hy, e⟩
    have hx' : x < p.H := hx
    rw [qtrAt p x y hx hy] at e
    exact ⟨hx, hy, by omega, e⟩
  · rintro ⟨hx, hy, -, e⟩
    exact ⟨hx, hy, by rw [qtrAt p x y hx hy]; exact e⟩
theorem live_qtr' {p : Pat} {x y : Nat} (h : live p x y) : live p.qtr (p.H - 1 - y) x := by
  have hy := h.2.1
  exact live_qtr.2 ⟨by omega, by rw [show p.H - 1 - (p.H - 1 - y) = y by omega]; exact h⟩
theorem bx_mir {p : Pat} {l t r b : Nat} (h : IsBx p l t r b) : IsBx p.mir (p.W - r) t (p.W - l) b := by
  obtain ⟨y1, a1⟩ := h.hl
  obtain ⟨x2, a2⟩ := h.ht
  obtain ⟨x3, y3, a3, e3⟩ := h.hr
  obtain ⟨x4, y4, a4, e4⟩ := h.hb
  refine ⟨fun x y hh => ?_, ⟨y3, ?_⟩, ⟨_, live_mir' a2⟩, ⟨_, y1, live_mir' a1, ?_⟩, ⟨_, y4, live_mir' a4, e4⟩⟩
  · obtain ⟨c1, c2⟩ := live_mir.1 hh
    have := h.le _ _ c2
    omega
  · have := live_mir' a3
    rw [show p.W - r = p.W - 1 - x3 by omega]
    exact this
  · have := a1.1; omega
theorem bx_qtr {p : Pat} {l t r b : Nat} (h : IsBx p l t r b) : IsBx p.qtr (p.H - b) l (p.H - t) r := by
  obtain ⟨y1, a1⟩ := h.hl
  obtain ⟨x2, a2⟩ := h.ht
  obtain ⟨x3, y3, a3, e3⟩ := h.hr
  obtain ⟨x4, y4, a4, e4⟩ := h.hb
  refine ⟨fun x y hh => ?_, ⟨x4, ?_⟩, ⟨_, live_qtr' a1⟩, ⟨_, x2, live_qtr' a2, ?_⟩, ⟨_, x3, live_qtr' a3, e3⟩⟩
  · obtain ⟨c1, c2⟩ := live_qtr.1 hh
    have := h.le _ _ c2
    omega
  · have := live_qtr' a4
    rw [show p.H - b = p.H - 1 - y4 by omega]
    exact this
  · have := a2.2.1; omega
theorem IsBx.lims {p : Pat} {l t r b : Nat} (h : IsBx p l t r b) : l < r ∧ t < b ∧ r ≤ p.W ∧ b ≤ p.H := by
  obtain ⟨y1, a1⟩ := h.hl
  obtain ⟨x2, a2⟩ := h.ht
  obtain ⟨x3, y3, a3, e3⟩ := h.hr
  obtain ⟨x4, y4, a4, e4⟩ := h.hb
  have b1 := h.le _ _ a1
  have b2 := h.le _ _ a2
  have := a3.1
  have := a4.2.1
  omega
theorem trim_mir (p : Pat) : (trimP p.mir).1 = (trimP p).1.mir := by
  rcases trim_cases p with ⟨n, e⟩ | ⟨l, t, r, b, h, e⟩
  · rw [e, trim_none fun x y hh => n _ _ (live_mir.1 hh).2]
    rfl
  · have hh := bx_mir h
    obtain ⟨c1, c2, c3, c4⟩ := h.lims
    refine pat_at (trim_ok _) (mir_ok _) ?_ ?_ ?_
    · rw [trim_bx hh, e]; show p.W - l - (p.W - r) = r - l; omega
    · rw [trim_bx hh, e]; rfl
    · intro x y hx hy
      rw [trim_bx hh] at hx hy ⊢
      rw [e]
      have hx' : x < p.W - l - (p.W - r) := hx
      have hy' : y < b - t := hy
      refine (win_at _ _ _ _ _ _ x y hx hy).trans ?_
      refine (mirAt p _ _ (by show p.W - r + x < p.W; omega) (by show t + y < p.H; omega)).trans ?_
      refine Eq.trans ?_ (mirAt ⟨r - l, b - t, winP p.W l t (r - l) ((r - l) * (b - t)) p.xs⟩ x y (by show x < r - l; omega) hy).symm
      refine Eq.trans ?_ (win_at _ _ _ _ _ _ (r - l - 1 - x) y (show r - l - 1 - x < r - l by omega) hy').symm
      rw [show p.W - 1 - (p.W - r + x) = l + (r - l - 1 - x) by omega]
theorem trim_qtr (p : Pat) : (trimP p.qtr).1 = (trimP p).1.qtr := by
  rcases trim_cases p with ⟨n, e⟩ | ⟨l, t, r, b, h, e⟩
  · rw [e, trim_none fun x y hh => n _ _ (live_qtr.1 hh).2]
    rfl
  · have hh := bx_qtr h
    obtain ⟨c1, c2, c3, c4⟩ := h.lims
    refine pat_at (trim_ok _) (qtr_ok _) ?_ ?_ ?_
    · rw [trim_bx hh, e]; show p.H - t - (p.H - b) = b - t; omega
    · rw [trim_bx hh, e]; rfl
    · intro x y hx hy
      rw [trim_bx hh] at hx hy ⊢
      rw [e]
      have hx' : x < p.H - t - (p.H - b) := hx
      have hy' : y < r - l := hy
      refine (win_at _ _ _ _ _ _ x y hx hy).trans ?_
      refine (qtrAt p _ _ (by show p.H - b + x < p.H; omega) (by show l + y < p.W; omega)).trans ?_
      refine Eq.trans ?_ (qtrAt ⟨r - l, b - t, winP p.W l t (r - l) ((r - l) * (b - t)) p.xs⟩ x y (by show x < b - t; omega) hy).symm
      refine Eq.trans ?_ (win_at _ _ _ _ _ _ y (b - t - 1 - x) hy' (by omega)).symm
      rw [show p.H - 1 - (p.H - b + x) = t + (b - t - 1 - x) by omega]
theorem trim_rot (p : Pat) : ∀ j, (trimP (p.rot j)).1 = (trimP p).1.rot j := by
  intro j
  induction j with
  | zero => rfl
  | succ j ih => rw [Pat.rot, trim_qtr, ih]; rfl
theorem trim_turn (p : Pat) (k : Nat) : (trimP (p.turn k)).1 = (trimP p).1.turn k := by
  unfold Pat.turn
  rw [trim_rot]
  split
  · rw [trim_mir]
  · rfl
theorem canon_turn (p : Pat) (k : Nat) (hk : k < 8) : canonP (p.turn k) = canonP p := by
  unfold canonP
  rw [trim_turn]
  exact (best_same (trim_ok p) (turn_ok _ (trim_ok p) k) ⟨k, hk, rfl⟩).symm
end Go.Proofs.YtjngjnkecnnmeaaDoor

