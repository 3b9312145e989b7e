/-
  What the last text of this claim leans on, part 11: Pp1, Pp2, Ga1, Bk1, Gq1, Gq3.
-/
import Derived.Test.YtfdbgkdbmlmigaaDoorZp7
import Derived.Laws.Bits64b
import Derived.Laws.BitsAllLaws
namespace Go.Proofs.YtfdbgkdbmlmigaaDoor
set_option linter.unusedVariables false
/-- The first so many bits as a number. -/
def valB (g : Nat → Nat) : Nat → Nat
  | 0 => 0
  | n + 1 => 2 * valB g n + g n
theorem valB_ext {g h : Nat → Nat} : ∀ n, (∀ i, i < n → g i = h i) → valB g n = valB h n
  | 0, _ => rfl
  | n + 1, e => by rw [valB, valB, valB_ext n (fun i hi => e i (by omega)), e n (by omega)]
theorem valB_lt {g h : Nat → Nat} {n : Nat} (hl : valB g n < valB h n) : ∀ d, (∀ i, n ≤ i → i < n + d → g i ≤ 1) → valB g (n + d) < valB h (n + d)
  | 0, _ => hl
  | d + 1, hg => by
    have ih := valB_lt hl d (fun i h1 h2 => hg i h1 (by omega))
    have := hg (n + d) (by omega) (by omega)
    show 2 * valB g (n + d) + g (n + d) < 2 * valB h (n + d) + h (n + d)
    omega
theorem valB_inj {g h : Nat → Nat} : ∀ n, (∀ i, i < n → g i ≤ 1) → (∀ i, i < n → h i ≤ 1) → valB g n = valB h n → ∀ i, i < n → g i = h i
  | 0, _, _, _, i, hi => by omega
  | n + 1, hg, hh, e, i, hi => by
    have g1 := hg n (by omega)
    have h1 := hh n (by omega)
    rw [valB, valB] at e
    have e1 : valB g n = valB h n := by omega
    by_cases q : i = n
    · subst q; omega
    · exact valB_inj n (fun j hj => hg j (by omega)) (fun j hj => hh j (by omega)) e1 i (by omega)
/-- A rule looks no farther than itself. -/
def LocB (T : Nat) (ok : (Nat → Nat) → Nat → Prop) : Prop := ∀ g h i, i < T → (∀ j, j ≤ i → g j = h j) → ok g i → ok h i
/-- What goes on from a beginning. -/
def ExtB (T : Nat) (ok : (Nat → Nat) → Nat → Prop) (g : Nat → Nat) (a : Nat) (g' : Nat → Nat) : Prop := (∀ i, i < a → g' i = g i) ∧ ∀ i, a ≤ i → i < T → g' i ≤ 1 ∧ ok g' i
def BestB (T : Nat) (ok : (Nat → Nat) → Nat → Prop) (g : Nat → Nat) (a : Nat) (g' : Nat → Nat) : Prop := ExtB T ok g a g' ∧ ∀ h, ExtB T ok g a h → valB g' T ≤ valB h T
def NoneB (T : Nat) (ok : (Nat → Nat) → Nat → Prop) (g : Nat → Nat) (a : Nat) : Prop := ∀ h, ¬ ExtB T ok g a h
def updB (g : Nat → Nat) (a c : Nat) : Nat → Nat := fun i => if i = a then c else g i
theorem best_end (T : Nat) (ok : (Nat → Nat) → Nat → Prop) (g : Nat → Nat) : BestB T ok g T g :=
  ⟨⟨fun _ _ => rfl, fun i h1 h2 => by omega⟩, fun h hh => by rw [valB_ext T (fun i hi => (hh.1 i hi).symm)]; exact Nat.le_refl _⟩
theorem ext_in {T : Nat} {ok : (Nat → Nat) → Nat → Prop} (hL : LocB T ok) {g g' : Nat → Nat} {a c : Nat} (ha : a < T) (c1 : c ≤ 1) (hk : ok (updB g a c) a) (h : ExtB T ok (updB g a c) (a + 1) g') : ExtB T ok g a g' := by
  have e : g' a = c := by rw [h.1 a (by omega)]; simp [updB]
  refine ⟨fun i hi => by rw [h.1 i (by omega)]; simp [updB, show i ≠ a by omega], fun i h1 h2 => ?_⟩
  by_cases q : i = a
  · subst q
    exact ⟨by omega, hL (updB g i c) g' i ha (fun j hj => (h.1 j (by omega)).symm) hk⟩
  · exact h.2 i (by omega) h2
theorem ext_out {T : Nat} {ok : (Nat → Nat) → Nat → Prop} (hL : LocB T ok) {g g' : Nat → Nat} {a : Nat} (ha : a < T) (h : ExtB T ok g a g') : ExtB T ok (updB g a (g' a)) (a + 1) g' ∧ ok (updB g a (g' a)) a ∧ g' a ≤ 1 := by
  have e : ∀ j, j ≤ a → g' j = updB g a (g' a) j := fun j hj => by
    unfold updB
    split
    · rename_i q; rw [q]
    · exact h.1 j (by omega)
  exact ⟨⟨fun i hi => e i (by omega), fun i h1 h2 => h.2 i (by omega) h2⟩, hL g' _ a ha (fun j hj => e j hj) (h.2 a (Nat.le_refl _) ha).2, (h.2 a (Nat.le_refl _) ha).1⟩
theorem val_step {T : Nat} {ok : (Nat → Nat) → Nat → Prop} {g g' h : Nat → Nat} {a : Nat} (ha : a < T) (hg : ExtB T ok g a g') (hh : ExtB T ok g a h) (hl : g' a < h a) : valB g' T < valB h T := by
  have e : valB g' a = valB h a := valB_ext a (fun i hi => by rw [hg.1 i hi, hh.1 i hi])
  have l : valB g' (a + 1) < valB h (a + 1) := by rw [valB, valB, e]; omega
  have := valB_lt l (T - (a + 1)) (fun i h1 h2 => (hg.2 i (by omega) (by omega)).1)
  rwa [show a + 1 + (T - (a + 1)) = T by omega] at this
theorem best_zero {T : Nat} {ok : (Nat → Nat) → Nat → Prop} (hL : LocB T ok) {g g' : Nat → Nat} {a : Nat} (ha : a < T) (hk : ok (updB g a 0) a) (h : BestB T ok (updB g a 0) (a + 1) g') : BestB T ok g a g' := by
  have hE := ext_in hL ha (by omega) hk h.1
  refine ⟨hE, fun x hx => ?_⟩
  obtain ⟨x1, x2, x3⟩ := ext_out hL ha hx
  have e : g' a = 0 := by rw [h.1.1 a (by omega)]; simp [updB]
  by_cases q : x a = 0
  · rw [q] at x1; exact h.2 x x1
  · exact Nat.le_of_lt (val_step ha hE hx (by omega))
theorem best_one {T : Nat} {ok : (Nat → Nat) → Nat → Prop} (hL : LocB T ok) {g g' : Nat → Nat} {a : Nat} (ha : a < T) (h0 : ok (updB g a 0) a → NoneB T ok (updB g a 0) (a + 1)) (hk : ok (updB g a 1) a) (h : BestB T ok (updB g a 1) (a + 1) g') : BestB T ok g a g' := by
  refine ⟨ext_in hL ha (by omega) hk h.1, fun x hx => ?_⟩
  obtain ⟨x1, x2, x3⟩ := ext_out hL ha hx
  by_cases q : x a = 0
  · rw [q] at x1 x2; exact absurd x1 (h0 x2 x)
  · rw [show x a = 1 by omega] at x1; exact h.2 x x1
theorem none_both {T : Nat} {ok : (Nat → Nat) → Nat → Prop} (hL : LocB T ok) {g : Nat → Nat} {a : Nat} (ha : a < T) (h0 : ok (updB g a 0) a → NoneB T ok (updB g a 0) (a + 1)) (h1 : ok (updB g a 1) a → NoneB T ok (updB g a 1) (a + 1)) : NoneB T ok g a := by
  intro x hx
  obtain ⟨x1, x2, x3⟩ := ext_out hL ha hx
  by_cases q : x a = 0
  · rw [q] at x1 x2; exact h0 x2 x x1
  · rw [show x a = 1 by omega] at x1 x2; exact h1 x2 x x1
/-- What nothing comes of hangs on the cells from L on alone. -/
theorem none_same {T L a : Nat} {ok : (Nat → Nat) → Nat → Prop} (hF : ∀ g h i, a ≤ i → i < T → (∀ j, L ≤ j → j ≤ i → g j = h j) → ok g i → ok h i) {g h : Nat → Nat} (he : ∀ j, L ≤ j → j < a → g j = h j) (hn : NoneB T ok g a) : NoneB T ok h a := by
  intro x hx
  refine hn (fun i => if i < a then g i else x i) ⟨fun i hi => by simp [hi], fun i h1 h2 => ?_⟩
  have := hx.2 i h1 h2
  simp only [show ¬ i < a by omega, if_false]
  refine ⟨this.1, hF x _ i h1 h2 (fun j j1 j2 => ?_) this.2⟩
  split
  · rename_i q; rw [hx.1 j q, he j j1 q]
  · rfl
/-- The first is the only one. -/
theorem best_only {T : Nat} {ok : (Nat → Nat) → Nat → Prop} {g g' h h' : Nat → Nat} (a : BestB T ok g 0 g') (b : BestB T ok h 0 h') : ∀ i, i < T → g' i = h' i := by
  have e1 : ExtB T ok h 0 g' := ⟨fun i hi => by omega, a.1.2⟩
  have e2 : ExtB T ok g 0 h' := ⟨fun i hi => by omega, b.1.2⟩
  exact valB_inj T (fun i hi => (a.1.2 i (by omega) hi).1) (fun i hi => (b.1.2 i (by omega) hi).1) (Nat.le_antisymm (a.2 _ e2) (b.2 _ e1))
/-- A cell of a row that is a number: its left cell is the highest bit. -/
def rowBit (w v x : Nat) : Nat := v / 2 ^ (w - 1 - x) % 2
/-- Row m laid. -/
def setR (g : Nat → Nat) (w m v : Nat) : Nat → Nat := fun i => if m * w ≤ i ∧ i < m * w + w then rowBit w v (i - m * w) else g i
theorem valB_row (g : Nat → Nat) (w m v : Nat) (hv : v < 2 ^ w) : ∀ k, k ≤ w → valB (setR g w m v) (m * w + k) = valB g (m * w) * 2 ^ k + v / 2 ^ (w - k)
  | 0, _ => by
    rw [Nat.add_zero, Nat.sub_zero, Nat.pow_zero, Nat.mul_one, Nat.div_eq_of_lt hv, Nat.add_zero]
    exact valB_ext _ (fun i hi => by unfold setR; rw [if_neg (by omega)])
  | k + 1, hk => by
    rw [← Nat.add_assoc, valB, valB_row g w m v hv k (by omega)]
    have e : setR g w m v (m * w + k) = v / 2 ^ (w - (k + 1)) % 2 := by
      unfold setR rowBit
      rw [if_pos (by omega), show m * w + k - m * w = k by omega, show w - 1 - k = w - (k + 1) by omega]
    rw [e, Nat.pow_succ]
    have e2 : v / 2 ^ (w - k) = v / 2 ^ (w - (k + 1)) / 2 := by
      rw [Nat.div_div_eq_div_mul, ← Nat.pow_succ, show (w - (k + 1)).succ = w - k by omega]
    rw [e2]
    generalize v / 2 ^ (w - (k + 1)) = z
    have : valB g (m * w) * (2 ^ k * 2) = 2 * (valB g (m * w) * 2 ^ k) := by rw [← Nat.mul_assoc, Nat.mul_comm]
    rw [this]
    omega
theorem row_num (g : Nat → Nat) (b : Nat) : ∀ k, (∀ i, b ≤ i → i < b + k → g i ≤ 1) → ∃ v, v < 2 ^ k ∧ ∀ x, x < k → g (b + x) = rowBit k v x
  | 0, _ => ⟨0, by simp, fun x hx => by omega⟩
  | k + 1, h => by
    obtain ⟨v, hv, hx⟩ := row_num g b k (fun i h1 h2 => h i h1 (by omega))
    have h1 := h (b + k) (by omega) (by omega)
    refine ⟨2 * v + g (b + k), by rw [Nat.pow_succ]; omega, fun x xl => ?_⟩
    unfold rowBit
    by_cases q : x = k
    · subst q
      rw [show x + 1 - 1 - x = 0 by omega, Nat.pow_zero, Nat.div_one]
      omega
    · rw [hx x (by omega)]
      unfold rowBit
      rw [show k + 1 - 1 - x = (k - 1 - x) + 1 by omega, Nat.pow_succ, Nat.mul_comm (2 ^ _) 2, ← Nat.div_div_eq_div_mul]
      congr 2
      omega
def rowOk (ok : (Nat → Nat) → Nat → Prop) (g : Nat → Nat) (w m : Nat) : Prop := ∀ i, m * w ≤ i → i < m * w + w → ok g i
theorem rext_in {T w : Nat} {ok : (Nat → Nat) → Nat → Prop} (hL : LocB T ok) {g g' : Nat → Nat} {m v : Nat} (hT : m * w + w ≤ T) (hk : rowOk ok (setR g w m v) w m) (h : ExtB T ok (setR g w m v) (m * w + w) g') : ExtB T ok g (m * w) g' := by
  refine ⟨fun i hi => by rw [h.1 i (by omega)]; unfold setR; rw [if_neg (by omega)], fun i h1 h2 => ?_⟩
  by_cases q : i < m * w + w
  · refine ⟨?_, hL (setR g w m v) g' i h2 (fun j hj => (h.1 j (by omega)).symm) (hk i h1 q)⟩
    rw [h.1 i q]; unfold setR; rw [if_pos ⟨h1, q⟩]; unfold rowBit; omega
  · exact h.2 i (by omega) h2
theorem rext_out {T w : Nat} {ok : (Nat → Nat) → Nat → Prop} (hL : LocB T ok) {g g' : Nat → Nat} {m : Nat} (hT : m * w + w ≤ T) (h : ExtB T ok g (m * w) g') : ∃ v, v < 2 ^ w ∧ rowOk ok (setR g w m v) w m ∧ ExtB T ok (setR g w m v) (m * w + w) g' := by
  obtain ⟨v, hv, hx⟩ := row_num g' (m * w) w (fun i h1 h2 => (h.2 i h1 (by omega)).1)
  have e : ∀ j, j < m * w + w → g' j = setR g w m v j := fun j hj => by
    unfold setR
    split
    · rename_i q
      have := hx (j - m * w) (by omega)
      rwa [show m * w + (j - m * w) = j by omega] at this
    · exact h.1 j (by omega)
  exact ⟨v, hv, fun i h1 h2 => hL g' _ i (by omega) (fun j hj => e j (by omega)) (h.2 i h1 (by omega)).2, fun i hi => e i hi, fun i h1 h2 => h.2 i (by omega) h2⟩
theorem best_row {T w : Nat} {ok : (Nat → Nat) → Nat → Prop} (hL : LocB T ok) {g g' : Nat → Nat} {m v : Nat} (hT : m * w + w ≤ T) (hv : v < 2 ^ w) (hb : ∀ u, u < v → rowOk ok (setR g w m u) w m → NoneB T ok (setR g w m u) (m * w + w)) (hk : rowOk ok (setR g w m v) w m) (h : BestB T ok (setR g w m v) (m * w + w) g') : BestB T ok g (m * w) g' := by
  refine ⟨rext_in hL hT hk h.1, fun x hx => ?_⟩
  obtain ⟨u, hu, uk, ux⟩ := rext_out hL hT hx
  rcases Nat.lt_trichotomy u v with q | q | q
  · exact absurd ux (hb u q uk x)
  · subst q; exact h.2 x ux
  · have e1 : valB g' (m * w + w) = valB (setR g w m v) (m * w + w) := valB_ext _ (fun i hi => h.1.1 i hi)
    have e2 : valB x (m * w + w) = valB (setR g w m u) (m * w + w) := valB_ext _ (fun i hi => ux.1 i hi)
    have l : valB g' (m * w + w) < valB x (m * w + w) := by
      rw [e1, e2, valB_row g w m v hv w (Nat.le_refl _), valB_row g w m u hu w (Nat.le_refl _), Nat.sub_self, Nat.pow_zero, Nat.div_one, Nat.div_one]
      omega
    have := valB_lt l (T - (m * w + w)) (fun i h1 h2 => (h.1.2 i (by omega) (by omega)).1)
    rw [show m * w + w + (T - (m * w + w)) = T by omega] at this
    omega
theorem none_row {T w : Nat} {ok : (Nat → Nat) → Nat → Prop} (hL : LocB T ok) {g : Nat → Nat} {m : Nat} (hT : m * w + w ≤ T) (hb : ∀ u, u < 2 ^ w → rowOk ok (setR g w m u) w m → NoneB T ok (setR g w m u) (m * w + w)) : NoneB T ok g (m * w) := by
  intro x hx
  obtain ⟨u, hu, uk, ux⟩ := rext_out hL hT hx
  exact hb u hu uk x ux
end Go.Proofs.YtfdbgkdbmlmigaaDoor

namespace Go.Proofs.YtfdbgkdbmlmigaaDoor
set_option linter.unusedVariables false
/-- The neighbours that live of the cell beside x, y. -/
def midS (g : Nat → Nat) (w x y : Nat) : Nat → Nat
  | 0 => 0
  | k + 1 => midS g w x y k + if k = 4 then 0 else g ((y + k / 3) * w + (x + k % 3))
def midP (born stay : Nat) (g : Nat → Nat) (w x y : Nat) : Nat := becN born stay (g ((y + 1) * w + (x + 1)) : Int) (midS g w x y 9)
/-- Does the cell that all is chosen for with this one become what is wanted? -/
def okP (born stay w : Nat) (pc : Nat → Int) (g : Nat → Nat) (i : Nat) : Prop := 2 ≤ i % w → 2 ≤ i / w → ((midP born stay g w (i % w - 2) (i / w - 2) : Nat) : Int) = pc ((i / w - 2) * (w - 2) + (i % w - 2))
theorem mul_up (y k w : Nat) : (y + k) * w = y * w + k * w := Nat.add_mul y k w
theorem mid_ext {born stay w x y : Nat} {g h : Nat → Nat} (e : ∀ j, y * w + x ≤ j → j ≤ y * w + 2 * w + x + 2 → g j = h j) : midP born stay g w x y = midP born stay h w x y := by
  have e3 : ∀ a b, a ≤ 2 → b ≤ 2 → g ((y + a) * w + (x + b)) = h ((y + a) * w + (x + b)) := fun a b ha hb => by
    refine e _ ?_ ?_
    · rw [mul_up]; have := Nat.zero_le (a * w); omega
    · rw [mul_up]
      have : a * w ≤ 2 * w := Nat.mul_le_mul_right _ ha
      omega
  have s : ∀ k, k ≤ 9 → midS g w x y k = midS h w x y k := fun k => by
    induction k with
    | zero => intro _; rfl
    | succ k ih =>
      intro hk
      rw [midS, midS, ih (by omega)]
      split
      · rfl
      · rw [e3 (k / 3) (k % 3) (by omega) (by omega)]
  unfold midP
  rw [s 9 (Nat.le_refl _), e3 1 1 (by omega) (by omega)]
theorem place_is {w i : Nat} (h : 2 ≤ i % w) (h' : 2 ≤ i / w) : (i / w - 2) * w + (i % w - 2) + 2 * w + 2 = i := by
  have e := Nat.div_add_mod i w
  have e1 : (i / w - 2) * w + 2 * w = i / w * w := by rw [← mul_up, show i / w - 2 + 2 = i / w by omega]
  rw [Nat.mul_comm] at e
  omega
theorem okP_loc (born stay w : Nat) (pc : Nat → Int) (T : Nat) : LocB T (okP born stay w pc) := fun g h i hi e hg a b => by
  have := hg a b
  rw [mid_ext (h := h) (fun j j1 j2 => e j (by have := place_is a b; omega))] at this
  exact this
theorem okP_cell (born stay w : Nat) (pc : Nat → Int) (T a : Nat) : ∀ g h i, a ≤ i → i < T → (∀ j, a - (2 * w + 2) ≤ j → j ≤ i → g j = h j) → okP born stay w pc g i → okP born stay w pc h i := fun g h i hi _ e hg x y => by
  have := hg x y
  have pl := place_is x y
  rw [mid_ext (h := h) (fun j j1 j2 => e j (by omega) (by omega))] at this
  exact this
theorem okP_row (born stay w : Nat) (pc : Nat → Int) (T m : Nat) : ∀ g h i, m * w ≤ i → i < T → (∀ j, (m - 2) * w ≤ j → j ≤ i → g j = h j) → okP born stay w pc g i → okP born stay w pc h i := fun g h i hi _ e hg x y => by
  have := hg x y
  have pl := place_is x y
  have w0 : 0 < w := by
    rcases Nat.eq_zero_or_pos w with q | q
    · subst q; simp at y
    · exact q
  have hm : m ≤ i / w := (Nat.le_div_iff_mul_le w0).2 hi
  have h2 : (m - 2) * w ≤ (i / w - 2) * w := Nat.mul_le_mul_right _ (by omega)
  rw [mid_ext (h := h) (fun j j1 j2 => e j (by omega) (by omega))] at this
  exact this
/-- Three bits beside each other. -/
def thN (v x : Nat) : Nat := bitN v x + bitN v (x + 1) + bitN v (x + 2)
theorem bit_le (v x : Nat) : bitN v x ≤ 1 := by unfold bitN; omega
def mkB (born stay a h b wanted x : Nat) : Bool := decide (becN born stay (bitN h (x + 1) : Int) (thN a x + thN h x + thN b x - bitN h (x + 1)) = bitN wanted x)
theorem row_bits {w v x : Nat} (hx : x + 2 < w) : rowBit w v x = bitN v (w - 3 - x + 2) ∧ rowBit w v (x + 1) = bitN v (w - 3 - x + 1) ∧ rowBit w v (x + 2) = bitN v (w - 3 - x) := by
  unfold rowBit bitN
  rw [show w - 1 - x = w - 3 - x + 2 by omega, show w - 1 - (x + 1) = w - 3 - x + 1 by omega, show w - 1 - (x + 2) = w - 3 - x by omega]
  exact ⟨rfl, rfl, rfl⟩
theorem mid_rows {g : Nat → Nat} {born stay w m a h b x : Nat} (ha : ∀ x, x < w → g (m * w + x) = rowBit w a x) (hh : ∀ x, x < w → g ((m + 1) * w + x) = rowBit w h x) (hb : ∀ x, x < w → g ((m + 2) * w + x) = rowBit w b x) (hx : x + 2 < w) :
    midP born stay g w x m = becN born stay (bitN h (w - 3 - x + 1) : Int) (thN a (w - 3 - x) + thN h (w - 3 - x) + thN b (w - 3 - x) - bitN h (w - 3 - x + 1)) := by
  obtain ⟨a0, a1, a2⟩ := row_bits (v := a) hx
  obtain ⟨h0, h1, h2⟩ := row_bits (v := h) hx
  obtain ⟨b0, b1, b2⟩ := row_bits (v := b) hx
  have c0 := ha x (by omega)
  have c1 := ha (x + 1) (by omega)
  have c2 := ha (x + 2) (by omega)
  have d0 := hh x (by omega)
  have d1 := hh (x + 1) (by omega)
  have d2 := hh (x + 2) (by omega)
  have e0 := hb x (by omega)
  have e1 := hb (x + 1) (by omega)
  have e2 := hb (x + 2) (by omega)
  rw [a0] at c0; rw [a1] at c1; rw [a2] at c2
  rw [h0] at d0; rw [h1] at d1; rw [h2] at d2
  rw [b0] at e0; rw [b1] at e1; rw [b2] at e2
  have hs : midS g w x m 9 = thN a (w - 3 - x) + thN h (w - 3 - x) + thN b (w - 3 - x) - bitN h (w - 3 - x + 1) := by
    have t0 : g ((m + 0 / 3) * w + (x + 0 % 3)) = bitN a (w - 3 - x + 2) := c0
    have t1 : g ((m + 1 / 3) * w + (x + 1 % 3)) = bitN a (w - 3 - x + 1) := c1
    have t2 : g ((m + 2 / 3) * w + (x + 2 % 3)) = bitN a (w - 3 - x) := c2
    have t3 : g ((m + 3 / 3) * w + (x + 3 % 3)) = bitN h (w - 3 - x + 2) := d0
    have t5 : g ((m + 5 / 3) * w + (x + 5 % 3)) = bitN h (w - 3 - x) := d2
    have t6 : g ((m + 6 / 3) * w + (x + 6 % 3)) = bitN b (w - 3 - x + 2) := e0
    have t7 : g ((m + 7 / 3) * w + (x + 7 % 3)) = bitN b (w - 3 - x + 1) := e1
    have t8 : g ((m + 8 / 3) * w + (x + 8 % 3)) = bitN b (w - 3 - x) := e2
    have e : midS g w x m 9 = 0 + g ((m + 0 / 3) * w + (x + 0 % 3)) + g ((m + 1 / 3) * w + (x + 1 % 3)) + g ((m + 2 / 3) * w + (x + 2 % 3)) + g ((m + 3 / 3) * w + (x + 3 % 3)) + 0 + g ((m + 5 / 3) * w + (x + 5 % 3)) + g ((m + 6 / 3) * w + (x + 6 % 3)) + g ((m + 7 / 3) * w + (x + 7 % 3)) + g ((m + 8 / 3) * w + (x + 8 % 3)) := rfl
    rw [e, t0, t1, t2, t3, t5, t6, t7, t8]
    unfold thN
    omega
  unfold midP
  rw [hs, d1]
/-- A row does just where it makes the row that is wanted. -/
theorem row_ok {g : Nat → Nat} {born stay w m a h b wanted : Nat} {pc : Nat → Int} (w2 : 2 ≤ w) (ha : ∀ x, x < w → g (m * w + x) = rowBit w a x) (hh : ∀ x, x < w → g ((m + 1) * w + x) = rowBit w h x) (hb : ∀ x, x < w → g ((m + 2) * w + x) = rowBit w b x)
    (hp : ∀ c, c < w - 2 → pc (m * (w - 2) + c) = (bitN wanted (w - 3 - c) : Int)) : rowOk (okP born stay w pc) g w (m + 2) ↔ ∀ x, x < w - 2 → mkB born stay a h b wanted x = true := by
  have dv : ∀ x, x < w → ((m + 2) * w + x) / w = m + 2 ∧ ((m + 2) * w + x) % w = x := fun x hx => by
    rw [Nat.mul_comm, Nat.mul_add_div (by omega), Nat.div_eq_of_lt hx, Nat.mul_add_mod, Nat.mod_eq_of_lt hx]; exact ⟨by omega, rfl⟩
  constructor
  · intro h1 x hx
    have q := h1 ((m + 2) * w + (w - 1 - x)) (by omega) (by omega)
    obtain ⟨d1, d2⟩ := dv (w - 1 - x) (by omega)
    unfold okP at q
    rw [d1, d2] at q
    have q1 := q (by omega) (by omega)
    rw [show m + 2 - 2 = m by omega, show w - 1 - x - 2 = w - 3 - x by omega, mid_rows ha hh hb (by omega), hp _ (by omega), show w - 3 - (w - 3 - x) = x by omega] at q1
    unfold mkB
    rw [decide_eq_true_eq]
    exact_mod_cast q1
  · intro h1 i i1 i2
    obtain ⟨d1, d2⟩ := dv (i - (m + 2) * w) (by omega)
    rw [show (m + 2) * w + (i - (m + 2) * w) = i by omega] at d1 d2
    intro a1 b1
    rw [d1, d2] at *
    have q := h1 (w - 1 - (i - (m + 2) * w)) (by omega)
    unfold mkB at q
    rw [decide_eq_true_eq] at q
    rw [show m + 2 - 2 = m by omega, mid_rows ha hh hb (by omega), hp _ (by omega)]
    rw [show w - 3 - (i - (m + 2) * w - 2) = w - 1 - (i - (m + 2) * w) by omega, q]
theorem row_free {g : Nat → Nat} {born stay w m : Nat} {pc : Nat → Int} (hm : m < 2) : rowOk (okP born stay w pc) g w m := fun i h1 h2 a b => by
  have w0 : 0 < w := by omega
  have : i / w < m + 1 := (Nat.div_lt_iff_lt_mul w0).2 (by rw [Nat.add_mul]; omega)
  omega
end Go.Proofs.YtfdbgkdbmlmigaaDoor

namespace Go.Proofs.YtfdbgkdbmlmigaaDoor
open Go.RowKit
set_option linter.unusedVariables false
end Go.Proofs.YtfdbgkdbmlmigaaDoor

namespace Go.Proofs.YtfdbgkdbmlmigaaDoor
open Go.RowKit
set_option linter.unusedVariables false
def d0 (n : Nat) : Nat := n % 2
def d1 (n : Nat) : Nat := n / 2 % 2
def d2 (n : Nat) : Nat := n / 4 % 2
def d3 (n : Nat) : Nat := n / 8
end Go.Proofs.YtfdbgkdbmlmigaaDoor

namespace Go.Proofs.YtfdbgkdbmlmigaaDoor
set_option linter.unusedVariables false

end Go.Proofs.YtfdbgkdbmlmigaaDoor

namespace Go.Proofs.YtfdbgkdbmlmigaaDoor
open Go.RowKit
set_option linter.unusedVariables false

/-- A row's cell. -/
def rb (a b x : Nat) : Bool := if x < 64 then a.testBit x else b.testBit (x - 64)
end Go.Proofs.YtfdbgkdbmlmigaaDoor

