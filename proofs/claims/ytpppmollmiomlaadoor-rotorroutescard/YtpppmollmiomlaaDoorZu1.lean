/-
  What the last text of this claim leans on, part 1: Sd1, Sd2.
-/
import Derived.RowKit
namespace Go.Proofs.YtpppmollmiomlaaDoor
set_option linter.unusedVariables false
/-- Sums of so many numbers. -/
def smS : Nat → (Nat → Int) → Int
  | 0, _ => 0
  | n + 1, f => smS n f + f n
theorem smS_congr {f g : Nat → Int} : ∀ {n : Nat}, (∀ k, k < n → f k = g k) → smS n f = smS n g
  | 0, _ => rfl
  | n + 1, h => by unfold smS; rw [smS_congr (n := n) fun k hk => h k (by omega), h n (by omega)]
theorem smS_le {f g : Nat → Int} : ∀ {n : Nat}, (∀ k, k < n → f k ≤ g k) → smS n f ≤ smS n g
  | 0, _ => Int.le_refl _
  | n + 1, h => by
    have a := smS_le (n := n) fun k hk => h k (by omega)
    have b := h n (by omega)
    unfold smS; omega
theorem smS_zero : ∀ n : Nat, smS n (fun _ => 0) = 0
  | 0 => rfl
  | n + 1 => by unfold smS; rw [smS_zero n]; rfl
theorem smS_add (f g : Nat → Int) : ∀ n : Nat, smS n (fun k => f k + g k) = smS n f + smS n g
  | 0 => rfl
  | n + 1 => by simp only [smS]; rw [smS_add f g n]; omega
theorem smS_neg (f : Nat → Int) : ∀ n : Nat, smS n (fun k => - f k) = - smS n f
  | 0 => rfl
  | n + 1 => by simp only [smS]; rw [smS_neg f n]; omega
theorem smS_sub (f g : Nat → Int) : ∀ n : Nat, smS n (fun k => f k - g k) = smS n f - smS n g
  | 0 => rfl
  | n + 1 => by simp only [smS]; rw [smS_sub f g n]; omega
theorem smS_mul (a : Int) (f : Nat → Int) : ∀ n : Nat, smS n (fun k => a * f k) = a * smS n f
  | 0 => by simp [smS]
  | n + 1 => by simp only [smS]; rw [smS_mul a f n, Int.mul_add]
theorem smS_nonneg {f : Nat → Int} {n : Nat} (h : ∀ k, k < n → 0 ≤ f k) : 0 ≤ smS n f := by
  have := smS_le (f := fun _ => 0) (g := f) (n := n) h
  rw [smS_zero] at this; exact this
theorem smS_one {f : Nat → Int} : ∀ {n k : Nat}, (∀ j, j < n → 0 ≤ f j) → k < n → f k ≤ smS n f
  | 0, k, _, hk => by omega
  | n + 1, k, h, hk => by
    unfold smS
    have hn := h n (by omega)
    rcases Nat.lt_or_ge k n with c | c
    · have := smS_one (n := n) (fun j hj => h j (by omega)) c; omega
    · obtain rfl : k = n := by omega
      have := smS_nonneg (n := k) (f := f) fun j hj => h j (by omega); omega
theorem smS_swap (f : Nat → Nat → Int) (m : Nat) : ∀ n : Nat, smS n (fun k => smS m fun j => f k j) = smS m (fun j => smS n fun k => f k j)
  | 0 => by simp only [smS]; rw [smS_zero]
  | n + 1 => by simp only [smS]; rw [smS_swap f m n, smS_add]
theorem smS_anti {f : Nat → Nat → Int} (h : ∀ k j, f k j = - f j k) (n : Nat) : smS n (fun k => smS n fun j => f k j) = 0 := by
  have a := smS_swap f n n
  have b : smS n (fun j => smS n fun k => f k j) = - smS n (fun j => smS n fun k => f j k) := by
    rw [← smS_neg]
    exact smS_congr fun k _ => by rw [← smS_neg]; exact smS_congr fun j _ => h j k
  omega
/-- What goes out of a place for good, where each has toppled so often. -/
def lapS (n : Nat) (b : Nat → Nat → Int) (u : Nat → Int) (k : Nat) : Int := smS n fun j => b k j * (u k - u j)
/-- A graph: both ways alike, none to itself; and from every set without the sink an edge leads out. -/
structure GrS (n s : Nat) (b : Nat → Nat → Int) : Prop where
  sink : s < n
  sym : ∀ k j, b k j = b j k
  pos : ∀ k j, 0 ≤ b k j
  self : ∀ k, b k k = 0
  con : ∀ S : Nat → Bool, S s = false → (∃ k, k < n ∧ S k = true) → ∃ k j, k < n ∧ j < n ∧ S k = true ∧ S j = false ∧ 1 ≤ b k j
theorem lap_out {n : Nat} {b : Nat → Nat → Int} (sym : ∀ k j, b k j = b j k) (u : Nat → Int) (S : Nat → Bool) :
    smS n (fun k => if S k then lapS n b u k else 0) = smS n (fun k => smS n fun j => if S k && !S j then b k j * (u k - u j) else 0) := by
  have z := smS_anti (f := fun k j => if S k && S j then b k j * (u k - u j) else 0) (fun k j => by
    rw [Bool.and_comm (S j) (S k)]
    split
    · rw [sym k j, ← Int.mul_neg]; congr 1; omega
    · rfl) n
  have e : smS n (fun k => if S k then lapS n b u k else 0) = smS n (fun k => (smS n fun j => if S k && S j then b k j * (u k - u j) else 0) + smS n fun j => if S k && !S j then b k j * (u k - u j) else 0) := by
    refine smS_congr fun k _ => ?_
    rw [← smS_add]
    by_cases hk : S k = true
    · rw [if_pos hk]; unfold lapS
      refine smS_congr fun j _ => ?_
      cases hj : S j <;> simp [hk]
    · rw [if_neg hk]
      refine (smS_zero n).symm.trans (smS_congr fun j _ => ?_)
      simp [hk]
  rw [e, smS_add, z]; omega
/-- What stands still to topple is never much: where nowhere less than nothing lies, no place has toppled more than so often beyond another. -/
theorem gap {n s : Nat} {b : Nat → Nat → Int} (G : GrS n s b) {u c : Nat → Int} {C a : Int} (hu : u s = 0) (ha : 0 ≤ a) (hc : ∀ k, k < n → 0 ≤ c k) (hC : smS n c ≤ C) (hn : ∀ k, k < n → k ≠ s → lapS n b u k ≤ c k) (hS : ∃ k, k < n ∧ a < u k) : ∃ j, j < n ∧ u j ≤ a ∧ a - C < u j := by
  obtain ⟨k0, h0, h1⟩ := hS
  obtain ⟨k, j, hk, hj, sk, sj, hb⟩ := G.con (fun k => decide (a < u k)) (decide_eq_false (by omega)) ⟨k0, h0, decide_eq_true h1⟩
  have ak : a < u k := of_decide_eq_true sk
  have aj : ¬ a < u j := of_decide_eq_false sj
  refine ⟨j, hj, by omega, ?_⟩
  have o := lap_out (n := n) G.sym u (fun k => decide (a < u k))
  have l1 : smS n (fun k => if decide (a < u k) then lapS n b u k else 0) ≤ C := by
    refine Int.le_trans (smS_le fun i hi => ?_) hC
    split
    · rename_i q
      have q' : a < u i := of_decide_eq_true q
      exact hn i hi (fun e => by rw [e] at q'; omega)
    · exact hc i hi
  have nn : ∀ i i', 0 ≤ (if decide (a < u i) && !decide (a < u i') then b i i' * (u i - u i') else 0 : Int) := fun i i' => by
    split
    · rename_i q
      simp at q
      exact Int.mul_nonneg (G.pos i i') (by omega)
    · omega
  have l2 := smS_one (f := fun k => smS n fun j => if decide (a < u k) && !decide (a < u j) then b k j * (u k - u j) else 0) (fun i _ => smS_nonneg fun i' _ => nn i i') hk
  have l3 := smS_one (f := fun j => if decide (a < u k) && !decide (a < u j) then b k j * (u k - u j) else 0) (fun i' _ => nn k i') hj
  have l4 : u k - u j ≤ (if decide (a < u k) && !decide (a < u j) then b k j * (u k - u j) else 0 : Int) := by
    rw [if_pos (by simp; omega)]
    have : 1 * (u k - u j) ≤ b k j * (u k - u j) := Int.mul_le_mul_of_nonneg_right hb (by omega)
    omega
  have l5 : u k - u j ≤ C := by
    refine Int.le_trans l4 (Int.le_trans l3 (Int.le_trans l2 ?_))
    rw [← o]; exact l1
  omega
theorem smS_ones : ∀ n : Nat, smS n (fun _ => 1) = (n : Int)
  | 0 => rfl
  | n + 1 => by simp only [smS]; rw [smS_ones n]; omega
/-- How many have toppled no more than so often. -/
def cntS (n : Nat) (u : Nat → Int) (a : Int) : Int := smS n fun k => if u k ≤ a then 1 else 0
theorem cnt_more {n j : Nat} {u : Nat → Int} {a a' : Int} (h : a ≤ a') (hj : j < n) (h1 : a < u j) (h2 : u j ≤ a') : cntS n u a + 1 ≤ cntS n u a' := by
  have e := smS_sub (fun k => if u k ≤ a' then 1 else 0) (fun k => if u k ≤ a then 1 else 0) n
  have o := smS_one (f := fun k => (if u k ≤ a' then 1 else 0) - (if u k ≤ a then 1 else 0)) (n := n) (fun k _ => by split <;> split <;> omega) hj
  rw [if_pos h2, if_neg (by omega)] at o
  unfold cntS; omega
theorem cnt_all {n j : Nat} {u : Nat → Int} {a : Int} (hj : j < n) (h1 : a < u j) : cntS n u a + 1 ≤ (n : Int) := by
  have e := smS_sub (fun _ => 1) (fun k => if u k ≤ a then 1 else 0) n
  rw [smS_ones] at e
  have o := smS_one (f := fun k => 1 - (if u k ≤ a then 1 else 0)) (n := n) (fun k _ => by split <;> omega) hj
  rw [if_neg (by omega)] at o
  unfold cntS; omega
theorem cnt_low {n s : Nat} {b : Nat → Nat → Int} (G : GrS n s b) {u c : Nat → Int} {C : Int} (hC0 : 0 ≤ C) (hu : u s = 0) (hc : ∀ k, k < n → 0 ≤ c k) (hC : smS n c ≤ C) (hn : ∀ k, k < n → k ≠ s → lapS n b u k ≤ c k) : ∀ m : Nat, (∃ k, k < n ∧ C * m < u k) → (m : Int) + 1 ≤ cntS n u (C * m)
  | 0, _ => by
    have o := smS_one (f := fun k => if u k ≤ C * (0 : Nat) then 1 else 0) (n := n) (fun k _ => by split <;> omega) G.sink
    rw [if_pos (by simp [hu])] at o
    unfold cntS; omega
  | m + 1, h => by
    have e : C * ((m + 1 : Nat) : Int) = C * m + C := by rw [Int.natCast_add, Int.mul_add]; omega
    have p : 0 ≤ C * (m : Int) := Int.mul_nonneg hC0 (by omega)
    obtain ⟨k, hk, h1⟩ := h
    have ih := cnt_low G hC0 hu hc hC hn m ⟨k, hk, by omega⟩
    obtain ⟨j, hj, j1, j2⟩ := gap G (a := C * ((m + 1 : Nat) : Int)) hu (by omega) hc hC hn ⟨k, hk, h1⟩
    have := cnt_more (a := C * m) (a' := C * ((m + 1 : Nat) : Int)) (by omega) hj (by omega) j1
    omega
/-- No place topples more often than that. -/
theorem few_topples {n s : Nat} {b : Nat → Nat → Int} (G : GrS n s b) {u c : Nat → Int} {C : Int} (hC0 : 0 ≤ C) (hu : u s = 0) (hc : ∀ k, k < n → 0 ≤ c k) (hC : smS n c ≤ C) (hn : ∀ k, k < n → k ≠ s → lapS n b u k ≤ c k) (k : Nat) (hk : k < n) : u k ≤ C * ((n - 1 : Nat) : Int) := by
  rcases Int.lt_or_le (C * ((n - 1 : Nat) : Int)) (u k) with h | h
  · exfalso
    have a := cnt_low G hC0 hu hc hC hn (n - 1) ⟨k, hk, h⟩
    have b := cnt_all hk h
    omega
  · exact h
/-- Whoever can topple must, some time: what a stable end asks bounds what is toppled on any way. -/
theorem must {n s : Nat} {b : Nat → Nat → Int} (G : GrS n s b) {u v c : Nat → Int} {k : Nat} (hk : k < n) (huv : ∀ j, j < n → u j ≤ v j) (can : smS n (b k) ≤ c k - lapS n b u k) (st : c k - lapS n b v k < smS n (b k)) : u k + 1 ≤ v k := by
  rcases Int.lt_or_le (u k) (v k) with h | h
  · omega
  · exfalso
    have e : u k = v k := by have := huv k hk; omega
    have : lapS n b v k ≤ lapS n b u k := smS_le fun j hj => Int.mul_le_mul_of_nonneg_left (by have := huv j hj; omega) (G.pos k j)
    omega
/-- One place topples so often: what goes out of each then. -/
def upS (u : Nat → Int) (k : Nat) (t : Int) (j : Nat) : Int := if j = k then u j + t else u j
theorem smS_at (k : Nat) (x : Int) : ∀ n : Nat, smS n (fun j => if j = k then x else 0) = if k < n then x else 0
  | 0 => by simp [smS]
  | n + 1 => by
    simp only [smS]
    rw [smS_at k x n]
    by_cases h : n = k
    · subst h; simp
    · by_cases h2 : k < n
      · rw [if_pos h2, if_neg h, if_pos (by omega)]; omega
      · rw [if_neg h2, if_neg h, if_neg (by omega)]; rfl
theorem lap_up_other {n : Nat} {b : Nat → Nat → Int} (u : Nat → Int) {k j : Nat} (t : Int) (hk : k < n) (h : j ≠ k) : lapS n b (upS u k t) j = lapS n b u j - t * b j k := by
  unfold lapS
  have e : (fun i => b j i * (upS u k t j - upS u k t i)) = fun i => b j i * (u j - u i) - (if i = k then t * b j k else 0) := by
    funext i
    unfold upS
    rw [if_neg h]
    split
    · rename_i q; subst q; rw [Int.mul_sub, Int.mul_sub, Int.mul_add, Int.mul_comm t]; omega
    · omega
  rw [e, smS_sub, smS_at, if_pos hk]
theorem lap_up_same {n : Nat} {b : Nat → Nat → Int} (self : ∀ k, b k k = 0) (u : Nat → Int) {k : Nat} (t : Int) : lapS n b (upS u k t) k = lapS n b u k + t * smS n (b k) := by
  unfold lapS
  have e : (fun i => b k i * (upS u k t k - upS u k t i)) = fun i => b k i * (u k - u i) + t * b k i := by
    funext i
    unfold upS
    rw [if_pos rfl]
    split
    · rename_i q; subst q; rw [self]; simp
    · rw [Int.mul_comm t, ← Int.mul_add]; congr 1; omega
  rw [e, smS_add, smS_mul]
end Go.Proofs.YtpppmollmiomlaaDoor

namespace Go.Proofs.YtpppmollmiomlaaDoor
set_option linter.unusedVariables false
/-- What lies at a place, where each has toppled so often. -/
def chS (n s : Nat) (b : Nat → Nat → Int) (c u : Nat → Int) (k : Nat) : Int := if k = s then 0 else c k - lapS n b u k
/-- Nothing can topple. -/
def stillS (n s : Nat) (b : Nat → Nat → Int) (c u : Nat → Int) : Prop := ∀ k, k < n → k ≠ s → c k - lapS n b u k < smS n (b k)
/-- So often each has toppled on some way: nowhere lies less than nothing, and no more than every stable end asks. -/
structure PlS (n s : Nat) (b : Nat → Nat → Int) (c u : Nat → Int) : Prop where
  zero : u s = 0
  pos : ∀ k, k < n → 0 ≤ u k
  has : ∀ k, k < n → k ≠ s → lapS n b u k ≤ c k
  least : ∀ v, v s = 0 → (∀ k, k < n → 0 ≤ v k) → stillS n s b c v → ∀ k, k < n → u k ≤ v k
theorem lap_zero (n : Nat) (b : Nat → Nat → Int) (k : Nat) : lapS n b (fun _ => 0) k = 0 := by
  unfold lapS
  exact (smS_congr fun j _ => by simp).trans (smS_zero n)
theorem PlS.start {n s : Nat} {b : Nat → Nat → Int} {c : Nat → Int} (h : ∀ k, k < n → 0 ≤ c k) : PlS n s b c fun _ => 0 :=
  ⟨rfl, fun _ _ => Int.le_refl _, fun k hk _ => by rw [lap_zero]; exact h k hk, fun v _ hv _ k hk => hv k hk⟩
theorem PlS.one {n s : Nat} {b : Nat → Nat → Int} (G : GrS n s b) {c u : Nat → Int} (h : PlS n s b c u) {k : Nat} (hk : k < n) (ks : k ≠ s) (can : smS n (b k) ≤ c k - lapS n b u k) : PlS n s b c (upS u k 1) := by
  refine ⟨?_, ?_, ?_, ?_⟩
  · unfold upS; rw [if_neg (fun e => ks e.symm)]; exact h.zero
  · intro j hj; have := h.pos j hj; unfold upS; split <;> omega
  · intro j hj js
    by_cases e : j = k
    · subst e; rw [lap_up_same G.self]; omega
    · rw [lap_up_other u 1 hk e]; have := h.has j hj js; have := G.pos j k; omega
  · intro v v0 vp st j hj
    have l := h.least v v0 vp st
    unfold upS
    split
    · rename_i e; subst e; exact must G hj l can (st j hj ks)
    · exact l j hj
theorem upS_zero (u : Nat → Int) (k : Nat) : upS u k 0 = u := by funext j; unfold upS; split <;> omega
theorem upS_add (u : Nat → Int) (k : Nat) (s t : Int) : upS (upS u k s) k t = upS u k (s + t) := by funext j; unfold upS; split <;> omega
theorem PlS.times {n s : Nat} {b : Nat → Nat → Int} (G : GrS n s b) {c u : Nat → Int} (h : PlS n s b c u) {k : Nat} (hk : k < n) (ks : k ≠ s) : ∀ t : Nat, (t : Int) * smS n (b k) ≤ c k - lapS n b u k → PlS n s b c (upS u k t)
  | 0, _ => by rw [show ((0 : Nat) : Int) = 0 from rfl, upS_zero]; exact h
  | t + 1, can => by
    have d : 0 ≤ smS n (b k) := smS_nonneg fun j _ => G.pos k j
    have e : ((t + 1 : Nat) : Int) * smS n (b k) = (t : Int) * smS n (b k) + smS n (b k) := by rw [Int.natCast_add, Int.add_mul]; omega
    have ih := h.times G hk ks t (by omega)
    have := ih.one G hk ks (by rw [lap_up_same G.self]; omega)
    rw [upS_add] at this
    exact this
/-- In whatever order, it comes to the same. -/
theorem PlS.same {n s : Nat} {b : Nat → Nat → Int} {c u v : Nat → Int} (h : PlS n s b c u) (hs : stillS n s b c u) (g : PlS n s b c v) (gs : stillS n s b c v) (k : Nat) (hk : k < n) : u k = v k := by
  have a := h.least v g.zero g.pos gs k hk
  have b := g.least u h.zero h.pos hs k hk
  omega
theorem lap_add (n : Nat) (b : Nat → Nat → Int) (u v : Nat → Int) (k : Nat) : lapS n b (fun j => u j + v j) k = lapS n b u k + lapS n b v k := by
  unfold lapS
  rw [← smS_add]
  exact smS_congr fun j _ => by rw [← Int.mul_add]; congr 1; show u k + v k - (u j + v j) = _; omega
theorem lap_sub (n : Nat) (b : Nat → Nat → Int) (u v : Nat → Int) (k : Nat) : lapS n b (fun j => u j - v j) k = lapS n b u k - lapS n b v k := by
  unfold lapS
  rw [← smS_sub]
  exact smS_congr fun j _ => by rw [← Int.mul_sub]; congr 1; show u k - v k - (u j - v j) = _; omega
/-- One way behind another. -/
theorem PlS.then {n s : Nat} {b : Nat → Nat → Int} {c u v : Nat → Int} (h : PlS n s b c u) (g : PlS n s b (chS n s b c u) v) : PlS n s b c fun j => u j + v j := by
  have e : ∀ k, k ≠ s → chS n s b c u k = c k - lapS n b u k := fun k hk => by unfold chS; rw [if_neg hk]
  refine ⟨?_, ?_, ?_, ?_⟩
  · show u s + v s = 0; rw [h.zero, g.zero]; rfl
  · intro k hk; have := h.pos k hk; have := g.pos k hk; show 0 ≤ u k + v k; omega
  · intro k hk ks; rw [lap_add]; have := g.has k hk ks; rw [e k ks] at this; omega
  · intro w w0 wp st k hk
    have l := h.least w w0 wp st
    have := g.least (fun j => w j - u j) (by show w s - u s = 0; rw [w0, h.zero]; rfl) (fun j hj => by have := l j hj; show 0 ≤ w j - u j; omega) (fun j hj js => by
      rw [lap_sub, e j js]; have := st j hj js; omega) k hk
    show u k + v k ≤ w k; omega
/-- Chips get no more, and no place topples too often. -/
theorem PlS.few {n s : Nat} {b : Nat → Nat → Int} (G : GrS n s b) {c u : Nat → Int} {C : Int} (h : PlS n s b c u) (hc : ∀ k, k < n → 0 ≤ c k) (hC : smS n c ≤ C) (k : Nat) (hk : k < n) : u k ≤ C * ((n - 1 : Nat) : Int) :=
  few_topples G (Int.le_trans (smS_nonneg hc) hC) h.zero hc hC h.has k hk
theorem lap_all {n : Nat} {b : Nat → Nat → Int} (sym : ∀ k j, b k j = b j k) (u : Nat → Int) : smS n (lapS n b u) = 0 :=
  smS_anti (f := fun k j => b k j * (u k - u j)) (fun k j => by rw [sym k j, ← Int.mul_neg]; congr 1; omega) n
theorem PlS.sum {n s : Nat} {b : Nat → Nat → Int} (G : GrS n s b) {c u : Nat → Int} {C : Int} (h : PlS n s b c u) (hc : ∀ k, k < n → 0 ≤ c k) (hC : smS n c ≤ C) (k : Nat) (hk : k < n) : chS n s b c u k ≤ C := by
  have p : ∀ j, j < n → 0 ≤ chS n s b c u j := fun j hj => by
    unfold chS
    split
    · omega
    · rename_i js; have := h.has j hj js; omega
  have o := smS_one p hk
  have le : ∀ j, j < n → chS n s b c u j ≤ c j - lapS n b u j := fun j hj => by
    unfold chS
    split
    · rename_i js; subst js
      have c0 := hc j hj
      have : lapS n b u j ≤ 0 := by
        have e := smS_zero n
        rw [← e]
        refine smS_le fun i hi => ?_
        have up := h.pos i hi
        rw [h.zero, show (0 : Int) - u i = - u i by omega, Int.mul_neg]
        have := Int.mul_nonneg (G.pos j i) up
        omega
      omega
    · omega
  have l := smS_le le
  rw [smS_sub, lap_all G.sym] at l
  omega
end Go.Proofs.YtpppmollmiomlaaDoor

