/-
  What the last text of this claim leans on, part 1: Sd1, Sd2, Sd3, Spec.
-/
import Derived.RowKit
namespace Go.Proofs.YtpajdmhgonmgoaaDoor
set_option linter.unusedVariables false
/-- Sums of so many numbers. -/
def smS : Nat → (Nat → Int) → Int
  | 0, _ => 0
  | n + 1, f => smS n f + f n
theorem smS_congr {f g : Nat → Int} : ∀ {n : Nat}, (∀ k, k < n → f k = g k) → smS n f = smS n g
  | 0, _ => rfl
  | n + 1, h => by unfold smS; rw [smS_congr (n := n) fun k hk => h k (by omega), h n (by omega)]
theorem smS_le {f g : Nat → Int} : ∀ {n : Nat}, (∀ k, k < n → f k ≤ g k) → smS n f ≤ smS n g
  | 0, _ => Int.le_refl _
  | n + 1, h => by
    have a := smS_le (n := n) fun k hk => h k (by omega)
    have b := h n (by omega)
    unfold smS; omega
theorem smS_zero : ∀ n : Nat, smS n (fun _ => 0) = 0
  | 0 => rfl
  | n + 1 => by unfold smS; rw [smS_zero n]; rfl
theorem smS_add (f g : Nat → Int) : ∀ n : Nat, smS n (fun k => f k + g k) = smS n f + smS n g
  | 0 => rfl
  | n + 1 => by simp only [smS]; rw [smS_add f g n]; omega
theorem smS_neg (f : Nat → Int) : ∀ n : Nat, smS n (fun k => - f k) = - smS n f
  | 0 => rfl
  | n + 1 => by simp only [smS]; rw [smS_neg f n]; omega
theorem smS_sub (f g : Nat → Int) : ∀ n : Nat, smS n (fun k => f k - g k) = smS n f - smS n g
  | 0 => rfl
  | n + 1 => by simp only [smS]; rw [smS_sub f g n]; omega
theorem smS_mul (a : Int) (f : Nat → Int) : ∀ n : Nat, smS n (fun k => a * f k) = a * smS n f
  | 0 => by simp [smS]
  | n + 1 => by simp only [smS]; rw [smS_mul a f n, Int.mul_add]
theorem smS_nonneg {f : Nat → Int} {n : Nat} (h : ∀ k, k < n → 0 ≤ f k) : 0 ≤ smS n f := by
  have := smS_le (f := fun _ => 0) (g := f) (n := n) h
  rw [smS_zero] at this; exact this
theorem smS_one {f : Nat → Int} : ∀ {n k : Nat}, (∀ j, j < n → 0 ≤ f j) → k < n → f k ≤ smS n f
  | 0, k, _, hk => by omega
  | n + 1, k, h, hk => by
    unfold smS
    have hn := h n (by omega)
    rcases Nat.lt_or_ge k n with c | c
    · have := smS_one (n := n) (fun j hj => h j (by omega)) c; omega
    · obtain rfl : k = n := by omega
      have := smS_nonneg (n := k) (f := f) fun j hj => h j (by omega); omega
theorem smS_swap (f : Nat → Nat → Int) (m : Nat) : ∀ n : Nat, smS n (fun k => smS m fun j => f k j) = smS m (fun j => smS n fun k => f k j)
  | 0 => by simp only [smS]; rw [smS_zero]
  | n + 1 => by simp only [smS]; rw [smS_swap f m n, smS_add]
theorem smS_anti {f : Nat → Nat → Int} (h : ∀ k j, f k j = - f j k) (n : Nat) : smS n (fun k => smS n fun j => f k j) = 0 := by
  have a := smS_swap f n n
  have b : smS n (fun j => smS n fun k => f k j) = - smS n (fun j => smS n fun k => f j k) := by
    rw [← smS_neg]
    exact smS_congr fun k _ => by rw [← smS_neg]; exact smS_congr fun j _ => h j k
  omega
/-- What goes out of a place for good, where each has toppled so often. -/
def lapS (n : Nat) (b : Nat → Nat → Int) (u : Nat → Int) (k : Nat) : Int := smS n fun j => b k j * (u k - u j)
/-- A graph: both ways alike, none to itself; and from every set without the sink an edge leads out. -/
structure GrS (n s : Nat) (b : Nat → Nat → Int) : Prop where
  sink : s < n
  sym : ∀ k j, b k j = b j k
  pos : ∀ k j, 0 ≤ b k j
  self : ∀ k, b k k = 0
  con : ∀ S : Nat → Bool, S s = false → (∃ k, k < n ∧ S k = true) → ∃ k j, k < n ∧ j < n ∧ S k = true ∧ S j = false ∧ 1 ≤ b k j
theorem lap_out {n : Nat} {b : Nat → Nat → Int} (sym : ∀ k j, b k j = b j k) (u : Nat → Int) (S : Nat → Bool) :
    smS n (fun k => if S k then lapS n b u k else 0) = smS n (fun k => smS n fun j => if S k && !S j then b k j * (u k - u j) else 0) := by
  have z := smS_anti (f := fun k j => if S k && S j then b k j * (u k - u j) else 0) (fun k j => by
    rw [Bool.and_comm (S j) (S k)]
    split
    · rw [sym k j, ← Int.mul_neg]; congr 1; omega
    · rfl) n
  have e : smS n (fun k => if S k then lapS n b u k else 0) = smS n (fun k => (smS n fun j => if S k && S j then b k j * (u k - u j) else 0) + smS n fun j => if S k && !S j then b k j * (u k - u j) else 0) := by
    refine smS_congr fun k _ => ?_
    rw [← smS_add]
    by_cases hk : S k = true
    · rw [if_pos hk]; unfold lapS
      refine smS_congr fun j _ => ?_
      cases hj : S j <;> simp [hk]
    · rw [if_neg hk]
      refine (smS_zero n).symm.trans (smS_congr fun j _ => ?_)
      simp [hk]
  rw [e, smS_add, z]; omega
/-- What stands still to topple is never much: where nowhere less than nothing lies, no place has toppled more than so often beyond another. -/
theorem gap {n s : Nat} {b : Nat → Nat → Int} (G : GrS n s b) {u c : Nat → Int} {C a : Int} (hu : u s = 0) (ha : 0 ≤ a) (hc : ∀ k, k < n → 0 ≤ c k) (hC : smS n c ≤ C) (hn : ∀ k, k < n → k ≠ s → lapS n b u k ≤ c k) (hS : ∃ k, k < n ∧ a < u k) : ∃ j, j < n ∧ u j ≤ a ∧ a - C < u j := by
  obtain ⟨k0, h0, h1⟩ := hS
  obtain ⟨k, j, hk, hj, sk, sj, hb⟩ := G.con (fun k => decide (a < u k)) (decide_eq_false (by omega)) ⟨k0, h0, decide_eq_true h1⟩
  have ak : a < u k := of_decide_eq_true sk
  have aj : ¬ a < u j := of_decide_eq_false sj
  refine ⟨j, hj, by omega, ?_⟩
  have o := lap_out (n := n) G.sym u (fun k => decide (a < u k))
  have l1 : smS n (fun k => if decide (a < u k) then lapS n b u k else 0) ≤ C := by
    refine Int.le_trans (smS_le fun i hi => ?_) hC
    split
    · rename_i q
      have q' : a < u i := of_decide_eq_true q
      exact hn i hi (fun e => by rw [e] at q'; omega)
    · exact hc i hi
  have nn : ∀ i i', 0 ≤ (if decide (a < u i) && !decide (a < u i') then b i i' * (u i - u i') else 0 : Int) := fun i i' => by
    split
    · rename_i q
      simp at q
      exact Int.mul_nonneg (G.pos i i') (by omega)
    · omega
  have l2 := smS_one (f := fun k => smS n fun j => if decide (a < u k) && !decide (a < u j) then b k j * (u k - u j) else 0) (fun i _ => smS_nonneg fun i' _ => nn i i') hk
  have l3 := smS_one (f := fun j => if decide (a < u k) && !decide (a < u j) then b k j * (u k - u j) else 0) (fun i' _ => nn k i') hj
  have l4 : u k - u j ≤ (if decide (a < u k) && !decide (a < u j) then b k j * (u k - u j) else 0 : Int) := by
    rw [if_pos (by simp; omega)]
    have : 1 * (u k - u j) ≤ b k j * (u k - u j) := Int.mul_le_mul_of_nonneg_right hb (by omega)
    omega
  have l5 : u k - u j ≤ C := by
    refine Int.le_trans l4 (Int.le_trans l3 (Int.le_trans l2 ?_))
    rw [← o]; exact l1
  omega
theorem smS_ones : ∀ n : Nat, smS n (fun _ => 1) = (n : Int)
  | 0 => rfl
  | n + 1 => by simp only [smS]; rw [smS_ones n]; omega
/-- How many have toppled no more than so often. -/
def cntS (n : Nat) (u : Nat → Int) (a : Int) : Int := smS n fun k => if u k ≤ a then 1 else 0
theorem cnt_more {n j : Nat} {u : Nat → Int} {a a' : Int} (h : a ≤ a') (hj : j < n) (h1 : a < u j) (h2 : u j ≤ a') : cntS n u a + 1 ≤ cntS n u a' := by
  have e := smS_sub (fun k => if u k ≤ a' then 1 else 0) (fun k => if u k ≤ a then 1 else 0) n
  have o := smS_one (f := fun k => (if u k ≤ a' then 1 else 0) - (if u k ≤ a then 1 else 0)) (n := n) (fun k _ => by split <;> split <;> omega) hj
  rw [if_pos h2, if_neg (by omega)] at o
  unfold cntS; omega
theorem cnt_all {n j : Nat} {u : Nat → Int} {a : Int} (hj : j < n) (h1 : a < u j) : cntS n u a + 1 ≤ (n : Int) := by
  have e := smS_sub (fun _ => 1) (fun k => if u k ≤ a then 1 else 0) n
  rw [smS_ones] at e
  have o := smS_one (f := fun k => 1 - (if u k ≤ a then 1 else 0)) (n := n) (fun k _ => by split <;> omega) hj
  rw [if_neg (by omega)] at o
  unfold cntS; omega
theorem cnt_low {n s : Nat} {b : Nat → Nat → Int} (G : GrS n s b) {u c : Nat → Int} {C : Int} (hC0 : 0 ≤ C) (hu : u s = 0) (hc : ∀ k, k < n → 0 ≤ c k) (hC : smS n c ≤ C) (hn : ∀ k, k < n → k ≠ s → lapS n b u k ≤ c k) : ∀ m : Nat, (∃ k, k < n ∧ C * m < u k) → (m : Int) + 1 ≤ cntS n u (C * m)
  | 0, _ => by
    have o := smS_one (f := fun k => if u k ≤ C * (0 : Nat) then 1 else 0) (n := n) (fun k _ => by split <;> omega) G.sink
    rw [if_pos (by simp [hu])] at o
    unfold cntS; omega
  | m + 1, h => by
    have e : C * ((m + 1 : Nat) : Int) = C * m + C := by rw [Int.natCast_add, Int.mul_add]; omega
    have p : 0 ≤ C * (m : Int) := Int.mul_nonneg hC0 (by omega)
    obtain ⟨k, hk, h1⟩ := h
    have ih := cnt_low G hC0 hu hc hC hn m ⟨k, hk, by omega⟩
    obtain ⟨j, hj, j1, j2⟩ := gap G (a := C * ((m + 1 : Nat) : Int)) hu (by omega) hc hC hn ⟨k, hk, h1⟩
    have := cnt_more (a := C * m) (a' := C * ((m + 1 : Nat) : Int)) (by omega) hj (by omega) j1
    omega
/-- No place topples more often than that. -/
theorem few_topples {n s : Nat} {b : Nat → Nat → Int} (G : GrS n s b) {u c : Nat → Int} {C : Int} (hC0 : 0 ≤ C) (hu : u s = 0) (hc : ∀ k, k < n → 0 ≤ c k) (hC : smS n c ≤ C) (hn : ∀ k, k < n → k ≠ s → lapS n b u k ≤ c k) (k : Nat) (hk : k < n) : u k ≤ C * ((n - 1 : Nat) : Int) := by
  rcases Int.lt_or_le (C * ((n - 1 : Nat) : Int)) (u k) with h | h
  · exfalso
    have a := cnt_low G hC0 hu hc hC hn (n - 1) ⟨k, hk, h⟩
    have b := cnt_all hk h
    omega
  · exact h
/-- Whoever can topple must, some time: what a stable end asks bounds what is toppled on any way. -/
theorem must {n s : Nat} {b : Nat → Nat → Int} (G : GrS n s b) {u v c : Nat → Int} {k : Nat} (hk : k < n) (huv : ∀ j, j < n → u j ≤ v j) (can : smS n (b k) ≤ c k - lapS n b u k) (st : c k - lapS n b v k < smS n (b k)) : u k + 1 ≤ v k := by
  rcases Int.lt_or_le (u k) (v k) with h | h
  · omega
  · exfalso
    have e : u k = v k := by have := huv k hk; omega
    have : lapS n b v k ≤ lapS n b u k := smS_le fun j hj => Int.mul_le_mul_of_nonneg_left (by have := huv j hj; omega) (G.pos k j)
    omega
/-- One place topples so often: what goes out of each then. -/
def upS (u : Nat → Int) (k : Nat) (t : Int) (j : Nat) : Int := if j = k then u j + t else u j
theorem smS_at (k : Nat) (x : Int) : ∀ n : Nat, smS n (fun j => if j = k then x else 0) = if k < n then x else 0
  | 0 => by simp [smS]
  | n + 1 => by
    simp only [smS]
    rw [smS_at k x n]
    by_cases h : n = k
    · subst h; simp
    · by_cases h2 : k < n
      · rw [if_pos h2, if_neg h, if_pos (by omega)]; omega
      · rw [if_neg h2, if_neg h, if_neg (by omega)]; rfl
theorem lap_up_other {n : Nat} {b : Nat → Nat → Int} (u : Nat → Int) {k j : Nat} (t : Int) (hk : k < n) (h : j ≠ k) : lapS n b (upS u k t) j = lapS n b u j - t * b j k := by
  unfold lapS
  have e : (fun i => b j i * (upS u k t j - upS u k t i)) = fun i => b j i * (u j - u i) - (if i = k then t * b j k else 0) := by
    funext i
    unfold upS
    rw [if_neg h]
    split
    · rename_i q; subst q; rw [Int.mul_sub, Int.mul_sub, Int.mul_add, Int.mul_comm t]; omega
    · omega
  rw [e, smS_sub, smS_at, if_pos hk]
theorem lap_up_same {n : Nat} {b : Nat → Nat → Int} (self : ∀ k, b k k = 0) (u : Nat → Int) {k : Nat} (t : Int) : lapS n b (upS u k t) k = lapS n b u k + t * smS n (b k) := by
  unfold lapS
  have e : (fun i => b k i * (upS u k t k - upS u k t i)) = fun i => b k i * (u k - u i) + t * b k i := by
    funext i
    unfold upS
    rw [if_pos rfl]
    split
    · rename_i q; subst q; rw [self]; simp
    · rw [Int.mul_comm t, ← Int.mul_add]; congr 1; omega
  rw [e, smS_add, smS_mul]
end Go.Proofs.YtpajdmhgonmgoaaDoor

namespace Go.Proofs.YtpajdmhgonmgoaaDoor
set_option linter.unusedVariables false
/-- What lies at a place, where each has toppled so often. -/
def chS (n s : Nat) (b : Nat → Nat → Int) (c u : Nat → Int) (k : Nat) : Int := if k = s then 0 else c k - lapS n b u k
/-- Nothing can topple. -/
def stillS (n s : Nat) (b : Nat → Nat → Int) (c u : Nat → Int) : Prop := ∀ k, k < n → k ≠ s → c k - lapS n b u k < smS n (b k)
/-- So often each has toppled on some way: nowhere lies less than nothing, and no more than every stable end asks. -/
structure PlS (n s : Nat) (b : Nat → Nat → Int) (c u : Nat → Int) : Prop where
  zero : u s = 0
  pos : ∀ k, k < n → 0 ≤ u k
  has : ∀ k, k < n → k ≠ s → lapS n b u k ≤ c k
  least : ∀ v, v s = 0 → (∀ k, k < n → 0 ≤ v k) → stillS n s b c v → ∀ k, k < n → u k ≤ v k
theorem lap_zero (n : Nat) (b : Nat → Nat → Int) (k : Nat) : lapS n b (fun _ => 0) k = 0 := by
  unfold lapS
  exact (smS_congr fun j _ => by simp).trans (smS_zero n)
theorem PlS.start {n s : Nat} {b : Nat → Nat → Int} {c : Nat → Int} (h : ∀ k, k < n → 0 ≤ c k) : PlS n s b c fun _ => 0 :=
  ⟨rfl, fun _ _ => Int.le_refl _, fun k hk _ => by rw [lap_zero]; exact h k hk, fun v _ hv _ k hk => hv k hk⟩
theorem PlS.one {n s : Nat} {b : Nat → Nat → Int} (G : GrS n s b) {c u : Nat → Int} (h : PlS n s b c u) {k : Nat} (hk : k < n) (ks : k ≠ s) (can : smS n (b k) ≤ c k - lapS n b u k) : PlS n s b c (upS u k 1) := by
  refine ⟨?_, ?_, ?_, ?_⟩
  · unfold upS; rw [if_neg (fun e => ks e.symm)]; exact h.zero
  · intro j hj; have := h.pos j hj; unfold upS; split <;> omega
  · intro j hj js
    by_cases e : j = k
    · subst e; rw [lap_up_same G.self]; omega
    · rw [lap_up_other u 1 hk e]; have := h.has j hj js; have := G.pos j k; omega
  · intro v v0 vp st j hj
    have l := h.least v v0 vp st
    unfold upS
    split
    · rename_i e; subst e; exact must G hj l can (st j hj ks)
    · exact l j hj
theorem upS_zero (u : Nat → Int) (k : Nat) : upS u k 0 = u := by funext j; unfold upS; split <;> omega
theorem upS_add (u : Nat → Int) (k : Nat) (s t : Int) : upS (upS u k s) k t = upS u k (s + t) := by funext j; unfold upS; split <;> omega
theorem PlS.times {n s : Nat} {b : Nat → Nat → Int} (G : GrS n s b) {c u : Nat → Int} (h : PlS n s b c u) {k : Nat} (hk : k < n) (ks : k ≠ s) : ∀ t : Nat, (t : Int) * smS n (b k) ≤ c k - lapS n b u k → PlS n s b c (upS u k t)
  | 0, _ => by rw [show ((0 : Nat) : Int) = 0 from rfl, upS_zero]; exact h
  | t + 1, can => by
    have d : 0 ≤ smS n (b k) := smS_nonneg fun j _ => G.pos k j
    have e : ((t + 1 : Nat) : Int) * smS n (b k) = (t : Int) * smS n (b k) + smS n (b k) := by rw [Int.natCast_add, Int.add_mul]; omega
    have ih := h.times G hk ks t (by omega)
    have := ih.one G hk ks (by rw [lap_up_same G.self]; omega)
    rw [upS_add] at this
    exact this
/-- In whatever order, it comes to the same. -/
theorem PlS.same {n s : Nat} {b : Nat → Nat → Int} {c u v : Nat → Int} (h : PlS n s b c u) (hs : stillS n s b c u) (g : PlS n s b c v) (gs : stillS n s b c v) (k : Nat) (hk : k < n) : u k = v k := by
  have a := h.least v g.zero g.pos gs k hk
  have b := g.least u h.zero h.pos hs k hk
  omega
theorem lap_congr {n : Nat} {b : Nat → Nat → Int} {u v : Nat → Int} (h : ∀ k, k < n → u k = v k) {k : Nat} (hk : k < n) : lapS n b u k = lapS n b v k := smS_congr fun j hj => by rw [h k hk, h j hj]
theorem lap_add (n : Nat) (b : Nat → Nat → Int) (u v : Nat → Int) (k : Nat) : lapS n b (fun j => u j + v j) k = lapS n b u k + lapS n b v k := by
  unfold lapS
  rw [← smS_add]
  exact smS_congr fun j _ => by rw [← Int.mul_add]; congr 1; show u k + v k - (u j + v j) = _; omega
theorem lap_sub (n : Nat) (b : Nat → Nat → Int) (u v : Nat → Int) (k : Nat) : lapS n b (fun j => u j - v j) k = lapS n b u k - lapS n b v k := by
  unfold lapS
  rw [← smS_sub]
  exact smS_congr fun j _ => by rw [← Int.mul_sub]; congr 1; show u k - v k - (u j - v j) = _; omega
/-- One way behind another. -/
theorem PlS.then {n s : Nat} {b : Nat → Nat → Int} {c u v : Nat → Int} (h : PlS n s b c u) (g : PlS n s b (chS n s b c u) v) : PlS n s b c fun j => u j + v j := by
  have e : ∀ k, k ≠ s → chS n s b c u k = c k - lapS n b u k := fun k hk => by unfold chS; rw [if_neg hk]
  refine ⟨?_, ?_, ?_, ?_⟩
  · show u s + v s = 0; rw [h.zero, g.zero]; rfl
  · intro k hk; have := h.pos k hk; have := g.pos k hk; show 0 ≤ u k + v k; omega
  · intro k hk ks; rw [lap_add]; have := g.has k hk ks; rw [e k ks] at this; omega
  · intro w w0 wp st k hk
    have l := h.least w w0 wp st
    have := g.least (fun j => w j - u j) (by show w s - u s = 0; rw [w0, h.zero]; rfl) (fun j hj => by have := l j hj; show 0 ≤ w j - u j; omega) (fun j hj js => by
      rw [lap_sub, e j js]; have := st j hj js; omega) k hk
    show u k + v k ≤ w k; omega
theorem still_then {n s : Nat} {b : Nat → Nat → Int} {c u v : Nat → Int} (g : stillS n s b (chS n s b c u) v) : stillS n s b c fun j => u j + v j := fun k hk ks => by
  have := g k hk ks
  unfold chS at this
  rw [if_neg ks] at this
  rw [lap_add]; omega
/-- Chips get no more, and no place topples too often. -/
theorem PlS.few {n s : Nat} {b : Nat → Nat → Int} (G : GrS n s b) {c u : Nat → Int} {C : Int} (h : PlS n s b c u) (hc : ∀ k, k < n → 0 ≤ c k) (hC : smS n c ≤ C) (k : Nat) (hk : k < n) : u k ≤ C * ((n - 1 : Nat) : Int) :=
  few_topples G (Int.le_trans (smS_nonneg hc) hC) h.zero hc hC h.has k hk
theorem lap_all {n : Nat} {b : Nat → Nat → Int} (sym : ∀ k j, b k j = b j k) (u : Nat → Int) : smS n (lapS n b u) = 0 :=
  smS_anti (f := fun k j => b k j * (u k - u j)) (fun k j => by rw [sym k j, ← Int.mul_neg]; congr 1; omega) n
theorem PlS.sum {n s : Nat} {b : Nat → Nat → Int} (G : GrS n s b) {c u : Nat → Int} {C : Int} (h : PlS n s b c u) (hc : ∀ k, k < n → 0 ≤ c k) (hC : smS n c ≤ C) (k : Nat) (hk : k < n) : chS n s b c u k ≤ C := by
  have p : ∀ j, j < n → 0 ≤ chS n s b c u j := fun j hj => by
    unfold chS
    split
    · omega
    · rename_i js; have := h.has j hj js; omega
  have o := smS_one p hk
  have le : ∀ j, j < n → chS n s b c u j ≤ c j - lapS n b u j := fun j hj => by
    unfold chS
    split
    · rename_i js; subst js
      have c0 := hc j hj
      have : lapS n b u j ≤ 0 := by
        have e := smS_zero n
        rw [← e]
        refine smS_le fun i hi => ?_
        have up := h.pos i hi
        rw [h.zero, show (0 : Int) - u i = - u i by omega, Int.mul_neg]
        have := Int.mul_nonneg (G.pos j i) up
        omega
      omega
    · omega
  have l := smS_le le
  rw [smS_sub, lap_all G.sym] at l
  omega
end Go.Proofs.YtpajdmhgonmgoaaDoor

namespace Go.Proofs.YtpajdmhgonmgoaaDoor
set_option linter.unusedVariables false
/-- An edge: between which places, how many times. -/
structure EdS where
  a : Nat
  b : Nat
  t : Int
def okE (n : Nat) (e : EdS) : Prop := e.a < n ∧ e.b < n ∧ e.a ≠ e.b ∧ 1 ≤ e.t ∧ e.t ≤ 100
/-- How many edges two places have, and a place. -/
def btE (e : EdS) (k j : Nat) : Int := if (e.a = k ∧ e.b = j) ∨ (e.a = j ∧ e.b = k) then e.t else 0
def dgE (e : EdS) (k : Nat) : Int := if e.a = k ∨ e.b = k then e.t else 0
def btL (es : List EdS) (k j : Nat) : Int := (es.map fun e => btE e k j).sum
def dgL (es : List EdS) (k : Nat) : Int := (es.map fun e => dgE e k).sum
theorem bt_cons (e : EdS) (es : List EdS) (k j : Nat) : btL (e :: es) k j = btE e k j + btL es k j := by simp [btL]
theorem dg_cons (e : EdS) (es : List EdS) (k : Nat) : dgL (e :: es) k = dgE e k + dgL es k := by simp [dgL]
theorem bt_sym : ∀ (es : List EdS) (k j : Nat), btL es k j = btL es j k
  | [], _, _ => rfl
  | e :: es, k, j => by
    rw [bt_cons, bt_cons, bt_sym es k j]
    congr 1
    unfold btE
    by_cases h : (e.a = k ∧ e.b = j) ∨ (e.a = j ∧ e.b = k)
    · rw [if_pos h, if_pos (by omega)]
    · rw [if_neg h, if_neg (by omega)]
theorem bt_posS {n : Nat} : ∀ {es : List EdS}, (∀ e ∈ es, okE n e) → ∀ k j : Nat, 0 ≤ btL es k j
  | [], _, _, _ => Int.le_refl _
  | e :: es, h, k, j => by
    rw [bt_cons]
    have a := bt_posS (n := n) (es := es) (fun x hx => h x (List.mem_cons_of_mem _ hx)) k j
    have b := h e (List.mem_cons_self ..)
    unfold okE at b
    unfold btE
    split <;> omega
theorem bt_self {n : Nat} : ∀ {es : List EdS}, (∀ e ∈ es, okE n e) → ∀ k : Nat, btL es k k = 0
  | [], _, _ => rfl
  | e :: es, h, k => by
    rw [bt_cons, bt_self (n := n) (es := es) (fun x hx => h x (List.mem_cons_of_mem _ hx)) k]
    have b := h e (List.mem_cons_self ..)
    unfold okE at b
    unfold btE
    rw [if_neg (by omega)]; rfl
theorem bt_mem {n : Nat} : ∀ {es : List EdS}, (∀ e ∈ es, okE n e) → ∀ e ∈ es, 1 ≤ btL es e.a e.b
  | [], _, _, h => by simp at h
  | x :: es, h, e, he => by
    rw [bt_cons]
    have p := bt_posS (n := n) (es := es) (fun y hy => h y (List.mem_cons_of_mem _ hy)) e.a e.b
    have px : 0 ≤ btE x e.a e.b := by have b := h x (List.mem_cons_self ..); unfold okE at b; unfold btE; split <;> omega
    rcases List.mem_cons.1 he with q | q
    · subst q
      have b := h e (List.mem_cons_self ..)
      unfold okE at b
      have : btE e e.a e.b = e.t := by unfold btE; rw [if_pos (Or.inl ⟨rfl, rfl⟩)]
      omega
    · have := bt_mem (n := n) (es := es) (fun y hy => h y (List.mem_cons_of_mem _ hy)) e q
      omega
theorem dg_sum {n : Nat} : ∀ {es : List EdS}, (∀ e ∈ es, okE n e) → ∀ k : Nat, smS n (btL es k) = dgL es k
  | [], _, k => smS_zero n
  | e :: es, h, k => by
    have ih := dg_sum (n := n) (es := es) (fun x hx => h x (List.mem_cons_of_mem _ hx)) k
    have b := h e (List.mem_cons_self ..)
    unfold okE at b
    rw [dg_cons, ← ih, show btL (e :: es) k = fun j => btE e k j + btL es k j from funext fun j => bt_cons e es k j, smS_add]
    congr 1
    unfold dgE
    by_cases h1 : e.a = k
    · rw [if_pos (Or.inl h1), show btE e k = fun j => if j = e.b then e.t else 0 from funext fun j => by unfold btE; by_cases q : j = e.b; { rw [if_pos (Or.inl ⟨h1, q.symm⟩), if_pos q] }; { rw [if_neg (by omega), if_neg q] }, smS_at, if_pos b.2.1]
    · by_cases h2 : e.b = k
      · rw [if_pos (Or.inr h2), show btE e k = fun j => if j = e.a then e.t else 0 from funext fun j => by unfold btE; by_cases q : j = e.a; { rw [if_pos (Or.inr ⟨q.symm, h2⟩), if_pos q] }; { rw [if_neg (by omega), if_neg q] }, smS_at, if_pos b.1]
      · rw [if_neg (by omega), show btE e k = fun _ => 0 from funext fun j => by unfold btE; rw [if_neg (by omega)], smS_zero]
/-- Whom an edge reaches; a round over all edges; so many rounds. -/
def rcE (R : Nat → Bool) (e : EdS) (k : Nat) : Bool := if k = e.a ∨ k = e.b then R e.a || R e.b else R k
def rcL (es : List EdS) (R : Nat → Bool) : Nat → Bool := es.foldl rcE R
def rcN (es : List EdS) : Nat → (Nat → Bool) → Nat → Bool
  | 0, R => R
  | m + 1, R => rcN es m (rcL es R)
theorem rcE_keep {R : Nat → Bool} {e : EdS} {S : Nat → Bool} {z : Bool} (hs : S e.a = S e.b) (h : ∀ k, R k = true → S k = z) : ∀ k, rcE R e k = true → S k = z := fun k hk => by
  unfold rcE at hk
  split at hk
  · rename_i q
    have : S e.a = z := by
      rcases Bool.or_eq_true_iff.1 hk with r | r
      · exact h _ r
      · rw [hs]; exact h _ r
    rcases q with q | q
    · rw [q]; exact this
    · rw [q, ← hs]; exact this
  · exact h k hk
theorem rcL_keep {S : Nat → Bool} {z : Bool} : ∀ {es : List EdS}, (∀ e ∈ es, S e.a = S e.b) → ∀ {R : Nat → Bool}, (∀ k, R k = true → S k = z) → ∀ k, rcL es R k = true → S k = z
  | [], _, _, h => h
  | e :: es, hs, R, h => rcL_keep (es := es) (fun x hx => hs x (List.mem_cons_of_mem _ hx)) (R := rcE R e) (rcE_keep (hs e (List.mem_cons_self ..)) h)
theorem rcN_keep {es : List EdS} {S : Nat → Bool} {z : Bool} (hs : ∀ e ∈ es, S e.a = S e.b) : ∀ (m : Nat) {R : Nat → Bool}, (∀ k, R k = true → S k = z) → ∀ k, rcN es m R k = true → S k = z
  | 0, _, h => h
  | m + 1, R, h => rcN_keep hs m (R := rcL es R) (rcL_keep hs h)
/-- All are reached from the first: that is a graph. -/
theorem graph_of {n s m : Nat} {es : List EdS} (hs : s < n) (ok : ∀ e ∈ es, okE n e) (all : ∀ k, k < n → rcN es m (fun k => decide (k = 0)) k = true) : GrS n s (btL es) := by
  refine ⟨hs, bt_sym es, bt_posS ok, bt_self ok, fun S s0 ⟨k, hk, sk⟩ => ?_⟩
  by_cases h : ∀ e ∈ es, S e.a = S e.b
  · exfalso
    have r := rcN_keep (S := S) (z := S 0) h m (R := fun k => decide (k = 0)) (fun k hk => by rw [of_decide_eq_true hk])
    have a := r k (all k hk)
    have b := r s (all s hs)
    rw [sk] at a; rw [s0, ← a] at b; cases b
  · have : ∃ e, e ∈ es ∧ S e.a ≠ S e.b := Classical.byContradiction fun q => h fun e he => Classical.byContradiction fun q2 => q ⟨e, he, q2⟩
    obtain ⟨e, he, hne⟩ := this
    have o := ok e he
    have t := bt_mem ok e he
    unfold okE at o
    cases ha : S e.a with
    | true =>
      cases hb : S e.b with
      | true => rw [ha, hb] at hne; exact absurd rfl hne
      | false => exact ⟨e.a, e.b, o.1, o.2.1, ha, hb, t⟩
    | false =>
      cases hb : S e.b with
      | true => exact ⟨e.b, e.a, o.2.1, o.1, hb, ha, by rw [bt_sym]; exact t⟩
      | false => rw [ha, hb] at hne; exact absurd rfl hne
theorem dg_pos {n s m : Nat} {es : List EdS} (hs : s < n) (ok : ∀ e ∈ es, okE n e) (all : ∀ k, k < n → rcN es m (fun k => decide (k = 0)) k = true) {k : Nat} (hk : k < n) (ks : k ≠ s) : 1 ≤ dgL es k := by
  obtain ⟨k', j, hk', hj, sk, sj, t⟩ := (graph_of hs ok all).con (fun i => decide (i = k)) (decide_eq_false (fun e => ks e.symm)) ⟨k, hk, decide_eq_true rfl⟩
  obtain rfl : k' = k := of_decide_eq_true sk
  have := smS_one (f := btL es k') (fun j _ => bt_posS ok k' j) hj
  rw [dg_sum ok] at this
  omega
/-- What lies behind one more that topples so often. -/
theorem ch_up {n s : Nat} {b : Nat → Nat → Int} (G : GrS n s b) (c u : Nat → Int) {k : Nat} (t : Int) (hk : k < n) (ks : k ≠ s) (j : Nat) (hj : j < n) : chS n s b c (upS u k t) j = if j = s then 0 else if j = k then chS n s b c u j - t * smS n (b k) else chS n s b c u j + t * b k j := by
  unfold chS
  by_cases h : j = s
  · rw [if_pos h, if_pos h]
  · rw [if_neg h, if_neg h, if_neg h]
    by_cases q : j = k
    · subst q; rw [if_pos rfl, lap_up_same G.self]; omega
    · rw [if_neg q, lap_up_other u t hk q, G.sym j k]; omega
end Go.Proofs.YtpajdmhgonmgoaaDoor

namespace Go.Proofs.YtpajdmhgonmgoaaDoor

/-- The byte at i, 0 behind the end. -/
def bt (s : ByteArray) (i : Nat) : Nat := if h : i < s.size then s[i].toNat else 0

/-- A rule, as plain data. -/
structure Out where
  kind : Int
  born : Int
  stay : Int
  states : Int
  radius : Int
  table : List Int
  turns : ByteArray

def entries (n m : Nat) : Nat := n ^ (2 * m + 1)

end Go.Proofs.YtpajdmhgonmgoaaDoor

