/-
  What the last text of this claim leans on, part 9: Of3, Of4, Of5, Of6, Og1, Ry1, Og2, Og3, Og4, Pr15, Pr16, Pr17, Pr18, Pr19, Ll5, Ll6, Ll7, Of7, Og5, Sa1.
-/
import Derived.Test.YtjjdjdodhedihaaJj8
import Derived.Test.YtjjdjdodhedihaaJj1
import Derived.Test.YtjjdjdodhedihaaJj6
namespace Go.Proofs.Ytjjdjdodhedihaa
open Go.RowKit
set_option linter.unusedVariables false

def ilAfter (il : List Bool) (t : Nat) : List Bool := if il.getD t false then il else il.set t true
def tlAfter (il : List Bool) (tl : List Nat) (t : Nat) : List Nat := if il.getD t false then tl else tl ++ [t]

/-- A pair by its number. -/
def unP (n k : Nat) : Nat × Nat := (k / n, k % n)
def coP (n : Nat) (u : Nat × Nat) : Nat := u.1 * n + u.2
/-- What reach keeps. -/
structure PR (S n : Nat) (T : List Int) (fl il : List Bool) (tl : List Nat) : Prop where
  len : il.length = n * n
  cnt : tl.length = il.count true
  seen : ∀ t, t < n * n → (il.getD t false = true ↔ t ∈ tl)
  rng : ∀ t ∈ tl, t < n * n
  org : ∀ t ∈ tl, ∃ j cs, j < n * n ∧ fl.getD j false = true ∧ okP S n T (unP n j) cs ∧ coP n (endP S n (unP n j) cs) = t
theorem PR.add {S n : Nat} {T : List Int} {fl il : List Bool} {tl : List Nat} (h : PR S n T fl il tl) (t : Nat) (ht : t < n * n) (ho : ∃ j cs, j < n * n ∧ fl.getD j false = true ∧ okP S n T (unP n j) cs ∧ coP n (endP S n (unP n j) cs) = t) : PR S n T fl (ilAfter il t) (tlAfter il tl t) := by
  unfold ilAfter tlAfter
  cases hb : il.getD t false with
  | true => exact h
  | false =>
    simp only [Bool.false_eq_true, if_false]
    refine ⟨by simp [h.len], ?_, fun s hs => ?_, fun s hs => ?_, fun s hs => ?_⟩
    · rw [count_set_true _ _ (by rw [h.len]; exact ht) hb, List.length_append, h.cnt]; rfl
    · rw [getD_setB _ _ _ (by rw [h.len]; exact ht)]
      simp only [Bool.or_eq_true, decide_eq_true_eq, List.mem_append, List.mem_singleton]
      rw [h.seen s hs]
      exact Or.comm
    · rcases List.mem_append.1 hs with q | q
      · exact h.rng s q
      · rw [List.mem_singleton.1 q]; exact ht
    · rcases List.mem_append.1 hs with q | q
      · exact h.org s q
      · rw [List.mem_singleton.1 q]; exact ho
end Go.Proofs.Ytjjdjdodhedihaa

namespace Go.Proofs.Ytjjdjdodhedihaa
open Go.RowKit
set_option linter.unusedVariables false

end Go.Proofs.Ytjjdjdodhedihaa

namespace Go.Proofs.Ytjjdjdodhedihaa
open Go.RowKit
set_option linter.unusedVariables false

end Go.Proofs.Ytjjdjdodhedihaa

namespace Go.Proofs.Ytjjdjdodhedihaa
set_option linter.unusedVariables false

end Go.Proofs.Ytjjdjdodhedihaa

namespace Go.Proofs.Ytjjdjdodhedihaa
set_option linter.unusedVariables false

/-- Cells i, .. read as a number, the first the highest. -/
def hn (S : Nat) (f : Nat → Nat) (i : Nat) : Nat → Nat
  | 0 => 0
  | m + 1 => hn S f i m * S + f (i + m)
theorem hn_lt {S : Nat} {f : Nat → Nat} (hf : ∀ t, f t < S) : ∀ (m i : Nat), hn S f i m < S ^ m
  | 0, i => by simp [hn]
  | m + 1, i => by
    have h1 := hn_lt hf m i
    have h2 := hf (i + m)
    have h3 : (hn S f i m + 1) * S ≤ S ^ m * S := Nat.mul_le_mul_right _ h1
    rw [Nat.add_mul] at h3
    rw [hn, Nat.pow_succ]
    omega
theorem hn_per {S L : Nat} {f : Nat → Nat} (hp : ∀ t, f (t + L) = f t) (i : Nat) : ∀ m, hn S f (i + L) m = hn S f i m
  | 0 => rfl
  | m + 1 => by rw [hn, hn, hn_per hp i m, show i + L + m = i + m + L by omega, hp]
end Go.Proofs.Ytjjdjdodhedihaa

namespace Go.Proofs.Ytjjdjdodhedihaa
set_option linter.unusedVariables false

/-- Each word makes the next. -/
def Makes (g : Nat → List Int) : Prop := ∀ i j, g i = g j → g (i + 1) = g (j + 1)
theorem Makes.add {g : Nat → List Int} (h : Makes g) {i j : Nat} (e : g i = g j) : ∀ d, g (i + d) = g (j + d)
  | 0 => e
  | d + 1 => h _ _ (h.add e d)
/-- Word m is the first that comes again, p steps behind. -/
structure First (g : Nat → List Int) (m p : Nat) : Prop where
  pos : 0 < p
  again : g m = g (m + p)
  ahead : ∀ i j, i < j → j < m + p → g i ≠ g j
theorem First.mul {g : Nat → List Int} {m p : Nat} (h : First g m p) (hg : Makes g) : ∀ k d, g (m + d) = g (m + d + k * p)
  | 0, d => by simp
  | k + 1, d => by
    have h1 := h.mul hg k d
    have h2 := hg.add h.again (d + k * p)
    rw [h1, show m + d + k * p = m + (d + k * p) by omega, h2]
    congr 1
    rw [Nat.add_mul, Nat.one_mul]
    omega
theorem First.low {g : Nat → List Int} {m p : Nat} (h : First g m p) (hg : Makes g) (d : Nat) : g (m + d) = g (m + d % p) := by
  have h1 := h.mul hg (d / p) (d % p)
  rw [h1]
  congr 1
  have := Nat.div_add_mod d p
  rw [Nat.mul_comm] at this
  omega
theorem First.same {g : Nat → List Int} {m p : Nat} (h : First g m p) (hg : Makes g) (d e : Nat) : g (m + d) = g (m + e) ↔ d % p = e % p := by
  have h1 := Nat.mod_lt d h.pos
  have h2 := Nat.mod_lt e h.pos
  rw [h.low hg d, h.low hg e]
  constructor
  · intro q
    rcases Nat.lt_trichotomy (d % p) (e % p) with c | c | c
    · exact absurd q (h.ahead _ _ (by omega) (by omega))
    · exact c
    · exact absurd q.symm (h.ahead _ _ (by omega) (by omega))
  · intro q; rw [q]
theorem First.alone {g : Nat → List Int} {m p : Nat} (h : First g m p) (hg : Makes g) {i j : Nat} (hi : i < m) (hj : i ≠ j) : g i ≠ g j := by
  intro q
  by_cases c : j < m + p
  · rcases Nat.lt_or_gt_of_ne hj with d | d
    · exact h.ahead i j d c q
    · exact h.ahead j i d (by omega) q.symm
  · obtain ⟨d, rfl⟩ : ∃ d, j = m + d := ⟨j - m, by omega⟩
    rw [h.low hg d] at q
    have h1 := Nat.mod_lt d h.pos
    exact h.ahead i _ (by omega) (by omega) q
/-- Where a slow one and a fast one meet. -/
theorem First.meet {g : Nat → List Int} {m p : Nat} (h : First g m p) (hg : Makes g) {n : Nat} (hn : 0 < n) : g n = g (2 * n) ↔ m ≤ n ∧ n % p = 0 := by
  constructor
  · intro q
    have hm : m ≤ n := by
      rcases Nat.lt_or_ge n m with c | c
      · exact absurd q (h.alone hg c (by omega))
      · exact c
    refine ⟨hm, ?_⟩
    obtain ⟨d, rfl⟩ : ∃ d, n = m + d := ⟨n - m, by omega⟩
    rw [show 2 * (m + d) = m + (d + (m + d)) by omega, h.same hg] at q
    have hp := h.pos
    have h1 : (m + d) % p = 0 := by
      have h2 := Nat.sub_mod_eq_zero_of_mod_eq q.symm
      rw [show d + (m + d) - d = m + d by omega] at h2
      exact h2
    exact h1
  · rintro ⟨hm, h0⟩
    obtain ⟨d, rfl⟩ : ∃ d, n = m + d := ⟨n - m, by omega⟩
    rw [show 2 * (m + d) = m + (d + (m + d)) by omega, h.same hg, Nat.add_mod, h0, Nat.add_zero, Nat.mod_mod]
/-- From the start, and from where they met, they meet at m. -/
theorem First.start {g : Nat → List Int} {m p : Nat} (h : First g m p) (hg : Makes g) {n : Nat} (hn : 0 < n) (h0 : n % p = 0) {k : Nat} (hk : k ≤ m) : g k = g (2 * n + k) ↔ k = m := by
  constructor
  · intro q
    rcases Nat.lt_or_ge k m with c | c
    · exact absurd q (h.alone hg c (by omega))
    · omega
  · rintro rfl
    have h1 := (h.same hg 0 (2 * n)).2 (by rw [Nat.two_mul, Nat.add_mod, h0, Nat.zero_mod])
    rw [Nat.add_zero] at h1
    rw [h1, Nat.add_comm]
/-- From there on it takes p steps. -/
theorem First.round {g : Nat → List Int} {m p : Nat} (h : First g m p) (hg : Makes g) {t : Nat} (ht : 0 < t) (hp : t ≤ p) : g m = g (m + t) ↔ t = p := by
  have h1 := h.same hg 0 t
  rw [Nat.add_zero] at h1
  rw [h1, Nat.zero_mod]
  constructor
  · intro q
    rcases Nat.lt_or_ge t p with c | c
    · rw [Nat.mod_eq_of_lt c] at q; omega
    · omega
  · rintro rfl; exact (Nat.mod_self _).symm
theorem First.only {g : Nat → List Int} {m p m' p' : Nat} (h : First g m p) (h' : First g m' p') : m + p = m' + p' ∧ m = m' := by
  have e : m + p = m' + p' := by
    rcases Nat.lt_trichotomy (m + p) (m' + p') with c | c | c
    · exact absurd h.again (h'.ahead _ _ (by have := h.pos; omega) c)
    · exact c
    · exact absurd h'.again (h.ahead _ _ (by have := h'.pos; omega) c)
  refine ⟨e, ?_⟩
  have a := h.again
  have b := h'.again
  have q : g m = g m' := by rw [a, b, e]
  rcases Nat.lt_trichotomy m m' with c | c | c
  · exact absurd q (h.ahead _ _ c (by have := h'.pos; omega))
  · exact c
  · exact absurd q.symm (h.ahead _ _ c (by have := h.pos; omega))
end Go.Proofs.Ytjjdjdodhedihaa

namespace Go.Proofs.Ytjjdjdodhedihaa
set_option linter.unusedVariables false

/-- A ring's cells, round and round. -/
def ringF (xs : List Int) (t : Nat) : Nat := (xs.getD (t % xs.length) 0).toNat
theorem ringF_per (xs : List Int) (t : Nat) : ringF xs (t + xs.length) = ringF xs t := by unfold ringF; rw [Nat.add_mod_right]
theorem ringF_lt {S : Nat} {xs : List Int} (hok : cellsOk S xs) (h : 0 < xs.length) (t : Nat) : ringF xs t < S := by
  have := cellsOk_at hok (Nat.mod_lt t h)
  unfold ringF
  omega
theorem ringF_rat {S : Nat} {xs : List Int} (hok : cellsOk S xs) (h : 0 < xs.length) {t : Nat} {z : Int} (e : (t : Int) % xs.length = z % xs.length) : rat xs z = ((ringF xs t : Nat) : Int) := by
  have h1 := cellsOk_at hok (Nat.mod_lt t h)
  unfold rat ringF
  rw [← e, ← Int.natCast_emod, Int.toNat_natCast]
  omega
theorem hn_perk {S L : Nat} {f : Nat → Nat} (hp : ∀ t, f (t + L) = f t) (i m : Nat) : ∀ k, hn S f (i + k * L) m = hn S f i m
  | 0 => by simp
  | k + 1 => by rw [Nat.add_mul, Nat.one_mul, ← Nat.add_assoc, hn_per hp, hn_perk hp i m k]
theorem wn_hn {S R : Nat} {xs : List Int} (hok : cellsOk S xs) (h : 0 < xs.length) {j i : Nat} (e : i + R = j + R * xs.length) :
    ∀ m, wn (S : Int) (fun d => rat xs ((j : Int) + d - R)) 0 m = ((hn S (ringF xs) i m : Nat) : Int)
  | 0 => rfl
  | m + 1 => by
    rw [wn, wn_hn hok h e m, hn, ringF_rat hok h (t := i + m) (by
      have e' : ((i + m : Nat) : Int) = ((j : Int) + (0 + m : Nat) - R) + R * (xs.length : Int) := by
        have : (i : Int) + R = j + (R * xs.length : Nat) := by omega
        push_cast at this ⊢
        omega
      rw [e', Int.add_mul_emod_self_right])]
    push_cast
    rfl
end Go.Proofs.Ytjjdjdodhedihaa

namespace Go.Proofs.Ytjjdjdodhedihaa
set_option linter.unusedVariables false

end Go.Proofs.Ytjjdjdodhedihaa

namespace Go.Proofs.Ytjjdjdodhedihaa
set_option linter.unusedVariables false

end Go.Proofs.Ytjjdjdodhedihaa

namespace Go.Proofs.Ytjjdjdodhedihaa
open Go.RowKit
set_option linter.unusedVariables false

/-- At block g a list of n ints of the call's own; what stands at f i, for i below k, is xs' i-th. -/
structure ScI (w0 w : World) (g n k : Nat) (f : Nat → Nat) (xs : List Int) : Prop where
  below : Below w0.heap.size w0 w
  ge : w0.heap.size ≤ g
  lt : g < w.heap.size
  cells : ∀ j, j < n → ∃ v, w.cell? ⟨g, j, none⟩ = some v ∧ (∀ i, i < k → f i = j → v = .int .i64 (xs.getD i 0))
  fz : ∀ j, w.frozen? ⟨g, j, none⟩ = false
theorem ScI.start (w : World) (n : Nat) (f : Nat → Nat) (xs : List Int) (z : Value) (t : TypeId) : ScI w (w.alloc (.cells (madeCells #[z] n) t)) w.heap.size n 0 f xs := by
  refine ⟨(Below.refl _ _).alloc (Nat.le_refl _) _, Nat.le_refl _, by simp, fun j hj => ⟨(madeCells #[z] n)[j]'(by rw [size_madeCells]; exact hj), ?_, fun i hi => by omega⟩, fun j => by simp⟩
  rw [World.cell?_alloc_at _ _ _ _ rfl]
  exact Array.getElem?_eq_getElem (by rw [size_madeCells]; exact hj)
theorem ScI.step {w0 w : World} {g n k : Nat} {f : Nat → Nat} {xs : List Int} (h : ScI w0 w g n k f xs) (hk : f k < n) (hinj : ∀ i, i < k → f i ≠ f k) {x : Int} (hx : xs.getD k 0 = x) : ScI w0 (w.setCell ⟨g, f k, none⟩ (.int .i64 x)) g n (k + 1) f xs := by
  refine ⟨h.below.setCell h.ge _, h.ge, by rw [World.size_setCell]; exact h.lt, fun j hj => ?_, fun j => by rw [World.frozen?_setCell]; exact h.fz j⟩
  by_cases e : j = f k
  · subst e
    obtain ⟨v, hv, -⟩ := h.cells _ hj
    refine ⟨_, World.cell?_setCell_same _ _ _ hv, fun i hi he => ?_⟩
    by_cases q : i = k
    · subst q; rw [hx]
    · exact absurd he (hinj i (by omega))
  · obtain ⟨v, hv, hv'⟩ := h.cells j hj
    refine ⟨v, ?_, fun i hi he => hv' i (by have : i ≠ k := fun q => e (by rw [← he, q]); omega) he⟩
    exact (World.cell?_setCell_other _ ⟨g, f k, none⟩ ⟨g, j, none⟩ _ (fun q => e (congrArg Addr.off q).symm)).trans hv

end Go.Proofs.Ytjjdjdodhedihaa

namespace Go.Proofs.Ytjjdjdodhedihaa
open Go.RowKit
set_option linter.unusedVariables false

end Go.Proofs.Ytjjdjdodhedihaa

namespace Go.Proofs.Ytjjdjdodhedihaa
open Go.RowKit
set_option linter.unusedVariables false

end Go.Proofs.Ytjjdjdodhedihaa

namespace Go.Proofs.Ytjjdjdodhedihaa
open Go.RowKit
set_option linter.unusedVariables false

def SM (w : World) (o : Out) (a : Option Addr) (n c : Nat) (w' : World) : Prop := w'.cell? ⟨w.heap.size, 0, none⟩ = some (.int .i64 o.kind) ∧ w'.cell? ⟨w.heap.size, 1, none⟩ = some (.int .i64 o.born) ∧ w'.cell? ⟨w.heap.size, 2, none⟩ = some (.int .i64 o.stay) ∧ w'.cell? ⟨w.heap.size, 3, none⟩ = some (.int .i64 o.states) ∧ w'.cell? ⟨w.heap.size, 4, none⟩ = some (.int .i64 o.radius) ∧ w'.cell? ⟨w.heap.size, 5, none⟩ = some (.slice a n c) ∧ w'.cell? ⟨w.heap.size, 6, none⟩ = some (.string o.turns) ∧ Hid (w.heap.size + 2 ≤ w'.heap.size ∧ Below w.heap.size w w')
theorem SM.block {w w1 w2 : World} {o : Out} {a : Option Addr} {n c : Nat} (h : SM w o a n c w1) (e : w2.heap[w.heap.size]? = w1.heap[w.heap.size]?) (hz : w.heap.size + 2 ≤ w2.heap.size) (hb : Below w.heap.size w w2) : SM w o a n c w2 := by
  obtain ⟨h0, h1, h2, h3, h4, h5, h6, h7⟩ := h
  obtain ⟨c0, c1, c2, c3, c4, c5, c6⟩ := Seven.block (g := w.heap.size) ⟨h0, h1, h2, h3, h4, h5, h6⟩ e
  exact ⟨c0, c1, c2, c3, c4, c5, c6, hide' ⟨hz, hb⟩⟩
theorem SM.next {w w1 w2 : World} {o : Out} {a : Option Addr} {n c : Nat} (h : SM w o a n c w1) (hb : Below w1.heap.size w1 w2) : SM w o a n c w2 := by
  have h7 := h.2.2.2.2.2.2.2.out
  exact h.block (hb.block _ (by omega)) (Nat.le_trans h7.1 hb.size) (h7.2.trans (hb.mono h7.2.size))
end Go.Proofs.Ytjjdjdodhedihaa

namespace Go.Proofs.Ytjjdjdodhedihaa
open Go.RowKit
set_option linter.unusedVariables false

theorem cell_block_lt {w : World} {a : Addr} {v : Value} (h : w.cell? a = some v) : a.block < w.heap.size := by
  rcases Nat.lt_or_ge a.block w.heap.size with q | q
  · exact q
  · have e : w.heap[a.block]? = none := Array.getElem?_eq_none q
    simp only [World.cell?, e] at h
    cases h
/-- A list of ints reads so, from its start on. -/
def Reads0 (w : World) (a : Option Addr) (xs : List Int) : Prop := ∀ k (h : k < xs.length), ∃ g, a = some ⟨g, 0, none⟩ ∧ w.cell? ⟨g, k, none⟩ = some (.int .i64 xs[k])
theorem Reads0.below {w w' : World} {a : Option Addr} {xs : List Int} (h : Reads0 w a xs) (hb : Below w.heap.size w w') : Reads0 w' a xs := fun k hk => by
  obtain ⟨g, e, hc⟩ := h k hk
  exact ⟨g, e, (World.cell?_of_block (w := w) (a := ⟨g, k, none⟩) (hb.block g (cell_block_lt hc))).trans hc⟩
theorem Reads0.nil (w : World) (a : Option Addr) : Reads0 w a [] := fun k hk => by simp at hk

/-- At block g a list of n ints of the call's own, the cells from k on are f's. -/
structure FillD (w0 w : World) (g n k : Nat) (f : Nat → Int) : Prop where
  below : Below w0.heap.size w0 w
  ge : w0.heap.size ≤ g
  lt : g < w.heap.size
  cells : ∀ j, j < n → ∃ v, w.cell? ⟨g, j, none⟩ = some v ∧ (k ≤ j → v = .int .i64 (f j))
  fz : ∀ j, w.frozen? ⟨g, j, none⟩ = false
theorem FillD.start (w : World) (n : Nat) (f : Nat → Int) (z : Value) (t : TypeId) : FillD w (w.alloc (.cells (madeCells #[z] n) t)) w.heap.size n n f := by
  refine ⟨(Below.refl _ _).alloc (Nat.le_refl _) _, Nat.le_refl _, by simp, fun j hj => ⟨(madeCells #[z] n)[j]'(by rw [size_madeCells]; exact hj), ?_, by omega⟩, fun j => by simp⟩
  rw [World.cell?_alloc_at _ _ _ _ rfl]
  exact Array.getElem?_eq_getElem (by rw [size_madeCells]; exact hj)
theorem FillD.step {w0 w : World} {g n k : Nat} {f : Nat → Int} (h : FillD w0 w g n (k + 1) f) (hk : k < n) {x : Int} (hx : f k = x) : FillD w0 (w.setCell ⟨g, k, none⟩ (.int .i64 x)) g n k f := by
  refine ⟨h.below.setCell h.ge _, h.ge, by rw [World.size_setCell]; exact h.lt, fun j hj => ?_, fun j => by rw [World.frozen?_setCell]; exact h.fz j⟩
  by_cases e : j = k
  · subst e
    obtain ⟨v, hv, -⟩ := h.cells j hj
    exact ⟨_, World.cell?_setCell_same _ _ _ hv, fun _ => by rw [hx]⟩
  · obtain ⟨v, hv, hv'⟩ := h.cells j hj
    refine ⟨v, ?_, fun q => hv' (by omega)⟩
    exact (World.cell?_setCell_other _ ⟨g, k, none⟩ ⟨g, j, none⟩ _ (fun q => e (congrArg Addr.off q).symm)).trans hv

end Go.Proofs.Ytjjdjdodhedihaa

namespace Go.Proofs.Ytjjdjdodhedihaa
open Go.RowKit
set_option linter.unusedVariables false

end Go.Proofs.Ytjjdjdodhedihaa

namespace Go.Proofs.Ytjjdjdodhedihaa
open Go.RowKit
set_option linter.unusedVariables false

end Go.Proofs.Ytjjdjdodhedihaa

namespace Go.Proofs.Ytjjdjdodhedihaa
open Go.RowKit
set_option linter.unusedVariables false

/-- The rule that grows, in its box at P; what lies below it stays. -/
structure CM (w0 wr : World) (P S K : Nat) (v : Value) (xs : List Int) : Prop where
  below : Below P w0 wr
  sz : P + 1 ≤ wr.heap.size
  rb : RB P S K v wr
  fz : ∀ k, wr.frozen? ⟨P, k, none⟩ = false
  own : wr.ownsRow (P + 1) 3 1 v xs.length (xs.map fun x => .int .i64 x)
theorem CM.next {w0 wr w' : World} {P S K : Nat} {v : Value} {xs : List Int} (h : CM w0 wr P S K v xs) (hb : Below wr.heap.size wr w') : CM w0 w' P S K v xs := by
  have := h.sz
  have := hb.size
  exact ⟨h.below.trans (hb.mono (by omega)), by omega, h.rb.next hb, fun k => (World.frozen?_of_block (w := wr) (a := ⟨P, k, none⟩) (hb.block P (by omega))).trans (h.fz k), ownsRow_keepB h.own fun k _ hk => hb.block k hk⟩
theorem CM.start (w : World) (P S K : Nat) (hP : w.heap.size = P) (t : TypeId) : CM (w.alloc (.cells #[.int .i64 2, .int .i64 0, .int .i64 0, .int .i64 (S : Int), .int .i64 (K : Int), .slice none 0 0, .string ⟨#[]⟩] t)) (w.alloc (.cells #[.int .i64 2, .int .i64 0, .int .i64 0, .int .i64 (S : Int), .int .i64 (K : Int), .slice none 0 0, .string ⟨#[]⟩] t)) P S K (.slice none 0 0) [] := by
  subst hP
  exact ⟨Below.refl _ _, by simp, RB.new w S K _ t, fun k => by simp, ⟨by simp, Or.inl ⟨rfl, by simp⟩⟩⟩
end Go.Proofs.Ytjjdjdodhedihaa

namespace Go.Proofs.Ytjjdjdodhedihaa
open Go.RowKit
set_option linter.unusedVariables false

end Go.Proofs.Ytjjdjdodhedihaa

namespace Go.Proofs.Ytjjdjdodhedihaa
set_option linter.unusedVariables false

theorem hn_split {S : Nat} {f : Nat → Nat} (i a : Nat) : ∀ m, hn S f i (a + m) = hn S f i a * S ^ m + hn S f (i + a) m
  | 0 => by simp [hn]
  | m + 1 => by
    rw [← Nat.add_assoc, hn, hn_split i a m, hn, Nat.add_mul, Nat.mul_assoc, ← Nat.pow_succ, Nat.add_assoc, ← Nat.add_assoc i a m]
theorem hn_div {S : Nat} {f : Nat → Nat} (hS : 0 < S) (hf : ∀ t, f t < S) (i a m : Nat) : hn S f i (a + m) / S ^ m = hn S f i a := by
  rw [hn_split, Nat.mul_comm, Nat.mul_add_div (Nat.pow_pos hS), Nat.div_eq_of_lt (hn_lt hf m _), Nat.add_zero]
theorem hn_mod {S : Nat} {f : Nat → Nat} (hf : ∀ t, f t < S) (i a m : Nat) : hn S f i (a + m) % S ^ m = hn S f (i + a) m := by
  rw [hn_split, Nat.mul_comm, Nat.mul_add_mod, Nat.mod_eq_of_lt (hn_lt hf m _)]
/-- A cell of what a step makes. -/
theorem step_at {S R : Nat} {T xs : List Int} (hx : cellsOk S xs) (h0 : 0 < xs.length) (i : Nat) : (stepL S R T xs).getD ((i + R) % xs.length) 0 = T.getD (hn S (ringF xs) i (2 * R + 1)) 0 := by
  obtain ⟨j, hj⟩ : ∃ j, (i + R) % xs.length = j := ⟨_, rfl⟩
  obtain ⟨q, hq⟩ : ∃ q, (i + R) / xs.length = q := ⟨_, rfl⟩
  have jl : j < xs.length := by rw [← hj]; exact Nat.mod_lt _ h0
  have eq : i + R = q * xs.length + j := by rw [← hj, ← hq, Nat.mul_comm]; exact (Nat.div_add_mod _ _).symm
  have hR : R ≤ R * xs.length := Nat.le_mul_of_pos_right _ h0
  obtain ⟨i', hi'⟩ : ∃ i', i' + R = j + R * xs.length := ⟨j + R * xs.length - R, by omega⟩
  have ei : i + R * xs.length = i' + q * xs.length := by omega
  have a1 : hn S (ringF xs) i (2 * R + 1) = hn S (ringF xs) i' (2 * R + 1) := by
    rw [← hn_perk (ringF_per xs) i _ R, ei, hn_perk (ringF_per xs)]
  rw [hj, a1, stepL, List.getD_eq_getElem?_getD, List.getElem?_map, List.getElem?_range jl]
  simp only [Option.map_some, Option.getD_some]
  rw [wn_hn hx h0 hi', Int.toNat_natCast]
theorem ringF_step {S R : Nat} {T xs : List Int} (hx : cellsOk S xs) (h0 : 0 < xs.length) (i : Nat) : ringF (stepL S R T xs) (i + R) = (T.getD (hn S (ringF xs) i (2 * R + 1)) 0).toNat := by
  unfold ringF
  rw [stepL_length, step_at hx h0]
  rfl
end Go.Proofs.Ytjjdjdodhedihaa

namespace Go.Proofs.Ytjjdjdodhedihaa
set_option linter.unusedVariables false

/-- What a window changes: what becomes of it, without its first cell. -/
def chg (n : Nat) (T wt : List Int) (w : Nat) : Int := wt.getD (T.getD w 0).toNat 0 - wt.getD (w / n) 0
/-- There are heights by which each window changes as much as it leads upwards. -/
def KeepsP (S n : Nat) (T wt : List Int) : Prop := ∃ h : Nat → Int, ∀ w, w < T.length → chg n T wt w = h (w % n) - h (w / S)
def sumF (f : Nat → Int) : Nat → Int
  | 0 => 0
  | m + 1 => sumF f m + f m
theorem sumF_ext {f g : Nat → Int} : ∀ m, (∀ i, i < m → f i = g i) → sumF f m = sumF g m
  | 0, _ => rfl
  | m + 1, h => by rw [sumF, sumF, sumF_ext m (fun i hi => h i (by omega)), h m (by omega)]
theorem sumF_sub (f g : Nat → Int) : ∀ m, sumF (fun i => f i - g i) m = sumF f m - sumF g m
  | 0 => rfl
  | m + 1 => by rw [sumF, sumF, sumF, sumF_sub f g m]; omega
theorem sumF_tel (f : Nat → Int) : ∀ m, sumF (fun i => f (i + 1) - f i) m = f m - f 0
  | 0 => by rw [sumF]; omega
  | m + 1 => by rw [sumF, sumF_tel f m]; omega
theorem sumF_shift (f : Nat → Int) : ∀ m, sumF (fun i => f (i + 1)) m = sumF f m + f m - f 0
  | 0 => by rw [sumF, sumF]; omega
  | m + 1 => by rw [sumF, sumF_shift f m, sumF]; omega
/-- Round a ring a sum is the same wherever it begins. -/
theorem sumF_turn {f : Nat → Int} {L : Nat} (hp : ∀ t, f (t + L) = f t) : ∀ R, sumF (fun i => f (i + R)) L = sumF f L
  | 0 => rfl
  | R + 1 => by
    have h := sumF_shift (fun i => f (i + R)) L
    have e : f (L + R) = f (0 + R) := by rw [Nat.add_comm L R, Nat.zero_add]; exact hp R
    rw [sumF_turn hp R] at h
    have e2 : sumF (fun i => f (i + (R + 1))) L = sumF (fun i => f (i + 1 + R)) L := sumF_ext L (fun i _ => by rw [show i + (R + 1) = i + 1 + R by omega])
    rw [e2]
    simp only [e] at h
    omega
/-- What a word weighs. -/
def weighF (xs wt : List Int) (m : Nat) : Int := sumF (fun i => wt.getD (xs.getD i 0).toNat 0) m
/-- What is kept is kept. -/
theorem kept {S R : Nat} {T xs wt : List Int} (hS : 0 < S) (hT : T.length = S ^ (2 * R + 1)) (hx : cellsOk S xs) (hk : KeepsP S (S ^ (2 * R)) T wt) : weighF (stepL S R T xs) wt xs.length = weighF xs wt xs.length := by
  rcases Nat.eq_zero_or_pos xs.length with h0 | h0
  · rw [h0]; rfl
  · obtain ⟨h, hh⟩ := hk
    have hf := ringF_lt hx h0
    have ls : (stepL S R T xs).length = xs.length := stepL_length ..
    have a1 : weighF xs wt xs.length = sumF (fun i => wt.getD (ringF xs i) 0) xs.length := sumF_ext _ fun i hi => by simp only [ringF, Nat.mod_eq_of_lt hi]
    have a2 : weighF (stepL S R T xs) wt xs.length = sumF (fun i => wt.getD (ringF (stepL S R T xs) i) 0) xs.length := sumF_ext _ fun i hi => by simp only [ringF, ls, Nat.mod_eq_of_lt hi]
    have p2 : ∀ t, (fun i => wt.getD (ringF (stepL S R T xs) i) 0) (t + xs.length) = (fun i => wt.getD (ringF (stepL S R T xs) i) 0) t := fun t => by
      show wt.getD (ringF _ (t + xs.length)) 0 = wt.getD (ringF _ t) 0
      rw [← ls, ringF_per]
    have a3 := sumF_turn (f := fun i => wt.getD (ringF (stepL S R T xs) i) 0) (L := xs.length) p2 R
    have a4 : sumF (fun i => (fun i => wt.getD (ringF (stepL S R T xs) (i + R)) 0) i - (fun i => wt.getD (ringF xs i) 0) i) xs.length = sumF (fun i => (fun i => h (hn S (ringF xs) i (2 * R))) (i + 1) - (fun i => h (hn S (ringF xs) i (2 * R))) i) xs.length := sumF_ext _ fun i _ => by
      have q := hh (hn S (ringF xs) i (2 * R + 1)) (by rw [hT]; exact hn_lt hf _ _)
      have e1 : hn S (ringF xs) i (2 * R + 1) / S ^ (2 * R) = ringF xs i := by
        rw [show 2 * R + 1 = 1 + 2 * R by omega, hn_div hS hf]; simp [hn]
      have e2 : hn S (ringF xs) i (2 * R + 1) % S ^ (2 * R) = hn S (ringF xs) (i + 1) (2 * R) := by
        rw [show 2 * R + 1 = 1 + 2 * R by omega, hn_mod hf]
      have e3 : hn S (ringF xs) i (2 * R + 1) / S = hn S (ringF xs) i (2 * R) := by
        have := hn_div hS hf i (2 * R) 1
        rwa [Nat.pow_one] at this
      unfold chg at q
      rw [e1, e2, e3] at q
      show wt.getD (ringF (stepL S R T xs) (i + R)) 0 - wt.getD (ringF xs i) 0 = h (hn S (ringF xs) (i + 1) (2 * R)) - h (hn S (ringF xs) i (2 * R))
      rw [ringF_step hx h0]
      exact q
    have a6 := sumF_tel (fun i => h (hn S (ringF xs) i (2 * R))) xs.length
    rw [sumF_sub, a6] at a4
    have a5 : hn S (ringF xs) xs.length (2 * R) = hn S (ringF xs) 0 (2 * R) := by
      have := hn_per (S := S) (ringF_per xs) 0 (2 * R)
      rwa [Nat.zero_add] at this
    rw [a1, a2]
    simp only [a5] at a4
    omega
end Go.Proofs.Ytjjdjdodhedihaa

