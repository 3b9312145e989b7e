/-
  What the last text of this claim leans on, part 36: Og3, Og4, Pr15, Pr16, Pr17, Pr18.
-/
import Derived.Test.YtdhbdkkchobinaaJz35
import Derived.Test.YtdhbdkkchobinaaJz29
import Derived.Test.YtdhbdkkchobinaaJz12
namespace Go.Proofs.Ytdhbdkkchobinaa
set_option linter.unusedVariables false

/-- The pair of places behind t cells. -/
def plG (S n : Nat) (f g : Nat → Nat) (u : Nat × Nat) : Nat → Nat × Nat
  | 0 => u
  | t + 1 => stepP S n (plG S n f g u t) (f t, g t)
theorem plG_take {S n : Nat} {f g : Nat → Nat} {u : Nat × Nat} (full : List (Nat × Nat)) (h : ∀ t (ht : t < full.length), full[t] = (f t, g t)) : ∀ t, t ≤ full.length → plG S n f g u t = endP S n u (full.take t)
  | 0, _ => by simp [plG, endP]
  | t + 1, ht => by
    rw [plG, plG_take full h t (by omega), List.take_succ_eq_append_getElem (by omega), endP_append, h t (by omega)]
    rfl
theorem okP_at {S n : Nat} {T : List Int} {u : Nat × Nat} {full : List (Nat × Nat)} (h : okP S n T u full) {t : Nat} (ht : t < full.length) : OkWay S T (endP S n u (full.take t)) full[t] := by
  rw [show full = full.take t ++ (full[t] :: full.drop (t + 1)) by rw [← List.drop_eq_getElem_cons ht, List.take_append_drop], okP_append] at h
  exact h.2.1
theorem plG_per {S n L : Nat} {f g : Nat → Nat} {u : Nat × Nat} (pf : ∀ t, f (t + L) = f t) (pg : ∀ t, g (t + L) = g t) (h : plG S n f g u L = u) : ∀ t, plG S n f g u (t + L) = plG S n f g u t
  | 0 => by rw [Nat.zero_add, h]; rfl
  | t + 1 => by rw [show t + 1 + L = t + L + 1 by omega, plG, plG, plG_per pf pg h t, pf, pg]
theorem plG_perk {S n L : Nat} {f g : Nat → Nat} {u : Nat × Nat} (pf : ∀ t, f (t + L) = f t) (pg : ∀ t, g (t + L) = g t) (h : plG S n f g u L = u) (t : Nat) : ∀ k, plG S n f g u (t + k * L) = plG S n f g u t
  | 0 => by simp
  | k + 1 => by rw [Nat.add_mul, Nat.one_mul, ← Nat.add_assoc, plG_per pf pg h, plG_perk pf pg h t k]
theorem mod_step (a S c n : Nat) : (a % n * S + c) % n = (a * S + c) % n := by
  rw [Nat.add_mod, Nat.mod_mul_mod, ← Nat.add_mod]
theorem plG_far {S n : Nat} {f g : Nat → Nat} {u : Nat × Nat} (t : Nat) : ∀ k, plG S n f g u (t + (k + 1)) = (((plG S n f g u t).1 * S ^ (k + 1) + hn S f t (k + 1)) % n, ((plG S n f g u t).2 * S ^ (k + 1) + hn S g t (k + 1)) % n)
  | 0 => by
    show stepP S n (plG S n f g u t) (f t, g t) = _
    simp [stepP, hn]
  | k + 1 => by
    show stepP S n (plG S n f g u (t + (k + 1))) (f (t + (k + 1)), g (t + (k + 1))) = _
    rw [plG_far t k]
    unfold stepP
    simp only
    rw [mod_step, mod_step, show hn S f t (k + 1 + 1) = hn S f t (k + 1) * S + f (t + (k + 1)) from rfl, show hn S g t (k + 1 + 1) = hn S g t (k + 1) * S + g (t + (k + 1)) from rfl, Nat.add_mul, Nat.add_mul, Nat.mul_assoc, Nat.mul_assoc, ← Nat.pow_succ, Nat.add_assoc, Nat.add_assoc]
theorem plG_at {S m : Nat} {f g : Nat → Nat} {u : Nat × Nat} (hf : ∀ t, f t < S) (hg : ∀ t, g t < S) (hu : u.1 < S ^ m ∧ u.2 < S ^ m) (t : Nat) (hS : 0 < S) : plG S (S ^ m) f g u (t + m) = (hn S f t m, hn S g t m) := by
  cases m with
  | zero =>
    have : ∀ v : Nat × Nat, v.1 < 1 → v.2 < 1 → v = (0, 0) := fun v h1 h2 => Prod.ext (by simp; omega) (by simp; omega)
    show plG S (S ^ 0) f g u t = (0, 0)
    cases t with
    | zero => exact this u (by simpa using hu.1) (by simpa using hu.2)
    | succ t =>
      have hl := stepP_lt (S := S) (n := S ^ 0) (by simp) (plG S (S ^ 0) f g u t) (f t, g t)
      exact this (stepP S (S ^ 0) (plG S (S ^ 0) f g u t) (f t, g t)) (Nat.lt_of_lt_of_eq hl.1 (Nat.pow_zero S)) (Nat.lt_of_lt_of_eq hl.2 (Nat.pow_zero S))
  | succ m =>
    rw [plG_far t m, Nat.mul_comm, Nat.mul_add_mod, Nat.mod_eq_of_lt (hn_lt hf _ _), Nat.mul_comm, Nat.mul_add_mod, Nat.mod_eq_of_lt (hn_lt hg _ _)]
theorem same_step {S R : Nat} {T xs ys : List Int} (hx : cellsOk S xs) (hy : cellsOk S ys) (hl : xs.length = ys.length) (h : ∀ i, T.getD (hn S (ringF xs) i (2 * R + 1)) 0 = T.getD (hn S (ringF ys) i (2 * R + 1)) 0) : stepL S R T xs = stepL S R T ys := by
  unfold stepL
  rw [← hl]
  apply List.map_congr_left
  intro j hj
  have jl := List.mem_range.1 hj
  have h0 : 0 < xs.length := by omega
  have hR : R ≤ R * xs.length := Nat.le_mul_of_pos_right _ h0
  obtain ⟨i', hi'⟩ : ∃ i', i' + R = j + R * xs.length := ⟨j + R * xs.length - R, by omega⟩
  rw [wn_hn hx h0 hi', wn_hn hy (by omega) (by rw [← hl]; exact hi'), Int.toNat_natCast, Int.toNat_natCast]
  exact h i'
theorem ring_rings {S R : Nat} {T : List Int} {u : Nat × Nat} {full : List (Nat × Nat)} (hS : 0 < S) (h : IsRing S (S ^ (2 * R)) T u full) :
    cellsOk S (full.map fun y => (y.1 : Int)) ∧ cellsOk S (full.map fun y => (y.2 : Int)) ∧ stepL S R T (full.map fun y => (y.1 : Int)) = stepL S R T (full.map fun y => (y.2 : Int)) ∧ (full.map fun y => (y.1 : Int)) ≠ (full.map fun y => (y.2 : Int)) := by
  obtain ⟨h1, h2, h3, ⟨cs, d, e, hw⟩, _⟩ := h
  obtain ⟨q1, q2⟩ := wantRf_is.1 hw
  have hL : 0 < full.length := by rw [e]; simp
  have hin : ∀ y ∈ full, y.1 < S ∧ y.2 < S := fun y hy => by
    obtain ⟨t, ht, rfl⟩ := List.getElem_of_mem hy
    have := okP_at h3 ht
    exact ⟨this.1, this.2.1⟩
  have ox : cellsOk S (full.map fun y => (y.1 : Int)) := fun z hz => by
    obtain ⟨y, hy, rfl⟩ := List.mem_map.1 hz
    have := hin y hy
    omega
  have oy : cellsOk S (full.map fun y => (y.2 : Int)) := fun z hz => by
    obtain ⟨y, hy, rfl⟩ := List.mem_map.1 hz
    have := hin y hy
    omega
  obtain ⟨xs, hxs⟩ : ∃ xs : List Int, (full.map fun y => (y.1 : Int)) = xs := ⟨_, rfl⟩
  obtain ⟨ys, hys⟩ : ∃ ys : List Int, (full.map fun y => (y.2 : Int)) = ys := ⟨_, rfl⟩
  have lx : xs.length = full.length := by rw [← hxs]; simp
  have ly : ys.length = full.length := by rw [← hys]; simp
  have hfg : ∀ t (ht : t < full.length), full[t] = (ringF xs t, ringF ys t) := fun t ht => by
    unfold ringF
    rw [lx, ly, Nat.mod_eq_of_lt ht, ← hxs, ← hys]
    simp [List.getD, ht]
  rw [hxs] at ox ⊢
  rw [hys] at oy ⊢
  have hf := ringF_lt ox (by omega : 0 < xs.length)
  have hg := ringF_lt oy (by omega : 0 < ys.length)
  have pf : ∀ t, ringF xs (t + full.length) = ringF xs t := by rw [← lx]; exact ringF_per xs
  have pg : ∀ t, ringF ys (t + full.length) = ringF ys t := by rw [← ly]; exact ringF_per ys
  have hu : plG S (S ^ (2 * R)) (ringF xs) (ringF ys) u full.length = u := by
    rw [plG_take full hfg _ (Nat.le_refl _), List.take_length, e, endP_append]
    exact q1
  have hway : ∀ t, OkWay S T (plG S (S ^ (2 * R)) (ringF xs) (ringF ys) u t) (ringF xs t, ringF ys t) := fun t => by
    have ht := Nat.mod_lt t hL
    have et : t % full.length + t / full.length * full.length = t := by rw [Nat.mul_comm]; exact Nat.mod_add_div t full.length
    rw [← et, plG_perk pf pg hu, per_mul pf, per_mul pg, plG_take full hfg _ (by omega), ← hfg _ ht]
    exact okP_at h3 ht
  refine ⟨ox, oy, same_step ox oy (by omega) fun i => ?_, fun q => ?_⟩
  · have := (hway (i + 2 * R)).2.2
    rw [plG_at hf hg ⟨by omega, h2⟩ i hS] at this
    exact this
  · have hl : cs.length < full.length := by rw [e]; simp
    have := hfg cs.length hl
    rw [q] at this
    have ed : full[cs.length] = d := by simp [e]
    rw [ed] at this
    exact q2 (by rw [this])
/-- Not both come again themselves. -/
theorem not_both {S R : Nat} {T xs ys : List Int} (e : stepL S R T xs = stepL S R T ys) (hne : xs ≠ ys) {p q : Nat} (h1 : First (fun n => runL S R T n xs) 0 p) (h2 : First (fun n => runL S R T n ys) 0 q) : False := by
  have a := h1.mul (runL_makes S R T xs) q 0
  have b := h2.mul (runL_makes S R T ys) p 0
  simp only [Nat.zero_add] at a b
  rw [Nat.mul_comm q p] at a
  have c : ∀ k, runL S R T (k + 1) xs = runL S R T (k + 1) ys := by
    intro k
    induction k with
    | zero => exact e
    | succ k ih => show stepL S R T (runL S R T (k + 1) xs) = stepL S R T (runL S R T (k + 1) ys); rw [ih]
  have hp := Nat.mul_pos h1.pos h2.pos
  obtain ⟨k, hk⟩ : ∃ k, p * q = k + 1 := ⟨p * q - 1, by omega⟩
  rw [hk] at a b
  apply hne
  have a' : xs = runL S R T (k + 1) xs := a
  have b' : ys = runL S R T (k + 1) ys := b
  rw [a', b']
  exact c k
end Go.Proofs.Ytdhbdkkchobinaa

namespace Go.Proofs.Ytdhbdkkchobinaa
set_option linter.unusedVariables false

theorem pigeon : ∀ (N : Nat) (f : Nat → Nat), (∀ i, i ≤ N → f i < N) → ∃ i j, i < j ∧ j ≤ N ∧ f i = f j
  | 0, f, h => absurd (h 0 (Nat.le_refl _)) (by omega)
  | N + 1, f, h => by
    by_cases hx : ∃ i, i ≤ N ∧ f i = f (N + 1)
    · obtain ⟨i, hi, e⟩ := hx
      exact ⟨i, N + 1, by omega, Nat.le_refl _, e⟩
    · obtain ⟨i, j, h1, h2, h3⟩ := pigeon N (fun i => if f i = N then f (N + 1) else f i) (fun i hi => by
        have a := h i (by omega)
        have b := h (N + 1) (Nat.le_refl _)
        have c : f i ≠ f (N + 1) := fun e => hx ⟨i, hi, e⟩
        split <;> omega)
      refine ⟨i, j, h1, by omega, ?_⟩
      have ci : f i ≠ f (N + 1) := fun e => hx ⟨i, by omega, e⟩
      have cj : f j ≠ f (N + 1) := fun e => hx ⟨j, by omega, e⟩
      split at h3 <;> split at h3 <;> omega
theorem hn_inj {S : Nat} {f g : Nat → Nat} (hf : ∀ t, f t < S) (hg : ∀ t, g t < S) (i : Nat) : ∀ m, hn S f i m = hn S g i m → ∀ k, k < m → f (i + k) = g (i + k)
  | 0, _, k, hk => by omega
  | m + 1, e, k, hk => by
    rw [hn, hn] at e
    obtain ⟨a, b⟩ := code_inj (hf (i + m)) (hg (i + m)) e
    rcases Nat.lt_or_ge k m with c | c
    · exact hn_inj hf hg i m a k c
    · rw [show k = m by omega]; exact b
theorem ring_code {S : Nat} {xs ys : List Int} (hx : cellsOk S xs) (hy : cellsOk S ys) (hl : xs.length = ys.length) (h0 : 0 < xs.length) (e : hn S (ringF xs) 0 xs.length = hn S (ringF ys) 0 xs.length) : xs = ys := by
  have h := hn_inj (ringF_lt hx h0) (ringF_lt hy (by omega)) 0 xs.length e
  apply List.ext_getElem hl
  intro t h1 h2
  have := h t h1
  have a := hx _ (List.getElem_mem h1)
  have b := hy _ (List.getElem_mem h2)
  unfold ringF at this
  rw [Nat.zero_add, Nat.mod_eq_of_lt h1, Nat.mod_eq_of_lt h2, List.getD_eq_getElem?_getD, List.getD_eq_getElem?_getD, List.getElem?_eq_getElem h1, List.getElem?_eq_getElem h2] at this
  simp only [Option.getD_some] at this
  omega
/-- Some word of a ring's steps comes again. -/
theorem rings_again {S R : Nat} {T xs : List Int} (hT : (T.length : Int) = (S : Int) ^ (2 * R + 1)) (hTo : cellsOk S T) (hx : cellsOk S xs) (h0 : 0 < xs.length) : ∃ m p, First (fun n => runL S R T n xs) m p := by
  have ok := fun n => runL_ok (R := R) (by omega : (0 : Int) ≤ S) hT hTo hx n
  have ll := fun n => runL_length S R T xs n
  obtain ⟨i, j, h1, h2, h3⟩ := pigeon (S ^ xs.length) (fun n => hn S (ringF (runL S R T n xs)) 0 xs.length) (fun n _ => hn_lt (ringF_lt (ok n) (by rw [ll n]; exact h0)) _ _)
  have e : runL S R T i xs = runL S R T j xs := ring_code (ok i) (ok j) (by rw [ll i, ll j]) (by rw [ll i]; exact h0) (by rw [ll i]; exact h3)
  obtain ⟨m, p, h, _⟩ := first_of (fun n => runL S R T n xs) j i j (Nat.le_refl _) h1 e
  exact ⟨m, p, h⟩
/-- Where no pair turns, each ring becomes of some. -/
theorem step_onto {S R : Nat} {T xs : List Int} (hS : 0 < S) (hT : (T.length : Int) = (S : Int) ^ (2 * R + 1)) (hTo : cellsOk S T) (hx : cellsOk S xs) (hno : ∀ k, ¬ TurnAt S (S ^ (2 * R)) T k) : ∃ ys, cellsOk S ys ∧ ys.length = xs.length ∧ stepL S R T ys = xs := by
  rcases Nat.eq_zero_or_pos xs.length with h0 | h0
  · refine ⟨xs, hx, rfl, ?_⟩
    rw [List.length_eq_zero_iff.1 h0]
    simp [stepL]
  · obtain ⟨m, p, h⟩ := rings_again hT hTo hx h0
    have mz := first_zero hS hT hTo hx hno h
    subst mz
    have e := h.again
    have hp := h.pos
    obtain ⟨p', rfl⟩ : ∃ p', p = p' + 1 := ⟨p - 1, by omega⟩
    refine ⟨runL S R T p' xs, runL_ok (by omega) hT hTo hx p', runL_length S R T xs p', ?_⟩
    rw [Nat.zero_add] at e
    exact e.symm
/-- What the table that undoes says of the words that were looked at. -/
theorem undoL_says {S : Nat} {T : List Int} {m mid : Nat} (hS : 0 < S) (hok : cellsOk S T) : ∀ (x : Nat) (t : List Int), undoL S T m mid x = some t → ∀ y, y < x → t.getD (shortN S T y m) 0 = ((y / mid % S : Nat) : Int)
  | 0, t, h, y, hy => by omega
  | x + 1, t, h, y, hy => by
    rw [undoL] at h
    cases hu : undoL S T m mid x with
    | none => rw [hu] at h; cases h
    | some t' =>
      have ih := undoL_says hS hok x t' hu
      have tl := undoL_length x t' hu
      rw [hu] at h
      simp only at h
      split at h
      · cases h
      · rename_i hc
        injection h with h
        have sx := shortN_lt hS hok x m
        rw [← h, List.getD_eq_getElem?_getD, List.getElem?_set]
        by_cases e : shortN S T x m = shortN S T y m
        · rw [if_pos e, if_pos (by rw [tl]; exact sx)]
          show ((x / mid % S : Nat) : Int) = _
          rcases Nat.lt_or_ge y x with c | c
          · have h1 := ih y c
            rw [← e] at h1
            rcases Classical.em (t'.getD (shortN S T x m) 0 = ((x / mid % S : Nat) : Int)) with d | d
            · rw [← d, h1]
            · exact absurd ⟨by rw [h1]; omega, d⟩ hc
          · rw [show y = x by omega]
        · rw [if_neg e, ← List.getD_eq_getElem?_getD]
          exact ih y (by
            rcases Nat.lt_or_ge y x with c | c
            · exact c
            · exact absurd (by rw [show y = x by omega]) e)
end Go.Proofs.Ytdhbdkkchobinaa

namespace Go.Proofs.Ytdhbdkkchobinaa
open Go.RowKit
set_option linter.unusedVariables false

/-- At block g a list of n ints of the call's own; what stands at f i, for i below k, is xs' i-th. -/
structure ScI (w0 w : World) (g n k : Nat) (f : Nat → Nat) (xs : List Int) : Prop where
  below : Below w0.heap.size w0 w
  ge : w0.heap.size ≤ g
  lt : g < w.heap.size
  cells : ∀ j, j < n → ∃ v, w.cell? ⟨g, j, none⟩ = some v ∧ (∀ i, i < k → f i = j → v = .int .i64 (xs.getD i 0))
  fz : ∀ j, w.frozen? ⟨g, j, none⟩ = false
theorem ScI.start (w : World) (n : Nat) (f : Nat → Nat) (xs : List Int) (z : Value) (t : TypeId) : ScI w (w.alloc (.cells (madeCells #[z] n) t)) w.heap.size n 0 f xs := by
  refine ⟨(Below.refl _ _).alloc (Nat.le_refl _) _, Nat.le_refl _, by simp, fun j hj => ⟨(madeCells #[z] n)[j]'(by rw [size_madeCells]; exact hj), ?_, fun i hi => by omega⟩, fun j => by simp⟩
  rw [World.cell?_alloc_at _ _ _ _ rfl]
  exact Array.getElem?_eq_getElem (by rw [size_madeCells]; exact hj)
theorem ScI.step {w0 w : World} {g n k : Nat} {f : Nat → Nat} {xs : List Int} (h : ScI w0 w g n k f xs) (hk : f k < n) (hinj : ∀ i, i < k → f i ≠ f k) {x : Int} (hx : xs.getD k 0 = x) : ScI w0 (w.setCell ⟨g, f k, none⟩ (.int .i64 x)) g n (k + 1) f xs := by
  refine ⟨h.below.setCell h.ge _, h.ge, by rw [World.size_setCell]; exact h.lt, fun j hj => ?_, fun j => by rw [World.frozen?_setCell]; exact h.fz j⟩
  by_cases e : j = f k
  · subst e
    obtain ⟨v, hv, -⟩ := h.cells _ hj
    refine ⟨_, World.cell?_setCell_same _ _ _ hv, fun i hi he => ?_⟩
    by_cases q : i = k
    · subst q; rw [hx]
    · exact absurd he (hinj i (by omega))
  · obtain ⟨v, hv, hv'⟩ := h.cells j hj
    refine ⟨v, ?_, fun i hi he => hv' i (by have : i ≠ k := fun q => e (by rw [← he, q]); omega) he⟩
    exact (World.cell?_setCell_other _ ⟨g, f k, none⟩ ⟨g, j, none⟩ _ (fun q => e (congrArg Addr.off q).symm)).trans hv

/-- The rule's table, mirrored. -/
def mirT (o : Out) (j : Nat) : Int := o.table.getD (rv o.states.toNat (2 * o.radius.toNat + 1) 0 j) 0

end Go.Proofs.Ytdhbdkkchobinaa

namespace Go.Proofs.Ytdhbdkkchobinaa
open Go.RowKit
set_option linter.unusedVariables false

/-- The turn that mirrors the i-th. -/
def mirU (t : ByteArray) (i : Nat) : UInt8 := if bt t i = 76 then 82 else 76
theorem FillB.poke {w0 w : World} {g n k : Nat} {f : Nat → UInt8} (h : FillB w0 w g n k f) (hk : k < n) (x : Value) : FillB w0 (w.setCell ⟨g, k, none⟩ x) g n k f := by
  refine ⟨h.below.setCell h.ge _, h.ge, by rw [World.size_setCell]; exact h.lt, fun j hj => ?_, fun j => by rw [World.frozen?_setCell]; exact h.fz j⟩
  by_cases e : j = k
  · subst e
    obtain ⟨v, hv, -⟩ := h.cells j hj
    exact ⟨_, World.cell?_setCell_same _ _ _ hv, fun q => by omega⟩
  · obtain ⟨v, hv, hv'⟩ := h.cells j hj
    exact ⟨v, (World.cell?_setCell_other _ ⟨g, k, none⟩ ⟨g, j, none⟩ _ (fun q => e (congrArg Addr.off q).symm)).trans hv, hv'⟩

end Go.Proofs.Ytdhbdkkchobinaa

namespace Go.Proofs.Ytdhbdkkchobinaa
open Go.RowKit
set_option linter.unusedVariables false

end Go.Proofs.Ytdhbdkkchobinaa

namespace Go.Proofs.Ytdhbdkkchobinaa
open Go.RowKit
set_option linter.unusedVariables false

theorem lineP_nat (o : Out) (h : lineP o) : ∃ s r : Nat, o.states = (s : Int) ∧ o.radius = (r : Int) ∧ 2 ≤ s ∧ s ≤ 4 ∧ r ≤ 10 ∧ o.table.length = s ^ (2 * r + 1) ∧ o.table.length ≤ 4096 := by
  obtain ⟨h1, h2, h3, h4, h5, h6⟩ := h
  have := ent_is o.states.toNat o.radius.toNat (by omega) (by omega) h4
  exact ⟨o.states.toNat, o.radius.toNat, by omega, by omega, by omega, by omega, this.2, by rw [h5, this.1], by omega⟩
def SM (w : World) (o : Out) (a : Option Addr) (n c : Nat) (w' : World) : Prop := w'.cell? ⟨w.heap.size, 0, none⟩ = some (.int .i64 o.kind) ∧ w'.cell? ⟨w.heap.size, 1, none⟩ = some (.int .i64 o.born) ∧ w'.cell? ⟨w.heap.size, 2, none⟩ = some (.int .i64 o.stay) ∧ w'.cell? ⟨w.heap.size, 3, none⟩ = some (.int .i64 o.states) ∧ w'.cell? ⟨w.heap.size, 4, none⟩ = some (.int .i64 o.radius) ∧ w'.cell? ⟨w.heap.size, 5, none⟩ = some (.slice a n c) ∧ w'.cell? ⟨w.heap.size, 6, none⟩ = some (.string o.turns) ∧ Hid (w.heap.size + 2 ≤ w'.heap.size ∧ Below w.heap.size w w')
theorem SM.block {w w1 w2 : World} {o : Out} {a : Option Addr} {n c : Nat} (h : SM w o a n c w1) (e : w2.heap[w.heap.size]? = w1.heap[w.heap.size]?) (hz : w.heap.size + 2 ≤ w2.heap.size) (hb : Below w.heap.size w w2) : SM w o a n c w2 := by
  obtain ⟨h0, h1, h2, h3, h4, h5, h6, h7⟩ := h
  obtain ⟨c0, c1, c2, c3, c4, c5, c6⟩ := Seven.block (g := w.heap.size) ⟨h0, h1, h2, h3, h4, h5, h6⟩ e
  exact ⟨c0, c1, c2, c3, c4, c5, c6, hide' ⟨hz, hb⟩⟩
theorem SM.next {w w1 w2 : World} {o : Out} {a : Option Addr} {n c : Nat} (h : SM w o a n c w1) (hb : Below w1.heap.size w1 w2) : SM w o a n c w2 := by
  have h7 := h.2.2.2.2.2.2.2.out
  exact h.block (hb.block _ (by omega)) (Nat.le_trans h7.1 hb.size) (h7.2.trans (hb.mono h7.2.size))
theorem SM.stored {w w1 : World} {o : Out} {a : Option Addr} {n c : Nat} (h : SM w o a n c w1) (v0 v1 v2 v3 v4 v5 v6 : Value) : SM w o a n c (setRule w1 (w.heap.size + 1) v0 v1 v2 v3 v4 v5 v6) := by
  have h7 := h.2.2.2.2.2.2.2.out
  exact h.block (setRule_block _ _ _ _ _ _ _ _ _ _ (by omega)) (by rw [setRule_size]; exact h7.1) (setRule_below h7.2 (by omega) _ _ _ _ _ _ _)

end Go.Proofs.Ytdhbdkkchobinaa

