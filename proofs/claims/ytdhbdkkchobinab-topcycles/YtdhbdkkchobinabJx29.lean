/-
  What the last text of this claim leans on, part 29: Og3, Ry2, Ry3.
-/
import Derived.Test.YtdhbdkkchobinabJx28
import Derived.Test.YtdhbdkkchobinabJx11
import Derived.Test.YtdhbdkkchobinabJx5
namespace Go.Proofs.Ytdhbdkkchobinab
set_option linter.unusedVariables false

/-- The pair of places behind t cells. -/
def plG (S n : Nat) (f g : Nat → Nat) (u : Nat × Nat) : Nat → Nat × Nat
  | 0 => u
  | t + 1 => stepP S n (plG S n f g u t) (f t, g t)
theorem plG_take {S n : Nat} {f g : Nat → Nat} {u : Nat × Nat} (full : List (Nat × Nat)) (h : ∀ t (ht : t < full.length), full[t] = (f t, g t)) : ∀ t, t ≤ full.length → plG S n f g u t = endP S n u (full.take t)
  | 0, _ => by simp [plG, endP]
  | t + 1, ht => by
    rw [plG, plG_take full h t (by omega), List.take_succ_eq_append_getElem (by omega), endP_append, h t (by omega)]
    rfl
theorem okP_at {S n : Nat} {T : List Int} {u : Nat × Nat} {full : List (Nat × Nat)} (h : okP S n T u full) {t : Nat} (ht : t < full.length) : OkWay S T (endP S n u (full.take t)) full[t] := by
  rw [show full = full.take t ++ (full[t] :: full.drop (t + 1)) by rw [← List.drop_eq_getElem_cons ht, List.take_append_drop], okP_append] at h
  exact h.2.1
theorem plG_per {S n L : Nat} {f g : Nat → Nat} {u : Nat × Nat} (pf : ∀ t, f (t + L) = f t) (pg : ∀ t, g (t + L) = g t) (h : plG S n f g u L = u) : ∀ t, plG S n f g u (t + L) = plG S n f g u t
  | 0 => by rw [Nat.zero_add, h]; rfl
  | t + 1 => by rw [show t + 1 + L = t + L + 1 by omega, plG, plG, plG_per pf pg h t, pf, pg]
theorem plG_perk {S n L : Nat} {f g : Nat → Nat} {u : Nat × Nat} (pf : ∀ t, f (t + L) = f t) (pg : ∀ t, g (t + L) = g t) (h : plG S n f g u L = u) (t : Nat) : ∀ k, plG S n f g u (t + k * L) = plG S n f g u t
  | 0 => by simp
  | k + 1 => by rw [Nat.add_mul, Nat.one_mul, ← Nat.add_assoc, plG_per pf pg h, plG_perk pf pg h t k]
theorem mod_step (a S c n : Nat) : (a % n * S + c) % n = (a * S + c) % n := by
  rw [Nat.add_mod, Nat.mod_mul_mod, ← Nat.add_mod]
theorem plG_far {S n : Nat} {f g : Nat → Nat} {u : Nat × Nat} (t : Nat) : ∀ k, plG S n f g u (t + (k + 1)) = (((plG S n f g u t).1 * S ^ (k + 1) + hn S f t (k + 1)) % n, ((plG S n f g u t).2 * S ^ (k + 1) + hn S g t (k + 1)) % n)
  | 0 => by
    show stepP S n (plG S n f g u t) (f t, g t) = _
    simp [stepP, hn]
  | k + 1 => by
    show stepP S n (plG S n f g u (t + (k + 1))) (f (t + (k + 1)), g (t + (k + 1))) = _
    rw [plG_far t k]
    unfold stepP
    simp only
    rw [mod_step, mod_step, show hn S f t (k + 1 + 1) = hn S f t (k + 1) * S + f (t + (k + 1)) from rfl, show hn S g t (k + 1 + 1) = hn S g t (k + 1) * S + g (t + (k + 1)) from rfl, Nat.add_mul, Nat.add_mul, Nat.mul_assoc, Nat.mul_assoc, ← Nat.pow_succ, Nat.add_assoc, Nat.add_assoc]
theorem plG_at {S m : Nat} {f g : Nat → Nat} {u : Nat × Nat} (hf : ∀ t, f t < S) (hg : ∀ t, g t < S) (hu : u.1 < S ^ m ∧ u.2 < S ^ m) (t : Nat) (hS : 0 < S) : plG S (S ^ m) f g u (t + m) = (hn S f t m, hn S g t m) := by
  cases m with
  | zero =>
    have : ∀ v : Nat × Nat, v.1 < 1 → v.2 < 1 → v = (0, 0) := fun v h1 h2 => Prod.ext (by simp; omega) (by simp; omega)
    show plG S (S ^ 0) f g u t = (0, 0)
    cases t with
    | zero => exact this u (by simpa using hu.1) (by simpa using hu.2)
    | succ t =>
      have hl := stepP_lt (S := S) (n := S ^ 0) (by simp) (plG S (S ^ 0) f g u t) (f t, g t)
      exact this (stepP S (S ^ 0) (plG S (S ^ 0) f g u t) (f t, g t)) (Nat.lt_of_lt_of_eq hl.1 (Nat.pow_zero S)) (Nat.lt_of_lt_of_eq hl.2 (Nat.pow_zero S))
  | succ m =>
    rw [plG_far t m, Nat.mul_comm, Nat.mul_add_mod, Nat.mod_eq_of_lt (hn_lt hf _ _), Nat.mul_comm, Nat.mul_add_mod, Nat.mod_eq_of_lt (hn_lt hg _ _)]
theorem same_step {S R : Nat} {T xs ys : List Int} (hx : cellsOk S xs) (hy : cellsOk S ys) (hl : xs.length = ys.length) (h : ∀ i, T.getD (hn S (ringF xs) i (2 * R + 1)) 0 = T.getD (hn S (ringF ys) i (2 * R + 1)) 0) : stepL S R T xs = stepL S R T ys := by
  unfold stepL
  rw [← hl]
  apply List.map_congr_left
  intro j hj
  have jl := List.mem_range.1 hj
  have h0 : 0 < xs.length := by omega
  have hR : R ≤ R * xs.length := Nat.le_mul_of_pos_right _ h0
  obtain ⟨i', hi'⟩ : ∃ i', i' + R = j + R * xs.length := ⟨j + R * xs.length - R, by omega⟩
  rw [wn_hn hx h0 hi', wn_hn hy (by omega) (by rw [← hl]; exact hi'), Int.toNat_natCast, Int.toNat_natCast]
  exact h i'
theorem ring_rings {S R : Nat} {T : List Int} {u : Nat × Nat} {full : List (Nat × Nat)} (hS : 0 < S) (h : IsRing S (S ^ (2 * R)) T u full) :
    cellsOk S (full.map fun y => (y.1 : Int)) ∧ cellsOk S (full.map fun y => (y.2 : Int)) ∧ stepL S R T (full.map fun y => (y.1 : Int)) = stepL S R T (full.map fun y => (y.2 : Int)) ∧ (full.map fun y => (y.1 : Int)) ≠ (full.map fun y => (y.2 : Int)) := by
  obtain ⟨h1, h2, h3, ⟨cs, d, e, hw⟩, _⟩ := h
  obtain ⟨q1, q2⟩ := wantRf_is.1 hw
  have hL : 0 < full.length := by rw [e]; simp
  have hin : ∀ y ∈ full, y.1 < S ∧ y.2 < S := fun y hy => by
    obtain ⟨t, ht, rfl⟩ := List.getElem_of_mem hy
    have := okP_at h3 ht
    exact ⟨this.1, this.2.1⟩
  have ox : cellsOk S (full.map fun y => (y.1 : Int)) := fun z hz => by
    obtain ⟨y, hy, rfl⟩ := List.mem_map.1 hz
    have := hin y hy
    omega
  have oy : cellsOk S (full.map fun y => (y.2 : Int)) := fun z hz => by
    obtain ⟨y, hy, rfl⟩ := List.mem_map.1 hz
    have := hin y hy
    omega
  obtain ⟨xs, hxs⟩ : ∃ xs : List Int, (full.map fun y => (y.1 : Int)) = xs := ⟨_, rfl⟩
  obtain ⟨ys, hys⟩ : ∃ ys : List Int, (full.map fun y => (y.2 : Int)) = ys := ⟨_, rfl⟩
  have lx : xs.length = full.length := by rw [← hxs]; simp
  have ly : ys.length = full.length := by rw [← hys]; simp
  have hfg : ∀ t (ht : t < full.length), full[t] = (ringF xs t, ringF ys t) := fun t ht => by
    unfold ringF
    rw [lx, ly, Nat.mod_eq_of_lt ht, ← hxs, ← hys]
    simp [List.getD, ht]
  rw [hxs] at ox ⊢
  rw [hys] at oy ⊢
  have hf := ringF_lt ox (by omega : 0 < xs.length)
  have hg := ringF_lt oy (by omega : 0 < ys.length)
  have pf : ∀ t, ringF xs (t + full.length) = ringF xs t := by rw [← lx]; exact ringF_per xs
  have pg : ∀ t, ringF ys (t + full.length) = ringF ys t := by rw [← ly]; exact ringF_per ys
  have hu : plG S (S ^ (2 * R)) (ringF xs) (ringF ys) u full.length = u := by
    rw [plG_take full hfg _ (Nat.le_refl _), List.take_length, e, endP_append]
    exact q1
  have hway : ∀ t, OkWay S T (plG S (S ^ (2 * R)) (ringF xs) (ringF ys) u t) (ringF xs t, ringF ys t) := fun t => by
    have ht := Nat.mod_lt t hL
    have et : t % full.length + t / full.length * full.length = t := by rw [Nat.mul_comm]; exact Nat.mod_add_div t full.length
    rw [← et, plG_perk pf pg hu, per_mul pf, per_mul pg, plG_take full hfg _ (by omega), ← hfg _ ht]
    exact okP_at h3 ht
  refine ⟨ox, oy, same_step ox oy (by omega) fun i => ?_, fun q => ?_⟩
  · have := (hway (i + 2 * R)).2.2
    rw [plG_at hf hg ⟨by omega, h2⟩ i hS] at this
    exact this
  · have hl : cs.length < full.length := by rw [e]; simp
    have := hfg cs.length hl
    rw [q] at this
    have ed : full[cs.length] = d := by simp [e]
    rw [ed] at this
    exact q2 (by rw [this])
/-- Not both come again themselves. -/
theorem not_both {S R : Nat} {T xs ys : List Int} (e : stepL S R T xs = stepL S R T ys) (hne : xs ≠ ys) {p q : Nat} (h1 : First (fun n => runL S R T n xs) 0 p) (h2 : First (fun n => runL S R T n ys) 0 q) : False := by
  have a := h1.mul (runL_makes S R T xs) q 0
  have b := h2.mul (runL_makes S R T ys) p 0
  simp only [Nat.zero_add] at a b
  rw [Nat.mul_comm q p] at a
  have c : ∀ k, runL S R T (k + 1) xs = runL S R T (k + 1) ys := by
    intro k
    induction k with
    | zero => exact e
    | succ k ih => show stepL S R T (runL S R T (k + 1) xs) = stepL S R T (runL S R T (k + 1) ys); rw [ih]
  have hp := Nat.mul_pos h1.pos h2.pos
  obtain ⟨k, hk⟩ : ∃ k, p * q = k + 1 := ⟨p * q - 1, by omega⟩
  rw [hk] at a b
  apply hne
  have a' : xs = runL S R T (k + 1) xs := a
  have b' : ys = runL S R T (k + 1) ys := b
  rw [a', b']
  exact c k
end Go.Proofs.Ytdhbdkkchobinab

namespace Go.Proofs.Ytdhbdkkchobinab
set_option linter.unusedVariables false

def digit (xs : List Int) (i : Nat) : Nat := (xs.getD i 0).toNat
def keyAt (xs : List Int) (k : Nat) : Nat := digit xs (4 * k) + 4 * digit xs (4 * k + 1) + 16 * digit xs (4 * k + 2) + 64 * digit xs (4 * k + 3)
def keyB (xs : List Int) : List UInt8 := (List.range ((xs.length + 3) / 4)).map fun k => UInt8.ofNat (keyAt xs k)
theorem digit_lt {S : Nat} {xs : List Int} (hS : S ≤ 4) (h : cellsOk S xs) (i : Nat) : digit xs i < 4 := by
  unfold digit
  by_cases hi : i < xs.length
  · have := cellsOk_at h hi
    omega
  · rw [List.getD_eq_getElem?_getD, List.getElem?_eq_none (by omega)]
    decide
theorem keyAt_lt {S : Nat} {xs : List Int} (hS : S ≤ 4) (h : cellsOk S xs) (k : Nat) : keyAt xs k < 256 := by
  have h0 := digit_lt hS h (4 * k)
  have h1 := digit_lt hS h (4 * k + 1)
  have h2 := digit_lt hS h (4 * k + 2)
  have h3 := digit_lt hS h (4 * k + 3)
  unfold keyAt
  omega
theorem keyB_inj {S : Nat} {xs ys : List Int} (hS : S ≤ 4) (hx : cellsOk S xs) (hy : cellsOk S ys) (hl : xs.length = ys.length) (e : keyB xs = keyB ys) : xs = ys := by
  apply List.ext_getElem hl
  intro i h1 h2
  have hk : i / 4 < (xs.length + 3) / 4 := by omega
  have e1 := congrArg (fun l : List UInt8 => (l.getD (i / 4) 0).toNat) e
  have e2 : keyAt xs (i / 4) = keyAt ys (i / 4) := by
    have a := keyAt_lt hS hx (i / 4)
    have b := keyAt_lt hS hy (i / 4)
    have hk' : i / 4 < (ys.length + 3) / 4 := by omega
    simp [keyB, List.getD, hk, hk'] at e1
    omega
  have d : digit xs i = digit ys i := by
    have x0 := digit_lt hS hx (4 * (i / 4))
    have x1 := digit_lt hS hx (4 * (i / 4) + 1)
    have x2 := digit_lt hS hx (4 * (i / 4) + 2)
    have x3 := digit_lt hS hx (4 * (i / 4) + 3)
    have y0 := digit_lt hS hy (4 * (i / 4))
    have y1 := digit_lt hS hy (4 * (i / 4) + 1)
    have y2 := digit_lt hS hy (4 * (i / 4) + 2)
    have y3 := digit_lt hS hy (4 * (i / 4) + 3)
    unfold keyAt at e2
    have hi : i = 4 * (i / 4) ∨ i = 4 * (i / 4) + 1 ∨ i = 4 * (i / 4) + 2 ∨ i = 4 * (i / 4) + 3 := by omega
    generalize i / 4 = q at *
    rcases hi with rfl | rfl | rfl | rfl <;> omega
  have a := cellsOk_at hx h1
  have b := cellsOk_at hy h2
  have c1 : xs.getD i 0 = xs[i] := by simp [List.getD, h1]
  have c2 : ys.getD i 0 = ys[i] := by simp [List.getD, h2]
  unfold digit at d
  rw [c1] at a d
  rw [c2] at b d
  omega
end Go.Proofs.Ytdhbdkkchobinab

namespace Go.Proofs.Ytdhbdkkchobinab
open Go.RowKit
set_option linter.unusedVariables false

/-- At block g n bytes of the call's own. -/
structure Pk (w0 w : World) (g n : Nat) (F : Nat → Nat) : Prop where
  below : Below w0.heap.size w0 w
  ge : w0.heap.size ≤ g
  lt : g < w.heap.size
  cells : ∀ j, j < n → w.cell? ⟨g, j, none⟩ = some (.int .u8 (F j : Int))
  fz : ∀ j, w.frozen? ⟨g, j, none⟩ = false
theorem Pk.start (w : World) (n : Nat) (F : Nat → Nat) (t : TypeId) (h : ∀ j, F j = 0) : Pk w (w.alloc (.cells (madeCells #[.int .u8 0] n) t)) w.heap.size n F := by
  refine ⟨(Below.refl _ _).alloc (Nat.le_refl _) _, Nat.le_refl _, by simp, fun j hj => ?_, fun j => by simp⟩
  rw [World.cell?_alloc_at _ _ _ _ rfl, h j]
  have hs : j < (madeCells #[.int .u8 0] n).size := by rw [size_madeCells]; exact hj
  have e : (madeCells #[.int .u8 0] n)[j]? = some (.int .u8 0) := by
    rw [Array.getElem?_eq_getElem hs]
    simp [madeCells, Nat.mod_one]
  exact e
theorem Pk.step {w0 w : World} {g n k : Nat} {F G : Nat → Nat} (h : Pk w0 w g n F) (hk : k < n) {v : Value} (hv : v = .int .u8 (G k : Int)) (hG : ∀ j, j ≠ k → G j = F j) : Pk w0 (w.setCell ⟨g, k, none⟩ v).drew g n G := by
  subst hv
  refine ⟨(h.below.setCell h.ge _).drew, h.ge, ?_, fun j hj => ?_, fun j => ?_⟩
  · show g < (w.setCell _ _).heap.size
    rw [World.size_setCell]; exact h.lt
  · show (w.setCell _ _).cell? _ = _
    by_cases e : j = k
    · subst e; exact World.cell?_setCell_same _ _ _ (h.cells j hj)
    · rw [World.cell?_setCell_other _ ⟨g, k, none⟩ ⟨g, j, none⟩ _ (fun q => e (congrArg Addr.off q).symm), hG j e]; exact h.cells j hj
  · show (w.setCell _ _).frozen? _ = _
    rw [World.frozen?_setCell]; exact h.fz j
theorem digit_take (xs : List Int) (i j : Nat) : digit (xs.take i) j = if j < i then digit xs j else 0 := by
  unfold digit
  rw [List.getD_eq_getElem?_getD, List.getElem?_take]
  split
  · rw [List.getD_eq_getElem?_getD]
  · rfl
theorem or_small : ∀ A : Nat, A < 64 → ∀ x : Nat, x < 4 → (A < 1 → bits .or .u8 (A : Int) ((x : Int) * 1) = ((A + x : Nat) : Int)) ∧ (A < 4 → bits .or .u8 (A : Int) ((x : Int) * 4) = ((A + 4 * x : Nat) : Int)) ∧ (A < 16 → bits .or .u8 (A : Int) ((x : Int) * 16) = ((A + 16 * x : Nat) : Int)) ∧ bits .or .u8 (A : Int) ((x : Int) * 64) = ((A + 64 * x : Nat) : Int) := by decide +kernel
theorem Pk.string {w0 w : World} {g cap : Nat} {xs : List Int} (hok : cellsOk ((4 : Nat) : Int) xs) (h : Pk w0 w g ((xs.length + 3) / 4) (keyAt xs)) :
    (convert 61 9 (.slice (some ⟨g, 0, none⟩) ((xs.length + 3) / 4) cap)).run Try.prog w = .ok (.string ⟨(keyB xs).toArray⟩) w := by
  have := run_convert_bytes_back (P := Try.prog) w 61 9 5 ⟨g, 0, none⟩ cap (keyB xs) Try.underlying61 Try.underlying5 Try.underlying9 (fun j hj => by
    have hadd : (⟨g, 0, none⟩ : Addr).add j = ⟨g, j, none⟩ := by unfold Addr.add; split <;> simp_all
    have hj' : j < (xs.length + 3) / 4 := by simpa [keyB] using hj
    have hlt := keyAt_lt (Nat.le_refl 4) hok j
    rw [hadd, h.cells j hj']
    simp [keyB, Nat.mod_eq_of_lt hlt])
  simpa [keyB] using this
theorem key_next (xs : List Int) (i q r : Nat) (hr : r < 4) (hi : i = 4 * q + r) (j : Nat) : keyAt (xs.take (i + 1)) j = if j = q then keyAt (xs.take i) q + 4 ^ r * digit xs i else keyAt (xs.take i) j := by
  subst hi
  unfold keyAt
  simp only [digit_take]
  have h4 : r = 0 ∨ r = 1 ∨ r = 2 ∨ r = 3 := by omega
  by_cases e : j = q
  · subst e
    rw [if_pos rfl]
    rcases h4 with rfl | rfl | rfl | rfl <;> (try simp only [Nat.add_zero]) <;> (repeat' split) <;> omega
  · rw [if_neg e]
    rcases Nat.lt_or_gt_of_ne e with c | c
    · rw [if_pos (by omega), if_pos (by omega), if_pos (by omega), if_pos (by omega), if_pos (by omega), if_pos (by omega), if_pos (by omega), if_pos (by omega)]
    · rw [if_neg (by omega), if_neg (by omega), if_neg (by omega), if_neg (by omega), if_neg (by omega), if_neg (by omega), if_neg (by omega), if_neg (by omega)]
theorem key_low (xs : List Int) (hd : ∀ j, digit xs j < 4) (i q r : Nat) (hr : r < 4) (hi : i = 4 * q + r) : keyAt (xs.take i) q < 4 ^ r := by
  subst hi
  unfold keyAt
  simp only [digit_take]
  have h0 := hd (4 * q)
  have h1 := hd (4 * q + 1)
  have h2 := hd (4 * q + 2)
  have h4 : r = 0 ∨ r = 1 ∨ r = 2 ∨ r = 3 := by omega
  rcases h4 with rfl | rfl | rfl | rfl <;> (repeat' split) <;> omega

set_option maxRecDepth 100000 in
set_option maxHeartbeats 3200000 in
theorem keyOf_any (xs : List Int) (a : Option Addr) (c : Nat) (w : World) (hA : ArgP w xs a xs.length c) (hok : cellsOk ((4 : Nat) : Int) xs) (hl : xs.length ≤ 1000) :
    Calls Try.prog 11 #[.slice a xs.length c] w fun e w' => e = .returned (.string ⟨(keyB xs).toArray⟩) ∧ Below w.heap.size w w' := by
  have AA := hide' hA
  have OK := hide' hok
  have HD := hide' (fun j => digit_lt (Nat.le_refl 4) hok j)
  obtain ⟨n, hn⟩ : ∃ n, xs.length = n := ⟨_, rfl⟩
  have HN := hide' hn
  rw [hn] at hl ⊢
  obtain ⟨m, hm⟩ : ∃ m, (n + 3) / 4 = m := ⟨_, rfl⟩
  have HM := hide' hm
  have hm1 : m ≤ 1000 := by omega
  have q3 : ((n : Int) + 3).tdiv 4 = (m : Int) := by rw [Int.tdiv_eq_ediv_of_nonneg (by omega)]; omega
  have hmk := run_make_row' (P := Try.prog) 61 5 (.int .u8 0) 1 Try.underlying61 info_u8 rfl .i64 .i64 m (by omega) (by omega)
  have S := hide' (Pk.start w m (keyAt (xs.take 0)) 5 (fun j => by simp [keyAt, digit]))
  clear hA hok hn hm
  go_enter Try.func11, Try.ntmps11
  go_wp2
  go_loopw [13] (fun kv wr => ∃ i : Nat, kv = .int .i64 (i : Int) ∧ i ≤ n ∧ Pk w wr w.heap.size m (keyAt (xs.take i))) (fun kv _ => n - (intOf kv).toNat)
  case atStart => exact ⟨0, rfl, by omega, S.out⟩
  case round =>
    obtain ⟨i, rfl, hi, pk⟩ := hrel
    have PK := hide' pk
    clear hmk S q3 pk
    by_cases d : (i : Int) < (n : Int)
    · obtain ⟨q, r, hr, e4⟩ : ∃ q r, r < 4 ∧ i = 4 * q + r := ⟨i / 4, i % 4, by omega, by omega⟩
      have E4 := hide' e4
      have hqm : q < m := by have := HM.out; omega
      obtain ⟨g, off, rfl, hc⟩ := (AA.out.below PK.out.below).at (k := i) (by have := HN.out; omega)
      have hk := PK.out.cells q hqm
      have hf := PK.out.fz q
      have LO := hide' (key_low xs HD.out i q r hr e4)
      have NX := hide' (key_next xs i q r hr e4)
      obtain ⟨x, hx⟩ : ∃ x : Nat, xs.getD i 0 = (x : Int) := ⟨(xs.getD i 0).toNat, by have := cellsOk_at OK.out (k := i) (by have := HN.out; omega); omega⟩
      have HX := hide' (show digit xs i = x by unfold digit; rw [hx]; simp)
      have x4 : x < 4 := by have := HD.out i; rw [HX.out] at this; exact this
      rw [hx] at hc
      obtain ⟨A, hA⟩ : ∃ A, keyAt (xs.take i) q = A := ⟨_, rfl⟩
      have HA := hide' hA
      rw [hA] at hk LO
      have q1 : (i : Int).tmod 4 = (r : Int) := by rw [Int.tmod_eq_emod_of_nonneg (by omega)]; omega
      have q2 : (i : Int).tdiv 4 = (q : Int) := by rw [Int.tdiv_eq_ediv_of_nonneg (by omega)]; omega
      have A64 : A < 64 := by
        have h1 := LO.out
        have h2 : 4 ^ r ≤ 4 ^ 3 := Nat.pow_le_pow_right (by omega) (by omega)
        omega
      have ORS := hide' (or_small A A64 x x4)
      clear hA hx e4
      have h4 : r = 0 ∨ r = 1 ∨ r = 2 ∨ r = 3 := by omega
      rcases h4 with rfl | rfl | rfl | rfl
      all_goals
        go_wp2
        go_region
      all_goals
        go_wp2
      all_goals
        refine ⟨⟨i + 1, by go_num, by omega, PK.out.step hqm ?_ (fun j hj => by rw [NX.out j, if_neg hj])⟩, by simp [intOf]; omega⟩
        rw [NX.out q, if_pos rfl, HA.out, HX.out]
        have h1 := LO.out
        obtain ⟨o1, o2, o3, o4⟩ := ORS.out
        first
          | (have o := o1 (by simpa using h1); simp only [Int.mul_one] at o; rw [o]; simp)
          | (rw [o2 (by simpa using h1)])
          | (rw [o3 (by simpa using h1)])
          | (rw [o4])
    · have K := hide' (show i = n by omega)
      have ff := PK.out
      rw [K.out, ← HN.out, List.take_length] at ff
      rw [← HM.out, ← HN.out] at ff
      have hcv := ff.string (cap := m) OK.out
      rw [HN.out, HM.out] at hcv
      clear ff
      go_wp2
      go_ret
      exact ⟨rfl, PK.out.below⟩
end Go.Proofs.Ytdhbdkkchobinab

