/-
  What the last text of this claim leans on, part 19: Se2, Se3.
-/
import Derived.Test.YtjjdjdodhedihaaDoorJl17
import Derived.Test.YtjjdjdodhedihaaDoorJl18
namespace Go.Proofs.YtjjdjdodhedihaaDoor
set_option linter.unusedVariables false

/-- Where the cells of a window stand. -/
def shF (R a : Nat) (i : Nat) : Int := ((i : Int) - R) * a
def coefF (cs : List Int) (i : Nat) : Int := cs.getD i 0
/-- A step of a sum, its cells so far apart. -/
def stepA (S R a : Nat) (cs xs : List Int) : List Int := (List.range xs.length).map fun (j : Nat) => opF (coefF cs) (shF R a) (2 * R + 1) (rat xs) (j : Int) % S
theorem stepA_length (S R a : Nat) (cs xs : List Int) : (stepA S R a cs xs).length = xs.length := by simp [stepA]
theorem stepA_ok {S R a : Nat} {cs xs : List Int} (hS : 0 < S) : cellsOk S (stepA S R a cs xs) := fun x hx => by
  obtain ⟨j, _, rfl⟩ := List.mem_map.1 hx
  exact ⟨Int.emod_nonneg _ (by omega), Int.emod_lt_of_pos _ (by omega)⟩
theorem rat_per (xs : List Int) : Per xs.length (rat xs) := fun j => by unfold rat; rw [Int.add_emod_right]
theorem rat_stepA {S R a : Nat} {cs xs : List Int} (hS : 0 < S) (h0 : 0 < xs.length) : Eqv S (rat (stepA S R a cs xs)) (opF (coefF cs) (shF R a) (2 * R + 1) (rat xs)) := fun j => by
  obtain ⟨k, hk⟩ : ∃ k : Nat, j % (xs.length : Int) = (k : Int) := ⟨(j % (xs.length : Int)).toNat, by have := Int.emod_nonneg j (show (xs.length : Int) ≠ 0 by omega); omega⟩
  have kl : k < xs.length := by have := Int.emod_lt_of_pos j (show (0 : Int) < xs.length by omega); omega
  have e1 : rat (stepA S R a cs xs) j = opF (coefF cs) (shF R a) (2 * R + 1) (rat xs) (k : Int) % S := by
    unfold rat
    rw [stepA_length, hk, Int.toNat_natCast]
    unfold stepA
    rw [List.getD_eq_getElem?_getD, List.getElem?_map, List.getElem?_range kl]
    rfl
  have e2 : opF (coefF cs) (shF R a) (2 * R + 1) (rat xs) j = opF (coefF cs) (shF R a) (2 * R + 1) (rat xs) (k : Int) := by
    have := ((rat_per xs).op (coefF cs) (shF R a) (2 * R + 1)).all (k : Int) (j / (xs.length : Int))
    rw [← this, ← hk, Int.mul_comm, Int.emod_add_mul_ediv]
  rw [e1, e2]
  refine ⟨-(opF (coefF cs) (shF R a) (2 * R + 1) (rat xs) (k : Int) / S), ?_⟩
  have := Int.emod_add_mul_ediv (opF (coefF cs) (shF R a) (2 * R + 1) (rat xs) (k : Int)) S
  rw [Int.mul_neg]
  omega
def manyA (S R a : Nat) (cs : List Int) : Nat → List Int → List Int
  | 0, xs => xs
  | n + 1, xs => manyA S R a cs n (stepA S R a cs xs)
theorem manyA_length (S R a : Nat) (cs : List Int) : ∀ (n : Nat) (xs : List Int), (manyA S R a cs n xs).length = xs.length
  | 0, xs => rfl
  | n + 1, xs => by rw [manyA, manyA_length S R a cs n, stepA_length]
theorem manyA_ok {S R a : Nat} {cs : List Int} (hS : 0 < S) : ∀ (n : Nat) (xs : List Int), cellsOk S xs → cellsOk S (manyA S R a cs n xs)
  | 0, xs, h => h
  | n + 1, xs, h => manyA_ok hS n _ (stepA_ok hS)
theorem rat_manyA {S R a : Nat} {cs : List Int} (hS : 0 < S) : ∀ (n : Nat) (xs : List Int), 0 < xs.length → Eqv S (rat (manyA S R a cs n xs)) (timesF (coefF cs) (shF R a) (2 * R + 1) n (rat xs))
  | 0, xs, h => Eqv.refl _ _
  | n + 1, xs, h => (rat_manyA hS n (stepA S R a cs xs) (by rw [stepA_length]; exact h)).trans (Eqv.times _ _ _ n (rat_stepA hS h))
/-- Two rings that are alike but for multiples of S are one. -/
theorem ring_only {S : Nat} {xs ys : List Int} (hx : cellsOk S xs) (hy : cellsOk S ys) (hl : xs.length = ys.length) (h : Eqv S (rat xs) (rat ys)) : xs = ys := by
  apply List.ext_getElem hl
  intro k h1 h2
  obtain ⟨z, hz⟩ := h (k : Int)
  have a1 : rat xs (k : Int) = xs[k] := by unfold rat; rw [Int.emod_eq_of_lt (by omega) (by omega), Int.toNat_natCast, List.getD_eq_getElem?_getD, List.getElem?_eq_getElem h1]; rfl
  have a2 : rat ys (k : Int) = ys[k] := by unfold rat; rw [Int.emod_eq_of_lt (by omega) (by omega), Int.toNat_natCast, List.getD_eq_getElem?_getD, List.getElem?_eq_getElem h2]; rfl
  rw [a1, a2] at hz
  have b1 := hx xs[k] (List.getElem_mem h1)
  have b2 := hy ys[k] (List.getElem_mem h2)
  have z0 : z = 0 := by
    rcases Int.lt_trichotomy z 0 with c | c | c
    · have : (S : Int) * z ≤ (S : Int) * (-1) := Int.mul_le_mul_of_nonneg_left (by omega) (by omega)
      omega
    · exact c
    · have : (S : Int) * 1 ≤ (S : Int) * z := Int.mul_le_mul_of_nonneg_left (by omega) (by omega)
      omega
  rw [hz, z0]
  omega
/-- What is still to go, and how far apart. -/
def JumpInv (S R : Nat) (cs xs : List Int) (n0 n a : Nat) (ring : List Int) : Prop := cellsOk S ring ∧ ring.length = xs.length ∧ Eqv S (timesF (coefF cs) (shF R 1) (2 * R + 1) n0 (rat xs)) (timesF (coefF cs) (shF R a) (2 * R + 1) n (rat ring))
theorem JumpInv.start {S R : Nat} {cs xs : List Int} (h : cellsOk S xs) (n : Nat) : JumpInv S R cs xs n n 1 xs := ⟨h, rfl, Eqv.refl _ _⟩
theorem JumpInv.fin {S R : Nat} {cs xs : List Int} {n0 a : Nat} {ring : List Int} (hS : 0 < S) (hx : cellsOk S xs) (h0 : 0 < xs.length) (h : JumpInv S R cs xs n0 0 a ring) : ring = manyA S R 1 cs n0 xs :=
  ring_only h.1 (manyA_ok hS n0 xs hx) (by rw [manyA_length]; exact h.2.1) (h.2.2.symm.trans (rat_manyA hS n0 xs h0).symm)
theorem JumpInv.next {S R p : Nat} {cs xs : List Int} {n0 n a : Nat} {ring : List Int} (hp : Prm S p) (h0 : 0 < xs.length) (h : JumpInv S R cs xs n0 n a ring) : JumpInv S R cs xs n0 ((n - n % S) / p) (a * p % xs.length) (manyA S R a cs (n % S) ring) := by
  have hS : 0 < S := by rcases hp with ⟨rfl, _⟩ | ⟨rfl, _⟩ | ⟨rfl, _⟩ <;> omega
  obtain ⟨h1, h2, h3⟩ := h
  have hr : 0 < ring.length := by omega
  refine ⟨manyA_ok hS _ _ h1, by rw [manyA_length]; exact h2, h3.trans ?_⟩
  have st := frobStep hp (coefF cs) (shF R a) (2 * R + 1) n (rat ring)
  have back : Eqv S (timesF (coefF cs) (fun i => (p : Int) * shF R a i) (2 * R + 1) ((n - n % S) / p) (timesF (coefF cs) (shF R a) (2 * R + 1) (n % S) (rat ring))) (timesF (coefF cs) (fun i => (p : Int) * shF R a i) (2 * R + 1) ((n - n % S) / p) (rat (manyA S R a cs (n % S) ring))) :=
    Eqv.times _ _ _ _ (rat_manyA hS (n % S) ring hr).symm
  have sh : timesF (coefF cs) (fun i => (p : Int) * shF R a i) (2 * R + 1) ((n - n % S) / p) (rat (manyA S R a cs (n % S) ring)) = timesF (coefF cs) (shF R (a * p % xs.length)) (2 * R + 1) ((n - n % S) / p) (rat (manyA S R a cs (n % S) ring)) := by
    apply timesF_per (L := (manyA S R a cs (n % S) ring).length)
    · intro i
      rw [manyA_length, h2]
      refine ⟨((i : Int) - R) * ((a * p / xs.length : Nat) : Int), ?_⟩
      unfold shF
      have e : ((a * p % xs.length : Nat) : Int) + ((a * p / xs.length : Nat) : Int) * (xs.length : Int) = (a : Int) * (p : Int) := by
        have h := Nat.mod_add_div (a * p) xs.length
        have h' : ((a * p % xs.length + xs.length * (a * p / xs.length) : Nat) : Int) = ((a * p : Nat) : Int) := congrArg _ h
        rw [Int.natCast_add, Int.natCast_mul xs.length, Int.natCast_mul a p] at h'
        rw [← h', Int.mul_comm (xs.length : Int)]
      rw [Int.mul_assoc ((i : Int) - R), ← Int.mul_add, e, Int.mul_comm (p : Int), Int.mul_assoc]
    · exact rat_per _
  rw [sh] at back
  exact st.trans back
end Go.Proofs.YtjjdjdodhedihaaDoor

namespace Go.Proofs.YtjjdjdodhedihaaDoor
set_option linter.unusedVariables false

theorem wn_hnF {S : Nat} {F : Nat → Int} {f : Nat → Nat} (h : ∀ t, F t = ((f t : Nat) : Int)) : ∀ m, wn (S : Int) F 0 m = ((hn S f 0 m : Nat) : Int)
  | 0 => rfl
  | m + 1 => by
    rw [wn, wn_hnF h m, hn, h, Nat.zero_add]
    push_cast
    rfl
theorem hn_digit {S : Nat} {f : Nat → Nat} (hS : 0 < S) (hf : ∀ t, f t < S) {m i : Nat} (hi : i < m) : hn S f 0 m / S ^ (m - 1 - i) % S = f i := by
  have e : hn S f 0 (i + 1 + (m - 1 - i)) / S ^ (m - 1 - i) = hn S f 0 (i + 1) := hn_div hS hf 0 (i + 1) (m - 1 - i)
  rw [show i + 1 + (m - 1 - i) = m by omega] at e
  rw [e, hn, Nat.zero_add, Nat.mul_comm, Nat.mul_add_mod, Nat.mod_eq_of_lt (hf i)]
theorem step_sum {S R : Nat} {T xs : List Int} (hL : LineOk S R T) (hx : cellsOk S xs) (hlin : LinP S R T) : stepL S R T xs = stepA S R 1 (numL S R T) xs := by
  have s2 := hL.s2
  have hS : 0 < S := by omega
  unfold stepL stepA
  apply List.map_congr_left
  intro j hj
  have h0 : 0 < xs.length := by have := List.mem_range.1 hj; omega
  have hf : ∀ t : Nat, rat xs ((j : Int) + t - R) = (((rat xs ((j : Int) + t - R)).toNat : Nat) : Int) := fun t => by
    have := (rat_ok hx h0 ((j : Int) + t - R)).1
    omega
  have hlt : ∀ t : Nat, (rat xs ((j : Int) + t - R)).toNat < S := fun t => by
    have := rat_ok hx h0 ((j : Int) + t - R)
    omega
  rw [wn_hnF (f := fun t => (rat xs ((j : Int) + t - R)).toNat) hf, Int.toNat_natCast]
  have hxl : hn S (fun t => (rat xs ((j : Int) + t - R)).toNat) 0 (2 * R + 1) < T.length := by rw [hL.len]; exact hn_lt hlt _ _
  rw [← hlin _ hxl]
  congr 1
  unfold opF
  apply sumF_ext
  intro i hi
  show (numL S R T).getD i 0 * ((hn S (fun t => (rat xs ((j : Int) + t - R)).toNat) 0 (2 * R + 1) / S ^ (2 * R + 1 - 1 - i) % S : Nat) : Int) = coefF (numL S R T) i * rat xs ((j : Int) + shF R 1 i)
  rw [hn_digit hS hlt hi, ← hf i]
  unfold coefF shF
  rw [show (j : Int) + ((i : Int) - R) * ((1 : Nat) : Int) = (j : Int) + i - R by simp; omega]
theorem run_sum {S R : Nat} {T xs : List Int} (hL : LineOk S R T) (hx : cellsOk S xs) (hlin : LinP S R T) : ∀ n, runL S R T n xs = manyA S R 1 (numL S R T) n xs := by
  have s2 := hL.s2
  have comm : ∀ n ys, cellsOk S ys → runL S R T n (stepL S R T ys) = stepL S R T (runL S R T n ys) := fun n => by
    induction n with
    | zero => intro ys _; rfl
    | succ n ih => intro ys hy; rw [runL, runL, ih ys hy]
  intro n
  induction n generalizing xs with
  | zero => rfl
  | succ n ih =>
    rw [manyA, ← step_sum hL hx hlin, ← ih (stepL_ok (by omega) hL.lenI hL.ok hx), comm n xs hx]
    rfl
end Go.Proofs.YtjjdjdodhedihaaDoor

