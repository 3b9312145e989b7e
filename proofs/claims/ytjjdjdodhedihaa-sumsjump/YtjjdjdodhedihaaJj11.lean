/-
  What the last text of this claim leans on, part 11: Se2, Se3, Oj1, Oj2, Oj3, Oj4, Sf1.
-/
import Derived.Test.YtjjdjdodhedihaaJj10
import Derived.Test.YtjjdjdodhedihaaJj1
import Derived.Test.YtjjdjdodhedihaaJj7
import Derived.Test.YtjjdjdodhedihaaJj8
import Derived.Laws.Bits64b
import Derived.Lib.TrailingZeros
import Derived.Maps.AppendAt
namespace Go.Proofs.Ytjjdjdodhedihaa
set_option linter.unusedVariables false

/-- Where the cells of a window stand. -/
def shF (R a : Nat) (i : Nat) : Int := ((i : Int) - R) * a
def coefF (cs : List Int) (i : Nat) : Int := cs.getD i 0
/-- A step of a sum, its cells so far apart. -/
def stepA (S R a : Nat) (cs xs : List Int) : List Int := (List.range xs.length).map fun (j : Nat) => opF (coefF cs) (shF R a) (2 * R + 1) (rat xs) (j : Int) % S
theorem stepA_length (S R a : Nat) (cs xs : List Int) : (stepA S R a cs xs).length = xs.length := by simp [stepA]
theorem stepA_ok {S R a : Nat} {cs xs : List Int} (hS : 0 < S) : cellsOk S (stepA S R a cs xs) := fun x hx => by
  obtain ⟨j, _, rfl⟩ := List.mem_map.1 hx
  exact ⟨Int.emod_nonneg _ (by omega), Int.emod_lt_of_pos _ (by omega)⟩
theorem rat_per (xs : List Int) : Per xs.length (rat xs) := fun j => by unfold rat; rw [Int.add_emod_right]
theorem rat_stepA {S R a : Nat} {cs xs : List Int} (hS : 0 < S) (h0 : 0 < xs.length) : Eqv S (rat (stepA S R a cs xs)) (opF (coefF cs) (shF R a) (2 * R + 1) (rat xs)) := fun j => by
  obtain ⟨k, hk⟩ : ∃ k : Nat, j % (xs.length : Int) = (k : Int) := ⟨(j % (xs.length : Int)).toNat, by have := Int.emod_nonneg j (show (xs.length : Int) ≠ 0 by omega); omega⟩
  have kl : k < xs.length := by have := Int.emod_lt_of_pos j (show (0 : Int) < xs.length by omega); omega
  have e1 : rat (stepA S R a cs xs) j = opF (coefF cs) (shF R a) (2 * R + 1) (rat xs) (k : Int) % S := by
    unfold rat
    rw [stepA_length, hk, Int.toNat_natCast]
    unfold stepA
    rw [List.getD_eq_getElem?_getD, List.getElem?_map, List.getElem?_range kl]
    rfl
  have e2 : opF (coefF cs) (shF R a) (2 * R + 1) (rat xs) j = opF (coefF cs) (shF R a) (2 * R + 1) (rat xs) (k : Int) := by
    have := ((rat_per xs).op (coefF cs) (shF R a) (2 * R + 1)).all (k : Int) (j / (xs.length : Int))
    rw [← this, ← hk, Int.mul_comm, Int.emod_add_mul_ediv]
  rw [e1, e2]
  refine ⟨-(opF (coefF cs) (shF R a) (2 * R + 1) (rat xs) (k : Int) / S), ?_⟩
  have := Int.emod_add_mul_ediv (opF (coefF cs) (shF R a) (2 * R + 1) (rat xs) (k : Int)) S
  rw [Int.mul_neg]
  omega
def manyA (S R a : Nat) (cs : List Int) : Nat → List Int → List Int
  | 0, xs => xs
  | n + 1, xs => manyA S R a cs n (stepA S R a cs xs)
theorem manyA_length (S R a : Nat) (cs : List Int) : ∀ (n : Nat) (xs : List Int), (manyA S R a cs n xs).length = xs.length
  | 0, xs => rfl
  | n + 1, xs => by rw [manyA, manyA_length S R a cs n, stepA_length]
theorem manyA_ok {S R a : Nat} {cs : List Int} (hS : 0 < S) : ∀ (n : Nat) (xs : List Int), cellsOk S xs → cellsOk S (manyA S R a cs n xs)
  | 0, xs, h => h
  | n + 1, xs, h => manyA_ok hS n _ (stepA_ok hS)
theorem rat_manyA {S R a : Nat} {cs : List Int} (hS : 0 < S) : ∀ (n : Nat) (xs : List Int), 0 < xs.length → Eqv S (rat (manyA S R a cs n xs)) (timesF (coefF cs) (shF R a) (2 * R + 1) n (rat xs))
  | 0, xs, h => Eqv.refl _ _
  | n + 1, xs, h => (rat_manyA hS n (stepA S R a cs xs) (by rw [stepA_length]; exact h)).trans (Eqv.times _ _ _ n (rat_stepA hS h))
/-- Two rings that are alike but for multiples of S are one. -/
theorem ring_only {S : Nat} {xs ys : List Int} (hx : cellsOk S xs) (hy : cellsOk S ys) (hl : xs.length = ys.length) (h : Eqv S (rat xs) (rat ys)) : xs = ys := by
  apply List.ext_getElem hl
  intro k h1 h2
  obtain ⟨z, hz⟩ := h (k : Int)
  have a1 : rat xs (k : Int) = xs[k] := by unfold rat; rw [Int.emod_eq_of_lt (by omega) (by omega), Int.toNat_natCast, List.getD_eq_getElem?_getD, List.getElem?_eq_getElem h1]; rfl
  have a2 : rat ys (k : Int) = ys[k] := by unfold rat; rw [Int.emod_eq_of_lt (by omega) (by omega), Int.toNat_natCast, List.getD_eq_getElem?_getD, List.getElem?_eq_getElem h2]; rfl
  rw [a1, a2] at hz
  have b1 := hx xs[k] (List.getElem_mem h1)
  have b2 := hy ys[k] (List.getElem_mem h2)
  have z0 : z = 0 := by
    rcases Int.lt_trichotomy z 0 with c | c | c
    · have : (S : Int) * z ≤ (S : Int) * (-1) := Int.mul_le_mul_of_nonneg_left (by omega) (by omega)
      omega
    · exact c
    · have : (S : Int) * 1 ≤ (S : Int) * z := Int.mul_le_mul_of_nonneg_left (by omega) (by omega)
      omega
  rw [hz, z0]
  omega
/-- What is still to go, and how far apart. -/
def JumpInv (S R : Nat) (cs xs : List Int) (n0 n a : Nat) (ring : List Int) : Prop := cellsOk S ring ∧ ring.length = xs.length ∧ Eqv S (timesF (coefF cs) (shF R 1) (2 * R + 1) n0 (rat xs)) (timesF (coefF cs) (shF R a) (2 * R + 1) n (rat ring))
theorem JumpInv.start {S R : Nat} {cs xs : List Int} (h : cellsOk S xs) (n : Nat) : JumpInv S R cs xs n n 1 xs := ⟨h, rfl, Eqv.refl _ _⟩
theorem JumpInv.fin {S R : Nat} {cs xs : List Int} {n0 a : Nat} {ring : List Int} (hS : 0 < S) (hx : cellsOk S xs) (h0 : 0 < xs.length) (h : JumpInv S R cs xs n0 0 a ring) : ring = manyA S R 1 cs n0 xs :=
  ring_only h.1 (manyA_ok hS n0 xs hx) (by rw [manyA_length]; exact h.2.1) (h.2.2.symm.trans (rat_manyA hS n0 xs h0).symm)
theorem JumpInv.next {S R p : Nat} {cs xs : List Int} {n0 n a : Nat} {ring : List Int} (hp : Prm S p) (h0 : 0 < xs.length) (h : JumpInv S R cs xs n0 n a ring) : JumpInv S R cs xs n0 ((n - n % S) / p) (a * p % xs.length) (manyA S R a cs (n % S) ring) := by
  have hS : 0 < S := by rcases hp with ⟨rfl, _⟩ | ⟨rfl, _⟩ | ⟨rfl, _⟩ <;> omega
  obtain ⟨h1, h2, h3⟩ := h
  have hr : 0 < ring.length := by omega
  refine ⟨manyA_ok hS _ _ h1, by rw [manyA_length]; exact h2, h3.trans ?_⟩
  have st := frobStep hp (coefF cs) (shF R a) (2 * R + 1) n (rat ring)
  have back : Eqv S (timesF (coefF cs) (fun i => (p : Int) * shF R a i) (2 * R + 1) ((n - n % S) / p) (timesF (coefF cs) (shF R a) (2 * R + 1) (n % S) (rat ring))) (timesF (coefF cs) (fun i => (p : Int) * shF R a i) (2 * R + 1) ((n - n % S) / p) (rat (manyA S R a cs (n % S) ring))) :=
    Eqv.times _ _ _ _ (rat_manyA hS (n % S) ring hr).symm
  have sh : timesF (coefF cs) (fun i => (p : Int) * shF R a i) (2 * R + 1) ((n - n % S) / p) (rat (manyA S R a cs (n % S) ring)) = timesF (coefF cs) (shF R (a * p % xs.length)) (2 * R + 1) ((n - n % S) / p) (rat (manyA S R a cs (n % S) ring)) := by
    apply timesF_per (L := (manyA S R a cs (n % S) ring).length)
    · intro i
      rw [manyA_length, h2]
      refine ⟨((i : Int) - R) * ((a * p / xs.length : Nat) : Int), ?_⟩
      unfold shF
      have e : ((a * p % xs.length : Nat) : Int) + ((a * p / xs.length : Nat) : Int) * (xs.length : Int) = (a : Int) * (p : Int) := by
        have h := Nat.mod_add_div (a * p) xs.length
        have h' : ((a * p % xs.length + xs.length * (a * p / xs.length) : Nat) : Int) = ((a * p : Nat) : Int) := congrArg _ h
        rw [Int.natCast_add, Int.natCast_mul xs.length, Int.natCast_mul a p] at h'
        rw [← h', Int.mul_comm (xs.length : Int)]
      rw [Int.mul_assoc ((i : Int) - R), ← Int.mul_add, e, Int.mul_comm (p : Int), Int.mul_assoc]
    · exact rat_per _
  rw [sh] at back
  exact st.trans back
end Go.Proofs.Ytjjdjdodhedihaa

namespace Go.Proofs.Ytjjdjdodhedihaa
set_option linter.unusedVariables false

theorem wn_hnF {S : Nat} {F : Nat → Int} {f : Nat → Nat} (h : ∀ t, F t = ((f t : Nat) : Int)) : ∀ m, wn (S : Int) F 0 m = ((hn S f 0 m : Nat) : Int)
  | 0 => rfl
  | m + 1 => by
    rw [wn, wn_hnF h m, hn, h, Nat.zero_add]
    push_cast
    rfl
theorem hn_digit {S : Nat} {f : Nat → Nat} (hS : 0 < S) (hf : ∀ t, f t < S) {m i : Nat} (hi : i < m) : hn S f 0 m / S ^ (m - 1 - i) % S = f i := by
  have e : hn S f 0 (i + 1 + (m - 1 - i)) / S ^ (m - 1 - i) = hn S f 0 (i + 1) := hn_div hS hf 0 (i + 1) (m - 1 - i)
  rw [show i + 1 + (m - 1 - i) = m by omega] at e
  rw [e, hn, Nat.zero_add, Nat.mul_comm, Nat.mul_add_mod, Nat.mod_eq_of_lt (hf i)]
theorem step_sum {S R : Nat} {T xs : List Int} (hL : LineOk S R T) (hx : cellsOk S xs) (hlin : LinP S R T) : stepL S R T xs = stepA S R 1 (numL S R T) xs := by
  have s2 := hL.s2
  have hS : 0 < S := by omega
  unfold stepL stepA
  apply List.map_congr_left
  intro j hj
  have h0 : 0 < xs.length := by have := List.mem_range.1 hj; omega
  have hf : ∀ t : Nat, rat xs ((j : Int) + t - R) = (((rat xs ((j : Int) + t - R)).toNat : Nat) : Int) := fun t => by
    have := (rat_ok hx h0 ((j : Int) + t - R)).1
    omega
  have hlt : ∀ t : Nat, (rat xs ((j : Int) + t - R)).toNat < S := fun t => by
    have := rat_ok hx h0 ((j : Int) + t - R)
    omega
  rw [wn_hnF (f := fun t => (rat xs ((j : Int) + t - R)).toNat) hf, Int.toNat_natCast]
  have hxl : hn S (fun t => (rat xs ((j : Int) + t - R)).toNat) 0 (2 * R + 1) < T.length := by rw [hL.len]; exact hn_lt hlt _ _
  rw [← hlin _ hxl]
  congr 1
  unfold opF
  apply sumF_ext
  intro i hi
  show (numL S R T).getD i 0 * ((hn S (fun t => (rat xs ((j : Int) + t - R)).toNat) 0 (2 * R + 1) / S ^ (2 * R + 1 - 1 - i) % S : Nat) : Int) = coefF (numL S R T) i * rat xs ((j : Int) + shF R 1 i)
  rw [hn_digit hS hlt hi, ← hf i]
  unfold coefF shF
  rw [show (j : Int) + ((i : Int) - R) * ((1 : Nat) : Int) = (j : Int) + i - R by simp; omega]
theorem run_sum {S R : Nat} {T xs : List Int} (hL : LineOk S R T) (hx : cellsOk S xs) (hlin : LinP S R T) : ∀ n, runL S R T n xs = manyA S R 1 (numL S R T) n xs := by
  have s2 := hL.s2
  have comm : ∀ n ys, cellsOk S ys → runL S R T n (stepL S R T ys) = stepL S R T (runL S R T n ys) := fun n => by
    induction n with
    | zero => intro ys _; rfl
    | succ n ih => intro ys hy; rw [runL, runL, ih ys hy]
  intro n
  induction n generalizing xs with
  | zero => rfl
  | succ n ih =>
    rw [manyA, ← step_sum hL hx hlin, ← ih (stepL_ok (by omega) hL.lenI hL.ok hx), comm n xs hx]
    rfl
/-- Words that are added become what they become, added. -/
theorem stepA_add {S R a : Nat} {cs xs ys zs : List Int} (hS : 0 < S) (lx : xs.length = zs.length) (ly : ys.length = zs.length) (h : ∀ j, rat zs j % S = (rat xs j + rat ys j) % S) (h0 : 0 < zs.length) : ∀ j, rat (stepA S R a cs zs) j % S = (rat (stepA S R a cs xs) j + rat (stepA S R a cs ys) j) % S := fun j => by
  have e : Eqv S (rat zs) (fun x => rat xs x + rat ys x) := fun x => by
    refine ⟨rat zs x / S - (rat xs x + rat ys x) / S, ?_⟩
    have h1 := Int.emod_add_mul_ediv (rat zs x) S
    have h2 := Int.emod_add_mul_ediv (rat xs x + rat ys x) S
    have := h x
    rw [Int.mul_sub]
    show rat zs x = rat xs x + rat ys x + _
    omega
  obtain ⟨z1, e1⟩ := rat_stepA (a := a) (cs := cs) (R := R) hS h0 j
  obtain ⟨z2, e2⟩ := rat_stepA (a := a) (cs := cs) (R := R) (xs := xs) hS (by omega) j
  obtain ⟨z3, e3⟩ := rat_stepA (a := a) (cs := cs) (R := R) (xs := ys) hS (by omega) j
  obtain ⟨z4, e4⟩ := e.op (coefF cs) (shF R a) (2 * R + 1) j
  rw [opF_add (coefF cs) (shF R a) (rat xs) (rat ys)] at e4
  rw [e1, e2, e3, e4, show opF (coefF cs) (shF R a) (2 * R + 1) (rat xs) j + opF (coefF cs) (shF R a) (2 * R + 1) (rat ys) j + (S : Int) * z4 + (S : Int) * z1 = (opF (coefF cs) (shF R a) (2 * R + 1) (rat xs) j + (S : Int) * z2 + (opF (coefF cs) (shF R a) (2 * R + 1) (rat ys) j + (S : Int) * z3)) + (S : Int) * (z4 + z1 - z2 - z3) by rw [Int.mul_sub, Int.mul_sub, Int.mul_add]; omega, Int.add_mul_emod_self_left]
end Go.Proofs.Ytjjdjdodhedihaa

namespace Go.Proofs.Ytjjdjdodhedihaa
set_option linter.unusedVariables false

/-- The number of so many bits. -/
def bitsN (f : Nat → Bool) : Nat → Nat
  | 0 => 0
  | k + 1 => bitsN f k + if f k then 2 ^ k else 0
theorem bitsN_lt (f : Nat → Bool) : ∀ k, bitsN f k < 2 ^ k
  | 0 => by simp [bitsN]
  | k + 1 => by
    have := bitsN_lt f k
    rw [bitsN, Nat.pow_succ]
    split <;> omega
theorem testBit_bitsN (f : Nat → Bool) : ∀ k q, (bitsN f k).testBit q = (decide (q < k) && f q)
  | 0, q => by simp [bitsN]
  | k + 1, q => by
    have h := bitsN_lt f k
    have ih := testBit_bitsN f k q
    have e : bitsN f (k + 1) = 2 ^ k * (if f k then 1 else 0) + bitsN f k := by rw [bitsN]; split <;> omega
    rw [e, Nat.testBit_two_pow_mul_add _ h]
    by_cases hq : q < k
    · rw [if_pos hq, ih]; simp [hq, show q < k + 1 by omega]
    · rw [if_neg hq]
      by_cases hk : q = k
      · subst hk; simp; split <;> simp_all
      · have : ¬ q < k + 1 := by omega
        simp only [this, decide_false, Bool.false_and]
        have h1 : q - k ≠ 0 := by omega
        split
        · obtain ⟨d, hd⟩ : ∃ d, q - k = d + 1 := ⟨q - k - 1, by omega⟩
          rw [hd, Nat.testBit_succ]; simp
        · simp
theorem bitsN_of {f : Nat → Bool} {k m : Nat} (hm : m < 2 ^ k) (h : ∀ q, q < k → m.testBit q = f q) : m = bitsN f k := by
  apply Nat.eq_of_testBit_eq
  intro q
  rw [testBit_bitsN]
  by_cases hq : q < k
  · simp [hq, h q hq]
  · simp only [hq, decide_false, Bool.false_and]
    exact Nat.testBit_lt_two_pow (Nat.lt_of_lt_of_le hm (Nat.pow_le_pow_right (by omega) (by omega)))
/-- Does a cell lead from a place to a place, a state coming of it? -/
def leadB (S n : Nat) (T : List Int) (c p q : Nat) : Bool := (List.range S).any fun x => decide (T.getD (p * S + x) 0 = (c : Int)) && decide ((p * S + x) % n = q)
/-- Does a set of places lead to a place? -/
def anyB (S n : Nat) (T : List Int) (c m q : Nat) : Bool := (List.range n).any fun p => m.testBit p && leadB S n T c p q
def follN (S n : Nat) (T : List Int) (c m : Nat) : Nat := bitsN (anyB S n T c m) n
theorem anyB_zero (S n : Nat) (T : List Int) (c q : Nat) : anyB S n T c 0 q = false := by
  simp [anyB]
/-- What was taken together so far, and what is still to come. -/
def FollInv (S n : Nat) (T : List Int) (c m cur out : Nat) : Prop := cur < 2 ^ n ∧ out < 2 ^ n ∧ ∀ q, q < n → (out.testBit q || anyB S n T c cur q) = anyB S n T c m q
theorem FollInv.start {S n : Nat} {T : List Int} {c m : Nat} (h : m < 2 ^ n) : FollInv S n T c m m 0 := ⟨h, Nat.pow_pos (by omega), fun q _ => by simp⟩
theorem FollInv.fin {S n : Nat} {T : List Int} {c m out : Nat} (h : FollInv S n T c m 0 out) : out = follN S n T c m := bitsN_of h.2.1 fun q hq => by
  have := h.2.2 q hq
  rw [anyB_zero, Bool.or_false] at this
  exact this
/-- A set of places that was come to: its number, by which state, from which, and the word so far. -/
structure En where
  set : Nat
  st : Nat
  ah : Nat
  wd : List Int
end Go.Proofs.Ytjjdjdodhedihaa

namespace Go.Proofs.Ytjjdjdodhedihaa
open Go.RowKit
set_option linter.unusedVariables false

end Go.Proofs.Ytjjdjdodhedihaa

namespace Go.Proofs.Ytjjdjdodhedihaa
open Go.RowKit
set_option linter.unusedVariables false

/-- The rows of leads, while they are laid. -/
structure LD (w wr : World) (S R n : Nat) (vt : Value) (g k : Nat) (rows : Nat → List Int) : Prop where
  gb : GB w.heap.size S R n vt wr
  tab : ∀ c, c < S → wr.cell? ⟨g, c, none⟩ = some (if c < k then .slice (some ⟨g + 1 + c, 0, none⟩) n n else .slice none 0 0)
  fz : ∀ c, wr.frozen? ⟨g, c, none⟩ = false
  row : ∀ c, c < k → Cel wr (g + 1 + c) (rows c)
  bl : Below w.heap.size w wr
  gl : w.heap.size < g
  gs : g < wr.heap.size
theorem LD.below {w wr wr' : World} {S R n : Nat} {vt : Value} {g k : Nat} {rows : Nat → List Int} (h : LD w wr S R n vt g k rows) (hb : Below wr.heap.size wr wr') : LD w wr' S R n vt g k rows :=
  ⟨h.gb.next hb, fun c hc => (World.cell?_of_block (w := wr) (a := ⟨g, c, none⟩) (hb.block g h.gs)).trans (h.tab c hc), fun c => (World.frozen?_of_block (w := wr) (a := ⟨g, c, none⟩) (hb.block g h.gs)).trans (h.fz c), fun c hc => (h.row c hc).below hb, h.bl.trans (hb.mono h.bl.size), h.gl, Nat.lt_of_lt_of_le h.gs hb.size⟩
/-- One row more. -/
theorem LD.more {w wr : World} {S R n : Nat} {vt : Value} {g k : Nat} {t : TypeId} (h : LD w wr S R n vt g k fun _ => List.replicate n 0) (hz : wr.heap.size = g + 1 + k) (hk : k < S) :
    LD w ((wr.setCell ⟨g, k, none⟩ (.slice (some ⟨wr.heap.size, 0, none⟩) n n)).alloc (.cells (madeCells #[.int .i64 0] n) t)) S R n vt g (k + 1) fun _ => List.replicate n 0 := by
  have gs := h.gs
  have gl := h.gl
  obtain ⟨W, hW⟩ : ∃ W, wr.setCell ⟨g, k, none⟩ (.slice (some ⟨wr.heap.size, 0, none⟩) n n) = W := ⟨_, rfl⟩
  have wz : W.heap.size = wr.heap.size := by rw [← hW, World.size_setCell]
  have ho : ∀ b, b ≠ g → W.heap[b]? = wr.heap[b]? := fun b hb => by rw [← hW]; exact heap_setCell_other _ _ _ _ _ hb
  rw [hW]
  have hb : Below W.heap.size W (W.alloc (.cells (madeCells #[.int .i64 0] n) t)) := (Below.refl _ _).alloc (Nat.le_refl _) _
  have BW : Below w.heap.size w W := by rw [← hW]; exact h.bl.setCell (p := ⟨g, k, none⟩) (by show w.heap.size ≤ g; omega) _
  refine ⟨(h.gb.block (ho _ (by omega))).next hb, fun c hc => ?_, fun c => ?_, fun c hc => ?_, BW.trans (hb.mono BW.size), gl, by simp; omega⟩
  · rw [World.cell?_of_block (w := W) (a := ⟨g, c, none⟩) (hb.block g (by omega)), ← hW]
    by_cases e : c = k
    · subst e
      rw [World.cell?_setCell_same _ _ _ (h.tab c hc), if_pos (by omega), hz]
    · rw [World.cell?_setCell_other _ _ _ _ (by simp <;> omega), h.tab c hc]
      by_cases d : c < k
      · rw [if_pos d, if_pos (by omega)]
      · rw [if_neg d, if_neg (by omega)]
  · rw [World.frozen?_of_block (w := W) (a := ⟨g, c, none⟩) (hb.block g (by omega)), ← hW, World.frozen?_setCell]
    exact h.fz c
  · by_cases e : c = k
    · subst e
      have := Cel.made W n t
      rw [wz, hz] at this
      exact this
    · exact ((h.row c (by omega)).block (by omega) (ho _ (by omega))).below hb
/-- A cell of a row is set. -/
theorem LD.set {w wr : World} {S R n : Nat} {vt : Value} {g k : Nat} {rows rows' : Nat → List Int} (h : LD w wr S R n vt g k rows) (c p : Nat) (x : Int) (hc : c < k) (hp : p < (rows c).length) (h1 : rows' c = (rows c).set p x) (h2 : ∀ c', c' ≠ c → c' < k → rows' c' = rows c') :
    LD w (wr.setCell ⟨g + 1 + c, p, none⟩ (.int .i64 x)) S R n vt g k rows' := by
  have gs := h.gs
  have gl := h.gl
  refine ⟨h.gb.block (heap_setCell_other _ _ _ _ _ (by omega)), fun c' hc' => ?_, fun c' => by rw [World.frozen?_setCell]; exact h.fz c', fun c' hc' => ?_, h.bl.setCell (p := ⟨g + 1 + c, p, none⟩) (by show w.heap.size ≤ g + 1 + c; omega) _, gl, by rw [World.size_setCell]; exact gs⟩
  · rw [World.cell?_setCell_other _ _ _ _ (by simp <;> omega)]; exact h.tab c' hc'
  · by_cases e : c' = c
    · subst e; rw [h1]; exact (h.row c' hc').set p x hp
    · rw [h2 c' e hc']
      exact (h.row c' hc').block (by rw [World.size_setCell]; exact Nat.le_refl _) (heap_setCell_other _ _ _ _ _ (by omega))
end Go.Proofs.Ytjjdjdodhedihaa

namespace Go.Proofs.Ytjjdjdodhedihaa
open Go.RowKit
set_option linter.unusedVariables false

/-- Numbers in a block. -/
structure IC (w : World) (g n : Nat) (E : Nat → Int) : Prop where
  lt : g < w.heap.size
  c0 : ∀ k, k < n → w.cell? ⟨g, k, none⟩ = some (.int .i64 (E k))
  fz : ∀ k, w.frozen? ⟨g, k, none⟩ = false
theorem IC.drew {w : World} {g n : Nat} {E : Nat → Int} (h : IC w g n E) : IC w.drew g n E := ⟨h.lt, h.c0, h.fz⟩
theorem IC.set {w : World} {g n : Nat} {E : Nat → Int} (h : IC w g n E) (i : Nat) (hi : i < n) (x : Int) : IC (w.setCell ⟨g, i, none⟩ (.int .i64 x)) g n (fun k => if k = i then x else E k) := by
  refine ⟨by simpa using h.lt, fun k hk => ?_, fun k => by rw [World.frozen?_setCell]; exact h.fz k⟩
  by_cases e : k = i
  · subst e
    simp only [if_true]
    exact World.cell?_setCell_same _ _ _ (h.c0 k hk)
  · rw [World.cell?_setCell_other _ ⟨g, i, none⟩ ⟨g, k, none⟩ _ (fun q => e (congrArg Addr.off q).symm), if_neg e]; exact h.c0 k hk
theorem rd_set1 {w w' : World} {g : Nat} (h : Rd g w w') (i : Nat) (u : Value) : Rd g w (w'.setCell ⟨g, i, none⟩ u) :=
  ⟨h.os, h.tape, h.output, by simpa using h.size, fun k hk hg => by rw [heap_setCell_other _ _ _ _ _ hg]; exact h.block k hk hg⟩

/-- The queue, cell by cell. -/
structure QC (W : World) (g : Nat) (Q : List En) : Prop where
  lt : g < W.heap.size
  c0 : ∀ i e, Q[i]? = some e → W.cell? ⟨g, i * 3, none⟩ = some (.int .i64 (e.set : Int))
  c1 : ∀ i e, Q[i]? = some e → W.cell? ⟨g, i * 3 + 1, none⟩ = some (.int .i64 (e.st : Int))
  c2 : ∀ i e, Q[i]? = some e → W.cell? ⟨g, i * 3 + 2, none⟩ = some (.int .i64 (e.ah : Int))
theorem QC.block {W W' : World} {g : Nat} {Q : List En} (h : QC W g Q) (hs : W.heap.size ≤ W'.heap.size) (e : W'.heap[g]? = W.heap[g]?) : QC W' g Q :=
  ⟨Nat.lt_of_lt_of_le h.lt hs, fun i x hx => (World.cell?_of_block (w := W) (a := ⟨g, i * 3, none⟩) e).trans (h.c0 i x hx), fun i x hx => (World.cell?_of_block (w := W) (a := ⟨g, i * 3 + 1, none⟩) e).trans (h.c1 i x hx), fun i x hx => (World.cell?_of_block (w := W) (a := ⟨g, i * 3 + 2, none⟩) e).trans (h.c2 i x hx)⟩
theorem QC.below {W W' : World} {g : Nat} {Q : List En} (h : QC W g Q) (hb : Below W.heap.size W W') : QC W' g Q := h.block hb.size (hb.block g h.lt)
end Go.Proofs.Ytjjdjdodhedihaa

namespace Go.Proofs.Ytjjdjdodhedihaa
open Go.RowKit
set_option linter.unusedVariables false

/-- So many times the cells that stand by places to the right, added to the first i sums. -/
def addL (us xs : List Int) (num sh : Int) (i : Nat) : List Int := (List.range us.length).map fun (k : Nat) => if k < i then us.getD k 0 + num * rat xs ((k : Int) + sh) else us.getD k 0
theorem addL_length (us xs : List Int) (num sh : Int) (i : Nat) : (addL us xs num sh i).length = us.length := by simp [addL]
theorem addL_zero (us xs : List Int) (num sh : Int) : addL us xs num sh 0 = us := by
  apply List.ext_getElem (by simp [addL])
  intro k h1 h2
  simp [addL, List.getD, h2]
theorem addL_at {us xs : List Int} {num sh : Int} {i : Nat} (h : i < us.length) : (addL us xs num sh i).getD i 0 = us.getD i 0 := by simp [addL, List.getD, h]
theorem addL_set {us xs : List Int} {num sh : Int} {i : Nat} (h : i < us.length) : (addL us xs num sh i).set i (us.getD i 0 + num * rat xs ((i : Int) + sh)) = addL us xs num sh (i + 1) := by
  apply List.ext_getElem (by simp [addL])
  intro k h1 h2
  rw [List.getElem_set]
  simp only [addL, List.getElem_map, List.getElem_range]
  by_cases e : i = k
  · subst e; rw [if_pos rfl, if_pos (by omega)]
  · rw [if_neg e]
    by_cases d : k < i
    · rw [if_pos d, if_pos (by omega)]
    · rw [if_neg d, if_neg (by omega)]
theorem turn_mod (b : Int) (n : Nat) (hn : 0 < n) : -(n : Int) < b.tmod n ∧ b.tmod n < n ∧ (b.tmod n + n).tmod n = b % n := by
  have h1 := Int.tmod_lt_of_pos b (show (0 : Int) < n by omega)
  have h2 : -(n : Int) < b.tmod n := by
    have := Int.tmod_lt_of_pos (-b) (show (0 : Int) < n by omega)
    rw [Int.neg_tmod] at this
    omega
  refine ⟨h2, h1, ?_⟩
  rw [Int.tmod_eq_emod_of_nonneg (by omega)]
  have h3 := Int.tmod_add_mul_tdiv b (n : Int)
  rw [show b = (b.tmod n + n) + (n : Int) * (b.tdiv n - 1) by rw [Int.mul_sub]; omega, Int.add_mul_emod_self_left]
  have h4 := Int.tmod_add_mul_tdiv (b.tmod n + n + (n : Int) * (b.tdiv n - 1)) (n : Int)
  rw [show (b.tmod ↑n + ↑n + ↑n * (b.tdiv ↑n - 1)) = b by rw [Int.mul_sub]; omega]

set_option maxRecDepth 100000 in
set_option maxHeartbeats 6400000 in
theorem addTurned_any (gs gr L c1 c2 : Nat) (us xs : List Int) (sh num : Int) (w : World) (hs : Cel w gs us) (hr : Cel w gr xs) (ne : gs ≠ gr) (l1 : us.length = L) (l2 : xs.length = L) (h0 : 0 < L) (hl : L ≤ 1000) (hx : cellsOk ((4 : Nat) : Int) xs) (hu : ∀ x ∈ us, 0 ≤ x ∧ x ≤ 1000000) (n0 : 0 ≤ num) (n4 : num ≤ 4) (sb : -1000000 ≤ sh ∧ sh ≤ 1000000) :
    Calls Try.prog 21 #[.slice (some ⟨gs, 0, none⟩) L c1, .slice (some ⟨gr, 0, none⟩) L c2, .int .i64 sh, .int .i64 num] w fun e w' => e = .returned (.tuple #[]) ∧ Cel w' gs (addL us xs num sh L) ∧ Rd gs w w' := by
  obtain ⟨t1, t2, t3⟩ := turn_mod sh L h0
  obtain ⟨b, hb⟩ : ∃ b, sh.tmod (L : Int) = b := ⟨_, rfl⟩
  rw [hb] at t1 t2 t3
  obtain ⟨a0, ha0⟩ : ∃ a0 : Nat, sh % (L : Int) = (a0 : Int) := ⟨(sh % (L : Int)).toNat, by have := Int.emod_nonneg sh (show (L : Int) ≠ 0 by omega); omega⟩
  have al : a0 < L := by have := Int.emod_lt_of_pos sh (show (0 : Int) < L by omega); omega
  rw [ha0] at t3
  have n2 : ¬ (L : Int) = 0 := by omega
  have HS := hide' hs
  have HR := hide' hr
  have HX := hide' hx
  have HU := hide' hu
  have L1 := hide' l1
  have L2 := hide' l2
  have A0 := hide' ha0
  have NE := hide' ne
  clear hs hr hx hu l1 l2 ha0 ne
  go_enter Try.func21, Try.ntmps21
  go_wp2
  go_loopw [9, 22] (fun tv iv wr => ∃ (i t : Nat), iv = .int .i64 (i : Int) ∧ tv = .int .i64 (t : Int) ∧ i ≤ L ∧ t < L ∧ Hid (((i : Int) + sh) % (L : Int) = (t : Int) ∧ Cel wr gs (addL us xs num sh i) ∧ Cel wr gr xs ∧ Rd gs w wr)) (fun _ iv _ => L - (intOf iv).toNat)
  case atStart => exact ⟨0, a0, rfl, rfl, by omega, al, hide' ⟨by simpa using A0.out, by rw [addL_zero]; exact HS.out, HR.out, Rd.refl _ _⟩⟩
  case round =>
    obtain ⟨i, t, rfl, rfl, hi, ht, H⟩ := hrel
    by_cases d : (i : Int) < (L : Int)
    · have il : i < us.length := by rw [L1.out]; omega
      have cs := H.out.2.1.cells i (by rw [addL_length]; exact il)
      have cf := H.out.2.1.fz i
      have cr := H.out.2.2.1.cells t (by rw [L2.out]; exact ht)
      rw [addL_at il] at cs
      have RT := hide' (show rat xs ((i : Int) + sh) = xs.getD t 0 by unfold rat; rw [L2.out, H.out.1, Int.toNat_natCast])
      have SET := hide' (addL_set (xs := xs) (num := num) (sh := sh) il)
      rw [RT.out] at SET
      have ub := HU.out (us.getD i 0) (by rw [List.getD_eq_getElem?_getD, List.getElem?_eq_getElem il]; exact List.getElem_mem il)
      have xb := cellsOk_at HX.out (k := t) (by rw [L2.out]; exact ht)
      obtain ⟨u, hu⟩ : ∃ u, us.getD i 0 = u := ⟨_, rfl⟩
      obtain ⟨x, hx⟩ : ∃ x, xs.getD t 0 = x := ⟨_, rfl⟩
      rw [hu] at cs ub SET
      rw [hx] at cr xb SET
      obtain ⟨y, hy⟩ : ∃ y, num * x = y := ⟨_, rfl⟩
      have yb : 0 ≤ y ∧ y ≤ 16 := by
        obtain ⟨n', rfl⟩ : ∃ n' : Nat, num = n' := ⟨num.toNat, by omega⟩
        obtain ⟨x', rfl⟩ : ∃ x' : Nat, x = x' := ⟨x.toNat, by omega⟩
        have : n' * x' ≤ 4 * 4 := Nat.mul_le_mul (by omega) (by omega)
        rw [← hy, ← Int.natCast_mul]
        omega
      have gne : ¬ gs = gr := NE.out
      have gne' : ¬ gr = gs := fun q => NE.out q.symm
      rw [hy] at SET
      clear hu hx
      by_cases e : t + 1 = L
      · have e1 : ((t : Int) + 1 == (L : Int)) = true := by rw [beq_iff_eq]; omega
        have NM := hide' (show (((i + 1 : Nat) : Int) + sh) % (L : Int) = ((0 : Nat) : Int) by
          have := H.out.1
          rw [show ((i + 1 : Nat) : Int) + sh = ((i : Int) + sh) + 1 by push_cast; omega, Int.add_emod, this]
          rw [show ((t : Int) + 1 % (L : Int)) = (t : Int) + (1 % (L : Int)) from rfl]
          rcases Nat.lt_or_ge 1 L with q | q
          · rw [Int.emod_eq_of_lt (a := 1) (by omega) (by omega), show (t : Int) + 1 = (L : Int) by omega]; simp
          · rw [show (L : Int) = 1 by omega]; simp)
        clear e
        go_wp2
        go_region
        go_wp2
        exact ⟨⟨i + 1, 0, by go_num, rfl, by omega, by omega, hide' ⟨NM.out, by rw [← SET.out]; exact (H.out.2.1.set i _ (by rw [addL_length]; exact il)).block (Nat.le_refl _) rfl, (H.out.2.2.1.block (by simp) (heap_setCell_other _ _ _ _ _ (fun q => NE.out q.symm))).block (Nat.le_refl _) rfl, rd_drew (rd_set1 H.out.2.2.2 i _)⟩⟩, by simp [intOf]; omega⟩
      · have e1 : ((t : Int) + 1 == (L : Int)) = false := by rw [beq_eq_false_iff_ne]; omega
        have NM := hide' (show (((i + 1 : Nat) : Int) + sh) % (L : Int) = ((t + 1 : Nat) : Int) by
          have := H.out.1
          rw [show ((i + 1 : Nat) : Int) + sh = ((i : Int) + sh) + 1 by push_cast; omega, Int.add_emod, this, Int.emod_eq_of_lt (a := 1) (by omega) (by omega), Int.emod_eq_of_lt (by omega) (by omega)]
          push_cast
          rfl)
        have tl : t + 1 < L := by omega
        clear e
        go_wp2
        go_region
        go_wp2
        exact ⟨⟨i + 1, t + 1, by go_num, by go_num, by omega, tl, hide' ⟨NM.out, by rw [← SET.out]; exact (H.out.2.1.set i _ (by rw [addL_length]; exact il)).block (Nat.le_refl _) rfl, (H.out.2.2.1.block (by simp) (heap_setCell_other _ _ _ _ _ (fun q => NE.out q.symm))).block (Nat.le_refl _) rfl, rd_drew (rd_set1 H.out.2.2.2 i _)⟩⟩, by simp [intOf]; omega⟩
    · have FI := hide' (show Cel wr gs (addL us xs num sh L) ∧ Rd gs w wr by rw [show L = i by omega]; exact ⟨H.out.2.1, H.out.2.2.2⟩)
      go_wp2
      go_end0
      exact ⟨rfl, FI.out.1, FI.out.2⟩
end Go.Proofs.Ytjjdjdodhedihaa

