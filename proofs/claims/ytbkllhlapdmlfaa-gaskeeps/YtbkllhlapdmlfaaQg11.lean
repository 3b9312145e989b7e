/-
  What the last text of this claim leans on, part 11: Gc2, Gk1, Gk2, Gk3.
-/
import Derived.Test.YtbkllhlapdmlfaaQg4
import Derived.Test.YtbkllhlapdmlfaaQg8
import Derived.Test.YtbkllhlapdmlfaaQg10
namespace Go.Proofs.Ytbkllhlapdmlfaa
open Go.RowKit
set_option linter.unusedVariables false
/-- What is met, what goes on. -/
def metG (K n m : Nat) (cs f : Nat → Nat) (i k : Nat) : Nat := aftG K (cs ((i * n + k) % m)) (f k)
/-- The cells behind so many steps. -/
def flowG (K W H m : Nat) (cs f : Nat → Nat) : Nat → Nat → Nat
  | 0 => f
  | i + 1 => mvF (metG K (W * H) m cs (flowG K W H m cs f i) i) (srcG K W H)
theorem aft_leT : ∀ (c : Fin 64), aftG 4 0 c.val ≤ 63 ∧ aftG 4 1 c.val ≤ 63 ∧ aftG 6 0 c.val ≤ 63 ∧ aftG 6 1 c.val ≤ 63 := by decide +kernel
theorem aft_one (K c : Nat) {z : Nat} (h : z ≠ 0) : aftG K z c = aftG K 1 c := by unfold aftG; simp [h]
theorem aft_le {K c : Nat} (hK : K = 4 ∨ K = 6) (hc : c ≤ 63) (z : Nat) : aftG K z c ≤ 63 := by
  obtain ⟨h1, h2, h3, h4⟩ := aft_leT ⟨c, by omega⟩
  by_cases q : z = 0
  · subst q; rcases hK with rfl | rfl <;> assumption
  · rw [aft_one K c q]; rcases hK with rfl | rfl <;> assumption
theorem mvF_le (f : Nat → Nat) (src : Nat → Nat → Nat) (i : Nat) : mvF f src i ≤ 63 := by
  have a : ∀ x m : Nat, m < 64 → x &&& m < 2 ^ 6 := fun x m h => Nat.and_lt_two_pow _ (by omega)
  have := Nat.or_lt_two_pow (Nat.or_lt_two_pow (Nat.or_lt_two_pow (Nat.or_lt_two_pow (Nat.or_lt_two_pow (a (f (src i 0)) 1 (by omega)) (a (f (src i 1)) 2 (by omega))) (a (f (src i 2)) 4 (by omega))) (a (f (src i 3)) 8 (by omega))) (a (f (src i 4)) 16 (by omega))) (a (f (src i 5)) 32 (by omega))
  unfold mvF
  omega
theorem flow_le {K W H m : Nat} {cs f : Nat → Nat} (hf : ∀ i, f i ≤ 63) : ∀ i j, flowG K W H m cs f i j ≤ 63
  | 0, j => hf j
  | i + 1, j => mvF_le _ _ j
/-- Cells that are now, cells that have met: where they lie. -/
structure NM (w w3 V : World) (n gn gm : Nat) (f g : Nat → Nat) : Prop where
  keep : ∀ j, j < w3.heap.size → V.heap[j]? = w3.heap[j]?
  now : CU V gn n f
  met : CU V gm n g
  ne : gn ≠ gm
  ln : w3.heap.size ≤ gn
  lm : w3.heap.size ≤ gm
  below : Below w.heap.size w V
theorem NM.next {w w3 V V' : World} {n gn gm : Nat} {f g : Nat → Nat} (h : NM w w3 V n gn gm f g) (hs : w3.heap.size ≤ V.heap.size) (b : Below V.heap.size V V') : NM w w3 V' n gn gm f g :=
  ⟨fun j hj => (b.block j (by omega)).trans (h.keep j hj), h.now.block (b.block gn h.now.lt), h.met.block (b.block gm h.met.lt), h.ne, h.ln, h.lm, h.below.trans (b.mono h.below.size)⟩
/-- The tables beside them. -/
structure RG (w w3 V : World) (K W H n gn gm ga gf : Nat) (f g : Nat → Nat) : Prop where
  nm : NM w w3 V n gn gm f g
  aft : V.heap[ga]? = some (.cells (arrF 128 (afF (aftG K))) 81 (0, 0))
  org : V.heap[gf]? = some (.cells (arrF (n * 6) (orG (srcG K W H))) 86 (0, 0))
  a1 : ga ≠ gn
  a2 : ga ≠ gm
  f1 : gf ≠ gn
  f2 : gf ≠ gm
theorem RG.meet {w w3 V V' : World} {K W H n gn gm ga gf : Nat} {f g g' : Nat → Nat} (h : RG w w3 V K W H n gn gm ga gf f g) (c : CU V' gm n g') (k : ∀ j, j ≠ gm → V'.heap[j]? = V.heap[j]?) (b : Below w.heap.size V V') : RG w w3 V' K W H n gn gm ga gf f g' :=
  ⟨⟨fun j hj => (k j (by have := h.nm.lm; omega)).trans (h.nm.keep j hj), h.nm.now.block (k gn h.nm.ne), c, h.nm.ne, h.nm.ln, h.nm.lm, h.nm.below.trans b⟩, (k ga h.a2).trans h.aft, (k gf h.f2).trans h.org, h.a1, h.a2, h.f1, h.f2⟩
theorem RG.move {w w3 V V' : World} {K W H n gn gm ga gf : Nat} {f f' g : Nat → Nat} (h : RG w w3 V K W H n gn gm ga gf f g) (c : CU V' gn n f') (k : ∀ j, j ≠ gn → V'.heap[j]? = V.heap[j]?) (b : Below w.heap.size V V') : RG w w3 V' K W H n gn gm ga gf f' g :=
  ⟨⟨fun j hj => (k j (by have := h.nm.ln; omega)).trans (h.nm.keep j hj), c, h.nm.met.block (k gm (fun e => h.nm.ne e.symm)), h.nm.ne, h.nm.ln, h.nm.lm, h.nm.below.trans b⟩, (k ga h.a1).trans h.aft, (k gf h.f1).trans h.org, h.a1, h.a2, h.f1, h.f2⟩
theorem cut3G {A B C : Type} {P Φ : A → B → C → Prop} {G : Prop} (h : (∀ a b c, P a b c → Φ a b c) → G) (k : ∀ a b c, P a b c → Φ a b c) : G := h k
end Go.Proofs.Ytbkllhlapdmlfaa

namespace Go.Proofs.Ytbkllhlapdmlfaa
open Go.RowKit
set_option linter.unusedVariables false
theorem mv_bit (f : Nat → Nat) (src : Nat → Nat → Nat) (i : Nat) {d : Nat} (hd : d < 6) : (mvF f src i).testBit d = (f (src i d)).testBit d := by
  unfold mvF
  simp only [Nat.testBit_or, Nat.testBit_and]
  rcases (by omega : d = 0 ∨ d = 1 ∨ d = 2 ∨ d = 3 ∨ d = 4 ∨ d = 5) with rfl | rfl | rfl | rfl | rfl | rfl
  all_goals simp only [show (1 : Nat).testBit 0 = true by decide, show (1 : Nat).testBit 1 = false by decide, show (1 : Nat).testBit 2 = false by decide, show (1 : Nat).testBit 3 = false by decide, show (1 : Nat).testBit 4 = false by decide, show (1 : Nat).testBit 5 = false by decide,
    show (2 : Nat).testBit 0 = false by decide, show (2 : Nat).testBit 1 = true by decide, show (2 : Nat).testBit 2 = false by decide, show (2 : Nat).testBit 3 = false by decide, show (2 : Nat).testBit 4 = false by decide, show (2 : Nat).testBit 5 = false by decide,
    show (4 : Nat).testBit 0 = false by decide, show (4 : Nat).testBit 1 = false by decide, show (4 : Nat).testBit 2 = true by decide, show (4 : Nat).testBit 3 = false by decide, show (4 : Nat).testBit 4 = false by decide, show (4 : Nat).testBit 5 = false by decide,
    show (8 : Nat).testBit 0 = false by decide, show (8 : Nat).testBit 1 = false by decide, show (8 : Nat).testBit 2 = false by decide, show (8 : Nat).testBit 3 = true by decide, show (8 : Nat).testBit 4 = false by decide, show (8 : Nat).testBit 5 = false by decide,
    show (16 : Nat).testBit 0 = false by decide, show (16 : Nat).testBit 1 = false by decide, show (16 : Nat).testBit 2 = false by decide, show (16 : Nat).testBit 3 = false by decide, show (16 : Nat).testBit 4 = true by decide, show (16 : Nat).testBit 5 = false by decide,
    show (32 : Nat).testBit 0 = false by decide, show (32 : Nat).testBit 1 = false by decide, show (32 : Nat).testBit 2 = false by decide, show (32 : Nat).testBit 3 = false by decide, show (32 : Nat).testBit 4 = false by decide, show (32 : Nat).testBit 5 = true by decide,
    Bool.and_true, Bool.and_false, Bool.or_false, Bool.false_or]
theorem bit_dig (x d : Nat) : x / 2 ^ d % 2 = if x.testBit d then 1 else 0 := by
  rw [Nat.testBit_eq_decide_div_mod_eq]
  by_cases h : x / 2 ^ d % 2 = 1
  · simp [h]
  · simp only [h, decide_false, Bool.false_eq_true, if_false]; omega
theorem mv_dig (f : Nat → Nat) (src : Nat → Nat → Nat) (i : Nat) {d : Nat} (hd : d < 6) : mvF f src i / 2 ^ d % 2 = f (src i d) / 2 ^ d % 2 := by
  rw [bit_dig, bit_dig, mv_bit f src i hd]
end Go.Proofs.Ytbkllhlapdmlfaa

namespace Go.Proofs.Ytbkllhlapdmlfaa
open Go.RowKit
set_option linter.unusedVariables false
theorem sumB_zero : ∀ n, sumB (fun _ => 0) n = 0
  | 0 => rfl
  | n + 1 => by rw [sumB, sumB_zero n]
theorem sumB_add (f g : Nat → Nat) : ∀ n, sumB (fun i => f i + g i) n = sumB f n + sumB g n
  | 0 => rfl
  | n + 1 => by rw [sumB, sumB, sumB, sumB_add f g n]; omega
theorem sumB_swap (F : Nat → Nat → Nat) (m : Nat) : ∀ n, sumB (fun i => sumB (fun j => F i j) m) n = sumB (fun j => sumB (fun i => F i j) n) m
  | 0 => by
    show 0 = sumB (fun _ => 0) m
    rw [sumB_zero]
  | n + 1 => by
    rw [sumB, sumB_swap F m n]
    show _ = sumB (fun j => sumB (fun i => F i j) n + F n j) m
    rw [sumB_add]
theorem sumB_one (k v : Nat) : ∀ n, sumB (fun i => if i = k then v else 0) n = if k < n then v else 0
  | 0 => rfl
  | n + 1 => by
    rw [sumB, sumB_one k v n]
    by_cases h : n = k
    · subst h; rw [if_neg (by omega), if_pos rfl, if_pos (by omega)]; omega
    · rw [if_neg h]
      by_cases q : k < n
      · rw [if_pos q, if_pos (by omega), Nat.add_zero]
      · rw [if_neg q, if_neg (by omega)]
/-- A sum gone through in another order: p and q undo each other. -/
theorem sumB_order {n : Nat} {p q : Nat → Nat} (hp : ∀ i, i < n → p i < n ∧ q (p i) = i) (hq : ∀ j, j < n → q j < n ∧ p (q j) = j) (g : Nat → Nat) : sumB (fun i => g (p i)) n = sumB g n := by
  have e1 : sumB (fun i => g (p i)) n = sumB (fun i => sumB (fun j => if j = p i then g j else 0) n) n := sumB_ext n fun i hi => by
    have : sumB (fun j => if j = p i then g j else 0) n = sumB (fun j => if j = p i then g (p i) else 0) n := sumB_ext n fun j _ => by
      by_cases h : j = p i
      · rw [if_pos h, if_pos h, h]
      · rw [if_neg h, if_neg h]
    rw [this, sumB_one, if_pos (hp i hi).1]
  have e2 : sumB (fun j => sumB (fun i => if j = p i then g j else 0) n) n = sumB g n := sumB_ext n fun j hj => by
    have : sumB (fun i => if j = p i then g j else 0) n = sumB (fun i => if i = q j then g j else 0) n := sumB_ext n fun i hi => by
      by_cases h : j = p i
      · rw [if_pos h, if_pos (by rw [h, (hp i hi).2])]
      · rw [if_neg h, if_neg (fun e => h (by rw [e, (hq j hj).2]))]
    rw [this, sumB_one, if_pos (hq j hj).1]
  rw [e1, sumB_swap, e2]
end Go.Proofs.Ytbkllhlapdmlfaa

namespace Go.Proofs.Ytbkllhlapdmlfaa
open Go.RowKit
set_option linter.unusedVariables false
/-- A place on a ring, one off at most. -/
def rngG (t : Int) (s : Nat) : Int := if t < 0 then t + s else if t < s then t else t - s
theorem rng_of {t : Int} {s : Nat} (h1 : -1 ≤ t) (h2 : t ≤ (s : Int)) (hs : 1 ≤ s) : (t + (s : Int)).tmod (s : Int) = rngG t s := by
  rw [Int.tmod_eq_emod_of_nonneg (by omega)]
  unfold rngG
  by_cases a : t < 0
  · rw [if_pos a]
    exact Int.emod_eq_of_lt (by omega) (by omega)
  · rw [if_neg a]
    by_cases b : t < s
    · rw [if_pos b, Int.add_emod_right]
      exact Int.emod_eq_of_lt (by omega) b
    · rw [if_neg b, show t + (s : Int) = (t - s) + s + s by omega, Int.add_emod_right, Int.add_emod_right]
      exact Int.emod_eq_of_lt (by omega) (by omega)
theorem rng_lt {t : Int} {s : Nat} (h1 : -1 ≤ t) (h2 : t ≤ (s : Int)) (hs : 1 ≤ s) : 0 ≤ rngG t s ∧ rngG t s < s := by
  unfold rngG
  split
  · omega
  · split <;> omega
def oppG (K d : Nat) : Nat := (d + K / 2) % K
theorem opp_lt {K d : Nat} (hK : K = 4 ∨ K = 6) : oppG K d < K := by unfold oppG; exact Nat.mod_lt _ (by omega)
theorem opp_dir {K d : Nat} (hK : K = 4 ∨ K = 6) (hd : d < K) : reG K (oppG K d) = -reG K d ∧ imG K (oppG K d) = -imG K d := by
  rcases hK with rfl | rfl
  · rcases (by omega : d = 0 ∨ d = 1 ∨ d = 2 ∨ d = 3) with rfl | rfl | rfl | rfl <;> decide
  · rcases (by omega : d = 0 ∨ d = 1 ∨ d = 2 ∨ d = 3 ∨ d = 4 ∨ d = 5) with rfl | rfl | rfl | rfl | rfl | rfl <;> decide
theorem lean_ring {K H : Nat} (hK : K = 4 ∨ K = 6) (hH : K = 6 → H % 2 = 0) (H1 : 1 ≤ H) {y : Nat} (hy : y < H) {m : Int} (m1 : -1 ≤ m) (m2 : m ≤ 1) : leanG K (rngG ((y : Int) + m) H) - leanG K (rngG ((y : Int) + m) H - m) = leanG K ((y : Int) + m) - leanG K y := by
  rcases hK with rfl | rfl
  · simp [leanG]
  · have := hH rfl
    unfold leanG rngG
    simp only [show ¬ ((6 : Nat) : Int) = 4 by decide, if_false]
    split
    · omega
    · split <;> omega
/-- There and back. -/
theorem src_back {K W H : Nat} (hK : K = 4 ∨ K = 6) (hH : K = 6 → H % 2 = 0) (W1 : 1 ≤ W) (H1 : 1 ≤ H) {i d : Nat} (hi : i < W * H) (hd : d < K) : srcG K W H (srcG K W H i d) (oppG K d) = i := by
  have y1 : i / W < H := Nat.div_lt_of_lt_mul hi
  have x1 : i % W < W := Nat.mod_lt _ W1
  obtain ⟨y, hy⟩ : ∃ y, i / W = y := ⟨_, rfl⟩
  obtain ⟨x, hx⟩ : ∃ x, i % W = x := ⟨_, rfl⟩
  have hiw : i = y * W + x := by rw [← hy, ← hx, Nat.mul_comm]; exact (Nat.div_add_mod i W).symm
  rw [hy] at y1
  rw [hx] at x1
  obtain ⟨od1, od2⟩ := opp_dir hK hd
  have imn := imG_near K d
  have xn := xG_near (y := y) hK hd x1
  have r1 := rng_of (t := (y : Int) + imG K d) (s := H) (by omega) (by omega) H1
  have r2 := rng_lt (t := (y : Int) + imG K d) (s := H) (by omega) (by omega) H1
  have c1 := rng_of (t := xG K x y d) (s := W) xn.1 xn.2 W1
  have c2 := rng_lt (t := xG K x y d) (s := W) xn.1 xn.2 W1
  obtain ⟨Y, hY⟩ : ∃ Y : Nat, rngG ((y : Int) + imG K d) H = (Y : Int) := ⟨(rngG ((y : Int) + imG K d) H).toNat, by omega⟩
  obtain ⟨X, hX⟩ : ∃ X : Nat, rngG (xG K x y d) W = (X : Int) := ⟨(rngG (xG K x y d) W).toNat, by omega⟩
  have lr := lean_ring hK hH H1 y1 imn.1 imn.2
  rw [hY] at r1 r2 lr
  rw [hX] at c1 c2
  have e1 : srcG K W H i d = Y * W + X := by
    unfold srcG rowG colG
    rw [if_pos hd, hy, hx, r1, c1]
    simp
  have dY : (Y * W + X) / W = Y := by rw [Nat.mul_comm, Nat.mul_add_div (by omega), Nat.div_eq_of_lt (by omega), Nat.add_zero]
  have mX : (Y * W + X) % W = X := by rw [Nat.mul_comm, Nat.mul_add_mod]; exact Nat.mod_eq_of_lt (by omega)
  have xe : xG K X Y (oppG K d) = (X : Int) - (xG K x y d - (x : Int)) := by
    unfold xG
    rw [od1, od2]
    rw [show (Y : Int) + -imG K d = (Y : Int) - imG K d by omega]
    omega
  have xn2 := xG_near (y := Y) hK (opp_lt (d := d) hK) (show X < W by omega)
  have r3 := rng_of (t := (Y : Int) + imG K (oppG K d)) (s := H) (by omega) (by omega) H1
  have c3 := rng_of (t := xG K X Y (oppG K d)) (s := W) xn2.1 xn2.2 W1
  have yb : rngG ((Y : Int) + imG K (oppG K d)) H = (y : Int) := by
    rw [od2, ← hY]
    unfold rngG
    repeat' split
    all_goals omega
  have xb : rngG (xG K X Y (oppG K d)) W = (x : Int) := by
    rw [xe, ← hX]
    unfold rngG
    repeat' split
    all_goals omega
  rw [e1]
  unfold srcG rowG colG
  rw [if_pos (opp_lt hK), dY, mX, r3, c3, yb, xb, hiw]
  simp
end Go.Proofs.Ytbkllhlapdmlfaa

