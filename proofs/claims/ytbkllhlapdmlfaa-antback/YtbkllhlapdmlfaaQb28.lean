/-
  What the last text of this claim leans on, part 28: Gc2.
-/
import Derived.Test.YtbkllhlapdmlfaaQb22
import Derived.Test.YtbkllhlapdmlfaaQb25
import Derived.Test.YtbkllhlapdmlfaaQb26
import Derived.Test.YtbkllhlapdmlfaaQb27
namespace Go.Proofs.Ytbkllhlapdmlfaa
open Go.RowKit
set_option linter.unusedVariables false
/-- What is met, what goes on. -/
def metG (K n m : Nat) (cs f : Nat → Nat) (i k : Nat) : Nat := aftG K (cs ((i * n + k) % m)) (f k)
/-- The cells behind so many steps. -/
def flowG (K W H m : Nat) (cs f : Nat → Nat) : Nat → Nat → Nat
  | 0 => f
  | i + 1 => mvF (metG K (W * H) m cs (flowG K W H m cs f i) i) (srcG K W H)
theorem aft_leT : ∀ (c : Fin 64), aftG 4 0 c.val ≤ 63 ∧ aftG 4 1 c.val ≤ 63 ∧ aftG 6 0 c.val ≤ 63 ∧ aftG 6 1 c.val ≤ 63 := by decide +kernel
theorem aft_one (K c : Nat) {z : Nat} (h : z ≠ 0) : aftG K z c = aftG K 1 c := by unfold aftG; simp [h]
theorem aft_le {K c : Nat} (hK : K = 4 ∨ K = 6) (hc : c ≤ 63) (z : Nat) : aftG K z c ≤ 63 := by
  obtain ⟨h1, h2, h3, h4⟩ := aft_leT ⟨c, by omega⟩
  by_cases q : z = 0
  · subst q; rcases hK with rfl | rfl <;> assumption
  · rw [aft_one K c q]; rcases hK with rfl | rfl <;> assumption
theorem mvF_le (f : Nat → Nat) (src : Nat → Nat → Nat) (i : Nat) : mvF f src i ≤ 63 := by
  have a : ∀ x m : Nat, m < 64 → x &&& m < 2 ^ 6 := fun x m h => Nat.and_lt_two_pow _ (by omega)
  have := Nat.or_lt_two_pow (Nat.or_lt_two_pow (Nat.or_lt_two_pow (Nat.or_lt_two_pow (Nat.or_lt_two_pow (a (f (src i 0)) 1 (by omega)) (a (f (src i 1)) 2 (by omega))) (a (f (src i 2)) 4 (by omega))) (a (f (src i 3)) 8 (by omega))) (a (f (src i 4)) 16 (by omega))) (a (f (src i 5)) 32 (by omega))
  unfold mvF
  omega
theorem flow_le {K W H m : Nat} {cs f : Nat → Nat} (hf : ∀ i, f i ≤ 63) : ∀ i j, flowG K W H m cs f i j ≤ 63
  | 0, j => hf j
  | i + 1, j => mvF_le _ _ j
/-- Cells that are now, cells that have met: where they lie. -/
structure NM (w w3 V : World) (n gn gm : Nat) (f g : Nat → Nat) : Prop where
  keep : ∀ j, j < w3.heap.size → V.heap[j]? = w3.heap[j]?
  now : CU V gn n f
  met : CU V gm n g
  ne : gn ≠ gm
  ln : w3.heap.size ≤ gn
  lm : w3.heap.size ≤ gm
  below : Below w.heap.size w V
theorem NM.next {w w3 V V' : World} {n gn gm : Nat} {f g : Nat → Nat} (h : NM w w3 V n gn gm f g) (hs : w3.heap.size ≤ V.heap.size) (b : Below V.heap.size V V') : NM w w3 V' n gn gm f g :=
  ⟨fun j hj => (b.block j (by omega)).trans (h.keep j hj), h.now.block (b.block gn h.now.lt), h.met.block (b.block gm h.met.lt), h.ne, h.ln, h.lm, h.below.trans (b.mono h.below.size)⟩
/-- The tables beside them. -/
structure RG (w w3 V : World) (K W H n gn gm ga gf : Nat) (f g : Nat → Nat) : Prop where
  nm : NM w w3 V n gn gm f g
  aft : V.heap[ga]? = some (.cells (arrF 128 (afF (aftG K))) 81 (0, 0))
  org : V.heap[gf]? = some (.cells (arrF (n * 6) (orG (srcG K W H))) 86 (0, 0))
  a1 : ga ≠ gn
  a2 : ga ≠ gm
  f1 : gf ≠ gn
  f2 : gf ≠ gm
theorem RG.meet {w w3 V V' : World} {K W H n gn gm ga gf : Nat} {f g g' : Nat → Nat} (h : RG w w3 V K W H n gn gm ga gf f g) (c : CU V' gm n g') (k : ∀ j, j ≠ gm → V'.heap[j]? = V.heap[j]?) (b : Below w.heap.size V V') : RG w w3 V' K W H n gn gm ga gf f g' :=
  ⟨⟨fun j hj => (k j (by have := h.nm.lm; omega)).trans (h.nm.keep j hj), h.nm.now.block (k gn h.nm.ne), c, h.nm.ne, h.nm.ln, h.nm.lm, h.nm.below.trans b⟩, (k ga h.a2).trans h.aft, (k gf h.f2).trans h.org, h.a1, h.a2, h.f1, h.f2⟩
theorem RG.move {w w3 V V' : World} {K W H n gn gm ga gf : Nat} {f f' g : Nat → Nat} (h : RG w w3 V K W H n gn gm ga gf f g) (c : CU V' gn n f') (k : ∀ j, j ≠ gn → V'.heap[j]? = V.heap[j]?) (b : Below w.heap.size V V') : RG w w3 V' K W H n gn gm ga gf f' g :=
  ⟨⟨fun j hj => (k j (by have := h.nm.ln; omega)).trans (h.nm.keep j hj), c, h.nm.met.block (k gm (fun e => h.nm.ne e.symm)), h.nm.ne, h.nm.ln, h.nm.lm, h.nm.below.trans b⟩, (k ga h.a1).trans h.aft, (k gf h.f1).trans h.org, h.a1, h.a2, h.f1, h.f2⟩
theorem cut3G {A B C : Type} {P Φ : A → B → C → Prop} {G : Prop} (h : (∀ a b c, P a b c → Φ a b c) → G) (k : ∀ a b c, P a b c → Φ a b c) : G := h k
end Go.Proofs.Ytbkllhlapdmlfaa

