/-
  What the last text of this claim leans on, part 20: Gf2.
-/
import Derived.Test.YtjjdjdodhedihaaDoorJl19
import Derived.Test.YtjjdjdodhedihaaDoorJl1
namespace Go.Proofs.YtjjdjdodhedihaaDoor
set_option linter.unusedVariables false

/-- How much comes of a ring, k cells away, so much each. -/
def opB (L : Nat) (b : List Int) (u : Int → Int) (j : Int) : Int := opF (coefF b) (fun k => (k : Int)) L u j
theorem sumF_set (l : List Int) (p : Nat) (v : Int) (g : Nat → Int) (hp : p < l.length) : ∀ L, L ≤ l.length → sumF (fun m => (l.set p v).getD m 0 * g m) L = sumF (fun m => l.getD m 0 * g m) L + (if p < L then (v - l.getD p 0) * g p else 0)
  | 0, _ => by simp [sumF]
  | L + 1, h => by
    rw [sumF, sumF, sumF_set l p v g hp L (by omega), getD_set]
    rcases Nat.lt_trichotomy p L with q | q | q
    · rw [if_pos q, if_pos (show p < L + 1 by omega), if_neg (fun k => by omega)]; omega
    · subst q
      rw [if_neg (Nat.lt_irrefl _), if_pos (Nat.lt_succ_self _), if_pos ⟨rfl, hp⟩, Int.sub_mul]; omega
    · rw [if_neg (by omega), if_neg (by omega), if_neg (fun k => by omega)]; omega
theorem opB_set {L : Nat} {l : List Int} (hl : l.length = L) {p : Nat} (hp : p < L) (v : Int) (u : Int → Int) (j : Int) : opB L (l.set p v) u j = opB L l u j + (v - l.getD p 0) * u (j + p) := by
  unfold opB opF coefF
  rw [sumF_set l p v (fun k => u (j + (k : Int))) (by omega) L (by omega), if_pos hp]
theorem emod_eqv (M a : Int) : ∃ z, a % M = a + M * z := ⟨-(a / M), by have := Int.emod_add_mul_ediv a M; rw [Int.mul_neg]; omega⟩
/-- The numbers, as they come round. -/
def byAt (S R L : Nat) (cs : List Int) : Nat → List Int
  | 0 => List.replicate L 0
  | i + 1 => (byAt S R L cs i).set (((i : Int) - R) % (L : Int)).toNat (((byAt S R L cs i).getD (((i : Int) - R) % (L : Int)).toNat 0 + cs.getD i 0) % S)
theorem byAt_length (S R L : Nat) (cs : List Int) : ∀ i, (byAt S R L cs i).length = L
  | 0 => by simp [byAt]
  | i + 1 => by rw [byAt, List.length_set]; exact byAt_length S R L cs i
theorem set_ok {S : Nat} {l : List Int} (h : cellsOk S l) (p : Nat) {v : Int} (h1 : 0 ≤ v) (h2 : v < S) : cellsOk S (l.set p v) := fun x hx => by
  rcases List.mem_or_eq_of_mem_set hx with h' | h'
  · exact h x h'
  · rw [h']; exact ⟨h1, h2⟩
theorem zeros_okF {S : Nat} (hS : 0 < S) (L : Nat) : cellsOk S (List.replicate L 0) := fun x hx => by rw [List.eq_of_mem_replicate hx]; omega
theorem byAt_ok {S R L : Nat} {cs : List Int} (hS : 0 < S) : ∀ i, cellsOk S (byAt S R L cs i)
  | 0 => zeros_okF hS L
  | i + 1 => set_ok (byAt_ok hS i) _ (Int.emod_nonneg _ (by omega)) (Int.emod_lt_of_pos _ (by omega))
theorem opB_zero (L : Nat) (u : Int → Int) (j : Int) : opB L (List.replicate L 0) u j = 0 := by
  unfold opB opF coefF
  have : ∀ m, sumF (fun k => (List.replicate L (0 : Int)).getD k 0 * u (j + (k : Int))) m = 0 := fun m => by
    induction m with
    | zero => rfl
    | succ m ih =>
      rw [sumF, ih, List.getD_eq_getElem?_getD, List.getElem?_replicate]
      split <;> simp
  exact this L
theorem per_mod {L : Nat} {u : Int → Int} (h : Per L u) (hL : 0 < L) (j t : Int) : u (j + ((t % (L : Int)).toNat : Int)) = u (j + t) := by
  have a := Int.emod_nonneg t (show (L : Int) ≠ 0 by omega)
  have b := Int.emod_add_mul_ediv t (L : Int)
  rw [show ((t % (L : Int)).toNat : Int) = t % (L : Int) by omega]
  have := h.all (j + t % (L : Int)) (t / (L : Int))
  rw [← this]
  congr 1
  rw [Int.mul_comm (t / (L : Int))]
  omega
theorem byAt_op {S R L : Nat} {cs : List Int} (hL : 0 < L) {u : Int → Int} (hu : Per L u) : ∀ i, Eqv S (opB L (byAt S R L cs i) u) (opF (coefF cs) (shF R 1) i u)
  | 0 => fun j => ⟨0, by rw [byAt, opB_zero, opF_zero]; simp⟩
  | i + 1 => fun j => by
    obtain ⟨z, hz⟩ := byAt_op hL hu i j
    have hp : (((i : Int) - R) % (L : Int)).toNat < L := by
      have := Int.emod_nonneg ((i : Int) - R) (show (L : Int) ≠ 0 by omega)
      have := Int.emod_lt_of_pos ((i : Int) - R) (show (0 : Int) < L by omega)
      omega
    obtain ⟨y, hy⟩ := emod_eqv (S : Int) ((byAt S R L cs i).getD (((i : Int) - R) % (L : Int)).toNat 0 + cs.getD i 0)
    rw [byAt, opB_set (byAt_length S R L cs i) hp, hz, hy, per_mod hu hL, opF_succ]
    have e1 : shF R 1 i = (i : Int) - R := by unfold shF; simp
    rw [e1]
    refine ⟨z + y * u (j + ((i : Int) - R)), ?_⟩
    have e2 : (byAt S R L cs i).getD (((i : Int) - R) % (L : Int)).toNat 0 + cs.getD i 0 + (S : Int) * y - (byAt S R L cs i).getD (((i : Int) - R) % (L : Int)).toNat 0 = cs.getD i 0 + (S : Int) * y := by omega
    rw [e2, Int.add_mul, Int.mul_add, Int.mul_assoc]
    unfold coefF
    omega
/-- The numbers of two steps, pair by pair. -/
def twiceAt (S L : Nat) (b : List Int) : Nat → List Int
  | 0 => List.replicate L 0
  | t + 1 => (twiceAt S L b t).set ((t / L + t % L) % L) (((twiceAt S L b t).getD ((t / L + t % L) % L) 0 + b.getD (t / L) 0 * b.getD (t % L) 0) % S)
theorem twiceAt_length (S L : Nat) (b : List Int) : ∀ t, (twiceAt S L b t).length = L
  | 0 => by simp [twiceAt]
  | t + 1 => by rw [twiceAt, List.length_set]; exact twiceAt_length S L b t
theorem twiceAt_ok {S L : Nat} {b : List Int} (hS : 0 < S) : ∀ t, cellsOk S (twiceAt S L b t)
  | 0 => zeros_okF hS L
  | t + 1 => set_ok (twiceAt_ok hS t) _ (Int.emod_nonneg _ (by omega)) (Int.emod_lt_of_pos _ (by omega))
theorem sumF_app (f : Nat → Int) (a : Nat) : ∀ m, sumF f (a + m) = sumF f a + sumF (fun i => f (a + i)) m
  | 0 => by simp [sumF]
  | m + 1 => by rw [← Nat.add_assoc, sumF, sumF_app f a m, sumF]; omega
theorem sumF_pairs (f : Nat → Int) (a : Nat) : ∀ b, sumF f (a * b) = sumF (fun i => sumF (fun r => f (a * i + r)) a) b
  | 0 => by simp [sumF]
  | b + 1 => by rw [Nat.mul_succ, sumF_app, sumF_pairs f a b, sumF]
theorem twiceAt_op {S L : Nat} {b : List Int} (hL : 0 < L) {u : Int → Int} (hu : Per L u) (j : Int) : ∀ t, ∃ z, opB L (twiceAt S L b t) u j = sumF (fun s => b.getD (s / L) 0 * b.getD (s % L) 0 * u (j + ((s / L : Nat) : Int) + ((s % L : Nat) : Int))) t + S * z
  | 0 => ⟨0, by rw [twiceAt, opB_zero, sumF]; simp⟩
  | t + 1 => by
    obtain ⟨z, hz⟩ := twiceAt_op hL hu j t
    have hp : (t / L + t % L) % L < L := Nat.mod_lt _ hL
    obtain ⟨y, hy⟩ := emod_eqv (S : Int) ((twiceAt S L b t).getD ((t / L + t % L) % L) 0 + b.getD (t / L) 0 * b.getD (t % L) 0)
    rw [twiceAt, opB_set (twiceAt_length S L b t) hp, hz, hy, sumF]
    have e0 : u (j + (((t / L + t % L) % L : Nat) : Int)) = u (j + ((t / L : Nat) : Int) + ((t % L : Nat) : Int)) := by
      have := per_mod hu hL j ((t / L : Nat) + (t % L : Nat) : Int)
      rw [show ((((t / L : Nat) : Int) + ((t % L : Nat) : Int)) % (L : Int)).toNat = (t / L + t % L) % L by
        rw [show ((t / L : Nat) : Int) + ((t % L : Nat) : Int) = ((t / L + t % L : Nat) : Int) by push_cast; rfl, ← Int.natCast_emod, Int.toNat_natCast], ← Int.add_assoc] at this
      exact this
    rw [e0]
    refine ⟨z + y * u (j + ((t / L : Nat) : Int) + ((t % L : Nat) : Int)), ?_⟩
    have e2 : (twiceAt S L b t).getD ((t / L + t % L) % L) 0 + b.getD (t / L) 0 * b.getD (t % L) 0 + (S : Int) * y - (twiceAt S L b t).getD ((t / L + t % L) % L) 0 = b.getD (t / L) 0 * b.getD (t % L) 0 + (S : Int) * y := by omega
    rw [e2, Int.add_mul, Int.mul_add, Int.mul_assoc (S : Int) y]
    omega
theorem sumF_mulL' (x : Int) (f : Nat → Int) : ∀ m, sumF (fun i => x * f i) m = x * sumF f m
  | 0 => by simp [sumF]
  | m + 1 => by rw [sumF, sumF, sumF_mulL' x f m, Int.mul_add]
theorem twice_op {S L : Nat} {b : List Int} (hL : 0 < L) {u : Int → Int} (hu : Per L u) : Eqv S (opB L (twiceAt S L b (L * L)) u) (opB L b (opB L b u)) := fun j => by
  obtain ⟨z, hz⟩ := twiceAt_op (S := S) (b := b) hL hu j (L * L)
  refine ⟨z, ?_⟩
  rw [hz]
  congr 1
  rw [sumF_pairs]
  show _ = sumF (fun i => coefF b i * opB L b u (j + (i : Int))) L
  apply sumF_ext
  intro i hi
  show _ = b.getD i 0 * sumF (fun k => coefF b k * u (j + (i : Int) + (k : Int))) L
  rw [← sumF_mulL']
  apply sumF_ext
  intro r hr
  have d1 : (L * i + r) / L = i := by rw [Nat.mul_add_div hL, Nat.div_eq_of_lt hr, Nat.add_zero]
  have d2 : (L * i + r) % L = r := by rw [Nat.mul_add_mod, Nat.mod_eq_of_lt hr]
  rw [d1, d2, Int.mul_assoc]
  rfl
/-- A step by these numbers, pair by pair. -/
def nextAt (S L : Nat) (b out : List Int) : Nat → List Int
  | 0 => List.replicate L 0
  | t + 1 => (nextAt S L b out t).set (t / L) (((nextAt S L b out t).getD (t / L) 0 + b.getD (t % L) 0 * out.getD ((t / L + t % L) % L) 0) % S)
theorem nextAt_length (S L : Nat) (b out : List Int) : ∀ t, (nextAt S L b out t).length = L
  | 0 => by simp [nextAt]
  | t + 1 => by rw [nextAt, List.length_set]; exact nextAt_length S L b out t
theorem nextAt_ok {S L : Nat} {b out : List Int} (hS : 0 < S) : ∀ t, cellsOk S (nextAt S L b out t)
  | 0 => zeros_okF hS L
  | t + 1 => set_ok (nextAt_ok hS t) _ (Int.emod_nonneg _ (by omega)) (Int.emod_lt_of_pos _ (by omega))
theorem nextAt_at {S L : Nat} {b out : List Int} (hL : 0 < L) {j : Nat} (hj : j < L) : ∀ t, ∃ z, (nextAt S L b out t).getD j 0 = sumF (fun s => if s / L = j then b.getD (s % L) 0 * out.getD ((j + s % L) % L) 0 else 0) t + S * z
  | 0 => ⟨0, by rw [nextAt, sumF, List.getD_eq_getElem?_getD, List.getElem?_replicate]; split <;> simp⟩
  | t + 1 => by
    obtain ⟨z, hz⟩ := nextAt_at (S := S) (b := b) (out := out) hL hj t
    rw [nextAt, getD_set, nextAt_length, sumF]
    by_cases e : j = t / L
    · rw [if_pos ⟨e, by omega⟩, if_pos e.symm, ← e]
      obtain ⟨y, hy⟩ := emod_eqv (S : Int) ((nextAt S L b out t).getD j 0 + b.getD (t % L) 0 * out.getD ((j + t % L) % L) 0)
      rw [hy, hz]
      exact ⟨z + y, by rw [Int.mul_add]; omega⟩
    · rw [if_neg (fun k => e k.1), if_neg (fun k => e k.symm)]
      exact ⟨z, by rw [hz]; omega⟩
theorem next_op {S L : Nat} {b out : List Int} (hL : 0 < L) (ho : out.length = L) : Eqv S (rat (nextAt S L b out (L * L))) (opB L b (rat out)) := fun j => by
  have key : ∀ i : Nat, i < L → ∃ z, (nextAt S L b out (L * L)).getD i 0 = opB L b (rat out) (i : Int) + S * z := fun i hi => by
    obtain ⟨z, hz⟩ := nextAt_at (S := S) (b := b) (out := out) hL hi (L * L)
    refine ⟨z, ?_⟩
    rw [hz]
    congr 1
    rw [sumF_pairs]
    have one : ∀ m, m ≤ L → sumF (fun a => sumF (fun r => if (L * a + r) / L = i then b.getD ((L * a + r) % L) 0 * out.getD ((i + (L * a + r) % L) % L) 0 else 0) L) m = if i < m then opB L b (rat out) (i : Int) else 0 := fun m => by
      induction m with
      | zero => intro _; simp [sumF]
      | succ m ih =>
        intro hm
        rw [sumF, ih (by omega)]
        have inner : sumF (fun r => if (L * m + r) / L = i then b.getD ((L * m + r) % L) 0 * out.getD ((i + (L * m + r) % L) % L) 0 else 0) L = if m = i then opB L b (rat out) (i : Int) else 0 := by
          by_cases e : m = i
          · rw [if_pos e]
            show _ = sumF (fun k => coefF b k * rat out ((i : Int) + (k : Int))) L
            apply sumF_ext
            intro r hr
            have d1 : (L * m + r) / L = i := by rw [Nat.mul_add_div hL, Nat.div_eq_of_lt hr, Nat.add_zero, e]
            have d2 : (L * m + r) % L = r := by rw [Nat.mul_add_mod, Nat.mod_eq_of_lt hr]
            rw [if_pos d1, d2]
            unfold coefF rat
            rw [ho, show ((i : Int) + (r : Int)) % (L : Int) = (((i + r) % L : Nat) : Int) by rw [Int.natCast_emod]; push_cast; rfl, Int.toNat_natCast]
          · rw [if_neg e]
            have z0 : ∀ k, k ≤ L → sumF (fun r => if (L * m + r) / L = i then b.getD ((L * m + r) % L) 0 * out.getD ((i + (L * m + r) % L) % L) 0 else 0) k = 0 := fun k => by
              induction k with
              | zero => intro _; rfl
              | succ k ihk =>
                intro hk
                have d1 : (L * m + k) / L = m := by rw [Nat.mul_add_div hL, Nat.div_eq_of_lt (by omega), Nat.add_zero]
                rw [sumF, ihk (by omega), if_neg (by rw [d1]; exact e)]
                rfl
            exact z0 L (Nat.le_refl _)
        rw [inner]
        rcases Nat.lt_trichotomy i m with q | q | q
        · rw [if_pos q, if_neg (by omega), if_pos (by omega)]; omega
        · rw [if_neg (by omega), if_pos q.symm, if_pos (by omega)]; omega
        · rw [if_neg (by omega), if_neg (by omega), if_neg (by omega)]; rfl
    rw [one L (Nat.le_refl _), if_pos hi]
  have per : Per L (opB L b (rat out)) := by
    have := (ho ▸ rat_per out : Per L (rat out))
    exact this.op _ _ L
  have hm := Int.emod_nonneg j (show (L : Int) ≠ 0 by omega)
  have hm2 := Int.emod_lt_of_pos j (show (0 : Int) < L by omega)
  obtain ⟨z, hz⟩ := key (j % (L : Int)).toNat (by omega)
  refine ⟨z, ?_⟩
  have e1 : rat (nextAt S L b out (L * L)) j = (nextAt S L b out (L * L)).getD (j % (L : Int)).toNat 0 := by unfold rat; rw [nextAt_length]
  have e2 := per_mod per hL 0 j
  rw [Int.zero_add, Int.zero_add] at e2
  rw [e1, hz, e2]
/-- What is still to go. -/
def FarInv (S L : Nat) (Z : List Int) (n : Nat) (b out : List Int) : Prop := b.length = L ∧ cellsOk S b ∧ out.length = L ∧ cellsOk S out ∧ Eqv S (timesF (coefF b) (fun k => (k : Int)) L n (rat out)) (rat Z)
theorem timesB {S L : Nat} {b c : List Int} (h : ∀ u, Per L u → Eqv S (opB L c u) (opB L b (opB L b u))) : ∀ (n : Nat) (u : Int → Int), Per L u → Eqv S (timesF (coefF c) (fun k => (k : Int)) L n u) (timesF (coefF b) (fun k => (k : Int)) L (2 * n) u)
  | 0, u, hu => Eqv.refl _ _
  | n + 1, u, hu => by
    have h1 := h u hu
    have hp : Per L (opB L c u) := hu.op _ _ L
    have a := timesB h n (opB L c u) hp
    have b1 := Eqv.times (coefF b) (fun k => (k : Int)) L (2 * n) h1
    rw [show 2 * (n + 1) = 2 * n + 1 + 1 by omega]
    exact a.trans b1
theorem FarInv.odd {S L n : Nat} {Z b out : List Int} (hS : 0 < S) (hL : 0 < L) (h : FarInv S L Z (n + 1) b out) : FarInv S L Z n b (nextAt S L b out (L * L)) := by
  obtain ⟨h1, h2, h3, h4, h5⟩ := h
  refine ⟨h1, h2, nextAt_length _ _ _ _ _, nextAt_ok hS _, ?_⟩
  exact (Eqv.times (coefF b) (fun k => (k : Int)) L n (next_op hL h3)).trans h5
theorem FarInv.even {S L n : Nat} {Z b out : List Int} (hS : 0 < S) (hL : 0 < L) (h : FarInv S L Z (2 * n) b out) : FarInv S L Z n (twiceAt S L b (L * L)) out := by
  obtain ⟨h1, h2, h3, h4, h5⟩ := h
  refine ⟨twiceAt_length _ _ _ _, twiceAt_ok hS _, h3, h4, ?_⟩
  exact (timesB (fun u hu => twice_op hL hu) n (rat out) (h3 ▸ rat_per out)).trans h5
theorem FarInv.fin {S L : Nat} {Z b out : List Int} (hZ : cellsOk S Z) (hz : Z.length = L) (h : FarInv S L Z 0 b out) : out = Z := by
  obtain ⟨h1, h2, h3, h4, h5⟩ := h
  exact ring_only h4 hZ (by rw [h3, hz]) h5
theorem timesOp {S L k : Nat} {c s : Nat → Int} {b : List Int} (h : ∀ u, Per L u → Eqv S (opB L b u) (opF c s k u)) : ∀ (n : Nat) (u : Int → Int), Per L u → Eqv S (timesF (coefF b) (fun k => (k : Int)) L n u) (timesF c s k n u)
  | 0, u, hu => Eqv.refl _ _
  | n + 1, u, hu => by
    have hp : Per L (opB L b u) := hu.op _ _ L
    exact (timesOp h n (opB L b u) hp).trans (Eqv.times c s k n (h u hu))
theorem FarInv.start {S R L n : Nat} {cs ws : List Int} (hS : 0 < S) (hL : 0 < L) (hw : cellsOk S ws) (hl : ws.length = L) : FarInv S L (manyA S R 1 cs n ws) n (byAt S R L cs (2 * R + 1)) ws := by
  refine ⟨byAt_length _ _ _ _ _, byAt_ok hS _, hl, hw, ?_⟩
  have hp : Per L (rat ws) := hl ▸ rat_per ws
  exact (timesOp (fun u hu => byAt_op hL hu (2 * R + 1)) n (rat ws) hp).trans (rat_manyA hS n ws (by omega)).symm
end Go.Proofs.YtjjdjdodhedihaaDoor

