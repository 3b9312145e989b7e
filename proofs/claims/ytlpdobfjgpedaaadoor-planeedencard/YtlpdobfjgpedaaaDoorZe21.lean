/-
  What the last text of this claim leans on, part 21: Bkb, Bkd, Bke, Bkf, Ga0.
-/
import Derived.Test.YtlpdobfjgpedaaaDoorZe20
import Derived.Test.YtlpdobfjgpedaaaDoorZe10
namespace Go.Proofs.YtlpdobfjgpedaaaDoor
open Go.RowKit
set_option linter.unusedVariables false
theorem step_append_none {ops : Array Oper} {o : Oper} {a : Act} {w : World} {K : Act → World → Prop} {Q : Exit → Act → World → Prop} {E : Prop} {a0 : Option Addr} {c : Nat} (hgd : o.guard = none) (s x : Operand)
    (ho : o.op = .call { callee := .builtin .append, args := #[s, x], argTypes := #[22, 22] }) (ht : o.type = 22) (hs : a.eval s = .slice none 0 0) (hx : a.eval x = .slice a0 0 c)
    (hrun : ∀ w, (Builtin.append_ #[22, 22] 22 #[.slice none 0 0, .slice a0 0 c]).run Tryd.prog w = .ok (.slice none 0 0) w) (h : K (a.put o.dst (.slice none 0 0)) w) :
    if Region.wanted o (yielded ops a.tmps) = true then Oper.wp Tryd.prog o a w K Q else E := by
  have hw : Region.wanted o (yielded ops a.tmps) = true := by simp [Region.wanted, hgd]
  rw [if_pos hw]
  unfold Oper.wp
  simp [execOp, ho, ht, resolve, invoke, builtin, hs, hx, hrun, Result.andThen]
  exact h
theorem cut2P {A B : Type} {P Φ : A → B → Prop} {G : Prop} (h : (∀ a b, P a b → Φ a b) → G) (k : ∀ a b, P a b → Φ a b) : G := h k
def RunNil (W H : Nat) (w : World) (e : Ending) (w' : World) : Prop := e = .returned (.tuple #[.agg #[.int .i64 (W : Int), .int .i64 (H : Int), .slice none 0 0], .nilIface]) ∧ Below w.heap.size w w'
structure R4z (w w2 V : World) (W H pO : Nat) : Prop where
  keep : ∀ k, k < w2.heap.size → V.heap[k]? = w2.heap[k]?
  pat : V.heap[pO]? = some (.cells #[.int .i64 (W : Int), .int .i64 (H : Int), .slice none 0 0] 26 (0, 0))
  po : w2.heap.size ≤ pO
  below : Below w.heap.size w V
end Go.Proofs.YtlpdobfjgpedaaaDoor

namespace Go.Proofs.YtlpdobfjgpedaaaDoor
open Go.RowKit
set_option linter.unusedVariables false
theorem newB_at {W H V U ph j k : Nat} (e : Evn W H V U) (hp : ph ≤ 1) (hj : j < U * V) (hk : k < 4) (tv f : Nat → Nat) : newB tv W H ph f (plc W H ph j k) = dg (tv (nbB f W H ph j)) k := by
  obtain ⟨-, a, b⟩ := of_plc e hp hj hk
  unfold newB
  rw [a, b]
theorem nbB_lt {f : Nat → Nat} (hf : ∀ i, f i ≤ 1) (W H ph j : Nat) : nbB f W H ph j < 16 := by
  unfold nbB
  have := hf (plc W H ph j 0)
  have := hf (plc W H ph j 1)
  have := hf (plc W H ph j 2)
  have := hf (plc W H ph j 3)
  omega
theorem dg_nbB {f : Nat → Nat} (hf : ∀ i, f i ≤ 1) (W H ph j : Nat) {k : Nat} (hk : k < 4) : dg (nbB f W H ph j) k = f (plc W H ph j k) := by
  have a0 := hf (plc W H ph j 0)
  have a1 := hf (plc W H ph j 1)
  have a2 := hf (plc W H ph j 2)
  have a3 := hf (plc W H ph j 3)
  unfold nbB
  have : k = 0 ∨ k = 1 ∨ k = 2 ∨ k = 3 := by omega
  rcases this with rfl | rfl | rfl | rfl <;> unfold dg <;> omega
theorem nbB_new {W H V U ph j : Nat} (e : Evn W H V U) (hp : ph ≤ 1) (hj : j < U * V) {tv : Nat → Nat} (ht : ∀ k, k < 16 → tv k < 16) {f : Nat → Nat} (hf : ∀ i, f i ≤ 1) : nbB (newB tv W H ph f) W H ph j = tv (nbB f W H ph j) := by
  have n := num16 (ht _ (nbB_lt hf W H ph j))
  rw [nbB, newB_at e hp hj (by omega), newB_at e hp hj (by omega), newB_at e hp hj (by omega), newB_at e hp hj (by omega)]
  exact n.symm
/-- A step of the undoing table undoes the step. -/
theorem newB_back {W H V U ph i : Nat} (e : Evn W H V U) (hp : ph ≤ 1) (hi : i < W * H) {tv bk : Nat → Nat} (ht : ∀ k, k < 16 → tv k < 16) (hb : ∀ k, k < 16 → bk (tv k) = k) {f : Nat → Nat} (hf : ∀ i, f i ≤ 1) : newB bk W H ph (newB tv W H ph f) i = f i := by
  obtain ⟨h1, h2, h3⟩ := plc_of e hp hi
  rw [newB, nbB_new e hp h1 ht hf, hb _ (nbB_lt hf W H ph _), dg_nbB hf W H ph _ h2, h3]
theorem nbB_congr {W H V U ph j : Nat} (e : Evn W H V U) (hp : ph ≤ 1) (hj : j < U * V) {f g : Nat → Nat} (h : ∀ i, i < W * H → f i = g i) : nbB f W H ph j = nbB g W H ph j := by
  unfold nbB
  rw [h _ (of_plc e hp hj (show 0 < 4 by omega)).1, h _ (of_plc e hp hj (show 1 < 4 by omega)).1, h _ (of_plc e hp hj (show 2 < 4 by omega)).1, h _ (of_plc e hp hj (show 3 < 4 by omega)).1]
theorem newB_congr {W H V U ph i : Nat} (e : Evn W H V U) (hp : ph ≤ 1) (hi : i < W * H) (tv : Nat → Nat) {f g : Nat → Nat} (h : ∀ i, i < W * H → f i = g i) : newB tv W H ph f i = newB tv W H ph g i := by
  unfold newB
  rw [nbB_congr e hp (plc_of e hp hi).1 h]
theorem runB_congr {W H V U ph : Nat} (e : Evn W H V U) (hp : ph ≤ 1) (tv : Nat → Nat) {f g : Nat → Nat} (h : ∀ i, i < W * H → f i = g i) : ∀ n i, i < W * H → runB tv W H ph f n i = runB tv W H ph g n i
  | 0, i, hi => h i hi
  | n + 1, i, hi => by
    rw [runB, runB]
    split
    · exact newB_congr e hp hi tv (fun i hi => runB_congr e hp tv h n i hi)
    · exact newB_congr e (by omega) hi tv (fun i hi => runB_congr e hp tv h n i hi)
/-- The first step taken off. -/
theorem runB_shift (tv : Nat → Nat) (W H ph : Nat) (hp : ph ≤ 1) (f : Nat → Nat) : ∀ n, runB tv W H ph f (n + 1) = runB tv W H (1 - ph) (newB tv W H ph f) n
  | 0 => by show (if 0 % 2 = 0 then newB tv W H ph (runB tv W H ph f 0) else newB tv W H (1 - ph) (runB tv W H ph f 0)) = _; rw [if_pos (by omega)]; rfl
  | n + 1 => by
    rw [runB, runB_shift tv W H ph hp f n, runB, show 1 - (1 - ph) = ph by omega]
    by_cases h : n % 2 = 0
    · rw [if_neg (by omega), if_pos h]
    · rw [if_pos (by omega), if_neg h]
/-- The phase of the s-th step. -/
def phS (ph s : Nat) : Nat := if s % 2 = 0 then ph else 1 - ph
theorem phS_le {ph : Nat} (hp : ph ≤ 1) (s : Nat) : phS ph s ≤ 1 := by unfold phS; split <;> omega
theorem runB_back {W H V U : Nat} (e : Evn W H V U) {tv bk : Nat → Nat} (ht : ∀ k, k < 16 → tv k < 16) (hb : ∀ k, k < 16 → bk (tv k) = k) {ph : Nat} (hp : ph ≤ 1) {f : Nat → Nat} (hf : ∀ i, f i ≤ 1) : ∀ n i, i < W * H → runB bk W H (phS ph (n + 1)) (runB tv W H ph f n) n i = f i
  | 0, i, hi => rfl
  | n + 1, i, hi => by
    have pe : phS ph (n + 1 + 1) = phS ph n := by unfold phS; rw [show (n + 1 + 1) % 2 = n % 2 by omega]
    have pf : 1 - phS ph n = phS ph (n + 1) := by
      unfold phS
      by_cases h : n % 2 = 0
      · rw [if_pos h, if_neg (by omega)]
      · rw [if_neg h, if_pos (by omega)]; omega
    have rn : runB tv W H ph f (n + 1) = newB tv W H (phS ph n) (runB tv W H ph f n) := by
      rw [runB]; unfold phS; split <;> rfl
    rw [pe, runB_shift bk W H _ (phS_le hp n), pf, rn]
    rw [runB_congr e (phS_le hp (n + 1)) bk (fun i hi => newB_back e (phS_le hp n) hi ht hb (fun i => runB_le hf n i)) n i hi]
    exact runB_back e ht hb hp hf n i hi
def sumB (g : Nat → Nat) : Nat → Nat
  | 0 => 0
  | n + 1 => sumB g n + g n
theorem sumB_ext {g h : Nat → Nat} : ∀ n, (∀ i, i < n → g i = h i) → sumB g n = sumB h n
  | 0, _ => rfl
  | n + 1, e => by rw [sumB, sumB, sumB_ext n (fun i hi => e i (by omega)), e n (by omega)]
theorem sumB_set (g : Nat → Nat) (p v : Nat) : ∀ n, p < n → sumB (fun i => if i = p then v else g i) n + g p = sumB g n + v
  | 0, h => by omega
  | n + 1, h => by
    rw [sumB, sumB]
    by_cases e : p = n
    · subst e
      have := sumB_ext (g := fun i => if i = p then v else g i) (h := g) p (fun i hi => if_neg (by omega))
      rw [this]
      try dsimp only
      rw [if_pos rfl]; omega
    · have := sumB_set g p v n (by omega)
      try dsimp only
      rw [if_neg (by omega)]; omega
theorem par_sum {W H V U ph j m : Nat} (e : Evn W H V U) (hp : ph ≤ 1) (hj : j < U * V) (hm : m < 4) (tv f : Nat → Nat) : sumB (parB tv W H ph f j (m + 1)) (W * H) + f (plc W H ph j m) = sumB (parB tv W H ph f j m) (W * H) + dg (tv (nbB f W H ph j)) m := by
  obtain ⟨l, a, b⟩ := of_plc e hp hj hm
  have s := sumB_set (parB tv W H ph f j m) (plc W H ph j m) (dg (tv (nbB f W H ph j)) m) (W * H) l
  rw [sumB_ext (W * H) (fun i hi => par_set e hp hj hm tv f i hi)] at s
  have pv : parB tv W H ph f j m (plc W H ph j m) = f (plc W H ph j m) := by
    unfold parB
    rw [a, b, if_neg (by omega)]
  rw [pv] at s
  exact s
/-- What is kept in each block is kept. -/
theorem newB_sum {W H V U ph : Nat} (e : Evn W H V U) (hp : ph ≤ 1) {tv : Nat → Nat} (hk : ∀ j, j < 16 → ones4 j = ones4 (tv j)) {f : Nat → Nat} (hf : ∀ i, f i ≤ 1) : sumB (newB tv W H ph f) (W * H) = sumB f (W * H) := by
  have st : ∀ j, j ≤ U * V → sumB (parB tv W H ph f j 0) (W * H) = sumB f (W * H) := by
    intro j
    induction j with
    | zero => intro _; exact sumB_ext _ (fun i _ => par_start tv W H ph f i)
    | succ j ih =>
      intro hj
      have i0 := ih (by omega)
      have a0 := par_sum e hp (show j < U * V by omega) (show 0 < 4 by omega) tv f
      have a1 := par_sum e hp (show j < U * V by omega) (show 1 < 4 by omega) tv f
      have a2 := par_sum e hp (show j < U * V by omega) (show 2 < 4 by omega) tv f
      have a3 := par_sum e hp (show j < U * V by omega) (show 3 < 4 by omega) tv f
      have k := hk _ (nbB_lt hf W H ph j)
      unfold ones4 at k
      rw [dg_nbB hf W H ph j (by omega), dg_nbB hf W H ph j (by omega), dg_nbB hf W H ph j (by omega), dg_nbB hf W H ph j (by omega)] at k
      have nx := sumB_ext (W * H) (fun i hi => par_next (j := j) e hp tv f i hi)
      rw [← nx]
      simp only [Nat.zero_add, Nat.reduceAdd] at a0 a1 a2 a3
      omega
  rw [← st (U * V) (Nat.le_refl _)]
  exact (sumB_ext _ (fun i hi => par_end e hp tv f i hi)).symm
theorem runB_sum {W H V U ph : Nat} (e : Evn W H V U) (hp : ph ≤ 1) {tv : Nat → Nat} (hk : ∀ j, j < 16 → ones4 j = ones4 (tv j)) {f : Nat → Nat} (hf : ∀ i, f i ≤ 1) : ∀ n, sumB (runB tv W H ph f n) (W * H) = sumB f (W * H)
  | 0 => rfl
  | n + 1 => by
    rw [runB]
    split
    · rw [newB_sum e hp hk (fun i => runB_le hf n i), runB_sum e hp hk hf n]
    · rw [newB_sum e (by omega) hk (fun i => runB_le hf n i), runB_sum e hp hk hf n]
end Go.Proofs.YtlpdobfjgpedaaaDoor

namespace Go.Proofs.YtlpdobfjgpedaaaDoor
open Go.RowKit
set_option linter.unusedVariables false
theorem wrap2 {U a b : Nat} (hU : 0 < U) (h : a ≤ 2 * U) (hb : b = if a = 2 * U then 0 else a) : a % (2 * U) = b := by rw [wrapX hU h, hb]
/-- The places of a block, looked at from the other side. -/
theorem turnX {U ph x e : Nat} (hx : x < 2 * U) (hp : ph ≤ 1) (he : e ≤ 1) : 2 * U - 1 - (ph + 2 * bX U ph x + e) % (2 * U) = (ph + 2 * bX U ph (2 * U - 1 - x) + (1 - e)) % (2 * U) := by
  obtain ⟨l1, -⟩ := bX_of hx hp
  obtain ⟨l2, -⟩ := bX_of (show 2 * U - 1 - x < 2 * U by omega) hp
  rw [wrapX (by omega) (by omega), wrapX (by omega) (by omega)]
  unfold bX
  have p2 : ph = 0 ∨ ph = 1 := by omega
  have e2 : e = 0 ∨ e = 1 := by omega
  rcases p2 with rfl | rfl <;> rcases e2 with rfl | rfl
  all_goals (repeat' split) <;> omega
def sig (k : Nat) : Nat := (1 - k % 2) * 2 + k / 2
theorem dg_qtr (m : Nat) {k : Nat} (hk : k < 4) : dg (qtrN m) k = dg m (sig k) := by
  have l0 := dg_le m 0
  have l1 := dg_le m 1
  have l2 := dg_le m 2
  have l3 := dg_le m 3
  have : k = 0 ∨ k = 1 ∨ k = 2 ∨ k = 3 := by omega
  unfold qtrN sig
  rcases this with rfl | rfl | rfl | rfl
  · show dg _ 0 = dg m 2; rw [show ∀ n, dg n 0 = n % 2 from fun n => by simp [dg]]; omega
  · show dg _ 1 = dg m 0; rw [show ∀ n, dg n 1 = n / 2 % 2 from fun n => by simp [dg]]; omega
  · show dg _ 2 = dg m 3; rw [show ∀ n, dg n 2 = n / 4 % 2 from fun n => by simp [dg]]; omega
  · show dg _ 3 = dg m 1; rw [show ∀ n, dg n 3 = n / 8 % 2 from fun n => by simp [dg]]; omega
/-- A pattern's cells, turned by a quarter. -/
def qF (W H : Nat) (f : Nat → Nat) (i : Nat) : Nat := f ((H - 1 - i % H) * W + i / H)
theorem qF_plc {W H V U ph i k : Nat} (e : Evn W H V U) (hp : ph ≤ 1) (hi : i < H * W) (hk : k < 4) (f : Nat → Nat) : qF W H f (plc H W ph (bI H W ph i) k) = f (plc W H ph (bI W H ph ((H - 1 - i % H) * W + i / H)) (sig k)) := by
  obtain ⟨e1, e2⟩ := e.half
  have H0 : 0 < H := by rcases Nat.eq_zero_or_pos H with h | h; · rw [h] at hi; simp at hi
                        · exact h
  have hy : i / H < W := Nat.div_lt_of_lt_mul hi
  have hx : i % H < H := Nat.mod_lt _ H0
  obtain ⟨x, hxx⟩ : ∃ x, i % H = x := ⟨_, rfl⟩
  obtain ⟨y, hyy⟩ : ∃ y, i / H = y := ⟨_, rfl⟩
  rw [hxx] at hx
  rw [hyy] at hy
  have W0 : 0 < W := by omega
  have i1 : ((H - 1 - x) * W + y) / W = H - 1 - x := by rw [Nat.mul_comm, Nat.mul_add_div W0, Nat.div_eq_of_lt hy, Nat.add_zero]
  have i2 : ((H - 1 - x) * W + y) % W = y := by rw [Nat.mul_comm, Nat.mul_add_mod, Nat.mod_eq_of_lt hy]
  obtain ⟨bx, -⟩ := bX_of (V := U) (show x < 2 * U by rw [← e.h]; exact hx) hp
  obtain ⟨by', -⟩ := bX_of (V := V) (show y < 2 * V by rw [← e.w]; exact hy) hp
  have V0 : 0 < V := by omega
  have U0 : 0 < U := by omega
  unfold qF plc bI
  rw [hxx, hyy, i1, i2, e1, e2]
  have a1 : (bX V ph y * U + bX U ph x) / U = bX V ph y := by rw [Nat.mul_comm, Nat.mul_add_div U0, Nat.div_eq_of_lt bx, Nat.add_zero]
  have a2 : (bX V ph y * U + bX U ph x) % U = bX U ph x := by rw [Nat.mul_comm, Nat.mul_add_mod, Nat.mod_eq_of_lt bx]
  have a3 : (bX U ph (H - 1 - x) * V + bX V ph y) / V = bX U ph (H - 1 - x) := by rw [Nat.mul_comm, Nat.mul_add_div V0, Nat.div_eq_of_lt by', Nat.add_zero]
  have a4 : (bX U ph (H - 1 - x) * V + bX V ph y) % V = bX V ph y := by rw [Nat.mul_comm, Nat.mul_add_mod, Nat.mod_eq_of_lt by']
  rw [a1, a2, a3, a4]
  have c1 : (ph + 2 * bX U ph x + k % 2) % H < H := Nat.mod_lt _ H0
  have d1 : ((ph + 2 * bX V ph y + k / 2) % W * H + (ph + 2 * bX U ph x + k % 2) % H) % H = (ph + 2 * bX U ph x + k % 2) % H := by rw [Nat.mul_comm, Nat.mul_add_mod, Nat.mod_eq_of_lt c1]
  have d2 : ((ph + 2 * bX V ph y + k / 2) % W * H + (ph + 2 * bX U ph x + k % 2) % H) / H = (ph + 2 * bX V ph y + k / 2) % W := by rw [Nat.mul_comm, Nat.mul_add_div H0, Nat.div_eq_of_lt c1, Nat.add_zero]
  rw [d1, d2]
  have t := turnX (U := U) (ph := ph) (x := x) (e := k % 2) (by rw [← e.h]; exact hx) hp (by omega)
  rw [← e.h] at t
  unfold sig
  rw [show ((1 - k % 2) * 2 + k / 2) / 2 = 1 - k % 2 by omega, show ((1 - k % 2) * 2 + k / 2) % 2 = k / 2 by omega, t]
/-- A step of a turned pattern is the step, turned. -/
theorem newB_turn {W H V U ph i : Nat} (e : Evn W H V U) (hp : ph ≤ 1) (hi : i < H * W) {tv : Nat → Nat} (ht : ∀ k, k < 16 → tv k < 16) (hq : ∀ j, j < 16 → tv (qtrN j) = qtrN (tv j)) {f : Nat → Nat} (hf : ∀ i, f i ≤ 1) : newB tv H W ph (qF W H f) i = qF W H (newB tv W H ph f) i := by
  have H0 : 0 < H := by rcases Nat.eq_zero_or_pos H with h | h; · rw [h] at hi; simp at hi
                        · exact h
  have hy : i / H < W := Nat.div_lt_of_lt_mul hi
  have hx : i % H < H := Nat.mod_lt _ H0
  have W0 : 0 < W := Nat.lt_of_le_of_lt (Nat.zero_le _) hy
  have i1 : ((H - 1 - i % H) * W + i / H) / W = H - 1 - i % H := by rw [Nat.mul_comm, Nat.mul_add_div W0, Nat.div_eq_of_lt hy, Nat.add_zero]
  have i2 : ((H - 1 - i % H) * W + i / H) % W = i / H := by rw [Nat.mul_comm, Nat.mul_add_mod, Nat.mod_eq_of_lt hy]
  have kk : bK W ph ((H - 1 - i % H) * W + i / H) = sig (bK H ph i) := by
    have := e.h
    unfold bK sig
    rw [i1, i2]
    omega
  have k4 : bK H ph i < 4 := by unfold bK; omega
  have nb : nbB (qF W H f) H W ph (bI H W ph i) = qtrN (nbB f W H ph (bI W H ph ((H - 1 - i % H) * W + i / H))) := by
    unfold qtrN
    rw [dg_nbB hf _ _ _ _ (by omega), dg_nbB hf _ _ _ _ (by omega), dg_nbB hf _ _ _ _ (by omega), dg_nbB hf _ _ _ _ (by omega)]
    rw [nbB, qF_plc e hp hi (show 0 < 4 by omega), qF_plc e hp hi (show 1 < 4 by omega), qF_plc e hp hi (show 2 < 4 by omega), qF_plc e hp hi (show 3 < 4 by omega)]
    rfl
  show dg (tv (nbB (qF W H f) H W ph (bI H W ph i))) (bK H ph i) = newB tv W H ph f ((H - 1 - i % H) * W + i / H)
  rw [nb, hq _ (nbB_lt hf W H ph _), dg_qtr _ k4, newB, kk]
theorem qF_congr {W H i : Nat} (hi : i < H * W) {f g : Nat → Nat} (h : ∀ i, i < W * H → f i = g i) : qF W H f i = qF W H g i := by
  have H0 : 0 < H := by rcases Nat.eq_zero_or_pos H with h | h; · rw [h] at hi; simp at hi
                        · exact h
  have hy : i / H < W := Nat.div_lt_of_lt_mul hi
  have hx : i % H < H := Nat.mod_lt _ H0
  unfold qF
  refine h _ ?_
  have := Nat.mul_le_mul_right W (show (H - 1 - i % H) + 1 ≤ H by omega)
  rw [Nat.add_mul, Nat.mul_comm H W] at this
  omega
theorem Evn.swap {W H V U : Nat} (e : Evn W H V U) : Evn H W U V := ⟨e.h, e.w⟩
/-- Steps of a turned pattern are the steps, turned. -/
theorem runB_turn {W H V U ph : Nat} (e : Evn W H V U) (hp : ph ≤ 1) {tv : Nat → Nat} (ht : ∀ k, k < 16 → tv k < 16) (hq : ∀ j, j < 16 → tv (qtrN j) = qtrN (tv j)) {f : Nat → Nat} (hf : ∀ i, f i ≤ 1) : ∀ n i, i < H * W → runB tv H W ph (qF W H f) n i = qF W H (runB tv W H ph f n) i
  | 0, i, hi => rfl
  | n + 1, i, hi => by
    have ih := runB_turn e hp ht hq hf n
    rw [runB, runB]
    split
    · rw [newB_congr e.swap hp hi tv ih]
      exact newB_turn e hp hi ht hq (fun i => runB_le hf n i)
    · rw [newB_congr e.swap (show 1 - ph ≤ 1 by omega) hi tv ih]
      exact newB_turn e (by omega) hi ht hq (fun i => runB_le hf n i)
end Go.Proofs.YtlpdobfjgpedaaaDoor

namespace Go.Proofs.YtlpdobfjgpedaaaDoor
open Go.RowKit
set_option linter.unusedVariables false
/-- A table's numbers, a pattern's cells. -/
def tvF (t : List Int) (k : Nat) : Nat := (t.getD k 0).toNat
def cfF (xs : List Int) (k : Nat) : Nat := (xs.getD k 0).toNat
theorem tabE_zero {t : List Int} (h : tabE t = 0) : t.length = 16 ∧ ∀ k, k < 16 → t.getD k 0 = (tvF t k : Int) ∧ tvF t k < 16 := by
  unfold tabE at h
  split at h
  · rename_i hl
    split at h
    · rename_i ha
      refine ⟨hl, fun k hk => ?_⟩
      have m := List.all_eq_true.1 ha (t[k]'(by omega)) (List.getElem_mem _)
      have e : t.getD k 0 = t[k]'(by omega) := by simp [List.getD, show k < t.length by omega]
      unfold in16 at m
      simp at m
      unfold tvF
      rw [e]
      omega
    · omega
  · omega
theorem tab_TbB {t : List Int} {w : World} {a : Option Addr} {n c : Nat} (hP : ArgP w t a n c) (h : tabE t = 0) : n = 16 ∧ TbB w a (tvF t) := by
  obtain ⟨hl, hv⟩ := tabE_zero h
  have hn := hP.len
  obtain ⟨g, off, e, hg, -⟩ := hP.cells 0 (by omega)
  refine ⟨by omega, fun k hk => (hv k hk).2, g, off, e, hg, fun k hk => ?_⟩
  obtain ⟨g', off', e', hg', hc⟩ := hP.cells k (by omega)
  rw [e] at e'
  cases e'
  rw [hc]
  have e2 : t.getD k 0 = t[k]'(by omega) := by simp [List.getD, show k < t.length by omega]
  rw [← (hv k hk).1, e2]
theorem shape_sidesB {W H : Int} {xs : List Int} (h : shapeF W H xs = 0) : ∃ Wn Hn : Nat, W = (Wn : Int) ∧ H = (Hn : Int) ∧ Wn ≤ 100 ∧ Hn ≤ 100 ∧ xs.length = Wn * Hn ∧ ∀ k, 0 ≤ xs.getD k 0 ∧ xs.getD k 0 ≤ 1 := by
  unfold shapeF at h
  split at h
  · rename_i hs
    split at h
    · rename_i hl
      split at h
      · rename_i ha
        simp only [Bool.and_eq_true] at hs
        unfold sideB at hs
        simp at hs
        refine ⟨W.toNat, H.toNat, by omega, by omega, by omega, by omega, ?_, fun k => ?_⟩
        · have e : ((W.toNat * H.toNat : Nat) : Int) = W * H := by rw [Int.natCast_mul, Int.toNat_of_nonneg (by omega), Int.toNat_of_nonneg (by omega)]
          omega
        · by_cases q : k < xs.length
          · have := List.all_eq_true.1 ha xs[k] (List.getElem_mem q)
            have e : xs.getD k 0 = xs[k] := by simp [List.getD, q]
            rw [e]
            unfold cellB at this
            simp at this
            omega
          · have e : xs.getD k 0 = 0 := by simp [List.getD, q]
            rw [e]; omega
      · omega
    · omega
  · omega
theorem runE_zero {t : List Int} {W H : Int} {xs : List Int} {ph k : Int} (h : runE t W H xs ph k = 0) : tabE t = 0 ∧ ∃ Wn Hn V U p n : Nat, W = (Wn : Int) ∧ H = (Hn : Int) ∧ Wn ≤ 100 ∧ Hn ≤ 100 ∧ Evn Wn Hn V U ∧ ph = (p : Int) ∧ p ≤ 1 ∧ k = (n : Int) ∧ n ≤ 100000 ∧ xs.length = Wn * Hn ∧ (∀ i, 0 ≤ xs.getD i 0 ∧ xs.getD i 0 ≤ 1) ∧ shapeF W H xs = 0 := by
  unfold runE at h
  by_cases h1 : tabE t ≠ 0
  · rw [if_pos h1] at h; exact absurd h h1
  · rw [if_neg h1] at h
    by_cases h2 : shapeF W H xs ≠ 0
    · rw [if_pos h2] at h; exact absurd h h2
    · rw [if_neg h2] at h
      have s0 : shapeF W H xs = 0 := by omega
      by_cases h3 : W % 2 ≠ 0 ∨ H % 2 ≠ 0
      · rw [if_pos h3] at h; omega
      · rw [if_neg h3] at h
        by_cases h4 : ph ≠ 0 ∧ ph ≠ 1
        · rw [if_pos h4] at h; omega
        · rw [if_neg h4] at h
          by_cases h5 : k < 0 ∨ 100000 < k
          · rw [if_pos h5] at h; omega
          · obtain ⟨Wn, Hn, rfl, rfl, hW, hH, hn, hx⟩ := shape_sidesB s0
            exact ⟨by omega, Wn, Hn, Wn / 2, Hn / 2, ph.toNat, k.toNat, rfl, rfl, hW, hH, ⟨by omega, by omega⟩, by omega, by omega, by omega, by omega, hn, hx, s0⟩
theorem cf_list {xs : List Int} (hx : ∀ i, 0 ≤ xs.getD i 0 ∧ xs.getD i 0 ≤ 1) : xs = (List.range xs.length).map fun i => (cfF xs i : Int) := by
  refine List.ext_getElem (by simp) fun i h1 h2 => ?_
  have := hx i
  have e : xs.getD i 0 = xs[i] := by simp [List.getD, h1]
  simp only [List.getElem_map, List.getElem_range]
  unfold cfF
  rw [e] at this ⊢
  omega
theorem cf_le {xs : List Int} (hx : ∀ i, 0 ≤ xs.getD i 0 ∧ xs.getD i 0 ≤ 1) (i : Nat) : cfF xs i ≤ 1 := by unfold cfF; have := hx i; omega
/-- The cells behind so many steps. -/
def runL8 (t : List Int) (W H ph : Nat) (xs : List Int) (n : Nat) : List Int := (List.range (W * H)).map fun i => (runB (tvF t) W H ph (cfF xs) n i : Int)
def RunOut (W H : Nat) (ys : List Int) (w : World) (e : Ending) (w' : World) : Prop := ∃ a n c, e = .returned (.tuple #[.agg #[.int .i64 (W : Int), .int .i64 (H : Int), .slice a n c], .nilIface]) ∧ ArgP w' ys a n c ∧ Below w.heap.size w w'
theorem CA_arg {w : World} {g n c : Nat} {f : Nat → Nat} (h : CA w g n f) (hm : n ≤ maxLen) : ArgP w ((List.range n).map fun i => (f i : Int)) (some ⟨g, 0, none⟩) n c :=
  ⟨by simp, hm, fun k hk => ⟨g, 0, rfl, h.lt, by
    have hk' : k < n := by simpa using hk
    rw [Nat.zero_add, (h.cell hk').1]
    simp⟩⟩
end Go.Proofs.YtlpdobfjgpedaaaDoor

namespace Go.Proofs.YtlpdobfjgpedaaaDoor
open Go.RowKit
set_option linter.unusedVariables false
def ones6 (n : Nat) : Nat := n % 2 + n / 2 % 2 + n / 4 % 2 + n / 8 % 2 + n / 16 % 2 + n / 32 % 2
theorem ones6_le (n : Nat) : ones6 n ≤ 6 := by unfold ones6; omega
set_option maxRecDepth 100000 in
set_option maxHeartbeats 6400000 in
theorem ones64_any (n : Nat) (w : World) (hn : n < 64) : Calls Tryd.prog 92 #[.int .u64 (n : Int)] w fun e w' => e = .returned (.int .i64 (ones6 n : Int)) ∧ w' = w := by
  have : n = 0 ∨ n = 1 ∨ n = 2 ∨ n = 3 ∨ n = 4 ∨ n = 5 ∨ n = 6 ∨ n = 7 ∨ n = 8 ∨ n = 9 ∨ n = 10 ∨ n = 11 ∨ n = 12 ∨ n = 13 ∨ n = 14 ∨ n = 15 ∨ n = 16 ∨ n = 17 ∨ n = 18 ∨ n = 19 ∨ n = 20 ∨ n = 21 ∨ n = 22 ∨ n = 23 ∨ n = 24 ∨ n = 25 ∨ n = 26 ∨ n = 27 ∨ n = 28 ∨ n = 29 ∨ n = 30 ∨ n = 31 ∨ n = 32 ∨ n = 33 ∨ n = 34 ∨ n = 35 ∨ n = 36 ∨ n = 37 ∨ n = 38 ∨ n = 39 ∨ n = 40 ∨ n = 41 ∨ n = 42 ∨ n = 43 ∨ n = 44 ∨ n = 45 ∨ n = 46 ∨ n = 47 ∨ n = 48 ∨ n = 49 ∨ n = 50 ∨ n = 51 ∨ n = 52 ∨ n = 53 ∨ n = 54 ∨ n = 55 ∨ n = 56 ∨ n = 57 ∨ n = 58 ∨ n = 59 ∨ n = 60 ∨ n = 61 ∨ n = 62 ∨ n = 63 := by omega
  rcases this with rfl | rfl | rfl | rfl | rfl | rfl | rfl | rfl | rfl | rfl | rfl | rfl | rfl | rfl | rfl | rfl | rfl | rfl | rfl | rfl | rfl | rfl | rfl | rfl | rfl | rfl | rfl | rfl | rfl | rfl | rfl | rfl | rfl | rfl | rfl | rfl | rfl | rfl | rfl | rfl | rfl | rfl | rfl | rfl | rfl | rfl | rfl | rfl | rfl | rfl | rfl | rfl | rfl | rfl | rfl | rfl | rfl | rfl | rfl | rfl | rfl | rfl | rfl | rfl
  all_goals (
    go_enter Tryd.func92, Tryd.ntmps92
    go_wp2
    go_ret
    exact ⟨by kernel_rfl, rfl⟩)
end Go.Proofs.YtlpdobfjgpedaaaDoor

