/-
  What the last text of this claim leans on, part 15: Of4, Of5, Of6, Og1, Ry1, Og2, Og3, Og4, Pr15, Pr16, Pr17, Pr18.
-/
import Derived.Test.YtjjdjdodhedihaaDoorJl14
import Derived.Test.YtjjdjdodhedihaaDoorJl1
import Derived.Test.YtjjdjdodhedihaaDoorJl8
namespace Go.Proofs.YtjjdjdodhedihaaDoor
open Go.RowKit
set_option linter.unusedVariables false

def ClosedR (S n : Nat) (T : List Int) (il : List Bool) (tl : List Nat) (i : Nat) : Prop := ∀ m, m < i → ∀ c, OkWay S T (unP n (tl.getD m 0)) c → il.getD (codeP S n (tl.getD m 0) c) false = true
/-- What reach holds between its rounds. -/
structure RL (w W : World) (S R n : Nat) (T : List Int) (ta : Option Addr) (tn tc : Nat) (fl il : List Bool) (tl : List Nat) : Prop where
  tj : TJ W n (w.heap.size + 2) (w.heap.size + 1) (w.heap.size + 3) w.heap.size il tl
  pr : PR S n T fl il tl
  rb : Blk W w.heap.size #[.int .i64 2, .int .i64 0, .int .i64 0, .int .i64 (S : Int), .int .i64 (R : Int), .slice ta tn tc, .string ⟨#[]⟩] 24
  bl : Below w.heap.size w W
  sz : w.heap.size + 4 ≤ W.heap.size
def FromIn (fl il : List Bool) (N : Nat) : Prop := ∀ j, j < N → fl.getD j false = true → il.getD j false = true
theorem RL.next {w W W' : World} {S R n : Nat} {T : List Int} {ta : Option Addr} {tn tc : Nat} {fl il : List Bool} {tl : List Nat} (h : RL w W S R n T ta tn tc fl il tl) (k : Below W.heap.size W W') : RL w W' S R n T ta tn tc fl il tl :=
  ⟨h.tj.next k, h.pr, h.rb.of (k.block _ h.rb.lt), h.bl.trans (k.mono h.bl.size), Nat.le_trans h.sz k.size⟩
theorem RL.rk {w W W' : World} {S R n : Nat} {T : List Int} {ta : Option Addr} {tn tc : Nat} {fl il il' : List Bool} {tl tl' : List Nat} (h : RL w W S R n T ta tn tc fl il tl) (hj : TJ W' n (w.heap.size + 2) (w.heap.size + 1) (w.heap.size + 3) w.heap.size il' tl') (hp : PR S n T fl il' tl') (k : RK (w.heap.size + 1) (w.heap.size + 3) w.heap.size W W') : RL w W' S R n T ta tn tc fl il' tl' :=
  ⟨hj, hp, k.blk h.rb (by omega) (by omega) (by decide), h.bl.trans k.bl, Nat.le_trans h.sz k.bl.size⟩
/-- While pair k is looked at. -/
def PJ (w : World) (S R n : Nat) (T : List Int) (ta : Option Addr) (tn tc : Nat) (fl : List Bool) (i k j : Nat) (W : World) : Prop :=
  ∃ il tl, RL w W S R n T ta tn tc fl il tl ∧ FromIn fl il (n * n) ∧ i < tl.length ∧ tl.getD i 0 = k ∧ ClosedR S n T il tl i ∧ ∀ c : Nat × Nat, c.1 * S + c.2 < j → OkWay S T (unP n k) c → il.getD (codeP S n k c) false = true
theorem PJ.step {w W W' : World} {S R n : Nat} {T : List Int} {ta : Option Addr} {tn tc : Nat} {fl il : List Bool} {tl : List Nat} {i k j : Nat} (hn : 0 < n) (hr : RL w W S R n T ta tn tc fl il tl) (hf : FromIn fl il (n * n)) (hi : i < tl.length) (hk : tl.getD i 0 = k) (hc : ClosedR S n T il tl i) (hd : ∀ c : Nat × Nat, c.1 * S + c.2 < j → OkWay S T (unP n k) c → il.getD (codeP S n k c) false = true)
    (c : Nat × Nat) (hc2 : c.2 < S) (hj : j = c.1 * S + c.2) (hok : OkWay S T (unP n k) c) (htj : TJ W' n (w.heap.size + 2) (w.heap.size + 1) (w.heap.size + 3) w.heap.size (ilAfter il (codeP S n k c)) (tlAfter il tl (codeP S n k c))) (rk : RK (w.heap.size + 1) (w.heap.size + 3) w.heap.size W W') : PJ w S R n T ta tn tc fl i k (j + 1) W' := by
  have tl' := codeP_lt (S := S) (k := k) hn c
  have ill : codeP S n k c < il.length := by rw [hr.pr.len]; exact tl'
  have hkm : k ∈ tl := by rw [← hk, List.getD_eq_getElem?_getD, List.getElem?_eq_getElem hi]; exact List.getElem_mem hi
  obtain ⟨j0, cs, q1, q2, q3, q4⟩ := hr.pr.org k hkm
  have ke : endP S n (unP n j0) cs = unP n k := by
    rw [← q4, un_co (endP_lt hn cs _ (un_lt hn q1).1 (un_lt hn q1).2).2]
  refine ⟨_, _, hr.rk htj (hr.pr.add _ tl' ⟨j0, cs ++ [c], q1, q2, ?_, ?_⟩) rk, fun m hm h => il_mono ill (hf m hm h), (tl_left hi).2, by rw [(tl_left hi).1]; exact hk, fun m hm d hdo => ?_, fun d hlt hdo => ?_⟩
  · rw [okP_append, ke]; exact ⟨q3, hok, trivial⟩
  · rw [endP_append, ke]; rfl
  · rw [(tl_left (show m < tl.length by omega)).1] at hdo ⊢
    exact il_mono ill (hc m hm d hdo)
  · rcases Nat.lt_or_ge (d.1 * S + d.2) j with q | q
    · exact il_mono ill (hd d q hdo)
    · rw [show d = c from (cell_code hc2 hdo.2.1 (by omega : c.1 * S + c.2 = d.1 * S + d.2)).symm]
      exact il_here ill
theorem TJ.row {W : World} {n pi gi pt B0 : Nat} {il : List Bool} {tl : List Nat} (h : TJ W n pi gi pt B0 il tl) : ∃ a cap, Blk W pt #[.slice a tl.length cap] 22 ∧ (∀ i, i < tl.length → ∃ g, a = some ⟨g, 0, none⟩ ∧ W.cell? ⟨g, i, none⟩ = some (.int .i64 ((tl.getD i 0 : Nat) : Int))) := by
  obtain ⟨v, tb, hr⟩ := h.tv
  rcases hr.2 with ⟨rfl, h1⟩ | ⟨g, cap, cur, rfl, hg, hh, hc, hm, hs, ht⟩
  · rw [h1]; exact ⟨_, _, tb, fun i hi => by omega⟩
  · refine ⟨_, _, tb, fun i hi => ⟨g, rfl, ?_⟩⟩
    have e : (tl.map fun (y : Nat) => Value.int .i64 (y : Int))[i]? = some (.int .i64 ((tl.getD i 0 : Nat) : Int)) := by simp [List.getD, hi]
    rw [← ht, List.getElem?_take, if_pos (by omega)] at e
    simp only [World.cell?, hh]
    rw [← Array.getElem?_toList]
    exact e
end Go.Proofs.YtjjdjdodhedihaaDoor

namespace Go.Proofs.YtjjdjdodhedihaaDoor
open Go.RowKit
set_option linter.unusedVariables false

/-- From pair k unlike cells lead to one from which k is reached. -/
def TurnAt (S n : Nat) (T : List Int) (k : Nat) : Prop := ∃ c cs, OkWay S T (unP n k) c ∧ c.1 ≠ c.2 ∧ okP S n T (stepP S n (unP n k) c) cs ∧ endP S n (stepP S n (unP n k) c) cs = unP n k
theorem FJ.no {W : World} {S n k : Nat} {T : List Int} {pf gf pa B0 : Nat} {fl : List Bool} (h : FJ W S n k T pf gf pa B0 (S * S) fl false) : ¬ TurnAt S n T k := by
  rintro ⟨c, cs, h1, h2, _⟩
  have : (c.1 + 1) * S ≤ S * S := Nat.mul_le_mul_right _ h1.1
  rw [Nat.add_mul] at this
  have q := h1.2.1
  exact absurd (h.sa.2 ⟨c, by omega, h1, h2⟩) (by decide)
theorem FJ.start {W w1 : World} {S n N k : Nat} {T : List Int} (hN : n * n = N) (hw1 : ((W.alloc (.cells (madeCells #[.bool false] N) 4)).alloc (.cells #[.slice (some ⟨W.heap.size, 0, none⟩) N N] 90)).alloc (.cells #[.bool false] 4) = w1) : FJ w1 S n k T (W.heap.size + 1) W.heap.size (W.heap.size + 2) W.heap.size 0 (List.replicate N false) false ∧ Below W.heap.size W w1 := by
  rw [← hw1]
  refine ⟨⟨?_, ?_, ?_, by omega, by rw [hN]; simp, fun t ht => ?_, ?_, Nat.le_refl _, by omega⟩, ?_⟩
  · rw [hN]; exact (blk_new_at (by simp)).alloc _
  · have := ((Blk.new W (madeCells #[.bool false] N) 4).alloc (.cells #[.slice (some ⟨W.heap.size, 0, none⟩) N N] 90)).alloc (.cells #[.bool false] 4)
    rw [show ((List.replicate N false).map Value.bool).toArray = madeCells #[.bool false] N by
      apply Array.toList_inj.1
      rw [toList_madeCells_one]
      simp]
    exact this
  · exact blk_new_at (by simp)
  · constructor
    · intro h
      rw [List.getD_eq_getElem?_getD, List.getElem?_replicate] at h
      split at h <;> simp at h
    · rintro ⟨c, h, _⟩; omega
  · constructor
    · intro h; cases h
    · rintro ⟨c, h, _⟩; omega
  · exact (((Below.refl _ _).alloc (Nat.le_refl _) _).alloc (by simp) _).alloc (by simp; omega) _

theorem FJ.again {W : World} {S n k : Nat} {T : List Int} {pf gf pa B0 j : Nat} {fl : List Bool} (h : FJ W S n k T pf gf pa B0 j fl false) : FJ (W.setCell ⟨pa, 0, none⟩ (.bool false)) S n k T pf gf pa B0 j fl false := by
  have n2 : pf ≠ pa := by intro q; have h1 := h.ac; rw [← q] at h1; have := (show W.heap[pf]? = _ from h.fb).symm.trans h1; injection this with this; injection this with _ this _; revert this; decide
  exact ⟨h.fb.setOther n2 _, h.fc.setOther h.ne _, h.ac.set 0 (.bool false), h.ne, h.fl_, h.sp, h.sa, h.b1, h.b2⟩

end Go.Proofs.YtjjdjdodhedihaaDoor

namespace Go.Proofs.YtjjdjdodhedihaaDoor
set_option linter.unusedVariables false

end Go.Proofs.YtjjdjdodhedihaaDoor

namespace Go.Proofs.YtjjdjdodhedihaaDoor
set_option linter.unusedVariables false

/-- Cells i, .. read as a number, the first the highest. -/
def hn (S : Nat) (f : Nat → Nat) (i : Nat) : Nat → Nat
  | 0 => 0
  | m + 1 => hn S f i m * S + f (i + m)
theorem hn_lt {S : Nat} {f : Nat → Nat} (hf : ∀ t, f t < S) : ∀ (m i : Nat), hn S f i m < S ^ m
  | 0, i => by simp [hn]
  | m + 1, i => by
    have h1 := hn_lt hf m i
    have h2 := hf (i + m)
    have h3 : (hn S f i m + 1) * S ≤ S ^ m * S := Nat.mul_le_mul_right _ h1
    rw [Nat.add_mul] at h3
    rw [hn, Nat.pow_succ]
    omega
theorem hn_per {S L : Nat} {f : Nat → Nat} (hp : ∀ t, f (t + L) = f t) (i : Nat) : ∀ m, hn S f (i + L) m = hn S f i m
  | 0 => rfl
  | m + 1 => by rw [hn, hn, hn_per hp i m, show i + L + m = i + m + L by omega, hp]
end Go.Proofs.YtjjdjdodhedihaaDoor

namespace Go.Proofs.YtjjdjdodhedihaaDoor
set_option linter.unusedVariables false

/-- Each word makes the next. -/
def Makes (g : Nat → List Int) : Prop := ∀ i j, g i = g j → g (i + 1) = g (j + 1)
theorem Makes.add {g : Nat → List Int} (h : Makes g) {i j : Nat} (e : g i = g j) : ∀ d, g (i + d) = g (j + d)
  | 0 => e
  | d + 1 => h _ _ (h.add e d)
/-- Word m is the first that comes again, p steps behind. -/
structure First (g : Nat → List Int) (m p : Nat) : Prop where
  pos : 0 < p
  again : g m = g (m + p)
  ahead : ∀ i j, i < j → j < m + p → g i ≠ g j
theorem First.mul {g : Nat → List Int} {m p : Nat} (h : First g m p) (hg : Makes g) : ∀ k d, g (m + d) = g (m + d + k * p)
  | 0, d => by simp
  | k + 1, d => by
    have h1 := h.mul hg k d
    have h2 := hg.add h.again (d + k * p)
    rw [h1, show m + d + k * p = m + (d + k * p) by omega, h2]
    congr 1
    rw [Nat.add_mul, Nat.one_mul]
    omega
theorem First.low {g : Nat → List Int} {m p : Nat} (h : First g m p) (hg : Makes g) (d : Nat) : g (m + d) = g (m + d % p) := by
  have h1 := h.mul hg (d / p) (d % p)
  rw [h1]
  congr 1
  have := Nat.div_add_mod d p
  rw [Nat.mul_comm] at this
  omega
theorem First.same {g : Nat → List Int} {m p : Nat} (h : First g m p) (hg : Makes g) (d e : Nat) : g (m + d) = g (m + e) ↔ d % p = e % p := by
  have h1 := Nat.mod_lt d h.pos
  have h2 := Nat.mod_lt e h.pos
  rw [h.low hg d, h.low hg e]
  constructor
  · intro q
    rcases Nat.lt_trichotomy (d % p) (e % p) with c | c | c
    · exact absurd q (h.ahead _ _ (by omega) (by omega))
    · exact c
    · exact absurd q.symm (h.ahead _ _ (by omega) (by omega))
  · intro q; rw [q]
theorem First.alone {g : Nat → List Int} {m p : Nat} (h : First g m p) (hg : Makes g) {i j : Nat} (hi : i < m) (hj : i ≠ j) : g i ≠ g j := by
  intro q
  by_cases c : j < m + p
  · rcases Nat.lt_or_gt_of_ne hj with d | d
    · exact h.ahead i j d c q
    · exact h.ahead j i d (by omega) q.symm
  · obtain ⟨d, rfl⟩ : ∃ d, j = m + d := ⟨j - m, by omega⟩
    rw [h.low hg d] at q
    have h1 := Nat.mod_lt d h.pos
    exact h.ahead i _ (by omega) (by omega) q
/-- Where a slow one and a fast one meet. -/
theorem First.meet {g : Nat → List Int} {m p : Nat} (h : First g m p) (hg : Makes g) {n : Nat} (hn : 0 < n) : g n = g (2 * n) ↔ m ≤ n ∧ n % p = 0 := by
  constructor
  · intro q
    have hm : m ≤ n := by
      rcases Nat.lt_or_ge n m with c | c
      · exact absurd q (h.alone hg c (by omega))
      · exact c
    refine ⟨hm, ?_⟩
    obtain ⟨d, rfl⟩ : ∃ d, n = m + d := ⟨n - m, by omega⟩
    rw [show 2 * (m + d) = m + (d + (m + d)) by omega, h.same hg] at q
    have hp := h.pos
    have h1 : (m + d) % p = 0 := by
      have h2 := Nat.sub_mod_eq_zero_of_mod_eq q.symm
      rw [show d + (m + d) - d = m + d by omega] at h2
      exact h2
    exact h1
  · rintro ⟨hm, h0⟩
    obtain ⟨d, rfl⟩ : ∃ d, n = m + d := ⟨n - m, by omega⟩
    rw [show 2 * (m + d) = m + (d + (m + d)) by omega, h.same hg, Nat.add_mod, h0, Nat.add_zero, Nat.mod_mod]
/-- From the start, and from where they met, they meet at m. -/
theorem First.start {g : Nat → List Int} {m p : Nat} (h : First g m p) (hg : Makes g) {n : Nat} (hn : 0 < n) (h0 : n % p = 0) {k : Nat} (hk : k ≤ m) : g k = g (2 * n + k) ↔ k = m := by
  constructor
  · intro q
    rcases Nat.lt_or_ge k m with c | c
    · exact absurd q (h.alone hg c (by omega))
    · omega
  · rintro rfl
    have h1 := (h.same hg 0 (2 * n)).2 (by rw [Nat.two_mul, Nat.add_mod, h0, Nat.zero_mod])
    rw [Nat.add_zero] at h1
    rw [h1, Nat.add_comm]
/-- From there on it takes p steps. -/
theorem First.round {g : Nat → List Int} {m p : Nat} (h : First g m p) (hg : Makes g) {t : Nat} (ht : 0 < t) (hp : t ≤ p) : g m = g (m + t) ↔ t = p := by
  have h1 := h.same hg 0 t
  rw [Nat.add_zero] at h1
  rw [h1, Nat.zero_mod]
  constructor
  · intro q
    rcases Nat.lt_or_ge t p with c | c
    · rw [Nat.mod_eq_of_lt c] at q; omega
    · omega
  · rintro rfl; exact (Nat.mod_self _).symm
theorem First.only {g : Nat → List Int} {m p m' p' : Nat} (h : First g m p) (h' : First g m' p') : m + p = m' + p' ∧ m = m' := by
  have e : m + p = m' + p' := by
    rcases Nat.lt_trichotomy (m + p) (m' + p') with c | c | c
    · exact absurd h.again (h'.ahead _ _ (by have := h.pos; omega) c)
    · exact c
    · exact absurd h'.again (h.ahead _ _ (by have := h'.pos; omega) c)
  refine ⟨e, ?_⟩
  have a := h.again
  have b := h'.again
  have q : g m = g m' := by rw [a, b, e]
  rcases Nat.lt_trichotomy m m' with c | c | c
  · exact absurd q (h.ahead _ _ c (by have := h'.pos; omega))
  · exact c
  · exact absurd q.symm (h.ahead _ _ c (by have := h.pos; omega))
end Go.Proofs.YtjjdjdodhedihaaDoor

namespace Go.Proofs.YtjjdjdodhedihaaDoor
set_option linter.unusedVariables false

/-- A ring's cells, round and round. -/
def ringF (xs : List Int) (t : Nat) : Nat := (xs.getD (t % xs.length) 0).toNat
theorem ringF_per (xs : List Int) (t : Nat) : ringF xs (t + xs.length) = ringF xs t := by unfold ringF; rw [Nat.add_mod_right]
theorem ringF_lt {S : Nat} {xs : List Int} (hok : cellsOk S xs) (h : 0 < xs.length) (t : Nat) : ringF xs t < S := by
  have := cellsOk_at hok (Nat.mod_lt t h)
  unfold ringF
  omega
theorem ringF_rat {S : Nat} {xs : List Int} (hok : cellsOk S xs) (h : 0 < xs.length) {t : Nat} {z : Int} (e : (t : Int) % xs.length = z % xs.length) : rat xs z = ((ringF xs t : Nat) : Int) := by
  have h1 := cellsOk_at hok (Nat.mod_lt t h)
  unfold rat ringF
  rw [← e, ← Int.natCast_emod, Int.toNat_natCast]
  omega
theorem hn_perk {S L : Nat} {f : Nat → Nat} (hp : ∀ t, f (t + L) = f t) (i m : Nat) : ∀ k, hn S f (i + k * L) m = hn S f i m
  | 0 => by simp
  | k + 1 => by rw [Nat.add_mul, Nat.one_mul, ← Nat.add_assoc, hn_per hp, hn_perk hp i m k]
theorem wn_hn {S R : Nat} {xs : List Int} (hok : cellsOk S xs) (h : 0 < xs.length) {j i : Nat} (e : i + R = j + R * xs.length) :
    ∀ m, wn (S : Int) (fun d => rat xs ((j : Int) + d - R)) 0 m = ((hn S (ringF xs) i m : Nat) : Int)
  | 0 => rfl
  | m + 1 => by
    rw [wn, wn_hn hok h e m, hn, ringF_rat hok h (t := i + m) (by
      have e' : ((i + m : Nat) : Int) = ((j : Int) + (0 + m : Nat) - R) + R * (xs.length : Int) := by
        have : (i : Int) + R = j + (R * xs.length : Nat) := by omega
        push_cast at this ⊢
        omega
      rw [e', Int.add_mul_emod_self_right])]
    push_cast
    rfl
end Go.Proofs.YtjjdjdodhedihaaDoor

namespace Go.Proofs.YtjjdjdodhedihaaDoor
set_option linter.unusedVariables false

end Go.Proofs.YtjjdjdodhedihaaDoor

namespace Go.Proofs.YtjjdjdodhedihaaDoor
set_option linter.unusedVariables false

end Go.Proofs.YtjjdjdodhedihaaDoor

namespace Go.Proofs.YtjjdjdodhedihaaDoor
open Go.RowKit
set_option linter.unusedVariables false

/-- At block g a list of n ints of the call's own; what stands at f i, for i below k, is xs' i-th. -/
structure ScI (w0 w : World) (g n k : Nat) (f : Nat → Nat) (xs : List Int) : Prop where
  below : Below w0.heap.size w0 w
  ge : w0.heap.size ≤ g
  lt : g < w.heap.size
  cells : ∀ j, j < n → ∃ v, w.cell? ⟨g, j, none⟩ = some v ∧ (∀ i, i < k → f i = j → v = .int .i64 (xs.getD i 0))
  fz : ∀ j, w.frozen? ⟨g, j, none⟩ = false
theorem ScI.start (w : World) (n : Nat) (f : Nat → Nat) (xs : List Int) (z : Value) (t : TypeId) : ScI w (w.alloc (.cells (madeCells #[z] n) t)) w.heap.size n 0 f xs := by
  refine ⟨(Below.refl _ _).alloc (Nat.le_refl _) _, Nat.le_refl _, by simp, fun j hj => ⟨(madeCells #[z] n)[j]'(by rw [size_madeCells]; exact hj), ?_, fun i hi => by omega⟩, fun j => by simp⟩
  rw [World.cell?_alloc_at _ _ _ _ rfl]
  exact Array.getElem?_eq_getElem (by rw [size_madeCells]; exact hj)
theorem ScI.step {w0 w : World} {g n k : Nat} {f : Nat → Nat} {xs : List Int} (h : ScI w0 w g n k f xs) (hk : f k < n) (hinj : ∀ i, i < k → f i ≠ f k) {x : Int} (hx : xs.getD k 0 = x) : ScI w0 (w.setCell ⟨g, f k, none⟩ (.int .i64 x)) g n (k + 1) f xs := by
  refine ⟨h.below.setCell h.ge _, h.ge, by rw [World.size_setCell]; exact h.lt, fun j hj => ?_, fun j => by rw [World.frozen?_setCell]; exact h.fz j⟩
  by_cases e : j = f k
  · subst e
    obtain ⟨v, hv, -⟩ := h.cells _ hj
    refine ⟨_, World.cell?_setCell_same _ _ _ hv, fun i hi he => ?_⟩
    by_cases q : i = k
    · subst q; rw [hx]
    · exact absurd he (hinj i (by omega))
  · obtain ⟨v, hv, hv'⟩ := h.cells j hj
    refine ⟨v, ?_, fun i hi he => hv' i (by have : i ≠ k := fun q => e (by rw [← he, q]); omega) he⟩
    exact (World.cell?_setCell_other _ ⟨g, f k, none⟩ ⟨g, j, none⟩ _ (fun q => e (congrArg Addr.off q).symm)).trans hv

end Go.Proofs.YtjjdjdodhedihaaDoor

namespace Go.Proofs.YtjjdjdodhedihaaDoor
open Go.RowKit
set_option linter.unusedVariables false

end Go.Proofs.YtjjdjdodhedihaaDoor

namespace Go.Proofs.YtjjdjdodhedihaaDoor
open Go.RowKit
set_option linter.unusedVariables false

end Go.Proofs.YtjjdjdodhedihaaDoor

namespace Go.Proofs.YtjjdjdodhedihaaDoor
open Go.RowKit
set_option linter.unusedVariables false

def SM (w : World) (o : Out) (a : Option Addr) (n c : Nat) (w' : World) : Prop := w'.cell? ⟨w.heap.size, 0, none⟩ = some (.int .i64 o.kind) ∧ w'.cell? ⟨w.heap.size, 1, none⟩ = some (.int .i64 o.born) ∧ w'.cell? ⟨w.heap.size, 2, none⟩ = some (.int .i64 o.stay) ∧ w'.cell? ⟨w.heap.size, 3, none⟩ = some (.int .i64 o.states) ∧ w'.cell? ⟨w.heap.size, 4, none⟩ = some (.int .i64 o.radius) ∧ w'.cell? ⟨w.heap.size, 5, none⟩ = some (.slice a n c) ∧ w'.cell? ⟨w.heap.size, 6, none⟩ = some (.string o.turns) ∧ Hid (w.heap.size + 2 ≤ w'.heap.size ∧ Below w.heap.size w w')
theorem SM.block {w w1 w2 : World} {o : Out} {a : Option Addr} {n c : Nat} (h : SM w o a n c w1) (e : w2.heap[w.heap.size]? = w1.heap[w.heap.size]?) (hz : w.heap.size + 2 ≤ w2.heap.size) (hb : Below w.heap.size w w2) : SM w o a n c w2 := by
  obtain ⟨h0, h1, h2, h3, h4, h5, h6, h7⟩ := h
  obtain ⟨c0, c1, c2, c3, c4, c5, c6⟩ := Seven.block (g := w.heap.size) ⟨h0, h1, h2, h3, h4, h5, h6⟩ e
  exact ⟨c0, c1, c2, c3, c4, c5, c6, hide' ⟨hz, hb⟩⟩
theorem SM.next {w w1 w2 : World} {o : Out} {a : Option Addr} {n c : Nat} (h : SM w o a n c w1) (hb : Below w1.heap.size w1 w2) : SM w o a n c w2 := by
  have h7 := h.2.2.2.2.2.2.2.out
  exact h.block (hb.block _ (by omega)) (Nat.le_trans h7.1 hb.size) (h7.2.trans (hb.mono h7.2.size))
end Go.Proofs.YtjjdjdodhedihaaDoor

