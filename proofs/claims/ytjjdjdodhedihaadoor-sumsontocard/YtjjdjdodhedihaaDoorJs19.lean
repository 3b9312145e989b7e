/-
  What the last text of this claim leans on, part 19: Of4, Of5, Of6, Pr15, Pr16, Pr17, Pr18, Pr19, Ll5, Ll6, Ll7, Of7, Oj7, Oj8.
-/
import Derived.Test.YtjjdjdodhedihaaDoorJs18
import Derived.Test.YtjjdjdodhedihaaDoorJs6
import Derived.Test.YtjjdjdodhedihaaDoorJs7
import Derived.Test.YtjjdjdodhedihaaDoorJs17
import Derived.Test.YtjjdjdodhedihaaDoorJs14
import Derived.Test.YtjjdjdodhedihaaDoorJs16
namespace Go.Proofs.YtjjdjdodhedihaaDoor
open Go.RowKit
set_option linter.unusedVariables false

def ClosedR (S n : Nat) (T : List Int) (il : List Bool) (tl : List Nat) (i : Nat) : Prop := ∀ m, m < i → ∀ c, OkWay S T (unP n (tl.getD m 0)) c → il.getD (codeP S n (tl.getD m 0) c) false = true
/-- What reach holds between its rounds. -/
structure RL (w W : World) (S R n : Nat) (T : List Int) (ta : Option Addr) (tn tc : Nat) (fl il : List Bool) (tl : List Nat) : Prop where
  tj : TJ W n (w.heap.size + 2) (w.heap.size + 1) (w.heap.size + 3) w.heap.size il tl
  pr : PR S n T fl il tl
  rb : Blk W w.heap.size #[.int .i64 2, .int .i64 0, .int .i64 0, .int .i64 (S : Int), .int .i64 (R : Int), .slice ta tn tc, .string ⟨#[]⟩] 24
  bl : Below w.heap.size w W
  sz : w.heap.size + 4 ≤ W.heap.size
def FromIn (fl il : List Bool) (N : Nat) : Prop := ∀ j, j < N → fl.getD j false = true → il.getD j false = true
theorem RL.next {w W W' : World} {S R n : Nat} {T : List Int} {ta : Option Addr} {tn tc : Nat} {fl il : List Bool} {tl : List Nat} (h : RL w W S R n T ta tn tc fl il tl) (k : Below W.heap.size W W') : RL w W' S R n T ta tn tc fl il tl :=
  ⟨h.tj.next k, h.pr, h.rb.of (k.block _ h.rb.lt), h.bl.trans (k.mono h.bl.size), Nat.le_trans h.sz k.size⟩
theorem RL.rk {w W W' : World} {S R n : Nat} {T : List Int} {ta : Option Addr} {tn tc : Nat} {fl il il' : List Bool} {tl tl' : List Nat} (h : RL w W S R n T ta tn tc fl il tl) (hj : TJ W' n (w.heap.size + 2) (w.heap.size + 1) (w.heap.size + 3) w.heap.size il' tl') (hp : PR S n T fl il' tl') (k : RK (w.heap.size + 1) (w.heap.size + 3) w.heap.size W W') : RL w W' S R n T ta tn tc fl il' tl' :=
  ⟨hj, hp, k.blk h.rb (by omega) (by omega) (by decide), h.bl.trans k.bl, Nat.le_trans h.sz k.bl.size⟩
/-- While pair k is looked at. -/
def PJ (w : World) (S R n : Nat) (T : List Int) (ta : Option Addr) (tn tc : Nat) (fl : List Bool) (i k j : Nat) (W : World) : Prop :=
  ∃ il tl, RL w W S R n T ta tn tc fl il tl ∧ FromIn fl il (n * n) ∧ i < tl.length ∧ tl.getD i 0 = k ∧ ClosedR S n T il tl i ∧ ∀ c : Nat × Nat, c.1 * S + c.2 < j → OkWay S T (unP n k) c → il.getD (codeP S n k c) false = true
theorem PJ.step {w W W' : World} {S R n : Nat} {T : List Int} {ta : Option Addr} {tn tc : Nat} {fl il : List Bool} {tl : List Nat} {i k j : Nat} (hn : 0 < n) (hr : RL w W S R n T ta tn tc fl il tl) (hf : FromIn fl il (n * n)) (hi : i < tl.length) (hk : tl.getD i 0 = k) (hc : ClosedR S n T il tl i) (hd : ∀ c : Nat × Nat, c.1 * S + c.2 < j → OkWay S T (unP n k) c → il.getD (codeP S n k c) false = true)
    (c : Nat × Nat) (hc2 : c.2 < S) (hj : j = c.1 * S + c.2) (hok : OkWay S T (unP n k) c) (htj : TJ W' n (w.heap.size + 2) (w.heap.size + 1) (w.heap.size + 3) w.heap.size (ilAfter il (codeP S n k c)) (tlAfter il tl (codeP S n k c))) (rk : RK (w.heap.size + 1) (w.heap.size + 3) w.heap.size W W') : PJ w S R n T ta tn tc fl i k (j + 1) W' := by
  have tl' := codeP_lt (S := S) (k := k) hn c
  have ill : codeP S n k c < il.length := by rw [hr.pr.len]; exact tl'
  have hkm : k ∈ tl := by rw [← hk, List.getD_eq_getElem?_getD, List.getElem?_eq_getElem hi]; exact List.getElem_mem hi
  obtain ⟨j0, cs, q1, q2, q3, q4⟩ := hr.pr.org k hkm
  have ke : endP S n (unP n j0) cs = unP n k := by
    rw [← q4, un_co (endP_lt hn cs _ (un_lt hn q1).1 (un_lt hn q1).2).2]
  refine ⟨_, _, hr.rk htj (hr.pr.add _ tl' ⟨j0, cs ++ [c], q1, q2, ?_, ?_⟩) rk, fun m hm h => il_mono ill (hf m hm h), (tl_left hi).2, by rw [(tl_left hi).1]; exact hk, fun m hm d hdo => ?_, fun d hlt hdo => ?_⟩
  · rw [okP_append, ke]; exact ⟨q3, hok, trivial⟩
  · rw [endP_append, ke]; rfl
  · rw [(tl_left (show m < tl.length by omega)).1] at hdo ⊢
    exact il_mono ill (hc m hm d hdo)
  · rcases Nat.lt_or_ge (d.1 * S + d.2) j with q | q
    · exact il_mono ill (hd d q hdo)
    · rw [show d = c from (cell_code hc2 hdo.2.1 (by omega : c.1 * S + c.2 = d.1 * S + d.2)).symm]
      exact il_here ill
def ReachPost (S n : Nat) (T : List Int) (fl : List Bool) (w : World) (e : Ending) (w' : World) : Prop :=
  ∃ g il, e = .returned (.slice (some ⟨g, 0, none⟩) (n * n) (n * n)) ∧ Blk w' g (il.map Value.bool).toArray 4 ∧ il.length = n * n ∧ FromIn fl il (n * n) ∧ (∀ k, k < n * n → il.getD k false = true → ∀ c, OkWay S T (unP n k) c → il.getD (codeP S n k c) false = true) ∧
    (∀ k, k < n * n → il.getD k false = true → ∃ j cs, j < n * n ∧ fl.getD j false = true ∧ okP S n T (unP n j) cs ∧ coP n (endP S n (unP n j) cs) = k) ∧ Below w.heap.size w w'
theorem RL.ends {w W : World} {S R n : Nat} {T : List Int} {ta : Option Addr} {tn tc : Nat} {fl il : List Bool} {tl : List Nat} (h : RL w W S R n T ta tn tc fl il tl) (hf : FromIn fl il (n * n)) (hc : ClosedR S n T il tl tl.length) : ReachPost S n T fl w (.returned (.slice (some ⟨w.heap.size + 1, 0, none⟩) (n * n) (n * n))) W := by
  refine ⟨_, il, rfl, h.tj.ic, h.pr.len, hf, fun k hk hin c hok => ?_, fun k hk hin => h.pr.org k ((h.pr.seen k hk).1 hin), h.bl⟩
  obtain ⟨m, hm, e⟩ := List.getElem_of_mem ((h.pr.seen k hk).1 hin)
  have e' : tl.getD m 0 = k := by rw [List.getD_eq_getElem?_getD, List.getElem?_eq_getElem hm]; exact e
  have := hc m hm c (by rw [e']; exact hok)
  rw [e'] at this
  exact this
theorem TJ.row {W : World} {n pi gi pt B0 : Nat} {il : List Bool} {tl : List Nat} (h : TJ W n pi gi pt B0 il tl) : ∃ a cap, Blk W pt #[.slice a tl.length cap] 22 ∧ (∀ i, i < tl.length → ∃ g, a = some ⟨g, 0, none⟩ ∧ W.cell? ⟨g, i, none⟩ = some (.int .i64 ((tl.getD i 0 : Nat) : Int))) := by
  obtain ⟨v, tb, hr⟩ := h.tv
  rcases hr.2 with ⟨rfl, h1⟩ | ⟨g, cap, cur, rfl, hg, hh, hc, hm, hs, ht⟩
  · rw [h1]; exact ⟨_, _, tb, fun i hi => by omega⟩
  · refine ⟨_, _, tb, fun i hi => ⟨g, rfl, ?_⟩⟩
    have e : (tl.map fun (y : Nat) => Value.int .i64 (y : Int))[i]? = some (.int .i64 ((tl.getD i 0 : Nat) : Int)) := by simp [List.getD, hi]
    rw [← ht, List.getElem?_take, if_pos (by omega)] at e
    simp only [World.cell?, hh]
    rw [← Array.getElem?_toList]
    exact e
end Go.Proofs.YtjjdjdodhedihaaDoor

namespace Go.Proofs.YtjjdjdodhedihaaDoor
open Go.RowKit
set_option linter.unusedVariables false

/-- From pair k unlike cells lead to one from which k is reached. -/
def TurnAt (S n : Nat) (T : List Int) (k : Nat) : Prop := ∃ c cs, OkWay S T (unP n k) c ∧ c.1 ≠ c.2 ∧ okP S n T (stepP S n (unP n k) c) cs ∧ endP S n (stepP S n (unP n k) c) cs = unP n k
theorem FJ.no {W : World} {S n k : Nat} {T : List Int} {pf gf pa B0 : Nat} {fl : List Bool} (h : FJ W S n k T pf gf pa B0 (S * S) fl false) : ¬ TurnAt S n T k := by
  rintro ⟨c, cs, h1, h2, _⟩
  have : (c.1 + 1) * S ≤ S * S := Nat.mul_le_mul_right _ h1.1
  rw [Nat.add_mul] at this
  have q := h1.2.1
  exact absurd (h.sa.2 ⟨c, by omega, h1, h2⟩) (by decide)
theorem FJ.start {W w1 : World} {S n N k : Nat} {T : List Int} (hN : n * n = N) (hw1 : ((W.alloc (.cells (madeCells #[.bool false] N) 4)).alloc (.cells #[.slice (some ⟨W.heap.size, 0, none⟩) N N] 90)).alloc (.cells #[.bool false] 4) = w1) : FJ w1 S n k T (W.heap.size + 1) W.heap.size (W.heap.size + 2) W.heap.size 0 (List.replicate N false) false ∧ Below W.heap.size W w1 := by
  rw [← hw1]
  refine ⟨⟨?_, ?_, ?_, by omega, by rw [hN]; simp, fun t ht => ?_, ?_, Nat.le_refl _, by omega⟩, ?_⟩
  · rw [hN]; exact (blk_new_at (by simp)).alloc _
  · have := ((Blk.new W (madeCells #[.bool false] N) 4).alloc (.cells #[.slice (some ⟨W.heap.size, 0, none⟩) N N] 90)).alloc (.cells #[.bool false] 4)
    rw [show ((List.replicate N false).map Value.bool).toArray = madeCells #[.bool false] N by
      apply Array.toList_inj.1
      rw [toList_madeCells_one]
      simp]
    exact this
  · exact blk_new_at (by simp)
  · constructor
    · intro h
      rw [List.getD_eq_getElem?_getD, List.getElem?_replicate] at h
      split at h <;> simp at h
    · rintro ⟨c, h, _⟩; omega
  · constructor
    · intro h; cases h
    · rintro ⟨c, h, _⟩; omega
  · exact (((Below.refl _ _).alloc (Nat.le_refl _) _).alloc (by simp) _).alloc (by simp; omega) _

theorem FJ.again {W : World} {S n k : Nat} {T : List Int} {pf gf pa B0 j : Nat} {fl : List Bool} (h : FJ W S n k T pf gf pa B0 j fl false) : FJ (W.setCell ⟨pa, 0, none⟩ (.bool false)) S n k T pf gf pa B0 j fl false := by
  have n2 : pf ≠ pa := by intro q; have h1 := h.ac; rw [← q] at h1; have := (show W.heap[pf]? = _ from h.fb).symm.trans h1; injection this with this; injection this with _ this _; revert this; decide
  exact ⟨h.fb.setOther n2 _, h.fc.setOther h.ne _, h.ac.set 0 (.bool false), h.ne, h.fl_, h.sp, h.sa, h.b1, h.b2⟩

end Go.Proofs.YtjjdjdodhedihaaDoor

namespace Go.Proofs.YtjjdjdodhedihaaDoor
set_option linter.unusedVariables false

theorem wantRf_is {S n : Nat} {u v c : Nat × Nat} : wantRf S n u.1 u.2 v c = true ↔ stepP S n v c = u ∧ c.1 ≠ c.2 := by
  unfold wantRf wantR stepP
  simp [Prod.ext_iff]
/-- The two sides exchanged. -/
def swp (c : Nat × Nat) : Nat × Nat := (c.2, c.1)
theorem ok_swp {S : Nat} {T : List Int} {u c : Nat × Nat} (h : OkWay S T u c) : OkWay S T (swp u) (swp c) := ⟨h.2.1, h.1, h.2.2.symm⟩
theorem step_swp (S n : Nat) (u c : Nat × Nat) : stepP S n (swp u) (swp c) = swp (stepP S n u c) := rfl
theorem okP_swp {S n : Nat} {T : List Int} : ∀ (cs : List (Nat × Nat)) (u : Nat × Nat), okP S n T u cs → okP S n T (swp u) (cs.map swp)
  | [], _, _ => trivial
  | c :: r, u, h => ⟨ok_swp h.1, by rw [step_swp]; exact okP_swp r _ h.2⟩
theorem endP_swp (S n : Nat) : ∀ (cs : List (Nat × Nat)) (u : Nat × Nat), endP S n (swp u) (cs.map swp) = swp (endP S n u cs)
  | [], _ => rfl
  | c :: r, u => by
    show endP S n (stepP S n (swp u) (swp c)) (r.map swp) = _
    rw [step_swp, endP_swp S n r]
    rfl
theorem no_turn {S n : Nat} {T : List Int} (hn : 0 < n) (h : ∀ u : Nat × Nat, u.1 ≤ u.2 → u.2 < n → NoRing S n T u) (k : Nat) : ¬ TurnAt S n T k := by
  rintro ⟨c, cs, h1, h2, h3, h4⟩
  obtain ⟨v, hv⟩ : ∃ v, unP n k = v := ⟨_, rfl⟩
  rw [hv] at h1 h3 h4
  obtain ⟨u, hu⟩ : ∃ u, stepP S n v c = u := ⟨_, rfl⟩
  rw [hu] at h3 h4
  have hl := stepP_lt (S := S) hn v c
  rw [hu] at hl
  rcases Nat.le_total u.1 u.2 with q | q
  · have := h u q hl.2 cs c h3 (by rw [h4]; exact h1)
    rw [h4, wantRf_is.2 ⟨hu, h2⟩] at this
    cases this
  · have := h (swp u) q hl.1 (cs.map swp) (swp c) (okP_swp cs u h3) (by rw [endP_swp, h4]; exact ok_swp h1)
    rw [endP_swp, h4, wantRf_is.2 ⟨by rw [step_swp, hu], fun e => h2 e.symm⟩] at this
    cases this
end Go.Proofs.YtjjdjdodhedihaaDoor

namespace Go.Proofs.YtjjdjdodhedihaaDoor
open Go.RowKit
set_option linter.unusedVariables false

/-- At block g a list of n ints of the call's own; what stands at f i, for i below k, is xs' i-th. -/
structure ScI (w0 w : World) (g n k : Nat) (f : Nat → Nat) (xs : List Int) : Prop where
  below : Below w0.heap.size w0 w
  ge : w0.heap.size ≤ g
  lt : g < w.heap.size
  cells : ∀ j, j < n → ∃ v, w.cell? ⟨g, j, none⟩ = some v ∧ (∀ i, i < k → f i = j → v = .int .i64 (xs.getD i 0))
  fz : ∀ j, w.frozen? ⟨g, j, none⟩ = false
theorem ScI.start (w : World) (n : Nat) (f : Nat → Nat) (xs : List Int) (z : Value) (t : TypeId) : ScI w (w.alloc (.cells (madeCells #[z] n) t)) w.heap.size n 0 f xs := by
  refine ⟨(Below.refl _ _).alloc (Nat.le_refl _) _, Nat.le_refl _, by simp, fun j hj => ⟨(madeCells #[z] n)[j]'(by rw [size_madeCells]; exact hj), ?_, fun i hi => by omega⟩, fun j => by simp⟩
  rw [World.cell?_alloc_at _ _ _ _ rfl]
  exact Array.getElem?_eq_getElem (by rw [size_madeCells]; exact hj)
theorem ScI.step {w0 w : World} {g n k : Nat} {f : Nat → Nat} {xs : List Int} (h : ScI w0 w g n k f xs) (hk : f k < n) (hinj : ∀ i, i < k → f i ≠ f k) {x : Int} (hx : xs.getD k 0 = x) : ScI w0 (w.setCell ⟨g, f k, none⟩ (.int .i64 x)) g n (k + 1) f xs := by
  refine ⟨h.below.setCell h.ge _, h.ge, by rw [World.size_setCell]; exact h.lt, fun j hj => ?_, fun j => by rw [World.frozen?_setCell]; exact h.fz j⟩
  by_cases e : j = f k
  · subst e
    obtain ⟨v, hv, -⟩ := h.cells _ hj
    refine ⟨_, World.cell?_setCell_same _ _ _ hv, fun i hi he => ?_⟩
    by_cases q : i = k
    · subst q; rw [hx]
    · exact absurd he (hinj i (by omega))
  · obtain ⟨v, hv, hv'⟩ := h.cells j hj
    refine ⟨v, ?_, fun i hi he => hv' i (by have : i ≠ k := fun q => e (by rw [← he, q]); omega) he⟩
    exact (World.cell?_setCell_other _ ⟨g, f k, none⟩ ⟨g, j, none⟩ _ (fun q => e (congrArg Addr.off q).symm)).trans hv

end Go.Proofs.YtjjdjdodhedihaaDoor

namespace Go.Proofs.YtjjdjdodhedihaaDoor
open Go.RowKit
set_option linter.unusedVariables false

end Go.Proofs.YtjjdjdodhedihaaDoor

namespace Go.Proofs.YtjjdjdodhedihaaDoor
open Go.RowKit
set_option linter.unusedVariables false

end Go.Proofs.YtjjdjdodhedihaaDoor

namespace Go.Proofs.YtjjdjdodhedihaaDoor
open Go.RowKit
set_option linter.unusedVariables false

def SM (w : World) (o : Out) (a : Option Addr) (n c : Nat) (w' : World) : Prop := w'.cell? ⟨w.heap.size, 0, none⟩ = some (.int .i64 o.kind) ∧ w'.cell? ⟨w.heap.size, 1, none⟩ = some (.int .i64 o.born) ∧ w'.cell? ⟨w.heap.size, 2, none⟩ = some (.int .i64 o.stay) ∧ w'.cell? ⟨w.heap.size, 3, none⟩ = some (.int .i64 o.states) ∧ w'.cell? ⟨w.heap.size, 4, none⟩ = some (.int .i64 o.radius) ∧ w'.cell? ⟨w.heap.size, 5, none⟩ = some (.slice a n c) ∧ w'.cell? ⟨w.heap.size, 6, none⟩ = some (.string o.turns) ∧ Hid (w.heap.size + 2 ≤ w'.heap.size ∧ Below w.heap.size w w')
theorem SM.block {w w1 w2 : World} {o : Out} {a : Option Addr} {n c : Nat} (h : SM w o a n c w1) (e : w2.heap[w.heap.size]? = w1.heap[w.heap.size]?) (hz : w.heap.size + 2 ≤ w2.heap.size) (hb : Below w.heap.size w w2) : SM w o a n c w2 := by
  obtain ⟨h0, h1, h2, h3, h4, h5, h6, h7⟩ := h
  obtain ⟨c0, c1, c2, c3, c4, c5, c6⟩ := Seven.block (g := w.heap.size) ⟨h0, h1, h2, h3, h4, h5, h6⟩ e
  exact ⟨c0, c1, c2, c3, c4, c5, c6, hide' ⟨hz, hb⟩⟩
theorem SM.next {w w1 w2 : World} {o : Out} {a : Option Addr} {n c : Nat} (h : SM w o a n c w1) (hb : Below w1.heap.size w1 w2) : SM w o a n c w2 := by
  have h7 := h.2.2.2.2.2.2.2.out
  exact h.block (hb.block _ (by omega)) (Nat.le_trans h7.1 hb.size) (h7.2.trans (hb.mono h7.2.size))
end Go.Proofs.YtjjdjdodhedihaaDoor

namespace Go.Proofs.YtjjdjdodhedihaaDoor
open Go.RowKit
set_option linter.unusedVariables false

theorem cell_block_lt {w : World} {a : Addr} {v : Value} (h : w.cell? a = some v) : a.block < w.heap.size := by
  rcases Nat.lt_or_ge a.block w.heap.size with q | q
  · exact q
  · have e : w.heap[a.block]? = none := Array.getElem?_eq_none q
    simp only [World.cell?, e] at h
    cases h
/-- A list of ints reads so, from its start on. -/
def Reads0 (w : World) (a : Option Addr) (xs : List Int) : Prop := ∀ k (h : k < xs.length), ∃ g, a = some ⟨g, 0, none⟩ ∧ w.cell? ⟨g, k, none⟩ = some (.int .i64 xs[k])
theorem Reads0.below {w w' : World} {a : Option Addr} {xs : List Int} (h : Reads0 w a xs) (hb : Below w.heap.size w w') : Reads0 w' a xs := fun k hk => by
  obtain ⟨g, e, hc⟩ := h k hk
  exact ⟨g, e, (World.cell?_of_block (w := w) (a := ⟨g, k, none⟩) (hb.block g (cell_block_lt hc))).trans hc⟩
theorem Reads0.nil (w : World) (a : Option Addr) : Reads0 w a [] := fun k hk => by simp at hk

/-- At block g a list of n ints of the call's own, the cells from k on are f's. -/
structure FillD (w0 w : World) (g n k : Nat) (f : Nat → Int) : Prop where
  below : Below w0.heap.size w0 w
  ge : w0.heap.size ≤ g
  lt : g < w.heap.size
  cells : ∀ j, j < n → ∃ v, w.cell? ⟨g, j, none⟩ = some v ∧ (k ≤ j → v = .int .i64 (f j))
  fz : ∀ j, w.frozen? ⟨g, j, none⟩ = false
theorem FillD.start (w : World) (n : Nat) (f : Nat → Int) (z : Value) (t : TypeId) : FillD w (w.alloc (.cells (madeCells #[z] n) t)) w.heap.size n n f := by
  refine ⟨(Below.refl _ _).alloc (Nat.le_refl _) _, Nat.le_refl _, by simp, fun j hj => ⟨(madeCells #[z] n)[j]'(by rw [size_madeCells]; exact hj), ?_, by omega⟩, fun j => by simp⟩
  rw [World.cell?_alloc_at _ _ _ _ rfl]
  exact Array.getElem?_eq_getElem (by rw [size_madeCells]; exact hj)
theorem FillD.step {w0 w : World} {g n k : Nat} {f : Nat → Int} (h : FillD w0 w g n (k + 1) f) (hk : k < n) {x : Int} (hx : f k = x) : FillD w0 (w.setCell ⟨g, k, none⟩ (.int .i64 x)) g n k f := by
  refine ⟨h.below.setCell h.ge _, h.ge, by rw [World.size_setCell]; exact h.lt, fun j hj => ?_, fun j => by rw [World.frozen?_setCell]; exact h.fz j⟩
  by_cases e : j = k
  · subst e
    obtain ⟨v, hv, -⟩ := h.cells j hj
    exact ⟨_, World.cell?_setCell_same _ _ _ hv, fun _ => by rw [hx]⟩
  · obtain ⟨v, hv, hv'⟩ := h.cells j hj
    refine ⟨v, ?_, fun q => hv' (by omega)⟩
    exact (World.cell?_setCell_other _ ⟨g, k, none⟩ ⟨g, j, none⟩ _ (fun q => e (congrArg Addr.off q).symm)).trans hv

/-- The j-th cell of the window of m, of long cells: the highest digit first. -/
def winAt (s long m j : Nat) : Nat := m / s ^ (long - 1 - j) % s

end Go.Proofs.YtjjdjdodhedihaaDoor

namespace Go.Proofs.YtjjdjdodhedihaaDoor
open Go.RowKit
set_option linter.unusedVariables false

end Go.Proofs.YtjjdjdodhedihaaDoor

namespace Go.Proofs.YtjjdjdodhedihaaDoor
open Go.RowKit
set_option linter.unusedVariables false

end Go.Proofs.YtjjdjdodhedihaaDoor

namespace Go.Proofs.YtjjdjdodhedihaaDoor
open Go.RowKit
set_option linter.unusedVariables false

/-- The rule that grows, in its box at P; what lies below it stays. -/
structure CM (w0 wr : World) (P S K : Nat) (v : Value) (xs : List Int) : Prop where
  below : Below P w0 wr
  sz : P + 1 ≤ wr.heap.size
  rb : RB P S K v wr
  fz : ∀ k, wr.frozen? ⟨P, k, none⟩ = false
  own : wr.ownsRow (P + 1) 3 1 v xs.length (xs.map fun x => .int .i64 x)
theorem CM.next {w0 wr w' : World} {P S K : Nat} {v : Value} {xs : List Int} (h : CM w0 wr P S K v xs) (hb : Below wr.heap.size wr w') : CM w0 w' P S K v xs := by
  have := h.sz
  have := hb.size
  exact ⟨h.below.trans (hb.mono (by omega)), by omega, h.rb.next hb, fun k => (World.frozen?_of_block (w := wr) (a := ⟨P, k, none⟩) (hb.block P (by omega))).trans (h.fz k), ownsRow_keepB h.own fun k _ hk => hb.block k hk⟩
theorem CM.grown {w0 wr w' : World} {P S K : Nat} {v : Value} {xs : List Int} (h : CM w0 wr P S K v xs) {x : Int} (hg : (wr.alloc (.cells #[.int .i64 x] 3)).grownBy w' v.ownBlock) : ∀ k, k < P + 1 → w'.heap[k]? = wr.heap[k]? := fun k hk => by
  have hz := h.sz
  have hob := ownsRow_lt h.own
  rw [hg.block k (by rw [World.size_alloc]; omega) (fun e => by have := (hob k e.symm).1; omega)]
  exact Below.heap_alloc _ _ _ (by omega)
theorem cellO {w : World} {p k j : Nat} {u v : Value} (h : w.cell? ⟨p, k, none⟩ = some v) (hj : j ≠ k) : (w.setCell ⟨p, j, none⟩ u).cell? ⟨p, k, none⟩ = some v :=
  (World.cell?_setCell_other _ ⟨p, j, none⟩ ⟨p, k, none⟩ _ (fun q => hj (congrArg Addr.off q))).trans h
theorem CM.push {w0 wr w' : World} {P S K : Nat} {v v' : Value} {xs : List Int} {x : Int} (h : CM w0 wr P S K v xs) (hg : (wr.alloc (.cells #[.int .i64 x] 3)).grownBy w' v.ownBlock) (ho : w'.ownsRow (P + 1) 3 1 v' (xs.length + 1) ((xs.map fun x => .int .i64 x) ++ [.int .i64 x])) :
    CM w0 (w'.setCell ⟨P, 5, none⟩ v') P S K v' (xs ++ [x]) := by
  have hk := h.grown hg
  have hz := h.sz
  have hsz : wr.heap.size + 1 ≤ w'.heap.size := by have := hg.size; rw [World.size_alloc] at this; exact this
  have hb : Below P w0 w' := h.below.trans ⟨hg.os, hg.tape, hg.output, by omega, fun k hkk => hk k (by omega)⟩
  have r := h.rb.block (hk P (by omega))
  refine ⟨hb.setCell (Nat.le_refl _) _, by rw [World.size_setCell]; omega, ⟨cellO r.c0 (by omega), cellO r.c1 (by omega), cellO r.c2 (by omega), cellO r.c3 (by omega), cellO r.c4 (by omega), World.cell?_setCell_same _ _ _ r.c5, cellO r.c6 (by omega)⟩, fun k => by rw [World.frozen?_setCell]; exact (World.frozen?_of_block (w := wr) (a := ⟨P, k, none⟩) (hk P (by omega))).trans (h.fz k), ?_⟩
  have := ownsRow_setCell_below ho (a := ⟨P, 5, none⟩) (by simp) v'
  simpa using this
theorem CM.start (w : World) (P S K : Nat) (hP : w.heap.size = P) (t : TypeId) : CM (w.alloc (.cells #[.int .i64 2, .int .i64 0, .int .i64 0, .int .i64 (S : Int), .int .i64 (K : Int), .slice none 0 0, .string ⟨#[]⟩] t)) (w.alloc (.cells #[.int .i64 2, .int .i64 0, .int .i64 0, .int .i64 (S : Int), .int .i64 (K : Int), .slice none 0 0, .string ⟨#[]⟩] t)) P S K (.slice none 0 0) [] := by
  subst hP
  exact ⟨Below.refl _ _, by simp, RB.new w S K _ t, fun k => by simp, ⟨by simp, Or.inl ⟨rfl, by simp⟩⟩⟩
end Go.Proofs.YtjjdjdodhedihaaDoor

namespace Go.Proofs.YtjjdjdodhedihaaDoor
open Go.RowKit
set_option linter.unusedVariables false

/-- A word read off a number. -/
def winL (S long x : Nat) : List Int := (List.range long).map fun j => ((winAt S long x j : Nat) : Int)
theorem winL_length (S long x : Nat) : (winL S long x).length = long := by simp [winL]
theorem winL_at {S long x j : Nat} (h : j < long) : (winL S long x).getD j 0 = ((winAt S long x j : Nat) : Int) := by simp [winL, List.getD, h]
theorem winL_ok {S long x : Nat} (hS : 0 < S) : cellsOk S (winL S long x) := by
  intro y hy
  obtain ⟨j, _, rfl⟩ := List.mem_map.1 hy
  have := Nat.mod_lt (x / S ^ (long - 1 - j)) hS
  unfold winAt
  omega
theorem win_digits {S long x i : Nat} (hS : 0 < S) : ∀ m, i + m ≤ long → wn (S : Int) (fun t => (winL S long x).getD t 0) i m = ((x / S ^ (long - i - m) % S ^ m : Nat) : Int)
  | 0, _ => by simp [wn, Nat.mod_one]
  | m + 1, h => by
    rw [wn, win_digits hS m (by omega), winL_at (by omega)]
    unfold winAt
    obtain ⟨D, hD⟩ : ∃ D, long - i - (m + 1) = D := ⟨_, rfl⟩
    rw [show long - 1 - (i + m) = D by omega, show long - i - m = D + 1 by omega, hD, Nat.pow_succ S D, ← Nat.div_div_eq_div_mul, Nat.pow_succ S m, Nat.mul_comm (S ^ m) S, Nat.mod_mul]
    push_cast
    rw [Int.mul_comm, Int.add_comm]
end Go.Proofs.YtjjdjdodhedihaaDoor

namespace Go.Proofs.YtjjdjdodhedihaaDoor
open Go.RowKit
set_option linter.unusedVariables false

end Go.Proofs.YtjjdjdodhedihaaDoor

namespace Go.Proofs.YtjjdjdodhedihaaDoor
open Go.RowKit
set_option linter.unusedVariables false

def NoTwin (S n : Nat) (T : List Int) : Prop := ∀ p, p < n → ∀ cs c, okP S n T (p, p) cs → OkWay S T (endP S n (p, p) cs) c → wantTf S n (endP S n (p, p) cs) c = false
end Go.Proofs.YtjjdjdodhedihaaDoor

