/-
  What the last text of this claim leans on, part 34: Of3, Of4, Of5.
-/
import Derived.Test.YtdhbdkkchobinaaJz33
namespace Go.Proofs.Ytdhbdkkchobinaa
open Go.RowKit
set_option linter.unusedVariables false

/-- What reach holds: what is in, what is to be done. -/
structure TJ (W : World) (n pi gi pt B0 : Nat) (il : List Bool) (tl : List Nat) : Prop where
  ib : Blk W pi #[.slice (some ⟨gi, 0, none⟩) (n * n) (n * n)] 91
  ic : Blk W gi (il.map Value.bool).toArray 4
  il_ : il.length = n * n
  tv : ∃ v, Blk W pt #[v] 26 ∧ W.ownsRow B0 3 1 v tl.length (tl.map fun (y : Nat) => Value.int .i64 (y : Int))
  b1 : B0 ≤ gi
  b2 : B0 ≤ pt
theorem TJ.next {W W' : World} {n pi gi pt B0 : Nat} {il : List Bool} {tl : List Nat} (h : TJ W n pi gi pt B0 il tl) (k : Below W.heap.size W W') : TJ W' n pi gi pt B0 il tl := by
  obtain ⟨v, tb, tr⟩ := h.tv
  exact ⟨h.ib.of (k.block _ h.ib.lt), h.ic.of (k.block _ h.ic.lt), h.il_, ⟨v, tb.of (k.block _ tb.lt), tr.kept (grown_of_below k) (Classical.em _)⟩, h.b1, h.b2⟩
theorem TJ.mark {W : World} {n pi gi pt B0 : Nat} {il : List Bool} {tl : List Nat} (h : TJ W n pi gi pt B0 il tl) (k : Nat) : TJ (W.setCell ⟨gi, k, none⟩ (.bool true)) n pi gi pt B0 (il.set k true) tl := by
  obtain ⟨v, tb, tr⟩ := h.tv
  have n2 : pi ≠ gi := by intro e; have h1 := h.ic; rw [← e] at h1; have := (show W.heap[pi]? = _ from h.ib).symm.trans h1; injection this with this; injection this with _ this _; revert this; decide
  have n3 : pt ≠ gi := by intro e; have h1 := h.ic; rw [← e] at h1; have := (show W.heap[pt]? = _ from tb).symm.trans h1; injection this with this; injection this with _ this _; revert this; decide
  refine ⟨h.ib.setOther n2 _, ?_, by rw [List.length_set]; exact h.il_, ⟨v, tb.setOther n3 _, tr.kept (grownBy_set W gi k _) (.inr (Ne.symm (not_row h.ic (by decide) tr)))⟩, h.b1, h.b2⟩
  have := h.ic.set k (.bool true)
  rw [show (il.map Value.bool).toArray.setIfInBounds k (.bool true) = ((il.set k true).map Value.bool).toArray by simp [List.map_set]] at this
  exact this
theorem TJ.pushed {W w3 : World} {n pi gi pt B0 : Nat} {il : List Bool} {tl : List Nat} (h : TJ W n pi gi pt B0 il tl) {v v' : Value} {tmp : Obj} {t : Nat} (hB : B0 ≤ W.heap.size) (tb : Blk W pt #[v] 26) (tr : W.ownsRow B0 3 1 v tl.length (tl.map fun (y : Nat) => Value.int .i64 (y : Int))) (hg : (W.alloc tmp).grownBy w3 v.ownBlock) (hown : w3.ownsRow B0 3 1 v' (tl.length + 1) ((tl.map fun (y : Nat) => Value.int .i64 (y : Int)) ++ [.int .i64 (t : Int)])) :
    TJ (w3.setCell ⟨pt, 0, none⟩ v') n pi gi pt B0 il (tl ++ [t]) ∧ RK gi pt B0 W (w3.setCell ⟨pt, 0, none⟩ v') := by
  have keep : ∀ {p : Nat} {cs : Array Value} {t : TypeId}, Blk W p cs t → t ≠ 3 → Blk w3 p cs t := fun hb ht => (hb.alloc tmp).of (hg.block _ (hb.alloc tmp).lt (not_row (hb.alloc tmp) ht (tr.alloc tmp)))
  have tb3 : Blk w3 pt #[v] 26 := keep tb (by decide)
  have n2 : pi ≠ pt := by intro e; have h1 := tb; rw [← e] at h1; have := (show W.heap[pi]? = _ from h.ib).symm.trans h1; injection this with this; injection this with _ this _; revert this; decide
  have n3 : gi ≠ pt := by intro e; have h1 := tb; rw [← e] at h1; have := (show W.heap[gi]? = _ from h.ic).symm.trans h1; injection this with this; injection this with _ this _; revert this; decide
  refine ⟨⟨(keep h.ib (by decide)).setOther n2 _, (keep h.ic (by decide)).setOther n3 _, h.il_, ⟨v', ?_, ?_⟩, h.b1, h.b2⟩, ?_, fun k o h0 h1 h2 h3 => ?_⟩
  · exact tb3.set 0 v'
  · rw [List.map_append, List.length_append]
    exact hown.kept (grownBy_set w3 pt 0 _) (.inr (Ne.symm (not_row tb3 (by decide) hown)))
  · refine Below.setCell (p := ⟨pt, 0, none⟩) ?_ h.b2 v'
    exact ((Below.refl B0 W).alloc hB tmp).grown hg (by simp; omega) (row_base tr)
  · rw [heap_setCell_other _ _ _ _ _ h2]
    have hlt := (Array.getElem?_eq_some_iff.1 h0).1
    have ha : (W.alloc tmp).heap[k]? = some o := (Below.heap_alloc W tmp k hlt).trans h0
    refine (hg.block k (by simp; omega) fun e => ?_).trans ha
    rcases (tr.alloc tmp).2 with ⟨rfl, _⟩ | ⟨g, cap, cur, rfl, hb, hgb, _⟩
    · simp [Value.ownBlock] at e
    · obtain rfl : k = g := by simpa [Value.ownBlock] using e
      rw [ha] at hgb
      injection hgb with hgb
      exact h3 _ _ hgb
def ilAfter (il : List Bool) (t : Nat) : List Bool := if il.getD t false then il else il.set t true
def tlAfter (il : List Bool) (tl : List Nat) (t : Nat) : List Nat := if il.getD t false then tl else tl ++ [t]

/-- A pair by its number. -/
def unP (n k : Nat) : Nat × Nat := (k / n, k % n)
def coP (n : Nat) (u : Nat × Nat) : Nat := u.1 * n + u.2
theorem un_co {n : Nat} {u : Nat × Nat} (h : u.2 < n) : unP n (coP n u) = u := by
  unfold unP coP
  rw [Nat.mul_comm, Nat.mul_add_div (by omega), Nat.div_eq_of_lt h, Nat.mul_add_mod, Nat.mod_eq_of_lt h]
  simp
theorem co_un {n k : Nat} : coP n (unP n k) = k := by unfold coP unP; rw [Nat.mul_comm]; exact Nat.div_add_mod k n
theorem un_lt {n k : Nat} (hn : 0 < n) (h : k < n * n) : (unP n k).1 < n ∧ (unP n k).2 < n := ⟨Nat.div_lt_of_lt_mul h, Nat.mod_lt _ hn⟩
theorem co_lt {n : Nat} {u : Nat × Nat} (h1 : u.1 < n) (h2 : u.2 < n) : coP n u < n * n := code_lt h1 h2
/-- What reach keeps. -/
structure PR (S n : Nat) (T : List Int) (fl il : List Bool) (tl : List Nat) : Prop where
  len : il.length = n * n
  cnt : tl.length = il.count true
  seen : ∀ t, t < n * n → (il.getD t false = true ↔ t ∈ tl)
  rng : ∀ t ∈ tl, t < n * n
  org : ∀ t ∈ tl, ∃ j cs, j < n * n ∧ fl.getD j false = true ∧ okP S n T (unP n j) cs ∧ coP n (endP S n (unP n j) cs) = t
theorem PR.bound {S n : Nat} {T : List Int} {fl il : List Bool} {tl : List Nat} (h : PR S n T fl il tl) : tl.length ≤ n * n := by rw [h.cnt, ← h.len]; exact List.count_le_length
theorem PR.add {S n : Nat} {T : List Int} {fl il : List Bool} {tl : List Nat} (h : PR S n T fl il tl) (t : Nat) (ht : t < n * n) (ho : ∃ j cs, j < n * n ∧ fl.getD j false = true ∧ okP S n T (unP n j) cs ∧ coP n (endP S n (unP n j) cs) = t) : PR S n T fl (ilAfter il t) (tlAfter il tl t) := by
  unfold ilAfter tlAfter
  cases hb : il.getD t false with
  | true => exact h
  | false =>
    simp only [Bool.false_eq_true, if_false]
    refine ⟨by simp [h.len], ?_, fun s hs => ?_, fun s hs => ?_, fun s hs => ?_⟩
    · rw [count_set_true _ _ (by rw [h.len]; exact ht) hb, List.length_append, h.cnt]; rfl
    · rw [getD_setB _ _ _ (by rw [h.len]; exact ht)]
      simp only [Bool.or_eq_true, decide_eq_true_eq, List.mem_append, List.mem_singleton]
      rw [h.seen s hs]
      exact Or.comm
    · rcases List.mem_append.1 hs with q | q
      · exact h.rng s q
      · rw [List.mem_singleton.1 q]; exact ht
    · rcases List.mem_append.1 hs with q | q
      · exact h.org s q
      · rw [List.mem_singleton.1 q]; exact ho
theorem il_mono {il : List Bool} {t s : Nat} (h : t < il.length) (hs : il.getD s false = true) : (ilAfter il t).getD s false = true := by
  unfold ilAfter
  split
  · exact hs
  · rw [getD_setB _ _ _ h, hs]; simp
theorem il_here {il : List Bool} {t : Nat} (h : t < il.length) : (ilAfter il t).getD t false = true := by
  unfold ilAfter
  split
  · assumption
  · rw [getD_setB _ _ _ h]; simp
theorem tl_left {il : List Bool} {tl : List Nat} {t i : Nat} (h : i < tl.length) : (tlAfter il tl t).getD i 0 = tl.getD i 0 ∧ i < (tlAfter il tl t).length := by
  unfold tlAfter
  split
  · exact ⟨rfl, h⟩
  · refine ⟨?_, by simp; omega⟩
    rw [List.getD_eq_getElem?_getD, List.getD_eq_getElem?_getD, List.getElem?_append_left h]
end Go.Proofs.Ytdhbdkkchobinaa

namespace Go.Proofs.Ytdhbdkkchobinaa
open Go.RowKit
set_option linter.unusedVariables false

def ClosedR (S n : Nat) (T : List Int) (il : List Bool) (tl : List Nat) (i : Nat) : Prop := ∀ m, m < i → ∀ c, OkWay S T (unP n (tl.getD m 0)) c → il.getD (codeP S n (tl.getD m 0) c) false = true
/-- What reach holds between its rounds. -/
structure RL (w W : World) (S R n : Nat) (T : List Int) (ta : Option Addr) (tn tc : Nat) (fl il : List Bool) (tl : List Nat) : Prop where
  tj : TJ W n (w.heap.size + 2) (w.heap.size + 1) (w.heap.size + 3) w.heap.size il tl
  pr : PR S n T fl il tl
  rb : Blk W w.heap.size #[.int .i64 2, .int .i64 0, .int .i64 0, .int .i64 (S : Int), .int .i64 (R : Int), .slice ta tn tc, .string ⟨#[]⟩] 28
  bl : Below w.heap.size w W
  sz : w.heap.size + 4 ≤ W.heap.size
def FromIn (fl il : List Bool) (N : Nat) : Prop := ∀ j, j < N → fl.getD j false = true → il.getD j false = true
theorem RL.next {w W W' : World} {S R n : Nat} {T : List Int} {ta : Option Addr} {tn tc : Nat} {fl il : List Bool} {tl : List Nat} (h : RL w W S R n T ta tn tc fl il tl) (k : Below W.heap.size W W') : RL w W' S R n T ta tn tc fl il tl :=
  ⟨h.tj.next k, h.pr, h.rb.of (k.block _ h.rb.lt), h.bl.trans (k.mono h.bl.size), Nat.le_trans h.sz k.size⟩
theorem RL.rk {w W W' : World} {S R n : Nat} {T : List Int} {ta : Option Addr} {tn tc : Nat} {fl il il' : List Bool} {tl tl' : List Nat} (h : RL w W S R n T ta tn tc fl il tl) (hj : TJ W' n (w.heap.size + 2) (w.heap.size + 1) (w.heap.size + 3) w.heap.size il' tl') (hp : PR S n T fl il' tl') (k : RK (w.heap.size + 1) (w.heap.size + 3) w.heap.size W W') : RL w W' S R n T ta tn tc fl il' tl' :=
  ⟨hj, hp, k.blk h.rb (by omega) (by omega) (by decide), h.bl.trans k.bl, Nat.le_trans h.sz k.bl.size⟩
/-- While pair k is looked at. -/
def PJ (w : World) (S R n : Nat) (T : List Int) (ta : Option Addr) (tn tc : Nat) (fl : List Bool) (i k j : Nat) (W : World) : Prop :=
  ∃ il tl, RL w W S R n T ta tn tc fl il tl ∧ FromIn fl il (n * n) ∧ i < tl.length ∧ tl.getD i 0 = k ∧ ClosedR S n T il tl i ∧ ∀ c : Nat × Nat, c.1 * S + c.2 < j → OkWay S T (unP n k) c → il.getD (codeP S n k c) false = true
theorem PJ.step {w W W' : World} {S R n : Nat} {T : List Int} {ta : Option Addr} {tn tc : Nat} {fl il : List Bool} {tl : List Nat} {i k j : Nat} (hn : 0 < n) (hr : RL w W S R n T ta tn tc fl il tl) (hf : FromIn fl il (n * n)) (hi : i < tl.length) (hk : tl.getD i 0 = k) (hc : ClosedR S n T il tl i) (hd : ∀ c : Nat × Nat, c.1 * S + c.2 < j → OkWay S T (unP n k) c → il.getD (codeP S n k c) false = true)
    (c : Nat × Nat) (hc2 : c.2 < S) (hj : j = c.1 * S + c.2) (hok : OkWay S T (unP n k) c) (htj : TJ W' n (w.heap.size + 2) (w.heap.size + 1) (w.heap.size + 3) w.heap.size (ilAfter il (codeP S n k c)) (tlAfter il tl (codeP S n k c))) (rk : RK (w.heap.size + 1) (w.heap.size + 3) w.heap.size W W') : PJ w S R n T ta tn tc fl i k (j + 1) W' := by
  have tl' := codeP_lt (S := S) (k := k) hn c
  have ill : codeP S n k c < il.length := by rw [hr.pr.len]; exact tl'
  have hkm : k ∈ tl := by rw [← hk, List.getD_eq_getElem?_getD, List.getElem?_eq_getElem hi]; exact List.getElem_mem hi
  obtain ⟨j0, cs, q1, q2, q3, q4⟩ := hr.pr.org k hkm
  have ke : endP S n (unP n j0) cs = unP n k := by
    rw [← q4, un_co (endP_lt hn cs _ (un_lt hn q1).1 (un_lt hn q1).2).2]
  refine ⟨_, _, hr.rk htj (hr.pr.add _ tl' ⟨j0, cs ++ [c], q1, q2, ?_, ?_⟩) rk, fun m hm h => il_mono ill (hf m hm h), (tl_left hi).2, by rw [(tl_left hi).1]; exact hk, fun m hm d hdo => ?_, fun d hlt hdo => ?_⟩
  · rw [okP_append, ke]; exact ⟨q3, hok, trivial⟩
  · rw [endP_append, ke]; rfl
  · rw [(tl_left (show m < tl.length by omega)).1] at hdo ⊢
    exact il_mono ill (hc m hm d hdo)
  · rcases Nat.lt_or_ge (d.1 * S + d.2) j with q | q
    · exact il_mono ill (hd d q hdo)
    · rw [show d = c from (cell_code hc2 hdo.2.1 (by omega : c.1 * S + c.2 = d.1 * S + d.2)).symm]
      exact il_here ill
def ReachPost (S n : Nat) (T : List Int) (fl : List Bool) (w : World) (e : Ending) (w' : World) : Prop :=
  ∃ g il, e = .returned (.slice (some ⟨g, 0, none⟩) (n * n) (n * n)) ∧ Blk w' g (il.map Value.bool).toArray 4 ∧ il.length = n * n ∧ FromIn fl il (n * n) ∧ (∀ k, k < n * n → il.getD k false = true → ∀ c, OkWay S T (unP n k) c → il.getD (codeP S n k c) false = true) ∧
    (∀ k, k < n * n → il.getD k false = true → ∃ j cs, j < n * n ∧ fl.getD j false = true ∧ okP S n T (unP n j) cs ∧ coP n (endP S n (unP n j) cs) = k) ∧ Below w.heap.size w w'
theorem RL.ends {w W : World} {S R n : Nat} {T : List Int} {ta : Option Addr} {tn tc : Nat} {fl il : List Bool} {tl : List Nat} (h : RL w W S R n T ta tn tc fl il tl) (hf : FromIn fl il (n * n)) (hc : ClosedR S n T il tl tl.length) : ReachPost S n T fl w (.returned (.slice (some ⟨w.heap.size + 1, 0, none⟩) (n * n) (n * n))) W := by
  refine ⟨_, il, rfl, h.tj.ic, h.pr.len, hf, fun k hk hin c hok => ?_, fun k hk hin => h.pr.org k ((h.pr.seen k hk).1 hin), h.bl⟩
  obtain ⟨m, hm, e⟩ := List.getElem_of_mem ((h.pr.seen k hk).1 hin)
  have e' : tl.getD m 0 = k := by rw [List.getD_eq_getElem?_getD, List.getElem?_eq_getElem hm]; exact e
  have := hc m hm c (by rw [e']; exact hok)
  rw [e'] at this
  exact this
theorem TJ.row {W : World} {n pi gi pt B0 : Nat} {il : List Bool} {tl : List Nat} (h : TJ W n pi gi pt B0 il tl) : ∃ a cap, Blk W pt #[.slice a tl.length cap] 26 ∧ (∀ i, i < tl.length → ∃ g, a = some ⟨g, 0, none⟩ ∧ W.cell? ⟨g, i, none⟩ = some (.int .i64 ((tl.getD i 0 : Nat) : Int))) := by
  obtain ⟨v, tb, hr⟩ := h.tv
  rcases hr.2 with ⟨rfl, h1⟩ | ⟨g, cap, cur, rfl, hg, hh, hc, hm, hs, ht⟩
  · rw [h1]; exact ⟨_, _, tb, fun i hi => by omega⟩
  · refine ⟨_, _, tb, fun i hi => ⟨g, rfl, ?_⟩⟩
    have e : (tl.map fun (y : Nat) => Value.int .i64 (y : Int))[i]? = some (.int .i64 ((tl.getD i 0 : Nat) : Int)) := by simp [List.getD, hi]
    rw [← ht, List.getElem?_take, if_pos (by omega)] at e
    simp only [World.cell?, hh]
    rw [← Array.getElem?_toList]
    exact e
theorem PJ.done {w W : World} {S R n : Nat} {T : List Int} {ta : Option Addr} {tn tc : Nat} {fl : List Bool} {i k : Nat} (h : PJ w S R n T ta tn tc fl i k (S * S) W) : ∃ il tl, RL w W S R n T ta tn tc fl il tl ∧ FromIn fl il (n * n) ∧ i + 1 ≤ tl.length ∧ ClosedR S n T il tl (i + 1) := by
  obtain ⟨il, tl, hr, hf, hi, hk, hc, hd⟩ := h
  refine ⟨il, tl, hr, hf, hi, fun m hm c hok => ?_⟩
  rcases Nat.lt_or_ge m i with q | q
  · exact hc m q c hok
  · obtain rfl : m = i := by omega
    rw [hk] at hok ⊢
    refine hd c ?_ hok
    have : (c.1 + 1) * S ≤ S * S := Nat.mul_le_mul_right _ hok.1
    rw [Nat.add_mul] at this
    have := hok.2.1
    omega
end Go.Proofs.Ytdhbdkkchobinaa

namespace Go.Proofs.Ytdhbdkkchobinaa
open Go.RowKit
set_option linter.unusedVariables false

/-- From pair k unlike cells lead to one from which k is reached. -/
def TurnAt (S n : Nat) (T : List Int) (k : Nat) : Prop := ∃ c cs, OkWay S T (unP n k) c ∧ c.1 ≠ c.2 ∧ okP S n T (stepP S n (unP n k) c) cs ∧ endP S n (stepP S n (unP n k) c) cs = unP n k
theorem codeP_un {S n k : Nat} (hn : 0 < n) (c : Nat × Nat) : unP n (codeP S n k c) = stepP S n (unP n k) c := un_co (u := stepP S n (unP n k) c) (stepP_lt hn _ c).2
theorem closed_path {S n : Nat} {T : List Int} {il : List Bool} (hn : 0 < n) (hc : ∀ k, k < n * n → il.getD k false = true → ∀ c, OkWay S T (unP n k) c → il.getD (codeP S n k c) false = true) :
    ∀ (cs : List (Nat × Nat)) (k : Nat), k < n * n → il.getD k false = true → okP S n T (unP n k) cs → il.getD (coP n (endP S n (unP n k) cs)) false = true
  | [], k, hk, h, _ => by show il.getD (coP n (unP n k)) false = true; rw [co_un]; exact h
  | c :: r, k, hk, h, ho => by
    have h1 := closed_path hn hc r (codeP S n k c) (codeP_lt hn c) (hc k hk h c ho.1) (by rw [codeP_un hn]; exact ho.2)
    rw [codeP_un hn] at h1
    exact h1
def OneRefPost (S n : Nat) (T : List Int) (w : World) (e : Ending) (w' : World) : Prop :=
  ((e = .returned (.bool false) ∧ ∃ k, k < n * n ∧ TurnAt S n T k) ∨ (e = .returned (.bool true) ∧ ∀ k, k < n * n → ¬ TurnAt S n T k)) ∧ Below w.heap.size w w'
theorem FJ.no {W : World} {S n k : Nat} {T : List Int} {pf gf pa B0 : Nat} {fl : List Bool} (h : FJ W S n k T pf gf pa B0 (S * S) fl false) : ¬ TurnAt S n T k := by
  rintro ⟨c, cs, h1, h2, _⟩
  have : (c.1 + 1) * S ≤ S * S := Nat.mul_le_mul_right _ h1.1
  rw [Nat.add_mul] at this
  have q := h1.2.1
  exact absurd (h.sa.2 ⟨c, by omega, h1, h2⟩) (by decide)
theorem FJ.yes {W : World} {S n k : Nat} {T : List Int} {pf gf pa B0 : Nat} {fl il : List Bool} {an : Bool} (h : FJ W S n k T pf gf pa B0 (S * S) fl an) (hn : 0 < n) (hk : k < n * n) (hf : FromIn fl il (n * n)) (hc : ∀ k, k < n * n → il.getD k false = true → ∀ c, OkWay S T (unP n k) c → il.getD (codeP S n k c) false = true)
    (ho : ∀ k, k < n * n → il.getD k false = true → ∃ j cs, j < n * n ∧ fl.getD j false = true ∧ okP S n T (unP n j) cs ∧ coP n (endP S n (unP n j) cs) = k) : il.getD k false = true ↔ TurnAt S n T k := by
  constructor
  · intro h1
    obtain ⟨j, cs, q1, q2, q3, q4⟩ := ho k hk h1
    obtain ⟨c, _, r2, r3, r4⟩ := (h.sp j q1).1 q2
    rw [← r4, codeP_un hn] at q3 q4
    refine ⟨c, cs, r2, r3, q3, ?_⟩
    have e := congrArg (unP n) q4
    rw [un_co (endP_lt hn cs _ (stepP_lt hn _ c).1 (stepP_lt hn _ c).2).2] at e
    exact e
  · rintro ⟨c, cs, h1, h2, h3, h4⟩
    have : (c.1 + 1) * S ≤ S * S := Nat.mul_le_mul_right _ h1.1
    rw [Nat.add_mul] at this
    have q := h1.2.1
    have f1 := (h.sp (codeP S n k c) (codeP_lt hn c)).2 ⟨c, by omega, h1, h2, rfl⟩
    have f2 := closed_path hn hc cs _ (codeP_lt hn c) (hf _ (codeP_lt hn c) f1) (by rw [codeP_un hn]; exact h3)
    rw [codeP_un hn, h4, co_un] at f2
    exact f2
theorem FJ.start {W w1 : World} {S n N k : Nat} {T : List Int} (hN : n * n = N) (hw1 : ((W.alloc (.cells (madeCells #[.bool false] N) 4)).alloc (.cells #[.slice (some ⟨W.heap.size, 0, none⟩) N N] 91)).alloc (.cells #[.bool false] 4) = w1) : FJ w1 S n k T (W.heap.size + 1) W.heap.size (W.heap.size + 2) W.heap.size 0 (List.replicate N false) false ∧ Below W.heap.size W w1 := by
  rw [← hw1]
  refine ⟨⟨?_, ?_, ?_, by omega, by rw [hN]; simp, fun t ht => ?_, ?_, Nat.le_refl _, by omega⟩, ?_⟩
  · rw [hN]; exact (blk_new_at (by simp)).alloc _
  · have := ((Blk.new W (madeCells #[.bool false] N) 4).alloc (.cells #[.slice (some ⟨W.heap.size, 0, none⟩) N N] 91)).alloc (.cells #[.bool false] 4)
    rw [show ((List.replicate N false).map Value.bool).toArray = madeCells #[.bool false] N by
      apply Array.toList_inj.1
      rw [toList_madeCells_one]
      simp]
    exact this
  · exact blk_new_at (by simp)
  · constructor
    · intro h
      rw [List.getD_eq_getElem?_getD, List.getElem?_replicate] at h
      split at h <;> simp at h
    · rintro ⟨c, h, _⟩; omega
  · constructor
    · intro h; cases h
    · rintro ⟨c, h, _⟩; omega
  · exact (((Below.refl _ _).alloc (Nat.le_refl _) _).alloc (by simp) _).alloc (by simp; omega) _

theorem FJ.again {W : World} {S n k : Nat} {T : List Int} {pf gf pa B0 j : Nat} {fl : List Bool} (h : FJ W S n k T pf gf pa B0 j fl false) : FJ (W.setCell ⟨pa, 0, none⟩ (.bool false)) S n k T pf gf pa B0 j fl false := by
  have n2 : pf ≠ pa := by intro q; have h1 := h.ac; rw [← q] at h1; have := (show W.heap[pf]? = _ from h.fb).symm.trans h1; injection this with this; injection this with _ this _; revert this; decide
  exact ⟨h.fb.setOther n2 _, h.fc.setOther h.ne _, h.ac.set 0 (.bool false), h.ne, h.fl_, h.sp, h.sa, h.b1, h.b2⟩

end Go.Proofs.Ytdhbdkkchobinaa

