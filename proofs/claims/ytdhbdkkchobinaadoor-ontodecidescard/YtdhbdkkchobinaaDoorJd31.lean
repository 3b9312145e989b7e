/-
  What the last text of this claim leans on, part 31: Of2, Of3.
-/
import Derived.Test.YtdhbdkkchobinaaDoorJd30
namespace Go.Proofs.YtdhbdkkchobinaaDoor
open Go.RowKit
set_option linter.unusedVariables false

/-- What One notes of the ways on from pair k: to which pairs unlike cells lead. -/
structure FJ (W : World) (S n k : Nat) (T : List Int) (pf gf pa B0 j : Nat) (fl : List Bool) (an : Bool) : Prop where
  fb : Blk W pf #[.slice (some ⟨gf, 0, none⟩) (n * n) (n * n)] 155
  fc : Blk W gf (fl.map Value.bool).toArray 4
  ac : Blk W pa #[.bool an] 4
  ne : gf ≠ pa
  fl_ : fl.length = n * n
  sp : ∀ t, t < n * n → (fl.getD t false = true ↔ ∃ c : Nat × Nat, c.1 * S + c.2 < j ∧ OkWay S T (k / n, k % n) c ∧ c.1 ≠ c.2 ∧ codeP S n k c = t)
  sa : an = true ↔ ∃ c : Nat × Nat, c.1 * S + c.2 < j ∧ OkWay S T (k / n, k % n) c ∧ c.1 ≠ c.2
  b1 : B0 ≤ gf
  b2 : B0 ≤ pa
theorem FJ.next {W W' : World} {S n k : Nat} {T : List Int} {pf gf pa B0 j : Nat} {fl : List Bool} {an : Bool} (h : FJ W S n k T pf gf pa B0 j fl an) (b : Below W.heap.size W W') : FJ W' S n k T pf gf pa B0 j fl an :=
  ⟨h.fb.of (b.block _ h.fb.lt), h.fc.of (b.block _ h.fc.lt), h.ac.of (b.block _ h.ac.lt), h.ne, h.fl_, h.sp, h.sa, h.b1, h.b2⟩
theorem cell_code {S : Nat} {c d : Nat × Nat} (h1 : c.2 < S) (h2 : d.2 < S) (e : c.1 * S + c.2 = d.1 * S + d.2) : c = d := by
  obtain ⟨a, b⟩ := code_inj h1 h2 e
  exact Prod.ext a b
theorem FJ.skip {W : World} {S n k : Nat} {T : List Int} {pf gf pa B0 j : Nat} {fl : List Bool} {an : Bool} (h : FJ W S n k T pf gf pa B0 j fl an) (c : Nat × Nat) (hc : c.2 < S) (hj : j = c.1 * S + c.2) (hno : ¬ (OkWay S T (k / n, k % n) c ∧ c.1 ≠ c.2)) : FJ W S n k T pf gf pa B0 (j + 1) fl an := by
  refine ⟨h.fb, h.fc, h.ac, h.ne, h.fl_, fun t ht => (h.sp t ht).trans ⟨fun ⟨d, q1, q2, q3, q4⟩ => ⟨d, by omega, q2, q3, q4⟩, fun ⟨d, q1, q2, q3, q4⟩ => ⟨d, ?_, q2, q3, q4⟩⟩, h.sa.trans ⟨fun ⟨d, q1, q2, q3⟩ => ⟨d, by omega, q2, q3⟩, fun ⟨d, q1, q2, q3⟩ => ⟨d, ?_, q2, q3⟩⟩, h.b1, h.b2⟩
  · rcases Nat.lt_or_ge (d.1 * S + d.2) j with c' | c'
    · exact c'
    · exact absurd (show OkWay S T (k / n, k % n) c ∧ c.1 ≠ c.2 by rw [cell_code hc q2.2.1 (by omega : c.1 * S + c.2 = d.1 * S + d.2)]; exact ⟨q2, q3⟩) hno
  · rcases Nat.lt_or_ge (d.1 * S + d.2) j with c' | c'
    · exact c'
    · exact absurd (show OkWay S T (k / n, k % n) c ∧ c.1 ≠ c.2 by rw [cell_code hc q2.2.1 (by omega : c.1 * S + c.2 = d.1 * S + d.2)]; exact ⟨q2, q3⟩) hno
theorem codeP_lt {S n k : Nat} (hn : 0 < n) (c : Nat × Nat) : codeP S n k c < n * n := code_lt (stepP_lt hn _ c).1 (stepP_lt hn _ c).2
theorem getD_setB (l : List Bool) (i t : Nat) (h : i < l.length) : (l.set i true).getD t false = (decide (t = i) || l.getD t false) := by
  rw [List.getD_eq_getElem?_getD, List.getD_eq_getElem?_getD, List.getElem?_set]
  by_cases e : i = t
  · subst e; simp [h]
  · have e' : ¬ t = i := fun q => e q.symm
    simp [e, e']
theorem FJ.note {W W' : World} {S n k : Nat} {T : List Int} {pf gf pa B0 j : Nat} {fl : List Bool} {an : Bool} (h : FJ W S n k T pf gf pa B0 j fl an) (hn : 0 < n) (c : Nat × Nat) (hc : c.2 < S) (hj : j = c.1 * S + c.2) (hok : OkWay S T (k / n, k % n) c) (hne : c.1 ≠ c.2)
    (e : W' = (W.setCell ⟨gf, codeP S n k c, none⟩ (.bool true)).setCell ⟨pa, 0, none⟩ (.bool true)) : FJ W' S n k T pf gf pa B0 (j + 1) (fl.set (codeP S n k c) true) true ∧ RK gf pa B0 W W' := by
  subst e
  have tl := codeP_lt (S := S) (k := k) hn c
  have n1 : pf ≠ gf := by intro q; have h1 := h.fc; rw [← q] at h1; have := (show W.heap[pf]? = _ from h.fb).symm.trans h1; injection this with this; injection this with _ this _; revert this; decide
  have n2 : pf ≠ pa := by intro q; have h1 := h.ac; rw [← q] at h1; have := (show W.heap[pf]? = _ from h.fb).symm.trans h1; injection this with this; injection this with _ this _; revert this; decide
  refine ⟨⟨(h.fb.setOther n1 _).setOther n2 _, ?_, (h.ac.setOther (Ne.symm h.ne) _).set 0 _, h.ne, by rw [List.length_set]; exact h.fl_, fun t ht => ?_, ?_, h.b1, h.b2⟩, ⟨((Below.refl B0 W).setCell (p := ⟨gf, codeP S n k c, none⟩) h.b1 _).setCell (p := ⟨pa, 0, none⟩) h.b2 _, fun i o h0 h1 h2 _ => by rw [heap_setCell_other _ _ _ _ _ h2, heap_setCell_other _ _ _ _ _ h1]; exact h0⟩⟩
  · have := (h.fc.set (codeP S n k c) (.bool true)).setOther (i := 0) h.ne (.bool true)
    rw [show (fl.map Value.bool).toArray.setIfInBounds (codeP S n k c) (.bool true) = ((fl.set (codeP S n k c) true).map Value.bool).toArray by simp [List.map_set]] at this
    exact this
  · rw [getD_setB _ _ _ (by rw [h.fl_]; exact tl)]
    simp only [Bool.or_eq_true, decide_eq_true_eq]
    constructor
    · rintro (rfl | q)
      · exact ⟨c, by omega, hok, hne, rfl⟩
      · obtain ⟨d, q1, q2, q3, q4⟩ := (h.sp t ht).1 q
        exact ⟨d, by omega, q2, q3, q4⟩
    · rintro ⟨d, q1, q2, q3, q4⟩
      rcases Nat.lt_or_ge (d.1 * S + d.2) j with c' | c'
      · exact Or.inr ((h.sp t ht).2 ⟨d, c', q2, q3, q4⟩)
      · left; rw [← q4, cell_code hc q2.2.1 (by omega : c.1 * S + c.2 = d.1 * S + d.2)]
  · exact ⟨fun _ => ⟨c, by omega, hok, hne⟩, fun _ => rfl⟩

set_option maxRecDepth 100000 in
set_option maxHeartbeats 3200000 in
theorem one1_any (S n k : Nat) (T : List Int) (pf gf pa B0 j : Nat) (fl : List Bool) (an : Bool) (W : World) (h : FJ W S n k T pf gf pa B0 j fl an) (hn : 0 < n) (hn16 : n ≤ 16) (c : Nat × Nat) (hc : c.2 < S) (hj : j = c.1 * S + c.2) (hok : OkWay S T (k / n, k % n) c) :
    Calls Tryd.prog 141 #[.int .i64 ((codeP S n k c : Nat) : Int), .bool (decide (c.1 ≠ c.2)), .pointer (some ⟨pf, 0, none⟩), .pointer (some ⟨pa, 0, none⟩)] W fun e W' => e = .returned (.tuple #[]) ∧ (∃ fl' an', FJ W' S n k T pf gf pa B0 (j + 1) fl' an') ∧ RK gf pa B0 W W' := by
  by_cases d : c.1 ≠ c.2
  · have NT := hide' (h.note hn c hc hj hok d rfl)
    have tl := codeP_lt (S := S) (k := k) hn c
    have n256 : n * n ≤ 256 := Nat.mul_le_mul hn16 hn16
    obtain ⟨N, hN⟩ : ∃ N, n * n = N := ⟨_, rfl⟩
    have f0 : W.cell? ⟨pf, 0, none⟩ = some (.slice (some ⟨gf, 0, none⟩) N N) := by rw [← hN]; exact h.fb.cell 0
    have bk := bools_at fl (codeP S n k c) (by rw [h.fl_]; exact tl)
    have ck : W.cell? ⟨gf, codeP S n k c, none⟩ = some (.bool (fl.getD (codeP S n k c) false)) := by rw [h.fc.cell]; exact bk
    have fz := h.fc.frozen (codeP S n k c)
    have a0 : (W.setCell ⟨gf, codeP S n k c, none⟩ (.bool true)).cell? ⟨pa, 0, none⟩ = some (.bool an) := (h.ac.setOther (i := codeP S n k c) (Ne.symm h.ne) (.bool true)).cell 0
    have af := (h.ac.setOther (i := codeP S n k c) (Ne.symm h.ne) (.bool true)).frozen 0
    have dd : decide (c.1 ≠ c.2) = true := by simp [d]
    rw [dd]
    generalize fl.getD (codeP S n k c) false = β0 at ck
    obtain ⟨t, ht⟩ : ∃ t, codeP S n k c = t := ⟨_, rfl⟩
    rw [ht] at NT tl ck fz a0 af ⊢
    rw [hN] at tl n256
    obtain ⟨W2, hW2⟩ : ∃ W2, W.setCell ⟨gf, t, none⟩ (.bool true) = W2 := ⟨_, rfl⟩
    rw [hW2] at NT a0 af
    clear dd d h hok hj hc bk hN ht
    go_enter Tryd.func141, Tryd.ntmps141
    go_wp2
    go_end0
    exact ⟨rfl, ⟨_, _, NT.out.1⟩, NT.out.2⟩
  · have SK := hide' (h.skip c hc hj (fun q => d q.2))
    have dd : decide (c.1 ≠ c.2) = false := by simpa using d
    rw [dd]
    clear dd d h hok hj hc
    go_enter Tryd.func141, Tryd.ntmps141
    go_wp2
    go_end0
    exact ⟨rfl, ⟨fl, an, SK.out⟩, RK.refl _ _ _ _⟩
end Go.Proofs.YtdhbdkkchobinaaDoor

namespace Go.Proofs.YtdhbdkkchobinaaDoor
open Go.RowKit
set_option linter.unusedVariables false

/-- What reach holds: what is in, what is to be done. -/
structure TJ (W : World) (n pi gi pt B0 : Nat) (il : List Bool) (tl : List Nat) : Prop where
  ib : Blk W pi #[.slice (some ⟨gi, 0, none⟩) (n * n) (n * n)] 155
  ic : Blk W gi (il.map Value.bool).toArray 4
  il_ : il.length = n * n
  tv : ∃ v, Blk W pt #[v] 22 ∧ W.ownsRow B0 3 1 v tl.length (tl.map fun (y : Nat) => Value.int .i64 (y : Int))
  b1 : B0 ≤ gi
  b2 : B0 ≤ pt
theorem TJ.next {W W' : World} {n pi gi pt B0 : Nat} {il : List Bool} {tl : List Nat} (h : TJ W n pi gi pt B0 il tl) (k : Below W.heap.size W W') : TJ W' n pi gi pt B0 il tl := by
  obtain ⟨v, tb, tr⟩ := h.tv
  exact ⟨h.ib.of (k.block _ h.ib.lt), h.ic.of (k.block _ h.ic.lt), h.il_, ⟨v, tb.of (k.block _ tb.lt), tr.kept (grown_of_below k) (Classical.em _)⟩, h.b1, h.b2⟩
theorem TJ.mark {W : World} {n pi gi pt B0 : Nat} {il : List Bool} {tl : List Nat} (h : TJ W n pi gi pt B0 il tl) (k : Nat) : TJ (W.setCell ⟨gi, k, none⟩ (.bool true)) n pi gi pt B0 (il.set k true) tl := by
  obtain ⟨v, tb, tr⟩ := h.tv
  have n2 : pi ≠ gi := by intro e; have h1 := h.ic; rw [← e] at h1; have := (show W.heap[pi]? = _ from h.ib).symm.trans h1; injection this with this; injection this with _ this _; revert this; decide
  have n3 : pt ≠ gi := by intro e; have h1 := h.ic; rw [← e] at h1; have := (show W.heap[pt]? = _ from tb).symm.trans h1; injection this with this; injection this with _ this _; revert this; decide
  refine ⟨h.ib.setOther n2 _, ?_, by rw [List.length_set]; exact h.il_, ⟨v, tb.setOther n3 _, tr.kept (grownBy_set W gi k _) (.inr (Ne.symm (not_row h.ic (by decide) tr)))⟩, h.b1, h.b2⟩
  have := h.ic.set k (.bool true)
  rw [show (il.map Value.bool).toArray.setIfInBounds k (.bool true) = ((il.set k true).map Value.bool).toArray by simp [List.map_set]] at this
  exact this
theorem TJ.pushed {W w3 : World} {n pi gi pt B0 : Nat} {il : List Bool} {tl : List Nat} (h : TJ W n pi gi pt B0 il tl) {v v' : Value} {tmp : Obj} {t : Nat} (hB : B0 ≤ W.heap.size) (tb : Blk W pt #[v] 22) (tr : W.ownsRow B0 3 1 v tl.length (tl.map fun (y : Nat) => Value.int .i64 (y : Int))) (hg : (W.alloc tmp).grownBy w3 v.ownBlock) (hown : w3.ownsRow B0 3 1 v' (tl.length + 1) ((tl.map fun (y : Nat) => Value.int .i64 (y : Int)) ++ [.int .i64 (t : Int)])) :
    TJ (w3.setCell ⟨pt, 0, none⟩ v') n pi gi pt B0 il (tl ++ [t]) ∧ RK gi pt B0 W (w3.setCell ⟨pt, 0, none⟩ v') := by
  have keep : ∀ {p : Nat} {cs : Array Value} {t : TypeId}, Blk W p cs t → t ≠ 3 → Blk w3 p cs t := fun hb ht => (hb.alloc tmp).of (hg.block _ (hb.alloc tmp).lt (not_row (hb.alloc tmp) ht (tr.alloc tmp)))
  have tb3 : Blk w3 pt #[v] 22 := keep tb (by decide)
  have n2 : pi ≠ pt := by intro e; have h1 := tb; rw [← e] at h1; have := (show W.heap[pi]? = _ from h.ib).symm.trans h1; injection this with this; injection this with _ this _; revert this; decide
  have n3 : gi ≠ pt := by intro e; have h1 := tb; rw [← e] at h1; have := (show W.heap[gi]? = _ from h.ic).symm.trans h1; injection this with this; injection this with _ this _; revert this; decide
  refine ⟨⟨(keep h.ib (by decide)).setOther n2 _, (keep h.ic (by decide)).setOther n3 _, h.il_, ⟨v', ?_, ?_⟩, h.b1, h.b2⟩, ?_, fun k o h0 h1 h2 h3 => ?_⟩
  · exact tb3.set 0 v'
  · rw [List.map_append, List.length_append]
    exact hown.kept (grownBy_set w3 pt 0 _) (.inr (Ne.symm (not_row tb3 (by decide) hown)))
  · refine Below.setCell (p := ⟨pt, 0, none⟩) ?_ h.b2 v'
    exact ((Below.refl B0 W).alloc hB tmp).grown hg (by simp; omega) (row_base tr)
  · rw [heap_setCell_other _ _ _ _ _ h2]
    have hlt := (Array.getElem?_eq_some_iff.1 h0).1
    have ha : (W.alloc tmp).heap[k]? = some o := (Below.heap_alloc W tmp k hlt).trans h0
    refine (hg.block k (by simp; omega) fun e => ?_).trans ha
    rcases (tr.alloc tmp).2 with ⟨rfl, _⟩ | ⟨g, cap, cur, rfl, hb, hgb, _⟩
    · simp [Value.ownBlock] at e
    · obtain rfl : k = g := by simpa [Value.ownBlock] using e
      rw [ha] at hgb
      injection hgb with hgb
      exact h3 _ _ hgb
def ilAfter (il : List Bool) (t : Nat) : List Bool := if il.getD t false then il else il.set t true
def tlAfter (il : List Bool) (tl : List Nat) (t : Nat) : List Nat := if il.getD t false then tl else tl ++ [t]

set_option maxRecDepth 100000 in
set_option maxHeartbeats 6400000 in
theorem reach1_any (n pi gi pt B0 : Nat) (il : List Bool) (tl : List Nat) (t : Nat) (β : Bool) (W : World) (h : TJ W n pi gi pt B0 il tl) (hB : B0 ≤ W.heap.size) (ht : t < n * n) (hn16 : n ≤ 16) (hl : tl.length ≤ 1000) :
    Calls Tryd.prog 193 #[.int .i64 (t : Int), .bool β, .pointer (some ⟨pi, 0, none⟩), .pointer (some ⟨pt, 0, none⟩)] W fun e W' => e = .returned (.tuple #[]) ∧ TJ W' n pi gi pt B0 (ilAfter il t) (tlAfter il tl t) ∧ RK gi pt B0 W W' := by
  have n256 : n * n ≤ 256 := Nat.mul_le_mul hn16 hn16
  have bk := bools_at il t (by rw [h.il_]; exact ht)
  obtain ⟨γ, hγ⟩ : ∃ γ, il.getD t false = γ := ⟨_, rfl⟩
  rw [hγ] at bk
  have E1 := hide' (show ilAfter il t = if γ then il else il.set t true by unfold ilAfter; rw [hγ])
  have E2 := hide' (show tlAfter il tl t = if γ then tl else tl ++ [t] by unfold tlAfter; rw [hγ])
  rw [E1.out, E2.out]
  obtain ⟨N, hN⟩ : ∃ N, n * n = N := ⟨_, rfl⟩
  have i0 : W.cell? ⟨pi, 0, none⟩ = some (.slice (some ⟨gi, 0, none⟩) N N) := by rw [← hN]; exact h.ib.cell 0
  have ck : W.cell? ⟨gi, t, none⟩ = some (.bool γ) := by rw [h.ic.cell]; exact bk
  have fz := h.ic.frozen t
  have HV := hide' h
  rw [hN] at ht n256
  clear hγ bk hN h E1 E2
  cases γ with
  | true =>
    go_enter Tryd.func193, Tryd.ntmps193
    go_wp2
    go_end0
    exact ⟨rfl, HV.out, RK.refl _ _ _ _⟩
  | false =>
    obtain ⟨i1, hi, hz0, hz1, hz2⟩ := info_parts info_int
    obtain ⟨w2, hw2⟩ : ∃ w2, W.setCell ⟨gi, t, none⟩ (.bool true) = w2 := ⟨_, rfl⟩
    have V2 := hide' (HV.out.mark t)
    rw [hw2] at V2
    obtain ⟨v, tb, tr⟩ := V2.out.tv
    have TB := hide' tb
    have TR := hide' tr
    have K2 := hide' (show RK gi pt B0 W w2 by
      refine ⟨by rw [← hw2]; exact (Below.refl B0 W).setCell (p := ⟨gi, t, none⟩) HV.out.b1 _, fun j o h0 h1 h2 h3 => ?_⟩
      rw [← hw2, heap_setCell_other _ _ _ _ _ h1]
      exact h0)
    have S2 := hide' (show B0 ≤ w2.heap.size from Nat.le_trans hB K2.out.bl.size)
    have dt : w2.cell? ⟨pt, 0, none⟩ = some v := TB.out.cell 0
    clear tb tr
    go_enter Tryd.func193, Tryd.ntmps193
    go_wp2_with (at_builtin; refine wpList_append_own_at _ rfl _ _ 22 rfl B0 3 i1 (.int .i64 0) 1 8 Tryd.underlying22 hi hz0 hz1 hz2 rfl (by decide) v tl.length (tl.map fun (y : Nat) => Value.int .i64 (y : Int)) rfl (TR.out.alloc _) ⟨w2.heap.size, 0, none⟩ 1 1 [.int .i64 (t : Int)] rfl rfl (cell_one_new _ _ _) (by simp [Value.oneCell']) (by unfold maxLen; omega) (by omega) (by have := S2.out; simp; omega) ?_; intro v' w3 hown' hgrow3 hnil3 hloc3; have OW := hide' hown'; have GR := hide' hgrow3; clear hown' hgrow3 hnil3 hloc3; obtain ⟨g', cap', rfl⟩ := ownsRow_succ OW.out; have NP := hide' (not_row (TB.out.alloc (.cells #[.int .i64 (t : Int)] 3)) (by decide) (TR.out.alloc _)); have T3 := hide' ((TB.out.alloc (.cells #[.int .i64 (t : Int)] 3)).of (GR.out.block pt (TB.out.alloc _).lt NP.out)); have e0 := T3.out.cell 0; have f0 := T3.out.frozen 0)
    go_end0
    obtain ⟨VP, KP⟩ := V2.out.pushed (t := t) S2.out TB.out TR.out GR.out OW.out
    exact ⟨rfl, VP, K2.out.trans KP⟩

/-- A pair by its number. -/
def unP (n k : Nat) : Nat × Nat := (k / n, k % n)
def coP (n : Nat) (u : Nat × Nat) : Nat := u.1 * n + u.2
theorem un_co {n : Nat} {u : Nat × Nat} (h : u.2 < n) : unP n (coP n u) = u := by
  unfold unP coP
  rw [Nat.mul_comm, Nat.mul_add_div (by omega), Nat.div_eq_of_lt h, Nat.mul_add_mod, Nat.mod_eq_of_lt h]
  simp
theorem co_un {n k : Nat} : coP n (unP n k) = k := by unfold coP unP; rw [Nat.mul_comm]; exact Nat.div_add_mod k n
theorem un_lt {n k : Nat} (hn : 0 < n) (h : k < n * n) : (unP n k).1 < n ∧ (unP n k).2 < n := ⟨Nat.div_lt_of_lt_mul h, Nat.mod_lt _ hn⟩
theorem co_lt {n : Nat} {u : Nat × Nat} (h1 : u.1 < n) (h2 : u.2 < n) : coP n u < n * n := code_lt h1 h2
/-- What reach keeps. -/
structure PR (S n : Nat) (T : List Int) (fl il : List Bool) (tl : List Nat) : Prop where
  len : il.length = n * n
  cnt : tl.length = il.count true
  seen : ∀ t, t < n * n → (il.getD t false = true ↔ t ∈ tl)
  rng : ∀ t ∈ tl, t < n * n
  org : ∀ t ∈ tl, ∃ j cs, j < n * n ∧ fl.getD j false = true ∧ okP S n T (unP n j) cs ∧ coP n (endP S n (unP n j) cs) = t
theorem PR.bound {S n : Nat} {T : List Int} {fl il : List Bool} {tl : List Nat} (h : PR S n T fl il tl) : tl.length ≤ n * n := by rw [h.cnt, ← h.len]; exact List.count_le_length
theorem PR.add {S n : Nat} {T : List Int} {fl il : List Bool} {tl : List Nat} (h : PR S n T fl il tl) (t : Nat) (ht : t < n * n) (ho : ∃ j cs, j < n * n ∧ fl.getD j false = true ∧ okP S n T (unP n j) cs ∧ coP n (endP S n (unP n j) cs) = t) : PR S n T fl (ilAfter il t) (tlAfter il tl t) := by
  unfold ilAfter tlAfter
  cases hb : il.getD t false with
  | true => exact h
  | false =>
    simp only [Bool.false_eq_true, if_false]
    refine ⟨by simp [h.len], ?_, fun s hs => ?_, fun s hs => ?_, fun s hs => ?_⟩
    · rw [count_set_true _ _ (by rw [h.len]; exact ht) hb, List.length_append, h.cnt]; rfl
    · rw [getD_setB _ _ _ (by rw [h.len]; exact ht)]
      simp only [Bool.or_eq_true, decide_eq_true_eq, List.mem_append, List.mem_singleton]
      rw [h.seen s hs]
      exact Or.comm
    · rcases List.mem_append.1 hs with q | q
      · exact h.rng s q
      · rw [List.mem_singleton.1 q]; exact ht
    · rcases List.mem_append.1 hs with q | q
      · exact h.org s q
      · rw [List.mem_singleton.1 q]; exact ho
theorem il_mono {il : List Bool} {t s : Nat} (h : t < il.length) (hs : il.getD s false = true) : (ilAfter il t).getD s false = true := by
  unfold ilAfter
  split
  · exact hs
  · rw [getD_setB _ _ _ h, hs]; simp
theorem il_here {il : List Bool} {t : Nat} (h : t < il.length) : (ilAfter il t).getD t false = true := by
  unfold ilAfter
  split
  · assumption
  · rw [getD_setB _ _ _ h]; simp
theorem tl_left {il : List Bool} {tl : List Nat} {t i : Nat} (h : i < tl.length) : (tlAfter il tl t).getD i 0 = tl.getD i 0 ∧ i < (tlAfter il tl t).length := by
  unfold tlAfter
  split
  · exact ⟨rfl, h⟩
  · refine ⟨?_, by simp; omega⟩
    rw [List.getD_eq_getElem?_getD, List.getD_eq_getElem?_getD, List.getElem?_append_left h]
end Go.Proofs.YtdhbdkkchobinaaDoor

