/-
  What the last text of this claim leans on, part 10: Oc2, Oc3.
-/
import Derived.Test.YtjjdjdodhedihaaDoorJs9
import Derived.RangeFuncBox
import Derived.Maps.AppendAt
namespace Go.Proofs.YtjjdjdodhedihaaDoor
open Go.RowKit
set_option linter.unusedVariables false

/-- A block of cells, as it lies. -/
def Blk (w : World) (p : Nat) (cs : Array Value) (t : TypeId) : Prop := w.heap[p]? = some (.cells cs t (0, 0))
theorem Blk.lt {w : World} {p : Nat} {cs : Array Value} {t : TypeId} (h : Blk w p cs t) : p < w.heap.size := (Array.getElem?_eq_some_iff.1 h).1
theorem Blk.cell {w : World} {p : Nat} {cs : Array Value} {t : TypeId} (h : Blk w p cs t) (i : Nat) : w.cell? ⟨p, i, none⟩ = cs[i]? := by simp [World.cell?, show w.heap[p]? = _ from h]
theorem Blk.frozen {w : World} {p : Nat} {cs : Array Value} {t : TypeId} (h : Blk w p cs t) (i : Nat) : w.frozen? ⟨p, i, none⟩ = false := by simp [World.frozen?, show w.heap[p]? = _ from h]
theorem Blk.new (w : World) (cs : Array Value) (t : TypeId) : Blk (w.alloc (.cells cs t)) w.heap.size cs t := World.alloc_heap_new w _
theorem Blk.alloc {w : World} {p : Nat} {cs : Array Value} {t : TypeId} (h : Blk w p cs t) (o : Obj) : Blk (w.alloc o) p cs t := (Below.heap_alloc w o p h.lt).trans h
theorem Blk.of {w w' : World} {p : Nat} {cs : Array Value} {t : TypeId} (h : Blk w p cs t) (e : w'.heap[p]? = w.heap[p]?) : Blk w' p cs t := e.trans h
theorem Blk.set {w : World} {p : Nat} {cs : Array Value} {t : TypeId} (h : Blk w p cs t) (i : Nat) (v : Value) : Blk (w.setCell ⟨p, i, none⟩ v) p (cs.setIfInBounds i v) t := by
  obtain ⟨hlt, hk⟩ := Array.getElem?_eq_some_iff.1 h
  show (w.heap.modify p _)[p]? = _
  rw [Array.getElem?_eq_getElem (by rw [Array.size_modify]; exact hlt), Array.getElem_modify_self, hk]
  rfl
theorem Blk.setOther {w : World} {p g i : Nat} {cs : Array Value} {t : TypeId} (h : Blk w p cs t) (hne : p ≠ g) (v : Value) : Blk (w.setCell ⟨g, i, none⟩ v) p cs t := h.of (heap_setCell_other _ _ _ _ _ hne)

/-- A stop: a pair of places, the cells by which it was come to, the number of the one ahead. -/
structure Stp where
  p : Nat
  q : Nat
  a : Nat
  b : Nat
  h : Int
def Stp.cells (s : Stp) : List Value := [.int .i64 (s.p : Int), .int .i64 (s.q : Int), .int .i64 (s.a : Int), .int .i64 (s.b : Int), .int .i64 s.h]
def stCells (st : List Stp) : List Value := st.flatMap Stp.cells
theorem stCells_snoc (st : List Stp) (s : Stp) : stCells (st ++ [s]) = stCells st ++ s.cells := by simp [stCells]
theorem stCells_at (st : List Stp) : ∀ (i k : Nat) (hi : i < st.length), k < 5 → (stCells st)[i * 5 + k]? = (st[i].cells)[k]? := by
  induction st with
  | nil => intro i k hi; simp at hi
  | cons s r ih =>
    intro i k hi hk
    have e : stCells (s :: r) = s.cells ++ stCells r := rfl
    have hl : s.cells.length = 5 := rfl
    rw [e]
    cases i with
    | zero => rw [List.getElem?_append_left (by omega)]; simp
    | succ i =>
      rw [List.getElem?_append_right (by omega), hl, show (i + 1) * 5 + k - 5 = i * 5 + k by omega]
      exact ih i k (by simpa using hi) hk

/-- What search holds: what was seen, where it stopped. -/
structure VS (W : World) (S R n : Nat) (v3 : Value) (pg ps gs pt B0 : Nat) (sn : List Bool) (st : List Stp) : Prop where
  gb : Blk W pg #[.int .i64 (S : Int), .int .i64 (2 * (R : Int)), .int .i64 (n : Int), v3] 79
  sb : Blk W ps #[.slice (some ⟨gs, 0, none⟩) (n * n) (n * n)] 90
  sc : Blk W gs (sn.map Value.bool).toArray 4
  sl : sn.length = n * n
  tv : ∃ v, Blk W pt #[v] 164 ∧ W.ownsRow B0 166 5 v st.length (stCells st)
  b1 : B0 ≤ pg
  b2 : B0 ≤ ps
  b3 : B0 ≤ gs
  b4 : B0 ≤ pt

/-- What a visit may turn: the two, the stops' row; all else lies as it lay. -/
structure VK (gs pt B0 : Nat) (W W' : World) : Prop where
  bl : Below B0 W W'
  same : ∀ k o, W.heap[k]? = some o → k ≠ gs → k ≠ pt → (∀ c f, o ≠ .cells c 166 f) → W'.heap[k]? = some o
theorem VK.refl (gs pt B0 : Nat) (W : World) : VK gs pt B0 W W := ⟨Below.refl _ _, fun _ _ h _ _ _ => h⟩
theorem VK.trans {gs pt B0 : Nat} {A B C : World} (h : VK gs pt B0 A B) (k : VK gs pt B0 B C) : VK gs pt B0 A C :=
  ⟨h.bl.trans k.bl, fun i o h0 h1 h2 h3 => k.same i o (h.same i o h0 h1 h2 h3) h1 h2 h3⟩
theorem VK.below {gs pt B0 : Nat} {A B : World} (h : Below A.heap.size A B) (hB : B0 ≤ A.heap.size) : VK gs pt B0 A B :=
  ⟨h.mono hB, fun k o h0 _ _ _ => (h.block k (Array.getElem?_eq_some_iff.1 h0).1).trans h0⟩
theorem VK.blk {gs pt B0 : Nat} {A B : World} (h : VK gs pt B0 A B) {p : Nat} {cs : Array Value} {t : TypeId} (hp : Blk A p cs t) (h1 : p ≠ gs) (h2 : p ≠ pt) (ht : t ≠ 166) : Blk B p cs t :=
  h.same p _ hp h1 h2 (fun c f e => by injection e with _ e _; exact ht e)
theorem info_stop : (Tryd.prog.info? 166).map (fun i => (i.zero, i.size, i.bytes)) = some (some (.agg #[.int .i64 0, .int .i64 0, .int .i64 0, .int .i64 0, .int .i64 0]), 5, 40) := by kernel_rfl

/-- Was a pair seen? -/
def wasSeen (n : Nat) (sn : List Bool) (p q : Nat) : Bool := sn.getD (p * n + q) false
def snAfter (n : Nat) (sn : List Bool) (s : Stp) : List Bool := if wasSeen n sn s.p s.q then sn else sn.set (s.p * n + s.q) true
def stAfter (n : Nat) (sn : List Bool) (st : List Stp) (s : Stp) : List Stp := if wasSeen n sn s.p s.q then st else st ++ [s]
def VisitPost (S R n : Nat) (v3 : Value) (pg ps gs pt B0 : Nat) (sn : List Bool) (st : List Stp) (W : World) (e : Ending) (W' : World) : Prop := e = .returned (.tuple #[]) ∧ VS W' S R n v3 pg ps gs pt B0 sn st ∧ VK gs pt B0 W W'

theorem bools_at (sn : List Bool) (k : Nat) (h : k < sn.length) : ((sn.map Value.bool).toArray)[k]? = some (.bool (sn.getD k false)) := by
  simp [List.getD, h]
theorem VS.next {W W' : World} {S R n : Nat} {v3 : Value} {pg ps gs pt B0 : Nat} {sn : List Bool} {st : List Stp} (h : VS W S R n v3 pg ps gs pt B0 sn st) (k : Below W.heap.size W W') : VS W' S R n v3 pg ps gs pt B0 sn st := by
  obtain ⟨v, tb, tr⟩ := h.tv
  refine ⟨h.gb.of (k.block pg h.gb.lt), h.sb.of (k.block ps h.sb.lt), h.sc.of (k.block gs h.sc.lt), h.sl, ⟨v, tb.of (k.block pt tb.lt), tr.kept (grown_of_below k) (Classical.em _)⟩, h.b1, h.b2, h.b3, h.b4⟩
theorem not_row {W : World} {p : Nat} {cs : Array Value} {t e : TypeId} (h : Blk W p cs t) (hte : t ≠ e) {base size k : Nat} {v : Value} {xs : List Value} (hr : W.ownsRow base e size v k xs) : some p ≠ v.ownBlock := by
  rcases hr.2 with ⟨rfl, _⟩ | ⟨g, cap, cur, rfl, _, hgb, _⟩
  · simp [Value.ownBlock]
  · intro e'
    obtain rfl : p = g := by simpa [Value.ownBlock] using e'
    have := (show W.heap[p]? = _ from h).symm.trans hgb
    simp at this
    exact hte this.2
theorem grownBy_set (w : World) (g i : Nat) (v : Value) : w.grownBy (w.setCell ⟨g, i, none⟩ v) (some g) :=
  ⟨rfl, rfl, rfl, by simp, fun k _ hk => heap_setCell_other _ _ _ _ _ (fun e => hk (by rw [e]))⟩
theorem VS.mark {W : World} {S R n : Nat} {v3 : Value} {pg ps gs pt B0 : Nat} {sn : List Bool} {st : List Stp} (h : VS W S R n v3 pg ps gs pt B0 sn st) (k : Nat) (hk : k < sn.length) : VS (W.setCell ⟨gs, k, none⟩ (.bool true)) S R n v3 pg ps gs pt B0 (sn.set k true) st := by
  obtain ⟨v, tb, tr⟩ := h.tv
  have n1 : pg ≠ gs := by intro e; have h1 := h.sc; rw [← e] at h1; have := (show W.heap[pg]? = _ from h.gb).symm.trans h1; injection this with this; injection this with _ this _; revert this; decide
  have n2 : ps ≠ gs := by intro e; have h1 := h.sc; rw [← e] at h1; have := (show W.heap[ps]? = _ from h.sb).symm.trans h1; injection this with this; injection this with _ this _; revert this; decide
  have n3 : pt ≠ gs := by intro e; have h1 := h.sc; rw [← e] at h1; have := (show W.heap[pt]? = _ from tb).symm.trans h1; injection this with this; injection this with _ this _; revert this; decide
  refine ⟨h.gb.setOther n1 _, h.sb.setOther n2 _, ?_, by rw [List.length_set]; exact h.sl, ⟨v, tb.setOther n3 _, tr.kept (grownBy_set W gs k _) (.inr (Ne.symm (not_row h.sc (by decide) tr)))⟩, h.b1, h.b2, h.b3, h.b4⟩
  have := h.sc.set k (.bool true)
  rw [show (sn.map Value.bool).toArray.setIfInBounds k (.bool true) = ((sn.set k true).map Value.bool).toArray by simp [List.map_set]] at this
  exact this

theorem VS.pushed {W w3 : World} {S R n : Nat} {v3 : Value} {pg ps gs pt B0 : Nat} {sn : List Bool} {st : List Stp} (h : VS W S R n v3 pg ps gs pt B0 sn st) {v v' : Value} {tmp : Obj} {s : Stp} (hB : B0 ≤ W.heap.size) (tb : Blk W pt #[v] 164) (tr : W.ownsRow B0 166 5 v st.length (stCells st)) (hg : (W.alloc tmp).grownBy w3 v.ownBlock) (hown : w3.ownsRow B0 166 5 v' (st.length + 1) (stCells st ++ s.cells)) :
    VS (w3.setCell ⟨pt, 0, none⟩ v') S R n v3 pg ps gs pt B0 sn (st ++ [s]) ∧ VK gs pt B0 W (w3.setCell ⟨pt, 0, none⟩ v') := by
  have keep : ∀ {p : Nat} {cs : Array Value} {t : TypeId}, Blk W p cs t → t ≠ 166 → Blk w3 p cs t := fun hb ht => (hb.alloc tmp).of (hg.block _ (hb.alloc tmp).lt (not_row (hb.alloc tmp) ht (tr.alloc tmp)))
  have tb3 : Blk w3 pt #[v] 164 := keep tb (by decide)
  have n1 : pg ≠ pt := by intro e; have h1 := tb; rw [← e] at h1; have := (show W.heap[pg]? = _ from h.gb).symm.trans h1; injection this with this; injection this with _ this _; revert this; decide
  have n2 : ps ≠ pt := by intro e; have h1 := tb; rw [← e] at h1; have := (show W.heap[ps]? = _ from h.sb).symm.trans h1; injection this with this; injection this with _ this _; revert this; decide
  have n3 : gs ≠ pt := by intro e; have h1 := tb; rw [← e] at h1; have := (show W.heap[gs]? = _ from h.sc).symm.trans h1; injection this with this; injection this with _ this _; revert this; decide
  refine ⟨⟨(keep h.gb (by decide)).setOther n1 _, (keep h.sb (by decide)).setOther n2 _, (keep h.sc (by decide)).setOther n3 _, h.sl, ⟨v', ?_, ?_⟩, h.b1, h.b2, h.b3, h.b4⟩, ?_, fun k o h0 h1 h2 h3 => ?_⟩
  · exact tb3.set 0 v'
  · rw [stCells_snoc, List.length_append]
    exact hown.kept (grownBy_set w3 pt 0 _) (.inr (Ne.symm (not_row tb3 (by decide) hown)))
  · refine Below.setCell (p := ⟨pt, 0, none⟩) ?_ h.b4 v'
    refine ((Below.refl B0 W).alloc hB tmp).grown hg (by simp; omega) fun j ej => ?_
    rcases tr.2 with ⟨rfl, _⟩ | ⟨g, cap, cur, rfl, hb, _, _⟩
    · simp [Value.ownBlock] at ej
    · obtain rfl : g = j := by simpa [Value.ownBlock] using ej
      exact hb
  · rw [heap_setCell_other _ _ _ _ _ h2]
    have hlt := (Array.getElem?_eq_some_iff.1 h0).1
    have ha : (W.alloc tmp).heap[k]? = some o := (Below.heap_alloc W tmp k hlt).trans h0
    refine (hg.block k (by simp; omega) fun e => ?_).trans ha
    rcases (tr.alloc tmp).2 with ⟨rfl, _⟩ | ⟨g, cap, cur, rfl, hb, hgb, _⟩
    · simp [Value.ownBlock] at e
    · obtain rfl : k = g := by simpa [Value.ownBlock] using e
      rw [ha] at hgb
      injection hgb with hgb
      exact h3 _ _ hgb

theorem five_new (w : World) (x0 x1 x2 x3 x4 : Value) (t : TypeId) : ∀ j u, [x0, x1, x2, x3, x4][j]? = some u → (w.alloc (.cells #[x0, x1, x2, x3, x4] t)).cell? ((⟨w.heap.size, 0, none⟩ : Addr).add j) = some u := by
  intro j u hj
  have e : (⟨w.heap.size, 0, none⟩ : Addr).add j = ⟨w.heap.size, j, none⟩ := by unfold Addr.add; split <;> simp_all
  rw [e, World.cell?_alloc_at _ _ _ _ rfl]
  simpa using hj

set_option maxRecDepth 100000 in
set_option maxHeartbeats 6400000 in
theorem visit_any (S R n : Nat) (v3 : Value) (pg ps gs pt B0 : Nat) (sn : List Bool) (st : List Stp) (s : Stp) (W : World) (hV : VS W S R n v3 pg ps gs pt B0 sn st) (hB : B0 ≤ W.heap.size) (hp : s.p < n) (hq : s.q < n) (hn16 : n ≤ 16) (hst : st.length ≤ 1000) :
    Calls Tryd.prog 106 #[.agg #[.int .i64 (s.p : Int), .int .i64 (s.q : Int), .int .i64 (s.a : Int), .int .i64 (s.b : Int), .int .i64 s.h], .pointer (some ⟨pg, 0, none⟩), .pointer (some ⟨ps, 0, none⟩), .pointer (some ⟨pt, 0, none⟩)] W (VisitPost S R n v3 pg ps gs pt B0 (snAfter n sn s) (stAfter n sn st s) W) := by
  obtain ⟨p, q, a, b, h⟩ := s
  simp only at hp hq ⊢
  obtain ⟨k, hk⟩ : ∃ k, p * n + q = k := ⟨_, rfl⟩
  have kn : k < n * n := by
    rw [← hk]
    have : (p + 1) * n ≤ n * n := Nat.mul_le_mul_right _ (by omega)
    rw [Nat.add_mul] at this
    omega
  have n256 : n * n ≤ 256 := Nat.mul_le_mul hn16 hn16
  obtain ⟨N, hN⟩ : ∃ N, n * n = N := ⟨_, rfl⟩
  obtain ⟨pn, hpn⟩ : ∃ pn, p * n = pn := ⟨_, rfl⟩
  have q1 : (p : Int) * (n : Int) = (pn : Int) := by rw [← hpn]; simp
  have q2 : (pn : Int) + (q : Int) = (k : Int) := by omega
  have pn4 : pn ≤ 256 := by omega
  obtain ⟨w1, hw1⟩ : ∃ w1, W.alloc (.cells #[.int .i64 (p : Int), .int .i64 (q : Int), .int .i64 (a : Int), .int .i64 (b : Int), .int .i64 h] 166) = w1 := ⟨_, rfl⟩
  have BX := hide' (show Blk w1 W.heap.size #[.int .i64 (p : Int), .int .i64 (q : Int), .int .i64 (a : Int), .int .i64 (b : Int), .int .i64 h] 166 by rw [← hw1]; exact Blk.new _ _ _)
  have BE := hide' (show Below W.heap.size W w1 by rw [← hw1]; exact (Below.refl _ _).alloc (Nat.le_refl _) _)
  have bk := bools_at sn k (by rw [hV.sl]; exact kn)
  obtain ⟨β, hβ⟩ : ∃ β, sn.getD k false = β := ⟨_, rfl⟩
  have HB := hide' (show wasSeen n sn p q = β by unfold wasSeen; rw [hk]; exact hβ)
  rw [hβ] at bk
  have V1 := hide' (hV.next BE.out)
  have HV := hide' hV
  have c0 : w1.cell? ⟨W.heap.size, 0, none⟩ = some (.int .i64 (p : Int)) := BX.out.cell 0
  have c1 : w1.cell? ⟨W.heap.size, 1, none⟩ = some (.int .i64 (q : Int)) := BX.out.cell 1
  have c2 : w1.cell? ⟨W.heap.size, 2, none⟩ = some (.int .i64 (a : Int)) := BX.out.cell 2
  have c3 : w1.cell? ⟨W.heap.size, 3, none⟩ = some (.int .i64 (b : Int)) := BX.out.cell 3
  have c4 : w1.cell? ⟨W.heap.size, 4, none⟩ = some (.int .i64 h) := BX.out.cell 4
  have g2 : w1.cell? ⟨pg, 2, none⟩ = some (.int .i64 (n : Int)) := V1.out.gb.cell 2
  have s0 : w1.cell? ⟨ps, 0, none⟩ = some (.slice (some ⟨gs, 0, none⟩) N N) := by rw [← hN]; exact V1.out.sb.cell 0
  have sk : w1.cell? ⟨gs, k, none⟩ = some (.bool β) := by rw [V1.out.sc.cell k]; exact bk
  have sf := V1.out.sc.frozen k
  have HK := hide' hk
  have KN := hide' kn
  rw [hN] at kn n256
  clear hV hβ bk hpn hk hN
  cases β with
  | true =>
    have E1 := hide' (show snAfter n sn ⟨p, q, a, b, h⟩ = sn by unfold snAfter; simp only; rw [HB.out]; rfl)
    have E2 := hide' (show stAfter n sn st ⟨p, q, a, b, h⟩ = st by unfold stAfter; simp only; rw [HB.out]; rfl)
    rw [E1.out, E2.out]
    go_enter Tryd.func106, Tryd.ntmps106
    go_wp2
    go_end0
    exact ⟨rfl, V1.out, VK.below BE.out hB⟩
  | false =>
    have E1 := hide' (show snAfter n sn ⟨p, q, a, b, h⟩ = sn.set k true by unfold snAfter; simp only; rw [HB.out, HK.out]; rfl)
    have E2 := hide' (show stAfter n sn st ⟨p, q, a, b, h⟩ = st ++ [⟨p, q, a, b, h⟩] by unfold stAfter; simp only; rw [HB.out]; rfl)
    rw [E1.out, E2.out]
    obtain ⟨v, tb, tr⟩ := V1.out.tv
    obtain ⟨i0, hi, hz0, hz1, hz2⟩ := info_parts info_stop
    obtain ⟨w2, hw2⟩ : ∃ w2, w1.setCell ⟨gs, k, none⟩ (.bool true) = w2 := ⟨_, rfl⟩
    have GN := hide' (show W.heap.size ≠ gs by have := HV.out.sc.lt; omega)
    have B2 := hide' (show Blk w2 W.heap.size #[.int .i64 (p : Int), .int .i64 (q : Int), .int .i64 (a : Int), .int .i64 (b : Int), .int .i64 h] 166 by rw [← hw2]; exact BX.out.setOther GN.out _)
    have PT := hide' (show pt ≠ gs by intro e; have h1 := V1.out.sc; rw [← e] at h1; have := tb.symm.trans h1; injection this with this; injection this with _ this _; revert this; decide)
    have PP := hide' (show pt ≠ W.heap.size by have h0 := HV.out.tv; obtain ⟨v', t', _⟩ := h0; have := t'.lt; omega)
    have T2 := hide' (show Blk w2 pt #[v] 164 by rw [← hw2]; exact tb.setOther PT.out _)
    have NR := hide' (show some gs ≠ v.ownBlock from not_row V1.out.sc (by decide) tr)
    have R2 := hide' (show w2.ownsRow B0 166 5 v st.length (stCells st) by rw [← hw2]; exact tr.kept (grownBy_set w1 gs k _) (.inr (Ne.symm NR.out)))
    have VA := hide' (V1.out.mark k (by rw [V1.out.sl]; exact KN.out))
    rw [hw2] at VA
    have K2 := hide' (show VK gs pt B0 W w2 by
      refine ⟨by rw [← hw2]; exact (BE.out.mono hB).setCell (p := ⟨gs, k, none⟩) V1.out.b3 _, fun j o h0 h1 h2 h3 => ?_⟩
      rw [← hw2, heap_setCell_other _ _ _ _ _ h1]
      exact (BE.out.block j (Array.getElem?_eq_some_iff.1 h0).1).trans h0)
    have S2 := hide' (show B0 ≤ w2.heap.size from Nat.le_trans hB K2.out.bl.size)
    have d0 : w2.cell? ⟨W.heap.size, 0, none⟩ = some (.int .i64 (p : Int)) := B2.out.cell 0
    have d1 : w2.cell? ⟨W.heap.size, 1, none⟩ = some (.int .i64 (q : Int)) := B2.out.cell 1
    have d2 : w2.cell? ⟨W.heap.size, 2, none⟩ = some (.int .i64 (a : Int)) := B2.out.cell 2
    have d3 : w2.cell? ⟨W.heap.size, 3, none⟩ = some (.int .i64 (b : Int)) := B2.out.cell 3
    have d4 : w2.cell? ⟨W.heap.size, 4, none⟩ = some (.int .i64 h) := B2.out.cell 4
    have dt : w2.cell? ⟨pt, 0, none⟩ = some v := T2.out.cell 0
    clear tb tr
    go_enter Tryd.func106, Tryd.ntmps106
    go_wp2_with (at_builtin; refine wpList_append_own_at _ rfl _ _ 164 rfl B0 166 i0 (.agg #[.int .i64 0, .int .i64 0, .int .i64 0, .int .i64 0, .int .i64 0]) 5 40 Tryd.underlying164 hi hz0 hz1 hz2 rfl (by decide) v st.length (stCells st) rfl (R2.out.alloc _) ⟨w2.heap.size, 0, none⟩ 1 1 [.int .i64 (p : Int), .int .i64 (q : Int), .int .i64 (a : Int), .int .i64 (b : Int), .int .i64 h] rfl rfl (five_new _ _ _ _ _ _ _) (by simp [Value.oneCell']) (by unfold maxLen; omega) (by omega) (by have := S2.out; simp; omega) ?_; intro v' w3 hown' hgrow3 hnil3 hloc3; have OW := hide' hown'; have GR := hide' hgrow3; clear hown' hgrow3 hnil3 hloc3; obtain ⟨g', cap', rfl⟩ := ownsRow_succ OW.out; have NP := hide' (not_row (T2.out.alloc (.cells #[.int .i64 (p : Int), .int .i64 (q : Int), .int .i64 (a : Int), .int .i64 (b : Int), .int .i64 h] 166)) (by decide) (R2.out.alloc _)); have T3 := hide' ((T2.out.alloc (.cells #[.int .i64 (p : Int), .int .i64 (q : Int), .int .i64 (a : Int), .int .i64 (b : Int), .int .i64 h] 166)).of (GR.out.block pt (T2.out.alloc _).lt NP.out)); have e0 := T3.out.cell 0; have f0 := T3.out.frozen 0)
    go_end0
    obtain ⟨VP, KP⟩ := VA.out.pushed (s := ⟨p, q, a, b, h⟩) S2.out T2.out R2.out GR.out OW.out
    exact ⟨rfl, VP, K2.out.trans KP⟩
end Go.Proofs.YtjjdjdodhedihaaDoor

namespace Go.Proofs.YtjjdjdodhedihaaDoor
open Go.RowKit
set_option linter.unusedVariables false

/-- Pairs of numbers in a block. -/
structure PC (w : World) (g n : Nat) (E : Nat → Nat × Nat) : Prop where
  lt : g < w.heap.size
  c0 : ∀ k, k < n → w.cell? ⟨g, k * 2, none⟩ = some (.int .i64 ((E k).1 : Int))
  c1 : ∀ k, k < n → w.cell? ⟨g, k * 2 + 1, none⟩ = some (.int .i64 ((E k).2 : Int))
  fz : ∀ k, w.frozen? ⟨g, k, none⟩ = false
theorem PC.drew {w : World} {g n : Nat} {E : Nat → Nat × Nat} (h : PC w g n E) : PC w.drew g n E := ⟨h.lt, h.c0, h.c1, h.fz⟩
theorem PC.ext {w : World} {g n : Nat} {E E' : Nat → Nat × Nat} (h : PC w g n E) (e : ∀ k, k < n → E k = E' k) : PC w g n E' := ⟨h.lt, fun k hk => by rw [← e k hk]; exact h.c0 k hk, fun k hk => by rw [← e k hk]; exact h.c1 k hk, h.fz⟩
theorem PC.set {w : World} {g n : Nat} {E : Nat → Nat × Nat} (h : PC w g n E) (i : Nat) (hi : i < n) (x : Nat × Nat) : PC ((w.setCell ⟨g, i * 2, none⟩ (.int .i64 (x.1 : Int))).setCell ⟨g, i * 2 + 1, none⟩ (.int .i64 (x.2 : Int))) g n (fun k => if k = i then x else E k) := by
  have o : ∀ (W : World) (a b : Nat) (u : Value), a ≠ b → (W.setCell ⟨g, a, none⟩ u).cell? ⟨g, b, none⟩ = W.cell? ⟨g, b, none⟩ := fun W a b u h => World.cell?_setCell_other _ ⟨g, a, none⟩ ⟨g, b, none⟩ _ (fun q => h (congrArg Addr.off q))
  refine ⟨by simpa using h.lt, fun k hk => ?_, fun k hk => ?_, fun k => by simp [World.frozen?_setCell]; exact h.fz k⟩
  · rw [o _ _ _ _ (by omega)]
    by_cases e : k = i
    · subst e
      simp only [if_true]
      exact World.cell?_setCell_same _ _ _ (h.c0 k hk)
    · rw [o _ _ _ _ (by omega), if_neg e]; exact h.c0 k hk
  · by_cases e : k = i
    · subst e
      simp only [if_true]
      exact World.cell?_setCell_same _ _ _ (by rw [o _ _ _ _ (by omega)]; exact h.c1 k hk)
    · rw [o _ _ _ _ (by omega), o _ _ _ _ (by omega), if_neg e]; exact h.c1 k hk
theorem rd_set2 {w w' : World} {g : Nat} (h : Rd g w w') (i j : Nat) (u v : Value) : Rd g w ((w'.setCell ⟨g, i, none⟩ u).setCell ⟨g, j, none⟩ v) :=
  ⟨h.os, h.tape, h.output, by simpa using h.size, fun k hk hg => by rw [heap_setCell_other _ _ _ _ _ hg, heap_setCell_other _ _ _ _ _ hg]; exact h.block k hk hg⟩
theorem rd_drew {w w' : World} {g : Nat} (h : Rd g w w') : Rd g w w'.drew := ⟨h.os, h.tape, h.output, h.size, h.block⟩
def ixR (n i k : Nat) : Nat := if k < i ∨ n ≤ k + i then n - 1 - k else k

set_option maxRecDepth 100000 in
set_option maxHeartbeats 3200000 in
theorem reverseP_any (g n c : Nat) (E : Nat → Nat × Nat) (w : World) (h0 : 0 < n) (hn : n ≤ 1000) (hP : PC w g n E) :
    Calls Tryd.prog 126 #[.slice (some ⟨g, 0, none⟩) n c] w fun e w' => e = .returned (.tuple #[]) ∧ PC w' g n (fun k => E (n - 1 - k)) ∧ Rd g w w' := by
  have HP := hide' (show PC w g n (fun k => E (ixR n 0 k)) from hP.ext (fun k hk => by unfold ixR; rw [if_neg (by omega)]))
  clear hP
  go_enter Tryd.func126, Tryd.ntmps126
  go_wp2
  go_loopw [2, 3] (fun iv jv wr => ∃ i : Nat, iv = .int .i64 (i : Int) ∧ jv = .int .i64 ((n : Int) - 1 - (i : Int)) ∧ 2 * i ≤ n + 1 ∧ Hid (PC wr g n (fun k => E (ixR n i k)) ∧ Rd g w wr)) (fun iv _ _ => n - (intOf iv).toNat)
  case atStart => exact ⟨0, rfl, by simp, by omega, hide' ⟨HP.out, Rd.refl _ _⟩⟩
  case round =>
    clear HP
    obtain ⟨i, rfl, rfl, hi, H1⟩ := hrel
    by_cases d : (i : Int) < (n : Int) - 1 - (i : Int)
    · obtain ⟨j, hj⟩ : ∃ j : Nat, (n : Int) - 1 - (i : Int) = (j : Int) := ⟨n - 1 - i, by omega⟩
      obtain ⟨x, hx⟩ : ∃ x, E (ixR n i i) = x := ⟨_, rfl⟩
      obtain ⟨y, hy⟩ : ∃ y, E (ixR n i j) = y := ⟨_, rfl⟩
      have a0 := H1.out.1.c0 i (by omega)
      have a1 := H1.out.1.c1 i (by omega)
      have b0 := H1.out.1.c0 j (by omega)
      have b1 := H1.out.1.c1 j (by omega)
      have f0 := H1.out.1.fz
      simp only [hx] at a0 a1
      simp only [hy] at b0 b1
      rw [hj] at d
      have e0 := f0 (i * 2)
      have e1 := f0 (i * 2 + 1)
      have e2 := f0 (j * 2)
      have e3 := f0 (j * 2 + 1)
      have JI := hide' (show j = n - 1 - i by omega)
      have IJ := hide' (show i < j by omega)
      have NX := hide' (show ∀ k, k < n → (if k = j then x else if k = i then y else E (ixR n i k)) = E (ixR n (i + 1) k) by
        intro k hk
        have h1 := JI.out
        have h2 := IJ.out
        by_cases q1 : k = j
        · rw [if_pos q1, ← hx]
          unfold ixR
          rw [if_neg (by omega), if_pos (by omega)]
          congr 1
          omega
        · rw [if_neg q1]
          by_cases q2 : k = i
          · rw [if_pos q2, ← hy]
            unfold ixR
            rw [if_neg (by omega), if_pos (by omega)]
            congr 1
            omega
          · rw [if_neg q2]
            unfold ixR
            by_cases q3 : k < i ∨ n ≤ k + i
            · rw [if_pos q3, if_pos (by omega)]
            · rw [if_neg q3, if_neg (by omega)])
      have PN := hide' (show PC (((((wr.setCell ⟨g, i * 2, none⟩ (.int .i64 (y.1 : Int))).setCell ⟨g, i * 2 + 1, none⟩ (.int .i64 (y.2 : Int))).setCell ⟨g, j * 2, none⟩ (.int .i64 (x.1 : Int))).setCell ⟨g, j * 2 + 1, none⟩ (.int .i64 (x.2 : Int))).drew) g n (fun k => E (ixR n (i + 1) k)) from
        (((H1.out.1.set i (by omega) y).set j (by omega) x).drew).ext NX.out)
      have RN := hide' (rd_drew (rd_set2 (rd_set2 H1.out.2 (i * 2) (i * 2 + 1) (.int .i64 (y.1 : Int)) (.int .i64 (y.2 : Int))) (j * 2) (j * 2 + 1) (.int .i64 (x.1 : Int)) (.int .i64 (x.2 : Int))))
      clear hx hy NX JI H1
      go_wp2
      go_region
      go_wp2
      exact ⟨⟨i + 1, by go_num, by go_num, by omega, hide' ⟨PN.out, RN.out⟩⟩, by simp [intOf]; omega⟩
    · have FI := hide' (show PC wr g n (fun k => E (n - 1 - k)) from H1.out.1.ext (fun k hk => by
        show E (ixR n i k) = _
        unfold ixR
        split
        · rfl
        · rw [show n - 1 - k = k by omega]))
      go_wp2
      go_end0
      exact ⟨rfl, FI.out, H1.out.2⟩
end Go.Proofs.YtjjdjdodhedihaaDoor

