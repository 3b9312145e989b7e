/-
  What the last text of this claim leans on, part 23: Ps2.
-/
import Derived.Test.YtfdbgkdbmlmigaaDoorZp22
import Derived.Test.YtfdbgkdbmlmigaaDoorZp20
import Derived.Test.YtfdbgkdbmlmigaaDoorZp12
namespace Go.Proofs.YtfdbgkdbmlmigaaDoor
open Go.RowKit
set_option linter.unusedVariables false
theorem kB_le {g : Nat → Nat} {m p t : Nat} (hg : ∀ i, i < p → g i ≤ 1) (ht : t < m) : kB g m p t ≤ 1 := by
  unfold kB
  split
  · exact hg _ (by omega)
  · omega
theorem kyN_inj {g h : Nat → Nat} {m p : Nat} (hg : ∀ i, i < p → g i ≤ 1) (hh : ∀ i, i < p → h i ≤ 1) : ∀ t, t ≤ m → kyN g m p t = kyN h m p t → ∀ j, j < t → kB g m p j = kB h m p j
  | 0, _, _, j, hj => by omega
  | t + 1, ht, e, j, hj => by
    rw [kyN, kyN] at e
    have a := kB_le (t := t) hg (show t < m by omega)
    have b := kB_le (t := t) hh (show t < m by omega)
    by_cases q : j = t
    · subst q; omega
    · exact kyN_inj hg hh t (by omega) (by omega) j (by omega)
/-- The same key: the same cells ahead. -/
theorem key_same {g h : Nat → Nat} {m p : Nat} (hg : ∀ i, i < p → g i ≤ 1) (hh : ∀ i, i < p → h i ≤ 1) (e : kyN g m p m = kyN h m p m) : ∀ j, p - m ≤ j → j < p → g j = h j := by
  intro j h1 h2
  have := kyN_inj hg hh m (Nat.le_refl _) e (j + m - p) (by omega)
  unfold kB at this
  rw [if_pos (by omega), if_pos (by omega), show p + (j + m - p) - m = j by omega] at this
  exact this
/-- Nothing comes of any beginning with this key. -/
def DeadT (T : Nat) (ok : (Nat → Nat) → Nat → Prop) (m p k : Nat) : Prop := ∀ g : Nat → Nat, (∀ i, i < p → g i ≤ 1) → kyN g m p m = k → NoneB T ok g p
theorem deadT_of {born stay w : Nat} {pc : Nat → Int} {T p : Nat} {g : Nat → Nat} (hg : ∀ i, i < p → g i ≤ 1) (hn : NoneB T (okP born stay w pc) g p) : DeadT T (okP born stay w pc) (2 * w + 2) p (kyN g (2 * w + 2) p (2 * w + 2)) := fun h hh e =>
  none_same (L := p - (2 * w + 2)) (okP_cell born stay w pc T p) (fun j j1 j2 => key_same hg hh e.symm j j1 j2) hn
theorem upd_bits {g : Nat → Nat} {N p c : Nat} (hg : ∀ i, i < N → g i ≤ 1) (c1 : c ≤ 1) : ∀ i, i < N → updB g p c i ≤ 1 := fun i hi => by
  unfold updB
  split
  · exact c1
  · exact hg i hi
/-- What does not hang on the cells from a place on. -/
theorem ext_from {T : Nat} {ok : (Nat → Nat) → Nat → Prop} {g h x : Nat → Nat} {p : Nat} (e : ∀ i, i < p → g i = h i) (H : ExtB T ok g p x) : ExtB T ok h p x := ⟨fun i hi => (H.1 i hi).trans (e i hi), H.2⟩
theorem none_from {T : Nat} {ok : (Nat → Nat) → Nat → Prop} {g h : Nat → Nat} {p : Nat} (e : ∀ i, i < p → g i = h i) (H : NoneB T ok g p) : NoneB T ok h p := fun x hx => H x (ext_from (fun i hi => (e i hi).symm) hx)
theorem best_from {T : Nat} {ok : (Nat → Nat) → Nat → Prop} {g h x : Nat → Nat} {p : Nat} (e : ∀ i, i < p → g i = h i) (H : BestB T ok g p x) : BestB T ok h p x := ⟨ext_from e H.1, fun y hy => H.2 y (ext_from (fun i hi => (e i hi).symm) hy)⟩
/-- A finder: what does not change while it looks. -/
structure FiC where
  (k st ra : Int) (born stay : Nat) (ta : Option Addr) (tn tc : Nat) (s : ByteArray)
  (W H W2 H2 : Nat) (pa : Option Addr) (pn pq : Nat) (xs : List Int)
  (fb qb bb N : Nat) (B : Nat) (w0 : World)
def FiC.vals (C : FiC) : Array Value := #[.int .i64 C.k, .int .i64 (C.born : Int), .int .i64 (C.stay : Int), .int .i64 C.st, .int .i64 C.ra, .slice C.ta C.tn C.tc, .string C.s, .int .i64 (C.W : Int), .int .i64 (C.H : Int), .slice C.pa C.pn C.pq, .int .i64 (C.W2 : Int), .int .i64 (C.H2 : Int), .slice (some ⟨C.qb, 0, none⟩) C.N C.N, .slice (some ⟨C.bb, 0, none⟩) C.N C.N, .int .i64 (C.W2 : Int)]
def FiC.ok (C : FiC) : (Nat → Nat) → Nat → Prop := okP C.born C.stay C.W2 (fun i => C.xs.getD i 0)
def FiC.m (C : FiC) : Nat := 2 * C.W2 + 2
structure FiOk (C : FiC) : Prop where
  w2 : C.W2 = C.W + 2
  h2 : C.H2 = C.H + 2
  w5 : C.W ≤ 5
  h5 : C.H ≤ 5
  n : C.N = C.W2 * C.H2
  b5 : C.born ≤ 511
  s5 : C.stay ≤ 511
  xl : C.xs.length = C.W * C.H
  arg : ArgP C.w0 C.xs C.pa C.pn C.pq
  bs : C.w0.heap.size ≤ C.B
/-- One table: none yet, or a block of its own whose true places are dead keys. -/
def RowT (C : FiC) (V : World) (p : Nat) (v : Value) (tb : Nat) : Prop :=
  v = .slice none 0 0 ∨ (v = .slice (some ⟨tb, 0, none⟩) (2 ^ C.m) (2 ^ C.m) ∧ C.bb < tb ∧ ∃ d : Nat → Bool, V.heap[tb]? = some (.cells (arrF (2 ^ C.m) fun i => .bool (d i)) 4 (0, 0)) ∧ ∀ i, i < 2 ^ C.m → d i = true → DeadT C.N C.ok C.m p i)
/-- A finder as it lies. -/
structure FiS (C : FiC) (V : World) (g : Nat → Nat) (bv : Nat → Value) (tb : Nat → Nat) : Prop where
  fin : V.heap[C.fb]? = some (.cells C.vals 42 (0, 0))
  cel : V.heap[C.qb]? = some (.cells (arrF C.N fun i => .int .i64 (g i : Int)) 3 (0, 0))
  row : V.heap[C.bb]? = some (.cells (arrF C.N bv) 54 (0, 0))
  bit : ∀ i, i < C.N → g i ≤ 1
  tab : ∀ p, p < C.N → RowT C V p (bv p) (tb p)
  own : ∀ p q, p < C.N → q < C.N → bv p ≠ .slice none 0 0 → bv q ≠ .slice none 0 0 → tb p = tb q → p = q
  bel : Below C.B C.w0 V
  ord : C.B ≤ C.fb ∧ C.fb < C.qb ∧ C.qb < C.bb
theorem RowT.keep {C : FiC} {V V' : World} {p : Nat} {v : Value} {tb : Nat} (h : RowT C V p v tb) (e : v ≠ .slice none 0 0 → V'.heap[tb]? = V.heap[tb]?) : RowT C V' p v tb := by
  rcases h with h | ⟨h1, h2, d, h3, h4⟩
  · exact Or.inl h
  · exact Or.inr ⟨h1, h2, d, (e (by rw [h1]; simp)).trans h3, h4⟩
theorem RowT.far {C : FiC} {V : World} {p : Nat} {v : Value} {tb : Nat} (h : RowT C V p v tb) (e : v ≠ .slice none 0 0) : C.bb < tb ∧ tb < V.heap.size := by
  rcases h with h | ⟨h1, h2, d, h3, h4⟩
  · exact absurd h e
  · exact ⟨h2, lt_of_block h3⟩
/-- A cell is set. -/
theorem FiS.put {C : FiC} {V : World} {g : Nat → Nat} {bv : Nat → Value} {tb : Nat → Nat} (h : FiS C V g bv tb) {p c : Nat} (hp : p < C.N) (c1 : c ≤ 1) : FiS C (V.setCell ⟨C.qb, p, none⟩ (.int .i64 (c : Int))) (updB g p c) bv tb := by
  obtain ⟨o1, o2, o3⟩ := h.ord
  have oth : ∀ j, j ≠ C.qb → (V.setCell ⟨C.qb, p, none⟩ (.int .i64 (c : Int))).heap[j]? = V.heap[j]? := fun j hj => Below.heap_setCell _ _ _ _ (by simpa using hj)
  refine ⟨(oth _ (by omega)).trans h.fin, ?_, (oth _ (by omega)).trans h.row, upd_bits h.bit c1, fun q hq => (h.tab q hq).keep (fun e => oth _ (by have := ((h.tab q hq).far e).1; omega)), h.own, h.bel.setCell (by show C.B ≤ C.qb; omega) _, h.ord⟩
  rw [heap_setCell_same _ _ _ _ _ _ h.cel]
  rw [arrF_set]
  congr 2
  refine arrF_ext fun i _ => ?_
  unfold updB
  split <;> rfl
/-- A table is made. -/
theorem FiS.make {C : FiC} {V : World} {g : Nat → Nat} {bv : Nat → Value} {tb : Nat → Nat} (h : FiS C V g bv tb) {p : Nat} (hp : p < C.N) :
    FiS C ((V.alloc (.cells (arrF (2 ^ C.m) fun _ => .bool false) 4)).setCell ⟨C.bb, p, none⟩ (.slice (some ⟨V.heap.size, 0, none⟩) (2 ^ C.m) (2 ^ C.m))) g (fun i => if i = p then .slice (some ⟨V.heap.size, 0, none⟩) (2 ^ C.m) (2 ^ C.m) else bv i) (fun i => if i = p then V.heap.size else tb i) := by
  obtain ⟨o1, o2, o3⟩ := h.ord
  have bl := lt_of_block h.row
  have old : ∀ j, j < V.heap.size → j ≠ C.bb → ((V.alloc (.cells (arrF (2 ^ C.m) fun _ => .bool false) 4)).setCell ⟨C.bb, p, none⟩ (.slice (some ⟨V.heap.size, 0, none⟩) (2 ^ C.m) (2 ^ C.m))).heap[j]? = V.heap[j]? := fun j hj hn => (Below.heap_setCell _ _ _ _ (by simpa using hn)).trans (heap_alloc_old V _ hj)
  have new : ((V.alloc (.cells (arrF (2 ^ C.m) fun _ => .bool false) 4)).setCell ⟨C.bb, p, none⟩ (.slice (some ⟨V.heap.size, 0, none⟩) (2 ^ C.m) (2 ^ C.m))).heap[V.heap.size]? = some (.cells (arrF (2 ^ C.m) fun _ => .bool false) 4 (0, 0)) := (Below.heap_setCell _ _ _ _ (by show V.heap.size ≠ C.bb; omega)).trans (heap_alloc_new V _)
  refine ⟨(old _ (lt_of_block h.fin) (by omega)).trans h.fin, (old _ (lt_of_block h.cel) (by omega)).trans h.cel, ?_, h.bit, fun q hq => ?_, fun q r hq hr eq er e => ?_, (h.bel.alloc (by omega) _).setCell (by show C.B ≤ C.bb; omega) _, h.ord⟩
  · rw [heap_setCell_same _ _ _ _ _ _ ((heap_alloc_old V _ bl).trans h.row), arrF_set]
  · by_cases c : q = p
    · subst c
      rw [if_pos rfl, if_pos rfl]
      exact Or.inr ⟨rfl, bl, fun _ => false, new, fun i _ e => by cases e⟩
    · rw [if_neg c, if_neg c]
      exact (h.tab q hq).keep (fun e => by
        have := (h.tab q hq).far e
        exact old _ this.2 (by omega))
  · by_cases c : q = p
    · by_cases d : r = p
      · rw [c, d]
      · rw [if_pos c, if_neg d] at e
        rw [if_neg d] at er
        have := (h.tab r hr).far er
        omega
    · by_cases d : r = p
      · rw [if_neg c, if_pos d] at e
        rw [if_neg c] at eq
        have := (h.tab q hq).far eq
        omega
      · rw [if_neg c, if_neg d] at e
        rw [if_neg c] at eq
        rw [if_neg d] at er
        exact h.own q r hq hr eq er e
/-- A key is told dead. -/
theorem FiS.mark {C : FiC} {V : World} {g : Nat → Nat} {bv : Nat → Value} {tb : Nat → Nat} (h : FiS C V g bv tb) {p k : Nat} (hp : p < C.N) (hk : k < 2 ^ C.m) (hv : bv p ≠ .slice none 0 0) (hd : DeadT C.N C.ok C.m p k) : FiS C (V.setCell ⟨tb p, k, none⟩ (.bool true)) g bv tb := by
  obtain ⟨o1, o2, o3⟩ := h.ord
  have f := (h.tab p hp).far hv
  have oth : ∀ j, j ≠ tb p → (V.setCell ⟨tb p, k, none⟩ (.bool true)).heap[j]? = V.heap[j]? := fun j hj => Below.heap_setCell _ _ _ _ (by simpa using hj)
  refine ⟨(oth _ (by omega)).trans h.fin, (oth _ (by omega)).trans h.cel, (oth _ (by omega)).trans h.row, h.bit, fun q hq => ?_, h.own, h.bel.setCell (by show C.B ≤ tb p; omega) _, h.ord⟩
  by_cases c : q = p
  · subst c
    rcases h.tab q hq with e | ⟨e1, e2, d, e3, e4⟩
    · exact absurd e hv
    · refine Or.inr ⟨e1, e2, fun i => if i = k then true else d i, ?_, fun i hi e => ?_⟩
      · rw [heap_setCell_same _ _ _ _ _ _ e3, arrF_set]
        congr 2
        refine arrF_ext fun i _ => ?_
        dsimp only
        split <;> rfl
      · dsimp only at e
        by_cases c2 : i = k
        · subst c2; exact hd
        · rw [if_neg c2] at e
          exact e4 i hi e
  · exact (h.tab q hq).keep (fun e => oth _ (fun e2 => c (h.own q p hq hp e hv e2)))
theorem FiS.heap {C : FiC} {V V' : World} {g : Nat → Nat} {bv : Nat → Value} {tb : Nat → Nat} (h : FiS C V g bv tb) (e : V'.heap = V.heap) (b : Below V.heap.size V V') : FiS C V' g bv tb :=
  ⟨by rw [e]; exact h.fin, by rw [e]; exact h.cel, by rw [e]; exact h.row, h.bit, fun p hp => (h.tab p hp).keep (fun _ => by rw [e]), h.own, h.bel.trans (b.mono (by have := h.ord; have := lt_of_block h.fin; omega)), h.ord⟩
theorem FiS.below {C : FiC} {V V' : World} {g : Nat → Nat} {bv : Nat → Value} {tb : Nat → Nat} (h : FiS C V g bv tb) (b : Below V.heap.size V V') : FiS C V' g bv tb :=
  ⟨(b.block _ (lt_of_block h.fin)).trans h.fin, (b.block _ (lt_of_block h.cel)).trans h.cel, (b.block _ (lt_of_block h.row)).trans h.row, h.bit, fun p hp => (h.tab p hp).keep (fun e => b.block _ ((h.tab p hp).far e).2), h.own, h.bel.trans (b.mono (by have := h.ord; have := lt_of_block h.fin; omega)), h.ord⟩
/-- How a place is set. -/
def SetOut (C : FiC) (p : Nat) (g : Nat → Nat) (bv : Nat → Value) (tb : Nat → Nat) (e : Ending) (w' : World) : Prop :=
  ∃ g' bv' tb', FiS C w' g' bv' tb' ∧ (∀ i, i < p → bv' i = bv i ∧ tb' i = tb i) ∧ ((e = .returned (.bool true) ∧ BestB C.N C.ok g p g') ∨ (e = .returned (.bool false) ∧ (∀ i, i < p → g' i = g i) ∧ NoneB C.N C.ok g p))
theorem FiS.fcell {C : FiC} {V : World} {g : Nat → Nat} {bv : Nat → Value} {tb : Nat → Nat} (h : FiS C V g bv tb) : V.cell? ⟨C.fb, 12, none⟩ = some (.slice (some ⟨C.qb, 0, none⟩) C.N C.N) ∧ V.cell? ⟨C.fb, 13, none⟩ = some (.slice (some ⟨C.bb, 0, none⟩) C.N C.N) ∧ V.cell? ⟨C.fb, 14, none⟩ = some (.int .i64 (C.W2 : Int)) :=
  ⟨cell_of_row V _ 12 _ _ _ h.fin, cell_of_row V _ 13 _ _ _ h.fin, cell_of_row V _ 14 _ _ _ h.fin⟩
theorem FiS.qcell {C : FiC} {V : World} {g : Nat → Nat} {bv : Nat → Value} {tb : Nat → Nat} (h : FiS C V g bv tb) {i : Nat} (hi : i < C.N) : V.cell? ⟨C.qb, i, none⟩ = some (.int .i64 (g i : Int)) := by rw [cell_of_row V _ i _ _ _ h.cel, arrF_get _ hi]
theorem FiS.bcell {C : FiC} {V : World} {g : Nat → Nat} {bv : Nat → Value} {tb : Nat → Nat} (h : FiS C V g bv tb) {i : Nat} (hi : i < C.N) : V.cell? ⟨C.bb, i, none⟩ = some (bv i) := by rw [cell_of_row V _ i _ _ _ h.row, arrF_get _ hi]
def clG (N : Nat) (g : Nat → Nat) : List Int := (List.range N).map fun i => (g i : Int)
theorem clG_len (N : Nat) (g : Nat → Nat) : (clG N g).length = N := by simp [clG]
theorem clG_at {N : Nat} {g : Nat → Nat} {i : Nat} (hi : i < N) : (clG N g).getD i 0 = (g i : Int) := by simp [clG, List.getD_eq_getElem?_getD, hi]
theorem clG_bits {N : Nat} {g : Nat → Nat} (hg : ∀ i, i < N → g i ≤ 1) (k : Nat) : 0 ≤ (clG N g).getD k 0 ∧ (clG N g).getD k 0 ≤ 1 := by
  by_cases h : k < N
  · rw [clG_at h]; have := hg k h; omega
  · rw [List.getD_eq_getElem?_getD, List.getElem?_eq_none (by rw [clG_len]; omega)]; simp
theorem FiS.argQ {C : FiC} {V : World} {g : Nat → Nat} {bv : Nat → Value} {tb : Nat → Nat} (h : FiS C V g bv tb) (hN : C.N ≤ 49) : ArgP V (clG C.N g) (some ⟨C.qb, 0, none⟩) C.N C.N :=
  ⟨(clG_len ..).symm, by unfold maxLen; omega, fun k hk => ⟨C.qb, 0, rfl, lt_of_block h.cel, by
    rw [clG_len] at hk
    rw [Nat.zero_add, h.qcell hk]
    simp [clG]⟩⟩
/-- The middle of what is set so far. -/
theorem mid_clG {born stay W2 N X2 Y2 : Nat} {g g' : Nat → Nat} (hN : (Y2 + 2) * W2 + (X2 + 2) < N) (e : ∀ i, i ≤ (Y2 + 2) * W2 + (X2 + 2) → g' i = g i) : midP born stay (gL (clG N g')) W2 X2 Y2 = midP born stay g W2 X2 Y2 := by
  refine mid_ext (fun j j1 j2 => ?_)
  have h2 : (Y2 + 2) * W2 = Y2 * W2 + 2 * W2 := Nat.add_mul _ _ _
  unfold gL
  rw [clG_at (by omega), e j (by omega)]
  simp
set_option maxRecDepth 100000 in
set_option maxHeartbeats 6400000 in
theorem set_end (C : FiC) (V : World) (g : Nat → Nat) (bv : Nat → Value) (tb : Nat → Nat) (h : FiS C V g bv tb) (hN : C.N ≤ 49) : Calls Tryd.prog 11 #[.pointer (some ⟨C.fb, 0, none⟩), .int .i64 (C.N : Int)] V (SetOut C C.N g bv tb) := by
  obtain ⟨f12, f13, f14⟩ := h.fcell
  have HS := hide' h
  clear h
  go_enter Tryd.func11, Tryd.ntmps11
  go_wp2
  go_ret
  exact ⟨g, bv, tb, HS.out, fun _ _ => ⟨rfl, rfl⟩, Or.inl ⟨rfl, best_end _ _ _⟩⟩
end Go.Proofs.YtfdbgkdbmlmigaaDoor

