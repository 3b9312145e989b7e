/-
  What the last text of this claim leans on, part 26: Oe1, Oe2, Oe3, Ll1, Ll2, Ll3, Ll4, Of1, Of2.
-/
import Derived.Test.YtdhbdkkchobinabJx25
import Derived.Test.YtdhbdkkchobinabJx12
import Derived.Test.YtdhbdkkchobinabJx3
import Derived.Deep.RegionWith
namespace Go.Proofs.Ytdhbdkkchobinab
open Go.RowKit
set_option linter.unusedVariables false

/-- What becomes of a word that is read as a number, digit by digit. -/
def shortN (S : Nat) (T : List Int) (x : Nat) : Nat → Nat
  | 0 => 0
  | k + 1 => shortN S T x k + (T.getD (x / S ^ k % T.length) 0).toNat * S ^ k
theorem shortN_lt {S : Nat} {T : List Int} (hS : 0 < S) (hok : cellsOk S T) (x : Nat) : ∀ k, shortN S T x k < S ^ k
  | 0 => by simp [shortN]
  | k + 1 => by
    have ih := shortN_lt hS hok x k
    have ht : (T.getD (x / S ^ k % T.length) 0).toNat + 1 ≤ S := by
      by_cases h : x / S ^ k % T.length < T.length
      · have := cellsOk_at hok h
        omega
      · rw [List.getD_eq_getElem?_getD, List.getElem?_eq_none (by omega)]
        exact hS
    have := Nat.mul_le_mul_right (S ^ k) ht
    rw [Nat.add_mul, Nat.one_mul] at this
    rw [shortN, Nat.pow_succ, Nat.mul_comm (S ^ k) S]
    omega

end Go.Proofs.Ytdhbdkkchobinab

namespace Go.Proofs.Ytdhbdkkchobinab
open Go.RowKit
set_option linter.unusedVariables false

/-- The table that undoes, behind x words; none where one does not know. -/
def undoL (S : Nat) (T : List Int) (m mid : Nat) : Nat → Option (List Int)
  | 0 => some (List.replicate (S ^ m) (-1))
  | x + 1 => match undoL S T m mid x with
    | none => none
    | some t => if t.getD (shortN S T x m) 0 ≠ -1 ∧ t.getD (shortN S T x m) 0 ≠ ((x / mid % S : Nat) : Int) then none else some (t.set (shortN S T x m) ((x / mid % S : Nat) : Int))
theorem undoL_none {S : Nat} {T : List Int} {m mid x : Nat} (h : undoL S T m mid x = none) : ∀ d, undoL S T m mid (x + d) = none
  | 0 => h
  | d + 1 => by rw [← Nat.add_assoc, undoL, undoL_none h d]
theorem undoL_length {S : Nat} {T : List Int} {m mid : Nat} : ∀ (x : Nat) (t : List Int), undoL S T m mid x = some t → t.length = S ^ m
  | 0, t, h => by rw [undoL] at h; injection h with h; rw [← h]; simp
  | x + 1, t, h => by
    rw [undoL] at h
    cases hu : undoL S T m mid x with
    | none => rw [hu] at h; cases h
    | some t' =>
      have ih := undoL_length x t' hu
      rw [hu] at h
      simp only at h
      split at h
      · cases h
      · injection h with h
        rw [← h, List.length_set]; exact ih
def UndoPost (u : Option (List Int)) (E : Nat) (w : World) (e : Ending) (w' : World) : Prop :=
  ((u = none ∧ e = .returned (.slice none 0 0)) ∨ ∃ t g, u = some t ∧ e = .returned (.slice (some ⟨g, 0, none⟩) E E) ∧ Cel w' g t ∧ w.heap.size ≤ g) ∧ Below w.heap.size w w'

end Go.Proofs.Ytdhbdkkchobinab

namespace Go.Proofs.Ytdhbdkkchobinab
open Go.RowKit
set_option linter.unusedVariables false

theorem stored7 {W : World} {t : TypeId} {p : Nat} (h : Blk W p #[.int .i64 0, .int .i64 0, .int .i64 0, .int .i64 0, .int .i64 0, .slice none 0 0, .string ⟨#[]⟩] t) (v0 v1 v2 v3 v4 v5 v6 : Value) {W9 : World}
    (e : W9 = (((((((W.setCell ⟨p, 0, none⟩ v0).setCell ⟨p, 1, none⟩ v1).setCell ⟨p, 2, none⟩ v2).setCell ⟨p, 3, none⟩ v3).setCell ⟨p, 4, none⟩ v4).setCell ⟨p, 5, none⟩ v5).setCell ⟨p, 6, none⟩ v6)) :
    Blk W9 p #[v0, v1, v2, v3, v4, v5, v6] t ∧ (∀ B (u : World), B ≤ p → Below B u W → Below B u W9) ∧ (∀ k, k ≠ p → W9.heap[k]? = W.heap[k]?) ∧ W9.heap.size = W.heap.size := by
  subst e
  refine ⟨((((((h.set 0 v0).set 1 v1).set 2 v2).set 3 v3).set 4 v4).set 5 v5).set 6 v6, fun B u hB hb => ?_, fun k hk => ?_, by simp⟩
  · exact ((((((hb.setCell (p := ⟨p, 0, none⟩) hB _).setCell (p := ⟨p, 1, none⟩) hB _).setCell (p := ⟨p, 2, none⟩) hB _).setCell (p := ⟨p, 3, none⟩) hB _).setCell (p := ⟨p, 4, none⟩) hB _).setCell (p := ⟨p, 5, none⟩) hB _).setCell (p := ⟨p, 6, none⟩) hB _
  · rw [heap_setCell_other _ _ _ _ _ hk, heap_setCell_other _ _ _ _ _ hk, heap_setCell_other _ _ _ _ _ hk, heap_setCell_other _ _ _ _ _ hk, heap_setCell_other _ _ _ _ _ hk, heap_setCell_other _ _ _ _ _ hk, heap_setCell_other _ _ _ _ _ hk]

/-- The table that undoes, at a radius. -/
def undoAt (S R n : Nat) (T : List Int) (q : Nat) : Option (List Int) := undoL S T (2 * q + 1) (S ^ (q + R)) (S ^ (2 * q + 1) * n)
def InvErr (f : Nat) (w : World) (e : Ending) (w' : World) : Prop := e = .returned (.tuple #[.agg #[.int .i64 0, .int .i64 0, .int .i64 0, .int .i64 0, .int .i64 0, .slice none 0 0, .string ⟨#[]⟩], .iface 43 (.int .i64 (f : Int))]) ∧ Below w.heap.size w w'
def InvPost (S R n : Nat) (T : List Int) (w : World) (e : Ending) (w' : World) : Prop :=
  ((∃ q t g, S ^ (2 * q + 1) ≤ 4096 ∧ undoAt S R n T q = some t ∧ (∀ p, p < q → undoAt S R n T p = none) ∧ e = .returned (.tuple #[.agg #[.int .i64 2, .int .i64 0, .int .i64 0, .int .i64 (S : Int), .int .i64 (q : Int), .slice (some ⟨g, 0, none⟩) (S ^ (2 * q + 1)) (S ^ (2 * q + 1)), .string ⟨#[]⟩], .nilIface]) ∧ Cel w' g t ∧ w.heap.size ≤ g) ∨
   ((∀ q, S ^ (2 * q + 1) ≤ 4096 → undoAt S R n T q = none) ∧ e = .returned (.tuple #[.agg #[.int .i64 0, .int .i64 0, .int .i64 0, .int .i64 0, .int .i64 0, .slice none 0 0, .string ⟨#[]⟩], .iface 43 (.int .i64 4)]))) ∧ Below w.heap.size w w'

def InvAll (S R n : Nat) (T : List Int) (w : World) (e : Ending) (w' : World) : Prop := ((∃ u full, IsRing S n T u full) ∧ InvErr 5 w e w') ∨ ((∀ u : Nat × Nat, u.1 ≤ u.2 → u.2 < n → NoRing S n T u) ∧ InvPost S R n T w e w')

end Go.Proofs.Ytdhbdkkchobinab

namespace Go.Proofs.Ytdhbdkkchobinab
open Go.RowKit
set_option linter.unusedVariables false

/-- The digits of m, L of them, the highest first. -/
def spellL (S L m : Nat) : List Int := (List.range L).map fun j => ((m / S ^ (L - 1 - j) % S : Nat) : Int)
theorem spellL_length (S L m : Nat) : (spellL S L m).length = L := by simp [spellL]
theorem spellL_at (S L m : Nat) {j : Nat} (h : j < L) : (spellL S L m).getD j 0 = ((m / S ^ (L - 1 - j) % S : Nat) : Int) := by
  simp [spellL, List.getD, h]
theorem spellL_ok (S L m : Nat) (h : 2 ≤ S) : cellsOk S (spellL S L m) := by
  intro x hx
  simp only [spellL, List.mem_map] at hx
  obtain ⟨j, -, rfl⟩ := hx
  have := Nat.mod_lt (m / S ^ (L - 1 - j)) (show 0 < S by omega)
  omega
/-- The last t cells are A's, the rest as they were. -/
def mixR (A ts : List Int) (t : Nat) : List Int := (List.range ts.length).map fun j => if ts.length ≤ j + t then A.getD j 0 else ts.getD j 0
theorem mixR_length (A ts : List Int) (t : Nat) : (mixR A ts t).length = ts.length := by simp [mixR]
theorem mixR_zero (A ts : List Int) : mixR A ts 0 = ts := by
  apply List.ext_getElem (by simp [mixR])
  intro k h1 h2
  simp [mixR, h2]
  intro h; omega
theorem mixR_full (A ts : List Int) (h : A.length = ts.length) : mixR A ts ts.length = A := by
  apply List.ext_getElem (by simp [mixR, h])
  intro k h1 h2
  simp [mixR, h2]
theorem mixR_set (A ts : List Int) (t e : Nat) (he : e + t + 1 = ts.length) {x : Int} (hx : A.getD e 0 = x) : (mixR A ts t).set e x = mixR A ts (t + 1) := by
  apply List.ext_getElem (by simp [mixR])
  intro k h1 h2
  have hk : k < ts.length := by simpa [mixR] using h2
  rw [List.getElem_set]
  by_cases q : e = k
  · subst q
    rw [if_pos rfl]
    simp only [mixR, List.getElem_map, List.getElem_range]
    rw [if_pos (by omega), hx]
  · rw [if_neg q]
    simp only [mixR, List.getElem_map, List.getElem_range]
    by_cases d : ts.length ≤ k + t
    · rw [if_pos d, if_pos (by omega)]
    · rw [if_neg d, if_neg (by omega)]

end Go.Proofs.Ytdhbdkkchobinab

namespace Go.Proofs.Ytdhbdkkchobinab
open Go.RowKit
set_option linter.unusedVariables false

/-- A function that tells what becomes of a window: it may make memory. -/
def Becomes (w0 : World) (fn p1 p2 S L : Nat) (F : List Int → Int) : Prop :=
  ∀ (ds : List Int) (wr : World) (g : Nat), Below w0.heap.size w0 wr → Cel wr g ds → ds.length = L → cellsOk S ds → w0.heap.size ≤ g →
    Calls Try.prog fn #[.slice (some ⟨g, 0, none⟩) L L, .pointer (some ⟨p1, 0, none⟩), .pointer (some ⟨p2, 0, none⟩)] wr fun e w' => e = .returned (.int .i64 (F ds)) ∧ Below wr.heap.size wr w'

/-- The result's box, while nothing is stored there. -/
structure ZB (p : Nat) (w : World) : Prop where
  c0 : w.cell? ⟨p, 0, none⟩ = some (.int .i64 0)
  c1 : w.cell? ⟨p, 1, none⟩ = some (.int .i64 0)
  c2 : w.cell? ⟨p, 2, none⟩ = some (.int .i64 0)
  c3 : w.cell? ⟨p, 3, none⟩ = some (.int .i64 0)
  c4 : w.cell? ⟨p, 4, none⟩ = some (.int .i64 0)
  c5 : w.cell? ⟨p, 5, none⟩ = some (.slice none 0 0)
  c6 : w.cell? ⟨p, 6, none⟩ = some (.string ⟨#[]⟩)
  fz : ∀ k, w.frozen? ⟨p, k, none⟩ = false
theorem ZB.lt {p : Nat} {w : World} (h : ZB p w) : p < w.heap.size := by
  rcases Nat.lt_or_ge p w.heap.size with k | k
  · exact k
  · have := h.c0; simp [World.cell?, Array.getElem?_eq_none k] at this
theorem ZB.block {p : Nat} {w w' : World} (h : ZB p w) (e : w'.heap[p]? = w.heap[p]?) : ZB p w' :=
  ⟨(World.cell?_of_block (w := w) (a := ⟨p, 0, none⟩) e).trans h.c0, (World.cell?_of_block (w := w) (a := ⟨p, 1, none⟩) e).trans h.c1, (World.cell?_of_block (w := w) (a := ⟨p, 2, none⟩) e).trans h.c2, (World.cell?_of_block (w := w) (a := ⟨p, 3, none⟩) e).trans h.c3, (World.cell?_of_block (w := w) (a := ⟨p, 4, none⟩) e).trans h.c4, (World.cell?_of_block (w := w) (a := ⟨p, 5, none⟩) e).trans h.c5, (World.cell?_of_block (w := w) (a := ⟨p, 6, none⟩) e).trans h.c6, fun k => (World.frozen?_of_block (w := w) (a := ⟨p, k, none⟩) e).trans (h.fz k)⟩
theorem ZB.next {p : Nat} {w w' : World} (h : ZB p w) (hb : Below w.heap.size w w') : ZB p w' := h.block (hb.block p h.lt)
theorem ZB.new (w : World) (t : TypeId) : ZB w.heap.size (w.alloc (.cells #[.int .i64 0, .int .i64 0, .int .i64 0, .int .i64 0, .int .i64 0, .slice none 0 0, .string ⟨#[]⟩] t)) :=
  ⟨by rw [World.cell?_alloc_at _ _ _ _ rfl]; rfl, by rw [World.cell?_alloc_at _ _ _ _ rfl]; rfl, by rw [World.cell?_alloc_at _ _ _ _ rfl]; rfl, by rw [World.cell?_alloc_at _ _ _ _ rfl]; rfl, by rw [World.cell?_alloc_at _ _ _ _ rfl]; rfl, by rw [World.cell?_alloc_at _ _ _ _ rfl]; rfl, by rw [World.cell?_alloc_at _ _ _ _ rfl]; rfl, fun k => by simp⟩

def madeL (S R : Nat) (F : List Int → Int) : List Int := (List.range (S ^ (2 * R + 1))).map fun i => F (spellL S (2 * R + 1) i)
theorem madeL_length (S R : Nat) (F : List Int → Int) : (madeL S R F).length = S ^ (2 * R + 1) := by simp [madeL]
theorem madeL_at (S R : Nat) (F : List Int → Int) {i : Nat} (h : i < S ^ (2 * R + 1)) : (madeL S R F).getD i 0 = F (spellL S (2 * R + 1) i) := by simp [madeL, List.getD, h]

/-- Between the rounds of made. -/
structure MD (w wr : World) (gt gw N L : Nat) (ts ds : List Int) : Prop where
  zb : ZB w.heap.size wr
  ct : Cel wr gt ts
  cw : Cel wr gw ds
  lt : ts.length = N
  lw : ds.length = L
  below : Below w.heap.size w wr

end Go.Proofs.Ytdhbdkkchobinab

namespace Go.Proofs.Ytdhbdkkchobinab
open Go.RowKit
set_option linter.unusedVariables false

end Go.Proofs.Ytdhbdkkchobinab

namespace Go.Proofs.Ytdhbdkkchobinab
open Go.RowKit
set_option linter.unusedVariables false

theorem Cel.mid {w : World} {g M n c : Nat} {ds : List Int} (h : Cel w g ds) (hl : M + n ≤ ds.length) (hm : n ≤ maxLen) : ArgP w ((ds.drop M).take n) (some ⟨g, M, none⟩) n c := by
  refine ⟨by simp; omega, hm, fun k hk => ⟨g, M, rfl, h.lt, ?_⟩⟩
  have hk' : k < n := by simp at hk; omega
  rw [h.cells (M + k) (by omega)]
  simp [List.getD, show M + k < ds.length by omega]
theorem mid_ok {S : Int} {ds : List Int} (h : cellsOk S ds) (M n : Nat) : cellsOk S ((ds.drop M).take n) := fun x hx => h x (List.mem_of_mem_drop (List.mem_of_mem_take hx))

theorem wrap_natL (n : Nat) (h : n ≤ 1000000) : IntKind.i64.wrap (n : Int) = (n : Int) := by simp [IntKind.wrap, IntKind.bits, IntKind.signed]; omega

end Go.Proofs.Ytdhbdkkchobinab

namespace Go.Proofs.Ytdhbdkkchobinab
open Go.RowKit
set_option linter.unusedVariables false

/-- What may turn: two blocks, rows of numbers; all below B0 lies as it lay. -/
structure RK (gs pt B0 : Nat) (W W' : World) : Prop where
  bl : Below B0 W W'
  same : ∀ k o, W.heap[k]? = some o → k ≠ gs → k ≠ pt → (∀ c f, o ≠ .cells c 3 f) → W'.heap[k]? = some o
theorem RK.refl (gs pt B0 : Nat) (W : World) : RK gs pt B0 W W := ⟨Below.refl _ _, fun _ _ h _ _ _ => h⟩
theorem RK.trans {gs pt B0 : Nat} {A B C : World} (h : RK gs pt B0 A B) (k : RK gs pt B0 B C) : RK gs pt B0 A C :=
  ⟨h.bl.trans k.bl, fun i o h0 h1 h2 h3 => k.same i o (h.same i o h0 h1 h2 h3) h1 h2 h3⟩
theorem RK.below {gs pt B0 : Nat} {A B : World} (h : Below A.heap.size A B) (hB : B0 ≤ A.heap.size) : RK gs pt B0 A B :=
  ⟨h.mono hB, fun k o h0 _ _ _ => (h.block k (Array.getElem?_eq_some_iff.1 h0).1).trans h0⟩
theorem RK.blk {gs pt B0 : Nat} {A B : World} (h : RK gs pt B0 A B) {p : Nat} {cs : Array Value} {t : TypeId} (hp : Blk A p cs t) (h1 : p ≠ gs) (h2 : p ≠ pt) (ht : t ≠ 3) : Blk B p cs t :=
  h.same p _ hp h1 h2 (fun c f e => by injection e with _ e _; exact ht e)
theorem RK.drew2 {gs pt B0 : Nat} {A B : World} (h : RK gs pt B0 A.drew.drew B) : RK gs pt B0 A B := ⟨⟨h.bl.os, h.bl.tape, h.bl.output, h.bl.size, h.bl.block⟩, h.same⟩
theorem ArgP.below' {w w' : World} {xs : List Int} {a : Option Addr} {n c B0 : Nat} (h : ArgP w xs a n c) (hb : Below B0 w w') (hg : ∀ g off, a = some ⟨g, off, none⟩ → g < B0) : ArgP w' xs a n c :=
  ⟨h.len, h.max, fun k hk => by
    obtain ⟨g, off, e, hlt, hc⟩ := h.cells k hk
    exact ⟨g, off, e, Nat.lt_of_lt_of_le hlt hb.size, (World.cell?_of_block (w := w) (a := ⟨g, off + k, none⟩) (hb.block g (hg g off e))).trans hc⟩⟩
/-- The number of the pair to which a way leads. -/
def codeP (S n k : Nat) (c : Nat × Nat) : Nat := (stepP S n (k / n, k % n) c).1 * n + (stepP S n (k / n, k % n) c).2

end Go.Proofs.Ytdhbdkkchobinab

namespace Go.Proofs.Ytdhbdkkchobinab
open Go.RowKit
set_option linter.unusedVariables false

/-- What One notes of the ways on from pair k: to which pairs unlike cells lead. -/
structure FJ (W : World) (S n k : Nat) (T : List Int) (pf gf pa B0 j : Nat) (fl : List Bool) (an : Bool) : Prop where
  fb : Blk W pf #[.slice (some ⟨gf, 0, none⟩) (n * n) (n * n)] 63
  fc : Blk W gf (fl.map Value.bool).toArray 4
  ac : Blk W pa #[.bool an] 4
  ne : gf ≠ pa
  fl_ : fl.length = n * n
  sp : ∀ t, t < n * n → (fl.getD t false = true ↔ ∃ c : Nat × Nat, c.1 * S + c.2 < j ∧ OkWay S T (k / n, k % n) c ∧ c.1 ≠ c.2 ∧ codeP S n k c = t)
  sa : an = true ↔ ∃ c : Nat × Nat, c.1 * S + c.2 < j ∧ OkWay S T (k / n, k % n) c ∧ c.1 ≠ c.2
  b1 : B0 ≤ gf
  b2 : B0 ≤ pa
theorem FJ.next {W W' : World} {S n k : Nat} {T : List Int} {pf gf pa B0 j : Nat} {fl : List Bool} {an : Bool} (h : FJ W S n k T pf gf pa B0 j fl an) (b : Below W.heap.size W W') : FJ W' S n k T pf gf pa B0 j fl an :=
  ⟨h.fb.of (b.block _ h.fb.lt), h.fc.of (b.block _ h.fc.lt), h.ac.of (b.block _ h.ac.lt), h.ne, h.fl_, h.sp, h.sa, h.b1, h.b2⟩
theorem cell_code {S : Nat} {c d : Nat × Nat} (h1 : c.2 < S) (h2 : d.2 < S) (e : c.1 * S + c.2 = d.1 * S + d.2) : c = d := by
  obtain ⟨a, b⟩ := code_inj h1 h2 e
  exact Prod.ext a b
theorem FJ.skip {W : World} {S n k : Nat} {T : List Int} {pf gf pa B0 j : Nat} {fl : List Bool} {an : Bool} (h : FJ W S n k T pf gf pa B0 j fl an) (c : Nat × Nat) (hc : c.2 < S) (hj : j = c.1 * S + c.2) (hno : ¬ (OkWay S T (k / n, k % n) c ∧ c.1 ≠ c.2)) : FJ W S n k T pf gf pa B0 (j + 1) fl an := by
  refine ⟨h.fb, h.fc, h.ac, h.ne, h.fl_, fun t ht => (h.sp t ht).trans ⟨fun ⟨d, q1, q2, q3, q4⟩ => ⟨d, by omega, q2, q3, q4⟩, fun ⟨d, q1, q2, q3, q4⟩ => ⟨d, ?_, q2, q3, q4⟩⟩, h.sa.trans ⟨fun ⟨d, q1, q2, q3⟩ => ⟨d, by omega, q2, q3⟩, fun ⟨d, q1, q2, q3⟩ => ⟨d, ?_, q2, q3⟩⟩, h.b1, h.b2⟩
  · rcases Nat.lt_or_ge (d.1 * S + d.2) j with c' | c'
    · exact c'
    · exact absurd (show OkWay S T (k / n, k % n) c ∧ c.1 ≠ c.2 by rw [cell_code hc q2.2.1 (by omega : c.1 * S + c.2 = d.1 * S + d.2)]; exact ⟨q2, q3⟩) hno
  · rcases Nat.lt_or_ge (d.1 * S + d.2) j with c' | c'
    · exact c'
    · exact absurd (show OkWay S T (k / n, k % n) c ∧ c.1 ≠ c.2 by rw [cell_code hc q2.2.1 (by omega : c.1 * S + c.2 = d.1 * S + d.2)]; exact ⟨q2, q3⟩) hno
theorem codeP_lt {S n k : Nat} (hn : 0 < n) (c : Nat × Nat) : codeP S n k c < n * n := code_lt (stepP_lt hn _ c).1 (stepP_lt hn _ c).2
theorem getD_setB (l : List Bool) (i t : Nat) (h : i < l.length) : (l.set i true).getD t false = (decide (t = i) || l.getD t false) := by
  rw [List.getD_eq_getElem?_getD, List.getD_eq_getElem?_getD, List.getElem?_set]
  by_cases e : i = t
  · subst e; simp [h]
  · have e' : ¬ t = i := fun q => e q.symm
    simp [e, e']
theorem FJ.note {W W' : World} {S n k : Nat} {T : List Int} {pf gf pa B0 j : Nat} {fl : List Bool} {an : Bool} (h : FJ W S n k T pf gf pa B0 j fl an) (hn : 0 < n) (c : Nat × Nat) (hc : c.2 < S) (hj : j = c.1 * S + c.2) (hok : OkWay S T (k / n, k % n) c) (hne : c.1 ≠ c.2)
    (e : W' = (W.setCell ⟨gf, codeP S n k c, none⟩ (.bool true)).setCell ⟨pa, 0, none⟩ (.bool true)) : FJ W' S n k T pf gf pa B0 (j + 1) (fl.set (codeP S n k c) true) true ∧ RK gf pa B0 W W' := by
  subst e
  have tl := codeP_lt (S := S) (k := k) hn c
  have n1 : pf ≠ gf := by intro q; have h1 := h.fc; rw [← q] at h1; have := (show W.heap[pf]? = _ from h.fb).symm.trans h1; injection this with this; injection this with _ this _; revert this; decide
  have n2 : pf ≠ pa := by intro q; have h1 := h.ac; rw [← q] at h1; have := (show W.heap[pf]? = _ from h.fb).symm.trans h1; injection this with this; injection this with _ this _; revert this; decide
  refine ⟨⟨(h.fb.setOther n1 _).setOther n2 _, ?_, (h.ac.setOther (Ne.symm h.ne) _).set 0 _, h.ne, by rw [List.length_set]; exact h.fl_, fun t ht => ?_, ?_, h.b1, h.b2⟩, ⟨((Below.refl B0 W).setCell (p := ⟨gf, codeP S n k c, none⟩) h.b1 _).setCell (p := ⟨pa, 0, none⟩) h.b2 _, fun i o h0 h1 h2 _ => by rw [heap_setCell_other _ _ _ _ _ h2, heap_setCell_other _ _ _ _ _ h1]; exact h0⟩⟩
  · have := (h.fc.set (codeP S n k c) (.bool true)).setOther (i := 0) h.ne (.bool true)
    rw [show (fl.map Value.bool).toArray.setIfInBounds (codeP S n k c) (.bool true) = ((fl.set (codeP S n k c) true).map Value.bool).toArray by simp [List.map_set]] at this
    exact this
  · rw [getD_setB _ _ _ (by rw [h.fl_]; exact tl)]
    simp only [Bool.or_eq_true, decide_eq_true_eq]
    constructor
    · rintro (rfl | q)
      · exact ⟨c, by omega, hok, hne, rfl⟩
      · obtain ⟨d, q1, q2, q3, q4⟩ := (h.sp t ht).1 q
        exact ⟨d, by omega, q2, q3, q4⟩
    · rintro ⟨d, q1, q2, q3, q4⟩
      rcases Nat.lt_or_ge (d.1 * S + d.2) j with c' | c'
      · exact Or.inr ((h.sp t ht).2 ⟨d, c', q2, q3, q4⟩)
      · left; rw [← q4, cell_code hc q2.2.1 (by omega : c.1 * S + c.2 = d.1 * S + d.2)]
  · exact ⟨fun _ => ⟨c, by omega, hok, hne⟩, fun _ => rfl⟩

end Go.Proofs.Ytdhbdkkchobinab

