/-
  What the last text of this claim leans on, part 14: Lk1, Lk2, Lk3, Lk4, LawN, Ob5, Od4, Oe1, Oe2, Oe3, Ll1, Ll2, Ll3, Ll4, Of1, Of2, Of3.
-/
import Derived.Test.YtjjdjdodhedihaaDoorJl3
import Derived.Test.YtjjdjdodhedihaaDoorJl10
import Derived.Test.YtjjdjdodhedihaaDoorJl13
import Derived.Test.YtjjdjdodhedihaaDoorJl9
import Derived.Test.YtjjdjdodhedihaaDoorJl2
import Derived.Maps.AppendAt
import Derived.OneCell
import Derived.Deep.RegionWith
namespace Go.Proofs.YtjjdjdodhedihaaDoor
open Go.RowKit
set_option linter.unusedVariables false

/-- What Step's function sees: its own place, the length, the word. -/
structure CloS (w : World) (pi pn pw : Nat) (i : Nat) (ws : List Int) (wa : Option Addr) (wc : Nat) : Prop where
  ci : w.cell? ⟨pi, 0, none⟩ = some (.int .i64 (i : Int))
  cn : w.cell? ⟨pn, 0, none⟩ = some (.int .i64 (ws.length : Int))
  cw : w.cell? ⟨pw, 0, none⟩ = some (.slice wa ws.length wc)
  arg : ArgP w ws wa ws.length wc
theorem cell_lt {w : World} {p o : Nat} {v : Value} (h : w.cell? ⟨p, o, none⟩ = some v) : p < w.heap.size := by
  rcases Nat.lt_or_ge p w.heap.size with k | k
  · exact k
  · simp [World.cell?, Array.getElem?_eq_none k] at h
theorem cell_next {w w' : World} {p o : Nat} {v : Value} (h : w.cell? ⟨p, o, none⟩ = some v) (hb : Below w.heap.size w w') : w'.cell? ⟨p, o, none⟩ = some v :=
  (World.cell?_of_block (w := w) (a := ⟨p, o, none⟩) (hb.block p (cell_lt h))).trans h
theorem CloS.below {w w' : World} {pi pn pw i : Nat} {ws : List Int} {wa : Option Addr} {wc : Nat} (h : CloS w pi pn pw i ws wa wc) (hb : Below w.heap.size w w') : CloS w' pi pn pw i ws wa wc :=
  ⟨cell_next h.ci hb, cell_next h.cn hb, cell_next h.cw hb, h.arg.below hb⟩

/-- What Apply's function sees. -/
structure CloA (w : World) (pw pi : Nat) (i : Nat) (ws : List Int) (wa : Option Addr) (wc : Nat) : Prop where
  cw : w.cell? ⟨pw, 0, none⟩ = some (.slice wa ws.length wc)
  ci : w.cell? ⟨pi, 0, none⟩ = some (.int .i64 (i : Int))
  arg : ArgP w ws wa ws.length wc
theorem CloA.below {w w' : World} {pw pi i : Nat} {ws : List Int} {wa : Option Addr} {wc : Nat} (h : CloA w pw pi i ws wa wc) (hb : Below w.heap.size w w') : CloA w' pw pi i ws wa wc :=
  ⟨cell_next h.cw hb, cell_next h.ci hb, h.arg.below hb⟩

end Go.Proofs.YtjjdjdodhedihaaDoor

namespace Go.Proofs.YtjjdjdodhedihaaDoor
open Go.RowKit
set_option linter.unusedVariables false

end Go.Proofs.YtjjdjdodhedihaaDoor

namespace Go.Proofs.YtjjdjdodhedihaaDoor
open Go.RowKit
set_option linter.unusedVariables false

theorem ownsRow_keepB {w w' : World} {base : Nat} {e : TypeId} {v : Value} {n : Nat} {xs : List Value} (h : w.ownsRow base e 1 v n xs) (hb : ∀ k, base ≤ k → k < w.heap.size → w'.heap[k]? = w.heap[k]?) : w'.ownsRow base e 1 v n xs := by
  refine ⟨h.1, ?_⟩
  rcases h.2 with h0 | ⟨g, cap, cur, hv, hg, hh, rest⟩
  · exact Or.inl h0
  · exact Or.inr ⟨g, cap, cur, hv, hg, (hb g hg (Array.getElem?_eq_some_iff.1 hh).1).trans hh, rest⟩
theorem ownsRow_lt {w : World} {base : Nat} {e : TypeId} {v : Value} {n : Nat} {xs : List Value} (h : w.ownsRow base e 1 v n xs) : ∀ k, v.ownBlock = some k → base ≤ k ∧ k < w.heap.size := by
  intro k hk
  rcases h.2 with ⟨h0, -⟩ | ⟨g, cap, cur, hv, hg, hh, -⟩
  · subst h0; cases hk
  · subst hv
    injection hk with e
    have e' : g = k := e
    subst e'
    exact ⟨hg, (Array.getElem?_eq_some_iff.1 hh).1⟩
/-- Between the rounds: the counter in its box, the list that grows; all else as it was. -/
structure LS (w0 wr : World) (p i : Nat) (v : Value) (xs : List Int) : Prop where
  below : Below w0.heap.size w0 wr
  ci : wr.cell? ⟨p, 0, none⟩ = some (.int .i64 (i : Int))
  fi : wr.frozen? ⟨p, 0, none⟩ = false
  pge : w0.heap.size ≤ p
  own : wr.ownsRow w0.heap.size 3 1 v xs.length (xs.map fun x => .int .i64 x)
  ne : v.ownBlock ≠ some p
theorem LS.start (w0 : World) (i : Nat) (t : TypeId) : LS w0 (w0.alloc (.cells #[.int .i64 (i : Int)] t)) w0.heap.size i (.slice none 0 0) [] :=
  ⟨(Below.refl _ _).alloc (Nat.le_refl _) _, by rw [World.cell?_alloc_at _ _ _ _ rfl]; rfl, by simp, Nat.le_refl _, ⟨by simp, Or.inl ⟨rfl, by simp⟩⟩, by intro h; cases h⟩
theorem LS.next {w0 wr w' : World} {p i : Nat} {v : Value} {xs : List Int} (h : LS w0 wr p i v xs) (hb : Below wr.heap.size wr w') : LS w0 w' p i v xs :=
  ⟨h.below.trans (hb.mono h.below.size), cell_next h.ci hb, (World.frozen?_of_block (w := wr) (a := ⟨p, 0, none⟩) (hb.block p (cell_lt h.ci))).trans h.fi, h.pge, ownsRow_keepB h.own fun k _ hk => hb.block k hk, h.ne⟩
theorem LS.grown {w0 wr w' : World} {p i : Nat} {v : Value} {xs : List Int} (h : LS w0 wr p i v xs) (x : Int) (hg : (wr.alloc (.cells #[.int .i64 x] 3)).grownBy w' v.ownBlock) : w'.cell? ⟨p, 0, none⟩ = some (.int .i64 (i : Int)) ∧ Below w0.heap.size w0 w' := by
  have hz := h.below.size
  have e : ∀ k, k < wr.heap.size → v.ownBlock ≠ some k → w'.heap[k]? = wr.heap[k]? := fun k hk hn => by
    rw [hg.block k (by rw [World.size_alloc]; omega) (fun q => hn q.symm)]
    exact Below.heap_alloc _ _ _ hk
  have hsz : wr.heap.size + 1 ≤ w'.heap.size := by have := hg.size; rw [World.size_alloc] at this; exact this
  refine ⟨(World.cell?_of_block (w := wr) (a := ⟨p, 0, none⟩) (e p (cell_lt h.ci) h.ne)).trans h.ci, h.below.trans ⟨hg.os, hg.tape, hg.output, by omega, fun k hk => e k (by omega) fun q => ?_⟩⟩
  have := (ownsRow_lt h.own k q).1
  omega
theorem LS.push {w0 wr w' : World} {p i : Nat} {v v' : Value} {xs : List Int} (h : LS w0 wr p i v xs) (x : Int) (t : TypeId) (k : Int) (hk : k = ((i + 1 : Nat) : Int)) (hg : (wr.alloc (.cells #[.int .i64 x] 3)).grownBy w' v.ownBlock) (ho : w'.ownsRow w0.heap.size 3 1 v' (xs.length + 1) ((xs.map fun x => .int .i64 x) ++ [.int .i64 x])) :
    LS w0 (w'.alloc (.cells #[.int .i64 k] t)) w'.heap.size (i + 1) v' (xs ++ [x]) := by
  have hb := (h.grown x hg).2
  have hz := hb.size
  have hl := ownsRow_lt ho
  have hne : v'.ownBlock ≠ some w'.heap.size := fun q => by have := (hl _ q).2; omega
  subst hk
  refine ⟨hb.alloc hz _, by rw [World.cell?_alloc_at _ _ _ _ rfl]; rfl, by simp, hz, ?_, hne⟩
  have h1 := ownsRow_keepB (w' := w'.alloc (.cells #[.int .i64 ((i + 1 : Nat) : Int)] t)) ho fun k _ hk => Below.heap_alloc _ _ _ hk
  simpa using h1
theorem ownsRow_len {w : World} {base : Nat} {e : TypeId} {v : Value} {n : Nat} {xs : List Value} (h : w.ownsRow base e 1 v n xs) : ∃ a c, v = .slice a n c := by
  rcases h.2 with ⟨h0, h1⟩ | ⟨g, cap, cur, hv, -⟩
  · subst h0 h1; exact ⟨none, 0, rfl⟩
  · exact ⟨_, cap, hv⟩
theorem take_next {xs : List Int} {i : Nat} (h : i < xs.length) {x : Int} (hx : xs.getD i 0 = x) : xs.take (i + 1) = xs.take i ++ [x] := by
  rw [List.take_succ_eq_append_getElem h, ← hx]
  simp [List.getD, h]
end Go.Proofs.YtjjdjdodhedihaaDoor

namespace Go.Proofs.YtjjdjdodhedihaaDoor
open Go.RowKit
set_option linter.unusedVariables false

theorem Tab.argL {w : World} {v : Value} {xs : List Int} (h : Tab w v xs) (hm : xs.length ≤ maxLen) : ∃ a c, v = .slice a xs.length c ∧ ArgP w xs a xs.length c := by
  rcases h with ⟨h1, h2⟩ | ⟨g, cap, h1, h2, h3⟩
  · subst h1
    exact ⟨none, 0, h2, rfl, hm, fun k hk => by simp at hk⟩
  · exact ⟨some ⟨g, 0, none⟩, cap, h1, rfl, hm, fun k hk => ⟨g, 0, rfl, h2, by rw [Nat.zero_add]; exact h3 k hk⟩⟩
end Go.Proofs.YtjjdjdodhedihaaDoor

namespace Go.Proofs.YtjjdjdodhedihaaDoor
open Go.RowKit
set_option linter.unusedVariables false

/-- Two lists that are the same. -/
theorem Ints_both (xs : List Int) (a b : Option Addr) (n c m d : Nat) (w : World) (hA : ArgP w xs a n c) (hB : ArgP w xs b m d) :
    Calls Tryd.prog 20 #[.slice a n c, .slice b m d] w fun e w' => e = .returned (.bool true) ∧ Below w.heap.size w w' :=
  (Ints_any xs xs a b n c m d w hA hB).mono fun e w' ⟨h1, q, h2⟩ => ⟨by rw [h1]; simp, by rw [h2]; exact below_drewN (Below.refl _ _) q⟩

end Go.Proofs.YtjjdjdodhedihaaDoor

namespace Go.Proofs.YtjjdjdodhedihaaDoor
open Go.RowKit
set_option linter.unusedVariables false

theorem LineOk.graph {S R tn n : Nat} {T : List Int} (hL : LineOk S R T) (ht : tn = T.length) (hn : S ^ (2 * R) = n) : tn / S = n ∧ tn = n * S ∧ 0 < n := by
  have s2 := hL.s2
  refine ⟨by rw [places_of hL ht, hn], by rw [ht, hL.len, Nat.pow_succ, hn], ?_⟩
  rw [← hn]
  exact Nat.pow_pos (by omega)

end Go.Proofs.YtjjdjdodhedihaaDoor

namespace Go.Proofs.YtjjdjdodhedihaaDoor
open Go.RowKit
set_option linter.unusedVariables false

theorem argP_nil (w : World) : ArgP w [] none 0 0 := ⟨rfl, by simp, fun k hk => by simp at hk⟩

end Go.Proofs.YtjjdjdodhedihaaDoor

namespace Go.Proofs.YtjjdjdodhedihaaDoor
open Go.RowKit
set_option linter.unusedVariables false

end Go.Proofs.YtjjdjdodhedihaaDoor

namespace Go.Proofs.YtjjdjdodhedihaaDoor
open Go.RowKit
set_option linter.unusedVariables false

end Go.Proofs.YtjjdjdodhedihaaDoor

namespace Go.Proofs.YtjjdjdodhedihaaDoor
open Go.RowKit
set_option linter.unusedVariables false

end Go.Proofs.YtjjdjdodhedihaaDoor

namespace Go.Proofs.YtjjdjdodhedihaaDoor
open Go.RowKit
set_option linter.unusedVariables false

end Go.Proofs.YtjjdjdodhedihaaDoor

namespace Go.Proofs.YtjjdjdodhedihaaDoor
open Go.RowKit
set_option linter.unusedVariables false

/-- The result's box, while nothing is stored there. -/
structure ZB (p : Nat) (w : World) : Prop where
  c0 : w.cell? ⟨p, 0, none⟩ = some (.int .i64 0)
  c1 : w.cell? ⟨p, 1, none⟩ = some (.int .i64 0)
  c2 : w.cell? ⟨p, 2, none⟩ = some (.int .i64 0)
  c3 : w.cell? ⟨p, 3, none⟩ = some (.int .i64 0)
  c4 : w.cell? ⟨p, 4, none⟩ = some (.int .i64 0)
  c5 : w.cell? ⟨p, 5, none⟩ = some (.slice none 0 0)
  c6 : w.cell? ⟨p, 6, none⟩ = some (.string ⟨#[]⟩)
  fz : ∀ k, w.frozen? ⟨p, k, none⟩ = false
theorem ZB.lt {p : Nat} {w : World} (h : ZB p w) : p < w.heap.size := by
  rcases Nat.lt_or_ge p w.heap.size with k | k
  · exact k
  · have := h.c0; simp [World.cell?, Array.getElem?_eq_none k] at this
theorem ZB.block {p : Nat} {w w' : World} (h : ZB p w) (e : w'.heap[p]? = w.heap[p]?) : ZB p w' :=
  ⟨(World.cell?_of_block (w := w) (a := ⟨p, 0, none⟩) e).trans h.c0, (World.cell?_of_block (w := w) (a := ⟨p, 1, none⟩) e).trans h.c1, (World.cell?_of_block (w := w) (a := ⟨p, 2, none⟩) e).trans h.c2, (World.cell?_of_block (w := w) (a := ⟨p, 3, none⟩) e).trans h.c3, (World.cell?_of_block (w := w) (a := ⟨p, 4, none⟩) e).trans h.c4, (World.cell?_of_block (w := w) (a := ⟨p, 5, none⟩) e).trans h.c5, (World.cell?_of_block (w := w) (a := ⟨p, 6, none⟩) e).trans h.c6, fun k => (World.frozen?_of_block (w := w) (a := ⟨p, k, none⟩) e).trans (h.fz k)⟩
theorem ZB.next {p : Nat} {w w' : World} (h : ZB p w) (hb : Below w.heap.size w w') : ZB p w' := h.block (hb.block p h.lt)
theorem ZB.new (w : World) (t : TypeId) : ZB w.heap.size (w.alloc (.cells #[.int .i64 0, .int .i64 0, .int .i64 0, .int .i64 0, .int .i64 0, .slice none 0 0, .string ⟨#[]⟩] t)) :=
  ⟨by rw [World.cell?_alloc_at _ _ _ _ rfl]; rfl, by rw [World.cell?_alloc_at _ _ _ _ rfl]; rfl, by rw [World.cell?_alloc_at _ _ _ _ rfl]; rfl, by rw [World.cell?_alloc_at _ _ _ _ rfl]; rfl, by rw [World.cell?_alloc_at _ _ _ _ rfl]; rfl, by rw [World.cell?_alloc_at _ _ _ _ rfl]; rfl, by rw [World.cell?_alloc_at _ _ _ _ rfl]; rfl, fun k => by simp⟩

end Go.Proofs.YtjjdjdodhedihaaDoor

namespace Go.Proofs.YtjjdjdodhedihaaDoor
open Go.RowKit
set_option linter.unusedVariables false

end Go.Proofs.YtjjdjdodhedihaaDoor

namespace Go.Proofs.YtjjdjdodhedihaaDoor
open Go.RowKit
set_option linter.unusedVariables false

end Go.Proofs.YtjjdjdodhedihaaDoor

namespace Go.Proofs.YtjjdjdodhedihaaDoor
open Go.RowKit
set_option linter.unusedVariables false

/-- What may turn: two blocks, rows of numbers; all below B0 lies as it lay. -/
structure RK (gs pt B0 : Nat) (W W' : World) : Prop where
  bl : Below B0 W W'
  same : ∀ k o, W.heap[k]? = some o → k ≠ gs → k ≠ pt → (∀ c f, o ≠ .cells c 3 f) → W'.heap[k]? = some o
theorem RK.refl (gs pt B0 : Nat) (W : World) : RK gs pt B0 W W := ⟨Below.refl _ _, fun _ _ h _ _ _ => h⟩
theorem RK.trans {gs pt B0 : Nat} {A B C : World} (h : RK gs pt B0 A B) (k : RK gs pt B0 B C) : RK gs pt B0 A C :=
  ⟨h.bl.trans k.bl, fun i o h0 h1 h2 h3 => k.same i o (h.same i o h0 h1 h2 h3) h1 h2 h3⟩
theorem RK.below {gs pt B0 : Nat} {A B : World} (h : Below A.heap.size A B) (hB : B0 ≤ A.heap.size) : RK gs pt B0 A B :=
  ⟨h.mono hB, fun k o h0 _ _ _ => (h.block k (Array.getElem?_eq_some_iff.1 h0).1).trans h0⟩
theorem RK.blk {gs pt B0 : Nat} {A B : World} (h : RK gs pt B0 A B) {p : Nat} {cs : Array Value} {t : TypeId} (hp : Blk A p cs t) (h1 : p ≠ gs) (h2 : p ≠ pt) (ht : t ≠ 3) : Blk B p cs t :=
  h.same p _ hp h1 h2 (fun c f e => by injection e with _ e _; exact ht e)
/-- The number of the pair to which a way leads. -/
def codeP (S n k : Nat) (c : Nat × Nat) : Nat := (stepP S n (k / n, k % n) c).1 * n + (stepP S n (k / n, k % n) c).2

end Go.Proofs.YtjjdjdodhedihaaDoor

namespace Go.Proofs.YtjjdjdodhedihaaDoor
open Go.RowKit
set_option linter.unusedVariables false

/-- What One notes of the ways on from pair k: to which pairs unlike cells lead. -/
structure FJ (W : World) (S n k : Nat) (T : List Int) (pf gf pa B0 j : Nat) (fl : List Bool) (an : Bool) : Prop where
  fb : Blk W pf #[.slice (some ⟨gf, 0, none⟩) (n * n) (n * n)] 90
  fc : Blk W gf (fl.map Value.bool).toArray 4
  ac : Blk W pa #[.bool an] 4
  ne : gf ≠ pa
  fl_ : fl.length = n * n
  sp : ∀ t, t < n * n → (fl.getD t false = true ↔ ∃ c : Nat × Nat, c.1 * S + c.2 < j ∧ OkWay S T (k / n, k % n) c ∧ c.1 ≠ c.2 ∧ codeP S n k c = t)
  sa : an = true ↔ ∃ c : Nat × Nat, c.1 * S + c.2 < j ∧ OkWay S T (k / n, k % n) c ∧ c.1 ≠ c.2
  b1 : B0 ≤ gf
  b2 : B0 ≤ pa
theorem FJ.next {W W' : World} {S n k : Nat} {T : List Int} {pf gf pa B0 j : Nat} {fl : List Bool} {an : Bool} (h : FJ W S n k T pf gf pa B0 j fl an) (b : Below W.heap.size W W') : FJ W' S n k T pf gf pa B0 j fl an :=
  ⟨h.fb.of (b.block _ h.fb.lt), h.fc.of (b.block _ h.fc.lt), h.ac.of (b.block _ h.ac.lt), h.ne, h.fl_, h.sp, h.sa, h.b1, h.b2⟩
theorem cell_code {S : Nat} {c d : Nat × Nat} (h1 : c.2 < S) (h2 : d.2 < S) (e : c.1 * S + c.2 = d.1 * S + d.2) : c = d := by
  obtain ⟨a, b⟩ := code_inj h1 h2 e
  exact Prod.ext a b
theorem FJ.skip {W : World} {S n k : Nat} {T : List Int} {pf gf pa B0 j : Nat} {fl : List Bool} {an : Bool} (h : FJ W S n k T pf gf pa B0 j fl an) (c : Nat × Nat) (hc : c.2 < S) (hj : j = c.1 * S + c.2) (hno : ¬ (OkWay S T (k / n, k % n) c ∧ c.1 ≠ c.2)) : FJ W S n k T pf gf pa B0 (j + 1) fl an := by
  refine ⟨h.fb, h.fc, h.ac, h.ne, h.fl_, fun t ht => (h.sp t ht).trans ⟨fun ⟨d, q1, q2, q3, q4⟩ => ⟨d, by omega, q2, q3, q4⟩, fun ⟨d, q1, q2, q3, q4⟩ => ⟨d, ?_, q2, q3, q4⟩⟩, h.sa.trans ⟨fun ⟨d, q1, q2, q3⟩ => ⟨d, by omega, q2, q3⟩, fun ⟨d, q1, q2, q3⟩ => ⟨d, ?_, q2, q3⟩⟩, h.b1, h.b2⟩
  · rcases Nat.lt_or_ge (d.1 * S + d.2) j with c' | c'
    · exact c'
    · exact absurd (show OkWay S T (k / n, k % n) c ∧ c.1 ≠ c.2 by rw [cell_code hc q2.2.1 (by omega : c.1 * S + c.2 = d.1 * S + d.2)]; exact ⟨q2, q3⟩) hno
  · rcases Nat.lt_or_ge (d.1 * S + d.2) j with c' | c'
    · exact c'
    · exact absurd (show OkWay S T (k / n, k % n) c ∧ c.1 ≠ c.2 by rw [cell_code hc q2.2.1 (by omega : c.1 * S + c.2 = d.1 * S + d.2)]; exact ⟨q2, q3⟩) hno
theorem codeP_lt {S n k : Nat} (hn : 0 < n) (c : Nat × Nat) : codeP S n k c < n * n := code_lt (stepP_lt hn _ c).1 (stepP_lt hn _ c).2
theorem getD_setB (l : List Bool) (i t : Nat) (h : i < l.length) : (l.set i true).getD t false = (decide (t = i) || l.getD t false) := by
  rw [List.getD_eq_getElem?_getD, List.getD_eq_getElem?_getD, List.getElem?_set]
  by_cases e : i = t
  · subst e; simp [h]
  · have e' : ¬ t = i := fun q => e q.symm
    simp [e, e']
end Go.Proofs.YtjjdjdodhedihaaDoor

namespace Go.Proofs.YtjjdjdodhedihaaDoor
open Go.RowKit
set_option linter.unusedVariables false

/-- What reach holds: what is in, what is to be done. -/
structure TJ (W : World) (n pi gi pt B0 : Nat) (il : List Bool) (tl : List Nat) : Prop where
  ib : Blk W pi #[.slice (some ⟨gi, 0, none⟩) (n * n) (n * n)] 90
  ic : Blk W gi (il.map Value.bool).toArray 4
  il_ : il.length = n * n
  tv : ∃ v, Blk W pt #[v] 22 ∧ W.ownsRow B0 3 1 v tl.length (tl.map fun (y : Nat) => Value.int .i64 (y : Int))
  b1 : B0 ≤ gi
  b2 : B0 ≤ pt
theorem TJ.next {W W' : World} {n pi gi pt B0 : Nat} {il : List Bool} {tl : List Nat} (h : TJ W n pi gi pt B0 il tl) (k : Below W.heap.size W W') : TJ W' n pi gi pt B0 il tl := by
  obtain ⟨v, tb, tr⟩ := h.tv
  exact ⟨h.ib.of (k.block _ h.ib.lt), h.ic.of (k.block _ h.ic.lt), h.il_, ⟨v, tb.of (k.block _ tb.lt), tr.kept (grown_of_below k) (Classical.em _)⟩, h.b1, h.b2⟩
def ilAfter (il : List Bool) (t : Nat) : List Bool := if il.getD t false then il else il.set t true
def tlAfter (il : List Bool) (tl : List Nat) (t : Nat) : List Nat := if il.getD t false then tl else tl ++ [t]

/-- A pair by its number. -/
def unP (n k : Nat) : Nat × Nat := (k / n, k % n)
def coP (n : Nat) (u : Nat × Nat) : Nat := u.1 * n + u.2
theorem un_co {n : Nat} {u : Nat × Nat} (h : u.2 < n) : unP n (coP n u) = u := by
  unfold unP coP
  rw [Nat.mul_comm, Nat.mul_add_div (by omega), Nat.div_eq_of_lt h, Nat.mul_add_mod, Nat.mod_eq_of_lt h]
  simp
theorem un_lt {n k : Nat} (hn : 0 < n) (h : k < n * n) : (unP n k).1 < n ∧ (unP n k).2 < n := ⟨Nat.div_lt_of_lt_mul h, Nat.mod_lt _ hn⟩
/-- What reach keeps. -/
structure PR (S n : Nat) (T : List Int) (fl il : List Bool) (tl : List Nat) : Prop where
  len : il.length = n * n
  cnt : tl.length = il.count true
  seen : ∀ t, t < n * n → (il.getD t false = true ↔ t ∈ tl)
  rng : ∀ t ∈ tl, t < n * n
  org : ∀ t ∈ tl, ∃ j cs, j < n * n ∧ fl.getD j false = true ∧ okP S n T (unP n j) cs ∧ coP n (endP S n (unP n j) cs) = t
theorem PR.bound {S n : Nat} {T : List Int} {fl il : List Bool} {tl : List Nat} (h : PR S n T fl il tl) : tl.length ≤ n * n := by rw [h.cnt, ← h.len]; exact List.count_le_length
theorem PR.add {S n : Nat} {T : List Int} {fl il : List Bool} {tl : List Nat} (h : PR S n T fl il tl) (t : Nat) (ht : t < n * n) (ho : ∃ j cs, j < n * n ∧ fl.getD j false = true ∧ okP S n T (unP n j) cs ∧ coP n (endP S n (unP n j) cs) = t) : PR S n T fl (ilAfter il t) (tlAfter il tl t) := by
  unfold ilAfter tlAfter
  cases hb : il.getD t false with
  | true => exact h
  | false =>
    simp only [Bool.false_eq_true, if_false]
    refine ⟨by simp [h.len], ?_, fun s hs => ?_, fun s hs => ?_, fun s hs => ?_⟩
    · rw [count_set_true _ _ (by rw [h.len]; exact ht) hb, List.length_append, h.cnt]; rfl
    · rw [getD_setB _ _ _ (by rw [h.len]; exact ht)]
      simp only [Bool.or_eq_true, decide_eq_true_eq, List.mem_append, List.mem_singleton]
      rw [h.seen s hs]
      exact Or.comm
    · rcases List.mem_append.1 hs with q | q
      · exact h.rng s q
      · rw [List.mem_singleton.1 q]; exact ht
    · rcases List.mem_append.1 hs with q | q
      · exact h.org s q
      · rw [List.mem_singleton.1 q]; exact ho
theorem il_mono {il : List Bool} {t s : Nat} (h : t < il.length) (hs : il.getD s false = true) : (ilAfter il t).getD s false = true := by
  unfold ilAfter
  split
  · exact hs
  · rw [getD_setB _ _ _ h, hs]; simp
theorem il_here {il : List Bool} {t : Nat} (h : t < il.length) : (ilAfter il t).getD t false = true := by
  unfold ilAfter
  split
  · assumption
  · rw [getD_setB _ _ _ h]; simp
theorem tl_left {il : List Bool} {tl : List Nat} {t i : Nat} (h : i < tl.length) : (tlAfter il tl t).getD i 0 = tl.getD i 0 ∧ i < (tlAfter il tl t).length := by
  unfold tlAfter
  split
  · exact ⟨rfl, h⟩
  · refine ⟨?_, by simp; omega⟩
    rw [List.getD_eq_getElem?_getD, List.getD_eq_getElem?_getD, List.getElem?_append_left h]
end Go.Proofs.YtjjdjdodhedihaaDoor

