/-
  What the last text of this claim leans on, part 27: Gd2, Gd3, Oj5, Oj6, Oj9, Ry2, Ry3, Ry5, Ry6, Oh1, Gd4.
-/
import Derived.Test.YtjjdjdodhedihaaDoorJl26
import Derived.Test.YtjjdjdodhedihaaDoorJl21
import Derived.Test.YtjjdjdodhedihaaDoorJl15
import Derived.Test.YtjjdjdodhedihaaDoorJl14
import Derived.Test.YtjjdjdodhedihaaDoorJl8
import Derived.Test.YtjjdjdodhedihaaDoorJl3
import Derived.Test.YtjjdjdodhedihaaDoorJl10
import Derived.Test.YtjjdjdodhedihaaDoorJl24
import Derived.Maps.OwnSet
import Derived.Laws.AppendOwnNone
namespace Go.Proofs.YtjjdjdodhedihaaDoor
set_option linter.unusedVariables false

theorem stp_ge {S n : Nat} {T : List Int} {a : Int} {v : Nat → Nat} {q j : Nat} (hj : j < n * S) (h1 : T.getD j 0 = a) (h2 : j % n = q) : v (j / S) ≤ stp S n T a v q := by
  have := sumN_term (f := fun j => if T.getD j 0 = a ∧ j % n = q then v (j / S) else 0) (n * S) j hj
  simp only [if_pos (And.intro h1 h2)] at this
  exact this
theorem stp_ge2 {S n : Nat} {T : List Int} {a : Int} {v : Nat → Nat} {q i j : Nat} (hij : i ≠ j) (hi : i < n * S) (hj : j < n * S) (h1 : T.getD i 0 = a) (h2 : i % n = q) (h3 : T.getD j 0 = a) (h4 : j % n = q) : v (i / S) + v (j / S) ≤ stp S n T a v q := by
  rcases Nat.lt_or_gt_of_ne hij with c | c
  · have := sumN_two (f := fun j => if T.getD j 0 = a ∧ j % n = q then v (j / S) else 0) (n * S) i j c hj
    simp only [if_pos (And.intro h1 h2), if_pos (And.intro h3 h4)] at this
    exact this
  · have := sumN_two (f := fun j => if T.getD j 0 = a ∧ j % n = q then v (j / S) else 0) (n * S) j i c hi
    simp only [if_pos (And.intro h1 h2), if_pos (And.intro h3 h4)] at this
    unfold stp
    omega
/-- What two ways bring together. -/
def Two (v : Nat → Nat) (u : Nat × Nat) (x : Nat) : Prop := (u.1 = u.2 → 2 * x ≤ v u.1) ∧ (u.1 ≠ u.2 → x ≤ v u.1 ∧ x ≤ v u.2)
theorem edge_lt {S n p c : Nat} (hp : p < n) (hc : c < S) : p * S + c < n * S := by
  have : (p + 1) * S ≤ n * S := Nat.mul_le_mul_right _ hp
  rw [Nat.add_mul] at this
  omega
theorem edge_div {S p c : Nat} (hc : c < S) : (p * S + c) / S = p := by
  rw [Nat.mul_comm, Nat.mul_add_div (by omega), Nat.div_eq_of_lt hc, Nat.add_zero]
theorem Two.step {S n : Nat} {T : List Int} {v : Nat → Nat} {u c : Nat × Nat} {x : Nat} (h1 : u.1 < n) (h2 : u.2 < n) (ho : OkWay S T u c) (h : Two v u x) : Two (stp S n T (T.getD (u.1 * S + c.1) 0) v) (stepP S n u c) x := by
  obtain ⟨hc1, hc2, he⟩ := ho
  have a1 := stp_ge (S := S) (n := n) (T := T) (v := v) (edge_lt h1 hc1) rfl rfl
  have a2 := stp_ge (S := S) (n := n) (T := T) (v := v) (edge_lt h2 hc2) he.symm rfl
  rw [edge_div hc1] at a1
  rw [edge_div hc2] at a2
  by_cases e : u.1 = u.2
  · have hx := h.1 e
    rw [e] at a1 hx
    refine ⟨fun _ => ?_, fun _ => ⟨?_, ?_⟩⟩
    · show 2 * x ≤ stp S n T (T.getD (u.1 * S + c.1) 0) v ((u.1 * S + c.1) % n)
      rw [e]; omega
    · show x ≤ stp S n T (T.getD (u.1 * S + c.1) 0) v ((u.1 * S + c.1) % n)
      rw [e]; omega
    · show x ≤ stp S n T (T.getD (u.1 * S + c.1) 0) v ((u.2 * S + c.2) % n)
      omega
  · have hx := h.2 e
    refine ⟨fun q => ?_, fun _ => ⟨?_, ?_⟩⟩
    · have q' : (u.1 * S + c.1) % n = (u.2 * S + c.2) % n := q
      have a3 := stp_ge2 (S := S) (n := n) (T := T) (v := v) (a := T.getD (u.1 * S + c.1) 0) (q := (u.1 * S + c.1) % n) (i := u.1 * S + c.1) (j := u.2 * S + c.2) (fun k => e (by
        have := congrArg (· / S) k
        simp only [edge_div hc1, edge_div hc2] at this
        exact this)) (edge_lt h1 hc1) (edge_lt h2 hc2) rfl rfl he.symm q'.symm
      rw [edge_div hc1, edge_div hc2] at a3
      show 2 * x ≤ stp S n T (T.getD (u.1 * S + c.1) 0) v ((u.1 * S + c.1) % n)
      omega
    · show x ≤ stp S n T (T.getD (u.1 * S + c.1) 0) v ((u.1 * S + c.1) % n)
      omega
    · show x ≤ stp S n T (T.getD (u.1 * S + c.1) 0) v ((u.2 * S + c.2) % n)
      omega
/-- The word that a pair of ways spells. -/
def labP (S n : Nat) (T : List Int) : Nat × Nat → List (Nat × Nat) → List Int
  | _, [] => []
  | u, c :: r => T.getD (u.1 * S + c.1) 0 :: labP S n T (stepP S n u c) r
theorem Two.path {S n : Nat} {T : List Int} (hn : 0 < n) {x : Nat} : ∀ (cs : List (Nat × Nat)) (u : Nat × Nat) (v : Nat → Nat), u.1 < n → u.2 < n → okP S n T u cs → Two v u x → Two (act S n T (labP S n T u cs) v) (endP S n u cs) x
  | [], u, v, _, _, _, h => h
  | c :: r, u, v, h1, h2, ho, h => Two.path hn r _ _ (stepP_lt hn u c).1 (stepP_lt hn u c).2 ho.2 (h.step h1 h2 ho.1)
/-- From each place a way leads to each. -/
theorem way_to {S k : Nat} {T : List Int} (hS : 0 < S) (q : Nat) : ∀ m t, t < S ^ m → ∃ cs : List (Nat × Nat), okP S (S ^ k) T (q, q) cs ∧ endP S (S ^ k) (q, q) cs = ((q * S ^ m + t) % S ^ k, (q * S ^ m + t) % S ^ k) ∨ (m = 0 ∧ t = 0) := fun m => by
  induction m with
  | zero => intro t ht; exact ⟨[], Or.inr ⟨rfl, by simpa using ht⟩⟩
  | succ m ih =>
    intro t ht
    have hc : t % S < S := Nat.mod_lt _ hS
    have hd : t / S < S ^ m := Nat.div_lt_of_lt_mul (by rw [← Nat.pow_succ']; exact ht)
    have et : S * (t / S) + t % S = t := Nat.div_add_mod t S
    have e1 : ∀ y, (y % S ^ k * S + t % S) % S ^ k = (y * S + t % S) % S ^ k := fun y => by
      rw [Nat.add_mod, Nat.mod_mul_mod, ← Nat.add_mod]
    have e2 : (q * S ^ m + t / S) * S + t % S = q * S ^ (m + 1) + t := by
      rw [Nat.add_mul, Nat.mul_assoc, ← Nat.pow_succ, Nat.add_assoc, Nat.mul_comm (t / S), et]
    obtain ⟨cs, h | h⟩ := ih (t / S) hd
    · refine ⟨cs ++ [(t % S, t % S)], Or.inl ⟨?_, ?_⟩⟩
      · rw [okP_append, h.2]
        exact ⟨h.1, ⟨hc, hc, rfl⟩, trivial⟩
      · rw [endP_append, h.2]
        show stepP S (S ^ k) _ _ = _
        unfold stepP
        simp only [e1, e2]
    · obtain ⟨rfl, h0⟩ := h
      refine ⟨[(t % S, t % S)], Or.inl ⟨⟨⟨hc, hc, rfl⟩, trivial⟩, ?_⟩⟩
      show stepP S (S ^ k) _ _ = _
      unfold stepP
      have e3 : q * S + t % S = q * S ^ (0 + 1) + t := by rw [← e2, h0]; simp
      simp only [e3]
theorem way_place {S k : Nat} {T : List Int} (hS : 0 < S) {q p : Nat} (hq : q < S ^ k) (hp : p < S ^ k) : ∃ cs : List (Nat × Nat), okP S (S ^ k) T (q, q) cs ∧ endP S (S ^ k) (q, q) cs = (p, p) := by
  obtain ⟨cs, h | ⟨h1, h2⟩⟩ := way_to (S := S) (k := k) (T := T) hS q k p hp
  · refine ⟨cs, h.1, ?_⟩
    rw [h.2, Nat.add_comm, Nat.add_mul_mod_self_right, Nat.mod_eq_of_lt hp]
  · subst h1
    exact ⟨[], trivial, by rw [h2]; show (q, q) = (0, 0); rw [show q = 0 by simpa using hq]⟩
end Go.Proofs.YtjjdjdodhedihaaDoor

namespace Go.Proofs.YtjjdjdodhedihaaDoor
set_option linter.unusedVariables false

/-- A number whose bits are the places to which a word leads. -/
def SetIs (S n : Nat) (T : List Int) (m : Nat) (w : List Int) : Prop := cellsOk S w ∧ m < 2 ^ n ∧ ∀ q, q < n → (m.testBit q = true ↔ 0 < act S n T w one1 q)
theorem SetIs.start (S n : Nat) (T : List Int) : SetIs S n T (2 ^ n - 1) [] := by
  refine ⟨cells_nil _, by have := Nat.pow_pos (a := 2) (n := n) (by omega); omega, fun q hq => ?_⟩
  rw [Nat.testBit_two_pow_sub_one]
  simp [hq, act, one1]
theorem stp_pos_iff {S n : Nat} {T : List Int} {a : Int} {v : Nat → Nat} {q : Nat} : 0 < stp S n T a v q ↔ ∃ j, j < n * S ∧ T.getD j 0 = a ∧ j % n = q ∧ 0 < v (j / S) := by
  constructor
  · intro h
    obtain ⟨j, hj, h1⟩ := sumN_pos _ h
    by_cases c : T.getD j 0 = a ∧ j % n = q
    · rw [if_pos c] at h1
      exact ⟨j, hj, c.1, c.2, h1⟩
    · rw [if_neg c] at h1
      omega
  · rintro ⟨j, hj, h1, h2, h3⟩
    have := sumN_term (f := fun j => if T.getD j 0 = a ∧ j % n = q then v (j / S) else 0) (n * S) j hj
    simp only [if_pos (And.intro h1 h2)] at this
    unfold stp
    omega
theorem SetIs.next {S n m : Nat} {T w : List Int} (hS : 0 < S) (h : SetIs S n T m w) {c : Nat} (hc : c < S) : SetIs S n T (follN S n T c m) (w ++ [(c : Int)]) := by
  refine ⟨cells_app h.1 (cells_one hc), follN_lt .., fun q hq => ?_⟩
  rw [act_append]
  show _ ↔ 0 < stp S n T (c : Int) (act S n T w one1) q
  rw [stp_pos_iff, follN, testBit_bitsN]
  simp only [hq, decide_true, Bool.true_and]
  rw [anyB_iff]
  constructor
  · rintro ⟨p, hp, h1, h2⟩
    obtain ⟨x, hx, h3, h4⟩ := leadB_iff.1 h2
    have e : (p * S + x) / S = p := by rw [Nat.mul_comm, Nat.mul_add_div hS, Nat.div_eq_of_lt hx, Nat.add_zero]
    have l : p * S + x < n * S := by
      have : (p + 1) * S ≤ n * S := Nat.mul_le_mul_right _ hp
      rw [Nat.add_mul] at this
      omega
    exact ⟨p * S + x, l, h3, h4, by rw [e]; exact (h.2.2 p hp).1 h1⟩
  · rintro ⟨j, hj, h1, h2, h3⟩
    have hd : j / S < n := Nat.div_lt_of_lt_mul (by rw [Nat.mul_comm]; exact hj)
    have d : j / S * S + j % S = j := by rw [Nat.mul_comm]; exact Nat.div_add_mod _ _
    exact ⟨j / S, hd, (h.2.2 _ hd).2 h3, leadB_iff.2 ⟨j % S, Nat.mod_lt _ hS, by rw [d]; exact h1, by rw [d]; exact h2⟩⟩
theorem SetIs.zero {S n : Nat} {T w : List Int} (h : SetIs S n T 0 w) : cntN S n T w = 0 := by
  unfold cntN
  rw [sumN_ext (g := fun _ => 0) n, sumN_zero]
  intro q hq
  rcases Nat.eq_zero_or_pos (act S n T w one1 q) with c | c
  · exact c
  · have := (h.2.2 q hq).2 c
    simp at this
end Go.Proofs.YtjjdjdodhedihaaDoor

namespace Go.Proofs.YtjjdjdodhedihaaDoor
open Go.RowKit
set_option linter.unusedVariables false

def enCells (Q : List En) : List Value := Q.flatMap fun e => [.int .i64 (e.set : Int), .int .i64 (e.st : Int), .int .i64 (e.ah : Int)]
/-- What orphan holds. -/
structure OQ (w wr : World) (S R n : Nat) (T : List Int) (vt : Value) (gl gs B : Nat) (qv : Value) (Q : List En) : Prop where
  gb : GB w.heap.size S R n vt wr
  lt : ∀ c, c < S → wr.cell? ⟨gl, c, none⟩ = some (.slice (some ⟨gl + 1 + c, 0, none⟩) n n)
  ll : gl < wr.heap.size
  lr : ∀ c, c < S → Cel wr (gl + 1 + c) ((List.range n).map fun p => ((leadN S n T c p : Nat) : Int))
  sn : ∀ k, k < 2 ^ n → wr.cell? ⟨gs, k, none⟩ = some (.bool (decide (k ∈ Q.map En.set)))
  sf : ∀ k, wr.frozen? ⟨gs, k, none⟩ = false
  qr : wr.ownsRow B 121 3 qv Q.length (enCells Q)
  bl : Below w.heap.size w wr
  o1 : w.heap.size < gl
  o2 : gl + S < gs
  o3 : gs < B
  o4 : B ≤ wr.heap.size
/-- Blocks below a bound, but one, and the row's own, lie as they lay. -/
theorem OQ.keep {w wr wr' : World} {S R n : Nat} {T : List Int} {vt : Value} {gl gs B : Nat} {qv qv' : Value} {Q Q' : List En} (h : OQ w wr S R n T vt gl gs B qv Q) (hs : wr.heap.size ≤ wr'.heap.size) (hk : ∀ k, k < B → k ≠ gs → wr'.heap[k]? = wr.heap[k]?) (hb : Below w.heap.size w wr') (hq : wr'.ownsRow B 121 3 qv' Q'.length (enCells Q')) (h1 : ∀ k, k < 2 ^ n → wr'.cell? ⟨gs, k, none⟩ = some (.bool (decide (k ∈ Q'.map En.set)))) (h2 : ∀ k, wr'.frozen? ⟨gs, k, none⟩ = false) : OQ w wr' S R n T vt gl gs B qv' Q' := by
  have a1 := h.o1
  have a2 := h.o2
  have a3 := h.o3
  have a4 := h.o4
  exact ⟨h.gb.block (hk _ (by omega) (by omega)), fun c hc => (World.cell?_of_block (w := wr) (a := ⟨gl, c, none⟩) (hk gl (by omega) (by omega))).trans (h.lt c hc), by have := h.ll; omega, fun c hc => (h.lr c hc).block hs (hk _ (by omega) (by omega)), h1, h2, hq, hb, a1, a2, a3, by omega⟩
theorem OQ.below {w wr wr' : World} {S R n : Nat} {T : List Int} {vt : Value} {gl gs B : Nat} {qv : Value} {Q : List En} (h : OQ w wr S R n T vt gl gs B qv Q) (hb : Below wr.heap.size wr wr') : OQ w wr' S R n T vt gl gs B qv Q := by
  have a3 := h.o3
  have a4 := h.o4
  exact h.keep hb.size (fun k hk _ => hb.block k (by omega)) (h.bl.trans (hb.mono h.bl.size)) (h.qr.kept (grown_of_below hb) (Classical.em _)) (fun k hk => (World.cell?_of_block (w := wr) (a := ⟨gs, k, none⟩) (hb.block gs (by omega))).trans (h.sn k hk)) (fun k => (World.frozen?_of_block (w := wr) (a := ⟨gs, k, none⟩) (hb.block gs (by omega))).trans (h.sf k))
/-- One set more. -/
theorem OQ.push {w wr w3 : World} {S R n : Nat} {T : List Int} {vt v' : Value} {gl gs g L cap nq s : Nat} {Q : List En} {x : En} {X : Obj} (h : OQ w wr S R n T vt gl gs (gs + 1) (.slice (some ⟨g, 0, none⟩) L cap) Q) (hx : x.set = s) (hg : gs + 1 ≤ g) (hsn : s < 2 ^ n) (GR : (((wr.drewN nq).setCell ⟨gs, s, none⟩ (.bool true)).alloc X).grownBy w3 (Value.slice (some ⟨g, 0, none⟩) L cap).ownBlock) (ON : w3.ownsRow (gs + 1) 121 3 v' (Q ++ [x]).length (enCells (Q ++ [x]))) : OQ w w3 S R n T vt gl gs (gs + 1) v' (Q ++ [x]) := by
  have a1 := h.o1
  have a2 := h.o2
  have a4 := h.o4
  obtain ⟨W, hW⟩ : ∃ W, (wr.drewN nq).setCell ⟨gs, s, none⟩ (.bool true) = W := ⟨_, rfl⟩
  rw [hW] at GR
  have wz : W.heap.size = wr.heap.size := by rw [← hW, World.size_setCell]; rfl
  have gsz : (W.alloc X).heap.size = wr.heap.size + 1 := by rw [World.size_alloc, wz]
  have hsz : wr.heap.size + 1 ≤ w3.heap.size := by have := GR.size; omega
  have hk : ∀ k, k < gs + 1 → w3.heap[k]? = W.heap[k]? := fun k hk => by
    rw [GR.block k (by omega) (by simp [Value.ownBlock]; omega)]
    exact Below.heap_alloc _ _ _ (by omega)
  have hk2 : ∀ k, k ≠ gs → W.heap[k]? = wr.heap[k]? := fun k hne => by
    rw [← hW, heap_setCell_other _ _ _ _ _ hne]; rfl
  have BW : Below w.heap.size w W := by rw [← hW]; exact (below_drewN h.bl nq).setCell (p := ⟨gs, s, none⟩) (by show w.heap.size ≤ gs; omega) _
  have B3 : Below w.heap.size w w3 := BW.trans ⟨GR.os, GR.tape, GR.output, by omega, fun k hk' => by
    rw [GR.block k (by omega) (by simp [Value.ownBlock]; omega)]
    exact Below.heap_alloc _ _ _ (by omega)⟩
  refine h.keep (by omega) (fun k hk1 hne => (hk k hk1).trans (hk2 k hne)) B3 ON (fun k hkn => ?_) (fun k => ?_)
  · rw [World.cell?_of_block (w := W) (a := ⟨gs, k, none⟩) (hk gs (by omega)), ← hW]
    by_cases e : k = s
    · subst e
      rw [World.cell?_setCell_same _ _ _ (show (wr.drewN nq).cell? ⟨gs, k, none⟩ = _ from h.sn k hkn)]
      simp [hx]
    · rw [World.cell?_setCell_other _ ⟨gs, s, none⟩ ⟨gs, k, none⟩ _ (fun q => e (congrArg Addr.off q).symm), show (wr.drewN nq).cell? ⟨gs, k, none⟩ = _ from h.sn k hkn]
      simp [hx, e]
  · rw [World.frozen?_of_block (w := W) (a := ⟨gs, k, none⟩) (hk gs (by omega)), ← hW, World.frozen?_setCell]
    exact h.sf k
end Go.Proofs.YtjjdjdodhedihaaDoor

namespace Go.Proofs.YtjjdjdodhedihaaDoor
open Go.RowKit
set_option linter.unusedVariables false

end Go.Proofs.YtjjdjdodhedihaaDoor

namespace Go.Proofs.YtjjdjdodhedihaaDoor
open Go.RowKit
set_option linter.unusedVariables false

end Go.Proofs.YtjjdjdodhedihaaDoor

namespace Go.Proofs.YtjjdjdodhedihaaDoor
set_option linter.unusedVariables false

end Go.Proofs.YtjjdjdodhedihaaDoor

namespace Go.Proofs.YtjjdjdodhedihaaDoor
open Go.RowKit
set_option linter.unusedVariables false

/-- At block g n bytes of the call's own. -/
structure Pk (w0 w : World) (g n : Nat) (F : Nat → Nat) : Prop where
  below : Below w0.heap.size w0 w
  ge : w0.heap.size ≤ g
  lt : g < w.heap.size
  cells : ∀ j, j < n → w.cell? ⟨g, j, none⟩ = some (.int .u8 (F j : Int))
  fz : ∀ j, w.frozen? ⟨g, j, none⟩ = false
theorem Pk.start (w : World) (n : Nat) (F : Nat → Nat) (t : TypeId) (h : ∀ j, F j = 0) : Pk w (w.alloc (.cells (madeCells #[.int .u8 0] n) t)) w.heap.size n F := by
  refine ⟨(Below.refl _ _).alloc (Nat.le_refl _) _, Nat.le_refl _, by simp, fun j hj => ?_, fun j => by simp⟩
  rw [World.cell?_alloc_at _ _ _ _ rfl, h j]
  have hs : j < (madeCells #[.int .u8 0] n).size := by rw [size_madeCells]; exact hj
  have e : (madeCells #[.int .u8 0] n)[j]? = some (.int .u8 0) := by
    rw [Array.getElem?_eq_getElem hs]
    simp [madeCells, Nat.mod_one]
  exact e
end Go.Proofs.YtjjdjdodhedihaaDoor

namespace Go.Proofs.YtjjdjdodhedihaaDoor
open Go.RowKit
open Go.Maps (Keyed)
set_option linter.unusedVariables false

end Go.Proofs.YtjjdjdodhedihaaDoor

namespace Go.Proofs.YtjjdjdodhedihaaDoor
open Go.RowKit
set_option linter.unusedVariables false

end Go.Proofs.YtjjdjdodhedihaaDoor

namespace Go.Proofs.YtjjdjdodhedihaaDoor
open Go.RowKit
set_option linter.unusedVariables false

theorem owns_arg {W : World} {B0 : Nat} {v : Value} {xs : List Int} (h : W.ownsRow B0 3 1 v xs.length (xs.map fun y => Value.int .i64 y)) (h0 : 0 < xs.length) (hm : xs.length ≤ maxLen) : ∃ g cap, v = .slice (some ⟨g, 0, none⟩) xs.length cap ∧ ArgP W xs (some ⟨g, 0, none⟩) xs.length cap := by
  rcases h.2 with ⟨rfl, h1⟩ | ⟨g, cap, cur, rfl, hg, hh, hc, hm', hs, ht⟩
  · omega
  · refine ⟨g, cap, rfl, rfl, hm, fun k hk => ⟨g, 0, rfl, (Array.getElem?_eq_some_iff.1 hh).1, ?_⟩⟩
    have e : (xs.map fun y => Value.int .i64 y)[k]? = some (.int .i64 xs[k]) := by simp [hk]
    rw [← ht, List.getElem?_take, if_pos (by omega)] at e
    rw [Nat.zero_add]
    simp only [World.cell?, hh]
    rw [← Array.getElem?_toList]
    exact e

end Go.Proofs.YtjjdjdodhedihaaDoor

namespace Go.Proofs.YtjjdjdodhedihaaDoor
open Go.RowKit
set_option linter.unusedVariables false

theorem own_ge {w : World} {base : Nat} {e : TypeId} {size n : Nat} {v : Value} {xs : List Value} (h : w.ownsRow base e size v n xs) : ∀ b, v.ownBlock = some b → base ≤ b := fun b eb => by
  rcases h.2 with ⟨rfl, _⟩ | ⟨g, cap, cur, rfl, hg, _⟩
  · simp [Value.ownBlock] at eb
  · obtain rfl : g = b := by simpa [Value.ownBlock] using eb
    exact hg
theorem ownsRow_argP {W : World} {B0 : Nat} {v : Value} {xs : List Int} (h : W.ownsRow B0 3 1 v xs.length (xs.map fun y => Value.int .i64 y)) (h0 : 0 < xs.length) (hm : xs.length ≤ maxLen) : ∃ g cap, v = .slice (some ⟨g, 0, none⟩) xs.length cap ∧ ArgP W xs (some ⟨g, 0, none⟩) xs.length cap := owns_arg h h0 hm
end Go.Proofs.YtjjdjdodhedihaaDoor

