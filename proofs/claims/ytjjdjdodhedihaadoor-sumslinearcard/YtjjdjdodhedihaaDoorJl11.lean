/-
  What the last text of this claim leans on, part 11: Oc3, Oc4, Oc5, Od1, Oc6.
-/
import Derived.Test.YtjjdjdodhedihaaDoorJl10
import Derived.Deep.RegionHeld3
import Derived.Deep.AppendLies
namespace Go.Proofs.YtjjdjdodhedihaaDoor
open Go.RowKit
set_option linter.unusedVariables false

/-- Pairs of numbers in a block. -/
structure PC (w : World) (g n : Nat) (E : Nat → Nat × Nat) : Prop where
  lt : g < w.heap.size
  c0 : ∀ k, k < n → w.cell? ⟨g, k * 2, none⟩ = some (.int .i64 ((E k).1 : Int))
  c1 : ∀ k, k < n → w.cell? ⟨g, k * 2 + 1, none⟩ = some (.int .i64 ((E k).2 : Int))
  fz : ∀ k, w.frozen? ⟨g, k, none⟩ = false
theorem PC.drew {w : World} {g n : Nat} {E : Nat → Nat × Nat} (h : PC w g n E) : PC w.drew g n E := ⟨h.lt, h.c0, h.c1, h.fz⟩
theorem PC.ext {w : World} {g n : Nat} {E E' : Nat → Nat × Nat} (h : PC w g n E) (e : ∀ k, k < n → E k = E' k) : PC w g n E' := ⟨h.lt, fun k hk => by rw [← e k hk]; exact h.c0 k hk, fun k hk => by rw [← e k hk]; exact h.c1 k hk, h.fz⟩
theorem PC.set {w : World} {g n : Nat} {E : Nat → Nat × Nat} (h : PC w g n E) (i : Nat) (hi : i < n) (x : Nat × Nat) : PC ((w.setCell ⟨g, i * 2, none⟩ (.int .i64 (x.1 : Int))).setCell ⟨g, i * 2 + 1, none⟩ (.int .i64 (x.2 : Int))) g n (fun k => if k = i then x else E k) := by
  have o : ∀ (W : World) (a b : Nat) (u : Value), a ≠ b → (W.setCell ⟨g, a, none⟩ u).cell? ⟨g, b, none⟩ = W.cell? ⟨g, b, none⟩ := fun W a b u h => World.cell?_setCell_other _ ⟨g, a, none⟩ ⟨g, b, none⟩ _ (fun q => h (congrArg Addr.off q))
  refine ⟨by simpa using h.lt, fun k hk => ?_, fun k hk => ?_, fun k => by simp [World.frozen?_setCell]; exact h.fz k⟩
  · rw [o _ _ _ _ (by omega)]
    by_cases e : k = i
    · subst e
      simp only [if_true]
      exact World.cell?_setCell_same _ _ _ (h.c0 k hk)
    · rw [o _ _ _ _ (by omega), if_neg e]; exact h.c0 k hk
  · by_cases e : k = i
    · subst e
      simp only [if_true]
      exact World.cell?_setCell_same _ _ _ (by rw [o _ _ _ _ (by omega)]; exact h.c1 k hk)
    · rw [o _ _ _ _ (by omega), o _ _ _ _ (by omega), if_neg e]; exact h.c1 k hk
theorem rd_drew {w w' : World} {g : Nat} (h : Rd g w w') : Rd g w w'.drew := ⟨h.os, h.tape, h.output, h.size, h.block⟩
end Go.Proofs.YtjjdjdodhedihaaDoor

namespace Go.Proofs.YtjjdjdodhedihaaDoor
open Go.RowKit
set_option linter.unusedVariables false

def prAt (l : List (Nat × Nat)) (k : Nat) : Nat × Nat := l.getD k (0, 0)
/-- The stop of a number. -/
def stAt (st : List Stp) (j : Nat) : Stp := st.getD j ⟨0, 0, 0, 0, 0⟩
/-- Where the chain of a stop begins, and the cells along it. -/
def chF (st : List Stp) : Nat → Nat → (Nat × Nat) × List (Nat × Nat)
  | 0, j => (((stAt st j).p, (stAt st j).q), [])
  | f + 1, j => if (stAt st j).h < 0 then (((stAt st j).p, (stAt st j).q), []) else ((chF st f (stAt st j).h.toNat).1, (chF st f (stAt st j).h.toNat).2 ++ [((stAt st j).a, (stAt st j).b)])
def chain (st : List Stp) (j : Nat) : (Nat × Nat) × List (Nat × Nat) := chF st (j + 1) j
/-- Each stop's ahead is an earlier one, or none. -/
def Chains (st : List Stp) : Prop := ∀ j, j < st.length → (stAt st j).h < 0 ∨ (stAt st j).h.toNat < j
theorem chF_same {st : List Stp} (hC : Chains st) : ∀ (N j f f' : Nat), j < N → j < st.length → j < f → j < f' → chF st f j = chF st f' j := by
  intro N
  induction N with
  | zero => intro j _ _ h; omega
  | succ N ih =>
    intro j f f' hN hj hf hf'
    obtain ⟨f, rfl⟩ : ∃ k, f = k + 1 := ⟨f - 1, by omega⟩
    obtain ⟨f', rfl⟩ : ∃ k, f' = k + 1 := ⟨f' - 1, by omega⟩
    by_cases h0 : (stAt st j).h < 0
    · rw [chF, chF, if_pos h0, if_pos h0]
    · have h1 := (hC j hj).resolve_left h0
      rw [chF, chF, if_neg h0, if_neg h0, ih (stAt st j).h.toNat f f' (by omega) (by omega) (by omega) (by omega)]
theorem chain_root {st : List Stp} {j : Nat} (h : (stAt st j).h < 0) : chain st j = (((stAt st j).p, (stAt st j).q), []) := by
  unfold chain; rw [chF, if_pos h]
theorem chain_step {st : List Stp} (hC : Chains st) {j h : Nat} (hj : j < st.length) (e : (stAt st j).h = (h : Int)) : h < j ∧ chain st j = ((chain st h).1, (chain st h).2 ++ [((stAt st j).a, (stAt st j).b)]) := by
  have h1 := (hC j hj).resolve_left (by rw [e]; omega)
  rw [e] at h1
  simp only [Int.toNat_natCast] at h1
  refine ⟨h1, ?_⟩
  unfold chain
  rw [chF, if_neg (by rw [e]; omega), e]
  simp only [Int.toNat_natCast]
  rw [chF_same hC (h + 1) h j (h + 1) (by omega) (by omega) h1 (by omega)]

/-- The stops, cell by cell. -/
structure SC (W : World) (g : Nat) (st : List Stp) : Prop where
  lt : g < W.heap.size
  cells : ∀ i k, i < st.length → k < 5 → W.cell? ⟨g, i * 5 + k, none⟩ = ((stAt st i).cells)[k]?
theorem SC.below {W W' : World} {g : Nat} {st : List Stp} (h : SC W g st) (hb : Below W.heap.size W W') : SC W' g st :=
  ⟨Nat.lt_of_lt_of_le h.lt hb.size, fun i k hi hk => (World.cell?_of_block (w := W) (a := ⟨g, i * 5 + k, none⟩) (hb.block g h.lt)).trans (h.cells i k hi hk)⟩
theorem SC.block {W W' : World} {g : Nat} {st : List Stp} (h : SC W g st) (hs : W.heap.size ≤ W'.heap.size) (e : W'.heap[g]? = W.heap[g]?) : SC W' g st :=
  ⟨Nat.lt_of_lt_of_le h.lt hs, fun i k hi hk => (World.cell?_of_block (w := W) (a := ⟨g, i * 5 + k, none⟩) e).trans (h.cells i k hi hk)⟩
theorem PC.block {w w' : World} {g n : Nat} {E : Nat → Nat × Nat} (h : PC w g n E) (hs : w.heap.size ≤ w'.heap.size) (e : w'.heap[g]? = w.heap[g]?) : PC w' g n E :=
  ⟨Nat.lt_of_lt_of_le h.lt hs, fun k hk => (World.cell?_of_block (w := w) (a := ⟨g, k * 2, none⟩) e).trans (h.c0 k hk), fun k hk => (World.cell?_of_block (w := w) (a := ⟨g, k * 2 + 1, none⟩) e).trans (h.c1 k hk), fun k => (World.frozen?_of_block (w := w) (a := ⟨g, k, none⟩) e).trans (h.fz k)⟩
end Go.Proofs.YtjjdjdodhedihaaDoor

namespace Go.Proofs.YtjjdjdodhedihaaDoor
open Go.RowKit
set_option linter.unusedVariables false

/-- What rings wants of a way. -/
def wantR (x y p' q' a b : Nat) : Bool := decide (p' = x ∧ q' = y) && !decide (a = b)
end Go.Proofs.YtjjdjdodhedihaaDoor

namespace Go.Proofs.YtjjdjdodhedihaaDoor
open Go.RowKit
set_option linter.unusedVariables false

/-- Two rows of numbers that lie apart, and a pair's box. -/
structure TW (base pb : Nat) (bx : Array Value) (w X : World) (v1 : Value) (n1 : Nat) (x1 : List Value) (v2 : Value) (n2 : Nat) (x2 : List Value) : Prop where
  b1 : X.ownsRow base 3 1 v1 n1 x1
  b2 : X.ownsRow base 3 1 v2 n2 x2
  sep : ∀ b, v1.ownBlock = some b → v2.ownBlock ≠ some b
  box : Blk X pb bx 127
  bl : Below base w X
  sz : base ≤ X.heap.size
theorem TW.alloc {base pb : Nat} {bx : Array Value} {w X : World} {v1 v2 : Value} {n1 n2 : Nat} {x1 x2 : List Value} (h : TW base pb bx w X v1 n1 x1 v2 n2 x2) (o : Obj) : TW base pb bx w (X.alloc o) v1 n1 x1 v2 n2 x2 :=
  ⟨h.b1.alloc o, h.b2.alloc o, h.sep, h.box.alloc o, h.bl.alloc h.sz o, by simp; have := h.sz; omega⟩
theorem TW.drew {base pb : Nat} {bx : Array Value} {w X : World} {v1 v2 : Value} {n1 n2 : Nat} {x1 x2 : List Value} (h : TW base pb bx w X v1 n1 x1 v2 n2 x2) : TW base pb bx w X.drew v1 n1 x1 v2 n2 x2 :=
  ⟨h.b1.drew, h.b2.drew, h.sep, h.box.of rfl, h.bl.drew, h.sz⟩
theorem blk_new_at {w : World} {p : Nat} {x : Value} {t : TypeId} (h : p = w.heap.size) : Blk (w.alloc (.cells #[x] t)) p #[x] t := by rw [h]; exact Blk.new _ _ _
end Go.Proofs.YtjjdjdodhedihaaDoor

namespace Go.Proofs.YtjjdjdodhedihaaDoor
set_option linter.unusedVariables false

def stepP (S n : Nat) (u c : Nat × Nat) : Nat × Nat := ((u.1 * S + c.1) % n, (u.2 * S + c.2) % n)
def OkWay (S : Nat) (T : List Int) (u c : Nat × Nat) : Prop := c.1 < S ∧ c.2 < S ∧ T.getD (u.1 * S + c.1) 0 = T.getD (u.2 * S + c.2) 0
/-- A path: cell by cell the same becomes of both. -/
def okP (S n : Nat) (T : List Int) : Nat × Nat → List (Nat × Nat) → Prop
  | _, [] => True
  | u, c :: r => OkWay S T u c ∧ okP S n T (stepP S n u c) r
def endP (S n : Nat) : Nat × Nat → List (Nat × Nat) → Nat × Nat
  | u, [] => u
  | u, c :: r => endP S n (stepP S n u c) r
theorem okP_append (S n : Nat) (T : List Int) : ∀ (l m : List (Nat × Nat)) (u : Nat × Nat), okP S n T u (l ++ m) ↔ okP S n T u l ∧ okP S n T (endP S n u l) m
  | [], m, u => by simp [okP, endP]
  | c :: l, m, u => by
    have ih := okP_append S n T l m (stepP S n u c)
    show OkWay S T u c ∧ okP S n T _ (l ++ m) ↔ (OkWay S T u c ∧ okP S n T _ l) ∧ okP S n T (endP S n _ l) m
    rw [ih, and_assoc]
theorem endP_append (S n : Nat) : ∀ (l m : List (Nat × Nat)) (u : Nat × Nat), endP S n u (l ++ m) = endP S n (endP S n u l) m
  | [], m, u => rfl
  | c :: l, m, u => endP_append S n l m (stepP S n u c)
theorem stepP_lt {S n : Nat} (hn : 0 < n) (u c : Nat × Nat) : (stepP S n u c).1 < n ∧ (stepP S n u c).2 < n := ⟨Nat.mod_lt _ hn, Nat.mod_lt _ hn⟩
theorem endP_lt {S n : Nat} (hn : 0 < n) : ∀ (l : List (Nat × Nat)) (u : Nat × Nat), u.1 < n → u.2 < n → (endP S n u l).1 < n ∧ (endP S n u l).2 < n
  | [], u, h1, h2 => ⟨h1, h2⟩
  | c :: l, u, _, _ => endP_lt hn l _ (stepP_lt hn u c).1 (stepP_lt hn u c).2

/-- What holds while it goes on. -/
structure Inv (S n : Nat) (T : List Int) (starts : List (Nat × Nat)) (sn : List Bool) (st : List Stp) : Prop where
  len : sn.length = n * n
  cnt : st.length = sn.count true
  seen : ∀ p q, p < n → q < n → (wasSeen n sn p q = true ↔ ∃ j, j < st.length ∧ (stAt st j).p = p ∧ (stAt st j).q = q)
  rng : ∀ j, j < st.length → (stAt st j).p < n ∧ (stAt st j).q < n
  link : ∀ j, j < st.length → ((stAt st j).h < 0 ∧ ((stAt st j).p, (stAt st j).q) ∈ starts) ∨ ∃ h : Nat, h < j ∧ (stAt st j).h = (h : Int) ∧ OkWay S T ((stAt st h).p, (stAt st h).q) ((stAt st j).a, (stAt st j).b) ∧ stepP S n ((stAt st h).p, (stAt st h).q) ((stAt st j).a, (stAt st j).b) = ((stAt st j).p, (stAt st j).q)
theorem Inv.bound {S n : Nat} {T : List Int} {starts : List (Nat × Nat)} {sn : List Bool} {st : List Stp} (h : Inv S n T starts sn st) : st.length ≤ n * n := by
  rw [h.cnt, ← h.len]; exact List.count_le_length
theorem Inv.chains {S n : Nat} {T : List Int} {starts : List (Nat × Nat)} {sn : List Bool} {st : List Stp} (h : Inv S n T starts sn st) : Chains st := fun j hj => by
  rcases h.link j hj with ⟨h0, _⟩ | ⟨k, h0, h1, _⟩
  · exact Or.inl h0
  · right; rw [h1]; simpa using h0
theorem Inv.start (S n : Nat) (T : List Int) (starts : List (Nat × Nat)) : Inv S n T starts (List.replicate (n * n) false) [] := by
  refine ⟨by simp, by simp [List.count_replicate], fun p q hp hq => ?_, fun j hj => by simp at hj, fun j hj => by simp at hj⟩
  constructor
  · intro h
    unfold wasSeen at h
    rw [List.getD_eq_getElem?_getD, List.getElem?_replicate] at h
    split at h <;> simp at h
  · rintro ⟨j, hj, _⟩; simp at hj
theorem code_inj {n p q p' q' : Nat} (hq : q < n) (hq' : q' < n) (e : p * n + q = p' * n + q') : p = p' ∧ q = q' := by
  have h1 : (p * n + q) / n = p := by rw [Nat.mul_comm, Nat.mul_add_div (by omega), Nat.div_eq_of_lt hq]; omega
  have h2 : (p' * n + q') / n = p' := by rw [Nat.mul_comm, Nat.mul_add_div (by omega), Nat.div_eq_of_lt hq']; omega
  have : p = p' := by rw [← h1, ← h2, e]
  subst this
  exact ⟨rfl, by omega⟩
theorem code_lt {n p q : Nat} (hp : p < n) (hq : q < n) : p * n + q < n * n := by
  have : (p + 1) * n ≤ n * n := Nat.mul_le_mul_right _ (by omega)
  rw [Nat.add_mul] at this
  omega
theorem count_set_true : ∀ (l : List Bool) (k : Nat), k < l.length → l.getD k false = false → (l.set k true).count true = l.count true + 1
  | [], k, h, _ => by simp at h
  | b :: l, 0, _, h => by
    have : b = false := by simpa [List.getD] using h
    subst this
    simp
  | b :: l, k + 1, h, h2 => by
    have ih := count_set_true l k (by simpa using h) (by simpa [List.getD] using h2)
    rw [List.set_cons_succ, List.count_cons, List.count_cons, ih]
    omega
/-- A stop's chain is a path from a start to it. -/
theorem Inv.path {S n : Nat} {T : List Int} {starts : List (Nat × Nat)} {sn : List Bool} {st : List Stp} (h : Inv S n T starts sn st) : ∀ (N j : Nat), j < N → j < st.length → (chain st j).1 ∈ starts ∧ okP S n T (chain st j).1 (chain st j).2 ∧ endP S n (chain st j).1 (chain st j).2 = ((stAt st j).p, (stAt st j).q) ∧ (chain st j).2.length ≤ j := by
  intro N
  induction N with
  | zero => intro j hj; omega
  | succ N ih =>
    intro j hN hj
    rcases h.link j hj with ⟨h0, h1⟩ | ⟨k, h0, h1, h2, h3⟩
    · rw [chain_root h0]
      exact ⟨h1, trivial, rfl, by simp⟩
    · obtain ⟨_, e⟩ := chain_step h.chains hj h1
      obtain ⟨a, b, c, d⟩ := ih k (by omega) (by omega)
      rw [e]
      refine ⟨a, ?_, ?_, by simp; omega⟩
      · rw [okP_append, c]
        exact ⟨b, h2, trivial⟩
      · rw [endP_append, c]
        exact h3
/-- Where no way is wanted from what was seen, and each leads to what was seen, none is wanted from whatever is reached. -/
theorem none_wanted {S n : Nat} {T : List Int} (hn : 0 < n) (A : Nat → Nat → Bool) (want : Nat × Nat → Nat × Nat → Bool)
    (hc : ∀ u c : Nat × Nat, u.1 < n → u.2 < n → A u.1 u.2 = true → OkWay S T u c → want u c = false ∧ A (stepP S n u c).1 (stepP S n u c).2 = true) :
    ∀ (cs : List (Nat × Nat)) (u c : Nat × Nat), u.1 < n → u.2 < n → A u.1 u.2 = true → okP S n T u cs → OkWay S T (endP S n u cs) c → want (endP S n u cs) c = false
  | [], u, c, h1, h2, hA, _, hw => (hc u c h1 h2 hA hw).1
  | d :: cs, u, c, h1, h2, hA, hp, hw => none_wanted hn A want hc cs _ c (stepP_lt hn u d).1 (stepP_lt hn u d).2 (hc u d h1 h2 hA hp.1).2 hp.2 hw
end Go.Proofs.YtjjdjdodhedihaaDoor

