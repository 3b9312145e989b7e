/-
  What the last text of this claim leans on, part 30: Ry5.
-/
import Derived.Test.YtdhbdkkchobinabJx29
import Derived.Test.YtdhbdkkchobinabJx13
import Derived.Maps.OwnSet
namespace Go.Proofs.Ytdhbdkkchobinab
open Go.RowKit
open Go.Maps (Keyed)
set_option linter.unusedVariables false

def klOf (xs : List Int) : Lit := .string (keyB xs)
theorem klOf_key (xs : List Int) : WideAt.IsKeyLit (klOf xs) := trivial
theorem klOf_inj {S : Nat} {xs ys : List Int} (hS : S ≤ 4) (hx : cellsOk S xs) (hy : cellsOk S ys) (hl : xs.length = ys.length) (e : klOf xs = klOf ys) : xs = ys := by
  unfold klOf at e
  injection e with e
  exact keyB_inj hS hx hy hl e
/-- What was seen behind k rounds. -/
def DM (g : Nat → List Int) : Nat → DataW Unit
  | 0 => .map []
  | k + 1 => (DM g k).put (klOf (g k)) (.lit (.int .i64 (k : Int)))
theorem DM_isMap (g : Nat → List Int) : ∀ k, Maps.IsMap (DM g k)
  | 0 => Maps.isMap_empty
  | k + 1 => (DM_isMap g k).put _ _
theorem DM_not (g : Nat → List Int) (x : List Int) : ∀ k, (∀ i, i < k → klOf (g i) ≠ klOf x) → Maps.has (DM g k) (klOf x) = false
  | 0, _ => rfl
  | k + 1, h => by
    show Maps.has ((DM g k).put (klOf (g k)) _) (klOf x) = false
    rw [Maps.has_put_other (fun e => h k (by omega) e.symm)]
    exact DM_not g x k (fun i hi => h i (by omega))
theorem DM_at (g : Nat → List Int) (z : DataW Unit) : ∀ k i, i < k → (∀ i j, i < j → j < k → klOf (g i) ≠ klOf (g j)) → Maps.has (DM g k) (klOf (g i)) = true ∧ (DM g k).atKey (klOf (g i)) z = .lit (.int .i64 (i : Int))
  | 0, i, h, _ => by omega
  | k + 1, i, h, hd => by
    show Maps.has ((DM g k).put (klOf (g k)) _) (klOf (g i)) = true ∧ ((DM g k).put (klOf (g k)) _).atKey (klOf (g i)) z = _
    by_cases e : i = k
    · subst e
      exact ⟨Maps.has_put_same (DM_isMap g i) (klOf_key _) _, Maps.atKey_put_same (DM_isMap g i) (klOf_key _) _ _⟩
    · have hne : klOf (g i) ≠ klOf (g k) := hd i k (by omega) (by omega)
      rw [Maps.has_put_other hne, Maps.atKey_put_other hne]
      exact DM_at g z k i (by omega) (fun a b h1 h2 => hd a b h1 (by omega))

/-- 'v, ok := m[k]' at a key of which it is known what stands there. -/
theorem wpList_lookup_here {P : Program} (w : World) {ops : Array Oper} {rest : List Oper} {o : Oper} {a : Act} {Q : Exit → Act → World → Prop} (hg : o.guard = none) (m x : Operand) (t : TypeId) (hop : o.op = Op.lookup t m x true)
    (k e : TypeId) (q : IntKind) (K : Keyed P k) (ht : P.underlying t = some (.map k e)) (he : P.underlying e = some (.int q)) (hz : (zeroValue e).run P w = .ok (.int q 0) w) (b n : Nat) (D : DataW Unit)
    (hm : a.eval m = .map (some b)) (hown : w.ownsMap P k (plainElem P e) b n D) (key : Value) (kl : Lit) (hx : a.eval x = key) (hkey : keyOf P k key = some kl)
    (c : Int) (β : Bool) (h1 : D.atKey kl (.lit (.int q 0)) = .lit (.int q c)) (h2 : Maps.has D kl = β)
    (hK : wpList P ops Q rest (a.put o.dst (.tuple #[.int q c, .bool β])) w) :
    wpList P ops Q (o :: rest) a w :=
  wpList_lookup_own_ok_int w hg m x t hop k e q K ht he hz b n D hm hown key kl hx hkey (fun c' hc' _ => by
    rw [h1] at hc'
    injection hc' with hc'
    injection hc' with _ hc'
    subst hc'
    rw [h2]
    exact hK)
theorem ownsMap_of_block {P : Program} {k : TypeId} {R : Value → Option (DataW Unit × List MemPlace)} {w w' : World} {b n : Nat} {D : DataW Unit} (h : w.ownsMap P k R b n D) (e : w'.heap[b]? = w.heap[b]?) : w'.ownsMap P k R b n D := by
  obtain ⟨es, clock, hb, r⟩ := h
  exact ⟨es, clock, e.trans hb, r⟩
theorem below_of_grown {w w' : World} {B b : Nat} (h : w.grownBy w' (some b)) (hb : B ≤ b) (hs : B ≤ w.heap.size) : Below B w w' :=
  ⟨h.os, h.tape, h.output, h.size, fun k hk => h.block k (by omega) (fun e => by injection e; omega)⟩

/-- The ring, where it lies, and what steps it, behind i steps; all of it lies below block M. -/
structure RS (g : Nat → List Int) (ra : Option Addr) (L cr pw pr M B0 : Nat) (Q : Nat → World → Prop) : Prop where
  key : ∀ i wr, Q i wr → Calls Try.prog 11 #[.slice ra L cr] wr fun e w' => e = .returned (.string ⟨(keyB (g i)).toArray⟩) ∧ Below wr.heap.size wr w'
  step : ∀ i wr, Q i wr → M < wr.heap.size → Calls Try.prog 19 #[.slice ra L cr, .pointer (some ⟨pw, 0, none⟩), .pointer (some ⟨pr, 0, none⟩)] wr fun e w' => e = .returned (.tuple #[]) ∧ Q (i + 1) w' ∧ w'.heap[M]? = wr.heap[M]? ∧ Below B0 wr w'
  kept : ∀ i wr w', Q i wr → Below M wr w' → Q i w'
theorem ArgP.belowM {w w' : World} {xs : List Int} {a : Option Addr} {n c M : Nat} (h : ArgP w xs a n c) (hb : Below M w w') (hg : ∀ g off, a = some ⟨g, off, none⟩ → g < M) : ArgP w' xs a n c :=
  ⟨h.len, h.max, fun k hk => by
    obtain ⟨g, off, e, hlt, hc⟩ := h.cells k hk
    exact ⟨g, off, e, Nat.lt_of_lt_of_le hlt hb.size, (World.cell?_of_block (w := w) (a := ⟨g, off + k, none⟩) (hb.block g (hg g off e))).trans hc⟩⟩
theorem ST.belowM {w w' : World} {pr pw gw S R N M : Nat} {T : List Int} {ta : Option Addr} {tn tc : Nat} {ws : List Int} (h : ST w pr pw gw S R N T ta tn tc ws) (hb : Below M w w') (h1 : pr < M) (h2 : pw < M) (h3 : gw < M) (h4 : ∀ g off, ta = some ⟨g, off, none⟩ → g < M) : ST w' pr pw gw S R N T ta tn tc ws :=
  ⟨h.rb.block (hb.block pr h1), (World.cell?_of_block (w := w) (a := ⟨pw, 0, none⟩) (hb.block pw h2)).trans h.wb, Nat.lt_of_lt_of_le h.wl hb.size, h.cw.block hb.size (hb.block gw h3), h.wn, h.ap.belowM hb h4, h.ne1, h.ne2, h.ne3⟩
theorem cells4 {S : Nat} {xs : List Int} (hS : S ≤ 4) (h : cellsOk S xs) : cellsOk ((4 : Nat) : Int) xs := fun x hx => by
  have := h x hx
  omega
theorem RS.full (S R : Nat) (T : List Int) (ta : Option Addr) (tn tc : Nat) (ws : List Int) (p gr cr B0 : Nat) (hL : LineOk S R T) (h0 : 0 < ws.length) (hl : ws.length ≤ 1000) (hok : cellsOk S ws)
    (hp : B0 ≤ p) (hg : B0 ≤ gr) (hgp : gr < p) (hta : ∀ g off, ta = some ⟨g, off, none⟩ → g < B0) :
    RS (fun n => runL S R T n ws) (some ⟨gr, 0, none⟩) ws.length cr (p + 2) p (p + 3) B0 (fun i wr => Cel wr gr (runL S R T i ws) ∧ ∃ zs, ST wr p (p + 2) (p + 1) S R (ws.length + 2 * R) T ta tn tc zs) := by
  have LN := fun i => runL_length (S : Int) R T ws i
  have LO := fun i => runL_ok (S := (S : Int)) (R := R) (T := T) (xs := ws) (by have := hL.s2; omega) hL.lenI hL.ok hok i
  refine ⟨fun i wr ⟨ce, _⟩ => ?_, fun i wr ⟨ce, zs, st⟩ hM => ?_, fun i wr w' ⟨ce, zs, st⟩ hb => ⟨ce.block hb.size (hb.block gr (by omega)), zs, st.belowM hb (by omega) (by omega) (by omega) (fun g off e => by have := hta g off e; omega)⟩⟩
  · have := keyOf_any (runL S R T i ws) (some ⟨gr, 0, none⟩) cr wr (ce.argP rfl (by rw [LN i]; unfold maxLen; omega)) (cells4 hL.s4 (LO i)) (by rw [LN i]; exact hl)
    rw [LN i] at this
    exact this
  · refine (step_ring S R T ta tn tc p (p + 2) (p + 1) (ws.length + 2 * R) gr cr ws.length (runL S R T i ws) zs wr hL st ce (LN i) rfl h0 hl (LO i) (by omega) (by omega) (by omega) (fun g off e => by have := hta g off e; omega)).mono ?_
    rintro e w' ⟨rfl, st5, ce5, rd5⟩
    exact ⟨rfl, ⟨ce5, _, st5⟩, rd5.block _ hM (by omega) (by omega), rd5.below (by omega) (by omega) (by omega)⟩
theorem RS.empty (S R : Nat) (T : List Int) (ta : Option Addr) (tn tc : Nat) (p B0 : Nat) (hL : LineOk S R T) (hp : B0 ≤ p) (hta : ∀ g off, ta = some ⟨g, off, none⟩ → g < B0) :
    RS (fun n => runL S R T n []) none 0 0 (p + 2) p (p + 3) B0 (fun i wr => ST wr p (p + 2) (p + 1) S R (2 * R) T ta tn tc (List.replicate (2 * R) 0) ∧ p + 3 ≤ wr.heap.size) := by
  refine ⟨fun i wr _ => ?_, fun i wr ⟨st, hs⟩ hM => ?_, fun i wr w' ⟨st, hs⟩ hb => ⟨st.belowM hb (by omega) (by omega) (by omega) (fun g off e => by have := hta g off e; omega), Nat.le_trans hs hb.size⟩⟩
  · have := keyOf_any [] none 0 wr ⟨rfl, by simp, fun k hk => by simp at hk⟩ (fun x hx => by simp at hx) (by simp)
    show Calls _ _ _ _ fun e w' => e = .returned (.string ⟨(keyB (runL S R T i [])).toArray⟩) ∧ _
    rw [runL_nil]
    exact this
  · refine (step_none S R T ta tn tc p (p + 2) (p + 1) wr hL st).mono ?_
    rintro e w' ⟨rfl, st5, rd5⟩
    exact ⟨rfl, ⟨st5, Nat.le_trans hs rd5.size⟩, rd5.block _ hM, rd5.mono (by omega)⟩

/-- What line.Cycle answers. -/
def CyclePost (g : Nat → List Int) (w : World) (e : Ending) (w' : World) : Prop :=
  ((∃ m p : Nat, First g m p ∧ m + p ≤ 100000 ∧ e = .returned (.tuple #[.int .i64 (m : Int), .int .i64 (p : Int), .nilIface])) ∨ ((∀ m p, First g m p → ¬ m + p ≤ 100000) ∧ e = .returned (.tuple #[.int .i64 0, .int .i64 0, .iface 43 (.int .i64 6)]))) ∧ Below w.heap.size w w'
def CycleErr (f : Nat) (w : World) (e : Ending) (w' : World) : Prop :=
  e = .returned (.tuple #[.int .i64 0, .int .i64 0, .iface 43 (.int .i64 (f : Int))]) ∧ Below w.heap.size w w'
end Go.Proofs.Ytdhbdkkchobinab

