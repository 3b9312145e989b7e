/-
  What the last text of this claim leans on, part 44: Ry5, Ry6, Oh1.
-/
import Derived.Test.YtdhbdkkchobinaaJz43
import Derived.Test.YtdhbdkkchobinaaJz15
import Derived.Test.YtdhbdkkchobinaaJz36
import Derived.Test.YtdhbdkkchobinaaJz28
import Derived.Maps.OwnSet
namespace Go.Proofs.Ytdhbdkkchobinaa
open Go.RowKit
open Go.Maps (Keyed)
set_option linter.unusedVariables false

def klOf (xs : List Int) : Lit := .string (keyB xs)
theorem klOf_key (xs : List Int) : WideAt.IsKeyLit (klOf xs) := trivial
theorem klOf_inj {S : Nat} {xs ys : List Int} (hS : S ≤ 4) (hx : cellsOk S xs) (hy : cellsOk S ys) (hl : xs.length = ys.length) (e : klOf xs = klOf ys) : xs = ys := by
  unfold klOf at e
  injection e with e
  exact keyB_inj hS hx hy hl e
/-- What was seen behind k rounds. -/
def DM (g : Nat → List Int) : Nat → DataW Unit
  | 0 => .map []
  | k + 1 => (DM g k).put (klOf (g k)) (.lit (.int .i64 (k : Int)))
theorem DM_isMap (g : Nat → List Int) : ∀ k, Maps.IsMap (DM g k)
  | 0 => Maps.isMap_empty
  | k + 1 => (DM_isMap g k).put _ _
theorem DM_not (g : Nat → List Int) (x : List Int) : ∀ k, (∀ i, i < k → klOf (g i) ≠ klOf x) → Maps.has (DM g k) (klOf x) = false
  | 0, _ => rfl
  | k + 1, h => by
    show Maps.has ((DM g k).put (klOf (g k)) _) (klOf x) = false
    rw [Maps.has_put_other (fun e => h k (by omega) e.symm)]
    exact DM_not g x k (fun i hi => h i (by omega))
theorem DM_at (g : Nat → List Int) (z : DataW Unit) : ∀ k i, i < k → (∀ i j, i < j → j < k → klOf (g i) ≠ klOf (g j)) → Maps.has (DM g k) (klOf (g i)) = true ∧ (DM g k).atKey (klOf (g i)) z = .lit (.int .i64 (i : Int))
  | 0, i, h, _ => by omega
  | k + 1, i, h, hd => by
    show Maps.has ((DM g k).put (klOf (g k)) _) (klOf (g i)) = true ∧ ((DM g k).put (klOf (g k)) _).atKey (klOf (g i)) z = _
    by_cases e : i = k
    · subst e
      exact ⟨Maps.has_put_same (DM_isMap g i) (klOf_key _) _, Maps.atKey_put_same (DM_isMap g i) (klOf_key _) _ _⟩
    · have hne : klOf (g i) ≠ klOf (g k) := hd i k (by omega) (by omega)
      rw [Maps.has_put_other hne, Maps.atKey_put_other hne]
      exact DM_at g z k i (by omega) (fun a b h1 h2 => hd a b h1 (by omega))

/-- 'v, ok := m[k]' at a key of which it is known what stands there. -/
theorem wpList_lookup_here {P : Program} (w : World) {ops : Array Oper} {rest : List Oper} {o : Oper} {a : Act} {Q : Exit → Act → World → Prop} (hg : o.guard = none) (m x : Operand) (t : TypeId) (hop : o.op = Op.lookup t m x true)
    (k e : TypeId) (q : IntKind) (K : Keyed P k) (ht : P.underlying t = some (.map k e)) (he : P.underlying e = some (.int q)) (hz : (zeroValue e).run P w = .ok (.int q 0) w) (b n : Nat) (D : DataW Unit)
    (hm : a.eval m = .map (some b)) (hown : w.ownsMap P k (plainElem P e) b n D) (key : Value) (kl : Lit) (hx : a.eval x = key) (hkey : keyOf P k key = some kl)
    (c : Int) (β : Bool) (h1 : D.atKey kl (.lit (.int q 0)) = .lit (.int q c)) (h2 : Maps.has D kl = β)
    (hK : wpList P ops Q rest (a.put o.dst (.tuple #[.int q c, .bool β])) w) :
    wpList P ops Q (o :: rest) a w :=
  wpList_lookup_own_ok_int w hg m x t hop k e q K ht he hz b n D hm hown key kl hx hkey (fun c' hc' _ => by
    rw [h1] at hc'
    injection hc' with hc'
    injection hc' with _ hc'
    subst hc'
    rw [h2]
    exact hK)
theorem ownsMap_of_block {P : Program} {k : TypeId} {R : Value → Option (DataW Unit × List MemPlace)} {w w' : World} {b n : Nat} {D : DataW Unit} (h : w.ownsMap P k R b n D) (e : w'.heap[b]? = w.heap[b]?) : w'.ownsMap P k R b n D := by
  obtain ⟨es, clock, hb, r⟩ := h
  exact ⟨es, clock, e.trans hb, r⟩
theorem below_of_grown {w w' : World} {B b : Nat} (h : w.grownBy w' (some b)) (hb : B ≤ b) (hs : B ≤ w.heap.size) : Below B w w' :=
  ⟨h.os, h.tape, h.output, h.size, fun k hk => h.block k (by omega) (fun e => by injection e; omega)⟩

theorem ArgP.belowM {w w' : World} {xs : List Int} {a : Option Addr} {n c M : Nat} (h : ArgP w xs a n c) (hb : Below M w w') (hg : ∀ g off, a = some ⟨g, off, none⟩ → g < M) : ArgP w' xs a n c :=
  ⟨h.len, h.max, fun k hk => by
    obtain ⟨g, off, e, hlt, hc⟩ := h.cells k hk
    exact ⟨g, off, e, Nat.lt_of_lt_of_le hlt hb.size, (World.cell?_of_block (w := w) (a := ⟨g, off + k, none⟩) (hb.block g (hg g off e))).trans hc⟩⟩
theorem ST.belowM {w w' : World} {pr pw gw S R N M : Nat} {T : List Int} {ta : Option Addr} {tn tc : Nat} {ws : List Int} (h : ST w pr pw gw S R N T ta tn tc ws) (hb : Below M w w') (h1 : pr < M) (h2 : pw < M) (h3 : gw < M) (h4 : ∀ g off, ta = some ⟨g, off, none⟩ → g < M) : ST w' pr pw gw S R N T ta tn tc ws :=
  ⟨h.rb.block (hb.block pr h1), (World.cell?_of_block (w := w) (a := ⟨pw, 0, none⟩) (hb.block pw h2)).trans h.wb, Nat.lt_of_lt_of_le h.wl hb.size, h.cw.block hb.size (hb.block gw h3), h.wn, h.ap.belowM hb h4, h.ne1, h.ne2, h.ne3⟩
theorem cells4 {S : Nat} {xs : List Int} (hS : S ≤ 4) (h : cellsOk S xs) : cellsOk ((4 : Nat) : Int) xs := fun x hx => by
  have := h x hx
  omega
/-- What line.Cycle answers. -/
def CyclePost (g : Nat → List Int) (w : World) (e : Ending) (w' : World) : Prop :=
  ((∃ m p : Nat, First g m p ∧ m + p ≤ 100000 ∧ e = .returned (.tuple #[.int .i64 (m : Int), .int .i64 (p : Int), .nilIface])) ∨ ((∀ m p, First g m p → ¬ m + p ≤ 100000) ∧ e = .returned (.tuple #[.int .i64 0, .int .i64 0, .iface 23 (.int .i64 6)]))) ∧ Below w.heap.size w w'
def CycleErr (f : Nat) (w : World) (e : Ending) (w' : World) : Prop :=
  e = .returned (.tuple #[.int .i64 0, .int .i64 0, .iface 23 (.int .i64 (f : Int))]) ∧ Below w.heap.size w w'
end Go.Proofs.Ytdhbdkkchobinaa

namespace Go.Proofs.Ytdhbdkkchobinaa
open Go.RowKit
set_option linter.unusedVariables false

theorem zeroInt (w : World) : (zeroValue 3).run Try.prog w = .ok (.int .i64 0) w := by kernel_rfl

end Go.Proofs.Ytdhbdkkchobinaa

namespace Go.Proofs.Ytdhbdkkchobinaa
open Go.RowKit
set_option linter.unusedVariables false

theorem fact_line : LineOk 2 0 [1, 0] := ⟨by omega, by omega, by omega, by simp, by simp, fun x hx => by simp at hx; omega⟩
theorem fact_ask : askE 2 0 [] = 0 := askE_ok (wordE_ok (by simp) (fun x hx => by simp at hx)) (by simp)
theorem fact_ring (u : Nat × Nat) (full : List (Nat × Nat)) : ¬ IsRing 2 1 [1, 0] u full := by
  rintro ⟨h1, h2, h3, ⟨cs, d, e, hw⟩, _⟩
  obtain ⟨q1, q2⟩ := wantRf_is.1 hw
  rw [e, okP_append] at h3
  obtain ⟨a, b, c⟩ := h3.2.1
  have hl := endP_lt (S := 2) (n := 1) (by omega) cs u (by omega) h2
  rw [show (endP 2 1 u cs).1 = 0 by omega, show (endP 2 1 u cs).2 = 0 by omega] at c
  have h3 : ∀ x, x < 2 → x = 0 ∨ x = 1 := fun x hx => by omega
  rcases h3 d.1 a with q | q <;> rcases h3 d.2 b with r | r <;> rw [q, r] at c q2 <;> simp at c q2
/-- onto.One at the closed fact. -/
theorem fact_one (g : Nat) (W : World) (hA : ArgP W [1, 0] (some ⟨g, 0, none⟩) 2 2) :
    Calls Try.prog 24 #[.agg #[.int .i64 2, .int .i64 0, .int .i64 0, .int .i64 2, .int .i64 0, .slice (some ⟨g, 0, none⟩) 2 2, .string ⟨#[]⟩]] W fun e w' => e = .returned (.tuple #[.bool true, .slice none 0 0, .slice none 0 0, .nilIface]) ∧ Below W.heap.size W w' := by
  refine (one_ok 2 0 1 [1, 0] (some ⟨g, 0, none⟩) 2 2 W fact_line hA fact_ask rfl).mono ?_
  rintro e w' ⟨h, b⟩
  rcases h with ⟨u, full, v1, v2, _, _, _, r⟩ | ⟨rfl, _⟩
  · exact absurd r (fact_ring u full)
  · exact ⟨rfl, b⟩
def CycAny (S R : Nat) (T ws : List Int) (w : World) (e : Ending) (w' : World) : Prop :=
  ((wordE S ws = 0 ∧ ∃ m p : Nat, First (fun n => runL S R T n ws) m p ∧ m + p ≤ 100000 ∧ e = .returned (.tuple #[.int .i64 (m : Int), .int .i64 (p : Int), .nilIface])) ∨ (∃ k : Int, e = .returned (.tuple #[.int .i64 0, .int .i64 0, .iface 23 (.int .i64 k)]))) ∧ Below w.heap.size w w'
theorem owns_arg {W : World} {B0 : Nat} {v : Value} {xs : List Int} (h : W.ownsRow B0 3 1 v xs.length (xs.map fun y => Value.int .i64 y)) (h0 : 0 < xs.length) (hm : xs.length ≤ maxLen) : ∃ g cap, v = .slice (some ⟨g, 0, none⟩) xs.length cap ∧ ArgP W xs (some ⟨g, 0, none⟩) xs.length cap := by
  rcases h.2 with ⟨rfl, h1⟩ | ⟨g, cap, cur, rfl, hg, hh, hc, hm', hs, ht⟩
  · omega
  · refine ⟨g, cap, rfl, rfl, hm, fun k hk => ⟨g, 0, rfl, (Array.getElem?_eq_some_iff.1 hh).1, ?_⟩⟩
    have e : (xs.map fun y => Value.int .i64 y)[k]? = some (.int .i64 xs[k]) := by simp [hk]
    rw [← ht, List.getElem?_take, if_pos (by omega)] at e
    rw [Nat.zero_add]
    simp only [World.cell?, hh]
    rw [← Array.getElem?_toList]
    exact e

end Go.Proofs.Ytdhbdkkchobinaa

