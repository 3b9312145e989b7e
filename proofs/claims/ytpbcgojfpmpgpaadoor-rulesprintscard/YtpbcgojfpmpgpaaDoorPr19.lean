/-
  edenref1.Same at two tables that lie anywhere; edenref1.Window.
-/
import Derived.Test.YtpbcgojfpmpgpaaDoorPr18
namespace Go.Proofs.YtpbcgojfpmpgpaaDoor
open Go.RowKit
set_option linter.unusedVariables false

theorem cell_block_lt {w : World} {a : Addr} {v : Value} (h : w.cell? a = some v) : a.block < w.heap.size := by
  rcases Nat.lt_or_ge a.block w.heap.size with q | q
  · exact q
  · have e : w.heap[a.block]? = none := Array.getElem?_eq_none q
    simp only [World.cell?, e] at h
    cases h
/-- A list of ints reads so, from its start on. -/
def Reads0 (w : World) (a : Option Addr) (xs : List Int) : Prop := ∀ k (h : k < xs.length), ∃ g, a = some ⟨g, 0, none⟩ ∧ w.cell? ⟨g, k, none⟩ = some (.int .i64 xs[k])
theorem Reads0.below {w w' : World} {a : Option Addr} {xs : List Int} (h : Reads0 w a xs) (hb : Below w.heap.size w w') : Reads0 w' a xs := fun k hk => by
  obtain ⟨g, e, hc⟩ := h k hk
  exact ⟨g, e, (World.cell?_of_block (w := w) (a := ⟨g, k, none⟩) (hb.block g (cell_block_lt hc))).trans hc⟩
theorem Reads0.nil (w : World) (a : Option Addr) : Reads0 w a [] := fun k hk => by simp at hk

set_option maxHeartbeats 800000 in
theorem Same_any (o : Out) (a b : Option Addr) (n ca cb : Nat) (w : World) (hn : n = o.table.length) (hm : n ≤ maxLen) (ha : Reads0 w a o.table) (hb : Reads0 w b o.table) :
    Calls Tryd.prog 10 #[.agg #[.int .i64 o.kind, .int .i64 o.born, .int .i64 o.stay, .int .i64 o.states, .int .i64 o.radius, .slice a n ca, .string o.turns], .agg #[.int .i64 o.kind, .int .i64 o.born, .int .i64 o.stay, .int .i64 o.states, .int .i64 o.radius, .slice b n cb, .string o.turns]] w fun e w' => e = .returned (.bool true) ∧ Below w.heap.size w w' := by
  have B := hide' (((Below.refl w.heap.size w).alloc (Nat.le_refl _) (.cells #[.int .i64 o.kind, .int .i64 o.born, .int .i64 o.stay, .int .i64 o.states, .int .i64 o.radius, .slice a n ca, .string o.turns] 24)).alloc (by simp) (.cells #[.int .i64 o.kind, .int .i64 o.born, .int .i64 o.stay, .int .i64 o.states, .int .i64 o.radius, .slice b n cb, .string o.turns] 24))
  have HI := hide' (Ints_two o.table a b n ca cb _ hn hm (ha.below B.out) (hb.below B.out))
  clear hn ha hb
  go_enter Tryd.func10, Tryd.ntmps10
  go_wp2_with fail
  refine HI.out.mono ?_
  rintro e w1 ⟨rfl, m, rfl⟩
  go_wp2
  go_ret
  exact ⟨rfl, below_drewN B.out m⟩

/-- At block g a list of n ints of the call's own, the cells from k on are f's. -/
structure FillD (w0 w : World) (g n k : Nat) (f : Nat → Int) : Prop where
  below : Below w0.heap.size w0 w
  ge : w0.heap.size ≤ g
  lt : g < w.heap.size
  cells : ∀ j, j < n → ∃ v, w.cell? ⟨g, j, none⟩ = some v ∧ (k ≤ j → v = .int .i64 (f j))
  fz : ∀ j, w.frozen? ⟨g, j, none⟩ = false
theorem FillD.start (w : World) (n : Nat) (f : Nat → Int) (z : Value) (t : TypeId) : FillD w (w.alloc (.cells (madeCells #[z] n) t)) w.heap.size n n f := by
  refine ⟨(Below.refl _ _).alloc (Nat.le_refl _) _, Nat.le_refl _, by simp, fun j hj => ⟨(madeCells #[z] n)[j]'(by rw [size_madeCells]; exact hj), ?_, by omega⟩, fun j => by simp⟩
  rw [World.cell?_alloc_at _ _ _ _ rfl]
  exact Array.getElem?_eq_getElem (by rw [size_madeCells]; exact hj)
theorem FillD.step {w0 w : World} {g n k : Nat} {f : Nat → Int} (h : FillD w0 w g n (k + 1) f) (hk : k < n) {x : Int} (hx : f k = x) : FillD w0 (w.setCell ⟨g, k, none⟩ (.int .i64 x)) g n k f := by
  refine ⟨h.below.setCell h.ge _, h.ge, by rw [World.size_setCell]; exact h.lt, fun j hj => ?_, fun j => by rw [World.frozen?_setCell]; exact h.fz j⟩
  by_cases e : j = k
  · subst e
    obtain ⟨v, hv, -⟩ := h.cells j hj
    exact ⟨_, World.cell?_setCell_same _ _ _ hv, fun _ => by rw [hx]⟩
  · obtain ⟨v, hv, hv'⟩ := h.cells j hj
    refine ⟨v, ?_, fun q => hv' (by omega)⟩
    exact (World.cell?_setCell_other _ ⟨g, k, none⟩ ⟨g, j, none⟩ _ (fun q => e (congrArg Addr.off q).symm)).trans hv

/-- The j-th cell of the window of m, of long cells: the highest digit first. -/
def winAt (s long m j : Nat) : Nat := m / s ^ (long - 1 - j) % s

set_option maxHeartbeats 1600000 in
theorem Window_ref (s long m : Nat) (w : World) (hs2 : 2 ≤ s) (hs4 : s ≤ 4) (hl : long ≤ 4096) (hm : m ≤ 4096) :
    Calls Tryd.prog 52 #[.int .i64 (s : Int), .int .i64 (long : Int), .int .i64 (m : Int)] w fun e w' => e = .returned (.slice (some ⟨w.heap.size, 0, none⟩) long long) ∧ FillD w w' w.heap.size long 0 (fun j => (winAt s long m j : Int)) := by
  have hs0 : ((s : Int) == 0) = false := by simp; omega
  have hs1 : (s : Int) ≠ 0 := by omega
  have hs2' : (2 : Int) ≤ (s : Int) := by omega
  have hs4' : (s : Int) ≤ 4 := by omega
  have hmk := run_make_row' (P := Tryd.prog) 22 3 (.int .i64 0) 8 Tryd.underlying22 info_int rfl .i64 .i64 long (by omega) (by omega)
  have S := hide' (FillD.start w long (fun j => (winAt s long m j : Int)) (.int .i64 0) 3)
  go_enter Tryd.func52, Tryd.ntmps52
  go_wp2
  go_loopw [2, 8] (fun xv iv wr => ∃ k x : Nat, iv = .int .i64 ((k : Int) - 1) ∧ xv = .int .i64 (x : Int) ∧ k ≤ long ∧ x ≤ 4096 ∧ Hid (x = m / s ^ (long - k)) ∧ FillD w wr w.heap.size long k (fun j => (winAt s long m j : Int))) (fun _ iv _ => (intOf iv + 1).toNat)
  case atStart => exact ⟨long, m, rfl, rfl, by omega, hm, hide' (by simp), S.out⟩
  case round =>
    obtain ⟨k, x, rfl, rfl, hk, hx, HX, fk⟩ := hrel
    have FK := hide' fk
    clear hmk S
    by_cases d : (0 : Int) ≤ (k : Int) - 1
    · obtain ⟨i, rfl⟩ : ∃ i, k = i + 1 := ⟨k - 1, by omega⟩
      obtain ⟨v, hv, -⟩ := fk.cells i (by omega)
      have hf := fk.fz i
      have e1 : ((i + 1 : Nat) : Int) - 1 = (i : Int) := by omega
      rw [e1]
      rw [e1] at d
      clear e1 fk
      have q2 : x / s ≤ x := Nat.div_le_self _ _
      have Q2 := hide' q2
      clear q2
      go_wp2
      rw [show ((x : Int) / (s : Int)) = ((x / s : Nat) : Int) by simp, wrapq _ (by have := Q2.out; omega)]
      refine ⟨⟨i, x / s, rfl, rfl, by omega, by have := Q2.out; omega, hide' ?_, FK.out.step (by omega) ?_⟩, ?_⟩
      · rw [HX.out, Nat.div_div_eq_div_mul, ← Nat.pow_succ, show (long - (i + 1)).succ = long - i by omega]
      · show ((winAt s long m i : Nat) : Int) = _
        unfold winAt
        rw [show long - 1 - i = long - (i + 1) by omega, ← HX.out]
        simp
      · simp [intOf]
    · have K := hide' (show k = 0 by omega)
      clear fk
      go_wp2
      go_ret
      refine ⟨rfl, ?_⟩
      have := FK.out
      rw [K.out] at this
      exact this
end Go.Proofs.YtpbcgojfpmpgpaaDoor
