/-
  rules.Mirror at a line rule.
-/
import Derived.Test.YtpbcgojfpmpgpaaDoorPr17
namespace Go.Proofs.YtpbcgojfpmpgpaaDoor
open Go.RowKit
set_option linter.unusedVariables false

theorem lineP_nat (o : Out) (h : lineP o) : ∃ s r : Nat, o.states = (s : Int) ∧ o.radius = (r : Int) ∧ 2 ≤ s ∧ s ≤ 4 ∧ r ≤ 10 ∧ o.table.length = s ^ (2 * r + 1) ∧ o.table.length ≤ 4096 := by
  obtain ⟨h1, h2, h3, h4, h5, h6⟩ := h
  have := ent_is o.states.toNat o.radius.toNat (by omega) (by omega) h4
  exact ⟨o.states.toNat, o.radius.toNat, by omega, by omega, by omega, by omega, this.2, by rw [h5, this.1], by omega⟩
theorem mirrorTable_o (o : Out) (a : Option Addr) (n c : Nat) (w : World) (hR : ArgR w o a n c) (hl : lineP o) :
    Calls Tryd.prog 50 #[.agg #[.int .i64 o.kind, .int .i64 o.born, .int .i64 o.stay, .int .i64 o.states, .int .i64 o.radius, .slice a n c, .string o.turns]] w fun e w' => e = .returned (.slice (some ⟨w.heap.size + 1, 0, none⟩) n n) ∧ Below w.heap.size w w' ∧ ∀ j, j < n → w'.cell? ⟨w.heap.size + 1, j, none⟩ = some (.int .i64 (mirT o j)) := by
  obtain ⟨s, r, hs, hr, h1, h2, h3, h4, h5⟩ := lineP_nat o hl
  have hn := hR.len
  have H := mirrorTable_any o a n c s r w hR hs hr h1 h2 h3 (by omega) (by omega)
  rw [← hs, ← hr] at H
  exact H

def SM (w : World) (o : Out) (a : Option Addr) (n c : Nat) (w' : World) : Prop := w'.cell? ⟨w.heap.size, 0, none⟩ = some (.int .i64 o.kind) ∧ w'.cell? ⟨w.heap.size, 1, none⟩ = some (.int .i64 o.born) ∧ w'.cell? ⟨w.heap.size, 2, none⟩ = some (.int .i64 o.stay) ∧ w'.cell? ⟨w.heap.size, 3, none⟩ = some (.int .i64 o.states) ∧ w'.cell? ⟨w.heap.size, 4, none⟩ = some (.int .i64 o.radius) ∧ w'.cell? ⟨w.heap.size, 5, none⟩ = some (.slice a n c) ∧ w'.cell? ⟨w.heap.size, 6, none⟩ = some (.string o.turns) ∧ Hid (w.heap.size + 2 ≤ w'.heap.size ∧ Below w.heap.size w w')
theorem SM.block {w w1 w2 : World} {o : Out} {a : Option Addr} {n c : Nat} (h : SM w o a n c w1) (e : w2.heap[w.heap.size]? = w1.heap[w.heap.size]?) (hz : w.heap.size + 2 ≤ w2.heap.size) (hb : Below w.heap.size w w2) : SM w o a n c w2 := by
  obtain ⟨h0, h1, h2, h3, h4, h5, h6, h7⟩ := h
  obtain ⟨c0, c1, c2, c3, c4, c5, c6⟩ := Seven.block (g := w.heap.size) ⟨h0, h1, h2, h3, h4, h5, h6⟩ e
  exact ⟨c0, c1, c2, c3, c4, c5, c6, hide' ⟨hz, hb⟩⟩
theorem SM.next {w w1 w2 : World} {o : Out} {a : Option Addr} {n c : Nat} (h : SM w o a n c w1) (hb : Below w1.heap.size w1 w2) : SM w o a n c w2 := by
  have h7 := h.2.2.2.2.2.2.2.out
  exact h.block (hb.block _ (by omega)) (Nat.le_trans h7.1 hb.size) (h7.2.trans (hb.mono h7.2.size))
theorem SM.stored {w w1 : World} {o : Out} {a : Option Addr} {n c : Nat} (h : SM w o a n c w1) (v0 v1 v2 v3 v4 v5 v6 : Value) : SM w o a n c (setRule w1 (w.heap.size + 1) v0 v1 v2 v3 v4 v5 v6) := by
  have h7 := h.2.2.2.2.2.2.2.out
  exact h.block (setRule_block _ _ _ _ _ _ _ _ _ _ (by omega)) (by rw [setRule_size]; exact h7.1) (setRule_below h7.2 (by omega) _ _ _ _ _ _ _)

set_option maxRecDepth 100000 in
set_option maxHeartbeats 3200000 in
theorem Mirror_line (o : Out) (a : Option Addr) (n c : Nat) (w : World) (hR : ArgR w o a n c) (hg : Good o) (hk : o.kind = 2) (hl : lineP o) :
    Calls Tryd.prog 16 #[.agg #[.int .i64 o.kind, .int .i64 o.born, .int .i64 o.stay, .int .i64 o.states, .int .i64 o.radius, .slice a n c, .string o.turns]] w fun e w' => (∃ g, e = .returned (.tuple #[.agg #[.int .i64 2, .int .i64 0, .int .i64 0, .int .i64 o.states, .int .i64 o.radius, .slice (some ⟨g, 0, none⟩) n n, .string ⟨#[]⟩], .nilIface]) ∧ w.heap.size ≤ g ∧ ∀ j, j < n → w'.cell? ⟨g, j, none⟩ = some (.int .i64 (mirT o j))) ∧ Below w.heap.size w w' := by
  have k1 : (o.kind == 1) = false := by simp; omega
  have k2 : (o.kind == 2) = true := by simp; omega
  have HK := hide' hl
  clear hk hl
  have HR := hide' hR
  have A0 := hide' ((hR.alloc (.cells #[.int .i64 o.kind, .int .i64 o.born, .int .i64 o.stay, .int .i64 o.states, .int .i64 o.radius, .slice a n c, .string o.turns] 24)).alloc (.cells zeroCells 24))
  clear hR
  go_enter Tryd.func16, Tryd.ntmps16
  go_wp2_with fail
  refine (Check_any o a n c _ A0.out).mono ?_
  rintro e w1 ⟨he, b1⟩
  have BW := hide' ((((Below.refl _ _).alloc (Nat.le_refl _) (.cells #[.int .i64 o.kind, .int .i64 o.born, .int .i64 o.stay, .int .i64 o.states, .int .i64 o.radius, .slice a n c, .string o.turns] 24)).alloc (by simp) (.cells zeroCells 24)).trans (b1.mono (by simp; omega)) : Below w.heap.size w w1)
  have x0 := b1.cell (p := ⟨w.heap.size, 0, none⟩) (by simp; omega)
  have x1 := b1.cell (p := ⟨w.heap.size, 1, none⟩) (by simp; omega)
  have x2 := b1.cell (p := ⟨w.heap.size, 2, none⟩) (by simp; omega)
  have x3 := b1.cell (p := ⟨w.heap.size, 3, none⟩) (by simp; omega)
  have x4 := b1.cell (p := ⟨w.heap.size, 4, none⟩) (by simp; omega)
  have x5 := b1.cell (p := ⟨w.heap.size, 5, none⟩) (by simp; omega)
  have x6 := b1.cell (p := ⟨w.heap.size, 6, none⟩) (by simp; omega)
  have y0 := b1.cell (p := ⟨w.heap.size + 1, 0, none⟩) (by simp)
  have y1 := b1.cell (p := ⟨w.heap.size + 1, 1, none⟩) (by simp)
  have y2 := b1.cell (p := ⟨w.heap.size + 1, 2, none⟩) (by simp)
  have y3 := b1.cell (p := ⟨w.heap.size + 1, 3, none⟩) (by simp)
  have y4 := b1.cell (p := ⟨w.heap.size + 1, 4, none⟩) (by simp)
  have y5 := b1.cell (p := ⟨w.heap.size + 1, 5, none⟩) (by simp)
  have y6 := b1.cell (p := ⟨w.heap.size + 1, 6, none⟩) (by simp)
  have f0 := World.frozen?_of_block (a := ⟨w.heap.size + 1, 0, none⟩) (b1.block (w.heap.size + 1) (by simp))
  have f1 := World.frozen?_of_block (a := ⟨w.heap.size + 1, 1, none⟩) (b1.block (w.heap.size + 1) (by simp))
  have f2 := World.frozen?_of_block (a := ⟨w.heap.size + 1, 2, none⟩) (b1.block (w.heap.size + 1) (by simp))
  have f3 := World.frozen?_of_block (a := ⟨w.heap.size + 1, 3, none⟩) (b1.block (w.heap.size + 1) (by simp))
  have f4 := World.frozen?_of_block (a := ⟨w.heap.size + 1, 4, none⟩) (b1.block (w.heap.size + 1) (by simp))
  have f5 := World.frozen?_of_block (a := ⟨w.heap.size + 1, 5, none⟩) (b1.block (w.heap.size + 1) (by simp))
  have f6 := World.frozen?_of_block (a := ⟨w.heap.size + 1, 6, none⟩) (b1.block (w.heap.size + 1) (by simp))
  have hsz := b1.size
  simp [zeroCells] at x0 x1 x2 x3 x4 x5 x6 hsz y0 f0 y1 f1 y2 f2 y3 f3 y4 f4 y5 f5 y6 f6
  clear b1 A0
  rcases he with ⟨rfl, g⟩ | ⟨rfl, g⟩
  case inr => exact absurd hg g
  clear hg g
  have S0 := hide' (show SM w o a n c w1.drew from ⟨x0, x1, x2, x3, x4, x5, x6, hide' ⟨by simpa using hsz, BW.out.drew⟩⟩)
  go_upto_region 8 with fail
  go_region_held3 (fun w' => w'.cell? ⟨w.heap.size, 0, none⟩ = some (.int .i64 o.kind) ∧ w'.cell? ⟨w.heap.size, 1, none⟩ = some (.int .i64 o.born) ∧ w'.cell? ⟨w.heap.size, 2, none⟩ = some (.int .i64 o.stay) ∧ w'.cell? ⟨w.heap.size, 3, none⟩ = some (.int .i64 o.states) ∧ w'.cell? ⟨w.heap.size, 4, none⟩ = some (.int .i64 o.radius) ∧ w'.cell? ⟨w.heap.size, 5, none⟩ = some (.slice a n c) ∧ w'.cell? ⟨w.heap.size, 6, none⟩ = some (.string o.turns) ∧ Hid (w.heap.size + 2 ≤ w'.heap.size ∧ Below w.heap.size w w'))
    (first | (show SM w o a n c _; with_reducible exact S0.out) | (show SM w o a n c _; with_reducible exact SM.next S0.out B2.out) | (show SM w o a n c _; exact SM.stored (SM.next S0.out B2.out) _ _ _ _ _ _ _))
    (first
      | (go_at_call 50; refine (mirrorTable_o o a n c _ (HR.out.below BW.out.drew) HK.out).mono ?_; rintro e w2 ⟨rfl, b2, ht⟩; have B2 := hide' b2; have TT := hide' ht; clear ht
         have z0 := (b2.cell (p := ⟨w.heap.size + 1, 0, none⟩) (by simp; omega)).trans y0
         have g0 := (World.frozen?_of_block (a := ⟨w.heap.size + 1, 0, none⟩) (b2.block (w.heap.size + 1) (by simp; omega))).trans f0
         have z1 := (b2.cell (p := ⟨w.heap.size + 1, 1, none⟩) (by simp; omega)).trans y1
         have g1 := (World.frozen?_of_block (a := ⟨w.heap.size + 1, 1, none⟩) (b2.block (w.heap.size + 1) (by simp; omega))).trans f1
         have z2 := (b2.cell (p := ⟨w.heap.size + 1, 2, none⟩) (by simp; omega)).trans y2
         have g2 := (World.frozen?_of_block (a := ⟨w.heap.size + 1, 2, none⟩) (b2.block (w.heap.size + 1) (by simp; omega))).trans f2
         have z3 := (b2.cell (p := ⟨w.heap.size + 1, 3, none⟩) (by simp; omega)).trans y3
         have g3 := (World.frozen?_of_block (a := ⟨w.heap.size + 1, 3, none⟩) (b2.block (w.heap.size + 1) (by simp; omega))).trans f3
         have z4 := (b2.cell (p := ⟨w.heap.size + 1, 4, none⟩) (by simp; omega)).trans y4
         have g4 := (World.frozen?_of_block (a := ⟨w.heap.size + 1, 4, none⟩) (b2.block (w.heap.size + 1) (by simp; omega))).trans f4
         have z5 := (b2.cell (p := ⟨w.heap.size + 1, 5, none⟩) (by simp; omega)).trans y5
         have g5 := (World.frozen?_of_block (a := ⟨w.heap.size + 1, 5, none⟩) (b2.block (w.heap.size + 1) (by simp; omega))).trans f5
         have z6 := (b2.cell (p := ⟨w.heap.size + 1, 6, none⟩) (by simp; omega)).trans y6
         have g6 := (World.frozen?_of_block (a := ⟨w.heap.size + 1, 6, none⟩) (b2.block (w.heap.size + 1) (by simp; omega))).trans f6
         clear b2))
  go_wp2
  refine bodyPost_ret (v := .tuple #[.agg #[.int .i64 2, .int .i64 0, .int .i64 0, .int .i64 o.states, .int .i64 o.radius, .slice (some ⟨w1.heap.size + 1, 0, none⟩) n n, .string ⟨#[]⟩], .nilIface]) (by simp [results, Tryd.results16, go_sem, z0, z1, z2, z3, z4, z5, z6]) rfl ?_
  refine ⟨⟨w1.heap.size + 1, rfl, by omega, fun j hj => ?_⟩, (SM.stored (SM.next S0.out B2.out) _ _ _ _ _ _ _).2.2.2.2.2.2.2.out.2⟩
  exact (World.cell?_of_block (w := w2) (a := ⟨w1.heap.size + 1, j, none⟩) (setRule_block w2 (w.heap.size + 1) (w1.heap.size + 1) _ _ _ _ _ _ _ (by omega))).trans (TT.out j hj)

end Go.Proofs.YtpbcgojfpmpgpaaDoor
