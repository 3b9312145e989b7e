/-
  What the last text of this claim leans on, part 43: Pr17, Pr18, Pr19.
-/
import Derived.Test.YtljdidimoagnhaaDoorJv42
namespace Go.Proofs.YtljdidimoagnhaaDoor
open Go.RowKit
set_option linter.unusedVariables false

set_option maxRecDepth 100000 in
set_option maxHeartbeats 3200000 in
theorem Mirror_bad (o : Out) (a : Option Addr) (n c : Nat) (w : World) (hR : ArgR w o a n c) (hg : ¬ Good o) :
    Calls Tryd.prog 24 #[.agg #[.int .i64 o.kind, .int .i64 o.born, .int .i64 o.stay, .int .i64 o.states, .int .i64 o.radius, .slice a n c, .string o.turns]] w fun e w' => e = .returned (.tuple #[.agg zeroCells, .iface 97 (.int .i64 1)]) ∧ Below w.heap.size w w' := by
  have HR := hide' hR
  have A0 := hide' ((hR.alloc (.cells #[.int .i64 o.kind, .int .i64 o.born, .int .i64 o.stay, .int .i64 o.states, .int .i64 o.radius, .slice a n c, .string o.turns] 24)).alloc (.cells zeroCells 24))
  clear hR
  go_enter Tryd.func24, Tryd.ntmps24
  go_wp2_with fail
  refine (Check_any o a n c _ A0.out).mono ?_
  rintro e w1 ⟨he, b1⟩
  have BW := hide' ((((Below.refl _ _).alloc (Nat.le_refl _) (.cells #[.int .i64 o.kind, .int .i64 o.born, .int .i64 o.stay, .int .i64 o.states, .int .i64 o.radius, .slice a n c, .string o.turns] 24)).alloc (by simp) (.cells zeroCells 24)).trans (b1.mono (by simp; omega)) : Below w.heap.size w w1)
  have x0 := b1.cell (p := ⟨w.heap.size, 0, none⟩) (by simp; omega)
  have y0 := b1.cell (p := ⟨w.heap.size + 1, 0, none⟩) (by simp)
  have y1 := b1.cell (p := ⟨w.heap.size + 1, 1, none⟩) (by simp)
  have y2 := b1.cell (p := ⟨w.heap.size + 1, 2, none⟩) (by simp)
  have y3 := b1.cell (p := ⟨w.heap.size + 1, 3, none⟩) (by simp)
  have y4 := b1.cell (p := ⟨w.heap.size + 1, 4, none⟩) (by simp)
  have y5 := b1.cell (p := ⟨w.heap.size + 1, 5, none⟩) (by simp)
  have y6 := b1.cell (p := ⟨w.heap.size + 1, 6, none⟩) (by simp)
  have f0 := World.frozen?_of_block (a := ⟨w.heap.size + 1, 0, none⟩) (b1.block (w.heap.size + 1) (by simp))
  have f1 := World.frozen?_of_block (a := ⟨w.heap.size + 1, 1, none⟩) (b1.block (w.heap.size + 1) (by simp))
  have f2 := World.frozen?_of_block (a := ⟨w.heap.size + 1, 2, none⟩) (b1.block (w.heap.size + 1) (by simp))
  have f3 := World.frozen?_of_block (a := ⟨w.heap.size + 1, 3, none⟩) (b1.block (w.heap.size + 1) (by simp))
  have f4 := World.frozen?_of_block (a := ⟨w.heap.size + 1, 4, none⟩) (b1.block (w.heap.size + 1) (by simp))
  have f5 := World.frozen?_of_block (a := ⟨w.heap.size + 1, 5, none⟩) (b1.block (w.heap.size + 1) (by simp))
  have f6 := World.frozen?_of_block (a := ⟨w.heap.size + 1, 6, none⟩) (b1.block (w.heap.size + 1) (by simp))
  have hsz := b1.size
  simp [zeroCells] at x0 hsz y0 f0 y1 f1 y2 f2 y3 f3 y4 f4 y5 f5 y6 f6
  clear b1 A0
  rcases he with ⟨rfl, g⟩ | ⟨rfl, g⟩
  case inl => exact absurd g hg
  clear hg g
  go_wp2
  refine bodyPost_ret (v := .tuple #[.agg zeroCells, .iface 97 (.int .i64 1)]) (by simp [results, Tryd.results24, go_sem, zeroCells, y0, y1, y2, y3, y4, y5, y6]) rfl ?_
  exact ⟨rfl, setRule_below BW.out (by simp) _ _ _ _ _ _ _⟩

set_option maxRecDepth 100000 in
set_option maxHeartbeats 3200000 in
theorem Mirror_life (o : Out) (a : Option Addr) (n c : Nat) (w : World) (hR : ArgR w o a n c) (hg : Good o) (hk : o.kind = 1) :
    Calls Tryd.prog 24 #[.agg #[.int .i64 o.kind, .int .i64 o.born, .int .i64 o.stay, .int .i64 o.states, .int .i64 o.radius, .slice a n c, .string o.turns]] w fun e w' => e = .returned (.tuple #[.agg #[.int .i64 1, .int .i64 o.born, .int .i64 o.stay, .int .i64 0, .int .i64 0, .slice none 0 0, .string ⟨#[]⟩], .nilIface]) ∧ Below w.heap.size w w' := by
  have k1 : (o.kind == 1) = true := by simp; omega
  clear hk
  have HR := hide' hR
  have A0 := hide' ((hR.alloc (.cells #[.int .i64 o.kind, .int .i64 o.born, .int .i64 o.stay, .int .i64 o.states, .int .i64 o.radius, .slice a n c, .string o.turns] 24)).alloc (.cells zeroCells 24))
  clear hR
  go_enter Tryd.func24, Tryd.ntmps24
  go_wp2_with fail
  refine (Check_any o a n c _ A0.out).mono ?_
  rintro e w1 ⟨he, b1⟩
  have BW := hide' ((((Below.refl _ _).alloc (Nat.le_refl _) (.cells #[.int .i64 o.kind, .int .i64 o.born, .int .i64 o.stay, .int .i64 o.states, .int .i64 o.radius, .slice a n c, .string o.turns] 24)).alloc (by simp) (.cells zeroCells 24)).trans (b1.mono (by simp; omega)) : Below w.heap.size w w1)
  have x0 := b1.cell (p := ⟨w.heap.size, 0, none⟩) (by simp; omega)
  have x1 := b1.cell (p := ⟨w.heap.size, 1, none⟩) (by simp; omega)
  have x2 := b1.cell (p := ⟨w.heap.size, 2, none⟩) (by simp; omega)
  have y0 := b1.cell (p := ⟨w.heap.size + 1, 0, none⟩) (by simp)
  have y1 := b1.cell (p := ⟨w.heap.size + 1, 1, none⟩) (by simp)
  have y2 := b1.cell (p := ⟨w.heap.size + 1, 2, none⟩) (by simp)
  have y3 := b1.cell (p := ⟨w.heap.size + 1, 3, none⟩) (by simp)
  have y4 := b1.cell (p := ⟨w.heap.size + 1, 4, none⟩) (by simp)
  have y5 := b1.cell (p := ⟨w.heap.size + 1, 5, none⟩) (by simp)
  have y6 := b1.cell (p := ⟨w.heap.size + 1, 6, none⟩) (by simp)
  have f0 := World.frozen?_of_block (a := ⟨w.heap.size + 1, 0, none⟩) (b1.block (w.heap.size + 1) (by simp))
  have f1 := World.frozen?_of_block (a := ⟨w.heap.size + 1, 1, none⟩) (b1.block (w.heap.size + 1) (by simp))
  have f2 := World.frozen?_of_block (a := ⟨w.heap.size + 1, 2, none⟩) (b1.block (w.heap.size + 1) (by simp))
  have f3 := World.frozen?_of_block (a := ⟨w.heap.size + 1, 3, none⟩) (b1.block (w.heap.size + 1) (by simp))
  have f4 := World.frozen?_of_block (a := ⟨w.heap.size + 1, 4, none⟩) (b1.block (w.heap.size + 1) (by simp))
  have f5 := World.frozen?_of_block (a := ⟨w.heap.size + 1, 5, none⟩) (b1.block (w.heap.size + 1) (by simp))
  have f6 := World.frozen?_of_block (a := ⟨w.heap.size + 1, 6, none⟩) (b1.block (w.heap.size + 1) (by simp))
  have hsz := b1.size
  simp [zeroCells] at x0 x1 x2 hsz y0 f0 y1 f1 y2 f2 y3 f3 y4 f4 y5 f5 y6 f6
  clear b1 A0
  rcases he with ⟨rfl, g⟩ | ⟨rfl, g⟩
  case inr => exact absurd hg g
  clear hg g
  go_wp2
  refine bodyPost_ret (v := .tuple #[.agg #[.int .i64 1, .int .i64 o.born, .int .i64 o.stay, .int .i64 0, .int .i64 0, .slice none 0 0, .string ⟨#[]⟩], .nilIface]) (by simp [results, Tryd.results24, go_sem, y0, y1, y2, y3, y4, y5, y6]) rfl ?_
  exact ⟨rfl, setRule_below BW.out (by simp) _ _ _ _ _ _ _⟩

set_option maxRecDepth 100000 in
set_option maxHeartbeats 3200000 in
theorem Mirror_turns (o : Out) (a : Option Addr) (n c : Nat) (w : World) (hR : ArgR w o a n c) (hg : Good o) (hk : o.kind = 3) (ht : o.turns.size ≤ 26) :
    Calls Tryd.prog 24 #[.agg #[.int .i64 o.kind, .int .i64 o.born, .int .i64 o.stay, .int .i64 o.states, .int .i64 o.radius, .slice a n c, .string o.turns]] w fun e w' => e = .returned (.tuple #[.agg #[.int .i64 3, .int .i64 0, .int .i64 0, .int .i64 0, .int .i64 0, .slice none 0 0, .string ⟨((List.range o.turns.size).map (mirU o.turns)).toArray⟩], .nilIface]) ∧ Below w.heap.size w w' := by
  have k1 : (o.kind == 1) = false := by simp; omega
  have k2 : (o.kind == 2) = false := by simp; omega
  clear hk
  have HR := hide' hR
  have A0 := hide' ((hR.alloc (.cells #[.int .i64 o.kind, .int .i64 o.born, .int .i64 o.stay, .int .i64 o.states, .int .i64 o.radius, .slice a n c, .string o.turns] 24)).alloc (.cells zeroCells 24))
  clear hR
  go_enter Tryd.func24, Tryd.ntmps24
  go_wp2_with fail
  refine (Check_any o a n c _ A0.out).mono ?_
  rintro e w1 ⟨he, b1⟩
  have BW := hide' ((((Below.refl _ _).alloc (Nat.le_refl _) (.cells #[.int .i64 o.kind, .int .i64 o.born, .int .i64 o.stay, .int .i64 o.states, .int .i64 o.radius, .slice a n c, .string o.turns] 24)).alloc (by simp) (.cells zeroCells 24)).trans (b1.mono (by simp; omega)) : Below w.heap.size w w1)
  have x0 := b1.cell (p := ⟨w.heap.size, 0, none⟩) (by simp; omega)
  have x6 := b1.cell (p := ⟨w.heap.size, 6, none⟩) (by simp; omega)
  have y0 := b1.cell (p := ⟨w.heap.size + 1, 0, none⟩) (by simp)
  have y1 := b1.cell (p := ⟨w.heap.size + 1, 1, none⟩) (by simp)
  have y2 := b1.cell (p := ⟨w.heap.size + 1, 2, none⟩) (by simp)
  have y3 := b1.cell (p := ⟨w.heap.size + 1, 3, none⟩) (by simp)
  have y4 := b1.cell (p := ⟨w.heap.size + 1, 4, none⟩) (by simp)
  have y5 := b1.cell (p := ⟨w.heap.size + 1, 5, none⟩) (by simp)
  have y6 := b1.cell (p := ⟨w.heap.size + 1, 6, none⟩) (by simp)
  have f0 := World.frozen?_of_block (a := ⟨w.heap.size + 1, 0, none⟩) (b1.block (w.heap.size + 1) (by simp))
  have f1 := World.frozen?_of_block (a := ⟨w.heap.size + 1, 1, none⟩) (b1.block (w.heap.size + 1) (by simp))
  have f2 := World.frozen?_of_block (a := ⟨w.heap.size + 1, 2, none⟩) (b1.block (w.heap.size + 1) (by simp))
  have f3 := World.frozen?_of_block (a := ⟨w.heap.size + 1, 3, none⟩) (b1.block (w.heap.size + 1) (by simp))
  have f4 := World.frozen?_of_block (a := ⟨w.heap.size + 1, 4, none⟩) (b1.block (w.heap.size + 1) (by simp))
  have f5 := World.frozen?_of_block (a := ⟨w.heap.size + 1, 5, none⟩) (b1.block (w.heap.size + 1) (by simp))
  have f6 := World.frozen?_of_block (a := ⟨w.heap.size + 1, 6, none⟩) (b1.block (w.heap.size + 1) (by simp))
  have hsz := b1.size
  simp [zeroCells] at x0 x6 hsz y0 f0 y1 f1 y2 f2 y3 f3 y4 f4 y5 f5 y6 f6
  clear b1 A0
  rcases he with ⟨rfl, g⟩ | ⟨rfl, g⟩
  case inr => exact absurd hg g
  clear hg g
  go_wp2_with fail
  refine (mirrorTurns_any o.turns o.turns.size _ rfl ht).mono ?_
  rintro e w2 ⟨rfl, b2⟩
  have B2 := hide' (BW.out.trans (b2.mono BW.out.size))
  have z0 := (b2.cell (p := ⟨w.heap.size + 1, 0, none⟩) (by simp; omega)).trans y0
  have g0 := (World.frozen?_of_block (a := ⟨w.heap.size + 1, 0, none⟩) (b2.block (w.heap.size + 1) (by omega))).trans f0
  have z1 := (b2.cell (p := ⟨w.heap.size + 1, 1, none⟩) (by simp; omega)).trans y1
  have g1 := (World.frozen?_of_block (a := ⟨w.heap.size + 1, 1, none⟩) (b2.block (w.heap.size + 1) (by omega))).trans f1
  have z2 := (b2.cell (p := ⟨w.heap.size + 1, 2, none⟩) (by simp; omega)).trans y2
  have g2 := (World.frozen?_of_block (a := ⟨w.heap.size + 1, 2, none⟩) (b2.block (w.heap.size + 1) (by omega))).trans f2
  have z3 := (b2.cell (p := ⟨w.heap.size + 1, 3, none⟩) (by simp; omega)).trans y3
  have g3 := (World.frozen?_of_block (a := ⟨w.heap.size + 1, 3, none⟩) (b2.block (w.heap.size + 1) (by omega))).trans f3
  have z4 := (b2.cell (p := ⟨w.heap.size + 1, 4, none⟩) (by simp; omega)).trans y4
  have g4 := (World.frozen?_of_block (a := ⟨w.heap.size + 1, 4, none⟩) (b2.block (w.heap.size + 1) (by omega))).trans f4
  have z5 := (b2.cell (p := ⟨w.heap.size + 1, 5, none⟩) (by simp; omega)).trans y5
  have g5 := (World.frozen?_of_block (a := ⟨w.heap.size + 1, 5, none⟩) (b2.block (w.heap.size + 1) (by omega))).trans f5
  have z6 := (b2.cell (p := ⟨w.heap.size + 1, 6, none⟩) (by simp; omega)).trans y6
  have g6 := (World.frozen?_of_block (a := ⟨w.heap.size + 1, 6, none⟩) (b2.block (w.heap.size + 1) (by omega))).trans f6
  clear b2
  go_wp2
  refine bodyPost_ret (v := .tuple #[.agg #[.int .i64 3, .int .i64 0, .int .i64 0, .int .i64 0, .int .i64 0, .slice none 0 0, .string ⟨((List.range o.turns.size).map (mirU o.turns)).toArray⟩], .nilIface]) (by simp [results, Tryd.results24, go_sem, z0, z1, z2, z3, z4, z5, z6]) rfl ?_
  exact ⟨rfl, setRule_below B2.out (by simp) _ _ _ _ _ _ _⟩

end Go.Proofs.YtljdidimoagnhaaDoor

namespace Go.Proofs.YtljdidimoagnhaaDoor
open Go.RowKit
set_option linter.unusedVariables false

theorem lineP_nat (o : Out) (h : lineP o) : ∃ s r : Nat, o.states = (s : Int) ∧ o.radius = (r : Int) ∧ 2 ≤ s ∧ s ≤ 4 ∧ r ≤ 10 ∧ o.table.length = s ^ (2 * r + 1) ∧ o.table.length ≤ 4096 := by
  obtain ⟨h1, h2, h3, h4, h5, h6⟩ := h
  have := ent_is o.states.toNat o.radius.toNat (by omega) (by omega) h4
  exact ⟨o.states.toNat, o.radius.toNat, by omega, by omega, by omega, by omega, this.2, by rw [h5, this.1], by omega⟩
theorem mirrorTable_o (o : Out) (a : Option Addr) (n c : Nat) (w : World) (hR : ArgR w o a n c) (hl : lineP o) :
    Calls Tryd.prog 85 #[.agg #[.int .i64 o.kind, .int .i64 o.born, .int .i64 o.stay, .int .i64 o.states, .int .i64 o.radius, .slice a n c, .string o.turns]] w fun e w' => e = .returned (.slice (some ⟨w.heap.size + 1, 0, none⟩) n n) ∧ Below w.heap.size w w' ∧ ∀ j, j < n → w'.cell? ⟨w.heap.size + 1, j, none⟩ = some (.int .i64 (mirT o j)) := by
  obtain ⟨s, r, hs, hr, h1, h2, h3, h4, h5⟩ := lineP_nat o hl
  have hn := hR.len
  have H := mirrorTable_any o a n c s r w hR hs hr h1 h2 h3 (by omega) (by omega)
  rw [← hs, ← hr] at H
  exact H

def SM (w : World) (o : Out) (a : Option Addr) (n c : Nat) (w' : World) : Prop := w'.cell? ⟨w.heap.size, 0, none⟩ = some (.int .i64 o.kind) ∧ w'.cell? ⟨w.heap.size, 1, none⟩ = some (.int .i64 o.born) ∧ w'.cell? ⟨w.heap.size, 2, none⟩ = some (.int .i64 o.stay) ∧ w'.cell? ⟨w.heap.size, 3, none⟩ = some (.int .i64 o.states) ∧ w'.cell? ⟨w.heap.size, 4, none⟩ = some (.int .i64 o.radius) ∧ w'.cell? ⟨w.heap.size, 5, none⟩ = some (.slice a n c) ∧ w'.cell? ⟨w.heap.size, 6, none⟩ = some (.string o.turns) ∧ Hid (w.heap.size + 2 ≤ w'.heap.size ∧ Below w.heap.size w w')
theorem SM.block {w w1 w2 : World} {o : Out} {a : Option Addr} {n c : Nat} (h : SM w o a n c w1) (e : w2.heap[w.heap.size]? = w1.heap[w.heap.size]?) (hz : w.heap.size + 2 ≤ w2.heap.size) (hb : Below w.heap.size w w2) : SM w o a n c w2 := by
  obtain ⟨h0, h1, h2, h3, h4, h5, h6, h7⟩ := h
  obtain ⟨c0, c1, c2, c3, c4, c5, c6⟩ := Seven.block (g := w.heap.size) ⟨h0, h1, h2, h3, h4, h5, h6⟩ e
  exact ⟨c0, c1, c2, c3, c4, c5, c6, hide' ⟨hz, hb⟩⟩
theorem SM.next {w w1 w2 : World} {o : Out} {a : Option Addr} {n c : Nat} (h : SM w o a n c w1) (hb : Below w1.heap.size w1 w2) : SM w o a n c w2 := by
  have h7 := h.2.2.2.2.2.2.2.out
  exact h.block (hb.block _ (by omega)) (Nat.le_trans h7.1 hb.size) (h7.2.trans (hb.mono h7.2.size))
theorem SM.stored {w w1 : World} {o : Out} {a : Option Addr} {n c : Nat} (h : SM w o a n c w1) (v0 v1 v2 v3 v4 v5 v6 : Value) : SM w o a n c (setRule w1 (w.heap.size + 1) v0 v1 v2 v3 v4 v5 v6) := by
  have h7 := h.2.2.2.2.2.2.2.out
  exact h.block (setRule_block _ _ _ _ _ _ _ _ _ _ (by omega)) (by rw [setRule_size]; exact h7.1) (setRule_below h7.2 (by omega) _ _ _ _ _ _ _)

set_option maxRecDepth 100000 in
set_option maxHeartbeats 3200000 in
theorem Mirror_line (o : Out) (a : Option Addr) (n c : Nat) (w : World) (hR : ArgR w o a n c) (hg : Good o) (hk : o.kind = 2) (hl : lineP o) :
    Calls Tryd.prog 24 #[.agg #[.int .i64 o.kind, .int .i64 o.born, .int .i64 o.stay, .int .i64 o.states, .int .i64 o.radius, .slice a n c, .string o.turns]] w fun e w' => (∃ g, e = .returned (.tuple #[.agg #[.int .i64 2, .int .i64 0, .int .i64 0, .int .i64 o.states, .int .i64 o.radius, .slice (some ⟨g, 0, none⟩) n n, .string ⟨#[]⟩], .nilIface]) ∧ w.heap.size ≤ g ∧ ∀ j, j < n → w'.cell? ⟨g, j, none⟩ = some (.int .i64 (mirT o j))) ∧ Below w.heap.size w w' := by
  have k1 : (o.kind == 1) = false := by simp; omega
  have k2 : (o.kind == 2) = true := by simp; omega
  have HK := hide' hl
  clear hk hl
  have HR := hide' hR
  have A0 := hide' ((hR.alloc (.cells #[.int .i64 o.kind, .int .i64 o.born, .int .i64 o.stay, .int .i64 o.states, .int .i64 o.radius, .slice a n c, .string o.turns] 24)).alloc (.cells zeroCells 24))
  clear hR
  go_enter Tryd.func24, Tryd.ntmps24
  go_wp2_with fail
  refine (Check_any o a n c _ A0.out).mono ?_
  rintro e w1 ⟨he, b1⟩
  have BW := hide' ((((Below.refl _ _).alloc (Nat.le_refl _) (.cells #[.int .i64 o.kind, .int .i64 o.born, .int .i64 o.stay, .int .i64 o.states, .int .i64 o.radius, .slice a n c, .string o.turns] 24)).alloc (by simp) (.cells zeroCells 24)).trans (b1.mono (by simp; omega)) : Below w.heap.size w w1)
  have x0 := b1.cell (p := ⟨w.heap.size, 0, none⟩) (by simp; omega)
  have x1 := b1.cell (p := ⟨w.heap.size, 1, none⟩) (by simp; omega)
  have x2 := b1.cell (p := ⟨w.heap.size, 2, none⟩) (by simp; omega)
  have x3 := b1.cell (p := ⟨w.heap.size, 3, none⟩) (by simp; omega)
  have x4 := b1.cell (p := ⟨w.heap.size, 4, none⟩) (by simp; omega)
  have x5 := b1.cell (p := ⟨w.heap.size, 5, none⟩) (by simp; omega)
  have x6 := b1.cell (p := ⟨w.heap.size, 6, none⟩) (by simp; omega)
  have y0 := b1.cell (p := ⟨w.heap.size + 1, 0, none⟩) (by simp)
  have y1 := b1.cell (p := ⟨w.heap.size + 1, 1, none⟩) (by simp)
  have y2 := b1.cell (p := ⟨w.heap.size + 1, 2, none⟩) (by simp)
  have y3 := b1.cell (p := ⟨w.heap.size + 1, 3, none⟩) (by simp)
  have y4 := b1.cell (p := ⟨w.heap.size + 1, 4, none⟩) (by simp)
  have y5 := b1.cell (p := ⟨w.heap.size + 1, 5, none⟩) (by simp)
  have y6 := b1.cell (p := ⟨w.heap.size + 1, 6, none⟩) (by simp)
  have f0 := World.frozen?_of_block (a := ⟨w.heap.size + 1, 0, none⟩) (b1.block (w.heap.size + 1) (by simp))
  have f1 := World.frozen?_of_block (a := ⟨w.heap.size + 1, 1, none⟩) (b1.block (w.heap.size + 1) (by simp))
  have f2 := World.frozen?_of_block (a := ⟨w.heap.size + 1, 2, none⟩) (b1.block (w.heap.size + 1) (by simp))
  have f3 := World.frozen?_of_block (a := ⟨w.heap.size + 1, 3, none⟩) (b1.block (w.heap.size + 1) (by simp))
  have f4 := World.frozen?_of_block (a := ⟨w.heap.size + 1, 4, none⟩) (b1.block (w.heap.size + 1) (by simp))
  have f5 := World.frozen?_of_block (a := ⟨w.heap.size + 1, 5, none⟩) (b1.block (w.heap.size + 1) (by simp))
  have f6 := World.frozen?_of_block (a := ⟨w.heap.size + 1, 6, none⟩) (b1.block (w.heap.size + 1) (by simp))
  have hsz := b1.size
  simp [zeroCells] at x0 x1 x2 x3 x4 x5 x6 hsz y0 f0 y1 f1 y2 f2 y3 f3 y4 f4 y5 f5 y6 f6
  clear b1 A0
  rcases he with ⟨rfl, g⟩ | ⟨rfl, g⟩
  case inr => exact absurd hg g
  clear hg g
  have S0 := hide' (show SM w o a n c w1.drew from ⟨x0, x1, x2, x3, x4, x5, x6, hide' ⟨by simpa using hsz, BW.out.drew⟩⟩)
  go_upto_region 8 with fail
  go_region_held3 (fun w' => w'.cell? ⟨w.heap.size, 0, none⟩ = some (.int .i64 o.kind) ∧ w'.cell? ⟨w.heap.size, 1, none⟩ = some (.int .i64 o.born) ∧ w'.cell? ⟨w.heap.size, 2, none⟩ = some (.int .i64 o.stay) ∧ w'.cell? ⟨w.heap.size, 3, none⟩ = some (.int .i64 o.states) ∧ w'.cell? ⟨w.heap.size, 4, none⟩ = some (.int .i64 o.radius) ∧ w'.cell? ⟨w.heap.size, 5, none⟩ = some (.slice a n c) ∧ w'.cell? ⟨w.heap.size, 6, none⟩ = some (.string o.turns) ∧ Hid (w.heap.size + 2 ≤ w'.heap.size ∧ Below w.heap.size w w'))
    (first | (show SM w o a n c _; with_reducible exact S0.out) | (show SM w o a n c _; with_reducible exact SM.next S0.out B2.out) | (show SM w o a n c _; exact SM.stored (SM.next S0.out B2.out) _ _ _ _ _ _ _))
    (first
      | (go_at_call 85; refine (mirrorTable_o o a n c _ (HR.out.below BW.out.drew) HK.out).mono ?_; rintro e w2 ⟨rfl, b2, ht⟩; have B2 := hide' b2; have TT := hide' ht; clear ht
         have z0 := (b2.cell (p := ⟨w.heap.size + 1, 0, none⟩) (by simp; omega)).trans y0
         have g0 := (World.frozen?_of_block (a := ⟨w.heap.size + 1, 0, none⟩) (b2.block (w.heap.size + 1) (by simp; omega))).trans f0
         have z1 := (b2.cell (p := ⟨w.heap.size + 1, 1, none⟩) (by simp; omega)).trans y1
         have g1 := (World.frozen?_of_block (a := ⟨w.heap.size + 1, 1, none⟩) (b2.block (w.heap.size + 1) (by simp; omega))).trans f1
         have z2 := (b2.cell (p := ⟨w.heap.size + 1, 2, none⟩) (by simp; omega)).trans y2
         have g2 := (World.frozen?_of_block (a := ⟨w.heap.size + 1, 2, none⟩) (b2.block (w.heap.size + 1) (by simp; omega))).trans f2
         have z3 := (b2.cell (p := ⟨w.heap.size + 1, 3, none⟩) (by simp; omega)).trans y3
         have g3 := (World.frozen?_of_block (a := ⟨w.heap.size + 1, 3, none⟩) (b2.block (w.heap.size + 1) (by simp; omega))).trans f3
         have z4 := (b2.cell (p := ⟨w.heap.size + 1, 4, none⟩) (by simp; omega)).trans y4
         have g4 := (World.frozen?_of_block (a := ⟨w.heap.size + 1, 4, none⟩) (b2.block (w.heap.size + 1) (by simp; omega))).trans f4
         have z5 := (b2.cell (p := ⟨w.heap.size + 1, 5, none⟩) (by simp; omega)).trans y5
         have g5 := (World.frozen?_of_block (a := ⟨w.heap.size + 1, 5, none⟩) (b2.block (w.heap.size + 1) (by simp; omega))).trans f5
         have z6 := (b2.cell (p := ⟨w.heap.size + 1, 6, none⟩) (by simp; omega)).trans y6
         have g6 := (World.frozen?_of_block (a := ⟨w.heap.size + 1, 6, none⟩) (b2.block (w.heap.size + 1) (by simp; omega))).trans f6
         clear b2))
  go_wp2
  refine bodyPost_ret (v := .tuple #[.agg #[.int .i64 2, .int .i64 0, .int .i64 0, .int .i64 o.states, .int .i64 o.radius, .slice (some ⟨w1.heap.size + 1, 0, none⟩) n n, .string ⟨#[]⟩], .nilIface]) (by simp [results, Tryd.results24, go_sem, z0, z1, z2, z3, z4, z5, z6]) rfl ?_
  refine ⟨⟨w1.heap.size + 1, rfl, by omega, fun j hj => ?_⟩, (SM.stored (SM.next S0.out B2.out) _ _ _ _ _ _ _).2.2.2.2.2.2.2.out.2⟩
  exact (World.cell?_of_block (w := w2) (a := ⟨w1.heap.size + 1, j, none⟩) (setRule_block w2 (w.heap.size + 1) (w1.heap.size + 1) _ _ _ _ _ _ _ (by omega))).trans (TT.out j hj)

end Go.Proofs.YtljdidimoagnhaaDoor

namespace Go.Proofs.YtljdidimoagnhaaDoor
open Go.RowKit
set_option linter.unusedVariables false

theorem cell_block_lt {w : World} {a : Addr} {v : Value} (h : w.cell? a = some v) : a.block < w.heap.size := by
  rcases Nat.lt_or_ge a.block w.heap.size with q | q
  · exact q
  · have e : w.heap[a.block]? = none := Array.getElem?_eq_none q
    simp only [World.cell?, e] at h
    cases h
/-- A list of ints reads so, from its start on. -/
def Reads0 (w : World) (a : Option Addr) (xs : List Int) : Prop := ∀ k (h : k < xs.length), ∃ g, a = some ⟨g, 0, none⟩ ∧ w.cell? ⟨g, k, none⟩ = some (.int .i64 xs[k])
theorem Reads0.below {w w' : World} {a : Option Addr} {xs : List Int} (h : Reads0 w a xs) (hb : Below w.heap.size w w') : Reads0 w' a xs := fun k hk => by
  obtain ⟨g, e, hc⟩ := h k hk
  exact ⟨g, e, (World.cell?_of_block (w := w) (a := ⟨g, k, none⟩) (hb.block g (cell_block_lt hc))).trans hc⟩
theorem Reads0.nil (w : World) (a : Option Addr) : Reads0 w a [] := fun k hk => by simp at hk

set_option maxHeartbeats 800000 in
theorem Same_any (o : Out) (a b : Option Addr) (n ca cb : Nat) (w : World) (hn : n = o.table.length) (hm : n ≤ maxLen) (ha : Reads0 w a o.table) (hb : Reads0 w b o.table) :
    Calls Tryd.prog 18 #[.agg #[.int .i64 o.kind, .int .i64 o.born, .int .i64 o.stay, .int .i64 o.states, .int .i64 o.radius, .slice a n ca, .string o.turns], .agg #[.int .i64 o.kind, .int .i64 o.born, .int .i64 o.stay, .int .i64 o.states, .int .i64 o.radius, .slice b n cb, .string o.turns]] w fun e w' => e = .returned (.bool true) ∧ Below w.heap.size w w' := by
  have B := hide' (((Below.refl w.heap.size w).alloc (Nat.le_refl _) (.cells #[.int .i64 o.kind, .int .i64 o.born, .int .i64 o.stay, .int .i64 o.states, .int .i64 o.radius, .slice a n ca, .string o.turns] 24)).alloc (by simp) (.cells #[.int .i64 o.kind, .int .i64 o.born, .int .i64 o.stay, .int .i64 o.states, .int .i64 o.radius, .slice b n cb, .string o.turns] 24))
  have HI := hide' (Ints_two o.table a b n ca cb _ hn hm (ha.below B.out) (hb.below B.out))
  clear hn ha hb
  go_enter Tryd.func18, Tryd.ntmps18
  go_wp2_with fail
  refine HI.out.mono ?_
  rintro e w1 ⟨rfl, m, rfl⟩
  go_wp2
  go_ret
  exact ⟨rfl, below_drewN B.out m⟩

/-- At block g a list of n ints of the call's own, the cells from k on are f's. -/
structure FillD (w0 w : World) (g n k : Nat) (f : Nat → Int) : Prop where
  below : Below w0.heap.size w0 w
  ge : w0.heap.size ≤ g
  lt : g < w.heap.size
  cells : ∀ j, j < n → ∃ v, w.cell? ⟨g, j, none⟩ = some v ∧ (k ≤ j → v = .int .i64 (f j))
  fz : ∀ j, w.frozen? ⟨g, j, none⟩ = false
theorem FillD.start (w : World) (n : Nat) (f : Nat → Int) (z : Value) (t : TypeId) : FillD w (w.alloc (.cells (madeCells #[z] n) t)) w.heap.size n n f := by
  refine ⟨(Below.refl _ _).alloc (Nat.le_refl _) _, Nat.le_refl _, by simp, fun j hj => ⟨(madeCells #[z] n)[j]'(by rw [size_madeCells]; exact hj), ?_, by omega⟩, fun j => by simp⟩
  rw [World.cell?_alloc_at _ _ _ _ rfl]
  exact Array.getElem?_eq_getElem (by rw [size_madeCells]; exact hj)
theorem FillD.step {w0 w : World} {g n k : Nat} {f : Nat → Int} (h : FillD w0 w g n (k + 1) f) (hk : k < n) {x : Int} (hx : f k = x) : FillD w0 (w.setCell ⟨g, k, none⟩ (.int .i64 x)) g n k f := by
  refine ⟨h.below.setCell h.ge _, h.ge, by rw [World.size_setCell]; exact h.lt, fun j hj => ?_, fun j => by rw [World.frozen?_setCell]; exact h.fz j⟩
  by_cases e : j = k
  · subst e
    obtain ⟨v, hv, -⟩ := h.cells j hj
    exact ⟨_, World.cell?_setCell_same _ _ _ hv, fun _ => by rw [hx]⟩
  · obtain ⟨v, hv, hv'⟩ := h.cells j hj
    refine ⟨v, ?_, fun q => hv' (by omega)⟩
    exact (World.cell?_setCell_other _ ⟨g, k, none⟩ ⟨g, j, none⟩ _ (fun q => e (congrArg Addr.off q).symm)).trans hv

/-- The j-th cell of the window of m, of long cells: the highest digit first. -/
def winAt (s long m j : Nat) : Nat := m / s ^ (long - 1 - j) % s

set_option maxHeartbeats 1600000 in
theorem Window_ref (s long m : Nat) (w : World) (hs2 : 2 ≤ s) (hs4 : s ≤ 4) (hl : long ≤ 4096) (hm : m ≤ 4096) :
    Calls Tryd.prog 87 #[.int .i64 (s : Int), .int .i64 (long : Int), .int .i64 (m : Int)] w fun e w' => e = .returned (.slice (some ⟨w.heap.size, 0, none⟩) long long) ∧ FillD w w' w.heap.size long 0 (fun j => (winAt s long m j : Int)) := by
  have hs0 : ((s : Int) == 0) = false := by simp; omega
  have hs1 : (s : Int) ≠ 0 := by omega
  have hs2' : (2 : Int) ≤ (s : Int) := by omega
  have hs4' : (s : Int) ≤ 4 := by omega
  have hmk := run_make_row' (P := Tryd.prog) 22 3 (.int .i64 0) 8 Tryd.underlying22 info_int rfl .i64 .i64 long (by omega) (by omega)
  have S := hide' (FillD.start w long (fun j => (winAt s long m j : Int)) (.int .i64 0) 3)
  go_enter Tryd.func87, Tryd.ntmps87
  go_wp2
  go_loopw [2, 8] (fun xv iv wr => ∃ k x : Nat, iv = .int .i64 ((k : Int) - 1) ∧ xv = .int .i64 (x : Int) ∧ k ≤ long ∧ x ≤ 4096 ∧ Hid (x = m / s ^ (long - k)) ∧ FillD w wr w.heap.size long k (fun j => (winAt s long m j : Int))) (fun _ iv _ => (intOf iv + 1).toNat)
  case atStart => exact ⟨long, m, rfl, rfl, by omega, hm, hide' (by simp), S.out⟩
  case round =>
    obtain ⟨k, x, rfl, rfl, hk, hx, HX, fk⟩ := hrel
    have FK := hide' fk
    clear hmk S
    by_cases d : (0 : Int) ≤ (k : Int) - 1
    · obtain ⟨i, rfl⟩ : ∃ i, k = i + 1 := ⟨k - 1, by omega⟩
      obtain ⟨v, hv, -⟩ := fk.cells i (by omega)
      have hf := fk.fz i
      have e1 : ((i + 1 : Nat) : Int) - 1 = (i : Int) := by omega
      rw [e1]
      rw [e1] at d
      clear e1 fk
      have q2 : x / s ≤ x := Nat.div_le_self _ _
      have Q2 := hide' q2
      clear q2
      go_wp2
      rw [show ((x : Int) / (s : Int)) = ((x / s : Nat) : Int) by simp, wrapq _ (by have := Q2.out; omega)]
      refine ⟨⟨i, x / s, rfl, rfl, by omega, by have := Q2.out; omega, hide' ?_, FK.out.step (by omega) ?_⟩, ?_⟩
      · rw [HX.out, Nat.div_div_eq_div_mul, ← Nat.pow_succ, show (long - (i + 1)).succ = long - i by omega]
      · show ((winAt s long m i : Nat) : Int) = _
        unfold winAt
        rw [show long - 1 - i = long - (i + 1) by omega, ← HX.out]
        simp
      · simp [intOf]
    · have K := hide' (show k = 0 by omega)
      clear fk
      go_wp2
      go_ret
      refine ⟨rfl, ?_⟩
      have := FK.out
      rw [K.out] at this
      exact this
end Go.Proofs.YtljdidimoagnhaaDoor

