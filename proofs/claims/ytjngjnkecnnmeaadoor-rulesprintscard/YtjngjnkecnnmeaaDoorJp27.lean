/-
  What the last text of this claim leans on, part 27: Pr17.
-/
import Derived.Test.YtjngjnkecnnmeaaDoorJp26
namespace Go.Proofs.YtjngjnkecnnmeaaDoor
open Go.RowKit
set_option linter.unusedVariables false

set_option maxRecDepth 100000 in
set_option maxHeartbeats 3200000 in
theorem Mirror_bad (o : Out) (a : Option Addr) (n c : Nat) (w : World) (hR : ArgR w o a n c) (hg : ¬ Good o) :
    Calls Tryd.prog 20 #[.agg #[.int .i64 o.kind, .int .i64 o.born, .int .i64 o.stay, .int .i64 o.states, .int .i64 o.radius, .slice a n c, .string o.turns]] w fun e w' => e = .returned (.tuple #[.agg zeroCells, .iface 87 (.int .i64 1)]) ∧ Below w.heap.size w w' := by
  have HR := hide' hR
  have A0 := hide' ((hR.alloc (.cells #[.int .i64 o.kind, .int .i64 o.born, .int .i64 o.stay, .int .i64 o.states, .int .i64 o.radius, .slice a n c, .string o.turns] 24)).alloc (.cells zeroCells 24))
  clear hR
  go_enter Tryd.func20, Tryd.ntmps20
  go_wp2_with fail
  refine (Check_any o a n c _ A0.out).mono ?_
  rintro e w1 ⟨he, b1⟩
  have BW := hide' ((((Below.refl _ _).alloc (Nat.le_refl _) (.cells #[.int .i64 o.kind, .int .i64 o.born, .int .i64 o.stay, .int .i64 o.states, .int .i64 o.radius, .slice a n c, .string o.turns] 24)).alloc (by simp) (.cells zeroCells 24)).trans (b1.mono (by simp; omega)) : Below w.heap.size w w1)
  have x0 := b1.cell (p := ⟨w.heap.size, 0, none⟩) (by simp; omega)
  have y0 := b1.cell (p := ⟨w.heap.size + 1, 0, none⟩) (by simp)
  have y1 := b1.cell (p := ⟨w.heap.size + 1, 1, none⟩) (by simp)
  have y2 := b1.cell (p := ⟨w.heap.size + 1, 2, none⟩) (by simp)
  have y3 := b1.cell (p := ⟨w.heap.size + 1, 3, none⟩) (by simp)
  have y4 := b1.cell (p := ⟨w.heap.size + 1, 4, none⟩) (by simp)
  have y5 := b1.cell (p := ⟨w.heap.size + 1, 5, none⟩) (by simp)
  have y6 := b1.cell (p := ⟨w.heap.size + 1, 6, none⟩) (by simp)
  have f0 := World.frozen?_of_block (a := ⟨w.heap.size + 1, 0, none⟩) (b1.block (w.heap.size + 1) (by simp))
  have f1 := World.frozen?_of_block (a := ⟨w.heap.size + 1, 1, none⟩) (b1.block (w.heap.size + 1) (by simp))
  have f2 := World.frozen?_of_block (a := ⟨w.heap.size + 1, 2, none⟩) (b1.block (w.heap.size + 1) (by simp))
  have f3 := World.frozen?_of_block (a := ⟨w.heap.size + 1, 3, none⟩) (b1.block (w.heap.size + 1) (by simp))
  have f4 := World.frozen?_of_block (a := ⟨w.heap.size + 1, 4, none⟩) (b1.block (w.heap.size + 1) (by simp))
  have f5 := World.frozen?_of_block (a := ⟨w.heap.size + 1, 5, none⟩) (b1.block (w.heap.size + 1) (by simp))
  have f6 := World.frozen?_of_block (a := ⟨w.heap.size + 1, 6, none⟩) (b1.block (w.heap.size + 1) (by simp))
  have hsz := b1.size
  simp [zeroCells] at x0 hsz y0 f0 y1 f1 y2 f2 y3 f3 y4 f4 y5 f5 y6 f6
  clear b1 A0
  rcases he with ⟨rfl, g⟩ | ⟨rfl, g⟩
  case inl => exact absurd g hg
  clear hg g
  go_wp2
  refine bodyPost_ret (v := .tuple #[.agg zeroCells, .iface 87 (.int .i64 1)]) (by simp [results, Tryd.results20, go_sem, zeroCells, y0, y1, y2, y3, y4, y5, y6]) rfl ?_
  exact ⟨rfl, setRule_below BW.out (by simp) _ _ _ _ _ _ _⟩

set_option maxRecDepth 100000 in
set_option maxHeartbeats 3200000 in
theorem Mirror_life (o : Out) (a : Option Addr) (n c : Nat) (w : World) (hR : ArgR w o a n c) (hg : Good o) (hk : o.kind = 1) :
    Calls Tryd.prog 20 #[.agg #[.int .i64 o.kind, .int .i64 o.born, .int .i64 o.stay, .int .i64 o.states, .int .i64 o.radius, .slice a n c, .string o.turns]] w fun e w' => e = .returned (.tuple #[.agg #[.int .i64 1, .int .i64 o.born, .int .i64 o.stay, .int .i64 0, .int .i64 0, .slice none 0 0, .string ⟨#[]⟩], .nilIface]) ∧ Below w.heap.size w w' := by
  have k1 : (o.kind == 1) = true := by simp; omega
  clear hk
  have HR := hide' hR
  have A0 := hide' ((hR.alloc (.cells #[.int .i64 o.kind, .int .i64 o.born, .int .i64 o.stay, .int .i64 o.states, .int .i64 o.radius, .slice a n c, .string o.turns] 24)).alloc (.cells zeroCells 24))
  clear hR
  go_enter Tryd.func20, Tryd.ntmps20
  go_wp2_with fail
  refine (Check_any o a n c _ A0.out).mono ?_
  rintro e w1 ⟨he, b1⟩
  have BW := hide' ((((Below.refl _ _).alloc (Nat.le_refl _) (.cells #[.int .i64 o.kind, .int .i64 o.born, .int .i64 o.stay, .int .i64 o.states, .int .i64 o.radius, .slice a n c, .string o.turns] 24)).alloc (by simp) (.cells zeroCells 24)).trans (b1.mono (by simp; omega)) : Below w.heap.size w w1)
  have x0 := b1.cell (p := ⟨w.heap.size, 0, none⟩) (by simp; omega)
  have x1 := b1.cell (p := ⟨w.heap.size, 1, none⟩) (by simp; omega)
  have x2 := b1.cell (p := ⟨w.heap.size, 2, none⟩) (by simp; omega)
  have y0 := b1.cell (p := ⟨w.heap.size + 1, 0, none⟩) (by simp)
  have y1 := b1.cell (p := ⟨w.heap.size + 1, 1, none⟩) (by simp)
  have y2 := b1.cell (p := ⟨w.heap.size + 1, 2, none⟩) (by simp)
  have y3 := b1.cell (p := ⟨w.heap.size + 1, 3, none⟩) (by simp)
  have y4 := b1.cell (p := ⟨w.heap.size + 1, 4, none⟩) (by simp)
  have y5 := b1.cell (p := ⟨w.heap.size + 1, 5, none⟩) (by simp)
  have y6 := b1.cell (p := ⟨w.heap.size + 1, 6, none⟩) (by simp)
  have f0 := World.frozen?_of_block (a := ⟨w.heap.size + 1, 0, none⟩) (b1.block (w.heap.size + 1) (by simp))
  have f1 := World.frozen?_of_block (a := ⟨w.heap.size + 1, 1, none⟩) (b1.block (w.heap.size + 1) (by simp))
  have f2 := World.frozen?_of_block (a := ⟨w.heap.size + 1, 2, none⟩) (b1.block (w.heap.size + 1) (by simp))
  have f3 := World.frozen?_of_block (a := ⟨w.heap.size + 1, 3, none⟩) (b1.block (w.heap.size + 1) (by simp))
  have f4 := World.frozen?_of_block (a := ⟨w.heap.size + 1, 4, none⟩) (b1.block (w.heap.size + 1) (by simp))
  have f5 := World.frozen?_of_block (a := ⟨w.heap.size + 1, 5, none⟩) (b1.block (w.heap.size + 1) (by simp))
  have f6 := World.frozen?_of_block (a := ⟨w.heap.size + 1, 6, none⟩) (b1.block (w.heap.size + 1) (by simp))
  have hsz := b1.size
  simp [zeroCells] at x0 x1 x2 hsz y0 f0 y1 f1 y2 f2 y3 f3 y4 f4 y5 f5 y6 f6
  clear b1 A0
  rcases he with ⟨rfl, g⟩ | ⟨rfl, g⟩
  case inr => exact absurd hg g
  clear hg g
  go_wp2
  refine bodyPost_ret (v := .tuple #[.agg #[.int .i64 1, .int .i64 o.born, .int .i64 o.stay, .int .i64 0, .int .i64 0, .slice none 0 0, .string ⟨#[]⟩], .nilIface]) (by simp [results, Tryd.results20, go_sem, y0, y1, y2, y3, y4, y5, y6]) rfl ?_
  exact ⟨rfl, setRule_below BW.out (by simp) _ _ _ _ _ _ _⟩

set_option maxRecDepth 100000 in
set_option maxHeartbeats 3200000 in
theorem Mirror_turns (o : Out) (a : Option Addr) (n c : Nat) (w : World) (hR : ArgR w o a n c) (hg : Good o) (hk : o.kind = 3) (ht : o.turns.size ≤ 26) :
    Calls Tryd.prog 20 #[.agg #[.int .i64 o.kind, .int .i64 o.born, .int .i64 o.stay, .int .i64 o.states, .int .i64 o.radius, .slice a n c, .string o.turns]] w fun e w' => e = .returned (.tuple #[.agg #[.int .i64 3, .int .i64 0, .int .i64 0, .int .i64 0, .int .i64 0, .slice none 0 0, .string ⟨((List.range o.turns.size).map (mirU o.turns)).toArray⟩], .nilIface]) ∧ Below w.heap.size w w' := by
  have k1 : (o.kind == 1) = false := by simp; omega
  have k2 : (o.kind == 2) = false := by simp; omega
  clear hk
  have HR := hide' hR
  have A0 := hide' ((hR.alloc (.cells #[.int .i64 o.kind, .int .i64 o.born, .int .i64 o.stay, .int .i64 o.states, .int .i64 o.radius, .slice a n c, .string o.turns] 24)).alloc (.cells zeroCells 24))
  clear hR
  go_enter Tryd.func20, Tryd.ntmps20
  go_wp2_with fail
  refine (Check_any o a n c _ A0.out).mono ?_
  rintro e w1 ⟨he, b1⟩
  have BW := hide' ((((Below.refl _ _).alloc (Nat.le_refl _) (.cells #[.int .i64 o.kind, .int .i64 o.born, .int .i64 o.stay, .int .i64 o.states, .int .i64 o.radius, .slice a n c, .string o.turns] 24)).alloc (by simp) (.cells zeroCells 24)).trans (b1.mono (by simp; omega)) : Below w.heap.size w w1)
  have x0 := b1.cell (p := ⟨w.heap.size, 0, none⟩) (by simp; omega)
  have x6 := b1.cell (p := ⟨w.heap.size, 6, none⟩) (by simp; omega)
  have y0 := b1.cell (p := ⟨w.heap.size + 1, 0, none⟩) (by simp)
  have y1 := b1.cell (p := ⟨w.heap.size + 1, 1, none⟩) (by simp)
  have y2 := b1.cell (p := ⟨w.heap.size + 1, 2, none⟩) (by simp)
  have y3 := b1.cell (p := ⟨w.heap.size + 1, 3, none⟩) (by simp)
  have y4 := b1.cell (p := ⟨w.heap.size + 1, 4, none⟩) (by simp)
  have y5 := b1.cell (p := ⟨w.heap.size + 1, 5, none⟩) (by simp)
  have y6 := b1.cell (p := ⟨w.heap.size + 1, 6, none⟩) (by simp)
  have f0 := World.frozen?_of_block (a := ⟨w.heap.size + 1, 0, none⟩) (b1.block (w.heap.size + 1) (by simp))
  have f1 := World.frozen?_of_block (a := ⟨w.heap.size + 1, 1, none⟩) (b1.block (w.heap.size + 1) (by simp))
  have f2 := World.frozen?_of_block (a := ⟨w.heap.size + 1, 2, none⟩) (b1.block (w.heap.size + 1) (by simp))
  have f3 := World.frozen?_of_block (a := ⟨w.heap.size + 1, 3, none⟩) (b1.block (w.heap.size + 1) (by simp))
  have f4 := World.frozen?_of_block (a := ⟨w.heap.size + 1, 4, none⟩) (b1.block (w.heap.size + 1) (by simp))
  have f5 := World.frozen?_of_block (a := ⟨w.heap.size + 1, 5, none⟩) (b1.block (w.heap.size + 1) (by simp))
  have f6 := World.frozen?_of_block (a := ⟨w.heap.size + 1, 6, none⟩) (b1.block (w.heap.size + 1) (by simp))
  have hsz := b1.size
  simp [zeroCells] at x0 x6 hsz y0 f0 y1 f1 y2 f2 y3 f3 y4 f4 y5 f5 y6 f6
  clear b1 A0
  rcases he with ⟨rfl, g⟩ | ⟨rfl, g⟩
  case inr => exact absurd hg g
  clear hg g
  go_wp2_with fail
  refine (mirrorTurns_any o.turns o.turns.size _ rfl ht).mono ?_
  rintro e w2 ⟨rfl, b2⟩
  have B2 := hide' (BW.out.trans (b2.mono BW.out.size))
  have z0 := (b2.cell (p := ⟨w.heap.size + 1, 0, none⟩) (by simp; omega)).trans y0
  have g0 := (World.frozen?_of_block (a := ⟨w.heap.size + 1, 0, none⟩) (b2.block (w.heap.size + 1) (by omega))).trans f0
  have z1 := (b2.cell (p := ⟨w.heap.size + 1, 1, none⟩) (by simp; omega)).trans y1
  have g1 := (World.frozen?_of_block (a := ⟨w.heap.size + 1, 1, none⟩) (b2.block (w.heap.size + 1) (by omega))).trans f1
  have z2 := (b2.cell (p := ⟨w.heap.size + 1, 2, none⟩) (by simp; omega)).trans y2
  have g2 := (World.frozen?_of_block (a := ⟨w.heap.size + 1, 2, none⟩) (b2.block (w.heap.size + 1) (by omega))).trans f2
  have z3 := (b2.cell (p := ⟨w.heap.size + 1, 3, none⟩) (by simp; omega)).trans y3
  have g3 := (World.frozen?_of_block (a := ⟨w.heap.size + 1, 3, none⟩) (b2.block (w.heap.size + 1) (by omega))).trans f3
  have z4 := (b2.cell (p := ⟨w.heap.size + 1, 4, none⟩) (by simp; omega)).trans y4
  have g4 := (World.frozen?_of_block (a := ⟨w.heap.size + 1, 4, none⟩) (b2.block (w.heap.size + 1) (by omega))).trans f4
  have z5 := (b2.cell (p := ⟨w.heap.size + 1, 5, none⟩) (by simp; omega)).trans y5
  have g5 := (World.frozen?_of_block (a := ⟨w.heap.size + 1, 5, none⟩) (b2.block (w.heap.size + 1) (by omega))).trans f5
  have z6 := (b2.cell (p := ⟨w.heap.size + 1, 6, none⟩) (by simp; omega)).trans y6
  have g6 := (World.frozen?_of_block (a := ⟨w.heap.size + 1, 6, none⟩) (b2.block (w.heap.size + 1) (by omega))).trans f6
  clear b2
  go_wp2
  refine bodyPost_ret (v := .tuple #[.agg #[.int .i64 3, .int .i64 0, .int .i64 0, .int .i64 0, .int .i64 0, .slice none 0 0, .string ⟨((List.range o.turns.size).map (mirU o.turns)).toArray⟩], .nilIface]) (by simp [results, Tryd.results20, go_sem, z0, z1, z2, z3, z4, z5, z6]) rfl ?_
  exact ⟨rfl, setRule_below B2.out (by simp) _ _ _ _ _ _ _⟩

end Go.Proofs.YtjngjnkecnnmeaaDoor

