/-
  What the last text of this claim leans on, part 29: Kd9, Kda.
-/
import Derived.Test.YtpajdmhgonmgoaaDoorYt28
import Derived.Test.YtpajdmhgonmgoaaDoorYt12
import Derived.Laws.Tables
namespace Go.Proofs.YtpajdmhgonmgoaaDoor
open Go.RowKit
set_option linter.unusedVariables false
open Go.Conc Go.ConcN Go.RowKit Go.Conc.Lib Go.ConcR.Gen
open Go.ConcR (KK wgBlock WgAt stA smA rd wr Payload DC0)
set_option linter.unusedSimpArgs false
section
variable {P : Program} {F F' : World → Prop} {E : Event → Prop} {S : Goroutine → World → Prop} {m : Nat} {fb : Frame} {a : Act} {k : List Item} {cs : List Frame}
/-- One operation whose value is known. -/
theorem gp_valw (hc : AtC F) {ops : Array Oper} {i : Nat} {rest : List Nat} {o : Oper} (ho : ops[i]? = some o) (hw : Region.wanted o (yielded ops a.tmps) = true) (hk : fb.kind ≠ .early) (v : Value) (h : ∀ w, F w → ∃ w', ((execOp a.eval o).run P w = .ok (.value v) w' ∨ ((execOp a.eval o).run P w = .ok .skip w' ∧ v = undef)) ∧ (∀ e ∈ (execOp a.eval o).events P w #[], E e) ∧ F' w')
    (hn : Gp P E S m (G (fb.at (a.put o.dst v) (.inRegion ops rest :: k)) cs) F') : Gp P E S (m + 1) (G (fb.at a (.inRegion ops (i :: rest) :: k)) cs) F :=
  gp_opw hc ho hw hk fun w hF K hK => by
    obtain ⟨w', h1, h2, h3⟩ := h w hF
    rcases h1 with h1 | ⟨h1, rfl⟩
    · rw [h1]; exact hK _ _ h2 h3 hn
    · rw [h1]; exact hK _ _ h2 h3 hn
end
def dlR5 : List (Option Nat) := [some 26, some 27, some 28, some 29, some 30, some 31, some 32, some 33, some 34, some 35, none]
def dpR5 : List (Nat × Nat) := [(1, 0), (5, 3), (6, 5), (7, 6), (7, 4), (8, 7), (9, 1), (9, 2), (10, 8), (10, 9)]
def vlR5 (C T g n i : Nat) (x : Int) (j : Nat) : Value := ([(Value.pointer (some ⟨T, 0, none⟩)), (Value.slice (some ⟨g, 0, none⟩) n n), (Value.int .i64 (i : Int)), (Value.pointer (some ⟨C, 0, none⟩)), (Value.int .i64 (i : Int)), (Value.pointer (some ⟨C, 0, none⟩)), (Value.pointer (some ⟨C, 112, none⟩)), (Value.pointer (some ⟨C, 112 + i, none⟩)), (Value.int .i64 x), (Value.pointer (some ⟨g, i, none⟩)), undef] : List Value).getD j undef
set_option maxRecDepth 100000 in
set_option maxHeartbeats 3200000 in
theorem piled_R5 {Shun : Loc → Prop} {N C T g n i : Nat} {x : Int} {w1 : World} {S : Goroutine → World → Prop} {a0 : Act} {k : List Item} {cs : List Frame} {m : Nat} (hin : i < n) (hn10 : n ≤ 10) (hz : a0.tmps.size = 48) (h0 : a0.tmps[0]? = some (Value.pointer (some ⟨C, 0, none⟩))) (h3 : a0.tmps[3]? = some (Value.pointer (some ⟨T, 0, none⟩))) (h4 : a0.tmps[4]? = some (.int .i64 (i : Int)))
    (hS : ∀ a, N ≤ a.block → ¬ Shun (.cell a)) (hT0 : N ≤ T) (hT1 : T < N + 4) (hg0 : N ≤ g) (hg1 : g < N + 4) (hC : C < N)
    (hT : w1.cell? ⟨T, 0, none⟩ = some (.slice (some ⟨g, 0, none⟩) n n)) (hx : w1.cell? ⟨C, 112 + i, none⟩ = some (.int .i64 x)) (hg : ∃ y, w1.cell? ⟨g, i, none⟩ = some y) (hf : w1.frozen? ⟨g, i, none⟩ = false)
    (hend : Gp Tryd.prog (EvL Shun (N + 4)) S m (G ((base 24).at (putsO a0 ((List.range 11).map fun j => (dlR5.getD j none, vlR5 C T g n i x j))) k) cs) (AtRel (w1.setCell ⟨g, i, none⟩ (.int .i64 x)))) :
    Gp Tryd.prog (EvL Shun (N + 4)) S (m + 277) (G ((base 24).at a0 (.code (cL (cR (cL (cL (cR (cR (cL (cL (cR (cL (cR (cR (bodyOf Tryd.f24))))))))))))) :: k)) cs) (AtRel w1) := by
  have hc := atRel_c
  have hp0 : (0 : Int) ≤ (i : Int) := by omega
  have hp1 : (i : Int) < 10 := by omega
  have hp2 : (i : Int) < (n : Int) := by omega
  have hkb : (base 24).kind ≠ .early := by simp [base]
  simp only [cL, cR, bodyOf, Tryd.f24, Option.getD_some]
  have key := gp_drawS (σ := Unit) (E := EvL Shun (N + 4)) (S := S) (b := base 24) (k := k) (cs := cs) (id := 5) (P := Tryd.prog) (by kernel_rfl) (cO (cL (cR (cL (cL (cR (cR (cL (cL (cR (cL (cR (cR (bodyOf Tryd.f24)))))))))))))) 11 dlR5 dpR5 (fun L _ => AtRel (if L 10 then w1.setCell ⟨g, i, none⟩ (.int .i64 x) else w1)) (fun j _ => vlR5 C T g n i x j) 25 m (a0 := a0) (by rfl) (by rfl) (nd_of (by decide)) (fun t ht => by rw [hz]; exact lt_of_all (by decide) t ht) (by rfl) (by kernel_rfl) (by kernel_rfl) (fun L s => hc _) ?hop ?hend ()
  case hop =>
    intro j o L s a hj ho lj cl need hkeep hv rest M hn
    have t0 : a.tmps[0]? = some (Value.pointer (some ⟨C, 0, none⟩)) := (hkeep 0 (by decide)).trans h0
    have t3 : a.tmps[3]? = some (Value.pointer (some ⟨T, 0, none⟩)) := (hkeep 3 (by decide)).trans h3
    have t4 : a.tmps[4]? = some (.int .i64 (i : Int)) := (hkeep 4 (by decide)).trans h4
    replace hn := hn () (fun _ _ _ => rfl)
    simp only [cO, cL, cR, bodyOf, Tryd.f24, Option.getD_some] at ho hn ⊢
    have this : j = 0 ∨ j = 1 ∨ j = 2 ∨ j = 3 ∨ j = 4 ∨ j = 5 ∨ j = 6 ∨ j = 7 ∨ j = 8 ∨ j = 9 ∨ j = 10 := by omega
    rcases this with rfl | rfl | rfl | rfl | rfl | rfl | rfl | rfl | rfl | rfl | rfl
    · obtain rfl := Option.some.inj ho
      have l10 : L 10 = false := by
        cases h10 : L 10 with
        | false => rfl
        | true =>
          have h9 := cl 10 9 (by decide) h10
          have h1 := cl 9 1 (by decide) h9
          have h0 := cl 1 0 (by decide) h1
          rw [h0] at lj; cases lj
      have eL : onL L 0 10 = false := by unfold onL; rw [if_neg (by decide)]; exact l10
      rw [eL, if_neg (by decide)] at hn
      rw [l10, if_neg (by decide)]
      refine Gp.mono (gp_valw (F' := AtRel w1) (hc _) rfl rfl hkb _ (fun w hF => ⟨w, Or.inl ?_, fun e he => ?_, hF⟩) hn) (by omega)
      · simp [execOp, Act.eval, go_sem, t3]
        try rfl
      · simp [execOp, Act.eval, go_sem, evix1, evix2, evix3, t3] at he
    · obtain rfl := Option.some.inj ho
      have d0 : a.tmps[26]? = some (Value.pointer (some ⟨T, 0, none⟩)) := hv 0 26 (by decide) rfl
      have l10 : L 10 = false := by
        cases h10 : L 10 with
        | false => rfl
        | true =>
          have h9 := cl 10 9 (by decide) h10
          have h1 := cl 9 1 (by decide) h9
          rw [h1] at lj; cases lj
      have eL : onL L 1 10 = false := by unfold onL; rw [if_neg (by decide)]; exact l10
      rw [eL, if_neg (by decide)] at hn
      rw [l10, if_neg (by decide)]
      have hld : ∀ d, (w1.at d).cell? ⟨T, 0, none⟩ = some (.slice (some ⟨g, 0, none⟩) n n) := fun d => hT
      refine Gp.mono (gp_valw (F' := AtRel w1) (hc _) rfl rfl hkb _ (fun w hF => ⟨w, Or.inl ?_, fun e he => ?_, hF⟩) hn) (by omega)
      · obtain ⟨d, rfl⟩ := hF
        simp [execOp, Act.eval, go_sem, d0, hld d]
        try rfl
      · obtain ⟨d, rfl⟩ := hF
        simp [execOp, Act.eval, go_sem, d0, hld d] at he
        subst he
        exact evL_cell _ _ (hS _ (by show N ≤ T; omega)) (by show T < N + 4; omega)
    · obtain rfl := Option.some.inj ho
      have l10 : L 10 = false := by
        cases h10 : L 10 with
        | false => rfl
        | true =>
          have h9 := cl 10 9 (by decide) h10
          have h2 := cl 9 2 (by decide) h9
          rw [h2] at lj; cases lj
      have eL : onL L 2 10 = false := by unfold onL; rw [if_neg (by decide)]; exact l10
      rw [eL, if_neg (by decide)] at hn
      rw [l10, if_neg (by decide)]
      refine Gp.mono (gp_valw (F' := AtRel w1) (hc _) rfl rfl hkb _ (fun w hF => ⟨w, Or.inl ?_, fun e he => ?_, hF⟩) hn) (by omega)
      · simp [execOp, Act.eval, go_sem, t4]
        try rfl
      · simp [execOp, Act.eval, go_sem, evix1, evix2, evix3, t4] at he
    · obtain rfl := Option.some.inj ho
      have l10 : L 10 = false := by
        cases h10 : L 10 with
        | false => rfl
        | true =>
          have h8 := cl 10 8 (by decide) h10
          have h7 := cl 8 7 (by decide) h8
          have h6 := cl 7 6 (by decide) h7
          have h5 := cl 6 5 (by decide) h6
          have h3 := cl 5 3 (by decide) h5
          rw [h3] at lj; cases lj
      have eL : onL L 3 10 = false := by unfold onL; rw [if_neg (by decide)]; exact l10
      rw [eL, if_neg (by decide)] at hn
      rw [l10, if_neg (by decide)]
      refine Gp.mono (gp_valw (F' := AtRel w1) (hc _) rfl rfl hkb _ (fun w hF => ⟨w, Or.inl ?_, fun e he => ?_, hF⟩) hn) (by omega)
      · simp [execOp, Act.eval, go_sem, t0]
        try rfl
      · simp [execOp, Act.eval, go_sem, evix1, evix2, evix3, t0] at he
    · obtain rfl := Option.some.inj ho
      have l10 : L 10 = false := by
        cases h10 : L 10 with
        | false => rfl
        | true =>
          have h8 := cl 10 8 (by decide) h10
          have h7 := cl 8 7 (by decide) h8
          have h4 := cl 7 4 (by decide) h7
          rw [h4] at lj; cases lj
      have eL : onL L 4 10 = false := by unfold onL; rw [if_neg (by decide)]; exact l10
      rw [eL, if_neg (by decide)] at hn
      rw [l10, if_neg (by decide)]
      refine Gp.mono (gp_valw (F' := AtRel w1) (hc _) rfl rfl hkb _ (fun w hF => ⟨w, Or.inl ?_, fun e he => ?_, hF⟩) hn) (by omega)
      · simp [execOp, Act.eval, go_sem, t4]
        try rfl
      · simp [execOp, Act.eval, go_sem, evix1, evix2, evix3, t4] at he
    · obtain rfl := Option.some.inj ho
      have d3 : a.tmps[29]? = some (Value.pointer (some ⟨C, 0, none⟩)) := hv 3 29 (by decide) rfl
      have l10 : L 10 = false := by
        cases h10 : L 10 with
        | false => rfl
        | true =>
          have h8 := cl 10 8 (by decide) h10
          have h7 := cl 8 7 (by decide) h8
          have h6 := cl 7 6 (by decide) h7
          have h5 := cl 6 5 (by decide) h6
          rw [h5] at lj; cases lj
      have eL : onL L 5 10 = false := by unfold onL; rw [if_neg (by decide)]; exact l10
      rw [eL, if_neg (by decide)] at hn
      rw [l10, if_neg (by decide)]
      refine Gp.mono (gp_valw (F' := AtRel w1) (hc _) rfl rfl hkb _ (fun w hF => ⟨w, Or.inl ?_, fun e he => ?_, hF⟩) hn) (by omega)
      · simp [execOp, Act.eval, go_sem, d3]
        try rfl
      · simp [execOp, Act.eval, go_sem, evix1, evix2, evix3, d3] at he
    · obtain rfl := Option.some.inj ho
      have d5 : a.tmps[31]? = some (Value.pointer (some ⟨C, 0, none⟩)) := hv 5 31 (by decide) rfl
      have l10 : L 10 = false := by
        cases h10 : L 10 with
        | false => rfl
        | true =>
          have h8 := cl 10 8 (by decide) h10
          have h7 := cl 8 7 (by decide) h8
          have h6 := cl 7 6 (by decide) h7
          rw [h6] at lj; cases lj
      have eL : onL L 6 10 = false := by unfold onL; rw [if_neg (by decide)]; exact l10
      rw [eL, if_neg (by decide)] at hn
      rw [l10, if_neg (by decide)]
      refine Gp.mono (gp_valw (F' := AtRel w1) (hc _) rfl rfl hkb _ (fun w hF => ⟨w, Or.inl ?_, fun e he => ?_, hF⟩) hn) (by omega)
      · simp [execOp, Act.eval, go_sem, d5]
        try rfl
      · simp [execOp, Act.eval, go_sem, evix1, evix2, evix3, d5] at he
    · obtain rfl := Option.some.inj ho
      have d6 : a.tmps[32]? = some (Value.pointer (some ⟨C, 112, none⟩)) := hv 6 32 (by decide) rfl
      have d4 : a.tmps[30]? = some (Value.int .i64 (i : Int)) := hv 4 30 (by decide) rfl
      have l10 : L 10 = false := by
        cases h10 : L 10 with
        | false => rfl
        | true =>
          have h8 := cl 10 8 (by decide) h10
          have h7 := cl 8 7 (by decide) h8
          rw [h7] at lj; cases lj
      have eL : onL L 7 10 = false := by unfold onL; rw [if_neg (by decide)]; exact l10
      rw [eL, if_neg (by decide)] at hn
      rw [l10, if_neg (by decide)]
      refine Gp.mono (gp_valw (F' := AtRel w1) (hc _) rfl rfl hkb _ (fun w hF => ⟨w, Or.inl ?_, fun e he => ?_, hF⟩) hn) (by omega)
      · simp [execOp, Act.eval, go_sem, d6, d4, hp0, hp1]
        try rfl
      · simp [execOp, Act.eval, go_sem, evix1, evix2, evix3, d6, d4, hp0, hp1] at he
    · obtain rfl := Option.some.inj ho
      have d7 : a.tmps[33]? = some (Value.pointer (some ⟨C, 112 + i, none⟩)) := hv 7 33 (by decide) rfl
      have l10 : L 10 = false := by
        cases h10 : L 10 with
        | false => rfl
        | true =>
          have h8 := cl 10 8 (by decide) h10
          rw [h8] at lj; cases lj
      have eL : onL L 8 10 = false := by unfold onL; rw [if_neg (by decide)]; exact l10
      rw [eL, if_neg (by decide)] at hn
      rw [l10, if_neg (by decide)]
      exact Gp.mono (gload_x (v := x) (ad := ⟨C, 112 + i, none⟩) (M := M) rfl rfl hkb rfl (by simp [Act.eval, d7]) rfl hx (by show C < N + 4; omega) hn) (by omega)
    · obtain rfl := Option.some.inj ho
      have d1 : a.tmps[27]? = some (Value.slice (some ⟨g, 0, none⟩) n n) := hv 1 27 (by decide) rfl
      have d2 : a.tmps[28]? = some (Value.int .i64 (i : Int)) := hv 2 28 (by decide) rfl
      have l10 : L 10 = false := by
        cases h10 : L 10 with
        | false => rfl
        | true =>
          have h9 := cl 10 9 (by decide) h10
          rw [h9] at lj; cases lj
      have eL : onL L 9 10 = false := by unfold onL; rw [if_neg (by decide)]; exact l10
      rw [eL, if_neg (by decide)] at hn
      rw [l10, if_neg (by decide)]
      refine Gp.mono (gp_valw (F' := AtRel w1) (hc _) rfl rfl hkb _ (fun w hF => ⟨w, Or.inl ?_, fun e he => ?_, hF⟩) hn) (by omega)
      · simp [execOp, Act.eval, go_sem, d1, d2, hp0, hp2]
        try rfl
      · simp [execOp, Act.eval, go_sem, evix1, evix2, evix3, d1, d2, hp0, hp2] at he
    · obtain rfl := Option.some.inj ho
      have d8 : a.tmps[34]? = some (Value.int .i64 x) := hv 8 34 (by decide) rfl
      have d9 : a.tmps[35]? = some (Value.pointer (some ⟨g, i, none⟩)) := hv 9 35 (by decide) rfl
      have eL : onL L 10 10 = true := by unfold onL; rw [if_pos rfl]
      rw [eL, if_pos rfl] at hn
      rw [lj, if_neg (by decide)]
      obtain ⟨y, hy⟩ := hg
      refine Gp.mono (gp_valw (hc _) rfl rfl hkb _ (fun w hF => ?_) hn) (by omega)
      obtain ⟨d, rfl⟩ := hF
      have k1 : (w1.at d).cell? ⟨g, i, none⟩ = some y := hy
      have k2 : (w1.at d).frozen? ⟨g, i, none⟩ = false := hf
      refine ⟨(w1.setCell ⟨g, i, none⟩ (.int .i64 x)).at d, Or.inr ⟨?_, rfl⟩, fun e he => ?_, ⟨d, rfl⟩⟩
      · simp [execOp, Act.eval, go_sem, d8, d9, k1, k2]
        try rfl
      · simp [execOp, Act.eval, go_sem, d8, d9, k1, k2] at he
        subst he
        exact evL_cell _ _ (hS _ (by show N ≤ g; omega)) (by show g < N + 4; omega)
  case hend =>
    intro s L hall
    have l10 : L 10 = true := hall 10 (by omega)
    rw [l10, if_pos rfl]
    exact hend
  rw [if_neg (by decide)] at key
  exact key
def dlR6 : List (Option Nat) := [some 36, some 37, some 38, some 39, some 40, some 41, some 42, some 43, some 44, some 45, none]
def dpR6 : List (Nat × Nat) := [(1, 0), (5, 3), (6, 5), (7, 6), (7, 4), (8, 7), (9, 1), (9, 2), (10, 8), (10, 9)]
def vlR6 (C T g n i : Nat) (x : Int) (j : Nat) : Value := ([(Value.pointer (some ⟨T, 1, none⟩)), (Value.slice (some ⟨g, 0, none⟩) n n), (Value.int .i64 (i : Int)), (Value.pointer (some ⟨C, 0, none⟩)), (Value.int .i64 (i : Int)), (Value.pointer (some ⟨C, 0, none⟩)), (Value.pointer (some ⟨C, 122, none⟩)), (Value.pointer (some ⟨C, 122 + i, none⟩)), (Value.int .i64 x), (Value.pointer (some ⟨g, i, none⟩)), undef] : List Value).getD j undef
set_option maxRecDepth 100000 in
set_option maxHeartbeats 3200000 in
theorem piled_R6 {Shun : Loc → Prop} {N C T g n i : Nat} {x : Int} {w1 : World} {S : Goroutine → World → Prop} {a0 : Act} {k : List Item} {cs : List Frame} {m : Nat} (hin : i < n) (hn10 : n ≤ 10) (hz : a0.tmps.size = 48) (h0 : a0.tmps[0]? = some (Value.pointer (some ⟨C, 0, none⟩))) (h3 : a0.tmps[3]? = some (Value.pointer (some ⟨T, 0, none⟩))) (h4 : a0.tmps[4]? = some (.int .i64 (i : Int)))
    (hS : ∀ a, N ≤ a.block → ¬ Shun (.cell a)) (hT0 : N ≤ T) (hT1 : T < N + 4) (hg0 : N ≤ g) (hg1 : g < N + 4) (hC : C < N)
    (hT : w1.cell? ⟨T, 1, none⟩ = some (.slice (some ⟨g, 0, none⟩) n n)) (hx : w1.cell? ⟨C, 122 + i, none⟩ = some (.int .i64 x)) (hg : ∃ y, w1.cell? ⟨g, i, none⟩ = some y) (hf : w1.frozen? ⟨g, i, none⟩ = false)
    (hend : Gp Tryd.prog (EvL Shun (N + 4)) S m (G ((base 24).at (putsO a0 ((List.range 11).map fun j => (dlR6.getD j none, vlR6 C T g n i x j))) k) cs) (AtRel (w1.setCell ⟨g, i, none⟩ (.int .i64 x)))) :
    Gp Tryd.prog (EvL Shun (N + 4)) S (m + 277) (G ((base 24).at a0 (.code (cR (cR (cL (cL (cR (cR (cL (cL (cR (cL (cR (cR (bodyOf Tryd.f24))))))))))))) :: k)) cs) (AtRel w1) := by
  have hc := atRel_c
  have hp0 : (0 : Int) ≤ (i : Int) := by omega
  have hp1 : (i : Int) < 10 := by omega
  have hp2 : (i : Int) < (n : Int) := by omega
  have hkb : (base 24).kind ≠ .early := by simp [base]
  simp only [cL, cR, bodyOf, Tryd.f24, Option.getD_some]
  have key := gp_drawS (σ := Unit) (E := EvL Shun (N + 4)) (S := S) (b := base 24) (k := k) (cs := cs) (id := 6) (P := Tryd.prog) (by kernel_rfl) (cO (cR (cR (cL (cL (cR (cR (cL (cL (cR (cL (cR (cR (bodyOf Tryd.f24)))))))))))))) 11 dlR6 dpR6 (fun L _ => AtRel (if L 10 then w1.setCell ⟨g, i, none⟩ (.int .i64 x) else w1)) (fun j _ => vlR6 C T g n i x j) 25 m (a0 := a0) (by rfl) (by rfl) (nd_of (by decide)) (fun t ht => by rw [hz]; exact lt_of_all (by decide) t ht) (by rfl) (by kernel_rfl) (by kernel_rfl) (fun L s => hc _) ?hop ?hend ()
  case hop =>
    intro j o L s a hj ho lj cl need hkeep hv rest M hn
    have t0 : a.tmps[0]? = some (Value.pointer (some ⟨C, 0, none⟩)) := (hkeep 0 (by decide)).trans h0
    have t3 : a.tmps[3]? = some (Value.pointer (some ⟨T, 0, none⟩)) := (hkeep 3 (by decide)).trans h3
    have t4 : a.tmps[4]? = some (.int .i64 (i : Int)) := (hkeep 4 (by decide)).trans h4
    replace hn := hn () (fun _ _ _ => rfl)
    simp only [cO, cL, cR, bodyOf, Tryd.f24, Option.getD_some] at ho hn ⊢
    have this : j = 0 ∨ j = 1 ∨ j = 2 ∨ j = 3 ∨ j = 4 ∨ j = 5 ∨ j = 6 ∨ j = 7 ∨ j = 8 ∨ j = 9 ∨ j = 10 := by omega
    rcases this with rfl | rfl | rfl | rfl | rfl | rfl | rfl | rfl | rfl | rfl | rfl
    · obtain rfl := Option.some.inj ho
      have l10 : L 10 = false := by
        cases h10 : L 10 with
        | false => rfl
        | true =>
          have h9 := cl 10 9 (by decide) h10
          have h1 := cl 9 1 (by decide) h9
          have h0 := cl 1 0 (by decide) h1
          rw [h0] at lj; cases lj
      have eL : onL L 0 10 = false := by unfold onL; rw [if_neg (by decide)]; exact l10
      rw [eL, if_neg (by decide)] at hn
      rw [l10, if_neg (by decide)]
      refine Gp.mono (gp_valw (F' := AtRel w1) (hc _) rfl rfl hkb _ (fun w hF => ⟨w, Or.inl ?_, fun e he => ?_, hF⟩) hn) (by omega)
      · simp [execOp, Act.eval, go_sem, t3]
        try rfl
      · simp [execOp, Act.eval, go_sem, evix1, evix2, evix3, t3] at he
    · obtain rfl := Option.some.inj ho
      have d0 : a.tmps[36]? = some (Value.pointer (some ⟨T, 1, none⟩)) := hv 0 36 (by decide) rfl
      have l10 : L 10 = false := by
        cases h10 : L 10 with
        | false => rfl
        | true =>
          have h9 := cl 10 9 (by decide) h10
          have h1 := cl 9 1 (by decide) h9
          rw [h1] at lj; cases lj
      have eL : onL L 1 10 = false := by unfold onL; rw [if_neg (by decide)]; exact l10
      rw [eL, if_neg (by decide)] at hn
      rw [l10, if_neg (by decide)]
      have hld : ∀ d, (w1.at d).cell? ⟨T, 1, none⟩ = some (.slice (some ⟨g, 0, none⟩) n n) := fun d => hT
      refine Gp.mono (gp_valw (F' := AtRel w1) (hc _) rfl rfl hkb _ (fun w hF => ⟨w, Or.inl ?_, fun e he => ?_, hF⟩) hn) (by omega)
      · obtain ⟨d, rfl⟩ := hF
        simp [execOp, Act.eval, go_sem, d0, hld d]
        try rfl
      · obtain ⟨d, rfl⟩ := hF
        simp [execOp, Act.eval, go_sem, d0, hld d] at he
        subst he
        exact evL_cell _ _ (hS _ (by show N ≤ T; omega)) (by show T < N + 4; omega)
    · obtain rfl := Option.some.inj ho
      have l10 : L 10 = false := by
        cases h10 : L 10 with
        | false => rfl
        | true =>
          have h9 := cl 10 9 (by decide) h10
          have h2 := cl 9 2 (by decide) h9
          rw [h2] at lj; cases lj
      have eL : onL L 2 10 = false := by unfold onL; rw [if_neg (by decide)]; exact l10
      rw [eL, if_neg (by decide)] at hn
      rw [l10, if_neg (by decide)]
      refine Gp.mono (gp_valw (F' := AtRel w1) (hc _) rfl rfl hkb _ (fun w hF => ⟨w, Or.inl ?_, fun e he => ?_, hF⟩) hn) (by omega)
      · simp [execOp, Act.eval, go_sem, t4]
        try rfl
      · simp [execOp, Act.eval, go_sem, evix1, evix2, evix3, t4] at he
    · obtain rfl := Option.some.inj ho
      have l10 : L 10 = false := by
        cases h10 : L 10 with
        | false => rfl
        | true =>
          have h8 := cl 10 8 (by decide) h10
          have h7 := cl 8 7 (by decide) h8
          have h6 := cl 7 6 (by decide) h7
          have h5 := cl 6 5 (by decide) h6
          have h3 := cl 5 3 (by decide) h5
          rw [h3] at lj; cases lj
      have eL : onL L 3 10 = false := by unfold onL; rw [if_neg (by decide)]; exact l10
      rw [eL, if_neg (by decide)] at hn
      rw [l10, if_neg (by decide)]
      refine Gp.mono (gp_valw (F' := AtRel w1) (hc _) rfl rfl hkb _ (fun w hF => ⟨w, Or.inl ?_, fun e he => ?_, hF⟩) hn) (by omega)
      · simp [execOp, Act.eval, go_sem, t0]
        try rfl
      · simp [execOp, Act.eval, go_sem, evix1, evix2, evix3, t0] at he
    · obtain rfl := Option.some.inj ho
      have l10 : L 10 = false := by
        cases h10 : L 10 with
        | false => rfl
        | true =>
          have h8 := cl 10 8 (by decide) h10
          have h7 := cl 8 7 (by decide) h8
          have h4 := cl 7 4 (by decide) h7
          rw [h4] at lj; cases lj
      have eL : onL L 4 10 = false := by unfold onL; rw [if_neg (by decide)]; exact l10
      rw [eL, if_neg (by decide)] at hn
      rw [l10, if_neg (by decide)]
      refine Gp.mono (gp_valw (F' := AtRel w1) (hc _) rfl rfl hkb _ (fun w hF => ⟨w, Or.inl ?_, fun e he => ?_, hF⟩) hn) (by omega)
      · simp [execOp, Act.eval, go_sem, t4]
        try rfl
      · simp [execOp, Act.eval, go_sem, evix1, evix2, evix3, t4] at he
    · obtain rfl := Option.some.inj ho
      have d3 : a.tmps[39]? = some (Value.pointer (some ⟨C, 0, none⟩)) := hv 3 39 (by decide) rfl
      have l10 : L 10 = false := by
        cases h10 : L 10 with
        | false => rfl
        | true =>
          have h8 := cl 10 8 (by decide) h10
          have h7 := cl 8 7 (by decide) h8
          have h6 := cl 7 6 (by decide) h7
          have h5 := cl 6 5 (by decide) h6
          rw [h5] at lj; cases lj
      have eL : onL L 5 10 = false := by unfold onL; rw [if_neg (by decide)]; exact l10
      rw [eL, if_neg (by decide)] at hn
      rw [l10, if_neg (by decide)]
      refine Gp.mono (gp_valw (F' := AtRel w1) (hc _) rfl rfl hkb _ (fun w hF => ⟨w, Or.inl ?_, fun e he => ?_, hF⟩) hn) (by omega)
      · simp [execOp, Act.eval, go_sem, d3]
        try rfl
      · simp [execOp, Act.eval, go_sem, evix1, evix2, evix3, d3] at he
    · obtain rfl := Option.some.inj ho
      have d5 : a.tmps[41]? = some (Value.pointer (some ⟨C, 0, none⟩)) := hv 5 41 (by decide) rfl
      have l10 : L 10 = false := by
        cases h10 : L 10 with
        | false => rfl
        | true =>
          have h8 := cl 10 8 (by decide) h10
          have h7 := cl 8 7 (by decide) h8
          have h6 := cl 7 6 (by decide) h7
          rw [h6] at lj; cases lj
      have eL : onL L 6 10 = false := by unfold onL; rw [if_neg (by decide)]; exact l10
      rw [eL, if_neg (by decide)] at hn
      rw [l10, if_neg (by decide)]
      refine Gp.mono (gp_valw (F' := AtRel w1) (hc _) rfl rfl hkb _ (fun w hF => ⟨w, Or.inl ?_, fun e he => ?_, hF⟩) hn) (by omega)
      · simp [execOp, Act.eval, go_sem, d5]
        try rfl
      · simp [execOp, Act.eval, go_sem, evix1, evix2, evix3, d5] at he
    · obtain rfl := Option.some.inj ho
      have d6 : a.tmps[42]? = some (Value.pointer (some ⟨C, 122, none⟩)) := hv 6 42 (by decide) rfl
      have d4 : a.tmps[40]? = some (Value.int .i64 (i : Int)) := hv 4 40 (by decide) rfl
      have l10 : L 10 = false := by
        cases h10 : L 10 with
        | false => rfl
        | true =>
          have h8 := cl 10 8 (by decide) h10
          have h7 := cl 8 7 (by decide) h8
          rw [h7] at lj; cases lj
      have eL : onL L 7 10 = false := by unfold onL; rw [if_neg (by decide)]; exact l10
      rw [eL, if_neg (by decide)] at hn
      rw [l10, if_neg (by decide)]
      refine Gp.mono (gp_valw (F' := AtRel w1) (hc _) rfl rfl hkb _ (fun w hF => ⟨w, Or.inl ?_, fun e he => ?_, hF⟩) hn) (by omega)
      · simp [execOp, Act.eval, go_sem, d6, d4, hp0, hp1]
        try rfl
      · simp [execOp, Act.eval, go_sem, evix1, evix2, evix3, d6, d4, hp0, hp1] at he
    · obtain rfl := Option.some.inj ho
      have d7 : a.tmps[43]? = some (Value.pointer (some ⟨C, 122 + i, none⟩)) := hv 7 43 (by decide) rfl
      have l10 : L 10 = false := by
        cases h10 : L 10 with
        | false => rfl
        | true =>
          have h8 := cl 10 8 (by decide) h10
          rw [h8] at lj; cases lj
      have eL : onL L 8 10 = false := by unfold onL; rw [if_neg (by decide)]; exact l10
      rw [eL, if_neg (by decide)] at hn
      rw [l10, if_neg (by decide)]
      exact Gp.mono (gload_x (v := x) (ad := ⟨C, 122 + i, none⟩) (M := M) rfl rfl hkb rfl (by simp [Act.eval, d7]) rfl hx (by show C < N + 4; omega) hn) (by omega)
    · obtain rfl := Option.some.inj ho
      have d1 : a.tmps[37]? = some (Value.slice (some ⟨g, 0, none⟩) n n) := hv 1 37 (by decide) rfl
      have d2 : a.tmps[38]? = some (Value.int .i64 (i : Int)) := hv 2 38 (by decide) rfl
      have l10 : L 10 = false := by
        cases h10 : L 10 with
        | false => rfl
        | true =>
          have h9 := cl 10 9 (by decide) h10
          rw [h9] at lj; cases lj
      have eL : onL L 9 10 = false := by unfold onL; rw [if_neg (by decide)]; exact l10
      rw [eL, if_neg (by decide)] at hn
      rw [l10, if_neg (by decide)]
      refine Gp.mono (gp_valw (F' := AtRel w1) (hc _) rfl rfl hkb _ (fun w hF => ⟨w, Or.inl ?_, fun e he => ?_, hF⟩) hn) (by omega)
      · simp [execOp, Act.eval, go_sem, d1, d2, hp0, hp2]
        try rfl
      · simp [execOp, Act.eval, go_sem, evix1, evix2, evix3, d1, d2, hp0, hp2] at he
    · obtain rfl := Option.some.inj ho
      have d8 : a.tmps[44]? = some (Value.int .i64 x) := hv 8 44 (by decide) rfl
      have d9 : a.tmps[45]? = some (Value.pointer (some ⟨g, i, none⟩)) := hv 9 45 (by decide) rfl
      have eL : onL L 10 10 = true := by unfold onL; rw [if_pos rfl]
      rw [eL, if_pos rfl] at hn
      rw [lj, if_neg (by decide)]
      obtain ⟨y, hy⟩ := hg
      refine Gp.mono (gp_valw (hc _) rfl rfl hkb _ (fun w hF => ?_) hn) (by omega)
      obtain ⟨d, rfl⟩ := hF
      have k1 : (w1.at d).cell? ⟨g, i, none⟩ = some y := hy
      have k2 : (w1.at d).frozen? ⟨g, i, none⟩ = false := hf
      refine ⟨(w1.setCell ⟨g, i, none⟩ (.int .i64 x)).at d, Or.inr ⟨?_, rfl⟩, fun e he => ?_, ⟨d, rfl⟩⟩
      · simp [execOp, Act.eval, go_sem, d8, d9, k1, k2]
        try rfl
      · simp [execOp, Act.eval, go_sem, d8, d9, k1, k2] at he
        subst he
        exact evL_cell _ _ (hS _ (by show N ≤ g; omega)) (by show g < N + 4; omega)
  case hend =>
    intro s L hall
    have l10 : L 10 = true := hall 10 (by omega)
    rw [l10, if_pos rfl]
    exact hend
  rw [if_neg (by decide)] at key
  exact key
end Go.Proofs.YtpajdmhgonmgoaaDoor

namespace Go.Proofs.YtpajdmhgonmgoaaDoor
open Go.RowKit
set_option linter.unusedVariables false
open Go.Conc Go.ConcN Go.RowKit Go.Conc.Lib Go.ConcR.Gen
set_option linter.unusedSimpArgs false
theorem sl_ty : Tryd.prog.underlying 25 = some (.slice 3) := by kernel_rfl
theorem int_info : ∃ i, Tryd.prog.info? 3 = some i ∧ i.bytes = 8 ∧ i.size = 1 ∧ i.zero = some (.int .i64 0) := by
  have h : (Tryd.prog.info? 3).map (fun i => (i.bytes, i.size, i.zero)) = some (8, 1, some (.int .i64 0)) := by kernel_rfl
  obtain ⟨i, h1, h2⟩ := Option.map_eq_some_iff.1 h
  injection h2 with h2 h3
  injection h3 with h3 h4
  exact ⟨i, h1, h2, h3, h4⟩
theorem mk_run (w : World) (n : Nat) (h : n ≤ 10) : (Instr.makeSlice 25 (.int .i64 (n : Int)) (.int .i64 (n : Int))).run Tryd.prog w = .ok (.slice (some ⟨w.heap.size, 0, none⟩) n n) (w.alloc (.cells (madeCells #[.int .i64 0] n) 3)) := by
  obtain ⟨i, h1, h2, h3, h4⟩ := int_info
  have := run_makeSlice w 25 3 i (.int .i64 0) sl_ty h1 h4 .i64 .i64 (n : Int) (n : Int) (by omega) (Int.le_refl _) (by rw [h3]; omega) (by rw [h2]; omega) (by omega)
  simpa [h3, Value.cells] using this
theorem mk_ev (w : World) (n : Nat) (h : n ≤ 10) (es : Array Event) : (Instr.makeSlice 25 (.int .i64 (n : Int)) (.int .i64 (n : Int))).events Tryd.prog w es = es := by
  obtain ⟨i, h1, h2, h3, h4⟩ := int_info
  have wl : IntKind.i64.wrap (n : Int) = (n : Int) := by rw [IntKind.wrap_i64]; omega
  have n1 : ¬ ((n : Int) < 0) := by omega
  have n2 : ¬ (281474976710656 < (i.bytes : Int) * (n : Int)) := by rw [h2]; omega
  have n3 : ¬ (n * i.bytes > roomBytes) := by rw [h2]; simp [roomBytes]; omega
  by_cases hz : n * i.size = 0
  · simp [Instr.makeSlice, run_underlying sl_ty, asInt, asIntOf, typeInfo, h1, sizeOf, wl, n1, n2, hz, newRow, askRoom, n3]
  · simp [Instr.makeSlice, run_underlying sl_ty, asInt, asIntOf, typeInfo, h1, sizeOf, wl, n1, n2, hz, newRow, askRoom, n3, zeroValue, h4]
theorem set2 {w : World} {g : Nat} {x' y' x y : Value} (hg : w.heap[g]? = some (.cells #[x', y'] 33 (0, 0))) : w.cell? ⟨g, 0, none⟩ = some x' ∧ w.frozen? ⟨g, 0, none⟩ = false ∧ (w.setCell ⟨g, 0, none⟩ x).cell? ⟨g, 1, none⟩ = some y' ∧ (w.setCell ⟨g, 0, none⟩ x).frozen? ⟨g, 1, none⟩ = false ∧ w.cell? ⟨g, 1, none⟩ = some y' := by
  have h2 := heap_setCell_same w g 0 _ _ x hg
  exact ⟨cell_of_row w g 0 _ _ _ hg, frozen_of_row w g 0 _ _ hg, cell_of_row _ g 1 _ _ _ h2, frozen_of_row _ g 1 _ _ h2, cell_of_row w g 1 _ _ _ hg⟩
theorem st_run {w : World} {g : Nat} {x' y' : Value} {a1 a2 : Option Addr} {n1 n2 m1 m2 : Nat} (hg : w.heap[g]? = some (.cells #[x', y'] 33 (0, 0))) {a : Act} {p q : Nat} (hp : a.tmps[p]? = some (.pointer (some ⟨g, 0, none⟩))) (hq : a.tmps[q]? = some (.agg #[.slice a1 n1 m1, .slice a2 n2 m2])) {o : Oper} (ho : o.op = .store 33 (.tmp p) (.tmp q)) :
    (execOp a.eval o).run Tryd.prog w = .ok .skip ((w.setCell ⟨g, 0, none⟩ (.slice a1 n1 m1)).setCell ⟨g, 1, none⟩ (.slice a2 n2 m2)) ∧ (execOp a.eval o).events Tryd.prog w #[] = #[⟨.cell ⟨g, 0, none⟩, true, false⟩, ⟨.cell ⟨g, 1, none⟩, true, false⟩] := by
  obtain ⟨k1, k2, k3, k4, _⟩ := set2 (x := .slice a1 n1 m1) (y := .slice a2 n2 m2) hg
  constructor
  · simp [execOp, ho, hp, hq, go_sem, storeCells, k1, k2, k3, k4, Addr.add]
  · simp [execOp, ho, hp, hq, go_sem, storeCells, k1, k2, k3, k4, Addr.add]
theorem ld_run {w : World} {g : Nat} {x' y' : Value} (hg : w.heap[g]? = some (.cells #[x', y'] 33 (0, 0))) {a : Act} {p : Nat} (hp : a.tmps[p]? = some (.pointer (some ⟨g, 0, none⟩))) {o : Oper} (ho : o.op = .load 33 (.tmp p)) :
    (execOp a.eval o).run Tryd.prog w = .ok (.value (.agg #[x', y'])) w ∧ (execOp a.eval o).events Tryd.prog w #[] = #[⟨.cell ⟨g, 0, none⟩, false, false⟩, ⟨.cell ⟨g, 1, none⟩, false, false⟩] := by
  obtain ⟨k1, k2, _, _, k5⟩ := set2 (x := x') (y := y') hg
  constructor
  · simp [execOp, ho, hp, go_sem, loadCells, k1, k5, Addr.add]
  · simp [execOp, ho, hp, go_sem, loadCells, k1, k5, Addr.add]
theorem al_run {w : World} {a : Act} {o : Oper} (ho : o.op = .alloc 33) : (execOp a.eval o).run Tryd.prog w = .ok (.value (.pointer (some ⟨w.heap.size, 0, none⟩))) (w.alloc (.cells #[.slice none 0 0, .slice none 0 0] 33)) ∧ (execOp a.eval o).events Tryd.prog w #[] = #[] := by
  constructor
  · simp [execOp, ho, go_sem]
  · simp [execOp, ho, go_sem]
end Go.Proofs.YtpajdmhgonmgoaaDoor

