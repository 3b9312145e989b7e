/-
  What the last text of this claim leans on, part 43: Kf6.
-/
import Derived.Test.YtpajdmhgonmgoaaDoorYs42
namespace Go.Proofs.YtpajdmhgonmgoaaDoor
open Go.RowKit
set_option linter.unusedVariables false
open Go.Conc Go.ConcN Go.RowKit Go.Conc.Lib Go.ConcR.Gen
open Go.ConcR (KK wgBlock WgAt stA smA rd wr Payload DC0)
set_option linter.unusedSimpArgs false
def dlI : List (Option Nat) := [some 17, some 18, some 19, some 20, some 21, some 22, some 23, some 24, some 25]
def dpI : List (Nat × Nat) := [(2, 0), (2, 1), (3, 2), (6, 4), (6, 5), (7, 6), (8, 3), (8, 7)]
def vlI (g1 g2 n q1 q2 i : Nat) (x : Int) (j : Nat) : Value := ([(Value.slice (some ⟨g1, 0, none⟩) n q1), (.int .i64 (i : Int)), (Value.pointer (some ⟨g1, i, none⟩)), (.int .i64 x), (Value.slice (some ⟨g2, 0, none⟩) n q2), (.int .i64 (i : Int)), (Value.pointer (some ⟨g2, i, none⟩)), (.int .i64 x), (.bool false)] : List Value).getD j undef
set_option maxRecDepth 100000 in
set_option maxHeartbeats 3200000 in
theorem ints_R6 {Shun : Loc → Prop} {B g1 g2 n q1 q2 i : Nat} {x : Int} {w1 : World} {S : Goroutine → World → Prop} {a0 : Act} {k : List Item} {cs : List Frame} {m : Nat} (hin : i < n) (hz : a0.tmps.size = 26) (h0 : a0.tmps[0]? = some (Value.slice (some ⟨g1, 0, none⟩) n q1)) (h1 : a0.tmps[1]? = some (Value.slice (some ⟨g2, 0, none⟩) n q2)) (h5 : a0.tmps[5]? = some (.int .i64 (i : Int)))
    (hS1 : ¬ Shun (.cell ⟨g1, i, none⟩)) (hS2 : ¬ Shun (.cell ⟨g2, i, none⟩)) (hB1 : g1 < B) (hB2 : g2 < B) (hx1 : w1.cell? ⟨g1, i, none⟩ = some (.int .i64 x)) (hx2 : w1.cell? ⟨g2, i, none⟩ = some (.int .i64 x))
    (hend : Gp Tryd.prog (EvL Shun B) S m (G ((base 12).at (putsO a0 ((List.range 9).map fun j => (dlI.getD j none, vlI g1 g2 n q1 q2 i x j))) k) cs) (AtRel w1)) :
    Gp Tryd.prog (EvL Shun B) S (m + 47) (G ((base 12).at a0 (.code (cL (cL (cL (cR (cL (cL (cR (cL (cR (cR (bodyOf Tryd.f12))))))))))) :: k)) cs) (AtRel w1) := by
  have hc := atRel_c
  have hp0 : (0 : Int) ≤ (i : Int) := by omega
  have hp2 : (i : Int) < (n : Int) := by omega
  have hkb : (base 12).kind ≠ .early := by simp [base]
  simp only [cL, cR, bodyOf, Tryd.f12, Option.getD_some]
  have key := gp_drawS (σ := Unit) (E := EvL Shun B) (S := S) (b := base 12) (k := k) (cs := cs) (id := 6) (P := Tryd.prog) (by kernel_rfl) (cO (cL (cL (cL (cR (cL (cL (cR (cL (cR (cR (bodyOf Tryd.f12)))))))))))) 9 dlI dpI (fun L _ => AtRel w1) (fun j _ => vlI g1 g2 n q1 q2 i x j) 5 m (a0 := a0) (by rfl) (by rfl) (nd_of (by decide)) (fun t ht => by rw [hz]; exact lt_of_all (by decide) t ht) (by rfl) (by kernel_rfl) (by kernel_rfl) (fun L s => hc _) ?hop ?hend ()
  case hop =>
    intro j o L s a hj ho lj cl need hkeep hv rest M hn
    have t0 : a.tmps[0]? = some (Value.slice (some ⟨g1, 0, none⟩) n q1) := (hkeep 0 (by decide)).trans h0
    have t1 : a.tmps[1]? = some (Value.slice (some ⟨g2, 0, none⟩) n q2) := (hkeep 1 (by decide)).trans h1
    have t5 : a.tmps[5]? = some (.int .i64 (i : Int)) := (hkeep 5 (by decide)).trans h5
    replace hn := hn () (fun _ _ _ => rfl)
    simp only [cO, cL, cR, bodyOf, Tryd.f12, Option.getD_some] at ho hn ⊢
    have this : j = 0 ∨ j = 1 ∨ j = 2 ∨ j = 3 ∨ j = 4 ∨ j = 5 ∨ j = 6 ∨ j = 7 ∨ j = 8 := by omega
    rcases this with rfl | rfl | rfl | rfl | rfl | rfl | rfl | rfl | rfl
    · obtain rfl := Option.some.inj ho
      refine Gp.mono (gp_valw (F' := AtRel w1) (hc _) rfl rfl hkb _ (fun w hF => ⟨w, Or.inl ?_, fun e he => ?_, hF⟩) hn) (by omega)
      · simp [execOp, Act.eval, go_sem, t0]
        try rfl
      · simp [execOp, Act.eval, go_sem, evix1, evix2, evix3, t0] at he
    · obtain rfl := Option.some.inj ho
      refine Gp.mono (gp_valw (F' := AtRel w1) (hc _) rfl rfl hkb _ (fun w hF => ⟨w, Or.inl ?_, fun e he => ?_, hF⟩) hn) (by omega)
      · simp [execOp, Act.eval, go_sem, t5]
        try rfl
      · simp [execOp, Act.eval, go_sem, evix1, evix2, evix3, t5] at he
    · obtain rfl := Option.some.inj ho
      have d0 : a.tmps[17]? = some (Value.slice (some ⟨g1, 0, none⟩) n q1) := hv 0 17 (by decide) rfl
      have d1 : a.tmps[18]? = some (.int .i64 (i : Int)) := hv 1 18 (by decide) rfl
      refine Gp.mono (gp_valw (F' := AtRel w1) (hc _) rfl rfl hkb _ (fun w hF => ⟨w, Or.inl ?_, fun e he => ?_, hF⟩) hn) (by omega)
      · simp [execOp, Act.eval, go_sem, d0, d1, hp0, hp2]
        try rfl
      · simp [execOp, Act.eval, go_sem, evix1, evix2, evix3, d0, d1, hp0, hp2] at he
    · obtain rfl := Option.some.inj ho
      have d2 : a.tmps[19]? = some (Value.pointer (some ⟨g1, i, none⟩)) := hv 2 19 (by decide) rfl
      have hld : ∀ d, (w1.at d).cell? ⟨g1, i, none⟩ = some (.int .i64 x) := fun d => hx1
      refine Gp.mono (gp_valw (F' := AtRel w1) (hc _) rfl rfl hkb _ (fun w hF => ⟨w, Or.inl ?_, fun e he => ?_, hF⟩) hn) (by omega)
      · obtain ⟨d, rfl⟩ := hF
        simp [execOp, Act.eval, go_sem, d2, hld d]
        try rfl
      · obtain ⟨d, rfl⟩ := hF
        simp [execOp, Act.eval, go_sem, d2, hld d] at he
        subst he
        exact evL_cell _ _ hS1 hB1
    · obtain rfl := Option.some.inj ho
      refine Gp.mono (gp_valw (F' := AtRel w1) (hc _) rfl rfl hkb _ (fun w hF => ⟨w, Or.inl ?_, fun e he => ?_, hF⟩) hn) (by omega)
      · simp [execOp, Act.eval, go_sem, t1]
        try rfl
      · simp [execOp, Act.eval, go_sem, evix1, evix2, evix3, t1] at he
    · obtain rfl := Option.some.inj ho
      refine Gp.mono (gp_valw (F' := AtRel w1) (hc _) rfl rfl hkb _ (fun w hF => ⟨w, Or.inl ?_, fun e he => ?_, hF⟩) hn) (by omega)
      · simp [execOp, Act.eval, go_sem, t5]
        try rfl
      · simp [execOp, Act.eval, go_sem, evix1, evix2, evix3, t5] at he
    · obtain rfl := Option.some.inj ho
      have d4 : a.tmps[21]? = some (Value.slice (some ⟨g2, 0, none⟩) n q2) := hv 4 21 (by decide) rfl
      have d5 : a.tmps[22]? = some (.int .i64 (i : Int)) := hv 5 22 (by decide) rfl
      refine Gp.mono (gp_valw (F' := AtRel w1) (hc _) rfl rfl hkb _ (fun w hF => ⟨w, Or.inl ?_, fun e he => ?_, hF⟩) hn) (by omega)
      · simp [execOp, Act.eval, go_sem, d4, d5, hp0, hp2]
        try rfl
      · simp [execOp, Act.eval, go_sem, evix1, evix2, evix3, d4, d5, hp0, hp2] at he
    · obtain rfl := Option.some.inj ho
      have d6 : a.tmps[23]? = some (Value.pointer (some ⟨g2, i, none⟩)) := hv 6 23 (by decide) rfl
      have hld : ∀ d, (w1.at d).cell? ⟨g2, i, none⟩ = some (.int .i64 x) := fun d => hx2
      refine Gp.mono (gp_valw (F' := AtRel w1) (hc _) rfl rfl hkb _ (fun w hF => ⟨w, Or.inl ?_, fun e he => ?_, hF⟩) hn) (by omega)
      · obtain ⟨d, rfl⟩ := hF
        simp [execOp, Act.eval, go_sem, d6, hld d]
        try rfl
      · obtain ⟨d, rfl⟩ := hF
        simp [execOp, Act.eval, go_sem, d6, hld d] at he
        subst he
        exact evL_cell _ _ hS2 hB2
    · obtain rfl := Option.some.inj ho
      have d3 : a.tmps[20]? = some (.int .i64 x) := hv 3 20 (by decide) rfl
      have d7 : a.tmps[24]? = some (.int .i64 x) := hv 7 24 (by decide) rfl
      refine Gp.mono (gp_valw (F' := AtRel w1) (hc _) rfl rfl hkb _ (fun w hF => ⟨w, Or.inl ?_, fun e he => ?_, hF⟩) hn) (by omega)
      · simp [execOp, Act.eval, go_sem, d3, d7]
        try rfl
      · simp [execOp, Act.eval, go_sem, evix1, evix2, evix3, d3, d7] at he
  case hend =>
    intro s L hall
    exact hend
  exact key
set_option maxRecDepth 100000 in
set_option maxHeartbeats 6400000 in
theorem ints_loop {Shun : Loc → Prop} {B g1 g2 n q1 q2 : Nat} {f : Nat → Int} {w1 : World} {b₀ : Frame} {a₀ : Act} {ops₀ : Array Oper} {i₀ : Nat} {rest₀ : List Nat} {k₀ : List Item} {cs : List Frame} (hn10 : n ≤ 10) (hS1 : ∀ i, ¬ Shun (.cell ⟨g1, i, none⟩)) (hS2 : ∀ i, ¬ Shun (.cell ⟨g2, i, none⟩)) (hB1 : g1 < B) (hB2 : g2 < B) (hx1 : ∀ i, i < n → w1.cell? ⟨g1, i, none⟩ = some (.int .i64 (f i))) (hx2 : ∀ i, i < n → w1.cell? ⟨g2, i, none⟩ = some (.int .i64 (f i))) : ∀ (r i : Nat), i + r = n → ∀ (x2 x3 x4 x6 x7 x8 x9 x10 x11 x12 x13 x14 x15 x16 x17 x18 x19 x20 x21 x22 x23 x24 x25 : Value),
    Gp Tryd.prog (EvL Shun B) (fun g w => AtRel w1 w ∧ g = G (b₀.at (a₀.put ((ops₀[i₀]?).bind (·.dst)) (.bool true)) (.inRegion ops₀ rest₀ :: k₀)) cs) (80 * r + 40) (G ((base 12).at ⟨#[(Value.slice (some ⟨g1, 0, none⟩) n q1), (Value.slice (some ⟨g2, 0, none⟩) n q2), x2, x3, x4, (.int .i64 (i : Int)), x6, x7, x8, x9, x10, x11, x12, x13, x14, x15, x16, x17, x18, x19, x20, x21, x22, x23, x24, x25], []⟩ [.code (cL (cL (cR (cL (cR (cR (bodyOf Tryd.f12))))))), .inLoop (cL (cL (cR (cL (cR (cR (bodyOf Tryd.f12))))))), .inBlock 0, .code (cR (cR (cR (bodyOf Tryd.f12))))]) (b₀.at a₀ (.inRegion ops₀ (i₀ :: rest₀) :: k₀) :: cs)) (AtRel w1) := by
  have hc := atRel_c
  intro r
  induction r with
  | zero =>
    intro i hi x2 x3 x4 x6 x7 x8 x9 x10 x11 x12 x13 x14 x15 x16 x17 x18 x19 x20 x21 x22 x23 x24 x25
    obtain rfl : i = n := by omega
    have hlt : ¬ ((i : Int) < (i : Int)) := by omega
    simp only [cO, cL, cR, bodyOf, Tryd.f12, Option.getD_some]
    refine gp_seq (hc _) ?_
    refine gp_seq (hc _) ?_
    refine gp_region (hc _) ?_
    try simp only [List.size_toArray, List.length_cons, List.length_nil, Nat.reduceAdd, Nat.zero_add, List.range, List.range.loop]
    refine gp_opk (hc _) rfl rfl (by k_ne) (fun w hF K' hK => ?_)
    go_simp
    with_reducible refine hK _ (fun e' he => ?_) ?_
    · (clear hK; simp [go_sem] at he)
    clear hK K' hF
    clear w
    try walk_nrm
    refine gp_opk (hc _) rfl rfl (by k_ne) (fun w hF K' hK => ?_)
    go_simp
    with_reducible refine hK _ (fun e' he => ?_) ?_
    · (clear hK; simp [go_sem] at he)
    clear hK K' hF
    clear w
    try walk_nrm
    refine gp_opk (hc _) rfl rfl (by k_ne) (fun w hF K' hK => ?_)
    go_simp
    with_reducible refine hK _ (fun e' he => ?_) ?_
    · (clear hK; simp [go_sem] at he)
    clear hK K' hF
    clear w
    try walk_nrm
    refine gp_opk (hc _) rfl rfl (by k_ne) (fun w hF K' hK => ?_)
    go_simp
    with_reducible refine hK _ (fun e' he => ?_) ?_
    · (clear hK; simp [go_sem] at he)
    clear hK K' hF
    clear w
    try walk_nrm
    refine gp_done (hc _) ?_
    refine gp_cond (hc _) false ?_ ?_
    · (first | rfl | (simp [Act.eval, *]; done))
    simp only [if_false, Bool.false_eq_true, ↓reduceIte]
    refine gp_exit (hc _) rfl ?_
    refine gp_seq (hc _) ?_
    refine gp_region (hc _) ?_
    try simp only [List.size_toArray, List.length_cons, List.length_nil, Nat.reduceAdd, Nat.zero_add, List.range, List.range.loop]
    refine gp_opk (hc _) rfl rfl (by k_ne) (fun w hF K' hK => ?_)
    go_simp
    with_reducible refine hK _ (fun e' he => ?_) ?_
    · (clear hK; simp [go_sem] at he)
    clear hK K' hF
    clear w
    try walk_nrm
    refine gp_done (hc _) ?_
    refine gp_ret (hc _) ?_
    refine gp_leave1 (hc _) rfl rfl Tryd.func12 rfl ?_
    try walk_nrm
    exact Gp.stop (hc _) (fun w hF => ⟨hF, rfl⟩)
  | succ r ih =>
    intro i hi x2 x3 x4 x6 x7 x8 x9 x10 x11 x12 x13 x14 x15 x16 x17 x18 x19 x20 x21 x22 x23 x24 x25
    have hin : i < n := by omega
    have hlt : (i : Int) < (n : Int) := by omega
    have hwi : IntKind.wrap .i64 ((i : Int) + 1) = (i : Int) + 1 := wrap_fit ⟨by omega, by omega⟩
    have next := ih (i + 1) (by omega) x2 x3 x4 x6 x7 x8 x9 x10 (.int .i64 (i : Int)) (Value.slice (some ⟨g1, 0, none⟩) n q1) (.int .i64 (n : Int)) (.bool true) (.int .i64 (i : Int)) (.int .i64 ((i : Int) + 1)) (Value.slice (some ⟨g1, 0, none⟩) n q1) (.int .i64 (i : Int)) (Value.pointer (some ⟨g1, i, none⟩)) (.int .i64 (f i)) (Value.slice (some ⟨g2, 0, none⟩) n q2) (.int .i64 (i : Int)) (Value.pointer (some ⟨g2, i, none⟩)) (.int .i64 (f i)) (.bool false)
    have e1 : ((i + 1 : Nat) : Int) = (i : Int) + 1 := rfl
    rw [e1] at next
    clear ih
    have q6 := ints_R6 (Shun := Shun) (B := B) (g1 := g1) (g2 := g2) (n := n) (q1 := q1) (q2 := q2) (i := i) (x := f i) (w1 := w1) (S := fun g w => AtRel w1 w ∧ g = G (b₀.at (a₀.put ((ops₀[i₀]?).bind (·.dst)) (.bool true)) (.inRegion ops₀ rest₀ :: k₀)) cs) (a0 := ⟨#[(Value.slice (some ⟨g1, 0, none⟩) n q1), (Value.slice (some ⟨g2, 0, none⟩) n q2), x2, x3, x4, (.int .i64 (i : Int)), x6, x7, x8, x9, x10, (.int .i64 (i : Int)), (Value.slice (some ⟨g1, 0, none⟩) n q1), (.int .i64 (n : Int)), (.bool true), x15, x16, x17, x18, x19, x20, x21, x22, x23, x24, x25], []⟩) (k := .code (cR (cL (cL (cR (cL (cL (cR (cL (cR (cR (bodyOf Tryd.f12))))))))))) :: [.inBlock 1, .code (cR (cR (cL (cL (cR (cL (cR (cR (bodyOf Tryd.f12))))))))), .inLoop (cL (cL (cR (cL (cR (cR (bodyOf Tryd.f12))))))), .inBlock 0, .code (cR (cR (cR (bodyOf Tryd.f12))))]) (cs := (b₀.at a₀ (.inRegion ops₀ (i₀ :: rest₀) :: k₀) :: cs)) (m := 80 * r + 40 + 10) hin rfl rfl rfl rfl (hS1 i) (hS2 i) hB1 hB2 (hx1 i hin) (hx2 i hin) (by
      have ea : putsO ⟨#[(Value.slice (some ⟨g1, 0, none⟩) n q1), (Value.slice (some ⟨g2, 0, none⟩) n q2), x2, x3, x4, (.int .i64 (i : Int)), x6, x7, x8, x9, x10, (.int .i64 (i : Int)), (Value.slice (some ⟨g1, 0, none⟩) n q1), (.int .i64 (n : Int)), (.bool true), x15, x16, x17, x18, x19, x20, x21, x22, x23, x24, x25], []⟩ ((List.range 9).map fun j => (dlI.getD j none, vlI g1 g2 n q1 q2 i (f i) j)) = ⟨#[(Value.slice (some ⟨g1, 0, none⟩) n q1), (Value.slice (some ⟨g2, 0, none⟩) n q2), x2, x3, x4, (.int .i64 (i : Int)), x6, x7, x8, x9, x10, (.int .i64 (i : Int)), (Value.slice (some ⟨g1, 0, none⟩) n q1), (.int .i64 (n : Int)), (.bool true), x15, x16, (Value.slice (some ⟨g1, 0, none⟩) n q1), (.int .i64 (i : Int)), (Value.pointer (some ⟨g1, i, none⟩)), (.int .i64 (f i)), (Value.slice (some ⟨g2, 0, none⟩) n q2), (.int .i64 (i : Int)), (Value.pointer (some ⟨g2, i, none⟩)), (.int .i64 (f i)), (.bool false)], []⟩ := rfl
      rw [ea]
      clear ea
      simp only [cO, cL, cR, bodyOf, Tryd.f12, Option.getD_some] at next ⊢
      refine gp_cond (hc _) false ?_ ?_
      · (first | rfl | (simp [Act.eval, *]; done))
      simp only [if_false, Bool.false_eq_true, ↓reduceIte]
      refine gp_skip (hc _) ?_
      refine gp_inBlock (hc _) ?_
      refine gp_region (hc _) ?_
      try simp only [List.size_toArray, List.length_cons, List.length_nil, Nat.reduceAdd, Nat.zero_add, List.range, List.range.loop]
      refine gp_opk (hc _) rfl rfl (by k_ne) (fun w hF K' hK => ?_)
      go_simp
      with_reducible refine hK _ (fun e' he => ?_) ?_
      · (clear hK; simp [go_sem] at he)
      clear hK K' hF
      clear w
      try walk_nrm
      refine gp_opk (hc _) rfl rfl (by k_ne) (fun w hF K' hK => ?_)
      go_simp
      with_reducible refine hK _ (fun e' he => ?_) ?_
      · (clear hK; simp [go_sem] at he)
      clear hK K' hF
      clear w
      try walk_nrm
      refine gp_opk (hc _) rfl rfl (by k_ne) (fun w hF K' hK => ?_)
      go_simp
      with_reducible refine hK _ (fun e' he => ?_) ?_
      · (clear hK; simp [go_sem] at he)
      clear hK K' hF
      clear w
      try walk_nrm
      refine gp_done (hc _) ?_
      refine gp_inLoop (hc _) ?_

      exact Gp.mono next (by omega))
    clear next
    simp only [cO, cL, cR, bodyOf, Tryd.f12, Option.getD_some] at q6 ⊢
    refine gp_seq (hc _) ?_
    refine gp_seq (hc _) ?_
    refine gp_region (hc _) ?_
    try simp only [List.size_toArray, List.length_cons, List.length_nil, Nat.reduceAdd, Nat.zero_add, List.range, List.range.loop]
    refine gp_opk (hc _) rfl rfl (by k_ne) (fun w hF K' hK => ?_)
    go_simp
    with_reducible refine hK _ (fun e' he => ?_) ?_
    · (clear hK; simp [go_sem] at he)
    clear hK K' hF
    clear w
    try walk_nrm
    refine gp_opk (hc _) rfl rfl (by k_ne) (fun w hF K' hK => ?_)
    go_simp
    with_reducible refine hK _ (fun e' he => ?_) ?_
    · (clear hK; simp [go_sem] at he)
    clear hK K' hF
    clear w
    try walk_nrm
    refine gp_opk (hc _) rfl rfl (by k_ne) (fun w hF K' hK => ?_)
    go_simp
    with_reducible refine hK _ (fun e' he => ?_) ?_
    · (clear hK; simp [go_sem] at he)
    clear hK K' hF
    clear w
    try walk_nrm
    refine gp_opk (hc _) rfl rfl (by k_ne) (fun w hF K' hK => ?_)
    go_simp
    with_reducible refine hK _ (fun e' he => ?_) ?_
    · (clear hK; simp [go_sem] at he)
    clear hK K' hF
    clear w
    try walk_nrm
    refine gp_done (hc _) ?_
    refine gp_cond (hc _) true ?_ ?_
    · (first | rfl | (simp [Act.eval, *]; done))
    simp only [if_true, ↓reduceIte]
    refine gp_skip (hc _) ?_
    refine gp_seq (hc _) ?_
    refine gp_block (hc _) ?_
    refine gp_seq (hc _) ?_
    exact Gp.mono q6 (by omega)
set_option maxRecDepth 100000 in
set_option maxHeartbeats 6400000 in
/-- Ints of two rows that agree. -/
theorem ints_x {Shun : Loc → Prop} {B g1 g2 n q1 q2 : Nat} {f : Nat → Int} {w1 : World} {b₀ : Frame} {a₀ : Act} {ops₀ : Array Oper} {i₀ : Nat} {rest₀ : List Nat} {k₀ : List Item} {cs : List Frame} {c : Code} (hcd : (bodyOf Tryd.f12) = c) (hn10 : n ≤ 10) (hS1 : ∀ i, ¬ Shun (.cell ⟨g1, i, none⟩)) (hS2 : ∀ i, ¬ Shun (.cell ⟨g2, i, none⟩)) (hB1 : g1 < B) (hB2 : g2 < B) (hx1 : ∀ i, i < n → w1.cell? ⟨g1, i, none⟩ = some (.int .i64 (f i))) (hx2 : ∀ i, i < n → w1.cell? ⟨g2, i, none⟩ = some (.int .i64 (f i))) :
    Gp Tryd.prog (EvL Shun B) (fun g w => AtRel w1 w ∧ g = G (b₀.at (a₀.put ((ops₀[i₀]?).bind (·.dst)) (.bool true)) (.inRegion ops₀ rest₀ :: k₀)) cs) (80 * n + 80) (G ((base 12).at ⟨#[(Value.slice (some ⟨g1, 0, none⟩) n q1), (Value.slice (some ⟨g2, 0, none⟩) n q2), undef, undef, undef, undef, undef, undef, undef, undef, undef, undef, undef, undef, undef, undef, undef, undef, undef, undef, undef, undef, undef, undef, undef, undef], []⟩ [.code c]) (b₀.at a₀ (.inRegion ops₀ (i₀ :: rest₀) :: k₀) :: cs)) (AtRel w1) := by
  have hc := atRel_c
  subst hcd
  have lo := fun (x2 x3 x4 x6 x7 x8 x9 x10 x11 x12 x13 x14 x15 x16 x17 x18 x19 x20 x21 x22 x23 x24 x25 : Value) => ints_loop (Shun := Shun) (B := B) (g1 := g1) (g2 := g2) (n := n) (q1 := q1) (q2 := q2) (f := f) (w1 := w1) (b₀ := b₀) (a₀ := a₀) (ops₀ := ops₀) (i₀ := i₀) (rest₀ := rest₀) (k₀ := k₀) (cs := cs) hn10 hS1 hS2 hB1 hB2 hx1 hx2 n 0 (by omega) x2 x3 x4 x6 x7 x8 x9 x10 x11 x12 x13 x14 x15 x16 x17 x18 x19 x20 x21 x22 x23 x24 x25
  simp only [cO, cL, cR, bodyOf, Tryd.f12, Option.getD_some] at lo ⊢
  refine gp_seq (hc _) ?_
  refine gp_region (hc _) ?_
  try simp only [List.size_toArray, List.length_cons, List.length_nil, Nat.reduceAdd, Nat.zero_add, List.range, List.range.loop]
  refine gp_opk (hc _) rfl rfl (by k_ne) (fun w hF K' hK => ?_)
  go_simp
  with_reducible refine hK _ (fun e' he => ?_) ?_
  · (clear hK; simp [go_sem] at he)
  clear hK K' hF
  clear w
  try walk_nrm
  refine gp_done (hc _) ?_
  refine gp_seq (hc _) ?_
  refine gp_seq (hc _) ?_
  refine gp_region (hc _) ?_
  try simp only [List.size_toArray, List.length_cons, List.length_nil, Nat.reduceAdd, Nat.zero_add, List.range, List.range.loop]
  refine gp_opk (hc _) rfl rfl (by k_ne) (fun w hF K' hK => ?_)
  go_simp
  with_reducible refine hK _ (fun e' he => ?_) ?_
  · (clear hK; simp [go_sem] at he)
  clear hK K' hF
  clear w
  try walk_nrm
  refine gp_opk (hc _) rfl rfl (by k_ne) (fun w hF K' hK => ?_)
  go_simp
  with_reducible refine hK _ (fun e' he => ?_) ?_
  · (clear hK; simp [go_sem] at he)
  clear hK K' hF
  clear w
  try walk_nrm
  refine gp_opk (hc _) rfl rfl (by k_ne) (fun w hF K' hK => ?_)
  go_simp
  with_reducible refine hK _ (fun e' he => ?_) ?_
  · (clear hK; simp [go_sem] at he)
  clear hK K' hF
  clear w
  try walk_nrm
  refine gp_opk (hc _) rfl rfl (by k_ne) (fun w hF K' hK => ?_)
  go_simp
  with_reducible refine hK _ (fun e' he => ?_) ?_
  · (clear hK; simp [go_sem] at he)
  clear hK K' hF
  clear w
  try walk_nrm
  refine gp_opk (hc _) rfl rfl (by k_ne) (fun w hF K' hK => ?_)
  go_simp
  with_reducible refine hK _ (fun e' he => ?_) ?_
  · (clear hK; simp [go_sem] at he)
  clear hK K' hF
  clear w
  try walk_nrm
  refine gp_done (hc _) ?_
  refine gp_cond (hc _) false ?_ ?_
  · (first | rfl | (simp [Act.eval, *]; done))
  simp only [if_false, Bool.false_eq_true, ↓reduceIte]
  refine gp_skip (hc _) ?_
  refine gp_seq (hc _) ?_
  refine gp_seq (hc _) ?_
  refine gp_region (hc _) ?_
  try simp only [List.size_toArray, List.length_cons, List.length_nil, Nat.reduceAdd, Nat.zero_add, List.range, List.range.loop]
  refine gp_opk (hc _) rfl rfl (by k_ne) (fun w hF K' hK => ?_)
  go_simp
  with_reducible refine hK _ (fun e' he => ?_) ?_
  · (clear hK; simp [go_sem] at he)
  clear hK K' hF
  clear w
  try walk_nrm
  refine gp_done (hc _) ?_
  refine gp_block (hc _) ?_
  refine gp_loop (hc _) ?_
  exact Gp.mono (lo _ _ _ _ _ _ _ _ _ _ _ _ _ _ _ _ _ _ _ _ _ _ _) (by omega)
end Go.Proofs.YtpajdmhgonmgoaaDoor

