/-
  What the last text of this claim leans on, part 12: Kb6, Kb7.
-/
import Derived.Test.YtpajdmhgonmgoaaDoorYt11
namespace Go.Proofs.YtpajdmhgonmgoaaDoor
open Go.RowKit
set_option linter.unusedVariables false
open Go.Conc Go.ConcN Go.RowKit Go.Conc.Lib Go.ConcR.Gen
open Go.ConcR (KK wgBlock WgAt stA smA rd wr Payload DC0)
set_option linter.unusedSimpArgs false
theorem gd_sink (n s : Nat) (b : Nat → Nat → Int) : gdF n s b 1 = (s : Int) := rfl
theorem gd_n (n s : Nat) (b : Nat → Nat → Int) : gdF n s b 0 = (n : Int) := rfl
theorem gd_deg (n s : Nat) (b : Nat → Nat → Int) {p : Nat} (hp : p < 10) : gdF n s b (2 + p) = smS n (b p) := by
  unfold gdF
  rw [if_neg (by omega), if_neg (by omega), if_pos (by omega), show 2 + p - 2 = p by omega]
theorem gd_gv (n s : Nat) (b : Nat → Nat → Int) {p q : Nat} (hq : q < 10) : gdF n s b (12 + 10 * p + q) = gvS n s b p q := by
  unfold gdF
  rw [if_neg (by omega), if_neg (by omega), if_neg (by omega), show (12 + 10 * p + q - 12) / 10 = p by omega, show (12 + 10 * p + q - 12) % 10 = q by omega]
set_option maxRecDepth 100000 in
set_option maxHeartbeats 1600000 in
theorem often_x [Payload] {C N n s : Nat} {b : Nat → Nat → Int} {c0 u0 : Nat → Int} {K : Int} {nw L : Nat} {Shun : Loc → Prop} {t : Site} (e : SiteS t C N n s b c0 u0 K nw L Shun) {S : Goroutine → World → Prop} {M : Nat} {fb : Frame} {a : Act} {k : List Item} {cs : List Frame} {ops : Array Oper} {i : Nat} {rest : List Nat} {o : Oper} {x y z : Operand} {ats : Array TypeId} {p : Nat} {v : Int} (hp : p < n) (hn10 : n ≤ 10) (hps : p ≠ s) (hv0 : 0 ≤ v) (hv1 : v ≤ 100000) (hd : 1 ≤ smS n (b p))
    (ho : ops[i]? = some o) (hw : Region.wanted o (yielded ops a.tmps) = true) (hk : fb.kind ≠ .early) (hop : o.op = .call { callee := .value (.func 27), args := #[x, y, z], argTypes := ats }) (hx : a.eval x = .pointer (some ⟨C, 0, none⟩)) (hy : a.eval y = .int .i64 (p : Int)) (hz : a.eval z = .int .i64 v)
    (hn : Gw Tryd.prog false t.Fix (EvR C N) S M (G (fb.at (a.put o.dst (.int .i64 (v.tdiv (smS n (b p))))) (.inRegion ops rest :: k)) cs)) :
    Gw Tryd.prog false t.Fix (EvR C N) S (M + 40) (G (fb.at a (.inRegion ops (i :: rest) :: k)) cs) := by
  obtain ⟨dg, hdg⟩ : ∃ dg, smS n (b p) = dg := ⟨_, rfl⟩
  rw [hdg] at hn hd
  have hps' : ((p : Int) == (s : Int)) = false := by simp; omega
  have hwr : IntKind.wrap .i64 (v.tdiv dg) = v.tdiv dg := by
    obtain ⟨h1, h2, h3⟩ := div_facts hv0 hd
    have h4 : v.tdiv dg ≤ v := by
      have : v.tdiv dg * 1 ≤ v.tdiv dg * dg := Int.mul_le_mul_of_nonneg_left hd h1
      omega
    exact wrap_fit ⟨by omega, by omega⟩
  have hdz : ¬ dg = 0 := by omega
  have hp0 : (0 : Int) ≤ (p : Int) := by omega
  have hp1 : (p : Int) < 10 := by omega
  have k1 : ∀ w, t.Fix w → w.cell? ⟨C, 1, none⟩ = some (.int .i64 (s : Int)) := fun w hF => by rw [fix_gd e hF (by omega), gd_sink]
  have k2 : ∀ w, t.Fix w → w.cell? ⟨C, 2 + p, none⟩ = some (.int .i64 dg) := fun w hF => by rw [fix_gd e hF (by omega), gd_deg _ _ _ (by omega), hdg]
  refine gw_call ho hw hk hop Tryd.func27 rfl rfl ?_
  simp only [List.map_toArray, List.map_cons, List.map_nil, hx, hy, hz, Tryd.f27]
  walk_nrm
  refine gw_seq ?_
  refine gw_region ?_
  try simp only [List.size_toArray, List.length_cons, List.length_nil, Nat.reduceAdd, Nat.zero_add, List.range, List.range.loop]
  refine gw_opk rfl rfl (by k_ne) (fun w hF K' hK => ?_)
  go_simp
  refine hK _ (fun e he => ?_) ?_
  · (clear hK; simp [go_sem, *, evix1, evix2, evix3] at he)
  clear hK K' hF
  clear w
  try walk_nrm
  refine gw_done ?_
  refine gw_seq ?_
  refine gw_seq ?_
  refine gw_region ?_
  try simp only [List.size_toArray, List.length_cons, List.length_nil, Nat.reduceAdd, Nat.zero_add, List.range, List.range.loop]
  refine gw_opk rfl rfl (by k_ne) (fun w hF K' hK => ?_)
  go_simp
  refine hK _ (fun e he => ?_) ?_
  · (clear hK; simp [go_sem, *, evix1, evix2, evix3] at he)
  clear hK K' hF
  clear w
  try walk_nrm
  refine gw_opk rfl rfl (by k_ne) (fun w hF K' hK => ?_)
  go_simp
  refine hK _ (fun e he => ?_) ?_
  · (clear hK; simp [go_sem, *, evix1, evix2, evix3] at he)
  clear hK K' hF
  clear w
  try walk_nrm
  refine gw_opk rfl rfl (by k_ne) (fun w hF K' hK => ?_)
  go_simp
  refine hK _ (fun e he => ?_) ?_
  · (clear hK; simp [go_sem, *, evix1, evix2, evix3] at he)
  clear hK K' hF
  clear w
  try walk_nrm
  refine gw_opk rfl rfl (by k_ne) (fun w hF K' hK => ?_)
  go_simp
  refine hK _ (fun e he => ?_) ?_
  · (clear hK; simp [go_sem, *, evix1, evix2, evix3] at he)
  clear hK K' hF
  clear w
  try walk_nrm
  refine gw_opk rfl rfl (by k_ne) (fun w hF K' hK => ?_)
  have fc0 := k1 w hF
  go_simp
  refine hK _ (fun e he => ?_) ?_
  · (clear hK; simp [go_sem, *, evix1, evix2, evix3] at he; subst he; exact ⟨_, rfl, Or.inl ⟨1, by omega, rfl⟩⟩)
  clear hK K' hF
  clear fc0
  clear w
  try walk_nrm
  refine gw_opk rfl rfl (by k_ne) (fun w hF K' hK => ?_)
  go_simp
  refine hK _ (fun e he => ?_) ?_
  · (clear hK; simp [go_sem, *, evix1, evix2, evix3] at he)
  clear hK K' hF
  clear w
  try walk_nrm
  refine gw_done ?_
  refine gw_cond false rfl ?_
  simp only [if_false, Bool.false_eq_true, ↓reduceIte]
  refine gw_skip ?_
  refine gw_seq ?_
  refine gw_region ?_
  try simp only [List.size_toArray, List.length_cons, List.length_nil, Nat.reduceAdd, Nat.zero_add, List.range, List.range.loop]
  refine gw_opk rfl rfl (by k_ne) (fun w hF K' hK => ?_)
  go_simp
  refine hK _ (fun e he => ?_) ?_
  · (clear hK; simp [go_sem, *, evix1, evix2, evix3] at he)
  clear hK K' hF
  clear w
  try walk_nrm
  refine gw_opk rfl rfl (by k_ne) (fun w hF K' hK => ?_)
  go_simp
  refine hK _ (fun e he => ?_) ?_
  · (clear hK; simp [go_sem, *, evix1, evix2, evix3] at he)
  clear hK K' hF
  clear w
  try walk_nrm
  refine gw_opk rfl rfl (by k_ne) (fun w hF K' hK => ?_)
  go_simp
  refine hK _ (fun e he => ?_) ?_
  · (clear hK; simp [go_sem, *, evix1, evix2, evix3] at he)
  clear hK K' hF
  clear w
  try walk_nrm
  refine gw_opk rfl rfl (by k_ne) (fun w hF K' hK => ?_)
  go_simp
  refine hK _ (fun e he => ?_) ?_
  · (clear hK; simp [go_sem, *, evix1, evix2, evix3] at he)
  clear hK K' hF
  clear w
  try walk_nrm
  refine gw_opk rfl rfl (by k_ne) (fun w hF K' hK => ?_)
  go_simp
  refine hK _ (fun e he => ?_) ?_
  · (clear hK; simp [go_sem, *, evix1, evix2, evix3] at he)
  clear hK K' hF
  clear w
  try walk_nrm
  refine gw_opk rfl rfl (by k_ne) (fun w hF K' hK => ?_)
  go_simp
  refine hK _ (fun e he => ?_) ?_
  · (clear hK; simp [go_sem, *, evix1, evix2, evix3] at he)
  clear hK K' hF
  clear w
  try walk_nrm
  refine gw_opk rfl rfl (by k_ne) (fun w hF K' hK => ?_)
  have fc0 := k2 w hF
  go_simp
  refine hK _ (fun e he => ?_) ?_
  · (clear hK; simp [go_sem, *, evix1, evix2, evix3] at he; subst he; exact ⟨_, rfl, Or.inl ⟨2 + p, by omega, rfl⟩⟩)
  clear hK K' hF
  clear fc0
  clear w
  try walk_nrm
  refine gw_opk rfl rfl (by k_ne) (fun w hF K' hK => ?_)
  go_simp
  refine hK _ (fun e he => ?_) ?_
  · (clear hK; simp [go_sem, *, evix1, evix2, evix3] at he)
  clear hK K' hF
  clear w
  try walk_nrm
  refine gw_opk rfl rfl (by k_ne) (fun w hF K' hK => ?_)
  go_simp
  refine hK _ (fun e he => ?_) ?_
  · (clear hK; simp [go_sem, *, evix1, evix2, evix3] at he)
  clear hK K' hF
  clear w
  try walk_nrm
  refine gw_done ?_
  refine gw_ret ?_
  refine gw_leave1 rfl rfl Tryd.func27 rfl ?_
  try walk_nrm
  rw [ho]
  exact Gw.mono hn (by omega)
end Go.Proofs.YtpajdmhgonmgoaaDoor

namespace Go.Proofs.YtpajdmhgonmgoaaDoor
open Go.RowKit
set_option linter.unusedVariables false
open Go.Conc Go.ConcN Go.RowKit Go.Conc.Lib Go.ConcR.Gen
open Go.ConcR (KK wgBlock WgAt stA smA rd wr Payload DC0)
set_option linter.unusedSimpArgs false
theorem nd_of {dl : List (Option Nat)} (h : ((List.range dl.length).all fun i => (List.range dl.length).all fun j => decide (j = i) || (dl.getD i none == none) || (dl.getD i none != dl.getD j none)) = true) (i j t : Nat) (hi : dl[i]? = some (some t)) (hj : dl[j]? = some (some t)) : j = i := by
  have li := (List.getElem?_eq_some_iff.1 hi).1
  have lj := (List.getElem?_eq_some_iff.1 hj).1
  have h1 := (List.all_eq_true.1 ((List.all_eq_true.1 h) i (List.mem_range.2 li))) j (List.mem_range.2 lj)
  have ei : dl.getD i none = some t := by rw [List.getD_eq_getElem?_getD, hi]; rfl
  have ej : dl.getD j none = some t := by rw [List.getD_eq_getElem?_getD, hj]; rfl
  rw [ei, ej] at h1
  simpa using h1
theorem lt_of_all {dl : List (Option Nat)} {m : Nat} (h : (dl.all fun o => match o with | none => true | some t => decide (t < m)) = true) (t : Nat) (ht : some t ∈ dl) : t < m := by
  have := (List.all_eq_true.1 h) _ ht
  simpa using this
section
variable {P : Program} {main : Bool} {F : World → Prop} {E : Event → Prop} {S : Goroutine → World → Prop} {m : Nat} {fb : Frame} {a : Act} {k : List Item} {cs : List Frame}
theorem gw_val {ops : Array Oper} {i : Nat} {rest : List Nat} {o : Oper} (ho : ops[i]? = some o) (hw : Region.wanted o (yielded ops a.tmps) = true) (hk : fb.kind ≠ .early) (v : Value) (hr : ∀ w, F w → (execOp a.eval o).run P w = .ok (.value v) w) (he : ∀ w, F w → ∀ e ∈ (execOp a.eval o).events P w #[], E e)
    (hn : Gw P main F E S m (G (fb.at (a.put o.dst v) (.inRegion ops rest :: k)) cs)) : Gw P main F E S (m + 1) (G (fb.at a (.inRegion ops (i :: rest) :: k)) cs) :=
  gw_opk ho hw hk fun w hF K hK => by
    rw [hr w hF]
    exact hK _ (he w hF) hn
end
def dlR1 : List (Option Nat) := [some 8, some 9, some 10, some 11, some 12, some 13, some 14, some 15, some 16, some 17, some 18, some 5]
def dpR1 : List (Nat × Nat) := [(1, 0), (2, 1), (6, 4), (7, 6), (8, 7), (8, 5), (9, 8), (10, 2), (10, 3), (10, 9), (11, 10)]
def vlR1 (C p : Nat) (v q d : Int) (i : Nat) : Value := ([(Value.pointer (some ⟨C, 0, none⟩)), (Value.pointer (some ⟨C, 0, none⟩)), (Value.pointer (some ⟨C, 0, none⟩)), (Value.int .i64 (p : Int)), (Value.pointer (some ⟨C, 0, none⟩)), (Value.int .i64 (p : Int)), (Value.pointer (some ⟨C, 0, none⟩)), (Value.pointer (some ⟨C, 112, none⟩)), (Value.pointer (some (cpL C p))), .int .i64 v, .int .i64 q, .int .i64 q] : List Value).getD i undef
set_option maxRecDepth 100000 in
set_option maxHeartbeats 3200000 in
theorem look_r1 [Payload] {C N n s : Nat} {b : Nat → Nat → Int} {c0 u0 : Nat → Int} {K : Int} {nw L : Nat} {Shun : Loc → Prop} {t : Site} (e : SiteS t C N n s b c0 u0 K nw L Shun) {a0 : Act} {k : List Item} {cs : List Frame} {p : Nat} (hp : p < n) (hn10 : n ≤ 10) (hps : p ≠ s) (hd : 1 ≤ smS n (b p)) (hz : a0.tmps.size = 68) (h0 : a0.tmps[0]? = some (Value.pointer (some ⟨C, 0, none⟩))) (h1 : a0.tmps[1]? = some (Value.int .i64 (p : Int)))
    (hn : ∀ v, (p < n ∧ p ≠ s ∧ 0 ≤ v ∧ v ≤ 100000) → ∃ M, Gw Tryd.prog false t.Fix (EvR C N) (t.AtAdds (t.plan p v)) M (G ((base 40).at (putsO a0 ((List.range 12).map fun i => (dlR1.getD i none, vlR1 C p v (v.tdiv (smS n (b p))) 0 i))) k) cs)) :
    ∃ M, Gw Tryd.prog false t.Fix (EvR C N) (t.AtLoad p) M (G ((base 40).at a0 (.code (cL (cR (bodyOf Tryd.f40))) :: k)) cs) := by
  have hp0 : (0 : Int) ≤ (p : Int) := by omega
  have hp1 : (p : Int) < 10 := by omega
  have hkb : (base 40).kind ≠ .early := by simp [base]
  simp only [cL, cR, bodyOf, Tryd.f40, Option.getD_some]
  refine gw_draw (σ := Option Int) (fun z => match z with | none => t.AtLoad p | some v => t.AtAdds (t.plan p v)) (by kernel_rfl) _ 12 dlR1 dpR1 9 none (fun z => ∃ v, z = some v ∧ p < n ∧ p ≠ s ∧ 0 ≤ v ∧ v ≤ 100000) (fun i z => vlR1 C p (z.getD 0) ((z.getD 0).tdiv (smS n (b p))) 0 i) 45 (by kernel_rfl) rfl (nd_of (by decide)) (fun t ht => by rw [hz]; exact lt_of_all (by decide) t ht) (by kernel_rfl) (by kernel_rfl) (by kernel_rfl) (by omega) ?late ?step ?cross ?ends
  case late =>
    intro L cl hL i z hi hLi
    have this : i = 0 ∨ i = 1 ∨ i = 2 ∨ i = 3 ∨ i = 4 ∨ i = 5 ∨ i = 6 ∨ i = 7 ∨ i = 8 ∨ i = 9 ∨ i = 10 ∨ i = 11 := by omega
    have l10 : L 10 = false := by
      cases h : L 10 with
      | false => rfl
      | true => rw [cl 10 9 (by decide) h] at hL; cases hL
    have l11 : L 11 = false := by
      cases h : L 11 with
      | false => rfl
      | true => rw [cl 11 10 (by decide) h] at l10; cases l10
    rcases this with rfl | rfl | rfl | rfl | rfl | rfl | rfl | rfl | rfl | rfl | rfl | rfl <;> first | rfl | (rw [hL] at hLi; cases hLi) | (rw [l10] at hLi; cases hLi) | (rw [l11] at hLi; cases hLi)
  case step =>
    intro i o hi hne ho z a hzs hkeep hv rest M hn
    have t0 : a.tmps[0]? = some (Value.pointer (some ⟨C, 0, none⟩)) := (hkeep 0 (by decide)).trans h0
    have t1 : a.tmps[1]? = some (Value.int .i64 (p : Int)) := (hkeep 1 (by decide)).trans h1
    have hzv : 0 ≤ z.getD 0 ∧ z.getD 0 ≤ 100000 := by
      rcases hzs with rfl | ⟨v, rfl, _, _, h1, h2⟩
      · decide
      · exact ⟨h1, h2⟩
    have this : i = 0 ∨ i = 1 ∨ i = 2 ∨ i = 3 ∨ i = 4 ∨ i = 5 ∨ i = 6 ∨ i = 7 ∨ i = 8 ∨ i = 9 ∨ i = 10 ∨ i = 11 := by omega
    rcases this with rfl | rfl | rfl | rfl | rfl | rfl | rfl | rfl | rfl | rfl | rfl | rfl
    · obtain rfl := Option.some.inj ho
      refine Gw.mono (gw_val rfl rfl hkb _ (fun w hF => ?_) (fun w hF e he => by (simp [execOp, Act.eval, go_sem, evix1, evix2, evix3, t0] at he)) hn) (by omega)
      simp [execOp, Act.eval, go_sem, t0]
      try rfl
    · obtain rfl := Option.some.inj ho
      have d0 : a.tmps[8]? = some ((Value.pointer (some ⟨C, 0, none⟩))) := hv 0 8 (by decide) rfl
      refine Gw.mono (gw_val rfl rfl hkb _ (fun w hF => ?_) (fun w hF e he => by (simp [execOp, Act.eval, go_sem, evix1, evix2, evix3, d0] at he)) hn) (by omega)
      simp [execOp, Act.eval, go_sem, d0]
      try rfl
    · obtain rfl := Option.some.inj ho
      have d1 : a.tmps[9]? = some ((Value.pointer (some ⟨C, 0, none⟩))) := hv 1 9 (by decide) rfl
      refine Gw.mono (gw_val rfl rfl hkb _ (fun w hF => ?_) (fun w hF e he => by (simp [execOp, Act.eval, go_sem, evix1, evix2, evix3, d1] at he)) hn) (by omega)
      simp [execOp, Act.eval, go_sem, d1]
      try rfl
    · obtain rfl := Option.some.inj ho
      refine Gw.mono (gw_val rfl rfl hkb _ (fun w hF => ?_) (fun w hF e he => by (simp [execOp, Act.eval, go_sem, evix1, evix2, evix3, t1] at he)) hn) (by omega)
      simp [execOp, Act.eval, go_sem, t1]
      try rfl
    · obtain rfl := Option.some.inj ho
      refine Gw.mono (gw_val rfl rfl hkb _ (fun w hF => ?_) (fun w hF e he => by (simp [execOp, Act.eval, go_sem, evix1, evix2, evix3, t0] at he)) hn) (by omega)
      simp [execOp, Act.eval, go_sem, t0]
      try rfl
    · obtain rfl := Option.some.inj ho
      refine Gw.mono (gw_val rfl rfl hkb _ (fun w hF => ?_) (fun w hF e he => by (simp [execOp, Act.eval, go_sem, evix1, evix2, evix3, t1] at he)) hn) (by omega)
      simp [execOp, Act.eval, go_sem, t1]
      try rfl
    · obtain rfl := Option.some.inj ho
      have d4 : a.tmps[12]? = some ((Value.pointer (some ⟨C, 0, none⟩))) := hv 4 12 (by decide) rfl
      refine Gw.mono (gw_val rfl rfl hkb _ (fun w hF => ?_) (fun w hF e he => by (simp [execOp, Act.eval, go_sem, evix1, evix2, evix3, d4] at he)) hn) (by omega)
      simp [execOp, Act.eval, go_sem, d4]
      try rfl
    · obtain rfl := Option.some.inj ho
      have d6 : a.tmps[14]? = some ((Value.pointer (some ⟨C, 0, none⟩))) := hv 6 14 (by decide) rfl
      refine Gw.mono (gw_val rfl rfl hkb _ (fun w hF => ?_) (fun w hF e he => by (simp [execOp, Act.eval, go_sem, evix1, evix2, evix3, d6] at he)) hn) (by omega)
      simp [execOp, Act.eval, go_sem, d6]
      try rfl
    · obtain rfl := Option.some.inj ho
      have d7 : a.tmps[15]? = some ((Value.pointer (some ⟨C, 112, none⟩))) := hv 7 15 (by decide) rfl
      have d5 : a.tmps[13]? = some ((Value.int .i64 (p : Int))) := hv 5 13 (by decide) rfl
      refine Gw.mono (gw_val rfl rfl hkb _ (fun w hF => ?_) (fun w hF e he => by (simp [execOp, Act.eval, go_sem, evix1, evix2, evix3, d7, d5, hp0, hp1] at he)) hn) (by omega)
      simp [execOp, Act.eval, go_sem, d7, d5, hp0, hp1]
      try rfl
    · exact (hne rfl).elim
    · obtain rfl := Option.some.inj ho
      have d2 : a.tmps[10]? = some ((Value.pointer (some ⟨C, 0, none⟩))) := hv 2 10 (by decide) rfl
      have d3 : a.tmps[11]? = some ((Value.int .i64 (p : Int))) := hv 3 11 (by decide) rfl
      have d9 : a.tmps[17]? = some (.int .i64 (z.getD 0)) := hv 9 17 (by decide) rfl
      refine Gw.mono (often_x e hp hn10 hps hzv.1 hzv.2 hd rfl rfl hkb rfl (by simp [Act.eval, d2]) (by simp [Act.eval, d3]) (by simp [Act.eval, d9]) hn) (by omega)
    · obtain rfl := Option.some.inj ho
      have d10 : a.tmps[18]? = some (.int .i64 ((z.getD 0).tdiv (smS n (b p)))) := hv 10 18 (by decide) rfl
      refine Gw.mono (gw_val rfl rfl hkb _ (fun w hF => ?_) (fun w hF e he => by (simp [execOp, Act.eval, go_sem, evix1, evix2, evix3, d10] at he)) hn) (by omega)
      simp [execOp, Act.eval, go_sem, d10]
      try rfl
  case cross =>
    intro o ho a hkeep hv rest hn2
    obtain rfl := Option.some.inj ho
    have d8 : a.tmps[16]? = some (Value.pointer (some (cpL C p))) := hv 8 16 (by decide) rfl
    refine Gw.mono (load_x e rfl rfl hkb rfl (by simp [Act.eval, d8]) (fun v hg => hn2 (some v) ⟨v, rfl, hg⟩)) (by omega)
  case ends =>
    rintro z ⟨v, rfl, hg⟩
    exact hn v hg
def dlR4 : List (Option Nat) := [some 21, some 22, some 23, some 24, some 25, some 26, some 27, some 28, some 29, some 30, some 31, some 32, some 33, some 34, some 35, some 36]
def dpR4 : List (Nat × Nat) := [(2, 0), (3, 2), (4, 3), (4, 1), (8, 6), (9, 8), (10, 9), (11, 10), (11, 7), (12, 11), (13, 5), (13, 12), (14, 13), (15, 4), (15, 14)]
def vlR4 (C p : Nat) (v q d : Int) (i : Nat) : Value := ([(Value.pointer (some ⟨C, 0, none⟩)), (Value.int .i64 (p : Int)), (Value.pointer (some ⟨C, 0, none⟩)), (Value.pointer (some ⟨C, 112, none⟩)), (Value.pointer (some (cpL C p))), .int .i64 q, (Value.pointer (some ⟨C, 0, none⟩)), (Value.int .i64 (p : Int)), (Value.pointer (some ⟨C, 0, none⟩)), (Value.pointer (some ⟨C, 0, none⟩)), (Value.pointer (some ⟨C, 2, none⟩)), (Value.pointer (some ⟨C, 2 + p, none⟩)), .int .i64 d, .int .i64 (q * d), .int .i64 (-(q * d)), .int .i64 v] : List Value).getD i undef
set_option maxRecDepth 100000 in
set_option maxHeartbeats 3200000 in
theorem look_r4 [Payload] {C N n s : Nat} {b : Nat → Nat → Int} {c0 u0 : Nat → Int} {K : Int} {nw L : Nat} {Shun : Loc → Prop} {t : Site} (e : SiteS t C N n s b c0 u0 K nw L Shun) {a0 : Act} {k : List Item} {cs : List Frame} {p : Nat} {q : Int} {ls : List (Addr × Int)} (hp : p < n) (hn10 : n ≤ 10) (hq0 : 0 ≤ q) (hd : 1 ≤ smS n (b p)) (hqd : q * smS n (b p) ≤ 100000) (hz : a0.tmps.size = 68) (h0 : a0.tmps[0]? = some (Value.pointer (some ⟨C, 0, none⟩))) (h1 : a0.tmps[1]? = some (Value.int .i64 (p : Int))) (h5 : a0.tmps[5]? = some (.int .i64 q))
    (hn : ∀ x, ∃ M, Gw Tryd.prog false t.Fix (EvR C N) (t.AtAdds ls) M (G ((base 40).at (putsO a0 ((List.range 16).map fun i => (dlR4.getD i none, vlR4 C p x q (smS n (b p)) i))) k) cs)) :
    ∃ M, Gw Tryd.prog false t.Fix (EvR C N) (t.AtAdds ((cpL C p, -(q * smS n (b p))) :: ls)) M (G ((base 40).at a0 (.code (cL (cR (cR (cR (bodyOf Tryd.f40))))) :: k)) cs) := by
  have hp0 : (0 : Int) ≤ (p : Int) := by omega
  have hp1 : (p : Int) < 10 := by omega
  have hkb : (base 40).kind ≠ .early := by simp [base]
  obtain ⟨dg, hdg⟩ : ∃ dg, smS n (b p) = dg := ⟨_, rfl⟩
  have k2 : ∀ w, t.Fix w → w.cell? ⟨C, 2 + p, none⟩ = some (.int .i64 dg) := fun w hF => by rw [fix_gd e hF (by omega), gd_deg _ _ _ (by omega), hdg]
  rw [hdg] at hqd hd hn ⊢
  have hqd0 : 0 ≤ q * dg := Int.mul_nonneg hq0 (by omega)
  have hwm : IntKind.wrap .i64 (q * dg) = q * dg := wrap_fit ⟨by omega, by omega⟩
  have hwn : IntKind.wrap .i64 (-(q * dg)) = -(q * dg) := wrap_fit ⟨by omega, by omega⟩
  simp only [cL, cR, bodyOf, Tryd.f40, Option.getD_some]
  refine gw_draw (σ := Option Int) (fun z => match z with | none => t.AtAdds ((cpL C p, -(q * dg)) :: ls) | some _ => t.AtAdds ls) (by kernel_rfl) _ 16 dlR4 dpR4 15 none (fun z => ∃ x, z = some x) (fun i z => vlR4 C p (z.getD 0) q dg i) 45 (by kernel_rfl) rfl (nd_of (by decide)) (fun t ht => by rw [hz]; exact lt_of_all (by decide) t ht) (by kernel_rfl) (by kernel_rfl) (by kernel_rfl) (by omega) ?late ?step ?cross ?ends
  case late =>
    intro L cl hL i z hi hLi
    have this : i = 0 ∨ i = 1 ∨ i = 2 ∨ i = 3 ∨ i = 4 ∨ i = 5 ∨ i = 6 ∨ i = 7 ∨ i = 8 ∨ i = 9 ∨ i = 10 ∨ i = 11 ∨ i = 12 ∨ i = 13 ∨ i = 14 ∨ i = 15 := by omega
    rcases this with rfl | rfl | rfl | rfl | rfl | rfl | rfl | rfl | rfl | rfl | rfl | rfl | rfl | rfl | rfl | rfl <;> first | rfl | (rw [hL] at hLi; cases hLi)
  case step =>
    intro i o hi hne ho z a hzs hkeep hv rest M hn
    have t0 : a.tmps[0]? = some (Value.pointer (some ⟨C, 0, none⟩)) := (hkeep 0 (by decide)).trans h0
    have t1 : a.tmps[1]? = some (Value.int .i64 (p : Int)) := (hkeep 1 (by decide)).trans h1
    have t5 : a.tmps[5]? = some (.int .i64 q) := (hkeep 5 (by decide)).trans h5
    have this : i = 0 ∨ i = 1 ∨ i = 2 ∨ i = 3 ∨ i = 4 ∨ i = 5 ∨ i = 6 ∨ i = 7 ∨ i = 8 ∨ i = 9 ∨ i = 10 ∨ i = 11 ∨ i = 12 ∨ i = 13 ∨ i = 14 ∨ i = 15 := by omega
    rcases this with rfl | rfl | rfl | rfl | rfl | rfl | rfl | rfl | rfl | rfl | rfl | rfl | rfl | rfl | rfl | rfl
    · obtain rfl := Option.some.inj ho
      refine Gw.mono (gw_val rfl rfl hkb _ (fun w hF => ?_) (fun w hF e he => by (simp [execOp, Act.eval, go_sem, evix1, evix2, evix3, t0] at he)) hn) (by omega)
      simp [execOp, Act.eval, go_sem, t0]
      try rfl
    · obtain rfl := Option.some.inj ho
      refine Gw.mono (gw_val rfl rfl hkb _ (fun w hF => ?_) (fun w hF e he => by (simp [execOp, Act.eval, go_sem, evix1, evix2, evix3, t1] at he)) hn) (by omega)
      simp [execOp, Act.eval, go_sem, t1]
      try rfl
    · obtain rfl := Option.some.inj ho
      have d0 : a.tmps[21]? = some ((Value.pointer (some ⟨C, 0, none⟩))) := hv 0 21 (by decide) rfl
      refine Gw.mono (gw_val rfl rfl hkb _ (fun w hF => ?_) (fun w hF e he => by (simp [execOp, Act.eval, go_sem, evix1, evix2, evix3, d0] at he)) hn) (by omega)
      simp [execOp, Act.eval, go_sem, d0]
      try rfl
    · obtain rfl := Option.some.inj ho
      have d2 : a.tmps[23]? = some ((Value.pointer (some ⟨C, 0, none⟩))) := hv 2 23 (by decide) rfl
      refine Gw.mono (gw_val rfl rfl hkb _ (fun w hF => ?_) (fun w hF e he => by (simp [execOp, Act.eval, go_sem, evix1, evix2, evix3, d2] at he)) hn) (by omega)
      simp [execOp, Act.eval, go_sem, d2]
      try rfl
    · obtain rfl := Option.some.inj ho
      have d3 : a.tmps[24]? = some ((Value.pointer (some ⟨C, 112, none⟩))) := hv 3 24 (by decide) rfl
      have d1 : a.tmps[22]? = some ((Value.int .i64 (p : Int))) := hv 1 22 (by decide) rfl
      refine Gw.mono (gw_val rfl rfl hkb _ (fun w hF => ?_) (fun w hF e he => by (simp [execOp, Act.eval, go_sem, evix1, evix2, evix3, d3, d1, hp0, hp1] at he)) hn) (by omega)
      simp [execOp, Act.eval, go_sem, d3, d1, hp0, hp1]
      try rfl
    · obtain rfl := Option.some.inj ho
      refine Gw.mono (gw_val rfl rfl hkb _ (fun w hF => ?_) (fun w hF e he => by (simp [execOp, Act.eval, go_sem, evix1, evix2, evix3, t5] at he)) hn) (by omega)
      simp [execOp, Act.eval, go_sem, t5]
      try rfl
    · obtain rfl := Option.some.inj ho
      refine Gw.mono (gw_val rfl rfl hkb _ (fun w hF => ?_) (fun w hF e he => by (simp [execOp, Act.eval, go_sem, evix1, evix2, evix3, t0] at he)) hn) (by omega)
      simp [execOp, Act.eval, go_sem, t0]
      try rfl
    · obtain rfl := Option.some.inj ho
      refine Gw.mono (gw_val rfl rfl hkb _ (fun w hF => ?_) (fun w hF e he => by (simp [execOp, Act.eval, go_sem, evix1, evix2, evix3, t1] at he)) hn) (by omega)
      simp [execOp, Act.eval, go_sem, t1]
      try rfl
    · obtain rfl := Option.some.inj ho
      have d6 : a.tmps[27]? = some ((Value.pointer (some ⟨C, 0, none⟩))) := hv 6 27 (by decide) rfl
      refine Gw.mono (gw_val rfl rfl hkb _ (fun w hF => ?_) (fun w hF e he => by (simp [execOp, Act.eval, go_sem, evix1, evix2, evix3, d6] at he)) hn) (by omega)
      simp [execOp, Act.eval, go_sem, d6]
      try rfl
    · obtain rfl := Option.some.inj ho
      have d8 : a.tmps[29]? = some ((Value.pointer (some ⟨C, 0, none⟩))) := hv 8 29 (by decide) rfl
      refine Gw.mono (gw_val rfl rfl hkb _ (fun w hF => ?_) (fun w hF e he => by (simp [execOp, Act.eval, go_sem, evix1, evix2, evix3, d8] at he)) hn) (by omega)
      simp [execOp, Act.eval, go_sem, d8]
      try rfl
    · obtain rfl := Option.some.inj ho
      have d9 : a.tmps[30]? = some ((Value.pointer (some ⟨C, 0, none⟩))) := hv 9 30 (by decide) rfl
      refine Gw.mono (gw_val rfl rfl hkb _ (fun w hF => ?_) (fun w hF e he => by (simp [execOp, Act.eval, go_sem, evix1, evix2, evix3, d9] at he)) hn) (by omega)
      simp [execOp, Act.eval, go_sem, d9]
      try rfl
    · obtain rfl := Option.some.inj ho
      have d10 : a.tmps[31]? = some ((Value.pointer (some ⟨C, 2, none⟩))) := hv 10 31 (by decide) rfl
      have d7 : a.tmps[28]? = some ((Value.int .i64 (p : Int))) := hv 7 28 (by decide) rfl
      refine Gw.mono (gw_val rfl rfl hkb _ (fun w hF => ?_) (fun w hF e he => by (simp [execOp, Act.eval, go_sem, evix1, evix2, evix3, d10, d7, hp0, hp1] at he)) hn) (by omega)
      simp [execOp, Act.eval, go_sem, d10, d7, hp0, hp1]
      try rfl
    · obtain rfl := Option.some.inj ho
      have d11 : a.tmps[32]? = some ((Value.pointer (some ⟨C, 2 + p, none⟩))) := hv 11 32 (by decide) rfl
      refine Gw.mono (gw_val rfl rfl hkb _ (fun w hF => ?_) (fun w hF e he => by (simp [execOp, Act.eval, go_sem, d11, k2 w hF] at he; subst he; exact ⟨_, rfl, Or.inl ⟨2 + p, by omega, rfl⟩⟩)) hn) (by omega)
      simp [execOp, Act.eval, go_sem, d11, k2 w hF]
      try rfl
    · obtain rfl := Option.some.inj ho
      have d5 : a.tmps[26]? = some (.int .i64 q) := hv 5 26 (by decide) rfl
      have d12 : a.tmps[33]? = some (.int .i64 dg) := hv 12 33 (by decide) rfl
      refine Gw.mono (gw_val rfl rfl hkb _ (fun w hF => ?_) (fun w hF e he => by (simp [execOp, Act.eval, go_sem, evix1, evix2, evix3, d5, d12, hwm] at he)) hn) (by omega)
      simp [execOp, Act.eval, go_sem, d5, d12, hwm]
      try rfl
    · obtain rfl := Option.some.inj ho
      have d13 : a.tmps[34]? = some (.int .i64 (q * dg)) := hv 13 34 (by decide) rfl
      refine Gw.mono (gw_val rfl rfl hkb _ (fun w hF => ?_) (fun w hF e he => by (simp [execOp, Act.eval, go_sem, evix1, evix2, evix3, d13, hwn] at he)) hn) (by omega)
      simp [execOp, Act.eval, go_sem, d13, hwn]
      try rfl
    · exact (hne rfl).elim
  case cross =>
    intro o ho a hkeep hv rest hn2
    obtain rfl := Option.some.inj ho
    have d4 : a.tmps[25]? = some (Value.pointer (some (cpL C p))) := hv 4 25 (by decide) rfl
    have d14 : a.tmps[35]? = some (.int .i64 (-(q * dg))) := hv 14 35 (by decide) rfl
    refine Gw.mono (add_x e (Or.inl ⟨p, by omega, rfl⟩) rfl rfl hkb rfl (by simp [Act.eval, d4]) (by simp [Act.eval, d14]) (fun x => hn2 (some x) ⟨x, rfl⟩)) (by omega)
  case ends =>
    rintro z ⟨x, rfl⟩
    exact hn x
end Go.Proofs.YtpajdmhgonmgoaaDoor

