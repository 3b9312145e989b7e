/-
  What the last text of this claim leans on, part 14: Kb9, Kba, Kbb.
-/
import Derived.Test.YtpajdmhgonmgoaaDoorYt13
namespace Go.Proofs.YtpajdmhgonmgoaaDoor
open Go.RowKit
set_option linter.unusedVariables false
open Go.Conc Go.ConcN Go.RowKit Go.Conc.Lib Go.ConcR.Gen
open Go.ConcR (KK wgBlock WgAt stA smA rd wr Payload DC0)
set_option linter.unusedSimpArgs false
theorem gd_gv2 (n s : Nat) (b : Nat → Nat → Int) {p q : Nat} (hq : q < 10) : gdF n s b (12 + p * 10 + q) = gvS n s b p q := by
  rw [Nat.mul_comm p 10]; exact gd_gv n s b hq
set_option maxRecDepth 100000 in
set_option maxHeartbeats 6400000 in
/-- Behind the loop. -/
theorem look_end [Payload] {C N n s : Nat} {b : Nat → Nat → Int} {c0 u0 : Nat → Int} {K : Int} {nw L : Nat} {Shun : Loc → Prop} {t : Site} (e : SiteS t C N n s b c0 u0 K nw L Shun) {cs : List Frame} {ops : Array Oper} {i : Nat} {rest : List Nat} {o : Oper} {fb : Frame} {ab : Act} {k : List Item} {p : Nat} {q : Int} {A : Array Value} (hp : p < n) (hn10 : n ≤ 10) (ho : ops[i]? = some o)
    (hn : ∃ M, Gw Tryd.prog false t.Fix (EvR C N) (t.AtAdds [(tgL (N + 3), q)]) M (G (fb.at (ab.put o.dst (.int .i64 q)) (.inRegion ops rest :: k)) cs)) (a0 : Act) (H0 : LkA C p q A a0) :
    ∃ M, Gw Tryd.prog false t.Fix (EvR C N) (t.AtAdds [(tpL C p, q), (tgL (N + 3), q)]) M (G ((base 40).at a0 [.code (cR (cR (cR (cR (cR (bodyOf Tryd.f40))))))]) (fb.at ab (.inRegion ops (i :: rest) :: k) :: cs)) := by
  have hkb : (base 40).kind ≠ .early := by simp [base]
  have hp0 : (0 : Int) ≤ (p : Int) := by omega
  have hp1 : (p : Int) < 10 := by omega
  obtain ⟨M, hM⟩ := hn
  obtain ⟨a1, E1⟩ : ∃ x, a0.put (some 60) ((Value.pointer (some ⟨C, 0, none⟩))) = x := ⟨_, rfl⟩
  have H1 : LkA C p q A a1 := by rw [← E1]; exact H0.put 60 _ (by omega) (by omega) (by omega) (by omega) (by omega)
  have l1_60 : a1.tmps[60]? = some ((Value.pointer (some ⟨C, 0, none⟩))) := by rw [← E1]; exact put_same (by rw [H0.sz]; omega)
  obtain ⟨a2, E2⟩ : ∃ x, a1.put (some 61) ((Value.int .i64 (p : Int))) = x := ⟨_, rfl⟩
  have H2 : LkA C p q A a2 := by rw [← E2]; exact H1.put 61 _ (by omega) (by omega) (by omega) (by omega) (by omega)
  have l2_60 : a2.tmps[60]? = some ((Value.pointer (some ⟨C, 0, none⟩))) := by rw [← E2]; exact put_far (by rw [H1.sz]; omega) (by omega) l1_60
  have l2_61 : a2.tmps[61]? = some ((Value.int .i64 (p : Int))) := by rw [← E2]; exact put_same (by rw [H1.sz]; omega)
  obtain ⟨a3, E3⟩ : ∃ x, a2.put (some 62) ((Value.pointer (some ⟨C, 0, none⟩))) = x := ⟨_, rfl⟩
  have H3 : LkA C p q A a3 := by rw [← E3]; exact H2.put 62 _ (by omega) (by omega) (by omega) (by omega) (by omega)
  have l3_60 : a3.tmps[60]? = some ((Value.pointer (some ⟨C, 0, none⟩))) := by rw [← E3]; exact put_far (by rw [H2.sz]; omega) (by omega) l2_60
  have l3_61 : a3.tmps[61]? = some ((Value.int .i64 (p : Int))) := by rw [← E3]; exact put_far (by rw [H2.sz]; omega) (by omega) l2_61
  have l3_62 : a3.tmps[62]? = some ((Value.pointer (some ⟨C, 0, none⟩))) := by rw [← E3]; exact put_same (by rw [H2.sz]; omega)
  obtain ⟨a4, E4⟩ : ∃ x, a3.put (some 63) ((Value.pointer (some ⟨C, 122, none⟩))) = x := ⟨_, rfl⟩
  have H4 : LkA C p q A a4 := by rw [← E4]; exact H3.put 63 _ (by omega) (by omega) (by omega) (by omega) (by omega)
  have l4_60 : a4.tmps[60]? = some ((Value.pointer (some ⟨C, 0, none⟩))) := by rw [← E4]; exact put_far (by rw [H3.sz]; omega) (by omega) l3_60
  have l4_61 : a4.tmps[61]? = some ((Value.int .i64 (p : Int))) := by rw [← E4]; exact put_far (by rw [H3.sz]; omega) (by omega) l3_61
  have l4_62 : a4.tmps[62]? = some ((Value.pointer (some ⟨C, 0, none⟩))) := by rw [← E4]; exact put_far (by rw [H3.sz]; omega) (by omega) l3_62
  have l4_63 : a4.tmps[63]? = some ((Value.pointer (some ⟨C, 122, none⟩))) := by rw [← E4]; exact put_same (by rw [H3.sz]; omega)
  obtain ⟨a5, E5⟩ : ∃ x, a4.put (some 64) (.pointer (some (tpL C p))) = x := ⟨_, rfl⟩
  have H5 : LkA C p q A a5 := by rw [← E5]; exact H4.put 64 _ (by omega) (by omega) (by omega) (by omega) (by omega)
  have l5_60 : a5.tmps[60]? = some ((Value.pointer (some ⟨C, 0, none⟩))) := by rw [← E5]; exact put_far (by rw [H4.sz]; omega) (by omega) l4_60
  have l5_61 : a5.tmps[61]? = some ((Value.int .i64 (p : Int))) := by rw [← E5]; exact put_far (by rw [H4.sz]; omega) (by omega) l4_61
  have l5_62 : a5.tmps[62]? = some ((Value.pointer (some ⟨C, 0, none⟩))) := by rw [← E5]; exact put_far (by rw [H4.sz]; omega) (by omega) l4_62
  have l5_63 : a5.tmps[63]? = some ((Value.pointer (some ⟨C, 122, none⟩))) := by rw [← E5]; exact put_far (by rw [H4.sz]; omega) (by omega) l4_63
  have l5_64 : a5.tmps[64]? = some (.pointer (some (tpL C p))) := by rw [← E5]; exact put_same (by rw [H4.sz]; omega)
  obtain ⟨a6, E6⟩ : ∃ x, a5.put (some 65) (.int .i64 q) = x := ⟨_, rfl⟩
  have H6 : LkA C p q A a6 := by rw [← E6]; exact H5.put 65 _ (by omega) (by omega) (by omega) (by omega) (by omega)
  have l6_60 : a6.tmps[60]? = some ((Value.pointer (some ⟨C, 0, none⟩))) := by rw [← E6]; exact put_far (by rw [H5.sz]; omega) (by omega) l5_60
  have l6_61 : a6.tmps[61]? = some ((Value.int .i64 (p : Int))) := by rw [← E6]; exact put_far (by rw [H5.sz]; omega) (by omega) l5_61
  have l6_62 : a6.tmps[62]? = some ((Value.pointer (some ⟨C, 0, none⟩))) := by rw [← E6]; exact put_far (by rw [H5.sz]; omega) (by omega) l5_62
  have l6_63 : a6.tmps[63]? = some ((Value.pointer (some ⟨C, 122, none⟩))) := by rw [← E6]; exact put_far (by rw [H5.sz]; omega) (by omega) l5_63
  have l6_64 : a6.tmps[64]? = some (.pointer (some (tpL C p))) := by rw [← E6]; exact put_far (by rw [H5.sz]; omega) (by omega) l5_64
  have l6_65 : a6.tmps[65]? = some (.int .i64 q) := by rw [← E6]; exact put_same (by rw [H5.sz]; omega)
  refine ⟨100, ?_⟩
  simp only [cL, cR, bodyOf, Tryd.f40, Option.getD_some]
  refine gw_seq ?_
  refine gw_region ?_
  try simp only [List.size_toArray, List.length_cons, List.length_nil, Nat.reduceAdd, Nat.zero_add, List.range, List.range.loop]
  refine gw_valE rfl rfl hkb ((Value.pointer (some ⟨C, 0, none⟩))) E1 (fun w hF => by simp [execOp, Act.eval, go_sem, H0.s0]) (fun w hF e' he => by simp [execOp, Act.eval, go_sem, evix1, evix2, evix3, H0.s0] at he) ?_
  refine gw_valE rfl rfl hkb ((Value.int .i64 (p : Int))) E2 (fun w hF => by simp [execOp, Act.eval, go_sem, H1.s1]) (fun w hF e' he => by simp [execOp, Act.eval, go_sem, evix1, evix2, evix3, H1.s1] at he) ?_
  refine gw_valE rfl rfl hkb ((Value.pointer (some ⟨C, 0, none⟩))) E3 (fun w hF => by simp [execOp, Act.eval, go_sem, l2_60]) (fun w hF e' he => by simp [execOp, Act.eval, go_sem, evix1, evix2, evix3, l2_60] at he) ?_
  refine gw_valE rfl rfl hkb ((Value.pointer (some ⟨C, 122, none⟩))) E4 (fun w hF => by simp [execOp, Act.eval, go_sem, l3_62]) (fun w hF e' he => by simp [execOp, Act.eval, go_sem, evix1, evix2, evix3, l3_62] at he) ?_
  refine gw_valE rfl rfl hkb (.pointer (some (tpL C p))) E5 (fun w hF => by simp [execOp, Act.eval, go_sem, l4_63, l4_61, hp0, hp1, tpL]) (fun w hF e' he => by simp [execOp, Act.eval, go_sem, evix1, evix2, evix3, l4_63, l4_61, hp0, hp1, tpL] at he) ?_
  refine gw_valE rfl rfl hkb (.int .i64 q) E6 (fun w hF => by simp [execOp, Act.eval, go_sem, H5.s5]) (fun w hF e' he => by simp [execOp, Act.eval, go_sem, evix1, evix2, evix3, H5.s5] at he) ?_
  refine Gw.mono (add_x e (Or.inr (Or.inl ⟨p, by omega, rfl⟩)) rfl rfl hkb rfl (by simp [Act.eval, l6_64]) (by simp [Act.eval, l6_65]) (fun x => ?_)) (by omega)
  obtain ⟨b0, EB⟩ : ∃ z, a6.put (some 66) (.int .i64 x) = z := ⟨_, rfl⟩
  have HB : LkA C p q A b0 := by rw [← EB]; exact H6.put 66 _ (by omega) (by omega) (by omega) (by omega) (by omega)
  refine ⟨M + 20, gw_done ?_⟩
  show Gw _ _ _ _ _ _ (G ((base 40).at (a6.put (some 66) (.int .i64 x)) _) _)
  rw [EB]
  obtain ⟨b1, E1'⟩ : ∃ z, b0.put (some 67) (.int .i64 q) = z := ⟨_, rfl⟩
  have HB1 : LkA C p q A b1 := by rw [← E1']; exact HB.put 67 _ (by omega) (by omega) (by omega) (by omega) (by omega)
  have m67 : b1.tmps[67]? = some (.int .i64 q) := by rw [← E1']; exact put_same (by rw [HB.sz]; omega)
  obtain ⟨b2, E2'⟩ : ∃ z, b1.put (some 4) (.int .i64 q) = z := ⟨_, rfl⟩
  have HB2 : LkA C p q A b2 := by rw [← E2']; exact HB1.put 4 _ (by omega) (by omega) (by omega) (by omega) (by omega)
  have m4 : b2.tmps[4]? = some (.int .i64 q) := by rw [← E2']; exact put_same (by rw [HB1.sz]; omega)
  refine gw_seq ?_
  refine gw_region ?_
  try simp only [List.size_toArray, List.length_cons, List.length_nil, Nat.reduceAdd, Nat.zero_add, List.range, List.range.loop]
  refine gw_valE rfl rfl hkb (.int .i64 q) E1' (fun w hF => by simp [execOp, Act.eval, go_sem, HB.s5]) (fun w hF e' he => by simp [execOp, Act.eval, go_sem, HB.s5] at he) ?_
  refine gw_valE rfl rfl hkb (.int .i64 q) E2' (fun w hF => by simp [execOp, Act.eval, go_sem, m67]) (fun w hF e' he => by simp [execOp, Act.eval, go_sem, m67] at he) ?_
  refine gw_done ?_
  refine gw_ret ?_
  refine gw_leave1 rfl HB2.df Tryd.func40 rfl ?_
  rw [ho, Array.getD_eq_getD_getElem?, m4]
  exact Gw.mono hM (by omega)
end Go.Proofs.YtpajdmhgonmgoaaDoor

namespace Go.Proofs.YtpajdmhgonmgoaaDoor
open Go.RowKit
set_option linter.unusedVariables false
open Go.Conc Go.ConcN Go.RowKit Go.Conc.Lib Go.ConcR.Gen
open Go.ConcR (KK wgBlock WgAt stA smA rd wr Payload DC0)
set_option linter.unusedSimpArgs false
set_option maxRecDepth 100000 in
set_option maxHeartbeats 12800000 in
theorem look_x [Payload] {C N n s : Nat} {b : Nat → Nat → Int} {c0 u0 : Nat → Int} {K : Int} {nw L : Nat} {Shun : Loc → Prop} {t : Site} (e : SiteS t C N n s b c0 u0 K nw L Shun) {cs : List Frame} {ops : Array Oper} {i : Nat} {rest : List Nat} {o : Oper} {fb : Frame} {ab : Act} {k : List Item} {x y : Operand} {ats : Array TypeId} {p : Nat} (hp : p < n) (hn10 : n ≤ 10) (hps : p ≠ s) (hd : 1 ≤ smS n (b p)) (hg0 : ∀ j, 0 ≤ gvS n s b p j) (hg1 : ∀ j, gvS n s b p j ≤ smS n (b p))
    (ho : ops[i]? = some o) (hw : Region.wanted o (yielded ops ab.tmps) = true) (hk : fb.kind ≠ .early) (hop : o.op = .call { callee := .value (.func 40), args := #[x, y], argTypes := ats }) (hx : ab.eval x = (Value.pointer (some ⟨C, 0, none⟩))) (hy : ab.eval y = (Value.int .i64 (p : Int)))
    (hn : ∀ v : Int, (p < n ∧ p ≠ s ∧ 0 ≤ v ∧ v ≤ 100000) → ∃ M, Gw Tryd.prog false t.Fix (EvR C N) (t.AtAdds [(tgL (N + 3), v.tdiv (smS n (b p)))]) M (G (fb.at (ab.put o.dst (.int .i64 (v.tdiv (smS n (b p))))) (.inRegion ops rest :: k)) cs)) :
    ∃ M, Gw Tryd.prog false t.Fix (EvR C N) (t.AtLoad p) M (G (fb.at ab (.inRegion ops (i :: rest) :: k)) cs) := by
  have hkb : (base 40).kind ≠ .early := by simp [base]
  have hp0 : (0 : Int) ≤ (p : Int) := by omega
  have hp1 : (p : Int) < 10 := by omega
  obtain ⟨d, hdd⟩ : ∃ d, smS n (b p) = d := ⟨_, rfl⟩
  have inner := look_r1 e (a0 := (⟨#[(Value.pointer (some ⟨C, 0, none⟩)), (Value.int .i64 (p : Int)), undef, undef, .int .i64 0, undef, undef, undef, undef, undef, undef, undef, undef, undef, undef, undef, undef, undef, undef, undef, undef, undef, undef, undef, undef, undef, undef, undef, undef, undef, undef, undef, undef, undef, undef, undef, undef, undef, undef, undef, undef, undef, undef, undef, undef, undef, undef, undef, undef, undef, undef, undef, undef, undef, undef, undef, undef, undef, undef, undef, undef, undef, undef, undef, undef, undef, undef, undef], []⟩ : Act)) (k := [.code (cR (cR (bodyOf Tryd.f40)))]) (cs := fb.at ab (.inRegion ops (i :: rest) :: k) :: cs) hp hn10 hps hd rfl rfl rfl (fun v hg => ?_)
  · obtain ⟨M, hM⟩ := inner
    refine ⟨M + 10, ?_⟩
    refine gw_call ho hw hk hop Tryd.func40 rfl rfl ?_
    simp only [List.map_toArray, List.map_cons, List.map_nil, hx, hy, Tryd.f40]
    walk_nrm
    refine gw_seq ?_
    refine gw_region ?_
    try simp only [List.size_toArray, List.length_cons, List.length_nil, Nat.reduceAdd, Nat.zero_add, List.range, List.range.loop]
    refine gw_opk rfl rfl (by k_ne) (fun w hF K' hK => ?_)
    go_simp
    refine hK _ (fun e he => ?_) ?_
    · (clear hK; simp [go_sem, *, evix1, evix2, evix3] at he)
    clear hK K' hF
    clear w
    try walk_nrm
    refine gw_done ?_
    refine gw_seq ?_
    exact Gw.mono hM (by omega)
  · obtain ⟨q, hq⟩ : ∃ q, v.tdiv (smS n (b p)) = q := ⟨_, rfl⟩
    have hn2 := hn v hg
    rw [hdd] at hd
    obtain ⟨f1, f2, f3⟩ := div_facts hg.2.2.1 hd
    rw [hdd] at hq hn2 ⊢
    rw [hq] at f1 f2 f3 hn2 ⊢
    have ea : putsO (⟨#[(Value.pointer (some ⟨C, 0, none⟩)), (Value.int .i64 (p : Int)), undef, undef, .int .i64 0, undef, undef, undef, undef, undef, undef, undef, undef, undef, undef, undef, undef, undef, undef, undef, undef, undef, undef, undef, undef, undef, undef, undef, undef, undef, undef, undef, undef, undef, undef, undef, undef, undef, undef, undef, undef, undef, undef, undef, undef, undef, undef, undef, undef, undef, undef, undef, undef, undef, undef, undef, undef, undef, undef, undef, undef, undef, undef, undef, undef, undef, undef, undef], []⟩ : Act) ((List.range 12).map fun i => (dlR1.getD i none, vlR1 C p v q 0 i)) = (⟨#[(Value.pointer (some ⟨C, 0, none⟩)), (Value.int .i64 (p : Int)), undef, undef, .int .i64 0, (Value.int .i64 q), undef, undef, (Value.pointer (some ⟨C, 0, none⟩)), (Value.pointer (some ⟨C, 0, none⟩)), (Value.pointer (some ⟨C, 0, none⟩)), (Value.int .i64 (p : Int)), (Value.pointer (some ⟨C, 0, none⟩)), (Value.int .i64 (p : Int)), (Value.pointer (some ⟨C, 0, none⟩)), (Value.pointer (some ⟨C, 112, none⟩)), (Value.pointer (some (cpL C p))), .int .i64 v, (Value.int .i64 q), undef, undef, undef, undef, undef, undef, undef, undef, undef, undef, undef, undef, undef, undef, undef, undef, undef, undef, undef, undef, undef, undef, undef, undef, undef, undef, undef, undef, undef, undef, undef, undef, undef, undef, undef, undef, undef, undef, undef, undef, undef, undef, undef, undef, undef, undef, undef, undef, undef], []⟩ : Act) := by simp only [List.range, List.range.loop, List.map_cons, List.map_nil, dlR1, vlR1, dlR4, vlR4, List.getD_cons_zero, List.getD_cons_succ, putsO, Act.put, List.setIfInBounds_toArray, List.set_cons_zero, List.set_cons_succ]
    rw [ea, e.epl]
    clear ea
    unfold plS
    rw [hdd, hq]
    by_cases hz : q = 0
    · rw [if_pos hz]
      obtain ⟨M, hM⟩ := hn2
      rw [hz] at hM
      subst hz
      refine ⟨M + 30, ?_⟩
      simp only [cL, cR, bodyOf, Tryd.f40, Option.getD_some]
      refine gw_seq ?_
      refine gw_seq ?_
      refine gw_region ?_
      try simp only [List.size_toArray, List.length_cons, List.length_nil, Nat.reduceAdd, Nat.zero_add, List.range, List.range.loop]
      refine gw_opk rfl rfl (by k_ne) (fun w hF K' hK => ?_)
      go_simp
      refine hK _ (fun e he => ?_) ?_
      · (clear hK; simp [go_sem, *, evix1, evix2, evix3] at he)
      clear hK K' hF
      clear w
      try walk_nrm
      refine gw_opk rfl rfl (by k_ne) (fun w hF K' hK => ?_)
      go_simp
      refine hK _ (fun e he => ?_) ?_
      · (clear hK; simp [go_sem, *, evix1, evix2, evix3] at he)
      clear hK K' hF
      clear w
      try walk_nrm
      refine gw_done ?_
      refine gw_cond true rfl ?_
      simp only [if_true, ↓reduceIte]
      refine gw_seq ?_
      refine gw_region ?_
      try simp only [List.size_toArray, List.length_cons, List.length_nil, Nat.reduceAdd, Nat.zero_add, List.range, List.range.loop]
      refine gw_opk rfl rfl (by k_ne) (fun w hF K' hK => ?_)
      go_simp
      refine hK _ (fun e he => ?_) ?_
      · (clear hK; simp [go_sem, *, evix1, evix2, evix3] at he)
      clear hK K' hF
      clear w
      try walk_nrm
      refine gw_done ?_
      refine gw_ret ?_
      refine gw_leave1 rfl rfl Tryd.func40 rfl ?_
      try walk_nrm
      rw [ho]
      exact Gw.mono hM (by omega)
    · rw [if_neg hz]
      have hqb : (q == 0) = false := by simpa using hz
      have r4 := look_r4 e (a0 := (⟨#[(Value.pointer (some ⟨C, 0, none⟩)), (Value.int .i64 (p : Int)), undef, undef, .int .i64 0, (Value.int .i64 q), undef, undef, (Value.pointer (some ⟨C, 0, none⟩)), (Value.pointer (some ⟨C, 0, none⟩)), (Value.pointer (some ⟨C, 0, none⟩)), (Value.int .i64 (p : Int)), (Value.pointer (some ⟨C, 0, none⟩)), (Value.int .i64 (p : Int)), (Value.pointer (some ⟨C, 0, none⟩)), (Value.pointer (some ⟨C, 112, none⟩)), (Value.pointer (some (cpL C p))), .int .i64 v, (Value.int .i64 q), (Value.int .i64 q), .bool false, undef, undef, undef, undef, undef, undef, undef, undef, undef, undef, undef, undef, undef, undef, undef, undef, undef, undef, undef, undef, undef, undef, undef, undef, undef, undef, undef, undef, undef, undef, undef, undef, undef, undef, undef, undef, undef, undef, undef, undef, undef, undef, undef, undef, undef, undef, undef], []⟩ : Act)) (k := [.code (cR (cR (cR (cR (bodyOf Tryd.f40)))))]) (cs := fb.at ab (.inRegion ops (i :: rest) :: k) :: cs) (p := p) (q := q) (ls := moS C n s b p q ++ [(tpL C p, q), (tgL (N + 3), q)]) hp hn10 f1 (by rw [hdd]; exact hd) (by rw [hdd]; omega) rfl rfl rfl rfl (fun x => ?_)
      · rw [hdd] at r4
        obtain ⟨M, hM⟩ := r4
        refine ⟨M + 30, ?_⟩
        simp only [cL, cR, bodyOf, Tryd.f40, Option.getD_some] at hM ⊢
        refine gw_seq ?_
        refine gw_seq ?_
        refine gw_region ?_
        try simp only [List.size_toArray, List.length_cons, List.length_nil, Nat.reduceAdd, Nat.zero_add, List.range, List.range.loop]
        refine gw_opk rfl rfl (by k_ne) (fun w hF K' hK => ?_)
        go_simp
        refine hK _ (fun e he => ?_) ?_
        · (clear hK; simp [go_sem, *, evix1, evix2, evix3] at he)
        clear hK K' hF
        clear w
        try walk_nrm
        refine gw_opk rfl rfl (by k_ne) (fun w hF K' hK => ?_)
        go_simp
        refine hK _ (fun e he => ?_) ?_
        · (clear hK; simp [go_sem, *, evix1, evix2, evix3] at he)
        clear hK K' hF
        clear w
        try walk_nrm
        refine gw_done ?_
        refine gw_cond false rfl ?_
        simp only [if_false, Bool.false_eq_true, ↓reduceIte]
        refine gw_skip ?_
        refine gw_seq ?_
        exact Gw.mono hM (by omega)
      · rw [hdd]
        have ea : putsO (⟨#[(Value.pointer (some ⟨C, 0, none⟩)), (Value.int .i64 (p : Int)), undef, undef, .int .i64 0, (Value.int .i64 q), undef, undef, (Value.pointer (some ⟨C, 0, none⟩)), (Value.pointer (some ⟨C, 0, none⟩)), (Value.pointer (some ⟨C, 0, none⟩)), (Value.int .i64 (p : Int)), (Value.pointer (some ⟨C, 0, none⟩)), (Value.int .i64 (p : Int)), (Value.pointer (some ⟨C, 0, none⟩)), (Value.pointer (some ⟨C, 112, none⟩)), (Value.pointer (some (cpL C p))), .int .i64 v, (Value.int .i64 q), (Value.int .i64 q), .bool false, undef, undef, undef, undef, undef, undef, undef, undef, undef, undef, undef, undef, undef, undef, undef, undef, undef, undef, undef, undef, undef, undef, undef, undef, undef, undef, undef, undef, undef, undef, undef, undef, undef, undef, undef, undef, undef, undef, undef, undef, undef, undef, undef, undef, undef, undef, undef], []⟩ : Act) ((List.range 16).map fun i => (dlR4.getD i none, vlR4 C p x q d i)) = (⟨#[(Value.pointer (some ⟨C, 0, none⟩)), (Value.int .i64 (p : Int)), undef, undef, .int .i64 0, (Value.int .i64 q), undef, undef, (Value.pointer (some ⟨C, 0, none⟩)), (Value.pointer (some ⟨C, 0, none⟩)), (Value.pointer (some ⟨C, 0, none⟩)), (Value.int .i64 (p : Int)), (Value.pointer (some ⟨C, 0, none⟩)), (Value.int .i64 (p : Int)), (Value.pointer (some ⟨C, 0, none⟩)), (Value.pointer (some ⟨C, 112, none⟩)), (Value.pointer (some (cpL C p))), .int .i64 v, (Value.int .i64 q), (Value.int .i64 q), .bool false, (Value.pointer (some ⟨C, 0, none⟩)), (Value.int .i64 (p : Int)), (Value.pointer (some ⟨C, 0, none⟩)), (Value.pointer (some ⟨C, 112, none⟩)), (Value.pointer (some (cpL C p))), (Value.int .i64 q), (Value.pointer (some ⟨C, 0, none⟩)), (Value.int .i64 (p : Int)), (Value.pointer (some ⟨C, 0, none⟩)), (Value.pointer (some ⟨C, 0, none⟩)), (Value.pointer (some ⟨C, 2, none⟩)), (Value.pointer (some ⟨C, 2 + p, none⟩)), .int .i64 d, .int .i64 (q * d), .int .i64 (-(q * d)), .int .i64 x, undef, undef, undef, undef, undef, undef, undef, undef, undef, undef, undef, undef, undef, undef, undef, undef, undef, undef, undef, undef, undef, undef, undef, undef, undef, undef, undef, undef, undef, undef, undef], []⟩ : Act) := by simp only [List.range, List.range.loop, List.map_cons, List.map_nil, dlR1, vlR1, dlR4, vlR4, List.getD_cons_zero, List.getD_cons_succ, putsO, Act.put, List.setIfInBounds_toArray, List.set_cons_zero, List.set_cons_succ]
        rw [ea]
        clear ea
        have c0 : ∀ w, t.Fix w → w.cell? ⟨C, 12 + p * 10, none⟩ = some (.int .i64 (gvS n s b p 0)) := fun w hF => by rw [show 12 + p * 10 = 12 + p * 10 + 0 from rfl, fix_gd e hF (by omega), gd_gv2 _ _ _ (by omega)]
        have c1 : ∀ w, t.Fix w → w.cell? ⟨C, 12 + p * 10 + 1, none⟩ = some (.int .i64 (gvS n s b p 1)) := fun w hF => by rw [fix_gd e hF (by omega), gd_gv2 _ _ _ (by omega)]
        have c2 : ∀ w, t.Fix w → w.cell? ⟨C, 12 + p * 10 + 2, none⟩ = some (.int .i64 (gvS n s b p 2)) := fun w hF => by rw [fix_gd e hF (by omega), gd_gv2 _ _ _ (by omega)]
        have c3 : ∀ w, t.Fix w → w.cell? ⟨C, 12 + p * 10 + 3, none⟩ = some (.int .i64 (gvS n s b p 3)) := fun w hF => by rw [fix_gd e hF (by omega), gd_gv2 _ _ _ (by omega)]
        have c4 : ∀ w, t.Fix w → w.cell? ⟨C, 12 + p * 10 + 4, none⟩ = some (.int .i64 (gvS n s b p 4)) := fun w hF => by rw [fix_gd e hF (by omega), gd_gv2 _ _ _ (by omega)]
        have c5 : ∀ w, t.Fix w → w.cell? ⟨C, 12 + p * 10 + 5, none⟩ = some (.int .i64 (gvS n s b p 5)) := fun w hF => by rw [fix_gd e hF (by omega), gd_gv2 _ _ _ (by omega)]
        have c6 : ∀ w, t.Fix w → w.cell? ⟨C, 12 + p * 10 + 6, none⟩ = some (.int .i64 (gvS n s b p 6)) := fun w hF => by rw [fix_gd e hF (by omega), gd_gv2 _ _ _ (by omega)]
        have c7 : ∀ w, t.Fix w → w.cell? ⟨C, 12 + p * 10 + 7, none⟩ = some (.int .i64 (gvS n s b p 7)) := fun w hF => by rw [fix_gd e hF (by omega), gd_gv2 _ _ _ (by omega)]
        have c8 : ∀ w, t.Fix w → w.cell? ⟨C, 12 + p * 10 + 8, none⟩ = some (.int .i64 (gvS n s b p 8)) := fun w hF => by rw [fix_gd e hF (by omega), gd_gv2 _ _ _ (by omega)]
        have c9 : ∀ w, t.Fix w → w.cell? ⟨C, 12 + p * 10 + 9, none⟩ = some (.int .i64 (gvS n s b p 9)) := fun w hF => by rw [fix_gd e hF (by omega), gd_gv2 _ _ _ (by omega)]
        have lp := look_loop e (A := #[.int .i64 (gvS n s b p 0), .int .i64 (gvS n s b p 1), .int .i64 (gvS n s b p 2), .int .i64 (gvS n s b p 3), .int .i64 (gvS n s b p 4), .int .i64 (gvS n s b p 5), .int .i64 (gvS n s b p 6), .int .i64 (gvS n s b p 7), .int .i64 (gvS n s b p 8), .int .i64 (gvS n s b p 9)]) (k := [.code (cR (cR (cR (cR (cR (bodyOf Tryd.f40))))))]) (cs := fb.at ab (.inRegion ops (i :: rest) :: k) :: cs) (tail := [(tpL C p, q), (tgL (N + 3), q)]) hp hn10 f1 (fun j hj => ?_) hg0 (fun j => ?_) (fun a H => look_end e hp hn10 ho hn2 a H) 10 0 rfl (⟨#[(Value.pointer (some ⟨C, 0, none⟩)), (Value.int .i64 (p : Int)), undef, undef, .int .i64 0, (Value.int .i64 q), undef, undef, (Value.pointer (some ⟨C, 0, none⟩)), (Value.pointer (some ⟨C, 0, none⟩)), (Value.pointer (some ⟨C, 0, none⟩)), (Value.int .i64 (p : Int)), (Value.pointer (some ⟨C, 0, none⟩)), (Value.int .i64 (p : Int)), (Value.pointer (some ⟨C, 0, none⟩)), (Value.pointer (some ⟨C, 112, none⟩)), (Value.pointer (some (cpL C p))), .int .i64 v, (Value.int .i64 q), (Value.int .i64 q), .bool false, (Value.pointer (some ⟨C, 0, none⟩)), (Value.int .i64 (p : Int)), (Value.pointer (some ⟨C, 0, none⟩)), (Value.pointer (some ⟨C, 112, none⟩)), (Value.pointer (some (cpL C p))), (Value.int .i64 q), (Value.pointer (some ⟨C, 0, none⟩)), (Value.int .i64 (p : Int)), (Value.pointer (some ⟨C, 0, none⟩)), (Value.pointer (some ⟨C, 0, none⟩)), (Value.pointer (some ⟨C, 2, none⟩)), (Value.pointer (some ⟨C, 2 + p, none⟩)), .int .i64 d, .int .i64 (q * d), .int .i64 (-(q * d)), .int .i64 x, (Value.pointer (some ⟨C, 0, none⟩)), (Value.int .i64 (p : Int)), (Value.pointer (some ⟨C, 0, none⟩)), (Value.pointer (some ⟨C, 0, none⟩)), (Value.pointer (some ⟨C, 12, none⟩)), (Value.pointer (some ⟨C, 12 + p * 10, none⟩)), .agg #[.int .i64 (gvS n s b p 0), .int .i64 (gvS n s b p 1), .int .i64 (gvS n s b p 2), .int .i64 (gvS n s b p 3), .int .i64 (gvS n s b p 4), .int .i64 (gvS n s b p 5), .int .i64 (gvS n s b p 6), .int .i64 (gvS n s b p 7), .int .i64 (gvS n s b p 8), .int .i64 (gvS n s b p 9)], .int .i64 0, undef, undef, undef, undef, undef, undef, undef, undef, undef, undef, undef, undef, undef, undef, undef, undef, undef, undef, undef, undef, undef, undef, undef], []⟩ : Act) ⟨rfl, rfl, rfl, rfl, rfl, rfl⟩ rfl
        · rw [mf_all] at lp
          obtain ⟨M, hM⟩ := lp
          refine ⟨M + 30, ?_⟩
          simp only [cL, cR, bodyOf, Tryd.f40, Option.getD_some] at hM ⊢
          refine gw_seq ?_
          refine gw_seq ?_
          refine gw_region ?_
          try simp only [List.size_toArray, List.length_cons, List.length_nil, Nat.reduceAdd, Nat.zero_add, List.range, List.range.loop]
          refine gw_opk rfl rfl (by k_ne) (fun w hF K' hK => ?_)
          go_simp
          refine hK _ (fun e he => ?_) ?_
          · (clear hK; simp [go_sem, *, evix1, evix2, evix3] at he)
          clear hK K' hF
          clear w
          try walk_nrm
          refine gw_opk rfl rfl (by k_ne) (fun w hF K' hK => ?_)
          go_simp
          refine hK _ (fun e he => ?_) ?_
          · (clear hK; simp [go_sem, *, evix1, evix2, evix3] at he)
          clear hK K' hF
          clear w
          try walk_nrm
          refine gw_opk rfl rfl (by k_ne) (fun w hF K' hK => ?_)
          go_simp
          refine hK _ (fun e he => ?_) ?_
          · (clear hK; simp [go_sem, *, evix1, evix2, evix3] at he)
          clear hK K' hF
          clear w
          try walk_nrm
          refine gw_opk rfl rfl (by k_ne) (fun w hF K' hK => ?_)
          go_simp
          refine hK _ (fun e he => ?_) ?_
          · (clear hK; simp [go_sem, *, evix1, evix2, evix3] at he)
          clear hK K' hF
          clear w
          try walk_nrm
          refine gw_opk rfl rfl (by k_ne) (fun w hF K' hK => ?_)
          go_simp
          refine hK _ (fun e he => ?_) ?_
          · (clear hK; simp [go_sem, *, evix1, evix2, evix3] at he)
          clear hK K' hF
          clear w
          try walk_nrm
          refine gw_opk rfl rfl (by k_ne) (fun w hF K' hK => ?_)
          go_simp
          refine hK _ (fun e he => ?_) ?_
          · (clear hK; simp [go_sem, *, evix1, evix2, evix3] at he)
          clear hK K' hF
          clear w
          try walk_nrm
          refine gw_opk rfl rfl (by k_ne) (fun w hF K' hK => ?_)
          have fc0 := c0 w hF
          have fc1 := c1 w hF
          have fc2 := c2 w hF
          have fc3 := c3 w hF
          have fc4 := c4 w hF
          have fc5 := c5 w hF
          have fc6 := c6 w hF
          have fc7 := c7 w hF
          have fc8 := c8 w hF
          have fc9 := c9 w hF
          go_simp
          refine hK _ (fun e he => ?_) ?_
          · (clear hK; simp [go_sem, *] at he; rcases he with rfl | rfl | rfl | rfl | rfl | rfl | rfl | rfl | rfl | rfl; exact ⟨_, rfl, Or.inl ⟨12 + p * 10, by omega, rfl⟩⟩; exact ⟨_, rfl, Or.inl ⟨12 + p * 10 + 1, by omega, rfl⟩⟩; exact ⟨_, rfl, Or.inl ⟨12 + p * 10 + 2, by omega, rfl⟩⟩; exact ⟨_, rfl, Or.inl ⟨12 + p * 10 + 3, by omega, rfl⟩⟩; exact ⟨_, rfl, Or.inl ⟨12 + p * 10 + 4, by omega, rfl⟩⟩; exact ⟨_, rfl, Or.inl ⟨12 + p * 10 + 5, by omega, rfl⟩⟩; exact ⟨_, rfl, Or.inl ⟨12 + p * 10 + 6, by omega, rfl⟩⟩; exact ⟨_, rfl, Or.inl ⟨12 + p * 10 + 7, by omega, rfl⟩⟩; exact ⟨_, rfl, Or.inl ⟨12 + p * 10 + 8, by omega, rfl⟩⟩; exact ⟨_, rfl, Or.inl ⟨12 + p * 10 + 9, by omega, rfl⟩⟩)
          clear hK K' hF
          clear fc0
          clear fc1
          clear fc2
          clear fc3
          clear fc4
          clear fc5
          clear fc6
          clear fc7
          clear fc8
          clear fc9
          clear w
          try walk_nrm
          refine gw_opk rfl rfl (by k_ne) (fun w hF K' hK => ?_)
          go_simp
          refine hK _ (fun e he => ?_) ?_
          · (clear hK; simp [go_sem, *, evix1, evix2, evix3] at he)
          clear hK K' hF
          clear w
          try walk_nrm
          refine gw_done ?_
          refine gw_block ?_
          refine gw_loop ?_
          exact Gw.mono hM (by omega)
        · have this : j = 0 ∨ j = 1 ∨ j = 2 ∨ j = 3 ∨ j = 4 ∨ j = 5 ∨ j = 6 ∨ j = 7 ∨ j = 8 ∨ j = 9 := by omega
          rcases this with rfl | rfl | rfl | rfl | rfl | rfl | rfl | rfl | rfl | rfl <;> rfl
        · have g1 := hg1 j
          rw [hdd] at g1
          have : q * gvS n s b p j ≤ q * d := Int.mul_le_mul_of_nonneg_left g1 f1
          omega
end Go.Proofs.YtpajdmhgonmgoaaDoor

namespace Go.Proofs.YtpajdmhgonmgoaaDoor
open Go.RowKit
set_option linter.unusedVariables false
open Go.Conc Go.ConcN Go.RowKit Go.Conc.Lib Go.ConcR.Gen
open Go.ConcR (KK wgBlock WgAt stA smA rd wr Payload DC0)
set_option linter.unusedSimpArgs false
set_option maxRecDepth 100000 in
set_option maxHeartbeats 6400000 in
theorem item_x [Payload] {C N n s : Nat} {b : Nat → Nat → Int} {c0 u0 : Nat → Int} {K : Int} {nw L : Nat} {Shun : Loc → Prop} {t : Site} (e : SiteS t C N n s b c0 u0 K nw L Shun) {p : Nat} (hp : p < n) (hn10 : n ≤ 10) (hps : p ≠ s) (hd : 1 ≤ smS n (b p)) (hg0 : ∀ j, 0 ≤ gvS n s b p j) (hg1 : ∀ j, gvS n s b p j ≤ smS n (b p)) (x4 x7 x8 x9 x10 x11 x12 : Value) :
    ∃ M, Gw Tryd.prog false t.Fix (EvR C N) (t.AtLoad p) M (G ((baseD 37).at (⟨#[.pointer (some ⟨N + 4, 0, none⟩), .pointer (some ⟨N + 2, 0, none⟩), .pointer (some ⟨N + 3, 0, none⟩), .pointer (some ⟨N, 0, none⟩), x4, .chan (some (N + 1)), .tuple #[vI p, .bool true], x7, x8, x9, x10, x11, x12], [dcall 38 #[.pointer (some ⟨N + 4, 0, none⟩)]]⟩ : Act) [.inRegion (cO (cL (cL (cL (cR (cR (bodyOf Tryd.f37))))))) [1], .code (cR (cL (cL (cR (cR (bodyOf Tryd.f37)))))), .inLoop (cL (cL (cR (cR (bodyOf Tryd.f37))))), .inBlock 0]) [{ (default : Frame) with fn := Tryd.prog.funcs.size, defers := [], mode := .panicking [goexitEntry] }]) := by
  have hkb : (baseD 37).kind ≠ .early := by simp [baseD]
  obtain ⟨d, hdd⟩ : ∃ d, smS n (b p) = d := ⟨_, rfl⟩
  have lk := look_x e (cs := [{ (default : Frame) with fn := Tryd.prog.funcs.size, defers := [], mode := .panicking [goexitEntry] }]) (ops := cO (cR (cL (cR (cR (cL (cL (cR (cR (bodyOf Tryd.f37)))))))))) (i := 2) (rest := [3]) (fb := baseD 37) (ab := (⟨#[.pointer (some ⟨N + 4, 0, none⟩), .pointer (some ⟨N + 2, 0, none⟩), .pointer (some ⟨N + 3, 0, none⟩), .pointer (some ⟨N, 0, none⟩), vI p, .chan (some (N + 1)), .tuple #[vI p, .bool true], .bool true, vI p, (Value.pointer (some ⟨C, 0, none⟩)), vI p, x11, x12], [dcall 38 #[.pointer (some ⟨N + 4, 0, none⟩)]]⟩ : Act)) (k := [.inBlock 1, .inLoop (cL (cL (cR (cR (bodyOf Tryd.f37))))), .inBlock 0]) hp hn10 hps hd hg0 hg1 rfl rfl hkb rfl rfl rfl (fun v hg => ?_)
  · obtain ⟨M, hM⟩ := lk
    refine ⟨M + 30, ?_⟩
    simp only [cO, cL, cR, bodyOf, Tryd.f37, Option.getD_some] at hM ⊢
    unfold vI at hM ⊢
    refine gw_opk rfl rfl (by k_ne) (fun w hF K' hK => ?_)
    go_simp
    refine hK _ (fun e he => ?_) ?_
    · (clear hK; simp [go_sem, *, evix1, evix2, evix3] at he)
    clear hK K' hF
    clear w
    try walk_nrm
    refine gw_done ?_
    refine gw_seq ?_
    refine gw_cond true rfl ?_
    simp only [if_true, ↓reduceIte]
    refine gw_skip ?_
    refine gw_block ?_
    refine gw_seq ?_
    refine gw_region ?_
    try simp only [List.size_toArray, List.length_cons, List.length_nil, Nat.reduceAdd, Nat.zero_add, List.range, List.range.loop]
    refine gw_opk rfl rfl (by k_ne) (fun w hF K' hK => ?_)
    go_simp
    refine hK _ (fun e he => ?_) ?_
    · (clear hK; simp [go_sem, *, evix1, evix2, evix3] at he)
    clear hK K' hF
    clear w
    try walk_nrm
    refine gw_opk rfl rfl (by k_ne) (fun w hF K' hK => ?_)
    go_simp
    refine hK _ (fun e he => ?_) ?_
    · (clear hK; simp [go_sem, *, evix1, evix2, evix3] at he)
    clear hK K' hF
    clear w
    try walk_nrm
    refine gw_done ?_
    refine gw_region ?_
    try simp only [List.size_toArray, List.length_cons, List.length_nil, Nat.reduceAdd, Nat.zero_add, List.range, List.range.loop]
    refine gw_opk rfl rfl (by k_ne) (fun w hF K' hK => ?_)
    have fc0 := fix_box e hF
    go_simp
    refine hK _ (fun e he => ?_) ?_
    · (clear hK; simp [go_sem, *] at he; subst he; exact ⟨_, rfl, Or.inr (Or.inl rfl)⟩)
    clear hK K' hF
    clear fc0
    clear w
    try walk_nrm
    refine gw_opk rfl rfl (by k_ne) (fun w hF K' hK => ?_)
    go_simp
    refine hK _ (fun e he => ?_) ?_
    · (clear hK; simp [go_sem, *, evix1, evix2, evix3] at he)
    clear hK K' hF
    clear w
    try walk_nrm
    exact Gw.mono hM (by omega)
  · refine ⟨60, ?_⟩
    have hgo := add_x e (ad := tgL (N + 3)) (d := v.tdiv (smS n (b p))) (ls := []) (fb := baseD 37) (a := (⟨#[.pointer (some ⟨N + 4, 0, none⟩), .pointer (some ⟨N + 2, 0, none⟩), .pointer (some ⟨N + 3, 0, none⟩), .pointer (some ⟨N, 0, none⟩), vI p, .chan (some (N + 1)), .tuple #[vI p, .bool true], .bool true, vI p, (Value.pointer (some ⟨C, 0, none⟩)), vI p, .int .i64 (v.tdiv (smS n (b p))), x12], [dcall 38 #[.pointer (some ⟨N + 4, 0, none⟩)]]⟩ : Act)) (k := [.inBlock 1, .inLoop (cL (cL (cR (cR (bodyOf Tryd.f37))))), .inBlock 0]) (cs := [{ (default : Frame) with fn := Tryd.prog.funcs.size, defers := [], mode := .panicking [goexitEntry] }]) (ops := cO (cR (cL (cR (cR (cL (cL (cR (cR (bodyOf Tryd.f37)))))))))) (i := 3) (rest := []) (Or.inr (Or.inr rfl)) rfl rfl hkb rfl rfl rfl (fun x => ⟨20, ?_⟩)
    · exact Gw.mono hgo (by omega)
    · simp only [cO, cL, cR, bodyOf, Tryd.f37, Option.getD_some]
      walk_nrm
      refine gw_done ?_
      refine gw_inBlock ?_
      refine gw_inLoop ?_
      refine gw_seq ?_
      refine gw_region ?_
      try simp only [List.size_toArray, List.length_cons, List.length_nil, Nat.reduceAdd, Nat.zero_add, List.range, List.range.loop]
      refine Gw.stop (fun w hF => ?_)
      show t.Loop _
      rw [e.elo]
      exact ⟨_, _, _, _, _, _, _, _, rfl⟩
end Go.Proofs.YtpajdmhgonmgoaaDoor

