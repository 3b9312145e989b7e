/-
  What the last text of this claim leans on, part 13: Kb8.
-/
import Derived.Test.YtpajdmhgonmgoaaDoorYt12
namespace Go.Proofs.YtpajdmhgonmgoaaDoor
open Go.RowKit
set_option linter.unusedVariables false
open Go.Conc Go.ConcN Go.RowKit Go.Conc.Lib Go.ConcR.Gen
open Go.ConcR (KK wgBlock WgAt stA smA rd wr Payload DC0)
set_option linter.unusedSimpArgs false
/-- What stands in the slots while look goes over the others. -/
structure LkA (C p : Nat) (q : Int) (A : Array Value) (a : Act) : Prop where
  sz : a.tmps.size = 68
  df : a.defers = []
  s0 : a.tmps[0]? = some (Value.pointer (some ⟨C, 0, none⟩))
  s1 : a.tmps[1]? = some (Value.int .i64 (p : Int))
  s5 : a.tmps[5]? = some (.int .i64 q)
  s43 : a.tmps[43]? = some (.agg A)
theorem LkA.put {C p : Nat} {q : Int} {A : Array Value} {a : Act} (h : LkA C p q A a) (d : Nat) (v : Value) (hd : d < 68) (h0 : d ≠ 0) (h1 : d ≠ 1) (h5 : d ≠ 5) (h43 : d ≠ 43) : LkA C p q A (a.put (some d) v) := by
  have z := h.sz
  refine ⟨by rw [put_sizeE]; exact z, by rw [put_defersE]; exact h.df, ?_, ?_, ?_, ?_⟩
  · rw [put_getE _ _ _ _ (by omega), if_neg (by omega)]; exact h.s0
  · rw [put_getE _ _ _ _ (by omega), if_neg (by omega)]; exact h.s1
  · rw [put_getE _ _ _ _ (by omega), if_neg (by omega)]; exact h.s5
  · rw [put_getE _ _ _ _ (by omega), if_neg (by omega)]; exact h.s43
theorem put_far {a : Act} {d k : Nat} {v u : Value} (hd : d < a.tmps.size) (hk : k ≠ d) (h : a.tmps[k]? = some u) : (a.put (some d) v).tmps[k]? = some u := by
  rw [put_getE _ _ _ _ hd, if_neg hk]; exact h
theorem put_same {a : Act} {d : Nat} {v : Value} (hd : d < a.tmps.size) : (a.put (some d) v).tmps[d]? = some v := by
  rw [put_getE _ _ _ _ hd, if_pos rfl]
theorem run_ix10 {A : Array Value} {j : Nat} {v : Value} {w : World} (hj : (j : Int) < 10) (h : A[j]? = some v) : (Instr.index 55 (.agg A) (.int .i64 (j : Int))).run Tryd.prog w = .ok v w := by
  have h0 : (0 : Int) ≤ (j : Int) := by omega
  simp [Instr.index, asIntOf, part, run_underlying Tryd.underlying55, go_sem, Result.andThen, h0, hj, h, asAgg]
  omega
theorem ev_ix10 {A : Array Value} {j : Nat} {v : Value} {w : World} {es : Array Event} (hj : (j : Int) < 10) (h : A[j]? = some v) : (Instr.index 55 (.agg A) (.int .i64 (j : Int))).events Tryd.prog w es = es := by
  have h0 : (0 : Int) ≤ (j : Int) := by omega
  simp [Instr.index, asIntOf, part, run_underlying Tryd.underlying55, events_underlying, events_sizeOf, go_sem, Result.andThen, Result.evThen, h0, hj, h]
  omega
theorem gw_valE {P : Program} {main : Bool} {F : World → Prop} {E : Event → Prop} {S : Goroutine → World → Prop} {m : Nat} {fb : Frame} {a a' : Act} {k : List Item} {cs : List Frame} {ops : Array Oper} {i : Nat} {rest : List Nat} {o : Oper} (ho : ops[i]? = some o) (hw : Region.wanted o (yielded ops a.tmps) = true) (hk : fb.kind ≠ .early) (v : Value) (ha : a.put o.dst v = a') (hr : ∀ w, F w → (execOp a.eval o).run P w = .ok (.value v) w) (he : ∀ w, F w → ∀ e ∈ (execOp a.eval o).events P w #[], E e)
    (hn : Gw P main F E S m (G (fb.at a' (.inRegion ops rest :: k)) cs)) : Gw P main F E S (m + 1) (G (fb.at a (.inRegion ops (i :: rest) :: k)) cs) := gw_val ho hw hk v hr he (by rw [ha]; exact hn)
/-- The others from number j on that get chips. -/
def mfS (C n s : Nat) (b : Nat → Nat → Int) (p : Nat) (t : Int) (j m : Nat) : List (Addr × Int) := ((List.range' j m).filter fun q => decide (0 < gvS n s b p q)).map fun q => (cpL C q, t * gvS n s b p q)
theorem mf_all (C n s : Nat) (b : Nat → Nat → Int) (p : Nat) (t : Int) : mfS C n s b p t 0 10 = moS C n s b p t := by
  unfold mfS moS
  rw [List.range_eq_range']
theorem mf_yes {C n s : Nat} {b : Nat → Nat → Int} {p : Nat} {t : Int} {j m : Nat} (h : 0 < gvS n s b p j) : mfS C n s b p t j (m + 1) = (cpL C j, t * gvS n s b p j) :: mfS C n s b p t (j + 1) m := by
  unfold mfS
  rw [List.range'_succ, List.filter_cons_of_pos (by simpa using h)]
  rfl
theorem mf_no {C n s : Nat} {b : Nat → Nat → Int} {p : Nat} {t : Int} {j m : Nat} (h : ¬ 0 < gvS n s b p j) : mfS C n s b p t j (m + 1) = mfS C n s b p t (j + 1) m := by
  unfold mfS
  rw [List.range'_succ, List.filter_cons_of_neg (by simpa using h)]
set_option maxRecDepth 100000 in
set_option maxHeartbeats 3200000 in
theorem look_loop [Payload] {C N n s : Nat} {b : Nat → Nat → Int} {c0 u0 : Nat → Int} {K : Int} {nw L : Nat} {Shun : Loc → Prop} {t : Site} (e : SiteS t C N n s b c0 u0 K nw L Shun) {cs : List Frame} {k : List Item} {p : Nat} {q : Int} {A : Array Value} {tail : List (Addr × Int)} (hp : p < n) (hn10 : n ≤ 10) (hq0 : 0 ≤ q) (hA : ∀ j, j < 10 → A[j]? = some (.int .i64 (gvS n s b p j))) (hg0 : ∀ j, 0 ≤ gvS n s b p j) (hg1 : ∀ j, q * gvS n s b p j ≤ 100000)
    (hn : ∀ a, LkA C p q A a → ∃ M, Gw Tryd.prog false t.Fix (EvR C N) (t.AtAdds tail) M (G ((base 40).at a k) cs)) :
    ∀ (m j : Nat), j + m = 10 → ∀ a0 : Act, LkA C p q A a0 → a0.tmps[44]? = some (.int .i64 (j : Int)) →
      ∃ M, Gw Tryd.prog false t.Fix (EvR C N) (t.AtAdds (mfS C n s b p q j m ++ tail)) M (G ((base 40).at a0 (.code (cL (cL (cR (cL (cR (cR (cR (cR (bodyOf Tryd.f40))))))))) :: .inLoop (cL (cL (cR (cL (cR (cR (cR (cR (bodyOf Tryd.f40))))))))) :: .inBlock 0 :: k)) cs) := by
  have hkb : (base 40).kind ≠ .early := by simp [base]
  intro m
  induction m with
  | zero =>
    intro j hj a0 H0 l0_44
    obtain rfl : j = 10 := by omega
    have hlt : ¬ (((10 : Nat) : Int) < 10) := by omega
    simp only [cL, cR, bodyOf, Tryd.f40, Option.getD_some]
    obtain ⟨a1, E1⟩ : ∃ x, a0.put (some 45) (.bool false) = x := ⟨_, rfl⟩
    have H1 : LkA C p q A a1 := by rw [← E1]; exact H0.put 45 _ (by omega) (by omega) (by omega) (by omega) (by omega)
    have l1_44 : a1.tmps[44]? = some (.int .i64 ((10 : Nat) : Int)) := by rw [← E1]; exact put_far (by rw [H0.sz]; omega) (by omega) l0_44
    have l1_45 : a1.tmps[45]? = some (.bool false) := by rw [← E1]; exact put_same (by rw [H0.sz]; omega)
    obtain ⟨M, hM⟩ := hn _ H1
    refine ⟨M + 20, ?_⟩
    show Gw _ _ _ _ (t.AtAdds tail) _ _
    refine gw_seq ?_
    refine gw_region ?_
    try simp only [List.size_toArray, List.length_cons, List.length_nil, Nat.reduceAdd, Nat.zero_add, List.range, List.range.loop]
    refine gw_valE rfl rfl hkb (.bool false) E1 (fun w hF => by simp [execOp, Act.eval, go_sem, l0_44]) (fun w hF e' he => by simp [execOp, Act.eval, go_sem, evix1, evix2, evix3, l0_44] at he) ?_
    refine gw_done ?_
    refine gw_seq ?_
    refine gw_cond false (by simp [Act.eval, l1_45]) ?_
    simp only [if_false, Bool.false_eq_true, ↓reduceIte]
    refine gw_exit rfl ?_
    exact Gw.mono hM (by omega)
  | succ m ih =>
    intro j hj a0 H0 l0_44
    have hlt : (j : Int) < 10 := by omega
    have hj0 : (0 : Int) ≤ (j : Int) := by omega
    have hAj := hA j (by omega)
    obtain ⟨g, hg⟩ : ∃ g, gvS n s b p j = g := ⟨_, rfl⟩
    have g0 := hg0 j
    have g1 := hg1 j
    rw [hg] at hAj g0 g1
    have hwm : IntKind.wrap .i64 (q * g) = q * g := wrap_fit ⟨by have := Int.mul_nonneg hq0 g0; omega, by omega⟩
    have hwj : IntKind.wrap .i64 ((j : Int) + 1) = (j : Int) + 1 := wrap_fit ⟨by omega, by omega⟩
    have nxt : ∀ a : Act, LkA C p q A a → a.tmps[44]? = some (.int .i64 (j : Int)) → ∃ M, Gw Tryd.prog false t.Fix (EvR C N) (t.AtAdds (mfS C n s b p q (j + 1) m ++ tail)) M (G ((base 40).at a (.code (cR (cR (cR (cL (cL (cR (cL (cR (cR (cR (cR (bodyOf Tryd.f40)))))))))))) :: .inLoop (cL (cL (cR (cL (cR (cR (cR (cR (bodyOf Tryd.f40))))))))) :: .inBlock 0 :: k)) cs) := by
      intro a0 H0 l0_44
      obtain ⟨a1, E1⟩ : ∃ x, a0.put (some 59) (.int .i64 ((j : Int) + 1)) = x := ⟨_, rfl⟩
      have H1 : LkA C p q A a1 := by rw [← E1]; exact H0.put 59 _ (by omega) (by omega) (by omega) (by omega) (by omega)
      have l1_44 : a1.tmps[44]? = some (.int .i64 (j : Int)) := by rw [← E1]; exact put_far (by rw [H0.sz]; omega) (by omega) l0_44
      have l1_59 : a1.tmps[59]? = some (.int .i64 ((j : Int) + 1)) := by rw [← E1]; exact put_same (by rw [H0.sz]; omega)
      obtain ⟨a2, E2⟩ : ∃ x, a1.put (some 44) (.int .i64 ((j : Int) + 1)) = x := ⟨_, rfl⟩
      have H2 : LkA C p q A a2 := by rw [← E2]; exact H1.put 44 _ (by omega) (by omega) (by omega) (by omega) (by omega)
      have l2_59 : a2.tmps[59]? = some (.int .i64 ((j : Int) + 1)) := by rw [← E2]; exact put_far (by rw [H1.sz]; omega) (by omega) l1_59
      have l2_44 : a2.tmps[44]? = some (.int .i64 ((j : Int) + 1)) := by rw [← E2]; exact put_same (by rw [H1.sz]; omega)
      obtain ⟨M, hM⟩ := ih (j + 1) (by omega) _ H2 (by rw [l2_44]; rfl)
      refine ⟨M + 10, ?_⟩
      simp only [cL, cR, bodyOf, Tryd.f40, Option.getD_some] at hM ⊢
      refine gw_region ?_
      try simp only [List.size_toArray, List.length_cons, List.length_nil, Nat.reduceAdd, Nat.zero_add, List.range, List.range.loop]
      refine gw_valE rfl rfl hkb (.int .i64 ((j : Int) + 1)) E1 (fun w hF => by simp [execOp, Act.eval, go_sem, l0_44, hwj]) (fun w hF e' he => by simp [execOp, Act.eval, go_sem, evix1, evix2, evix3, l0_44, hwj] at he) ?_
      refine gw_valE rfl rfl hkb (.int .i64 ((j : Int) + 1)) E2 (fun w hF => by simp [execOp, Act.eval, go_sem, l1_59]) (fun w hF e' he => by simp [execOp, Act.eval, go_sem, evix1, evix2, evix3, l1_59] at he) ?_
      refine gw_done ?_
      refine gw_inLoop ?_
      exact Gw.mono hM (by omega)
    have pos : ∀ a : Act, LkA C p q A a → a.tmps[44]? = some (.int .i64 (j : Int)) → a.tmps[6]? = some (.int .i64 (j : Int)) → a.tmps[7]? = some (.int .i64 g) → Gw Tryd.prog false t.Fix (EvR C N) (t.AtAdds ((cpL C j, q * g) :: (mfS C n s b p q (j + 1) m ++ tail))) 100 (G ((base 40).at a (.code (cL (cR (cR (cL (cL (cR (cR (cL (cL (cR (cL (cR (cR (cR (cR (bodyOf Tryd.f40)))))))))))))))) :: .inBlock 1 :: .code (cR (cR (cR (cL (cL (cR (cL (cR (cR (cR (cR (bodyOf Tryd.f40)))))))))))) :: .inLoop (cL (cL (cR (cL (cR (cR (cR (cR (bodyOf Tryd.f40))))))))) :: .inBlock 0 :: k)) cs) := by
      intro a0 H0 l0_44 l0_6 l0_7
      obtain ⟨a1, E1⟩ : ∃ x, a0.put (some 50) ((Value.pointer (some ⟨C, 0, none⟩))) = x := ⟨_, rfl⟩
      have H1 : LkA C p q A a1 := by rw [← E1]; exact H0.put 50 _ (by omega) (by omega) (by omega) (by omega) (by omega)
      have l1_44 : a1.tmps[44]? = some (.int .i64 (j : Int)) := by rw [← E1]; exact put_far (by rw [H0.sz]; omega) (by omega) l0_44
      have l1_6 : a1.tmps[6]? = some (.int .i64 (j : Int)) := by rw [← E1]; exact put_far (by rw [H0.sz]; omega) (by omega) l0_6
      have l1_7 : a1.tmps[7]? = some (.int .i64 g) := by rw [← E1]; exact put_far (by rw [H0.sz]; omega) (by omega) l0_7
      have l1_50 : a1.tmps[50]? = some ((Value.pointer (some ⟨C, 0, none⟩))) := by rw [← E1]; exact put_same (by rw [H0.sz]; omega)
      obtain ⟨a2, E2⟩ : ∃ x, a1.put (some 51) (.int .i64 (j : Int)) = x := ⟨_, rfl⟩
      have H2 : LkA C p q A a2 := by rw [← E2]; exact H1.put 51 _ (by omega) (by omega) (by omega) (by omega) (by omega)
      have l2_44 : a2.tmps[44]? = some (.int .i64 (j : Int)) := by rw [← E2]; exact put_far (by rw [H1.sz]; omega) (by omega) l1_44
      have l2_6 : a2.tmps[6]? = some (.int .i64 (j : Int)) := by rw [← E2]; exact put_far (by rw [H1.sz]; omega) (by omega) l1_6
      have l2_7 : a2.tmps[7]? = some (.int .i64 g) := by rw [← E2]; exact put_far (by rw [H1.sz]; omega) (by omega) l1_7
      have l2_50 : a2.tmps[50]? = some ((Value.pointer (some ⟨C, 0, none⟩))) := by rw [← E2]; exact put_far (by rw [H1.sz]; omega) (by omega) l1_50
      have l2_51 : a2.tmps[51]? = some (.int .i64 (j : Int)) := by rw [← E2]; exact put_same (by rw [H1.sz]; omega)
      obtain ⟨a3, E3⟩ : ∃ x, a2.put (some 52) ((Value.pointer (some ⟨C, 0, none⟩))) = x := ⟨_, rfl⟩
      have H3 : LkA C p q A a3 := by rw [← E3]; exact H2.put 52 _ (by omega) (by omega) (by omega) (by omega) (by omega)
      have l3_44 : a3.tmps[44]? = some (.int .i64 (j : Int)) := by rw [← E3]; exact put_far (by rw [H2.sz]; omega) (by omega) l2_44
      have l3_6 : a3.tmps[6]? = some (.int .i64 (j : Int)) := by rw [← E3]; exact put_far (by rw [H2.sz]; omega) (by omega) l2_6
      have l3_7 : a3.tmps[7]? = some (.int .i64 g) := by rw [← E3]; exact put_far (by rw [H2.sz]; omega) (by omega) l2_7
      have l3_50 : a3.tmps[50]? = some ((Value.pointer (some ⟨C, 0, none⟩))) := by rw [← E3]; exact put_far (by rw [H2.sz]; omega) (by omega) l2_50
      have l3_51 : a3.tmps[51]? = some (.int .i64 (j : Int)) := by rw [← E3]; exact put_far (by rw [H2.sz]; omega) (by omega) l2_51
      have l3_52 : a3.tmps[52]? = some ((Value.pointer (some ⟨C, 0, none⟩))) := by rw [← E3]; exact put_same (by rw [H2.sz]; omega)
      obtain ⟨a4, E4⟩ : ∃ x, a3.put (some 53) ((Value.pointer (some ⟨C, 112, none⟩))) = x := ⟨_, rfl⟩
      have H4 : LkA C p q A a4 := by rw [← E4]; exact H3.put 53 _ (by omega) (by omega) (by omega) (by omega) (by omega)
      have l4_44 : a4.tmps[44]? = some (.int .i64 (j : Int)) := by rw [← E4]; exact put_far (by rw [H3.sz]; omega) (by omega) l3_44
      have l4_6 : a4.tmps[6]? = some (.int .i64 (j : Int)) := by rw [← E4]; exact put_far (by rw [H3.sz]; omega) (by omega) l3_6
      have l4_7 : a4.tmps[7]? = some (.int .i64 g) := by rw [← E4]; exact put_far (by rw [H3.sz]; omega) (by omega) l3_7
      have l4_50 : a4.tmps[50]? = some ((Value.pointer (some ⟨C, 0, none⟩))) := by rw [← E4]; exact put_far (by rw [H3.sz]; omega) (by omega) l3_50
      have l4_51 : a4.tmps[51]? = some (.int .i64 (j : Int)) := by rw [← E4]; exact put_far (by rw [H3.sz]; omega) (by omega) l3_51
      have l4_52 : a4.tmps[52]? = some ((Value.pointer (some ⟨C, 0, none⟩))) := by rw [← E4]; exact put_far (by rw [H3.sz]; omega) (by omega) l3_52
      have l4_53 : a4.tmps[53]? = some ((Value.pointer (some ⟨C, 112, none⟩))) := by rw [← E4]; exact put_same (by rw [H3.sz]; omega)
      obtain ⟨a5, E5⟩ : ∃ x, a4.put (some 54) (.pointer (some (cpL C j))) = x := ⟨_, rfl⟩
      have H5 : LkA C p q A a5 := by rw [← E5]; exact H4.put 54 _ (by omega) (by omega) (by omega) (by omega) (by omega)
      have l5_44 : a5.tmps[44]? = some (.int .i64 (j : Int)) := by rw [← E5]; exact put_far (by rw [H4.sz]; omega) (by omega) l4_44
      have l5_6 : a5.tmps[6]? = some (.int .i64 (j : Int)) := by rw [← E5]; exact put_far (by rw [H4.sz]; omega) (by omega) l4_6
      have l5_7 : a5.tmps[7]? = some (.int .i64 g) := by rw [← E5]; exact put_far (by rw [H4.sz]; omega) (by omega) l4_7
      have l5_50 : a5.tmps[50]? = some ((Value.pointer (some ⟨C, 0, none⟩))) := by rw [← E5]; exact put_far (by rw [H4.sz]; omega) (by omega) l4_50
      have l5_51 : a5.tmps[51]? = some (.int .i64 (j : Int)) := by rw [← E5]; exact put_far (by rw [H4.sz]; omega) (by omega) l4_51
      have l5_52 : a5.tmps[52]? = some ((Value.pointer (some ⟨C, 0, none⟩))) := by rw [← E5]; exact put_far (by rw [H4.sz]; omega) (by omega) l4_52
      have l5_53 : a5.tmps[53]? = some ((Value.pointer (some ⟨C, 112, none⟩))) := by rw [← E5]; exact put_far (by rw [H4.sz]; omega) (by omega) l4_53
      have l5_54 : a5.tmps[54]? = some (.pointer (some (cpL C j))) := by rw [← E5]; exact put_same (by rw [H4.sz]; omega)
      obtain ⟨a6, E6⟩ : ∃ x, a5.put (some 55) (.int .i64 q) = x := ⟨_, rfl⟩
      have H6 : LkA C p q A a6 := by rw [← E6]; exact H5.put 55 _ (by omega) (by omega) (by omega) (by omega) (by omega)
      have l6_44 : a6.tmps[44]? = some (.int .i64 (j : Int)) := by rw [← E6]; exact put_far (by rw [H5.sz]; omega) (by omega) l5_44
      have l6_6 : a6.tmps[6]? = some (.int .i64 (j : Int)) := by rw [← E6]; exact put_far (by rw [H5.sz]; omega) (by omega) l5_6
      have l6_7 : a6.tmps[7]? = some (.int .i64 g) := by rw [← E6]; exact put_far (by rw [H5.sz]; omega) (by omega) l5_7
      have l6_50 : a6.tmps[50]? = some ((Value.pointer (some ⟨C, 0, none⟩))) := by rw [← E6]; exact put_far (by rw [H5.sz]; omega) (by omega) l5_50
      have l6_51 : a6.tmps[51]? = some (.int .i64 (j : Int)) := by rw [← E6]; exact put_far (by rw [H5.sz]; omega) (by omega) l5_51
      have l6_52 : a6.tmps[52]? = some ((Value.pointer (some ⟨C, 0, none⟩))) := by rw [← E6]; exact put_far (by rw [H5.sz]; omega) (by omega) l5_52
      have l6_53 : a6.tmps[53]? = some ((Value.pointer (some ⟨C, 112, none⟩))) := by rw [← E6]; exact put_far (by rw [H5.sz]; omega) (by omega) l5_53
      have l6_54 : a6.tmps[54]? = some (.pointer (some (cpL C j))) := by rw [← E6]; exact put_far (by rw [H5.sz]; omega) (by omega) l5_54
      have l6_55 : a6.tmps[55]? = some (.int .i64 q) := by rw [← E6]; exact put_same (by rw [H5.sz]; omega)
      obtain ⟨a7, E7⟩ : ∃ x, a6.put (some 56) (.int .i64 g) = x := ⟨_, rfl⟩
      have H7 : LkA C p q A a7 := by rw [← E7]; exact H6.put 56 _ (by omega) (by omega) (by omega) (by omega) (by omega)
      have l7_44 : a7.tmps[44]? = some (.int .i64 (j : Int)) := by rw [← E7]; exact put_far (by rw [H6.sz]; omega) (by omega) l6_44
      have l7_6 : a7.tmps[6]? = some (.int .i64 (j : Int)) := by rw [← E7]; exact put_far (by rw [H6.sz]; omega) (by omega) l6_6
      have l7_7 : a7.tmps[7]? = some (.int .i64 g) := by rw [← E7]; exact put_far (by rw [H6.sz]; omega) (by omega) l6_7
      have l7_50 : a7.tmps[50]? = some ((Value.pointer (some ⟨C, 0, none⟩))) := by rw [← E7]; exact put_far (by rw [H6.sz]; omega) (by omega) l6_50
      have l7_51 : a7.tmps[51]? = some (.int .i64 (j : Int)) := by rw [← E7]; exact put_far (by rw [H6.sz]; omega) (by omega) l6_51
      have l7_52 : a7.tmps[52]? = some ((Value.pointer (some ⟨C, 0, none⟩))) := by rw [← E7]; exact put_far (by rw [H6.sz]; omega) (by omega) l6_52
      have l7_53 : a7.tmps[53]? = some ((Value.pointer (some ⟨C, 112, none⟩))) := by rw [← E7]; exact put_far (by rw [H6.sz]; omega) (by omega) l6_53
      have l7_54 : a7.tmps[54]? = some (.pointer (some (cpL C j))) := by rw [← E7]; exact put_far (by rw [H6.sz]; omega) (by omega) l6_54
      have l7_55 : a7.tmps[55]? = some (.int .i64 q) := by rw [← E7]; exact put_far (by rw [H6.sz]; omega) (by omega) l6_55
      have l7_56 : a7.tmps[56]? = some (.int .i64 g) := by rw [← E7]; exact put_same (by rw [H6.sz]; omega)
      obtain ⟨a8, E8⟩ : ∃ x, a7.put (some 57) (.int .i64 (q * g)) = x := ⟨_, rfl⟩
      have H8 : LkA C p q A a8 := by rw [← E8]; exact H7.put 57 _ (by omega) (by omega) (by omega) (by omega) (by omega)
      have l8_44 : a8.tmps[44]? = some (.int .i64 (j : Int)) := by rw [← E8]; exact put_far (by rw [H7.sz]; omega) (by omega) l7_44
      have l8_6 : a8.tmps[6]? = some (.int .i64 (j : Int)) := by rw [← E8]; exact put_far (by rw [H7.sz]; omega) (by omega) l7_6
      have l8_7 : a8.tmps[7]? = some (.int .i64 g) := by rw [← E8]; exact put_far (by rw [H7.sz]; omega) (by omega) l7_7
      have l8_50 : a8.tmps[50]? = some ((Value.pointer (some ⟨C, 0, none⟩))) := by rw [← E8]; exact put_far (by rw [H7.sz]; omega) (by omega) l7_50
      have l8_51 : a8.tmps[51]? = some (.int .i64 (j : Int)) := by rw [← E8]; exact put_far (by rw [H7.sz]; omega) (by omega) l7_51
      have l8_52 : a8.tmps[52]? = some ((Value.pointer (some ⟨C, 0, none⟩))) := by rw [← E8]; exact put_far (by rw [H7.sz]; omega) (by omega) l7_52
      have l8_53 : a8.tmps[53]? = some ((Value.pointer (some ⟨C, 112, none⟩))) := by rw [← E8]; exact put_far (by rw [H7.sz]; omega) (by omega) l7_53
      have l8_54 : a8.tmps[54]? = some (.pointer (some (cpL C j))) := by rw [← E8]; exact put_far (by rw [H7.sz]; omega) (by omega) l7_54
      have l8_55 : a8.tmps[55]? = some (.int .i64 q) := by rw [← E8]; exact put_far (by rw [H7.sz]; omega) (by omega) l7_55
      have l8_56 : a8.tmps[56]? = some (.int .i64 g) := by rw [← E8]; exact put_far (by rw [H7.sz]; omega) (by omega) l7_56
      have l8_57 : a8.tmps[57]? = some (.int .i64 (q * g)) := by rw [← E8]; exact put_same (by rw [H7.sz]; omega)
      simp only [cL, cR, bodyOf, Tryd.f40, Option.getD_some] at nxt ⊢
      refine gw_region ?_
      try simp only [List.size_toArray, List.length_cons, List.length_nil, Nat.reduceAdd, Nat.zero_add, List.range, List.range.loop]
      refine gw_valE rfl rfl hkb ((Value.pointer (some ⟨C, 0, none⟩))) E1 (fun w hF => by simp [execOp, Act.eval, go_sem, H0.s0]) (fun w hF e' he => by simp [execOp, Act.eval, go_sem, evix1, evix2, evix3, H0.s0] at he) ?_
      refine gw_valE rfl rfl hkb (.int .i64 (j : Int)) E2 (fun w hF => by simp [execOp, Act.eval, go_sem, l1_6]) (fun w hF e' he => by simp [execOp, Act.eval, go_sem, evix1, evix2, evix3, l1_6] at he) ?_
      refine gw_valE rfl rfl hkb ((Value.pointer (some ⟨C, 0, none⟩))) E3 (fun w hF => by simp [execOp, Act.eval, go_sem, l2_50]) (fun w hF e' he => by simp [execOp, Act.eval, go_sem, evix1, evix2, evix3, l2_50] at he) ?_
      refine gw_valE rfl rfl hkb ((Value.pointer (some ⟨C, 112, none⟩))) E4 (fun w hF => by simp [execOp, Act.eval, go_sem, l3_52]) (fun w hF e' he => by simp [execOp, Act.eval, go_sem, evix1, evix2, evix3, l3_52] at he) ?_
      refine gw_valE rfl rfl hkb (.pointer (some (cpL C j))) E5 (fun w hF => by simp [execOp, Act.eval, go_sem, l4_53, l4_51, hj0, hlt, cpL]) (fun w hF e' he => by simp [execOp, Act.eval, go_sem, evix1, evix2, evix3, l4_53, l4_51, hj0, hlt, cpL] at he) ?_
      refine gw_valE rfl rfl hkb (.int .i64 q) E6 (fun w hF => by simp [execOp, Act.eval, go_sem, H5.s5]) (fun w hF e' he => by simp [execOp, Act.eval, go_sem, evix1, evix2, evix3, H5.s5] at he) ?_
      refine gw_valE rfl rfl hkb (.int .i64 g) E7 (fun w hF => by simp [execOp, Act.eval, go_sem, l6_7]) (fun w hF e' he => by simp [execOp, Act.eval, go_sem, evix1, evix2, evix3, l6_7] at he) ?_
      refine gw_valE rfl rfl hkb (.int .i64 (q * g)) E8 (fun w hF => by simp [execOp, Act.eval, go_sem, l7_55, l7_56, hwm]) (fun w hF e' he => by simp [execOp, Act.eval, go_sem, evix1, evix2, evix3, l7_55, l7_56, hwm] at he) ?_
      refine Gw.mono (add_x e (Or.inl ⟨j, by omega, rfl⟩) rfl rfl hkb rfl (by simp [Act.eval, l8_54]) (by simp [Act.eval, l8_57]) (fun x => ?_)) (by omega : _ ≤ 92 - 1)
      obtain ⟨M, hM⟩ := nxt _ (H8.put 58 (.int .i64 x) (by omega) (by omega) (by omega) (by omega) (by omega)) (put_far (by rw [H8.sz]; omega) (by omega) l8_44)
      exact ⟨M + 3, gw_done (gw_inBlock (Gw.mono hM (by omega)))⟩
    have walk : ∀ (S' : Goroutine → World → Prop), (∀ a : Act, LkA C p q A a → a.tmps[44]? = some (.int .i64 (j : Int)) → a.tmps[6]? = some (.int .i64 (j : Int)) → a.tmps[7]? = some (.int .i64 g) → a.tmps[49]? = some (.bool (decide (0 < g))) → ∃ M, Gw Tryd.prog false t.Fix (EvR C N) S' M (G ((base 40).at a (.code (cR (cR (cL (cL (cR (cR (cL (cL (cR (cL (cR (cR (cR (cR (bodyOf Tryd.f40))))))))))))))) :: .inBlock 1 :: .code (cR (cR (cR (cL (cL (cR (cL (cR (cR (cR (cR (bodyOf Tryd.f40)))))))))))) :: .inLoop (cL (cL (cR (cL (cR (cR (cR (cR (bodyOf Tryd.f40))))))))) :: .inBlock 0 :: k)) cs)) → ∃ M, Gw Tryd.prog false t.Fix (EvR C N) S' M (G ((base 40).at a0 (.code (cL (cL (cR (cL (cR (cR (cR (cR (bodyOf Tryd.f40))))))))) :: .inLoop (cL (cL (cR (cL (cR (cR (cR (cR (bodyOf Tryd.f40))))))))) :: .inBlock 0 :: k)) cs) := by
      intro S' hw
      obtain ⟨a1, E1⟩ : ∃ x, a0.put (some 45) (.bool true) = x := ⟨_, rfl⟩
      have H1 : LkA C p q A a1 := by rw [← E1]; exact H0.put 45 _ (by omega) (by omega) (by omega) (by omega) (by omega)
      have l1_44 : a1.tmps[44]? = some (.int .i64 (j : Int)) := by rw [← E1]; exact put_far (by rw [H0.sz]; omega) (by omega) l0_44
      have l1_45 : a1.tmps[45]? = some (.bool true) := by rw [← E1]; exact put_same (by rw [H0.sz]; omega)
      obtain ⟨a2, E2⟩ : ∃ x, a1.put (some 46) (.int .i64 (j : Int)) = x := ⟨_, rfl⟩
      have H2 : LkA C p q A a2 := by rw [← E2]; exact H1.put 46 _ (by omega) (by omega) (by omega) (by omega) (by omega)
      have l2_44 : a2.tmps[44]? = some (.int .i64 (j : Int)) := by rw [← E2]; exact put_far (by rw [H1.sz]; omega) (by omega) l1_44
      have l2_45 : a2.tmps[45]? = some (.bool true) := by rw [← E2]; exact put_far (by rw [H1.sz]; omega) (by omega) l1_45
      have l2_46 : a2.tmps[46]? = some (.int .i64 (j : Int)) := by rw [← E2]; exact put_same (by rw [H1.sz]; omega)
      obtain ⟨a3, E3⟩ : ∃ x, a2.put (some 47) (.int .i64 g) = x := ⟨_, rfl⟩
      have H3 : LkA C p q A a3 := by rw [← E3]; exact H2.put 47 _ (by omega) (by omega) (by omega) (by omega) (by omega)
      have l3_44 : a3.tmps[44]? = some (.int .i64 (j : Int)) := by rw [← E3]; exact put_far (by rw [H2.sz]; omega) (by omega) l2_44
      have l3_46 : a3.tmps[46]? = some (.int .i64 (j : Int)) := by rw [← E3]; exact put_far (by rw [H2.sz]; omega) (by omega) l2_46
      have l3_47 : a3.tmps[47]? = some (.int .i64 g) := by rw [← E3]; exact put_same (by rw [H2.sz]; omega)
      obtain ⟨a4, E4⟩ : ∃ x, a3.put (some 6) (.int .i64 (j : Int)) = x := ⟨_, rfl⟩
      have H4 : LkA C p q A a4 := by rw [← E4]; exact H3.put 6 _ (by omega) (by omega) (by omega) (by omega) (by omega)
      have l4_44 : a4.tmps[44]? = some (.int .i64 (j : Int)) := by rw [← E4]; exact put_far (by rw [H3.sz]; omega) (by omega) l3_44
      have l4_46 : a4.tmps[46]? = some (.int .i64 (j : Int)) := by rw [← E4]; exact put_far (by rw [H3.sz]; omega) (by omega) l3_46
      have l4_47 : a4.tmps[47]? = some (.int .i64 g) := by rw [← E4]; exact put_far (by rw [H3.sz]; omega) (by omega) l3_47
      have l4_6 : a4.tmps[6]? = some (.int .i64 (j : Int)) := by rw [← E4]; exact put_same (by rw [H3.sz]; omega)
      obtain ⟨a5, E5⟩ : ∃ x, a4.put (some 7) (.int .i64 g) = x := ⟨_, rfl⟩
      have H5 : LkA C p q A a5 := by rw [← E5]; exact H4.put 7 _ (by omega) (by omega) (by omega) (by omega) (by omega)
      have l5_44 : a5.tmps[44]? = some (.int .i64 (j : Int)) := by rw [← E5]; exact put_far (by rw [H4.sz]; omega) (by omega) l4_44
      have l5_47 : a5.tmps[47]? = some (.int .i64 g) := by rw [← E5]; exact put_far (by rw [H4.sz]; omega) (by omega) l4_47
      have l5_6 : a5.tmps[6]? = some (.int .i64 (j : Int)) := by rw [← E5]; exact put_far (by rw [H4.sz]; omega) (by omega) l4_6
      have l5_7 : a5.tmps[7]? = some (.int .i64 g) := by rw [← E5]; exact put_same (by rw [H4.sz]; omega)
      obtain ⟨a6, E6⟩ : ∃ x, a5.put (some 48) (.int .i64 g) = x := ⟨_, rfl⟩
      have H6 : LkA C p q A a6 := by rw [← E6]; exact H5.put 48 _ (by omega) (by omega) (by omega) (by omega) (by omega)
      have l6_44 : a6.tmps[44]? = some (.int .i64 (j : Int)) := by rw [← E6]; exact put_far (by rw [H5.sz]; omega) (by omega) l5_44
      have l6_6 : a6.tmps[6]? = some (.int .i64 (j : Int)) := by rw [← E6]; exact put_far (by rw [H5.sz]; omega) (by omega) l5_6
      have l6_7 : a6.tmps[7]? = some (.int .i64 g) := by rw [← E6]; exact put_far (by rw [H5.sz]; omega) (by omega) l5_7
      have l6_48 : a6.tmps[48]? = some (.int .i64 g) := by rw [← E6]; exact put_same (by rw [H5.sz]; omega)
      obtain ⟨a7, E7⟩ : ∃ x, a6.put (some 49) (.bool (decide (0 < g))) = x := ⟨_, rfl⟩
      have H7 : LkA C p q A a7 := by rw [← E7]; exact H6.put 49 _ (by omega) (by omega) (by omega) (by omega) (by omega)
      have l7_44 : a7.tmps[44]? = some (.int .i64 (j : Int)) := by rw [← E7]; exact put_far (by rw [H6.sz]; omega) (by omega) l6_44
      have l7_6 : a7.tmps[6]? = some (.int .i64 (j : Int)) := by rw [← E7]; exact put_far (by rw [H6.sz]; omega) (by omega) l6_6
      have l7_7 : a7.tmps[7]? = some (.int .i64 g) := by rw [← E7]; exact put_far (by rw [H6.sz]; omega) (by omega) l6_7
      have l7_48 : a7.tmps[48]? = some (.int .i64 g) := by rw [← E7]; exact put_far (by rw [H6.sz]; omega) (by omega) l6_48
      have l7_49 : a7.tmps[49]? = some (.bool (decide (0 < g))) := by rw [← E7]; exact put_same (by rw [H6.sz]; omega)
      obtain ⟨M, hM⟩ := hw _ H7 l7_44 l7_6 l7_7 l7_49
      refine ⟨M + 40, ?_⟩
      simp only [cL, cR, bodyOf, Tryd.f40, Option.getD_some] at hM ⊢
      refine gw_seq ?_
      refine gw_region ?_
      try simp only [List.size_toArray, List.length_cons, List.length_nil, Nat.reduceAdd, Nat.zero_add, List.range, List.range.loop]
      refine gw_valE rfl rfl hkb (.bool true) E1 (fun w hF => by simp [execOp, Act.eval, go_sem, l0_44, hlt]) (fun w hF e' he => by simp [execOp, Act.eval, go_sem, evix1, evix2, evix3, l0_44, hlt] at he) ?_
      refine gw_done ?_
      refine gw_seq ?_
      refine gw_cond true (by simp [Act.eval, l1_45]) ?_
      simp only [if_true, ↓reduceIte]
      refine gw_skip ?_
      refine gw_seq ?_
      refine gw_block ?_
      refine gw_seq ?_
      refine gw_region ?_
      try simp only [List.size_toArray, List.length_cons, List.length_nil, Nat.reduceAdd, Nat.zero_add, List.range, List.range.loop]
      refine gw_valE rfl rfl hkb (.int .i64 (j : Int)) E2 (fun w hF => by simp [execOp, Act.eval, go_sem, l1_44]) (fun w hF e' he => by simp [execOp, Act.eval, go_sem, evix1, evix2, evix3, l1_44] at he) ?_
      refine gw_valE rfl rfl hkb (.int .i64 g) E3 (fun w hF => by simp [execOp, Act.eval, go_sem, l2_44, H2.s43, run_ix10 hlt hAj, ev_ix10 hlt hAj]) (fun w hF e' he => by simp [execOp, Act.eval, go_sem, evix1, evix2, evix3, l2_44, H2.s43, run_ix10 hlt hAj, ev_ix10 hlt hAj] at he) ?_
      refine gw_valE rfl rfl hkb (.int .i64 (j : Int)) E4 (fun w hF => by simp [execOp, Act.eval, go_sem, l3_46]) (fun w hF e' he => by simp [execOp, Act.eval, go_sem, evix1, evix2, evix3, l3_46] at he) ?_
      refine gw_valE rfl rfl hkb (.int .i64 g) E5 (fun w hF => by simp [execOp, Act.eval, go_sem, l4_47]) (fun w hF e' he => by simp [execOp, Act.eval, go_sem, evix1, evix2, evix3, l4_47] at he) ?_
      refine gw_done ?_
      refine gw_seq ?_
      refine gw_region ?_
      try simp only [List.size_toArray, List.length_cons, List.length_nil, Nat.reduceAdd, Nat.zero_add, List.range, List.range.loop]
      refine gw_valE rfl rfl hkb (.int .i64 g) E6 (fun w hF => by simp [execOp, Act.eval, go_sem, l5_7]) (fun w hF e' he => by simp [execOp, Act.eval, go_sem, evix1, evix2, evix3, l5_7] at he) ?_
      refine gw_valE rfl rfl hkb (.bool (decide (0 < g))) E7 (fun w hF => by simp [execOp, Act.eval, go_sem, l6_48]) (fun w hF e' he => by simp [execOp, Act.eval, go_sem, evix1, evix2, evix3, l6_48] at he) ?_
      refine gw_done ?_
      exact Gw.mono hM (by omega)
    by_cases hgp : 0 < g
    · rw [mf_yes (by rw [hg]; exact hgp), hg, List.cons_append]
      refine walk _ fun a h1 h2 h3 h4 h5 => ⟨101, ?_⟩
      have hp2 := pos a h1 h2 h3 h4
      simp only [cL, cR, bodyOf, Tryd.f40, Option.getD_some] at hp2 ⊢
      refine gw_cond true (by simp [Act.eval, h5, hgp]) ?_
      simp only [if_true, ↓reduceIte]
      exact hp2
    · rw [mf_no (by rw [hg]; exact hgp)]
      refine walk _ fun a h1 h2 h3 h4 h5 => ?_
      obtain ⟨M, hM⟩ := nxt a h1 h2
      refine ⟨M + 5, ?_⟩
      simp only [cL, cR, bodyOf, Tryd.f40, Option.getD_some] at hM ⊢
      refine gw_cond false (by simp [Act.eval, h5, hgp]) ?_
      simp only [if_false, Bool.false_eq_true, ↓reduceIte]
      refine gw_skip (gw_inBlock (Gw.mono hM (by omega)))
end Go.Proofs.YtpajdmhgonmgoaaDoor

