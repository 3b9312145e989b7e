/-
  What the last text of this claim leans on, part 32: Kc5, Kc3a, Kc3.
-/
import Derived.Test.YtpajdmhgonmgoaaDoorYt26
import Derived.Test.YtpajdmhgonmgoaaDoorYt25
import Derived.Conc.WgGenWait
import Derived.Conc.WgArith
import Derived.Conc.SmallLaws
import Derived.Laws.LoneSync
namespace Go.Proofs.YtpajdmhgonmgoaaDoor
open Go.RowKit
set_option linter.unusedVariables false
open Go.Conc Go.ConcN Go.RowKit Go.Conc.Lib Go.ConcR.Gen Go.ConcN.Gen
open Go.ConcR (KK wgBlock WgAt stA smA rd wr Payload DC0)
set_option linter.unusedSimpArgs false
set_option maxRecDepth 100000 in
set_option maxHeartbeats 12800000 in
theorem anch_x [Payload] {C N n s : Nat} {b : Nat → Nat → Int} {c0 u0 : Nat → Int} {K : Int} {nw L : Nat} {Shun : Loc → Prop} {t : Site} (e : SiteS t C N n s b c0 u0 K nw L Shun) {cs : List Frame} (z : SiteZ t N cs) {g : Goroutine} (hg : t.Anch g) : ∃ m, Gw Tryd.prog true t.Fix (EvZ C N) t.AtW1 m g := by
  rw [z.ean] at hg
  obtain ⟨T, fr, hT84, t0, ⟨T', hT', rfl⟩, rfl⟩ := hg
  obtain ⟨v0, v1, v2, v3, v4, v5, v6, v7, v8, v9, v10, v11, v12, v13, v14, v15, v16, v17, v18, v19, v20, v21, v22, v23, v24, v25, v26, v27, v28, v29, v30, v31, v32, v33, v34, v35, v36, v37, v38, v39, v40, v41, v42, v43, v44, v45, v46, v47, v48, v49, v50, v51, v52, v53, v54, v55, v56, v57, v58, v59, v60, v61, v62, v63, v64, v65, v66, v67, v68, v69, v70, v71, v72, v73, v74, v75, v76, v77, v78, v79, v80, v81, v82, v83, rfl⟩ := array84 T hT84
  simp only [List.getElem?_toArray, List.getElem?_cons_zero, Option.some.injEq] at t0
  subst t0
  clear hT84
  have hc0 := fix_c0 e
  have hc1 := fix_c1 e
  refine ⟨60, ?_⟩
  simp only [cL, cR, bodyOf, Tryd.f41, Option.getD_some]
  repeat (first
    | refine gw_done ?_
    | (refine gw_opk rfl rfl (by k_ne) ?_; intro w hF K' hK; go_simp; with_reducible refine hK _ ?_ ?_; intro e he; clear hK; simp [go_sem, *] at he; clear hK K' hF; clear w; try walk_nrm)
    | refine gw_seq ?_
    | refine gw_skip ?_
    | (refine gw_region ?_; try simp only [List.size_toArray, List.length_cons, List.length_nil, Nat.reduceAdd, Nat.zero_add, List.range, List.range.loop])
    | (refine gw_unwanted rfl rfl ?_; walk_nrm)
    | (refine gw_cond true ?_ ?_; (first | rfl | (simp [Act.eval, *]; done)); simp only [if_true, ↓reduceIte])
    | (refine gw_cond false ?_ ?_; (first | rfl | (simp [Act.eval, *]; done)); simp only [if_false, Bool.false_eq_true, ↓reduceIte])
    | refine gw_inBlock ?_
    | refine gw_block ?_
    | refine gw_loop ?_
    | (refine gw_call rfl rfl (by k_ne) rfl Tryd.func59 rfl rfl ?_; walk_nrmf Tryd.f59))
  refine Gw.stop (fun w hF => ?_)
  refine ⟨rfl, fun v hv hw => ?_⟩
  rw [e.ety, e.eWg] at hw
  rw [e.eP, e.eWg]
  rcases Nat.eq_zero_or_pos v with rfl | hvp
  · replace hw : WgAt 93 (N + 4) w 0 0 := by simpa using hw
    refine ⟨_, stepG_load_atomic (v := 0) rfl rfl (by k_ne) rfl wgLib.f_loadU64 (x_loadU64_n wgL) (x_loadU64_b wgL) (x_loadU64_x wgL) .u64 (x_loadU64_f wgL) rfl hw.cellSt, fun _ => ⟨400, gw_dp e ?_ w⟩, fun h => absurd rfl h⟩
    clear hw hF w
    have hw5 : IntKind.u32.wrap 0 = 0 := by decide
    have hw6 : bits .and .u64 0 2147483648 = 0 := by decide
    have hw7 : bits .and .u64 0 2147483647 = 0 := by decide
    have hw8 : IntKind.i32.wrap 0 = 0 := by decide
    walk_nrm
    as_aux_lemma =>
    repeat (first
      | refine gw_done ?_
      | (refine gw_opk rfl rfl (by k_ne) ?_; intro w hF K' hK; go_simp; with_reducible refine hK _ ?_ ?_; intro e he; clear hK; simp [go_sem, *] at he; clear hK K' hF; clear w; try walk_nrm)
      | refine gw_seq ?_
      | refine gw_skip ?_
      | (refine gw_region ?_; try simp only [List.size_toArray, List.length_cons, List.length_nil, Nat.reduceAdd, Nat.zero_add, List.range, List.range.loop])
      | (refine gw_unwanted rfl rfl ?_; walk_nrm)
      | (refine gw_cond true ?_ ?_; (first | rfl | (simp [Act.eval, *]; done)); simp only [if_true, ↓reduceIte])
      | (refine gw_cond false ?_ ?_; (first | rfl | (simp [Act.eval, *]; done)); simp only [if_false, Bool.false_eq_true, ↓reduceIte])
      | refine gw_inBlock ?_
      | refine gw_block ?_
      | refine gw_loop ?_
      | (refine gw_ret ?_; refine gw_leave1 rfl rfl Tryd.func59 rfl ?_; walk_nrm))
    refine Gw.stop (fun w hF => ?_)
    refine at_ke (m := 300) e rfl (fun w => stepG_mark0 .enable (by simp) rfl rfl (by k_ne) rfl wgLib.f_enable (x_enable_n wgL) (x_enable_b wgL) (x_enable_x wgL) (x_enable_f wgL)) ?_ w
    clear hF w
    walk_nrm
    as_aux_lemma =>
    repeat (first
      | refine gw_done ?_
      | (refine gw_opk rfl rfl (by k_ne) ?_; intro w hF K' hK; go_simp; with_reducible refine hK _ ?_ ?_; intro e he; clear hK; simp [go_sem, *] at he; clear hK K' hF; clear w; try walk_nrm)
      | refine gw_seq ?_
      | refine gw_skip ?_
      | (refine gw_region ?_; try simp only [List.size_toArray, List.length_cons, List.length_nil, Nat.reduceAdd, Nat.zero_add, List.range, List.range.loop])
      | (refine gw_unwanted rfl rfl ?_; walk_nrm)
      | (refine gw_cond true ?_ ?_; (first | rfl | (simp [Act.eval, *]; done)); simp only [if_true, ↓reduceIte])
      | (refine gw_cond false ?_ ?_; (first | rfl | (simp [Act.eval, *]; done)); simp only [if_false, Bool.false_eq_true, ↓reduceIte])
      | refine gw_inBlock ?_
      | refine gw_block ?_
      | refine gw_loop ?_
      | (refine gw_val rfl rfl (by k_ne) (.pointer (some ⟨N + 4, 0, none⟩)) ?_ ?_ ?_; intro w hF; obtain ⟨v, hv⟩ := hc0 w hF; have := run_convert_to_unsafe (P := Tryd.prog) wgLib.underlying_tWgP wgLib.underlying_tUP wgLib.room_tWg hv; simp [execOp, Act.eval, this, Result.andThen]; intro w hF e' he; obtain ⟨v, hv⟩ := hc0 w hF; clear hc0; have := events_convert_to_unsafe (P := Tryd.prog) wgLib.underlying_tWgP wgLib.underlying_tUP wgLib.room_tWg hv #[]; have h2 := run_convert_to_unsafe (P := Tryd.prog) wgLib.underlying_tWgP wgLib.underlying_tUP wgLib.room_tWg hv; simp [execOp, Act.eval, this, h2, Result.andThen, Result.evThen, go_sem] at he; have hx := hc0; clear hx; walk_nrm))
    refine Gw.stop (fun w hF => ?_)
    refine at_acq e z rfl (fun w => stepG_markAt .acquire (by simp) rfl rfl (by k_ne) rfl wgLib.f_acquire (x_acquire_n wgL) (x_acquire_b wgL) (x_acquire_x wgL) (x_acquire_f wgL) (by simp [Act.eval, stA])) rfl ?_ w
    clear hF w hc0 hc1
    walk_nrm
    as_aux_lemma =>
    refine ⟨300, ?_⟩
    repeat (first
      | refine gw_done ?_
      | (refine gw_opk rfl rfl (by k_ne) ?_; intro w hF K' hK; go_simp; with_reducible refine hK _ ?_ ?_; intro e he; clear hK; simp [go_sem, *] at he; clear hK K' hF; clear w; try walk_nrm)
      | refine gw_seq ?_
      | refine gw_skip ?_
      | (refine gw_region ?_; try simp only [List.size_toArray, List.length_cons, List.length_nil, Nat.reduceAdd, Nat.zero_add, List.range, List.range.loop])
      | (refine gw_unwanted rfl rfl ?_; walk_nrm)
      | (refine gw_cond true ?_ ?_; (first | rfl | (simp [Act.eval, *]; done)); simp only [if_true, ↓reduceIte])
      | (refine gw_cond false ?_ ?_; (first | rfl | (simp [Act.eval, *]; done)); simp only [if_false, Bool.false_eq_true, ↓reduceIte])
      | refine gw_inBlock ?_
      | refine gw_block ?_
      | refine gw_loop ?_
      | refine gw_ret ?_)
    refine gw_leave0 rfl rfl Tryd.func41 rfl ?_
    refine gw_done ?_
    exact Gw.stop (fun w hF => ⟨_, ⟨_, okT38_put hT' (.tuple #[]), rfl⟩, rfl⟩)

  · obtain ⟨S, hS⟩ : ∃ S : Int, (v : Int) * KK = S := ⟨_, rfl⟩
    have a1 : S / 4294967296 = (v : Int) := by rw [← hS]; simp only [KK]; omega
    have b1 : bits .and .u64 S 2147483648 = 0 := by rw [← hS]; have := st_flag v 0 (by omega) (by omega); simpa [KK] using this
    have b2 : bits .and .u64 S 2147483647 = 0 := by rw [← hS]; have := st_waiters v 0 (by omega) (by omega); simpa [KK] using this
    have d1 : IntKind.i32.wrap (v : Int) = (v : Int) := by rw [IntKind.wrap_i32]; omega
    have w1 : IntKind.u64.wrap (S + 1) = S + 1 := by rw [IntKind.wrap_u64, ← hS]; simp only [KK]; omega
    have q5 : ((v : Int) == 0) = false := by simp; omega
    have q6 : decide ((v : Int) = 0) = false := decide_eq_false (by omega)
    have hw5 : IntKind.u32.wrap 0 = 0 := by decide
    rw [hS] at hw
    refine ⟨_, stepG_load_atomic (v := S) rfl rfl (by k_ne) rfl wgLib.f_loadU64 (x_loadU64_n wgL) (x_loadU64_b wgL) (x_loadU64_x wgL) .u64 (x_loadU64_f wgL) rfl hw.cellSt, fun h0 => absurd h0 (by omega), fun _ => ⟨400, gw_dp e ?_ w⟩⟩
    clear hw hF w
    walk_nrm
    as_aux_lemma =>
    repeat (first
      | refine gw_done ?_
      | (refine gw_opk rfl rfl (by k_ne) ?_; intro w hF K' hK; go_simp; with_reducible refine hK _ ?_ ?_; intro e he; clear hK; simp [go_sem, *] at he; clear hK K' hF; clear w; try walk_nrm)
      | refine gw_seq ?_
      | refine gw_skip ?_
      | (refine gw_region ?_; try simp only [List.size_toArray, List.length_cons, List.length_nil, Nat.reduceAdd, Nat.zero_add, List.range, List.range.loop])
      | (refine gw_unwanted rfl rfl ?_; walk_nrm)
      | (refine gw_cond true ?_ ?_; (first | rfl | (simp [Act.eval, *]; done)); simp only [if_true, ↓reduceIte])
      | (refine gw_cond false ?_ ?_; (first | rfl | (simp [Act.eval, *]; done)); simp only [if_false, Bool.false_eq_true, ↓reduceIte])
      | refine gw_inBlock ?_
      | refine gw_block ?_
      | refine gw_loop ?_
      | (refine gw_ret ?_; refine gw_leave1 rfl rfl Tryd.func59 rfl ?_; walk_nrm)
      | (refine gw_call rfl rfl (by k_ne) rfl Tryd.func66 rfl rfl ?_; walk_nrmf Tryd.f66))
    refine Gw.stop (fun w hF => ?_)
    refine ⟨rfl, fun v' hv' hw => ?_⟩
    rw [e.ety, e.eWg] at hw
    rw [e.eP, e.eWg]
    refine ⟨fun ev => ?_, fun ev => ?_⟩
    · subst ev
      rw [hS] at hw ⊢
      refine ⟨_, stepG_cas_hit (v := S) (n := S + 1) rfl rfl (by k_ne) rfl wgLib.f_casU64 (x_casU64_n wgL) (x_casU64_b wgL) (x_casU64_x wgL) .u64 (x_casU64_f wgL) rfl rfl rfl hw.cellSt (hw.thaw 0), 400, gw_dp e ?_ _⟩
      clear hw hF w
      walk_nrm
      as_aux_lemma =>
      iterate 43 (first
        | refine gw_done ?_
        | (refine gw_opk rfl rfl (by k_ne) ?_; intro w hF K' hK; go_simp; with_reducible refine hK _ ?_ ?_; intro e he; clear hK; simp [go_sem, *] at he; clear hK K' hF; clear w; try walk_nrm)
        | refine gw_seq ?_
        | refine gw_skip ?_
        | (refine gw_region ?_; try simp only [List.size_toArray, List.length_cons, List.length_nil, Nat.reduceAdd, Nat.zero_add, List.range, List.range.loop])
        | (refine gw_unwanted rfl rfl ?_; walk_nrm)
        | (refine gw_cond true ?_ ?_; (first | rfl | (simp [Act.eval, *]; done)); simp only [if_true, ↓reduceIte])
        | (refine gw_cond false ?_ ?_; (first | rfl | (simp [Act.eval, *]; done)); simp only [if_false, Bool.false_eq_true, ↓reduceIte])
        | refine gw_inBlock ?_
        | refine gw_block ?_
        | refine gw_loop ?_
        | (refine gw_ret ?_; refine gw_leave1 rfl rfl Tryd.func66 rfl ?_; walk_nrm)
        | (refine gw_said rfl (fun w => stepG_markAt .write (by simp) rfl rfl (by k_ne) rfl wgLib.f_raceWrite (x_raceWrite_n wgL) (x_raceWrite_b wgL) (x_raceWrite_x wgL) (x_raceWrite_f wgL) (ad := ⟨N + 4, 1, none⟩) (by simp [Act.eval])) (Or.inr (Or.inr rfl)) ?_; walk_nrm)
        | (refine gw_val rfl rfl (by k_ne) (.pointer (some ⟨N + 4, 1, none⟩)) ?_ ?_ ?_; intro w hF; obtain ⟨v, hv⟩ := hc1 w hF; have := run_convert_to_unsafe (P := Tryd.prog) wgLib.underlying_tPU32 wgLib.underlying_tUP wgLib.room_tU32 hv; simp [execOp, Act.eval, this, Result.andThen]; intro w hF e' he; obtain ⟨v, hv⟩ := hc1 w hF; clear hc1; have := events_convert_to_unsafe (P := Tryd.prog) wgLib.underlying_tPU32 wgLib.underlying_tUP wgLib.room_tU32 hv #[]; have h2 := run_convert_to_unsafe (P := Tryd.prog) wgLib.underlying_tPU32 wgLib.underlying_tUP wgLib.room_tU32 hv; simp [execOp, Act.eval, this, h2, Result.andThen, Result.evThen, go_sem] at he; have hx := hc1; clear hx; walk_nrm))
      refine Gw.stop (fun w hF => ?_)
      refine ⟨rfl, rfl, fun hw => ?_, fun hf => ?_⟩
      · obtain ⟨st, hw⟩ := hw
        rw [e.ety, e.eWg] at hw
        rw [e.eP]
        exact stepG_semacquire_wait rfl rfl rfl wgLib.f_semacquire (x_semacquire_n wgL) (x_semacquire_b wgL) (x_semacquire_x wgL) (x_semacquire_f wgL) (by simp [Act.eval, smA]) hw.cellSm
      rw [e.ety, e.eWg] at hf
      rw [e.eP, e.eWg]
      refine ⟨_, stepG_semacquire (n := 1) rfl rfl (by k_ne) rfl wgLib.f_semacquire (x_semacquire_n wgL) (x_semacquire_b wgL) (x_semacquire_x wgL) (x_semacquire_f wgL) (by simp [Act.eval, smA]) hf.cellSm (by k_ne) (hf.thaw 1), 400, gw_dp e ?_ _⟩
      clear hf hF w
      walk_nrm
      as_aux_lemma =>
      repeat (first
        | refine gw_done ?_
        | (refine gw_opk rfl rfl (by k_ne) ?_; intro w hF K' hK; go_simp; with_reducible refine hK _ ?_ ?_; intro e he; clear hK; simp [go_sem, *] at he; clear hK K' hF; clear w; try walk_nrm)
        | refine gw_seq ?_
        | refine gw_skip ?_
        | (refine gw_region ?_; try simp only [List.size_toArray, List.length_cons, List.length_nil, Nat.reduceAdd, Nat.zero_add, List.range, List.range.loop])
        | (refine gw_unwanted rfl rfl ?_; walk_nrm)
        | (refine gw_cond true ?_ ?_; (first | rfl | (simp [Act.eval, *]; done)); simp only [if_true, ↓reduceIte])
        | (refine gw_cond false ?_ ?_; (first | rfl | (simp [Act.eval, *]; done)); simp only [if_false, Bool.false_eq_true, ↓reduceIte])
        | refine gw_inBlock ?_
        | refine gw_block ?_
        | refine gw_loop ?_
        | (refine gw_call rfl rfl (by k_ne) rfl Tryd.func59 rfl rfl ?_; walk_nrmf Tryd.f59))
      refine Gw.stop (fun w hF => ?_)
      refine ⟨rfl, fun hw => ?_⟩
      rw [e.ety, e.eWg] at hw
      rw [e.eP, e.eWg]
      refine ⟨_, stepG_load_atomic (v := 0) rfl rfl (by k_ne) rfl wgLib.f_loadU64 (x_loadU64_n wgL) (x_loadU64_b wgL) (x_loadU64_x wgL) .u64 (x_loadU64_f wgL) rfl hw.cellSt, 400, gw_dp e ?_ w⟩
      clear hw hF w
      walk_nrm
      as_aux_lemma =>
      repeat (first
        | refine gw_done ?_
        | (refine gw_opk rfl rfl (by k_ne) ?_; intro w hF K' hK; go_simp; with_reducible refine hK _ ?_ ?_; intro e he; clear hK; simp [go_sem, *] at he; clear hK K' hF; clear w; try walk_nrm)
        | refine gw_seq ?_
        | refine gw_skip ?_
        | (refine gw_region ?_; try simp only [List.size_toArray, List.length_cons, List.length_nil, Nat.reduceAdd, Nat.zero_add, List.range, List.range.loop])
        | (refine gw_unwanted rfl rfl ?_; walk_nrm)
        | (refine gw_cond true ?_ ?_; (first | rfl | (simp [Act.eval, *]; done)); simp only [if_true, ↓reduceIte])
        | (refine gw_cond false ?_ ?_; (first | rfl | (simp [Act.eval, *]; done)); simp only [if_false, Bool.false_eq_true, ↓reduceIte])
        | refine gw_inBlock ?_
        | refine gw_block ?_
        | refine gw_loop ?_
        | (refine gw_ret ?_; refine gw_leave1 rfl rfl Tryd.func59 rfl ?_; walk_nrm))
      refine Gw.stop (fun w hF => ?_)
      refine at_ke (m := 300) e rfl (fun w => stepG_mark0 .enable (by simp) rfl rfl (by k_ne) rfl wgLib.f_enable (x_enable_n wgL) (x_enable_b wgL) (x_enable_x wgL) (x_enable_f wgL)) ?_ w
      clear hF w
      walk_nrm
      as_aux_lemma =>
      repeat (first
        | refine gw_done ?_
        | (refine gw_opk rfl rfl (by k_ne) ?_; intro w hF K' hK; go_simp; with_reducible refine hK _ ?_ ?_; intro e he; clear hK; simp [go_sem, *] at he; clear hK K' hF; clear w; try walk_nrm)
        | refine gw_seq ?_
        | refine gw_skip ?_
        | (refine gw_region ?_; try simp only [List.size_toArray, List.length_cons, List.length_nil, Nat.reduceAdd, Nat.zero_add, List.range, List.range.loop])
        | (refine gw_unwanted rfl rfl ?_; walk_nrm)
        | (refine gw_cond true ?_ ?_; (first | rfl | (simp [Act.eval, *]; done)); simp only [if_true, ↓reduceIte])
        | (refine gw_cond false ?_ ?_; (first | rfl | (simp [Act.eval, *]; done)); simp only [if_false, Bool.false_eq_true, ↓reduceIte])
        | refine gw_inBlock ?_
        | refine gw_block ?_
        | refine gw_loop ?_
        | (refine gw_val rfl rfl (by k_ne) (.pointer (some ⟨N + 4, 0, none⟩)) ?_ ?_ ?_; intro w hF; obtain ⟨v, hv⟩ := hc0 w hF; have := run_convert_to_unsafe (P := Tryd.prog) wgLib.underlying_tWgP wgLib.underlying_tUP wgLib.room_tWg hv; simp [execOp, Act.eval, this, Result.andThen]; intro w hF e' he; obtain ⟨v, hv⟩ := hc0 w hF; clear hc0; have := events_convert_to_unsafe (P := Tryd.prog) wgLib.underlying_tWgP wgLib.underlying_tUP wgLib.room_tWg hv #[]; have h2 := run_convert_to_unsafe (P := Tryd.prog) wgLib.underlying_tWgP wgLib.underlying_tUP wgLib.room_tWg hv; simp [execOp, Act.eval, this, h2, Result.andThen, Result.evThen, go_sem] at he; have hx := hc0; clear hx; walk_nrm))
      refine Gw.stop (fun w hF => ?_)
      refine at_acq e z rfl (fun w => stepG_markAt .acquire (by simp) rfl rfl (by k_ne) rfl wgLib.f_acquire (x_acquire_n wgL) (x_acquire_b wgL) (x_acquire_x wgL) (x_acquire_f wgL) (by simp [Act.eval, stA])) rfl ?_ w
      clear hF w hc0 hc1
      walk_nrm
      as_aux_lemma =>
      refine ⟨300, ?_⟩
      repeat (first
        | refine gw_done ?_
        | (refine gw_opk rfl rfl (by k_ne) ?_; intro w hF K' hK; go_simp; with_reducible refine hK _ ?_ ?_; intro e he; clear hK; simp [go_sem, *] at he; clear hK K' hF; clear w; try walk_nrm)
        | refine gw_seq ?_
        | refine gw_skip ?_
        | (refine gw_region ?_; try simp only [List.size_toArray, List.length_cons, List.length_nil, Nat.reduceAdd, Nat.zero_add, List.range, List.range.loop])
        | (refine gw_unwanted rfl rfl ?_; walk_nrm)
        | (refine gw_cond true ?_ ?_; (first | rfl | (simp [Act.eval, *]; done)); simp only [if_true, ↓reduceIte])
        | (refine gw_cond false ?_ ?_; (first | rfl | (simp [Act.eval, *]; done)); simp only [if_false, Bool.false_eq_true, ↓reduceIte])
        | refine gw_inBlock ?_
        | refine gw_block ?_
        | refine gw_loop ?_
        | refine gw_ret ?_)
      refine gw_leave0 rfl rfl Tryd.func41 rfl ?_
      refine gw_done ?_
      exact Gw.stop (fun w hF => ⟨_, ⟨_, okT38_put hT' (.tuple #[]), rfl⟩, rfl⟩)

    · have hne : ¬ (v' : Int) * KK = S := by rw [← hS]; simp only [KK]; omega
      refine ⟨_, stepG_cas_miss (v := (v' : Int) * KK) (old := S) (n := S + 1) rfl rfl (by k_ne) rfl wgLib.f_casU64 (x_casU64_n wgL) (x_casU64_b wgL) (x_casU64_x wgL) .u64 (x_casU64_f wgL) rfl rfl rfl hw.cellSt (hw.thaw 0) hne, 400, gw_dp e ?_ w⟩
      clear hw hF w
      walk_nrm
      as_aux_lemma =>
      repeat (first
        | refine gw_done ?_
        | (refine gw_opk rfl rfl (by k_ne) ?_; intro w hF K' hK; go_simp; with_reducible refine hK _ ?_ ?_; intro e he; clear hK; simp [go_sem, *] at he; clear hK K' hF; clear w; try walk_nrm)
        | refine gw_seq ?_
        | refine gw_skip ?_
        | (refine gw_region ?_; try simp only [List.size_toArray, List.length_cons, List.length_nil, Nat.reduceAdd, Nat.zero_add, List.range, List.range.loop])
        | (refine gw_unwanted rfl rfl ?_; walk_nrm)
        | (refine gw_cond true ?_ ?_; (first | rfl | (simp [Act.eval, *]; done)); simp only [if_true, ↓reduceIte])
        | (refine gw_cond false ?_ ?_; (first | rfl | (simp [Act.eval, *]; done)); simp only [if_false, Bool.false_eq_true, ↓reduceIte])
        | refine gw_inBlock ?_
        | refine gw_block ?_
        | refine gw_loop ?_
        | (refine gw_ret ?_; refine gw_leave1 rfl rfl Tryd.func66 rfl ?_; walk_nrm))
      refine gw_inLoop ?_
      refine Gw.stop (fun w hF => ?_)
      rw [z.ean]
      exact ⟨_, _, by simp, by simp, ⟨T', hT', rfl⟩, rfl⟩
end Go.Proofs.YtpajdmhgonmgoaaDoor

namespace Go.Proofs.YtpajdmhgonmgoaaDoor
open Go.RowKit
set_option linter.unusedVariables false
open Go.Conc Go.ConcN Go.RowKit Go.Conc.Lib Go.ConcR.Gen Go.ConcN.Gen
open Go.ConcR (KK wgBlock WgAt stA smA rd wr Payload DC0)
set_option linter.unusedSimpArgs false
theorem addret_x [Payload] {C N n s : Nat} {b : Nat → Nat → Int} {c0 u0 : Nat → Int} {K : Int} {nw L : Nat} {Shun : Loc → Prop} {t : Site} (e : SiteS t C N n s b c0 u0 K nw L Shun) {j : Nat} {Next : Goroutine → World → Prop} {b₀ : Frame} {a₀ : Act} {ops₀ : Array Oper} {i₀ : Nat} {rest₀ : List Nat} {k₀ : List Item} {cs : List Frame} {M : Nat} {T : Array Value} {todo : List Item}
    (hn : Gw Tryd.prog true t.Fix (EvZ C N) (t.AtGo j Next) M (G (b₀.at (a₀.put ((ops₀[i₀]?).bind (·.dst)) (.tuple #[])) (.inRegion ops₀ rest₀ :: k₀)) cs)) :
    Gw Tryd.prog true t.Fix (EvZ C N) (t.AtKeS j Next) 0 (G { (base 36).at ⟨T, [dcall 52 #[]]⟩ todo with mode := .returning } (b₀.at a₀ (.inRegion ops₀ (i₀ :: rest₀) :: k₀) :: cs)) := by
  refine Gw.stop (fun w hF => ?_)
  refine at_keS (m := M + 1) e rfl (g' := G { (base 36).at ⟨T, []⟩ todo with mode := .returning } (b₀.at a₀ (.inRegion ops₀ (i₀ :: rest₀) :: k₀) :: cs)) (fun w => ?_) ?_ w
  · exact stepG_unwind_entry (a := ⟨T, [dcall 52 #[]]⟩) (v := .tuple #[]) (evs := #[Go.ConcR.mk .enable]) rfl wgLib.f_enable (x_enable_n wgL) (x_enable_b wgL) (x_enable_x wgL) (x_enable_f wgL) (by simp [Extern.Race.none_]) (by simp [Go.ConcR.mk]) (by simp [Go.ConcR.mk])
  · exact gw_leave0 rfl rfl Tryd.func36 rfl hn
end Go.Proofs.YtpajdmhgonmgoaaDoor

namespace Go.Proofs.YtpajdmhgonmgoaaDoor
open Go.RowKit
set_option linter.unusedVariables false
open Go.Conc Go.ConcN Go.RowKit Go.Conc.Lib Go.ConcR.Gen Go.ConcN.Gen
open Go.ConcR (KK wgBlock WgAt stA smA rd wr Payload DC0)
set_option linter.unusedSimpArgs false
set_option maxRecDepth 100000 in
set_option maxHeartbeats 12800000 in
/-- The starter's Add(1). -/
theorem addp_x [Payload] {C N n s : Nat} {b : Nat → Nat → Int} {c0 u0 : Nat → Int} {K : Int} {nw L : Nat} {Shun : Loc → Prop} {t : Site} (e : SiteS t C N n s b c0 u0 K nw L Shun) {j : Nat} (hj : j < 1000) {Next : Goroutine → World → Prop} {b₀ : Frame} {a₀ : Act} {ops₀ : Array Oper} {i₀ : Nat} {rest₀ : List Nat} {k₀ : List Item} {cs : List Frame} {M : Nat}
    (hn : Gw Tryd.prog true t.Fix (EvZ C N) (t.AtGo j Next) M (G (b₀.at (a₀.put ((ops₀[i₀]?).bind (·.dst)) (.tuple #[])) (.inRegion ops₀ rest₀ :: k₀)) cs)) :
    Gw Tryd.prog true t.Fix (EvZ C N) (t.AtKdS j Next) 40 (G ((base 36).at ⟨#[.pointer (some ⟨N + 4, 0, none⟩), .int .i64 1, undef, undef, undef, undef, undef, undef, undef, undef, undef, undef, undef, undef, undef, undef, undef, undef, undef, undef, undef, undef, undef, undef, undef, undef, undef, undef, undef, undef, undef, undef, undef, undef, undef, undef, undef, undef, undef, undef, undef, undef, undef, undef, undef, undef, undef, undef, undef, undef, undef, undef, undef, undef, undef, undef, undef, undef, undef, undef, undef, undef, undef, undef, undef, undef, undef, undef, undef, undef, undef, undef, undef, undef, undef, undef, undef, undef, undef, undef, undef, undef, undef, undef, undef, undef, undef, undef, undef, undef, undef, undef, undef, undef, undef, undef, undef, undef, undef, undef, undef, undef, undef, undef, undef, undef, undef, undef, undef, undef, undef, undef, undef, undef, undef, undef, undef], []⟩ [.code (bodyOf Tryd.f36)]) (b₀.at a₀ (.inRegion ops₀ (i₀ :: rest₀) :: k₀) :: cs)) := by
  have hc0 := fix_c0 e
  have hc1 := fix_c1 e
  obtain ⟨V, hV⟩ : ∃ V : Int, (j : Int) + 1 = V := ⟨_, rfl⟩
  obtain ⟨S, hS⟩ : ∃ S : Int, V * KK = S := ⟨_, rfl⟩
  have eS : IntKind.u64.wrap ((j : Int) * KK + 4294967296) = S := by rw [IntKind.wrap_u64, ← hS, ← hV]; simp only [KK]; omega
  have eS2 : ((j + 1 : Nat) : Int) * KK = S := by rw [← hS, ← hV]; simp
  have a1 : S / 4294967296 = V := by rw [← hS]; simp only [KK]; omega
  have b1 : bits .and .u64 S 2147483648 = 0 := by rw [← hS, ← hV]; have := st_flag (j + 1) 0 (by omega) (by omega); simpa [KK] using this
  have b2 : bits .and .u64 S 2147483647 = 0 := by rw [← hS, ← hV]; have := st_waiters (j + 1) 0 (by omega) (by omega); simpa [KK] using this
  have d1 : IntKind.i32.wrap V = V := by rw [IntKind.wrap_i32]; omega
  have q3 : decide (V < 0) = false := decide_eq_false (by omega)
  have q4 : decide (0 < V) = true := decide_eq_true (by omega)
  have q5 : (V == 0) = false := by simp; omega
  have q6 : decide (V = 0) = false := decide_eq_false (by omega)
  have q7 : ∃ B : Bool, (V == 1) = B ∧ decide (V = 1) = B := ⟨_, rfl, by rw [Bool.eq_iff_iff]; simp⟩
  obtain ⟨B, q1, q2⟩ := q7
  have hw1 : IntKind.u64.wrap 1 = 1 := by decide
  have hw2 : IntKind.u64.wrap 4294967296 = 4294967296 := by decide
  have hw3 : IntKind.u64.wrap (1 * 4294967296) = 4294967296 := by decide
  have hw4 : IntKind.i32.wrap 1 = 1 := by decide
  have hw5 : IntKind.u32.wrap 0 = 0 := by decide
  clear hS hV
  simp only [bodyOf, Tryd.f36, Option.getD_some]
  repeat (first
    | refine gw_done ?_
    | (refine gw_opk rfl rfl (by k_ne) ?_; intro w hF K' hK; go_simp; with_reducible refine hK _ ?_ ?_; intro e he; clear hK; simp [go_sem, *] at he; clear hK K' hF; clear w; try walk_nrm)
    | refine gw_seq ?_
    | refine gw_skip ?_
    | (refine gw_region ?_; try simp only [List.size_toArray, List.length_cons, List.length_nil, Nat.reduceAdd, Nat.zero_add, List.range, List.range.loop])
    | (refine gw_unwanted rfl rfl ?_; walk_nrm)
    | (refine gw_cond true ?_ ?_; (first | rfl | (simp [Act.eval, *]; done)); simp only [if_true, ↓reduceIte])
    | (refine gw_cond false ?_ ?_; (first | rfl | (simp [Act.eval, *]; done)); simp only [if_false, Bool.false_eq_true, ↓reduceIte])
    | refine gw_inBlock ?_
    | refine gw_block ?_
    | refine gw_loop ?_)
  refine Gw.stop (fun w hF => ?_)
  refine at_kdS (m := 200) e rfl (fun w => stepG_mark0 .disable (by simp) rfl rfl (by k_ne) rfl wgLib.f_disable (x_disable_n wgL) (x_disable_b wgL) (x_disable_x wgL) (x_disable_f wgL)) ?_ w
  clear hF w
  walk_nrm
  as_aux_lemma =>
  repeat (first
    | refine gw_done ?_
    | (refine gw_opk rfl rfl (by k_ne) ?_; intro w hF K' hK; go_simp; with_reducible refine hK _ ?_ ?_; intro e he; clear hK; simp [go_sem, *] at he; clear hK K' hF; clear w; try walk_nrm)
    | refine gw_seq ?_
    | refine gw_skip ?_
    | (refine gw_region ?_; try simp only [List.size_toArray, List.length_cons, List.length_nil, Nat.reduceAdd, Nat.zero_add, List.range, List.range.loop])
    | (refine gw_unwanted rfl rfl ?_; walk_nrm)
    | (refine gw_cond true ?_ ?_; (first | rfl | (simp [Act.eval, *]; done)); simp only [if_true, ↓reduceIte])
    | (refine gw_cond false ?_ ?_; (first | rfl | (simp [Act.eval, *]; done)); simp only [if_false, Bool.false_eq_true, ↓reduceIte])
    | refine gw_inBlock ?_
    | refine gw_block ?_
    | refine gw_loop ?_)
  refine gw_ctl rfl (fun w => stepG_defer rfl rfl (by k_ne) rfl) ?_
  walk_nrm
  repeat (first
    | refine gw_done ?_
    | (refine gw_opk rfl rfl (by k_ne) ?_; intro w hF K' hK; go_simp; with_reducible refine hK _ ?_ ?_; intro e he; clear hK; simp [go_sem, *] at he; clear hK K' hF; clear w; try walk_nrm)
    | refine gw_seq ?_
    | refine gw_skip ?_
    | (refine gw_region ?_; try simp only [List.size_toArray, List.length_cons, List.length_nil, Nat.reduceAdd, Nat.zero_add, List.range, List.range.loop])
    | (refine gw_unwanted rfl rfl ?_; walk_nrm)
    | (refine gw_cond true ?_ ?_; (first | rfl | (simp [Act.eval, *]; done)); simp only [if_true, ↓reduceIte])
    | (refine gw_cond false ?_ ?_; (first | rfl | (simp [Act.eval, *]; done)); simp only [if_false, Bool.false_eq_true, ↓reduceIte])
    | refine gw_inBlock ?_
    | refine gw_block ?_
    | refine gw_loop ?_
    | (refine gw_ctl rfl (fun w => stepG_entry_pure (.bool false) rfl rfl (by k_ne) rfl wgLib.f_inBubble (x_inBubble_n wgL) (x_inBubble_b wgL) (x_inBubble_x wgL) (x_inBubble_f wgL)) ?_; walk_nrm)
    | (refine gw_call rfl rfl (by k_ne) rfl Tryd.func57 rfl rfl ?_; walk_nrmf Tryd.f57))
  refine Gw.stop (fun w hF => ?_)
  refine at_a1 (m := M + 400) e rfl (fun w hw => (stepG_add_atomic rfl rfl (by k_ne) rfl wgLib.f_addU64 (x_addU64_n wgL) (x_addU64_b wgL) (x_addU64_x wgL) .u64 (x_addU64_f wgL) rfl rfl hw.cellSt (hw.thaw 0)).trans (by rw [eS, eS2]; rfl)) ?_ w
  clear hF w eS eS2
  walk_nrm
  as_aux_lemma =>
  repeat (first
    | refine gw_done ?_
    | (refine gw_opk rfl rfl (by k_ne) ?_; intro w hF K' hK; go_simp; with_reducible refine hK _ ?_ ?_; intro e he; clear hK; simp [go_sem, *] at he; clear hK K' hF; clear w; try walk_nrm)
    | refine gw_seq ?_
    | refine gw_skip ?_
    | (refine gw_region ?_; try simp only [List.size_toArray, List.length_cons, List.length_nil, Nat.reduceAdd, Nat.zero_add, List.range, List.range.loop])
    | (refine gw_unwanted rfl rfl ?_; walk_nrm)
    | (refine gw_cond true ?_ ?_; (first | rfl | (simp [Act.eval, *]; done)); simp only [if_true, ↓reduceIte])
    | (refine gw_cond false ?_ ?_; (first | rfl | (simp [Act.eval, *]; done)); simp only [if_false, Bool.false_eq_true, ↓reduceIte])
    | refine gw_inBlock ?_
    | refine gw_block ?_
    | refine gw_loop ?_
    | (refine gw_said rfl (fun w => stepG_markAt .read (by simp) rfl rfl (by k_ne) rfl wgLib.f_raceRead (x_raceRead_n wgL) (x_raceRead_b wgL) (x_raceRead_x wgL) (x_raceRead_f wgL) (ad := ⟨N + 4, 1, none⟩) (by simp [Act.eval])) (Or.inr (Or.inl rfl)) ?_; walk_nrm)
    | (refine gw_leave1 rfl rfl Tryd.func57 rfl ?_; walk_nrm)
    | (refine gw_val rfl rfl (by k_ne) (.pointer (some ⟨N + 4, 1, none⟩)) ?_ ?_ ?_; intro w hF; obtain ⟨v, hv⟩ := hc1 w hF; have := run_convert_to_unsafe (P := Tryd.prog) wgLib.underlying_tPU32 wgLib.underlying_tUP wgLib.room_tU32 hv; simp [execOp, Act.eval, this, Result.andThen]; intro w hF e' he; obtain ⟨v, hv⟩ := hc1 w hF; clear hc1; have := events_convert_to_unsafe (P := Tryd.prog) wgLib.underlying_tPU32 wgLib.underlying_tUP wgLib.room_tU32 hv #[]; have h2 := run_convert_to_unsafe (P := Tryd.prog) wgLib.underlying_tPU32 wgLib.underlying_tUP wgLib.room_tU32 hv; simp [execOp, Act.eval, this, h2, Result.andThen, Result.evThen, go_sem] at he; have hx := hc1; clear hx; walk_nrm)
    | refine gw_ret ?_)
  clear q1 q2
  cases B
  all_goals
   as_aux_lemma =>
    repeat (first
      | refine gw_done ?_
      | (refine gw_opk rfl rfl (by k_ne) ?_; intro w hF K' hK; go_simp; with_reducible refine hK _ ?_ ?_; intro e he; clear hK; simp [go_sem, *] at he; clear hK K' hF; clear w; try walk_nrm)
      | refine gw_seq ?_
      | refine gw_skip ?_
      | (refine gw_region ?_; try simp only [List.size_toArray, List.length_cons, List.length_nil, Nat.reduceAdd, Nat.zero_add, List.range, List.range.loop])
      | (refine gw_unwanted rfl rfl ?_; walk_nrm)
      | (refine gw_cond true ?_ ?_; (first | rfl | (simp [Act.eval, *]; done)); simp only [if_true, ↓reduceIte])
      | (refine gw_cond false ?_ ?_; (first | rfl | (simp [Act.eval, *]; done)); simp only [if_false, Bool.false_eq_true, ↓reduceIte])
      | refine gw_inBlock ?_
      | refine gw_block ?_
      | refine gw_loop ?_
      | (refine gw_said rfl (fun w => stepG_markAt .read (by simp) rfl rfl (by k_ne) rfl wgLib.f_raceRead (x_raceRead_n wgL) (x_raceRead_b wgL) (x_raceRead_x wgL) (x_raceRead_f wgL) (ad := ⟨N + 4, 1, none⟩) (by simp [Act.eval])) (Or.inr (Or.inl rfl)) ?_; walk_nrm)
      | (refine gw_val rfl rfl (by k_ne) (.pointer (some ⟨N + 4, 1, none⟩)) ?_ ?_ ?_; intro w hF; obtain ⟨v, hv⟩ := hc1 w hF; have := run_convert_to_unsafe (P := Tryd.prog) wgLib.underlying_tPU32 wgLib.underlying_tUP wgLib.room_tU32 hv; simp [execOp, Act.eval, this, Result.andThen]; intro w hF e' he; obtain ⟨v, hv⟩ := hc1 w hF; clear hc1; have := events_convert_to_unsafe (P := Tryd.prog) wgLib.underlying_tPU32 wgLib.underlying_tUP wgLib.room_tU32 hv #[]; have h2 := run_convert_to_unsafe (P := Tryd.prog) wgLib.underlying_tPU32 wgLib.underlying_tUP wgLib.room_tU32 hv; simp [execOp, Act.eval, this, h2, Result.andThen, Result.evThen, go_sem] at he; have hx := hc1; clear hx; walk_nrm)
      | refine gw_ret ?_)
    exact Gw.mono (addret_x e hn) (Nat.zero_le _)
end Go.Proofs.YtpajdmhgonmgoaaDoor

