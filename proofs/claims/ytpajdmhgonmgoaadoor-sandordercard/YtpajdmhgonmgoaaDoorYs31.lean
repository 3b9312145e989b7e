/-
  What the last text of this claim leans on, part 31: Kc3, Kc7, Kc8.
-/
import Derived.Test.YtpajdmhgonmgoaaDoorYs30
import Derived.Test.YtpajdmhgonmgoaaDoorYs25
import Derived.Test.YtpajdmhgonmgoaaDoorYs23
import Derived.Conc.WgArith
import Derived.Conc.SmallLaws
import Derived.Laws.LoneSync
namespace Go.Proofs.YtpajdmhgonmgoaaDoor
open Go.RowKit
set_option linter.unusedVariables false
open Go.Conc Go.ConcN Go.RowKit Go.Conc.Lib Go.ConcR.Gen Go.ConcN.Gen
open Go.ConcR (KK wgBlock WgAt stA smA rd wr Payload DC0)
set_option linter.unusedSimpArgs false
set_option maxRecDepth 100000 in
set_option maxHeartbeats 12800000 in
/-- The starter's Add(1). -/
theorem addp_x [Payload] {C N n s : Nat} {b : Nat → Nat → Int} {c0 u0 : Nat → Int} {K : Int} {nw L : Nat} {Shun : Loc → Prop} {t : Site} (e : SiteS t C N n s b c0 u0 K nw L Shun) {j : Nat} (hj : j < 1000) {Next : Goroutine → World → Prop} {b₀ : Frame} {a₀ : Act} {ops₀ : Array Oper} {i₀ : Nat} {rest₀ : List Nat} {k₀ : List Item} {cs : List Frame} {M : Nat}
    (hn : Gw Tryd.prog true t.Fix (EvZ C N) (t.AtGo j Next) M (G (b₀.at (a₀.put ((ops₀[i₀]?).bind (·.dst)) (.tuple #[])) (.inRegion ops₀ rest₀ :: k₀)) cs)) :
    Gw Tryd.prog true t.Fix (EvZ C N) (t.AtKdS j Next) 40 (G ((base 36).at ⟨#[.pointer (some ⟨N + 4, 0, none⟩), .int .i64 1, undef, undef, undef, undef, undef, undef, undef, undef, undef, undef, undef, undef, undef, undef, undef, undef, undef, undef, undef, undef, undef, undef, undef, undef, undef, undef, undef, undef, undef, undef, undef, undef, undef, undef, undef, undef, undef, undef, undef, undef, undef, undef, undef, undef, undef, undef, undef, undef, undef, undef, undef, undef, undef, undef, undef, undef, undef, undef, undef, undef, undef, undef, undef, undef, undef, undef, undef, undef, undef, undef, undef, undef, undef, undef, undef, undef, undef, undef, undef, undef, undef, undef, undef, undef, undef, undef, undef, undef, undef, undef, undef, undef, undef, undef, undef, undef, undef, undef, undef, undef, undef, undef, undef, undef, undef, undef, undef, undef, undef, undef, undef, undef, undef, undef, undef], []⟩ [.code (bodyOf Tryd.f36)]) (b₀.at a₀ (.inRegion ops₀ (i₀ :: rest₀) :: k₀) :: cs)) := by
  have hc0 := fix_c0 e
  have hc1 := fix_c1 e
  obtain ⟨V, hV⟩ : ∃ V : Int, (j : Int) + 1 = V := ⟨_, rfl⟩
  obtain ⟨S, hS⟩ : ∃ S : Int, V * KK = S := ⟨_, rfl⟩
  have eS : IntKind.u64.wrap ((j : Int) * KK + 4294967296) = S := by rw [IntKind.wrap_u64, ← hS, ← hV]; simp only [KK]; omega
  have eS2 : ((j + 1 : Nat) : Int) * KK = S := by rw [← hS, ← hV]; simp
  have a1 : S / 4294967296 = V := by rw [← hS]; simp only [KK]; omega
  have b1 : bits .and .u64 S 2147483648 = 0 := by rw [← hS, ← hV]; have := st_flag (j + 1) 0 (by omega) (by omega); simpa [KK] using this
  have b2 : bits .and .u64 S 2147483647 = 0 := by rw [← hS, ← hV]; have := st_waiters (j + 1) 0 (by omega) (by omega); simpa [KK] using this
  have d1 : IntKind.i32.wrap V = V := by rw [IntKind.wrap_i32]; omega
  have q3 : decide (V < 0) = false := decide_eq_false (by omega)
  have q4 : decide (0 < V) = true := decide_eq_true (by omega)
  have q5 : (V == 0) = false := by simp; omega
  have q6 : decide (V = 0) = false := decide_eq_false (by omega)
  have q7 : ∃ B : Bool, (V == 1) = B ∧ decide (V = 1) = B := ⟨_, rfl, by rw [Bool.eq_iff_iff]; simp⟩
  obtain ⟨B, q1, q2⟩ := q7
  have hw1 : IntKind.u64.wrap 1 = 1 := by decide
  have hw2 : IntKind.u64.wrap 4294967296 = 4294967296 := by decide
  have hw3 : IntKind.u64.wrap (1 * 4294967296) = 4294967296 := by decide
  have hw4 : IntKind.i32.wrap 1 = 1 := by decide
  have hw5 : IntKind.u32.wrap 0 = 0 := by decide
  clear hS hV
  simp only [bodyOf, Tryd.f36, Option.getD_some]
  repeat (first
    | refine gw_done ?_
    | (refine gw_opk rfl rfl (by k_ne) ?_; intro w hF K' hK; go_simp; with_reducible refine hK _ ?_ ?_; intro e he; clear hK; simp [go_sem, *] at he; clear hK K' hF; clear w; try walk_nrm)
    | refine gw_seq ?_
    | refine gw_skip ?_
    | (refine gw_region ?_; try simp only [List.size_toArray, List.length_cons, List.length_nil, Nat.reduceAdd, Nat.zero_add, List.range, List.range.loop])
    | (refine gw_unwanted rfl rfl ?_; walk_nrm)
    | (refine gw_cond true ?_ ?_; (first | rfl | (simp [Act.eval, *]; done)); simp only [if_true, ↓reduceIte])
    | (refine gw_cond false ?_ ?_; (first | rfl | (simp [Act.eval, *]; done)); simp only [if_false, Bool.false_eq_true, ↓reduceIte])
    | refine gw_inBlock ?_
    | refine gw_block ?_
    | refine gw_loop ?_)
  refine Gw.stop (fun w hF => ?_)
  refine at_kdS (m := 200) e rfl (fun w => stepG_mark0 .disable (by simp) rfl rfl (by k_ne) rfl wgLib.f_disable (x_disable_n wgL) (x_disable_b wgL) (x_disable_x wgL) (x_disable_f wgL)) ?_ w
  clear hF w
  walk_nrm
  as_aux_lemma =>
  repeat (first
    | refine gw_done ?_
    | (refine gw_opk rfl rfl (by k_ne) ?_; intro w hF K' hK; go_simp; with_reducible refine hK _ ?_ ?_; intro e he; clear hK; simp [go_sem, *] at he; clear hK K' hF; clear w; try walk_nrm)
    | refine gw_seq ?_
    | refine gw_skip ?_
    | (refine gw_region ?_; try simp only [List.size_toArray, List.length_cons, List.length_nil, Nat.reduceAdd, Nat.zero_add, List.range, List.range.loop])
    | (refine gw_unwanted rfl rfl ?_; walk_nrm)
    | (refine gw_cond true ?_ ?_; (first | rfl | (simp [Act.eval, *]; done)); simp only [if_true, ↓reduceIte])
    | (refine gw_cond false ?_ ?_; (first | rfl | (simp [Act.eval, *]; done)); simp only [if_false, Bool.false_eq_true, ↓reduceIte])
    | refine gw_inBlock ?_
    | refine gw_block ?_
    | refine gw_loop ?_)
  refine gw_ctl rfl (fun w => stepG_defer rfl rfl (by k_ne) rfl) ?_
  walk_nrm
  repeat (first
    | refine gw_done ?_
    | (refine gw_opk rfl rfl (by k_ne) ?_; intro w hF K' hK; go_simp; with_reducible refine hK _ ?_ ?_; intro e he; clear hK; simp [go_sem, *] at he; clear hK K' hF; clear w; try walk_nrm)
    | refine gw_seq ?_
    | refine gw_skip ?_
    | (refine gw_region ?_; try simp only [List.size_toArray, List.length_cons, List.length_nil, Nat.reduceAdd, Nat.zero_add, List.range, List.range.loop])
    | (refine gw_unwanted rfl rfl ?_; walk_nrm)
    | (refine gw_cond true ?_ ?_; (first | rfl | (simp [Act.eval, *]; done)); simp only [if_true, ↓reduceIte])
    | (refine gw_cond false ?_ ?_; (first | rfl | (simp [Act.eval, *]; done)); simp only [if_false, Bool.false_eq_true, ↓reduceIte])
    | refine gw_inBlock ?_
    | refine gw_block ?_
    | refine gw_loop ?_
    | (refine gw_ctl rfl (fun w => stepG_entry_pure (.bool false) rfl rfl (by k_ne) rfl wgLib.f_inBubble (x_inBubble_n wgL) (x_inBubble_b wgL) (x_inBubble_x wgL) (x_inBubble_f wgL)) ?_; walk_nrm)
    | (refine gw_call rfl rfl (by k_ne) rfl Tryd.func57 rfl rfl ?_; walk_nrmf Tryd.f57))
  refine Gw.stop (fun w hF => ?_)
  refine at_a1 (m := M + 400) e rfl (fun w hw => (stepG_add_atomic rfl rfl (by k_ne) rfl wgLib.f_addU64 (x_addU64_n wgL) (x_addU64_b wgL) (x_addU64_x wgL) .u64 (x_addU64_f wgL) rfl rfl hw.cellSt (hw.thaw 0)).trans (by rw [eS, eS2]; rfl)) ?_ w
  clear hF w eS eS2
  walk_nrm
  as_aux_lemma =>
  repeat (first
    | refine gw_done ?_
    | (refine gw_opk rfl rfl (by k_ne) ?_; intro w hF K' hK; go_simp; with_reducible refine hK _ ?_ ?_; intro e he; clear hK; simp [go_sem, *] at he; clear hK K' hF; clear w; try walk_nrm)
    | refine gw_seq ?_
    | refine gw_skip ?_
    | (refine gw_region ?_; try simp only [List.size_toArray, List.length_cons, List.length_nil, Nat.reduceAdd, Nat.zero_add, List.range, List.range.loop])
    | (refine gw_unwanted rfl rfl ?_; walk_nrm)
    | (refine gw_cond true ?_ ?_; (first | rfl | (simp [Act.eval, *]; done)); simp only [if_true, ↓reduceIte])
    | (refine gw_cond false ?_ ?_; (first | rfl | (simp [Act.eval, *]; done)); simp only [if_false, Bool.false_eq_true, ↓reduceIte])
    | refine gw_inBlock ?_
    | refine gw_block ?_
    | refine gw_loop ?_
    | (refine gw_said rfl (fun w => stepG_markAt .read (by simp) rfl rfl (by k_ne) rfl wgLib.f_raceRead (x_raceRead_n wgL) (x_raceRead_b wgL) (x_raceRead_x wgL) (x_raceRead_f wgL) (ad := ⟨N + 4, 1, none⟩) (by simp [Act.eval])) (Or.inr (Or.inl rfl)) ?_; walk_nrm)
    | (refine gw_leave1 rfl rfl Tryd.func57 rfl ?_; walk_nrm)
    | (refine gw_val rfl rfl (by k_ne) (.pointer (some ⟨N + 4, 1, none⟩)) ?_ ?_ ?_; intro w hF; obtain ⟨v, hv⟩ := hc1 w hF; have := run_convert_to_unsafe (P := Tryd.prog) wgLib.underlying_tPU32 wgLib.underlying_tUP wgLib.room_tU32 hv; simp [execOp, Act.eval, this, Result.andThen]; intro w hF e' he; obtain ⟨v, hv⟩ := hc1 w hF; clear hc1; have := events_convert_to_unsafe (P := Tryd.prog) wgLib.underlying_tPU32 wgLib.underlying_tUP wgLib.room_tU32 hv #[]; have h2 := run_convert_to_unsafe (P := Tryd.prog) wgLib.underlying_tPU32 wgLib.underlying_tUP wgLib.room_tU32 hv; simp [execOp, Act.eval, this, h2, Result.andThen, Result.evThen, go_sem] at he; have hx := hc1; clear hx; walk_nrm)
    | refine gw_ret ?_)
  clear q1 q2
  cases B
  all_goals
   as_aux_lemma =>
    repeat (first
      | refine gw_done ?_
      | (refine gw_opk rfl rfl (by k_ne) ?_; intro w hF K' hK; go_simp; with_reducible refine hK _ ?_ ?_; intro e he; clear hK; simp [go_sem, *] at he; clear hK K' hF; clear w; try walk_nrm)
      | refine gw_seq ?_
      | refine gw_skip ?_
      | (refine gw_region ?_; try simp only [List.size_toArray, List.length_cons, List.length_nil, Nat.reduceAdd, Nat.zero_add, List.range, List.range.loop])
      | (refine gw_unwanted rfl rfl ?_; walk_nrm)
      | (refine gw_cond true ?_ ?_; (first | rfl | (simp [Act.eval, *]; done)); simp only [if_true, ↓reduceIte])
      | (refine gw_cond false ?_ ?_; (first | rfl | (simp [Act.eval, *]; done)); simp only [if_false, Bool.false_eq_true, ↓reduceIte])
      | refine gw_inBlock ?_
      | refine gw_block ?_
      | refine gw_loop ?_
      | (refine gw_said rfl (fun w => stepG_markAt .read (by simp) rfl rfl (by k_ne) rfl wgLib.f_raceRead (x_raceRead_n wgL) (x_raceRead_b wgL) (x_raceRead_x wgL) (x_raceRead_f wgL) (ad := ⟨N + 4, 1, none⟩) (by simp [Act.eval])) (Or.inr (Or.inl rfl)) ?_; walk_nrm)
      | (refine gw_val rfl rfl (by k_ne) (.pointer (some ⟨N + 4, 1, none⟩)) ?_ ?_ ?_; intro w hF; obtain ⟨v, hv⟩ := hc1 w hF; have := run_convert_to_unsafe (P := Tryd.prog) wgLib.underlying_tPU32 wgLib.underlying_tUP wgLib.room_tU32 hv; simp [execOp, Act.eval, this, Result.andThen]; intro w hF e' he; obtain ⟨v, hv⟩ := hc1 w hF; clear hc1; have := events_convert_to_unsafe (P := Tryd.prog) wgLib.underlying_tPU32 wgLib.underlying_tUP wgLib.room_tU32 hv #[]; have h2 := run_convert_to_unsafe (P := Tryd.prog) wgLib.underlying_tPU32 wgLib.underlying_tUP wgLib.room_tU32 hv; simp [execOp, Act.eval, this, h2, Result.andThen, Result.evThen, go_sem] at he; have hx := hc1; clear hx; walk_nrm)
      | refine gw_ret ?_)
    exact Gw.mono (addret_x e hn) (Nat.zero_le _)
end Go.Proofs.YtpajdmhgonmgoaaDoor

namespace Go.Proofs.YtpajdmhgonmgoaaDoor
open Go.RowKit
set_option linter.unusedVariables false
open Go.Conc Go.ConcN Go.RowKit Go.Conc.Lib Go.ConcR.Gen Go.ConcN.Gen
open Go.ConcR (KK wgBlock WgAt stA smA rd wr Payload DC0)
set_option linter.unusedSimpArgs false
set_option maxRecDepth 100000 in
set_option maxHeartbeats 12800000 in
/-- The starter starts its workers. -/
theorem spawn_x [Payload] {C N n s : Nat} {b : Nat → Nat → Int} {c0 u0 : Nat → Int} {K : Int} {nw L : Nat} {Shun : Loc → Prop} {t : Site} (e : SiteS t C N n s b c0 u0 K nw L Shun) {cs : List Frame} (z : SiteZ t N cs) (hn10 : n ≤ 10) (hnw : nw < 1000) : ∀ (r j : Nat), j + r = nw → ∀ (x1 x3 x8 x9 x12 x13 x14 x15 x16 x17 x18 x19 x20 x21 x22 x23 x24 x25 x26 x27 x28 x29 x30 x31 x32 x33 x34 x35 x36 x37 : Value), ∃ M, Gw Tryd.prog true t.Fix (EvZ C N) (SpS t r j) M (G ((base 23).at ⟨#[.pointer (some ⟨C, 0, none⟩), x1, .pointer (some ⟨N, 0, none⟩), x3, .bool false, .pointer (some ⟨N + 2, 0, none⟩), .pointer (some ⟨N + 3, 0, none⟩), .pointer (some ⟨N + 4, 0, none⟩), x8, x9, .int .i64 (nw : Int), .int .i64 (j : Int), x12, x13, x14, x15, x16, x17, x18, x19, x20, x21, x22, x23, x24, x25, x26, x27, x28, x29, x30, x31, x32, x33, x34, x35, x36, x37], []⟩ [.code (cL (cL (cR (cL (cR (cR (cR (cR (bodyOf Tryd.f23))))))))), .inLoop (cL (cL (cR (cL (cR (cR (cR (cR (bodyOf Tryd.f23))))))))), .inBlock 0, .code (cR (cR (cR (cR (cR (bodyOf Tryd.f23))))))]) cs) := by
  intro r
  induction r with
  | zero =>
    intro j hj x1 x3 x8 x9 x12 x13 x14 x15 x16 x17 x18 x19 x20 x21 x22 x23 x24 x25 x26 x27 x28 x29 x30 x31 x32 x33 x34 x35 x36 x37
    obtain rfl : j = nw := by omega
    have hlt : ¬ ((j : Int) < (j : Int)) := by omega
    obtain ⟨M, hM⟩ := sends_x e z hn10 n 0 (by omega) x1 x3 x8 x9 (.int .i64 (j : Int)) (.int .i64 (j : Int)) (.bool false) x13 x14 x15 (.pointer (some ⟨C, 0, none⟩)) (.pointer (some ⟨C, 0, none⟩)) (.pointer (some ⟨C, 0, none⟩)) (.pointer (some ⟨C, 0, none⟩)) x22 x23 x24 x25 x26 x27 x28 x29 x30 x31 x32 x33 x34 x35 x36 x37
    refine ⟨M + 60, ?_⟩
    show Gw _ _ _ _ (t.AtSends t.items) _ _
    have ei : t.items = (List.range' 0 n).filter (fun p => decide (p ≠ s)) := by rw [e.eit]; unfold itS; rw [List.range_eq_range']
    rw [ei]
    clear ei
    have e0 : ((0 : Nat) : Int) = 0 := rfl
    rw [e0] at hM
    simp only [cO, cL, cR, bodyOf, Tryd.f23, Option.getD_some] at hM ⊢
    refine gw_seq ?_
    refine gw_region ?_
    try simp only [List.size_toArray, List.length_cons, List.length_nil, Nat.reduceAdd, Nat.zero_add, List.range, List.range.loop]
    refine gw_opk rfl rfl (by k_ne) (fun w hF K' hK => ?_)
    go_simp
    refine hK _ (fun e' he => ?_) ?_
    · (clear hK; simp [go_sem, *] at he)
    clear hK K' hF
    clear w
    try walk_nrm
    refine gw_done ?_
    refine gw_seq ?_
    refine gw_cond false ?_ ?_
    · (first | rfl | (simp [Act.eval, *]; done))
    simp only [if_false, Bool.false_eq_true, ↓reduceIte]
    refine gw_exit rfl ?_
    refine gw_seq ?_
    refine gw_seq ?_
    refine gw_region ?_
    try simp only [List.size_toArray, List.length_cons, List.length_nil, Nat.reduceAdd, Nat.zero_add, List.range, List.range.loop]
    refine gw_opk rfl rfl (by k_ne) (fun w hF K' hK => ?_)
    have hfa0 := fix_box e hF
    go_simp
    refine hK _ (fun e' he => ?_) ?_
    · (clear hK; simp [go_sem, *] at he; subst he; exact Or.inl ⟨_, rfl, Or.inr (Or.inl rfl)⟩)
    clear hK K' hF hfa0
    clear w
    try walk_nrm
    refine gw_opk rfl rfl (by k_ne) (fun w hF K' hK => ?_)
    go_simp
    refine hK _ (fun e' he => ?_) ?_
    · (clear hK; simp [go_sem, *] at he)
    clear hK K' hF
    clear w
    try walk_nrm
    refine gw_opk rfl rfl (by k_ne) (fun w hF K' hK => ?_)
    go_simp
    refine hK _ (fun e' he => ?_) ?_
    · (clear hK; simp [go_sem, *] at he)
    clear hK K' hF
    clear w
    try walk_nrm
    refine gw_opk rfl rfl (by k_ne) (fun w hF K' hK => ?_)
    go_simp
    refine hK _ (fun e' he => ?_) ?_
    · (clear hK; simp [go_sem, *] at he)
    clear hK K' hF
    clear w
    try walk_nrm
    refine gw_opk rfl rfl (by k_ne) (fun w hF K' hK => ?_)
    have hfa0 := (gd_n n s b ▸ fix_gd e hF (j := 0) (by omega) : w.cell? ⟨C, 0, none⟩ = some (.int .i64 (n : Int)))
    go_simp
    refine hK _ (fun e' he => ?_) ?_
    · (clear hK; simp [go_sem, *] at he; subst he; exact Or.inl ⟨_, rfl, Or.inl ⟨0, by omega, rfl⟩⟩)
    clear hK K' hF hfa0
    clear w
    try walk_nrm
    refine gw_opk rfl rfl (by k_ne) (fun w hF K' hK => ?_)
    go_simp
    refine hK _ (fun e' he => ?_) ?_
    · (clear hK; simp [go_sem, *] at he)
    clear hK K' hF
    clear w
    try walk_nrm
    refine gw_done ?_
    refine gw_block ?_
    refine gw_loop ?_

    exact Gw.mono hM (by omega)
  | succ r ih =>
    intro j hj x1 x3 x8 x9 x12 x13 x14 x15 x16 x17 x18 x19 x20 x21 x22 x23 x24 x25 x26 x27 x28 x29 x30 x31 x32 x33 x34 x35 x36 x37
    have hlt : (j : Int) < (nw : Int) := by omega
    have hwi : IntKind.wrap .i64 ((j : Int) + 1) = (j : Int) + 1 := wrap_fit ⟨by omega, by omega⟩
    obtain ⟨M, hM⟩ := ih (j + 1) (by omega) x1 x3 x8 x9 (.bool true) (.tuple #[]) (.func (.func 37) #[] #[.pointer (some ⟨N + 4, 0, none⟩), .pointer (some ⟨N + 2, 0, none⟩), .pointer (some ⟨N + 3, 0, none⟩), .pointer (some ⟨N, 0, none⟩)]) (.int .i64 ((j : Int) + 1)) x16 x17 x18 x19 x20 x21 x22 x23 x24 x25 x26 x27 x28 x29 x30 x31 x32 x33 x34 x35 x36 x37
    have e1 : ((j + 1 : Nat) : Int) = (j : Int) + 1 := rfl
    rw [e1] at hM
    clear ih e1
    obtain ⟨mb, hb⟩ := born_x e
    refine ⟨60, ?_⟩
    show Gw _ _ _ _ (t.AtKdS j (t.Spawns r)) _ _
    simp only [cO, cL, cR, bodyOf, Tryd.f23, Option.getD_some] at hM ⊢
    refine gw_seq ?_
    refine gw_region ?_
    try simp only [List.size_toArray, List.length_cons, List.length_nil, Nat.reduceAdd, Nat.zero_add, List.range, List.range.loop]
    refine gw_opk rfl rfl (by k_ne) (fun w hF K' hK => ?_)
    go_simp
    refine hK _ (fun e' he => ?_) ?_
    · (clear hK; simp [go_sem, *] at he)
    clear hK K' hF
    clear w
    try walk_nrm
    refine gw_done ?_
    refine gw_seq ?_
    refine gw_cond true ?_ ?_
    · (first | rfl | (simp [Act.eval, *]; done))
    simp only [if_true, ↓reduceIte]
    refine gw_skip ?_
    refine gw_seq ?_
    refine gw_block ?_
    refine gw_seq ?_
    refine gw_region ?_
    try simp only [List.size_toArray, List.length_cons, List.length_nil, Nat.reduceAdd, Nat.zero_add, List.range, List.range.loop]

    refine gw_call rfl rfl (by k_ne) rfl Tryd.func36 rfl rfl ?_
    walk_nrmf Tryd.f36
    have hadd := fun (M' : Nat) hn => addp_x e (j := j) (by omega) (Next := t.Spawns r) (b₀ := base 23) (a₀ := ⟨#[.pointer (some ⟨C, 0, none⟩), x1, .pointer (some ⟨N, 0, none⟩), x3, .bool false, .pointer (some ⟨N + 2, 0, none⟩), .pointer (some ⟨N + 3, 0, none⟩), .pointer (some ⟨N + 4, 0, none⟩), x8, x9, .int .i64 (nw : Int), .int .i64 (j : Int), .bool true, x13, x14, x15, x16, x17, x18, x19, x20, x21, x22, x23, x24, x25, x26, x27, x28, x29, x30, x31, x32, x33, x34, x35, x36, x37], []⟩) (ops₀ := cO (cL (cL (cL (cR (cR (cL (cL (cR (cL (cR (cR (cR (cR (bodyOf Tryd.f23)))))))))))))))  (i₀ := 0) (rest₀ := []) (k₀ := [.code (cR (cL (cL (cR (cR (cL (cL (cR (cL (cR (cR (cR (cR (bodyOf Tryd.f23)))))))))))))), .inBlock 1, .code (cR (cR (cR (cL (cL (cR (cL (cR (cR (cR (cR (bodyOf Tryd.f23)))))))))))), .inLoop (cL (cL (cR (cL (cR (cR (cR (cR (bodyOf Tryd.f23))))))))), .inBlock 0, .code (cR (cR (cR (cR (cR (bodyOf Tryd.f23))))))]) (cs := cs) (M := M') hn
    simp only [cO, cL, cR, bodyOf, Tryd.f23, Tryd.f36, Option.getD_some] at hadd
    refine Gw.mono (hadd 20 ?_) (by omega)
    clear hadd
    walk_nrm
    refine gw_done ?_
    refine gw_region ?_
    try simp only [List.size_toArray, List.length_cons, List.length_nil, Nat.reduceAdd, Nat.zero_add, List.range, List.range.loop]
    refine gw_opk rfl rfl (by k_ne) (fun w hF K' hK => ?_)
    go_simp
    refine hK _ (fun e' he => ?_) ?_
    · (clear hK; simp [go_sem, *] at he)
    clear hK K' hF
    clear w
    try walk_nrm

    refine Gw.stop (fun w hF => ?_)
    refine at_go e (mc := mb) (child := born Tryd.prog { target := .fn (.func 37) #[.pointer (some ⟨N + 4, 0, none⟩), .pointer (some ⟨N + 2, 0, none⟩), .pointer (some ⟨N + 3, 0, none⟩), .pointer (some ⟨N, 0, none⟩)], args := #[] }) rfl (fun w => (stepG_spawn (d := { target := .fn (.func 37) #[.pointer (some ⟨N + 4, 0, none⟩), .pointer (some ⟨N + 2, 0, none⟩), .pointer (some ⟨N + 3, 0, none⟩), .pointer (some ⟨N, 0, none⟩)], args := #[] }) (w' := w) rfl rfl (by k_ne) (by simp [execOp, Act.eval, go_sem]) rfl).trans (by rw [listed_none (by simp [execOp, Act.eval, go_sem])])) rfl hb (spawns_of e (j := j + 1) (m := M + 20) (by omega) ?_) w
    clear hF w
    walk_nrm
    refine gw_done ?_
    refine gw_inBlock ?_
    refine gw_region ?_
    try simp only [List.size_toArray, List.length_cons, List.length_nil, Nat.reduceAdd, Nat.zero_add, List.range, List.range.loop]
    refine gw_opk rfl rfl (by k_ne) (fun w hF K' hK => ?_)
    go_simp
    refine hK _ (fun e' he => ?_) ?_
    · (clear hK; simp [go_sem, *] at he)
    clear hK K' hF
    clear w
    try walk_nrm
    refine gw_opk rfl rfl (by k_ne) (fun w hF K' hK => ?_)
    go_simp
    refine hK _ (fun e' he => ?_) ?_
    · (clear hK; simp [go_sem, *] at he)
    clear hK K' hF
    clear w
    try walk_nrm
    refine gw_done ?_
    refine gw_inLoop ?_

    exact Gw.mono hM (by omega)
end Go.Proofs.YtpajdmhgonmgoaaDoor

namespace Go.Proofs.YtpajdmhgonmgoaaDoor
open Go.RowKit
set_option linter.unusedVariables false
open Go.Conc Go.ConcN Go.RowKit Go.Conc.Lib Go.ConcR.Gen Go.ConcN.Gen
open Go.ConcR (KK wgBlock WgAt stA smA rd wr Payload DC0)
set_option linter.unusedSimpArgs false
/-- What a concrete round supplies. -/
theorem site_ok [Payload] {C N n s : Nat} {b : Nat → Nat → Int} {c0 u0 : Nat → Int} {K : Int} {nw L : Nat} {Shun : Loc → Prop} {t : Site} (e : SiteS t C N n s b c0 u0 K nw L Shun) {cs : List Frame} (z : SiteZ t N cs) (P : Pile n s b c0 u0 (itS n s) K) (hC : C < N) (hL : 0 < L) (h1 : 1 ≤ nw) (h2 : nw < 1000) (hS : ∀ a, rdS C N a → ¬ Shun (.cell a)) (hk : ∀ w w' : World, w'.os = w.os → w'.tape = w.tape → w'.output = w.output → w'.heap.size = w.heap.size → (∀ b, b ≠ N + 4 → b ≠ N + 1 → b ≠ C → b ≠ N + 3 → w'.heap[b]? = w.heap[b]?) → t.Keep w → t.Keep w') : t.Ok := by
  have hn10 := P.n10
  have hat : ∀ a, atS C N a → a.block ≠ N + 4 ∧ a.block ≠ N + 1 ∧ a.spot = none ∧ a.block < N + 5 := by
    rintro a (⟨q, hq, rfl⟩ | ⟨q, hq, rfl⟩ | rfl)
    · exact ⟨by simp only [cpL]; omega, by simp only [cpL]; omega, rfl, by simp only [cpL]; omega⟩
    · exact ⟨by simp only [tpL]; omega, by simp only [tpL]; omega, rfl, by simp only [tpL]; omega⟩
    · exact ⟨by simp only [tgL]; omega, by simp only [tgL]; omega, rfl, by simp only [tgL]; omega⟩
  have hrd : ∀ a, rdS C N a → ¬ atS C N a ∧ a.block ≠ N + 4 ∧ a.block ≠ N + 1 ∧ a.spot = none ∧ a.block < N + 5 := by
    rintro a (⟨j, hj, rfl⟩ | rfl | rfl)
    · refine ⟨?_, by simp only []; omega, by simp only []; omega, rfl, by simp only []; omega⟩
      rintro (⟨q, hq, h⟩ | ⟨q, hq, h⟩ | h)
      · unfold cpL at h; injection h with _ h; omega
      · unfold tpL at h; injection h with _ h; omega
      · unfold tgL at h; injection h with h; omega
    · refine ⟨?_, by simp only []; omega, by simp only []; omega, rfl, by simp only []; omega⟩
      rintro (⟨q, hq, h⟩ | ⟨q, hq, h⟩ | h)
      · unfold cpL at h; injection h with h; omega
      · unfold tpL at h; injection h with h; omega
      · unfold tgL at h; injection h with h; omega
    · refine ⟨?_, by simp only []; omega, by simp only []; omega, rfl, by simp only []; omega⟩
      rintro (⟨q, hq, h⟩ | ⟨q, hq, h⟩ | h)
      · unfold cpL at h; injection h with h; omega
      · unfold tpL at h; injection h with h; omega
      · unfold tgL at h; injection h with h; omega
  have hkn : ∀ a v, knS C N n s b a v → rdS C N a := by
    rintro a v (⟨j, hj, rfl, _⟩ | ⟨rfl, _⟩ | ⟨rfl, _⟩)
    · exact Or.inl ⟨j, hj, rfl⟩
    · exact Or.inr (Or.inl rfl)
    · exact Or.inr (Or.inr rfl)
  have hg0 : ∀ p j, 0 ≤ gvS n s b p j := fun p j => by unfold gvS; split; exact P.gr.pos p j; exact Int.le_refl _
  have hg1 : ∀ p j, gvS n s b p j ≤ smS n (b p) := fun p j => by
    unfold gvS
    split
    · rename_i hj
      exact smS_one (fun k _ => P.gr.pos p k) hj.1
    · exact smS_nonneg fun k _ => P.gr.pos p k
  constructor
  · intro w w' h1 h2 h3 h4 h5 h6
    refine hk w w' h1 h2 h3 h4 (fun bb b1 b2 b3 b4 => h5 bb (by rw [e.eWg]; exact b1) (by rw [e.ech]; exact b2) (fun a ha => ?_)) h6
    rw [e.eat] at ha
    rcases ha with ⟨q, _, rfl⟩ | ⟨q, _, rfl⟩ | rfl
    · exact Ne.symm b3
    · exact Ne.symm b3
    · exact Ne.symm b4
  · rw [e.eL]; exact hL
  · rw [e.eWg, e.ecB]; omega
  · rw [e.eWg, e.ech]; omega
  · rw [e.ech, e.ecB]; omega
  · intro a ha
    rw [e.eat] at ha
    rw [e.eWg, e.ech]
    exact ⟨(hat a ha).1, (hat a ha).2.1⟩
  · intro a ha
    rw [e.eat] at ha
    exact (hat a ha).2.2.1
  · intro a v hv
    rw [e.ekn] at hv
    rw [e.eat, e.eWg, e.ech]
    have h := hrd a (hkn a v hv)
    exact ⟨h.1, h.2.1, h.2.2.1, h.2.2.2.1⟩
  · rw [e.ekn, e.ecB, e.eci, e.ecv]
    exact Or.inl ⟨0, by omega, rfl, rfl⟩
  · rintro l ⟨a, rfl, ha⟩ hs
    rw [e.erd] at ha
    rw [e.esh] at hs
    rcases hs with hs | ⟨a', ea, hs⟩ | hs
    · exact hS a ha hs
    · injection ea with ea
      subst ea
      rcases hs with hs | hs
      · exact (hrd a ha).1 hs
      · exact (hrd a ha).2.1 hs
    · cases hs
  · intro a ha
    rw [e.eat] at ha
    rw [e.esh]
    exact Or.inr (Or.inl ⟨a, rfl, Or.inl ha⟩)
  · intro a ha
    rw [e.eWg] at ha
    rw [e.esh]
    exact Or.inr (Or.inl ⟨a, rfl, Or.inr ha⟩)
  · rw [e.esh, e.ech]; exact Or.inr (Or.inr rfl)
  · intro a ha
    rw [e.eat] at ha
    rw [e.eB]; exact (hat a ha).2.2.2
  · intro a ha
    rw [e.erd] at ha
    rw [e.eB]; exact (hrd a ha).2.2.2.2
  · rw [e.eWg, e.eB]; omega
  · rw [e.ech, e.eB]; omega
  · rw [e.en]; exact h1
  · rw [e.en]; omega
  · intro g hg
    rw [e.elo] at hg
    obtain ⟨x4, x6, x7, x8, x9, x10, x11, x12, rfl⟩ := hg
    rfl
  · intro g hg
    rw [z.ean] at hg
    obtain ⟨T, fr, _, _, _, rfl⟩ := hg
    rfl
  · intro g w hg
    rw [e.elo] at hg
    rw [e.eP, e.ech, e.ez]
    exact comm_x hg w
  · intro g i p f bf tt h w hg hgi hi
    rw [e.eGI] at hgi
    obtain ⟨⟨hp, ps, _, _⟩, _⟩ := gi_load P i hgi hi
    rw [e.elo] at hg
    obtain ⟨x4, x6, x7, x8, x9, x10, x11, x12, rfl⟩ := hg
    rw [e.eP, e.ech, e.ez, got_x]
    obtain ⟨m, hm⟩ := item_x e hp hn10 ps (P.deg p hp ps) (hg0 p) (hg1 p) x4 x7 x8 x9 x10 x11 x12
    have := gw_dq e hm w
    rw [e.eP] at this
    exact ⟨m, this⟩
  · intro g w hg
    exact done_x e hg w
  · intro g w hg
    obtain ⟨m, hm⟩ := anch_x e z hg
    exact ⟨m, gw_d0 e hm w⟩
  · intro f p bf tt h i hgi hi
    rw [e.eGI] at hgi ⊢
    exact gi_take i hgi hi
  · intro f p tt h i hgi hi
    rw [e.eGI] at hgi ⊢
    exact gi_give i hgi hi
  · intro f p bf tt h hgi
    rw [e.eGI] at hgi ⊢
    exact gi_send hgi
  · intro f p bf tt h i hgi hi
    rw [e.eGI] at hgi
    rw [e.eat, e.ecp, e.egv, e.epl, e.eGI]
    obtain ⟨⟨hp, ps, v0, vK⟩, hg⟩ := gi_load P i hgi hi
    have k5 := P.K5
    exact ⟨Or.inl ⟨p, by omega, rfl⟩, ⟨hp, ps, v0, by omega⟩, pl_len p _, hg⟩
  · intro f a d ls bf tt h i hgi hi
    rw [e.eGI] at hgi
    rw [e.eat, e.eGI]
    obtain ⟨ha, hf, hg⟩ := gi_add P i hgi hi
    refine ⟨?_, hf, hg⟩
    rcases ha with ⟨q, hq, rfl⟩ | ⟨q, hq, rfl⟩ | rfl
    · exact Or.inl ⟨q, by omega, rfl⟩
    · exact Or.inr (Or.inl ⟨q, by omega, rfl⟩)
    · exact Or.inr (Or.inr rfl)
end Go.Proofs.YtpajdmhgonmgoaaDoor

