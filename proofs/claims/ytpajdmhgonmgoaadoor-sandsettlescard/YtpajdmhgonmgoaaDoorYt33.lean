/-
  What the last text of this claim leans on, part 33: Kc7, Kc8, Kd6, Kdd0.
-/
import Derived.Test.YtpajdmhgonmgoaaDoorYt27
import Derived.Test.YtpajdmhgonmgoaaDoorYt32
import Derived.Test.YtpajdmhgonmgoaaDoorYt26
import Derived.Test.YtpajdmhgonmgoaaDoorYt28
import Derived.Test.YtpajdmhgonmgoaaDoorYt15
namespace Go.Proofs.YtpajdmhgonmgoaaDoor
open Go.RowKit
set_option linter.unusedVariables false
open Go.Conc Go.ConcN Go.RowKit Go.Conc.Lib Go.ConcR.Gen Go.ConcN.Gen
open Go.ConcR (KK wgBlock WgAt stA smA rd wr Payload DC0)
set_option linter.unusedSimpArgs false
set_option maxRecDepth 100000 in
set_option maxHeartbeats 12800000 in
/-- The starter starts its workers. -/
theorem spawn_x [Payload] {C N n s : Nat} {b : Nat → Nat → Int} {c0 u0 : Nat → Int} {K : Int} {nw L : Nat} {Shun : Loc → Prop} {t : Site} (e : SiteS t C N n s b c0 u0 K nw L Shun) {cs : List Frame} (z : SiteZ t N cs) (hn10 : n ≤ 10) (hnw : nw < 1000) : ∀ (r j : Nat), j + r = nw → ∀ (x1 x3 x8 x9 x12 x13 x14 x15 x16 x17 x18 x19 x20 x21 x22 x23 x24 x25 x26 x27 x28 x29 x30 x31 x32 x33 x34 x35 x36 x37 : Value), ∃ M, Gw Tryd.prog true t.Fix (EvZ C N) (SpS t r j) M (G ((base 23).at ⟨#[.pointer (some ⟨C, 0, none⟩), x1, .pointer (some ⟨N, 0, none⟩), x3, .bool false, .pointer (some ⟨N + 2, 0, none⟩), .pointer (some ⟨N + 3, 0, none⟩), .pointer (some ⟨N + 4, 0, none⟩), x8, x9, .int .i64 (nw : Int), .int .i64 (j : Int), x12, x13, x14, x15, x16, x17, x18, x19, x20, x21, x22, x23, x24, x25, x26, x27, x28, x29, x30, x31, x32, x33, x34, x35, x36, x37], []⟩ [.code (cL (cL (cR (cL (cR (cR (cR (cR (bodyOf Tryd.f23))))))))), .inLoop (cL (cL (cR (cL (cR (cR (cR (cR (bodyOf Tryd.f23))))))))), .inBlock 0, .code (cR (cR (cR (cR (cR (bodyOf Tryd.f23))))))]) cs) := by
  intro r
  induction r with
  | zero =>
    intro j hj x1 x3 x8 x9 x12 x13 x14 x15 x16 x17 x18 x19 x20 x21 x22 x23 x24 x25 x26 x27 x28 x29 x30 x31 x32 x33 x34 x35 x36 x37
    obtain rfl : j = nw := by omega
    have hlt : ¬ ((j : Int) < (j : Int)) := by omega
    obtain ⟨M, hM⟩ := sends_x e z hn10 n 0 (by omega) x1 x3 x8 x9 (.int .i64 (j : Int)) (.int .i64 (j : Int)) (.bool false) x13 x14 x15 (.pointer (some ⟨C, 0, none⟩)) (.pointer (some ⟨C, 0, none⟩)) (.pointer (some ⟨C, 0, none⟩)) (.pointer (some ⟨C, 0, none⟩)) x22 x23 x24 x25 x26 x27 x28 x29 x30 x31 x32 x33 x34 x35 x36 x37
    refine ⟨M + 60, ?_⟩
    show Gw _ _ _ _ (t.AtSends t.items) _ _
    have ei : t.items = (List.range' 0 n).filter (fun p => decide (p ≠ s)) := by rw [e.eit]; unfold itS; rw [List.range_eq_range']
    rw [ei]
    clear ei
    have e0 : ((0 : Nat) : Int) = 0 := rfl
    rw [e0] at hM
    simp only [cO, cL, cR, bodyOf, Tryd.f23, Option.getD_some] at hM ⊢
    refine gw_seq ?_
    refine gw_region ?_
    try simp only [List.size_toArray, List.length_cons, List.length_nil, Nat.reduceAdd, Nat.zero_add, List.range, List.range.loop]
    refine gw_opk rfl rfl (by k_ne) (fun w hF K' hK => ?_)
    go_simp
    refine hK _ (fun e' he => ?_) ?_
    · (clear hK; simp [go_sem, *] at he)
    clear hK K' hF
    clear w
    try walk_nrm
    refine gw_done ?_
    refine gw_seq ?_
    refine gw_cond false ?_ ?_
    · (first | rfl | (simp [Act.eval, *]; done))
    simp only [if_false, Bool.false_eq_true, ↓reduceIte]
    refine gw_exit rfl ?_
    refine gw_seq ?_
    refine gw_seq ?_
    refine gw_region ?_
    try simp only [List.size_toArray, List.length_cons, List.length_nil, Nat.reduceAdd, Nat.zero_add, List.range, List.range.loop]
    refine gw_opk rfl rfl (by k_ne) (fun w hF K' hK => ?_)
    have hfa0 := fix_box e hF
    go_simp
    refine hK _ (fun e' he => ?_) ?_
    · (clear hK; simp [go_sem, *] at he; subst he; exact Or.inl ⟨_, rfl, Or.inr (Or.inl rfl)⟩)
    clear hK K' hF hfa0
    clear w
    try walk_nrm
    refine gw_opk rfl rfl (by k_ne) (fun w hF K' hK => ?_)
    go_simp
    refine hK _ (fun e' he => ?_) ?_
    · (clear hK; simp [go_sem, *] at he)
    clear hK K' hF
    clear w
    try walk_nrm
    refine gw_opk rfl rfl (by k_ne) (fun w hF K' hK => ?_)
    go_simp
    refine hK _ (fun e' he => ?_) ?_
    · (clear hK; simp [go_sem, *] at he)
    clear hK K' hF
    clear w
    try walk_nrm
    refine gw_opk rfl rfl (by k_ne) (fun w hF K' hK => ?_)
    go_simp
    refine hK _ (fun e' he => ?_) ?_
    · (clear hK; simp [go_sem, *] at he)
    clear hK K' hF
    clear w
    try walk_nrm
    refine gw_opk rfl rfl (by k_ne) (fun w hF K' hK => ?_)
    have hfa0 := (gd_n n s b ▸ fix_gd e hF (j := 0) (by omega) : w.cell? ⟨C, 0, none⟩ = some (.int .i64 (n : Int)))
    go_simp
    refine hK _ (fun e' he => ?_) ?_
    · (clear hK; simp [go_sem, *] at he; subst he; exact Or.inl ⟨_, rfl, Or.inl ⟨0, by omega, rfl⟩⟩)
    clear hK K' hF hfa0
    clear w
    try walk_nrm
    refine gw_opk rfl rfl (by k_ne) (fun w hF K' hK => ?_)
    go_simp
    refine hK _ (fun e' he => ?_) ?_
    · (clear hK; simp [go_sem, *] at he)
    clear hK K' hF
    clear w
    try walk_nrm
    refine gw_done ?_
    refine gw_block ?_
    refine gw_loop ?_

    exact Gw.mono hM (by omega)
  | succ r ih =>
    intro j hj x1 x3 x8 x9 x12 x13 x14 x15 x16 x17 x18 x19 x20 x21 x22 x23 x24 x25 x26 x27 x28 x29 x30 x31 x32 x33 x34 x35 x36 x37
    have hlt : (j : Int) < (nw : Int) := by omega
    have hwi : IntKind.wrap .i64 ((j : Int) + 1) = (j : Int) + 1 := wrap_fit ⟨by omega, by omega⟩
    obtain ⟨M, hM⟩ := ih (j + 1) (by omega) x1 x3 x8 x9 (.bool true) (.tuple #[]) (.func (.func 37) #[] #[.pointer (some ⟨N + 4, 0, none⟩), .pointer (some ⟨N + 2, 0, none⟩), .pointer (some ⟨N + 3, 0, none⟩), .pointer (some ⟨N, 0, none⟩)]) (.int .i64 ((j : Int) + 1)) x16 x17 x18 x19 x20 x21 x22 x23 x24 x25 x26 x27 x28 x29 x30 x31 x32 x33 x34 x35 x36 x37
    have e1 : ((j + 1 : Nat) : Int) = (j : Int) + 1 := rfl
    rw [e1] at hM
    clear ih e1
    obtain ⟨mb, hb⟩ := born_x e
    refine ⟨60, ?_⟩
    show Gw _ _ _ _ (t.AtKdS j (t.Spawns r)) _ _
    simp only [cO, cL, cR, bodyOf, Tryd.f23, Option.getD_some] at hM ⊢
    refine gw_seq ?_
    refine gw_region ?_
    try simp only [List.size_toArray, List.length_cons, List.length_nil, Nat.reduceAdd, Nat.zero_add, List.range, List.range.loop]
    refine gw_opk rfl rfl (by k_ne) (fun w hF K' hK => ?_)
    go_simp
    refine hK _ (fun e' he => ?_) ?_
    · (clear hK; simp [go_sem, *] at he)
    clear hK K' hF
    clear w
    try walk_nrm
    refine gw_done ?_
    refine gw_seq ?_
    refine gw_cond true ?_ ?_
    · (first | rfl | (simp [Act.eval, *]; done))
    simp only [if_true, ↓reduceIte]
    refine gw_skip ?_
    refine gw_seq ?_
    refine gw_block ?_
    refine gw_seq ?_
    refine gw_region ?_
    try simp only [List.size_toArray, List.length_cons, List.length_nil, Nat.reduceAdd, Nat.zero_add, List.range, List.range.loop]

    refine gw_call rfl rfl (by k_ne) rfl Tryd.func36 rfl rfl ?_
    walk_nrmf Tryd.f36
    have hadd := fun (M' : Nat) hn => addp_x e (j := j) (by omega) (Next := t.Spawns r) (b₀ := base 23) (a₀ := ⟨#[.pointer (some ⟨C, 0, none⟩), x1, .pointer (some ⟨N, 0, none⟩), x3, .bool false, .pointer (some ⟨N + 2, 0, none⟩), .pointer (some ⟨N + 3, 0, none⟩), .pointer (some ⟨N + 4, 0, none⟩), x8, x9, .int .i64 (nw : Int), .int .i64 (j : Int), .bool true, x13, x14, x15, x16, x17, x18, x19, x20, x21, x22, x23, x24, x25, x26, x27, x28, x29, x30, x31, x32, x33, x34, x35, x36, x37], []⟩) (ops₀ := cO (cL (cL (cL (cR (cR (cL (cL (cR (cL (cR (cR (cR (cR (bodyOf Tryd.f23)))))))))))))))  (i₀ := 0) (rest₀ := []) (k₀ := [.code (cR (cL (cL (cR (cR (cL (cL (cR (cL (cR (cR (cR (cR (bodyOf Tryd.f23)))))))))))))), .inBlock 1, .code (cR (cR (cR (cL (cL (cR (cL (cR (cR (cR (cR (bodyOf Tryd.f23)))))))))))), .inLoop (cL (cL (cR (cL (cR (cR (cR (cR (bodyOf Tryd.f23))))))))), .inBlock 0, .code (cR (cR (cR (cR (cR (bodyOf Tryd.f23))))))]) (cs := cs) (M := M') hn
    simp only [cO, cL, cR, bodyOf, Tryd.f23, Tryd.f36, Option.getD_some] at hadd
    refine Gw.mono (hadd 20 ?_) (by omega)
    clear hadd
    walk_nrm
    refine gw_done ?_
    refine gw_region ?_
    try simp only [List.size_toArray, List.length_cons, List.length_nil, Nat.reduceAdd, Nat.zero_add, List.range, List.range.loop]
    refine gw_opk rfl rfl (by k_ne) (fun w hF K' hK => ?_)
    go_simp
    refine hK _ (fun e' he => ?_) ?_
    · (clear hK; simp [go_sem, *] at he)
    clear hK K' hF
    clear w
    try walk_nrm

    refine Gw.stop (fun w hF => ?_)
    refine at_go e (mc := mb) (child := born Tryd.prog { target := .fn (.func 37) #[.pointer (some ⟨N + 4, 0, none⟩), .pointer (some ⟨N + 2, 0, none⟩), .pointer (some ⟨N + 3, 0, none⟩), .pointer (some ⟨N, 0, none⟩)], args := #[] }) rfl (fun w => (stepG_spawn (d := { target := .fn (.func 37) #[.pointer (some ⟨N + 4, 0, none⟩), .pointer (some ⟨N + 2, 0, none⟩), .pointer (some ⟨N + 3, 0, none⟩), .pointer (some ⟨N, 0, none⟩)], args := #[] }) (w' := w) rfl rfl (by k_ne) (by simp [execOp, Act.eval, go_sem]) rfl).trans (by rw [listed_none (by simp [execOp, Act.eval, go_sem])])) rfl hb (spawns_of e (j := j + 1) (m := M + 20) (by omega) ?_) w
    clear hF w
    walk_nrm
    refine gw_done ?_
    refine gw_inBlock ?_
    refine gw_region ?_
    try simp only [List.size_toArray, List.length_cons, List.length_nil, Nat.reduceAdd, Nat.zero_add, List.range, List.range.loop]
    refine gw_opk rfl rfl (by k_ne) (fun w hF K' hK => ?_)
    go_simp
    refine hK _ (fun e' he => ?_) ?_
    · (clear hK; simp [go_sem, *] at he)
    clear hK K' hF
    clear w
    try walk_nrm
    refine gw_opk rfl rfl (by k_ne) (fun w hF K' hK => ?_)
    go_simp
    refine hK _ (fun e' he => ?_) ?_
    · (clear hK; simp [go_sem, *] at he)
    clear hK K' hF
    clear w
    try walk_nrm
    refine gw_done ?_
    refine gw_inLoop ?_

    exact Gw.mono hM (by omega)
end Go.Proofs.YtpajdmhgonmgoaaDoor

namespace Go.Proofs.YtpajdmhgonmgoaaDoor
open Go.RowKit
set_option linter.unusedVariables false
open Go.Conc Go.ConcN Go.RowKit Go.Conc.Lib Go.ConcR.Gen Go.ConcN.Gen
open Go.ConcR (KK wgBlock WgAt stA smA rd wr Payload DC0)
set_option linter.unusedSimpArgs false
/-- What a concrete round supplies. -/
theorem site_ok [Payload] {C N n s : Nat} {b : Nat → Nat → Int} {c0 u0 : Nat → Int} {K : Int} {nw L : Nat} {Shun : Loc → Prop} {t : Site} (e : SiteS t C N n s b c0 u0 K nw L Shun) {cs : List Frame} (z : SiteZ t N cs) (P : Pile n s b c0 u0 (itS n s) K) (hC : C < N) (hL : 0 < L) (h1 : 1 ≤ nw) (h2 : nw < 1000) (hS : ∀ a, rdS C N a → ¬ Shun (.cell a)) (hk : ∀ w w' : World, w'.os = w.os → w'.tape = w.tape → w'.output = w.output → w'.heap.size = w.heap.size → (∀ b, b ≠ N + 4 → b ≠ N + 1 → b ≠ C → b ≠ N + 3 → w'.heap[b]? = w.heap[b]?) → t.Keep w → t.Keep w') : t.Ok := by
  have hn10 := P.n10
  have hat : ∀ a, atS C N a → a.block ≠ N + 4 ∧ a.block ≠ N + 1 ∧ a.spot = none ∧ a.block < N + 5 := by
    rintro a (⟨q, hq, rfl⟩ | ⟨q, hq, rfl⟩ | rfl)
    · exact ⟨by simp only [cpL]; omega, by simp only [cpL]; omega, rfl, by simp only [cpL]; omega⟩
    · exact ⟨by simp only [tpL]; omega, by simp only [tpL]; omega, rfl, by simp only [tpL]; omega⟩
    · exact ⟨by simp only [tgL]; omega, by simp only [tgL]; omega, rfl, by simp only [tgL]; omega⟩
  have hrd : ∀ a, rdS C N a → ¬ atS C N a ∧ a.block ≠ N + 4 ∧ a.block ≠ N + 1 ∧ a.spot = none ∧ a.block < N + 5 := by
    rintro a (⟨j, hj, rfl⟩ | rfl | rfl)
    · refine ⟨?_, by simp only []; omega, by simp only []; omega, rfl, by simp only []; omega⟩
      rintro (⟨q, hq, h⟩ | ⟨q, hq, h⟩ | h)
      · unfold cpL at h; injection h with _ h; omega
      · unfold tpL at h; injection h with _ h; omega
      · unfold tgL at h; injection h with h; omega
    · refine ⟨?_, by simp only []; omega, by simp only []; omega, rfl, by simp only []; omega⟩
      rintro (⟨q, hq, h⟩ | ⟨q, hq, h⟩ | h)
      · unfold cpL at h; injection h with h; omega
      · unfold tpL at h; injection h with h; omega
      · unfold tgL at h; injection h with h; omega
    · refine ⟨?_, by simp only []; omega, by simp only []; omega, rfl, by simp only []; omega⟩
      rintro (⟨q, hq, h⟩ | ⟨q, hq, h⟩ | h)
      · unfold cpL at h; injection h with h; omega
      · unfold tpL at h; injection h with h; omega
      · unfold tgL at h; injection h with h; omega
  have hkn : ∀ a v, knS C N n s b a v → rdS C N a := by
    rintro a v (⟨j, hj, rfl, _⟩ | ⟨rfl, _⟩ | ⟨rfl, _⟩)
    · exact Or.inl ⟨j, hj, rfl⟩
    · exact Or.inr (Or.inl rfl)
    · exact Or.inr (Or.inr rfl)
  have hg0 : ∀ p j, 0 ≤ gvS n s b p j := fun p j => by unfold gvS; split; exact P.gr.pos p j; exact Int.le_refl _
  have hg1 : ∀ p j, gvS n s b p j ≤ smS n (b p) := fun p j => by
    unfold gvS
    split
    · rename_i hj
      exact smS_one (fun k _ => P.gr.pos p k) hj.1
    · exact smS_nonneg fun k _ => P.gr.pos p k
  constructor
  · intro w w' h1 h2 h3 h4 h5 h6
    refine hk w w' h1 h2 h3 h4 (fun bb b1 b2 b3 b4 => h5 bb (by rw [e.eWg]; exact b1) (by rw [e.ech]; exact b2) (fun a ha => ?_)) h6
    rw [e.eat] at ha
    rcases ha with ⟨q, _, rfl⟩ | ⟨q, _, rfl⟩ | rfl
    · exact Ne.symm b3
    · exact Ne.symm b3
    · exact Ne.symm b4
  · rw [e.eL]; exact hL
  · rw [e.eWg, e.ecB]; omega
  · rw [e.eWg, e.ech]; omega
  · rw [e.ech, e.ecB]; omega
  · intro a ha
    rw [e.eat] at ha
    rw [e.eWg, e.ech]
    exact ⟨(hat a ha).1, (hat a ha).2.1⟩
  · intro a ha
    rw [e.eat] at ha
    exact (hat a ha).2.2.1
  · intro a v hv
    rw [e.ekn] at hv
    rw [e.eat, e.eWg, e.ech]
    have h := hrd a (hkn a v hv)
    exact ⟨h.1, h.2.1, h.2.2.1, h.2.2.2.1⟩
  · rw [e.ekn, e.ecB, e.eci, e.ecv]
    exact Or.inl ⟨0, by omega, rfl, rfl⟩
  · rintro l ⟨a, rfl, ha⟩ hs
    rw [e.erd] at ha
    rw [e.esh] at hs
    rcases hs with hs | ⟨a', ea, hs⟩ | hs
    · exact hS a ha hs
    · injection ea with ea
      subst ea
      rcases hs with hs | hs
      · exact (hrd a ha).1 hs
      · exact (hrd a ha).2.1 hs
    · cases hs
  · intro a ha
    rw [e.eat] at ha
    rw [e.esh]
    exact Or.inr (Or.inl ⟨a, rfl, Or.inl ha⟩)
  · intro a ha
    rw [e.eWg] at ha
    rw [e.esh]
    exact Or.inr (Or.inl ⟨a, rfl, Or.inr ha⟩)
  · rw [e.esh, e.ech]; exact Or.inr (Or.inr rfl)
  · intro a ha
    rw [e.eat] at ha
    rw [e.eB]; exact (hat a ha).2.2.2
  · intro a ha
    rw [e.erd] at ha
    rw [e.eB]; exact (hrd a ha).2.2.2.2
  · rw [e.eWg, e.eB]; omega
  · rw [e.ech, e.eB]; omega
  · rw [e.en]; exact h1
  · rw [e.en]; omega
  · intro g hg
    rw [e.elo] at hg
    obtain ⟨x4, x6, x7, x8, x9, x10, x11, x12, rfl⟩ := hg
    rfl
  · intro g hg
    rw [z.ean] at hg
    obtain ⟨T, fr, _, _, _, rfl⟩ := hg
    rfl
  · intro g w hg
    rw [e.elo] at hg
    rw [e.eP, e.ech, e.ez]
    exact comm_x hg w
  · intro g i p f bf tt h w hg hgi hi
    rw [e.eGI] at hgi
    obtain ⟨⟨hp, ps, _, _⟩, _⟩ := gi_load P i hgi hi
    rw [e.elo] at hg
    obtain ⟨x4, x6, x7, x8, x9, x10, x11, x12, rfl⟩ := hg
    rw [e.eP, e.ech, e.ez, got_x]
    obtain ⟨m, hm⟩ := item_x e hp hn10 ps (P.deg p hp ps) (hg0 p) (hg1 p) x4 x7 x8 x9 x10 x11 x12
    have := gw_dq e hm w
    rw [e.eP] at this
    exact ⟨m, this⟩
  · intro g w hg
    exact done_x e hg w
  · intro g w hg
    obtain ⟨m, hm⟩ := anch_x e z hg
    exact ⟨m, gw_d0 e hm w⟩
  · intro f p bf tt h i hgi hi
    rw [e.eGI] at hgi ⊢
    exact gi_take i hgi hi
  · intro f p tt h i hgi hi
    rw [e.eGI] at hgi ⊢
    exact gi_give i hgi hi
  · intro f p bf tt h hgi
    rw [e.eGI] at hgi ⊢
    exact gi_send hgi
  · intro f p bf tt h i hgi hi
    rw [e.eGI] at hgi
    rw [e.eat, e.ecp, e.egv, e.epl, e.eGI]
    obtain ⟨⟨hp, ps, v0, vK⟩, hg⟩ := gi_load P i hgi hi
    have k5 := P.K5
    exact ⟨Or.inl ⟨p, by omega, rfl⟩, ⟨hp, ps, v0, by omega⟩, pl_len p _, hg⟩
  · intro f a d ls bf tt h i hgi hi
    rw [e.eGI] at hgi
    rw [e.eat, e.eGI]
    obtain ⟨ha, hf, hg⟩ := gi_add P i hgi hi
    refine ⟨?_, hf, hg⟩
    rcases ha with ⟨q, hq, rfl⟩ | ⟨q, hq, rfl⟩ | rfl
    · exact Or.inl ⟨q, by omega, rfl⟩
    · exact Or.inr (Or.inl ⟨q, by omega, rfl⟩)
    · exact Or.inr (Or.inr rfl)
end Go.Proofs.YtpajdmhgonmgoaaDoor

namespace Go.Proofs.YtpajdmhgonmgoaaDoor
open Go.RowKit
set_option linter.unusedVariables false
open Go.Conc Go.ConcN Go.RowKit
open Go.ConcR (KK wgBlock WgAt stA smA rd wr Payload DC0)
set_option linter.unusedSimpArgs false
theorem Gw.weakF {P : Program} {main : Bool} {F F' : World → Prop} {E : Event → Prop} {S : Goroutine → World → Prop} (hF : ∀ w, F' w → F w) : ∀ (n : Nat) (g : Goroutine), Gw P main F E S n g → Gw P main F' E S n g := by
  intro n
  induction n with
  | zero => exact fun g h w w₁ h₁ => h w w₁ (hF _ h₁)
  | succ n ih =>
    intro g h w
    rcases h w with h1 | ⟨hs, h1⟩
    · exact Or.inl fun w₁ h₁ => h1 w₁ (hF _ h₁)
    · refine Or.inr ⟨hs, fun w₁ h₁ => ?_⟩
      obtain ⟨g₁, w₂, es, hgo, hd, hg⟩ := goes_elim (h1 _ (hF _ h₁))
      rw [hgo]
      exact ⟨hd, ih g₁ (fun w₃ => goes_any (X := F) hg) _⟩
theorem gw_and {P : Program} {main : Bool} {F : World → Prop} {E : Event → Prop} {S : Goroutine → World → Prop} : ∀ {n : Nat} {g : Goroutine}, Gw P main F E S n g → Gw P main F E (fun g w => S g w ∧ F w) n g := by
  intro n
  induction n with
  | zero => exact fun {g} h w w₁ h₁ => ⟨h w w₁ h₁, h₁⟩
  | succ n ih =>
    intro g h w
    rcases h w with h1 | ⟨hs, h1⟩
    · exact Or.inl fun w₁ h₁ => ⟨h1 w₁ h₁, h₁⟩
    · refine Or.inr ⟨hs, fun w₁ h₁ => ?_⟩
      obtain ⟨g₁, w₂, es, hgo, hd, hg⟩ := goes_elim (h1 _ h₁)
      rw [hgo]
      exact ⟨hd, ih (fun w₃ => goes_any (X := F) hg) _⟩
/-- What nobody may touch but atomically behind a round. -/
def ShR (Shun : Loc → Prop) (C N : Nat) : Loc → Prop := fun l => Shun l ∨ (∃ a, l = .cell a ∧ (atS C N a ∨ a.block = N + 4)) ∨ l = .obj (N + 1)
theorem its_nodup (n s : Nat) : (itS n s).Nodup := List.Nodup.sublist List.filter_sublist List.nodup_range
theorem its_all (n s : Nat) : ∀ p, p < n → p ≠ s → p ∈ itS n s := fun p hp ps => List.mem_filter.2 ⟨List.mem_range.2 hp, by simpa using ps⟩
theorem its_len (n s : Nat) : (itS n s).length ≤ n := Nat.le_trans (List.length_filter_le _ _) (by simp)
/-- The goroutine that is about to do a round. -/
def IsRoundG (C nw : Nat) (cs : List Frame) (g : Goroutine) : Prop := g = G ((base 23).at ⟨#[.pointer (some ⟨C, 0, none⟩), .int .i64 (nw : Int), undef, undef, undef, undef, undef, undef, undef, undef, undef, undef, undef, undef, undef, undef, undef, undef, undef, undef, undef, undef, undef, undef, undef, undef, undef, undef, undef, undef, undef, undef, undef, undef, undef, undef, undef, undef], []⟩ [.code (bodyOf Tryd.f23)]) cs
theorem round_run {C n s nw : Nat} {b : Nat → Nat → Int} {c0 u0 : Nat → Int} {K : Int} {Shun : Loc → Prop} {w : World} {m : Machine} {t : Trace} {b₀ : Frame} {a₀ : Act} {ops₀ : Array Oper} {i₀ : Nat} {rest₀ : List Nat} {k₀ : List Item} {cs : List Frame}
    (P : Pile n s b c0 u0 (itS n s) K) (pl : PlS n s b c0 u0) (hn1 : 1 ≤ nw) (hn2 : nw < 1000) (hcw : CwAt C n s b c0 u0 w) (hS : ∀ l, Shun l → l.low w.heap.size) (hG : ∀ j, j < 112 → ¬ Shun (.cell ⟨C, j, none⟩))
    {g : Goroutine} (hg : IsRoundG C nw (b₀.at a₀ (.inRegion ops₀ (i₀ :: rest₀) :: k₀) :: cs) g) (hB : Bes Tryd.prog Shun w.heap.size g w m t) :
    ∃ N m' t' w' u v, runNT Tryd.prog N m t = (.next m', t') ∧ Bes Tryd.prog (ShR Shun C w.heap.size) (w.heap.size + 5) (G (b₀.at (a₀.put ((ops₀[i₀]?).bind (·.dst)) (.bool (decide (0 < v)))) (.inRegion ops₀ rest₀ :: k₀)) cs) w' m' t' ∧
      KeepR C w.heap.size w w' ∧ CwAt C n s b c0 u w' ∧ PlS n s b c0 u ∧ (∀ q, q < n → u0 q ≤ u q) ∧ v = smS n u - smS n u0 ∧ (v = 0 → stillS n s b c0 u) ∧ ∃ o, w'.heap[w.heap.size + 1]? = some o ∧ o.isChan = true := by
  unfold IsRoundG at hg
  subst hg
  letI : Payload := ⟨84⟩
  obtain ⟨N, hN⟩ : ∃ N, w.heap.size = N := ⟨_, rfl⟩
  rw [hN] at hS hB ⊢
  have hC : C < N := by rw [← hN]; exact hcw.lt
  have hSN : ∀ a, N ≤ a.block → ¬ Shun (.cell a) := fun a ha hs => by
    have h : a.block < N := hS _ hs
    omega
  have hn10 := P.n10
  obtain ⟨N1, m1, t1, g1, w1, r1, ⟨hw1, x1, x3, x8, x9, x12, x13, x14, x15, x16, x17, x18, x19, x20, x21, x22, x23, x24, x25, x26, x27, x28, x29, x30, x31, x32, x33, x34, x35, x36, x37, rfl⟩, hb1⟩ := bes_walk (enter_x (nw := nw) (Shun := Shun) hN hC hSN) (atRel_refl w) (hB.mono (B' := N + 4) (by omega))
  obtain ⟨gs, sl, q, rfl, h0, hL, hP⟩ := hb1
  obtain ⟨st, e, z, ek⟩ := site_is C N n s b c0 u0 K nw gs.size Shun (b₀.at a₀ (.inRegion ops₀ (i₀ :: rest₀) :: k₀) :: cs) w
  have hL0 : 0 < gs.size := (Array.getElem?_eq_some_iff.1 h0).1
  have ok : st.Ok := site_ok e z P hC hL0 hn1 hn2 (fun a ha => by
    rcases ha with ⟨j, hj, rfl⟩ | rfl | rfl
    · exact hG j hj
    · exact hSN _ (Nat.le_refl _)
    · exact hSN _ (by simp only []; omega)) (fun w2 w3 k1 k2 k3 k4 k5 k6 => by
    rw [ek] at k6 ⊢
    obtain ⟨q1, q2, q3, q4, q5⟩ := k6
    exact ⟨k1.trans q1, k2.trans q2, k3.trans q3, k4.trans q4, fun k hk hkc => (k5 k (by omega) (by omega) hkc (by omega)).trans (q5 k hk hkc)⟩)
  have hF : st.Fix w1 := fix_start rfl e ek hN hn10 hcw hw1
  obtain ⟨M, hM⟩ := spawn_x e z hn10 hn2 nw 0 (by omega) x1 x3 x8 x9 x12 x13 x14 x15 x16 x17 x18 x19 x20 x21 x22 x23 x24 x25 x26 x27 x28 x29 x30 x31 x32 x33 x34 x35 x36 x37
  have hsp := spawns_of e (by omega) hM w1
  obtain ⟨f, hf⟩ : ∃ f : Addr → Int, ∀ a x, w1.cell? a = some (.int .i64 x) → f a = x := ⟨fun a => match w1.cell? a with | some (.int _ x) => x | _ => 0, fun a x h => by simp only [h]⟩
  have hv : ∀ a, st.IsAt a → w1.cell? a = some (.int .i64 (f a)) := fun a ha => by
    obtain ⟨x, hx, _⟩ := hF.ats a ha
    rw [hf a x hx]; exact hx
  have hw1h : ∀ k : Nat, w1.heap[k]? = (roundW C w).heap[k]? := by
    obtain ⟨d, rfl⟩ := hw1
    exact fun _ => rfl
  have hcw1 : CwAt C n s b c0 u0 w1 := hcw.on (by rw [hw1h]; exact roundW_old (by omega))
  have hgi : st.GI f [] st.items (fun _ => (none, [])) := by
    rw [e.eGI, e.eit]
    refine gi_start P pl (its_nodup n s) (its_all n s) (fun p hp => ?_) (fun p hp => ?_) ?_
    · obtain ⟨x, hx, hy⟩ := hcw1.cp p (by omega)
      rw [hf _ x hx]; exact hy hp
    · obtain ⟨x, hx, hy⟩ := hcw1.tp p (by omega)
      rw [hf _ x hx]; exact hy hp
    · refine hf _ 0 ?_
      have b3 : w1.heap[N + 3]? = some togO := by rw [hw1h, ← hN]; exact roundW_tog
      exact cell_of_row _ (N + 3) 0 _ _ (0, 0) b3
  have ePs : ∀ {p : Program}, st.P = p → p = st.P := fun h => h.symm
  obtain ⟨N2, m2, t2, r2, hD⟩ := crew_run ok (by rw [e.en]; exact hn1) (Shun := Shun) (B := N + 4) (by rw [e.esh]; exact fun l hl => Or.inl hl) (by rw [e.eB]; omega) (by rw [e.eWg]; exact Nat.le_refl _) h0 (by rw [e.eP]; exact hL) hP e.eL (by rw [e.en]; exact hsp) hF hv
    (by rw [e.ech, e.eca]; exact ⟨0, 0, by rw [hw1h, ← hN]; exact roundW_chn⟩) hgi (by rw [e.eit, e.eca]; exact Nat.le_trans (its_len n s) hn10) (by rw [e.ety, e.eWg]; show w1.heap[N + 4]? = _; rw [hw1h, ← hN]; exact roundW_grp)
  rw [e.eP] at r2
  obtain ⟨gs2, w2, sl2, a2, q2, f2, rfl, _, h02, _, hfin, hlv, hpast, hfix, hvals, hgi2, _⟩ := hD
  rw [e.eP] at hlv
  rw [e.eB] at hpast
  have hSh : st.Sh = ShR Shun C N := e.esh
  rw [hSh] at hpast
  rw [z.efi] at hfin
  rw [e.eGI] at hgi2
  obtain ⟨u, u1, u2, u3, u4, u5, u6⟩ := gi_end (its_all n s) hgi2
  have hb2 : Bes Tryd.prog (ShR Shun C N) (N + 5) a2 w2 (crowd gs2 w2 sl2) t2 := ⟨gs2, sl2, q2, rfl, h02, hlv, hpast⟩
  obtain ⟨mf, hmf⟩ := hfin
  obtain ⟨N3, m3, t3, g3, w3, r3, ⟨⟨fr, hfr, rfl⟩, hw3⟩, hb3⟩ := bes_walk (S := fun g w => (∃ fr, IsRdE N fr ∧ g = G fr (b₀.at a₀ (.inRegion ops₀ (i₀ :: rest₀) :: k₀) :: cs)) ∧ AtRel w2 w) (F := AtRel w2) (gp_of_gw (atRel_c w2) (fun _ h => h.elim) mf a2 (gw_and (Gw.weakF (fun _ _ => trivial) mf a2 hmf))) (atRel_refl w2) hb2
  have hv3 : w3.cell? ⟨N + 3, 0, none⟩ = some (.int .i64 (f2 (tgL (N + 3)))) := by
    obtain ⟨d, rfl⟩ := hw3
    exact hvals (tgL (N + 3)) (by rw [e.eat]; exact Or.inr (Or.inr rfl))
  obtain ⟨N4, m4, t4, g4, w4, r4, ⟨hw4, rfl⟩, hb4⟩ := bes_walk (end_x (Shun := ShR Shun C N) (B := N + 5) hfr hv3 (by omega)) (atRel_refl w3) hb3
  obtain ⟨d, hd⟩ : AtRel w2 w4 := atRel_trans _ _ _ hw3 hw4
  obtain ⟨cb, cc, ce, cd, hcn⟩ := hfix.chan
  rw [e.ech] at hcn
  refine ⟨N1 + (N2 + (N3 + N4)), m4, t4, w4, u, f2 (tgL (N + 3)), ?_, hb4, ?_, ?_, u1, u2, u5, u6, ⟨_, (by rw [hd]; exact hcn), rfl⟩⟩
  · rw [runNT_then r1, runNT_then r2, runNT_then r3]; exact r4
  · have := hfix.keep
    rw [ek] at this
    rw [hd]; exact this
  · rw [hd]
    have hp := hfix.pay
    rw [e.ecB, e.ecs] at hp
    refine ⟨hp, fun j hj => fix_gd e hfix hj, fun p hp => ⟨f2 (cpL C p), hvals _ (by rw [e.eat]; exact Or.inl ⟨p, hp, rfl⟩), fun h => u3 p h⟩, fun p hp => ⟨f2 (tpL C p), hvals _ (by rw [e.eat]; exact Or.inr (Or.inl ⟨p, hp, rfl⟩)), fun h => u4 p h⟩⟩
end Go.Proofs.YtpajdmhgonmgoaaDoor

namespace Go.Proofs.YtpajdmhgonmgoaaDoor
open Go.RowKit
set_option linter.unusedVariables false
open Go.Conc Go.RowKit
set_option linter.unusedSimpArgs false
theorem gp_then {P : Program} {E : Event → Prop} {S S' : Goroutine → World → Prop} {m : Nat} {F : World → Prop} : ∀ {n : Nat} {g : Goroutine}, Gp P E S n g F → (∀ g w, S g w → Gp P E S' m g (AtRel w)) → Gp P E S' (n + m) g F := by
  intro n
  induction n generalizing F with
  | zero =>
    intro g h h2 w hw
    have h3 : ∀ w₁, AtRel w w₁ → S g w₁ := h w hw
    rw [Nat.zero_add]
    exact h2 g w (h3 w (atRel_refl w)) w (atRel_refl w)
  | succ n ih =>
    intro g h h2 w hw
    rcases h w hw with h1 | ⟨hs, h1⟩
    · exact (h2 g w (h1 w (atRel_refl w)) w (atRel_refl w)).mono (by omega)
    · rw [show n + 1 + m = (n + m) + 1 by omega]
      refine Or.inr ⟨hs, fun w₁ h₁ => ?_⟩
      obtain ⟨g₁, w₂, es, hgo, hd, hg⟩ := goes_elim (h1 _ h₁)
      rw [hgo]
      refine ⟨hd, ?_⟩
      have hG : Gp P E S n g₁ (AtRel w₂) := fun w₃ h₃ => Goes.rely atRel_trans hg h₃
      exact ih hG h2 w₂ (atRel_refl w₂)
end Go.Proofs.YtpajdmhgonmgoaaDoor

