/-
  What the last text of this claim leans on, part 24: Kc4, Kd3.
-/
import Derived.Test.YtpajdmhgonmgoaaDoorYs23
import Derived.Test.YtpajdmhgonmgoaaDoorYs22
import Derived.Conc.WgArith
import Derived.Conc.SmallLaws
import Derived.Laws.LoneSync
namespace Go.Proofs.YtpajdmhgonmgoaaDoor
open Go.RowKit
set_option linter.unusedVariables false
open Go.Conc Go.ConcN Go.RowKit Go.Conc.Lib Go.ConcR.Gen Go.ConcN.Gen
open Go.ConcR (KK wgBlock WgAt stA smA rd wr Payload DC0)
set_option linter.unusedSimpArgs false
structure OkT38 (N : Nat) (T : Array Value) : Prop where
  sz : T.size = 38
  s6 : T[6]? = some (.pointer (some ⟨N + 3, 0, none⟩))
theorem okT38_put {N : Nat} {T : Array Value} (h : OkT38 N T) (v : Value) : OkT38 N (T.setIfInBounds 35 v) := ⟨by simp [h.sz], by rw [Array.getElem?_setIfInBounds_ne (by omega)]; exact h.s6⟩
/-- The frame of a round that waits. -/
def IsRdW (N : Nat) (fr : Frame) : Prop := ∃ T, OkT38 N T ∧ fr = (base 23).at ⟨T, []⟩ [.inRegion (cO (cL (cR (cR (cR (cR (cR (cR (cR (bodyOf Tryd.f23)))))))))) [0], .code (cR (cR (cR (cR (cR (cR (cR (cR (bodyOf Tryd.f23)))))))))]
/-- .. and that has waited. -/
def IsRdE (N : Nat) (fr : Frame) : Prop := ∃ T, OkT38 N T ∧ fr = (base 23).at ⟨T, []⟩ [.code (cR (cR (cR (cR (cR (cR (cR (cR (bodyOf Tryd.f23)))))))))]
def FinZ (N : Nat) (cs : List Frame) (g : Goroutine) : Prop := ∃ m, Gw Tryd.prog true (fun _ => True) (fun _ => False) (fun g _ => ∃ fr, IsRdE N fr ∧ g = G fr cs) m g
/-- What is at a round's site besides. -/
structure SiteZ (t : Site) (N : Nat) (cs : List Frame) : Prop where
  ean : t.Anch = fun g => ∃ T fr, T.size = 84 ∧ T[0]? = some (.pointer (some ⟨N + 4, 0, none⟩)) ∧ IsRdW N fr ∧ g = G ((base 41).at ⟨T, []⟩ [.code (cL (cL (cR (bodyOf Tryd.f41)))), .inLoop (cL (cL (cR (bodyOf Tryd.f41)))), .inBlock 0]) (fr :: cs)
  efi : t.Fin = fun g _ => FinZ N cs g
section
variable [Payload] {C N n s : Nat} {b : Nat → Nat → Int} {c0 u0 : Nat → Int} {K : Int} {nw L : Nat} {Shun : Loc → Prop} {t : Site}
theorem gw_dp (e : SiteS t C N n s b c0 u0 K nw L Shun) {S : Goroutine → World → Prop} {m : Nat} {g : Goroutine} (h : Gw Tryd.prog true t.Fix (EvZ C N) S m g) (w : World) : Goes Tryd.prog true t.R0 t.D0 S m g w := by
  have := gw_d0 e h w
  rw [e.eP] at this
  exact this
theorem at_kdW (e : SiteS t C N n s b c0 u0 K nw L Shun) {g g' : Goroutine} (hs : g.status = .running) (h : ∀ w, stepG Tryd.prog true g w = .go g' w #[Go.ConcR.mk .disable]) {m : Nat} (hn : Gw Tryd.prog true t.Fix (EvZ C N) (fun g _ => t.Anch g) m g') (w : World) : t.AtKdW g w :=
  ⟨hs, g', by rw [e.eP]; exact h w, m, gw_d0 e hn w⟩
theorem at_ke (e : SiteS t C N n s b c0 u0 K nw L Shun) {g g' : Goroutine} (hs : g.status = .running) (h : ∀ w, stepG Tryd.prog true g w = .go g' w #[Go.ConcR.mk .enable]) {m : Nat} (hn : Gw Tryd.prog true t.Fix (EvZ C N) t.AtAcq m g') (w : World) : t.AtKe g w :=
  ⟨hs, g', by rw [e.eP]; exact h w, m, gw_d0 e hn w⟩
theorem at_acq (e : SiteS t C N n s b c0 u0 K nw L Shun) {cs : List Frame} (z : SiteZ t N cs) {g g' : Goroutine} (hs : g.status = .running) (h : ∀ w, stepG Tryd.prog true g w = .go g' w #[Go.ConcR.mk (.acquire (stA (N + 4)))]) (hr : g'.status = .running) (hf : FinZ N cs g') (w : World) : t.AtAcq g w :=
  ⟨hs, g', by rw [e.eP, e.eWg]; exact h w, hr, fun w' _ => by rw [z.efi]; exact hf⟩
end
set_option maxRecDepth 100000 in
set_option maxHeartbeats 3200000 in
theorem wait_x [Payload] {C N n s : Nat} {b : Nat → Nat → Int} {c0 u0 : Nat → Int} {K : Int} {nw L : Nat} {Shun : Loc → Prop} {t : Site} (e : SiteS t C N n s b c0 u0 K nw L Shun) {cs : List Frame} (z : SiteZ t N cs) {fr : Frame} (hT' : IsRdW N fr) :
    Gw Tryd.prog true t.Fix (EvZ C N) t.AtKdW 10 (G ((base 41).at ⟨#[.pointer (some ⟨N + 4, 0, none⟩), undef, undef, undef, undef, undef, undef, undef, undef, undef, undef, undef, undef, undef, undef, undef, undef, undef, undef, undef, undef, undef, undef, undef, undef, undef, undef, undef, undef, undef, undef, undef, undef, undef, undef, undef, undef, undef, undef, undef, undef, undef, undef, undef, undef, undef, undef, undef, undef, undef, undef, undef, undef, undef, undef, undef, undef, undef, undef, undef, undef, undef, undef, undef, undef, undef, undef, undef, undef, undef, undef, undef, undef, undef, undef, undef, undef, undef, undef, undef, undef, undef, undef, undef], []⟩ [.code (bodyOf Tryd.f41)]) (fr :: cs)) := by
  simp only [bodyOf, Tryd.f41, Option.getD_some]
  repeat (first
    | refine gw_done ?_
    | (refine gw_opk rfl rfl (by k_ne) ?_; intro w hF K' hK; go_simp; with_reducible refine hK _ ?_ ?_; intro e he; clear hK; simp [go_sem, *] at he; clear hK K' hF; clear w; try walk_nrm)
    | refine gw_seq ?_
    | refine gw_skip ?_
    | (refine gw_region ?_; try simp only [List.size_toArray, List.length_cons, List.length_nil, Nat.reduceAdd, Nat.zero_add, List.range, List.range.loop])
    | (refine gw_unwanted rfl rfl ?_; walk_nrm)
    | (refine gw_cond true ?_ ?_; (first | rfl | (simp [Act.eval, *]; done)); simp only [if_true, ↓reduceIte])
    | (refine gw_cond false ?_ ?_; (first | rfl | (simp [Act.eval, *]; done)); simp only [if_false, Bool.false_eq_true, ↓reduceIte])
    | refine gw_inBlock ?_
    | refine gw_block ?_
    | refine gw_loop ?_)
  refine Gw.stop (fun w hF => ?_)
  refine at_kdW (m := 20) e rfl (fun w => stepG_mark0 .disable (by simp) rfl rfl (by k_ne) rfl wgLib.f_disable (x_disable_n wgL) (x_disable_b wgL) (x_disable_x wgL) (x_disable_f wgL)) ?_ w
  walk_nrm
  refine gw_done ?_
  refine gw_block ?_
  refine gw_loop ?_
  refine Gw.stop (fun w hF => ?_)
  rw [z.ean]
  exact ⟨_, fr, by simp, by simp, hT', rfl⟩
end Go.Proofs.YtpajdmhgonmgoaaDoor

namespace Go.Proofs.YtpajdmhgonmgoaaDoor
open Go.RowKit
set_option linter.unusedVariables false
open Go.Conc Go.ConcN Go.RowKit Go.Conc.Lib Go.ConcR.Gen Go.ConcN.Gen
open Go.ConcR (KK wgBlock WgAt stA smA rd wr Payload DC0)
set_option linter.unusedSimpArgs false
theorem atRel_c (w0 : World) : AtC (AtRel w0) := fun w d ⟨d0, h⟩ => ⟨d, by rw [h]; rfl⟩
def EqW (a b : World) : Prop := a = b
def boxO (C : Nat) : Obj := .cells #[.pointer (some ⟨C, 0, none⟩)] 61
def chnO : Obj := .chan 10 #[] false 0 0 false
def varO : Obj := .cells #[.chan none] 86
def togO : Obj := .cells #[.int .i64 0] 81
def grpO : Obj := .cells #[.int .u64 0, .int .u32 0] 93
/-- The world where a round's workers are to be started. -/
def roundW (C : Nat) (w : World) : World := (((((w.alloc (boxO C)).alloc chnO).alloc varO).setCell ⟨w.heap.size + 2, 0, none⟩ (.chan (some (w.heap.size + 1)))).alloc togO).alloc grpO
theorem chan_ty : Tryd.prog.underlying 86 = some (.chan .both 3) := by kernel_rfl
theorem int_bytes : (Tryd.prog.info? 3).map (·.bytes) = some 8 := by kernel_rfl
theorem chan_ev (w : World) (es : Array Event) : (Instr.makeChan 86 (.int .i64 10)).events Tryd.prog w es = es := by
  obtain ⟨i, hi, hb⟩ := Option.map_eq_some_iff.1 int_bytes
  exact events_makeChan chan_ty hi .i64 10 (by omega) (by rw [hb]; omega) es
set_option maxRecDepth 100000 in
set_option maxHeartbeats 3200000 in
theorem enter_x {C N nw : Nat} {Shun : Loc → Prop} {w0 : World} (hN0 : w0.heap.size = N) (hC : C < N) (hS : ∀ a, N ≤ a.block → ¬ Shun (.cell a)) {cs : List Frame} :
    Gp Tryd.prog (EvL Shun (N + 4)) (fun g w => AtRel (roundW C w0) w ∧ ∃ x1 x3 x8 x9 x12 x13 x14 x15 x16 x17 x18 x19 x20 x21 x22 x23 x24 x25 x26 x27 x28 x29 x30 x31 x32 x33 x34 x35 x36 x37, g = G ((base 23).at ⟨#[.pointer (some ⟨C, 0, none⟩), x1, .pointer (some ⟨N, 0, none⟩), x3, .bool false, .pointer (some ⟨N + 2, 0, none⟩), .pointer (some ⟨N + 3, 0, none⟩), .pointer (some ⟨N + 4, 0, none⟩), x8, x9, .int .i64 (nw : Int), .int .i64 ((0 : Nat) : Int), x12, x13, x14, x15, x16, x17, x18, x19, x20, x21, x22, x23, x24, x25, x26, x27, x28, x29, x30, x31, x32, x33, x34, x35, x36, x37], []⟩ [.code (cL (cL (cR (cL (cR (cR (cR (cR (bodyOf Tryd.f23))))))))), .inLoop (cL (cL (cR (cL (cR (cR (cR (cR (bodyOf Tryd.f23))))))))), .inBlock 0, .code (cR (cR (cR (cR (cR (bodyOf Tryd.f23))))))]) cs) 60 (G ((base 23).at ⟨#[.pointer (some ⟨C, 0, none⟩), .int .i64 (nw : Int), undef, undef, undef, undef, undef, undef, undef, undef, undef, undef, undef, undef, undef, undef, undef, undef, undef, undef, undef, undef, undef, undef, undef, undef, undef, undef, undef, undef, undef, undef, undef, undef, undef, undef, undef, undef], []⟩ [.code (bodyOf Tryd.f23)]) cs) (AtRel w0) := by
  have hc := atRel_c
  simp only [cO, cL, cR, bodyOf, Tryd.f23, Option.getD_some]
  refine gp_seq (hc _) ?_
  refine gp_region (hc _) ?_
  try simp only [List.size_toArray, List.length_cons, List.length_nil, Nat.reduceAdd, Nat.zero_add, List.range, List.range.loop]
  refine gp_opw (hc _) (F' := AtRel (w0.alloc (boxO C))) rfl rfl (by k_ne) (fun w hF K' hK => ?_)
  obtain ⟨d, rfl⟩ := hF
  have hs : (w0.at d).heap.size = N := hN0
  go_simp
  refine hK _ _ (fun e he => ?_) ⟨d, rfl⟩ ?_
  · clear hK; simp [go_sem] at he
  try simp only [hs]
  clear hK K' hs d
  try walk_nrm
  obtain ⟨w1, hw1⟩ : ∃ w1, EqW w1 (w0.alloc (boxO C)) := ⟨_, rfl⟩
  rw [← show w1 = w0.alloc (boxO C) from hw1]
  have hN1 : w1.heap.size = N + 1 := by rw [show w1 = _ from hw1]; simp [hN0]
  refine gp_opk (hc _) rfl rfl (by k_ne) (fun w hF K' hK => ?_)
  go_simp
  refine hK _ (fun e' he => ?_) ?_
  · (clear hK; simp [go_sem, *] at he)
  clear hK K' hF
  clear w
  refine gp_done (hc _) ?_
  refine gp_seq (hc _) ?_
  refine gp_region (hc _) ?_
  try simp only [List.size_toArray, List.length_cons, List.length_nil, Nat.reduceAdd, Nat.zero_add, List.range, List.range.loop]
  refine gp_opw (hc _) (F' := AtRel (w1.alloc chnO)) rfl rfl (by k_ne) (fun w hF K' hK => ?_)
  obtain ⟨d, rfl⟩ := hF
  have hs : (w1.at d).heap.size = N + 1 := hN1
  go_simp
  refine hK _ _ (fun e he => ?_) ⟨d, rfl⟩ ?_
  · clear hK; simp [go_sem, chan_ev] at he
  try simp only [hs]
  clear hK K' hs d
  try walk_nrm
  obtain ⟨w2, hw2⟩ : ∃ w2, EqW w2 (w1.alloc chnO) := ⟨_, rfl⟩
  rw [← show w2 = w1.alloc chnO from hw2]
  have hN2 : w2.heap.size = N + 2 := by rw [show w2 = _ from hw2]; simp [hN1]
  refine gp_opw (hc _) (F' := AtRel (w2.alloc varO)) rfl rfl (by k_ne) (fun w hF K' hK => ?_)
  obtain ⟨d, rfl⟩ := hF
  have hs : (w2.at d).heap.size = N + 2 := hN2
  go_simp
  refine hK _ _ (fun e he => ?_) ⟨d, rfl⟩ ?_
  · clear hK; simp [go_sem] at he
  try simp only [hs]
  clear hK K' hs d
  try walk_nrm
  obtain ⟨w3, hw3⟩ : ∃ w3, EqW w3 (w2.alloc varO) := ⟨_, rfl⟩
  rw [← show w3 = w2.alloc varO from hw3]
  have hN3 : w3.heap.size = N + 3 := by rw [show w3 = _ from hw3]; simp [hN2]
  have hv3 : w3.heap[N + 2]? = some varO := by rw [show w3 = w2.alloc varO from hw3, ← hN2]; exact heap_alloc_new w2 varO
  have hcl : ∀ d, (w3.at d).cell? ⟨N + 2, 0, none⟩ = some (.chan none) := fun d => cell_of_row w3 (N + 2) 0 _ _ (0, 0) hv3
  have hfr : ∀ d, (w3.at d).frozen? ⟨N + 2, 0, none⟩ = false := fun d => frozen_of_row w3 (N + 2) 0 _ _ hv3
  refine gp_opw (hc _) (F' := AtRel (w3.setCell ⟨N + 2, 0, none⟩ (.chan (some (N + 1))))) rfl rfl (by k_ne) (fun w hF K' hK => ?_)
  obtain ⟨d, rfl⟩ := hF
  have hcl' := hcl d
  have hfr' := hfr d
  go_simp
  refine hK _ _ (fun e he => ?_) ⟨d, rfl⟩ ?_
  · clear hK
    simp [go_sem, *] at he
    subst he
    exact evL_cell _ _ (hS _ (by simp only []; omega)) (by simp only []; omega)
  clear hK K' hcl' hfr' d hcl hfr hv3
  obtain ⟨w4, hw4⟩ : ∃ w4, EqW w4 (w3.setCell ⟨N + 2, 0, none⟩ (.chan (some (N + 1)))) := ⟨w3.setCell ⟨N + 2, 0, none⟩ (.chan (some (N + 1))), rfl⟩
  rw [← show w4 = w3.setCell ⟨N + 2, 0, none⟩ (.chan (some (N + 1))) from hw4]
  have hN4 : w4.heap.size = N + 3 := by rw [show w4 = _ from hw4]; simp [hN3]
  try walk_nrm
  refine gp_done (hc _) ?_
  refine gp_seq (hc _) ?_
  refine gp_region (hc _) ?_
  try simp only [List.size_toArray, List.length_cons, List.length_nil, Nat.reduceAdd, Nat.zero_add, List.range, List.range.loop]
  refine gp_opw (hc _) (F' := AtRel (w4.alloc togO)) rfl rfl (by k_ne) (fun w hF K' hK => ?_)
  obtain ⟨d, rfl⟩ := hF
  have hs : (w4.at d).heap.size = N + 3 := hN4
  go_simp
  refine hK _ _ (fun e he => ?_) ⟨d, rfl⟩ ?_
  · clear hK; simp [go_sem] at he
  try simp only [hs]
  clear hK K' hs d
  try walk_nrm
  obtain ⟨w5, hw5⟩ : ∃ w5, EqW w5 (w4.alloc togO) := ⟨_, rfl⟩
  rw [← show w5 = w4.alloc togO from hw5]
  have hN5 : w5.heap.size = N + 4 := by rw [show w5 = _ from hw5]; simp [hN4]
  refine gp_done (hc _) ?_
  refine gp_seq (hc _) ?_
  refine gp_region (hc _) ?_
  try simp only [List.size_toArray, List.length_cons, List.length_nil, Nat.reduceAdd, Nat.zero_add, List.range, List.range.loop]
  refine gp_opw (hc _) (F' := AtRel (w5.alloc grpO)) rfl rfl (by k_ne) (fun w hF K' hK => ?_)
  obtain ⟨d, rfl⟩ := hF
  have hs : (w5.at d).heap.size = N + 4 := hN5
  go_simp
  refine hK _ _ (fun e he => ?_) ⟨d, rfl⟩ ?_
  · clear hK; simp [go_sem] at he
  try simp only [hs]
  clear hK K' hs d
  try walk_nrm
  obtain ⟨w6, hw6⟩ : ∃ w6, EqW w6 (w5.alloc grpO) := ⟨_, rfl⟩
  rw [← show w6 = w5.alloc grpO from hw6]
  refine gp_done (hc _) ?_
  refine gp_seq (hc _) ?_
  refine gp_seq (hc _) ?_
  refine gp_region (hc _) ?_
  try simp only [List.size_toArray, List.length_cons, List.length_nil, Nat.reduceAdd, Nat.zero_add, List.range, List.range.loop]
  refine gp_opk (hc _) rfl rfl (by k_ne) (fun w hF K' hK => ?_)
  go_simp
  refine hK _ (fun e' he => ?_) ?_
  · (clear hK; simp [go_sem, *] at he)
  clear hK K' hF
  clear w
  refine gp_opk (hc _) rfl rfl (by k_ne) (fun w hF K' hK => ?_)
  go_simp
  refine hK _ (fun e' he => ?_) ?_
  · (clear hK; simp [go_sem, *] at he)
  clear hK K' hF
  clear w
  refine gp_done (hc _) ?_
  refine gp_block (hc _) ?_
  refine gp_loop (hc _) ?_
  refine Gp.stop (hc _) (fun w hF => ?_)
  refine ⟨?_, ?_⟩
  · have e : roundW C w0 = w6 := by
      unfold roundW
      rw [show w6 = _ from hw6, show w5 = _ from hw5, show w4 = _ from hw4, show w3 = _ from hw3, show w2 = _ from hw2, show w1 = _ from hw1, hN0]
    rw [e]; exact hF
  · exact ⟨_, _, _, _, _, _, _, _, _, _, _, _, _, _, _, _, _, _, _, _, _, _, _, _, _, _, _, _, _, _, rfl⟩
end Go.Proofs.YtpajdmhgonmgoaaDoor

