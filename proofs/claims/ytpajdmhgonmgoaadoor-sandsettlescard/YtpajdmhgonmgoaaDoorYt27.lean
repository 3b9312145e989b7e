/-
  What the last text of this claim leans on, part 27: Kd3, Kc6, Kd4.
-/
import Derived.Test.YtpajdmhgonmgoaaDoorYt19
import Derived.Test.YtpajdmhgonmgoaaDoorYt26
import Derived.Conc.SmallLaws
import Derived.Conc.TokenWalk
import Derived.Conc.Listed
import Derived.Laws.Rows
namespace Go.Proofs.YtpajdmhgonmgoaaDoor
open Go.RowKit
set_option linter.unusedVariables false
open Go.Conc Go.ConcN Go.RowKit Go.Conc.Lib Go.ConcR.Gen Go.ConcN.Gen
open Go.ConcR (KK wgBlock WgAt stA smA rd wr Payload DC0)
set_option linter.unusedSimpArgs false
theorem atRel_c (w0 : World) : AtC (AtRel w0) := fun w d ⟨d0, h⟩ => ⟨d, by rw [h]; rfl⟩
def EqW (a b : World) : Prop := a = b
def boxO (C : Nat) : Obj := .cells #[.pointer (some ⟨C, 0, none⟩)] 61
def chnO : Obj := .chan 10 #[] false 0 0 false
def varO : Obj := .cells #[.chan none] 86
def togO : Obj := .cells #[.int .i64 0] 81
def grpO : Obj := .cells #[.int .u64 0, .int .u32 0] 93
/-- The world where a round's workers are to be started. -/
def roundW (C : Nat) (w : World) : World := (((((w.alloc (boxO C)).alloc chnO).alloc varO).setCell ⟨w.heap.size + 2, 0, none⟩ (.chan (some (w.heap.size + 1)))).alloc togO).alloc grpO
theorem chan_ty : Tryd.prog.underlying 86 = some (.chan .both 3) := by kernel_rfl
theorem int_bytes : (Tryd.prog.info? 3).map (·.bytes) = some 8 := by kernel_rfl
theorem chan_ev (w : World) (es : Array Event) : (Instr.makeChan 86 (.int .i64 10)).events Tryd.prog w es = es := by
  obtain ⟨i, hi, hb⟩ := Option.map_eq_some_iff.1 int_bytes
  exact events_makeChan chan_ty hi .i64 10 (by omega) (by rw [hb]; omega) es
set_option maxRecDepth 100000 in
set_option maxHeartbeats 3200000 in
theorem enter_x {C N nw : Nat} {Shun : Loc → Prop} {w0 : World} (hN0 : w0.heap.size = N) (hC : C < N) (hS : ∀ a, N ≤ a.block → ¬ Shun (.cell a)) {cs : List Frame} :
    Gp Tryd.prog (EvL Shun (N + 4)) (fun g w => AtRel (roundW C w0) w ∧ ∃ x1 x3 x8 x9 x12 x13 x14 x15 x16 x17 x18 x19 x20 x21 x22 x23 x24 x25 x26 x27 x28 x29 x30 x31 x32 x33 x34 x35 x36 x37, g = G ((base 23).at ⟨#[.pointer (some ⟨C, 0, none⟩), x1, .pointer (some ⟨N, 0, none⟩), x3, .bool false, .pointer (some ⟨N + 2, 0, none⟩), .pointer (some ⟨N + 3, 0, none⟩), .pointer (some ⟨N + 4, 0, none⟩), x8, x9, .int .i64 (nw : Int), .int .i64 ((0 : Nat) : Int), x12, x13, x14, x15, x16, x17, x18, x19, x20, x21, x22, x23, x24, x25, x26, x27, x28, x29, x30, x31, x32, x33, x34, x35, x36, x37], []⟩ [.code (cL (cL (cR (cL (cR (cR (cR (cR (bodyOf Tryd.f23))))))))), .inLoop (cL (cL (cR (cL (cR (cR (cR (cR (bodyOf Tryd.f23))))))))), .inBlock 0, .code (cR (cR (cR (cR (cR (bodyOf Tryd.f23))))))]) cs) 60 (G ((base 23).at ⟨#[.pointer (some ⟨C, 0, none⟩), .int .i64 (nw : Int), undef, undef, undef, undef, undef, undef, undef, undef, undef, undef, undef, undef, undef, undef, undef, undef, undef, undef, undef, undef, undef, undef, undef, undef, undef, undef, undef, undef, undef, undef, undef, undef, undef, undef, undef, undef], []⟩ [.code (bodyOf Tryd.f23)]) cs) (AtRel w0) := by
  have hc := atRel_c
  simp only [cO, cL, cR, bodyOf, Tryd.f23, Option.getD_some]
  refine gp_seq (hc _) ?_
  refine gp_region (hc _) ?_
  try simp only [List.size_toArray, List.length_cons, List.length_nil, Nat.reduceAdd, Nat.zero_add, List.range, List.range.loop]
  refine gp_opw (hc _) (F' := AtRel (w0.alloc (boxO C))) rfl rfl (by k_ne) (fun w hF K' hK => ?_)
  obtain ⟨d, rfl⟩ := hF
  have hs : (w0.at d).heap.size = N := hN0
  go_simp
  refine hK _ _ (fun e he => ?_) ⟨d, rfl⟩ ?_
  · clear hK; simp [go_sem] at he
  try simp only [hs]
  clear hK K' hs d
  try walk_nrm
  obtain ⟨w1, hw1⟩ : ∃ w1, EqW w1 (w0.alloc (boxO C)) := ⟨_, rfl⟩
  rw [← show w1 = w0.alloc (boxO C) from hw1]
  have hN1 : w1.heap.size = N + 1 := by rw [show w1 = _ from hw1]; simp [hN0]
  refine gp_opk (hc _) rfl rfl (by k_ne) (fun w hF K' hK => ?_)
  go_simp
  refine hK _ (fun e' he => ?_) ?_
  · (clear hK; simp [go_sem, *] at he)
  clear hK K' hF
  clear w
  refine gp_done (hc _) ?_
  refine gp_seq (hc _) ?_
  refine gp_region (hc _) ?_
  try simp only [List.size_toArray, List.length_cons, List.length_nil, Nat.reduceAdd, Nat.zero_add, List.range, List.range.loop]
  refine gp_opw (hc _) (F' := AtRel (w1.alloc chnO)) rfl rfl (by k_ne) (fun w hF K' hK => ?_)
  obtain ⟨d, rfl⟩ := hF
  have hs : (w1.at d).heap.size = N + 1 := hN1
  go_simp
  refine hK _ _ (fun e he => ?_) ⟨d, rfl⟩ ?_
  · clear hK; simp [go_sem, chan_ev] at he
  try simp only [hs]
  clear hK K' hs d
  try walk_nrm
  obtain ⟨w2, hw2⟩ : ∃ w2, EqW w2 (w1.alloc chnO) := ⟨_, rfl⟩
  rw [← show w2 = w1.alloc chnO from hw2]
  have hN2 : w2.heap.size = N + 2 := by rw [show w2 = _ from hw2]; simp [hN1]
  refine gp_opw (hc _) (F' := AtRel (w2.alloc varO)) rfl rfl (by k_ne) (fun w hF K' hK => ?_)
  obtain ⟨d, rfl⟩ := hF
  have hs : (w2.at d).heap.size = N + 2 := hN2
  go_simp
  refine hK _ _ (fun e he => ?_) ⟨d, rfl⟩ ?_
  · clear hK; simp [go_sem] at he
  try simp only [hs]
  clear hK K' hs d
  try walk_nrm
  obtain ⟨w3, hw3⟩ : ∃ w3, EqW w3 (w2.alloc varO) := ⟨_, rfl⟩
  rw [← show w3 = w2.alloc varO from hw3]
  have hN3 : w3.heap.size = N + 3 := by rw [show w3 = _ from hw3]; simp [hN2]
  have hv3 : w3.heap[N + 2]? = some varO := by rw [show w3 = w2.alloc varO from hw3, ← hN2]; exact heap_alloc_new w2 varO
  have hcl : ∀ d, (w3.at d).cell? ⟨N + 2, 0, none⟩ = some (.chan none) := fun d => cell_of_row w3 (N + 2) 0 _ _ (0, 0) hv3
  have hfr : ∀ d, (w3.at d).frozen? ⟨N + 2, 0, none⟩ = false := fun d => frozen_of_row w3 (N + 2) 0 _ _ hv3
  refine gp_opw (hc _) (F' := AtRel (w3.setCell ⟨N + 2, 0, none⟩ (.chan (some (N + 1))))) rfl rfl (by k_ne) (fun w hF K' hK => ?_)
  obtain ⟨d, rfl⟩ := hF
  have hcl' := hcl d
  have hfr' := hfr d
  go_simp
  refine hK _ _ (fun e he => ?_) ⟨d, rfl⟩ ?_
  · clear hK
    simp [go_sem, *] at he
    subst he
    exact evL_cell _ _ (hS _ (by simp only []; omega)) (by simp only []; omega)
  clear hK K' hcl' hfr' d hcl hfr hv3
  obtain ⟨w4, hw4⟩ : ∃ w4, EqW w4 (w3.setCell ⟨N + 2, 0, none⟩ (.chan (some (N + 1)))) := ⟨w3.setCell ⟨N + 2, 0, none⟩ (.chan (some (N + 1))), rfl⟩
  rw [← show w4 = w3.setCell ⟨N + 2, 0, none⟩ (.chan (some (N + 1))) from hw4]
  have hN4 : w4.heap.size = N + 3 := by rw [show w4 = _ from hw4]; simp [hN3]
  try walk_nrm
  refine gp_done (hc _) ?_
  refine gp_seq (hc _) ?_
  refine gp_region (hc _) ?_
  try simp only [List.size_toArray, List.length_cons, List.length_nil, Nat.reduceAdd, Nat.zero_add, List.range, List.range.loop]
  refine gp_opw (hc _) (F' := AtRel (w4.alloc togO)) rfl rfl (by k_ne) (fun w hF K' hK => ?_)
  obtain ⟨d, rfl⟩ := hF
  have hs : (w4.at d).heap.size = N + 3 := hN4
  go_simp
  refine hK _ _ (fun e he => ?_) ⟨d, rfl⟩ ?_
  · clear hK; simp [go_sem] at he
  try simp only [hs]
  clear hK K' hs d
  try walk_nrm
  obtain ⟨w5, hw5⟩ : ∃ w5, EqW w5 (w4.alloc togO) := ⟨_, rfl⟩
  rw [← show w5 = w4.alloc togO from hw5]
  have hN5 : w5.heap.size = N + 4 := by rw [show w5 = _ from hw5]; simp [hN4]
  refine gp_done (hc _) ?_
  refine gp_seq (hc _) ?_
  refine gp_region (hc _) ?_
  try simp only [List.size_toArray, List.length_cons, List.length_nil, Nat.reduceAdd, Nat.zero_add, List.range, List.range.loop]
  refine gp_opw (hc _) (F' := AtRel (w5.alloc grpO)) rfl rfl (by k_ne) (fun w hF K' hK => ?_)
  obtain ⟨d, rfl⟩ := hF
  have hs : (w5.at d).heap.size = N + 4 := hN5
  go_simp
  refine hK _ _ (fun e he => ?_) ⟨d, rfl⟩ ?_
  · clear hK; simp [go_sem] at he
  try simp only [hs]
  clear hK K' hs d
  try walk_nrm
  obtain ⟨w6, hw6⟩ : ∃ w6, EqW w6 (w5.alloc grpO) := ⟨_, rfl⟩
  rw [← show w6 = w5.alloc grpO from hw6]
  refine gp_done (hc _) ?_
  refine gp_seq (hc _) ?_
  refine gp_seq (hc _) ?_
  refine gp_region (hc _) ?_
  try simp only [List.size_toArray, List.length_cons, List.length_nil, Nat.reduceAdd, Nat.zero_add, List.range, List.range.loop]
  refine gp_opk (hc _) rfl rfl (by k_ne) (fun w hF K' hK => ?_)
  go_simp
  refine hK _ (fun e' he => ?_) ?_
  · (clear hK; simp [go_sem, *] at he)
  clear hK K' hF
  clear w
  refine gp_opk (hc _) rfl rfl (by k_ne) (fun w hF K' hK => ?_)
  go_simp
  refine hK _ (fun e' he => ?_) ?_
  · (clear hK; simp [go_sem, *] at he)
  clear hK K' hF
  clear w
  refine gp_done (hc _) ?_
  refine gp_block (hc _) ?_
  refine gp_loop (hc _) ?_
  refine Gp.stop (hc _) (fun w hF => ?_)
  refine ⟨?_, ?_⟩
  · have e : roundW C w0 = w6 := by
      unfold roundW
      rw [show w6 = _ from hw6, show w5 = _ from hw5, show w4 = _ from hw4, show w3 = _ from hw3, show w2 = _ from hw2, show w1 = _ from hw1, hN0]
    rw [e]; exact hF
  · exact ⟨_, _, _, _, _, _, _, _, _, _, _, _, _, _, _, _, _, _, _, _, _, _, _, _, _, _, _, _, _, _, rfl⟩
end Go.Proofs.YtpajdmhgonmgoaaDoor

namespace Go.Proofs.YtpajdmhgonmgoaaDoor
open Go.RowKit
set_option linter.unusedVariables false
open Go.Conc Go.ConcN Go.RowKit Go.Conc.Lib Go.ConcR.Gen Go.ConcN.Gen
open Go.ConcR (KK wgBlock WgAt stA smA rd wr Payload DC0)
set_option linter.unusedSimpArgs false
section
variable [Payload] {C N n s : Nat} {b : Nat → Nat → Int} {c0 u0 : Nat → Int} {K : Int} {nw L : Nat} {Shun : Loc → Prop} {t : Site}
theorem at_send (e : SiteS t C N n s b c0 u0 K nw L Shun) {p : Nat} {r : List Nat} {u : Value} {g : Goroutine} (hs : g.status = .running) (h : ∀ w, stepG Tryd.prog true g w = .comm g #[scase (N + 1) (vI p) u] true .send w #[]) {m : Nat} (hn : Gw Tryd.prog true t.Fix (EvZ C N) (t.AtSends r) m (Go.Conc.served g undef)) (w : World) : t.AtSends (p :: r) g w :=
  ⟨hs, u, by rw [e.eP, e.ech]; exact h w, m, by rw [finishComm_send]; exact gw_d0 e hn w⟩
theorem at_close (e : SiteS t C N n s b c0 u0 K nw L Shun) {g g' : Goroutine} (hs : g.status = .running) (hm : mayWake Tryd.prog g = true) (hs' : g'.status = .running) (h : ∀ w buf sn rc, w.heap[N + 1]? = some (.chan 10 buf false sn rc false) → stepG Tryd.prog true g w = .go g' (w.setChan (N + 1) 10 buf true sn rc false) (closeEvents (N + 1))) {m : Nat} (hn : Gw Tryd.prog true t.Fix (EvZ C N) t.AtKdW m g') (w : World) : t.AtSends [] g w :=
  ⟨hs, by rw [e.eP]; exact hm, g', hs', fun buf sn rc hc => by rw [e.ech, e.eca] at hc; rw [e.eP, e.ech, e.eca]; exact h w buf sn rc hc, m, gw_d0 e hn w⟩
theorem at_go (e : SiteS t C N n s b c0 u0 K nw L Shun) {j : Nat} {Next : Goroutine → World → Prop} {g g' child : Goroutine} (hs : g.status = .running) (h : ∀ w, stepG Tryd.prog true g w = .spawn g' child w #[]) (hr : child.status = .running) {mc : Nat} (hc : Gw Tryd.prog false t.Fix (EvR C N) (fun g _ => t.Loop g) mc child) (hn : ∀ w, Next g' w) (w : World) : t.AtGo j Next g w :=
  ⟨hs, g', child, by rw [e.eP]; exact h w, hr, ⟨mc, gw_dq e hc w⟩, hn w⟩
def SpS (t : Site) : Nat → Nat → Goroutine → World → Prop
  | 0, _ => t.AtSends t.items
  | r + 1, j => t.AtKdS j (t.Spawns r)
theorem spawns_of (e : SiteS t C N n s b c0 u0 K nw L Shun) {r j : Nat} (h : j + r = nw) {m : Nat} {g : Goroutine} (hn : Gw Tryd.prog true t.Fix (EvZ C N) (SpS t r j) m g) (w : World) : t.Spawns r g w := by
  cases r with
  | zero => exact ⟨m, gw_d0 e hn w⟩
  | succ r =>
    have ej : t.n - (r + 1) = j := by rw [e.en]; omega
    refine ⟨m, ?_⟩
    rw [ej]
    exact gw_d0 e hn w
end
theorem gd_s (n s : Nat) (b : Nat → Nat → Int) : gdF n s b 1 = (s : Int) := rfl
set_option maxRecDepth 100000 in
set_option maxHeartbeats 12800000 in
/-- The starter sends, closes, and comes to its Wait. -/
theorem sends_x [Payload] {C N n s : Nat} {b : Nat → Nat → Int} {c0 u0 : Nat → Int} {K : Int} {nw L : Nat} {Shun : Loc → Prop} {t : Site} (e : SiteS t C N n s b c0 u0 K nw L Shun) {cs : List Frame} (z : SiteZ t N cs) (hn10 : n ≤ 10) : ∀ (m i : Nat), i + m = n → ∀ (x1 x3 x8 x9 x10 x11 x12 x13 x14 x15 x16 x17 x18 x19 x22 x23 x24 x25 x26 x27 x28 x29 x30 x31 x32 x33 x34 x35 x36 x37 : Value), ∃ M, Gw Tryd.prog true t.Fix (EvZ C N) (t.AtSends ((List.range' i m).filter fun p => decide (p ≠ s))) M (G ((base 23).at ⟨#[.pointer (some ⟨C, 0, none⟩), x1, .pointer (some ⟨N, 0, none⟩), x3, .bool false, .pointer (some ⟨N + 2, 0, none⟩), .pointer (some ⟨N + 3, 0, none⟩), .pointer (some ⟨N + 4, 0, none⟩), x8, x9, x10, x11, x12, x13, x14, x15, x16, x17, x18, x19, .int .i64 (n : Int), .int .i64 (i : Int), x22, x23, x24, x25, x26, x27, x28, x29, x30, x31, x32, x33, x34, x35, x36, x37], []⟩ [.code (cL (cL (cR (cL (cR (cR (cR (cR (cR (bodyOf Tryd.f23)))))))))), .inLoop (cL (cL (cR (cL (cR (cR (cR (cR (cR (bodyOf Tryd.f23)))))))))), .inBlock 2, .code (cR (cR (cR (cR (cR (cR (bodyOf Tryd.f23)))))))]) cs) := by
  intro m
  induction m with
  | zero =>
    intro i hi x1 x3 x8 x9 x10 x11 x12 x13 x14 x15 x16 x17 x18 x19 x22 x23 x24 x25 x26 x27 x28 x29 x30 x31 x32 x33 x34 x35 x36 x37
    obtain rfl : i = n := by omega
    have hlt : ¬ ((i : Int) < (i : Int)) := by omega
    refine ⟨60, ?_⟩
    show Gw _ _ _ _ (t.AtSends []) _ _
    simp only [cO, cL, cR, bodyOf, Tryd.f23, Option.getD_some]
    refine gw_seq ?_
    refine gw_region ?_
    try simp only [List.size_toArray, List.length_cons, List.length_nil, Nat.reduceAdd, Nat.zero_add, List.range, List.range.loop]
    refine gw_opk rfl rfl (by k_ne) (fun w hF K' hK => ?_)
    go_simp
    refine hK _ (fun e' he => ?_) ?_
    · (clear hK; simp [go_sem, *] at he)
    clear hK K' hF
    clear w
    try walk_nrm
    refine gw_done ?_
    refine gw_seq ?_
    refine gw_cond false ?_ ?_
    · (first | rfl | (simp [Act.eval, *]; done))
    simp only [if_false, Bool.false_eq_true, ↓reduceIte]
    refine gw_exit rfl ?_
    refine gw_seq ?_
    refine gw_region ?_
    try simp only [List.size_toArray, List.length_cons, List.length_nil, Nat.reduceAdd, Nat.zero_add, List.range, List.range.loop]
    refine gw_opk rfl rfl (by k_ne) (fun w hF K' hK => ?_)
    have hfa0 := fix_var e hF
    go_simp
    refine hK _ (fun e' he => ?_) ?_
    · (clear hK; simp [go_sem, *] at he; subst he; exact Or.inl ⟨_, rfl, Or.inr (Or.inr rfl)⟩)
    clear hK K' hF hfa0
    clear w
    try walk_nrm

    refine Gw.stop (fun w hF => ?_)
    refine at_close (m := 30) e rfl rfl rfl (fun w buf sn rc hc => stepG_close rfl rfl (by k_ne) rfl (by simp [Act.eval]) hc (by simp [base, Tryd.func23, Tryd.f23])) ?_ w
    clear hF w
    walk_nrm
    refine gw_done ?_
    refine gw_seq ?_
    refine gw_region ?_
    try simp only [List.size_toArray, List.length_cons, List.length_nil, Nat.reduceAdd, Nat.zero_add, List.range, List.range.loop]

    refine gw_call rfl rfl (by k_ne) rfl Tryd.func41 rfl rfl ?_
    walk_nrmf Tryd.f41
    have h := wait_x e z (fr := (base 23).at ⟨#[.pointer (some ⟨C, 0, none⟩), x1, .pointer (some ⟨N, 0, none⟩), x3, .bool false, .pointer (some ⟨N + 2, 0, none⟩), .pointer (some ⟨N + 3, 0, none⟩), .pointer (some ⟨N + 4, 0, none⟩), x8, x9, x10, x11, x12, x13, x14, x15, x16, x17, x18, x19, .int .i64 (i : Int), .int .i64 (i : Int), .bool false, x23, x24, x25, x26, x27, x28, x29, x30, x31, x32, x33, .chan (some (N + 1)), x35, x36, x37], []⟩ [.inRegion (cO (cL (cR (cR (cR (cR (cR (cR (cR (bodyOf Tryd.f23)))))))))) [0], .code (cR (cR (cR (cR (cR (cR (cR (cR (bodyOf Tryd.f23)))))))))]) ⟨_, ⟨rfl, rfl⟩, rfl⟩
    simp only [cO, cL, cR, bodyOf, Tryd.f23, Tryd.f41, Option.getD_some] at h
    exact Gw.mono h (by omega)
  | succ m ih =>
    intro i hi x1 x3 x8 x9 x10 x11 x12 x13 x14 x15 x16 x17 x18 x19 x22 x23 x24 x25 x26 x27 x28 x29 x30 x31 x32 x33 x34 x35 x36 x37
    have hlt : (i : Int) < (n : Int) := by omega
    have hwi : IntKind.wrap .i64 ((i : Int) + 1) = (i : Int) + 1 := wrap_fit ⟨by omega, by omega⟩
    have e1 : ((i + 1 : Nat) : Int) = (i : Int) + 1 := rfl
    by_cases his : i = s
    · have hb1 : ((i : Int) == (s : Int)) = true := by simp [his]
      have hb2 : ((i : Int) != (s : Int)) = false := by simp [his]
      have hb3 : decide ((i : Int) = (s : Int)) = true := by simp [his]
      have hfl : (List.range' i (m + 1)).filter (fun p => decide (p ≠ s)) = (List.range' (i + 1) m).filter (fun p => decide (p ≠ s)) := by rw [List.range'_succ, List.filter_cons_of_neg (by simpa using his)]
      obtain ⟨M, hM⟩ := ih (i + 1) (by omega) x1 x3 (.int .i64 (i : Int)) x9 x10 x11 x12 x13 x14 x15 x16 x17 x18 x19 (.bool true) (.int .i64 (i : Int)) (.int .i64 (i : Int)) (.pointer (some ⟨C, 0, none⟩)) (.pointer (some ⟨C, 0, none⟩)) (.pointer (some ⟨C, 0, none⟩)) (.pointer (some ⟨C, 1, none⟩)) (.int .i64 (s : Int)) (.bool false) x31 x32 (.int .i64 ((i : Int) + 1)) x34 x35 x36 x37
      rw [hfl]
      rw [e1] at hM
      clear hfl his e1 ih
      refine ⟨M + 60, ?_⟩
      simp only [cO, cL, cR, bodyOf, Tryd.f23, Option.getD_some] at hM ⊢
      refine gw_seq ?_
      refine gw_region ?_
      try simp only [List.size_toArray, List.length_cons, List.length_nil, Nat.reduceAdd, Nat.zero_add, List.range, List.range.loop]
      refine gw_opk rfl rfl (by k_ne) (fun w hF K' hK => ?_)
      go_simp
      refine hK _ (fun e' he => ?_) ?_
      · (clear hK; simp [go_sem, *] at he)
      clear hK K' hF
      clear w
      try walk_nrm
      refine gw_done ?_
      refine gw_seq ?_
      refine gw_cond true ?_ ?_
      · (first | rfl | (simp [Act.eval, *]; done))
      simp only [if_true, ↓reduceIte]
      refine gw_skip ?_
      refine gw_seq ?_
      refine gw_block ?_
      refine gw_seq ?_
      refine gw_region ?_
      try simp only [List.size_toArray, List.length_cons, List.length_nil, Nat.reduceAdd, Nat.zero_add, List.range, List.range.loop]
      refine gw_opk rfl rfl (by k_ne) (fun w hF K' hK => ?_)
      go_simp
      refine hK _ (fun e' he => ?_) ?_
      · (clear hK; simp [go_sem, *] at he)
      clear hK K' hF
      clear w
      try walk_nrm
      refine gw_opk rfl rfl (by k_ne) (fun w hF K' hK => ?_)
      go_simp
      refine hK _ (fun e' he => ?_) ?_
      · (clear hK; simp [go_sem, *] at he)
      clear hK K' hF
      clear w
      try walk_nrm
      refine gw_done ?_
      refine gw_seq ?_
      refine gw_region ?_
      try simp only [List.size_toArray, List.length_cons, List.length_nil, Nat.reduceAdd, Nat.zero_add, List.range, List.range.loop]
      refine gw_opk rfl rfl (by k_ne) (fun w hF K' hK => ?_)
      go_simp
      refine hK _ (fun e' he => ?_) ?_
      · (clear hK; simp [go_sem, *] at he)
      clear hK K' hF
      clear w
      try walk_nrm
      refine gw_opk rfl rfl (by k_ne) (fun w hF K' hK => ?_)
      have hfa0 := fix_box e hF
      go_simp
      refine hK _ (fun e' he => ?_) ?_
      · (clear hK; simp [go_sem, *] at he; subst he; exact Or.inl ⟨_, rfl, Or.inr (Or.inl rfl)⟩)
      clear hK K' hF hfa0
      clear w
      try walk_nrm
      refine gw_opk rfl rfl (by k_ne) (fun w hF K' hK => ?_)
      go_simp
      refine hK _ (fun e' he => ?_) ?_
      · (clear hK; simp [go_sem, *] at he)
      clear hK K' hF
      clear w
      try walk_nrm
      refine gw_opk rfl rfl (by k_ne) (fun w hF K' hK => ?_)
      go_simp
      refine hK _ (fun e' he => ?_) ?_
      · (clear hK; simp [go_sem, *] at he)
      clear hK K' hF
      clear w
      try walk_nrm
      refine gw_opk rfl rfl (by k_ne) (fun w hF K' hK => ?_)
      go_simp
      refine hK _ (fun e' he => ?_) ?_
      · (clear hK; simp [go_sem, *] at he)
      clear hK K' hF
      clear w
      try walk_nrm
      refine gw_opk rfl rfl (by k_ne) (fun w hF K' hK => ?_)
      have hfa0 := (gd_s n s b ▸ fix_gd e hF (j := 1) (by omega) : w.cell? ⟨C, 1, none⟩ = some (.int .i64 (s : Int)))
      go_simp
      refine hK _ (fun e' he => ?_) ?_
      · (clear hK; simp [go_sem, *] at he; subst he; exact Or.inl ⟨_, rfl, Or.inl ⟨1, by omega, rfl⟩⟩)
      clear hK K' hF hfa0
      clear w
      try walk_nrm
      refine gw_opk rfl rfl (by k_ne) (fun w hF K' hK => ?_)
      go_simp
      refine hK _ (fun e' he => ?_) ?_
      · (clear hK; simp [go_sem, *] at he)
      clear hK K' hF
      clear w
      try walk_nrm
      refine gw_done ?_
      refine gw_cond false ?_ ?_
      · (first | rfl | (simp [Act.eval, *]; done))
      simp only [if_false, Bool.false_eq_true, ↓reduceIte]
      refine gw_skip ?_
      refine gw_inBlock ?_
      refine gw_region ?_
      try simp only [List.size_toArray, List.length_cons, List.length_nil, Nat.reduceAdd, Nat.zero_add, List.range, List.range.loop]
      refine gw_opk rfl rfl (by k_ne) (fun w hF K' hK => ?_)
      go_simp
      refine hK _ (fun e' he => ?_) ?_
      · (clear hK; simp [go_sem, *] at he)
      clear hK K' hF
      clear w
      try walk_nrm
      refine gw_opk rfl rfl (by k_ne) (fun w hF K' hK => ?_)
      go_simp
      refine hK _ (fun e' he => ?_) ?_
      · (clear hK; simp [go_sem, *] at he)
      clear hK K' hF
      clear w
      try walk_nrm
      refine gw_done ?_
      refine gw_inLoop ?_

      exact Gw.mono hM (by omega)
    · have his2 : ¬ ((i : Int) = (s : Int)) := by omega
      have hb1 : ((i : Int) == (s : Int)) = false := by simpa using his2
      have hb2 : ((i : Int) != (s : Int)) = true := by simpa using his2
      have hb3 : decide ((i : Int) = (s : Int)) = false := by simpa using his2
      have hfl : (List.range' i (m + 1)).filter (fun p => decide (p ≠ s)) = i :: (List.range' (i + 1) m).filter (fun p => decide (p ≠ s)) := by rw [List.range'_succ, List.filter_cons_of_pos (by simpa using his)]
      obtain ⟨M, hM⟩ := ih (i + 1) (by omega) x1 x3 (.int .i64 (i : Int)) x9 x10 x11 x12 x13 x14 x15 x16 x17 x18 x19 (.bool true) (.int .i64 (i : Int)) (.int .i64 (i : Int)) (.pointer (some ⟨C, 0, none⟩)) (.pointer (some ⟨C, 0, none⟩)) (.pointer (some ⟨C, 0, none⟩)) (.pointer (some ⟨C, 1, none⟩)) (.int .i64 (s : Int)) (.bool true) (.chan (some (N + 1))) (.int .i64 (i : Int)) (.int .i64 ((i : Int) + 1)) x34 x35 x36 x37
      rw [hfl]
      rw [e1] at hM
      clear hfl his e1 ih
      refine ⟨60, ?_⟩
      simp only [cO, cL, cR, bodyOf, Tryd.f23, Option.getD_some] at hM ⊢
      refine gw_seq ?_
      refine gw_region ?_
      try simp only [List.size_toArray, List.length_cons, List.length_nil, Nat.reduceAdd, Nat.zero_add, List.range, List.range.loop]
      refine gw_opk rfl rfl (by k_ne) (fun w hF K' hK => ?_)
      go_simp
      refine hK _ (fun e' he => ?_) ?_
      · (clear hK; simp [go_sem, *] at he)
      clear hK K' hF
      clear w
      try walk_nrm
      refine gw_done ?_
      refine gw_seq ?_
      refine gw_cond true ?_ ?_
      · (first | rfl | (simp [Act.eval, *]; done))
      simp only [if_true, ↓reduceIte]
      refine gw_skip ?_
      refine gw_seq ?_
      refine gw_block ?_
      refine gw_seq ?_
      refine gw_region ?_
      try simp only [List.size_toArray, List.length_cons, List.length_nil, Nat.reduceAdd, Nat.zero_add, List.range, List.range.loop]
      refine gw_opk rfl rfl (by k_ne) (fun w hF K' hK => ?_)
      go_simp
      refine hK _ (fun e' he => ?_) ?_
      · (clear hK; simp [go_sem, *] at he)
      clear hK K' hF
      clear w
      try walk_nrm
      refine gw_opk rfl rfl (by k_ne) (fun w hF K' hK => ?_)
      go_simp
      refine hK _ (fun e' he => ?_) ?_
      · (clear hK; simp [go_sem, *] at he)
      clear hK K' hF
      clear w
      try walk_nrm
      refine gw_done ?_
      refine gw_seq ?_
      refine gw_region ?_
      try simp only [List.size_toArray, List.length_cons, List.length_nil, Nat.reduceAdd, Nat.zero_add, List.range, List.range.loop]
      refine gw_opk rfl rfl (by k_ne) (fun w hF K' hK => ?_)
      go_simp
      refine hK _ (fun e' he => ?_) ?_
      · (clear hK; simp [go_sem, *] at he)
      clear hK K' hF
      clear w
      try walk_nrm
      refine gw_opk rfl rfl (by k_ne) (fun w hF K' hK => ?_)
      have hfa0 := fix_box e hF
      go_simp
      refine hK _ (fun e' he => ?_) ?_
      · (clear hK; simp [go_sem, *] at he; subst he; exact Or.inl ⟨_, rfl, Or.inr (Or.inl rfl)⟩)
      clear hK K' hF hfa0
      clear w
      try walk_nrm
      refine gw_opk rfl rfl (by k_ne) (fun w hF K' hK => ?_)
      go_simp
      refine hK _ (fun e' he => ?_) ?_
      · (clear hK; simp [go_sem, *] at he)
      clear hK K' hF
      clear w
      try walk_nrm
      refine gw_opk rfl rfl (by k_ne) (fun w hF K' hK => ?_)
      go_simp
      refine hK _ (fun e' he => ?_) ?_
      · (clear hK; simp [go_sem, *] at he)
      clear hK K' hF
      clear w
      try walk_nrm
      refine gw_opk rfl rfl (by k_ne) (fun w hF K' hK => ?_)
      go_simp
      refine hK _ (fun e' he => ?_) ?_
      · (clear hK; simp [go_sem, *] at he)
      clear hK K' hF
      clear w
      try walk_nrm
      refine gw_opk rfl rfl (by k_ne) (fun w hF K' hK => ?_)
      have hfa0 := (gd_s n s b ▸ fix_gd e hF (j := 1) (by omega) : w.cell? ⟨C, 1, none⟩ = some (.int .i64 (s : Int)))
      go_simp
      refine hK _ (fun e' he => ?_) ?_
      · (clear hK; simp [go_sem, *] at he; subst he; exact Or.inl ⟨_, rfl, Or.inl ⟨1, by omega, rfl⟩⟩)
      clear hK K' hF hfa0
      clear w
      try walk_nrm
      refine gw_opk rfl rfl (by k_ne) (fun w hF K' hK => ?_)
      go_simp
      refine hK _ (fun e' he => ?_) ?_
      · (clear hK; simp [go_sem, *] at he)
      clear hK K' hF
      clear w
      try walk_nrm
      refine gw_done ?_
      refine gw_cond true ?_ ?_
      · (first | rfl | (simp [Act.eval, *]; done))
      simp only [if_true, ↓reduceIte]
      refine gw_region ?_
      try simp only [List.size_toArray, List.length_cons, List.length_nil, Nat.reduceAdd, Nat.zero_add, List.range, List.range.loop]
      refine gw_opk rfl rfl (by k_ne) (fun w hF K' hK => ?_)
      have hfa0 := fix_var e hF
      go_simp
      refine hK _ (fun e' he => ?_) ?_
      · (clear hK; simp [go_sem, *] at he; subst he; exact Or.inl ⟨_, rfl, Or.inr (Or.inr rfl)⟩)
      clear hK K' hF hfa0
      clear w
      try walk_nrm
      refine gw_opk rfl rfl (by k_ne) (fun w hF K' hK => ?_)
      go_simp
      refine hK _ (fun e' he => ?_) ?_
      · (clear hK; simp [go_sem, *] at he)
      clear hK K' hF
      clear w
      try walk_nrm

      refine Gw.stop (fun w hF => ?_)
      refine at_send (u := .tuple #[]) (m := M + 20) e rfl (fun w => ?_) ?_ w
      · rw [stepG_comm (cases := #[scase (N + 1) (vI i) (.tuple #[])]) (blocking := true) (shape := .send) (w' := w) rfl rfl (by k_ne) (by simp [execOp, Act.eval, go_sem, scase, vI])]
        rw [listed_none (by simp [execOp, Act.eval, go_sem])]
      clear hF w
      rw [served_G]
      walk_nrm
      refine gw_done ?_
      refine gw_inBlock ?_
      refine gw_region ?_
      try simp only [List.size_toArray, List.length_cons, List.length_nil, Nat.reduceAdd, Nat.zero_add, List.range, List.range.loop]
      refine gw_opk rfl rfl (by k_ne) (fun w hF K' hK => ?_)
      go_simp
      refine hK _ (fun e' he => ?_) ?_
      · (clear hK; simp [go_sem, *] at he)
      clear hK K' hF
      clear w
      try walk_nrm
      refine gw_opk rfl rfl (by k_ne) (fun w hF K' hK => ?_)
      go_simp
      refine hK _ (fun e' he => ?_) ?_
      · (clear hK; simp [go_sem, *] at he)
      clear hK K' hF
      clear w
      try walk_nrm
      refine gw_done ?_
      refine gw_inLoop ?_

      exact Gw.mono hM (by omega)
end Go.Proofs.YtpajdmhgonmgoaaDoor

namespace Go.Proofs.YtpajdmhgonmgoaaDoor
open Go.RowKit
set_option linter.unusedVariables false
open Go.Conc Go.ConcN Go.RowKit
open Go.ConcR (KK wgBlock WgAt stA smA rd wr Payload DC0)
set_option linter.unusedSimpArgs false
section
variable {C : Nat} {w : World}
theorem size_alloc' (w : World) (o : Obj) : (w.alloc o).heap.size = w.heap.size + 1 := by
  show (w.heap.push o).size = _
  simp
theorem hOld (w : World) (o : Obj) (i : Nat) (h : i < w.heap.size) : (w.alloc o).heap[i]? = w.heap[i]? := by
  show (w.heap.push o)[i]? = w.heap[i]?
  rw [Array.getElem?_push, if_neg (Nat.ne_of_lt h)]
theorem hNew (w : World) (o : Obj) : (w.alloc o).heap[w.heap.size]? = some o := by
  show (w.heap.push o)[w.heap.size]? = some o
  simp
theorem hSet (w : World) (a : Addr) (k : Nat) (v : Value) (h : k ≠ a.block) : (w.setCell a v).heap[k]? = w.heap[k]? := by
  simp only [World.setCell, Array.getElem?_modify]
  rw [if_neg (fun e => h e.symm)]
theorem roundW_size : (roundW C w).heap.size = w.heap.size + 5 := by
  unfold roundW
  rw [size_alloc', size_alloc']
  have : ∀ (v : World) a x, (v.setCell a x).heap.size = v.heap.size := fun v a x => by simp
  rw [this, size_alloc', size_alloc', size_alloc']
theorem roundW_sizes : (((((w.alloc (boxO C)).alloc chnO).alloc varO).setCell ⟨w.heap.size + 2, 0, none⟩ (.chan (some (w.heap.size + 1)))).alloc togO).heap.size = w.heap.size + 4 ∧ ((((w.alloc (boxO C)).alloc chnO).alloc varO).setCell ⟨w.heap.size + 2, 0, none⟩ (.chan (some (w.heap.size + 1)))).heap.size = w.heap.size + 3 ∧ (((w.alloc (boxO C)).alloc chnO).alloc varO).heap.size = w.heap.size + 3 ∧ ((w.alloc (boxO C)).alloc chnO).heap.size = w.heap.size + 2 ∧ (w.alloc (boxO C)).heap.size = w.heap.size + 1 := by
  have h1 : (w.alloc (boxO C)).heap.size = w.heap.size + 1 := size_alloc' _ _
  have h2 : ((w.alloc (boxO C)).alloc chnO).heap.size = w.heap.size + 2 := by rw [size_alloc', h1]
  have h3 : (((w.alloc (boxO C)).alloc chnO).alloc varO).heap.size = w.heap.size + 3 := by rw [size_alloc', h2]
  have h4 : ((((w.alloc (boxO C)).alloc chnO).alloc varO).setCell ⟨w.heap.size + 2, 0, none⟩ (.chan (some (w.heap.size + 1)))).heap.size = w.heap.size + 3 := by
    have : ∀ (v : World) a x, (v.setCell a x).heap.size = v.heap.size := fun v a x => by simp
    rw [this, h3]
  exact ⟨by rw [size_alloc', h4], h4, h3, h2, h1⟩
theorem roundW_old {k : Nat} (h : k < w.heap.size) : (roundW C w).heap[k]? = w.heap[k]? := by
  obtain ⟨s4, s3, s3', s2, s1⟩ := roundW_sizes (C := C) (w := w)
  unfold roundW
  rw [hOld _ _ _ (by omega), hOld _ _ _ (by omega), hSet _ _ _ _ (by show k ≠ w.heap.size + 2; omega), hOld _ _ _ (by omega), hOld _ _ _ (by omega), hOld _ _ _ (by omega)]
theorem roundW_box : (roundW C w).heap[w.heap.size]? = some (boxO C) := by
  obtain ⟨s4, s3, s3', s2, s1⟩ := roundW_sizes (C := C) (w := w)
  unfold roundW
  rw [hOld _ _ _ (by omega), hOld _ _ _ (by omega), hSet _ _ _ _ (by show w.heap.size ≠ w.heap.size + 2; omega), hOld _ _ _ (by omega), hOld _ _ _ (by omega)]
  exact hNew _ _
theorem roundW_chn : (roundW C w).heap[w.heap.size + 1]? = some chnO := by
  obtain ⟨s4, s3, s3', s2, s1⟩ := roundW_sizes (C := C) (w := w)
  unfold roundW
  rw [hOld _ _ _ (by omega), hOld _ _ _ (by omega), hSet _ _ _ _ (by show w.heap.size + 1 ≠ w.heap.size + 2; omega), hOld _ _ _ (by omega), ← s1]
  exact hNew _ _
theorem roundW_var : (roundW C w).heap[w.heap.size + 2]? = some (.cells #[.chan (some (w.heap.size + 1))] 86) := by
  obtain ⟨s4, s3, s3', s2, s1⟩ := roundW_sizes (C := C) (w := w)
  unfold roundW
  rw [hOld _ _ _ (by omega), hOld _ _ _ (by omega)]
  have h : (((w.alloc (boxO C)).alloc chnO).alloc varO).heap[w.heap.size + 2]? = some (.cells #[.chan none] 86 (0, 0)) := by rw [← s2]; exact hNew _ _
  exact heap_setCell_same _ _ 0 _ _ _ h
theorem roundW_tog : (roundW C w).heap[w.heap.size + 3]? = some togO := by
  obtain ⟨s4, s3, s3', s2, s1⟩ := roundW_sizes (C := C) (w := w)
  unfold roundW
  rw [hOld _ _ _ (by omega), ← s3]
  exact hNew _ _
theorem roundW_grp : (roundW C w).heap[w.heap.size + 4]? = some grpO := by
  obtain ⟨s4, s3, s3', s2, s1⟩ := roundW_sizes (C := C) (w := w)
  unfold roundW
  rw [← s4]
  exact hNew _ _
end
/-- How a crowd lies. -/
structure CwAt (C n s : Nat) (b : Nat → Nat → Int) (c0 u : Nat → Int) (w : World) : Prop where
  blk : ∃ cs, w.heap[C]? = some (.cells cs 84) ∧ cs.size = 132
  gd : ∀ j, j < 112 → w.cell? ⟨C, j, none⟩ = some (.int .i64 (gdF n s b j))
  cp : ∀ q, q < 10 → ∃ x, w.cell? (cpL C q) = some (.int .i64 x) ∧ (q < n → x = chS n s b c0 u q)
  tp : ∀ q, q < 10 → ∃ x, w.cell? (tpL C q) = some (.int .i64 x) ∧ (q < n → x = u q)
theorem cell_heap {w w' : World} {a : Addr} (h : w'.heap[a.block]? = w.heap[a.block]?) : w'.cell? a = w.cell? a := by
  simp only [World.cell?, h]
section
variable {C n s : Nat} {b : Nat → Nat → Int} {c0 u : Nat → Int} {w w' : World}
theorem CwAt.lt (h : CwAt C n s b c0 u w) : C < w.heap.size := by
  obtain ⟨cs, h1, _⟩ := h.blk
  exact (Array.getElem?_eq_some_iff.1 h1).1
theorem CwAt.on (h : CwAt C n s b c0 u w) (e : w'.heap[C]? = w.heap[C]?) : CwAt C n s b c0 u w' := by
  refine ⟨by rw [e]; exact h.blk, fun j hj => by rw [cell_heap (a := ⟨C, j, none⟩) e]; exact h.gd j hj, fun q hq => by rw [cell_heap (a := cpL C q) e]; exact h.cp q hq, fun q hq => by rw [cell_heap (a := tpL C q) e]; exact h.tp q hq⟩
theorem CwAt.froz (h : CwAt C n s b c0 u w) (j : Nat) : w.frozen? ⟨C, j, none⟩ = false := by
  obtain ⟨cs, h1, _⟩ := h.blk
  exact frozen_of_row w C j cs _ h1
end
/-- What stands outside a round. -/
def KeepR (C N : Nat) (w0 w : World) : Prop := w.os = w0.os ∧ w.tape = w0.tape ∧ w.output = w0.output ∧ w.heap.size = N + 5 ∧ ∀ k, k < N → k ≠ C → w.heap[k]? = w0.heap[k]?
/-- A round's place is there. -/
theorem site_is (C N n s : Nat) (b : Nat → Nat → Int) (c0 u0 : Nat → Int) (K : Int) (nw L : Nat) (Shun : Loc → Prop) (cs : List Frame) (w0 : World) : ∃ t : Site, SiteS t C N n s b c0 u0 K nw L Shun ∧ SiteZ t N cs ∧ t.Keep = KeepR C N w0 :=
  ⟨{ P := Tryd.prog, ty := 93, Wg := N + 4, ch := N + 1, cB := C, csz := 132, cap := 10, z := .int .i64 0, n := nw, L := L, ci := 0, cv := vI n, KnownC := knS C N n s b, IsAt := atS C N, RdC := rdS C N, Sh := fun l => Shun l ∨ (∃ a, l = .cell a ∧ (atS C N a ∨ a.block = N + 4)) ∨ l = .obj (N + 1), cpA := cpL C, plan := plS C (N + 3) n s b, GoodV := fun p v => p < n ∧ p ≠ s ∧ 0 ≤ v ∧ v ≤ 100000, Loop := loopS N,
     Anch := fun g => ∃ T fr, T.size = 84 ∧ T[0]? = some (.pointer (some ⟨N + 4, 0, none⟩)) ∧ IsRdW N fr ∧ g = G ((base 41).at ⟨T, []⟩ [.code (cL (cL (cR (bodyOf Tryd.f41)))), .inLoop (cL (cL (cR (bodyOf Tryd.f41)))), .inBlock 0]) (fr :: cs), Fin := fun g _ => FinZ N cs g, items := itS n s, GI := GIs C (N + 3) n s b c0 u0 (itS n s) K, B := N + 5, Keep := KeepR C N w0 },
   { eP := rfl, ety := rfl, eWg := rfl, ech := rfl, ecB := rfl, ecs := rfl, eca := rfl, ez := rfl, en := rfl, eL := rfl, eci := rfl, ecv := rfl, ekn := rfl, eat := rfl, erd := rfl, esh := rfl, ecp := rfl, epl := rfl, egv := rfl, elo := rfl, eit := rfl, eGI := rfl, eB := rfl, eke := fun w d h => h }, { ean := rfl, efi := rfl }, rfl⟩
/-- What stands fast while a round's crew works, stands at its beginning. -/
theorem fix_start [Payload] (hp : Payload.ety = 84) {C N n s : Nat} {b : Nat → Nat → Int} {c0 u0 : Nat → Int} {K : Int} {nw L : Nat} {Shun : Loc → Prop} {t : Site} (e : SiteS t C N n s b c0 u0 K nw L Shun) {w0 w : World} (ek : t.Keep = KeepR C N w0) (hN : w0.heap.size = N) (hn10 : n ≤ 10) (h : CwAt C n s b c0 u0 w0) (hw : AtRel (roundW C w0) w) : t.Fix w := by
  obtain ⟨d, rfl⟩ := hw
  have hC := h.lt
  have h' : CwAt C n s b c0 u0 ((roundW C w0).at d) := h.on (roundW_old (C := C) (w := w0) hC)
  have b0 : ((roundW C w0).at d).heap[N]? = some (boxO C) := by rw [← hN]; exact roundW_box
  have b1 : ((roundW C w0).at d).heap[N + 1]? = some chnO := by rw [← hN]; exact roundW_chn
  have b2 : ((roundW C w0).at d).heap[N + 2]? = some (.cells #[.chan (some (N + 1))] 86) := by rw [← hN]; exact roundW_var
  have b3 : ((roundW C w0).at d).heap[N + 3]? = some togO := by rw [← hN]; exact roundW_tog
  have b4 : ((roundW C w0).at d).heap[N + 4]? = some grpO := by rw [← hN]; exact roundW_grp
  refine ⟨fun a v hk => ?_, fun a ha => ?_, ?_, ?_, ?_, ?_⟩
  · rw [e.ekn] at hk
    rcases hk with ⟨j, hj, rfl, rfl⟩ | ⟨rfl, rfl⟩ | ⟨rfl, rfl⟩
    · exact h'.gd j hj
    · exact cell_of_row _ N 0 _ _ (0, 0) b0
    · exact cell_of_row _ (N + 2) 0 _ _ (0, 0) b2
  · rw [e.eat] at ha
    rcases ha with ⟨q, hq, rfl⟩ | ⟨q, hq, rfl⟩ | rfl
    · obtain ⟨x, hx, _⟩ := h'.cp q hq
      exact ⟨x, hx, h'.froz _⟩
    · obtain ⟨x, hx, _⟩ := h'.tp q hq
      exact ⟨x, hx, h'.froz _⟩
    · exact ⟨0, cell_of_row _ (N + 3) 0 _ _ (0, 0) b3, frozen_of_row _ (N + 3) 0 _ _ b3⟩
  · rw [e.ech, e.eca]; exact ⟨#[], false, 0, 0, b1⟩
  · rw [e.ety, e.eWg]; exact ⟨0, 0, b4⟩
  · rw [e.ecB, e.ecs]
    unfold PayAt
    rw [hp]
    exact h'.blk
  · rw [ek]
    refine ⟨rfl, rfl, rfl, ?_, fun k hk hkc => ?_⟩
    · show (roundW C w0).heap.size = _
      rw [roundW_size, hN]
    · exact roundW_old (C := C) (w := w0) (by omega)
end Go.Proofs.YtpajdmhgonmgoaaDoor

