/-
  What the last text of this claim leans on, part 44: Kf7, Kfc, Kfd.
-/
import Derived.Test.YtpajdmhgonmgoaaDoorYs43
import Derived.Test.YtpajdmhgonmgoaaDoorYs35
import Derived.Test.YtpajdmhgonmgoaaDoorYs34
namespace Go.Proofs.YtpajdmhgonmgoaaDoor
open Go.RowKit
set_option linter.unusedVariables false
open Go.Conc Go.ConcN Go.RowKit Go.Conc.Lib Go.ConcR.Gen
open Go.ConcR (KK wgBlock WgAt stA smA rd wr Payload DC0)
set_option linter.unusedSimpArgs false
theorem ends_here {P : Program} {b : Frame} {a : Act} {todo : List Item} {fn : Func} {v : Value} {w : World} (hn : b.kind = .normal) (hd : a.defers = []) (hf : P.funcs[b.fn]? = some fn) (hi : P.inits.idxOf? b.fn = none)
    {s : Tmp} (hrs : fn.results = #[.tmp s]) (hv : a.tmps[s]? = some v) : stepG P true (G { b.at a todo with mode := .returning } []) w = .ended (.done v) w #[] := by
  have hr : (results fn a.tmps).run P w = .ok v w := by
    have h := results_tmp hrs a.tmps P w
    have e : a.tmps.getD s undef = v := by simp [hv]
    rw [e] at h
    exact h
  have he : (results fn a.tmps).events P w #[] = #[] := events_results_tmp hrs _ _
  simp [G, stepG, unwind, doReturn, Frame.at, hn, hd, hf, hr, he, hi, seen, GStep.after]
theorem inits4 : Tryd.prog.inits.idxOf? 4 = none := by decide +kernel
theorem funcs4 : (Tryd.prog.funcs[4]?).isSome = true := by rw [Tryd.func4]; rfl
theorem ev_nil (w : World) : (binOp .eql 28 .nilIface .nilIface).events Tryd.prog w #[] = #[] := by
  have h : ∀ (d : Nat) (es : Array Event), (Op.equalIn (d + 1) 28 .nilIface .nilIface).events Tryd.prog w es = es := fun d es => by
    simp [Op.equalIn, run_underlying Tryd.underlying28]
  simp only [binOp]
  simp [Op.equal, Op.maxDepth, h 9999]
theorem row_cell {w : World} {g n : Nat} {f : Nat → Int} (h : RowAt w g n f) {k : Nat} (hk : k < n) : w.cell? ⟨g, k, none⟩ = some (.int .i64 (f k)) := by
  obtain ⟨C, h1, h2⟩ := h
  exact (cell_of_row w g k _ _ _ h1).trans (h2 k hk)
theorem row_ext {w : World} {g n : Nat} {f f' : Nat → Int} (h : RowAt w g n f) (e : ∀ k, k < n → f k = f' k) : RowAt w g n f' := by
  obtain ⟨C, h1, h2⟩ := h
  exact ⟨C, h1, fun k hk => (h2 k hk).trans (by rw [e k hk])⟩
theorem row_on {w w' : World} {g n : Nat} {f : Nat → Int} (h : RowAt w g n f) (e : w'.heap[g]? = w.heap[g]?) : RowAt w' g n f := by
  obtain ⟨C, h1, h2⟩ := h
  exact ⟨C, e.trans h1, h2⟩
theorem row_lt {w : World} {g n : Nat} {f : Nat → Int} (h : RowAt w g n f) : g < w.heap.size := by
  obtain ⟨C, h1, h2⟩ := h
  exact ltS_of_block h1
set_option maxRecDepth 100000 in
set_option maxHeartbeats 12800000 in
theorem law_tail {Shun : Loc → Prop} {B pa pb ga gb qa qb gd n : Nat} {f : Nat → Int} {w0 : World} {ya yb td : Value} {Post : Value → World → Prop} (hn10 : n ≤ 10) (hA : w0.heap[pa]? = some (.cells #[.slice (some ⟨ga, 0, none⟩) n qa, ya] 33 (0, 0))) (hBb : w0.heap[pb]? = some (.cells #[.slice (some ⟨gb, 0, none⟩) n qb, yb] 33 (0, 0)))
    (ra : RowAt w0 ga n f) (rb : RowAt w0 gb n f) (rd' : RowAt w0 gd n f) {td1 : Option Addr} {td2 td3 : Nat} (etd : td = .slice td1 td2 td3)
    (Spa : ∀ a : Addr, a.block = pa → ¬ Shun (.cell a)) (Spb : ∀ a : Addr, a.block = pb → ¬ Shun (.cell a)) (Sga : ∀ a : Addr, a.block = ga → ¬ Shun (.cell a)) (Sgb : ∀ a : Addr, a.block = gb → ¬ Shun (.cell a)) (Sgd : ∀ a : Addr, a.block = gd → ¬ Shun (.cell a)) (Sn : ∀ a : Addr, a.block = w0.heap.size → ¬ Shun (.cell a)) (hB : w0.heap.size < B)
    (hpost : ∀ w' : World, Below w0.heap.size w0 w' → Post (.bool true) w') (x0 x1 x2 x3 x4 x5 x6 x7 x8 x9 x10 x11 x12 x13 x15 x16 x17 x18 x19 x20 x22 x23 x24 x25 x26 x27 x28 x29 x30 x31 x32 x33 x34 x35 x36 x37 x38 x39 x40 x41 x42 x43 x44 x45 x46 x47 x48 x49 x50 x51 x52 x53 x54 x55 x56 x57 x58 x59 x60 x61 x62 x63 x64 x65 x66 x67 x68 x69 x70 x71 x72 x73 x74 x75 x76 x77 x78 x79 x80 x81 x82 x83 x84 x85 x86 x87 x88 x89 x90 x91 x92 x93 x94 x95 x96 x97 x98 x99 x100 x101 x102 x103 x104 x105 x106 x107 x108 x109 x110 x111 x112 x113 x114 x115 x116 x117 x118 x119 x120 x121 x122 x123 x124 x125 x126 x127 x128 x129 x130 x131 x132 x133 x134 x135 x136 x137 x138 x139 x140 x141 x142 x143 x144 x145 x146 x147 x148 x149 x150 x151 x152 x153 x154 x155 x156 x157 x158 x159 x160 x161 x162 x163 x164 x165 x166 x167 x168 x169 x170 x171 x172 x173 x174 x175 x176 x177 x178 x179 x180 x181 x182 x183 x184 x185 x186 x187 x188 x189 x190 x191 x192 x193 : Value) :
    Gp Tryd.prog (EvL Shun B) (AtEnd Tryd.prog Shun B Post) (2000) (G ((base 4).at ((⟨#[x0, x1, x2, x3, x4, x5, x6, x7, x8, x9, x10, x11, x12, x13, (Value.pointer (some ⟨pa, 0, none⟩)), x15, x16, x17, x18, x19, x20, (Value.pointer (some ⟨pb, 0, none⟩)), x22, x23, x24, x25, x26, x27, x28, x29, x30, x31, x32, x33, x34, x35, x36, x37, x38, x39, x40, x41, x42, x43, x44, x45, x46, x47, x48, x49, x50, x51, x52, x53, x54, x55, x56, x57, x58, x59, x60, x61, x62, x63, x64, x65, x66, x67, x68, x69, x70, x71, x72, x73, x74, x75, x76, x77, x78, x79, x80, x81, x82, x83, x84, x85, x86, x87, x88, x89, x90, x91, x92, x93, x94, x95, x96, x97, x98, x99, x100, x101, x102, x103, x104, x105, x106, x107, x108, x109, x110, x111, x112, x113, x114, x115, x116, x117, x118, x119, x120, x121, x122, x123, x124, x125, x126, x127, x128, x129, x130, x131, x132, x133, x134, x135, x136, x137, x138, x139, x140, x141, x142, x143, x144, x145, x146, x147, x148, x149, x150, x151, x152, x153, x154, x155, x156, x157, x158, x159, x160, x161, x162, x163, x164, x165, x166, x167, x168, x169, x170, x171, x172, x173, x174, x175, x176, x177, x178, x179, x180, x181, x182, x183, x184, x185, x186, x187, x188, x189, x190, x191, x192, x193], []⟩ : Act).put ((((cO (cL (cR (cR (cR (cR (cR (cR (cR (cR (cR (cR (cR (cR (cR (bodyOf Tryd.f4)))))))))))))))) : Array Oper)[8]?).bind (·.dst)) (.tuple #[.agg #[.slice (some ⟨gd, 0, none⟩) n n, td], Value.nilIface])) (.inRegion (cO (cL (cR (cR (cR (cR (cR (cR (cR (cR (cR (cR (cR (cR (cR (bodyOf Tryd.f4)))))))))))))))) [9, 10, 11, 12, 13, 14] :: [.code (cR (cR (cR (cR (cR (cR (cR (cR (cR (cR (cR (cR (cR (cR (bodyOf Tryd.f4)))))))))))))))])) []) (AtRel w0) := by
  have hc := atRel_c
  subst etd
  simp only [cO, cL, cR, bodyOf, Tryd.f4, Option.getD_some]
  walk_nrm
  refine gp_opk (hc _) rfl rfl (by k_ne) (fun w hF K' hK => ?_)
  go_simp
  with_reducible refine hK _ (fun e' he => ?_) ?_
  · (clear hK; simp [go_sem] at he)
  clear hK K' hF
  clear w
  try walk_nrm
  refine gp_opk (hc _) rfl rfl (by k_ne) (fun w hF K' hK => ?_)
  go_simp
  with_reducible refine hK _ (fun e' he => ?_) ?_
  · (clear hK; simp [go_sem] at he)
  clear hK K' hF
  clear w
  try walk_nrm
  refine gp_opk (hc _) rfl rfl (by k_ne) (fun w hF K' hK => ?_)
  go_simp
  with_reducible refine hK _ (fun e' he => ?_) ?_
  · (clear hK; simp [go_sem] at he)
  clear hK K' hF
  clear w
  try walk_nrm
  obtain ⟨w1, hw1⟩ : ∃ w1, w1 = w0.alloc (.cells #[.slice none 0 0, .slice none 0 0] 33) := ⟨_, rfl⟩
  refine gp_valw (F' := AtRel w1) (hc _) rfl rfl (by k_ne) (.pointer (some ⟨w0.heap.size, 0, none⟩)) (fun w hF => ?_) ?_
  · obtain ⟨d, rfl⟩ := hF
    refine ⟨w1.at d, Or.inl ?_, fun e he => ?_, ⟨d, rfl⟩⟩
    · rw [hw1]; exact (al_run (w := w0.at d) rfl).1
    · rw [(al_run (w := w0.at d) rfl).2] at he
      simp at he
  walk_nrm
  have n1 : w1.heap[w0.heap.size]? = some (.cells #[.slice none 0 0, .slice none 0 0] 33 (0, 0)) := by rw [hw1]; exact heap_alloc_new _ _
  obtain ⟨w2, hw2⟩ : ∃ w2, w2 = (w1.setCell ⟨w0.heap.size, 0, none⟩ (.slice (some ⟨gd, 0, none⟩) n n)).setCell ⟨w0.heap.size, 1, none⟩ (.slice td1 td2 td3) := ⟨_, rfl⟩
  refine gp_valw (F' := AtRel w2) (hc _) rfl rfl (by k_ne) undef (fun w hF => ?_) ?_
  · obtain ⟨d, rfl⟩ := hF
    refine ⟨w2.at d, Or.inr ⟨?_, rfl⟩, fun e he => ?_, ⟨d, rfl⟩⟩
    · rw [(st_run (w := w1.at d) (g := w0.heap.size) (a1 := some ⟨gd, 0, none⟩) (n1 := n) (m1 := n) (a2 := td1) (n2 := td2) (m2 := td3) n1 (by simp) (by simp) rfl).1, hw2]
      rfl
    · rw [(st_run (w := w1.at d) (g := w0.heap.size) (a1 := some ⟨gd, 0, none⟩) (n1 := n) (m1 := n) (a2 := td1) (n2 := td2) (m2 := td3) n1 (by simp) (by simp) rfl).2] at he
      exact mem_two he (evL_cell _ _ (Sn _ rfl) hB) (evL_cell _ _ (Sn _ rfl) hB)
  walk_nrm
  refine gp_opk (hc _) rfl rfl (by k_ne) (fun w hF K' hK => ?_)
  go_simp
  with_reducible refine hK _ (fun e' he => ?_) ?_
  · (clear hK; simp [go_sem] at he)
  clear hK K' hF
  clear w
  try walk_nrm
  refine gp_done (hc _) ?_
  have e2 : ∀ k, k < w0.heap.size → w2.heap[k]? = w0.heap[k]? := fun k hk => by rw [hw2, hSet _ _ _ _ (by show k ≠ w0.heap.size; omega), hSet _ _ _ _ (by show k ≠ w0.heap.size; omega), hw1, hOld _ _ _ hk]
  have eo : w2.os = w0.os ∧ w2.tape = w0.tape ∧ w2.output = w0.output ∧ w0.heap.size ≤ w2.heap.size := by
    rw [hw2, hw1]; exact ⟨rfl, rfl, rfl, by simp⟩
  have lpa := ltS_of_block hA
  have lpb := ltS_of_block hBb
  have lga := row_lt ra
  have lgb := row_lt rb
  have lgd := row_lt rd'
  have cA : w2.cell? ⟨pa, 0, none⟩ = some (.slice (some ⟨ga, 0, none⟩) n qa) := (cell_heap (a := ⟨pa, 0, none⟩) (e2 pa lpa)).trans (set2 (x := undef) (y := undef) hA).1
  have cB : w2.cell? ⟨pb, 0, none⟩ = some (.slice (some ⟨gb, 0, none⟩) n qb) := (cell_heap (a := ⟨pb, 0, none⟩) (e2 pb lpb)).trans (set2 (x := undef) (y := undef) hBb).1
  have cN : w2.cell? ⟨w0.heap.size, 0, none⟩ = some (.slice (some ⟨gd, 0, none⟩) n n) := by
    rw [hw2]
    have k1 := heap_setCell_same w1 w0.heap.size 0 _ _ (.slice (some ⟨gd, 0, none⟩) n n) n1
    have k2 := heap_setCell_same _ w0.heap.size 1 _ _ (.slice td1 td2 td3) k1
    exact cell_of_row _ _ 0 _ _ _ k2
  have ra2 := row_on ra (e2 ga lga)
  have rb2 := row_on rb (e2 gb lgb)
  have rd2 := row_on rd' (e2 gd lgd)
  clear hw1 hw2 n1 hA hBb ra rb rd'
  clear w1
  refine gp_seq (hc _) ?_
  refine gp_region (hc _) ?_
  try simp only [List.size_toArray, List.length_cons, List.length_nil, Nat.reduceAdd, Nat.zero_add, List.range, List.range.loop]
  refine gp_opk (hc _) rfl rfl (by k_ne) (fun w hF K' hK => ?_)
  go_simp
  with_reducible refine hK _ (fun e' he => ?_) ?_
  · (clear hK; simp [go_sem] at he)
  clear hK K' hF
  clear w
  try walk_nrm
  have hld : ∀ d, (w2.at d).cell? ⟨pa, 0, none⟩ = some (.slice (some ⟨ga, 0, none⟩) n qa) := fun d => cA
  refine gp_valw (F' := AtRel w2) (hc _) rfl rfl (by k_ne) (.slice (some ⟨ga, 0, none⟩) n qa) (fun w hF => ⟨w, Or.inl ?_, fun e he => ?_, hF⟩) ?_
  · obtain ⟨d, rfl⟩ := hF
    simp [execOp, Act.eval, go_sem, hld d]
    try rfl
  · obtain ⟨d, rfl⟩ := hF
    simp [execOp, Act.eval, go_sem, hld d] at he
    subst he
    exact evL_cell _ _ (Spa _ rfl) (by show pa < B; omega)
  clear hld
  try walk_nrm
  refine gp_opk (hc _) rfl rfl (by k_ne) (fun w hF K' hK => ?_)
  go_simp
  with_reducible refine hK _ (fun e' he => ?_) ?_
  · (clear hK; simp [go_sem] at he)
  clear hK K' hF
  clear w
  try walk_nrm
  have hld : ∀ d, (w2.at d).cell? ⟨pb, 0, none⟩ = some (.slice (some ⟨gb, 0, none⟩) n qb) := fun d => cB
  refine gp_valw (F' := AtRel w2) (hc _) rfl rfl (by k_ne) (.slice (some ⟨gb, 0, none⟩) n qb) (fun w hF => ⟨w, Or.inl ?_, fun e he => ?_, hF⟩) ?_
  · obtain ⟨d, rfl⟩ := hF
    simp [execOp, Act.eval, go_sem, hld d]
    try rfl
  · obtain ⟨d, rfl⟩ := hF
    simp [execOp, Act.eval, go_sem, hld d] at he
    subst he
    exact evL_cell _ _ (Spb _ rfl) (by show pb < B; omega)
  clear hld
  try walk_nrm
  refine Gp.mono (n := 80 * n + 80 + 1000 + 1) ?_ (by omega)
  refine gp_call (hc _) rfl rfl (by k_ne) rfl Tryd.func12 rfl rfl ?_
  walk_nrmf Tryd.f12
  refine gp_then (m := 1000) (ints_x (g1 := ga) (g2 := gb) (n := n) (q1 := qa) (q2 := qb) (f := f) (w1 := w2) ?_ hn10 (fun i => Sga _ rfl) (fun i => Sgb _ rfl) (by omega) (by omega) (fun i hi => row_cell ra2 hi) (fun i hi => row_cell rb2 hi)) ?_
  · simp only [bodyOf, Tryd.f12, Option.getD_some]
  rintro g w ⟨hw, rfl⟩
  refine Gp.weak (F' := AtRel w2) ?_ (fun w' hF => atRel_trans _ _ _ hw hF)
  clear hw w
  walk_nrm
  refine gp_opk (hc _) rfl rfl (by k_ne) (fun w hF K' hK => ?_)
  go_simp
  with_reducible refine hK _ (fun e' he => ?_) ?_
  · (clear hK; simp [go_sem] at he)
  clear hK K' hF
  clear w
  try walk_nrm
  refine gp_done (hc _) ?_
  refine gp_seq (hc _) ?_
  refine gp_region (hc _) ?_
  try simp only [List.size_toArray, List.length_cons, List.length_nil, Nat.reduceAdd, Nat.zero_add, List.range, List.range.loop]
  refine gp_opk (hc _) rfl rfl (by k_ne) (fun w hF K' hK => ?_)
  go_simp
  with_reducible refine hK _ (fun e' he => ?_) ?_
  · (clear hK; simp [go_sem] at he)
  clear hK K' hF
  clear w
  try walk_nrm
  have hld : ∀ d, (w2.at d).cell? ⟨pa, 0, none⟩ = some (.slice (some ⟨ga, 0, none⟩) n qa) := fun d => cA
  refine gp_valw (F' := AtRel w2) (hc _) rfl rfl (by k_ne) (.slice (some ⟨ga, 0, none⟩) n qa) (fun w hF => ⟨w, Or.inl ?_, fun e he => ?_, hF⟩) ?_
  · obtain ⟨d, rfl⟩ := hF
    simp [execOp, Act.eval, go_sem, hld d]
    try rfl
  · obtain ⟨d, rfl⟩ := hF
    simp [execOp, Act.eval, go_sem, hld d] at he
    subst he
    exact evL_cell _ _ (Spa _ rfl) (by show pa < B; omega)
  clear hld
  try walk_nrm
  refine gp_opk (hc _) rfl rfl (by k_ne) (fun w hF K' hK => ?_)
  go_simp
  with_reducible refine hK _ (fun e' he => ?_) ?_
  · (clear hK; simp [go_sem] at he)
  clear hK K' hF
  clear w
  try walk_nrm
  have hld : ∀ d, (w2.at d).cell? ⟨w0.heap.size, 0, none⟩ = some (.slice (some ⟨gd, 0, none⟩) n n) := fun d => cN
  refine gp_valw (F' := AtRel w2) (hc _) rfl rfl (by k_ne) (.slice (some ⟨gd, 0, none⟩) n n) (fun w hF => ⟨w, Or.inl ?_, fun e he => ?_, hF⟩) ?_
  · obtain ⟨d, rfl⟩ := hF
    simp [execOp, Act.eval, go_sem, hld d]
    try rfl
  · obtain ⟨d, rfl⟩ := hF
    simp [execOp, Act.eval, go_sem, hld d] at he
    subst he
    exact evL_cell _ _ (Sn _ rfl) hB
  clear hld
  try walk_nrm
  refine Gp.mono (n := 80 * n + 80 + 30 + 1) ?_ (by omega)
  refine gp_call (hc _) rfl rfl (by k_ne) rfl Tryd.func12 rfl rfl ?_
  walk_nrmf Tryd.f12
  refine gp_then (m := 30) (ints_x (g1 := ga) (g2 := gd) (n := n) (q1 := qa) (q2 := n) (f := f) (w1 := w2) ?_ hn10 (fun i => Sga _ rfl) (fun i => Sgd _ rfl) (by omega) (by omega) (fun i hi => row_cell ra2 hi) (fun i hi => row_cell rd2 hi)) ?_
  · simp only [bodyOf, Tryd.f12, Option.getD_some]
  rintro g w ⟨hw, rfl⟩
  refine Gp.weak (F' := AtRel w2) ?_ (fun w' hF => atRel_trans _ _ _ hw hF)
  clear hw w
  walk_nrm
  refine gp_opk (hc _) rfl rfl (by k_ne) (fun w hF K' hK => ?_)
  go_simp
  with_reducible refine hK _ (fun e' he => ?_) ?_
  · (clear hK; simp [go_sem] at he)
  clear hK K' hF
  clear w
  try walk_nrm
  refine gp_done (hc _) ?_
  refine gp_seq (hc _) ?_
  refine gp_region (hc _) ?_
  try simp only [List.size_toArray, List.length_cons, List.length_nil, Nat.reduceAdd, Nat.zero_add, List.range, List.range.loop]
  refine gp_opk (hc _) rfl rfl (by k_ne) (fun w hF K' hK => ?_)
  go_simp
  with_reducible refine hK _ (fun e' he => ?_) ?_
  · (clear hK; simp [go_sem, ev_nil] at he)
  clear hK K' hF
  clear w
  try walk_nrm
  refine gp_opk (hc _) rfl rfl (by k_ne) (fun w hF K' hK => ?_)
  go_simp
  with_reducible refine hK _ (fun e' he => ?_) ?_
  · (clear hK; simp [go_sem, ev_nil] at he)
  clear hK K' hF
  clear w
  try walk_nrm
  refine gp_opk (hc _) rfl rfl (by k_ne) (fun w hF K' hK => ?_)
  go_simp
  with_reducible refine hK _ (fun e' he => ?_) ?_
  · (clear hK; simp [go_sem, ev_nil] at he)
  clear hK K' hF
  clear w
  try walk_nrm
  refine gp_opk (hc _) rfl rfl (by k_ne) (fun w hF K' hK => ?_)
  go_simp
  with_reducible refine hK _ (fun e' he => ?_) ?_
  · (clear hK; simp [go_sem, ev_nil] at he)
  clear hK K' hF
  clear w
  try walk_nrm
  refine gp_opk (hc _) rfl rfl (by k_ne) (fun w hF K' hK => ?_)
  go_simp
  with_reducible refine hK _ (fun e' he => ?_) ?_
  · (clear hK; simp [go_sem, ev_nil] at he)
  clear hK K' hF
  clear w
  try walk_nrm
  refine gp_opk (hc _) rfl rfl (by k_ne) (fun w hF K' hK => ?_)
  go_simp
  with_reducible refine hK _ (fun e' he => ?_) ?_
  · (clear hK; simp [go_sem, ev_nil] at he)
  clear hK K' hF
  clear w
  try walk_nrm
  refine gp_opk (hc _) rfl rfl (by k_ne) (fun w hF K' hK => ?_)
  go_simp
  with_reducible refine hK _ (fun e' he => ?_) ?_
  · (clear hK; simp [go_sem, ev_nil] at he)
  clear hK K' hF
  clear w
  try walk_nrm
  refine gp_opk (hc _) rfl rfl (by k_ne) (fun w hF K' hK => ?_)
  go_simp
  with_reducible refine hK _ (fun e' he => ?_) ?_
  · (clear hK; simp [go_sem, ev_nil] at he)
  clear hK K' hF
  clear w
  try walk_nrm
  refine gp_opk (hc _) rfl rfl (by k_ne) (fun w hF K' hK => ?_)
  go_simp
  with_reducible refine hK _ (fun e' he => ?_) ?_
  · (clear hK; simp [go_sem, ev_nil] at he)
  clear hK K' hF
  clear w
  try walk_nrm
  refine gp_done (hc _) ?_
  refine gp_ret (hc _) ?_
  refine Gp.stop (hc _) (fun w hF => ⟨rfl, .bool true, #[], ?_, fun e he => by simp at he, ?_⟩)
  · exact ends_here rfl rfl Tryd.func4 inits4 rfl rfl
  · obtain ⟨d3, rfl⟩ := hF
    exact hpost _ ⟨eo.1, eo.2.1, eo.2.2.1, eo.2.2.2, e2⟩
end Go.Proofs.YtpajdmhgonmgoaaDoor

namespace Go.Proofs.YtpajdmhgonmgoaaDoor
open Go.RowKit
set_option linter.unusedVariables false
open Go.Conc Go.ConcN Go.RowKit
set_option linter.unusedSimpArgs false
theorem reach_nrm {P : Program} {S : FuncId → Bool} (M : Mild P S) {b : Frame} (hk : b.kind ≠ .early) (hb : (P.funcs[b.fn]?).isSome = true) (hi : P.inits.idxOf? b.fn = none) {c d : Code} {a : Act} {w : World} {k : List Item} {cs : List Frame} {T : Machine → Trace → Prop}
    (hc : tameC S c = true) (hd : a.defers = []) (h : c.wp P (nrmQ fun a' w' => Reach P (G (b.at a' (.code d :: k)) cs) w' T) a w) : Reach P (G (b.at a (.code (.seq c d) :: k)) cs) w T := by
  refine Reach.ctl rfl stepG_seq ?_
  have key := arr_of_wp M hk hb hi hc hd h (Q' := fun a' w' => Reach P (G (b.at a' (.code d :: k)) cs) w' T) (fun e a' w' q => by
    cases e <;> first | exact ⟨rfl, q⟩ | exact q.elim) (.code d :: k) cs
  intro tr hp
  obtain ⟨N, a', w', tr', hq, hsz, hr, hp'⟩ := key tr hp
  obtain ⟨N2, m2, tr2, h1, h2⟩ := hq tr' hp'
  refine ⟨N + N2, m2, tr2, ?_, h2⟩
  have hr' : runNT P N (solo (G (b.at a (.code c :: .code d :: k)) cs) w) tr = (.next (solo (G (b.at a' (.code d :: k)) cs) w'), tr') := hr
  rw [runNT_then hr']
  exact h1
end Go.Proofs.YtpajdmhgonmgoaaDoor

namespace Go.Proofs.YtpajdmhgonmgoaaDoor
set_option linter.unusedVariables false
def xs2 : List EgT := [⟨0, 1, 2⟩]
def cl2 : List Int := [0, 5]
theorem good2 : GoodC 2 0 xs2 cl2 := by
  refine ⟨⟨by omega, by omega, by decide, fun j hj => ?_, ?_⟩, by omega, rfl, fun k hk => ?_, rfl⟩
  · have : j = 0 := by
      have : xs2.length = 1 := rfl
      omega
    subst this
    show ¬ badE (2 : Int) ⟨0, 1, 2⟩
    unfold badE
    simp only []
    omega
  · unfold allR; decide
  · have : k = 0 ∨ k = 1 := by omega
    rcases this with rfl | rfl <;> decide
theorem bt2 : btX xs2 1 0 = 2 ∧ btX xs2 1 1 = 0 := by decide
theorem two_facts {u : Nat → Int} (h : PlS 2 0 (btX xs2) (chF cl2) u) (hs : stillS 2 0 (btX xs2) (chF cl2) u) : u 1 = 2 ∧ chS 2 0 (btX xs2) (chF cl2) u 1 = 1 := by
  have z := h.zero
  have a := h.has 1 (by omega) (by omega)
  have b := hs 1 (by omega) (by omega)
  have e : lapS 2 (btX xs2) u 1 = 2 * u 1 := by
    unfold lapS
    simp only [smS, bt2.1, bt2.2]
    omega
  have d : smS 2 (btX xs2 1) = 2 := by decide
  have c : chF cl2 1 = 5 := rfl
  rw [e, c] at a b
  rw [d] at b
  refine ⟨by omega, ?_⟩
  unfold chS
  rw [if_neg (by omega), e, c]
  omega
end Go.Proofs.YtpajdmhgonmgoaaDoor

