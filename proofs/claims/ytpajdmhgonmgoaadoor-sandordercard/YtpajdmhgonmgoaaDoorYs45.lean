/-
  What the last text of this claim leans on, part 45: Kfe, Kff, Kfg.
-/
import Derived.Test.YtpajdmhgonmgoaaDoorYs44
namespace Go.Proofs.YtpajdmhgonmgoaaDoor
open Go.RowKit
set_option linter.unusedVariables false
open Go.Conc Go.ConcN Go.RowKit
set_option linter.unusedSimpArgs false
set_option maxRecDepth 100000 in
set_option maxHeartbeats 12800000 in
/-- From the law's call to where its graph of two places has been tried. -/
theorem law_first {P s wk : Int} {en ec cn cc on oc : Nat} {xs : List EgT} {cl os : List Int} {ea ca oa : Option Addr} {w : World} (hE : ArgE w xs ea en ec) (hC : ArgP w cl ca cn cc) (hO : ArgP w os oa on oc) (hoc : on ≤ oc) (hcap : oc ≤ 9223372036854775807) {T : Machine → Trace → Prop}
    (hN : ∀ (x6 x7 x8 x9 x11 x12 x13 x14 x15 x16 x17 x18 x19 x20 x21 x22 x23 x24 x25 x26 x27 x28 x29 x30 x31 x32 x33 x34 x35 x36 x37 x38 x39 x40 x41 x42 x43 x44 x45 x46 x47 x48 x49 x50 x51 x52 x53 x54 x55 x56 x57 x58 x59 x60 x61 x62 x63 x64 x65 x66 x67 x68 x69 x70 x71 x72 x73 x74 x75 x76 x77 x78 x79 x80 x81 x82 x83 x84 x85 x86 x87 x88 x89 x90 x91 x92 x93 x94 x95 x96 x97 x98 x99 x100 x101 x102 x103 x104 x105 x106 x107 x108 x109 x110 x111 x112 x113 x114 x115 x116 x117 x118 x119 x120 x121 x122 x123 x124 x125 x126 x127 x128 x129 x130 x131 x132 x133 x134 x135 x136 x137 x138 x139 x140 x141 x142 x143 x144 x145 x146 x147 x148 x149 x150 x151 x152 x153 x154 x155 x156 x157 x158 x159 x160 x161 x162 x163 x164 x165 x166 x167 x168 x169 x170 x171 x172 x173 x174 x175 x176 x177 x178 x179 x180 x181 x182 x183 x184 x185 x186 x187 x188 x189 x190 x191 x192 x193 : Value) (V : World), Below w.heap.size w V → w.heap.size < V.heap.size → V.heap[w.heap.size]? = some (.cells #[.int .i64 P, .slice ea en ec] 24 (0, 0)) → Reach Tryd.prog (G ((base 4).at ⟨#[(.agg #[.int .i64 P, .slice ea en ec]), (.int .i64 s), (.slice ca cn cc), (.slice oa on oc), (.int .i64 wk), (.pointer (some ⟨w.heap.size, 0, none⟩)), x6, x7, x8, x9, (.bool false), x11, x12, x13, x14, x15, x16, x17, x18, x19, x20, x21, x22, x23, x24, x25, x26, x27, x28, x29, x30, x31, x32, x33, x34, x35, x36, x37, x38, x39, x40, x41, x42, x43, x44, x45, x46, x47, x48, x49, x50, x51, x52, x53, x54, x55, x56, x57, x58, x59, x60, x61, x62, x63, x64, x65, x66, x67, x68, x69, x70, x71, x72, x73, x74, x75, x76, x77, x78, x79, x80, x81, x82, x83, x84, x85, x86, x87, x88, x89, x90, x91, x92, x93, x94, x95, x96, x97, x98, x99, x100, x101, x102, x103, x104, x105, x106, x107, x108, x109, x110, x111, x112, x113, x114, x115, x116, x117, x118, x119, x120, x121, x122, x123, x124, x125, x126, x127, x128, x129, x130, x131, x132, x133, x134, x135, x136, x137, x138, x139, x140, x141, x142, x143, x144, x145, x146, x147, x148, x149, x150, x151, x152, x153, x154, x155, x156, x157, x158, x159, x160, x161, x162, x163, x164, x165, x166, x167, x168, x169, x170, x171, x172, x173, x174, x175, x176, x177, x178, x179, x180, x181, x182, x183, x184, x185, x186, x187, x188, x189, x190, x191, x192, x193], []⟩ [.code (cR (cR (cR (cR (bodyOf Tryd.f4)))))]) []) V T) :
    Reach Tryd.prog (G ((base 4).at ⟨#[.agg #[.int .i64 P, .slice ea en ec], .int .i64 s, .slice ca cn cc, .slice oa on oc, .int .i64 wk, undef, undef, undef, undef, undef, undef, undef, undef, undef, undef, undef, undef, undef, undef, undef, undef, undef, undef, undef, undef, undef, undef, undef, undef, undef, undef, undef, undef, undef, undef, undef, undef, undef, undef, undef, undef, undef, undef, undef, undef, undef, undef, undef, undef, undef, undef, undef, undef, undef, undef, undef, undef, undef, undef, undef, undef, undef, undef, undef, undef, undef, undef, undef, undef, undef, undef, undef, undef, undef, undef, undef, undef, undef, undef, undef, undef, undef, undef, undef, undef, undef, undef, undef, undef, undef, undef, undef, undef, undef, undef, undef, undef, undef, undef, undef, undef, undef, undef, undef, undef, undef, undef, undef, undef, undef, undef, undef, undef, undef, undef, undef, undef, undef, undef, undef, undef, undef, undef, undef, undef, undef, undef, undef, undef, undef, undef, undef, undef, undef, undef, undef, undef, undef, undef, undef, undef, undef, undef, undef, undef, undef, undef, undef, undef, undef, undef, undef, undef, undef, undef, undef, undef, undef, undef, undef, undef, undef, undef, undef, undef, undef, undef, undef, undef, undef, undef, undef, undef, undef, undef, undef, undef, undef, undef, undef, undef, undef, undef, undef, undef, undef, undef, undef, undef, undef, undef, undef, undef, undef], []⟩ [.code (bodyOf Tryd.f4)]) []) w T := by
  obtain ⟨w1, hw1⟩ : ∃ w1, w.alloc (.cells #[.int .i64 P, .slice ea en ec] 24) = w1 := ⟨_, rfl⟩
  have HW1 := hide' hw1
  have B1 := hide' (show Below w.heap.size w w1 by rw [← hw1]; exact (Below.refl _ _).alloc (Nat.le_refl _) _)
  have R1 := hide' (show w1.heap[w.heap.size]? = some (.cells #[.int .i64 P, .slice ea en ec] 24 (0, 0)) by rw [← hw1]; exact heap_alloc_new _ _)
  obtain ⟨gx, hgx⟩ : ∃ gx, w.heap.size = gx := ⟨_, rfl⟩
  have HGX := hide' hgx
  have HE := hide' (fun (V : World) (h : Below w.heap.size w V) => hE.below h)
  have HC := hide' (fun (V : World) (h : Below w.heap.size w V) => hC.below h)
  have HO := hide' (fun (V : World) (h : Below w.heap.size w V) => hO.below h)
  have HN := hide' hN
  clear hw1 hE hC hO hN
  simp only [cR, bodyOf, Tryd.f4, Option.getD_some] at HN
  simp only [bodyOf, Tryd.f4, Option.getD_some]
  refine reach_nrm sand_mild (by k_ne) funcs4 inits4 (by decide +kernel) rfl ?_
  go_wp2
  rw [HW1.out]
  show Reach _ _ _ _
  refine reach_nrm sand_mild (by k_ne) funcs4 inits4 (by decide +kernel) rfl ?_
  go_wp2
  obtain ⟨e0, he0⟩ : ∃ e0, w1.heap.size = e0 := ⟨_, rfl⟩
  obtain ⟨w2, hw2⟩ : ∃ w2, w1.alloc (.cells #[.int .i64 0, .int .i64 1, .int .i64 2] 46) = w2 := ⟨_, rfl⟩
  obtain ⟨w3, hw3⟩ : ∃ w3, w2.alloc (.cells #[.int .i64 2, .slice (some ⟨e0, 0, none⟩) 1 1] 24) = w3 := ⟨_, rfl⟩
  rw [he0, hw2, hw3]
  have z2 : w2.heap.size = e0 + 1 := by rw [← hw2, size_alloc', he0]
  have z3 : w3.heap.size = e0 + 2 := by rw [← hw3, size_alloc', z2]
  have l0 : gx < e0 := by rw [← hgx, ← he0]; exact ltS_of_block R1.out
  have B3 := hide' (show Below w.heap.size w w3 by rw [← hw3, ← hw2]; exact (B1.out.alloc B1.out.size _).alloc (by have := B1.out.size; rw [size_alloc']; omega) _)
  have E3 : w3.heap[e0]? = some (.cells #[.int .i64 0, .int .i64 1, .int .i64 2] 46 (0, 0)) := by
    rw [← hw3, hOld _ _ _ (by omega), ← hw2, ← he0]; exact heap_alloc_new _ _
  have G3 : w3.heap[e0 + 1]? = some (.cells #[.int .i64 2, .slice (some ⟨e0, 0, none⟩) 1 1] 24 (0, 0)) := by
    rw [← hw3, ← z2]; exact heap_alloc_new _ _
  have X3 := hide' (show w3.heap[gx]? = some (.cells #[.int .i64 P, .slice ea en ec] 24 (0, 0)) by
    rw [← hw3, hOld _ _ _ (by omega), ← hw2, hOld _ _ _ (by omega), ← hgx]; exact R1.out)
  obtain ⟨w4, hw4⟩ : ∃ w4, w3.alloc (.cells #[.int .i64 0, .int .i64 5] 3) = w4 := ⟨_, rfl⟩
  have b34 : Below w3.heap.size w3 w4 := by rw [← hw4]; exact (Below.refl _ _).alloc (Nat.le_refl _) _
  have AE : ArgE w4 xs2 (some ⟨e0, 0, none⟩) 1 1 := by
    have E4 := (b34.block e0 (by omega)).trans E3
    refine ⟨rfl, by omega, fun k hk => ?_⟩
    have k0 : k = 0 := by
      have : xs2.length = 1 := rfl
      omega
    subst k0
    exact ⟨e0, 0, rfl, ltS_of_block E4, cell_of_row w4 e0 0 _ _ _ E4, cell_of_row w4 e0 1 _ _ _ E4, cell_of_row w4 e0 2 _ _ _ E4⟩
  have AP : ArgP w4 cl2 (some ⟨w3.heap.size, 0, none⟩) 2 2 := by
    have E4 : w4.heap[w3.heap.size]? = some (.cells #[.int .i64 0, .int .i64 5] 3 (0, 0)) := by rw [← hw4]; exact heap_alloc_new _ _
    refine ⟨rfl, by unfold maxLen; omega, fun k hk => ?_⟩
    have k0 : k = 0 ∨ k = 1 := by
      have : cl2.length = 2 := rfl
      omega
    rcases k0 with rfl | rfl
    · exact ⟨_, 0, rfl, ltS_of_block E4, cell_of_row w4 _ 0 _ _ _ E4⟩
    · exact ⟨_, 0, rfl, ltS_of_block E4, cell_of_row w4 _ 1 _ _ _ E4⟩
  have ST := hide' (settleC_any 2 xs2 (some ⟨e0, 0, none⟩) 1 1 0 cl2 (some ⟨w3.heap.size, 0, none⟩) 2 2 w4 AE AP)
  have B4 := hide' (B3.out.trans (b34.mono B3.out.size))
  have X4 := hide' ((b34.block gx (by omega)).trans X3.out)
  have HW4 := hide' hw4
  have y0 := cell_of_row w3 _ 0 _ _ _ G3
  have y1 := cell_of_row w3 _ 1 _ _ _ G3
  simp at y0 y1
  have LG := hide' l0
  have Z4 := hide' (show e0 + 2 < w4.heap.size by rw [← hw4, size_alloc']; omega)
  clear hw2 hw3 hw4 E3 G3 X3 b34 AE AP z2 z3 l0 he0 hgx
  refine reach_nrm sand_mild (by k_ne) funcs4 inits4 (by decide +kernel) rfl ?_
  go_wp2_with fail
  rw [HW4.out]
  refine ST.out.mono ?_
  rintro e w5 ⟨b5, f, hf, hout⟩
  have f0 := hf.only good2.is
  subst f0
  rcases hout with ⟨h, _⟩ | ⟨_, n', sn', fa, fq, ft, u, en', es', rfl, pl, st, rc, ru, hfa, hft, hne⟩
  · exact absurd rfl h
  obtain rfl : n' = 2 := by omega
  obtain rfl : sn' = 0 := by omega
  obtain ⟨t1, t2⟩ := two_facts pl st
  have B5 := hide' (B4.out.trans (b5.mono B4.out.size))
  have X5 := hide' ((b5.block gx (ltS_of_block X4.out)).trans X4.out)
  have RC := hide' rc
  have RU := hide' ru
  have T12 := hide' (And.intro t1 t2)
  clear hf en' es' pl st rc ru hfa hft hne t1 t2 y0 y1 b5
  simp only [slS]
  go_wp2
  obtain ⟨e1, he1⟩ : ∃ e1, w5.heap.size = e1 := ⟨_, rfl⟩
  obtain ⟨w6, hw6⟩ : ∃ w6, w5.alloc (.cells #[.slice (some ⟨fa, 0, none⟩) 2 fq, .slice (some ⟨ft, 0, none⟩) 2 2] 33) = w6 := ⟨_, rfl⟩
  rw [he1, hw6]
  have P6 : w6.heap[e1]? = some (.cells #[.slice (some ⟨fa, 0, none⟩) 2 fq, .slice (some ⟨ft, 0, none⟩) 2 2] 33 (0, 0)) := by rw [← hw6, ← he1]; exact heap_alloc_new _ _
  have b6 : Below w5.heap.size w5 w6 := by rw [← hw6]; exact (Below.refl _ _).alloc (Nat.le_refl _) _
  have B6 := hide' (B5.out.trans (b6.mono B5.out.size))
  have X6 := hide' ((b6.block gx (ltS_of_block X5.out)).trans X5.out)
  have y0 := cell_of_row w6 _ 0 _ _ _ P6
  have y1 := cell_of_row w6 _ 1 _ _ _ P6
  simp at y0 y1
  have c1 := row_cell (RC.out.below b6) (k := 1) (by omega)
  have d1 := row_cell (RU.out.below b6) (k := 1) (by omega)
  rw [T12.out.2] at c1
  rw [T12.out.1] at d1
  clear P6 b6 hw6
  refine reach_nrm sand_mild (by k_ne) funcs4 inits4 (by decide +kernel) rfl ?_
  go_wp2
  clear y0 y1 c1 d1
  rw [← HGX.out]
  exact HN.out _ _ _ _ _ _ _ _ _ _ _ _ _ _ _ _ _ _ _ _ _ _ _ _ _ _ _ _ _ _ _ _ _ _ _ _ _ _ _ _ _ _ _ _ _ _ _ _ _ _ _ _ _ _ _ _ _ _ _ _ _ _ _ _ _ _ _ _ _ _ _ _ _ _ _ _ _ _ _ _ _ _ _ _ _ _ _ _ _ _ _ _ _ _ _ _ _ _ _ _ _ _ _ _ _ _ _ _ _ _ _ _ _ _ _ _ _ _ _ _ _ _ _ _ _ _ _ _ _ _ _ _ _ _ _ _ _ _ _ _ _ _ _ _ _ _ _ _ _ _ _ _ _ _ _ _ _ _ _ _ _ _ _ _ _ _ _ _ _ _ _ _ _ _ _ _ _ _ _ _ _ _ _ _ _ _ _ w6 B6.out (by rw [HGX.out]; exact ltS_of_block X6.out) (by rw [HGX.out]; exact X6.out)
end Go.Proofs.YtpajdmhgonmgoaaDoor

namespace Go.Proofs.YtpajdmhgonmgoaaDoor
open Go.RowKit
set_option linter.unusedVariables false
open Go.Conc Go.ConcN Go.RowKit Go.Conc.Lib Go.ConcR.Gen
open Go.ConcR (KK wgBlock WgAt stA smA rd wr Payload DC0)
set_option linter.unusedSimpArgs false
/-- The run ends well. -/
def LawEnd (P : Program) (Post : Value → World → Prop) (m : Machine) (t : Trace) : Prop := ∃ N last o w' t', runNT P (N + 1) m t = (.ended o w', t') ∧ runN P N m = .next last ∧ step P last = .ended o w' ∧ Go.Conc.Good P Post last o w' t'
theorem ev_iface (w : World) (et : TypeId) (ed : Value) : (binOp .neq 28 (.iface et ed) .nilIface).events Tryd.prog w #[] = #[] := by
  have h : ∀ (d : Nat) (es : Array Event), (Op.equalIn (d + 1) 28 (.iface et ed) .nilIface).events Tryd.prog w es = es := fun d es => by
    simp [Op.equalIn, run_underlying Tryd.underlying28]
  simp only [binOp]
  simp [Op.equal, Op.maxDepth, h 9999]
set_option maxRecDepth 100000 in
set_option maxHeartbeats 6400000 in
theorem law_err {Post : Value → World → Prop} {et : TypeId} {ed : Value} {V : World} (hpost : ∀ d, Post (.bool true) (V.at d)) (x0 x1 x2 x3 x4 x5 x6 x7 x8 x9 x10 x11 x12 x13 x14 x16 x17 x18 x19 x20 x21 x22 x23 x24 x25 x26 x27 x28 x29 x30 x31 x32 x33 x34 x35 x36 x37 x38 x39 x40 x41 x42 x43 x44 x45 x46 x47 x48 x49 x50 x51 x52 x53 x54 x55 x56 x57 x58 x59 x60 x61 x62 x63 x64 x65 x66 x67 x68 x69 x70 x71 x72 x73 x74 x75 x76 x77 x78 x79 x80 x81 x82 x83 x84 x85 x86 x87 x88 x89 x90 x91 x92 x93 x94 x95 x96 x97 x98 x99 x100 x101 x102 x103 x104 x105 x106 x107 x108 x109 x110 x111 x112 x113 x114 x115 x116 x117 x118 x119 x120 x121 x122 x123 x124 x125 x126 x127 x128 x129 x130 x131 x132 x133 x134 x135 x136 x137 x138 x139 x140 x141 x142 x143 x144 x145 x146 x147 x148 x149 x150 x151 x152 x153 x154 x155 x156 x157 x158 x159 x160 x161 x162 x163 x164 x165 x166 x167 x168 x169 x170 x171 x172 x173 x174 x175 x176 x177 x178 x179 x180 x181 x182 x183 x184 x185 x186 x187 x188 x189 x190 x191 x192 x193 : Value) :
    Reach Tryd.prog (G ((base 4).at ⟨#[x0, x1, x2, x3, x4, x5, x6, x7, x8, x9, x10, x11, x12, x13, x14, (.iface et ed), x16, x17, x18, x19, x20, x21, x22, x23, x24, x25, x26, x27, x28, x29, x30, x31, x32, x33, x34, x35, x36, x37, x38, x39, x40, x41, x42, x43, x44, x45, x46, x47, x48, x49, x50, x51, x52, x53, x54, x55, x56, x57, x58, x59, x60, x61, x62, x63, x64, x65, x66, x67, x68, x69, x70, x71, x72, x73, x74, x75, x76, x77, x78, x79, x80, x81, x82, x83, x84, x85, x86, x87, x88, x89, x90, x91, x92, x93, x94, x95, x96, x97, x98, x99, x100, x101, x102, x103, x104, x105, x106, x107, x108, x109, x110, x111, x112, x113, x114, x115, x116, x117, x118, x119, x120, x121, x122, x123, x124, x125, x126, x127, x128, x129, x130, x131, x132, x133, x134, x135, x136, x137, x138, x139, x140, x141, x142, x143, x144, x145, x146, x147, x148, x149, x150, x151, x152, x153, x154, x155, x156, x157, x158, x159, x160, x161, x162, x163, x164, x165, x166, x167, x168, x169, x170, x171, x172, x173, x174, x175, x176, x177, x178, x179, x180, x181, x182, x183, x184, x185, x186, x187, x188, x189, x190, x191, x192, x193], []⟩ [.code (cR (cR (cR (cR (cR (bodyOf Tryd.f4))))))]) []) V (LawEnd Tryd.prog Post) := by
  have hc := atRel_c
  simp only [cO, cL, cR, bodyOf, Tryd.f4, Option.getD_some]
  refine Reach.bes fun m t hb => ?_
  have key := fun hG => bes_ends (Post := Post) (n := 40) (F := AtRel V) hG (atRel_refl V) hb
  obtain ⟨N, last, o, w', t', h1, h2, h3, h4⟩ := key (by
    refine gp_seq (hc _) ?_
    refine gp_seq (hc _) ?_
    refine gp_region (hc _) ?_
    try simp only [List.size_toArray, List.length_cons, List.length_nil, Nat.reduceAdd, Nat.zero_add, List.range, List.range.loop]
    refine gp_opk (hc _) rfl rfl (by k_ne) (fun w hF K' hK => ?_)
    go_simp
    with_reducible refine hK _ (fun e' he => ?_) ?_
    · (clear hK; simp [go_sem, ev_iface] at he)
    clear hK K' hF
    clear w
    try walk_nrm
    refine gp_opk (hc _) rfl rfl (by k_ne) (fun w hF K' hK => ?_)
    go_simp
    with_reducible refine hK _ (fun e' he => ?_) ?_
    · (clear hK; simp [go_sem, ev_iface] at he)
    clear hK K' hF
    clear w
    try walk_nrm
    refine gp_done (hc _) ?_
    refine gp_cond (hc _) true ?_ ?_
    · (first | rfl | (simp [Act.eval, *]; done))
    simp only [if_true, ↓reduceIte]
    refine gp_seq (hc _) ?_
    refine gp_region (hc _) ?_
    try simp only [List.size_toArray, List.length_cons, List.length_nil, Nat.reduceAdd, Nat.zero_add, List.range, List.range.loop]
    refine gp_opk (hc _) rfl rfl (by k_ne) (fun w hF K' hK => ?_)
    go_simp
    with_reducible refine hK _ (fun e' he => ?_) ?_
    · (clear hK; simp [go_sem] at he)
    clear hK K' hF
    clear w
    try walk_nrm
    refine gp_done (hc _) ?_
    refine gp_ret (hc _) ?_
    refine Gp.stop (hc _) (fun w hF => ⟨rfl, .bool true, #[], ?_, fun e he => by simp at he, ?_⟩)
    · exact ends_here rfl rfl Tryd.func4 inits4 rfl rfl
    · obtain ⟨d3, rfl⟩ := hF
      exact hpost _
    )
  exact ⟨0, m, t, rfl, N, last, o, w', t', h1, h2, h3, h4⟩
end Go.Proofs.YtpajdmhgonmgoaaDoor

namespace Go.Proofs.YtpajdmhgonmgoaaDoor
open Go.RowKit
set_option linter.unusedVariables false
open Go.Conc Go.ConcN Go.RowKit
set_option linter.unusedSimpArgs false
/-- The law's own pile, settled. -/
structure SetA (w : World) (P s : Int) (xs : List EgT) (cl : List Int) (gx : Nat) (ea : Option Addr) (en ec pa n sn fa fq ta : Nat) (ua : Nat → Int) (V : World) : Prop where
  bl : Below w.heap.size w V
  gr : V.heap[gx]? = some (.cells #[.int .i64 P, .slice ea en ec] 24 (0, 0))
  eP : P = (n : Int)
  es : s = (sn : Int)
  ok : GoodC n sn xs cl
  pl : PlS n sn (btX xs) (chF cl) ua
  st : stillS n sn (btX xs) (chF cl) ua
  pile : V.heap[pa]? = some (.cells #[.slice (some ⟨fa, 0, none⟩) n fq, .slice (some ⟨ta, 0, none⟩) n n] 33 (0, 0))
  chips : RowAt V fa n (chS n sn (btX xs) (chF cl) ua)
  often : RowAt V ta n ua
  far : w.heap.size < pa ∧ w.heap.size < fa ∧ w.heap.size < ta ∧ fa ≠ ta
set_option maxRecDepth 100000 in
set_option maxHeartbeats 12800000 in
theorem law_second {Post : Value → World → Prop} {P s wk : Int} {en ec cn cc on oc : Nat} {xs : List EgT} {cl : List Int} {ea ca oa : Option Addr} {w W : World} {gx : Nat} (hE : ArgE w xs ea en ec) (hC : ArgP w cl ca cn cc) (hW : Below w.heap.size w W) (egx : gx = w.heap.size) (hgx : W.heap[gx]? = some (.cells #[.int .i64 P, .slice ea en ec] 24 (0, 0)))
    (hpost : ∀ V, Below w.heap.size w V → Post (.bool true) V)
    (hN : ∀ (x6 x7 x8 x9 x11 x12 x13 x16 x17 x18 x19 x20 x21 x22 x23 x24 x25 x26 x27 x28 x29 x30 x31 x32 x33 x34 x35 x36 x37 x38 x39 x40 x41 x42 x43 x44 x45 x46 x47 x48 x49 x50 x51 x52 x53 x54 x55 x56 x57 x58 x59 x60 x61 x62 x63 x64 x65 x66 x67 x68 x69 x70 x71 x72 x73 x74 x75 x76 x77 x78 x79 x80 x81 x82 x83 x84 x85 x86 x87 x88 x89 x90 x91 x92 x93 x94 x95 x96 x97 x98 x99 x100 x101 x102 x103 x104 x105 x106 x107 x108 x109 x110 x111 x112 x113 x114 x115 x116 x117 x118 x119 x120 x121 x122 x123 x124 x125 x126 x127 x128 x129 x130 x131 x132 x133 x134 x135 x136 x137 x138 x139 x140 x141 x142 x143 x144 x145 x146 x147 x148 x149 x150 x151 x152 x153 x154 x155 x156 x157 x158 x159 x160 x161 x162 x163 x164 x165 x166 x167 x168 x169 x170 x171 x172 x173 x174 x175 x176 x177 x178 x179 x180 x181 x182 x183 x184 x185 x186 x187 x188 x189 x190 x191 x192 x193 : Value) (V : World) (pa n sn fa fq ta : Nat) (ua : Nat → Int), SetA w P s xs cl gx ea en ec pa n sn fa fq ta ua V → Reach Tryd.prog (G ((base 4).at ⟨#[(.agg #[.int .i64 P, .slice ea en ec]), (.int .i64 s), (.slice ca cn cc), (.slice oa on oc), (.int .i64 wk), (.pointer (some ⟨gx, 0, none⟩)), x6, x7, x8, x9, (.bool false), x11, x12, x13, (.pointer (some ⟨pa, 0, none⟩)), .nilIface, x16, x17, x18, x19, x20, x21, x22, x23, x24, x25, x26, x27, x28, x29, x30, x31, x32, x33, x34, x35, x36, x37, x38, x39, x40, x41, x42, x43, x44, x45, x46, x47, x48, x49, x50, x51, x52, x53, x54, x55, x56, x57, x58, x59, x60, x61, x62, x63, x64, x65, x66, x67, x68, x69, x70, x71, x72, x73, x74, x75, x76, x77, x78, x79, x80, x81, x82, x83, x84, x85, x86, x87, x88, x89, x90, x91, x92, x93, x94, x95, x96, x97, x98, x99, x100, x101, x102, x103, x104, x105, x106, x107, x108, x109, x110, x111, x112, x113, x114, x115, x116, x117, x118, x119, x120, x121, x122, x123, x124, x125, x126, x127, x128, x129, x130, x131, x132, x133, x134, x135, x136, x137, x138, x139, x140, x141, x142, x143, x144, x145, x146, x147, x148, x149, x150, x151, x152, x153, x154, x155, x156, x157, x158, x159, x160, x161, x162, x163, x164, x165, x166, x167, x168, x169, x170, x171, x172, x173, x174, x175, x176, x177, x178, x179, x180, x181, x182, x183, x184, x185, x186, x187, x188, x189, x190, x191, x192, x193], []⟩ [.code (cR (cR (cR (cR (cR (cR (bodyOf Tryd.f4)))))))]) []) V (LawEnd Tryd.prog Post)) (x6 x7 x8 x9 x11 x12 x13 x14 x15 x16 x17 x18 x19 x20 x21 x22 x23 x24 x25 x26 x27 x28 x29 x30 x31 x32 x33 x34 x35 x36 x37 x38 x39 x40 x41 x42 x43 x44 x45 x46 x47 x48 x49 x50 x51 x52 x53 x54 x55 x56 x57 x58 x59 x60 x61 x62 x63 x64 x65 x66 x67 x68 x69 x70 x71 x72 x73 x74 x75 x76 x77 x78 x79 x80 x81 x82 x83 x84 x85 x86 x87 x88 x89 x90 x91 x92 x93 x94 x95 x96 x97 x98 x99 x100 x101 x102 x103 x104 x105 x106 x107 x108 x109 x110 x111 x112 x113 x114 x115 x116 x117 x118 x119 x120 x121 x122 x123 x124 x125 x126 x127 x128 x129 x130 x131 x132 x133 x134 x135 x136 x137 x138 x139 x140 x141 x142 x143 x144 x145 x146 x147 x148 x149 x150 x151 x152 x153 x154 x155 x156 x157 x158 x159 x160 x161 x162 x163 x164 x165 x166 x167 x168 x169 x170 x171 x172 x173 x174 x175 x176 x177 x178 x179 x180 x181 x182 x183 x184 x185 x186 x187 x188 x189 x190 x191 x192 x193 : Value) :
    Reach Tryd.prog (G ((base 4).at ⟨#[(.agg #[.int .i64 P, .slice ea en ec]), (.int .i64 s), (.slice ca cn cc), (.slice oa on oc), (.int .i64 wk), (.pointer (some ⟨gx, 0, none⟩)), x6, x7, x8, x9, (.bool false), x11, x12, x13, x14, x15, x16, x17, x18, x19, x20, x21, x22, x23, x24, x25, x26, x27, x28, x29, x30, x31, x32, x33, x34, x35, x36, x37, x38, x39, x40, x41, x42, x43, x44, x45, x46, x47, x48, x49, x50, x51, x52, x53, x54, x55, x56, x57, x58, x59, x60, x61, x62, x63, x64, x65, x66, x67, x68, x69, x70, x71, x72, x73, x74, x75, x76, x77, x78, x79, x80, x81, x82, x83, x84, x85, x86, x87, x88, x89, x90, x91, x92, x93, x94, x95, x96, x97, x98, x99, x100, x101, x102, x103, x104, x105, x106, x107, x108, x109, x110, x111, x112, x113, x114, x115, x116, x117, x118, x119, x120, x121, x122, x123, x124, x125, x126, x127, x128, x129, x130, x131, x132, x133, x134, x135, x136, x137, x138, x139, x140, x141, x142, x143, x144, x145, x146, x147, x148, x149, x150, x151, x152, x153, x154, x155, x156, x157, x158, x159, x160, x161, x162, x163, x164, x165, x166, x167, x168, x169, x170, x171, x172, x173, x174, x175, x176, x177, x178, x179, x180, x181, x182, x183, x184, x185, x186, x187, x188, x189, x190, x191, x192, x193], []⟩ [.code (cR (cR (cR (cR (bodyOf Tryd.f4)))))]) []) W (LawEnd Tryd.prog Post) := by
  have HN := hide' hN
  have HP := hide' hpost
  have HW := hide' hW
  have ST := hide' (settleC_any P xs ea en ec s cl ca cn cc W (hE.below hW) (hC.below hW))
  have X := hide' hgx
  have EG := hide' egx
  have y0 := cell_of_row W _ 0 _ _ _ hgx
  have y1 := cell_of_row W _ 1 _ _ _ hgx
  simp at y0 y1
  have LE := hide' (fun (V : World) (et : TypeId) (ed : Value) (h : Below w.heap.size w V) => fun x0 x1 x2 x3 x4 x5 x6 x7 x8 x9 x10 x11 x12 x13 x14 x16 x17 x18 x19 x20 x21 x22 x23 x24 x25 x26 x27 x28 x29 x30 x31 x32 x33 x34 x35 x36 x37 x38 x39 x40 x41 x42 x43 x44 x45 x46 x47 x48 x49 x50 x51 x52 x53 x54 x55 x56 x57 x58 x59 x60 x61 x62 x63 x64 x65 x66 x67 x68 x69 x70 x71 x72 x73 x74 x75 x76 x77 x78 x79 x80 x81 x82 x83 x84 x85 x86 x87 x88 x89 x90 x91 x92 x93 x94 x95 x96 x97 x98 x99 x100 x101 x102 x103 x104 x105 x106 x107 x108 x109 x110 x111 x112 x113 x114 x115 x116 x117 x118 x119 x120 x121 x122 x123 x124 x125 x126 x127 x128 x129 x130 x131 x132 x133 x134 x135 x136 x137 x138 x139 x140 x141 x142 x143 x144 x145 x146 x147 x148 x149 x150 x151 x152 x153 x154 x155 x156 x157 x158 x159 x160 x161 x162 x163 x164 x165 x166 x167 x168 x169 x170 x171 x172 x173 x174 x175 x176 x177 x178 x179 x180 x181 x182 x183 x184 x185 x186 x187 x188 x189 x190 x191 x192 x193 => law_err (Post := Post) (et := et) (ed := ed) (V := V) (fun d => HP.out _ ⟨h.os, h.tape, h.output, h.size, h.block⟩) x0 x1 x2 x3 x4 x5 x6 x7 x8 x9 x10 x11 x12 x13 x14 x16 x17 x18 x19 x20 x21 x22 x23 x24 x25 x26 x27 x28 x29 x30 x31 x32 x33 x34 x35 x36 x37 x38 x39 x40 x41 x42 x43 x44 x45 x46 x47 x48 x49 x50 x51 x52 x53 x54 x55 x56 x57 x58 x59 x60 x61 x62 x63 x64 x65 x66 x67 x68 x69 x70 x71 x72 x73 x74 x75 x76 x77 x78 x79 x80 x81 x82 x83 x84 x85 x86 x87 x88 x89 x90 x91 x92 x93 x94 x95 x96 x97 x98 x99 x100 x101 x102 x103 x104 x105 x106 x107 x108 x109 x110 x111 x112 x113 x114 x115 x116 x117 x118 x119 x120 x121 x122 x123 x124 x125 x126 x127 x128 x129 x130 x131 x132 x133 x134 x135 x136 x137 x138 x139 x140 x141 x142 x143 x144 x145 x146 x147 x148 x149 x150 x151 x152 x153 x154 x155 x156 x157 x158 x159 x160 x161 x162 x163 x164 x165 x166 x167 x168 x169 x170 x171 x172 x173 x174 x175 x176 x177 x178 x179 x180 x181 x182 x183 x184 x185 x186 x187 x188 x189 x190 x191 x192 x193)
  clear hN hE hC hW hgx hpost egx
  simp only [cR, bodyOf, Tryd.f4, Option.getD_some] at HN LE
  simp only [cR, bodyOf, Tryd.f4, Option.getD_some]
  refine reach_nrm sand_mild (by k_ne) funcs4 inits4 (by decide +kernel) rfl ?_
  go_wp2_with fail
  refine ST.out.mono ?_
  rintro e w5 ⟨b5, f, hf, hout⟩
  have B5 := hide' (HW.out.trans (b5.mono HW.out.size))
  have X5 := hide' ((b5.block gx (ltS_of_block X.out)).trans X.out)
  have S5 := hide' (show gx < W.heap.size ∧ W.heap.size ≤ w5.heap.size from ⟨ltS_of_block X.out, b5.size⟩)
  obtain ⟨e1, he1⟩ : ∃ e1, w5.heap.size = e1 := ⟨_, rfl⟩
  have HF := hide' hf
  have HOUT := hide' hout
  have Q5 := hide' (show ∀ (v1 v2 : Value) (V : World), w5.alloc (.cells #[v1, v2] 33) = V → Below w5.heap.size w5 V ∧ V.heap[w5.heap.size]? = some (.cells #[v1, v2] 33 (0, 0)) from fun v1 v2 V h => by
    rw [← h]; exact ⟨(Below.refl _ _).alloc (Nat.le_refl _) _, heap_alloc_new _ _⟩)
  clear hf hout y0 y1 b5
  rcases HOUT.out with ⟨h0, rfl⟩ | ⟨h0, n, sn, fa, fq, ta, u, en', es', rfl, pl, st, rc, ru, hfa, hft, hne⟩
  · rw [errOf_not h0]
    clear HOUT h0 HF
    go_wp2
    obtain ⟨w6, hw6⟩ : ∃ w6, w5.alloc (.cells #[.slice none 0 0, .slice none 0 0] 33) = w6 := ⟨_, rfl⟩
    obtain ⟨b6, _⟩ := Q5.out _ _ w6 hw6
    rw [hw6]
    exact LE.out w6 _ _ (B5.out.trans (b6.mono B5.out.size)) _ _ _ _ _ _ _ _ _ _ _ _ _ _ _ _ _ _ _ _ _ _ _ _ _ _ _ _ _ _ _ _ _ _ _ _ _ _ _ _ _ _ _ _ _ _ _ _ _ _ _ _ _ _ _ _ _ _ _ _ _ _ _ _ _ _ _ _ _ _ _ _ _ _ _ _ _ _ _ _ _ _ _ _ _ _ _ _ _ _ _ _ _ _ _ _ _ _ _ _ _ _ _ _ _ _ _ _ _ _ _ _ _ _ _ _ _ _ _ _ _ _ _ _ _ _ _ _ _ _ _ _ _ _ _ _ _ _ _ _ _ _ _ _ _ _ _ _ _ _ _ _ _ _ _ _ _ _ _ _ _ _ _ _ _ _ _ _ _ _ _ _ _ _ _ _ _ _ _ _ _ _ _ _ _ _ _ _ _ _ _ _ _
  · subst h0
    obtain ⟨n2, sn2, en2, es2, GC⟩ := good_of HF.out
    obtain rfl : n = n2 := by omega
    obtain rfl : sn = sn2 := by omega
    simp only [slS]
    have FA := hide' (And.intro hfa (And.intro hft hne))
    have PL := hide' pl
    have SS := hide' st
    have RC := hide' rc
    have RU := hide' ru
    have EP := hide' (And.intro en' es')
    have HG := hide' GC
    clear HOUT pl st rc ru hfa hft hne en' es' en2 es2 GC HF
    go_wp2
    obtain ⟨w6, hw6⟩ : ∃ w6, w5.alloc (.cells #[.slice (some ⟨fa, 0, none⟩) n fq, .slice (some ⟨ta, 0, none⟩) n n] 33) = w6 := ⟨_, rfl⟩
    obtain ⟨b6, p6⟩ := Q5.out _ _ w6 hw6
    rw [hw6]
    have SA := hide' (show SetA w P s xs cl gx ea en ec e1 n sn fa fq ta u w6 from ⟨B5.out.trans (b6.mono B5.out.size), (b6.block gx (ltS_of_block X5.out)).trans X5.out, EP.out.1, EP.out.2, HG.out, PL.out, SS.out, by rw [← he1]; exact p6, RC.out.below b6, RU.out.below b6, by
      have h1 := FA.out
      have h2 := S5.out
      have h3 := EG.out
      exact ⟨by omega, by omega, by omega, h1.2.2⟩⟩)
    clear b6 p6 hw6 he1
    show Reach _ _ _ _
    refine reach_nrm sand_mild (by k_ne) funcs4 inits4 (by decide +kernel) rfl ?_
    go_wp2
    exact HN.out _ _ _ _ _ _ _ _ _ _ _ _ _ _ _ _ _ _ _ _ _ _ _ _ _ _ _ _ _ _ _ _ _ _ _ _ _ _ _ _ _ _ _ _ _ _ _ _ _ _ _ _ _ _ _ _ _ _ _ _ _ _ _ _ _ _ _ _ _ _ _ _ _ _ _ _ _ _ _ _ _ _ _ _ _ _ _ _ _ _ _ _ _ _ _ _ _ _ _ _ _ _ _ _ _ _ _ _ _ _ _ _ _ _ _ _ _ _ _ _ _ _ _ _ _ _ _ _ _ _ _ _ _ _ _ _ _ _ _ _ _ _ _ _ _ _ _ _ _ _ _ _ _ _ _ _ _ _ _ _ _ _ _ _ _ _ _ _ _ _ _ _ _ _ _ _ _ _ _ _ _ _ _ _ _ w6 e1 n sn fa fq ta u SA.out
end Go.Proofs.YtpajdmhgonmgoaaDoor

